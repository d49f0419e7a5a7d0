/-
  NARROWER THAN 'FOR EVERY INPUT', by the rows' own cells (each row's printed sentence says how): ChopTakes: laid · ChopParts: laid · ChopKeeps: laid · ChopPreface: laid · ChopGoes: laid.
  DERIVED. THE GIVEN ROWS OF THIS SEAT. 5 by the template 'for every input the law returns true; each argument reads behind the call as it read before'; 0 by the template 'total and deterministic' (their statements: YtglhdlkmgmbgeaaDoorTotals.lean).
  GIVEN WITH THE SEED: the statements are not yours to turn. If you find one false, say at which input.
  Laid BY PROGRAM, IN A SANDBOX (cutbox-rows.mjs): the forced cells as the released guide's own fill.sh prints them over the translation ec49f0f6066b69cf… (all of the seat's roots in one cut). By AI agents, Wed Nov 11 2026. No macro, syntax, notation, axiom, sorry.
-/
import Derived.Test.YtglhdlkmgmbgeaaDoorChecked
import GoSem.Claim
import GoSem.ClaimJoined
import GoSem.ClaimMapViews
import Derived.JoinedTies
import Derived.KernelRfl
namespace Go.Proofs.YtglhdlkmgmbgeaaDoor
/- THE CELL 'sum', in the pinned program and in every row, IS THE sha256 OF THE DUMP (.gsa) THAT YtglhdlkmgmbgeaaDoorProg.lean LOADS. Nothing in Lean hashes anything: it is a label: what it is worth is what the hold of that sum in a sandbox is worth. -/
noncomputable def Tryd.pinned : Pinned := { name := "ytglhdlkmgmbgeaadoor", sum := "ec49f0f6066b69cf3eb802d991e82f6e57d03cb476e081bf51d0a49b7d29cc21", checked := Tryd.checked }
namespace Rows
def none {H : Type} : Left H := { results := [], args := [] }

/- WHAT THE LISTED PACKAGE-LEVEL VARIABLES READ AS WHEN THE CALL BEGINS. Each datum BY PROGRAM (the guide's laid-datum.mjs) off the statement by which the dump's own 'gosem.cut.vars' lays the variable. In a bare row this is a premise. The card (YtglhdlkmgmbgeaaDoorCards.lean) ties it to the program's text. -/
def laid_drawbridge_frame_spans {H : Type} : DataW H := .agg [.agg [.lit (.int .i64 0), .lit (.int .i64 16777215), .lit (.int .i64 1)], .agg [.lit (.int .i64 0), .lit (.int .i64 16777215), .lit (.int .i64 1)], .agg [.lit (.int .i64 5), .lit (.int .i64 5), .lit (.int .i64 1)], .agg [.lit (.int .i64 4), .lit (.int .i64 4), .lit (.int .i64 1)], .agg [.lit (.int .i64 0), .lit (.int .i64 16777215), .lit (.int .i64 6)], .agg [.lit (.int .i64 0), .lit (.int .i64 16777215), .lit (.int .i64 1)], .agg [.lit (.int .i64 8), .lit (.int .i64 8), .lit (.int .i64 1)], .agg [.lit (.int .i64 8), .lit (.int .i64 16777215), .lit (.int .i64 1)], .agg [.lit (.int .i64 4), .lit (.int .i64 4), .lit (.int .i64 1)], .agg [.lit (.int .i64 0), .lit (.int .i64 16777215), .lit (.int .i64 1)]]

/-- 'drawbridgelaw07.ChopTakes': WHATEVER THE INPUT: true; the input reads as it did. -/
def chopTakesSpec : ChangeSpec := { name := "chopTakes", fn := fun _ => fun
  | [d1, d2, d3] => { results := [.lit (.bool true)], args := [d1, d2, d3] }
  | _ => none }
def chopTakesRow : OpenClaim := { program := "ytglhdlkmgmbgeaadoor", sum := "ec49f0f6066b69cf3eb802d991e82f6e57d03cb476e081bf51d0a49b7d29cc21", func := "drawbridge/drawbridgelaw07.ChopTakes", spec := "chopTakes", unfollowed := true, recurses := true, named := ["drawbridge/frame.spans"], apart := false, laid := [("drawbridge/frame.spans", laid_drawbridge_frame_spans)] }
def ChopTakesSaid : Prop := chopTakesRow.holds Tryd.pinned (OpenSpec.ofChange chopTakesSpec)

/-- ITS FALSE NEIGHBOUR: 'it returns false'. Refute it at one input. -/
def chopTakesWrong : ChangeSpec := { name := "chopTakes", fn := fun _ => fun
  | [d1, d2, d3] => { results := [.lit (.bool false)], args := [d1, d2, d3] }
  | _ => none }
def ChopTakesWrongFalsely : Prop := chopTakesRow.holds Tryd.pinned (OpenSpec.ofChange chopTakesWrong)

/-- 'drawbridgelaw07.ChopParts': WHATEVER THE INPUT: true; the input reads as it did. -/
def chopPartsSpec : ChangeSpec := { name := "chopParts", fn := fun _ => fun
  | [d1, d2, d3] => { results := [.lit (.bool true)], args := [d1, d2, d3] }
  | _ => none }
def chopPartsRow : OpenClaim := { program := "ytglhdlkmgmbgeaadoor", sum := "ec49f0f6066b69cf3eb802d991e82f6e57d03cb476e081bf51d0a49b7d29cc21", func := "drawbridge/drawbridgelaw07.ChopParts", spec := "chopParts", unfollowed := true, recurses := true, named := ["drawbridge/frame.spans"], apart := false, laid := [("drawbridge/frame.spans", laid_drawbridge_frame_spans)] }
def ChopPartsSaid : Prop := chopPartsRow.holds Tryd.pinned (OpenSpec.ofChange chopPartsSpec)

/-- ITS FALSE NEIGHBOUR: 'it returns false'. Refute it at one input. -/
def chopPartsWrong : ChangeSpec := { name := "chopParts", fn := fun _ => fun
  | [d1, d2, d3] => { results := [.lit (.bool false)], args := [d1, d2, d3] }
  | _ => none }
def ChopPartsWrongFalsely : Prop := chopPartsRow.holds Tryd.pinned (OpenSpec.ofChange chopPartsWrong)

/-- 'drawbridgelaw07.ChopKeeps': WHATEVER THE INPUT: true; the input reads as it did. -/
def chopKeepsSpec : ChangeSpec := { name := "chopKeeps", fn := fun _ => fun
  | [d1, d2, d3] => { results := [.lit (.bool true)], args := [d1, d2, d3] }
  | _ => none }
def chopKeepsRow : OpenClaim := { program := "ytglhdlkmgmbgeaadoor", sum := "ec49f0f6066b69cf3eb802d991e82f6e57d03cb476e081bf51d0a49b7d29cc21", func := "drawbridge/drawbridgelaw07.ChopKeeps", spec := "chopKeeps", unfollowed := true, recurses := true, named := ["drawbridge/frame.spans"], apart := false, laid := [("drawbridge/frame.spans", laid_drawbridge_frame_spans)] }
def ChopKeepsSaid : Prop := chopKeepsRow.holds Tryd.pinned (OpenSpec.ofChange chopKeepsSpec)

/-- ITS FALSE NEIGHBOUR: 'it returns false'. Refute it at one input. -/
def chopKeepsWrong : ChangeSpec := { name := "chopKeeps", fn := fun _ => fun
  | [d1, d2, d3] => { results := [.lit (.bool false)], args := [d1, d2, d3] }
  | _ => none }
def ChopKeepsWrongFalsely : Prop := chopKeepsRow.holds Tryd.pinned (OpenSpec.ofChange chopKeepsWrong)

/-- 'drawbridgelaw07.ChopPreface': WHATEVER THE INPUT: true; the input reads as it did. -/
def chopPrefaceSpec : ChangeSpec := { name := "chopPreface", fn := fun _ => fun
  | [d1, d2, d3] => { results := [.lit (.bool true)], args := [d1, d2, d3] }
  | _ => none }
def chopPrefaceRow : OpenClaim := { program := "ytglhdlkmgmbgeaadoor", sum := "ec49f0f6066b69cf3eb802d991e82f6e57d03cb476e081bf51d0a49b7d29cc21", func := "drawbridge/drawbridgelaw07.ChopPreface", spec := "chopPreface", unfollowed := true, recurses := true, named := ["drawbridge/frame.spans"], apart := false, laid := [("drawbridge/frame.spans", laid_drawbridge_frame_spans)] }
def ChopPrefaceSaid : Prop := chopPrefaceRow.holds Tryd.pinned (OpenSpec.ofChange chopPrefaceSpec)

/-- ITS FALSE NEIGHBOUR: 'it returns false'. Refute it at one input. -/
def chopPrefaceWrong : ChangeSpec := { name := "chopPreface", fn := fun _ => fun
  | [d1, d2, d3] => { results := [.lit (.bool false)], args := [d1, d2, d3] }
  | _ => none }
def ChopPrefaceWrongFalsely : Prop := chopPrefaceRow.holds Tryd.pinned (OpenSpec.ofChange chopPrefaceWrong)

/-- 'drawbridgelaw07.ChopGoes': WHATEVER THE INPUT: true; the input reads as it did. -/
def chopGoesSpec : ChangeSpec := { name := "chopGoes", fn := fun _ => fun
  | [d1, d2] => { results := [.lit (.bool true)], args := [d1, d2] }
  | _ => none }
def chopGoesRow : OpenClaim := { program := "ytglhdlkmgmbgeaadoor", sum := "ec49f0f6066b69cf3eb802d991e82f6e57d03cb476e081bf51d0a49b7d29cc21", func := "drawbridge/drawbridgelaw07.ChopGoes", spec := "chopGoes", unfollowed := true, recurses := true, named := ["drawbridge/frame.spans"], apart := false, laid := [("drawbridge/frame.spans", laid_drawbridge_frame_spans)] }
def ChopGoesSaid : Prop := chopGoesRow.holds Tryd.pinned (OpenSpec.ofChange chopGoesSpec)

/-- ITS FALSE NEIGHBOUR: 'it returns false'. Refute it at one input. -/
def chopGoesWrong : ChangeSpec := { name := "chopGoes", fn := fun _ => fun
  | [d1, d2] => { results := [.lit (.bool false)], args := [d1, d2] }
  | _ => none }
def ChopGoesWrongFalsely : Prop := chopGoesRow.holds Tryd.pinned (OpenSpec.ofChange chopGoesWrong)

/- THE SECOND FORM. 'bulk': how many values and letters a reading holds, each counted each time it is reached (what is shared counts as often as it is met; a slice's spare places count too). A statement '..UptoSaid' is the law's where the arguments, and the package variables that the reading takes, are together of bulk at most 1048576: NARROWER than '..Said'. Prove '..Said' where nothing that the law and all that it calls make is longer than what came in: it says more and counts as full. Else prove '..UptoSaid'. A law counts once. -/
mutual
def uptoBulk {H : Type} : DataW H → Nat
  | .lit (.string bytes) => bytes.length + 1
  | .lit _ => 1
  | .nil => 1
  | .ptr d => uptoBulk d + 1
  | .slice elems spare => uptoBulkAll elems + uptoBulkAll spare + 1
  | .agg parts => uptoBulkAll parts + 1
  | .iface _ d => uptoBulk d + 1
  | .map entries => uptoBulkEntries entries + 1
  | .held _ => 1
def uptoBulkAll {H : Type} : List (DataW H) → Nat
  | [] => 0
  | d :: r => uptoBulk d + uptoBulkAll r
def uptoBulkEntries {H : Type} : List (Lit × DataW H) → Nat
  | [] => 0
  | x :: r => uptoBulkEntry x + uptoBulkEntries r
def uptoBulkEntry {H : Type} : Lit × DataW H → Nat
  | (.string bytes, d) => bytes.length + uptoBulk d + 1
  | (_, d) => uptoBulk d + 1
 end
def uptoSmall : (H : Type) → List (DataW H) → Bool := fun _ ds => decide (uptoBulkAll ds ≤ 1048576)
def OpenSpec.upto (s : _root_.Go.ChangeSpec) : _root_.Go.OpenSpec := { _root_.Go.OpenSpec.ofChange s with cond := some uptoSmall }

/-- 'drawbridgelaw07.ChopTakes', WHERE WHAT IT READS IS OF BULK AT MOST 1048576: true; the input reads as it did. -/
def chopTakesUptoRow : OpenClaim := { program := "ytglhdlkmgmbgeaadoor", sum := "ec49f0f6066b69cf3eb802d991e82f6e57d03cb476e081bf51d0a49b7d29cc21", func := "drawbridge/drawbridgelaw07.ChopTakes", spec := "chopTakes", unfollowed := true, recurses := true, named := ["drawbridge/frame.spans"], apart := false, laid := [("drawbridge/frame.spans", laid_drawbridge_frame_spans)], narrowed := true }
def ChopTakesUptoSaid : Prop := chopTakesUptoRow.holds Tryd.pinned (OpenSpec.upto chopTakesSpec)

/-- 'drawbridgelaw07.ChopParts', WHERE WHAT IT READS IS OF BULK AT MOST 1048576: true; the input reads as it did. -/
def chopPartsUptoRow : OpenClaim := { program := "ytglhdlkmgmbgeaadoor", sum := "ec49f0f6066b69cf3eb802d991e82f6e57d03cb476e081bf51d0a49b7d29cc21", func := "drawbridge/drawbridgelaw07.ChopParts", spec := "chopParts", unfollowed := true, recurses := true, named := ["drawbridge/frame.spans"], apart := false, laid := [("drawbridge/frame.spans", laid_drawbridge_frame_spans)], narrowed := true }
def ChopPartsUptoSaid : Prop := chopPartsUptoRow.holds Tryd.pinned (OpenSpec.upto chopPartsSpec)

/-- 'drawbridgelaw07.ChopKeeps', WHERE WHAT IT READS IS OF BULK AT MOST 1048576: true; the input reads as it did. -/
def chopKeepsUptoRow : OpenClaim := { program := "ytglhdlkmgmbgeaadoor", sum := "ec49f0f6066b69cf3eb802d991e82f6e57d03cb476e081bf51d0a49b7d29cc21", func := "drawbridge/drawbridgelaw07.ChopKeeps", spec := "chopKeeps", unfollowed := true, recurses := true, named := ["drawbridge/frame.spans"], apart := false, laid := [("drawbridge/frame.spans", laid_drawbridge_frame_spans)], narrowed := true }
def ChopKeepsUptoSaid : Prop := chopKeepsUptoRow.holds Tryd.pinned (OpenSpec.upto chopKeepsSpec)

/-- 'drawbridgelaw07.ChopPreface', WHERE WHAT IT READS IS OF BULK AT MOST 1048576: true; the input reads as it did. -/
def chopPrefaceUptoRow : OpenClaim := { program := "ytglhdlkmgmbgeaadoor", sum := "ec49f0f6066b69cf3eb802d991e82f6e57d03cb476e081bf51d0a49b7d29cc21", func := "drawbridge/drawbridgelaw07.ChopPreface", spec := "chopPreface", unfollowed := true, recurses := true, named := ["drawbridge/frame.spans"], apart := false, laid := [("drawbridge/frame.spans", laid_drawbridge_frame_spans)], narrowed := true }
def ChopPrefaceUptoSaid : Prop := chopPrefaceUptoRow.holds Tryd.pinned (OpenSpec.upto chopPrefaceSpec)

/-- 'drawbridgelaw07.ChopGoes', WHERE WHAT IT READS IS OF BULK AT MOST 1048576: true; the input reads as it did. -/
def chopGoesUptoRow : OpenClaim := { program := "ytglhdlkmgmbgeaadoor", sum := "ec49f0f6066b69cf3eb802d991e82f6e57d03cb476e081bf51d0a49b7d29cc21", func := "drawbridge/drawbridgelaw07.ChopGoes", spec := "chopGoes", unfollowed := true, recurses := true, named := ["drawbridge/frame.spans"], apart := false, laid := [("drawbridge/frame.spans", laid_drawbridge_frame_spans)], narrowed := true }
def ChopGoesUptoSaid : Prop := chopGoesUptoRow.holds Tryd.pinned (OpenSpec.upto chopGoesSpec)

end Rows
end Go.Proofs.YtglhdlkmgmbgeaaDoor
