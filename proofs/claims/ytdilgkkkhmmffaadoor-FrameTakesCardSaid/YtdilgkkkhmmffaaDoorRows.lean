/-
  NARROWER THAN 'FOR EVERY INPUT', by the rows' own cells (each row's printed sentence says how): FramePuts: laid · FrameTakes: laid · FrameBack: laid · FrameSizes: laid · FrameRow: laid · FrameReserved: laid.
  DERIVED. THE GIVEN ROWS OF THIS SEAT. 6 by the template 'for every input the law returns true; each argument reads behind the call as it read before'; 0 by the template 'total and deterministic' (their statements: YtdilgkkkhmmffaaDoorTotals.lean).
  GIVEN WITH THE SEED: the statements are not yours to turn. If you find one false, say at which input.
  Laid BY PROGRAM, IN A SANDBOX (cutbox-rows.mjs): the forced cells as the released guide's own fill.sh prints them over the translation cfd9c961b5b2136c… (all of the seat's roots in one cut). By AI agents, Wed Nov 11 2026. No macro, syntax, notation, axiom, sorry.
-/
import Derived.Test.YtdilgkkkhmmffaaDoorChecked
import GoSem.Claim
import GoSem.ClaimJoined
import GoSem.ClaimMapViews
import Derived.JoinedTies
import Derived.KernelRfl
namespace Go.Proofs.YtdilgkkkhmmffaaDoor
/- THE CELL 'sum', in the pinned program and in every row, IS THE sha256 OF THE DUMP (.gsa) THAT YtdilgkkkhmmffaaDoorProg.lean LOADS. Nothing in Lean hashes anything: it is a label: what it is worth is what the hold of that sum in a sandbox is worth. -/
noncomputable def Tryd.pinned : Pinned := { name := "ytdilgkkkhmmffaadoor", sum := "cfd9c961b5b2136c3966b72cb0d38de10c610e59a7b96d83d7958492dcba4ccc", checked := Tryd.checked }
namespace Rows
def none {H : Type} : Left H := { results := [], args := [] }

/- WHAT THE LISTED PACKAGE-LEVEL VARIABLES READ AS WHEN THE CALL BEGINS. Each datum BY PROGRAM (the guide's laid-datum.mjs) off the statement by which the dump's own 'gosem.cut.vars' lays the variable. In a bare row this is a premise. The card (YtdilgkkkhmmffaaDoorCards.lean) ties it to the program's text. -/
def laid_drawbridge_frame_spans {H : Type} : DataW H := .agg [.agg [.lit (.int .i64 0), .lit (.int .i64 16777215), .lit (.int .i64 1)], .agg [.lit (.int .i64 0), .lit (.int .i64 16777215), .lit (.int .i64 1)], .agg [.lit (.int .i64 5), .lit (.int .i64 5), .lit (.int .i64 1)], .agg [.lit (.int .i64 4), .lit (.int .i64 4), .lit (.int .i64 1)], .agg [.lit (.int .i64 0), .lit (.int .i64 16777215), .lit (.int .i64 6)], .agg [.lit (.int .i64 0), .lit (.int .i64 16777215), .lit (.int .i64 1)], .agg [.lit (.int .i64 8), .lit (.int .i64 8), .lit (.int .i64 1)], .agg [.lit (.int .i64 8), .lit (.int .i64 16777215), .lit (.int .i64 1)], .agg [.lit (.int .i64 4), .lit (.int .i64 4), .lit (.int .i64 1)], .agg [.lit (.int .i64 0), .lit (.int .i64 16777215), .lit (.int .i64 1)]]

/-- 'drawbridgelaw06.FramePuts': WHATEVER THE INPUT: true; the input reads as it did. -/
def framePutsSpec : ChangeSpec := { name := "framePuts", fn := fun _ => fun
  | [d] => { results := [.lit (.bool true)], args := [d] }
  | _ => none }
def framePutsRow : OpenClaim := { program := "ytdilgkkkhmmffaadoor", sum := "cfd9c961b5b2136c3966b72cb0d38de10c610e59a7b96d83d7958492dcba4ccc", func := "drawbridge/drawbridgelaw06.FramePuts", spec := "framePuts", named := ["drawbridge/frame.spans"], apart := false, laid := [("drawbridge/frame.spans", laid_drawbridge_frame_spans)] }
def FramePutsSaid : Prop := framePutsRow.holds Tryd.pinned (OpenSpec.ofChange framePutsSpec)

/-- ITS FALSE NEIGHBOUR: 'it returns false'. Refute it at one input. -/
def framePutsWrong : ChangeSpec := { name := "framePuts", fn := fun _ => fun
  | [d] => { results := [.lit (.bool false)], args := [d] }
  | _ => none }
def FramePutsWrongFalsely : Prop := framePutsRow.holds Tryd.pinned (OpenSpec.ofChange framePutsWrong)

/-- 'drawbridgelaw06.FrameTakes': WHATEVER THE INPUT: true; the input reads as it did. -/
def frameTakesSpec : ChangeSpec := { name := "frameTakes", fn := fun _ => fun
  | [d1, d2] => { results := [.lit (.bool true)], args := [d1, d2] }
  | _ => none }
def frameTakesRow : OpenClaim := { program := "ytdilgkkkhmmffaadoor", sum := "cfd9c961b5b2136c3966b72cb0d38de10c610e59a7b96d83d7958492dcba4ccc", func := "drawbridge/drawbridgelaw06.FrameTakes", spec := "frameTakes", named := ["drawbridge/frame.spans"], apart := false, laid := [("drawbridge/frame.spans", laid_drawbridge_frame_spans)] }
def FrameTakesSaid : Prop := frameTakesRow.holds Tryd.pinned (OpenSpec.ofChange frameTakesSpec)

/-- ITS FALSE NEIGHBOUR: 'it returns false'. Refute it at one input. -/
def frameTakesWrong : ChangeSpec := { name := "frameTakes", fn := fun _ => fun
  | [d1, d2] => { results := [.lit (.bool false)], args := [d1, d2] }
  | _ => none }
def FrameTakesWrongFalsely : Prop := frameTakesRow.holds Tryd.pinned (OpenSpec.ofChange frameTakesWrong)

/-- 'drawbridgelaw06.FrameBack': WHATEVER THE INPUT: true; the input reads as it did. -/
def frameBackSpec : ChangeSpec := { name := "frameBack", fn := fun _ => fun
  | [d1, d2, d3] => { results := [.lit (.bool true)], args := [d1, d2, d3] }
  | _ => none }
def frameBackRow : OpenClaim := { program := "ytdilgkkkhmmffaadoor", sum := "cfd9c961b5b2136c3966b72cb0d38de10c610e59a7b96d83d7958492dcba4ccc", func := "drawbridge/drawbridgelaw06.FrameBack", spec := "frameBack", named := ["drawbridge/frame.spans"], apart := false, laid := [("drawbridge/frame.spans", laid_drawbridge_frame_spans)] }
def FrameBackSaid : Prop := frameBackRow.holds Tryd.pinned (OpenSpec.ofChange frameBackSpec)

/-- ITS FALSE NEIGHBOUR: 'it returns false'. Refute it at one input. -/
def frameBackWrong : ChangeSpec := { name := "frameBack", fn := fun _ => fun
  | [d1, d2, d3] => { results := [.lit (.bool false)], args := [d1, d2, d3] }
  | _ => none }
def FrameBackWrongFalsely : Prop := frameBackRow.holds Tryd.pinned (OpenSpec.ofChange frameBackWrong)

/-- 'drawbridgelaw06.FrameSizes': WHATEVER THE INPUT: true; the input reads as it did. -/
def frameSizesSpec : ChangeSpec := { name := "frameSizes", fn := fun _ => fun
  | [d1, d2] => { results := [.lit (.bool true)], args := [d1, d2] }
  | _ => none }
def frameSizesRow : OpenClaim := { program := "ytdilgkkkhmmffaadoor", sum := "cfd9c961b5b2136c3966b72cb0d38de10c610e59a7b96d83d7958492dcba4ccc", func := "drawbridge/drawbridgelaw06.FrameSizes", spec := "frameSizes", named := ["drawbridge/frame.spans"], apart := false, laid := [("drawbridge/frame.spans", laid_drawbridge_frame_spans)] }
def FrameSizesSaid : Prop := frameSizesRow.holds Tryd.pinned (OpenSpec.ofChange frameSizesSpec)

/-- ITS FALSE NEIGHBOUR: 'it returns false'. Refute it at one input. -/
def frameSizesWrong : ChangeSpec := { name := "frameSizes", fn := fun _ => fun
  | [d1, d2] => { results := [.lit (.bool false)], args := [d1, d2] }
  | _ => none }
def FrameSizesWrongFalsely : Prop := frameSizesRow.holds Tryd.pinned (OpenSpec.ofChange frameSizesWrong)

/-- 'drawbridgelaw06.FrameRow': WHATEVER THE INPUT: true; the input reads as it did. -/
def frameRowSpec : ChangeSpec := { name := "frameRow", fn := fun _ => fun
  | [d] => { results := [.lit (.bool true)], args := [d] }
  | _ => none }
def frameRowRow : OpenClaim := { program := "ytdilgkkkhmmffaadoor", sum := "cfd9c961b5b2136c3966b72cb0d38de10c610e59a7b96d83d7958492dcba4ccc", func := "drawbridge/drawbridgelaw06.FrameRow", spec := "frameRow", named := ["drawbridge/frame.spans"], apart := false, laid := [("drawbridge/frame.spans", laid_drawbridge_frame_spans)] }
def FrameRowSaid : Prop := frameRowRow.holds Tryd.pinned (OpenSpec.ofChange frameRowSpec)

/-- ITS FALSE NEIGHBOUR: 'it returns false'. Refute it at one input. -/
def frameRowWrong : ChangeSpec := { name := "frameRow", fn := fun _ => fun
  | [d] => { results := [.lit (.bool false)], args := [d] }
  | _ => none }
def FrameRowWrongFalsely : Prop := frameRowRow.holds Tryd.pinned (OpenSpec.ofChange frameRowWrong)

/-- 'drawbridgelaw06.FrameReserved': WHATEVER THE INPUT: true; the input reads as it did. -/
def frameReservedSpec : ChangeSpec := { name := "frameReserved", fn := fun _ => fun
  | [d] => { results := [.lit (.bool true)], args := [d] }
  | _ => none }
def frameReservedRow : OpenClaim := { program := "ytdilgkkkhmmffaadoor", sum := "cfd9c961b5b2136c3966b72cb0d38de10c610e59a7b96d83d7958492dcba4ccc", func := "drawbridge/drawbridgelaw06.FrameReserved", spec := "frameReserved", named := ["drawbridge/frame.spans"], apart := false, laid := [("drawbridge/frame.spans", laid_drawbridge_frame_spans)] }
def FrameReservedSaid : Prop := frameReservedRow.holds Tryd.pinned (OpenSpec.ofChange frameReservedSpec)

/-- ITS FALSE NEIGHBOUR: 'it returns false'. Refute it at one input. -/
def frameReservedWrong : ChangeSpec := { name := "frameReserved", fn := fun _ => fun
  | [d] => { results := [.lit (.bool false)], args := [d] }
  | _ => none }
def FrameReservedWrongFalsely : Prop := frameReservedRow.holds Tryd.pinned (OpenSpec.ofChange frameReservedWrong)

/- THE SECOND FORM. 'bulk': how many values and letters a reading holds, each counted each time it is reached (what is shared counts as often as it is met; a slice's spare places count too). A statement '..UptoSaid' is the law's where the arguments, and the package variables that the reading takes, are together of bulk at most 1048576: NARROWER than '..Said'. Prove '..Said' where nothing that the law and all that it calls make is longer than what came in: it says more and counts as full. Else prove '..UptoSaid'. A law counts once. -/
mutual
def uptoBulk {H : Type} : DataW H → Nat
  | .lit (.string bytes) => bytes.length + 1
  | .lit _ => 1
  | .nil => 1
  | .ptr d => uptoBulk d + 1
  | .slice elems spare => uptoBulkAll elems + uptoBulkAll spare + 1
  | .agg parts => uptoBulkAll parts + 1
  | .iface _ d => uptoBulk d + 1
  | .map entries => uptoBulkEntries entries + 1
  | .held _ => 1
def uptoBulkAll {H : Type} : List (DataW H) → Nat
  | [] => 0
  | d :: r => uptoBulk d + uptoBulkAll r
def uptoBulkEntries {H : Type} : List (Lit × DataW H) → Nat
  | [] => 0
  | x :: r => uptoBulkEntry x + uptoBulkEntries r
def uptoBulkEntry {H : Type} : Lit × DataW H → Nat
  | (.string bytes, d) => bytes.length + uptoBulk d + 1
  | (_, d) => uptoBulk d + 1
 end
def uptoSmall : (H : Type) → List (DataW H) → Bool := fun _ ds => decide (uptoBulkAll ds ≤ 1048576)
def OpenSpec.upto (s : _root_.Go.ChangeSpec) : _root_.Go.OpenSpec := { _root_.Go.OpenSpec.ofChange s with cond := some uptoSmall }

/-- 'drawbridgelaw06.FramePuts', WHERE WHAT IT READS IS OF BULK AT MOST 1048576: true; the input reads as it did. -/
def framePutsUptoRow : OpenClaim := { program := "ytdilgkkkhmmffaadoor", sum := "cfd9c961b5b2136c3966b72cb0d38de10c610e59a7b96d83d7958492dcba4ccc", func := "drawbridge/drawbridgelaw06.FramePuts", spec := "framePuts", named := ["drawbridge/frame.spans"], apart := false, laid := [("drawbridge/frame.spans", laid_drawbridge_frame_spans)], narrowed := true }
def FramePutsUptoSaid : Prop := framePutsUptoRow.holds Tryd.pinned (OpenSpec.upto framePutsSpec)

/-- 'drawbridgelaw06.FrameTakes', WHERE WHAT IT READS IS OF BULK AT MOST 1048576: true; the input reads as it did. -/
def frameTakesUptoRow : OpenClaim := { program := "ytdilgkkkhmmffaadoor", sum := "cfd9c961b5b2136c3966b72cb0d38de10c610e59a7b96d83d7958492dcba4ccc", func := "drawbridge/drawbridgelaw06.FrameTakes", spec := "frameTakes", named := ["drawbridge/frame.spans"], apart := false, laid := [("drawbridge/frame.spans", laid_drawbridge_frame_spans)], narrowed := true }
def FrameTakesUptoSaid : Prop := frameTakesUptoRow.holds Tryd.pinned (OpenSpec.upto frameTakesSpec)

/-- 'drawbridgelaw06.FrameBack', WHERE WHAT IT READS IS OF BULK AT MOST 1048576: true; the input reads as it did. -/
def frameBackUptoRow : OpenClaim := { program := "ytdilgkkkhmmffaadoor", sum := "cfd9c961b5b2136c3966b72cb0d38de10c610e59a7b96d83d7958492dcba4ccc", func := "drawbridge/drawbridgelaw06.FrameBack", spec := "frameBack", named := ["drawbridge/frame.spans"], apart := false, laid := [("drawbridge/frame.spans", laid_drawbridge_frame_spans)], narrowed := true }
def FrameBackUptoSaid : Prop := frameBackUptoRow.holds Tryd.pinned (OpenSpec.upto frameBackSpec)

/-- 'drawbridgelaw06.FrameSizes', WHERE WHAT IT READS IS OF BULK AT MOST 1048576: true; the input reads as it did. -/
def frameSizesUptoRow : OpenClaim := { program := "ytdilgkkkhmmffaadoor", sum := "cfd9c961b5b2136c3966b72cb0d38de10c610e59a7b96d83d7958492dcba4ccc", func := "drawbridge/drawbridgelaw06.FrameSizes", spec := "frameSizes", named := ["drawbridge/frame.spans"], apart := false, laid := [("drawbridge/frame.spans", laid_drawbridge_frame_spans)], narrowed := true }
def FrameSizesUptoSaid : Prop := frameSizesUptoRow.holds Tryd.pinned (OpenSpec.upto frameSizesSpec)

/-- 'drawbridgelaw06.FrameRow', WHERE WHAT IT READS IS OF BULK AT MOST 1048576: true; the input reads as it did. -/
def frameRowUptoRow : OpenClaim := { program := "ytdilgkkkhmmffaadoor", sum := "cfd9c961b5b2136c3966b72cb0d38de10c610e59a7b96d83d7958492dcba4ccc", func := "drawbridge/drawbridgelaw06.FrameRow", spec := "frameRow", named := ["drawbridge/frame.spans"], apart := false, laid := [("drawbridge/frame.spans", laid_drawbridge_frame_spans)], narrowed := true }
def FrameRowUptoSaid : Prop := frameRowUptoRow.holds Tryd.pinned (OpenSpec.upto frameRowSpec)

/-- 'drawbridgelaw06.FrameReserved', WHERE WHAT IT READS IS OF BULK AT MOST 1048576: true; the input reads as it did. -/
def frameReservedUptoRow : OpenClaim := { program := "ytdilgkkkhmmffaadoor", sum := "cfd9c961b5b2136c3966b72cb0d38de10c610e59a7b96d83d7958492dcba4ccc", func := "drawbridge/drawbridgelaw06.FrameReserved", spec := "frameReserved", named := ["drawbridge/frame.spans"], apart := false, laid := [("drawbridge/frame.spans", laid_drawbridge_frame_spans)], narrowed := true }
def FrameReservedUptoSaid : Prop := frameReservedUptoRow.holds Tryd.pinned (OpenSpec.upto frameReservedSpec)

end Rows
end Go.Proofs.YtdilgkkkhmmffaaDoor
