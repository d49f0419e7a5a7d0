/-
  NARROWER THAN 'FOR EVERY INPUT', by the rows' own cells (each row's printed sentence says how): HpackDecodes: laid · HpackEncodes: laid · HpackBack: laid · HpackLists: laid · HpackBroken: laid · HpackNever: laid.
  DERIVED. THE GIVEN ROWS OF THIS SEAT. 6 by the template 'for every input the law returns true; each argument reads behind the call as it read before'; 0 by the template 'total and deterministic' (their statements: YtdkgachgohilcaaDoorTotals.lean).
  GIVEN WITH THE SEED: the statements are not yours to turn. If you find one false, say at which input.
  Laid BY PROGRAM, IN A SANDBOX (cutbox-rows.mjs): the forced cells as the released guide's own fill.sh prints them over the translation 9ba2571b9ca868a7… (all of the seat's roots in one cut). By AI agents, Wed Nov 11 2026. No macro, syntax, notation, axiom, sorry.
-/
import Derived.Test.YtdkgachgohilcaaDoorChecked
import GoSem.Claim
import GoSem.ClaimJoined
import GoSem.ClaimMapViews
import Derived.JoinedTies
import Derived.KernelRfl
namespace Go.Proofs.YtdkgachgohilcaaDoor
/- THE CELL 'sum', in the pinned program and in every row, IS THE sha256 OF THE DUMP (.gsa) THAT YtdkgachgohilcaaDoorProg.lean LOADS. Nothing in Lean hashes anything: it is a label: what it is worth is what the hold of that sum in a sandbox is worth. -/
noncomputable def Tryd.pinned : Pinned := { name := "ytdkgachgohilcaadoor", sum := "9ba2571b9ca868a7e02078cbf3365c9b224a6297e0d80c78a50aac6b39ebdf9d", checked := Tryd.checked }
namespace Rows
def none {H : Type} : Left H := { results := [], args := [] }

/- WHAT THE LISTED PACKAGE-LEVEL VARIABLES READ AS WHEN THE CALL BEGINS. Each datum BY PROGRAM (the guide's laid-datum.mjs) off the statement by which the dump's own 'gosem.cut.vars' lays the variable. In a bare row this is a premise. The card (YtdkgachgohilcaaDoorCards.lean) ties it to the program's text. -/
def laid_drawbridge_huff_groups {H : Type} : DataW H := .agg [.agg [.lit (.int .i64 0), .lit (.int .u32 0), .lit (.int .i64 0)], .agg [.lit (.int .i64 0), .lit (.int .u32 0), .lit (.int .i64 0)], .agg [.lit (.int .i64 0), .lit (.int .u32 0), .lit (.int .i64 0)], .agg [.lit (.int .i64 0), .lit (.int .u32 0), .lit (.int .i64 0)], .agg [.lit (.int .i64 0), .lit (.int .u32 0), .lit (.int .i64 0)], .agg [.lit (.int .i64 10), .lit (.int .u32 0), .lit (.int .i64 0)], .agg [.lit (.int .i64 26), .lit (.int .u32 20), .lit (.int .i64 10)], .agg [.lit (.int .i64 32), .lit (.int .u32 92), .lit (.int .i64 36)], .agg [.lit (.int .i64 6), .lit (.int .u32 248), .lit (.int .i64 68)], .agg [.lit (.int .i64 0), .lit (.int .u32 0), .lit (.int .i64 0)], .agg [.lit (.int .i64 5), .lit (.int .u32 1016), .lit (.int .i64 74)], .agg [.lit (.int .i64 3), .lit (.int .u32 2042), .lit (.int .i64 79)], .agg [.lit (.int .i64 2), .lit (.int .u32 4090), .lit (.int .i64 82)], .agg [.lit (.int .i64 6), .lit (.int .u32 8184), .lit (.int .i64 84)], .agg [.lit (.int .i64 2), .lit (.int .u32 16380), .lit (.int .i64 90)], .agg [.lit (.int .i64 3), .lit (.int .u32 32764), .lit (.int .i64 92)], .agg [.lit (.int .i64 0), .lit (.int .u32 0), .lit (.int .i64 0)], .agg [.lit (.int .i64 0), .lit (.int .u32 0), .lit (.int .i64 0)], .agg [.lit (.int .i64 0), .lit (.int .u32 0), .lit (.int .i64 0)], .agg [.lit (.int .i64 3), .lit (.int .u32 524272), .lit (.int .i64 95)], .agg [.lit (.int .i64 8), .lit (.int .u32 1048550), .lit (.int .i64 98)], .agg [.lit (.int .i64 13), .lit (.int .u32 2097116), .lit (.int .i64 106)], .agg [.lit (.int .i64 26), .lit (.int .u32 4194258), .lit (.int .i64 119)], .agg [.lit (.int .i64 29), .lit (.int .u32 8388568), .lit (.int .i64 145)], .agg [.lit (.int .i64 12), .lit (.int .u32 16777194), .lit (.int .i64 174)], .agg [.lit (.int .i64 4), .lit (.int .u32 33554412), .lit (.int .i64 186)], .agg [.lit (.int .i64 15), .lit (.int .u32 67108832), .lit (.int .i64 190)], .agg [.lit (.int .i64 19), .lit (.int .u32 134217694), .lit (.int .i64 205)], .agg [.lit (.int .i64 29), .lit (.int .u32 268435426), .lit (.int .i64 224)], .agg [.lit (.int .i64 0), .lit (.int .u32 0), .lit (.int .i64 0)], .agg [.lit (.int .i64 4), .lit (.int .u32 1073741820), .lit (.int .i64 253)]]

/-- 'drawbridgelaw05.HpackDecodes': WHATEVER THE INPUT: true; the input reads as it did. -/
def hpackDecodesSpec : ChangeSpec := { name := "hpackDecodes", fn := fun _ => fun
  | [d1, d2, d3] => { results := [.lit (.bool true)], args := [d1, d2, d3] }
  | _ => none }
def hpackDecodesRow : OpenClaim := { program := "ytdkgachgohilcaadoor", sum := "9ba2571b9ca868a7e02078cbf3365c9b224a6297e0d80c78a50aac6b39ebdf9d", func := "drawbridge/drawbridgelaw05.HpackDecodes", spec := "hpackDecodes", inPlace := ["internal/bytealg.IndexByteString"], unfollowed := true, recurses := true, named := ["drawbridge/huff.groups"], plainKeys := false, apart := false, laid := [("drawbridge/huff.groups", laid_drawbridge_huff_groups)] }
def HpackDecodesSaid : Prop := hpackDecodesRow.holds Tryd.pinned (OpenSpec.ofChange hpackDecodesSpec)

/-- ITS FALSE NEIGHBOUR: 'it returns false'. Refute it at one input. -/
def hpackDecodesWrong : ChangeSpec := { name := "hpackDecodes", fn := fun _ => fun
  | [d1, d2, d3] => { results := [.lit (.bool false)], args := [d1, d2, d3] }
  | _ => none }
def HpackDecodesWrongFalsely : Prop := hpackDecodesRow.holds Tryd.pinned (OpenSpec.ofChange hpackDecodesWrong)

/-- 'drawbridgelaw05.HpackEncodes': WHATEVER THE INPUT: true; the input reads as it did. -/
def hpackEncodesSpec : ChangeSpec := { name := "hpackEncodes", fn := fun _ => fun
  | [d1, d2] => { results := [.lit (.bool true)], args := [d1, d2] }
  | _ => none }
def hpackEncodesRow : OpenClaim := { program := "ytdkgachgohilcaadoor", sum := "9ba2571b9ca868a7e02078cbf3365c9b224a6297e0d80c78a50aac6b39ebdf9d", func := "drawbridge/drawbridgelaw05.HpackEncodes", spec := "hpackEncodes", inPlace := ["internal/bytealg.IndexByteString"], unfollowed := true, recurses := true, named := ["drawbridge/huff.groups"], plainKeys := false, apart := false, laid := [("drawbridge/huff.groups", laid_drawbridge_huff_groups)] }
def HpackEncodesSaid : Prop := hpackEncodesRow.holds Tryd.pinned (OpenSpec.ofChange hpackEncodesSpec)

/-- ITS FALSE NEIGHBOUR: 'it returns false'. Refute it at one input. -/
def hpackEncodesWrong : ChangeSpec := { name := "hpackEncodes", fn := fun _ => fun
  | [d1, d2] => { results := [.lit (.bool false)], args := [d1, d2] }
  | _ => none }
def HpackEncodesWrongFalsely : Prop := hpackEncodesRow.holds Tryd.pinned (OpenSpec.ofChange hpackEncodesWrong)

/-- 'drawbridgelaw05.HpackBack': WHATEVER THE INPUT: true; the input reads as it did. -/
def hpackBackSpec : ChangeSpec := { name := "hpackBack", fn := fun _ => fun
  | [d1, d2] => { results := [.lit (.bool true)], args := [d1, d2] }
  | _ => none }
def hpackBackRow : OpenClaim := { program := "ytdkgachgohilcaadoor", sum := "9ba2571b9ca868a7e02078cbf3365c9b224a6297e0d80c78a50aac6b39ebdf9d", func := "drawbridge/drawbridgelaw05.HpackBack", spec := "hpackBack", inPlace := ["internal/bytealg.IndexByteString"], unfollowed := true, recurses := true, named := ["drawbridge/huff.groups"], plainKeys := false, apart := false, laid := [("drawbridge/huff.groups", laid_drawbridge_huff_groups)] }
def HpackBackSaid : Prop := hpackBackRow.holds Tryd.pinned (OpenSpec.ofChange hpackBackSpec)

/-- ITS FALSE NEIGHBOUR: 'it returns false'. Refute it at one input. -/
def hpackBackWrong : ChangeSpec := { name := "hpackBack", fn := fun _ => fun
  | [d1, d2] => { results := [.lit (.bool false)], args := [d1, d2] }
  | _ => none }
def HpackBackWrongFalsely : Prop := hpackBackRow.holds Tryd.pinned (OpenSpec.ofChange hpackBackWrong)

/-- 'drawbridgelaw05.HpackLists': WHATEVER THE INPUT: true; the input reads as it did. -/
def hpackListsSpec : ChangeSpec := { name := "hpackLists", fn := fun _ => fun
  | [d1, d2, d3] => { results := [.lit (.bool true)], args := [d1, d2, d3] }
  | _ => none }
def hpackListsRow : OpenClaim := { program := "ytdkgachgohilcaadoor", sum := "9ba2571b9ca868a7e02078cbf3365c9b224a6297e0d80c78a50aac6b39ebdf9d", func := "drawbridge/drawbridgelaw05.HpackLists", spec := "hpackLists", inPlace := ["internal/bytealg.IndexByteString"], unfollowed := true, recurses := true, named := ["drawbridge/huff.groups"], plainKeys := false, apart := false, laid := [("drawbridge/huff.groups", laid_drawbridge_huff_groups)] }
def HpackListsSaid : Prop := hpackListsRow.holds Tryd.pinned (OpenSpec.ofChange hpackListsSpec)

/-- ITS FALSE NEIGHBOUR: 'it returns false'. Refute it at one input. -/
def hpackListsWrong : ChangeSpec := { name := "hpackLists", fn := fun _ => fun
  | [d1, d2, d3] => { results := [.lit (.bool false)], args := [d1, d2, d3] }
  | _ => none }
def HpackListsWrongFalsely : Prop := hpackListsRow.holds Tryd.pinned (OpenSpec.ofChange hpackListsWrong)

/-- 'drawbridgelaw05.HpackBroken': WHATEVER THE INPUT: true; the input reads as it did. -/
def hpackBrokenSpec : ChangeSpec := { name := "hpackBroken", fn := fun _ => fun
  | [d1, d2] => { results := [.lit (.bool true)], args := [d1, d2] }
  | _ => none }
def hpackBrokenRow : OpenClaim := { program := "ytdkgachgohilcaadoor", sum := "9ba2571b9ca868a7e02078cbf3365c9b224a6297e0d80c78a50aac6b39ebdf9d", func := "drawbridge/drawbridgelaw05.HpackBroken", spec := "hpackBroken", inPlace := ["internal/bytealg.IndexByteString"], unfollowed := true, recurses := true, named := ["drawbridge/huff.groups"], plainKeys := false, apart := false, laid := [("drawbridge/huff.groups", laid_drawbridge_huff_groups)] }
def HpackBrokenSaid : Prop := hpackBrokenRow.holds Tryd.pinned (OpenSpec.ofChange hpackBrokenSpec)

/-- ITS FALSE NEIGHBOUR: 'it returns false'. Refute it at one input. -/
def hpackBrokenWrong : ChangeSpec := { name := "hpackBroken", fn := fun _ => fun
  | [d1, d2] => { results := [.lit (.bool false)], args := [d1, d2] }
  | _ => none }
def HpackBrokenWrongFalsely : Prop := hpackBrokenRow.holds Tryd.pinned (OpenSpec.ofChange hpackBrokenWrong)

/-- 'drawbridgelaw05.HpackNever': WHATEVER THE INPUT: true; the input reads as it did. -/
def hpackNeverSpec : ChangeSpec := { name := "hpackNever", fn := fun _ => fun
  | [d] => { results := [.lit (.bool true)], args := [d] }
  | _ => none }
def hpackNeverRow : OpenClaim := { program := "ytdkgachgohilcaadoor", sum := "9ba2571b9ca868a7e02078cbf3365c9b224a6297e0d80c78a50aac6b39ebdf9d", func := "drawbridge/drawbridgelaw05.HpackNever", spec := "hpackNever", inPlace := ["internal/bytealg.IndexByteString"], unfollowed := true, recurses := true, named := ["drawbridge/huff.groups"], plainKeys := false, apart := false, laid := [("drawbridge/huff.groups", laid_drawbridge_huff_groups)] }
def HpackNeverSaid : Prop := hpackNeverRow.holds Tryd.pinned (OpenSpec.ofChange hpackNeverSpec)

/-- ITS FALSE NEIGHBOUR: 'it returns false'. Refute it at one input. -/
def hpackNeverWrong : ChangeSpec := { name := "hpackNever", fn := fun _ => fun
  | [d] => { results := [.lit (.bool false)], args := [d] }
  | _ => none }
def HpackNeverWrongFalsely : Prop := hpackNeverRow.holds Tryd.pinned (OpenSpec.ofChange hpackNeverWrong)

/- THE SECOND FORM. 'bulk': how many values and letters a reading holds, each counted each time it is reached (what is shared counts as often as it is met; a slice's spare places count too). A statement '..UptoSaid' is the law's where the arguments, and the package variables that the reading takes, are together of bulk at most 1048576: NARROWER than '..Said'. Prove '..Said' where nothing that the law and all that it calls make is longer than what came in: it says more and counts as full. Else prove '..UptoSaid'. A law counts once. -/
mutual
def uptoBulk {H : Type} : DataW H → Nat
  | .lit (.string bytes) => bytes.length + 1
  | .lit _ => 1
  | .nil => 1
  | .ptr d => uptoBulk d + 1
  | .slice elems spare => uptoBulkAll elems + uptoBulkAll spare + 1
  | .agg parts => uptoBulkAll parts + 1
  | .iface _ d => uptoBulk d + 1
  | .map entries => uptoBulkEntries entries + 1
  | .held _ => 1
def uptoBulkAll {H : Type} : List (DataW H) → Nat
  | [] => 0
  | d :: r => uptoBulk d + uptoBulkAll r
def uptoBulkEntries {H : Type} : List (Lit × DataW H) → Nat
  | [] => 0
  | x :: r => uptoBulkEntry x + uptoBulkEntries r
def uptoBulkEntry {H : Type} : Lit × DataW H → Nat
  | (.string bytes, d) => bytes.length + uptoBulk d + 1
  | (_, d) => uptoBulk d + 1
 end
def uptoSmall : (H : Type) → List (DataW H) → Bool := fun _ ds => decide (uptoBulkAll ds ≤ 1048576)
def OpenSpec.upto (s : _root_.Go.ChangeSpec) : _root_.Go.OpenSpec := { _root_.Go.OpenSpec.ofChange s with cond := some uptoSmall }

/-- 'drawbridgelaw05.HpackDecodes', WHERE WHAT IT READS IS OF BULK AT MOST 1048576: true; the input reads as it did. -/
def hpackDecodesUptoRow : OpenClaim := { program := "ytdkgachgohilcaadoor", sum := "9ba2571b9ca868a7e02078cbf3365c9b224a6297e0d80c78a50aac6b39ebdf9d", func := "drawbridge/drawbridgelaw05.HpackDecodes", spec := "hpackDecodes", inPlace := ["internal/bytealg.IndexByteString"], unfollowed := true, recurses := true, named := ["drawbridge/huff.groups"], plainKeys := false, apart := false, laid := [("drawbridge/huff.groups", laid_drawbridge_huff_groups)], narrowed := true }
def HpackDecodesUptoSaid : Prop := hpackDecodesUptoRow.holds Tryd.pinned (OpenSpec.upto hpackDecodesSpec)

/-- 'drawbridgelaw05.HpackEncodes', WHERE WHAT IT READS IS OF BULK AT MOST 1048576: true; the input reads as it did. -/
def hpackEncodesUptoRow : OpenClaim := { program := "ytdkgachgohilcaadoor", sum := "9ba2571b9ca868a7e02078cbf3365c9b224a6297e0d80c78a50aac6b39ebdf9d", func := "drawbridge/drawbridgelaw05.HpackEncodes", spec := "hpackEncodes", inPlace := ["internal/bytealg.IndexByteString"], unfollowed := true, recurses := true, named := ["drawbridge/huff.groups"], plainKeys := false, apart := false, laid := [("drawbridge/huff.groups", laid_drawbridge_huff_groups)], narrowed := true }
def HpackEncodesUptoSaid : Prop := hpackEncodesUptoRow.holds Tryd.pinned (OpenSpec.upto hpackEncodesSpec)

/-- 'drawbridgelaw05.HpackBack', WHERE WHAT IT READS IS OF BULK AT MOST 1048576: true; the input reads as it did. -/
def hpackBackUptoRow : OpenClaim := { program := "ytdkgachgohilcaadoor", sum := "9ba2571b9ca868a7e02078cbf3365c9b224a6297e0d80c78a50aac6b39ebdf9d", func := "drawbridge/drawbridgelaw05.HpackBack", spec := "hpackBack", inPlace := ["internal/bytealg.IndexByteString"], unfollowed := true, recurses := true, named := ["drawbridge/huff.groups"], plainKeys := false, apart := false, laid := [("drawbridge/huff.groups", laid_drawbridge_huff_groups)], narrowed := true }
def HpackBackUptoSaid : Prop := hpackBackUptoRow.holds Tryd.pinned (OpenSpec.upto hpackBackSpec)

/-- 'drawbridgelaw05.HpackLists', WHERE WHAT IT READS IS OF BULK AT MOST 1048576: true; the input reads as it did. -/
def hpackListsUptoRow : OpenClaim := { program := "ytdkgachgohilcaadoor", sum := "9ba2571b9ca868a7e02078cbf3365c9b224a6297e0d80c78a50aac6b39ebdf9d", func := "drawbridge/drawbridgelaw05.HpackLists", spec := "hpackLists", inPlace := ["internal/bytealg.IndexByteString"], unfollowed := true, recurses := true, named := ["drawbridge/huff.groups"], plainKeys := false, apart := false, laid := [("drawbridge/huff.groups", laid_drawbridge_huff_groups)], narrowed := true }
def HpackListsUptoSaid : Prop := hpackListsUptoRow.holds Tryd.pinned (OpenSpec.upto hpackListsSpec)

/-- 'drawbridgelaw05.HpackBroken', WHERE WHAT IT READS IS OF BULK AT MOST 1048576: true; the input reads as it did. -/
def hpackBrokenUptoRow : OpenClaim := { program := "ytdkgachgohilcaadoor", sum := "9ba2571b9ca868a7e02078cbf3365c9b224a6297e0d80c78a50aac6b39ebdf9d", func := "drawbridge/drawbridgelaw05.HpackBroken", spec := "hpackBroken", inPlace := ["internal/bytealg.IndexByteString"], unfollowed := true, recurses := true, named := ["drawbridge/huff.groups"], plainKeys := false, apart := false, laid := [("drawbridge/huff.groups", laid_drawbridge_huff_groups)], narrowed := true }
def HpackBrokenUptoSaid : Prop := hpackBrokenUptoRow.holds Tryd.pinned (OpenSpec.upto hpackBrokenSpec)

/-- 'drawbridgelaw05.HpackNever', WHERE WHAT IT READS IS OF BULK AT MOST 1048576: true; the input reads as it did. -/
def hpackNeverUptoRow : OpenClaim := { program := "ytdkgachgohilcaadoor", sum := "9ba2571b9ca868a7e02078cbf3365c9b224a6297e0d80c78a50aac6b39ebdf9d", func := "drawbridge/drawbridgelaw05.HpackNever", spec := "hpackNever", inPlace := ["internal/bytealg.IndexByteString"], unfollowed := true, recurses := true, named := ["drawbridge/huff.groups"], plainKeys := false, apart := false, laid := [("drawbridge/huff.groups", laid_drawbridge_huff_groups)], narrowed := true }
def HpackNeverUptoSaid : Prop := hpackNeverUptoRow.holds Tryd.pinned (OpenSpec.upto hpackNeverSpec)

end Rows
end Go.Proofs.YtdkgachgohilcaaDoor
