/-
  NARROWER THAN 'FOR EVERY INPUT', by the rows' own cells (each row's printed sentence says how): HuffCodes: laid · HuffEncodes: laid · HuffDecodes: laid · HuffBack: laid · HuffJoins: laid · HuffSums: laid.
  DERIVED. THE GIVEN ROWS OF THIS SEAT. 6 by the template 'for every input the law returns true; each argument reads behind the call as it read before'; 0 by the template 'total and deterministic' (their statements: YtjoabjkibfcfmaaDoorTotals.lean).
  GIVEN WITH THE SEED: the statements are not yours to turn. If you find one false, say at which input.
  Laid BY PROGRAM, IN A SANDBOX (cutbox-rows.mjs): the forced cells as the released guide's own fill.sh prints them over the translation b3f6b768080db759… (all of the seat's roots in one cut). By AI agents, Wed Nov 11 2026. No macro, syntax, notation, axiom, sorry.
-/
import Derived.Test.YtjoabjkibfcfmaaDoorChecked
import GoSem.Claim
import GoSem.ClaimJoined
import GoSem.ClaimMapViews
import Derived.JoinedTies
import Derived.KernelRfl
namespace Go.Proofs.YtjoabjkibfcfmaaDoor
/- THE CELL 'sum', in the pinned program and in every row, IS THE sha256 OF THE DUMP (.gsa) THAT YtjoabjkibfcfmaaDoorProg.lean LOADS. Nothing in Lean hashes anything: it is a label: what it is worth is what the hold of that sum in a sandbox is worth. -/
noncomputable def Tryd.pinned : Pinned := { name := "ytjoabjkibfcfmaadoor", sum := "b3f6b768080db75938a3ec06918279cbaf2dca62b60a6589f394073d7c92d01c", checked := Tryd.checked }
namespace Rows
def none {H : Type} : Left H := { results := [], args := [] }

/- WHAT THE LISTED PACKAGE-LEVEL VARIABLES READ AS WHEN THE CALL BEGINS. Each datum BY PROGRAM (the guide's laid-datum.mjs) off the statement by which the dump's own 'gosem.cut.vars' lays the variable. In a bare row this is a premise. The card (YtjoabjkibfcfmaaDoorCards.lean) ties it to the program's text. -/
def laid_drawbridge_huff_groups {H : Type} : DataW H := .agg [.agg [.lit (.int .i64 0), .lit (.int .u32 0), .lit (.int .i64 0)], .agg [.lit (.int .i64 0), .lit (.int .u32 0), .lit (.int .i64 0)], .agg [.lit (.int .i64 0), .lit (.int .u32 0), .lit (.int .i64 0)], .agg [.lit (.int .i64 0), .lit (.int .u32 0), .lit (.int .i64 0)], .agg [.lit (.int .i64 0), .lit (.int .u32 0), .lit (.int .i64 0)], .agg [.lit (.int .i64 10), .lit (.int .u32 0), .lit (.int .i64 0)], .agg [.lit (.int .i64 26), .lit (.int .u32 20), .lit (.int .i64 10)], .agg [.lit (.int .i64 32), .lit (.int .u32 92), .lit (.int .i64 36)], .agg [.lit (.int .i64 6), .lit (.int .u32 248), .lit (.int .i64 68)], .agg [.lit (.int .i64 0), .lit (.int .u32 0), .lit (.int .i64 0)], .agg [.lit (.int .i64 5), .lit (.int .u32 1016), .lit (.int .i64 74)], .agg [.lit (.int .i64 3), .lit (.int .u32 2042), .lit (.int .i64 79)], .agg [.lit (.int .i64 2), .lit (.int .u32 4090), .lit (.int .i64 82)], .agg [.lit (.int .i64 6), .lit (.int .u32 8184), .lit (.int .i64 84)], .agg [.lit (.int .i64 2), .lit (.int .u32 16380), .lit (.int .i64 90)], .agg [.lit (.int .i64 3), .lit (.int .u32 32764), .lit (.int .i64 92)], .agg [.lit (.int .i64 0), .lit (.int .u32 0), .lit (.int .i64 0)], .agg [.lit (.int .i64 0), .lit (.int .u32 0), .lit (.int .i64 0)], .agg [.lit (.int .i64 0), .lit (.int .u32 0), .lit (.int .i64 0)], .agg [.lit (.int .i64 3), .lit (.int .u32 524272), .lit (.int .i64 95)], .agg [.lit (.int .i64 8), .lit (.int .u32 1048550), .lit (.int .i64 98)], .agg [.lit (.int .i64 13), .lit (.int .u32 2097116), .lit (.int .i64 106)], .agg [.lit (.int .i64 26), .lit (.int .u32 4194258), .lit (.int .i64 119)], .agg [.lit (.int .i64 29), .lit (.int .u32 8388568), .lit (.int .i64 145)], .agg [.lit (.int .i64 12), .lit (.int .u32 16777194), .lit (.int .i64 174)], .agg [.lit (.int .i64 4), .lit (.int .u32 33554412), .lit (.int .i64 186)], .agg [.lit (.int .i64 15), .lit (.int .u32 67108832), .lit (.int .i64 190)], .agg [.lit (.int .i64 19), .lit (.int .u32 134217694), .lit (.int .i64 205)], .agg [.lit (.int .i64 29), .lit (.int .u32 268435426), .lit (.int .i64 224)], .agg [.lit (.int .i64 0), .lit (.int .u32 0), .lit (.int .i64 0)], .agg [.lit (.int .i64 4), .lit (.int .u32 1073741820), .lit (.int .i64 253)]]

/-- 'drawbridgelaw02.HuffCodes': WHATEVER THE INPUT: true; the input reads as it did. -/
def huffCodesSpec : ChangeSpec := { name := "huffCodes", fn := fun _ => fun
  | [d1, d2] => { results := [.lit (.bool true)], args := [d1, d2] }
  | _ => none }
def huffCodesRow : OpenClaim := { program := "ytjoabjkibfcfmaadoor", sum := "b3f6b768080db75938a3ec06918279cbaf2dca62b60a6589f394073d7c92d01c", func := "drawbridge/drawbridgelaw02.HuffCodes", spec := "huffCodes", inPlace := ["internal/bytealg.IndexByteString"], named := ["drawbridge/huff.groups"], apart := false, laid := [("drawbridge/huff.groups", laid_drawbridge_huff_groups)] }
def HuffCodesSaid : Prop := huffCodesRow.holds Tryd.pinned (OpenSpec.ofChange huffCodesSpec)

/-- ITS FALSE NEIGHBOUR: 'it returns false'. Refute it at one input. -/
def huffCodesWrong : ChangeSpec := { name := "huffCodes", fn := fun _ => fun
  | [d1, d2] => { results := [.lit (.bool false)], args := [d1, d2] }
  | _ => none }
def HuffCodesWrongFalsely : Prop := huffCodesRow.holds Tryd.pinned (OpenSpec.ofChange huffCodesWrong)

/-- 'drawbridgelaw02.HuffEncodes': WHATEVER THE INPUT: true; the input reads as it did. -/
def huffEncodesSpec : ChangeSpec := { name := "huffEncodes", fn := fun _ => fun
  | [d] => { results := [.lit (.bool true)], args := [d] }
  | _ => none }
def huffEncodesRow : OpenClaim := { program := "ytjoabjkibfcfmaadoor", sum := "b3f6b768080db75938a3ec06918279cbaf2dca62b60a6589f394073d7c92d01c", func := "drawbridge/drawbridgelaw02.HuffEncodes", spec := "huffEncodes", inPlace := ["internal/bytealg.IndexByteString"], named := ["drawbridge/huff.groups"], apart := false, laid := [("drawbridge/huff.groups", laid_drawbridge_huff_groups)] }
def HuffEncodesSaid : Prop := huffEncodesRow.holds Tryd.pinned (OpenSpec.ofChange huffEncodesSpec)

/-- ITS FALSE NEIGHBOUR: 'it returns false'. Refute it at one input. -/
def huffEncodesWrong : ChangeSpec := { name := "huffEncodes", fn := fun _ => fun
  | [d] => { results := [.lit (.bool false)], args := [d] }
  | _ => none }
def HuffEncodesWrongFalsely : Prop := huffEncodesRow.holds Tryd.pinned (OpenSpec.ofChange huffEncodesWrong)

/-- 'drawbridgelaw02.HuffDecodes': WHATEVER THE INPUT: true; the input reads as it did. -/
def huffDecodesSpec : ChangeSpec := { name := "huffDecodes", fn := fun _ => fun
  | [d] => { results := [.lit (.bool true)], args := [d] }
  | _ => none }
def huffDecodesRow : OpenClaim := { program := "ytjoabjkibfcfmaadoor", sum := "b3f6b768080db75938a3ec06918279cbaf2dca62b60a6589f394073d7c92d01c", func := "drawbridge/drawbridgelaw02.HuffDecodes", spec := "huffDecodes", inPlace := ["internal/bytealg.IndexByteString"], named := ["drawbridge/huff.groups"], apart := false, laid := [("drawbridge/huff.groups", laid_drawbridge_huff_groups)] }
def HuffDecodesSaid : Prop := huffDecodesRow.holds Tryd.pinned (OpenSpec.ofChange huffDecodesSpec)

/-- ITS FALSE NEIGHBOUR: 'it returns false'. Refute it at one input. -/
def huffDecodesWrong : ChangeSpec := { name := "huffDecodes", fn := fun _ => fun
  | [d] => { results := [.lit (.bool false)], args := [d] }
  | _ => none }
def HuffDecodesWrongFalsely : Prop := huffDecodesRow.holds Tryd.pinned (OpenSpec.ofChange huffDecodesWrong)

/-- 'drawbridgelaw02.HuffBack': WHATEVER THE INPUT: true; the input reads as it did. -/
def huffBackSpec : ChangeSpec := { name := "huffBack", fn := fun _ => fun
  | [d1, d2] => { results := [.lit (.bool true)], args := [d1, d2] }
  | _ => none }
def huffBackRow : OpenClaim := { program := "ytjoabjkibfcfmaadoor", sum := "b3f6b768080db75938a3ec06918279cbaf2dca62b60a6589f394073d7c92d01c", func := "drawbridge/drawbridgelaw02.HuffBack", spec := "huffBack", inPlace := ["internal/bytealg.IndexByteString"], named := ["drawbridge/huff.groups"], apart := false, laid := [("drawbridge/huff.groups", laid_drawbridge_huff_groups)] }
def HuffBackSaid : Prop := huffBackRow.holds Tryd.pinned (OpenSpec.ofChange huffBackSpec)

/-- ITS FALSE NEIGHBOUR: 'it returns false'. Refute it at one input. -/
def huffBackWrong : ChangeSpec := { name := "huffBack", fn := fun _ => fun
  | [d1, d2] => { results := [.lit (.bool false)], args := [d1, d2] }
  | _ => none }
def HuffBackWrongFalsely : Prop := huffBackRow.holds Tryd.pinned (OpenSpec.ofChange huffBackWrong)

/-- 'drawbridgelaw02.HuffJoins': WHATEVER THE INPUT: true; the input reads as it did. -/
def huffJoinsSpec : ChangeSpec := { name := "huffJoins", fn := fun _ => fun
  | [d1, d2] => { results := [.lit (.bool true)], args := [d1, d2] }
  | _ => none }
def huffJoinsRow : OpenClaim := { program := "ytjoabjkibfcfmaadoor", sum := "b3f6b768080db75938a3ec06918279cbaf2dca62b60a6589f394073d7c92d01c", func := "drawbridge/drawbridgelaw02.HuffJoins", spec := "huffJoins", inPlace := ["internal/bytealg.IndexByteString"], named := ["drawbridge/huff.groups"], apart := false, laid := [("drawbridge/huff.groups", laid_drawbridge_huff_groups)] }
def HuffJoinsSaid : Prop := huffJoinsRow.holds Tryd.pinned (OpenSpec.ofChange huffJoinsSpec)

/-- ITS FALSE NEIGHBOUR: 'it returns false'. Refute it at one input. -/
def huffJoinsWrong : ChangeSpec := { name := "huffJoins", fn := fun _ => fun
  | [d1, d2] => { results := [.lit (.bool false)], args := [d1, d2] }
  | _ => none }
def HuffJoinsWrongFalsely : Prop := huffJoinsRow.holds Tryd.pinned (OpenSpec.ofChange huffJoinsWrong)

/-- 'drawbridgelaw02.HuffSums': WHATEVER THE INPUT: true; the input reads as it did. -/
def huffSumsSpec : ChangeSpec := { name := "huffSums", fn := fun _ => fun
  | [d1, d2] => { results := [.lit (.bool true)], args := [d1, d2] }
  | _ => none }
def huffSumsRow : OpenClaim := { program := "ytjoabjkibfcfmaadoor", sum := "b3f6b768080db75938a3ec06918279cbaf2dca62b60a6589f394073d7c92d01c", func := "drawbridge/drawbridgelaw02.HuffSums", spec := "huffSums", inPlace := ["internal/bytealg.IndexByteString"], named := ["drawbridge/huff.groups"], apart := false, laid := [("drawbridge/huff.groups", laid_drawbridge_huff_groups)] }
def HuffSumsSaid : Prop := huffSumsRow.holds Tryd.pinned (OpenSpec.ofChange huffSumsSpec)

/-- ITS FALSE NEIGHBOUR: 'it returns false'. Refute it at one input. -/
def huffSumsWrong : ChangeSpec := { name := "huffSums", fn := fun _ => fun
  | [d1, d2] => { results := [.lit (.bool false)], args := [d1, d2] }
  | _ => none }
def HuffSumsWrongFalsely : Prop := huffSumsRow.holds Tryd.pinned (OpenSpec.ofChange huffSumsWrong)

/- THE SECOND FORM. 'bulk': how many values and letters a reading holds, each counted each time it is reached (what is shared counts as often as it is met; a slice's spare places count too). A statement '..UptoSaid' is the law's where the arguments, and the package variables that the reading takes, are together of bulk at most 1048576: NARROWER than '..Said'. Prove '..Said' where nothing that the law and all that it calls make is longer than what came in: it says more and counts as full. Else prove '..UptoSaid'. A law counts once. -/
mutual
def uptoBulk {H : Type} : DataW H → Nat
  | .lit (.string bytes) => bytes.length + 1
  | .lit _ => 1
  | .nil => 1
  | .ptr d => uptoBulk d + 1
  | .slice elems spare => uptoBulkAll elems + uptoBulkAll spare + 1
  | .agg parts => uptoBulkAll parts + 1
  | .iface _ d => uptoBulk d + 1
  | .map entries => uptoBulkEntries entries + 1
  | .held _ => 1
def uptoBulkAll {H : Type} : List (DataW H) → Nat
  | [] => 0
  | d :: r => uptoBulk d + uptoBulkAll r
def uptoBulkEntries {H : Type} : List (Lit × DataW H) → Nat
  | [] => 0
  | x :: r => uptoBulkEntry x + uptoBulkEntries r
def uptoBulkEntry {H : Type} : Lit × DataW H → Nat
  | (.string bytes, d) => bytes.length + uptoBulk d + 1
  | (_, d) => uptoBulk d + 1
 end
def uptoSmall : (H : Type) → List (DataW H) → Bool := fun _ ds => decide (uptoBulkAll ds ≤ 1048576)
def OpenSpec.upto (s : _root_.Go.ChangeSpec) : _root_.Go.OpenSpec := { _root_.Go.OpenSpec.ofChange s with cond := some uptoSmall }

/-- 'drawbridgelaw02.HuffCodes', WHERE WHAT IT READS IS OF BULK AT MOST 1048576: true; the input reads as it did. -/
def huffCodesUptoRow : OpenClaim := { program := "ytjoabjkibfcfmaadoor", sum := "b3f6b768080db75938a3ec06918279cbaf2dca62b60a6589f394073d7c92d01c", func := "drawbridge/drawbridgelaw02.HuffCodes", spec := "huffCodes", inPlace := ["internal/bytealg.IndexByteString"], named := ["drawbridge/huff.groups"], apart := false, laid := [("drawbridge/huff.groups", laid_drawbridge_huff_groups)], narrowed := true }
def HuffCodesUptoSaid : Prop := huffCodesUptoRow.holds Tryd.pinned (OpenSpec.upto huffCodesSpec)

/-- 'drawbridgelaw02.HuffEncodes', WHERE WHAT IT READS IS OF BULK AT MOST 1048576: true; the input reads as it did. -/
def huffEncodesUptoRow : OpenClaim := { program := "ytjoabjkibfcfmaadoor", sum := "b3f6b768080db75938a3ec06918279cbaf2dca62b60a6589f394073d7c92d01c", func := "drawbridge/drawbridgelaw02.HuffEncodes", spec := "huffEncodes", inPlace := ["internal/bytealg.IndexByteString"], named := ["drawbridge/huff.groups"], apart := false, laid := [("drawbridge/huff.groups", laid_drawbridge_huff_groups)], narrowed := true }
def HuffEncodesUptoSaid : Prop := huffEncodesUptoRow.holds Tryd.pinned (OpenSpec.upto huffEncodesSpec)

/-- 'drawbridgelaw02.HuffDecodes', WHERE WHAT IT READS IS OF BULK AT MOST 1048576: true; the input reads as it did. -/
def huffDecodesUptoRow : OpenClaim := { program := "ytjoabjkibfcfmaadoor", sum := "b3f6b768080db75938a3ec06918279cbaf2dca62b60a6589f394073d7c92d01c", func := "drawbridge/drawbridgelaw02.HuffDecodes", spec := "huffDecodes", inPlace := ["internal/bytealg.IndexByteString"], named := ["drawbridge/huff.groups"], apart := false, laid := [("drawbridge/huff.groups", laid_drawbridge_huff_groups)], narrowed := true }
def HuffDecodesUptoSaid : Prop := huffDecodesUptoRow.holds Tryd.pinned (OpenSpec.upto huffDecodesSpec)

/-- 'drawbridgelaw02.HuffBack', WHERE WHAT IT READS IS OF BULK AT MOST 1048576: true; the input reads as it did. -/
def huffBackUptoRow : OpenClaim := { program := "ytjoabjkibfcfmaadoor", sum := "b3f6b768080db75938a3ec06918279cbaf2dca62b60a6589f394073d7c92d01c", func := "drawbridge/drawbridgelaw02.HuffBack", spec := "huffBack", inPlace := ["internal/bytealg.IndexByteString"], named := ["drawbridge/huff.groups"], apart := false, laid := [("drawbridge/huff.groups", laid_drawbridge_huff_groups)], narrowed := true }
def HuffBackUptoSaid : Prop := huffBackUptoRow.holds Tryd.pinned (OpenSpec.upto huffBackSpec)

/-- 'drawbridgelaw02.HuffJoins', WHERE WHAT IT READS IS OF BULK AT MOST 1048576: true; the input reads as it did. -/
def huffJoinsUptoRow : OpenClaim := { program := "ytjoabjkibfcfmaadoor", sum := "b3f6b768080db75938a3ec06918279cbaf2dca62b60a6589f394073d7c92d01c", func := "drawbridge/drawbridgelaw02.HuffJoins", spec := "huffJoins", inPlace := ["internal/bytealg.IndexByteString"], named := ["drawbridge/huff.groups"], apart := false, laid := [("drawbridge/huff.groups", laid_drawbridge_huff_groups)], narrowed := true }
def HuffJoinsUptoSaid : Prop := huffJoinsUptoRow.holds Tryd.pinned (OpenSpec.upto huffJoinsSpec)

/-- 'drawbridgelaw02.HuffSums', WHERE WHAT IT READS IS OF BULK AT MOST 1048576: true; the input reads as it did. -/
def huffSumsUptoRow : OpenClaim := { program := "ytjoabjkibfcfmaadoor", sum := "b3f6b768080db75938a3ec06918279cbaf2dca62b60a6589f394073d7c92d01c", func := "drawbridge/drawbridgelaw02.HuffSums", spec := "huffSums", inPlace := ["internal/bytealg.IndexByteString"], named := ["drawbridge/huff.groups"], apart := false, laid := [("drawbridge/huff.groups", laid_drawbridge_huff_groups)], narrowed := true }
def HuffSumsUptoSaid : Prop := huffSumsUptoRow.holds Tryd.pinned (OpenSpec.upto huffSumsSpec)

end Rows
end Go.Proofs.YtjoabjkibfcfmaaDoor
