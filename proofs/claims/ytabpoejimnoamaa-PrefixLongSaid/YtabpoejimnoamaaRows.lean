/-
  No cell of these rows narrows 'for every input' (looked for: loops, veiled, ifaces, maps, wideKeys, modest, calm, conditions, laid).
  DERIVED. THE GIVEN ROWS OF THIS SEAT. 3 by the template 'for every input the law returns true; each argument reads behind the call as it read before'; 0 by the template 'total and deterministic' (their statements: YtabpoejimnoamaaTotals.lean).
  GIVEN WITH THE SEED: the statements are not yours to turn. If you find one false, say at which input.
  Laid BY PROGRAM, IN A SANDBOX (cutbox-rows.mjs): the forced cells as the released guide's own fill.sh prints them over the translation e8b8857a7276aa1a… (all of the seat's roots in one cut). By AI agents, Wed Nov 11 2026. No macro, syntax, notation, axiom, sorry.
-/
import Derived.Test.YtabpoejimnoamaaChecked
import GoSem.Claim
import GoSem.ClaimJoined
import GoSem.ClaimMapViews
import Derived.JoinedTies
import Derived.KernelRfl
namespace Go.Proofs.Ytabpoejimnoamaa
/- THE CELL 'sum', in the pinned program and in every row, IS THE sha256 OF THE DUMP (.gsa) THAT YtabpoejimnoamaaProg.lean LOADS. Nothing in Lean hashes anything: it is a label: what it is worth is what the hold of that sum in a sandbox is worth. -/
noncomputable def Try.pinned : Pinned := { name := "ytabpoejimnoamaa", sum := "e8b8857a7276aa1a261e10370f0a3e55827630b00e53da0e836c9bcd21ed0388", checked := Try.checked }
namespace Rows
def none {H : Type} : Left H := { results := [], args := [] }

/-- 'drawbridgelaw03.PrefixPuts': WHATEVER THE INPUT: true; the input reads as it did. -/
def prefixPutsSpec : ChangeSpec := { name := "prefixPuts", fn := fun _ => fun
  | [d1, d2, d3] => { results := [.lit (.bool true)], args := [d1, d2, d3] }
  | _ => none }
def prefixPutsRow : OpenClaim := { program := "ytabpoejimnoamaa", sum := "e8b8857a7276aa1a261e10370f0a3e55827630b00e53da0e836c9bcd21ed0388", func := "drawbridge/drawbridgelaw03.PrefixPuts", spec := "prefixPuts", apart := false }
def PrefixPutsSaid : Prop := prefixPutsRow.holds Try.pinned (OpenSpec.ofChange prefixPutsSpec)

/-- ITS FALSE NEIGHBOUR: 'it returns false'. Refute it at one input. -/
def prefixPutsWrong : ChangeSpec := { name := "prefixPuts", fn := fun _ => fun
  | [d1, d2, d3] => { results := [.lit (.bool false)], args := [d1, d2, d3] }
  | _ => none }
def PrefixPutsWrongFalsely : Prop := prefixPutsRow.holds Try.pinned (OpenSpec.ofChange prefixPutsWrong)

/-- 'drawbridgelaw03.PrefixTakes': WHATEVER THE INPUT: true; the input reads as it did. -/
def prefixTakesSpec : ChangeSpec := { name := "prefixTakes", fn := fun _ => fun
  | [d1, d2] => { results := [.lit (.bool true)], args := [d1, d2] }
  | _ => none }
def prefixTakesRow : OpenClaim := { program := "ytabpoejimnoamaa", sum := "e8b8857a7276aa1a261e10370f0a3e55827630b00e53da0e836c9bcd21ed0388", func := "drawbridge/drawbridgelaw03.PrefixTakes", spec := "prefixTakes", apart := false }
def PrefixTakesSaid : Prop := prefixTakesRow.holds Try.pinned (OpenSpec.ofChange prefixTakesSpec)

/-- ITS FALSE NEIGHBOUR: 'it returns false'. Refute it at one input. -/
def prefixTakesWrong : ChangeSpec := { name := "prefixTakes", fn := fun _ => fun
  | [d1, d2] => { results := [.lit (.bool false)], args := [d1, d2] }
  | _ => none }
def PrefixTakesWrongFalsely : Prop := prefixTakesRow.holds Try.pinned (OpenSpec.ofChange prefixTakesWrong)

/-- 'drawbridgelaw03.PrefixLong': WHATEVER THE INPUT: true; the input reads as it did. -/
def prefixLongSpec : ChangeSpec := { name := "prefixLong", fn := fun _ => fun
  | [d1, d2, d3] => { results := [.lit (.bool true)], args := [d1, d2, d3] }
  | _ => none }
def prefixLongRow : OpenClaim := { program := "ytabpoejimnoamaa", sum := "e8b8857a7276aa1a261e10370f0a3e55827630b00e53da0e836c9bcd21ed0388", func := "drawbridge/drawbridgelaw03.PrefixLong", spec := "prefixLong", apart := false }
def PrefixLongSaid : Prop := prefixLongRow.holds Try.pinned (OpenSpec.ofChange prefixLongSpec)

/-- ITS FALSE NEIGHBOUR: 'it returns false'. Refute it at one input. -/
def prefixLongWrong : ChangeSpec := { name := "prefixLong", fn := fun _ => fun
  | [d1, d2, d3] => { results := [.lit (.bool false)], args := [d1, d2, d3] }
  | _ => none }
def PrefixLongWrongFalsely : Prop := prefixLongRow.holds Try.pinned (OpenSpec.ofChange prefixLongWrong)

/- THE SECOND FORM. 'bulk': how many values and letters a reading holds, each counted each time it is reached (what is shared counts as often as it is met; a slice's spare places count too). A statement '..UptoSaid' is the law's where the arguments, and the package variables that the reading takes, are together of bulk at most 1048576: NARROWER than '..Said'. Prove '..Said' where nothing that the law and all that it calls make is longer than what came in: it says more and counts as full. Else prove '..UptoSaid'. A law counts once. -/
mutual
def uptoBulk {H : Type} : DataW H → Nat
  | .lit (.string bytes) => bytes.length + 1
  | .lit _ => 1
  | .nil => 1
  | .ptr d => uptoBulk d + 1
  | .slice elems spare => uptoBulkAll elems + uptoBulkAll spare + 1
  | .agg parts => uptoBulkAll parts + 1
  | .iface _ d => uptoBulk d + 1
  | .map entries => uptoBulkEntries entries + 1
  | .held _ => 1
def uptoBulkAll {H : Type} : List (DataW H) → Nat
  | [] => 0
  | d :: r => uptoBulk d + uptoBulkAll r
def uptoBulkEntries {H : Type} : List (Lit × DataW H) → Nat
  | [] => 0
  | x :: r => uptoBulkEntry x + uptoBulkEntries r
def uptoBulkEntry {H : Type} : Lit × DataW H → Nat
  | (.string bytes, d) => bytes.length + uptoBulk d + 1
  | (_, d) => uptoBulk d + 1
 end
def uptoSmall : (H : Type) → List (DataW H) → Bool := fun _ ds => decide (uptoBulkAll ds ≤ 1048576)
def OpenSpec.upto (s : _root_.Go.ChangeSpec) : _root_.Go.OpenSpec := { _root_.Go.OpenSpec.ofChange s with cond := some uptoSmall }

/-- 'drawbridgelaw03.PrefixPuts', WHERE WHAT IT READS IS OF BULK AT MOST 1048576: true; the input reads as it did. -/
def prefixPutsUptoRow : OpenClaim := { program := "ytabpoejimnoamaa", sum := "e8b8857a7276aa1a261e10370f0a3e55827630b00e53da0e836c9bcd21ed0388", func := "drawbridge/drawbridgelaw03.PrefixPuts", spec := "prefixPuts", apart := false, narrowed := true }
def PrefixPutsUptoSaid : Prop := prefixPutsUptoRow.holds Try.pinned (OpenSpec.upto prefixPutsSpec)

/-- 'drawbridgelaw03.PrefixTakes', WHERE WHAT IT READS IS OF BULK AT MOST 1048576: true; the input reads as it did. -/
def prefixTakesUptoRow : OpenClaim := { program := "ytabpoejimnoamaa", sum := "e8b8857a7276aa1a261e10370f0a3e55827630b00e53da0e836c9bcd21ed0388", func := "drawbridge/drawbridgelaw03.PrefixTakes", spec := "prefixTakes", apart := false, narrowed := true }
def PrefixTakesUptoSaid : Prop := prefixTakesUptoRow.holds Try.pinned (OpenSpec.upto prefixTakesSpec)

/-- 'drawbridgelaw03.PrefixLong', WHERE WHAT IT READS IS OF BULK AT MOST 1048576: true; the input reads as it did. -/
def prefixLongUptoRow : OpenClaim := { program := "ytabpoejimnoamaa", sum := "e8b8857a7276aa1a261e10370f0a3e55827630b00e53da0e836c9bcd21ed0388", func := "drawbridge/drawbridgelaw03.PrefixLong", spec := "prefixLong", apart := false, narrowed := true }
def PrefixLongUptoSaid : Prop := prefixLongUptoRow.holds Try.pinned (OpenSpec.upto prefixLongSpec)

end Rows
end Go.Proofs.Ytabpoejimnoamaa
