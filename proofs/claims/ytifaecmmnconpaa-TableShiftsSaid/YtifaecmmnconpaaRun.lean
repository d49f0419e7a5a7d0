/- A region whose operations only reckon and make memory out of what is known: run by the kernel, in whatever world. -/
import Derived.WalkKit
namespace Go.Proofs.Ytifaecmmnconpaa
open Go.RowKit
namespace Run

/-- One operation that yields a value. -/
def stepV (P : Program) (ops : Array Oper) (o : Oper) (a : Act) (w : World) : Option (Act × World) :=
  if Region.wanted o (yielded ops a.tmps) then match (execOp a.eval o).run P w with
    | .ok (.value v) w' => some (a.put o.dst v, w')
    | _ => none
  else some (a.put o.dst undef, w)
def runV (P : Program) (ops : Array Oper) : List Oper → Act → World → Option (Act × World)
  | [], a, w => some (a, w)
  | o :: r, a, w => match stepV P ops o a w with
    | none => none
    | some (a', w') => runV P ops r a' w'

theorem runV_list {P : Program} {ops : Array Oper} {Q : Exit → Act → World → Prop} : ∀ {l : List Oper} {a : Act} {w : World} {a' : Act} {w' : World}, runV P ops l a w = some (a', w') → Q .normal a' w' → wpList P ops Q l a w
  | [], a, w, a', w', h, hq => by
    simp only [runV, Option.some.injEq, Prod.mk.injEq] at h
    obtain ⟨rfl, rfl⟩ := h
    exact wpList_nil hq
  | o :: r, a, w, a', w', h, hq => by
    unfold runV at h
    split at h
    · cases h
    · rename_i a1 w1 hs
      refine wpList_step fun K hK => ?_
      unfold stepV at hs
      split
      · rename_i hw
        rw [if_pos hw] at hs
        split at hs
        · rename_i v w2 hrun
          simp only [Option.some.injEq, Prod.mk.injEq] at hs
          obtain ⟨rfl, rfl⟩ := hs
          unfold Oper.wp
          rw [hrun]
          exact hK _ _ (runV_list h hq)
        · cases hs
      · rename_i hw
        rw [if_neg hw] at hs
        simp only [Option.some.injEq, Prod.mk.injEq] at hs
        obtain ⟨rfl, rfl⟩ := hs
        exact hK _ _ (runV_list h hq)

/-- A region run by the kernel: one slot of what it leaves, and the world. -/
theorem wp_region_slot {P : Program} {id : Nat} {l : List Oper} {Q : Exit → Act → World → Prop} {a : Act} {w : World} (s : Nat) (v : Value) (w' : World)
    (h : (runV P l.toArray l a w).map (fun r => (r.1.tmps.getD s undef, r.1.defers, r.1.tmps.size, r.2)) = some (v, a.defers, a.tmps.size, w'))
    (hq : ∀ a' : Act, a'.tmps.getD s undef = v → a'.defers = a.defers → a'.tmps.size = a.tmps.size → Q .normal a' w') : (Code.region id l.toArray false).wp P Q a w := by
  refine wp_region_lit ?_
  rw [Option.map_eq_some_iff] at h
  obtain ⟨⟨a', w2⟩, h1, h2⟩ := h
  simp only [Prod.mk.injEq] at h2
  obtain ⟨h3, h4, h5, rfl⟩ := h2
  exact runV_list h1 (hq a' h3 h4 h5)
end Run
end Go.Proofs.Ytifaecmmnconpaa
