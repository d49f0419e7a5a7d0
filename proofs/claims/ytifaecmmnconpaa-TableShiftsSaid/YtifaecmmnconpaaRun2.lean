/- A region whose operations reckon out of constants, and a great array stored at its end: run by the kernel but for the store. -/
import Derived.WalkKit
import Derived.Test.YtifaecmmnconpaaRun
import Derived.Deep.MidRow
namespace Go.Proofs.Ytifaecmmnconpaa
open Go.RowKit
namespace Run

theorem runV_then {P : Program} {ops : Array Oper} {Q : Exit → Act → World → Prop} {l2 : List Oper} : ∀ {l : List Oper} {a : Act} {w : World} {a' : Act} {w' : World}, runV P ops l a w = some (a', w') → wpList P ops Q l2 a' w' → wpList P ops Q (l ++ l2) a w
  | [], a, w, a', w', h, hq => by
    simp only [runV, Option.some.injEq, Prod.mk.injEq] at h
    obtain ⟨rfl, rfl⟩ := h
    exact hq
  | o :: r, a, w, a', w', h, hq => by
    unfold runV at h
    split at h
    · cases h
    · rename_i a1 w1 hs
      refine wpList_step fun K hK => ?_
      unfold stepV at hs
      split
      · rename_i hw
        rw [if_pos hw] at hs
        split at hs
        · rename_i v w2 hrun
          simp only [Option.some.injEq, Prod.mk.injEq] at hs
          obtain ⟨rfl, rfl⟩ := hs
          unfold Oper.wp
          rw [hrun]
          exact hK _ _ (runV_then h hq)
        · cases hs
      · rename_i hw
        rw [if_neg hw] at hs
        simp only [Option.some.injEq, Prod.mk.injEq] at hs
        obtain ⟨rfl, rfl⟩ := hs
        exact hK _ _ (runV_then h hq)

/-- The last of a region's operations stores an array of the call's own reckoning into a block that is there. -/
theorem wp_region_store {P : Program} {id : Nat} {l : List Oper} {Q : Exit → Act → World → Prop} {a : Act} {w : World} (n p s : Nat) (o : Oper) (ty : TypeId) (b : Nat) (cells : Array Value)
    (hd : l.drop n = [o]) (ho : o.op = .store ty (.tmp p) (.tmp s)) (hgd : o.guard = none) (hdst : o.dst = none)
    (h : (runV P l.toArray (l.take n) a w).map (fun r => (r.1.tmps.getD p undef, r.1.tmps.getD s undef, r.1.defers, r.1.tmps.size, r.2)) = some (.pointer (some ⟨b, 0, none⟩), .agg cells, a.defers, a.tmps.size, w))
    (ht : w.there b 0 cells.size) (hi : (P.info? ty).map (·.size) = some cells.size) (h1 : cells.all (·.oneCell') = true)
    (hq : ∀ a' : Act, a'.tmps.getD p undef = .pointer (some ⟨b, 0, none⟩) → a'.defers = a.defers → a'.tmps.size = a.tmps.size → Q .normal a' (w.setCells b 0 cells.toList)) : (Code.region id l.toArray false).wp P Q a w := by
  refine wp_region_lit ?_
  rw [Option.map_eq_some_iff] at h
  obtain ⟨⟨a', w2⟩, h1', h2⟩ := h
  simp only [Prod.mk.injEq] at h2
  obtain ⟨hp, hs, hdf, hsz, rfl⟩ := h2
  rw [← List.take_append_drop n l, hd]
  have hl : l.take n ++ [o] = l := by rw [← hd]; exact List.take_append_drop n l
  rw [hl]
  rw [← hl]
  rw [hl]
  refine (show wpList P l.toArray Q (l.take n ++ [o]) a w2 from ?_) |> fun h => by rwa [hl] at h
  refine runV_then h1' ?_
  refine wpList_store_mid hgd ty (.tmp p) (.tmp s) ho b 0 cells hp hs ht hi h1 (wpList_nil ?_)
  rw [hdst]
  exact hq _ hp hdf hsz
/-- A region of one operation run by the kernel. -/
theorem wp_region_put {P : Program} {id : Nat} {l : List Oper} {Q : Exit → Act → World → Prop} {a : Act} {w : World} (s : Nat) (v : Value) (w' : World)
    (h : runV P l.toArray l a w = some (a.put (some s) v, w')) (hq : Q .normal (a.put (some s) v) w') : (Code.region id l.toArray false).wp P Q a w := by
  refine wp_region_lit ?_
  exact runV_list h hq
end Run
end Go.Proofs.Ytifaecmmnconpaa
