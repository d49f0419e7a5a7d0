/- What the document fixes of layer 3, counts; the document's TakeInt at any prefix. -/
import Derived.Test.YtabpoejimnoamaaDoorRows
import Derived.Test.YtabpoejimnoamaaDoorPreBack
import Derived.Test.YtabpoejimnoamaaDoorMem
import Derived.Test.YtabpoejimnoamaaDoorMem2
import Derived.Test.YtabpoejimnoamaaDoorGen
import Derived.Test.YtabpoejimnoamaaDoorPre1
import Derived.Test.YtabpoejimnoamaaDoorPre2
import Derived.Test.YtabpoejimnoamaaDoorPreP
import Derived.Test.YtabpoejimnoamaaDoorPreQ
import Derived.WalkKit
import Derived.WalkSpells
import Derived.WalkLawsBesides
import Derived.Lib.Hide
import Derived.Outline
namespace Go.Proofs.YtabpoejimnoamaaDoor
open Go.RowKit
open Huf Pre Mem Gen
set_option linter.unusedVariables false

theorem rtakeint_any (a : Option Addr) (l : List UInt8) (cap : Nat) (k : Int) (w : World) (hl : l.length ≤ 9223372036854775807) (hr : RB w a l) :
    Calls Tryd.prog 21 #[.slice a l.length cap, .int .i64 k] w fun e w' => e = .returned (.tuple #[.int .i64 (takeI l k).1, .int .i64 (takeI l k).2.1, .int .i64 (takeI l k).2.2]) ∧ w = w' := by
  by_cases h : k < 1 ∨ 8 < k
  · have hT : takeI l k = (0, 0, 1) := by rw [takeI, if_pos h]
    rw [hT]
    exact rtakeint_bad a _ cap k w h
  · obtain ⟨j, rfl⟩ := Int.eq_ofNat_of_zero_le (show 0 ≤ k by omega)
    have hT : takeI l j = takeN l j := by rw [takeI, if_neg h, Int.toNat_natCast]
    rw [hT]
    exact rtakeint_ok a l cap j w hl hr (by omega) (by omega)

theorem rb_three (w : World) : RB (w.alloc (.cells #[.int .u8 31, .int .u8 154, .int .u8 10] 5)) (some ⟨w.heap.size, 0, none⟩) [31, 154, 10] := by
  refine Or.inr ⟨w.heap.size, 0, rfl, fun i hi => ?_⟩
  rw [cell_of_row _ w.heap.size (0 + i) _ _ (0, 0) (heap_alloc_new w _)]
  simp at hi
  have : i = 0 ∨ i = 1 ∨ i = 2 := by omega
  rcases this with rfl | rfl | rfl <;> rfl
theorem put_1337 : putI 0 5 1337 = [31, 154, 10] := by decide +kernel
theorem take_1337 : takeI [31, 154, 10] 5 = (1337, 3, 0) := by decide +kernel

set_option maxHeartbeats 1000000 in
theorem counts_any (w : World) :
    Calls Tryd.prog 11 #[] w fun e w' => e = .returned (.bool true) ∧ Below w.heap.size w w' := by
  have HP : Hid (∀ v, Calls Tryd.prog 12 #[.int .u8 0, .int .i64 5, .int .u32 1337] v fun e w' => ∃ g cap, e = .returned (.tuple #[.slice (some ⟨g, 0, none⟩) 3 cap, .int .i64 0]) ∧ w'.cell? ⟨g, 1, none⟩ = some (.int .u8 154) ∧ Below v.heap.size v w') := Lib.hid (fun v => by
    refine (pputint_ok 0 5 1337 v (by decide) (by decide) (by decide) (by decide) (by decide)).mono ?_
    rintro e w' ⟨a, cap, he, hown, hb⟩
    rw [put_1337] at he hown
    rcases hown.out.2 with ⟨_, h2⟩ | ⟨g, cap', cur, h1, _⟩
    · simp at h2
    · have h' := hown.out
      simp only [Value.slice.injEq] at h1
      obtain ⟨rfl, _, rfl⟩ := h1
      exact ⟨g, cap, he, (h'.cellAt 1 (by simp)).trans rfl, hb⟩)
  have HT : Hid (∀ v : World, Calls Tryd.prog 13 #[.slice (some ⟨v.heap.size, 0, none⟩) 3 3, .int .i64 5] (v.alloc (.cells #[.int .u8 31, .int .u8 154, .int .u8 10] 5)) fun e w' => e = .returned (.tuple #[.int .i64 1337, .int .i64 3, .int .i64 0]) ∧ Below (v.alloc (.cells #[.int .u8 31, .int .u8 154, .int .u8 10] 5)).heap.size (v.alloc (.cells #[.int .u8 31, .int .u8 154, .int .u8 10] 5)) w') := Lib.hid (fun v => by
    have h := ptakeint_any (some ⟨v.heap.size, 0, none⟩) [31, 154, 10] 3 5 _ (by decide) (by decide) (rb_three v)
    rw [take_1337] at h
    exact h)
  go_enter Tryd.func11, Tryd.ntmps11
  go_wp2_with fail
  refine (HP.out _).mono ?_; rintro e w1 ⟨g, cap, rfl, hc1, b1⟩
  go_wp2_with fail
  refine (HT.out _).mono ?_; rintro e w2 ⟨rfl, b2⟩
  have hc2 : w2.cell? ⟨g, 1, none⟩ = some (.int .u8 154) := below_cell b2 (below_cell ((Below.refl _ _).alloc (Nat.le_refl _) _) hc1)
  replace b2 := below_step (b1.alloc b1.size _) b2
  clear hc1
  go_wp2_with fail
  go_ret
  exact ⟨rfl, b2⟩
end Go.Proofs.YtabpoejimnoamaaDoor
