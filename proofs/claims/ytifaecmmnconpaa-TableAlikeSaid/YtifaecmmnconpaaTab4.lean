/- Layer 4: the document's At. -/
import Derived.Test.YtifaecmmnconpaaRows
import Derived.Test.YtifaecmmnconpaaTabPure
import Derived.Test.YtifaecmmnconpaaObj
import Derived.Test.YtifaecmmnconpaaRowE
import Derived.Test.YtifaecmmnconpaaTab1
import Derived.Test.YtifaecmmnconpaaTab2
import Derived.WalkKit
import Derived.WalkSpells
import Derived.WalkLawsBesides
import Derived.Lib.Hide
import Derived.Outline
import Derived.IntWalk
namespace Go.Proofs.Ytifaecmmnconpaa
open Go.RowKit
open Arg Tab Mem Go.Proofs.Ytifaecmmnconpaa.Obj
set_option linter.unusedVariables false

theorem statics_any (w : World) :
    Calls Try.prog 28 #[] w fun e w' => ∃ b, e = .returned (.slice (some ⟨b, 0, none⟩) 61 61) ∧ Below w.heap.size w w' ∧ Hid (Rw.RowE EFd w' (some ⟨b, 0, none⟩) statics) ∧ Hid (w'.ownsRow w.heap.size 36 3 (.slice (some ⟨b, 0, none⟩) 61 61) 61 (Rw.flat EFd statics)) := by
  refine (static_any w).mono ?_
  rintro e w' ⟨rfl, rfl⟩
  have hl : (Rw.flat EFd statics).length = 61 * 3 := Rw.flat_len EFd statics
  have h := World.ownsRow_lit (base := w.heap.size) (e := 36) (size := 3) w (Rw.flat EFd statics).toArray 61 (Nat.le_refl _) (by unfold maxLen; omega) (by simpa using hl)
  exact ⟨w.heap.size, rfl, (Below.refl _ _).alloc (Nat.le_refl _) _, Lib.hid (Rw.RowE.of_own (n := 61) (cap := 61) h), Lib.hid h⟩

theorem heap_set3 {w : World} {g : Nat} {a b c x y z : Value} {t : TypeId} (h : w.heap[g]? = some (.cells #[a, b, c] t (0, 0))) :
    (((w.setCell ⟨g, 0, none⟩ x).setCell ⟨g, 1, none⟩ y).setCell ⟨g, 2, none⟩ z).heap[g]? = some (.cells #[x, y, z] t (0, 0)) :=
  heap_setCell_same _ g 2 _ t z (heap_setCell_same _ g 1 _ t y (heap_setCell_same w g 0 _ t x h))

set_option maxHeartbeats 2000000 in
theorem rat_static (p : Addr) (n : Nat) (w : World) (h1 : 1 ≤ n) (h61 : n ≤ 61) (x : FdM) (hx : statics[n - 1]? = some x) :
    Calls Try.prog 17 #[.pointer (some p), .int .i64 n] w fun e w' => e = .returned (.tuple #[.agg #[.string x.name, .string x.value, .bool x.never], .int .i64 0]) ∧ Below w.heap.size w w' := by
  have h1' : (1 : Int) ≤ n := by omega
  have h61' : (n : Int) ≤ 61 := by omega
  have HX := Lib.hid hx
  clear hx
  go_enter Try.func17, Try.ntmps17
  go_wp2_with fail
  refine (statics_any _).mono ?_; rintro e w1 ⟨b, rfl, b1, HR, _⟩
  have hrc := block_below b1 (heap_alloc_new w (.cells #[.string ⟨#[]⟩, .string ⟨#[]⟩, .bool false] 36))
  have hbw : Below w.heap.size w w1 := below_step ((Below.refl _ _).alloc (Nat.le_refl _) _) b1
  obtain ⟨d0, d1, d2⟩ : w1.cell? ⟨b, (n - 1) * 3, none⟩ = some (.string x.name) ∧ w1.cell? ⟨b, (n - 1) * 3 + 1, none⟩ = some (.string x.value) ∧ w1.cell? ⟨b, (n - 1) * 3 + 2, none⟩ = some (.bool x.never) := by
    rcases HR.out with h | ⟨b', off, e, hc⟩
    · cases h
    · simp only [Option.some.injEq, Addr.mk.injEq, and_true] at e
      obtain ⟨rfl, rfl⟩ := e
      obtain ⟨hlt, he⟩ := List.getElem?_eq_some_iff.1 HX.out
      have := CE_fd (hc (n - 1) hlt)
      rw [he] at this
      simpa [show EFd.k = 3 from rfl] using this
  obtain ⟨fn, fv, fb⟩ := x
  simp only at d0 d1 d2
  generalize hrn : w.heap.size = rc at hrc ⊢
  have HRn := Lib.hid hrn
  have r0 := cell_at hrc 0
  have r1 := cell_at hrc 1
  have r2 := cell_at hrc 2
  have g0 := frozen_of_row _ _ 0 _ _ hrc
  have g1 := frozen_of_row _ _ 1 _ _ hrc
  have g2 := frozen_of_row _ _ 2 _ _ hrc
  have HF3 := Lib.hid (heap_set3 (x := .string fn) (y := .string fv) (z := .bool fb) hrc)
  have HBe := Lib.hid (((hbw.setCell (p := ⟨rc, 0, none⟩) (by rw [hrn]; exact Nat.le_refl _) (.string fn)).setCell (p := ⟨rc, 1, none⟩) (by rw [hrn]; exact Nat.le_refl _) (.string fv)).setCell (p := ⟨rc, 2, none⟩) (by rw [hrn]; exact Nat.le_refl _) (.bool fb))
  clear hrn hrc b1 HX HR hbw
  go_wp2_with fail
  have s0 := cell_at HF3.out 0
  have s1 := cell_at HF3.out 1
  have s2 := cell_at HF3.out 2
  clear r0 r1 r2 d0 d1 d2
  exact bodyPost_ret (v := .tuple #[.agg #[.string fn, .string fv, .bool fb], .int .i64 0]) (by simp [results, Try.results17, go_sem, s0, s1, s2]) rfl ⟨rfl, HBe.out⟩

set_option maxHeartbeats 2000000 in
theorem rat_low (p : Addr) (n : Int) (w : World) (h0 : n ≤ 0) :
    Calls Try.prog 17 #[.pointer (some p), .int .i64 n] w fun e w' => e = .returned (.tuple #[.agg #[.string ⟨#[]⟩, .string ⟨#[]⟩, .bool false], .int .i64 40]) ∧ Below w.heap.size w w' := by
  have h1' : ¬ (1 : Int) ≤ n := by omega
  go_enter Try.func17, Try.ntmps17
  go_wp2_with fail
  refine (statics_any _).mono ?_; rintro e w1 ⟨b, rfl, b1, HR, _⟩
  have hrc := block_below b1 (heap_alloc_new w (.cells #[.string ⟨#[]⟩, .string ⟨#[]⟩, .bool false] 36))
  have hbw : Below w.heap.size w w1 := below_step ((Below.refl _ _).alloc (Nat.le_refl _) _) b1
  generalize hrn : w.heap.size = rc at hrc ⊢
  have HRn := Lib.hid hrn
  have r0 := cell_at hrc 0
  have r1 := cell_at hrc 1
  have r2 := cell_at hrc 2
  have g0 := frozen_of_row _ _ 0 _ _ hrc
  have g1 := frozen_of_row _ _ 1 _ _ hrc
  have g2 := frozen_of_row _ _ 2 _ _ hrc
  have HF3 := Lib.hid (heap_set3 (x := .string ⟨#[]⟩) (y := .string ⟨#[]⟩) (z := .bool false) hrc)
  have HBe := Lib.hid (((hbw.setCell (p := ⟨rc, 0, none⟩) (by rw [hrn]; exact Nat.le_refl _) (.string ⟨#[]⟩)).setCell (p := ⟨rc, 1, none⟩) (by rw [hrn]; exact Nat.le_refl _) (.string ⟨#[]⟩)).setCell (p := ⟨rc, 2, none⟩) (by rw [hrn]; exact Nat.le_refl _) (.bool false))
  clear hrn hrc b1 HR hbw
  go_wp2_with fail
  have s0 := cell_at HF3.out 0
  have s1 := cell_at HF3.out 1
  have s2 := cell_at HF3.out 2
  clear r0 r1 r2
  exact bodyPost_ret (v := .tuple #[.agg #[.string ⟨#[]⟩, .string ⟨#[]⟩, .bool false], .int .i64 40]) (by simp [results, Try.results17, go_sem, s0, s1, s2]) rfl ⟨rfl, HBe.out⟩

set_option maxHeartbeats 2000000 in
theorem rat_high (g m : Nat) (rows : List FdM) (L : List Nat) (n : Nat) (w : World) (h : RTab w L g m rows) (hs : rows.length ≤ 100000) (hn : 62 ≤ n) (hn2 : n ≤ 9223372036854775807) (hgt : rows.length < n - 61) :
    Calls Try.prog 17 #[.pointer (some ⟨g, 0, none⟩), .int .i64 n] w fun e w' => e = .returned (.tuple #[.agg #[.string ⟨#[]⟩, .string ⟨#[]⟩, .bool false], .int .i64 40]) ∧ Below w.heap.size w w' := by
  obtain ⟨ad, cap, hg, hh, hl, hm, hz, ha, hr, hk⟩ := h
  have HH := Lib.hid hh
  have h61 : ¬ (n : Int) ≤ 61 := by omega
  have h61' : (61 : Int) < n := by omega
  have hgt' : (rows.length : Int) < (n : Int) - 61 := by omega
  clear hh hr ha hk hg
  go_enter Try.func17, Try.ntmps17
  go_wp2_with fail
  refine (statics_any _).mono ?_; rintro e w1 ⟨b, rfl, b1, HR, _⟩
  have hrc := block_below b1 (heap_alloc_new w (.cells #[.string ⟨#[]⟩, .string ⟨#[]⟩, .bool false] 36))
  have hbw : Below w.heap.size w w1 := below_step ((Below.refl _ _).alloc (Nat.le_refl _) _) b1
  have c1 := cell_at (block_below hbw HH.out) 1
  generalize hrn : w.heap.size = rc at hrc ⊢
  have HRn := Lib.hid hrn
  have r0 := cell_at hrc 0
  have r1 := cell_at hrc 1
  have r2 := cell_at hrc 2
  have g0 := frozen_of_row _ _ 0 _ _ hrc
  have g1 := frozen_of_row _ _ 1 _ _ hrc
  have g2 := frozen_of_row _ _ 2 _ _ hrc
  have HF3 := Lib.hid (heap_set3 (x := .string ⟨#[]⟩) (y := .string ⟨#[]⟩) (z := .bool false) hrc)
  have HBe := Lib.hid (((hbw.setCell (p := ⟨rc, 0, none⟩) (by rw [hrn]; exact Nat.le_refl _) (.string ⟨#[]⟩)).setCell (p := ⟨rc, 1, none⟩) (by rw [hrn]; exact Nat.le_refl _) (.string ⟨#[]⟩)).setCell (p := ⟨rc, 2, none⟩) (by rw [hrn]; exact Nat.le_refl _) (.bool false))
  clear hrn hrc b1 HR hbw
  go_wp2_with fail
  have s0 := cell_at HF3.out 0
  have s1 := cell_at HF3.out 1
  have s2 := cell_at HF3.out 2
  clear r0 r1 r2
  exact bodyPost_ret (v := .tuple #[.agg #[.string ⟨#[]⟩, .string ⟨#[]⟩, .bool false], .int .i64 40]) (by simp [results, Try.results17, go_sem, s0, s1, s2]) rfl ⟨rfl, HBe.out⟩

set_option maxHeartbeats 2000000 in
theorem rat_rows (g m : Nat) (rows : List FdM) (L : List Nat) (n : Nat) (w : World) (h : RTab w L g m rows) (hs : rows.length ≤ 100000) (hn : 62 ≤ n) (hn2 : n ≤ 9223372036854775807) (x : FdM) (hx : rows[n - 62]? = some x) :
    Calls Try.prog 17 #[.pointer (some ⟨g, 0, none⟩), .int .i64 n] w fun e w' => e = .returned (.tuple #[.agg #[.string x.name, .string x.value, .bool x.never], .int .i64 0]) ∧ Below w.heap.size w w' := by
  obtain ⟨ad, cap, hg, hh, hl, hm, hz, ha, hr, hk⟩ := h
  obtain ⟨hlt, he⟩ := List.getElem?_eq_some_iff.1 hx
  obtain ⟨b2, off, rfl, hc⟩ : ∃ b off, ad = some ⟨b, off, none⟩ ∧ ∀ i, (h : i < rows.length) → Rw.CE EFd w b (off + i * 3) rows[i] := by
    rcases hr with h | ⟨b, off, h, hc⟩
    · rw [h] at hlt; simp at hlt
    · exact ⟨b, off, h, hc⟩
  have HD := Lib.hid (CE_fd (hc (n - 62) hlt))
  rw [he] at HD
  have HH := Lib.hid hh
  have h61 : ¬ (n : Int) ≤ 61 := by omega
  have h61' : (61 : Int) < n := by omega
  have hgt' : ¬ (rows.length : Int) < (n : Int) - 61 := by omega
  have hgt2 : (n : Int) - 61 ≤ rows.length := by omega
  have hi0 : (0 : Int) ≤ (n : Int) - 61 - 1 := by omega
  have hi1 : (n : Int) - 61 - 1 < rows.length := by omega
  have hi2 : ((n : Int) - 61 - 1).toNat = n - 62 := by omega
  obtain ⟨fn, fv, fb⟩ := x
  clear hh hr ha hk hg hx he hc
  go_enter Try.func17, Try.ntmps17
  go_wp2_with fail
  refine (statics_any _).mono ?_; rintro e w1 ⟨b, rfl, b1, HR, _⟩
  have hrc := block_below b1 (heap_alloc_new w (.cells #[.string ⟨#[]⟩, .string ⟨#[]⟩, .bool false] 36))
  have hbw : Below w.heap.size w w1 := below_step ((Below.refl _ _).alloc (Nat.le_refl _) _) b1
  have c1 := cell_at (block_below hbw HH.out) 1
  have d0 := below_cell hbw HD.out.1
  have d1 := below_cell hbw HD.out.2.1
  have d2 := below_cell hbw HD.out.2.2
  generalize hrn : w.heap.size = rc at hrc ⊢
  have HRn := Lib.hid hrn
  have r0 := cell_at hrc 0
  have r1 := cell_at hrc 1
  have r2 := cell_at hrc 2
  have g0 := frozen_of_row _ _ 0 _ _ hrc
  have g1 := frozen_of_row _ _ 1 _ _ hrc
  have g2 := frozen_of_row _ _ 2 _ _ hrc
  have HF3 := Lib.hid (heap_set3 (x := .string fn) (y := .string fv) (z := .bool fb) hrc)
  have HBe := Lib.hid (((hbw.setCell (p := ⟨rc, 0, none⟩) (by rw [hrn]; exact Nat.le_refl _) (.string fn)).setCell (p := ⟨rc, 1, none⟩) (by rw [hrn]; exact Nat.le_refl _) (.string fv)).setCell (p := ⟨rc, 2, none⟩) (by rw [hrn]; exact Nat.le_refl _) (.bool fb))
  clear hrn hrc b1 HR hbw
  go_wp2_with fail
  have s0 := cell_at HF3.out 0
  have s1 := cell_at HF3.out 1
  have s2 := cell_at HF3.out 2
  clear r0 r1 r2 d0 d1 d2
  exact bodyPost_ret (v := .tuple #[.agg #[.string fn, .string fv, .bool fb], .int .i64 0]) (by simp [results, Try.results17, go_sem, s0, s1, s2]) rfl ⟨rfl, HBe.out⟩


theorem rat_any (g m : Nat) (rows : List FdM) (L : List Nat) (n : Int) (w : World) (h : RTab w L g m rows) (hs : rows.length ≤ 100000) (hn2 : n ≤ 9223372036854775807) :
    Calls Try.prog 17 #[.pointer (some ⟨g, 0, none⟩), .int .i64 n] w fun e w' => e = .returned (.tuple #[.agg #[.string (atT rows n).1.name, .string (atT rows n).1.value, .bool (atT rows n).1.never], .int .i64 (atT rows n).2]) ∧ Below w.heap.size w w' := by
  by_cases h1 : 1 ≤ n ∧ n ≤ 61
  · obtain ⟨k, rfl⟩ := Int.eq_ofNat_of_zero_le (show 0 ≤ n by omega)
    have hk : k - 1 < statics.length := by rw [statics_len]; omega
    have := rat_static ⟨g, 0, none⟩ k w (by omega) (by omega) statics[k - 1] (List.getElem?_eq_getElem hk)
    have hT : atT rows k = (statics[k - 1], 0) := by
      rw [atT, if_pos h1, Int.toNat_natCast, List.getD_eq_getElem?_getD, List.getElem?_eq_getElem hk]; rfl
    rw [hT]; exact this
  · by_cases h0 : n ≤ 0
    · have := rat_low ⟨g, 0, none⟩ n w h0
      have hT : atT rows n = (⟨ByteArray.empty, ByteArray.empty, false⟩, 40) := by rw [atT, if_neg h1, if_pos (by omega)]
      rw [hT]; exact this
    · obtain ⟨k, rfl⟩ := Int.eq_ofNat_of_zero_le (show 0 ≤ n by omega)
      by_cases hgt : rows.length < k - 61
      · have := rat_high g m rows L k w h hs (by omega) (by omega) hgt
        have hT : atT rows k = (⟨ByteArray.empty, ByteArray.empty, false⟩, 40) := by rw [atT, if_neg h1, if_pos (by omega)]
        rw [hT]; exact this
      · have hk : k - 62 < rows.length := by omega
        have := rat_rows g m rows L k w h hs (by omega) (by omega) rows[k - 62] (List.getElem?_eq_getElem hk)
        have hT : atT rows k = (rows[k - 62], 0) := by
          rw [atT, if_neg h1, if_neg (by omega), Int.toNat_natCast, List.getD_eq_getElem?_getD, List.getElem?_eq_getElem hk]; rfl
        rw [hT]; exact this
end Go.Proofs.Ytifaecmmnconpaa
