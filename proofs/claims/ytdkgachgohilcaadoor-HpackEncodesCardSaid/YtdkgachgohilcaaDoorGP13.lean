/- Layer 4: the document's At. Layer 4: the document's Find. Layer 4: the program's Find. -/
import Derived.Test.YtdkgachgohilcaaDoorRows
import Derived.Test.YtdkgachgohilcaaDoorGP05
import Derived.Test.YtdkgachgohilcaaDoorGP02
import Derived.Test.YtdkgachgohilcaaDoorGP03
import Derived.Test.YtdkgachgohilcaaDoorGP12
import Derived.WalkKit
import Derived.WalkSpells
import Derived.WalkLawsBesides
import Derived.Lib.Hide
import Derived.Outline
import Derived.IntWalk
import Derived.RegionTactic
import Derived.BigQuiet
import Derived.Deep.QuietTactic
import Derived.Deep.RegionLaw
import Derived.Deep.RegionHeld3
import Derived.Test.YtdkgachgohilcaaDoorGP08
import Derived.Test.YtdkgachgohilcaaDoorGP09
import Derived.Test.YtdkgachgohilcaaDoorGP11
import Derived.Deep.LoopGhost
set_option linter.unusedVariables false
set_option linter.unusedSimpArgs false
namespace Go.Proofs.YtdkgachgohilcaaDoor
open Go.RowKit
open Arg Tab Mem Go.Proofs.YtdkgachgohilcaaDoor.Obj
set_option linter.unusedVariables false

theorem statics_any (w : World) :
    Calls Tryd.prog 57 #[] w fun e w' => ∃ b, e = .returned (.slice (some ⟨b, 0, none⟩) 61 61) ∧ Below w.heap.size w w' ∧ Hid (Rw.RowE EFd w' (some ⟨b, 0, none⟩) statics) ∧ Hid (w'.ownsRow w.heap.size 59 3 (.slice (some ⟨b, 0, none⟩) 61 61) 61 (Rw.flat EFd statics)) := by
  refine (static_any w).mono ?_
  rintro e w' ⟨rfl, rfl⟩
  have hl : (Rw.flat EFd statics).length = 61 * 3 := Rw.flat_len EFd statics
  have h := World.ownsRow_lit (base := w.heap.size) (e := 59) (size := 3) w (Rw.flat EFd statics).toArray 61 (Nat.le_refl _) (by unfold maxLen; omega) (by simpa using hl)
  exact ⟨w.heap.size, rfl, (Below.refl _ _).alloc (Nat.le_refl _) _, Lib.hid (Rw.RowE.of_own (n := 61) (cap := 61) h), Lib.hid h⟩

theorem heap_set3 {w : World} {g : Nat} {a b c x y z : Value} {t : TypeId} (h : w.heap[g]? = some (.cells #[a, b, c] t (0, 0))) :
    (((w.setCell ⟨g, 0, none⟩ x).setCell ⟨g, 1, none⟩ y).setCell ⟨g, 2, none⟩ z).heap[g]? = some (.cells #[x, y, z] t (0, 0)) :=
  heap_setCell_same _ g 2 _ t z (heap_setCell_same _ g 1 _ t y (heap_setCell_same w g 0 _ t x h))

set_option maxHeartbeats 2000000 in
theorem rat_static (p : Addr) (n : Nat) (w : World) (h1 : 1 ≤ n) (h61 : n ≤ 61) (x : FdM) (hx : statics[n - 1]? = some x) :
    Calls Tryd.prog 36 #[.pointer (some p), .int .i64 n] w fun e w' => e = .returned (.tuple #[.agg #[.string x.name, .string x.value, .bool x.never], .int .i64 0]) ∧ Below w.heap.size w w' := by
  have h1' : (1 : Int) ≤ n := by omega
  have h61' : (n : Int) ≤ 61 := by omega
  have HX := Lib.hid hx
  clear hx
  go_enter Tryd.func36, Tryd.ntmps36
  go_wp2_with fail
  refine (statics_any _).mono ?_; rintro e w1 ⟨b, rfl, b1, HR, _⟩
  have hrc := block_below b1 (heap_alloc_new w (.cells #[.string ⟨#[]⟩, .string ⟨#[]⟩, .bool false] 59))
  have hbw : Below w.heap.size w w1 := below_step ((Below.refl _ _).alloc (Nat.le_refl _) _) b1
  obtain ⟨d0, d1, d2⟩ : w1.cell? ⟨b, (n - 1) * 3, none⟩ = some (.string x.name) ∧ w1.cell? ⟨b, (n - 1) * 3 + 1, none⟩ = some (.string x.value) ∧ w1.cell? ⟨b, (n - 1) * 3 + 2, none⟩ = some (.bool x.never) := by
    rcases HR.out with h | ⟨b', off, e, hc⟩
    · cases h
    · simp only [Option.some.injEq, Addr.mk.injEq, and_true] at e
      obtain ⟨rfl, rfl⟩ := e
      obtain ⟨hlt, he⟩ := List.getElem?_eq_some_iff.1 HX.out
      have := CE_fd (hc (n - 1) hlt)
      rw [he] at this
      simpa [show EFd.k = 3 from rfl] using this
  obtain ⟨fn, fv, fb⟩ := x
  simp only at d0 d1 d2
  generalize hrn : w.heap.size = rc at hrc ⊢
  have HRn := Lib.hid hrn
  have r0 := cell_at hrc 0
  have r1 := cell_at hrc 1
  have r2 := cell_at hrc 2
  have g0 := frozen_of_row _ _ 0 _ _ hrc
  have g1 := frozen_of_row _ _ 1 _ _ hrc
  have g2 := frozen_of_row _ _ 2 _ _ hrc
  have HF3 := Lib.hid (heap_set3 (x := .string fn) (y := .string fv) (z := .bool fb) hrc)
  have HBe := Lib.hid (((hbw.setCell (p := ⟨rc, 0, none⟩) (by rw [hrn]; exact Nat.le_refl _) (.string fn)).setCell (p := ⟨rc, 1, none⟩) (by rw [hrn]; exact Nat.le_refl _) (.string fv)).setCell (p := ⟨rc, 2, none⟩) (by rw [hrn]; exact Nat.le_refl _) (.bool fb))
  clear hrn hrc b1 HX HR hbw
  go_wp2_with fail
  have s0 := cell_at HF3.out 0
  have s1 := cell_at HF3.out 1
  have s2 := cell_at HF3.out 2
  clear r0 r1 r2 d0 d1 d2
  exact bodyPost_ret (v := .tuple #[.agg #[.string fn, .string fv, .bool fb], .int .i64 0]) (by simp [results, Tryd.results36, go_sem, s0, s1, s2]) rfl ⟨rfl, HBe.out⟩

set_option maxHeartbeats 2000000 in
theorem rat_low (p : Addr) (n : Int) (w : World) (h0 : n ≤ 0) :
    Calls Tryd.prog 36 #[.pointer (some p), .int .i64 n] w fun e w' => e = .returned (.tuple #[.agg #[.string ⟨#[]⟩, .string ⟨#[]⟩, .bool false], .int .i64 40]) ∧ Below w.heap.size w w' := by
  have h1' : ¬ (1 : Int) ≤ n := by omega
  go_enter Tryd.func36, Tryd.ntmps36
  go_wp2_with fail
  refine (statics_any _).mono ?_; rintro e w1 ⟨b, rfl, b1, HR, _⟩
  have hrc := block_below b1 (heap_alloc_new w (.cells #[.string ⟨#[]⟩, .string ⟨#[]⟩, .bool false] 59))
  have hbw : Below w.heap.size w w1 := below_step ((Below.refl _ _).alloc (Nat.le_refl _) _) b1
  generalize hrn : w.heap.size = rc at hrc ⊢
  have HRn := Lib.hid hrn
  have r0 := cell_at hrc 0
  have r1 := cell_at hrc 1
  have r2 := cell_at hrc 2
  have g0 := frozen_of_row _ _ 0 _ _ hrc
  have g1 := frozen_of_row _ _ 1 _ _ hrc
  have g2 := frozen_of_row _ _ 2 _ _ hrc
  have HF3 := Lib.hid (heap_set3 (x := .string ⟨#[]⟩) (y := .string ⟨#[]⟩) (z := .bool false) hrc)
  have HBe := Lib.hid (((hbw.setCell (p := ⟨rc, 0, none⟩) (by rw [hrn]; exact Nat.le_refl _) (.string ⟨#[]⟩)).setCell (p := ⟨rc, 1, none⟩) (by rw [hrn]; exact Nat.le_refl _) (.string ⟨#[]⟩)).setCell (p := ⟨rc, 2, none⟩) (by rw [hrn]; exact Nat.le_refl _) (.bool false))
  clear hrn hrc b1 HR hbw
  go_wp2_with fail
  have s0 := cell_at HF3.out 0
  have s1 := cell_at HF3.out 1
  have s2 := cell_at HF3.out 2
  clear r0 r1 r2
  exact bodyPost_ret (v := .tuple #[.agg #[.string ⟨#[]⟩, .string ⟨#[]⟩, .bool false], .int .i64 40]) (by simp [results, Tryd.results36, go_sem, s0, s1, s2]) rfl ⟨rfl, HBe.out⟩

set_option maxHeartbeats 2000000 in
theorem rat_high (g m : Nat) (rows : List FdM) (L : List Nat) (n : Nat) (w : World) (h : RTab w L g m rows) (hs : rows.length ≤ 100000) (hn : 62 ≤ n) (hn2 : n ≤ 9223372036854775807) (hgt : rows.length < n - 61) :
    Calls Tryd.prog 36 #[.pointer (some ⟨g, 0, none⟩), .int .i64 n] w fun e w' => e = .returned (.tuple #[.agg #[.string ⟨#[]⟩, .string ⟨#[]⟩, .bool false], .int .i64 40]) ∧ Below w.heap.size w w' := by
  obtain ⟨ad, cap, hg, hh, hl, hm, hz, ha, hr, hk⟩ := h
  have HH := Lib.hid hh
  have h61 : ¬ (n : Int) ≤ 61 := by omega
  have h61' : (61 : Int) < n := by omega
  have hgt' : (rows.length : Int) < (n : Int) - 61 := by omega
  clear hh hr ha hk hg
  go_enter Tryd.func36, Tryd.ntmps36
  go_wp2_with fail
  refine (statics_any _).mono ?_; rintro e w1 ⟨b, rfl, b1, HR, _⟩
  have hrc := block_below b1 (heap_alloc_new w (.cells #[.string ⟨#[]⟩, .string ⟨#[]⟩, .bool false] 59))
  have hbw : Below w.heap.size w w1 := below_step ((Below.refl _ _).alloc (Nat.le_refl _) _) b1
  have c1 := cell_at (block_below hbw HH.out) 1
  generalize hrn : w.heap.size = rc at hrc ⊢
  have HRn := Lib.hid hrn
  have r0 := cell_at hrc 0
  have r1 := cell_at hrc 1
  have r2 := cell_at hrc 2
  have g0 := frozen_of_row _ _ 0 _ _ hrc
  have g1 := frozen_of_row _ _ 1 _ _ hrc
  have g2 := frozen_of_row _ _ 2 _ _ hrc
  have HF3 := Lib.hid (heap_set3 (x := .string ⟨#[]⟩) (y := .string ⟨#[]⟩) (z := .bool false) hrc)
  have HBe := Lib.hid (((hbw.setCell (p := ⟨rc, 0, none⟩) (by rw [hrn]; exact Nat.le_refl _) (.string ⟨#[]⟩)).setCell (p := ⟨rc, 1, none⟩) (by rw [hrn]; exact Nat.le_refl _) (.string ⟨#[]⟩)).setCell (p := ⟨rc, 2, none⟩) (by rw [hrn]; exact Nat.le_refl _) (.bool false))
  clear hrn hrc b1 HR hbw
  go_wp2_with fail
  have s0 := cell_at HF3.out 0
  have s1 := cell_at HF3.out 1
  have s2 := cell_at HF3.out 2
  clear r0 r1 r2
  exact bodyPost_ret (v := .tuple #[.agg #[.string ⟨#[]⟩, .string ⟨#[]⟩, .bool false], .int .i64 40]) (by simp [results, Tryd.results36, go_sem, s0, s1, s2]) rfl ⟨rfl, HBe.out⟩

set_option maxHeartbeats 2000000 in
theorem rat_rows (g m : Nat) (rows : List FdM) (L : List Nat) (n : Nat) (w : World) (h : RTab w L g m rows) (hs : rows.length ≤ 100000) (hn : 62 ≤ n) (hn2 : n ≤ 9223372036854775807) (x : FdM) (hx : rows[n - 62]? = some x) :
    Calls Tryd.prog 36 #[.pointer (some ⟨g, 0, none⟩), .int .i64 n] w fun e w' => e = .returned (.tuple #[.agg #[.string x.name, .string x.value, .bool x.never], .int .i64 0]) ∧ Below w.heap.size w w' := by
  obtain ⟨ad, cap, hg, hh, hl, hm, hz, ha, hr, hk⟩ := h
  obtain ⟨hlt, he⟩ := List.getElem?_eq_some_iff.1 hx
  obtain ⟨b2, off, rfl, hc⟩ : ∃ b off, ad = some ⟨b, off, none⟩ ∧ ∀ i, (h : i < rows.length) → Rw.CE EFd w b (off + i * 3) rows[i] := by
    rcases hr with h | ⟨b, off, h, hc⟩
    · rw [h] at hlt; simp at hlt
    · exact ⟨b, off, h, hc⟩
  have HD := Lib.hid (CE_fd (hc (n - 62) hlt))
  rw [he] at HD
  have HH := Lib.hid hh
  have h61 : ¬ (n : Int) ≤ 61 := by omega
  have h61' : (61 : Int) < n := by omega
  have hgt' : ¬ (rows.length : Int) < (n : Int) - 61 := by omega
  have hgt2 : (n : Int) - 61 ≤ rows.length := by omega
  have hi0 : (0 : Int) ≤ (n : Int) - 61 - 1 := by omega
  have hi1 : (n : Int) - 61 - 1 < rows.length := by omega
  have hi2 : ((n : Int) - 61 - 1).toNat = n - 62 := by omega
  obtain ⟨fn, fv, fb⟩ := x
  clear hh hr ha hk hg hx he hc
  go_enter Tryd.func36, Tryd.ntmps36
  go_wp2_with fail
  refine (statics_any _).mono ?_; rintro e w1 ⟨b, rfl, b1, HR, _⟩
  have hrc := block_below b1 (heap_alloc_new w (.cells #[.string ⟨#[]⟩, .string ⟨#[]⟩, .bool false] 59))
  have hbw : Below w.heap.size w w1 := below_step ((Below.refl _ _).alloc (Nat.le_refl _) _) b1
  have c1 := cell_at (block_below hbw HH.out) 1
  have d0 := below_cell hbw HD.out.1
  have d1 := below_cell hbw HD.out.2.1
  have d2 := below_cell hbw HD.out.2.2
  generalize hrn : w.heap.size = rc at hrc ⊢
  have HRn := Lib.hid hrn
  have r0 := cell_at hrc 0
  have r1 := cell_at hrc 1
  have r2 := cell_at hrc 2
  have g0 := frozen_of_row _ _ 0 _ _ hrc
  have g1 := frozen_of_row _ _ 1 _ _ hrc
  have g2 := frozen_of_row _ _ 2 _ _ hrc
  have HF3 := Lib.hid (heap_set3 (x := .string fn) (y := .string fv) (z := .bool fb) hrc)
  have HBe := Lib.hid (((hbw.setCell (p := ⟨rc, 0, none⟩) (by rw [hrn]; exact Nat.le_refl _) (.string fn)).setCell (p := ⟨rc, 1, none⟩) (by rw [hrn]; exact Nat.le_refl _) (.string fv)).setCell (p := ⟨rc, 2, none⟩) (by rw [hrn]; exact Nat.le_refl _) (.bool fb))
  clear hrn hrc b1 HR hbw
  go_wp2_with fail
  have s0 := cell_at HF3.out 0
  have s1 := cell_at HF3.out 1
  have s2 := cell_at HF3.out 2
  clear r0 r1 r2 d0 d1 d2
  exact bodyPost_ret (v := .tuple #[.agg #[.string fn, .string fv, .bool fb], .int .i64 0]) (by simp [results, Tryd.results36, go_sem, s0, s1, s2]) rfl ⟨rfl, HBe.out⟩


theorem rat_any (g m : Nat) (rows : List FdM) (L : List Nat) (n : Int) (w : World) (h : RTab w L g m rows) (hs : rows.length ≤ 100000) (hn2 : n ≤ 9223372036854775807) :
    Calls Tryd.prog 36 #[.pointer (some ⟨g, 0, none⟩), .int .i64 n] w fun e w' => e = .returned (.tuple #[.agg #[.string (atT rows n).1.name, .string (atT rows n).1.value, .bool (atT rows n).1.never], .int .i64 (atT rows n).2]) ∧ Below w.heap.size w w' := by
  by_cases h1 : 1 ≤ n ∧ n ≤ 61
  · obtain ⟨k, rfl⟩ := Int.eq_ofNat_of_zero_le (show 0 ≤ n by omega)
    have hk : k - 1 < statics.length := by rw [statics_len]; omega
    have := rat_static ⟨g, 0, none⟩ k w (by omega) (by omega) statics[k - 1] (List.getElem?_eq_getElem hk)
    have hT : atT rows k = (statics[k - 1], 0) := by
      rw [atT, if_pos h1, Int.toNat_natCast, List.getD_eq_getElem?_getD, List.getElem?_eq_getElem hk]; rfl
    rw [hT]; exact this
  · by_cases h0 : n ≤ 0
    · have := rat_low ⟨g, 0, none⟩ n w h0
      have hT : atT rows n = (⟨ByteArray.empty, ByteArray.empty, false⟩, 40) := by rw [atT, if_neg h1, if_pos (by omega)]
      rw [hT]; exact this
    · obtain ⟨k, rfl⟩ := Int.eq_ofNat_of_zero_le (show 0 ≤ n by omega)
      by_cases hgt : rows.length < k - 61
      · have := rat_high g m rows L k w h hs (by omega) (by omega) hgt
        have hT : atT rows k = (⟨ByteArray.empty, ByteArray.empty, false⟩, 40) := by rw [atT, if_neg h1, if_pos (by omega)]
        rw [hT]; exact this
      · have hk : k - 62 < rows.length := by omega
        have := rat_rows g m rows L k w h hs (by omega) (by omega) rows[k - 62] (List.getElem?_eq_getElem hk)
        have hT : atT rows k = (rows[k - 62], 0) := by
          rw [atT, if_neg h1, if_neg (by omega), Int.toNat_natCast, List.getD_eq_getElem?_getD, List.getElem?_eq_getElem hk]; rfl
        rw [hT]; exact this
end Go.Proofs.YtdkgachgohilcaaDoor

namespace Go.Proofs.YtdkgachgohilcaaDoor
open Go.RowKit
open Arg Tab Mem Go.Proofs.YtdkgachgohilcaaDoor.Obj
set_option linter.unusedVariables false

theorem str_ne {a b : ByteArray} (h : a ≠ b) : (a.toList == b.toList) = false := by
  rw [ByteArray.toList_eq, ByteArray.toList_eq, beq_eq_false_iff_ne]
  intro e
  exact h (ByteArray.ext (by simpa using e))
theorem str_eq (a : ByteArray) : (a.toList == a.toList) = true := by rw [beq_iff_eq]

set_option maxRecDepth 100000 in
set_option maxHeartbeats 4000000 in
theorem rfind_any (g m : Nat) (rows : List FdM) (f : FdM) (L : List Nat) (w : World) (h : RTab w L g m rows) (hs : rows.length ≤ 100000) :
    Calls Tryd.prog 46 #[.pointer (some ⟨g, 0, none⟩), .agg #[.string f.name, .string f.value, .bool f.never]] w fun e w' => e = .returned (.tuple #[.int .i64 (findT rows f).1, .bool (findT rows f).2]) ∧ Below w.heap.size w w' := by
  obtain ⟨i0, hi, hz0, hz1, hz2⟩ := info_parts info_fd
  have HI := Lib.hid hi
  have HZ0 := Lib.hid hz0
  have HZ1 := Lib.hid hz1
  have HZ2 := Lib.hid hz2
  have HR0 : Hid (findF f (statics ++ rows) 0 0 = findT rows f) := Lib.hid rfl
  generalize findT rows f = R at HR0 ⊢
  generalize hal : statics ++ rows = al at HR0
  have hall : al.length = 61 + rows.length := by rw [← hal, List.length_append, statics_len]
  have HAl := Lib.hid hal
  obtain ⟨ad, cap, hg, hh, hl, hm, hz, ha, hr, hk⟩ := h
  have HH := Lib.hid hh
  have HRw := Lib.hid hr
  have HZ := Lib.hid hz
  have HAd := Lib.hid ha
  have HK := Lib.hid hk
  obtain ⟨fn, fv, fb⟩ := f
  simp only
  clear hi hz0 hz1 hz2 hh hr ha hk hg hz hal
  go_enter Tryd.func46, Tryd.ntmps46
  go_wp2_with fail
  generalize hwb : w.alloc (.cells #[.string fn, .string fv, .bool fb] 59) = wb
  have hb : Below w.heap.size w wb := by rw [← hwb]; exact (Below.refl _ _).alloc (Nat.le_refl _) _
  have hbx : wb.heap[w.heap.size]? = some (.cells #[.string fn, .string fv, .bool fb] 59 (0, 0)) := by rw [← hwb]; exact heap_alloc_new w _
  have hws := hb.size
  generalize hbn : w.heap.size = bx at hbx ⊢
  have HBn := Lib.hid hbn
  have e0 : wb.cell? ⟨bx, 0, none⟩ = some (.string fn) := cell_at hbx 0
  have e1 : wb.cell? ⟨bx, 1, none⟩ = some (.string fv) := cell_at hbx 1
  have hhb := block_below hb HH.out
  have c1 : wb.cell? ⟨g, 1, none⟩ = some (.slice ad rows.length cap) := cell_at hhb 1
  have HB := Lib.hid hb
  clear hwb hbn hb hbx hhb
  have HSrc : Hid (∀ v, Below wb.drew.heap.size wb.drew v → Rw.RowE EFd v ad rows ∧ wb.heap.size ≤ v.heap.size) := Lib.hid (fun v hv => ⟨(HRw.out.below HB.out).below (((Below.refl _ wb).drew).trans hv), hv.size⟩)
  have HNums : Hid (61 + rows.length ≤ maxLen ∧ (61 + rows.length) * 40 ≤ 140737488355328 ∧ (ad = none → cap = 0 ∧ rows.length = 0)) := Lib.hid ⟨by unfold maxLen; omega, by omega, fun h => ⟨HZ.out h, by have := HZ.out h; omega⟩⟩
  have HCg : Hid (∀ v y, Below wb.drew.heap.size wb.drew v → ∀ b, wb.heap.size ≤ b → v.grownBy y (some b) → y.cell? ⟨g, 1, none⟩ = some (.slice ad rows.length cap)) := Lib.hid (fun v y hv b hb hy => by
    have hgl : g < wb.heap.size := World.block_lt_of_cell? wb ⟨g, 1, none⟩ c1
    have hvs : wb.heap.size ≤ v.heap.size := hv.size
    refine (World.cell?_of_block (a := ⟨g, 1, none⟩) (hy.block g (show g < v.heap.size by omega) (by intro e; simp only [Option.some.injEq] at e; omega))).trans ?_
    exact below_cell hv c1)
  go_region_held3 (fun w' => w'.cell? ⟨g, 1, none⟩ = some (.slice ad rows.length cap))
    (first | go_keep | exact below_cell b1 c1 | exact HCg.out _ _ b1 b (Rw.own_blk HOS.out b 0 none rfl).1 hg4.out)
    ((first | (go_at_call 57; refine (statics_any _).mono ?_; rintro e w1 ⟨b, rfl, b1, HRS, HOS⟩)
            | (refine Rw.step_append_rows EFd Tryd.underlying31 HI.out HZ0.out HZ1.out HZ2.out rfl rfl (.tmp 9) (.tmp 13) rfl _ (.slice (some ⟨b, 0, none⟩) 61 61) 61 statics rfl statics_len.symm HOS.out ad rows.length rows cap rfl rfl HNums.out.2.2 (HSrc.out _ b1).1 HNums.out.1 HNums.out.2.1 (HSrc.out _ b1).2 ?_; intro ad4 cap4 w4 hown4 hg4)))
  have hbb := Rw.own_blk HOS.out b 0 none rfl
  have HRow : Hid (Rw.RowE EFd w4 ad4 al) := Lib.hid (by
    have h := hown4.out
    rw [HAl.out] at h
    refine Rw.RowE.of_own (n := 61 + rows.length) (cap := cap4) (base := wb.drew.heap.size) (e := 59) ?_
    rw [hall]; exact h)
  have hc4 : 61 + rows.length ≤ cap4 := (Rw.own_len hown4.out).2.1
  have hm4 : cap4 ≤ maxLen := (Rw.own_len hown4.out).2.2.1
  have hw1s : wb.heap.size ≤ w1.heap.size := b1.size
  have hx : ∀ k, k < wb.heap.size → w4.heap[k]? = wb.heap[k]? := fun k hk => (hg4.out.block k (by omega) (by intro e; simp only [Value.ownBlock, Option.some.injEq] at e; have : wb.heap.size ≤ b := hbb.1; omega)).trans (b1.block k hk)
  have hbl : bx < wb.heap.size := World.block_lt_of_cell? wb ⟨bx, 0, none⟩ e0
  have HE0 : Hid (w4.cell? ⟨bx, 0, none⟩ = some (.string fn)) := Lib.hid ((World.cell?_of_block (a := ⟨bx, 0, none⟩) (hx bx hbl)).trans e0)
  have HE1 : Hid (w4.cell? ⟨bx, 1, none⟩ = some (.string fv)) := Lib.hid ((World.cell?_of_block (a := ⟨bx, 1, none⟩) (hx bx hbl)).trans e1)
  have HB4 : Hid (Below w.heap.size w w4) := Lib.hid ((HB.out.drew.trans (b1.mono hws)).grown hg4.out (by omega) (fun k hk => by simp only [Value.ownBlock, Option.some.injEq] at hk; have : wb.heap.size ≤ b := hbb.1; omega))
  clear hbb hw1s hx hbl hown4 hg4 HRS HOS b1 HCg HNums HSrc HB c1 e0 e1 HK HAd HZ HRw HH HAl HI HZ0 HZ1 HZ2
  rw [← hall] at hc4 ⊢
  generalize hN : al.length = N at hc4 ⊢
  have hN2 : N ≤ 100061 := by omega
  have HN := Lib.hid hN
  clear hN hall
  go_wp2_with fail
  go_loopw [7, 8] (fun vn vi wr => ∃ (k near : Nat), k ≤ N ∧ near ≤ k ∧ vi = .int .i64 k ∧ vn = .int .i64 near ∧ Hid (findF ⟨fn, fv, fb⟩ (al.drop k) k near = R) ∧ Below w4.heap.size w4 wr) (fun _ vi _ => N - (intOf vi).toNat)
  case atStart => exact ⟨0, 0, by omega, by omega, rfl, rfl, Lib.hid (by rw [List.drop_zero]; exact HR0.out), Below.refl _ _⟩
  case round =>
    clear HR0
    obtain ⟨k, near, hk, hnear, rfl, rfl, HF, hbel⟩ := hrel
    by_cases hlt : k < N
    · have hlt' : (k : Int) < N := by omega
      have hlr : k < al.length := by rw [HN.out]; exact hlt
      obtain ⟨bl, off, rfl, hc⟩ : ∃ b off, ad4 = some ⟨b, off, none⟩ ∧ ∀ i, (h : i < al.length) → Rw.CE EFd w4 b (off + i * 3) al[i] := by
        rcases HRow.out with h | h
        · rw [h] at hlr; simp at hlr
        · exact h
      obtain ⟨d0, d1, d2⟩ := CE_fd (hc k hlr)
      have x0 := below_cell hbel d0
      have x1 := below_cell hbel d1
      have y0 := below_cell hbel HE0.out
      have y1 := below_cell hbel HE1.out
      have HF1 : Hid (findF ⟨fn, fv, fb⟩ (al[k] :: al.drop (k + 1)) k near = R) := Lib.hid (by rw [← List.drop_eq_getElem_cons hlr]; exact HF.out)
      clear d0 d1 d2 hc HF
      generalize al[k] = x at *
      obtain ⟨xn, xv, xb⟩ := x
      simp only at x0 x1
      have HF2 : Hid ((if xn = fn then (if xv = fv then (k + 1, true) else findF ⟨fn, fv, fb⟩ (al.drop (k + 1)) (k + 1) (if near = 0 then k + 1 else near)) else findF ⟨fn, fv, fb⟩ (al.drop (k + 1)) (k + 1) near) = R) := HF1
      clear HF1
      have hk0 : (0 : Int) ≤ k := by omega
      have hkN : (k : Int) < (N : Int) := hlt'
      by_cases hq : xn = fn
      · subst hq
        have hq1 := str_eq xn
        rw [if_pos rfl] at HF2
        by_cases hv : xv = fv
        · subst hv
          have hv1 := str_eq xv
          have hR : R = (k + 1, true) := by rw [← HF2.out, if_pos rfl]
          subst hR
          clear HF2
          have HBB := Lib.hid (HB4.out.trans (hbel.mono HB4.out.size))
          go_wp2_with fail
          go_quiet (fail)
          go_wp2_with fail
          go_quiet (fail)
          go_wp2_with fail
          go_ret2
          exact ⟨by simp, below_drewN HBB.out _⟩
        · have hv1 := str_ne hv
          rw [if_neg hv] at HF2
          clear hv
          by_cases hz : near = 0
          · have hz1 : ((near : Int) == 0) = true := by rw [beq_iff_eq]; omega
            rw [if_pos hz] at HF2
            clear hz
            go_wp2_with fail
            go_quiet (fail)
            go_wp2_with fail
            go_quiet (fail)
            go_wp2_with fail
            go_roundw
            case rel => exact ⟨k + 1, k + 1, by omega, by omega, by go_num, by go_num, HF2, below_drewN hbel _⟩
            case measure => simp [intOf]; omega
          · have hz1 : ((near : Int) == 0) = false := by rw [beq_eq_false_iff_ne]; omega
            rw [if_neg hz] at HF2
            clear hz
            go_wp2_with fail
            go_quiet (fail)
            go_wp2_with fail
            go_quiet (fail)
            go_wp2_with fail
            go_roundw
            case rel => exact ⟨k + 1, near, by omega, by omega, by go_num, rfl, HF2, below_drewN hbel _⟩
            case measure => simp [intOf]; omega
      · have hq1 := str_ne hq
        have HF3 : Hid (findF ⟨fn, fv, fb⟩ (al.drop (k + 1)) (k + 1) near = R) := Lib.hid (by have h := HF2.out; rwa [if_neg hq] at h)
        clear HF2 hq
        go_wp2_with fail
        go_quiet (fail)
        go_wp2_with fail
        go_roundw
        case rel => exact ⟨k + 1, near, by omega, by omega, by go_num, rfl, HF3, below_drewN hbel _⟩
        case measure => simp [intOf]; omega
    · have hlt' : ¬ (k : Int) < N := by omega
      have hR : R = (near, false) := by rw [← HF.out, List.drop_of_length_le (by rw [HN.out]; omega)]; rfl
      subst hR
      clear HF
      have hB := HB4.out.trans (hbel.mono HB4.out.size)
      go_wp2_with fail
      go_ret2
      exact ⟨rfl, hB⟩
end Go.Proofs.YtdkgachgohilcaaDoor

namespace Go.Proofs.YtdkgachgohilcaaDoor
open Go.RowKit
open Arg Tab Mem Go.Proofs.YtdkgachgohilcaaDoor.Obj
set_option linter.unusedVariables false
set_option maxRecDepth 100000

/-- The first of two numbers that isn't 0. -/
theorem por_any (b : Nat) (x y : Int) (w : World) (c0 : w.cell? ⟨b, 0, none⟩ = some (.int .i64 x)) (c1 : w.cell? ⟨b, 1, none⟩ = some (.int .i64 y)) :
    Calls Tryd.prog 81 #[.slice (some ⟨b, 0, none⟩) 2 2] w fun e w' => e = .returned (.int .i64 (if x ≠ 0 then x else y)) ∧ Below w.heap.size w w' := by
  have C0 := Lib.hid c0
  have C1 := Lib.hid c1
  clear c0 c1
  go_enter Tryd.func81, Tryd.ntmps81
  go_wp2_with fail
  go_loopw [8] (fun vi wr => ∃ k : Nat, k ≤ 2 ∧ vi = .int .i64 k ∧ wr = w ∧ Hid ((0 < k → x = 0) ∧ (1 < k → y = 0))) (fun vi _ => 2 - (intOf vi).toNat)
  case atStart => exact ⟨0, by omega, rfl, rfl, Lib.hid ⟨fun h => by omega, fun h => by omega⟩⟩
  case round =>
    obtain ⟨k, hk, rfl, rfl, HZ⟩ := hrel
    have c0 := C0.out
    have c1 := C1.out
    rcases (show k = 0 ∨ k = 1 ∨ k = 2 by omega) with rfl | rfl | rfl
    · by_cases hx : x = 0
      · subst hx
        clear HZ
        go_wp2_with fail
        go_roundw
        case rel => exact ⟨1, by omega, rfl, trivial, Lib.hid (by simp)⟩
        case measure => simp [intOf]
      · clear HZ
        go_wp2_with fail
        go_ret
        exact ⟨by simp [hx], Below.refl _ _⟩
    · have hx : x = 0 := HZ.out.1 (by omega)
      subst hx
      by_cases hy : y = 0
      · subst hy
        clear HZ
        go_wp2_with fail
        go_roundw
        case rel => exact ⟨2, by omega, rfl, trivial, Lib.hid (by simp)⟩
        case measure => simp [intOf]
      · clear HZ
        go_wp2_with fail
        go_ret
        exact ⟨by simp, Below.refl _ _⟩
    · have hx : x = 0 := HZ.out.1 (by omega)
      have hy : y = 0 := HZ.out.2 (by omega)
      subst hx hy
      clear HZ
      go_wp2_with fail
      go_ret
      exact ⟨by simp, Below.refl _ _⟩

set_option maxHeartbeats 2000000 in
theorem pfindfixed_any (n v : ByteArray) (w : World) :
    Calls Tryd.prog 79 #[.agg #[.string n, .string v]] w fun e w' => e = .returned (.tuple #[.int .i64 (fixF ⟨n, v, false⟩ statics 0 0).1, .int .i64 (fixF ⟨n, v, false⟩ statics 0 0).2]) ∧ Below w.heap.size w w' := by
  have HFx := Lib.hid (fun v => pfixed_any v)
  have HIx := Lib.hid (fun (k : Nat) (h : k < fixL.length) v => index_fix k h v)
  generalize hR : fixF ⟨n, v, false⟩ statics 0 0 = R
  have HR := Lib.hid hR
  clear hR
  generalize FIX = F at HFx HIx
  go_enter Tryd.func79, Tryd.ntmps79
  go_wp2_with fail
  have hbx := heap_alloc_new w (.cells #[.string n, .string v] 118)
  have hB : Below w.heap.size w (w.alloc (.cells #[.string n, .string v] 118)) := (Below.refl _ _).alloc (Nat.le_refl _) _
  generalize (w.alloc (.cells #[.string n, .string v] 118)) = w1 at hbx hB ⊢
  refine (HFx.out _).mono ?_; rintro e w2 ⟨rfl, b2⟩
  replace hbx := block_below b2 hbx
  replace hB := below_step hB b2
  clear b2 HFx
  generalize hbn : w.heap.size = bx at hbx ⊢
  have HBx := Lib.hid hbx
  have HB := Lib.hid hB
  clear hbx hB
  have HFn : Hid (∀ y, Below w2.heap.size w2 y → Below bx w y) := Lib.hid (fun y hy => by rw [← hbn]; exact below_step HB.out hy)
  have hlt1 : bx < w2.heap.size := (Array.getElem?_eq_some_iff.1 HBx.out).1
  go_wp2_with fail
  go_loopw [3, 7] (fun vn vi wr => ∃ (k near : Nat), k ≤ 62 ∧ near ≤ 62 ∧ vi = .int .i64 k ∧ vn = .int .i64 near ∧ Hid (fixF ⟨n, v, false⟩ (statics.drop (k - 1)) (k - 1) near = R) ∧ Below w2.heap.size w2 wr) (fun _ vi _ => 62 - (intOf vi).toNat)
  case atStart => exact ⟨0, 0, by omega, by omega, rfl, rfl, HR, Below.refl _ _⟩
  case round =>
    clear HR
    obtain ⟨k, near, hk, hnear, rfl, rfl, HF, hbel⟩ := hrel
    have y0 := below_cell hbel (cell_at HBx.out 0)
    have y1 := below_cell hbel (cell_at HBx.out 1)
    by_cases hlt : k < 62
    · have hlt' : (k : Int) < 62 := by omega
      have hix := HIx.out k (by rw [fixL_len]; exact hlt)
      by_cases hk0 : k = 0
      · subst hk0
        generalize fixL[0] = x at hix
        obtain ⟨xn, xv, xb⟩ := x
        simp only at hix
        have hix0 : ∀ v, (Instr.index 119 (.agg F) (.int .i64 0)).run Tryd.prog v = .ok (.agg #[.string xn, .string xv]) v := hix
        clear hix
        go_wp2_with fail
        have hbel2 := hbel.alloc hbel.size (.cells #[.string xn, .string xv] 118)
        go_roundw
        case rel => exact ⟨1, near, by omega, by omega, rfl, rfl, HF, hbel2⟩
        case measure => simp [intOf]
      · have hk1 : k - 1 < statics.length := by rw [statics_len]; omega
        have hfx : fixL[k]'(by rw [fixL_len]; exact hlt) = statics[k - 1] := by
          have h : fixL[k]? = some (statics[k - 1]'hk1) := by
            cases k with
            | zero => exact absurd rfl hk0
            | succ j => simp [fixL]
          exact (List.getElem?_eq_some_iff.1 h).2
        rw [hfx] at hix
        have HF1 : Hid (fixF ⟨n, v, false⟩ (statics[k - 1] :: statics.drop k) (k - 1) near = R) := Lib.hid (by
          have h := HF.out
          rw [List.drop_eq_getElem_cons hk1, show k - 1 + 1 = k by omega] at h
          exact h)
        clear HF hfx
        generalize statics[k - 1] = x at hix HF1
        obtain ⟨xn, xv, xb⟩ := x
        simp only at hix
        have HF2 : Hid ((if xn = n then (if xv = v then (k, if near = 0 then k else near) else fixF ⟨n, v, false⟩ (statics.drop k) k (if near = 0 then k else near)) else fixF ⟨n, v, false⟩ (statics.drop k) k near) = R) := Lib.hid (by
          have h := HF1.out
          rw [fixF_cons, show k - 1 + 1 = k by omega] at h
          exact h)
        clear HF1
        have hk0' : decide ((k : Int) = 0) = false := by simp; omega
        have hk0b : ((k : Int) == 0) = false := by rw [beq_eq_false_iff_ne]; omega
        have z0 : ∀ o, (wr.alloc o).cell? ⟨bx, 0, none⟩ = some (.string n) := fun o => (World.cell?_alloc_some wr ⟨bx, 0, none⟩ o (by rw [y0]; rfl)).trans y0
        have z1 : ∀ o, (wr.alloc o).cell? ⟨bx, 1, none⟩ = some (.string v) := fun o => (World.cell?_alloc_some wr ⟨bx, 1, none⟩ o (by rw [y1]; rfl)).trans y1
        have hbel2 := hbel.alloc hbel.size (.cells #[.string xn, .string xv] 118)
        have HBel2 := Lib.hid hbel2
        by_cases hq : xn = n
        · subst hq
          have hq1 := str_eq xn
          rw [if_pos rfl] at HF2
          by_cases hz : near = 0
          · have hz1 : ((near : Int) == 0) = true := by rw [beq_iff_eq]; omega
            rw [if_pos hz] at HF2
            subst hz
            by_cases hv : xv = v
            · subst hv
              have hv1 := str_eq xv
              have hR : R = (k, k) := by rw [← HF2.out, if_pos rfl]
              subst hR
              clear HF2
              have HBB := Lib.hid (HFn.out _ HBel2.out)
              clear hbel2
              go_wp2_with fail
              go_ret2
              exact ⟨rfl, HBB.out⟩
            · have hv1 := str_ne hv
              rw [if_neg hv] at HF2
              clear hv hbel2
              go_wp2_with fail
              go_roundw
              case rel => exact ⟨k + 1, k, by omega, by omega, by go_num, by go_num, by simpa using HF2, HBel2.out⟩
              case measure => simp [intOf]; omega
          · have hz1 : ((near : Int) == 0) = false := by rw [beq_eq_false_iff_ne]; omega
            rw [if_neg hz] at HF2
            by_cases hv : xv = v
            · subst hv
              have hv1 := str_eq xv
              have hR : R = (k, near) := by rw [← HF2.out, if_pos rfl]
              subst hR
              have HBB := Lib.hid (HFn.out _ HBel2.out)
              clear HF2 hbel2 hz
              go_wp2_with fail
              go_ret2
              exact ⟨rfl, HBB.out⟩
            · have hv1 := str_ne hv
              rw [if_neg hv] at HF2
              clear hv hbel2 hz
              go_wp2_with fail
              go_roundw
              case rel => exact ⟨k + 1, near, by omega, by omega, by go_num, rfl, by simpa using HF2, HBel2.out⟩
              case measure => simp [intOf]; omega
        · have hq1 := str_ne hq
          have HF3 : Hid (fixF ⟨n, v, false⟩ (statics.drop k) k near = R) := Lib.hid (by have h := HF2.out; rwa [if_neg hq] at h)
          clear HF2 hq hbel2
          go_wp2_with fail
          go_roundw
          case rel => exact ⟨k + 1, near, by omega, by omega, by go_num, rfl, by simpa using HF3, HBel2.out⟩
          case measure => simp [intOf]; omega
    · have hlt' : ¬ (k : Int) < 62 := by omega
      have hR : R = (0, near) := by rw [← HF.out, List.drop_of_length_le (by rw [statics_len]; omega)]; rfl
      subst hR
      clear HF
      have HBB := Lib.hid (HFn.out _ hbel)
      go_wp2_with fail
      go_ret2
      exact ⟨rfl, HBB.out⟩

theorem pnumber_same (g c0 p : Nat) (w : World) (h : w.cell? ⟨g, 3, none⟩ = some (.int .i64 c0)) (hc : c0 ≤ 1000000) (hp : p ≤ c0) :
    Calls Tryd.prog 99 #[.pointer (some ⟨g, 0, none⟩), .int .i64 p] w fun e w' => e = .returned (.int .i64 (if p = 0 then 0 else 62 + c0 - p : Nat)) ∧ w = w' := by
  go_enter Tryd.func99, Tryd.ntmps99
  by_cases h0 : p = 0
  · subst h0
    go_wp2_with fail
    go_ret
    exact ⟨rfl, rfl⟩
  · have h0' : ¬ (p : Int) = 0 := by omega
    go_wp2_with fail
    go_ret
    exact ⟨by rw [show ((62 + c0 - p : Nat) : Int) = 62 + c0 - p by omega]; rfl, rfl⟩

/-- The number of what a map tells. -/
def nmOf (c0 : Nat) : Option Nat → Nat
  | some k => 62 + c0 - k
  | none => 0
theorem nmOf_getD (c0 : Nat) (o : Option Nat) (h : ∀ k, o = some k → 0 < k) : (if o.getD 0 = 0 then 0 else 62 + c0 - o.getD 0) = nmOf c0 o := by
  cases o with
  | none => rfl
  | some k =>
    have := h k rfl
    simp only [Option.getD_some, nmOf]
    rw [if_neg (by omega)]

theorem inV_getD {κ : Type} (h : κ → Option Nat) (x : κ) : (inV h x).getD (.int .i64 0) = .int .i64 ((h x).getD 0 : Nat) := by
  unfold inV; cases h x <;> rfl
theorem pcame_nil (n v : ByteArray) (w : World) :
    Calls Tryd.prog 80 #[.pointer none, .agg #[.string n, .string v]] w fun e w' => e = .returned (.tuple #[.int .i64 0, .int .i64 0]) ∧ Below w.heap.size w w' := by
  go_enter Tryd.func80, Tryd.ntmps80
  go_wp2_with fail
  go_ret2
  exact ⟨rfl, (Below.refl _ _).alloc (Nat.le_refl _) _⟩

set_option maxHeartbeats 2000000 in
theorem pcame_any (L : List Nat) (g m c : Nat) (rows : List FdM) (n v : ByteArray) (w : World) (h : PTab w L g m rows c) (hn : n.size ≤ maxLen) (hv : v.size ≤ maxLen) :
    Calls Tryd.prog 80 #[.pointer (some ⟨g, 0, none⟩), .agg #[.string n, .string v]] w fun e w' => ∃ c0 : Nat, rows.length ≤ c0 ∧ e = .returned (.tuple #[.int .i64 (nmOf c0 (plc nmV (n, v) rows c0)), .int .i64 (nmOf c0 (plc (·.name) n rows c0))]) ∧ Below w.heap.size w w' := by
  obtain ⟨⟨c0, ad, cap, bk1, bk2, n1, n2, hP, _⟩, _⟩ := h
  have hB : Below w.heap.size w (w.alloc (.cells #[.string n, .string v] 118)) := (Below.refl _ _).alloc (Nat.le_refl _) _
  have hbx := heap_alloc_new w (.cells #[.string n, .string v] 118)
  have hP1 := hP.below hB
  obtain ⟨_, hh, hq, hm1, hm2, hl, hc1, hr⟩ := hP1
  have hp1 : ∀ k, plc nmV (n, v) rows c0 = some k → 0 < k ∧ k ≤ c0 := fun k hk => by have := plc_range nmV (n, v) rows c0 k hl hk; omega
  have hp2 : ∀ k, plc (fun f : FdM => f.name) n rows c0 = some k → 0 < k ∧ k ≤ c0 := fun k hk => by have := plc_range (fun f : FdM => f.name) n rows c0 k hl hk; omega
  have hlk1 : ∀ k, (Instr.lookup 94 (.map (some bk1)) (.agg #[.string n, .string v]) false).run Tryd.prog ((w.alloc (.cells #[.string n, .string v] 118)).drewN k) = .ok (.int .i64 ((plc nmV (n, v) rows c0).getD 0 : Nat)) ((w.alloc (.cells #[.string n, .string v] 118)).drewN k) := fun k => by
    have h := Mp.MapF.look (Mp.MapF.block (w' := (w.alloc (.cells #[.string n, .string v] 118)).drewN k) hm1 rfl) keysRow Tryd.underlying94 (zero_int _) (x := (n, v)) ⟨hn, hv⟩
    rw [show ecRow (n, v) = .agg #[.string n, .string v] from rfl] at h
    rw [h, inV_getD]
  have hlk2 : ∀ k, (Instr.lookup 95 (.map (some bk2)) (.string n) false).run Tryd.prog ((w.alloc (.cells #[.string n, .string v] 118)).drewN k) = .ok (.int .i64 ((plc (fun f : FdM => f.name) n rows c0).getD 0 : Nat)) ((w.alloc (.cells #[.string n, .string v] 118)).drewN k) := fun k => by
    have h := Mp.MapF.look (Mp.MapF.block (w' := (w.alloc (.cells #[.string n, .string v] 118)).drewN k) hm2 rfl) keysNam Tryd.underlying95 (zero_int _) (x := n) hn
    rw [show ecNam n = .string n from rfl] at h
    rw [h, inV_getD]
  have hz1 := nmOf_getD c0 _ (fun k hk => (hp1 k hk).1)
  have hz2 := nmOf_getD c0 _ (fun k hk => (hp2 k hk).1)
  suffices H : Calls Tryd.prog 80 #[.pointer (some ⟨g, 0, none⟩), .agg #[.string n, .string v]] w fun e w' => e = .returned (.tuple #[.int .i64 (if (plc nmV (n, v) rows c0).getD 0 = 0 then 0 else 62 + c0 - (plc nmV (n, v) rows c0).getD 0 : Nat), .int .i64 (if (plc (fun f : FdM => f.name) n rows c0).getD 0 = 0 then 0 else 62 + c0 - (plc (fun f : FdM => f.name) n rows c0).getD 0 : Nat)]) ∧ Below w.heap.size w w' from
    H.mono (fun e w' h => ⟨c0, hl, by rw [← hz1, ← hz2]; exact h.1, h.2⟩)
  clear hz1 hz2
  have hq1 : (plc nmV (n, v) rows c0).getD 0 ≤ c0 := by
    cases hx : plc nmV (n, v) rows c0 with
    | none => exact Nat.zero_le _
    | some k => exact (hp1 k hx).2
  have hq2 : (plc (fun f : FdM => f.name) n rows c0).getD 0 ≤ c0 := by
    cases hx : plc (fun f : FdM => f.name) n rows c0 with
    | none => exact Nat.zero_le _
    | some k => exact (hp2 k hx).2
  have k3 := cell_at hh 3
  have k4 := cell_at hh 4
  have k5 := cell_at hh 5
  have e0 := cell_at hbx 0
  have e1 := cell_at hbx 1
  clear hP hbx hh hq hm1 hm2 hr hp1 hp2
  obtain ⟨nf, hnf⟩ : ∃ nf : Nat → Nat, ∀ q, (if q = 0 then 0 else 62 + c0 - q) = nf q := ⟨_, fun _ => rfl⟩
  simp only [hnf]
  generalize (plc nmV (n, v) rows c0).getD 0 = q1 at *
  generalize (plc (fun f : FdM => f.name) n rows c0).getD 0 = q2 at *
  go_enter Tryd.func80, Tryd.ntmps80
  go_wp2_with fail
  generalize (w.alloc (.cells #[.string n, .string v] 118)) = w1 at *
  generalize hbn : w.heap.size = bx at *
  have HN := Lib.hid (fun q (hq : q ≤ c0) => pnumber_same g c0 q w1.drew k3 hc1 hq)
  simp only [hnf] at HN
  have HBl := Lib.hid hB
  clear hB hnf
  have hlk1' := hlk1 1
  have hlk2' := hlk2 1
  rw [show w1.drewN 1 = w1.drew from rfl] at hlk1' hlk2'
  clear hlk1 hlk2
  go_region_held3 (fun w' => w'.cell? ⟨bx, 0, none⟩ = some (.string n) ∧ w'.cell? ⟨bx, 1, none⟩ = some (.string v) ∧ w'.cell? ⟨g, 4, none⟩ = some (.map (some bk1)) ∧ w'.cell? ⟨g, 5, none⟩ = some (.map (some bk2)))
    (first | exact ⟨e0, e1, k4, k5⟩ | go_keep)
    ((go_at_call 99; refine (HN.out _ (by assumption)).mono ?_; rintro e w2 ⟨rfl, rfl⟩))
  all_goals
    go_wp2_with fail
    go_ret2
    exact ⟨rfl, by rw [hbn]; exact HBl.out.drew⟩

theorem porN (x y r : Nat) (hr : r = if x ≠ 0 then x else y) (w : World) :
    Calls Tryd.prog 81 #[.slice (some ⟨w.heap.size, 0, none⟩) 2 2] (w.alloc (.cells #[.int .i64 x, .int .i64 y] 3)) fun e w' => e = .returned (.int .i64 r) ∧ Below w.heap.size w w' := by
  have hh := heap_alloc_new w (.cells #[.int .i64 x, .int .i64 y] 3)
  refine (por_any w.heap.size x y _ (cell_at hh 0) (cell_at hh 1)).mono ?_
  rintro e w' ⟨rfl, hb⟩
  refine ⟨?_, below_step ((Below.refl _ _).alloc (Nat.le_refl _) _) hb⟩
  rw [hr]
  by_cases h : x = 0
  · simp [h]
  · have h' : ¬ (x : Int) = 0 := by omega
    simp [h, h']

theorem pfind_gen (p : Option Addr) (f : FdM) (rows : List FdM) (w : World) (HC : Hid (∀ v, Below w.heap.size w v → Calls Tryd.prog 80 #[.pointer p, .agg #[.string f.name, .string f.value]] v fun e w' => ∃ c0 : Nat, rows.length ≤ c0 ∧ e = .returned (.tuple #[.int .i64 (nmOf c0 (plc nmV (f.name, f.value) rows c0)), .int .i64 (nmOf c0 (plc (·.name) f.name rows c0))]) ∧ Below v.heap.size v w')) :
    Calls Tryd.prog 63 #[.pointer p, .agg #[.string f.name, .string f.value, .bool f.never]] w fun e w' => e = .returned (.tuple #[.int .i64 (findT rows f).1, .bool (findT rows f).2]) ∧ Below w.heap.size w w' := by
  have HP := Lib.hid (findT_parts rows f)
  have HX := Lib.hid (fixF_fst ⟨f.name, f.value, false⟩ statics 0 0)
  have HFF := Lib.hid (fun v => pfindfixed_any f.name f.value v)
  generalize fixF ⟨f.name, f.value, false⟩ statics 0 0 = X at HX HFF
  generalize findT rows f = R at HP ⊢
  obtain ⟨fn, fv, fb⟩ := f
  obtain ⟨s1, s2⟩ := X
  simp only at HC HFF HX ⊢
  go_enter Tryd.func63, Tryd.ntmps63
  go_wp2_with fail
  have hB0 : Below w.heap.size w ((w.alloc (.cells #[.string fn, .string fv, .bool fb] 59)).alloc (.cells #[.string fn, .string fv] 118)) := ((Below.refl _ _).alloc (Nat.le_refl _) _).alloc (by simp) _
  have hbx : ((w.alloc (.cells #[.string fn, .string fv, .bool fb] 59)).alloc (.cells #[.string fn, .string fv] 118)).heap[w.heap.size + 1]? = some (.cells #[.string fn, .string fv] 118 (0, 0)) := by
    have h := heap_alloc_new (w.alloc (.cells #[.string fn, .string fv, .bool fb] 59)) (.cells #[.string fn, .string fv] 118)
    rwa [show (w.alloc (.cells #[.string fn, .string fv, .bool fb] 59)).heap.size = w.heap.size + 1 by simp] at h
  generalize ((w.alloc (.cells #[.string fn, .string fv, .bool fb] 59)).alloc (.cells #[.string fn, .string fv] 118)) = w1 at hB0 hbx ⊢
  refine (HFF.out _).mono ?_; rintro e w2 ⟨rfl, b2⟩
  have hB2 := below_step hB0 b2
  have hbx2 := block_below b2 hbx
  have e0 := cell_at hbx2 0
  have e1 := cell_at hbx2 1
  have HB2 := Lib.hid hB2
  generalize w.heap.size + 1 = bx at *
  clear hbx hbx2 hB0 hB2 b2 HFF
  go_wp2_with fail
  refine (HC.out _ HB2.out).mono ?_; rintro e w3 ⟨c0, hc0, rfl, b3⟩
  have HB3 := Lib.hid (below_step HB2.out b3)
  obtain ⟨x1, hx1⟩ : ∃ x1, x1 = nmOf c0 (plc nmV (fn, fv) rows c0) := ⟨_, rfl⟩
  obtain ⟨x2, hx2⟩ : ∃ x2, x2 = nmOf c0 (plc (·.name) fn rows c0) := ⟨_, rfl⟩
  have hRes := HP.out c0 hc0 s1 s2 x1 x2 HX.out.1 HX.out.2 (by rw [hx1]; unfold nmOf; rfl) (by rw [hx2]; unfold nmOf; rfl)
  rw [← hx1, ← hx2]
  have HRes := Lib.hid hRes
  clear hRes hx1 hx2 HP HX HC b3 e0 e1
  obtain ⟨r1, hr1⟩ : ∃ r1, r1 = if s1 ≠ 0 then s1 else x1 := ⟨_, rfl⟩
  obtain ⟨r2, hr2⟩ : ∃ r2, r2 = if s2 ≠ 0 then s2 else x2 := ⟨_, rfl⟩
  rw [← hr1, ← hr2] at HRes
  have HO1 := Lib.hid (fun v => porN s1 x1 r1 hr1 v)
  have HO2 := Lib.hid (fun v => porN s2 x2 r2 hr2 v)
  clear hr1 hr2
  go_wp2_with fail
  refine (HO1.out _).mono ?_; rintro e w4 ⟨rfl, b4⟩
  have HB4 := Lib.hid (below_step HB3.out b4)
  clear b4
  by_cases h1 : r1 = 0
  · have hR : R = (r2, false) := by rw [HRes.out, if_neg (by simp [h1])]
    subst hR h1
    clear HRes
    go_wp2_with fail
    refine (HO2.out _).mono ?_; rintro e w5 ⟨rfl, b5⟩
    have HB5 := Lib.hid (below_step HB4.out b5)
    clear b5
    go_wp2_with fail
    go_ret2
    exact ⟨rfl, HB5.out⟩
  · have hR : R = (r1, true) := by rw [HRes.out, if_pos h1]
    have h1' : ¬ (r1 : Int) = 0 := by omega
    subst hR
    clear HRes
    go_wp2_with fail
    go_ret2
    exact ⟨rfl, HB4.out⟩

theorem pfind_any (L : List Nat) (g m c : Nat) (rows : List FdM) (f : FdM) (w : World) (h : PTab w L g m rows c) (hn : f.name.size ≤ maxLen) (hv : f.value.size ≤ maxLen) :
    Calls Tryd.prog 63 #[.pointer (some ⟨g, 0, none⟩), .agg #[.string f.name, .string f.value, .bool f.never]] w fun e w' => e = .returned (.tuple #[.int .i64 (findT rows f).1, .bool (findT rows f).2]) ∧ Below w.heap.size w w' :=
  pfind_gen _ f rows w (Lib.hid (fun v hb => pcame_any L g m c rows f.name f.value v (h.below hb) hn hv))
theorem pfind_nil (f : FdM) (w : World) :
    Calls Tryd.prog 63 #[.pointer none, .agg #[.string f.name, .string f.value, .bool f.never]] w fun e w' => e = .returned (.tuple #[.int .i64 (findT [] f).1, .bool (findT [] f).2]) ∧ Below w.heap.size w w' :=
  pfind_gen _ f [] w (Lib.hid (fun v hb => (pcame_nil f.name f.value v).mono (fun e w' h => ⟨0, Nat.le_refl _, h.1, h.2⟩)))
end Go.Proofs.YtdkgachgohilcaaDoor
