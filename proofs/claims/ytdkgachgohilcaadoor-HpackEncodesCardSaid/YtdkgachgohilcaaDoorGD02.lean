/- A table at any place: the document's At. A table at any place: the document's Find. A table at any place: the document's Add, whole. Layer 5: the document's decoder in memory; bitsOf, literal. Layer 5: the document's literal. -/
import Derived.Test.YtdkgachgohilcaaDoorRows
import Derived.Test.YtdkgachgohilcaaDoorGP05
import Derived.Test.YtdkgachgohilcaaDoorGP02
import Derived.Test.YtdkgachgohilcaaDoorGP03
import Derived.Test.YtdkgachgohilcaaDoorGP12
import Derived.Test.YtdkgachgohilcaaDoorGP13
import Derived.Test.YtdkgachgohilcaaDoorGD01
import Derived.WalkKit
import Derived.WalkSpells
import Derived.WalkLawsBesides
import Derived.Lib.Hide
import Derived.Outline
import Derived.IntWalk
import Derived.RegionTactic
import Derived.BigQuiet
import Derived.Deep.QuietTactic
import Derived.Deep.RegionLaw
import Derived.Deep.RegionHeld3
import Derived.Test.YtdkgachgohilcaaDoorGP06
import Derived.Test.YtdkgachgohilcaaDoorGP19
import Derived.Test.YtdkgachgohilcaaDoorGP14
import Derived.Test.YtdkgachgohilcaaDoorGP18
set_option linter.unusedVariables false
set_option linter.unusedSimpArgs false
namespace Go.Proofs.YtdkgachgohilcaaDoor
open Go.RowKit
open Arg Tab Mem Go.Proofs.YtdkgachgohilcaaDoor.Obj
set_option linter.unusedVariables false

set_option maxHeartbeats 2000000 in
theorem gat_high (t : TypeId) (cs : Array Value) (g o m : Nat) (rows : List FdM) (L : List Nat) (n : Nat) (w : World) (hb0 : o + 1 < cs.size) (h : GTab w L g t cs o m rows) (hs : rows.length ≤ 100000) (hn : 62 ≤ n) (hn2 : n ≤ 9223372036854775807) (hgt : rows.length < n - 61) :
    Calls Tryd.prog 36 #[.pointer (some ⟨g, o, none⟩), .int .i64 n] w fun e w' => e = .returned (.tuple #[.agg #[.string ⟨#[]⟩, .string ⟨#[]⟩, .bool false], .int .i64 40]) ∧ Below w.heap.size w w' := by
  obtain ⟨ad, cap, hg, hh, hl, hm, hz, ha, hr, hk⟩ := h
  have HH := Lib.hid hh
  have h61 : ¬ (n : Int) ≤ 61 := by omega
  have h61' : (61 : Int) < n := by omega
  have hgt' : (rows.length : Int) < (n : Int) - 61 := by omega
  clear hh hr ha hk hg
  go_enter Tryd.func36, Tryd.ntmps36
  go_wp2_with fail
  refine (statics_any _).mono ?_; rintro e w1 ⟨b, rfl, b1, HR, _⟩
  have hrc := block_below b1 (heap_alloc_new w (.cells #[.string ⟨#[]⟩, .string ⟨#[]⟩, .bool false] 59))
  have hbw : Below w.heap.size w w1 := below_step ((Below.refl _ _).alloc (Nat.le_refl _) _) b1
  have c1 := (cell_at (block_below hbw HH.out) (o + 1)).trans (put2_1 hb0 _ _)
  generalize hrn : w.heap.size = rc at hrc ⊢
  have HRn := Lib.hid hrn
  have r0 := cell_at hrc 0
  have r1 := cell_at hrc 1
  have r2 := cell_at hrc 2
  have g0 := frozen_of_row _ _ 0 _ _ hrc
  have g1 := frozen_of_row _ _ 1 _ _ hrc
  have g2 := frozen_of_row _ _ 2 _ _ hrc
  have HF3 := Lib.hid (heap_set3 (x := .string ⟨#[]⟩) (y := .string ⟨#[]⟩) (z := .bool false) hrc)
  have HBe := Lib.hid (((hbw.setCell (p := ⟨rc, 0, none⟩) (by rw [hrn]; exact Nat.le_refl _) (.string ⟨#[]⟩)).setCell (p := ⟨rc, 1, none⟩) (by rw [hrn]; exact Nat.le_refl _) (.string ⟨#[]⟩)).setCell (p := ⟨rc, 2, none⟩) (by rw [hrn]; exact Nat.le_refl _) (.bool false))
  clear hrn hrc b1 HR hbw
  go_wp2_with fail
  have s0 := cell_at HF3.out 0
  have s1 := cell_at HF3.out 1
  have s2 := cell_at HF3.out 2
  clear r0 r1 r2
  exact bodyPost_ret (v := .tuple #[.agg #[.string ⟨#[]⟩, .string ⟨#[]⟩, .bool false], .int .i64 40]) (by simp [results, Tryd.results36, go_sem, s0, s1, s2]) rfl ⟨rfl, HBe.out⟩

set_option maxHeartbeats 2000000 in
theorem gat_rows (t : TypeId) (cs : Array Value) (g o m : Nat) (rows : List FdM) (L : List Nat) (n : Nat) (w : World) (hb0 : o + 1 < cs.size) (h : GTab w L g t cs o m rows) (hs : rows.length ≤ 100000) (hn : 62 ≤ n) (hn2 : n ≤ 9223372036854775807) (x : FdM) (hx : rows[n - 62]? = some x) :
    Calls Tryd.prog 36 #[.pointer (some ⟨g, o, none⟩), .int .i64 n] w fun e w' => e = .returned (.tuple #[.agg #[.string x.name, .string x.value, .bool x.never], .int .i64 0]) ∧ Below w.heap.size w w' := by
  obtain ⟨ad, cap, hg, hh, hl, hm, hz, ha, hr, hk⟩ := h
  obtain ⟨hlt, he⟩ := List.getElem?_eq_some_iff.1 hx
  obtain ⟨b2, off, rfl, hc⟩ : ∃ b off, ad = some ⟨b, off, none⟩ ∧ ∀ i, (h : i < rows.length) → Rw.CE EFd w b (off + i * 3) rows[i] := by
    rcases hr with h | ⟨b, off, h, hc⟩
    · rw [h] at hlt; simp at hlt
    · exact ⟨b, off, h, hc⟩
  have HD := Lib.hid (CE_fd (hc (n - 62) hlt))
  rw [he] at HD
  have HH := Lib.hid hh
  have h61 : ¬ (n : Int) ≤ 61 := by omega
  have h61' : (61 : Int) < n := by omega
  have hgt' : ¬ (rows.length : Int) < (n : Int) - 61 := by omega
  have hgt2 : (n : Int) - 61 ≤ rows.length := by omega
  have hi0 : (0 : Int) ≤ (n : Int) - 61 - 1 := by omega
  have hi1 : (n : Int) - 61 - 1 < rows.length := by omega
  have hi2 : ((n : Int) - 61 - 1).toNat = n - 62 := by omega
  obtain ⟨fn, fv, fb⟩ := x
  clear hh hr ha hk hg hx he hc
  go_enter Tryd.func36, Tryd.ntmps36
  go_wp2_with fail
  refine (statics_any _).mono ?_; rintro e w1 ⟨b, rfl, b1, HR, _⟩
  have hrc := block_below b1 (heap_alloc_new w (.cells #[.string ⟨#[]⟩, .string ⟨#[]⟩, .bool false] 59))
  have hbw : Below w.heap.size w w1 := below_step ((Below.refl _ _).alloc (Nat.le_refl _) _) b1
  have c1 := (cell_at (block_below hbw HH.out) (o + 1)).trans (put2_1 hb0 _ _)
  have d0 := below_cell hbw HD.out.1
  have d1 := below_cell hbw HD.out.2.1
  have d2 := below_cell hbw HD.out.2.2
  generalize hrn : w.heap.size = rc at hrc ⊢
  have HRn := Lib.hid hrn
  have r0 := cell_at hrc 0
  have r1 := cell_at hrc 1
  have r2 := cell_at hrc 2
  have g0 := frozen_of_row _ _ 0 _ _ hrc
  have g1 := frozen_of_row _ _ 1 _ _ hrc
  have g2 := frozen_of_row _ _ 2 _ _ hrc
  have HF3 := Lib.hid (heap_set3 (x := .string fn) (y := .string fv) (z := .bool fb) hrc)
  have HBe := Lib.hid (((hbw.setCell (p := ⟨rc, 0, none⟩) (by rw [hrn]; exact Nat.le_refl _) (.string fn)).setCell (p := ⟨rc, 1, none⟩) (by rw [hrn]; exact Nat.le_refl _) (.string fv)).setCell (p := ⟨rc, 2, none⟩) (by rw [hrn]; exact Nat.le_refl _) (.bool fb))
  clear hrn hrc b1 HR hbw
  go_wp2_with fail
  have s0 := cell_at HF3.out 0
  have s1 := cell_at HF3.out 1
  have s2 := cell_at HF3.out 2
  clear r0 r1 r2 d0 d1 d2
  exact bodyPost_ret (v := .tuple #[.agg #[.string fn, .string fv, .bool fb], .int .i64 0]) (by simp [results, Tryd.results36, go_sem, s0, s1, s2]) rfl ⟨rfl, HBe.out⟩


theorem gat_any (t : TypeId) (cs : Array Value) (g o m : Nat) (rows : List FdM) (L : List Nat) (n : Int) (w : World) (hb0 : o + 1 < cs.size) (h : GTab w L g t cs o m rows) (hs : rows.length ≤ 100000) (hn2 : n ≤ 9223372036854775807) :
    Calls Tryd.prog 36 #[.pointer (some ⟨g, o, none⟩), .int .i64 n] w fun e w' => e = .returned (.tuple #[.agg #[.string (atT rows n).1.name, .string (atT rows n).1.value, .bool (atT rows n).1.never], .int .i64 (atT rows n).2]) ∧ Below w.heap.size w w' := by
  by_cases h1 : 1 ≤ n ∧ n ≤ 61
  · obtain ⟨k, rfl⟩ := Int.eq_ofNat_of_zero_le (show 0 ≤ n by omega)
    have hk : k - 1 < statics.length := by rw [statics_len]; omega
    have := rat_static ⟨g, o, none⟩ k w (by omega) (by omega) statics[k - 1] (List.getElem?_eq_getElem hk)
    have hT : atT rows k = (statics[k - 1], 0) := by
      rw [atT, if_pos h1, Int.toNat_natCast, List.getD_eq_getElem?_getD, List.getElem?_eq_getElem hk]; rfl
    rw [hT]; exact this
  · by_cases h0 : n ≤ 0
    · have := rat_low ⟨g, o, none⟩ n w h0
      have hT : atT rows n = (⟨ByteArray.empty, ByteArray.empty, false⟩, 40) := by rw [atT, if_neg h1, if_pos (by omega)]
      rw [hT]; exact this
    · obtain ⟨k, rfl⟩ := Int.eq_ofNat_of_zero_le (show 0 ≤ n by omega)
      by_cases hgt : rows.length < k - 61
      · have := gat_high t cs g o m rows L k w hb0 h hs (by omega) (by omega) hgt
        have hT : atT rows k = (⟨ByteArray.empty, ByteArray.empty, false⟩, 40) := by rw [atT, if_neg h1, if_pos (by omega)]
        rw [hT]; exact this
      · have hk : k - 62 < rows.length := by omega
        have := gat_rows t cs g o m rows L k w hb0 h hs (by omega) (by omega) rows[k - 62] (List.getElem?_eq_getElem hk)
        have hT : atT rows k = (rows[k - 62], 0) := by
          rw [atT, if_neg h1, if_neg (by omega), Int.toNat_natCast, List.getD_eq_getElem?_getD, List.getElem?_eq_getElem hk]; rfl
        rw [hT]; exact this
end Go.Proofs.YtdkgachgohilcaaDoor

namespace Go.Proofs.YtdkgachgohilcaaDoor
open Go.RowKit
open Arg Tab Mem Go.Proofs.YtdkgachgohilcaaDoor.Obj
set_option linter.unusedVariables false

set_option maxRecDepth 100000 in
set_option maxHeartbeats 4000000 in
theorem gfind_any (t : TypeId) (cs : Array Value) (g o m : Nat) (rows : List FdM) (f : FdM) (L : List Nat) (w : World) (hb0 : o + 1 < cs.size) (h : GTab w L g t cs o m rows) (hs : rows.length ≤ 100000) :
    Calls Tryd.prog 46 #[.pointer (some ⟨g, o, none⟩), .agg #[.string f.name, .string f.value, .bool f.never]] w fun e w' => e = .returned (.tuple #[.int .i64 (findT rows f).1, .bool (findT rows f).2]) ∧ Below w.heap.size w w' := by
  obtain ⟨i0, hi, hz0, hz1, hz2⟩ := info_parts info_fd
  have HI := Lib.hid hi
  have HZ0 := Lib.hid hz0
  have HZ1 := Lib.hid hz1
  have HZ2 := Lib.hid hz2
  have HR0 : Hid (findF f (statics ++ rows) 0 0 = findT rows f) := Lib.hid rfl
  generalize findT rows f = R at HR0 ⊢
  generalize hal : statics ++ rows = al at HR0
  have hall : al.length = 61 + rows.length := by rw [← hal, List.length_append, statics_len]
  have HAl := Lib.hid hal
  obtain ⟨ad, cap, hg, hh, hl, hm, hz, ha, hr, hk⟩ := h
  have HH := Lib.hid hh
  have HRw := Lib.hid hr
  have HZ := Lib.hid hz
  have HAd := Lib.hid ha
  have HK := Lib.hid hk
  obtain ⟨fn, fv, fb⟩ := f
  simp only
  clear hi hz0 hz1 hz2 hh hr ha hk hg hz hal
  go_enter Tryd.func46, Tryd.ntmps46
  go_wp2_with fail
  generalize hwb : w.alloc (.cells #[.string fn, .string fv, .bool fb] 59) = wb
  have hb : Below w.heap.size w wb := by rw [← hwb]; exact (Below.refl _ _).alloc (Nat.le_refl _) _
  have hbx : wb.heap[w.heap.size]? = some (.cells #[.string fn, .string fv, .bool fb] 59 (0, 0)) := by rw [← hwb]; exact heap_alloc_new w _
  have hws := hb.size
  generalize hbn : w.heap.size = bx at hbx ⊢
  have HBn := Lib.hid hbn
  have e0 : wb.cell? ⟨bx, 0, none⟩ = some (.string fn) := cell_at hbx 0
  have e1 : wb.cell? ⟨bx, 1, none⟩ = some (.string fv) := cell_at hbx 1
  have hhb := block_below hb HH.out
  have c1 : wb.cell? ⟨g, o + 1, none⟩ = some (.slice ad rows.length cap) := (cell_at hhb (o + 1)).trans (put2_1 hb0 _ _)
  have HB := Lib.hid hb
  clear hwb hbn hb hbx hhb
  have HSrc : Hid (∀ v, Below wb.drew.heap.size wb.drew v → Rw.RowE EFd v ad rows ∧ wb.heap.size ≤ v.heap.size) := Lib.hid (fun v hv => ⟨(HRw.out.below HB.out).below (((Below.refl _ wb).drew).trans hv), hv.size⟩)
  have HNums : Hid (61 + rows.length ≤ maxLen ∧ (61 + rows.length) * 40 ≤ 140737488355328 ∧ (ad = none → cap = 0 ∧ rows.length = 0)) := Lib.hid ⟨by unfold maxLen; omega, by omega, fun h => ⟨HZ.out h, by have := HZ.out h; omega⟩⟩
  have HCg : Hid (∀ v y, Below wb.drew.heap.size wb.drew v → ∀ b, wb.heap.size ≤ b → v.grownBy y (some b) → y.cell? ⟨g, o + 1, none⟩ = some (.slice ad rows.length cap)) := Lib.hid (fun v y hv b hb hy => by
    have hgl : g < wb.heap.size := World.block_lt_of_cell? wb ⟨g, o + 1, none⟩ c1
    have hvs : wb.heap.size ≤ v.heap.size := hv.size
    refine (World.cell?_of_block (a := ⟨g, o + 1, none⟩) (hy.block g (show g < v.heap.size by omega) (by intro e; simp only [Option.some.injEq] at e; omega))).trans ?_
    exact below_cell hv c1)
  go_region_held3 (fun w' => w'.cell? ⟨g, o + 1, none⟩ = some (.slice ad rows.length cap))
    (first | go_keep | exact below_cell b1 c1 | exact HCg.out _ _ b1 b (Rw.own_blk HOS.out b 0 none rfl).1 hg4.out)
    ((first | (go_at_call 57; refine (statics_any _).mono ?_; rintro e w1 ⟨b, rfl, b1, HRS, HOS⟩)
            | (refine Rw.step_append_rows EFd Tryd.underlying31 HI.out HZ0.out HZ1.out HZ2.out rfl rfl (.tmp 9) (.tmp 13) rfl _ (.slice (some ⟨b, 0, none⟩) 61 61) 61 statics rfl statics_len.symm HOS.out ad rows.length rows cap rfl rfl HNums.out.2.2 (HSrc.out _ b1).1 HNums.out.1 HNums.out.2.1 (HSrc.out _ b1).2 ?_; intro ad4 cap4 w4 hown4 hg4)))
  have hbb := Rw.own_blk HOS.out b 0 none rfl
  have HRow : Hid (Rw.RowE EFd w4 ad4 al) := Lib.hid (by
    have h := hown4.out
    rw [HAl.out] at h
    refine Rw.RowE.of_own (n := 61 + rows.length) (cap := cap4) (base := wb.drew.heap.size) (e := 59) ?_
    rw [hall]; exact h)
  have hc4 : 61 + rows.length ≤ cap4 := (Rw.own_len hown4.out).2.1
  have hm4 : cap4 ≤ maxLen := (Rw.own_len hown4.out).2.2.1
  have hw1s : wb.heap.size ≤ w1.heap.size := b1.size
  have hx : ∀ k, k < wb.heap.size → w4.heap[k]? = wb.heap[k]? := fun k hk => (hg4.out.block k (by omega) (by intro e; simp only [Value.ownBlock, Option.some.injEq] at e; have : wb.heap.size ≤ b := hbb.1; omega)).trans (b1.block k hk)
  have hbl : bx < wb.heap.size := World.block_lt_of_cell? wb ⟨bx, 0, none⟩ e0
  have HE0 : Hid (w4.cell? ⟨bx, 0, none⟩ = some (.string fn)) := Lib.hid ((World.cell?_of_block (a := ⟨bx, 0, none⟩) (hx bx hbl)).trans e0)
  have HE1 : Hid (w4.cell? ⟨bx, 1, none⟩ = some (.string fv)) := Lib.hid ((World.cell?_of_block (a := ⟨bx, 1, none⟩) (hx bx hbl)).trans e1)
  have HB4 : Hid (Below w.heap.size w w4) := Lib.hid ((HB.out.drew.trans (b1.mono hws)).grown hg4.out (by omega) (fun k hk => by simp only [Value.ownBlock, Option.some.injEq] at hk; have : wb.heap.size ≤ b := hbb.1; omega))
  clear hbb hw1s hx hbl hown4 hg4 HRS HOS b1 HCg HNums HSrc HB c1 e0 e1 HK HAd HZ HRw HH HAl HI HZ0 HZ1 HZ2
  rw [← hall] at hc4 ⊢
  generalize hN : al.length = N at hc4 ⊢
  have hN2 : N ≤ 100061 := by omega
  have HN := Lib.hid hN
  clear hN hall
  go_wp2_with fail
  go_loopw [7, 8] (fun vn vi wr => ∃ (k near : Nat), k ≤ N ∧ near ≤ k ∧ vi = .int .i64 k ∧ vn = .int .i64 near ∧ Hid (findF ⟨fn, fv, fb⟩ (al.drop k) k near = R) ∧ Below w4.heap.size w4 wr) (fun _ vi _ => N - (intOf vi).toNat)
  case atStart => exact ⟨0, 0, by omega, by omega, rfl, rfl, Lib.hid (by rw [List.drop_zero]; exact HR0.out), Below.refl _ _⟩
  case round =>
    clear HR0
    obtain ⟨k, near, hk, hnear, rfl, rfl, HF, hbel⟩ := hrel
    by_cases hlt : k < N
    · have hlt' : (k : Int) < N := by omega
      have hlr : k < al.length := by rw [HN.out]; exact hlt
      obtain ⟨bl, off, rfl, hc⟩ : ∃ b off, ad4 = some ⟨b, off, none⟩ ∧ ∀ i, (h : i < al.length) → Rw.CE EFd w4 b (off + i * 3) al[i] := by
        rcases HRow.out with h | h
        · rw [h] at hlr; simp at hlr
        · exact h
      obtain ⟨d0, d1, d2⟩ := CE_fd (hc k hlr)
      have x0 := below_cell hbel d0
      have x1 := below_cell hbel d1
      have y0 := below_cell hbel HE0.out
      have y1 := below_cell hbel HE1.out
      have HF1 : Hid (findF ⟨fn, fv, fb⟩ (al[k] :: al.drop (k + 1)) k near = R) := Lib.hid (by rw [← List.drop_eq_getElem_cons hlr]; exact HF.out)
      clear d0 d1 d2 hc HF
      generalize al[k] = x at *
      obtain ⟨xn, xv, xb⟩ := x
      simp only at x0 x1
      have HF2 : Hid ((if xn = fn then (if xv = fv then (k + 1, true) else findF ⟨fn, fv, fb⟩ (al.drop (k + 1)) (k + 1) (if near = 0 then k + 1 else near)) else findF ⟨fn, fv, fb⟩ (al.drop (k + 1)) (k + 1) near) = R) := HF1
      clear HF1
      have hk0 : (0 : Int) ≤ k := by omega
      have hkN : (k : Int) < (N : Int) := hlt'
      by_cases hq : xn = fn
      · subst hq
        have hq1 := str_eq xn
        rw [if_pos rfl] at HF2
        by_cases hv : xv = fv
        · subst hv
          have hv1 := str_eq xv
          have hR : R = (k + 1, true) := by rw [← HF2.out, if_pos rfl]
          subst hR
          clear HF2
          have HBB := Lib.hid (HB4.out.trans (hbel.mono HB4.out.size))
          go_wp2_with fail
          go_quiet (fail)
          go_wp2_with fail
          go_quiet (fail)
          go_wp2_with fail
          go_ret2
          exact ⟨by simp, HBB.out.trans ⟨rfl, rfl, rfl, Nat.le_refl _, fun _ _ => rfl⟩⟩
        · have hv1 := str_ne hv
          rw [if_neg hv] at HF2
          clear hv
          by_cases hz : near = 0
          · have hz1 : ((near : Int) == 0) = true := by rw [beq_iff_eq]; omega
            rw [if_pos hz] at HF2
            clear hz
            go_wp2_with fail
            go_quiet (fail)
            go_wp2_with fail
            go_quiet (fail)
            go_wp2_with fail
            go_roundw
            case rel => exact ⟨k + 1, k + 1, by omega, by omega, by go_num, by go_num, HF2, hbel.trans ⟨rfl, rfl, rfl, Nat.le_refl _, fun _ _ => rfl⟩⟩
            case measure => simp [intOf]; omega
          · have hz1 : ((near : Int) == 0) = false := by rw [beq_eq_false_iff_ne]; omega
            rw [if_neg hz] at HF2
            clear hz
            go_wp2_with fail
            go_quiet (fail)
            go_wp2_with fail
            go_quiet (fail)
            go_wp2_with fail
            go_roundw
            case rel => exact ⟨k + 1, near, by omega, by omega, by go_num, rfl, HF2, hbel.trans ⟨rfl, rfl, rfl, Nat.le_refl _, fun _ _ => rfl⟩⟩
            case measure => simp [intOf]; omega
      · have hq1 := str_ne hq
        have HF3 : Hid (findF ⟨fn, fv, fb⟩ (al.drop (k + 1)) (k + 1) near = R) := Lib.hid (by have h := HF2.out; rwa [if_neg hq] at h)
        clear HF2 hq
        go_wp2_with fail
        go_quiet (fail)
        go_wp2_with fail
        go_roundw
        case rel => exact ⟨k + 1, near, by omega, by omega, by go_num, rfl, HF3, hbel.trans ⟨rfl, rfl, rfl, Nat.le_refl _, fun _ _ => rfl⟩⟩
        case measure => simp [intOf]; omega
    · have hlt' : ¬ (k : Int) < N := by omega
      have hR : R = (near, false) := by rw [← HF.out, List.drop_of_length_le (by rw [HN.out]; omega)]; rfl
      subst hR
      clear HF
      have hB := HB4.out.trans (hbel.mono HB4.out.size)
      go_wp2_with fail
      go_ret2
      exact ⟨rfl, hB⟩
end Go.Proofs.YtdkgachgohilcaaDoor

namespace Go.Proofs.YtdkgachgohilcaaDoor
open Go.RowKit
open Arg Tab Mem Go.Proofs.YtdkgachgohilcaaDoor.Obj

theorem gadd_any (t : TypeId) (cs : Array Value) (g o m : Nat) (rows : List FdM) (f : FdM) (L : List Nat) (w : World) (hb0 : o + 1 < cs.size) (h : GTab w L g t cs o m rows) (hs : csum rows ≤ 65536) (hm : m ≤ 65536) (hn : f.name.size ≤ 140737488351232) (hv : f.value.size ≤ 140737488351232) :
    Calls Tryd.prog 38 #[.pointer (some ⟨g, o, none⟩), .agg #[.string f.name, .string f.value, .bool f.never]] w fun e w' => e = .returned (.tuple #[]) ∧ ∃ L', GTab w' L' g t cs o m (addT m rows f) ∧ Kept L w w' ∧ ∀ k ∈ L', k ∈ L ∨ w.heap.size ≤ k := by
  by_cases hgr : m < cost f
  · exact gadd_great t cs g o m rows f L w hb0 h hm hn hv hgr
  · exact gadd_fits t cs g o m rows f L w hb0 h hs hm (by omega)
theorem gsize_any (t : TypeId) (cs : Array Value) (g o m : Nat) (rows : List FdM) (L : List Nat) (w : World) (hb0 : o + 1 < cs.size) (h : GTab w L g t cs o m rows) (hs : csum rows ≤ 1000000) :
    Calls Tryd.prog 56 #[.pointer (some ⟨g, o, none⟩)] w fun e w' => e = .returned (.int .i64 (csum rows)) ∧ Below w.heap.size w w' := by
  obtain ⟨ad, cap, hg, hh, hl, hm, hz, ha, hr, hk⟩ := h
  exact rsizeG_at g o rows.length cap ad rows m w rfl ((cell_at hh o).trans (put2_0 hb0 _ _)) ((cell_at hh (o + 1)).trans (put2_1 hb0 _ _)) hl hm hr hs
end Go.Proofs.YtdkgachgohilcaaDoor

namespace Go.Proofs.YtdkgachgohilcaaDoor
open Go.RowKit
open Huf Pre Tab Hpk Arg Mem Gen Go.Proofs.YtdkgachgohilcaaDoor.Obj
set_option linter.unusedVariables false

/-- The document's decoder: its cap, its list limit, whether it is of no use; its table. -/
def RDec (w : World) (L : List Nat) (g : Nat) (md ld : Nat) (br : Bool) (m : Nat) (rows : List FdM) : Prop := GTab w L g 39 #[.int .i64 md, .int .i64 ld, .int .i64 0, .slice none 0 0, .bool br] 2 m rows
theorem RDec.cells {w : World} {L : List Nat} {g md ld m : Nat} {br : Bool} {rows : List FdM} (h : RDec w L g md ld br m rows) :
    w.cell? ⟨g, 0, none⟩ = some (.int .i64 md) ∧ w.cell? ⟨g, 1, none⟩ = some (.int .i64 ld) ∧ w.cell? ⟨g, 4, none⟩ = some (.bool br) ∧ w.frozen? ⟨g, 4, none⟩ = false := by
  obtain ⟨ad, cap, hg, hh, _⟩ := h
  exact ⟨(cell_at hh 0).trans (put2_else (by decide) (by decide) _ _), (cell_at hh 1).trans (put2_else (by decide) (by decide) _ _), (cell_at hh 4).trans (put2_else (by decide) (by decide) _ _), frozen_of_row _ _ 4 _ _ hh⟩
theorem RDec.broken {w : World} {L : List Nat} {g md ld m : Nat} {br : Bool} {rows : List FdM} (h : RDec w L g md ld br m rows) (b2 : Bool) : RDec (w.setCell ⟨g, 4, none⟩ (.bool b2)) L g md ld b2 m rows :=
  GTab.other h 4 (.bool b2) (by decide) (by decide)

theorem bitsof_any (c : Nat) (w : World) (hc : c < 256) :
    Calls Tryd.prog 34 #[.int .u8 c] w fun e w' => e = .returned (.int .i64 (bitsOf c)) ∧ w = w' := by
  go_enter Tryd.func34, Tryd.ntmps34
  by_cases h1 : 127 < c
  · have h1' : (127 : Int) < c := by omega
    go_wp2_with fail
    go_ret
    exact ⟨by rw [bitsOf, if_pos h1]; rfl, rfl⟩
  · have h1' : ¬ (127 : Int) < c := by omega
    by_cases h2 : 63 < c
    · have h2' : (63 : Int) < c := by omega
      go_wp2_with fail
      go_ret
      exact ⟨by rw [bitsOf, if_neg h1, if_pos h2]; rfl, rfl⟩
    · have h2' : ¬ (63 : Int) < c := by omega
      by_cases h3 : 31 < c
      · have h3' : (31 : Int) < c := by omega
        go_wp2_with fail
        go_ret
        exact ⟨by rw [bitsOf, if_neg h1, if_neg h2, if_pos h3]; rfl, rfl⟩
      · have h3' : ¬ (31 : Int) < c := by omega
        go_wp2_with fail
        go_ret
        exact ⟨by rw [bitsOf, if_neg h1, if_neg h2, if_neg h3]; rfl, rfl⟩

theorem size_u8 (w : World) : (sizeOf 5).run Tryd.prog w = .ok 1 w := by kernel_rfl
/-- The text at the beginning of what is left. -/
theorem text_from (a : Option Addr) (l : List UInt8) (cap k : Nat) (w : World) (hl : l.length ≤ 134217728) (hcap : l.length ≤ cap) (hmax : cap ≤ maxLen) (hr : RB w a l) (hk : k ≤ l.length) :
    Calls Tryd.prog 58 #[.slice (Sl.adOf a cap k 1) (l.length - k) (cap - k)] w fun e w' => e = .returned (.tuple #[.string (ofT (takeT (l.drop k)).1), .int .i64 (takeT (l.drop k)).2.1, .int .i64 (takeT (l.drop k)).2.2]) ∧ Below w.heap.size w w' := by
  have h := rtaketext_any (Sl.adOf a cap k 1) (l.drop k) (cap - k) w (by rw [List.length_drop]; omega) (by rw [List.length_drop]; omega) (by omega) (Sl.rb_from hr k hcap)
  rw [List.length_drop] at h
  exact h

set_option maxRecDepth 100000 in
set_option maxHeartbeats 2000000 in
/-- The second text is read, and the field is told. -/
theorem lit_tail {R : Ending → World → Prop} (g rc fb : Nat) (a : Option Addr) (l : List UInt8) (cap k : Nat) (nm : ByteArray) (B : Nat) (x : World) (hr : RB x a l) (hl : l.length ≤ 134217728) (hcap : l.length ≤ cap) (hmax : cap ≤ maxLen) (hk : k ≤ l.length)
    (hfb : x.heap[fb]? = some (.cells #[.string nm, .string ⟨#[]⟩, .bool false] 59 (0, 0))) (hrc : x.heap[rc]? = some (.cells #[.string ⟨#[]⟩, .string ⟨#[]⟩, .bool false] 59 (0, 0))) (hne : rc ≠ fb) (hB1 : B ≤ rc) (hB2 : B ≤ fb) (hBx : B ≤ x.heap.size) (ac : Act)
    (ha : Fr.Is 72 [(0, .pointer (some ⟨g, 0, none⟩)), (1, .slice a l.length cap), (2, .int .i64 k), (8, .pointer (some ⟨rc, 0, none⟩)), (11, .pointer (some ⟨fb, 0, none⟩))] ac)
    (hQ : Hid (∀ w', Below B x w' → R (.returned (.tuple #[.agg #[.string nm, .string (ofT (takeT (l.drop k)).1), .bool false], .int .i64 (k + (takeT (l.drop k)).2.1 : Nat), .int .i64 (takeT (l.drop k)).2.2])) w')) :
    (Fr.tail Tryd.f37 3).wp Tryd.prog (bodyPost Tryd.prog Tryd.f37 R) ac x := by
  have hsl := fun (v : World) => Sl.run_from (P := Tryd.prog) (t := 24) Tryd.underlying24 (size := 1) size_u8 a l.length cap k hk hcap v
  have HT := Lib.hid (text_from a l cap k x hl hcap hmax hr hk)
  have hbd := takeT_bd (l.drop k)
  rw [List.length_drop] at hbd
  obtain ⟨_, hb2, _, _⟩ := hbd
  generalize ofT (takeT (l.drop k)).1 = s at HT hQ
  generalize (takeT (l.drop k)).2.1 = k1 at HT hQ hb2
  generalize (takeT (l.drop k)).2.2 = er at HT hQ
  obtain ⟨fr, rfl, hfr⟩ := ha.lit
  simp only [List.map_cons, List.map_nil, List.cons.injEq, and_true] at hfr
  conv => arg 2; whnf
  simp only [List.range, List.range.loop, List.map_cons, List.map_nil, hfr]
  clear hfr ha hr
  go_wp2_with fail
  refine HT.out.mono ?_; rintro e w1 ⟨rfl, b1⟩
  have hfb1 := block_below b1 hfb
  have hrc1 := block_below b1 hrc
  have q0 := cell_at hfb1 0
  have q1 := cell_at hfb1 1
  have q2 := cell_at hfb1 2
  have z1 := frozen_of_row _ _ 1 _ _ hfb1
  have r0 := cell_at hrc1 0
  have r1 := cell_at hrc1 1
  have r2 := cell_at hrc1 2
  have g0 := frozen_of_row _ _ 0 _ _ hrc1
  have g1 := frozen_of_row _ _ 1 _ _ hrc1
  have g2 := frozen_of_row _ _ 2 _ _ hrc1
  have hne' : fb ≠ rc := fun e => hne e.symm
  have hrc2 : (w1.setCell ⟨fb, 1, none⟩ (.string s)).heap[rc]? = some (.cells #[.string ⟨#[]⟩, .string ⟨#[]⟩, .bool false] 59 (0, 0)) := by rw [Below.heap_setCell _ _ _ _ hne]; exact hrc1
  have HF3 := Lib.hid (heap_set3 (x := .string nm) (y := .string s) (z := .bool false) hrc2)
  have HBe := Lib.hid (hQ.out _ ((((((Below.refl B x).trans (b1.mono hBx)).setCell (p := ⟨fb, 1, none⟩) hB2 (.string s)).setCell (p := ⟨rc, 0, none⟩) hB1 (.string nm)).setCell (p := ⟨rc, 1, none⟩) hB1 (.string s)).setCell (p := ⟨rc, 2, none⟩) hB1 (.bool false)))
  have hadd : (k : Int) + k1 = ((k + k1 : Nat) : Int) := by omega
  have hk' : k ≤ 134217728 := by omega
  have hk1' : k1 ≤ 134217728 := by omega
  clear hrc2 hrc1 hfb1 b1 hQ HT hadd
  go_wp2_with fail
  have s0 := cell_at HF3.out 0
  have s1 := cell_at HF3.out 1
  have s2 := cell_at HF3.out 2
  clear r0 r1 r2 q0 q1 q2
  refine bodyPost_ret (v := .tuple #[.agg #[.string nm, .string s, .bool false], .int .i64 (k + k1 : Nat), .int .i64 er]) ?_ rfl HBe.out
  have hadd : (k : Int) + k1 = ((k + k1 : Nat) : Int) := by omega
  simp [results, Tryd.results37, go_sem, s0, s1, s2]

end Go.Proofs.YtdkgachgohilcaaDoor

namespace Go.Proofs.YtdkgachgohilcaaDoor
open Go.RowKit
open Huf Pre Tab Hpk Arg Mem Gen Go.Proofs.YtdkgachgohilcaaDoor.Obj
set_option linter.unusedVariables false

set_option maxRecDepth 100000 in
set_option maxHeartbeats 1000000 in
theorem lit_r0 {Q : Exit → Act → World → Prop} {g blen bcap k n : Nat} {ba : Option Addr} (a : Act) (w : World) 
    (ha : Fr.Is 72 [(0, .pointer (some ⟨g, 0, none⟩)), (1, .slice ba blen bcap), (2, .int .i64 k), (3, .int .i64 n)] a)
    (hQ : Hid (∀ a', Fr.Is 72 [(0, .pointer (some ⟨g, 0, none⟩)), (1, .slice ba blen bcap), (2, .int .i64 k), (3, .int .i64 n), (8, .pointer (some ⟨w.heap.size, 0, none⟩))] a' → Q .normal a' (w.alloc (.cells #[.string ⟨#[]⟩, .string ⟨#[]⟩, .bool false] 59)))) :
    (Fr.reg Tryd.f37 0).wp Tryd.prog Q a w := by
  obtain ⟨fr, rfl, hfr⟩ := ha.lit
  simp only [List.map_cons, List.map_nil, List.cons.injEq, and_true] at hfr
  conv => arg 2; whnf
  simp only [List.range, List.range.loop, List.map_cons, List.map_nil, hfr]
  clear hfr ha
  go_wp2_with fail
  exact hQ.out _ (Fr.Is.mk rfl rfl)

set_option maxRecDepth 100000 in
set_option maxHeartbeats 1000000 in
theorem lit_r1 {Q : Exit → Act → World → Prop} {g blen bcap k n : Nat} {ba : Option Addr} {rc : Nat} (a : Act) (w : World) 
    (ha : Fr.Is 72 [(0, .pointer (some ⟨g, 0, none⟩)), (1, .slice ba blen bcap), (2, .int .i64 k), (3, .int .i64 n), (8, .pointer (some ⟨rc, 0, none⟩))] a)
    (hQ : Hid (∀ a', Fr.Is 72 [(0, .pointer (some ⟨g, 0, none⟩)), (1, .slice ba blen bcap), (2, .int .i64 k), (3, .int .i64 n), (8, .pointer (some ⟨rc, 0, none⟩)), (11, .pointer (some ⟨w.heap.size, 0, none⟩))] a' → Q .normal a' (w.alloc (.cells #[.string ⟨#[]⟩, .string ⟨#[]⟩, .bool false] 59)))) :
    (Fr.reg Tryd.f37 1).wp Tryd.prog Q a w := by
  obtain ⟨fr, rfl, hfr⟩ := ha.lit
  simp only [List.map_cons, List.map_nil, List.cons.injEq, and_true] at hfr
  conv => arg 2; whnf
  simp only [List.range, List.range.loop, List.map_cons, List.map_nil, hfr]
  clear hfr ha
  go_wp2_with fail
  exact hQ.out _ (Fr.Is.mk rfl rfl)

set_option maxRecDepth 100000 in
set_option maxHeartbeats 2000000 in
theorem lit_mid_bad {K : Act → World → Prop} {R : Ending → World → Prop} {g blen bcap k n : Nat} {ba : Option Addr} {rc fb : Nat} {tn tv : ByteArray} {tb : Bool} {te : Nat} (a : Act) (x : World) (hfb : x.heap[fb]? = some (.cells #[.string ⟨#[]⟩, .string ⟨#[]⟩, .bool false] 59 (0, 0))) (hrc : x.heap[rc]? = some (.cells #[.string ⟨#[]⟩, .string ⟨#[]⟩, .bool false] 59 (0, 0))) (hne : rc ≠ fb) (hn : 0 < n) (hte : te ≠ 0) (HAt : Hid (Calls Tryd.prog 36 #[.pointer (some ⟨g, 2, none⟩), .int .i64 n] x fun e w' => e = .returned (.tuple #[.agg #[.string tn, .string tv, .bool tb], .int .i64 te]) ∧ Below x.heap.size x w')) (hQ : Hid (∀ w', (∀ B, B ≤ rc → B ≤ x.heap.size → Below B x w') → R (.returned (.tuple #[.agg #[.string ⟨#[]⟩, .string ⟨#[]⟩, .bool false], .int .i64 k, .int .i64 te])) w'))
    (ha : Fr.Is 72 [(0, .pointer (some ⟨g, 0, none⟩)), (1, .slice ba blen bcap), (2, .int .i64 k), (3, .int .i64 n), (8, .pointer (some ⟨rc, 0, none⟩)), (11, .pointer (some ⟨fb, 0, none⟩))] a) :
    (Fr.navL (Fr.tail Tryd.f37 2)).wp Tryd.prog (Exit.then K (bodyPost Tryd.prog Tryd.f37 R)) a x := by
  obtain ⟨fr, rfl, hfr⟩ := ha.lit
  simp only [List.map_cons, List.map_nil, List.cons.injEq, and_true] at hfr
  conv => arg 2; whnf
  simp only [List.range, List.range.loop, List.map_cons, List.map_nil, hfr]
  clear hfr ha
  have hn' : (0 : Int) < n := by omega
  have hte' : ¬ (te : Int) = 0 := by omega
  go_wp2_with fail
  refine HAt.out.mono ?_; rintro e w1 ⟨rfl, b1⟩
  have hfb1 := block_below b1 hfb
  have hrc1 := block_below b1 hrc
  have hfb2 := alloc_at (p := (.cells #[.string tn, .string tv, .bool tb] 59)) hfb1
  have hrc2 := alloc_at (p := (.cells #[.string tn, .string tv, .bool tb] 59)) hrc1
  have HQ2 := Lib.hid (hQ.out ((((w1.alloc (.cells #[.string tn, .string tv, .bool tb] 59)).setCell ⟨rc, 0, none⟩ (.string ⟨#[]⟩)).setCell ⟨rc, 1, none⟩ (.string ⟨#[]⟩)).setCell ⟨rc, 2, none⟩ (.bool false)) (fun B h1 h2 => (((((Below.refl B x).trans (b1.mono h2)).alloc (Nat.le_trans h2 b1.size) _).setCell (p := ⟨rc, 0, none⟩) h1 _).setCell (p := ⟨rc, 1, none⟩) h1 _).setCell (p := ⟨rc, 2, none⟩) h1 _))
  clear hQ
  have q0 := cell_at hfb2 0
  have q1 := cell_at hfb2 1
  have q2 := cell_at hfb2 2
  have z0 := frozen_of_row _ _ 0 _ _ hfb2
  have r0 := cell_at hrc2 0
  have r1 := cell_at hrc2 1
  have r2 := cell_at hrc2 2
  have g0 := frozen_of_row _ _ 0 _ _ hrc2
  have g1 := frozen_of_row _ _ 1 _ _ hrc2
  have g2 := frozen_of_row _ _ 2 _ _ hrc2
  have hne' : fb ≠ rc := fun e => hne e.symm
  have HF3 := Lib.hid (heap_set3 (x := .string ⟨#[]⟩) (y := .string ⟨#[]⟩) (z := .bool false) hrc2)
  clear hfb2 hrc2 hfb1 hrc1 b1
  go_wp2_with fail
  have s0 := cell_at HF3.out 0
  have s1 := cell_at HF3.out 1
  have s2 := cell_at HF3.out 2
  clear r0 r1 r2 q0 q1 q2
  exact bodyPost_ret (v := .tuple #[.agg #[.string ⟨#[]⟩, .string ⟨#[]⟩, .bool false], .int .i64 k, .int .i64 te]) (by simp [results, Tryd.results37, go_sem, s0, s1, s2]) rfl HQ2.out


set_option maxRecDepth 100000 in
set_option maxHeartbeats 2000000 in
theorem lit_mid_row {K : Act → World → Prop} {R : Ending → World → Prop} {g blen bcap k n : Nat} {ba : Option Addr} {rc fb : Nat} {tn tv : ByteArray} {tb : Bool} (a : Act) (x : World) (hfb : x.heap[fb]? = some (.cells #[.string ⟨#[]⟩, .string ⟨#[]⟩, .bool false] 59 (0, 0))) (hrc : x.heap[rc]? = some (.cells #[.string ⟨#[]⟩, .string ⟨#[]⟩, .bool false] 59 (0, 0))) (hne : rc ≠ fb) (hn : 0 < n) (HAt : Hid (Calls Tryd.prog 36 #[.pointer (some ⟨g, 2, none⟩), .int .i64 n] x fun e w' => e = .returned (.tuple #[.agg #[.string tn, .string tv, .bool tb], .int .i64 0]) ∧ Below x.heap.size x w')) (hQ : Hid (∀ a' w', Fr.Is 72 [(0, .pointer (some ⟨g, 0, none⟩)), (1, .slice ba blen bcap), (2, .int .i64 k), (8, .pointer (some ⟨rc, 0, none⟩)), (11, .pointer (some ⟨fb, 0, none⟩))] a' → w'.heap[fb]? = some (.cells #[.string tn, .string ⟨#[]⟩, .bool false] 59 (0, 0)) → w'.heap[rc]? = some (.cells #[.string ⟨#[]⟩, .string ⟨#[]⟩, .bool false] 59 (0, 0)) → (∀ B, B ≤ fb → B ≤ x.heap.size → Below B x w') → K a' w'))
    (ha : Fr.Is 72 [(0, .pointer (some ⟨g, 0, none⟩)), (1, .slice ba blen bcap), (2, .int .i64 k), (3, .int .i64 n), (8, .pointer (some ⟨rc, 0, none⟩)), (11, .pointer (some ⟨fb, 0, none⟩))] a) :
    (Fr.navL (Fr.tail Tryd.f37 2)).wp Tryd.prog (Exit.then K (bodyPost Tryd.prog Tryd.f37 R)) a x := by
  obtain ⟨fr, rfl, hfr⟩ := ha.lit
  simp only [List.map_cons, List.map_nil, List.cons.injEq, and_true] at hfr
  conv => arg 2; whnf
  simp only [List.range, List.range.loop, List.map_cons, List.map_nil, hfr]
  clear hfr ha
  have hn' : (0 : Int) < n := by omega
  go_wp2_with fail
  refine HAt.out.mono ?_; rintro e w1 ⟨rfl, b1⟩
  have hfb1 := block_below b1 hfb
  have hrc1 := block_below b1 hrc
  have hfb2 := alloc_at (p := (.cells #[.string tn, .string tv, .bool tb] 59)) hfb1
  have hrc2 := alloc_at (p := (.cells #[.string tn, .string tv, .bool tb] 59)) hrc1
  have HS1 := Lib.hid (heap_setCell_same _ fb 0 _ _ (.string tn) hfb2)
  have HS2 : Hid (((w1.alloc (.cells #[.string tn, .string tv, .bool tb] 59)).setCell ⟨fb, 0, none⟩ (.string tn)).heap[rc]? = some (.cells #[.string ⟨#[]⟩, .string ⟨#[]⟩, .bool false] 59 (0, 0))) := Lib.hid (by rw [Below.heap_setCell _ _ _ _ hne]; exact hrc2)
  have HBe : Hid (∀ B, B ≤ fb → B ≤ x.heap.size → Below B x ((w1.alloc (.cells #[.string tn, .string tv, .bool tb] 59)).setCell ⟨fb, 0, none⟩ (.string tn))) := Lib.hid (fun B h1 h2 => (((Below.refl B x).trans (b1.mono h2)).alloc (Nat.le_trans h2 b1.size) _).setCell (p := ⟨fb, 0, none⟩) h1 _)
  have q0 := cell_at hfb2 0
  have q1 := cell_at hfb2 1
  have q2 := cell_at hfb2 2
  have z0 := frozen_of_row _ _ 0 _ _ hfb2
  have r0 := cell_at hrc2 0
  have r1 := cell_at hrc2 1
  have r2 := cell_at hrc2 2
  have g0 := frozen_of_row _ _ 0 _ _ hrc2
  have g1 := frozen_of_row _ _ 1 _ _ hrc2
  have g2 := frozen_of_row _ _ 2 _ _ hrc2
  have hne' : fb ≠ rc := fun e => hne e.symm
  clear hfb2 hrc2 hfb1 hrc1 b1
  go_wp2_with fail
  exact hQ.out _ _ (Fr.Is.mk rfl rfl) HS1.out HS2.out HBe.out

set_option maxRecDepth 100000 in
set_option maxHeartbeats 2000000 in
theorem lit_mid_short {K : Act → World → Prop} {R : Ending → World → Prop} {g blen bcap k n : Nat} {ba : Option Addr} {rc fb : Nat} {s : ByteArray} {k1 er : Nat} (a : Act) (x : World) (hfb : x.heap[fb]? = some (.cells #[.string ⟨#[]⟩, .string ⟨#[]⟩, .bool false] 59 (0, 0))) (hrc : x.heap[rc]? = some (.cells #[.string ⟨#[]⟩, .string ⟨#[]⟩, .bool false] 59 (0, 0))) (hne : rc ≠ fb) (hn : n = 0) (her : er ≠ 0) (HT : Hid (Calls Tryd.prog 58 #[.slice (Sl.adOf ba bcap k 1) (blen - k) (bcap - k)] x fun e w' => e = .returned (.tuple #[.string s, .int .i64 k1, .int .i64 er]) ∧ Below x.heap.size x w')) (hk : k ≤ blen) (hcap : blen ≤ bcap) (hQ : Hid (∀ w', (∀ B, B ≤ rc → B ≤ x.heap.size → Below B x w') → R (.returned (.tuple #[.agg #[.string ⟨#[]⟩, .string ⟨#[]⟩, .bool false], .int .i64 k, .int .i64 er])) w'))
    (ha : Fr.Is 72 [(0, .pointer (some ⟨g, 0, none⟩)), (1, .slice ba blen bcap), (2, .int .i64 k), (3, .int .i64 n), (8, .pointer (some ⟨rc, 0, none⟩)), (11, .pointer (some ⟨fb, 0, none⟩))] a) :
    (Fr.navL (Fr.tail Tryd.f37 2)).wp Tryd.prog (Exit.then K (bodyPost Tryd.prog Tryd.f37 R)) a x := by
  subst hn
  obtain ⟨fr, rfl, hfr⟩ := ha.lit
  simp only [List.map_cons, List.map_nil, List.cons.injEq, and_true] at hfr
  conv => arg 2; whnf
  simp only [List.range, List.range.loop, List.map_cons, List.map_nil, hfr]
  clear hfr ha
  have hsl := fun (v : World) => Sl.run_from (P := Tryd.prog) (t := 24) Tryd.underlying24 (size := 1) size_u8 ba blen bcap k hk hcap v
  have her' : ¬ (er : Int) = 0 := by omega
  go_wp2_with fail
  refine HT.out.mono ?_; rintro e w1 ⟨rfl, b1⟩
  have hfb1 := block_below b1 hfb
  have hrc1 := block_below b1 hrc
  have hfb2 := hfb1
  have hrc2 := hrc1
  have HQ2 := Lib.hid (hQ.out ((((w1).setCell ⟨rc, 0, none⟩ (.string ⟨#[]⟩)).setCell ⟨rc, 1, none⟩ (.string ⟨#[]⟩)).setCell ⟨rc, 2, none⟩ (.bool false)) (fun B h1 h2 => ((((Below.refl B x).trans (b1.mono h2)).setCell (p := ⟨rc, 0, none⟩) h1 _).setCell (p := ⟨rc, 1, none⟩) h1 _).setCell (p := ⟨rc, 2, none⟩) h1 _))
  clear hQ
  have q0 := cell_at hfb2 0
  have q1 := cell_at hfb2 1
  have q2 := cell_at hfb2 2
  have z0 := frozen_of_row _ _ 0 _ _ hfb2
  have r0 := cell_at hrc2 0
  have r1 := cell_at hrc2 1
  have r2 := cell_at hrc2 2
  have g0 := frozen_of_row _ _ 0 _ _ hrc2
  have g1 := frozen_of_row _ _ 1 _ _ hrc2
  have g2 := frozen_of_row _ _ 2 _ _ hrc2
  have hne' : fb ≠ rc := fun e => hne e.symm
  have HF3 := Lib.hid (heap_set3 (x := .string ⟨#[]⟩) (y := .string ⟨#[]⟩) (z := .bool false) hrc2)
  clear hfb2 hrc2 hfb1 hrc1 b1
  go_wp2_with fail
  have s0 := cell_at HF3.out 0
  have s1 := cell_at HF3.out 1
  have s2 := cell_at HF3.out 2
  clear r0 r1 r2 q0 q1 q2
  exact bodyPost_ret (v := .tuple #[.agg #[.string ⟨#[]⟩, .string ⟨#[]⟩, .bool false], .int .i64 k, .int .i64 er]) (by simp [results, Tryd.results37, go_sem, s0, s1, s2]) rfl HQ2.out


set_option maxRecDepth 100000 in
set_option maxHeartbeats 2000000 in
theorem lit_mid_text {K : Act → World → Prop} {R : Ending → World → Prop} {g blen bcap k n : Nat} {ba : Option Addr} {rc fb : Nat} {s : ByteArray} {k1 : Nat} (a : Act) (x : World) (hfb : x.heap[fb]? = some (.cells #[.string ⟨#[]⟩, .string ⟨#[]⟩, .bool false] 59 (0, 0))) (hrc : x.heap[rc]? = some (.cells #[.string ⟨#[]⟩, .string ⟨#[]⟩, .bool false] 59 (0, 0))) (hne : rc ≠ fb) (hn : n = 0) (hks : k + k1 ≤ 1000000000) (HT : Hid (Calls Tryd.prog 58 #[.slice (Sl.adOf ba bcap k 1) (blen - k) (bcap - k)] x fun e w' => e = .returned (.tuple #[.string s, .int .i64 k1, .int .i64 0]) ∧ Below x.heap.size x w')) (hk : k ≤ blen) (hcap : blen ≤ bcap) (hQ : Hid (∀ a' w', Fr.Is 72 [(0, .pointer (some ⟨g, 0, none⟩)), (1, .slice ba blen bcap), (2, .int .i64 (k + k1 : Nat)), (8, .pointer (some ⟨rc, 0, none⟩)), (11, .pointer (some ⟨fb, 0, none⟩))] a' → w'.heap[fb]? = some (.cells #[.string s, .string ⟨#[]⟩, .bool false] 59 (0, 0)) → w'.heap[rc]? = some (.cells #[.string ⟨#[]⟩, .string ⟨#[]⟩, .bool false] 59 (0, 0)) → (∀ B, B ≤ fb → B ≤ x.heap.size → Below B x w') → K a' w'))
    (ha : Fr.Is 72 [(0, .pointer (some ⟨g, 0, none⟩)), (1, .slice ba blen bcap), (2, .int .i64 k), (3, .int .i64 n), (8, .pointer (some ⟨rc, 0, none⟩)), (11, .pointer (some ⟨fb, 0, none⟩))] a) :
    (Fr.navL (Fr.tail Tryd.f37 2)).wp Tryd.prog (Exit.then K (bodyPost Tryd.prog Tryd.f37 R)) a x := by
  subst hn
  obtain ⟨fr, rfl, hfr⟩ := ha.lit
  simp only [List.map_cons, List.map_nil, List.cons.injEq, and_true] at hfr
  conv => arg 2; whnf
  simp only [List.range, List.range.loop, List.map_cons, List.map_nil, hfr]
  clear hfr ha
  have hsl := fun (v : World) => Sl.run_from (P := Tryd.prog) (t := 24) Tryd.underlying24 (size := 1) size_u8 ba blen bcap k hk hcap v
  go_wp2_with fail
  refine HT.out.mono ?_; rintro e w1 ⟨rfl, b1⟩
  have hfb1 := block_below b1 hfb
  have hrc1 := block_below b1 hrc
  have hfb2 := hfb1
  have hrc2 := hrc1
  have HS1 := Lib.hid (heap_setCell_same _ fb 0 _ _ (.string s) hfb2)
  have HS2 : Hid ((w1.setCell ⟨fb, 0, none⟩ (.string s)).heap[rc]? = some (.cells #[.string ⟨#[]⟩, .string ⟨#[]⟩, .bool false] 59 (0, 0))) := Lib.hid (by rw [Below.heap_setCell _ _ _ _ hne]; exact hrc2)
  have HBe : Hid (∀ B, B ≤ fb → B ≤ x.heap.size → Below B x (w1.setCell ⟨fb, 0, none⟩ (.string s))) := Lib.hid (fun B h1 h2 => ((Below.refl B x).trans (b1.mono h2)).setCell (p := ⟨fb, 0, none⟩) h1 _)
  have q0 := cell_at hfb2 0
  have q1 := cell_at hfb2 1
  have q2 := cell_at hfb2 2
  have z0 := frozen_of_row _ _ 0 _ _ hfb2
  have r0 := cell_at hrc2 0
  have r1 := cell_at hrc2 1
  have r2 := cell_at hrc2 2
  have g0 := frozen_of_row _ _ 0 _ _ hrc2
  have g1 := frozen_of_row _ _ 1 _ _ hrc2
  have g2 := frozen_of_row _ _ 2 _ _ hrc2
  have hne' : fb ≠ rc := fun e => hne e.symm
  clear hfb2 hrc2 hfb1 hrc1 b1
  go_wp2_with fail
  exact hQ.out _ _ (Fr.Is.mk rfl rfl) HS1.out HS2.out HBe.out
end Go.Proofs.YtdkgachgohilcaaDoor
