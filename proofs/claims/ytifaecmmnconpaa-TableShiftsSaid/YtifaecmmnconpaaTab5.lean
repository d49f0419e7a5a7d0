/- Layer 4: the document's Find. -/
import Derived.Test.YtifaecmmnconpaaRows
import Derived.Test.YtifaecmmnconpaaTabPure
import Derived.Test.YtifaecmmnconpaaObj
import Derived.Test.YtifaecmmnconpaaRowE
import Derived.Test.YtifaecmmnconpaaTab1
import Derived.Test.YtifaecmmnconpaaTab2
import Derived.Test.YtifaecmmnconpaaTab4
import Derived.WalkKit
import Derived.WalkSpells
import Derived.WalkLawsBesides
import Derived.Lib.Hide
import Derived.Outline
import Derived.RegionTactic
import Derived.IntWalk
import Derived.BigQuiet
import Derived.Deep.QuietTactic
import Derived.Deep.RegionLaw
import Derived.Deep.RegionHeld3
namespace Go.Proofs.Ytifaecmmnconpaa
open Go.RowKit
open Arg Tab Mem Go.Proofs.Ytifaecmmnconpaa.Obj
set_option linter.unusedVariables false

theorem str_ne {a b : ByteArray} (h : a ≠ b) : (a.toList == b.toList) = false := by
  rw [ByteArray.toList_eq, ByteArray.toList_eq, beq_eq_false_iff_ne]
  intro e
  exact h (ByteArray.ext (by simpa using e))
theorem str_eq (a : ByteArray) : (a.toList == a.toList) = true := by rw [beq_iff_eq]

set_option maxRecDepth 100000 in
set_option maxHeartbeats 4000000 in
theorem rfind_any (g m : Nat) (rows : List FdM) (f : FdM) (L : List Nat) (w : World) (h : RTab w L g m rows) (hs : rows.length ≤ 100000) :
    Calls Try.prog 21 #[.pointer (some ⟨g, 0, none⟩), .agg #[.string f.name, .string f.value, .bool f.never]] w fun e w' => e = .returned (.tuple #[.int .i64 (findT rows f).1, .bool (findT rows f).2]) ∧ Below w.heap.size w w' := by
  obtain ⟨i0, hi, hz0, hz1, hz2⟩ := info_parts info_fd
  have HI := Lib.hid hi
  have HZ0 := Lib.hid hz0
  have HZ1 := Lib.hid hz1
  have HZ2 := Lib.hid hz2
  have HR0 : Hid (findF f (statics ++ rows) 0 0 = findT rows f) := Lib.hid rfl
  generalize findT rows f = R at HR0 ⊢
  generalize hal : statics ++ rows = al at HR0
  have hall : al.length = 61 + rows.length := by rw [← hal, List.length_append, statics_len]
  have HAl := Lib.hid hal
  obtain ⟨ad, cap, hg, hh, hl, hm, hz, ha, hr, hk⟩ := h
  have HH := Lib.hid hh
  have HRw := Lib.hid hr
  have HZ := Lib.hid hz
  have HAd := Lib.hid ha
  have HK := Lib.hid hk
  obtain ⟨fn, fv, fb⟩ := f
  simp only
  clear hi hz0 hz1 hz2 hh hr ha hk hg hz hal
  go_enter Try.func21, Try.ntmps21
  go_wp2_with fail
  generalize hwb : w.alloc (.cells #[.string fn, .string fv, .bool fb] 36) = wb
  have hb : Below w.heap.size w wb := by rw [← hwb]; exact (Below.refl _ _).alloc (Nat.le_refl _) _
  have hbx : wb.heap[w.heap.size]? = some (.cells #[.string fn, .string fv, .bool fb] 36 (0, 0)) := by rw [← hwb]; exact heap_alloc_new w _
  have hws := hb.size
  generalize hbn : w.heap.size = bx at hbx ⊢
  have HBn := Lib.hid hbn
  have e0 : wb.cell? ⟨bx, 0, none⟩ = some (.string fn) := cell_at hbx 0
  have e1 : wb.cell? ⟨bx, 1, none⟩ = some (.string fv) := cell_at hbx 1
  have hhb := block_below hb HH.out
  have c1 : wb.cell? ⟨g, 1, none⟩ = some (.slice ad rows.length cap) := cell_at hhb 1
  have HB := Lib.hid hb
  clear hwb hbn hb hbx hhb
  have HSrc : Hid (∀ v, Below wb.drew.heap.size wb.drew v → Rw.RowE EFd v ad rows ∧ wb.heap.size ≤ v.heap.size) := Lib.hid (fun v hv => ⟨(HRw.out.below HB.out).below (((Below.refl _ wb).drew).trans hv), hv.size⟩)
  have HNums : Hid (61 + rows.length ≤ maxLen ∧ (61 + rows.length) * 40 ≤ 140737488355328 ∧ (ad = none → cap = 0 ∧ rows.length = 0)) := Lib.hid ⟨by unfold maxLen; omega, by omega, fun h => ⟨HZ.out h, by have := HZ.out h; omega⟩⟩
  have HCg : Hid (∀ v y, Below wb.drew.heap.size wb.drew v → ∀ b, wb.heap.size ≤ b → v.grownBy y (some b) → y.cell? ⟨g, 1, none⟩ = some (.slice ad rows.length cap)) := Lib.hid (fun v y hv b hb hy => by
    have hgl : g < wb.heap.size := World.block_lt_of_cell? wb ⟨g, 1, none⟩ c1
    have hvs : wb.heap.size ≤ v.heap.size := hv.size
    refine (World.cell?_of_block (a := ⟨g, 1, none⟩) (hy.block g (show g < v.heap.size by omega) (by intro e; simp only [Option.some.injEq] at e; omega))).trans ?_
    exact below_cell hv c1)
  go_region_held3 (fun w' => w'.cell? ⟨g, 1, none⟩ = some (.slice ad rows.length cap))
    (first | go_keep | exact below_cell b1 c1 | exact HCg.out _ _ b1 b (Rw.own_blk HOS.out b 0 none rfl).1 hg4.out)
    ((first | (go_at_call 28; refine (statics_any _).mono ?_; rintro e w1 ⟨b, rfl, b1, HRS, HOS⟩)
            | (refine Rw.step_append_rows EFd Try.underlying30 HI.out HZ0.out HZ1.out HZ2.out rfl rfl (.tmp 9) (.tmp 13) rfl _ (.slice (some ⟨b, 0, none⟩) 61 61) 61 statics rfl statics_len.symm HOS.out ad rows.length rows cap rfl rfl HNums.out.2.2 (HSrc.out _ b1).1 HNums.out.1 HNums.out.2.1 (HSrc.out _ b1).2 ?_; intro ad4 cap4 w4 hown4 hg4)))
  have hbb := Rw.own_blk HOS.out b 0 none rfl
  have HRow : Hid (Rw.RowE EFd w4 ad4 al) := Lib.hid (by
    have h := hown4.out
    rw [HAl.out] at h
    refine Rw.RowE.of_own (n := 61 + rows.length) (cap := cap4) (base := wb.drew.heap.size) (e := 36) ?_
    rw [hall]; exact h)
  have hc4 : 61 + rows.length ≤ cap4 := (Rw.own_len hown4.out).2.1
  have hm4 : cap4 ≤ maxLen := (Rw.own_len hown4.out).2.2.1
  have hw1s : wb.heap.size ≤ w1.heap.size := b1.size
  have hx : ∀ k, k < wb.heap.size → w4.heap[k]? = wb.heap[k]? := fun k hk => (hg4.out.block k (by omega) (by intro e; simp only [Value.ownBlock, Option.some.injEq] at e; have : wb.heap.size ≤ b := hbb.1; omega)).trans (b1.block k hk)
  have hbl : bx < wb.heap.size := World.block_lt_of_cell? wb ⟨bx, 0, none⟩ e0
  have HE0 : Hid (w4.cell? ⟨bx, 0, none⟩ = some (.string fn)) := Lib.hid ((World.cell?_of_block (a := ⟨bx, 0, none⟩) (hx bx hbl)).trans e0)
  have HE1 : Hid (w4.cell? ⟨bx, 1, none⟩ = some (.string fv)) := Lib.hid ((World.cell?_of_block (a := ⟨bx, 1, none⟩) (hx bx hbl)).trans e1)
  have HB4 : Hid (Below w.heap.size w w4) := Lib.hid ((HB.out.drew.trans (b1.mono hws)).grown hg4.out (by omega) (fun k hk => by simp only [Value.ownBlock, Option.some.injEq] at hk; have : wb.heap.size ≤ b := hbb.1; omega))
  clear hbb hw1s hx hbl hown4 hg4 HRS HOS b1 HCg HNums HSrc HB c1 e0 e1 HK HAd HZ HRw HH HAl HI HZ0 HZ1 HZ2
  rw [← hall] at hc4 ⊢
  generalize hN : al.length = N at hc4 ⊢
  have hN2 : N ≤ 100061 := by omega
  have HN := Lib.hid hN
  clear hN hall
  go_wp2_with fail
  go_loopw [7, 8] (fun vn vi wr => ∃ (k near : Nat), k ≤ N ∧ near ≤ k ∧ vi = .int .i64 k ∧ vn = .int .i64 near ∧ Hid (findF ⟨fn, fv, fb⟩ (al.drop k) k near = R) ∧ Below w4.heap.size w4 wr) (fun _ vi _ => N - (intOf vi).toNat)
  case atStart => exact ⟨0, 0, by omega, by omega, rfl, rfl, Lib.hid (by rw [List.drop_zero]; exact HR0.out), Below.refl _ _⟩
  case round =>
    clear HR0
    obtain ⟨k, near, hk, hnear, rfl, rfl, HF, hbel⟩ := hrel
    by_cases hlt : k < N
    · have hlt' : (k : Int) < N := by omega
      have hlr : k < al.length := by rw [HN.out]; exact hlt
      obtain ⟨bl, off, rfl, hc⟩ : ∃ b off, ad4 = some ⟨b, off, none⟩ ∧ ∀ i, (h : i < al.length) → Rw.CE EFd w4 b (off + i * 3) al[i] := by
        rcases HRow.out with h | h
        · rw [h] at hlr; simp at hlr
        · exact h
      obtain ⟨d0, d1, d2⟩ := CE_fd (hc k hlr)
      have x0 := below_cell hbel d0
      have x1 := below_cell hbel d1
      have y0 := below_cell hbel HE0.out
      have y1 := below_cell hbel HE1.out
      have HF1 : Hid (findF ⟨fn, fv, fb⟩ (al[k] :: al.drop (k + 1)) k near = R) := Lib.hid (by rw [← List.drop_eq_getElem_cons hlr]; exact HF.out)
      clear d0 d1 d2 hc HF
      generalize al[k] = x at *
      obtain ⟨xn, xv, xb⟩ := x
      simp only at x0 x1
      have HF2 : Hid ((if xn = fn then (if xv = fv then (k + 1, true) else findF ⟨fn, fv, fb⟩ (al.drop (k + 1)) (k + 1) (if near = 0 then k + 1 else near)) else findF ⟨fn, fv, fb⟩ (al.drop (k + 1)) (k + 1) near) = R) := HF1
      clear HF1
      have hk0 : (0 : Int) ≤ k := by omega
      have hkN : (k : Int) < (N : Int) := hlt'
      by_cases hq : xn = fn
      · subst hq
        have hq1 := str_eq xn
        rw [if_pos rfl] at HF2
        by_cases hv : xv = fv
        · subst hv
          have hv1 := str_eq xv
          have hR : R = (k + 1, true) := by rw [← HF2.out, if_pos rfl]
          subst hR
          clear HF2
          have HBB := Lib.hid (HB4.out.trans (hbel.mono HB4.out.size))
          go_wp2_with fail
          go_quiet (fail)
          go_wp2_with fail
          go_quiet (fail)
          go_wp2_with fail
          go_ret2
          exact ⟨by simp, below_drewN HBB.out _⟩
        · have hv1 := str_ne hv
          rw [if_neg hv] at HF2
          clear hv
          by_cases hz : near = 0
          · have hz1 : ((near : Int) == 0) = true := by rw [beq_iff_eq]; omega
            rw [if_pos hz] at HF2
            clear hz
            go_wp2_with fail
            go_quiet (fail)
            go_wp2_with fail
            go_quiet (fail)
            go_wp2_with fail
            go_roundw
            case rel => exact ⟨k + 1, k + 1, by omega, by omega, by go_num, by go_num, HF2, below_drewN hbel _⟩
            case measure => simp [intOf]; omega
          · have hz1 : ((near : Int) == 0) = false := by rw [beq_eq_false_iff_ne]; omega
            rw [if_neg hz] at HF2
            clear hz
            go_wp2_with fail
            go_quiet (fail)
            go_wp2_with fail
            go_quiet (fail)
            go_wp2_with fail
            go_roundw
            case rel => exact ⟨k + 1, near, by omega, by omega, by go_num, rfl, HF2, below_drewN hbel _⟩
            case measure => simp [intOf]; omega
      · have hq1 := str_ne hq
        have HF3 : Hid (findF ⟨fn, fv, fb⟩ (al.drop (k + 1)) (k + 1) near = R) := Lib.hid (by have h := HF2.out; rwa [if_neg hq] at h)
        clear HF2 hq
        go_wp2_with fail
        go_quiet (fail)
        go_wp2_with fail
        go_roundw
        case rel => exact ⟨k + 1, near, by omega, by omega, by go_num, rfl, HF3, below_drewN hbel _⟩
        case measure => simp [intOf]; omega
    · have hlt' : ¬ (k : Int) < N := by omega
      have hR : R = (near, false) := by rw [← HF.out, List.drop_of_length_le (by rw [HN.out]; omega)]; rfl
      subst hR
      clear HF
      have hB := HB4.out.trans (hbel.mono HB4.out.size)
      go_wp2_with fail
      go_ret2
      exact ⟨rfl, hB⟩
end Go.Proofs.Ytifaecmmnconpaa
