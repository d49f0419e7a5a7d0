/-
  TableAlike holds for every script, size and field: two tables that had the same rows are the same, however they came to the same most; no conditions.
-/
import Derived.Test.YtifaecmmnconpaaRows
import Derived.WalkKit
import Derived.ProofKit
import Derived.OpenShut
import Derived.ShutString
import Derived.SizedLaws
import Derived.Test.YtifaecmmnconpaaMem
import Derived.Lib.SmallJoins
import Derived.Test.YtifaecmmnconpaaArg
import Derived.Test.YtifaecmmnconpaaObj
import Derived.Test.YtifaecmmnconpaaRowE
import Derived.Test.YtifaecmmnconpaaTabPure
import Derived.Test.YtifaecmmnconpaaTab1
import Derived.Test.YtifaecmmnconpaaTab2
import Derived.Test.YtifaecmmnconpaaTab4
import Derived.Test.YtifaecmmnconpaaTab5
import Derived.Test.YtifaecmmnconpaaTab6
import Derived.Test.YtifaecmmnconpaaTabP
import Derived.Test.YtifaecmmnconpaaTab7
import Derived.Test.YtifaecmmnconpaaTab8
import Derived.RegionTactic
import Derived.IntWalk
import Derived.Laws.StructEq
namespace Go.Proofs.Ytifaecmmnconpaa.tableAlike
open Go.ChangeShapes Go.WideShapes Go.ChangeAt Go.RowKit
open Go.Proofs.Ytifaecmmnconpaa Tab Mem Go.Proofs.Ytifaecmmnconpaa.Obj
open Go.ChangeMaps (open_string shut_string)
open Go.Joins
set_option linter.unusedVariables false

theorem own : ownKnob Try.prog.godebug = none := by kernel_rfl
theorem laidOut : laidOutB Try.prog = true := by kernel_rfl

set_option maxRecDepth 100000 in
set_option maxHeartbeats 2000000 in
theorem walk (a0 : Option Addr) (len0 cap0 : Nat) (a1 : Int) (a2_0 : ByteArray) (a2_1 : ByteArray) (a2_2 : Bool) (w : World) (w0 : Arg.Slc w [.int .i64, .str, .str, .bool, .int .i64] a0 len0 cap0) (r0 : cap0 * 56 ≤ 140737488351232) (w1 : (Lit.int .i64 a1).wf = true) (w2_0 : a2_0.size ≤ 140737488351232) (w2_1 : a2_1.size ≤ 140737488351232) :
    Calls Try.prog 6 #[.slice a0 len0 cap0, .int .i64 a1, .agg #[.string a2_0, .string a2_1, .bool a2_2]] w fun e w' => e = .returned (.bool true) ∧ Below w.heap.size w w' := by
  obtain ⟨l, hl, hr, hok, hlc, hcm⟩ := script_of w0
  have HRw := Lib.hid hr
  have HL := Lib.hid hl
  have HOk := Lib.hid hok
  have HC := Lib.hid hcm
  have hx1 : -9223372036854775808 ≤ a1 ∧ a1 ≤ 9223372036854775807 := by simpa [Lit.wf, IntKind.min, IntKind.max, IntKind.signed, IntKind.bits] using w1
  clear hr hl hok w0 w1
  obtain ⟨bw, hbw⟩ : ∃ bw, fewF (l.take 120) 0 = bw := ⟨_, rfl⟩
  have HFe : Hid (∀ v, Below w.heap.size w v → Calls Try.prog 9 #[.slice a0 len0 cap0] v fun e w' => e = .returned (.bool bw) ∧ Below v.heap.size v w') := Lib.hid (fun v hv => by
    have h := few_any a0 len0 cap0 l v HL.out hlc HC.out (HRw.out.below hv) HOk.out
    rwa [hbw] at h)
  clear hbw
  cases bw with
  | false =>
    go_enter Try.func6, Try.ntmps6
    go_wp2_with fail
    have hbx := heap_alloc_new w (.cells #[.string a2_0, .string a2_1, .bool a2_2] 36)
    have hb0 : Below w.heap.size w (w.alloc (.cells #[.string a2_0, .string a2_1, .bool a2_2] 36)) := (Below.refl _ _).alloc (Nat.le_refl _) _
    generalize w.alloc (.cells #[.string a2_0, .string a2_1, .bool a2_2] 36) = v0 at hbx hb0 ⊢
    generalize w.heap.size = bf at hbx ⊢
    have HBf := Lib.hid hbx
    have HBl := Lib.hid (Array.getElem?_eq_some_iff.1 hbx).1
    clear hbx
    refine (awake_any _).mono ?_; rintro e v1 ⟨rfl, b1⟩
    go_wp2_with fail
    refine (HFe.out _ (below_step hb0 b1)).mono ?_; rintro e v2 ⟨rfl, b2⟩
    replace b2 := below_step b1 b2
    have hf2 := (b2.block bf HBl.out).trans HBf.out
    have f0 := cell_at hf2 0
    have f1 := cell_at hf2 1
    clear b1 hf2
    go_wp2_with fail
    go_ret
    exact ⟨rfl, below_step hb0 b2⟩
  | true =>
    by_cases hs1 : 100000 < a2_0.size
    · have hd1 : decide ((100000 : Int) < a2_0.size) = true := by simp; omega
      go_enter Try.func6, Try.ntmps6
      go_wp2_with fail
      have hbx := heap_alloc_new w (.cells #[.string a2_0, .string a2_1, .bool a2_2] 36)
      have hb0 : Below w.heap.size w (w.alloc (.cells #[.string a2_0, .string a2_1, .bool a2_2] 36)) := (Below.refl _ _).alloc (Nat.le_refl _) _
      generalize w.alloc (.cells #[.string a2_0, .string a2_1, .bool a2_2] 36) = v0 at hbx hb0 ⊢
      generalize w.heap.size = bf at hbx ⊢
      have HBf := Lib.hid hbx
      have HBl := Lib.hid (Array.getElem?_eq_some_iff.1 hbx).1
      clear hbx
      refine (awake_any _).mono ?_; rintro e v1 ⟨rfl, b1⟩
      go_wp2_with fail
      refine (HFe.out _ (below_step hb0 b1)).mono ?_; rintro e v2 ⟨rfl, b2⟩
      replace b2 := below_step b1 b2
      have hf2 := (b2.block bf HBl.out).trans HBf.out
      have f0 := cell_at hf2 0
      have f1 := cell_at hf2 1
      clear b1 hf2
      go_wp2_with fail
      go_ret
      exact ⟨rfl, below_step hb0 b2⟩
    · have hd1 : decide ((100000 : Int) < a2_0.size) = false := by simp; omega
      by_cases hs2 : 100000 < a2_1.size
      · have hd2 : decide ((100000 : Int) < a2_1.size) = true := by simp; omega
        go_enter Try.func6, Try.ntmps6
        go_wp2_with fail
        have hbx := heap_alloc_new w (.cells #[.string a2_0, .string a2_1, .bool a2_2] 36)
        have hb0 : Below w.heap.size w (w.alloc (.cells #[.string a2_0, .string a2_1, .bool a2_2] 36)) := (Below.refl _ _).alloc (Nat.le_refl _) _
        generalize w.alloc (.cells #[.string a2_0, .string a2_1, .bool a2_2] 36) = v0 at hbx hb0 ⊢
        generalize w.heap.size = bf at hbx ⊢
        have HBf := Lib.hid hbx
        have HBl := Lib.hid (Array.getElem?_eq_some_iff.1 hbx).1
        clear hbx
        refine (awake_any _).mono ?_; rintro e v1 ⟨rfl, b1⟩
        go_wp2_with fail
        refine (HFe.out _ (below_step hb0 b1)).mono ?_; rintro e v2 ⟨rfl, b2⟩
        replace b2 := below_step b1 b2
        have hf2 := (b2.block bf HBl.out).trans HBf.out
        have f0 := cell_at hf2 0
        have f1 := cell_at hf2 1
        clear b1 hf2
        go_wp2_with fail
        go_ret
        exact ⟨rfl, below_step hb0 b2⟩
      · have hd2 : decide ((100000 : Int) < a2_1.size) = false := by simp; omega
        go_enter Try.func6, Try.ntmps6
        go_wp2_with fail
        have hbx := heap_alloc_new w (.cells #[.string a2_0, .string a2_1, .bool a2_2] 36)
        have hb0 : Below w.heap.size w (w.alloc (.cells #[.string a2_0, .string a2_1, .bool a2_2] 36)) := (Below.refl _ _).alloc (Nat.le_refl _) _
        generalize w.alloc (.cells #[.string a2_0, .string a2_1, .bool a2_2] 36) = v0 at hbx hb0 ⊢
        generalize w.heap.size = bf at hbx ⊢
        have HBf := Lib.hid hbx
        have HBl := Lib.hid (Array.getElem?_eq_some_iff.1 hbx).1
        clear hbx
        refine (awake_any _).mono ?_; rintro e v1 ⟨rfl, b1⟩
        go_wp2_with fail
        refine (HFe.out _ (below_step hb0 b1)).mono ?_; rintro e v2 ⟨rfl, b2⟩
        replace b2 := below_step b1 b2
        have hf2 := (b2.block bf HBl.out).trans HBf.out
        have f0 := cell_at hf2 0
        have f1 := cell_at hf2 1
        clear b1 hf2
        go_wp2_with fail
        refine (pnew_ok 4096 _ (by decide)).mono ?_; rintro e v3 ⟨ga, La, rfl, T1, b3, l1⟩
        have HT1 := Lib.hid T1
        have HL1 := Lib.hid (fun k hk => Nat.le_trans b2.size (l1 k hk))
        replace b3 := below_step b2 b3
        clear T1 l1 b2 f0 f1
        go_wp2_with fail
        refine (pnew_ok 4096 _ (by decide)).mono ?_; rintro e v4 ⟨gb, Lb, rfl, T2, b4, l2⟩
        have HP : Hid (Pair v4 v0.heap.size ga gb 4096 4096 [] [] 0) := Lib.hid ⟨La, Lb, 0, 0, HT1.out.kept b4.size (fun k hk => b4.block k (HT1.out.blocks k hk)), T2, fun k hk hm => by
          have h1 := HT1.out.blocks k hk
          have h2 := l2 k hm
          omega, HL1.out, fun k hk => Nat.le_trans b3.size (l2 k hk), Nat.le_refl _, Nat.le_refl _, Nat.le_trans b3.size b4.size⟩
        replace b4 := below_step b3 b4
        clear T2 l2 b3 HT1 HL1
        go_wp2_with fail
        have HR0 : Hid (addsM (((l.take 120).map (·.f)).drop 0) [] = addsM ((l.take 120).map (·.f)) []) := rfl
        generalize addsM ((l.take 120).map (·.f)) [] = R at HR0
        go_loopw [11] (fun vi wr => ∃ (k : Nat) (rows : List FdM), k ≤ 120 ∧ k ≤ len0 ∧ vi = .int .i64 k ∧ Hid (Pair wr v0.heap.size ga gb 4096 4096 rows rows (2 * k)) ∧ Hid (addsM (((l.take 120).map (·.f)).drop k) rows = R) ∧ Below v0.heap.size v0 wr) (fun vi _ => len0 - (intOf vi).toNat)
        case atStart => exact ⟨0, [], by omega, by omega, rfl, HP, HR0, b4⟩
        case round =>
          clear HP HR0 b4
          obtain ⟨k, rows, hk, hkl, rfl, HP, HF, hbel⟩ := hrel
          by_cases hlt : k < len0 ∧ k < 120
          · obtain ⟨hlt, h120⟩ := hlt
            have hlt' : (k : Int) < len0 := by omega
            have h120' : (k : Int) < 120 := by omega
            have hlr : k < l.length := by rw [HL.out]; exact hlt
            have hlt2 : k < ((l.take 120).map (·.f)).length := by rw [List.length_map, List.length_take]; omega
            obtain ⟨bl, off, rfl, hcs⟩ : ∃ b off, a0 = some ⟨b, off, none⟩ ∧ ∀ i, (h : i < l.length) → Rw.CE EDo v0 b (off + i * 5) l[i] := by
              rcases HRw.out.below hb0 with h | h
              · rw [h] at hlr; simp at hlr
              · exact h
            obtain ⟨_, x1, x2, x3, _⟩ := CE_do (hcs k hlr)
            have hsz := HOk.out l[k] (List.getElem_mem hlr)
            have HF1 : Hid (addsM (l[k].f :: ((l.take 120).map (·.f)).drop (k + 1)) rows = R) := Lib.hid (by
              have h := HF.out
              rw [List.drop_eq_getElem_cons hlt2, List.getElem_map, List.getElem_take] at h
              exact h)
            clear hcs HF
            generalize l[k] = d at *
            obtain ⟨dk, ⟨fn, fv, fb⟩, dn⟩ := d
            simp only at x1 x2 x3
            obtain ⟨_, _, hz1, hz2⟩ := hsz
            simp only at hz1 hz2
            have HF2 : Hid (addsM (((l.take 120).map (·.f)).drop (k + 1)) (addT 4096 rows ⟨fn, fv, fb⟩) = R) := HF1
            have y1 : wr.cell? _ = _ := below_cell hbel x1
            have y2 : wr.cell? _ = _ := below_cell hbel x2
            have y3 : wr.cell? _ = _ := below_cell hbel x3
            have hk0 : (0 : Int) ≤ k := by omega
            have HX1 := Lib.hid x1
            have HX2 := Lib.hid x2
            have HX3 := Lib.hid x3
            clear HF1 x1 x2 x3
            go_wp2_with fail
            refine (pair_add HP.out ⟨fn, fv, fb⟩ (by omega) hz1 hz2).mono ?_; rintro e w1 ⟨rfl, P1, c1⟩
            have HP1 := Lib.hid P1
            replace c1 := hbel.trans c1
            clear y1 y2 y3 P1 hbel HP
            have y1 : w1.cell? _ = _ := below_cell c1 HX1.out
            have y2 : w1.cell? _ = _ := below_cell c1 HX2.out
            have y3 : w1.cell? _ = _ := below_cell c1 HX3.out
            go_wp2_with fail
            refine (pair_add HP1.out.swap ⟨fn, fv, fb⟩ (by omega) hz1 hz2).mono ?_; rintro e w2 ⟨rfl, P2, c2⟩
            have HP2 : Hid (Pair w2 v0.heap.size ga gb 4096 4096 (addT 4096 rows ⟨fn, fv, fb⟩) (addT 4096 rows ⟨fn, fv, fb⟩) (2 * (k + 1))) := Lib.hid (P2.swap.more (by omega))
            replace c2 := c1.trans c2
            clear y1 y2 y3 P2 c1 HP1
            go_wp2_with fail
            go_roundw
            case rel => exact ⟨k + 1, addT 4096 rows ⟨fn, fv, fb⟩, by omega, by omega, by go_num, HP2, HF2, c2⟩
            case measure => simp [intOf]; omega
          · have hR : R = rows := by rw [← HF.out, List.drop_of_length_le (by rw [List.length_map, List.length_take, HL.out]; omega)]; rfl
            subst hR
            have HP' := Lib.hid (HP.out.more (c' := 240) (by omega))
            have hk0 : (0 : Int) ≤ k := by omega
            clear HF HP
            by_cases hkl2 : k < len0
            · have hk1 : (k : Int) < len0 := by omega
              have hk2 : ¬ (k : Int) < 120 := by omega
              have hk3 : decide (k < 120) = false := decide_eq_false (by omega)
              clear hlt hkl2
              have hsm := HP'.out.sum
              go_wp2_with fail
              refine (pair_size HP'.out).mono ?_; rintro e u1 ⟨rfl, p1, d1⟩
              have P1 := Lib.hid p1
              replace d1 := hbel.trans d1
              clear p1 HP' hbel
              go_wp2_with fail
              refine (pair_resize P1.out (csum R) (by omega)).mono ?_; rintro e u2 ⟨rfl, p2, d2⟩
              have P2 := Lib.hid p2
              replace d2 := d1.trans d2
              clear p2 P1 d1
              rw [fit_all R _ (Nat.le_refl _)] at P2
              go_wp2_with fail
              refine (pair_len P2.out).mono ?_; rintro e u3 ⟨rfl, p3, d3⟩
              have P3 := Lib.hid p3
              replace d3 := d2.trans d3
              clear p3 P2 d2
              go_wp2_with fail
              refine (pair_len P3.out.swap).mono ?_; rintro e u4 ⟨rfl, p4, d4⟩
              have P4 := Lib.hid p4.swap
              replace d4 := d3.trans d4
              clear p4 P3 d3
              go_wp2_with fail
              refine (pair_size P4.out).mono ?_; rintro e u5 ⟨rfl, p5, d5⟩
              have P5 := Lib.hid p5
              replace d5 := d4.trans d5
              clear p5 P4 d4
              by_cases hl0 : 0 ≤ a1
              · have hld0 : decide (0 ≤ a1) = true := decide_eq_true hl0
                obtain ⟨lo, rfl⟩ := Int.eq_ofNat_of_zero_le hl0
                by_cases hl1 : lo ≤ csum R
                · have hld1 : decide ((lo : Int) ≤ (csum R : Nat)) = true := decide_eq_true (by omega)
                  have hld2 : decide (lo ≤ csum R) = true := decide_eq_true hl1
                  have hfs := fit_sum R lo
                  have hld3 : decide ((lo : Int) < (csum (fit lo R) : Nat)) = false := decide_eq_false (by omega)
                  have hld4 : decide (lo < csum (fit lo R)) = false := decide_eq_false (by omega)
                  have hlo : lo ≤ 65536 := by omega
                  clear hl0
                  go_wp2_with fail
                  refine (pair_resize P5.out.swap lo hlo).mono ?_; rintro e u6 ⟨rfl, p6, d6⟩
                  have P6 := Lib.hid p6.swap
                  replace d6 := d5.trans d6
                  clear p6 P5 d5
                  go_wp2_with fail
                  refine (pair_resize P6.out lo hlo).mono ?_; rintro e u7 ⟨rfl, p7, d7⟩
                  have P7 := Lib.hid p7
                  replace d7 := d6.trans d7
                  clear p7 P6 d6
                  go_wp2_with fail
                  refine (pair_len P7.out).mono ?_; rintro e u8 ⟨rfl, p8, d8⟩
                  have P8 := Lib.hid p8
                  replace d8 := d7.trans d8
                  clear p8 P7 d7
                  go_wp2_with fail
                  refine (pair_len P8.out.swap).mono ?_; rintro e u9 ⟨rfl, p9, d9⟩
                  have P9 := Lib.hid p9.swap
                  replace d9 := d8.trans d9
                  clear p9 P8 d8
                  go_wp2_with fail
                  refine (pair_size P9.out).mono ?_; rintro e u10 ⟨rfl, p10, d10⟩
                  have P10 := Lib.hid p10
                  replace d10 := d9.trans d10
                  clear p10 P9 d9
                  go_wp2_with fail
                  refine (pair_size P10.out.swap).mono ?_; rintro e u11 ⟨rfl, p11, d11⟩
                  have P11 := Lib.hid p11.swap
                  replace d11 := d10.trans d11
                  clear p11 P10 d10
                  go_wp2_with fail
                  refine (pair_size P11.out).mono ?_; rintro e u12 ⟨rfl, p12, d12⟩
                  have P12 := Lib.hid p12
                  replace d12 := d11.trans d12
                  clear p12 P11 d11
                  have hfx := (d12.block bf HBl.out).trans HBf.out
                  have f0 := cell_at hfx 0
                  have f1 := cell_at hfx 1
                  have f2 := cell_at hfx 2
                  clear hfx
                  go_wp2_with fail
                  refine (cost_any ⟨a2_0, a2_1, a2_2⟩ _ w2_0 w2_1).mono ?_; rintro e uc ⟨rfl, dc⟩
                  have PC := Lib.hid (P12.out.below dc).1
                  have DC := d12.trans (P12.out.below dc).2
                  clear f0 f1 f2 P12 dc d12
                  go_wp2_with fail
                  refine (pair_most PC.out).mono ?_; rintro e u13 ⟨rfl, p13, d13⟩
                  have P13 := Lib.hid p13
                  replace d13 := DC.trans d13
                  clear p13 PC DC
                  have hfx := (d13.block bf HBl.out).trans HBf.out
                  have f0 := cell_at hfx 0
                  have f1 := cell_at hfx 1
                  have f2 := cell_at hfx 2
                  clear hfx
                  by_cases hgr : lo < cost ⟨a2_0, a2_1, a2_2⟩
                  · have hgd : decide (lo < cost ⟨a2_0, a2_1, a2_2⟩) = true := decide_eq_true hgr
                    have hgd2 : decide (((lo : Nat) : Int) < (cost ⟨a2_0, a2_1, a2_2⟩ : Nat)) = true := decide_eq_true (by omega)
                    have HAd : Hid (addT lo (fit lo R) ⟨a2_0, a2_1, a2_2⟩ = []) := Lib.hid (by rw [addT, if_pos hgr])
                    clear hgr
                    go_wp2_with fail
                    refine (pair_add P13.out ⟨a2_0, a2_1, a2_2⟩ (by omega) w2_0 w2_1).mono ?_; rintro e u14 ⟨rfl, p14, d14⟩
                    have P14 := Lib.hid p14
                    replace d14 := d13.trans d14
                    clear p14 P13 d13
                    rw [HAd.out] at P14
                    clear f0 f1 f2
                    go_wp2_with fail
                    refine (pair_len P14.out).mono ?_; rintro e u15 ⟨rfl, p15, d15⟩
                    have P15 := Lib.hid p15
                    replace d15 := d14.trans d15
                    clear p15 P14 d14
                    go_wp2_with fail
                    refine (pair_size P15.out).mono ?_; rintro e u16 ⟨rfl, p16, d16⟩
                    have P16 := Lib.hid p16
                    replace d16 := d15.trans d16
                    clear p16 P15 d15
                    go_wp2_with fail
                    go_ret
                    exact ⟨rfl, below_step hb0 d16⟩
                  · have hgd : decide (lo < cost ⟨a2_0, a2_1, a2_2⟩) = false := decide_eq_false hgr
                    have hgd2 : decide (((lo : Nat) : Int) < (cost ⟨a2_0, a2_1, a2_2⟩ : Nat)) = false := decide_eq_false (by omega)
                    have HAt : Hid (atT (addT lo (fit lo R) ⟨a2_0, a2_1, a2_2⟩) 62 = (⟨a2_0, a2_1, false⟩, 0)) := Lib.hid (by rw [addT, if_neg hgr, atT, if_neg (by omega), if_neg (by simp; omega)]; rfl)
                    clear hgr
                    go_wp2_with fail
                    refine (pair_add P13.out ⟨a2_0, a2_1, a2_2⟩ (by omega) w2_0 w2_1).mono ?_; rintro e u17 ⟨rfl, p17, d17⟩
                    have P17 := Lib.hid p17
                    replace d17 := d13.trans d17
                    clear p17 P13 d13
                    clear f0 f1 f2
                    go_wp2_with fail
                    refine (pair_at P17.out 62 (by decide) ⟨a2_0, a2_1, false⟩ HAt.out).mono ?_; rintro e u18 ⟨rfl, p18, d18⟩
                    have P18 := Lib.hid p18
                    replace d18 := d17.trans d18
                    clear p18 P17 d17
                    have hfx := alloc_at (p := .cells #[.string a2_0, .string a2_1, .bool false] 36) ((d18.block bf HBl.out).trans HBf.out)
                    have f0 := cell_at hfx 0
                    have f1 := cell_at hfx 1
                    have hq0 := str_eq a2_0
                    have hq1 := str_eq a2_1
                    have hbz := below_step hb0 d18
                    clear hfx P18 d18
                    go_wp2_with fail
                    go_ret
                    exact ⟨rfl, hbz.alloc hbz.size _⟩
                · have hld1 : decide ((lo : Int) ≤ (csum R : Nat)) = false := decide_eq_false (by omega)
                  have hld2 : decide (lo ≤ csum R) = false := decide_eq_false hl1
                  clear hl0
                  have hfx := (d5.block bf HBl.out).trans HBf.out
                  have f0 := cell_at hfx 0
                  have f1 := cell_at hfx 1
                  have f2 := cell_at hfx 2
                  clear hfx
                  go_wp2_with fail
                  refine (cost_any ⟨a2_0, a2_1, a2_2⟩ _ w2_0 w2_1).mono ?_; rintro e uc ⟨rfl, dc⟩
                  have PC := Lib.hid (P5.out.below dc).1
                  have DC := d5.trans (P5.out.below dc).2
                  clear f0 f1 f2 P5 dc d5
                  go_wp2_with fail
                  refine (pair_most PC.out).mono ?_; rintro e u19 ⟨rfl, p19, d19⟩
                  have P19 := Lib.hid p19
                  replace d19 := DC.trans d19
                  clear p19 PC DC
                  have hfx := (d19.block bf HBl.out).trans HBf.out
                  have f0 := cell_at hfx 0
                  have f1 := cell_at hfx 1
                  have f2 := cell_at hfx 2
                  clear hfx
                  by_cases hgr : (csum R) < cost ⟨a2_0, a2_1, a2_2⟩
                  · have hgd : decide ((csum R) < cost ⟨a2_0, a2_1, a2_2⟩) = true := decide_eq_true hgr
                    have hgd2 : decide ((((csum R) : Nat) : Int) < (cost ⟨a2_0, a2_1, a2_2⟩ : Nat)) = true := decide_eq_true (by omega)
                    have HAd : Hid (addT (csum R) R ⟨a2_0, a2_1, a2_2⟩ = []) := Lib.hid (by rw [addT, if_pos hgr])
                    clear hgr
                    go_wp2_with fail
                    refine (pair_add P19.out ⟨a2_0, a2_1, a2_2⟩ (by omega) w2_0 w2_1).mono ?_; rintro e u20 ⟨rfl, p20, d20⟩
                    have P20 := Lib.hid p20
                    replace d20 := d19.trans d20
                    clear p20 P19 d19
                    rw [HAd.out] at P20
                    clear f0 f1 f2
                    go_wp2_with fail
                    refine (pair_len P20.out).mono ?_; rintro e u21 ⟨rfl, p21, d21⟩
                    have P21 := Lib.hid p21
                    replace d21 := d20.trans d21
                    clear p21 P20 d20
                    go_wp2_with fail
                    refine (pair_size P21.out).mono ?_; rintro e u22 ⟨rfl, p22, d22⟩
                    have P22 := Lib.hid p22
                    replace d22 := d21.trans d22
                    clear p22 P21 d21
                    go_wp2_with fail
                    go_ret
                    exact ⟨rfl, below_step hb0 d22⟩
                  · have hgd : decide ((csum R) < cost ⟨a2_0, a2_1, a2_2⟩) = false := decide_eq_false hgr
                    have hgd2 : decide ((((csum R) : Nat) : Int) < (cost ⟨a2_0, a2_1, a2_2⟩ : Nat)) = false := decide_eq_false (by omega)
                    have HAt : Hid (atT (addT (csum R) R ⟨a2_0, a2_1, a2_2⟩) 62 = (⟨a2_0, a2_1, false⟩, 0)) := Lib.hid (by rw [addT, if_neg hgr, atT, if_neg (by omega), if_neg (by simp; omega)]; rfl)
                    clear hgr
                    go_wp2_with fail
                    refine (pair_add P19.out ⟨a2_0, a2_1, a2_2⟩ (by omega) w2_0 w2_1).mono ?_; rintro e u23 ⟨rfl, p23, d23⟩
                    have P23 := Lib.hid p23
                    replace d23 := d19.trans d23
                    clear p23 P19 d19
                    clear f0 f1 f2
                    go_wp2_with fail
                    refine (pair_at P23.out 62 (by decide) ⟨a2_0, a2_1, false⟩ HAt.out).mono ?_; rintro e u24 ⟨rfl, p24, d24⟩
                    have P24 := Lib.hid p24
                    replace d24 := d23.trans d24
                    clear p24 P23 d23
                    have hfx := alloc_at (p := .cells #[.string a2_0, .string a2_1, .bool false] 36) ((d24.block bf HBl.out).trans HBf.out)
                    have f0 := cell_at hfx 0
                    have f1 := cell_at hfx 1
                    have hq0 := str_eq a2_0
                    have hq1 := str_eq a2_1
                    have hbz := below_step hb0 d24
                    clear hfx P24 d24
                    go_wp2_with fail
                    go_ret
                    exact ⟨rfl, hbz.alloc hbz.size _⟩
              · have hld0 : decide (0 ≤ a1) = false := decide_eq_false hl0
                have hfx := (d5.block bf HBl.out).trans HBf.out
                have f0 := cell_at hfx 0
                have f1 := cell_at hfx 1
                have f2 := cell_at hfx 2
                clear hfx
                go_wp2_with fail
                refine (cost_any ⟨a2_0, a2_1, a2_2⟩ _ w2_0 w2_1).mono ?_; rintro e uc ⟨rfl, dc⟩
                have PC := Lib.hid (P5.out.below dc).1
                have DC := d5.trans (P5.out.below dc).2
                clear f0 f1 f2 P5 dc d5
                go_wp2_with fail
                refine (pair_most PC.out).mono ?_; rintro e u25 ⟨rfl, p25, d25⟩
                have P25 := Lib.hid p25
                replace d25 := DC.trans d25
                clear p25 PC DC
                have hfx := (d25.block bf HBl.out).trans HBf.out
                have f0 := cell_at hfx 0
                have f1 := cell_at hfx 1
                have f2 := cell_at hfx 2
                clear hfx
                by_cases hgr : (csum R) < cost ⟨a2_0, a2_1, a2_2⟩
                · have hgd : decide ((csum R) < cost ⟨a2_0, a2_1, a2_2⟩) = true := decide_eq_true hgr
                  have hgd2 : decide ((((csum R) : Nat) : Int) < (cost ⟨a2_0, a2_1, a2_2⟩ : Nat)) = true := decide_eq_true (by omega)
                  have HAd : Hid (addT (csum R) R ⟨a2_0, a2_1, a2_2⟩ = []) := Lib.hid (by rw [addT, if_pos hgr])
                  clear hgr
                  go_wp2_with fail
                  refine (pair_add P25.out ⟨a2_0, a2_1, a2_2⟩ (by omega) w2_0 w2_1).mono ?_; rintro e u26 ⟨rfl, p26, d26⟩
                  have P26 := Lib.hid p26
                  replace d26 := d25.trans d26
                  clear p26 P25 d25
                  rw [HAd.out] at P26
                  clear f0 f1 f2
                  go_wp2_with fail
                  refine (pair_len P26.out).mono ?_; rintro e u27 ⟨rfl, p27, d27⟩
                  have P27 := Lib.hid p27
                  replace d27 := d26.trans d27
                  clear p27 P26 d26
                  go_wp2_with fail
                  refine (pair_size P27.out).mono ?_; rintro e u28 ⟨rfl, p28, d28⟩
                  have P28 := Lib.hid p28
                  replace d28 := d27.trans d28
                  clear p28 P27 d27
                  go_wp2_with fail
                  go_ret
                  exact ⟨rfl, below_step hb0 d28⟩
                · have hgd : decide ((csum R) < cost ⟨a2_0, a2_1, a2_2⟩) = false := decide_eq_false hgr
                  have hgd2 : decide ((((csum R) : Nat) : Int) < (cost ⟨a2_0, a2_1, a2_2⟩ : Nat)) = false := decide_eq_false (by omega)
                  have HAt : Hid (atT (addT (csum R) R ⟨a2_0, a2_1, a2_2⟩) 62 = (⟨a2_0, a2_1, false⟩, 0)) := Lib.hid (by rw [addT, if_neg hgr, atT, if_neg (by omega), if_neg (by simp; omega)]; rfl)
                  clear hgr
                  go_wp2_with fail
                  refine (pair_add P25.out ⟨a2_0, a2_1, a2_2⟩ (by omega) w2_0 w2_1).mono ?_; rintro e u29 ⟨rfl, p29, d29⟩
                  have P29 := Lib.hid p29
                  replace d29 := d25.trans d29
                  clear p29 P25 d25
                  clear f0 f1 f2
                  go_wp2_with fail
                  refine (pair_at P29.out 62 (by decide) ⟨a2_0, a2_1, false⟩ HAt.out).mono ?_; rintro e u30 ⟨rfl, p30, d30⟩
                  have P30 := Lib.hid p30
                  replace d30 := d29.trans d30
                  clear p30 P29 d29
                  have hfx := alloc_at (p := .cells #[.string a2_0, .string a2_1, .bool false] 36) ((d30.block bf HBl.out).trans HBf.out)
                  have f0 := cell_at hfx 0
                  have f1 := cell_at hfx 1
                  have hq0 := str_eq a2_0
                  have hq1 := str_eq a2_1
                  have hbz := below_step hb0 d30
                  clear hfx P30 d30
                  go_wp2_with fail
                  go_ret
                  exact ⟨rfl, hbz.alloc hbz.size _⟩
            · have hk1 : ¬ (k : Int) < len0 := by omega
              have hk3 : decide (k < len0) = false := decide_eq_false hkl2
              clear hlt hkl2
              have hsm := HP'.out.sum
              go_wp2_with fail
              refine (pair_size HP'.out).mono ?_; rintro e u1 ⟨rfl, p1, d1⟩
              have P1 := Lib.hid p1
              replace d1 := hbel.trans d1
              clear p1 HP' hbel
              go_wp2_with fail
              refine (pair_resize P1.out (csum R) (by omega)).mono ?_; rintro e u2 ⟨rfl, p2, d2⟩
              have P2 := Lib.hid p2
              replace d2 := d1.trans d2
              clear p2 P1 d1
              rw [fit_all R _ (Nat.le_refl _)] at P2
              go_wp2_with fail
              refine (pair_len P2.out).mono ?_; rintro e u3 ⟨rfl, p3, d3⟩
              have P3 := Lib.hid p3
              replace d3 := d2.trans d3
              clear p3 P2 d2
              go_wp2_with fail
              refine (pair_len P3.out.swap).mono ?_; rintro e u4 ⟨rfl, p4, d4⟩
              have P4 := Lib.hid p4.swap
              replace d4 := d3.trans d4
              clear p4 P3 d3
              go_wp2_with fail
              refine (pair_size P4.out).mono ?_; rintro e u5 ⟨rfl, p5, d5⟩
              have P5 := Lib.hid p5
              replace d5 := d4.trans d5
              clear p5 P4 d4
              by_cases hl0 : 0 ≤ a1
              · have hld0 : decide (0 ≤ a1) = true := decide_eq_true hl0
                obtain ⟨lo, rfl⟩ := Int.eq_ofNat_of_zero_le hl0
                by_cases hl1 : lo ≤ csum R
                · have hld1 : decide ((lo : Int) ≤ (csum R : Nat)) = true := decide_eq_true (by omega)
                  have hld2 : decide (lo ≤ csum R) = true := decide_eq_true hl1
                  have hfs := fit_sum R lo
                  have hld3 : decide ((lo : Int) < (csum (fit lo R) : Nat)) = false := decide_eq_false (by omega)
                  have hld4 : decide (lo < csum (fit lo R)) = false := decide_eq_false (by omega)
                  have hlo : lo ≤ 65536 := by omega
                  clear hl0
                  go_wp2_with fail
                  refine (pair_resize P5.out.swap lo hlo).mono ?_; rintro e u6 ⟨rfl, p6, d6⟩
                  have P6 := Lib.hid p6.swap
                  replace d6 := d5.trans d6
                  clear p6 P5 d5
                  go_wp2_with fail
                  refine (pair_resize P6.out lo hlo).mono ?_; rintro e u7 ⟨rfl, p7, d7⟩
                  have P7 := Lib.hid p7
                  replace d7 := d6.trans d7
                  clear p7 P6 d6
                  go_wp2_with fail
                  refine (pair_len P7.out).mono ?_; rintro e u8 ⟨rfl, p8, d8⟩
                  have P8 := Lib.hid p8
                  replace d8 := d7.trans d8
                  clear p8 P7 d7
                  go_wp2_with fail
                  refine (pair_len P8.out.swap).mono ?_; rintro e u9 ⟨rfl, p9, d9⟩
                  have P9 := Lib.hid p9.swap
                  replace d9 := d8.trans d9
                  clear p9 P8 d8
                  go_wp2_with fail
                  refine (pair_size P9.out).mono ?_; rintro e u10 ⟨rfl, p10, d10⟩
                  have P10 := Lib.hid p10
                  replace d10 := d9.trans d10
                  clear p10 P9 d9
                  go_wp2_with fail
                  refine (pair_size P10.out.swap).mono ?_; rintro e u11 ⟨rfl, p11, d11⟩
                  have P11 := Lib.hid p11.swap
                  replace d11 := d10.trans d11
                  clear p11 P10 d10
                  go_wp2_with fail
                  refine (pair_size P11.out).mono ?_; rintro e u12 ⟨rfl, p12, d12⟩
                  have P12 := Lib.hid p12
                  replace d12 := d11.trans d12
                  clear p12 P11 d11
                  have hfx := (d12.block bf HBl.out).trans HBf.out
                  have f0 := cell_at hfx 0
                  have f1 := cell_at hfx 1
                  have f2 := cell_at hfx 2
                  clear hfx
                  go_wp2_with fail
                  refine (cost_any ⟨a2_0, a2_1, a2_2⟩ _ w2_0 w2_1).mono ?_; rintro e uc ⟨rfl, dc⟩
                  have PC := Lib.hid (P12.out.below dc).1
                  have DC := d12.trans (P12.out.below dc).2
                  clear f0 f1 f2 P12 dc d12
                  go_wp2_with fail
                  refine (pair_most PC.out).mono ?_; rintro e u13 ⟨rfl, p13, d13⟩
                  have P13 := Lib.hid p13
                  replace d13 := DC.trans d13
                  clear p13 PC DC
                  have hfx := (d13.block bf HBl.out).trans HBf.out
                  have f0 := cell_at hfx 0
                  have f1 := cell_at hfx 1
                  have f2 := cell_at hfx 2
                  clear hfx
                  by_cases hgr : lo < cost ⟨a2_0, a2_1, a2_2⟩
                  · have hgd : decide (lo < cost ⟨a2_0, a2_1, a2_2⟩) = true := decide_eq_true hgr
                    have hgd2 : decide (((lo : Nat) : Int) < (cost ⟨a2_0, a2_1, a2_2⟩ : Nat)) = true := decide_eq_true (by omega)
                    have HAd : Hid (addT lo (fit lo R) ⟨a2_0, a2_1, a2_2⟩ = []) := Lib.hid (by rw [addT, if_pos hgr])
                    clear hgr
                    go_wp2_with fail
                    refine (pair_add P13.out ⟨a2_0, a2_1, a2_2⟩ (by omega) w2_0 w2_1).mono ?_; rintro e u14 ⟨rfl, p14, d14⟩
                    have P14 := Lib.hid p14
                    replace d14 := d13.trans d14
                    clear p14 P13 d13
                    rw [HAd.out] at P14
                    clear f0 f1 f2
                    go_wp2_with fail
                    refine (pair_len P14.out).mono ?_; rintro e u15 ⟨rfl, p15, d15⟩
                    have P15 := Lib.hid p15
                    replace d15 := d14.trans d15
                    clear p15 P14 d14
                    go_wp2_with fail
                    refine (pair_size P15.out).mono ?_; rintro e u16 ⟨rfl, p16, d16⟩
                    have P16 := Lib.hid p16
                    replace d16 := d15.trans d16
                    clear p16 P15 d15
                    go_wp2_with fail
                    go_ret
                    exact ⟨rfl, below_step hb0 d16⟩
                  · have hgd : decide (lo < cost ⟨a2_0, a2_1, a2_2⟩) = false := decide_eq_false hgr
                    have hgd2 : decide (((lo : Nat) : Int) < (cost ⟨a2_0, a2_1, a2_2⟩ : Nat)) = false := decide_eq_false (by omega)
                    have HAt : Hid (atT (addT lo (fit lo R) ⟨a2_0, a2_1, a2_2⟩) 62 = (⟨a2_0, a2_1, false⟩, 0)) := Lib.hid (by rw [addT, if_neg hgr, atT, if_neg (by omega), if_neg (by simp; omega)]; rfl)
                    clear hgr
                    go_wp2_with fail
                    refine (pair_add P13.out ⟨a2_0, a2_1, a2_2⟩ (by omega) w2_0 w2_1).mono ?_; rintro e u17 ⟨rfl, p17, d17⟩
                    have P17 := Lib.hid p17
                    replace d17 := d13.trans d17
                    clear p17 P13 d13
                    clear f0 f1 f2
                    go_wp2_with fail
                    refine (pair_at P17.out 62 (by decide) ⟨a2_0, a2_1, false⟩ HAt.out).mono ?_; rintro e u18 ⟨rfl, p18, d18⟩
                    have P18 := Lib.hid p18
                    replace d18 := d17.trans d18
                    clear p18 P17 d17
                    have hfx := alloc_at (p := .cells #[.string a2_0, .string a2_1, .bool false] 36) ((d18.block bf HBl.out).trans HBf.out)
                    have f0 := cell_at hfx 0
                    have f1 := cell_at hfx 1
                    have hq0 := str_eq a2_0
                    have hq1 := str_eq a2_1
                    have hbz := below_step hb0 d18
                    clear hfx P18 d18
                    go_wp2_with fail
                    go_ret
                    exact ⟨rfl, hbz.alloc hbz.size _⟩
                · have hld1 : decide ((lo : Int) ≤ (csum R : Nat)) = false := decide_eq_false (by omega)
                  have hld2 : decide (lo ≤ csum R) = false := decide_eq_false hl1
                  clear hl0
                  have hfx := (d5.block bf HBl.out).trans HBf.out
                  have f0 := cell_at hfx 0
                  have f1 := cell_at hfx 1
                  have f2 := cell_at hfx 2
                  clear hfx
                  go_wp2_with fail
                  refine (cost_any ⟨a2_0, a2_1, a2_2⟩ _ w2_0 w2_1).mono ?_; rintro e uc ⟨rfl, dc⟩
                  have PC := Lib.hid (P5.out.below dc).1
                  have DC := d5.trans (P5.out.below dc).2
                  clear f0 f1 f2 P5 dc d5
                  go_wp2_with fail
                  refine (pair_most PC.out).mono ?_; rintro e u19 ⟨rfl, p19, d19⟩
                  have P19 := Lib.hid p19
                  replace d19 := DC.trans d19
                  clear p19 PC DC
                  have hfx := (d19.block bf HBl.out).trans HBf.out
                  have f0 := cell_at hfx 0
                  have f1 := cell_at hfx 1
                  have f2 := cell_at hfx 2
                  clear hfx
                  by_cases hgr : (csum R) < cost ⟨a2_0, a2_1, a2_2⟩
                  · have hgd : decide ((csum R) < cost ⟨a2_0, a2_1, a2_2⟩) = true := decide_eq_true hgr
                    have hgd2 : decide ((((csum R) : Nat) : Int) < (cost ⟨a2_0, a2_1, a2_2⟩ : Nat)) = true := decide_eq_true (by omega)
                    have HAd : Hid (addT (csum R) R ⟨a2_0, a2_1, a2_2⟩ = []) := Lib.hid (by rw [addT, if_pos hgr])
                    clear hgr
                    go_wp2_with fail
                    refine (pair_add P19.out ⟨a2_0, a2_1, a2_2⟩ (by omega) w2_0 w2_1).mono ?_; rintro e u20 ⟨rfl, p20, d20⟩
                    have P20 := Lib.hid p20
                    replace d20 := d19.trans d20
                    clear p20 P19 d19
                    rw [HAd.out] at P20
                    clear f0 f1 f2
                    go_wp2_with fail
                    refine (pair_len P20.out).mono ?_; rintro e u21 ⟨rfl, p21, d21⟩
                    have P21 := Lib.hid p21
                    replace d21 := d20.trans d21
                    clear p21 P20 d20
                    go_wp2_with fail
                    refine (pair_size P21.out).mono ?_; rintro e u22 ⟨rfl, p22, d22⟩
                    have P22 := Lib.hid p22
                    replace d22 := d21.trans d22
                    clear p22 P21 d21
                    go_wp2_with fail
                    go_ret
                    exact ⟨rfl, below_step hb0 d22⟩
                  · have hgd : decide ((csum R) < cost ⟨a2_0, a2_1, a2_2⟩) = false := decide_eq_false hgr
                    have hgd2 : decide ((((csum R) : Nat) : Int) < (cost ⟨a2_0, a2_1, a2_2⟩ : Nat)) = false := decide_eq_false (by omega)
                    have HAt : Hid (atT (addT (csum R) R ⟨a2_0, a2_1, a2_2⟩) 62 = (⟨a2_0, a2_1, false⟩, 0)) := Lib.hid (by rw [addT, if_neg hgr, atT, if_neg (by omega), if_neg (by simp; omega)]; rfl)
                    clear hgr
                    go_wp2_with fail
                    refine (pair_add P19.out ⟨a2_0, a2_1, a2_2⟩ (by omega) w2_0 w2_1).mono ?_; rintro e u23 ⟨rfl, p23, d23⟩
                    have P23 := Lib.hid p23
                    replace d23 := d19.trans d23
                    clear p23 P19 d19
                    clear f0 f1 f2
                    go_wp2_with fail
                    refine (pair_at P23.out 62 (by decide) ⟨a2_0, a2_1, false⟩ HAt.out).mono ?_; rintro e u24 ⟨rfl, p24, d24⟩
                    have P24 := Lib.hid p24
                    replace d24 := d23.trans d24
                    clear p24 P23 d23
                    have hfx := alloc_at (p := .cells #[.string a2_0, .string a2_1, .bool false] 36) ((d24.block bf HBl.out).trans HBf.out)
                    have f0 := cell_at hfx 0
                    have f1 := cell_at hfx 1
                    have hq0 := str_eq a2_0
                    have hq1 := str_eq a2_1
                    have hbz := below_step hb0 d24
                    clear hfx P24 d24
                    go_wp2_with fail
                    go_ret
                    exact ⟨rfl, hbz.alloc hbz.size _⟩
              · have hld0 : decide (0 ≤ a1) = false := decide_eq_false hl0
                have hfx := (d5.block bf HBl.out).trans HBf.out
                have f0 := cell_at hfx 0
                have f1 := cell_at hfx 1
                have f2 := cell_at hfx 2
                clear hfx
                go_wp2_with fail
                refine (cost_any ⟨a2_0, a2_1, a2_2⟩ _ w2_0 w2_1).mono ?_; rintro e uc ⟨rfl, dc⟩
                have PC := Lib.hid (P5.out.below dc).1
                have DC := d5.trans (P5.out.below dc).2
                clear f0 f1 f2 P5 dc d5
                go_wp2_with fail
                refine (pair_most PC.out).mono ?_; rintro e u25 ⟨rfl, p25, d25⟩
                have P25 := Lib.hid p25
                replace d25 := DC.trans d25
                clear p25 PC DC
                have hfx := (d25.block bf HBl.out).trans HBf.out
                have f0 := cell_at hfx 0
                have f1 := cell_at hfx 1
                have f2 := cell_at hfx 2
                clear hfx
                by_cases hgr : (csum R) < cost ⟨a2_0, a2_1, a2_2⟩
                · have hgd : decide ((csum R) < cost ⟨a2_0, a2_1, a2_2⟩) = true := decide_eq_true hgr
                  have hgd2 : decide ((((csum R) : Nat) : Int) < (cost ⟨a2_0, a2_1, a2_2⟩ : Nat)) = true := decide_eq_true (by omega)
                  have HAd : Hid (addT (csum R) R ⟨a2_0, a2_1, a2_2⟩ = []) := Lib.hid (by rw [addT, if_pos hgr])
                  clear hgr
                  go_wp2_with fail
                  refine (pair_add P25.out ⟨a2_0, a2_1, a2_2⟩ (by omega) w2_0 w2_1).mono ?_; rintro e u26 ⟨rfl, p26, d26⟩
                  have P26 := Lib.hid p26
                  replace d26 := d25.trans d26
                  clear p26 P25 d25
                  rw [HAd.out] at P26
                  clear f0 f1 f2
                  go_wp2_with fail
                  refine (pair_len P26.out).mono ?_; rintro e u27 ⟨rfl, p27, d27⟩
                  have P27 := Lib.hid p27
                  replace d27 := d26.trans d27
                  clear p27 P26 d26
                  go_wp2_with fail
                  refine (pair_size P27.out).mono ?_; rintro e u28 ⟨rfl, p28, d28⟩
                  have P28 := Lib.hid p28
                  replace d28 := d27.trans d28
                  clear p28 P27 d27
                  go_wp2_with fail
                  go_ret
                  exact ⟨rfl, below_step hb0 d28⟩
                · have hgd : decide ((csum R) < cost ⟨a2_0, a2_1, a2_2⟩) = false := decide_eq_false hgr
                  have hgd2 : decide ((((csum R) : Nat) : Int) < (cost ⟨a2_0, a2_1, a2_2⟩ : Nat)) = false := decide_eq_false (by omega)
                  have HAt : Hid (atT (addT (csum R) R ⟨a2_0, a2_1, a2_2⟩) 62 = (⟨a2_0, a2_1, false⟩, 0)) := Lib.hid (by rw [addT, if_neg hgr, atT, if_neg (by omega), if_neg (by simp; omega)]; rfl)
                  clear hgr
                  go_wp2_with fail
                  refine (pair_add P25.out ⟨a2_0, a2_1, a2_2⟩ (by omega) w2_0 w2_1).mono ?_; rintro e u29 ⟨rfl, p29, d29⟩
                  have P29 := Lib.hid p29
                  replace d29 := d25.trans d29
                  clear p29 P25 d25
                  clear f0 f1 f2
                  go_wp2_with fail
                  refine (pair_at P29.out 62 (by decide) ⟨a2_0, a2_1, false⟩ HAt.out).mono ?_; rintro e u30 ⟨rfl, p30, d30⟩
                  have P30 := Lib.hid p30
                  replace d30 := d29.trans d30
                  clear p30 P29 d29
                  have hfx := alloc_at (p := .cells #[.string a2_0, .string a2_1, .bool false] 36) ((d30.block bf HBl.out).trans HBf.out)
                  have f0 := cell_at hfx 0
                  have f1 := cell_at hfx 1
                  have hq0 := str_eq a2_0
                  have hq1 := str_eq a2_1
                  have hbz := below_step hb0 d30
                  clear hfx P30 d30
                  go_wp2_with fail
                  go_ret
                  exact ⟨rfl, hbz.alloc hbz.size _⟩

set_option maxRecDepth 100000 in
theorem lifted (os : Os) (started : os.Started) (H : Type) (enc : TypeId × Value → H) :
    ReturnsInHanded {} Try.checked os 6 .any (Rows.tableAlikeSpec.pre6 enc Try.prog Try.f6 Rows.tableAlikeRow.domain false) (Rows.tableAlikeSpec.post enc Try.prog Try.f6 false true false false) := by
  refine returnsInHanded_of_change_sized (C := Try.checked) own started (by kernel_rfl) Try.func6
    (ChangeSpec.witness6 (enc := enc) (C := Try.checked) false ⟨#[], #[.slice none 0 0, .int .i64 0, .agg #[.string ByteArray.empty, .string ByteArray.empty, .bool false]], []⟩ 8 (by kernel_rfl) (by kernel_rfl) (by kernel_rfl) (by kernel_rfl)) ?_
  intro W base args ds gs before hval0 hW hcnd hsz0 _
  have hsz : (DataW.weightsEach Try.prog (Try.f6.params.toList ++ Rows.tableAlikeSpec.plain.varTypes Try.prog) (ds ++ gs)).all (· ≤ reachBytes) = true := hsz0
  have hval : ∀ (j : Nat) t v, Try.f6.params[j]? = some t → args[j]? = some v → Value.okWide Try.prog W .any base t v := hval0
  have hW' := hW
  obtain ⟨p, q, hA0, hV, rfl, hfz, hnd⟩ := hW
  have hA : DataW.TrodAll enc Try.prog W 0 (fun _ => true) true Try.f6.params.toList args.toList ds p := hA0
  rw [Try.params6] at hA hval hsz
  obtain ⟨v0, vs0, d0, ds0, p0, q0, hargs, rfl, rfl, h0, t0⟩ := trodAll_cons hA
  obtain ⟨v1, vs1, d1, ds1, p1, q1, rfl, rfl, rfl, h1, t1⟩ := trodAll_cons t0
  obtain ⟨v2, vs2, d2, ds2, p2, q2, rfl, rfl, rfl, h2, t2⟩ := trodAll_cons t1
  obtain ⟨rfl, rfl, rfl⟩ := trodAll_nil t2
  obtain rfl : args = #[v0, v1, v2] := by cases args; simp_all
  obtain ⟨rfl, rfl⟩ := trodVars_none hV
  have k0 := h0
  have lt0 : ∀ x ∈ p0, x.block < W.heap.size := by obtain ⟨m, hm⟩ := k0; exact DataW.trod_lt m _ _ _ hm
  obtain ⟨a0, len0, cap0, rfl⟩ := okWide_slice Try.underlying22 (hval 0 22 v0 rfl rfl)
  obtain ⟨fuel0, hf0⟩ := h0
  have ok0 : Arg.AllOk W [.slc 56 [.int .i64, .str, .str, .bool, .int .i64]] [.slice a0 len0 cap0] := Arg.trod_leaves 9 22 [.slc 56 [.int .i64, .str, .str, .bool, .int .i64]] (by kernel_rfl) hf0 (Arg.sized hsz (j := 0) (t := 22) rfl rfl)
  obtain ⟨aa0, ll0, cc0, hv0, r0, w0⟩ := Arg.LeafOk.slc ok0.1
  simp only [Value.slice.injEq] at hv0
  obtain ⟨rfl, rfl, rfl⟩ := hv0
  have k1 := h1
  have lt1 : ∀ x ∈ p1, x.block < W.heap.size := by obtain ⟨m, hm⟩ := k1; exact DataW.trod_lt m _ _ _ hm
  obtain ⟨a1, rfl, rfl, rfl, w1⟩ := open_int Try.underlying3 (hval 1 3 v1 rfl rfl) h1
  have k2 := h2
  have lt2 : ∀ x ∈ p2, x.block < W.heap.size := by obtain ⟨m, hm⟩ := k2; exact DataW.trod_lt m _ _ _ hm
  obtain ⟨cs2, rfl, hcs2⟩ := okWide_struct Try.underlying36 (hval 2 36 v2 rfl rfl)
  obtain ⟨cs2⟩ := cs2
  obtain ⟨fuel2, hf2⟩ := h2
  have ok2 : Arg.AllOk W [.str, .str, .bool] cs2 := Arg.trod_leaves 9 36 [.str, .str, .bool] (by kernel_rfl) hf2 (Arg.sized hsz (j := 2) (t := 36) rfl rfl)
  obtain ⟨u2_0, q2_0, rfl, l2_0, ok2_0⟩ := Arg.AllOk.cons ok2
  obtain ⟨a2_0, rfl, w2_0⟩ := Arg.LeafOk.str l2_0
  obtain ⟨u2_1, q2_1, rfl, l2_1, ok2_1⟩ := Arg.AllOk.cons ok2_0
  obtain ⟨a2_1, rfl, w2_1⟩ := Arg.LeafOk.str l2_1
  obtain ⟨u2_2, q2_2, rfl, l2_2, ok2_2⟩ := Arg.AllOk.cons ok2_1
  obtain ⟨a2_2, rfl⟩ := Arg.LeafOk.bool l2_2
  obtain rfl := Arg.AllOk.nil ok2_2
  clear hA0 hval0 hsz0
  refine (walk a0 len0 cap0 a1 a2_0 a2_1 a2_2 W w0 r0 w1 w2_0 w2_1).mono fun e W' ⟨he, bel⟩ => ?_
  subst he
  exact ⟨_, rfl, _, _, _, [], _, [], hW', trodAll_mk1 (shut_bool Try.underlying4 _), (trodAll_cons_mk (Below.trod laidOut (by kernel_rfl) (of_decide_eq_true (by kernel_rfl)) k0 bel lt0) (trodAll_cons_mk (Below.trod laidOut (by kernel_rfl) (of_decide_eq_true (by kernel_rfl)) k1 bel lt1) (trodAll_cons_mk (Below.trod laidOut (by kernel_rfl) (of_decide_eq_true (by kernel_rfl)) k2 bel lt2) trodAll_mk0))), rfl, bel.frame _, fun h => by cases h⟩

theorem over : Rows.tableAlikeRow.holds Try.pinned (OpenSpec.ofChange Rows.tableAlikeSpec) :=
  OpenClaim.holds_of_wide 6 Try.f6 rfl rfl rfl rfl rfl rfl rfl ⟨rfl, rfl, rfl, rfl, rfl⟩ rfl rfl rfl rfl rfl (by kernel_rfl) Try.func6 (by kernel_rfl)
    (of_decide_eq_true (by kernel_rfl)) (by unfold Func.isWrapper; first | (rw [if_pos (by decide +kernel)]; kernel_rfl) | (rw [if_neg (by decide +kernel)]; exact ⟨rfl, rfl⟩))
    (fun os started H enc _ => lifted os started H enc)

theorem proved : Rows.TableAlikeSaid := over
end Go.Proofs.Ytifaecmmnconpaa.tableAlike
