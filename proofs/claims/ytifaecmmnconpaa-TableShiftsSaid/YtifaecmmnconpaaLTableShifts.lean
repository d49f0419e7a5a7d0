/-
  TableShifts holds for every script and every field: a row that has room beside all others moves each of them on by one, and none goes; no conditions.
-/
import Derived.Test.YtifaecmmnconpaaRows
import Derived.WalkKit
import Derived.ProofKit
import Derived.OpenShut
import Derived.ShutString
import Derived.SizedLaws
import Derived.Test.YtifaecmmnconpaaMem
import Derived.Lib.SmallJoins
import Derived.Test.YtifaecmmnconpaaArg
import Derived.Test.YtifaecmmnconpaaObj
import Derived.Test.YtifaecmmnconpaaRowE
import Derived.Test.YtifaecmmnconpaaTabPure
import Derived.Test.YtifaecmmnconpaaTab1
import Derived.Test.YtifaecmmnconpaaTab2
import Derived.Test.YtifaecmmnconpaaTab4
import Derived.Test.YtifaecmmnconpaaTab5
import Derived.Test.YtifaecmmnconpaaTab6
import Derived.Test.YtifaecmmnconpaaTabP
import Derived.Test.YtifaecmmnconpaaTab7
import Derived.RegionTactic
import Derived.Deep.Cut
import Derived.IntWalk
import Derived.BigQuiet
import Derived.Deep.QuietTactic
import Derived.Deep.RegionHeld3
import Derived.Laws.StructEq
namespace Go.Proofs.Ytifaecmmnconpaa.tableShifts
open Go.ChangeShapes Go.WideShapes Go.ChangeAt Go.RowKit
open Go.Proofs.Ytifaecmmnconpaa Tab Mem Go.Proofs.Ytifaecmmnconpaa.Obj
open Go.ChangeMaps (open_string shut_string)
open Go.Joins
set_option linter.unusedVariables false

theorem own : ownKnob Try.prog.godebug = none := by kernel_rfl
theorem laidOut : laidOutB Try.prog = true := by kernel_rfl

set_option maxRecDepth 100000 in
set_option maxHeartbeats 2000000 in
theorem walk (a0 : Option Addr) (len0 cap0 : Nat) (a1_0 : ByteArray) (a1_1 : ByteArray) (a1_2 : Bool) (w : World) (w0 : Arg.Slc w [.int .i64, .str, .str, .bool, .int .i64] a0 len0 cap0) (r0 : cap0 * 56 ≤ 140737488351232) (w1_0 : a1_0.size ≤ 140737488351232) (w1_1 : a1_1.size ≤ 140737488351232) :
    Calls Try.prog 7 #[.slice a0 len0 cap0, .agg #[.string a1_0, .string a1_1, .bool a1_2]] w fun e w' => e = .returned (.bool true) ∧ Below w.heap.size w w' := by
  obtain ⟨l, hl, hr, hok, hlc, hcm⟩ := script_of w0
  have HRw := Lib.hid hr
  have HL := Lib.hid hl
  have HOk := Lib.hid hok
  have HC := Lib.hid hcm
  clear hr hl hok w0
  obtain ⟨i0, hi, hz0, hz1, hz2⟩ := info_parts info_fd
  have HI := Lib.hid hi
  have HZ0 := Lib.hid hz0
  have HZ1 := Lib.hid hz1
  have HZ2 := Lib.hid hz2
  clear hi hz0 hz1 hz2
  obtain ⟨bw, hbw⟩ : ∃ bw, fewF (l.take 120) 0 = bw := ⟨_, rfl⟩
  have HFe : Hid (∀ v, Below w.heap.size w v → Calls Try.prog 9 #[.slice a0 len0 cap0] v fun e w' => e = .returned (.bool bw) ∧ Below v.heap.size v w') := Lib.hid (fun v hv => by
    have h := few_any a0 len0 cap0 l v HL.out hlc HC.out (HRw.out.below hv) HOk.out
    rwa [hbw] at h)
  clear hbw
  cases bw with
  | false =>
    go_enter Try.func7, Try.ntmps7
    go_wp2_with fail
    have hbx := heap_alloc_new w (.cells #[.string a1_0, .string a1_1, .bool a1_2] 36)
    have hb0 : Below w.heap.size w (w.alloc (.cells #[.string a1_0, .string a1_1, .bool a1_2] 36)) := (Below.refl _ _).alloc (Nat.le_refl _) _
    generalize w.alloc (.cells #[.string a1_0, .string a1_1, .bool a1_2] 36) = v0 at hbx hb0 ⊢
    generalize w.heap.size = bf at hbx ⊢
    have HBf := Lib.hid hbx
    have HBl := Lib.hid (Array.getElem?_eq_some_iff.1 hbx).1
    clear hbx
    refine (awake_any _).mono ?_; rintro e v1 ⟨rfl, b1⟩
    go_wp2_with fail
    refine (HFe.out _ (below_step hb0 b1)).mono ?_; rintro e v2 ⟨rfl, b2⟩
    replace b2 := below_step b1 b2
    have hf2 := (b2.block bf HBl.out).trans HBf.out
    have f0 := cell_at hf2 0
    have f1 := cell_at hf2 1
    clear b1 hf2
    go_wp2_with fail
    go_ret
    exact ⟨rfl, below_step hb0 b2⟩
  | true =>
    by_cases hs1 : 65536 < a1_0.size + a1_1.size
    · have hd1 : decide ((65536 : Int) < (a1_0.size : Int) + (a1_1.size : Int)) = true := decide_eq_true (by omega)
      go_enter Try.func7, Try.ntmps7
      go_wp2_with fail
      have hbx := heap_alloc_new w (.cells #[.string a1_0, .string a1_1, .bool a1_2] 36)
      have hb0 : Below w.heap.size w (w.alloc (.cells #[.string a1_0, .string a1_1, .bool a1_2] 36)) := (Below.refl _ _).alloc (Nat.le_refl _) _
      generalize w.alloc (.cells #[.string a1_0, .string a1_1, .bool a1_2] 36) = v0 at hbx hb0 ⊢
      generalize w.heap.size = bf at hbx ⊢
      have HBf := Lib.hid hbx
      have HBl := Lib.hid (Array.getElem?_eq_some_iff.1 hbx).1
      clear hbx
      refine (awake_any _).mono ?_; rintro e v1 ⟨rfl, b1⟩
      go_wp2_with fail
      refine (HFe.out _ (below_step hb0 b1)).mono ?_; rintro e v2 ⟨rfl, b2⟩
      replace b2 := below_step b1 b2
      have hf2 := (b2.block bf HBl.out).trans HBf.out
      have f0 := cell_at hf2 0
      have f1 := cell_at hf2 1
      clear b1 hf2
      go_wp2_with fail
      go_ret
      exact ⟨rfl, below_step hb0 b2⟩
    · have hd1 : decide ((65536 : Int) < (a1_0.size : Int) + (a1_1.size : Int)) = false := decide_eq_false (by omega)
      go_enter Try.func7, Try.ntmps7
      go_wp2_with fail
      have hbx := heap_alloc_new w (.cells #[.string a1_0, .string a1_1, .bool a1_2] 36)
      have hb0 : Below w.heap.size w (w.alloc (.cells #[.string a1_0, .string a1_1, .bool a1_2] 36)) := (Below.refl _ _).alloc (Nat.le_refl _) _
      generalize w.alloc (.cells #[.string a1_0, .string a1_1, .bool a1_2] 36) = v0 at hbx hb0 ⊢
      generalize w.heap.size = bf at hbx ⊢
      have HBf := Lib.hid hbx
      have HBl := Lib.hid (Array.getElem?_eq_some_iff.1 hbx).1
      clear hbx
      refine (awake_any _).mono ?_; rintro e v1 ⟨rfl, b1⟩
      go_wp2_with fail
      refine (HFe.out _ (below_step hb0 b1)).mono ?_; rintro e v2 ⟨rfl, b2⟩
      replace b2 := below_step b1 b2
      have hf2 := (b2.block bf HBl.out).trans HBf.out
      have f0 := cell_at hf2 0
      have f1 := cell_at hf2 1
      clear b1 hf2
      go_wp2_with fail
      refine (pnew_ok 8192 _ (by decide)).mono ?_; rintro e v3 ⟨g, L1, rfl, T1, b3, l1⟩
      have HT1 := Lib.hid T1
      have HL1 := Lib.hid l1
      have HS2 := Lib.hid b2.size
      replace b3 := below_step b2 b3
      clear T1 l1 b2 f0 f1
      go_wp2_with fail
      have hgr := heap_alloc_new v3 (.cells #[.int .i64 8192, .slice none 0 0] 32)
      have hb4 : Below v3.heap.size v3 (v3.alloc (.cells #[.int .i64 8192, .slice none 0 0] 32)) := (Below.refl _ _).alloc (Nat.le_refl _) _
      generalize v3.alloc (.cells #[.int .i64 8192, .slice none 0 0] 32) = v4 at hgr hb4 ⊢
      have hw3 := b3.size
      have hT : Two v4 v0.heap.size g v3.heap.size 8192 [] 0 := by
        refine ⟨L1, [v3.heap.size], HT1.out.kept hb4.size (fun k hk => hb4.block k (HT1.out.blocks k hk)), ⟨none, 0, List.mem_cons_self .., hgr, Nat.le_refl _, by unfold maxLen; omega, fun _ => rfl, (fun b o s e => by cases e), .inl rfl, fun k hk => ?_⟩, fun k hk hm => ?_, fun k hk => Nat.le_trans HS2.out (HL1.out k hk), fun k hk => ?_⟩
        · simp only [List.mem_singleton] at hk
          subst hk
          exact (Array.getElem?_eq_some_iff.1 hgr).1
        · simp only [List.mem_singleton] at hm
          subst hm
          exact Nat.lt_irrefl _ (HT1.out.blocks _ hk)
        · simp only [List.mem_singleton] at hk
          subst hk; exact hw3
      have b4 := below_step b3 hb4
      generalize v3.heap.size = gr at hT ⊢
      have HT := Lib.hid hT
      clear hgr hb4 hw3 hT b3 HT1 HL1 HS2
      refine (play_any v0.heap.size g gr 8192 0 [] a0 len0 cap0 l v4 b4.size HT.out (by omega) HL.out hlc HC.out (fun v hv => HRw.out.below (below_step hb0 (b4.trans hv))) HOk.out).mono ?_; rintro e v5 ⟨rfl, ⟨c5, hc5, T5⟩, b5⟩
      replace b5 := b4.trans b5
      have hnv := playM_never (l.take 120) (8192, []) (fun x hx => by cases hx)
      generalize playM (l.take 120) (8192, []) = S at T5 hnv
      obtain ⟨m5, rows⟩ := S
      simp only at T5 hnv
      have HNv := Lib.hid hnv
      obtain ⟨Lt, Lr, ht, hr, hd1', hd2, hd3⟩ := T5
      have hsm := ht.sum
      have h32 := csum_len rows
      have HPt := Lib.hid ht
      have HD2 := Lib.hid hd2
      have HPk : Hid (∀ v, Below v5.heap.size v5 v → PTab v Lt g m5 rows c5) := Lib.hid (fun v hv => HPt.out.kept hv.size (fun k hk => hv.block k (HPt.out.blocks k hk)))
      have HBf5 := Lib.hid ((b5.block bf HBl.out).trans HBf.out)
      have b5w := below_step hb0 b5
      clear ht hr hd1' hd2 hd3 b4 HT hnv
      generalize hrl : rows.length = nr at *
      have HRl := Lib.hid hrl
      clear hrl
      have hnr : nr ≤ 2048 := by omega
      have HLn := Lib.hid (fun v (hv : Below v5.heap.size v5 v) => plen_any Lt g m5 c5 rows v (HPk.out v hv))
      rw [HRl.out] at HLn
      go_wp2_with fail
      go_loopw [8, 9] (fun vo vi wr => ∃ (k : Nat) (ad : Option Addr) (cp : Nat), k ≤ nr ∧ vi = .int .i64 k ∧ vo = .slice ad k cp ∧ Hid (wr.ownsRow v5.heap.size 36 3 (.slice ad k cp) k (Rw.flat EFd (rows.take k))) ∧ Below v5.heap.size v5 wr) (fun _ vi _ => nr - (intOf vi).toNat)
      case atStart => exact ⟨0, none, 0, by omega, rfl, rfl, Lib.hid ⟨rfl, Or.inl ⟨rfl, rfl⟩⟩, Below.refl _ _⟩
      case round =>
        obtain ⟨k, ad, cp, hk, rfl, rfl, HO, hbel⟩ := hrel
        by_cases hlt : k < nr
        · have hlt' : (k : Int) < nr := by omega
          have hlr : k < rows.length := by rw [HRl.out]; exact hlt
          have hat : atT rows ((62 : Int) + k) = (rows[k], 0) := by
            have := atT_all rows (62 + k) rows[k] (by omega) (by rw [List.getElem?_append_right (by rw [statics_len]; omega), statics_len, show 62 + k - 1 - 61 = k from by omega, List.getElem?_eq_getElem hlr])
            exact this
          have HAt := Lib.hid (fun v (hv : Below v5.heap.size v5 v) => pat_any Lt g m5 c5 rows ((62 : Int) + k) v (HPk.out v hv) (WalkArith.wf_i64 (by omega)))
          rw [hat] at HAt
          have htk : rows.take (k + 1) = rows.take k ++ [rows[k]] := List.take_succ_eq_append_getElem hlr
          have HTk := Lib.hid htk
          generalize rows[k] = x at HAt HTk
          obtain ⟨xn, xv, xb⟩ := x
          simp only at HAt
          clear hat htk
          go_wp2_with fail
          refine (HLn.out _ hbel).mono ?_; rintro e w1 ⟨rfl, d1⟩
          have HO1 := Lib.hid (own_keep HO.out d1)
          replace d1 := hbel.trans (d1.mono hbel.size)
          clear hbel HO
          go_wp2_with fail
          refine (HAt.out _ d1).mono ?_; rintro e w2 ⟨rfl, d2⟩
          have HO2 := Lib.hid (own_keep HO1.out d2)
          replace d2 := d1.trans (d2.mono d1.size)
          clear d1 HO1
          go_upto_region 14 with (fail)
          have hbx := heap_alloc_new w2 (.cells #[.string xn, .string xv, .bool xb] 36)
          have hb8 : Below w2.heap.size w2 (w2.alloc (.cells #[.string xn, .string xv, .bool xb] 36)) := (Below.refl _ _).alloc (Nat.le_refl _) _
          generalize w2.alloc (.cells #[.string xn, .string xv, .bool xb] 36) = w3 at hbx hb8 ⊢
          have HO3 := Lib.hid (own_keep HO2.out hb8)
          have d3 := d2.trans (hb8.mono d2.size)
          generalize w2.heap.size = by' at hbx ⊢
          have z0 := cell_at hbx 0
          have z1 := cell_at hbx 1
          have z2 := cell_at hbx 2
          have HLit : Hid (Rw.RowE EFd (w3.alloc (.cells #[.string xn, .string xv, .bool xb] 36)) (some ⟨w3.heap.size, 0, none⟩) [⟨xn, xv, xb⟩]) := Lib.hid (Rw.RowE.of_own (n := 1) (cap := 1) (base := w3.heap.size) (e := 36) (World.ownsRow_lit (base := w3.heap.size) (e := 36) (size := 3) w3 #[.string xn, .string xv, .bool xb] 1 (Nat.le_refl _) (by unfold maxLen; omega) rfl))
          have HTl : Hid (k = (rows.take k).length) := Lib.hid (by rw [List.length_take, HRl.out]; omega)
          have HB3 : Hid (v5.heap.size ≤ (w3.alloc (.cells #[.string xn, .string xv, .bool xb] 36)).heap.size) := Lib.hid (by have := d3.size; simp; omega)
          have HLe : Hid (k + 1 ≤ maxLen ∧ (k + 1) * 40 ≤ 140737488355328) := Lib.hid ⟨by unfold maxLen; omega, by omega⟩
          have hdd := d3.alloc d3.size (.cells #[.string xn, .string xv, .bool xb] 36)
          have HDd := Lib.hid hdd
          clear hbx hb8 d2 HO2 hdd
          go_wp2_with (at_builtin; refine Rw.list_append_rows EFd Try.underlying30 HI.out HZ0.out HZ1.out HZ2.out rfl rfl (.tmp 67) (.tmp 69) rfl v5.heap.size (.slice ad k cp) k (rows.take k) rfl HTl.out (HO3.out.alloc _) (some ⟨w3.heap.size, 0, none⟩) 1 [⟨xn, xv, xb⟩] 1 rfl rfl (by intro h; cases h) HLit.out HLe.out.1 HLe.out.2 HB3.out ?_; intro ad4 cap4 w4 hown4 hg4)
          have HO4 : Hid (w4.ownsRow v5.heap.size 36 3 (.slice ad4 (k + 1) cap4) (k + 1) (Rw.flat EFd (rows.take (k + 1)))) := Lib.hid (by rw [HTk.out]; exact hown4.out)
          have d4 : Below v5.heap.size v5 w4 := HDd.out.grown hg4.out HB3.out (fun k' hk' => by
            cases ad with
            | none => cases hk'
            | some a =>
              simp only [Value.ownBlock, Option.some.injEq] at hk'
              subst hk'
              exact (Rw.own_blk HO3.out a.block a.off a.spot rfl).1)
          clear hown4 hg4 z0 z1 z2 HDd HLe HB3 HTl HLit d3
          go_roundw
          case rel => exact ⟨k + 1, ad4, cap4, by omega, by go_num, rfl, HO4, d4⟩
          case measure => simp [intOf]; omega
        · have hkn : k = nr := by omega
          subst hkn
          have hlt' : ¬ (k : Int) < k := by omega
          clear hlt
          go_wp2_with fail
          refine (HLn.out _ hbel).mono ?_; rintro e w1 ⟨rfl, d1⟩
          have HO1 := Lib.hid (own_keep HO.out d1)
          replace d1 := hbel.trans (d1.mono hbel.size)
          clear hbel HO HLn
          go_wp2_with fail
          have HOl : Hid (Rw.RowE EFd w1 ad rows) := Lib.hid (by
            have h := HO1.out
            rw [List.take_of_length_le (by rw [HRl.out]; omega)] at h
            refine Rw.RowE.of_own (n := k) (cap := cp) (base := v5.heap.size) (e := 36) ?_
            rw [HRl.out]; exact h)
          have HOb := Lib.hid (fun b o s e => Rw.own_blk HO1.out b o s e)
          have hcp : k ≤ cp := (Rw.own_len HO1.out).2.1
          have HPw : Hid (∀ v, Below w1.heap.size w1 v → PTab v Lt g m5 rows c5) := Lib.hid (fun v hv => HPk.out v (d1.trans (hv.mono d1.size)))
          have HBf1 := Lib.hid ((d1.block bf (Array.getElem?_eq_some_iff.1 HBf5.out).1).trans HBf5.out)
          have b1w := b5w.trans (d1.mono b5w.size)
          clear HO1 HPk HBf5 b5w
          have hcst : Hid ((cost ⟨a1_0, a1_1, a1_2⟩ : Nat) = a1_0.size + a1_1.size + 32) := Lib.hid rfl
          have HM := Lib.hid (fun v hv => pmost_any Lt g m5 c5 rows v (HPw.out v hv))
          have HSz := Lib.hid (fun v hv => psize_any Lt g m5 c5 rows v (HPw.out v hv))
          have HCo := Lib.hid (fun v => cost_any ⟨a1_0, a1_1, a1_2⟩ v w1_0 w1_1)
          obtain ⟨cf, hcf⟩ : ∃ cf, cost ⟨a1_0, a1_1, a1_2⟩ = cf := ⟨_, rfl⟩
          rw [hcf] at HCo hcst
          have HCf := Lib.hid hcf
          have hcb : cf ≤ 65568 := by have := hcst.out; omega
          have hsub : IntKind.i64.wrap ((m5 : Int) - cf) = (m5 : Int) - cf := IntWalk.i64_in _ (by omega)
          have f0 := cell_at HBf1.out 0
          have f1 := cell_at HBf1.out 1
          have f2 := cell_at HBf1.out 2
          have hb : Below w1.heap.size w1 w1.drew := (Below.refl _ _).drew
          clear hcf
          by_cases hbig : m5 < csum rows + cf
          · have hdc : decide ((m5 : Int) - cf < (csum rows : Nat)) = true := decide_eq_true (by omega)
            go_region_held3 (fun w' => w'.cell? ⟨bf, 0, none⟩ = some (.string a1_0) ∧ w'.cell? ⟨bf, 1, none⟩ = some (.string a1_1) ∧ w'.cell? ⟨bf, 2, none⟩ = some (.bool a1_2))
              (first | go_keep | exact ⟨below_cell hb f0, below_cell hb f1, below_cell hb f2⟩)
              ((first | (go_at_call 12; refine (HM.out _ hb).mono ?_; rintro e x ⟨rfl, bx⟩; replace hb := hb.trans (bx.mono hb.size); clear bx)
                      | (go_at_call 13; refine (HSz.out _ hb).mono ?_; rintro e x ⟨rfl, bx⟩; replace hb := hb.trans (bx.mono hb.size); clear bx)
                      | (go_at_call 22; refine (HCo.out _).mono ?_; rintro e x ⟨rfl, bx⟩; replace hb := hb.trans (bx.mono hb.size); clear bx)))
            have hbz := b1w.trans (hb.mono b1w.size)
            clear hb
            go_wp2_with fail
            go_ret
            exact ⟨rfl, hbz⟩
          · have hdc : decide ((m5 : Int) - cf < (csum rows : Nat)) = false := decide_eq_false (by omega)
            go_region_held3 (fun w' => w'.cell? ⟨bf, 0, none⟩ = some (.string a1_0) ∧ w'.cell? ⟨bf, 1, none⟩ = some (.string a1_1) ∧ w'.cell? ⟨bf, 2, none⟩ = some (.bool a1_2))
              (first | go_keep | exact ⟨below_cell hb f0, below_cell hb f1, below_cell hb f2⟩)
              ((first | (go_at_call 12; refine (HM.out _ hb).mono ?_; rintro e x ⟨rfl, bx⟩; replace hb := hb.trans (bx.mono hb.size); clear bx)
                      | (go_at_call 13; refine (HSz.out _ hb).mono ?_; rintro e x ⟨rfl, bx⟩; replace hb := hb.trans (bx.mono hb.size); clear bx)
                      | (go_at_call 22; refine (HCo.out _).mono ?_; rintro e x ⟨rfl, bx⟩; replace hb := hb.trans (bx.mono hb.size); clear bx)))
            have HB2 := Lib.hid hb
            have HF0 := Lib.hid f0
            have HF1 := Lib.hid f1
            have HF2 := Lib.hid f2
            clear f0 f1 f2
            have hAd : addT m5 rows ⟨a1_0, a1_1, a1_2⟩ = ⟨a1_0, a1_1, false⟩ :: rows := by rw [addT, HCf.out, if_neg (by omega), fit_all _ _ (by omega)]
            have HAd := Lib.hid hAd
            clear hAd hb
            go_wp2_with fail
            refine (HSz.out _ HB2.out).mono ?_; rintro e x2 ⟨rfl, bx2⟩
            have hb2 := HB2.out.trans (bx2.mono HB2.out.size)
            have f0 := below_cell hb2 HF0.out
            have f1 := below_cell hb2 HF1.out
            have f2 := below_cell hb2 HF2.out
            clear bx2
            go_wp2_with fail
            refine (padd_any Lt g m5 c5 rows ⟨a1_0, a1_1, a1_2⟩ x2 (HPw.out x2 hb2) (by omega) w1_0 w1_1).mono ?_; rintro e x3 ⟨rfl, Lt', T6, k6, n6⟩
            rw [HAd.out] at T6
            have HT6 := Lib.hid T6
            have hbfn : bf ∉ Lt := fun hm => by have := HD2.out bf hm; have := HBl.out; omega
            have hfb3 := k6.at (block_below hb2 HBf1.out) hbfn
            have HFb3 := Lib.hid hfb3
            have HOl3 : Hid (Rw.RowE EFd x3 ad rows) := Lib.hid ((HOl.out.below hb2).block fun b o e => k6.block b (by have := (HOb.out b o none e).2; have := hb2.size; omega) (fun hm => by
              have h1 := HPt.out.blocks b hm
              have h2 := (HOb.out b o none e).1
              omega))
            have b3w : Below w.heap.size w x3 := Kept.below (b1w.trans (hb2.mono b1w.size)) k6 (fun k hk => Nat.le_trans hb0.size (HD2.out k hk)) (by have h1 := b1w.size; have h2 := hb2.size; omega)
            have HP3 : Hid (∀ v, Below x3.heap.size x3 v → PTab v Lt' g m5 (⟨a1_0, a1_1, false⟩ :: rows) (c5 + 1)) := Lib.hid (fun v hv => HT6.out.kept hv.size (fun k hk => hv.block k (HT6.out.blocks k hk)))
            have HSz3 := Lib.hid (fun v hv => psize_any Lt' g m5 (c5 + 1) (⟨a1_0, a1_1, false⟩ :: rows) v (HP3.out v hv))
            have HLn3 := Lib.hid (fun v hv => plen_any Lt' g m5 (c5 + 1) (⟨a1_0, a1_1, false⟩ :: rows) v (HP3.out v hv))
            have hcs2 : ((csum (⟨a1_0, a1_1, false⟩ :: rows) : Nat) : Int) = (csum rows : Int) + cf := by
              have h1 : csum (⟨a1_0, a1_1, false⟩ :: rows) = cost ⟨a1_0, a1_1, a1_2⟩ + csum rows := rfl
              rw [h1, HCf.out]; omega
            have hln2 : (((⟨a1_0, a1_1, false⟩ :: rows : List FdM).length : Nat) : Int) = (k : Int) + 1 := by rw [List.length_cons, HRl.out]; omega
            rw [hcs2] at HSz3
            rw [hln2] at HLn3
            have HAt0 := Lib.hid (fun v hv => pat_any Lt' g m5 (c5 + 1) (⟨a1_0, a1_1, false⟩ :: rows) 62 v (HP3.out v hv) (by decide))
            have hat0 : atT (⟨a1_0, a1_1, false⟩ :: rows) 62 = (⟨a1_0, a1_1, false⟩, 0) := by
              rw [atT, if_neg (by omega), if_neg (by simp; omega)]; rfl
            rw [hat0] at HAt0
            have hsum : IntKind.i64.wrap ((csum rows : Int) + cf) = (csum rows : Int) + cf := IntWalk.i64_in _ (by omega)
            have hksum : IntKind.i64.wrap ((k : Int) + 1) = (k : Int) + 1 := IntWalk.i64_in _ (by omega)
            clear f0 f1 f2 T6 k6 n6 hfb3 hbfn hat0 hcs2 hln2 hb2 HSz HM HPw b1w HOl
            go_wp2_with fail
            refine (HAt0.out _ (Below.refl _ _)).mono ?_; rintro e x4 ⟨rfl, b4'⟩
            go_wp2_with fail
            have hbx := heap_alloc_new x4 (.cells #[.string a1_0, .string a1_1, .bool false] 36)
            have hb8 : Below x4.heap.size x4 (x4.alloc (.cells #[.string a1_0, .string a1_1, .bool false] 36)) := (Below.refl _ _).alloc (Nat.le_refl _) _
            generalize x4.alloc (.cells #[.string a1_0, .string a1_1, .bool false] 36) = x5 at hbx hb8 ⊢
            have d5 := below_step b4' hb8
            generalize x4.heap.size = bq at hbx ⊢
            have f0 := cell_at (block_below d5 HFb3.out) 0
            have f1 := cell_at (block_below d5 HFb3.out) 1
            have f2 := cell_at (block_below d5 HFb3.out) 2
            have q0 := cell_at hbx 0
            have q1 := cell_at hbx 1
            have q2 := cell_at hbx 2
            have hq0 := str_eq a1_0
            have hq1 := str_eq a1_1
            have hb : Below x5.heap.size x5 x5.drew := (Below.refl _ _).drew
            have HD5 := Lib.hid d5
            have HB5 : Hid (∀ v, Below x5.heap.size x5 v → Below x3.heap.size x3 v) := Lib.hid (fun v hv => HD5.out.trans (hv.mono HD5.out.size))
            clear b4' hb8 hbx d5
            go_region_held3 (fun w' => w'.cell? ⟨bf, 0, none⟩ = some (.string a1_0) ∧ w'.cell? ⟨bf, 1, none⟩ = some (.string a1_1) ∧ w'.cell? ⟨bf, 2, none⟩ = some (.bool a1_2) ∧ w'.cell? ⟨bq, 0, none⟩ = some (.string a1_0) ∧ w'.cell? ⟨bq, 1, none⟩ = some (.string a1_1))
              (first | go_keep | exact ⟨below_cell hb f0, below_cell hb f1, below_cell hb f2, below_cell hb q0, below_cell hb q1⟩)
              ((first | (go_at_call 15; refine (HLn3.out _ (HB5.out _ hb)).mono ?_; rintro e x ⟨rfl, bx⟩; replace hb := hb.trans (bx.mono hb.size); clear bx)
                      | (go_at_call 13; refine (HSz3.out _ (HB5.out _ hb)).mono ?_; rintro e x ⟨rfl, bx⟩; replace hb := hb.trans (bx.mono hb.size); clear bx)
                      | (go_at_call 22; refine (HCo.out _).mono ?_; rintro e x ⟨rfl, bx⟩; replace hb := hb.trans (bx.mono hb.size); clear bx)))
            have hb6 := HB5.out _ hb
            clear hb f0 f1 f2 q0 q1 q2 HSz3 HLn3 HCo hsum hksum hsub
            go_wp2_with fail
            go_loopw [15] (fun vi wr => ∃ i : Nat, i ≤ k ∧ vi = .int .i64 i ∧ Below x3.heap.size x3 wr) (fun vi _ => k - (intOf vi).toNat)
            case atStart => exact ⟨0, by omega, rfl, hb6⟩
            case round =>
              clear hb6
              obtain ⟨i, hik, rfl, hbel⟩ := hrel
              by_cases hlt : i < k
              · have hlt' : (i : Int) < k := by omega
                have hlr : i < rows.length := by rw [HRl.out]; exact hlt
                have hat : atT (⟨a1_0, a1_1, false⟩ :: rows) ((63 : Int) + i) = (rows[i], 0) := by
                  have := atT_all (⟨a1_0, a1_1, false⟩ :: rows) (63 + i) rows[i] (by omega) (by rw [List.getElem?_append_right (by rw [statics_len]; omega), statics_len, show 63 + i - 1 - 61 = i + 1 from by omega, List.getElem?_cons_succ, List.getElem?_eq_getElem hlr])
                  exact this
                have HAt := Lib.hid (fun v (hv : Below x3.heap.size x3 v) => pat_any Lt' g m5 (c5 + 1) (⟨a1_0, a1_1, false⟩ :: rows) ((63 : Int) + i) v (HP3.out v hv) (WalkArith.wf_i64 (by omega)))
                rw [hat] at HAt
                obtain ⟨bo, oo, rfl, hcr⟩ : ∃ b off, ad = some ⟨b, off, none⟩ ∧ ∀ i, (h : i < rows.length) → Rw.CE EFd x3 b (off + i * 3) rows[i] := by
                  rcases HOl3.out with h | h
                  · rw [h] at hlr; simp at hlr
                  · exact h
                have HRow := Lib.hid (CE_fd (hcr i hlr))
                clear hcr hat
                generalize rows[i] = x at HAt HRow
                obtain ⟨xn, xv, xb⟩ := x
                simp only at HAt HRow
                have hi0 : (0 : Int) ≤ (i : Int) := by omega
                go_wp2_with fail
                refine (HAt.out _ hbel).mono ?_; rintro e y1 ⟨rfl, e1⟩
                have d1 := hbel.trans (e1.mono hbel.size)
                clear e1 hbel
                go_wp2_with fail
                have hby := heap_alloc_new y1 (.cells #[.string xn, .string xv, .bool xb] 36)
                have d2 := d1.alloc d1.size (.cells #[.string xn, .string xv, .bool xb] 36)
                generalize y1.alloc (.cells #[.string xn, .string xv, .bool xb] 36) = y2 at hby d2 ⊢
                generalize y1.heap.size = bz at hby ⊢
                have z0 := cell_at hby 0
                have z1 := cell_at hby 1
                have z2 := cell_at hby 2
                have r0 := below_cell d2 HRow.out.1
                have r1 := below_cell d2 HRow.out.2.1
                have r2 := below_cell d2 HRow.out.2.2
                have hq0 := str_eq xn
                have hq1 := str_eq xv
                clear hby d1
                go_quiet (fail)
                go_wp2_with fail
                go_roundw
                case rel => exact ⟨i + 1, by omega, by go_num, below_drewN d2 _⟩
                case measure => simp [intOf]; omega
              · have hlt' : ¬ (i : Int) < k := by omega
                go_wp2_with fail
                go_ret
                exact ⟨rfl, b3w.trans (hbel.mono b3w.size)⟩

set_option maxRecDepth 100000 in
theorem lifted (os : Os) (started : os.Started) (H : Type) (enc : TypeId × Value → H) :
    ReturnsInHanded {} Try.checked os 7 .any (Rows.tableShiftsSpec.pre6 enc Try.prog Try.f7 Rows.tableShiftsRow.domain false) (Rows.tableShiftsSpec.post enc Try.prog Try.f7 false true false false) := by
  refine returnsInHanded_of_change_sized (C := Try.checked) own started (by kernel_rfl) Try.func7
    (ChangeSpec.witness6 (enc := enc) (C := Try.checked) false ⟨#[], #[.slice none 0 0, .agg #[.string ByteArray.empty, .string ByteArray.empty, .bool false]], []⟩ 8 (by kernel_rfl) (by kernel_rfl) (by kernel_rfl) (by kernel_rfl)) ?_
  intro W base args ds gs before hval0 hW hcnd hsz0 _
  have hsz : (DataW.weightsEach Try.prog (Try.f7.params.toList ++ Rows.tableShiftsSpec.plain.varTypes Try.prog) (ds ++ gs)).all (· ≤ reachBytes) = true := hsz0
  have hval : ∀ (j : Nat) t v, Try.f7.params[j]? = some t → args[j]? = some v → Value.okWide Try.prog W .any base t v := hval0
  have hW' := hW
  obtain ⟨p, q, hA0, hV, rfl, hfz, hnd⟩ := hW
  have hA : DataW.TrodAll enc Try.prog W 0 (fun _ => true) true Try.f7.params.toList args.toList ds p := hA0
  rw [Try.params7] at hA hval hsz
  obtain ⟨v0, vs0, d0, ds0, p0, q0, hargs, rfl, rfl, h0, t0⟩ := trodAll_cons hA
  obtain ⟨v1, vs1, d1, ds1, p1, q1, rfl, rfl, rfl, h1, t1⟩ := trodAll_cons t0
  obtain ⟨rfl, rfl, rfl⟩ := trodAll_nil t1
  obtain rfl : args = #[v0, v1] := by cases args; simp_all
  obtain ⟨rfl, rfl⟩ := trodVars_none hV
  have k0 := h0
  have lt0 : ∀ x ∈ p0, x.block < W.heap.size := by obtain ⟨m, hm⟩ := k0; exact DataW.trod_lt m _ _ _ hm
  obtain ⟨a0, len0, cap0, rfl⟩ := okWide_slice Try.underlying22 (hval 0 22 v0 rfl rfl)
  obtain ⟨fuel0, hf0⟩ := h0
  have ok0 : Arg.AllOk W [.slc 56 [.int .i64, .str, .str, .bool, .int .i64]] [.slice a0 len0 cap0] := Arg.trod_leaves 9 22 [.slc 56 [.int .i64, .str, .str, .bool, .int .i64]] (by kernel_rfl) hf0 (Arg.sized hsz (j := 0) (t := 22) rfl rfl)
  obtain ⟨aa0, ll0, cc0, hv0, r0, w0⟩ := Arg.LeafOk.slc ok0.1
  simp only [Value.slice.injEq] at hv0
  obtain ⟨rfl, rfl, rfl⟩ := hv0
  have k1 := h1
  have lt1 : ∀ x ∈ p1, x.block < W.heap.size := by obtain ⟨m, hm⟩ := k1; exact DataW.trod_lt m _ _ _ hm
  obtain ⟨cs1, rfl, hcs1⟩ := okWide_struct Try.underlying36 (hval 1 36 v1 rfl rfl)
  obtain ⟨cs1⟩ := cs1
  obtain ⟨fuel1, hf1⟩ := h1
  have ok1 : Arg.AllOk W [.str, .str, .bool] cs1 := Arg.trod_leaves 9 36 [.str, .str, .bool] (by kernel_rfl) hf1 (Arg.sized hsz (j := 1) (t := 36) rfl rfl)
  obtain ⟨u1_0, q1_0, rfl, l1_0, ok1_0⟩ := Arg.AllOk.cons ok1
  obtain ⟨a1_0, rfl, w1_0⟩ := Arg.LeafOk.str l1_0
  obtain ⟨u1_1, q1_1, rfl, l1_1, ok1_1⟩ := Arg.AllOk.cons ok1_0
  obtain ⟨a1_1, rfl, w1_1⟩ := Arg.LeafOk.str l1_1
  obtain ⟨u1_2, q1_2, rfl, l1_2, ok1_2⟩ := Arg.AllOk.cons ok1_1
  obtain ⟨a1_2, rfl⟩ := Arg.LeafOk.bool l1_2
  obtain rfl := Arg.AllOk.nil ok1_2
  clear hA0 hval0 hsz0
  refine (walk a0 len0 cap0 a1_0 a1_1 a1_2 W w0 r0 w1_0 w1_1).mono fun e W' ⟨he, bel⟩ => ?_
  subst he
  exact ⟨_, rfl, _, _, _, [], _, [], hW', trodAll_mk1 (shut_bool Try.underlying4 _), (trodAll_cons_mk (Below.trod laidOut (by kernel_rfl) (of_decide_eq_true (by kernel_rfl)) k0 bel lt0) (trodAll_cons_mk (Below.trod laidOut (by kernel_rfl) (of_decide_eq_true (by kernel_rfl)) k1 bel lt1) trodAll_mk0)), rfl, bel.frame _, fun h => by cases h⟩

theorem over : Rows.tableShiftsRow.holds Try.pinned (OpenSpec.ofChange Rows.tableShiftsSpec) :=
  OpenClaim.holds_of_wide 7 Try.f7 rfl rfl rfl rfl rfl rfl rfl ⟨rfl, rfl, rfl, rfl, rfl⟩ rfl rfl rfl rfl rfl (by kernel_rfl) Try.func7 (by kernel_rfl)
    (of_decide_eq_true (by kernel_rfl)) (by unfold Func.isWrapper; first | (rw [if_pos (by decide +kernel)]; kernel_rfl) | (rw [if_neg (by decide +kernel)]; exact ⟨rfl, rfl⟩))
    (fun os started H enc _ => lifted os started H enc)

theorem proved : Rows.TableShiftsSaid := over
end Go.Proofs.Ytifaecmmnconpaa.tableShifts
