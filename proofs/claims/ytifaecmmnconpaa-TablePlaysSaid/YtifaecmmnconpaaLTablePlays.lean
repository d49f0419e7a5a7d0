/-
  TablePlays holds for every most and every script: the table has just the rows, their numbers, its size and its most, that the document says; no conditions.
-/
import Derived.Test.YtifaecmmnconpaaRows
import Derived.WalkKit
import Derived.ProofKit
import Derived.OpenShut
import Derived.ShutString
import Derived.SizedLaws
import Derived.Test.YtifaecmmnconpaaMem
import Derived.Lib.SmallJoins
import Derived.Test.YtifaecmmnconpaaArg
import Derived.Test.YtifaecmmnconpaaObj
import Derived.Test.YtifaecmmnconpaaRowE
import Derived.Test.YtifaecmmnconpaaTabPure
import Derived.Test.YtifaecmmnconpaaTab1
import Derived.Test.YtifaecmmnconpaaTab2
import Derived.Test.YtifaecmmnconpaaTab4
import Derived.Test.YtifaecmmnconpaaTab5
import Derived.Test.YtifaecmmnconpaaTab6
import Derived.Test.YtifaecmmnconpaaTabP
import Derived.Test.YtifaecmmnconpaaTab7
import Derived.RegionTactic
import Derived.IntWalk
import Derived.Deep.RegionHeld3
import Derived.Laws.StructEq
namespace Go.Proofs.Ytifaecmmnconpaa.tablePlays
open Go.ChangeShapes Go.WideShapes Go.ChangeAt Go.RowKit
open Go.Proofs.Ytifaecmmnconpaa Tab Mem Go.Proofs.Ytifaecmmnconpaa.Obj
open Go.ChangeMaps (open_string shut_string)
open Go.Joins
set_option linter.unusedVariables false

theorem own : ownKnob Try.prog.godebug = none := by kernel_rfl
theorem laidOut : laidOutB Try.prog = true := by kernel_rfl

set_option maxRecDepth 100000 in
set_option maxHeartbeats 2000000 in
theorem walk (a0 : Int) (a1 : Option Addr) (len1 cap1 : Nat) (w : World) (w0 : (Lit.int .i64 a0).wf = true) (w1 : Arg.Slc w [.int .i64, .str, .str, .bool, .int .i64] a1 len1 cap1) (r1 : cap1 * 56 ≤ 140737488351232) :
    Calls Try.prog 3 #[.int .i64 a0, .slice a1 len1 cap1] w fun e w' => e = .returned (.bool true) ∧ Below w.heap.size w w' := by
  obtain ⟨l, hl, hr, hok, hlc, hcm⟩ := script_of w1
  have HRw := Lib.hid hr
  have HL := Lib.hid hl
  have HOk := Lib.hid hok
  have HC := Lib.hid hcm
  clear hr hl hok w1
  cases hf : fewF (l.take 120) 0 with
  | false =>
    have HFe : Hid (∀ v, Below w.heap.size w v → Calls Try.prog 9 #[.slice a1 len1 cap1] v fun e w' => e = .returned (.bool false) ∧ Below v.heap.size v w') := Lib.hid (fun v hv => by
      have h := few_any a1 len1 cap1 l v HL.out hlc HC.out (HRw.out.below hv) HOk.out
      rwa [hf] at h)
    clear hf
    go_enter Try.func3, Try.ntmps3
    go_wp2_with fail
    refine (awake_any _).mono ?_; rintro e v1 ⟨rfl, b1⟩
    go_wp2_with fail
    refine (HFe.out _ b1).mono ?_; rintro e v2 ⟨rfl, b2⟩
    replace b2 := below_step b1 b2
    go_wp2_with fail
    go_ret
    exact ⟨rfl, b2⟩
  | true =>
    have HFe : Hid (∀ v, Below w.heap.size w v → Calls Try.prog 9 #[.slice a1 len1 cap1] v fun e w' => e = .returned (.bool true) ∧ Below v.heap.size v w') := Lib.hid (fun v hv => by
      have h := few_any a1 len1 cap1 l v HL.out hlc HC.out (HRw.out.below hv) HOk.out
      rwa [hf] at h)
    clear hf
    by_cases hm : 0 ≤ a0 ∧ a0 ≤ 65536
    · obtain ⟨m, rfl⟩ := Int.eq_ofNat_of_zero_le hm.1
      have hm5 : m ≤ 65536 := by omega
      have hm1 : decide ((m : Int) < 0) = false := by simp
      have hm2 : decide ((65536 : Int) < m) = false := by simp; omega
      clear hm w0
      go_enter Try.func3, Try.ntmps3
      go_wp2_with fail
      refine (awake_any _).mono ?_; rintro e v1 ⟨rfl, b1⟩
      go_wp2_with fail
      refine (HFe.out _ b1).mono ?_; rintro e v2 ⟨rfl, b2⟩
      replace b2 := below_step b1 b2
      clear b1
      go_wp2_with fail
      refine (pnew_ok m _ hm5).mono ?_; rintro e v3 ⟨g, L1, rfl, T1, b3, l1⟩
      have HT1 := Lib.hid T1
      have HL1 := Lib.hid l1
      have b3' := below_step b2 b3
      have HS2 := Lib.hid b2.size
      clear T1 l1 b2 b3
      go_wp2_with fail
      have hgr := heap_alloc_new v3 (.cells #[.int .i64 m, .slice none 0 0] 32)
      have hb4 : Below v3.heap.size v3 (v3.alloc (.cells #[.int .i64 m, .slice none 0 0] 32)) := (Below.refl _ _).alloc (Nat.le_refl _) _
      generalize v3.alloc (.cells #[.int .i64 m, .slice none 0 0] 32) = v4 at hgr hb4 ⊢
      have hw3 := b3'.size
      have hT : Two v4 w.heap.size g v3.heap.size m [] 0 := by
        refine ⟨L1, [v3.heap.size], HT1.out.kept hb4.size (fun k hk => hb4.block k (HT1.out.blocks k hk)), ⟨none, 0, List.mem_cons_self .., hgr, Nat.le_refl _, by unfold maxLen; omega, fun _ => rfl, (fun b o s e => by cases e), .inl rfl, fun k hk => ?_⟩, fun k hk hm => ?_, fun k hk => Nat.le_trans HS2.out (HL1.out k hk), fun k hk => ?_⟩
        · simp only [List.mem_singleton] at hk
          subst hk
          exact (Array.getElem?_eq_some_iff.1 hgr).1
        · simp only [List.mem_singleton] at hm
          subst hm
          exact Nat.lt_irrefl _ (HT1.out.blocks _ hk)
        · simp only [List.mem_singleton] at hk
          subst hk; exact hw3
      have b4 := below_step b3' hb4
      generalize v3.heap.size = gr at hT ⊢
      have HT := Lib.hid hT
      clear hgr hb4 hw3 hT b3' HT1 HL1 HS2
      refine (play_any w.heap.size g gr m 0 [] a1 len1 cap1 l v4 b4.size HT.out (by omega) HL.out hlc HC.out (fun v hv => HRw.out.below (b4.trans hv)) HOk.out).mono ?_; rintro e v5 ⟨rfl, ⟨c5, hc5, T5⟩, b5⟩
      replace b5 := b4.trans b5
      generalize playM (l.take 120) (m, []) = S at T5
      obtain ⟨m5, rows⟩ := S
      simp only at T5
      have HT5 := Lib.hid T5
      clear T5 b4 HT
      go_wp2_with fail
      obtain ⟨Lt, Lr, ht, hr, hd1, hd2, hd3⟩ := HT5.out
      have hsm := ht.sum
      have h32 := csum_len rows
      have HPt := Lib.hid ht
      have HRt := Lib.hid hr
      have hpk : ∀ v, Below v5.heap.size v5 v → PTab v Lt g m5 rows c5 := fun v hv => ht.kept hv.size (fun k hk => hv.block k (ht.blocks k hk))
      have HM := Lib.hid (fun v hv => pmost_any Lt g m5 c5 rows v (hpk v hv))
      have HSp := Lib.hid (fun v hv => psize_any Lt g m5 c5 rows v (hpk v hv))
      have HLn := Lib.hid (fun v hv => plen_any Lt g m5 c5 rows v (hpk v hv))
      have HAt := Lib.hid (fun v hv n hn => pat_any Lt g m5 c5 rows n v (hpk v hv) hn)
      have HAr := Lib.hid (fun v (hv : Below v5.heap.size v5 v) (n : Int) (hn : n ≤ 9223372036854775807) => rat_any gr m5 rows Lr n v (hr.below hv) (by omega) hn)
      obtain ⟨adr, capr, _, hhr, hlr, hmr, _, _, hrr, _⟩ := hr
      have c0 : v5.cell? ⟨gr, 0, none⟩ = some (.int .i64 m5) := cell_at hhr 0
      have c1 : v5.cell? ⟨gr, 1, none⟩ = some (.slice adr rows.length capr) := cell_at hhr 1
      have HSr : Hid (∀ v, Below v5.heap.size v5 v → Calls Try.prog 14 #[.pointer (some ⟨gr, 0, none⟩)] v fun e w' => e = .returned (.int .i64 (csum rows)) ∧ Below v.heap.size v w') := Lib.hid (fun v hv =>
        rsize_at gr rows.length capr adr rows m5 v rfl (below_cell hv c0) (below_cell hv c1) hlr hmr (hrr.below hv) (by omega))
      have hb : Below v5.heap.size v5 v5.drew := (Below.refl _ _).drew
      have hcs : decide (m5 < csum rows) = false := by simp; omega
      have HC0 := Lib.hid c0
      have HC1 := Lib.hid c1
      clear ht hd1 hd2 hd3 hpk hhr hrr
      go_region_held3 (fun w' => w'.cell? ⟨gr, 0, none⟩ = some (.int .i64 m5) ∧ w'.cell? ⟨gr, 1, none⟩ = some (.slice adr rows.length capr))
        (first | go_keep | exact ⟨below_cell hb c0, below_cell hb c1⟩)
        ((first | (go_at_call 12; refine (HM.out _ hb).mono ?_; rintro e x ⟨rfl, bx⟩; replace hb := hb.trans (bx.mono hb.size); clear bx)
                | (go_at_call 13; refine (HSp.out _ hb).mono ?_; rintro e x ⟨rfl, bx⟩; replace hb := hb.trans (bx.mono hb.size); clear bx)
                | (go_at_call 14; refine (HSr.out _ hb).mono ?_; rintro e x ⟨rfl, bx⟩; replace hb := hb.trans (bx.mono hb.size); clear bx)
                | (go_at_call 15; refine (HLn.out _ hb).mono ?_; rintro e x ⟨rfl, bx⟩; replace hb := hb.trans (bx.mono hb.size); clear bx)))
      have hb6 := hb
      clear hcs c0 c1 HSr HM HSp HLn hb
      generalize hrl : rows.length = nr at *
      have hnr : nr ≤ 2048 := by omega
      clear h32 hsm
      go_wp2_with fail
      go_loopw [8] (fun vi wr => ∃ k : Nat, 60 ≤ k ∧ k ≤ 63 + nr ∧ vi = .int .i64 k ∧ Below v5.heap.size v5 wr) (fun vi _ => 63 + nr - (intOf vi).toNat)
      case atStart => exact ⟨60, by omega, by omega, rfl, hb6⟩
      case round =>
        obtain ⟨k, hk60, hk, rfl, hbel⟩ := hrel
        have x1 := below_cell hbel HC1.out
        by_cases hle : k ≤ 62 + nr
        · have hle' : (k : Int) ≤ 62 + (nr : Int) := by omega
          have HA1 := Lib.hid (fun v hv => HAt.out v hv k (WalkArith.wf_i64 (by omega)))
          have HA2 := Lib.hid (fun v hv => HAr.out v hv k (by omega))
          generalize atT rows k = X at HA1 HA2
          obtain ⟨⟨fn, fv, fb⟩, er⟩ := X
          simp only at HA1 HA2
          go_wp2_with fail
          refine (HA1.out _ hbel).mono ?_; rintro e y1 ⟨rfl, by1⟩
          have hb7 := hbel.trans (by1.mono hbel.size)
          clear by1
          go_wp2_with fail
          have hbx := heap_alloc_new y1 (.cells #[.string fn, .string fv, .bool fb] 36)
          have hb8 : Below y1.heap.size y1 (y1.alloc (.cells #[.string fn, .string fv, .bool fb] 36)) := (Below.refl _ _).alloc (Nat.le_refl _) _
          generalize y1.alloc (.cells #[.string fn, .string fv, .bool fb] 36) = y2 at hbx hb8 ⊢
          have hb9 := hb7.trans (hb8.mono hb7.size)
          generalize y1.heap.size = ba at hbx ⊢
          have HBx := Lib.hid hbx
          clear hbx hb8 hb7
          refine (HA2.out _ hb9).mono ?_; rintro e y3 ⟨rfl, by3⟩
          have hbx3 := block_below by3 HBx.out
          have hb10 := hb9.trans (by3.mono hb9.size)
          have hbx4 : (y3.alloc (.cells #[.string fn, .string fv, .bool fb] 36)).heap[ba]? = _ := alloc_at hbx3
          have a0 : (y3.alloc (.cells #[.string fn, .string fv, .bool fb] 36)).cell? ⟨ba, 0, none⟩ = some (.string fn) := cell_at hbx4 0
          have a1' : (y3.alloc (.cells #[.string fn, .string fv, .bool fb] 36)).cell? ⟨ba, 1, none⟩ = some (.string fv) := cell_at hbx4 1
          have a2 : (y3.alloc (.cells #[.string fn, .string fv, .bool fb] 36)).cell? ⟨ba, 2, none⟩ = some (.bool fb) := cell_at hbx4 2
          have hq1 := str_eq fn
          have hq2 := str_eq fv
          clear by3 hbx3 hbx4 HBx hb9
          go_wp2_with fail
          go_roundw
          case rel => exact ⟨k + 1, by omega, by omega, by go_num, hb10.alloc hb10.size _⟩
          case measure => simp [intOf]; omega
        · have hle' : ¬ (k : Int) ≤ 62 + (nr : Int) := by omega
          go_wp2_with fail
          go_ret
          exact ⟨rfl, b5.trans (hbel.mono b5.size)⟩
    · have HNb := Lib.hid (fun v => pnew_bad a0 v (by omega))
      by_cases hneg : a0 < 0
      · have hm1 : decide (a0 < 0) = true := by simp; omega
        clear hm w0 hneg
        go_enter Try.func3, Try.ntmps3
        go_wp2_with fail
        refine (awake_any _).mono ?_; rintro e v1 ⟨rfl, b1⟩
        go_wp2_with fail
        refine (HFe.out _ b1).mono ?_; rintro e v2 ⟨rfl, b2⟩
        replace b2 := below_step b1 b2
        clear b1
        go_wp2_with fail
        refine (HNb.out _).mono ?_; rintro e v3 ⟨rfl, b3⟩
        replace b3 := below_step b2 b3
        go_wp2_with fail
        go_ret
        exact ⟨rfl, b3⟩
      · have hm1 : decide (a0 < 0) = false := by simp; omega
        have hm2 : decide (65536 < a0) = true := by simp; omega
        clear hm w0 hneg
        go_enter Try.func3, Try.ntmps3
        go_wp2_with fail
        refine (awake_any _).mono ?_; rintro e v1 ⟨rfl, b1⟩
        go_wp2_with fail
        refine (HFe.out _ b1).mono ?_; rintro e v2 ⟨rfl, b2⟩
        replace b2 := below_step b1 b2
        clear b1
        go_wp2_with fail
        refine (HNb.out _).mono ?_; rintro e v3 ⟨rfl, b3⟩
        replace b3 := below_step b2 b3
        go_wp2_with fail
        go_ret
        exact ⟨rfl, b3⟩

set_option maxRecDepth 100000 in
theorem lifted (os : Os) (started : os.Started) (H : Type) (enc : TypeId × Value → H) :
    ReturnsInHanded {} Try.checked os 3 .any (Rows.tablePlaysSpec.pre6 enc Try.prog Try.f3 Rows.tablePlaysRow.domain false) (Rows.tablePlaysSpec.post enc Try.prog Try.f3 false true false false) := by
  refine returnsInHanded_of_change_sized (C := Try.checked) own started (by kernel_rfl) Try.func3
    (ChangeSpec.witness6 (enc := enc) (C := Try.checked) false ⟨#[], #[.int .i64 0, .slice none 0 0], []⟩ 8 (by kernel_rfl) (by kernel_rfl) (by kernel_rfl) (by kernel_rfl)) ?_
  intro W base args ds gs before hval0 hW hcnd hsz0 _
  have hsz : (DataW.weightsEach Try.prog (Try.f3.params.toList ++ Rows.tablePlaysSpec.plain.varTypes Try.prog) (ds ++ gs)).all (· ≤ reachBytes) = true := hsz0
  have hval : ∀ (j : Nat) t v, Try.f3.params[j]? = some t → args[j]? = some v → Value.okWide Try.prog W .any base t v := hval0
  have hW' := hW
  obtain ⟨p, q, hA0, hV, rfl, hfz, hnd⟩ := hW
  have hA : DataW.TrodAll enc Try.prog W 0 (fun _ => true) true Try.f3.params.toList args.toList ds p := hA0
  rw [Try.params3] at hA hval hsz
  obtain ⟨v0, vs0, d0, ds0, p0, q0, hargs, rfl, rfl, h0, t0⟩ := trodAll_cons hA
  obtain ⟨v1, vs1, d1, ds1, p1, q1, rfl, rfl, rfl, h1, t1⟩ := trodAll_cons t0
  obtain ⟨rfl, rfl, rfl⟩ := trodAll_nil t1
  obtain rfl : args = #[v0, v1] := by cases args; simp_all
  obtain ⟨rfl, rfl⟩ := trodVars_none hV
  have k0 := h0
  have lt0 : ∀ x ∈ p0, x.block < W.heap.size := by obtain ⟨m, hm⟩ := k0; exact DataW.trod_lt m _ _ _ hm
  obtain ⟨a0, rfl, rfl, rfl, w0⟩ := open_int Try.underlying3 (hval 0 3 v0 rfl rfl) h0
  have k1 := h1
  have lt1 : ∀ x ∈ p1, x.block < W.heap.size := by obtain ⟨m, hm⟩ := k1; exact DataW.trod_lt m _ _ _ hm
  obtain ⟨a1, len1, cap1, rfl⟩ := okWide_slice Try.underlying22 (hval 1 22 v1 rfl rfl)
  obtain ⟨fuel1, hf1⟩ := h1
  have ok1 : Arg.AllOk W [.slc 56 [.int .i64, .str, .str, .bool, .int .i64]] [.slice a1 len1 cap1] := Arg.trod_leaves 9 22 [.slc 56 [.int .i64, .str, .str, .bool, .int .i64]] (by kernel_rfl) hf1 (Arg.sized hsz (j := 1) (t := 22) rfl rfl)
  obtain ⟨aa1, ll1, cc1, hv1, r1, w1⟩ := Arg.LeafOk.slc ok1.1
  simp only [Value.slice.injEq] at hv1
  obtain ⟨rfl, rfl, rfl⟩ := hv1
  clear hA0 hval0 hsz0
  refine (walk a0 a1 len1 cap1 W w0 w1 r1).mono fun e W' ⟨he, bel⟩ => ?_
  subst he
  exact ⟨_, rfl, _, _, _, [], _, [], hW', trodAll_mk1 (shut_bool Try.underlying4 _), (trodAll_cons_mk (Below.trod laidOut (by kernel_rfl) (of_decide_eq_true (by kernel_rfl)) k0 bel lt0) (trodAll_cons_mk (Below.trod laidOut (by kernel_rfl) (of_decide_eq_true (by kernel_rfl)) k1 bel lt1) trodAll_mk0)), rfl, bel.frame _, fun h => by cases h⟩

theorem over : Rows.tablePlaysRow.holds Try.pinned (OpenSpec.ofChange Rows.tablePlaysSpec) :=
  OpenClaim.holds_of_wide 3 Try.f3 rfl rfl rfl rfl rfl rfl rfl ⟨rfl, rfl, rfl, rfl, rfl⟩ rfl rfl rfl rfl rfl (by kernel_rfl) Try.func3 (by kernel_rfl)
    (of_decide_eq_true (by kernel_rfl)) (by unfold Func.isWrapper; first | (rw [if_pos (by decide +kernel)]; kernel_rfl) | (rw [if_neg (by decide +kernel)]; exact ⟨rfl, rfl⟩))
    (fun os started H enc _ => lifted os started H enc)

theorem proved : Rows.TablePlaysSaid := over
end Go.Proofs.Ytifaecmmnconpaa.tablePlays
