/-
  TableFinds holds for every script and every field: it is found by the least number of a row like it, or of its name, or not at all; no conditions.
-/
import Derived.Test.YtifaecmmnconpaaRows
import Derived.WalkKit
import Derived.ProofKit
import Derived.OpenShut
import Derived.ShutString
import Derived.SizedLaws
import Derived.Test.YtifaecmmnconpaaMem
import Derived.Lib.SmallJoins
import Derived.Test.YtifaecmmnconpaaArg
import Derived.Test.YtifaecmmnconpaaObj
import Derived.Test.YtifaecmmnconpaaRowE
import Derived.Test.YtifaecmmnconpaaTabPure
import Derived.Test.YtifaecmmnconpaaTab1
import Derived.Test.YtifaecmmnconpaaTab2
import Derived.Test.YtifaecmmnconpaaTab4
import Derived.Test.YtifaecmmnconpaaTab5
import Derived.Test.YtifaecmmnconpaaTab6
import Derived.Test.YtifaecmmnconpaaTabP
import Derived.Test.YtifaecmmnconpaaTab7
import Derived.RegionTactic
import Derived.Deep.Cut
import Derived.IntWalk
import Derived.BigRegion
import Derived.BigQuiet
import Derived.Deep.QuietTactic
import Derived.Laws.StructEq
namespace Go.Proofs.Ytifaecmmnconpaa.tableFinds
open Go.ChangeShapes Go.WideShapes Go.ChangeAt Go.RowKit
open Go.Proofs.Ytifaecmmnconpaa Tab Mem Go.Proofs.Ytifaecmmnconpaa.Obj
open Go.ChangeMaps (open_string shut_string)
open Go.Joins
set_option linter.unusedVariables false

theorem own : ownKnob Try.prog.godebug = none := by kernel_rfl
theorem laidOut : laidOutB Try.prog = true := by kernel_rfl

set_option maxRecDepth 100000 in
set_option maxHeartbeats 2000000 in
theorem walk (a0 : Option Addr) (len0 cap0 : Nat) (a1_0 : ByteArray) (a1_1 : ByteArray) (a1_2 : Bool) (a2 : Int) (w : World) (w0 : Arg.Slc w [.int .i64, .str, .str, .bool, .int .i64] a0 len0 cap0) (r0 : cap0 * 56 ≤ 140737488351232) (w1_0 : a1_0.size ≤ 140737488351232) (w1_1 : a1_1.size ≤ 140737488351232) (w2 : (Lit.int .i64 a2).wf = true) :
    Calls Try.prog 5 #[.slice a0 len0 cap0, .agg #[.string a1_0, .string a1_1, .bool a1_2], .int .i64 a2] w fun e w' => e = .returned (.bool true) ∧ Below w.heap.size w w' := by
  obtain ⟨l, hl, hr, hok, hlc, hcm⟩ := script_of w0
  have HRw := Lib.hid hr
  have HL := Lib.hid hl
  have HOk := Lib.hid hok
  have HC := Lib.hid hcm
  clear hr hl hok w0
  cases hf : fewF (l.take 120) 0 with
  | false =>
    have HFe : Hid (∀ v, Below w.heap.size w v → Calls Try.prog 9 #[.slice a0 len0 cap0] v fun e w' => e = .returned (.bool false) ∧ Below v.heap.size v w') := Lib.hid (fun v hv => by
      have h := few_any a0 len0 cap0 l v HL.out hlc HC.out (HRw.out.below hv) HOk.out
      rwa [hf] at h)
    clear hf
    go_enter Try.func5, Try.ntmps5
    go_wp2_with fail
    have hbx := heap_alloc_new w (.cells #[.string a1_0, .string a1_1, .bool a1_2] 36)
    have hb0 : Below w.heap.size w (w.alloc (.cells #[.string a1_0, .string a1_1, .bool a1_2] 36)) := (Below.refl _ _).alloc (Nat.le_refl _) _
    generalize w.alloc (.cells #[.string a1_0, .string a1_1, .bool a1_2] 36) = v0 at hbx hb0 ⊢
    generalize hbe : w.heap.size = bf at hbx ⊢
    have HBf := Lib.hid hbx
    have HBe := Lib.hid hbe
    have HBl := Lib.hid (Array.getElem?_eq_some_iff.1 hbx).1
    clear hbx hbe
    refine (awake_any _).mono ?_; rintro e v1 ⟨rfl, b1⟩
    go_wp2_with fail
    refine (HFe.out _ (below_step hb0 b1)).mono ?_; rintro e v2 ⟨rfl, b2⟩
    replace b2 := below_step b1 b2
    clear b1
    go_wp2_with fail
    go_ret
    exact ⟨rfl, below_step hb0 b2⟩
  | true =>
    have HFe : Hid (∀ v, Below w.heap.size w v → Calls Try.prog 9 #[.slice a0 len0 cap0] v fun e w' => e = .returned (.bool true) ∧ Below v.heap.size v w') := Lib.hid (fun v hv => by
      have h := few_any a0 len0 cap0 l v HL.out hlc HC.out (HRw.out.below hv) HOk.out
      rwa [hf] at h)
    clear hf
    go_enter Try.func5, Try.ntmps5
    go_wp2_with fail
    have hbx := heap_alloc_new w (.cells #[.string a1_0, .string a1_1, .bool a1_2] 36)
    have hb0 : Below w.heap.size w (w.alloc (.cells #[.string a1_0, .string a1_1, .bool a1_2] 36)) := (Below.refl _ _).alloc (Nat.le_refl _) _
    generalize w.alloc (.cells #[.string a1_0, .string a1_1, .bool a1_2] 36) = v0 at hbx hb0 ⊢
    generalize hbe : w.heap.size = bf at hbx ⊢
    have HBf := Lib.hid hbx
    have HBe := Lib.hid hbe
    have HBl := Lib.hid (Array.getElem?_eq_some_iff.1 hbx).1
    clear hbx hbe
    refine (awake_any _).mono ?_; rintro e v1 ⟨rfl, b1⟩
    go_wp2_with fail
    refine (HFe.out _ (below_step hb0 b1)).mono ?_; rintro e v2 ⟨rfl, b2⟩
    replace b2 := below_step b1 b2
    clear b1
    go_wp2_with fail
    refine (pnew_ok 4096 _ (by decide)).mono ?_; rintro e v3 ⟨g, L1, rfl, T1, b3, l1⟩
    have HT1 := Lib.hid T1
    have HL1 := Lib.hid l1
    have HS2 := Lib.hid b2.size
    replace b3 := below_step b2 b3
    clear T1 l1 b2
    go_wp2_with fail
    have hgr := heap_alloc_new v3 (.cells #[.int .i64 4096, .slice none 0 0] 32)
    have hb4 : Below v3.heap.size v3 (v3.alloc (.cells #[.int .i64 4096, .slice none 0 0] 32)) := (Below.refl _ _).alloc (Nat.le_refl _) _
    generalize v3.alloc (.cells #[.int .i64 4096, .slice none 0 0] 32) = v4 at hgr hb4 ⊢
    have hw3 := b3.size
    have hT : Two v4 v0.heap.size g v3.heap.size 4096 [] 0 := by
      refine ⟨L1, [v3.heap.size], HT1.out.kept hb4.size (fun k hk => hb4.block k (HT1.out.blocks k hk)), ⟨none, 0, List.mem_cons_self .., hgr, Nat.le_refl _, by unfold maxLen; omega, fun _ => rfl, (fun b o s e => by cases e), .inl rfl, fun k hk => ?_⟩, fun k hk hm => ?_, fun k hk => Nat.le_trans HS2.out (HL1.out k hk), fun k hk => ?_⟩
      · simp only [List.mem_singleton] at hk
        subst hk
        exact (Array.getElem?_eq_some_iff.1 hgr).1
      · simp only [List.mem_singleton] at hm
        subst hm
        exact Nat.lt_irrefl _ (HT1.out.blocks _ hk)
      · simp only [List.mem_singleton] at hk
        subst hk; exact hw3
    have b4 := below_step b3 hb4
    generalize v3.heap.size = gr at hT ⊢
    have HT := Lib.hid hT
    clear hgr hb4 hw3 hT b3 HT1 HL1 HS2
    refine (play_any v0.heap.size g gr 4096 0 [] a0 len0 cap0 l v4 b4.size HT.out (by omega) HL.out hlc HC.out (fun v hv => HRw.out.below (below_step hb0 (b4.trans hv))) HOk.out).mono ?_; rintro e v5 ⟨rfl, ⟨c5, hc5, T5⟩, b5⟩
    replace b5 := b4.trans b5
    have hnv := playM_never (l.take 120) (4096, []) (fun x hx => by cases hx)
    generalize playM (l.take 120) (4096, []) = S at T5 hnv
    obtain ⟨m5, rows⟩ := S
    simp only at T5 hnv
    have HNv := Lib.hid hnv
    obtain ⟨Lt, Lr, ht, hr, hd1, hd2, hd3⟩ := T5
    have hsm := ht.sum
    have h32 := csum_len rows
    have HPt := Lib.hid ht
    have HRt := Lib.hid hr
    have HD2 := Lib.hid hd2
    have HD3 := Lib.hid hd3
    obtain ⟨adr, capr, _, hhr, hlr, hmr, _, _, hrr, _⟩ := hr
    have c1 : v5.cell? ⟨gr, 1, none⟩ = some (.slice adr rows.length capr) := cell_at hhr 1
    have HRr := Lib.hid hrr
    have HBf5 := Lib.hid ((b5.block bf HBl.out).trans HBf.out)
    have b5w := below_step hb0 b5
    clear ht hd1 hd2 hd3 hhr hrr b4 HT hnv
    generalize hrl : rows.length = nr at *
    have HRl := Lib.hid hrl
    clear hrl
    have HPk : Hid (∀ v, Below v5.heap.size v5 v → PTab v Lt g m5 rows c5) := Lib.hid (fun v hv => HPt.out.kept hv.size (fun k hk => hv.block k (HPt.out.blocks k hk)))
    have HRk : Hid (∀ v, Below v5.heap.size v5 v → RTab v Lr gr m5 rows) := Lib.hid (fun v hv => HRt.out.below hv)
    by_cases hp1 : 0 < nr
    · have hpd1 : decide (0 < nr) = true := decide_eq_true hp1
      have hpd2 : decide ((0 : Int) < nr) = true := decide_eq_true (by omega)
      by_cases hp2 : 0 ≤ a2
      · have hpd3 : decide (0 ≤ a2) = true := decide_eq_true hp2
        obtain ⟨z, rfl⟩ := Int.eq_ofNat_of_zero_le hp2
        have hzr : ((z : Int) % (nr : Int)) = ((z % nr : Nat) : Int) := (Int.natCast_emod z nr).symm
        have hzl : z % nr < nr := Nat.mod_lt _ hp1
        have hql : z % nr < rows.length := by rw [HRl.out]; exact hzl
        obtain ⟨b2, off2, rfl, hcr⟩ : ∃ b off, adr = some ⟨b, off, none⟩ ∧ ∀ i, (h : i < rows.length) → Rw.CE EFd v5 b (off + i * 3) rows[i] := by
          rcases HRr.out with h | h
          · rw [h] at hql; simp at hql
          · exact h
        obtain ⟨d0, d1, d2⟩ := CE_fd (hcr _ hql)
        have hon : rows[z % nr].name.size ≤ 140737488351232 ∧ rows[z % nr].value.size ≤ 140737488351232 := by
          have h1 := csum_mem (List.getElem_mem hql)
          have h2 := HPt.out.sum
          unfold cost at h1
          omega
        generalize rows[z % nr] = own at d0 d1 d2 hon
        obtain ⟨on, ov, ob⟩ := own
        simp only at d0 d1 d2
        have HZr := Lib.hid hzr
        have hz0 : (0 : Int) ≤ (z : Int) := by omega
        have hn1 : (1 : Int) ≤ (nr : Int) := by omega
        have hnz : ((nr : Int) == 0) = false := by rw [beq_eq_false_iff_ne]; omega
        clear hcr hql hzr
        generalize z % nr = q at *
        have hzt : (z : Int).tmod (nr : Int) = (q : Int) := by rw [Int.tmod_eq_emod_of_nonneg hz0, HZr.out]
        have hzt2 : IntKind.i64.wrap ((z : Int).tmod (nr : Int)) = (q : Int) := by rw [hzt]; exact IntWalk.i64_in _ (by omega)
        have hq0 : (0 : Int) ≤ (q : Int) := by omega
        have hq1 : (q : Int) < (nr : Int) := by omega
        have hzm : (z : Int) % (nr : Int) = (q : Int) := HZr.out
        have hba : Below v5.heap.size v5 (v5.alloc (.cells #[.string ⟨#[]⟩, .string ⟨#[]⟩, .bool false] 36)) := (Below.refl _ _).alloc (Nat.le_refl _) _
        have d0' := below_cell hba d0
        have d1' := below_cell hba d1
        have d2' := below_cell hba d2
        have c1' := below_cell hba c1
        clear hba
        go_wp2_with fail
        go_region
        have hbfl : bf < v5.heap.size := (Array.getElem?_eq_some_iff.1 HBf5.out).1
        have hfA : (v5.alloc (.cells #[.string on, .string ov, .bool ob] 36)).drew.heap[bf]? = some (.cells #[.string a1_0, .string a1_1, .bool a1_2] 36 (0, 0)) := alloc_at HBf5.out
        have hoA : (v5.alloc (.cells #[.string on, .string ov, .bool ob] 36)).drew.heap[v5.heap.size]? = some (.cells #[.string on, .string ov, .bool ob] 36 (0, 0)) := heap_alloc_new v5 _
        have hkA : Kept [bf] v5 (v5.alloc (.cells #[.string on, .string ov, .bool ob] 36)).drew := ((Kept.refl [bf] v5).alloc _).drew
        have hbA : Below w.heap.size w (v5.alloc (.cells #[.string on, .string ov, .bool ob] 36)).drew := (b5w.alloc b5w.size _).drew
        generalize (v5.alloc (.cells #[.string on, .string ov, .bool ob] 36)).drew = v6 at hfA hoA hkA hbA ⊢
        have hon_ : Hid (on.size ≤ 140737488351232 ∧ ov.size ≤ 140737488351232) := Lib.hid hon
        generalize hbo : v5.heap.size = bo at hoA hbfl ⊢
        have hne : Hid (bo ≠ bf) := Lib.hid (by omega)
        have HK6 := Lib.hid hkA
        have HO6 := Lib.hid hoA
        have HF6 := Lib.hid hfA
        have p0 := cell_at hoA 0
        have q0 := cell_at hfA 0
        have z0 := frozen_of_row _ _ 0 _ _ hfA
        have h7 := heap_setCell_same v6 bf 0 _ _ (.string on) hfA
        have hO7 : (v6.setCell ⟨bf, 0, none⟩ (.string on)).heap[bo]? = _ := (Below.heap_setCell _ _ _ _ hne.out).trans hoA
        have hk7 : Kept [bf] v5 (v6.setCell ⟨bf, 0, none⟩ (.string on)) := hkA.setCell (.inl (List.mem_singleton.mpr rfl)) _
        have hb7 : Below w.heap.size w (v6.setCell ⟨bf, 0, none⟩ (.string on)) := hbA.setCell (by have := HBe.out; show w.heap.size ≤ bf; omega) _
        clear hbo hbfl hoA hfA hkA hbA d0 d1 d2 d0' d1' d2' c1' c1 hzt hzt2 hzm HZr hon HO6 HF6
        clear HBf5 b5w
        go_upto_region 12 with (fail)
        generalize v6.setCell ⟨bf, 0, none⟩ (.string on) = v7 at h7 hO7 hk7 hb7 ⊢
        clear p0 q0 z0
        have HPk2 : ∀ u, Kept [bf] v5 u → ∀ v, Below u.heap.size u v → PTab v Lt g m5 rows c5 ∧ RTab v Lr gr m5 rows := fun u hu v hv => by
          have hp := HPt.out.kept hu.size (fun k hk => hu.block k (HPt.out.blocks k hk) (by have := HD2.out k hk; have := HBl.out; simp; omega))
          have hr := HRt.out.kept hu.size (fun k hk => hu.block k (HRt.out.blocks k hk) (by have := HD3.out k hk; have := HBl.out; simp; omega))
          exact ⟨hp.kept hv.size (fun k hk => hv.block k (hp.blocks k hk)), hr.below hv⟩
        have HPK := Lib.hid HPk2
        clear HPk HRk HPk2
        by_cases h3 : z % 3 = 0
        · have hz3 : ((z : Int) % 3 == 0) = true := by rw [beq_iff_eq]; omega
          have p1 := cell_at hO7 1
          have q1 := cell_at h7 1
          have z1 := frozen_of_row _ _ 1 _ _ h7
          have h8 := heap_setCell_same v7 bf 1 _ _ (.string ov) h7
          have hk8 : Kept [bf] v5 (v7.setCell ⟨bf, 1, none⟩ (.string ov)) := hk7.setCell (.inl (List.mem_singleton.mpr rfl)) _
          have hb8 : Below w.heap.size w (v7.setCell ⟨bf, 1, none⟩ (.string ov)) := hb7.setCell (by have := HBe.out; show w.heap.size ≤ bf; omega) _
          clear h3 h7 hO7 hk7 hb7
          go_upto_region 14 with (fail)
          generalize v7.setCell ⟨bf, 1, none⟩ (.string ov) = v8 at h8 hk8 hb8 ⊢
          clear p1 q1 z1 hz3
          have HX := Lib.hid h8
          have bw := hb8
          have HPk : Hid (∀ v, Below v8.heap.size v8 v → PTab v Lt g m5 rows c5) := Lib.hid (fun v hv => (HPK.out v8 hk8 v hv).1)
          have HRk : Hid (∀ v, Below v8.heap.size v8 v → RTab v Lr gr m5 rows) := Lib.hid (fun v hv => (HPK.out v8 hk8 v hv).2)
          clear h8 hk8 hb8
          have HFp := Lib.hid (fun v (hv : Below v8.heap.size v8 v) => pfind_any Lt g m5 c5 rows ⟨on, ov, a1_2⟩ v (HPk.out v hv) (by have h0 := hon_.out.1; unfold maxLen; simp only; omega) (by have h0 := hon_.out.2; unfold maxLen; simp only; omega))
          have HFr := Lib.hid (fun v (hv : Below v8.heap.size v8 v) => rfind_any gr m5 rows ⟨on, ov, a1_2⟩ Lr v (HRk.out v hv) (by rw [HRl.out]; omega))
          have hsp := find_spec rows ⟨on, ov, a1_2⟩ HNv.out
          generalize findT rows ⟨on, ov, a1_2⟩ = R at HFp HFr hsp
          obtain ⟨n, ok⟩ := R
          simp only at HFp HFr hsp
          have x0 := cell_at HX.out 0
          have x1 := cell_at HX.out 1
          have x2 := cell_at HX.out 2
          have HSp := Lib.hid hsp
          clear hsp
          go_wp2_with fail
          refine (HFp.out _ (Below.refl _ _)).mono ?_; rintro e y1 ⟨rfl, c1y⟩
          have z0 := below_cell c1y x0
          have z1 := below_cell c1y x1
          have z2 := below_cell c1y x2
          clear x0 x1 x2
          go_wp2_with fail
          refine (HFr.out _ c1y).mono ?_; rintro e y2 ⟨rfl, c2y⟩
          have x0 := below_cell c2y z0
          have x1 := below_cell c2y z1
          have x2 := below_cell c2y z2
          replace c2y := below_step c1y c2y
          have bw2 := below_step bw c2y
          clear z0 z1 z2 c1y
          rcases HSp.out with ⟨hn0, hok0⟩ | ⟨hn1, hn2, x, hat, hxn, hxv, hxo⟩
          · subst hn0
            subst hok0
            clear HSp
            go_wp2_with fail
            go_ret
            exact ⟨rfl, bw2⟩
          · replace hn2 : n ≤ 61 + nr := by rw [← HRl.out]; exact hn2
            have hnz : ((n : Int) == 0) = false := by rw [beq_eq_false_iff_ne]; omega
            have HAt := Lib.hid (pat_any Lt g m5 c5 rows n y2 (HPk.out y2 c2y) (WalkArith.wf_i64 (by omega)))
            rw [hat] at HAt
            obtain ⟨xn, xv, xb⟩ := x
            simp only at hxn hxv hxo HAt
            subst hxn
            subst hxv
            have Hxo := Lib.hid hxo
            clear HSp hat hxo hn1 hn2
            go_wp2_with fail
            refine HAt.out.mono ?_; rintro e y3 ⟨rfl, c3y⟩
            have hb3 := (Below.refl y3.heap.size y3).alloc (Nat.le_refl _) (.cells #[.string xn, .string xv, .bool false] 36)
            have z0 := below_cell hb3 (below_cell c3y x0)
            have z1 := below_cell hb3 (below_cell c3y x1)
            have bw3 := below_step bw2 c3y
            clear x0 x1 x2 hb3 c3y
            have hq1 := str_eq xn
            by_cases hv : xv = ov
            · have hok : ok = true := Hxo.out.mp hv
              have hq2 : (xv.toList == (ov).toList) = true := by rw [hv]; exact str_eq _
              subst hok
              clear hv
              go_wp2_with fail
              go_ret
              exact ⟨rfl, bw3.alloc bw3.size _⟩
            · have hok : ok = false := by
                cases ok with
                | false => rfl
                | true => exact absurd (Hxo.out.mpr rfl) hv
              have hq2 := str_ne hv
              subst hok
              clear hv
              go_wp2_with fail
              go_ret
              exact ⟨rfl, bw3.alloc bw3.size _⟩
        · have hz3 : ((z : Int) % 3 == 0) = false := by rw [beq_eq_false_iff_ne]; omega
          clear h3 hO7
          go_upto_region 14 with (fail)
          have HX := Lib.hid h7
          have bw := hb7
          have HPk : Hid (∀ v, Below v7.heap.size v7 v → PTab v Lt g m5 rows c5) := Lib.hid (fun v hv => (HPK.out v7 hk7 v hv).1)
          have HRk : Hid (∀ v, Below v7.heap.size v7 v → RTab v Lr gr m5 rows) := Lib.hid (fun v hv => (HPK.out v7 hk7 v hv).2)
          clear h7 hk7 hb7 hz3
          have HFp := Lib.hid (fun v (hv : Below v7.heap.size v7 v) => pfind_any Lt g m5 c5 rows ⟨on, a1_1, a1_2⟩ v (HPk.out v hv) (by have h0 := hon_.out.1; unfold maxLen; simp only; omega) (by have h0 := w1_1; unfold maxLen; simp only; omega))
          have HFr := Lib.hid (fun v (hv : Below v7.heap.size v7 v) => rfind_any gr m5 rows ⟨on, a1_1, a1_2⟩ Lr v (HRk.out v hv) (by rw [HRl.out]; omega))
          have hsp := find_spec rows ⟨on, a1_1, a1_2⟩ HNv.out
          generalize findT rows ⟨on, a1_1, a1_2⟩ = R at HFp HFr hsp
          obtain ⟨n, ok⟩ := R
          simp only at HFp HFr hsp
          have x0 := cell_at HX.out 0
          have x1 := cell_at HX.out 1
          have x2 := cell_at HX.out 2
          have HSp := Lib.hid hsp
          clear hsp
          go_wp2_with fail
          refine (HFp.out _ (Below.refl _ _)).mono ?_; rintro e y1 ⟨rfl, c1y⟩
          have z0 := below_cell c1y x0
          have z1 := below_cell c1y x1
          have z2 := below_cell c1y x2
          clear x0 x1 x2
          go_wp2_with fail
          refine (HFr.out _ c1y).mono ?_; rintro e y2 ⟨rfl, c2y⟩
          have x0 := below_cell c2y z0
          have x1 := below_cell c2y z1
          have x2 := below_cell c2y z2
          replace c2y := below_step c1y c2y
          have bw2 := below_step bw c2y
          clear z0 z1 z2 c1y
          rcases HSp.out with ⟨hn0, hok0⟩ | ⟨hn1, hn2, x, hat, hxn, hxv, hxo⟩
          · subst hn0
            subst hok0
            clear HSp
            go_wp2_with fail
            go_ret
            exact ⟨rfl, bw2⟩
          · replace hn2 : n ≤ 61 + nr := by rw [← HRl.out]; exact hn2
            have hnz : ((n : Int) == 0) = false := by rw [beq_eq_false_iff_ne]; omega
            have HAt := Lib.hid (pat_any Lt g m5 c5 rows n y2 (HPk.out y2 c2y) (WalkArith.wf_i64 (by omega)))
            rw [hat] at HAt
            obtain ⟨xn, xv, xb⟩ := x
            simp only at hxn hxv hxo HAt
            subst hxn
            subst hxv
            have Hxo := Lib.hid hxo
            clear HSp hat hxo hn1 hn2
            go_wp2_with fail
            refine HAt.out.mono ?_; rintro e y3 ⟨rfl, c3y⟩
            have hb3 := (Below.refl y3.heap.size y3).alloc (Nat.le_refl _) (.cells #[.string xn, .string xv, .bool false] 36)
            have z0 := below_cell hb3 (below_cell c3y x0)
            have z1 := below_cell hb3 (below_cell c3y x1)
            have bw3 := below_step bw2 c3y
            clear x0 x1 x2 hb3 c3y
            have hq1 := str_eq xn
            by_cases hv : xv = a1_1
            · have hok : ok = true := Hxo.out.mp hv
              have hq2 : (xv.toList == (a1_1).toList) = true := by rw [hv]; exact str_eq _
              subst hok
              clear hv
              go_wp2_with fail
              go_ret
              exact ⟨rfl, bw3.alloc bw3.size _⟩
            · have hok : ok = false := by
                cases ok with
                | false => rfl
                | true => exact absurd (Hxo.out.mpr rfl) hv
              have hq2 := str_ne hv
              subst hok
              clear hv
              go_wp2_with fail
              go_ret
              exact ⟨rfl, bw3.alloc bw3.size _⟩
      · have hpd3 : decide (0 ≤ a2) = false := decide_eq_false hp2
        have HX := HBf5
        have bw := b5w
        clear HBf5 b5w
        have HFp := Lib.hid (fun v (hv : Below v5.heap.size v5 v) => pfind_any Lt g m5 c5 rows ⟨a1_0, a1_1, a1_2⟩ v (HPk.out v hv) (by have h0 := w1_0; unfold maxLen; simp only; omega) (by have h0 := w1_1; unfold maxLen; simp only; omega))
        have HFr := Lib.hid (fun v (hv : Below v5.heap.size v5 v) => rfind_any gr m5 rows ⟨a1_0, a1_1, a1_2⟩ Lr v (HRk.out v hv) (by rw [HRl.out]; omega))
        have hsp := find_spec rows ⟨a1_0, a1_1, a1_2⟩ HNv.out
        generalize findT rows ⟨a1_0, a1_1, a1_2⟩ = R at HFp HFr hsp
        obtain ⟨n, ok⟩ := R
        simp only at HFp HFr hsp
        have x0 := cell_at HX.out 0
        have x1 := cell_at HX.out 1
        have x2 := cell_at HX.out 2
        have HSp := Lib.hid hsp
        clear hsp
        go_wp2_with fail
        refine (HFp.out _ (Below.refl _ _)).mono ?_; rintro e y1 ⟨rfl, c1y⟩
        have z0 := below_cell c1y x0
        have z1 := below_cell c1y x1
        have z2 := below_cell c1y x2
        clear x0 x1 x2
        go_wp2_with fail
        refine (HFr.out _ c1y).mono ?_; rintro e y2 ⟨rfl, c2y⟩
        have x0 := below_cell c2y z0
        have x1 := below_cell c2y z1
        have x2 := below_cell c2y z2
        replace c2y := below_step c1y c2y
        have bw2 := below_step bw c2y
        clear z0 z1 z2 c1y
        rcases HSp.out with ⟨hn0, hok0⟩ | ⟨hn1, hn2, x, hat, hxn, hxv, hxo⟩
        · subst hn0
          subst hok0
          clear HSp
          go_wp2_with fail
          go_ret
          exact ⟨rfl, bw2⟩
        · replace hn2 : n ≤ 61 + nr := by rw [← HRl.out]; exact hn2
          have hnz : ((n : Int) == 0) = false := by rw [beq_eq_false_iff_ne]; omega
          have HAt := Lib.hid (pat_any Lt g m5 c5 rows n y2 (HPk.out y2 c2y) (WalkArith.wf_i64 (by omega)))
          rw [hat] at HAt
          obtain ⟨xn, xv, xb⟩ := x
          simp only at hxn hxv hxo HAt
          subst hxn
          subst hxv
          have Hxo := Lib.hid hxo
          clear HSp hat hxo hn1 hn2
          go_wp2_with fail
          refine HAt.out.mono ?_; rintro e y3 ⟨rfl, c3y⟩
          have hb3 := (Below.refl y3.heap.size y3).alloc (Nat.le_refl _) (.cells #[.string xn, .string xv, .bool false] 36)
          have z0 := below_cell hb3 (below_cell c3y x0)
          have z1 := below_cell hb3 (below_cell c3y x1)
          have bw3 := below_step bw2 c3y
          clear x0 x1 x2 hb3 c3y
          have hq1 := str_eq xn
          by_cases hv : xv = a1_1
          · have hok : ok = true := Hxo.out.mp hv
            have hq2 : (xv.toList == (a1_1).toList) = true := by rw [hv]; exact str_eq _
            subst hok
            clear hv
            go_wp2_with fail
            go_ret
            exact ⟨rfl, bw3.alloc bw3.size _⟩
          · have hok : ok = false := by
              cases ok with
              | false => rfl
              | true => exact absurd (Hxo.out.mpr rfl) hv
            have hq2 := str_ne hv
            subst hok
            clear hv
            go_wp2_with fail
            go_ret
            exact ⟨rfl, bw3.alloc bw3.size _⟩
    · have hpd1 : decide (0 < nr) = false := decide_eq_false hp1
      have hpd2 : decide ((0 : Int) < nr) = false := decide_eq_false (by omega)
      have HX := HBf5
      have bw := b5w
      clear HBf5 b5w
      have HFp := Lib.hid (fun v (hv : Below v5.heap.size v5 v) => pfind_any Lt g m5 c5 rows ⟨a1_0, a1_1, a1_2⟩ v (HPk.out v hv) (by have h0 := w1_0; unfold maxLen; simp only; omega) (by have h0 := w1_1; unfold maxLen; simp only; omega))
      have HFr := Lib.hid (fun v (hv : Below v5.heap.size v5 v) => rfind_any gr m5 rows ⟨a1_0, a1_1, a1_2⟩ Lr v (HRk.out v hv) (by rw [HRl.out]; omega))
      have hsp := find_spec rows ⟨a1_0, a1_1, a1_2⟩ HNv.out
      generalize findT rows ⟨a1_0, a1_1, a1_2⟩ = R at HFp HFr hsp
      obtain ⟨n, ok⟩ := R
      simp only at HFp HFr hsp
      have x0 := cell_at HX.out 0
      have x1 := cell_at HX.out 1
      have x2 := cell_at HX.out 2
      have HSp := Lib.hid hsp
      clear hsp
      go_wp2_with fail
      refine (HFp.out _ (Below.refl _ _)).mono ?_; rintro e y1 ⟨rfl, c1y⟩
      have z0 := below_cell c1y x0
      have z1 := below_cell c1y x1
      have z2 := below_cell c1y x2
      clear x0 x1 x2
      go_wp2_with fail
      refine (HFr.out _ c1y).mono ?_; rintro e y2 ⟨rfl, c2y⟩
      have x0 := below_cell c2y z0
      have x1 := below_cell c2y z1
      have x2 := below_cell c2y z2
      replace c2y := below_step c1y c2y
      have bw2 := below_step bw c2y
      clear z0 z1 z2 c1y
      rcases HSp.out with ⟨hn0, hok0⟩ | ⟨hn1, hn2, x, hat, hxn, hxv, hxo⟩
      · subst hn0
        subst hok0
        clear HSp
        go_wp2_with fail
        go_ret
        exact ⟨rfl, bw2⟩
      · replace hn2 : n ≤ 61 + nr := by rw [← HRl.out]; exact hn2
        have hnz : ((n : Int) == 0) = false := by rw [beq_eq_false_iff_ne]; omega
        have HAt := Lib.hid (pat_any Lt g m5 c5 rows n y2 (HPk.out y2 c2y) (WalkArith.wf_i64 (by omega)))
        rw [hat] at HAt
        obtain ⟨xn, xv, xb⟩ := x
        simp only at hxn hxv hxo HAt
        subst hxn
        subst hxv
        have Hxo := Lib.hid hxo
        clear HSp hat hxo hn1 hn2
        go_wp2_with fail
        refine HAt.out.mono ?_; rintro e y3 ⟨rfl, c3y⟩
        have hb3 := (Below.refl y3.heap.size y3).alloc (Nat.le_refl _) (.cells #[.string xn, .string xv, .bool false] 36)
        have z0 := below_cell hb3 (below_cell c3y x0)
        have z1 := below_cell hb3 (below_cell c3y x1)
        have bw3 := below_step bw2 c3y
        clear x0 x1 x2 hb3 c3y
        have hq1 := str_eq xn
        by_cases hv : xv = a1_1
        · have hok : ok = true := Hxo.out.mp hv
          have hq2 : (xv.toList == (a1_1).toList) = true := by rw [hv]; exact str_eq _
          subst hok
          clear hv
          go_wp2_with fail
          go_ret
          exact ⟨rfl, bw3.alloc bw3.size _⟩
        · have hok : ok = false := by
            cases ok with
            | false => rfl
            | true => exact absurd (Hxo.out.mpr rfl) hv
          have hq2 := str_ne hv
          subst hok
          clear hv
          go_wp2_with fail
          go_ret
          exact ⟨rfl, bw3.alloc bw3.size _⟩

set_option maxRecDepth 100000 in
theorem lifted (os : Os) (started : os.Started) (H : Type) (enc : TypeId × Value → H) :
    ReturnsInHanded {} Try.checked os 5 .any (Rows.tableFindsSpec.pre6 enc Try.prog Try.f5 Rows.tableFindsRow.domain false) (Rows.tableFindsSpec.post enc Try.prog Try.f5 false true false false) := by
  refine returnsInHanded_of_change_sized (C := Try.checked) own started (by kernel_rfl) Try.func5
    (ChangeSpec.witness6 (enc := enc) (C := Try.checked) false ⟨#[], #[.slice none 0 0, .agg #[.string ByteArray.empty, .string ByteArray.empty, .bool false], .int .i64 0], []⟩ 8 (by kernel_rfl) (by kernel_rfl) (by kernel_rfl) (by kernel_rfl)) ?_
  intro W base args ds gs before hval0 hW hcnd hsz0 _
  have hsz : (DataW.weightsEach Try.prog (Try.f5.params.toList ++ Rows.tableFindsSpec.plain.varTypes Try.prog) (ds ++ gs)).all (· ≤ reachBytes) = true := hsz0
  have hval : ∀ (j : Nat) t v, Try.f5.params[j]? = some t → args[j]? = some v → Value.okWide Try.prog W .any base t v := hval0
  have hW' := hW
  obtain ⟨p, q, hA0, hV, rfl, hfz, hnd⟩ := hW
  have hA : DataW.TrodAll enc Try.prog W 0 (fun _ => true) true Try.f5.params.toList args.toList ds p := hA0
  rw [Try.params5] at hA hval hsz
  obtain ⟨v0, vs0, d0, ds0, p0, q0, hargs, rfl, rfl, h0, t0⟩ := trodAll_cons hA
  obtain ⟨v1, vs1, d1, ds1, p1, q1, rfl, rfl, rfl, h1, t1⟩ := trodAll_cons t0
  obtain ⟨v2, vs2, d2, ds2, p2, q2, rfl, rfl, rfl, h2, t2⟩ := trodAll_cons t1
  obtain ⟨rfl, rfl, rfl⟩ := trodAll_nil t2
  obtain rfl : args = #[v0, v1, v2] := by cases args; simp_all
  obtain ⟨rfl, rfl⟩ := trodVars_none hV
  have k0 := h0
  have lt0 : ∀ x ∈ p0, x.block < W.heap.size := by obtain ⟨m, hm⟩ := k0; exact DataW.trod_lt m _ _ _ hm
  obtain ⟨a0, len0, cap0, rfl⟩ := okWide_slice Try.underlying22 (hval 0 22 v0 rfl rfl)
  obtain ⟨fuel0, hf0⟩ := h0
  have ok0 : Arg.AllOk W [.slc 56 [.int .i64, .str, .str, .bool, .int .i64]] [.slice a0 len0 cap0] := Arg.trod_leaves 9 22 [.slc 56 [.int .i64, .str, .str, .bool, .int .i64]] (by kernel_rfl) hf0 (Arg.sized hsz (j := 0) (t := 22) rfl rfl)
  obtain ⟨aa0, ll0, cc0, hv0, r0, w0⟩ := Arg.LeafOk.slc ok0.1
  simp only [Value.slice.injEq] at hv0
  obtain ⟨rfl, rfl, rfl⟩ := hv0
  have k1 := h1
  have lt1 : ∀ x ∈ p1, x.block < W.heap.size := by obtain ⟨m, hm⟩ := k1; exact DataW.trod_lt m _ _ _ hm
  obtain ⟨cs1, rfl, hcs1⟩ := okWide_struct Try.underlying36 (hval 1 36 v1 rfl rfl)
  obtain ⟨cs1⟩ := cs1
  obtain ⟨fuel1, hf1⟩ := h1
  have ok1 : Arg.AllOk W [.str, .str, .bool] cs1 := Arg.trod_leaves 9 36 [.str, .str, .bool] (by kernel_rfl) hf1 (Arg.sized hsz (j := 1) (t := 36) rfl rfl)
  obtain ⟨u1_0, q1_0, rfl, l1_0, ok1_0⟩ := Arg.AllOk.cons ok1
  obtain ⟨a1_0, rfl, w1_0⟩ := Arg.LeafOk.str l1_0
  obtain ⟨u1_1, q1_1, rfl, l1_1, ok1_1⟩ := Arg.AllOk.cons ok1_0
  obtain ⟨a1_1, rfl, w1_1⟩ := Arg.LeafOk.str l1_1
  obtain ⟨u1_2, q1_2, rfl, l1_2, ok1_2⟩ := Arg.AllOk.cons ok1_1
  obtain ⟨a1_2, rfl⟩ := Arg.LeafOk.bool l1_2
  obtain rfl := Arg.AllOk.nil ok1_2
  have k2 := h2
  have lt2 : ∀ x ∈ p2, x.block < W.heap.size := by obtain ⟨m, hm⟩ := k2; exact DataW.trod_lt m _ _ _ hm
  obtain ⟨a2, rfl, rfl, rfl, w2⟩ := open_int Try.underlying3 (hval 2 3 v2 rfl rfl) h2
  clear hA0 hval0 hsz0
  refine (walk a0 len0 cap0 a1_0 a1_1 a1_2 a2 W w0 r0 w1_0 w1_1 w2).mono fun e W' ⟨he, bel⟩ => ?_
  subst he
  exact ⟨_, rfl, _, _, _, [], _, [], hW', trodAll_mk1 (shut_bool Try.underlying4 _), (trodAll_cons_mk (Below.trod laidOut (by kernel_rfl) (of_decide_eq_true (by kernel_rfl)) k0 bel lt0) (trodAll_cons_mk (Below.trod laidOut (by kernel_rfl) (of_decide_eq_true (by kernel_rfl)) k1 bel lt1) (trodAll_cons_mk (Below.trod laidOut (by kernel_rfl) (of_decide_eq_true (by kernel_rfl)) k2 bel lt2) trodAll_mk0))), rfl, bel.frame _, fun h => by cases h⟩

theorem over : Rows.tableFindsRow.holds Try.pinned (OpenSpec.ofChange Rows.tableFindsSpec) :=
  OpenClaim.holds_of_wide 5 Try.f5 rfl rfl rfl rfl rfl rfl rfl ⟨rfl, rfl, rfl, rfl, rfl⟩ rfl rfl rfl rfl rfl (by kernel_rfl) Try.func5 (by kernel_rfl)
    (of_decide_eq_true (by kernel_rfl)) (by unfold Func.isWrapper; first | (rw [if_pos (by decide +kernel)]; kernel_rfl) | (rw [if_neg (by decide +kernel)]; exact ⟨rfl, rfl⟩))
    (fun os started H enc _ => lifted os started H enc)

theorem proved : Rows.TableFindsSaid := over
end Go.Proofs.Ytifaecmmnconpaa.tableFinds
