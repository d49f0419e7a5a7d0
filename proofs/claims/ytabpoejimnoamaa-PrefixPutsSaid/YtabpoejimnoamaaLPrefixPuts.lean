/-
  PrefixPuts holds for every flags, every size of a prefix and every number: prefix.PutInt is the document's own row of bytes, or refused just where the document says; no conditions.
-/
import Derived.Test.YtabpoejimnoamaaRows
import Derived.WalkKit
import Derived.ProofKit
import Derived.OpenShut
import Derived.ShutString
import Derived.SizedLaws
import Derived.Test.YtabpoejimnoamaaMem
import Derived.Test.YtabpoejimnoamaaHufPure
import Derived.Test.YtabpoejimnoamaaGen
import Derived.Test.YtabpoejimnoamaaBytes
import Derived.Test.YtabpoejimnoamaaMem2
import Derived.Test.YtabpoejimnoamaaPrePure
import Derived.Test.YtabpoejimnoamaaPreBack
import Derived.Test.YtabpoejimnoamaaPre1
import Derived.Test.YtabpoejimnoamaaPreP
import Derived.Test.YtabpoejimnoamaaPreQ
import Derived.Test.YtabpoejimnoamaaPre5
namespace Go.Proofs.Ytabpoejimnoamaa.prefixPuts
open Go.ChangeShapes Go.WideShapes Go.ChangeAt Go.RowKit
open Go.Proofs.Ytabpoejimnoamaa Huf Pre Mem Gen
open Go.ChangeMaps (open_string shut_string)
set_option linter.unusedVariables false

theorem own : ownKnob Try.prog.godebug = none := by kernel_rfl
theorem laidOut : laidOutB Try.prog = true := by kernel_rfl

set_option maxRecDepth 100000 in
set_option maxHeartbeats 2000000 in
theorem walk (a0 : Int) (a1 : Int) (a2 : Int) (w : World) (w0 : (Lit.int .u8 a0).wf = true) (w1 : (Lit.int .i64 a1).wf = true) (w2 : (Lit.int .u32 a2).wf = true) :
    Calls Try.prog 3 #[.int .u8 a0, .int .i64 a1, .int .u32 a2] w fun e w' => e = .returned (.bool true) ∧ Below w.heap.size w w' := by
  have hx0 : 0 ≤ a0 ∧ a0 ≤ 255 := by simpa [Lit.wf, IntKind.min, IntKind.max, IntKind.signed, IntKind.bits] using w0
  have hx2 : 0 ≤ a2 ∧ a2 ≤ 4294967295 := by simpa [Lit.wf, IntKind.min, IntKind.max, IntKind.signed, IntKind.bits] using w2
  obtain ⟨f, rfl⟩ := Int.eq_ofNat_of_zero_le hx0.1
  obtain ⟨n, rfl⟩ := Int.eq_ofNat_of_zero_le hx2.1
  have hf : f < 256 := by omega
  have hn : n < 4294967296 := by omega
  clear w0 w1 w2 hx0 hx2
  by_cases hk : a1 < 1 ∨ 8 < a1
  · have PB := Lib.hid (fun v => pputint_bad f a1 n v hf hn (by omega))
    by_cases hk1 : a1 < 1
    · clear hk
      go_enter Try.func3, Try.ntmps3
      go_wp2_with fail
      refine (counts_any _).mono ?_; rintro e v1 ⟨rfl, b1⟩
      go_wp2_with fail
      refine (PB.out _).mono ?_; rintro e v2 ⟨ad2, cp2, rfl, hown2, b2⟩
      replace b2 := below_step b1 b2
      clear hown2
      go_wp2_with fail
      go_ret
      exact ⟨rfl, b2⟩
    · have hk8 : 8 < a1 := by omega
      clear hk
      go_enter Try.func3, Try.ntmps3
      go_wp2_with fail
      refine (counts_any _).mono ?_; rintro e v1 ⟨rfl, b1⟩
      go_wp2_with fail
      refine (PB.out _).mono ?_; rintro e v2 ⟨ad2, cp2, rfl, hown2, b2⟩
      replace b2 := below_step b1 b2
      clear hown2
      go_wp2_with fail
      go_ret
      exact ⟨rfl, b2⟩
  · obtain ⟨k, rfl⟩ := Int.eq_ofNat_of_zero_le (show 0 ≤ a1 by omega)
    have h1 : 1 ≤ k := by omega
    have h8 : k ≤ 8 := by omega
    have k1 : ¬ (k : Int) < 1 := by omega
    have k8 : ¬ (8 : Int) < k := by omega
    have HB1 : Hid (∀ i, i < k → f / 2 ^ i % 2 = 1 → f % 2 ^ k ≠ 0) := Lib.hid (fun i hi h => flag_one f i k hi h)
    have HB0 : Hid (∀ i, f % 2 ^ i = 0 → f / 2 ^ i % 2 ≠ 1 → f % 2 ^ (i + 1) = 0) := Lib.hid (fun i h h2 => flag_zero f i h h2)
    have HPw : Hid (∀ i, i < 7 → 2 ^ (i + 1) = 2 ^ i * 2 ∧ 2 ^ i ≤ 64) := Lib.hid (fun i hi => ⟨Nat.pow_succ .., Nat.pow_le_pow_right (show 0 < 2 by decide) (show i ≤ 6 by omega)⟩)
    clear hk
    by_cases hfk : f % 2 ^ k = 0
    · have PG := Lib.hid (fun v => pputint_ok f k n v hf h1 h8 hfk hn)
      have RG := Lib.hid (fun v => rputint_any f k n v hf h1 h8 hn)
      have HFk := Lib.hid hfk
      generalize putI f k n = X at PG RG
      have BY : Hid (∀ (v : World) a b ca cb, RB v a X → RB v b X → Calls Try.prog 8 #[.slice a X.length ca, .slice b X.length cb] v fun e w' => e = .returned (.bool true) ∧ v = w') := Lib.hid (fun v a b ca cb ha hb => by
        have h := bytes_any a b X X ca cb v ha hb
        rwa [decide_eq_true rfl] at h)
      clear hfk
      go_enter Try.func3, Try.ntmps3
      go_wp2_with fail
      refine (counts_any _).mono ?_; rintro e v1 ⟨rfl, b1⟩
      go_wp2_with fail
      refine (PG.out _).mono ?_; rintro e v2 ⟨ad2, cp2, rfl, hown2, b2⟩
      have R2 : Hid (RB v2 ad2 X) := Lib.hid (RB.of_own hown2.out)
      replace b2 := below_step b1 b2
      clear hown2
      go_wp2_with fail
      go_loop [9, 10] (fun vl vi => ∃ (i lo : Nat), i ≤ k ∧ 1 ≤ lo ∧ lo ≤ 128 ∧ vi = .int .i64 i ∧ vl = .int .u8 lo ∧ Hid (i ≤ 7 → lo = 2 ^ i) ∧ Hid (f % 2 ^ i = 0)) (fun _ vi => k - (intOf vi).toNat)
      case atStart => exact ⟨0, 1, by omega, by omega, by omega, rfl, rfl, Lib.hid (fun _ => rfl), Lib.hid (by simp [Nat.mod_one])⟩
      case round =>
        obtain ⟨i, lo, hik, hlo, hlo8, rfl, rfl, HLo, HZ⟩ := hrel
        by_cases hlt : i < k
        · have hlt' : (i : Int) < k := by omega
          have hlo2 := HLo.out (by omega)
          have hbit : ¬ f / lo % 2 = 1 := by
            rw [hlo2]; intro h; exact HB1.out i hlt h HFk.out
          have hbit' : (((f : Int) / (lo : Int)) % 2 == 1) = false := by
            have : ((f : Int) / (lo : Int)) = ((f / lo : Nat) : Int) := (Int.natCast_ediv f lo).symm
            rw [this]; simp; omega
          have HZ2 : Hid (f % 2 ^ (i + 1) = 0) := Lib.hid (HB0.out i HZ.out (by rw [← hlo2]; exact hbit))
          have hl0 : (0 : Int) < lo := by omega
          have hl1 : ((lo : Int) == 0) = false := by simp; omega
          have hl2 : ¬ (lo : Int) = 0 := by omega
          by_cases h7 : i < 7
          · have h7' : (i : Int) < 7 := by omega
            have hp := HPw.out i h7
            have hlo64 : lo ≤ 64 := by rw [hlo2]; exact hp.2
            have HLo2 : Hid (i + 1 ≤ 7 → lo * 2 = 2 ^ (i + 1)) := Lib.hid (fun _ => by rw [hp.1, ← hlo2])
            clear hlo2 hp HLo HZ hbit
            go_wp2_with fail
            go_round
            case rel => exact ⟨i + 1, lo * 2, by omega, by omega, by omega, by go_num, by go_num, HLo2, HZ2⟩
            case measure => first | (simp [intOf]; done) | (simp [intOf]; omega)
          · have h7' : ¬ (i : Int) < 7 := by omega
            have HLo2 : Hid (i + 1 ≤ 7 → lo = 2 ^ (i + 1)) := Lib.hid (fun h => by omega)
            clear hlo2 HLo HZ hbit
            go_wp2_with fail
            go_round
            case rel => exact ⟨i + 1, lo, by omega, hlo, hlo8, by go_num, rfl, HLo2, HZ2⟩
            case measure => first | (simp [intOf]; done) | (simp [intOf]; omega)
        · have hlt' : ¬ (i : Int) < k := by omega
          go_wp2_with fail
          refine (RG.out _).mono ?_; rintro e v3 ⟨ad3, cp3, rfl, hown3, b3⟩
          have R3 : Hid (RB v3 ad3 X) := Lib.hid (RB.of_own hown3.out)
          have R2' : Hid (RB v3 ad2 X) := Lib.hid (R2.out.below b3)
          replace b3 := below_step b2 b3
          clear hown3
          go_wp2_with fail
          refine (BY.out _ _ _ _ _ R2'.out R3.out).mono ?_; rintro e w' ⟨rfl, rfl⟩
          go_wp2_with fail
          go_ret
          exact ⟨rfl, b3⟩
    · have PB := Lib.hid (fun v => pputint_bad f k n v hf hn (Or.inr (Or.inr (by rw [Int.toNat_natCast]; exact hfk))))
      have HFk := Lib.hid hfk
      clear hfk
      go_enter Try.func3, Try.ntmps3
      go_wp2_with fail
      refine (counts_any _).mono ?_; rintro e v1 ⟨rfl, b1⟩
      go_wp2_with fail
      refine (PB.out _).mono ?_; rintro e v2 ⟨ad2, cp2, rfl, hown2, b2⟩
      replace b2 := below_step b1 b2
      clear hown2
      go_wp2_with fail
      go_loop [9, 10] (fun vl vi => ∃ (i lo : Nat), i ≤ k ∧ 1 ≤ lo ∧ lo ≤ 128 ∧ vi = .int .i64 i ∧ vl = .int .u8 lo ∧ Hid (i ≤ 7 → lo = 2 ^ i) ∧ Hid (f % 2 ^ i = 0)) (fun _ vi => k - (intOf vi).toNat)
      case atStart => exact ⟨0, 1, by omega, by omega, by omega, rfl, rfl, Lib.hid (fun _ => rfl), Lib.hid (by simp [Nat.mod_one])⟩
      case round =>
        obtain ⟨i, lo, hik, hlo, hlo8, rfl, rfl, HLo, HZ⟩ := hrel
        by_cases hlt : i < k
        · have hlt' : (i : Int) < k := by omega
          have hlo2 := HLo.out (by omega)
          have hl0 : (0 : Int) < lo := by omega
          have hl1 : ((lo : Int) == 0) = false := by simp; omega
          have hl2 : ¬ (lo : Int) = 0 := by omega
          have hq : ((f : Int) / (lo : Int)) = ((f / lo : Nat) : Int) := (Int.natCast_ediv f lo).symm
          by_cases hbit : f / lo % 2 = 1
          · have hbit' : (((f : Int) / (lo : Int)) % 2 == 1) = true := by rw [hq]; simp; omega
            clear hlo2 HLo HZ hbit hq
            go_wp2_with fail
            go_ret
            exact ⟨rfl, b2⟩
          · have hbit' : (((f : Int) / (lo : Int)) % 2 == 1) = false := by rw [hq]; simp; omega
            have HZ2 : Hid (f % 2 ^ (i + 1) = 0) := Lib.hid (HB0.out i HZ.out (by rw [← hlo2]; exact hbit))
            by_cases h7 : i < 7
            · have h7' : (i : Int) < 7 := by omega
              have hp := HPw.out i h7
              have hlo64 : lo ≤ 64 := by rw [hlo2]; exact hp.2
              have HLo2 : Hid (i + 1 ≤ 7 → lo * 2 = 2 ^ (i + 1)) := Lib.hid (fun _ => by rw [hp.1, ← hlo2])
              clear hlo2 hp HLo HZ hbit hq
              go_wp2_with fail
              go_round
              case rel => exact ⟨i + 1, lo * 2, by omega, by omega, by omega, by go_num, by go_num, HLo2, HZ2⟩
              case measure => first | (simp [intOf]; done) | (simp [intOf]; omega)
            · have h7' : ¬ (i : Int) < 7 := by omega
              have HLo2 : Hid (i + 1 ≤ 7 → lo = 2 ^ (i + 1)) := Lib.hid (fun h => by omega)
              clear hlo2 HLo HZ hbit hq
              go_wp2_with fail
              go_round
              case rel => exact ⟨i + 1, lo, by omega, hlo, hlo8, by go_num, rfl, HLo2, HZ2⟩
              case measure => first | (simp [intOf]; done) | (simp [intOf]; omega)
        · exfalso
          have : i = k := by omega
          exact HFk.out (by rw [← this]; exact HZ.out)

set_option maxRecDepth 100000 in
theorem lifted (os : Os) (started : os.Started) (H : Type) (enc : TypeId × Value → H) :
    ReturnsInHanded {} Try.checked os 3 .any (Rows.prefixPutsSpec.pre6 enc Try.prog Try.f3 Rows.prefixPutsRow.domain false) (Rows.prefixPutsSpec.post enc Try.prog Try.f3 false true false false) := by
  refine returnsInHanded_of_change_sized (C := Try.checked) own started (by kernel_rfl) Try.func3
    (ChangeSpec.witness6 (enc := enc) (C := Try.checked) false ⟨#[], #[.int .u8 0, .int .i64 0, .int .u32 0], []⟩ 8 (by kernel_rfl) (by kernel_rfl) (by kernel_rfl) (by kernel_rfl)) ?_
  intro W base args ds gs before hval0 hW hcnd hsz0 _
  have hsz : (DataW.weightsEach Try.prog (Try.f3.params.toList ++ Rows.prefixPutsSpec.plain.varTypes Try.prog) (ds ++ gs)).all (· ≤ reachBytes) = true := hsz0
  have hval : ∀ (j : Nat) t v, Try.f3.params[j]? = some t → args[j]? = some v → Value.okWide Try.prog W .any base t v := hval0
  have hW' := hW
  obtain ⟨p, q, hA0, hV, rfl, hfz, hnd⟩ := hW
  have hA : DataW.TrodAll enc Try.prog W 0 (fun _ => true) true Try.f3.params.toList args.toList ds p := hA0
  rw [Try.params3] at hA hval hsz
  obtain ⟨v0, vs0, d0, ds0, p0, q0, hargs, rfl, rfl, h0, t0⟩ := trodAll_cons hA
  obtain ⟨v1, vs1, d1, ds1, p1, q1, rfl, rfl, rfl, h1, t1⟩ := trodAll_cons t0
  obtain ⟨v2, vs2, d2, ds2, p2, q2, rfl, rfl, rfl, h2, t2⟩ := trodAll_cons t1
  obtain ⟨rfl, rfl, rfl⟩ := trodAll_nil t2
  obtain rfl : args = #[v0, v1, v2] := by cases args; simp_all
  obtain ⟨rfl, rfl⟩ := trodVars_none hV
  have k0 := h0
  have lt0 : ∀ x ∈ p0, x.block < W.heap.size := by obtain ⟨m, hm⟩ := k0; exact DataW.trod_lt m _ _ _ hm
  obtain ⟨a0, rfl, rfl, rfl, w0⟩ := open_int Try.underlying5 (hval 0 5 v0 rfl rfl) h0
  have k1 := h1
  have lt1 : ∀ x ∈ p1, x.block < W.heap.size := by obtain ⟨m, hm⟩ := k1; exact DataW.trod_lt m _ _ _ hm
  obtain ⟨a1, rfl, rfl, rfl, w1⟩ := open_int Try.underlying3 (hval 1 3 v1 rfl rfl) h1
  have k2 := h2
  have lt2 : ∀ x ∈ p2, x.block < W.heap.size := by obtain ⟨m, hm⟩ := k2; exact DataW.trod_lt m _ _ _ hm
  obtain ⟨a2, rfl, rfl, rfl, w2⟩ := open_int Try.underlying22 (hval 2 22 v2 rfl rfl) h2
  clear hA0 hval0 hsz0
  refine (walk a0 a1 a2 W w0 w1 w2).mono fun e W' ⟨he, bel⟩ => ?_
  subst he
  exact ⟨_, rfl, _, _, _, [], _, [], hW', trodAll_mk1 (shut_bool Try.underlying4 _), (trodAll_cons_mk (Below.trod laidOut (by kernel_rfl) (of_decide_eq_true (by kernel_rfl)) k0 bel lt0) (trodAll_cons_mk (Below.trod laidOut (by kernel_rfl) (of_decide_eq_true (by kernel_rfl)) k1 bel lt1) (trodAll_cons_mk (Below.trod laidOut (by kernel_rfl) (of_decide_eq_true (by kernel_rfl)) k2 bel lt2) trodAll_mk0))), rfl, bel.frame _, fun h => by cases h⟩

theorem over : Rows.prefixPutsRow.holds Try.pinned (OpenSpec.ofChange Rows.prefixPutsSpec) :=
  OpenClaim.holds_of_wide 3 Try.f3 rfl rfl rfl rfl rfl rfl rfl ⟨rfl, rfl, rfl, rfl, rfl⟩ rfl rfl rfl rfl rfl (by kernel_rfl) Try.func3 (by kernel_rfl)
    (of_decide_eq_true (by kernel_rfl)) (by unfold Func.isWrapper; first | (rw [if_pos (by decide +kernel)]; kernel_rfl) | (rw [if_neg (by decide +kernel)]; exact ⟨rfl, rfl⟩))
    (fun os started H enc _ => lifted os started H enc)

theorem proved : Rows.PrefixPutsSaid := over
end Go.Proofs.Ytabpoejimnoamaa.prefixPuts
