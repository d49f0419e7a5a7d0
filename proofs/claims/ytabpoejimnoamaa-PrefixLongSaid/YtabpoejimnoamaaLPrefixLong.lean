/-
  PrefixLong holds for every number and every prefix: with bytes more than it needs a number says the same, as long as they are five behind the first one at most, and nothing with more; no conditions.
-/
import Derived.Test.YtabpoejimnoamaaRows
import Derived.WalkKit
import Derived.ProofKit
import Derived.OpenShut
import Derived.ShutString
import Derived.SizedLaws
import Derived.Test.YtabpoejimnoamaaMem
import Derived.Test.YtabpoejimnoamaaHufPure
import Derived.Test.YtabpoejimnoamaaGen
import Derived.Test.YtabpoejimnoamaaMem2
import Derived.Test.YtabpoejimnoamaaPrePure
import Derived.Test.YtabpoejimnoamaaPreBack
import Derived.Test.YtabpoejimnoamaaPre1
import Derived.Test.YtabpoejimnoamaaPre2
import Derived.Test.YtabpoejimnoamaaPreP
import Derived.Test.YtabpoejimnoamaaPreQ
import Derived.Test.YtabpoejimnoamaaPre5
namespace Go.Proofs.Ytabpoejimnoamaa.prefixLong
open Go.ChangeShapes Go.WideShapes Go.ChangeAt Go.RowKit
open Go.Proofs.Ytabpoejimnoamaa Huf Pre Mem Gen
open Go.ChangeMaps (open_string shut_string)
set_option linter.unusedVariables false

theorem own : ownKnob Try.prog.godebug = none := by kernel_rfl
theorem laidOut : laidOutB Try.prog = true := by kernel_rfl

set_option maxRecDepth 100000 in
set_option maxHeartbeats 2000000 in
theorem walk (a0 : Int) (a1 : Int) (a2 : Int) (w : World) (w0 : (Lit.int .u32 a0).wf = true) (w1 : (Lit.int .u8 a1).wf = true) (w2 : (Lit.int .u8 a2).wf = true) :
    Calls Try.prog 5 #[.int .u32 a0, .int .u8 a1, .int .u8 a2] w fun e w' => e = .returned (.bool true) ∧ Below w.heap.size w w' := by
  have hx0 : 0 ≤ a0 ∧ a0 ≤ 4294967295 := by simpa [Lit.wf, IntKind.min, IntKind.max, IntKind.signed, IntKind.bits] using w0
  have hx1 : 0 ≤ a1 ∧ a1 ≤ 255 := by simpa [Lit.wf, IntKind.min, IntKind.max, IntKind.signed, IntKind.bits] using w1
  have hx2 : 0 ≤ a2 ∧ a2 ≤ 255 := by simpa [Lit.wf, IntKind.min, IntKind.max, IntKind.signed, IntKind.bits] using w2
  obtain ⟨m, hm⟩ := Int.eq_ofNat_of_zero_le (show 0 ≤ a0 % 2147483648 by omega)
  obtain ⟨k, hk⟩ := Int.eq_ofNat_of_zero_le (show 0 ≤ 1 + a1 % 8 by omega)
  obtain ⟨q, hq⟩ := Int.eq_ofNat_of_zero_le (show 0 ≤ a2 % 5 by omega)
  have hmb : m ≤ 2147483647 := by omega
  have hk1 : 1 ≤ k := by omega
  have hk8 : k ≤ 8 := by omega
  have hq4 : q ≤ 4 := by omega
  obtain ⟨i0, hi, hz0, hz1, hz2⟩ := info_parts info_u8
  have HI := Lib.hid hi
  have HZ0 := Lib.hid hz0
  have HZ1 := Lib.hid hz1
  have HZ2 := Lib.hid hz2
  have hX := putI_len 0 k m
  have RP : Hid (∀ v, Calls Try.prog 9 #[.int .u8 0, .int .i64 k, .int .u32 m] v (MadeB v (putI 0 k m))) := Lib.hid (fun v => rputint_any 0 k m v (by decide) hk1 hk8 (by omega))
  have HLast := Lib.hid (putI_last 0 k m hmb)
  have HLong := Lib.hid (takeN_long k m q hk1 hk8 hmb)
  generalize putI 0 k m = X at hX RP HLast HLong
  obtain ⟨hX1, hX6⟩ := hX
  have hxb1 : 0 ≤ a1 := hx1.1
  have hxb2 : 0 ≤ a2 := hx2.1
  have hxb0 : 0 ≤ a0 := hx0.1
  have HK := Lib.hid hk
  have HM := Lib.hid hm
  have HQ := Lib.hid hq
  clear hi hz0 hz1 hz2 w0 w1 w2
  by_cases hone : X.length = 1
  · have hone' : ((X.length : Int) == 1) = true := by simp [hone]
    clear hone
    go_enter Try.func5, Try.ntmps5
    go_wp2_with fail
    refine (counts_any _).mono ?_; rintro e v1 ⟨rfl, b1⟩
    go_wp2_with fail
    refine (RP.out _).mono ?_; rintro e v2 ⟨ad2, cp2, rfl, hown2, b2⟩
    replace b2 := below_step b1 b2
    clear hown2
    go_wp2_with fail
    go_ret
    exact ⟨rfl, b2⟩
  · have hone' : ((X.length : Int) == 1) = false := by simp; omega
    have HOne := Lib.hid hone
    have hlm : (X.length : Int) - 1 = ((X.length - 1 : Nat) : Int) := by omega
    have hlast := HLast.out hone (by omega)
    have HSet := Lib.hid (lastUp_set X (by omega))
    have HUl := Lib.hid (lastUp_len X)
    have HLong2 := Lib.hid (HLong.out hone)
    have hlt1 : X.length - 1 < X.length := by omega
    clear hone
    go_enter Try.func5, Try.ntmps5
    go_wp2_with fail
    refine (counts_any _).mono ?_; rintro e v1 ⟨rfl, b1⟩
    go_wp2_with fail
    refine (RP.out _).mono ?_; rintro e v2 ⟨ad2, cp2, rfl, hown2, b2⟩
    obtain ⟨g, rfl⟩ : ∃ g, ad2 = some ⟨g, 0, none⟩ := by
      rcases hown2.out.2 with ⟨_, h⟩ | ⟨g, cap, cur, h, _⟩
      · omega
      · simp only [Value.slice.injEq] at h; exact ⟨g, h.1⟩
    have hcell : v2.cell? ⟨g, X.length - 1, none⟩ = some (.int .u8 ((X[X.length - 1]'hlt1).toNat : Int)) := (hown2.out.cellAt (X.length - 1) (by omega)).trans (bvs_at X (X.length - 1) hlt1)
    have hfz := hown2.out.frozenAt (X.length - 1)
    have hv : Hid (((X[X.length - 1]'hlt1).toNat : Int) + 128 = ((UInt8.ofNat ((X[X.length - 1]'hlt1).toNat + 128)).toNat : Int)) := Lib.hid (by rw [UInt8.toNat_ofNat', Nat.mod_eq_of_lt (by omega)]; omega)
    have HO2 : Hid ((v2.setCell ⟨g, X.length - 1, none⟩ (.int .u8 (((X[X.length - 1]'hlt1).toNat : Int) + 128))).ownsRow v1.heap.size 5 1 (.slice (some ⟨g, 0, none⟩) X.length cp2) X.length (bvs (lastUp X))) := Lib.hid (by
      have h := (hown2.out.stored (X.length - 1) (.int .u8 (((X[X.length - 1]'hlt1).toNat : Int) + 128))).1
      rw [hv.out, bvs_set, ← HSet.out, ← hv.out] at h
      exact h)
    have hge : v1.heap.size ≤ g := (hown2.out.lt g rfl).1
    have b2v := b2
    have hbs := Lib.hid b1.size
    replace b2 : Below v1.heap.size v1 (v2.setCell ⟨g, X.length - 1, none⟩ (.int .u8 (((X[X.length - 1]'hlt1).toNat : Int) + 128))) := b2v.setCell hge _
    clear hown2 b2v
    obtain ⟨U, hU⟩ : ∃ U, lastUp X = U := ⟨_, rfl⟩
    rw [hU] at HO2 HUl HLong2
    obtain ⟨L, hL⟩ : ∃ L, X.length = L := ⟨_, rfl⟩
    have HO3 : Hid ((v2.setCell ⟨g, X.length - 1, none⟩ (.int .u8 (((X[X.length - 1]'hlt1).toNat : Int) + 128))).ownsRow v1.heap.size 5 1 (.slice (some ⟨g, 0, none⟩) U.length cp2) U.length (bvs U)) := Lib.hid (by rw [HUl.out]; exact HO2.out)
    have HStart : Hid (U = U ++ List.replicate 0 128) := Lib.hid (by simp)
    have HUL : Hid (U.length = L) := Lib.hid (by rw [HUl.out, hL])
    have HLong3 : Hid (takeN (U ++ (List.replicate q 128 ++ [0])) k = if L + q + 1 ≤ 6 then (m, L + q + 1, 0) else (0, 0, 11)) := Lib.hid (by rw [HLong2.out, hL])
    have hL6 : L ≤ 6 := by omega
    have hbU : Hid (X.length = U.length) := Lib.hid (by rw [HUL.out, hL])
    clear hU hL HO2 HUl HLong2 HSet HLast HLong hv
    go_wp2_with fail
    go_loopw [8, 9] (fun vb vi wr => ∃ (i : Nat) (ad : Option Addr) (cp : Nat) (E : List UInt8), i ≤ q ∧ vi = .int .i64 i ∧ vb = .slice ad E.length cp ∧ E.length ≤ 6 + i ∧ Hid (E = U ++ List.replicate i 128) ∧ Hid (wr.ownsRow v1.heap.size 5 1 (.slice ad E.length cp) E.length (bvs E)) ∧ Below v1.heap.size v1 wr) (fun _ vi _ => q - (intOf vi).toNat)
    case atStart => exact ⟨0, _, cp2, U, by omega, rfl, by rw [hbU.out], by have := HUL.out; omega, HStart, HO3, b2⟩
    case round =>
      clear HO3 HStart
      obtain ⟨i, ad, cp, E, hiq, rfl, rfl, hE, HE, HO, hbel⟩ := hrel
      have hbsz := Lib.hid hbel.size
      by_cases hlt : i < q
      · have hlt' : (i : Int) < q := by omega
        obtain ⟨E2, hE2⟩ : ∃ E2, E2 = E ++ [128] := ⟨_, rfl⟩
        have HE2 := Lib.hid hE2
        have HE3 : Hid (E2 = U ++ List.replicate (i + 1) 128) := Lib.hid (by rw [hE2, HE.out, List.replicate_succ', List.append_assoc])
        have hl2 : E2.length ≤ 6 + (i + 1) := by rw [hE2, List.length_append]; simp; omega
        have HL2 : Hid (E2.length ≤ 140737488355328) := Lib.hid (by omega)
        clear hE2
        go_wp2_with (at_builtin; refine append_byte3 Try.underlying24 HI.out HZ0.out HZ1.out HZ2.out rfl _ _ rfl v1.heap.size (.slice ad E.length cp) E 128 _ rfl rfl HO.out rfl E2 HE2.out HL2.out hbsz.out ?_; intro ad4 cp4 w4 hown4 hb4)
        go_roundw
        case rel => exact ⟨i + 1, ad4, cp4, E2, by omega, by go_num, rfl, hl2, HE3, hown4, hb4 _ _ hbel (Nat.le_refl _)⟩
        case measure => first | (simp [intOf]; done) | (simp [intOf]; omega)
      · have hlt' : ¬ (i : Int) < q := by omega
        obtain ⟨E2, hE2⟩ : ∃ E2, E2 = E ++ [0] := ⟨_, rfl⟩
        have HE2 := Lib.hid hE2
        have hiq' : i = q := by omega
        have HE3 : Hid (E2 = U ++ (List.replicate q 128 ++ [0])) := Lib.hid (by rw [hE2, HE.out, hiq', List.append_assoc])
        have hl2 : E2.length = L + q + 1 := by rw [HE3.out]; simp only [List.length_append, List.length_replicate, List.length_singleton, HUL.out]; omega
        have HL2 : Hid (E2.length ≤ 140737488355328) := Lib.hid (by omega)
        have PT : Hid (∀ v a c, RB v a E2 → E2.length ≤ c → Calls Try.prog 10 #[.slice a E2.length c, .int .i64 k] v fun e w' => e = .returned (.tuple #[.int .i64 (takeN E2 k).1, .int .i64 (takeN E2 k).2.1, .int .i64 (takeN E2 k).2.2]) ∧ Below v.heap.size v w') := Lib.hid (fun v a c hr hc => by
          have h := ptakeint_any a E2 c k v (by omega) hc hr
          rwa [takeI, if_neg (by omega), Int.toNat_natCast] at h)
        rw [HE3.out, HLong3.out, ← HE3.out] at PT
        have Hl2 := Lib.hid hl2
        clear hE2 hiq'
        by_cases h6 : L + q + 1 ≤ 6
        · rw [if_pos h6] at PT
          have h6' : ¬ (6 : Int) < E2.length := by omega
          have hcnt : Hid (((L + q + 1 : Nat) : Int) = (E2.length : Int)) := Lib.hid (by omega)
          simp only [hcnt.out] at PT
          clear hl2 h6
          go_wp2_with (at_builtin; refine append_byte3 Try.underlying24 HI.out HZ0.out HZ1.out HZ2.out rfl (.tmp 49) (.tmp 50) rfl v1.heap.size (.slice ad E.length cp) E 0 _ rfl rfl HO.out rfl E2 HE2.out HL2.out hbsz.out ?_; intro ad4 cp4 w4 hown4 hb4)
          have R4 : Hid (RB w4 ad4 E2) := Lib.hid (RB.of_own hown4.out)
          have b4 := below_step b1 (hb4 _ _ hbel (Nat.le_refl _))
          have C4 := Lib.hid (own_le hown4.out).1
          clear hown4 hb4
          go_wp2_with fail
          refine (PT.out _ _ _ R4.out C4.out).mono ?_; rintro e v5 ⟨rfl, b5⟩
          replace b5 := below_step b4 b5
          go_wp2_with fail
          go_ret
          exact ⟨by simp, b5⟩
        · rw [if_neg h6] at PT
          have h6' : (6 : Int) < E2.length := by omega
          clear hl2 h6
          go_wp2_with (at_builtin; refine append_byte3 Try.underlying24 HI.out HZ0.out HZ1.out HZ2.out rfl (.tmp 49) (.tmp 50) rfl v1.heap.size (.slice ad E.length cp) E 0 _ rfl rfl HO.out rfl E2 HE2.out HL2.out hbsz.out ?_; intro ad4 cp4 w4 hown4 hb4)
          have R4 : Hid (RB w4 ad4 E2) := Lib.hid (RB.of_own hown4.out)
          have b4 := below_step b1 (hb4 _ _ hbel (Nat.le_refl _))
          have C4 := Lib.hid (own_le hown4.out).1
          clear hown4 hb4
          go_wp2_with fail
          refine (PT.out _ _ _ R4.out C4.out).mono ?_; rintro e v5 ⟨rfl, b5⟩
          replace b5 := below_step b4 b5
          go_wp2_with fail
          go_ret
          exact ⟨rfl, b5⟩

set_option maxRecDepth 100000 in
theorem lifted (os : Os) (started : os.Started) (H : Type) (enc : TypeId × Value → H) :
    ReturnsInHanded {} Try.checked os 5 .any (Rows.prefixLongSpec.pre6 enc Try.prog Try.f5 Rows.prefixLongRow.domain false) (Rows.prefixLongSpec.post enc Try.prog Try.f5 false true false false) := by
  refine returnsInHanded_of_change_sized (C := Try.checked) own started (by kernel_rfl) Try.func5
    (ChangeSpec.witness6 (enc := enc) (C := Try.checked) false ⟨#[], #[.int .u32 0, .int .u8 0, .int .u8 0], []⟩ 8 (by kernel_rfl) (by kernel_rfl) (by kernel_rfl) (by kernel_rfl)) ?_
  intro W base args ds gs before hval0 hW hcnd hsz0 _
  have hsz : (DataW.weightsEach Try.prog (Try.f5.params.toList ++ Rows.prefixLongSpec.plain.varTypes Try.prog) (ds ++ gs)).all (· ≤ reachBytes) = true := hsz0
  have hval : ∀ (j : Nat) t v, Try.f5.params[j]? = some t → args[j]? = some v → Value.okWide Try.prog W .any base t v := hval0
  have hW' := hW
  obtain ⟨p, q, hA0, hV, rfl, hfz, hnd⟩ := hW
  have hA : DataW.TrodAll enc Try.prog W 0 (fun _ => true) true Try.f5.params.toList args.toList ds p := hA0
  rw [Try.params5] at hA hval hsz
  obtain ⟨v0, vs0, d0, ds0, p0, q0, hargs, rfl, rfl, h0, t0⟩ := trodAll_cons hA
  obtain ⟨v1, vs1, d1, ds1, p1, q1, rfl, rfl, rfl, h1, t1⟩ := trodAll_cons t0
  obtain ⟨v2, vs2, d2, ds2, p2, q2, rfl, rfl, rfl, h2, t2⟩ := trodAll_cons t1
  obtain ⟨rfl, rfl, rfl⟩ := trodAll_nil t2
  obtain rfl : args = #[v0, v1, v2] := by cases args; simp_all
  obtain ⟨rfl, rfl⟩ := trodVars_none hV
  have k0 := h0
  have lt0 : ∀ x ∈ p0, x.block < W.heap.size := by obtain ⟨m, hm⟩ := k0; exact DataW.trod_lt m _ _ _ hm
  obtain ⟨a0, rfl, rfl, rfl, w0⟩ := open_int Try.underlying22 (hval 0 22 v0 rfl rfl) h0
  have k1 := h1
  have lt1 : ∀ x ∈ p1, x.block < W.heap.size := by obtain ⟨m, hm⟩ := k1; exact DataW.trod_lt m _ _ _ hm
  obtain ⟨a1, rfl, rfl, rfl, w1⟩ := open_int Try.underlying5 (hval 1 5 v1 rfl rfl) h1
  have k2 := h2
  have lt2 : ∀ x ∈ p2, x.block < W.heap.size := by obtain ⟨m, hm⟩ := k2; exact DataW.trod_lt m _ _ _ hm
  obtain ⟨a2, rfl, rfl, rfl, w2⟩ := open_int Try.underlying5 (hval 2 5 v2 rfl rfl) h2
  clear hA0 hval0 hsz0
  refine (walk a0 a1 a2 W w0 w1 w2).mono fun e W' ⟨he, bel⟩ => ?_
  subst he
  exact ⟨_, rfl, _, _, _, [], _, [], hW', trodAll_mk1 (shut_bool Try.underlying4 _), (trodAll_cons_mk (Below.trod laidOut (by kernel_rfl) (of_decide_eq_true (by kernel_rfl)) k0 bel lt0) (trodAll_cons_mk (Below.trod laidOut (by kernel_rfl) (of_decide_eq_true (by kernel_rfl)) k1 bel lt1) (trodAll_cons_mk (Below.trod laidOut (by kernel_rfl) (of_decide_eq_true (by kernel_rfl)) k2 bel lt2) trodAll_mk0))), rfl, bel.frame _, fun h => by cases h⟩

theorem over : Rows.prefixLongRow.holds Try.pinned (OpenSpec.ofChange Rows.prefixLongSpec) :=
  OpenClaim.holds_of_wide 5 Try.f5 rfl rfl rfl rfl rfl rfl rfl ⟨rfl, rfl, rfl, rfl, rfl⟩ rfl rfl rfl rfl rfl (by kernel_rfl) Try.func5 (by kernel_rfl)
    (of_decide_eq_true (by kernel_rfl)) (by unfold Func.isWrapper; first | (rw [if_pos (by decide +kernel)]; kernel_rfl) | (rw [if_neg (by decide +kernel)]; exact ⟨rfl, rfl⟩))
    (fun os started H enc _ => lifted os started H enc)

theorem proved : Rows.PrefixLongSaid := over
end Go.Proofs.Ytabpoejimnoamaa.prefixLong
