/-
  PrefixTakes holds for every bytes and every size of a prefix: prefix.TakeInt is the document's own answer, and leaves its bytes alone; no conditions.
-/
import Derived.Test.YtabpoejimnoamaaRows
import Derived.WalkKit
import Derived.ProofKit
import Derived.OpenShut
import Derived.ShutString
import Derived.SizedLaws
import Derived.Test.YtabpoejimnoamaaMem
import Derived.Test.YtabpoejimnoamaaHufPure
import Derived.Test.YtabpoejimnoamaaGen
import Derived.Test.YtabpoejimnoamaaBytes
import Derived.Test.YtabpoejimnoamaaMem2
import Derived.Test.YtabpoejimnoamaaPrePure
import Derived.Test.YtabpoejimnoamaaPreBack
import Derived.Test.YtabpoejimnoamaaPre1
import Derived.Test.YtabpoejimnoamaaPre2
import Derived.Test.YtabpoejimnoamaaPreP
import Derived.Test.YtabpoejimnoamaaPreQ
import Derived.Test.YtabpoejimnoamaaPre5
namespace Go.Proofs.Ytabpoejimnoamaa.prefixTakes
open Go.ChangeShapes Go.WideShapes Go.ChangeAt Go.RowKit
open Go.Proofs.Ytabpoejimnoamaa Huf Pre Mem Gen
open Go.ChangeMaps (open_string shut_string)
set_option linter.unusedVariables false

theorem own : ownKnob Try.prog.godebug = none := by kernel_rfl
theorem laidOut : laidOutB Try.prog = true := by kernel_rfl

set_option maxRecDepth 100000 in
set_option maxHeartbeats 2000000 in
theorem walk (a0 : Option Addr) (len0 cap0 : Nat) (z0 : List Int) (a1 : Int) (w : World) (w0 : Mem.IsRow .u8 w a0 len0 cap0 z0) (r0 : cap0 * 1 ≤ 140737488351232) (w1 : (Lit.int .i64 a1).wf = true) :
    Calls Try.prog 4 #[.slice a0 len0 cap0, .int .i64 a1] w fun e w' => e = .returned (.bool true) ∧ Below w.heap.size w w' := by
  obtain ⟨hrb, hlen, hcap, hmax⟩ := w0.rb
  have hnil := Lib.hid w0.nil
  generalize u8s (z0.take len0) = l at hrb hlen
  subst hlen
  have HRB := Lib.hid hrb
  unfold maxLen at hmax
  obtain ⟨i0, hi, hz0, hz1, hz2⟩ := info_parts info_u8
  have HI := Lib.hid hi
  have HZ0 := Lib.hid hz0
  have HZ1 := Lib.hid hz1
  have HZ2 := Lib.hid hz2
  have hll : l.length ≤ 140737488355328 := by omega
  have PT : Hid (∀ v a c, RB v a l → l.length ≤ c → Calls Try.prog 10 #[.slice a l.length c, .int .i64 a1] v fun e w' => e = .returned (.tuple #[.int .i64 (takeI l a1).1, .int .i64 (takeI l a1).2.1, .int .i64 (takeI l a1).2.2]) ∧ Below v.heap.size v w') := Lib.hid (fun v a c hr hc => ptakeint_any a l c a1 v (by omega) hc hr)
  have RT : Hid (∀ v a c, RB v a l → Calls Try.prog 11 #[.slice a l.length c, .int .i64 a1] v fun e w' => e = .returned (.tuple #[.int .i64 (takeI l a1).1, .int .i64 (takeI l a1).2.1, .int .i64 (takeI l a1).2.2]) ∧ v = w') := Lib.hid (fun v a c hr => rtakeint_any a l c a1 v (by omega) hr)
  have BY : Hid (∀ (v : World) a b ca cb, RB v a l → RB v b l → Calls Try.prog 8 #[.slice a l.length ca, .slice b l.length cb] v fun e w' => e = .returned (.bool true) ∧ v = w') := Lib.hid (fun v a b ca cb ha hb => by
    have h := bytes_any a b l l ca cb v ha hb
    rwa [decide_eq_true rfl] at h)
  generalize takeI l a1 = N at PT RT
  obtain ⟨n, p, er⟩ := N
  simp only at PT RT
  clear hi hz0 hz1 hz2 hrb w0
  go_enter Try.func4, Try.ntmps4
  go_wp2_with fail
  refine (counts_any _).mono ?_; rintro e v1 ⟨rfl, b1⟩
  have R1 := Lib.hid (HRB.out.below b1)
  go_wp2_with (at_builtin; refine append_rb3 Try.underlying24 HI.out HZ0.out HZ1.out HZ2.out rfl (.tmp 14) (.tmp 15) rfl v1.heap.size (some ⟨v1.heap.size, 0, none⟩) 0 [] rfl (own_empty1 v1 _) a0 l cap0 rfl hnil.out (R1.out.below ((Below.refl _ _).alloc (Nat.le_refl _) _)) l rfl hll (by simp) ?_)
  intro ad2 cp2 v2 hown2 hb2
  have b2 := below_step b1 (hb2 _ _ ((Below.refl _ _).alloc (Nat.le_refl _) _) (Nat.le_refl _))
  have R2 : Hid (RB v2 ad2 l) := Lib.hid (RB.of_own hown2.out)
  have C2 := Lib.hid (own_le hown2.out).1
  clear hown2 hb2
  go_wp2_with fail
  refine (PT.out _ _ _ R2.out C2.out).mono ?_; rintro e v3 ⟨rfl, b3⟩
  have R3 : Hid (RB v3 ad2 l) := Lib.hid (R2.out.below b3)
  replace b3 := below_step b2 b3
  have R3' := Lib.hid (HRB.out.below b3)
  go_wp2_with fail
  refine (RT.out _ _ _ R3'.out).mono ?_; rintro e w' ⟨rfl, rfl⟩
  go_wp2_with fail
  refine (BY.out _ _ _ _ _ R3.out R3'.out).mono ?_; rintro e w' ⟨rfl, rfl⟩
  go_wp2_with fail
  go_ret
  exact ⟨by simp, b3⟩

set_option maxRecDepth 100000 in
theorem lifted (os : Os) (started : os.Started) (H : Type) (enc : TypeId × Value → H) :
    ReturnsInHanded {} Try.checked os 4 .any (Rows.prefixTakesSpec.pre6 enc Try.prog Try.f4 Rows.prefixTakesRow.domain false) (Rows.prefixTakesSpec.post enc Try.prog Try.f4 false true false false) := by
  refine returnsInHanded_of_change_sized (C := Try.checked) own started (by kernel_rfl) Try.func4
    (ChangeSpec.witness6 (enc := enc) (C := Try.checked) false ⟨#[], #[.slice none 0 0, .int .i64 0], []⟩ 8 (by kernel_rfl) (by kernel_rfl) (by kernel_rfl) (by kernel_rfl)) ?_
  intro W base args ds gs before hval0 hW hcnd hsz0 _
  have hsz : (DataW.weightsEach Try.prog (Try.f4.params.toList ++ Rows.prefixTakesSpec.plain.varTypes Try.prog) (ds ++ gs)).all (· ≤ reachBytes) = true := hsz0
  have hval : ∀ (j : Nat) t v, Try.f4.params[j]? = some t → args[j]? = some v → Value.okWide Try.prog W .any base t v := hval0
  have hW' := hW
  obtain ⟨p, q, hA0, hV, rfl, hfz, hnd⟩ := hW
  have hA : DataW.TrodAll enc Try.prog W 0 (fun _ => true) true Try.f4.params.toList args.toList ds p := hA0
  rw [Try.params4] at hA hval hsz
  obtain ⟨v0, vs0, d0, ds0, p0, q0, hargs, rfl, rfl, h0, t0⟩ := trodAll_cons hA
  obtain ⟨v1, vs1, d1, ds1, p1, q1, rfl, rfl, rfl, h1, t1⟩ := trodAll_cons t0
  obtain ⟨rfl, rfl, rfl⟩ := trodAll_nil t1
  obtain rfl : args = #[v0, v1] := by cases args; simp_all
  obtain ⟨rfl, rfl⟩ := trodVars_none hV
  have k0 := h0
  have lt0 : ∀ x ∈ p0, x.block < W.heap.size := by obtain ⟨m, hm⟩ := k0; exact DataW.trod_lt m _ _ _ hm
  obtain ⟨a0, len0, cap0, rfl⟩ := okWide_slice Try.underlying24 (hval 0 24 v0 rfl rfl)
  obtain ⟨z0, w0, r0⟩ : ∃ zs, Mem.IsRow .u8 W a0 len0 cap0 zs ∧ cap0 * 1 ≤ 140737488351232 := by
    obtain ⟨fuel, hf⟩ := h0
    rcases open_ints Try.underlying24 Try.underlying5 (by kernel_rfl) hf with ⟨hcs, _⟩ | ⟨x, l, c, zs, hcs, _, hl, hm, hz, hx, hcell, hwz⟩
    · simp [Value.cells] at hcs
      obtain ⟨rfl, rfl, rfl⟩ := hcs
      exact ⟨[], .inl ⟨rfl, rfl, rfl, rfl⟩, by omega⟩
    · simp [Value.cells] at hcs
      obtain ⟨rfl, rfl, rfl⟩ := hcs
      have hx1 := congrArg Prod.fst hx
      simp only at hx1
      have hby : Try.prog.bytesOf 5 = 1 := by kernel_rfl
      have hs := sized_slice hsz (j := 0) (t := 24) (e := 5) rfl (by rw [← hx1]; rfl) Try.underlying24
      rw [hby] at hs
      refine ⟨zs, .inr ⟨_, rfl, hl, hm, by simpa using hz, hcell, hwz⟩, ?_⟩
      have hz' : zs.length = cap0 := by simpa using hz
      simp only [lits, List.length_map, List.length_take, List.length_drop, reachBytes] at hs
      have hmn : min len0 zs.length + (zs.length - len0) = cap0 := by omega
      rw [hmn] at hs
      exact hs
  have k1 := h1
  have lt1 : ∀ x ∈ p1, x.block < W.heap.size := by obtain ⟨m, hm⟩ := k1; exact DataW.trod_lt m _ _ _ hm
  obtain ⟨a1, rfl, rfl, rfl, w1⟩ := open_int Try.underlying3 (hval 1 3 v1 rfl rfl) h1
  clear hA0 hval0 hsz0
  refine (walk a0 len0 cap0 z0 a1 W w0 r0 w1).mono fun e W' ⟨he, bel⟩ => ?_
  subst he
  exact ⟨_, rfl, _, _, _, [], _, [], hW', trodAll_mk1 (shut_bool Try.underlying4 _), (trodAll_cons_mk (Below.trod laidOut (by kernel_rfl) (of_decide_eq_true (by kernel_rfl)) k0 bel lt0) (trodAll_cons_mk (Below.trod laidOut (by kernel_rfl) (of_decide_eq_true (by kernel_rfl)) k1 bel lt1) trodAll_mk0)), rfl, bel.frame _, fun h => by cases h⟩

theorem over : Rows.prefixTakesRow.holds Try.pinned (OpenSpec.ofChange Rows.prefixTakesSpec) :=
  OpenClaim.holds_of_wide 4 Try.f4 rfl rfl rfl rfl rfl rfl rfl ⟨rfl, rfl, rfl, rfl, rfl⟩ rfl rfl rfl rfl rfl (by kernel_rfl) Try.func4 (by kernel_rfl)
    (of_decide_eq_true (by kernel_rfl)) (by unfold Func.isWrapper; first | (rw [if_pos (by decide +kernel)]; kernel_rfl) | (rw [if_neg (by decide +kernel)]; exact ⟨rfl, rfl⟩))
    (fun os started H enc _ => lifted os started H enc)

theorem proved : Rows.PrefixTakesSaid := over
end Go.Proofs.Ytabpoejimnoamaa.prefixTakes
