/-
  OctetBytes holds for every number, every bytes, every place and size: octet.Put and octet.Take are the document's own answers, and Take leaves its bytes alone; no conditions.
-/
import Derived.Test.YtfeggahlhfpfoaaRows
import Derived.WalkKit
import Derived.ProofKit
import Derived.OpenShut
import Derived.ShutString
import Derived.SizedLaws
import Derived.Test.YtfeggahlhfpfoaaMem
import Derived.Test.YtfeggahlhfpfoaaOctPure
import Derived.Test.YtfeggahlhfpfoaaOct1
import Derived.Test.YtfeggahlhfpfoaaOct5
import Derived.Test.YtfeggahlhfpfoaaOct7
namespace Go.Proofs.Ytfeggahlhfpfoaa.octetBytes
open Go.ChangeShapes Go.WideShapes Go.ChangeAt Go.RowKit
open Go.Proofs.Ytfeggahlhfpfoaa Oct Mem
open Go.ChangeMaps (open_string shut_string)
set_option linter.unusedVariables false

theorem own : ownKnob Try.prog.godebug = none := by kernel_rfl
theorem laidOut : laidOutB Try.prog = true := by kernel_rfl

set_option maxHeartbeats 1000000 in
theorem walk (a0 : Int) (a1 : Option Addr) (len1 cap1 : Nat) (z1 : List Int) (z2 : List Int) (w : World) (w0 : (Lit.int .u32 a0).wf = true) (w1 : Mem.IsRow .u8 w a1 len1 cap1 z1) (r1 : cap1 * 1 ≤ 140737488351232) (w2 : z2.length = 2 ∧ ∀ x ∈ z2, (Lit.int .i64 x).wf = true) :
    Calls Try.prog 6 #[.int .u32 a0, .slice a1 len1 cap1, .agg (z2.map (Value.int .i64)).toArray] w fun e w' => e = .returned (.bool true) ∧ Below w.heap.size w w' := by
  have hx : 0 ≤ a0 ∧ a0 ≤ 4294967295 := by simpa [Lit.wf, IntKind.min, IntKind.max, IntKind.signed, IntKind.bits] using w0
  obtain ⟨p, s, rfl⟩ : ∃ p s, z2 = [p, s] := by
    obtain ⟨h, _⟩ := w2
    match z2, h with
    | [p, s], _ => exact ⟨p, s, rfl⟩
  have hp : -9223372036854775808 ≤ p ∧ p ≤ 9223372036854775807 := by
    have := w2.2 p (by simp)
    simpa [Lit.wf, IntKind.min, IntKind.max, IntKind.signed, IntKind.bits] using this
  obtain ⟨hrb, hlen, hcap, hmax⟩ := w1.rb
  have hnil := w1.nil
  generalize u8s (z1.take len1) = l at hrb hlen
  subst hlen
  obtain ⟨i0, hi, hz0, hz1, hz2⟩ := info_parts info_u8
  clear w0 w1 w2 hmax
  obtain ⟨hx0, hx1⟩ := hx
  obtain ⟨hp0, hp1⟩ := hp
  have HN := Lib.hid hnil
  have HI := Lib.hid hi
  have HZ0 := Lib.hid hz0
  have HZ1 := Lib.hid hz1
  have HZ2 := Lib.hid hz2
  clear hnil hi hz0 hz1 hz2
  go_enter Try.func6, Try.ntmps6
  go_wp2_with fail
  refine (put_const _).mono ?_; rintro e u1 ⟨g, cx, rfl, hx1, b1⟩
  replace b1 := below_step ((Below.refl _ _).alloc (Nat.le_refl _) _) b1
  have b1s := b1.size
  go_wp2_with (at_builtin; refine append_rb Try.underlying29 HI.out HZ0.out HZ1.out HZ2.out rfl _ _ rfl u1.heap.size (some ⟨u1.heap.size, 0, none⟩) 0 [] rfl (own_empty1 u1 _) a1 l cap1 rfl HN.out ?c1 ?c2 ?c3 ?_)
  case c1 => exact (hrb.below b1).below ((Below.refl _ _).alloc (Nat.le_refl _) _)
  case c2 => simp; omega
  case c3 => simp
  intro ad2 cap2 u2 hown2 hb2
  have b2 := below_step b1 (hb2 _ _ ((Below.refl _ _).alloc (Nat.le_refl _) _) (Nat.le_refl _))
  have hrbo : RB u2 ad2 l := RB.of_own hown2.out
  have hrb2 : RB u2 a1 l := hrb.below b2
  have hml : l.length ≤ maxLen := by unfold maxLen; omega
  have T1 := Lib.hid (take_any ad2 l cap2 p s u2 hml hrbo hp0 hp1)
  have T2 := Lib.hid (rtake_any a1 l cap1 p s u2 hml hrb2 hp0 hp1)
  have T3 := Lib.hid (bytes_any ad2 a1 l l cap2 cap1 u2 hrbo hrb2)
  have Hx1 := Lib.hid (show a0 < 4294967296 by omega)
  clear hown2 hb2 hrbo hrb2 hrb hml hx1
  generalize takeV l p s = V at T1 T2
  generalize takeE l p s = E at T1 T2
  go_wp2_with fail
  refine T1.out.mono ?_; rintro e w' ⟨rfl, rfl⟩
  go_wp2_with fail
  refine T2.out.mono ?_; rintro e w' ⟨rfl, rfl⟩
  go_wp2_with fail
  refine T3.out.mono ?_; rintro e w' ⟨rfl, rfl⟩
  go_wp2_with fail
  refine (put_any _ _ _ hx0 Hx1.out).mono ?_; rintro e u3 ⟨ad3, cap3, rfl, hown3, b3⟩
  have hrb3 : Hid (RB u3 ad3 (putV a0 s)) := Lib.hid (RB.of_own hown3.out)
  replace b3 := below_step b2 b3
  clear hown3
  go_wp2_with fail
  refine (rput_any _ _ _ hx0 Hx1.out).mono ?_; rintro e u4 ⟨ad4, cap4, rfl, hown4, b4⟩
  have T4 := Lib.hid (bytes_any ad3 ad4 (putV a0 s) (putV a0 s) cap3 cap4 u4 (hrb3.out.below b4) (RB.of_own hown4.out))
  replace b4 := below_step b3 b4
  clear hown4
  go_wp2_with fail
  refine T4.out.mono ?_; rintro e w' ⟨rfl, rfl⟩
  go_wp2_with fail
  go_ret
  exact ⟨by simp, b4⟩

set_option maxRecDepth 100000 in
theorem lifted (os : Os) (started : os.Started) (H : Type) (enc : TypeId × Value → H) :
    ReturnsInHanded {} Try.checked os 6 .any (Rows.octetBytesSpec.pre6 enc Try.prog Try.f6 Rows.octetBytesRow.domain false) (Rows.octetBytesSpec.post enc Try.prog Try.f6 false true false false) := by
  refine returnsInHanded_of_change_sized (C := Try.checked) own started (by kernel_rfl) Try.func6
    (ChangeSpec.witness6 (enc := enc) (C := Try.checked) false ⟨#[], #[.int .u32 0, .slice none 0 0, .agg #[.int .i64 0, .int .i64 0]], []⟩ 8 (by kernel_rfl) (by kernel_rfl) (by kernel_rfl) (by kernel_rfl)) ?_
  intro W base args ds gs before hval0 hW hcnd hsz0 _
  have hsz : (DataW.weightsEach Try.prog (Try.f6.params.toList ++ Rows.octetBytesSpec.plain.varTypes Try.prog) (ds ++ gs)).all (· ≤ reachBytes) = true := hsz0
  have hval : ∀ (j : Nat) t v, Try.f6.params[j]? = some t → args[j]? = some v → Value.okWide Try.prog W .any base t v := hval0
  have hW' := hW
  obtain ⟨p, q, hA0, hV, rfl, hfz, hnd⟩ := hW
  have hA : DataW.TrodAll enc Try.prog W 0 (fun _ => true) true Try.f6.params.toList args.toList ds p := hA0
  rw [Try.params6] at hA hval hsz
  obtain ⟨v0, vs0, d0, ds0, p0, q0, hargs, rfl, rfl, h0, t0⟩ := trodAll_cons hA
  obtain ⟨v1, vs1, d1, ds1, p1, q1, rfl, rfl, rfl, h1, t1⟩ := trodAll_cons t0
  obtain ⟨v2, vs2, d2, ds2, p2, q2, rfl, rfl, rfl, h2, t2⟩ := trodAll_cons t1
  obtain ⟨rfl, rfl, rfl⟩ := trodAll_nil t2
  obtain rfl : args = #[v0, v1, v2] := by cases args; simp_all
  obtain ⟨rfl, rfl⟩ := trodVars_none hV
  have k0 := h0
  have lt0 : ∀ x ∈ p0, x.block < W.heap.size := by obtain ⟨m, hm⟩ := k0; exact DataW.trod_lt m _ _ _ hm
  obtain ⟨a0, rfl, rfl, rfl, w0⟩ := open_int Try.underlying28 (hval 0 28 v0 rfl rfl) h0
  have k1 := h1
  have lt1 : ∀ x ∈ p1, x.block < W.heap.size := by obtain ⟨m, hm⟩ := k1; exact DataW.trod_lt m _ _ _ hm
  obtain ⟨a1, len1, cap1, rfl⟩ := okWide_slice Try.underlying29 (hval 1 29 v1 rfl rfl)
  obtain ⟨z1, w1, r1⟩ : ∃ zs, Mem.IsRow .u8 W a1 len1 cap1 zs ∧ cap1 * 1 ≤ 140737488351232 := by
    obtain ⟨fuel, hf⟩ := h1
    rcases open_ints Try.underlying29 Try.underlying5 (by kernel_rfl) hf with ⟨hcs, _⟩ | ⟨x, l, c, zs, hcs, _, hl, hm, hz, hx, hcell, hwz⟩
    · simp [Value.cells] at hcs
      obtain ⟨rfl, rfl, rfl⟩ := hcs
      exact ⟨[], .inl ⟨rfl, rfl, rfl, rfl⟩, by omega⟩
    · simp [Value.cells] at hcs
      obtain ⟨rfl, rfl, rfl⟩ := hcs
      have hx1 := congrArg Prod.fst hx
      simp only at hx1
      have hby : Try.prog.bytesOf 5 = 1 := by kernel_rfl
      have hs := sized_slice hsz (j := 1) (t := 29) (e := 5) rfl (by rw [← hx1]; rfl) Try.underlying29
      rw [hby] at hs
      refine ⟨zs, .inr ⟨_, rfl, hl, hm, by simpa using hz, hcell, hwz⟩, ?_⟩
      have hz' : zs.length = cap1 := by simpa using hz
      simp only [lits, List.length_map, List.length_take, List.length_drop, reachBytes] at hs
      have hmn : min len1 zs.length + (zs.length - len1) = cap1 := by omega
      rw [hmn] at hs
      exact hs
  have k2 := h2
  have lt2 : ∀ x ∈ p2, x.block < W.heap.size := by obtain ⟨m, hm⟩ := k2; exact DataW.trod_lt m _ _ _ hm
  obtain ⟨z2, w2, rfl⟩ := Mem.open_arr_int (n := 2) (k := .i64) Try.underlying30 Try.underlying3 (by kernel_rfl) (by kernel_rfl) (hval 2 30 v2 rfl rfl) h2
  clear hA0 hval0 hsz0
  refine (walk a0 a1 len1 cap1 z1 z2 W w0 w1 r1 w2).mono fun e W' ⟨he, bel⟩ => ?_
  subst he
  exact ⟨_, rfl, _, _, _, [], _, [], hW', trodAll_mk1 (shut_bool Try.underlying4 _), (trodAll_cons_mk (Below.trod laidOut (by kernel_rfl) (of_decide_eq_true (by kernel_rfl)) k0 bel lt0) (trodAll_cons_mk (Below.trod laidOut (by kernel_rfl) (of_decide_eq_true (by kernel_rfl)) k1 bel lt1) (trodAll_cons_mk (Below.trod laidOut (by kernel_rfl) (of_decide_eq_true (by kernel_rfl)) k2 bel lt2) trodAll_mk0))), rfl, bel.frame _, fun h => by cases h⟩

theorem over : Rows.octetBytesRow.holds Try.pinned (OpenSpec.ofChange Rows.octetBytesSpec) :=
  OpenClaim.holds_of_wide 6 Try.f6 rfl rfl rfl rfl rfl rfl rfl ⟨rfl, rfl, rfl, rfl, rfl⟩ rfl rfl rfl rfl rfl (by kernel_rfl) Try.func6 (by kernel_rfl)
    (of_decide_eq_true (by kernel_rfl)) (by unfold Func.isWrapper; first | (rw [if_pos (by decide +kernel)]; kernel_rfl) | (rw [if_neg (by decide +kernel)]; exact ⟨rfl, rfl⟩))
    (fun os started H enc _ => lifted os started H enc)

theorem proved : Rows.OctetBytesSaid := over
end Go.Proofs.Ytfeggahlhfpfoaa.octetBytes
