/-
  OctetCases holds for every two texts: octet.Lower, octet.Same and octet.Trim are the document's own answers; no conditions.
-/
import Derived.Test.YtfeggahlhfpfoaaRows
import Derived.WalkKit
import Derived.ProofKit
import Derived.OpenShut
import Derived.ShutString
import Derived.SizedLaws
import Derived.Test.YtfeggahlhfpfoaaMem
import Derived.Test.YtfeggahlhfpfoaaOctPure
import Derived.Test.YtfeggahlhfpfoaaOct1
import Derived.Test.YtfeggahlhfpfoaaOct2
import Derived.Test.YtfeggahlhfpfoaaOct5
import Derived.Test.YtfeggahlhfpfoaaOct6
namespace Go.Proofs.Ytfeggahlhfpfoaa.octetCases
open Go.ChangeShapes Go.WideShapes Go.ChangeAt Go.RowKit
open Go.Proofs.Ytfeggahlhfpfoaa Oct Mem
open Go.ChangeMaps (open_string shut_string)
set_option linter.unusedVariables false

theorem own : ownKnob Try.prog.godebug = none := by kernel_rfl
theorem laidOut : laidOutB Try.prog = true := by kernel_rfl

set_option maxHeartbeats 1000000 in
theorem walk (a0 : ByteArray) (a1 : ByteArray) (w : World) (w0 : a0.size ≤ maxLen) (r0 : a0.size ≤ 140737488351232) (w1 : a1.size ≤ maxLen) (r1 : a1.size ≤ 140737488351232) :
    Calls Try.prog 4 #[.string a0, .string a1] w fun e w' => e = .returned (.bool true) ∧ Below w.heap.size w w' := by
  unfold maxLen at w0 w1
  have s0 : (lowL a0.data.toList).length = a0.size := by rw [lowL_length, list_len]
  obtain ⟨X, hX⟩ : ∃ X : ByteArray, X = ⟨(lowL a0.data.toList).toArray⟩ := ⟨_, rfl⟩
  obtain ⟨Y, hY⟩ : ∃ Y : ByteArray, Y = ⟨(lowL a1.data.toList).toArray⟩ := ⟨_, rfl⟩
  obtain ⟨T, hT⟩ : ∃ T : ByteArray, T = ⟨(trimL a0.data.toList).toArray⟩ := ⟨_, rfl⟩
  have xd : X.data.toList = lowL a0.data.toList := by rw [hX]
  have yd : Y.data.toList = lowL a1.data.toList := by rw [hY]
  have xs : X.size = a0.size := by rw [← list_len, xd, s0]
  have C1 : Hid (∀ w, Calls Try.prog 12 #[.string ⟨#[65, 90, 91]⟩] w fun e w' => e = .returned (.string ⟨#[97, 122, 91]⟩) ∧ Below w.heap.size w w') := Lib.hid (fun w => by
    have h := lower_any ⟨#[65, 90, 91]⟩ w (by unfold maxLen; decide) (by decide)
    rwa [show (ByteArray.mk (lowL (ByteArray.mk #[65, 90, 91]).data.toList).toArray) = ⟨#[97, 122, 91]⟩ from by decide +kernel] at h)
  have C2 : Hid (∀ w, Calls Try.prog 13 #[.string ⟨#[9, 32, 97, 32]⟩] w fun e w' => e = .returned (.string ⟨#[97]⟩) ∧ w = w') := Lib.hid (fun w => by
    have h := trim_any ⟨#[9, 32, 97, 32]⟩ w (by unfold maxLen; decide)
    rwa [show (ByteArray.mk (trimL (ByteArray.mk #[9, 32, 97, 32]).data.toList).toArray) = ⟨#[97]⟩ from by decide +kernel] at h)
  have C3 : Hid (∀ w, Calls Try.prog 12 #[.string a0] w fun e w' => e = .returned (.string X) ∧ Below w.heap.size w w') := Lib.hid (fun w => by rw [hX]; exact lower_any a0 w (by unfold maxLen; omega) (by omega))
  have C4 : Hid (∀ w, Calls Try.prog 14 #[.string a0] w fun e w' => e = .returned (.string X) ∧ Below w.heap.size w w') := Lib.hid (fun w => by rw [hX]; exact rlower_any a0 w (by unfold maxLen; omega) (by omega))
  have C5 : Hid (∀ w, Calls Try.prog 12 #[.string X] w fun e w' => e = .returned (.string X) ∧ Below w.heap.size w w') := Lib.hid (fun w => by
    have h := lower_any X w (by unfold maxLen; omega) (by omega)
    rwa [xd, lowL_idem, ← hX] at h)
  have C6 : Hid (∀ w, Calls Try.prog 15 #[.string a0, .string a1] w fun e w' => e = .returned (.bool (X.toList == Y.toList)) ∧ Below w.heap.size w w') := Lib.hid (fun w => by
    have h := same_any a0 a1 w (by unfold maxLen; omega) (by unfold maxLen; omega)
    rwa [show decide (lowL a0.data.toList = lowL a1.data.toList) = (X.toList == Y.toList) from by
      rw [Bool.eq_iff_iff, decide_eq_true_iff, beq_iff_eq, ← xd, ← yd, ByteArray.toList_eq, ByteArray.toList_eq]] at h)
  have C7 : Hid (∀ w, Calls Try.prog 14 #[.string a1] w fun e w' => e = .returned (.string Y) ∧ Below w.heap.size w w') := Lib.hid (fun w => by rw [hY]; exact rlower_any a1 w (by unfold maxLen; omega) (by omega))
  have C8 : Hid (∀ w, Calls Try.prog 15 #[.string a0, .string X] w fun e w' => e = .returned (.bool true) ∧ Below w.heap.size w w') := Lib.hid (fun w => by
    have h := same_any a0 X w (by unfold maxLen; omega) (by unfold maxLen; omega)
    rwa [xd, lowL_idem, decide_eq_true (rfl : lowL a0.data.toList = _)] at h)
  have C9 : Hid (∀ w, Calls Try.prog 13 #[.string a0] w fun e w' => e = .returned (.string T) ∧ w = w') := Lib.hid (fun w => by rw [hT]; exact trim_any a0 w (by unfold maxLen; omega))
  have C10 : Hid (∀ w, Calls Try.prog 16 #[.string a0] w fun e w' => e = .returned (.string T) ∧ w = w') := Lib.hid (fun w => by rw [hT]; exact rtrim_any a0 w (by unfold maxLen; omega))
  clear hX hY hT xd yd xs s0 w0 w1 r0 r1
  go_enter Try.func4, Try.ntmps4
  go_wp2_with fail
  refine (C1.out _).mono ?_; rintro e u1 ⟨rfl, b1⟩
  go_wp2_with fail
  refine (C2.out _).mono ?_; rintro e w' ⟨rfl, rfl⟩
  go_wp2_with fail
  refine (C3.out _).mono ?_; rintro e u2 ⟨rfl, b2⟩
  replace b2 := below_step b1 b2
  go_wp2_with fail
  refine (C4.out _).mono ?_; rintro e u3 ⟨rfl, b3⟩
  replace b3 := below_step b2 b3
  go_wp2_with fail
  refine (C5.out _).mono ?_; rintro e u4 ⟨rfl, b4⟩
  replace b4 := below_step b3 b4
  go_wp2_with fail
  refine (C6.out _).mono ?_; rintro e u5 ⟨rfl, b5⟩
  replace b5 := below_step b4 b5
  go_wp2_with fail
  refine (C4.out _).mono ?_; rintro e u6 ⟨rfl, b6⟩
  replace b6 := below_step b5 b6
  go_wp2_with fail
  refine (C7.out _).mono ?_; rintro e u7 ⟨rfl, b7⟩
  replace b7 := below_step b6 b7
  go_wp2_with fail
  refine (C8.out _).mono ?_; rintro e u8 ⟨rfl, b8⟩
  replace b8 := below_step b7 b8
  go_wp2_with fail
  refine (C9.out _).mono ?_; rintro e w' ⟨rfl, rfl⟩
  go_wp2_with fail
  refine (C10.out _).mono ?_; rintro e w' ⟨rfl, rfl⟩
  go_wp2_with fail
  go_ret
  exact ⟨rfl, b8⟩

set_option maxRecDepth 100000 in
theorem lifted (os : Os) (started : os.Started) (H : Type) (enc : TypeId × Value → H) :
    ReturnsInHanded {} Try.checked os 4 .any (Rows.octetCasesSpec.pre6 enc Try.prog Try.f4 Rows.octetCasesRow.domain false) (Rows.octetCasesSpec.post enc Try.prog Try.f4 false true false false) := by
  refine returnsInHanded_of_change_sized (C := Try.checked) own started (by kernel_rfl) Try.func4
    (ChangeSpec.witness6 (enc := enc) (C := Try.checked) false ⟨#[], #[.string ByteArray.empty, .string ByteArray.empty], []⟩ 8 (by kernel_rfl) (by kernel_rfl) (by kernel_rfl) (by kernel_rfl)) ?_
  intro W base args ds gs before hval0 hW hcnd hsz0 _
  have hsz : (DataW.weightsEach Try.prog (Try.f4.params.toList ++ Rows.octetCasesSpec.plain.varTypes Try.prog) (ds ++ gs)).all (· ≤ reachBytes) = true := hsz0
  have hval : ∀ (j : Nat) t v, Try.f4.params[j]? = some t → args[j]? = some v → Value.okWide Try.prog W .any base t v := hval0
  have hW' := hW
  obtain ⟨p, q, hA0, hV, rfl, hfz, hnd⟩ := hW
  have hA : DataW.TrodAll enc Try.prog W 0 (fun _ => true) true Try.f4.params.toList args.toList ds p := hA0
  rw [Try.params4] at hA hval hsz
  obtain ⟨v0, vs0, d0, ds0, p0, q0, hargs, rfl, rfl, h0, t0⟩ := trodAll_cons hA
  obtain ⟨v1, vs1, d1, ds1, p1, q1, rfl, rfl, rfl, h1, t1⟩ := trodAll_cons t0
  obtain ⟨rfl, rfl, rfl⟩ := trodAll_nil t1
  obtain rfl : args = #[v0, v1] := by cases args; simp_all
  obtain ⟨rfl, rfl⟩ := trodVars_none hV
  have k0 := h0
  have lt0 : ∀ x ∈ p0, x.block < W.heap.size := by obtain ⟨m, hm⟩ := k0; exact DataW.trod_lt m _ _ _ hm
  obtain ⟨a0, rfl, rfl, rfl, w0⟩ := open_string Try.underlying9 (hval 0 9 v0 rfl rfl) h0
  have r0 : a0.size ≤ 140737488351232 := by have := sized_string hsz (j := 0) (t := 9) rfl rfl; simpa [reachBytes] using this
  have k1 := h1
  have lt1 : ∀ x ∈ p1, x.block < W.heap.size := by obtain ⟨m, hm⟩ := k1; exact DataW.trod_lt m _ _ _ hm
  obtain ⟨a1, rfl, rfl, rfl, w1⟩ := open_string Try.underlying9 (hval 1 9 v1 rfl rfl) h1
  have r1 : a1.size ≤ 140737488351232 := by have := sized_string hsz (j := 1) (t := 9) rfl rfl; simpa [reachBytes] using this
  clear hA0 hval0 hsz0
  refine (walk a0 a1 W w0 r0 w1 r1).mono fun e W' ⟨he, bel⟩ => ?_
  subst he
  exact ⟨_, rfl, _, _, _, [], _, [], hW', trodAll_mk1 (shut_bool Try.underlying4 _), (trodAll_cons_mk (Below.trod laidOut (by kernel_rfl) (of_decide_eq_true (by kernel_rfl)) k0 bel lt0) (trodAll_cons_mk (Below.trod laidOut (by kernel_rfl) (of_decide_eq_true (by kernel_rfl)) k1 bel lt1) trodAll_mk0)), rfl, bel.frame _, fun h => by cases h⟩

theorem over : Rows.octetCasesRow.holds Try.pinned (OpenSpec.ofChange Rows.octetCasesSpec) :=
  OpenClaim.holds_of_wide 4 Try.f4 rfl rfl rfl rfl rfl rfl rfl ⟨rfl, rfl, rfl, rfl, rfl⟩ rfl rfl rfl rfl rfl (by kernel_rfl) Try.func4 (by kernel_rfl)
    (of_decide_eq_true (by kernel_rfl)) (by unfold Func.isWrapper; first | (rw [if_pos (by decide +kernel)]; kernel_rfl) | (rw [if_neg (by decide +kernel)]; exact ⟨rfl, rfl⟩))
    (fun os started H enc _ => lifted os started H enc)

theorem proved : Rows.OctetCasesSaid := over
end Go.Proofs.Ytfeggahlhfpfoaa.octetCases
