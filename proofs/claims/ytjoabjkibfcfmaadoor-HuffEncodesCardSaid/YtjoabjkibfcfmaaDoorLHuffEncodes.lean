/-
  HuffEncodes holds for every text: huff.Encode is the document's own row of bytes, bit by bit, and huff.Size says how many they are; the table of groups starts as its text lays it.
-/
import Derived.Test.YtjoabjkibfcfmaaDoorRows
import Derived.WalkKit
import Derived.ProofKit
import Derived.OpenShut
import Derived.ShutString
import Derived.SizedLaws
import Derived.Deep.DeepHandedRow
import Derived.Lib.LaidTab
import Derived.Test.YtjoabjkibfcfmaaDoorLaid
import Derived.Test.YtjoabjkibfcfmaaDoorCards
import Derived.Test.YtjoabjkibfcfmaaDoorTie
import Derived.Test.YtjoabjkibfcfmaaDoorMem
import Derived.Test.YtjoabjkibfcfmaaDoorHufPure
import Derived.Test.YtjoabjkibfcfmaaDoorHufTree
import Derived.Test.YtjoabjkibfcfmaaDoorHuf1
import Derived.Test.YtjoabjkibfcfmaaDoorHuf2
import Derived.Test.YtjoabjkibfcfmaaDoorHuf3
import Derived.Test.YtjoabjkibfcfmaaDoorHuf4
import Derived.Test.YtjoabjkibfcfmaaDoorHuf5
import Derived.Test.YtjoabjkibfcfmaaDoorHuf6
import Derived.Test.YtjoabjkibfcfmaaDoorHufV
namespace Go.Proofs.YtjoabjkibfcfmaaDoor.huffEncodes
open Go.ChangeShapes Go.WideShapes Go.ChangeAt Go.RowKit
open Go.Proofs.YtjoabjkibfcfmaaDoor Huf Mem
open Go.ChangeMaps (open_string shut_string)
set_option linter.unusedVariables false

theorem own : ownKnob Tryd.prog.godebug = none := by kernel_rfl
theorem laidOut : laidOutB Tryd.prog = true := by kernel_rfl

set_option maxRecDepth 100000 in
set_option maxHeartbeats 2000000 in
theorem walk (a0 : ByteArray) (w : World) (w0 : a0.size ≤ maxLen) (r0 : a0.size ≤ 140737488351232) (tab0 : GrpIs w) :
    Calls Tryd.prog 4 #[.string a0] w fun e w' => e = .returned (.bool true) ∧ Below w.heap.size w w' := by
  have HG := Lib.hid tab0
  clear tab0
  by_cases hba : 65536 < a0.size
  · go_enter Tryd.func4, Tryd.ntmps4
    go_wp2_with fail
    refine (awake_any _ HG.out).mono ?_; rintro e v1 ⟨rfl, b1⟩
    go_wp2_with fail
    go_ret
    exact ⟨rfl, b1⟩
  · have EA : Hid (∀ v, GrpIs v → Calls Tryd.prog 13 #[.string a0] v (MadeB v (enc a0.data.toList))) := Lib.hid (fun v hg => encode_any a0 v (by omega) hg)
    have ER := Lib.hid (fun v => rencode_any a0 v (by omega))
    have SA : Hid (∀ v, GrpIs v → Calls Tryd.prog 16 #[.string a0] v fun e w' => e = .returned (.int .i64 ((enc a0.data.toList).length)) ∧ Below v.heap.size v w') := Lib.hid (fun v hg => by
      have h := size_any a0 v (by omega) hg
      rwa [show sizeV a0.data.toList = (enc a0.data.toList).length from by rw [enc_length]; rfl] at h)
    generalize enc a0.data.toList = X at EA ER SA
    clear w0
    go_enter Tryd.func4, Tryd.ntmps4
    go_wp2_with fail
    refine (awake_any _ HG.out).mono ?_; rintro e v1 ⟨rfl, b1⟩
    go_wp2_with fail
    refine (EA.out _ (HG.out.below b1)).mono ?_; rintro e v2 ⟨ad2, cp2, rfl, hown2, b2⟩
    have R2 : Hid (RB v2 ad2 X) := Lib.hid (RB.of_own hown2.out)
    replace b2 := below_step b1 b2
    clear hown2
    go_wp2_with fail
    refine (ER.out _).mono ?_; rintro e v3 ⟨ad3, cp3, rfl, hr3, b3⟩
    have T3 : Hid (Calls Tryd.prog 14 #[.slice ad2 X.length cp2, .slice ad3 X.length cp3] v3 fun e w' => e = .returned (.bool true) ∧ v3 = w') := Lib.hid (by
      have h := bytes_any ad2 ad3 X X cp2 cp3 v3 (R2.out.below b3) hr3
      rwa [decide_eq_true rfl] at h)
    replace b3 := below_step b2 b3
    clear hr3
    go_wp2_with fail
    refine T3.out.mono ?_; rintro e w' ⟨rfl, rfl⟩
    go_wp2_with fail
    refine (SA.out _ (HG.out.below b3)).mono ?_; rintro e v4 ⟨rfl, b4⟩
    replace b4 := below_step b3 b4
    go_wp2_with fail
    go_ret
    exact ⟨by simp, b4⟩


noncomputable def laidWorld (os : Os) : World :=
  { World.holding Tryd.prog os ⟨#[], #[], []⟩ with heap := (((World.holding Tryd.prog os ⟨#[], #[], []⟩).heap).modify 0 fun
      | .cells _ t frozen => .cells #[.int .i64 0, .int .u32 0, .int .i64 0, .int .i64 0, .int .u32 0, .int .i64 0, .int .i64 0, .int .u32 0, .int .i64 0, .int .i64 0, .int .u32 0, .int .i64 0, .int .i64 0, .int .u32 0, .int .i64 0, .int .i64 10, .int .u32 0, .int .i64 0, .int .i64 26, .int .u32 20, .int .i64 10, .int .i64 32, .int .u32 92, .int .i64 36, .int .i64 6, .int .u32 248, .int .i64 68, .int .i64 0, .int .u32 0, .int .i64 0, .int .i64 5, .int .u32 1016, .int .i64 74, .int .i64 3, .int .u32 2042, .int .i64 79, .int .i64 2, .int .u32 4090, .int .i64 82, .int .i64 6, .int .u32 8184, .int .i64 84, .int .i64 2, .int .u32 16380, .int .i64 90, .int .i64 3, .int .u32 32764, .int .i64 92, .int .i64 0, .int .u32 0, .int .i64 0, .int .i64 0, .int .u32 0, .int .i64 0, .int .i64 0, .int .u32 0, .int .i64 0, .int .i64 3, .int .u32 524272, .int .i64 95, .int .i64 8, .int .u32 1048550, .int .i64 98, .int .i64 13, .int .u32 2097116, .int .i64 106, .int .i64 26, .int .u32 4194258, .int .i64 119, .int .i64 29, .int .u32 8388568, .int .i64 145, .int .i64 12, .int .u32 16777194, .int .i64 174, .int .i64 4, .int .u32 33554412, .int .i64 186, .int .i64 15, .int .u32 67108832, .int .i64 190, .int .i64 19, .int .u32 134217694, .int .i64 205, .int .i64 29, .int .u32 268435426, .int .i64 224, .int .i64 0, .int .u32 0, .int .i64 0, .int .i64 4, .int .u32 1073741820, .int .i64 253] t frozen
      | o => o) }
theorem laid_met (os : Os) : laidMet Tryd.prog Rows.huffEncodesRow.laid ((laidWorld os).forCall (fun _ _ => 0) ⟨#[], #[.string ByteArray.empty], []⟩).memory :=
  laidMet_of_run' 8 (by kernel_rfl) (by kernel_rfl)
theorem reads (os : Os) {H : Type} (enc : TypeId × Value → H) : ∃ places, DataW.whole enc Tryd.prog ((laidWorld os).forCall (fun _ _ => 0) ⟨#[], #[.string ByteArray.empty], []⟩).memory Tryd.f4.params.toList Rows.huffEncodesSpec.vars false (#[.string ByteArray.empty] : Array Value).toList 8 = some ([.lit (.string [])], [], places) :=
  ⟨[], by kernel_rfl⟩

set_option maxRecDepth 100000 in
theorem lifted (os : Os) (started : os.Started) (H : Type) (enc : TypeId × Value → H) (F : Stop.Interp) :
    ReturnsInHanded {} Tryd.checked os 4 .any ((OpenSpec.ofChange Rows.huffEncodesSpec).preRow enc Tryd.prog Tryd.f4 Rows.huffEncodesRow.domain false Rows.huffEncodesRow.laid) (((OpenSpec.ofChange Rows.huffEncodesSpec).at F).post enc Tryd.prog Tryd.f4 false true false false) := by
  obtain ⟨places, hx⟩ := reads os enc
  refine returnsInHanded_of_row (C := Tryd.checked) (s := OpenSpec.ofChange Rows.huffEncodesSpec) own started (by kernel_rfl) Tryd.func4
    (witness_row_at (enc := enc) (C := Tryd.checked) false (laidWorld os) #[.string ByteArray.empty] rfl (by kernel_rfl) (by kernel_rfl) (by kernel_rfl)
      (OpenSpec.preRow_of_cond 8 hx (by kernel_rfl) (fun k hk => by cases hk) (by kernel_rfl) (laid_met os))) ?_
  intro W base args ds gs before hval0 hW hcnd _ hsz0 hL _ _
  have hsz : (DataW.weightsEach Tryd.prog (Tryd.f4.params.toList ++ Rows.huffEncodesSpec.plain.varTypes Tryd.prog) (ds ++ gs)).all (· ≤ reachBytes) = true := hsz0
  have hval : ∀ (j : Nat) t v, Tryd.f4.params[j]? = some t → args[j]? = some v → Value.okWide Tryd.prog W .any base t v := hval0
  have hW' := hW
  obtain ⟨p, q, hA0, hV, rfl, hfz, hnd⟩ := hW
  have hA : DataW.TrodAll enc Tryd.prog W 0 (fun _ => true) true Tryd.f4.params.toList args.toList ds p := hA0
  rw [Tryd.params4] at hA hval hsz
  obtain ⟨v0, vs0, d0, ds0, p0, q0, hargs, rfl, rfl, h0, t0⟩ := trodAll_cons hA
  obtain ⟨rfl, rfl, rfl⟩ := trodAll_nil t0
  obtain rfl : args = #[v0] := by cases args; simp_all
  obtain ⟨rfl, rfl⟩ := trodVars_none hV
  have k0 := h0
  have lt0 : ∀ x ∈ p0, x.block < W.heap.size := by obtain ⟨m, hm⟩ := k0; exact DataW.trod_lt m _ _ _ hm
  obtain ⟨a0, rfl, rfl, rfl, w0⟩ := open_string Tryd.underlying9 (hval 0 9 v0 rfl rfl) h0
  have r0 : a0.size ≤ 140737488351232 := by have := sized_string hsz (j := 0) (t := 9) rfl rfl; simpa [reachBytes] using this
  clear hA0 hval0 hsz0
  refine (walk a0 W w0 r0 (grpIs_of (laid := Rows.huffEncodesRow.laid) hL 0 rfl)).mono fun e W' ⟨he, bel⟩ => ?_
  subst he
  exact ⟨_, rfl, _, _, _, [], _, [], hW', trodAll_mk1 (shut_bool Tryd.underlying4 _), (trodAll_cons_mk (Below.trod laidOut (by kernel_rfl) (of_decide_eq_true (by kernel_rfl)) k0 bel lt0) trodAll_mk0), rfl, bel.frame _, fun h => by cases h⟩

theorem over : Rows.huffEncodesRow.holds Tryd.pinned (OpenSpec.ofChange Rows.huffEncodesSpec) :=
  OpenClaim.holds_of_cond 4 Tryd.f4 rfl rfl rfl rfl rfl rfl rfl ⟨rfl, rfl, rfl, rfl, rfl⟩ rfl rfl rfl rfl rfl (by kernel_rfl) Tryd.func4 (by kernel_rfl)
    (of_decide_eq_true (by kernel_rfl)) (by unfold Func.isWrapper; first | (rw [if_pos (by decide +kernel)]; kernel_rfl) | (rw [if_neg (by decide +kernel)]; exact ⟨rfl, rfl⟩))
    (fun os started H enc _ F => by rw [OpenClaim.pre_eq_preRow]; exact lifted os started H enc F)

theorem plain (f : FuncId) (fn : Func) (hf : Tryd.pinned.checked.prog.funcNamed "drawbridge/drawbridgelaw02.HuffEncodes" = some f) (hfn : Tryd.pinned.checked.prog.funcs[f]? = some fn) :
    false = Tryd.pinned.checked.prog.looks [] ∧ ∀ (j : Nat) t, fn.params[j]? = some t → Tryd.pinned.checked.prog.wantsStandIn t = false := by
  obtain rfl : f = 4 := Option.some.inj ((show Tryd.prog.funcNamed "drawbridge/drawbridgelaw02.HuffEncodes" = some 4 by kernel_rfl).symm.trans hf) |>.symm
  obtain rfl : fn = Tryd.f4 := (Option.some.inj (Tryd.func4.symm.trans hfn)).symm
  refine ⟨by kernel_rfl, fun j t ht => ?_⟩
  rw [Tryd.params4] at ht
  have hm := Array.mem_of_getElem? ht
  simp only [List.mem_toArray, List.mem_cons, List.not_mem_nil, or_false] at hm
  rcases hm with rfl
  · exact (show Tryd.prog.wantsStandIn 9 = false by kernel_rfl)

theorem proved : Rows.HuffEncodesCardSaid :=
  Claim7.holds_tied_plain_at .later [] _ _ _ _ over (fun _ h => by cases h) (by kernel_rfl) (fun _ h => by cases h) huffEncodes_row_tie rfl ⟨rfl, rfl⟩ (by kernel_rfl) rfl plain (by kernel_rfl)
end Go.Proofs.YtjoabjkibfcfmaaDoor.huffEncodes
