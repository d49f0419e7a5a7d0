/-
  PrefixTexts holds for every text: prefix.PutText is the document's own row of bytes; the table of groups starts as its text lays it.
-/
import Derived.Test.YtabpoejimnoamaaDoorRows
import Derived.WalkKit
import Derived.ProofKit
import Derived.OpenShut
import Derived.ShutString
import Derived.SizedLaws
import Derived.Deep.DeepHandedRow
import Derived.Lib.LaidTab
import Derived.Test.YtabpoejimnoamaaDoorLaid
import Derived.Test.YtabpoejimnoamaaDoorCards
import Derived.Test.YtabpoejimnoamaaDoorTie
import Derived.Test.YtabpoejimnoamaaDoorMem
import Derived.Test.YtabpoejimnoamaaDoorHufPure
import Derived.Test.YtabpoejimnoamaaDoorGen
import Derived.Test.YtabpoejimnoamaaDoorBytes
import Derived.Test.YtabpoejimnoamaaDoorMem2
import Derived.Test.YtabpoejimnoamaaDoorPrePure
import Derived.Test.YtabpoejimnoamaaDoorPreBack
import Derived.Test.YtabpoejimnoamaaDoorHuf1
import Derived.Test.YtabpoejimnoamaaDoorHufV
import Derived.Test.YtabpoejimnoamaaDoorPre3
import Derived.Test.YtabpoejimnoamaaDoorPreP
import Derived.Test.YtabpoejimnoamaaDoorPreQ
import Derived.Test.YtabpoejimnoamaaDoorPreR
namespace Go.Proofs.YtabpoejimnoamaaDoor.prefixTexts
open Go.ChangeShapes Go.WideShapes Go.ChangeAt Go.RowKit
open Go.Proofs.YtabpoejimnoamaaDoor Huf Pre Mem Gen
open Go.ChangeMaps (open_string shut_string)
set_option linter.unusedVariables false

theorem own : ownKnob Tryd.prog.godebug = none := by kernel_rfl
theorem laidOut : laidOutB Tryd.prog = true := by kernel_rfl

set_option maxRecDepth 100000 in
set_option maxHeartbeats 2000000 in
theorem walk (a0 : ByteArray) (w : World) (w0 : a0.size ≤ maxLen) (r0 : a0.size ≤ 140737488351232) (tab0 : GrpIs w) :
    Calls Tryd.prog 3 #[.string a0] w fun e w' => e = .returned (.bool true) ∧ Below w.heap.size w w' := by
  have HG := Lib.hid tab0
  clear tab0
  have HP : Hid (∀ v, Below w.heap.size w v → Calls Tryd.prog 6 #[.string ⟨#[97, 97, 97]⟩] v fun e w' => ∃ g cap, e = .returned (.slice (some ⟨g, 0, none⟩) 3 cap) ∧ w'.cell? ⟨g, 0, none⟩ = some (.int .u8 130) ∧ Below v.heap.size v w') := Lib.hid (fun v hv => by
    refine (pputtext_any ⟨#[97, 97, 97]⟩ v (by decide) (HG.out.below hv)).mono ?_
    rintro e w' ⟨a, cap, he, hown, hb⟩
    rw [show putT (ByteArray.mk #[97, 97, 97]).data.toList = [130, 24, 199] from by decide +kernel] at he hown
    rcases hown.out.2 with ⟨_, h2⟩ | ⟨g, cap', cur, h1, _⟩
    · simp at h2
    · have h' := hown.out
      simp only [Value.slice.injEq] at h1
      obtain ⟨rfl, _, rfl⟩ := h1
      exact ⟨g, cap, he, (h'.cellAt 0 (by simp)).trans rfl, hb⟩)
  by_cases hba : 65536 < a0.size
  · go_enter Tryd.func3, Tryd.ntmps3
    go_wp2_with fail
    refine (HP.out _ (Below.refl _ _)).mono ?_; rintro e v1 ⟨g, cap, rfl, hc, b1⟩
    go_wp2_with fail
    go_ret
    exact ⟨rfl, b1⟩
  · have PA : Hid (∀ v, Below w.heap.size w v → Calls Tryd.prog 6 #[.string a0] v (MadeB v (putT a0.data.toList))) := Lib.hid (fun v hv => pputtext_any a0 v (by omega) (HG.out.below hv))
    have RA : Hid (∀ v, Calls Tryd.prog 8 #[.string a0] v (MadeB v (putT a0.data.toList))) := Lib.hid (fun v => rputtext_any a0 v (by omega))
    generalize putT a0.data.toList = X at PA RA
    have BY : Hid (∀ (v : World) a b ca cb, RB v a X → RB v b X → Calls Tryd.prog 7 #[.slice a X.length ca, .slice b X.length cb] v fun e w' => e = .returned (.bool true) ∧ v = w') := Lib.hid (fun v a b ca cb ha hb => by
      have h := bytes_any a b X X ca cb v ha hb
      rwa [decide_eq_true rfl] at h)
    go_enter Tryd.func3, Tryd.ntmps3
    go_wp2_with fail
    refine (HP.out _ (Below.refl _ _)).mono ?_; rintro e v1 ⟨g, cap, rfl, hc, b1⟩
    go_wp2_with fail
    refine (PA.out _ b1).mono ?_; rintro e v2 ⟨ad2, cp2, rfl, hown2, b2⟩
    have R2 : Hid (RB v2 ad2 X) := Lib.hid (RB.of_own hown2.out)
    replace b2 := below_step b1 b2
    clear hown2
    go_wp2_with fail
    refine (RA.out _).mono ?_; rintro e v3 ⟨ad3, cp3, rfl, hown3, b3⟩
    have R3 : Hid (RB v3 ad3 X) := Lib.hid (RB.of_own hown3.out)
    have R2' : Hid (RB v3 ad2 X) := Lib.hid (R2.out.below b3)
    replace b3 := below_step b2 b3
    clear hown3
    go_wp2_with fail
    refine (BY.out _ _ _ _ _ R2'.out R3.out).mono ?_; rintro e w' ⟨rfl, rfl⟩
    go_wp2_with fail
    go_ret
    exact ⟨rfl, b3⟩


noncomputable def laidWorld (os : Os) : World :=
  { World.holding Tryd.prog os ⟨#[], #[], []⟩ with heap := (((World.holding Tryd.prog os ⟨#[], #[], []⟩).heap).modify 0 fun
      | .cells _ t frozen => .cells #[.int .i64 0, .int .u32 0, .int .i64 0, .int .i64 0, .int .u32 0, .int .i64 0, .int .i64 0, .int .u32 0, .int .i64 0, .int .i64 0, .int .u32 0, .int .i64 0, .int .i64 0, .int .u32 0, .int .i64 0, .int .i64 10, .int .u32 0, .int .i64 0, .int .i64 26, .int .u32 20, .int .i64 10, .int .i64 32, .int .u32 92, .int .i64 36, .int .i64 6, .int .u32 248, .int .i64 68, .int .i64 0, .int .u32 0, .int .i64 0, .int .i64 5, .int .u32 1016, .int .i64 74, .int .i64 3, .int .u32 2042, .int .i64 79, .int .i64 2, .int .u32 4090, .int .i64 82, .int .i64 6, .int .u32 8184, .int .i64 84, .int .i64 2, .int .u32 16380, .int .i64 90, .int .i64 3, .int .u32 32764, .int .i64 92, .int .i64 0, .int .u32 0, .int .i64 0, .int .i64 0, .int .u32 0, .int .i64 0, .int .i64 0, .int .u32 0, .int .i64 0, .int .i64 3, .int .u32 524272, .int .i64 95, .int .i64 8, .int .u32 1048550, .int .i64 98, .int .i64 13, .int .u32 2097116, .int .i64 106, .int .i64 26, .int .u32 4194258, .int .i64 119, .int .i64 29, .int .u32 8388568, .int .i64 145, .int .i64 12, .int .u32 16777194, .int .i64 174, .int .i64 4, .int .u32 33554412, .int .i64 186, .int .i64 15, .int .u32 67108832, .int .i64 190, .int .i64 19, .int .u32 134217694, .int .i64 205, .int .i64 29, .int .u32 268435426, .int .i64 224, .int .i64 0, .int .u32 0, .int .i64 0, .int .i64 4, .int .u32 1073741820, .int .i64 253] t frozen
      | o => o) }
theorem laid_met (os : Os) : laidMet Tryd.prog Rows.prefixTextsRow.laid ((laidWorld os).forCall (fun _ _ => 0) ⟨#[], #[.string ByteArray.empty], []⟩).memory :=
  laidMet_of_run' 8 (by kernel_rfl) (by kernel_rfl)
theorem reads (os : Os) {H : Type} (enc : TypeId × Value → H) : ∃ places, DataW.whole enc Tryd.prog ((laidWorld os).forCall (fun _ _ => 0) ⟨#[], #[.string ByteArray.empty], []⟩).memory Tryd.f3.params.toList Rows.prefixTextsSpec.vars false (#[.string ByteArray.empty] : Array Value).toList 8 = some ([.lit (.string [])], [], places) :=
  ⟨[], by kernel_rfl⟩

set_option maxRecDepth 100000 in
theorem lifted (os : Os) (started : os.Started) (H : Type) (enc : TypeId × Value → H) (F : Stop.Interp) :
    ReturnsInHanded {} Tryd.checked os 3 .any ((OpenSpec.ofChange Rows.prefixTextsSpec).preRow enc Tryd.prog Tryd.f3 Rows.prefixTextsRow.domain false Rows.prefixTextsRow.laid) (((OpenSpec.ofChange Rows.prefixTextsSpec).at F).post enc Tryd.prog Tryd.f3 false true false false) := by
  obtain ⟨places, hx⟩ := reads os enc
  refine returnsInHanded_of_row (C := Tryd.checked) (s := OpenSpec.ofChange Rows.prefixTextsSpec) own started (by kernel_rfl) Tryd.func3
    (witness_row_at (enc := enc) (C := Tryd.checked) false (laidWorld os) #[.string ByteArray.empty] rfl (by kernel_rfl) (by kernel_rfl) (by kernel_rfl)
      (OpenSpec.preRow_of_cond 8 hx (by kernel_rfl) (fun k hk => by cases hk) (by kernel_rfl) (laid_met os))) ?_
  intro W base args ds gs before hval0 hW hcnd _ hsz0 hL _ _
  have hsz : (DataW.weightsEach Tryd.prog (Tryd.f3.params.toList ++ Rows.prefixTextsSpec.plain.varTypes Tryd.prog) (ds ++ gs)).all (· ≤ reachBytes) = true := hsz0
  have hval : ∀ (j : Nat) t v, Tryd.f3.params[j]? = some t → args[j]? = some v → Value.okWide Tryd.prog W .any base t v := hval0
  have hW' := hW
  obtain ⟨p, q, hA0, hV, rfl, hfz, hnd⟩ := hW
  have hA : DataW.TrodAll enc Tryd.prog W 0 (fun _ => true) true Tryd.f3.params.toList args.toList ds p := hA0
  rw [Tryd.params3] at hA hval hsz
  obtain ⟨v0, vs0, d0, ds0, p0, q0, hargs, rfl, rfl, h0, t0⟩ := trodAll_cons hA
  obtain ⟨rfl, rfl, rfl⟩ := trodAll_nil t0
  obtain rfl : args = #[v0] := by cases args; simp_all
  obtain ⟨rfl, rfl⟩ := trodVars_none hV
  have k0 := h0
  have lt0 : ∀ x ∈ p0, x.block < W.heap.size := by obtain ⟨m, hm⟩ := k0; exact DataW.trod_lt m _ _ _ hm
  obtain ⟨a0, rfl, rfl, rfl, w0⟩ := open_string Tryd.underlying9 (hval 0 9 v0 rfl rfl) h0
  have r0 : a0.size ≤ 140737488351232 := by have := sized_string hsz (j := 0) (t := 9) rfl rfl; simpa [reachBytes] using this
  clear hA0 hval0 hsz0
  refine (walk a0 W w0 r0 (grpIs_of (laid := Rows.prefixTextsRow.laid) hL 0 rfl)).mono fun e W' ⟨he, bel⟩ => ?_
  subst he
  exact ⟨_, rfl, _, _, _, [], _, [], hW', trodAll_mk1 (shut_bool Tryd.underlying4 _), (trodAll_cons_mk (Below.trod laidOut (by kernel_rfl) (of_decide_eq_true (by kernel_rfl)) k0 bel lt0) trodAll_mk0), rfl, bel.frame _, fun h => by cases h⟩

theorem over : Rows.prefixTextsRow.holds Tryd.pinned (OpenSpec.ofChange Rows.prefixTextsSpec) :=
  OpenClaim.holds_of_cond 3 Tryd.f3 rfl rfl rfl rfl rfl rfl rfl ⟨rfl, rfl, rfl, rfl, rfl⟩ rfl rfl rfl rfl rfl (by kernel_rfl) Tryd.func3 (by kernel_rfl)
    (of_decide_eq_true (by kernel_rfl)) (by unfold Func.isWrapper; first | (rw [if_pos (by decide +kernel)]; kernel_rfl) | (rw [if_neg (by decide +kernel)]; exact ⟨rfl, rfl⟩))
    (fun os started H enc _ F => by rw [OpenClaim.pre_eq_preRow]; exact lifted os started H enc F)

theorem plain (f : FuncId) (fn : Func) (hf : Tryd.pinned.checked.prog.funcNamed "drawbridge/drawbridgelaw03.PrefixTexts" = some f) (hfn : Tryd.pinned.checked.prog.funcs[f]? = some fn) :
    false = Tryd.pinned.checked.prog.looks [] ∧ ∀ (j : Nat) t, fn.params[j]? = some t → Tryd.pinned.checked.prog.wantsStandIn t = false := by
  obtain rfl : f = 3 := Option.some.inj ((show Tryd.prog.funcNamed "drawbridge/drawbridgelaw03.PrefixTexts" = some 3 by kernel_rfl).symm.trans hf) |>.symm
  obtain rfl : fn = Tryd.f3 := (Option.some.inj (Tryd.func3.symm.trans hfn)).symm
  refine ⟨by kernel_rfl, fun j t ht => ?_⟩
  rw [Tryd.params3] at ht
  have hm := Array.mem_of_getElem? ht
  simp only [List.mem_toArray, List.mem_cons, List.not_mem_nil, or_false] at hm
  rcases hm with rfl
  · exact (show Tryd.prog.wantsStandIn 9 = false by kernel_rfl)

theorem proved : Rows.PrefixTextsCardSaid :=
  Claim7.holds_tied_plain_at .later [] _ _ _ _ over (fun _ h => by cases h) (by kernel_rfl) (fun _ h => by cases h) prefixTexts_row_tie rfl ⟨rfl, rfl⟩ (by kernel_rfl) rfl plain (by kernel_rfl)
end Go.Proofs.YtabpoejimnoamaaDoor.prefixTexts
