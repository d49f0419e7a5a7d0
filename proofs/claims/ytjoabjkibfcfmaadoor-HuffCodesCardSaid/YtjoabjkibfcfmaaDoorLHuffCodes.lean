/-
  HuffCodes holds for every two symbols: each has the code and length that the document's rule makes, and none is the beginning of another one's; the table of groups starts as its text lays it.
-/
import Derived.Test.YtjoabjkibfcfmaaDoorRows
import Derived.WalkKit
import Derived.ProofKit
import Derived.OpenShut
import Derived.ShutString
import Derived.SizedLaws
import Derived.Deep.DeepHandedRow
import Derived.Lib.LaidTab
import Derived.Test.YtjoabjkibfcfmaaDoorLaid
import Derived.Test.YtjoabjkibfcfmaaDoorCards
import Derived.Test.YtjoabjkibfcfmaaDoorTie
import Derived.Test.YtjoabjkibfcfmaaDoorMem
import Derived.Test.YtjoabjkibfcfmaaDoorHufPure
import Derived.Test.YtjoabjkibfcfmaaDoorHufTree
import Derived.Test.YtjoabjkibfcfmaaDoorHuf1
import Derived.Test.YtjoabjkibfcfmaaDoorHuf2
import Derived.Test.YtjoabjkibfcfmaaDoorHuf5
import Derived.Test.YtjoabjkibfcfmaaDoorHufV
namespace Go.Proofs.YtjoabjkibfcfmaaDoor.huffCodes
open Go.ChangeShapes Go.WideShapes Go.ChangeAt Go.RowKit
open Go.Proofs.YtjoabjkibfcfmaaDoor Huf Mem
open Go.ChangeMaps (open_string shut_string)
set_option linter.unusedVariables false

theorem own : ownKnob Tryd.prog.godebug = none := by kernel_rfl
theorem laidOut : laidOutB Tryd.prog = true := by kernel_rfl

set_option maxRecDepth 100000 in
set_option maxHeartbeats 2000000 in
theorem walk (a0 : Int) (a1 : Int) (w : World) (w0 : (Lit.int .i64 a0).wf = true) (w1 : (Lit.int .i64 a1).wf = true) (tab0 : GrpIs w) :
    Calls Tryd.prog 3 #[.int .i64 a0, .int .i64 a1] w fun e w' => e = .returned (.bool true) ∧ Below w.heap.size w w' := by
  have HG := Lib.hid tab0
  clear tab0 w0 w1
  have C32 : Hid (∀ v, GrpIs v → Calls Tryd.prog 9 #[.int .i64 32] v fun e w' => e = .returned (.tuple #[.int .u32 20, .int .i64 6]) ∧ Below v.heap.size v w') := Lib.hid (fun v hg => by
    have h := code_any 32 v (by decide) hg
    rwa [show code 32 = 20 from by decide +kernel, show len 32 = 6 from by decide +kernel] at h)
  by_cases hs : a0 < 0 ∨ 256 < a0
  · have CN : Hid (∀ v, Calls Tryd.prog 9 #[.int .i64 a0] v fun e w' => e = .returned (.tuple #[.int .u32 0, .int .i64 0]) ∧ v = w') := Lib.hid (fun v => code_none a0 v hs)
    by_cases hs0 : a0 < 0
    · clear hs
      go_enter Tryd.func3, Tryd.ntmps3
      go_wp2_with fail
      refine (C32.out _ HG.out).mono ?_; rintro e v1 ⟨rfl, b1⟩
      go_wp2_with fail
      refine (CN.out _).mono ?_; rintro e w' ⟨rfl, rfl⟩
      go_wp2_with fail
      go_ret
      exact ⟨rfl, b1⟩
    · have hs1 : 256 < a0 := by omega
      clear hs
      go_enter Tryd.func3, Tryd.ntmps3
      go_wp2_with fail
      refine (C32.out _ HG.out).mono ?_; rintro e v1 ⟨rfl, b1⟩
      go_wp2_with fail
      refine (CN.out _).mono ?_; rintro e w' ⟨rfl, rfl⟩
      go_wp2_with fail
      go_ret
      exact ⟨rfl, b1⟩
  · obtain ⟨c, rfl⟩ := Int.eq_ofNat_of_zero_le (show 0 ≤ a0 by omega)
    have hc : c < 257 := by omega
    have hcl := len_all c hc
    have hcc := (code_all c hc).2
    have CC : Hid (∀ v, GrpIs v → Calls Tryd.prog 9 #[.int .i64 c] v fun e w' => e = .returned (.tuple #[.int .u32 (code c), .int .i64 (len c)]) ∧ Below v.heap.size v w') := Lib.hid (fun v hg => code_any c v hc hg)
    have LC : Hid (∀ v g, LenIs v g → v.cell? ⟨g, c, none⟩ = some (.int .i64 (len c))) := Lib.hid (fun v g h => h c hc)
    have KC : Hid (∀ v g, CodIs v g → v.cell? ⟨g, c, none⟩ = some (.int .u32 (code c))) := Lib.hid (fun v g h => h c hc)
    have h0 : (0 : Int) ≤ c := by omega
    have h1 : (c : Int) < 257 := by omega
    have h2 : ¬ (c : Int) < 0 := by omega
    have h3 : ¬ (256 : Int) < c := by omega
    by_cases ho : a1 < 0 ∨ 256 < a1
    · have CN : Hid (∀ v, Calls Tryd.prog 9 #[.int .i64 a1] v fun e w' => e = .returned (.tuple #[.int .u32 0, .int .i64 0]) ∧ v = w') := Lib.hid (fun v => code_none a1 v ho)
      clear hs
      generalize code c = K at *
      generalize len c = L at *
      by_cases ho0 : a1 < 0
      · clear ho
        go_enter Tryd.func3, Tryd.ntmps3
        go_wp2_with fail
        refine (C32.out _ HG.out).mono ?_; rintro e v1 ⟨rfl, b1⟩
        go_wp2_with fail
        refine (CC.out _ (HG.out.below b1)).mono ?_; rintro e v2 ⟨rfl, b2⟩
        replace b2 := below_step b1 b2
        go_wp2_with fail
        refine (codes_any _).mono ?_; rintro e v3 ⟨g3, rfl, i3, b3⟩
        replace b3 := below_step b2 b3
        have k3 := KC.out _ _ i3
        clear i3
        go_wp2_with fail
        refine (lengths_any _).mono ?_; rintro e v4 ⟨g4, rfl, i4, b4⟩
        replace b4 := below_step b3 b4
        have k4 := LC.out _ _ i4
        clear i4 k3
        go_wp2_with fail
        refine (CN.out _).mono ?_; rintro e w' ⟨rfl, rfl⟩
        go_wp2_with fail
        go_ret
        exact ⟨rfl, b4⟩
      · have ho1 : 256 < a1 := by omega
        clear ho
        go_enter Tryd.func3, Tryd.ntmps3
        go_wp2_with fail
        refine (C32.out _ HG.out).mono ?_; rintro e v1 ⟨rfl, b1⟩
        go_wp2_with fail
        refine (CC.out _ (HG.out.below b1)).mono ?_; rintro e v2 ⟨rfl, b2⟩
        replace b2 := below_step b1 b2
        go_wp2_with fail
        refine (codes_any _).mono ?_; rintro e v3 ⟨g3, rfl, i3, b3⟩
        replace b3 := below_step b2 b3
        have k3 := KC.out _ _ i3
        clear i3
        go_wp2_with fail
        refine (lengths_any _).mono ?_; rintro e v4 ⟨g4, rfl, i4, b4⟩
        replace b4 := below_step b3 b4
        have k4 := LC.out _ _ i4
        clear i4 k3
        go_wp2_with fail
        refine (CN.out _).mono ?_; rintro e w' ⟨rfl, rfl⟩
        go_wp2_with fail
        go_ret
        exact ⟨rfl, b4⟩
    · obtain ⟨d, rfl⟩ := Int.eq_ofNat_of_zero_le (show 0 ≤ a1 by omega)
      have hd : d < 257 := by omega
      have hdl := len_all d hd
      have hdc := (code_all d hd).2
      have CD : Hid (∀ v, GrpIs v → Calls Tryd.prog 9 #[.int .i64 d] v fun e w' => e = .returned (.tuple #[.int .u32 (code d), .int .i64 (len d)]) ∧ Below v.heap.size v w') := Lib.hid (fun v hg => code_any d v hd hg)
      have hap := Lib.hid (apart c hc d hd)
      have d2 : ¬ (d : Int) < 0 := by omega
      have d3 : ¬ (256 : Int) < d := by omega
      clear hs ho
      generalize code c = K at *
      generalize len c = L at *
      generalize code d = M at *
      generalize len d = N at *
      go_enter Tryd.func3, Tryd.ntmps3
      go_wp2_with fail
      refine (C32.out _ HG.out).mono ?_; rintro e v1 ⟨rfl, b1⟩
      go_wp2_with fail
      refine (CC.out _ (HG.out.below b1)).mono ?_; rintro e v2 ⟨rfl, b2⟩
      replace b2 := below_step b1 b2
      go_wp2_with fail
      refine (codes_any _).mono ?_; rintro e v3 ⟨g3, rfl, i3, b3⟩
      replace b3 := below_step b2 b3
      have k3 := KC.out _ _ i3
      clear i3
      go_wp2_with fail
      refine (lengths_any _).mono ?_; rintro e v4 ⟨g4, rfl, i4, b4⟩
      replace b4 := below_step b3 b4
      have k4 := LC.out _ _ i4
      clear i4 k3
      go_wp2_with fail
      refine (CD.out _ (HG.out.below b4)).mono ?_; rintro e v5 ⟨rfl, b5⟩
      replace b5 := below_step b4 b5
      by_cases q1 : d = c
      · have q1' : ((d : Int) == (c : Int)) = true := by simp [q1]
        clear q1
        go_wp2_with fail
        go_ret
        exact ⟨rfl, b5⟩
      · have q1' : ((d : Int) == (c : Int)) = false := by simp; omega
        by_cases q2 : N < L
        · have q2' : (N : Int) < L := by omega
          go_wp2_with fail
          go_ret
          exact ⟨rfl, b5⟩
        · have q2' : ¬ (N : Int) < L := by omega
          have q3 : M / 2 ^ (N - L) ≠ K := by rcases hap.out with h | h | h; exact absurd h q1; exact absurd h q2; exact h
          have q4 : (((M : Int) / 2 ^ (N - L)) != (K : Int)) = true := by
            rw [show ((M : Int) / 2 ^ (N - L)) = ((M / 2 ^ (N - L) : Nat) : Int) from by rw [Int.natCast_ediv, Int.natCast_pow]; rfl]
            simp only [bne_iff_ne, ne_eq]; omega
          have q5 : (0 : Int) ≤ (N : Int) - L := by omega
          have q6 : ((N : Int) - L).toNat = N - L := by omega
          clear q3
          go_wp2_with fail
          go_ret
          exact ⟨rfl, b5⟩


noncomputable def laidWorld (os : Os) : World :=
  { World.holding Tryd.prog os ⟨#[], #[], []⟩ with heap := (((World.holding Tryd.prog os ⟨#[], #[], []⟩).heap).modify 0 fun
      | .cells _ t frozen => .cells #[.int .i64 0, .int .u32 0, .int .i64 0, .int .i64 0, .int .u32 0, .int .i64 0, .int .i64 0, .int .u32 0, .int .i64 0, .int .i64 0, .int .u32 0, .int .i64 0, .int .i64 0, .int .u32 0, .int .i64 0, .int .i64 10, .int .u32 0, .int .i64 0, .int .i64 26, .int .u32 20, .int .i64 10, .int .i64 32, .int .u32 92, .int .i64 36, .int .i64 6, .int .u32 248, .int .i64 68, .int .i64 0, .int .u32 0, .int .i64 0, .int .i64 5, .int .u32 1016, .int .i64 74, .int .i64 3, .int .u32 2042, .int .i64 79, .int .i64 2, .int .u32 4090, .int .i64 82, .int .i64 6, .int .u32 8184, .int .i64 84, .int .i64 2, .int .u32 16380, .int .i64 90, .int .i64 3, .int .u32 32764, .int .i64 92, .int .i64 0, .int .u32 0, .int .i64 0, .int .i64 0, .int .u32 0, .int .i64 0, .int .i64 0, .int .u32 0, .int .i64 0, .int .i64 3, .int .u32 524272, .int .i64 95, .int .i64 8, .int .u32 1048550, .int .i64 98, .int .i64 13, .int .u32 2097116, .int .i64 106, .int .i64 26, .int .u32 4194258, .int .i64 119, .int .i64 29, .int .u32 8388568, .int .i64 145, .int .i64 12, .int .u32 16777194, .int .i64 174, .int .i64 4, .int .u32 33554412, .int .i64 186, .int .i64 15, .int .u32 67108832, .int .i64 190, .int .i64 19, .int .u32 134217694, .int .i64 205, .int .i64 29, .int .u32 268435426, .int .i64 224, .int .i64 0, .int .u32 0, .int .i64 0, .int .i64 4, .int .u32 1073741820, .int .i64 253] t frozen
      | o => o) }
theorem laid_met (os : Os) : laidMet Tryd.prog Rows.huffCodesRow.laid ((laidWorld os).forCall (fun _ _ => 0) ⟨#[], #[.int .i64 0, .int .i64 0], []⟩).memory :=
  laidMet_of_run' 8 (by kernel_rfl) (by kernel_rfl)
theorem reads (os : Os) {H : Type} (enc : TypeId × Value → H) : ∃ places, DataW.whole enc Tryd.prog ((laidWorld os).forCall (fun _ _ => 0) ⟨#[], #[.int .i64 0, .int .i64 0], []⟩).memory Tryd.f3.params.toList Rows.huffCodesSpec.vars false (#[.int .i64 0, .int .i64 0] : Array Value).toList 8 = some ([.lit (.int .i64 0), .lit (.int .i64 0)], [], places) :=
  ⟨[], by kernel_rfl⟩

set_option maxRecDepth 100000 in
theorem lifted (os : Os) (started : os.Started) (H : Type) (enc : TypeId × Value → H) (F : Stop.Interp) :
    ReturnsInHanded {} Tryd.checked os 3 .any ((OpenSpec.ofChange Rows.huffCodesSpec).preRow enc Tryd.prog Tryd.f3 Rows.huffCodesRow.domain false Rows.huffCodesRow.laid) (((OpenSpec.ofChange Rows.huffCodesSpec).at F).post enc Tryd.prog Tryd.f3 false true false false) := by
  obtain ⟨places, hx⟩ := reads os enc
  refine returnsInHanded_of_row (C := Tryd.checked) (s := OpenSpec.ofChange Rows.huffCodesSpec) own started (by kernel_rfl) Tryd.func3
    (witness_row_at (enc := enc) (C := Tryd.checked) false (laidWorld os) #[.int .i64 0, .int .i64 0] rfl (by kernel_rfl) (by kernel_rfl) (by kernel_rfl)
      (OpenSpec.preRow_of_cond 8 hx (by kernel_rfl) (fun k hk => by cases hk) (by kernel_rfl) (laid_met os))) ?_
  intro W base args ds gs before hval0 hW hcnd _ hsz0 hL _ _
  have hsz : (DataW.weightsEach Tryd.prog (Tryd.f3.params.toList ++ Rows.huffCodesSpec.plain.varTypes Tryd.prog) (ds ++ gs)).all (· ≤ reachBytes) = true := hsz0
  have hval : ∀ (j : Nat) t v, Tryd.f3.params[j]? = some t → args[j]? = some v → Value.okWide Tryd.prog W .any base t v := hval0
  have hW' := hW
  obtain ⟨p, q, hA0, hV, rfl, hfz, hnd⟩ := hW
  have hA : DataW.TrodAll enc Tryd.prog W 0 (fun _ => true) true Tryd.f3.params.toList args.toList ds p := hA0
  rw [Tryd.params3] at hA hval hsz
  obtain ⟨v0, vs0, d0, ds0, p0, q0, hargs, rfl, rfl, h0, t0⟩ := trodAll_cons hA
  obtain ⟨v1, vs1, d1, ds1, p1, q1, rfl, rfl, rfl, h1, t1⟩ := trodAll_cons t0
  obtain ⟨rfl, rfl, rfl⟩ := trodAll_nil t1
  obtain rfl : args = #[v0, v1] := by cases args; simp_all
  obtain ⟨rfl, rfl⟩ := trodVars_none hV
  have k0 := h0
  have lt0 : ∀ x ∈ p0, x.block < W.heap.size := by obtain ⟨m, hm⟩ := k0; exact DataW.trod_lt m _ _ _ hm
  obtain ⟨a0, rfl, rfl, rfl, w0⟩ := open_int Tryd.underlying3 (hval 0 3 v0 rfl rfl) h0
  have k1 := h1
  have lt1 : ∀ x ∈ p1, x.block < W.heap.size := by obtain ⟨m, hm⟩ := k1; exact DataW.trod_lt m _ _ _ hm
  obtain ⟨a1, rfl, rfl, rfl, w1⟩ := open_int Tryd.underlying3 (hval 1 3 v1 rfl rfl) h1
  clear hA0 hval0 hsz0
  refine (walk a0 a1 W w0 w1 (grpIs_of (laid := Rows.huffCodesRow.laid) hL 0 rfl)).mono fun e W' ⟨he, bel⟩ => ?_
  subst he
  exact ⟨_, rfl, _, _, _, [], _, [], hW', trodAll_mk1 (shut_bool Tryd.underlying4 _), (trodAll_cons_mk (Below.trod laidOut (by kernel_rfl) (of_decide_eq_true (by kernel_rfl)) k0 bel lt0) (trodAll_cons_mk (Below.trod laidOut (by kernel_rfl) (of_decide_eq_true (by kernel_rfl)) k1 bel lt1) trodAll_mk0)), rfl, bel.frame _, fun h => by cases h⟩

theorem over : Rows.huffCodesRow.holds Tryd.pinned (OpenSpec.ofChange Rows.huffCodesSpec) :=
  OpenClaim.holds_of_cond 3 Tryd.f3 rfl rfl rfl rfl rfl rfl rfl ⟨rfl, rfl, rfl, rfl, rfl⟩ rfl rfl rfl rfl rfl (by kernel_rfl) Tryd.func3 (by kernel_rfl)
    (of_decide_eq_true (by kernel_rfl)) (by unfold Func.isWrapper; first | (rw [if_pos (by decide +kernel)]; kernel_rfl) | (rw [if_neg (by decide +kernel)]; exact ⟨rfl, rfl⟩))
    (fun os started H enc _ F => by rw [OpenClaim.pre_eq_preRow]; exact lifted os started H enc F)

theorem plain (f : FuncId) (fn : Func) (hf : Tryd.pinned.checked.prog.funcNamed "drawbridge/drawbridgelaw02.HuffCodes" = some f) (hfn : Tryd.pinned.checked.prog.funcs[f]? = some fn) :
    false = Tryd.pinned.checked.prog.looks [] ∧ ∀ (j : Nat) t, fn.params[j]? = some t → Tryd.pinned.checked.prog.wantsStandIn t = false := by
  obtain rfl : f = 3 := Option.some.inj ((show Tryd.prog.funcNamed "drawbridge/drawbridgelaw02.HuffCodes" = some 3 by kernel_rfl).symm.trans hf) |>.symm
  obtain rfl : fn = Tryd.f3 := (Option.some.inj (Tryd.func3.symm.trans hfn)).symm
  refine ⟨by kernel_rfl, fun j t ht => ?_⟩
  rw [Tryd.params3] at ht
  have hm := Array.mem_of_getElem? ht
  simp only [List.mem_toArray, List.mem_cons, List.not_mem_nil, or_false] at hm
  rcases hm with rfl | rfl
  · exact (show Tryd.prog.wantsStandIn 3 = false by kernel_rfl)
  · exact (show Tryd.prog.wantsStandIn 3 = false by kernel_rfl)

theorem proved : Rows.HuffCodesCardSaid :=
  Claim7.holds_tied_plain_at .later [] _ _ _ _ over (fun _ h => by cases h) (by kernel_rfl) (fun _ h => by cases h) huffCodes_row_tie rfl ⟨rfl, rfl⟩ (by kernel_rfl) rfl plain (by kernel_rfl)
end Go.Proofs.YtjoabjkibfcfmaaDoor.huffCodes
