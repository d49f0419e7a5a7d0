/-
  OctetGrows holds for every text and digit: a digit more makes ten times the number and that digit, or one that is too great; the conversion tables of the library start as its text lays them.
-/
import Derived.Test.YtfeggahlhfpfoaaDoorRows
import Derived.WalkKit
import Derived.ProofKit
import Derived.OpenShut
import Derived.ShutString
import Derived.SizedLaws
import Derived.Deep.DeepHandedRow
import Derived.Lib.LaidTab
import Derived.Test.YtfeggahlhfpfoaaDoorLaid
import Derived.Test.YtfeggahlhfpfoaaDoorCards
import Derived.Test.YtfeggahlhfpfoaaDoorTie
import Derived.Test.YtfeggahlhfpfoaaDoorMem
import Derived.Test.YtfeggahlhfpfoaaDoorOctPure
import Derived.Test.YtfeggahlhfpfoaaDoorOct1
import Derived.Test.YtfeggahlhfpfoaaDoorShelf
import Derived.Test.YtfeggahlhfpfoaaDoorOctS
import Derived.Test.YtfeggahlhfpfoaaDoorOctG
namespace Go.Proofs.YtfeggahlhfpfoaaDoor.octetGrows
open Go.ChangeShapes Go.WideShapes Go.ChangeAt Go.RowKit
open Go.Proofs.YtfeggahlhfpfoaaDoor Oct Mem
open Go.ChangeMaps (open_string shut_string)
set_option linter.unusedVariables false

theorem own : ownKnob Tryd.prog.godebug = none := by kernel_rfl
theorem laidOut : laidOutB Tryd.prog = true := by kernel_rfl

set_option maxHeartbeats 1000000 in
theorem walk (a0 : ByteArray) (a1 : Int) (w : World) (w0 : a0.size ≤ maxLen) (r0 : a0.size ≤ 140737488351232) (w1 : (Lit.int .u8 a1).wf = true) (tab0 : Lib.TabIs Tryd.prog w "math/bits.deBruijn32tab" .u8 [0, 1, 28, 2, 29, 14, 24, 3, 30, 22, 20, 15, 25, 17, 4, 8, 31, 27, 13, 23, 21, 19, 16, 7, 26, 12, 18, 6, 11, 5, 10, 9]) (tab1 : Lib.TabIs Tryd.prog w "math/bits.deBruijn64tab" .u8 [0, 1, 56, 2, 57, 49, 28, 3, 61, 58, 42, 50, 38, 29, 17, 4, 62, 47, 59, 36, 45, 43, 51, 22, 53, 39, 33, 30, 24, 18, 12, 5, 63, 55, 48, 27, 60, 41, 37, 16, 46, 35, 44, 21, 52, 32, 23, 11, 54, 26, 40, 15, 34, 20, 31, 10, 25, 14, 19, 9, 13, 8, 7, 6]) (tab2 : Lib.TabIs Tryd.prog w "internal/strconv.uint64pow10" .u64 [1, 10, 100, 1000, 10000, 100000, 1000000, 10000000, 100000000, 1000000000, 10000000000, 100000000000, 1000000000000, 10000000000000, 100000000000000, 1000000000000000, 10000000000000000, 100000000000000000, 1000000000000000000, 10000000000000000000]) :
    Calls Tryd.prog 4 #[.string a0, .int .u8 a1] w fun e w' => e = .returned (.bool true) ∧ Below w.heap.size w w' := by
  have hx : 0 ≤ a1 ∧ a1 ≤ 255 := by simpa [Lit.wf, IntKind.min, IntKind.max, IntKind.signed, IntKind.bits] using w1
  obtain ⟨hx0, hx1⟩ := hx
  obtain ⟨k, hk⟩ := Int.eq_ofNat_of_zero_le (show 0 ≤ a1 % 10 by omega)
  have hk10 : k < 10 := by omega
  have C0 : Hid (∀ w, Calls Tryd.prog 8 #[.string ⟨#[55, 48]⟩] w fun e w' => e = .returned (.tuple #[.int .i64 70, .int .i64 0]) ∧ w = w') := Lib.hid (fun w => by
    have h := decimal_any ⟨#[55, 48]⟩ w (by unfold maxLen; decide)
    rwa [show numV 10 (ByteArray.mk #[55, 48]).data.toList = 70 from by decide +kernel, show numE 10 (ByteArray.mk #[55, 48]).data.toList = 0 from by decide +kernel] at h)
  have w0' := w0
  unfold maxLen at w0'
  have hvb := numV_bd a0.data.toList
  by_cases hbig : 65536 < a0.size
  · clear hk
    go_enter Tryd.func4, Tryd.ntmps4
    go_wp2_with fail
    refine (C0.out _).mono ?_; rintro e w' ⟨rfl, rfl⟩
    go_wp2_with fail
    go_ret
    exact ⟨rfl, Below.refl _ _⟩
  · have hd : (a0 ++ (⟨#[digU k]⟩ : ByteArray)).data.toList = a0.data.toList ++ [digU k] := by simp [ByteArray.data_append]
    have hds : (a0 ++ (⟨#[digU k]⟩ : ByteArray)).size ≤ maxLen := by rw [ByteArray.size_append]; unfold maxLen; have : (ByteArray.mk #[digU k]).size = 1 := rfl; omega
    have C2 : Hid (∀ w, Calls Tryd.prog 5 #[.int .i64 k] w fun e w' => e = .returned (.string ⟨#[digU k]⟩) ∧ w = w') := Lib.hid (digits_one k hk10)
    have C1 : Hid (∀ w, Calls Tryd.prog 8 #[.string a0] w fun e w' => e = .returned (.tuple #[.int .i64 (numV 10 a0.data.toList), .int .i64 (numE 10 a0.data.toList)]) ∧ w = w') := Lib.hid (fun w => decimal_any a0 w w0)
    have C3 : Hid (∀ w, Calls Tryd.prog 8 #[.string (a0 ++ (⟨#[digU k]⟩ : ByteArray))] w fun e w' => e = .returned (.tuple #[.int .i64 (numV 10 (a0.data.toList ++ [digU k])), .int .i64 (numE 10 (a0.data.toList ++ [digU k]))]) ∧ w = w') := Lib.hid (fun w => by
      have h := decimal_any _ w hds
      rwa [hd] at h)
    have HG : Hid ((a0.toList.isEmpty = true → numE 10 a0.data.toList = 10 ∧ numE 10 (a0.data.toList ++ [digU k]) = 0 ∧ numV 10 (a0.data.toList ++ [digU k]) = k) ∧
        (a0.toList.isEmpty = false → (numE 10 a0.data.toList ≠ 0 → numE 10 (a0.data.toList ++ [digU k]) = numE 10 a0.data.toList ∧ numV 10 (a0.data.toList ++ [digU k]) = 0 ∧ numV 10 a0.data.toList = 0) ∧
          (numE 10 a0.data.toList = 0 → (1099511627776 - (k : Int)) / 10 < numV 10 a0.data.toList → numE 10 (a0.data.toList ++ [digU k]) = 11 ∧ numV 10 (a0.data.toList ++ [digU k]) = 0) ∧
          (numE 10 a0.data.toList = 0 → ¬ (1099511627776 - (k : Int)) / 10 < numV 10 a0.data.toList → numE 10 (a0.data.toList ++ [digU k]) = 0 ∧ numV 10 (a0.data.toList ++ [digU k]) = 10 * numV 10 a0.data.toList + k))) := Lib.hid (by
      constructor
      · intro h
        have h0 : a0.data.toList = [] := by rw [← ByteArray.toList_eq]; exact List.isEmpty_iff.mp h
        rw [h0, List.nil_append]
        exact ⟨rfl, (grow_empty k hk10).2, (grow_empty k hk10).1⟩
      · intro h
        have h0 : a0.data.toList ≠ [] := by rw [← ByteArray.toList_eq]; intro h1; rw [h1] at h; cases h
        exact ⟨fun he => grow_err _ h0 k hk10 he, fun he hb => grow_big _ h0 k hk10 he hb, fun he hb => grow_ok _ h0 k hk10 he hb⟩)
    generalize numV 10 (a0.data.toList ++ [digU k]) = V2 at C3 HG
    generalize numE 10 (a0.data.toList ++ [digU k]) = E2 at C3 HG
    generalize numV 10 a0.data.toList = V1 at C1 HG hvb
    generalize numE 10 a0.data.toList = E1 at C1 HG
    clear hds hd w0
    go_enter Tryd.func4, Tryd.ntmps4
    go_wp2_with fail
    refine (C0.out _).mono ?_; rintro e w' ⟨rfl, rfl⟩
    go_wp2_with fail
    refine (C1.out _).mono ?_; rintro e w' ⟨rfl, rfl⟩
    go_wp2_with fail
    refine (C2.out _).mono ?_; rintro e w' ⟨rfl, rfl⟩
    go_wp2_with fail
    refine (C3.out _).mono ?_; rintro e w' ⟨rfl, rfl⟩
    go_wp2_with fail
    all_goals go_ret
    all_goals refine ⟨congrArg (fun b => Ending.returned (.bool b)) (?_ : _ = true), Below.refl _ _⟩
    all_goals first
      | (have q := HG.out.1 ‹_›; obtain ⟨q1, q2, q3⟩ := q; (try simp only [bne_iff_ne, bne_eq_false_iff_eq, ne_eq] at *); first | (rw [beq_iff_eq]; omega) | (exfalso; omega))
      | (have q := HG.out.2 ‹_›
         obtain ⟨q1, q2, q3⟩ := q
         (try simp only [bne_iff_ne, bne_eq_false_iff_eq, ne_eq] at *)
         by_cases z : E1 = 0
         · by_cases y : (1099511627776 - (k : Int)) / 10 < V1
           · have q := q2 z y; first | (rw [beq_iff_eq]; omega) | (exfalso; omega)
           · have q := q3 z (by omega); first | (rw [beq_iff_eq]; omega) | (exfalso; omega)
         · have q := q1 z; first | (rw [beq_iff_eq]; omega) | (exfalso; omega))

theorem tab0 {W : World} (h : laidMetH Tryd.prog Rows.octetGrowsRow.laid W) : Lib.TabIs Tryd.prog W "math/bits.deBruijn32tab" .u8 [0, 1, 28, 2, 29, 14, 24, 3, 30, 22, 20, 15, 25, 17, 4, 8, 31, 27, 13, 23, 21, 19, 16, 7, 26, 12, 18, 6, 11, 5, 10, 9] :=
  Laid.tabIs (g := 1) (n := 32) (by kernel_rfl) (t := 51) (by kernel_rfl) Tryd.underlying51 Tryd.underlying5 (by kernel_rfl) (by kernel_rfl) (laid := Rows.octetGrowsRow.laid) h 0 rfl
theorem tab1 {W : World} (h : laidMetH Tryd.prog Rows.octetGrowsRow.laid W) : Lib.TabIs Tryd.prog W "math/bits.deBruijn64tab" .u8 [0, 1, 56, 2, 57, 49, 28, 3, 61, 58, 42, 50, 38, 29, 17, 4, 62, 47, 59, 36, 45, 43, 51, 22, 53, 39, 33, 30, 24, 18, 12, 5, 63, 55, 48, 27, 60, 41, 37, 16, 46, 35, 44, 21, 52, 32, 23, 11, 54, 26, 40, 15, 34, 20, 31, 10, 25, 14, 19, 9, 13, 8, 7, 6] :=
  Laid.tabIs (g := 2) (n := 64) (by kernel_rfl) (t := 52) (by kernel_rfl) Tryd.underlying52 Tryd.underlying5 (by kernel_rfl) (by kernel_rfl) (laid := Rows.octetGrowsRow.laid) h 1 rfl
theorem tab2 {W : World} (h : laidMetH Tryd.prog Rows.octetGrowsRow.laid W) : Lib.TabIs Tryd.prog W "internal/strconv.uint64pow10" .u64 [1, 10, 100, 1000, 10000, 100000, 1000000, 10000000, 100000000, 1000000000, 10000000000, 100000000000, 1000000000000, 10000000000000, 100000000000000, 1000000000000000, 10000000000000000, 100000000000000000, 1000000000000000000, 10000000000000000000] :=
  Laid.tabIs (g := 0) (n := 20) (by kernel_rfl) (t := 44) (by kernel_rfl) Tryd.underlying44 Tryd.underlying37 (by kernel_rfl) (by kernel_rfl) (laid := Rows.octetGrowsRow.laid) h 2 rfl

noncomputable def laidWorld (os : Os) : World :=
  { World.holding Tryd.prog os ⟨#[], #[], []⟩ with heap := (((((((World.holding Tryd.prog os ⟨#[], #[], []⟩).heap).modify 1 fun
      | .cells _ t frozen => .cells #[.int .u8 0, .int .u8 1, .int .u8 28, .int .u8 2, .int .u8 29, .int .u8 14, .int .u8 24, .int .u8 3, .int .u8 30, .int .u8 22, .int .u8 20, .int .u8 15, .int .u8 25, .int .u8 17, .int .u8 4, .int .u8 8, .int .u8 31, .int .u8 27, .int .u8 13, .int .u8 23, .int .u8 21, .int .u8 19, .int .u8 16, .int .u8 7, .int .u8 26, .int .u8 12, .int .u8 18, .int .u8 6, .int .u8 11, .int .u8 5, .int .u8 10, .int .u8 9] t frozen
      | o => o)).modify 2 fun
      | .cells _ t frozen => .cells #[.int .u8 0, .int .u8 1, .int .u8 56, .int .u8 2, .int .u8 57, .int .u8 49, .int .u8 28, .int .u8 3, .int .u8 61, .int .u8 58, .int .u8 42, .int .u8 50, .int .u8 38, .int .u8 29, .int .u8 17, .int .u8 4, .int .u8 62, .int .u8 47, .int .u8 59, .int .u8 36, .int .u8 45, .int .u8 43, .int .u8 51, .int .u8 22, .int .u8 53, .int .u8 39, .int .u8 33, .int .u8 30, .int .u8 24, .int .u8 18, .int .u8 12, .int .u8 5, .int .u8 63, .int .u8 55, .int .u8 48, .int .u8 27, .int .u8 60, .int .u8 41, .int .u8 37, .int .u8 16, .int .u8 46, .int .u8 35, .int .u8 44, .int .u8 21, .int .u8 52, .int .u8 32, .int .u8 23, .int .u8 11, .int .u8 54, .int .u8 26, .int .u8 40, .int .u8 15, .int .u8 34, .int .u8 20, .int .u8 31, .int .u8 10, .int .u8 25, .int .u8 14, .int .u8 19, .int .u8 9, .int .u8 13, .int .u8 8, .int .u8 7, .int .u8 6] t frozen
      | o => o)).modify 0 fun
      | .cells _ t frozen => .cells #[.int .u64 1, .int .u64 10, .int .u64 100, .int .u64 1000, .int .u64 10000, .int .u64 100000, .int .u64 1000000, .int .u64 10000000, .int .u64 100000000, .int .u64 1000000000, .int .u64 10000000000, .int .u64 100000000000, .int .u64 1000000000000, .int .u64 10000000000000, .int .u64 100000000000000, .int .u64 1000000000000000, .int .u64 10000000000000000, .int .u64 100000000000000000, .int .u64 1000000000000000000, .int .u64 10000000000000000000] t frozen
      | o => o) }
theorem laid_met (os : Os) : laidMet Tryd.prog Rows.octetGrowsRow.laid ((laidWorld os).forCall (fun _ _ => 0) ⟨#[], #[.string ByteArray.empty, .int .u8 0], []⟩).memory :=
  laidMet_of_run' 8 (by kernel_rfl) (by kernel_rfl)
theorem reads (os : Os) {H : Type} (enc : TypeId × Value → H) : ∃ places, DataW.whole enc Tryd.prog ((laidWorld os).forCall (fun _ _ => 0) ⟨#[], #[.string ByteArray.empty, .int .u8 0], []⟩).memory Tryd.f4.params.toList Rows.octetGrowsSpec.vars false (#[.string ByteArray.empty, .int .u8 0] : Array Value).toList 8 = some ([.lit (.string []), .lit (.int .u8 0)], [], places) :=
  ⟨[], by kernel_rfl⟩

set_option maxRecDepth 100000 in
theorem lifted (os : Os) (started : os.Started) (H : Type) (enc : TypeId × Value → H) (F : Stop.Interp) :
    ReturnsInHanded {} Tryd.checked os 4 .any ((OpenSpec.ofChange Rows.octetGrowsSpec).preRow enc Tryd.prog Tryd.f4 Rows.octetGrowsRow.domain false Rows.octetGrowsRow.laid) (((OpenSpec.ofChange Rows.octetGrowsSpec).at F).post enc Tryd.prog Tryd.f4 false true false false) := by
  obtain ⟨places, hx⟩ := reads os enc
  refine returnsInHanded_of_row (C := Tryd.checked) (s := OpenSpec.ofChange Rows.octetGrowsSpec) own started (by kernel_rfl) Tryd.func4
    (witness_row_at (enc := enc) (C := Tryd.checked) false (laidWorld os) #[.string ByteArray.empty, .int .u8 0] rfl (by kernel_rfl) (by kernel_rfl) (by kernel_rfl)
      (OpenSpec.preRow_of_cond 8 hx (by kernel_rfl) (fun k hk => by cases hk) (by kernel_rfl) (laid_met os))) ?_
  intro W base args ds gs before hval0 hW hcnd _ hsz0 hL _ _
  have hsz : (DataW.weightsEach Tryd.prog (Tryd.f4.params.toList ++ Rows.octetGrowsSpec.plain.varTypes Tryd.prog) (ds ++ gs)).all (· ≤ reachBytes) = true := hsz0
  have hval : ∀ (j : Nat) t v, Tryd.f4.params[j]? = some t → args[j]? = some v → Value.okWide Tryd.prog W .any base t v := hval0
  have hW' := hW
  obtain ⟨p, q, hA0, hV, rfl, hfz, hnd⟩ := hW
  have hA : DataW.TrodAll enc Tryd.prog W 0 (fun _ => true) true Tryd.f4.params.toList args.toList ds p := hA0
  rw [Tryd.params4] at hA hval hsz
  obtain ⟨v0, vs0, d0, ds0, p0, q0, hargs, rfl, rfl, h0, t0⟩ := trodAll_cons hA
  obtain ⟨v1, vs1, d1, ds1, p1, q1, rfl, rfl, rfl, h1, t1⟩ := trodAll_cons t0
  obtain ⟨rfl, rfl, rfl⟩ := trodAll_nil t1
  obtain rfl : args = #[v0, v1] := by cases args; simp_all
  obtain ⟨rfl, rfl⟩ := trodVars_none hV
  have k0 := h0
  have lt0 : ∀ x ∈ p0, x.block < W.heap.size := by obtain ⟨m, hm⟩ := k0; exact DataW.trod_lt m _ _ _ hm
  obtain ⟨a0, rfl, rfl, rfl, w0⟩ := open_string Tryd.underlying9 (hval 0 9 v0 rfl rfl) h0
  have r0 : a0.size ≤ 140737488351232 := by have := sized_string hsz (j := 0) (t := 9) rfl rfl; simpa [reachBytes] using this
  have k1 := h1
  have lt1 : ∀ x ∈ p1, x.block < W.heap.size := by obtain ⟨m, hm⟩ := k1; exact DataW.trod_lt m _ _ _ hm
  obtain ⟨a1, rfl, rfl, rfl, w1⟩ := open_int Tryd.underlying5 (hval 1 5 v1 rfl rfl) h1
  clear hA0 hval0 hsz0
  refine (walk a0 a1 W w0 r0 w1 (tab0 hL) (tab1 hL) (tab2 hL)).mono fun e W' ⟨he, bel⟩ => ?_
  subst he
  exact ⟨_, rfl, _, _, _, [], _, [], hW', trodAll_mk1 (shut_bool Tryd.underlying4 _), (trodAll_cons_mk (Below.trod laidOut (by kernel_rfl) (of_decide_eq_true (by kernel_rfl)) k0 bel lt0) (trodAll_cons_mk (Below.trod laidOut (by kernel_rfl) (of_decide_eq_true (by kernel_rfl)) k1 bel lt1) trodAll_mk0)), rfl, bel.frame _, fun h => by cases h⟩

theorem over : Rows.octetGrowsRow.holds Tryd.pinned (OpenSpec.ofChange Rows.octetGrowsSpec) :=
  OpenClaim.holds_of_cond 4 Tryd.f4 rfl rfl rfl rfl rfl rfl rfl ⟨rfl, rfl, rfl, rfl, rfl⟩ rfl rfl rfl rfl rfl (by kernel_rfl) Tryd.func4 (by kernel_rfl)
    (of_decide_eq_true (by kernel_rfl)) (by unfold Func.isWrapper; first | (rw [if_pos (by decide +kernel)]; kernel_rfl) | (rw [if_neg (by decide +kernel)]; exact ⟨rfl, rfl⟩))
    (fun os started H enc _ F => by rw [OpenClaim.pre_eq_preRow]; exact lifted os started H enc F)

theorem plain (f : FuncId) (fn : Func) (hf : Tryd.pinned.checked.prog.funcNamed "drawbridge/drawbridgelaw01.OctetGrows" = some f) (hfn : Tryd.pinned.checked.prog.funcs[f]? = some fn) :
    false = Tryd.pinned.checked.prog.looks [] ∧ ∀ (j : Nat) t, fn.params[j]? = some t → Tryd.pinned.checked.prog.wantsStandIn t = false := by
  obtain rfl : f = 4 := Option.some.inj ((show Tryd.prog.funcNamed "drawbridge/drawbridgelaw01.OctetGrows" = some 4 by kernel_rfl).symm.trans hf) |>.symm
  obtain rfl : fn = Tryd.f4 := (Option.some.inj (Tryd.func4.symm.trans hfn)).symm
  refine ⟨by kernel_rfl, fun j t ht => ?_⟩
  rw [Tryd.params4] at ht
  have hm := Array.mem_of_getElem? ht
  simp only [List.mem_toArray, List.mem_cons, List.not_mem_nil, or_false] at hm
  rcases hm with rfl | rfl
  · exact (show Tryd.prog.wantsStandIn 9 = false by kernel_rfl)
  · exact (show Tryd.prog.wantsStandIn 5 = false by kernel_rfl)

theorem proved : Rows.OctetGrowsCardSaid :=
  Claim7.holds_tied_plain_at .later [] _ _ _ _ over (fun _ h => by cases h) (by kernel_rfl) (fun _ h => by cases h) octetGrows_row_tie rfl ⟨rfl, rfl⟩ (by kernel_rfl) rfl plain (by kernel_rfl)
end Go.Proofs.YtfeggahlhfpfoaaDoor.octetGrows
