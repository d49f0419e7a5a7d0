/-
  OctetDigits holds for every number: its digits are the document's, and say the number again; the conversion tables of the library start as its text lays them.
-/
import Derived.Test.YtfeggahlhfpfoaaDoorRows
import Derived.WalkKit
import Derived.ProofKit
import Derived.OpenShut
import Derived.ShutString
import Derived.SizedLaws
import Derived.Deep.DeepHandedRow
import Derived.Lib.LaidTab
import Derived.Test.YtfeggahlhfpfoaaDoorLaid
import Derived.Test.YtfeggahlhfpfoaaDoorCards
import Derived.Test.YtfeggahlhfpfoaaDoorTie
import Derived.Test.YtfeggahlhfpfoaaDoorMem
import Derived.Test.YtfeggahlhfpfoaaDoorOctPure
import Derived.Test.YtfeggahlhfpfoaaDoorOct1
import Derived.Test.YtfeggahlhfpfoaaDoorShelf
import Derived.Test.YtfeggahlhfpfoaaDoorLaid
import Derived.Test.YtfeggahlhfpfoaaDoorOctG
import Derived.Test.YtfeggahlhfpfoaaDoorOctH
import Derived.Test.YtfeggahlhfpfoaaDoorOctI
namespace Go.Proofs.YtfeggahlhfpfoaaDoor.octetDigits
open Go.ChangeShapes Go.WideShapes Go.ChangeAt Go.RowKit
open Go.Proofs.YtfeggahlhfpfoaaDoor Oct Mem
open Go.ChangeMaps (open_string shut_string)
set_option linter.unusedVariables false

theorem own : ownKnob Tryd.prog.godebug = none := by kernel_rfl
theorem laidOut : laidOutB Tryd.prog = true := by kernel_rfl

set_option maxHeartbeats 1000000 in
theorem walk (a0 : Int) (w : World) (w0 : (Lit.int .i64 a0).wf = true) (tab0 : Lib.TabIs Tryd.prog w "math/bits.deBruijn32tab" .u8 [0, 1, 28, 2, 29, 14, 24, 3, 30, 22, 20, 15, 25, 17, 4, 8, 31, 27, 13, 23, 21, 19, 16, 7, 26, 12, 18, 6, 11, 5, 10, 9]) (tab1 : Lib.TabIs Tryd.prog w "math/bits.deBruijn64tab" .u8 [0, 1, 56, 2, 57, 49, 28, 3, 61, 58, 42, 50, 38, 29, 17, 4, 62, 47, 59, 36, 45, 43, 51, 22, 53, 39, 33, 30, 24, 18, 12, 5, 63, 55, 48, 27, 60, 41, 37, 16, 46, 35, 44, 21, 52, 32, 23, 11, 54, 26, 40, 15, 34, 20, 31, 10, 25, 14, 19, 9, 13, 8, 7, 6]) (tab2 : Lib.TabIs Tryd.prog w "internal/strconv.uint64pow10" .u64 [1, 10, 100, 1000, 10000, 100000, 1000000, 10000000, 100000000, 1000000000, 10000000000, 100000000000, 1000000000000, 10000000000000, 100000000000000, 1000000000000000, 10000000000000000, 100000000000000000, 1000000000000000000, 10000000000000000000]) :
    Calls Tryd.prog 3 #[.int .i64 a0] w fun e w' => e = .returned (.bool true) ∧ Below w.heap.size w w' := by
  have hx : -9223372036854775808 ≤ a0 ∧ a0 ≤ 9223372036854775807 := by simpa [Lit.wf, IntKind.min, IntKind.max, IntKind.signed, IntKind.bits] using w0
  obtain ⟨hx0, hx1⟩ := hx
  have g2 : Tryd.prog.globalNamed "internal/strconv.uint64pow10" = some 0 := by kernel_rfl
  have g1 : Tryd.prog.globalNamed "math/bits.deBruijn64tab" = some 2 := by kernel_rfl
  have c15 : w.cell? ⟨2, 15, none⟩ = some (.int .u8 4) := tab1.cell g1 15 (by decide)
  have c0 := tab2.cell g2 0 (by decide)
  have hlt := World.block_lt_of_cell? w _ c0
  have HT : Hid (∀ w', Below w.heap.size w w' → Lib.TabIs Tryd.prog w' "internal/strconv.uint64pow10" .u64 Lib.pow10Tab ∧ w'.cell? ⟨2, 15, none⟩ = some (.int .u8 4)) :=
    Lib.hid (fun w' hb => ⟨Laid.tab_below g2 tab2 hb hlt, below_cell hb c15⟩)
  have K1 : Hid (∀ u, Below w.heap.size w u → Calls Tryd.prog 5 #[.int .i64 70] u fun e w' => e = .returned (.string ⟨#[55, 48]⟩) ∧ Below u.heap.size u w') := Lib.hid (fun u hb => by
    have h := digits_yes 70 (by omega) u (HT.out u hb).1
    rw [Lib.decDigits_two (by omega) (by omega)] at h
    exact h)
  have K2 : Hid (∀ u, Below w.heap.size w u → Calls Tryd.prog 6 #[.int .i64 255] u fun e w' => e = .returned (.string ⟨#[102, 102]⟩) ∧ Below u.heap.size u w') := Lib.hid (fun u hb => by
    have h := hexdigits_yes 255 (by omega) u (HT.out u hb).2
    rw [show hexT 16 255 [] = [102, 102] from by decide +kernel] at h
    exact h)
  clear w0 g1 g2 c15 c0 hlt tab0 tab1 tab2
  by_cases hn : a0 < 0
  · have D1 : Hid (∀ u, Calls Tryd.prog 8 #[.string ⟨#[]⟩] u fun e w' => e = .returned (.tuple #[.int .i64 0, .int .i64 10]) ∧ u = w') := Lib.hid (fun u => decimal_any ⟨#[]⟩ u (by unfold maxLen; decide))
    have D2 : Hid (∀ u, Calls Tryd.prog 9 #[.string ⟨#[48]⟩] u fun e w' => e = .returned (.tuple #[.int .i64 0, .int .i64 0]) ∧ u = w') := Lib.hid (fun u => by
      have h := hex_any ⟨#[48]⟩ u (by unfold maxLen; decide)
      rwa [show numV 16 (ByteArray.mk #[48]).data.toList = 0 from by decide +kernel, show numE 16 (ByteArray.mk #[48]).data.toList = 0 from by decide +kernel] at h)
    go_enter Tryd.func3, Tryd.ntmps3
    go_wp2_with fail
    refine (K1.out _ (Below.refl _ _)).mono ?_; rintro e u1 ⟨rfl, b1⟩
    go_wp2_with fail
    refine (K2.out _ b1).mono ?_; rintro e u2 ⟨rfl, b2⟩
    replace b2 := below_step b1 b2
    go_wp2_with (first | (go_at_call 5; refine (digits_neg _ hn _).mono ?_; rintro e w' ⟨rfl, rfl⟩) | (go_at_call 6; refine (hexdigits_neg _ hn _).mono ?_; rintro e w' ⟨rfl, rfl⟩) | (go_at_call 7; refine (rdigits_neg _ _ hn _).mono ?_; rintro e w' ⟨rfl, rfl⟩))
    refine (D1.out _).mono ?_; rintro e w' ⟨rfl, rfl⟩
    go_wp2_with fail
    refine (D2.out _).mono ?_; rintro e w' ⟨rfl, rfl⟩
    go_wp2_with fail
    go_ret
    exact ⟨rfl, b2⟩
  · obtain ⟨n, rfl⟩ := Int.eq_ofNat_of_zero_le (show 0 ≤ a0 by omega)
    have hu : n < 9223372036854775808 := by omega
    obtain ⟨S, hS⟩ : ∃ S : ByteArray, S = ⟨(digT 10 19 n []).toArray⟩ := ⟨_, rfl⟩
    obtain ⟨T, hT⟩ : ∃ T : ByteArray, T = ⟨(digT 16 16 n []).toArray⟩ := ⟨_, rfl⟩
    have sd : S.data.toList = digT 10 19 n [] := by rw [hS]
    have td : T.data.toList = digT 16 16 n [] := by rw [hT]
    have ht : (({ data := #[48] } : ByteArray) ++ T).data.toList = 48 :: digT 16 16 n [] := by rw [cat_data, td]
    have hl10 : n < 10 ^ 19 := by omega
    have hl16 : n < 16 ^ 16 := by omega
    have q1 : numV 10 (digT 10 19 n []) = (if 1099511627776 < (n : Int) then 0 else (n : Int)) ∧ numE 10 (digT 10 19 n []) = (if 1099511627776 < (n : Int) then 11 else 0) := back_dig 10 (by omega) (by omega) 19 n hl10 (by omega)
    have q2 := back_hex0 16 n hl16 (by omega)
    have K3 : Hid (∀ u, Below w.heap.size w u → Calls Tryd.prog 5 #[.int .i64 n] u fun e w' => e = .returned (.string S) ∧ Below u.heap.size u w') := Lib.hid (fun u hb => by
      have h := digits_yes n hu u (HT.out u hb).1
      rwa [digT_dec 19 n hl10 (by omega), ← hS] at h)
    have K4 : Hid (∀ u, Below w.heap.size w u → Calls Tryd.prog 6 #[.int .i64 n] u fun e w' => e = .returned (.string T) ∧ Below u.heap.size u w') := Lib.hid (fun u hb => by
      have h := hexdigits_yes n hu u (HT.out u hb).2
      rwa [hexT_dig, ← hT] at h)
    have K5 : Hid (∀ u, Calls Tryd.prog 7 #[.int .i64 n, .int .i64 10] u fun e w' => e = .returned (.string S) ∧ Below u.heap.size u w') := Lib.hid (fun u => by
      rw [hS]; exact rdigits10 n hu u)
    have K6 : Hid (∀ u, Calls Tryd.prog 7 #[.int .i64 n, .int .i64 16] u fun e w' => e = .returned (.string T) ∧ Below u.heap.size u w') := Lib.hid (fun u => by
      rw [hT]; exact rdigits16 n hu u)
    have K7 : Hid (∀ u, Calls Tryd.prog 8 #[.string S] u fun e w' => e = .returned (.tuple #[.int .i64 (if 1099511627776 < (n : Int) then 0 else (n : Int)), .int .i64 (if 1099511627776 < (n : Int) then 11 else 0)]) ∧ u = w') := Lib.hid (fun u => by
      have h := decimal_any S u ?_
      · rwa [sd, q1.1, q1.2] at h
      · rw [← list_len, sd]; unfold maxLen; exact Nat.le_trans (digT_len 10 19 n) (by omega))
    have K8 : Hid (∀ u, Calls Tryd.prog 9 #[.string (({ data := #[48] } : ByteArray) ++ T)] u fun e w' => e = .returned (.tuple #[.int .i64 (if 1099511627776 < (n : Int) then 0 else (n : Int)), .int .i64 (if 1099511627776 < (n : Int) then 11 else 0)]) ∧ u = w') := Lib.hid (fun u => by
      have h := hex_any (({ data := #[48] } : ByteArray) ++ T) u ?_
      · rwa [ht, q2.1, q2.2] at h
      · rw [← list_len, ht, List.length_cons]; unfold maxLen; exact Nat.le_trans (Nat.succ_le_succ (digT_len 16 16 n)) (by omega))
    have hsz : T.size ≤ 17 := by rw [← list_len, td]; exact Nat.le_trans (digT_len 16 16 n) (by omega)
    clear q1 q2 hS hT sd td ht hl10 hl16
    have hg : (1099511627776 < (n : Int)) ∨ ¬ (1099511627776 < (n : Int)) := by omega
    rcases hg with hg | hg
    · rw [if_pos hg, if_pos hg] at K7 K8
      go_enter Tryd.func3, Tryd.ntmps3
      go_wp2_with fail
      refine (K1.out _ (Below.refl _ _)).mono ?_; rintro e u1 ⟨rfl, b1⟩
      go_wp2_with fail
      refine (K2.out _ b1).mono ?_; rintro e u2 ⟨rfl, b2⟩
      replace b2 := below_step b1 b2
      go_wp2_with fail
      refine (K3.out _ b2).mono ?_; rintro e u3 ⟨rfl, b3⟩
      replace b3 := below_step b2 b3
      go_wp2_with fail
      refine (K4.out _ b3).mono ?_; rintro e u4 ⟨rfl, b4⟩
      replace b4 := below_step b3 b4
      go_wp2_with fail
      refine (K5.out _).mono ?_; rintro e u5 ⟨rfl, b5⟩
      replace b5 := below_step b4 b5
      go_wp2_with fail
      refine (K6.out _).mono ?_; rintro e u6 ⟨rfl, b6⟩
      replace b6 := below_step b5 b6
      go_wp2_with fail
      refine (K7.out _).mono ?_; rintro e w' ⟨rfl, rfl⟩
      go_wp2_with fail
      refine (K8.out _).mono ?_; rintro e w' ⟨rfl, rfl⟩
      go_wp2_with fail
      go_ret
      exact ⟨rfl, b6⟩
    · rw [if_neg hg, if_neg hg] at K7 K8
      go_enter Tryd.func3, Tryd.ntmps3
      go_wp2_with fail
      refine (K1.out _ (Below.refl _ _)).mono ?_; rintro e u1 ⟨rfl, b1⟩
      go_wp2_with fail
      refine (K2.out _ b1).mono ?_; rintro e u2 ⟨rfl, b2⟩
      replace b2 := below_step b1 b2
      go_wp2_with fail
      refine (K3.out _ b2).mono ?_; rintro e u3 ⟨rfl, b3⟩
      replace b3 := below_step b2 b3
      go_wp2_with fail
      refine (K4.out _ b3).mono ?_; rintro e u4 ⟨rfl, b4⟩
      replace b4 := below_step b3 b4
      go_wp2_with fail
      refine (K5.out _).mono ?_; rintro e u5 ⟨rfl, b5⟩
      replace b5 := below_step b4 b5
      go_wp2_with fail
      refine (K6.out _).mono ?_; rintro e u6 ⟨rfl, b6⟩
      replace b6 := below_step b5 b6
      go_wp2_with fail
      refine (K7.out _).mono ?_; rintro e w' ⟨rfl, rfl⟩
      go_wp2_with fail
      refine (K8.out _).mono ?_; rintro e w' ⟨rfl, rfl⟩
      go_wp2_with fail
      go_ret
      exact ⟨rfl, b6⟩

theorem tab0 {W : World} (h : laidMetH Tryd.prog Rows.octetDigitsRow.laid W) : Lib.TabIs Tryd.prog W "math/bits.deBruijn32tab" .u8 [0, 1, 28, 2, 29, 14, 24, 3, 30, 22, 20, 15, 25, 17, 4, 8, 31, 27, 13, 23, 21, 19, 16, 7, 26, 12, 18, 6, 11, 5, 10, 9] :=
  Laid.tabIs (g := 1) (n := 32) (by kernel_rfl) (t := 51) (by kernel_rfl) Tryd.underlying51 Tryd.underlying5 (by kernel_rfl) (by kernel_rfl) (laid := Rows.octetDigitsRow.laid) h 0 rfl
theorem tab1 {W : World} (h : laidMetH Tryd.prog Rows.octetDigitsRow.laid W) : Lib.TabIs Tryd.prog W "math/bits.deBruijn64tab" .u8 [0, 1, 56, 2, 57, 49, 28, 3, 61, 58, 42, 50, 38, 29, 17, 4, 62, 47, 59, 36, 45, 43, 51, 22, 53, 39, 33, 30, 24, 18, 12, 5, 63, 55, 48, 27, 60, 41, 37, 16, 46, 35, 44, 21, 52, 32, 23, 11, 54, 26, 40, 15, 34, 20, 31, 10, 25, 14, 19, 9, 13, 8, 7, 6] :=
  Laid.tabIs (g := 2) (n := 64) (by kernel_rfl) (t := 52) (by kernel_rfl) Tryd.underlying52 Tryd.underlying5 (by kernel_rfl) (by kernel_rfl) (laid := Rows.octetDigitsRow.laid) h 1 rfl
theorem tab2 {W : World} (h : laidMetH Tryd.prog Rows.octetDigitsRow.laid W) : Lib.TabIs Tryd.prog W "internal/strconv.uint64pow10" .u64 [1, 10, 100, 1000, 10000, 100000, 1000000, 10000000, 100000000, 1000000000, 10000000000, 100000000000, 1000000000000, 10000000000000, 100000000000000, 1000000000000000, 10000000000000000, 100000000000000000, 1000000000000000000, 10000000000000000000] :=
  Laid.tabIs (g := 0) (n := 20) (by kernel_rfl) (t := 44) (by kernel_rfl) Tryd.underlying44 Tryd.underlying37 (by kernel_rfl) (by kernel_rfl) (laid := Rows.octetDigitsRow.laid) h 2 rfl

noncomputable def laidWorld (os : Os) : World :=
  { World.holding Tryd.prog os ⟨#[], #[], []⟩ with heap := (((((((World.holding Tryd.prog os ⟨#[], #[], []⟩).heap).modify 1 fun
      | .cells _ t frozen => .cells #[.int .u8 0, .int .u8 1, .int .u8 28, .int .u8 2, .int .u8 29, .int .u8 14, .int .u8 24, .int .u8 3, .int .u8 30, .int .u8 22, .int .u8 20, .int .u8 15, .int .u8 25, .int .u8 17, .int .u8 4, .int .u8 8, .int .u8 31, .int .u8 27, .int .u8 13, .int .u8 23, .int .u8 21, .int .u8 19, .int .u8 16, .int .u8 7, .int .u8 26, .int .u8 12, .int .u8 18, .int .u8 6, .int .u8 11, .int .u8 5, .int .u8 10, .int .u8 9] t frozen
      | o => o)).modify 2 fun
      | .cells _ t frozen => .cells #[.int .u8 0, .int .u8 1, .int .u8 56, .int .u8 2, .int .u8 57, .int .u8 49, .int .u8 28, .int .u8 3, .int .u8 61, .int .u8 58, .int .u8 42, .int .u8 50, .int .u8 38, .int .u8 29, .int .u8 17, .int .u8 4, .int .u8 62, .int .u8 47, .int .u8 59, .int .u8 36, .int .u8 45, .int .u8 43, .int .u8 51, .int .u8 22, .int .u8 53, .int .u8 39, .int .u8 33, .int .u8 30, .int .u8 24, .int .u8 18, .int .u8 12, .int .u8 5, .int .u8 63, .int .u8 55, .int .u8 48, .int .u8 27, .int .u8 60, .int .u8 41, .int .u8 37, .int .u8 16, .int .u8 46, .int .u8 35, .int .u8 44, .int .u8 21, .int .u8 52, .int .u8 32, .int .u8 23, .int .u8 11, .int .u8 54, .int .u8 26, .int .u8 40, .int .u8 15, .int .u8 34, .int .u8 20, .int .u8 31, .int .u8 10, .int .u8 25, .int .u8 14, .int .u8 19, .int .u8 9, .int .u8 13, .int .u8 8, .int .u8 7, .int .u8 6] t frozen
      | o => o)).modify 0 fun
      | .cells _ t frozen => .cells #[.int .u64 1, .int .u64 10, .int .u64 100, .int .u64 1000, .int .u64 10000, .int .u64 100000, .int .u64 1000000, .int .u64 10000000, .int .u64 100000000, .int .u64 1000000000, .int .u64 10000000000, .int .u64 100000000000, .int .u64 1000000000000, .int .u64 10000000000000, .int .u64 100000000000000, .int .u64 1000000000000000, .int .u64 10000000000000000, .int .u64 100000000000000000, .int .u64 1000000000000000000, .int .u64 10000000000000000000] t frozen
      | o => o) }
theorem laid_met (os : Os) : laidMet Tryd.prog Rows.octetDigitsRow.laid ((laidWorld os).forCall (fun _ _ => 0) ⟨#[], #[.int .i64 0], []⟩).memory :=
  laidMet_of_run' 8 (by kernel_rfl) (by kernel_rfl)
theorem reads (os : Os) {H : Type} (enc : TypeId × Value → H) : ∃ places, DataW.whole enc Tryd.prog ((laidWorld os).forCall (fun _ _ => 0) ⟨#[], #[.int .i64 0], []⟩).memory Tryd.f3.params.toList Rows.octetDigitsSpec.vars false (#[.int .i64 0] : Array Value).toList 8 = some ([.lit (.int .i64 0)], [], places) :=
  ⟨[], by kernel_rfl⟩

set_option maxRecDepth 100000 in
theorem lifted (os : Os) (started : os.Started) (H : Type) (enc : TypeId × Value → H) (F : Stop.Interp) :
    ReturnsInHanded {} Tryd.checked os 3 .any ((OpenSpec.ofChange Rows.octetDigitsSpec).preRow enc Tryd.prog Tryd.f3 Rows.octetDigitsRow.domain false Rows.octetDigitsRow.laid) (((OpenSpec.ofChange Rows.octetDigitsSpec).at F).post enc Tryd.prog Tryd.f3 false true false false) := by
  obtain ⟨places, hx⟩ := reads os enc
  refine returnsInHanded_of_row (C := Tryd.checked) (s := OpenSpec.ofChange Rows.octetDigitsSpec) own started (by kernel_rfl) Tryd.func3
    (witness_row_at (enc := enc) (C := Tryd.checked) false (laidWorld os) #[.int .i64 0] rfl (by kernel_rfl) (by kernel_rfl) (by kernel_rfl)
      (OpenSpec.preRow_of_cond 8 hx (by kernel_rfl) (fun k hk => by cases hk) (by kernel_rfl) (laid_met os))) ?_
  intro W base args ds gs before hval0 hW hcnd _ hsz0 hL _ _
  have hsz : (DataW.weightsEach Tryd.prog (Tryd.f3.params.toList ++ Rows.octetDigitsSpec.plain.varTypes Tryd.prog) (ds ++ gs)).all (· ≤ reachBytes) = true := hsz0
  have hval : ∀ (j : Nat) t v, Tryd.f3.params[j]? = some t → args[j]? = some v → Value.okWide Tryd.prog W .any base t v := hval0
  have hW' := hW
  obtain ⟨p, q, hA0, hV, rfl, hfz, hnd⟩ := hW
  have hA : DataW.TrodAll enc Tryd.prog W 0 (fun _ => true) true Tryd.f3.params.toList args.toList ds p := hA0
  rw [Tryd.params3] at hA hval hsz
  obtain ⟨v0, vs0, d0, ds0, p0, q0, hargs, rfl, rfl, h0, t0⟩ := trodAll_cons hA
  obtain ⟨rfl, rfl, rfl⟩ := trodAll_nil t0
  obtain rfl : args = #[v0] := by cases args; simp_all
  obtain ⟨rfl, rfl⟩ := trodVars_none hV
  have k0 := h0
  have lt0 : ∀ x ∈ p0, x.block < W.heap.size := by obtain ⟨m, hm⟩ := k0; exact DataW.trod_lt m _ _ _ hm
  obtain ⟨a0, rfl, rfl, rfl, w0⟩ := open_int Tryd.underlying2 (hval 0 2 v0 rfl rfl) h0
  clear hA0 hval0 hsz0
  refine (walk a0 W w0 (tab0 hL) (tab1 hL) (tab2 hL)).mono fun e W' ⟨he, bel⟩ => ?_
  subst he
  exact ⟨_, rfl, _, _, _, [], _, [], hW', trodAll_mk1 (shut_bool Tryd.underlying4 _), (trodAll_cons_mk (Below.trod laidOut (by kernel_rfl) (of_decide_eq_true (by kernel_rfl)) k0 bel lt0) trodAll_mk0), rfl, bel.frame _, fun h => by cases h⟩

theorem over : Rows.octetDigitsRow.holds Tryd.pinned (OpenSpec.ofChange Rows.octetDigitsSpec) :=
  OpenClaim.holds_of_cond 3 Tryd.f3 rfl rfl rfl rfl rfl rfl rfl ⟨rfl, rfl, rfl, rfl, rfl⟩ rfl rfl rfl rfl rfl (by kernel_rfl) Tryd.func3 (by kernel_rfl)
    (of_decide_eq_true (by kernel_rfl)) (by unfold Func.isWrapper; first | (rw [if_pos (by decide +kernel)]; kernel_rfl) | (rw [if_neg (by decide +kernel)]; exact ⟨rfl, rfl⟩))
    (fun os started H enc _ F => by rw [OpenClaim.pre_eq_preRow]; exact lifted os started H enc F)

theorem plain (f : FuncId) (fn : Func) (hf : Tryd.pinned.checked.prog.funcNamed "drawbridge/drawbridgelaw01.OctetDigits" = some f) (hfn : Tryd.pinned.checked.prog.funcs[f]? = some fn) :
    false = Tryd.pinned.checked.prog.looks [] ∧ ∀ (j : Nat) t, fn.params[j]? = some t → Tryd.pinned.checked.prog.wantsStandIn t = false := by
  obtain rfl : f = 3 := Option.some.inj ((show Tryd.prog.funcNamed "drawbridge/drawbridgelaw01.OctetDigits" = some 3 by kernel_rfl).symm.trans hf) |>.symm
  obtain rfl : fn = Tryd.f3 := (Option.some.inj (Tryd.func3.symm.trans hfn)).symm
  refine ⟨by kernel_rfl, fun j t ht => ?_⟩
  rw [Tryd.params3] at ht
  have hm := Array.mem_of_getElem? ht
  simp only [List.mem_toArray, List.mem_cons, List.not_mem_nil, or_false] at hm
  rcases hm with rfl
  · exact (show Tryd.prog.wantsStandIn 2 = false by kernel_rfl)

theorem proved : Rows.OctetDigitsCardSaid :=
  Claim7.holds_tied_plain_at .later [] _ _ _ _ over (fun _ h => by cases h) (by kernel_rfl) (fun _ h => by cases h) octetDigits_row_tie rfl ⟨rfl, rfl⟩ (by kernel_rfl) rfl plain (by kernel_rfl)
end Go.Proofs.YtfeggahlhfpfoaaDoor.octetDigits
