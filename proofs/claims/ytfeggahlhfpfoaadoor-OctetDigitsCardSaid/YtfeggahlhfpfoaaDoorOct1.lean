/- The contracts of layer 1's functions on numbers as digits. -/
import Derived.Test.YtfeggahlhfpfoaaDoorRows
import Derived.Test.YtfeggahlhfpfoaaDoorOctPure
import Derived.WalkKit
import Derived.WalkSpells
import Derived.WalkLawsBesides
import Derived.Lib.Hide
namespace Go.Proofs.YtfeggahlhfpfoaaDoor
open Go.RowKit
open Oct

theorem ret_int {k : IntKind} {a b : Int} (h : a = b) : Ending.returned (.int k a) = .returned (.int k b) := by rw [h]
theorem ret_intv {k : IntKind} {a b : Int} {y : Value} (h : a = b) : Ending.returned (.tuple #[.int k a, y]) = .returned (.tuple #[.int k b, y]) := by rw [h]
theorem ret_int2 {k k' : IntKind} {a b c d : Int} (h : a = b) (h' : c = d) : Ending.returned (.tuple #[.int k a, .int k' c]) = .returned (.tuple #[.int k b, .int k' d]) := by rw [h, h']

set_option maxHeartbeats 400000 in
theorem small_any (c : Int) (w : World) (h0 : 0 ≤ c) (h1 : c ≤ 255) :
    Calls Tryd.prog 15 #[.int .u8 c] w fun e w' => e = .returned (.int .u8 (smallI c)) ∧ w = w' := by
  go_enter Tryd.func15, Tryd.ntmps15
  go_wp2
  all_goals go_ret
  all_goals exact ⟨ret_int (by unfold smallI; split <;> omega), rfl⟩

theorem worth_of_small (c : Int) (h0 : 0 ≤ c) (h1 : c ≤ 255) :
    worthI c = if 48 ≤ smallI c ∧ smallI c ≤ 57 then smallI c - 48 else if 97 ≤ smallI c ∧ smallI c ≤ 102 then smallI c - 97 + 10 else 99 := by
  unfold worthI smallI; (repeat' split) <;> omega

set_option maxHeartbeats 400000 in
theorem worth_yes (c : Int) (w : World) (h0 : 0 ≤ c) (h1 : c ≤ 255) (hw : worthI c ≤ 15) :
    Calls Tryd.prog 13 #[.int .u8 c] w fun e w' => e = .returned (.tuple #[.int .i64 (worthI c), .bool true]) ∧ w = w' := by
  have hb := smallI_bd c h0 h1
  have HW := Lib.hid (worth_of_small c h0 h1)
  go_enter Tryd.func13, Tryd.ntmps13
  go_wp2_with (go_at_call 15; refine (small_any _ _ (by omega) (by omega)).mono ?_; rintro e w' ⟨rfl, rfl⟩)
  all_goals first
    | (exfalso; rw [HW.out] at hw; (repeat' split at hw) <;> omega)
    | (go_ret2; refine ⟨ret_intv ?_, rfl⟩; rw [HW.out]; (repeat' split) <;> omega)

set_option maxHeartbeats 400000 in
theorem worth_no (c : Int) (w : World) (h0 : 0 ≤ c) (h1 : c ≤ 255) (hw : 16 ≤ worthI c) :
    Calls Tryd.prog 13 #[.int .u8 c] w fun e w' => e = .returned (.tuple #[.int .i64 0, .bool false]) ∧ w = w' := by
  have hb := smallI_bd c h0 h1
  have HW := Lib.hid (worth_of_small c h0 h1)
  go_enter Tryd.func13, Tryd.ntmps13
  go_wp2_with (go_at_call 15; refine (small_any _ _ (by omega) (by omega)).mono ?_; rintro e w' ⟨rfl, rfl⟩)
  all_goals first
    | (go_ret2; exact ⟨rfl, rfl⟩)
    | (exfalso; rw [HW.out] at hw; (repeat' split at hw) <;> omega)

theorem empty_yes {s : ByteArray} (h : s.data.toList = []) : s.toList.isEmpty = true := by rw [ByteArray.toList_eq, h]; rfl
theorem empty_no {s : ByteArray} (h : s.data.toList ≠ []) : s.toList.isEmpty = false := by
  rw [ByteArray.toList_eq]; cases hd : s.data.toList with
  | nil => exact absurd hd h
  | cons a r => rfl
theorem byte_bd (s : ByteArray) (k : Nat) (h : k < s.size) : (0 : Int) ≤ s[k].toNat ∧ (s[k].toNat : Int) ≤ 255 := by
  have := s[k].toNat_lt; omega

set_option maxHeartbeats 1000000 in
theorem number_any (base : Int) (s : ByteArray) (w : World) (hs : s.size ≤ maxLen) (hb0 : 2 ≤ base) (hb1 : base ≤ 16) :
    Calls Tryd.prog 11 #[.string s, .int .i64 base] w fun e w' => e = .returned (.tuple #[.int .i64 (numV base s.data.toList), .int .i64 (numE base s.data.toList)]) ∧ w = w' := by
  unfold maxLen at hs
  by_cases hn : s.data.toList = []
  · have hv : numV base s.data.toList = 0 := by simp [numV, hn]
    have he : numE base s.data.toList = 10 := by simp [numE, hn]
    rw [hv, he]
    have he' := empty_yes hn
    clear hn hv he
    go_enter Tryd.func11, Tryd.ntmps11
    go_wp2
    go_ret2
    exact ⟨rfl, rfl⟩
  · have he' := empty_no hn
    have HV : numV base s.data.toList = if numF base s.data.toList 0 = -1 then 0 else if 1099511627776 < numF base s.data.toList 0 then 0 else numF base s.data.toList 0 := by rw [numV, if_neg hn]
    have HE : numE base s.data.toList = if numF base s.data.toList 0 = -1 then 10 else if 1099511627776 < numF base s.data.toList 0 then 11 else 0 := by rw [numE, if_neg hn]
    generalize numV base s.data.toList = V at HV ⊢
    generalize numE base s.data.toList = E at HE ⊢
    generalize hR : numF base s.data.toList 0 = R at HV HE
    have HR := Lib.hid hR
    have HV' := Lib.hid HV
    have HE' := Lib.hid HE
    clear hR HV HE hn
    go_enter Tryd.func11, Tryd.ntmps11
    go_wp2
    go_loop [6, 14] (fun n i => ∃ (k : Nat) (m : Int), k ≤ s.size ∧ 0 ≤ m ∧ m ≤ 1099511627777 ∧ i = .int .i64 k ∧ n = .int .i64 m ∧ Hid (numF base (s.data.toList.drop k) m = R)) (fun _ i => s.size - (intOf i).toNat)
    case atStart => exact ⟨0, 0, Nat.zero_le _, by omega, by omega, rfl, rfl, Lib.hid (by simpa using HR.out)⟩
    case round =>
      obtain ⟨k, m, hk, hm0, hm1, rfl, rfl, HF⟩ := hrel
      by_cases hlt : k < s.size
      · have hbd := byte_bd s k hlt
        have hwb := worthI_bd s[k].toNat
        by_cases hw : base ≤ worthI s[k].toNat
        · have hr1 : R = -1 := by rw [← HF.out, numF_stop base s k m hlt hw]
          have hv : V = 0 := by rw [HV'.out, if_pos hr1]
          have he : E = 10 := by rw [HE'.out, if_pos hr1]
          subst hv he
          clear HR HF hr1 HV' HE'
          by_cases hw15 : worthI s[k].toNat ≤ 15
          · go_wp2_with (go_at_call 13; refine (worth_yes _ _ (by omega) (by omega) hw15).mono ?_; rintro e w' ⟨rfl, rfl⟩)
            go_ret2
            exact ⟨rfl, rfl⟩
          · go_wp2_with (go_at_call 13; refine (worth_no _ _ (by omega) (by omega) (by omega)).mono ?_; rintro e w' ⟨rfl, rfl⟩)
            go_ret2
            exact ⟨rfl, rfl⟩
        · have hg := Lib.hid (numF_go base s k m hlt hw)
          have hmul : 0 ≤ m * base ∧ m * base ≤ 1099511627777 * 16 := by
            constructor
            · exact Int.mul_nonneg hm0 (by omega)
            · calc m * base ≤ 1099511627777 * base := Int.mul_le_mul_of_nonneg_right hm1 (by omega)
                _ ≤ 1099511627777 * 16 := Int.mul_le_mul_of_nonneg_left hb1 (by omega)
          go_wp2_with (go_at_call 13; refine (worth_yes _ _ (by omega) (by omega) (by omega)).mono ?_; rintro e w' ⟨rfl, rfl⟩)
          go_round
          case rel => exact ⟨k + 1, _, by omega, by split <;> omega, by split <;> omega, by go_num, rfl, Lib.hid (by rw [← HF.out, hg.out])⟩
          case measure => simp [intOf]; omega
      · have hr1 : m = R := by rw [← HF.out, numF_end base s k m (by omega)]
        subst hr1
        by_cases hgt : 1099511627776 < m
        · have hv : V = 0 := by rw [HV'.out, if_neg (by omega), if_pos hgt]
          have he : E = 11 := by rw [HE'.out, if_neg (by omega), if_pos hgt]
          subst hv he
          clear HF HR HV' HE'
          go_wp2
          go_ret2
          exact ⟨rfl, rfl⟩
        · have hv : V = m := by rw [HV'.out, if_neg (by omega), if_neg hgt]
          have he : E = 0 := by rw [HE'.out, if_neg (by omega), if_neg hgt]
          subst hv he
          clear HF HR HV' HE'
          go_wp2
          go_ret2
          exact ⟨rfl, rfl⟩

set_option maxHeartbeats 400000 in
theorem decimal_any (s : ByteArray) (w : World) (hs : s.size ≤ maxLen) :
    Calls Tryd.prog 8 #[.string s] w fun e w' => e = .returned (.tuple #[.int .i64 (numV 10 s.data.toList), .int .i64 (numE 10 s.data.toList)]) ∧ w = w' := by
  go_enter Tryd.func8, Tryd.ntmps8
  go_wp2_with (go_at_call 11; refine (number_any _ _ _ hs (by omega) (by omega)).mono ?_; rintro e w' ⟨rfl, rfl⟩)
  go_ret2
  exact ⟨rfl, rfl⟩

set_option maxHeartbeats 400000 in
theorem hex_any (s : ByteArray) (w : World) (hs : s.size ≤ maxLen) :
    Calls Tryd.prog 9 #[.string s] w fun e w' => e = .returned (.tuple #[.int .i64 (numV 16 s.data.toList), .int .i64 (numE 16 s.data.toList)]) ∧ w = w' := by
  go_enter Tryd.func9, Tryd.ntmps9
  go_wp2_with (go_at_call 11; refine (number_any _ _ _ hs (by omega) (by omega)).mono ?_; rintro e w' ⟨rfl, rfl⟩)
  go_ret2
  exact ⟨rfl, rfl⟩

end Go.Proofs.YtfeggahlhfpfoaaDoor
