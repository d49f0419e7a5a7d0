/- The contracts of layer 1's two functions on values. -/
import Derived.Test.YtfeggahlhfpfoaaRows
import Derived.Test.YtfeggahlhfpfoaaOctPure
import Derived.Test.YtfeggahlhfpfoaaOct1
import Derived.Test.YtfeggahlhfpfoaaOct2
import Derived.Test.YtfeggahlhfpfoaaOct3
import Derived.WalkKit
import Derived.WalkSpells
import Derived.WalkLawsBesides
import Derived.Lib.Hide
namespace Go.Proofs.Ytfeggahlhfpfoaa
open Go.RowKit
open Oct
set_option linter.unusedVariables false

set_option maxHeartbeats 1000000 in
theorem value_any (s : ByteArray) (w : World) (hs : s.size ≤ maxLen) :
    Calls Try.prog 9 #[.string s] w fun e w' => e = .returned (.bool (valueV s.data.toList)) ∧ w = w' := by
  by_cases hn : s.data.toList = []
  · have he := empty_yes hn
    have hv : valueV s.data.toList = true := by rw [hn]; rfl
    rw [hv]
    clear hn hv
    go_enter Try.func9, Try.ntmps9
    go_wp2_with fail
    go_ret
    exact ⟨rfl, rfl⟩
  · have he := empty_no hn
    have hp := size_pos hn
    have b0 := byte_bd s 0 hp
    have b1 := byte_bd s (s.size - 1) (by omega)
    have hv : valueV s.data.toList = (valF s.data.toList && (!blankB s[0].toNat && !blankB s[s.size - 1].toNat)) := by
      unfold valueV; rw [list_len, at_getD s 0 hp, at_getD s (s.size - 1) (by omega)]
    rw [hv]
    have hs' := hs
    unfold maxLen at hs'
    clear hn hv
    go_enter Try.func9, Try.ntmps9
    go_wp2_with (first | (go_at_call 26; refine (each_val _ _ hs).mono ?_; rintro e w' ⟨rfl, rfl⟩) | (go_at_call 27; refine (blank_any _ _ (by omega) (by omega)).mono ?_; rintro e w' ⟨rfl, rfl⟩))
    all_goals go_ret
    all_goals refine ⟨ret_bool ?_, rfl⟩
    all_goals simp only [*, Bool.true_and, Bool.false_and, Bool.not_true, Bool.not_false]

set_option maxHeartbeats 1000000 in
theorem rvalue_any (s : ByteArray) (w : World) (hs : s.size ≤ maxLen) :
    Calls Try.prog 11 #[.string s] w fun e w' => e = .returned (.bool (valueV s.data.toList)) ∧ w = w' := by
  have hs' := hs
  unfold maxLen at hs'
  generalize hR : valF s.data.toList = R
  generalize hV : valueV s.data.toList = V
  have HR := Lib.hid hR
  have hRR := Lib.hid hR
  have HV := Lib.hid hV
  clear hR hV
  go_enter Try.func11, Try.ntmps11
  go_wp2_with fail
  go_loop [3, 4] (fun i c => ∃ (k : Nat), k ≤ s.size ∧ i = .int .i64 k ∧ Hid (valF (s.data.toList.drop k) = R)) (fun i _ => s.size - (intOf i).toNat)
  case atStart => exact ⟨0, Nat.zero_le _, rfl, Lib.hid (by simpa using HR.out)⟩
  case round =>
    obtain ⟨k, hk, rfl, HF⟩ := hrel
    by_cases hlt : k < s.size
    · have hbd := byte_bd s k hlt
      have HG := Lib.hid (valF_go s k hlt)
      have VI := Lib.hid (val_iff s[k].toNat)
      by_cases ht : valB s[k].toNat = true
      · have HR' : Hid (valF (List.drop (k + 1) s.data.toList) = R) := Lib.hid (by rw [← HF.out, HG.out, ht]; rfl)
        have HT := VI.out.mp ht
        clear HG HF HR VI ht
        go_wp2_with (go_at_call 29; refine (rblank_any _ _ (by omega) (by omega)).mono ?_; rintro e w' ⟨rfl, rfl⟩)
        all_goals first
          | (go_round; (case rel => exact ⟨k + 1, by omega, by go_num, HR'⟩); (case measure => simp [intOf]; omega))
          | (exfalso; (try simp only [beq_iff_eq] at *); rcases HT with h | h | h; omega; omega; contradiction)
      · have ht' := Bool.not_eq_true _ |>.mp ht
        have HR' : R = false := by rw [← HF.out, HG.out, ht']; rfl
        have HV' : V = false := by rw [← HV.out, valueV, hRR.out, HR']; rfl
        have HT : ¬ (33 ≤ (s[k].toNat : Int) ∧ (s[k].toNat : Int) ≤ 126) ∧ ¬ 128 ≤ (s[k].toNat : Int) := ⟨fun h => ht (VI.out.mpr (Or.inl h)), fun h => ht (VI.out.mpr (Or.inr (Or.inl h)))⟩
        have HB : blankB s[k].toNat = false := by
          rw [← Bool.not_eq_true]; exact fun h => ht (VI.out.mpr (Or.inr (Or.inr h)))
        have HQ := Lib.hid (show (s[k].toNat : Int) < 33 ∨ (s[k].toNat : Int) = 127 by omega)
        have HB' := Lib.hid HB
        subst HV'
        clear HG HF HR ht ht' HR' hRR HV VI HT HB
        go_wp2_with (go_at_call 29; refine (rblank_any _ _ (by omega) (by omega)).mono ?_; rintro e w' ⟨rfl, rfl⟩)
        all_goals first
          | (exfalso; have h := HQ.out; (try simp only [beq_eq_false_iff_ne, beq_iff_eq, ne_eq] at *); omega)
          | (exfalso; exact absurd (HB'.out.symm.trans ‹blankB s[k].toNat = true›) (by decide))
          | (go_ret; exact ⟨rfl, rfl⟩)
    · have HR' : R = true := by rw [← HF.out, valF_end s k (by omega)]
      subst HR'
      by_cases hz : s.size = 0
      · have HV' : V = true := by
          rw [← HV.out]; have : s.data.toList = [] := List.eq_nil_iff_length_eq_zero.mpr (by simpa using hz)
          rw [this]; rfl
        subst HV'
        have hz' : ((s.size : Int) == 0) = true := by rw [beq_iff_eq]; omega
        clear HF HR HV hRR hz
        go_wp2_with fail
        go_ret
        exact ⟨rfl, rfl⟩
      · have hp : 0 < s.size := by omega
        have b0 := byte_bd s 0 hp
        have b1 := byte_bd s (s.size - 1) (by omega)
        have hz' : ((s.size : Int) == 0) = false := by rw [beq_eq_false_iff_ne]; omega
        have HV' : V = (!blankB s[0].toNat && !blankB s[s.size - 1].toNat) := by
          rw [← HV.out]; unfold valueV; rw [hRR.out, list_len, at_getD s 0 hp, at_getD s (s.size - 1) (by omega)]; rfl
        have HW := Lib.hid HV'
        clear HF HR HV hRR hz HV'
        go_wp2_with (go_at_call 29; refine (rblank_any _ _ (by omega) (by omega)).mono ?_; rintro e w' ⟨rfl, rfl⟩)
        all_goals go_ret
        all_goals refine ⟨ret_bool ?_, rfl⟩
        all_goals rw [HW.out]
        all_goals simp only [*, Bool.true_and, Bool.false_and, Bool.not_true, Bool.not_false]
end Go.Proofs.Ytfeggahlhfpfoaa
