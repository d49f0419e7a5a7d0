/- The contracts of layer 1's functions on tokens and values. -/
import Derived.Test.YtfeggahlhfpfoaaRows
import Derived.Test.YtfeggahlhfpfoaaOctPure
import Derived.Test.YtfeggahlhfpfoaaOct1
import Derived.Test.YtfeggahlhfpfoaaOct2
import Derived.WalkKit
import Derived.WalkSpells
import Derived.WalkLawsBesides
import Derived.Lib.Hide
namespace Go.Proofs.Ytfeggahlhfpfoaa
open Go.RowKit
open Oct
set_option linter.unusedVariables false

theorem or3 : bits BinOp.or IntKind.i64 (bits BinOp.or IntKind.i64 0 2) 1 = 3 := by decide +kernel
theorem or1 : bits BinOp.or IntKind.i64 0 1 = 1 := by decide +kernel

set_option maxHeartbeats 1000000 in
theorem class_any (c : Int) (w : World) (h0 : 0 ≤ c) (h1 : c ≤ 255) :
    Calls Try.prog 34 #[.int .u8 c] w fun e w' => e = .returned (.int .i64 (clsI c)) ∧ w = w' := by
  have hb := smallI_bd c h0 h1
  have T := Lib.hid (tok_iff c)
  have V := Lib.hid (val_iff c)
  go_enter Try.func34, Try.ntmps34
  go_wp2_with (first | (go_at_call 30; refine (small_any _ _ (by omega) (by omega)).mono ?_; rintro e w' ⟨rfl, rfl⟩) | (go_at_call 38; refine (sign_any _ _ (by omega) (by omega)).mono ?_; rintro e w' ⟨rfl, rfl⟩) | (go_at_call 27; refine (blank_any _ _ (by omega) (by omega)).mono ?_; rintro e w' ⟨rfl, rfl⟩))
  all_goals go_ret
  all_goals refine ⟨ret_int ?_, rfl⟩
  all_goals first
    | (rw [or3, cls3]; rw [T.out]; first | (left; omega) | (right; left; omega) | (right; right; assumption))
    | (rw [or1, cls1]; (rw [T.out]; rintro (h | h | h); omega; omega; exact absurd (h.symm.trans ‹signB c = false›) (by decide)); (rw [V.out]; first | (left; omega) | (right; left; omega) | (right; right; assumption)))
    | (rw [cls0]; (rw [T.out]; rintro (h | h | h); omega; omega; exact absurd (h.symm.trans ‹signB c = false›) (by decide)); (rw [V.out]; rintro (h | h | h); omega; omega; exact absurd (h.symm.trans ‹blankB c = false›) (by decide)))

theorem and_facts : bits BinOp.and IntKind.i64 3 2 = 2 ∧ bits BinOp.and IntKind.i64 1 2 = 0 ∧ bits BinOp.and IntKind.i64 0 2 = 0 ∧ bits BinOp.and IntKind.i64 3 1 = 1 ∧ bits BinOp.and IntKind.i64 1 1 = 1 ∧ bits BinOp.and IntKind.i64 0 1 = 0 := by decide +kernel

theorem and_tok (c : Int) : (bits BinOp.and IntKind.i64 (clsI c) 2 == 0) = !tokB c := by
  obtain ⟨a1, a2, a3, a4, a5, a6⟩ := and_facts
  by_cases h : tokB c = true
  · rw [cls3 c h, a1, h]; rfl
  · by_cases h' : valB c = true
    · rw [cls1 c h h', a2, Bool.not_eq_true _ |>.mp h]; rfl
    · rw [cls0 c h h', a3, Bool.not_eq_true _ |>.mp h]; rfl
theorem and_val (c : Int) : (bits BinOp.and IntKind.i64 (clsI c) 1 == 0) = !valB c := by
  obtain ⟨a1, a2, a3, a4, a5, a6⟩ := and_facts
  by_cases h : tokB c = true
  · rw [cls3 c h, a4, tok_val c h]; rfl
  · by_cases h' : valB c = true
    · rw [cls1 c h h', a5, h']; rfl
    · rw [cls0 c h h', a6, Bool.not_eq_true _ |>.mp h']; rfl

set_option maxHeartbeats 1000000 in
theorem each_tok (s : ByteArray) (w : World) (hs : s.size ≤ maxLen) :
    Calls Try.prog 26 #[.string s, .int .i64 2] w fun e w' => e = .returned (.bool (tokF s.data.toList)) ∧ w = w' := by
  unfold maxLen at hs
  generalize hR : tokF s.data.toList = R
  have HR := Lib.hid hR
  clear hR
  go_enter Try.func26, Try.ntmps26
  go_wp2
  go_loop [8] (fun i => ∃ (k : Nat), k ≤ s.size ∧ i = .int .i64 k ∧ Hid (tokF (s.data.toList.drop k) = R)) (fun i => s.size - (intOf i).toNat)
  case atStart => exact ⟨0, Nat.zero_le _, rfl, Lib.hid (by simpa using HR.out)⟩
  case round =>
    obtain ⟨k, hk, rfl, HF⟩ := hrel
    by_cases hlt : k < s.size
    · have hbd := byte_bd s k hlt
      have HG := Lib.hid (tokF_go s k hlt)
      have HA := and_tok s[k].toNat
      by_cases ht : tokB s[k].toNat = true
      · rw [ht] at HA
        have HR' : Hid (tokF (List.drop (k + 1) s.data.toList) = R) := Lib.hid (by rw [← HF.out, HG.out, ht]; rfl)
        clear HG HF HR ht
        go_wp2_with (go_at_call 34; refine (class_any _ _ (by omega) (by omega)).mono ?_; rintro e w' ⟨rfl, rfl⟩)
        go_round
        case rel => exact ⟨k + 1, by omega, by go_num, HR'⟩
        case measure => simp [intOf]; omega
      · rw [Bool.not_eq_true _ |>.mp ht] at HA
        have HR' : R = false := by rw [← HF.out, HG.out, Bool.not_eq_true _ |>.mp ht]; rfl
        subst HR'
        clear HG HF HR ht
        go_wp2_with (go_at_call 34; refine (class_any _ _ (by omega) (by omega)).mono ?_; rintro e w' ⟨rfl, rfl⟩)
        go_ret
        exact ⟨rfl, rfl⟩
    · have HR' : R = true := by rw [← HF.out, tokF_end s k (by omega)]
      subst HR'
      clear HF HR
      go_wp2
      go_ret
      exact ⟨rfl, rfl⟩
set_option maxHeartbeats 1000000 in
theorem each_val (s : ByteArray) (w : World) (hs : s.size ≤ maxLen) :
    Calls Try.prog 26 #[.string s, .int .i64 1] w fun e w' => e = .returned (.bool (valF s.data.toList)) ∧ w = w' := by
  unfold maxLen at hs
  generalize hR : valF s.data.toList = R
  have HR := Lib.hid hR
  clear hR
  go_enter Try.func26, Try.ntmps26
  go_wp2
  go_loop [8] (fun i => ∃ (k : Nat), k ≤ s.size ∧ i = .int .i64 k ∧ Hid (valF (s.data.toList.drop k) = R)) (fun i => s.size - (intOf i).toNat)
  case atStart => exact ⟨0, Nat.zero_le _, rfl, Lib.hid (by simpa using HR.out)⟩
  case round =>
    obtain ⟨k, hk, rfl, HF⟩ := hrel
    by_cases hlt : k < s.size
    · have hbd := byte_bd s k hlt
      have HG := Lib.hid (valF_go s k hlt)
      have HA := and_val s[k].toNat
      by_cases ht : valB s[k].toNat = true
      · rw [ht] at HA
        have HR' : Hid (valF (List.drop (k + 1) s.data.toList) = R) := Lib.hid (by rw [← HF.out, HG.out, ht]; rfl)
        clear HG HF HR ht
        go_wp2_with (go_at_call 34; refine (class_any _ _ (by omega) (by omega)).mono ?_; rintro e w' ⟨rfl, rfl⟩)
        go_round
        case rel => exact ⟨k + 1, by omega, by go_num, HR'⟩
        case measure => simp [intOf]; omega
      · rw [Bool.not_eq_true _ |>.mp ht] at HA
        have HR' : R = false := by rw [← HF.out, HG.out, Bool.not_eq_true _ |>.mp ht]; rfl
        subst HR'
        clear HG HF HR ht
        go_wp2_with (go_at_call 34; refine (class_any _ _ (by omega) (by omega)).mono ?_; rintro e w' ⟨rfl, rfl⟩)
        go_ret
        exact ⟨rfl, rfl⟩
    · have HR' : R = true := by rw [← HF.out, valF_end s k (by omega)]
      subst HR'
      clear HF HR
      go_wp2
      go_ret
      exact ⟨rfl, rfl⟩

set_option maxHeartbeats 1000000 in
theorem rtoken_any (s : ByteArray) (w : World) (hs : s.size ≤ maxLen) :
    Calls Try.prog 10 #[.string s] w fun e w' => e = .returned (.bool (tokenV s.data.toList)) ∧ w = w' := by
  unfold maxLen at hs
  have hT : tokenV s.data.toList = (decide (0 < s.size) && tokF s.data.toList) := by
    unfold tokenV
    cases h : s.data.toList with
    | nil => rw [size_nil h]; rfl
    | cons a r => rw [show decide (0 < s.size) = true from by simp [size_pos (s := s) (by rw [h]; simp)]]; rfl
  rw [hT]
  clear hT
  generalize hR : tokF s.data.toList = R
  have HR := Lib.hid hR
  clear hR
  go_enter Try.func10, Try.ntmps10
  go_wp2
  go_loop [3] (fun i => ∃ (k : Nat), k ≤ s.size ∧ i = .int .i64 k ∧ Hid (tokF (s.data.toList.drop k) = R)) (fun i => s.size - (intOf i).toNat)
  case atStart => exact ⟨0, Nat.zero_le _, rfl, Lib.hid (by simpa using HR.out)⟩
  case round =>
    obtain ⟨k, hk, rfl, HF⟩ := hrel
    by_cases hlt : k < s.size
    · have hbd := byte_bd s k hlt
      have HG := Lib.hid (tokF_go s k hlt)
      by_cases ht : tokB s[k].toNat = true
      · have HR' : Hid (tokF (List.drop (k + 1) s.data.toList) = R) := Lib.hid (by rw [← HF.out, HG.out, ht]; rfl)
        clear HG HF HR
        go_wp2_with (go_at_call 28; refine (tokb_any _ _ (by omega) (by omega)).mono ?_; rintro e w' ⟨rfl, rfl⟩)
        go_round
        case rel => exact ⟨k + 1, by omega, by go_num, HR'⟩
        case measure => simp [intOf]; omega
      · have ht' := Bool.not_eq_true _ |>.mp ht
        have HR' : R = false := by rw [← HF.out, HG.out, ht']; rfl
        subst HR'
        clear HG HF HR ht
        go_wp2_with (go_at_call 28; refine (tokb_any _ _ (by omega) (by omega)).mono ?_; rintro e w' ⟨rfl, rfl⟩)
        go_ret
        exact ⟨ret_bool (by simp), rfl⟩
    · have HR' : R = true := by rw [← HF.out, tokF_end s k (by omega)]
      subst HR'
      clear HF HR
      go_wp2
      go_ret
      exact ⟨ret_bool (by simp), rfl⟩

set_option maxHeartbeats 1000000 in
theorem token_any (s : ByteArray) (w : World) (hs : s.size ≤ maxLen) :
    Calls Try.prog 8 #[.string s] w fun e w' => e = .returned (.bool (tokenV s.data.toList)) ∧ w = w' := by
  by_cases hn : s.data.toList = []
  · have he := empty_yes hn
    have hv : tokenV s.data.toList = false := by rw [hn]; rfl
    rw [hv]
    clear hn hv
    go_enter Try.func8, Try.ntmps8
    go_wp2_with fail
    go_ret
    exact ⟨rfl, rfl⟩
  · have he := empty_no hn
    have hv : tokenV s.data.toList = tokF s.data.toList := by
      unfold tokenV; cases h : s.data.toList with
      | nil => exact absurd h hn
      | cons a r => rfl
    rw [hv]
    clear hn hv
    go_enter Try.func8, Try.ntmps8
    go_wp2_with (go_at_call 26; refine (each_tok _ _ hs).mono ?_; rintro e w' ⟨rfl, rfl⟩)
    go_ret
    exact ⟨rfl, rfl⟩
end Go.Proofs.Ytfeggahlhfpfoaa
