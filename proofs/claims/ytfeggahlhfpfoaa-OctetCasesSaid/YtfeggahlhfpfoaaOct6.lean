/- The contracts of octet.Same and of the document's Lower. -/
import Derived.Test.YtfeggahlhfpfoaaRows
import Derived.Test.YtfeggahlhfpfoaaOctPure
import Derived.Test.YtfeggahlhfpfoaaMem
import Derived.Test.YtfeggahlhfpfoaaOct1
import Derived.Test.YtfeggahlhfpfoaaOct2
import Derived.Test.YtfeggahlhfpfoaaOct5
import Derived.WalkKit
import Derived.WalkSpells
import Derived.WalkLawsBesides
import Derived.Deep.QuietTactic
import Derived.BigQuiet
import Derived.Lib.Hide
namespace Go.Proofs.Ytfeggahlhfpfoaa
open Go.RowKit
open Oct Mem
set_option linter.unusedVariables false

set_option maxHeartbeats 1000000 in
theorem same_any (s t : ByteArray) (w : World) (hs : s.size ≤ maxLen) (ht : t.size ≤ maxLen) :
    Calls Try.prog 15 #[.string s, .string t] w fun e w' => e = .returned (.bool (decide (lowL s.data.toList = lowL t.data.toList))) ∧ Below w.heap.size w w' := by
  unfold maxLen at hs ht
  by_cases hne : s.size = t.size
  · have hne1 : ((s.size : Int) != t.size) = false := by rw [bne_eq_false_iff_eq]; omega
    generalize hR : decide (lowL s.data.toList = lowL t.data.toList) = R
    have HR := Lib.hid hR
    have HN := Lib.hid hne
    clear hR hne
    go_enter Try.func15, Try.ntmps15
    go_wp2_with fail
    go_loopw [5, 13] (fun _ i wr => ∃ (k : Nat), k ≤ s.size ∧ i = .int .i64 k ∧ Hid (decide (lowL (s.data.toList.drop k) = lowL (t.data.toList.drop k)) = R) ∧ Below w.heap.size w wr) (fun _ i _ => s.size - (intOf i).toNat)
    case atStart => exact ⟨0, Nat.zero_le _, rfl, Lib.hid (by simpa using HR.out), Below.refl _ _⟩
    case round =>
      obtain ⟨k, hk, rfl, HF, hbel⟩ := hrel
      by_cases hlt : k < s.size
      · have hlt2 : k < t.size := by have := HN.out; omega
        have hb1 := byte_bd s k hlt
        have hb2 := byte_bd t k hlt2
        by_cases hq : smallI s[k].toNat = smallI t[k].toNat
        · have hq' : (smallI s[k].toNat != smallI t[k].toNat) = false := by rw [bne_eq_false_iff_eq]; exact hq
          have HF' : Hid (decide (lowL (s.data.toList.drop (k + 1)) = lowL (t.data.toList.drop (k + 1))) = R) := Lib.hid (by
            rw [← HF.out, lowL_step s t k hlt hlt2, decide_eq_true hq, Bool.true_and])
          clear HF HR HN hq
          go_wp2_with fail
          go_quiet ((go_at_call 30; exact quietL (small_any _ _ (by omega) (by omega))))
          go_wp2_with fail
          go_roundw
          case rel => exact ⟨k + 1, by omega, by go_num, HF', below_drewN hbel _⟩
          case measure => simp [intOf]; omega
        · have hq' : (smallI s[k].toNat != smallI t[k].toNat) = true := by rw [bne_iff_ne]; exact hq
          have hR : R = false := by
            rw [← HF.out, lowL_step s t k hlt hlt2, decide_eq_false hq, Bool.false_and]
          subst hR
          clear HF HR HN hq
          go_wp2_with fail
          go_quiet ((go_at_call 30; exact quietL (small_any _ _ (by omega) (by omega))))
          go_wp2_with fail
          go_ret
          exact ⟨rfl, below_drewN hbel _⟩
      · have hR : R = true := by
          rw [← HF.out, drop_end s k (by omega), drop_end t k (by have := HN.out; omega)]; simp
        subst hR
        clear HF HR HN
        go_wp2_with fail
        go_ret
        exact ⟨rfl, hbel⟩
  · have hne1 : ((s.size : Int) != t.size) = true := by rw [bne_iff_ne]; omega
    have hR : decide (lowL s.data.toList = lowL t.data.toList) = false := by
      rw [decide_eq_false_iff_not]; intro h; apply hne; rw [← list_len, ← list_len, ← lowL_length, h, lowL_length]
    rw [hR]
    clear hR hne
    go_enter Try.func15, Try.ntmps15
    go_wp2_with fail
    go_ret
    exact ⟨rfl, Below.refl _ _⟩

set_option maxHeartbeats 1000000 in
theorem rlower_any (s : ByteArray) (w : World) (hs : s.size ≤ maxLen) (hr : s.size ≤ 140737488355327) :
    Calls Try.prog 14 #[.string s] w fun e w' => e = .returned (.string ⟨(lowL s.data.toList).toArray⟩) ∧ Below w.heap.size w w' := by
  unfold maxLen at hs
  obtain ⟨i0, hi, hz0, hz1, hz2⟩ := info_parts info_u8
  go_enter Try.func14, Try.ntmps14
  go_wp2_with fail
  go_loopw [3, 4, 5] (fun v i _ wr => ∃ (k : Nat), k ≤ s.size ∧ i = .int .i64 k ∧ Hid (wr.ownsRow w.heap.size 5 1 v k (bvs (lowL (s.data.toList.take k)))) ∧ Below w.heap.size w wr) (fun _ i _ _ => s.size - (intOf i).toNat)
  case atStart => exact ⟨0, Nat.zero_le _, rfl, Lib.hid (World.ownsRow_lit w #[] 0 (Nat.le_refl _) (by unfold maxLen; omega) rfl), (Below.refl _ _).alloc (Nat.le_refl _) _⟩
  case round =>
    obtain ⟨k, hk, rfl, HO, hbel⟩ := hrel
    by_cases hlt : k < s.size
    · have hb1 := byte_bd s k hlt
      have HTk : Hid ((lowL (s.data.toList.take k)).length = k) := Lib.hid (by rw [lowL_length, List.length_take, list_len]; omega)
      have HO' : Hid (wr.ownsRow w.heap.size 5 1 u3 (lowL (s.data.toList.take k)).length (bvs (lowL (s.data.toList.take k)))) := Lib.hid (by rw [HTk.out]; exact HO.out)
      have HLen : (lowL (s.data.toList.take k)).length + 1 ≤ 140737488355328 := by have := HTk.out; omega
      have HBase := hbel.size
      have hlv := lowU_val s[k]
      by_cases hup : 65 ≤ (s[k].toNat : Int) ∧ (s[k].toNat : Int) ≤ 90
      · have HL : (s[k].toNat : Int) + 32 = ((lowU s[k]).toNat : Int) := by rw [hlv, smallI, if_pos hup]
        have HL' := Lib.hid HL
        obtain ⟨hu1, hu2⟩ := hup
        clear hlv HL
        go_wp2_with (at_builtin; refine append_byte Try.underlying29 hi hz0 hz1 hz2 rfl _ _ rfl w.heap.size u3 (lowL (s.data.toList.take k)) (lowU s[k]) _ HL'.out rfl HO'.out rfl HLen HBase ?_; intro v1 w1 hown1 hb1)
        all_goals
         go_roundw
         case rel => exact ⟨k + 1, by omega, by go_num, Lib.hid (by have := hown1.out; rw [HTk.out] at this; rw [lowL_snoc s k hlt]; exact this), hb1 _ _ hbel (Nat.le_refl _)⟩
         case measure => simp [intOf]; omega
      · have HL : (s[k].toNat : Int) = ((lowU s[k]).toNat : Int) := by rw [hlv, smallI, if_neg hup]
        have HL' := Lib.hid HL
        clear hlv HL
        go_wp2_with (at_builtin; refine append_byte Try.underlying29 hi hz0 hz1 hz2 rfl _ _ rfl w.heap.size u3 (lowL (s.data.toList.take k)) (lowU s[k]) _ HL'.out rfl HO'.out rfl HLen HBase ?_; intro v1 w1 hown1 hb1)
        all_goals
         go_roundw
         case rel => exact ⟨k + 1, by omega, by go_num, Lib.hid (by have := hown1.out; rw [HTk.out] at this; rw [lowL_snoc s k hlt]; exact this), hb1 _ _ hbel (Nat.le_refl _)⟩
         case measure => simp [intOf]; omega
    · have hfin : lowL (s.data.toList.take k) = lowL s.data.toList := by rw [List.take_of_length_le (by rw [list_len]; omega)]
      have hk' : k = (lowL s.data.toList).length := by rw [lowL_length, list_len]; omega
      have hown := HO.out
      rw [hfin, hk'] at hown
      have hconv := run_conv_own (dst := 9) Try.underlying29 Try.underlying5 Try.underlying9 hown
      clear HO hown hk' hfin
      go_wp2_with fail
      go_ret
      exact ⟨rfl, hbel⟩
end Go.Proofs.Ytfeggahlhfpfoaa
