/- The contract of the document's TakeInt of layer 3, with a prefix of one to eight bits. -/
import Derived.Test.YtabpoejimnoamaaDoorRows
import Derived.Test.YtabpoejimnoamaaDoorPrePure
import Derived.Test.YtabpoejimnoamaaDoorMem
import Derived.Test.YtabpoejimnoamaaDoorGen
import Derived.Test.YtabpoejimnoamaaDoorPre1
import Derived.WalkKit
import Derived.WalkSpells
import Derived.WalkLawsBesides
import Derived.Lib.Hide
import Derived.Outline
namespace Go.Proofs.YtabpoejimnoamaaDoor
open Go.RowKit
open Huf Pre Mem Gen
set_option linter.unusedVariables false

theorem takeN_cons (c : UInt8) (r : List UInt8) (k : Nat) : takeN (c :: r) k = if c.toNat % 2 ^ k < 2 ^ k - 1 then (c.toNat % 2 ^ k, 1, 0) else tkF 5 r 1 (c.toNat % 2 ^ k) 1 := rfl
theorem tkF_nil (f at' n t : Nat) : tkF (f + 1) [] at' n t = (0, 0, 12) := rfl
theorem tkF_cons (f : Nat) (c : UInt8) (r : List UInt8) (at' n t : Nat) : tkF (f + 1) (c :: r) at' n t = if c.toNat < 128 then (if 2147483647 < n + t * (c.toNat % 128) then (0, 0, 11) else (n + t * (c.toNat % 128), at' + 1, 0)) else tkF f r (at' + 1) (n + t * (c.toNat % 128)) (t * 128) := rfl
theorem pow_five (i : Nat) (h : i ≤ 4) : 128 ^ i ≤ 268435456 := by
  have : i = 0 ∨ i = 1 ∨ i = 2 ∨ i = 3 ∨ i = 4 := by omega
  rcases this with rfl | rfl | rfl | rfl | rfl <;> decide

set_option maxRecDepth 100000 in
set_option maxHeartbeats 4000000 in
theorem rtakeint_ok (a : Option Addr) (l : List UInt8) (cap k : Nat) (w : World) (hl : l.length ≤ 9223372036854775807) (hr : RB w a l) (h1 : 1 ≤ k) (h8 : k ≤ 8) :
    Calls Tryd.prog 21 #[.slice a l.length cap, .int .i64 k] w fun e w' => e = .returned (.tuple #[.int .i64 (takeN l k).1, .int .i64 (takeN l k).2.1, .int .i64 (takeN l k).2.2]) ∧ w = w' := by
  have hpb := pow_bd k h1 h8
  have k1 : ¬ (k : Int) < 1 := by omega
  have k8 : ¬ (8 : Int) < k := by omega
  rcases hr with rfl | ⟨b, off, rfl, hc⟩
  · have hT : takeN [] k = (0, 0, 12) := rfl
    rw [hT]
    clear hT hpb
    go_enter Tryd.func21, Tryd.ntmps21
    go_wp2_with fail
    go_ret3
    exact ⟨rfl, rfl⟩
  · match l, hl, hc with
    | [], _, _ =>
      have hT : takeN [] k = (0, 0, 12) := rfl
      rw [hT]
      clear hT hpb
      go_enter Tryd.func21, Tryd.ntmps21
      go_wp2_with fail
      go_ret3
      exact ⟨rfl, rfl⟩
    | c :: r, hl, hc =>
      have hcb := c.toNat_lt
      have hc0 : w.cell? ⟨b, off, none⟩ = some (.int .u8 (c.toNat : Int)) := hc 0 (Nat.zero_lt_succ _)
      have HC : Hid (∀ i, (h : i < r.length) → w.cell? ⟨b, off + (i + 1), none⟩ = some (.int .u8 (r[i].toNat : Int))) := Lib.hid (fun i h => hc (i + 1) (Nat.succ_lt_succ h))
      have HP : Hid (takeN (c :: r) k = if c.toNat % 2 ^ k < 2 ^ k - 1 then (c.toNat % 2 ^ k, 1, 0) else tkF 5 r 1 (c.toNat % 2 ^ k) 1) := rfl
      have HD : Hid (∀ i, i < k → 2 ^ (i + 1) = 2 ^ i * 2 ∧ 2 ^ i ≤ 128) := Lib.hid (fun i hi => ⟨Nat.pow_succ .., by
        have h := Nat.pow_le_pow_right (show 0 < 2 by decide) (show i ≤ 7 by omega)
        exact h⟩)
      generalize takeN (c :: r) k = R at HP ⊢
      obtain ⟨P, hP⟩ : ∃ P, 2 ^ k = P := ⟨_, rfl⟩
      rw [hP] at HP hpb
      have HPk := Lib.hid hP
      have hlen : (c :: r).length = r.length + 1 := rfl
      rw [hlen] at hl ⊢
      generalize hcz : c.toNat = z at *
      clear hP hc hlen hcz
      have hl0 : (((r.length : Int) + 1) == 0) = false := by simp; omega
      go_enter Tryd.func21, Tryd.ntmps21
      go_wp2_with fail
      go_loop [7, 8] (fun vp vi => ∃ (i p : Nat), i ≤ k ∧ p ≤ 256 ∧ vi = .int .i64 i ∧ vp = .int .i64 p ∧ Hid (2 ^ i = p)) (fun _ vi => k - (intOf vi).toNat)
      case atStart => exact ⟨0, 1, by omega, by omega, rfl, rfl, Lib.hid rfl⟩
      case round =>
        obtain ⟨i, p, hik, hp, rfl, rfl, HE⟩ := hrel
        by_cases hlt : i < k
        · have hlt' : (i : Int) < k := by omega
          have hd := HD.out i hlt
          have HE2 : Hid (2 ^ (i + 1) = p * 2) := Lib.hid (by rw [hd.1, HE.out])
          have hp2 : p ≤ 128 := by rw [← HE.out]; exact hd.2
          clear hd HE
          go_wp2_with fail
          go_round
          case rel => exact ⟨i + 1, p * 2, by omega, by omega, by go_num, by go_num, HE2⟩
          case measure => first | (simp [intOf]; done) | (simp [intOf]; omega)
        · have hlt' : ¬ (i : Int) < k := by omega
          have hpP : p = P := by
            have : i = k := by omega
            rw [← HE.out, ← HPk.out, this]
          clear HE
          subst hpP
          have hp0 : (2 : Int) ≤ p := by omega
          have hp1 : (0 : Int) < p := by omega
          have hpne : ((p : Int) == 0) = false := by simp; omega
          have hpne2 : ¬ (p : Int) = 0 := by omega
          obtain ⟨q, hq⟩ : ∃ q, z % p = q := ⟨_, rfl⟩
          rw [hq] at HP
          have hq2 : ((z : Int) % (p : Int)) = (q : Int) := by rw [← hq]; exact (Int.natCast_emod z p).symm
          have hqp : q < p := by rw [← hq]; exact Nat.mod_lt _ (by omega)
          clear hq
          by_cases hlow : q < p - 1
          · have hlow' : (q : Int) < (p : Int) - 1 := by omega
            have hR : R = (q, 1, 0) := by rw [HP.out, if_pos hlow]
            subst hR
            clear HP hlow
            go_wp2_with fail
            go_ret3
            exact ⟨rfl, rfl⟩
          · have hlow' : ¬ (q : Int) < (p : Int) - 1 := by omega
            have HR : Hid (tkF 5 (r.drop 0) 1 q 1 = R) := Lib.hid (by rw [HP.out, if_neg hlow]; rfl)
            clear HP hlow
            go_wp2_with fail
            go_loop [9, 10, 11] (fun vn vt vj => ∃ (j f n t : Nat), 1 ≤ j ∧ j + f = 6 ∧ t ≤ 34359738368 ∧ n < 256 * t ∧ vj = .int .i64 j ∧ vn = .int .i64 n ∧ vt = .int .i64 t ∧ Hid (t = 128 ^ (j - 1)) ∧ Hid (tkF f (r.drop (j - 1)) j n t = R)) (fun _ _ vj => 6 - (intOf vj).toNat)
            case atStart => exact ⟨1, 5, q, 1, by omega, by omega, by omega, by omega, rfl, rfl, rfl, Lib.hid rfl, HR⟩
            case round =>
              clear HR HD HPk
              obtain ⟨j, f, n, t, hj, hjf, ht, hn, rfl, rfl, rfl, HTp, HF⟩ := hrel
              by_cases hj5 : j ≤ 5
              · have hj5' : (j : Int) ≤ 5 := by omega
                obtain ⟨f, rfl⟩ : ∃ x, f = x + 1 := ⟨f - 1, by omega⟩
                have ht4 : t ≤ 268435456 := by have h := pow_five (j - 1) (by omega); rw [HTp.out]; exact h
                by_cases hend : r.length ≤ j - 1
                · have hend' : (r.length : Int) + 1 ≤ j := by omega
                  have hR : R = (0, 0, 12) := by rw [← HF.out, List.drop_of_length_le hend, tkF_nil]
                  subst hR
                  clear HF HTp
                  go_wp2_with fail
                  go_ret3
                  exact ⟨rfl, rfl⟩
                · have hend' : ¬ (r.length : Int) + 1 ≤ j := by omega
                  have hlt : j - 1 < r.length := by omega
                  have hcell : w.cell? ⟨b, off + j, none⟩ = some (.int .u8 (r[j - 1].toNat : Int)) := by
                    have h := HC.out (j - 1) hlt
                    rwa [show j - 1 + 1 = j from by omega] at h
                  have hyb := r[j - 1].toNat_lt
                  have HF1 : Hid (tkF (f + 1) (r[j - 1] :: r.drop j) j n t = R) := Lib.hid (by
                    have h := HF.out
                    rw [List.drop_eq_getElem_cons hlt, show j - 1 + 1 = j from by omega] at h
                    exact h)
                  clear HF
                  have HF2 : Hid ((if r[j - 1].toNat < 128 then (if 2147483647 < n + t * (r[j - 1].toNat % 128) then (0, 0, 11) else (n + t * (r[j - 1].toNat % 128), j + 1, 0)) else tkF f (r.drop j) (j + 1) (n + t * (r[j - 1].toNat % 128)) (t * 128)) = R) := Lib.hid (by rw [← HF1.out, tkF_cons])
                  clear HF1
                  generalize r[j - 1].toNat = y at *
                  obtain ⟨m, hm⟩ : ∃ m, t * (y % 128) = m := ⟨_, rfl⟩
                  have hmz : (t : Int) * ((y : Int) % 128) = (m : Int) := by
                    rw [← hm, Int.natCast_mul, Int.natCast_emod]; rfl
                  have hmb : m ≤ t * 127 := by rw [← hm]; exact Nat.mul_le_mul_left _ (by omega)
                  rw [hm] at HF2
                  clear hm
                  have hj0 : (0 : Int) ≤ j := by omega
                  by_cases hy : y < 128
                  · have hy' : (y : Int) < 128 := by omega
                    by_cases hbig : 2147483647 < n + m
                    · have hbig' : (2147483647 : Int) < (n : Int) + m := by omega
                      have hR : R = (0, 0, 11) := by rw [← HF2.out, if_pos hy, if_pos hbig]
                      subst hR
                      clear HF2 HTp
                      go_wp2_with fail
                      go_ret3
                      exact ⟨rfl, rfl⟩
                    · have hbig' : ¬ (2147483647 : Int) < (n : Int) + m := by omega
                      have hR : R = (n + m, j + 1, 0) := by rw [← HF2.out, if_pos hy, if_neg hbig]
                      subst hR
                      clear HF2 HTp
                      go_wp2_with fail
                      go_ret3
                      exact ⟨ret_int3 (by omega) (by omega) rfl, rfl⟩
                  · have hy' : ¬ (y : Int) < 128 := by omega
                    have HF3 : Hid (tkF f (r.drop (j + 1 - 1)) (j + 1) (n + m) (t * 128) = R) := Lib.hid (by rw [← HF2.out, if_neg hy, Nat.add_sub_cancel])
                    have HTp2 : Hid (t * 128 = 128 ^ (j + 1 - 1)) := Lib.hid (by rw [HTp.out, Nat.add_sub_cancel, ← Nat.pow_succ, show (j - 1).succ = j from by omega])
                    clear HF2 HTp
                    go_wp2_with fail
                    go_round
                    case rel => exact ⟨j + 1, f, n + m, t * 128, by omega, by omega, by omega, by omega, by go_num, by go_num, by go_num, HTp2, HF3⟩
                    case measure => first | (simp [intOf]; done) | (simp [intOf]; omega)
              · have hj5' : ¬ (j : Int) ≤ 5 := by omega
                have hR : R = (0, 0, 11) := by
                  have hf0 : f = 0 := by omega
                  rw [← HF.out, hf0]; rfl
                subst hR
                clear HF HTp
                go_wp2_with fail
                go_ret3
                exact ⟨rfl, rfl⟩
end Go.Proofs.YtabpoejimnoamaaDoor
