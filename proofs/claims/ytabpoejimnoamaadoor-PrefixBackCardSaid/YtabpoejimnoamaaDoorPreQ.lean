/- The contract of layer 3's program: TakeInt. -/
import Derived.Test.YtabpoejimnoamaaDoorRows
import Derived.Test.YtabpoejimnoamaaDoorPreBack
import Derived.Test.YtabpoejimnoamaaDoorMem
import Derived.Test.YtabpoejimnoamaaDoorMem2
import Derived.Test.YtabpoejimnoamaaDoorGen
import Derived.Test.YtabpoejimnoamaaDoorPre1
import Derived.Test.YtabpoejimnoamaaDoorPre2
import Derived.Test.YtabpoejimnoamaaDoorPreP
import Derived.WalkKit
import Derived.WalkSpells
import Derived.WalkLawsBesides
import Derived.Lib.Hide
import Derived.Outline
import Derived.IntWalk
import Derived.Laws.BitsAllLaws
import Derived.Deep.QuietTactic
namespace Go.Proofs.YtabpoejimnoamaaDoor
open Go.RowKit
open Huf Pre Mem Gen
set_option linter.unusedVariables false

theorem RB.tail {w : World} {b off : Nat} {c : UInt8} {r : List UInt8} (h : ∀ i, (h : i < (c :: r).length) → w.cell? ⟨b, off + i, none⟩ = some (.int .u8 ((c :: r)[i].toNat : Int))) : RB w (some ⟨b, off + 1, none⟩) r :=
  Or.inr ⟨b, off + 1, rfl, fun i hi => by
    have := h (i + 1) (Nat.succ_lt_succ hi)
    rwa [show off + (i + 1) = off + 1 + i from by omega] at this⟩

set_option maxHeartbeats 4000000 in
theorem ptakeint_ok (b off : Nat) (c : UInt8) (r : List UInt8) (cap k : Nat) (w : World) (hl : (c :: r).length ≤ 9223372036854775807) (hcap : r.length + 1 ≤ cap) (hc1 : 1 < cap)
    (hc : ∀ i, (h : i < (c :: r).length) → w.cell? ⟨b, off + i, none⟩ = some (.int .u8 ((c :: r)[i].toNat : Int))) (h1 : 1 ≤ k) (h8 : k ≤ 8) :
    Calls Tryd.prog 13 #[.slice (some ⟨b, off, none⟩) (c :: r).length cap, .int .i64 k] w fun e w' => e = .returned (.tuple #[.int .i64 (takeN (c :: r) k).1, .int .i64 (takeN (c :: r) k).2.1, .int .i64 (takeN (c :: r) k).2.2]) ∧ Below w.heap.size w w' := by
  have hpb := pow_bd k h1 h8
  have HON := Lib.hid (fun v => ones_any k v h1 h8)
  have HS : Hid (∀ v, Calls Tryd.prog 23 #[.int .i64 k] v fun e w' => e = .returned (.bool true) ∧ v = w') := Lib.hid (fun v => by
    have h := sized_any k v
    rwa [decide_eq_true ⟨by omega, by omega⟩] at h)
  have hcb := c.toNat_lt
  have hc0 : w.cell? ⟨b, off, none⟩ = some (.int .u8 (c.toNat : Int)) := hc 0 (Nat.zero_lt_succ _)
  have HM : Hid (∀ v, Below w.heap.size w v → Calls Tryd.prog 25 #[.slice (some ⟨b, off + 1, none⟩) r.length (cap - 1)] v fun e w' => e = .returned (.tuple #[.int .i64 (moF 5 r 0 0).1, .int .i64 (moF 5 r 0 0).2.1, .int .i64 (moF 5 r 0 0).2.2]) ∧ v = w') :=
    Lib.hid (fun v hv => more_any (some ⟨b, off + 1, none⟩) r (cap - 1) v (by simp at hl; omega) ((RB.tail hc).below hv))
  have hmb := moF_bd 5 r 0 0 (by omega) (by decide)
  have HP : Hid (takeN (c :: r) k = if c.toNat % 2 ^ k < 2 ^ k - 1 then (c.toNat % 2 ^ k, 1, 0) else if (moF 5 r 0 0).2.2 ≠ 0 then (0, 0, (moF 5 r 0 0).2.2) else if 2147483647 < c.toNat % 2 ^ k + (moF 5 r 0 0).1 then (0, 0, 11) else (c.toNat % 2 ^ k + (moF 5 r 0 0).1, 1 + (moF 5 r 0 0).2.1, 0)) := Lib.hid (by
    rw [takeN_cons, ← tkF_moF]; rfl)
  have hA : bits .and .u8 (c.toNat : Int) ((2 ^ k - 1 : Nat) : Int) = ((c.toNat % 2 ^ k : Nat) : Int) := by
    rw [u8_and_nat _ _ hcb (by omega), Nat.and_two_pow_sub_one_eq_mod]
  have hqb : c.toNat % 2 ^ k < 2 ^ k := Nat.mod_lt _ (by omega)
  have HA := Lib.hid hA
  generalize takeN (c :: r) k = R at HP ⊢
  obtain ⟨P, hP⟩ : ∃ P, 2 ^ k = P + 1 := ⟨2 ^ k - 1, by omega⟩
  rw [hP, Nat.add_sub_cancel] at HON HP HA
  rw [hP] at hqb hpb
  generalize c.toNat % (P + 1) = q at *
  generalize moF 5 r 0 0 = M at *
  obtain ⟨m, s, e⟩ := M
  simp only at HP hmb HM
  have hlen : (c :: r).length = r.length + 1 := rfl
  rw [hlen] at hl ⊢
  generalize c.toNat = z at *
  clear hP hA hlen hc
  have hl0 : (((r.length : Int) + 1) == 0) = false := beq_eq_false_iff_ne.mpr (by omega)
  by_cases hq : q < P
  · have hq' : (q : Int) < P := by omega
    have hR : R = (q, 1, 0) := by rw [HP.out, if_pos hq]
    subst hR
    clear HP hq HM
    go_enter Tryd.func13, Tryd.ntmps13
    go_wp2_with fail
    refine (HS.out _).mono ?_; rintro e w1 ⟨rfl, rfl⟩
    go_wp2_with fail
    go_quiet ((go_at_call 24; exact quietL (HON.out _)))
    rw [HA.out]
    go_wp2_with fail
    refine (HON.out _).mono ?_; rintro e w1 ⟨rfl, rfl⟩
    go_wp2_with fail
    go_ret3
    exact ⟨rfl, below_drewN (Below.refl _ _) _⟩
  · have hq' : ¬ (q : Int) < P := by omega
    rw [if_neg hq] at HP
    clear hq
    by_cases he : e = 0
    · subst he
      by_cases hbig : 2147483647 < q + m
      · have hbig' : (2147483647 : Int) < (q : Int) + m := by omega
        have hR : R = (0, 0, 11) := by rw [HP.out, if_neg (by simp), if_pos hbig]
        subst hR
        clear HP
        go_enter Tryd.func13, Tryd.ntmps13
        go_wp2_with fail
        refine (HS.out _).mono ?_; rintro e w1 ⟨rfl, rfl⟩
        go_wp2_with fail
        go_quiet ((go_at_call 24; exact quietL (HON.out _)))
        rw [HA.out]
        go_wp2_with fail
        refine (HON.out _).mono ?_; rintro e w1 ⟨rfl, rfl⟩
        go_wp2_with fail
        refine (HM.out _ (below_drewN (Below.refl _ _) _)).mono ?_; rintro e w1 ⟨rfl, rfl⟩
        go_wp2_with fail
        go_ret3
        exact ⟨rfl, below_drewN (Below.refl _ _) _⟩
      · have hbig' : ¬ (2147483647 : Int) < (q : Int) + m := by omega
        have hR : R = (q + m, 1 + s, 0) := by rw [HP.out, if_neg (by simp), if_neg hbig]
        subst hR
        clear HP
        go_enter Tryd.func13, Tryd.ntmps13
        go_wp2_with fail
        refine (HS.out _).mono ?_; rintro e w1 ⟨rfl, rfl⟩
        go_wp2_with fail
        go_quiet ((go_at_call 24; exact quietL (HON.out _)))
        rw [HA.out]
        go_wp2_with fail
        refine (HON.out _).mono ?_; rintro e w1 ⟨rfl, rfl⟩
        go_wp2_with fail
        refine (HM.out _ (below_drewN (Below.refl _ _) _)).mono ?_; rintro e w1 ⟨rfl, rfl⟩
        go_wp2_with fail
        go_ret3
        exact ⟨ret_int3 (by omega) (by omega) rfl, below_drewN (Below.refl _ _) _⟩
    · have he' : ((e : Int) != 0) = true := by simp; omega
      have hR : R = (0, 0, e) := by rw [HP.out, if_pos he]
      subst hR
      clear HP he
      go_enter Tryd.func13, Tryd.ntmps13
      go_wp2_with fail
      refine (HS.out _).mono ?_; rintro e w1 ⟨rfl, rfl⟩
      go_wp2_with fail
      go_quiet ((go_at_call 24; exact quietL (HON.out _)))
      rw [HA.out]
      go_wp2_with fail
      refine (HON.out _).mono ?_; rintro e w1 ⟨rfl, rfl⟩
      go_wp2_with fail
      refine (HM.out _ (below_drewN (Below.refl _ _) _)).mono ?_; rintro e w1 ⟨rfl, rfl⟩
      go_wp2_with fail
      go_ret3
      exact ⟨rfl, below_drewN (Below.refl _ _) _⟩

set_option maxHeartbeats 4000000 in
theorem ptakeint_one (b off : Nat) (c : UInt8) (k : Nat) (w : World)
    (hc : ∀ i, (h : i < [c].length) → w.cell? ⟨b, off + i, none⟩ = some (.int .u8 ([c][i].toNat : Int))) (h1 : 1 ≤ k) (h8 : k ≤ 8) :
    Calls Tryd.prog 13 #[.slice (some ⟨b, off, none⟩) 1 1, .int .i64 k] w fun e w' => e = .returned (.tuple #[.int .i64 (takeN [c] k).1, .int .i64 (takeN [c] k).2.1, .int .i64 (takeN [c] k).2.2]) ∧ Below w.heap.size w w' := by
  have hpb := pow_bd k h1 h8
  have HON := Lib.hid (fun v => ones_any k v h1 h8)
  have HS : Hid (∀ v, Calls Tryd.prog 23 #[.int .i64 k] v fun e w' => e = .returned (.bool true) ∧ v = w') := Lib.hid (fun v => by
    have h := sized_any k v
    rwa [decide_eq_true ⟨by omega, by omega⟩] at h)
  have hcb := c.toNat_lt
  have hc0 : w.cell? ⟨b, off, none⟩ = some (.int .u8 (c.toNat : Int)) := hc 0 (Nat.zero_lt_succ _)
  have HM : Hid (∀ v, Calls Tryd.prog 25 #[.slice (some ⟨b, off, none⟩) 0 0] v fun e w' => e = .returned (.tuple #[.int .i64 0, .int .i64 0, .int .i64 12]) ∧ v = w') :=
    Lib.hid (fun v => more_any (some ⟨b, off, none⟩) [] 0 v (by simp) (Or.inl rfl))
  have HP : Hid (takeN [c] k = if c.toNat % 2 ^ k < 2 ^ k - 1 then (c.toNat % 2 ^ k, 1, 0) else (0, 0, 12)) := Lib.hid (by
    rw [takeN_cons]; rfl)
  have hA : bits .and .u8 (c.toNat : Int) ((2 ^ k - 1 : Nat) : Int) = ((c.toNat % 2 ^ k : Nat) : Int) := by
    rw [u8_and_nat _ _ hcb (by omega), Nat.and_two_pow_sub_one_eq_mod]
  have hqb : c.toNat % 2 ^ k < 2 ^ k := Nat.mod_lt _ (by omega)
  have HA := Lib.hid hA
  generalize takeN [c] k = R at HP ⊢
  obtain ⟨P, hP⟩ : ∃ P, 2 ^ k = P + 1 := ⟨2 ^ k - 1, by omega⟩
  rw [hP, Nat.add_sub_cancel] at HON HP HA
  rw [hP] at hqb hpb
  generalize c.toNat % (P + 1) = q at *
  generalize c.toNat = z at *
  clear hP hA hc
  by_cases hq : q < P
  · have hq' : (q : Int) < P := by omega
    have hR : R = (q, 1, 0) := by rw [HP.out, if_pos hq]
    subst hR
    clear HP hq HM
    go_enter Tryd.func13, Tryd.ntmps13
    go_wp2_with fail
    refine (HS.out _).mono ?_; rintro e w1 ⟨rfl, rfl⟩
    go_wp2_with fail
    go_quiet ((go_at_call 24; exact quietL (HON.out _)))
    rw [HA.out]
    go_wp2_with fail
    refine (HON.out _).mono ?_; rintro e w1 ⟨rfl, rfl⟩
    go_wp2_with fail
    go_ret3
    exact ⟨rfl, below_drewN (Below.refl _ _) _⟩
  · have hq' : ¬ (q : Int) < P := by omega
    have hR : R = (0, 0, 12) := by rw [HP.out, if_neg hq]
    subst hR
    clear HP hq
    go_enter Tryd.func13, Tryd.ntmps13
    go_wp2_with fail
    refine (HS.out _).mono ?_; rintro e w1 ⟨rfl, rfl⟩
    go_wp2_with fail
    go_quiet ((go_at_call 24; exact quietL (HON.out _)))
    rw [HA.out]
    go_wp2_with fail
    refine (HON.out _).mono ?_; rintro e w1 ⟨rfl, rfl⟩
    go_wp2_with fail
    refine (HM.out _).mono ?_; rintro e w1 ⟨rfl, rfl⟩
    go_wp2_with fail
    go_ret3
    exact ⟨rfl, below_drewN (Below.refl _ _) _⟩

theorem ptakeint_any (a : Option Addr) (l : List UInt8) (cap : Nat) (k : Int) (w : World) (hl : l.length ≤ 9223372036854775807) (hcap : l.length ≤ cap) (hr : RB w a l) :
    Calls Tryd.prog 13 #[.slice a l.length cap, .int .i64 k] w fun e w' => e = .returned (.tuple #[.int .i64 (takeI l k).1, .int .i64 (takeI l k).2.1, .int .i64 (takeI l k).2.2]) ∧ Below w.heap.size w w' := by
  by_cases h : k < 1 ∨ 8 < k
  · have HS : Hid (∀ v, Calls Tryd.prog 23 #[.int .i64 k] v fun e w' => e = .returned (.bool false) ∧ v = w') := Lib.hid (fun v => by
      have h' := sized_any k v
      rwa [decide_eq_false (by omega)] at h')
    have hT : takeI l k = (0, 0, 1) := by rw [takeI, if_pos h]
    rw [hT]
    clear hT h hr
    go_enter Tryd.func13, Tryd.ntmps13
    go_wp2_with fail
    refine (HS.out _).mono ?_; rintro e w1 ⟨rfl, rfl⟩
    go_wp2_with fail
    go_ret3
    exact ⟨rfl, Below.refl _ _⟩
  · obtain ⟨j, rfl⟩ := Int.eq_ofNat_of_zero_le (show 0 ≤ k by omega)
    have hT : takeI l j = takeN l j := by rw [takeI, if_neg h, Int.toNat_natCast]
    rw [hT]
    have h1 : 1 ≤ j := by omega
    have h8 : j ≤ 8 := by omega
    match l, hl, hcap, hr with
    | [], hl, hcap, hr =>
      have HS : Hid (∀ v, Calls Tryd.prog 23 #[.int .i64 j] v fun e w' => e = .returned (.bool true) ∧ v = w') := Lib.hid (fun v => by
        have h := sized_any j v
        rwa [decide_eq_true ⟨by omega, by omega⟩] at h)
      have hT : takeN [] j = (0, 0, 12) := rfl
      rw [hT]
      clear hT hr
      go_enter Tryd.func13, Tryd.ntmps13
      go_wp2_with fail
      refine (HS.out _).mono ?_; rintro e w1 ⟨rfl, rfl⟩
      go_wp2_with fail
      go_ret3
      exact ⟨rfl, Below.refl _ _⟩
    | c :: r, hl, hcap, hr =>
      rcases hr with h | ⟨b, off, rfl, hc⟩
      · cases h
      · by_cases hc1 : 1 < cap
        · exact ptakeint_ok b off c r cap j w hl hcap hc1 hc h1 h8
        · rw [List.length_cons] at hcap
          obtain rfl : r = [] := List.eq_nil_iff_length_eq_zero.mpr (by omega)
          obtain rfl : cap = 1 := by simp at hcap; omega
          exact ptakeint_one b off c j w hc h1 h8
end Go.Proofs.YtabpoejimnoamaaDoor
