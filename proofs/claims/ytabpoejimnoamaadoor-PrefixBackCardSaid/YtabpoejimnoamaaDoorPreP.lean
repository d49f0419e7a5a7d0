/- The contracts of layer 3's program: PutInt and TakeInt. -/
import Derived.Test.YtabpoejimnoamaaDoorRows
import Derived.Test.YtabpoejimnoamaaDoorPreBack
import Derived.Test.YtabpoejimnoamaaDoorMem
import Derived.Test.YtabpoejimnoamaaDoorMem2
import Derived.Test.YtabpoejimnoamaaDoorGen
import Derived.Test.YtabpoejimnoamaaDoorPre1
import Derived.Test.YtabpoejimnoamaaDoorPre2
import Derived.WalkKit
import Derived.WalkSpells
import Derived.WalkLawsBesides
import Derived.Lib.Hide
import Derived.Outline
import Derived.IntWalk
import Derived.Laws.BitsAllLaws
import Derived.Deep.QuietTactic
namespace Go.Proofs.YtabpoejimnoamaaDoor
open Go.RowKit
open Huf Pre Mem Gen
set_option linter.unusedVariables false

/-- What a call that makes a row of bytes, or tells why not, leaves. -/
def MadeE (w : World) (l : List UInt8) (err : Int) (e : Ending) (w' : World) : Prop :=
  ∃ (a : Option Addr) (cap : Nat), e = .returned (.tuple #[.slice a l.length cap, .int .i64 err]) ∧ Hid (w'.ownsRow w.heap.size 5 1 (.slice a l.length cap) l.length (bvs l)) ∧ Below w.heap.size w w'

theorem ones_any (k : Nat) (w : World) (h1 : 1 ≤ k) (h8 : k ≤ 8) :
    Calls Tryd.prog 24 #[.int .i64 k] w fun e w' => e = .returned (.int .u8 ((2 ^ k - 1 : Nat) : Int)) ∧ w = w' := by
  have : k = 1 ∨ k = 2 ∨ k = 3 ∨ k = 4 ∨ k = 5 ∨ k = 6 ∨ k = 7 ∨ k = 8 := by omega
  rcases this with rfl | rfl | rfl | rfl | rfl | rfl | rfl | rfl <;>
  · go_enter Tryd.func24, Tryd.ntmps24
    go_wp2_with fail
    go_ret
    exact ⟨rfl, rfl⟩

theorem sized_any (k : Int) (w : World) :
    Calls Tryd.prog 23 #[.int .i64 k] w fun e w' => e = .returned (.bool (decide (1 ≤ k ∧ k ≤ 8))) ∧ w = w' := by
  by_cases h : 1 ≤ k
  · by_cases h' : k ≤ 8
    · rw [decide_eq_true ⟨h, h'⟩]
      go_enter Tryd.func23, Tryd.ntmps23
      go_wp2_with fail
      go_ret
      exact ⟨rfl, rfl⟩
    · rw [decide_eq_false (fun x => h' x.2)]
      go_enter Tryd.func23, Tryd.ntmps23
      go_wp2_with fail
      go_ret
      exact ⟨rfl, rfl⟩
  · rw [decide_eq_false (fun x => h x.1)]
    go_enter Tryd.func23, Tryd.ntmps23
    go_wp2_with fail
    go_ret
    exact ⟨rfl, rfl⟩

theorem u8_or_flag (f k m : Nat) (h : f % 2 ^ k = 0) (hm : m < 2 ^ k) (hf : f < 256) (h1 : 1 ≤ k) (h8 : k ≤ 8) : bits .or .u8 (f : Int) (m : Int) = ((UInt8.ofNat (f + m)).toNat : Int) := by
  have hb := flag_mod f k m h hm hf h1 h8
  have h2 := pow_bd k h1 h8
  rw [u8_or_nat f m hf (by omega), nat_join k f m h hm, UInt8.toNat_ofNat', Nat.mod_eq_of_lt (by omega)]
theorem u8_or_128 (m : Nat) (hm : m < 4294967296) : bits .or .u8 128 (bits .and .u32 (m : Int) 127 % 256) = ((UInt8.ofNat (m % 128 + 128)).toNat : Int) := by
  have h1 : bits .and .u32 (m : Int) 127 = ((m % 128 : Nat) : Int) := by
    have h := u32_and_nat m 127 hm (by decide)
    rw [nat_mask7] at h
    exact h
  have h2 : bits .and .u32 (m : Int) 127 % 256 = ((m % 128 : Nat) : Int) := by rw [h1]; omega
  have h3 := u8_or_nat 128 (m % 128) (by decide) (by omega)
  rw [nat_join 7 128 (m % 128) (by decide) (by omega)] at h3
  rw [h2]
  refine h3.trans ?_
  rw [UInt8.toNat_ofNat', Nat.mod_eq_of_lt (show m % 128 + 128 < 2 ^ 8 by omega), Nat.add_comm]

set_option maxHeartbeats 2000000 in
theorem number_any (f k n : Nat) (w : World) (hf : f < 256) (h1 : 1 ≤ k) (h8 : k ≤ 8) (hfk : f % 2 ^ k = 0) (hn : n < 4294967296) :
    Calls Tryd.prog 15 #[.int .u8 f, .int .i64 k, .int .u32 n] w (MadeB w (putI f k n)) := by
  obtain ⟨i0, hi, hz0, hz1, hz2⟩ := info_parts info_u8
  have HI := Lib.hid hi
  have HZ0 := Lib.hid hz0
  have HZ1 := Lib.hid hz1
  have HZ2 := Lib.hid hz2
  clear hi hz0 hz1 hz2
  have hpb := pow_bd k h1 h8
  have HON := Lib.hid (fun v => ones_any k v h1 h8)
  have HOr := Lib.hid (fun m (hm : m < 2 ^ k) => u8_or_flag f k m hfk hm hf h1 h8)
  have HP : Hid (putI f k n = if n < 2 ^ k - 1 then [UInt8.ofNat (f + n)] else UInt8.ofNat (f + (2 ^ k - 1)) :: tailF 4 (n - (2 ^ k - 1))) := rfl
  generalize putI f k n = R at HP ⊢
  obtain ⟨P, hP⟩ : ∃ P, 2 ^ k = P + 1 := ⟨2 ^ k - 1, by omega⟩
  rw [hP, Nat.add_sub_cancel] at HON HP 
  rw [hP] at HOr hpb
  clear hP hfk
  have hP1 : 1 ≤ P := by omega
  have hP2 : P ≤ 255 := by omega
  clear hpb
  go_enter Tryd.func15, Tryd.ntmps15
  go_wp2_with fail
  refine (HON.out _).mono ?_; rintro e w1 ⟨rfl, rfl⟩
  by_cases hlow : n < P
  · have hlow' : (n : Int) < P := by omega
    have HR : Hid (R = [UInt8.ofNat (f + n)]) := Lib.hid (by rw [HP.out, if_pos hlow])
    have HO2 := Lib.hid (HOr.out n (by omega))
    clear HP hlow HOr
    go_wp2_with fail
    go_ret
    refine ⟨some ⟨w.heap.size, 0, none⟩, 1, by rw [HR.out]; rfl, Lib.hid ?_, (Below.refl _ _).alloc (Nat.le_refl _) _⟩
    rw [HR.out]
    exact made_one w _ _ HO2.out
  · have hlow' : ¬ (n : Int) < P := by omega
    have HR : Hid ([UInt8.ofNat (f + P)] ++ tailF 4 (n - P) = R) := Lib.hid (by rw [HP.out, if_neg hlow]; rfl)
    have hown := made_one w _ _ (HOr.out P (by omega))
    have Hown := Lib.hid hown
    have hsub : (n : Int) - (P : Int) = ((n - P : Nat) : Int) := by omega
    have HSub := Lib.hid hsub
    have HBn : Hid (n - P < 128 ^ 5) := Lib.hid (by omega)
    clear HP HOr hown hsub
    go_wp2_with fail
    rw [HSub.out]
    generalize hm0 : n - P = m0 at HR HBn ⊢
    have hm32 : m0 < 4294967296 := by omega
    have Hb0 : ∀ o, Below w.heap.size w (w.alloc o) := fun o => (Below.refl _ _).alloc (Nat.le_refl _) _
    have HB0 := Lib.hid Hb0
    clear hm0 HSub Hb0
    go_loopw [2, 8] (fun vn vo wr => ∃ (g m : Nat) (ad : Option Addr) (cp : Nat) (E : List UInt8), g ≤ 4 ∧ m < 4294967296 ∧ vn = .int .u32 m ∧ vo = .slice ad E.length cp ∧ E.length + g ≤ 5 ∧ Hid (m < 128 ^ (g + 1)) ∧ Hid (E ++ tailF g m = R) ∧ Hid (wr.ownsRow w.heap.size 5 1 (.slice ad E.length cp) E.length (bvs E)) ∧ Below w.heap.size w wr) (fun vn _ _ => (intOf vn).toNat)
    case atStart => exact ⟨4, m0, _, 1, [UInt8.ofNat (f + P)], by omega, hm32, rfl, rfl, by simp, HBn, HR, Hown, HB0.out _⟩
    case round =>
      clear HR Hown HB0 HBn
      obtain ⟨g, m, ad, cp, E, hg, hm, rfl, rfl, hE, HB, HF, HO, hbel⟩ := hrel
      have HBs := Lib.hid hbel.size
      have HLn : Hid (E.length + 1 ≤ 140737488355328) := Lib.hid (by omega)
      by_cases hbig : 127 < m
      · have hbig' : (127 : Int) < m := by omega
        obtain ⟨g, rfl⟩ : ∃ x, g = x + 1 := by
          refine ⟨g - 1, ?_⟩
          rcases Nat.eq_zero_or_pos g with h | h
          · subst h; have := HB.out; omega
          · omega
        have HF2 : Hid ((E ++ [UInt8.ofNat (m % 128 + 128)]) ++ tailF g (m / 128) = R) := Lib.hid (by
          have h := HF.out
          rw [tailF, if_neg (by omega)] at h
          simpa using h)
        have HB2 : Hid (m / 128 < 128 ^ (g + 1)) := Lib.hid (by have h := HB.out; rw [Nat.pow_succ] at h; omega)
        have HU := Lib.hid (u8_or_128 m hm)
        clear HF HB
        go_wp2_with (at_builtin; refine append_byte Tryd.underlying22 HI.out HZ0.out HZ1.out HZ2.out rfl _ _ rfl w.heap.size (.slice ad E.length cp) E (UInt8.ofNat (m % 128 + 128)) _ HU.out rfl HO.out rfl HLn.out HBs.out ?_; intro v1 w4 hown4 hb4)
        go_roundw
        case rel =>
          obtain ⟨ad4, cap4, rfl⟩ := own_form hown4.out
          exact ⟨g, m / 128, ad4, cap4, E ++ [UInt8.ofNat (m % 128 + 128)], by omega, by omega, by go_num, by rw [List.length_append]; rfl, by rw [List.length_append]; simp; omega, HB2, HF2, Lib.hid (by rw [List.length_append]; exact hown4.out), hb4 _ _ hbel (Nat.le_refl _)⟩
        case measure => first | (simp [intOf]; done) | (simp [intOf]; omega)
      · have hbig' : ¬ (127 : Int) < m := by omega
        have hR : R = E ++ [UInt8.ofNat m] := by
          rw [← HF.out]
          cases g with
          | zero => rfl
          | succ g => rw [tailF, if_pos (by omega)]
        have HU : Hid ((m : Int) = ((UInt8.ofNat m).toNat : Int)) := Lib.hid (by rw [UInt8.toNat_ofNat']; omega)
        have HRR := Lib.hid hR
        have HL3 : Hid (R.length ≤ 140737488355328) := Lib.hid (by rw [hR, List.length_append]; simp; omega)
        clear HF HB hR
        go_wp2_with (at_builtin; refine append_byte3 Tryd.underlying22 HI.out HZ0.out HZ1.out HZ2.out rfl _ _ rfl w.heap.size (.slice ad E.length cp) E (UInt8.ofNat m) _ HU.out rfl HO.out rfl R HRR.out HL3.out HBs.out ?_; intro ad4 cp4 w4 hown4 hb4)
        go_ret
        exact ⟨ad4, cp4, rfl, hown4, hb4 _ _ hbel (Nat.le_refl _)⟩

theorem pputint_ok (f k n : Nat) (w : World) (hf : f < 256) (h1 : 1 ≤ k) (h8 : k ≤ 8) (hfk : f % 2 ^ k = 0) (hn : n < 4294967296) :
    Calls Tryd.prog 12 #[.int .u8 f, .int .i64 k, .int .u32 n] w (MadeE w (putI f k n) 0) := by
  have HN := Lib.hid (fun v => number_any f k n v hf h1 h8 hfk hn)
  have HON := Lib.hid (fun v => ones_any k v h1 h8)
  have HS : Hid (∀ v, Calls Tryd.prog 23 #[.int .i64 k] v fun e w' => e = .returned (.bool true) ∧ v = w') := Lib.hid (fun v => by
    have h := sized_any k v
    rwa [decide_eq_true ⟨by omega, by omega⟩] at h)
  have hA : bits .and .u8 (f : Int) ((2 ^ k - 1 : Nat) : Int) = 0 := by
    have hp := pow_bd k h1 h8
    rw [u8_and_nat f _ hf (by omega), Nat.and_two_pow_sub_one_eq_mod, hfk]; rfl
  generalize ((2 ^ k - 1 : Nat) : Int) = P at HON hA
  generalize putI f k n = R at HN ⊢
  clear hfk
  go_enter Tryd.func12, Tryd.ntmps12
  go_wp2_with fail
  refine (HS.out _).mono ?_; rintro e w1 ⟨rfl, rfl⟩
  go_wp2_with fail
  refine (HON.out _).mono ?_; rintro e w1 ⟨rfl, rfl⟩
  go_wp2_with fail
  refine (HN.out _).mono ?_; rintro e w1 ⟨ad, cp, rfl, hown, hb⟩
  go_wp2_with fail
  go_ret2
  exact ⟨ad, cp, rfl, hown, hb⟩

theorem pputint_bad (f : Nat) (k : Int) (n : Nat) (w : World) (hf : f < 256) (hn : n < 4294967296) (h : k < 1 ∨ 8 < k ∨ f % 2 ^ k.toNat ≠ 0) :
    Calls Tryd.prog 12 #[.int .u8 f, .int .i64 k, .int .u32 n] w (MadeE w [] 1) := by
  have hE : Hid ((w : World).ownsRow w.heap.size 5 1 (.slice none ([] : List UInt8).length 0) ([] : List UInt8).length (bvs [])) := Lib.hid ⟨rfl, Or.inl ⟨rfl, rfl⟩⟩
  by_cases hk : 1 ≤ k ∧ k ≤ 8
  · obtain ⟨k, rfl⟩ := Int.eq_ofNat_of_zero_le (show 0 ≤ k by omega)
    rw [Int.toNat_natCast] at h
    have hfk : f % 2 ^ k ≠ 0 := by
      rcases h with h | h | h
      · omega
      · omega
      · exact h
    have h1 : 1 ≤ k := by omega
    have h8 : k ≤ 8 := by omega
    have HON := Lib.hid (fun v => ones_any k v h1 h8)
    have HS : Hid (∀ v, Calls Tryd.prog 23 #[.int .i64 k] v fun e w' => e = .returned (.bool true) ∧ v = w') := Lib.hid (fun v => by
      have h := sized_any k v
      rwa [decide_eq_true ⟨by omega, by omega⟩] at h)
    have hA : (bits .and .u8 (f : Int) ((2 ^ k - 1 : Nat) : Int) != 0) = true := by
      have hp := pow_bd k h1 h8
      rw [u8_and_nat f _ hf (by omega), Nat.and_two_pow_sub_one_eq_mod]; simpa using (by omega : ¬ ((f % 2 ^ k : Nat) : Int) = 0)
    generalize ((2 ^ k - 1 : Nat) : Int) = P at HON hA
    clear hfk h hk
    go_enter Tryd.func12, Tryd.ntmps12
    go_wp2_with fail
    refine (HS.out _).mono ?_; rintro e w1 ⟨rfl, rfl⟩
    go_wp2_with fail
    refine (HON.out _).mono ?_; rintro e w1 ⟨rfl, rfl⟩
    go_wp2_with fail
    go_ret2
    exact ⟨none, 0, rfl, hE, Below.refl _ _⟩
  · have HS : Hid (∀ v, Calls Tryd.prog 23 #[.int .i64 k] v fun e w' => e = .returned (.bool false) ∧ v = w') := Lib.hid (fun v => by
      have h := sized_any k v
      rwa [decide_eq_false hk] at h)
    clear h hk
    go_enter Tryd.func12, Tryd.ntmps12
    go_wp2_with fail
    refine (HS.out _).mono ?_; rintro e w1 ⟨rfl, rfl⟩
    go_wp2_with fail
    go_ret2
    exact ⟨none, 0, rfl, hE, Below.refl _ _⟩

/-- What is above a full prefix, at the bytes from the i-th on. -/
def moF : Nat → List UInt8 → Nat → Nat → Nat × Nat × Nat
  | 0, _, _, _ => (0, 0, 11)
  | _ + 1, [], _, _ => (0, 0, 12)
  | f + 1, c :: r, i, n => if c.toNat < 128 then (n + c.toNat % 128 * 2 ^ (7 * i), i + 1, 0) else moF f r (i + 1) (n + c.toNat % 128 * 2 ^ (7 * i))
theorem moF_cons (f : Nat) (c : UInt8) (r : List UInt8) (i n : Nat) : moF (f + 1) (c :: r) i n = if c.toNat < 128 then (n + c.toNat % 128 * 2 ^ (7 * i), i + 1, 0) else moF f r (i + 1) (n + c.toNat % 128 * 2 ^ (7 * i)) := rfl
theorem moF_bd : ∀ (f : Nat) (r : List UInt8) (i n : Nat), i + f = 5 → n < 2 ^ (7 * i) → (moF f r i n).1 < 34359738368 ∧ (moF f r i n).2.1 ≤ 5 ∧ (moF f r i n).2.2 ≤ 12
  | 0, _, _, _, _, _ => by simp [moF]
  | f + 1, [], _, _, _, _ => by simp [moF]
  | f + 1, c :: r, i, n, h, hn => by
    have hp : 2 ^ (7 * (i + 1)) = 2 ^ (7 * i) * 128 := by rw [show 7 * (i + 1) = 7 * i + 7 from by omega, Nat.pow_add]
    have hm : c.toNat % 128 * 2 ^ (7 * i) ≤ 127 * 2 ^ (7 * i) := Nat.mul_le_mul_right _ (by omega)
    have hq : n + c.toNat % 128 * 2 ^ (7 * i) < 2 ^ (7 * (i + 1)) := by omega
    rw [moF_cons]
    split
    · have h5 : 2 ^ (7 * (i + 1)) ≤ 2 ^ 35 := Nat.pow_le_pow_right (by decide) (by omega)
      refine ⟨?_, ?_, ?_⟩
      · show _ < _; exact Nat.lt_of_lt_of_le hq h5
      · show i + 1 ≤ 5; omega
      · exact Nat.zero_le _
    · exact moF_bd f r (i + 1) _ (by omega) hq

/-- What the document adds up, out of what the program does. -/
theorem tkF_moF : ∀ (f : Nat) (r : List UInt8) (i q n : Nat),
    tkF f r (i + 1) (q + n) (2 ^ (7 * i)) = if (moF f r i n).2.2 ≠ 0 then (0, 0, (moF f r i n).2.2) else if 2147483647 < q + (moF f r i n).1 then (0, 0, 11) else (q + (moF f r i n).1, 1 + (moF f r i n).2.1, 0)
  | 0, _, _, _, _ => by simp [tkF, moF]
  | f + 1, [], _, _, _ => by simp [tkF, moF]
  | f + 1, c :: r, i, q, n => by
    have hp : 2 ^ (7 * (i + 1)) = 2 ^ (7 * i) * 128 := by rw [show 7 * (i + 1) = 7 * i + 7 from by omega, Nat.pow_add]
    have hc : 2 ^ (7 * i) * (c.toNat % 128) = c.toNat % 128 * 2 ^ (7 * i) := Nat.mul_comm _ _
    rw [moF_cons, tkF_cons, hc]
    split
    · simp only [ne_eq, not_true_eq_false, if_false]
      rw [show q + n + c.toNat % 128 * 2 ^ (7 * i) = q + (n + c.toNat % 128 * 2 ^ (7 * i)) from by omega, show i + 1 + 1 = 1 + (i + 1) from by omega]
    · rw [show q + n + c.toNat % 128 * 2 ^ (7 * i) = q + (n + c.toNat % 128 * 2 ^ (7 * i)) from by omega, ← hp]
      exact tkF_moF f r (i + 1) q _

theorem i64_or_nat (a b : Nat) (ha : a < 9223372036854775808) (hb : b < 9223372036854775808) : bits .or .i64 (a : Int) (b : Int) = ((a ||| b : Nat) : Int) := by
  have hx : a ||| b < 2 ^ 63 := Nat.or_lt_two_pow (by omega) (by omega)
  show IntKind.i64.wrap ((BitVec.ofInt 64 (a : Int) ||| BitVec.ofInt 64 (b : Int)).toNat : Int) = _
  rw [BitVec.toNat_or, ofInt_u64 a (by omega), ofInt_u64 b (by omega)]
  exact IntWalk.i64_in _ (by omega)
theorem or_more (n c i : Nat) (hi : i ≤ 4) (hn : n < 2 ^ (7 * i)) (hc : c < 256) : bits .or .i64 (n : Int) (wrap64 (wrap64 (bits .and .u8 (c : Int) 127) * 2 ^ (7 * i))) = ((n + c % 128 * 2 ^ (7 * i) : Nat) : Int) := by
  have h1 : bits .and .u8 (c : Int) 127 = ((c % 128 : Nat) : Int) := by
    have h := u8_and_nat c 127 hc (by decide)
    rw [nat_mask7] at h
    exact h
  have h5 : 2 ^ (7 * i) ≤ 2 ^ 28 := Nat.pow_le_pow_right (by decide) (by omega)
  have hm : c % 128 * 2 ^ (7 * i) ≤ 127 * 2 ^ (7 * i) := Nat.mul_le_mul_right _ (by omega)
  have h2 : bits .and .u8 (c : Int) 127 * 2 ^ (7 * i) = ((c % 128 * 2 ^ (7 * i) : Nat) : Int) := by rw [h1, Int.natCast_mul, Int.natCast_pow]; rfl
  have h3 : wrap64 (wrap64 (bits .and .u8 (c : Int) 127) * 2 ^ (7 * i)) = ((c % 128 * 2 ^ (7 * i) : Nat) : Int) := by
    rw [IntWalk.wrap64_in (bits .and .u8 (c : Int) 127) (by rw [h1]; omega), h2]; exact IntWalk.wrap64_in _ (by omega)
  rw [h3, i64_or_nat _ _ (by omega) (by omega), Nat.or_comm, nat_join (7 * i) _ _ (by rw [Nat.mul_mod_left]) hn, Nat.add_comm]
theorem and_128 (c : Nat) (hc : c < 256) : bits .and .u8 (c : Int) 128 = if c < 128 then 0 else 128 := by
  have h := u8_and_nat c 128 hc (by decide)
  refine h.trans ?_
  have h2 := nat_bit 7 c
  rw [show (2 ^ 7 : Nat) = 128 from rfl] at h2
  rw [h2]
  split <;> omega

set_option maxHeartbeats 2000000 in
theorem more_any (a : Option Addr) (r : List UInt8) (cap : Nat) (w : World) (hl : r.length ≤ 9223372036854775807) (hr : RB w a r) :
    Calls Tryd.prog 25 #[.slice a r.length cap] w fun e w' => e = .returned (.tuple #[.int .i64 (moF 5 r 0 0).1, .int .i64 (moF 5 r 0 0).2.1, .int .i64 (moF 5 r 0 0).2.2]) ∧ w = w' := by
  have HR : Hid (moF 5 (r.drop 0) 0 0 = moF 5 r 0 0) := rfl
  generalize moF 5 r 0 0 = R at HR ⊢
  have HRB := Lib.hid hr
  clear hr
  go_enter Tryd.func25, Tryd.ntmps25
  go_wp2_with fail
  go_loop [5, 7] (fun vn vi => ∃ (i f n : Nat), i + f = 5 ∧ i ≤ r.length ∧ vi = .int .i64 i ∧ vn = .int .i64 n ∧ n < 34359738368 ∧ Hid (n < 2 ^ (7 * i)) ∧ Hid (moF f (r.drop i) i n = R)) (fun _ vi => 5 - (intOf vi).toNat)
  case atStart => exact ⟨0, 5, 0, by omega, by omega, rfl, rfl, by omega, Lib.hid (by decide), HR⟩
  case round =>
    clear HR
    obtain ⟨i, f, n, hif, hil, rfl, rfl, hn, HN, HF⟩ := hrel
    by_cases hlt : i < 5
    · obtain ⟨f, rfl⟩ : ∃ x, f = x + 1 := ⟨f - 1, by omega⟩
      by_cases hend : i < r.length
      · have hend' : ((i : Int) == r.length) = false := beq_eq_false_iff_ne.mpr (by omega)
        obtain ⟨b, off, ha, hc⟩ : ∃ b off, a = some ⟨b, off, none⟩ ∧ ∀ i, (h : i < r.length) → w.cell? ⟨b, off + i, none⟩ = some (.int .u8 (r[i].toNat : Int)) := by
          rcases HRB.out with h | h
          · rw [h] at hend; simp at hend
          · exact h
        subst ha
        have hcell := hc i hend
        have hcb := r[i].toNat_lt
        have HF1 : Hid (moF (f + 1) (r[i] :: r.drop (i + 1)) i n = R) := Lib.hid (by rw [← List.drop_eq_getElem_cons hend]; exact HF.out)
        have HF2 := HF1
        rw [moF_cons] at HF2
        have HOr := Lib.hid (or_more n r[i].toNat i (by omega) HN.out hcb)
        have hq : n + r[i].toNat % 128 * 2 ^ (7 * i) < 2 ^ (7 * (i + 1)) := by
          have hp : 2 ^ (7 * (i + 1)) = 2 ^ (7 * i) * 128 := by rw [show 7 * (i + 1) = 7 * i + 7 from by omega, Nat.pow_add]
          have hm : r[i].toNat % 128 * 2 ^ (7 * i) ≤ 127 * 2 ^ (7 * i) := Nat.mul_le_mul_right _ (by omega)
          have hn := HN.out
          omega
        have hq2 : n + r[i].toNat % 128 * 2 ^ (7 * i) < 34359738368 := Nat.lt_of_lt_of_le hq (by
          have h5 : 2 ^ (7 * (i + 1)) ≤ 2 ^ 35 := Nat.pow_le_pow_right (by decide) (by omega)
          exact h5)
        have HQ := Lib.hid hq
        have hAnd := and_128 r[i].toNat hcb
        clear hq HF HF1 HN hc
        generalize r[i].toNat = c at *
        generalize n + c % 128 * 2 ^ (7 * i) = m at *
        by_cases hc : c < 128
        · rw [if_pos hc] at HF2 hAnd
          have hz : (bits .and .u8 (c : Int) 128 == 0) = true := by rw [hAnd]; rfl
          have hR : R = (m, i + 1, 0) := HF2.out.symm
          subst hR
          clear HF2 hAnd
          go_wp2_with fail
          go_ret3
          exact ⟨ret_int3 HOr.out (by omega) rfl, rfl⟩
        · rw [if_neg hc] at HF2 hAnd
          have hz : (bits .and .u8 (c : Int) 128 == 0) = false := by rw [hAnd]; rfl
          clear hAnd
          go_wp2_with fail
          go_round
          case rel => exact ⟨i + 1, f, m, by omega, by omega, by go_num, by rw [HOr.out], hq2, HQ, HF2⟩
          case measure => first | (simp [intOf]; done) | (simp [intOf]; omega)
      · have hie : i = r.length := by omega
        have hR : R = (0, 0, 12) := by rw [← HF.out, List.drop_of_length_le (by omega)]; rfl
        subst hR
        subst hie
        clear HF HN hend
        go_wp2_with fail
        go_ret3
        exact ⟨rfl, rfl⟩
    · have hlt' : ¬ (i : Int) < 5 := by omega
      have hR : R = (0, 0, 11) := by
        have hf0 : f = 0 := by omega
        rw [← HF.out, hf0]; rfl
      subst hR
      clear HF HN
      go_wp2_with fail
      go_ret3
      exact ⟨rfl, rfl⟩

end Go.Proofs.YtabpoejimnoamaaDoor
