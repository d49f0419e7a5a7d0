/- Layer 3 without the program: numbers with a prefix, texts with their length, there and back. -/
import Derived.Test.YtabpoejimnoamaaDoorHufTree
namespace Go.Proofs.YtabpoejimnoamaaDoor
namespace Pre
open Huf

/-- What is above the prefix, seven bits a byte, the lowest ones first. -/
def tailF : Nat → Nat → List UInt8
  | 0, n => [UInt8.ofNat n]
  | f + 1, n => if n ≤ 127 then [UInt8.ofNat n] else UInt8.ofNat (n % 128 + 128) :: tailF f (n / 128)
/-- A number with a prefix of k bits behind flags. -/
def putI (f k n : Nat) : List UInt8 := if n < 2 ^ k - 1 then [UInt8.ofNat (f + n)] else UInt8.ofNat (f + (2 ^ k - 1)) :: tailF 4 (n - (2 ^ k - 1))

/-- The bytes behind the first one. -/
def tkF : Nat → List UInt8 → Nat → Nat → Nat → Nat × Nat × Nat
  | 0, _, _, _, _ => (0, 0, 11)
  | _ + 1, [], _, _, _ => (0, 0, 12)
  | f + 1, c :: r, at', n, t =>
    if c.toNat < 128 then (if 2147483647 < n + t * (c.toNat % 128) then (0, 0, 11) else (n + t * (c.toNat % 128), at' + 1, 0))
    else tkF f r (at' + 1) (n + t * (c.toNat % 128)) (t * 128)
/-- The number at the beginning of bytes. -/
def takeN (l : List UInt8) (k : Nat) : Nat × Nat × Nat :=
  match l with
  | [] => (0, 0, 12)
  | c :: r => if c.toNat % 2 ^ k < 2 ^ k - 1 then (c.toNat % 2 ^ k, 1, 0) else tkF 5 r 1 (c.toNat % 2 ^ k) 1
def takeI (l : List UInt8) (k : Int) : Nat × Nat × Nat := if k < 1 ∨ 8 < k then (0, 0, 1) else takeN l k.toNat

/-- A text with its length, as bits where these are fewer bytes. -/
def putT (s : List UInt8) : List UInt8 := if sizeV s < s.length then putI 128 7 (enc s).length ++ enc s else putI 0 7 s.length ++ s
/-- The text at the beginning of bytes. -/
def takeT (l : List UInt8) : List UInt8 × Nat × Nat :=
  if (takeN l 7).2.2 ≠ 0 then ([], 0, (takeN l 7).2.2)
  else if 4096 < (takeN l 7).1 then ([], 0, 2)
  else if (l.length : Int) - (takeN l 7).2.1 < (takeN l 7).1 then ([], 0, 12)
  else if 127 < (l.headD 0).toNat then
    match dec ((l.drop (takeN l 7).2.1).take (takeN l 7).1) with
    | none => ([], 0, 10)
    | some u => if 4096 < u.length then ([], 0, 2) else (u, (takeN l 7).2.1 + (takeN l 7).1, 0)
  else ((l.drop (takeN l 7).2.1).take (takeN l 7).1, (takeN l 7).2.1 + (takeN l 7).1, 0)

theorem tailF_pos : ∀ f n, 0 < (tailF f n).length
  | 0, n => by simp [tailF]
  | f + 1, n => by rw [tailF]; split <;> simp
theorem tailF_len : ∀ f n, (tailF f n).length ≤ f + 1
  | 0, n => by simp [tailF]
  | f + 1, n => by
    rw [tailF]; split
    · simp
    · rw [List.length_cons]; have := tailF_len f (n / 128); omega
theorem u8N (n : Nat) (h : n < 256) : (UInt8.ofNat n).toNat = n := by rw [UInt8.toNat_ofNat', Nat.mod_eq_of_lt (by omega)]

/-- What was written is read. -/
theorem tkF_tailF (b : List UInt8) : ∀ (g m f at' n t : Nat), m < 128 ^ (g + 1) → g < f → n + t * m ≤ 2147483647 →
    tkF f (tailF g m ++ b) at' n t = (n + t * m, at' + (tailF g m).length, 0)
  | 0, m, f, at', n, t, hm, hf, hb => by
    obtain ⟨f, rfl⟩ : ∃ x, f = x + 1 := ⟨f - 1, by omega⟩
    have h := u8N m (by omega)
    rw [tailF, List.singleton_append, tkF, h, if_pos (by omega), Nat.mod_eq_of_lt (by omega), if_neg (by omega)]; rfl
  | g + 1, m, f, at', n, t, hm, hf, hb => by
    obtain ⟨f, rfl⟩ : ∃ x, f = x + 1 := ⟨f - 1, by omega⟩
    rw [tailF]
    split
    · rename_i h1
      have h := u8N m (by omega)
      rw [List.singleton_append, tkF, h, if_pos (by omega), Nat.mod_eq_of_lt (by omega), if_neg (by omega)]; rfl
    · rename_i h1
      have h := u8N (m % 128 + 128) (by omega)
      have hd : t * m = t * (m % 128) + t * 128 * (m / 128) := by
        have h := Nat.div_add_mod m 128
        calc t * m = t * (128 * (m / 128) + m % 128) := by rw [h]
          _ = t * (m % 128) + t * 128 * (m / 128) := by rw [Nat.mul_add, Nat.mul_assoc]; omega
      rw [List.cons_append, tkF, h, if_neg (by omega), show (m % 128 + 128) % 128 = m % 128 from by omega, tkF_tailF b g (m / 128) f (at' + 1) _ _ (by rw [Nat.pow_succ] at hm; omega) (by omega) (by omega)]
      rw [List.length_cons]
      congr 1
      · omega
      · congr 1; omega
/-- Without the last byte it is short. -/
theorem tkF_short : ∀ (g m f at' n t : Nat), m < 128 ^ (g + 1) → g < f → tkF f (tailF g m).dropLast at' n t = (0, 0, 12)
  | 0, m, f, at', n, t, hm, hf => by
    obtain ⟨f, rfl⟩ : ∃ x, f = x + 1 := ⟨f - 1, by omega⟩
    rfl
  | g + 1, m, f, at', n, t, hm, hf => by
    obtain ⟨f, rfl⟩ : ∃ x, f = x + 1 := ⟨f - 1, by omega⟩
    rw [tailF]
    split
    · rfl
    · rename_i h1
      have h := u8N (m % 128 + 128) (by omega)
      have hne : tailF g (m / 128) ≠ [] := by
        intro h0; have := tailF_pos g (m / 128); rw [h0] at this; simp at this
      rw [List.dropLast_cons_of_ne_nil hne, tkF, h, if_neg (by omega), tkF_short g (m / 128) f _ _ _ (by rw [Nat.pow_succ] at hm; omega) (by omega)]

theorem pow_bd (k : Nat) (h1 : 1 ≤ k) (h8 : k ≤ 8) : 2 ≤ 2 ^ k ∧ 2 ^ k ≤ 256 := by
  have : k = 1 ∨ k = 2 ∨ k = 3 ∨ k = 4 ∨ k = 5 ∨ k = 6 ∨ k = 7 ∨ k = 8 := by omega
  rcases this with rfl | rfl | rfl | rfl | rfl | rfl | rfl | rfl <;> decide

/-- Flags whose lower bits are noughts. -/
theorem flag_mod (f k m : Nat) (h : f % 2 ^ k = 0) (hm : m < 2 ^ k) (hf : f < 256) (h1 : 1 ≤ k) (h8 : k ≤ 8) : f + m < 256 ∧ (f + m) % 2 ^ k = m := by
  have : k = 1 ∨ k = 2 ∨ k = 3 ∨ k = 4 ∨ k = 5 ∨ k = 6 ∨ k = 7 ∨ k = 8 := by omega
  rcases this with rfl | rfl | rfl | rfl | rfl | rfl | rfl | rfl <;> omega

theorem takeN_putI (f k n : Nat) (b : List UInt8) (h1 : 1 ≤ k) (h8 : k ≤ 8) (hf : f < 256) (hfk : f % 2 ^ k = 0) (hn : n ≤ 2147483647) :
    takeN (putI f k n ++ b) k = (n, (putI f k n).length, 0) := by
  have hp := pow_bd k h1 h8
  rw [putI]
  split
  · rename_i h
    have hm := flag_mod f k n hfk (by omega) hf h1 h8
    rw [List.singleton_append, takeN, u8N _ hm.1, hm.2, if_pos h]; rfl
  · rename_i h
    have hm := flag_mod f k (2 ^ k - 1) hfk (by omega) hf h1 h8
    rw [List.cons_append, takeN, u8N _ hm.1, hm.2, if_neg (by omega), tkF_tailF b 4 _ 5 1 _ 1 (by omega) (by omega) (by omega), List.length_cons]
    congr 1
    · omega
    · congr 1; omega
theorem takeN_short (f k n : Nat) (h1 : 1 ≤ k) (h8 : k ≤ 8) (hf : f < 256) (hfk : f % 2 ^ k = 0) (hn : n ≤ 2147483647) :
    takeN (putI f k n).dropLast k = (0, 0, 12) := by
  have hp := pow_bd k h1 h8
  rw [putI]
  split
  · rfl
  · rename_i h
    have hm := flag_mod f k (2 ^ k - 1) hfk (by omega) hf h1 h8
    have hne : tailF 4 (n - (2 ^ k - 1)) ≠ [] := by
      intro h0; have := tailF_pos 4 (n - (2 ^ k - 1)); rw [h0] at this; simp at this
    rw [List.dropLast_cons_of_ne_nil hne, takeN, u8N _ hm.1, hm.2, if_neg (by omega), tkF_short 4 _ 5 1 _ 1 (by omega) (by omega)]
theorem putI_len (f k n : Nat) : 1 ≤ (putI f k n).length ∧ (putI f k n).length ≤ 6 := by
  rw [putI]; split
  · simp
  · rw [List.length_cons]; have := tailF_len 4 (n - (2 ^ k - 1)); omega
theorem tkF_bd : ∀ (f : Nat) (r : List UInt8) (at' n t : Nat), (tkF f r at' n t).1 ≤ 2147483647 ∧ ((tkF f r at' n t).2.2 ≠ 0 → (tkF f r at' n t).1 = 0 ∧ (tkF f r at' n t).2.1 = 0) ∧
    ((tkF f r at' n t).2.2 = 0 → at' + 1 ≤ (tkF f r at' n t).2.1 ∧ (tkF f r at' n t).2.1 ≤ at' + r.length ∧ (tkF f r at' n t).2.1 ≤ at' + f) ∧ (tkF f r at' n t).2.2 ≤ 12
  | 0, _, _, _, _ => by simp [tkF]
  | f + 1, [], _, _, _ => by simp [tkF]
  | f + 1, c :: r, at', n, t => by
    rw [tkF]
    split
    · split
      · simp
      · rename_i h; simp; omega
    · have h := tkF_bd f r (at' + 1) (n + t * (c.toNat % 128)) (t * 128)
      refine ⟨h.1, h.2.1, fun h0 => ?_, h.2.2.2⟩
      have h3 := h.2.2.1 h0
      rw [List.length_cons]; omega
theorem takeN_bd (l : List UInt8) (k : Nat) (_h8 : k ≤ 8) : (takeN l k).1 ≤ 2147483647 ∧ ((takeN l k).2.2 ≠ 0 → (takeN l k).1 = 0 ∧ (takeN l k).2.1 = 0) ∧
    ((takeN l k).2.2 = 0 → 1 ≤ (takeN l k).2.1 ∧ (takeN l k).2.1 ≤ l.length ∧ (takeN l k).2.1 ≤ 6) ∧ (takeN l k).2.2 ≤ 12 := by
  cases l with
  | nil => simp [takeN]
  | cons c r =>
    rw [takeN]
    split
    · rename_i h
      have hc := c.toNat_lt
      have := Nat.mod_le c.toNat (2 ^ k)
      simp; omega
    · have h := tkF_bd 5 r 1 (c.toNat % 2 ^ k) 1
      refine ⟨h.1, h.2.1, fun h0 => ?_, h.2.2.2⟩
      have h3 := h.2.2.1 h0
      rw [List.length_cons]; omega
end Pre
end Go.Proofs.YtabpoejimnoamaaDoor
