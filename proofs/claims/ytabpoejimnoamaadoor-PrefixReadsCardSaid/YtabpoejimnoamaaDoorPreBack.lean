/- Layer 3 without the program: texts there and back; numbers with bytes more than they need. -/
import Derived.Test.YtabpoejimnoamaaDoorPrePure
namespace Go.Proofs.YtabpoejimnoamaaDoor
namespace Pre
open Huf

theorem putI_head (f k n : Nat) : ∃ m r, m < 2 ^ k ∧ putI f k n = UInt8.ofNat (f + m) :: r := by
  have := Nat.two_pow_pos k
  rw [putI]; split
  · rename_i h; exact ⟨n, [], by omega, rfl⟩
  · exact ⟨2 ^ k - 1, _, by omega, rfl⟩
theorem head_128 (n : Nat) (b : List UInt8) : 127 < ((putI 128 7 n ++ b).headD 0).toNat := by
  obtain ⟨m, r, hm, h⟩ := putI_head 128 7 n
  rw [h, List.cons_append, List.headD_cons, u8N _ (by omega)]; omega
theorem head_0 (n : Nat) (b : List UInt8) : ¬ 127 < ((putI 0 7 n ++ b).headD 0).toNat := by
  obtain ⟨m, r, hm, h⟩ := putI_head 0 7 n
  rw [h, List.cons_append, List.headD_cons, u8N _ (by omega)]; omega

theorem takeT_def (l : List UInt8) (n p : Nat) (h : takeN l 7 = (n, p, 0)) (hn : n ≤ 4096) (hl : p + n ≤ l.length) :
    takeT l = if 127 < (l.headD 0).toNat then (match dec ((l.drop p).take n) with
      | none => ([], 0, 10)
      | some u => if 4096 < u.length then ([], 0, 2) else (u, p + n, 0))
    else ((l.drop p).take n, p + n, 0) := by
  rw [takeT, h]
  simp only [ne_eq, not_true_eq_false, if_false]
  rw [if_neg (by omega), if_neg (by omega)]
  split <;> rfl
theorem takeT_few (l : List UInt8) (n p : Nat) (h : takeN l 7 = (n, p, 0)) (hn : n ≤ 4096) (hl : l.length < p + n) : takeT l = ([], 0, 12) := by
  rw [takeT, h]
  simp only [ne_eq, not_true_eq_false, if_false]
  rw [if_neg (by omega), if_pos (by omega)]
theorem takeT_bad (l : List UInt8) (n p e : Nat) (h : takeN l 7 = (n, p, e)) (he : e ≠ 0) : takeT l = ([], 0, e) := by
  rw [takeT, h, if_pos he]

theorem cut_mid (a x b : List UInt8) : ((a ++ (x ++ b)).drop a.length).take x.length = x := by simp

theorem takeT_putT (s b : List UInt8) (hs : s.length ≤ 4096) : takeT (putT s ++ b) = (s, (putT s).length, 0) := by
  rw [putT]
  split
  · rename_i h
    have hx : (enc s).length = sizeV s := by rw [enc_length]; rfl
    have ht := takeN_putI 128 7 (enc s).length (enc s ++ b) (by decide) (by decide) (by decide) (by decide) (by omega)
    rw [List.append_assoc, takeT_def _ _ _ ht (by omega) (by simp only [List.length_append]; omega), if_pos (head_128 _ _), cut_mid, dec_enc]
    simp only
    rw [if_neg (by omega), List.length_append]
  · have ht := takeN_putI 0 7 s.length (s ++ b) (by decide) (by decide) (by decide) (by decide) (by omega)
    rw [List.append_assoc, takeT_def _ _ _ ht (by omega) (by simp only [List.length_append]; omega), if_neg (head_0 _ _), cut_mid, List.length_append]

theorem takeT_cut (f : Nat) (x : List UInt8) (hx : x.length ≤ 4096) (hf : f < 256) (hfk : f % 2 ^ 7 = 0) : takeT (putI f 7 x.length ++ x).dropLast = ([], 0, 12) := by
  by_cases h0 : x = []
  · subst h0
    rw [List.append_nil]
    exact takeT_bad _ _ _ _ (takeN_short f 7 _ (by decide) (by decide) hf hfk (by simp)) (by decide)
  · rw [List.dropLast_append_of_ne_nil h0]
    have ht := takeN_putI f 7 x.length x.dropLast (by decide) (by decide) hf hfk (by omega)
    have hl : 0 < x.length := List.length_pos_iff.mpr h0
    exact takeT_few _ _ _ ht hx (by rw [List.length_append, List.length_dropLast]; omega)
theorem takeT_short (s : List UInt8) (hs : s.length ≤ 4096) : takeT (putT s).dropLast = ([], 0, 12) := by
  rw [putT]
  split
  · rename_i h
    have hx : (enc s).length = sizeV s := by rw [enc_length]; rfl
    exact takeT_cut 128 _ (by omega) (by decide) (by decide)
  · exact takeT_cut 0 _ hs (by decide) (by decide)
theorem putT_pos (s : List UInt8) : 1 ≤ (putT s).length := by
  rw [putT]; split
  · have := (putI_len 128 7 (enc s).length).1; rw [List.length_append]; omega
  · have := (putI_len 0 7 s.length).1; rw [List.length_append]; omega

/-- Flags' lower bits, one by one. -/
theorem flag_zero (f i : Nat) (h : f % 2 ^ i = 0) (h2 : f / 2 ^ i % 2 ≠ 1) : f % 2 ^ (i + 1) = 0 := by
  have h3 : f / 2 ^ i % 2 = 0 := by omega
  rw [Nat.pow_succ, Nat.mod_mul, h, h3, Nat.mul_zero]
theorem flag_one (f i k : Nat) (hi : i < k) (h : f / 2 ^ i % 2 = 1) : f % 2 ^ k ≠ 0 := by
  intro h0
  have h1 : f.testBit i = true := by rw [Nat.testBit_eq_decide_div_mod_eq, h]; rfl
  have h2 : (f % 2 ^ k).testBit i = f.testBit i := by rw [Nat.testBit_mod_two_pow]; simp [hi]
  rw [h0, h1] at h2
  simp at h2

/-- Bytes that say nothing more. -/
theorem tkF_zeros : ∀ (j f at' n t : Nat), n ≤ 2147483647 → tkF f (List.replicate j 128 ++ [0]) at' n t = if j < f then (n, at' + j + 1, 0) else (0, 0, 11)
  | 0, 0, at', n, t, hn => rfl
  | 0, f + 1, at', n, t, hn => by
    rw [List.replicate_zero, List.nil_append, tkF, if_pos (by decide), show (0 : UInt8).toNat % 128 = 0 from rfl, Nat.mul_zero, Nat.add_zero, if_neg (by omega), if_pos (by omega)]
  | j + 1, 0, at', n, t, hn => rfl
  | j + 1, f + 1, at', n, t, hn => by
    rw [List.replicate_succ, List.cons_append, tkF, if_neg (by decide), show (128 : UInt8).toNat % 128 = 0 from rfl, Nat.mul_zero, show n + 0 = n from rfl, tkF_zeros j f _ _ _ hn]
    by_cases h : j < f
    · rw [if_pos h, if_pos (by omega)]; congr 2; omega
    · rw [if_neg h, if_neg (by omega)]

/-- The last byte with its highest bit set. -/
def lastUp : List UInt8 → List UInt8
  | [] => []
  | [c] => [UInt8.ofNat (c.toNat + 128)]
  | c :: d :: r => c :: lastUp (d :: r)
theorem lastUp_len : ∀ l, (lastUp l).length = l.length
  | [] => rfl
  | [c] => rfl
  | c :: d :: r => by rw [lastUp, List.length_cons, lastUp_len (d :: r)]; rfl
theorem lastUp_cons (c : UInt8) (l : List UInt8) (h : l ≠ []) : lastUp (c :: l) = c :: lastUp l := by
  cases l with
  | nil => exact absurd rfl h
  | cons d r => rfl
theorem lastUp_set : ∀ (l : List UInt8) (h : 0 < l.length), lastUp l = l.set (l.length - 1) (UInt8.ofNat ((l[l.length - 1]'(by omega)).toNat + 128))
  | [c], _ => rfl
  | c :: d :: r, _ => by
    rw [lastUp, lastUp_set (d :: r) (by simp)]
    simp

theorem tailF_last : ∀ (g m : Nat) (d : UInt8), m < 128 ^ (g + 1) → ((tailF g m).getLast?.getD d).toNat < 128
  | 0, m, d, h => by rw [tailF]; simp; omega
  | g + 1, m, d, h => by
    rw [tailF]
    split
    · simp; omega
    · have hne : tailF g (m / 128) ≠ [] := by
        intro h0; have := tailF_pos g (m / 128); rw [h0] at this; simp at this
      have h2 := tailF_last g (m / 128) d (by rw [Nat.pow_succ] at h; omega)
      rw [List.getLast?_cons]
      cases hl : (tailF g (m / 128)).getLast? with
      | none => rw [List.getLast?_eq_none_iff] at hl; exact absurd hl hne
      | some x => rw [hl] at h2; simpa using h2
theorem putI_last (f k n : Nat) (hn : n ≤ 2147483647) (hl : (putI f k n).length ≠ 1) (h : (putI f k n).length - 1 < (putI f k n).length) : ((putI f k n)[(putI f k n).length - 1]'h).toNat < 128 := by
  by_cases hs : n < 2 ^ k - 1
  · rw [putI, if_pos hs] at hl; simp at hl
  · have he : putI f k n = UInt8.ofNat (f + (2 ^ k - 1)) :: tailF 4 (n - (2 ^ k - 1)) := by rw [putI, if_neg hs]
    have hne : tailF 4 (n - (2 ^ k - 1)) ≠ [] := by
      intro h0; have := tailF_pos 4 (n - (2 ^ k - 1)); rw [h0] at this; simp at this
    have h2 := tailF_last 4 (n - (2 ^ k - 1)) 0 (by omega)
    have h3 : (putI f k n)[(putI f k n).length - 1]'h = (putI f k n).getLast?.getD 0 := by
      rw [List.getLast?_eq_getElem?, List.getElem?_eq_getElem h]; rfl
    rw [h3, he, List.getLast?_cons]
    cases hl : (tailF 4 (n - (2 ^ k - 1))).getLast? with
    | none => rw [List.getLast?_eq_none_iff] at hl; exact absurd hl hne
    | some x => rw [hl] at h2; simpa using h2

theorem tkF_long (j : Nat) : ∀ (g m f at' n t : Nat), m < 128 ^ (g + 1) → n + t * m ≤ 2147483647 →
    tkF f (lastUp (tailF g m) ++ (List.replicate j 128 ++ [0])) at' n t = if (tailF g m).length + j < f then (n + t * m, at' + (tailF g m).length + j + 1, 0) else (0, 0, 11)
  | g, m, 0, at', n, t, hm, hb => by
    rw [if_neg (by omega)]
    rfl
  | 0, m, f + 1, at', n, t, hm, hb => by
    have h := u8N m (by omega)
    have h2 := u8N (m + 128) (by omega)
    rw [tailF, lastUp, h, List.singleton_append, tkF, h2, if_neg (by omega), show (m + 128) % 128 = m from by omega, tkF_zeros j f _ _ _ hb]
    simp only [List.length_singleton]
    by_cases hj : j < f
    · rw [if_pos hj, if_pos (by omega)]
    · rw [if_neg hj, if_neg (by omega)]
  | g + 1, m, f + 1, at', n, t, hm, hb => by
    rw [tailF]
    split
    · rename_i h1
      have h := u8N m (by omega)
      have h2 := u8N (m + 128) (by omega)
      rw [lastUp, h, List.singleton_append, tkF, h2, if_neg (by omega), show (m + 128) % 128 = m from by omega, tkF_zeros j f _ _ _ hb]
      simp only [List.length_singleton]
      by_cases hj : j < f
      · rw [if_pos hj, if_pos (by omega)]
      · rw [if_neg hj, if_neg (by omega)]
    · rename_i h1
      have h := u8N (m % 128 + 128) (by omega)
      have hne : tailF g (m / 128) ≠ [] := by
        intro h0; have := tailF_pos g (m / 128); rw [h0] at this; simp at this
      have hd : t * m = t * (m % 128) + t * 128 * (m / 128) := by
        have h := Nat.div_add_mod m 128
        calc t * m = t * (128 * (m / 128) + m % 128) := by rw [h]
          _ = t * (m % 128) + t * 128 * (m / 128) := by rw [Nat.mul_add, Nat.mul_assoc]; omega
      rw [lastUp_cons _ _ hne, List.cons_append, tkF, h, if_neg (by omega), show (m % 128 + 128) % 128 = m % 128 from by omega, tkF_long j g (m / 128) f _ _ _ (by rw [Nat.pow_succ] at hm; omega) (by omega), List.length_cons]
      by_cases hj : (tailF g (m / 128)).length + j < f
      · rw [if_pos hj, if_pos (by omega)]
        congr 1
        · omega
        · congr 1; omega
      · rw [if_neg hj, if_neg (by omega)]

theorem takeN_long (k n j : Nat) (h1 : 1 ≤ k) (h8 : k ≤ 8) (hn : n ≤ 2147483647) (hl : (putI 0 k n).length ≠ 1) :
    takeN (lastUp (putI 0 k n) ++ (List.replicate j 128 ++ [0])) k = if (putI 0 k n).length + j + 1 ≤ 6 then (n, (putI 0 k n).length + j + 1, 0) else (0, 0, 11) := by
  have hp := pow_bd k h1 h8
  by_cases h : n < 2 ^ k - 1
  · rw [putI, if_pos h] at hl; simp at hl
  · have he : putI 0 k n = UInt8.ofNat (0 + (2 ^ k - 1)) :: tailF 4 (n - (2 ^ k - 1)) := by rw [putI, if_neg h]
    have hne : tailF 4 (n - (2 ^ k - 1)) ≠ [] := by
      intro h0; have := tailF_pos 4 (n - (2 ^ k - 1)); rw [h0] at this; simp at this
    rw [he, lastUp_cons _ _ hne, List.cons_append, takeN, u8N _ (by omega), Nat.zero_add, Nat.mod_eq_of_lt (by omega), if_neg (by omega), tkF_long j 4 _ 5 1 _ 1 (by omega) (by omega), List.length_cons]
    by_cases hj : (tailF 4 (n - (2 ^ k - 1))).length + j < 5
    · rw [if_pos hj, if_pos (by omega)]
      congr 1
      · omega
      · congr 1; omega
    · rw [if_neg hj, if_neg (by omega)]
end Pre
end Go.Proofs.YtabpoejimnoamaaDoor
