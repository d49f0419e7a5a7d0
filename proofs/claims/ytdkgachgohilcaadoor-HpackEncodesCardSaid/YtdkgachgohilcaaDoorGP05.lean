/- Layer 3 without the program: texts there and back; numbers with bytes more than they need. Layer 4 without the program: fields, rows that never change, a table of rows that came. Layer 5 without the program: blocks of fields, written and read; what is written is read as it was, and both tables stay alike. -/
import Derived.Test.YtdkgachgohilcaaDoorGP04
import Derived.WalkKit
import Derived.Test.YtdkgachgohilcaaDoorGP01
import Derived.Test.YtdkgachgohilcaaDoorGP03
set_option linter.unusedVariables false
set_option linter.unusedSimpArgs false
namespace Go.Proofs.YtdkgachgohilcaaDoor
namespace Pre
open Huf

theorem putI_head (f k n : Nat) : ∃ m r, m < 2 ^ k ∧ putI f k n = UInt8.ofNat (f + m) :: r := by
  have := Nat.two_pow_pos k
  rw [putI]; split
  · rename_i h; exact ⟨n, [], by omega, rfl⟩
  · exact ⟨2 ^ k - 1, _, by omega, rfl⟩
theorem head_128 (n : Nat) (b : List UInt8) : 127 < ((putI 128 7 n ++ b).headD 0).toNat := by
  obtain ⟨m, r, hm, h⟩ := putI_head 128 7 n
  rw [h, List.cons_append, List.headD_cons, u8N _ (by omega)]; omega
theorem head_0 (n : Nat) (b : List UInt8) : ¬ 127 < ((putI 0 7 n ++ b).headD 0).toNat := by
  obtain ⟨m, r, hm, h⟩ := putI_head 0 7 n
  rw [h, List.cons_append, List.headD_cons, u8N _ (by omega)]; omega

theorem takeT_def (l : List UInt8) (n p : Nat) (h : takeN l 7 = (n, p, 0)) (hn : n ≤ 4096) (hl : p + n ≤ l.length) :
    takeT l = if 127 < (l.headD 0).toNat then (match dec ((l.drop p).take n) with
      | none => ([], 0, 10)
      | some u => if 4096 < u.length then ([], 0, 2) else (u, p + n, 0))
    else ((l.drop p).take n, p + n, 0) := by
  rw [takeT, h]
  simp only [ne_eq, not_true_eq_false, if_false]
  rw [if_neg (by omega), if_neg (by omega)]
  split <;> rfl
theorem takeT_few (l : List UInt8) (n p : Nat) (h : takeN l 7 = (n, p, 0)) (hn : n ≤ 4096) (hl : l.length < p + n) : takeT l = ([], 0, 12) := by
  rw [takeT, h]
  simp only [ne_eq, not_true_eq_false, if_false]
  rw [if_neg (by omega), if_pos (by omega)]
theorem takeT_bad (l : List UInt8) (n p e : Nat) (h : takeN l 7 = (n, p, e)) (he : e ≠ 0) : takeT l = ([], 0, e) := by
  rw [takeT, h, if_pos he]

theorem cut_mid (a x b : List UInt8) : ((a ++ (x ++ b)).drop a.length).take x.length = x := by simp

theorem takeT_putT (s b : List UInt8) (hs : s.length ≤ 4096) : takeT (putT s ++ b) = (s, (putT s).length, 0) := by
  rw [putT]
  split
  · rename_i h
    have hx : (enc s).length = sizeV s := by rw [enc_length]; rfl
    have ht := takeN_putI 128 7 (enc s).length (enc s ++ b) (by decide) (by decide) (by decide) (by decide) (by omega)
    rw [List.append_assoc, takeT_def _ _ _ ht (by omega) (by simp only [List.length_append]; omega), if_pos (head_128 _ _), cut_mid, dec_enc]
    simp only
    rw [if_neg (by omega), List.length_append]
  · have ht := takeN_putI 0 7 s.length (s ++ b) (by decide) (by decide) (by decide) (by decide) (by omega)
    rw [List.append_assoc, takeT_def _ _ _ ht (by omega) (by simp only [List.length_append]; omega), if_neg (head_0 _ _), cut_mid, List.length_append]

theorem takeT_cut (f : Nat) (x : List UInt8) (hx : x.length ≤ 4096) (hf : f < 256) (hfk : f % 2 ^ 7 = 0) : takeT (putI f 7 x.length ++ x).dropLast = ([], 0, 12) := by
  by_cases h0 : x = []
  · subst h0
    rw [List.append_nil]
    exact takeT_bad _ _ _ _ (takeN_short f 7 _ (by decide) (by decide) hf hfk (by simp)) (by decide)
  · rw [List.dropLast_append_of_ne_nil h0]
    have ht := takeN_putI f 7 x.length x.dropLast (by decide) (by decide) hf hfk (by omega)
    have hl : 0 < x.length := List.length_pos_iff.mpr h0
    exact takeT_few _ _ _ ht hx (by rw [List.length_append, List.length_dropLast]; omega)
theorem takeT_short (s : List UInt8) (hs : s.length ≤ 4096) : takeT (putT s).dropLast = ([], 0, 12) := by
  rw [putT]
  split
  · rename_i h
    have hx : (enc s).length = sizeV s := by rw [enc_length]; rfl
    exact takeT_cut 128 _ (by omega) (by decide) (by decide)
  · exact takeT_cut 0 _ hs (by decide) (by decide)
theorem putT_pos (s : List UInt8) : 1 ≤ (putT s).length := by
  rw [putT]; split
  · have := (putI_len 128 7 (enc s).length).1; rw [List.length_append]; omega
  · have := (putI_len 0 7 s.length).1; rw [List.length_append]; omega

/-- Flags' lower bits, one by one. -/
theorem flag_zero (f i : Nat) (h : f % 2 ^ i = 0) (h2 : f / 2 ^ i % 2 ≠ 1) : f % 2 ^ (i + 1) = 0 := by
  have h3 : f / 2 ^ i % 2 = 0 := by omega
  rw [Nat.pow_succ, Nat.mod_mul, h, h3, Nat.mul_zero]
theorem flag_one (f i k : Nat) (hi : i < k) (h : f / 2 ^ i % 2 = 1) : f % 2 ^ k ≠ 0 := by
  intro h0
  have h1 : f.testBit i = true := by rw [Nat.testBit_eq_decide_div_mod_eq, h]; rfl
  have h2 : (f % 2 ^ k).testBit i = f.testBit i := by rw [Nat.testBit_mod_two_pow]; simp [hi]
  rw [h0, h1] at h2
  simp at h2

/-- Bytes that say nothing more. -/
theorem tkF_zeros : ∀ (j f at' n t : Nat), n ≤ 2147483647 → tkF f (List.replicate j 128 ++ [0]) at' n t = if j < f then (n, at' + j + 1, 0) else (0, 0, 11)
  | 0, 0, at', n, t, hn => rfl
  | 0, f + 1, at', n, t, hn => by
    rw [List.replicate_zero, List.nil_append, tkF, if_pos (by decide), show (0 : UInt8).toNat % 128 = 0 from rfl, Nat.mul_zero, Nat.add_zero, if_neg (by omega), if_pos (by omega)]
  | j + 1, 0, at', n, t, hn => rfl
  | j + 1, f + 1, at', n, t, hn => by
    rw [List.replicate_succ, List.cons_append, tkF, if_neg (by decide), show (128 : UInt8).toNat % 128 = 0 from rfl, Nat.mul_zero, show n + 0 = n from rfl, tkF_zeros j f _ _ _ hn]
    by_cases h : j < f
    · rw [if_pos h, if_pos (by omega)]; congr 2; omega
    · rw [if_neg h, if_neg (by omega)]

/-- The last byte with its highest bit set. -/
def lastUp : List UInt8 → List UInt8
  | [] => []
  | [c] => [UInt8.ofNat (c.toNat + 128)]
  | c :: d :: r => c :: lastUp (d :: r)
theorem lastUp_len : ∀ l, (lastUp l).length = l.length
  | [] => rfl
  | [c] => rfl
  | c :: d :: r => by rw [lastUp, List.length_cons, lastUp_len (d :: r)]; rfl
theorem lastUp_cons (c : UInt8) (l : List UInt8) (h : l ≠ []) : lastUp (c :: l) = c :: lastUp l := by
  cases l with
  | nil => exact absurd rfl h
  | cons d r => rfl
theorem lastUp_set : ∀ (l : List UInt8) (h : 0 < l.length), lastUp l = l.set (l.length - 1) (UInt8.ofNat ((l[l.length - 1]'(by omega)).toNat + 128))
  | [c], _ => rfl
  | c :: d :: r, _ => by
    rw [lastUp, lastUp_set (d :: r) (by simp)]
    simp

theorem tailF_last : ∀ (g m : Nat) (d : UInt8), m < 128 ^ (g + 1) → ((tailF g m).getLast?.getD d).toNat < 128
  | 0, m, d, h => by rw [tailF]; simp; omega
  | g + 1, m, d, h => by
    rw [tailF]
    split
    · simp; omega
    · have hne : tailF g (m / 128) ≠ [] := by
        intro h0; have := tailF_pos g (m / 128); rw [h0] at this; simp at this
      have h2 := tailF_last g (m / 128) d (by rw [Nat.pow_succ] at h; omega)
      rw [List.getLast?_cons]
      cases hl : (tailF g (m / 128)).getLast? with
      | none => rw [List.getLast?_eq_none_iff] at hl; exact absurd hl hne
      | some x => rw [hl] at h2; simpa using h2
theorem putI_last (f k n : Nat) (hn : n ≤ 2147483647) (hl : (putI f k n).length ≠ 1) (h : (putI f k n).length - 1 < (putI f k n).length) : ((putI f k n)[(putI f k n).length - 1]'h).toNat < 128 := by
  by_cases hs : n < 2 ^ k - 1
  · rw [putI, if_pos hs] at hl; simp at hl
  · have he : putI f k n = UInt8.ofNat (f + (2 ^ k - 1)) :: tailF 4 (n - (2 ^ k - 1)) := by rw [putI, if_neg hs]
    have hne : tailF 4 (n - (2 ^ k - 1)) ≠ [] := by
      intro h0; have := tailF_pos 4 (n - (2 ^ k - 1)); rw [h0] at this; simp at this
    have h2 := tailF_last 4 (n - (2 ^ k - 1)) 0 (by omega)
    have h3 : (putI f k n)[(putI f k n).length - 1]'h = (putI f k n).getLast?.getD 0 := by
      rw [List.getLast?_eq_getElem?, List.getElem?_eq_getElem h]; rfl
    rw [h3, he, List.getLast?_cons]
    cases hl : (tailF 4 (n - (2 ^ k - 1))).getLast? with
    | none => rw [List.getLast?_eq_none_iff] at hl; exact absurd hl hne
    | some x => rw [hl] at h2; simpa using h2

theorem tkF_long (j : Nat) : ∀ (g m f at' n t : Nat), m < 128 ^ (g + 1) → n + t * m ≤ 2147483647 →
    tkF f (lastUp (tailF g m) ++ (List.replicate j 128 ++ [0])) at' n t = if (tailF g m).length + j < f then (n + t * m, at' + (tailF g m).length + j + 1, 0) else (0, 0, 11)
  | g, m, 0, at', n, t, hm, hb => by
    rw [if_neg (by omega)]
    rfl
  | 0, m, f + 1, at', n, t, hm, hb => by
    have h := u8N m (by omega)
    have h2 := u8N (m + 128) (by omega)
    rw [tailF, lastUp, h, List.singleton_append, tkF, h2, if_neg (by omega), show (m + 128) % 128 = m from by omega, tkF_zeros j f _ _ _ hb]
    simp only [List.length_singleton]
    by_cases hj : j < f
    · rw [if_pos hj, if_pos (by omega)]
    · rw [if_neg hj, if_neg (by omega)]
  | g + 1, m, f + 1, at', n, t, hm, hb => by
    rw [tailF]
    split
    · rename_i h1
      have h := u8N m (by omega)
      have h2 := u8N (m + 128) (by omega)
      rw [lastUp, h, List.singleton_append, tkF, h2, if_neg (by omega), show (m + 128) % 128 = m from by omega, tkF_zeros j f _ _ _ hb]
      simp only [List.length_singleton]
      by_cases hj : j < f
      · rw [if_pos hj, if_pos (by omega)]
      · rw [if_neg hj, if_neg (by omega)]
    · rename_i h1
      have h := u8N (m % 128 + 128) (by omega)
      have hne : tailF g (m / 128) ≠ [] := by
        intro h0; have := tailF_pos g (m / 128); rw [h0] at this; simp at this
      have hd : t * m = t * (m % 128) + t * 128 * (m / 128) := by
        have h := Nat.div_add_mod m 128
        calc t * m = t * (128 * (m / 128) + m % 128) := by rw [h]
          _ = t * (m % 128) + t * 128 * (m / 128) := by rw [Nat.mul_add, Nat.mul_assoc]; omega
      rw [lastUp_cons _ _ hne, List.cons_append, tkF, h, if_neg (by omega), show (m % 128 + 128) % 128 = m % 128 from by omega, tkF_long j g (m / 128) f _ _ _ (by rw [Nat.pow_succ] at hm; omega) (by omega), List.length_cons]
      by_cases hj : (tailF g (m / 128)).length + j < f
      · rw [if_pos hj, if_pos (by omega)]
        congr 1
        · omega
        · congr 1; omega
      · rw [if_neg hj, if_neg (by omega)]

theorem takeN_long (k n j : Nat) (h1 : 1 ≤ k) (h8 : k ≤ 8) (hn : n ≤ 2147483647) (hl : (putI 0 k n).length ≠ 1) :
    takeN (lastUp (putI 0 k n) ++ (List.replicate j 128 ++ [0])) k = if (putI 0 k n).length + j + 1 ≤ 6 then (n, (putI 0 k n).length + j + 1, 0) else (0, 0, 11) := by
  have hp := pow_bd k h1 h8
  by_cases h : n < 2 ^ k - 1
  · rw [putI, if_pos h] at hl; simp at hl
  · have he : putI 0 k n = UInt8.ofNat (0 + (2 ^ k - 1)) :: tailF 4 (n - (2 ^ k - 1)) := by rw [putI, if_neg h]
    have hne : tailF 4 (n - (2 ^ k - 1)) ≠ [] := by
      intro h0; have := tailF_pos 4 (n - (2 ^ k - 1)); rw [h0] at this; simp at this
    rw [he, lastUp_cons _ _ hne, List.cons_append, takeN, u8N _ (by omega), Nat.zero_add, Nat.mod_eq_of_lt (by omega), if_neg (by omega), tkF_long j 4 _ 5 1 _ 1 (by omega) (by omega), List.length_cons]
    by_cases hj : (tailF 4 (n - (2 ^ k - 1))).length + j < 5
    · rw [if_pos hj, if_pos (by omega)]
      congr 1
      · omega
      · congr 1; omega
    · rw [if_neg hj, if_neg (by omega)]
end Pre
end Go.Proofs.YtdkgachgohilcaaDoor

namespace Go.Proofs.YtdkgachgohilcaaDoor
open Go.RowKit
namespace Tab

/-- A field. -/
structure FdM where
  name : ByteArray
  value : ByteArray
  never : Bool
deriving DecidableEq

/-- How it lies in cells. -/
def EFd : Rw.Enc FdM where
  enc f := [.string f.name, .string f.value, .bool f.never]
  k := 3
  pos := by decide
  len _ := rfl
  one x v h := by
    simp only [List.mem_cons, List.not_mem_nil, or_false] at h
    rcases h with rfl | rfl | rfl <;> rfl
theorem CE_fd {w : World} {b o : Nat} {f : FdM} (h : Rw.CE EFd w b o f) : w.cell? ⟨b, o, none⟩ = some (.string f.name) ∧ w.cell? ⟨b, o + 1, none⟩ = some (.string f.value) ∧ w.cell? ⟨b, o + 2, none⟩ = some (.bool f.never) :=
  ⟨h 0 _ rfl, h 1 _ rfl, h 2 _ rfl⟩

/-- The rows that never change. -/
def statics : List FdM := [
  ⟨⟨#[58, 97, 117, 116, 104, 111, 114, 105, 116, 121]⟩, ⟨#[]⟩, false⟩,
  ⟨⟨#[58, 109, 101, 116, 104, 111, 100]⟩, ⟨#[71, 69, 84]⟩, false⟩,
  ⟨⟨#[58, 109, 101, 116, 104, 111, 100]⟩, ⟨#[80, 79, 83, 84]⟩, false⟩,
  ⟨⟨#[58, 112, 97, 116, 104]⟩, ⟨#[47]⟩, false⟩,
  ⟨⟨#[58, 112, 97, 116, 104]⟩, ⟨#[47, 105, 110, 100, 101, 120, 46, 104, 116, 109, 108]⟩, false⟩,
  ⟨⟨#[58, 115, 99, 104, 101, 109, 101]⟩, ⟨#[104, 116, 116, 112]⟩, false⟩,
  ⟨⟨#[58, 115, 99, 104, 101, 109, 101]⟩, ⟨#[104, 116, 116, 112, 115]⟩, false⟩,
  ⟨⟨#[58, 115, 116, 97, 116, 117, 115]⟩, ⟨#[50, 48, 48]⟩, false⟩,
  ⟨⟨#[58, 115, 116, 97, 116, 117, 115]⟩, ⟨#[50, 48, 52]⟩, false⟩,
  ⟨⟨#[58, 115, 116, 97, 116, 117, 115]⟩, ⟨#[50, 48, 54]⟩, false⟩,
  ⟨⟨#[58, 115, 116, 97, 116, 117, 115]⟩, ⟨#[51, 48, 52]⟩, false⟩,
  ⟨⟨#[58, 115, 116, 97, 116, 117, 115]⟩, ⟨#[52, 48, 48]⟩, false⟩,
  ⟨⟨#[58, 115, 116, 97, 116, 117, 115]⟩, ⟨#[52, 48, 52]⟩, false⟩,
  ⟨⟨#[58, 115, 116, 97, 116, 117, 115]⟩, ⟨#[53, 48, 48]⟩, false⟩,
  ⟨⟨#[97, 99, 99, 101, 112, 116, 45, 99, 104, 97, 114, 115, 101, 116]⟩, ⟨#[]⟩, false⟩,
  ⟨⟨#[97, 99, 99, 101, 112, 116, 45, 101, 110, 99, 111, 100, 105, 110, 103]⟩, ⟨#[103, 122, 105, 112, 44, 32, 100, 101, 102, 108, 97, 116, 101]⟩, false⟩,
  ⟨⟨#[97, 99, 99, 101, 112, 116, 45, 108, 97, 110, 103, 117, 97, 103, 101]⟩, ⟨#[]⟩, false⟩,
  ⟨⟨#[97, 99, 99, 101, 112, 116, 45, 114, 97, 110, 103, 101, 115]⟩, ⟨#[]⟩, false⟩,
  ⟨⟨#[97, 99, 99, 101, 112, 116]⟩, ⟨#[]⟩, false⟩,
  ⟨⟨#[97, 99, 99, 101, 115, 115, 45, 99, 111, 110, 116, 114, 111, 108, 45, 97, 108, 108, 111, 119, 45, 111, 114, 105, 103, 105, 110]⟩, ⟨#[]⟩, false⟩,
  ⟨⟨#[97, 103, 101]⟩, ⟨#[]⟩, false⟩,
  ⟨⟨#[97, 108, 108, 111, 119]⟩, ⟨#[]⟩, false⟩,
  ⟨⟨#[97, 117, 116, 104, 111, 114, 105, 122, 97, 116, 105, 111, 110]⟩, ⟨#[]⟩, false⟩,
  ⟨⟨#[99, 97, 99, 104, 101, 45, 99, 111, 110, 116, 114, 111, 108]⟩, ⟨#[]⟩, false⟩,
  ⟨⟨#[99, 111, 110, 116, 101, 110, 116, 45, 100, 105, 115, 112, 111, 115, 105, 116, 105, 111, 110]⟩, ⟨#[]⟩, false⟩,
  ⟨⟨#[99, 111, 110, 116, 101, 110, 116, 45, 101, 110, 99, 111, 100, 105, 110, 103]⟩, ⟨#[]⟩, false⟩,
  ⟨⟨#[99, 111, 110, 116, 101, 110, 116, 45, 108, 97, 110, 103, 117, 97, 103, 101]⟩, ⟨#[]⟩, false⟩,
  ⟨⟨#[99, 111, 110, 116, 101, 110, 116, 45, 108, 101, 110, 103, 116, 104]⟩, ⟨#[]⟩, false⟩,
  ⟨⟨#[99, 111, 110, 116, 101, 110, 116, 45, 108, 111, 99, 97, 116, 105, 111, 110]⟩, ⟨#[]⟩, false⟩,
  ⟨⟨#[99, 111, 110, 116, 101, 110, 116, 45, 114, 97, 110, 103, 101]⟩, ⟨#[]⟩, false⟩,
  ⟨⟨#[99, 111, 110, 116, 101, 110, 116, 45, 116, 121, 112, 101]⟩, ⟨#[]⟩, false⟩,
  ⟨⟨#[99, 111, 111, 107, 105, 101]⟩, ⟨#[]⟩, false⟩,
  ⟨⟨#[100, 97, 116, 101]⟩, ⟨#[]⟩, false⟩,
  ⟨⟨#[101, 116, 97, 103]⟩, ⟨#[]⟩, false⟩,
  ⟨⟨#[101, 120, 112, 101, 99, 116]⟩, ⟨#[]⟩, false⟩,
  ⟨⟨#[101, 120, 112, 105, 114, 101, 115]⟩, ⟨#[]⟩, false⟩,
  ⟨⟨#[102, 114, 111, 109]⟩, ⟨#[]⟩, false⟩,
  ⟨⟨#[104, 111, 115, 116]⟩, ⟨#[]⟩, false⟩,
  ⟨⟨#[105, 102, 45, 109, 97, 116, 99, 104]⟩, ⟨#[]⟩, false⟩,
  ⟨⟨#[105, 102, 45, 109, 111, 100, 105, 102, 105, 101, 100, 45, 115, 105, 110, 99, 101]⟩, ⟨#[]⟩, false⟩,
  ⟨⟨#[105, 102, 45, 110, 111, 110, 101, 45, 109, 97, 116, 99, 104]⟩, ⟨#[]⟩, false⟩,
  ⟨⟨#[105, 102, 45, 114, 97, 110, 103, 101]⟩, ⟨#[]⟩, false⟩,
  ⟨⟨#[105, 102, 45, 117, 110, 109, 111, 100, 105, 102, 105, 101, 100, 45, 115, 105, 110, 99, 101]⟩, ⟨#[]⟩, false⟩,
  ⟨⟨#[108, 97, 115, 116, 45, 109, 111, 100, 105, 102, 105, 101, 100]⟩, ⟨#[]⟩, false⟩,
  ⟨⟨#[108, 105, 110, 107]⟩, ⟨#[]⟩, false⟩,
  ⟨⟨#[108, 111, 99, 97, 116, 105, 111, 110]⟩, ⟨#[]⟩, false⟩,
  ⟨⟨#[109, 97, 120, 45, 102, 111, 114, 119, 97, 114, 100, 115]⟩, ⟨#[]⟩, false⟩,
  ⟨⟨#[112, 114, 111, 120, 121, 45, 97, 117, 116, 104, 101, 110, 116, 105, 99, 97, 116, 101]⟩, ⟨#[]⟩, false⟩,
  ⟨⟨#[112, 114, 111, 120, 121, 45, 97, 117, 116, 104, 111, 114, 105, 122, 97, 116, 105, 111, 110]⟩, ⟨#[]⟩, false⟩,
  ⟨⟨#[114, 97, 110, 103, 101]⟩, ⟨#[]⟩, false⟩,
  ⟨⟨#[114, 101, 102, 101, 114, 101, 114]⟩, ⟨#[]⟩, false⟩,
  ⟨⟨#[114, 101, 102, 114, 101, 115, 104]⟩, ⟨#[]⟩, false⟩,
  ⟨⟨#[114, 101, 116, 114, 121, 45, 97, 102, 116, 101, 114]⟩, ⟨#[]⟩, false⟩,
  ⟨⟨#[115, 101, 114, 118, 101, 114]⟩, ⟨#[]⟩, false⟩,
  ⟨⟨#[115, 101, 116, 45, 99, 111, 111, 107, 105, 101]⟩, ⟨#[]⟩, false⟩,
  ⟨⟨#[115, 116, 114, 105, 99, 116, 45, 116, 114, 97, 110, 115, 112, 111, 114, 116, 45, 115, 101, 99, 117, 114, 105, 116, 121]⟩, ⟨#[]⟩, false⟩,
  ⟨⟨#[116, 114, 97, 110, 115, 102, 101, 114, 45, 101, 110, 99, 111, 100, 105, 110, 103]⟩, ⟨#[]⟩, false⟩,
  ⟨⟨#[117, 115, 101, 114, 45, 97, 103, 101, 110, 116]⟩, ⟨#[]⟩, false⟩,
  ⟨⟨#[118, 97, 114, 121]⟩, ⟨#[]⟩, false⟩,
  ⟨⟨#[118, 105, 97]⟩, ⟨#[]⟩, false⟩,
  ⟨⟨#[119, 119, 119, 45, 97, 117, 116, 104, 101, 110, 116, 105, 99, 97, 116, 101]⟩, ⟨#[]⟩, false⟩]
theorem statics_len : statics.length = 61 := rfl

def cost (f : FdM) : Nat := f.name.size + f.value.size + 32
def csum : List FdM → Nat
  | [] => 0
  | f :: r => cost f + csum r
theorem csum_append (a b : List FdM) : csum (a ++ b) = csum a + csum b := by
  induction a with
  | nil => simp [csum]
  | cons f r ih => simp [csum, ih]; omega
theorem csum_len (l : List FdM) : 32 * l.length ≤ csum l := by
  induction l with
  | nil => simp [csum]
  | cons f r ih => simp [csum, cost]; omega
theorem csum_mem {l : List FdM} {f : FdM} (h : f ∈ l) : cost f ≤ csum l := by
  induction l with
  | nil => cases h
  | cons g r ih =>
    rcases List.mem_cons.mp h with rfl | h
    · simp [csum]
    · have := ih h; simp [csum]; omega
theorem csum_dropLast : ∀ l : List FdM, csum l.dropLast ≤ csum l
  | [] => Nat.le_refl _
  | [f] => by simp [csum]
  | f :: g :: r => by
    have := csum_dropLast (g :: r)
    rw [List.dropLast_cons_of_ne_nil (by simp)]
    simp only [csum] at this ⊢; omega
/-- The youngest first: the longest beginning that has room. -/
def fit (m : Nat) : List FdM → List FdM
  | [] => []
  | f :: r => if cost f ≤ m then f :: fit (m - cost f) r else []
theorem fit_sum : ∀ (l : List FdM) (m : Nat), csum (fit m l) ≤ m
  | [], _ => Nat.zero_le _
  | f :: r, m => by
    rw [fit]; split
    · have := fit_sum r (m - cost f); simp [csum]; omega
    · simp [csum]
theorem fit_all : ∀ (l : List FdM) (m : Nat), csum l ≤ m → fit m l = l
  | [], _, _ => rfl
  | f :: r, m, h => by
    simp only [csum] at h
    rw [fit, if_pos (by omega), fit_all r _ (by omega)]
theorem fit_cons (m : Nat) (f : FdM) (r : List FdM) : fit m (f :: r) = if cost f ≤ m then f :: fit (m - cost f) r else [] := rfl
/-- The oldest goes, as long as there is no room. -/
theorem fit_drop : ∀ (l : List FdM) (m : Nat), m < csum l → fit m l = fit m l.dropLast
  | [], _, h => by simp [csum] at h
  | [f], m, h => by simp [csum] at h; rw [fit, if_neg (by omega)]; rfl
  | f :: g :: r, m, h => by
    rw [List.dropLast_cons_of_ne_nil (by simp), fit_cons m f (g :: r), fit_cons m f (g :: r).dropLast]
    split
    · rw [fit_drop (g :: r) (m - cost f) (by simp only [csum] at h ⊢; omega)]
    · rfl
/-- A row comes. -/
def addT (m : Nat) (l : List FdM) (f : FdM) : List FdM := if m < cost f then [] else ⟨f.name, f.value, false⟩ :: fit (m - cost f) l
theorem addT_sum (m : Nat) (l : List FdM) (f : FdM) : csum (addT m l f) ≤ m := by
  rw [addT]; split
  · simp [csum]
  · have := fit_sum l (m - cost f)
    have h : cost ⟨f.name, f.value, false⟩ = cost f := rfl
    simp only [csum, h]; omega
/-- The row with a number, and why there is none. -/
def atT (rows : List FdM) (n : Int) : FdM × Nat :=
  if 1 ≤ n ∧ n ≤ 61 then (statics.getD (n.toNat - 1) ⟨ByteArray.empty, ByteArray.empty, false⟩, 0)
  else if n ≤ 61 ∨ rows.length < n - 61 then (⟨ByteArray.empty, ByteArray.empty, false⟩, 40)
  else (rows.getD (n.toNat - 62) ⟨ByteArray.empty, ByteArray.empty, false⟩, 0)
/-- The least number of a row like it, or of its name. -/
def findF (f : FdM) : List FdM → Nat → Nat → Nat × Bool
  | [], _, near => (near, false)
  | x :: r, i, near => if x.name = f.name then (if x.value = f.value then (i + 1, true) else findF f r (i + 1) (if near = 0 then i + 1 else near)) else findF f r (i + 1) near
theorem findF_cons (f x : FdM) (r : List FdM) (i near : Nat) : findF f (x :: r) i near = if x.name = f.name then (if x.value = f.value then (i + 1, true) else findF f r (i + 1) (if near = 0 then i + 1 else near)) else findF f r (i + 1) near := rfl
def findT (rows : List FdM) (f : FdM) : Nat × Bool := findF f (statics ++ rows) 0 0
theorem statics_never : ∀ x ∈ statics, x.never = false := by decide
/-- What findF comes to, from a place on: near is the least number of a row of that name so far, none of them is like it. -/
theorem findF_spec (f : FdM) (al : List FdM) : ∀ (r : List FdM) (i near : Nat), r = al.drop i → (near = 0 ∨ (near ≤ i ∧ ∃ x, al[near - 1]? = some x ∧ x.name = f.name ∧ x.value ≠ f.value)) → i ≤ al.length →
    ((findF f r i near).1 = 0 ∧ (findF f r i near).2 = false) ∨ (1 ≤ (findF f r i near).1 ∧ (findF f r i near).1 ≤ al.length ∧ ∃ x, al[(findF f r i near).1 - 1]? = some x ∧ x.name = f.name ∧ (x.value = f.value ↔ (findF f r i near).2 = true))
  | [], i, near, hr, hn, hi => by
    simp only [findF]
    rcases hn with h | ⟨h, x, hx, hx1, hx2⟩
    · exact .inl ⟨h, trivial⟩
    · rcases Nat.eq_zero_or_pos near with h0 | h0
      · exact .inl ⟨h0, trivial⟩
      · refine .inr ⟨h0, by omega, x, hx, hx1, ?_⟩
        simp [hx2]
  | y :: r, i, near, hr, hn, hi => by
    have hlt : i < al.length := by
      rcases Nat.lt_or_ge i al.length with h | h
      · exact h
      · rw [List.drop_of_length_le h] at hr; cases hr
    rw [List.drop_eq_getElem_cons hlt] at hr
    simp only [List.cons.injEq] at hr
    obtain ⟨hy, hr'⟩ := hr
    have hy2 : al[i]? = some y := by rw [List.getElem?_eq_getElem hlt, hy]
    rw [findF_cons]
    split
    · rename_i hnm
      split
      · rename_i hv
        refine .inr ⟨by simp, by simp; omega, y, by simpa using hy2, hnm, ?_⟩
        simp [hv]
      · rename_i hv
        refine findF_spec f al r (i + 1) _ hr' ?_ hlt
        split
        · exact .inr ⟨Nat.le_refl _, y, by simpa using hy2, hnm, hv⟩
        · rename_i h0
          rcases hn with h | ⟨h, x, hx⟩
          · exact absurd h h0
          · exact .inr ⟨by omega, x, hx⟩
    · refine findF_spec f al r (i + 1) near hr' ?_ hlt
      rcases hn with h | ⟨h, x, hx⟩
      · exact .inl h
      · exact .inr ⟨by omega, x, hx⟩
theorem atT_all (rows : List FdM) (n : Nat) (x : FdM) (h1 : 1 ≤ n) (hx : (statics ++ rows)[n - 1]? = some x) : atT rows n = (x, 0) := by
  by_cases h : n ≤ 61
  · rw [List.getElem?_append_left (by rw [statics_len]; omega)] at hx
    rw [atT, if_pos (by omega), Int.toNat_natCast, List.getD_eq_getElem?_getD, hx]; rfl
  · rw [List.getElem?_append_right (by rw [statics_len]; omega), statics_len] at hx
    have hlt := (List.getElem?_eq_some_iff.1 hx).1
    rw [atT, if_neg (by omega), if_neg (by omega), Int.toNat_natCast, List.getD_eq_getElem?_getD, show n - 62 = n - 1 - 61 from by omega, hx]; rfl
theorem find_spec (rows : List FdM) (f : FdM) (hnev : ∀ x ∈ rows, x.never = false) :
    ((findT rows f).1 = 0 ∧ (findT rows f).2 = false) ∨ (1 ≤ (findT rows f).1 ∧ (findT rows f).1 ≤ 61 + rows.length ∧ ∃ x, atT rows (findT rows f).1 = (x, 0) ∧ x.name = f.name ∧ x.never = false ∧ (x.value = f.value ↔ (findT rows f).2 = true)) := by
  have h := findF_spec f (statics ++ rows) (statics ++ rows) 0 0 rfl (.inl rfl) (Nat.zero_le _)
  rcases h with h | ⟨h1, h2, x, hx, hn, hv⟩
  · exact .inl h
  · refine .inr ⟨h1, by rw [List.length_append, statics_len] at h2; exact h2, x, atT_all rows _ x h1 hx, hn, ?_, hv⟩
    have := List.mem_of_getElem? hx
    rcases List.mem_append.mp this with h | h
    · exact statics_never x h
    · exact hnev x h
theorem fit_mem : ∀ {l : List FdM} {m : Nat} {x : FdM}, x ∈ fit m l → x ∈ l
  | f :: r, m, x, h => by
    rw [fit] at h
    split at h
    · rcases List.mem_cons.mp h with rfl | h
      · exact List.mem_cons_self ..
      · exact List.mem_cons_of_mem _ (fit_mem h)
    · cases h
theorem addT_never {m : Nat} {l : List FdM} {f : FdM} (h : ∀ x ∈ l, x.never = false) : ∀ x ∈ addT m l f, x.never = false := fun x hx => by
  rw [addT] at hx
  split at hx
  · cases hx
  · rcases List.mem_cons.mp hx with rfl | hx
    · rfl
    · exact h x (fit_mem hx)
end Tab
end Go.Proofs.YtdkgachgohilcaaDoor

namespace Go.Proofs.YtdkgachgohilcaaDoor
namespace Hpk
open Huf Pre Tab

def txt (s : ByteArray) : List UInt8 := s.data.toList
def ofT (l : List UInt8) : ByteArray := ⟨l.toArray⟩
theorem ofT_txt (s : ByteArray) : ofT (txt s) = s := by cases s; simp [ofT, txt]
/-- Of how many bits a part's number is, by its first byte. -/
def bitsOf (c : Nat) : Nat := if 127 < c then 7 else if 63 < c then 6 else if 31 < c then 5 else 4
def noF : FdM := ⟨ByteArray.empty, ByteArray.empty, false⟩
def litV (b : List UInt8) (name : ByteArray) : Nat × FdM × List UInt8 := ((takeT b).2.2, ⟨name, ofT (takeT b).1, false⟩, b.drop (takeT b).2.1)
/-- A field that is written out: its number was read. -/
def litM (rows : List FdM) (b : List UInt8) (n : Nat) : Nat × FdM × List UInt8 :=
  if 0 < n then (if (atT rows n).2 ≠ 0 then ((atT rows n).2, noF, b) else litV b (atT rows n).1.name)
  else if (takeT b).2.2 ≠ 0 then ((takeT b).2.2, noF, b) else litV (b.drop (takeT b).2.1) (ofT (takeT b).1)

/-- A block is read: the error and the fields, the table behind it, whether the decoder is of no use any more. -/
def decF (mostD listD : Nat) : Nat → List UInt8 → List FdM → Nat → Nat → Nat → List FdM → (Nat × List FdM) × (Nat × List FdM) × Bool
  | 0, _, _, _, _, m, rows => ((0, []), (m, rows), true)
  | _ + 1, [], out, cst, _, m, rows => if listD < cst then ((51, []), (m, rows), false) else ((0, out), (m, rows), false)
  | F + 1, c :: r, out, cst, sizes, m, rows =>
    if (takeN (c :: r) (bitsOf c.toNat)).2.2 ≠ 0 then (((takeN (c :: r) (bitsOf c.toNat)).2.2, []), (m, rows), true)
    else if bitsOf c.toNat = 5 then
      (if 0 < out.length ∨ 2 < sizes + 1 ∨ mostD < (takeN (c :: r) (bitsOf c.toNat)).1 then ((50, []), (m, rows), true)
       else decF mostD listD F ((c :: r).drop (takeN (c :: r) (bitsOf c.toNat)).2.1) out cst (sizes + 1) (takeN (c :: r) (bitsOf c.toNat)).1 (fit (takeN (c :: r) (bitsOf c.toNat)).1 rows))
    else if bitsOf c.toNat = 7 then
      (if (atT rows (takeN (c :: r) (bitsOf c.toNat)).1).2 ≠ 0 then (((atT rows (takeN (c :: r) (bitsOf c.toNat)).1).2, []), (m, rows), true)
       else decF mostD listD F ((c :: r).drop (takeN (c :: r) (bitsOf c.toNat)).2.1) (out ++ [(atT rows (takeN (c :: r) (bitsOf c.toNat)).1).1]) (cst + cost (atT rows (takeN (c :: r) (bitsOf c.toNat)).1).1) sizes m rows)
    else match litM rows ((c :: r).drop (takeN (c :: r) (bitsOf c.toNat)).2.1) (takeN (c :: r) (bitsOf c.toNat)).1 with
      | (e, f, rest) => if e ≠ 0 then ((e, []), (m, rows), true)
        else decF mostD listD F rest (out ++ [⟨f.name, f.value, decide (c.toNat / 16 = 1)⟩]) (cst + cost f) sizes m (if bitsOf c.toNat = 6 then addT m rows ⟨f.name, f.value, decide (c.toNat / 16 = 1)⟩ else rows)

/-- Fields that never come into a table. -/
def nevF (f : FdM) : Bool := f.never || decide (f.name = ⟨#[97, 117, 116, 104, 111, 114, 105, 122, 97, 116, 105, 111, 110]⟩) || decide (f.name = ⟨#[115, 101, 116, 45, 99, 111, 111, 107, 105, 101]⟩)
/-- One field is written; the rows behind it. -/
def encField (m : Nat) (rows : List FdM) (f : FdM) : List UInt8 × List FdM :=
  if (findT rows f).2 = true ∧ nevF f = false then (putI 128 7 (findT rows f).1, rows)
  else if nevF f = false ∧ cost f ≤ m then (putI 64 6 (findT rows f).1 ++ ((if (findT rows f).1 = 0 then putT (txt f.name) else []) ++ putT (txt f.value)), addT m rows f)
  else (putI (if nevF f then 16 else 0) 4 (findT rows f).1 ++ ((if (findT rows f).1 = 0 then putT (txt f.name) else []) ++ putT (txt f.value)), rows)
def encList (m : Nat) : List FdM → List FdM → List UInt8 × List FdM
  | [], rows => ([], rows)
  | f :: q, rows => ((encField m rows f).1 ++ (encList m q (encField m rows f).2).1, (encList m q (encField m rows f).2).2)
/-- Sizes are told ahead of a block. -/
def hdr (told least now : Nat) : List UInt8 := if least < told ∧ least < now then putI 32 5 least ++ putI 32 5 now else if now ≠ told then putI 32 5 now else []

theorem head_bits (fl k n : Nat) (b : List UInt8) (h : (fl = 128 ∧ k = 7) ∨ (fl = 64 ∧ k = 6) ∨ (fl = 32 ∧ k = 5) ∨ (fl = 16 ∧ k = 4) ∨ (fl = 0 ∧ k = 4)) :
    ∃ c r, putI fl k n ++ b = c :: r ∧ bitsOf c.toNat = k ∧ (c.toNat / 16 = 1 ↔ fl = 16) := by
  obtain ⟨m, r, hm, he⟩ := putI_head fl k n
  have hc : (UInt8.ofNat (fl + m)).toNat = fl + m := u8N _ (by rcases h with ⟨rfl, rfl⟩ | ⟨rfl, rfl⟩ | ⟨rfl, rfl⟩ | ⟨rfl, rfl⟩ | ⟨rfl, rfl⟩ <;> simp at hm <;> omega)
  refine ⟨UInt8.ofNat (fl + m), r ++ b, by rw [he]; rfl, ?_, ?_⟩
  · rw [hc, bitsOf]
    rcases h with ⟨rfl, rfl⟩ | ⟨rfl, rfl⟩ | ⟨rfl, rfl⟩ | ⟨rfl, rfl⟩ | ⟨rfl, rfl⟩ <;> simp at hm
    · rw [if_pos (by omega)]
    · rw [if_neg (by omega), if_pos (by omega)]
    · rw [if_neg (by omega), if_neg (by omega), if_pos (by omega)]
    · rw [if_neg (by omega), if_neg (by omega), if_neg (by omega)]
    · rw [if_neg (by omega), if_neg (by omega), if_neg (by omega)]
  · rw [hc]
    rcases h with ⟨rfl, rfl⟩ | ⟨rfl, rfl⟩ | ⟨rfl, rfl⟩ | ⟨rfl, rfl⟩ | ⟨rfl, rfl⟩ <;> simp at hm <;> omega
theorem num_back (fl k n : Nat) (b : List UInt8) (h : (fl = 128 ∧ k = 7) ∨ (fl = 64 ∧ k = 6) ∨ (fl = 32 ∧ k = 5) ∨ (fl = 16 ∧ k = 4) ∨ (fl = 0 ∧ k = 4)) (hn : n ≤ 2147483647) :
    takeN (putI fl k n ++ b) k = (n, (putI fl k n).length, 0) := by
  rcases h with ⟨rfl, rfl⟩ | ⟨rfl, rfl⟩ | ⟨rfl, rfl⟩ | ⟨rfl, rfl⟩ | ⟨rfl, rfl⟩ <;> exact takeN_putI _ _ n b (by decide) (by decide) (by decide) (by decide) hn
theorem drop_put (a b : List UInt8) : (a ++ b).drop a.length = b := by simp

theorem litV_back (s : ByteArray) (b : List UInt8) (name : ByteArray) (hs : s.size ≤ 4096) : litV (putT (txt s) ++ b) name = (0, ⟨name, s, false⟩, b) := by
  have h := takeT_putT (txt s) b (by simpa [txt] using hs)
  rw [litV, h, ofT_txt, drop_put]
/-- A field that was written out is read. -/
theorem lit_back (rows : List FdM) (f : FdM) (b : List UInt8) (hn : f.name.size ≤ 4096) (hv : f.value.size ≤ 4096) (hnev : ∀ x ∈ rows, x.never = false) :
    litM rows ((if (findT rows f).1 = 0 then putT (txt f.name) else []) ++ putT (txt f.value) ++ b) (findT rows f).1 = (0, ⟨f.name, f.value, false⟩, b) := by
  rcases find_spec rows f hnev with ⟨h0, _⟩ | ⟨h1, _, x, hx, hxn, _, _⟩
  · rw [h0, if_pos rfl, litM, if_neg (by omega), List.append_assoc]
    have h := takeT_putT (txt f.name) (putT (txt f.value) ++ b) (by simpa [txt] using hn)
    rw [h, if_neg (by simp), ofT_txt, drop_put, litV_back _ _ _ hv]
  · rw [if_neg (by omega), litM, if_pos (by omega), hx, if_neg (by simp), List.nil_append, litV_back _ _ _ hv, hxn]

theorem field_back (mostD listD F : Nat) (m : Nat) (rows : List FdM) (f : FdM) (b : List UInt8) (out : List FdM) (cst sizes : Nat) (hn : f.name.size ≤ 4096) (hv : f.value.size ≤ 4096) (hnev : ∀ x ∈ rows, x.never = false) (hl : rows.length ≤ 1000000) :
    decF mostD listD (F + 1) ((encField m rows f).1 ++ b) out cst sizes m rows = decF mostD listD F b (out ++ [⟨f.name, f.value, nevF f⟩]) (cst + cost f) sizes m (encField m rows f).2 := by
  have hlit := lit_back rows f b hn hv hnev
  have hfn : (findT rows f).1 ≤ 2147483647 := by
    rcases find_spec rows f hnev with ⟨h0, _⟩ | ⟨_, h2, _⟩ <;> omega
  rw [encField]
  split
  · rename_i h
    obtain ⟨hw, hv0⟩ := h
    rcases find_spec rows f hnev with ⟨_, h0⟩ | ⟨h1, h2, x, hx, hxn, hxf, hxo⟩
    · rw [h0] at hw; cases hw
    · have hxv := hxo.mpr hw
      obtain ⟨xn, xv, xb⟩ := x
      simp only at hxn hxf hxv
      subst hxn; subst hxf; subst hxv
      obtain ⟨c, r, he, hb, _⟩ := head_bits 128 7 (findT rows f).1 b (.inl ⟨rfl, rfl⟩)
      have hN := num_back 128 7 (findT rows f).1 b (.inl ⟨rfl, rfl⟩) hfn
      have hd := drop_put (putI 128 7 (findT rows f).1) b
      simp only
      rw [he] at hN hd ⊢
      rw [decF, hb, hN, hv0]
      simp only [hd, hx]
      simp
      rfl
  · rename_i h
    have key : ∀ (fl k : Nat) (rows2 : List FdM), ((fl = 64 ∧ k = 6) ∨ (fl = 16 ∧ k = 4) ∨ (fl = 0 ∧ k = 4)) → ((fl = 16) ↔ nevF f = true) → rows2 = (if k = 6 then addT m rows ⟨f.name, f.value, nevF f⟩ else rows) →
        decF mostD listD (F + 1) (putI fl k (findT rows f).1 ++ ((if (findT rows f).1 = 0 then putT (txt f.name) else []) ++ putT (txt f.value)) ++ b) out cst sizes m rows = decF mostD listD F b (out ++ [⟨f.name, f.value, nevF f⟩]) (cst + cost f) sizes m rows2 := by
      intro fl k rows2 hk hnv hr2
      have hk' : (fl = 128 ∧ k = 7) ∨ (fl = 64 ∧ k = 6) ∨ (fl = 32 ∧ k = 5) ∨ (fl = 16 ∧ k = 4) ∨ (fl = 0 ∧ k = 4) := by omega
      rw [List.append_assoc]
      obtain ⟨c, r, he, hb, h16⟩ := head_bits fl k (findT rows f).1 ((if (findT rows f).1 = 0 then putT (txt f.name) else []) ++ putT (txt f.value) ++ b) hk'
      have hN := num_back fl k (findT rows f).1 ((if (findT rows f).1 = 0 then putT (txt f.name) else []) ++ putT (txt f.value) ++ b) hk' hfn
      have hd := drop_put (putI fl k (findT rows f).1) ((if (findT rows f).1 = 0 then putT (txt f.name) else []) ++ putT (txt f.value) ++ b)
      have hdec : decide (c.toNat / 16 = 1) = nevF f := by
        cases hq : nevF f with
        | true => exact decide_eq_true (h16.mpr (hnv.mpr hq))
        | false => exact decide_eq_false (fun h => by have := hnv.mp (h16.mp h); rw [hq] at this; cases this)
      rw [he] at hN hd ⊢
      have k5 : k ≠ 5 := by omega
      have k7 : k ≠ 7 := by omega
      rw [decF, hb, hN]
      simp only [hd, hlit, hdec]
      rw [if_neg (by simp), if_neg k5, if_neg k7, if_neg (by simp), hr2]
      rfl
    split
    · rename_i h6
      exact key 64 6 _ (.inl ⟨rfl, rfl⟩) (by rw [h6.1]; simp) (by rw [h6.1, if_pos rfl]; rfl)
    · cases hq : nevF f with
      | true => simp only [if_true]; have := key 16 4 rows (.inr (.inl ⟨rfl, rfl⟩)) (by rw [hq]; simp) (by simp); rwa [hq] at this
      | false => simp only; have := key 0 4 rows (.inr (.inr ⟨rfl, rfl⟩)) (by rw [hq]; simp) (by simp); rw [hq] at this; exact this

theorem encField_inv (m : Nat) (rows : List FdM) (f : FdM) (hnev : ∀ x ∈ rows, x.never = false) (hs : csum rows ≤ m) : (∀ x ∈ (encField m rows f).2, x.never = false) ∧ csum (encField m rows f).2 ≤ m := by
  rw [encField]
  split
  · exact ⟨hnev, hs⟩
  · split
    · exact ⟨addT_never hnev, addT_sum m rows f⟩
    · exact ⟨hnev, hs⟩
theorem encList_inv (m : Nat) : ∀ (l rows : List FdM), (∀ x ∈ rows, x.never = false) → csum rows ≤ m → (∀ x ∈ (encList m l rows).2, x.never = false) ∧ csum (encList m l rows).2 ≤ m
  | [], _, h1, h2 => ⟨h1, h2⟩
  | f :: q, rows, h1, h2 => encList_inv m q _ (encField_inv m rows f h1 h2).1 (encField_inv m rows f h1 h2).2
/-- A field as it is told: those that never come into a table say so. -/
def normF (f : FdM) : FdM := ⟨f.name, f.value, nevF f⟩
theorem list_back (mostD listD m : Nat) (hm : m ≤ 65536) : ∀ (l rows : List FdM) (F : Nat) (b : List UInt8) (out : List FdM) (cst sizes : Nat), (∀ f ∈ l, f.name.size ≤ 4096 ∧ f.value.size ≤ 4096) → (∀ x ∈ rows, x.never = false) → csum rows ≤ m →
    decF mostD listD (F + l.length) ((encList m l rows).1 ++ b) out cst sizes m rows = decF mostD listD F b (out ++ l.map normF) (cst + csum l) sizes m (encList m l rows).2
  | [], rows, F, b, out, cst, sizes, _, _, _ => by simp [encList, csum]
  | f :: q, rows, F, b, out, cst, sizes, hl, hnev, hs => by
    have h1 := hl f (List.mem_cons_self ..)
    have hi := encField_inv m rows f hnev hs
    have h32 := csum_len rows
    rw [encList, List.length_cons, ← Nat.add_assoc, List.append_assoc, field_back mostD listD (F + q.length) m rows f _ out cst sizes h1.1 h1.2 hnev (by omega),
      list_back mostD listD m hm q _ F b _ _ _ (fun g hg => hl g (List.mem_cons_of_mem _ hg)) hi.1 hi.2]
    simp only [List.map_cons, csum, List.append_assoc, List.singleton_append, normF, Nat.add_assoc]

theorem fit_fit : ∀ (l : List FdM) (a b : Nat), fit a (fit b l) = fit (min a b) l
  | [], _, _ => rfl
  | f :: r, a, b => by
    rw [fit_cons b f r, fit_cons (min a b) f r]
    by_cases hb : cost f ≤ b
    · rw [if_pos hb, fit_cons]
      by_cases ha : cost f ≤ a
      · rw [if_pos ha, if_pos (by omega), fit_fit r, show min (a - cost f) (b - cost f) = min a b - cost f from by omega]
      · rw [if_neg ha, if_neg (by omega)]
    · rw [if_neg hb, if_neg (by omega)]; rfl

theorem upd_back (mostD listD F n : Nat) (b : List UInt8) (cst sizes m : Nat) (rows : List FdM) (hs : sizes ≤ 1) (hn : n ≤ mostD) (hn2 : n ≤ 2147483647) :
    decF mostD listD (F + 1) (putI 32 5 n ++ b) [] cst sizes m rows = decF mostD listD F b [] cst (sizes + 1) n (fit n rows) := by
  obtain ⟨c, r, he, hb, _⟩ := head_bits 32 5 n b (.inr (.inr (.inl ⟨rfl, rfl⟩)))
  have hN := num_back 32 5 n b (.inr (.inr (.inl ⟨rfl, rfl⟩))) hn2
  have hd := drop_put (putI 32 5 n) b
  rw [he] at hN hd ⊢
  rw [decF, hb, hN]
  simp only [hd]
  simp [show ¬ mostD < n from by omega, show ¬ 2 < sizes + 1 from by omega]

/-- What an encoder told ahead of a block brings the decoder's table to the encoder's. -/
theorem hdr_back (mostD listD F told least now : Nat) (b : List UInt8) (cst : Nat) (rowsD rowsE : List FdM) (hD : csum rowsD ≤ told) (h1 : least ≤ told) (h2 : least ≤ now) (hE : rowsE = fit least rowsD) (hnow : now ≤ mostD) (hm : mostD ≤ 65536) :
    ∃ sizes, decF mostD listD (F + 2) (hdr told least now ++ b) [] cst 0 told rowsD = decF mostD listD (F + (2 - sizes)) b [] cst sizes now rowsE ∧ sizes ≤ 2 := by
  rw [hdr]
  split
  · rename_i h
    refine ⟨2, ?_, Nat.le_refl _⟩
    rw [List.append_assoc, upd_back mostD listD (F + 1) least _ cst 0 told rowsD (by omega) (by omega) (by omega), upd_back mostD listD F now b cst 1 least _ (by omega) (by omega) (by omega), fit_fit, show min now least = least from by omega, ← hE]
    rfl
  · rename_i h
    split
    · rename_i hne
      refine ⟨1, ?_, by omega⟩
      rw [upd_back mostD listD (F + 1) now b cst 0 told rowsD (by omega) (by omega) (by omega)]
      have : fit now rowsD = rowsE := by
        rw [hE]
        by_cases hl : least = now
        · rw [hl]
        · have : least = told := by omega
          rw [this, fit_all rowsD told hD, fit_all rowsD now (by omega)]
      rw [this]
    · rename_i hne
      have hnt : now = told := by omega
      refine ⟨0, ?_, by omega⟩
      have hlt : least = told := by omega
      rw [hE, hlt, fit_all rowsD told hD, hnt]
      rfl

/-- A block that was written is read as it was, and both tables are alike behind it. -/
theorem block_back (mostD listD told least now : Nat) (l rowsD rowsE : List FdM) (F : Nat) (hF : l.length + 3 ≤ F) (hD : csum rowsD ≤ told) (h1 : least ≤ told) (h2 : least ≤ now) (hE : rowsE = fit least rowsD) (hnow : now ≤ mostD) (hm : mostD ≤ 65536)
    (hl : ∀ f ∈ l, f.name.size ≤ 4096 ∧ f.value.size ≤ 4096) (hnev : ∀ x ∈ rowsD, x.never = false) :
    decF mostD listD F (hdr told least now ++ (encList now l rowsE).1) [] 0 0 told rowsD =
      (if listD < csum l then ((51, []), (now, (encList now l rowsE).2), false) else ((0, l.map normF), (now, (encList now l rowsE).2), false)) := by
  have hEn : ∀ x ∈ rowsE, x.never = false := fun x hx => by rw [hE] at hx; exact hnev x (fit_mem hx)
  have hEs : csum rowsE ≤ now := by rw [hE]; exact Nat.le_trans (fit_sum rowsD least) h2
  obtain ⟨G, rfl⟩ : ∃ G, F = (G + 1 + l.length) + 2 := ⟨F - l.length - 3, by omega⟩
  obtain ⟨sizes, he, hs⟩ := hdr_back mostD listD (G + 1 + l.length) told least now (encList now l rowsE).1 0 rowsD rowsE hD h1 h2 hE hnow hm
  rw [he]
  have h3 := list_back mostD listD now (by omega) l rowsE (G + 1 + (2 - sizes)) [] [] 0 sizes hl hEn hEs
  rw [List.append_nil, show G + 1 + (2 - sizes) + l.length = G + 1 + l.length + (2 - sizes) from by omega] at h3
  rw [h3, show G + 1 + (2 - sizes) = (G + (2 - sizes)) + 1 from by omega, decF, Nat.zero_add, List.nil_append]
end Hpk
end Go.Proofs.YtdkgachgohilcaaDoor
