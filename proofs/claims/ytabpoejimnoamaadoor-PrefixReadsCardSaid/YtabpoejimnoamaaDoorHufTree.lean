/- Layer 2 without the program: what the tree of codes is, checked place by place; there and back. -/
import Derived.Test.YtabpoejimnoamaaDoorHufPure
import Derived.Lib.Bytealg
namespace Go.Proofs.YtabpoejimnoamaaDoor
namespace Huf

/-- The place of a code of n bits, if there is one. -/
def poc (v n : Nat) : Option Nat := if gK n ≤ v ∧ v < gK n + gC n then some (gP n + (v - gK n)) else none

theorem root_facts : sy 0 = 1023 ∧ va 0 = 0 ∧ de 0 = 0 := by decide +kernel
/-- What is behind a place inside the tree. -/
theorem node_facts : ∀ k, k < 513 → sy k = 1023 → ∀ b, b < 2 → 0 < nx b k ∧ nx b k < 513 ∧ va (nx b k) = 2 * va k + b ∧ de (nx b k) = de k + 1 ∧ de (nx b k) ≤ 30 ∧ va (nx b k) < 1073741824 := by decide +kernel
/-- What a place is. -/
theorem leaf_facts : ∀ k, k < 513 → 0 < k → (sy k = 1023 ∧ poc (va k) (de k) = none ∧ de k < 30) ∨ (sy k = 256 ∧ poc (va k) (de k) = some 256) ∨
    (sy k < 256 ∧ (∃ p, p < 256 ∧ poc (va k) (de k) = some p ∧ ordL.getD p 0 = UInt8.ofNat (sy k)) ∧ code (sy k) = va k ∧ len (sy k) = de k) := by
  have h : ∀ k, k < 513 → 0 < k → (sy k = 1023 ∧ poc (va k) (de k) = none ∧ de k < 30) ∨ (sy k = 256 ∧ poc (va k) (de k) = some 256) ∨
    (sy k < 256 ∧ ((poc (va k) (de k)).getD 999 < 256 ∧ poc (va k) (de k) = some ((poc (va k) (de k)).getD 999) ∧ ordL.getD ((poc (va k) (de k)).getD 999) 0 = UInt8.ofNat (sy k)) ∧ code (sy k) = va k ∧ len (sy k) = de k) := by decide +kernel
  intro k h1 h2
  rcases h k h1 h2 with h | h | ⟨h, h', h''⟩
  · exact .inl h
  · exact .inr (.inl h)
  · exact .inr (.inr ⟨h, ⟨_, h'⟩, h''⟩)

/-- All bits of a code but the last lead to places inside; the last one to a symbol. -/
def runK : List Bool → Nat → Option Nat
  | [], _ => none
  | b :: r, k => if sy (nx (bN b) k) = 1023 then runK r (nx (bN b) k) else if r = [] then some (sy (nx (bN b) k)) else none
theorem code_runs : ∀ c, c < 257 → runK (cb c) 0 = some c := by decide +kernel

theorem decK_code (c : Nat) (hc : c < 256) (r : List Bool) (acc : List UInt8) : ∀ (l : List Bool) (k : Nat), runK l k = some c → decK (l ++ r) k acc = decK r 0 (acc ++ [UInt8.ofNat c])
  | [], k, h => by simp [runK] at h
  | b :: l, k, h => by
    rw [runK] at h
    rw [List.cons_append, decK]
    split at h
    · rename_i h1; rw [if_pos h1]; exact decK_code c hc r acc l _ h
    · rename_i h1
      rw [if_neg h1]
      split at h
      · rename_i h2
        simp only [Option.some.injEq] at h
        rw [h, if_neg (by omega), h2, List.nil_append]
      · cases h

theorem decK_text (r : List Bool) : ∀ (l acc : List UInt8), decK (bitsT l ++ r) 0 acc = decK r 0 (acc ++ l)
  | [], acc => by simp [bitsT]
  | c :: l, acc => by
    have hc := c.toNat_lt
    rw [bitsT_cons, List.append_assoc, decK_code c.toNat (by omega) _ _ _ _ (code_runs c.toNat (by omega)), decK_text r l]
    simp

/-- Ones alone. -/
def onesK : Nat → Nat → Option Nat
  | 0, k => some k
  | n + 1, k => if sy (nx 1 k) = 1023 then onesK n (nx 1 k) else none
theorem ones_run : ∀ n, n < 30 → ((onesK n 0).map fun k => (de k, va k)) = some (n, 2 ^ n - 1) := by decide +kernel
theorem decK_ones (acc : List UInt8) : ∀ (n k k' : Nat), onesK n k = some k' → decK (List.replicate n true) k acc = decK [] k' acc
  | 0, k, k', h => by simp only [onesK, Option.some.injEq] at h; rw [h]; rfl
  | n + 1, k, k', h => by
    rw [onesK] at h
    split at h
    · rename_i h1
      have h2 : decK (true :: List.replicate n true) k acc = decK (List.replicate n true) (nx 1 k) acc := by rw [decK, show bN true = 1 from rfl, if_pos h1]
      rw [List.replicate_succ, h2]
      exact decK_ones acc n _ _ h
    · cases h
theorem decK_pad (acc : List UInt8) (n : Nat) (h : n < 8) : decK (List.replicate n true) 0 acc = some acc := by
  have h1 := ones_run n (by omega)
  cases ho : onesK n 0 with
  | none => rw [ho] at h1; cases h1
  | some k =>
    rw [ho] at h1
    simp only [Option.map_some, Option.some.injEq, Prod.mk.injEq] at h1
    rw [decK_ones acc n 0 k ho, decK, h1.1, h1.2, if_neg (by omega)]
theorem decK_much (acc : List UInt8) (n : Nat) (h8 : 8 ≤ n) (h : n < 30) : decK (List.replicate n true) 0 acc = none := by
  have h1 := ones_run n h
  cases ho : onesK n 0 with
  | none => rw [ho] at h1; cases h1
  | some k =>
    rw [ho] at h1
    simp only [Option.map_some, Option.some.injEq, Prod.mk.injEq] at h1
    rw [decK_ones acc n 0 k ho, decK, h1.1, h1.2, if_pos (.inl h8)]

/-- What bits are packed are the bytes' bits, and ones. -/
theorem bitsN_ones : ∀ n, bitsN (2 ^ n - 1) n = List.replicate n true
  | 0 => rfl
  | n + 1 => by
    rw [bitsN_succ, List.replicate_succ]
    congr 1
    · rw [Nat.testBit_two_pow_sub_one]; simp
    · rw [← bitsN_mod (2 ^ (n + 1) - 1) n n (Nat.le_refl _), ← bitsN_ones n]
      congr 1
      rw [Nat.pow_succ]
      have := Nat.two_pow_pos n
      rw [show 2 ^ n * 2 - 1 = (2 ^ n - 1) + 1 * 2 ^ n from by omega, Nat.add_mul_mod_self_right, Nat.mod_eq_of_lt (by omega)]

theorem bitsB_packF : ∀ (l : List Bool) (put cnt : Nat), cnt < 8 → put < 2 ^ cnt → ∃ j, j < 8 ∧ bitsB (packF l put cnt) = bitsN put cnt ++ l ++ List.replicate j true
  | [], put, cnt, h, hp => by
    rw [packF]
    split
    · rename_i h0; subst h0; exact ⟨0, by omega, rfl⟩
    · refine ⟨8 - cnt, by omega, ?_⟩
      have h2 : put * 2 ^ (8 - cnt) + (2 ^ (8 - cnt) - 1) < 256 := by
        have h3 : (put + 1) * 2 ^ (8 - cnt) ≤ 2 ^ cnt * 2 ^ (8 - cnt) := Nat.mul_le_mul_right _ hp
        rw [← Nat.pow_add, show cnt + (8 - cnt) = 8 from by omega, Nat.add_mul, Nat.one_mul] at h3
        have := Nat.two_pow_pos (8 - cnt)
        omega
      rw [bitsB_cons, UInt8.toNat_ofNat', Nat.mod_eq_of_lt h2]
      have h4 := bitsN_join put (2 ^ (8 - cnt) - 1) (8 - cnt) (by have := Nat.two_pow_pos (8 - cnt); omega) cnt
      rw [show cnt + (8 - cnt) = 8 from by omega, bitsN_ones] at h4
      rw [h4]
      simp [bitsB]
  | b :: r, put, cnt, h, hp => by
    rw [packF]
    have hb := bN_le b
    split
    · rename_i h7
      subst h7
      obtain ⟨j, hj, e⟩ := bitsB_packF r 0 0 (by omega) (by decide)
      refine ⟨j, hj, ?_⟩
      rw [bitsB_cons, e, UInt8.toNat_ofNat', Nat.mod_eq_of_lt (by omega), bitsN_snoc]
      simp [bitsN]
    · obtain ⟨j, hj, e⟩ := bitsB_packF r (2 * put + bN b) (cnt + 1) (by omega) (by rw [Nat.pow_succ]; omega)
      refine ⟨j, hj, ?_⟩
      rw [e, bitsN_snoc]
      simp

theorem dec_enc (l : List UInt8) : dec (enc l) = some l := by
  obtain ⟨j, hj, e⟩ := bitsB_packF (bitsT l) 0 0 (by omega) (by decide)
  rw [dec, enc, e, bitsN, List.nil_append, decK_text, decK_pad _ _ hj]
  simp
theorem dec_enc_more (l : List UInt8) : dec (enc l ++ [255]) = none := by
  obtain ⟨j, hj, e⟩ := bitsB_packF (bitsT l) 0 0 (by omega) (by decide)
  have h8 : bitsB [255] = List.replicate 8 true := by decide
  rw [dec, bitsB_append, enc, e, bitsN, List.nil_append, List.append_assoc, decK_text, h8, List.replicate_append_replicate, decK_much _ _ (by omega) (by omega)]

/-- What was decoded is what those bits are. -/
theorem decK_back : ∀ (r : List Bool) (k : Nat) (acc u : List UInt8), k < 513 → sy k = 1023 → decK r k acc = some u →
    ∃ v j, u = acc ++ v ∧ j < 8 ∧ bitsN (va k) (de k) ++ r = bitsT v ++ List.replicate j true
  | [], k, acc, u, hk, hs, h => by
    rw [decK] at h
    split at h
    · cases h
    · rename_i h1
      simp only [Option.some.injEq] at h
      have h2 : va k = 2 ^ de k - 1 := by
        rcases Nat.decEq (va k) (2 ^ de k - 1) with h3 | h3
        · exact absurd (Or.inr h3) h1
        · exact h3
      exact ⟨[], de k, by rw [h, List.append_nil], by rcases Nat.lt_or_ge (de k) 8 with h3 | h3; exact h3; exact absurd (Or.inl h3) h1, by rw [h2, bitsN_ones]; simp [bitsT]⟩
  | b :: r, k, acc, u, hk, hs, h => by
    have hb : bN b < 2 := by have := bN_le b; omega
    obtain ⟨h0, h1, h2, h3, _, _⟩ := node_facts k hk hs (bN b) hb
    rw [decK] at h
    have hpre : bitsN (va k) (de k) ++ b :: r = bitsN (va (nx (bN b) k)) (de (nx (bN b) k)) ++ r := by
      rw [h2, h3, bitsN_snoc]; simp
    split at h
    · rename_i h4
      obtain ⟨v, j, e1, e2, e3⟩ := decK_back r _ acc u h1 h4 h
      exact ⟨v, j, e1, e2, by rw [hpre, e3]⟩
    · rename_i h4
      split at h
      · cases h
      · rename_i h5
        obtain ⟨v, j, e1, e2, e3⟩ := decK_back r 0 _ u (by decide) root_facts.1 h
        rcases leaf_facts _ h1 h0 with q | q | ⟨q1, _, q3, q4⟩
        · exact absurd q.1 h4
        · exact absurd q.1 h5
        · refine ⟨UInt8.ofNat (sy (nx (bN b) k)) :: v, j, by rw [e1]; simp, e2, ?_⟩
          rw [root_facts.2.1, root_facts.2.2, bitsN, List.nil_append] at e3
          rw [hpre, bitsT_cons, UInt8.toNat_ofNat', Nat.mod_eq_of_lt q1, cb, q3, q4, e3, List.append_assoc]

theorem bitsN8_inj : ∀ (c : UInt8), UInt8.ofNat (c.toNat % 2 ^ 8) = c := by
  intro c
  have := c.toNat_lt
  rw [Nat.mod_eq_of_lt (by omega)]
  simp
theorem packF_bitsB : ∀ (l : List UInt8), packF (bitsB l) 0 0 = l
  | [] => rfl
  | c :: r => by
    rw [bitsB_cons, packF_byte _ _ 8 0 0 rfl (by omega), packF_bitsB r, Nat.zero_mul, Nat.zero_add, bitsN8_inj]
theorem packF_snoc_ones (j : Nat) : ∀ (l : List Bool) (put cnt : Nat), cnt < 8 → j < 8 → (l.length + cnt + j) % 8 = 0 → packF (l ++ List.replicate j true) put cnt = packF l put cnt
  | [], put, cnt, h, hj, hm => by
    rw [List.nil_append]
    by_cases h0 : cnt = 0
    · have : j = 0 := by simp at hm; omega
      subst this; rfl
    · have : cnt + j = 8 := by simp at hm; omega
      have hp := packF_byte (2 ^ j - 1) [] j put cnt this (by omega)
      rw [bitsN_ones, List.append_nil, Nat.mod_eq_of_lt (by have := Nat.two_pow_pos j; omega)] at hp
      rw [hp, packF, packF, if_neg h0, if_pos rfl, show 8 - cnt = j from by omega]
  | b :: r, put, cnt, h, hj, hm => by
    rw [List.cons_append, packF, packF]
    rw [List.length_cons] at hm
    split
    · rw [packF_snoc_ones j r 0 0 (by omega) hj (by omega)]
    · rw [packF_snoc_ones j r _ _ (by omega) hj (by omega)]

theorem enc_dec (l u : List UInt8) (h : dec l = some u) : enc u = l := by
  obtain ⟨v, j, e1, e2, e3⟩ := decK_back _ 0 [] u (by decide) root_facts.1 h
  rw [List.nil_append] at e1
  subst e1
  rw [root_facts.2.1, root_facts.2.2, bitsN, List.nil_append] at e3
  have hl := bitsB_length l
  rw [e3, List.length_append, List.length_replicate] at hl
  rw [enc, ← packF_snoc_ones j (bitsT u) 0 0 (by omega) e2 (by omega), ← e3, packF_bitsB]

theorem packF_append (b : List Bool) : ∀ (a : List Bool) (put cnt : Nat), cnt < 8 → (a.length + cnt) % 8 = 0 → packF (a ++ b) put cnt = packF a put cnt ++ (if a.length + cnt = 0 then packF b put cnt else packF b 0 0)
  | [], put, cnt, h, hm => by
    have : cnt = 0 := by simp at hm; omega
    subst this
    rw [packF]; simp
  | c :: r, put, cnt, h, hm => by
    rw [List.cons_append, packF, packF]
    rw [List.length_cons] at hm
    have hne : (c :: r).length + cnt ≠ 0 := by rw [List.length_cons]; omega
    rw [if_neg hne]
    split
    · rw [packF_append b r 0 0 (by omega) (by omega), List.cons_append]
      congr 2
      split <;> rfl
    · rw [packF_append b r _ _ (by omega) (by omega), if_neg (by omega)]
theorem enc_append (a b : List UInt8) (h : blen a % 8 = 0) : enc (a ++ b) = enc a ++ enc b := by
  rw [enc, bitsT_append, packF_append _ _ 0 0 (by omega) (by rw [bitsT_length]; omega)]
  rw [enc, enc]
  congr 1
  split <;> rfl

theorem grp_bd : ∀ n, n < 31 → gC n ≤ 32 ∧ gP n ≤ 256 ∧ gK n < 1073741824 := by decide +kernel
/-- A symbol's place. -/
def plc (c : Nat) : Nat := if c = 256 then 256 else (Lib.indexByte ordL (UInt8.ofNat c)).toNat
theorem plc_bd : ∀ c, c < 257 → plc c < 257 := by decide +kernel
theorem plc_eq : ∀ c, c < 256 → Lib.indexByte ordL (UInt8.ofNat c) = (plc c : Int) := by decide +kernel

/-- From length n on: the code at a place, and its length. -/
def caF : Nat → Nat → Int → Int × Int
  | 0, _, _ => (0, 0)
  | f + 1, n, p => if p < gP n + gC n then ((gK n + (p - gP n)) % 4294967296, n) else caF f (n + 1) p
theorem caF_code : ∀ c, c < 257 → caF 31 0 (plc c) = ((code c : Int), (len c : Int)) := by decide +kernel

theorem inner_bd (c : Nat) (hc : c < 513) (hs : sy c = 1023) : va c < 536870912 ∧ de c < 30 := by
  obtain ⟨_, _, h1, h2, h3, h4⟩ := node_facts c hc hs 0 (by omega)
  omega
end Huf
end Go.Proofs.YtabpoejimnoamaaDoor
