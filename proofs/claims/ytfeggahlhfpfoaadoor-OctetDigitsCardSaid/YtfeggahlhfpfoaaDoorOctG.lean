/- What a digit more makes of a number. -/
import Derived.Test.YtfeggahlhfpfoaaDoorOctPure
import Derived.Test.YtfeggahlhfpfoaaDoorOctS
namespace Go.Proofs.YtfeggahlhfpfoaaDoor
open Oct

theorem numF_nonneg (base : Int) (hb : 1 ≤ base) : ∀ (l : List UInt8) (n : Int), 0 ≤ n → n ≤ 1099511627777 → numF base l n = -1 ∨ (0 ≤ numF base l n ∧ numF base l n ≤ 1099511627777)
  | [], n, h, h' => Or.inr ⟨h, h'⟩
  | c :: r, n, h, h' => by
    rw [numF]
    split
    · exact Or.inl rfl
    · have hw := worthI_bd c.toNat
      have hm : 0 ≤ n * base := Int.mul_nonneg h (by omega)
      exact numF_nonneg base hb r _ (by split <;> omega) (by split <;> omega)

theorem numF_append (base : Int) (hb : 1 ≤ base) (r : List UInt8) : ∀ (l : List UInt8) (n : Int), 0 ≤ n → n ≤ 1099511627777 →
    numF base (l ++ r) n = if numF base l n = -1 then -1 else numF base r (numF base l n)
  | [], n, h, h' => by rw [List.nil_append, numF, if_neg (by omega)]
  | c :: l, n, h, h' => by
    rw [List.cons_append, numF, numF]
    split
    · rw [if_pos rfl]
    · have hw := worthI_bd c.toNat
      have hm : 0 ≤ n * base := Int.mul_nonneg h (by omega)
      exact numF_append base hb r l _ (by split <;> omega) (by split <;> omega)

theorem worth_digU : ∀ k, k < 10 → worthI (digU k).toNat = k := by decide +kernel

theorem grow_empty (k : Nat) (hk : k < 10) : numV 10 [digU k] = k ∧ numE 10 [digU k] = 0 := by
  have hw := worth_digU k hk
  have hF : numF 10 [digU k] 0 = k := by
    rw [numF, numF, hw, if_neg (by omega)]; simp; omega
  constructor
  · rw [numV, if_neg (by simp), hF, if_neg (by omega), if_neg (by omega)]
  · rw [numE, if_neg (by simp), hF, if_neg (by omega), if_neg (by omega)]

theorem grow_F (l : List UInt8) (k : Nat) (hk : k < 10) :
    numF 10 (l ++ [digU k]) 0 = if numF 10 l 0 = -1 then -1 else if 1099511627777 < numF 10 l 0 * 10 + k then 1099511627777 else numF 10 l 0 * 10 + k := by
  rw [numF_append 10 (by omega) _ l 0 (by omega) (by omega)]
  split
  · rfl
  · rw [numF, numF, worth_digU k hk, if_neg (by omega)]

theorem numV_ne (l : List UInt8) (h : l ≠ []) : numV 10 l = if numF 10 l 0 = -1 then 0 else if 1099511627776 < numF 10 l 0 then 0 else numF 10 l 0 := by rw [numV, if_neg h]
theorem numE_ne (l : List UInt8) (h : l ≠ []) : numE 10 l = if numF 10 l 0 = -1 then 10 else if 1099511627776 < numF 10 l 0 then 11 else 0 := by rw [numE, if_neg h]

theorem grow_err (l : List UInt8) (h : l ≠ []) (k : Nat) (hk : k < 10) (he : numE 10 l ≠ 0) :
    numE 10 (l ++ [digU k]) = numE 10 l ∧ numV 10 (l ++ [digU k]) = 0 ∧ numV 10 l = 0 := by
  have hF := grow_F l k hk
  rw [numE_ne l h] at he
  rw [numE_ne l h, numE_ne _ (by simp), numV_ne l h, numV_ne _ (by simp)]
  by_cases h1 : numF 10 l 0 = -1
  · rw [if_pos h1] at hF
    rw [if_pos h1, if_pos hF, if_pos h1, if_pos hF]
    exact ⟨rfl, rfl, rfl⟩
  · rw [if_neg h1] at hF he
    by_cases h2 : 1099511627776 < numF 10 l 0
    · rw [if_pos (by omega)] at hF
      rw [if_neg h1, if_pos h2, if_neg (by omega), if_pos (by omega), if_neg h1, if_pos h2, if_neg (by omega), if_pos (by omega)]
      exact ⟨rfl, rfl, rfl⟩
    · rw [if_neg h2] at he; exact absurd rfl he

theorem grow_big (l : List UInt8) (h : l ≠ []) (k : Nat) (hk : k < 10) (he : numE 10 l = 0) (hb : (1099511627776 - (k : Int)) / 10 < numV 10 l) :
    numE 10 (l ++ [digU k]) = 11 ∧ numV 10 (l ++ [digU k]) = 0 := by
  have hF := grow_F l k hk
  rw [numV_ne l h] at hb
  rw [numE_ne l h] at he
  rw [numE_ne _ (by simp), numV_ne _ (by simp)]
  by_cases h1 : numF 10 l 0 = -1
  · rw [if_pos h1] at he; omega
  · rw [if_neg h1] at hF he hb
    by_cases h2 : 1099511627776 < numF 10 l 0
    · rw [if_pos h2] at he; omega
    · rw [if_neg h2] at hb
      have : numF 10 (l ++ [digU k]) 0 = 1099511627777 := by rw [hF]; split <;> omega
      rw [this]
      exact ⟨by decide, by decide⟩

theorem grow_ok (l : List UInt8) (h : l ≠ []) (k : Nat) (hk : k < 10) (he : numE 10 l = 0) (hb : ¬ (1099511627776 - (k : Int)) / 10 < numV 10 l) :
    numE 10 (l ++ [digU k]) = 0 ∧ numV 10 (l ++ [digU k]) = 10 * numV 10 l + k := by
  have hF := grow_F l k hk
  have hN := numF_nonneg 10 (by omega) l 0 (by omega) (by omega)
  rw [numV_ne l h] at hb ⊢
  rw [numE_ne l h] at he
  rw [numE_ne _ (by simp), numV_ne _ (by simp)]
  by_cases h1 : numF 10 l 0 = -1
  · rw [if_pos h1] at he; omega
  · rw [if_neg h1] at hF he hb ⊢
    by_cases h2 : 1099511627776 < numF 10 l 0
    · rw [if_pos h2] at he; omega
    · rw [if_neg h2] at hb ⊢
      have : numF 10 (l ++ [digU k]) 0 = 10 * numF 10 l 0 + k := by rw [hF]; split <;> omega
      rw [this]
      constructor
      · rw [if_neg (by omega), if_neg (by omega)]
      · rw [if_neg (by omega), if_neg (by omega)]

theorem numV_bd (l : List UInt8) : 0 ≤ numV 10 l ∧ numV 10 l ≤ 1099511627776 := by
  have hN := numF_nonneg 10 (by omega) l 0 (by omega) (by omega)
  unfold numV
  (repeat' split) <;> omega
end Go.Proofs.YtfeggahlhfpfoaaDoor
