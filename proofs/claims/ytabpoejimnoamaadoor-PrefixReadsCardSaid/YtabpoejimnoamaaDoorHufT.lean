/- The document's tree of codes as it grows, without the program. -/
import Derived.Test.YtabpoejimnoamaaDoorHufTree
namespace Go.Proofs.YtabpoejimnoamaaDoor
namespace Huf

/-- Cell j of a tree of m places in which the symbols below s end. -/
def cellT (m s j : Nat) : Int := if j % 3 < 2 then (if nx (j % 3) (j / 3) < m then (nx (j % 3) (j / 3) : Int) else 0) else (if sy (j / 3) < s then (sy (j / 3) : Int) else -1)
def rowsT (m s : Nat) : List Value := (List.range (3 * m)).map fun j => .int .i64 (cellT m s j)
theorem rowsT_length (m s : Nat) : (rowsT m s).length = 3 * m := by simp [rowsT]
theorem rowsT_at (m s j : Nat) (h : j < 3 * m) : (rowsT m s)[j]? = some (.int .i64 (cellT m s j)) := by
  rw [rowsT, List.getElem?_map, List.getElem?_range h]; rfl

theorem later : ∀ i, i < 513 → ∀ b, b < 2 → nx b i = 0 ∨ i < nx b i := by decide +kernel
theorem parent : ∀ i, i < 513 → ∀ b, b < 2 → nx b i = 0 ∨ pa (nx b i) = 3 * i + b := by decide +kernel
theorem leaves : ∀ i, i < 513 → sy i < 257 → lf (sy i) = i := by decide +kernel

/-- One place more, and the way to it. -/
theorem rowsT_grow (m s a b : Nat) (hb : b < 2) (ha : a < m) (hm : m < 513) (hn : nx b a = m) (hs : ¬ sy m < s) :
    (rowsT m s ++ [Value.int .i64 0, Value.int .i64 0, Value.int .i64 (-1)]).set (3 * a + b) (Value.int .i64 m) = rowsT (m + 1) s := by
  apply List.ext_getElem?
  intro j
  have hl := rowsT_length m s
  by_cases hj : j < 3 * (m + 1)
  · rw [rowsT_at (m + 1) s j hj]
    by_cases he : 3 * a + b = j
    · subst he
      rw [List.getElem?_set_self (by rw [List.length_append, hl]; simp; omega)]
      have h1 : (3 * a + b) % 3 = b := by omega
      have h2 : (3 * a + b) / 3 = a := by omega
      rw [cellT, h1, h2, if_pos hb, hn, if_pos (by omega)]
    · rw [List.getElem?_set_ne he]
      by_cases hj2 : j < 3 * m
      · rw [List.getElem?_append_left (by omega), rowsT_at m s j hj2]
        congr 2
        rw [cellT, cellT]
        by_cases hf : j % 3 < 2
        · rw [if_pos hf, if_pos hf]
          have hne : nx (j % 3) (j / 3) ≠ m := by
            intro h
            rcases parent (j / 3) (by omega) (j % 3) hf with h3 | h3
            · omega
            · rcases parent a (by omega) b hb with h4 | h4
              · omega
              · rw [h] at h3; rw [hn] at h4; omega
          by_cases h5 : nx (j % 3) (j / 3) < m
          · rw [if_pos h5, if_pos (by omega)]
          · rw [if_neg h5, if_neg (by omega)]
        · rw [if_neg hf, if_neg hf]
      · rw [List.getElem?_append_right (by omega), hl]
        have h6 : j / 3 = m := by omega
        rw [cellT, h6]
        have h7 : j % 3 = 0 ∨ j % 3 = 1 ∨ j % 3 = 2 := by omega
        rcases h7 with h7 | h7 | h7
        · rw [h7, if_pos (by omega), show j - 3 * m = 0 from by omega]
          rcases later m hm 0 (by omega) with h8 | h8
          · rw [h8, if_pos (by omega)]; rfl
          · rw [if_neg (by omega)]; rfl
        · rw [h7, if_pos (by omega), show j - 3 * m = 1 from by omega]
          rcases later m hm 1 (by omega) with h8 | h8
          · rw [h8, if_pos (by omega)]; rfl
          · rw [if_neg (by omega)]; rfl
        · rw [h7, if_neg (by omega), if_neg hs, show j - 3 * m = 2 from by omega]; rfl
  · rw [List.getElem?_eq_none (by rw [List.length_set, List.length_append, hl]; simp; omega), List.getElem?_eq_none (by rw [rowsT_length]; omega)]

/-- A symbol ends. -/
theorem rowsT_leaf (m s a : Nat) (ha : a < m) (hm : m ≤ 513) (hs : s < 257) (h : sy a = s) : (rowsT m s).set (3 * a + 2) (Value.int .i64 s) = rowsT m (s + 1) := by
  apply List.ext_getElem?
  intro j
  have hl := rowsT_length m s
  by_cases hj : j < 3 * m
  · rw [rowsT_at m (s + 1) j hj]
    by_cases he : 3 * a + 2 = j
    · subst he
      rw [List.getElem?_set_self (by omega)]
      have h1 : (3 * a + 2) % 3 = 2 := by omega
      have h2 : (3 * a + 2) / 3 = a := by omega
      rw [cellT, h1, h2, if_neg (by omega), h, if_pos (by omega)]
    · rw [List.getElem?_set_ne he, rowsT_at m s j hj]
      congr 2
      rw [cellT, cellT]
      by_cases hf : j % 3 < 2
      · rw [if_pos hf, if_pos hf]
      · rw [if_neg hf, if_neg hf]
        have hne : sy (j / 3) ≠ s := by
          intro h3
          have h4 := leaves (j / 3) (by omega) (by omega)
          have h5 := leaves a (by omega) (by omega)
          rw [h3] at h4; rw [h] at h5
          omega
        by_cases h6 : sy (j / 3) < s
        · rw [if_pos h6, if_pos (by omega)]
        · rw [if_neg h6, if_neg (by omega)]
  · rw [List.getElem?_eq_none (by rw [List.length_set, hl]; omega), List.getElem?_eq_none (by rw [rowsT_length]; omega)]

/-- The way of a code in a tree of m places, the new places one behind the other. -/
def chkF (s : Nat) : List Bool → Nat → Nat → Option (Nat × Nat)
  | [], a, m => some (a, m)
  | b :: r, a, m => if nx (bN b) a = m then (if sy m < s then none else chkF s r m (m + 1)) else if nx (bN b) a = 0 then none else if nx (bN b) a < m then chkF s r (nx (bN b) a) m else none
def endF (s : Nat) : Option (Nat × Nat) → Option Nat
  | some (a, m) => if sy a = s then some m else none
  | none => none
def allF : Nat → Nat → Nat → Option Nat
  | 0, _, m => some m
  | f + 1, s, m => match endF s (chkF s (cb s) 0 m) with
    | some m' => allF f (s + 1) m'
    | none => none
theorem all_codes : allF 257 0 1 = some 513 := by decide +kernel

theorem chkF_le (s : Nat) : ∀ (l : List Bool) (a m a' m' : Nat), chkF s l a m = some (a', m') → m ≤ m'
  | [], a, m, a', m', h => by simp only [chkF, Option.some.injEq, Prod.mk.injEq] at h; omega
  | b :: r, a, m, a', m', h => by
    rw [chkF] at h
    split at h
    · split at h
      · cases h
      · have := chkF_le s r _ _ _ _ h; omega
    · split at h
      · cases h
      · split at h
        · exact chkF_le s r _ _ _ _ h
        · cases h
theorem endF_some {s : Nat} {x : Option (Nat × Nat)} {m : Nat} (h : endF s x = some m) : ∃ a, x = some (a, m) ∧ sy a = s := by
  match x, h with
  | some (a, m'), h =>
    rw [endF] at h
    split at h
    · rename_i h1
      simp only [Option.some.injEq] at h
      exact ⟨a, by rw [h], h1⟩
    · cases h
theorem allF_le : ∀ (f s m r : Nat), allF f s m = some r → m ≤ r
  | 0, s, m, r, h => by simp only [allF, Option.some.injEq] at h; omega
  | f + 1, s, m, r, h => by
    rw [allF] at h
    split at h
    · rename_i m' h1
      obtain ⟨a, h2, _⟩ := endF_some h1
      have h3 := chkF_le s _ _ _ _ _ h2
      have h4 := allF_le f _ _ _ h
      omega
    · cases h

/-- What is left of symbol s, j bits before its code's end. -/
def RestT (s j a m : Nat) : Prop := ∃ a' m', chkF s (bitsN (code s) j) a m = some (a', m') ∧ sy a' = s ∧ allF (256 - s) (s + 1) m' = some 513
theorem rest_start (s m : Nat) (hs : s < 257) (h : allF (257 - s) s m = some 513) : RestT s (len s) 0 m := by
  rw [show 257 - s = (256 - s) + 1 from by omega, allF] at h
  split at h
  · rename_i m' h1
    obtain ⟨a, h2, h3⟩ := endF_some h1
    exact ⟨a, m', h2, h3, h⟩
  · cases h
theorem rest_end (s a m : Nat) (h : RestT s 0 a m) : sy a = s ∧ allF (256 - s) (s + 1) m = some 513 := by
  obtain ⟨a', m', h1, h2, h3⟩ := h
  simp only [bitsN, chkF, Option.some.injEq, Prod.mk.injEq] at h1
  obtain ⟨rfl, rfl⟩ := h1
  exact ⟨h2, h3⟩
theorem rest_le (s j a m : Nat) (h : RestT s j a m) : m ≤ 513 := by
  obtain ⟨a', m', h1, h2, h3⟩ := h
  have := chkF_le s _ _ _ _ _ h1
  have := allF_le _ _ _ _ h3
  omega
/-- A bit more: there is a place behind it, or it is the next new one. -/
theorem rest_step (s j a m : Nat) (h : RestT s (j + 1) a m) :
    (nx (bN ((code s).testBit j)) a = m ∧ m < 513 ∧ ¬ sy m < s ∧ RestT s j m (m + 1)) ∨
    (nx (bN ((code s).testBit j)) a ≠ 0 ∧ nx (bN ((code s).testBit j)) a < m ∧ RestT s j (nx (bN ((code s).testBit j)) a) m) := by
  have hle := rest_le s _ _ _ h
  obtain ⟨a', m', h1, h2, h3⟩ := h
  rw [bitsN_succ, chkF] at h1
  split at h1
  · rename_i h4
    split at h1
    · cases h1
    · rename_i h5
      have hr : RestT s j m (m + 1) := ⟨a', m', h1, h2, h3⟩
      exact .inl ⟨h4, by have := rest_le _ _ _ _ hr; omega, h5, hr⟩
  · split at h1
    · cases h1
    · rename_i h5
      split at h1
      · rename_i h6
        exact .inr ⟨h5, h6, a', m', h1, h2, h3⟩
      · cases h1
theorem cellT_next (m s a b : Nat) (hb : b < 2) : cellT m s (3 * a + b) = if nx b a < m then (nx b a : Int) else 0 := by
  rw [cellT, show (3 * a + b) % 3 = b from by omega, show (3 * a + b) / 3 = a from by omega, if_pos hb]
theorem cellT_sym (m s a : Nat) : cellT m s (3 * a + 2) = if sy a < s then (sy a : Int) else -1 := by
  rw [cellT, show (3 * a + 2) % 3 = 2 from by omega, show (3 * a + 2) / 3 = a from by omega, if_neg (by omega)]
end Huf
end Go.Proofs.YtabpoejimnoamaaDoor
