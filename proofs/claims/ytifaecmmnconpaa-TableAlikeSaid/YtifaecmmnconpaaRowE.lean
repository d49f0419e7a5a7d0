/- Rows of elements of several cells each: as arguments, as rows of the call's own, and appended. -/
import Derived.WalkKit
import Derived.Lib.Hide
import Derived.Deep.RegionLaw
import Derived.Deep.AppendLies
import Derived.Laws.AppendOwnNone
import Derived.Test.YtifaecmmnconpaaMem
import Derived.Test.YtifaecmmnconpaaArg
import Derived.Test.YtifaecmmnconpaaObj
namespace Go.Proofs.Ytifaecmmnconpaa
open Go.RowKit
set_option linter.unusedVariables false
namespace Rw
open Mem Arg

/-- How an element lies in cells. -/
structure Enc (α : Type) where
  enc : α → List Value
  k : Nat
  pos : 0 < k
  len : ∀ x, (enc x).length = k
  one : ∀ x v, v ∈ enc x → v.oneCell' = true

/-- An element at a place of a block. -/
def CE {α : Type} (E : Enc α) (w : World) (b o : Nat) (x : α) : Prop := ∀ r v, (E.enc x)[r]? = some v → w.cell? ⟨b, o + r, none⟩ = some v
def flat {α : Type} (E : Enc α) (l : List α) : List Value := l.flatMap E.enc
theorem flat_len {α : Type} (E : Enc α) (l : List α) : (flat E l).length = l.length * E.k := by
  induction l with
  | nil => simp [flat]
  | cons x r ih => simp only [flat, List.flatMap_cons, List.length_append, E.len, List.length_cons] at ih ⊢; rw [ih, Nat.add_mul]; omega
theorem flat_append {α : Type} (E : Enc α) (a b : List α) : flat E (a ++ b) = flat E a ++ flat E b := by simp [flat]
theorem flat_one {α : Type} (E : Enc α) (l : List α) : ∀ u ∈ flat E l, u.oneCell' = true := fun u hu => by
  simp only [flat, List.mem_flatMap] at hu
  obtain ⟨x, _, hx⟩ := hu
  exact E.one x u hx
/-- A flat row's cell lies in one element. -/
theorem flat_at {α : Type} (E : Enc α) : ∀ (l : List α) (j : Nat) (u : Value), (flat E l)[j]? = some u → ∃ i r, ∃ h : i < l.length, j = i * E.k + r ∧ (E.enc l[i])[r]? = some u
  | [], j, u, h => by simp [flat] at h
  | x :: q, j, u, h => by
    rw [flat, List.flatMap_cons] at h
    by_cases hj : j < E.k
    · rw [List.getElem?_append_left (by rw [E.len]; exact hj)] at h
      exact ⟨0, j, by simp, by simp, h⟩
    · rw [List.getElem?_append_right (by rw [E.len]; omega), E.len] at h
      obtain ⟨i, r, hi, hj', hu⟩ := flat_at E q _ u h
      exact ⟨i + 1, r, by simpa using hi, by rw [Nat.add_mul]; omega, hu⟩
theorem flat_of {α : Type} (E : Enc α) : ∀ (l : List α) (i r : Nat) (h : i < l.length) (u : Value), (E.enc l[i])[r]? = some u → (flat E l)[i * E.k + r]? = some u
  | x :: q, 0, r, h, u, hu => by
    have hr : r < E.k := by
      rcases Nat.lt_or_ge r E.k with h' | h'
      · exact h'
      · rw [List.getElem?_eq_none (by rw [E.len]; exact h')] at hu; cases hu
    rw [flat, List.flatMap_cons, Nat.zero_mul, Nat.zero_add, List.getElem?_append_left (by rw [E.len]; exact hr)]
    exact hu
  | x :: q, i + 1, r, h, u, hu => by
    rw [flat, List.flatMap_cons, List.getElem?_append_right (by rw [E.len, Nat.add_mul]; omega), E.len, show (i + 1) * E.k + r - E.k = i * E.k + r from by rw [Nat.add_mul]; omega]
    exact flat_of E q i r (by simpa using h) u hu

/-- A slice value leads to these elements. -/
def RowE {α : Type} (E : Enc α) (w : World) (ad : Option Addr) (l : List α) : Prop := RowL E.k (CE E) w ad l
theorem CE_local {α : Type} (E : Enc α) : Local (CE E) := fun w w' b o x hb h r v hv => (World.cell?_of_block (a := ⟨b, o + r, none⟩) hb).trans (h r v hv)
theorem RowE.below {α : Type} {E : Enc α} {w w' : World} (hb : Below w.heap.size w w') {ad : Option Addr} {l : List α} (h : RowE E w ad l) : RowE E w' ad l := by
  rcases h with h | ⟨b, off, rfl, hc⟩
  · exact .inl h
  · exact .inr ⟨b, off, rfl, fun i hi r v hv => below_cell hb (hc i hi r v hv)⟩
theorem RowE.block {α : Type} {E : Enc α} {w w' : World} {ad : Option Addr} {l : List α} (h : RowE E w ad l) (hb : ∀ b off, ad = some ⟨b, off, none⟩ → w'.heap[b]? = w.heap[b]?) : RowE E w' ad l := RowL.kept (CE_local E) h hb
/-- The first ones. -/
theorem RowE.take {α : Type} {E : Enc α} {w : World} {ad : Option Addr} {l : List α} (h : RowE E w ad l) (n : Nat) : RowE E w ad (l.take n) := by
  rcases h with rfl | ⟨b, off, rfl, hc⟩
  · exact .inl (by simp)
  · refine .inr ⟨b, off, rfl, fun i hi => ?_⟩
    rw [List.getElem_take]
    exact hc i (by rw [List.length_take] at hi; omega)
theorem RowE.drop {α : Type} {E : Enc α} {w : World} {b off : Nat} {l : List α} (h : RowE E w (some ⟨b, off, none⟩) l) (n : Nat) : RowE E w (some ⟨b, off + n * E.k, none⟩) (l.drop n) := by
  rcases h with rfl | ⟨b', off', e, hc⟩
  · exact .inl (by simp)
  · simp only [Option.some.injEq, Addr.mk.injEq, and_true] at e
    obtain ⟨rfl, rfl⟩ := e
    refine .inr ⟨b, _, rfl, fun i hi r v hv => ?_⟩
    rw [List.getElem_drop] at hv
    have := hc (n + i) (by rw [List.length_drop] at hi; omega) r v hv
    rwa [show off + (n + i) * E.k + r = off + n * E.k + i * E.k + r from by rw [Nat.add_mul]; omega] at this
theorem RowE.news {α : Type} {E : Enc α} {w : World} {ad : Addr} {l : List α} (h : RowE E w (some ad) l) : ∀ j u, (flat E l)[j]? = some u → w.cell? (ad.add j) = some u := by
  intro j u hj
  rcases h with rfl | ⟨b, off, e, hc⟩
  · simp [flat] at hj
  · simp only [Option.some.injEq] at e
    subst e
    obtain ⟨i, r, hi, rfl, hu⟩ := flat_at E l j u hj
    rw [add_none, ← Nat.add_assoc]
    exact hc i hi r u hu
theorem RowE.of_own {α : Type} {E : Enc α} {w : World} {base n cap : Nat} {e : TypeId} {ad : Option Addr} {l : List α} (h : w.ownsRow base e E.k (.slice ad n cap) l.length (flat E l)) : RowE E w ad l := by
  rcases h.2 with ⟨h1, h2⟩ | ⟨g, cap', cur, h1, _⟩
  · exact .inl (List.eq_nil_iff_length_eq_zero.mpr h2)
  · have h' := h
    simp only [Value.slice.injEq] at h1
    obtain ⟨rfl, rfl, rfl⟩ := h1
    refine .inr ⟨g, 0, rfl, fun i hi r u hu => ?_⟩
    have h3 := flat_of E l i r hi u hu
    have hlt : i * E.k + r < l.length * E.k := by
      rw [← flat_len E l]
      exact (List.getElem?_eq_some_iff.1 h3).1
    rw [Nat.zero_add, h'.cellAt (i * E.k + r) hlt]
    exact h3
theorem own_blk {w : World} {base n cap : Nat} {e : TypeId} {size : Nat} {ad : Option Addr} {xs : List Value} {m : Nat} (h : w.ownsRow base e size (.slice ad n cap) m xs) : ∀ b o s, ad = some ⟨b, o, s⟩ → base ≤ b ∧ b < w.heap.size := by
  intro b o s hb
  rcases h.2 with ⟨h1, _⟩ | ⟨g, cap', cur, h1, hg, hh, _⟩
  · simp only [Value.slice.injEq] at h1
    rw [h1.1] at hb; cases hb
  · simp only [Value.slice.injEq] at h1
    rw [h1.1] at hb
    simp only [Option.some.injEq, Addr.mk.injEq] at hb
    obtain ⟨rfl, _⟩ := hb
    exact ⟨hg, (Array.getElem?_eq_some_iff.1 hh).1⟩
theorem own_len {w : World} {base n cap : Nat} {e : TypeId} {size : Nat} {ad : Option Addr} {xs : List Value} {m : Nat} (h : w.ownsRow base e size (.slice ad n cap) m xs) : n = m ∧ n ≤ cap ∧ cap ≤ maxLen ∧ (ad = none → cap = 0) := by
  rcases h.2 with ⟨h1, h2⟩ | ⟨g, cap', cur, h1, hg, hh, h3, h4, _⟩
  · simp only [Value.slice.injEq] at h1
    obtain ⟨rfl, rfl, rfl⟩ := h1
    exact ⟨h2.symm, Nat.le_refl _, by unfold maxLen; omega, fun _ => rfl⟩
  · simp only [Value.slice.injEq] at h1
    obtain ⟨rfl, rfl, rfl⟩ := h1
    exact ⟨rfl, h3, h4, fun h => by cases h⟩

section
variable {P : Program} {w : World} {ops : Array Oper} {o : Oper} {a : Act} {Q : Exit → Act → World → Prop} {t e : TypeId} {i : TypeInfo} {z : Value} {by' : Nat}

/-- 'append(out, l...)', out nil or the call's own row: as a step. -/
theorem wp_append_rows {α : Type} (E : Enc α) {K : Act → World → Prop} (ht : P.underlying t = some (.slice e)) (hi : P.info? e = some i) (hz : i.zero = some z) (hsize : i.size = E.k) (hby : i.bytes = by') (hzs : z.cells.size = E.k)
    (s x : Operand) (ho : o.op = .call { callee := .builtin .append, args := #[s, x], argTypes := #[t, t] })
    (base : Nat) (v : Value) (n : Nat) (l : List α) (hs : a.eval s = v) (hn : n = l.length) (hown : w.ownsRow base e E.k v n (flat E l))
    (a2 : Option Addr) (m : Nat) (l2 : List α) (c : Nat) (hx : a.eval x = .slice a2 m c) (hm : m = l2.length) (hnil : a2 = none → c = 0 ∧ m = 0) (hrow : RowE E w a2 l2)
    (hlen : (n + m) ≤ maxLen) (hbytes : (n + m) * by' ≤ 140737488355328) (hbase : base ≤ w.heap.size)
    (h : ∀ (ad' : Option Addr) (cap' : Nat) w', Hid (w'.ownsRow base e E.k (.slice ad' (n + m) cap') (n + m) (flat E (l ++ l2))) → Hid (w.grownBy w' v.ownBlock) → K (a.put o.dst (.slice ad' (n + m) cap')) w') :
    o.wp P a w K Q := by
  subst hm
  cases a2 with
  | none =>
    obtain ⟨rfl, h0⟩ := hnil rfl
    have hl2 : l2 = [] := List.eq_nil_iff_length_eq_zero.mpr h0
    subst hl2
    have hrun := run_append_owned_none (P := P) (w := w) base t o.type e i E.k ht hi v n (flat E l) hown
    have hv : ∃ ad cap, v = .slice ad n cap := by
      rcases hown.2 with ⟨rfl, hn⟩ | ⟨g, cap, cur, rfl, _⟩
      · exact ⟨none, 0, by rw [hn]⟩
      · exact ⟨_, _, rfl⟩
    obtain ⟨ad, cap, rfl⟩ := hv
    unfold Oper.wp
    simp [execOp, ho, resolve, invoke, builtin, hs, hx, hrun, Result.andThen]
    exact h ad cap w (Lib.hid (by simpa using hown)) (Lib.hid ⟨rfl, rfl, rfl, Nat.le_refl _, fun _ _ _ => rfl⟩)
  | some ad =>
    refine wp_append_own w s x t ho base e i z E.k by' ht hi hz hsize hby hzs E.pos v n (flat E l) hs hown ad l2.length c (flat E l2) hx (flat_len E l2) hrow.news (flat_one E l2) hlen hbytes hbase fun v' w' h2 h3 _ => ?_
    have hv : ∃ ad' cap', v' = .slice ad' (n + l2.length) cap' := by
      rcases h2.2 with ⟨rfl, hn⟩ | ⟨g, cap, cur, rfl, _⟩
      · exact ⟨none, 0, by rw [hn]⟩
      · exact ⟨_, _, rfl⟩
    obtain ⟨ad', cap', rfl⟩ := hv
    exact h ad' cap' w' (Lib.hid (by rw [flat_append]; exact h2)) (Lib.hid h3)

theorem step_append_rows {α : Type} (E : Enc α) {K : Act → World → Prop} {Ee : Prop} (ht : P.underlying t = some (.slice e)) (hi : P.info? e = some i) (hz : i.zero = some z) (hsize : i.size = E.k) (hby : i.bytes = by') (hzs : z.cells.size = E.k)
    (hgd : o.guard = none) (s x : Operand) (ho : o.op = .call { callee := .builtin .append, args := #[s, x], argTypes := #[t, t] })
    (base : Nat) (v : Value) (n : Nat) (l : List α) (hs : a.eval s = v) (hn : n = l.length) (hown : w.ownsRow base e E.k v n (flat E l))
    (a2 : Option Addr) (m : Nat) (l2 : List α) (c : Nat) (hx : a.eval x = .slice a2 m c) (hm : m = l2.length) (hnil : a2 = none → c = 0 ∧ m = 0) (hrow : RowE E w a2 l2)
    (hlen : (n + m) ≤ maxLen) (hbytes : (n + m) * by' ≤ 140737488355328) (hbase : base ≤ w.heap.size)
    (h : ∀ (ad' : Option Addr) (cap' : Nat) w', Hid (w'.ownsRow base e E.k (.slice ad' (n + m) cap') (n + m) (flat E (l ++ l2))) → Hid (w.grownBy w' v.ownBlock) → K (a.put o.dst (.slice ad' (n + m) cap')) w') :
    if Region.wanted o (yielded ops a.tmps) = true then Oper.wp P o a w K Q else Ee := by
  have hw : Region.wanted o (yielded ops a.tmps) = true := by simp [Region.wanted, hgd]
  rw [if_pos hw]
  exact wp_append_rows E ht hi hz hsize hby hzs s x ho base v n l hs hn hown a2 m l2 c hx hm hnil hrow hlen hbytes hbase h

theorem list_append_rows {α : Type} (E : Enc α) {rest : List Oper} (ht : P.underlying t = some (.slice e)) (hi : P.info? e = some i) (hz : i.zero = some z) (hsize : i.size = E.k) (hby : i.bytes = by') (hzs : z.cells.size = E.k)
    (hgd : o.guard = none) (s x : Operand) (ho : o.op = .call { callee := .builtin .append, args := #[s, x], argTypes := #[t, t] })
    (base : Nat) (v : Value) (n : Nat) (l : List α) (hs : a.eval s = v) (hn : n = l.length) (hown : w.ownsRow base e E.k v n (flat E l))
    (a2 : Option Addr) (m : Nat) (l2 : List α) (c : Nat) (hx : a.eval x = .slice a2 m c) (hm : m = l2.length) (hnil : a2 = none → c = 0 ∧ m = 0) (hrow : RowE E w a2 l2)
    (hlen : (n + m) ≤ maxLen) (hbytes : (n + m) * by' ≤ 140737488355328) (hbase : base ≤ w.heap.size)
    (h : ∀ (ad' : Option Addr) (cap' : Nat) w', Hid (w'.ownsRow base e E.k (.slice ad' (n + m) cap') (n + m) (flat E (l ++ l2))) → Hid (w.grownBy w' v.ownBlock) → wpList P ops Q rest (a.put o.dst (.slice ad' (n + m) cap')) w') :
    wpList P ops Q (o :: rest) a w :=
  wpList_plain hgd fun _ hK => wp_append_rows E ht hi hz hsize hby hzs s x ho base v n l hs hn hown a2 m l2 c hx hm hnil hrow hlen hbytes hbase fun ad' cap' w' h1 h2 => hK _ _ (h ad' cap' w' h1 h2)
end
end Rw
end Go.Proofs.Ytifaecmmnconpaa
