/- A slice that lies in a row with spare cells (at any place of it): appended to, its first element struck. -/
import Derived.Test.YtifaecmmnconpaaRowE
import Derived.Test.YtifaecmmnconpaaObj
import Derived.ArgAppend
import Derived.Maps.AppendAt
import Derived.WalkKit
import Derived.Lib.Hide
namespace Go.Proofs.Ytifaecmmnconpaa
open Go.RowKit
set_option linter.unusedVariables false
namespace Rw
open Mem Arg

/-- A slice value leads to these elements, in a row whose cells up to the capacity may be written. -/
structure QRow {α : Type} (E : Enc α) (w : World) (ad : Option Addr) (cap : Nat) (l : List α) : Prop where
  le : l.length ≤ cap
  max : cap ≤ maxLen
  nil : ad = none → cap = 0
  lies : ∀ a, ad = some a → ∃ b off, a = ⟨b, off, none⟩ ∧ b < w.heap.size ∧ (∀ i, (h : i < l.length) → CE E w b (off + i * E.k) l[i]) ∧ ∀ j, j < cap * E.k → (w.cell? ⟨b, off + j, none⟩).isSome = true ∧ w.frozen? ⟨b, off + j, none⟩ = false

theorem QRow.bare {α : Type} (E : Enc α) (w : World) : QRow E w none 0 [] := ⟨Nat.le_refl _, by unfold maxLen; omega, fun _ => rfl, fun a h => by cases h⟩
theorem QRow.row {α : Type} {E : Enc α} {w : World} {ad : Option Addr} {cap : Nat} {l : List α} (h : QRow E w ad cap l) : RowE E w ad l := by
  cases ad with
  | none =>
    have h0 := h.nil rfl
    exact .inl (List.eq_nil_iff_length_eq_zero.mpr (by have := h.le; omega))
  | some a =>
    obtain ⟨b, off, rfl, _, hc, _⟩ := h.lies a rfl
    exact .inr ⟨b, off, rfl, hc⟩
theorem QRow.block {α : Type} {E : Enc α} {w w' : World} {ad : Option Addr} {cap : Nat} {l : List α} (h : QRow E w ad cap l) (hs : w.heap.size ≤ w'.heap.size) (hb : ∀ b o s, ad = some ⟨b, o, s⟩ → w'.heap[b]? = w.heap[b]?) : QRow E w' ad cap l := by
  refine ⟨h.le, h.max, h.nil, fun a e => ?_⟩
  obtain ⟨b, off, rfl, h1, h2, h3⟩ := h.lies a e
  have hb' := hb b off _ e
  exact ⟨b, off, rfl, by omega, fun i hi => CE_local E w w' b _ _ hb' (h2 i hi), fun j hj => ⟨by rw [World.cell?_of_block (a := ⟨b, off + j, none⟩) hb']; exact (h3 j hj).1, by rw [World.frozen?_of_block (a := ⟨b, off + j, none⟩) hb']; exact (h3 j hj).2⟩⟩
theorem QRow.below {α : Type} {E : Enc α} {w w' : World} {ad : Option Addr} {cap : Nat} {l : List α} (h : QRow E w ad cap l) (hb : Below w.heap.size w w') : QRow E w' ad cap l :=
  h.block hb.size (fun b o s e => by
    obtain ⟨b', off, e', h1, _⟩ := h.lies _ e
    simp only [Addr.mk.injEq] at e'
    obtain ⟨rfl, _⟩ := e'
    exact hb.block b h1)
theorem QRow.of_own {α : Type} {E : Enc α} {w : World} {base n cap : Nat} {e : TypeId} {ad : Option Addr} {l : List α} (h : w.ownsRow base e E.k (.slice ad n cap) l.length (flat E l)) : QRow E w ad cap l := by
  obtain ⟨hn, hle, hmx, hz⟩ := own_len h
  have hr := RowE.of_own h
  refine ⟨by omega, hmx, hz, fun a e => ?_⟩
  rcases h.2 with ⟨h1, h2⟩ | ⟨g, cap', cur, h1, hg, hh, h3, h4, h5, h6⟩
  · simp only [Value.slice.injEq] at h1
    rw [h1.1] at e; cases e
  · simp only [Value.slice.injEq] at h1
    obtain ⟨rfl, rfl, rfl⟩ := h1
    simp only [Option.some.injEq] at e
    subst e
    refine ⟨g, 0, rfl, (Array.getElem?_eq_some_iff.1 hh).1, fun i hi => ?_, fun j hj => ⟨?_, frozen_of_row _ _ _ _ _ hh⟩⟩
    · rcases hr with h0 | ⟨b', off', e', hc⟩
      · rw [h0] at hi; cases hi
      · simp only [Option.some.injEq, Addr.mk.injEq, and_true] at e'
        obtain ⟨rfl, rfl⟩ := e'
        exact hc i hi
    · rw [Nat.zero_add, Obj.cell_at hh j, Array.getElem?_eq_getElem (by omega)]; rfl

theorem grown_setCells (b : Nat) : ∀ (vs : List Value) (o : Nat) (w : World), w.grownBy (w.setCells b o vs) (some b)
  | [], _, w => ⟨rfl, rfl, rfl, Nat.le_refl _, fun _ _ _ => rfl⟩
  | v :: r, o, w => World.grownBy.trans (b := w.setCell ⟨b, o, .none⟩ v) ⟨rfl, rfl, rfl, by simp [World.setCell], fun k hk hne => Below.heap_setCell _ _ _ _ (fun e => hne (by simp [e]))⟩ (grown_setCells b r (o + 1) _)

section
variable {P : Program} {t e : TypeId} {i : TypeInfo} {z : Value} {by' : Nat}
/-- 'append(q, l...)'. -/
theorem run_append_que {α : Type} (E : Enc α) (w : World) (ty : TypeId) (ht : P.underlying t = some (.slice e)) (hi : P.info? e = some i) (hz : i.zero = some z) (hsize : i.size = E.k) (hby : i.bytes = by') (hzs : z.cells.size = E.k)
    (ad : Option Addr) (cap : Nat) (l : List α) (h : QRow E w ad cap l) (a2 : Addr) (c : Nat) (l2 : List α) (hr : RowE E w (some a2) l2) (hlen : l.length + l2.length ≤ maxLen) (hbytes : (l.length + l2.length) * by' ≤ 140737488355328) :
    ∃ ad' cap' w', (Builtin.append_ #[t, t] ty #[.slice ad l.length cap, .slice (some a2) l2.length c]).run P w = .ok (.slice ad' (l.length + l2.length) cap') w' ∧ QRow E w' ad' cap' (l ++ l2) ∧ w.grownBy w' (ad.map (·.block)) ∧
      (∀ b o s, ad' = some ⟨b, o, s⟩ → (∃ o', ad = some ⟨b, o', .none⟩) ∨ w.heap.size ≤ b) := by
  by_cases hroom : l.length + l2.length ≤ cap ∧ 0 < cap
  · obtain ⟨hroom, hpos⟩ := hroom
    cases ad with
    | none => have := h.nil rfl; omega
    | some a =>
      obtain ⟨b, off, rfl, hb, hc, hsp⟩ := h.lies a rfl
      have hnl := flat_len E l2
      have hsp' : ∀ j, j < (flat E l2).length → (w.cell? ⟨b, off + l.length * i.size + j, .none⟩).isSome = true ∧ w.frozen? ⟨b, off + l.length * i.size + j, .none⟩ = false := fun j hj => by
        have hlt : l.length * E.k + j < cap * E.k := by
          have : (l.length + l2.length) * E.k ≤ cap * E.k := Nat.mul_le_mul_right _ hroom
          rw [Nat.add_mul] at this
          omega
        have := hsp (l.length * E.k + j) hlt
        rw [← Nat.add_assoc] at this
        rw [hsize]; exact this
      have hrun := run_append_room_cells (P := P) w t ty e i ht hi b off l.length cap a2 l2.length c (flat E l2) (by rw [hnl, hsize]) hr.news (flat_one E l2) hroom (fun j hj => (hsp' j hj).1) (fun j hj => (hsp' j hj).2)
      rw [hsize] at hrun
      refine ⟨some ⟨b, off, .none⟩, cap, _, hrun, ⟨by simpa using hroom, h.max, (fun e => by cases e), fun a e => ?_⟩, grown_setCells b _ _ w, fun b' o s e => .inl ?_⟩
      · simp only [Option.some.injEq] at e
        subst e
        have hin := World.cell?_setCells_in b (flat E l2) (off + l.length * E.k) w (fun j hj => by have := (hsp' j hj).1; rwa [hsize] at this)
        refine ⟨b, off, rfl, Nat.lt_of_lt_of_le hb (grown_setCells b _ _ w).size, fun i' hi' r u hu => ?_, fun j hj => ⟨?_, by rw [World.frozen?_setCells]; exact (hsp j hj).2⟩⟩
        · by_cases hlt : i' < l.length
          · rw [List.getElem_append_left hlt] at hu
            have hr' : r < E.k := by
              have := (List.getElem?_eq_some_iff.1 hu).1
              rwa [E.len] at this
            rw [World.cell?_setCells_out b _ _ _ _ (fun _ _ => Or.inl (by
              show off + i' * E.k + r < off + l.length * E.k
              have : (i' + 1) * E.k ≤ l.length * E.k := Nat.mul_le_mul_right _ hlt
              rw [Nat.add_mul] at this; omega))]
            exact hc i' hlt r u hu
          · rw [List.getElem_append_right (by omega)] at hu
            have hi2 : i' - l.length < l2.length := by simp at hi'; omega
            have hf := flat_of E l2 (i' - l.length) r hi2 u hu
            obtain ⟨hjl, hje⟩ := List.getElem?_eq_some_iff.1 hf
            have := hin _ hjl
            rw [hje] at this
            rw [← this]
            congr 2
            have e1 : i' * E.k = l.length * E.k + (i' - l.length) * E.k := by rw [← Nat.add_mul]; congr 1; omega
            rw [e1]; omega
        · by_cases hj2 : l.length * E.k ≤ j ∧ j < l.length * E.k + (flat E l2).length
          · have := hin (j - l.length * E.k) (by omega)
            rw [show off + j = off + l.length * E.k + (j - l.length * E.k) by omega, this]; rfl
          · rw [World.cell?_setCells_out b _ _ _ _ (fun _ _ => by show off + j < off + l.length * E.k ∨ off + l.length * E.k + (flat E l2).length ≤ off + j; omega)]
            exact (hsp j hj).1
      · simp only [Option.some.injEq, Addr.mk.injEq] at e
        exact ⟨off, by rw [e.1]⟩
  · have hlo := flat_len E l
    have key : ∃ v' w', (Builtin.append_ #[t, t] ty #[.slice ad l.length cap, .slice (some a2) l2.length c]).run P w = .ok v' w' ∧ ((w'.ownsRow w.heap.size e E.k v' (l.length + l2.length) (flat E l ++ flat E l2) ∧ w.grownBy w' .none) ∨ (v' = .slice ad 0 0 ∧ w' = w ∧ l = [] ∧ l2 = [] ∧ cap = 0)) := by
      cases ad with
      | none =>
        have h0 := h.nil rfl
        subst h0
        have hl0 : l = [] := List.eq_nil_iff_length_eq_zero.mpr (by have := h.le; omega)
        subst hl0
        obtain ⟨v', w', hrun, r1, r2, _⟩ := run_append_own (P := P) w w.heap.size t ty e i z E.k by' ht hi hz hsize hby hzs E.pos (.slice .none 0 0) 0 [] (World.ownsRow_nil w _ e E.k) a2 l2.length c (flat E l2) (flat_len E l2) hr.news (flat_one E l2) (by simpa using hlen) (by simpa using hbytes) (Nat.le_refl _)
        exact ⟨v', w', hrun, .inl ⟨by simpa [flat] using r1, r2⟩⟩
      | some a =>
        by_cases hz0 : cap < l.length + l2.length
        · obtain ⟨b, off, rfl, hb, hc, hsp⟩ := h.lies a rfl
          obtain ⟨v', w', hrun, r1, r2⟩ := run_append_arg_grows (P := P) w t ty e i z E.k by' ht hi hz hsize hby hzs E.pos ⟨b, off, .none⟩ l.length cap (flat E l) (flat_len E l) (fun j u hj => RowE.news (.inr ⟨b, off, rfl, hc⟩) j u hj) a2 l2.length c (flat E l2) (flat_len E l2) hr.news hz0 hlen hbytes
          exact ⟨v', w', hrun, .inl ⟨r1, r2⟩⟩
        · have hcap : cap = 0 := by omega
          subst hcap
          have hl0 : l = [] := List.eq_nil_iff_length_eq_zero.mpr (by omega)
          have hl2 : l2 = [] := List.eq_nil_iff_length_eq_zero.mpr (by omega)
          subst hl0 hl2
          obtain ⟨b, off, rfl, hb, hc, hsp⟩ := h.lies a rfl
          have hrun := run_append_room_cells (P := P) w t ty e i ht hi b off 0 0 a2 0 c [] (by simp) (fun j u hj => by simp at hj) (by simp) (Nat.le_refl _) (fun j hj => by simp at hj) (fun j hj => by simp at hj)
          exact ⟨_, _, hrun, .inr ⟨rfl, rfl, rfl, rfl, rfl⟩⟩
    obtain ⟨v', w', hrun, ⟨r1, r2⟩ | ⟨rfl, rfl, rfl, rfl, rfl⟩⟩ := key
    · obtain ⟨ad', cap', rfl⟩ : ∃ ad' cap', v' = .slice ad' (l.length + l2.length) cap' := by
        rcases r1.2 with ⟨rfl, hn⟩ | ⟨g, cap, cur, rfl, _⟩
        · exact ⟨.none, 0, by rw [hn]⟩
        · exact ⟨_, _, rfl⟩
      rw [← flat_append, ← List.length_append] at r1
      refine ⟨ad', cap', w', hrun, QRow.of_own r1, ⟨r2.os, r2.tape, r2.output, r2.size, fun k hk _ => r2.block k hk (by simp)⟩, fun b o s e => .inr ?_⟩
      exact (own_blk r1 b o s e).1
    · refine ⟨ad, 0, w', hrun, by simpa using h, ⟨rfl, rfl, rfl, Nat.le_refl _, fun _ _ _ => rfl⟩, fun b o s e => .inl ?_⟩
      obtain ⟨b', off, e', _⟩ := h.lies _ e
      rw [e, e']
      simp only [Addr.mk.injEq] at e'
      exact ⟨off, by rw [e'.1]⟩

variable {w : World} {ops : Array Oper} {o : Oper} {a : Act} {Q : Exit → Act → World → Prop}
/-- As a step of a region that draws its order. -/
theorem step_append_que {α : Type} (E : Enc α) {K : Act → World → Prop} {Ee : Prop} (ht : P.underlying t = some (.slice e)) (hi : P.info? e = some i) (hz : i.zero = some z) (hsize : i.size = E.k) (hby : i.bytes = by') (hzs : z.cells.size = E.k)
    (hgd : o.guard = none) (s x : Operand) (ho : o.op = .call { callee := .builtin .append, args := #[s, x], argTypes := #[t, t] })
    (ad : Option Addr) (n cap : Nat) (l : List α) (hs : a.eval s = .slice ad n cap) (hn : n = l.length) (h : QRow E w ad cap l)
    (a2 : Addr) (m : Nat) (l2 : List α) (c : Nat) (hx : a.eval x = .slice (some a2) m c) (hm : m = l2.length) (hr : RowE E w (some a2) l2)
    (hlen : n + m ≤ maxLen) (hbytes : (n + m) * by' ≤ 140737488355328)
    (hK : ∀ (ad' : Option Addr) (cap' : Nat) w', Hid (QRow E w' ad' cap' (l ++ l2)) → Hid (w.grownBy w' (ad.map (·.block))) → Hid (∀ b o s, ad' = some ⟨b, o, s⟩ → (∃ o', ad = some ⟨b, o', .none⟩) ∨ w.heap.size ≤ b) → K (a.put o.dst (.slice ad' (n + m) cap')) w') :
    if Region.wanted o (yielded ops a.tmps) = true then Oper.wp P o a w K Q else Ee := by
  have hw : Region.wanted o (yielded ops a.tmps) = true := by simp [Region.wanted, hgd]
  rw [if_pos hw]
  subst hn hm
  obtain ⟨ad', cap', w', hrun, h1, h2, h3⟩ := run_append_que E w o.type ht hi hz hsize hby hzs ad cap l h a2 c l2 hr hlen hbytes
  unfold Oper.wp
  simp [execOp, ho, resolve, invoke, builtin, hs, hx, hrun, Result.andThen]
  exact hK _ _ _ (Lib.hid h1) (Lib.hid h2) (Lib.hid h3)
end
end Rw
end Go.Proofs.Ytifaecmmnconpaa
