/- Arguments of any shape that holds numbers, bools, texts, structs and slices of such: what their cells hold, told by a list of leaves. -/
import Derived.WalkKit
import Derived.ProofKit
import Derived.OpenShut
import Derived.SizedLaws
import Derived.ChangeArms
import Derived.Deep.Slices
import Derived.Lib.Hide
namespace Go.Proofs.Ytifaecmmnconpaa
open Go.RowKit
namespace Arg

/-- What one cell may hold. -/
inductive Sh where
  | int (k : IntKind)
  | bool
  | str
  | slc (bytes : Nat) (es : List Sh)

mutual
/-- A value of one cell is of this shape; a slice's cells, spare ones too, are there. -/
def LeafOk (w : World) : Sh → Value → Prop
  | .int k, v => ∃ z, v = .int k z ∧ (Lit.int k z).wf = true
  | .bool, v => ∃ b, v = .bool b
  | .str, v => ∃ s, v = .string s ∧ s.size ≤ 140737488351232
  | .slc by' es, v => v = .slice none 0 0 ∨ ∃ a len cap, v = .slice (some a) len cap ∧ len ≤ cap ∧ cap ≤ maxLen ∧ cap * by' ≤ 140737488351232 ∧ ∀ i, i < cap → RowOk w es a (i * es.length)
/-- The cells from a place on. -/
def RowOk (w : World) : List Sh → Addr → Nat → Prop
  | [], _, _ => True
  | s :: r, a, o => (∃ v, w.cell? (a.add o) = some v ∧ LeafOk w s v) ∧ RowOk w r a (o + 1)
end

/-- Values, one by one. -/
def AllOk (w : World) : List Sh → List Value → Prop
  | [], [] => True
  | s :: r, v :: q => LeafOk w s v ∧ AllOk w r q
  | _, _ => False

theorem AllOk.len {w : World} : ∀ {ls : List Sh} {cs : List Value}, AllOk w ls cs → cs.length = ls.length
  | [], [], _ => rfl
  | _ :: _, _ :: _, h => by rw [List.length_cons, List.length_cons, AllOk.len h.2]
  | [], _ :: _, h => h.elim
  | _ :: _, [], h => h.elim
theorem AllOk.append {w : World} : ∀ {a : List Sh} {x : List Value} {b : List Sh} {y : List Value}, AllOk w a x → AllOk w b y → AllOk w (a ++ b) (x ++ y)
  | [], [], _, _, _, h => h
  | _ :: _, _ :: _, _, _, h, h' => ⟨h.1, AllOk.append h.2 h'⟩
  | [], _ :: _, _, _, h, _ => h.elim
  | _ :: _, [], _, _, h, _ => h.elim
theorem AllOk.row {w : World} (a : Addr) : ∀ {ls : List Sh} {cs : List Value} (o : Nat), AllOk w ls cs → (∀ i, i < cs.length → w.cell? (a.add (o + i)) = cs[i]?) → RowOk w ls a o
  | [], _, _, _, _ => by rw [RowOk]; trivial
  | s :: r, v :: q, o, h, hc => by
    rw [RowOk]
    refine ⟨⟨v, (hc 0 (by simp)).trans rfl, h.1⟩, AllOk.row a (o + 1) h.2 fun i hi => ?_⟩
    have := hc (i + 1) (by simpa using hi)
    rwa [show o + (i + 1) = o + 1 + i from by omega] at this
  | _ :: _, [], _, h, _ => h.elim

def fieldsL (P : Program) (L : TypeId → Option (List Sh)) : List Field → Nat → Option (List Sh)
  | [], _ => some []
  | f :: r, o => match L f.type with
    | none => none
    | some a => if f.offset = o ∧ P.cellsOf f.type = a.length then (fieldsL P L r (o + a.length)).map (a ++ ·) else none
/-- A type's leaves. -/
def leaves (P : Program) : Nat → TypeId → Option (List Sh)
  | 0, _ => none
  | n + 1, t => match P.underlying t with
    | some (.int k) => some [.int k]
    | some .bool => some [.bool]
    | some .string => some [.str]
    | some (.slice e) => match leaves P n e with
      | none => none
      | some es => if P.cellsOf e = es.length then some [.slc (P.bytesOf e) es] else none
    | some (.struct fs) => match fieldsL P (leaves P n) fs.toList 0 with
      | none => none
      | some ls => if P.cellsOf t = ls.length then some ls else none
    | _ => none

theorem weights_mem_all {H : Type} {P : Program} {e : TypeId} : ∀ {l : List (DataW H)} {d : DataW H}, d ∈ l → ∀ n ∈ d.weights P e, n ∈ DataW.weightsAll P e l
  | x :: r, d, hd, n, hn => by
    rw [DataW.weightsAll, List.mem_append]
    rcases List.mem_cons.mp hd with rfl | h
    · exact .inl hn
    · exact .inr (weights_mem_all h n hn)

section
variable {H : Type} {enc : TypeId × Value → H} {P : Program} {w : World} {base : Nat} {held : Bool}

theorem fields_ok {L : TypeId → Option (List Sh)} {cs : List Value} : ∀ {fs : List Field} {o : Nat} {ls : List Sh}, fieldsL P L fs o = some ls →
    (∀ f ∈ fs, ∀ a, L f.type = some a → AllOk w a ((cs.drop f.offset).take (P.cellsOf f.type))) → cs.length = o + ls.length → AllOk w ls (cs.drop o)
  | [], o, ls, h, _, hl => by
    simp only [fieldsL, Option.some.injEq] at h
    subst h
    rw [List.drop_of_length_le (by simp at hl; omega)]; exact trivial
  | f :: r, o, ls, h, hf, hl => by
    unfold fieldsL at h
    split at h
    · cases h
    · rename_i a ha
      split at h
      · rename_i hoc
        simp only [Option.map_eq_some_iff] at h
        obtain ⟨b, hb, rfl⟩ := h
        have h1 := hf f (List.mem_cons_self ..) a ha
        rw [hoc.1, hoc.2] at h1
        have h2 := fields_ok hb (fun g hg => hf g (List.mem_cons_of_mem _ hg)) (by rw [List.length_append] at hl; omega)
        have h3 := h1.append h2
        rwa [← List.drop_drop, List.take_append_drop] at h3
      · cases h

theorem trod_leaves : ∀ (n : Nat) (t : TypeId) (ls : List Sh), leaves P n t = some ls → ∀ {fuel : Nat} {cs : List Value} {x : DataW H × List MemPlace},
    DataW.trod enc P w base (fun _ => true) held fuel t cs = some x → (∀ q ∈ x.1.weights P t, q ≤ reachBytes) → AllOk w ls cs
  | 0, _, _, h, _, _, _, _, _ => by simp [leaves] at h
  | n + 1, t, ls, h, fuel, cs, x, ht, hw => by
    unfold leaves at h
    split at h
    · rename_i k hu
      simp only [Option.some.injEq] at h; subst h
      obtain ⟨z, rfl, _, hz⟩ := DataW.trod_int hu ht
      refine ⟨?_, trivial⟩
      rw [LeafOk]; exact ⟨z, rfl, hz⟩
    · rename_i hu
      simp only [Option.some.injEq] at h; subst h
      obtain ⟨z, rfl, _⟩ := DataW.trod_bool hu ht
      refine ⟨?_, trivial⟩
      rw [LeafOk]; exact ⟨z, rfl⟩
    · rename_i hu
      simp only [Option.some.injEq] at h; subst h
      obtain ⟨s, rfl, rfl, _⟩ := DataW.trod_string hu ht
      refine ⟨?_, trivial⟩
      rw [LeafOk]
      refine ⟨s, rfl, ?_⟩
      have := hw s.data.toList.length (by simp [DataW.weights])
      simpa [reachBytes] using this
    · rename_i e hu
      split at h
      · cases h
      · rename_i es hes
        split at h
        · rename_i hce
          simp only [Option.some.injEq] at h; subst h
          rcases Go.Deep.open_slice hu ht with ⟨rfl, _⟩ | ⟨a, len, cap, m, n', D, Pl, rfl, _, hl, hm, hmm, rfl, hi⟩
          · refine ⟨?_, trivial⟩
            rw [LeafOk]; exact .inl rfl
          · refine ⟨?_, trivial⟩
            rw [LeafOk]
            simp only [if_true] at hmm
            subst hmm
            refine .inr ⟨a, len, m, rfl, hl, hm, ?_, fun i hi' => ?_⟩
            · have := hw ((len + (m - len)) * P.bytesOf e) (by simp [DataW.weights, hu])
              rw [show len + (m - len) = m from by omega] at this
              simpa [reachBytes] using this
            · obtain ⟨cs', hc, ht'⟩ := hi i hi'
              obtain ⟨_, hcl, hat⟩ := World.cells?_some hc
              have hok := trod_leaves n e es hes ht' (fun q hq => hw q (by
                have hD : D i ∈ (List.range len).map D ∨ D i ∈ (List.range (m - len)).map (fun j => D (len + j)) := by
                  by_cases hil : i < len
                  · exact .inl (List.mem_map.mpr ⟨i, List.mem_range.mpr hil, rfl⟩)
                  · exact .inr (List.mem_map.mpr ⟨i - len, List.mem_range.mpr (by omega), by rw [show len + (i - len) = i from by omega]⟩)
                simp only [DataW.weights, hu, List.mem_cons, List.mem_append]
                rcases hD with hD | hD
                · exact .inr (.inl (weights_mem_all hD q hq))
                · exact .inr (.inr (weights_mem_all hD q hq))))
              refine hok.row a _ fun j hj => ?_
              rw [← hce, ← Go.Deep.add_add]
              exact hat j (by omega)
        · cases h
    · rename_i fs hu
      split at h
      · cases h
      · rename_i ls' hls
        split at h
        · rename_i hct
          simp only [Option.some.injEq] at h; subst h
          obtain ⟨xs, n', _, rfl, hcl, hxl, hg⟩ := DataW.trod_struct hu ht
          have h0 := fields_ok (w := w) (cs := cs) hls (fun f hf a ha => by
            obtain ⟨i, hi, hfi⟩ := List.getElem_of_mem hf
            have hi' : fs[i]? = some f := by
              rw [Array.getElem?_eq_getElem (by simpa using hi)]
              simpa using hfi
            have h1 := hg i f hi'
            have hxi : i < xs.length := by rw [hxl]; simpa using hi
            rw [List.getElem?_eq_getElem hxi] at h1
            refine trod_leaves n f.type a ha h1 (fun q hq => hw q ?_)
            simp only [DataW.weights, hu]
            refine DataW.weights_mem_each (j := i) (t := f.type) (d := xs[i].1) ?_ ?_ q hq
            · rw [List.getElem?_map, Array.getElem?_toList, hi']; rfl
            · rw [List.getElem?_map, List.getElem?_eq_getElem hxi]; rfl) (by omega)
          rwa [List.drop_zero] at h0
        · cases h
    · cases h
end

theorem sized {H : Type} {P : Program} {ts : List TypeId} {ds : List (DataW H)} (h : (DataW.weightsEach P ts ds).all (· ≤ reachBytes) = true) {j : Nat} {t : TypeId} {d : DataW H} (ht : ts[j]? = some t) (hd : ds[j]? = some d) : ∀ q ∈ d.weights P t, q ≤ reachBytes := fun q hq => by
  have := List.all_eq_true.1 h q (DataW.weights_mem_each ht hd q hq)
  simpa using this
theorem AllOk.cons {w : World} {s : Sh} {r : List Sh} {l : List Value} (h : AllOk w (s :: r) l) : ∃ v q, l = v :: q ∧ LeafOk w s v ∧ AllOk w r q := by
  cases l with
  | nil => exact h.elim
  | cons v q => exact ⟨v, q, rfl, h.1, h.2⟩
theorem AllOk.nil {w : World} {l : List Value} (h : AllOk w [] l) : l = [] := by
  cases l with
  | nil => rfl
  | cons v q => exact h.elim

/-- Of each of so many there is one: a list of them. -/
theorem list_of {α : Type} {Q : Nat → α → Prop} : ∀ n : Nat, (∀ i, i < n → ∃ x, Q i x) → ∃ l : List α, l.length = n ∧ ∀ i, (h : i < l.length) → Q i l[i]
  | 0, _ => ⟨[], rfl, fun i h => by simp at h⟩
  | n + 1, h => by
    obtain ⟨l, hl, hq⟩ := list_of n (fun i hi => h i (by omega))
    obtain ⟨x, hx⟩ := h n (by omega)
    refine ⟨l ++ [x], by simp [hl], fun i hi => ?_⟩
    rw [List.getElem_append]
    split
    · rename_i h'; exact hq i h'
    · rename_i h'
      have : i = n := by simp at hi; omega
      subst this
      simpa using hx
theorem add_none (b off i : Nat) : (⟨b, off, none⟩ : Addr).add i = ⟨b, off + i, none⟩ := by unfold Addr.add; split <;> simp_all

/-- The cells from a place of a block on. -/
def CellsOk (w : World) : List Sh → Nat → Nat → Prop
  | [], _, _ => True
  | s :: r, b, o => (∃ v, w.cell? ⟨b, o, none⟩ = some v ∧ LeafOk w s v) ∧ CellsOk w r b (o + 1)
theorem RowOk.cells {w : World} {b off : Nat} : ∀ {ls : List Sh} {o : Nat}, RowOk w ls ⟨b, off, none⟩ o → CellsOk w ls b (off + o)
  | [], _, _ => trivial
  | s :: r, o, h => by
    rw [RowOk, add_none] at h
    exact ⟨h.1, RowOk.cells (o := o + 1) h.2⟩

/-- A slice that came in, of whatever elements. -/
def Slc (w : World) (es : List Sh) (ad : Option Addr) (len cap : Nat) : Prop :=
  len ≤ cap ∧ cap ≤ maxLen ∧ (ad = none → cap = 0) ∧ (0 < cap → ∃ b off, ad = some ⟨b, off, none⟩ ∧ ∀ i, i < cap → CellsOk w es b (off + i * es.length))
theorem LeafOk.slc {w : World} {by' : Nat} {s : Sh} {es : List Sh} {v : Value} (h : LeafOk w (.slc by' (s :: es)) v) : ∃ ad len cap, v = .slice ad len cap ∧ cap * by' ≤ 140737488351232 ∧ Slc w (s :: es) ad len cap := by
  rw [LeafOk] at h
  rcases h with rfl | ⟨a, len, cap, rfl, hl, hm, hr, hc⟩
  · exact ⟨none, 0, 0, rfl, by omega, Nat.le_refl _, by unfold maxLen; omega, fun _ => rfl, fun h => absurd h (Nat.lt_irrefl _)⟩
  · refine ⟨some a, len, cap, rfl, hr, hl, hm, (fun h => by cases h), fun h0 => ?_⟩
    have h := hc 0 h0
    rw [RowOk, Nat.zero_mul] at h
    obtain ⟨⟨v, hv, _⟩, _⟩ := h
    have hs := World.cell?_spot hv
    obtain ⟨b, off, spot⟩ := a
    have hs' : spot = none := hs
    subst hs'
    exact ⟨b, off, rfl, fun i hi => (hc i hi).cells⟩
theorem LeafOk.int {w : World} {k : IntKind} {v : Value} (h : LeafOk w (.int k) v) : ∃ z, v = .int k z ∧ (Lit.int k z).wf = true := by rwa [LeafOk] at h
theorem LeafOk.bool {w : World} {v : Value} (h : LeafOk w .bool v) : ∃ b, v = .bool b := by rwa [LeafOk] at h
theorem LeafOk.str {w : World} {v : Value} (h : LeafOk w .str v) : ∃ s, v = .string s ∧ s.size ≤ 140737488351232 := by rwa [LeafOk] at h

/-- A row of elements, each told by its cells (k of them). -/
def RowL {α : Type} (k : Nat) (C : World → Nat → Nat → α → Prop) (w : World) (ad : Option Addr) (l : List α) : Prop :=
  l = [] ∨ ∃ b off, ad = some ⟨b, off, none⟩ ∧ ∀ i, (h : i < l.length) → C w b (off + i * k) l[i]
theorem Slc.row {α : Type} {C : World → Nat → Nat → α → Prop} {w : World} {s : Sh} {es : List Sh} {ad : Option Addr} {len cap : Nat} (h : Slc w (s :: es) ad len cap) (hC : ∀ b o, CellsOk w (s :: es) b o → ∃ x, C w b o x) :
    ∃ l : List α, l.length = len ∧ RowL (es.length + 1) C w ad l := by
  obtain ⟨hl, _, _, hc⟩ := h
  rcases Nat.eq_zero_or_pos cap with h0 | h0
  · exact ⟨[], by simp; omega, .inl rfl⟩
  · obtain ⟨b, off, rfl, hi⟩ := hc h0
    obtain ⟨l, hll, hq⟩ := list_of (Q := fun i x => C w b (off + i * (es.length + 1)) x) len (fun i hi' => hC b _ (hi i (by omega)))
    exact ⟨l, hll, .inr ⟨b, off, rfl, hq⟩⟩
/-- What the cells tell stands as long as their block does. -/
def Local {α : Type} (C : World → Nat → Nat → α → Prop) : Prop := ∀ w w' b o x, w'.heap[b]? = w.heap[b]? → C w b o x → C w' b o x
theorem RowL.kept {α : Type} {k : Nat} {C : World → Nat → Nat → α → Prop} (hC : Local C) {w w' : World} {ad : Option Addr} {l : List α} (h : RowL k C w ad l) (hb : ∀ b off, ad = some ⟨b, off, none⟩ → w'.heap[b]? = w.heap[b]?) : RowL k C w' ad l := by
  rcases h with h | ⟨b, off, rfl, hc⟩
  · exact .inl h
  · exact .inr ⟨b, off, rfl, fun i hi => hC w w' b _ _ (hb b off rfl) (hc i hi)⟩
end Arg
end Go.Proofs.Ytifaecmmnconpaa
