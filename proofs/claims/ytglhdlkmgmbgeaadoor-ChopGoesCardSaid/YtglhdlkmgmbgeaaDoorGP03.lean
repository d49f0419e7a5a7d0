/- Layer 6: the bits of flags and of numbers of 31 bits. Arguments of any shape that holds numbers, bools, texts, structs and slices of such: what their cells hold, told by a list of leaves. Objects: what a call that writes into blocks of one object leaves of all others. Rows of elements of several cells each: as arguments, as rows of the call's own, and appended. A slice that lies in a row with spare cells (at any place of it): appended to, its first element struck. Several things in memory, each with the blocks that it lies in, apart from each other and from all that was there at first. Layer 6: a frame as a value, its settings in a row. Layer 1: the document's Put and Take of numbers as bytes, alone. -/
import Derived.Test.YtglhdlkmgmbgeaaDoorGP01
import Derived.Test.YtglhdlkmgmbgeaaDoorGP02
import Derived.Laws.BitsAllLaws
import Derived.WalkKit
import Derived.ProofKit
import Derived.OpenShut
import Derived.SizedLaws
import Derived.ChangeArms
import Derived.Deep.Slices
import Derived.Lib.Hide
import Derived.Deep.RegionLaw
import Derived.Deep.AppendLies
import Derived.Laws.AppendOwnNone
import Derived.ArgAppend
import Derived.Maps.AppendAt
import Derived.Test.YtglhdlkmgmbgeaaDoorRows
import Derived.WalkSpells
import Derived.WalkLawsBesides
set_option linter.unusedVariables false
set_option linter.unusedSimpArgs false
namespace Go.Proofs.YtglhdlkmgmbgeaaDoor
open Go.RowKit
open Fra
set_option linter.unusedVariables false

theorem and_flag8 (fl : Int) (h0 : 0 ≤ fl) (h1 : fl ≤ 255) : bits .and .i64 fl 8 = if hasF fl 8 then 8 else 0 := by
  obtain ⟨n, rfl⟩ := Int.eq_ofNat_of_zero_le h0
  have h : n < 256 := by omega
  have key : ∀ m : Fin 256, bits .and .i64 ((m.val : Nat) : Int) 8 = if hasF ((m.val : Nat) : Int) 8 then 8 else 0 := by decide +kernel
  exact key ⟨n, h⟩
theorem and_flag32 (fl : Int) (h0 : 0 ≤ fl) (h1 : fl ≤ 255) : bits .and .i64 fl 32 = if hasF fl 32 then 32 else 0 := by
  obtain ⟨n, rfl⟩ := Int.eq_ofNat_of_zero_le h0
  have h : n < 256 := by omega
  have key : ∀ m : Fin 256, bits .and .i64 ((m.val : Nat) : Int) 32 = if hasF ((m.val : Nat) : Int) 32 then 32 else 0 := by decide +kernel
  exact key ⟨n, h⟩
theorem and_flag1 (fl : Int) (h0 : 0 ≤ fl) (h1 : fl ≤ 255) : bits .and .i64 fl 1 = if hasF fl 1 then 1 else 0 := by
  obtain ⟨n, rfl⟩ := Int.eq_ofNat_of_zero_le h0
  have h : n < 256 := by omega
  have key : ∀ m : Fin 256, bits .and .i64 ((m.val : Nat) : Int) 1 = if hasF ((m.val : Nat) : Int) 1 then 1 else 0 := by decide +kernel
  exact key ⟨n, h⟩
theorem low31 (n : Int) (h0 : 0 ≤ n) (h1 : n < 4294967296) : bits .andNot .u32 n 2147483648 = n % 2147483648 := by
  rw [u32_andNot n 2147483648 h0 h1 (by decide) (by decide)]
  have : (4294967295 - (2147483648 : Int).toNat) = 2 ^ 31 - 1 := by decide
  rw [this, Nat.and_two_pow_sub_one_eq_mod]
  omega
theorem nat_and_pow (n i : Nat) : n &&& 2 ^ i = if n.testBit i then 2 ^ i else 0 := by
  apply Nat.eq_of_testBit_eq
  intro j
  by_cases h : n.testBit i
  · rw [if_pos h, Nat.testBit_and, Nat.testBit_two_pow]
    by_cases e : i = j
    · subst e; simp [h]
    · simp [e]
  · rw [if_neg h, Nat.testBit_and, Nat.testBit_two_pow, Nat.zero_testBit]
    by_cases e : i = j
    · subst e; simp at h; simp [h]
    · simp [e]
theorem high31 (n : Int) (h0 : 0 ≤ n) (h1 : n < 4294967296) : bits .and .u32 n 2147483648 = if 2147483648 ≤ n then 2147483648 else 0 := by
  rw [u32_and n 2147483648 h0 h1 (by decide) (by decide)]
  have : (2147483648 : Int).toNat = 2 ^ 31 := by decide
  rw [this, nat_and_pow, Nat.testBit_eq_decide_div_mod_eq]
  by_cases h : 2147483648 ≤ n
  · rw [if_pos h, if_pos (decide_eq_true (by omega))]; rfl
  · rw [if_neg h, if_neg (by simp; omega)]; rfl
theorem or31 (n : Int) (h0 : 0 ≤ n) (h1 : n ≤ 2147483647) : bits .or .i64 n 2147483648 = n + 2147483648 := by
  obtain ⟨m, rfl⟩ := Int.eq_ofNat_of_zero_le h0
  have h : m < 2147483648 := by omega
  have e : bits .or .i64 (m : Int) 2147483648 = IntKind.i64.wrap ((BitVec.ofInt 64 (m : Int) ||| BitVec.ofInt 64 2147483648).toNat : Int) := rfl
  rw [e, BitVec.toNat_or]
  have e1 : (BitVec.ofInt 64 (m : Int)).toNat = m := by
    rw [BitVec.ofInt_natCast, BitVec.toNat_ofNat, Nat.mod_eq_of_lt (by omega)]
  have e2 : (BitVec.ofInt 64 (2147483648 : Int)).toNat = 1 * 2 ^ 31 := by decide
  rw [e1, e2, Nat.or_comm, nat_join 31 _ _ (by decide) (by omega), IntKind.wrap_i64]
  omega
end Go.Proofs.YtglhdlkmgmbgeaaDoor

namespace Go.Proofs.YtglhdlkmgmbgeaaDoor
open Go.RowKit
namespace Arg

/-- What one cell may hold. -/
inductive Sh where
  | int (k : IntKind)
  | bool
  | str
  | slc (bytes : Nat) (es : List Sh)

mutual
/-- A value of one cell is of this shape; a slice's cells, spare ones too, are there. -/
def LeafOk (w : World) : Sh → Value → Prop
  | .int k, v => ∃ z, v = .int k z ∧ (Lit.int k z).wf = true
  | .bool, v => ∃ b, v = .bool b
  | .str, v => ∃ s, v = .string s ∧ s.size ≤ 140737488351232
  | .slc by' es, v => v = .slice none 0 0 ∨ ∃ a len cap, v = .slice (some a) len cap ∧ len ≤ cap ∧ cap ≤ maxLen ∧ cap * by' ≤ 140737488351232 ∧ ∀ i, i < cap → RowOk w es a (i * es.length)
/-- The cells from a place on. -/
def RowOk (w : World) : List Sh → Addr → Nat → Prop
  | [], _, _ => True
  | s :: r, a, o => (∃ v, w.cell? (a.add o) = some v ∧ LeafOk w s v) ∧ RowOk w r a (o + 1)
end

/-- Values, one by one. -/
def AllOk (w : World) : List Sh → List Value → Prop
  | [], [] => True
  | s :: r, v :: q => LeafOk w s v ∧ AllOk w r q
  | _, _ => False

theorem AllOk.len {w : World} : ∀ {ls : List Sh} {cs : List Value}, AllOk w ls cs → cs.length = ls.length
  | [], [], _ => rfl
  | _ :: _, _ :: _, h => by rw [List.length_cons, List.length_cons, AllOk.len h.2]
  | [], _ :: _, h => h.elim
  | _ :: _, [], h => h.elim
theorem AllOk.append {w : World} : ∀ {a : List Sh} {x : List Value} {b : List Sh} {y : List Value}, AllOk w a x → AllOk w b y → AllOk w (a ++ b) (x ++ y)
  | [], [], _, _, _, h => h
  | _ :: _, _ :: _, _, _, h, h' => ⟨h.1, AllOk.append h.2 h'⟩
  | [], _ :: _, _, _, h, _ => h.elim
  | _ :: _, [], _, _, h, _ => h.elim
theorem AllOk.row {w : World} (a : Addr) : ∀ {ls : List Sh} {cs : List Value} (o : Nat), AllOk w ls cs → (∀ i, i < cs.length → w.cell? (a.add (o + i)) = cs[i]?) → RowOk w ls a o
  | [], _, _, _, _ => by rw [RowOk]; trivial
  | s :: r, v :: q, o, h, hc => by
    rw [RowOk]
    refine ⟨⟨v, (hc 0 (by simp)).trans rfl, h.1⟩, AllOk.row a (o + 1) h.2 fun i hi => ?_⟩
    have := hc (i + 1) (by simpa using hi)
    rwa [show o + (i + 1) = o + 1 + i from by omega] at this
  | _ :: _, [], _, h, _ => h.elim

def fieldsL (P : Program) (L : TypeId → Option (List Sh)) : List Field → Nat → Option (List Sh)
  | [], _ => some []
  | f :: r, o => match L f.type with
    | none => none
    | some a => if f.offset = o ∧ P.cellsOf f.type = a.length then (fieldsL P L r (o + a.length)).map (a ++ ·) else none
/-- A type's leaves. -/
def leaves (P : Program) : Nat → TypeId → Option (List Sh)
  | 0, _ => none
  | n + 1, t => match P.underlying t with
    | some (.int k) => some [.int k]
    | some .bool => some [.bool]
    | some .string => some [.str]
    | some (.slice e) => match leaves P n e with
      | none => none
      | some es => if P.cellsOf e = es.length then some [.slc (P.bytesOf e) es] else none
    | some (.struct fs) => match fieldsL P (leaves P n) fs.toList 0 with
      | none => none
      | some ls => if P.cellsOf t = ls.length then some ls else none
    | _ => none

theorem weights_mem_all {H : Type} {P : Program} {e : TypeId} : ∀ {l : List (DataW H)} {d : DataW H}, d ∈ l → ∀ n ∈ d.weights P e, n ∈ DataW.weightsAll P e l
  | x :: r, d, hd, n, hn => by
    rw [DataW.weightsAll, List.mem_append]
    rcases List.mem_cons.mp hd with rfl | h
    · exact .inl hn
    · exact .inr (weights_mem_all h n hn)

section
variable {H : Type} {enc : TypeId × Value → H} {P : Program} {w : World} {base : Nat} {held : Bool}

theorem fields_ok {L : TypeId → Option (List Sh)} {cs : List Value} : ∀ {fs : List Field} {o : Nat} {ls : List Sh}, fieldsL P L fs o = some ls →
    (∀ f ∈ fs, ∀ a, L f.type = some a → AllOk w a ((cs.drop f.offset).take (P.cellsOf f.type))) → cs.length = o + ls.length → AllOk w ls (cs.drop o)
  | [], o, ls, h, _, hl => by
    simp only [fieldsL, Option.some.injEq] at h
    subst h
    rw [List.drop_of_length_le (by simp at hl; omega)]; exact trivial
  | f :: r, o, ls, h, hf, hl => by
    unfold fieldsL at h
    split at h
    · cases h
    · rename_i a ha
      split at h
      · rename_i hoc
        simp only [Option.map_eq_some_iff] at h
        obtain ⟨b, hb, rfl⟩ := h
        have h1 := hf f (List.mem_cons_self ..) a ha
        rw [hoc.1, hoc.2] at h1
        have h2 := fields_ok hb (fun g hg => hf g (List.mem_cons_of_mem _ hg)) (by rw [List.length_append] at hl; omega)
        have h3 := h1.append h2
        rwa [← List.drop_drop, List.take_append_drop] at h3
      · cases h

theorem trod_leaves : ∀ (n : Nat) (t : TypeId) (ls : List Sh), leaves P n t = some ls → ∀ {fuel : Nat} {cs : List Value} {x : DataW H × List MemPlace},
    DataW.trod enc P w base (fun _ => true) held fuel t cs = some x → (∀ q ∈ x.1.weights P t, q ≤ reachBytes) → AllOk w ls cs
  | 0, _, _, h, _, _, _, _, _ => by simp [leaves] at h
  | n + 1, t, ls, h, fuel, cs, x, ht, hw => by
    unfold leaves at h
    split at h
    · rename_i k hu
      simp only [Option.some.injEq] at h; subst h
      obtain ⟨z, rfl, _, hz⟩ := DataW.trod_int hu ht
      refine ⟨?_, trivial⟩
      rw [LeafOk]; exact ⟨z, rfl, hz⟩
    · rename_i hu
      simp only [Option.some.injEq] at h; subst h
      obtain ⟨z, rfl, _⟩ := DataW.trod_bool hu ht
      refine ⟨?_, trivial⟩
      rw [LeafOk]; exact ⟨z, rfl⟩
    · rename_i hu
      simp only [Option.some.injEq] at h; subst h
      obtain ⟨s, rfl, rfl, _⟩ := DataW.trod_string hu ht
      refine ⟨?_, trivial⟩
      rw [LeafOk]
      refine ⟨s, rfl, ?_⟩
      have := hw s.data.toList.length (by simp [DataW.weights])
      simpa [reachBytes] using this
    · rename_i e hu
      split at h
      · cases h
      · rename_i es hes
        split at h
        · rename_i hce
          simp only [Option.some.injEq] at h; subst h
          rcases Go.Deep.open_slice hu ht with ⟨rfl, _⟩ | ⟨a, len, cap, m, n', D, Pl, rfl, _, hl, hm, hmm, rfl, hi⟩
          · refine ⟨?_, trivial⟩
            rw [LeafOk]; exact .inl rfl
          · refine ⟨?_, trivial⟩
            rw [LeafOk]
            simp only [if_true] at hmm
            subst hmm
            refine .inr ⟨a, len, m, rfl, hl, hm, ?_, fun i hi' => ?_⟩
            · have := hw ((len + (m - len)) * P.bytesOf e) (by simp [DataW.weights, hu])
              rw [show len + (m - len) = m from by omega] at this
              simpa [reachBytes] using this
            · obtain ⟨cs', hc, ht'⟩ := hi i hi'
              obtain ⟨_, hcl, hat⟩ := World.cells?_some hc
              have hok := trod_leaves n e es hes ht' (fun q hq => hw q (by
                have hD : D i ∈ (List.range len).map D ∨ D i ∈ (List.range (m - len)).map (fun j => D (len + j)) := by
                  by_cases hil : i < len
                  · exact .inl (List.mem_map.mpr ⟨i, List.mem_range.mpr hil, rfl⟩)
                  · exact .inr (List.mem_map.mpr ⟨i - len, List.mem_range.mpr (by omega), by rw [show len + (i - len) = i from by omega]⟩)
                simp only [DataW.weights, hu, List.mem_cons, List.mem_append]
                rcases hD with hD | hD
                · exact .inr (.inl (weights_mem_all hD q hq))
                · exact .inr (.inr (weights_mem_all hD q hq))))
              refine hok.row a _ fun j hj => ?_
              rw [← hce, ← Go.Deep.add_add]
              exact hat j (by omega)
        · cases h
    · rename_i fs hu
      split at h
      · cases h
      · rename_i ls' hls
        split at h
        · rename_i hct
          simp only [Option.some.injEq] at h; subst h
          obtain ⟨xs, n', _, rfl, hcl, hxl, hg⟩ := DataW.trod_struct hu ht
          have h0 := fields_ok (w := w) (cs := cs) hls (fun f hf a ha => by
            obtain ⟨i, hi, hfi⟩ := List.getElem_of_mem hf
            have hi' : fs[i]? = some f := by
              rw [Array.getElem?_eq_getElem (by simpa using hi)]
              simpa using hfi
            have h1 := hg i f hi'
            have hxi : i < xs.length := by rw [hxl]; simpa using hi
            rw [List.getElem?_eq_getElem hxi] at h1
            refine trod_leaves n f.type a ha h1 (fun q hq => hw q ?_)
            simp only [DataW.weights, hu]
            refine DataW.weights_mem_each (j := i) (t := f.type) (d := xs[i].1) ?_ ?_ q hq
            · rw [List.getElem?_map, Array.getElem?_toList, hi']; rfl
            · rw [List.getElem?_map, List.getElem?_eq_getElem hxi]; rfl) (by omega)
          rwa [List.drop_zero] at h0
        · cases h
    · cases h
end

theorem sized {H : Type} {P : Program} {ts : List TypeId} {ds : List (DataW H)} (h : (DataW.weightsEach P ts ds).all (· ≤ reachBytes) = true) {j : Nat} {t : TypeId} {d : DataW H} (ht : ts[j]? = some t) (hd : ds[j]? = some d) : ∀ q ∈ d.weights P t, q ≤ reachBytes := fun q hq => by
  have := List.all_eq_true.1 h q (DataW.weights_mem_each ht hd q hq)
  simpa using this
theorem AllOk.cons {w : World} {s : Sh} {r : List Sh} {l : List Value} (h : AllOk w (s :: r) l) : ∃ v q, l = v :: q ∧ LeafOk w s v ∧ AllOk w r q := by
  cases l with
  | nil => exact h.elim
  | cons v q => exact ⟨v, q, rfl, h.1, h.2⟩
theorem AllOk.nil {w : World} {l : List Value} (h : AllOk w [] l) : l = [] := by
  cases l with
  | nil => rfl
  | cons v q => exact h.elim

/-- Of each of so many there is one: a list of them. -/
theorem list_of {α : Type} {Q : Nat → α → Prop} : ∀ n : Nat, (∀ i, i < n → ∃ x, Q i x) → ∃ l : List α, l.length = n ∧ ∀ i, (h : i < l.length) → Q i l[i]
  | 0, _ => ⟨[], rfl, fun i h => by simp at h⟩
  | n + 1, h => by
    obtain ⟨l, hl, hq⟩ := list_of n (fun i hi => h i (by omega))
    obtain ⟨x, hx⟩ := h n (by omega)
    refine ⟨l ++ [x], by simp [hl], fun i hi => ?_⟩
    rw [List.getElem_append]
    split
    · rename_i h'; exact hq i h'
    · rename_i h'
      have : i = n := by simp at hi; omega
      subst this
      simpa using hx
theorem add_none (b off i : Nat) : (⟨b, off, none⟩ : Addr).add i = ⟨b, off + i, none⟩ := by unfold Addr.add; split <;> simp_all

/-- The cells from a place of a block on. -/
def CellsOk (w : World) : List Sh → Nat → Nat → Prop
  | [], _, _ => True
  | s :: r, b, o => (∃ v, w.cell? ⟨b, o, none⟩ = some v ∧ LeafOk w s v) ∧ CellsOk w r b (o + 1)
theorem RowOk.cells {w : World} {b off : Nat} : ∀ {ls : List Sh} {o : Nat}, RowOk w ls ⟨b, off, none⟩ o → CellsOk w ls b (off + o)
  | [], _, _ => trivial
  | s :: r, o, h => by
    rw [RowOk, add_none] at h
    exact ⟨h.1, RowOk.cells (o := o + 1) h.2⟩

/-- A slice that came in, of whatever elements. -/
def Slc (w : World) (es : List Sh) (ad : Option Addr) (len cap : Nat) : Prop :=
  len ≤ cap ∧ cap ≤ maxLen ∧ (ad = none → cap = 0) ∧ (0 < cap → ∃ b off, ad = some ⟨b, off, none⟩ ∧ ∀ i, i < cap → CellsOk w es b (off + i * es.length))
theorem LeafOk.slc {w : World} {by' : Nat} {s : Sh} {es : List Sh} {v : Value} (h : LeafOk w (.slc by' (s :: es)) v) : ∃ ad len cap, v = .slice ad len cap ∧ cap * by' ≤ 140737488351232 ∧ Slc w (s :: es) ad len cap := by
  rw [LeafOk] at h
  rcases h with rfl | ⟨a, len, cap, rfl, hl, hm, hr, hc⟩
  · exact ⟨none, 0, 0, rfl, by omega, Nat.le_refl _, by unfold maxLen; omega, fun _ => rfl, fun h => absurd h (Nat.lt_irrefl _)⟩
  · refine ⟨some a, len, cap, rfl, hr, hl, hm, (fun h => by cases h), fun h0 => ?_⟩
    have h := hc 0 h0
    rw [RowOk, Nat.zero_mul] at h
    obtain ⟨⟨v, hv, _⟩, _⟩ := h
    have hs := World.cell?_spot hv
    obtain ⟨b, off, spot⟩ := a
    have hs' : spot = none := hs
    subst hs'
    exact ⟨b, off, rfl, fun i hi => (hc i hi).cells⟩
theorem LeafOk.int {w : World} {k : IntKind} {v : Value} (h : LeafOk w (.int k) v) : ∃ z, v = .int k z ∧ (Lit.int k z).wf = true := by rwa [LeafOk] at h
theorem LeafOk.bool {w : World} {v : Value} (h : LeafOk w .bool v) : ∃ b, v = .bool b := by rwa [LeafOk] at h
theorem LeafOk.str {w : World} {v : Value} (h : LeafOk w .str v) : ∃ s, v = .string s ∧ s.size ≤ 140737488351232 := by rwa [LeafOk] at h

/-- A row of elements, each told by its cells (k of them). -/
def RowL {α : Type} (k : Nat) (C : World → Nat → Nat → α → Prop) (w : World) (ad : Option Addr) (l : List α) : Prop :=
  l = [] ∨ ∃ b off, ad = some ⟨b, off, none⟩ ∧ ∀ i, (h : i < l.length) → C w b (off + i * k) l[i]
theorem Slc.row {α : Type} {C : World → Nat → Nat → α → Prop} {w : World} {s : Sh} {es : List Sh} {ad : Option Addr} {len cap : Nat} (h : Slc w (s :: es) ad len cap) (hC : ∀ b o, CellsOk w (s :: es) b o → ∃ x, C w b o x) :
    ∃ l : List α, l.length = len ∧ RowL (es.length + 1) C w ad l := by
  obtain ⟨hl, _, _, hc⟩ := h
  rcases Nat.eq_zero_or_pos cap with h0 | h0
  · exact ⟨[], by simp; omega, .inl rfl⟩
  · obtain ⟨b, off, rfl, hi⟩ := hc h0
    obtain ⟨l, hll, hq⟩ := list_of (Q := fun i x => C w b (off + i * (es.length + 1)) x) len (fun i hi' => hC b _ (hi i (by omega)))
    exact ⟨l, hll, .inr ⟨b, off, rfl, hq⟩⟩
/-- What the cells tell stands as long as their block does. -/
def Local {α : Type} (C : World → Nat → Nat → α → Prop) : Prop := ∀ w w' b o x, w'.heap[b]? = w.heap[b]? → C w b o x → C w' b o x
theorem RowL.kept {α : Type} {k : Nat} {C : World → Nat → Nat → α → Prop} (hC : Local C) {w w' : World} {ad : Option Addr} {l : List α} (h : RowL k C w ad l) (hb : ∀ b off, ad = some ⟨b, off, none⟩ → w'.heap[b]? = w.heap[b]?) : RowL k C w' ad l := by
  rcases h with h | ⟨b, off, rfl, hc⟩
  · exact .inl h
  · exact .inr ⟨b, off, rfl, fun i hi => hC w w' b _ _ (hb b off rfl) (hc i hi)⟩
end Arg
end Go.Proofs.YtglhdlkmgmbgeaaDoor

namespace Go.Proofs.YtglhdlkmgmbgeaaDoor
open Go.RowKit
namespace Obj
open Mem Arg

/-- w' is w but for the blocks of L, and new ones. -/
structure Kept (L : List Nat) (w w' : World) : Prop where
  os : w'.os = w.os
  tape : w'.tape = w.tape
  output : w'.output = w.output
  size : w.heap.size ≤ w'.heap.size
  block : ∀ k, k < w.heap.size → k ∉ L → w'.heap[k]? = w.heap[k]?

theorem Kept.refl (L : List Nat) (w : World) : Kept L w w := ⟨rfl, rfl, rfl, Nat.le_refl _, fun _ _ _ => rfl⟩
theorem Kept.of_below {L : List Nat} {w w' : World} (h : Below w.heap.size w w') : Kept L w w' := ⟨h.os, h.tape, h.output, h.size, fun k hk _ => h.block k hk⟩
/-- What the second step may write is the first one's, or new. -/
theorem Kept.trans {L L' : List Nat} {a b c : World} (h : Kept L a b) (k : Kept L' b c) (hL : ∀ i ∈ L', i ∈ L ∨ a.heap.size ≤ i) : Kept L a c :=
  ⟨k.os.trans h.os, k.tape.trans h.tape, k.output.trans h.output, Nat.le_trans h.size k.size, fun i hi hn => (k.block i (Nat.lt_of_lt_of_le hi h.size) (fun hm => by
    rcases hL i hm with h1 | h1
    · exact hn h1
    · omega)).trans (h.block i hi hn)⟩
theorem Kept.then {L : List Nat} {a b c : World} (h : Kept L a b) (k : Below b.heap.size b c) : Kept L a c := h.trans (L' := []) (Kept.of_below k) (fun _ h => by cases h)
theorem Kept.wide {L L' : List Nat} {a b : World} (h : Kept L a b) (hL : ∀ i ∈ L, i ∈ L' ∨ a.heap.size ≤ i) : Kept L' a b := (Kept.refl L' a).trans h hL
theorem Kept.below {L : List Nat} {B : Nat} {a b c : World} (h : Below B a b) (k : Kept L b c) (hL : ∀ i ∈ L, B ≤ i) (hB : B ≤ b.heap.size) : Below B a c :=
  h.trans ⟨k.os, k.tape, k.output, k.size, fun i hi => k.block i (by omega) (fun hm => by have := hL i hm; omega)⟩
theorem Kept.drew {L : List Nat} {a b : World} (h : Kept L a b) : Kept L a b.drew := ⟨h.os, h.tape, h.output, h.size, h.block⟩
theorem Kept.drewN {L : List Nat} {a b : World} (h : Kept L a b) (n : Nat) : Kept L a (b.drewN n) := ⟨h.os, h.tape, h.output, h.size, h.block⟩
theorem Kept.alloc {L : List Nat} {a b : World} (h : Kept L a b) (o : Obj) : Kept L a (b.alloc o) := h.then ((Below.refl _ _).alloc (Nat.le_refl _) o)
theorem Kept.setCell {L : List Nat} {a b : World} (h : Kept L a b) {p : Addr} (hp : p.block ∈ L ∨ a.heap.size ≤ p.block) (u : Value) : Kept L a (b.setCell p u) :=
  ⟨h.os, h.tape, h.output, by simpa [World.setCell] using h.size, fun k hk hn => (Below.heap_setCell _ _ _ _ (fun e => by
    rcases hp with h1 | h1
    · exact hn (e ▸ h1)
    · omega)).trans (h.block k hk hn)⟩
theorem Kept.grown {L : List Nat} {a b c : World} {row : Option Nat} (h : Kept L a b) (hg : b.grownBy c row) (hr : ∀ k, row = some k → k ∈ L ∨ a.heap.size ≤ k) : Kept L a c :=
  ⟨hg.os.trans h.os, hg.tape.trans h.tape, hg.output.trans h.output, Nat.le_trans h.size hg.size, fun k hk hn => (hg.block k (Nat.lt_of_lt_of_le hk h.size) (fun e => by
    rcases hr k e.symm with h1 | h1
    · exact hn h1
    · omega)).trans (h.block k hk hn)⟩
/-- A block of another object stands. -/
theorem Kept.at {L : List Nat} {w w' : World} (h : Kept L w w') {k : Nat} {o : Obj} (hk : w.heap[k]? = some o) (hn : k ∉ L) : w'.heap[k]? = some o :=
  (h.block k (Array.getElem?_eq_some_iff.1 hk).1 hn).trans hk
theorem block_below {w w' : World} (h : Below w.heap.size w w') {k : Nat} {o : Obj} (hk : w.heap[k]? = some o) : w'.heap[k]? = some o :=
  (h.block k (Array.getElem?_eq_some_iff.1 hk).1).trans hk
theorem cell_at {w : World} {g : Nat} {cs : Array Value} {t : TypeId} {fz : Nat × Nat} (h : w.heap[g]? = some (.cells cs t fz)) (i : Nat) : w.cell? ⟨g, i, none⟩ = cs[i]? := by
  refine (cell_of_row w g i cs t fz h).trans rfl
theorem own_new (w : World) (e : TypeId) (size : Nat) : (w.alloc (.cells #[] e)).ownsRow w.heap.size e size (.slice (some ⟨w.heap.size, 0, none⟩) 0 0) 0 [] := by
  have h := World.ownsRow_lit (base := w.heap.size) (e := e) (size := size) w #[] 0 (Nat.le_refl _) (by unfold maxLen; omega) (by simp)
  exact h
/-- A block that stands behind an append to another row. -/
theorem grown_at {b c : World} {row : Option Nat} (hg : b.grownBy c row) {k : Nat} {o : Obj} (hk : b.heap[k]? = some o) (hr : row ≠ some k) : c.heap[k]? = some o :=
  (hg.block k (Array.getElem?_eq_some_iff.1 hk).1 (fun e => hr e.symm)).trans hk
theorem alloc_at {w : World} {k : Nat} {o p : Obj} (hk : w.heap[k]? = some o) : (w.alloc p).heap[k]? = some o :=
  (Below.heap_alloc w p k (Array.getElem?_eq_some_iff.1 hk).1).trans hk
/-- A row of the call's own stands behind a call that only makes memory. -/
theorem own_keep {w w' : World} {base : Nat} {e : TypeId} {size : Nat} {v : Value} {n : Nat} {xs : List Value} (h : w.ownsRow base e size v n xs) (hb : Below w.heap.size w w') : w'.ownsRow base e size v n xs := by
  obtain ⟨hl, h | ⟨g, cap, cur, hv, hg, hh, hr⟩⟩ := h
  · exact ⟨hl, .inl h⟩
  · exact ⟨hl, .inr ⟨g, cap, cur, hv, hg, block_below hb hh, hr⟩⟩
end Obj
end Go.Proofs.YtglhdlkmgmbgeaaDoor

namespace Go.Proofs.YtglhdlkmgmbgeaaDoor
open Go.RowKit
set_option linter.unusedVariables false
namespace Rw
open Mem Arg

/-- How an element lies in cells. -/
structure Enc (α : Type) where
  enc : α → List Value
  k : Nat
  pos : 0 < k
  len : ∀ x, (enc x).length = k
  one : ∀ x v, v ∈ enc x → v.oneCell' = true

/-- An element at a place of a block. -/
def CE {α : Type} (E : Enc α) (w : World) (b o : Nat) (x : α) : Prop := ∀ r v, (E.enc x)[r]? = some v → w.cell? ⟨b, o + r, none⟩ = some v
def flat {α : Type} (E : Enc α) (l : List α) : List Value := l.flatMap E.enc
theorem flat_len {α : Type} (E : Enc α) (l : List α) : (flat E l).length = l.length * E.k := by
  induction l with
  | nil => simp [flat]
  | cons x r ih => simp only [flat, List.flatMap_cons, List.length_append, E.len, List.length_cons] at ih ⊢; rw [ih, Nat.add_mul]; omega
theorem flat_append {α : Type} (E : Enc α) (a b : List α) : flat E (a ++ b) = flat E a ++ flat E b := by simp [flat]
theorem flat_one {α : Type} (E : Enc α) (l : List α) : ∀ u ∈ flat E l, u.oneCell' = true := fun u hu => by
  simp only [flat, List.mem_flatMap] at hu
  obtain ⟨x, _, hx⟩ := hu
  exact E.one x u hx
/-- A flat row's cell lies in one element. -/
theorem flat_at {α : Type} (E : Enc α) : ∀ (l : List α) (j : Nat) (u : Value), (flat E l)[j]? = some u → ∃ i r, ∃ h : i < l.length, j = i * E.k + r ∧ (E.enc l[i])[r]? = some u
  | [], j, u, h => by simp [flat] at h
  | x :: q, j, u, h => by
    rw [flat, List.flatMap_cons] at h
    by_cases hj : j < E.k
    · rw [List.getElem?_append_left (by rw [E.len]; exact hj)] at h
      exact ⟨0, j, by simp, by simp, h⟩
    · rw [List.getElem?_append_right (by rw [E.len]; omega), E.len] at h
      obtain ⟨i, r, hi, hj', hu⟩ := flat_at E q _ u h
      exact ⟨i + 1, r, by simpa using hi, by rw [Nat.add_mul]; omega, hu⟩
theorem flat_of {α : Type} (E : Enc α) : ∀ (l : List α) (i r : Nat) (h : i < l.length) (u : Value), (E.enc l[i])[r]? = some u → (flat E l)[i * E.k + r]? = some u
  | x :: q, 0, r, h, u, hu => by
    have hr : r < E.k := by
      rcases Nat.lt_or_ge r E.k with h' | h'
      · exact h'
      · rw [List.getElem?_eq_none (by rw [E.len]; exact h')] at hu; cases hu
    rw [flat, List.flatMap_cons, Nat.zero_mul, Nat.zero_add, List.getElem?_append_left (by rw [E.len]; exact hr)]
    exact hu
  | x :: q, i + 1, r, h, u, hu => by
    rw [flat, List.flatMap_cons, List.getElem?_append_right (by rw [E.len, Nat.add_mul]; omega), E.len, show (i + 1) * E.k + r - E.k = i * E.k + r from by rw [Nat.add_mul]; omega]
    exact flat_of E q i r (by simpa using h) u hu

/-- A slice value leads to these elements. -/
def RowE {α : Type} (E : Enc α) (w : World) (ad : Option Addr) (l : List α) : Prop := RowL E.k (CE E) w ad l
theorem CE_local {α : Type} (E : Enc α) : Local (CE E) := fun w w' b o x hb h r v hv => (World.cell?_of_block (a := ⟨b, o + r, none⟩) hb).trans (h r v hv)
theorem RowE.below {α : Type} {E : Enc α} {w w' : World} (hb : Below w.heap.size w w') {ad : Option Addr} {l : List α} (h : RowE E w ad l) : RowE E w' ad l := by
  rcases h with h | ⟨b, off, rfl, hc⟩
  · exact .inl h
  · exact .inr ⟨b, off, rfl, fun i hi r v hv => below_cell hb (hc i hi r v hv)⟩
theorem RowE.block {α : Type} {E : Enc α} {w w' : World} {ad : Option Addr} {l : List α} (h : RowE E w ad l) (hb : ∀ b off, ad = some ⟨b, off, none⟩ → w'.heap[b]? = w.heap[b]?) : RowE E w' ad l := RowL.kept (CE_local E) h hb
/-- The first ones. -/
theorem RowE.take {α : Type} {E : Enc α} {w : World} {ad : Option Addr} {l : List α} (h : RowE E w ad l) (n : Nat) : RowE E w ad (l.take n) := by
  rcases h with rfl | ⟨b, off, rfl, hc⟩
  · exact .inl (by simp)
  · refine .inr ⟨b, off, rfl, fun i hi => ?_⟩
    rw [List.getElem_take]
    exact hc i (by rw [List.length_take] at hi; omega)
theorem RowE.drop {α : Type} {E : Enc α} {w : World} {b off : Nat} {l : List α} (h : RowE E w (some ⟨b, off, none⟩) l) (n : Nat) : RowE E w (some ⟨b, off + n * E.k, none⟩) (l.drop n) := by
  rcases h with rfl | ⟨b', off', e, hc⟩
  · exact .inl (by simp)
  · simp only [Option.some.injEq, Addr.mk.injEq, and_true] at e
    obtain ⟨rfl, rfl⟩ := e
    refine .inr ⟨b, _, rfl, fun i hi r v hv => ?_⟩
    rw [List.getElem_drop] at hv
    have := hc (n + i) (by rw [List.length_drop] at hi; omega) r v hv
    rwa [show off + (n + i) * E.k + r = off + n * E.k + i * E.k + r from by rw [Nat.add_mul]; omega] at this
theorem RowE.news {α : Type} {E : Enc α} {w : World} {ad : Addr} {l : List α} (h : RowE E w (some ad) l) : ∀ j u, (flat E l)[j]? = some u → w.cell? (ad.add j) = some u := by
  intro j u hj
  rcases h with rfl | ⟨b, off, e, hc⟩
  · simp [flat] at hj
  · simp only [Option.some.injEq] at e
    subst e
    obtain ⟨i, r, hi, rfl, hu⟩ := flat_at E l j u hj
    rw [add_none, ← Nat.add_assoc]
    exact hc i hi r u hu
theorem RowE.of_own {α : Type} {E : Enc α} {w : World} {base n cap : Nat} {e : TypeId} {ad : Option Addr} {l : List α} (h : w.ownsRow base e E.k (.slice ad n cap) l.length (flat E l)) : RowE E w ad l := by
  rcases h.2 with ⟨h1, h2⟩ | ⟨g, cap', cur, h1, _⟩
  · exact .inl (List.eq_nil_iff_length_eq_zero.mpr h2)
  · have h' := h
    simp only [Value.slice.injEq] at h1
    obtain ⟨rfl, rfl, rfl⟩ := h1
    refine .inr ⟨g, 0, rfl, fun i hi r u hu => ?_⟩
    have h3 := flat_of E l i r hi u hu
    have hlt : i * E.k + r < l.length * E.k := by
      rw [← flat_len E l]
      exact (List.getElem?_eq_some_iff.1 h3).1
    rw [Nat.zero_add, h'.cellAt (i * E.k + r) hlt]
    exact h3
theorem own_blk {w : World} {base n cap : Nat} {e : TypeId} {size : Nat} {ad : Option Addr} {xs : List Value} {m : Nat} (h : w.ownsRow base e size (.slice ad n cap) m xs) : ∀ b o s, ad = some ⟨b, o, s⟩ → base ≤ b ∧ b < w.heap.size := by
  intro b o s hb
  rcases h.2 with ⟨h1, _⟩ | ⟨g, cap', cur, h1, hg, hh, _⟩
  · simp only [Value.slice.injEq] at h1
    rw [h1.1] at hb; cases hb
  · simp only [Value.slice.injEq] at h1
    rw [h1.1] at hb
    simp only [Option.some.injEq, Addr.mk.injEq] at hb
    obtain ⟨rfl, _⟩ := hb
    exact ⟨hg, (Array.getElem?_eq_some_iff.1 hh).1⟩
theorem own_len {w : World} {base n cap : Nat} {e : TypeId} {size : Nat} {ad : Option Addr} {xs : List Value} {m : Nat} (h : w.ownsRow base e size (.slice ad n cap) m xs) : n = m ∧ n ≤ cap ∧ cap ≤ maxLen ∧ (ad = none → cap = 0) := by
  rcases h.2 with ⟨h1, h2⟩ | ⟨g, cap', cur, h1, hg, hh, h3, h4, _⟩
  · simp only [Value.slice.injEq] at h1
    obtain ⟨rfl, rfl, rfl⟩ := h1
    exact ⟨h2.symm, Nat.le_refl _, by unfold maxLen; omega, fun _ => rfl⟩
  · simp only [Value.slice.injEq] at h1
    obtain ⟨rfl, rfl, rfl⟩ := h1
    exact ⟨rfl, h3, h4, fun h => by cases h⟩

section
variable {P : Program} {w : World} {ops : Array Oper} {o : Oper} {a : Act} {Q : Exit → Act → World → Prop} {t e : TypeId} {i : TypeInfo} {z : Value} {by' : Nat}

/-- 'append(out, l...)', out nil or the call's own row: as a step. -/
theorem wp_append_rows {α : Type} (E : Enc α) {K : Act → World → Prop} (ht : P.underlying t = some (.slice e)) (hi : P.info? e = some i) (hz : i.zero = some z) (hsize : i.size = E.k) (hby : i.bytes = by') (hzs : z.cells.size = E.k)
    (s x : Operand) (ho : o.op = .call { callee := .builtin .append, args := #[s, x], argTypes := #[t, t] })
    (base : Nat) (v : Value) (n : Nat) (l : List α) (hs : a.eval s = v) (hn : n = l.length) (hown : w.ownsRow base e E.k v n (flat E l))
    (a2 : Option Addr) (m : Nat) (l2 : List α) (c : Nat) (hx : a.eval x = .slice a2 m c) (hm : m = l2.length) (hnil : a2 = none → c = 0 ∧ m = 0) (hrow : RowE E w a2 l2)
    (hlen : (n + m) ≤ maxLen) (hbytes : (n + m) * by' ≤ 140737488355328) (hbase : base ≤ w.heap.size)
    (h : ∀ (ad' : Option Addr) (cap' : Nat) w', Hid (w'.ownsRow base e E.k (.slice ad' (n + m) cap') (n + m) (flat E (l ++ l2))) → Hid (w.grownBy w' v.ownBlock) → K (a.put o.dst (.slice ad' (n + m) cap')) w') :
    o.wp P a w K Q := by
  subst hm
  cases a2 with
  | none =>
    obtain ⟨rfl, h0⟩ := hnil rfl
    have hl2 : l2 = [] := List.eq_nil_iff_length_eq_zero.mpr h0
    subst hl2
    have hrun := run_append_owned_none (P := P) (w := w) base t o.type e i E.k ht hi v n (flat E l) hown
    have hv : ∃ ad cap, v = .slice ad n cap := by
      rcases hown.2 with ⟨rfl, hn⟩ | ⟨g, cap, cur, rfl, _⟩
      · exact ⟨none, 0, by rw [hn]⟩
      · exact ⟨_, _, rfl⟩
    obtain ⟨ad, cap, rfl⟩ := hv
    unfold Oper.wp
    simp [execOp, ho, resolve, invoke, builtin, hs, hx, hrun, Result.andThen]
    exact h ad cap w (Lib.hid (by simpa using hown)) (Lib.hid ⟨rfl, rfl, rfl, Nat.le_refl _, fun _ _ _ => rfl⟩)
  | some ad =>
    refine wp_append_own w s x t ho base e i z E.k by' ht hi hz hsize hby hzs E.pos v n (flat E l) hs hown ad l2.length c (flat E l2) hx (flat_len E l2) hrow.news (flat_one E l2) hlen hbytes hbase fun v' w' h2 h3 _ => ?_
    have hv : ∃ ad' cap', v' = .slice ad' (n + l2.length) cap' := by
      rcases h2.2 with ⟨rfl, hn⟩ | ⟨g, cap, cur, rfl, _⟩
      · exact ⟨none, 0, by rw [hn]⟩
      · exact ⟨_, _, rfl⟩
    obtain ⟨ad', cap', rfl⟩ := hv
    exact h ad' cap' w' (Lib.hid (by rw [flat_append]; exact h2)) (Lib.hid h3)

theorem step_append_rows {α : Type} (E : Enc α) {K : Act → World → Prop} {Ee : Prop} (ht : P.underlying t = some (.slice e)) (hi : P.info? e = some i) (hz : i.zero = some z) (hsize : i.size = E.k) (hby : i.bytes = by') (hzs : z.cells.size = E.k)
    (hgd : o.guard = none) (s x : Operand) (ho : o.op = .call { callee := .builtin .append, args := #[s, x], argTypes := #[t, t] })
    (base : Nat) (v : Value) (n : Nat) (l : List α) (hs : a.eval s = v) (hn : n = l.length) (hown : w.ownsRow base e E.k v n (flat E l))
    (a2 : Option Addr) (m : Nat) (l2 : List α) (c : Nat) (hx : a.eval x = .slice a2 m c) (hm : m = l2.length) (hnil : a2 = none → c = 0 ∧ m = 0) (hrow : RowE E w a2 l2)
    (hlen : (n + m) ≤ maxLen) (hbytes : (n + m) * by' ≤ 140737488355328) (hbase : base ≤ w.heap.size)
    (h : ∀ (ad' : Option Addr) (cap' : Nat) w', Hid (w'.ownsRow base e E.k (.slice ad' (n + m) cap') (n + m) (flat E (l ++ l2))) → Hid (w.grownBy w' v.ownBlock) → K (a.put o.dst (.slice ad' (n + m) cap')) w') :
    if Region.wanted o (yielded ops a.tmps) = true then Oper.wp P o a w K Q else Ee := by
  have hw : Region.wanted o (yielded ops a.tmps) = true := by simp [Region.wanted, hgd]
  rw [if_pos hw]
  exact wp_append_rows E ht hi hz hsize hby hzs s x ho base v n l hs hn hown a2 m l2 c hx hm hnil hrow hlen hbytes hbase h

theorem list_append_rows {α : Type} (E : Enc α) {rest : List Oper} (ht : P.underlying t = some (.slice e)) (hi : P.info? e = some i) (hz : i.zero = some z) (hsize : i.size = E.k) (hby : i.bytes = by') (hzs : z.cells.size = E.k)
    (hgd : o.guard = none) (s x : Operand) (ho : o.op = .call { callee := .builtin .append, args := #[s, x], argTypes := #[t, t] })
    (base : Nat) (v : Value) (n : Nat) (l : List α) (hs : a.eval s = v) (hn : n = l.length) (hown : w.ownsRow base e E.k v n (flat E l))
    (a2 : Option Addr) (m : Nat) (l2 : List α) (c : Nat) (hx : a.eval x = .slice a2 m c) (hm : m = l2.length) (hnil : a2 = none → c = 0 ∧ m = 0) (hrow : RowE E w a2 l2)
    (hlen : (n + m) ≤ maxLen) (hbytes : (n + m) * by' ≤ 140737488355328) (hbase : base ≤ w.heap.size)
    (h : ∀ (ad' : Option Addr) (cap' : Nat) w', Hid (w'.ownsRow base e E.k (.slice ad' (n + m) cap') (n + m) (flat E (l ++ l2))) → Hid (w.grownBy w' v.ownBlock) → wpList P ops Q rest (a.put o.dst (.slice ad' (n + m) cap')) w') :
    wpList P ops Q (o :: rest) a w :=
  wpList_plain hgd fun _ hK => wp_append_rows E ht hi hz hsize hby hzs s x ho base v n l hs hn hown a2 m l2 c hx hm hnil hrow hlen hbytes hbase fun ad' cap' w' h1 h2 => hK _ _ (h ad' cap' w' h1 h2)
end
end Rw
end Go.Proofs.YtglhdlkmgmbgeaaDoor

namespace Go.Proofs.YtglhdlkmgmbgeaaDoor
open Go.RowKit
set_option linter.unusedVariables false
namespace Rw
open Mem Arg

/-- A slice value leads to these elements, in a row whose cells up to the capacity may be written. -/
structure QRow {α : Type} (E : Enc α) (w : World) (ad : Option Addr) (cap : Nat) (l : List α) : Prop where
  le : l.length ≤ cap
  max : cap ≤ maxLen
  nil : ad = none → cap = 0
  lies : ∀ a, ad = some a → ∃ b off, a = ⟨b, off, none⟩ ∧ b < w.heap.size ∧ (∀ i, (h : i < l.length) → CE E w b (off + i * E.k) l[i]) ∧ ∀ j, j < cap * E.k → (w.cell? ⟨b, off + j, none⟩).isSome = true ∧ w.frozen? ⟨b, off + j, none⟩ = false

theorem QRow.bare {α : Type} (E : Enc α) (w : World) : QRow E w none 0 [] := ⟨Nat.le_refl _, by unfold maxLen; omega, fun _ => rfl, fun a h => by cases h⟩
theorem QRow.row {α : Type} {E : Enc α} {w : World} {ad : Option Addr} {cap : Nat} {l : List α} (h : QRow E w ad cap l) : RowE E w ad l := by
  cases ad with
  | none =>
    have h0 := h.nil rfl
    exact .inl (List.eq_nil_iff_length_eq_zero.mpr (by have := h.le; omega))
  | some a =>
    obtain ⟨b, off, rfl, _, hc, _⟩ := h.lies a rfl
    exact .inr ⟨b, off, rfl, hc⟩
theorem QRow.block {α : Type} {E : Enc α} {w w' : World} {ad : Option Addr} {cap : Nat} {l : List α} (h : QRow E w ad cap l) (hs : w.heap.size ≤ w'.heap.size) (hb : ∀ b o s, ad = some ⟨b, o, s⟩ → w'.heap[b]? = w.heap[b]?) : QRow E w' ad cap l := by
  refine ⟨h.le, h.max, h.nil, fun a e => ?_⟩
  obtain ⟨b, off, rfl, h1, h2, h3⟩ := h.lies a e
  have hb' := hb b off _ e
  exact ⟨b, off, rfl, by omega, fun i hi => CE_local E w w' b _ _ hb' (h2 i hi), fun j hj => ⟨by rw [World.cell?_of_block (a := ⟨b, off + j, none⟩) hb']; exact (h3 j hj).1, by rw [World.frozen?_of_block (a := ⟨b, off + j, none⟩) hb']; exact (h3 j hj).2⟩⟩
theorem QRow.below {α : Type} {E : Enc α} {w w' : World} {ad : Option Addr} {cap : Nat} {l : List α} (h : QRow E w ad cap l) (hb : Below w.heap.size w w') : QRow E w' ad cap l :=
  h.block hb.size (fun b o s e => by
    obtain ⟨b', off, e', h1, _⟩ := h.lies _ e
    simp only [Addr.mk.injEq] at e'
    obtain ⟨rfl, _⟩ := e'
    exact hb.block b h1)
theorem QRow.of_own {α : Type} {E : Enc α} {w : World} {base n cap : Nat} {e : TypeId} {ad : Option Addr} {l : List α} (h : w.ownsRow base e E.k (.slice ad n cap) l.length (flat E l)) : QRow E w ad cap l := by
  obtain ⟨hn, hle, hmx, hz⟩ := own_len h
  have hr := RowE.of_own h
  refine ⟨by omega, hmx, hz, fun a e => ?_⟩
  rcases h.2 with ⟨h1, h2⟩ | ⟨g, cap', cur, h1, hg, hh, h3, h4, h5, h6⟩
  · simp only [Value.slice.injEq] at h1
    rw [h1.1] at e; cases e
  · simp only [Value.slice.injEq] at h1
    obtain ⟨rfl, rfl, rfl⟩ := h1
    simp only [Option.some.injEq] at e
    subst e
    refine ⟨g, 0, rfl, (Array.getElem?_eq_some_iff.1 hh).1, fun i hi => ?_, fun j hj => ⟨?_, frozen_of_row _ _ _ _ _ hh⟩⟩
    · rcases hr with h0 | ⟨b', off', e', hc⟩
      · rw [h0] at hi; cases hi
      · simp only [Option.some.injEq, Addr.mk.injEq, and_true] at e'
        obtain ⟨rfl, rfl⟩ := e'
        exact hc i hi
    · rw [Nat.zero_add, Obj.cell_at hh j, Array.getElem?_eq_getElem (by omega)]; rfl

theorem grown_setCells (b : Nat) : ∀ (vs : List Value) (o : Nat) (w : World), w.grownBy (w.setCells b o vs) (some b)
  | [], _, w => ⟨rfl, rfl, rfl, Nat.le_refl _, fun _ _ _ => rfl⟩
  | v :: r, o, w => World.grownBy.trans (b := w.setCell ⟨b, o, .none⟩ v) ⟨rfl, rfl, rfl, by simp [World.setCell], fun k hk hne => Below.heap_setCell _ _ _ _ (fun e => hne (by simp [e]))⟩ (grown_setCells b r (o + 1) _)

section
variable {P : Program} {t e : TypeId} {i : TypeInfo} {z : Value} {by' : Nat}
/-- 'append(q, l...)'. -/
theorem run_append_que {α : Type} (E : Enc α) (w : World) (ty : TypeId) (ht : P.underlying t = some (.slice e)) (hi : P.info? e = some i) (hz : i.zero = some z) (hsize : i.size = E.k) (hby : i.bytes = by') (hzs : z.cells.size = E.k)
    (ad : Option Addr) (cap : Nat) (l : List α) (h : QRow E w ad cap l) (a2 : Addr) (c : Nat) (l2 : List α) (hr : RowE E w (some a2) l2) (hlen : l.length + l2.length ≤ maxLen) (hbytes : (l.length + l2.length) * by' ≤ 140737488355328) :
    ∃ ad' cap' w', (Builtin.append_ #[t, t] ty #[.slice ad l.length cap, .slice (some a2) l2.length c]).run P w = .ok (.slice ad' (l.length + l2.length) cap') w' ∧ QRow E w' ad' cap' (l ++ l2) ∧ w.grownBy w' (ad.map (·.block)) ∧
      (∀ b o s, ad' = some ⟨b, o, s⟩ → (∃ o', ad = some ⟨b, o', .none⟩) ∨ w.heap.size ≤ b) := by
  by_cases hroom : l.length + l2.length ≤ cap ∧ 0 < cap
  · obtain ⟨hroom, hpos⟩ := hroom
    cases ad with
    | none => have := h.nil rfl; omega
    | some a =>
      obtain ⟨b, off, rfl, hb, hc, hsp⟩ := h.lies a rfl
      have hnl := flat_len E l2
      have hsp' : ∀ j, j < (flat E l2).length → (w.cell? ⟨b, off + l.length * i.size + j, .none⟩).isSome = true ∧ w.frozen? ⟨b, off + l.length * i.size + j, .none⟩ = false := fun j hj => by
        have hlt : l.length * E.k + j < cap * E.k := by
          have : (l.length + l2.length) * E.k ≤ cap * E.k := Nat.mul_le_mul_right _ hroom
          rw [Nat.add_mul] at this
          omega
        have := hsp (l.length * E.k + j) hlt
        rw [← Nat.add_assoc] at this
        rw [hsize]; exact this
      have hrun := run_append_room_cells (P := P) w t ty e i ht hi b off l.length cap a2 l2.length c (flat E l2) (by rw [hnl, hsize]) hr.news (flat_one E l2) hroom (fun j hj => (hsp' j hj).1) (fun j hj => (hsp' j hj).2)
      rw [hsize] at hrun
      refine ⟨some ⟨b, off, .none⟩, cap, _, hrun, ⟨by simpa using hroom, h.max, (fun e => by cases e), fun a e => ?_⟩, grown_setCells b _ _ w, fun b' o s e => .inl ?_⟩
      · simp only [Option.some.injEq] at e
        subst e
        have hin := World.cell?_setCells_in b (flat E l2) (off + l.length * E.k) w (fun j hj => by have := (hsp' j hj).1; rwa [hsize] at this)
        refine ⟨b, off, rfl, Nat.lt_of_lt_of_le hb (grown_setCells b _ _ w).size, fun i' hi' r u hu => ?_, fun j hj => ⟨?_, by rw [World.frozen?_setCells]; exact (hsp j hj).2⟩⟩
        · by_cases hlt : i' < l.length
          · rw [List.getElem_append_left hlt] at hu
            have hr' : r < E.k := by
              have := (List.getElem?_eq_some_iff.1 hu).1
              rwa [E.len] at this
            rw [World.cell?_setCells_out b _ _ _ _ (fun _ _ => Or.inl (by
              show off + i' * E.k + r < off + l.length * E.k
              have : (i' + 1) * E.k ≤ l.length * E.k := Nat.mul_le_mul_right _ hlt
              rw [Nat.add_mul] at this; omega))]
            exact hc i' hlt r u hu
          · rw [List.getElem_append_right (by omega)] at hu
            have hi2 : i' - l.length < l2.length := by simp at hi'; omega
            have hf := flat_of E l2 (i' - l.length) r hi2 u hu
            obtain ⟨hjl, hje⟩ := List.getElem?_eq_some_iff.1 hf
            have := hin _ hjl
            rw [hje] at this
            rw [← this]
            congr 2
            have e1 : i' * E.k = l.length * E.k + (i' - l.length) * E.k := by rw [← Nat.add_mul]; congr 1; omega
            rw [e1]; omega
        · by_cases hj2 : l.length * E.k ≤ j ∧ j < l.length * E.k + (flat E l2).length
          · have := hin (j - l.length * E.k) (by omega)
            rw [show off + j = off + l.length * E.k + (j - l.length * E.k) by omega, this]; rfl
          · rw [World.cell?_setCells_out b _ _ _ _ (fun _ _ => by show off + j < off + l.length * E.k ∨ off + l.length * E.k + (flat E l2).length ≤ off + j; omega)]
            exact (hsp j hj).1
      · simp only [Option.some.injEq, Addr.mk.injEq] at e
        exact ⟨off, by rw [e.1]⟩
  · have hlo := flat_len E l
    have key : ∃ v' w', (Builtin.append_ #[t, t] ty #[.slice ad l.length cap, .slice (some a2) l2.length c]).run P w = .ok v' w' ∧ ((w'.ownsRow w.heap.size e E.k v' (l.length + l2.length) (flat E l ++ flat E l2) ∧ w.grownBy w' .none) ∨ (v' = .slice ad 0 0 ∧ w' = w ∧ l = [] ∧ l2 = [] ∧ cap = 0)) := by
      cases ad with
      | none =>
        have h0 := h.nil rfl
        subst h0
        have hl0 : l = [] := List.eq_nil_iff_length_eq_zero.mpr (by have := h.le; omega)
        subst hl0
        obtain ⟨v', w', hrun, r1, r2, _⟩ := run_append_own (P := P) w w.heap.size t ty e i z E.k by' ht hi hz hsize hby hzs E.pos (.slice .none 0 0) 0 [] (World.ownsRow_nil w _ e E.k) a2 l2.length c (flat E l2) (flat_len E l2) hr.news (flat_one E l2) (by simpa using hlen) (by simpa using hbytes) (Nat.le_refl _)
        exact ⟨v', w', hrun, .inl ⟨by simpa [flat] using r1, r2⟩⟩
      | some a =>
        by_cases hz0 : cap < l.length + l2.length
        · obtain ⟨b, off, rfl, hb, hc, hsp⟩ := h.lies a rfl
          obtain ⟨v', w', hrun, r1, r2⟩ := run_append_arg_grows (P := P) w t ty e i z E.k by' ht hi hz hsize hby hzs E.pos ⟨b, off, .none⟩ l.length cap (flat E l) (flat_len E l) (fun j u hj => RowE.news (.inr ⟨b, off, rfl, hc⟩) j u hj) a2 l2.length c (flat E l2) (flat_len E l2) hr.news hz0 hlen hbytes
          exact ⟨v', w', hrun, .inl ⟨r1, r2⟩⟩
        · have hcap : cap = 0 := by omega
          subst hcap
          have hl0 : l = [] := List.eq_nil_iff_length_eq_zero.mpr (by omega)
          have hl2 : l2 = [] := List.eq_nil_iff_length_eq_zero.mpr (by omega)
          subst hl0 hl2
          obtain ⟨b, off, rfl, hb, hc, hsp⟩ := h.lies a rfl
          have hrun := run_append_room_cells (P := P) w t ty e i ht hi b off 0 0 a2 0 c [] (by simp) (fun j u hj => by simp at hj) (by simp) (Nat.le_refl _) (fun j hj => by simp at hj) (fun j hj => by simp at hj)
          exact ⟨_, _, hrun, .inr ⟨rfl, rfl, rfl, rfl, rfl⟩⟩
    obtain ⟨v', w', hrun, ⟨r1, r2⟩ | ⟨rfl, rfl, rfl, rfl, rfl⟩⟩ := key
    · obtain ⟨ad', cap', rfl⟩ : ∃ ad' cap', v' = .slice ad' (l.length + l2.length) cap' := by
        rcases r1.2 with ⟨rfl, hn⟩ | ⟨g, cap, cur, rfl, _⟩
        · exact ⟨.none, 0, by rw [hn]⟩
        · exact ⟨_, _, rfl⟩
      rw [← flat_append, ← List.length_append] at r1
      refine ⟨ad', cap', w', hrun, QRow.of_own r1, ⟨r2.os, r2.tape, r2.output, r2.size, fun k hk _ => r2.block k hk (by simp)⟩, fun b o s e => .inr ?_⟩
      exact (own_blk r1 b o s e).1
    · refine ⟨ad, 0, w', hrun, by simpa using h, ⟨rfl, rfl, rfl, Nat.le_refl _, fun _ _ _ => rfl⟩, fun b o s e => .inl ?_⟩
      obtain ⟨b', off, e', _⟩ := h.lies _ e
      rw [e, e']
      simp only [Addr.mk.injEq] at e'
      exact ⟨off, by rw [e'.1]⟩

variable {w : World} {ops : Array Oper} {o : Oper} {a : Act} {Q : Exit → Act → World → Prop}
/-- As a step of a region that draws its order. -/
theorem step_append_que {α : Type} (E : Enc α) {K : Act → World → Prop} {Ee : Prop} (ht : P.underlying t = some (.slice e)) (hi : P.info? e = some i) (hz : i.zero = some z) (hsize : i.size = E.k) (hby : i.bytes = by') (hzs : z.cells.size = E.k)
    (hgd : o.guard = none) (s x : Operand) (ho : o.op = .call { callee := .builtin .append, args := #[s, x], argTypes := #[t, t] })
    (ad : Option Addr) (n cap : Nat) (l : List α) (hs : a.eval s = .slice ad n cap) (hn : n = l.length) (h : QRow E w ad cap l)
    (a2 : Addr) (m : Nat) (l2 : List α) (c : Nat) (hx : a.eval x = .slice (some a2) m c) (hm : m = l2.length) (hr : RowE E w (some a2) l2)
    (hlen : n + m ≤ maxLen) (hbytes : (n + m) * by' ≤ 140737488355328)
    (hK : ∀ (ad' : Option Addr) (cap' : Nat) w', Hid (QRow E w' ad' cap' (l ++ l2)) → Hid (w.grownBy w' (ad.map (·.block))) → Hid (∀ b o s, ad' = some ⟨b, o, s⟩ → (∃ o', ad = some ⟨b, o', .none⟩) ∨ w.heap.size ≤ b) → K (a.put o.dst (.slice ad' (n + m) cap')) w') :
    if Region.wanted o (yielded ops a.tmps) = true then Oper.wp P o a w K Q else Ee := by
  have hw : Region.wanted o (yielded ops a.tmps) = true := by simp [Region.wanted, hgd]
  rw [if_pos hw]
  subst hn hm
  obtain ⟨ad', cap', w', hrun, h1, h2, h3⟩ := run_append_que E w o.type ht hi hz hsize hby hzs ad cap l h a2 c l2 hr hlen hbytes
  unfold Oper.wp
  simp [execOp, ho, resolve, invoke, builtin, hs, hx, hrun, Result.andThen]
  exact hK _ _ _ (Lib.hid h1) (Lib.hid h2) (Lib.hid h3)
end
end Rw
end Go.Proofs.YtglhdlkmgmbgeaaDoor

namespace Go.Proofs.YtglhdlkmgmbgeaaDoor
open Go.RowKit
set_option linter.unusedVariables false
namespace Sx
open Go.Proofs.YtglhdlkmgmbgeaaDoor.Obj

/-- What is said of a world depends on the blocks F alone. -/
def Stable (F : List Nat) (P : World → Prop) : Prop := ∀ a b : World, a.heap.size ≤ b.heap.size → (∀ k ∈ F, b.heap[k]? = a.heap[k]?) → P a → P b
abbrev Th := List Nat × (World → Prop)
structure Ob (W w : World) (o : Th) : Prop where
  is : o.2 w
  lo : ∀ k ∈ o.1, W.heap.size ≤ k ∧ k < w.heap.size
  st : Stable o.1 o.2
def Ap (a b : Th) : Prop := ∀ k ∈ a.1, k ∉ b.1
/-- From the world W on there are these things. -/
structure Sts (W w : World) (obs : List Th) : Prop where
  bel : Below W.heap.size W w
  all : ∀ (i : Nat) (o : Th), obs[i]? = some o → Ob W w o
  ap : ∀ (i j : Nat) (x y : Th), i ≠ j → obs[i]? = some x → obs[j]? = some y → Ap x y

theorem Sts.nil (W : World) : Sts W W [] := ⟨Below.refl _ _, fun i o h => by simp at h, fun i j x y _ h => by simp at h⟩
theorem Sts.of_below {W w : World} (h : Below W.heap.size W w) : Sts W w [] := ⟨h, fun i o h => by simp at h, fun i j x y _ h => by simp at h⟩
theorem Sts.le {W w : World} {obs : List Th} (h : Sts W w obs) : W.heap.size ≤ w.heap.size := h.bel.size
theorem Sts.below {W w w' : World} {obs : List Th} (h : Sts W w obs) (hb : Below w.heap.size w w') : Sts W w' obs :=
  ⟨h.bel.trans (hb.mono h.bel.size), fun i o hi => by
    have ho := h.all i o hi
    exact ⟨ho.st w w' hb.size (fun k hk => hb.block k (ho.lo k hk).2) ho.is, fun k hk => ⟨(ho.lo k hk).1, Nat.lt_of_lt_of_le (ho.lo k hk).2 hb.size⟩, ho.st⟩, h.ap⟩
theorem Sts.tail {W w : World} {o : Th} {obs : List Th} (h : Sts W w (o :: obs)) : Sts W w obs :=
  ⟨h.bel, fun i o hi => h.all (i + 1) o (by simpa using hi), fun i j x y hn hi hj => h.ap (i + 1) (j + 1) x y (by omega) (by simpa using hi) (by simpa using hj)⟩
theorem Sts.is {W w : World} {obs : List Th} (h : Sts W w obs) (i : Nat) {F : List Nat} {P : World → Prop} (hi : obs[i]? = some (F, P)) : P w := (h.all i _ hi).is
/-- A thing of the list isn't in what a block below W is. -/
theorem Sts.low {W w : World} {obs : List Th} (h : Sts W w obs) {i : Nat} {F : List Nat} {P : World → Prop} (hi : obs[i]? = some (F, P)) {b : Nat} (hb : b < W.heap.size) : b ∉ F := fun hm => by
  have := ((h.all i _ hi).lo b hm).1; omega
/-- A new thing. -/
theorem Sts.add {W w w' : World} {obs : List Th} (h : Sts W w obs) (hb : Below w.heap.size w w') {F : List Nat} {P : World → Prop} (hF : ∀ k ∈ F, w.heap.size ≤ k ∧ k < w'.heap.size) (hs : Stable F P) (hp : P w') : Sts W w' ((F, P) :: obs) := by
  have h' := h.below hb
  refine ⟨h'.bel, fun i o hi => ?_, fun i j x y hn hi hj => ?_⟩
  · cases i with
    | zero =>
      simp only [List.getElem?_cons_zero, Option.some.injEq] at hi
      subst hi
      exact ⟨hp, fun k hk => ⟨Nat.le_trans h.le (hF k hk).1, (hF k hk).2⟩, hs⟩
    | succ i => exact h'.all i o (by simpa using hi)
  · cases i with
    | zero =>
      simp only [List.getElem?_cons_zero, Option.some.injEq] at hi
      subst hi
      cases j with
      | zero => exact absurd rfl hn
      | succ j =>
        intro k hk hm
        have h1 := (hF k hk).1
        have h2 := ((h.all j y (by simpa using hj)).lo k hm).2
        omega
    | succ i =>
      cases j with
      | zero =>
        simp only [List.getElem?_cons_zero, Option.some.injEq] at hj
        subst hj
        intro k hk hm
        have h1 := (hF k hm).1
        have h2 := ((h.all i x (by simpa using hi)).lo k hk).2
        omega
      | succ j => exact h'.ap i j x y (by omega) (by simpa using hi) (by simpa using hj)
/-- A thing becomes another one, and beside it there is one more. -/
theorem Sts.turnAdd {W w w' : World} {obs : List Th} (h : Sts W w obs) {i : Nat} {F F' G : List Nat} {P P' Q : World → Prop} (hi : obs[i]? = some (F, P)) (hk : Kept F w w')
    (hn : ∀ k ∈ F', k ∈ F ∨ w.heap.size ≤ k) (hl : ∀ k ∈ F', k < w'.heap.size) (hs : Stable F' P') (hp : P' w')
    (hG : ∀ k ∈ G, (k ∈ F ∨ w.heap.size ≤ k) ∧ k ∉ F' ∧ k < w'.heap.size) (hsQ : Stable G Q) (hq : Q w') : Sts W w' ((G, Q) :: obs.set i (F', P')) := by
  have hF := (h.all i _ hi).lo
  have hbel : Below W.heap.size W w' := Kept.below h.bel hk (fun k hkF => (hF k hkF).1) h.le
  have new : ∀ {k : Nat}, k ∈ F ∨ w.heap.size ≤ k → W.heap.size ≤ k := fun {k} hk => by
    rcases hk with h1 | h1
    · exact (hF k h1).1
    · exact Nat.le_trans h.le h1
  have apart : ∀ {j : Nat} {y : Th} {k : Nat}, i ≠ j → obs[j]? = some y → (k ∈ F ∨ w.heap.size ≤ k) → k ∉ y.1 := fun {j y k} hj hy hk hm => by
    rcases hk with h1 | h1
    · exact h.ap i j _ y hj hi hy k h1 hm
    · have := ((h.all j y hy).lo k hm).2; omega
  have get : ∀ {j : Nat} {y : Th}, (obs.set i (F', P'))[j]? = some y → (i = j ∧ y = (F', P')) ∨ (i ≠ j ∧ obs[j]? = some y) := fun {j y} hy => by
    by_cases hij : i = j
    · subst hij
      rw [List.getElem?_set_self (List.getElem?_eq_some_iff.1 hi).1] at hy
      exact .inl ⟨rfl, (Option.some.inj hy).symm⟩
    · rw [List.getElem?_set_ne hij] at hy
      exact .inr ⟨hij, hy⟩
  refine ⟨hbel, fun j o hj => ?_, fun a b x y hn' ha hb => ?_⟩
  · cases j with
    | zero =>
      simp only [List.getElem?_cons_zero, Option.some.injEq] at hj
      subst hj
      exact ⟨hq, fun k hk => ⟨new (hG k hk).1, (hG k hk).2.2⟩, hsQ⟩
    | succ j =>
      rcases get (by simpa using hj) with ⟨rfl, rfl⟩ | ⟨hij, hj'⟩
      · exact ⟨hp, fun k hk => ⟨new (hn k hk), hl k hk⟩, hs⟩
      · have ho := h.all j o hj'
        exact ⟨ho.st w w' hk.size (fun k hko => hk.block k (ho.lo k hko).2 (fun hm => h.ap i j _ o hij hi hj' k hm hko)) ho.is, fun k hko => ⟨(ho.lo k hko).1, Nat.lt_of_lt_of_le (ho.lo k hko).2 hk.size⟩, ho.st⟩
  · cases a with
    | zero =>
      simp only [List.getElem?_cons_zero, Option.some.injEq] at ha
      subst ha
      cases b with
      | zero => exact absurd rfl hn'
      | succ b =>
        rcases get (by simpa using hb) with ⟨rfl, rfl⟩ | ⟨hij, hj'⟩
        · exact fun k hk => (hG k hk).2.1
        · exact fun k hk => apart hij hj' (hG k hk).1
    | succ a =>
      cases b with
      | zero =>
        simp only [List.getElem?_cons_zero, Option.some.injEq] at hb
        subst hb
        rcases get (by simpa using ha) with ⟨rfl, rfl⟩ | ⟨hij, hj'⟩
        · exact fun k hk hm => (hG k hm).2.1 hk
        · exact fun k hk hm => apart hij hj' (hG k hm).1 hk
      | succ b =>
        rcases get (by simpa using ha) with ⟨rfl, rfl⟩ | ⟨hia, ha'⟩
        · rcases get (by simpa using hb) with ⟨rfl, rfl⟩ | ⟨hij, hj'⟩
          · exact absurd rfl hn'
          · exact fun k hk => apart hij hj' (hn k hk)
        · rcases get (by simpa using hb) with ⟨rfl, rfl⟩ | ⟨hij, hj'⟩
          · exact fun k hk hm => apart hia ha' (hn k hm) hk
          · exact h.ap a b x y (by omega) ha' hj'
/-- A thing becomes another one. -/
theorem Sts.turn {W w w' : World} {obs : List Th} (h : Sts W w obs) {i : Nat} {F F' : List Nat} {P P' : World → Prop} (hi : obs[i]? = some (F, P)) (hk : Kept F w w')
    (hn : ∀ k ∈ F', k ∈ F ∨ w.heap.size ≤ k) (hl : ∀ k ∈ F', k < w'.heap.size) (hs : Stable F' P') (hp : P' w') : Sts W w' (obs.set i (F', P')) :=
  (h.turnAdd (G := []) (Q := fun _ => True) hi hk hn hl hs hp (fun k hk => by cases hk) (fun _ _ _ _ h => h) trivial).tail
/-- The block of a slice's row. -/
def blk : Option Addr → List Nat
  | none => []
  | some a => [a.block]
theorem mem_blk {ad : Option Addr} {k : Nat} (h : k ∈ blk ad) : ∃ o s, ad = some ⟨k, o, s⟩ := by
  cases ad with
  | none => cases h
  | some a =>
    simp only [blk, List.mem_singleton] at h
    subst h
    exact ⟨a.off, a.spot, rfl⟩
/-- Two things apart: a block of the one isn't the other's. -/
theorem Sts.apart {W w : World} {obs : List Th} (h : Sts W w obs) (i j : Nat) {F G : List Nat} {P Q : World → Prop} (hi : obs[i]? = some (F, P)) (hj : obs[j]? = some (G, Q)) (hij : i ≠ j) : ∀ k ∈ F, k ∉ G := h.ap i j _ _ hij hi hj
end Sx
end Go.Proofs.YtglhdlkmgmbgeaaDoor

namespace Go.Proofs.YtglhdlkmgmbgeaaDoor
open Go.RowKit
namespace Fra
open Arg Mem Go.Proofs.YtglhdlkmgmbgeaaDoor.Obj
set_option linter.unusedVariables false

def ESt : Rw.Enc StM where
  enc s := [.int .i64 s.id, .int .i64 s.val]
  k := 2
  pos := by decide
  len _ := rfl
  one x v h := by
    simp only [List.mem_cons, List.not_mem_nil, or_false] at h
    rcases h with rfl | rfl <;> rfl
theorem CE_st {w : World} {b o : Nat} {s : StM} (h : Rw.CE ESt w b o s) : w.cell? ⟨b, o, none⟩ = some (.int .i64 s.id) ∧ w.cell? ⟨b, o + 1, none⟩ = some (.int .i64 s.val) := ⟨h 0 _ rfl, h 1 _ rfl⟩
/-- The cells of a frame; its settings lie at sa. -/
def frC (f : FrM) (sa : Option Addr) (sc : Nat) : Array Value :=
  #[.int .i64 f.type, .int .i64 f.flags, .int .i64 f.stream, .string f.data, .int .i64 f.pad, .slice sa f.sets.length sc, .int .i64 f.code, .int .i64 f.last, .int .i64 f.inc, .int .i64 f.dep, .int .i64 f.weight, .bool f.sole]
def frV (f : FrM) (sa : Option Addr) (sc : Nat) : Value := .agg (frC f sa sc)
def faV (x : FaM) : Value := .agg #[.bool x.is, .int .i64 x.code, .int .i64 x.stream]
/-- A frame's settings are there. -/
structure FrOk (f : FrM) (sa : Option Addr) (sc : Nat) (w : World) : Prop where
  row : Rw.RowE ESt w sa f.sets
  len : f.sets.length ≤ sc
  cap : sc ≤ maxLen
theorem FrOk.below {f : FrM} {sa : Option Addr} {sc : Nat} {w w' : World} (h : FrOk f sa sc w) (hb : Below w.heap.size w w') : FrOk f sa sc w' := ⟨h.row.below hb, h.len, h.cap⟩
/-- The numbers of a frame are such as there are. -/
structure FrWf (f : FrM) : Prop where
  ints : ∀ z ∈ [f.type, f.flags, f.stream, f.pad, f.code, f.last, f.inc, f.dep, f.weight], -9223372036854775808 ≤ z ∧ z ≤ 9223372036854775807
  sets : ∀ s ∈ f.sets, (-9223372036854775808 ≤ s.id ∧ s.id ≤ 9223372036854775807) ∧ (-9223372036854775808 ≤ s.val ∧ s.val ≤ 9223372036854775807)
  data : f.data.size ≤ 140737488351232

/-- Settings that came in. -/
theorem sets_in {w : World} {ad : Option Addr} {len cap : Nat} (h : Slc w [.int .i64, .int .i64] ad len cap) :
    ∃ l : List StM, l.length = len ∧ Rw.RowE ESt w ad l ∧ (∀ s ∈ l, (Lit.int .i64 s.id).wf = true ∧ (Lit.int .i64 s.val).wf = true) ∧ len ≤ cap ∧ cap ≤ maxLen := by
  obtain ⟨l, hl, hr⟩ := Slc.row (C := fun w b o d => Rw.CE ESt w b o d ∧ ((Lit.int .i64 d.id).wf = true ∧ (Lit.int .i64 d.val).wf = true)) h (fun b o hc => by
    obtain ⟨⟨v1, c1, l1⟩, ⟨v2, c2, l2⟩, _⟩ := hc
    obtain ⟨s1, rfl, w1⟩ := l1.int
    obtain ⟨s2, rfl, w2⟩ := l2.int
    refine ⟨⟨s1, s2⟩, fun r v hv => ?_, w1, w2⟩
    match r, hv with
    | 0, hv => simp [ESt] at hv; subst hv; exact c1
    | 1, hv => simp [ESt] at hv; subst hv; exact c2
    | r + 2, hv => simp [ESt] at hv)
  refine ⟨l, hl, ?_, ?_, h.1, h.2.1⟩
  · rcases hr with hr | ⟨b, off, e, hc⟩
    · exact .inl hr
    · exact .inr ⟨b, off, e, fun i hi => (hc i hi).1⟩
  · rcases hr with rfl | ⟨b, off, e, hc⟩
    · intro d hd; cases hd
    · intro d hd
      obtain ⟨i, hi, rfl⟩ := List.getElem_of_mem hd
      exact (hc i hi).2
end Fra
end Go.Proofs.YtglhdlkmgmbgeaaDoor

namespace Go.Proofs.YtglhdlkmgmbgeaaDoor
open Go.RowKit
open Oct Mem Gen
set_option linter.unusedVariables false

set_option maxHeartbeats 400000 in
theorem rput_no (n s : Int) (w : World) (h : s < 1 ∨ 4 < s) :
    Calls Tryd.prog 22 #[.int .u32 n, .int .i64 s] w (MadeB w []) := by
  rcases h with h | h
  · go_enter Tryd.func22, Tryd.ntmps22
    go_wp2_with fail
    go_ret
    exact ⟨none, 0, rfl, Lib.hid (World.ownsRow_nil _ _ _ _), Below.refl _ _⟩
  · have h0 : ¬ s < 1 := by omega
    go_enter Tryd.func22, Tryd.ntmps22
    go_wp2_with fail
    go_ret
    exact ⟨none, 0, rfl, Lib.hid (World.ownsRow_nil _ _ _ _), Below.refl _ _⟩

set_option maxHeartbeats 1000000 in
theorem rput_yes (n : Int) (s : Nat) (w : World) (hn0 : 0 ≤ n) (hn1 : n < 4294967296) (h1 : 1 ≤ s) (h4 : s ≤ 4) :
    Calls Tryd.prog 22 #[.int .u32 n, .int .i64 s] w (MadeB w (putL n s)) := by
  obtain ⟨i0, hi, hz0, hz1, hz2⟩ := info_parts info_u8
  have hs4 : (s : Int) ≤ 4 := by omega
  go_enter Tryd.func22, Tryd.ntmps22
  go_wp2_with (at_builtin; refine append_bytes Tryd.underlying24 hi hz0 hz1 hz2 rfl _ _ rfl w.heap.size (.slice (some ⟨w.heap.size + 1, 0, none⟩) 0 0) [] rfl ?c0 w.heap.size (4 - s) (4 - (4 - s)) (4 - (4 - s)) (putL n s) ?c1 rfl ?c2 ?c3 ?c4 ?_)
  case c0 => exact own_empty2 _ _ _
  case c1 => rw [putL_length]; omega
  case c2 =>
    intro i hi
    rw [putL_at, cell_first_of_two]
    rw [putL_length] at hi
    have h := byteAt_four n (s - 1 - i) hn0 hn1 (by omega)
    rw [show 3 - (s - 1 - i) = 4 - s + i from by omega] at h
    have h2 := congrArg (Option.map (Value.int .u8)) h
    rw [← List.getElem?_map] at h2
    simpa using h2
  case c3 => rw [putL_length]; simp; omega
  case c4 => simp; omega
  intro ad1 cap1 w1 hown1 hb1
  go_wp2_with fail
  go_ret
  refine ⟨ad1, cap1, ?_, ?_, ?_⟩
  · simp [putL_length]
  · have h := hown1.out
    exact Lib.hid h
  · exact hb1 _ _ (((Below.refl _ _).alloc (Nat.le_refl _) _).alloc (by simp) _) (Nat.le_refl _)

theorem beI_small (l : List UInt8) (h : l.length ≤ 3) : 0 ≤ beI l ∧ beI l < 16777216 := by
  have hb := beI_bd l
  have : l.length = 0 ∨ l.length = 1 ∨ l.length = 2 ∨ l.length = 3 := by omega
  rcases this with h | h | h | h <;> rw [h] at hb <;> exact ⟨hb.1, Int.lt_of_lt_of_le hb.2 (by decide)⟩

theorem beI_four (l : List UInt8) (h : l.length ≤ 4) : 0 ≤ beI l ∧ beI l < 4294967296 := by
  have hb := beI_bd l
  have : l.length = 0 ∨ l.length = 1 ∨ l.length = 2 ∨ l.length = 3 ∨ l.length = 4 := by omega
  rcases this with h | h | h | h | h <;> rw [h] at hb <;> exact ⟨hb.1, Int.lt_of_lt_of_le hb.2 (by decide)⟩

set_option maxHeartbeats 1000000 in
theorem rtake_any (a : Option Addr) (l : List UInt8) (cap : Nat) (p s : Int) (w : World) (hl : l.length ≤ maxLen) (hr : RB w a l) (hp0 : -9223372036854775808 ≤ p) (hp1 : p ≤ 9223372036854775807) :
    Calls Tryd.prog 32 #[.slice a l.length cap, .int .i64 p, .int .i64 s] w fun e w' => e = .returned (.tuple #[.int .u32 (takeV l p s), .int .i64 (takeE l p s)]) ∧ w = w' := by
  unfold maxLen at hl
  by_cases hs : s < 1 ∨ 4 < s
  · have hv : takeV l p s = 0 := by rw [takeV, if_pos (by omega)]
    have he : takeE l p s = 1 := by rw [takeE, if_pos (by omega)]
    rw [hv, he]
    clear hv he hr
    rcases hs with h | h
    · go_enter Tryd.func32, Tryd.ntmps32
      go_wp2_with fail
      go_ret2
      exact ⟨rfl, rfl⟩
    · have h0 : ¬ s < 1 := by omega
      go_enter Tryd.func32, Tryd.ntmps32
      go_wp2_with fail
      go_ret2
      exact ⟨rfl, rfl⟩
  · have hs1 : 1 ≤ s := by omega
    have hs4 : s ≤ 4 := by omega
    by_cases hp : p < 0
    · have hv : takeV l p s = 0 := by rw [takeV, if_pos (by omega)]
      have he : takeE l p s = 1 := by rw [takeE, if_pos (by omega)]
      rw [hv, he]
      clear hv he hr hs
      go_enter Tryd.func32, Tryd.ntmps32
      go_wp2_with fail
      go_ret2
      exact ⟨rfl, rfl⟩
    · obtain ⟨q, rfl⟩ := Int.eq_ofNat_of_zero_le (show 0 ≤ p by omega)
      obtain ⟨t, rfl⟩ := Int.eq_ofNat_of_zero_le (show 0 ≤ s by omega)
      have hp' : (0 : Int) ≤ (q : Int) := by omega
      have HV : Hid (takeV l q t = if (l.length : Int) - q < t then 0 else beI ((l.drop q).take t)) := Lib.hid (by rw [takeV, if_neg (by omega)]; simp)
      have HE : Hid (takeE l q t = if (l.length : Int) - q < t then 12 else 0) := Lib.hid (by rw [takeE, if_neg (by omega)])
      rcases hr with rfl | ⟨b, off, rfl, hc⟩
      · have hv : takeV [] q t = 0 := by rw [HV.out, if_pos (by simp; omega)]
        have he : takeE [] q t = 12 := by rw [HE.out, if_pos (by simp; omega)]
        rw [hv, he]
        clear hv he HV HE hs hp
        go_enter Tryd.func32, Tryd.ntmps32
        go_wp2_with fail
        go_loop [8, 9] (fun n i => i = .int .i64 0 ∧ n = .int .u32 0) (fun _ i => 0)
        case atStart => exact ⟨rfl, rfl⟩
        case round =>
          obtain ⟨rfl, rfl⟩ := hrel
          go_wp2_with fail
          go_ret2
          exact ⟨rfl, rfl⟩
      · generalize takeV l q t = V at HV ⊢
        generalize takeE l q t = E at HE ⊢
        have HC := Lib.hid hc
        clear hs hp hc
        go_enter Tryd.func32, Tryd.ntmps32
        go_wp2_with fail
        go_loop [8, 9] (fun n i => ∃ (k : Nat), k ≤ t ∧ Hid (k = 0 ∨ q + k ≤ l.length) ∧ i = .int .i64 k ∧ n = .int .u32 (beI ((l.drop q).take k))) (fun _ i => t - (intOf i).toNat)
        case atStart => exact ⟨0, Nat.zero_le _, Or.inl rfl, rfl, by simp [beI]⟩
        case round =>
          obtain ⟨k, hk, HK, rfl, rfl⟩ := hrel
          by_cases hlt : k < t
          · by_cases hi : q + k < l.length
            · have hcell := HC.out (q + k) hi
              have hcb := l[q + k].toNat_lt
              have hb := beI_small ((l.drop q).take k) (by simp; omega)
              have hsn : Hid (beI ((l.drop q).take (k + 1)) = beI ((l.drop q).take k) * 256 + l[q + k].toNat) := Lib.hid (by rw [take_drop_snoc l q k hi, beI_snoc])
              go_wp2_with fail
              go_round
              case rel => exact ⟨k + 1, by omega, Or.inr (by omega), by go_num, by rw [hsn.out]⟩
              case measure => simp [intOf]; omega
            · have hv : V = 0 := by rw [HV.out, if_pos (by omega)]
              have he : E = 12 := by rw [HE.out, if_pos (by omega)]
              subst hv he
              clear HV HE HK
              go_wp2_with fail
              go_ret2
              exact ⟨rfl, rfl⟩
          · have hkt : k = t := by omega
            subst hkt
            have hle : q + k ≤ l.length := by rcases HK.out with h | h; omega; exact h
            have hv : V = beI ((l.drop q).take k) := by rw [HV.out, if_neg (by omega)]
            have he : E = 0 := by rw [HE.out, if_neg (by omega)]
            subst hv he
            clear HV HE HK
            go_wp2_with fail
            go_ret2
            exact ⟨rfl, rfl⟩

end Go.Proofs.YtglhdlkmgmbgeaaDoor
