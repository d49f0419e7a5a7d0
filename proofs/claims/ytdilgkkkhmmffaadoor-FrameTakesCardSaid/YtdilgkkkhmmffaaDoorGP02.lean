/- Small things that every layer's contracts use: results, bytes of texts, rows of the call's own, bits. Rows of elements of several cells each: as arguments, as rows of the call's own, and appended. A slice that lies in a row with spare cells (at any place of it): appended to, its first element struck. A row of bytes of the call's own that grows beside an object: what stands, and appends to it. Plain functions on bytes and lists for layer 1: what its calls compute. Layer 1: the document's Put and Take of numbers as bytes, alone. -/
import Derived.Test.YtdilgkkkhmmffaaDoorRows
import Derived.Test.YtdilgkkkhmmffaaDoorGP01
import Derived.WalkKit
import Derived.WalkSpells
import Derived.WalkLawsBesides
import Derived.Lib.Hide
import Derived.RegionTactic
import Derived.IntWalk
import Derived.Deep.RegionLaw
import Derived.Deep.AppendLies
import Derived.Laws.BitsAllLaws
import Derived.Laws.AppendOwnNone
import Derived.ArgAppend
import Derived.Maps.AppendAt
set_option linter.unusedVariables false
set_option linter.unusedSimpArgs false
namespace Go.Proofs.YtdilgkkkhmmffaaDoor
open Go.RowKit
open Huf Mem
set_option linter.unusedVariables false
namespace Gen

theorem ret_int2 {k k' : IntKind} {a b c d : Int} (h : a = b) (h' : c = d) : Ending.returned (.tuple #[.int k a, .int k' c]) = .returned (.tuple #[.int k b, .int k' d]) := by rw [h, h']

theorem ret_intv {k : IntKind} {a b : Int} {y : Value} (h : a = b) : Ending.returned (.tuple #[.int k a, y]) = .returned (.tuple #[.int k b, y]) := by rw [h]

theorem ret_int {k : IntKind} {a b : Int} (h : a = b) : Ending.returned (.int k a) = .returned (.int k b) := by rw [h]

theorem ret_two {a b : Value} {k : IntKind} {c d : Int} (h : a = b) (h' : c = d) : Ending.returned (.tuple #[a, .int k c]) = .returned (.tuple #[b, .int k d]) := by rw [h, h']

theorem byte_bd (s : ByteArray) (k : Nat) (h : k < s.size) : (0 : Int) ≤ s[k].toNat ∧ (s[k].toNat : Int) ≤ 255 := by
  have := s[k].toNat_lt; omega

theorem drop_cons (s : ByteArray) (k : Nat) (h : k < s.size) : s.data.toList.drop k = s[k] :: s.data.toList.drop (k + 1) := by
  rw [List.drop_eq_getElem_cons (by simpa using h)]; rfl

theorem drop_end (s : ByteArray) (k : Nat) (h : s.size ≤ k) : s.data.toList.drop k = [] := List.drop_of_length_le (by simpa using h)

theorem list_len (s : ByteArray) : s.data.toList.length = s.size := by simp

theorem own_below {w w' : World} {base : Nat} {e : TypeId} {size : Nat} {v : Value} {n : Nat} {xs : List Value} (h : w.ownsRow base e size v n xs) (hb : Below w.heap.size w w') : w'.ownsRow base e size v n xs := by
  obtain ⟨hl, h | ⟨g, cap, cur, hv, hg, hh, hr⟩⟩ := h
  · exact ⟨hl, .inl h⟩
  · have hlt : g < w.heap.size := by
      rcases Nat.lt_or_ge g w.heap.size with h | h
      · exact h
      · rw [Array.getElem?_eq_none h] at hh; cases hh
    exact ⟨hl, .inr ⟨g, cap, cur, hv, hg, (hb.block g hlt).trans hh, hr⟩⟩

theorem own_form {w : World} {base : Nat} {e : TypeId} {size : Nat} {v : Value} {n : Nat} {xs : List Value} (h : w.ownsRow base e size v n xs) : ∃ ad cap, v = .slice ad n cap := by
  rcases h.2 with ⟨rfl, hn⟩ | ⟨g, cap, cur, rfl, _⟩
  · exact ⟨none, 0, by rw [hn]⟩
  · exact ⟨_, _, rfl⟩

theorem byte_of (a : Nat) : ((a % 256 : Nat) : Int) = ((UInt8.ofNat (a % 256)).toNat : Int) := by
  rw [UInt8.toNat_ofNat', Nat.mod_mod_of_dvd _ (by decide)]

/-- 'out = append(out, c)' at a step of a region that draws its order. -/
theorem step_append_byte {P : Program} {w : World} {ops : Array Oper} {o : Oper} {a : Act} {K : Act → World → Prop} {Q : Exit → Act → World → Prop} {E : Prop} {t e : TypeId} {i : TypeInfo}
    (ht : P.underlying t = some (.slice e)) (hi : P.info? e = some i) (hz : i.zero = some (.int .u8 0)) (hsize : i.size = 1) (hby : i.bytes = 1)
    (hgd : o.guard = none) (s x : Operand) (ho : o.op = .call { callee := .builtin .append, args := #[s, x], argTypes := #[t, t] })
    (base : Nat) (v : Value) (l : List UInt8) (u : UInt8) (hs : a.eval s = v) (g : Nat) (hown : w.ownsRow base e 1 v l.length (bvs l)) 
    (hx : a.eval x = .slice (some ⟨g, 0, none⟩) 1 1) (hc : w.cell? ⟨g, 0, none⟩ = some (.int .u8 (u.toNat : Int))) (hlen : l.length + 1 ≤ 140737488355328) (hbase : base ≤ w.heap.size)
    (h : ∀ v' w', Hid (w'.ownsRow base e 1 v' (l.length + 1) (bvs (l ++ [u]))) → (∀ B wb, Below B wb w → B ≤ base → Below B wb w') → K (a.put o.dst v') w') :
    if Region.wanted o (yielded ops a.tmps) = true then Oper.wp P o a w K Q else E := by
  have hw : Region.wanted o (yielded ops a.tmps) = true := by simp [Region.wanted, hgd]
  rw [if_pos hw]
  refine wp_append_own w s x t ho base e i (.int .u8 0) 1 1 ht hi hz hsize hby rfl (by decide) v l.length (bvs l) hs hown ⟨g, 0, none⟩ 1 1 [.int .u8 (u.toNat : Int)] hx rfl ?_ ?_ (by unfold maxLen; omega) (by omega) hbase ?_
  · intro j u' hj
    match j, hj with
    | 0, hj => simp at hj; subst hj; simpa [Addr.add] using hc
  · intro u' hu; simp at hu; subst hu; rfl
  · intro v' w' h2 h3 _
    refine h v' w' (Lib.hid ?_) ?_
    · rw [bvs_append]; exact h2
    · intro B wb hb hB
      exact hb.grown h3 (by omega) (fun k hk => by have := (hown.lt k hk).1; omega)

theorem nat_or_join (a c L : Nat) (h : c < 2 ^ L) : a * 2 ^ L ||| c = a * 2 ^ L + c := by
  have := Nat.shiftLeft_add_eq_or_of_lt h a
  rw [Nat.shiftLeft_eq] at this
  exact this.symm

theorem cell_drew_alloc (w : World) (v : Value) (e : TypeId) : ((w.alloc (.cells #[v] e)).drew).cell? ⟨w.heap.size, 0, none⟩ = some v :=
  (cell_of_row (w.alloc (.cells #[v] e)) w.heap.size 0 _ _ (0, 0) (heap_alloc_new w _)).trans rfl

theorem info_u8 : (Tryd.prog.info? 5).map (fun i => (i.zero, i.size, i.bytes)) = some (some (.int .u8 0), 1, 1) := by kernel_rfl

/-- What a call that makes a row of bytes leaves. -/
def MadeB (w : World) (l : List UInt8) (e : Ending) (w' : World) : Prop :=
  ∃ (a : Option Addr) (cap : Nat), e = .returned (.slice a l.length cap) ∧ Hid (w'.ownsRow w.heap.size 5 1 (.slice a l.length cap) l.length (bvs l)) ∧ Below w.heap.size w w'

theorem and_bit (c j : Nat) (h : c < 256) : bits .and .u8 ((c : Int) / 2 ^ j) 1 = (bN (c.testBit j) : Int) := by
  have h1 : ((c : Int) / 2 ^ j) = ((c / 2 ^ j : Nat) : Int) := by rw [Int.natCast_ediv, Int.natCast_pow]; rfl
  have h2 : c / 2 ^ j < 256 := Nat.lt_of_le_of_lt (Nat.div_le_self _ _) h
  have h3 := u8_and_nat (c / 2 ^ j) 1 h2 (by decide)
  rw [h1]
  refine h3.trans ?_
  rw [Nat.and_one_is_mod]
  congr 1
  rw [Nat.testBit_eq_decide_div_mod_eq]
  have : c / 2 ^ j % 2 = 0 ∨ c / 2 ^ j % 2 = 1 := by omega
  rcases this with h | h <;> simp [bN, h]

theorem or_bit (v b : Nat) (hv : v < 1073741824) (hb : b < 2) : bits .or .u32 ((v : Int) * 2) (b : Int) = ((2 * v + b : Nat) : Int) := by
  have h1 : ((v : Int) * 2) = ((v * 2 ^ 1 : Nat) : Int) := by rw [Int.natCast_mul]; rfl
  rw [h1, u32_or_nat _ _ (by omega) (by omega), nat_or_join _ _ _ (by omega)]
  congr 1; omega

theorem and_bit32 (c j : Nat) (h : c < 4294967296) : bits .and .u32 ((c : Int) / 2 ^ j) 1 = (bN (c.testBit j) : Int) := by
  have h1 : ((c : Int) / 2 ^ j) = ((c / 2 ^ j : Nat) : Int) := by rw [Int.natCast_ediv, Int.natCast_pow]; rfl
  have h2 : c / 2 ^ j < 4294967296 := Nat.lt_of_le_of_lt (Nat.div_le_self _ _) h
  have h3 := u32_and_nat (c / 2 ^ j) 1 h2 (by decide)
  rw [h1]
  refine h3.trans ?_
  rw [Nat.and_one_is_mod]
  congr 1
  rw [Nat.testBit_eq_decide_div_mod_eq]
  have : c / 2 ^ j % 2 = 0 ∨ c / 2 ^ j % 2 = 1 := by omega
  rcases this with h | h <;> simp [bN, h]

theorem rb_one (w : World) (c : Nat) (hc : c < 256) : RB (w.alloc (.cells #[.int .u8 c] 5)) (some ⟨w.heap.size, 0, none⟩) [UInt8.ofNat c] := by
  refine Or.inr ⟨w.heap.size, 0, rfl, fun i hi => ?_⟩
  simp at hi
  subst hi
  rw [cell_of_row _ w.heap.size _ _ _ (0, 0) (heap_alloc_new w _)]
  simp [Nat.mod_eq_of_lt hc]
end Gen
end Go.Proofs.YtdilgkkkhmmffaaDoor

namespace Go.Proofs.YtdilgkkkhmmffaaDoor
open Go.RowKit
set_option linter.unusedVariables false
namespace Rw
open Mem Arg

/-- How an element lies in cells. -/
structure Enc (α : Type) where
  enc : α → List Value
  k : Nat
  pos : 0 < k
  len : ∀ x, (enc x).length = k
  one : ∀ x v, v ∈ enc x → v.oneCell' = true

/-- An element at a place of a block. -/
def CE {α : Type} (E : Enc α) (w : World) (b o : Nat) (x : α) : Prop := ∀ r v, (E.enc x)[r]? = some v → w.cell? ⟨b, o + r, none⟩ = some v
def flat {α : Type} (E : Enc α) (l : List α) : List Value := l.flatMap E.enc
theorem flat_len {α : Type} (E : Enc α) (l : List α) : (flat E l).length = l.length * E.k := by
  induction l with
  | nil => simp [flat]
  | cons x r ih => simp only [flat, List.flatMap_cons, List.length_append, E.len, List.length_cons] at ih ⊢; rw [ih, Nat.add_mul]; omega
theorem flat_append {α : Type} (E : Enc α) (a b : List α) : flat E (a ++ b) = flat E a ++ flat E b := by simp [flat]
theorem flat_one {α : Type} (E : Enc α) (l : List α) : ∀ u ∈ flat E l, u.oneCell' = true := fun u hu => by
  simp only [flat, List.mem_flatMap] at hu
  obtain ⟨x, _, hx⟩ := hu
  exact E.one x u hx
/-- A flat row's cell lies in one element. -/
theorem flat_at {α : Type} (E : Enc α) : ∀ (l : List α) (j : Nat) (u : Value), (flat E l)[j]? = some u → ∃ i r, ∃ h : i < l.length, j = i * E.k + r ∧ (E.enc l[i])[r]? = some u
  | [], j, u, h => by simp [flat] at h
  | x :: q, j, u, h => by
    rw [flat, List.flatMap_cons] at h
    by_cases hj : j < E.k
    · rw [List.getElem?_append_left (by rw [E.len]; exact hj)] at h
      exact ⟨0, j, by simp, by simp, h⟩
    · rw [List.getElem?_append_right (by rw [E.len]; omega), E.len] at h
      obtain ⟨i, r, hi, hj', hu⟩ := flat_at E q _ u h
      exact ⟨i + 1, r, by simpa using hi, by rw [Nat.add_mul]; omega, hu⟩
theorem flat_of {α : Type} (E : Enc α) : ∀ (l : List α) (i r : Nat) (h : i < l.length) (u : Value), (E.enc l[i])[r]? = some u → (flat E l)[i * E.k + r]? = some u
  | x :: q, 0, r, h, u, hu => by
    have hr : r < E.k := by
      rcases Nat.lt_or_ge r E.k with h' | h'
      · exact h'
      · rw [List.getElem?_eq_none (by rw [E.len]; exact h')] at hu; cases hu
    rw [flat, List.flatMap_cons, Nat.zero_mul, Nat.zero_add, List.getElem?_append_left (by rw [E.len]; exact hr)]
    exact hu
  | x :: q, i + 1, r, h, u, hu => by
    rw [flat, List.flatMap_cons, List.getElem?_append_right (by rw [E.len, Nat.add_mul]; omega), E.len, show (i + 1) * E.k + r - E.k = i * E.k + r from by rw [Nat.add_mul]; omega]
    exact flat_of E q i r (by simpa using h) u hu

/-- A slice value leads to these elements. -/
def RowE {α : Type} (E : Enc α) (w : World) (ad : Option Addr) (l : List α) : Prop := RowL E.k (CE E) w ad l
theorem CE_local {α : Type} (E : Enc α) : Local (CE E) := fun w w' b o x hb h r v hv => (World.cell?_of_block (a := ⟨b, o + r, none⟩) hb).trans (h r v hv)
theorem RowE.below {α : Type} {E : Enc α} {w w' : World} (hb : Below w.heap.size w w') {ad : Option Addr} {l : List α} (h : RowE E w ad l) : RowE E w' ad l := by
  rcases h with h | ⟨b, off, rfl, hc⟩
  · exact .inl h
  · exact .inr ⟨b, off, rfl, fun i hi r v hv => below_cell hb (hc i hi r v hv)⟩
theorem RowE.block {α : Type} {E : Enc α} {w w' : World} {ad : Option Addr} {l : List α} (h : RowE E w ad l) (hb : ∀ b off, ad = some ⟨b, off, none⟩ → w'.heap[b]? = w.heap[b]?) : RowE E w' ad l := RowL.kept (CE_local E) h hb
/-- The first ones. -/
theorem RowE.take {α : Type} {E : Enc α} {w : World} {ad : Option Addr} {l : List α} (h : RowE E w ad l) (n : Nat) : RowE E w ad (l.take n) := by
  rcases h with rfl | ⟨b, off, rfl, hc⟩
  · exact .inl (by simp)
  · refine .inr ⟨b, off, rfl, fun i hi => ?_⟩
    rw [List.getElem_take]
    exact hc i (by rw [List.length_take] at hi; omega)
theorem RowE.drop {α : Type} {E : Enc α} {w : World} {b off : Nat} {l : List α} (h : RowE E w (some ⟨b, off, none⟩) l) (n : Nat) : RowE E w (some ⟨b, off + n * E.k, none⟩) (l.drop n) := by
  rcases h with rfl | ⟨b', off', e, hc⟩
  · exact .inl (by simp)
  · simp only [Option.some.injEq, Addr.mk.injEq, and_true] at e
    obtain ⟨rfl, rfl⟩ := e
    refine .inr ⟨b, _, rfl, fun i hi r v hv => ?_⟩
    rw [List.getElem_drop] at hv
    have := hc (n + i) (by rw [List.length_drop] at hi; omega) r v hv
    rwa [show off + (n + i) * E.k + r = off + n * E.k + i * E.k + r from by rw [Nat.add_mul]; omega] at this
theorem RowE.news {α : Type} {E : Enc α} {w : World} {ad : Addr} {l : List α} (h : RowE E w (some ad) l) : ∀ j u, (flat E l)[j]? = some u → w.cell? (ad.add j) = some u := by
  intro j u hj
  rcases h with rfl | ⟨b, off, e, hc⟩
  · simp [flat] at hj
  · simp only [Option.some.injEq] at e
    subst e
    obtain ⟨i, r, hi, rfl, hu⟩ := flat_at E l j u hj
    rw [add_none, ← Nat.add_assoc]
    exact hc i hi r u hu
theorem RowE.of_own {α : Type} {E : Enc α} {w : World} {base n cap : Nat} {e : TypeId} {ad : Option Addr} {l : List α} (h : w.ownsRow base e E.k (.slice ad n cap) l.length (flat E l)) : RowE E w ad l := by
  rcases h.2 with ⟨h1, h2⟩ | ⟨g, cap', cur, h1, _⟩
  · exact .inl (List.eq_nil_iff_length_eq_zero.mpr h2)
  · have h' := h
    simp only [Value.slice.injEq] at h1
    obtain ⟨rfl, rfl, rfl⟩ := h1
    refine .inr ⟨g, 0, rfl, fun i hi r u hu => ?_⟩
    have h3 := flat_of E l i r hi u hu
    have hlt : i * E.k + r < l.length * E.k := by
      rw [← flat_len E l]
      exact (List.getElem?_eq_some_iff.1 h3).1
    rw [Nat.zero_add, h'.cellAt (i * E.k + r) hlt]
    exact h3
theorem own_blk {w : World} {base n cap : Nat} {e : TypeId} {size : Nat} {ad : Option Addr} {xs : List Value} {m : Nat} (h : w.ownsRow base e size (.slice ad n cap) m xs) : ∀ b o s, ad = some ⟨b, o, s⟩ → base ≤ b ∧ b < w.heap.size := by
  intro b o s hb
  rcases h.2 with ⟨h1, _⟩ | ⟨g, cap', cur, h1, hg, hh, _⟩
  · simp only [Value.slice.injEq] at h1
    rw [h1.1] at hb; cases hb
  · simp only [Value.slice.injEq] at h1
    rw [h1.1] at hb
    simp only [Option.some.injEq, Addr.mk.injEq] at hb
    obtain ⟨rfl, _⟩ := hb
    exact ⟨hg, (Array.getElem?_eq_some_iff.1 hh).1⟩
theorem own_len {w : World} {base n cap : Nat} {e : TypeId} {size : Nat} {ad : Option Addr} {xs : List Value} {m : Nat} (h : w.ownsRow base e size (.slice ad n cap) m xs) : n = m ∧ n ≤ cap ∧ cap ≤ maxLen ∧ (ad = none → cap = 0) := by
  rcases h.2 with ⟨h1, h2⟩ | ⟨g, cap', cur, h1, hg, hh, h3, h4, _⟩
  · simp only [Value.slice.injEq] at h1
    obtain ⟨rfl, rfl, rfl⟩ := h1
    exact ⟨h2.symm, Nat.le_refl _, by unfold maxLen; omega, fun _ => rfl⟩
  · simp only [Value.slice.injEq] at h1
    obtain ⟨rfl, rfl, rfl⟩ := h1
    exact ⟨rfl, h3, h4, fun h => by cases h⟩

section
variable {P : Program} {w : World} {ops : Array Oper} {o : Oper} {a : Act} {Q : Exit → Act → World → Prop} {t e : TypeId} {i : TypeInfo} {z : Value} {by' : Nat}

/-- 'append(out, l...)', out nil or the call's own row: as a step. -/
theorem wp_append_rows {α : Type} (E : Enc α) {K : Act → World → Prop} (ht : P.underlying t = some (.slice e)) (hi : P.info? e = some i) (hz : i.zero = some z) (hsize : i.size = E.k) (hby : i.bytes = by') (hzs : z.cells.size = E.k)
    (s x : Operand) (ho : o.op = .call { callee := .builtin .append, args := #[s, x], argTypes := #[t, t] })
    (base : Nat) (v : Value) (n : Nat) (l : List α) (hs : a.eval s = v) (hn : n = l.length) (hown : w.ownsRow base e E.k v n (flat E l))
    (a2 : Option Addr) (m : Nat) (l2 : List α) (c : Nat) (hx : a.eval x = .slice a2 m c) (hm : m = l2.length) (hnil : a2 = none → c = 0 ∧ m = 0) (hrow : RowE E w a2 l2)
    (hlen : (n + m) ≤ maxLen) (hbytes : (n + m) * by' ≤ 140737488355328) (hbase : base ≤ w.heap.size)
    (h : ∀ (ad' : Option Addr) (cap' : Nat) w', Hid (w'.ownsRow base e E.k (.slice ad' (n + m) cap') (n + m) (flat E (l ++ l2))) → Hid (w.grownBy w' v.ownBlock) → K (a.put o.dst (.slice ad' (n + m) cap')) w') :
    o.wp P a w K Q := by
  subst hm
  cases a2 with
  | none =>
    obtain ⟨rfl, h0⟩ := hnil rfl
    have hl2 : l2 = [] := List.eq_nil_iff_length_eq_zero.mpr h0
    subst hl2
    have hrun := run_append_owned_none (P := P) (w := w) base t o.type e i E.k ht hi v n (flat E l) hown
    have hv : ∃ ad cap, v = .slice ad n cap := by
      rcases hown.2 with ⟨rfl, hn⟩ | ⟨g, cap, cur, rfl, _⟩
      · exact ⟨none, 0, by rw [hn]⟩
      · exact ⟨_, _, rfl⟩
    obtain ⟨ad, cap, rfl⟩ := hv
    unfold Oper.wp
    simp [execOp, ho, resolve, invoke, builtin, hs, hx, hrun, Result.andThen]
    exact h ad cap w (Lib.hid (by simpa using hown)) (Lib.hid ⟨rfl, rfl, rfl, Nat.le_refl _, fun _ _ _ => rfl⟩)
  | some ad =>
    refine wp_append_own w s x t ho base e i z E.k by' ht hi hz hsize hby hzs E.pos v n (flat E l) hs hown ad l2.length c (flat E l2) hx (flat_len E l2) hrow.news (flat_one E l2) hlen hbytes hbase fun v' w' h2 h3 _ => ?_
    have hv : ∃ ad' cap', v' = .slice ad' (n + l2.length) cap' := by
      rcases h2.2 with ⟨rfl, hn⟩ | ⟨g, cap, cur, rfl, _⟩
      · exact ⟨none, 0, by rw [hn]⟩
      · exact ⟨_, _, rfl⟩
    obtain ⟨ad', cap', rfl⟩ := hv
    exact h ad' cap' w' (Lib.hid (by rw [flat_append]; exact h2)) (Lib.hid h3)

theorem step_append_rows {α : Type} (E : Enc α) {K : Act → World → Prop} {Ee : Prop} (ht : P.underlying t = some (.slice e)) (hi : P.info? e = some i) (hz : i.zero = some z) (hsize : i.size = E.k) (hby : i.bytes = by') (hzs : z.cells.size = E.k)
    (hgd : o.guard = none) (s x : Operand) (ho : o.op = .call { callee := .builtin .append, args := #[s, x], argTypes := #[t, t] })
    (base : Nat) (v : Value) (n : Nat) (l : List α) (hs : a.eval s = v) (hn : n = l.length) (hown : w.ownsRow base e E.k v n (flat E l))
    (a2 : Option Addr) (m : Nat) (l2 : List α) (c : Nat) (hx : a.eval x = .slice a2 m c) (hm : m = l2.length) (hnil : a2 = none → c = 0 ∧ m = 0) (hrow : RowE E w a2 l2)
    (hlen : (n + m) ≤ maxLen) (hbytes : (n + m) * by' ≤ 140737488355328) (hbase : base ≤ w.heap.size)
    (h : ∀ (ad' : Option Addr) (cap' : Nat) w', Hid (w'.ownsRow base e E.k (.slice ad' (n + m) cap') (n + m) (flat E (l ++ l2))) → Hid (w.grownBy w' v.ownBlock) → K (a.put o.dst (.slice ad' (n + m) cap')) w') :
    if Region.wanted o (yielded ops a.tmps) = true then Oper.wp P o a w K Q else Ee := by
  have hw : Region.wanted o (yielded ops a.tmps) = true := by simp [Region.wanted, hgd]
  rw [if_pos hw]
  exact wp_append_rows E ht hi hz hsize hby hzs s x ho base v n l hs hn hown a2 m l2 c hx hm hnil hrow hlen hbytes hbase h

theorem list_append_rows {α : Type} (E : Enc α) {rest : List Oper} (ht : P.underlying t = some (.slice e)) (hi : P.info? e = some i) (hz : i.zero = some z) (hsize : i.size = E.k) (hby : i.bytes = by') (hzs : z.cells.size = E.k)
    (hgd : o.guard = none) (s x : Operand) (ho : o.op = .call { callee := .builtin .append, args := #[s, x], argTypes := #[t, t] })
    (base : Nat) (v : Value) (n : Nat) (l : List α) (hs : a.eval s = v) (hn : n = l.length) (hown : w.ownsRow base e E.k v n (flat E l))
    (a2 : Option Addr) (m : Nat) (l2 : List α) (c : Nat) (hx : a.eval x = .slice a2 m c) (hm : m = l2.length) (hnil : a2 = none → c = 0 ∧ m = 0) (hrow : RowE E w a2 l2)
    (hlen : (n + m) ≤ maxLen) (hbytes : (n + m) * by' ≤ 140737488355328) (hbase : base ≤ w.heap.size)
    (h : ∀ (ad' : Option Addr) (cap' : Nat) w', Hid (w'.ownsRow base e E.k (.slice ad' (n + m) cap') (n + m) (flat E (l ++ l2))) → Hid (w.grownBy w' v.ownBlock) → wpList P ops Q rest (a.put o.dst (.slice ad' (n + m) cap')) w') :
    wpList P ops Q (o :: rest) a w :=
  wpList_plain hgd fun _ hK => wp_append_rows E ht hi hz hsize hby hzs s x ho base v n l hs hn hown a2 m l2 c hx hm hnil hrow hlen hbytes hbase fun ad' cap' w' h1 h2 => hK _ _ (h ad' cap' w' h1 h2)
end
end Rw
end Go.Proofs.YtdilgkkkhmmffaaDoor

namespace Go.Proofs.YtdilgkkkhmmffaaDoor
open Go.RowKit
set_option linter.unusedVariables false
namespace Rw
open Mem Arg

/-- A slice value leads to these elements, in a row whose cells up to the capacity may be written. -/
structure QRow {α : Type} (E : Enc α) (w : World) (ad : Option Addr) (cap : Nat) (l : List α) : Prop where
  le : l.length ≤ cap
  max : cap ≤ maxLen
  nil : ad = none → cap = 0
  lies : ∀ a, ad = some a → ∃ b off, a = ⟨b, off, none⟩ ∧ b < w.heap.size ∧ (∀ i, (h : i < l.length) → CE E w b (off + i * E.k) l[i]) ∧ ∀ j, j < cap * E.k → (w.cell? ⟨b, off + j, none⟩).isSome = true ∧ w.frozen? ⟨b, off + j, none⟩ = false

theorem QRow.bare {α : Type} (E : Enc α) (w : World) : QRow E w none 0 [] := ⟨Nat.le_refl _, by unfold maxLen; omega, fun _ => rfl, fun a h => by cases h⟩
theorem QRow.row {α : Type} {E : Enc α} {w : World} {ad : Option Addr} {cap : Nat} {l : List α} (h : QRow E w ad cap l) : RowE E w ad l := by
  cases ad with
  | none =>
    have h0 := h.nil rfl
    exact .inl (List.eq_nil_iff_length_eq_zero.mpr (by have := h.le; omega))
  | some a =>
    obtain ⟨b, off, rfl, _, hc, _⟩ := h.lies a rfl
    exact .inr ⟨b, off, rfl, hc⟩
theorem QRow.block {α : Type} {E : Enc α} {w w' : World} {ad : Option Addr} {cap : Nat} {l : List α} (h : QRow E w ad cap l) (hs : w.heap.size ≤ w'.heap.size) (hb : ∀ b o s, ad = some ⟨b, o, s⟩ → w'.heap[b]? = w.heap[b]?) : QRow E w' ad cap l := by
  refine ⟨h.le, h.max, h.nil, fun a e => ?_⟩
  obtain ⟨b, off, rfl, h1, h2, h3⟩ := h.lies a e
  have hb' := hb b off _ e
  exact ⟨b, off, rfl, by omega, fun i hi => CE_local E w w' b _ _ hb' (h2 i hi), fun j hj => ⟨by rw [World.cell?_of_block (a := ⟨b, off + j, none⟩) hb']; exact (h3 j hj).1, by rw [World.frozen?_of_block (a := ⟨b, off + j, none⟩) hb']; exact (h3 j hj).2⟩⟩
theorem QRow.below {α : Type} {E : Enc α} {w w' : World} {ad : Option Addr} {cap : Nat} {l : List α} (h : QRow E w ad cap l) (hb : Below w.heap.size w w') : QRow E w' ad cap l :=
  h.block hb.size (fun b o s e => by
    obtain ⟨b', off, e', h1, _⟩ := h.lies _ e
    simp only [Addr.mk.injEq] at e'
    obtain ⟨rfl, _⟩ := e'
    exact hb.block b h1)
theorem QRow.of_own {α : Type} {E : Enc α} {w : World} {base n cap : Nat} {e : TypeId} {ad : Option Addr} {l : List α} (h : w.ownsRow base e E.k (.slice ad n cap) l.length (flat E l)) : QRow E w ad cap l := by
  obtain ⟨hn, hle, hmx, hz⟩ := own_len h
  have hr := RowE.of_own h
  refine ⟨by omega, hmx, hz, fun a e => ?_⟩
  rcases h.2 with ⟨h1, h2⟩ | ⟨g, cap', cur, h1, hg, hh, h3, h4, h5, h6⟩
  · simp only [Value.slice.injEq] at h1
    rw [h1.1] at e; cases e
  · simp only [Value.slice.injEq] at h1
    obtain ⟨rfl, rfl, rfl⟩ := h1
    simp only [Option.some.injEq] at e
    subst e
    refine ⟨g, 0, rfl, (Array.getElem?_eq_some_iff.1 hh).1, fun i hi => ?_, fun j hj => ⟨?_, frozen_of_row _ _ _ _ _ hh⟩⟩
    · rcases hr with h0 | ⟨b', off', e', hc⟩
      · rw [h0] at hi; cases hi
      · simp only [Option.some.injEq, Addr.mk.injEq, and_true] at e'
        obtain ⟨rfl, rfl⟩ := e'
        exact hc i hi
    · rw [Nat.zero_add, Obj.cell_at hh j, Array.getElem?_eq_getElem (by omega)]; rfl

theorem grown_setCells (b : Nat) : ∀ (vs : List Value) (o : Nat) (w : World), w.grownBy (w.setCells b o vs) (some b)
  | [], _, w => ⟨rfl, rfl, rfl, Nat.le_refl _, fun _ _ _ => rfl⟩
  | v :: r, o, w => World.grownBy.trans (b := w.setCell ⟨b, o, .none⟩ v) ⟨rfl, rfl, rfl, by simp [World.setCell], fun k hk hne => Below.heap_setCell _ _ _ _ (fun e => hne (by simp [e]))⟩ (grown_setCells b r (o + 1) _)

section
variable {P : Program} {t e : TypeId} {i : TypeInfo} {z : Value} {by' : Nat}
/-- 'append(q, l...)'. -/
theorem run_append_que {α : Type} (E : Enc α) (w : World) (ty : TypeId) (ht : P.underlying t = some (.slice e)) (hi : P.info? e = some i) (hz : i.zero = some z) (hsize : i.size = E.k) (hby : i.bytes = by') (hzs : z.cells.size = E.k)
    (ad : Option Addr) (cap : Nat) (l : List α) (h : QRow E w ad cap l) (a2 : Addr) (c : Nat) (l2 : List α) (hr : RowE E w (some a2) l2) (hlen : l.length + l2.length ≤ maxLen) (hbytes : (l.length + l2.length) * by' ≤ 140737488355328) :
    ∃ ad' cap' w', (Builtin.append_ #[t, t] ty #[.slice ad l.length cap, .slice (some a2) l2.length c]).run P w = .ok (.slice ad' (l.length + l2.length) cap') w' ∧ QRow E w' ad' cap' (l ++ l2) ∧ w.grownBy w' (ad.map (·.block)) ∧
      (∀ b o s, ad' = some ⟨b, o, s⟩ → (∃ o', ad = some ⟨b, o', .none⟩) ∨ w.heap.size ≤ b) := by
  by_cases hroom : l.length + l2.length ≤ cap ∧ 0 < cap
  · obtain ⟨hroom, hpos⟩ := hroom
    cases ad with
    | none => have := h.nil rfl; omega
    | some a =>
      obtain ⟨b, off, rfl, hb, hc, hsp⟩ := h.lies a rfl
      have hnl := flat_len E l2
      have hsp' : ∀ j, j < (flat E l2).length → (w.cell? ⟨b, off + l.length * i.size + j, .none⟩).isSome = true ∧ w.frozen? ⟨b, off + l.length * i.size + j, .none⟩ = false := fun j hj => by
        have hlt : l.length * E.k + j < cap * E.k := by
          have : (l.length + l2.length) * E.k ≤ cap * E.k := Nat.mul_le_mul_right _ hroom
          rw [Nat.add_mul] at this
          omega
        have := hsp (l.length * E.k + j) hlt
        rw [← Nat.add_assoc] at this
        rw [hsize]; exact this
      have hrun := run_append_room_cells (P := P) w t ty e i ht hi b off l.length cap a2 l2.length c (flat E l2) (by rw [hnl, hsize]) hr.news (flat_one E l2) hroom (fun j hj => (hsp' j hj).1) (fun j hj => (hsp' j hj).2)
      rw [hsize] at hrun
      refine ⟨some ⟨b, off, .none⟩, cap, _, hrun, ⟨by simpa using hroom, h.max, (fun e => by cases e), fun a e => ?_⟩, grown_setCells b _ _ w, fun b' o s e => .inl ?_⟩
      · simp only [Option.some.injEq] at e
        subst e
        have hin := World.cell?_setCells_in b (flat E l2) (off + l.length * E.k) w (fun j hj => by have := (hsp' j hj).1; rwa [hsize] at this)
        refine ⟨b, off, rfl, Nat.lt_of_lt_of_le hb (grown_setCells b _ _ w).size, fun i' hi' r u hu => ?_, fun j hj => ⟨?_, by rw [World.frozen?_setCells]; exact (hsp j hj).2⟩⟩
        · by_cases hlt : i' < l.length
          · rw [List.getElem_append_left hlt] at hu
            have hr' : r < E.k := by
              have := (List.getElem?_eq_some_iff.1 hu).1
              rwa [E.len] at this
            rw [World.cell?_setCells_out b _ _ _ _ (fun _ _ => Or.inl (by
              show off + i' * E.k + r < off + l.length * E.k
              have : (i' + 1) * E.k ≤ l.length * E.k := Nat.mul_le_mul_right _ hlt
              rw [Nat.add_mul] at this; omega))]
            exact hc i' hlt r u hu
          · rw [List.getElem_append_right (by omega)] at hu
            have hi2 : i' - l.length < l2.length := by simp at hi'; omega
            have hf := flat_of E l2 (i' - l.length) r hi2 u hu
            obtain ⟨hjl, hje⟩ := List.getElem?_eq_some_iff.1 hf
            have := hin _ hjl
            rw [hje] at this
            rw [← this]
            congr 2
            have e1 : i' * E.k = l.length * E.k + (i' - l.length) * E.k := by rw [← Nat.add_mul]; congr 1; omega
            rw [e1]; omega
        · by_cases hj2 : l.length * E.k ≤ j ∧ j < l.length * E.k + (flat E l2).length
          · have := hin (j - l.length * E.k) (by omega)
            rw [show off + j = off + l.length * E.k + (j - l.length * E.k) by omega, this]; rfl
          · rw [World.cell?_setCells_out b _ _ _ _ (fun _ _ => by show off + j < off + l.length * E.k ∨ off + l.length * E.k + (flat E l2).length ≤ off + j; omega)]
            exact (hsp j hj).1
      · simp only [Option.some.injEq, Addr.mk.injEq] at e
        exact ⟨off, by rw [e.1]⟩
  · have hlo := flat_len E l
    have key : ∃ v' w', (Builtin.append_ #[t, t] ty #[.slice ad l.length cap, .slice (some a2) l2.length c]).run P w = .ok v' w' ∧ ((w'.ownsRow w.heap.size e E.k v' (l.length + l2.length) (flat E l ++ flat E l2) ∧ w.grownBy w' .none) ∨ (v' = .slice ad 0 0 ∧ w' = w ∧ l = [] ∧ l2 = [] ∧ cap = 0)) := by
      cases ad with
      | none =>
        have h0 := h.nil rfl
        subst h0
        have hl0 : l = [] := List.eq_nil_iff_length_eq_zero.mpr (by have := h.le; omega)
        subst hl0
        obtain ⟨v', w', hrun, r1, r2, _⟩ := run_append_own (P := P) w w.heap.size t ty e i z E.k by' ht hi hz hsize hby hzs E.pos (.slice .none 0 0) 0 [] (World.ownsRow_nil w _ e E.k) a2 l2.length c (flat E l2) (flat_len E l2) hr.news (flat_one E l2) (by simpa using hlen) (by simpa using hbytes) (Nat.le_refl _)
        exact ⟨v', w', hrun, .inl ⟨by simpa [flat] using r1, r2⟩⟩
      | some a =>
        by_cases hz0 : cap < l.length + l2.length
        · obtain ⟨b, off, rfl, hb, hc, hsp⟩ := h.lies a rfl
          obtain ⟨v', w', hrun, r1, r2⟩ := run_append_arg_grows (P := P) w t ty e i z E.k by' ht hi hz hsize hby hzs E.pos ⟨b, off, .none⟩ l.length cap (flat E l) (flat_len E l) (fun j u hj => RowE.news (.inr ⟨b, off, rfl, hc⟩) j u hj) a2 l2.length c (flat E l2) (flat_len E l2) hr.news hz0 hlen hbytes
          exact ⟨v', w', hrun, .inl ⟨r1, r2⟩⟩
        · have hcap : cap = 0 := by omega
          subst hcap
          have hl0 : l = [] := List.eq_nil_iff_length_eq_zero.mpr (by omega)
          have hl2 : l2 = [] := List.eq_nil_iff_length_eq_zero.mpr (by omega)
          subst hl0 hl2
          obtain ⟨b, off, rfl, hb, hc, hsp⟩ := h.lies a rfl
          have hrun := run_append_room_cells (P := P) w t ty e i ht hi b off 0 0 a2 0 c [] (by simp) (fun j u hj => by simp at hj) (by simp) (Nat.le_refl _) (fun j hj => by simp at hj) (fun j hj => by simp at hj)
          exact ⟨_, _, hrun, .inr ⟨rfl, rfl, rfl, rfl, rfl⟩⟩
    obtain ⟨v', w', hrun, ⟨r1, r2⟩ | ⟨rfl, rfl, rfl, rfl, rfl⟩⟩ := key
    · obtain ⟨ad', cap', rfl⟩ : ∃ ad' cap', v' = .slice ad' (l.length + l2.length) cap' := by
        rcases r1.2 with ⟨rfl, hn⟩ | ⟨g, cap, cur, rfl, _⟩
        · exact ⟨.none, 0, by rw [hn]⟩
        · exact ⟨_, _, rfl⟩
      rw [← flat_append, ← List.length_append] at r1
      refine ⟨ad', cap', w', hrun, QRow.of_own r1, ⟨r2.os, r2.tape, r2.output, r2.size, fun k hk _ => r2.block k hk (by simp)⟩, fun b o s e => .inr ?_⟩
      exact (own_blk r1 b o s e).1
    · refine ⟨ad, 0, w', hrun, by simpa using h, ⟨rfl, rfl, rfl, Nat.le_refl _, fun _ _ _ => rfl⟩, fun b o s e => .inl ?_⟩
      obtain ⟨b', off, e', _⟩ := h.lies _ e
      rw [e, e']
      simp only [Addr.mk.injEq] at e'
      exact ⟨off, by rw [e'.1]⟩

variable {w : World} {ops : Array Oper} {o : Oper} {a : Act} {Q : Exit → Act → World → Prop}
/-- As a step of a region that draws its order. -/
theorem step_append_que {α : Type} (E : Enc α) {K : Act → World → Prop} {Ee : Prop} (ht : P.underlying t = some (.slice e)) (hi : P.info? e = some i) (hz : i.zero = some z) (hsize : i.size = E.k) (hby : i.bytes = by') (hzs : z.cells.size = E.k)
    (hgd : o.guard = none) (s x : Operand) (ho : o.op = .call { callee := .builtin .append, args := #[s, x], argTypes := #[t, t] })
    (ad : Option Addr) (n cap : Nat) (l : List α) (hs : a.eval s = .slice ad n cap) (hn : n = l.length) (h : QRow E w ad cap l)
    (a2 : Addr) (m : Nat) (l2 : List α) (c : Nat) (hx : a.eval x = .slice (some a2) m c) (hm : m = l2.length) (hr : RowE E w (some a2) l2)
    (hlen : n + m ≤ maxLen) (hbytes : (n + m) * by' ≤ 140737488355328)
    (hK : ∀ (ad' : Option Addr) (cap' : Nat) w', Hid (QRow E w' ad' cap' (l ++ l2)) → Hid (w.grownBy w' (ad.map (·.block))) → Hid (∀ b o s, ad' = some ⟨b, o, s⟩ → (∃ o', ad = some ⟨b, o', .none⟩) ∨ w.heap.size ≤ b) → K (a.put o.dst (.slice ad' (n + m) cap')) w') :
    if Region.wanted o (yielded ops a.tmps) = true then Oper.wp P o a w K Q else Ee := by
  have hw : Region.wanted o (yielded ops a.tmps) = true := by simp [Region.wanted, hgd]
  rw [if_pos hw]
  subst hn hm
  obtain ⟨ad', cap', w', hrun, h1, h2, h3⟩ := run_append_que E w o.type ht hi hz hsize hby hzs ad cap l h a2 c l2 hr hlen hbytes
  unfold Oper.wp
  simp [execOp, ho, resolve, invoke, builtin, hs, hx, hrun, Result.andThen]
  exact hK _ _ _ (Lib.hid h1) (Lib.hid h2) (Lib.hid h3)
end
end Rw
end Go.Proofs.YtdilgkkkhmmffaaDoor

namespace Go.Proofs.YtdilgkkkhmmffaaDoor
open Go.RowKit
open Mem Gen Go.Proofs.YtdilgkkkhmmffaaDoor.Obj
set_option linter.unusedVariables false
namespace Wr

/-- The blocks below B and those of L stand. -/
structure Std (B : Nat) (L : List Nat) (w w' : World) : Prop where
  os : w'.os = w.os
  tape : w'.tape = w.tape
  output : w'.output = w.output
  size : w.heap.size ≤ w'.heap.size
  block : ∀ k, k < w.heap.size → (k < B ∨ k ∈ L) → w'.heap[k]? = w.heap[k]?
theorem Std.refl (B : Nat) (L : List Nat) (w : World) : Std B L w w := ⟨rfl, rfl, rfl, Nat.le_refl _, fun _ _ _ => rfl⟩
theorem Std.trans {B : Nat} {L : List Nat} {a b c : World} (h : Std B L a b) (k : Std B L b c) : Std B L a c :=
  ⟨k.os.trans h.os, k.tape.trans h.tape, k.output.trans h.output, Nat.le_trans h.size k.size, fun i hi hp => (k.block i (Nat.lt_of_lt_of_le hi h.size) hp).trans (h.block i hi hp)⟩
theorem Std.of_below {B : Nat} {L : List Nat} {w w' : World} (h : Below w.heap.size w w') : Std B L w w' := ⟨h.os, h.tape, h.output, h.size, fun k hk _ => h.block k hk⟩
theorem Std.then {B : Nat} {L : List Nat} {a b c : World} (h : Std B L a b) (k : Below b.heap.size b c) : Std B L a c := h.trans (Std.of_below k)
theorem Std.drew {B : Nat} {L : List Nat} {a b : World} (h : Std B L a b) : Std B L a b.drew := ⟨h.os, h.tape, h.output, h.size, h.block⟩
theorem Std.setCell {B : Nat} {L : List Nat} {a b : World} (h : Std B L a b) {p : Addr} (h1 : B ≤ p.block) (h2 : p.block ∉ L) (u : Value) : Std B L a (b.setCell p u) :=
  ⟨h.os, h.tape, h.output, by simpa [World.setCell] using h.size, fun k hk hp => (Below.heap_setCell _ _ _ _ (fun e => by
    rcases hp with hp | hp
    · omega
    · exact h2 (e ▸ hp))).trans (h.block k hk hp)⟩
theorem Std.alloc {B : Nat} {L : List Nat} {a b : World} (h : Std B L a b) (o : Obj) : Std B L a (b.alloc o) := h.then ((Below.refl _ _).alloc (Nat.le_refl _) o)
theorem Std.less {B : Nat} {L L' : List Nat} {a b : World} (h : Std B L a b) (hl : ∀ k ∈ L', k < a.heap.size → k < B ∨ k ∈ L) : Std B L' a b :=
  ⟨h.os, h.tape, h.output, h.size, fun k hk hp => h.block k hk (by rcases hp with hp | hp
                                                                   · exact .inl hp
                                                                   · exact hl k hp hk)⟩
theorem Std.kept {B : Nat} {L L0 : List Nat} {w0 w w' : World} (h : Std B L w w') (hk : Kept L0 w0 w) (hB : B = w0.heap.size) : Kept L0 w0 w' :=
  ⟨h.os.trans hk.os, h.tape.trans hk.tape, h.output.trans hk.output, Nat.le_trans hk.size h.size, fun k hk1 hn => (h.block k (Nat.lt_of_lt_of_le hk1 hk.size) (.inl (by omega))).trans (hk.block k hk1 hn)⟩
theorem Std.below {B : Nat} {L : List Nat} {w w' : World} (h : Std B L w w') (hB : B = w.heap.size) : Below w.heap.size w w' :=
  ⟨h.os, h.tape, h.output, h.size, fun k hk => h.block k hk (.inl (by omega))⟩
theorem Std.grown {B : Nat} {L : List Nat} {a b c : World} {row : Option Nat} (h : Std B L a b) (hg : b.grownBy c row) (hr : ∀ k, row = some k → B ≤ k ∧ k ∉ L) : Std B L a c :=
  ⟨hg.os.trans h.os, hg.tape.trans h.tape, hg.output.trans h.output, Nat.le_trans h.size hg.size, fun k hk hp => (hg.block k (Nat.lt_of_lt_of_le hk h.size) (fun e => by
    have := hr k e.symm
    rcases hp with hp | hp
    · omega
    · exact this.2 hp)).trans (h.block k hk hp)⟩

/-- Bytes as elements of a row. -/
def EBy : Rw.Enc UInt8 where
  enc c := [.int .u8 (c.toNat : Int)]
  k := 1
  pos := by decide
  len _ := rfl
  one _ v h := by simp at h; subst h; rfl
theorem rb_of_q {w : World} {oa : Option Addr} {l : List UInt8} (h : Rw.RowE EBy w oa l) : RB w oa l := by
  rcases h with h | ⟨b, off, h, hc⟩
  · exact .inl h
  · exact .inr ⟨b, off, h, fun i hi => by have := hc i hi 0 _ rfl; simpa [EBy] using this⟩
theorem q_of_rb {w : World} {oa : Option Addr} {l : List UInt8} (h : RB w oa l) : Rw.RowE EBy w oa l := by
  rcases h with h | ⟨b, off, h, hc⟩
  · exact .inl h
  · refine .inr ⟨b, off, h, fun i hi r v hv => ?_⟩
    have hr : r = 0 := by
      have := (List.getElem?_eq_some_iff.1 hv).1
      simp [EBy] at this; omega
    subst hr
    simp only [EBy, List.getElem?_cons_zero, Option.some.injEq] at hv
    subst hv
    have := hc i hi
    simpa [EBy] using this
/-- A row of bytes of the call's own, whose block isn't one of L. -/
structure OutB (B : Nat) (L : List Nat) (oa : Option Addr) (oc : Nat) (out : List UInt8) (w : World) : Prop where
  row : Rw.QRow EBy w oa oc out
  apart : ∀ b o s, oa = some ⟨b, o, s⟩ → B ≤ b ∧ b ∉ L
theorem OutB.bare (B : Nat) (L : List Nat) (w : World) : OutB B L none 0 [] w := ⟨Rw.QRow.bare _ _, fun b o s e => by cases e⟩
theorem OutB.lt {B : Nat} {L : List Nat} {oa : Option Addr} {oc : Nat} {out : List UInt8} {w : World} (h : OutB B L oa oc out w) : ∀ b o s, oa = some ⟨b, o, s⟩ → b < w.heap.size := fun b o s e => by
  obtain ⟨b', off, e', h1, _⟩ := h.row.lies _ e
  simp only [Addr.mk.injEq] at e'
  omega
theorem OutB.stand {B : Nat} {L L' : List Nat} {oa : Option Addr} {oc : Nat} {out : List UInt8} {w w' : World} (h : OutB B L oa oc out w) (hs : w.heap.size ≤ w'.heap.size) (hb : ∀ b o s, oa = some ⟨b, o, s⟩ → w'.heap[b]? = w.heap[b]?) (hL : ∀ k ∈ L', k ∈ L ∨ w.heap.size ≤ k) : OutB B L' oa oc out w' :=
  ⟨h.row.block hs hb, fun b o s e => ⟨(h.apart b o s e).1, fun hm => by
    rcases hL b hm with h1 | h1
    · exact (h.apart b o s e).2 h1
    · have := h.lt b o s e; omega⟩⟩
theorem OutB.below {B : Nat} {L : List Nat} {oa : Option Addr} {oc : Nat} {out : List UInt8} {w w' : World} (h : OutB B L oa oc out w) (hb : Below w.heap.size w w') : OutB B L oa oc out w' :=
  h.stand hb.size (fun b o s e => hb.block b (h.lt b o s e)) (fun k hk => .inl hk)
theorem OutB.kept {B : Nat} {L L' : List Nat} {oa : Option Addr} {oc : Nat} {out : List UInt8} {w w' : World} (h : OutB B L oa oc out w) (hk : Kept L w w') (hL : ∀ k ∈ L', k ∈ L ∨ w.heap.size ≤ k) : OutB B L' oa oc out w' :=
  h.stand hk.size (fun b o s e => hk.block b (h.lt b o s e) (h.apart b o s e).2) hL
theorem OutB.rb {B : Nat} {L : List Nat} {oa : Option Addr} {oc : Nat} {out : List UInt8} {w : World} (h : OutB B L oa oc out w) : RB w oa out := rb_of_q h.row.row

/-- What an append to such a row leaves. -/
structure Grew (B : Nat) (L : List Nat) (w : World) (oa oa' : Option Addr) (oc' : Nat) (l3 : List UInt8) (w' : World) : Prop where
  out : OutB B L oa' oc' l3 w'
  std : Std B L w w'
  blk : ∀ k, k < w.heap.size → (∀ o s, oa ≠ some ⟨k, o, s⟩) → w'.heap[k]? = w.heap[k]?
  new : ∀ b o s, oa' = some ⟨b, o, s⟩ → (∃ o', oa = some ⟨b, o', none⟩) ∨ w.heap.size ≤ b

section
variable {P : Program} {t : TypeId}
/-- 'append(out, b...)', b a row of bytes that was made: what is run. -/
theorem run_bytes (w : World) (ty : TypeId) (ht : P.underlying t = some (.slice 5)) (hi : (P.info? 5).map (fun i => (i.zero, i.size, i.bytes)) = some (some (.int .u8 0), 1, 1))
    {B : Nat} {L : List Nat} {oa : Option Addr} {oc : Nat} {out : List UInt8} (h : OutB B L oa oc out w) (hB : B ≤ w.heap.size) (hLw : ∀ k ∈ L, k < w.heap.size) (a2 : Option Addr) (l2 : List UInt8) (n2 c : Nat) (hn2 : n2 = l2.length) (hne : l2 ≠ []) (hrb : RB w a2 l2)
    (l3 : List UInt8) (hl3 : l3 = out ++ l2) (hlen : l3.length ≤ 140737488355328) (n : Nat) (hn : n = out.length) :
    ∃ (oa' : Option Addr) (oc' : Nat) (w' : World), (Builtin.append_ #[t, t] ty #[.slice oa n oc, .slice a2 n2 c]).run P w = .ok (.slice oa' l3.length oc') w' ∧ Grew B L w oa oa' oc' l3 w' := by
  subst hl3 hn hn2
  rw [Option.map_eq_some_iff] at hi
  obtain ⟨i, hi, hi3⟩ := hi
  simp only [Prod.mk.injEq] at hi3
  obtain ⟨hz, hsize, hby⟩ := hi3
  rw [List.length_append] at hlen ⊢
  obtain ⟨a2, rfl⟩ : ∃ a, a2 = some a := by
    rcases hrb with h | ⟨b, off, h, _⟩
    · exact absurd h hne
    · exact ⟨_, h⟩
  obtain ⟨oa', oc', w', hrun, hq, hg, hb⟩ := Rw.run_append_que (P := P) (by' := 1) EBy w ty ht hi hz hsize hby rfl oa oc out h.row a2 c l2 (q_of_rb hrb) (by unfold maxLen; omega) (by omega)
  have hap : ∀ b o s, oa' = some ⟨b, o, s⟩ → B ≤ b ∧ b ∉ L := fun b o s e => by
    rcases hb b o s e with ⟨o', e'⟩ | h1
    · exact h.apart b o' none e'
    · exact ⟨by omega, fun hm => by have := hLw b hm; omega⟩
  refine ⟨oa', oc', w', hrun, ⟨hq, hap⟩, (Std.refl B L w).grown hg (fun k hk => ?_), fun k hk hne => hg.block k hk (fun e => ?_), hb⟩
  · rw [Option.map_eq_some_iff] at hk
    obtain ⟨⟨b, o, s⟩, e, rfl⟩ := hk
    exact h.apart b o s e
  · symm at e
    rw [Option.map_eq_some_iff] at e
    obtain ⟨⟨b, o, s⟩, e, rfl⟩ := e
    exact hne o s e
variable {w : World} {ops : Array Oper} {o : Oper} {a : Act} {Q : Exit → Act → World → Prop}
/-- As a step of a walk. -/
theorem wl_bytes {rest : List Oper} (ht : P.underlying t = some (.slice 5)) (hi : (P.info? 5).map (fun i => (i.zero, i.size, i.bytes)) = some (some (.int .u8 0), 1, 1))
    (hgd : o.guard = none) (s x : Operand) (ho : o.op = .call { callee := .builtin .append, args := #[s, x], argTypes := #[t, t] })
    {B : Nat} {L : List Nat} {oa : Option Addr} {oc n : Nat} {out : List UInt8} (hs : a.eval s = .slice oa n oc) (hn : n = out.length) (h : OutB B L oa oc out w) (hB : B ≤ w.heap.size) (hLw : ∀ k ∈ L, k < w.heap.size)
    {a2 : Option Addr} {l2 : List UInt8} {n2 c : Nat} (hx : a.eval x = .slice a2 n2 c) (hn2 : n2 = l2.length) (hne : l2 ≠ []) (hrb : RB w a2 l2)
    (l3 : List UInt8) (hl3 : l3 = out ++ l2) (hlen : l3.length ≤ 140737488355328)
    (hK : ∀ (oa' : Option Addr) (oc' : Nat) w', Hid (Grew B L w oa oa' oc' l3 w') → wpList P ops Q rest (a.put o.dst (.slice oa' l3.length oc')) w') :
    wpList P ops Q (o :: rest) a w := by
  obtain ⟨oa', oc', w', hrun, hG⟩ := run_bytes (P := P) w o.type ht hi h hB hLw a2 l2 n2 c hn2 hne hrb l3 hl3 hlen n hn
  refine wpList_step fun K hK2 => ?_
  have hw : Region.wanted o (yielded ops a.tmps) = true := by simp [Region.wanted, hgd]
  rw [if_pos hw]
  unfold Oper.wp
  simp [execOp, ho, resolve, invoke, builtin, hs, hx, hrun, Result.andThen]
  exact hK2 _ _ (hK _ _ _ (Lib.hid hG))
/-- As a step of a region that draws its order. -/
theorem step_bytes {K : Act → World → Prop} {Ee : Prop} (ht : P.underlying t = some (.slice 5)) (hi : (P.info? 5).map (fun i => (i.zero, i.size, i.bytes)) = some (some (.int .u8 0), 1, 1))
    (hgd : o.guard = none) (s x : Operand) (ho : o.op = .call { callee := .builtin .append, args := #[s, x], argTypes := #[t, t] })
    {B : Nat} {L : List Nat} {oa : Option Addr} {oc n : Nat} {out : List UInt8} (hs : a.eval s = .slice oa n oc) (hn : n = out.length) (h : OutB B L oa oc out w) (hB : B ≤ w.heap.size) (hLw : ∀ k ∈ L, k < w.heap.size)
    {a2 : Option Addr} {l2 : List UInt8} {n2 c : Nat} (hx : a.eval x = .slice a2 n2 c) (hn2 : n2 = l2.length) (hne : l2 ≠ []) (hrb : RB w a2 l2)
    (l3 : List UInt8) (hl3 : l3 = out ++ l2) (hlen : l3.length ≤ 140737488355328)
    (hK : ∀ (oa' : Option Addr) (oc' : Nat) w', Hid (Grew B L w oa oa' oc' l3 w') → K (a.put o.dst (.slice oa' l3.length oc')) w') :
    if Region.wanted o (yielded ops a.tmps) = true then Oper.wp P o a w K Q else Ee := by
  obtain ⟨oa', oc', w', hrun, hG⟩ := run_bytes (P := P) w o.type ht hi h hB hLw a2 l2 n2 c hn2 hne hrb l3 hl3 hlen n hn
  have hw : Region.wanted o (yielded ops a.tmps) = true := by simp [Region.wanted, hgd]
  rw [if_pos hw]
  unfold Oper.wp
  simp [execOp, ho, resolve, invoke, builtin, hs, hx, hrun, Result.andThen]
  exact hK _ _ _ (Lib.hid hG)
/-- A call of a Go function, as a step of a region that draws its order: by its contract. -/
theorem step_call {K : Act → World → Prop} {Ee : Prop} (hgd : o.guard = none) (f : FuncId) (xs : List Operand) (ts : Array TypeId) (ho : o.op = .call { callee := .value (.func f), args := xs.toArray, argTypes := ts })
    (args : List Value) (ha : xs.map a.eval = args) (hi : ∀ v, (callFunc f args.toArray).run P v = .ok (.enter f args.toArray) v) {R : Ending → World → Prop} (hc : Calls P f args.toArray w R) (hK : ∀ e w', R e w' → ∃ v, e = .returned v ∧ K (a.put o.dst v) w') :
    if Region.wanted o (yielded ops a.tmps) = true then Oper.wp P o a w K Q else Ee := by
  have hw : Region.wanted o (yielded ops a.tmps) = true := by simp [Region.wanted, hgd]
  rw [if_pos hw]
  have hr : (execOp a.eval o).run P w = .ok (.enter f args.toArray) w := by
    simp [execOp, ho, resolve, invoke, Deferred.ofValue, Act.eval, ha, hi, go_sem]
  unfold Oper.wp
  rw [hr]
  refine hc.mono fun e w' h => ?_
  obtain ⟨v, rfl, h2⟩ := hK e w' h
  exact h2
end
end Wr
end Go.Proofs.YtdilgkkkhmmffaaDoor

namespace Go.Proofs.YtdilgkkkhmmffaaDoor
namespace Oct

def smallI (c : Int) : Int := if 65 ≤ c ∧ c ≤ 90 then c + 32 else c

theorem smallI_bd (c : Int) (h0 : 0 ≤ c) (h1 : c ≤ 255) : 0 ≤ smallI c ∧ smallI c ≤ 255 := by
  unfold smallI; split <;> omega

def worthI (c : Int) : Int :=
  if 48 ≤ c ∧ c ≤ 57 then c - 48 else if 97 ≤ c ∧ c ≤ 102 then c - 87 else if 65 ≤ c ∧ c ≤ 70 then c - 55 else 99

theorem worthI_bd (c : Int) : 0 ≤ worthI c ∧ worthI c ≤ 99 := by
  unfold worthI; (repeat' split) <;> omega

def numF (base : Int) : List UInt8 → Int → Int
  | [], n => n
  | c :: r, n => if base ≤ worthI c.toNat then -1 else numF base r (if 1099511627777 < n * base + worthI c.toNat then 1099511627777 else n * base + worthI c.toNat)

def numV (base : Int) (l : List UInt8) : Int :=
  if l = [] then 0 else if numF base l 0 = -1 then 0 else if 1099511627776 < numF base l 0 then 0 else numF base l 0

def numE (base : Int) (l : List UInt8) : Int :=
  if l = [] then 10 else if numF base l 0 = -1 then 10 else if 1099511627776 < numF base l 0 then 11 else 0

theorem drop_at (s : ByteArray) (k : Nat) (h : k < s.size) : s.data.toList.drop k = s[k] :: s.data.toList.drop (k + 1) := by
  rw [List.drop_eq_getElem_cons (by simpa using h)]; rfl

theorem drop_end (s : ByteArray) (k : Nat) (h : s.size ≤ k) : s.data.toList.drop k = [] := by
  rw [List.drop_eq_nil_iff]; simpa using h

theorem numF_stop (base : Int) (s : ByteArray) (k : Nat) (n : Int) (h : k < s.size) (hw : base ≤ worthI s[k].toNat) :
    numF base (s.data.toList.drop k) n = -1 := by
  rw [drop_at s k h, numF, if_pos hw]

theorem numF_go (base : Int) (s : ByteArray) (k : Nat) (n : Int) (h : k < s.size) (hw : ¬ base ≤ worthI s[k].toNat) :
    numF base (s.data.toList.drop k) n = numF base (s.data.toList.drop (k + 1)) (if 1099511627777 < n * base + worthI s[k].toNat then 1099511627777 else n * base + worthI s[k].toNat) := by
  rw [drop_at s k h, numF, if_neg hw]

theorem numF_end (base : Int) (s : ByteArray) (k : Nat) (n : Int) (h : s.size ≤ k) : numF base (s.data.toList.drop k) n = n := by
  rw [drop_end s k h, numF]

def signB (c : Int) : Bool := decide (c = 33 ∨ (35 ≤ c ∧ c ≤ 39) ∨ c = 42 ∨ c = 43 ∨ c = 45 ∨ c = 46 ∨ c = 94 ∨ c = 95 ∨ c = 96 ∨ c = 124 ∨ c = 126)
def tokB (c : Int) : Bool := decide ((48 ≤ c ∧ c ≤ 57) ∨ (65 ≤ c ∧ c ≤ 90) ∨ (97 ≤ c ∧ c ≤ 122) ∨ c = 33 ∨ (35 ≤ c ∧ c ≤ 39) ∨ c = 42 ∨ c = 43 ∨ c = 45 ∨ c = 46 ∨ c = 94 ∨ c = 95 ∨ c = 96 ∨ c = 124 ∨ c = 126)
def blankB (c : Int) : Bool := decide (c = 32 ∨ c = 9)
def valB (c : Int) : Bool := decide (c = 32 ∨ c = 9 ∨ (33 ≤ c ∧ c ≤ 126) ∨ 128 ≤ c)

theorem tok_val (c : Int) (h : tokB c = true) : valB c = true := by
  unfold tokB at h; unfold valB; simp at *; omega

def tokF : List UInt8 → Bool
  | [] => true
  | c :: r => tokB c.toNat && tokF r
def valF : List UInt8 → Bool
  | [] => true
  | c :: r => valB c.toNat && valF r

theorem tokF_go (s : ByteArray) (k : Nat) (h : k < s.size) : tokF (s.data.toList.drop k) = (tokB s[k].toNat && tokF (s.data.toList.drop (k + 1))) := by
  rw [drop_at s k h, tokF]
theorem valF_go (s : ByteArray) (k : Nat) (h : k < s.size) : valF (s.data.toList.drop k) = (valB s[k].toNat && valF (s.data.toList.drop (k + 1))) := by
  rw [drop_at s k h, valF]
theorem tokF_end (s : ByteArray) (k : Nat) (h : s.size ≤ k) : tokF (s.data.toList.drop k) = true := by rw [drop_end s k h, tokF]
theorem valF_end (s : ByteArray) (k : Nat) (h : s.size ≤ k) : valF (s.data.toList.drop k) = true := by rw [drop_end s k h, valF]

/-- Token(s). -/
def tokenV (l : List UInt8) : Bool := !l.isEmpty && tokF l
/-- Value(s). -/
def valueV (l : List UInt8) : Bool :=
  valF l && (!blankB (l.getD 0 0).toNat && !blankB (l.getD (l.length - 1) 0).toNat)

theorem at_getD (s : ByteArray) (k : Nat) (h : k < s.size) : s.data.toList.getD k 0 = s[k] := by
  rw [List.getD_eq_getElem?_getD, List.getElem?_eq_getElem (by simpa using h)]; rfl
theorem list_len (s : ByteArray) : s.data.toList.length = s.size := by simp
theorem size_pos {s : ByteArray} (h : s.data.toList ≠ []) : 0 < s.size := by
  rw [← list_len]; exact List.length_pos_iff.mpr h
theorem size_nil {s : ByteArray} (h : s.data.toList = []) : s.size = 0 := by rw [← list_len, h]; rfl

def clsI (c : Int) : Int := if tokB c = true then 3 else if valB c = true then 1 else 0

theorem tok_iff (c : Int) : tokB c = true ↔ ((48 ≤ c ∧ c ≤ 57) ∨ (97 ≤ smallI c ∧ smallI c ≤ 122) ∨ signB c = true) := by
  unfold tokB signB smallI; simp only [decide_eq_true_eq]; split <;> omega

theorem val_iff (c : Int) : valB c = true ↔ ((33 ≤ c ∧ c ≤ 126) ∨ 128 ≤ c ∨ blankB c = true) := by
  unfold valB blankB; simp only [decide_eq_true_eq]; omega

theorem cls3 (c : Int) (h : tokB c = true) : clsI c = 3 := by rw [clsI, if_pos h]
theorem cls1 (c : Int) (h : ¬ tokB c = true) (h' : valB c = true) : clsI c = 1 := by rw [clsI, if_neg h, if_pos h']
theorem cls0 (c : Int) (h : ¬ tokB c = true) (h' : ¬ valB c = true) : clsI c = 0 := by rw [clsI, if_neg h, if_neg h']

def lowU (c : UInt8) : UInt8 := UInt8.ofNat (smallI c.toNat).toNat
theorem lowU_val (c : UInt8) : ((lowU c).toNat : Int) = smallI c.toNat := by
  have h := smallI_bd c.toNat (by omega) (by have := c.toNat_lt; omega)
  unfold lowU
  rw [UInt8.toNat_ofNat']
  omega
def lowL (l : List UInt8) : List UInt8 := l.map lowU
theorem lowL_snoc (s : ByteArray) (k : Nat) (h : k < s.size) : lowL (s.data.toList.take (k + 1)) = lowL (s.data.toList.take k) ++ [lowU s[k]] := by
  rw [List.take_succ_eq_append_getElem (by simpa using h)]; simp [lowL]; rfl

def blankU (c : UInt8) : Bool := blankB c.toNat
def leadL (l : List UInt8) : List UInt8 := l.dropWhile blankU
def tailL (l : List UInt8) : List UInt8 := (l.reverse.dropWhile blankU).reverse
/-- Trim(s). -/
def trimL (l : List UInt8) : List UInt8 := tailL (leadL l)

theorem ext1 (t : ByteArray) (h : 0 < t.size) : t.data.toList = t[0] :: (t.extract 1 t.size).data.toList := by
  have hd := drop_at t 0 h
  rw [List.drop_zero] at hd
  have he : (t.extract 1 t.size).data.toList = t.data.toList.drop 1 := by
    rw [ByteArray.data_extract, Array.toList_extract, List.extract, List.take_of_length_le (by simp)]
  rw [he]; exact hd
theorem ext1_size (t : ByteArray) : (t.extract 1 t.size).size = t.size - 1 := by simp
theorem ext2 (t : ByteArray) (h : 0 < t.size) : t.data.toList = (t.extract 0 (t.size - 1)).data.toList ++ [t[t.size - 1]] := by
  rw [ByteArray.data_extract, Array.toList_extract]
  have hd := drop_at t (t.size - 1) (by omega)
  rw [show t.size - 1 + 1 = t.size from by omega, drop_end t t.size (Nat.le_refl _)] at hd
  rw [← hd]
  simp [List.extract]
theorem ext2_size (t : ByteArray) : (t.extract 0 (t.size - 1)).size = t.size - 1 := by simp

theorem leadL_blank (c : UInt8) (r : List UInt8) (h : blankU c = true) : leadL (c :: r) = leadL r := by simp [leadL, h]
theorem leadL_stop (c : UInt8) (r : List UInt8) (h : blankU c = false) : leadL (c :: r) = c :: r := by simp [leadL, h]
theorem tailL_blank (c : UInt8) (r : List UInt8) (h : blankU c = true) : tailL (r ++ [c]) = tailL r := by simp [tailL, h]
theorem tailL_stop (c : UInt8) (r : List UInt8) (h : blankU c = false) : tailL (r ++ [c]) = r ++ [c] := by simp [tailL, h]

theorem lowL_step (s t : ByteArray) (k : Nat) (h : k < s.size) (h' : k < t.size) :
    decide (lowL (s.data.toList.drop k) = lowL (t.data.toList.drop k)) = (decide (smallI s[k].toNat = smallI t[k].toNat) && decide (lowL (s.data.toList.drop (k + 1)) = lowL (t.data.toList.drop (k + 1)))) := by
  rw [drop_at s k h, drop_at t k h']
  unfold lowL
  rw [List.map_cons, List.map_cons, Bool.eq_iff_iff]
  simp only [decide_eq_true_eq, Bool.and_eq_true, List.cons.injEq]
  rw [← lowU_val, ← lowU_val]
  constructor
  · rintro ⟨a, b⟩; exact ⟨by rw [a], b⟩
  · rintro ⟨a, b⟩; exact ⟨UInt8.toNat_inj.mp (by omega), b⟩
theorem lowL_length (l : List UInt8) : (lowL l).length = l.length := by simp [lowL]

theorem smallI_idem (c : Int) : smallI (smallI c) = smallI c := by unfold smallI; (repeat' split) <;> omega
theorem lowU_idem (c : UInt8) : lowU (lowU c) = lowU c := by
  apply UInt8.toNat_inj.mp
  have h1 := lowU_val (lowU c)
  have h2 := lowU_val c
  rw [h2, smallI_idem] at h1
  omega
theorem lowL_idem (l : List UInt8) : lowL (lowL l) = lowL l := by simp [lowL, lowU_idem]

/-- Byte k of a number, from the lowest on. -/
def byteAt (n : Int) (k : Nat) : UInt8 := UInt8.ofNat (n / 2 ^ (8 * k) % 256).toNat
theorem byteAt_val (n : Int) (k : Nat) : ((byteAt n k).toNat : Int) = n / 2 ^ (8 * k) % 256 := by
  have h0 : 0 ≤ n / 2 ^ (8 * k) % 256 := Int.emod_nonneg _ (by decide)
  have h1 : n / 2 ^ (8 * k) % 256 < 256 := Int.emod_lt_of_pos _ (by decide)
  unfold byteAt
  rw [UInt8.toNat_ofNat']
  omega
def putL (n : Int) (s : Nat) : List UInt8 := (List.range s).map fun j => byteAt n (s - 1 - j)
theorem putL_length (n : Int) (s : Nat) : (putL n s).length = s := by simp [putL]
theorem putL_drop (n : Int) (s k : Nat) (h : k < s) : (putL n s).drop (s - 1 - k) = byteAt n k :: (putL n s).drop (s - k) := by
  have hl := putL_length n s
  rw [List.drop_eq_getElem_cons (by omega), show s - 1 - k + 1 = s - k from by omega]
  congr 1
  simp [putL]
  congr 1; omega
theorem putL_at (n : Int) (s i : Nat) (h : i < (putL n s).length) : (putL n s)[i] = byteAt n (s - 1 - i) := by simp [putL]
theorem byteAt_four (n : Int) (k : Nat) (hn0 : 0 ≤ n) (hn1 : n < 4294967296) (h : k < 4) :
    [n / 16777216, n / 65536 % 256, n / 256 % 256, n % 256][3 - k]? = some ((byteAt n k).toNat : Int) := by
  rw [byteAt_val]
  have : k = 0 ∨ k = 1 ∨ k = 2 ∨ k = 3 := by omega
  rcases this with rfl | rfl | rfl | rfl
  · simp
  · simp
  · simp
  · simp
    omega
theorem drop_set_here (ys : List UInt8) (j : Nat) (c : UInt8) (h : j < ys.length) : (ys.set j c).drop j = c :: ys.drop (j + 1) := by
  rw [List.drop_eq_getElem_cons (by simpa using h), List.drop_set_of_lt (by omega)]
  simp
/-- The number that bytes say, the highest first. -/
def beI (l : List UInt8) : Int := l.foldl (fun n c => n * 256 + (c.toNat : Int)) 0
theorem beI_snoc (l : List UInt8) (c : UInt8) : beI (l ++ [c]) = beI l * 256 + c.toNat := by simp [beI]
theorem beI_from (l : List UInt8) : ∀ n : Int, 0 ≤ n → 0 ≤ l.foldl (fun n c => n * 256 + (c.toNat : Int)) n ∧ l.foldl (fun n c => n * 256 + (c.toNat : Int)) n < (n + 1) * 256 ^ l.length := by
  induction l with
  | nil => intro n h; simp; omega
  | cons c r ih =>
    intro n h
    have hc := c.toNat_lt
    obtain ⟨h1, h2⟩ := ih (n * 256 + c.toNat) (by omega)
    refine ⟨h1, Int.lt_of_lt_of_le h2 ?_⟩
    rw [List.length_cons, Int.pow_succ, Int.mul_comm (256 ^ r.length) 256, ← Int.mul_assoc]
    exact Int.mul_le_mul_of_nonneg_right (by omega) (Int.pow_nonneg (by decide))
theorem beI_bd (l : List UInt8) : 0 ≤ beI l ∧ beI l < 256 ^ l.length := by
  have h := beI_from l 0 (by decide)
  refine ⟨h.1, ?_⟩
  have h2 := h.2
  rw [Int.zero_add, Int.one_mul] at h2
  exact h2
def takeV (l : List UInt8) (at' size : Int) : Int :=
  if size < 1 ∨ 4 < size ∨ at' < 0 then 0 else if (l.length : Int) - at' < size then 0 else beI ((l.drop at'.toNat).take size.toNat)
def takeE (l : List UInt8) (at' size : Int) : Int :=
  if size < 1 ∨ 4 < size ∨ at' < 0 then 1 else if (l.length : Int) - at' < size then 12 else 0
theorem take_drop_snoc (l : List UInt8) (a k : Nat) (h : a + k < l.length) : (l.drop a).take (k + 1) = (l.drop a).take k ++ [l[a + k]] := by
  rw [List.take_succ_eq_append_getElem (by rw [List.length_drop]; omega)]
  simp
end Oct
end Go.Proofs.YtdilgkkkhmmffaaDoor

namespace Go.Proofs.YtdilgkkkhmmffaaDoor
open Go.RowKit
open Oct Mem Gen
set_option linter.unusedVariables false

set_option maxHeartbeats 400000 in
theorem rput_no (n s : Int) (w : World) (h : s < 1 ∨ 4 < s) :
    Calls Tryd.prog 23 #[.int .u32 n, .int .i64 s] w (MadeB w []) := by
  rcases h with h | h
  · go_enter Tryd.func23, Tryd.ntmps23
    go_wp2_with fail
    go_ret
    exact ⟨none, 0, rfl, Lib.hid (World.ownsRow_nil _ _ _ _), Below.refl _ _⟩
  · have h0 : ¬ s < 1 := by omega
    go_enter Tryd.func23, Tryd.ntmps23
    go_wp2_with fail
    go_ret
    exact ⟨none, 0, rfl, Lib.hid (World.ownsRow_nil _ _ _ _), Below.refl _ _⟩

set_option maxHeartbeats 1000000 in
theorem rput_yes (n : Int) (s : Nat) (w : World) (hn0 : 0 ≤ n) (hn1 : n < 4294967296) (h1 : 1 ≤ s) (h4 : s ≤ 4) :
    Calls Tryd.prog 23 #[.int .u32 n, .int .i64 s] w (MadeB w (putL n s)) := by
  obtain ⟨i0, hi, hz0, hz1, hz2⟩ := info_parts info_u8
  have hs4 : (s : Int) ≤ 4 := by omega
  go_enter Tryd.func23, Tryd.ntmps23
  go_wp2_with (at_builtin; refine append_bytes Tryd.underlying27 hi hz0 hz1 hz2 rfl _ _ rfl w.heap.size (.slice (some ⟨w.heap.size + 1, 0, none⟩) 0 0) [] rfl ?c0 w.heap.size (4 - s) (4 - (4 - s)) (4 - (4 - s)) (putL n s) ?c1 rfl ?c2 ?c3 ?c4 ?_)
  case c0 => exact own_empty2 _ _ _
  case c1 => rw [putL_length]; omega
  case c2 =>
    intro i hi
    rw [putL_at, cell_first_of_two]
    rw [putL_length] at hi
    have h := byteAt_four n (s - 1 - i) hn0 hn1 (by omega)
    rw [show 3 - (s - 1 - i) = 4 - s + i from by omega] at h
    have h2 := congrArg (Option.map (Value.int .u8)) h
    rw [← List.getElem?_map] at h2
    simpa using h2
  case c3 => rw [putL_length]; simp; omega
  case c4 => simp; omega
  intro ad1 cap1 w1 hown1 hb1
  go_wp2_with fail
  go_ret
  refine ⟨ad1, cap1, ?_, ?_, ?_⟩
  · simp [putL_length]
  · have h := hown1.out
    exact Lib.hid h
  · exact hb1 _ _ (((Below.refl _ _).alloc (Nat.le_refl _) _).alloc (by simp) _) (Nat.le_refl _)

theorem beI_small (l : List UInt8) (h : l.length ≤ 3) : 0 ≤ beI l ∧ beI l < 16777216 := by
  have hb := beI_bd l
  have : l.length = 0 ∨ l.length = 1 ∨ l.length = 2 ∨ l.length = 3 := by omega
  rcases this with h | h | h | h <;> rw [h] at hb <;> exact ⟨hb.1, Int.lt_of_lt_of_le hb.2 (by decide)⟩

theorem beI_four (l : List UInt8) (h : l.length ≤ 4) : 0 ≤ beI l ∧ beI l < 4294967296 := by
  have hb := beI_bd l
  have : l.length = 0 ∨ l.length = 1 ∨ l.length = 2 ∨ l.length = 3 ∨ l.length = 4 := by omega
  rcases this with h | h | h | h | h <;> rw [h] at hb <;> exact ⟨hb.1, Int.lt_of_lt_of_le hb.2 (by decide)⟩

set_option maxHeartbeats 1000000 in
theorem rtake_any (a : Option Addr) (l : List UInt8) (cap : Nat) (p s : Int) (w : World) (hl : l.length ≤ maxLen) (hr : RB w a l) (hp0 : -9223372036854775808 ≤ p) (hp1 : p ≤ 9223372036854775807) :
    Calls Tryd.prog 51 #[.slice a l.length cap, .int .i64 p, .int .i64 s] w fun e w' => e = .returned (.tuple #[.int .u32 (takeV l p s), .int .i64 (takeE l p s)]) ∧ w = w' := by
  unfold maxLen at hl
  by_cases hs : s < 1 ∨ 4 < s
  · have hv : takeV l p s = 0 := by rw [takeV, if_pos (by omega)]
    have he : takeE l p s = 1 := by rw [takeE, if_pos (by omega)]
    rw [hv, he]
    clear hv he hr
    rcases hs with h | h
    · go_enter Tryd.func51, Tryd.ntmps51
      go_wp2_with fail
      go_ret2
      exact ⟨rfl, rfl⟩
    · have h0 : ¬ s < 1 := by omega
      go_enter Tryd.func51, Tryd.ntmps51
      go_wp2_with fail
      go_ret2
      exact ⟨rfl, rfl⟩
  · have hs1 : 1 ≤ s := by omega
    have hs4 : s ≤ 4 := by omega
    by_cases hp : p < 0
    · have hv : takeV l p s = 0 := by rw [takeV, if_pos (by omega)]
      have he : takeE l p s = 1 := by rw [takeE, if_pos (by omega)]
      rw [hv, he]
      clear hv he hr hs
      go_enter Tryd.func51, Tryd.ntmps51
      go_wp2_with fail
      go_ret2
      exact ⟨rfl, rfl⟩
    · obtain ⟨q, rfl⟩ := Int.eq_ofNat_of_zero_le (show 0 ≤ p by omega)
      obtain ⟨t, rfl⟩ := Int.eq_ofNat_of_zero_le (show 0 ≤ s by omega)
      have hp' : (0 : Int) ≤ (q : Int) := by omega
      have HV : Hid (takeV l q t = if (l.length : Int) - q < t then 0 else beI ((l.drop q).take t)) := Lib.hid (by rw [takeV, if_neg (by omega)]; simp)
      have HE : Hid (takeE l q t = if (l.length : Int) - q < t then 12 else 0) := Lib.hid (by rw [takeE, if_neg (by omega)])
      rcases hr with rfl | ⟨b, off, rfl, hc⟩
      · have hv : takeV [] q t = 0 := by rw [HV.out, if_pos (by simp; omega)]
        have he : takeE [] q t = 12 := by rw [HE.out, if_pos (by simp; omega)]
        rw [hv, he]
        clear hv he HV HE hs hp
        go_enter Tryd.func51, Tryd.ntmps51
        go_wp2_with fail
        go_loop [8, 9] (fun n i => i = .int .i64 0 ∧ n = .int .u32 0) (fun _ i => 0)
        case atStart => exact ⟨rfl, rfl⟩
        case round =>
          obtain ⟨rfl, rfl⟩ := hrel
          go_wp2_with fail
          go_ret2
          exact ⟨rfl, rfl⟩
      · generalize takeV l q t = V at HV ⊢
        generalize takeE l q t = E at HE ⊢
        have HC := Lib.hid hc
        clear hs hp hc
        go_enter Tryd.func51, Tryd.ntmps51
        go_wp2_with fail
        go_loop [8, 9] (fun n i => ∃ (k : Nat), k ≤ t ∧ Hid (k = 0 ∨ q + k ≤ l.length) ∧ i = .int .i64 k ∧ n = .int .u32 (beI ((l.drop q).take k))) (fun _ i => t - (intOf i).toNat)
        case atStart => exact ⟨0, Nat.zero_le _, Or.inl rfl, rfl, by simp [beI]⟩
        case round =>
          obtain ⟨k, hk, HK, rfl, rfl⟩ := hrel
          by_cases hlt : k < t
          · by_cases hi : q + k < l.length
            · have hcell := HC.out (q + k) hi
              have hcb := l[q + k].toNat_lt
              have hb := beI_small ((l.drop q).take k) (by simp; omega)
              have hsn : Hid (beI ((l.drop q).take (k + 1)) = beI ((l.drop q).take k) * 256 + l[q + k].toNat) := Lib.hid (by rw [take_drop_snoc l q k hi, beI_snoc])
              go_wp2_with fail
              go_round
              case rel => exact ⟨k + 1, by omega, Or.inr (by omega), by go_num, by rw [hsn.out]⟩
              case measure => simp [intOf]; omega
            · have hv : V = 0 := by rw [HV.out, if_pos (by omega)]
              have he : E = 12 := by rw [HE.out, if_pos (by omega)]
              subst hv he
              clear HV HE HK
              go_wp2_with fail
              go_ret2
              exact ⟨rfl, rfl⟩
          · have hkt : k = t := by omega
            subst hkt
            have hle : q + k ≤ l.length := by rcases HK.out with h | h; omega; exact h
            have hv : V = beI ((l.drop q).take k) := by rw [HV.out, if_neg (by omega)]
            have he : E = 0 := by rw [HE.out, if_neg (by omega)]
            subst hv he
            clear HV HE HK
            go_wp2_with fail
            go_ret2
            exact ⟨rfl, rfl⟩

end Go.Proofs.YtdilgkkkhmmffaaDoor
