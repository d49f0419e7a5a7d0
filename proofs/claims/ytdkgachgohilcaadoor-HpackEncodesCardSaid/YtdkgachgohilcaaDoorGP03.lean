/- Small things that every layer's contracts use: results, bytes of texts, rows of the call's own, bits. Rows of elements of several cells each: as arguments, as rows of the call's own, and appended. A slice that lies in a row with spare cells (at any place of it): appended to, its first element struck. -/
import Derived.Test.YtdkgachgohilcaaDoorRows
import Derived.Test.YtdkgachgohilcaaDoorGP02
import Derived.Test.YtdkgachgohilcaaDoorGP01
import Derived.WalkKit
import Derived.WalkSpells
import Derived.WalkLawsBesides
import Derived.Lib.Hide
import Derived.RegionTactic
import Derived.IntWalk
import Derived.Deep.RegionLaw
import Derived.Deep.AppendLies
import Derived.Laws.BitsAllLaws
import Derived.Laws.AppendOwnNone
import Derived.ArgAppend
import Derived.Maps.AppendAt
set_option linter.unusedVariables false
set_option linter.unusedSimpArgs false
namespace Go.Proofs.YtdkgachgohilcaaDoor
open Go.RowKit
open Huf Mem
set_option linter.unusedVariables false
namespace Gen

theorem ret_int2 {k k' : IntKind} {a b c d : Int} (h : a = b) (h' : c = d) : Ending.returned (.tuple #[.int k a, .int k' c]) = .returned (.tuple #[.int k b, .int k' d]) := by rw [h, h']

theorem ret_intv {k : IntKind} {a b : Int} {y : Value} (h : a = b) : Ending.returned (.tuple #[.int k a, y]) = .returned (.tuple #[.int k b, y]) := by rw [h]

theorem ret_int {k : IntKind} {a b : Int} (h : a = b) : Ending.returned (.int k a) = .returned (.int k b) := by rw [h]

theorem ret_two {a b : Value} {k : IntKind} {c d : Int} (h : a = b) (h' : c = d) : Ending.returned (.tuple #[a, .int k c]) = .returned (.tuple #[b, .int k d]) := by rw [h, h']

theorem byte_bd (s : ByteArray) (k : Nat) (h : k < s.size) : (0 : Int) ≤ s[k].toNat ∧ (s[k].toNat : Int) ≤ 255 := by
  have := s[k].toNat_lt; omega

theorem drop_cons (s : ByteArray) (k : Nat) (h : k < s.size) : s.data.toList.drop k = s[k] :: s.data.toList.drop (k + 1) := by
  rw [List.drop_eq_getElem_cons (by simpa using h)]; rfl

theorem drop_end (s : ByteArray) (k : Nat) (h : s.size ≤ k) : s.data.toList.drop k = [] := List.drop_of_length_le (by simpa using h)

theorem list_len (s : ByteArray) : s.data.toList.length = s.size := by simp

theorem own_below {w w' : World} {base : Nat} {e : TypeId} {size : Nat} {v : Value} {n : Nat} {xs : List Value} (h : w.ownsRow base e size v n xs) (hb : Below w.heap.size w w') : w'.ownsRow base e size v n xs := by
  obtain ⟨hl, h | ⟨g, cap, cur, hv, hg, hh, hr⟩⟩ := h
  · exact ⟨hl, .inl h⟩
  · have hlt : g < w.heap.size := by
      rcases Nat.lt_or_ge g w.heap.size with h | h
      · exact h
      · rw [Array.getElem?_eq_none h] at hh; cases hh
    exact ⟨hl, .inr ⟨g, cap, cur, hv, hg, (hb.block g hlt).trans hh, hr⟩⟩

theorem own_form {w : World} {base : Nat} {e : TypeId} {size : Nat} {v : Value} {n : Nat} {xs : List Value} (h : w.ownsRow base e size v n xs) : ∃ ad cap, v = .slice ad n cap := by
  rcases h.2 with ⟨rfl, hn⟩ | ⟨g, cap, cur, rfl, _⟩
  · exact ⟨none, 0, by rw [hn]⟩
  · exact ⟨_, _, rfl⟩

theorem byte_of (a : Nat) : ((a % 256 : Nat) : Int) = ((UInt8.ofNat (a % 256)).toNat : Int) := by
  rw [UInt8.toNat_ofNat', Nat.mod_mod_of_dvd _ (by decide)]

/-- 'out = append(out, c)' at a step of a region that draws its order. -/
theorem step_append_byte {P : Program} {w : World} {ops : Array Oper} {o : Oper} {a : Act} {K : Act → World → Prop} {Q : Exit → Act → World → Prop} {E : Prop} {t e : TypeId} {i : TypeInfo}
    (ht : P.underlying t = some (.slice e)) (hi : P.info? e = some i) (hz : i.zero = some (.int .u8 0)) (hsize : i.size = 1) (hby : i.bytes = 1)
    (hgd : o.guard = none) (s x : Operand) (ho : o.op = .call { callee := .builtin .append, args := #[s, x], argTypes := #[t, t] })
    (base : Nat) (v : Value) (l : List UInt8) (u : UInt8) (hs : a.eval s = v) (g : Nat) (hown : w.ownsRow base e 1 v l.length (bvs l)) 
    (hx : a.eval x = .slice (some ⟨g, 0, none⟩) 1 1) (hc : w.cell? ⟨g, 0, none⟩ = some (.int .u8 (u.toNat : Int))) (hlen : l.length + 1 ≤ 140737488355328) (hbase : base ≤ w.heap.size)
    (h : ∀ v' w', Hid (w'.ownsRow base e 1 v' (l.length + 1) (bvs (l ++ [u]))) → (∀ B wb, Below B wb w → B ≤ base → Below B wb w') → K (a.put o.dst v') w') :
    if Region.wanted o (yielded ops a.tmps) = true then Oper.wp P o a w K Q else E := by
  have hw : Region.wanted o (yielded ops a.tmps) = true := by simp [Region.wanted, hgd]
  rw [if_pos hw]
  refine wp_append_own w s x t ho base e i (.int .u8 0) 1 1 ht hi hz hsize hby rfl (by decide) v l.length (bvs l) hs hown ⟨g, 0, none⟩ 1 1 [.int .u8 (u.toNat : Int)] hx rfl ?_ ?_ (by unfold maxLen; omega) (by omega) hbase ?_
  · intro j u' hj
    match j, hj with
    | 0, hj => simp at hj; subst hj; simpa [Addr.add] using hc
  · intro u' hu; simp at hu; subst hu; rfl
  · intro v' w' h2 h3 _
    refine h v' w' (Lib.hid ?_) ?_
    · rw [bvs_append]; exact h2
    · intro B wb hb hB
      exact hb.grown h3 (by omega) (fun k hk => by have := (hown.lt k hk).1; omega)

theorem nat_or_join (a c L : Nat) (h : c < 2 ^ L) : a * 2 ^ L ||| c = a * 2 ^ L + c := by
  have := Nat.shiftLeft_add_eq_or_of_lt h a
  rw [Nat.shiftLeft_eq] at this
  exact this.symm

theorem cell_drew_alloc (w : World) (v : Value) (e : TypeId) : ((w.alloc (.cells #[v] e)).drew).cell? ⟨w.heap.size, 0, none⟩ = some v :=
  (cell_of_row (w.alloc (.cells #[v] e)) w.heap.size 0 _ _ (0, 0) (heap_alloc_new w _)).trans rfl

theorem info_u8 : (Tryd.prog.info? 5).map (fun i => (i.zero, i.size, i.bytes)) = some (some (.int .u8 0), 1, 1) := by kernel_rfl

/-- What a call that makes a row of bytes leaves. -/
def MadeB (w : World) (l : List UInt8) (e : Ending) (w' : World) : Prop :=
  ∃ (a : Option Addr) (cap : Nat), e = .returned (.slice a l.length cap) ∧ Hid (w'.ownsRow w.heap.size 5 1 (.slice a l.length cap) l.length (bvs l)) ∧ Below w.heap.size w w'

theorem and_bit (c j : Nat) (h : c < 256) : bits .and .u8 ((c : Int) / 2 ^ j) 1 = (bN (c.testBit j) : Int) := by
  have h1 : ((c : Int) / 2 ^ j) = ((c / 2 ^ j : Nat) : Int) := by rw [Int.natCast_ediv, Int.natCast_pow]; rfl
  have h2 : c / 2 ^ j < 256 := Nat.lt_of_le_of_lt (Nat.div_le_self _ _) h
  have h3 := u8_and_nat (c / 2 ^ j) 1 h2 (by decide)
  rw [h1]
  refine h3.trans ?_
  rw [Nat.and_one_is_mod]
  congr 1
  rw [Nat.testBit_eq_decide_div_mod_eq]
  have : c / 2 ^ j % 2 = 0 ∨ c / 2 ^ j % 2 = 1 := by omega
  rcases this with h | h <;> simp [bN, h]

theorem or_bit (v b : Nat) (hv : v < 1073741824) (hb : b < 2) : bits .or .u32 ((v : Int) * 2) (b : Int) = ((2 * v + b : Nat) : Int) := by
  have h1 : ((v : Int) * 2) = ((v * 2 ^ 1 : Nat) : Int) := by rw [Int.natCast_mul]; rfl
  rw [h1, u32_or_nat _ _ (by omega) (by omega), nat_or_join _ _ _ (by omega)]
  congr 1; omega

theorem and_bit32 (c j : Nat) (h : c < 4294967296) : bits .and .u32 ((c : Int) / 2 ^ j) 1 = (bN (c.testBit j) : Int) := by
  have h1 : ((c : Int) / 2 ^ j) = ((c / 2 ^ j : Nat) : Int) := by rw [Int.natCast_ediv, Int.natCast_pow]; rfl
  have h2 : c / 2 ^ j < 4294967296 := Nat.lt_of_le_of_lt (Nat.div_le_self _ _) h
  have h3 := u32_and_nat (c / 2 ^ j) 1 h2 (by decide)
  rw [h1]
  refine h3.trans ?_
  rw [Nat.and_one_is_mod]
  congr 1
  rw [Nat.testBit_eq_decide_div_mod_eq]
  have : c / 2 ^ j % 2 = 0 ∨ c / 2 ^ j % 2 = 1 := by omega
  rcases this with h | h <;> simp [bN, h]

theorem rb_one (w : World) (c : Nat) (hc : c < 256) : RB (w.alloc (.cells #[.int .u8 c] 5)) (some ⟨w.heap.size, 0, none⟩) [UInt8.ofNat c] := by
  refine Or.inr ⟨w.heap.size, 0, rfl, fun i hi => ?_⟩
  simp at hi
  subst hi
  rw [cell_of_row _ w.heap.size _ _ _ (0, 0) (heap_alloc_new w _)]
  simp [Nat.mod_eq_of_lt hc]
end Gen
end Go.Proofs.YtdkgachgohilcaaDoor

namespace Go.Proofs.YtdkgachgohilcaaDoor
open Go.RowKit
set_option linter.unusedVariables false
namespace Rw
open Mem Arg

/-- How an element lies in cells. -/
structure Enc (α : Type) where
  enc : α → List Value
  k : Nat
  pos : 0 < k
  len : ∀ x, (enc x).length = k
  one : ∀ x v, v ∈ enc x → v.oneCell' = true

/-- An element at a place of a block. -/
def CE {α : Type} (E : Enc α) (w : World) (b o : Nat) (x : α) : Prop := ∀ r v, (E.enc x)[r]? = some v → w.cell? ⟨b, o + r, none⟩ = some v
def flat {α : Type} (E : Enc α) (l : List α) : List Value := l.flatMap E.enc
theorem flat_len {α : Type} (E : Enc α) (l : List α) : (flat E l).length = l.length * E.k := by
  induction l with
  | nil => simp [flat]
  | cons x r ih => simp only [flat, List.flatMap_cons, List.length_append, E.len, List.length_cons] at ih ⊢; rw [ih, Nat.add_mul]; omega
theorem flat_append {α : Type} (E : Enc α) (a b : List α) : flat E (a ++ b) = flat E a ++ flat E b := by simp [flat]
theorem flat_one {α : Type} (E : Enc α) (l : List α) : ∀ u ∈ flat E l, u.oneCell' = true := fun u hu => by
  simp only [flat, List.mem_flatMap] at hu
  obtain ⟨x, _, hx⟩ := hu
  exact E.one x u hx
/-- A flat row's cell lies in one element. -/
theorem flat_at {α : Type} (E : Enc α) : ∀ (l : List α) (j : Nat) (u : Value), (flat E l)[j]? = some u → ∃ i r, ∃ h : i < l.length, j = i * E.k + r ∧ (E.enc l[i])[r]? = some u
  | [], j, u, h => by simp [flat] at h
  | x :: q, j, u, h => by
    rw [flat, List.flatMap_cons] at h
    by_cases hj : j < E.k
    · rw [List.getElem?_append_left (by rw [E.len]; exact hj)] at h
      exact ⟨0, j, by simp, by simp, h⟩
    · rw [List.getElem?_append_right (by rw [E.len]; omega), E.len] at h
      obtain ⟨i, r, hi, hj', hu⟩ := flat_at E q _ u h
      exact ⟨i + 1, r, by simpa using hi, by rw [Nat.add_mul]; omega, hu⟩
theorem flat_of {α : Type} (E : Enc α) : ∀ (l : List α) (i r : Nat) (h : i < l.length) (u : Value), (E.enc l[i])[r]? = some u → (flat E l)[i * E.k + r]? = some u
  | x :: q, 0, r, h, u, hu => by
    have hr : r < E.k := by
      rcases Nat.lt_or_ge r E.k with h' | h'
      · exact h'
      · rw [List.getElem?_eq_none (by rw [E.len]; exact h')] at hu; cases hu
    rw [flat, List.flatMap_cons, Nat.zero_mul, Nat.zero_add, List.getElem?_append_left (by rw [E.len]; exact hr)]
    exact hu
  | x :: q, i + 1, r, h, u, hu => by
    rw [flat, List.flatMap_cons, List.getElem?_append_right (by rw [E.len, Nat.add_mul]; omega), E.len, show (i + 1) * E.k + r - E.k = i * E.k + r from by rw [Nat.add_mul]; omega]
    exact flat_of E q i r (by simpa using h) u hu

/-- A slice value leads to these elements. -/
def RowE {α : Type} (E : Enc α) (w : World) (ad : Option Addr) (l : List α) : Prop := RowL E.k (CE E) w ad l
theorem CE_local {α : Type} (E : Enc α) : Local (CE E) := fun w w' b o x hb h r v hv => (World.cell?_of_block (a := ⟨b, o + r, none⟩) hb).trans (h r v hv)
theorem RowE.below {α : Type} {E : Enc α} {w w' : World} (hb : Below w.heap.size w w') {ad : Option Addr} {l : List α} (h : RowE E w ad l) : RowE E w' ad l := by
  rcases h with h | ⟨b, off, rfl, hc⟩
  · exact .inl h
  · exact .inr ⟨b, off, rfl, fun i hi r v hv => below_cell hb (hc i hi r v hv)⟩
theorem RowE.block {α : Type} {E : Enc α} {w w' : World} {ad : Option Addr} {l : List α} (h : RowE E w ad l) (hb : ∀ b off, ad = some ⟨b, off, none⟩ → w'.heap[b]? = w.heap[b]?) : RowE E w' ad l := RowL.kept (CE_local E) h hb
/-- The first ones. -/
theorem RowE.take {α : Type} {E : Enc α} {w : World} {ad : Option Addr} {l : List α} (h : RowE E w ad l) (n : Nat) : RowE E w ad (l.take n) := by
  rcases h with rfl | ⟨b, off, rfl, hc⟩
  · exact .inl (by simp)
  · refine .inr ⟨b, off, rfl, fun i hi => ?_⟩
    rw [List.getElem_take]
    exact hc i (by rw [List.length_take] at hi; omega)
theorem RowE.drop {α : Type} {E : Enc α} {w : World} {b off : Nat} {l : List α} (h : RowE E w (some ⟨b, off, none⟩) l) (n : Nat) : RowE E w (some ⟨b, off + n * E.k, none⟩) (l.drop n) := by
  rcases h with rfl | ⟨b', off', e, hc⟩
  · exact .inl (by simp)
  · simp only [Option.some.injEq, Addr.mk.injEq, and_true] at e
    obtain ⟨rfl, rfl⟩ := e
    refine .inr ⟨b, _, rfl, fun i hi r v hv => ?_⟩
    rw [List.getElem_drop] at hv
    have := hc (n + i) (by rw [List.length_drop] at hi; omega) r v hv
    rwa [show off + (n + i) * E.k + r = off + n * E.k + i * E.k + r from by rw [Nat.add_mul]; omega] at this
theorem RowE.news {α : Type} {E : Enc α} {w : World} {ad : Addr} {l : List α} (h : RowE E w (some ad) l) : ∀ j u, (flat E l)[j]? = some u → w.cell? (ad.add j) = some u := by
  intro j u hj
  rcases h with rfl | ⟨b, off, e, hc⟩
  · simp [flat] at hj
  · simp only [Option.some.injEq] at e
    subst e
    obtain ⟨i, r, hi, rfl, hu⟩ := flat_at E l j u hj
    rw [add_none, ← Nat.add_assoc]
    exact hc i hi r u hu
theorem RowE.of_own {α : Type} {E : Enc α} {w : World} {base n cap : Nat} {e : TypeId} {ad : Option Addr} {l : List α} (h : w.ownsRow base e E.k (.slice ad n cap) l.length (flat E l)) : RowE E w ad l := by
  rcases h.2 with ⟨h1, h2⟩ | ⟨g, cap', cur, h1, _⟩
  · exact .inl (List.eq_nil_iff_length_eq_zero.mpr h2)
  · have h' := h
    simp only [Value.slice.injEq] at h1
    obtain ⟨rfl, rfl, rfl⟩ := h1
    refine .inr ⟨g, 0, rfl, fun i hi r u hu => ?_⟩
    have h3 := flat_of E l i r hi u hu
    have hlt : i * E.k + r < l.length * E.k := by
      rw [← flat_len E l]
      exact (List.getElem?_eq_some_iff.1 h3).1
    rw [Nat.zero_add, h'.cellAt (i * E.k + r) hlt]
    exact h3
theorem own_blk {w : World} {base n cap : Nat} {e : TypeId} {size : Nat} {ad : Option Addr} {xs : List Value} {m : Nat} (h : w.ownsRow base e size (.slice ad n cap) m xs) : ∀ b o s, ad = some ⟨b, o, s⟩ → base ≤ b ∧ b < w.heap.size := by
  intro b o s hb
  rcases h.2 with ⟨h1, _⟩ | ⟨g, cap', cur, h1, hg, hh, _⟩
  · simp only [Value.slice.injEq] at h1
    rw [h1.1] at hb; cases hb
  · simp only [Value.slice.injEq] at h1
    rw [h1.1] at hb
    simp only [Option.some.injEq, Addr.mk.injEq] at hb
    obtain ⟨rfl, _⟩ := hb
    exact ⟨hg, (Array.getElem?_eq_some_iff.1 hh).1⟩
theorem own_len {w : World} {base n cap : Nat} {e : TypeId} {size : Nat} {ad : Option Addr} {xs : List Value} {m : Nat} (h : w.ownsRow base e size (.slice ad n cap) m xs) : n = m ∧ n ≤ cap ∧ cap ≤ maxLen ∧ (ad = none → cap = 0) := by
  rcases h.2 with ⟨h1, h2⟩ | ⟨g, cap', cur, h1, hg, hh, h3, h4, _⟩
  · simp only [Value.slice.injEq] at h1
    obtain ⟨rfl, rfl, rfl⟩ := h1
    exact ⟨h2.symm, Nat.le_refl _, by unfold maxLen; omega, fun _ => rfl⟩
  · simp only [Value.slice.injEq] at h1
    obtain ⟨rfl, rfl, rfl⟩ := h1
    exact ⟨rfl, h3, h4, fun h => by cases h⟩

section
variable {P : Program} {w : World} {ops : Array Oper} {o : Oper} {a : Act} {Q : Exit → Act → World → Prop} {t e : TypeId} {i : TypeInfo} {z : Value} {by' : Nat}

/-- 'append(out, l...)', out nil or the call's own row: as a step. -/
theorem wp_append_rows {α : Type} (E : Enc α) {K : Act → World → Prop} (ht : P.underlying t = some (.slice e)) (hi : P.info? e = some i) (hz : i.zero = some z) (hsize : i.size = E.k) (hby : i.bytes = by') (hzs : z.cells.size = E.k)
    (s x : Operand) (ho : o.op = .call { callee := .builtin .append, args := #[s, x], argTypes := #[t, t] })
    (base : Nat) (v : Value) (n : Nat) (l : List α) (hs : a.eval s = v) (hn : n = l.length) (hown : w.ownsRow base e E.k v n (flat E l))
    (a2 : Option Addr) (m : Nat) (l2 : List α) (c : Nat) (hx : a.eval x = .slice a2 m c) (hm : m = l2.length) (hnil : a2 = none → c = 0 ∧ m = 0) (hrow : RowE E w a2 l2)
    (hlen : (n + m) ≤ maxLen) (hbytes : (n + m) * by' ≤ 140737488355328) (hbase : base ≤ w.heap.size)
    (h : ∀ (ad' : Option Addr) (cap' : Nat) w', Hid (w'.ownsRow base e E.k (.slice ad' (n + m) cap') (n + m) (flat E (l ++ l2))) → Hid (w.grownBy w' v.ownBlock) → K (a.put o.dst (.slice ad' (n + m) cap')) w') :
    o.wp P a w K Q := by
  subst hm
  cases a2 with
  | none =>
    obtain ⟨rfl, h0⟩ := hnil rfl
    have hl2 : l2 = [] := List.eq_nil_iff_length_eq_zero.mpr h0
    subst hl2
    have hrun := run_append_owned_none (P := P) (w := w) base t o.type e i E.k ht hi v n (flat E l) hown
    have hv : ∃ ad cap, v = .slice ad n cap := by
      rcases hown.2 with ⟨rfl, hn⟩ | ⟨g, cap, cur, rfl, _⟩
      · exact ⟨none, 0, by rw [hn]⟩
      · exact ⟨_, _, rfl⟩
    obtain ⟨ad, cap, rfl⟩ := hv
    unfold Oper.wp
    simp [execOp, ho, resolve, invoke, builtin, hs, hx, hrun, Result.andThen]
    exact h ad cap w (Lib.hid (by simpa using hown)) (Lib.hid ⟨rfl, rfl, rfl, Nat.le_refl _, fun _ _ _ => rfl⟩)
  | some ad =>
    refine wp_append_own w s x t ho base e i z E.k by' ht hi hz hsize hby hzs E.pos v n (flat E l) hs hown ad l2.length c (flat E l2) hx (flat_len E l2) hrow.news (flat_one E l2) hlen hbytes hbase fun v' w' h2 h3 _ => ?_
    have hv : ∃ ad' cap', v' = .slice ad' (n + l2.length) cap' := by
      rcases h2.2 with ⟨rfl, hn⟩ | ⟨g, cap, cur, rfl, _⟩
      · exact ⟨none, 0, by rw [hn]⟩
      · exact ⟨_, _, rfl⟩
    obtain ⟨ad', cap', rfl⟩ := hv
    exact h ad' cap' w' (Lib.hid (by rw [flat_append]; exact h2)) (Lib.hid h3)

theorem step_append_rows {α : Type} (E : Enc α) {K : Act → World → Prop} {Ee : Prop} (ht : P.underlying t = some (.slice e)) (hi : P.info? e = some i) (hz : i.zero = some z) (hsize : i.size = E.k) (hby : i.bytes = by') (hzs : z.cells.size = E.k)
    (hgd : o.guard = none) (s x : Operand) (ho : o.op = .call { callee := .builtin .append, args := #[s, x], argTypes := #[t, t] })
    (base : Nat) (v : Value) (n : Nat) (l : List α) (hs : a.eval s = v) (hn : n = l.length) (hown : w.ownsRow base e E.k v n (flat E l))
    (a2 : Option Addr) (m : Nat) (l2 : List α) (c : Nat) (hx : a.eval x = .slice a2 m c) (hm : m = l2.length) (hnil : a2 = none → c = 0 ∧ m = 0) (hrow : RowE E w a2 l2)
    (hlen : (n + m) ≤ maxLen) (hbytes : (n + m) * by' ≤ 140737488355328) (hbase : base ≤ w.heap.size)
    (h : ∀ (ad' : Option Addr) (cap' : Nat) w', Hid (w'.ownsRow base e E.k (.slice ad' (n + m) cap') (n + m) (flat E (l ++ l2))) → Hid (w.grownBy w' v.ownBlock) → K (a.put o.dst (.slice ad' (n + m) cap')) w') :
    if Region.wanted o (yielded ops a.tmps) = true then Oper.wp P o a w K Q else Ee := by
  have hw : Region.wanted o (yielded ops a.tmps) = true := by simp [Region.wanted, hgd]
  rw [if_pos hw]
  exact wp_append_rows E ht hi hz hsize hby hzs s x ho base v n l hs hn hown a2 m l2 c hx hm hnil hrow hlen hbytes hbase h

theorem list_append_rows {α : Type} (E : Enc α) {rest : List Oper} (ht : P.underlying t = some (.slice e)) (hi : P.info? e = some i) (hz : i.zero = some z) (hsize : i.size = E.k) (hby : i.bytes = by') (hzs : z.cells.size = E.k)
    (hgd : o.guard = none) (s x : Operand) (ho : o.op = .call { callee := .builtin .append, args := #[s, x], argTypes := #[t, t] })
    (base : Nat) (v : Value) (n : Nat) (l : List α) (hs : a.eval s = v) (hn : n = l.length) (hown : w.ownsRow base e E.k v n (flat E l))
    (a2 : Option Addr) (m : Nat) (l2 : List α) (c : Nat) (hx : a.eval x = .slice a2 m c) (hm : m = l2.length) (hnil : a2 = none → c = 0 ∧ m = 0) (hrow : RowE E w a2 l2)
    (hlen : (n + m) ≤ maxLen) (hbytes : (n + m) * by' ≤ 140737488355328) (hbase : base ≤ w.heap.size)
    (h : ∀ (ad' : Option Addr) (cap' : Nat) w', Hid (w'.ownsRow base e E.k (.slice ad' (n + m) cap') (n + m) (flat E (l ++ l2))) → Hid (w.grownBy w' v.ownBlock) → wpList P ops Q rest (a.put o.dst (.slice ad' (n + m) cap')) w') :
    wpList P ops Q (o :: rest) a w :=
  wpList_plain hgd fun _ hK => wp_append_rows E ht hi hz hsize hby hzs s x ho base v n l hs hn hown a2 m l2 c hx hm hnil hrow hlen hbytes hbase fun ad' cap' w' h1 h2 => hK _ _ (h ad' cap' w' h1 h2)
end
end Rw
end Go.Proofs.YtdkgachgohilcaaDoor

namespace Go.Proofs.YtdkgachgohilcaaDoor
open Go.RowKit
set_option linter.unusedVariables false
namespace Rw
open Mem Arg

/-- A slice value leads to these elements, in a row whose cells up to the capacity may be written. -/
structure QRow {α : Type} (E : Enc α) (w : World) (ad : Option Addr) (cap : Nat) (l : List α) : Prop where
  le : l.length ≤ cap
  max : cap ≤ maxLen
  nil : ad = none → cap = 0
  lies : ∀ a, ad = some a → ∃ b off, a = ⟨b, off, none⟩ ∧ b < w.heap.size ∧ (∀ i, (h : i < l.length) → CE E w b (off + i * E.k) l[i]) ∧ ∀ j, j < cap * E.k → (w.cell? ⟨b, off + j, none⟩).isSome = true ∧ w.frozen? ⟨b, off + j, none⟩ = false

theorem QRow.bare {α : Type} (E : Enc α) (w : World) : QRow E w none 0 [] := ⟨Nat.le_refl _, by unfold maxLen; omega, fun _ => rfl, fun a h => by cases h⟩
theorem QRow.row {α : Type} {E : Enc α} {w : World} {ad : Option Addr} {cap : Nat} {l : List α} (h : QRow E w ad cap l) : RowE E w ad l := by
  cases ad with
  | none =>
    have h0 := h.nil rfl
    exact .inl (List.eq_nil_iff_length_eq_zero.mpr (by have := h.le; omega))
  | some a =>
    obtain ⟨b, off, rfl, _, hc, _⟩ := h.lies a rfl
    exact .inr ⟨b, off, rfl, hc⟩
theorem QRow.block {α : Type} {E : Enc α} {w w' : World} {ad : Option Addr} {cap : Nat} {l : List α} (h : QRow E w ad cap l) (hs : w.heap.size ≤ w'.heap.size) (hb : ∀ b o s, ad = some ⟨b, o, s⟩ → w'.heap[b]? = w.heap[b]?) : QRow E w' ad cap l := by
  refine ⟨h.le, h.max, h.nil, fun a e => ?_⟩
  obtain ⟨b, off, rfl, h1, h2, h3⟩ := h.lies a e
  have hb' := hb b off _ e
  exact ⟨b, off, rfl, by omega, fun i hi => CE_local E w w' b _ _ hb' (h2 i hi), fun j hj => ⟨by rw [World.cell?_of_block (a := ⟨b, off + j, none⟩) hb']; exact (h3 j hj).1, by rw [World.frozen?_of_block (a := ⟨b, off + j, none⟩) hb']; exact (h3 j hj).2⟩⟩
theorem QRow.below {α : Type} {E : Enc α} {w w' : World} {ad : Option Addr} {cap : Nat} {l : List α} (h : QRow E w ad cap l) (hb : Below w.heap.size w w') : QRow E w' ad cap l :=
  h.block hb.size (fun b o s e => by
    obtain ⟨b', off, e', h1, _⟩ := h.lies _ e
    simp only [Addr.mk.injEq] at e'
    obtain ⟨rfl, _⟩ := e'
    exact hb.block b h1)
theorem QRow.of_own {α : Type} {E : Enc α} {w : World} {base n cap : Nat} {e : TypeId} {ad : Option Addr} {l : List α} (h : w.ownsRow base e E.k (.slice ad n cap) l.length (flat E l)) : QRow E w ad cap l := by
  obtain ⟨hn, hle, hmx, hz⟩ := own_len h
  have hr := RowE.of_own h
  refine ⟨by omega, hmx, hz, fun a e => ?_⟩
  rcases h.2 with ⟨h1, h2⟩ | ⟨g, cap', cur, h1, hg, hh, h3, h4, h5, h6⟩
  · simp only [Value.slice.injEq] at h1
    rw [h1.1] at e; cases e
  · simp only [Value.slice.injEq] at h1
    obtain ⟨rfl, rfl, rfl⟩ := h1
    simp only [Option.some.injEq] at e
    subst e
    refine ⟨g, 0, rfl, (Array.getElem?_eq_some_iff.1 hh).1, fun i hi => ?_, fun j hj => ⟨?_, frozen_of_row _ _ _ _ _ hh⟩⟩
    · rcases hr with h0 | ⟨b', off', e', hc⟩
      · rw [h0] at hi; cases hi
      · simp only [Option.some.injEq, Addr.mk.injEq, and_true] at e'
        obtain ⟨rfl, rfl⟩ := e'
        exact hc i hi
    · rw [Nat.zero_add, Obj.cell_at hh j, Array.getElem?_eq_getElem (by omega)]; rfl

theorem grown_setCells (b : Nat) : ∀ (vs : List Value) (o : Nat) (w : World), w.grownBy (w.setCells b o vs) (some b)
  | [], _, w => ⟨rfl, rfl, rfl, Nat.le_refl _, fun _ _ _ => rfl⟩
  | v :: r, o, w => World.grownBy.trans (b := w.setCell ⟨b, o, .none⟩ v) ⟨rfl, rfl, rfl, by simp [World.setCell], fun k hk hne => Below.heap_setCell _ _ _ _ (fun e => hne (by simp [e]))⟩ (grown_setCells b r (o + 1) _)

section
variable {P : Program} {t e : TypeId} {i : TypeInfo} {z : Value} {by' : Nat}
/-- 'append(q, l...)'. -/
theorem run_append_que {α : Type} (E : Enc α) (w : World) (ty : TypeId) (ht : P.underlying t = some (.slice e)) (hi : P.info? e = some i) (hz : i.zero = some z) (hsize : i.size = E.k) (hby : i.bytes = by') (hzs : z.cells.size = E.k)
    (ad : Option Addr) (cap : Nat) (l : List α) (h : QRow E w ad cap l) (a2 : Addr) (c : Nat) (l2 : List α) (hr : RowE E w (some a2) l2) (hlen : l.length + l2.length ≤ maxLen) (hbytes : (l.length + l2.length) * by' ≤ 140737488355328) :
    ∃ ad' cap' w', (Builtin.append_ #[t, t] ty #[.slice ad l.length cap, .slice (some a2) l2.length c]).run P w = .ok (.slice ad' (l.length + l2.length) cap') w' ∧ QRow E w' ad' cap' (l ++ l2) ∧ w.grownBy w' (ad.map (·.block)) ∧
      (∀ b o s, ad' = some ⟨b, o, s⟩ → (∃ o', ad = some ⟨b, o', .none⟩) ∨ w.heap.size ≤ b) := by
  by_cases hroom : l.length + l2.length ≤ cap ∧ 0 < cap
  · obtain ⟨hroom, hpos⟩ := hroom
    cases ad with
    | none => have := h.nil rfl; omega
    | some a =>
      obtain ⟨b, off, rfl, hb, hc, hsp⟩ := h.lies a rfl
      have hnl := flat_len E l2
      have hsp' : ∀ j, j < (flat E l2).length → (w.cell? ⟨b, off + l.length * i.size + j, .none⟩).isSome = true ∧ w.frozen? ⟨b, off + l.length * i.size + j, .none⟩ = false := fun j hj => by
        have hlt : l.length * E.k + j < cap * E.k := by
          have : (l.length + l2.length) * E.k ≤ cap * E.k := Nat.mul_le_mul_right _ hroom
          rw [Nat.add_mul] at this
          omega
        have := hsp (l.length * E.k + j) hlt
        rw [← Nat.add_assoc] at this
        rw [hsize]; exact this
      have hrun := run_append_room_cells (P := P) w t ty e i ht hi b off l.length cap a2 l2.length c (flat E l2) (by rw [hnl, hsize]) hr.news (flat_one E l2) hroom (fun j hj => (hsp' j hj).1) (fun j hj => (hsp' j hj).2)
      rw [hsize] at hrun
      refine ⟨some ⟨b, off, .none⟩, cap, _, hrun, ⟨by simpa using hroom, h.max, (fun e => by cases e), fun a e => ?_⟩, grown_setCells b _ _ w, fun b' o s e => .inl ?_⟩
      · simp only [Option.some.injEq] at e
        subst e
        have hin := World.cell?_setCells_in b (flat E l2) (off + l.length * E.k) w (fun j hj => by have := (hsp' j hj).1; rwa [hsize] at this)
        refine ⟨b, off, rfl, Nat.lt_of_lt_of_le hb (grown_setCells b _ _ w).size, fun i' hi' r u hu => ?_, fun j hj => ⟨?_, by rw [World.frozen?_setCells]; exact (hsp j hj).2⟩⟩
        · by_cases hlt : i' < l.length
          · rw [List.getElem_append_left hlt] at hu
            have hr' : r < E.k := by
              have := (List.getElem?_eq_some_iff.1 hu).1
              rwa [E.len] at this
            rw [World.cell?_setCells_out b _ _ _ _ (fun _ _ => Or.inl (by
              show off + i' * E.k + r < off + l.length * E.k
              have : (i' + 1) * E.k ≤ l.length * E.k := Nat.mul_le_mul_right _ hlt
              rw [Nat.add_mul] at this; omega))]
            exact hc i' hlt r u hu
          · rw [List.getElem_append_right (by omega)] at hu
            have hi2 : i' - l.length < l2.length := by simp at hi'; omega
            have hf := flat_of E l2 (i' - l.length) r hi2 u hu
            obtain ⟨hjl, hje⟩ := List.getElem?_eq_some_iff.1 hf
            have := hin _ hjl
            rw [hje] at this
            rw [← this]
            congr 2
            have e1 : i' * E.k = l.length * E.k + (i' - l.length) * E.k := by rw [← Nat.add_mul]; congr 1; omega
            rw [e1]; omega
        · by_cases hj2 : l.length * E.k ≤ j ∧ j < l.length * E.k + (flat E l2).length
          · have := hin (j - l.length * E.k) (by omega)
            rw [show off + j = off + l.length * E.k + (j - l.length * E.k) by omega, this]; rfl
          · rw [World.cell?_setCells_out b _ _ _ _ (fun _ _ => by show off + j < off + l.length * E.k ∨ off + l.length * E.k + (flat E l2).length ≤ off + j; omega)]
            exact (hsp j hj).1
      · simp only [Option.some.injEq, Addr.mk.injEq] at e
        exact ⟨off, by rw [e.1]⟩
  · have hlo := flat_len E l
    have key : ∃ v' w', (Builtin.append_ #[t, t] ty #[.slice ad l.length cap, .slice (some a2) l2.length c]).run P w = .ok v' w' ∧ ((w'.ownsRow w.heap.size e E.k v' (l.length + l2.length) (flat E l ++ flat E l2) ∧ w.grownBy w' .none) ∨ (v' = .slice ad 0 0 ∧ w' = w ∧ l = [] ∧ l2 = [] ∧ cap = 0)) := by
      cases ad with
      | none =>
        have h0 := h.nil rfl
        subst h0
        have hl0 : l = [] := List.eq_nil_iff_length_eq_zero.mpr (by have := h.le; omega)
        subst hl0
        obtain ⟨v', w', hrun, r1, r2, _⟩ := run_append_own (P := P) w w.heap.size t ty e i z E.k by' ht hi hz hsize hby hzs E.pos (.slice .none 0 0) 0 [] (World.ownsRow_nil w _ e E.k) a2 l2.length c (flat E l2) (flat_len E l2) hr.news (flat_one E l2) (by simpa using hlen) (by simpa using hbytes) (Nat.le_refl _)
        exact ⟨v', w', hrun, .inl ⟨by simpa [flat] using r1, r2⟩⟩
      | some a =>
        by_cases hz0 : cap < l.length + l2.length
        · obtain ⟨b, off, rfl, hb, hc, hsp⟩ := h.lies a rfl
          obtain ⟨v', w', hrun, r1, r2⟩ := run_append_arg_grows (P := P) w t ty e i z E.k by' ht hi hz hsize hby hzs E.pos ⟨b, off, .none⟩ l.length cap (flat E l) (flat_len E l) (fun j u hj => RowE.news (.inr ⟨b, off, rfl, hc⟩) j u hj) a2 l2.length c (flat E l2) (flat_len E l2) hr.news hz0 hlen hbytes
          exact ⟨v', w', hrun, .inl ⟨r1, r2⟩⟩
        · have hcap : cap = 0 := by omega
          subst hcap
          have hl0 : l = [] := List.eq_nil_iff_length_eq_zero.mpr (by omega)
          have hl2 : l2 = [] := List.eq_nil_iff_length_eq_zero.mpr (by omega)
          subst hl0 hl2
          obtain ⟨b, off, rfl, hb, hc, hsp⟩ := h.lies a rfl
          have hrun := run_append_room_cells (P := P) w t ty e i ht hi b off 0 0 a2 0 c [] (by simp) (fun j u hj => by simp at hj) (by simp) (Nat.le_refl _) (fun j hj => by simp at hj) (fun j hj => by simp at hj)
          exact ⟨_, _, hrun, .inr ⟨rfl, rfl, rfl, rfl, rfl⟩⟩
    obtain ⟨v', w', hrun, ⟨r1, r2⟩ | ⟨rfl, rfl, rfl, rfl, rfl⟩⟩ := key
    · obtain ⟨ad', cap', rfl⟩ : ∃ ad' cap', v' = .slice ad' (l.length + l2.length) cap' := by
        rcases r1.2 with ⟨rfl, hn⟩ | ⟨g, cap, cur, rfl, _⟩
        · exact ⟨.none, 0, by rw [hn]⟩
        · exact ⟨_, _, rfl⟩
      rw [← flat_append, ← List.length_append] at r1
      refine ⟨ad', cap', w', hrun, QRow.of_own r1, ⟨r2.os, r2.tape, r2.output, r2.size, fun k hk _ => r2.block k hk (by simp)⟩, fun b o s e => .inr ?_⟩
      exact (own_blk r1 b o s e).1
    · refine ⟨ad, 0, w', hrun, by simpa using h, ⟨rfl, rfl, rfl, Nat.le_refl _, fun _ _ _ => rfl⟩, fun b o s e => .inl ?_⟩
      obtain ⟨b', off, e', _⟩ := h.lies _ e
      rw [e, e']
      simp only [Addr.mk.injEq] at e'
      exact ⟨off, by rw [e'.1]⟩

variable {w : World} {ops : Array Oper} {o : Oper} {a : Act} {Q : Exit → Act → World → Prop}
/-- As a step of a region that draws its order. -/
theorem step_append_que {α : Type} (E : Enc α) {K : Act → World → Prop} {Ee : Prop} (ht : P.underlying t = some (.slice e)) (hi : P.info? e = some i) (hz : i.zero = some z) (hsize : i.size = E.k) (hby : i.bytes = by') (hzs : z.cells.size = E.k)
    (hgd : o.guard = none) (s x : Operand) (ho : o.op = .call { callee := .builtin .append, args := #[s, x], argTypes := #[t, t] })
    (ad : Option Addr) (n cap : Nat) (l : List α) (hs : a.eval s = .slice ad n cap) (hn : n = l.length) (h : QRow E w ad cap l)
    (a2 : Addr) (m : Nat) (l2 : List α) (c : Nat) (hx : a.eval x = .slice (some a2) m c) (hm : m = l2.length) (hr : RowE E w (some a2) l2)
    (hlen : n + m ≤ maxLen) (hbytes : (n + m) * by' ≤ 140737488355328)
    (hK : ∀ (ad' : Option Addr) (cap' : Nat) w', Hid (QRow E w' ad' cap' (l ++ l2)) → Hid (w.grownBy w' (ad.map (·.block))) → Hid (∀ b o s, ad' = some ⟨b, o, s⟩ → (∃ o', ad = some ⟨b, o', .none⟩) ∨ w.heap.size ≤ b) → K (a.put o.dst (.slice ad' (n + m) cap')) w') :
    if Region.wanted o (yielded ops a.tmps) = true then Oper.wp P o a w K Q else Ee := by
  have hw : Region.wanted o (yielded ops a.tmps) = true := by simp [Region.wanted, hgd]
  rw [if_pos hw]
  subst hn hm
  obtain ⟨ad', cap', w', hrun, h1, h2, h3⟩ := run_append_que E w o.type ht hi hz hsize hby hzs ad cap l h a2 c l2 hr hlen hbytes
  unfold Oper.wp
  simp [execOp, ho, resolve, invoke, builtin, hs, hx, hrun, Result.andThen]
  exact hK _ _ _ (Lib.hid h1) (Lib.hid h2) (Lib.hid h3)
end
end Rw
end Go.Proofs.YtdkgachgohilcaaDoor
