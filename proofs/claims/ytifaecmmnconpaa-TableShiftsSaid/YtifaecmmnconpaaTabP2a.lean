/- Layer 4: the program's drop: what turns in its midst, and at its end. -/
import Derived.Test.YtifaecmmnconpaaTabP1
import Derived.WalkKit
import Derived.WalkSpells
import Derived.WalkLawsBesides
import Derived.Lib.Hide
import Derived.Outline
import Derived.RegionTactic
import Derived.BigRegion
import Derived.BigQuiet
import Derived.IntWalk
import Derived.Deep.RegionLaw
import Derived.Deep.RegionWith
import Derived.Deep.RegionHeld3
import Derived.Deep.Cut
namespace Go.Proofs.Ytifaecmmnconpaa
open Go.RowKit
open Arg Tab Mem Go.Proofs.Ytifaecmmnconpaa.Obj
set_option linter.unusedVariables false

/-- In the midst of drop: only the maps have turned; the oldest row lies in a block of its own. -/
structure Mid (w0 : World) (L : List Nat) (bk1 bk2 rb n1 n2 : Nat) (rn rv : ByteArray) (h1 : ByteArray × ByteArray → Option Nat) (h2 : ByteArray → Option Nat) (w : World) : Prop where
  kept : Kept L w0 w
  old : ∀ k, k < w0.heap.size → k ≠ bk1 → k ≠ bk2 → w.heap[k]? = w0.heap[k]?
  box : w.heap[rb]? = some (.cells #[.string rn, .string rv] 58 (0, 0))
  m1 : MRow w bk1 n1 h1
  m2 : MNam w bk2 n2 h2
  ne : rb ≠ bk1 ∧ rb ≠ bk2 ∧ bk1 ≠ bk2 ∧ bk1 ∈ L ∧ bk2 ∈ L
section
variable {w0 w w' : World} {L : List Nat} {bk1 bk2 rb n1 n2 : Nat} {rn rv : ByteArray} {h1 : ByteArray × ByteArray → Option Nat} {h2 : ByteArray → Option Nat}
theorem Mid.drew (h : Mid w0 L bk1 bk2 rb n1 n2 rn rv h1 h2 w) : Mid w0 L bk1 bk2 rb n1 n2 rn rv h1 h2 w.drew :=
  ⟨h.kept.drew, h.old, h.box, h.m1, h.m2, h.ne⟩
theorem Mid.turn1 (h : Mid w0 L bk1 bk2 rb n1 n2 rn rv h1 h2 w) {h1' : ByteArray × ByteArray → Option Nat} (ht : w.mapTurned w' bk1) (hm : MRow w' bk1 n1 h1') : Mid w0 L bk1 bk2 rb n1 n2 rn rv h1' h2 w' := by
  obtain ⟨n1', n2', n3, n4, n5⟩ := h.ne
  refine ⟨Mp.turned_kept h.kept ht (.inl n4), fun k hk e1 e2 => ?_, ?_, hm, h.m2.block (Mp.turned_block ht h.m2.lt n3.symm), h.ne⟩
  · rw [Mp.turned_block ht (Nat.lt_of_lt_of_le hk h.kept.size) e1]; exact h.old k hk e1 e2
  · rw [Mp.turned_block ht (Array.getElem?_eq_some_iff.1 h.box).1 n1']; exact h.box
theorem Mid.turn2 (h : Mid w0 L bk1 bk2 rb n1 n2 rn rv h1 h2 w) {h2' : ByteArray → Option Nat} (ht : w.mapTurned w' bk2) (hm : MNam w' bk2 n2 h2') : Mid w0 L bk1 bk2 rb n1 n2 rn rv h1 h2' w' := by
  obtain ⟨n1', n2', n3, n4, n5⟩ := h.ne
  refine ⟨Mp.turned_kept h.kept ht (.inl n5), fun k hk e1 e2 => ?_, ?_, h.m1.block (Mp.turned_block ht h.m1.lt n3), hm, h.ne⟩
  · rw [Mp.turned_block ht (Nat.lt_of_lt_of_le hk h.kept.size) e2]; exact h.old k hk e1 e2
  · rw [Mp.turned_block ht (Array.getElem?_eq_some_iff.1 h.box).1 n2']; exact h.box
theorem Mid.congr (h : Mid w0 L bk1 bk2 rb n1 n2 rn rv h1 h2 w) {h1' : ByteArray × ByteArray → Option Nat} {h2' : ByteArray → Option Nat} (e1 : ∀ x, h1' x = h1 x) (e2 : ∀ x, h2' x = h2 x) : Mid w0 L bk1 bk2 rb n1 n2 rn rv h1' h2' w := by
  obtain rfl : h1' = h1 := funext e1
  obtain rfl : h2' = h2 := funext e2
  exact h
theorem Mid.look1 (h : Mid w0 L bk1 bk2 rb n1 n2 rn rv h1 h2 w) (hok : okRow (rn, rv)) {k : Nat} (hk : h1 (rn, rv) = some k) :
    (Instr.lookup 51 (.map (some bk1)) (.agg #[.string rn, .string rv]) false).run Try.prog w = .ok (.int .i64 k) w := by
  have := Mp.MapF.look h.m1 keysRow Try.underlying51 (zero_int w) hok
  simpa [ecRow, inV, hk] using this
theorem Mid.look2 (h : Mid w0 L bk1 bk2 rb n1 n2 rn rv h1 h2 w) (hok : okNam rn) {k : Nat} (hk : h2 rn = some k) :
    (Instr.lookup 52 (.map (some bk2)) (.string rn) false).run Try.prog w = .ok (.int .i64 k) w := by
  have := Mp.MapF.look h.m2 keysNam Try.underlying52 (zero_int w) hok
  simpa [ecNam, inV, hk] using this
theorem inV_drop {κ : Type} [DecidableEq κ] (h : κ → Option Nat) (x : κ) : (fun y => if y = x then none else inV h y) = inV (fun y => if y = x then none else h y) := by
  funext y; by_cases e : y = x <;> simp [inV, e]
theorem inV_store {κ : Type} [DecidableEq κ] (h : κ → Option Nat) (x : κ) (k : Nat) : (fun y => if y = x then some (Value.int .i64 k) else inV h y) = inV (fun y => if y = x then some k else h y) := by
  funext y; by_cases e : y = x <;> simp [inV, e]
theorem Mid.drop1 (h : Mid w0 L bk1 bk2 rb n1 n2 rn rv h1 h2 w) (hok : okRow (rn, rv)) (ty : TypeId) :
    ∃ w', (Builtin.delete_ #[51, 58] ty #[.map (some bk1), .agg #[.string rn, .string rv]]).run Try.prog w = .ok (.tuple #[]) w' ∧ Mid w0 L bk1 bk2 rb n1 n2 rn rv (fun y => if y = (rn, rv) then none else h1 y) h2 w' := by
  obtain ⟨w', hrun, hm, ht⟩ := Mp.MapF.drop h.m1 keysRow Try.underlying51 hok ty
  rw [inV_drop] at hm
  exact ⟨w', hrun, h.turn1 ht hm⟩
theorem Mid.drop2 (h : Mid w0 L bk1 bk2 rb n1 n2 rn rv h1 h2 w) (hok : okNam rn) (ty : TypeId) :
    ∃ w', (Builtin.delete_ #[52, 9] ty #[.map (some bk2), .string rn]).run Try.prog w = .ok (.tuple #[]) w' ∧ Mid w0 L bk1 bk2 rb n1 n2 rn rv h1 (fun y => if y = rn then none else h2 y) w' := by
  obtain ⟨w', hrun, hm, ht⟩ := Mp.MapF.drop h.m2 keysNam Try.underlying52 hok ty
  rw [inV_drop] at hm
  exact ⟨w', hrun, h.turn2 ht hm⟩
theorem Mid.cell (h : Mid w0 L bk1 bk2 rb n1 n2 rn rv h1 h2 w) {k : Nat} (hk : k < w0.heap.size) (e1 : k ≠ bk1) (e2 : k ≠ bk2) (o : Nat) : w.cell? ⟨k, o, none⟩ = w0.cell? ⟨k, o, none⟩ :=
  World.cell?_of_block (a := ⟨k, o, none⟩) (h.old k hk e1 e2)
end

/-- The oldest row's cells are struck, the slice begins behind it. -/
theorem drop_cells {w0 w : World} {L : List Nat} {bk1 bk2 rb n1 n2 : Nat} {rn rv : ByteArray} {h1 : ByteArray × ByteArray → Option Nat} {h2 : ByteArray → Option Nat} (hM : Mid w0 L bk1 bk2 rb n1 n2 rn rv h1 h2 w)
    {g bl off cap : Nat} {x0 x1 x2 x3 x4 x5 : Value} {t : TypeId} {l : List FdM} {x : FdM} (hg : g ∈ L) (hb : bl ∈ L) (hgl : g < w0.heap.size) (hg1 : g ≠ bk1) (hg2 : g ≠ bk2) (hbl : bl < w0.heap.size) (hbl1 : bl ≠ bk1) (hbl2 : bl ≠ bk2) (hbg : bl ≠ g) (hrb : w0.heap.size ≤ rb)
    (hh : w0.heap[g]? = some (.cells #[x0, x1, x2, x3, x4, x5] t (0, 0))) (hq : Rw.QRow EPr w0 (some ⟨bl, off, none⟩) cap (x :: l)) (v u1 u2 : Value) :
    ∀ W, W = ((w.setCell ⟨bl, off, none⟩ u1).setCell ⟨bl, off + 1, none⟩ u2).setCell ⟨g, 2, none⟩ v →
      Kept L w0 W ∧ W.heap[g]? = some (.cells #[x0, x1, v, x3, x4, x5] t (0, 0)) ∧ Rw.QRow EPr W (if 1 < cap then some ⟨bl, off + 2, none⟩ else some ⟨bl, off, none⟩) (cap - 1) l ∧
      W.heap[rb]? = some (.cells #[.string rn, .string rv] 58 (0, 0)) ∧ MRow W bk1 n1 h1 ∧ MNam W bk2 n2 h2 := by
  rintro W rfl
  have hs : (((w.setCell ⟨bl, off, none⟩ u1).setCell ⟨bl, off + 1, none⟩ u2).setCell ⟨g, 2, none⟩ v).heap.size = w.heap.size := by simp [World.setCell]
  have hblk : ∀ k, k ≠ bl → ((w.setCell ⟨bl, off, none⟩ u1).setCell ⟨bl, off + 1, none⟩ u2).heap[k]? = w.heap[k]? := fun k hk => by
    rw [Below.heap_setCell _ _ _ _ hk, Below.heap_setCell _ _ _ _ hk]
  have hblk2 : ∀ k, k ≠ bl → k ≠ g → (((w.setCell ⟨bl, off, none⟩ u1).setCell ⟨bl, off + 1, none⟩ u2).setCell ⟨g, 2, none⟩ v).heap[k]? = w.heap[k]? := fun k hk hk2 => by
    rw [Below.heap_setCell _ _ _ _ hk2]; exact hblk k hk
  obtain ⟨r1, r2, r3, r4, r5⟩ := hM.ne
  have hgw : ((w.setCell ⟨bl, off, none⟩ u1).setCell ⟨bl, off + 1, none⟩ u2).heap[g]? = some (.cells #[x0, x1, x2, x3, x4, x5] t (0, 0)) := by
    rw [hblk g (fun e => hbg e.symm), hM.old g hgl hg1 hg2]; exact hh
  refine ⟨((hM.kept.setCell (.inl hb) _).setCell (.inl hb) _).setCell (.inl hg) _, heap_setCell_same _ g 2 _ t v hgw, ⟨?_, ?_, ?_, ?_⟩, ?_, ?_, ?_⟩
  · have := hq.le; simp at this; omega
  · have := hq.max; omega
  · intro h; split at h <;> cases h
  · intro a ha
    obtain ⟨b', off', e', hb', hc, hsp⟩ := hq.lies _ rfl
    simp only [Addr.mk.injEq, and_true] at e'
    obtain ⟨rfl, rfl⟩ := e'
    have hle := hq.le
    simp only [List.length_cons] at hle
    have hcell : ∀ o, o ≠ off → o ≠ off + 1 → (((w.setCell ⟨bl, off, none⟩ u1).setCell ⟨bl, off + 1, none⟩ u2).setCell ⟨g, 2, none⟩ v).cell? ⟨bl, o, none⟩ = w0.cell? ⟨bl, o, none⟩ := fun o h1 h2 => by
      rw [World.cell?_setCell_other _ _ _ _ (by intro e; simp only [Addr.mk.injEq] at e; exact hbg e.1.symm), World.cell?_setCell_other _ _ _ _ (by intro e; simp only [Addr.mk.injEq] at e; omega), World.cell?_setCell_other _ _ _ _ (by intro e; simp only [Addr.mk.injEq] at e; omega)]
      exact hM.cell hbl hbl1 hbl2 o
    have hfz : ∀ o, (((w.setCell ⟨bl, off, none⟩ u1).setCell ⟨bl, off + 1, none⟩ u2).setCell ⟨g, 2, none⟩ v).frozen? ⟨bl, o, none⟩ = w0.frozen? ⟨bl, o, none⟩ := fun o => by
      rw [World.frozen?_setCell, World.frozen?_setCell, World.frozen?_setCell]
      exact World.frozen?_of_block (a := ⟨bl, o, none⟩) (hM.old bl hbl hbl1 hbl2)
    have hbs := hM.kept.size
    by_cases h1c : 1 < cap
    · rw [if_pos h1c] at ha
      simp only [Option.some.injEq] at ha
      subst ha
      refine ⟨bl, off + 2, rfl, by omega, fun i hi r u hu => ?_, fun j hj => ?_⟩
      · rw [hcell _ (by omega) (by omega)]
        have := hc (i + 1) (by simpa using hi) r u (by simpa using hu)
        rw [← this]
        congr 2
        show off + 2 + i * 2 + r = off + (i + 1) * 2 + r
        omega
      · have hj' : j < (cap - 1) * 2 := hj
        rw [hcell _ (by omega) (by omega), hfz]
        have := hsp (2 + j) (by show 2 + j < cap * 2; omega)
        rwa [show off + (2 + j) = off + 2 + j by omega] at this
    · rw [if_neg h1c] at ha
      simp only [Option.some.injEq] at ha
      subst ha
      refine ⟨bl, off, rfl, by omega, fun i hi => by omega, fun j hj => ?_⟩
      have hj' : j < (cap - 1) * 2 := hj
      omega
  · have hlt := (Array.getElem?_eq_some_iff.1 hM.box).1
    rw [hblk2 rb (by omega) (by omega)]; exact hM.box
  · exact hM.m1.block (hblk2 bk1 (fun e => hbl1 e.symm) (fun e => hg1 e.symm))
  · exact hM.m2.block (hblk2 bk2 (fun e => hbl2 e.symm) (fun e => hg2 e.symm))

/-- What is left to say behind the last store. -/
theorem drop_end {w we : World} {L : List Nat} {g m c c0 cap bk1 bk2 n1 n2 s : Nat} {ad : Option Addr} {rows : List FdM} (hk : ∀ k ∈ L, k < w.heap.size) (hg : g ∈ L) (hb1 : bk1 ∈ L) (hb2 : bk2 ∈ L) (hgb1 : g ≠ bk1) (hgb2 : g ≠ bk2) (hbb : bk1 ≠ bk2) (ha : ∀ b o s, ad = some ⟨b, o, s⟩ → b ∈ L ∧ b ≠ g ∧ b ≠ bk1 ∧ b ≠ bk2)
    (hK : Kept L w we) (hh : we.heap[g]? = some (.cells #[.int .i64 m, .int .i64 s, .slice ad rows.length cap, .int .i64 c0, .map (some bk1), .map (some bk2)] 55 (0, 0))) (hq : Rw.QRow EPr we ad cap rows.reverse) (hm1 : MRow we bk1 n1 (fun x => plc nmV x rows c0)) (hm2 : MNam we bk2 n2 (fun x => plc (·.name) x rows c0))
    (hl : rows.length ≤ c0) (hc1 : c0 ≤ 1000000) (hr : ∀ x ∈ rows, x.never = false ∧ cost x ≤ 65536) (hc0 : c0 ≤ c) (hn1 : n1 ≤ c) (hn2 : n2 ≤ c) (hm : m ≤ 65536) (hs : csum rows ≤ 65536) :
    ∀ w2, Below we.heap.size we w2 → PTs (w2.setCell ⟨g, 1, none⟩ (.int .i64 (csum rows))) L g m rows c ∧ Kept L w (w2.setCell ⟨g, 1, none⟩ (.int .i64 (csum rows))) := by
  intro w2 b2
  have hks := hK.size
  have hbs := b2.size
  have hh2 := block_below b2 hh
  have hset := heap_setCell_same w2 g 1 _ _ (.int .i64 (csum rows)) hh2
  have hsz : (w2.setCell ⟨g, 1, none⟩ (.int .i64 (csum rows))).heap.size = w2.heap.size := by simp [World.setCell]
  have hoth : ∀ k, k ≠ g → k < we.heap.size → (w2.setCell ⟨g, 1, none⟩ (.int .i64 (csum rows))).heap[k]? = we.heap[k]? := fun k hkg hk => by
    rw [Below.heap_setCell _ _ _ _ hkg]; exact b2.block k hk
  have hlt : ∀ k ∈ L, k < we.heap.size := fun k h => Nat.lt_of_lt_of_le (hk k h) hks
  exact ⟨⟨c0, ad, cap, bk1, bk2, n1, n2, ⟨⟨hg, hb1, hb2, hgb1, hgb2, hbb, fun k h => by rw [hsz]; exact Nat.lt_of_lt_of_le (hlt k h) hbs, ha⟩, hset,
    hq.block (by rw [hsz]; exact hbs) (fun b o s e => hoth b (ha b o s e).2.1 (hlt b (ha b o s e).1)), hm1.block (hoth bk1 (fun e => hgb1 e.symm) (hlt bk1 hb1)), hm2.block (hoth bk2 (fun e => hgb2 e.symm) (hlt bk2 hb2)), hl, hc1, hr⟩, hc0, hn1, hn2, hm, hs⟩,
    (hK.then b2).setCell (.inl hg) _⟩
end Go.Proofs.Ytifaecmmnconpaa
