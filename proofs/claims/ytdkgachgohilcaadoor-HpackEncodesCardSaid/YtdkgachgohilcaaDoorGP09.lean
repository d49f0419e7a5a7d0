/- Layer 4: the program's drop: what turns in its midst, and at its end. Layer 4: the program's drop: the oldest row goes. (One declaration for each statement: a walk's term is dear where it is long.) -/
import Derived.Test.YtdkgachgohilcaaDoorGP08
import Derived.WalkKit
import Derived.WalkSpells
import Derived.WalkLawsBesides
import Derived.Lib.Hide
import Derived.Outline
import Derived.RegionTactic
import Derived.BigRegion
import Derived.BigQuiet
import Derived.IntWalk
import Derived.Deep.RegionLaw
import Derived.Deep.RegionWith
import Derived.Deep.RegionHeld3
import Derived.Deep.Cut
set_option linter.unusedVariables false
set_option linter.unusedSimpArgs false
namespace Go.Proofs.YtdkgachgohilcaaDoor
open Go.RowKit
open Arg Tab Mem Go.Proofs.YtdkgachgohilcaaDoor.Obj
set_option linter.unusedVariables false

/-- In the midst of drop: only the maps have turned; the oldest row lies in a block of its own. -/
structure Mid (w0 : World) (L : List Nat) (bk1 bk2 rb n1 n2 : Nat) (rn rv : ByteArray) (h1 : ByteArray × ByteArray → Option Nat) (h2 : ByteArray → Option Nat) (w : World) : Prop where
  kept : Kept L w0 w
  old : ∀ k, k < w0.heap.size → k ≠ bk1 → k ≠ bk2 → w.heap[k]? = w0.heap[k]?
  box : w.heap[rb]? = some (.cells #[.string rn, .string rv] 118 (0, 0))
  m1 : MRow w bk1 n1 h1
  m2 : MNam w bk2 n2 h2
  ne : rb ≠ bk1 ∧ rb ≠ bk2 ∧ bk1 ≠ bk2 ∧ bk1 ∈ L ∧ bk2 ∈ L
section
variable {w0 w w' : World} {L : List Nat} {bk1 bk2 rb n1 n2 : Nat} {rn rv : ByteArray} {h1 : ByteArray × ByteArray → Option Nat} {h2 : ByteArray → Option Nat}
theorem Mid.drew (h : Mid w0 L bk1 bk2 rb n1 n2 rn rv h1 h2 w) : Mid w0 L bk1 bk2 rb n1 n2 rn rv h1 h2 w.drew :=
  ⟨h.kept.drew, h.old, h.box, h.m1, h.m2, h.ne⟩
theorem Mid.turn1 (h : Mid w0 L bk1 bk2 rb n1 n2 rn rv h1 h2 w) {h1' : ByteArray × ByteArray → Option Nat} (ht : w.mapTurned w' bk1) (hm : MRow w' bk1 n1 h1') : Mid w0 L bk1 bk2 rb n1 n2 rn rv h1' h2 w' := by
  obtain ⟨n1', n2', n3, n4, n5⟩ := h.ne
  refine ⟨Mp.turned_kept h.kept ht (.inl n4), fun k hk e1 e2 => ?_, ?_, hm, h.m2.block (Mp.turned_block ht h.m2.lt n3.symm), h.ne⟩
  · rw [Mp.turned_block ht (Nat.lt_of_lt_of_le hk h.kept.size) e1]; exact h.old k hk e1 e2
  · rw [Mp.turned_block ht (Array.getElem?_eq_some_iff.1 h.box).1 n1']; exact h.box
theorem Mid.turn2 (h : Mid w0 L bk1 bk2 rb n1 n2 rn rv h1 h2 w) {h2' : ByteArray → Option Nat} (ht : w.mapTurned w' bk2) (hm : MNam w' bk2 n2 h2') : Mid w0 L bk1 bk2 rb n1 n2 rn rv h1 h2' w' := by
  obtain ⟨n1', n2', n3, n4, n5⟩ := h.ne
  refine ⟨Mp.turned_kept h.kept ht (.inl n5), fun k hk e1 e2 => ?_, ?_, h.m1.block (Mp.turned_block ht h.m1.lt n3), hm, h.ne⟩
  · rw [Mp.turned_block ht (Nat.lt_of_lt_of_le hk h.kept.size) e2]; exact h.old k hk e1 e2
  · rw [Mp.turned_block ht (Array.getElem?_eq_some_iff.1 h.box).1 n2']; exact h.box
theorem Mid.congr (h : Mid w0 L bk1 bk2 rb n1 n2 rn rv h1 h2 w) {h1' : ByteArray × ByteArray → Option Nat} {h2' : ByteArray → Option Nat} (e1 : ∀ x, h1' x = h1 x) (e2 : ∀ x, h2' x = h2 x) : Mid w0 L bk1 bk2 rb n1 n2 rn rv h1' h2' w := by
  obtain rfl : h1' = h1 := funext e1
  obtain rfl : h2' = h2 := funext e2
  exact h
theorem Mid.look1 (h : Mid w0 L bk1 bk2 rb n1 n2 rn rv h1 h2 w) (hok : okRow (rn, rv)) {k : Nat} (hk : h1 (rn, rv) = some k) :
    (Instr.lookup 94 (.map (some bk1)) (.agg #[.string rn, .string rv]) false).run Tryd.prog w = .ok (.int .i64 k) w := by
  have := Mp.MapF.look h.m1 keysRow Tryd.underlying94 (zero_int w) hok
  simpa [ecRow, inV, hk] using this
theorem Mid.look2 (h : Mid w0 L bk1 bk2 rb n1 n2 rn rv h1 h2 w) (hok : okNam rn) {k : Nat} (hk : h2 rn = some k) :
    (Instr.lookup 95 (.map (some bk2)) (.string rn) false).run Tryd.prog w = .ok (.int .i64 k) w := by
  have := Mp.MapF.look h.m2 keysNam Tryd.underlying95 (zero_int w) hok
  simpa [ecNam, inV, hk] using this
theorem inV_drop {κ : Type} [DecidableEq κ] (h : κ → Option Nat) (x : κ) : (fun y => if y = x then none else inV h y) = inV (fun y => if y = x then none else h y) := by
  funext y; by_cases e : y = x <;> simp [inV, e]
theorem inV_store {κ : Type} [DecidableEq κ] (h : κ → Option Nat) (x : κ) (k : Nat) : (fun y => if y = x then some (Value.int .i64 k) else inV h y) = inV (fun y => if y = x then some k else h y) := by
  funext y; by_cases e : y = x <;> simp [inV, e]
theorem Mid.drop1 (h : Mid w0 L bk1 bk2 rb n1 n2 rn rv h1 h2 w) (hok : okRow (rn, rv)) (ty : TypeId) :
    ∃ w', (Builtin.delete_ #[94, 118] ty #[.map (some bk1), .agg #[.string rn, .string rv]]).run Tryd.prog w = .ok (.tuple #[]) w' ∧ Mid w0 L bk1 bk2 rb n1 n2 rn rv (fun y => if y = (rn, rv) then none else h1 y) h2 w' := by
  obtain ⟨w', hrun, hm, ht⟩ := Mp.MapF.drop h.m1 keysRow Tryd.underlying94 hok ty
  rw [inV_drop] at hm
  exact ⟨w', hrun, h.turn1 ht hm⟩
theorem Mid.drop2 (h : Mid w0 L bk1 bk2 rb n1 n2 rn rv h1 h2 w) (hok : okNam rn) (ty : TypeId) :
    ∃ w', (Builtin.delete_ #[95, 9] ty #[.map (some bk2), .string rn]).run Tryd.prog w = .ok (.tuple #[]) w' ∧ Mid w0 L bk1 bk2 rb n1 n2 rn rv h1 (fun y => if y = rn then none else h2 y) w' := by
  obtain ⟨w', hrun, hm, ht⟩ := Mp.MapF.drop h.m2 keysNam Tryd.underlying95 hok ty
  rw [inV_drop] at hm
  exact ⟨w', hrun, h.turn2 ht hm⟩
theorem Mid.cell (h : Mid w0 L bk1 bk2 rb n1 n2 rn rv h1 h2 w) {k : Nat} (hk : k < w0.heap.size) (e1 : k ≠ bk1) (e2 : k ≠ bk2) (o : Nat) : w.cell? ⟨k, o, none⟩ = w0.cell? ⟨k, o, none⟩ :=
  World.cell?_of_block (a := ⟨k, o, none⟩) (h.old k hk e1 e2)
end

/-- The oldest row's cells are struck, the slice begins behind it. -/
theorem drop_cells {w0 w : World} {L : List Nat} {bk1 bk2 rb n1 n2 : Nat} {rn rv : ByteArray} {h1 : ByteArray × ByteArray → Option Nat} {h2 : ByteArray → Option Nat} (hM : Mid w0 L bk1 bk2 rb n1 n2 rn rv h1 h2 w)
    {g bl off cap : Nat} {x0 x1 x2 x3 x4 x5 : Value} {t : TypeId} {l : List FdM} {x : FdM} (hg : g ∈ L) (hb : bl ∈ L) (hgl : g < w0.heap.size) (hg1 : g ≠ bk1) (hg2 : g ≠ bk2) (hbl : bl < w0.heap.size) (hbl1 : bl ≠ bk1) (hbl2 : bl ≠ bk2) (hbg : bl ≠ g) (hrb : w0.heap.size ≤ rb)
    (hh : w0.heap[g]? = some (.cells #[x0, x1, x2, x3, x4, x5] t (0, 0))) (hq : Rw.QRow EPr w0 (some ⟨bl, off, none⟩) cap (x :: l)) (v u1 u2 : Value) :
    ∀ W, W = ((w.setCell ⟨bl, off, none⟩ u1).setCell ⟨bl, off + 1, none⟩ u2).setCell ⟨g, 2, none⟩ v →
      Kept L w0 W ∧ W.heap[g]? = some (.cells #[x0, x1, v, x3, x4, x5] t (0, 0)) ∧ Rw.QRow EPr W (if 1 < cap then some ⟨bl, off + 2, none⟩ else some ⟨bl, off, none⟩) (cap - 1) l ∧
      W.heap[rb]? = some (.cells #[.string rn, .string rv] 118 (0, 0)) ∧ MRow W bk1 n1 h1 ∧ MNam W bk2 n2 h2 := by
  rintro W rfl
  have hs : (((w.setCell ⟨bl, off, none⟩ u1).setCell ⟨bl, off + 1, none⟩ u2).setCell ⟨g, 2, none⟩ v).heap.size = w.heap.size := by simp [World.setCell]
  have hblk : ∀ k, k ≠ bl → ((w.setCell ⟨bl, off, none⟩ u1).setCell ⟨bl, off + 1, none⟩ u2).heap[k]? = w.heap[k]? := fun k hk => by
    rw [Below.heap_setCell _ _ _ _ hk, Below.heap_setCell _ _ _ _ hk]
  have hblk2 : ∀ k, k ≠ bl → k ≠ g → (((w.setCell ⟨bl, off, none⟩ u1).setCell ⟨bl, off + 1, none⟩ u2).setCell ⟨g, 2, none⟩ v).heap[k]? = w.heap[k]? := fun k hk hk2 => by
    rw [Below.heap_setCell _ _ _ _ hk2]; exact hblk k hk
  obtain ⟨r1, r2, r3, r4, r5⟩ := hM.ne
  have hgw : ((w.setCell ⟨bl, off, none⟩ u1).setCell ⟨bl, off + 1, none⟩ u2).heap[g]? = some (.cells #[x0, x1, x2, x3, x4, x5] t (0, 0)) := by
    rw [hblk g (fun e => hbg e.symm), hM.old g hgl hg1 hg2]; exact hh
  refine ⟨((hM.kept.setCell (.inl hb) _).setCell (.inl hb) _).setCell (.inl hg) _, heap_setCell_same _ g 2 _ t v hgw, ⟨?_, ?_, ?_, ?_⟩, ?_, ?_, ?_⟩
  · have := hq.le; simp at this; omega
  · have := hq.max; omega
  · intro h; split at h <;> cases h
  · intro a ha
    obtain ⟨b', off', e', hb', hc, hsp⟩ := hq.lies _ rfl
    simp only [Addr.mk.injEq, and_true] at e'
    obtain ⟨rfl, rfl⟩ := e'
    have hle := hq.le
    simp only [List.length_cons] at hle
    have hcell : ∀ o, o ≠ off → o ≠ off + 1 → (((w.setCell ⟨bl, off, none⟩ u1).setCell ⟨bl, off + 1, none⟩ u2).setCell ⟨g, 2, none⟩ v).cell? ⟨bl, o, none⟩ = w0.cell? ⟨bl, o, none⟩ := fun o h1 h2 => by
      rw [World.cell?_setCell_other _ _ _ _ (by intro e; simp only [Addr.mk.injEq] at e; exact hbg e.1.symm), World.cell?_setCell_other _ _ _ _ (by intro e; simp only [Addr.mk.injEq] at e; omega), World.cell?_setCell_other _ _ _ _ (by intro e; simp only [Addr.mk.injEq] at e; omega)]
      exact hM.cell hbl hbl1 hbl2 o
    have hfz : ∀ o, (((w.setCell ⟨bl, off, none⟩ u1).setCell ⟨bl, off + 1, none⟩ u2).setCell ⟨g, 2, none⟩ v).frozen? ⟨bl, o, none⟩ = w0.frozen? ⟨bl, o, none⟩ := fun o => by
      rw [World.frozen?_setCell, World.frozen?_setCell, World.frozen?_setCell]
      exact World.frozen?_of_block (a := ⟨bl, o, none⟩) (hM.old bl hbl hbl1 hbl2)
    have hbs := hM.kept.size
    by_cases h1c : 1 < cap
    · rw [if_pos h1c] at ha
      simp only [Option.some.injEq] at ha
      subst ha
      refine ⟨bl, off + 2, rfl, by omega, fun i hi r u hu => ?_, fun j hj => ?_⟩
      · rw [hcell _ (by omega) (by omega)]
        have := hc (i + 1) (by simpa using hi) r u (by simpa using hu)
        rw [← this]
        congr 2
        show off + 2 + i * 2 + r = off + (i + 1) * 2 + r
        omega
      · have hj' : j < (cap - 1) * 2 := hj
        rw [hcell _ (by omega) (by omega), hfz]
        have := hsp (2 + j) (by show 2 + j < cap * 2; omega)
        rwa [show off + (2 + j) = off + 2 + j by omega] at this
    · rw [if_neg h1c] at ha
      simp only [Option.some.injEq] at ha
      subst ha
      refine ⟨bl, off, rfl, by omega, fun i hi => by omega, fun j hj => ?_⟩
      have hj' : j < (cap - 1) * 2 := hj
      omega
  · have hlt := (Array.getElem?_eq_some_iff.1 hM.box).1
    rw [hblk2 rb (by omega) (by omega)]; exact hM.box
  · exact hM.m1.block (hblk2 bk1 (fun e => hbl1 e.symm) (fun e => hg1 e.symm))
  · exact hM.m2.block (hblk2 bk2 (fun e => hbl2 e.symm) (fun e => hg2 e.symm))

/-- What is left to say behind the last store. -/
theorem drop_end {w we : World} {L : List Nat} {g m c c0 cap bk1 bk2 n1 n2 s : Nat} {ad : Option Addr} {rows : List FdM} (hk : ∀ k ∈ L, k < w.heap.size) (hg : g ∈ L) (hb1 : bk1 ∈ L) (hb2 : bk2 ∈ L) (hgb1 : g ≠ bk1) (hgb2 : g ≠ bk2) (hbb : bk1 ≠ bk2) (ha : ∀ b o s, ad = some ⟨b, o, s⟩ → b ∈ L ∧ b ≠ g ∧ b ≠ bk1 ∧ b ≠ bk2)
    (hK : Kept L w we) (hh : we.heap[g]? = some (.cells #[.int .i64 m, .int .i64 s, .slice ad rows.length cap, .int .i64 c0, .map (some bk1), .map (some bk2)] 98 (0, 0))) (hq : Rw.QRow EPr we ad cap rows.reverse) (hm1 : MRow we bk1 n1 (fun x => plc nmV x rows c0)) (hm2 : MNam we bk2 n2 (fun x => plc (·.name) x rows c0))
    (hl : rows.length ≤ c0) (hc1 : c0 ≤ 1000000) (hr : ∀ x ∈ rows, x.never = false ∧ cost x ≤ 65536) (hc0 : c0 ≤ c) (hn1 : n1 ≤ c) (hn2 : n2 ≤ c) (hm : m ≤ 65536) (hs : csum rows ≤ 65536) :
    ∀ w2, Below we.heap.size we w2 → PTs (w2.setCell ⟨g, 1, none⟩ (.int .i64 (csum rows))) L g m rows c ∧ Kept L w (w2.setCell ⟨g, 1, none⟩ (.int .i64 (csum rows))) := by
  intro w2 b2
  have hks := hK.size
  have hbs := b2.size
  have hh2 := block_below b2 hh
  have hset := heap_setCell_same w2 g 1 _ _ (.int .i64 (csum rows)) hh2
  have hsz : (w2.setCell ⟨g, 1, none⟩ (.int .i64 (csum rows))).heap.size = w2.heap.size := by simp [World.setCell]
  have hoth : ∀ k, k ≠ g → k < we.heap.size → (w2.setCell ⟨g, 1, none⟩ (.int .i64 (csum rows))).heap[k]? = we.heap[k]? := fun k hkg hk => by
    rw [Below.heap_setCell _ _ _ _ hkg]; exact b2.block k hk
  have hlt : ∀ k ∈ L, k < we.heap.size := fun k h => Nat.lt_of_lt_of_le (hk k h) hks
  exact ⟨⟨c0, ad, cap, bk1, bk2, n1, n2, ⟨⟨hg, hb1, hb2, hgb1, hgb2, hbb, fun k h => by rw [hsz]; exact Nat.lt_of_lt_of_le (hlt k h) hbs, ha⟩, hset,
    hq.block (by rw [hsz]; exact hbs) (fun b o s e => hoth b (ha b o s e).2.1 (hlt b (ha b o s e).1)), hm1.block (hoth bk1 (fun e => hgb1 e.symm) (hlt bk1 hb1)), hm2.block (hoth bk2 (fun e => hgb2 e.symm) (hlt bk2 hb2)), hl, hc1, hr⟩, hc0, hn1, hn2, hm, hs⟩,
    (hK.then b2).setCell (.inl hg) _⟩
end Go.Proofs.YtdkgachgohilcaaDoor

namespace Go.Proofs.YtdkgachgohilcaaDoor
open Go.RowKit
open Arg Tab Mem Go.Proofs.YtdkgachgohilcaaDoor.Obj
set_option linter.unusedVariables false

/-- What follows behind the first k statements of a row; the statement there. -/
def navR : Nat → Code → Code
  | 0, c => c
  | k + 1, .seq _ b => navR k b
  | _, _ => .skip
def navL : Code → Code
  | .seq a _ => a
  | _ => .skip
noncomputable def dropCode (k : Nat) : Code := navR k (Tryd.f77.body.getD .skip)
noncomputable def dropStep (k : Nat) : Code := navL (dropCode k)

set_option maxRecDepth 100000 in
set_option maxHeartbeats 2000000 in
theorem drop_p0 {x1 x2 x3 x4 x5 x6 x7 x8 x9 x10 x11 x12 x13 x14 x15 x16 x17 x18 x19 x20 x21 x22 x23 x24 x25 x26 x27 x28 x29 x30 x31 x32 x33 x34 x35 x36 x37 x38 x39 x40 x41 x42 x43 x44 x45 x46 x47 x48 x49 x50 x51 x52 x53 x54 x55 x56 x57 x58 x59 x60 x61 x62 x63 x64 x65 x66 x67 x68 x69 x70 x71 : Value} {K : Act → World → Prop} {R : Ending → World → Prop} (g rbk bl off cap nr c0 : Nat) (pl : Nat) (rn rv : ByteArray) (w : World) (k2 : w.cell? ⟨g, 2, none⟩ = some (.slice (some ⟨bl, off, none⟩) (nr + 1) cap)) (k3 : w.cell? ⟨g, 3, none⟩ = some (.int .i64 c0))
    (d0 : w.cell? ⟨bl, off, none⟩ = some (.string rn)) (d1 : w.cell? ⟨bl, off + 1, none⟩ = some (.string rv)) (hl : nr + 1 ≤ c0) (hc1 : c0 ≤ 1000000) (hpl : (c0 : Int) - ((nr : Int) + 1) + 1 = pl) (hrb : w.heap.size = rbk)
    (hQ : Hid (∀ (y1 y4 y5 y6 y7 y8 y9 y10 y11 y12 y13 y14 y15 y16 y17 y18 y19 y20 y21 y22 y23 y24 y25 y26 y27 y28 y29 y30 y31 y32 y33 y34 y35 y36 y37 y38 y39 y40 y41 y42 y43 y44 y45 y46 y47 y48 y49 y50 y51 y52 y53 y54 y55 y56 y57 y58 y59 y60 y61 y62 y63 y64 y65 y66 y67 y68 y69 y70 y71 : Value), K ⟨((.pointer (some ⟨g, 0, none⟩) : Value) :: y1 :: (.pointer (some ⟨rbk, 0, none⟩) : Value) :: (.int .i64 pl : Value) :: y4 :: y5 :: y6 :: y7 :: y8 :: y9 :: y10 :: y11 :: y12 :: y13 :: y14 :: y15 :: y16 :: y17 :: y18 :: y19 :: y20 :: y21 :: y22 :: y23 :: y24 :: y25 :: y26 :: y27 :: y28 :: y29 :: y30 :: y31 :: y32 :: y33 :: y34 :: y35 :: y36 :: y37 :: y38 :: y39 :: y40 :: y41 :: y42 :: y43 :: y44 :: y45 :: y46 :: y47 :: y48 :: y49 :: y50 :: y51 :: y52 :: y53 :: y54 :: y55 :: y56 :: y57 :: y58 :: y59 :: y60 :: y61 :: y62 :: y63 :: y64 :: y65 :: y66 :: y67 :: y68 :: y69 :: y70 :: y71 :: []).toArray, []⟩ (w.alloc (.cells #[.string rn, .string rv] 118)).drew)) :
    Code.wp Tryd.prog (dropStep 0) (Exit.then K (bodyPost Tryd.prog Tryd.f77 R)) ⟨((.pointer (some ⟨g, 0, none⟩) : Value) :: x1 :: x2 :: x3 :: x4 :: x5 :: x6 :: x7 :: x8 :: x9 :: x10 :: x11 :: x12 :: x13 :: x14 :: x15 :: x16 :: x17 :: x18 :: x19 :: x20 :: x21 :: x22 :: x23 :: x24 :: x25 :: x26 :: x27 :: x28 :: x29 :: x30 :: x31 :: x32 :: x33 :: x34 :: x35 :: x36 :: x37 :: x38 :: x39 :: x40 :: x41 :: x42 :: x43 :: x44 :: x45 :: x46 :: x47 :: x48 :: x49 :: x50 :: x51 :: x52 :: x53 :: x54 :: x55 :: x56 :: x57 :: x58 :: x59 :: x60 :: x61 :: x62 :: x63 :: x64 :: x65 :: x66 :: x67 :: x68 :: x69 :: x70 :: x71 :: []).toArray, []⟩ w := by
  conv => arg 2; whnf
  have k2' := fun o => (World.cell?_alloc_some w ⟨g, 2, none⟩ o (by rw [k2]; rfl)).trans k2
  have k3' := fun o => (World.cell?_alloc_some w ⟨g, 3, none⟩ o (by rw [k3]; rfl)).trans k3
  have d0' := fun o => (World.cell?_alloc_some w ⟨bl, off, none⟩ o (by rw [d0]; rfl)).trans d0
  have d1' := fun o => (World.cell?_alloc_some w ⟨bl, off + 1, none⟩ o (by rw [d1]; rfl)).trans d1
  go_region
  exact hQ.out _ _ _ _ _ _ _ _ _ _ _ _ _ _ _ _ _ _ _ _ _ _ _ _ _ _ _ _ _ _ _ _ _ _ _ _ _ _ _ _ _ _ _ _ _ _ _ _ _ _ _ _ _ _ _ _ _ _ _ _ _ _ _ _ _ _ _ _ _

set_option maxRecDepth 100000 in
set_option maxHeartbeats 2000000 in
theorem drop_p1 {x1 x4 x5 x6 x7 x8 x9 x10 x11 x12 x13 x14 x15 x16 x17 x18 x19 x20 x21 x22 x23 x24 x25 x26 x27 x28 x29 x30 x31 x32 x33 x34 x35 x36 x37 x38 x39 x40 x41 x42 x43 x44 x45 x46 x47 x48 x49 x50 x51 x52 x53 x54 x55 x56 x57 x58 x59 x60 x61 x62 x63 x64 x65 x66 x67 x68 x69 x70 x71 : Value} {K : Act → World → Prop} {R : Ending → World → Prop} {L : List Nat} (g rbk bk1 p1 pl : Nat) (rn rv : ByteArray) (w1 : World) (q4 : w1.cell? ⟨g, 4, none⟩ = some (.map (some bk1))) (e0 : w1.cell? ⟨rbk, 0, none⟩ = some (.string rn)) (e1 : w1.cell? ⟨rbk, 1, none⟩ = some (.string rv))
    (hlk : (Instr.lookup 94 (.map (some bk1)) (.agg #[.string rn, .string rv]) false).run Tryd.prog w1.drew = .ok (.int .i64 p1) w1.drew)
    (hD : p1 = pl → ∃ w2, (Builtin.delete_ #[94, 118] 0 #[.map (some bk1), .agg #[.string rn, .string rv]]).run Tryd.prog w1.drew.drew = .ok (.tuple #[]) w2 ∧ Hid (∀ (y1 y4 y5 y6 y7 y8 y9 y10 y11 y12 y13 y14 y15 y16 y17 y18 y19 y20 y21 y22 y23 y24 y25 y26 y27 y28 y29 y30 y31 y32 y33 y34 y35 y36 y37 y38 y39 y40 y41 y42 y43 y44 y45 y46 y47 y48 y49 y50 y51 y52 y53 y54 y55 y56 y57 y58 y59 y60 y61 y62 y63 y64 y65 y66 y67 y68 y69 y70 y71 : Value), K ⟨((.pointer (some ⟨g, 0, none⟩) : Value) :: y1 :: (.pointer (some ⟨rbk, 0, none⟩) : Value) :: (.int .i64 pl : Value) :: y4 :: y5 :: y6 :: y7 :: y8 :: y9 :: y10 :: y11 :: y12 :: y13 :: y14 :: y15 :: y16 :: y17 :: y18 :: y19 :: y20 :: y21 :: y22 :: y23 :: y24 :: y25 :: y26 :: y27 :: y28 :: y29 :: y30 :: y31 :: y32 :: y33 :: y34 :: y35 :: y36 :: y37 :: y38 :: y39 :: y40 :: y41 :: y42 :: y43 :: y44 :: y45 :: y46 :: y47 :: y48 :: y49 :: y50 :: y51 :: y52 :: y53 :: y54 :: y55 :: y56 :: y57 :: y58 :: y59 :: y60 :: y61 :: y62 :: y63 :: y64 :: y65 :: y66 :: y67 :: y68 :: y69 :: y70 :: y71 :: []).toArray, []⟩ w2))
    (hN : p1 ≠ pl → Hid (∀ (y1 y4 y5 y6 y7 y8 y9 y10 y11 y12 y13 y14 y15 y16 y17 y18 y19 y20 y21 y22 y23 y24 y25 y26 y27 y28 y29 y30 y31 y32 y33 y34 y35 y36 y37 y38 y39 y40 y41 y42 y43 y44 y45 y46 y47 y48 y49 y50 y51 y52 y53 y54 y55 y56 y57 y58 y59 y60 y61 y62 y63 y64 y65 y66 y67 y68 y69 y70 y71 : Value), K ⟨((.pointer (some ⟨g, 0, none⟩) : Value) :: y1 :: (.pointer (some ⟨rbk, 0, none⟩) : Value) :: (.int .i64 pl : Value) :: y4 :: y5 :: y6 :: y7 :: y8 :: y9 :: y10 :: y11 :: y12 :: y13 :: y14 :: y15 :: y16 :: y17 :: y18 :: y19 :: y20 :: y21 :: y22 :: y23 :: y24 :: y25 :: y26 :: y27 :: y28 :: y29 :: y30 :: y31 :: y32 :: y33 :: y34 :: y35 :: y36 :: y37 :: y38 :: y39 :: y40 :: y41 :: y42 :: y43 :: y44 :: y45 :: y46 :: y47 :: y48 :: y49 :: y50 :: y51 :: y52 :: y53 :: y54 :: y55 :: y56 :: y57 :: y58 :: y59 :: y60 :: y61 :: y62 :: y63 :: y64 :: y65 :: y66 :: y67 :: y68 :: y69 :: y70 :: y71 :: []).toArray, []⟩ w1.drew)) :
    Code.wp Tryd.prog (dropStep 1) (Exit.then K (bodyPost Tryd.prog Tryd.f77 R)) ⟨((.pointer (some ⟨g, 0, none⟩) : Value) :: x1 :: (.pointer (some ⟨rbk, 0, none⟩) : Value) :: (.int .i64 pl : Value) :: x4 :: x5 :: x6 :: x7 :: x8 :: x9 :: x10 :: x11 :: x12 :: x13 :: x14 :: x15 :: x16 :: x17 :: x18 :: x19 :: x20 :: x21 :: x22 :: x23 :: x24 :: x25 :: x26 :: x27 :: x28 :: x29 :: x30 :: x31 :: x32 :: x33 :: x34 :: x35 :: x36 :: x37 :: x38 :: x39 :: x40 :: x41 :: x42 :: x43 :: x44 :: x45 :: x46 :: x47 :: x48 :: x49 :: x50 :: x51 :: x52 :: x53 :: x54 :: x55 :: x56 :: x57 :: x58 :: x59 :: x60 :: x61 :: x62 :: x63 :: x64 :: x65 :: x66 :: x67 :: x68 :: x69 :: x70 :: x71 :: []).toArray, []⟩ w1 := by
  conv => arg 2; whnf
  by_cases hd : p1 = pl
  · obtain ⟨w2, hrun, hQ⟩ := hD hd
    subst hd
    have q4' : w1.drew.cell? ⟨g, 4, none⟩ = some (.map (some bk1)) := q4
    have e0' : w1.drew.cell? ⟨rbk, 0, none⟩ = some (.string rn) := e0
    have e1' : w1.drew.cell? ⟨rbk, 1, none⟩ = some (.string rv) := e1
    go_wp2_with fail
    go_region
    go_wp2_with fail
    go_region_law (refine Mp.step_delete rfl (.tmp 32) (.tmp 33) 94 118 rfl _ _ _ rfl rfl hrun ?_)
    all_goals exact hQ.out _ _ _ _ _ _ _ _ _ _ _ _ _ _ _ _ _ _ _ _ _ _ _ _ _ _ _ _ _ _ _ _ _ _ _ _ _ _ _ _ _ _ _ _ _ _ _ _ _ _ _ _ _ _ _ _ _ _ _ _ _ _ _ _ _ _ _ _ _
  · have hne : ¬ ((p1 : Int) = pl) := by omega
    have hQ := hN hd
    go_wp2_with fail
    go_region
    go_wp2_with fail
    exact hQ.out _ _ _ _ _ _ _ _ _ _ _ _ _ _ _ _ _ _ _ _ _ _ _ _ _ _ _ _ _ _ _ _ _ _ _ _ _ _ _ _ _ _ _ _ _ _ _ _ _ _ _ _ _ _ _ _ _ _ _ _ _ _ _ _ _ _ _ _ _

set_option maxRecDepth 100000 in
set_option maxHeartbeats 2000000 in
theorem drop_p2 {x1 x4 x5 x6 x7 x8 x9 x10 x11 x12 x13 x14 x15 x16 x17 x18 x19 x20 x21 x22 x23 x24 x25 x26 x27 x28 x29 x30 x31 x32 x33 x34 x35 x36 x37 x38 x39 x40 x41 x42 x43 x44 x45 x46 x47 x48 x49 x50 x51 x52 x53 x54 x55 x56 x57 x58 x59 x60 x61 x62 x63 x64 x65 x66 x67 x68 x69 x70 x71 : Value} {K : Act → World → Prop} {R : Ending → World → Prop} {L : List Nat} (g rbk bk2 p1 pl : Nat) (rn rv : ByteArray) (w1 : World) (q5 : w1.cell? ⟨g, 5, none⟩ = some (.map (some bk2))) (e0 : w1.cell? ⟨rbk, 0, none⟩ = some (.string rn))
    (hlk : (Instr.lookup 95 (.map (some bk2)) (.string rn) false).run Tryd.prog w1.drew = .ok (.int .i64 p1) w1.drew)
    (hD : p1 = pl → ∃ w2, (Builtin.delete_ #[95, 9] 0 #[.map (some bk2), .string rn]).run Tryd.prog w1.drew.drew = .ok (.tuple #[]) w2 ∧ Hid (∀ (y1 y4 y5 y6 y7 y8 y9 y10 y11 y12 y13 y14 y15 y16 y17 y18 y19 y20 y21 y22 y23 y24 y25 y26 y27 y28 y29 y30 y31 y32 y33 y34 y35 y36 y37 y38 y39 y40 y41 y42 y43 y44 y45 y46 y47 y48 y49 y50 y51 y52 y53 y54 y55 y56 y57 y58 y59 y60 y61 y62 y63 y64 y65 y66 y67 y68 y69 y70 y71 : Value), K ⟨((.pointer (some ⟨g, 0, none⟩) : Value) :: y1 :: (.pointer (some ⟨rbk, 0, none⟩) : Value) :: (.int .i64 pl : Value) :: y4 :: y5 :: y6 :: y7 :: y8 :: y9 :: y10 :: y11 :: y12 :: y13 :: y14 :: y15 :: y16 :: y17 :: y18 :: y19 :: y20 :: y21 :: y22 :: y23 :: y24 :: y25 :: y26 :: y27 :: y28 :: y29 :: y30 :: y31 :: y32 :: y33 :: y34 :: y35 :: y36 :: y37 :: y38 :: y39 :: y40 :: y41 :: y42 :: y43 :: y44 :: y45 :: y46 :: y47 :: y48 :: y49 :: y50 :: y51 :: y52 :: y53 :: y54 :: y55 :: y56 :: y57 :: y58 :: y59 :: y60 :: y61 :: y62 :: y63 :: y64 :: y65 :: y66 :: y67 :: y68 :: y69 :: y70 :: y71 :: []).toArray, []⟩ w2))
    (hN : p1 ≠ pl → Hid (∀ (y1 y4 y5 y6 y7 y8 y9 y10 y11 y12 y13 y14 y15 y16 y17 y18 y19 y20 y21 y22 y23 y24 y25 y26 y27 y28 y29 y30 y31 y32 y33 y34 y35 y36 y37 y38 y39 y40 y41 y42 y43 y44 y45 y46 y47 y48 y49 y50 y51 y52 y53 y54 y55 y56 y57 y58 y59 y60 y61 y62 y63 y64 y65 y66 y67 y68 y69 y70 y71 : Value), K ⟨((.pointer (some ⟨g, 0, none⟩) : Value) :: y1 :: (.pointer (some ⟨rbk, 0, none⟩) : Value) :: (.int .i64 pl : Value) :: y4 :: y5 :: y6 :: y7 :: y8 :: y9 :: y10 :: y11 :: y12 :: y13 :: y14 :: y15 :: y16 :: y17 :: y18 :: y19 :: y20 :: y21 :: y22 :: y23 :: y24 :: y25 :: y26 :: y27 :: y28 :: y29 :: y30 :: y31 :: y32 :: y33 :: y34 :: y35 :: y36 :: y37 :: y38 :: y39 :: y40 :: y41 :: y42 :: y43 :: y44 :: y45 :: y46 :: y47 :: y48 :: y49 :: y50 :: y51 :: y52 :: y53 :: y54 :: y55 :: y56 :: y57 :: y58 :: y59 :: y60 :: y61 :: y62 :: y63 :: y64 :: y65 :: y66 :: y67 :: y68 :: y69 :: y70 :: y71 :: []).toArray, []⟩ w1.drew)) :
    Code.wp Tryd.prog (dropStep 2) (Exit.then K (bodyPost Tryd.prog Tryd.f77 R)) ⟨((.pointer (some ⟨g, 0, none⟩) : Value) :: x1 :: (.pointer (some ⟨rbk, 0, none⟩) : Value) :: (.int .i64 pl : Value) :: x4 :: x5 :: x6 :: x7 :: x8 :: x9 :: x10 :: x11 :: x12 :: x13 :: x14 :: x15 :: x16 :: x17 :: x18 :: x19 :: x20 :: x21 :: x22 :: x23 :: x24 :: x25 :: x26 :: x27 :: x28 :: x29 :: x30 :: x31 :: x32 :: x33 :: x34 :: x35 :: x36 :: x37 :: x38 :: x39 :: x40 :: x41 :: x42 :: x43 :: x44 :: x45 :: x46 :: x47 :: x48 :: x49 :: x50 :: x51 :: x52 :: x53 :: x54 :: x55 :: x56 :: x57 :: x58 :: x59 :: x60 :: x61 :: x62 :: x63 :: x64 :: x65 :: x66 :: x67 :: x68 :: x69 :: x70 :: x71 :: []).toArray, []⟩ w1 := by
  conv => arg 2; whnf
  by_cases hd : p1 = pl
  · obtain ⟨w2, hrun, hQ⟩ := hD hd
    subst hd
    have q5' : w1.drew.cell? ⟨g, 5, none⟩ = some (.map (some bk2)) := q5
    have e0' : w1.drew.cell? ⟨rbk, 0, none⟩ = some (.string rn) := e0
    go_wp2_with fail
    go_region
    go_wp2_with fail
    go_region_law (refine Mp.step_delete rfl (.tmp 46) (.tmp 48) 95 9 rfl _ _ _ rfl rfl hrun ?_)
    all_goals exact hQ.out _ _ _ _ _ _ _ _ _ _ _ _ _ _ _ _ _ _ _ _ _ _ _ _ _ _ _ _ _ _ _ _ _ _ _ _ _ _ _ _ _ _ _ _ _ _ _ _ _ _ _ _ _ _ _ _ _ _ _ _ _ _ _ _ _ _ _ _ _
  · have hne : ¬ ((p1 : Int) = pl) := by omega
    have hQ := hN hd
    go_wp2_with fail
    go_region
    go_wp2_with fail
    exact hQ.out _ _ _ _ _ _ _ _ _ _ _ _ _ _ _ _ _ _ _ _ _ _ _ _ _ _ _ _ _ _ _ _ _ _ _ _ _ _ _ _ _ _ _ _ _ _ _ _ _ _ _ _ _ _ _ _ _ _ _ _ _ _ _ _ _ _ _ _ _

set_option maxRecDepth 100000 in
set_option maxHeartbeats 2000000 in
theorem drop_r7 {x1 x3 x4 x5 x6 x7 x8 x9 x10 x11 x12 x13 x14 x15 x16 x17 x18 x19 x20 x21 x22 x23 x24 x25 x26 x27 x28 x29 x30 x31 x32 x33 x34 x35 x36 x37 x38 x39 x40 x41 x42 x43 x44 x45 x46 x47 x48 x49 x50 x51 x52 x53 x54 x55 x56 x57 x58 x59 x60 x61 x62 x63 x64 x65 x66 x67 x68 x69 x70 x71 : Value} {R : Ending → World → Prop} (g rbk S C T : Nat) (rn rv : ByteArray) (we : World) (hgr : g ≠ rbk) (c1 : we.cell? ⟨g, 1, none⟩ = some (.int .i64 S)) (e0 : we.cell? ⟨rbk, 0, none⟩ = some (.string rn)) (e1 : we.cell? ⟨rbk, 1, none⟩ = some (.string rv))
    (f1' : ∀ x : World, Below we.heap.size we.drew x → x.frozen? ⟨g, 1, none⟩ = false) (HCo : Hid (∀ v, Calls Tryd.prog 94 #[.agg #[.string rn, .string rv]] v fun e w' => e = .returned (.int .i64 C) ∧ Below v.heap.size v w')) (hwr : IntKind.i64.wrap ((S : Int) - C) = T)
    (hQ : Hid (∀ a' w2, a'.defers = [] → Below we.heap.size we w2 → (bodyPost Tryd.prog Tryd.f77 R) .normal a' (w2.setCell ⟨g, 1, none⟩ (.int .i64 T)))) :
    Code.wp Tryd.prog (dropCode 5) (bodyPost Tryd.prog Tryd.f77 R) ⟨((.pointer (some ⟨g, 0, none⟩) : Value) :: x1 :: (.pointer (some ⟨rbk, 0, none⟩) : Value) :: x3 :: x4 :: x5 :: x6 :: x7 :: x8 :: x9 :: x10 :: x11 :: x12 :: x13 :: x14 :: x15 :: x16 :: x17 :: x18 :: x19 :: x20 :: x21 :: x22 :: x23 :: x24 :: x25 :: x26 :: x27 :: x28 :: x29 :: x30 :: x31 :: x32 :: x33 :: x34 :: x35 :: x36 :: x37 :: x38 :: x39 :: x40 :: x41 :: x42 :: x43 :: x44 :: x45 :: x46 :: x47 :: x48 :: x49 :: x50 :: x51 :: x52 :: x53 :: x54 :: x55 :: x56 :: x57 :: x58 :: x59 :: x60 :: x61 :: x62 :: x63 :: x64 :: x65 :: x66 :: x67 :: x68 :: x69 :: x70 :: x71 :: []).toArray, []⟩ we := by
  conv => arg 2; whnf
  have f1 := f1' we.drew (Below.refl _ _)
  go_region_with ((go_at_call 94; refine (HCo.out _).mono ?_; rintro e w2 ⟨rfl, b2⟩; have c1' := below_cell b2 c1; have f2 := f1' _ b2))
  all_goals exact hQ.out _ _ rfl (((Below.refl _ we).drew).trans b2)

set_option maxRecDepth 100000 in
set_option maxHeartbeats 2000000 in
theorem drop_r5 {x1 x3 x4 x5 x6 x7 x8 x9 x10 x11 x12 x13 x14 x15 x16 x17 x18 x19 x20 x21 x22 x23 x24 x25 x26 x27 x28 x29 x30 x31 x32 x33 x34 x35 x36 x37 x38 x39 x40 x41 x42 x43 x44 x45 x46 x47 x48 x49 x50 x51 x52 x53 x54 x55 x56 x57 x58 x59 x60 x61 x62 x63 x64 x65 x66 x67 x68 x69 x70 x71 : Value} {R : Ending → World → Prop} (g rbk bl off cap nr : Nat) (wc : World) (q2 : wc.cell? ⟨g, 2, none⟩ = some (.slice (some ⟨bl, off, none⟩) (nr + 1) cap)) (q0 : ∃ u, wc.cell? ⟨bl, off, none⟩ = some u) (q1 : ∃ u, wc.cell? ⟨bl, off + 1, none⟩ = some u)
    (z0 : wc.frozen? ⟨bl, off, none⟩ = false) (z1 : wc.frozen? ⟨bl, off + 1, none⟩ = false) (z2 : wc.frozen? ⟨g, 2, none⟩ = false) (hgne : g ≠ bl) (hcap : nr + 1 ≤ cap) (hmax : cap ≤ maxLen)
    (hQ : Hid (∀ (y1 y3 y4 y5 y6 y7 y8 y9 y10 y11 y12 y13 y14 y15 y16 y17 y18 y19 y20 y21 y22 y23 y24 y25 y26 y27 y28 y29 y30 y31 y32 y33 y34 y35 y36 y37 y38 y39 y40 y41 y42 y43 y44 y45 y46 y47 y48 y49 y50 y51 y52 y53 y54 y55 y56 y57 y58 y59 y60 y61 y62 y63 y64 y65 y66 y67 y68 y69 y70 y71 : Value) , Code.wp Tryd.prog (dropCode 5) (bodyPost Tryd.prog Tryd.f77 R) ⟨((.pointer (some ⟨g, 0, none⟩) : Value) :: y1 :: (.pointer (some ⟨rbk, 0, none⟩) : Value) :: y3 :: y4 :: y5 :: y6 :: y7 :: y8 :: y9 :: y10 :: y11 :: y12 :: y13 :: y14 :: y15 :: y16 :: y17 :: y18 :: y19 :: y20 :: y21 :: y22 :: y23 :: y24 :: y25 :: y26 :: y27 :: y28 :: y29 :: y30 :: y31 :: y32 :: y33 :: y34 :: y35 :: y36 :: y37 :: y38 :: y39 :: y40 :: y41 :: y42 :: y43 :: y44 :: y45 :: y46 :: y47 :: y48 :: y49 :: y50 :: y51 :: y52 :: y53 :: y54 :: y55 :: y56 :: y57 :: y58 :: y59 :: y60 :: y61 :: y62 :: y63 :: y64 :: y65 :: y66 :: y67 :: y68 :: y69 :: y70 :: y71 :: []).toArray, []⟩ (((wc.setCell ⟨bl, off, none⟩ (.string ⟨#[]⟩)).setCell ⟨bl, off + 1, none⟩ (.string ⟨#[]⟩)).setCell ⟨g, 2, none⟩ (.slice (if 1 < cap then some ⟨bl, off + 2, none⟩ else some ⟨bl, off, none⟩) nr (cap - 1))))) :
    Code.wp Tryd.prog (dropCode 3) (bodyPost Tryd.prog Tryd.f77 R) ⟨((.pointer (some ⟨g, 0, none⟩) : Value) :: x1 :: (.pointer (some ⟨rbk, 0, none⟩) : Value) :: x3 :: x4 :: x5 :: x6 :: x7 :: x8 :: x9 :: x10 :: x11 :: x12 :: x13 :: x14 :: x15 :: x16 :: x17 :: x18 :: x19 :: x20 :: x21 :: x22 :: x23 :: x24 :: x25 :: x26 :: x27 :: x28 :: x29 :: x30 :: x31 :: x32 :: x33 :: x34 :: x35 :: x36 :: x37 :: x38 :: x39 :: x40 :: x41 :: x42 :: x43 :: x44 :: x45 :: x46 :: x47 :: x48 :: x49 :: x50 :: x51 :: x52 :: x53 :: x54 :: x55 :: x56 :: x57 :: x58 :: x59 :: x60 :: x61 :: x62 :: x63 :: x64 :: x65 :: x66 :: x67 :: x68 :: x69 :: x70 :: x71 :: []).toArray, []⟩ wc := by
  conv => arg 2; whnf
  obtain ⟨u0, q0⟩ := q0
  obtain ⟨u1, q1⟩ := q1
  unfold maxLen at hmax
  by_cases h1 : 1 < cap
  · have h1' : ¬ cap = 1 := by omega
    rw [if_pos h1] at hQ
    go_upto_region 7 with fail
    exact hQ.out _ _ _ _ _ _ _ _ _ _ _ _ _ _ _ _ _ _ _ _ _ _ _ _ _ _ _ _ _ _ _ _ _ _ _ _ _ _ _ _ _ _ _ _ _ _ _ _ _ _ _ _ _ _ _ _ _ _ _ _ _ _ _ _ _ _ _ _ _ _
  · obtain rfl : cap = 1 := by omega
    obtain rfl : nr = 0 := by omega
    rw [if_neg h1] at hQ
    go_upto_region 7 with fail
    exact hQ.out _ _ _ _ _ _ _ _ _ _ _ _ _ _ _ _ _ _ _ _ _ _ _ _ _ _ _ _ _ _ _ _ _ _ _ _ _ _ _ _ _ _ _ _ _ _ _ _ _ _ _ _ _ _ _ _ _ _ _ _ _ _ _ _ _ _ _ _ _ _

theorem pdrop_any (L : List Nat) (g m c : Nat) (rows : List FdM) (r : FdM) (w : World) (h : PTs w L g m (rows ++ [r]) c) :
    Calls Tryd.prog 77 #[.pointer (some ⟨g, 0, none⟩)] w fun e w' => e = .returned (.tuple #[]) ∧ PTs w' L g m rows c ∧ Kept L w w' := by
  obtain ⟨c0, ad, cap, bk1, bk2, n1, n2, hP, hc0, hn1, hn2, hm, hs⟩ := h
  obtain ⟨⟨hg, hb1, hb2, hgb1, hgb2, hbb, hk, ha⟩, hh, hq, hm1, hm2, hl, hc1, hr⟩ := hP
  have hlen : (rows ++ [r]).length = rows.length + 1 := by simp
  rw [hlen] at hh hl
  have hrev : (rows ++ [r]).reverse = r :: rows.reverse := by simp
  rw [hrev] at hq
  obtain ⟨bl, off, rfl, hbl, hce, hsp⟩ : ∃ b off, ad = some ⟨b, off, none⟩ ∧ b < w.heap.size ∧ (∀ i, (h : i < (r :: rows.reverse).length) → Rw.CE EPr w b (off + i * 2) (r :: rows.reverse)[i]) ∧ ∀ j, j < cap * 2 → (w.cell? ⟨b, off + j, none⟩).isSome = true ∧ w.frozen? ⟨b, off + j, none⟩ = false := by
    cases ad with
    | none => have := hq.nil rfl; have := hq.le; simp at this; omega
    | some a => obtain ⟨b, off, rfl, h1, h2, h3⟩ := hq.lies a rfl; exact ⟨b, off, rfl, h1, h2, h3⟩
  obtain ⟨hbL, hbg, hbl1, hbl2⟩ := ha bl off none rfl
  obtain ⟨d0, d1⟩ := CE_pr (hce 0 (by simp))
  simp only [Nat.zero_mul, Nat.add_zero, List.getElem_cons_zero] at d0 d1
  have hrc : r.never = false ∧ cost r ≤ 65536 := hr r (by simp)
  have hcost : cost r = r.name.size + r.value.size + 32 := rfl
  obtain ⟨rn, rv, rb⟩ := r
  simp only at d0 d1 hrc hcost
  have hgl := hk g hg
  have hcap : rows.length + 1 ≤ cap := by have := hq.le; simpa using this
  have hM : Mid w L bk1 bk2 w.heap.size n1 n2 rn rv (fun x => plc nmV x (rows ++ [⟨rn, rv, rb⟩]) c0) (fun x => plc (·.name) x (rows ++ [⟨rn, rv, rb⟩]) c0) (w.alloc (.cells #[.string rn, .string rv] 118)).drew := by
    have hB : Below w.heap.size w (w.alloc (.cells #[.string rn, .string rv] 118)) := (Below.refl _ _).alloc (Nat.le_refl _) _
    have h1 := hk bk1 hb1
    have h2 := hk bk2 hb2
    exact Mid.drew ⟨(Kept.refl L w).then hB, fun k hk _ _ => hB.block k hk, heap_alloc_new w _, Mp.MapF.below hm1 hB, Mp.MapF.below hm2 hB, by omega, by omega, hbb, hb1, hb2⟩
  have hok1 : okRow (rn, rv) := by constructor <;> (simp only; unfold maxLen; omega)
  have hok2 : okNam rn := by show rn.size ≤ maxLen; unfold maxLen; omega
  obtain ⟨p1, hp1, hq1⟩ : ∃ p, plc nmV (rn, rv) (rows ++ [⟨rn, rv, rb⟩]) c0 = some p ∧ p ≤ c0 := by
    have h := plc_snoc nmV (rn, rv) ⟨rn, rv, rb⟩ rows c0
    cases hp : plc nmV (rn, rv) rows c0 with
    | some k => rw [hp] at h; exact ⟨k, h, (plc_range nmV _ rows c0 k (by omega) hp).2⟩
    | none => rw [hp] at h; simp only [nmV, if_true] at h; exact ⟨_, h, by omega⟩
  obtain ⟨p2, hp2, hq2⟩ : ∃ p, plc (·.name) rn (rows ++ [⟨rn, rv, rb⟩]) c0 = some p ∧ p ≤ c0 := by
    have h := plc_snoc (fun f : FdM => f.name) rn ⟨rn, rv, rb⟩ rows c0
    cases hp : plc (fun f : FdM => f.name) rn rows c0 with
    | some k => rw [hp] at h; exact ⟨k, h, (plc_range (fun f : FdM => f.name) _ rows c0 k (by omega) hp).2⟩
    | none => rw [hp] at h; simp only [if_true] at h; exact ⟨_, h, by omega⟩
  have HD1 := plc_drop nmV ⟨rn, rv, rb⟩ rows c0 (by omega)
  have HD2 := plc_drop (fun f : FdM => f.name) ⟨rn, rv, rb⟩ rows c0 (by omega)
  have hsum : csum (rows ++ [⟨rn, rv, rb⟩]) = csum rows + (rn.size + rv.size + 32) := by rw [csum_append]; rfl
  rw [hsum] at hh hs
  have hE : ∀ (a' : Act) (w2 : World), a'.defers = [] → PTs w2 L g m rows c ∧ Kept L w w2 → bodyPost Tryd.prog Tryd.f77 (fun e w' => e = .returned (.tuple #[]) ∧ PTs w' L g m rows c ∧ Kept L w w') .normal a' w2 := fun a' w2 hd hE => by
    obtain ⟨tm, df⟩ := a'
    simp only at hd
    subst hd
    exact bodyPost_end (results_none rfl _ _ _) rfl ⟨rfl, hE⟩
  go_enter Tryd.func77, Tryd.ntmps77
  refine wp_seq ?_
  refine drop_p0 g w.heap.size bl off cap rows.length c0 (c0 - rows.length) rn rv w (cell_at hh 2) (cell_at hh 3) d0 d1 hl hc1 (by omega) rfl (Lib.hid ?_)
  intros
  generalize (w.alloc (.cells #[.string rn, .string rv] 118)).drew = w1 at hM ⊢
  refine wp_seq ?_
  have R2 : ∀ w2, Mid w L bk1 bk2 w.heap.size n1 n2 rn rv (fun x => plc nmV x rows c0) (fun x => plc (·.name) x (rows ++ [⟨rn, rv, rb⟩]) c0) w2 → ∀ (y1 y4 y5 y6 y7 y8 y9 y10 y11 y12 y13 y14 y15 y16 y17 y18 y19 y20 y21 y22 y23 y24 y25 y26 y27 y28 y29 y30 y31 y32 y33 y34 y35 y36 y37 y38 y39 y40 y41 y42 y43 y44 y45 y46 y47 y48 y49 y50 y51 y52 y53 y54 y55 y56 y57 y58 y59 y60 y61 y62 y63 y64 y65 y66 y67 y68 y69 y70 y71 : Value), Code.wp Tryd.prog (dropCode 2) (bodyPost Tryd.prog Tryd.f77 (fun e w' => e = .returned (.tuple #[]) ∧ PTs w' L g m rows c ∧ Kept L w w')) ⟨((.pointer (some ⟨g, 0, none⟩) : Value) :: y1 :: (.pointer (some ⟨w.heap.size, 0, none⟩) : Value) :: (.int .i64 (c0 - rows.length : Nat) : Value) :: y4 :: y5 :: y6 :: y7 :: y8 :: y9 :: y10 :: y11 :: y12 :: y13 :: y14 :: y15 :: y16 :: y17 :: y18 :: y19 :: y20 :: y21 :: y22 :: y23 :: y24 :: y25 :: y26 :: y27 :: y28 :: y29 :: y30 :: y31 :: y32 :: y33 :: y34 :: y35 :: y36 :: y37 :: y38 :: y39 :: y40 :: y41 :: y42 :: y43 :: y44 :: y45 :: y46 :: y47 :: y48 :: y49 :: y50 :: y51 :: y52 :: y53 :: y54 :: y55 :: y56 :: y57 :: y58 :: y59 :: y60 :: y61 :: y62 :: y63 :: y64 :: y65 :: y66 :: y67 :: y68 :: y69 :: y70 :: y71 :: []).toArray, []⟩ w2 := by
    intro w2 hM
    intros
    have R3 : ∀ w3, Mid w L bk1 bk2 w.heap.size n1 n2 rn rv (fun x => plc nmV x rows c0) (fun x => plc (·.name) x rows c0) w3 → ∀ (y1 y4 y5 y6 y7 y8 y9 y10 y11 y12 y13 y14 y15 y16 y17 y18 y19 y20 y21 y22 y23 y24 y25 y26 y27 y28 y29 y30 y31 y32 y33 y34 y35 y36 y37 y38 y39 y40 y41 y42 y43 y44 y45 y46 y47 y48 y49 y50 y51 y52 y53 y54 y55 y56 y57 y58 y59 y60 y61 y62 y63 y64 y65 y66 y67 y68 y69 y70 y71 : Value), Code.wp Tryd.prog (dropCode 3) (bodyPost Tryd.prog Tryd.f77 (fun e w' => e = .returned (.tuple #[]) ∧ PTs w' L g m rows c ∧ Kept L w w')) ⟨((.pointer (some ⟨g, 0, none⟩) : Value) :: y1 :: (.pointer (some ⟨w.heap.size, 0, none⟩) : Value) :: (.int .i64 (c0 - rows.length : Nat) : Value) :: y4 :: y5 :: y6 :: y7 :: y8 :: y9 :: y10 :: y11 :: y12 :: y13 :: y14 :: y15 :: y16 :: y17 :: y18 :: y19 :: y20 :: y21 :: y22 :: y23 :: y24 :: y25 :: y26 :: y27 :: y28 :: y29 :: y30 :: y31 :: y32 :: y33 :: y34 :: y35 :: y36 :: y37 :: y38 :: y39 :: y40 :: y41 :: y42 :: y43 :: y44 :: y45 :: y46 :: y47 :: y48 :: y49 :: y50 :: y51 :: y52 :: y53 :: y54 :: y55 :: y56 :: y57 :: y58 :: y59 :: y60 :: y61 :: y62 :: y63 :: y64 :: y65 :: y66 :: y67 :: y68 :: y69 :: y70 :: y71 :: []).toArray, []⟩ w3 := by
      intro w3 hM3
      intros
      refine drop_r5 g w.heap.size bl off cap rows.length w3 ((hM3.cell hgl hgb1 hgb2 2).trans (cell_at hh 2)) ⟨_, (hM3.cell hbl hbl1 hbl2 off).trans d0⟩ ⟨_, (hM3.cell hbl hbl1 hbl2 (off + 1)).trans d1⟩
        ((World.frozen?_of_block (a := ⟨bl, off, none⟩) (hM3.old bl hbl hbl1 hbl2)).trans (hsp 0 (by omega)).2) ((World.frozen?_of_block (a := ⟨bl, off + 1, none⟩) (hM3.old bl hbl hbl1 hbl2)).trans (hsp 1 (by omega)).2)
        (frozen_of_row _ _ 2 _ _ ((hM3.old g hgl hgb1 hgb2).trans hh)) (fun e => hbg e.symm) hcap hq.max (Lib.hid ?_)
      intros
      obtain ⟨hK, hhg, hQ, hbox, hM1, hM2⟩ := drop_cells hM3 hg hbL hgl hgb1 hgb2 hbl hbl1 hbl2 hbg (Nat.le_refl _) hh hq (.slice (if 1 < cap then some ⟨bl, off + 2, none⟩ else some ⟨bl, off, none⟩) rows.length (cap - 1)) (.string ⟨#[]⟩) (.string ⟨#[]⟩) _ rfl
      generalize ((w3.setCell _ _).setCell _ _).setCell _ _ = we at hK hhg hQ hbox hM1 hM2 ⊢
      have hFin := drop_end (w := w) (c := c) hk hg hb1 hb2 hgb1 hgb2 hbb (fun b o s e => by
        have hb : bl = b := by split at e <;> (simp only [Option.some.injEq, Addr.mk.injEq] at e; exact e.1)
        rw [← hb]; exact ⟨hbL, hbg, hbl1, hbl2⟩) hK hhg hQ hM1 hM2 (by omega) hc1 (fun x hx => hr x (List.mem_append_left _ hx)) hc0 hn1 hn2 hm (by omega)
      refine drop_r7 g w.heap.size (csum rows + (rn.size + rv.size + 32)) (rn.size + rv.size + 32) (csum rows) rn rv we (by omega) (cell_at hhg 1) (cell_at hbox 0) (cell_at hbox 1) (fun x hx => frozen_of_row _ _ 1 _ _ (block_below (w := we.drew) hx hhg)) (Lib.hid (fun v => pcost_any rn rv v (by omega) (by omega)))
        (by rw [IntWalk.i64_in _ (by omega)]; omega) (Lib.hid (fun a' w2 hd hb => hE a' _ hd (hFin w2 hb)))
    refine wp_seq ?_
    refine drop_p2 (L := L) g w.heap.size bk2 p2 (c0 - rows.length) rn rv w2 ((hM.cell hgl hgb1 hgb2 5).trans (cell_at hh 5)) (cell_at hM.box 0) (hM.drew.look2 hok2 hp2) (fun hd => ?_) (fun hd => Lib.hid (R3 _ (hM.drew.congr (fun _ => rfl) (fun x => ?_))))
    · obtain ⟨w3, hrun, hM3⟩ := hM.drew.drew.drop2 hok2 0
      refine ⟨w3, hrun, Lib.hid (R3 _ (hM3.congr (fun _ => rfl) (fun x => ?_)))⟩
      have := HD2 x
      simp only [hp2, hd, if_true] at this
      exact this
    · have := HD2 x
      simp only [hp2, Option.some.injEq, hd, if_false] at this
      exact this
  refine drop_p1 (L := L) g w.heap.size bk1 p1 (c0 - rows.length) rn rv w1 ((hM.cell hgl hgb1 hgb2 4).trans (cell_at hh 4)) (cell_at hM.box 0) (cell_at hM.box 1) (hM.drew.look1 hok1 hp1) (fun hd => ?_) (fun hd => Lib.hid (R2 _ (hM.drew.congr (fun x => ?_) (fun _ => rfl))))
  · obtain ⟨w2, hrun, hM2⟩ := hM.drew.drew.drop1 hok1 0
    refine ⟨w2, hrun, Lib.hid (R2 _ (hM2.congr (fun x => ?_) (fun _ => rfl)))⟩
    have := HD1 x
    simp only [nmV, hp1, hd, if_true] at this
    exact this
  · have := HD1 x
    simp only [nmV, hp1, Option.some.injEq, hd, if_false] at this
    exact this
end Go.Proofs.YtdkgachgohilcaaDoor
