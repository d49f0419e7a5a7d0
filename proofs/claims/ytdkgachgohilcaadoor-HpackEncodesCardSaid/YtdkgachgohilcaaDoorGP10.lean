/- Layer 4: the program's shrink and Resize. Layer 4: the program's push: a row that has room becomes the youngest. (One declaration for each statement.) -/
import Derived.Test.YtdkgachgohilcaaDoorGP08
import Derived.Test.YtdkgachgohilcaaDoorGP09
import Derived.WalkKit
import Derived.WalkSpells
import Derived.WalkLawsBesides
import Derived.Lib.Hide
import Derived.Outline
import Derived.IntWalk
import Derived.Deep.LoopGhost
import Derived.RegionTactic
import Derived.BigRegion
import Derived.Deep.RegionLaw
import Derived.Deep.RegionHeld3
set_option linter.unusedVariables false
set_option linter.unusedSimpArgs false
namespace Go.Proofs.YtdkgachgohilcaaDoor
open Go.RowKit
open Arg Tab Mem Go.Proofs.YtdkgachgohilcaaDoor.Obj
set_option linter.unusedVariables false
set_option maxRecDepth 100000

theorem PTs.head {w : World} {L : List Nat} {g m c : Nat} {rows : List FdM} (h : PTs w L g m rows c) : ∃ c0 ad cap b1 b2, w.heap[g]? = some (.cells #[.int .i64 m, .int .i64 (csum rows), .slice ad rows.length cap, .int .i64 c0, .map (some b1), .map (some b2)] 98 (0, 0)) ∧ csum rows ≤ 65536 ∧ m ≤ 65536 ∧ g ∈ L ∧ ∀ k ∈ L, k < w.heap.size := by
  obtain ⟨c0, ad, cap, b1, b2, n1, n2, h, _, _, _, hm, hs⟩ := h
  exact ⟨c0, ad, cap, b1, b2, h.2.1, hs, hm, h.1.1, h.1.2.2.2.2.2.2.1⟩

set_option maxHeartbeats 2000000 in
theorem pshrink_any (L : List Nat) (g m c : Nat) (rows : List FdM) (S : Int) (w : World) (h : PTs w L g m rows c) (hS : (Lit.int .i64 S).wf = true) :
    Calls Tryd.prog 60 #[.pointer (some ⟨g, 0, none⟩), .int .i64 S] w fun e w' => e = .returned (.tuple #[]) ∧ PTs w' L g m (fit S.toNat rows) c ∧ Kept L w w' := by
  have HT := Lib.hid h
  generalize hF : fit S.toNat rows = R
  have HF := Lib.hid hF
  clear h hF
  go_enter Tryd.func60, Tryd.ntmps60
  go_wp2_with fail
  go_loopg [] rows.length (fun k wr => ∃ (rows' : List FdM), k = rows'.length ∧ Hid (PTs wr L g m rows' c) ∧ Hid (fit S.toNat rows' = R) ∧ Hid (Kept L w wr))
  case atStart => exact ⟨rows, rfl, HT, HF, Lib.hid (Kept.refl L w)⟩
  case round =>
    clear HT HF
    obtain ⟨rows', rfl, HT, HF, HK⟩ := hrel
    obtain ⟨c0, ad, cap, b1, b2, hh, hs, hm, _, _⟩ := HT.out.head
    have k1 : wr.cell? ⟨g, 1, none⟩ = some (.int .i64 (csum rows')) := cell_at hh 1
    have k2 : wr.cell? ⟨g, 2, none⟩ = some (.slice ad rows'.length cap) := cell_at hh 2
    have hlen := csum_len rows'
    clear hh
    by_cases hbig : S < csum rows'
    · by_cases hpos : 0 < rows'.length
      · have hpos' : (0 : Int) < rows'.length := by omega
        have hne : rows' ≠ [] := fun e => by rw [e] at hpos; simp at hpos
        have hdl : rows'.dropLast ++ [rows'.getLast hne] = rows' := List.dropLast_concat_getLast hne
        have HD := Lib.hid (pdrop_any L g m c rows'.dropLast (rows'.getLast hne) wr (by rw [hdl]; exact HT.out))
        have hl1 : rows'.dropLast.length = rows'.length - 1 := List.length_dropLast
        have HFd : Hid (fit S.toNat rows'.dropLast = R) := Lib.hid (by
          rw [← HF.out, fit_drop rows' S.toNat ?_]
          have : 32 ≤ csum rows' := by omega
          omega)
        generalize hcs : csum rows' = cs at *
        generalize hln : rows'.length = ln at *
        clear HF HT
        go_wp2_with fail
        refine HD.out.mono ?_; rintro e w1 ⟨rfl, T1, K1⟩
        go_wp2_with fail
        go_roundg (ln - 1)
        case measure => omega
        case rel => exact ⟨rows'.dropLast, by omega, Lib.hid T1, HFd, Lib.hid (HK.out.trans K1 (fun i hi => .inl hi))⟩
      · have h0 : rows' = [] := List.eq_nil_iff_length_eq_zero.mpr (by omega)
        subst h0
        have hR : R = [] := HF.out.symm
        subst hR
        have hbig' : S < 0 := by simpa [csum] using hbig
        simp only [csum, List.length_nil] at k1 k2
        go_wp2_with fail
        go_end0
        exact ⟨rfl, HT.out, HK.out⟩
    · have hR : R = rows' := by rw [← HF.out, fit_all _ _ (by omega)]
      subst hR
      have hbig' : decide (S < csum R) = false := by simp; omega
      generalize hcs : csum R = cs at *
      generalize hln : R.length = ln at *
      go_wp2_with fail
      go_end0
      exact ⟨rfl, HT.out, HK.out⟩

theorem fit_sum2 (l : List FdM) (n : Nat) : csum (fit n l) ≤ csum l := by
  rcases Nat.lt_or_ge n (csum l) with h | h
  · exact Nat.le_trans (fit_sum l n) (by omega)
  · rw [fit_all l n h]; exact Nat.le_refl _

theorem presize_bad (L : List Nat) (g m c : Nat) (m2 : Int) (rows : List FdM) (w : World) (h : PTab w L g m rows c) (hm : m2 < 0 ∨ 65536 < m2) :
    Calls Tryd.prog 42 #[.pointer (some ⟨g, 0, none⟩), .int .i64 m2] w fun e w' => e = .returned (.int .i64 1) ∧ Below w.heap.size w w' := by
  have HS := Lib.hid (fun v => tsized_any m2 v)
  rw [show decide (0 ≤ m2 ∧ m2 ≤ 65536) = false by simp; omega] at HS
  clear h
  go_enter Tryd.func42, Tryd.ntmps42
  go_wp2_with fail
  refine (HS.out _).mono ?_; rintro e w1 ⟨rfl, b1⟩
  go_wp2_with fail
  go_ret
  exact ⟨rfl, b1⟩
theorem presize_nil (m2 : Int) (w : World) : Calls Tryd.prog 42 #[.pointer none, .int .i64 m2] w fun e w' => e = .returned (.int .i64 1) ∧ Below w.heap.size w w' := by
  go_enter Tryd.func42, Tryd.ntmps42
  go_wp2_with fail
  go_ret
  exact ⟨rfl, Below.refl _ _⟩
set_option maxHeartbeats 2000000 in
theorem presize_ok (L : List Nat) (g m m2 c : Nat) (rows : List FdM) (w : World) (h : PTab w L g m rows c) (hm : m2 ≤ 65536) :
    Calls Tryd.prog 42 #[.pointer (some ⟨g, 0, none⟩), .int .i64 m2] w fun e w' => e = .returned (.int .i64 0) ∧ ∃ L', PTab w' L' g m2 (fit m2 rows) c ∧ Kept L w w' ∧ ∀ k ∈ L', k ∈ L ∨ w.heap.size ≤ k := by
  have HS := Lib.hid (fun v => tsized_any m2 v)
  rw [show decide ((0 : Int) ≤ m2 ∧ (m2 : Int) ≤ 65536) = true by simp; omega] at HS
  have HT := Lib.hid h
  obtain ⟨c0, ad, cap, b1, b2, hh, hs, hm', hgL, hkL⟩ := h.1.head
  have HSt : Hid (∀ v, Below w.heap.size w v → PTs (v.setCell ⟨g, 0, none⟩ (.int .i64 m2)) L g m2 rows c) := Lib.hid (fun v hv => by
    obtain ⟨c0, ad, cap, b1, b2, n1, n2, hP, hc0, hn1, hn2, _, hs⟩ := h.1.below hv
    obtain ⟨⟨hg, hb1, hb2, hgb1, hgb2, hbb, hk, ha⟩, hh, hq, hm1, hm2, hl⟩ := hP
    have hset := heap_setCell_same v g 0 _ _ (.int .i64 m2) hh
    have hsz : (v.setCell ⟨g, 0, none⟩ (.int .i64 m2)).heap.size = v.heap.size := by simp [World.setCell]
    have hoth : ∀ k, k ≠ g → (v.setCell ⟨g, 0, none⟩ (.int .i64 m2)).heap[k]? = v.heap[k]? := fun k hkg => Below.heap_setCell _ _ _ _ hkg
    exact ⟨c0, ad, cap, b1, b2, n1, n2, ⟨⟨hg, hb1, hb2, hgb1, hgb2, hbb, fun k h => by rw [hsz]; exact hk k h, ha⟩, hset, hq.block (by rw [hsz]; exact Nat.le_refl _) (fun b o s e => hoth b (ha b o s e).2.1), hm1.block (hoth b1 (fun e => hgb1 e.symm)), hm2.block (hoth b2 (fun e => hgb2 e.symm)), hl⟩, hc0, hn1, hn2, hm, hs⟩)
  have HH := Lib.hid hh
  clear h hh
  go_enter Tryd.func42, Tryd.ntmps42
  go_wp2_with fail
  refine (HS.out _).mono ?_; rintro e w1 ⟨rfl, b1⟩
  have hh1 := block_below b1 HH.out
  have k0 := cell_at hh1 0
  have f0 := frozen_of_row _ _ 0 _ _ hh1
  have HSh := Lib.hid (pshrink_any L g m2 c rows m2 _ (HSt.out w1 b1) (WalkArith.wf_i64 (by omega)))
  have HKs := Lib.hid (((Kept.refl L w).then b1).setCell (p := ⟨g, 0, none⟩) (.inl hgL) (.int .i64 m2))
  clear hh1 HSt
  go_wp2_with fail
  refine HSh.out.mono ?_; rintro e w2 ⟨rfl, T2, K2⟩
  go_wp2_with fail
  go_ret
  exact ⟨rfl, L, ⟨by simpa using T2, fit_sum rows m2⟩, HKs.out.trans K2 (fun i hi => .inl hi), fun k hk => .inl hk⟩
end Go.Proofs.YtdkgachgohilcaaDoor

namespace Go.Proofs.YtdkgachgohilcaaDoor
open Go.RowKit
open Arg Tab Mem Go.Proofs.YtdkgachgohilcaaDoor.Obj
set_option linter.unusedVariables false

noncomputable def pushCode (k : Nat) : Code := navR k (Tryd.f95.body.getD .skip)
noncomputable def pushStep (k : Nat) : Code := navL (pushCode k)
theorem info_pr : (Tryd.prog.info? 118).map (fun i => (i.zero, i.size, i.bytes)) = some (some (.agg #[.string ByteArray.empty, .string ByteArray.empty]), 2, 32) := by kernel_rfl

/-- The block of a row. -/
def adBk : Option Addr → List Nat
  | none => []
  | some a => [a.block]
/-- In the midst of push. -/
structure Raw (w0 : World) (L : List Nat) (g m s n c0 : Nat) (ad : Option Addr) (cap bk1 bk2 n1 n2 bx : Nat) (l : List FdM) (rn rv : ByteArray) (h1 : ByteArray × ByteArray → Option Nat) (h2 : ByteArray → Option Nat) (w : World) : Prop where
  kept : Kept L w0 w
  base : g ∈ L ∧ bk1 ∈ L ∧ bk2 ∈ L ∧ g ≠ bk1 ∧ g ≠ bk2 ∧ bk1 ≠ bk2 ∧ (∀ k ∈ L, k < w0.heap.size) ∧ w0.heap.size ≤ bx
  head : w.heap[g]? = some (.cells #[.int .i64 m, .int .i64 s, .slice ad n cap, .int .i64 c0, .map (some bk1), .map (some bk2)] 98 (0, 0))
  row : Rw.QRow EPr w ad cap l
  blk : ∀ b o s', ad = some ⟨b, o, s'⟩ → (b ∈ L ∨ w0.heap.size ≤ b) ∧ b ≠ g ∧ b ≠ bk1 ∧ b ≠ bk2 ∧ b ≠ bx
  box : w.heap[bx]? = some (.cells #[.string rn, .string rv] 118 (0, 0))
  m1 : MRow w bk1 n1 h1
  m2 : MNam w bk2 n2 h2
section
variable {w0 w w' : World} {L : List Nat} {g m s n c0 cap bk1 bk2 n1 n2 bx : Nat} {ad : Option Addr} {l : List FdM} {rn rv : ByteArray} {h1 : ByteArray × ByteArray → Option Nat} {h2 : ByteArray → Option Nat}
theorem Raw.lt (h : Raw w0 L g m s n c0 ad cap bk1 bk2 n1 n2 bx l rn rv h1 h2 w) : g < w.heap.size ∧ bk1 < w.heap.size ∧ bk2 < w.heap.size ∧ bx < w.heap.size ∧ g ≠ bx ∧ bk1 ≠ bx ∧ bk2 ≠ bx := by
  obtain ⟨a1, a2, a3, a4, a5, a6, a7, a8⟩ := h.base
  have := h.kept.size
  have e1 := a7 g a1
  have e2 := a7 bk1 a2
  have e3 := a7 bk2 a3
  have e4 := (Array.getElem?_eq_some_iff.1 h.box).1
  exact ⟨by omega, by omega, by omega, e4, by omega, by omega, by omega⟩
theorem Raw.below (h : Raw w0 L g m s n c0 ad cap bk1 bk2 n1 n2 bx l rn rv h1 h2 w) (hb : Below w.heap.size w w') : Raw w0 L g m s n c0 ad cap bk1 bk2 n1 n2 bx l rn rv h1 h2 w' :=
  ⟨h.kept.then hb, h.base, block_below hb h.head, h.row.below hb, h.blk, block_below hb h.box, Mp.MapF.below h.m1 hb, Mp.MapF.below h.m2 hb⟩
theorem Raw.drew (h : Raw w0 L g m s n c0 ad cap bk1 bk2 n1 n2 bx l rn rv h1 h2 w) : Raw w0 L g m s n c0 ad cap bk1 bk2 n1 n2 bx l rn rv h1 h2 w.drew := h.below (Below.refl _ _).drew
/-- A cell of the table's own block is written. -/
theorem Raw.setSize (h : Raw w0 L g m s n c0 ad cap bk1 bk2 n1 n2 bx l rn rv h1 h2 w) (s' : Nat) : Raw w0 L g m s' n c0 ad cap bk1 bk2 n1 n2 bx l rn rv h1 h2 (w.setCell ⟨g, 1, none⟩ (.int .i64 s')) := by
  obtain ⟨a1, a2, a3, a4, a5, a6, a7, a8⟩ := h.base
  have hl := h.lt
  have hset := heap_setCell_same w g 1 _ _ (.int .i64 s') h.head
  have hsz : (w.setCell ⟨g, 1, none⟩ (.int .i64 s')).heap.size = w.heap.size := by simp [World.setCell]
  have hoth : ∀ k, k ≠ g → (w.setCell ⟨g, 1, none⟩ (.int .i64 s')).heap[k]? = w.heap[k]? := fun k hkg => Below.heap_setCell _ _ _ _ hkg
  exact ⟨h.kept.setCell (.inl a1) _, h.base, hset, h.row.block (by rw [hsz]; exact Nat.le_refl _) (fun b o s e => hoth b (h.blk b o s e).2.1), h.blk, (hoth bx (fun e => hl.2.2.2.2.1 e.symm)).trans h.box, h.m1.block (hoth bk1 (fun e => a4 e.symm)), h.m2.block (hoth bk2 (fun e => a5 e.symm))⟩
theorem Raw.setCame (h : Raw w0 L g m s n c0 ad cap bk1 bk2 n1 n2 bx l rn rv h1 h2 w) (c' : Nat) : Raw w0 L g m s n c' ad cap bk1 bk2 n1 n2 bx l rn rv h1 h2 (w.setCell ⟨g, 3, none⟩ (.int .i64 c')) := by
  obtain ⟨a1, a2, a3, a4, a5, a6, a7, a8⟩ := h.base
  have hl := h.lt
  have hset := heap_setCell_same w g 3 _ _ (.int .i64 c') h.head
  have hsz : (w.setCell ⟨g, 3, none⟩ (.int .i64 c')).heap.size = w.heap.size := by simp [World.setCell]
  have hoth : ∀ k, k ≠ g → (w.setCell ⟨g, 3, none⟩ (.int .i64 c')).heap[k]? = w.heap[k]? := fun k hkg => Below.heap_setCell _ _ _ _ hkg
  exact ⟨h.kept.setCell (.inl a1) _, h.base, hset, h.row.block (by rw [hsz]; exact Nat.le_refl _) (fun b o s e => hoth b (h.blk b o s e).2.1), h.blk, (hoth bx (fun e => hl.2.2.2.2.1 e.symm)).trans h.box, h.m1.block (hoth bk1 (fun e => a4 e.symm)), h.m2.block (hoth bk2 (fun e => a5 e.symm))⟩
/-- A row more: behind an append to the row, the slice is stored. -/
theorem Raw.setRow (h : Raw w0 L g m s n c0 ad cap bk1 bk2 n1 n2 bx l rn rv h1 h2 w) {ad' : Option Addr} {cap' n' : Nat} {l' : List FdM} (hg : w.grownBy w' (ad.map (·.block))) (hq : Rw.QRow EPr w' ad' cap' l') (hb : ∀ b o s, ad' = some ⟨b, o, s⟩ → (∃ o', ad = some ⟨b, o', none⟩) ∨ w.heap.size ≤ b) :
    w'.heap[g]? = w.heap[g]? ∧ Raw w0 L g m s n' c0 ad' cap' bk1 bk2 n1 n2 bx l' rn rv h1 h2 (w'.setCell ⟨g, 2, none⟩ (.slice ad' n' cap')) := by
  obtain ⟨a1, a2, a3, a4, a5, a6, a7, a8⟩ := h.base
  have hl := h.lt
  have hks := h.kept.size
  have hrow : ∀ k, k < w.heap.size → (∀ b o s, ad = some ⟨b, o, s⟩ → b ≠ k) → w'.heap[k]? = w.heap[k]? := fun k hk hne => hg.block k hk (fun e => by
    cases ad with
    | none => cases e
    | some a =>
      simp only [Option.map_some, Option.some.injEq] at e
      exact hne a.block a.off a.spot rfl e.symm)
  have hgw := hrow g hl.1 (fun b o s e => (h.blk b o s e).2.1)
  have hset := heap_setCell_same w' g 2 _ _ (.slice ad' n' cap') (hgw.trans h.head)
  have hsz : (w'.setCell ⟨g, 2, none⟩ (.slice ad' n' cap')).heap.size = w'.heap.size := by simp [World.setCell]
  have hoth : ∀ k, k ≠ g → (w'.setCell ⟨g, 2, none⟩ (.slice ad' n' cap')).heap[k]? = w'.heap[k]? := fun k hkg => Below.heap_setCell _ _ _ _ hkg
  have hblk : ∀ b o s', ad' = some ⟨b, o, s'⟩ → (b ∈ L ∨ w0.heap.size ≤ b) ∧ b ≠ g ∧ b ≠ bk1 ∧ b ≠ bk2 ∧ b ≠ bx := fun b o s' e => by
    rcases hb b o s' e with ⟨o', e'⟩ | hn
    · exact h.blk b o' _ e'
    · exact ⟨.inr (by omega), by omega, by omega, by omega, by omega⟩
  refine ⟨hgw, ⟨(h.kept.grown hg (fun k hk => ?_)).setCell (.inl a1) _, h.base, hset, hq.block (by rw [hsz]; exact Nat.le_refl _) (fun b o s e => hoth b (hblk b o s e).2.1), hblk,
    (hoth bx (fun e => hl.2.2.2.2.1 e.symm)).trans ((hrow bx hl.2.2.2.1 (fun b o s e => (h.blk b o s e).2.2.2.2)).trans h.box),
    h.m1.block ((hoth bk1 (fun e => a4 e.symm)).trans (hrow bk1 hl.2.1 (fun b o s e => (h.blk b o s e).2.2.1))), h.m2.block ((hoth bk2 (fun e => a5 e.symm)).trans (hrow bk2 hl.2.2.1 (fun b o s e => (h.blk b o s e).2.2.2.1)))⟩⟩
  cases ad with
  | none => cases hk
  | some a =>
    simp only [Option.map_some, Option.some.injEq] at hk
    subst hk
    exact (h.blk a.block a.off a.spot rfl).1
theorem Raw.turn1 (h : Raw w0 L g m s n c0 ad cap bk1 bk2 n1 n2 bx l rn rv h1 h2 w) {n1' : Nat} {h1' : ByteArray × ByteArray → Option Nat} (ht : w.mapTurned w' bk1) (hm : MRow w' bk1 n1' h1') : Raw w0 L g m s n c0 ad cap bk1 bk2 n1' n2 bx l rn rv h1' h2 w' := by
  obtain ⟨a1, a2, a3, a4, a5, a6, a7, a8⟩ := h.base
  have hl := h.lt
  exact ⟨Mp.turned_kept h.kept ht (.inl a2), h.base, (Mp.turned_block ht hl.1 a4).trans h.head, h.row.block ht.grown.size (fun b o s e => by
    obtain ⟨b', o', e', hlt, _⟩ := h.row.lies _ e
    simp only [Addr.mk.injEq] at e'
    obtain ⟨rfl, _⟩ := e'
    exact Mp.turned_block ht hlt (h.blk b o s e).2.2.1), h.blk, (Mp.turned_block ht hl.2.2.2.1 (fun e => hl.2.2.2.2.2.1 e.symm)).trans h.box, hm, h.m2.block (Mp.turned_block ht hl.2.2.1 (fun e => a6 e.symm))⟩
theorem Raw.turn2 (h : Raw w0 L g m s n c0 ad cap bk1 bk2 n1 n2 bx l rn rv h1 h2 w) {n2' : Nat} {h2' : ByteArray → Option Nat} (ht : w.mapTurned w' bk2) (hm : MNam w' bk2 n2' h2') : Raw w0 L g m s n c0 ad cap bk1 bk2 n1 n2' bx l rn rv h1 h2' w' := by
  obtain ⟨a1, a2, a3, a4, a5, a6, a7, a8⟩ := h.base
  have hl := h.lt
  exact ⟨Mp.turned_kept h.kept ht (.inl a3), h.base, (Mp.turned_block ht hl.1 a5).trans h.head, h.row.block ht.grown.size (fun b o s e => by
    obtain ⟨b', o', e', hlt, _⟩ := h.row.lies _ e
    simp only [Addr.mk.injEq] at e'
    obtain ⟨rfl, _⟩ := e'
    exact Mp.turned_block ht hlt (h.blk b o s e).2.2.2.1), h.blk, (Mp.turned_block ht hl.2.2.2.1 (fun e => hl.2.2.2.2.2.2 e.symm)).trans h.box, h.m1.block (Mp.turned_block ht hl.2.1 a6), hm⟩
theorem Raw.store1 (h : Raw w0 L g m s n c0 ad cap bk1 bk2 n1 n2 bx l rn rv h1 h2 w) (hok : okRow (rn, rv)) (hn : n1 < maxLen) (k : Nat) :
    ∃ w', (Instr.mapUpdate 94 (.map (some bk1)) (.agg #[.string rn, .string rv]) (.int .i64 k)).run Tryd.prog w = .ok () w' ∧ Raw w0 L g m s n c0 ad cap bk1 bk2 (n1 + 1) n2 bx l rn rv (fun y => if y = (rn, rv) then some k else h1 y) h2 w' := by
  obtain ⟨w', hrun, hm, ht⟩ := Mp.MapF.store h.m1 keysRow Tryd.underlying94 hn hok (.int .i64 k)
  rw [inV_store] at hm
  exact ⟨w', hrun, h.turn1 ht hm⟩
theorem Raw.store2 (h : Raw w0 L g m s n c0 ad cap bk1 bk2 n1 n2 bx l rn rv h1 h2 w) (hok : okNam rn) (hn : n2 < maxLen) (k : Nat) :
    ∃ w', (Instr.mapUpdate 95 (.map (some bk2)) (.string rn) (.int .i64 k)).run Tryd.prog w = .ok () w' ∧ Raw w0 L g m s n c0 ad cap bk1 bk2 n1 (n2 + 1) bx l rn rv h1 (fun y => if y = rn then some k else h2 y) w' := by
  obtain ⟨w', hrun, hm, ht⟩ := Mp.MapF.store h.m2 keysNam Tryd.underlying95 hn hok (.int .i64 k)
  rw [inV_store] at hm
  exact ⟨w', hrun, h.turn2 ht hm⟩
end

set_option maxRecDepth 100000 in
set_option maxHeartbeats 2000000 in
theorem push_q0 {x2 x3 x4 x5 x6 x7 x8 x9 x10 x11 x12 x13 x14 x15 x16 x17 x18 x19 x20 x21 x22 x23 x24 x25 x26 x27 x28 x29 x30 x31 x32 x33 x34 x35 x36 x37 x38 x39 x40 x41 x42 x43 x44 x45 x46 x47 x48 : Value} {K : Act → World → Prop} {R : Ending → World → Prop} (g bx : Nat) (rn rv : ByteArray) (w : World) (hbx : w.heap.size = bx)
    (hQ : Hid (∀ (y1 y2 y4 y5 y6 y7 y8 y9 y10 y11 y12 y13 y14 y15 y16 y17 y18 y19 y20 y21 y22 y23 y24 y25 y26 y27 y28 y29 y30 y31 y32 y33 y34 y35 y36 y37 y38 y39 y40 y41 y42 y43 y44 y45 y46 y47 y48 : Value), K ⟨((.pointer (some ⟨g, 0, none⟩) : Value) :: y1 :: y2 :: (.pointer (some ⟨bx, 0, none⟩) : Value) :: y4 :: y5 :: y6 :: y7 :: y8 :: y9 :: y10 :: y11 :: y12 :: y13 :: y14 :: y15 :: y16 :: y17 :: y18 :: y19 :: y20 :: y21 :: y22 :: y23 :: y24 :: y25 :: y26 :: y27 :: y28 :: y29 :: y30 :: y31 :: y32 :: y33 :: y34 :: y35 :: y36 :: y37 :: y38 :: y39 :: y40 :: y41 :: y42 :: y43 :: y44 :: y45 :: y46 :: y47 :: y48 :: []).toArray, []⟩ (w.alloc (.cells #[.string rn, .string rv] 118)))) :
    Code.wp Tryd.prog (pushStep 0) (Exit.then K (bodyPost Tryd.prog Tryd.f95 R)) ⟨((.pointer (some ⟨g, 0, none⟩) : Value) :: (.agg #[.string rn, .string rv] : Value) :: x2 :: x3 :: x4 :: x5 :: x6 :: x7 :: x8 :: x9 :: x10 :: x11 :: x12 :: x13 :: x14 :: x15 :: x16 :: x17 :: x18 :: x19 :: x20 :: x21 :: x22 :: x23 :: x24 :: x25 :: x26 :: x27 :: x28 :: x29 :: x30 :: x31 :: x32 :: x33 :: x34 :: x35 :: x36 :: x37 :: x38 :: x39 :: x40 :: x41 :: x42 :: x43 :: x44 :: x45 :: x46 :: x47 :: x48 :: []).toArray, []⟩ w := by
  conv => arg 2; whnf
  subst hbx
  go_wp2_with fail
  exact hQ.out _ _ _ _ _ _ _ _ _ _ _ _ _ _ _ _ _ _ _ _ _ _ _ _ _ _ _ _ _ _ _ _ _ _ _ _ _ _ _ _ _ _ _ _ _ _ _

set_option maxRecDepth 100000 in
set_option maxHeartbeats 2000000 in
theorem push_q1 {x1 x2 x4 x5 x6 x7 x8 x9 x10 x11 x12 x13 x14 x15 x16 x17 x18 x19 x20 x21 x22 x23 x24 x25 x26 x27 x28 x29 x30 x31 x32 x33 x34 x35 x36 x37 x38 x39 x40 x41 x42 x43 x44 x45 x46 x47 x48 : Value} {K : Act → World → Prop} {R : Ending → World → Prop} {w0 : World} {L : List Nat} {m s n c0 cap bk1 bk2 n1 n2 : Nat} {ad : Option Addr} {l : List FdM} {h1 : ByteArray × ByteArray → Option Nat} {h2 : ByteArray → Option Nat} (g bx : Nat) (rn rv : ByteArray) (w : World) (hR : Raw w0 L g m s n c0 ad cap bk1 bk2 n1 n2 bx l rn rv h1 h2 w) (hn : n = l.length) (hlen : n ≤ 100000)
    (hQ : Hid (∀ ad' cap' w', Raw w0 L g m s (n + 1) c0 ad' cap' bk1 bk2 n1 n2 bx (l ++ [⟨rn, rv, false⟩]) rn rv h1 h2 w' → ∀ (y1 y2 y4 y5 y6 y7 y8 y9 y10 y11 y12 y13 y14 y15 y16 y17 y18 y19 y20 y21 y22 y23 y24 y25 y26 y27 y28 y29 y30 y31 y32 y33 y34 y35 y36 y37 y38 y39 y40 y41 y42 y43 y44 y45 y46 y47 y48 : Value), K ⟨((.pointer (some ⟨g, 0, none⟩) : Value) :: y1 :: y2 :: (.pointer (some ⟨bx, 0, none⟩) : Value) :: y4 :: y5 :: y6 :: y7 :: y8 :: y9 :: y10 :: y11 :: y12 :: y13 :: y14 :: y15 :: y16 :: y17 :: y18 :: y19 :: y20 :: y21 :: y22 :: y23 :: y24 :: y25 :: y26 :: y27 :: y28 :: y29 :: y30 :: y31 :: y32 :: y33 :: y34 :: y35 :: y36 :: y37 :: y38 :: y39 :: y40 :: y41 :: y42 :: y43 :: y44 :: y45 :: y46 :: y47 :: y48 :: []).toArray, []⟩ w')) :
    Code.wp Tryd.prog (pushStep 1) (Exit.then K (bodyPost Tryd.prog Tryd.f95 R)) ⟨((.pointer (some ⟨g, 0, none⟩) : Value) :: x1 :: x2 :: (.pointer (some ⟨bx, 0, none⟩) : Value) :: x4 :: x5 :: x6 :: x7 :: x8 :: x9 :: x10 :: x11 :: x12 :: x13 :: x14 :: x15 :: x16 :: x17 :: x18 :: x19 :: x20 :: x21 :: x22 :: x23 :: x24 :: x25 :: x26 :: x27 :: x28 :: x29 :: x30 :: x31 :: x32 :: x33 :: x34 :: x35 :: x36 :: x37 :: x38 :: x39 :: x40 :: x41 :: x42 :: x43 :: x44 :: x45 :: x46 :: x47 :: x48 :: []).toArray, []⟩ w := by
  conv => arg 2; whnf
  obtain ⟨i0, hi, hz0, hz1, hz2⟩ := info_parts info_pr
  have HI := Lib.hid hi
  have HZ0 := Lib.hid hz0
  have HZ1 := Lib.hid hz1
  have HZ2 := Lib.hid hz2
  have q2 := cell_at hR.head 2
  have e0 := cell_at hR.box 0
  have e1 := cell_at hR.box 1
  have q2a : ∀ o : Obj, (w.alloc o).cell? ⟨g, 2, none⟩ = some (.slice ad n cap) := fun o => cell_at (alloc_at hR.head) 2
  have HRa : Hid (∀ o : Obj, Raw w0 L g m s n c0 ad cap bk1 bk2 n1 n2 bx l rn rv h1 h2 (w.alloc o)) := Lib.hid (fun o => hR.below ((Below.refl _ _).alloc (Nat.le_refl _) o))
  have HNew : Hid (Rw.RowE EPr (w.alloc (.cells #[.string rn, .string rv] 118)) (some ⟨w.heap.size, 0, none⟩) [(⟨rn, rv, false⟩ : FdM)]) := Lib.hid (.inr ⟨_, _, rfl, fun i hi r u hu => by
    have h0 : i = 0 := by simp at hi; omega
    subst h0
    have hh := heap_alloc_new w (.cells #[.string rn, .string rv] 118)
    rw [cell_at hh]
    simpa [EPr] using hu⟩)
  have HL : Hid (n + 1 ≤ maxLen ∧ (n + 1) * 32 ≤ 140737488355328) := Lib.hid ⟨by unfold maxLen; omega, by omega⟩
  have HN := Lib.hid hn
  clear hi hz0 hz1 hz2 hR hn
  go_region_law ((refine Rw.step_append_que EPr Tryd.underlying96 HI.out HZ0.out HZ1.out HZ2.out rfl rfl (.tmp 8) (.tmp 10) rfl ad n cap l rfl HN.out ((HRa.out _).drew.row) ⟨w.heap.size, 0, none⟩ 1 [⟨rn, rv, false⟩] 1 rfl rfl (HNew.out.below (Below.refl _ _).drew) HL.out.1 HL.out.2 ?_; intro ad4 cap4 w4 hq4 hg4 hb4; have hh4 := ((HRa.out (.cells #[.string rn, .string rv] 118)).drew.setRow (n' := n + 1) hg4.out hq4.out hb4.out).1.trans (HRa.out _).drew.head; have c4 := cell_at hh4 2; have f4 := frozen_of_row _ _ 2 _ _ hh4))
  all_goals exact hQ.out ad4 cap4 _ ((HRa.out (.cells #[.string rn, .string rv] 118)).drew.setRow (n' := n + 1) hg4.out hq4.out hb4.out).2 _ _ _ _ _ _ _ _ _ _ _ _ _ _ _ _ _ _ _ _ _ _ _ _ _ _ _ _ _ _ _ _ _ _ _ _ _ _ _ _ _ _ _ _ _ _ _

set_option maxRecDepth 100000 in
set_option maxHeartbeats 2000000 in
theorem push_q2 {x1 x2 x4 x5 x6 x7 x8 x9 x10 x11 x12 x13 x14 x15 x16 x17 x18 x19 x20 x21 x22 x23 x24 x25 x26 x27 x28 x29 x30 x31 x32 x33 x34 x35 x36 x37 x38 x39 x40 x41 x42 x43 x44 x45 x46 x47 x48 : Value} {K : Act → World → Prop} {R : Ending → World → Prop} {w0 : World} {L : List Nat} {m s n c0 cap bk1 bk2 n1 n2 : Nat} {ad : Option Addr} {l : List FdM} {h1 : ByteArray × ByteArray → Option Nat} {h2 : ByteArray → Option Nat} (g bx C : Nat) (rn rv : ByteArray) (w : World) (hR : Raw w0 L g m s n c0 ad cap bk1 bk2 n1 n2 bx l rn rv h1 h2 w) (HCo : Hid (∀ v, Calls Tryd.prog 94 #[.agg #[.string rn, .string rv]] v fun e w' => e = .returned (.int .i64 C) ∧ Below v.heap.size v w')) (hs : s + C ≤ 1000000)
    (hQ : Hid (∀ w', Raw w0 L g m (s + C) n c0 ad cap bk1 bk2 n1 n2 bx l rn rv h1 h2 w' → ∀ (y1 y2 y4 y5 y6 y7 y8 y9 y10 y11 y12 y13 y14 y15 y16 y17 y18 y19 y20 y21 y22 y23 y24 y25 y26 y27 y28 y29 y30 y31 y32 y33 y34 y35 y36 y37 y38 y39 y40 y41 y42 y43 y44 y45 y46 y47 y48 : Value), K ⟨((.pointer (some ⟨g, 0, none⟩) : Value) :: y1 :: y2 :: (.pointer (some ⟨bx, 0, none⟩) : Value) :: y4 :: y5 :: y6 :: y7 :: y8 :: y9 :: y10 :: y11 :: y12 :: y13 :: y14 :: y15 :: y16 :: y17 :: y18 :: y19 :: y20 :: y21 :: y22 :: y23 :: y24 :: y25 :: y26 :: y27 :: y28 :: y29 :: y30 :: y31 :: y32 :: y33 :: y34 :: y35 :: y36 :: y37 :: y38 :: y39 :: y40 :: y41 :: y42 :: y43 :: y44 :: y45 :: y46 :: y47 :: y48 :: []).toArray, []⟩ w')) :
    Code.wp Tryd.prog (pushStep 2) (Exit.then K (bodyPost Tryd.prog Tryd.f95 R)) ⟨((.pointer (some ⟨g, 0, none⟩) : Value) :: x1 :: x2 :: (.pointer (some ⟨bx, 0, none⟩) : Value) :: x4 :: x5 :: x6 :: x7 :: x8 :: x9 :: x10 :: x11 :: x12 :: x13 :: x14 :: x15 :: x16 :: x17 :: x18 :: x19 :: x20 :: x21 :: x22 :: x23 :: x24 :: x25 :: x26 :: x27 :: x28 :: x29 :: x30 :: x31 :: x32 :: x33 :: x34 :: x35 :: x36 :: x37 :: x38 :: x39 :: x40 :: x41 :: x42 :: x43 :: x44 :: x45 :: x46 :: x47 :: x48 :: []).toArray, []⟩ w := by
  conv => arg 2; whnf
  have HR := Lib.hid hR
  have c1 := cell_at hR.head 1
  have e0 := cell_at hR.box 0
  have e1 := cell_at hR.box 1
  have f1 : w.drew.frozen? ⟨g, 1, none⟩ = false := frozen_of_row _ _ 1 _ _ hR.drew.head
  have f1' : ∀ x : World, Below w.heap.size w.drew x → x.frozen? ⟨g, 1, none⟩ = false := fun x hx => frozen_of_row _ _ 1 _ _ (hR.drew.below (w := w.drew) hx).head
  have hgr : g ≠ bx := hR.lt.2.2.2.2.1
  have hadd : IntKind.i64.wrap ((s : Int) + C) = ((s + C : Nat) : Int) := by rw [IntWalk.i64_in _ (by omega)]; omega
  clear hR
  go_region_with ((go_at_call 94; refine (HCo.out _).mono ?_; rintro e w2 ⟨rfl, b2⟩; have c1' := below_cell b2 c1; have f2 := f1' _ b2))
  all_goals exact hQ.out _ ((HR.out.drew.below (w := w.drew) b2).setSize (s + C)) _ _ _ _ _ _ _ _ _ _ _ _ _ _ _ _ _ _ _ _ _ _ _ _ _ _ _ _ _ _ _ _ _ _ _ _ _ _ _ _ _ _ _ _ _ _ _

set_option maxRecDepth 100000 in
set_option maxHeartbeats 2000000 in
theorem push_q3 {x1 x2 x4 x5 x6 x7 x8 x9 x10 x11 x12 x13 x14 x15 x16 x17 x18 x19 x20 x21 x22 x23 x24 x25 x26 x27 x28 x29 x30 x31 x32 x33 x34 x35 x36 x37 x38 x39 x40 x41 x42 x43 x44 x45 x46 x47 x48 : Value} {K : Act → World → Prop} {R : Ending → World → Prop} {w0 : World} {L : List Nat} {m s n c0 cap bk1 bk2 n1 n2 : Nat} {ad : Option Addr} {l : List FdM} {h1 : ByteArray × ByteArray → Option Nat} {h2 : ByteArray → Option Nat} (g bx : Nat) (rn rv : ByteArray) (w : World) (hR : Raw w0 L g m s n c0 ad cap bk1 bk2 n1 n2 bx l rn rv h1 h2 w) (hc : c0 ≤ 1000000)
    (hQ : Hid (∀ w', Raw w0 L g m s n (c0 + 1) ad cap bk1 bk2 n1 n2 bx l rn rv h1 h2 w' → ∀ (y1 y2 y4 y5 y6 y7 y8 y9 y10 y11 y12 y13 y14 y15 y16 y17 y18 y19 y20 y21 y22 y23 y24 y25 y26 y27 y28 y29 y30 y31 y32 y33 y34 y35 y36 y37 y38 y39 y40 y41 y42 y43 y44 y45 y46 y47 y48 : Value), K ⟨((.pointer (some ⟨g, 0, none⟩) : Value) :: y1 :: y2 :: (.pointer (some ⟨bx, 0, none⟩) : Value) :: y4 :: y5 :: y6 :: y7 :: y8 :: y9 :: y10 :: y11 :: y12 :: y13 :: y14 :: y15 :: y16 :: y17 :: y18 :: y19 :: y20 :: y21 :: y22 :: y23 :: y24 :: y25 :: y26 :: y27 :: y28 :: y29 :: y30 :: y31 :: y32 :: y33 :: y34 :: y35 :: y36 :: y37 :: y38 :: y39 :: y40 :: y41 :: y42 :: y43 :: y44 :: y45 :: y46 :: y47 :: y48 :: []).toArray, []⟩ w')) :
    Code.wp Tryd.prog (pushStep 3) (Exit.then K (bodyPost Tryd.prog Tryd.f95 R)) ⟨((.pointer (some ⟨g, 0, none⟩) : Value) :: x1 :: x2 :: (.pointer (some ⟨bx, 0, none⟩) : Value) :: x4 :: x5 :: x6 :: x7 :: x8 :: x9 :: x10 :: x11 :: x12 :: x13 :: x14 :: x15 :: x16 :: x17 :: x18 :: x19 :: x20 :: x21 :: x22 :: x23 :: x24 :: x25 :: x26 :: x27 :: x28 :: x29 :: x30 :: x31 :: x32 :: x33 :: x34 :: x35 :: x36 :: x37 :: x38 :: x39 :: x40 :: x41 :: x42 :: x43 :: x44 :: x45 :: x46 :: x47 :: x48 :: []).toArray, []⟩ w := by
  conv => arg 2; whnf
  have HR := Lib.hid hR
  have c3 := cell_at hR.head 3
  have f3 := frozen_of_row _ _ 3 _ _ hR.head
  clear hR
  go_wp2_with fail
  exact hQ.out _ (HR.out.setCame (c0 + 1)) _ _ _ _ _ _ _ _ _ _ _ _ _ _ _ _ _ _ _ _ _ _ _ _ _ _ _ _ _ _ _ _ _ _ _ _ _ _ _ _ _ _ _ _ _ _ _

set_option maxRecDepth 100000 in
set_option maxHeartbeats 2000000 in
theorem push_q4 {x1 x2 x4 x5 x6 x7 x8 x9 x10 x11 x12 x13 x14 x15 x16 x17 x18 x19 x20 x21 x22 x23 x24 x25 x26 x27 x28 x29 x30 x31 x32 x33 x34 x35 x36 x37 x38 x39 x40 x41 x42 x43 x44 x45 x46 x47 x48 : Value} {K : Act → World → Prop} {R : Ending → World → Prop} {w0 : World} {L : List Nat} {m s n c0 cap bk1 bk2 n1 n2 : Nat} {ad : Option Addr} {l : List FdM} {h1 : ByteArray × ByteArray → Option Nat} {h2 : ByteArray → Option Nat} (g bx : Nat) (rn rv : ByteArray) (w : World) (hR : Raw w0 L g m s n c0 ad cap bk1 bk2 n1 n2 bx l rn rv h1 h2 w) (hok : okRow (rn, rv)) (hn1 : n1 < maxLen)
    (hQ : Hid (∀ w', Raw w0 L g m s n c0 ad cap bk1 bk2 (n1 + 1) n2 bx l rn rv (fun y => if y = (rn, rv) then some c0 else h1 y) h2 w' → ∀ (y1 y2 y4 y5 y6 y7 y8 y9 y10 y11 y12 y13 y14 y15 y16 y17 y18 y19 y20 y21 y22 y23 y24 y25 y26 y27 y28 y29 y30 y31 y32 y33 y34 y35 y36 y37 y38 y39 y40 y41 y42 y43 y44 y45 y46 y47 y48 : Value), K ⟨((.pointer (some ⟨g, 0, none⟩) : Value) :: y1 :: y2 :: (.pointer (some ⟨bx, 0, none⟩) : Value) :: y4 :: y5 :: y6 :: y7 :: y8 :: y9 :: y10 :: y11 :: y12 :: y13 :: y14 :: y15 :: y16 :: y17 :: y18 :: y19 :: y20 :: y21 :: y22 :: y23 :: y24 :: y25 :: y26 :: y27 :: y28 :: y29 :: y30 :: y31 :: y32 :: y33 :: y34 :: y35 :: y36 :: y37 :: y38 :: y39 :: y40 :: y41 :: y42 :: y43 :: y44 :: y45 :: y46 :: y47 :: y48 :: []).toArray, []⟩ w')) :
    Code.wp Tryd.prog (pushStep 4) (Exit.then K (bodyPost Tryd.prog Tryd.f95 R)) ⟨((.pointer (some ⟨g, 0, none⟩) : Value) :: x1 :: x2 :: (.pointer (some ⟨bx, 0, none⟩) : Value) :: x4 :: x5 :: x6 :: x7 :: x8 :: x9 :: x10 :: x11 :: x12 :: x13 :: x14 :: x15 :: x16 :: x17 :: x18 :: x19 :: x20 :: x21 :: x22 :: x23 :: x24 :: x25 :: x26 :: x27 :: x28 :: x29 :: x30 :: x31 :: x32 :: x33 :: x34 :: x35 :: x36 :: x37 :: x38 :: x39 :: x40 :: x41 :: x42 :: x43 :: x44 :: x45 :: x46 :: x47 :: x48 :: []).toArray, []⟩ w := by
  conv => arg 2; whnf
  obtain ⟨w2, hrun, hR2⟩ := hR.drew.store1 hok hn1 c0
  have q4 := cell_at hR.head 4
  have q3 := cell_at hR.head 3
  have e0 := cell_at hR.box 0
  have e1 := cell_at hR.box 1
  clear hR
  go_region
  all_goals exact hQ.out _ hR2 _ _ _ _ _ _ _ _ _ _ _ _ _ _ _ _ _ _ _ _ _ _ _ _ _ _ _ _ _ _ _ _ _ _ _ _ _ _ _ _ _ _ _ _ _ _ _

set_option maxRecDepth 100000 in
set_option maxHeartbeats 2000000 in
theorem push_q5 {x1 x2 x4 x5 x6 x7 x8 x9 x10 x11 x12 x13 x14 x15 x16 x17 x18 x19 x20 x21 x22 x23 x24 x25 x26 x27 x28 x29 x30 x31 x32 x33 x34 x35 x36 x37 x38 x39 x40 x41 x42 x43 x44 x45 x46 x47 x48 : Value} {R : Ending → World → Prop} {w0 : World} {L : List Nat} {m s n c0 cap bk1 bk2 n1 n2 : Nat} {ad : Option Addr} {l : List FdM} {h1 : ByteArray × ByteArray → Option Nat} {h2 : ByteArray → Option Nat} (g bx : Nat) (rn rv : ByteArray) (w : World) (hR : Raw w0 L g m s n c0 ad cap bk1 bk2 n1 n2 bx l rn rv h1 h2 w) (hok : okNam rn) (hn2 : n2 < maxLen)
    (hQ : Hid (∀ a' w', a'.defers = [] → Raw w0 L g m s n c0 ad cap bk1 bk2 n1 (n2 + 1) bx l rn rv h1 (fun y => if y = rn then some c0 else h2 y) w' → (bodyPost Tryd.prog Tryd.f95 R) .normal a' w')) :
    Code.wp Tryd.prog (pushCode 5) (bodyPost Tryd.prog Tryd.f95 R) ⟨((.pointer (some ⟨g, 0, none⟩) : Value) :: x1 :: x2 :: (.pointer (some ⟨bx, 0, none⟩) : Value) :: x4 :: x5 :: x6 :: x7 :: x8 :: x9 :: x10 :: x11 :: x12 :: x13 :: x14 :: x15 :: x16 :: x17 :: x18 :: x19 :: x20 :: x21 :: x22 :: x23 :: x24 :: x25 :: x26 :: x27 :: x28 :: x29 :: x30 :: x31 :: x32 :: x33 :: x34 :: x35 :: x36 :: x37 :: x38 :: x39 :: x40 :: x41 :: x42 :: x43 :: x44 :: x45 :: x46 :: x47 :: x48 :: []).toArray, []⟩ w := by
  conv => arg 2; whnf
  obtain ⟨w2, hrun, hR2⟩ := hR.drew.store2 hok hn2 c0
  have q5 := cell_at hR.head 5
  have q3 := cell_at hR.head 3
  have e0 := cell_at hR.box 0
  clear hR
  go_region
  all_goals exact hQ.out _ _ rfl hR2

theorem plc_store {κ : Type} [DecidableEq κ] (key : FdM → κ) (f : FdM) (r : List FdM) (c : Nat) : (fun y => if y = key f then some (c + 1) else plc key y r c) = fun y => plc key y (f :: r) (c + 1) := by
  funext y
  rw [plc_push]
  by_cases e : y = key f
  · simp [e]
  · rw [if_neg e, if_neg (fun h => e h.symm)]

theorem ppush_any (L : List Nat) (g m c : Nat) (rows : List FdM) (rn rv : ByteArray) (w : World) (h : PTs w L g m rows c) (hc : c < 1000000) (hsz : csum rows + (rn.size + rv.size + 32) ≤ 65536) :
    Calls Tryd.prog 95 #[.pointer (some ⟨g, 0, none⟩), .agg #[.string rn, .string rv]] w fun e w' => e = .returned (.tuple #[]) ∧ ∃ L', PTs w' L' g m (⟨rn, rv, false⟩ :: rows) (c + 1) ∧ Kept L w w' ∧ ∀ k ∈ L', k ∈ L ∨ w.heap.size ≤ k := by
  obtain ⟨c0, ad, cap, bk1, bk2, n1, n2, hP, hc0, hn1, hn2, hm, hs⟩ := h
  obtain ⟨⟨hg, hb1, hb2, hgb1, hgb2, hbb, hk, ha⟩, hh, hq, hm1, hm2, hl, hc1, hr⟩ := hP
  have h32 := csum_len rows
  have hB : Below w.heap.size w (w.alloc (.cells #[.string rn, .string rv] 118)) := (Below.refl _ _).alloc (Nat.le_refl _) _
  have hok1 : okRow (rn, rv) := by constructor <;> (simp only; unfold maxLen; omega)
  have hok2 : okNam rn := by show rn.size ≤ maxLen; unfold maxLen; omega
  have hR : Raw w L g m (csum rows) rows.length c0 ad cap bk1 bk2 n1 n2 w.heap.size rows.reverse rn rv (fun x => plc nmV x rows c0) (fun x => plc (·.name) x rows c0) (w.alloc (.cells #[.string rn, .string rv] 118)) :=
    ⟨(Kept.refl L w).then hB, ⟨hg, hb1, hb2, hgb1, hgb2, hbb, hk, Nat.le_refl _⟩, block_below hB hh, hq.below hB, fun b o s' e => by
      have h1 := ha b o s' e
      have h2 := hk b h1.1
      exact ⟨.inl h1.1, h1.2.1, h1.2.2.1, h1.2.2.2, by omega⟩, heap_alloc_new w _, Mp.MapF.below hm1 hB, Mp.MapF.below hm2 hB⟩
  have hmx : c < maxLen := by unfold maxLen; omega
  have hE : ∀ (a' : Act) (w2 : World), a'.defers = [] → (∃ L', PTs w2 L' g m (⟨rn, rv, false⟩ :: rows) (c + 1) ∧ Kept L w w2 ∧ ∀ k ∈ L', k ∈ L ∨ w.heap.size ≤ k) → bodyPost Tryd.prog Tryd.f95 (fun e w' => e = .returned (.tuple #[]) ∧ ∃ L', PTs w' L' g m (⟨rn, rv, false⟩ :: rows) (c + 1) ∧ Kept L w w' ∧ ∀ k ∈ L', k ∈ L ∨ w.heap.size ≤ k) .normal a' w2 := fun a' w2 hd hE => by
    obtain ⟨tm, df⟩ := a'
    simp only at hd
    subst hd
    exact bodyPost_end (results_none rfl _ _ _) rfl ⟨rfl, hE⟩
  go_enter Tryd.func95, Tryd.ntmps95
  refine wp_seq ?_
  refine push_q0 g w.heap.size rn rv w rfl (Lib.hid ?_)
  intros
  refine wp_seq ?_
  refine push_q1 g w.heap.size rn rv _ hR (by simp) (by omega) (Lib.hid ?_)
  intro ad1 cap1 w1 hR1
  intros
  refine wp_seq ?_
  refine push_q2 g w.heap.size (rn.size + rv.size + 32) rn rv w1 hR1 (Lib.hid (fun v => pcost_any rn rv v (by omega) (by omega))) (by omega) (Lib.hid ?_)
  intro w2 hR2
  intros
  refine wp_seq ?_
  refine push_q3 g w.heap.size rn rv w2 hR2 hc1 (Lib.hid ?_)
  intro w3 hR3
  intros
  refine wp_seq ?_
  refine push_q4 g w.heap.size rn rv w3 hR3 hok1 (by omega) (Lib.hid ?_)
  intro w4 hR4
  intros
  refine push_q5 g w.heap.size rn rv w4 hR4 hok2 (by omega) (Lib.hid (fun a' w5 hd hR5 => hE a' w5 hd ?_))
  rw [plc_store (fun f : FdM => f.name) ⟨rn, rv, false⟩ rows c0] at hR5
  have e1 := plc_store nmV ⟨rn, rv, false⟩ rows c0
  simp only [nmV] at e1
  rw [show (fun y => if y = (rn, rv) then some (c0 + 1) else plc nmV y rows c0) = fun y => plc nmV y (⟨rn, rv, false⟩ :: rows) (c0 + 1) from e1] at hR5
  have hks := hR5.kept.size
  refine ⟨L ++ adBk ad1, ⟨c0 + 1, ad1, cap1, bk1, bk2, n1 + 1, n2 + 1, ⟨⟨List.mem_append_left _ hg, List.mem_append_left _ hb1, List.mem_append_left _ hb2, hgb1, hgb2, hbb, fun k hk' => ?_, fun b o s' e => ?_⟩, ?_, by simpa using hR5.row, hR5.m1, hR5.m2, by simp; omega, by omega, ?_⟩, by omega, by omega, by omega, hm, ?_⟩, hR5.kept, fun k hk' => ?_⟩
  · rcases List.mem_append.mp hk' with h | h
    · exact Nat.lt_of_lt_of_le (hk k h) hks
    · cases ad1 with
      | none => cases h
      | some a =>
        simp only [adBk, List.mem_singleton] at h
        obtain ⟨b, off, e, hlt, _⟩ := hR5.row.lies a rfl
        subst e
        rw [h]; exact hlt
  · have := hR5.blk b o s' e
    refine ⟨?_, this.2.1, this.2.2.1, this.2.2.2.1⟩
    subst e
    simp [adBk]
  · have e2 : csum (⟨rn, rv, false⟩ :: rows) = csum rows + (rn.size + rv.size + 32) := by show cost ⟨rn, rv, false⟩ + csum rows = _; show rn.size + rv.size + 32 + csum rows = _; omega
    rw [e2]
    exact hR5.head
  · intro x hx
    rcases List.mem_cons.mp hx with rfl | hx
    · exact ⟨rfl, by show rn.size + rv.size + 32 ≤ 65536; omega⟩
    · exact hr x hx
  · show rn.size + rv.size + 32 + csum rows ≤ 65536; omega
  · rcases List.mem_append.mp hk' with h | h
    · exact .inl h
    · cases ad1 with
      | none => cases h
      | some a =>
        simp only [adBk, List.mem_singleton] at h
        subst h
        exact (hR5.blk a.block a.off a.spot rfl).1
end Go.Proofs.YtdkgachgohilcaaDoor
