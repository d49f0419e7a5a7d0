/- Layer 5: the program's Decode. Layer 5: the program's Decode as a whole. -/
import Derived.Test.YtdkgachgohilcaaDoorGP22
import Derived.Deep.LoopGhost
set_option linter.unusedVariables false
set_option linter.unusedSimpArgs false
namespace Go.Proofs.YtdkgachgohilcaaDoor
open Go.RowKit
open Huf Pre Tab Hpk Arg Mem Gen Wr Go.Proofs.YtdkgachgohilcaaDoor.Obj
set_option linter.unusedVariables false
variable {w : World} {L : List Nat} {g md ld t m c : Nat} {rows : List FdM} {lf : Value} {Q : Ending → World → Prop}

/-- The program's decoder. -/
structure PDec (w : World) (L : List Nat) (g md ld t m : Nat) (rows : List FdM) (c : Nat) (lf : Value) : Prop where
  blk : w.heap[g]? = some (.cells #[.int .i64 md, .int .i64 ld, .pointer (some ⟨t, 0, none⟩), lf] 67 (0, 0))
  tab : PTab w L t m rows c
  no : g ∉ L
theorem PDec.kept (h : PDec w L g md ld t m rows c lf) {w' : World} (hs : w.heap.size ≤ w'.heap.size) (hb : ∀ k, k = g ∨ k ∈ L → w'.heap[k]? = w.heap[k]?) : PDec w' L g md ld t m rows c lf :=
  ⟨(hb g (.inl rfl)).trans h.blk, h.tab.kept hs (fun k hk => hb k (.inr hk)), h.no⟩
theorem PDec.lt (h : PDec w L g md ld t m rows c lf) : g < w.heap.size := (Array.getElem?_eq_some_iff.1 h.blk).1
theorem PDec.below (h : PDec w L g md ld t m rows c lf) {w' : World} (hb : Below w.heap.size w w') : PDec w' L g md ld t m rows c lf :=
  h.kept hb.size (fun k hk => hb.block k (by rcases hk with rfl | hk
                                             · exact h.lt
                                             · exact h.tab.blocks k hk))
/-- A decoder that is of no use any more. -/
def PBrk (w : World) (g md ld : Nat) : Prop := ∃ v, w.heap[g]? = some (.cells #[.int .i64 md, .int .i64 ld, .pointer none, v] 67 (0, 0))

/-- What Decode leaves. -/
def PDecEnd (w : World) (L : List Nat) (g md ld t K : Nat) (lf : Value) (R : (Nat × List FdM) × (Nat × List FdM) × Bool) (e : Ending) (w' : World) : Prop :=
  ∃ (oa : Option Addr) (oc : Nat), e = .returned (.tuple #[.slice oa R.1.2.length oc, .int .i64 R.1.1]) ∧ Rw.QRow EFd w' oa oc R.1.2 ∧ (∀ b o s, oa = some ⟨b, o, s⟩ → (b ∈ L ∨ w.heap.size ≤ b) ∧ b ≠ g) ∧ Kept (g :: L) w w' ∧
    (R.2.2 = true → PBrk w' g md ld) ∧ (R.2.2 = false → ∃ L' c', PDec w' L' g md ld t R.2.1.1 R.2.1.2 c' lf ∧ (∀ k ∈ L', k ∈ L ∨ w.heap.size ≤ k) ∧ 2 * c' ≤ K ∧ ∀ b o s, oa = some ⟨b, o, s⟩ → b ∉ L')

/-- What stands behind a block that was read whole. -/
theorem dec_fin {r b2 b4 b5 : Nat} {d : RD} {wr : World} (hX : RX b2 w L r [b5, b4, b2] d wr) (hwb : w.heap.size = b2) :
    ∃ L2 ra rc fa fc fl ga gc gn, wr.heap[r]? = some (.cells (rCells d.t d.md d.ld ra d.rest.length rc d.sizes d.cst fa fl.length fc d.had ga gn gc) 70 (0, 0)) ∧ (d.cst ≤ d.ld → fl = d.out) ∧ (r ≠ b4 ∧ r ≠ b5) ∧ (∀ b o s, fa = some ⟨b, o, s⟩ → (b ∈ L ∨ w.heap.size ≤ b) ∧ b ∉ L2) ∧ (∀ k ∈ L2, k ∈ L ∨ w.heap.size ≤ k) ∧
      ∀ wz : World, wz.os = wr.os → wz.tape = wr.tape → wz.output = wr.output → wr.heap.size ≤ wz.heap.size → (∀ k, k < wr.heap.size → k ≠ b4 → k ≠ b5 → wz.heap[k]? = wr.heap[k]?) → PTab wz L2 d.t d.m d.rows d.c ∧ Rw.QRow EFd wz fa fc fl ∧ Kept L w wz := by
  obtain ⟨⟨L1, hR, hL⟩, h1, h2, h3, h4, h5, h6⟩ := hX
  obtain ⟨L2, ra, rc, fa, fc, fl, ga, gc, gl, hh, hp, hr⟩ := hR
  have up : ∀ k, (k ∈ L1 ∨ wr.heap.size ≤ k) → k < wr.heap.size → (k ∈ L ∨ w.heap.size ≤ k) ∧ k ≠ b4 ∧ k ≠ b5 := fun k hk hlt => by
    rcases hk with hk | hk
    · have := hL k hk
      simp only [List.mem_cons, List.not_mem_nil, or_false, not_or] at this
      exact ⟨by rw [hwb]; exact this.1, this.2.2.2.1, this.2.2.1⟩
    · omega
  have e4 := h6 b4 (by simp)
  have e5 := h6 b5 (by simp)
  refine ⟨L2, ra, rc, fa, fc, fl, ga, gc, _, hh, hr.1, (up r hp.rB hp.rlt).2, fun b o s e => ⟨(up b (hp.f.ap b o s e).1 (hp.f.lt b o s e)).1, (hp.f.ap b o s e).2.1⟩, fun k hk => (up k (hp.new k hk) (hp.tab.blocks k hk)).1, fun wz ho ht hu hs hb => ⟨hp.tab.kept hs (fun k hk => ?_), hp.f.row.block hs (fun b o s e => ?_), ?_⟩⟩
  · have := up k (hp.new k hk) (hp.tab.blocks k hk)
    exact hb k (hp.tab.blocks k hk) this.2.1 this.2.2
  · have := up b (hp.f.ap b o s e).1 (hp.f.lt b o s e)
    exact hb b (hp.f.lt b o s e) this.2.1 this.2.2
  · exact ⟨ho.trans h2.os, ht.trans h2.tape, hu.trans h2.output, Nat.le_trans h2.size hs, fun k hk hn => (hb k (Nat.lt_of_lt_of_le hk h2.size) (by omega) (by omega)).trans (h2.block k hk (by omega) hn)⟩

set_option maxRecDepth 100000 in
set_option maxHeartbeats 2000000 in
theorem pdecode_nil (v : Value) (w : World) : Calls Tryd.prog 12 #[.pointer none, v] w fun e w' => e = .returned (.tuple #[.slice none 0 0, .int .i64 5]) ∧ Below w.heap.size w w' := by
  go_enter_defers Tryd.func12, Tryd.ntmps12
  go_wp2_with fail
  refine ⟨.tuple #[.slice none 0 0, .int .i64 5], by simp [results, Tryd.results12, go_sem], rfl, ?_⟩
  exact (((Below.refl _ w).alloc (Nat.le_refl _) _).alloc (by simp) _).alloc (by simp; omega) _

set_option maxRecDepth 100000 in
set_option maxHeartbeats 2000000 in
theorem pdecode_brk (v : Value) (w : World) (h : PBrk w g md ld) : Calls Tryd.prog 12 #[.pointer (some ⟨g, 0, none⟩), v] w fun e w' => e = .returned (.tuple #[.slice none 0 0, .int .i64 5]) ∧ Below w.heap.size w w' := by
  obtain ⟨lv, hg⟩ := h
  have cA : ∀ o1 o2 o3 : Obj, (((w.alloc o1).alloc o2).alloc o3).cell? ⟨g, 2, none⟩ = some (.pointer none) := fun o1 o2 o3 => cell_at (alloc_at (alloc_at (alloc_at hg))) 2
  go_enter_defers Tryd.func12, Tryd.ntmps12
  go_wp2_with fail
  refine ⟨.tuple #[.slice none 0 0, .int .i64 5], by simp [results, Tryd.results12, go_sem], rfl, ?_⟩
  exact (((Below.refl _ w).alloc (Nat.le_refl _) _).alloc (by simp) _).alloc (by simp; omega) _

/-- The three boxes of a call of Decode. -/
structure Box3 (g b2 b4 b5 : Nat) (v4 v5 : Value) (w : World) : Prop where
  h2 : w.heap[b2]? = some (.cells #[.pointer (some ⟨g, 0, none⟩)] 25 (0, 0))
  h4 : w.heap[b4]? = some (.cells #[v4] 31 (0, 0))
  h5 : w.heap[b5]? = some (.cells #[v5] 26 (0, 0))
  e4 : b4 = b2 + 1
  e5 : b5 = b2 + 2

theorem plen_eq (L : List Nat) (g m c : Nat) (rows : List FdM) (w : World) (h : PTab w L g m rows c) :
    Calls Tryd.prog 29 #[.pointer (some ⟨g, 0, none⟩)] w fun e w' => e = .returned (.int .i64 rows.length) ∧ w = w' := by
  obtain ⟨⟨c0, ad, cap, b1, b2, n1, n2, ⟨_, hh, _⟩, _⟩, _⟩ := h
  have c0 := cell_at hh 2
  clear hh
  generalize rows.length = s at *
  go_enter Tryd.func29, Tryd.ntmps29
  go_wp2_with fail
  go_ret
  exact ⟨rfl, rfl⟩

/-- A block that couldn't be read. -/
theorem dec_bad {r b2 b4 b5 er : Nat} {d : RD} {wr wa : World} {pt : Value} (hX : RX b2 w L r [b5, b4, b2] d wr) (hB : Box3 g b2 b4 b5 (.slice none 0 0) (.int .i64 0) wr)
    (hg : w.heap[g]? = some (.cells #[.int .i64 md, .int .i64 ld, pt, lf] 67 (0, 0))) (hgl : g < b2) (hno : g ∉ L) (hwb : w.heap.size = b2) (hb : Below wr.heap.size wr wa) (ad : Option Addr) (n c0 : Nat) (K : Nat) (R2 : Nat × List FdM) :
    ((((wa.setCell ⟨g, 2, none⟩ (.pointer none)).setCell ⟨g, 3, none⟩ (.slice ad n c0)).setCell ⟨b4, 0, none⟩ (.slice none 0 0)).setCell ⟨b5, 0, none⟩ (.int .i64 er)).cell? ⟨b4, 0, none⟩ = some (.slice none 0 0) ∧
    ((((wa.setCell ⟨g, 2, none⟩ (.pointer none)).setCell ⟨g, 3, none⟩ (.slice ad n c0)).setCell ⟨b4, 0, none⟩ (.slice none 0 0)).setCell ⟨b5, 0, none⟩ (.int .i64 er)).cell? ⟨b5, 0, none⟩ = some (.int .i64 er) ∧
    PDecEnd w L g md ld t K lf ((er, []), R2, true) (.returned (.tuple #[.slice none 0 0, .int .i64 er])) ((((wa.setCell ⟨g, 2, none⟩ (.pointer none)).setCell ⟨g, 3, none⟩ (.slice ad n c0)).setCell ⟨b4, 0, none⟩ (.slice none 0 0)).setCell ⟨b5, 0, none⟩ (.int .i64 er)) := by
  obtain ⟨hB2, hB4, hB5, e4, e5⟩ := hB
  have ht := hX.trn
  have hgr : wr.heap[g]? = some (.cells #[.int .i64 md, .int .i64 ld, pt, lf] 67 (0, 0)) := (ht.block g (by omega) (by omega) hno).trans hg
  have hga := block_below hb hgr
  have h4a := block_below hb hB4
  have h5a := block_below hb hB5
  have k1 := heap_setCell_same wa g 2 _ _ (.pointer none) hga
  have k2 := heap_setCell_same _ g 3 _ _ (.slice ad n c0) k1
  have j4 : ((wa.setCell ⟨g, 2, none⟩ (.pointer none)).setCell ⟨g, 3, none⟩ (.slice ad n c0)).heap[b4]? = some (.cells #[.slice none 0 0] 31 (0, 0)) := by
    rw [Below.heap_setCell _ _ _ _ (by show b4 ≠ g; omega), Below.heap_setCell _ _ _ _ (by show b4 ≠ g; omega)]; exact h4a
  have j5 : (((wa.setCell ⟨g, 2, none⟩ (.pointer none)).setCell ⟨g, 3, none⟩ (.slice ad n c0)).setCell ⟨b4, 0, none⟩ (.slice none 0 0)).heap[b5]? = some (.cells #[.int .i64 0] 26 (0, 0)) := by
    rw [Below.heap_setCell _ _ _ _ (by show b5 ≠ b4; omega), Below.heap_setCell _ _ _ _ (by show b5 ≠ g; omega), Below.heap_setCell _ _ _ _ (by show b5 ≠ g; omega)]; exact h5a
  have m4 := heap_setCell_same _ b4 0 _ _ (.slice none 0 0) j4
  have m5 := heap_setCell_same _ b5 0 _ _ (.int .i64 er) j5
  have m4' : ((((wa.setCell ⟨g, 2, none⟩ (.pointer none)).setCell ⟨g, 3, none⟩ (.slice ad n c0)).setCell ⟨b4, 0, none⟩ (.slice none 0 0)).setCell ⟨b5, 0, none⟩ (.int .i64 er)).heap[b4]? = _ := (Below.heap_setCell _ _ _ _ (by show b4 ≠ b5; omega)).trans m4
  refine ⟨cell_at m4' 0, cell_at m5 0, none, 0, rfl, Rw.QRow.bare _ _, fun b o s e => (by cases e), ?_, fun _ => ⟨.slice ad n c0, ?_⟩, fun e => (by cases e)⟩
  · refine ⟨hb.os.trans ht.os, hb.tape.trans ht.tape, hb.output.trans ht.output, ?_, fun k hk hn => ?_⟩
    · have h1 := ht.size
      have h2 := hb.size
      simp only [World.setCell]
      simp
      omega
    · simp only [List.mem_cons, not_or] at hn
      rw [Below.heap_setCell _ _ _ _ (by show k ≠ b5; omega), Below.heap_setCell _ _ _ _ (by show k ≠ b4; omega), Below.heap_setCell _ _ _ _ (by show k ≠ g; exact hn.1), Below.heap_setCell _ _ _ _ (by show k ≠ g; exact hn.1), hb.block k (Nat.lt_of_lt_of_le hk ht.size)]
      exact ht.block k hk (by omega) hn.2
  · rw [Below.heap_setCell _ _ _ _ (by show g ≠ b5; omega), Below.heap_setCell _ _ _ _ (by show g ≠ b4; omega)]
    exact k2

end Go.Proofs.YtdkgachgohilcaaDoor

namespace Go.Proofs.YtdkgachgohilcaaDoor
open Go.RowKit
open Huf Pre Tab Hpk Arg Mem Gen Wr Go.Proofs.YtdkgachgohilcaaDoor.Obj
set_option linter.unusedVariables false
variable {w : World} {L : List Nat} {g md ld t m c : Nat} {rows : List FdM} {lf : Value}

theorem dec_wz {b2 b4 b5 : Nat} {v4 v5 : Value} {wr : World} {o : Option Obj} {P : World → Prop} (hB : Box3 g b2 b4 b5 v4 v5 wr) (hg : wr.heap[g]? = o) (hgl : g < b2)
    (hz : ∀ wz : World, wz.os = wr.os → wz.tape = wr.tape → wz.output = wr.output → wr.heap.size ≤ wz.heap.size → (∀ k, k < wr.heap.size → k ≠ b4 → k ≠ b5 → wz.heap[k]? = wr.heap[k]?) → P wz) (nq : Nat) (va ve : Value) :
    (((wr.drewN nq).setCell ⟨b4, 0, none⟩ va).setCell ⟨b5, 0, none⟩ ve).cell? ⟨b4, 0, none⟩ = some va ∧ (((wr.drewN nq).setCell ⟨b4, 0, none⟩ va).setCell ⟨b5, 0, none⟩ ve).cell? ⟨b5, 0, none⟩ = some ve ∧
    (((wr.drewN nq).setCell ⟨b4, 0, none⟩ va).setCell ⟨b5, 0, none⟩ ve).heap[g]? = o ∧ P (((wr.drewN nq).setCell ⟨b4, 0, none⟩ va).setCell ⟨b5, 0, none⟩ ve) := by
  obtain ⟨hB2, hB4, hB5, e4, e5⟩ := hB
  have hbq : Below wr.heap.size wr (wr.drewN nq) := below_drewN wr nq
  have j4 := heap_setCell_same _ b4 0 _ _ va (block_below hbq hB4)
  have j5 : ((wr.drewN nq).setCell ⟨b4, 0, none⟩ va).heap[b5]? = some (.cells #[v5] 26 (0, 0)) := (Below.heap_setCell _ _ _ _ (by show b5 ≠ b4; omega)).trans (block_below hbq hB5)
  have m5 := heap_setCell_same _ b5 0 _ _ ve j5
  have m4 := (Below.heap_setCell ((wr.drewN nq).setCell ⟨b4, 0, none⟩ va) ⟨b5, 0, none⟩ ve b4 (by show b4 ≠ b5; omega)).trans j4
  refine ⟨cell_at m4 0, cell_at m5 0, ?_, hz _ hbq.os hbq.tape hbq.output (by have := hbq.size; simp [World.setCell]; try omega) (fun k hk n4 n5 => ?_)⟩
  · rw [Below.heap_setCell _ _ _ _ (by show g ≠ b5; omega), Below.heap_setCell _ _ _ _ (by show g ≠ b4; omega)]
    by_cases hlt : g < wr.heap.size
    · rw [hbq.block g hlt]; exact hg
    · have := Array.getElem?_eq_none (xs := wr.heap) (i := b4) (by omega)
      rw [this] at hB4; cases hB4
  · rw [Below.heap_setCell _ _ _ _ (by show k ≠ b5; exact n5), Below.heap_setCell _ _ _ _ (by show k ≠ b4; exact n4)]
    exact hbq.block k hk

set_option maxRecDepth 100000 in
set_option maxHeartbeats 4000000 in
/-- Decode, behind the block's reading. -/
theorem dec_tail {r b2 b4 b5 : Nat} (N K : Nat) (hN : N ≤ 100000000) (hK : K ≤ 1999990) (d : RD) (wf : World) (hX : RX b2 w L r [b5, b4, b2] d wf) (hI : InvD N K d) (hB : Box3 g b2 b4 b5 (.slice none 0 0) (.int .i64 0) wf)
    (hg : w.heap[g]? = some (.cells #[.int .i64 md, .int .i64 ld, .pointer (some ⟨t, 0, none⟩), lf] 67 (0, 0))) (hgl : g < b2) (hno : g ∉ L) (hwb : w.heap.size = b2) (hdt : d.t = t) (hdm : d.md = md) (hdl : d.ld = ld)
    (F0 : Nat) (hF : d.rest.length ≤ F0) (R : (Nat × List FdM) × (Nat × List FdM) × Bool) (hR : decD (F0 + 1) d = R) (x0 x1 x3 x7 x8 x9 x10 x11 x12 x13 x14 x15 x16 x17 x18 x19 x20 x21 x22 x23 x24 x25 x26 x27 x28 x29 x30 x31 x32 x33 x34 x35 x36 x37 x38 x39 x40 x41 x42 x43 x44 x45 x46 x47 x48 x49 : Value) :
    (Fr.tail Tryd.f12 3).wp Tryd.prog (bodyPostD Tryd.prog Tryd.f12 (PDecEnd w L g md ld t K lf R)) ⟨(x0 :: x1 :: (.pointer (some ⟨b2, 0, none⟩)) :: x3 :: (.pointer (some ⟨b4, 0, none⟩)) :: (.pointer (some ⟨b5, 0, none⟩)) :: (.pointer (some ⟨r, 0, none⟩)) :: x7 :: x8 :: x9 :: x10 :: x11 :: x12 :: x13 :: x14 :: x15 :: x16 :: x17 :: x18 :: x19 :: x20 :: x21 :: x22 :: x23 :: x24 :: x25 :: x26 :: x27 :: x28 :: x29 :: x30 :: x31 :: x32 :: x33 :: x34 :: x35 :: x36 :: x37 :: x38 :: x39 :: x40 :: x41 :: x42 :: x43 :: x44 :: x45 :: x46 :: x47 :: x48 :: x49 :: []).toArray, []⟩ wf := by
  have hmf : ∀ (fn : Fn) (first cap : Array Value) (w : World), (Instr.makeFunc fn first cap).run Tryd.prog w = .ok (.func fn first cap) w := fun _ _ _ _ => rfl
  obtain ⟨Q, hQ⟩ : ∃ x, x = PDecEnd w L g md ld t K lf R := ⟨_, rfl⟩
  rw [← hQ]
  have HQ := Lib.hid hQ
  have HG := Lib.hid hg
  have HA := Lib.hid (show Hid (∃ d, RX b2 w L r [b5, b4, b2] d wf ∧ InvD N K d ∧ Box3 g b2 b4 b5 (.slice none 0 0) (.int .i64 0) wf ∧ d.t = t ∧ d.md = md ∧ d.ld = ld ∧ d.rest.length ≤ F0 ∧ decD (F0 + 1) d = R) from Lib.hid ⟨d, hX, hI, hB, hdt, hdm, hdl, hF, hR⟩)
  have HNo := Lib.hid hno
  have HW := Lib.hid hwb
  clear hQ hg hX hI hB hdt hdm hdl hF hR hno hwb d
  conv => arg 2; whnf
  go_wp2_with fail
  go_loopg [] F0 (fun k v => Hid (∃ d, RX b2 w L r [b5, b4, b2] d v ∧ InvD N K d ∧ Box3 g b2 b4 b5 (.slice none 0 0) (.int .i64 0) v ∧ d.t = t ∧ d.md = md ∧ d.ld = ld ∧ d.rest.length ≤ k ∧ decD (k + 1) d = R))
  case atStart => exact HA.out
  case round =>
    clear HA
    obtain ⟨d, hX, hI, hB, hdt, hdm, hdl, hF, hR⟩ := hrel.out
    clear hrel
    obtain ⟨L2, ra, rc, fa, fc, fl, ga, gc, gn, hh, hfl, ⟨hr4, hr5⟩, hfa, hL2, hz⟩ := dec_fin hX HW.out
    have q2 : wr.cell? ⟨b2, 0, none⟩ = some (.pointer (some ⟨g, 0, none⟩)) := cell_at hB.h2 0
    have hgr : wr.heap[g]? = some (.cells #[.int .i64 md, .int .i64 ld, .pointer (some ⟨t, 0, none⟩), lf] 67 (0, 0)) := (hX.trn.block g (by rw [HW.out]; exact hgl) hgl HNo.out).trans HG.out
    by_cases hne : d.rest = []
    · have c3 : wr.cell? ⟨r, 3, none⟩ = some (.slice ra 0 rc) := by rw [show (0 : Nat) = d.rest.length by rw [hne]; rfl]; exact cell_at hh 3
      have c5 : wr.cell? ⟨r, 5, none⟩ = some (.int .i64 d.cst) := cell_at hh 5
      have c6 : wr.cell? ⟨r, 6, none⟩ = some (.slice fa fl.length fc) := cell_at hh 6
      have g1 : wr.cell? ⟨g, 1, none⟩ = some (.int .i64 ld) := cell_at hgr 1
      have c4 : wr.cell? ⟨b4, 0, none⟩ = some (.slice none 0 0) := cell_at hB.h4 0
      have c5' : wr.cell? ⟨b5, 0, none⟩ = some (.int .i64 0) := cell_at hB.h5 0
      have z4 : wr.frozen? ⟨b4, 0, none⟩ = false := frozen_of_row _ _ _ _ _ hB.h4
      have z5 : wr.frozen? ⟨b5, 0, none⟩ = false := frozen_of_row _ _ _ _ _ hB.h5
      have n45 : b4 ≠ b5 := by have := hB.e4; have := hB.e5; omega
      have n54 : b5 ≠ b4 := fun e => n45 e.symm
      have HH := Lib.hid hh
      have HX := Lib.hid hX
      have HB := Lib.hid hB
      have HFl := Lib.hid hfl
      have HFa := Lib.hid hfa
      have HL2 := Lib.hid hL2
      have HZ := Lib.hid hz
      have HF := Lib.hid hF
      have HR := Lib.hid hR
      have HI := Lib.hid hI
      have HD := Lib.hid (show d.t = t ∧ d.md = md ∧ d.ld = ld from ⟨hdt, hdm, hdl⟩)
      have HNe := Lib.hid hne
      have HWz := Lib.hid (fun nq va ve => dec_wz hB hgr hgl hz nq va ve)
      clear hh hX hB hfl hfa hL2 hz hF hR hI hdt hdm hdl hne hgr
      go_wp2_with fail
      refine wp_region_noPanic ?_; go_quiet (fail)
      by_cases hcl : ld < d.cst
      · dsimp only [NoPanic, Exit.then]
        go_wp2_with fail
        obtain ⟨q4, q5, hgz, hT, hQr, hKp⟩ := HWz.out nq (.slice none 0 0) (.int .i64 51)
        rw [HD.out.1] at hT
        have hRe : R = ((51, []), (d.m, d.rows), false) := by
          rw [← HR.out]
          unfold decD
          rw [HNe.out, decF, HD.out.2.2, if_pos hcl]
        have hE : Q (.returned (.tuple #[(.slice none 0 0), (.int .i64 51)])) (((wr.drewN nq).setCell ⟨b4, 0, none⟩ (.slice none 0 0)).setCell ⟨b5, 0, none⟩ (.int .i64 51)) := by
          rw [HQ.out, hRe]
          have hno2 : g ∉ L2 := fun hm => by
            rcases HL2.out g hm with h1 | h1
            · exact HNo.out h1
            · rw [HW.out] at h1; omega
          refine ⟨none, 0, rfl, Rw.QRow.bare _ _, fun b o s e => (by cases e), ⟨hKp.os, hKp.tape, hKp.output, hKp.size, fun k hk hn => hKp.block k hk (fun hm => hn (List.mem_cons_of_mem _ hm))⟩, fun e => (by cases e), fun _ => ⟨L2, d.c, ⟨hgz, hT, hno2⟩, HL2.out, ?_, fun b o s e => (by cases e)⟩⟩
          have := HI.out.came
          rw [HNe.out] at this
          simp at this
          exact this
        refine leaves_cons (f := 30) (args := #[.pointer (some ⟨r, 0, none⟩), .pointer (some ⟨b2, 0, none⟩), .pointer (some ⟨b4, 0, none⟩), .pointer (some ⟨b5, 0, none⟩)]) (by simp) (by simp [go_sem]) ?_
        refine (pcatch_idle _ _ _ _ _).mono ?_
        rintro e u' w3 ⟨rfl, rfl, rfl⟩
        have HE := Lib.hid hE
        clear hE HWz HQ HR HZ HI
        generalize ((wr.drewN nq).setCell ⟨b4, 0, none⟩ (.slice none 0 0)).setCell ⟨b5, 0, none⟩ (.int .i64 51) = wz at *
        simp [Leaves, settle, results, Tryd.results12, go_sem, q4, q5]
        exact HE.out
      · dsimp only [NoPanic, Exit.then]
        go_wp2_with fail
        have hfd := HFl.out (by rw [HD.out.2.2]; omega)
        obtain ⟨q4, q5, hgz, hT, hQr, hKp⟩ := HWz.out nq (.slice fa fl.length fc) (.int .i64 0)
        rw [HD.out.1] at hT
        have hRe : R = ((0, d.out), (d.m, d.rows), false) := by
          rw [← HR.out]
          unfold decD
          rw [HNe.out, decF, HD.out.2.2, if_neg hcl]
        have hE : Q (.returned (.tuple #[(.slice fa fl.length fc), (.int .i64 0)])) (((wr.drewN nq).setCell ⟨b4, 0, none⟩ (.slice fa fl.length fc)).setCell ⟨b5, 0, none⟩ (.int .i64 0)) := by
          rw [HQ.out, hRe]
          subst hfd
          have hno2 : g ∉ L2 := fun hm => by
            rcases HL2.out g hm with h1 | h1
            · exact HNo.out h1
            · rw [HW.out] at h1; omega
          refine ⟨fa, fc, rfl, hQr, fun b o s e => ⟨(HFa.out b o s e).1, fun e2 => by
            subst e2
            rcases (HFa.out b o s e).1 with h1 | h1
            · exact HNo.out h1
            · rw [HW.out] at h1; omega⟩, ⟨hKp.os, hKp.tape, hKp.output, hKp.size, fun k hk hn => hKp.block k hk (fun hm => hn (List.mem_cons_of_mem _ hm))⟩, fun e => (by cases e), fun _ => ⟨L2, d.c, ⟨hgz, hT, hno2⟩, HL2.out, ?_, fun b o s e => (HFa.out b o s e).2⟩⟩
          have := HI.out.came
          rw [HNe.out] at this
          simp at this
          exact this
        refine leaves_cons (f := 30) (args := #[.pointer (some ⟨r, 0, none⟩), .pointer (some ⟨b2, 0, none⟩), .pointer (some ⟨b4, 0, none⟩), .pointer (some ⟨b5, 0, none⟩)]) (by simp) (by simp [go_sem]) ?_
        refine (pcatch_idle _ _ _ _ _).mono ?_
        rintro e u' w3 ⟨rfl, rfl, rfl⟩
        have HE := Lib.hid hE
        clear hE HWz HQ HR HZ HI
        generalize ((wr.drewN nq).setCell ⟨b4, 0, none⟩ (.slice fa fl.length fc)).setCell ⟨b5, 0, none⟩ (.int .i64 0) = wz at *
        simp [Leaves, settle, results, Tryd.results12, go_sem, q4, q5]
        exact HE.out
    · have hpos : 0 < d.rest.length := List.length_pos_iff.mpr hne
      obtain ⟨ln, hln⟩ : ∃ x, x = d.rest.length := ⟨_, rfl⟩
      have HLn := Lib.hid hln
      obtain ⟨L1, hR1, hU⟩ := hX.use
      have HP := Lib.hid (ppart_any N K hN hK hne hI hR1)
      have HU := Lib.hid hU
      have HB := Lib.hid hB
      have HF := Lib.hid hF
      have HR := Lib.hid hR
      have HD := Lib.hid (show d.t = t ∧ d.md = md ∧ d.ld = ld from ⟨hdt, hdm, hdl⟩)
      have Hhad := Lib.hid hI.had
      have c3 : wr.cell? ⟨r, 3, none⟩ = some (.slice ra ln rc) := by rw [hln]; exact cell_at hh 3
      rw [← hln] at hpos
      have hgt : decide ((ln : Int) > 0) = true := by simp; omega
      have hkpos : 0 < gk := by omega
      clear hX hI hB hdt hdm hdl hF hR hh hfl hfa hL2 hz hgr hne hU hR1 hln
      go_wp2_with fail
      refine HP.out.mono ?_; rintro e w2 (⟨rfl, d', hR2, hI2, e1, e2, e3, e4, e5, hlt, hdec⟩ | ⟨er, he, rfl, ⟨d2, hd2, hR2⟩, hdec⟩)
      · obtain ⟨hX2, hsame⟩ := HU.out _ _ e1 hR2
        have hnew := Lib.hid (show ∃ d, RX b2 w L r [b5, b4, b2] d w2 ∧ InvD N K d ∧ Box3 g b2 b4 b5 (.slice none 0 0) (.int .i64 0) w2 ∧ d.t = t ∧ d.md = md ∧ d.ld = ld ∧ d.rest.length ≤ gk - 1 ∧ decD (gk - 1 + 1) d = R from
          ⟨d', hX2, hI2, ⟨(hsame b2 (by simp)).trans HB.out.h2, (hsame b4 (by simp)).trans HB.out.h4, (hsame b5 (by simp)).trans HB.out.h5, HB.out.e4, HB.out.e5⟩, e2.trans HD.out.1, e3.trans HD.out.2.1, e4.trans HD.out.2.2, by have := HF.out; omega, by rw [← hdec, show gk - 1 + 1 = gk by omega]; exact HR.out⟩)
        clear hX2 hsame hR2 hI2 e1 e2 e3 e4 e5 hlt hdec
        go_wp2_with fail
        go_roundg (gk - 1)
        case measure => omega
        case rel => exact hnew
      · obtain ⟨hX2, hsame⟩ := HU.out _ _ (Prod.mk.inj hd2).1 hR2
        have hhad : d2.had ≤ 100000 := by rw [(Prod.mk.inj hd2).2]; exact Hhad.out
        have hB2 : Box3 g b2 b4 b5 (.slice none 0 0) (.int .i64 0) w2 := ⟨(hsame b2 (by simp)).trans HB.out.h2, (hsame b4 (by simp)).trans HB.out.h4, (hsame b5 (by simp)).trans HB.out.h5, HB.out.e4, HB.out.e5⟩
        have hC : CatchB g b2 b4 b5 md ld (.pointer (some ⟨t, 0, none⟩)) lf (.slice none 0 0) (.int .i64 0) w2 := ⟨hB2.h2, hB2.h4, hB2.h5, (hX2.trn.block g (by rw [HW.out]; exact hgl) hgl HNo.out).trans HG.out, by omega, by have := hB2.e4; omega, by have := hB2.e5; omega, by have := hB2.e4; omega, by have := hB2.e5; omega, by have := hB2.e4; have := hB2.e5; omega⟩
        obtain ⟨R2, hR2'⟩ := hdec gk
        have hRe := HR.out.symm.trans hR2'
        have hEnd := fun wa (hb : Below w2.heap.size w2 wa) ad n c0 => dec_bad (er := er) (t := t) hX2 hB2 HG.out hgl HNo.out HW.out hb ad n c0 K R2
        refine leaves_cons (f := 30) (args := #[.pointer (some ⟨r, 0, none⟩), .pointer (some ⟨b2, 0, none⟩), .pointer (some ⟨b4, 0, none⟩), .pointer (some ⟨b5, 0, none⟩)]) (by simp) (by simp [go_sem]) ?_
        refine (pcatch_bad er g b2 b4 b5 md ld _ lf _ _ hR2 hhad [] hC).mono ?_
        rintro e u' w3 ⟨rfl, rfl, wa, ad, n, c0, hb, rfl⟩
        obtain ⟨q4, q5, hE⟩ := hEnd wa hb ad n c0
        rw [← hRe, ← HQ.out] at hE
        have HE := Lib.hid hE
        clear hE hEnd hRe hR2' HQ HR hdec
        generalize ((((wa.setCell ⟨g, 2, none⟩ (.pointer none)).setCell ⟨g, 3, none⟩ (.slice ad n c0)).setCell ⟨b4, 0, none⟩ (.slice none 0 0)).setCell ⟨b5, 0, none⟩ (.int .i64 er)) = wz at *
        simp [Leaves, settle, results, Tryd.results12, go_sem, q4, q5]
        exact HE.out

theorem dec_start (h : PDec w L g md ld t m rows c lf) (ba : Option Addr) {l : List UInt8} (bcap : Nat) (hrb : RB w ba l) (hcap : l.length ≤ bcap) (hmax : bcap ≤ maxLen) (hmd : md ≤ 65536) (hc : 2 * c + l.length ≤ 1999990)
    (hba : l ≠ [] → ∃ bk o, ba = some ⟨bk, o, none⟩ ∧ bk ≠ g ∧ bk ∉ L) (hG : GrpIs w) (hgb : gBk ≠ g ∧ gBk ∉ L) {wf : World} (hb : Below w.heap.size w wf) (r : Nat) (hr : w.heap.size + 3 = r)
    (hh : wf.heap[r]? = some (.cells (rCells t md ld ba l.length bcap 0 0 none 0 0 rows.length none 0 0) 70 (0, 0))) :
    ∃ d, RX w.heap.size w L r [w.heap.size + 1 + 1, w.heap.size + 1, w.heap.size] d wf ∧ InvD l.length (2 * c + l.length) d ∧ d.t = t ∧ d.md = md ∧ d.ld = ld ∧ d.rest.length ≤ l.length ∧ decD (l.length + 1) d = decF md ld (l.length + 1) l [] 0 0 m rows := by
  have hlt : r < wf.heap.size := (Array.getElem?_eq_some_iff.1 hh).1
  have hbl := h.tab.blocks
  have hrl := csum_len rows
  have hsum := h.tab.sum
  have hGl := hG.lt
  obtain ⟨bk, hbk1, hbk2, hbk3⟩ : ∃ bk, bk < w.heap.size ∧ bk ∉ L ∧ (l ≠ [] → ∃ o, ba = some ⟨bk, o, none⟩) := by
    by_cases hn : l = []
    · exact ⟨gBk, hGl, hgb.2, fun e => absurd hn e⟩
    · obtain ⟨bk, o, e, _, h2⟩ := hba hn
      refine ⟨bk, ?_, h2, fun _ => ⟨o, e⟩⟩
      rcases hrb with h0 | ⟨b, off, e', hc'⟩
      · exact absurd h0 hn
      · rw [e] at e'
        simp only [Option.some.injEq, Addr.mk.injEq] at e'
        obtain ⟨rfl, _⟩ := e'
        exact World.block_lt_of_cell? w _ (hc' 0 (List.length_pos_iff.mpr hn))
  have hno : ∀ k, k < w.heap.size → k ∉ L → k ∉ r :: L := fun k hk hn hm => by
    rcases List.mem_cons.mp hm with h1 | h1
    · omega
    · exact hn h1
  refine ⟨⟨bk, t, md, ld, l, 0, 0, [], rows.length, m, c, rows, rows.length, 0⟩, ⟨⟨r :: L, ⟨L, ba, bcap, none, 0, [], none, 0, [], hh, ⟨Nat.le_refl _, Trn.refl _ _ _, h.tab.below hb, fun k hk => .inl (List.mem_cons_of_mem _ hk), fun hm => by have := hbl _ hm; omega, .inl (List.mem_cons_self ..), hlt, ⟨Nat.lt_of_lt_of_le hbk1 hb.size, hno _ hbk1 hbk2⟩, ⟨?_, hcap, hmax, hbk3⟩, ⟨Rw.QRow.bare _ _, fun b o s e => (by cases e)⟩, ⟨Rw.QRow.bare _ _, fun b o s e => (by cases e)⟩, fun b o s e => (by cases e), hG.block (hb.block _ hGl), ⟨Nat.lt_of_lt_of_le hGl hb.size, hno _ hGl hgb.2⟩⟩, fun _ => rfl, Nat.le_refl _, rfl, Nat.zero_le _, by simp, Nat.le_refl _⟩, fun k hk => ?_⟩, Nat.le_refl _, ?_, ⟨hbk1, hbk2⟩, hG, ⟨hGl, hgb.2⟩, fun x hx => ?_⟩, ⟨rfl, by simp, by simp, by simp, by simp, hmd, ?_⟩, rfl, rfl, rfl, Nat.le_refl _, rfl⟩
  · exact hrb.below hb
  · simp only [List.mem_cons, List.not_mem_nil, or_false, not_or]
    rcases List.mem_cons.mp hk with rfl | h1
    · exact ⟨.inr (by omega), hlt, by omega, by omega, by omega⟩
    · have := hbl k h1
      have := hb.size
      exact ⟨.inl h1, by omega, by omega, by omega, by omega⟩
  · exact ⟨hb.os, hb.tape, hb.output, hb.size, fun k hk _ _ => hb.block k hk⟩
  · simp only [List.mem_cons, List.not_mem_nil, or_false] at hx
    rcases hx with rfl | rfl | rfl <;> exact ⟨by omega, by omega⟩
  · simp only
    omega

set_option maxRecDepth 100000 in
set_option maxHeartbeats 2000000 in
theorem pdecode_any (h : PDec w L g md ld t m rows c lf) (ba : Option Addr) (l : List UInt8) (bcap : Nat) (hrb : RB w ba l) (hcap : l.length ≤ bcap) (hmax : bcap ≤ maxLen) (hl : l.length ≤ 100000000) (hmd : md ≤ 65536) (hc : 2 * c + l.length ≤ 1999990)
    (hba : l ≠ [] → ∃ bk o, ba = some ⟨bk, o, none⟩ ∧ bk ≠ g ∧ bk ∉ L) (hG : GrpIs w) (hgb : gBk ≠ g ∧ gBk ∉ L) :
    Calls Tryd.prog 12 #[.pointer (some ⟨g, 0, none⟩), .slice ba l.length bcap] w (PDecEnd w L g md ld t (2 * c + l.length) lf (decF md ld (l.length + 1) l [] 0 0 m rows)) := by
  have hg := h.blk
  have hgl := h.lt
  have cA : ∀ o1 o2 o3 : Obj, (((w.alloc o1).alloc o2).alloc o3).cell? ⟨g, 2, none⟩ = some (.pointer (some ⟨t, 0, none⟩)) := fun o1 o2 o3 => cell_at (alloc_at (alloc_at (alloc_at hg))) 2
  have hb3 : Below w.heap.size w (((w.alloc (.cells #[.pointer (some ⟨g, 0, none⟩)] 25)).alloc (.cells #[.slice none 0 0] 31)).alloc (.cells #[.int .i64 0] 26)) := (((Below.refl _ w).alloc (Nat.le_refl _) _).alloc (by simp) _).alloc (by simp; omega) _
  have hB3 : Box3 g w.heap.size (w.heap.size + 1) (w.heap.size + 1 + 1) (.slice none 0 0) (.int .i64 0) (((w.alloc (.cells #[.pointer (some ⟨g, 0, none⟩)] 25)).alloc (.cells #[.slice none 0 0] 31)).alloc (.cells #[.int .i64 0] 26)) := by
    refine ⟨alloc_at (alloc_at (heap_alloc_new w _)), ?_, ?_, rfl, rfl⟩
    · have := heap_alloc_new (w.alloc (.cells #[.pointer (some ⟨g, 0, none⟩)] 25)) (.cells #[.slice none 0 0] 31)
      rw [World.size_alloc] at this
      exact alloc_at this
    · have := heap_alloc_new ((w.alloc (.cells #[.pointer (some ⟨g, 0, none⟩)] 25)).alloc (.cells #[.slice none 0 0] 31)) (.cells #[.int .i64 0] 26)
      rw [World.size_alloc, World.size_alloc] at this
      exact this
  have hs3 : (((w.alloc (.cells #[.pointer (some ⟨g, 0, none⟩)] 25)).alloc (.cells #[.slice none 0 0] 31)).alloc (.cells #[.int .i64 0] 26)).heap.size = w.heap.size + 3 := by simp
  generalize hwn : (((w.alloc (.cells #[.pointer (some ⟨g, 0, none⟩)] 25)).alloc (.cells #[.slice none 0 0] 31)).alloc (.cells #[.int .i64 0] 26)) = w1 at hb3 hB3 hs3
  have HWN := Lib.hid hwn
  have HRB := Lib.hid hrb
  have HBA := Lib.hid hba
  have HG := Lib.hid hG
  have HH := Lib.hid h
  clear hwn hrb hba hG
  generalize hbn : w.heap.size = b2 at *
  have HBN := Lib.hid hbn
  clear hbn
  have q2 : w1.cell? ⟨b2, 0, none⟩ = some (.pointer (some ⟨g, 0, none⟩)) := cell_at hB3.h2 0
  have hg1 := (hb3.block g hgl).trans hg
  have g0 : w1.cell? ⟨g, 0, none⟩ = some (.int .i64 md) := cell_at hg1 0
  have g1 : w1.cell? ⟨g, 1, none⟩ = some (.int .i64 ld) := cell_at hg1 1
  have g2 : w1.cell? ⟨g, 2, none⟩ = some (.pointer (some ⟨t, 0, none⟩)) := cell_at hg1 2
  have HLe := Lib.hid (fun v (hv : Below w1.heap.size w1 v) => plen_eq L t m c rows v ((h.tab.below (HBN.out.symm ▸ hb3)).below hv))
  have hb0 : Below w1.heap.size w1 w1.drew := (Below.refl _ _).drew
  have HB3 := Lib.hid hB3
  have Hb3 := Lib.hid hb3
  have HG1 := Lib.hid hg1
  have Hs3 := Lib.hid hs3
  have hst := fun wf (hv : Below b2 w wf) hr => dec_start (wf := wf) h ba bcap HRB.out hcap hmax hmd hc HBA.out HG.out hgb (HBN.out.symm ▸ hv) (b2 + 3) (by rw [HBN.out]) hr
  rw [HBN.out] at hst
  have HST := Lib.hid hst
  have Hg := Lib.hid hg
  have HNo := Lib.hid h.no
  obtain ⟨R, hR⟩ : ∃ x, x = decF md ld (l.length + 1) l [] 0 0 m rows := ⟨_, rfl⟩
  have HR := Lib.hid hR
  rw [← hR]
  clear hB3 hb3 hg1 hg hs3 h hst hR
  have hmf : ∀ (fn : Fn) (first cap : Array Value) (w : World), (Instr.makeFunc fn first cap).run Tryd.prog w = .ok (.func fn first cap) w := fun _ _ _ _ => rfl
  go_enter_defers Tryd.func12, Tryd.ntmps12
  go_wp2_with fail
  simp only [HWN.out, HBN.out]
  clear cA
  have hb1 : ∀ o, Below w1.heap.size w1 (w1.alloc o).drew := fun o => (below_alloc w1 o).drew
  go_region_held3 (fun v => v.cell? ⟨b2, 0, none⟩ = some (.pointer (some ⟨g, 0, none⟩)) ∧ v.cell? ⟨g, 0, none⟩ = some (.int .i64 md) ∧ v.cell? ⟨g, 1, none⟩ = some (.int .i64 ld) ∧ v.cell? ⟨g, 2, none⟩ = some (.pointer (some ⟨t, 0, none⟩)))
    (first | go_keep | exact ⟨below_cell hb0 q2, below_cell hb0 g0, below_cell hb0 g1, below_cell hb0 g2⟩ | exact ⟨below_cell (hb1 _) q2, below_cell (hb1 _) g0, below_cell (hb1 _) g1, below_cell (hb1 _) g2⟩ | exact ⟨below_cell (below_step hb0 (below_alloc _ _)) q2, below_cell (below_step hb0 (below_alloc _ _)) g0, below_cell (below_step hb0 (below_alloc _ _)) g1, below_cell (below_step hb0 (below_alloc _ _)) g2⟩)
    ((go_at_call 29; first | (refine (HLe.out _ hb0).mono ?_; rintro e wx ⟨rfl, rfl⟩) | (refine (HLe.out _ (hb1 _)).mono ?_; rintro e wx ⟨rfl, rfl⟩)))
  all_goals
    have hwa := (hb1 (.cells #[.pointer (some ⟨t, 0, none⟩), .int .i64 md, .int .i64 ld, .slice ba l.length bcap, .int .i64 0, .int .i64 0, .slice none 0 0, .int .i64 rows.length, .slice none 0 0] 70))
    have hnw := block_below ((Below.refl _ _).drew) (heap_alloc_new w1 (.cells #[.pointer (some ⟨t, 0, none⟩), .int .i64 md, .int .i64 ld, .slice ba l.length bcap, .int .i64 0, .int .i64 0, .slice none 0 0, .int .i64 rows.length, .slice none 0 0] 70))
    generalize (w1.alloc (.cells #[.pointer (some ⟨t, 0, none⟩), .int .i64 md, .int .i64 ld, .slice ba l.length bcap, .int .i64 0, .int .i64 0, .slice none 0 0, .int .i64 rows.length, .slice none 0 0] 70)).drew = wf at *
    have hbw : Below b2 w wf := Hb3.out.trans (hwa.mono (by rw [Hs3.out]; omega))
    rw [Hs3.out] at hnw
    obtain ⟨d, hX, hI, e1, e2, e3, e4, e5⟩ := HST.out wf hbw hnw
    rw [← HR.out] at e5
    refine (by assumption : ∀ a' w', (Fr.tail Tryd.f12 3).wp Tryd.prog (bodyPostD Tryd.prog Tryd.f12 (PDecEnd w L g md ld t (2 * c + l.length) lf R)) a' w' → _) _ _ ?_
    rw [Hs3.out]
    exact dec_tail l.length (2 * c + l.length) hl hc d wf hX hI ⟨block_below hwa HB3.out.h2, block_below hwa HB3.out.h4, block_below hwa HB3.out.h5, rfl, rfl⟩ Hg.out hgl HNo.out HBN.out e1 e2 e3 l.length e4 R e5 _ _ _ _ _ _ _ _ _ _ _ _ _ _ _ _ _ _ _ _ _ _ _ _ _ _ _ _ _ _ _ _ _ _ _ _ _ _ _ _ _ _ _ _ _ _
end Go.Proofs.YtdkgachgohilcaaDoor
