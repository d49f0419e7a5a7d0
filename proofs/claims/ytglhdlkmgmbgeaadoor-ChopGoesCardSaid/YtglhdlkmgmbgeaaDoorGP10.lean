/- Layer 7, the program: the next item behind the preface, whole. Layer 7, the program: the preface, region by region. Layer 7, the program: the preface, and the next item, whole. Several things in memory: rows that grow, boxes, things that become one, things that are let go. Layer 7, the program: items as a row; a feed as a thing; a round of Take's loop. Layer 7, the program: the loop over items: a round; the iterator, which takes what is whole from what is left. Layer 7, the program: the iterator over what is whole. -/
import Derived.Test.YtglhdlkmgmbgeaaDoorGP09
import Derived.BigQuiet
import Derived.Test.YtglhdlkmgmbgeaaDoorGP03
import Derived.WalkKit
import Derived.Lib.Hide
import Derived.RangeFuncNested
import Derived.RangeFuncBound
import Derived.RangeFuncCalls
import Derived.RangeFuncLeaves
import Derived.RangeFuncBox
import Derived.Shelf.Abstract
import Derived.Shelf.RegionOpen
import Derived.OwnWalkIn
import Derived.TacticsInMore
import Derived.LoopNIn
import Derived.LoopIn
set_option linter.unusedVariables false
set_option linter.unusedSimpArgs false
namespace Go.Proofs.YtglhdlkmgmbgeaaDoor
open Go.RowKit
open Cho Fra Oct Arg Mem Gen Wr Qu Pt Go.Proofs.YtglhdlkmgmbgeaaDoor.Obj
set_option linter.unusedVariables false
set_option linter.unusedSimpArgs false

/-- What next leaves. -/
def NextEnd (fb : Nat) (la : Option Addr) (most : Int) (w : World) (R : ItM × Bool × FeM) (e : Ending) (w' : World) : Prop :=
  ∃ sa sc la' lc', e = .returned (.tuple #[.agg (itC R.1.f sa sc R.1.x), .bool R.2.1]) ∧ FdO fb la' lc' most R.2.2 w' ∧ Kept [fb] w w' ∧ FrOk R.1.f sa sc w' ∧ (∀ b o s, sa = some ⟨b, o, s⟩ → w.heap.size ≤ b) ∧ (∀ b o s, la' = some ⟨b, o, s⟩ → ∃ o' s', la = some ⟨b, o', s'⟩)
theorem it_cells {w : World} {ib : Nat} {f : FrM} {sa : Option Addr} {sc : Nat} {x : FaM} (h : w.heap[ib]? = some (.cells (itC f sa sc x) 42 (0, 0))) :
    w.cell? ⟨ib, 0, none⟩ = some (.int .i64 f.type) ∧ w.cell? ⟨ib, 1, none⟩ = some (.int .i64 f.flags) ∧ w.cell? ⟨ib, 2, none⟩ = some (.int .i64 f.stream) ∧ w.cell? ⟨ib, 3, none⟩ = some (.string f.data) ∧ w.cell? ⟨ib, 4, none⟩ = some (.int .i64 f.pad) ∧ w.cell? ⟨ib, 5, none⟩ = some (.slice sa f.sets.length sc) ∧
    w.cell? ⟨ib, 6, none⟩ = some (.int .i64 f.code) ∧ w.cell? ⟨ib, 7, none⟩ = some (.int .i64 f.last) ∧ w.cell? ⟨ib, 8, none⟩ = some (.int .i64 f.inc) ∧ w.cell? ⟨ib, 9, none⟩ = some (.int .i64 f.dep) ∧ w.cell? ⟨ib, 10, none⟩ = some (.int .i64 f.weight) ∧ w.cell? ⟨ib, 11, none⟩ = some (.bool f.sole) ∧
    w.cell? ⟨ib, 12, none⟩ = some (.bool x.is) ∧ w.cell? ⟨ib, 13, none⟩ = some (.int .i64 x.code) ∧ w.cell? ⟨ib, 14, none⟩ = some (.int .i64 x.stream) :=
  ⟨cell_at h 0, cell_at h 1, cell_at h 2, cell_at h 3, cell_at h 4, cell_at h 5, cell_at h 6, cell_at h 7, cell_at h 8, cell_at h 9, cell_at h 10, cell_at h 11, cell_at h 12, cell_at h 13, cell_at h 14⟩
theorem nx_ret {R : Ending → World → Prop} {ib : Nat} {b : Bool} {a : Act} {w' : World} {f : FrM} {sa : Option Addr} {sc : Nat} {x : FaM}
    (ha : Fr.Is 55 [(2, .pointer (some ⟨ib, 0, none⟩)), (3, .bool b)] a) (hi : w'.heap[ib]? = some (.cells (itC f sa sc x) 42 (0, 0)))
    (hR : R (.returned (.tuple #[.agg (itC f sa sc x), .bool b])) w') : bodyPost Tryd.prog Tryd.f28 R .ret a w' := by
  obtain ⟨fr, rfl, hfr⟩ := ha.lit
  simp only [List.map_cons, List.map_nil, List.cons.injEq, and_true] at hfr
  obtain ⟨h2, h3⟩ := hfr
  obtain ⟨c0, c1, c2, c3, c4, c5, c6, c7, c8, c9, c10, c11, c12, c13, c14⟩ := it_cells hi
  clear hi
  refine bodyPost_ret (v := .tuple #[.agg (itC f sa sc x), .bool b]) ?_ rfl hR
  simp [results, Tryd.results28, go_sem, itC, h2, h3, c0, c1, c2, c3, c4, c5, c6, c7, c8, c9, c10, c11, c12, c13, c14]
/-- What is left behind the first bytes. -/
theorem FdO.cut {fb : Nat} {la : Option Addr} {lc : Nat} {most : Int} {r : List UInt8} {w : World} (h : FdO fb la lc most ⟨r, false, false⟩ w) (k : Nat) (hk : k ≤ r.length) :
    FdO fb (Sl.adOf la lc k 1) (lc - k) most ⟨r.drop k, false, false⟩ (w.setCell ⟨fb, 2, none⟩ (.slice (Sl.adOf la lc k 1) (r.length - k) (lc - k))) ∧ Kept [fb] w (w.setCell ⟨fb, 2, none⟩ (.slice (Sl.adOf la lc k 1) (r.length - k) (lc - k))) := by
  have hb := setCell_block (i := 2) (.slice (Sl.adOf la lc k 1) (r.length - k) (lc - k)) h.blk
  have hk2 : Kept [fb] w (w.setCell ⟨fb, 2, none⟩ (.slice (Sl.adOf la lc k 1) (r.length - k) (lc - k))) := (Kept.refl [fb] w).setCell (p := ⟨fb, 2, none⟩) (.inl (by simp)) _
  have hq := qrow_from h.row k hk
  have hne : ∀ b o s', Sl.adOf la lc k 1 = some ⟨b, o, s'⟩ → b ≠ fb := fun b o s' e => by
    obtain ⟨o', s2, e2⟩ := adOf_block e
    exact h.ne b o' s2 e2
  refine ⟨⟨?_, hq.block hk2.size (fun b o s e => Below.heap_setCell _ _ _ _ (hne b o s e)), hne⟩, hk2⟩
  rw [hb]
  simp [fdC, List.length_drop]
theorem FdO.kept {fb : Nat} {la : Option Addr} {lc : Nat} {most : Int} {s : FeM} {w w' : World} {L : List Nat} (h : FdO fb la lc most s w) (hk : Kept L w w') (h1 : fb ∉ L) (h2 : ∀ b o s', la = some ⟨b, o, s'⟩ → b ∉ L) : FdO fb la lc most s w' :=
  ⟨hk.at h.blk h1, h.row.block hk.size (fun b o s e => by
    obtain ⟨b', off, e', hlt, _⟩ := h.row.lies _ e
    simp only [Addr.mk.injEq] at e'
    exact hk.block b (by omega) (h2 b o s e)), h.ne⟩

set_option maxHeartbeats 1000000 in
theorem pnextP_any {fb : Nat} {la : Option Addr} {lc : Nat} {most : Int} {r : List UInt8} (w : World) (h : FdO fb la lc most ⟨r, false, false⟩ w) (hs : SpIs w) :
    Calls Tryd.prog 28 #[.pointer (some ⟨fb, 0, none⟩)] w (NextEnd fb la most w (nextP most r)) := by
  go_enter Tryd.func28, Tryd.ntmps28
  have hfl : fb < w.heap.size := (Array.getElem?_eq_some_iff.1 h.blk).1
  refine wp_seq ?_
  refine nx_r0 (fb := fb) _ w (Fr.Is.mk rfl rfl) (Lib.hid (fun a1 g1 => ?_))
  have b1 := bel_al w (.cells itZ 42)
  have hi1 := heap_alloc_new w (.cells itZ 42)
  generalize w.alloc (.cells itZ 42) = w1 at b1 hi1 ⊢
  have h1 := h.below b1
  obtain ⟨ib, hib⟩ : ∃ ib, ib = w.heap.size := ⟨_, rfl⟩
  rw [← hib] at g1 hi1
  have hif : ib ≠ fb := by omega
  refine wp_seq (wp_seq ?_)
  refine nx_r1 (ib := ib) a1 w1 h1.cells.2.1 (g1.less (by simp)) (Lib.hid (fun a2 g2 => ?_))
  refine wp_cond_false (g2.get (i := 10) (v := .bool false) (by simp)) ?_
  refine wp_skip ?_
  refine wp_seq ?_
  refine nx_r3 (N := (takeF r most).2.1) (f := (takeF r most).1) (x := (takeF r most).2.2) (fb := fb) (ib := ib) (most := most) (la := la) (n := r.length) (lc := lc) h1.cells.1 h1.cells.2.2.1 (Lib.hid (fun v hv => ptake_new r la lc most v (rb_of_q (h1.row.below hv).row) h.row.le h.row.max ((hs.below b1).below hv)))
    (Lib.hid (fun a3 w3 gb xb sa sc g3 hg3 hx3 b3 lg lx ok3 nw3 => ?_)) a2 (g2.less (by simp))
  have hil : ib < w1.heap.size := (Array.getElem?_eq_some_iff.1 hi1).1
  have h3 := h1.below b3
  have hi3 := block_below b3 hi1
  have hle := take_le r most
  have hs1 := b1.size
  refine wp_seq ?_
  refine nx_r4 (n := r.length) (lc := lc) (la := la) (k := (takeF r most).2.1) (ib := ib) (gb := gb) (xb := xb) a3 w3 h3.cells.2.2.1 (h3.thaw 2) hle h.row.le g3 (Lib.hid (fun a4 g4 => ?_))
  obtain ⟨h4, k4⟩ := h3.cut (takeF r most).2.1 hle
  have k34 : Kept [fb] w (w3.setCell ⟨fb, 2, none⟩ (.slice (Sl.adOf la lc (takeF r most).2.1 1) (r.length - (takeF r most).2.1) (lc - (takeF r most).2.1))) := (Kept.of_below (b1.trans (b3.mono hs1))).trans k4 (fun i hi => .inl hi)
  have hg4 := k4.at hg3 (by simp; omega)
  have hx4 := k4.at hx3 (by simp; omega)
  have hi4 := k4.at hi3 (by simpa using hif)
  have ok4 := ok_keep ok3 k4 (fun b o s _ e => by have := nw3 b o s e; simp; omega)
  generalize w3.setCell ⟨fb, 2, none⟩ (.slice (Sl.adOf la lc (takeF r most).2.1 1) (r.length - (takeF r most).2.1) (lc - (takeF r most).2.1)) = w4 at h4 k34 hg4 hx4 hi4 ok4 ⊢
  have had : ∀ b o s, Sl.adOf la lc (takeF r most).2.1 1 = some ⟨b, o, s⟩ → ∃ o' s', la = some ⟨b, o', s'⟩ := fun b o s e => adOf_block e
  clear k4 h3 hg3 hx3 hi3 ok3 b3 g3
  refine wp_seq (wp_seq ?_)
  refine nx_r5 (k := (takeF r most).2.1) (ib := ib) (gb := gb) (xb := xb) a4 w4 hx4 g4 (Lib.hid (fun a5 g5 => ?_))
  have fin : ∀ a6 w6 la6 lc6, FdO fb la6 lc6 most (nextP most r).2.2 w6 → Kept [fb] w4 w6 → (∀ b o s, la6 = some ⟨b, o, s⟩ → ∃ o' s', la = some ⟨b, o', s'⟩) →
      Fr.Is 55 [(0, .pointer (some ⟨fb, 0, none⟩)), (2, .pointer (some ⟨ib, 0, none⟩)), (4, .pointer (some ⟨gb, 0, none⟩)), (5, .int .i64 ((takeF r most).2.1 : Nat)), (6, .pointer (some ⟨xb, 0, none⟩))] a6 →
      (Fr.tail Tryd.f28 5).wp Tryd.prog (bodyPost Tryd.prog Tryd.f28 (NextEnd fb la most w (nextP most r))) a6 w6 := fun a6 w6 la6 lc6 h6 k6 had6 g6 => by
    have hg6 := k6.at hg4 (by simp; omega)
    have hx6 := k6.at hx4 (by simp; omega)
    have hi6 := k6.at hi4 (by simpa using hif)
    have ok6 := ok_keep ok4 k6 (fun b o s _ e => by have := nw3 b o s e; simp; omega)
    have k06 := k34.trans k6 (fun i hi => .inl hi)
    conv => arg 2; whnf
    have end7 : ∀ b, b = (nextP most r).2.1 → ∀ a7 w7, Fr.Is 55 [(2, .pointer (some ⟨ib, 0, none⟩)), (3, .bool b)] a7 → w7.heap[ib]? = some (.cells (itC (takeF r most).1 sa sc (takeF r most).2.2) 42 (0, 0)) → Kept [ib] w6 w7 →
        Code.wp Tryd.prog .ret (bodyPost Tryd.prog Tryd.f28 (NextEnd fb la most w (nextP most r))) a7 w7 := fun b hb a7 w7 g7 hi7 k7 => by
      refine wp_ret ?_
      try dsimp only [Exit.then, Exit.inBlock]
      refine nx_ret g7 hi7 ?_
      have hal : ∀ b o s, la6 = some ⟨b, o, s⟩ → b ≠ ib := fun b o s e => by
        obtain ⟨o', s', e'⟩ := had6 b o s e
        obtain ⟨b2, off, e2, hlt, _⟩ := h.row.lies _ e'
        simp only [Addr.mk.injEq] at e2
        omega
      refine ⟨sa, sc, la6, lc6, by rw [hb]; rfl, h6.kept k7 (by simp; omega) (fun b o s e => by simpa using hal b o s e), ?_, ok_keep ok6 k7 (fun b o s _ e => by have := nw3 b o s e; simp; omega), fun b o s e => by have := nw3 b o s e; omega, had6⟩
      exact k06.trans k7 (fun i hi => .inr (by simp at hi; omega))
    by_cases hN : (takeF r most).2.1 = 0
    · refine wp_seq ?_
      rw [hN] at g6
      refine nx_r7n (by omega) (by omega) (Lib.hid (fun a7 w7 g7 hi7 k7 => end7 _ (by simp [nextP, hN]) a7 w7 g7 hi7 k7)) a6 hg6 hx6 hi6 g6
    · refine wp_seq ?_
      refine nx_r7y (N := ((takeF r most).2.1 : Nat)) (by omega) (by omega) (by omega) (Lib.hid (fun a7 w7 g7 hi7 k7 => end7 _ (by simp [nextP]; omega) a7 w7 g7 hi7 k7)) a6 hg6 hx6 hi6 g6
  cases hc : conF r most with
  | true =>
    have hc' : ((takeF r most).2.2.is && decide ((takeF r most).2.2.stream = 0)) = true := hc
    refine wp_cond_true (g5.get (i := 43) (v := .bool true) (by simp [hc'])) ?_
    refine nx_r6 (k := (takeF r most).2.1) (ib := ib) (gb := gb) (xb := xb) a5 w4 (Lib.hid (pend_any w4 h4)) (g5.less (by simp)) (Lib.hid (fun a6 w6 g6 hR => ?_))
    refine fin a6 w6 none 0 ?_ hR.2 (fun b o s e => by cases e) g6
    have e : (nextP most r).2.2 = ⟨[], false, true⟩ := by rw [nextP, if_pos hc]
    rw [e]
    exact hR.1
  | false =>
    have hc' : ((takeF r most).2.2.is && decide ((takeF r most).2.2.stream = 0)) = false := hc
    refine wp_cond_false (g5.get (i := 43) (v := .bool false) (by simp [hc'])) ?_
    refine wp_skip ?_
    have e : (nextP most r).2.2 = ⟨r.drop (takeF r most).2.1, false, false⟩ := by rw [nextP, if_neg (by simp [hc])]
    exact fin a5 w4 (Sl.adOf la lc (takeF r most).2.1 1) (lc - (takeF r most).2.1) (by rw [e]; exact h4) (Kept.refl _ _) had (g5.less (by simp))
end Go.Proofs.YtglhdlkmgmbgeaaDoor

namespace Go.Proofs.YtglhdlkmgmbgeaaDoor
open Go.RowKit
open Cho Fra Oct Arg Mem Gen Wr Qu Pt Go.Proofs.YtglhdlkmgmbgeaaDoor.Obj
set_option linter.unusedVariables false
set_option linter.unusedSimpArgs false

theorem bel_drewN (w : World) (n : Nat) : Below w.heap.size w (w.drewN n) := ⟨rfl, rfl, rfl, Nat.le_refl _, fun _ _ => rfl⟩
theorem pref_fin : ∀ m : Fin 25, ((ByteArray.mk #[80, 82, 73, 32, 42, 32, 72, 84, 84, 80, 47, 50, 46, 48, 13, 10, 13, 10, 83, 77, 13, 10, 13, 10]).extract 0 m).toList = prefL.take m := by decide +kernel
theorem pref_to (m : Nat) (h : m ≤ 24) : ((ByteArray.mk #[80, 82, 73, 32, 42, 32, 72, 84, 84, 80, 47, 50, 46, 48, 13, 10, 13, 10, 83, 77, 13, 10, 13, 10]).extract 0 m).toList = prefL.take m := pref_fin ⟨m, by omega⟩

set_option maxRecDepth 100000 in
set_option maxHeartbeats 1000000 in
theorem gr_r0 {Q : Exit → Act → World → Prop} {fb : Nat} (a : Act) (w : World)
    (ha : Fr.Is 44 [(0, .pointer (some ⟨fb, 0, none⟩))] a)
    (hQ : Hid (∀ a', Fr.Is 44 [(0, .pointer (some ⟨fb, 0, none⟩)), (2, .pointer (some ⟨w.heap.size, 0, none⟩)), (3, .bool false)] a' → Q .normal a' (w.alloc (.cells itZ 42)))) :
    (Fr.reg Tryd.f33 0).wp Tryd.prog Q a w := by
  obtain ⟨fr, rfl, hfr⟩ := ha.lit
  simp only [List.map_cons, List.map_nil, List.cons.injEq, and_true] at hfr
  conv => arg 2; whnf
  simp only [List.range, List.range.loop, List.map_cons, List.map_nil, hfr]
  clear hfr ha
  go_wp2_with fail
  exact hQ.out _ (Fr.Is.mk rfl rfl)

set_option maxRecDepth 100000 in
set_option maxHeartbeats 1000000 in
theorem gr_r1 {Q : Exit → Act → World → Prop} {fb ib n lc : Nat} {la : Option Addr} (a : Act) (w : World) (c2 : w.cell? ⟨fb, 2, none⟩ = some (.slice la n lc))
    (ha : Fr.Is 44 [(0, .pointer (some ⟨fb, 0, none⟩)), (2, .pointer (some ⟨ib, 0, none⟩))] a)
    (hQ : Hid (∀ a' (m : Nat), m = min n 24 → Fr.Is 44 [(0, .pointer (some ⟨fb, 0, none⟩)), (2, .pointer (some ⟨ib, 0, none⟩)), (4, .int .i64 m)] a' → Q .normal a' w)) :
    (Fr.reg Tryd.f33 1).wp Tryd.prog Q a w := by
  obtain ⟨fr, rfl, hfr⟩ := ha.lit
  simp only [List.map_cons, List.map_nil, List.cons.injEq, and_true] at hfr
  conv => arg 2; whnf
  simp only [List.range, List.range.loop, List.map_cons, List.map_nil, hfr]
  clear hfr ha
  by_cases h : n ≤ 24
  · have h1 : ¬ (24 : Int) < n := by omega
    have h2 : (n : Int) ≤ 24 := by omega
    go_wp2_with fail
    all_goals first
      | exact hQ.out _ n (by omega) (Fr.Is.mk rfl rfl)
      | (exfalso; omega)
      | (have e : n = 24 := by omega
         subst e
         exact hQ.out _ 24 (by omega) (Fr.Is.mk rfl rfl))
  · have h1 : (24 : Int) < n := by omega
    have h2 : ¬ (n : Int) ≤ 24 := by omega
    go_wp2_with fail
    all_goals first | exact hQ.out _ 24 (by omega) (Fr.Is.mk rfl rfl) | (exfalso; omega)

set_option maxRecDepth 100000 in
set_option maxHeartbeats 1000000 in
theorem gr_r2 {Q : Exit → Act → World → Prop} {fb ib n lc m : Nat} {la : Option Addr} {l : List UInt8} (a : Act) (w : World) (c2 : w.cell? ⟨fb, 2, none⟩ = some (.slice la n lc)) (hr : RB w la l) (hl : l.length = m) (hm : m ≤ n) (hm2 : m ≤ 24) (hn : n ≤ lc)
    (ha : Fr.Is 44 [(0, .pointer (some ⟨fb, 0, none⟩)), (2, .pointer (some ⟨ib, 0, none⟩)), (4, .int .i64 m)] a)
    (hQ : Hid (∀ a' nq, Fr.Is 44 [(0, .pointer (some ⟨fb, 0, none⟩)), (2, .pointer (some ⟨ib, 0, none⟩)), (4, .int .i64 m), (20, .bool (!(l == prefL.take m)))] a' → Q .normal a' (w.drewN nq))) :
    (Fr.reg Tryd.f33 2).wp Tryd.prog Q a w := by
  obtain ⟨fr, rfl, hfr⟩ := ha.lit
  simp only [List.map_cons, List.map_nil, List.cons.injEq, and_true] at hfr
  conv => arg 2; whnf
  simp only [List.range, List.range.loop, List.map_cons, List.map_nil, hfr]
  clear hfr ha
  have h1 := fun k => (hr.below (bel_drewN w k)).conv (P := Tryd.prog) (cap := lc) (src := 24) (dst := 9) Tryd.underlying24 Tryd.underlying5 Tryd.underlying9
  simp only [hl] at h1
  have g1 : (m : Int) ≤ lc := by omega
  have g2 : m ≤ lc := by omega
  have hp := pref_to m hm2
  rw [← hp] at hQ
  clear hr hp
  refine wp_region_noPanic ?_
  go_quiet (fail)
  exact hQ.out _ nq (Fr.Is.mk rfl rfl)

set_option maxRecDepth 100000 in
set_option maxHeartbeats 1000000 in
theorem gr_r3 {Q : Exit → Act → World → Prop} {fb ib : Nat} {R : World → Prop} (a : Act) (w : World) (HE : Hid (Calls Tryd.prog 35 #[.pointer (some ⟨fb, 0, none⟩)] w fun e w' => (∃ v, e = .returned v) ∧ R w'))
    (ha : Fr.Is 44 [(0, .pointer (some ⟨fb, 0, none⟩)), (2, .pointer (some ⟨ib, 0, none⟩))] a)
    (hQ : Hid (∀ a' w', Fr.Is 44 [(0, .pointer (some ⟨fb, 0, none⟩)), (2, .pointer (some ⟨ib, 0, none⟩))] a' → R w' → Q .normal a' w')) :
    (Fr.reg Tryd.f33 3).wp Tryd.prog Q a w := by
  obtain ⟨fr, rfl, hfr⟩ := ha.lit
  simp only [List.map_cons, List.map_nil, List.cons.injEq, and_true] at hfr
  conv => arg 2; whnf
  simp only [List.range, List.range.loop, List.map_cons, List.map_nil, hfr]
  clear hfr ha
  go_wp2_with (go_at_call 35; refine HE.out.mono ?_; rintro e w' ⟨⟨v, rfl⟩, hR⟩)
  exact hQ.out _ w' (Fr.Is.mk rfl rfl) hR

set_option maxRecDepth 100000 in
set_option maxHeartbeats 1000000 in
theorem gr_r4 {Q : Exit → Act → World → Prop} {fb ib : Nat} (a : Act) (w : World) (hi : w.heap[ib]? = some (.cells itZ 42 (0, 0)))
    (ha : Fr.Is 44 [(0, .pointer (some ⟨fb, 0, none⟩)), (2, .pointer (some ⟨ib, 0, none⟩))] a)
    (hQ : Hid (∀ a' w', Fr.Is 44 [(2, .pointer (some ⟨ib, 0, none⟩)), (3, .bool true)] a' → w'.heap[ib]? = some (.cells (itC noFr none 0 (ofC 1)) 42 (0, 0)) → Kept [ib] w w' → Q .normal a' w')) :
    (Fr.reg Tryd.f33 4).wp Tryd.prog Q a w := by
  obtain ⟨fr, rfl, hfr⟩ := ha.lit
  simp only [List.map_cons, List.map_nil, List.cons.injEq, and_true] at hfr
  conv => arg 2; whnf
  simp only [List.range, List.range.loop, List.map_cons, List.map_nil, hfr]
  clear hfr ha
  go_wp2_with (refine wl_put rfl 42 (.tmp 2) (.tmp 24) rfl ib (itC noFr none 0 (ofC 1)) _ 42 rfl rfl hi rfl size_item (itC_one _ _ _ _) ?_; intro w2 hi2 hk2)
  exact hQ.out _ w2 (Fr.Is.mk rfl rfl) hi2.out hk2.out

set_option maxRecDepth 100000 in
set_option maxHeartbeats 1000000 in
theorem gr_r5 {Q : Exit → Act → World → Prop} {fb ib m : Nat} (a : Act) (w : World)
    (ha : Fr.Is 44 [(0, .pointer (some ⟨fb, 0, none⟩)), (2, .pointer (some ⟨ib, 0, none⟩)), (4, .int .i64 m)] a)
    (hQ : Hid (∀ a', Fr.Is 44 [(0, .pointer (some ⟨fb, 0, none⟩)), (2, .pointer (some ⟨ib, 0, none⟩)), (4, .int .i64 m), (26, .bool (decide ((m : Int) < 24)))] a' → Q .normal a' w)) :
    (Fr.reg Tryd.f33 5).wp Tryd.prog Q a w := by
  obtain ⟨fr, rfl, hfr⟩ := ha.lit
  simp only [List.map_cons, List.map_nil, List.cons.injEq, and_true] at hfr
  conv => arg 2; whnf
  simp only [List.range, List.range.loop, List.map_cons, List.map_nil, hfr]
  clear hfr ha
  go_wp2_with fail
  exact hQ.out _ (Fr.Is.mk rfl (by simp))

set_option maxRecDepth 100000 in
set_option maxHeartbeats 1000000 in
theorem gr_r6 {Q : Exit → Act → World → Prop} {fb ib : Nat} (a : Act) (w : World) (hi : w.heap[ib]? = some (.cells itZ 42 (0, 0)))
    (ha : Fr.Is 44 [(0, .pointer (some ⟨fb, 0, none⟩)), (2, .pointer (some ⟨ib, 0, none⟩))] a)
    (hQ : Hid (∀ a' w', Fr.Is 44 [(2, .pointer (some ⟨ib, 0, none⟩)), (3, .bool false)] a' → w'.heap[ib]? = some (.cells itZ 42 (0, 0)) → Kept [ib] w w' → Q .normal a' w')) :
    (Fr.reg Tryd.f33 6).wp Tryd.prog Q a w := by
  obtain ⟨fr, rfl, hfr⟩ := ha.lit
  simp only [List.map_cons, List.map_nil, List.cons.injEq, and_true] at hfr
  conv => arg 2; whnf
  simp only [List.range, List.range.loop, List.map_cons, List.map_nil, hfr]
  clear hfr ha
  go_wp2_with (refine wl_put rfl 42 (.tmp 2) (.tmp 27) rfl ib itZ _ 42 rfl rfl hi rfl size_item (itC_one _ _ _ _) ?_; intro w2 hi2 hk2)
  exact hQ.out _ w2 (Fr.Is.mk rfl rfl) hi2.out hk2.out

set_option maxRecDepth 100000 in
set_option maxHeartbeats 1000000 in
theorem gr_r7 {Q : Exit → Act → World → Prop} {fb ib n lc k : Nat} {la : Option Addr} {u : Value} (a : Act) (w : World) (c2 : w.cell? ⟨fb, 2, none⟩ = some (.slice la n lc)) (z2 : w.frozen? ⟨fb, 2, none⟩ = false) (c1 : w.cell? ⟨fb, 1, none⟩ = some u) (z1 : w.frozen? ⟨fb, 1, none⟩ = false) (hk : k ≤ n) (hn : n ≤ lc)
    (ha : Fr.Is 44 [(0, .pointer (some ⟨fb, 0, none⟩)), (2, .pointer (some ⟨ib, 0, none⟩)), (4, .int .i64 k)] a)
    (hQ : Hid (∀ a', Fr.Is 44 [(0, .pointer (some ⟨fb, 0, none⟩)), (2, .pointer (some ⟨ib, 0, none⟩))] a' → Q .normal a' ((w.setCell ⟨fb, 2, none⟩ (.slice (Sl.adOf la lc k 1) (n - k) (lc - k))).setCell ⟨fb, 1, none⟩ (.bool false)))) :
    (Fr.reg Tryd.f33 7).wp Tryd.prog Q a w := by
  obtain ⟨fr, rfl, hfr⟩ := ha.lit
  simp only [List.map_cons, List.map_nil, List.cons.injEq, and_true] at hfr
  conv => arg 2; whnf
  simp only [List.range, List.range.loop, List.map_cons, List.map_nil, hfr]
  clear hfr ha
  have hsl := fun (v : World) => Sl.run_from (P := Tryd.prog) (t := 24) Tryd.underlying24 (size := 1) size_by la n lc k hk hn v
  generalize Sl.adOf la lc k 1 = ad2 at hsl hQ
  generalize n - k = n2 at hsl hQ
  generalize lc - k = c2' at hsl hQ
  go_wp2_with fail
  exact hQ.out _ (Fr.Is.mk rfl rfl)

set_option maxRecDepth 100000 in
set_option maxHeartbeats 1000000 in
theorem gr_r8 {Q : Exit → Act → World → Prop} {fb ib : Nat} {b : Bool} {f : FrM} {x : FaM} {R : Option Addr → Nat → World → Prop} (a : Act) (w : World) (hi : w.heap[ib]? = some (.cells itZ 42 (0, 0)))
    (HN : Hid (Calls Tryd.prog 28 #[.pointer (some ⟨fb, 0, none⟩)] w fun e w' => ∃ sa sc, e = .returned (.tuple #[.agg (itC f sa sc x), .bool b]) ∧ w'.heap[ib]? = some (.cells itZ 42 (0, 0)) ∧ R sa sc w'))
    (ha : Fr.Is 44 [(0, .pointer (some ⟨fb, 0, none⟩)), (2, .pointer (some ⟨ib, 0, none⟩))] a)
    (hQ : Hid (∀ a' w1 w' sa sc, Fr.Is 44 [(2, .pointer (some ⟨ib, 0, none⟩)), (3, .bool b)] a' → R sa sc w1 → w'.heap[ib]? = some (.cells (itC f sa sc x) 42 (0, 0)) → Kept [ib] w1 w' → Q .normal a' w')) :
    (Fr.reg Tryd.f33 8).wp Tryd.prog Q a w := by
  obtain ⟨fr, rfl, hfr⟩ := ha.lit
  simp only [List.map_cons, List.map_nil, List.cons.injEq, and_true] at hfr
  conv => arg 2; whnf
  simp only [List.range, List.range.loop, List.map_cons, List.map_nil, hfr]
  clear hfr ha
  go_wp2_with (first
    | (go_at_call 28; refine HN.out.mono ?_; rintro e w1 ⟨sa, sc, rfl, hi1, hR⟩)
    | (refine wl_put rfl 42 (.tmp 2) (.tmp 42) rfl ib (itC f sa sc x) _ 42 rfl rfl hi1 rfl size_item (itC_one _ _ _ _) ?_; intro w2 hi2 hk2))
  exact hQ.out _ w1 w2 sa sc (Fr.Is.mk rfl rfl) hR hi2.out hk2.out
end Go.Proofs.YtglhdlkmgmbgeaaDoor

namespace Go.Proofs.YtglhdlkmgmbgeaaDoor
open Go.RowKit
open Cho Fra Oct Arg Mem Gen Wr Qu Pt Go.Proofs.YtglhdlkmgmbgeaaDoor.Obj
set_option linter.unusedVariables false
set_option linter.unusedSimpArgs false

theorem gr_ret {R : Ending → World → Prop} {ib : Nat} {b : Bool} {a : Act} {w' : World} {f : FrM} {sa : Option Addr} {sc : Nat} {x : FaM}
    (ha : Fr.Is 44 [(2, .pointer (some ⟨ib, 0, none⟩)), (3, .bool b)] a) (hi : w'.heap[ib]? = some (.cells (itC f sa sc x) 42 (0, 0)))
    (hR : R (.returned (.tuple #[.agg (itC f sa sc x), .bool b])) w') : bodyPost Tryd.prog Tryd.f33 R .ret a w' := by
  obtain ⟨fr, rfl, hfr⟩ := ha.lit
  simp only [List.map_cons, List.map_nil, List.cons.injEq, and_true] at hfr
  obtain ⟨h2, h3⟩ := hfr
  obtain ⟨c0, c1, c2, c3, c4, c5, c6, c7, c8, c9, c10, c11, c12, c13, c14⟩ := it_cells hi
  clear hi
  refine bodyPost_ret (v := .tuple #[.agg (itC f sa sc x), .bool b]) ?_ rfl hR
  simp [results, Tryd.results33, go_sem, itC, h2, h3, c0, c1, c2, c3, c4, c5, c6, c7, c8, c9, c10, c11, c12, c13, c14]
theorem mism_iff (r : List UInt8) (m : Nat) (hm : m = min r.length 24) : (!(r.take m == prefL.take m)) = decide (r.take 24 ≠ prefL.take r.length) := by
  have h : (r.take m = prefL.take m) ↔ (r.take 24 = prefL.take r.length) := by
    subst hm
    by_cases hl : r.length ≤ 24
    · rw [Nat.min_eq_left hl, List.take_of_length_le (Nat.le_refl _), List.take_of_length_le hl]
    · rw [Nat.min_eq_right (by omega), List.take_of_length_le (l := prefL) (by rw [pref_len]; exact Nat.le_refl _), List.take_of_length_le (l := prefL) (by rw [pref_len]; omega)]
  rw [Bool.eq_iff_iff]
  simp [h]
theorem frok_noX (w : World) : FrOk noFr none 0 w := ⟨.inl rfl, Nat.le_refl _, by unfold maxLen; omega⟩

set_option maxHeartbeats 1000000 in
theorem pgreet_any {fb : Nat} {la : Option Addr} {lc : Nat} {most : Int} {r : List UInt8} (w : World) (h : FdO fb la lc most ⟨r, true, false⟩ w) (hs : ∀ v, Kept [fb] w v → SpIs v) :
    Calls Tryd.prog 33 #[.pointer (some ⟨fb, 0, none⟩)] w (NextEnd fb la most w (nextF most ⟨r, true, false⟩)) := by
  go_enter Tryd.func33, Tryd.ntmps33
  have hfl : fb < w.heap.size := (Array.getElem?_eq_some_iff.1 h.blk).1
  refine wp_seq ?_
  refine gr_r0 (fb := fb) _ w (Fr.Is.mk rfl rfl) (Lib.hid (fun a1 g1 => ?_))
  have b1 := bel_al w (.cells itZ 42)
  have hi1 := heap_alloc_new w (.cells itZ 42)
  generalize w.alloc (.cells itZ 42) = w1 at b1 hi1 ⊢
  have h1 := h.below b1
  obtain ⟨ib, hib⟩ : ∃ ib, ib = w.heap.size := ⟨_, rfl⟩
  rw [← hib] at g1 hi1
  have hif : ib ≠ fb := by omega
  have hal : ∀ b o s, la = some ⟨b, o, s⟩ → b ≠ ib := fun b o s e => by
    obtain ⟨b2, off, e2, hlt, _⟩ := h.row.lies _ e
    simp only [Addr.mk.injEq] at e2
    omega
  refine wp_seq ?_
  refine gr_r1 (ib := ib) (n := r.length) (lc := lc) (la := la) a1 w1 h1.cells.2.2.1 (g1.less (by simp)) (Lib.hid (fun a2 m hm g2 => ?_))
  refine wp_seq (wp_seq ?_)
  refine gr_r2 (ib := ib) (n := r.length) (lc := lc) (la := la) (m := m) (l := r.take m) a2 w1 h1.cells.2.2.1 ((rb_of_q h1.row.row).take m) (by rw [List.length_take]; omega) (by omega) (by omega) h.row.le g2 (Lib.hid (fun a3 nq g3 => ?_))
  rw [mism_iff r m hm] at g3
  have b3 := b1.trans ((bel_drewN w1 nq).mono b1.size)
  have h3 := h1.below (bel_drewN w1 nq)
  have hi3 := block_below (bel_drewN w1 nq) hi1
  generalize w1.drewN nq = w3 at b3 h3 hi3 ⊢
  clear hi1 h1 b1
  have hs3 := b3.size
  have hil : ib < w3.heap.size := (Array.getElem?_eq_some_iff.1 hi3).1
  by_cases hb : r.take 24 ≠ prefL.take r.length
  · refine wp_cond_true (g3.get (i := 20) (v := .bool true) (by simp [hb])) ?_
    rw [next_bad _ _ _ hb]
    refine wp_seq ?_
    refine gr_r3 (ib := ib) a3 w3 (Lib.hid (pend_any w3 h3)) (g3.less (by simp)) (Lib.hid (fun a4 w4 g4 hR => ?_))
    obtain ⟨h4, k4⟩ := hR
    refine wp_seq ?_
    refine gr_r4 (fb := fb) a4 w4 (k4.at hi3 (by simpa using hif)) g4 (Lib.hid (fun a5 w5 g5 hi5 k5 => ?_))
    refine wp_ret ?_
    try dsimp only [Exit.then, Exit.inBlock]
    refine gr_ret g5 hi5 ?_
    refine ⟨none, 0, none, 0, rfl, h4.kept k5 (by simp; omega) (fun b o s e => by cases e), ?_, frok_noX _, (fun b o s e => by cases e), (fun b o s e => by cases e)⟩
    exact ((Kept.of_below b3).trans k4 (fun i hi => .inl hi)).trans k5 (fun i hi => .inr (by simp at hi; omega))
  · refine wp_cond_false (g3.get (i := 20) (v := .bool false) (by simp [hb])) ?_
    refine wp_skip ?_
    refine wp_seq (wp_seq ?_)
    refine gr_r5 (m := m) (fb := fb) (ib := ib) a3 w3 (g3.less (by simp)) (Lib.hid (fun a4 g4 => ?_))
    by_cases hl : r.length < 24
    · refine wp_cond_true (g4.get (i := 26) (v := .bool true) (by simp; omega)) ?_
      rw [next_short _ _ _ hb hl]
      refine wp_seq ?_
      refine gr_r6 (fb := fb) a4 w3 hi3 (g4.less (by simp)) (Lib.hid (fun a5 w5 g5 hi5 k5 => ?_))
      refine wp_ret ?_
      try dsimp only [Exit.then, Exit.inBlock]
      refine gr_ret g5 hi5 ?_
      refine ⟨none, 0, la, lc, rfl, h3.kept k5 (by simp; omega) (fun b o s e => by simpa using hal b o s e), ?_, frok_noX _, (fun b o s e => by cases e), (fun b o s e => ⟨_, _, e⟩)⟩
      exact (Kept.of_below b3).trans k5 (fun i hi => .inr (by simp at hi; omega))
    · refine wp_cond_false (g4.get (i := 26) (v := .bool false) (by simp; omega)) ?_
      refine wp_skip ?_
      obtain rfl : m = 24 := by omega
      rw [next_yes _ _ _ hb hl]
      refine wp_seq ?_
      refine gr_r7 (ib := ib) (n := r.length) (lc := lc) (la := la) (k := 24) a4 w3 h3.cells.2.2.1 (h3.thaw 2) h3.cells.2.1 (h3.thaw 1) (by omega) h.row.le (g4.less (by simp)) (Lib.hid (fun a5 g5 => ?_))
      have hA : FdO fb (Sl.adOf la lc 24 1) (lc - 24) most ⟨r.drop 24, false, false⟩ ((w3.setCell ⟨fb, 2, none⟩ (.slice (Sl.adOf la lc 24 1) (r.length - 24) (lc - 24))).setCell ⟨fb, 1, none⟩ (.bool false)) ∧ Kept [fb] w3 ((w3.setCell ⟨fb, 2, none⟩ (.slice (Sl.adOf la lc 24 1) (r.length - 24) (lc - 24))).setCell ⟨fb, 1, none⟩ (.bool false)) := by
        have q1 := setCell_block (i := 2) (.slice (Sl.adOf la lc 24 1) (r.length - 24) (lc - 24)) h3.blk
        have q2 := setCell_block (i := 1) (.bool false) q1
        have hk2 : Kept [fb] w3 ((w3.setCell ⟨fb, 2, none⟩ (.slice (Sl.adOf la lc 24 1) (r.length - 24) (lc - 24))).setCell ⟨fb, 1, none⟩ (.bool false)) := ((Kept.refl [fb] w3).setCell (p := ⟨fb, 2, none⟩) (.inl (by simp)) _).setCell (p := ⟨fb, 1, none⟩) (.inl (by simp)) _
        have hq := qrow_from h3.row 24 (show 24 ≤ r.length by omega)
        have hne : ∀ b o s', Sl.adOf la lc 24 1 = some ⟨b, o, s'⟩ → b ≠ fb := fun b o s' e => by
          obtain ⟨o', s2, e2⟩ := adOf_block e
          exact h.ne b o' s2 e2
        refine ⟨⟨?_, hq.block hk2.size (fun b o s e => (Below.heap_setCell _ _ _ _ (hne b o s e)).trans (Below.heap_setCell _ _ _ _ (hne b o s e))), hne⟩, hk2⟩
        rw [q2]
        simp [fdC, List.length_drop]
      obtain ⟨h5, k5⟩ := hA
      have hi5 := k5.at hi3 (by simpa using hif)
      generalize (w3.setCell ⟨fb, 2, none⟩ (.slice (Sl.adOf la lc 24 1) (r.length - 24) (lc - 24))).setCell ⟨fb, 1, none⟩ (.bool false) = w5 at h5 k5 hi5 ⊢
      have b5 : Kept [fb] w w5 := (Kept.of_below b3).trans k5 (fun i hi => .inl hi)
      have hs5 : SpIs w5 := hs w5 b5
      have hil5 := Nat.lt_of_lt_of_le hil k5.size
      refine wp_seq ?_
      refine gr_r8 (fb := fb) (b := (nextP most (r.drop 24)).2.1) (f := (nextP most (r.drop 24)).1.f) (x := (nextP most (r.drop 24)).1.x) (R := fun sa sc w6 => ∃ la' lc', FdO fb la' lc' most (nextP most (r.drop 24)).2.2 w6 ∧ Kept [fb] w5 w6 ∧ FrOk (nextP most (r.drop 24)).1.f sa sc w6 ∧ (∀ b o s, sa = some ⟨b, o, s⟩ → w5.heap.size ≤ b) ∧ (∀ b o s, la' = some ⟨b, o, s⟩ → ∃ o' s', Sl.adOf la lc 24 1 = some ⟨b, o', s'⟩)) a5 w5 hi5 (Lib.hid ((pnextP_any w5 h5 hs5).mono (fun e w6 hE => ?_))) (g5.less (by simp)) (Lib.hid (fun a6 w6 w7 sa sc g6 hR hi7 k7 => ?_))
      · obtain ⟨sa, sc, la', lc', e1, e2, e3, e4, e5, e6⟩ := hE
        exact ⟨sa, sc, e1, e3.at hi5 (by simpa using hif), la', lc', e2, e3, e4, e5, e6⟩
      · obtain ⟨la', lc', e2, e3, e4, e5, e6⟩ := hR
        refine wp_ret ?_
        try dsimp only [Exit.then, Exit.inBlock]
        refine gr_ret g6 hi7 ?_
        have hla' : ∀ b o s, la' = some ⟨b, o, s⟩ → ∃ o' s', la = some ⟨b, o', s'⟩ := fun b o s e => by
          obtain ⟨o', s', e'⟩ := e6 b o s e
          exact adOf_block e'
        refine ⟨sa, sc, la', lc', rfl, e2.kept k7 (by simp; omega) (fun b o s e => by obtain ⟨o', s', e'⟩ := hla' b o s e; simpa using hal b o' s' e'), ?_, ok_keep e4 k7 (fun b o s _ e => by have := e5 b o s e; simp; omega), (fun b o s e => by have := e5 b o s e; have := b5.size; omega), hla'⟩
        exact (b5.trans e3 (fun i hi => .inl hi)).trans k7 (fun i hi => .inr (by simp at hi; omega))

set_option maxRecDepth 100000 in
set_option maxHeartbeats 1000000 in
theorem nx_r2 {Q : Exit → Act → World → Prop} {fb ib : Nat} {b : Bool} {f : FrM} {x : FaM} {R : Option Addr → Nat → World → Prop} (a : Act) (w : World) (hi : w.heap[ib]? = some (.cells itZ 42 (0, 0)))
    (HN : Hid (Calls Tryd.prog 33 #[.pointer (some ⟨fb, 0, none⟩)] w fun e w' => ∃ sa sc, e = .returned (.tuple #[.agg (itC f sa sc x), .bool b]) ∧ w'.heap[ib]? = some (.cells itZ 42 (0, 0)) ∧ R sa sc w'))
    (ha : Fr.Is 55 [(0, .pointer (some ⟨fb, 0, none⟩)), (2, .pointer (some ⟨ib, 0, none⟩))] a)
    (hQ : Hid (∀ a' w1 w' sa sc, Fr.Is 55 [(2, .pointer (some ⟨ib, 0, none⟩)), (3, .bool b)] a' → R sa sc w1 → w'.heap[ib]? = some (.cells (itC f sa sc x) 42 (0, 0)) → Kept [ib] w1 w' → Q .normal a' w')) :
    (Fr.reg Tryd.f28 2).wp Tryd.prog Q a w := by
  obtain ⟨fr, rfl, hfr⟩ := ha.lit
  simp only [List.map_cons, List.map_nil, List.cons.injEq, and_true] at hfr
  conv => arg 2; whnf
  simp only [List.range, List.range.loop, List.map_cons, List.map_nil, hfr]
  clear hfr ha
  go_wp2_with (first
    | (go_at_call 33; refine HN.out.mono ?_; rintro e w1 ⟨sa, sc, rfl, hi1, hR⟩)
    | (refine wl_put rfl 42 (.tmp 2) (.tmp 13) rfl ib (itC f sa sc x) _ 42 rfl rfl hi1 rfl size_item (itC_one _ _ _ _) ?_; intro w2 hi2 hk2))
  exact hQ.out _ w1 w2 sa sc (Fr.Is.mk rfl rfl) hR hi2.out hk2.out

set_option maxHeartbeats 1000000 in
theorem pnext_any {fb : Nat} {la : Option Addr} {lc : Nat} {most : Int} {s : FeM} (hov : s.over = false) (w : World) (h : FdO fb la lc most s w) (hs : ∀ v, Kept [fb] w v → SpIs v) :
    Calls Tryd.prog 28 #[.pointer (some ⟨fb, 0, none⟩)] w (NextEnd fb la most w (nextF most s)) := by
  obtain ⟨r, aw, ov⟩ := s
  simp only at hov
  subst hov
  cases aw with
  | false => rw [next_no]; exact pnextP_any w h (hs w (Kept.refl _ _))
  | true =>
    go_enter Tryd.func28, Tryd.ntmps28
    have hfl : fb < w.heap.size := (Array.getElem?_eq_some_iff.1 h.blk).1
    refine wp_seq ?_
    refine nx_r0 (fb := fb) _ w (Fr.Is.mk rfl rfl) (Lib.hid (fun a1 g1 => ?_))
    have b1 := bel_al w (.cells itZ 42)
    have hi1 := heap_alloc_new w (.cells itZ 42)
    generalize w.alloc (.cells itZ 42) = w1 at b1 hi1 ⊢
    have h1 := h.below b1
    obtain ⟨ib, hib⟩ : ∃ ib, ib = w.heap.size := ⟨_, rfl⟩
    rw [← hib] at g1 hi1
    have hif : ib ≠ fb := by omega
    have hal : ∀ b o s, la = some ⟨b, o, s⟩ → b ≠ ib := fun b o s e => by
      obtain ⟨b2, off, e2, hlt, _⟩ := h.row.lies _ e
      simp only [Addr.mk.injEq] at e2
      omega
    refine wp_seq (wp_seq ?_)
    refine nx_r1 (ib := ib) a1 w1 h1.cells.2.1 (g1.less (by simp)) (Lib.hid (fun a2 g2 => ?_))
    refine wp_cond_true (g2.get (i := 10) (v := .bool true) (by simp)) ?_
    have hil1 : ib < w1.heap.size := (Array.getElem?_eq_some_iff.1 hi1).1
    have k1 : Kept [fb] w w1 := Kept.of_below b1
    have HG := pgreet_any w1 h1 (fun v hv => hs v (k1.trans hv (fun i hi => .inl hi)))
    generalize nextF most ⟨r, true, false⟩ = R at HG ⊢
    refine wp_seq ?_
    refine nx_r2 (fb := fb) (b := R.2.1) (f := R.1.f) (x := R.1.x) (R := fun sa sc w6 => ∃ la' lc', FdO fb la' lc' most R.2.2 w6 ∧ Kept [fb] w1 w6 ∧ FrOk R.1.f sa sc w6 ∧ (∀ b o s, sa = some ⟨b, o, s⟩ → w1.heap.size ≤ b) ∧ (∀ b o s, la' = some ⟨b, o, s⟩ → ∃ o' s', la = some ⟨b, o', s'⟩)) a2 w1 hi1 (Lib.hid (HG.mono (fun e w6 hE => ?_))) (g2.less (by simp)) (Lib.hid (fun a6 w6 w7 sa sc g6 hR hi7 k7 => ?_))
    · obtain ⟨sa, sc, la', lc', e1, e2, e3, e4, e5, e6⟩ := hE
      exact ⟨sa, sc, e1, e3.at hi1 (by simpa using hif), la', lc', e2, e3, e4, e5, e6⟩
    · obtain ⟨la', lc', e2, e3, e4, e5, e6⟩ := hR
      refine wp_ret ?_
      try dsimp only [Exit.then, Exit.inBlock]
      refine nx_ret g6 hi7 ?_
      refine ⟨sa, sc, la', lc', rfl, e2.kept k7 (by simp; omega) (fun b o s e => by obtain ⟨o', s', e'⟩ := e6 b o s e; simpa using hal b o' s' e'), ?_, ok_keep e4 k7 (fun b o s _ e => by have := e5 b o s e; simp; omega), (fun b o s e => by have := e5 b o s e; have := b1.size; omega), e6⟩
      exact (k1.trans e3 (fun i hi => .inl hi)).trans k7 (fun i hi => .inr (by simp at hi; omega))
end Go.Proofs.YtglhdlkmgmbgeaaDoor

namespace Go.Proofs.YtglhdlkmgmbgeaaDoor
open Go.RowKit
open Arg Mem Sx Go.Proofs.YtglhdlkmgmbgeaaDoor.Obj
set_option linter.unusedVariables false
set_option linter.unusedSimpArgs false

def RowQ {α : Type} (E : Rw.Enc α) (ad : Option Addr) (cap : Nat) (l : List α) : World → Prop := fun w => Rw.QRow E w ad cap l
theorem RowQ.st {α : Type} {E : Rw.Enc α} {ad : Option Addr} {cap : Nat} {l : List α} : Stable (blk ad) (RowQ E ad cap l) := fun a b hs hb h =>
  Rw.QRow.block h hs (fun bk o s e => hb bk (by subst e; exact List.mem_singleton.mpr rfl))
theorem qr_lt {α : Type} {E : Rw.Enc α} {w : World} {ad : Option Addr} {cap : Nat} {l : List α} (h : Rw.QRow E w ad cap l) : ∀ k ∈ blk ad, k < w.heap.size := fun k hk => by
  obtain ⟨o, s, e⟩ := mem_blk hk
  obtain ⟨b, off, e', h1, _⟩ := h.lies _ e
  simp only [Addr.mk.injEq] at e'
  obtain ⟨rfl, _⟩ := e'
  exact h1
/-- A row of the state is appended to. -/
theorem stsApp {W v w' : World} {obs : List Th} {α : Type} {E : Rw.Enc α} {ad ad' : Option Addr} {cap cap' : Nat} {l l' : List α} (hS : Sts W v obs) (i : Nat) (hi : obs[i]? = some (blk ad, RowQ E ad cap l)) (hg : v.grownBy w' (ad.map (·.block)))
    (hq : Rw.QRow E w' ad' cap' l') (hn : ∀ b o s, ad' = some ⟨b, o, s⟩ → (∃ o', ad = some ⟨b, o', none⟩) ∨ v.heap.size ≤ b) : Sts W w' (obs.set i (blk ad', RowQ E ad' cap' l')) := by
  refine hS.turn hi ((Kept.refl _ _).grown hg (fun k hk => ?_)) (fun k hk => ?_) (qr_lt hq) RowQ.st hq
  · rw [Option.map_eq_some_iff] at hk
    obtain ⟨a, rfl, rfl⟩ := hk
    exact .inl (List.mem_singleton.mpr rfl)
  · obtain ⟨o, s, e⟩ := mem_blk hk
    rcases hn k o s e with ⟨o', h⟩ | h
    · subst h; exact .inl (List.mem_singleton.mpr rfl)
    · exact .inr h
section
open Rw
variable {P : Program} {t e : TypeId} {i : TypeInfo} {z : Value} {by' : Nat}
variable {w : World} {ops : Array Oper} {o : Oper} {a : Act} {Q : Exit → Act → World → Prop}
/-- An append of a row as a step of a walk. -/
theorem wl_que {α : Type} (E : Enc α) {rest : List Oper} (ht : P.underlying t = some (.slice e)) (hi : P.info? e = some i) (hz : i.zero = some z) (hsize : i.size = E.k) (hby : i.bytes = by') (hzs : z.cells.size = E.k)
    (hgd : o.guard = none) (s x : Operand) (ho : o.op = .call { callee := .builtin .append, args := #[s, x], argTypes := #[t, t] })
    (ad : Option Addr) (n cap : Nat) (l : List α) (hs : a.eval s = .slice ad n cap) (hn : n = l.length) (h : QRow E w ad cap l)
    (a2 : Addr) (m : Nat) (l2 : List α) (c : Nat) (hx : a.eval x = .slice (some a2) m c) (hm : m = l2.length) (hr : RowE E w (some a2) l2)
    (hlen : n + m ≤ maxLen) (hbytes : (n + m) * by' ≤ 140737488355328)
    (hK : ∀ (ad' : Option Addr) (cap' : Nat) w', Hid (QRow E w' ad' cap' (l ++ l2)) → Hid (w.grownBy w' (ad.map (·.block))) → Hid (∀ b o s, ad' = some ⟨b, o, s⟩ → (∃ o', ad = some ⟨b, o', .none⟩) ∨ w.heap.size ≤ b) → wpList P ops Q rest (a.put o.dst (.slice ad' (n + m) cap')) w') :
    wpList P ops Q (o :: rest) a w := by
  subst hn hm
  obtain ⟨ad', cap', w', hrun, h1, h2, h3⟩ := run_append_que E w o.type ht hi hz hsize hby hzs ad cap l h a2 c l2 hr hlen hbytes
  refine wpList_step fun K hK2 => ?_
  have hw : Region.wanted o (yielded ops a.tmps) = true := by simp [Region.wanted, hgd]
  rw [if_pos hw]
  unfold Oper.wp
  simp [execOp, ho, resolve, invoke, builtin, hs, hx, hrun, Result.andThen]
  exact hK2 _ _ (hK _ _ _ (Lib.hid h1) (Lib.hid h2) (Lib.hid h3))
end

/-- A block as a thing. -/
def BlkQ (b : Nat) (o : Obj) : World → Prop := fun w => w.heap[b]? = some o
theorem BlkQ.st {b : Nat} {o : Obj} : Stable [b] (BlkQ b o) := fun x y hs hb h => (hb b (List.mem_singleton.mpr rfl)).trans h
/-- A new box. -/
theorem stsBox {W w : World} {obs : List Th} (hS : Sts W w obs) (o : Obj) : Sts W (w.alloc o) (([w.heap.size], BlkQ w.heap.size o) :: obs) :=
  hS.add ((Below.refl _ _).alloc (Nat.le_refl _) o) (fun k hk => by simp only [List.mem_singleton] at hk; subst hk; simp) BlkQ.st (heap_alloc_new w o)
/-- A box is stored into. -/
theorem stsPut {W w w' : World} {obs : List Th} (hS : Sts W w obs) (i : Nat) {b : Nat} {o o' : Obj} (hi : obs[i]? = some ([b], BlkQ b o)) (hk : Kept [b] w w') (hb : w'.heap[b]? = some o') : Sts W w' (obs.set i ([b], BlkQ b o')) :=
  hS.turn hi hk (fun k h => .inl h) (fun k h => by simp only [List.mem_singleton] at h; subst h; exact (Array.getElem?_eq_some_iff.1 hb).1) BlkQ.st hb
/-- Two things as one. -/
theorem stsJoin {W w : World} {obs : List Th} {G : List Nat} {Q : World → Prop} (hS : Sts W w ((G, Q) :: obs)) (i : Nat) {F : List Nat} {P : World → Prop} (hi : obs[i]? = some (F, P)) : Sts W w (obs.set i (F ++ G, fun v => P v ∧ Q v)) := by
  have h0 := hS.all 0 _ rfl
  have h1 := hS.all (i + 1) (F, P) (by simpa using hi)
  have get : ∀ {j : Nat} {y : Th}, (obs.set i (F ++ G, fun v => P v ∧ Q v))[j]? = some y → (i = j ∧ y = (F ++ G, fun v => P v ∧ Q v)) ∨ (i ≠ j ∧ obs[j]? = some y) := fun {j y} hy => by
    by_cases hij : i = j
    · subst hij
      rw [List.getElem?_set_self (List.getElem?_eq_some_iff.1 hi).1] at hy
      exact .inl ⟨rfl, (Option.some.inj hy).symm⟩
    · rw [List.getElem?_set_ne hij] at hy
      exact .inr ⟨hij, hy⟩
  refine ⟨hS.bel, fun j o hj => ?_, fun a b x y hn ha hb => ?_⟩
  · rcases get hj with ⟨rfl, rfl⟩ | ⟨_, hj'⟩
    · refine ⟨⟨h1.is, h0.is⟩, fun k hk => ?_, fun u v hs hb hp => ⟨h1.st u v hs (fun k hk => hb k (List.mem_append_left _ hk)) hp.1, h0.st u v hs (fun k hk => hb k (List.mem_append_right _ hk)) hp.2⟩⟩
      rcases List.mem_append.mp hk with h | h
      · exact h1.lo k h
      · exact h0.lo k h
    · exact hS.all (j + 1) o (by simpa using hj')
  · rcases get ha with ⟨rfl, rfl⟩ | ⟨hia, ha'⟩
    · rcases get hb with ⟨rfl, rfl⟩ | ⟨hib, hb'⟩
      · exact absurd rfl hn
      · intro k hk
        rcases List.mem_append.mp hk with h | h
        · exact hS.ap (i + 1) (b + 1) _ _ (by omega) (by simpa using hi) (by simpa using hb') k h
        · exact hS.ap 0 (b + 1) _ _ (by omega) rfl (by simpa using hb') k h
    · rcases get hb with ⟨rfl, rfl⟩ | ⟨hib, hb'⟩
      · intro k hk hm
        rcases List.mem_append.mp hm with h | h
        · exact hS.ap (i + 1) (a + 1) _ _ (by omega) (by simpa using hi) (by simpa using ha') k h hk
        · exact hS.ap 0 (a + 1) _ _ (by omega) rfl (by simpa using ha') k h hk
      · exact hS.ap (a + 1) (b + 1) _ _ (by omega) (by simpa using ha') (by simpa using hb')
/-- A thing is let go. -/
theorem stsErase {W w : World} {obs : List Th} (hS : Sts W w obs) (i : Nat) : Sts W w (obs.eraseIdx i) := by
  have get : ∀ {j : Nat} {y : Th}, (obs.eraseIdx i)[j]? = some y → obs[if j < i then j else j + 1]? = some y := fun {j y} h => by
    rw [List.getElem?_eraseIdx] at h
    by_cases hji : j < i
    · rw [if_pos hji] at h ⊢; exact h
    · rw [if_neg hji] at h ⊢; exact h
  refine ⟨hS.bel, fun j o hj => hS.all _ o (get hj), fun a b x y hn ha hb => hS.ap _ _ x y ?_ (get ha) (get hb)⟩
  split <;> split <;> omega
/-- A thing says less, of fewer blocks. -/
theorem stsLess {W w : World} {obs : List Th} (hS : Sts W w obs) (i : Nat) {F F' : List Nat} {P Q : World → Prop} (hi : obs[i]? = some (F, P)) (hF : ∀ k ∈ F', k ∈ F) (hp : Q w) (hst : Stable F' Q) : Sts W w (obs.set i (F', Q)) :=
  hS.turn hi (Kept.refl _ _) (fun k h => .inl (hF k h)) (fun k h => ((hS.all i _ hi).lo k (hF k h)).2) hst hp
/-- Some of the things, in another order. -/
theorem stsMap {W w : World} {obs obs' : List Th} (hS : Sts W w obs) (f : Nat → Nat) (hinj : ∀ a b, f a = f b → a = b) (h : ∀ i o, obs'[i]? = some o → obs[f i]? = some o) : Sts W w obs' :=
  ⟨hS.bel, fun j o hj => hS.all _ o (h j o hj), fun a b x y hn ha hb => hS.ap _ _ x y (fun e => hn (hinj a b e)) (h a x ha) (h b y hb)⟩
end Go.Proofs.YtglhdlkmgmbgeaaDoor

namespace Go.Proofs.YtglhdlkmgmbgeaaDoor
open Go.RowKit Go.Shelf
open Cho Fra Oct Arg Mem Gen Wr Qu Pt Sx Go.Proofs.YtglhdlkmgmbgeaaDoor.Obj
set_option linter.unusedVariables false
set_option linter.unusedSimpArgs false
attribute [local go_sem] Oper.semAt_some

/-- An item as it lies: with the place of its settings. -/
abbrev ItX := ItM × Option Addr × Nat
def EIt : Rw.Enc ItX where
  enc x := (itC x.1.f x.2.1 x.2.2 x.1.x).toList
  k := 15
  pos := by decide
  len _ := rfl
  one x v h := by
    simp only [itC, List.mem_cons, List.not_mem_nil, or_false] at h
    rcases h with rfl | rfl | rfl | rfl | rfl | rfl | rfl | rfl | rfl | rfl | rfl | rfl | rfl | rfl | rfl <;> rfl
theorem info_it : (Tryd.prog.info? 42).map (fun i => (i.zero, i.size, i.bytes)) = some (some (.agg itZ), 15, 144) := by kernel_rfl
theorem it_new (w : World) (x : ItX) : Rw.RowE EIt (w.alloc (.cells (itC x.1.f x.2.1 x.2.2 x.1.x) 42)) (some ⟨w.heap.size, 0, none⟩) [x] := .inr ⟨_, _, rfl, fun i hi r u hu => by
  have h0 : i = 0 := by simp at hi; omega
  subst h0
  have hh := heap_alloc_new w (.cells (itC x.1.f x.2.1 x.2.2 x.1.x) 42)
  rw [cell_at hh]
  simpa [EIt] using hu⟩
/-- The blocks where items' settings lie. -/
def sB (x : ItX) : List Nat := if x.1.f.sets = [] then [] else blk x.2.1
def sBs (its : List ItX) : List Nat := its.flatMap sB
def SetsP (its : List ItX) : World → Prop := fun w => ∀ x ∈ its, FrOk x.1.f x.2.1 x.2.2 w
theorem ok_stab {x : ItX} : Stable (sB x) (fun w => FrOk x.1.f x.2.1 x.2.2 w) := fun a b hs hb h => by
  by_cases he : x.1.f.sets = []
  · exact ⟨.inl he, h.len, h.cap⟩
  · refine ⟨h.row.block (fun bk off e => hb bk ?_), h.len, h.cap⟩
    rw [sB, if_neg he, e]
    exact List.mem_singleton.mpr rfl
theorem sets_stab {its : List ItX} : Stable (sBs its) (SetsP its) := fun a b hs hb h x hx => ok_stab a b hs (fun k hk => hb k (List.mem_flatMap.mpr ⟨x, hx, hk⟩)) (h x hx)
theorem sBs_app (its : List ItX) (x : ItX) : sBs (its ++ [x]) = sBs its ++ sB x := by simp [sBs]
theorem setsP_app (its : List ItX) (x : ItX) : SetsP (its ++ [x]) = fun v => SetsP its v ∧ FrOk x.1.f x.2.1 x.2.2 v := by
  funext v
  simp only [SetsP, List.mem_append, List.mem_singleton, eq_iff_iff]
  constructor
  · intro h; exact ⟨fun y hy => h y (.inl hy), h x (.inr rfl)⟩
  · rintro ⟨h1, h2⟩ y (hy | rfl)
    · exact h1 y hy
    · exact h2
/-- A feed as a thing. -/
def FdP (fb : Nat) (la : Option Addr) (lc : Nat) (most : Int) (s : FeM) : World → Prop := fun w => FdO fb la lc most s w
theorem fdP_st {fb : Nat} {la : Option Addr} {lc : Nat} {most : Int} {s : FeM} : Stable (fb :: blk la) (FdP fb la lc most s) := fun a b hs hb h =>
  ⟨(hb fb (List.mem_cons_self ..)).trans h.blk, h.row.block hs (fun bk o s' e => hb bk (List.mem_cons_of_mem _ (by rw [e]; exact List.mem_singleton.mpr rfl))), h.ne⟩
theorem fdO_lt {fb : Nat} {la : Option Addr} {lc : Nat} {most : Int} {s : FeM} {w : World} (h : FdO fb la lc most s w) : ∀ k ∈ fb :: blk la, k < w.heap.size := fun k hk => by
  rcases List.mem_cons.mp hk with rfl | hk
  · exact (Array.getElem?_eq_some_iff.1 h.blk).1
  · exact qr_lt h.row k hk

/-- The parts of the loop over items. -/
def findF : Code → Option Code
  | .seq a b => (findF a).or (findF b)
  | .cond _ a b => (findF a).or (findF b)
  | .block _ c => findF c
  | .loop c => findF c
  | .scope c => findF c
  | .rangeFunc g ps a b => some (.rangeFunc g ps a b)
  | _ => none
def asgOf : Code → Code
  | .rangeFunc _ _ a _ => a
  | _ => .skip
def bdyOf : Code → Code
  | .rangeFunc _ _ _ b => b
  | _ => .skip
def rfOf (f : Func) : Code := (f.body.bind findF).getD .skip

set_option maxRecDepth 100000 in
set_option maxHeartbeats 2000000 in
/-- The item comes into a box of the round. -/
theorem rnd_assign {F : Fence} {n : Nat} {l : Nat} {W : World} {f : FrM} {sa : Option Addr} {sc : Nat} {x : FaM} {bx : Nat} (hF : F = Fence.wide) (K : Act → World → Prop) (a : Act)
    (ha : Fr.Is 47 [(6, .pointer (some ⟨bx, 0, none⟩)), (26, .agg (itC f sa sc x))] a)
    (hK : Hid (∀ a', Fr.Is 47 [(6, .pointer (some ⟨bx, 0, none⟩)), (7, .pointer (some ⟨W.heap.size, 0, none⟩))] a' → K a' (W.alloc (.cells (itC f sa sc x) 42)))) :
    (asgOf (rfOf Tryd.f11)).wpIn (F.inRound l) n Tryd.prog (Exit.then K (fun _ _ _ => False)) a W := by
  subst hF
  obtain ⟨fr, rfl, hfr⟩ := ha.lit
  simp only [List.map_cons, List.map_nil, List.cons.injEq, and_true] at hfr
  conv => arg 4; whnf
  simp only [List.range, List.range.loop, List.map_cons, List.map_nil, hfr]
  clear hfr ha
  unfold itC at hK ⊢
  gi_wp2
  exact hK.out _ (Fr.Is.mk rfl rfl)

set_option maxRecDepth 100000 in
set_option maxHeartbeats 4000000 in
/-- The item is appended to the list. -/
theorem rnd_body {F : Fence} {n : Nat} {l : Nat} {W0 W : World} {x : ItX} {bx ib rc : Nat} {ra : Option Addr} {its : List ItX} {S0 : Th} {rest : List Th} (hF : F = Fence.wide) (Q : Exit → Act → World → Prop) (a : Act)
    (HS : Hid (Sts W0 W (S0 :: (blk ra, RowQ EIt ra rc its) :: ([bx], BlkQ bx (.cells #[.slice ra its.length rc] 29 (0, 0))) :: rest)))
    (hi : W.heap[ib]? = some (.cells (itC x.1.f x.2.1 x.2.2 x.1.x) 42 (0, 0))) (hlen : its.length ≤ 100000000)
    (ha : Fr.Is 47 [(6, .pointer (some ⟨bx, 0, none⟩)), (7, .pointer (some ⟨ib, 0, none⟩))] a)
    (hQ : Hid (∀ a' W' ra' rc', Sts W0 W' (S0 :: (blk ra', RowQ EIt ra' rc' (its ++ [x])) :: ([bx], BlkQ bx (.cells #[.slice ra' (its.length + 1) rc'] 29 (0, 0))) :: rest) → Q .normal a' W')) :
    (bdyOf (rfOf Tryd.f11)).wpIn (F.inRound l) n Tryd.prog Q a W := by
  subst hF
  obtain ⟨fr, rfl, hfr⟩ := ha.lit
  simp only [List.map_cons, List.map_nil, List.cons.injEq, and_true] at hfr
  conv => arg 4; whnf
  simp only [List.range, List.range.loop, List.map_cons, List.map_nil, hfr]
  clear hfr ha
  obtain ⟨i0, hi0, hz0, hz1, hz2⟩ := info_parts info_it
  have HI := Lib.hid hi0
  have HZ0 := Lib.hid hz0
  have HZ1 := Lib.hid hz1
  have HZ2 := Lib.hid hz2
  clear hi0 hz0 hz1 hz2
  have hbx : W.heap[bx]? = some (.cells #[.slice ra its.length rc] 29 (0, 0)) := HS.out.is 2 rfl
  have p3 := cell_at hbx 0
  obtain ⟨c0, c1, c2, c3, c4, c5, c6, c7, c8, c9, c10, c11, c12, c13, c14⟩ := it_cells hi
  have b1 := bel_al W (.cells (itC x.1.f x.2.1 x.2.2 x.1.x) 42)
  have HS1 := Lib.hid (HS.out.below b1)
  have HNew := Lib.hid (it_new W x)
  have HRa : Hid (Rw.QRow EIt (W.alloc (.cells (itC x.1.f x.2.1 x.2.2 x.1.x) 42)) ra rc its) := Lib.hid (HS1.out.is 1 rfl)
  have HL : Hid (its.length + 1 ≤ maxLen ∧ (its.length + 1) * 144 ≤ 140737488355328) := Lib.hid ⟨by unfold maxLen; omega, by omega⟩
  have HEnd : Hid (∀ ad' cap' W4, Rw.QRow EIt W4 ad' cap' (its ++ [x]) → (W.alloc (.cells (itC x.1.f x.2.1 x.2.2 x.1.x) 42)).grownBy W4 (ra.map (·.block)) → (∀ b o s, ad' = some ⟨b, o, s⟩ → (∃ o', ra = some ⟨b, o', none⟩) ∨ (W.alloc (.cells (itC x.1.f x.2.1 x.2.2 x.1.x) 42)).heap.size ≤ b) →
      (W4.cell? ⟨bx, 0, none⟩ = some (.slice ra its.length rc) ∧ W4.frozen? ⟨bx, 0, none⟩ = false) ∧
      Sts W0 (W4.setCell ⟨bx, 0, none⟩ (.slice ad' (its.length + 1) cap')) (S0 :: (blk ad', RowQ EIt ad' cap' (its ++ [x])) :: ([bx], BlkQ bx (.cells #[.slice ad' (its.length + 1) cap'] 29 (0, 0))) :: rest)) := Lib.hid (by
    intro ad' cap' W4 hq hg hn
    have h4 := stsApp HS1.out 1 rfl hg hq hn
    simp only [List.set] at h4
    have hb4 : W4.heap[bx]? = some (.cells #[.slice ra its.length rc] 29 (0, 0)) := h4.is 2 rfl
    refine ⟨⟨cell_at hb4 0, frozen_of_row _ _ _ _ _ hb4⟩, ?_⟩
    have h5 := stsPut h4 2 (o' := .cells #[.slice ad' (its.length + 1) cap'] 29 (0, 0)) rfl ((Kept.refl [bx] W4).setCell (p := ⟨bx, 0, none⟩) (.inl (by simp)) _) (heap_setCell_same W4 bx 0 _ _ (.slice ad' (its.length + 1) cap') hb4)
    simpa only [List.set] using h5)
  clear HS HS1 b1 hbx hi
  unfold itC at HNew HRa HEnd
  obtain ⟨⟨f, xx⟩, sa, sc⟩ := x
  simp only at *
  generalize hn : its.length = n at *
  have HN := Lib.hid hn
  clear hn hlen
  gi_wp2_with (gi_at_builtin; refine wlIn_que EIt rfl (.tmp 27) (.tmp 29) rfl Tryd.underlying29 HI.out HZ0.out HZ1.out HZ2.out rfl ra n rc its rfl HN.out.symm HRa.out ⟨W.heap.size, 0, none⟩ 1 [(⟨f, xx⟩, sa, sc)] 1 rfl rfl HNew.out HL.out.1 HL.out.2 ?_; intro ad4 cap4 W4 hq4 hg4 hb4; obtain ⟨⟨c4, f4⟩, hE4⟩ := HEnd.out _ _ _ hq4.out hg4.out hb4.out)
  exact hQ.out _ _ _ _ hE4
end Go.Proofs.YtglhdlkmgmbgeaaDoor

namespace Go.Proofs.YtglhdlkmgmbgeaaDoor
open Go.RowKit Go.Shelf
open Cho Fra Oct Arg Mem Gen Wr Qu Pt Sx Go.Proofs.YtglhdlkmgmbgeaaDoor.Obj
set_option linter.unusedVariables false
set_option linter.unusedSimpArgs false
attribute [local go_sem] Oper.semAt_some

def psOf : Code → Array Tmp
  | .rangeFunc _ ps _ _ => ps
  | _ => #[]
/-- The loop's record. -/
def lpRec (c : Code) (fn : FuncId) (tm : Array Value) (D : Nat) (st : LoopState) : Loop :=
  { state := st, pending := none, fn := fn, tmps := tm, params := psOf c, assign := asgOf c, body := bdyOf c, defers := D }
theorem kept_put (w : World) (l : Nat) (o : Obj) : Kept [l] w (w.putObj l o) :=
  ⟨rfl, rfl, rfl, by simp, fun k _ hn => World.putObj_heap_other (by simpa using hn)⟩
theorem ps_tk : psOf (rfOf Tryd.f11) = #[26] := by kernel_rfl
theorem is_set {n : Nat} {tm : Array Value} {i j : Nat} {u v : Value} (h : Fr.Is n [(i, u)] ⟨tm, []⟩) (hj : j < n) (hij : i ≠ j) : Fr.Is n [(i, u), (j, v)] ⟨tm.setIfInBounds j v, []⟩ := by
  obtain ⟨_, hs, hk⟩ := h
  simp only at hs
  refine ⟨rfl, by simpa using hs, fun p hp => ?_⟩
  simp only [List.mem_cons, List.not_mem_nil, or_false] at hp
  rcases hp with rfl | rfl
  · have := hk (i, u) (List.mem_singleton.mpr rfl)
    simp only [Array.getD_eq_getD_getElem?] at this ⊢
    rw [Array.getElem?_setIfInBounds_ne (by omega)]
    exact this
  · simp only [Array.getD_eq_getD_getElem?]
    rw [Array.getElem?_setIfInBounds_self_of_lt (by omega)]
    rfl

/-- One round. -/
theorem rnd_yield {n l bx rc fn D : Nat} {W0 W : World} {x : ItX} {ra : Option Addr} {its : List ItX} {S0 : Th} {rest : List Th} {tm : Array Value}
    (HS : Sts W0 W (S0 :: (blk ra, RowQ EIt ra rc its) :: ([bx], BlkQ bx (.cells #[.slice ra its.length rc] 29 (0, 0))) :: ([l], BlkQ l (.loop (lpRec (rfOf Tryd.f11) fn tm D .ready))) :: rest))
    (hlen : its.length ≤ 100000000) (htm : Fr.Is 47 [(6, .pointer (some ⟨bx, 0, none⟩))] ⟨tm, []⟩) :
    YieldAt Fence.wide n Tryd.prog l #[.agg (itC x.1.f x.2.1 x.2.2 x.1.x)] W fun e W' => e = .returned (.bool true) ∧
      ∃ ra' rc', Sts W0 W' (S0 :: (blk ra', RowQ EIt ra' rc' (its ++ [x])) :: ([bx], BlkQ bx (.cells #[.slice ra' (its.length + 1) rc'] 29 (0, 0))) :: ([l], BlkQ l (.loop (lpRec (rfOf Tryd.f11) fn tm D .ready))) :: rest) := by
  have hl : W.heap[l]? = some (.loop (lpRec (rfOf Tryd.f11) fn tm D .ready)) := HS.is 3 rfl
  have hy := run_yield (P := Tryd.prog) (args := #[.agg (itC x.1.f x.2.1 x.2.2 x.1.x)]) hl (by simp only [lpRec, ps_tk]; rfl)
  refine ⟨fn, _, _, _, hy, roundIn_of_wpIn trivial (rnd_assign (bx := bx) (f := x.1.f) (sa := x.2.1) (sc := x.2.2) (x := x.1.x) rfl _ _ ?_ (Lib.hid fun a' g => ?_))⟩
  · simp only [lpRec, ps_tk]
    have hz : Array.foldl (fun tmps x => tmps.setIfInBounds x.fst x.snd) tm ((#[26] : Array Tmp).zip #[Value.agg (itC x.1.f x.2.1 x.2.2 x.1.x)]) = tm.setIfInBounds 26 (.agg (itC x.1.f x.2.1 x.2.2 x.1.x)) := by simp
    rw [hz]
    exact is_set (j := 26) (v := .agg (itC x.1.f x.2.1 x.2.2 x.1.x)) htm (by decide) (by decide)
  · have b1 := bel_al W (.cells (itC x.1.f x.2.1 x.2.2 x.1.x) 42)
    have hi1 := heap_alloc_new W (.cells (itC x.1.f x.2.1 x.2.2 x.1.x) 42)
    have S1 := HS.below b1
    have hne : W.heap.size ≠ l := fun e => by have := (Array.getElem?_eq_some_iff.1 hl).1; omega
    generalize W.alloc (.cells (itC x.1.f x.2.1 x.2.2 x.1.x) 42) = W1 at b1 hi1 S1 ⊢
    have hl1 : W1.heap[l]? = some (.loop (lpRec (rfOf Tryd.f11) fn tm D .ready)) := S1.is 3 rfl
    refine ⟨_, run_beginRound hl1 rfl, ?_⟩
    have k2 := kept_put W1 l (.loop { lpRec (rfOf Tryd.f11) fn tm D .ready with state := .busy })
    have hl2 : (W1.putObj l (.loop { lpRec (rfOf Tryd.f11) fn tm D .ready with state := .busy })).heap[l]? = some (.loop (lpRec (rfOf Tryd.f11) fn tm D .busy)) := World.putObj_heap_same (Array.getElem?_eq_some_iff.1 hl1).1
    have S2 := stsPut S1 3 (o' := .loop (lpRec (rfOf Tryd.f11) fn tm D .busy)) rfl k2 hl2
    have hi2 := k2.at hi1 (by simpa using hne)
    simp only [List.set] at S2
    generalize W1.putObj l (.loop { lpRec (rfOf Tryd.f11) fn tm D .ready with state := .busy }) = W2 at S2 hi2 ⊢
    refine rnd_body (x := x) (ib := W.heap.size) rfl _ _ (Lib.hid S2) hi2 hlen g (Lib.hid fun a3 W3 ra' rc' S3 => ?_)
    have hl3 : W3.heap[l]? = some (.loop (lpRec (rfOf Tryd.f11) fn tm D .busy)) := S3.is 3 rfl
    refine ⟨_, _, run_endRound none hl3, rfl, ra', rc', ?_⟩
    have h4 : (W3.putObj l (.loop (lpRec (rfOf Tryd.f11) fn tm D .ready))).heap[l]? = some (.loop (lpRec (rfOf Tryd.f11) fn tm D .ready)) := World.putObj_heap_same (Array.getElem?_eq_some_iff.1 hl3).1
    have S4 := stsPut S3 3 rfl (kept_put W3 l (.loop (lpRec (rfOf Tryd.f11) fn tm D .ready))) h4
    simp only [List.set] at S4
    exact S4
end Go.Proofs.YtglhdlkmgmbgeaaDoor

namespace Go.Proofs.YtglhdlkmgmbgeaaDoor
open Go.RowKit Go.Shelf
open Cho Fra Oct Arg Mem Gen Wr Qu Pt Sx Go.Proofs.YtglhdlkmgmbgeaaDoor.Obj
set_option linter.unusedVariables false
set_option linter.unusedSimpArgs false
attribute [local go_sem] Oper.semAt_some

/-- How much a feed has yet to look at. -/
def fdLeft (fb : Nat) (w : World) : Nat := match w.cell? ⟨fb, 2, none⟩, w.cell? ⟨fb, 3, none⟩ with
  | some (.slice _ n _), some (.bool o) => 2 * n + (if o = true then 0 else 1)
  | _, _ => 0
theorem fdLeft_eq {fb : Nat} {la : Option Addr} {lc : Nat} {most : Int} {s : FeM} {w : World} (h : FdO fb la lc most s w) : fdLeft fb w = 2 * s.rest.length + (if s.over = true then 0 else 1) := by
  rw [fdLeft, h.cells.2.2.1, h.cells.2.2.2]
/-- What there is in Take's loop. -/
def tkObs (bx l D i fb fn : Nat) (tm : Array Value) (most : Int) (obs : List Th) (its : List ItX) (ra : Option Addr) (rc : Nat) (ns : List ItX) (la : Option Addr) (lc : Nat) (s : FeM) : List Th :=
  (sBs ns, SetsP ns) :: (blk ra, RowQ EIt ra rc its) :: ([bx], BlkQ bx (.cells #[.slice ra its.length rc] 29 (0, 0))) :: ([l], BlkQ l (.loop (lpRec (rfOf Tryd.f11) fn tm D .ready))) :: ([D], BlkQ D (.deferred (some []))) :: obs.set i (fb :: blk la, FdP fb la lc most s)
variable {bx l D i fb fn : Nat} {tm : Array Value} {most : Int} {obs : List Th} {its ns : List ItX} {ra la : Option Addr} {rc lc : Nat} {s : FeM} {W0 w : World}
theorem tk_feed (hS : Sts W0 w (tkObs bx l D i fb fn tm most obs its ra rc ns la lc s)) (hi : i < obs.length) : FdO fb la lc most s w :=
  hS.is (i + 5) (F := fb :: blk la) (P := FdP fb la lc most s) (by simp [tkObs, hi])
/-- The next item, among all there is. -/
theorem tk_next (hS : Sts W0 w (tkObs bx l D i fb fn tm most obs its ra rc its la lc s)) (hi : i < obs.length) (hs : SpIs W0) (hov : s.over = false) :
    Calls Tryd.prog 28 #[.pointer (some ⟨fb, 0, none⟩)] w fun e w' => ∃ sa sc la' lc', e = .returned (.tuple #[.agg (itC (nextF most s).1.f sa sc (nextF most s).1.x), .bool (nextF most s).2.1]) ∧
      Sts W0 w' (tkObs bx l D i fb fn tm most obs its ra rc (its ++ [((nextF most s).1, sa, sc)]) la' lc' (nextF most s).2.2) := by
  have hF := tk_feed hS hi
  have hlo := (hS.all (i + 5) (fb :: blk la, FdP fb la lc most s) (by simp [tkObs, hi])).lo
  have hfb := (hlo fb (List.mem_cons_self ..)).1
  refine (pnext_any hov w hF (fun v hv => hs.below (Kept.below hS.bel hv (by simpa using hfb) hS.le))).mono ?_
  rintro e w' ⟨sa, sc, la', lc', rfl, h1, h2, h3, h4, h5⟩
  refine ⟨sa, sc, la', lc', rfl, ?_⟩
  have hla : ∀ k ∈ blk la', k ∈ blk la := fun k hk => by
    obtain ⟨o, s', e⟩ := mem_blk hk
    obtain ⟨o2, s2, e2⟩ := h5 k o s' e
    rw [e2]; exact List.mem_singleton.mpr rfl
  have hnk : ∀ k ∈ sB ((nextF most s).1, sa, sc), w.heap.size ≤ k ∧ k < w'.heap.size := fun k hk => by
    simp only [sB] at hk
    split at hk
    · cases hk
    · rename_i hne
      obtain ⟨o, s', e⟩ := mem_blk hk
      exact ⟨h4 k o s' e, sa_lt h3 hne e⟩
  have T := hS.turnAdd (i := i + 5) (F := fb :: blk la) (P := FdP fb la lc most s) (F' := fb :: blk la') (P' := FdP fb la' lc' most (nextF most s).2.2) (G := sB ((nextF most s).1, sa, sc)) (Q := fun v => FrOk (nextF most s).1.f sa sc v)
    (by simp [tkObs, hi]) (h2.wide (fun k hk => .inl (by simp at hk; subst hk; exact List.mem_cons_self ..))) (fun k hk => by
      rcases List.mem_cons.mp hk with rfl | hk
      · exact .inl (List.mem_cons_self ..)
      · exact .inl (List.mem_cons_of_mem _ (hla k hk))) (fdO_lt h1) fdP_st h1
    (fun k hk => ⟨.inr (hnk k hk).1, fun hm => by
      have h0 := (hnk k hk).1
      have : k ∈ fb :: blk la := by
        rcases List.mem_cons.mp hm with rfl | hm
        · exact List.mem_cons_self ..
        · exact List.mem_cons_of_mem _ (hla k hm)
      have := (hlo k this).2
      omega, (hnk k hk).2⟩) (ok_stab (x := ((nextF most s).1, sa, sc))) h3
  have J := stsJoin T 0 (F := sBs its) (P := SetsP its) (by simp [tkObs])
  simp only [tkObs, List.set, List.set_set] at J ⊢
  rw [sBs_app, setsP_app]
  exact J

set_option maxRecDepth 100000 in
set_option maxHeartbeats 4000000 in
/-- All that is whole is told. -/
theorem pitems_in (n : Nat) (T : List ItM × FeM) (N : Nat) (hN : N ≤ 99999999) (hi : i < obs.length) (hs : SpIs W0) (htm : Fr.Is 47 [(6, .pointer (some ⟨bx, 0, none⟩))] ⟨tm, []⟩)
    (hS : Sts W0 w (tkObs bx l D i fb fn tm most obs [] ra rc [] la lc s)) (h0 : runS most s = T) (hb : s.rest.length ≤ N) :
    CallsIn Fence.wide n Tryd.prog 19 #[.pointer (some ⟨fb, 0, none⟩), .func (.yield l) #[] #[]] w fun e w' => (∃ v, e = .returned v) ∧
      ∃ its ra' rc' la' lc' s', its.map (·.1) = T.1 ∧ FeQ T.2 s' ∧ s'.rest.length ≤ N ∧ its.length ≤ N + 1 ∧ Sts W0 w' (tkObs bx l D i fb fn tm most obs its ra' rc' its la' lc' s') := by
  refine callsIn_of_wp Tryd.func19 rfl trivial ?_ rfl
  simp only [Tryd.ntmps19, List.size_toArray, List.length_cons, List.length_nil, Nat.reduceAdd, Nat.reduceSub, Array.replicate_succ, Array.replicate_zero, List.push_toArray, List.append_toArray, List.nil_append, List.cons_append]
  have HS := Lib.hid hS
  have HN := Lib.hid hN
  have Hi := Lib.hid hi
  have HT := Lib.hid htm
  have H0 := Lib.hid h0
  have HB := Lib.hid hb
  have HSp := Lib.hid hs
  clear hS hN hi htm h0 hb hs
  gi_wp2
  gi_loopw [] (fun wr => ∃ (its : List ItX) (ra : Option Addr) (rc : Nat) (la : Option Addr) (lc : Nat) (s : FeM), Hid (Sts W0 wr (tkObs bx l D i fb fn tm most obs its ra rc its la lc s)) ∧ Hid (T.1 = its.map (·.1) ++ (runS most s).1 ∧ FeQ T.2 (runS most s).2 ∧ its.length + s.rest.length + (if s.over = true then 0 else 1) ≤ N + 1 ∧ s.rest.length ≤ N)) (fun wr => fdLeft fb wr)
  case atStart => exact ⟨[], ra, rc, la, lc, s, HS, Lib.hid ⟨by rw [H0.out]; rfl, by rw [H0.out]; exact FeQ.refl _, by have := HB.out; simp only [List.length_nil]; split <;> omega, HB.out⟩⟩
  case round =>
    clear HS H0 HB
    obtain ⟨its, ra, rc, la, lc, s, HS, HR⟩ := hrel
    have hF := tk_feed HS.out Hi.out
    have c3 := hF.cells.2.2.2
    have HM := Lib.hid (fdLeft_eq hF)
    clear hF
    cases hov : s.over with
    | true =>
      rw [hov] at c3
      have hE : ∃ its' ra' rc' la' lc' s', its'.map (·.1) = T.1 ∧ FeQ T.2 s' ∧ s'.rest.length ≤ N ∧ its'.length ≤ N + 1 ∧ Sts W0 wr (tkObs bx l D i fb fn tm most obs its' ra' rc' its' la' lc' s') := by
        have hr := run_over most s hov
        refine ⟨its, ra, rc, la, lc, s, by rw [HR.out.1, hr]; simp, by rw [← show (runS most s).2 = s by rw [hr]]; exact HR.out.2.1, HR.out.2.2.2, by have := HR.out.2.2.1; omega, HS.out⟩
      have HE := Lib.hid hE
      clear hE HR HS hov
      gi_wp2
      go_end0
      exact ⟨⟨_, rfl⟩, HE.out⟩
    | false =>
      rw [hov] at c3
      have HNx := Lib.hid ((callsIn_wide (n := n - 1)).2 (tk_next HS.out Hi.out HSp.out hov))
      cases hw : (nextF most s).2.1 with
      | false =>
        have hnn := next_none most s hov hw
        have HE : Hid (∀ w2 sa sc la' lc', Sts W0 w2 (tkObs bx l D i fb fn tm most obs its ra rc (its ++ [((nextF most s).1, sa, sc)]) la' lc' (nextF most s).2.2) → ∃ its' ra' rc' la' lc' s', its'.map (·.1) = T.1 ∧ FeQ T.2 s' ∧ s'.rest.length ≤ N ∧ its'.length ≤ N + 1 ∧ Sts W0 w2 (tkObs bx l D i fb fn tm most obs its' ra' rc' its' la' lc' s')) := Lib.hid (fun w2 sa sc la' lc' h2 => by
          have hr : (nextF most s).2.2.rest.length ≤ s.rest.length := next_rest most s hov
          refine ⟨its, ra, rc, la', lc', (nextF most s).2.2, by rw [HR.out.1, hnn.1]; simp, HR.out.2.1.trans hnn.2, by have := HR.out.2.2.2; omega, by have := HR.out.2.2.1; omega, ?_⟩
          have h3 := stsLess h2 0 (F' := sBs its) (Q := SetsP its) rfl (fun k hk => by rw [sBs_app]; exact List.mem_append_left _ hk) (fun x hx => (show SetsP _ _ from h2.is 0 rfl) x (List.mem_append_left _ hx)) sets_stab
          simpa only [tkObs, List.set] using h3)
        generalize nextF most s = R at HNx HE hw
        obtain ⟨⟨f, xx⟩, b, s'⟩ := R
        simp only at hw
        subst hw
        unfold itC at HNx
        simp only at HNx HE
        clear HR HS hnn hov HM
        gi_wp2_with (refine ⟨trivial, (fun h => by cases h), ?_⟩; gi_at_call 28; refine HNx.out.mono ?_; rintro e w2 ⟨sa, sc, la', lc', rfl, h2⟩; have HE2 := Lib.hid (HE.out _ sa sc la' lc' (h2.below (bel_al w2 (.cells (itC f sa sc xx) 42)))); clear h2)
        refine ⟨fun _ h => (by cases h), ?_⟩
        gi_wp2
        refine bodyPost_ret (results_none rfl _ _ _) rfl ?_
        exact ⟨⟨_, rfl⟩, HE2.out⟩
      | true =>
        have hnw := next_whole most s hov hw
        have hlen : its.length ≤ 100000000 := by have := HR.out.2.2.1; have := HN.out; omega
        have HY : Hid (∀ w2 sa sc la' lc', Sts W0 w2 (tkObs bx l D i fb fn tm most obs its ra rc (its ++ [((nextF most s).1, sa, sc)]) la' lc' (nextF most s).2.2) →
            YieldAt Fence.wide (n - 1) Tryd.prog l #[.agg (itC (nextF most s).1.f sa sc (nextF most s).1.x)] (w2.alloc (.cells (itC (nextF most s).1.f sa sc (nextF most s).1.x) 42)) fun e W' => e = .returned (.bool true) ∧
              ∃ its' ra' rc' la' lc' s', Hid (Sts W0 W' (tkObs bx l D i fb fn tm most obs its' ra' rc' its' la' lc' s')) ∧ Hid (T.1 = its'.map (·.1) ++ (runS most s').1 ∧ FeQ T.2 (runS most s').2 ∧ its'.length + s'.rest.length + (if s'.over = true then 0 else 1) ≤ N + 1 ∧ s'.rest.length ≤ N) ∧ fdLeft fb W' < fdLeft fb wr) := Lib.hid (fun w2 sa sc la' lc' h2 => by
          refine (rnd_yield (x := ((nextF most s).1, sa, sc)) (h2.below (bel_al w2 _)) hlen HT.out).mono ?_
          rintro e W' ⟨rfl, ra', rc', h3⟩
          have h4 : Sts W0 W' (tkObs bx l D i fb fn tm most obs (its ++ [((nextF most s).1, sa, sc)]) ra' rc' (its ++ [((nextF most s).1, sa, sc)]) la' lc' (nextF most s).2.2) := by
            simp only [tkObs, List.length_append, List.length_cons, List.length_nil] at h3 ⊢
            exact h3
          have hlt : (nextF most s).2.2.rest.length + (if (nextF most s).2.2.over = true then 0 else 1) ≤ s.rest.length ∧ (nextF most s).2.2.rest.length ≤ s.rest.length := by
            refine ⟨?_, next_rest most s hov⟩
            rcases hnw.2.2 with h | h
            · rw [h, if_pos rfl, nextF_over most s h hov]; simp
            · split <;> omega
          refine ⟨rfl, _, ra', rc', la', lc', _, Lib.hid h4, Lib.hid ⟨?_, HR.out.2.1.trans hnw.2.1, ?_, by have := HR.out.2.2.2; omega⟩, ?_⟩
          · rw [HR.out.1, hnw.1]; simp
          · have := HR.out.2.2.1
            rw [hov, if_neg (by decide)] at this
            simp only [List.length_append, List.length_cons, List.length_nil]
            omega
          · have e0 : (if s.over = true then 0 else 1) = 1 := by rw [hov]; rfl
            rw [fdLeft_eq (tk_feed h4 Hi.out), HM.out, e0]
            have := hlt.1
            split at this
            · rename_i ho; rw [if_pos ho]; omega
            · rename_i ho; rw [if_neg ho]; omega)
        generalize nextF most s = R at HNx HY hw
        obtain ⟨⟨f, xx⟩, b, s'⟩ := R
        simp only at hw
        subst hw
        unfold itC at HNx HY
        simp only at HNx HY
        clear HR HS hnw hov hlen HM
        gi_wp2_with (refine ⟨trivial, (fun h => by cases h), ?_⟩; gi_at_call 28; refine HNx.out.mono ?_; rintro e w2 ⟨sa, sc, la', lc', rfl, h2⟩; have hYY := HY.out w2 sa sc la' lc' h2; clear h2; obtain ⟨fn2, tmps2, assign2, body2, hy, hR2⟩ := hYY)
        refine ⟨(fun h => by cases h), ?_⟩
        refine hR2.mono ?_
        rintro e W3 ⟨rfl, its', ra', rc', la', lc', s2, hS3, hR3, hlt⟩
        have HLt := Lib.hid hlt
        clear hlt hy
        gi_wp2
        go_roundw
        case rel => exact ⟨its', ra', rc', la', lc', s2, hS3, hR3⟩
        case measure => exact HLt.out
end Go.Proofs.YtglhdlkmgmbgeaaDoor
