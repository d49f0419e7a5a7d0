/- Layer 6: the program's Take. A row of bytes that grows by a text, and by zeros ('append(out, make([]byte, k)...)'). A row of bytes that grows by a row of bytes that may be empty; rows that were made, as rows that grow. Layer 7, the program's feed: what lies in memory; its small functions. A whole struct stored into a block of its own, its cells not told one by one. What is left of a row behind its first elements; an append to a row within a round of a range over a function. Layer 7, the program: the next item behind the preface, region by region. Layer 7, the program: the frame at the beginning of what is left is taken, into boxes. -/
import Derived.Test.YtglhdlkmgmbgeaaDoorGP07
import Derived.Test.YtglhdlkmgmbgeaaDoorGP05
import Derived.Deep.AppendSrc
import Derived.Lib.AppendZerosOnto
import Derived.Test.YtglhdlkmgmbgeaaDoorGP02
import Derived.WalkKit
import Derived.Lib.Hide
import Derived.Deep.MidRow
import Derived.Deep.RegionLaw
import Derived.Test.YtglhdlkmgmbgeaaDoorGP03
import Derived.RangeFuncNested
import Derived.RangeFuncBound
import Derived.RangeFuncCalls
import Derived.RangeFuncLeaves
import Derived.RangeFuncBox
import Derived.OwnWalkIn
import Derived.TacticsInMore
import Derived.Test.YtglhdlkmgmbgeaaDoorGP04
import Derived.Deep.RegionHeld
set_option linter.unusedVariables false
set_option linter.unusedSimpArgs false
namespace Go.Proofs.YtglhdlkmgmbgeaaDoor
open Go.RowKit
open Fra Oct Arg Mem Gen Qu Go.Proofs.YtglhdlkmgmbgeaaDoor.Obj
set_option linter.unusedVariables false
set_option linter.unusedSimpArgs false

theorem take_ret {R : Ending → World → Prop} {rv rx : Nat} {z : Int} {a : Act} {w' : World} {f : FrM} {sa : Option Addr} {sc : Nat} {x : FaM}
    (ha : Fr.Is 53 [(4, .pointer (some ⟨rv, 0, none⟩)), (5, .int .i64 z), (6, .pointer (some ⟨rx, 0, none⟩))] a)
    (V : Fb rv f sa sc w') (X : w'.heap[rx]? = some (Obj.cells #[.bool x.is, .int .i64 x.code, .int .i64 x.stream] 37 (0, 0)))
    (hR : R (.returned (.tuple #[frV f sa sc, .int .i64 z, faV x])) w') : bodyPost Tryd.prog Tryd.f34 R .ret a w' := by
  obtain ⟨fr, rfl, hfr⟩ := ha.lit
  simp only [List.map_cons, List.map_nil, List.cons.injEq, and_true] at hfr
  obtain ⟨h4, h5, h6⟩ := hfr
  obtain ⟨c0, c1, c2, c3, c4, c5, c6, c7, c8, c9, c10, c11⟩ := fr_cells V
  obtain ⟨d0, d1, d2⟩ := fa_cells X
  clear V X
  refine bodyPost_ret (v := .tuple #[frV f sa sc, .int .i64 z, faV x]) ?_ rfl hR
  simp [results, Tryd.results34, go_sem, frV, frC, faV, h4, h5, h6, c0, c1, c2, c3, c4, c5, c6, c7, c8, c9, c10, c11, d0, d1, d2]

theorem fill_no (t fl st : Int) (p : List UInt8) (h : (fillX t fl st p).is = false) : fillX t fl st p = noFa := by
  unfold fillX at h ⊢
  split at h
  · cases h
  · rename_i h1
    rw [if_neg h1]
    split at h
    · split at h <;> cases h
    · rename_i h2
      rw [if_neg h2]
      split at h
      · cases h
      · rename_i h3
        rw [if_neg h3]
        unfold valF at h ⊢
        split at h
        · cases h
        · rename_i h4
          rw [if_neg h4]
          split at h
          · cases h
          · rename_i h5
            rw [if_neg h5]
theorem frok_no (w : World) : FrOk noFr none 0 w := ⟨.inl rfl, Nat.le_refl _, by unfold maxLen; omega⟩

set_option maxRecDepth 100000 in
set_option maxHeartbeats 4000000 in
theorem ptake_new (l : List UInt8) (ad : Option Addr) (cap : Nat) (most : Int) (w : World) (hr : RB w ad l) (hc : l.length ≤ cap) (hm : cap ≤ maxLen) (hs : SpIs w) :
    Calls Tryd.prog 34 #[.slice ad l.length cap, .int .i64 most] w fun e w' => ∃ sa sc, e = .returned (.tuple #[frV (takeF l most).1 sa sc, .int .i64 (takeF l most).2.1, faV (takeF l most).2.2]) ∧ FrOk (takeF l most).1 sa sc w' ∧ Below w.heap.size w w' ∧ ∀ b o s, sa = some ⟨b, o, s⟩ → w.heap.size ≤ b := by
  go_enter Tryd.func34, Tryd.ntmps34
  refine wp_seq ?_
  refine take_r0 (n := l.length) (cap := cap) (ad := ad) (most := most) _ w (Fr.Is.mk rfl rfl) (Lib.hid (fun a1 g1 => ?_))
  have V1 : Fb w.heap.size noFr none 0 ((w.alloc (.cells #[.int .i64 0, .int .i64 0, .int .i64 0, .string ⟨#[]⟩, .int .i64 0, .slice none 0 0, .int .i64 0, .int .i64 0, .int .i64 0, .int .i64 0, .int .i64 0, .bool false] 40)).alloc (.cells #[.bool false, .int .i64 0, .int .i64 0] 37)) := alloc_at (heap_alloc_new w _)
  have X1 := alloc_two w (.cells #[.int .i64 0, .int .i64 0, .int .i64 0, .string ⟨#[]⟩, .int .i64 0, .slice none 0 0, .int .i64 0, .int .i64 0, .int .i64 0, .int .i64 0, .int .i64 0, .bool false] 40) (.cells #[.bool false, .int .i64 0, .int .i64 0] 37)
  have B1 : Below w.heap.size w ((w.alloc (.cells #[.int .i64 0, .int .i64 0, .int .i64 0, .string ⟨#[]⟩, .int .i64 0, .slice none 0 0, .int .i64 0, .int .i64 0, .int .i64 0, .int .i64 0, .int .i64 0, .bool false] 40)).alloc (.cells #[.bool false, .int .i64 0, .int .i64 0] 37)) := below_step (bel_al _ _) (bel_al _ _)
  generalize (w.alloc (.cells #[.int .i64 0, .int .i64 0, .int .i64 0, .string ⟨#[]⟩, .int .i64 0, .slice none 0 0, .int .i64 0, .int .i64 0, .int .i64 0, .int .i64 0, .int .i64 0, .bool false] 40)).alloc (.cells #[.bool false, .int .i64 0, .int .i64 0] 37) = w1 at V1 X1 B1 ⊢
  have hx : w.heap.size ≤ w.heap.size + 1 := by omega
  have hne : w.heap.size + 1 ≠ w.heap.size := by omega
  refine wp_seq (wp_seq ?_)
  refine take_r1 a1 w1 g1 (Lib.hid (fun a2 g2 => ?_))
  by_cases h9 : l.length < 9
  · have hT : takeF l most = (noFr, 0, noFa) := by rw [takeF, if_pos h9]
    rw [hT]
    refine wp_cond_true (g2.get (i := 12) (v := .bool true) (by simp; omega)) ?_
    refine wp_seq ?_
    refine take_r2 (w0 := w) (B := w.heap.size) (n := l.length) (cap := cap) (ad := ad) (most := most) a2 w1 B1 (Nat.le_refl _) hx V1 X1 hne (g2.less (by simp)) (Lib.hid (fun a3 w' g3 F3 X3 B3 o3 => ?_))
    refine wp_ret ?_
    try dsimp only [Exit.then]
    refine take_ret g3 F3 X3 ?_
    exact ⟨none, 0, rfl, frok_no _, B3, fun b o s e => by cases e⟩
  · refine wp_cond_false (g2.get (i := 12) (v := .bool false) (by simp; omega)) ?_
    refine wp_skip ?_
    have hN := beI_small ((l.drop 0).take 3) (by simp; omega)
    change 0 ≤ at' l 0 3 ∧ at' l 0 3 < 16777216 at hN
    have hlen : ((lenN l : Nat) : Int) = at' l 0 3 := by rw [lenN]; omega
    refine wp_seq ?_
    refine take_r3 (rv := w.heap.size) (rx := w.heap.size + 1) (n := l.length) (cap := cap) (ad := ad) (most := most) (f := hdrF (at' (l.drop 3) 0 1) (at' (l.drop 4) 0 1) (at' (l.drop 5) 0 4 % 2147483648)) (N := at' l 0 3) a2 w1 (Lib.hid (phd_any (W := w) l ad cap w1 B1 hr hc hm (by omega))) (g2.less (by simp)) (Lib.hid (fun a3 w2 g3 b2 => ?_))
    have F3 : Fb w2.heap.size (hdrF (at' (l.drop 3) 0 1) (at' (l.drop 4) 0 1) (at' (l.drop 5) 0 4 % 2147483648)) none 0 (w2.alloc (.cells (frC (hdrF (at' (l.drop 3) 0 1) (at' (l.drop 4) 0 1) (at' (l.drop 5) 0 4 % 2147483648)) none 0) 40)) := heap_alloc_new w2 _
    have B23 := bel_al w2 (.cells (frC (hdrF (at' (l.drop 3) 0 1) (at' (l.drop 4) 0 1) (at' (l.drop 5) 0 4 % 2147483648)) none 0) 40)
    generalize w2.alloc (.cells (frC (hdrF (at' (l.drop 3) 0 1) (at' (l.drop 4) 0 1) (at' (l.drop 5) 0 4 % 2147483648)) none 0) 40) = w3 at F3 B23 ⊢
    have B3 : Below w.heap.size w w3 := below_step (below_step B1 b2) B23
    have B13 : Below w1.heap.size w1 w3 := below_step b2 B23
    have V3 : Fb w.heap.size noFr none 0 w3 := block_below B13 V1
    have X3 := block_below B13 X1
    have hsz : w.heap.size + 1 < w2.heap.size := (Array.getElem?_eq_some_iff.1 (block_below b2 X1)).1
    generalize w2.heap.size = fb at F3 g3 hsz
    refine wp_seq (wp_seq ?_)
    refine take_r4 a3 w3 g3 (Lib.hid (fun a4 g4 => ?_))
    by_cases hmo : most < at' l 0 3
    · have hT : takeF l most = (noFr, 0, ofC 6) := by rw [takeF, if_neg h9, if_pos (by omega)]
      rw [hT]
      refine wp_cond_true (g4.get (i := 22) (v := .bool true) (by simp; omega)) ?_
      refine wp_seq ?_
      refine take_r5 (n := l.length) (cap := cap) (ad := ad) (most := most) a4 w3 V3 X3 hne (g4.less (by simp)) (Lib.hid (fun a5 w' g5 F5 X5 B5 o5 => ?_))
      refine wp_ret ?_
      try dsimp only [Exit.then]
      refine take_ret (x := ofC 6) g5 F5 X5 ?_
      exact ⟨none, 0, rfl, frok_no _, ⟨B5.os.trans B3.os, B5.tape.trans B3.tape, B5.output.trans B3.output, Nat.le_trans B3.size B5.size, fun k hk => (o5 k (by omega) (by omega) (Nat.lt_of_lt_of_le hk B3.size)).trans (B3.block k hk)⟩, fun b o s e => by cases e⟩
    · refine wp_cond_false (g4.get (i := 22) (v := .bool false) (by simp; omega)) ?_
      refine wp_skip ?_
      refine wp_seq ?_
      refine take_r6 (n := l.length) (cap := cap) (ad := ad) (most := most) (rv := w.heap.size) (rx := w.heap.size + 1) (fb := fb) a4 w3 hN.1 (by omega) (g4.less (by simp)) (Lib.hid (fun a5 g5 => ?_))
      refine wp_seq (wp_seq ?_)
      refine take_r7 a5 w3 g5 (Lib.hid (fun a6 g6 => ?_))
      by_cases hsh : l.length < 9 + lenN l
      · have hT : takeF l most = (noFr, 0, noFa) := by rw [takeF, if_neg h9, if_neg (by omega), if_pos hsh]
        rw [hT]
        refine wp_cond_true (g6.get (i := 30) (v := .bool true) (by simp; omega)) ?_
        refine wp_seq ?_
        refine take_r8 (w0 := w) (B := w.heap.size) (n := l.length) (cap := cap) (ad := ad) (most := most) a6 w3 B3 (Nat.le_refl _) hx V3 X3 hne (g6.less (by simp)) (Lib.hid (fun a7 w' g7 F7 X7 B7 o7 => ?_))
        refine wp_ret ?_
        try dsimp only [Exit.then]
        refine take_ret g7 F7 X7 ?_
        exact ⟨none, 0, rfl, frok_no _, B7, fun b o s e => by cases e⟩
      · refine wp_cond_false (g6.get (i := 30) (v := .bool false) (by simp; omega)) ?_
        refine wp_skip ?_
        have hbe := body_eq l (lenN l) (by omega) (by omega)
        have hT : takeF l most = bodyF l (lenN l) := by rw [takeF, if_neg h9, if_neg (by omega), if_neg hsh]
        rw [hT, hbe]
        rw [← hlen] at g6
        have hpl : ((l.drop 9).take (lenN l)).length = lenN l := by rw [List.length_take, List.length_drop]; omega
        have ht := at_one (l.drop 3) (by simp; omega)
        have hfl := at_one (l.drop 4) (by simp; omega)
        have hfill := pfill_any (W := w) (fb := fb) (at' (l.drop 3) 0 1) (at' (l.drop 4) 0 1) (at' (l.drop 5) 0 4 % 2147483648) ((l.drop 9).take (lenN l)) (Sl.adOf ad cap 9 1) (cap - 9) w3 F3 B3 (by omega) (rb_take (Sl.rb_from hr 9 hc) _) (by omega) (by omega) hs ht.1 hfl.1 hfl.2 (by omega)
        rw [hpl] at hfill
        change Calls Tryd.prog 38 #[.pointer (some ⟨fb, 0, none⟩), .slice (Sl.adOf ad cap 9 1) (lenN l) (cap - 9)] w3 (fun e w' => ∃ sa sc, e = .returned (faV (takeX l (lenN l))) ∧ Kept [fb] w3 w' ∧ ((takeX l (lenN l)).is = false → Fb fb (takeU l (lenN l)) sa sc w' ∧ FrOk (takeU l (lenN l)) sa sc w' ∧ ∀ b o s, sa = some ⟨b, o, s⟩ → w3.heap.size ≤ b)) at hfill
        have hxn : (takeX l (lenN l)).is = false → takeX l (lenN l) = noFa := fun h => fill_no _ _ _ _ h
        generalize takeX l (lenN l) = x at hfill hxn ⊢
        generalize takeU l (lenN l) = u at hfill ⊢
        refine wp_seq ?_
        refine take_r9 (n := l.length) (cap := cap) (ad := ad) (most := most) (rv := w.heap.size) (rx := w.heap.size + 1) (fb := fb) (k := lenN l) (x := x) (R := fun w' => ∃ sa sc, Kept [fb] w3 w' ∧ (x.is = false → Fb fb u sa sc w' ∧ FrOk u sa sc w' ∧ ∀ b o s, sa = some ⟨b, o, s⟩ → w3.heap.size ≤ b)) a6 w3 (by omega) hc (by unfold maxLen at hm; omega) (Lib.hid (hfill.mono (fun e w' h => by obtain ⟨sa, sc, h1, h2, h3⟩ := h; exact ⟨h1, sa, sc, h2, h3⟩))) (g6.less (by simp)) (Lib.hid (fun a7 w4 g7 r4 => ?_))
        obtain ⟨sa, sc, k4, hok⟩ := r4
        have V4 := V3.kept k4 (by simp; omega)
        have X4 := k4.at X3 (by simp; omega)
        have XB := heap_alloc_new w4 (.cells #[.bool x.is, .int .i64 x.code, .int .i64 x.stream] 37)
        have B45 := bel_al w4 (.cells #[.bool x.is, .int .i64 x.code, .int .i64 x.stream] 37)
        have hs4 : w.heap.size + 1 < w4.heap.size := (Array.getElem?_eq_some_iff.1 X4).1
        have hf4 : fb < w4.heap.size := Nat.lt_of_lt_of_le (Array.getElem?_eq_some_iff.1 F3).1 k4.size
        have B4 : Below w.heap.size w w4 := Kept.below B3 k4 (by simp; omega) B3.size
        generalize w4.alloc (.cells #[.bool x.is, .int .i64 x.code, .int .i64 x.stream] 37) = w5 at XB B45 ⊢
        have V5 : Fb w.heap.size noFr none 0 w5 := block_below B45 V4
        have X5 := block_below B45 X4
        have B5 : Below w.heap.size w w5 := B4.trans (B45.mono B4.size)
        generalize w4.heap.size = xb at XB g7 hs4 hf4
        have fin : ∀ w', Kept [w.heap.size, w.heap.size + 1] w5 w' → Below w.heap.size w w' := fun w' hk => Kept.below B5 hk (by simp) B5.size
        refine wp_block ?_
        refine wp_seq ?_
        refine take_r11 (x := x) a7 w5 XB g7 (Lib.hid (fun a8 g8 => ?_))
        cases hxi : x.is with
        | false =>
          obtain ⟨F4, O4, hbk⟩ := hok hxi
          have F5 : Fb fb u sa sc w5 := block_below B45 F4
          have O5 := O4.below B45
          rw [if_neg (by simp)]
          refine wp_cond_true (g8.get (i := 40) (v := .bool true) (by simp [hxi])) ?_
          refine wp_seq ?_
          refine take_r12 (N := (lenN l : Int)) (n := l.length) (cap := cap) (ad := ad) (most := most) a8 w5 V5 X5 hne F5 XB (by omega) (by omega) (by omega) (by omega) (g8.less (by simp)) (Lib.hid (fun a9 w' g9 F9 X9 k9 => ?_))
          refine wp_ret ?_
          try dsimp only [Exit.then, Exit.inBlock]
          refine take_ret g9 F9 X9 ?_
          have hs3 : w.heap.size + 1 < w3.heap.size := (Array.getElem?_eq_some_iff.1 X3).1
          refine ⟨sa, sc, by rw [hxn hxi]; simp, ?_, fin _ k9, fun b o s e => by have := hbk b o s e; omega⟩
          exact ⟨row_kept O5.row k9 (fun b o s e => by have := hbk b o s e; simp; omega), O5.len, O5.cap⟩
        | true =>
          rw [if_pos rfl]
          refine wp_cond_false (g8.get (i := 40) (v := .bool false) (by simp [hxi])) ?_
          refine wp_seq ?_
          refine take_r13 (N := (lenN l : Int)) (n := l.length) (cap := cap) (ad := ad) (most := most) (rv := w.heap.size) (rx := w.heap.size + 1) (fb := fb) (xb := xb) (x := x) a8 w5 XB (g8.less (by simp)) (Lib.hid (fun a9 g9 => ?_))
          by_cases hst : x.stream = 0
          · rw [if_pos hst]
            refine wp_cond_true (g9.get (i := 47) (v := .bool true) (by simp [hst])) ?_
            refine wp_seq ?_
            refine take_r14 (f := noFr) (sa := none) (sc := 0) (N := (lenN l : Int)) (n := l.length) (cap := cap) (ad := ad) (most := most) (fb := fb) a9 w5 V5 X5 hne XB (by omega) (by omega) (g9.less (by simp)) (Lib.hid (fun a10 w' g10 F9 X9 k9 => ?_))
            refine wp_ret ?_
            try dsimp only [Exit.then, Exit.inBlock]
            refine take_ret g10 F9 X9 ?_
            exact ⟨none, 0, rfl, frok_no _, fin _ k9, fun b o s e => by cases e⟩
          · rw [if_neg hst]
            refine wp_cond_false (g9.get (i := 47) (v := .bool false) (by simp [hst])) ?_
            refine wp_seq ?_
            refine take_r10 (f := noFr) (sa := none) (sc := 0) (N := (lenN l : Int)) (n := l.length) (cap := cap) (ad := ad) (most := most) (fb := fb) a9 w5 V5 X5 hne XB (by omega) (by omega) (g9.less (by simp)) (Lib.hid (fun a10 w' g10 F9 X9 k9 => ?_))
            refine wp_ret ?_
            try dsimp only [Exit.then, Exit.inBlock]
            refine take_ret g10 F9 X9 ?_
            exact ⟨none, 0, by simp, frok_no _, fin _ k9, fun b o s e => by cases e⟩
theorem ptake_any (l : List UInt8) (ad : Option Addr) (cap : Nat) (most : Int) (w : World) (hr : RB w ad l) (hc : l.length ≤ cap) (hm : cap ≤ maxLen) (hs : SpIs w) :
    Calls Tryd.prog 34 #[.slice ad l.length cap, .int .i64 most] w fun e w' => ∃ sa sc, e = .returned (.tuple #[frV (takeF l most).1 sa sc, .int .i64 (takeF l most).2.1, faV (takeF l most).2.2]) ∧ FrOk (takeF l most).1 sa sc w' ∧ Below w.heap.size w w' :=
  (ptake_new l ad cap most w hr hc hm hs).mono (fun e w' h => by obtain ⟨sa, sc, h1, h2, h3, _⟩ := h; exact ⟨sa, sc, h1, h2, h3⟩)
end Go.Proofs.YtglhdlkmgmbgeaaDoor

namespace Go.Proofs.YtglhdlkmgmbgeaaDoor
open Go.RowKit
open Mem Gen Go.Proofs.YtglhdlkmgmbgeaaDoor.Obj
set_option linter.unusedVariables false
set_option linter.unusedSimpArgs false
namespace Wr
open Rw

theorem que_room {α : Type} (E : Enc α) (w : World) (b off cap : Nat) (l l2 : List α) (h : QRow E w (some ⟨b, off, none⟩) cap l) (hroom : l.length + l2.length ≤ cap) :
    QRow E (w.setCells b (off + l.length * E.k) (flat E l2)) (some ⟨b, off, none⟩) cap (l ++ l2) ∧
      ∀ j, j < (flat E l2).length → (w.cell? ⟨b, off + l.length * E.k + j, none⟩).isSome = true ∧ w.frozen? ⟨b, off + l.length * E.k + j, none⟩ = false := by
  obtain ⟨b1, off1, e1, hb, hc, hsp⟩ := h.lies _ rfl
  simp only [Addr.mk.injEq, and_true] at e1
  obtain ⟨rfl, rfl⟩ := e1
  have hnl := flat_len E l2
  have hsp' : ∀ j, j < (flat E l2).length → (w.cell? ⟨b, off + l.length * E.k + j, none⟩).isSome = true ∧ w.frozen? ⟨b, off + l.length * E.k + j, none⟩ = false := fun j hj => by
    have hlt : l.length * E.k + j < cap * E.k := by
      have : (l.length + l2.length) * E.k ≤ cap * E.k := Nat.mul_le_mul_right _ hroom
      rw [Nat.add_mul] at this
      omega
    have := hsp (l.length * E.k + j) hlt
    rw [← Nat.add_assoc] at this
    exact this
  refine ⟨⟨by simpa using hroom, h.max, (fun e => by cases e), fun a e => ?_⟩, hsp'⟩
  simp only [Option.some.injEq] at e
  subst e
  have hin := World.cell?_setCells_in b (flat E l2) (off + l.length * E.k) w (fun j hj => (hsp' j hj).1)
  refine ⟨b, off, rfl, Nat.lt_of_lt_of_le hb (grown_setCells b _ _ w).size, fun i' hi' r u hu => ?_, fun j hj => ⟨?_, by rw [World.frozen?_setCells]; exact (hsp j hj).2⟩⟩
  · by_cases hlt : i' < l.length
    · rw [List.getElem_append_left hlt] at hu
      have hr' : r < E.k := by
        have := (List.getElem?_eq_some_iff.1 hu).1
        rwa [E.len] at this
      rw [World.cell?_setCells_out b _ _ _ _ (fun _ _ => Or.inl (by
        show off + i' * E.k + r < off + l.length * E.k
        have : (i' + 1) * E.k ≤ l.length * E.k := Nat.mul_le_mul_right _ hlt
        rw [Nat.add_mul] at this; omega))]
      exact hc i' hlt r u hu
    · rw [List.getElem_append_right (by omega)] at hu
      have hi2 : i' - l.length < l2.length := by simp at hi'; omega
      have hf := flat_of E l2 (i' - l.length) r hi2 u hu
      obtain ⟨hjl, hje⟩ := List.getElem?_eq_some_iff.1 hf
      have := hin _ hjl
      rw [hje] at this
      rw [← this]
      congr 2
      have e1 : i' * E.k = l.length * E.k + (i' - l.length) * E.k := by rw [← Nat.add_mul]; congr 1; omega
      rw [e1]; omega
  · by_cases hj2 : l.length * E.k ≤ j ∧ j < l.length * E.k + (flat E l2).length
    · have := hin (j - l.length * E.k) (by omega)
      rw [show off + j = off + l.length * E.k + (j - l.length * E.k) by omega, this]; rfl
    · rw [World.cell?_setCells_out b _ _ _ _ (fun _ _ => by show off + j < off + l.length * E.k ∨ off + l.length * E.k + (flat E l2).length ≤ off + j; omega)]
      exact (hsp j hj).1
theorem flat_by (l : List UInt8) : flat EBy l = bvs l := by simp [flat, EBy, bvs, List.flatMap, List.flatten]; induction l <;> simp_all
theorem que_grow (w : World) (e : TypeId) (l : List UInt8) (gc : Nat) (rest : Array Value) (h1 : l.length ≤ gc) (h2 : gc ≤ maxLen) (h3 : rest.size = gc - l.length) :
    QRow EBy (w.alloc (.cells ((bvs l).toArray ++ rest) e)) (some ⟨w.heap.size, 0, none⟩) gc l := by
  have hh := heap_alloc_new w (.cells ((bvs l).toArray ++ rest) e)
  have hbl : (bvs l).length = l.length := by simp [bvs]
  refine ⟨h1, h2, (fun e => by cases e), fun a ea => ?_⟩
  simp only [Option.some.injEq] at ea
  subst ea
  refine ⟨_, 0, rfl, by simp, fun i hi r v hv => ?_, fun j hj => ⟨?_, frozen_of_row _ _ _ _ _ hh⟩⟩
  · have hr : r = 0 := by
      have := (List.getElem?_eq_some_iff.1 hv).1
      simp [EBy] at this; omega
    subst hr
    simp only [EBy, List.getElem?_cons_zero, Option.some.injEq] at hv
    subst hv
    have := cell_at hh (0 + i * EBy.k + 0)
    rw [this]
    simp only [EBy, Nat.zero_add, Nat.mul_one, Nat.add_zero]
    rw [Array.getElem?_append_left (by simpa [hbl] using hi)]
    simp [bvs, hi]
  · rw [cell_at hh (0 + j)]
    simp only [EBy] at hj
    rw [Array.getElem?_eq_getElem (by simp [h3, hbl]; omega)]; rfl
theorem grew_of {B : Nat} {L : List Nat} {oa oa' : Option Addr} {oc oc' : Nat} {out l3 : List UInt8} {w w' : World} (h : OutB B L oa oc out w) (hB : B ≤ w.heap.size) (hLw : ∀ k ∈ L, k < w.heap.size) (hq : QRow EBy w' oa' oc' l3) (hg : w.grownBy w' (oa.map (·.block)))
    (hb : ∀ b o s, oa' = some ⟨b, o, s⟩ → (∃ o', oa = some ⟨b, o', .none⟩) ∨ w.heap.size ≤ b) : Grew B L w oa oa' oc' l3 w' := by
  have hap : ∀ b o s, oa' = some ⟨b, o, s⟩ → B ≤ b ∧ b ∉ L := fun b o s e => by
    rcases hb b o s e with ⟨o', e'⟩ | h1
    · exact h.apart b o' none e'
    · exact ⟨by omega, fun hm => by have := hLw b hm; omega⟩
  refine ⟨⟨hq, hap⟩, (Std.refl B L w).grown hg (fun k hk => ?_), fun k hk hne => hg.block k hk (fun e => ?_), hb⟩
  · rw [Option.map_eq_some_iff] at hk
    obtain ⟨⟨b, o, s⟩, e, rfl⟩ := hk
    exact h.apart b o s e
  · symm at e
    rw [Option.map_eq_some_iff] at e
    obtain ⟨⟨b, o, s⟩, e, rfl⟩ := e
    exact hne o s e
theorem hold_of {P : Program} {w : World} {oa : Option Addr} {oc : Nat} {out : List UInt8} (h : RB w oa out) : (Builtin.firstCells 1 out.length (.slice oa out.length oc)).run P w.drew = .ok (bvs out).toArray w.drew := by
  rcases h with h | ⟨b, off, h, hc⟩
  · subst h
    cases oa with
    | none => rfl
    | some a => exact run_firstCells_some w.drew 1 0 a 0 oc [] rfl (fun j u hj => by simp at hj)
  · subst h
    exact run_firstCells_some w.drew 1 out.length _ _ oc (bvs out) (by simp [bvs]) (fun j u hj => by
      have hj' := (List.getElem?_eq_some_iff.1 hj).1
      rw [bvs_length] at hj'
      rw [bvs_at out j hj'] at hj
      simp only [Option.some.injEq] at hj
      subst hj
      rw [Arg.add_none]
      exact hc j hj')

section
variable {P : Program} {t tn : TypeId}
theorem run_text (w : World) (ty : TypeId) (ht : P.underlying t = some (.slice 5)) (hk : P.underlying tn = some .string) (hi : (P.info? 5).map (fun i => (i.zero, i.size, i.bytes)) = some (some (.int .u8 0), 1, 1))
    {B : Nat} {L : List Nat} {oa : Option Addr} {oc : Nat} {out : List UInt8} (h : OutB B L oa oc out w) (hB : B ≤ w.heap.size) (hLw : ∀ k ∈ L, k < w.heap.size) (s : ByteArray)
    (l3 : List UInt8) (hl3 : l3 = out ++ s.data.toList) (hlen : l3.length ≤ 140737488355328) (n : Nat) (hn : n = out.length) :
    ∃ (oa' : Option Addr) (oc' : Nat) (w' : World), (Builtin.append_ #[t, tn] ty #[.slice oa n oc, .string s]).run P w = .ok (.slice oa' l3.length oc') w' ∧ Grew B L w oa oa' oc' l3 w' := by
  subst hn
  rw [Option.map_eq_some_iff] at hi
  obtain ⟨i, hi, hi3⟩ := hi
  simp only [Prod.mk.injEq] at hi3
  obtain ⟨hz, hsize, hby⟩ := hi3
  have hsl : s.data.toList.length = s.size := by simp
  have hl : l3.length = out.length + s.size := by rw [hl3, List.length_append, hsl]
  rw [hl] at hlen ⊢
  have hsrc : Src P i.size tn (.string s) s.size (bvs s.data.toList) w := by rw [hsize]; exact Src.ofString w hk s
  by_cases hroom : out.length + s.size ≤ oc
  · cases oa with
    | none =>
      have h0 := h.row.nil rfl
      have hs0 : s.size = 0 := by omega
      have hst : s.data.toList = [] := List.eq_nil_of_length_eq_zero (by omega)
      have hlo : out = [] := List.eq_nil_of_length_eq_zero (by omega)
      subst hlo h0
      refine ⟨none, 0, w, ?_, grew_of h hB hLw ?_ ⟨rfl, rfl, rfl, Nat.le_refl _, fun _ _ _ => rfl⟩ (fun b o s e => by cases e)⟩
      · have hc0 := hsrc.cells
        rw [hs0, hst] at hc0
        simp [Builtin.append_, run_underlying ht, run_underlying hk, sizeOf, typeInfo, hi, Builtin.lenOf, hs0, hc0]
      · rw [hl3, hst]; exact h.row
    | some a =>
      obtain ⟨b, off, rfl, hb, hc, hsp⟩ := h.row.lies a rfl
      obtain ⟨hq, hcl⟩ := que_room EBy w b off oc out s.data.toList h.row (by rw [hsl]; exact hroom)
      rw [flat_by] at hq hcl
      have hk1 : EBy.k = 1 := rfl
      rw [hk1, Nat.mul_one] at hq hcl
      have hrun := run_append_room_src (P := P) w t tn ty 5 i ht hi b off out.length oc (.string s) s.size (bvs s.data.toList) hsrc hroom (by rw [hsize, Nat.mul_one]; exact fun j hj => (hcl j hj).1) (by rw [hsize, Nat.mul_one]; exact fun j hj => (hcl j hj).2)
      rw [hsize, Nat.mul_one] at hrun
      exact ⟨_, _, _, hrun, grew_of h hB hLw (by rw [hl3]; exact hq) (grown_setCells b _ _ w) (fun b' o s' e => .inl ⟨off, by simp only [Option.some.injEq, Addr.mk.injEq] at e; rw [e.1]⟩)⟩
  · have hrun := run_append_grow_src (P := P) w t tn ty 5 i _ ht hi hz oa out.length oc (bvs out) (by rw [hsize]; exact hold_of h.rb) (.string s) s.size (bvs s.data.toList) hsrc (by omega) (by omega) (growslice_fits (by omega) (by rw [hby]; omega))
    have hge := grownCap_ge w (out.length + s.size) oc 5
    have hcm := grownCap_le_maxLen w (out.length + s.size) oc 5 (by unfold maxLen; omega)
    refine ⟨_, _, _, hrun, grew_of h hB hLw ?_ ⟨rfl, rfl, rfl, by simp, fun k' hk' _ => heap_alloc_old w.drew _ (by simpa using hk')⟩ (fun b o s' e => .inr (by simp only [Option.some.injEq, Addr.mk.injEq] at e; omega))⟩
    have := que_grow w.drew 5 l3 (grownCap w (out.length + s.size) oc 5) (Builtin.zeroCells (Value.int .u8 0).cells (grownCap w (out.length + s.size) oc 5 - (out.length + s.size))) (by rw [hl]; exact hge) hcm (by rw [size_zeroCells, hl]; show _ * 1 = _; rw [Nat.mul_one])
    rw [hl3, bvs_append] at this
    rw [hl3]; exact this
theorem run_zeros (w : World) (ty : TypeId) (ht : P.underlying t = some (.slice 5)) (htn : P.underlying tn = some (.int .i64)) (hi : (P.info? 5).map (fun i => (i.zero, i.size, i.bytes)) = some (some (.int .u8 0), 1, 1))
    {B : Nat} {L : List Nat} {oa : Option Addr} {oc : Nat} {out : List UInt8} (h : OutB B L oa oc out w) (hB : B ≤ w.heap.size) (hLw : ∀ k ∈ L, k < w.heap.size) (k : Nat)
    (l3 : List UInt8) (hl3 : l3 = out ++ List.replicate k 0) (hlen : l3.length ≤ 140737488355328) (n : Nat) (hn : n = out.length) :
    ∃ (oa' : Option Addr) (oc' : Nat) (w' : World), (Builtin.append_ #[t, tn] ty #[.slice oa n oc, .int .i64 (k : Int)]).run P w = .ok (.slice oa' l3.length oc') w' ∧ Grew B L w oa oa' oc' l3 w' := by
  subst hn
  rw [Option.map_eq_some_iff] at hi
  obtain ⟨i, hi, hi3⟩ := hi
  simp only [Prod.mk.injEq] at hi3
  obtain ⟨hz, hsize, hby⟩ := hi3
  have hsl : (List.replicate k (0 : UInt8)).length = k := by simp
  have hl : l3.length = out.length + k := by rw [hl3, List.length_append, hsl]
  rw [hl] at hlen ⊢
  have hzc : ∀ m, (Builtin.zeroCells (Value.int .u8 0).cells m) = (bvs (List.replicate m 0)).toArray := fun m => by
    apply Array.ext'
    simp [Builtin.zeroCells, bvs, Value.cells, List.map_const']
    apply List.ext_getElem
    · simp
    · intro j h1 h2; simp [Nat.mod_one]
  have hw : IntKind.i64.wrap (k : Int) = k := by rw [IntKind.wrap_i64]; omega
  have h48i : ¬ (281474976710656 < (k : Int) * (i.bytes : Int)) := by rw [hby]; omega
  have hneg : ¬ ((k : Int) < 0) := by omega
  by_cases hroom : out.length + k ≤ oc
  · have hfin : ∀ (a : Addr) b off, a = ⟨b, off, none⟩ → QRow EBy w (some a) oc out → ∃ (oa' : Option Addr) (oc' : Nat) (w' : World), (Builtin.append_ #[t, tn] ty #[.slice (some a) out.length oc, .int .i64 (k : Int)]).run P w = .ok (.slice oa' (out.length + k) oc') w' ∧
        (oa' = some a ∧ QRow EBy w' oa' oc' l3 ∧ w.grownBy w' (some b)) := fun a b off ea hq0 => by
      subst ea
      obtain ⟨hq, hcl⟩ := que_room EBy w b off oc out (List.replicate k 0) hq0 (by rw [hsl]; exact hroom)
      rw [flat_by] at hq hcl
      have hk1 : EBy.k = 1 := rfl
      rw [hk1, Nat.mul_one] at hq hcl
      have hst := run_storeCells_cells (P := P) b (off + out.length) (bvs (List.replicate k 0)) 0 w (by simpa using fun j hj => (hcl j hj).1) (by simpa using fun j hj => (hcl j hj).2) (fun u hu => by
        obtain ⟨_, _, rfl⟩ := List.mem_map.1 hu
        rfl)
      simp only [Nat.add_zero] at hst
      refine ⟨some ⟨b, off, none⟩, oc, w.setCells b (off + out.length) (bvs (List.replicate k 0)), ?_, rfl, by rw [hl3]; exact hq, grown_setCells b _ _ w⟩
      by_cases hk0 : k = 0
      · subst hk0
        have e0 : bvs (List.replicate 0 0) = [] := rfl
        rw [e0] at hst ⊢
        have hw0 : IntKind.i64.wrap 0 = 0 := rfl
        simp [Builtin.append_, run_underlying ht, run_underlying htn, sizeOf, typeInfo, zeroValue, hi, hz, hsize, asInt, asIntOf, hw0, show out.length ≤ oc by omega, Addr.add_lit, hst]
      · have hns : ¬ (k = 0) := hk0
        simp [Builtin.append_, run_underlying ht, run_underlying htn, sizeOf, typeInfo, zeroValue, hi, hz, hsize, asInt, asIntOf, hw, hroom, hneg, hns, h48i, Addr.add_lit, hzc, hst]
    cases oa with
    | none =>
      have h0 := h.row.nil rfl
      have hk0 : k = 0 := by omega
      have hlo : out = [] := List.eq_nil_of_length_eq_zero (by omega)
      subst hlo h0 hk0
      refine ⟨none, 0, w, ?_, grew_of h hB hLw ?_ ⟨rfl, rfl, rfl, Nat.le_refl _, fun _ _ _ => rfl⟩ (fun b o s e => by cases e)⟩
      · have hw0 : IntKind.i64.wrap 0 = 0 := rfl
        simp [Builtin.append_, run_underlying ht, run_underlying htn, sizeOf, typeInfo, zeroValue, hi, hz, hsize, asInt, asIntOf, hw0]
      · rw [hl3]; exact h.row
    | some a =>
      obtain ⟨b, off, rfl, hb, hc, hsp⟩ := h.row.lies a rfl
      obtain ⟨oa', oc', w', hrun, rfl, hq, hg⟩ := hfin _ b off rfl h.row
      exact ⟨_, _, _, hrun, grew_of h hB hLw hq hg (fun b' o s' e => .inl ⟨off, by simp only [Option.some.injEq, Addr.mk.injEq] at e; rw [e.1]⟩)⟩
  · have hrun := Lib.run_append_grow_zeros (P := P) w t tn ty 5 i _ .i64 .i64 ht htn hi hz oa out.length oc (bvs out) (by rw [hsize]; exact hold_of h.rb) k (by have := h.row.le; omega) (by omega) (by omega) (by omega) (by rw [hby]; omega) (growslice_fits (by omega) (by rw [hby]; omega))
    have hge := grownCap_ge w (out.length + k) oc 5
    have hcm := grownCap_le_maxLen w (out.length + k) oc 5 (by unfold maxLen; omega)
    refine ⟨_, _, _, hrun, grew_of h hB hLw ?_ ⟨rfl, rfl, rfl, by simp, fun k' hk' _ => heap_alloc_old w.drew _ (by simpa using hk')⟩ (fun b o s' e => .inr (by simp only [Option.some.injEq, Addr.mk.injEq] at e; omega))⟩
    have := que_grow w.drew 5 l3 (grownCap w (out.length + k) oc 5) (Builtin.zeroCells (Value.int .u8 0).cells (grownCap w (out.length + k) oc 5 - (out.length + k))) (by rw [hl]; exact hge) hcm (by rw [size_zeroCells, hl]; show _ * 1 = _; rw [Nat.mul_one])
    rw [hl3, bvs_append] at this
    rw [hl3, hzc k]
    have e : (bvs out).toArray ++ (bvs (List.replicate k 0)).toArray = (bvs out ++ bvs (List.replicate k 0)).toArray := by simp
    rw [e]
    exact this

variable {w : World} {ops : Array Oper} {o : Oper} {a : Act} {Q : Exit → Act → World → Prop}
/-- As a step of a region that draws its order. -/
theorem step_text {K : Act → World → Prop} {Ee : Prop} (ht : P.underlying t = some (.slice 5)) (hk : P.underlying tn = some .string) (hi : (P.info? 5).map (fun i => (i.zero, i.size, i.bytes)) = some (some (.int .u8 0), 1, 1))
    (hgd : o.guard = none) (s x : Operand) (ho : o.op = .call { callee := .builtin .append, args := #[s, x], argTypes := #[t, tn] })
    {B : Nat} {L : List Nat} {oa : Option Addr} {oc n : Nat} {out : List UInt8} (hs : a.eval s = .slice oa n oc) (hn : n = out.length) (h : OutB B L oa oc out w) (hB : B ≤ w.heap.size) (hLw : ∀ k ∈ L, k < w.heap.size)
    {d : ByteArray} (hx : a.eval x = .string d)
    (l3 : List UInt8) (hl3 : l3 = out ++ d.data.toList) (hlen : l3.length ≤ 140737488355328)
    (hK : ∀ (oa' : Option Addr) (oc' : Nat) w', Hid (Grew B L w oa oa' oc' l3 w') → K (a.put o.dst (.slice oa' l3.length oc')) w') :
    if Region.wanted o (yielded ops a.tmps) = true then Oper.wp P o a w K Q else Ee := by
  obtain ⟨oa', oc', w', hrun, hG⟩ := run_text (P := P) w o.type ht hk hi h hB hLw d l3 hl3 hlen n hn
  have hw : Region.wanted o (yielded ops a.tmps) = true := by simp [Region.wanted, hgd]
  rw [if_pos hw]
  unfold Oper.wp
  simp [execOp, ho, resolve, invoke, builtin, hs, hx, hrun, Result.andThen]
  exact hK _ _ _ (Lib.hid hG)
theorem step_zeros {K : Act → World → Prop} {Ee : Prop} (ht : P.underlying t = some (.slice 5)) (htn : P.underlying tn = some (.int .i64)) (hi : (P.info? 5).map (fun i => (i.zero, i.size, i.bytes)) = some (some (.int .u8 0), 1, 1))
    (hgd : o.guard = none) (s x : Operand) (ho : o.op = .call { callee := .builtin .append, args := #[s, x], argTypes := #[t, tn] })
    {B : Nat} {L : List Nat} {oa : Option Addr} {oc n : Nat} {out : List UInt8} (hs : a.eval s = .slice oa n oc) (hn : n = out.length) (h : OutB B L oa oc out w) (hB : B ≤ w.heap.size) (hLw : ∀ k ∈ L, k < w.heap.size)
    {z : Int} (k : Nat) (hx : a.eval x = .int .i64 z) (hzk : z = k)
    (l3 : List UInt8) (hl3 : l3 = out ++ List.replicate k 0) (hlen : l3.length ≤ 140737488355328)
    (hK : ∀ (oa' : Option Addr) (oc' : Nat) w', Hid (Grew B L w oa oa' oc' l3 w') → K (a.put o.dst (.slice oa' l3.length oc')) w') :
    if Region.wanted o (yielded ops a.tmps) = true then Oper.wp P o a w K Q else Ee := by
  subst hzk
  obtain ⟨oa', oc', w', hrun, hG⟩ := run_zeros (P := P) w o.type ht htn hi h hB hLw k l3 hl3 hlen n hn
  have hw : Region.wanted o (yielded ops a.tmps) = true := by simp [Region.wanted, hgd]
  rw [if_pos hw]
  unfold Oper.wp
  simp [execOp, ho, resolve, invoke, builtin, hs, hx, hrun, Result.andThen]
  exact hK _ _ _ (Lib.hid hG)
end
end Wr
end Go.Proofs.YtglhdlkmgmbgeaaDoor

namespace Go.Proofs.YtglhdlkmgmbgeaaDoor
open Go.RowKit
open Mem Gen Go.Proofs.YtglhdlkmgmbgeaaDoor.Obj
set_option linter.unusedVariables false
set_option linter.unusedSimpArgs false
namespace Wr
open Rw
theorem flat_bvs (l : List UInt8) : flat EBy l = bvs l := flat_by l
/-- A row that a call made is a row of the caller's own. -/
theorem OutB.of_made {B : Nat} {L : List Nat} {w' : World} {base : Nat} {ad : Option Addr} {cap n : Nat} {l : List UInt8} (h : w'.ownsRow base 5 1 (.slice ad n cap) l.length (bvs l)) (hB : B ≤ base) (hL : ∀ k ∈ L, k < base) : OutB B L ad cap l w' :=
  ⟨QRow.of_own (E := EBy) (by rw [flat_bvs]; exact h), fun b o s e => by
    subst e
    have h1 : base ≤ b := by
      obtain ⟨_, h0 | ⟨g, c', cur, hv, hg, _⟩⟩ := h
      · cases h0.1
      · simp only [Value.slice.injEq, Option.some.injEq, Addr.mk.injEq] at hv
        rw [hv.1.1]; exact hg
    exact ⟨by omega, fun hm => by have := hL b hm; omega⟩⟩
section
variable {P : Program} {t : TypeId}
theorem run_bytes0 (w : World) (ty : TypeId) (ht : P.underlying t = some (.slice 5)) (hi : (P.info? 5).map (fun i => (i.zero, i.size, i.bytes)) = some (some (.int .u8 0), 1, 1))
    {B : Nat} {L : List Nat} {oa : Option Addr} {oc : Nat} {out : List UInt8} (h : OutB B L oa oc out w) (hB : B ≤ w.heap.size) (hLw : ∀ k ∈ L, k < w.heap.size) (a2 : Option Addr) (l2 : List UInt8) (n2 c : Nat) (hn2 : n2 = l2.length) (hrb : RB w a2 l2)
    (l3 : List UInt8) (hl3 : l3 = out ++ l2) (hlen : l3.length ≤ 140737488355328) (n : Nat) (hn : n = out.length) :
    ∃ (oa' : Option Addr) (oc' : Nat) (w' : World), (Builtin.append_ #[t, t] ty #[.slice oa n oc, .slice a2 n2 c]).run P w = .ok (.slice oa' l3.length oc') w' ∧ Grew B L w oa oa' oc' l3 w' := by
  by_cases hne : l2 ≠ []
  · exact run_bytes w ty ht hi h hB hLw a2 l2 n2 c hn2 hne hrb l3 hl3 hlen n hn
  · have hl2 : l2 = [] := by simpa using hne
    subst hl2
    simp only [List.append_nil] at hl3
    subst hl3
    have hn0 : n2 = 0 := hn2
    subst hn0 hn
    obtain ⟨i, hi, hi3⟩ := Option.map_eq_some_iff.1 hi
    simp only [Prod.mk.injEq] at hi3
    obtain ⟨hz, hsize, hby⟩ := hi3
    have hsrc : Src P i.size t (.slice a2 0 c) 0 [] w := by
      cases a2 with
      | none => exact Src.ofNil w ht c
      | some a => exact Src.ofSlice w ht a 0 c [] (by simp) (fun j u e => by simp at e) (fun u e => by cases e)
    have hG : Grew B L w oa oa oc l3 w := grew_of h hB hLw h.row ⟨rfl, rfl, rfl, Nat.le_refl _, fun _ _ _ => rfl⟩ (fun b o s e => by
      obtain ⟨b', o', e', _⟩ := h.row.lies _ e
      simp only [Addr.mk.injEq] at e'
      obtain ⟨rfl, rfl, rfl⟩ := e'
      exact .inl ⟨_, e⟩)
    refine ⟨oa, oc, w, ?_, hG⟩
    have hle := h.row.le
    cases oa with
    | none =>
      have h0 := h.row.nil rfl
      subst h0
      have hlo : l3 = [] := List.eq_nil_of_length_eq_zero (by omega)
      subst hlo
      have hc0 := hsrc.cells
      simp [Builtin.append_, run_underlying ht, sizeOf, typeInfo, hi, Builtin.lenOf, hc0]
    | some a =>
      obtain ⟨b, off, rfl, hb, hc, hsp⟩ := h.row.lies a rfl
      exact run_append_room_src (P := P) w t t ty 5 i ht hi b off l3.length oc (.slice a2 0 c) 0 [] hsrc (by simpa using hle) (fun j hj => by simp at hj) (fun j hj => by simp at hj)
variable {w : World} {ops : Array Oper} {o : Oper} {a : Act} {Q : Exit → Act → World → Prop}
/-- As a step of a walk. -/
theorem wl_bytes0 {rest : List Oper} (ht : P.underlying t = some (.slice 5)) (hi : (P.info? 5).map (fun i => (i.zero, i.size, i.bytes)) = some (some (.int .u8 0), 1, 1))
    (hgd : o.guard = none) (s x : Operand) (ho : o.op = .call { callee := .builtin .append, args := #[s, x], argTypes := #[t, t] })
    {B : Nat} {L : List Nat} {oa : Option Addr} {oc n : Nat} {out : List UInt8} (hs : a.eval s = .slice oa n oc) (hn : n = out.length) (h : OutB B L oa oc out w) (hB : B ≤ w.heap.size) (hLw : ∀ k ∈ L, k < w.heap.size)
    {a2 : Option Addr} {l2 : List UInt8} {n2 c : Nat} (hx : a.eval x = .slice a2 n2 c) (hn2 : n2 = l2.length) (hrb : RB w a2 l2)
    (l3 : List UInt8) (hl3 : l3 = out ++ l2) (hlen : l3.length ≤ 140737488355328)
    (hK : ∀ (oa' : Option Addr) (oc' : Nat) w', Hid (Grew B L w oa oa' oc' l3 w') → wpList P ops Q rest (a.put o.dst (.slice oa' l3.length oc')) w') :
    wpList P ops Q (o :: rest) a w := by
  obtain ⟨oa', oc', w', hrun, hG⟩ := run_bytes0 (P := P) w o.type ht hi h hB hLw a2 l2 n2 c hn2 hrb l3 hl3 hlen n hn
  refine wpList_step fun K hK2 => ?_
  have hw : Region.wanted o (yielded ops a.tmps) = true := by simp [Region.wanted, hgd]
  rw [if_pos hw]
  unfold Oper.wp
  simp [execOp, ho, resolve, invoke, builtin, hs, hx, hrun, Result.andThen]
  exact hK2 _ _ (hK _ _ _ (Lib.hid hG))
end
end Wr
end Go.Proofs.YtglhdlkmgmbgeaaDoor

namespace Go.Proofs.YtglhdlkmgmbgeaaDoor
open Go.RowKit
open Cho Fra Oct Arg Mem Gen Wr Qu Go.Proofs.YtglhdlkmgmbgeaaDoor.Obj
set_option linter.unusedVariables false
set_option linter.unusedSimpArgs false

/-- The cells of a feed. -/
def fdC (most : Int) (aw : Bool) (la : Option Addr) (n lc : Nat) (ov : Bool) : Array Value := #[.int .i64 most, .bool aw, .slice la n lc, .bool ov]
/-- A feed, and the row of what is left. -/
structure FdO (fb : Nat) (la : Option Addr) (lc : Nat) (most : Int) (s : FeM) (w : World) : Prop where
  blk : w.heap[fb]? = some (.cells (fdC most s.aw la s.rest.length lc s.over) 54 (0, 0))
  row : Rw.QRow EBy w la lc s.rest
  ne : ∀ b o s', la = some ⟨b, o, s'⟩ → b ≠ fb
theorem FdO.cells {fb : Nat} {la : Option Addr} {lc : Nat} {most : Int} {s : FeM} {w : World} (h : FdO fb la lc most s w) :
    w.cell? ⟨fb, 0, none⟩ = some (.int .i64 most) ∧ w.cell? ⟨fb, 1, none⟩ = some (.bool s.aw) ∧ w.cell? ⟨fb, 2, none⟩ = some (.slice la s.rest.length lc) ∧ w.cell? ⟨fb, 3, none⟩ = some (.bool s.over) :=
  ⟨cell_at h.blk 0, cell_at h.blk 1, cell_at h.blk 2, cell_at h.blk 3⟩
theorem FdO.thaw {fb : Nat} {la : Option Addr} {lc : Nat} {most : Int} {s : FeM} {w : World} (h : FdO fb la lc most s w) (i : Nat) : w.frozen? ⟨fb, i, none⟩ = false := frozen_of_row _ _ i _ _ h.blk
theorem FdO.below {fb : Nat} {la : Option Addr} {lc : Nat} {most : Int} {s : FeM} {w w' : World} (h : FdO fb la lc most s w) (hb : Below w.heap.size w w') : FdO fb la lc most s w' :=
  ⟨block_below hb h.blk, h.row.below hb, h.ne⟩
set_option maxRecDepth 100000 in
set_option maxHeartbeats 1000000 in
/-- end: what is left goes, and it is over. -/
theorem pend_any {fb : Nat} {la : Option Addr} {lc : Nat} {most : Int} {s : FeM} (w : World) (h : FdO fb la lc most s w) :
    Calls Tryd.prog 35 #[.pointer (some ⟨fb, 0, none⟩)] w fun e w' => (∃ v, e = .returned v) ∧ FdO fb none 0 most ⟨[], s.aw, true⟩ w' ∧ Kept [fb] w w' := by
  obtain ⟨c0, c1, c2, c3⟩ := h.cells
  have z2 := h.thaw 2
  have z3 := h.thaw 3
  have hb1 := heap_setCell_same w fb 2 _ _ (.slice none 0 0) h.blk
  have hb2 := heap_setCell_same _ fb 3 _ _ (.bool true) hb1
  have hk : Kept [fb] w ((w.setCell ⟨fb, 2, none⟩ (.slice none 0 0)).setCell ⟨fb, 3, none⟩ (.bool true)) := ((Kept.refl [fb] w).setCell (p := ⟨fb, 2, none⟩) (.inl (by simp)) _).setCell (p := ⟨fb, 3, none⟩) (.inl (by simp)) _
  have HE : Hid (FdO fb none 0 most ⟨[], s.aw, true⟩ ((w.setCell ⟨fb, 2, none⟩ (.slice none 0 0)).setCell ⟨fb, 3, none⟩ (.bool true)) ∧ Kept [fb] w ((w.setCell ⟨fb, 2, none⟩ (.slice none 0 0)).setCell ⟨fb, 3, none⟩ (.bool true))) := Lib.hid ⟨⟨hb2, Rw.QRow.bare _ _, fun b o s' e => by cases e⟩, hk⟩
  clear h hb1 hb2 hk
  go_enter Tryd.func35, Tryd.ntmps35
  go_wp2_with fail
  go_end0
  exact ⟨⟨_, rfl⟩, HE.out⟩

set_option maxRecDepth 100000 in
theorem pover_any {fb : Nat} {la : Option Addr} {lc : Nat} {most : Int} {s : FeM} (w : World) (h : FdO fb la lc most s w) :
    Calls Tryd.prog 15 #[.pointer (some ⟨fb, 0, none⟩)] w fun e w' => e = .returned (.bool s.over) ∧ w = w' := by
  obtain ⟨c0, c1, c2, c3⟩ := h.cells
  clear h
  go_enter Tryd.func15, Tryd.ntmps15
  go_wp2_with fail
  go_ret
  exact ⟨rfl, rfl⟩
set_option maxRecDepth 100000 in
theorem pover_nil (w : World) :
    Calls Tryd.prog 15 #[.pointer none] w fun e w' => e = .returned (.bool true) ∧ w = w' := by
  go_enter Tryd.func15, Tryd.ntmps15
  go_wp2_with fail
  go_ret
  exact ⟨rfl, rfl⟩
set_option maxRecDepth 100000 in
theorem pleft_any {fb : Nat} {la : Option Addr} {lc : Nat} {most : Int} {s : FeM} (w : World) (h : FdO fb la lc most s w) :
    Calls Tryd.prog 14 #[.pointer (some ⟨fb, 0, none⟩)] w fun e w' => e = .returned (.int .i64 (s.rest.length : Nat)) ∧ w = w' := by
  obtain ⟨c0, c1, c2, c3⟩ := h.cells
  clear h
  go_enter Tryd.func14, Tryd.ntmps14
  go_wp2_with fail
  go_ret
  exact ⟨rfl, rfl⟩
set_option maxRecDepth 100000 in
theorem pleft_nil (w : World) :
    Calls Tryd.prog 14 #[.pointer none] w fun e w' => e = .returned (.int .i64 0) ∧ w = w' := by
  go_enter Tryd.func14, Tryd.ntmps14
  go_wp2_with fail
  go_ret
  exact ⟨rfl, rfl⟩
set_option maxRecDepth 100000 in
theorem pnew_any (most : Int) (aw : Bool) (w : World) :
    Calls Tryd.prog 10 #[.int .i64 most, .bool aw] w fun e w' => e = .returned (.pointer (some ⟨w.heap.size, 0, none⟩)) ∧ w' = w.alloc (.cells (fdC (max most 0) aw none 0 0 false) 54 (0, 0)) := by
  go_enter Tryd.func10, Tryd.ntmps10
  go_wp2_with fail
  all_goals go_ret
  all_goals refine ⟨rfl, ?_⟩
  · have hm : max most 0 = 0 := by omega
    rw [fdC, hm]
  · have hm : max most 0 = most := by omega
    rw [fdC, hm]
end Go.Proofs.YtglhdlkmgmbgeaaDoor

namespace Go.Proofs.YtglhdlkmgmbgeaaDoor
open Go.RowKit
open Go.Proofs.YtglhdlkmgmbgeaaDoor.Obj
set_option linter.unusedVariables false
namespace Pt
theorem setCell_block {w : World} {b i : Nat} {cs : Array Value} {t : TypeId} {fz : Nat × Nat} (v : Value) (h : w.heap[b]? = some (.cells cs t fz)) : (w.setCell ⟨b, i, none⟩ v).heap[b]? = some (.cells (cs.setIfInBounds i v) t fz) := by
  simp [World.setCell, Array.getElem?_modify, h]
def putA : Array Value → Nat → List Value → Array Value
  | cs, _, [] => cs
  | cs, o, v :: r => putA (cs.setIfInBounds o v) (o + 1) r
theorem putA_size : ∀ (vs : List Value) (o : Nat) (cs : Array Value), (putA cs o vs).size = cs.size
  | [], _, _ => rfl
  | v :: r, o, cs => by rw [putA, putA_size r]; simp
theorem putA_lt : ∀ (vs : List Value) (o : Nat) (cs : Array Value) (j : Nat), j < o → (putA cs o vs)[j]? = cs[j]?
  | [], _, _, _, _ => rfl
  | v :: r, o, cs, j, h => by rw [putA, putA_lt r (o + 1) _ j (by omega)]; simp [Array.getElem?_setIfInBounds_ne (show o ≠ j by omega)]
theorem putA_in : ∀ (vs : List Value) (o : Nat) (cs : Array Value) (j : Nat) (v : Value), o + vs.length ≤ cs.size → vs[j]? = some v → (putA cs o vs)[o + j]? = some v
  | [], _, _, _, _, _, h => by simp at h
  | u :: r, o, cs, 0, v, hs, h => by
    simp only [List.getElem?_cons_zero, Option.some.injEq] at h
    subst h
    rw [putA]
    show (putA (cs.setIfInBounds o u) (o + 1) r)[o]? = some u
    rw [putA_lt r (o + 1) _ o (by omega)]
    simp only [List.length_cons] at hs
    simp [Array.getElem?_setIfInBounds_self, show o < cs.size by omega]
  | u :: r, o, cs, j + 1, v, hs, h => by
    simp only [List.length_cons] at hs
    have := putA_in r (o + 1) (cs.setIfInBounds o u) j v (by simp; omega) (by simpa using h)
    rw [putA, show o + (j + 1) = o + 1 + j by omega]
    exact this
theorem putA_all (vs : List Value) (cs : Array Value) (h : cs.size = vs.length) : putA cs 0 vs = vs.toArray := by
  apply Array.ext
  · rw [putA_size, h]; simp
  · intro i h1 h2
    rw [putA_size, h] at h1
    have := putA_in vs 0 cs i vs[i] (by omega) (List.getElem?_eq_getElem h1)
    rw [Nat.zero_add] at this
    rw [Array.getElem?_eq_some_iff] at this
    obtain ⟨_, e⟩ := this
    rw [e]; simp
theorem setCells_block (b : Nat) : ∀ (vs : List Value) (o : Nat) (w : World) (cs : Array Value) (t : TypeId) (fz : Nat × Nat), w.heap[b]? = some (.cells cs t fz) → (w.setCells b o vs).heap[b]? = some (.cells (putA cs o vs) t fz)
  | [], _, _, _, _, _, h => h
  | v :: r, o, w, cs, t, fz, h => setCells_block b r (o + 1) (w.setCell ⟨b, o, none⟩ v) _ t fz (setCell_block v h)
theorem setCells_kept (b : Nat) (vs : List Value) (o : Nat) (w : World) : Kept [b] w (w.setCells b o vs) :=
  (Kept.refl [b] w).grown (Rw.grown_setCells b vs o w) (fun k e => .inl (by cases e; simp))
theorem there_of {w : World} {b : Nat} {cs : Array Value} {t : TypeId} (h : w.heap[b]? = some (.cells cs t (0, 0))) {n : Nat} (hn : n = cs.size) : w.there b 0 n := fun j hj =>
  ⟨by rw [Nat.zero_add, cell_at h j, Array.getElem?_eq_getElem (by omega)]; rfl, by rw [Nat.zero_add]; exact frozen_of_row _ _ _ _ _ h⟩
theorem range_of {w : World} {b : Nat} {cs : Array Value} {t : TypeId} {fz : Nat × Nat} (h : w.heap[b]? = some (.cells cs t fz)) : w.rangeAt b 0 cs.toList := fun j v hv => by
  rw [Nat.zero_add, cell_at h j]; simpa using hv

section
variable {P : Program} {ops : Array Oper} {o : Oper} {a : Act} {w : World} {Q : Exit → Act → World → Prop}
/-- As a step of a region that draws its order. -/
theorem step_put {K : Act → World → Prop} {Ee : Prop} (hgd : o.guard = none) (ty : TypeId) (x y : Operand) (ho : o.op = .store ty x y) (b : Nat) (cells cs0 : Array Value) (t0 : TypeId)
    (hx : a.eval x = .pointer (some ⟨b, 0, none⟩)) (hy : a.eval y = .agg cells) (hb : w.heap[b]? = some (.cells cs0 t0 (0, 0))) (hsz : cells.size = cs0.size) (hi : (P.info? ty).map (·.size) = some cells.size) (h1 : cells.all (·.oneCell') = true)
    (hK : ∀ w2, Hid (w2.heap[b]? = some (.cells cells t0 (0, 0))) → Hid (Kept [b] w w2) → K (a.put o.dst undef) w2) :
    if Region.wanted o (yielded ops a.tmps) = true then Oper.wp P o a w K Q else Ee := by
  have hw : Region.wanted o (yielded ops a.tmps) = true := by simp [Region.wanted, hgd]
  rw [if_pos hw]
  refine wp_store_mid ty x y ho b 0 cells hx hy (there_of hb hsz) hi h1 ?_
  refine hK _ (Lib.hid ?_) (Lib.hid (setCells_kept b _ 0 w))
  rw [setCells_block b _ 0 w _ _ _ hb, putA_all _ _ (by rw [← hsz]; simp)]
/-- As a step of a walk. -/
theorem wl_put {rest : List Oper} (hgd : o.guard = none) (ty : TypeId) (x y : Operand) (ho : o.op = .store ty x y) (b : Nat) (cells cs0 : Array Value) (t0 : TypeId)
    (hx : a.eval x = .pointer (some ⟨b, 0, none⟩)) (hy : a.eval y = .agg cells) (hb : w.heap[b]? = some (.cells cs0 t0 (0, 0))) (hsz : cells.size = cs0.size) (hi : (P.info? ty).map (·.size) = some cells.size) (h1 : cells.all (·.oneCell') = true)
    (hK : ∀ w2, Hid (w2.heap[b]? = some (.cells cells t0 (0, 0))) → Hid (Kept [b] w w2) → wpList P ops Q rest (a.put o.dst undef) w2) : wpList P ops Q (o :: rest) a w := by
  refine wpList_step fun K hK2 => ?_
  exact step_put hgd ty x y ho b cells cs0 t0 hx hy hb hsz hi h1 (fun w2 h2 h3 => hK2 _ _ (hK w2 h2 h3))
/-- A whole struct is loaded. -/
theorem step_get {K : Act → World → Prop} {Ee : Prop} (hgd : o.guard = none) (ty : TypeId) (x : Operand) (ho : o.op = .load ty x) (b : Nat) (cells : Array Value) (t0 : TypeId) (fz : Nat × Nat) (d : TypeDesc)
    (hx : a.eval x = .pointer (some ⟨b, 0, none⟩)) (hb : w.heap[b]? = some (.cells cells t0 fz)) (hu : P.underlying ty = some d) (hd : d.isRow = true) (hi : (P.info? ty).map (·.size) = some cells.size)
    (hK : K (a.put o.dst (.agg cells)) w) :
    if Region.wanted o (yielded ops a.tmps) = true then Oper.wp P o a w K Q else Ee := by
  have hw : Region.wanted o (yielded ops a.tmps) = true := by simp [Region.wanted, hgd]
  rw [if_pos hw]
  refine wp_load_mid ty x ho b 0 hx cells.toList d (range_of hb) hu hd (by simpa using hi) ?_
  simpa using hK
theorem wl_get {rest : List Oper} (hgd : o.guard = none) (ty : TypeId) (x : Operand) (ho : o.op = .load ty x) (b : Nat) (cells : Array Value) (t0 : TypeId) (fz : Nat × Nat) (d : TypeDesc)
    (hx : a.eval x = .pointer (some ⟨b, 0, none⟩)) (hb : w.heap[b]? = some (.cells cells t0 fz)) (hu : P.underlying ty = some d) (hd : d.isRow = true) (hi : (P.info? ty).map (·.size) = some cells.size)
    (hK : wpList P ops Q rest (a.put o.dst (.agg cells)) w) : wpList P ops Q (o :: rest) a w := by
  refine wpList_step fun K hK2 => ?_
  exact step_get hgd ty x ho b cells t0 fz d hx hb hu hd hi (hK2 _ _ hK)
end
end Pt
end Go.Proofs.YtglhdlkmgmbgeaaDoor

namespace Go.Proofs.YtglhdlkmgmbgeaaDoor
open Go.RowKit
open Arg Mem Go.Proofs.YtglhdlkmgmbgeaaDoor.Obj
set_option linter.unusedVariables false
/-- What is left of a row behind its first elements. -/
theorem qrow_from {α : Type} {E : Rw.Enc α} {w : World} {a : Option Addr} {cap : Nat} {l : List α} (h : Rw.QRow E w a cap l) (k : Nat) (hk : k ≤ l.length) : Rw.QRow E w (Sl.adOf a cap k E.k) (cap - k) (l.drop k) := by
  have hle := h.le
  have hmx := h.max
  rw [Sl.adOf]
  split
  · rename_i hc
    have hl : l.drop k = [] := List.drop_eq_nil_of_le (by omega)
    rw [hl]
    exact ⟨Nat.zero_le _, by unfold maxLen; omega, fun _ => by omega, fun ad e => by
      obtain ⟨b, off, e1, h1, h2, h3⟩ := h.lies ad e
      exact ⟨b, off, e1, h1, fun i hi => by simp at hi, fun j hj => h3 j (Nat.lt_of_lt_of_le hj (Nat.mul_le_mul_right _ (by omega)))⟩⟩
  · rename_i hc
    refine ⟨by rw [List.length_drop]; omega, by omega, fun e => ?_, fun ad e => ?_⟩
    · rw [Option.map_eq_none_iff] at e; have := h.nil e; omega
    · rw [Option.map_eq_some_iff] at e
      obtain ⟨ad2, e1, e2⟩ := e
      obtain ⟨b, off, rfl, h1, h2, h3⟩ := h.lies ad2 e1
      refine ⟨b, off + k * E.k, by rw [← e2]; simp [Addr.add], h1, fun i hi r v hv => ?_, fun j hj => ?_⟩
      · rw [List.getElem_drop] at hv
        have := h2 (k + i) (by rw [List.length_drop] at hi; omega) r v hv
        rwa [Nat.add_mul, ← Nat.add_assoc] at this
      · have hlt : k * E.k + j < cap * E.k := by
          have : k * E.k + (cap - k) * E.k = cap * E.k := by rw [← Nat.add_mul]; congr 1; omega
          omega
        have := h3 (k * E.k + j) hlt
        rwa [← Nat.add_assoc] at this
theorem adOf_block {a : Option Addr} {cap k s : Nat} {b o : Nat} {s2 : Option Nat} (e : Sl.adOf a cap k s = some ⟨b, o, s2⟩) : ∃ o' s', a = some ⟨b, o', s'⟩ := by
  rw [Sl.adOf] at e
  split at e
  · exact ⟨o, s2, e⟩
  · rw [Option.map_eq_some_iff] at e
    obtain ⟨⟨b2, o2, s3⟩, e1, e2⟩ := e
    have : b2 = b := by unfold Addr.add at e2; split at e2 <;> simp_all
    subst this
    exact ⟨o2, s3, e1⟩

/-- 'append(q, l...)' in a round. -/
theorem wlIn_que {F : Fence} {n : Nat} {P : Program} {w : World} {ops : Array Oper} {rest : List Oper} {o : Oper} {a : Act} {Q : Exit → Act → World → Prop} {t e : TypeId} {i : TypeInfo} {z : Value} {by' : Nat} {α : Type} (E : Rw.Enc α)
    (hg : o.guard = none) (s x : Operand) (hop : o.op = Op.call { callee := Callee.builtin Builtin.append, args := #[s, x], argTypes := #[t, t] })
    (ht : P.underlying t = some (.slice e)) (hi : P.info? e = some i) (hz : i.zero = some z) (hsize : i.size = E.k) (hby : i.bytes = by') (hzs : z.cells.size = E.k)
    (ad : Option Addr) (k cap : Nat) (l : List α) (hs : a.eval s = .slice ad k cap) (hk : k = l.length) (h : Rw.QRow E w ad cap l)
    (a2 : Addr) (m : Nat) (l2 : List α) (c : Nat) (hx : a.eval x = .slice (some a2) m c) (hm : m = l2.length) (hr : Rw.RowE E w (some a2) l2) (hlen : k + m ≤ maxLen) (hbytes : (k + m) * by' ≤ 140737488355328)
    (hK : ∀ (ad' : Option Addr) (cap' : Nat) w', Hid (Rw.QRow E w' ad' cap' (l ++ l2)) → Hid (w.grownBy w' (ad.map (·.block))) → Hid (∀ b o s, ad' = some ⟨b, o, s⟩ → (∃ o', ad = some ⟨b, o', .none⟩) ∨ w.heap.size ≤ b) → wpListIn F n P ops Q rest (a.put o.dst (.slice ad' (k + m) cap')) w') :
    wpListIn F n P ops Q (o :: rest) a w := by
  subst hk hm
  refine wpListIn_plain hg fun K hK' => ?_
  obtain ⟨ad', cap', w', hrun, h1, h2, h3⟩ := Rw.run_append_que (P := P) E w o.type ht hi hz hsize hby hzs ad cap l h a2 c l2 hr hlen hbytes
  unfold Oper.wpIn
  refine ⟨?_, ?_⟩
  · simp [Oper.about, hop, resolve, Target.leads, Sem.run_pure]
  · rw [Oper.semAt_plain F _ _ (by rw [hop]; intro c hc'; cases hc')]
    simp [execOp, hop, resolve, invoke, builtin, hs, hx, hrun, Result.andThen]
    exact hK' _ _ (hK _ _ _ (Lib.hid h1) (Lib.hid h2) (Lib.hid h3))
end Go.Proofs.YtglhdlkmgmbgeaaDoor

namespace Go.Proofs.YtglhdlkmgmbgeaaDoor
open Go.RowKit
open Cho Fra Oct Arg Mem Gen Wr Qu Pt Go.Proofs.YtglhdlkmgmbgeaaDoor.Obj
set_option linter.unusedVariables false
set_option linter.unusedSimpArgs false

theorem frC_one (f : FrM) (sa : Option Addr) (sc : Nat) : (frC f sa sc).all (·.oneCell') = true := by simp [frC, Value.oneCell']
def faC (x : FaM) : Array Value := #[.bool x.is, .int .i64 x.code, .int .i64 x.stream]
theorem faC_one (x : FaM) : (faC x).all (·.oneCell') = true := by simp [faC, Value.oneCell']
theorem size_frame : (Tryd.prog.info? 40).map (·.size) = some 12 := by kernel_rfl
theorem size_fault : (Tryd.prog.info? 37).map (·.size) = some 3 := by kernel_rfl
theorem size_item : (Tryd.prog.info? 42).map (·.size) = some 15 := by kernel_rfl

end Go.Proofs.YtglhdlkmgmbgeaaDoor

namespace Go.Proofs.YtglhdlkmgmbgeaaDoor
open Go.RowKit
open Cho Fra Oct Arg Mem Gen Wr Qu Pt Go.Proofs.YtglhdlkmgmbgeaaDoor.Obj
set_option linter.unusedVariables false
set_option linter.unusedSimpArgs false

theorem ok_keep {f : FrM} {sa : Option Addr} {sc : Nat} {w w' : World} {L : List Nat} (h : FrOk f sa sc w) (hk : Kept L w w') (hn : ∀ b o s, f.sets ≠ [] → sa = some ⟨b, o, s⟩ → b ∉ L) : FrOk f sa sc w' := by
  by_cases hs : f.sets = []
  · exact ⟨.inl hs, h.len, h.cap⟩
  · exact ⟨row_kept h.row hk (fun b o s e => hn b o s hs e), h.len, h.cap⟩
/-- A frame's settings don't lie in this block. -/
def ApS (f : FrM) (sa : Option Addr) (g : Nat) : Prop := ∀ b o s, f.sets ≠ [] → sa = some ⟨b, o, s⟩ → b ≠ g
theorem sa_lt {f : FrM} {sa : Option Addr} {sc : Nat} {w : World} (h : FrOk f sa sc w) (hs : f.sets ≠ []) {b o : Nat} {s : Option Nat} (e : sa = some ⟨b, o, s⟩) : b < w.heap.size := by
  rcases h.row with h | ⟨b2, off, e2, hc⟩
  · exact absurd h hs
  · rw [e] at e2
    simp only [Option.some.injEq, Addr.mk.injEq] at e2
    obtain ⟨rfl, _⟩ := e2
    exact World.block_lt_of_cell? w _ (hc 0 (List.length_pos_iff.mpr hs) 0 _ rfl)
def opsOf : Code → Array Oper
  | .region _ o _ => o
  | _ => #[]

set_option maxRecDepth 100000 in
set_option maxHeartbeats 1000000 in
theorem nx3_111 {Q : Exit → Act → World → Prop} {fb ib n lc N : Nat} {la : Option Addr} {most : Int} {f : FrM} {x : FaM} {w : World} (c0 : w.cell? ⟨fb, 0, none⟩ = some (.int .i64 most)) (c2 : w.cell? ⟨fb, 2, none⟩ = some (.slice la n lc))
    (HC : Hid (∀ v, Below w.heap.size w v → Calls Tryd.prog 34 #[.slice la n lc, .int .i64 most] v fun e w' => ∃ sa sc, e = .returned (.tuple #[.agg (frC f sa sc), .int .i64 N, .agg (faC x)]) ∧ FrOk f sa sc w' ∧ Below v.heap.size v w' ∧ ∀ b o s, sa = some ⟨b, o, s⟩ → v.heap.size ≤ b))
    (hQ : Hid (∀ a' w' gb xb sa sc, Fr.Is 55 [(0, .pointer (some ⟨fb, 0, none⟩)), (2, .pointer (some ⟨ib, 0, none⟩)), (4, .pointer (some ⟨gb, 0, none⟩)), (5, .int .i64 N), (6, .pointer (some ⟨xb, 0, none⟩))] a' → w'.heap[gb]? = some (.cells (frC f sa sc) 40 (0, 0)) → w'.heap[xb]? = some (.cells (faC x) 37 (0, 0)) → Below w.heap.size w w' → w.heap.size ≤ gb → w.heap.size ≤ xb → FrOk f sa sc w' → (∀ b o s, sa = some ⟨b, o, s⟩ → w.heap.size ≤ b) → Q .normal a' w'))
    (a : Act) (v : World) (hb : Below w.heap.size w v) {gb : Nat} (hA : v.heap[gb]? = some (.cells #[.int .i64 0, .int .i64 0, .int .i64 0, .string ⟨#[]⟩, .int .i64 0, .slice none 0 0, .int .i64 0, .int .i64 0, .int .i64 0, .int .i64 0, .int .i64 0, .bool false] 40 (0, 0))) (lA : w.heap.size ≤ gb) {xb : Nat} (hX : v.heap[xb]? = some (.cells #[.bool false, .int .i64 0, .int .i64 0] 37 (0, 0))) (lX : w.heap.size ≤ xb) (hne : gb ≠ xb) {sa : Option Addr} {sc : Nat} (ok : FrOk f sa sc v) (hnw : ∀ b o s, sa = some ⟨b, o, s⟩ → w.heap.size ≤ b) (sA : ApS f sa gb) (sX : ApS f sa xb)
    (ha : Fr.Is 55 [(0, .pointer (some ⟨fb, 0, none⟩)), (2, .pointer (some ⟨ib, 0, none⟩)), (4, .pointer (some ⟨gb, 0, none⟩)), (6, .pointer (some ⟨xb, 0, none⟩)), (19, .slice la n lc), (23, .int .i64 most), (25, .agg (frC f sa sc)), (26, .int .i64 N), (27, .agg (faC x))] a) :
    wpAnyH Tryd.prog .any (opsOf (Fr.reg Tryd.f28 3)) (NoPanic Q) (fun w' => w'.cell? ⟨fb, 0, none⟩ = some (.int .i64 most) ∧ w'.cell? ⟨fb, 2, none⟩ = some (.slice la n lc)) 3 #[true, true, true, true, true, true, true, true, true, true, true, true, true, true, true, false, false, false] a v := by
  obtain ⟨fr, rfl, hfr⟩ := ha.lit
  simp only [List.map_cons, List.map_nil, List.cons.injEq, and_true] at hfr
  conv => arg 3; whnf
  simp only [List.range, List.range.loop, List.map_cons, List.map_nil, hfr]
  clear hfr ha
  have hHeld : (fun w' => w'.cell? ⟨fb, 0, none⟩ = some (.int .i64 most) ∧ w'.cell? ⟨fb, 2, none⟩ = some (.slice la n lc)) v := ⟨below_cell hb c0, below_cell hb c2⟩
  dsimp only at hHeld
  refine wpAnyH_ready (rs := [15]) (by kernel_rfl) (by simp) ?_
  refine AllReadyH.cons (o := _) rfl (fun K' hK' => ?_) AllReadyH.nil
  refine step_put rfl 40 (.tmp 4) (.tmp 25) rfl gb (frC f sa sc) _ 40 rfl rfl hA rfl size_frame (frC_one _ _ _) ?_
  intro w2 hf2 hk2
  have hB2 := Kept.below (B := w.heap.size) hb hk2.out (by simp; omega) hb.size
  have hX2 := hk2.out.at hX (by simp; exact fun e => hne e.symm)
  have ok2 := ok_keep ok hk2.out (fun b o s hs e => by simp; exact sA b o s hs e)
  refine hK'.out _ _ ⟨below_cell hB2 c0, below_cell hB2 c2⟩ (fun hHeld => ?_)
  try simp only [Act.put, List.setIfInBounds_toArray, List.set_cons_zero, List.set_cons_succ]
  refine wpAnyH_take (i := 16) (oi := _) (v := ?_) rfl (by kernel_rfl) (by kernel_rfl) (by kernel_rfl) (fun _ _ _ h => h) (Or.inl ⟨by rfl, ?_⟩) (by assumption) ?_
  rotate_left 1
  · intro w hSw
    try dsimp only at hSw
    first | (go_simp; done) | (go_simp; with_reducible rfl)
  try simp only [Act.put, List.setIfInBounds_toArray, List.set_cons_zero, List.set_cons_succ]
  refine wpAnyH_ready (rs := [17]) (by kernel_rfl) (by simp) ?_
  refine AllReadyH.cons (o := _) rfl (fun K' hK' => ?_) AllReadyH.nil
  refine step_put rfl 37 (.tmp 6) (.tmp 27) rfl xb (faC x) _ 37 rfl rfl hX2 rfl size_fault (faC_one _) ?_
  intro w3 hf3 hk3
  have hB3 := Kept.below (B := w.heap.size) hB2 hk3.out (by simp; omega) hB2.size
  have ok3 := ok_keep ok2 hk3.out (fun b o s hs e => by simp; exact sX b o s hs e)
  refine hK'.out _ _ ⟨below_cell hB3 c0, below_cell hB3 c2⟩ (fun hHeld => ?_)
  try simp only [Act.put, List.setIfInBounds_toArray, List.set_cons_zero, List.set_cons_succ]
  refine wpAnyH_done (by kernel_rfl) ?_ _
  refine hQ.out _ w3 gb xb sa sc (Fr.Is.mk rfl rfl) (hk3.out.at hf2.out (by simp; exact hne)) hf3.out hB3 lA lX ok3 hnw

set_option maxRecDepth 100000 in
set_option maxHeartbeats 1000000 in
theorem nx3_011 {Q : Exit → Act → World → Prop} {fb ib n lc N : Nat} {la : Option Addr} {most : Int} {f : FrM} {x : FaM} {w : World} (c0 : w.cell? ⟨fb, 0, none⟩ = some (.int .i64 most)) (c2 : w.cell? ⟨fb, 2, none⟩ = some (.slice la n lc))
    (HC : Hid (∀ v, Below w.heap.size w v → Calls Tryd.prog 34 #[.slice la n lc, .int .i64 most] v fun e w' => ∃ sa sc, e = .returned (.tuple #[.agg (frC f sa sc), .int .i64 N, .agg (faC x)]) ∧ FrOk f sa sc w' ∧ Below v.heap.size v w' ∧ ∀ b o s, sa = some ⟨b, o, s⟩ → v.heap.size ≤ b))
    (hQ : Hid (∀ a' w' gb xb sa sc, Fr.Is 55 [(0, .pointer (some ⟨fb, 0, none⟩)), (2, .pointer (some ⟨ib, 0, none⟩)), (4, .pointer (some ⟨gb, 0, none⟩)), (5, .int .i64 N), (6, .pointer (some ⟨xb, 0, none⟩))] a' → w'.heap[gb]? = some (.cells (frC f sa sc) 40 (0, 0)) → w'.heap[xb]? = some (.cells (faC x) 37 (0, 0)) → Below w.heap.size w w' → w.heap.size ≤ gb → w.heap.size ≤ xb → FrOk f sa sc w' → (∀ b o s, sa = some ⟨b, o, s⟩ → w.heap.size ≤ b) → Q .normal a' w'))
    (a : Act) (v : World) (hb : Below w.heap.size w v) {gb : Nat} (hA : v.heap[gb]? = some (.cells #[.int .i64 0, .int .i64 0, .int .i64 0, .string ⟨#[]⟩, .int .i64 0, .slice none 0 0, .int .i64 0, .int .i64 0, .int .i64 0, .int .i64 0, .int .i64 0, .bool false] 40 (0, 0))) (lA : w.heap.size ≤ gb) {xb : Nat} (hX : v.heap[xb]? = some (.cells #[.bool false, .int .i64 0, .int .i64 0] 37 (0, 0))) (lX : w.heap.size ≤ xb) (hne : gb ≠ xb)
    (ha : Fr.Is 55 [(0, .pointer (some ⟨fb, 0, none⟩)), (2, .pointer (some ⟨ib, 0, none⟩)), (4, .pointer (some ⟨gb, 0, none⟩)), (6, .pointer (some ⟨xb, 0, none⟩)), (19, .slice la n lc), (23, .int .i64 most)] a) :
    wpAnyH Tryd.prog .any (opsOf (Fr.reg Tryd.f28 3)) (NoPanic Q) (fun w' => w'.cell? ⟨fb, 0, none⟩ = some (.int .i64 most) ∧ w'.cell? ⟨fb, 2, none⟩ = some (.slice la n lc)) 8 #[true, true, true, true, true, true, true, true, false, false, false, false, false, true, true, false, false, false] a v := by
  obtain ⟨fr, rfl, hfr⟩ := ha.lit
  simp only [List.map_cons, List.map_nil, List.cons.injEq, and_true] at hfr
  conv => arg 3; whnf
  simp only [List.range, List.range.loop, List.map_cons, List.map_nil, hfr]
  clear hfr ha
  have hHeld : (fun w' => w'.cell? ⟨fb, 0, none⟩ = some (.int .i64 most) ∧ w'.cell? ⟨fb, 2, none⟩ = some (.slice la n lc)) v := ⟨below_cell hb c0, below_cell hb c2⟩
  dsimp only at hHeld
  refine wpAnyH_ready (rs := [8]) (by kernel_rfl) (by simp) ?_
  refine AllReadyH.cons (o := _) rfl (fun K' hK' => ?_) ?_
  · go_simp
    refine (HC.out _ hb).mono ?_; rintro e v2 ⟨sa, sc, rfl, ok, b12, hnw⟩
    have hb2 := below_step hb b12
    have hlt : ∀ b o s, sa = some ⟨b, o, s⟩ → v.heap.size ≤ b := hnw
    refine hK'.out _ _ ⟨below_cell hb2 c0, below_cell hb2 c2⟩ (fun hHeld => ?_)
    try simp only [Act.put, List.setIfInBounds_toArray, List.set_cons_zero, List.set_cons_succ]
    refine wpAnyH_take (i := 9) (oi := _) (v := ?_) rfl (by kernel_rfl) (by kernel_rfl) (by kernel_rfl) (fun _ _ _ h => h) (Or.inl ⟨by rfl, ?_⟩) (by assumption) ?_
    rotate_left 1
    · intro w hSw
      try dsimp only at hSw
      first | (go_simp; done) | (go_simp; with_reducible rfl)
    try simp only [Act.put, List.setIfInBounds_toArray, List.set_cons_zero, List.set_cons_succ]
    refine wpAnyH_take (i := 10) (oi := _) (v := ?_) rfl (by kernel_rfl) (by kernel_rfl) (by kernel_rfl) (fun _ _ _ h => h) (Or.inl ⟨by rfl, ?_⟩) (by assumption) ?_
    rotate_left 1
    · intro w hSw
      try dsimp only at hSw
      first | (go_simp; done) | (go_simp; with_reducible rfl)
    try simp only [Act.put, List.setIfInBounds_toArray, List.set_cons_zero, List.set_cons_succ]
    refine wpAnyH_take (i := 11) (oi := _) (v := ?_) rfl (by kernel_rfl) (by kernel_rfl) (by kernel_rfl) (fun _ _ _ h => h) (Or.inl ⟨by rfl, ?_⟩) (by assumption) ?_
    rotate_left 1
    · intro w hSw
      try dsimp only at hSw
      first | (go_simp; done) | (go_simp; with_reducible rfl)
    try simp only [Act.put, List.setIfInBounds_toArray, List.set_cons_zero, List.set_cons_succ]
    refine wpAnyH_take (i := 12) (oi := _) (v := ?_) rfl (by kernel_rfl) (by kernel_rfl) (by kernel_rfl) (fun _ _ _ h => h) (Or.inl ⟨by rfl, ?_⟩) (by assumption) ?_
    rotate_left 1
    · intro w hSw
      try dsimp only at hSw
      first | (go_simp; done) | (go_simp; with_reducible rfl)
    try simp only [Act.put, List.setIfInBounds_toArray, List.set_cons_zero, List.set_cons_succ]
    exact nx3_111 c0 c2 HC hQ _ _ hb2 (block_below b12 hA) lA (block_below b12 hX) lX hne ok (fun b o s e => by have h1 := hlt b o s e; have h2 := hb.size; omega) (fun b o s _ e => by have h1 := hlt b o s e; have h2 := (Array.getElem?_eq_some_iff.1 hA).1; omega) (fun b o s _ e => by have h1 := hlt b o s e; have h2 := (Array.getElem?_eq_some_iff.1 hX).1; omega) (Fr.Is.mk rfl rfl)
  exact AllReadyH.nil

set_option maxRecDepth 100000 in
set_option maxHeartbeats 1000000 in
theorem nx3_101 {Q : Exit → Act → World → Prop} {fb ib n lc N : Nat} {la : Option Addr} {most : Int} {f : FrM} {x : FaM} {w : World} (c0 : w.cell? ⟨fb, 0, none⟩ = some (.int .i64 most)) (c2 : w.cell? ⟨fb, 2, none⟩ = some (.slice la n lc))
    (HC : Hid (∀ v, Below w.heap.size w v → Calls Tryd.prog 34 #[.slice la n lc, .int .i64 most] v fun e w' => ∃ sa sc, e = .returned (.tuple #[.agg (frC f sa sc), .int .i64 N, .agg (faC x)]) ∧ FrOk f sa sc w' ∧ Below v.heap.size v w' ∧ ∀ b o s, sa = some ⟨b, o, s⟩ → v.heap.size ≤ b))
    (hQ : Hid (∀ a' w' gb xb sa sc, Fr.Is 55 [(0, .pointer (some ⟨fb, 0, none⟩)), (2, .pointer (some ⟨ib, 0, none⟩)), (4, .pointer (some ⟨gb, 0, none⟩)), (5, .int .i64 N), (6, .pointer (some ⟨xb, 0, none⟩))] a' → w'.heap[gb]? = some (.cells (frC f sa sc) 40 (0, 0)) → w'.heap[xb]? = some (.cells (faC x) 37 (0, 0)) → Below w.heap.size w w' → w.heap.size ≤ gb → w.heap.size ≤ xb → FrOk f sa sc w' → (∀ b o s, sa = some ⟨b, o, s⟩ → w.heap.size ≤ b) → Q .normal a' w'))
    (a : Act) (v : World) (hb : Below w.heap.size w v) {xb : Nat} (hX : v.heap[xb]? = some (.cells #[.bool false, .int .i64 0, .int .i64 0] 37 (0, 0))) (lX : w.heap.size ≤ xb) {sa : Option Addr} {sc : Nat} (ok : FrOk f sa sc v) (hnw : ∀ b o s, sa = some ⟨b, o, s⟩ → w.heap.size ≤ b) (sX : ApS f sa xb)
    (ha : Fr.Is 55 [(0, .pointer (some ⟨fb, 0, none⟩)), (2, .pointer (some ⟨ib, 0, none⟩)), (6, .pointer (some ⟨xb, 0, none⟩)), (19, .slice la n lc), (23, .int .i64 most), (25, .agg (frC f sa sc)), (26, .int .i64 N), (27, .agg (faC x))] a) :
    wpAnyH Tryd.prog .any (opsOf (Fr.reg Tryd.f28 3)) (NoPanic Q) (fun w' => w'.cell? ⟨fb, 0, none⟩ = some (.int .i64 most) ∧ w'.cell? ⟨fb, 2, none⟩ = some (.slice la n lc)) 4 #[true, true, true, true, true, true, true, true, true, true, true, true, true, false, true, false, false, false] a v := by
  obtain ⟨fr, rfl, hfr⟩ := ha.lit
  simp only [List.map_cons, List.map_nil, List.cons.injEq, and_true] at hfr
  conv => arg 3; whnf
  simp only [List.range, List.range.loop, List.map_cons, List.map_nil, hfr]
  clear hfr ha
  have hHeld : (fun w' => w'.cell? ⟨fb, 0, none⟩ = some (.int .i64 most) ∧ w'.cell? ⟨fb, 2, none⟩ = some (.slice la n lc)) v := ⟨below_cell hb c0, below_cell hb c2⟩
  dsimp only at hHeld
  refine wpAnyH_ready (rs := [13]) (by kernel_rfl) (by simp) ?_
  refine AllReadyH.cons (o := _) rfl (fun K' hK' => ?_) ?_
  · go_simp
    have b12 : Below v.heap.size v (v.alloc (.cells #[.int .i64 0, .int .i64 0, .int .i64 0, .string ⟨#[]⟩, .int .i64 0, .slice none 0 0, .int .i64 0, .int .i64 0, .int .i64 0, .int .i64 0, .int .i64 0, .bool false] 40)) := bel_al _ _
    have hb2 := below_step hb b12
    have hN : (v.alloc (.cells #[.int .i64 0, .int .i64 0, .int .i64 0, .string ⟨#[]⟩, .int .i64 0, .slice none 0 0, .int .i64 0, .int .i64 0, .int .i64 0, .int .i64 0, .int .i64 0, .bool false] 40)).heap[v.heap.size]? = some (.cells #[.int .i64 0, .int .i64 0, .int .i64 0, .string ⟨#[]⟩, .int .i64 0, .slice none 0 0, .int .i64 0, .int .i64 0, .int .i64 0, .int .i64 0, .int .i64 0, .bool false] 40 (0, 0)) := heap_alloc_new _ _
    have lN := hb.size
    have gX := (Array.getElem?_eq_some_iff.1 hX).1
    refine hK'.out _ _ ⟨below_cell hb2 c0, below_cell hb2 c2⟩ (fun hHeld => ?_)
    try simp only [Act.put, List.setIfInBounds_toArray, List.set_cons_zero, List.set_cons_succ]
    exact nx3_111 c0 c2 HC hQ _ _ hb2 hN lN (block_below b12 hX) lX (by omega) (ok.below b12) hnw (fun b o s hs e => by have h1 := sa_lt ok hs e; omega) sX (Fr.Is.mk rfl rfl)
  exact AllReadyH.nil

set_option maxRecDepth 100000 in
set_option maxHeartbeats 1000000 in
theorem nx3_110 {Q : Exit → Act → World → Prop} {fb ib n lc N : Nat} {la : Option Addr} {most : Int} {f : FrM} {x : FaM} {w : World} (c0 : w.cell? ⟨fb, 0, none⟩ = some (.int .i64 most)) (c2 : w.cell? ⟨fb, 2, none⟩ = some (.slice la n lc))
    (HC : Hid (∀ v, Below w.heap.size w v → Calls Tryd.prog 34 #[.slice la n lc, .int .i64 most] v fun e w' => ∃ sa sc, e = .returned (.tuple #[.agg (frC f sa sc), .int .i64 N, .agg (faC x)]) ∧ FrOk f sa sc w' ∧ Below v.heap.size v w' ∧ ∀ b o s, sa = some ⟨b, o, s⟩ → v.heap.size ≤ b))
    (hQ : Hid (∀ a' w' gb xb sa sc, Fr.Is 55 [(0, .pointer (some ⟨fb, 0, none⟩)), (2, .pointer (some ⟨ib, 0, none⟩)), (4, .pointer (some ⟨gb, 0, none⟩)), (5, .int .i64 N), (6, .pointer (some ⟨xb, 0, none⟩))] a' → w'.heap[gb]? = some (.cells (frC f sa sc) 40 (0, 0)) → w'.heap[xb]? = some (.cells (faC x) 37 (0, 0)) → Below w.heap.size w w' → w.heap.size ≤ gb → w.heap.size ≤ xb → FrOk f sa sc w' → (∀ b o s, sa = some ⟨b, o, s⟩ → w.heap.size ≤ b) → Q .normal a' w'))
    (a : Act) (v : World) (hb : Below w.heap.size w v) {gb : Nat} (hA : v.heap[gb]? = some (.cells #[.int .i64 0, .int .i64 0, .int .i64 0, .string ⟨#[]⟩, .int .i64 0, .slice none 0 0, .int .i64 0, .int .i64 0, .int .i64 0, .int .i64 0, .int .i64 0, .bool false] 40 (0, 0))) (lA : w.heap.size ≤ gb) {sa : Option Addr} {sc : Nat} (ok : FrOk f sa sc v) (hnw : ∀ b o s, sa = some ⟨b, o, s⟩ → w.heap.size ≤ b) (sA : ApS f sa gb)
    (ha : Fr.Is 55 [(0, .pointer (some ⟨fb, 0, none⟩)), (2, .pointer (some ⟨ib, 0, none⟩)), (4, .pointer (some ⟨gb, 0, none⟩)), (19, .slice la n lc), (23, .int .i64 most), (25, .agg (frC f sa sc)), (26, .int .i64 N), (27, .agg (faC x))] a) :
    wpAnyH Tryd.prog .any (opsOf (Fr.reg Tryd.f28 3)) (NoPanic Q) (fun w' => w'.cell? ⟨fb, 0, none⟩ = some (.int .i64 most) ∧ w'.cell? ⟨fb, 2, none⟩ = some (.slice la n lc)) 4 #[true, true, true, true, true, true, true, true, true, true, true, true, true, true, false, false, false, false] a v := by
  obtain ⟨fr, rfl, hfr⟩ := ha.lit
  simp only [List.map_cons, List.map_nil, List.cons.injEq, and_true] at hfr
  conv => arg 3; whnf
  simp only [List.range, List.range.loop, List.map_cons, List.map_nil, hfr]
  clear hfr ha
  have hHeld : (fun w' => w'.cell? ⟨fb, 0, none⟩ = some (.int .i64 most) ∧ w'.cell? ⟨fb, 2, none⟩ = some (.slice la n lc)) v := ⟨below_cell hb c0, below_cell hb c2⟩
  dsimp only at hHeld
  refine wpAnyH_ready (rs := [14]) (by kernel_rfl) (by simp) ?_
  refine AllReadyH.cons (o := _) rfl (fun K' hK' => ?_) ?_
  · go_simp
    have b12 : Below v.heap.size v (v.alloc (.cells #[.bool false, .int .i64 0, .int .i64 0] 37)) := bel_al _ _
    have hb2 := below_step hb b12
    have hN : (v.alloc (.cells #[.bool false, .int .i64 0, .int .i64 0] 37)).heap[v.heap.size]? = some (.cells #[.bool false, .int .i64 0, .int .i64 0] 37 (0, 0)) := heap_alloc_new _ _
    have lN := hb.size
    have gA := (Array.getElem?_eq_some_iff.1 hA).1
    refine hK'.out _ _ ⟨below_cell hb2 c0, below_cell hb2 c2⟩ (fun hHeld => ?_)
    try simp only [Act.put, List.setIfInBounds_toArray, List.set_cons_zero, List.set_cons_succ]
    exact nx3_111 c0 c2 HC hQ _ _ hb2 (block_below b12 hA) lA hN lN (by omega) (ok.below b12) hnw sA (fun b o s hs e => by have h1 := sa_lt ok hs e; omega) (Fr.Is.mk rfl rfl)
  exact AllReadyH.nil

set_option maxRecDepth 100000 in
set_option maxHeartbeats 1000000 in
theorem nx3_001 {Q : Exit → Act → World → Prop} {fb ib n lc N : Nat} {la : Option Addr} {most : Int} {f : FrM} {x : FaM} {w : World} (c0 : w.cell? ⟨fb, 0, none⟩ = some (.int .i64 most)) (c2 : w.cell? ⟨fb, 2, none⟩ = some (.slice la n lc))
    (HC : Hid (∀ v, Below w.heap.size w v → Calls Tryd.prog 34 #[.slice la n lc, .int .i64 most] v fun e w' => ∃ sa sc, e = .returned (.tuple #[.agg (frC f sa sc), .int .i64 N, .agg (faC x)]) ∧ FrOk f sa sc w' ∧ Below v.heap.size v w' ∧ ∀ b o s, sa = some ⟨b, o, s⟩ → v.heap.size ≤ b))
    (hQ : Hid (∀ a' w' gb xb sa sc, Fr.Is 55 [(0, .pointer (some ⟨fb, 0, none⟩)), (2, .pointer (some ⟨ib, 0, none⟩)), (4, .pointer (some ⟨gb, 0, none⟩)), (5, .int .i64 N), (6, .pointer (some ⟨xb, 0, none⟩))] a' → w'.heap[gb]? = some (.cells (frC f sa sc) 40 (0, 0)) → w'.heap[xb]? = some (.cells (faC x) 37 (0, 0)) → Below w.heap.size w w' → w.heap.size ≤ gb → w.heap.size ≤ xb → FrOk f sa sc w' → (∀ b o s, sa = some ⟨b, o, s⟩ → w.heap.size ≤ b) → Q .normal a' w'))
    (a : Act) (v : World) (hb : Below w.heap.size w v) {xb : Nat} (hX : v.heap[xb]? = some (.cells #[.bool false, .int .i64 0, .int .i64 0] 37 (0, 0))) (lX : w.heap.size ≤ xb)
    (ha : Fr.Is 55 [(0, .pointer (some ⟨fb, 0, none⟩)), (2, .pointer (some ⟨ib, 0, none⟩)), (6, .pointer (some ⟨xb, 0, none⟩)), (19, .slice la n lc), (23, .int .i64 most)] a) :
    wpAnyH Tryd.prog .any (opsOf (Fr.reg Tryd.f28 3)) (NoPanic Q) (fun w' => w'.cell? ⟨fb, 0, none⟩ = some (.int .i64 most) ∧ w'.cell? ⟨fb, 2, none⟩ = some (.slice la n lc)) 9 #[true, true, true, true, true, true, true, true, false, false, false, false, false, false, true, false, false, false] a v := by
  obtain ⟨fr, rfl, hfr⟩ := ha.lit
  simp only [List.map_cons, List.map_nil, List.cons.injEq, and_true] at hfr
  conv => arg 3; whnf
  simp only [List.range, List.range.loop, List.map_cons, List.map_nil, hfr]
  clear hfr ha
  have hHeld : (fun w' => w'.cell? ⟨fb, 0, none⟩ = some (.int .i64 most) ∧ w'.cell? ⟨fb, 2, none⟩ = some (.slice la n lc)) v := ⟨below_cell hb c0, below_cell hb c2⟩
  dsimp only at hHeld
  refine wpAnyH_ready (rs := [8, 13]) (by kernel_rfl) (by simp) ?_
  refine AllReadyH.cons (o := _) rfl (fun K' hK' => ?_) ?_
  · go_simp
    refine (HC.out _ hb).mono ?_; rintro e v2 ⟨sa, sc, rfl, ok, b12, hnw⟩
    have hb2 := below_step hb b12
    have hlt : ∀ b o s, sa = some ⟨b, o, s⟩ → v.heap.size ≤ b := hnw
    refine hK'.out _ _ ⟨below_cell hb2 c0, below_cell hb2 c2⟩ (fun hHeld => ?_)
    try simp only [Act.put, List.setIfInBounds_toArray, List.set_cons_zero, List.set_cons_succ]
    refine wpAnyH_take (i := 9) (oi := _) (v := ?_) rfl (by kernel_rfl) (by kernel_rfl) (by kernel_rfl) (fun _ _ _ h => h) (Or.inl ⟨by rfl, ?_⟩) (by assumption) ?_
    rotate_left 1
    · intro w hSw
      try dsimp only at hSw
      first | (go_simp; done) | (go_simp; with_reducible rfl)
    try simp only [Act.put, List.setIfInBounds_toArray, List.set_cons_zero, List.set_cons_succ]
    refine wpAnyH_take (i := 10) (oi := _) (v := ?_) rfl (by kernel_rfl) (by kernel_rfl) (by kernel_rfl) (fun _ _ _ h => h) (Or.inl ⟨by rfl, ?_⟩) (by assumption) ?_
    rotate_left 1
    · intro w hSw
      try dsimp only at hSw
      first | (go_simp; done) | (go_simp; with_reducible rfl)
    try simp only [Act.put, List.setIfInBounds_toArray, List.set_cons_zero, List.set_cons_succ]
    refine wpAnyH_take (i := 11) (oi := _) (v := ?_) rfl (by kernel_rfl) (by kernel_rfl) (by kernel_rfl) (fun _ _ _ h => h) (Or.inl ⟨by rfl, ?_⟩) (by assumption) ?_
    rotate_left 1
    · intro w hSw
      try dsimp only at hSw
      first | (go_simp; done) | (go_simp; with_reducible rfl)
    try simp only [Act.put, List.setIfInBounds_toArray, List.set_cons_zero, List.set_cons_succ]
    refine wpAnyH_take (i := 12) (oi := _) (v := ?_) rfl (by kernel_rfl) (by kernel_rfl) (by kernel_rfl) (fun _ _ _ h => h) (Or.inl ⟨by rfl, ?_⟩) (by assumption) ?_
    rotate_left 1
    · intro w hSw
      try dsimp only at hSw
      first | (go_simp; done) | (go_simp; with_reducible rfl)
    try simp only [Act.put, List.setIfInBounds_toArray, List.set_cons_zero, List.set_cons_succ]
    exact nx3_101 c0 c2 HC hQ _ _ hb2 (block_below b12 hX) lX ok (fun b o s e => by have h1 := hlt b o s e; have h2 := hb.size; omega) (fun b o s _ e => by have h1 := hlt b o s e; have h2 := (Array.getElem?_eq_some_iff.1 hX).1; omega) (Fr.Is.mk rfl rfl)
  refine AllReadyH.cons (o := _) rfl (fun K' hK' => ?_) ?_
  · go_simp
    have b12 : Below v.heap.size v (v.alloc (.cells #[.int .i64 0, .int .i64 0, .int .i64 0, .string ⟨#[]⟩, .int .i64 0, .slice none 0 0, .int .i64 0, .int .i64 0, .int .i64 0, .int .i64 0, .int .i64 0, .bool false] 40)) := bel_al _ _
    have hb2 := below_step hb b12
    have hN : (v.alloc (.cells #[.int .i64 0, .int .i64 0, .int .i64 0, .string ⟨#[]⟩, .int .i64 0, .slice none 0 0, .int .i64 0, .int .i64 0, .int .i64 0, .int .i64 0, .int .i64 0, .bool false] 40)).heap[v.heap.size]? = some (.cells #[.int .i64 0, .int .i64 0, .int .i64 0, .string ⟨#[]⟩, .int .i64 0, .slice none 0 0, .int .i64 0, .int .i64 0, .int .i64 0, .int .i64 0, .int .i64 0, .bool false] 40 (0, 0)) := heap_alloc_new _ _
    have lN := hb.size
    have gX := (Array.getElem?_eq_some_iff.1 hX).1
    refine hK'.out _ _ ⟨below_cell hb2 c0, below_cell hb2 c2⟩ (fun hHeld => ?_)
    try simp only [Act.put, List.setIfInBounds_toArray, List.set_cons_zero, List.set_cons_succ]
    exact nx3_011 c0 c2 HC hQ _ _ hb2 hN lN (block_below b12 hX) lX (by omega) (Fr.Is.mk rfl rfl)
  exact AllReadyH.nil

set_option maxRecDepth 100000 in
set_option maxHeartbeats 1000000 in
theorem nx3_010 {Q : Exit → Act → World → Prop} {fb ib n lc N : Nat} {la : Option Addr} {most : Int} {f : FrM} {x : FaM} {w : World} (c0 : w.cell? ⟨fb, 0, none⟩ = some (.int .i64 most)) (c2 : w.cell? ⟨fb, 2, none⟩ = some (.slice la n lc))
    (HC : Hid (∀ v, Below w.heap.size w v → Calls Tryd.prog 34 #[.slice la n lc, .int .i64 most] v fun e w' => ∃ sa sc, e = .returned (.tuple #[.agg (frC f sa sc), .int .i64 N, .agg (faC x)]) ∧ FrOk f sa sc w' ∧ Below v.heap.size v w' ∧ ∀ b o s, sa = some ⟨b, o, s⟩ → v.heap.size ≤ b))
    (hQ : Hid (∀ a' w' gb xb sa sc, Fr.Is 55 [(0, .pointer (some ⟨fb, 0, none⟩)), (2, .pointer (some ⟨ib, 0, none⟩)), (4, .pointer (some ⟨gb, 0, none⟩)), (5, .int .i64 N), (6, .pointer (some ⟨xb, 0, none⟩))] a' → w'.heap[gb]? = some (.cells (frC f sa sc) 40 (0, 0)) → w'.heap[xb]? = some (.cells (faC x) 37 (0, 0)) → Below w.heap.size w w' → w.heap.size ≤ gb → w.heap.size ≤ xb → FrOk f sa sc w' → (∀ b o s, sa = some ⟨b, o, s⟩ → w.heap.size ≤ b) → Q .normal a' w'))
    (a : Act) (v : World) (hb : Below w.heap.size w v) {gb : Nat} (hA : v.heap[gb]? = some (.cells #[.int .i64 0, .int .i64 0, .int .i64 0, .string ⟨#[]⟩, .int .i64 0, .slice none 0 0, .int .i64 0, .int .i64 0, .int .i64 0, .int .i64 0, .int .i64 0, .bool false] 40 (0, 0))) (lA : w.heap.size ≤ gb)
    (ha : Fr.Is 55 [(0, .pointer (some ⟨fb, 0, none⟩)), (2, .pointer (some ⟨ib, 0, none⟩)), (4, .pointer (some ⟨gb, 0, none⟩)), (19, .slice la n lc), (23, .int .i64 most)] a) :
    wpAnyH Tryd.prog .any (opsOf (Fr.reg Tryd.f28 3)) (NoPanic Q) (fun w' => w'.cell? ⟨fb, 0, none⟩ = some (.int .i64 most) ∧ w'.cell? ⟨fb, 2, none⟩ = some (.slice la n lc)) 9 #[true, true, true, true, true, true, true, true, false, false, false, false, false, true, false, false, false, false] a v := by
  obtain ⟨fr, rfl, hfr⟩ := ha.lit
  simp only [List.map_cons, List.map_nil, List.cons.injEq, and_true] at hfr
  conv => arg 3; whnf
  simp only [List.range, List.range.loop, List.map_cons, List.map_nil, hfr]
  clear hfr ha
  have hHeld : (fun w' => w'.cell? ⟨fb, 0, none⟩ = some (.int .i64 most) ∧ w'.cell? ⟨fb, 2, none⟩ = some (.slice la n lc)) v := ⟨below_cell hb c0, below_cell hb c2⟩
  dsimp only at hHeld
  refine wpAnyH_ready (rs := [8, 14]) (by kernel_rfl) (by simp) ?_
  refine AllReadyH.cons (o := _) rfl (fun K' hK' => ?_) ?_
  · go_simp
    refine (HC.out _ hb).mono ?_; rintro e v2 ⟨sa, sc, rfl, ok, b12, hnw⟩
    have hb2 := below_step hb b12
    have hlt : ∀ b o s, sa = some ⟨b, o, s⟩ → v.heap.size ≤ b := hnw
    refine hK'.out _ _ ⟨below_cell hb2 c0, below_cell hb2 c2⟩ (fun hHeld => ?_)
    try simp only [Act.put, List.setIfInBounds_toArray, List.set_cons_zero, List.set_cons_succ]
    refine wpAnyH_take (i := 9) (oi := _) (v := ?_) rfl (by kernel_rfl) (by kernel_rfl) (by kernel_rfl) (fun _ _ _ h => h) (Or.inl ⟨by rfl, ?_⟩) (by assumption) ?_
    rotate_left 1
    · intro w hSw
      try dsimp only at hSw
      first | (go_simp; done) | (go_simp; with_reducible rfl)
    try simp only [Act.put, List.setIfInBounds_toArray, List.set_cons_zero, List.set_cons_succ]
    refine wpAnyH_take (i := 10) (oi := _) (v := ?_) rfl (by kernel_rfl) (by kernel_rfl) (by kernel_rfl) (fun _ _ _ h => h) (Or.inl ⟨by rfl, ?_⟩) (by assumption) ?_
    rotate_left 1
    · intro w hSw
      try dsimp only at hSw
      first | (go_simp; done) | (go_simp; with_reducible rfl)
    try simp only [Act.put, List.setIfInBounds_toArray, List.set_cons_zero, List.set_cons_succ]
    refine wpAnyH_take (i := 11) (oi := _) (v := ?_) rfl (by kernel_rfl) (by kernel_rfl) (by kernel_rfl) (fun _ _ _ h => h) (Or.inl ⟨by rfl, ?_⟩) (by assumption) ?_
    rotate_left 1
    · intro w hSw
      try dsimp only at hSw
      first | (go_simp; done) | (go_simp; with_reducible rfl)
    try simp only [Act.put, List.setIfInBounds_toArray, List.set_cons_zero, List.set_cons_succ]
    refine wpAnyH_take (i := 12) (oi := _) (v := ?_) rfl (by kernel_rfl) (by kernel_rfl) (by kernel_rfl) (fun _ _ _ h => h) (Or.inl ⟨by rfl, ?_⟩) (by assumption) ?_
    rotate_left 1
    · intro w hSw
      try dsimp only at hSw
      first | (go_simp; done) | (go_simp; with_reducible rfl)
    try simp only [Act.put, List.setIfInBounds_toArray, List.set_cons_zero, List.set_cons_succ]
    exact nx3_110 c0 c2 HC hQ _ _ hb2 (block_below b12 hA) lA ok (fun b o s e => by have h1 := hlt b o s e; have h2 := hb.size; omega) (fun b o s _ e => by have h1 := hlt b o s e; have h2 := (Array.getElem?_eq_some_iff.1 hA).1; omega) (Fr.Is.mk rfl rfl)
  refine AllReadyH.cons (o := _) rfl (fun K' hK' => ?_) ?_
  · go_simp
    have b12 : Below v.heap.size v (v.alloc (.cells #[.bool false, .int .i64 0, .int .i64 0] 37)) := bel_al _ _
    have hb2 := below_step hb b12
    have hN : (v.alloc (.cells #[.bool false, .int .i64 0, .int .i64 0] 37)).heap[v.heap.size]? = some (.cells #[.bool false, .int .i64 0, .int .i64 0] 37 (0, 0)) := heap_alloc_new _ _
    have lN := hb.size
    have gA := (Array.getElem?_eq_some_iff.1 hA).1
    refine hK'.out _ _ ⟨below_cell hb2 c0, below_cell hb2 c2⟩ (fun hHeld => ?_)
    try simp only [Act.put, List.setIfInBounds_toArray, List.set_cons_zero, List.set_cons_succ]
    exact nx3_011 c0 c2 HC hQ _ _ hb2 (block_below b12 hA) lA hN lN (by omega) (Fr.Is.mk rfl rfl)
  exact AllReadyH.nil

set_option maxRecDepth 100000 in
set_option maxHeartbeats 1000000 in
theorem nx3_100 {Q : Exit → Act → World → Prop} {fb ib n lc N : Nat} {la : Option Addr} {most : Int} {f : FrM} {x : FaM} {w : World} (c0 : w.cell? ⟨fb, 0, none⟩ = some (.int .i64 most)) (c2 : w.cell? ⟨fb, 2, none⟩ = some (.slice la n lc))
    (HC : Hid (∀ v, Below w.heap.size w v → Calls Tryd.prog 34 #[.slice la n lc, .int .i64 most] v fun e w' => ∃ sa sc, e = .returned (.tuple #[.agg (frC f sa sc), .int .i64 N, .agg (faC x)]) ∧ FrOk f sa sc w' ∧ Below v.heap.size v w' ∧ ∀ b o s, sa = some ⟨b, o, s⟩ → v.heap.size ≤ b))
    (hQ : Hid (∀ a' w' gb xb sa sc, Fr.Is 55 [(0, .pointer (some ⟨fb, 0, none⟩)), (2, .pointer (some ⟨ib, 0, none⟩)), (4, .pointer (some ⟨gb, 0, none⟩)), (5, .int .i64 N), (6, .pointer (some ⟨xb, 0, none⟩))] a' → w'.heap[gb]? = some (.cells (frC f sa sc) 40 (0, 0)) → w'.heap[xb]? = some (.cells (faC x) 37 (0, 0)) → Below w.heap.size w w' → w.heap.size ≤ gb → w.heap.size ≤ xb → FrOk f sa sc w' → (∀ b o s, sa = some ⟨b, o, s⟩ → w.heap.size ≤ b) → Q .normal a' w'))
    (a : Act) (v : World) (hb : Below w.heap.size w v) {sa : Option Addr} {sc : Nat} (ok : FrOk f sa sc v) (hnw : ∀ b o s, sa = some ⟨b, o, s⟩ → w.heap.size ≤ b)
    (ha : Fr.Is 55 [(0, .pointer (some ⟨fb, 0, none⟩)), (2, .pointer (some ⟨ib, 0, none⟩)), (19, .slice la n lc), (23, .int .i64 most), (25, .agg (frC f sa sc)), (26, .int .i64 N), (27, .agg (faC x))] a) :
    wpAnyH Tryd.prog .any (opsOf (Fr.reg Tryd.f28 3)) (NoPanic Q) (fun w' => w'.cell? ⟨fb, 0, none⟩ = some (.int .i64 most) ∧ w'.cell? ⟨fb, 2, none⟩ = some (.slice la n lc)) 5 #[true, true, true, true, true, true, true, true, true, true, true, true, true, false, false, false, false, false] a v := by
  obtain ⟨fr, rfl, hfr⟩ := ha.lit
  simp only [List.map_cons, List.map_nil, List.cons.injEq, and_true] at hfr
  conv => arg 3; whnf
  simp only [List.range, List.range.loop, List.map_cons, List.map_nil, hfr]
  clear hfr ha
  have hHeld : (fun w' => w'.cell? ⟨fb, 0, none⟩ = some (.int .i64 most) ∧ w'.cell? ⟨fb, 2, none⟩ = some (.slice la n lc)) v := ⟨below_cell hb c0, below_cell hb c2⟩
  dsimp only at hHeld
  refine wpAnyH_ready (rs := [13, 14]) (by kernel_rfl) (by simp) ?_
  refine AllReadyH.cons (o := _) rfl (fun K' hK' => ?_) ?_
  · go_simp
    have b12 : Below v.heap.size v (v.alloc (.cells #[.int .i64 0, .int .i64 0, .int .i64 0, .string ⟨#[]⟩, .int .i64 0, .slice none 0 0, .int .i64 0, .int .i64 0, .int .i64 0, .int .i64 0, .int .i64 0, .bool false] 40)) := bel_al _ _
    have hb2 := below_step hb b12
    have hN : (v.alloc (.cells #[.int .i64 0, .int .i64 0, .int .i64 0, .string ⟨#[]⟩, .int .i64 0, .slice none 0 0, .int .i64 0, .int .i64 0, .int .i64 0, .int .i64 0, .int .i64 0, .bool false] 40)).heap[v.heap.size]? = some (.cells #[.int .i64 0, .int .i64 0, .int .i64 0, .string ⟨#[]⟩, .int .i64 0, .slice none 0 0, .int .i64 0, .int .i64 0, .int .i64 0, .int .i64 0, .int .i64 0, .bool false] 40 (0, 0)) := heap_alloc_new _ _
    have lN := hb.size
    refine hK'.out _ _ ⟨below_cell hb2 c0, below_cell hb2 c2⟩ (fun hHeld => ?_)
    try simp only [Act.put, List.setIfInBounds_toArray, List.set_cons_zero, List.set_cons_succ]
    exact nx3_110 c0 c2 HC hQ _ _ hb2 hN lN (ok.below b12) hnw (fun b o s hs e => by have h1 := sa_lt ok hs e; omega) (Fr.Is.mk rfl rfl)
  refine AllReadyH.cons (o := _) rfl (fun K' hK' => ?_) ?_
  · go_simp
    have b12 : Below v.heap.size v (v.alloc (.cells #[.bool false, .int .i64 0, .int .i64 0] 37)) := bel_al _ _
    have hb2 := below_step hb b12
    have hN : (v.alloc (.cells #[.bool false, .int .i64 0, .int .i64 0] 37)).heap[v.heap.size]? = some (.cells #[.bool false, .int .i64 0, .int .i64 0] 37 (0, 0)) := heap_alloc_new _ _
    have lN := hb.size
    refine hK'.out _ _ ⟨below_cell hb2 c0, below_cell hb2 c2⟩ (fun hHeld => ?_)
    try simp only [Act.put, List.setIfInBounds_toArray, List.set_cons_zero, List.set_cons_succ]
    exact nx3_101 c0 c2 HC hQ _ _ hb2 hN lN (ok.below b12) hnw (fun b o s hs e => by have h1 := sa_lt ok hs e; omega) (Fr.Is.mk rfl rfl)
  exact AllReadyH.nil

set_option maxRecDepth 100000 in
set_option maxHeartbeats 1000000 in
theorem nx3_000 {Q : Exit → Act → World → Prop} {fb ib n lc N : Nat} {la : Option Addr} {most : Int} {f : FrM} {x : FaM} {w : World} (c0 : w.cell? ⟨fb, 0, none⟩ = some (.int .i64 most)) (c2 : w.cell? ⟨fb, 2, none⟩ = some (.slice la n lc))
    (HC : Hid (∀ v, Below w.heap.size w v → Calls Tryd.prog 34 #[.slice la n lc, .int .i64 most] v fun e w' => ∃ sa sc, e = .returned (.tuple #[.agg (frC f sa sc), .int .i64 N, .agg (faC x)]) ∧ FrOk f sa sc w' ∧ Below v.heap.size v w' ∧ ∀ b o s, sa = some ⟨b, o, s⟩ → v.heap.size ≤ b))
    (hQ : Hid (∀ a' w' gb xb sa sc, Fr.Is 55 [(0, .pointer (some ⟨fb, 0, none⟩)), (2, .pointer (some ⟨ib, 0, none⟩)), (4, .pointer (some ⟨gb, 0, none⟩)), (5, .int .i64 N), (6, .pointer (some ⟨xb, 0, none⟩))] a' → w'.heap[gb]? = some (.cells (frC f sa sc) 40 (0, 0)) → w'.heap[xb]? = some (.cells (faC x) 37 (0, 0)) → Below w.heap.size w w' → w.heap.size ≤ gb → w.heap.size ≤ xb → FrOk f sa sc w' → (∀ b o s, sa = some ⟨b, o, s⟩ → w.heap.size ≤ b) → Q .normal a' w'))
    (a : Act) (v : World) (hb : Below w.heap.size w v) 
    (ha : Fr.Is 55 [(0, .pointer (some ⟨fb, 0, none⟩)), (2, .pointer (some ⟨ib, 0, none⟩)), (19, .slice la n lc), (23, .int .i64 most)] a) :
    wpAnyH Tryd.prog .any (opsOf (Fr.reg Tryd.f28 3)) (NoPanic Q) (fun w' => w'.cell? ⟨fb, 0, none⟩ = some (.int .i64 most) ∧ w'.cell? ⟨fb, 2, none⟩ = some (.slice la n lc)) 10 #[true, true, true, true, true, true, true, true, false, false, false, false, false, false, false, false, false, false] a v := by
  obtain ⟨fr, rfl, hfr⟩ := ha.lit
  simp only [List.map_cons, List.map_nil, List.cons.injEq, and_true] at hfr
  conv => arg 3; whnf
  simp only [List.range, List.range.loop, List.map_cons, List.map_nil, hfr]
  clear hfr ha
  have hHeld : (fun w' => w'.cell? ⟨fb, 0, none⟩ = some (.int .i64 most) ∧ w'.cell? ⟨fb, 2, none⟩ = some (.slice la n lc)) v := ⟨below_cell hb c0, below_cell hb c2⟩
  dsimp only at hHeld
  refine wpAnyH_ready (rs := [8, 13, 14]) (by kernel_rfl) (by simp) ?_
  refine AllReadyH.cons (o := _) rfl (fun K' hK' => ?_) ?_
  · go_simp
    refine (HC.out _ hb).mono ?_; rintro e v2 ⟨sa, sc, rfl, ok, b12, hnw⟩
    have hb2 := below_step hb b12
    have hlt : ∀ b o s, sa = some ⟨b, o, s⟩ → v.heap.size ≤ b := hnw
    refine hK'.out _ _ ⟨below_cell hb2 c0, below_cell hb2 c2⟩ (fun hHeld => ?_)
    try simp only [Act.put, List.setIfInBounds_toArray, List.set_cons_zero, List.set_cons_succ]
    refine wpAnyH_take (i := 9) (oi := _) (v := ?_) rfl (by kernel_rfl) (by kernel_rfl) (by kernel_rfl) (fun _ _ _ h => h) (Or.inl ⟨by rfl, ?_⟩) (by assumption) ?_
    rotate_left 1
    · intro w hSw
      try dsimp only at hSw
      first | (go_simp; done) | (go_simp; with_reducible rfl)
    try simp only [Act.put, List.setIfInBounds_toArray, List.set_cons_zero, List.set_cons_succ]
    refine wpAnyH_take (i := 10) (oi := _) (v := ?_) rfl (by kernel_rfl) (by kernel_rfl) (by kernel_rfl) (fun _ _ _ h => h) (Or.inl ⟨by rfl, ?_⟩) (by assumption) ?_
    rotate_left 1
    · intro w hSw
      try dsimp only at hSw
      first | (go_simp; done) | (go_simp; with_reducible rfl)
    try simp only [Act.put, List.setIfInBounds_toArray, List.set_cons_zero, List.set_cons_succ]
    refine wpAnyH_take (i := 11) (oi := _) (v := ?_) rfl (by kernel_rfl) (by kernel_rfl) (by kernel_rfl) (fun _ _ _ h => h) (Or.inl ⟨by rfl, ?_⟩) (by assumption) ?_
    rotate_left 1
    · intro w hSw
      try dsimp only at hSw
      first | (go_simp; done) | (go_simp; with_reducible rfl)
    try simp only [Act.put, List.setIfInBounds_toArray, List.set_cons_zero, List.set_cons_succ]
    refine wpAnyH_take (i := 12) (oi := _) (v := ?_) rfl (by kernel_rfl) (by kernel_rfl) (by kernel_rfl) (fun _ _ _ h => h) (Or.inl ⟨by rfl, ?_⟩) (by assumption) ?_
    rotate_left 1
    · intro w hSw
      try dsimp only at hSw
      first | (go_simp; done) | (go_simp; with_reducible rfl)
    try simp only [Act.put, List.setIfInBounds_toArray, List.set_cons_zero, List.set_cons_succ]
    exact nx3_100 c0 c2 HC hQ _ _ hb2 ok (fun b o s e => by have h1 := hlt b o s e; have h2 := hb.size; omega) (Fr.Is.mk rfl rfl)
  refine AllReadyH.cons (o := _) rfl (fun K' hK' => ?_) ?_
  · go_simp
    have b12 : Below v.heap.size v (v.alloc (.cells #[.int .i64 0, .int .i64 0, .int .i64 0, .string ⟨#[]⟩, .int .i64 0, .slice none 0 0, .int .i64 0, .int .i64 0, .int .i64 0, .int .i64 0, .int .i64 0, .bool false] 40)) := bel_al _ _
    have hb2 := below_step hb b12
    have hN : (v.alloc (.cells #[.int .i64 0, .int .i64 0, .int .i64 0, .string ⟨#[]⟩, .int .i64 0, .slice none 0 0, .int .i64 0, .int .i64 0, .int .i64 0, .int .i64 0, .int .i64 0, .bool false] 40)).heap[v.heap.size]? = some (.cells #[.int .i64 0, .int .i64 0, .int .i64 0, .string ⟨#[]⟩, .int .i64 0, .slice none 0 0, .int .i64 0, .int .i64 0, .int .i64 0, .int .i64 0, .int .i64 0, .bool false] 40 (0, 0)) := heap_alloc_new _ _
    have lN := hb.size
    refine hK'.out _ _ ⟨below_cell hb2 c0, below_cell hb2 c2⟩ (fun hHeld => ?_)
    try simp only [Act.put, List.setIfInBounds_toArray, List.set_cons_zero, List.set_cons_succ]
    exact nx3_010 c0 c2 HC hQ _ _ hb2 hN lN (Fr.Is.mk rfl rfl)
  refine AllReadyH.cons (o := _) rfl (fun K' hK' => ?_) ?_
  · go_simp
    have b12 : Below v.heap.size v (v.alloc (.cells #[.bool false, .int .i64 0, .int .i64 0] 37)) := bel_al _ _
    have hb2 := below_step hb b12
    have hN : (v.alloc (.cells #[.bool false, .int .i64 0, .int .i64 0] 37)).heap[v.heap.size]? = some (.cells #[.bool false, .int .i64 0, .int .i64 0] 37 (0, 0)) := heap_alloc_new _ _
    have lN := hb.size
    refine hK'.out _ _ ⟨below_cell hb2 c0, below_cell hb2 c2⟩ (fun hHeld => ?_)
    try simp only [Act.put, List.setIfInBounds_toArray, List.set_cons_zero, List.set_cons_succ]
    exact nx3_001 c0 c2 HC hQ _ _ hb2 hN lN (Fr.Is.mk rfl rfl)
  exact AllReadyH.nil

set_option maxRecDepth 100000 in
set_option maxHeartbeats 1000000 in
theorem nx3_i3 {Q : Exit → Act → World → Prop} {fb ib n lc N : Nat} {la : Option Addr} {most : Int} {f : FrM} {x : FaM} {w : World} (c0 : w.cell? ⟨fb, 0, none⟩ = some (.int .i64 most)) (c2 : w.cell? ⟨fb, 2, none⟩ = some (.slice la n lc))
    (HC : Hid (∀ v, Below w.heap.size w v → Calls Tryd.prog 34 #[.slice la n lc, .int .i64 most] v fun e w' => ∃ sa sc, e = .returned (.tuple #[.agg (frC f sa sc), .int .i64 N, .agg (faC x)]) ∧ FrOk f sa sc w' ∧ Below v.heap.size v w' ∧ ∀ b o s, sa = some ⟨b, o, s⟩ → v.heap.size ≤ b))
    (hQ : Hid (∀ a' w' gb xb sa sc, Fr.Is 55 [(0, .pointer (some ⟨fb, 0, none⟩)), (2, .pointer (some ⟨ib, 0, none⟩)), (4, .pointer (some ⟨gb, 0, none⟩)), (5, .int .i64 N), (6, .pointer (some ⟨xb, 0, none⟩))] a' → w'.heap[gb]? = some (.cells (frC f sa sc) 40 (0, 0)) → w'.heap[xb]? = some (.cells (faC x) 37 (0, 0)) → Below w.heap.size w w' → w.heap.size ≤ gb → w.heap.size ≤ xb → FrOk f sa sc w' → (∀ b o s, sa = some ⟨b, o, s⟩ → w.heap.size ≤ b) → Q .normal a' w'))
    (a : Act) (v : World) (hb : Below w.heap.size w v) (ha : Fr.Is 55 [(0, .pointer (some ⟨fb, 0, none⟩)), (2, .pointer (some ⟨ib, 0, none⟩)), (19, .slice la n lc), (22, .pointer (some ⟨fb, 0, none⟩))] a) :
    wpAnyH Tryd.prog .any (opsOf (Fr.reg Tryd.f28 3)) (NoPanic Q) (fun w' => w'.cell? ⟨fb, 0, none⟩ = some (.int .i64 most) ∧ w'.cell? ⟨fb, 2, none⟩ = some (.slice la n lc)) 11 #[true, true, true, true, true, true, true, false, false, false, false, false, false, false, false, false, false, false] a v := by
  obtain ⟨fr, rfl, hfr⟩ := ha.lit
  simp only [List.map_cons, List.map_nil, List.cons.injEq, and_true] at hfr
  conv => arg 3; whnf
  simp only [List.range, List.range.loop, List.map_cons, List.map_nil, hfr]
  clear hfr ha
  have hHeld : (fun w' => w'.cell? ⟨fb, 0, none⟩ = some (.int .i64 most) ∧ w'.cell? ⟨fb, 2, none⟩ = some (.slice la n lc)) v := ⟨below_cell hb c0, below_cell hb c2⟩
  dsimp only at hHeld
  refine wpAnyH_take (i := 7) (oi := _) (v := ?_) rfl (by kernel_rfl) (by kernel_rfl) (by kernel_rfl) (fun _ _ _ h => h) (Or.inl ⟨by rfl, ?_⟩) (by assumption) ?_
  rotate_left 1
  · intro w hSw
    try dsimp only at hSw
    first | (go_simp; done) | (go_simp; with_reducible rfl)
  try simp only [Act.put, List.setIfInBounds_toArray, List.set_cons_zero, List.set_cons_succ]
  exact nx3_000 c0 c2 HC hQ _ _ hb (Fr.Is.mk rfl rfl)

set_option maxRecDepth 100000 in
set_option maxHeartbeats 1000000 in
theorem nx3_i2 {Q : Exit → Act → World → Prop} {fb ib n lc N : Nat} {la : Option Addr} {most : Int} {f : FrM} {x : FaM} {w : World} (c0 : w.cell? ⟨fb, 0, none⟩ = some (.int .i64 most)) (c2 : w.cell? ⟨fb, 2, none⟩ = some (.slice la n lc))
    (HC : Hid (∀ v, Below w.heap.size w v → Calls Tryd.prog 34 #[.slice la n lc, .int .i64 most] v fun e w' => ∃ sa sc, e = .returned (.tuple #[.agg (frC f sa sc), .int .i64 N, .agg (faC x)]) ∧ FrOk f sa sc w' ∧ Below v.heap.size v w' ∧ ∀ b o s, sa = some ⟨b, o, s⟩ → v.heap.size ≤ b))
    (hQ : Hid (∀ a' w' gb xb sa sc, Fr.Is 55 [(0, .pointer (some ⟨fb, 0, none⟩)), (2, .pointer (some ⟨ib, 0, none⟩)), (4, .pointer (some ⟨gb, 0, none⟩)), (5, .int .i64 N), (6, .pointer (some ⟨xb, 0, none⟩))] a' → w'.heap[gb]? = some (.cells (frC f sa sc) 40 (0, 0)) → w'.heap[xb]? = some (.cells (faC x) 37 (0, 0)) → Below w.heap.size w w' → w.heap.size ≤ gb → w.heap.size ≤ xb → FrOk f sa sc w' → (∀ b o s, sa = some ⟨b, o, s⟩ → w.heap.size ≤ b) → Q .normal a' w'))
    (a : Act) (v : World) (hb : Below w.heap.size w v) (ha : Fr.Is 55 [(0, .pointer (some ⟨fb, 0, none⟩)), (2, .pointer (some ⟨ib, 0, none⟩)), (18, .pointer (some ⟨fb, 2, none⟩)), (22, .pointer (some ⟨fb, 0, none⟩))] a) :
    wpAnyH Tryd.prog .any (opsOf (Fr.reg Tryd.f28 3)) (NoPanic Q) (fun w' => w'.cell? ⟨fb, 0, none⟩ = some (.int .i64 most) ∧ w'.cell? ⟨fb, 2, none⟩ = some (.slice la n lc)) 12 #[true, true, true, false, true, true, true, false, false, false, false, false, false, false, false, false, false, false] a v := by
  obtain ⟨fr, rfl, hfr⟩ := ha.lit
  simp only [List.map_cons, List.map_nil, List.cons.injEq, and_true] at hfr
  conv => arg 3; whnf
  simp only [List.range, List.range.loop, List.map_cons, List.map_nil, hfr]
  clear hfr ha
  have hHeld : (fun w' => w'.cell? ⟨fb, 0, none⟩ = some (.int .i64 most) ∧ w'.cell? ⟨fb, 2, none⟩ = some (.slice la n lc)) v := ⟨below_cell hb c0, below_cell hb c2⟩
  dsimp only at hHeld
  refine wpAnyH_take (i := 3) (oi := _) (v := ?_) rfl (by kernel_rfl) (by kernel_rfl) (by kernel_rfl) (fun _ _ _ h => h) (Or.inl ⟨by rfl, ?_⟩) (by assumption) ?_
  rotate_left 1
  · intro w hSw
    try dsimp only at hSw
    first | (go_simp; done) | (go_simp; with_reducible rfl)
  try simp only [Act.put, List.setIfInBounds_toArray, List.set_cons_zero, List.set_cons_succ]
  exact nx3_i3 c0 c2 HC hQ _ _ hb (Fr.Is.mk rfl rfl)

set_option maxRecDepth 100000 in
set_option maxHeartbeats 1000000 in
theorem nx3_i1 {Q : Exit → Act → World → Prop} {fb ib n lc N : Nat} {la : Option Addr} {most : Int} {f : FrM} {x : FaM} {w : World} (c0 : w.cell? ⟨fb, 0, none⟩ = some (.int .i64 most)) (c2 : w.cell? ⟨fb, 2, none⟩ = some (.slice la n lc))
    (HC : Hid (∀ v, Below w.heap.size w v → Calls Tryd.prog 34 #[.slice la n lc, .int .i64 most] v fun e w' => ∃ sa sc, e = .returned (.tuple #[.agg (frC f sa sc), .int .i64 N, .agg (faC x)]) ∧ FrOk f sa sc w' ∧ Below v.heap.size v w' ∧ ∀ b o s, sa = some ⟨b, o, s⟩ → v.heap.size ≤ b))
    (hQ : Hid (∀ a' w' gb xb sa sc, Fr.Is 55 [(0, .pointer (some ⟨fb, 0, none⟩)), (2, .pointer (some ⟨ib, 0, none⟩)), (4, .pointer (some ⟨gb, 0, none⟩)), (5, .int .i64 N), (6, .pointer (some ⟨xb, 0, none⟩))] a' → w'.heap[gb]? = some (.cells (frC f sa sc) 40 (0, 0)) → w'.heap[xb]? = some (.cells (faC x) 37 (0, 0)) → Below w.heap.size w w' → w.heap.size ≤ gb → w.heap.size ≤ xb → FrOk f sa sc w' → (∀ b o s, sa = some ⟨b, o, s⟩ → w.heap.size ≤ b) → Q .normal a' w'))
    (a : Act) (v : World) (hb : Below w.heap.size w v) (ha : Fr.Is 55 [(0, .pointer (some ⟨fb, 0, none⟩)), (2, .pointer (some ⟨ib, 0, none⟩)), (18, .pointer (some ⟨fb, 2, none⟩))] a) :
    wpAnyH Tryd.prog .any (opsOf (Fr.reg Tryd.f28 3)) (NoPanic Q) (fun w' => w'.cell? ⟨fb, 0, none⟩ = some (.int .i64 most) ∧ w'.cell? ⟨fb, 2, none⟩ = some (.slice la n lc)) 15 #[true, true, true, false, false, false, false, false, false, false, false, false, false, false, false, false, false, false] a v := by
  obtain ⟨fr, rfl, hfr⟩ := ha.lit
  simp only [List.map_cons, List.map_nil, List.cons.injEq, and_true] at hfr
  conv => arg 3; whnf
  simp only [List.range, List.range.loop, List.map_cons, List.map_nil, hfr]
  clear hfr ha
  have hHeld : (fun w' => w'.cell? ⟨fb, 0, none⟩ = some (.int .i64 most) ∧ w'.cell? ⟨fb, 2, none⟩ = some (.slice la n lc)) v := ⟨below_cell hb c0, below_cell hb c2⟩
  dsimp only at hHeld
  refine wpAnyH_take (i := 4) (oi := _) (v := ?_) rfl (by kernel_rfl) (by kernel_rfl) (by kernel_rfl) (fun _ _ _ h => h) (Or.inl ⟨by rfl, ?_⟩) (by assumption) ?_
  rotate_left 1
  · intro w hSw
    try dsimp only at hSw
    first | (go_simp; done) | (go_simp; with_reducible rfl)
  try simp only [Act.put, List.setIfInBounds_toArray, List.set_cons_zero, List.set_cons_succ]
  refine wpAnyH_take (i := 5) (oi := _) (v := ?_) rfl (by kernel_rfl) (by kernel_rfl) (by kernel_rfl) (fun _ _ _ h => h) (Or.inl ⟨by rfl, ?_⟩) (by assumption) ?_
  rotate_left 1
  · intro w hSw
    try dsimp only at hSw
    first | (go_simp; done) | (go_simp; with_reducible rfl)
  try simp only [Act.put, List.setIfInBounds_toArray, List.set_cons_zero, List.set_cons_succ]
  refine wpAnyH_take (i := 6) (oi := _) (v := ?_) rfl (by kernel_rfl) (by kernel_rfl) (by kernel_rfl) (fun _ _ _ h => h) (Or.inl ⟨by rfl, ?_⟩) (by assumption) ?_
  rotate_left 1
  · intro w hSw
    try dsimp only at hSw
    first | (go_simp; done) | (go_simp; with_reducible rfl)
  try simp only [Act.put, List.setIfInBounds_toArray, List.set_cons_zero, List.set_cons_succ]
  exact nx3_i2 c0 c2 HC hQ _ _ hb (Fr.Is.mk rfl rfl)

set_option maxRecDepth 100000 in
set_option maxHeartbeats 1000000 in
theorem nx3_init {Q : Exit → Act → World → Prop} {fb ib n lc N : Nat} {la : Option Addr} {most : Int} {f : FrM} {x : FaM} {w : World} (c0 : w.cell? ⟨fb, 0, none⟩ = some (.int .i64 most)) (c2 : w.cell? ⟨fb, 2, none⟩ = some (.slice la n lc))
    (HC : Hid (∀ v, Below w.heap.size w v → Calls Tryd.prog 34 #[.slice la n lc, .int .i64 most] v fun e w' => ∃ sa sc, e = .returned (.tuple #[.agg (frC f sa sc), .int .i64 N, .agg (faC x)]) ∧ FrOk f sa sc w' ∧ Below v.heap.size v w' ∧ ∀ b o s, sa = some ⟨b, o, s⟩ → v.heap.size ≤ b))
    (hQ : Hid (∀ a' w' gb xb sa sc, Fr.Is 55 [(0, .pointer (some ⟨fb, 0, none⟩)), (2, .pointer (some ⟨ib, 0, none⟩)), (4, .pointer (some ⟨gb, 0, none⟩)), (5, .int .i64 N), (6, .pointer (some ⟨xb, 0, none⟩))] a' → w'.heap[gb]? = some (.cells (frC f sa sc) 40 (0, 0)) → w'.heap[xb]? = some (.cells (faC x) 37 (0, 0)) → Below w.heap.size w w' → w.heap.size ≤ gb → w.heap.size ≤ xb → FrOk f sa sc w' → (∀ b o s, sa = some ⟨b, o, s⟩ → w.heap.size ≤ b) → Q .normal a' w'))
    (a : Act) (v : World) (hb : Below w.heap.size w v) (ha : Fr.Is 55 [(0, .pointer (some ⟨fb, 0, none⟩)), (2, .pointer (some ⟨ib, 0, none⟩))] a) :
    wpAnyH Tryd.prog .any (opsOf (Fr.reg Tryd.f28 3)) (NoPanic Q) (fun w' => w'.cell? ⟨fb, 0, none⟩ = some (.int .i64 most) ∧ w'.cell? ⟨fb, 2, none⟩ = some (.slice la n lc)) 18 #[false, false, false, false, false, false, false, false, false, false, false, false, false, false, false, false, false, false] a v := by
  obtain ⟨fr, rfl, hfr⟩ := ha.lit
  simp only [List.map_cons, List.map_nil, List.cons.injEq, and_true] at hfr
  conv => arg 3; whnf
  simp only [List.range, List.range.loop, List.map_cons, List.map_nil, hfr]
  clear hfr ha
  have hHeld : (fun w' => w'.cell? ⟨fb, 0, none⟩ = some (.int .i64 most) ∧ w'.cell? ⟨fb, 2, none⟩ = some (.slice la n lc)) v := ⟨below_cell hb c0, below_cell hb c2⟩
  dsimp only at hHeld
  refine wpAnyH_take (i := 0) (oi := _) (v := ?_) rfl (by kernel_rfl) (by kernel_rfl) (by kernel_rfl) (fun _ _ _ h => h) (Or.inl ⟨by rfl, ?_⟩) (by assumption) ?_
  rotate_left 1
  · intro w hSw
    try dsimp only at hSw
    first | (go_simp; done) | (go_simp; with_reducible rfl)
  try simp only [Act.put, List.setIfInBounds_toArray, List.set_cons_zero, List.set_cons_succ]
  refine wpAnyH_take (i := 1) (oi := _) (v := ?_) rfl (by kernel_rfl) (by kernel_rfl) (by kernel_rfl) (fun _ _ _ h => h) (Or.inl ⟨by rfl, ?_⟩) (by assumption) ?_
  rotate_left 1
  · intro w hSw
    try dsimp only at hSw
    first | (go_simp; done) | (go_simp; with_reducible rfl)
  try simp only [Act.put, List.setIfInBounds_toArray, List.set_cons_zero, List.set_cons_succ]
  refine wpAnyH_take (i := 2) (oi := _) (v := ?_) rfl (by kernel_rfl) (by kernel_rfl) (by kernel_rfl) (fun _ _ _ h => h) (Or.inl ⟨by rfl, ?_⟩) (by assumption) ?_
  rotate_left 1
  · intro w hSw
    try dsimp only at hSw
    first | (go_simp; done) | (go_simp; with_reducible rfl)
  try simp only [Act.put, List.setIfInBounds_toArray, List.set_cons_zero, List.set_cons_succ]
  exact nx3_i1 c0 c2 HC hQ _ _ hb (Fr.Is.mk rfl rfl)

set_option maxRecDepth 100000 in
set_option maxHeartbeats 1000000 in
theorem nx_r3 {Q : Exit → Act → World → Prop} {fb ib n lc N : Nat} {la : Option Addr} {most : Int} {f : FrM} {x : FaM} {w : World} (c0 : w.cell? ⟨fb, 0, none⟩ = some (.int .i64 most)) (c2 : w.cell? ⟨fb, 2, none⟩ = some (.slice la n lc))
    (HC : Hid (∀ v, Below w.heap.size w v → Calls Tryd.prog 34 #[.slice la n lc, .int .i64 most] v fun e w' => ∃ sa sc, e = .returned (.tuple #[.agg (frC f sa sc), .int .i64 N, .agg (faC x)]) ∧ FrOk f sa sc w' ∧ Below v.heap.size v w' ∧ ∀ b o s, sa = some ⟨b, o, s⟩ → v.heap.size ≤ b))
    (hQ : Hid (∀ a' w' gb xb sa sc, Fr.Is 55 [(0, .pointer (some ⟨fb, 0, none⟩)), (2, .pointer (some ⟨ib, 0, none⟩)), (4, .pointer (some ⟨gb, 0, none⟩)), (5, .int .i64 N), (6, .pointer (some ⟨xb, 0, none⟩))] a' → w'.heap[gb]? = some (.cells (frC f sa sc) 40 (0, 0)) → w'.heap[xb]? = some (.cells (faC x) 37 (0, 0)) → Below w.heap.size w w' → w.heap.size ≤ gb → w.heap.size ≤ xb → FrOk f sa sc w' → (∀ b o s, sa = some ⟨b, o, s⟩ → w.heap.size ≤ b) → Q .normal a' w'))
    (a : Act) (ha : Fr.Is 55 [(0, .pointer (some ⟨fb, 0, none⟩)), (2, .pointer (some ⟨ib, 0, none⟩))] a) :
    (Fr.reg Tryd.f28 3).wp Tryd.prog Q a w := by
  have hb0 : Below w.heap.size w w.drew := (Below.refl _ _).drew
  have h := nx3_init c0 c2 HC hQ a w.drew hb0 ha
  conv => arg 2; whnf
  refine wp_region_noPanic ?_
  refine wp_region_held_drew (S := (fun w' => w'.cell? ⟨fb, 0, none⟩ = some (.int .i64 most) ∧ w'.cell? ⟨fb, 2, none⟩ = some (.slice la n lc))) (by kernel_rfl) ⟨below_cell hb0 c0, below_cell hb0 c2⟩ (fun hHeld => ?_)
  exact h
end Go.Proofs.YtglhdlkmgmbgeaaDoor
