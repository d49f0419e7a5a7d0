/- Layer 6: the document's Take: the frame's head, its fields. Layer 6: the document's Take, whole. Layer 6: the document's Take, put together. Layer 6: the document's Same, whole. Layer 6: the document's Payload, statement by statement. -/
import Derived.Test.YtdilgkkkhmmffaaDoorGD03
import Derived.BigGuardPart
import Derived.Test.YtdilgkkkhmmffaaDoorGD01
import Derived.Test.YtdilgkkkhmmffaaDoorGP04
set_option linter.unusedVariables false
set_option linter.unusedSimpArgs false
namespace Go.Proofs.YtdilgkkkhmmffaaDoor
open Go.RowKit
open Fra Oct Arg Mem Gen Qu Go.Proofs.YtdilgkkkhmmffaaDoor.Obj
set_option linter.unusedVariables false
set_option linter.unusedSimpArgs false


set_option maxRecDepth 100000 in
set_option maxHeartbeats 4000000 in
theorem dtk_r9 {Q : Exit → Act → World → Prop} {rv rx nb n cap b off : Nat} {most N V : Int} {c d : UInt8} (a : Act) (w : World) (h9 : 9 ≤ n) (x3 : w.cell? ⟨b, off + 3, none⟩ = some (.int .u8 (c.toNat : Int))) (x4 : w.cell? ⟨b, off + 4, none⟩ = some (.int .u8 (d.toNat : Int))) (HA : Hid (∀ v, Below w.heap.size w v → Calls Tryd.prog 28 #[.slice (some ⟨b, off, none⟩) n cap, .int .i64 5, .int .i64 4] v fun e w' => e = .returned (.int .i64 V) ∧ v = w')) (v0 : 0 ≤ V) (v1 : V < 4294967296)
    (ha : Fr.Is 208 [(0, .slice (some ⟨b, off, none⟩) n cap), (1, .int .i64 most), (4, .pointer (some ⟨rv, 0, none⟩)), (6, .pointer (some ⟨rx, 0, none⟩)), (7, .pointer (some ⟨nb, 0, none⟩)), (8, .int .i64 N)] a)
    (hQ : Hid (∀ w' a', Fr.Is 208 [(0, .slice (some ⟨b, off, none⟩) n cap), (1, .int .i64 most), (4, .pointer (some ⟨rv, 0, none⟩)), (6, .pointer (some ⟨rx, 0, none⟩)), (7, .pointer (some ⟨nb, 0, none⟩)), (8, .int .i64 N), (9, .pointer (some ⟨w.heap.size, 0, none⟩))] a' → Fb w.heap.size (hdrF (c.toNat : Int) (d.toNat : Int) (V % 2147483648)) none 0 w' → Below w.heap.size w w' → Q .normal a' w')) :
    (Fr.reg Tryd.f15 9).wp Tryd.prog Q a w := by
  obtain ⟨fr, rfl, hfr⟩ := ha.lit
  simp only [List.map_cons, List.map_nil, List.cons.injEq, and_true] at hfr
  conv => arg 2; whnf
  simp only [List.range, List.range.loop, List.map_cons, List.map_nil, hfr]
  clear hfr ha
  have hcl := c.toNat_lt
  have hdl := d.toNat_lt
  have hi3 : (3 : Int) < n := by omega
  have hi4 : (4 : Int) < n := by omega
  have hm := tmod_nn V 2147483648 v0
  have hb0 : Below w.heap.size w w.drew := (Below.refl _ _).drew
  generalize hk : c.toNat = k at *
  generalize hj : d.toNat = j at *
  clear hk hj
  have hbA : Below w.heap.size w (w.alloc (.cells #[.int .i64 0, .int .i64 0, .int .i64 0, .string ⟨#[]⟩, .int .i64 0, .slice none 0 0, .int .i64 0, .int .i64 0, .int .i64 0, .int .i64 0, .int .i64 0, .bool false] 24)).drew := (bel_al w (.cells #[.int .i64 0, .int .i64 0, .int .i64 0, .string ⟨#[]⟩, .int .i64 0, .slice none 0 0, .int .i64 0, .int .i64 0, .int .i64 0, .int .i64 0, .int .i64 0, .bool false] 24)).drew
  have hwk : IntKind.i64.wrap (k : Int) = k := IntWalk.i64_in _ (by omega)
  have hwj : IntKind.i64.wrap (j : Int) = j := IntWalk.i64_in _ (by omega)
  go_region_held3 (fun v => v.cell? ⟨b, off + 3, none⟩ = some (.int .u8 (k : Int)) ∧ v.cell? ⟨b, off + 4, none⟩ = some (.int .u8 (j : Int))) (first | go_keep | exact ⟨x3, x4⟩ | (refine ⟨?_, ?_⟩ <;> go_simp))
    ((go_at_call 28; refine (HA.out _ (by first | exact hbA | exact hb0)).mono ?_; rintro e w1 ⟨rfl, rfl⟩))
  all_goals exact hQ.out _ _ (Fr.Is.mk rfl rfl) (heap_alloc_new w _) ((bel_al w _).drew)


set_option maxRecDepth 100000 in
set_option maxHeartbeats 4000000 in
theorem dtk_r18 {Q : Exit → Act → World → Prop} {rv rx nb fb n cap k : Nat} {ad : Option Addr} {most : Int} {f f2 : FrM} {ok : Bool} {sa : Option Addr} {sc : Nat} (a : Act) (w : World) (V : Fb fb f sa sc w) (hk : 9 + k ≤ n) (hc : n ≤ cap) (hb : cap ≤ 9223372036854775807) (HC : Hid (∀ v, Below w.heap.size w v → Calls Tryd.prog 31 #[frV f sa sc, .slice (Sl.adOf ad cap 9 1) k (cap - 9)] v (FiEnd v (f2, ok))))
    (ha : Fr.Is 208 [(0, .slice ad n cap), (1, .int .i64 most), (4, .pointer (some ⟨rv, 0, none⟩)), (6, .pointer (some ⟨rx, 0, none⟩)), (7, .pointer (some ⟨nb, 0, none⟩)), (8, .int .i64 (k : Int)), (9, .pointer (some ⟨fb, 0, none⟩))] a)
    (hQ : Hid (∀ (w1 w' : World) (sa1 : Option Addr) (sc1 : Nat) a', Fr.Is 208 [(0, .slice ad n cap), (1, .int .i64 most), (4, .pointer (some ⟨rv, 0, none⟩)), (6, .pointer (some ⟨rx, 0, none⟩)), (7, .pointer (some ⟨nb, 0, none⟩)), (8, .int .i64 (k : Int)), (9, .pointer (some ⟨fb, 0, none⟩)), (12, .bool ok)] a' → FrOk f2 sa1 sc1 w1 → (∀ b o s, sa1 = some ⟨b, o, s⟩ → w.heap.size ≤ b) → Below w.heap.size w w1 → Fb fb f2 sa1 sc1 w' → Below fb w1 w' → (∀ k, k ≠ fb → w'.heap[k]? = w1.heap[k]?) → Q .normal a' w')) :
    (Fr.reg Tryd.f15 18).wp Tryd.prog Q a w := by
  obtain ⟨fr, rfl, hfr⟩ := ha.lit
  simp only [List.map_cons, List.map_nil, List.cons.injEq, and_true] at hfr
  conv => arg 2; whnf
  simp only [List.range, List.range.loop, List.map_cons, List.map_nil, hfr]
  clear hfr ha
  have HV := Lib.hid V
  obtain ⟨a0, a1, a2, a3, a4, a5, a6, a7, a8, a9, a10, a11⟩ := fr_cells V
  have hb0 : Below w.heap.size w w.drew := (Below.refl _ _).drew
  have hw9 : IntKind.i64.wrap (9 + (k : Int)) = 9 + (k : Int) := IntWalk.i64_in _ (by omega)
  unfold frV frC at HC
  unfold FiEnd at HC
  unfold frV frC at HC
  simp only at HC
  clear V
  have hw90 : IntKind.i64.wrap 9 = 9 := rfl
  have g1 : (0 : Int) ≤ 9 + (k : Int) := by omega
  have g2 : 9 + (k : Int) ≤ cap := by omega
  have g3 : max (9 + (k : Int)) 0 = 9 + (k : Int) := by omega
  have g4 : (9 + (k : Int)).toNat - 9 = k := by omega
  have g5 : (9 : Int) ≤ 9 + (k : Int) := by omega
  refine wp_region_noPanic ?_
  by_cases hcap : cap = 9
  · subst hcap
    obtain rfl : k = 0 := by omega
    rw [Sl.adOf, if_pos rfl] at HC
    go_region_law (refine Wr.step_call rfl 31 [.tmp 126, .tmp 130] _ rfl [.agg #[.int .i64 f.type, .int .i64 f.flags, .int .i64 f.stream, .string f.data, .int .i64 f.pad, .slice sa f.sets.length sc, .int .i64 f.code, .int .i64 f.last, .int .i64 f.inc, .int .i64 f.dep, .int .i64 f.weight, .bool f.sole], .slice ad 0 0] rfl (fun v => rfl) (HC.out _ hb0) ?_; rintro e w1 ⟨sa1, sc1, rfl, ok1, hn1, b1⟩; refine ⟨_, rfl, ?_⟩; have hb1 := below_step hb0 b1; have V1 : Fb fb f sa sc w1 := block_below hb1 HV.out; obtain ⟨c0, c1, c2, c3, c4, c5, c6, c7, c8, c9, c10, c11⟩ := fr_cells V1; have t0 := V1.thaw 0; have t1 := V1.thaw 1; have t2 := V1.thaw 2; have t3 := V1.thaw 3; have t4 := V1.thaw 4; have t5 := V1.thaw 5; have t6 := V1.thaw 6; have t7 := V1.thaw 7; have t8 := V1.thaw 8; have t9 := V1.thaw 9; have t10 := V1.thaw 10; have t11 := V1.thaw 11; have HV1 := Lib.hid V1; have HOk := Lib.hid (And.intro ok1 (And.intro hn1 hb1)); clear V1 ok1 hn1 b1 hb1)
    all_goals
      obtain ⟨w2, h2, F2, B2, o2⟩ := fr_ret (Below.refl fb w1) (Nat.le_refl _) HV1.out f2 sa1 sc1
      subst h2
      exact hQ.out _ _ _ _ _ (Fr.Is.mk rfl rfl) HOk.out.1 HOk.out.2.1 HOk.out.2.2 F2 B2 o2
  · rw [Sl.adOf, if_neg hcap] at HC
    go_region_law (refine Wr.step_call rfl 31 [.tmp 126, .tmp 130] _ rfl [.agg #[.int .i64 f.type, .int .i64 f.flags, .int .i64 f.stream, .string f.data, .int .i64 f.pad, .slice sa f.sets.length sc, .int .i64 f.code, .int .i64 f.last, .int .i64 f.inc, .int .i64 f.dep, .int .i64 f.weight, .bool f.sole], .slice (ad.map (·.add (9 * 1))) k (cap - 9)] rfl (fun v => rfl) (HC.out _ hb0) ?_; rintro e w1 ⟨sa1, sc1, rfl, ok1, hn1, b1⟩; refine ⟨_, rfl, ?_⟩; have hb1 := below_step hb0 b1; have V1 : Fb fb f sa sc w1 := block_below hb1 HV.out; obtain ⟨c0, c1, c2, c3, c4, c5, c6, c7, c8, c9, c10, c11⟩ := fr_cells V1; have t0 := V1.thaw 0; have t1 := V1.thaw 1; have t2 := V1.thaw 2; have t3 := V1.thaw 3; have t4 := V1.thaw 4; have t5 := V1.thaw 5; have t6 := V1.thaw 6; have t7 := V1.thaw 7; have t8 := V1.thaw 8; have t9 := V1.thaw 9; have t10 := V1.thaw 10; have t11 := V1.thaw 11; have HV1 := Lib.hid V1; have HOk := Lib.hid (And.intro ok1 (And.intro hn1 hb1)); clear V1 ok1 hn1 b1 hb1)
    all_goals
      obtain ⟨w2, h2, F2, B2, o2⟩ := fr_ret (Below.refl fb w1) (Nat.le_refl _) HV1.out f2 sa1 sc1
      subst h2
      exact hQ.out _ _ _ _ _ (Fr.Is.mk rfl rfl) HOk.out.1 HOk.out.2.1 HOk.out.2.2 F2 B2 o2

end Go.Proofs.YtdilgkkkhmmffaaDoor

namespace Go.Proofs.YtdilgkkkhmmffaaDoor
open Go.RowKit
open Fra Oct Arg Mem Gen Qu Go.Proofs.YtdilgkkkhmmffaaDoor.Obj
set_option linter.unusedVariables false
set_option linter.unusedSimpArgs false

set_option maxRecDepth 100000 in
set_option maxHeartbeats 2000000 in
theorem dtk_ret {R : Ending → World → Prop} {rv rx : Nat} {z : Int} {a : Act} {w' : World} {f : FrM} {sa : Option Addr} {sc : Nat} {x : FaM}
    (ha : Fr.Is 208 [(4, .pointer (some ⟨rv, 0, none⟩)), (5, .int .i64 z), (6, .pointer (some ⟨rx, 0, none⟩))] a)
    (V : Fb rv f sa sc w') (X : w'.heap[rx]? = some (Obj.cells #[.bool x.is, .int .i64 x.code, .int .i64 x.stream] 33 (0, 0)))
    (hR : R (.returned (.tuple #[frV f sa sc, .int .i64 z, faV x])) w') : bodyPost Tryd.prog Tryd.f15 R .ret a w' := by
  obtain ⟨fr, rfl, hfr⟩ := ha.lit
  simp only [List.map_cons, List.map_nil, List.cons.injEq, and_true] at hfr
  obtain ⟨h4, h5, h6⟩ := hfr
  obtain ⟨c0, c1, c2, c3, c4, c5, c6, c7, c8, c9, c10, c11⟩ := fr_cells V
  obtain ⟨d0, d1, d2⟩ := fa_cells X
  clear V X
  refine bodyPost_ret (v := .tuple #[frV f sa sc, .int .i64 z, faV x]) ?_ rfl hR
  simp [results, Tryd.results15, go_sem, frV, frC, faV, h4, h5, h6, c0, c1, c2, c3, c4, c5, c6, c7, c8, c9, c10, c11, d0, d1, d2]

/-- Along Take: the answer's boxes, the frame that is none. -/
structure Tk (w0 : World) (rv rx nb : Nat) (w : World) : Prop where
  bel : Below w0.heap.size w0 w
  V : Fb rv noFr none 0 w
  X : w.heap[rx]? = some (Obj.cells #[.bool false, .int .i64 0, .int .i64 0] 33 (0, 0))
  Z : Fb nb noFr none 0 w
  lo : w0.heap.size ≤ rv ∧ w0.heap.size ≤ rx ∧ rx ≠ rv ∧ nb ≠ rv ∧ nb ≠ rx
section
variable {w0 w w' : World} {rv rx nb : Nat}
theorem Tk.below (h : Tk w0 rv rx nb w) (hb : Below w.heap.size w w') : Tk w0 rv rx nb w' :=
  ⟨below_step h.bel hb, block_below hb h.V, block_below hb h.X, block_below hb h.Z, h.lo⟩
theorem Tk.ans (h : Tk w0 rv rx nb w) (B : Below 0 w w') (o : ∀ k, k ≠ rv → k ≠ rx → k < w.heap.size → w'.heap[k]? = w.heap[k]?) : Below w0.heap.size w0 w' :=
  ⟨B.os.trans h.bel.os, B.tape.trans h.bel.tape, B.output.trans h.bel.output, Nat.le_trans h.bel.size B.size, fun k hk => (o k (by have := h.lo.1; omega) (by have := h.lo.2.1; omega) (Nat.lt_of_lt_of_le hk h.bel.size)).trans (h.bel.block k hk)⟩
end
theorem frok_move {f : FrM} {sa : Option Addr} {sc : Nat} {w w' : World} (h : FrOk f sa sc w) (hb : ∀ b o s, sa = some ⟨b, o, s⟩ → b < w.heap.size → w'.heap[b]? = w.heap[b]?) : FrOk f sa sc w' := by
  refine ⟨?_, h.len, h.cap⟩
  rcases h.row with h1 | ⟨b, off, e, hc⟩
  · exact .inl h1
  · cases hl : f.sets with
    | nil => exact .inl rfl
    | cons s r =>
      rw [← hl]
      refine h.row.block (fun b' off' e' => ?_)
      have e2 := e.symm.trans e'
      simp only [Option.some.injEq, Addr.mk.injEq, and_true] at e2
      obtain ⟨rfl, rfl⟩ := e2
      have hlt : b < w.heap.size := by
        have := (CE_st (hc 0 (by rw [hl]; simp))).1
        exact World.block_lt_of_cell? w _ this
      exact hb b off none e hlt
/-- What Take leaves. -/
def TkEnd (w : World) (R : FrM × Nat × FaM) (e : Ending) (w' : World) : Prop :=
  ∃ sa sc, e = .returned (.tuple #[frV R.1 sa sc, .int .i64 (R.2.1 : Nat), faV R.2.2]) ∧ FrOk R.1 sa sc w' ∧ Below w.heap.size w w'
theorem tk_no (w : World) : FrOk noFr none 0 w := ⟨.inl rfl, Nat.le_refl _, by unfold maxLen; omega⟩
theorem tk_end {w0 w w' : World} {rv rx nb : Nat} {z : Nat} {zi : Int} {x : FaM} {a : Act} (hz : zi = z) (h : Tk w0 rv rx nb w)
    (ha : Fr.Is 208 [(4, .pointer (some ⟨rv, 0, none⟩)), (5, .int .i64 zi), (6, .pointer (some ⟨rx, 0, none⟩))] a)
    (V : Fb rv noFr none 0 w') (X : w'.heap[rx]? = some (Obj.cells #[.bool x.is, .int .i64 x.code, .int .i64 x.stream] 33 (0, 0))) (B : Below 0 w w') (o : ∀ k, k ≠ rv → k ≠ rx → k < w.heap.size → w'.heap[k]? = w.heap[k]?) :
    bodyPost Tryd.prog Tryd.f15 (TkEnd w0 (noFr, z, x)) .ret a w' := by
  subst hz
  exact dtk_ret ha V X ⟨none, 0, rfl, tk_no _, h.ans B o⟩

theorem setFault_iff (s : StM) : ((s.id = 2 ∧ 1 < s.val) ∨ (s.id = 5 ∧ (s.val < 16384 ∨ 16777215 < s.val)) → setFault s = 1) ∧
    (¬((s.id = 2 ∧ 1 < s.val) ∨ (s.id = 5 ∧ (s.val < 16384 ∨ 16777215 < s.val))) → (s.id = 4 ∧ 2147483647 < s.val → setFault s = 3) ∧ (¬(s.id = 4 ∧ 2147483647 < s.val) → setFault s = 0)) := by
  refine ⟨fun h => by rw [setFault, if_pos h], fun h => ⟨fun k => by rw [setFault, if_neg h, if_pos k], fun k => by rw [setFault, if_neg h, if_neg k]⟩⟩

set_option maxHeartbeats 1000000 in
/-- The settings, and the frame. -/
theorem dtk_loop {w0 w : World} {rv rx nb fb n cap k : Nat} {ad : Option Addr} {most : Int} {f : FrM} {sa : Option Addr} {sc : Nat} (a : Act) (h : Tk w0 rv rx nb w) (hf : Fb fb f sa sc w) (hok : FrOk f sa sc w)
    (hsb : ∀ b o s, sa = some ⟨b, o, s⟩ → b ≠ rv ∧ b ≠ rx) (hfv : fb ≠ rv) (hfx : fb ≠ rx) (hk : k ≤ 16777215)
    (ha : Fr.Is 208 [(0, .slice ad n cap), (1, .int .i64 most), (4, .pointer (some ⟨rv, 0, none⟩)), (6, .pointer (some ⟨rx, 0, none⟩)), (7, .pointer (some ⟨nb, 0, none⟩)), (8, .int .i64 (k : Int)), (9, .pointer (some ⟨fb, 0, none⟩))] a) :
    (Fr.tail Tryd.f15 15).wp Tryd.prog (bodyPost Tryd.prog Tryd.f15 (TkEnd w0 (if setsFault f.sets ≠ 0 then (noFr, 0, ofC (setsFault f.sets)) else (f, 9 + k, noFa)))) a w := by
  conv => arg 2; whnf
  refine wp_seq (wp_seq ?_)
  refine dtk_r25 a w ha (Lib.hid (fun a1 h1 => ?_))
  obtain ⟨S, hS⟩ : ∃ S, S = setsFault f.sets := ⟨_, rfl⟩
  rw [← hS]
  refine wp_block ?_
  refine wp_loop_ghost (fun m a' w' => ∃ i, m = f.sets.length - i ∧ i ≤ f.sets.length ∧ S = setsFault (f.sets.drop i) ∧ Below w.heap.size w w' ∧ Fr.Is 208 [(0, .slice ad n cap), (1, .int .i64 most), (4, .pointer (some ⟨rv, 0, none⟩)), (6, .pointer (some ⟨rx, 0, none⟩)), (7, .pointer (some ⟨nb, 0, none⟩)), (8, .int .i64 (k : Int)), (9, .pointer (some ⟨fb, 0, none⟩)), (13, .int .i64 i)] a') (f.sets.length - 0)
    ⟨0, rfl, Nat.zero_le _, by simpa using hS, Below.refl _ _, h1⟩ ?_
  rintro m a2 w2 ⟨i, rfl, hi, hSd, b2, h2⟩
  have g2 := h.below b2
  have U2 : Fb fb f sa sc w2 := block_below b2 hf
  refine wp_seq (wp_seq ?_)
  refine dtk_r26 (m := f.sets.length) (sc := sc) (sa := sa) a2 w2 (U2.cellz 5) h2 (Lib.hid (fun a3 h3 => ?_))
  by_cases hlt : i < f.sets.length
  · refine wp_cond_true (h3.get (i := 161) (v := .bool true) (by simp [hlt])) ?_
    refine wp_skip ?_
    refine wp_seq (wp_block ?_)
    obtain ⟨p1, o1, rfl, hc1⟩ : ∃ b off, sa = some ⟨b, off, none⟩ ∧ ∀ i, (h : i < f.sets.length) → Rw.CE ESt w b (off + i * 2) f.sets[i] := by
      rcases hok.row with h | h
      · rw [h] at hlt; simp at hlt
      · exact h
    obtain ⟨x0, x1⟩ := CE_st (hc1 i hlt)
    have hdr : f.sets.drop i = f.sets[i] :: f.sets.drop (i + 1) := List.drop_eq_getElem_cons hlt
    have hFt := setFault_iff f.sets[i]
    refine wp_seq ?_
    refine dtk_r28 (rv := rv) (rx := rx) (nb := nb) (n := n) (cap := cap) (ad := ad) (most := most) (N := k) (i := i) (m := f.sets.length) (sc := sc) (g1 := p1) (o1 := o1) (s := f.sets[i]) a3 w2 (U2.cellz 5) hlt (below_cell b2 x0) (below_cell b2 x1) (h3.less (by simp)) (Lib.hid (fun w4 a4 h4 hs4 b4 => ?_))
    have g4 := g2.below b4
    generalize f.sets[i] = s at *
    obtain ⟨sb, hsb'⟩ : ∃ sb, sb = w2.heap.size := ⟨_, rfl⟩
    rw [← hsb'] at h4 hs4
    have q0 := cell_at hs4 0
    have q1 := cell_at hs4 1
    refine wp_seq (wp_seq ?_)
    refine dtk_r29 (id := s.id) (val := s.val) a4 w4 q0 q1 h4 (Lib.hid (fun v a5 h5 hv => ?_))
    cases v with
    | true =>
      have hF1 := hFt.1 (hv.mp rfl)
      have hS1 : S = 1 := by rw [hSd, hdr, setsFault, hF1]; simp
      refine wp_cond_true (h5.get (i := 191) (v := .bool true) (by simp)) ?_
      refine wp_seq ?_
      refine dtk_r30 (rv := rv) (rx := rx) (nb := nb) a5 w4 g4.V g4.X g4.lo.2.2.1 g4.Z g4.lo.2.2.2.1 g4.lo.2.2.2.2 (h5.less (by simp)) (Lib.hid (fun w' a6 h6 V6 X6 B6 o6 => ?_))
      refine wp_ret ?_
      try dsimp only [Exit.then, Exit.inBlock]
      rw [hS1]
      exact tk_end rfl g4 h6 V6 X6 B6 o6
    | false =>
      have hn1 : ¬((s.id = 2 ∧ 1 < s.val) ∨ (s.id = 5 ∧ (s.val < 16384 ∨ 16777215 < s.val))) := fun e => by have := hv.mpr e; cases this
      have hF2 := hFt.2 hn1
      refine wp_cond_false (h5.get (i := 191) (v := .bool false) (by simp)) ?_
      refine wp_skip ?_
      refine wp_seq ?_
      refine dtk_r31 (id := s.id) (val := s.val) (rv := rv) (rx := rx) (nb := nb) (fb := fb) (n := n) (cap := cap) (ad := ad) (most := most) (N := k) (i := i) a5 w4 q0 q1 (h5.less (by simp)) (Lib.hid (fun v a6 h6 hv => ?_))
      cases v with
      | true =>
        have hF1 := hF2.1 (hv.mp rfl)
        have hS1 : S = 3 := by rw [hSd, hdr, setsFault, hF1]; simp
        refine wp_cond_true (h6.get (i := 201) (v := .bool true) (by simp)) ?_
        refine wp_seq ?_
        refine dtk_r32 (rv := rv) (rx := rx) (nb := nb) a6 w4 g4.V g4.X g4.lo.2.2.1 g4.Z g4.lo.2.2.2.1 g4.lo.2.2.2.2 (h6.less (by simp)) (Lib.hid (fun w' a7 h7 V7 X7 B7 o7 => ?_))
        refine wp_ret ?_
        try dsimp only [Exit.then, Exit.inBlock]
        rw [hS1]
        exact tk_end rfl g4 h7 V7 X7 B7 o7
      | false =>
        have hF1 := hF2.2 (fun e => by have := hv.mpr e; cases this)
        refine wp_cond_false (h6.get (i := 201) (v := .bool false) (by simp)) ?_
        refine wp_skip ?_
        refine dtk_r27 (rv := rv) (rx := rx) (nb := nb) (fb := fb) (n := n) (cap := cap) (ad := ad) (most := most) (N := k) (i := i) a6 w4 (by have := hok.len; have := hok.cap; unfold maxLen at this; omega) (h6.less (by simp)) (Lib.hid (fun a7 h7 => ?_))
        refine ⟨f.sets.length - (i + 1), by omega, i + 1, rfl, by omega, ?_, below_step b2 b4, h7⟩
        rw [hSd, hdr, setsFault, hF1]; simp
  · refine wp_cond_false (h3.get (i := 161) (v := .bool false) (by simp [hlt])) ?_
    refine wp_exit ?_
    have hS0 : S = 0 := by rw [hSd, List.drop_eq_nil_of_le (by omega)]; rfl
    show (Fr.tail Tryd.f15 16).wp Tryd.prog _ a3 w2
    conv => arg 2; whnf
    refine wp_seq ?_
    refine dtk_r33 (rv := rv) (rx := rx) (N := k) a3 w2 g2.V g2.X g2.lo.2.2.1 U2 hfv hfx (by omega) (by omega) (h3.less (by simp)) (Lib.hid (fun w' a4 h4 V4 X4 B4 o4 => ?_))
    refine wp_ret ?_
    try dsimp only [Exit.then, Exit.inBlock]
    rw [hS0]
    refine dtk_ret h4 V4 X4 ?_
    have hz : ((9 + k : Nat) : Int) = 9 + (k : Int) := by omega
    refine ⟨sa, sc, by simp [hz], ?_, g2.ans B4 o4⟩
    exact frok_move (hok.below b2) (fun b o s e hlt => o4 b (hsb b o s e).1 (hsb b o s e).2 hlt)
end Go.Proofs.YtdilgkkkhmmffaaDoor

namespace Go.Proofs.YtdilgkkkhmmffaaDoor
open Go.RowKit
open Fra Oct Arg Mem Gen Qu Go.Proofs.YtdilgkkkhmmffaaDoor.Obj
set_option linter.unusedVariables false
set_option linter.unusedSimpArgs false

/-- bodyF of its parts. -/
def bodyG (t fl st : Int) (n : Nat) (R : FrM × Bool) : FrM × Nat × FaM :=
  if ((t = 0 ∨ t = 1 ∨ t = 2 ∨ t = 3 ∨ t = 9) ∧ st = 0) ∨ ((t = 4 ∨ t = 6 ∨ t = 7) ∧ st ≠ 0) ∨ t = 5 then (noFr, 0, ofC 1)
  else if sizedB t fl n = false then (if t = 2 then (noFr, 9 + n, ⟨true, 6, st⟩) else (noFr, 0, ofC 6))
  else if R.2 = false then (noFr, 0, ofC 1)
  else if t = 8 ∧ R.1.inc = 0 then (if st = 0 then (noFr, 0, ofC 1) else (noFr, 9 + n, ⟨true, 1, st⟩))
  else if setsFault R.1.sets ≠ 0 then (noFr, 0, ofC (setsFault R.1.sets))
  else (R.1, 9 + n, noFa)
theorem body_g (l : List UInt8) (k : Nat) (h3 : 3 < l.length) (h4 : 4 < l.length) : bodyF l k = bodyG (l[3].toNat : Int) (l[4].toNat : Int) (at' l 5 4 % 2147483648) k (fieldsF (l[3].toNat : Int) (l[4].toNat : Int) (at' l 5 4 % 2147483648) ((l.drop 9).take k)) := by
  have e3 : l.getD 3 0 = l[3] := by simp [List.getD, h3]
  have e4 : l.getD 4 0 = l[4] := by simp [List.getD, h4]
  rw [bodyF, e3, e4]; rfl
theorem ite_fst {c : Prop} [Decidable c] {x y : FrM × Bool} {t st : Int} (hx : x.1.type = t ∧ x.1.stream = st) (hy : y.1.type = t ∧ y.1.stream = st) : (if c then x else y).1.type = t ∧ (if c then x else y).1.stream = st := by
  split <;> assumption
theorem fields_keep (t fl st : Int) (p : List UInt8) : (fieldsF t fl st p).1.type = t ∧ (fieldsF t fl st p).1.stream = st := by
  unfold fieldsF
  exact ite_fst ⟨rfl, rfl⟩ ⟨rfl, rfl⟩

set_option maxHeartbeats 1000000 in
theorem dtk_rest {w0 w : World} {rv rx nb fb n cap k : Nat} {ad : Option Addr} {most : Int} {f : FrM} {ok : Bool} {t st : Int} {sa : Option Addr} {sc : Nat} (a : Act) (h : Tk w0 rv rx nb w) (hf : Fb fb f sa sc w) (hok : FrOk f sa sc w)
    (hsb : ∀ b o s, sa = some ⟨b, o, s⟩ → b ≠ rv ∧ b ≠ rx) (hfv : fb ≠ rv) (hfx : fb ≠ rx) (hk : k ≤ 16777215) (ht : f.type = t) (hst : f.stream = st)
    (ha : Fr.Is 208 [(0, .slice ad n cap), (1, .int .i64 most), (4, .pointer (some ⟨rv, 0, none⟩)), (6, .pointer (some ⟨rx, 0, none⟩)), (7, .pointer (some ⟨nb, 0, none⟩)), (8, .int .i64 (k : Int)), (9, .pointer (some ⟨fb, 0, none⟩)), (12, .bool ok)] a) :
    (Fr.tail Tryd.f15 13).wp Tryd.prog (bodyPost Tryd.prog Tryd.f15 (TkEnd w0 (if ok = false then (noFr, 0, ofC 1)
      else if t = 8 ∧ f.inc = 0 then (if st = 0 then (noFr, 0, ofC 1) else (noFr, 9 + k, ⟨true, 1, st⟩))
      else if setsFault f.sets ≠ 0 then (noFr, 0, ofC (setsFault f.sets)) else (f, 9 + k, noFa)))) a w := by
  conv => arg 2; whnf
  refine wp_seq (wp_seq ?_)
  refine dtk_r19 (b := ok) a w ha (Lib.hid (fun a1 h1 => ?_))
  cases ok with
  | false =>
    rw [if_pos rfl]
    refine wp_cond_true (h1.get (i := 135) (v := .bool true) (by simp)) ?_
    refine wp_seq ?_
    refine dtk_r20 (rv := rv) (rx := rx) (nb := nb) a1 w h.V h.X h.lo.2.2.1 h.Z h.lo.2.2.2.1 h.lo.2.2.2.2 (h1.less (by simp)) (Lib.hid (fun w' a2 h2 V X B o => ?_))
    refine wp_ret ?_
    try dsimp only [Exit.then, Exit.inBlock]
    exact tk_end rfl h h2 V X B o
  | true =>
    rw [if_neg (by decide)]
    refine wp_cond_false (h1.get (i := 135) (v := .bool false) (by simp)) ?_
    refine wp_skip ?_
    refine wp_seq (wp_seq ?_)
    refine dtk_r21 (t := f.type) (inc := f.inc) (rv := rv) (rx := rx) (nb := nb) (fb := fb) (n := n) (cap := cap) (ad := ad) (most := most) (N := k) a1 w (hf.cellz 0) (hf.cellz 8) (h1.less (by simp)) (Lib.hid (fun v a2 h2 hv => ?_))
    rw [ht] at hv
    cases v with
    | true =>
      rw [if_pos (hv.mp rfl)]
      refine wp_cond_true (h2.get (i := 145) (v := .bool true) (by simp)) ?_
      refine wp_seq (wp_seq ?_)
      refine dtk_r22 (st := f.stream) (rv := rv) (rx := rx) (nb := nb) (fb := fb) (n := n) (cap := cap) (ad := ad) (most := most) (N := k) a2 w (hf.cellz 2) (h2.less (by simp)) (Lib.hid (fun v a3 h3 hv => ?_))
      rw [hst] at hv
      cases v with
      | true =>
        rw [if_pos (hv.mp rfl)]
        refine wp_cond_true (h3.get (i := 148) (v := .bool true) (by simp)) ?_
        refine wp_seq ?_
        refine dtk_r23 (rv := rv) (rx := rx) (nb := nb) a3 w h.V h.X h.lo.2.2.1 h.Z h.lo.2.2.2.1 h.lo.2.2.2.2 (h3.less (by simp)) (Lib.hid (fun w' a4 h4 V X B o => ?_))
        refine wp_ret ?_
        try dsimp only [Exit.then, Exit.inBlock]
        exact tk_end rfl h h4 V X B o
      | false =>
        rw [if_neg (fun e => by have := hv.mpr e; cases this)]
        refine wp_cond_false (h3.get (i := 148) (v := .bool false) (by simp)) ?_
        refine wp_skip ?_
        refine wp_seq ?_
        refine dtk_r24 (rv := rv) (rx := rx) (nb := nb) (fb := fb) (N := k) (st := st) a3 w h.V h.X h.lo.2.2.1 h.Z h.lo.2.2.2.1 h.lo.2.2.2.2 (by rw [← hst]; exact hf.cellz 2) hfv hfx (by omega) (by omega) (h3.less (by simp)) (Lib.hid (fun w' a4 h4 V X B o => ?_))
        refine wp_ret ?_
        try dsimp only [Exit.then, Exit.inBlock]
        exact tk_end (by omega) h h4 V X B o
    | false =>
      rw [if_neg (fun e => by have := hv.mpr e; cases this)]
      refine wp_cond_false (h2.get (i := 145) (v := .bool false) (by simp)) ?_
      refine wp_skip ?_
      exact dtk_loop (n := n) (cap := cap) (ad := ad) (most := most) a2 h hf hok hsb hfv hfx hk (h2.less (by simp))

set_option maxHeartbeats 1000000 in
theorem dtk_body {w0 w : World} {rv rx nb cap k : Nat} {ad : Option Addr} {most : Int} {l : List UInt8} (a : Act) (h : Tk w0 rv rx nb w) (hr : RB w0 ad l) (hc : l.length ≤ cap) (hm : cap ≤ maxLen) (hl : 9 + k ≤ l.length) (hk : k ≤ 16777215)
    (ha : Fr.Is 208 [(0, .slice ad l.length cap), (1, .int .i64 most), (4, .pointer (some ⟨rv, 0, none⟩)), (6, .pointer (some ⟨rx, 0, none⟩)), (7, .pointer (some ⟨nb, 0, none⟩)), (8, .int .i64 (k : Int))] a) :
    (Fr.tail Tryd.f15 6).wp Tryd.prog (bodyPost Tryd.prog Tryd.f15 (TkEnd w0 (bodyF l k))) a w := by
  rw [body_g l k (by omega) (by omega)]
  conv => arg 2; whnf
  obtain ⟨b, off, rfl, hcl⟩ : ∃ b off, ad = some ⟨b, off, none⟩ ∧ ∀ i, (h : i < l.length) → w0.cell? ⟨b, off + i, none⟩ = some (.int .u8 (l[i].toNat : Int)) := by
    rcases hr with h | h
    · rw [h] at hl; simp at hl
    · exact h
  have hml : l.length ≤ maxLen := Nat.le_trans hc hm
  have hV := at_bd l 5 4 (by decide)
  obtain ⟨p, hp⟩ : ∃ p, p = (l.drop 9).take k := ⟨_, rfl⟩
  have hpl : p.length = k := by rw [hp, List.length_take, List.length_drop]; omega
  rw [← hp]
  refine wp_seq ?_
  refine dtk_r9 (rv := rv) (rx := rx) (nb := nb) (n := l.length) (cap := cap) (b := b) (off := off) (most := most) (N := k) (V := at' l 5 4) (c := l[3]) (d := l[4]) a w (by omega) (below_cell h.bel (hcl 3 (by omega))) (below_cell h.bel (hcl 4 (by omega))) (Lib.hid (fun v hv => rat_any _ l cap 5 4 v hml ((hr.below h.bel).below hv) (by decide) (by decide) (by omega))) hV.1 hV.2 ha (Lib.hid (fun w1 a1 h1 hf b1 => ?_))
  have h3l := (l[3]).toNat_lt
  have h4l := (l[4]).toNat_lt
  have ht0 : (0 : Int) ≤ (l[3].toNat : Int) := by omega
  have hf0 : (0 : Int) ≤ (l[4].toNat : Int) := by omega
  have hf1 : (l[4].toNat : Int) ≤ 255 := by omega
  generalize (l[3].toNat : Int) = t at *
  generalize (l[4].toNat : Int) = fl at *
  generalize at' l 5 4 % 2147483648 = st at *
  have g1 := h.below b1
  have hrl : rv < w.heap.size := (Array.getElem?_eq_some_iff.1 h.V).1
  have hxl : rx < w.heap.size := (Array.getElem?_eq_some_iff.1 h.X).1
  have hfv : w.heap.size ≠ rv := by omega
  have hfx : w.heap.size ≠ rx := by omega
  obtain ⟨fb, hfb⟩ : ∃ fb, fb = w.heap.size := ⟨_, rfl⟩
  rw [← hfb] at h1 hf hfv hfx
  refine wp_seq ?_
  refine dtk_r10 (t := t) a1 w1 (hf.cellz 0) h1 (Lib.hid (fun v10 a2 h2 e10 => ?_))
  refine wp_seq ?_
  refine dtk_r11 (t := t) (b10 := v10) a2 w1 (hf.cellz 0) h2 (Lib.hid (fun v11 a3 h3 e11 => ?_))
  refine wp_seq (wp_seq ?_)
  refine dtk_r12 (t := t) (st := st) (b10 := v10) (b11 := v11) a3 w1 (hf.cellz 0) (hf.cellz 2) h3 (Lib.hid (fun v a4 h4 hv => ?_))
  rw [e10, e11] at hv
  cases v with
  | true =>
    rw [bodyG, if_pos (hv.mp rfl)]
    refine wp_cond_true (h4.get (i := 101) (v := .bool true) (by simp)) ?_
    refine wp_seq ?_
    refine dtk_r13 (rv := rv) (rx := rx) (nb := nb) a4 w1 g1.V g1.X g1.lo.2.2.1 g1.Z g1.lo.2.2.2.1 g1.lo.2.2.2.2 (h4.less (by simp)) (Lib.hid (fun w' a5 h5 V X B o => ?_))
    refine wp_ret ?_
    try dsimp only [Exit.then, Exit.inBlock]
    exact tk_end rfl g1 h5 V X B o
  | false =>
    rw [bodyG, if_neg (fun e => by have := hv.mpr e; cases this)]
    refine wp_cond_false (h4.get (i := 101) (v := .bool false) (by simp)) ?_
    refine wp_skip ?_
    have HS := fun v => rsized_any (hdrF t fl st) none 0 k v hf0 hf1 (by omega)
    change ∀ v, Calls _ _ _ v (fun e w' => e = .returned (.bool (sizedB t fl k)) ∧ _) at HS
    refine wp_seq (wp_seq ?_)
    refine dtk_r14 (rv := rv) (rx := rx) (nb := nb) (fb := fb) (n := l.length) (cap := cap) (ad := some ⟨b, off, none⟩) (most := most) (N := k) (s := sizedB t fl k) a4 w1 hf (Lib.hid (fun v _ => HS v)) (h4.less (by simp)) (Lib.hid (fun w5 v a5 h5 b5 hv2 => ?_))
    have g5 := g1.below b5
    have f5 : Fb fb (hdrF t fl st) none 0 w5 := block_below b5 hf
    change v = true ↔ sizedB t fl k = false ∧ t = 2 at hv2
    cases v with
    | true =>
      obtain ⟨hs, h2⟩ := hv2.mp rfl
      rw [if_pos hs, if_pos h2]
      refine wp_cond_true (h5.get (i := 112) (v := .bool true) (by simp)) ?_
      refine wp_seq ?_
      refine dtk_r15 (rv := rv) (rx := rx) (nb := nb) (fb := fb) (N := k) (st := st) a5 w5 g5.V g5.X g5.lo.2.2.1 g5.Z g5.lo.2.2.2.1 g5.lo.2.2.2.2 (f5.cellz 2) hfv hfx (by omega) (by omega) (h5.less (by simp)) (Lib.hid (fun w' a6 h6 V X B o => ?_))
      refine wp_ret ?_
      try dsimp only [Exit.then, Exit.inBlock]
      exact tk_end (by omega) g5 h6 V X B o
    | false =>
      refine wp_cond_false (h5.get (i := 112) (v := .bool false) (by simp)) ?_
      refine wp_skip ?_
      refine wp_seq (wp_seq ?_)
      refine dtk_r16 (rv := rv) (rx := rx) (nb := nb) (fb := fb) (n := l.length) (cap := cap) (ad := some ⟨b, off, none⟩) (most := most) (N := k) (s := sizedB t fl k) a5 w5 f5 (Lib.hid (fun v _ => HS v)) (h5.less (by simp)) (Lib.hid (fun w6 a6 h6 b6 => ?_))
      have g6 := g5.below b6
      have f6 : Fb fb (hdrF t fl st) none 0 w6 := block_below b6 f5
      cases hs : sizedB t fl k with
      | false =>
        rw [hs] at h6
        rw [if_pos rfl, if_neg (fun e => by have := hv2.mpr ⟨hs, e⟩; cases this)]
        refine wp_cond_true (h6.get (i := 122) (v := .bool true) (by simp)) ?_
        refine wp_seq ?_
        refine dtk_r17 (rv := rv) (rx := rx) (nb := nb) a6 w6 g6.V g6.X g6.lo.2.2.1 g6.Z g6.lo.2.2.2.1 g6.lo.2.2.2.2 (h6.less (by simp)) (Lib.hid (fun w' a7 h7 V X B o => ?_))
        refine wp_ret ?_
        try dsimp only [Exit.then, Exit.inBlock]
        exact tk_end rfl g6 h7 V X B o
      | true =>
        rw [hs] at h6
        rw [if_neg (by decide)]
        refine wp_cond_false (h6.get (i := 122) (v := .bool false) (by simp)) ?_
        refine wp_skip ?_
        have hfk := fields_keep t fl st p
        have HC : ∀ v, Below w6.heap.size w6 v → Calls Tryd.prog 31 #[frV (hdrF t fl st) none 0, .slice (Sl.adOf (some ⟨b, off, none⟩) cap 9 1) k (cap - 9)] v (FiEnd v (fieldsF t fl st p)) := fun v hv => by
          have z : Pz v (Sl.adOf (some ⟨b, off, none⟩) cap 9 1) (cap - 9) p := ⟨by rw [hp]; exact (((Sl.rb_from hr 9 hc).take k).below g6.bel).below hv, by omega, by omega⟩
          have := rfields06_any t fl st _ _ p v ht0 hf0 hf1 z (by omega) (by rw [hpl]; exact hs)
          rw [hpl] at this
          exact this
        generalize hR : fieldsF t fl st p = R at *
        obtain ⟨f2, ok⟩ := R
        refine wp_seq ?_
        refine dtk_r18 (rv := rv) (rx := rx) (nb := nb) (fb := fb) (n := l.length) (cap := cap) (k := k) (ad := some ⟨b, off, none⟩) (most := most) a6 w6 f6 hl hc (by unfold maxLen at hm; exact hm) (Lib.hid HC) (h6.less (by simp)) (Lib.hid (fun w7 w8 sa1 sc1 a7 h7 ok7 hn7 b7 f8 b8 o8 => ?_))
        have g7 := g6.below b7
        have hrl7 : rv < w6.heap.size := (Array.getElem?_eq_some_iff.1 g6.V).1
        have hxl7 : rx < w6.heap.size := (Array.getElem?_eq_some_iff.1 g6.X).1
        have hfl7 : fb < w6.heap.size := (Array.getElem?_eq_some_iff.1 f6).1
        have hnl7 : nb < w.heap.size := (Array.getElem?_eq_some_iff.1 h.Z).1
        have hw0 := h.bel.size
        have g8 : Tk w0 rv rx nb w8 := ⟨⟨b8.os.trans g7.bel.os, b8.tape.trans g7.bel.tape, b8.output.trans g7.bel.output, Nat.le_trans g7.bel.size b8.size, fun i hi => (o8 i (by omega)).trans (g7.bel.block i hi)⟩, (o8 rv (fun e => hfv e.symm)).trans g7.V, (o8 rx (fun e => hfx e.symm)).trans g7.X, (o8 nb (by omega)).trans g7.Z, g7.lo⟩
        have ok8 : FrOk f2 sa1 sc1 w8 := frok_move ok7 (fun b' o' s' e _ => o8 b' (by have := hn7 b' o' s' e; omega))
        exact dtk_rest (t := t) (st := st) (n := l.length) (cap := cap) (ad := some ⟨b, off, none⟩) (most := most) a7 g8 f8 ok8 (fun b' o' s' e => by have := hn7 b' o' s' e; exact ⟨by omega, by omega⟩) hfv hfx hk hfk.1 hfk.2 h7

set_option maxRecDepth 100000 in
set_option maxHeartbeats 4000000 in
theorem rtake06_any (l : List UInt8) (ad : Option Addr) (cap : Nat) (most : Int) (w : World) (hr : RB w ad l) (hc : l.length ≤ cap) (hm : cap ≤ maxLen) :
    Calls Tryd.prog 15 #[.slice ad l.length cap, .int .i64 most] w (TkEnd w (takeF l most)) := by
  have hml : l.length ≤ maxLen := Nat.le_trans hc hm
  go_enter Tryd.func15, Tryd.ntmps15
  refine wp_seq ?_
  refine dtk_r0 (n := l.length) (cap := cap) (ad := ad) (most := most) _ w (Fr.Is.mk rfl rfl) (Lib.hid (fun a1 h1 => ?_))
  have V1 : Fb w.heap.size noFr none 0 ((w.alloc (.cells #[.int .i64 0, .int .i64 0, .int .i64 0, .string ⟨#[]⟩, .int .i64 0, .slice none 0 0, .int .i64 0, .int .i64 0, .int .i64 0, .int .i64 0, .int .i64 0, .bool false] 24)).alloc (.cells #[.bool false, .int .i64 0, .int .i64 0] 33)) := alloc_at (heap_alloc_new w _)
  have X1 := alloc_two w (.cells #[.int .i64 0, .int .i64 0, .int .i64 0, .string ⟨#[]⟩, .int .i64 0, .slice none 0 0, .int .i64 0, .int .i64 0, .int .i64 0, .int .i64 0, .int .i64 0, .bool false] 24) (.cells #[.bool false, .int .i64 0, .int .i64 0] 33)
  have B1 : Below w.heap.size w ((w.alloc (.cells #[.int .i64 0, .int .i64 0, .int .i64 0, .string ⟨#[]⟩, .int .i64 0, .slice none 0 0, .int .i64 0, .int .i64 0, .int .i64 0, .int .i64 0, .int .i64 0, .bool false] 24)).alloc (.cells #[.bool false, .int .i64 0, .int .i64 0] 33)) := below_step (bel_al _ _) (bel_al _ _)
  generalize (w.alloc (.cells #[.int .i64 0, .int .i64 0, .int .i64 0, .string ⟨#[]⟩, .int .i64 0, .slice none 0 0, .int .i64 0, .int .i64 0, .int .i64 0, .int .i64 0, .int .i64 0, .bool false] 24)).alloc (.cells #[.bool false, .int .i64 0, .int .i64 0] 33) = w1 at V1 X1 B1 ⊢
  refine wp_seq ?_
  refine dtk_r1 a1 w1 h1 (Lib.hid (fun w2 a2 h2 Z2 b2 => ?_))
  have hxl : w.heap.size + 1 < w1.heap.size := (Array.getElem?_eq_some_iff.1 X1).1
  have g2 : Tk w w.heap.size (w.heap.size + 1) w1.heap.size w2 := ⟨below_step B1 b2, block_below b2 V1, block_below b2 X1, Z2, Nat.le_refl _, by omega, by omega, by omega, by omega⟩
  obtain ⟨nb, hnb⟩ : ∃ nb, nb = w1.heap.size := ⟨_, rfl⟩
  rw [← hnb] at g2 h2
  clear V1 X1 B1 b2 Z2 hxl
  refine wp_seq (wp_seq ?_)
  refine dtk_r2 (n := l.length) (cap := cap) (ad := ad) (most := most) a2 w2 h2 (Lib.hid (fun a3 h3 => ?_))
  by_cases h9 : l.length < 9
  · have hT : takeF l most = (noFr, 0, noFa) := by rw [takeF, if_pos h9]
    rw [hT]
    refine wp_cond_true (h3.get (i := 18) (v := .bool true) (by simp; omega)) ?_
    refine wp_seq ?_
    refine dtk_r3 (rv := w.heap.size) (rx := w.heap.size + 1) (nb := nb) a3 w2 g2.V g2.X g2.lo.2.2.1 g2.Z g2.lo.2.2.2.1 g2.lo.2.2.2.2 (h3.less (by simp)) (Lib.hid (fun w' a4 h4 V X B o => ?_))
    refine wp_ret ?_
    try dsimp only [Exit.then, Exit.inBlock]
    exact tk_end rfl g2 h4 V X B o
  · refine wp_cond_false (h3.get (i := 18) (v := .bool false) (by simp; omega)) ?_
    refine wp_skip ?_
    have hN := beI_small ((l.drop 0).take 3) (by simp; omega)
    change 0 ≤ at' l 0 3 ∧ at' l 0 3 < 16777216 at hN
    have hlen : at' l 0 3 = ((lenN l : Nat) : Int) := by rw [lenN]; omega
    have hk : lenN l ≤ 16777215 := by omega
    refine wp_seq ?_
    refine dtk_r4 (rv := w.heap.size) (rx := w.heap.size + 1) (nb := nb) (n := l.length) (cap := cap) (ad := ad) (most := most) (N := at' l 0 3) a3 w2 (Lib.hid (rat_any ad l cap 0 3 w2 hml (hr.below g2.bel) (by decide) (by decide) (by omega))) hN.1 (by omega) (h3.less (by simp)) (Lib.hid (fun a4 h4 => ?_))
    rw [hlen] at h4
    refine wp_seq (wp_seq ?_)
    refine dtk_r5 a4 w2 h4 (Lib.hid (fun a5 h5 => ?_))
    by_cases hmo : most < lenN l
    · have hT : takeF l most = (noFr, 0, ofC 6) := by rw [takeF, if_neg h9, if_pos (by omega)]
      rw [hT]
      refine wp_cond_true (h5.get (i := 25) (v := .bool true) (by simp; omega)) ?_
      refine wp_seq ?_
      refine dtk_r6 (rv := w.heap.size) (rx := w.heap.size + 1) (nb := nb) a5 w2 g2.V g2.X g2.lo.2.2.1 g2.Z g2.lo.2.2.2.1 g2.lo.2.2.2.2 (h5.less (by simp)) (Lib.hid (fun w' a6 h6 V X B o => ?_))
      refine wp_ret ?_
      try dsimp only [Exit.then, Exit.inBlock]
      exact tk_end rfl g2 h6 V X B o
    · refine wp_cond_false (h5.get (i := 25) (v := .bool false) (by simp; omega)) ?_
      refine wp_skip ?_
      refine wp_seq (wp_seq ?_)
      refine dtk_r7 (N := (lenN l : Int)) (rv := w.heap.size) (rx := w.heap.size + 1) (nb := nb) (n := l.length) (cap := cap) (ad := ad) (most := most) a5 w2 (by omega) (by unfold maxLen at hml; omega) (h5.less (by simp)) (Lib.hid (fun a6 h6 => ?_))
      by_cases hsh : l.length < 9 + lenN l
      · have hT : takeF l most = (noFr, 0, noFa) := by rw [takeF, if_neg h9, if_neg (by omega), if_pos hsh]
        rw [hT]
        refine wp_cond_true (h6.get (i := 32) (v := .bool true) (by simp; omega)) ?_
        refine wp_seq ?_
        refine dtk_r8 (rv := w.heap.size) (rx := w.heap.size + 1) (nb := nb) a6 w2 g2.V g2.X g2.lo.2.2.1 g2.Z g2.lo.2.2.2.1 g2.lo.2.2.2.2 (h6.less (by simp)) (Lib.hid (fun w' a7 h7 V X B o => ?_))
        refine wp_ret ?_
        try dsimp only [Exit.then, Exit.inBlock]
        exact tk_end rfl g2 h7 V X B o
      · have hT : takeF l most = bodyF l (lenN l) := by rw [takeF, if_neg h9, if_neg (by omega), if_neg hsh]
        rw [hT]
        refine wp_cond_false (h6.get (i := 32) (v := .bool false) (by simp; omega)) ?_
        refine wp_skip ?_
        exact dtk_body (most := most) a6 g2 hr hc hm (by omega) hk (h6.less (by simp))
end Go.Proofs.YtdilgkkkhmmffaaDoor

namespace Go.Proofs.YtdilgkkkhmmffaaDoor
open Go.RowKit
open Fra Oct Arg Mem Gen Go.Proofs.YtdilgkkkhmmffaaDoor.Obj
set_option linter.unusedVariables false
set_option linter.unusedSimpArgs false

theorem same_ret {R : Ending → World → Prop} {b : Bool} {a : Act} {w' : World} (ha : Fr.Is 106 [(4, .bool b)] a) (hR : R (.returned (.bool b)) w') : bodyPost Tryd.prog Tryd.f16 R .ret a w' := by
  obtain ⟨fr, rfl, hfr⟩ := ha.lit
  simp only [List.map_cons, List.map_nil, List.cons.injEq, and_true] at hfr
  refine bodyPost_ret (v := .bool b) ?_ rfl hR
  simp [results, Tryd.results16, go_sem, hfr]
theorem drop_same {s t : List StM} {i : Nat} (hi : i < s.length) (hj : i < t.length) (h : s.drop i = t.drop i ↔ s = t) (he : s[i] = t[i]) : s.drop (i + 1) = t.drop (i + 1) ↔ s = t := by
  rw [← h, List.drop_eq_getElem_cons hi, List.drop_eq_getElem_cons hj, he]
  constructor
  · intro e; rw [e]
  · intro e; exact (List.cons.inj e).2
theorem belowN (w : World) (n : Nat) : Below w.heap.size w (w.drewN n) := by
  induction n with
  | zero => exact Below.refl _ _
  | succ n ih => exact ih.drew

set_option maxHeartbeats 1000000 in
theorem rsame_any (f g : FrM) (sa sb : Option Addr) (sc sd : Nat) (w : World) (hf : FrOk f sa sc w) (hg : FrOk g sb sd w) :
    Calls Tryd.prog 16 #[frV f sa sc, frV g sb sd] w fun e w' => e = .returned (.bool (decide (f = g))) ∧ Below w.heap.size w w' := by
  unfold frV
  go_enter Tryd.func16, Tryd.ntmps16
  refine wp_seq ?_
  refine sam_r0 (cs := frC f sa sc) (ds := frC g sb sd) _ w (Fr.Is.mk rfl rfl) (Lib.hid (fun a1 h1 => ?_))
  have V1 : Fb w.heap.size f sa sc ((w.alloc (.cells (frC f sa sc) 24)).alloc (.cells (frC g sb sd) 24)) := alloc_at (heap_alloc_new w _)
  have V2 : Fb (w.heap.size + 1) g sb sd ((w.alloc (.cells (frC f sa sc) 24)).alloc (.cells (frC g sb sd) 24)) := alloc_two w _ _
  have B1 : Below w.heap.size w ((w.alloc (.cells (frC f sa sc) 24)).alloc (.cells (frC g sb sd) 24)) := below_step (bel_al _ _) (bel_al _ _)
  generalize (w.alloc (.cells (frC f sa sc) 24)).alloc (.cells (frC g sb sd) 24) = w1 at V1 V2 B1 ⊢
  refine wp_seq (wp_seq ?_)
  refine sam_r1 a1 w1 (V1.cellz 5) (V2.cellz 5) h1 (Lib.hid (fun a2 h2 => ?_))
  by_cases hl : f.sets.length = g.sets.length
  · refine wp_cond_false (h2.get (i := 12) (v := .bool false) (by simp [hl])) ?_
    refine wp_skip ?_
    refine wp_seq (wp_seq ?_)
    refine sam_r3 (b1 := w.heap.size) (b2 := w.heap.size + 1) a2 w1 (h2.less (by simp)) (Lib.hid (fun a3 h3 => ?_))
    refine wp_block ?_
    refine wp_loop_ghost (fun n a' w' => ∃ i, n = f.sets.length - i ∧ i ≤ f.sets.length ∧ (f.sets.drop i = g.sets.drop i ↔ f.sets = g.sets) ∧ Below w1.heap.size w1 w' ∧ Fr.Is 106 [(2, .pointer (some ⟨w.heap.size, 0, none⟩)), (3, .pointer (some ⟨w.heap.size + 1, 0, none⟩)), (5, .int .i64 i)] a') (f.sets.length - 0)
      ⟨0, rfl, Nat.zero_le _, by simp, Below.refl _ _, h3⟩ ?_
    rintro n a4 w4 ⟨i, rfl, hi, hd, b4, h4⟩
    have U1 := block_below b4 V1
    have U2 := block_below b4 V2
    have Bw := below_step B1 b4
    refine wp_seq (wp_seq ?_)
    refine sam_r4 (n := f.sets.length) (sc := sc) (sa := sa) a4 w4 (Fb.cellz U1 5) h4 (Lib.hid (fun a5 h5 => ?_))
    by_cases hlt : i < f.sets.length
    · refine wp_cond_true (h5.get (i := 17) (v := .bool true) (by simp [hlt])) ?_
      refine wp_skip ?_
      refine wp_seq (wp_block ?_)
      have hlt2 : i < g.sets.length := by omega
      obtain ⟨p1, o1, rfl, hc1⟩ : ∃ b off, sa = some ⟨b, off, none⟩ ∧ ∀ i, (h : i < f.sets.length) → Rw.CE ESt w b (off + i * 2) f.sets[i] := by
        rcases hf.row with h | h
        · rw [h] at hlt; simp at hlt
        · exact h
      obtain ⟨p2, o2, rfl, hc2⟩ : ∃ b off, sb = some ⟨b, off, none⟩ ∧ ∀ i, (h : i < g.sets.length) → Rw.CE ESt w b (off + i * 2) g.sets[i] := by
        rcases hg.row with h | h
        · rw [h] at hlt2; simp at hlt2
        · exact h
      obtain ⟨x0, x1⟩ := CE_st (hc1 i hlt)
      obtain ⟨y0, y1⟩ := CE_st (hc2 i hlt2)
      refine wp_seq ?_
      refine sam_r6 (i := i) (n := f.sets.length) (m := g.sets.length) (sc := sc) (sd := sd) (g1 := p1) (g2 := p2) (o1 := o1) (o2 := o2) (s := f.sets[i]) (t := g.sets[i]) a5 w4 (Fb.cellz U1 5) (Fb.cellz U2 5) hlt hlt2 (below_cell Bw x0) (below_cell Bw x1) (below_cell Bw y0) (below_cell Bw y1) (h5.less (by simp)) (Lib.hid (fun nq a6 h6 => ?_))
      have b6 := below_step b4 (belowN w4 nq)
      by_cases he : f.sets[i] = g.sets[i]
      · refine wp_cond_false (h6.get (i := 30) (v := .bool false) (by simp [he])) ?_
        refine wp_skip ?_
        refine sam_r5 (b1 := w.heap.size) (b2 := w.heap.size + 1) (i := i) a6 _ (by have := hf.len; have := hf.cap; unfold maxLen at this; omega) (h6.less (by simp)) (Lib.hid (fun a7 h7 => ?_))
        refine ⟨f.sets.length - (i + 1), by omega, i + 1, rfl, by omega, drop_same hlt hlt2 hd he, b6, ?_⟩
        exact h7
      · refine wp_cond_true (h6.get (i := 30) (v := .bool true) (by simp [he])) ?_
        refine wp_seq ?_
        refine sam_r7 (b1 := w.heap.size) (b2 := w.heap.size + 1) a6 _ (h6.less (by simp)) (Lib.hid (fun a7 h7 => ?_))
        refine wp_ret ?_
        try dsimp only [Exit.then, Exit.inBlock]
        have hne : f ≠ g := fun e => he (by subst e; rfl)
        rw [decide_eq_false hne]
        exact same_ret h7 ⟨rfl, below_step B1 b6⟩
    · refine wp_cond_false (h5.get (i := 17) (v := .bool false) (by simp [hlt])) ?_
      refine wp_exit ?_
      have hs : f.sets = g.sets := hd.mp (by rw [List.drop_eq_nil_of_le (by omega), List.drop_eq_nil_of_le (by omega)])
      obtain ⟨c0, c1, c2, c3, c4, c5, c6, c7, c8, c9, c10, c11⟩ := fr_cells U1
      obtain ⟨d0, d1, d2, d3, d4, d5, d6, d7, d8, d9, d10, d11⟩ := fr_cells U2
      show (Fr.tail Tryd.f16 3).wp Tryd.prog _ a5 w4
      conv => arg 2; whnf
      refine wp_seq ?_
      refine sam_r8 a5 w4 c0 c1 c2 c3 c4 c6 c7 c8 c9 c10 c11 d0 d1 d2 d3 d4 d6 d7 d8 d9 d10 d11 (h5.less (by simp)) (Lib.hid (fun v a6 h6 hv => ?_))
      refine wp_ret ?_
      try dsimp only [Exit.then, Exit.inBlock]
      have hve : v = decide (f = g) := by
        rw [Bool.eq_iff_iff, hv, decide_eq_true_eq]
        constructor
        · rintro ⟨e0, e1, e2, e3, e4, e6, e7, e8, e9, e10, e11⟩
          obtain ⟨⟩ := f
          obtain ⟨⟩ := g
          simp only at *
          subst e0 e1 e2 e3 e4 e6 e7 e8 e9 e10 e11 hs
          rfl
        · rintro rfl; exact ⟨rfl, rfl, rfl, rfl, rfl, rfl, rfl, rfl, rfl, rfl, rfl⟩
      rw [← hve]
      exact same_ret h6 ⟨rfl, Bw⟩
  · refine wp_cond_true (h2.get (i := 12) (v := .bool true) (by simp [hl])) ?_
    refine wp_seq ?_
    refine sam_r2 (b1 := w.heap.size) (b2 := w.heap.size + 1) a2 w1 (h2.less (by simp)) (Lib.hid (fun a3 h3 => ?_))
    refine wp_ret ?_
    try dsimp only [Exit.then, Exit.inBlock]
    have hne : f ≠ g := fun e => hl (by rw [e])
    rw [decide_eq_false hne]
    exact same_ret h3 ⟨rfl, B1⟩
end Go.Proofs.YtdilgkkkhmmffaaDoor

namespace Go.Proofs.YtdilgkkkhmmffaaDoor
open Go.RowKit
open Fra Oct Arg Mem Gen Wr Go.Proofs.YtdilgkkkhmmffaaDoor.Obj
set_option linter.unusedVariables false
set_option linter.unusedSimpArgs false

/-- Along Payload: the frame's box, the bytes so far. -/
structure Py (w0 : World) (B bx : Nat) (cs : Array Value) (oa : Option Addr) (oc : Nat) (out : List UInt8) (w : World) : Prop where
  fb : w.heap[bx]? = some (.cells cs 24 (0, 0))
  out : OutB B [bx] oa oc out w
  std : Std B [] w0 w
  hB : B ≤ w0.heap.size
section
variable {w0 w w' : World} {B bx oc oc' : Nat} {cs : Array Value} {oa oa' : Option Addr} {out Z : List UInt8}
theorem Py.bs (h : Py w0 B bx cs oa oc out w) : B ≤ w.heap.size ∧ ∀ k ∈ [bx], k < w.heap.size :=
  ⟨Nat.le_trans h.hB h.std.size, fun k hk => by simp at hk; subst hk; exact (Array.getElem?_eq_some_iff.1 h.fb).1⟩
theorem Py.below (h : Py w0 B bx cs oa oc out w) (hb : Below w.heap.size w w') : Py w0 B bx cs oa oc out w' :=
  ⟨block_below hb h.fb, h.out.below hb, h.std.then hb, h.hB⟩
theorem Py.grew (h : Py w0 B bx cs oa oc out w) (hG : Grew B [bx] w oa oa' oc' Z w') : Py w0 B bx cs oa' oc' Z w' :=
  ⟨(hG.std.block bx (h.bs.2 bx (by simp)) (.inr (by simp))).trans h.fb, hG.out, h.std.trans (hG.std.less (fun k hk => by cases hk)), h.hB⟩
theorem Py.after (h : Py w0 B bx cs oa oc out w) {w1 : World} (hb : Below w.heap.size w w1) (hG : Grew B [bx] w1 oa oa' oc' Z w') : Py w0 B bx cs oa' oc' Z w' := (h.below hb).grew hG
end
theorem rb_one (w : World) (t : TypeId) (v : Int) (c : UInt8) (h : v = (c.toNat : Int)) : RB (w.alloc (.cells #[.int .u8 v] t)) (some ⟨w.heap.size, 0, none⟩) [c] := by
  subst h
  exact .inr ⟨w.heap.size, 0, rfl, fun i hi => by
    have hi0 : i = 0 := by simp at hi; omega
    subst hi0
    simp⟩

section
variable {P : Program} {t tn : TypeId} {w : World} {ops : Array Oper} {o : Oper} {a : Act} {Q : Exit → Act → World → Prop}
/-- 'append(out, text...)' as a step of a walk. -/
theorem wl_text {rest : List Oper} (ht : P.underlying t = some (.slice 5)) (hk : P.underlying tn = some .string) (hi : (P.info? 5).map (fun i => (i.zero, i.size, i.bytes)) = some (some (.int .u8 0), 1, 1))
    (hgd : o.guard = none) (s x : Operand) (ho : o.op = .call { callee := .builtin .append, args := #[s, x], argTypes := #[t, tn] })
    {B : Nat} {L : List Nat} {oa : Option Addr} {oc n : Nat} {out : List UInt8} (hs : a.eval s = .slice oa n oc) (hn : n = out.length) (h : OutB B L oa oc out w) (hB : B ≤ w.heap.size) (hLw : ∀ k ∈ L, k < w.heap.size)
    {d : ByteArray} (hx : a.eval x = .string d)
    (l3 : List UInt8) (hl3 : l3 = out ++ d.data.toList) (hlen : l3.length ≤ 140737488355328)
    (hK : ∀ (oa' : Option Addr) (oc' : Nat) w', Hid (Grew B L w oa oa' oc' l3 w') → wpList P ops Q rest (a.put o.dst (.slice oa' l3.length oc')) w') :
    wpList P ops Q (o :: rest) a w := by
  obtain ⟨oa', oc', w', hrun, hG⟩ := run_text (P := P) w o.type ht hk hi h hB hLw d l3 hl3 hlen n hn
  refine wpList_step fun K hK2 => ?_
  have hw : Region.wanted o (yielded ops a.tmps) = true := by simp [Region.wanted, hgd]
  rw [if_pos hw]
  unfold Oper.wp
  simp [execOp, ho, resolve, invoke, builtin, hs, hx, hrun, Result.andThen]
  exact hK2 _ _ (hK _ _ _ (Lib.hid hG))
end

theorem rb_grew {B : Nat} {L : List Nat} {w w' : World} {oa oa' : Option Addr} {oc' : Nat} {l3 : List UInt8} (hG : Grew B L w oa oa' oc' l3 w') {b off : Nat} {l : List UInt8} (hr : RB w (some ⟨b, off, none⟩) l) (hlt : b < w.heap.size) (hne : ∀ o s, oa ≠ some ⟨b, o, s⟩) : RB w' (some ⟨b, off, none⟩) l := by
  rcases hr with h | ⟨b', o', e, hc⟩
  · exact .inl h
  · simp only [Option.some.injEq, Addr.mk.injEq, and_true] at e
    obtain ⟨rfl, rfl⟩ := e
    refine .inr ⟨b, off, rfl, fun i hi => ?_⟩
    rw [World.cell?_of_block (a := ⟨b, off + i, none⟩) (hG.blk b hlt hne)]
    exact hc i hi


set_option maxRecDepth 100000 in
set_option maxHeartbeats 2000000 in
theorem pyd_last {Q : Exit → Act → World → Prop} {w0 : World} {B bx : Nat} {cs : Array Value} {oa : Option Addr} {oc : Nat} {out : List UInt8} (a : Act) (w : World) (h : Py w0 B bx cs oa oc out w) {t v : Int} (hc0 : cs[0]? = some (.int .i64 t)) (hcs : cs[7]? = some (.int .i64 v)) (h0 : 0 ≤ v) (h1 : v < 4294967296) (hlen : out.length ≤ 900000000)
    (ha : Fr.Is 116 [(1, .pointer (some ⟨bx, 0, none⟩)), (3, .slice oa out.length oc)] a)
    (hQ : Hid (∀ a' w' oa' oc' Z, Hid (Z = out ++ if t = 7 then putL v 4 else []) → Fr.Is 116 [(1, .pointer (some ⟨bx, 0, none⟩)), (3, .slice oa' Z.length oc')] a' → Py w0 B bx cs oa' oc' Z w' → Q .normal a' w')) :
    (Fr.navL (Fr.tail Tryd.f22 5)).wp Tryd.prog Q a w := by
  have H := Lib.hid h
  have hinfo := Lib.hid info_u8
  have c0 := (cell_at h.fb 0).trans hc0
  have cx := (cell_at h.fb 7).trans hcs
  clear hc0 hcs
  clear h
  obtain ⟨fr, rfl, hfr⟩ := ha.lit
  simp only [List.map_cons, List.map_nil, List.cons.injEq, and_true] at hfr
  conv => arg 2; whnf
  simp only [List.range, List.range.loop, List.map_cons, List.map_nil, hfr]
  clear hfr ha
  by_cases ht : t = 7
  · rw [if_pos ht] at hQ
    subst t
    obtain ⟨Z, hZ⟩ : ∃ Z, Z = out ++ putL v 4 := ⟨_, rfl⟩
    have hZl : Z.length ≤ 140737488355328 := by rw [hZ]; simp only [List.length_append, putL_length, List.length_cons, List.length_nil]; omega
    have HZ := Lib.hid hZ
    have HNe : Hid (putL v 4 ≠ []) := Lib.hid (fun e => by have := congrArg List.length e; simp [putL_length] at this)
    clear hZ
    go_wp2_with fail
    refine (rfour_any v _ h0 h1).mono ?_; rintro e w1 ⟨ad, cp, rfl, hown, b1⟩
    have HR : Hid (RB w1 ad (putL v 4)) := Lib.hid (RB.of_own hown.out)
    have H1 := Lib.hid (H.out.below b1)
    clear hown b1
    generalize putL v 4 = Y at HNe HR HZ hQ
    go_wp2_with (at_builtin; refine wl_bytes Tryd.underlying27 hinfo.out rfl (.tmp 76) (.tmp 79) rfl rfl rfl H1.out.out H1.out.bs.1 H1.out.bs.2 rfl rfl HNe.out HR.out Z HZ.out hZl ?_; intro oa' oc' w' hG)
    exact hQ.out _ _ _ _ _ HZ (Fr.Is.mk rfl rfl) (H1.out.grew hG.out)
  · rw [if_neg ht, List.append_nil] at hQ
    have k7 : (t == 7) = false := by simp; omega
    go_wp2_with fail
    exact hQ.out _ _ _ _ _ (Lib.hid rfl) (Fr.Is.mk rfl rfl) H.out

set_option maxRecDepth 100000 in
set_option maxHeartbeats 2000000 in
theorem pyd_code {Q : Exit → Act → World → Prop} {w0 : World} {B bx : Nat} {cs : Array Value} {oa : Option Addr} {oc : Nat} {out : List UInt8} (a : Act) (w : World) (h : Py w0 B bx cs oa oc out w) {t v : Int} (hc0 : cs[0]? = some (.int .i64 t)) (hcs : cs[6]? = some (.int .i64 v)) (h0 : 0 ≤ v) (h1 : v < 4294967296) (hlen : out.length ≤ 900000000)
    (ha : Fr.Is 116 [(1, .pointer (some ⟨bx, 0, none⟩)), (3, .slice oa out.length oc)] a)
    (hQ : Hid (∀ a' w' oa' oc' Z, Hid (Z = out ++ if t = 7 ∨ t = 3 then putL v 4 else []) → Fr.Is 116 [(1, .pointer (some ⟨bx, 0, none⟩)), (3, .slice oa' Z.length oc')] a' → Py w0 B bx cs oa' oc' Z w' → Q .normal a' w')) :
    (Fr.navL (Fr.tail Tryd.f22 6)).wp Tryd.prog Q a w := by
  have H := Lib.hid h
  have hinfo := Lib.hid info_u8
  have c0 := (cell_at h.fb 0).trans hc0
  have cx := (cell_at h.fb 6).trans hcs
  clear hc0 hcs
  clear h
  obtain ⟨fr, rfl, hfr⟩ := ha.lit
  simp only [List.map_cons, List.map_nil, List.cons.injEq, and_true] at hfr
  conv => arg 2; whnf
  simp only [List.range, List.range.loop, List.map_cons, List.map_nil, hfr]
  clear hfr ha
  by_cases ht : t = 7 ∨ t = 3
  · rw [if_pos ht] at hQ
    rcases ht with rfl | rfl
    all_goals
      obtain ⟨Z, hZ⟩ : ∃ Z, Z = out ++ putL v 4 := ⟨_, rfl⟩
      have hZl : Z.length ≤ 140737488355328 := by rw [hZ]; simp only [List.length_append, putL_length, List.length_cons, List.length_nil]; omega
      have HZ := Lib.hid hZ
      have HNe : Hid (putL v 4 ≠ []) := Lib.hid (fun e => by have := congrArg List.length e; simp [putL_length] at this)
      clear hZ
      go_wp2_with fail
      refine (rfour_any v _ h0 h1).mono ?_; rintro e w1 ⟨ad, cp, rfl, hown, b1⟩
      have HR : Hid (RB w1 ad (putL v 4)) := Lib.hid (RB.of_own hown.out)
      have H1 := Lib.hid (H.out.below b1)
      clear hown b1
      generalize putL v 4 = Y at HNe HR HZ hQ
      go_wp2_with (at_builtin; refine wl_bytes Tryd.underlying27 hinfo.out rfl (.tmp 89) (.tmp 92) rfl rfl rfl H1.out.out H1.out.bs.1 H1.out.bs.2 rfl rfl HNe.out HR.out Z HZ.out hZl ?_; intro oa' oc' w' hG)
      exact hQ.out _ _ _ _ _ HZ (Fr.Is.mk rfl rfl) (H1.out.grew hG.out)
  · rw [if_neg ht, List.append_nil] at hQ
    have k7 : (t == 7) = false := by simp; omega
    have k3 : (t == 3) = false := by simp; omega
    go_wp2_with fail
    exact hQ.out _ _ _ _ _ (Lib.hid rfl) (Fr.Is.mk rfl rfl) H.out

set_option maxRecDepth 100000 in
set_option maxHeartbeats 2000000 in
theorem pyd_inc {Q : Exit → Act → World → Prop} {w0 : World} {B bx : Nat} {cs : Array Value} {oa : Option Addr} {oc : Nat} {out : List UInt8} (a : Act) (w : World) (h : Py w0 B bx cs oa oc out w) {t v : Int} (hc0 : cs[0]? = some (.int .i64 t)) (hcs : cs[8]? = some (.int .i64 v)) (h0 : 0 ≤ v) (h1 : v < 4294967296) (hlen : out.length ≤ 900000000)
    (ha : Fr.Is 116 [(1, .pointer (some ⟨bx, 0, none⟩)), (3, .slice oa out.length oc)] a)
    (hQ : Hid (∀ a' w' oa' oc' Z, Hid (Z = out ++ if t = 8 then putL v 4 else []) → Fr.Is 116 [(1, .pointer (some ⟨bx, 0, none⟩)), (3, .slice oa' Z.length oc')] a' → Py w0 B bx cs oa' oc' Z w' → Q .normal a' w')) :
    (Fr.navL (Fr.tail Tryd.f22 7)).wp Tryd.prog Q a w := by
  have H := Lib.hid h
  have hinfo := Lib.hid info_u8
  have c0 := (cell_at h.fb 0).trans hc0
  have cx := (cell_at h.fb 8).trans hcs
  clear hc0 hcs
  clear h
  obtain ⟨fr, rfl, hfr⟩ := ha.lit
  simp only [List.map_cons, List.map_nil, List.cons.injEq, and_true] at hfr
  conv => arg 2; whnf
  simp only [List.range, List.range.loop, List.map_cons, List.map_nil, hfr]
  clear hfr ha
  by_cases ht : t = 8
  · rw [if_pos ht] at hQ
    subst t
    obtain ⟨Z, hZ⟩ : ∃ Z, Z = out ++ putL v 4 := ⟨_, rfl⟩
    have hZl : Z.length ≤ 140737488355328 := by rw [hZ]; simp only [List.length_append, putL_length, List.length_cons, List.length_nil]; omega
    have HZ := Lib.hid hZ
    have HNe : Hid (putL v 4 ≠ []) := Lib.hid (fun e => by have := congrArg List.length e; simp [putL_length] at this)
    clear hZ
    go_wp2_with fail
    refine (rfour_any v _ h0 h1).mono ?_; rintro e w1 ⟨ad, cp, rfl, hown, b1⟩
    have HR : Hid (RB w1 ad (putL v 4)) := Lib.hid (RB.of_own hown.out)
    have H1 := Lib.hid (H.out.below b1)
    clear hown b1
    generalize putL v 4 = Y at HNe HR HZ hQ
    go_wp2_with (at_builtin; refine wl_bytes Tryd.underlying27 hinfo.out rfl (.tmp 97) (.tmp 100) rfl rfl rfl H1.out.out H1.out.bs.1 H1.out.bs.2 rfl rfl HNe.out HR.out Z HZ.out hZl ?_; intro oa' oc' w' hG)
    exact hQ.out _ _ _ _ _ HZ (Fr.Is.mk rfl rfl) (H1.out.grew hG.out)
  · rw [if_neg ht, List.append_nil] at hQ
    have k8 : (t == 8) = false := by simp; omega
    go_wp2_with fail
    exact hQ.out _ _ _ _ _ (Lib.hid rfl) (Fr.Is.mk rfl rfl) H.out

set_option maxRecDepth 100000 in
set_option maxHeartbeats 2000000 in
theorem pyd_data {Q : Exit → Act → World → Prop} {w0 : World} {B bx : Nat} {cs : Array Value} {oa : Option Addr} {oc : Nat} {out : List UInt8} (a : Act) (w : World) (h : Py w0 B bx cs oa oc out w) (d : ByteArray) (hcs : cs[3]? = some (.string d)) (hlen : (out ++ d.data.toList).length ≤ 140737488355328)
    (ha : Fr.Is 116 [(1, .pointer (some ⟨bx, 0, none⟩)), (3, .slice oa out.length oc)] a)
    (hQ : Hid (∀ a' w' oa' oc' Z, Hid (Z = out ++ d.data.toList) → Fr.Is 116 [(1, .pointer (some ⟨bx, 0, none⟩)), (3, .slice oa' Z.length oc')] a' → Py w0 B bx cs oa' oc' Z w' → Q .normal a' w')) :
    (Fr.reg Tryd.f22 20).wp Tryd.prog Q a w := by
  have H := Lib.hid h
  have hinfo := Lib.hid info_u8
  have c3 := (cell_at h.fb 3).trans hcs
  clear hcs
  obtain ⟨Z, hZ⟩ : ∃ Z, Z = out ++ d.data.toList := ⟨_, rfl⟩
  rw [← hZ] at hlen
  have HZ := Lib.hid hZ
  clear hZ
  clear h
  obtain ⟨fr, rfl, hfr⟩ := ha.lit
  simp only [List.map_cons, List.map_nil, List.cons.injEq, and_true] at hfr
  conv => arg 2; whnf
  simp only [List.range, List.range.loop, List.map_cons, List.map_nil, hfr]
  clear hfr ha
  go_wp2_with (at_builtin; refine wl_text Tryd.underlying27 Tryd.underlying9 hinfo.out rfl (.tmp 102) (.tmp 104) rfl rfl rfl H.out.out H.out.bs.1 H.out.bs.2 rfl Z HZ.out hlen ?_; intro oa' oc' w' hG)
  exact hQ.out _ _ _ _ _ HZ (Fr.Is.mk rfl rfl) (H.out.grew hG.out)

set_option maxRecDepth 100000 in
set_option maxHeartbeats 2000000 in
theorem pyd_pad {Q : Exit → Act → World → Prop} {w0 : World} {B bx : Nat} {cs : Array Value} {oa : Option Addr} {oc : Nat} {out : List UInt8} (a : Act) (w : World) (h : Py w0 B bx cs oa oc out w) {f : FrM} {sa : Option Addr} {sc : Nat} (hcs : cs = frC f sa sc) (t0 : 0 ≤ f.type) (f0 : 0 ≤ f.flags) (f1 : f.flags ≤ 255) (p0 : 0 ≤ f.pad) (p1 : f.pad ≤ 255) (hlen : out.length ≤ 900000000)
    (ha : Fr.Is 116 [(1, .pointer (some ⟨bx, 0, none⟩)), (3, .slice oa out.length oc)] a)
    (hQ : Hid (∀ a' w' oa' oc' Z, Hid (Z = out ++ if paddedB f then [bt f.pad] else []) → Fr.Is 116 [(1, .pointer (some ⟨bx, 0, none⟩)), (3, .slice oa' Z.length oc')] a' → Py w0 B bx cs oa' oc' Z w' → Q .normal a' w')) :
    (Fr.navL (Fr.tail Tryd.f22 2)).wp Tryd.prog Q a w := by
  subst hcs
  have HH := Lib.hid (fun v => rHas_any f sa sc 8 v f0 f1 (by decide) (by decide))
  have hbt := bt_val f.pad p0 p1
  have hpb : paddedB f = (decide (f.type ≤ 1) && hasF f.flags 8) := rfl
  unfold frV frC at HH
  have H := Lib.hid h
  have hinfo := Lib.hid info_u8
  obtain ⟨c0, c1, c2, c3, c4, c5, c6, c7, c8, c9, c10, c11⟩ := fr_cells h.fb
  clear h
  obtain ⟨fr, rfl, hfr⟩ := ha.lit
  simp only [List.map_cons, List.map_nil, List.cons.injEq, and_true] at hfr
  conv => arg 2; whnf
  simp only [List.range, List.range.loop, List.map_cons, List.map_nil, hfr]
  clear hfr ha
  rw [hpb] at hQ
  generalize hasF f.flags 8 = b at HH hQ
  by_cases ht : f.type ≤ 1
  · rw [decide_eq_true ht, Bool.true_and] at hQ
    go_wp2_with fail
    refine (HH.out _).mono ?_; rintro e w1 ⟨rfl, b1⟩
    have H1 := Lib.hid (H.out.below b1)
    have c4' := below_cell b1 c4
    clear b1 c0 c1 c2 c3 c4 c5 c6 c7 c8 c9 c10 c11 HH
    cases b with
    | false =>
      simp only [Bool.false_eq_true, if_false, List.append_nil] at hQ
      go_wp2_with fail
      exact hQ.out _ _ _ _ _ (Lib.hid rfl) (Fr.Is.mk rfl rfl) H1.out
    | true =>
      simp only [if_true] at hQ
      obtain ⟨Z, hZ⟩ : ∃ Z, Z = out ++ [bt f.pad] := ⟨_, rfl⟩
      have hZl : Z.length ≤ 140737488355328 := by rw [hZ]; simp only [List.length_append, List.length_cons, List.length_nil]; omega
      have HZ := Lib.hid hZ
      have HNe : Hid ([bt f.pad] ≠ []) := Lib.hid (fun e => by cases e)
      have HR := Lib.hid (rb_one w1 5 f.pad (bt f.pad) hbt.symm)
      have H2 := Lib.hid (H1.out.below ((Below.refl w1.heap.size w1).alloc (Nat.le_refl _) (.cells #[.int .u8 f.pad] 5)))
      clear hZ
      go_wp2_with (at_builtin; refine wl_bytes Tryd.underlying27 hinfo.out rfl (.tmp 14) (.tmp 18) rfl rfl rfl H2.out.out H2.out.bs.1 H2.out.bs.2 rfl rfl HNe.out HR.out Z HZ.out hZl ?_; intro oa' oc' w' hG)
      exact hQ.out _ _ _ _ _ HZ (Fr.Is.mk rfl rfl) (H2.out.grew hG.out)
  · rw [decide_eq_false ht, Bool.false_and] at hQ
    simp only [Bool.false_eq_true, if_false, List.append_nil] at hQ
    have ht' : ¬ f.type ≤ 1 := ht
    go_wp2_with fail
    exact hQ.out _ _ _ _ _ (Lib.hid rfl) (Fr.Is.mk rfl rfl) H.out

set_option maxRecDepth 100000 in
set_option maxHeartbeats 2000000 in
theorem pyd_r4 {Q : Exit → Act → World → Prop} {w0 : World} {B bx : Nat} {cs : Array Value} {oa : Option Addr} {oc : Nat} {out : List UInt8} (a : Act) (w : World) (h : Py w0 B bx cs oa oc out w) {f : FrM} {sa : Option Addr} {sc : Nat} (hcs : cs = frC f sa sc) (f0 : 0 ≤ f.flags) (f1 : f.flags ≤ 255)
    (ha : Fr.Is 116 [(1, .pointer (some ⟨bx, 0, none⟩)), (3, .slice oa out.length oc)] a)
    (hQ : Hid (∀ a' w', Fr.Is 116 [(1, .pointer (some ⟨bx, 0, none⟩)), (3, .slice oa out.length oc), (31, .bool (placedB f))] a' → Py w0 B bx cs oa oc out w' → Q .normal a' w')) :
    (Fr.reg Tryd.f22 4).wp Tryd.prog Q a w := by
  subst hcs
  have HH := Lib.hid (fun v => rHas_any f sa sc 32 v f0 f1 (by decide) (by decide))
  have hpb : placedB f = (decide (f.type = 2) || (decide (f.type = 1) && hasF f.flags 32)) := rfl
  unfold frV frC at HH
  have H := Lib.hid h
  have hinfo := Lib.hid info_u8
  obtain ⟨c0, c1, c2, c3, c4, c5, c6, c7, c8, c9, c10, c11⟩ := fr_cells h.fb
  clear h
  obtain ⟨fr, rfl, hfr⟩ := ha.lit
  simp only [List.map_cons, List.map_nil, List.cons.injEq, and_true] at hfr
  conv => arg 2; whnf
  simp only [List.range, List.range.loop, List.map_cons, List.map_nil, hfr]
  clear hfr ha
  rw [hpb] at hQ
  clear hpb
  generalize hasF f.flags 32 = b at HH hQ
  generalize f.type = t at *
  by_cases h2 : t = 2
  · subst t
    go_wp2_with fail
    exact hQ.out _ _ (Fr.Is.mk rfl rfl) H.out
  · have k2 : (t == 2) = false := by simp [h2]
    by_cases h1 : t = 1
    · subst t
      go_wp2_with fail
      refine (HH.out _).mono ?_; rintro e w1 ⟨rfl, b1⟩
      have H1 := Lib.hid (H.out.below b1)
      clear b1 c0 c1 c2 c3 c4 c5 c6 c7 c8 c9 c10 c11 HH
      go_wp2_with fail
      exact hQ.out _ _ (Fr.Is.mk rfl (by simp)) H1.out
    · have k1 : (t == 1) = false := by simp [h1]
      go_wp2_with fail
      exact hQ.out _ _ (Fr.Is.mk rfl (by simp [h1, h2])) H.out

set_option maxRecDepth 100000 in
set_option maxHeartbeats 2000000 in
theorem pyd_r5 {Q : Exit → Act → World → Prop} {w0 : World} {B bx : Nat} {cs : Array Value} {oa : Option Addr} {oc : Nat} {out : List UInt8} (a : Act) (w : World) (h : Py w0 B bx cs oa oc out w) {v : Int} (hcs : cs[9]? = some (.int .i64 v))
    (ha : Fr.Is 116 [(1, .pointer (some ⟨bx, 0, none⟩)), (3, .slice oa out.length oc)] a)
    (hQ : Hid (∀ a', Fr.Is 116 [(1, .pointer (some ⟨bx, 0, none⟩)), (3, .slice oa out.length oc), (4, .int .i64 v)] a' → Q .normal a' w)) :
    (Fr.reg Tryd.f22 5).wp Tryd.prog Q a w := by
  have H := Lib.hid h
  have hinfo := Lib.hid info_u8
  have c9 := (cell_at h.fb 9).trans hcs
  clear hcs
  clear h
  obtain ⟨fr, rfl, hfr⟩ := ha.lit
  simp only [List.map_cons, List.map_nil, List.cons.injEq, and_true] at hfr
  conv => arg 2; whnf
  simp only [List.range, List.range.loop, List.map_cons, List.map_nil, hfr]
  clear hfr ha
  go_wp2_with fail
  exact hQ.out _ (Fr.Is.mk rfl rfl)

set_option maxRecDepth 100000 in
set_option maxHeartbeats 2000000 in
theorem pyd_r6 {Q : Exit → Act → World → Prop} {w0 : World} {B bx : Nat} {cs : Array Value} {oa : Option Addr} {oc : Nat} {out : List UInt8} (a : Act) (w : World) (h : Py w0 B bx cs oa oc out w) {n : Int} {b : Bool} (hcs : cs[11]? = some (.bool b))
    (ha : Fr.Is 116 [(1, .pointer (some ⟨bx, 0, none⟩)), (3, .slice oa out.length oc), (4, .int .i64 n)] a)
    (hQ : Hid (∀ a', Fr.Is 116 [(1, .pointer (some ⟨bx, 0, none⟩)), (3, .slice oa out.length oc), (4, .int .i64 n), (35, .bool b)] a' → Q .normal a' w)) :
    (Fr.reg Tryd.f22 6).wp Tryd.prog Q a w := by
  have H := Lib.hid h
  have hinfo := Lib.hid info_u8
  have c11 := (cell_at h.fb 11).trans hcs
  clear hcs
  clear h
  obtain ⟨fr, rfl, hfr⟩ := ha.lit
  simp only [List.map_cons, List.map_nil, List.cons.injEq, and_true] at hfr
  conv => arg 2; whnf
  simp only [List.range, List.range.loop, List.map_cons, List.map_nil, hfr]
  clear hfr ha
  go_wp2_with fail
  exact hQ.out _ (Fr.Is.mk rfl rfl)

set_option maxRecDepth 100000 in
set_option maxHeartbeats 2000000 in
theorem pyd_r7 {Q : Exit → Act → World → Prop} {w0 : World} {B bx : Nat} {cs : Array Value} {oa : Option Addr} {oc : Nat} {out : List UInt8} (a : Act) (w : World) (h : Py w0 B bx cs oa oc out w) {n : Int} (h0 : 0 ≤ n) (h1 : n ≤ 2147483647)
    (ha : Fr.Is 116 [(1, .pointer (some ⟨bx, 0, none⟩)), (3, .slice oa out.length oc), (4, .int .i64 n)] a)
    (hQ : Hid (∀ a', Fr.Is 116 [(1, .pointer (some ⟨bx, 0, none⟩)), (3, .slice oa out.length oc), (4, .int .i64 (n + 2147483648))] a' → Q .normal a' w)) :
    (Fr.reg Tryd.f22 7).wp Tryd.prog Q a w := by
  have H := Lib.hid h
  have hinfo := Lib.hid info_u8

  clear h
  obtain ⟨fr, rfl, hfr⟩ := ha.lit
  simp only [List.map_cons, List.map_nil, List.cons.injEq, and_true] at hfr
  conv => arg 2; whnf
  simp only [List.range, List.range.loop, List.map_cons, List.map_nil, hfr]
  clear hfr ha
  go_wp2_with fail
  exact hQ.out _ (Fr.Is.mk rfl rfl)

set_option maxRecDepth 100000 in
set_option maxHeartbeats 2000000 in
theorem pyd_r8 {Q : Exit → Act → World → Prop} {w0 : World} {B bx : Nat} {cs : Array Value} {oa : Option Addr} {oc : Nat} {out : List UInt8} (a : Act) (w : World) (h : Py w0 B bx cs oa oc out w) {n v : Int} (hcs : cs[10]? = some (.int .i64 v)) (v0 : 0 ≤ v) (v1 : v ≤ 255) (h0 : 0 ≤ n) (h1 : n < 4294967296) (hlen : out.length ≤ 900000000)
    (ha : Fr.Is 116 [(1, .pointer (some ⟨bx, 0, none⟩)), (3, .slice oa out.length oc), (4, .int .i64 n)] a)
    (hQ : Hid (∀ a' w' oa' oc' Z, Hid (Z = out ++ (putL n 4 ++ [bt v])) → Fr.Is 116 [(1, .pointer (some ⟨bx, 0, none⟩)), (3, .slice oa' Z.length oc')] a' → Py w0 B bx cs oa' oc' Z w' → Q .normal a' w')) :
    (Fr.reg Tryd.f22 8).wp Tryd.prog Q a w := by
  have hbt := bt_val v v0 v1
  have HC := Lib.hid (fun u (hu : Below w.heap.size w u) => below_cell hu ((cell_at h.fb 10).trans hcs))
  have HCg := Lib.hid (fun u u' oa' oc' l3 (hu : Below w.heap.size w u) (hG : Grew B [bx] u oa oa' oc' l3 u') => (cell_at ((h.below hu).grew hG).fb 10).trans hcs)
  have c10 : w.drew.cell? ⟨bx, 10, none⟩ = some (.int .i64 v) := (cell_at h.fb 10).trans hcs
  have HP := Lib.hid (fun u => rfour_any n u h0 h1)
  obtain ⟨Y, hY⟩ : ∃ Y, Y = putL n 4 := ⟨_, rfl⟩
  rw [← hY] at HP hQ
  have hYl : Y.length = 4 := by rw [hY, putL_length]
  have HYl := Lib.hid hYl
  have HNY : Hid (Y ≠ []) := Lib.hid (fun e => by rw [e] at hYl; simp at hYl)
  obtain ⟨Z1, hZ1⟩ : ∃ Z, Z = out ++ Y := ⟨_, rfl⟩
  obtain ⟨Z, hZ⟩ : ∃ Z, Z = Z1 ++ [bt v] := ⟨_, rfl⟩
  have hl1 : Z1.length ≤ 140737488355328 := by rw [hZ1, List.length_append]; omega
  have hl2 : Z.length ≤ 140737488355328 := by rw [hZ, hZ1]; simp only [List.length_append, List.length_cons, List.length_nil]; omega
  have HZ1 := Lib.hid hZ1
  have HZ := Lib.hid hZ
  have HZZ : Hid (Z = out ++ (Y ++ [bt v])) := Lib.hid (by rw [hZ, hZ1, List.append_assoc])
  have HNb : Hid ([bt v] ≠ []) := Lib.hid (fun e => by cases e)
  have HB1 := Lib.hid (fun u => rb_one u 5 (IntKind.u8.wrap v) (bt v) (by rw [hbt, IntKind.wrap_u8]; omega))
  have hb : Below w.heap.size w w.drew := (Below.refl _ _).drew
  clear hZ hZ1 hY hcs hYl
  have H := Lib.hid h
  have hinfo := Lib.hid info_u8

  clear h
  obtain ⟨fr, rfl, hfr⟩ := ha.lit
  simp only [List.map_cons, List.map_nil, List.cons.injEq, and_true] at hfr
  conv => arg 2; whnf
  simp only [List.range, List.range.loop, List.map_cons, List.map_nil, hfr]
  clear hfr ha
  refine wp_region_noPanic ?_
  go_region_law (first
    | (refine Wr.step_call rfl 24 [.tmp 39] _ rfl [.int .i64 n] rfl (fun v => rfl) (HP.out _) ?_; rintro e w1 ⟨ad, cp, rfl, hown, b1⟩; refine ⟨_, rfl, ?_⟩; have hRY := Lib.hid (RB.of_own hown.out); clear hown; (first | (have hx0 := Lib.hid ((HB1.out w.drew).below b1); have hn0 := Lib.hid (Nat.lt_of_lt_of_le (show w.drew.heap.size < (w.drew.alloc (.cells #[.int .u8 (IntKind.u8.wrap v)] 5)).heap.size by simp) b1.size)) | skip); replace hb := below_step (by first | exact hb | exact below_step hb ((Below.refl _ _).alloc (Nat.le_refl _) _)) b1; have x1 := HC.out _ hb; clear b1)
    | (refine step_bytes Tryd.underlying27 hinfo.out rfl (.tmp 38) (.tmp 40) rfl rfl rfl (H.out.below (by first | exact hb | exact below_step hb ((Below.refl _ _).alloc (Nat.le_refl _) _))).out (H.out.below (by first | exact hb | exact below_step hb ((Below.refl _ _).alloc (Nat.le_refl _) _))).bs.1 (H.out.below (by first | exact hb | exact below_step hb ((Below.refl _ _).alloc (Nat.le_refl _) _))).bs.2 rfl rfl HNY.out (by first | exact hRY.out | exact hRY.out.below ((Below.refl _ _).alloc (Nat.le_refl _) _)) Z1 HZ1.out hl1 ?_; intro oa1 oc1 w4 hG; have x4 := HCg.out _ _ _ _ _ (by first | exact hb | exact below_step hb ((Below.refl _ _).alloc (Nat.le_refl _) _)) hG.out; have HP4 := Lib.hid (H.out.after (by first | exact hb | exact below_step hb ((Below.refl _ _).alloc (Nat.le_refl _) _)) hG.out); first | (have hx := Lib.hid (rb_grew hG.out (HB1.out w1) (by simp) (fun o s e => Nat.lt_irrefl _ ((H.out.below hb).out.lt _ _ _ e)))) | (have hx := Lib.hid (rb_grew hG.out hx0.out hn0.out (fun o s e => Nat.lt_irrefl _ ((H.out.below (Below.refl _ _).drew).out.lt _ _ _ e)))) | skip)
    | (refine step_bytes Tryd.underlying27 hinfo.out rfl (.tmp 41) (.tmp 45) rfl rfl rfl (by first | exact hG.out.out | exact hG.out.out.below ((Below.refl _ _).alloc (Nat.le_refl _) _)) (by first | exact HP4.out.bs.1 | exact (HP4.out.below ((Below.refl _ _).alloc (Nat.le_refl _) _)).bs.1) (by first | exact HP4.out.bs.2 | exact (HP4.out.below ((Below.refl _ _).alloc (Nat.le_refl _) _)).bs.2) rfl rfl HNb.out (by first | exact HB1.out _ | exact hx.out) Z HZ.out hl2 ?_; intro oa2 oc2 w5 hG2))
  all_goals first
    | exact hQ.out _ _ _ _ _ HZZ (Fr.Is.mk rfl rfl) (HP4.out.grew hG2.out)
    | exact hQ.out _ _ _ _ _ HZZ (Fr.Is.mk rfl rfl) ((HP4.out.below ((Below.refl _ _).alloc (Nat.le_refl _) _)).grew hG2.out)
end Go.Proofs.YtdilgkkkhmmffaaDoor
