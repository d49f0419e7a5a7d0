/- Layer 6: the document's Take: the frame's head, its fields. Layer 6: the document's Take, whole. Layer 6: the document's Take, put together. Layer 6: the document's Same, whole. Layer 7: the document's Same: the same items. -/
import Derived.Test.YtglhdlkmgmbgeaaDoorGD03
import Derived.BigGuardPart
import Derived.Test.YtglhdlkmgmbgeaaDoorGP10
import Derived.LoopTactic
import Derived.BigQuiet
import Derived.Laws.StructEq
set_option linter.unusedVariables false
set_option linter.unusedSimpArgs false
namespace Go.Proofs.YtglhdlkmgmbgeaaDoor
open Go.RowKit
open Fra Oct Arg Mem Gen Qu Go.Proofs.YtglhdlkmgmbgeaaDoor.Obj
set_option linter.unusedVariables false
set_option linter.unusedSimpArgs false


set_option maxRecDepth 100000 in
set_option maxHeartbeats 4000000 in
theorem dtk_r9 {Q : Exit → Act → World → Prop} {rv rx nb n cap b off : Nat} {most N V : Int} {c d : UInt8} (a : Act) (w : World) (h9 : 9 ≤ n) (x3 : w.cell? ⟨b, off + 3, none⟩ = some (.int .u8 (c.toNat : Int))) (x4 : w.cell? ⟨b, off + 4, none⟩ = some (.int .u8 (d.toNat : Int))) (HA : Hid (∀ v, Below w.heap.size w v → Calls Tryd.prog 24 #[.slice (some ⟨b, off, none⟩) n cap, .int .i64 5, .int .i64 4] v fun e w' => e = .returned (.int .i64 V) ∧ v = w')) (v0 : 0 ≤ V) (v1 : V < 4294967296)
    (ha : Fr.Is 208 [(0, .slice (some ⟨b, off, none⟩) n cap), (1, .int .i64 most), (4, .pointer (some ⟨rv, 0, none⟩)), (6, .pointer (some ⟨rx, 0, none⟩)), (7, .pointer (some ⟨nb, 0, none⟩)), (8, .int .i64 N)] a)
    (hQ : Hid (∀ w' a', Fr.Is 208 [(0, .slice (some ⟨b, off, none⟩) n cap), (1, .int .i64 most), (4, .pointer (some ⟨rv, 0, none⟩)), (6, .pointer (some ⟨rx, 0, none⟩)), (7, .pointer (some ⟨nb, 0, none⟩)), (8, .int .i64 N), (9, .pointer (some ⟨w.heap.size, 0, none⟩))] a' → Fb w.heap.size (hdrF (c.toNat : Int) (d.toNat : Int) (V % 2147483648)) none 0 w' → Below w.heap.size w w' → Q .normal a' w')) :
    (Fr.reg Tryd.f17 9).wp Tryd.prog Q a w := by
  obtain ⟨fr, rfl, hfr⟩ := ha.lit
  simp only [List.map_cons, List.map_nil, List.cons.injEq, and_true] at hfr
  conv => arg 2; whnf
  simp only [List.range, List.range.loop, List.map_cons, List.map_nil, hfr]
  clear hfr ha
  have hcl := c.toNat_lt
  have hdl := d.toNat_lt
  have hi3 : (3 : Int) < n := by omega
  have hi4 : (4 : Int) < n := by omega
  have hm := tmod_nn V 2147483648 v0
  have hb0 : Below w.heap.size w w.drew := (Below.refl _ _).drew
  generalize hk : c.toNat = k at *
  generalize hj : d.toNat = j at *
  clear hk hj
  have hbA : Below w.heap.size w (w.alloc (.cells #[.int .i64 0, .int .i64 0, .int .i64 0, .string ⟨#[]⟩, .int .i64 0, .slice none 0 0, .int .i64 0, .int .i64 0, .int .i64 0, .int .i64 0, .int .i64 0, .bool false] 40)).drew := (bel_al w (.cells #[.int .i64 0, .int .i64 0, .int .i64 0, .string ⟨#[]⟩, .int .i64 0, .slice none 0 0, .int .i64 0, .int .i64 0, .int .i64 0, .int .i64 0, .int .i64 0, .bool false] 40)).drew
  have hwk : IntKind.i64.wrap (k : Int) = k := IntWalk.i64_in _ (by omega)
  have hwj : IntKind.i64.wrap (j : Int) = j := IntWalk.i64_in _ (by omega)
  go_region_held3 (fun v => v.cell? ⟨b, off + 3, none⟩ = some (.int .u8 (k : Int)) ∧ v.cell? ⟨b, off + 4, none⟩ = some (.int .u8 (j : Int))) (first | go_keep | exact ⟨x3, x4⟩ | (refine ⟨?_, ?_⟩ <;> go_simp))
    ((go_at_call 24; refine (HA.out _ (by first | exact hbA | exact hb0)).mono ?_; rintro e w1 ⟨rfl, rfl⟩))
  all_goals exact hQ.out _ _ (Fr.Is.mk rfl rfl) (heap_alloc_new w _) ((bel_al w _).drew)


set_option maxRecDepth 100000 in
set_option maxHeartbeats 4000000 in
theorem dtk_r18 {Q : Exit → Act → World → Prop} {rv rx nb fb n cap k : Nat} {ad : Option Addr} {most : Int} {f f2 : FrM} {ok : Bool} {sa : Option Addr} {sc : Nat} (a : Act) (w : World) (V : Fb fb f sa sc w) (hk : 9 + k ≤ n) (hc : n ≤ cap) (hb : cap ≤ 9223372036854775807) (HC : Hid (∀ v, Below w.heap.size w v → Calls Tryd.prog 27 #[frV f sa sc, .slice (Sl.adOf ad cap 9 1) k (cap - 9)] v (FiEnd v (f2, ok))))
    (ha : Fr.Is 208 [(0, .slice ad n cap), (1, .int .i64 most), (4, .pointer (some ⟨rv, 0, none⟩)), (6, .pointer (some ⟨rx, 0, none⟩)), (7, .pointer (some ⟨nb, 0, none⟩)), (8, .int .i64 (k : Int)), (9, .pointer (some ⟨fb, 0, none⟩))] a)
    (hQ : Hid (∀ (w1 w' : World) (sa1 : Option Addr) (sc1 : Nat) a', Fr.Is 208 [(0, .slice ad n cap), (1, .int .i64 most), (4, .pointer (some ⟨rv, 0, none⟩)), (6, .pointer (some ⟨rx, 0, none⟩)), (7, .pointer (some ⟨nb, 0, none⟩)), (8, .int .i64 (k : Int)), (9, .pointer (some ⟨fb, 0, none⟩)), (12, .bool ok)] a' → FrOk f2 sa1 sc1 w1 → (∀ b o s, sa1 = some ⟨b, o, s⟩ → w.heap.size ≤ b) → Below w.heap.size w w1 → Fb fb f2 sa1 sc1 w' → Below fb w1 w' → (∀ k, k ≠ fb → w'.heap[k]? = w1.heap[k]?) → Q .normal a' w')) :
    (Fr.reg Tryd.f17 18).wp Tryd.prog Q a w := by
  obtain ⟨fr, rfl, hfr⟩ := ha.lit
  simp only [List.map_cons, List.map_nil, List.cons.injEq, and_true] at hfr
  conv => arg 2; whnf
  simp only [List.range, List.range.loop, List.map_cons, List.map_nil, hfr]
  clear hfr ha
  have HV := Lib.hid V
  obtain ⟨a0, a1, a2, a3, a4, a5, a6, a7, a8, a9, a10, a11⟩ := fr_cells V
  have hb0 : Below w.heap.size w w.drew := (Below.refl _ _).drew
  have hw9 : IntKind.i64.wrap (9 + (k : Int)) = 9 + (k : Int) := IntWalk.i64_in _ (by omega)
  unfold frV frC at HC
  unfold FiEnd at HC
  unfold frV frC at HC
  simp only at HC
  clear V
  have hw90 : IntKind.i64.wrap 9 = 9 := rfl
  have g1 : (0 : Int) ≤ 9 + (k : Int) := by omega
  have g2 : 9 + (k : Int) ≤ cap := by omega
  have g3 : max (9 + (k : Int)) 0 = 9 + (k : Int) := by omega
  have g4 : (9 + (k : Int)).toNat - 9 = k := by omega
  have g5 : (9 : Int) ≤ 9 + (k : Int) := by omega
  refine wp_region_noPanic ?_
  by_cases hcap : cap = 9
  · subst hcap
    obtain rfl : k = 0 := by omega
    rw [Sl.adOf, if_pos rfl] at HC
    go_region_law (refine Wr.step_call rfl 27 [.tmp 126, .tmp 130] _ rfl [.agg #[.int .i64 f.type, .int .i64 f.flags, .int .i64 f.stream, .string f.data, .int .i64 f.pad, .slice sa f.sets.length sc, .int .i64 f.code, .int .i64 f.last, .int .i64 f.inc, .int .i64 f.dep, .int .i64 f.weight, .bool f.sole], .slice ad 0 0] rfl (fun v => rfl) (HC.out _ hb0) ?_; rintro e w1 ⟨sa1, sc1, rfl, ok1, hn1, b1⟩; refine ⟨_, rfl, ?_⟩; have hb1 := below_step hb0 b1; have V1 : Fb fb f sa sc w1 := block_below hb1 HV.out; obtain ⟨c0, c1, c2, c3, c4, c5, c6, c7, c8, c9, c10, c11⟩ := fr_cells V1; have t0 := V1.thaw 0; have t1 := V1.thaw 1; have t2 := V1.thaw 2; have t3 := V1.thaw 3; have t4 := V1.thaw 4; have t5 := V1.thaw 5; have t6 := V1.thaw 6; have t7 := V1.thaw 7; have t8 := V1.thaw 8; have t9 := V1.thaw 9; have t10 := V1.thaw 10; have t11 := V1.thaw 11; have HV1 := Lib.hid V1; have HOk := Lib.hid (And.intro ok1 (And.intro hn1 hb1)); clear V1 ok1 hn1 b1 hb1)
    all_goals
      obtain ⟨w2, h2, F2, B2, o2⟩ := fr_ret (Below.refl fb w1) (Nat.le_refl _) HV1.out f2 sa1 sc1
      subst h2
      exact hQ.out _ _ _ _ _ (Fr.Is.mk rfl rfl) HOk.out.1 HOk.out.2.1 HOk.out.2.2 F2 B2 o2
  · rw [Sl.adOf, if_neg hcap] at HC
    go_region_law (refine Wr.step_call rfl 27 [.tmp 126, .tmp 130] _ rfl [.agg #[.int .i64 f.type, .int .i64 f.flags, .int .i64 f.stream, .string f.data, .int .i64 f.pad, .slice sa f.sets.length sc, .int .i64 f.code, .int .i64 f.last, .int .i64 f.inc, .int .i64 f.dep, .int .i64 f.weight, .bool f.sole], .slice (ad.map (·.add (9 * 1))) k (cap - 9)] rfl (fun v => rfl) (HC.out _ hb0) ?_; rintro e w1 ⟨sa1, sc1, rfl, ok1, hn1, b1⟩; refine ⟨_, rfl, ?_⟩; have hb1 := below_step hb0 b1; have V1 : Fb fb f sa sc w1 := block_below hb1 HV.out; obtain ⟨c0, c1, c2, c3, c4, c5, c6, c7, c8, c9, c10, c11⟩ := fr_cells V1; have t0 := V1.thaw 0; have t1 := V1.thaw 1; have t2 := V1.thaw 2; have t3 := V1.thaw 3; have t4 := V1.thaw 4; have t5 := V1.thaw 5; have t6 := V1.thaw 6; have t7 := V1.thaw 7; have t8 := V1.thaw 8; have t9 := V1.thaw 9; have t10 := V1.thaw 10; have t11 := V1.thaw 11; have HV1 := Lib.hid V1; have HOk := Lib.hid (And.intro ok1 (And.intro hn1 hb1)); clear V1 ok1 hn1 b1 hb1)
    all_goals
      obtain ⟨w2, h2, F2, B2, o2⟩ := fr_ret (Below.refl fb w1) (Nat.le_refl _) HV1.out f2 sa1 sc1
      subst h2
      exact hQ.out _ _ _ _ _ (Fr.Is.mk rfl rfl) HOk.out.1 HOk.out.2.1 HOk.out.2.2 F2 B2 o2

end Go.Proofs.YtglhdlkmgmbgeaaDoor

namespace Go.Proofs.YtglhdlkmgmbgeaaDoor
open Go.RowKit
open Fra Oct Arg Mem Gen Qu Go.Proofs.YtglhdlkmgmbgeaaDoor.Obj
set_option linter.unusedVariables false
set_option linter.unusedSimpArgs false

set_option maxRecDepth 100000 in
set_option maxHeartbeats 2000000 in
theorem dtk_ret {R : Ending → World → Prop} {rv rx : Nat} {z : Int} {a : Act} {w' : World} {f : FrM} {sa : Option Addr} {sc : Nat} {x : FaM}
    (ha : Fr.Is 208 [(4, .pointer (some ⟨rv, 0, none⟩)), (5, .int .i64 z), (6, .pointer (some ⟨rx, 0, none⟩))] a)
    (V : Fb rv f sa sc w') (X : w'.heap[rx]? = some (Obj.cells #[.bool x.is, .int .i64 x.code, .int .i64 x.stream] 37 (0, 0)))
    (hR : R (.returned (.tuple #[frV f sa sc, .int .i64 z, faV x])) w') : bodyPost Tryd.prog Tryd.f17 R .ret a w' := by
  obtain ⟨fr, rfl, hfr⟩ := ha.lit
  simp only [List.map_cons, List.map_nil, List.cons.injEq, and_true] at hfr
  obtain ⟨h4, h5, h6⟩ := hfr
  obtain ⟨c0, c1, c2, c3, c4, c5, c6, c7, c8, c9, c10, c11⟩ := fr_cells V
  obtain ⟨d0, d1, d2⟩ := fa_cells X
  clear V X
  refine bodyPost_ret (v := .tuple #[frV f sa sc, .int .i64 z, faV x]) ?_ rfl hR
  simp [results, Tryd.results17, go_sem, frV, frC, faV, h4, h5, h6, c0, c1, c2, c3, c4, c5, c6, c7, c8, c9, c10, c11, d0, d1, d2]

/-- Along Take: the answer's boxes, the frame that is none. -/
structure Tk (w0 : World) (rv rx nb : Nat) (w : World) : Prop where
  bel : Below w0.heap.size w0 w
  V : Fb rv noFr none 0 w
  X : w.heap[rx]? = some (Obj.cells #[.bool false, .int .i64 0, .int .i64 0] 37 (0, 0))
  Z : Fb nb noFr none 0 w
  lo : w0.heap.size ≤ rv ∧ w0.heap.size ≤ rx ∧ rx ≠ rv ∧ nb ≠ rv ∧ nb ≠ rx
section
variable {w0 w w' : World} {rv rx nb : Nat}
theorem Tk.below (h : Tk w0 rv rx nb w) (hb : Below w.heap.size w w') : Tk w0 rv rx nb w' :=
  ⟨below_step h.bel hb, block_below hb h.V, block_below hb h.X, block_below hb h.Z, h.lo⟩
theorem Tk.ans (h : Tk w0 rv rx nb w) (B : Below 0 w w') (o : ∀ k, k ≠ rv → k ≠ rx → k < w.heap.size → w'.heap[k]? = w.heap[k]?) : Below w0.heap.size w0 w' :=
  ⟨B.os.trans h.bel.os, B.tape.trans h.bel.tape, B.output.trans h.bel.output, Nat.le_trans h.bel.size B.size, fun k hk => (o k (by have := h.lo.1; omega) (by have := h.lo.2.1; omega) (Nat.lt_of_lt_of_le hk h.bel.size)).trans (h.bel.block k hk)⟩
end
theorem frok_move {f : FrM} {sa : Option Addr} {sc : Nat} {w w' : World} (h : FrOk f sa sc w) (hb : ∀ b o s, sa = some ⟨b, o, s⟩ → b < w.heap.size → w'.heap[b]? = w.heap[b]?) : FrOk f sa sc w' := by
  refine ⟨?_, h.len, h.cap⟩
  rcases h.row with h1 | ⟨b, off, e, hc⟩
  · exact .inl h1
  · cases hl : f.sets with
    | nil => exact .inl rfl
    | cons s r =>
      rw [← hl]
      refine h.row.block (fun b' off' e' => ?_)
      have e2 := e.symm.trans e'
      simp only [Option.some.injEq, Addr.mk.injEq, and_true] at e2
      obtain ⟨rfl, rfl⟩ := e2
      have hlt : b < w.heap.size := by
        have := (CE_st (hc 0 (by rw [hl]; simp))).1
        exact World.block_lt_of_cell? w _ this
      exact hb b off none e hlt
/-- What Take leaves. -/
def TkEnd (w : World) (R : FrM × Nat × FaM) (e : Ending) (w' : World) : Prop :=
  ∃ sa sc, e = .returned (.tuple #[frV R.1 sa sc, .int .i64 (R.2.1 : Nat), faV R.2.2]) ∧ FrOk R.1 sa sc w' ∧ Below w.heap.size w w'
/-- .. and the settings lie in a new row. -/
def TkNew (w : World) (R : FrM × Nat × FaM) (e : Ending) (w' : World) : Prop :=
  ∃ sa sc, e = .returned (.tuple #[frV R.1 sa sc, .int .i64 (R.2.1 : Nat), faV R.2.2]) ∧ FrOk R.1 sa sc w' ∧ Below w.heap.size w w' ∧ ∀ b o s, sa = some ⟨b, o, s⟩ → w.heap.size ≤ b
theorem tk_no (w : World) : FrOk noFr none 0 w := ⟨.inl rfl, Nat.le_refl _, by unfold maxLen; omega⟩
theorem tk_end {w0 w w' : World} {rv rx nb : Nat} {z : Nat} {zi : Int} {x : FaM} {a : Act} (hz : zi = z) (h : Tk w0 rv rx nb w)
    (ha : Fr.Is 208 [(4, .pointer (some ⟨rv, 0, none⟩)), (5, .int .i64 zi), (6, .pointer (some ⟨rx, 0, none⟩))] a)
    (V : Fb rv noFr none 0 w') (X : w'.heap[rx]? = some (Obj.cells #[.bool x.is, .int .i64 x.code, .int .i64 x.stream] 37 (0, 0))) (B : Below 0 w w') (o : ∀ k, k ≠ rv → k ≠ rx → k < w.heap.size → w'.heap[k]? = w.heap[k]?) :
    bodyPost Tryd.prog Tryd.f17 (TkNew w0 (noFr, z, x)) .ret a w' := by
  subst hz
  exact dtk_ret ha V X ⟨none, 0, rfl, tk_no _, h.ans B o, fun b o s e => by cases e⟩

theorem setFault_iff (s : StM) : ((s.id = 2 ∧ 1 < s.val) ∨ (s.id = 5 ∧ (s.val < 16384 ∨ 16777215 < s.val)) → setFault s = 1) ∧
    (¬((s.id = 2 ∧ 1 < s.val) ∨ (s.id = 5 ∧ (s.val < 16384 ∨ 16777215 < s.val))) → (s.id = 4 ∧ 2147483647 < s.val → setFault s = 3) ∧ (¬(s.id = 4 ∧ 2147483647 < s.val) → setFault s = 0)) := by
  refine ⟨fun h => by rw [setFault, if_pos h], fun h => ⟨fun k => by rw [setFault, if_neg h, if_pos k], fun k => by rw [setFault, if_neg h, if_neg k]⟩⟩

set_option maxHeartbeats 1000000 in
/-- The settings, and the frame. -/
theorem dtk_loop {w0 w : World} {rv rx nb fb n cap k : Nat} {ad : Option Addr} {most : Int} {f : FrM} {sa : Option Addr} {sc : Nat} (a : Act) (h : Tk w0 rv rx nb w) (hf : Fb fb f sa sc w) (hok : FrOk f sa sc w)
    (hsb : ∀ b o s, sa = some ⟨b, o, s⟩ → b ≠ rv ∧ b ≠ rx ∧ w0.heap.size ≤ b) (hfv : fb ≠ rv) (hfx : fb ≠ rx) (hk : k ≤ 16777215)
    (ha : Fr.Is 208 [(0, .slice ad n cap), (1, .int .i64 most), (4, .pointer (some ⟨rv, 0, none⟩)), (6, .pointer (some ⟨rx, 0, none⟩)), (7, .pointer (some ⟨nb, 0, none⟩)), (8, .int .i64 (k : Int)), (9, .pointer (some ⟨fb, 0, none⟩))] a) :
    (Fr.tail Tryd.f17 15).wp Tryd.prog (bodyPost Tryd.prog Tryd.f17 (TkNew w0 (if setsFault f.sets ≠ 0 then (noFr, 0, ofC (setsFault f.sets)) else (f, 9 + k, noFa)))) a w := by
  conv => arg 2; whnf
  refine wp_seq (wp_seq ?_)
  refine dtk_r25 a w ha (Lib.hid (fun a1 h1 => ?_))
  obtain ⟨S, hS⟩ : ∃ S, S = setsFault f.sets := ⟨_, rfl⟩
  rw [← hS]
  refine wp_block ?_
  refine wp_loop_ghost (fun m a' w' => ∃ i, m = f.sets.length - i ∧ i ≤ f.sets.length ∧ S = setsFault (f.sets.drop i) ∧ Below w.heap.size w w' ∧ Fr.Is 208 [(0, .slice ad n cap), (1, .int .i64 most), (4, .pointer (some ⟨rv, 0, none⟩)), (6, .pointer (some ⟨rx, 0, none⟩)), (7, .pointer (some ⟨nb, 0, none⟩)), (8, .int .i64 (k : Int)), (9, .pointer (some ⟨fb, 0, none⟩)), (13, .int .i64 i)] a') (f.sets.length - 0)
    ⟨0, rfl, Nat.zero_le _, by simpa using hS, Below.refl _ _, h1⟩ ?_
  rintro m a2 w2 ⟨i, rfl, hi, hSd, b2, h2⟩
  have g2 := h.below b2
  have U2 : Fb fb f sa sc w2 := block_below b2 hf
  refine wp_seq (wp_seq ?_)
  refine dtk_r26 (m := f.sets.length) (sc := sc) (sa := sa) a2 w2 (U2.cellz 5) h2 (Lib.hid (fun a3 h3 => ?_))
  by_cases hlt : i < f.sets.length
  · refine wp_cond_true (h3.get (i := 161) (v := .bool true) (by simp [hlt])) ?_
    refine wp_skip ?_
    refine wp_seq (wp_block ?_)
    obtain ⟨p1, o1, rfl, hc1⟩ : ∃ b off, sa = some ⟨b, off, none⟩ ∧ ∀ i, (h : i < f.sets.length) → Rw.CE ESt w b (off + i * 2) f.sets[i] := by
      rcases hok.row with h | h
      · rw [h] at hlt; simp at hlt
      · exact h
    obtain ⟨x0, x1⟩ := CE_st (hc1 i hlt)
    have hdr : f.sets.drop i = f.sets[i] :: f.sets.drop (i + 1) := List.drop_eq_getElem_cons hlt
    have hFt := setFault_iff f.sets[i]
    refine wp_seq ?_
    refine dtk_r28 (rv := rv) (rx := rx) (nb := nb) (n := n) (cap := cap) (ad := ad) (most := most) (N := k) (i := i) (m := f.sets.length) (sc := sc) (g1 := p1) (o1 := o1) (s := f.sets[i]) a3 w2 (U2.cellz 5) hlt (below_cell b2 x0) (below_cell b2 x1) (h3.less (by simp)) (Lib.hid (fun w4 a4 h4 hs4 b4 => ?_))
    have g4 := g2.below b4
    generalize f.sets[i] = s at *
    obtain ⟨sb, hsb'⟩ : ∃ sb, sb = w2.heap.size := ⟨_, rfl⟩
    rw [← hsb'] at h4 hs4
    have q0 := cell_at hs4 0
    have q1 := cell_at hs4 1
    refine wp_seq (wp_seq ?_)
    refine dtk_r29 (id := s.id) (val := s.val) a4 w4 q0 q1 h4 (Lib.hid (fun v a5 h5 hv => ?_))
    cases v with
    | true =>
      have hF1 := hFt.1 (hv.mp rfl)
      have hS1 : S = 1 := by rw [hSd, hdr, setsFault, hF1]; simp
      refine wp_cond_true (h5.get (i := 191) (v := .bool true) (by simp)) ?_
      refine wp_seq ?_
      refine dtk_r30 (rv := rv) (rx := rx) (nb := nb) a5 w4 g4.V g4.X g4.lo.2.2.1 g4.Z g4.lo.2.2.2.1 g4.lo.2.2.2.2 (h5.less (by simp)) (Lib.hid (fun w' a6 h6 V6 X6 B6 o6 => ?_))
      refine wp_ret ?_
      try dsimp only [Exit.then, Exit.inBlock]
      rw [hS1]
      exact tk_end rfl g4 h6 V6 X6 B6 o6
    | false =>
      have hn1 : ¬((s.id = 2 ∧ 1 < s.val) ∨ (s.id = 5 ∧ (s.val < 16384 ∨ 16777215 < s.val))) := fun e => by have := hv.mpr e; cases this
      have hF2 := hFt.2 hn1
      refine wp_cond_false (h5.get (i := 191) (v := .bool false) (by simp)) ?_
      refine wp_skip ?_
      refine wp_seq ?_
      refine dtk_r31 (id := s.id) (val := s.val) (rv := rv) (rx := rx) (nb := nb) (fb := fb) (n := n) (cap := cap) (ad := ad) (most := most) (N := k) (i := i) a5 w4 q0 q1 (h5.less (by simp)) (Lib.hid (fun v a6 h6 hv => ?_))
      cases v with
      | true =>
        have hF1 := hF2.1 (hv.mp rfl)
        have hS1 : S = 3 := by rw [hSd, hdr, setsFault, hF1]; simp
        refine wp_cond_true (h6.get (i := 201) (v := .bool true) (by simp)) ?_
        refine wp_seq ?_
        refine dtk_r32 (rv := rv) (rx := rx) (nb := nb) a6 w4 g4.V g4.X g4.lo.2.2.1 g4.Z g4.lo.2.2.2.1 g4.lo.2.2.2.2 (h6.less (by simp)) (Lib.hid (fun w' a7 h7 V7 X7 B7 o7 => ?_))
        refine wp_ret ?_
        try dsimp only [Exit.then, Exit.inBlock]
        rw [hS1]
        exact tk_end rfl g4 h7 V7 X7 B7 o7
      | false =>
        have hF1 := hF2.2 (fun e => by have := hv.mpr e; cases this)
        refine wp_cond_false (h6.get (i := 201) (v := .bool false) (by simp)) ?_
        refine wp_skip ?_
        refine dtk_r27 (rv := rv) (rx := rx) (nb := nb) (fb := fb) (n := n) (cap := cap) (ad := ad) (most := most) (N := k) (i := i) a6 w4 (by have := hok.len; have := hok.cap; unfold maxLen at this; omega) (h6.less (by simp)) (Lib.hid (fun a7 h7 => ?_))
        refine ⟨f.sets.length - (i + 1), by omega, i + 1, rfl, by omega, ?_, below_step b2 b4, h7⟩
        rw [hSd, hdr, setsFault, hF1]; simp
  · refine wp_cond_false (h3.get (i := 161) (v := .bool false) (by simp [hlt])) ?_
    refine wp_exit ?_
    have hS0 : S = 0 := by rw [hSd, List.drop_eq_nil_of_le (by omega)]; rfl
    show (Fr.tail Tryd.f17 16).wp Tryd.prog _ a3 w2
    conv => arg 2; whnf
    refine wp_seq ?_
    refine dtk_r33 (rv := rv) (rx := rx) (N := k) a3 w2 g2.V g2.X g2.lo.2.2.1 U2 hfv hfx (by omega) (by omega) (h3.less (by simp)) (Lib.hid (fun w' a4 h4 V4 X4 B4 o4 => ?_))
    refine wp_ret ?_
    try dsimp only [Exit.then, Exit.inBlock]
    rw [hS0]
    refine dtk_ret h4 V4 X4 ?_
    have hz : ((9 + k : Nat) : Int) = 9 + (k : Int) := by omega
    refine ⟨sa, sc, by simp [hz], ?_, g2.ans B4 o4, fun b o s e => (hsb b o s e).2.2⟩
    exact frok_move (hok.below b2) (fun b o s e hlt => o4 b (hsb b o s e).1 (hsb b o s e).2.1 hlt)
end Go.Proofs.YtglhdlkmgmbgeaaDoor

namespace Go.Proofs.YtglhdlkmgmbgeaaDoor
open Go.RowKit
open Fra Oct Arg Mem Gen Qu Go.Proofs.YtglhdlkmgmbgeaaDoor.Obj
set_option linter.unusedVariables false
set_option linter.unusedSimpArgs false

/-- bodyF of its parts. -/
def bodyG (t fl st : Int) (n : Nat) (R : FrM × Bool) : FrM × Nat × FaM :=
  if ((t = 0 ∨ t = 1 ∨ t = 2 ∨ t = 3 ∨ t = 9) ∧ st = 0) ∨ ((t = 4 ∨ t = 6 ∨ t = 7) ∧ st ≠ 0) ∨ t = 5 then (noFr, 0, ofC 1)
  else if sizedB t fl n = false then (if t = 2 then (noFr, 9 + n, ⟨true, 6, st⟩) else (noFr, 0, ofC 6))
  else if R.2 = false then (noFr, 0, ofC 1)
  else if t = 8 ∧ R.1.inc = 0 then (if st = 0 then (noFr, 0, ofC 1) else (noFr, 9 + n, ⟨true, 1, st⟩))
  else if setsFault R.1.sets ≠ 0 then (noFr, 0, ofC (setsFault R.1.sets))
  else (R.1, 9 + n, noFa)
theorem body_g (l : List UInt8) (k : Nat) (h3 : 3 < l.length) (h4 : 4 < l.length) : bodyF l k = bodyG (l[3].toNat : Int) (l[4].toNat : Int) (at' l 5 4 % 2147483648) k (fieldsF (l[3].toNat : Int) (l[4].toNat : Int) (at' l 5 4 % 2147483648) ((l.drop 9).take k)) := by
  have e3 : l.getD 3 0 = l[3] := by simp [List.getD, h3]
  have e4 : l.getD 4 0 = l[4] := by simp [List.getD, h4]
  rw [bodyF, e3, e4]; rfl
theorem ite_fst {c : Prop} [Decidable c] {x y : FrM × Bool} {t st : Int} (hx : x.1.type = t ∧ x.1.stream = st) (hy : y.1.type = t ∧ y.1.stream = st) : (if c then x else y).1.type = t ∧ (if c then x else y).1.stream = st := by
  split <;> assumption
theorem fields_keep (t fl st : Int) (p : List UInt8) : (fieldsF t fl st p).1.type = t ∧ (fieldsF t fl st p).1.stream = st := by
  unfold fieldsF
  exact ite_fst ⟨rfl, rfl⟩ ⟨rfl, rfl⟩

set_option maxHeartbeats 1000000 in
theorem dtk_rest {w0 w : World} {rv rx nb fb n cap k : Nat} {ad : Option Addr} {most : Int} {f : FrM} {ok : Bool} {t st : Int} {sa : Option Addr} {sc : Nat} (a : Act) (h : Tk w0 rv rx nb w) (hf : Fb fb f sa sc w) (hok : FrOk f sa sc w)
    (hsb : ∀ b o s, sa = some ⟨b, o, s⟩ → b ≠ rv ∧ b ≠ rx ∧ w0.heap.size ≤ b) (hfv : fb ≠ rv) (hfx : fb ≠ rx) (hk : k ≤ 16777215) (ht : f.type = t) (hst : f.stream = st)
    (ha : Fr.Is 208 [(0, .slice ad n cap), (1, .int .i64 most), (4, .pointer (some ⟨rv, 0, none⟩)), (6, .pointer (some ⟨rx, 0, none⟩)), (7, .pointer (some ⟨nb, 0, none⟩)), (8, .int .i64 (k : Int)), (9, .pointer (some ⟨fb, 0, none⟩)), (12, .bool ok)] a) :
    (Fr.tail Tryd.f17 13).wp Tryd.prog (bodyPost Tryd.prog Tryd.f17 (TkNew w0 (if ok = false then (noFr, 0, ofC 1)
      else if t = 8 ∧ f.inc = 0 then (if st = 0 then (noFr, 0, ofC 1) else (noFr, 9 + k, ⟨true, 1, st⟩))
      else if setsFault f.sets ≠ 0 then (noFr, 0, ofC (setsFault f.sets)) else (f, 9 + k, noFa)))) a w := by
  conv => arg 2; whnf
  refine wp_seq (wp_seq ?_)
  refine dtk_r19 (b := ok) a w ha (Lib.hid (fun a1 h1 => ?_))
  cases ok with
  | false =>
    rw [if_pos rfl]
    refine wp_cond_true (h1.get (i := 135) (v := .bool true) (by simp)) ?_
    refine wp_seq ?_
    refine dtk_r20 (rv := rv) (rx := rx) (nb := nb) a1 w h.V h.X h.lo.2.2.1 h.Z h.lo.2.2.2.1 h.lo.2.2.2.2 (h1.less (by simp)) (Lib.hid (fun w' a2 h2 V X B o => ?_))
    refine wp_ret ?_
    try dsimp only [Exit.then, Exit.inBlock]
    exact tk_end rfl h h2 V X B o
  | true =>
    rw [if_neg (by decide)]
    refine wp_cond_false (h1.get (i := 135) (v := .bool false) (by simp)) ?_
    refine wp_skip ?_
    refine wp_seq (wp_seq ?_)
    refine dtk_r21 (t := f.type) (inc := f.inc) (rv := rv) (rx := rx) (nb := nb) (fb := fb) (n := n) (cap := cap) (ad := ad) (most := most) (N := k) a1 w (hf.cellz 0) (hf.cellz 8) (h1.less (by simp)) (Lib.hid (fun v a2 h2 hv => ?_))
    rw [ht] at hv
    cases v with
    | true =>
      rw [if_pos (hv.mp rfl)]
      refine wp_cond_true (h2.get (i := 145) (v := .bool true) (by simp)) ?_
      refine wp_seq (wp_seq ?_)
      refine dtk_r22 (st := f.stream) (rv := rv) (rx := rx) (nb := nb) (fb := fb) (n := n) (cap := cap) (ad := ad) (most := most) (N := k) a2 w (hf.cellz 2) (h2.less (by simp)) (Lib.hid (fun v a3 h3 hv => ?_))
      rw [hst] at hv
      cases v with
      | true =>
        rw [if_pos (hv.mp rfl)]
        refine wp_cond_true (h3.get (i := 148) (v := .bool true) (by simp)) ?_
        refine wp_seq ?_
        refine dtk_r23 (rv := rv) (rx := rx) (nb := nb) a3 w h.V h.X h.lo.2.2.1 h.Z h.lo.2.2.2.1 h.lo.2.2.2.2 (h3.less (by simp)) (Lib.hid (fun w' a4 h4 V X B o => ?_))
        refine wp_ret ?_
        try dsimp only [Exit.then, Exit.inBlock]
        exact tk_end rfl h h4 V X B o
      | false =>
        rw [if_neg (fun e => by have := hv.mpr e; cases this)]
        refine wp_cond_false (h3.get (i := 148) (v := .bool false) (by simp)) ?_
        refine wp_skip ?_
        refine wp_seq ?_
        refine dtk_r24 (rv := rv) (rx := rx) (nb := nb) (fb := fb) (N := k) (st := st) a3 w h.V h.X h.lo.2.2.1 h.Z h.lo.2.2.2.1 h.lo.2.2.2.2 (by rw [← hst]; exact hf.cellz 2) hfv hfx (by omega) (by omega) (h3.less (by simp)) (Lib.hid (fun w' a4 h4 V X B o => ?_))
        refine wp_ret ?_
        try dsimp only [Exit.then, Exit.inBlock]
        exact tk_end (by omega) h h4 V X B o
    | false =>
      rw [if_neg (fun e => by have := hv.mpr e; cases this)]
      refine wp_cond_false (h2.get (i := 145) (v := .bool false) (by simp)) ?_
      refine wp_skip ?_
      exact dtk_loop (n := n) (cap := cap) (ad := ad) (most := most) a2 h hf hok hsb hfv hfx hk (h2.less (by simp))

set_option maxHeartbeats 1000000 in
theorem dtk_body {w0 w : World} {rv rx nb cap k : Nat} {ad : Option Addr} {most : Int} {l : List UInt8} (a : Act) (h : Tk w0 rv rx nb w) (hr : RB w0 ad l) (hc : l.length ≤ cap) (hm : cap ≤ maxLen) (hl : 9 + k ≤ l.length) (hk : k ≤ 16777215)
    (ha : Fr.Is 208 [(0, .slice ad l.length cap), (1, .int .i64 most), (4, .pointer (some ⟨rv, 0, none⟩)), (6, .pointer (some ⟨rx, 0, none⟩)), (7, .pointer (some ⟨nb, 0, none⟩)), (8, .int .i64 (k : Int))] a) :
    (Fr.tail Tryd.f17 6).wp Tryd.prog (bodyPost Tryd.prog Tryd.f17 (TkNew w0 (bodyF l k))) a w := by
  rw [body_g l k (by omega) (by omega)]
  conv => arg 2; whnf
  obtain ⟨b, off, rfl, hcl⟩ : ∃ b off, ad = some ⟨b, off, none⟩ ∧ ∀ i, (h : i < l.length) → w0.cell? ⟨b, off + i, none⟩ = some (.int .u8 (l[i].toNat : Int)) := by
    rcases hr with h | h
    · rw [h] at hl; simp at hl
    · exact h
  have hml : l.length ≤ maxLen := Nat.le_trans hc hm
  have hV := at_bd l 5 4 (by decide)
  obtain ⟨p, hp⟩ : ∃ p, p = (l.drop 9).take k := ⟨_, rfl⟩
  have hpl : p.length = k := by rw [hp, List.length_take, List.length_drop]; omega
  rw [← hp]
  refine wp_seq ?_
  refine dtk_r9 (rv := rv) (rx := rx) (nb := nb) (n := l.length) (cap := cap) (b := b) (off := off) (most := most) (N := k) (V := at' l 5 4) (c := l[3]) (d := l[4]) a w (by omega) (below_cell h.bel (hcl 3 (by omega))) (below_cell h.bel (hcl 4 (by omega))) (Lib.hid (fun v hv => rat_any _ l cap 5 4 v hml ((hr.below h.bel).below hv) (by decide) (by decide) (by omega))) hV.1 hV.2 ha (Lib.hid (fun w1 a1 h1 hf b1 => ?_))
  have h3l := (l[3]).toNat_lt
  have h4l := (l[4]).toNat_lt
  have ht0 : (0 : Int) ≤ (l[3].toNat : Int) := by omega
  have hf0 : (0 : Int) ≤ (l[4].toNat : Int) := by omega
  have hf1 : (l[4].toNat : Int) ≤ 255 := by omega
  generalize (l[3].toNat : Int) = t at *
  generalize (l[4].toNat : Int) = fl at *
  generalize at' l 5 4 % 2147483648 = st at *
  have g1 := h.below b1
  have hrl : rv < w.heap.size := (Array.getElem?_eq_some_iff.1 h.V).1
  have hxl : rx < w.heap.size := (Array.getElem?_eq_some_iff.1 h.X).1
  have hfv : w.heap.size ≠ rv := by omega
  have hfx : w.heap.size ≠ rx := by omega
  obtain ⟨fb, hfb⟩ : ∃ fb, fb = w.heap.size := ⟨_, rfl⟩
  rw [← hfb] at h1 hf hfv hfx
  refine wp_seq ?_
  refine dtk_r10 (t := t) a1 w1 (hf.cellz 0) h1 (Lib.hid (fun v10 a2 h2 e10 => ?_))
  refine wp_seq ?_
  refine dtk_r11 (t := t) (b10 := v10) a2 w1 (hf.cellz 0) h2 (Lib.hid (fun v11 a3 h3 e11 => ?_))
  refine wp_seq (wp_seq ?_)
  refine dtk_r12 (t := t) (st := st) (b10 := v10) (b11 := v11) a3 w1 (hf.cellz 0) (hf.cellz 2) h3 (Lib.hid (fun v a4 h4 hv => ?_))
  rw [e10, e11] at hv
  cases v with
  | true =>
    rw [bodyG, if_pos (hv.mp rfl)]
    refine wp_cond_true (h4.get (i := 101) (v := .bool true) (by simp)) ?_
    refine wp_seq ?_
    refine dtk_r13 (rv := rv) (rx := rx) (nb := nb) a4 w1 g1.V g1.X g1.lo.2.2.1 g1.Z g1.lo.2.2.2.1 g1.lo.2.2.2.2 (h4.less (by simp)) (Lib.hid (fun w' a5 h5 V X B o => ?_))
    refine wp_ret ?_
    try dsimp only [Exit.then, Exit.inBlock]
    exact tk_end rfl g1 h5 V X B o
  | false =>
    rw [bodyG, if_neg (fun e => by have := hv.mpr e; cases this)]
    refine wp_cond_false (h4.get (i := 101) (v := .bool false) (by simp)) ?_
    refine wp_skip ?_
    have HS := fun v => rsized_any (hdrF t fl st) none 0 k v hf0 hf1 (by omega)
    change ∀ v, Calls _ _ _ v (fun e w' => e = .returned (.bool (sizedB t fl k)) ∧ _) at HS
    refine wp_seq (wp_seq ?_)
    refine dtk_r14 (rv := rv) (rx := rx) (nb := nb) (fb := fb) (n := l.length) (cap := cap) (ad := some ⟨b, off, none⟩) (most := most) (N := k) (s := sizedB t fl k) a4 w1 hf (Lib.hid (fun v _ => HS v)) (h4.less (by simp)) (Lib.hid (fun w5 v a5 h5 b5 hv2 => ?_))
    have g5 := g1.below b5
    have f5 : Fb fb (hdrF t fl st) none 0 w5 := block_below b5 hf
    change v = true ↔ sizedB t fl k = false ∧ t = 2 at hv2
    cases v with
    | true =>
      obtain ⟨hs, h2⟩ := hv2.mp rfl
      rw [if_pos hs, if_pos h2]
      refine wp_cond_true (h5.get (i := 112) (v := .bool true) (by simp)) ?_
      refine wp_seq ?_
      refine dtk_r15 (rv := rv) (rx := rx) (nb := nb) (fb := fb) (N := k) (st := st) a5 w5 g5.V g5.X g5.lo.2.2.1 g5.Z g5.lo.2.2.2.1 g5.lo.2.2.2.2 (f5.cellz 2) hfv hfx (by omega) (by omega) (h5.less (by simp)) (Lib.hid (fun w' a6 h6 V X B o => ?_))
      refine wp_ret ?_
      try dsimp only [Exit.then, Exit.inBlock]
      exact tk_end (by omega) g5 h6 V X B o
    | false =>
      refine wp_cond_false (h5.get (i := 112) (v := .bool false) (by simp)) ?_
      refine wp_skip ?_
      refine wp_seq (wp_seq ?_)
      refine dtk_r16 (rv := rv) (rx := rx) (nb := nb) (fb := fb) (n := l.length) (cap := cap) (ad := some ⟨b, off, none⟩) (most := most) (N := k) (s := sizedB t fl k) a5 w5 f5 (Lib.hid (fun v _ => HS v)) (h5.less (by simp)) (Lib.hid (fun w6 a6 h6 b6 => ?_))
      have g6 := g5.below b6
      have f6 : Fb fb (hdrF t fl st) none 0 w6 := block_below b6 f5
      cases hs : sizedB t fl k with
      | false =>
        rw [hs] at h6
        rw [if_pos rfl, if_neg (fun e => by have := hv2.mpr ⟨hs, e⟩; cases this)]
        refine wp_cond_true (h6.get (i := 122) (v := .bool true) (by simp)) ?_
        refine wp_seq ?_
        refine dtk_r17 (rv := rv) (rx := rx) (nb := nb) a6 w6 g6.V g6.X g6.lo.2.2.1 g6.Z g6.lo.2.2.2.1 g6.lo.2.2.2.2 (h6.less (by simp)) (Lib.hid (fun w' a7 h7 V X B o => ?_))
        refine wp_ret ?_
        try dsimp only [Exit.then, Exit.inBlock]
        exact tk_end rfl g6 h7 V X B o
      | true =>
        rw [hs] at h6
        rw [if_neg (by decide)]
        refine wp_cond_false (h6.get (i := 122) (v := .bool false) (by simp)) ?_
        refine wp_skip ?_
        have hfk := fields_keep t fl st p
        have HC : ∀ v, Below w6.heap.size w6 v → Calls Tryd.prog 27 #[frV (hdrF t fl st) none 0, .slice (Sl.adOf (some ⟨b, off, none⟩) cap 9 1) k (cap - 9)] v (FiEnd v (fieldsF t fl st p)) := fun v hv => by
          have z : Pz v (Sl.adOf (some ⟨b, off, none⟩) cap 9 1) (cap - 9) p := ⟨by rw [hp]; exact (((Sl.rb_from hr 9 hc).take k).below g6.bel).below hv, by omega, by omega⟩
          have := rfields06_any t fl st _ _ p v ht0 hf0 hf1 z (by omega) (by rw [hpl]; exact hs)
          rw [hpl] at this
          exact this
        generalize hR : fieldsF t fl st p = R at *
        obtain ⟨f2, ok⟩ := R
        refine wp_seq ?_
        refine dtk_r18 (rv := rv) (rx := rx) (nb := nb) (fb := fb) (n := l.length) (cap := cap) (k := k) (ad := some ⟨b, off, none⟩) (most := most) a6 w6 f6 hl hc (by unfold maxLen at hm; exact hm) (Lib.hid HC) (h6.less (by simp)) (Lib.hid (fun w7 w8 sa1 sc1 a7 h7 ok7 hn7 b7 f8 b8 o8 => ?_))
        have g7 := g6.below b7
        have hrl7 : rv < w6.heap.size := (Array.getElem?_eq_some_iff.1 g6.V).1
        have hxl7 : rx < w6.heap.size := (Array.getElem?_eq_some_iff.1 g6.X).1
        have hfl7 : fb < w6.heap.size := (Array.getElem?_eq_some_iff.1 f6).1
        have hnl7 : nb < w.heap.size := (Array.getElem?_eq_some_iff.1 h.Z).1
        have hw0 := h.bel.size
        have g8 : Tk w0 rv rx nb w8 := ⟨⟨b8.os.trans g7.bel.os, b8.tape.trans g7.bel.tape, b8.output.trans g7.bel.output, Nat.le_trans g7.bel.size b8.size, fun i hi => (o8 i (by omega)).trans (g7.bel.block i hi)⟩, (o8 rv (fun e => hfv e.symm)).trans g7.V, (o8 rx (fun e => hfx e.symm)).trans g7.X, (o8 nb (by omega)).trans g7.Z, g7.lo⟩
        have ok8 : FrOk f2 sa1 sc1 w8 := frok_move ok7 (fun b' o' s' e _ => o8 b' (by have := hn7 b' o' s' e; omega))
        exact dtk_rest (t := t) (st := st) (n := l.length) (cap := cap) (ad := some ⟨b, off, none⟩) (most := most) a7 g8 f8 ok8 (fun b' o' s' e => by have := hn7 b' o' s' e; have := g6.bel.size; exact ⟨by omega, by omega, by omega⟩) hfv hfx hk hfk.1 hfk.2 h7

set_option maxRecDepth 100000 in
set_option maxHeartbeats 4000000 in
theorem rtake06_new (l : List UInt8) (ad : Option Addr) (cap : Nat) (most : Int) (w : World) (hr : RB w ad l) (hc : l.length ≤ cap) (hm : cap ≤ maxLen) :
    Calls Tryd.prog 17 #[.slice ad l.length cap, .int .i64 most] w (TkNew w (takeF l most)) := by
  have hml : l.length ≤ maxLen := Nat.le_trans hc hm
  go_enter Tryd.func17, Tryd.ntmps17
  refine wp_seq ?_
  refine dtk_r0 (n := l.length) (cap := cap) (ad := ad) (most := most) _ w (Fr.Is.mk rfl rfl) (Lib.hid (fun a1 h1 => ?_))
  have V1 : Fb w.heap.size noFr none 0 ((w.alloc (.cells #[.int .i64 0, .int .i64 0, .int .i64 0, .string ⟨#[]⟩, .int .i64 0, .slice none 0 0, .int .i64 0, .int .i64 0, .int .i64 0, .int .i64 0, .int .i64 0, .bool false] 40)).alloc (.cells #[.bool false, .int .i64 0, .int .i64 0] 37)) := alloc_at (heap_alloc_new w _)
  have X1 := alloc_two w (.cells #[.int .i64 0, .int .i64 0, .int .i64 0, .string ⟨#[]⟩, .int .i64 0, .slice none 0 0, .int .i64 0, .int .i64 0, .int .i64 0, .int .i64 0, .int .i64 0, .bool false] 40) (.cells #[.bool false, .int .i64 0, .int .i64 0] 37)
  have B1 : Below w.heap.size w ((w.alloc (.cells #[.int .i64 0, .int .i64 0, .int .i64 0, .string ⟨#[]⟩, .int .i64 0, .slice none 0 0, .int .i64 0, .int .i64 0, .int .i64 0, .int .i64 0, .int .i64 0, .bool false] 40)).alloc (.cells #[.bool false, .int .i64 0, .int .i64 0] 37)) := below_step (bel_al _ _) (bel_al _ _)
  generalize (w.alloc (.cells #[.int .i64 0, .int .i64 0, .int .i64 0, .string ⟨#[]⟩, .int .i64 0, .slice none 0 0, .int .i64 0, .int .i64 0, .int .i64 0, .int .i64 0, .int .i64 0, .bool false] 40)).alloc (.cells #[.bool false, .int .i64 0, .int .i64 0] 37) = w1 at V1 X1 B1 ⊢
  refine wp_seq ?_
  refine dtk_r1 a1 w1 h1 (Lib.hid (fun w2 a2 h2 Z2 b2 => ?_))
  have hxl : w.heap.size + 1 < w1.heap.size := (Array.getElem?_eq_some_iff.1 X1).1
  have g2 : Tk w w.heap.size (w.heap.size + 1) w1.heap.size w2 := ⟨below_step B1 b2, block_below b2 V1, block_below b2 X1, Z2, Nat.le_refl _, by omega, by omega, by omega, by omega⟩
  obtain ⟨nb, hnb⟩ : ∃ nb, nb = w1.heap.size := ⟨_, rfl⟩
  rw [← hnb] at g2 h2
  clear V1 X1 B1 b2 Z2 hxl
  refine wp_seq (wp_seq ?_)
  refine dtk_r2 (n := l.length) (cap := cap) (ad := ad) (most := most) a2 w2 h2 (Lib.hid (fun a3 h3 => ?_))
  by_cases h9 : l.length < 9
  · have hT : takeF l most = (noFr, 0, noFa) := by rw [takeF, if_pos h9]
    rw [hT]
    refine wp_cond_true (h3.get (i := 18) (v := .bool true) (by simp; omega)) ?_
    refine wp_seq ?_
    refine dtk_r3 (rv := w.heap.size) (rx := w.heap.size + 1) (nb := nb) a3 w2 g2.V g2.X g2.lo.2.2.1 g2.Z g2.lo.2.2.2.1 g2.lo.2.2.2.2 (h3.less (by simp)) (Lib.hid (fun w' a4 h4 V X B o => ?_))
    refine wp_ret ?_
    try dsimp only [Exit.then, Exit.inBlock]
    exact tk_end rfl g2 h4 V X B o
  · refine wp_cond_false (h3.get (i := 18) (v := .bool false) (by simp; omega)) ?_
    refine wp_skip ?_
    have hN := beI_small ((l.drop 0).take 3) (by simp; omega)
    change 0 ≤ at' l 0 3 ∧ at' l 0 3 < 16777216 at hN
    have hlen : at' l 0 3 = ((lenN l : Nat) : Int) := by rw [lenN]; omega
    have hk : lenN l ≤ 16777215 := by omega
    refine wp_seq ?_
    refine dtk_r4 (rv := w.heap.size) (rx := w.heap.size + 1) (nb := nb) (n := l.length) (cap := cap) (ad := ad) (most := most) (N := at' l 0 3) a3 w2 (Lib.hid (rat_any ad l cap 0 3 w2 hml (hr.below g2.bel) (by decide) (by decide) (by omega))) hN.1 (by omega) (h3.less (by simp)) (Lib.hid (fun a4 h4 => ?_))
    rw [hlen] at h4
    refine wp_seq (wp_seq ?_)
    refine dtk_r5 a4 w2 h4 (Lib.hid (fun a5 h5 => ?_))
    by_cases hmo : most < lenN l
    · have hT : takeF l most = (noFr, 0, ofC 6) := by rw [takeF, if_neg h9, if_pos (by omega)]
      rw [hT]
      refine wp_cond_true (h5.get (i := 25) (v := .bool true) (by simp; omega)) ?_
      refine wp_seq ?_
      refine dtk_r6 (rv := w.heap.size) (rx := w.heap.size + 1) (nb := nb) a5 w2 g2.V g2.X g2.lo.2.2.1 g2.Z g2.lo.2.2.2.1 g2.lo.2.2.2.2 (h5.less (by simp)) (Lib.hid (fun w' a6 h6 V X B o => ?_))
      refine wp_ret ?_
      try dsimp only [Exit.then, Exit.inBlock]
      exact tk_end rfl g2 h6 V X B o
    · refine wp_cond_false (h5.get (i := 25) (v := .bool false) (by simp; omega)) ?_
      refine wp_skip ?_
      refine wp_seq (wp_seq ?_)
      refine dtk_r7 (N := (lenN l : Int)) (rv := w.heap.size) (rx := w.heap.size + 1) (nb := nb) (n := l.length) (cap := cap) (ad := ad) (most := most) a5 w2 (by omega) (by unfold maxLen at hml; omega) (h5.less (by simp)) (Lib.hid (fun a6 h6 => ?_))
      by_cases hsh : l.length < 9 + lenN l
      · have hT : takeF l most = (noFr, 0, noFa) := by rw [takeF, if_neg h9, if_neg (by omega), if_pos hsh]
        rw [hT]
        refine wp_cond_true (h6.get (i := 32) (v := .bool true) (by simp; omega)) ?_
        refine wp_seq ?_
        refine dtk_r8 (rv := w.heap.size) (rx := w.heap.size + 1) (nb := nb) a6 w2 g2.V g2.X g2.lo.2.2.1 g2.Z g2.lo.2.2.2.1 g2.lo.2.2.2.2 (h6.less (by simp)) (Lib.hid (fun w' a7 h7 V X B o => ?_))
        refine wp_ret ?_
        try dsimp only [Exit.then, Exit.inBlock]
        exact tk_end rfl g2 h7 V X B o
      · have hT : takeF l most = bodyF l (lenN l) := by rw [takeF, if_neg h9, if_neg (by omega), if_neg hsh]
        rw [hT]
        refine wp_cond_false (h6.get (i := 32) (v := .bool false) (by simp; omega)) ?_
        refine wp_skip ?_
        exact dtk_body (most := most) a6 g2 hr hc hm (by omega) hk (h6.less (by simp))
theorem rtake06_any (l : List UInt8) (ad : Option Addr) (cap : Nat) (most : Int) (w : World) (hr : RB w ad l) (hc : l.length ≤ cap) (hm : cap ≤ maxLen) :
    Calls Tryd.prog 17 #[.slice ad l.length cap, .int .i64 most] w (TkEnd w (takeF l most)) :=
  (rtake06_new l ad cap most w hr hc hm).mono (fun e w' h => by obtain ⟨sa, sc, h1, h2, h3, _⟩ := h; exact ⟨sa, sc, h1, h2, h3⟩)
end Go.Proofs.YtglhdlkmgmbgeaaDoor

namespace Go.Proofs.YtglhdlkmgmbgeaaDoor
open Go.RowKit
open Fra Oct Arg Mem Gen Go.Proofs.YtglhdlkmgmbgeaaDoor.Obj
set_option linter.unusedVariables false
set_option linter.unusedSimpArgs false

theorem same_ret {R : Ending → World → Prop} {b : Bool} {a : Act} {w' : World} (ha : Fr.Is 106 [(4, .bool b)] a) (hR : R (.returned (.bool b)) w') : bodyPost Tryd.prog Tryd.f18 R .ret a w' := by
  obtain ⟨fr, rfl, hfr⟩ := ha.lit
  simp only [List.map_cons, List.map_nil, List.cons.injEq, and_true] at hfr
  refine bodyPost_ret (v := .bool b) ?_ rfl hR
  simp [results, Tryd.results18, go_sem, hfr]
theorem drop_same {s t : List StM} {i : Nat} (hi : i < s.length) (hj : i < t.length) (h : s.drop i = t.drop i ↔ s = t) (he : s[i] = t[i]) : s.drop (i + 1) = t.drop (i + 1) ↔ s = t := by
  rw [← h, List.drop_eq_getElem_cons hi, List.drop_eq_getElem_cons hj, he]
  constructor
  · intro e; rw [e]
  · intro e; exact (List.cons.inj e).2
theorem belowN (w : World) (n : Nat) : Below w.heap.size w (w.drewN n) := by
  induction n with
  | zero => exact Below.refl _ _
  | succ n ih => exact ih.drew

set_option maxHeartbeats 1000000 in
theorem rsame_any (f g : FrM) (sa sb : Option Addr) (sc sd : Nat) (w : World) (hf : FrOk f sa sc w) (hg : FrOk g sb sd w) :
    Calls Tryd.prog 18 #[frV f sa sc, frV g sb sd] w fun e w' => e = .returned (.bool (decide (f = g))) ∧ Below w.heap.size w w' := by
  unfold frV
  go_enter Tryd.func18, Tryd.ntmps18
  refine wp_seq ?_
  refine sam_r0 (cs := frC f sa sc) (ds := frC g sb sd) _ w (Fr.Is.mk rfl rfl) (Lib.hid (fun a1 h1 => ?_))
  have V1 : Fb w.heap.size f sa sc ((w.alloc (.cells (frC f sa sc) 40)).alloc (.cells (frC g sb sd) 40)) := alloc_at (heap_alloc_new w _)
  have V2 : Fb (w.heap.size + 1) g sb sd ((w.alloc (.cells (frC f sa sc) 40)).alloc (.cells (frC g sb sd) 40)) := alloc_two w _ _
  have B1 : Below w.heap.size w ((w.alloc (.cells (frC f sa sc) 40)).alloc (.cells (frC g sb sd) 40)) := below_step (bel_al _ _) (bel_al _ _)
  generalize (w.alloc (.cells (frC f sa sc) 40)).alloc (.cells (frC g sb sd) 40) = w1 at V1 V2 B1 ⊢
  refine wp_seq (wp_seq ?_)
  refine sam_r1 a1 w1 (V1.cellz 5) (V2.cellz 5) h1 (Lib.hid (fun a2 h2 => ?_))
  by_cases hl : f.sets.length = g.sets.length
  · refine wp_cond_false (h2.get (i := 12) (v := .bool false) (by simp [hl])) ?_
    refine wp_skip ?_
    refine wp_seq (wp_seq ?_)
    refine sam_r3 (b1 := w.heap.size) (b2 := w.heap.size + 1) a2 w1 (h2.less (by simp)) (Lib.hid (fun a3 h3 => ?_))
    refine wp_block ?_
    refine wp_loop_ghost (fun n a' w' => ∃ i, n = f.sets.length - i ∧ i ≤ f.sets.length ∧ (f.sets.drop i = g.sets.drop i ↔ f.sets = g.sets) ∧ Below w1.heap.size w1 w' ∧ Fr.Is 106 [(2, .pointer (some ⟨w.heap.size, 0, none⟩)), (3, .pointer (some ⟨w.heap.size + 1, 0, none⟩)), (5, .int .i64 i)] a') (f.sets.length - 0)
      ⟨0, rfl, Nat.zero_le _, by simp, Below.refl _ _, h3⟩ ?_
    rintro n a4 w4 ⟨i, rfl, hi, hd, b4, h4⟩
    have U1 := block_below b4 V1
    have U2 := block_below b4 V2
    have Bw := below_step B1 b4
    refine wp_seq (wp_seq ?_)
    refine sam_r4 (n := f.sets.length) (sc := sc) (sa := sa) a4 w4 (Fb.cellz U1 5) h4 (Lib.hid (fun a5 h5 => ?_))
    by_cases hlt : i < f.sets.length
    · refine wp_cond_true (h5.get (i := 17) (v := .bool true) (by simp [hlt])) ?_
      refine wp_skip ?_
      refine wp_seq (wp_block ?_)
      have hlt2 : i < g.sets.length := by omega
      obtain ⟨p1, o1, rfl, hc1⟩ : ∃ b off, sa = some ⟨b, off, none⟩ ∧ ∀ i, (h : i < f.sets.length) → Rw.CE ESt w b (off + i * 2) f.sets[i] := by
        rcases hf.row with h | h
        · rw [h] at hlt; simp at hlt
        · exact h
      obtain ⟨p2, o2, rfl, hc2⟩ : ∃ b off, sb = some ⟨b, off, none⟩ ∧ ∀ i, (h : i < g.sets.length) → Rw.CE ESt w b (off + i * 2) g.sets[i] := by
        rcases hg.row with h | h
        · rw [h] at hlt2; simp at hlt2
        · exact h
      obtain ⟨x0, x1⟩ := CE_st (hc1 i hlt)
      obtain ⟨y0, y1⟩ := CE_st (hc2 i hlt2)
      refine wp_seq ?_
      refine sam_r6 (i := i) (n := f.sets.length) (m := g.sets.length) (sc := sc) (sd := sd) (g1 := p1) (g2 := p2) (o1 := o1) (o2 := o2) (s := f.sets[i]) (t := g.sets[i]) a5 w4 (Fb.cellz U1 5) (Fb.cellz U2 5) hlt hlt2 (below_cell Bw x0) (below_cell Bw x1) (below_cell Bw y0) (below_cell Bw y1) (h5.less (by simp)) (Lib.hid (fun nq a6 h6 => ?_))
      have b6 := below_step b4 (belowN w4 nq)
      by_cases he : f.sets[i] = g.sets[i]
      · refine wp_cond_false (h6.get (i := 30) (v := .bool false) (by simp [he])) ?_
        refine wp_skip ?_
        refine sam_r5 (b1 := w.heap.size) (b2 := w.heap.size + 1) (i := i) a6 _ (by have := hf.len; have := hf.cap; unfold maxLen at this; omega) (h6.less (by simp)) (Lib.hid (fun a7 h7 => ?_))
        refine ⟨f.sets.length - (i + 1), by omega, i + 1, rfl, by omega, drop_same hlt hlt2 hd he, b6, ?_⟩
        exact h7
      · refine wp_cond_true (h6.get (i := 30) (v := .bool true) (by simp [he])) ?_
        refine wp_seq ?_
        refine sam_r7 (b1 := w.heap.size) (b2 := w.heap.size + 1) a6 _ (h6.less (by simp)) (Lib.hid (fun a7 h7 => ?_))
        refine wp_ret ?_
        try dsimp only [Exit.then, Exit.inBlock]
        have hne : f ≠ g := fun e => he (by subst e; rfl)
        rw [decide_eq_false hne]
        exact same_ret h7 ⟨rfl, below_step B1 b6⟩
    · refine wp_cond_false (h5.get (i := 17) (v := .bool false) (by simp [hlt])) ?_
      refine wp_exit ?_
      have hs : f.sets = g.sets := hd.mp (by rw [List.drop_eq_nil_of_le (by omega), List.drop_eq_nil_of_le (by omega)])
      obtain ⟨c0, c1, c2, c3, c4, c5, c6, c7, c8, c9, c10, c11⟩ := fr_cells U1
      obtain ⟨d0, d1, d2, d3, d4, d5, d6, d7, d8, d9, d10, d11⟩ := fr_cells U2
      show (Fr.tail Tryd.f18 3).wp Tryd.prog _ a5 w4
      conv => arg 2; whnf
      refine wp_seq ?_
      refine sam_r8 a5 w4 c0 c1 c2 c3 c4 c6 c7 c8 c9 c10 c11 d0 d1 d2 d3 d4 d6 d7 d8 d9 d10 d11 (h5.less (by simp)) (Lib.hid (fun v a6 h6 hv => ?_))
      refine wp_ret ?_
      try dsimp only [Exit.then, Exit.inBlock]
      have hve : v = decide (f = g) := by
        rw [Bool.eq_iff_iff, hv, decide_eq_true_eq]
        constructor
        · rintro ⟨e0, e1, e2, e3, e4, e6, e7, e8, e9, e10, e11⟩
          obtain ⟨⟩ := f
          obtain ⟨⟩ := g
          simp only at *
          subst e0 e1 e2 e3 e4 e6 e7 e8 e9 e10 e11 hs
          rfl
        · rintro rfl; exact ⟨rfl, rfl, rfl, rfl, rfl, rfl, rfl, rfl, rfl, rfl, rfl⟩
      rw [← hve]
      exact same_ret h6 ⟨rfl, Bw⟩
  · refine wp_cond_true (h2.get (i := 12) (v := .bool true) (by simp [hl])) ?_
    refine wp_seq ?_
    refine sam_r2 (b1 := w.heap.size) (b2 := w.heap.size + 1) a2 w1 (h2.less (by simp)) (Lib.hid (fun a3 h3 => ?_))
    refine wp_ret ?_
    try dsimp only [Exit.then, Exit.inBlock]
    have hne : f ≠ g := fun e => hl (by rw [e])
    rw [decide_eq_false hne]
    exact same_ret h3 ⟨rfl, B1⟩
end Go.Proofs.YtglhdlkmgmbgeaaDoor

namespace Go.Proofs.YtglhdlkmgmbgeaaDoor
open Go.RowKit
open Cho Fra Oct Arg Mem Gen Wr Qu Pt Sx Go.Proofs.YtglhdlkmgmbgeaaDoor.Obj
set_option linter.unusedVariables false
set_option linter.unusedSimpArgs false

theorem CE_it {w : World} {b o : Nat} {x : ItX} (h : Rw.CE EIt w b o x) :
    w.cell? ⟨b, o, none⟩ = some (.int .i64 x.1.f.type) ∧ w.cell? ⟨b, o + 1, none⟩ = some (.int .i64 x.1.f.flags) ∧ w.cell? ⟨b, o + 2, none⟩ = some (.int .i64 x.1.f.stream) ∧ w.cell? ⟨b, o + 3, none⟩ = some (.string x.1.f.data) ∧ w.cell? ⟨b, o + 4, none⟩ = some (.int .i64 x.1.f.pad) ∧ w.cell? ⟨b, o + 5, none⟩ = some (.slice x.2.1 x.1.f.sets.length x.2.2) ∧
    w.cell? ⟨b, o + 6, none⟩ = some (.int .i64 x.1.f.code) ∧ w.cell? ⟨b, o + 7, none⟩ = some (.int .i64 x.1.f.last) ∧ w.cell? ⟨b, o + 8, none⟩ = some (.int .i64 x.1.f.inc) ∧ w.cell? ⟨b, o + 9, none⟩ = some (.int .i64 x.1.f.dep) ∧ w.cell? ⟨b, o + 10, none⟩ = some (.int .i64 x.1.f.weight) ∧ w.cell? ⟨b, o + 11, none⟩ = some (.bool x.1.f.sole) ∧
    w.cell? ⟨b, o + 12, none⟩ = some (.bool x.1.x.is) ∧ w.cell? ⟨b, o + 13, none⟩ = some (.int .i64 x.1.x.code) ∧ w.cell? ⟨b, o + 14, none⟩ = some (.int .i64 x.1.x.stream) :=
  ⟨h 0 _ rfl, h 1 _ rfl, h 2 _ rfl, h 3 _ rfl, h 4 _ rfl, h 5 _ rfl, h 6 _ rfl, h 7 _ rfl, h 8 _ rfl, h 9 _ rfl, h 10 _ rfl, h 11 _ rfl, h 12 _ rfl, h 13 _ rfl, h 14 _ rfl⟩

set_option maxRecDepth 100000 in
set_option maxHeartbeats 4000000 in
theorem sm_r6 {Q : Exit → Act → World → Prop} {i n m ca cb b1 b2 o1 o2 : Nat} {x y : ItX} (a : Act) (w : World) (hx : Rw.CE EIt w b1 (o1 + i * 15) x) (hy : Rw.CE EIt w b2 (o2 + i * 15) y) (hin : i < n) (him : i < m)
    (ok1 : FrOk x.1.f x.2.1 x.2.2 w) (ok2 : FrOk y.1.f y.2.1 y.2.2 w)
    (ha : Fr.Is 42 [(0, .slice (some ⟨b1, o1, none⟩) n ca), (1, .slice (some ⟨b2, o2, none⟩) m cb), (5, .int .i64 i)] a)
    (hQ : Hid (∀ a' w', Fr.Is 42 [(0, .slice (some ⟨b1, o1, none⟩) n ca), (1, .slice (some ⟨b2, o2, none⟩) m cb), (5, .int .i64 i), (41, .bool (decide (x.1 ≠ y.1)))] a' → Below w.heap.size w w' → Q .normal a' w')) :
    (Fr.reg Tryd.f13 6).wp Tryd.prog Q a w := by
  obtain ⟨fr, rfl, hfr⟩ := ha.lit
  simp only [List.map_cons, List.map_nil, List.cons.injEq, and_true] at hfr
  conv => arg 2; whnf
  simp only [List.range, List.range.loop, List.map_cons, List.map_nil, hfr]
  clear hfr ha
  have hb0 : Below w.heap.size w w.drew := (Below.refl _ _).drew
  have : Nonempty (Cw (fun v => Below w.heap.size w v)) := ⟨⟨_, hb0⟩⟩
  have HSm := Lib.hid (fun (v : World) (hv : Below w.heap.size w v) => rsame_any x.1.f y.1.f x.2.1 y.2.1 x.2.2 y.2.2 v (ok1.below hv) (ok2.below hv))
  have hEq := fun v => eqFa x.1.x.is x.1.x.code x.1.x.stream y.1.x.is y.1.x.code y.1.x.stream v
  have hg := guFa
  have hin' : (i : Int) < n := by omega
  have him' : (i : Int) < m := by omega
  obtain ⟨c0, c1, c2, c3, c4, c5, c6, c7, c8, c9, c10, c11, c12, c13, c14⟩ := CE_it hx
  obtain ⟨d0, d1, d2, d3, d4, d5, d6, d7, d8, d9, d10, d11, d12, d13, d14⟩ := CE_it hy
  have hB : ∀ nn : Cw (fun v => Below w.heap.size w v), Below w.heap.size w nn.v := fun nn => nn.h
  have zc0 : ∀ nn : Cw (fun v => Below w.heap.size w v), nn.v.cell? ⟨b1, o1 + i * 15, none⟩ = some (.int .i64 x.1.f.type) := fun nn => below_cell (hB nn) c0
  have zc1 : ∀ nn : Cw (fun v => Below w.heap.size w v), nn.v.cell? ⟨b1, o1 + i * 15 + 1, none⟩ = some (.int .i64 x.1.f.flags) := fun nn => below_cell (hB nn) c1
  have zc2 : ∀ nn : Cw (fun v => Below w.heap.size w v), nn.v.cell? ⟨b1, o1 + i * 15 + 2, none⟩ = some (.int .i64 x.1.f.stream) := fun nn => below_cell (hB nn) c2
  have zc3 : ∀ nn : Cw (fun v => Below w.heap.size w v), nn.v.cell? ⟨b1, o1 + i * 15 + 3, none⟩ = some (.string x.1.f.data) := fun nn => below_cell (hB nn) c3
  have zc4 : ∀ nn : Cw (fun v => Below w.heap.size w v), nn.v.cell? ⟨b1, o1 + i * 15 + 4, none⟩ = some (.int .i64 x.1.f.pad) := fun nn => below_cell (hB nn) c4
  have zc5 : ∀ nn : Cw (fun v => Below w.heap.size w v), nn.v.cell? ⟨b1, o1 + i * 15 + 5, none⟩ = some (.slice x.2.1 x.1.f.sets.length x.2.2) := fun nn => below_cell (hB nn) c5
  have zc6 : ∀ nn : Cw (fun v => Below w.heap.size w v), nn.v.cell? ⟨b1, o1 + i * 15 + 6, none⟩ = some (.int .i64 x.1.f.code) := fun nn => below_cell (hB nn) c6
  have zc7 : ∀ nn : Cw (fun v => Below w.heap.size w v), nn.v.cell? ⟨b1, o1 + i * 15 + 7, none⟩ = some (.int .i64 x.1.f.last) := fun nn => below_cell (hB nn) c7
  have zc8 : ∀ nn : Cw (fun v => Below w.heap.size w v), nn.v.cell? ⟨b1, o1 + i * 15 + 8, none⟩ = some (.int .i64 x.1.f.inc) := fun nn => below_cell (hB nn) c8
  have zc9 : ∀ nn : Cw (fun v => Below w.heap.size w v), nn.v.cell? ⟨b1, o1 + i * 15 + 9, none⟩ = some (.int .i64 x.1.f.dep) := fun nn => below_cell (hB nn) c9
  have zc10 : ∀ nn : Cw (fun v => Below w.heap.size w v), nn.v.cell? ⟨b1, o1 + i * 15 + 10, none⟩ = some (.int .i64 x.1.f.weight) := fun nn => below_cell (hB nn) c10
  have zc11 : ∀ nn : Cw (fun v => Below w.heap.size w v), nn.v.cell? ⟨b1, o1 + i * 15 + 11, none⟩ = some (.bool x.1.f.sole) := fun nn => below_cell (hB nn) c11
  have zc12 : ∀ nn : Cw (fun v => Below w.heap.size w v), nn.v.cell? ⟨b1, o1 + i * 15 + 12, none⟩ = some (.bool x.1.x.is) := fun nn => below_cell (hB nn) c12
  have zc13 : ∀ nn : Cw (fun v => Below w.heap.size w v), nn.v.cell? ⟨b1, o1 + i * 15 + 13, none⟩ = some (.int .i64 x.1.x.code) := fun nn => below_cell (hB nn) c13
  have zc14 : ∀ nn : Cw (fun v => Below w.heap.size w v), nn.v.cell? ⟨b1, o1 + i * 15 + 14, none⟩ = some (.int .i64 x.1.x.stream) := fun nn => below_cell (hB nn) c14
  have zd0 : ∀ nn : Cw (fun v => Below w.heap.size w v), nn.v.cell? ⟨b2, o2 + i * 15, none⟩ = some (.int .i64 y.1.f.type) := fun nn => below_cell (hB nn) d0
  have zd1 : ∀ nn : Cw (fun v => Below w.heap.size w v), nn.v.cell? ⟨b2, o2 + i * 15 + 1, none⟩ = some (.int .i64 y.1.f.flags) := fun nn => below_cell (hB nn) d1
  have zd2 : ∀ nn : Cw (fun v => Below w.heap.size w v), nn.v.cell? ⟨b2, o2 + i * 15 + 2, none⟩ = some (.int .i64 y.1.f.stream) := fun nn => below_cell (hB nn) d2
  have zd3 : ∀ nn : Cw (fun v => Below w.heap.size w v), nn.v.cell? ⟨b2, o2 + i * 15 + 3, none⟩ = some (.string y.1.f.data) := fun nn => below_cell (hB nn) d3
  have zd4 : ∀ nn : Cw (fun v => Below w.heap.size w v), nn.v.cell? ⟨b2, o2 + i * 15 + 4, none⟩ = some (.int .i64 y.1.f.pad) := fun nn => below_cell (hB nn) d4
  have zd5 : ∀ nn : Cw (fun v => Below w.heap.size w v), nn.v.cell? ⟨b2, o2 + i * 15 + 5, none⟩ = some (.slice y.2.1 y.1.f.sets.length y.2.2) := fun nn => below_cell (hB nn) d5
  have zd6 : ∀ nn : Cw (fun v => Below w.heap.size w v), nn.v.cell? ⟨b2, o2 + i * 15 + 6, none⟩ = some (.int .i64 y.1.f.code) := fun nn => below_cell (hB nn) d6
  have zd7 : ∀ nn : Cw (fun v => Below w.heap.size w v), nn.v.cell? ⟨b2, o2 + i * 15 + 7, none⟩ = some (.int .i64 y.1.f.last) := fun nn => below_cell (hB nn) d7
  have zd8 : ∀ nn : Cw (fun v => Below w.heap.size w v), nn.v.cell? ⟨b2, o2 + i * 15 + 8, none⟩ = some (.int .i64 y.1.f.inc) := fun nn => below_cell (hB nn) d8
  have zd9 : ∀ nn : Cw (fun v => Below w.heap.size w v), nn.v.cell? ⟨b2, o2 + i * 15 + 9, none⟩ = some (.int .i64 y.1.f.dep) := fun nn => below_cell (hB nn) d9
  have zd10 : ∀ nn : Cw (fun v => Below w.heap.size w v), nn.v.cell? ⟨b2, o2 + i * 15 + 10, none⟩ = some (.int .i64 y.1.f.weight) := fun nn => below_cell (hB nn) d10
  have zd11 : ∀ nn : Cw (fun v => Below w.heap.size w v), nn.v.cell? ⟨b2, o2 + i * 15 + 11, none⟩ = some (.bool y.1.f.sole) := fun nn => below_cell (hB nn) d11
  have zd12 : ∀ nn : Cw (fun v => Below w.heap.size w v), nn.v.cell? ⟨b2, o2 + i * 15 + 12, none⟩ = some (.bool y.1.x.is) := fun nn => below_cell (hB nn) d12
  have zd13 : ∀ nn : Cw (fun v => Below w.heap.size w v), nn.v.cell? ⟨b2, o2 + i * 15 + 13, none⟩ = some (.int .i64 y.1.x.code) := fun nn => below_cell (hB nn) d13
  have zd14 : ∀ nn : Cw (fun v => Below w.heap.size w v), nn.v.cell? ⟨b2, o2 + i * 15 + 14, none⟩ = some (.int .i64 y.1.x.stream) := fun nn => below_cell (hB nn) d14
  have hxe : decide (x.1 ≠ y.1) = !(decide (x.1.x = y.1.x) && decide (x.1.f = y.1.f)) := by
    obtain ⟨⟨f, xx⟩, p, q⟩ := x
    obtain ⟨⟨f2, xx2⟩, p2, q2⟩ := y
    rw [Bool.eq_iff_iff]; simp; exact Or.comm
  rw [hxe] at hQ
  unfold frV frC at HSm
  have hfx : decide (x.1.x = y.1.x) = (x.1.x.is == y.1.x.is && (x.1.x.code == y.1.x.code && x.1.x.stream == y.1.x.stream)) := by
    obtain ⟨⟨f, xx⟩, p, q⟩ := x
    obtain ⟨⟨f2, xx2⟩, p2, q2⟩ := y
    cases xx; cases xx2
    rw [Bool.eq_iff_iff]; simp
  rw [hfx] at hQ
  clear c0 c1 c2 c3 c4 c5 c6 c7 c8 c9 c10 c11 c12 c13 c14 d0 d1 d2 d3 d4 d5 d6 d7 d8 d9 d10 d11 d12 d13 d14 hx hy ok1 ok2 hxe hfx hB
  cases hbq : (x.1.x.is == y.1.x.is && (x.1.x.code == y.1.x.code && x.1.x.stream == y.1.x.stream)) with
  | false =>
    rw [hbq] at hQ hEq
    refine reg_quietB (fun v => Below w.heap.size w v) (by kernel_rfl) (by kernel_rfl) hb0 ?_
    repeat (go_big_quiet_step (fail))
    refine wpQuiet_nil ?_
    rintro w5 ⟨⟨_, hb1⟩, rfl⟩
    exact hQ.out _ _ (Fr.Is.mk rfl rfl) hb1
  | true =>
    rw [hbq] at hQ hEq
    refine reg_quietB (fun v => Below w.heap.size w v) (by kernel_rfl) (by kernel_rfl) hb0 ?_
    repeat (go_big_quiet_step ((go_at_call 18; exact (HSm.out _ (Cw.h _)).mono (fun e w' h => ⟨h.1, ⟨⟨w', below_step (Cw.h _) h.2⟩, rfl⟩⟩))))
    refine wpQuiet_nil ?_
    rintro w5 ⟨⟨_, hb1⟩, rfl⟩
    exact hQ.out _ _ (Fr.Is.mk rfl (by simp)) hb1

set_option maxRecDepth 100000 in
set_option maxHeartbeats 1000000 in
theorem sm_r0 {Q : Exit → Act → World → Prop} {n m ca cb : Nat} {a0 a1 : Option Addr} (a : Act) (w : World) 
    (ha : Fr.Is 42 [(0, .slice a0 n ca), (1, .slice a1 m cb)] a)
    (hQ : Hid (∀ a', Fr.Is 42 [(0, .slice a0 n ca), (1, .slice a1 m cb)] a' → Q .normal a' w)) :
    (Fr.reg Tryd.f13 0).wp Tryd.prog Q a w := by
  obtain ⟨fr, rfl, hfr⟩ := ha.lit
  simp only [List.map_cons, List.map_nil, List.cons.injEq, and_true] at hfr
  conv => arg 2; whnf
  simp only [List.range, List.range.loop, List.map_cons, List.map_nil, hfr]
  clear hfr ha
  go_wp2_with fail
  exact hQ.out _ (Fr.Is.mk rfl (by simp))

set_option maxRecDepth 100000 in
set_option maxHeartbeats 1000000 in
theorem sm_r1 {Q : Exit → Act → World → Prop} {n m ca cb : Nat} {a0 a1 : Option Addr} (a : Act) (w : World) 
    (ha : Fr.Is 42 [(0, .slice a0 n ca), (1, .slice a1 m cb)] a)
    (hQ : Hid (∀ a', Fr.Is 42 [(0, .slice a0 n ca), (1, .slice a1 m cb), (10, .bool (decide (n ≠ m)))] a' → Q .normal a' w)) :
    (Fr.reg Tryd.f13 1).wp Tryd.prog Q a w := by
  obtain ⟨fr, rfl, hfr⟩ := ha.lit
  simp only [List.map_cons, List.map_nil, List.cons.injEq, and_true] at hfr
  conv => arg 2; whnf
  simp only [List.range, List.range.loop, List.map_cons, List.map_nil, hfr]
  clear hfr ha
  go_wp2_with fail
  exact hQ.out _ (Fr.Is.mk rfl (by simp; rw [Bool.eq_iff_iff]; simp; try omega))

set_option maxRecDepth 100000 in
set_option maxHeartbeats 1000000 in
theorem sm_r2 {Q : Exit → Act → World → Prop} {n m ca cb : Nat} {a0 a1 : Option Addr} (a : Act) (w : World) 
    (ha : Fr.Is 42 [(0, .slice a0 n ca), (1, .slice a1 m cb)] a)
    (hQ : Hid (∀ a', Fr.Is 42 [(4, .bool false)] a' → Q .normal a' w)) :
    (Fr.reg Tryd.f13 2).wp Tryd.prog Q a w := by
  obtain ⟨fr, rfl, hfr⟩ := ha.lit
  simp only [List.map_cons, List.map_nil, List.cons.injEq, and_true] at hfr
  conv => arg 2; whnf
  simp only [List.range, List.range.loop, List.map_cons, List.map_nil, hfr]
  clear hfr ha
  go_wp2_with fail
  exact hQ.out _ (Fr.Is.mk rfl (by simp))

set_option maxRecDepth 100000 in
set_option maxHeartbeats 1000000 in
theorem sm_r3 {Q : Exit → Act → World → Prop} {n m ca cb : Nat} {a0 a1 : Option Addr} (a : Act) (w : World) 
    (ha : Fr.Is 42 [(0, .slice a0 n ca), (1, .slice a1 m cb)] a)
    (hQ : Hid (∀ a', Fr.Is 42 [(0, .slice a0 n ca), (1, .slice a1 m cb), (5, .int .i64 0)] a' → Q .normal a' w)) :
    (Fr.reg Tryd.f13 3).wp Tryd.prog Q a w := by
  obtain ⟨fr, rfl, hfr⟩ := ha.lit
  simp only [List.map_cons, List.map_nil, List.cons.injEq, and_true] at hfr
  conv => arg 2; whnf
  simp only [List.range, List.range.loop, List.map_cons, List.map_nil, hfr]
  clear hfr ha
  go_wp2_with fail
  exact hQ.out _ (Fr.Is.mk rfl (by simp))

set_option maxRecDepth 100000 in
set_option maxHeartbeats 1000000 in
theorem sm_r4 {Q : Exit → Act → World → Prop} {i n m ca cb : Nat} {a0 a1 : Option Addr} (a : Act) (w : World) 
    (ha : Fr.Is 42 [(0, .slice a0 n ca), (1, .slice a1 m cb), (5, .int .i64 i)] a)
    (hQ : Hid (∀ a', Fr.Is 42 [(0, .slice a0 n ca), (1, .slice a1 m cb), (5, .int .i64 i), (14, .bool (decide (i < n)))] a' → Q .normal a' w)) :
    (Fr.reg Tryd.f13 4).wp Tryd.prog Q a w := by
  obtain ⟨fr, rfl, hfr⟩ := ha.lit
  simp only [List.map_cons, List.map_nil, List.cons.injEq, and_true] at hfr
  conv => arg 2; whnf
  simp only [List.range, List.range.loop, List.map_cons, List.map_nil, hfr]
  clear hfr ha
  go_wp2_with fail
  exact hQ.out _ (Fr.Is.mk rfl (by simp))

set_option maxRecDepth 100000 in
set_option maxHeartbeats 1000000 in
theorem sm_r5 {Q : Exit → Act → World → Prop} {i n m ca cb : Nat} {a0 a1 : Option Addr} (a : Act) (w : World) (hi : i ≤ 1000000000)
    (ha : Fr.Is 42 [(0, .slice a0 n ca), (1, .slice a1 m cb), (5, .int .i64 i)] a)
    (hQ : Hid (∀ a', Fr.Is 42 [(0, .slice a0 n ca), (1, .slice a1 m cb), (5, .int .i64 (i + 1 : Nat))] a' → Q .normal a' w)) :
    (Fr.reg Tryd.f13 5).wp Tryd.prog Q a w := by
  obtain ⟨fr, rfl, hfr⟩ := ha.lit
  simp only [List.map_cons, List.map_nil, List.cons.injEq, and_true] at hfr
  conv => arg 2; whnf
  simp only [List.range, List.range.loop, List.map_cons, List.map_nil, hfr]
  clear hfr ha
  have hw : IntKind.i64.wrap ((i : Int) + 1) = ((i + 1 : Nat) : Int) := by rw [IntWalk.i64_in _ (by omega)]; omega
  go_wp2_with fail
  exact hQ.out _ (Fr.Is.mk rfl (by simp))

set_option maxRecDepth 100000 in
set_option maxHeartbeats 1000000 in
theorem sm_r7 {Q : Exit → Act → World → Prop} {i n m ca cb : Nat} {a0 a1 : Option Addr} (a : Act) (w : World) 
    (ha : Fr.Is 42 [(0, .slice a0 n ca), (1, .slice a1 m cb), (5, .int .i64 i)] a)
    (hQ : Hid (∀ a', Fr.Is 42 [(4, .bool false)] a' → Q .normal a' w)) :
    (Fr.reg Tryd.f13 7).wp Tryd.prog Q a w := by
  obtain ⟨fr, rfl, hfr⟩ := ha.lit
  simp only [List.map_cons, List.map_nil, List.cons.injEq, and_true] at hfr
  conv => arg 2; whnf
  simp only [List.range, List.range.loop, List.map_cons, List.map_nil, hfr]
  clear hfr ha
  go_wp2_with fail
  exact hQ.out _ (Fr.Is.mk rfl (by simp))

set_option maxRecDepth 100000 in
set_option maxHeartbeats 1000000 in
theorem sm_r8 {Q : Exit → Act → World → Prop} {i n m ca cb : Nat} {a0 a1 : Option Addr} (a : Act) (w : World) 
    (ha : Fr.Is 42 [(0, .slice a0 n ca), (1, .slice a1 m cb), (5, .int .i64 i)] a)
    (hQ : Hid (∀ a', Fr.Is 42 [(4, .bool true)] a' → Q .normal a' w)) :
    (Fr.reg Tryd.f13 8).wp Tryd.prog Q a w := by
  obtain ⟨fr, rfl, hfr⟩ := ha.lit
  simp only [List.map_cons, List.map_nil, List.cons.injEq, and_true] at hfr
  conv => arg 2; whnf
  simp only [List.range, List.range.loop, List.map_cons, List.map_nil, hfr]
  clear hfr ha
  go_wp2_with fail
  exact hQ.out _ (Fr.Is.mk rfl (by simp))

theorem sm_ret {R : Ending → World → Prop} {b : Bool} {a : Act} {w' : World} (ha : Fr.Is 42 [(4, .bool b)] a) (hR : R (.returned (.bool b)) w') : bodyPost Tryd.prog Tryd.f13 R .ret a w' := by
  obtain ⟨fr, rfl, hfr⟩ := ha.lit
  simp only [List.map_cons, List.map_nil, List.cons.injEq, and_true] at hfr
  refine bodyPost_ret (v := .bool b) ?_ rfl hR
  simp [results, Tryd.results13, go_sem, hfr]
theorem drop_eq {α : Type} {s t : List α} {i : Nat} (hi : i < s.length) (hj : i < t.length) (h : s.drop i = t.drop i ↔ s = t) (he : s[i] = t[i]) : s.drop (i + 1) = t.drop (i + 1) ↔ s = t := by
  rw [← h, List.drop_eq_getElem_cons hi, List.drop_eq_getElem_cons hj, he]
  constructor
  · intro e; rw [e]
  · intro e; exact (List.cons.inj e).2

set_option maxHeartbeats 1000000 in
theorem rsame07_any (l1 l2 : List ItX) (a0 a1 : Option Addr) (ca cb : Nat) (w : World) (h1 : Rw.RowE EIt w a0 l1) (h2 : Rw.RowE EIt w a1 l2) (ok1 : SetsP l1 w) (ok2 : SetsP l2 w) (hl : l1.length ≤ 1000000000) :
    Calls Tryd.prog 13 #[.slice a0 l1.length ca, .slice a1 l2.length cb] w fun e w' => e = .returned (.bool (decide (l1.map (·.1) = l2.map (·.1)))) ∧ Below w.heap.size w w' := by
  go_enter Tryd.func13, Tryd.ntmps13
  refine wp_seq ?_
  refine sm_r0 (n := l1.length) (m := l2.length) (ca := ca) (cb := cb) (a0 := a0) (a1 := a1) _ w (Fr.Is.mk rfl rfl) (Lib.hid (fun a2 g1 => ?_))
  refine wp_seq (wp_seq ?_)
  refine sm_r1 a2 w g1 (Lib.hid (fun a3 g2 => ?_))
  by_cases hne : l1.length ≠ l2.length
  · refine wp_cond_true (g2.get (i := 10) (v := .bool true) (by simp [hne])) ?_
    refine wp_seq ?_
    refine sm_r2 (n := l1.length) (m := l2.length) (ca := ca) (cb := cb) (a0 := a0) (a1 := a1) a3 w (g2.less (by simp)) (Lib.hid (fun a4 g3 => ?_))
    refine wp_ret ?_
    try dsimp only [Exit.then, Exit.inBlock]
    have hm : l1.map (·.1) ≠ l2.map (·.1) := fun e => hne (by have := congrArg List.length e; simpa using this)
    rw [decide_eq_false hm]
    exact sm_ret g3 ⟨rfl, Below.refl _ _⟩
  · have he : l1.length = l2.length := Classical.byContradiction hne
    refine wp_cond_false (g2.get (i := 10) (v := .bool false) (by simp [he])) ?_
    refine wp_skip ?_
    refine wp_seq (wp_seq ?_)
    refine sm_r3 (n := l1.length) (m := l2.length) (ca := ca) (cb := cb) (a0 := a0) (a1 := a1) a3 w (g2.less (by simp)) (Lib.hid (fun a4 g3 => ?_))
    refine wp_block ?_
    refine wp_loop_ghost (fun k a' w' => ∃ i, k = l1.length - i ∧ i ≤ l1.length ∧ ((l1.map (·.1)).drop i = (l2.map (·.1)).drop i ↔ l1.map (·.1) = l2.map (·.1)) ∧ Below w.heap.size w w' ∧ Fr.Is 42 [(0, .slice a0 l1.length ca), (1, .slice a1 l2.length cb), (5, .int .i64 i)] a') (l1.length - 0)
      ⟨0, rfl, Nat.zero_le _, by simp, Below.refl _ _, g3⟩ ?_
    rintro k a5 w5 ⟨i, rfl, hi, hd, b5, h5⟩
    refine wp_seq (wp_seq ?_)
    refine sm_r4 a5 w5 h5 (Lib.hid (fun a6 h6 => ?_))
    by_cases hlt : i < l1.length
    · refine wp_cond_true (h6.get (i := 14) (v := .bool true) (by simp [hlt])) ?_
      refine wp_skip ?_
      refine wp_seq (wp_block ?_)
      have hlt2 : i < l2.length := by omega
      obtain ⟨p1, o1, rfl, hc1⟩ : ∃ b off, a0 = some ⟨b, off, none⟩ ∧ ∀ i, (h : i < l1.length) → Rw.CE EIt w b (off + i * 15) l1[i] := by
        rcases h1 with h | h
        · rw [h] at hlt; simp at hlt
        · exact h
      obtain ⟨p2, o2, rfl, hc2⟩ : ∃ b off, a1 = some ⟨b, off, none⟩ ∧ ∀ i, (h : i < l2.length) → Rw.CE EIt w b (off + i * 15) l2[i] := by
        rcases h2 with h | h
        · rw [h] at hlt2; simp at hlt2
        · exact h
      have e1 : Rw.CE EIt w5 p1 (o1 + i * 15) l1[i] := fun r v hv => below_cell b5 (hc1 i hlt r v hv)
      have e2 : Rw.CE EIt w5 p2 (o2 + i * 15) l2[i] := fun r v hv => below_cell b5 (hc2 i hlt2 r v hv)
      refine wp_seq ?_
      refine sm_r6 (i := i) (n := l1.length) (m := l2.length) (ca := ca) (cb := cb) (x := l1[i]) (y := l2[i]) a6 w5 e1 e2 hlt hlt2 ((ok1 _ (List.getElem_mem hlt)).below b5) ((ok2 _ (List.getElem_mem hlt2)).below b5) (h6.less (by simp)) (Lib.hid (fun a7 w7 h7 b7 => ?_))
      have b57 := below_step b5 b7
      by_cases heq : l1[i].1 = l2[i].1
      · refine wp_cond_false (h7.get (i := 41) (v := .bool false) (by simp [heq])) ?_
        refine wp_skip ?_
        refine sm_r5 (i := i) (n := l1.length) (m := l2.length) (ca := ca) (cb := cb) (a0 := some ⟨p1, o1, none⟩) (a1 := some ⟨p2, o2, none⟩) a7 w7 (by omega) (h7.less (by simp)) (Lib.hid (fun a8 h8 => ?_))
        refine ⟨l1.length - (i + 1), by omega, i + 1, rfl, by omega, ?_, b57, h8⟩
        exact drop_eq (by simpa using hlt) (by simpa using hlt2) hd (by simpa using heq)
      · refine wp_cond_true (h7.get (i := 41) (v := .bool true) (by simp [heq])) ?_
        refine wp_seq ?_
        refine sm_r7 (i := i) (n := l1.length) (m := l2.length) (ca := ca) (cb := cb) (a0 := some ⟨p1, o1, none⟩) (a1 := some ⟨p2, o2, none⟩) a7 w7 (h7.less (by simp)) (Lib.hid (fun a8 h8 => ?_))
        refine wp_ret ?_
        try dsimp only [Exit.then, Exit.inBlock]
        have hm : l1.map (·.1) ≠ l2.map (·.1) := fun e => heq (by
          have h := congrArg (fun q => q[i]?) e
          simpa [List.getElem?_map, List.getElem?_eq_getElem hlt, List.getElem?_eq_getElem hlt2] using h)
        rw [decide_eq_false hm]
        exact sm_ret h8 ⟨rfl, b57⟩
    · refine wp_cond_false (h6.get (i := 14) (v := .bool false) (by simp [hlt])) ?_
      refine wp_exit ?_
      have hm : l1.map (·.1) = l2.map (·.1) := hd.mp (by rw [List.drop_eq_nil_of_le (by simp; omega), List.drop_eq_nil_of_le (by simp; omega)])
      show (Fr.tail Tryd.f13 3).wp Tryd.prog _ a6 w5
      conv => arg 2; whnf
      refine wp_seq ?_
      refine sm_r8 (i := i) (n := l1.length) (m := l2.length) (ca := ca) (cb := cb) (a0 := a0) (a1 := a1) a6 w5 (h6.less (by simp)) (Lib.hid (fun a7 h7 => ?_))
      refine wp_ret ?_
      try dsimp only [Exit.then, Exit.inBlock]
      rw [decide_eq_true hm]
      exact sm_ret h7 ⟨rfl, b5⟩
end Go.Proofs.YtglhdlkmgmbgeaaDoor
