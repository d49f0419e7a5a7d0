/- Layer 5: the program's reading beside boxes of a caller's; a field that is written out. Layer 5: the program's reading: a field that is written out. Layer 5: the program's reading: a field is kept; a table's room. Layer 5: the program's reading: keep, makeRoom, add, resize. -/
import Derived.Test.YtdkgachgohilcaaDoorGP19
import Derived.BigQuiet
import Derived.Test.YtdkgachgohilcaaDoorGP14
import Derived.Deep.LoopGhost
set_option linter.unusedVariables false
set_option linter.unusedSimpArgs false
namespace Go.Proofs.YtdkgachgohilcaaDoor
open Go.RowKit
open Huf Pre Tab Hpk Arg Mem Gen Wr Go.Proofs.YtdkgachgohilcaaDoor.Obj
set_option linter.unusedVariables false
variable {B : Nat} {w0 w : World} {L0 L : List Nat} {r : Nat} {d : RD} {X : List Nat}

/-- A block that is being read, beside blocks X of somebody else's. -/
structure RX (B : Nat) (w0 : World) (L0 : List Nat) (r : Nat) (X : List Nat) (d : RD) (w : World) : Prop where
  ex : ∃ L1, RIn w.heap.size w L1 r d w ∧ ∀ k ∈ L1, (k ∈ L0 ∨ B ≤ k) ∧ k < w.heap.size ∧ k ∉ X
  lo : B ≤ w0.heap.size
  trn : Trn B L0 w0 w
  bk : d.bk < B ∧ d.bk ∉ L0
  grp : GrpIs w0
  gb : gBk < B ∧ gBk ∉ L0
  xs : ∀ x ∈ X, x < w.heap.size ∧ B ≤ x
theorem RX.start (h : RIn B w0 L0 r d w) : RX B w0 L0 r [] d w := by
  obtain ⟨h1, h2, h3, h4, h5⟩ := h.facts
  obtain ⟨L1, hR, hL⟩ := h.rebase
  exact ⟨⟨L1, hR, fun k hk => ⟨(hL k hk).1, (hL k hk).2, by simp⟩⟩, h1, h2, h3, h4, h5, fun x hx => by cases hx⟩
theorem RX.done (h : RX B w0 L0 r X d w) : RIn B w0 L0 r d w := by
  obtain ⟨⟨L1, hR, hL⟩, h1, h2, h3, h4, h5, h6⟩ := h
  exact hR.home h1 h2 (Nat.le_trans h1 h2.size) (fun k hk => (hL k hk).1) h3 h4 h5
/-- A call that reads on. -/
theorem RX.use (h : RX B w0 L0 r X d w) : ∃ L1, RIn w.heap.size w L1 r d w ∧ ∀ (d' : RD) w', d'.bk = d.bk → RIn w.heap.size w L1 r d' w' → RX B w0 L0 r X d' w' ∧ ∀ x ∈ X, w'.heap[x]? = w.heap[x]? := by
  obtain ⟨⟨L1, hR, hL⟩, h1, h2, h3, h4, h5, h6⟩ := h
  refine ⟨L1, hR, fun d' w' hbk hR' => ?_⟩
  have hf := hR'.facts
  have hBw : B ≤ w.heap.size := Nat.le_trans h1 h2.size
  obtain ⟨L2, hR2, hL2⟩ := hR'.rebase
  refine ⟨⟨⟨L2, hR2, fun k hk => ?_⟩, h1, ?_, by rw [hbk]; exact h3, h4, h5, fun x hx => ⟨Nat.lt_of_lt_of_le (h6 x hx).1 hf.2.1.size, (h6 x hx).2⟩⟩, fun x hx => hf.2.1.block x (h6 x hx).1 (h6 x hx).1 (fun hm => (hL x hm).2.2 hx)⟩
  · obtain ⟨g1, g2⟩ := hL2 k hk
    refine ⟨?_, g2, fun hx => ?_⟩
    · rcases g1 with g1 | g1
      · exact (hL k g1).1
      · right; omega
    · rcases g1 with g1 | g1
      · exact (hL k g1).2.2 hx
      · have := (h6 k hx).1; omega
  · have ht := hf.2.1
    exact ⟨ht.os.trans h2.os, ht.tape.trans h2.tape, ht.output.trans h2.output, Nat.le_trans h2.size ht.size, fun i hi hBi hn => (ht.block i (Nat.lt_of_lt_of_le hi h2.size) (by omega) (fun hm => by
      rcases (hL i hm).1 with g1 | g1
      · exact hn g1
      · omega)).trans (h2.block i hi hBi hn)⟩
theorem RX.any (h : RX B w0 L0 r X d w) {w' : World} (ho : w'.os = w.os) (ht : w'.tape = w.tape) (hu : w'.output = w.output) (hs : w.heap.size ≤ w'.heap.size) (b : Nat) (hb : ∀ i, i < w.heap.size → i ≠ b → w'.heap[i]? = w.heap[i]?) (hx : b ∈ X ∨ w.heap.size ≤ b) : RX B w0 L0 r X d w' := by
  obtain ⟨⟨L1, hR, hL⟩, h1, h2, h3, h4, h5, h6⟩ := h
  have hBw : B ≤ w.heap.size := Nat.le_trans h1 h2.size
  have hbB : B ≤ b := by
    rcases hx with g | g
    · exact (h6 b g).2
    · omega
  refine ⟨⟨L1, hR.other (fun k hk => (hL k hk).2.1) ho ht hu hs b hb (fun hm => ?_) (by omega) (by omega), fun k hk => ⟨(hL k hk).1, Nat.lt_of_lt_of_le (hL k hk).2.1 hs, (hL k hk).2.2⟩⟩, h1, h2.one b (.inr hbB) ho ht hu hs hb, h3, h4, h5, fun x hx => ⟨Nat.lt_of_lt_of_le (h6 x hx).1 hs, (h6 x hx).2⟩⟩
  rcases hx with g | g
  · exact (hL b hm).2.2 g
  · have := (hL b hm).2.1; omega
theorem RX.below (h : RX B w0 L0 r X d w) {w' : World} (hb : Below w.heap.size w w') : RX B w0 L0 r X d w' :=
  h.any hb.os hb.tape hb.output hb.size w.heap.size (fun i hi _ => hb.block i hi) (.inr (Nat.le_refl _))
theorem RX.write (h : RX B w0 L0 r X d w) (b i : Nat) (hb : b ∈ X) (v : Value) : RX B w0 L0 r X d (w.setCell ⟨b, i, none⟩ v) :=
  h.any rfl rfl rfl (by simp [World.setCell]) b (fun k _ hk => Below.heap_setCell _ _ _ _ hk) (.inl hb)
theorem RX.alloc (h : RX B w0 L0 r X d w) (o : Obj) : RX B w0 L0 r (w.heap.size :: X) d (w.alloc o) := by
  have hs : w.heap.size < (w.alloc o).heap.size := by simp
  have hb := below_alloc w o
  obtain ⟨⟨L1, hR, hL⟩, h1, h2, h3, h4, h5, h6⟩ := h
  have hBw : B ≤ w.heap.size := Nat.le_trans h1 h2.size
  refine ⟨⟨L1, hR.other (fun k hk => (hL k hk).2.1) hb.os hb.tape hb.output hb.size w.heap.size (fun i hi _ => hb.block i hi) (fun hm => by have := (hL _ hm).2.1; omega) (by omega) (by omega), fun k hk => ⟨(hL k hk).1, Nat.lt_of_lt_of_le (hL k hk).2.1 hb.size, fun hm => ?_⟩⟩, h1, h2.then hb, h3, h4, h5, fun x hx => ?_⟩
  · rcases List.mem_cons.mp hm with e | e
    · have := (hL k hk).2.1; omega
    · exact (hL k hk).2.2 e
  · rcases List.mem_cons.mp hx with rfl | e
    · exact ⟨hs, hBw⟩
    · exact ⟨Nat.lt_trans (h6 x e).1 hs, (h6 x e).2⟩
theorem Got.use {X : List Nat} {L1 : List Nat} {er : Nat} {v : Value} {d' : RD} {e : Ending} {w' : World} (hU : ∀ (d' : RD) w', d'.bk = d.bk → RIn w.heap.size w L1 r d' w' → RX B w0 L0 r X d' w' ∧ ∀ x ∈ X, w'.heap[x]? = w.heap[x]?) (hbk : (d'.bk, d'.had) = (d.bk, d.had)) (h : Got w.heap.size w L1 r er v d' e w') :
    (er = 0 ∧ e = .returned v ∧ RX B w0 L0 r X d' w' ∧ ∀ x ∈ X, w'.heap[x]? = w.heap[x]?) ∨ (er ≠ 0 ∧ e = .panicked (panE er) ∧ ∃ d2 : RD, (d2.bk, d2.had) = (d.bk, d.had) ∧ RX B w0 L0 r X d2 w') := by
  rcases h with ⟨h1, h2, h3⟩ | ⟨h1, h2, d2, h3, h4⟩
  · exact .inl ⟨h1, h2, hU d' w' (Prod.mk.inj hbk).1 h3⟩
  · exact .inr ⟨h1, h2, d2, h3.trans hbk, (hU d2 w' (Prod.mk.inj (h3.trans hbk)).1 h4).1⟩
end Go.Proofs.YtdkgachgohilcaaDoor

namespace Go.Proofs.YtdkgachgohilcaaDoor
open Go.RowKit
open Huf Pre Tab Hpk Arg Mem Gen Wr Go.Proofs.YtdkgachgohilcaaDoor.Obj
set_option linter.unusedVariables false
variable {B : Nat} {w0 w : World} {L0 L : List Nat} {r : Nat} {d : RD} {X : List Nat}

theorem field0 (x y : ByteArray) (z : Bool) (v : World) : (Instr.field 59 (.agg #[.string x, .string y, .bool z]) 0).run Tryd.prog v = .ok (.string x) v := by kernel_rfl
def fdCells (n v : ByteArray) (b : Bool) : Array Value := #[.string n, .string v, .bool b]
/-- The error of a field that is written out. -/
def litE (d : RD) (k : Nat) : Nat := if (takeN d.rest k).2.2 ≠ 0 then (takeN d.rest k).2.2 else (litM d.rows (d.rest.drop (takeN d.rest k).2.1) (takeN d.rest k).1).1
def litR (d : RD) (k : Nat) : Nat × FdM × List UInt8 := litM d.rows (d.rest.drop (takeN d.rest k).2.1) (takeN d.rest k).1


set_option maxRecDepth 100000 in
set_option maxHeartbeats 2000000 in
theorem plit_any (k : Nat) (h1 : 1 ≤ k) (h8 : k ≤ 8) (h : RIn B w0 L0 r d w) (hl : d.rest.length ≤ 134217728) :
    Calls Tryd.prog 53 #[.pointer (some ⟨r, 0, none⟩), .int .i64 k] w (Got B w0 L0 r (litE d k) (.agg #[.string (litR d k).2.1.name, .string (litR d k).2.1.value, .bool false]) { d with rest := (litR d k).2.2 }) := by
  have hX := ((RX.start h).alloc (.cells #[.string ⟨#[]⟩, .string ⟨#[]⟩, .bool false] 59)).alloc (.cells #[.string ⟨#[]⟩, .string ⟨#[]⟩, .bool false] 59)
  have h4 : ((w.alloc (.cells #[.string ⟨#[]⟩, .string ⟨#[]⟩, .bool false] 59)).alloc (.cells #[.string ⟨#[]⟩, .string ⟨#[]⟩, .bool false] 59)).heap[w.heap.size]? = _ := alloc_at (heap_alloc_new w _)
  have h5 := heap_alloc_new (w.alloc (.cells #[.string ⟨#[]⟩, .string ⟨#[]⟩, .bool false] 59)) (.cells #[.string ⟨#[]⟩, .string ⟨#[]⟩, .bool false] 59)
  have hs1 : (w.alloc (.cells #[.string ⟨#[]⟩, .string ⟨#[]⟩, .bool false] 59)).heap.size = w.heap.size + 1 := by simp
  rw [hs1] at hX h5
  have hne : w.heap.size ≠ w.heap.size + 1 := by omega
  generalize hwn : ((w.alloc (.cells #[.string ⟨#[]⟩, .string ⟨#[]⟩, .bool false] 59)).alloc (.cells #[.string ⟨#[]⟩, .string ⟨#[]⟩, .bool false] 59)) = w1 at hX h4 h5
  have HWN := Lib.hid hwn
  have HGot : Hid (∀ e v, ((litE d k = 0 ∧ e = .returned (.agg #[.string (litR d k).2.1.name, .string (litR d k).2.1.value, .bool false]) ∧ RX B w0 L0 r [w.heap.size + 1, w.heap.size] { d with rest := (litR d k).2.2 } v) ∨ (litE d k ≠ 0 ∧ e = .panicked (panE (litE d k)) ∧ ∃ d2 : RD, (d2.bk, d2.had) = (d.bk, d.had) ∧ RX B w0 L0 r [w.heap.size + 1, w.heap.size] d2 v)) → Got B w0 L0 r (litE d k) (.agg #[.string (litR d k).2.1.name, .string (litR d k).2.1.value, .bool false]) { d with rest := (litR d k).2.2 } e v) := Lib.hid (fun e v hh => by
    rcases hh with ⟨g1, g2, g3⟩ | ⟨g1, g2, d2, g3, g4⟩
    · exact .inl ⟨g1, g2, g3.done⟩
    · exact .inr ⟨g1, g2, d2, g3, g4.done⟩)
  generalize hR0 : Got B w0 L0 r (litE d k) (.agg #[.string (litR d k).2.1.name, .string (litR d k).2.1.value, .bool false]) { d with rest := (litR d k).2.2 } = R at HGot ⊢
  clear hR0 hwn h
  generalize hbn : w.heap.size = b4 at *
  have HBN := Lib.hid hbn
  obtain ⟨L1, hR1, hU⟩ := hX.use
  have HN := Lib.hid (pnum_any k h1 h8 hR1 hl)
  have HU := Lib.hid (fun e w' h => Got.use (d' := { d with rest := d.rest.drop (takeN d.rest k).2.1 }) (er := (takeN d.rest k).2.2) (v := .int .i64 (takeN d.rest k).1) (e := e) (w' := w') hU rfl h)
  have hbd := takeN_bd d.rest k h8
  rw [litE, litR] at HGot
  clear hU hR1 hbn
  generalize takeN d.rest k = T at HN HU hbd HGot
  obtain ⟨n, sz, er⟩ := T
  simp only at HN HU hbd HGot
  obtain ⟨hn, _, _, _⟩ := hbd
  go_enter Tryd.func53, Tryd.ntmps53
  go_wp2_with fail
  simp only [HWN.out, HBN.out]
  refine HN.out.mono ?_; intro e w2 hG
  rcases HU.out e w2 hG with ⟨rfl, rfl, hx1, hs1⟩ | ⟨he, rfl, d2, hd2, hx1⟩
  · have h5' := (hs1 (b4 + 1) (by simp)).trans h5
    have h4' := (hs1 b4 (by simp)).trans h4
    have q0 := cell_at h5' 0
    have z0 := frozen_of_row _ _ 0 _ _ h5'
    clear hG HU HN
    simp only [ne_eq, not_true_eq_false, if_false] at HGot
    have hl2 : (d.rest.drop sz).length ≤ 134217728 := by rw [List.length_drop]; omega
    clear h5 h4
    obtain ⟨L2, hR2, hU2⟩ := hx1.use
    by_cases hn0 : n = 0
    · subst hn0
      rw [litM, if_neg (by omega)] at HGot
      have HT := Lib.hid (ptext_any hR2 hl2)
      have HU2 := Lib.hid (fun e w' h => Got.use (d' := { d with rest := (d.rest.drop sz).drop (takeT (d.rest.drop sz)).2.1 }) (er := (takeT (d.rest.drop sz)).2.2) (v := .string (ofT (takeT (d.rest.drop sz)).1)) (e := e) (w' := w') hU2 rfl h)
      dsimp only at HT
      clear hU2 hR2 hs1 hx1 q0 z0
      obtain ⟨rs, hrs⟩ : ∃ rs, rs = d.rest.drop sz := ⟨_, rfl⟩
      rw [← hrs] at HT HU2 HGot hl2
      clear hrs
      generalize takeT rs = T at HT HU2 HGot
      obtain ⟨tx, sz2, er2⟩ := T
      simp only at HT HU2 HGot
      generalize ofT tx = s at HT HU2 HGot
      go_wp2_with fail
      refine HT.out.mono ?_; intro e w3 hG
      rcases HU2.out e w3 hG with ⟨rfl, rfl, hx3, hs3⟩ | ⟨he, rfl, d2, hd2, hx3⟩
      · have h53 := (hs3 (b4 + 1) (by simp)).trans h5'
        have h43 := (hs3 b4 (by simp)).trans h4'
        have q0 := cell_at h53 0
        have z0 := frozen_of_row _ _ 0 _ _ h53
        have hset := heap_setCell_same w3 (b4 + 1) 0 _ _ (.string s) h53
        have h44 : (w3.setCell ⟨b4 + 1, 0, none⟩ (.string s)).heap[b4]? = _ := (Below.heap_setCell _ _ _ _ hne).trans h43
        have hx4 := hx3.write (b4 + 1) 0 (by simp) (.string s)
        have hl4 : (rs.drop sz2).length ≤ 134217728 := by rw [List.length_drop]; omega
        simp only [ne_eq, not_true_eq_false, if_false, litV] at HGot
        clear h53 h43 hs3 hx3 hG HU2 HT
        have hset' : (w3.setCell ⟨b4 + 1, 0, none⟩ (.string s)).heap[b4 + 1]? = some (.cells #[.string s, .string ⟨#[]⟩, .bool false] 59 (0, 0)) := hset
        clear hset
        go_wp2_with fail
        clear q0 z0
        generalize hxw : w3.setCell ⟨b4 + 1, 0, none⟩ (.string s) = x at hset' h44 hx4 ⊢
        clear hxw
        obtain ⟨L3, hR3, hU3⟩ := hx4.use
        have HT2 := Lib.hid (ptext_any hR3 hl4)
        have HU3 := Lib.hid (fun e w' h => Got.use (d' := { d with rest := (rs.drop sz2).drop (takeT (rs.drop sz2)).2.1 }) (er := (takeT (rs.drop sz2)).2.2) (v := .string (ofT (takeT (rs.drop sz2)).1)) (e := e) (w' := w') hU3 rfl h)
        dsimp only at HT2
        clear hU3 hR3 hx4
        obtain ⟨rs2, hrs2⟩ : ∃ rs2, rs2 = rs.drop sz2 := ⟨_, rfl⟩
        rw [← hrs2] at HT2 HU3 HGot
        clear hrs2
        generalize takeT rs2 = T2 at HT2 HU3 HGot
        obtain ⟨tx2, sz3, er3⟩ := T2
        simp only at HT2 HU3 HGot
        generalize ofT tx2 = s2 at HT2 HU3 HGot
        refine HT2.out.mono ?_; intro e w5 hG
        rcases HU3.out e w5 hG with ⟨rfl, rfl, hx5, hs5⟩ | ⟨he, rfl, d2, hd2, hx5⟩
        · have h55 := (hs5 (b4 + 1) (by simp)).trans hset'
          have h45 := (hs5 b4 (by simp)).trans h44
          have q0 := cell_at h55 0
          have q1 := cell_at h55 1
          have q2 := cell_at h55 2
          have z1 := frozen_of_row _ _ 1 _ _ h55
          have p0 := cell_at h45 0
          have p1 := cell_at h45 1
          have p2 := cell_at h45 2
          have g0 := frozen_of_row _ _ 0 _ _ h45
          have g1 := frozen_of_row _ _ 1 _ _ h45
          have g2 := frozen_of_row _ _ 2 _ _ h45
          have hne' : b4 + 1 ≠ b4 := fun e => hne e.symm
          have h42 : (w5.setCell ⟨b4 + 1, 1, none⟩ (.string s2)).heap[b4]? = some (.cells #[.string ⟨#[]⟩, .string ⟨#[]⟩, .bool false] 59 (0, 0)) := by rw [Below.heap_setCell _ _ _ _ hne]; exact h45
          have HF := Lib.hid (heap_set3 (x := .string s) (y := .string s2) (z := .bool false) h42)
          have HX := Lib.hid (HGot.out _ _ (.inl ⟨rfl, rfl, (((hx5.write (b4 + 1) 1 (by simp) (.string s2)).write b4 0 (by simp) (.string s)).write b4 1 (by simp) (.string s2)).write b4 2 (by simp) (.bool false)⟩))
          clear h42 h55 h45 hx5 hs5 hset' h44 hG HGot HU3
          go_wp2_with fail
          have s0 := cell_at HF.out 0
          have s1 := cell_at HF.out 1
          have s3 := cell_at HF.out 2
          clear p0 p1 p2 q0 q1 q2
          refine bodyPost_ret (v := .agg #[.string s, .string s2, .bool false]) ?_ rfl HX.out
          simp [results, Tryd.results53, go_sem, s0, s1, s3]
        · exact ⟨rfl, HGot.out _ _ (.inr ⟨he, rfl, d2, hd2, hx5⟩)⟩
      · exact ⟨rfl, HGot.out _ _ (.inr (by rw [if_pos he]; exact ⟨he, rfl, d2, hd2, hx3⟩))⟩
    · have hn1 : ¬ (n : Int) = 0 := by omega
      have hfd : ∀ (x y : ByteArray) (z : Bool) (v : World), (Instr.field 59 (.agg #[.string x, .string y, .bool z]) 0).run Tryd.prog v = .ok (.string x) v := field0
      rw [litM, if_pos (by omega)] at HGot
      have HRw := Lib.hid (prow_any n (by omega) hR2)
      have HU2 := Lib.hid (fun e w' h => Got.use (d' := { d with rest := d.rest.drop sz }) (er := (atT d.rows n).2) (v := .agg #[.string (atT d.rows n).1.name, .string (atT d.rows n).1.value, .bool (atT d.rows n).1.never]) (e := e) (w' := w') hU2 rfl h)
      dsimp only at HRw
      clear hU2 hR2 hs1 hx1 q0 z0
      generalize atT d.rows n = A at HRw HU2 HGot
      obtain ⟨⟨s, fv, fb⟩, er2⟩ := A
      simp only at HRw HU2 HGot
      go_wp2_with fail
      refine HRw.out.mono ?_; intro e w3 hG
      rcases HU2.out e w3 hG with ⟨rfl, rfl, hx3, hs3⟩ | ⟨he, rfl, d2, hd2, hx3⟩
      · have h53 := (hs3 (b4 + 1) (by simp)).trans h5'
        have h43 := (hs3 b4 (by simp)).trans h4'
        have q0 := cell_at h53 0
        have z0 := frozen_of_row _ _ 0 _ _ h53
        have hset := heap_setCell_same w3 (b4 + 1) 0 _ _ (.string s) h53
        have h44 : (w3.setCell ⟨b4 + 1, 0, none⟩ (.string s)).heap[b4]? = _ := (Below.heap_setCell _ _ _ _ hne).trans h43
        have hx4 := hx3.write (b4 + 1) 0 (by simp) (.string s)
        have hl4 := hl2
        simp only [ne_eq, not_true_eq_false, if_false, litV] at HGot
        clear h53 h43 hs3 hx3 hG HU2 HRw
        have hset' : (w3.setCell ⟨b4 + 1, 0, none⟩ (.string s)).heap[b4 + 1]? = some (.cells #[.string s, .string ⟨#[]⟩, .bool false] 59 (0, 0)) := hset
        clear hset
        go_wp2_with fail
        clear q0 z0
        generalize hxw : w3.setCell ⟨b4 + 1, 0, none⟩ (.string s) = x at hset' h44 hx4 ⊢
        clear hxw
        obtain ⟨L3, hR3, hU3⟩ := hx4.use
        have HT2 := Lib.hid (ptext_any hR3 hl4)
        have HU3 := Lib.hid (fun e w' h => Got.use (d' := { d with rest := (d.rest.drop sz).drop (takeT (d.rest.drop sz)).2.1 }) (er := (takeT (d.rest.drop sz)).2.2) (v := .string (ofT (takeT (d.rest.drop sz)).1)) (e := e) (w' := w') hU3 rfl h)
        dsimp only at HT2
        clear hU3 hR3 hx4
        obtain ⟨rs2, hrs2⟩ : ∃ rs2, rs2 = d.rest.drop sz := ⟨_, rfl⟩
        rw [← hrs2] at HT2 HU3 HGot
        clear hrs2
        generalize takeT rs2 = T2 at HT2 HU3 HGot
        obtain ⟨tx2, sz3, er3⟩ := T2
        simp only at HT2 HU3 HGot
        generalize ofT tx2 = s2 at HT2 HU3 HGot
        refine HT2.out.mono ?_; intro e w5 hG
        rcases HU3.out e w5 hG with ⟨rfl, rfl, hx5, hs5⟩ | ⟨he, rfl, d2, hd2, hx5⟩
        · have h55 := (hs5 (b4 + 1) (by simp)).trans hset'
          have h45 := (hs5 b4 (by simp)).trans h44
          have q0 := cell_at h55 0
          have q1 := cell_at h55 1
          have q2 := cell_at h55 2
          have z1 := frozen_of_row _ _ 1 _ _ h55
          have p0 := cell_at h45 0
          have p1 := cell_at h45 1
          have p2 := cell_at h45 2
          have g0 := frozen_of_row _ _ 0 _ _ h45
          have g1 := frozen_of_row _ _ 1 _ _ h45
          have g2 := frozen_of_row _ _ 2 _ _ h45
          have hne' : b4 + 1 ≠ b4 := fun e => hne e.symm
          have h42 : (w5.setCell ⟨b4 + 1, 1, none⟩ (.string s2)).heap[b4]? = some (.cells #[.string ⟨#[]⟩, .string ⟨#[]⟩, .bool false] 59 (0, 0)) := by rw [Below.heap_setCell _ _ _ _ hne]; exact h45
          have HF := Lib.hid (heap_set3 (x := .string s) (y := .string s2) (z := .bool false) h42)
          have HX := Lib.hid (HGot.out _ _ (.inl ⟨rfl, rfl, (((hx5.write (b4 + 1) 1 (by simp) (.string s2)).write b4 0 (by simp) (.string s)).write b4 1 (by simp) (.string s2)).write b4 2 (by simp) (.bool false)⟩))
          clear h42 h55 h45 hx5 hs5 hset' h44 hG HGot HU3
          go_wp2_with fail
          have s0 := cell_at HF.out 0
          have s1 := cell_at HF.out 1
          have s3 := cell_at HF.out 2
          clear p0 p1 p2 q0 q1 q2
          refine bodyPost_ret (v := .agg #[.string s, .string s2, .bool false]) ?_ rfl HX.out
          simp [results, Tryd.results53, go_sem, s0, s1, s3]
        · exact ⟨rfl, HGot.out _ _ (.inr ⟨he, rfl, d2, hd2, hx5⟩)⟩
      · exact ⟨rfl, HGot.out _ _ (.inr (by rw [if_pos he]; exact ⟨he, rfl, d2, hd2, hx3⟩))⟩
  · exact ⟨rfl, HGot.out _ _ (.inr (by rw [if_pos he]; exact ⟨he, rfl, d2, hd2, hx1⟩))⟩
end Go.Proofs.YtdkgachgohilcaaDoor

namespace Go.Proofs.YtdkgachgohilcaaDoor
open Go.RowKit
open Huf Pre Tab Hpk Arg Mem Gen Wr Go.Proofs.YtdkgachgohilcaaDoor.Obj
set_option linter.unusedVariables false
variable {B : Nat} {w0 w : World} {L0 L : List Nat} {r : Nat} {d : RD} {X : List Nat}

set_option maxRecDepth 100000 in
set_option maxHeartbeats 1000000 in
theorem keep_r1 {Q : Exit → Act → World → Prop} {r b cst : Nat} {f : FdM} (a : Act) (w : World) (c5 : w.cell? ⟨r, 5, none⟩ = some (.int .i64 cst)) (z5 : w.frozen? ⟨r, 5, none⟩ = false) (hbx : w.heap[b]? = some (.cells #[.string f.name, .string f.value, .bool f.never] 59 (0, 0))) (hn : f.name.size ≤ 1000000000) (hv : f.value.size ≤ 1000000000) (hc : cst ≤ 1000000000000000)
    (ha : Fr.Is 32 [(0, .pointer (some ⟨r, 0, none⟩)), (3, .pointer (some ⟨b, 0, none⟩))] a)
    (hQ : Hid (∀ a', Fr.Is 32 [(0, .pointer (some ⟨r, 0, none⟩)), (3, .pointer (some ⟨b, 0, none⟩))] a' → ∀ v, Below w.heap.size w v → Q .normal a' (v.setCell ⟨r, 5, none⟩ (.int .i64 (cst + cost f : Nat))))) :
    (Fr.reg Tryd.f50 1).wp Tryd.prog Q a w := by
  obtain ⟨fr, rfl, hfr⟩ := ha.lit
  simp only [List.map_cons, List.map_nil, List.cons.injEq, and_true] at hfr
  conv => arg 2; whnf
  simp only [List.range, List.range.loop, List.map_cons, List.map_nil, hfr]
  clear hfr ha
  refine wp_region_noPanic ?_
  obtain ⟨q0, q1, q2⟩ := box_cells hbx
  have HCo := Lib.hid (fun v => phcost_any f v (by omega) (by omega))
  have hcf : cost f ≤ 3000000000 := by unfold cost; omega
  have hb0 : Below w.heap.size w w.drew := (Below.refl _ _).drew
  have HFz : Hid (∀ v, Below w.heap.size w v → v.frozen? ⟨r, 5, none⟩ = false) := Lib.hid (fun v hv => by
    have hlt := World.block_lt_of_cell? w _ c5
    rw [World.frozen?_of_block (a := ⟨r, 5, none⟩) (hv.block r hlt)]; exact z5)
  have hadd : IntKind.i64.wrap ((cst : Int) + (cost f : Nat)) = ((cst + cost f : Nat) : Int) := by rw [IntWalk.i64_in _ (by omega)]; omega
  have HAdd := Lib.hid hadd
  clear hadd
  generalize cost f = C at *
  go_region_with ((go_at_call 68; refine (HCo.out _).mono ?_; rintro e w2 ⟨rfl, b2⟩; have c52 := below_cell b2 (below_cell hb0 c5); have z52 := HFz.out _ (below_step hb0 b2); replace hb0 := below_step hb0 b2))
  all_goals
    rw [HAdd.out]
    exact hQ.out _ (Fr.Is.mk rfl rfl) _ hb0

set_option maxRecDepth 100000 in
set_option maxHeartbeats 1000000 in
theorem keep_r2 {Q : Exit → Act → World → Prop} {r b cst ld : Nat} (a : Act) (w : World) (c5 : w.cell? ⟨r, 5, none⟩ = some (.int .i64 cst)) (c2 : w.cell? ⟨r, 2, none⟩ = some (.int .i64 ld))
    (ha : Fr.Is 32 [(0, .pointer (some ⟨r, 0, none⟩)), (3, .pointer (some ⟨b, 0, none⟩))] a)
    (hQ : Hid (∀ a', Fr.Is 32 [(0, .pointer (some ⟨r, 0, none⟩)), (3, .pointer (some ⟨b, 0, none⟩)), (21, .bool (decide (cst ≤ ld)))] a' → ∀ v, Below w.heap.size w v → Q .normal a' v)) :
    (Fr.reg Tryd.f50 2).wp Tryd.prog Q a w := by
  obtain ⟨fr, rfl, hfr⟩ := ha.lit
  simp only [List.map_cons, List.map_nil, List.cons.injEq, and_true] at hfr
  conv => arg 2; whnf
  simp only [List.range, List.range.loop, List.map_cons, List.map_nil, hfr]
  clear hfr ha
  refine wp_region_noPanic ?_
  have HB := Lib.hid (below_drewN w)
  by_cases h1 : cst ≤ ld
  · have h1' : (cst : Int) ≤ ld := by omega
    rw [decide_eq_true h1] at hQ
    go_quiet (fail)
    all_goals exact hQ.out _ (Fr.Is.mk rfl rfl) _ (HB.out _)
  · have h1' : ¬ (cst : Int) ≤ ld := by omega
    rw [decide_eq_false h1] at hQ
    go_quiet (fail)
    all_goals exact hQ.out _ (Fr.Is.mk rfl rfl) _ (HB.out _)

theorem fd_new (w : World) (f : FdM) : Rw.RowE EFd (w.alloc (.cells #[.string f.name, .string f.value, .bool f.never] 59)) (some ⟨w.heap.size, 0, none⟩) [f] := .inr ⟨_, _, rfl, fun i hi r u hu => by
  have h0 : i = 0 := by simp at hi; omega
  subst h0
  have hh := fd_box w f
  rw [cell_at hh]
  simpa [EFd] using hu⟩

set_option maxRecDepth 100000 in
set_option maxHeartbeats 2000000 in
theorem keep_r3 {Q : Exit → Act → World → Prop} {r b n cap : Nat} {f : FdM} {ad : Option Addr} {l : List FdM} {cs : Array Value} (a : Act) (w : World) (hh : w.heap[r]? = some (.cells cs 70 (0, 0))) (hcs : cs[6]? = some (.slice ad n cap)) (hbx : w.heap[b]? = some (.cells #[.string f.name, .string f.value, .bool f.never] 59 (0, 0))) (hq : Rw.QRow EFd w ad cap l) (hne : ∀ o s, ad ≠ some ⟨r, o, s⟩) (hn : n = l.length) (hlen : n ≤ 1000000000)
    (ha : Fr.Is 32 [(0, .pointer (some ⟨r, 0, none⟩)), (3, .pointer (some ⟨b, 0, none⟩))] a)
    (hQ : Hid (∀ a', Fr.Is 32 [(0, .pointer (some ⟨r, 0, none⟩))] a' → ∀ v ad' cap' v4, Below w.heap.size w v → v.grownBy v4 (ad.map (·.block)) → Rw.QRow EFd v4 ad' cap' (l ++ [f]) → (∀ b o s, ad' = some ⟨b, o, s⟩ → (∃ o', ad = some ⟨b, o', none⟩) ∨ v.heap.size ≤ b) → Q .normal a' (v4.setCell ⟨r, 6, none⟩ (.slice ad' (n + 1) cap')))) :
    (Fr.reg Tryd.f50 3).wp Tryd.prog Q a w := by
  obtain ⟨fr, rfl, hfr⟩ := ha.lit
  simp only [List.map_cons, List.map_nil, List.cons.injEq, and_true] at hfr
  conv => arg 2; whnf
  simp only [List.range, List.range.loop, List.map_cons, List.map_nil, hfr]
  clear hfr ha
  refine wp_region_noPanic ?_
  obtain ⟨i0, hi, hz0, hz1, hz2⟩ := info_parts info_fd
  have HI := Lib.hid hi
  have HZ0 := Lib.hid hz0
  have HZ1 := Lib.hid hz1
  have HZ2 := Lib.hid hz2
  obtain ⟨q0, q1, q2⟩ := box_cells hbx
  have c1 := (cell_at hh 6).trans hcs
  have c1a : ∀ o : Obj, (w.alloc o).cell? ⟨r, 6, none⟩ = some (.slice ad n cap) := fun o => (cell_at (alloc_at hh) 6).trans hcs
  have HHa : Hid (∀ v v4, Below w.heap.size w v → v.grownBy v4 (ad.map (·.block)) → v4.cell? ⟨r, 6, none⟩ = some (.slice ad n cap) ∧ v4.frozen? ⟨r, 6, none⟩ = false) := Lib.hid (fun v v4 hv hg => by
    have h4 := grown_at hg (block_below hv hh) (fun e => by
      rw [Option.map_eq_some_iff] at e
      obtain ⟨⟨b2, o2, s2⟩, e1, rfl⟩ := e
      exact hne o2 s2 e1)
    exact ⟨(cell_at h4 6).trans hcs, frozen_of_row _ _ _ _ _ h4⟩)
  have HNew := Lib.hid (fd_new w f)
  have hB : Below w.heap.size w (w.alloc (.cells #[.string f.name, .string f.value, .bool f.never] 59)).drew := (below_alloc w _).drew
  have HB := Lib.hid hB
  have HRa := Lib.hid (hq.below hB)
  have HL : Hid (n + 1 ≤ maxLen ∧ (n + 1) * 40 ≤ 140737488355328) := Lib.hid ⟨by unfold maxLen; omega, by omega⟩
  have HN := Lib.hid hn
  clear hi hz0 hz1 hz2 hh hn hB hq hne hbx
  obtain ⟨fn, fv, fb⟩ := f
  simp only at *
  go_region_law ((refine Rw.step_append_que EFd Tryd.underlying31 HI.out HZ0.out HZ1.out HZ2.out rfl rfl (.tmp 26) (.tmp 28) rfl ad n cap l rfl HN.out HRa.out ⟨w.heap.size, 0, none⟩ 1 [⟨fn, fv, fb⟩] 1 rfl rfl (HNew.out.below (Below.refl _ _).drew) HL.out.1 HL.out.2 ?_; intro ad4 cap4 w4 hq4 hg4 hb4; obtain ⟨c4, f4⟩ := HHa.out _ _ HB.out hg4.out))
  all_goals exact hQ.out _ (Fr.Is.mk rfl rfl) _ ad4 cap4 _ HB.out hg4.out hq4.out hb4.out

set_option maxRecDepth 100000 in
set_option maxHeartbeats 2000000 in
theorem room_r6 {Q : Exit → Act → World → Prop} {r b n cap : Nat} {S l4 l5 : Int} {f : FdM} {ad : Option Addr} {l : List FdM} {cs : Array Value} (a : Act) (w : World) (hh : w.heap[r]? = some (.cells cs 70 (0, 0))) (hcs : cs[8]? = some (.slice ad n cap)) (hbx : w.heap[b]? = some (.cells #[.string f.name, .string f.value, .bool f.never] 59 (0, 0))) (hq : Rw.QRow EFd w ad cap l) (hne : ∀ o s, ad ≠ some ⟨r, o, s⟩) (hn : n = l.length) (hlen : n ≤ 1000000000)
    (ha : Fr.Is 52 [(0, .pointer (some ⟨r, 0, none⟩)), (1, .int .i64 S), (4, .int .i64 l4), (5, .int .i64 l5), (6, .pointer (some ⟨b, 0, none⟩))] a)
    (hQ : Hid (∀ a', Fr.Is 52 [(0, .pointer (some ⟨r, 0, none⟩)), (1, .int .i64 S), (4, .int .i64 l4), (5, .int .i64 l5)] a' → ∀ v ad' cap' v4, Below w.heap.size w v → v.grownBy v4 (ad.map (·.block)) → Rw.QRow EFd v4 ad' cap' (l ++ [f]) → (∀ b o s, ad' = some ⟨b, o, s⟩ → (∃ o', ad = some ⟨b, o', none⟩) ∨ v.heap.size ≤ b) → Q .normal a' (v4.setCell ⟨r, 8, none⟩ (.slice ad' (n + 1) cap')))) :
    (Fr.reg Tryd.f72 6).wp Tryd.prog Q a w := by
  obtain ⟨fr, rfl, hfr⟩ := ha.lit
  simp only [List.map_cons, List.map_nil, List.cons.injEq, and_true] at hfr
  conv => arg 2; whnf
  simp only [List.range, List.range.loop, List.map_cons, List.map_nil, hfr]
  clear hfr ha
  refine wp_region_noPanic ?_
  obtain ⟨i0, hi, hz0, hz1, hz2⟩ := info_parts info_fd
  have HI := Lib.hid hi
  have HZ0 := Lib.hid hz0
  have HZ1 := Lib.hid hz1
  have HZ2 := Lib.hid hz2
  obtain ⟨q0, q1, q2⟩ := box_cells hbx
  have c1 := (cell_at hh 8).trans hcs
  have c1a : ∀ o : Obj, (w.alloc o).cell? ⟨r, 8, none⟩ = some (.slice ad n cap) := fun o => (cell_at (alloc_at hh) 8).trans hcs
  have HHa : Hid (∀ v v4, Below w.heap.size w v → v.grownBy v4 (ad.map (·.block)) → v4.cell? ⟨r, 8, none⟩ = some (.slice ad n cap) ∧ v4.frozen? ⟨r, 8, none⟩ = false) := Lib.hid (fun v v4 hv hg => by
    have h4 := grown_at hg (block_below hv hh) (fun e => by
      rw [Option.map_eq_some_iff] at e
      obtain ⟨⟨b2, o2, s2⟩, e1, rfl⟩ := e
      exact hne o2 s2 e1)
    exact ⟨(cell_at h4 8).trans hcs, frozen_of_row _ _ _ _ _ h4⟩)
  have HNew := Lib.hid (fd_new w f)
  have hB : Below w.heap.size w (w.alloc (.cells #[.string f.name, .string f.value, .bool f.never] 59)).drew := (below_alloc w _).drew
  have HB := Lib.hid hB
  have HRa := Lib.hid (hq.below hB)
  have HL : Hid (n + 1 ≤ maxLen ∧ (n + 1) * 40 ≤ 140737488355328) := Lib.hid ⟨by unfold maxLen; omega, by omega⟩
  have HN := Lib.hid hn
  clear hi hz0 hz1 hz2 hh hn hB hq hne hbx
  obtain ⟨fn, fv, fb⟩ := f
  simp only at *
  go_region_law ((refine Rw.step_append_que EFd Tryd.underlying31 HI.out HZ0.out HZ1.out HZ2.out rfl rfl (.tmp 46) (.tmp 48) rfl ad n cap l rfl HN.out HRa.out ⟨w.heap.size, 0, none⟩ 1 [⟨fn, fv, fb⟩] 1 rfl rfl (HNew.out.below (Below.refl _ _).drew) HL.out.1 HL.out.2 ?_; intro ad4 cap4 w4 hq4 hg4 hb4; obtain ⟨c4, f4⟩ := HHa.out _ _ HB.out hg4.out))
  all_goals exact hQ.out _ (Fr.Is.mk rfl rfl) _ ad4 cap4 _ HB.out hg4.out hq4.out hb4.out
end Go.Proofs.YtdkgachgohilcaaDoor

namespace Go.Proofs.YtdkgachgohilcaaDoor
open Go.RowKit
open Huf Pre Tab Hpk Arg Mem Gen Wr Go.Proofs.YtdkgachgohilcaaDoor.Obj
set_option linter.unusedVariables false
variable {B : Nat} {w0 w : World} {L0 L : List Nat} {r : Nat} {d : RD} {X : List Nat}

set_option maxRecDepth 100000 in
set_option maxHeartbeats 1000000 in
theorem pkeep_any (f : FdM) (h : RIn B w0 L0 r d w) (hn : f.name.size ≤ 1000000000) (hv : f.value.size ≤ 1000000000) (hc : d.cst ≤ 1000000000000000) (hol : d.out.length ≤ 100000000) :
    Calls Tryd.prog 50 #[.pointer (some ⟨r, 0, none⟩), .agg #[.string f.name, .string f.value, .bool f.never]] w fun e w' => e = .returned (.tuple #[]) ∧ RIn B w0 L0 r { d with cst := d.cst + cost f, out := d.out ++ [f] } w' := by
  have hb := below_alloc w (.cells #[.string f.name, .string f.value, .bool f.never] 59)
  have hbx := fd_box w f
  obtain ⟨L, ra, rc, fa, fc, fl, ga, gc, gl, hh0, hp0, hr0⟩ := h
  have hh := block_below hb hh0
  have hp := hp0.below hb
  have hrb : r ≠ w.heap.size := fun e => by have := hp0.rlt; omega
  generalize hwn : (w.alloc (.cells #[.string f.name, .string f.value, .bool f.never] 59)) = w1 at hb hbx hh hp
  generalize hbn : w.heap.size = b at *
  have HWN := Lib.hid hwn
  have HBN := Lib.hid hbn
  have c5 : w1.cell? ⟨r, 5, none⟩ = some (.int .i64 d.cst) := cell_at hh 5
  have z5 := frozen_of_row _ _ 5 _ _ hh
  have HP := Lib.hid (⟨hh, hp⟩ : _ ∧ _)
  have HR := Lib.hid hr0
  have HX := Lib.hid hbx
  clear hh0 hp0 hr0 hwn hbn hh hp hb
  have hfl := HR.out.2.1
  go_enter Tryd.func50, Tryd.ntmps50
  go_wp2_with fail
  simp only [HWN.out, HBN.out]
  refine keep_r1 (cst := d.cst) (f := f) _ _ c5 z5 hbx hn hv hc (Fr.Is.mk rfl rfl) (Lib.hid (fun a2 h2 v hbv => ?_))
  have hh1 := block_below hbv HP.out.1
  have hset := heap_setCell_same v r 5 _ _ (.int .i64 (d.cst + cost f : Nat)) hh1
  have hp1 := (HP.out.2.below hbv).set 5 (.int .i64 (d.cst + cost f : Nat))
  have hx1 : (v.setCell ⟨r, 5, none⟩ (.int .i64 (d.cst + cost f : Nat))).heap[b]? = _ := (Below.heap_setCell _ _ _ _ (fun e => hrb e.symm)).trans (block_below hbv HX.out)
  clear c5 z5 hbx hh1 hbv
  generalize (v.setCell ⟨r, 5, none⟩ (.int .i64 (d.cst + cost f : Nat))) = w2 at hset hp1 hx1 ⊢
  have HP2 := Lib.hid (⟨hset, hp1⟩ : _ ∧ _)
  have d5 : w2.cell? ⟨r, 5, none⟩ = some (.int .i64 (d.cst + cost f : Nat)) := cell_at hset 5
  have d2 : w2.cell? ⟨r, 2, none⟩ = some (.int .i64 d.ld) := cell_at hset 2
  clear hset hp1
  obtain ⟨fr, rfl, hfr⟩ := h2.lit
  simp only [List.map_cons, List.map_nil, List.cons.injEq, and_true] at hfr
  simp only [List.range, List.range.loop, List.map_cons, List.map_nil, hfr]
  clear hfr h2
  go_wp2_with fail
  refine keep_r2 (b := b) (cst := d.cst + cost f) (ld := d.ld) _ _ d5 d2 (Fr.Is.mk rfl rfl) (Lib.hid (fun a3 h3 v3 hb3 => ?_))
  have hh3 := block_below hb3 HP2.out.1
  have hp3 := HP2.out.2.below hb3
  have hx3 := block_below hb3 hx1
  clear d5 d2 hx1 hb3
  by_cases hle : d.cst + cost f ≤ d.ld
  · rw [decide_eq_true hle] at h3
    obtain ⟨fr, rfl, hfr⟩ := h3.lit
    simp only [List.map_cons, List.map_nil, List.cons.injEq, and_true] at hfr
    simp only [List.range, List.range.loop, List.map_cons, List.map_nil, hfr]
    clear hfr h3
    go_wp2_with fail
    refine keep_r3 (b := b) (n := fl.length) (cap := fc) (f := f) (ad := fa) (l := fl) _ _ hh3 rfl hx3 hp3.f.row (fun o s e => (hp3.f.ap r o s e).2.2 rfl) rfl (by omega) (Fr.Is.mk rfl rfl) (Lib.hid (fun a4 h4 v4 ad' cap' w4 hb4 hg4 hq4 hn4 => ?_))
    have hp4 := (hp3.below hb4).fgrow hg4 hq4 hn4
    have hh4 : w4.heap[r]? = _ := (hp4.2 r (Nat.lt_of_lt_of_le hp3.rlt hb4.size) (fun o s e => (hp3.f.ap r o s e).2.2 rfl)).trans (block_below hb4 hh3)
    have hset := heap_setCell_same w4 r 6 _ _ (.slice ad' (fl.length + 1) cap') hh4
    have hEnd : RIn B w0 L0 r { d with cst := d.cst + cost f, out := d.out ++ [f] } (w4.setCell ⟨r, 6, none⟩ (.slice ad' (fl.length + 1) cap')) := by
      refine ⟨L, ra, rc, ad', cap', fl ++ [f], ga, gc, gl, ?_, hp4.1.set 6 _, fun _ => ?_, ?_, HR.out.2.2.1, HR.out.2.2.2⟩
      · rw [List.length_append]; exact hset
      · rw [HR.out.1 (by omega)]
      · rw [List.length_append, List.length_append]; have := HR.out.2.1; simp only [List.length_cons, List.length_nil]; omega
    have HE := Lib.hid hEnd
    clear hEnd hset hh4 hp4 hh3 hp3 hx3
    obtain ⟨fr, rfl, hfr⟩ := h4.lit
    simp only [List.map_cons, List.map_nil, List.cons.injEq, and_true] at hfr
    simp only [List.range, List.range.loop, List.map_cons, List.map_nil, hfr]
    clear hfr h4
    go_wp2_with fail
    go_end0
    exact ⟨rfl, HE.out⟩
  · rw [decide_eq_false hle] at h3
    have HE : Hid (RIn B w0 L0 r { d with cst := d.cst + cost f, out := d.out ++ [f] } v3) := Lib.hid ⟨L, ra, rc, fa, fc, fl, ga, gc, gl, hh3, hp3, fun hc2 => absurd hc2 hle, by rw [List.length_append]; have := HR.out.2.1; omega, HR.out.2.2.1, HR.out.2.2.2⟩
    clear hh3 hp3 hx3
    obtain ⟨fr, rfl, hfr⟩ := h3.lit
    simp only [List.map_cons, List.map_nil, List.cons.injEq, and_true] at hfr
    simp only [List.range, List.range.loop, List.map_cons, List.map_nil, hfr]
    clear hfr h3
    go_wp2_with fail
    go_end0
    exact ⟨rfl, HE.out⟩

theorem csum_take_le (l : List FdM) (k : Nat) : csum (l.take k) ≤ csum l := by
  conv => rhs; rw [← List.take_append_drop k l]
  rw [csum_append]; omega
/-- A beginning that has room is part of what has room. -/
theorem fit_take : ∀ (l : List FdM) (k S : Nat), csum (l.take k) ≤ S → k ≤ l.length → k ≤ (fit S l).length
  | _, 0, _, _, _ => Nat.zero_le _
  | [], k + 1, _, _, h => by simp at h
  | f :: q, k + 1, S, h, hk => by
    simp only [List.take_succ_cons, csum, List.length_cons] at h hk
    rw [fit, if_pos (by omega), List.length_cons]
    have := fit_take q k (S - cost f) (by omega) (by omega)
    omega
theorem csum_take_succ (l : List FdM) (k : Nat) (h : k < l.length) : csum (l.take (k + 1)) = csum (l.take k) + cost l[k] := by
  rw [List.take_succ_eq_append_getElem h, csum_append]; simp [csum]

set_option maxRecDepth 100000 in
set_option maxHeartbeats 1000000 in
theorem room_r2 {Q : Exit → Act → World → Prop} {r gn had : Nat} {S l4 l5 : Int} {ad : Option Addr} {gc : Nat} (a : Act) (w : World) (c7 : w.cell? ⟨r, 7, none⟩ = some (.int .i64 had)) (c8 : w.cell? ⟨r, 8, none⟩ = some (.slice ad gn gc))
    (ha : Fr.Is 52 [(0, .pointer (some ⟨r, 0, none⟩)), (1, .int .i64 S), (4, .int .i64 l4), (5, .int .i64 l5)] a)
    (hQ : Hid (∀ a' w', Below w.heap.size w w' → Fr.Is 52 [(0, .pointer (some ⟨r, 0, none⟩)), (1, .int .i64 S), (4, .int .i64 l4), (5, .int .i64 l5), (32, .bool (decide (S < l4 ∧ gn < had)))] a' → Q .normal a' w')) :
    (Fr.reg Tryd.f72 2).wp Tryd.prog Q a w := by
  obtain ⟨fr, rfl, hfr⟩ := ha.lit
  simp only [List.map_cons, List.map_nil, List.cons.injEq, and_true] at hfr
  conv => arg 2; whnf
  simp only [List.range, List.range.loop, List.map_cons, List.map_nil, hfr]
  clear hfr ha
  refine wp_region_noPanic ?_
  have HB := Lib.hid (below_drewN w)
  by_cases h1 : S < l4
  · by_cases h2 : gn < had
    · have h2' : (gn : Int) < had := by omega
      rw [decide_eq_true (show S < l4 ∧ gn < had from ⟨h1, h2⟩)] at hQ
      go_quiet (fail)
      all_goals exact hQ.out _ _ (HB.out _) (Fr.Is.mk rfl rfl)
    · have h2' : ¬ (gn : Int) < had := by omega
      rw [decide_eq_false (show ¬ (S < l4 ∧ gn < had) from fun h => h2 h.2)] at hQ
      go_quiet (fail)
      all_goals exact hQ.out _ _ (HB.out _) (Fr.Is.mk rfl rfl)
  · rw [decide_eq_false (show ¬ (S < l4 ∧ gn < had) from fun h => h1 h.1)] at hQ
    go_quiet (fail)
    all_goals exact hQ.out _ _ (HB.out _) (Fr.Is.mk rfl rfl)

set_option maxRecDepth 100000 in
set_option maxHeartbeats 2000000 in
theorem proom_any (S : Int) (hS : -10000000000 ≤ S ∧ S ≤ 10000000000) (h : RIn B w0 L0 r d w) (hhad : d.had ≤ 100000) :
    Calls Tryd.prog 72 #[.pointer (some ⟨r, 0, none⟩), .int .i64 S] w fun e w' => e = .returned (.tuple #[]) ∧ ∃ k g, k ≤ d.k ∧ k ≤ (fit S.toNat d.rows).length ∧ (S < 0 → k = 0) ∧ RIn B w0 L0 r { d with k := k, gn := g } w' := by
  have hL := h
  obtain ⟨L, ra, rc, fa, fc, fl, ga, gc, gl, hh, hp, hr⟩ := h
  have c0 : w.cell? ⟨r, 0, none⟩ = some (.pointer (some ⟨d.t, 0, none⟩)) := cell_at hh 0
  have HSz := Lib.hid (psize_any L d.t d.m d.c d.rows w hp.tab)
  have HLn := Lib.hid (fun v (hv : Below w.heap.size w v) => plen_any L d.t d.m d.c d.rows v (hp.tab.below hv))
  have HC0 := Lib.hid (fun v (hv : Below w.heap.size w v) => (below_cell hv c0))
  have hsum := hp.tab.sum
  have h32 := csum_len d.rows
  have HN := Lib.hid hp.tab.never
  have HX := Lib.hid (RX.start hL)
  clear hh hp hr hL
  go_enter Tryd.func72, Tryd.ntmps72
  go_wp2_with fail
  refine HSz.out.mono ?_; rintro e w1 ⟨rfl, b1⟩
  have c01 := HC0.out _ b1
  clear c0
  go_wp2_with fail
  refine (HLn.out _ b1).mono ?_; rintro e w2 ⟨rfl, b2⟩
  replace b2 := below_step b1 b2
  have hR2 := (HX.out.below b2).done
  clear c01
  have hadd : wrap64 (61 + (d.rows.length : Int)) = 61 + (d.rows.length : Int) := IntWalk.wrap64_in _ (by omega)
  go_wp2_with fail
  have hk0 : d.k ≤ d.rows.length := by
    obtain ⟨_, _, _, _, _, _, _, _, _, _, _, hr⟩ := hR2
    exact hr.2.2.2.2.2
  have hst : RIn B w0 L0 r { d with k := min d.k d.rows.length } w2 := by rw [Nat.min_eq_left hk0]; exact hR2
  have HSt := Lib.hid hst
  clear hst hR2 b2 b1
  refine wp_loop_ghost (fun n a' w' => ∃ j g : Nat, j = n ∧ j ≤ d.rows.length ∧ RIn B w0 L0 r { d with k := min d.k j, gn := g } w' ∧ Fr.Is 52 [(0, .pointer (some ⟨r, 0, none⟩)), (1, .int .i64 S), (4, .int .i64 (csum (d.rows.take j) : Nat)), (5, .int .i64 (61 + j : Nat))] a') d.rows.length
    ⟨d.rows.length, d.gn, rfl, Nat.le_refl _, HSt.out, Fr.Is.mk rfl (by rw [List.take_length]; rfl)⟩ ?_
  rintro n a2 wr ⟨j, g, rfl, hj, hR, ha2⟩
  · clear HSt HSz HLn HC0 HX hadd
    have HR := Lib.hid hR
    clear hR
    obtain ⟨L2, ra2, rc2, fa2, fc2, fl2, ga2, gc2, gl2, hh2, hp2, hr2⟩ := HR.out
    have c7 : wr.cell? ⟨r, 7, none⟩ = some (.int .i64 d.had) := cell_at hh2 7
    have c8 : wr.cell? ⟨r, 8, none⟩ = some (.slice ga2 gl2.length gc2) := cell_at hh2 8
    have hg0 := hr2.2.2.1
    have hg1 := hr2.2.2.2.1
    have hg2 := hr2.2.2.2.2.1
    simp only at hg0 hg1 hg2
    rw [hg0] at c8
    clear hh2 hp2 hr2 hg0
    refine wp_seq ?_
    refine wp_seq ?_
    refine room_r2 (gn := g) (had := d.had) (l4 := (csum (d.rows.take j) : Nat)) (l5 := (61 + j : Nat)) (S := S) _ _ c7 c8 ha2 (Lib.hid (fun a3 w3 b3 h3 => ?_))
    have hct := csum_take_le d.rows j
    have HR3 := Lib.hid (HR.out.below b3)
    clear c7 c8 b3 HR
    by_cases hgo : S < (csum (d.rows.take j) : Nat) ∧ g < d.had
    · rw [decide_eq_true hgo] at h3
      obtain ⟨i, rfl⟩ : ∃ i, j = i + 1 := ⟨j - 1, by omega⟩
      have hx := atT_all d.rows (61 + (i + 1)) d.rows[i] (by omega) (by rw [List.getElem?_append_right (by rw [statics_len]; omega), statics_len, show 61 + (i + 1) - 1 - 61 = i from by omega, List.getElem?_eq_getElem (by omega)])
      have HRow := prow_any (61 + (i + 1)) (by omega) HR3.out
      dsimp only at HRow
      rw [hx] at HRow
      simp only at HRow
      replace HRow := Lib.hid HRow
      have hcs := csum_take_succ d.rows i (by omega)
      have hcm : cost d.rows[i] ≤ 65536 := by have := csum_mem (List.getElem_mem (show i < d.rows.length by omega)); omega
      have hsz2 : d.rows[i].name.size ≤ 65536 ∧ d.rows[i].value.size ≤ 65536 := by unfold cost at hcm; omega
      have HCo := Lib.hid (fun v => phcost_any d.rows[i] v (by omega) (by omega))
      clear HR3 hx
      generalize d.rows[i] = f at *
      generalize hA : csum (d.rows.take i) = A at hcs hct
      have HA := Lib.hid hA
      generalize hC : cost f = C at hcs hcm HCo
      clear hA hC
      obtain ⟨fr, rfl, hfr⟩ := h3.lit
      simp only [List.map_cons, List.map_nil, List.cons.injEq, and_true] at hfr
      simp only [List.range, List.range.loop, List.map_cons, List.map_nil, hfr]
      clear hfr h3
      go_wp2_with fail
      refine HRow.out.mono ?_; intro e w4 hG
      obtain ⟨rfl, hR4⟩ : e = .returned (.agg #[.string f.name, .string f.value, .bool f.never]) ∧ RIn B w0 L0 r { d with k := min d.k (i + 1), gn := g } w4 := by
        rcases hG with ⟨_, h1, h2⟩ | ⟨h0, _⟩
        · exact ⟨h1, h2⟩
        · exact absurd rfl h0
      have hbx := fd_box w4 f
      obtain ⟨q0, q1, q2⟩ := box_cells hbx
      have hX5 := (RX.start hR4).alloc (.cells #[.string f.name, .string f.value, .bool f.never] 59)
      clear hG HRow hR4
      go_wp2_with fail
      have hb5 : (w4.alloc (.cells #[.string f.name, .string f.value, .bool f.never] 59)).heap.size = w4.heap.size + 1 := by simp
      generalize hwn : (w4.alloc (.cells #[.string f.name, .string f.value, .bool f.never] 59)) = w5 at hbx hX5 q0 q1 q2 hb5 ⊢
      generalize hbn : w4.heap.size = b at hbx hX5 q0 q1 q2 hb5 ⊢
      clear hwn hbn
      refine (HCo.out _).mono ?_; rintro e w6 ⟨rfl, b6⟩
      have hbx6 := block_below b6 hbx
      have hR6 := (hX5.below b6).done
      clear q0 q1 q2 hbx
      have hsub : wrap64 (A : Int) = A := IntWalk.wrap64_in _ (by omega)
      have hsub2 : wrap64 ((A : Int) + C - C) = A := by rw [Int.add_sub_cancel]; exact hsub
      rw [hcs] at hgo
      have HCs := Lib.hid hcs
      clear hcs
      go_wp2_with fail
      try simp only [hsub, hsub2]
      clear hsub hsub2
      obtain ⟨L6, ra6, rc6, fa6, fc6, fl6, ga6, gc6, gl6, hh6, hp6, hr6⟩ := hR6
      have hgl6 := hr6.2.2.1
      simp only at hgl6
      refine room_r6 (b := b) (S := S) (l4 := (A : Int)) (l5 := 61 + ((i : Int) + 1)) (n := gl6.length) (cap := gc6) (f := f) (ad := ga6) (l := gl6) _ _ hh6 rfl hbx6 hp6.g.row (fun o s e => (hp6.g.ap r o s e).2.2 rfl) rfl (by omega) (Fr.Is.mk rfl rfl) (Lib.hid (fun a7 h7 v7 ad' cap' w7 hb7 hg7 hq7 hn7 => ?_))
      have hp7 := (hp6.swap.below hb7).fgrow hg7 hq7 hn7
      have hh7 : w7.heap[r]? = _ := (hp7.2 r (Nat.lt_of_lt_of_le hp6.rlt hb7.size) (fun o s e => (hp6.g.ap r o s e).2.2 rfl)).trans (block_below hb7 hh6)
      have hset := heap_setCell_same w7 r 8 _ _ (.slice ad' (gl6.length + 1) cap') hh7
      have hEnd : RIn B w0 L0 r { d with k := min d.k i, gn := g + 1 } (w7.setCell ⟨r, 8, none⟩ (.slice ad' (gl6.length + 1) cap')) := by
        refine ⟨L6, ra6, rc6, fa6, fc6, fl6, ad', cap', gl6 ++ [f], ?_, hp7.1.swap.set 8 _, hr6.1, hr6.2.1, ?_, ?_, ?_, ?_⟩
        · rw [List.length_append]; exact hset
        · rw [List.length_append, hgl6]; rfl
        · simp only; omega
        · simp only; omega
        · have := hr6.2.2.2.2.2; simp only at this ⊢; omega
      have HE := Lib.hid hEnd
      clear hEnd hset hh7 hp7 hh6 hp6 hr6 hbx6 hgl6
      obtain ⟨fr, rfl, hfr⟩ := h7.lit
      simp only [List.map_cons, List.map_nil, List.cons.injEq, and_true] at hfr
      simp only [List.range, List.range.loop, List.map_cons, List.map_nil, hfr]
      clear hfr h7
      have HDec : Hid (61 + ((i : Int) + 1) - 1 = ((61 + i : Nat) : Int)) := Lib.hid (by omega)
      go_wp2_with fail
      exact ⟨i, Nat.lt_succ_self i, i, g + 1, rfl, Nat.le_of_succ_le hj, HE.out, Fr.Is.mk rfl (by rw [HA.out, HDec.out]; rfl)⟩
    · rw [decide_eq_false hgo] at h3
      obtain ⟨fr, rfl, hfr⟩ := h3.lit
      simp only [List.map_cons, List.map_nil, List.cons.injEq, and_true] at hfr
      simp only [List.range, List.range.loop, List.map_cons, List.map_nil, hfr]
      clear hfr h3
      have HE : Hid (∃ k g2, k ≤ d.k ∧ k ≤ (fit S.toNat d.rows).length ∧ (S < 0 → k = 0) ∧ RIn B w0 L0 r { d with k := k, gn := g2 } w3) := Lib.hid (by
        by_cases hS0 : S < (csum (d.rows.take j) : Nat)
        · refine ⟨0, g, Nat.zero_le _, Nat.zero_le _, fun _ => rfl, ?_⟩
          obtain ⟨L6, ra6, rc6, fa6, fc6, fl6, ga6, gc6, gl6, hh6, hp6, hr6⟩ := HR3.out
          have hgd : ¬ g < d.had := fun h => hgo ⟨hS0, h⟩
          exact ⟨L6, ra6, rc6, fa6, fc6, fl6, ga6, gc6, gl6, hh6, hp6, hr6.1, hr6.2.1, hr6.2.2.1, hr6.2.2.2.1, by simp only; omega, Nat.zero_le _⟩
        · refine ⟨min d.k j, g, Nat.min_le_left _ _, Nat.le_trans (Nat.min_le_right _ _) (fit_take _ _ _ (by omega) hj), fun h => by omega, HR3.out⟩)
      go_wp2_with fail
      go_end0
      exact ⟨rfl, HE.out⟩
end Go.Proofs.YtdkgachgohilcaaDoor
