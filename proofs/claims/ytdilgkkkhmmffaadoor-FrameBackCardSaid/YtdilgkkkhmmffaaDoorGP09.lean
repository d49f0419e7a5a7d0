/- Layer 6: a whole frame, a whole fault is stored, as one step of a region that draws its order. Layer 6: the program's Take: its other regions. Layer 6: the program's Take: a payload that is too long. Layer 6: the program's Take: the regions that answer. Layer 6: what the program reads is what the document says: without memory. Layer 6: the program's Take. -/
import Derived.Test.YtdilgkkkhmmffaaDoorGP08
import Derived.Deep.RegionHeld3
set_option linter.unusedVariables false
set_option linter.unusedSimpArgs false
namespace Go.Proofs.YtdilgkkkhmmffaaDoor
open Go.RowKit
open Fra Oct Arg Mem Gen Qu Go.Proofs.YtdilgkkkhmmffaaDoor.Obj
set_option linter.unusedVariables false
set_option linter.unusedSimpArgs false

set_option maxHeartbeats 4000000 in
theorem step_frame {ops : Array Oper} {K : Act → World → Prop} {Ee : Prop} {Q : Exit → Act → World → Prop} {o : Oper} {a : Act} {w : World} {rv : Nat} {f0 : FrM} {sa0 : Option Addr} {sc0 : Nat} (hgd : o.guard = none) (p v : Nat) (ho : o.op = .store 24 (.tmp p) (.tmp v))
    (hp : a.eval (.tmp p) = .pointer (some ⟨rv, 0, none⟩)) (f : FrM) (sa : Option Addr) (sc : Nat) (hv : a.eval (.tmp v) = .agg #[.int .i64 f.type, .int .i64 f.flags, .int .i64 f.stream, .string f.data, .int .i64 f.pad, .slice sa f.sets.length sc, .int .i64 f.code, .int .i64 f.last, .int .i64 f.inc, .int .i64 f.dep, .int .i64 f.weight, .bool f.sole]) (V : Fb rv f0 sa0 sc0 w)
    (hK : ∀ w2, Hid (Fb rv f sa sc w2 ∧ Kept [rv] w w2) → K (a.put o.dst undef) w2) :
    if Region.wanted o (yielded ops a.tmps) = true then Oper.wp Tryd.prog o a w K Q else Ee := by
  have hw : Region.wanted o (yielded ops a.tmps) = true := by simp [Region.wanted, hgd]
  rw [if_pos hw]
  obtain ⟨w2, h2, F2, b2, o2⟩ := fr_ret (B := 0) (Below.refl 0 w) (Nat.zero_le _) V f sa sc
  have HF := Lib.hid F2
  have HO : Hid (Kept [rv] w w2) := Lib.hid ⟨b2.os, b2.tape, b2.output, b2.size, fun k hk hn => o2 k (by simpa using hn)⟩
  have H2 := Lib.hid h2
  have HK := Lib.hid (hK w2)
  obtain ⟨c0, c1, c2, c3, c4, c5, c6, c7, c8, c9, c10, c11⟩ := fr_cells V
  have t0 := V.thaw 0
  have t1 := V.thaw 1
  have t2 := V.thaw 2
  have t3 := V.thaw 3
  have t4 := V.thaw 4
  have t5 := V.thaw 5
  have t6 := V.thaw 6
  have t7 := V.thaw 7
  have t8 := V.thaw 8
  have t9 := V.thaw 9
  have t10 := V.thaw 10
  have t11 := V.thaw 11
  clear V F2 o2 b2 h2 hK
  have hp' : a.tmps[p]?.getD undef = .pointer (some ⟨rv, 0, none⟩) := by simpa [Act.eval] using hp
  have hv' : a.tmps[v]?.getD undef = .agg #[.int .i64 f.type, .int .i64 f.flags, .int .i64 f.stream, .string f.data, .int .i64 f.pad, .slice sa f.sets.length sc, .int .i64 f.code, .int .i64 f.last, .int .i64 f.inc, .int .i64 f.dep, .int .i64 f.weight, .bool f.sole] := by simpa [Act.eval] using hv
  unfold Oper.wp
  simp [execOp, ho, hp', hv', go_sem, c0, c1, c2, c3, c4, c5, c6, c7, c8, c9, c10, c11, t0, t1, t2, t3, t4, t5, t6, t7, t8, t9, t10, t11]
  rw [H2.out]
  exact HK.out (Lib.hid ⟨HF.out, HO.out⟩)
set_option maxHeartbeats 4000000 in
theorem step_fault {ops : Array Oper} {K : Act → World → Prop} {Ee : Prop} {Q : Exit → Act → World → Prop} {o : Oper} {a : Act} {w : World} {rx : Nat} {u0 u1 u2 : Value} (hgd : o.guard = none) (p v : Nat) (ho : o.op = .store 33 (.tmp p) (.tmp v))
    (hp : a.eval (.tmp p) = .pointer (some ⟨rx, 0, none⟩)) (x : FaM) (hv : a.eval (.tmp v) = .agg #[.bool x.is, .int .i64 x.code, .int .i64 x.stream]) (X : w.heap[rx]? = some (Obj.cells #[u0, u1, u2] 33 (0, 0)))
    (hK : ∀ w2, Hid (w2.heap[rx]? = some (Obj.cells #[.bool x.is, .int .i64 x.code, .int .i64 x.stream] 33 (0, 0)) ∧ Kept [rx] w w2) → K (a.put o.dst undef) w2) :
    if Region.wanted o (yielded ops a.tmps) = true then Oper.wp Tryd.prog o a w K Q else Ee := by
  have hw : Region.wanted o (yielded ops a.tmps) = true := by simp [Region.wanted, hgd]
  rw [if_pos hw]
  obtain ⟨w2, h2, X2, b2⟩ := fa_ret (B := 0) (Below.refl 0 w) (Nat.zero_le _) X (.bool x.is) (.int .i64 x.code) (.int .i64 x.stream)
  have hk : Kept [rx] w w2 := by
    rw [← h2]
    exact (((Kept.refl [rx] w).setCell (p := ⟨rx, 0, none⟩) (.inl (by simp)) _).setCell (p := ⟨rx, 1, none⟩) (.inl (by simp)) _).setCell (p := ⟨rx, 2, none⟩) (.inl (by simp)) _
  have H2 := Lib.hid h2
  have HK := Lib.hid (hK w2 (Lib.hid ⟨X2, hk⟩))
  obtain ⟨c0, c1, c2⟩ := fa_cells X
  have t0 := frozen_of_row _ _ 0 _ _ X
  have t1 := frozen_of_row _ _ 1 _ _ X
  have t2 := frozen_of_row _ _ 2 _ _ X
  have hp' : a.tmps[p]?.getD undef = .pointer (some ⟨rx, 0, none⟩) := by simpa [Act.eval] using hp
  have hv' : a.tmps[v]?.getD undef = .agg #[.bool x.is, .int .i64 x.code, .int .i64 x.stream] := by simpa [Act.eval] using hv
  clear X X2 b2 h2 hk hK
  unfold Oper.wp
  simp [execOp, ho, hp', hv', go_sem, c0, c1, c2, t0, t1, t2]
  rw [H2.out]
  exact HK.out
end Go.Proofs.YtdilgkkkhmmffaaDoor

namespace Go.Proofs.YtdilgkkkhmmffaaDoor
open Go.RowKit
open Fra Oct Arg Mem Gen Qu Go.Proofs.YtdilgkkkhmmffaaDoor.Obj
set_option linter.unusedVariables false
set_option linter.unusedSimpArgs false

theorem run_mid {P : Program} {t e : TypeId} (ht : P.underlying t = some (.slice e)) {size : Nat} (hs : ∀ w, (sizeOf e).run P w = .ok size w) (a : Option Addr) (len cap k m : Nat) (h1 : k + m ≤ len) (h2 : len ≤ cap) (w : World) :
    (Instr.slice t (.slice a len cap) (some (.int .i64 k)) (some (.int .i64 ((k + m : Nat) : Int))) none).run P w = .ok (.slice (Sl.adOf a cap k size) m (cap - k)) w := by
  have h3 : k + m ≤ cap := by omega
  have h4 : (k : Int) ≤ ((k + m : Nat) : Int) := by omega
  have h5 : (0 : Int) ≤ (k : Int) + m ∧ (k : Int) + m ≤ cap := by omega
  have h6 : ((k : Int) + m).toNat = k + m := by omega
  have h7 : k ≤ k + m := by omega
  have h8 : k + m - k = m := by omega
  simp [Instr.slice, Instr.sliceBounds, Instr.sliceBound, asIntOf, run_underlying ht, hs, Result.andThen, h5, h6, h7, h8, Sl.adOf]

set_option maxRecDepth 100000 in
set_option maxHeartbeats 2000000 in
theorem take_r11 {Q : Exit → Act → World → Prop} {rv rx n cap fb xb : Nat} {ad : Option Addr} {most : Int} {N : Int} {x : FaM} (a : Act) (w : World) (hxb : w.heap[xb]? = some (Obj.cells #[.bool x.is, .int .i64 x.code, .int .i64 x.stream] 33 (0, 0)))
    (ha : Fr.Is 53 [(0, .slice ad n cap), (1, .int .i64 most), (4, .pointer (some ⟨rv, 0, none⟩)), (6, .pointer (some ⟨rx, 0, none⟩)), (7, .pointer (some ⟨fb, 0, none⟩)), (8, .int .i64 (9 + N)), (9, .pointer (some ⟨xb, 0, none⟩))] a)
    (hQ : Hid (∀ a' , Fr.Is 53 [(0, .slice ad n cap), (1, .int .i64 most), (4, .pointer (some ⟨rv, 0, none⟩)), (6, .pointer (some ⟨rx, 0, none⟩)), (7, .pointer (some ⟨fb, 0, none⟩)), (8, .int .i64 (9 + N)), (9, .pointer (some ⟨xb, 0, none⟩)), (40, .bool (!x.is))] a' → Q .normal a' w)) :
    (Fr.reg Tryd.f14 11).wp Tryd.prog Q a w := by
  obtain ⟨fr, rfl, hfr⟩ := ha.lit
  simp only [List.map_cons, List.map_nil, List.cons.injEq, and_true] at hfr
  conv => arg 2; whnf
  simp only [List.range, List.range.loop, List.map_cons, List.map_nil, hfr]
  clear hfr ha
  have e0 := cell_at hxb 0
  simp only [List.getElem?_toArray, List.getElem?_cons_zero] at e0
  go_wp2_with fail
  exact hQ.out _ (Fr.Is.mk rfl rfl)

set_option maxRecDepth 100000 in
set_option maxHeartbeats 2000000 in
theorem take_r13 {Q : Exit → Act → World → Prop} {rv rx n cap fb xb : Nat} {ad : Option Addr} {most : Int} {N : Int} {x : FaM} (a : Act) (w : World) (hxb : w.heap[xb]? = some (Obj.cells #[.bool x.is, .int .i64 x.code, .int .i64 x.stream] 33 (0, 0)))
    (ha : Fr.Is 53 [(0, .slice ad n cap), (1, .int .i64 most), (4, .pointer (some ⟨rv, 0, none⟩)), (6, .pointer (some ⟨rx, 0, none⟩)), (7, .pointer (some ⟨fb, 0, none⟩)), (8, .int .i64 (9 + N)), (9, .pointer (some ⟨xb, 0, none⟩))] a)
    (hQ : Hid (∀ a' , Fr.Is 53 [(0, .slice ad n cap), (1, .int .i64 most), (4, .pointer (some ⟨rv, 0, none⟩)), (6, .pointer (some ⟨rx, 0, none⟩)), (7, .pointer (some ⟨fb, 0, none⟩)), (8, .int .i64 (9 + N)), (9, .pointer (some ⟨xb, 0, none⟩)), (47, .bool (x.stream == 0))] a' → Q .normal a' w)) :
    (Fr.reg Tryd.f14 13).wp Tryd.prog Q a w := by
  obtain ⟨fr, rfl, hfr⟩ := ha.lit
  simp only [List.map_cons, List.map_nil, List.cons.injEq, and_true] at hfr
  conv => arg 2; whnf
  simp only [List.range, List.range.loop, List.map_cons, List.map_nil, hfr]
  clear hfr ha
  have e2 := cell_at hxb 2
  simp only [List.getElem?_toArray, List.getElem?_cons_zero, List.getElem?_cons_succ] at e2
  go_wp2_with fail
  exact hQ.out _ (Fr.Is.mk rfl rfl)

set_option maxRecDepth 100000 in
set_option maxHeartbeats 4000000 in
theorem take_r3 {Q : Exit → Act → World → Prop} {rv rx n cap : Nat} {ad : Option Addr} {most : Int} {f : FrM} {N : Int} (a : Act) (w : World) (HC : Hid (Calls Tryd.prog 25 #[.slice ad n cap] w fun e w' => e = .returned (.tuple #[frV f none 0, .int .i64 N]) ∧ Below w.heap.size w w'))
    (ha : Fr.Is 53 [(0, .slice ad n cap), (1, .int .i64 most), (4, .pointer (some ⟨rv, 0, none⟩)), (6, .pointer (some ⟨rx, 0, none⟩))] a)
    (hQ : Hid (∀ a' w1, Fr.Is 53 [(0, .slice ad n cap), (1, .int .i64 most), (4, .pointer (some ⟨rv, 0, none⟩)), (6, .pointer (some ⟨rx, 0, none⟩)), (7, .pointer (some ⟨w1.heap.size, 0, none⟩)), (8, .int .i64 N)] a' → Below w.heap.size w w1 → Q .normal a' (w1.alloc (.cells (frC f none 0) 24)))) :
    (Fr.reg Tryd.f14 3).wp Tryd.prog Q a w := by
  obtain ⟨fr, rfl, hfr⟩ := ha.lit
  simp only [List.map_cons, List.map_nil, List.cons.injEq, and_true] at hfr
  conv => arg 2; whnf
  simp only [List.range, List.range.loop, List.map_cons, List.map_nil, hfr]
  clear hfr ha
  unfold frV frC at HC
  unfold frC at hQ
  go_wp2_with (go_at_call 25; refine HC.out.mono ?_; rintro e w1 ⟨rfl, b1⟩)
  exact hQ.out _ w1 (Fr.Is.mk rfl rfl) b1

set_option maxRecDepth 100000 in
set_option maxHeartbeats 4000000 in
theorem take_r9 {Q : Exit → Act → World → Prop} {rv rx n cap fb k : Nat} {ad : Option Addr} {most : Int} {x : FaM} {R : World → Prop} (a : Act) (w : World) (hk : 9 + k ≤ n) (hc : n ≤ cap) (hb : cap ≤ 9223372036854775807) (HC : Hid (Calls Tryd.prog 27 #[.pointer (some ⟨fb, 0, none⟩), .slice (Sl.adOf ad cap 9 1) k (cap - 9)] w fun e w' => e = .returned (faV x) ∧ R w'))
    (ha : Fr.Is 53 [(0, .slice ad n cap), (1, .int .i64 most), (4, .pointer (some ⟨rv, 0, none⟩)), (6, .pointer (some ⟨rx, 0, none⟩)), (7, .pointer (some ⟨fb, 0, none⟩)), (8, .int .i64 (9 + (k : Int)))] a)
    (hQ : Hid (∀ a' w1, Fr.Is 53 [(0, .slice ad n cap), (1, .int .i64 most), (4, .pointer (some ⟨rv, 0, none⟩)), (6, .pointer (some ⟨rx, 0, none⟩)), (7, .pointer (some ⟨fb, 0, none⟩)), (8, .int .i64 (9 + (k : Int))), (9, .pointer (some ⟨w1.heap.size, 0, none⟩))] a' → R w1 → Q .normal a' (w1.alloc (.cells #[.bool x.is, .int .i64 x.code, .int .i64 x.stream] 33)))) :
    (Fr.reg Tryd.f14 9).wp Tryd.prog Q a w := by
  obtain ⟨fr, rfl, hfr⟩ := ha.lit
  simp only [List.map_cons, List.map_nil, List.cons.injEq, and_true] at hfr
  conv => arg 2; whnf
  simp only [List.range, List.range.loop, List.map_cons, List.map_nil, hfr]
  clear hfr ha
  unfold faV at HC
  have hsl := run_mid (P := Tryd.prog) (t := 27) Tryd.underlying27 (size := 1) size_by ad n cap 9 k hk hc
  rw [show (((9 + k : Nat) : Int)) = 9 + (k : Int) from by omega] at hsl
  by_cases hcap : cap = 9
  · subst hcap
    obtain rfl : k = 0 := by omega
    rw [Sl.adOf, if_pos rfl] at HC
    clear hsl
    go_wp2_with (go_at_call 27; refine HC.out.mono ?_; rintro e w1 ⟨rfl, b1⟩)
    exact hQ.out _ w1 (Fr.Is.mk rfl rfl) b1
  · rw [Sl.adOf, if_neg hcap] at HC
    clear hsl
    go_wp2_with (go_at_call 27; refine HC.out.mono ?_; rintro e w1 ⟨rfl, b1⟩)
    exact hQ.out _ w1 (Fr.Is.mk rfl rfl) b1
end Go.Proofs.YtdilgkkkhmmffaaDoor

namespace Go.Proofs.YtdilgkkkhmmffaaDoor
open Go.RowKit
open Fra Oct Arg Mem Gen Qu Go.Proofs.YtdilgkkkhmmffaaDoor.Obj
set_option linter.unusedVariables false
set_option linter.unusedSimpArgs false

set_option maxRecDepth 100000 in
set_option maxHeartbeats 4000000 in
theorem take_r5 {Q : Exit → Act → World → Prop} {rv rx n cap : Nat} {ad : Option Addr} {most : Int}  (a : Act) (w : World) (V : Fb rv noFr none 0 w) (X : w.heap[rx]? = some (Obj.cells #[.bool false, .int .i64 0, .int .i64 0] 33 (0, 0))) (hne : rx ≠ rv)
    (ha : Fr.Is 53 [(0, .slice ad n cap), (1, .int .i64 most), (4, .pointer (some ⟨rv, 0, none⟩)), (6, .pointer (some ⟨rx, 0, none⟩))] a)
    (hQ : Hid (∀ a' w', Fr.Is 53 [(4, .pointer (some ⟨rv, 0, none⟩)), (5, .int .i64 0), (6, .pointer (some ⟨rx, 0, none⟩))] a' → Fb rv noFr none 0 w' → w'.heap[rx]? = some (Obj.cells #[.bool true, .int .i64 6, .int .i64 0] 33 (0, 0)) → Below 0 w w' → (∀ k, k ≠ rv → k ≠ rx → k < w.heap.size → w'.heap[k]? = w.heap[k]?) → Q .normal a' w')) :
    (Fr.reg Tryd.f14 5).wp Tryd.prog Q a w := by
  obtain ⟨fr, rfl, hfr⟩ := ha.lit
  simp only [List.map_cons, List.map_nil, List.cons.injEq, and_true] at hfr
  conv => arg 2; whnf
  simp only [List.range, List.range.loop, List.map_cons, List.map_nil, hfr]
  clear hfr ha
  have HV := Lib.hid V
  have HX := Lib.hid X
  have HP := Lib.hid (pfault_any 6 0 w)
  unfold faV at HP
  simp only at HP
  have hne2 : rv ≠ rx := fun e => hne e.symm
  clear V X
  go_wp2_with (go_at_call 26; refine HP.out.mono ?_; rintro e w1 ⟨rfl, b1⟩; have V1 := HV.out.kept (Kept.of_below b1 (L := [])) (by simp); have X1 := block_below b1 HX.out; obtain ⟨c0, c1, c2, c3, c4, c5, c6, c7, c8, c9, c10, c11⟩ := fr_cells V1; have t0 := V1.thaw 0; have t1 := V1.thaw 1; have t2 := V1.thaw 2; have t3 := V1.thaw 3; have t4 := V1.thaw 4; have t5 := V1.thaw 5; have t6 := V1.thaw 6; have t7 := V1.thaw 7; have t8 := V1.thaw 8; have t9 := V1.thaw 9; have t10 := V1.thaw 10; have t11 := V1.thaw 11; obtain ⟨d0, d1, d2⟩ := fa_cells X1; have s0 := frozen_of_row _ _ 0 _ _ X1; have s1 := frozen_of_row _ _ 1 _ _ X1; have s2 := frozen_of_row _ _ 2 _ _ X1; have HB1 := Lib.hid b1; have HV1 := Lib.hid V1; have HX1 := Lib.hid X1; clear V1 X1 b1)
  obtain ⟨w2, h2, _, w3, h3, F3, X3, B3, o3⟩ := two_ret (HB1.out.mono (Nat.zero_le _)) (Nat.zero_le _) (Nat.zero_le _) HV1.out HX1.out hne noFr none 0 ⟨true, 6, 0⟩
  subst h2
  subst h3
  exact hQ.out _ _ (Fr.Is.mk rfl rfl) F3 X3 B3 (fun k h1 h2 hk => (o3 k h1 h2).trans (HB1.out.block k hk))
end Go.Proofs.YtdilgkkkhmmffaaDoor

namespace Go.Proofs.YtdilgkkkhmmffaaDoor
open Go.RowKit
open Fra Oct Arg Mem Gen Qu Go.Proofs.YtdilgkkkhmmffaaDoor.Obj
set_option linter.unusedVariables false
set_option linter.unusedSimpArgs false

set_option maxRecDepth 100000 in
set_option maxHeartbeats 4000000 in
theorem take_r12 {Q : Exit → Act → World → Prop} {rv rx n cap fb xb : Nat} {ad : Option Addr} {most N : Int} {f : FrM} {sa : Option Addr} {sc : Nat} {x : FaM} (a : Act) (w : World) (V : Fb rv noFr none 0 w) (X : w.heap[rx]? = some (Obj.cells #[.bool false, .int .i64 0, .int .i64 0] 33 (0, 0))) (hne : rx ≠ rv)
    (HFb : Fb fb f sa sc w) (hxb : w.heap[xb]? = some (Obj.cells #[.bool x.is, .int .i64 x.code, .int .i64 x.stream] 33 (0, 0))) (hxv : xb ≠ rv) (hxx : xb ≠ rx) (hfv : fb ≠ rv) (hfx : fb ≠ rx)
    (ha : Fr.Is 53 [(0, .slice ad n cap), (1, .int .i64 most), (4, .pointer (some ⟨rv, 0, none⟩)), (6, .pointer (some ⟨rx, 0, none⟩)), (7, .pointer (some ⟨fb, 0, none⟩)), (8, .int .i64 (9 + N)), (9, .pointer (some ⟨xb, 0, none⟩))] a)
    (hQ : Hid (∀ a' w', Fr.Is 53 [(4, .pointer (some ⟨rv, 0, none⟩)), (5, .int .i64 (9 + N)), (6, .pointer (some ⟨rx, 0, none⟩))] a' → Fb rv f sa sc w' → w'.heap[rx]? = some (Obj.cells #[.bool x.is, .int .i64 x.code, .int .i64 x.stream] 33 (0, 0)) → Kept [rv, rx] w w' → Q .normal a' w')) :
    (Fr.reg Tryd.f14 12).wp Tryd.prog Q a w := by
  obtain ⟨fr, rfl, hfr⟩ := ha.lit
  simp only [List.map_cons, List.map_nil, List.cons.injEq, and_true] at hfr
  conv => arg 2; whnf
  simp only [List.range, List.range.loop, List.map_cons, List.map_nil, hfr]
  clear hfr ha
  have a0 : w.cell? ⟨fb, 0, none⟩ = some (.int .i64 f.type) := HFb.cellz 0
  have a1 : w.cell? ⟨fb, 1, none⟩ = some (.int .i64 f.flags) := HFb.cellz 1
  have a2 : w.cell? ⟨fb, 2, none⟩ = some (.int .i64 f.stream) := HFb.cellz 2
  have a3 : w.cell? ⟨fb, 3, none⟩ = some (.string f.data) := HFb.cellz 3
  have a4 : w.cell? ⟨fb, 4, none⟩ = some (.int .i64 f.pad) := HFb.cellz 4
  have a5 : w.cell? ⟨fb, 5, none⟩ = some (.slice sa f.sets.length sc) := HFb.cellz 5
  have a6 : w.cell? ⟨fb, 6, none⟩ = some (.int .i64 f.code) := HFb.cellz 6
  have a7 : w.cell? ⟨fb, 7, none⟩ = some (.int .i64 f.last) := HFb.cellz 7
  have a8 : w.cell? ⟨fb, 8, none⟩ = some (.int .i64 f.inc) := HFb.cellz 8
  have a9 : w.cell? ⟨fb, 9, none⟩ = some (.int .i64 f.dep) := HFb.cellz 9
  have a10 : w.cell? ⟨fb, 10, none⟩ = some (.int .i64 f.weight) := HFb.cellz 10
  have a11 : w.cell? ⟨fb, 11, none⟩ = some (.bool f.sole) := HFb.cellz 11
  have HE0 := hxb
  have hBd : Below 0 w w.drew := (Below.refl 0 w).drew
  obtain ⟨w2, h2, _, w3, h3, F3, X3, B3, o3⟩ := two_ret (w := w) (Below.refl 0 w) (Nat.zero_le _) (Nat.zero_le _) V X hne f sa sc x
  have HE : Hid (Fb rv f sa sc w3.drew ∧ w3.drew.heap[rx]? = some (Obj.cells #[.bool x.is, .int .i64 x.code, .int .i64 x.stream] 33 (0, 0)) ∧ Below 0 w w3.drew ∧ ∀ k, k ≠ rv → k ≠ rx → w3.drew.heap[k]? = w.heap[k]?) := Lib.hid ⟨F3, X3, B3.drew, o3⟩
  subst h2
  subst h3
  obtain ⟨e0, e1, e2⟩ := fa_cells hxb
  obtain ⟨d0, d1, d2⟩ := fa_cells X
  have s0 := frozen_of_row _ _ 0 _ _ X
  have s1 := frozen_of_row _ _ 1 _ _ X
  have s2 := frozen_of_row _ _ 2 _ _ X
  obtain ⟨c0, c1, c2, c3, c4, c5, c6, c7, c8, c9, c10, c11⟩ := fr_cells V
  have t0 := V.thaw 0
  have t1 := V.thaw 1
  have t2 := V.thaw 2
  have t3 := V.thaw 3
  have t4 := V.thaw 4
  have t5 := V.thaw 5
  have t6 := V.thaw 6
  have t7 := V.thaw 7
  have t8 := V.thaw 8
  have t9 := V.thaw 9
  have t10 := V.thaw 10
  have t11 := V.thaw 11
  have hne2 : rv ≠ rx := fun e => hne e.symm
  have hxv2 : rv ≠ xb := fun e => hxv e.symm
  have hxx2 : rx ≠ xb := fun e => hxx e.symm
  have hfv2 : rv ≠ fb := fun e => hfv e.symm
  have hfx2 : rx ≠ fb := fun e => hfx e.symm
  clear F3 X3 B3 o3 V X hxb hBd HE0
  go_region_held3 (fun v => v.cell? ⟨xb, 0, none⟩ = some (.bool x.is) ∧ v.cell? ⟨xb, 1, none⟩ = some (.int .i64 x.code) ∧ v.cell? ⟨xb, 2, none⟩ = some (.int .i64 x.stream) ∧ v.cell? ⟨fb, 0, none⟩ = some (.int .i64 f.type) ∧ v.cell? ⟨fb, 1, none⟩ = some (.int .i64 f.flags) ∧ v.cell? ⟨fb, 2, none⟩ = some (.int .i64 f.stream) ∧ v.cell? ⟨fb, 3, none⟩ = some (.string f.data) ∧ v.cell? ⟨fb, 4, none⟩ = some (.int .i64 f.pad) ∧ v.cell? ⟨fb, 5, none⟩ = some (.slice sa f.sets.length sc) ∧ v.cell? ⟨fb, 6, none⟩ = some (.int .i64 f.code) ∧ v.cell? ⟨fb, 7, none⟩ = some (.int .i64 f.last) ∧ v.cell? ⟨fb, 8, none⟩ = some (.int .i64 f.inc) ∧ v.cell? ⟨fb, 9, none⟩ = some (.int .i64 f.dep) ∧ v.cell? ⟨fb, 10, none⟩ = some (.int .i64 f.weight) ∧ v.cell? ⟨fb, 11, none⟩ = some (.bool f.sole)) ((refine ⟨?_, ?_, ?_, ?_, ?_, ?_, ?_, ?_, ?_, ?_, ?_, ?_, ?_, ?_, ?_⟩ <;> go_simp)) (fail)
  all_goals exact hQ.out _ _ (Fr.Is.mk rfl rfl) HE.out.1 HE.out.2.1 ⟨HE.out.2.2.1.os, HE.out.2.2.1.tape, HE.out.2.2.1.output, HE.out.2.2.1.size, fun k _ hk => by
    simp only [List.mem_cons, List.not_mem_nil, or_false, not_or] at hk
    exact HE.out.2.2.2 k hk.1 hk.2⟩

set_option maxRecDepth 100000 in
set_option maxHeartbeats 4000000 in
theorem take_r14 {Q : Exit → Act → World → Prop} {rv rx n cap fb xb : Nat} {ad : Option Addr} {most N : Int} {f : FrM} {sa : Option Addr} {sc : Nat} {x : FaM} (a : Act) (w : World) (V : Fb rv noFr none 0 w) (X : w.heap[rx]? = some (Obj.cells #[.bool false, .int .i64 0, .int .i64 0] 33 (0, 0))) (hne : rx ≠ rv)
    (hxb : w.heap[xb]? = some (Obj.cells #[.bool x.is, .int .i64 x.code, .int .i64 x.stream] 33 (0, 0))) (hxv : xb ≠ rv) (hxx : xb ≠ rx)
    (ha : Fr.Is 53 [(0, .slice ad n cap), (1, .int .i64 most), (4, .pointer (some ⟨rv, 0, none⟩)), (6, .pointer (some ⟨rx, 0, none⟩)), (7, .pointer (some ⟨fb, 0, none⟩)), (8, .int .i64 (9 + N)), (9, .pointer (some ⟨xb, 0, none⟩))] a)
    (hQ : Hid (∀ a' w', Fr.Is 53 [(4, .pointer (some ⟨rv, 0, none⟩)), (5, .int .i64 0), (6, .pointer (some ⟨rx, 0, none⟩))] a' → Fb rv noFr none 0 w' → w'.heap[rx]? = some (Obj.cells #[.bool x.is, .int .i64 x.code, .int .i64 x.stream] 33 (0, 0)) → Kept [rv, rx] w w' → Q .normal a' w')) :
    (Fr.reg Tryd.f14 14).wp Tryd.prog Q a w := by
  obtain ⟨fr, rfl, hfr⟩ := ha.lit
  simp only [List.map_cons, List.map_nil, List.cons.injEq, and_true] at hfr
  conv => arg 2; whnf
  simp only [List.range, List.range.loop, List.map_cons, List.map_nil, hfr]
  clear hfr ha
  have HE0 := hxb
  have hBd : Below 0 w w.drew := (Below.refl 0 w).drew
  obtain ⟨w2, h2, _, w3, h3, F3, X3, B3, o3⟩ := two_ret (w := w) (Below.refl 0 w) (Nat.zero_le _) (Nat.zero_le _) V X hne noFr none 0 x
  have HE : Hid (Fb rv noFr none 0 w3.drew ∧ w3.drew.heap[rx]? = some (Obj.cells #[.bool x.is, .int .i64 x.code, .int .i64 x.stream] 33 (0, 0)) ∧ Below 0 w w3.drew ∧ ∀ k, k ≠ rv → k ≠ rx → w3.drew.heap[k]? = w.heap[k]?) := Lib.hid ⟨F3, X3, B3.drew, o3⟩
  subst h2
  subst h3
  obtain ⟨e0, e1, e2⟩ := fa_cells hxb
  obtain ⟨d0, d1, d2⟩ := fa_cells X
  have s0 := frozen_of_row _ _ 0 _ _ X
  have s1 := frozen_of_row _ _ 1 _ _ X
  have s2 := frozen_of_row _ _ 2 _ _ X
  obtain ⟨c0, c1, c2, c3, c4, c5, c6, c7, c8, c9, c10, c11⟩ := fr_cells V
  have t0 := V.thaw 0
  have t1 := V.thaw 1
  have t2 := V.thaw 2
  have t3 := V.thaw 3
  have t4 := V.thaw 4
  have t5 := V.thaw 5
  have t6 := V.thaw 6
  have t7 := V.thaw 7
  have t8 := V.thaw 8
  have t9 := V.thaw 9
  have t10 := V.thaw 10
  have t11 := V.thaw 11
  have hne2 : rv ≠ rx := fun e => hne e.symm
  have hxv2 : rv ≠ xb := fun e => hxv e.symm
  have hxx2 : rx ≠ xb := fun e => hxx e.symm
  skip
  skip
  clear F3 X3 B3 o3 V X hxb hBd HE0
  go_region_held3 (fun v => v.cell? ⟨xb, 0, none⟩ = some (.bool x.is) ∧ v.cell? ⟨xb, 1, none⟩ = some (.int .i64 x.code) ∧ v.cell? ⟨xb, 2, none⟩ = some (.int .i64 x.stream)) ((refine ⟨?_, ?_, ?_⟩ <;> go_simp)) (fail)
  all_goals exact hQ.out _ _ (Fr.Is.mk rfl rfl) HE.out.1 HE.out.2.1 ⟨HE.out.2.2.1.os, HE.out.2.2.1.tape, HE.out.2.2.1.output, HE.out.2.2.1.size, fun k _ hk => by
    simp only [List.mem_cons, List.not_mem_nil, or_false, not_or] at hk
    exact HE.out.2.2.2 k hk.1 hk.2⟩

set_option maxRecDepth 100000 in
set_option maxHeartbeats 4000000 in
theorem take_r10 {Q : Exit → Act → World → Prop} {rv rx n cap fb xb : Nat} {ad : Option Addr} {most N : Int} {f : FrM} {sa : Option Addr} {sc : Nat} {x : FaM} (a : Act) (w : World) (V : Fb rv noFr none 0 w) (X : w.heap[rx]? = some (Obj.cells #[.bool false, .int .i64 0, .int .i64 0] 33 (0, 0))) (hne : rx ≠ rv)
    (hxb : w.heap[xb]? = some (Obj.cells #[.bool x.is, .int .i64 x.code, .int .i64 x.stream] 33 (0, 0))) (hxv : xb ≠ rv) (hxx : xb ≠ rx)
    (ha : Fr.Is 53 [(0, .slice ad n cap), (1, .int .i64 most), (4, .pointer (some ⟨rv, 0, none⟩)), (6, .pointer (some ⟨rx, 0, none⟩)), (7, .pointer (some ⟨fb, 0, none⟩)), (8, .int .i64 (9 + N)), (9, .pointer (some ⟨xb, 0, none⟩))] a)
    (hQ : Hid (∀ a' w', Fr.Is 53 [(4, .pointer (some ⟨rv, 0, none⟩)), (5, .int .i64 (9 + N)), (6, .pointer (some ⟨rx, 0, none⟩))] a' → Fb rv noFr none 0 w' → w'.heap[rx]? = some (Obj.cells #[.bool x.is, .int .i64 x.code, .int .i64 x.stream] 33 (0, 0)) → Kept [rv, rx] w w' → Q .normal a' w')) :
    (Fr.reg Tryd.f14 10).wp Tryd.prog Q a w := by
  obtain ⟨fr, rfl, hfr⟩ := ha.lit
  simp only [List.map_cons, List.map_nil, List.cons.injEq, and_true] at hfr
  conv => arg 2; whnf
  simp only [List.range, List.range.loop, List.map_cons, List.map_nil, hfr]
  clear hfr ha
  have HE0 := hxb
  have hBd : Below 0 w w.drew := (Below.refl 0 w).drew
  obtain ⟨w2, h2, _, w3, h3, F3, X3, B3, o3⟩ := two_ret (w := w) (Below.refl 0 w) (Nat.zero_le _) (Nat.zero_le _) V X hne noFr none 0 x
  have HE : Hid (Fb rv noFr none 0 w3.drew ∧ w3.drew.heap[rx]? = some (Obj.cells #[.bool x.is, .int .i64 x.code, .int .i64 x.stream] 33 (0, 0)) ∧ Below 0 w w3.drew ∧ ∀ k, k ≠ rv → k ≠ rx → w3.drew.heap[k]? = w.heap[k]?) := Lib.hid ⟨F3, X3, B3.drew, o3⟩
  subst h2
  subst h3
  obtain ⟨e0, e1, e2⟩ := fa_cells hxb
  obtain ⟨d0, d1, d2⟩ := fa_cells X
  have s0 := frozen_of_row _ _ 0 _ _ X
  have s1 := frozen_of_row _ _ 1 _ _ X
  have s2 := frozen_of_row _ _ 2 _ _ X
  obtain ⟨c0, c1, c2, c3, c4, c5, c6, c7, c8, c9, c10, c11⟩ := fr_cells V
  have t0 := V.thaw 0
  have t1 := V.thaw 1
  have t2 := V.thaw 2
  have t3 := V.thaw 3
  have t4 := V.thaw 4
  have t5 := V.thaw 5
  have t6 := V.thaw 6
  have t7 := V.thaw 7
  have t8 := V.thaw 8
  have t9 := V.thaw 9
  have t10 := V.thaw 10
  have t11 := V.thaw 11
  have hne2 : rv ≠ rx := fun e => hne e.symm
  have hxv2 : rv ≠ xb := fun e => hxv e.symm
  have hxx2 : rx ≠ xb := fun e => hxx e.symm
  skip
  skip
  clear F3 X3 B3 o3 V X hxb hBd HE0
  go_region_held3 (fun v => v.cell? ⟨xb, 0, none⟩ = some (.bool x.is) ∧ v.cell? ⟨xb, 1, none⟩ = some (.int .i64 x.code) ∧ v.cell? ⟨xb, 2, none⟩ = some (.int .i64 x.stream)) ((refine ⟨?_, ?_, ?_⟩ <;> go_simp)) (fail)
  all_goals exact hQ.out _ _ (Fr.Is.mk rfl rfl) HE.out.1 HE.out.2.1 ⟨HE.out.2.2.1.os, HE.out.2.2.1.tape, HE.out.2.2.1.output, HE.out.2.2.1.size, fun k _ hk => by
    simp only [List.mem_cons, List.not_mem_nil, or_false, not_or] at hk
    exact HE.out.2.2.2 k hk.1 hk.2⟩
end Go.Proofs.YtdilgkkkhmmffaaDoor

namespace Go.Proofs.YtdilgkkkhmmffaaDoor
open Go.RowKit
open Fra Oct
set_option linter.unusedVariables false
set_option linter.unusedSimpArgs false

theorem at_head (l : List UInt8) (h : 1 ≤ l.length) : at' l 0 1 = ((l.headD 0).toNat : Int) := by
  cases l with
  | nil => simp at h
  | cons c r => simp [at', beI]
theorem sole_eq (l : List UInt8) (h : 4 ≤ l.length) : decide (2147483648 ≤ at' l 0 4) = decide (128 ≤ (l.headD 0).toNat) := by
  match l, h with
  | a :: b :: c :: d :: r, _ =>
    have ha := a.toNat_lt
    have hb := b.toNat_lt
    have hc := c.toNat_lt
    have hd := d.toNat_lt
    have he : at' (a :: b :: c :: d :: r) 0 4 = ((a.toNat * 256 + b.toNat) * 256 + c.toNat) * 256 + d.toNat := by simp [at', beI]
    have hh : (a :: b :: c :: d :: r).headD 0 = a := rfl
    rw [he, hh, Bool.eq_iff_iff, decide_eq_true_eq, decide_eq_true_eq]
    clear he hh
    omega
theorem at_next (l : List UInt8) : at' l 4 4 = at' (l.drop 4) 0 4 := by simp [at']
theorem sized_eq (t fl : Int) (n : Nat) (h0 : 0 ≤ t) (hn : n ≤ 16777215) : fitsB t fl n = sizedB t fl n := by
  by_cases hh : t = 0 ∨ t = 1 ∨ t = 2 ∨ t = 3 ∨ t = 4 ∨ t = 5 ∨ t = 6 ∨ t = 7 ∨ t = 8 ∨ t = 9
  · rcases hh with rfl | rfl | rfl | rfl | rfl | rfl | rfl | rfl | rfl | rfl
    all_goals
      rw [Bool.eq_iff_iff]
      cases h8 : hasF fl 8 <;> cases h32 : hasF fl 32 <;> cases h1 : hasF fl 1 <;> simp [fitsB, sizedB, spanT, partsM, aheadN, needN, h8, h32, h1] <;> omega
  · have : 10 ≤ t := by omega
    rw [fitsB, if_pos this, sizedB, if_neg (by omega), if_neg (by omega), if_neg (by omega), if_neg (by omega), if_neg (by omega), if_neg (by omega)]
theorem place_eq (t st : Int) : placeOk t st = !decide (((t = 0 ∨ t = 1 ∨ t = 2 ∨ t = 3 ∨ t = 9) ∧ st = 0) ∨ ((t = 4 ∨ t = 6 ∨ t = 7) ∧ st ≠ 0) ∨ t = 5) := by
  unfold placeOk
  by_cases h1 : t = 0 ∨ t = 1 ∨ t = 2 ∨ t = 3 ∨ t = 9
  · rw [if_pos h1, Bool.eq_iff_iff]; simp; omega
  · rw [if_neg h1]
    by_cases h2 : t = 4 ∨ t = 6 ∨ t = 7
    · rw [if_pos h2, Bool.eq_iff_iff]; simp; omega
    · rw [if_neg h2]
      by_cases h3 : t = 5
      · rw [if_pos h3]; simp [h3]
      · rw [if_neg h3, Bool.eq_iff_iff]; simp; omega

/-- What the program's reading of a payload gives is what the document's gives. -/
theorem fields_eq (t fl st : Int) (p : List UInt8) (h0 : 0 ≤ t) (hn : p.length ≤ 16777215) (hs : sizedB t fl p.length = true) :
    (fieldsF t fl st p).2 = !decide (((numF (partsM t fl) (hdrF t fl st, p)).2.length : Int) < (numF (partsM t fl) (hdrF t fl st, p)).1.pad) ∧
      ((fieldsF t fl st p).2 = true → (fieldsF t fl st p).1 = fullF t fl st p) := by
  have hz : ∀ (q : List UInt8), ¬ ((q.length : Int) < 0) := fun q => by omega
  have hz2 : ∀ (k : Nat), ¬ ((k : Int) < 0) := fun k => by omega
  by_cases hh : t = 0 ∨ t = 1 ∨ t = 2 ∨ t = 3 ∨ t = 4 ∨ t = 7 ∨ t = 8
  · rcases hh with rfl | rfl | rfl | rfl | rfl | rfl | rfl
    · cases h8 : hasF fl 8
      · simp [fieldsF, fullF, partsM, numF, sPad, sOrd, sLast, sCode, sInc, hdrF, noFr, withD, withS, restF, orderF, h8, hz]
      · have hl : 1 ≤ p.length := by simp [sizedB, needN, h8] at hs; omega
        have e1 := at_head p hl
        simp only [fieldsF, fullF, partsM, numF, sPad, sOrd, sLast, sCode, sInc, hdrF, noFr, withD, withS, restF, orderF, h8, e1]
        simp
        split <;> simp_all
    · cases h8 : hasF fl 8 <;> cases h32 : hasF fl 32
      · simp [fieldsF, fullF, partsM, numF, sPad, sOrd, sLast, sCode, sInc, hdrF, noFr, withD, withS, restF, orderF, h8, h32, hz]
      · have hl : 5 ≤ p.length := by simp [sizedB, needN, h8, h32] at hs; omega
        have e2 := sole_eq p (by omega)
        have e3 := at_head (p.drop 4) (by simp; omega)
        simp [fieldsF, fullF, partsM, numF, sPad, sOrd, sLast, sCode, sInc, hdrF, noFr, withD, withS, restF, orderF, h8, h32, e2, e3, hz, hz2]
      · have hl : 1 ≤ p.length := by simp [sizedB, needN, h8, h32] at hs; omega
        have e1 := at_head p hl
        simp only [fieldsF, fullF, partsM, numF, sPad, sOrd, sLast, sCode, sInc, hdrF, noFr, withD, withS, restF, orderF, h8, h32, e1]
        simp
        split <;> simp_all
      · have hl : 6 ≤ p.length := by simp [sizedB, needN, h8, h32] at hs; omega
        have e1 := at_head p (by omega)
        have e2 := sole_eq (p.drop 1) (by simp; omega)
        have e3 := at_head ((p.drop 1).drop 4) (by simp; omega)
        simp only [fieldsF, fullF, partsM, numF, sPad, sOrd, sLast, sCode, sInc, hdrF, noFr, withD, withS, restF, orderF, h8, h32, e1, e2, e3]
        simp
        split <;> simp_all
    · have hl : p.length = 5 := by simpa [sizedB] using hs
      have e2 := sole_eq p (by omega)
      have e3 := at_head (p.drop 4) (by simp; omega)
      have e4 : p.drop 5 = [] := List.drop_eq_nil_of_le (by omega)
      simp [fieldsF, fullF, partsM, numF, sPad, sOrd, sLast, sCode, sInc, hdrF, noFr, withD, withS, restF, orderF, e2, e3, e4]
      rfl
    · simp [fieldsF, fullF, partsM, numF, sPad, sOrd, sLast, sCode, sInc, hdrF, noFr, withD, withS, restF, orderF, hz]
      rfl
    · simp [fieldsF, fullF, partsM, numF, sPad, sOrd, sLast, sCode, sInc, hdrF, noFr, withD, withS, restF, orderF, hz]
      rfl
    · have e4 := at_next p
      simp [fieldsF, fullF, partsM, numF, sPad, sOrd, sLast, sCode, sInc, hdrF, noFr, withD, withS, restF, orderF, hz, hz2, e4]
    · simp [fieldsF, fullF, partsM, numF, sPad, sOrd, sLast, sCode, sInc, hdrF, noFr, withD, withS, restF, orderF, hz]
      rfl
  · have h2 : ¬ t = 0 ∧ ¬ t = 1 ∧ ¬ t = 2 ∧ ¬ t = 3 ∧ ¬ t = 4 ∧ ¬ t = 7 ∧ ¬ t = 8 := by omega
    obtain ⟨a0, a1, a2, a3, a4, a7, a8⟩ := h2
    have a01 : ¬ t ≤ 1 := by omega
    simp [fieldsF, fullF, partsM, numF, sPad, sOrd, sLast, sCode, sInc, hdrF, noFr, withD, withS, restF, orderF, a0, a1, a2, a3, a4, a7, a8, a01, hz]

theorem full_keep (t fl st : Int) (p : List UInt8) : (fullF t fl st p).type = t ∧ (fullF t fl st p).stream = st := by
  obtain ⟨h1, h2, _, _⟩ := num_keep (partsM t fl) (hdrF t fl st, p)
  exact ⟨h1, h2⟩
def takeX (b : List UInt8) (n : Nat) : FaM := fillX (at' (b.drop 3) 0 1) (at' (b.drop 4) 0 1) (at' (b.drop 5) 0 4 % 2147483648) ((b.drop 9).take n)
def takeU (b : List UInt8) (n : Nat) : FrM := fullF (at' (b.drop 3) 0 1) (at' (b.drop 4) 0 1) (at' (b.drop 5) 0 4 % 2147483648) ((b.drop 9).take n)
/-- A whole frame at the beginning of bytes: what the program tells of it is what the document tells. -/
theorem body_eq (b : List UInt8) (n : Nat) (hb : 9 + n ≤ b.length) (hn : n ≤ 16777215) :
    bodyF b n = (if (takeX b n).is then (noFr, (if (takeX b n).stream = 0 then 0 else 9 + n), takeX b n) else (takeU b n, 9 + n, noFa)) := by
  have h3 : at' (b.drop 3) 0 1 = ((b.getD 3 0).toNat : Int) := by rw [at_head _ (by simp; omega)]; simp [List.head?_drop]
  have h4 : at' (b.drop 4) 0 1 = ((b.getD 4 0).toNat : Int) := by rw [at_head _ (by simp; omega)]; simp [List.head?_drop]
  have h5 : at' (b.drop 5) 0 4 = at' b 5 4 := by simp [at']
  have hpl : ((b.drop 9).take n).length = n := by rw [List.length_take, List.length_drop]; omega
  unfold takeX takeU bodyF
  rw [h3, h4, h5]
  generalize ht : ((b.getD 3 0).toNat : Int) = t
  generalize ((b.getD 4 0).toNat : Int) = fl
  generalize at' b 5 4 % 2147483648 = st
  generalize (b.drop 9).take n = p at hpl
  have ht0 : 0 ≤ t := by omega
  have hpe := place_eq t st
  have hse := sized_eq t fl n ht0 hn
  obtain ⟨k1, k2⟩ := full_keep t fl st p
  simp only
  by_cases c1 : ((t = 0 ∨ t = 1 ∨ t = 2 ∨ t = 3 ∨ t = 9) ∧ st = 0) ∨ ((t = 4 ∨ t = 6 ∨ t = 7) ∧ st ≠ 0) ∨ t = 5
  · have hp : placeOk t st = false := by rw [hpe, decide_eq_true c1]; rfl
    have hX : fillX t fl st p = ⟨true, 1, 0⟩ := by rw [fillX, if_pos hp]
    rw [if_pos c1, hX]; rfl
  · have hp : placeOk t st = true := by rw [hpe, decide_eq_false c1]; rfl
    have hp2 : ¬ placeOk t st = false := by rw [hp]; simp
    rw [if_neg c1]
    by_cases c2 : sizedB t fl n = false
    · have hf : fitsB t fl p.length = false := by rw [hpl, hse]; exact c2
      have hX : fillX t fl st p = if t = 2 then ⟨true, 6, st⟩ else ofC 6 := by rw [fillX, if_neg hp2, if_pos hf]
      rw [if_pos c2, hX]
      by_cases t2 : t = 2
      · have hst : st ≠ 0 := fun h => c1 (.inl ⟨by omega, h⟩)
        rw [if_pos t2, if_pos t2]; simp [hst]
      · rw [if_neg t2, if_neg t2]; rfl
    · have hf : ¬ fitsB t fl p.length = false := by rw [hpl, hse]; exact c2
      have hs : sizedB t fl p.length = true := by rw [hpl]; simpa using c2
      obtain ⟨e1, e2⟩ := fields_eq t fl st p ht0 (by omega) hs
      rw [if_neg c2]
      cases hok : (fieldsF t fl st p).2 with
      | false =>
        rw [hok] at e1
        have hlt : ((numF (partsM t fl) (hdrF t fl st, p)).2.length : Int) < (numF (partsM t fl) (hdrF t fl st, p)).1.pad := by simpa using e1.symm
        have hX : fillX t fl st p = ⟨true, 1, 0⟩ := by rw [fillX, if_neg hp2, if_neg hf, if_pos hlt]
        rw [if_pos rfl, hX]; rfl
      | true =>
        rw [hok] at e1
        have hlt : ¬ ((numF (partsM t fl) (hdrF t fl st, p)).2.length : Int) < (numF (partsM t fl) (hdrF t fl st, p)).1.pad := by simpa using e1.symm
        have hX : fillX t fl st p = valF (fullF t fl st p) := by rw [fillX, if_neg hp2, if_neg hf, if_neg hlt]
        rw [if_neg (by simp), hX, e2 hok, valF, k1, k2]
        by_cases c8 : t = 8 ∧ (fullF t fl st p).inc = 0
        · rw [if_pos c8, if_pos c8]
          by_cases hst : st = 0
          · simp [hst, ofC]
          · simp [hst]
        · rw [if_neg c8, if_neg c8]
          by_cases cs : setsFault (fullF t fl st p).sets ≠ 0
          · rw [if_pos cs, if_pos cs]; rfl
          · rw [if_neg cs, if_neg cs]; rfl
end Go.Proofs.YtdilgkkkhmmffaaDoor

namespace Go.Proofs.YtdilgkkkhmmffaaDoor
open Go.RowKit
open Fra Oct Arg Mem Gen Qu Go.Proofs.YtdilgkkkhmmffaaDoor.Obj
set_option linter.unusedVariables false
set_option linter.unusedSimpArgs false

theorem take_ret {R : Ending → World → Prop} {rv rx : Nat} {z : Int} {a : Act} {w' : World} {f : FrM} {sa : Option Addr} {sc : Nat} {x : FaM}
    (ha : Fr.Is 53 [(4, .pointer (some ⟨rv, 0, none⟩)), (5, .int .i64 z), (6, .pointer (some ⟨rx, 0, none⟩))] a)
    (V : Fb rv f sa sc w') (X : w'.heap[rx]? = some (Obj.cells #[.bool x.is, .int .i64 x.code, .int .i64 x.stream] 33 (0, 0)))
    (hR : R (.returned (.tuple #[frV f sa sc, .int .i64 z, faV x])) w') : bodyPost Tryd.prog Tryd.f14 R .ret a w' := by
  obtain ⟨fr, rfl, hfr⟩ := ha.lit
  simp only [List.map_cons, List.map_nil, List.cons.injEq, and_true] at hfr
  obtain ⟨h4, h5, h6⟩ := hfr
  obtain ⟨c0, c1, c2, c3, c4, c5, c6, c7, c8, c9, c10, c11⟩ := fr_cells V
  obtain ⟨d0, d1, d2⟩ := fa_cells X
  clear V X
  refine bodyPost_ret (v := .tuple #[frV f sa sc, .int .i64 z, faV x]) ?_ rfl hR
  simp [results, Tryd.results14, go_sem, frV, frC, faV, h4, h5, h6, c0, c1, c2, c3, c4, c5, c6, c7, c8, c9, c10, c11, d0, d1, d2]

theorem fill_no (t fl st : Int) (p : List UInt8) (h : (fillX t fl st p).is = false) : fillX t fl st p = noFa := by
  unfold fillX at h ⊢
  split at h
  · cases h
  · rename_i h1
    rw [if_neg h1]
    split at h
    · split at h <;> cases h
    · rename_i h2
      rw [if_neg h2]
      split at h
      · cases h
      · rename_i h3
        rw [if_neg h3]
        unfold valF at h ⊢
        split at h
        · cases h
        · rename_i h4
          rw [if_neg h4]
          split at h
          · cases h
          · rename_i h5
            rw [if_neg h5]
theorem frok_no (w : World) : FrOk noFr none 0 w := ⟨.inl rfl, Nat.le_refl _, by unfold maxLen; omega⟩

set_option maxRecDepth 100000 in
set_option maxHeartbeats 4000000 in
theorem ptake_any (l : List UInt8) (ad : Option Addr) (cap : Nat) (most : Int) (w : World) (hr : RB w ad l) (hc : l.length ≤ cap) (hm : cap ≤ maxLen) (hs : SpIs w) :
    Calls Tryd.prog 14 #[.slice ad l.length cap, .int .i64 most] w fun e w' => ∃ sa sc, e = .returned (.tuple #[frV (takeF l most).1 sa sc, .int .i64 (takeF l most).2.1, faV (takeF l most).2.2]) ∧ FrOk (takeF l most).1 sa sc w' ∧ Below w.heap.size w w' := by
  go_enter Tryd.func14, Tryd.ntmps14
  refine wp_seq ?_
  refine take_r0 (n := l.length) (cap := cap) (ad := ad) (most := most) _ w (Fr.Is.mk rfl rfl) (Lib.hid (fun a1 g1 => ?_))
  have V1 : Fb w.heap.size noFr none 0 ((w.alloc (.cells #[.int .i64 0, .int .i64 0, .int .i64 0, .string ⟨#[]⟩, .int .i64 0, .slice none 0 0, .int .i64 0, .int .i64 0, .int .i64 0, .int .i64 0, .int .i64 0, .bool false] 24)).alloc (.cells #[.bool false, .int .i64 0, .int .i64 0] 33)) := alloc_at (heap_alloc_new w _)
  have X1 := alloc_two w (.cells #[.int .i64 0, .int .i64 0, .int .i64 0, .string ⟨#[]⟩, .int .i64 0, .slice none 0 0, .int .i64 0, .int .i64 0, .int .i64 0, .int .i64 0, .int .i64 0, .bool false] 24) (.cells #[.bool false, .int .i64 0, .int .i64 0] 33)
  have B1 : Below w.heap.size w ((w.alloc (.cells #[.int .i64 0, .int .i64 0, .int .i64 0, .string ⟨#[]⟩, .int .i64 0, .slice none 0 0, .int .i64 0, .int .i64 0, .int .i64 0, .int .i64 0, .int .i64 0, .bool false] 24)).alloc (.cells #[.bool false, .int .i64 0, .int .i64 0] 33)) := below_step (bel_al _ _) (bel_al _ _)
  generalize (w.alloc (.cells #[.int .i64 0, .int .i64 0, .int .i64 0, .string ⟨#[]⟩, .int .i64 0, .slice none 0 0, .int .i64 0, .int .i64 0, .int .i64 0, .int .i64 0, .int .i64 0, .bool false] 24)).alloc (.cells #[.bool false, .int .i64 0, .int .i64 0] 33) = w1 at V1 X1 B1 ⊢
  have hx : w.heap.size ≤ w.heap.size + 1 := by omega
  have hne : w.heap.size + 1 ≠ w.heap.size := by omega
  refine wp_seq (wp_seq ?_)
  refine take_r1 a1 w1 g1 (Lib.hid (fun a2 g2 => ?_))
  by_cases h9 : l.length < 9
  · have hT : takeF l most = (noFr, 0, noFa) := by rw [takeF, if_pos h9]
    rw [hT]
    refine wp_cond_true (g2.get (i := 12) (v := .bool true) (by simp; omega)) ?_
    refine wp_seq ?_
    refine take_r2 (w0 := w) (B := w.heap.size) (n := l.length) (cap := cap) (ad := ad) (most := most) a2 w1 B1 (Nat.le_refl _) hx V1 X1 hne (g2.less (by simp)) (Lib.hid (fun a3 w' g3 F3 X3 B3 o3 => ?_))
    refine wp_ret ?_
    try dsimp only [Exit.then]
    refine take_ret g3 F3 X3 ?_
    exact ⟨none, 0, rfl, frok_no _, B3⟩
  · refine wp_cond_false (g2.get (i := 12) (v := .bool false) (by simp; omega)) ?_
    refine wp_skip ?_
    have hN := beI_small ((l.drop 0).take 3) (by simp; omega)
    change 0 ≤ at' l 0 3 ∧ at' l 0 3 < 16777216 at hN
    have hlen : ((lenN l : Nat) : Int) = at' l 0 3 := by rw [lenN]; omega
    refine wp_seq ?_
    refine take_r3 (rv := w.heap.size) (rx := w.heap.size + 1) (n := l.length) (cap := cap) (ad := ad) (most := most) (f := hdrF (at' (l.drop 3) 0 1) (at' (l.drop 4) 0 1) (at' (l.drop 5) 0 4 % 2147483648)) (N := at' l 0 3) a2 w1 (Lib.hid (phd_any (W := w) l ad cap w1 B1 hr hc hm (by omega))) (g2.less (by simp)) (Lib.hid (fun a3 w2 g3 b2 => ?_))
    have F3 : Fb w2.heap.size (hdrF (at' (l.drop 3) 0 1) (at' (l.drop 4) 0 1) (at' (l.drop 5) 0 4 % 2147483648)) none 0 (w2.alloc (.cells (frC (hdrF (at' (l.drop 3) 0 1) (at' (l.drop 4) 0 1) (at' (l.drop 5) 0 4 % 2147483648)) none 0) 24)) := heap_alloc_new w2 _
    have B23 := bel_al w2 (.cells (frC (hdrF (at' (l.drop 3) 0 1) (at' (l.drop 4) 0 1) (at' (l.drop 5) 0 4 % 2147483648)) none 0) 24)
    generalize w2.alloc (.cells (frC (hdrF (at' (l.drop 3) 0 1) (at' (l.drop 4) 0 1) (at' (l.drop 5) 0 4 % 2147483648)) none 0) 24) = w3 at F3 B23 ⊢
    have B3 : Below w.heap.size w w3 := below_step (below_step B1 b2) B23
    have B13 : Below w1.heap.size w1 w3 := below_step b2 B23
    have V3 : Fb w.heap.size noFr none 0 w3 := block_below B13 V1
    have X3 := block_below B13 X1
    have hsz : w.heap.size + 1 < w2.heap.size := (Array.getElem?_eq_some_iff.1 (block_below b2 X1)).1
    generalize w2.heap.size = fb at F3 g3 hsz
    refine wp_seq (wp_seq ?_)
    refine take_r4 a3 w3 g3 (Lib.hid (fun a4 g4 => ?_))
    by_cases hmo : most < at' l 0 3
    · have hT : takeF l most = (noFr, 0, ofC 6) := by rw [takeF, if_neg h9, if_pos (by omega)]
      rw [hT]
      refine wp_cond_true (g4.get (i := 22) (v := .bool true) (by simp; omega)) ?_
      refine wp_seq ?_
      refine take_r5 (n := l.length) (cap := cap) (ad := ad) (most := most) a4 w3 V3 X3 hne (g4.less (by simp)) (Lib.hid (fun a5 w' g5 F5 X5 B5 o5 => ?_))
      refine wp_ret ?_
      try dsimp only [Exit.then]
      refine take_ret (x := ofC 6) g5 F5 X5 ?_
      exact ⟨none, 0, rfl, frok_no _, ⟨B5.os.trans B3.os, B5.tape.trans B3.tape, B5.output.trans B3.output, Nat.le_trans B3.size B5.size, fun k hk => (o5 k (by omega) (by omega) (Nat.lt_of_lt_of_le hk B3.size)).trans (B3.block k hk)⟩⟩
    · refine wp_cond_false (g4.get (i := 22) (v := .bool false) (by simp; omega)) ?_
      refine wp_skip ?_
      refine wp_seq ?_
      refine take_r6 (n := l.length) (cap := cap) (ad := ad) (most := most) (rv := w.heap.size) (rx := w.heap.size + 1) (fb := fb) a4 w3 hN.1 (by omega) (g4.less (by simp)) (Lib.hid (fun a5 g5 => ?_))
      refine wp_seq (wp_seq ?_)
      refine take_r7 a5 w3 g5 (Lib.hid (fun a6 g6 => ?_))
      by_cases hsh : l.length < 9 + lenN l
      · have hT : takeF l most = (noFr, 0, noFa) := by rw [takeF, if_neg h9, if_neg (by omega), if_pos hsh]
        rw [hT]
        refine wp_cond_true (g6.get (i := 30) (v := .bool true) (by simp; omega)) ?_
        refine wp_seq ?_
        refine take_r8 (w0 := w) (B := w.heap.size) (n := l.length) (cap := cap) (ad := ad) (most := most) a6 w3 B3 (Nat.le_refl _) hx V3 X3 hne (g6.less (by simp)) (Lib.hid (fun a7 w' g7 F7 X7 B7 o7 => ?_))
        refine wp_ret ?_
        try dsimp only [Exit.then]
        refine take_ret g7 F7 X7 ?_
        exact ⟨none, 0, rfl, frok_no _, B7⟩
      · refine wp_cond_false (g6.get (i := 30) (v := .bool false) (by simp; omega)) ?_
        refine wp_skip ?_
        have hbe := body_eq l (lenN l) (by omega) (by omega)
        have hT : takeF l most = bodyF l (lenN l) := by rw [takeF, if_neg h9, if_neg (by omega), if_neg hsh]
        rw [hT, hbe]
        rw [← hlen] at g6
        have hpl : ((l.drop 9).take (lenN l)).length = lenN l := by rw [List.length_take, List.length_drop]; omega
        have ht := at_one (l.drop 3) (by simp; omega)
        have hfl := at_one (l.drop 4) (by simp; omega)
        have hfill := pfill_any (W := w) (fb := fb) (at' (l.drop 3) 0 1) (at' (l.drop 4) 0 1) (at' (l.drop 5) 0 4 % 2147483648) ((l.drop 9).take (lenN l)) (Sl.adOf ad cap 9 1) (cap - 9) w3 F3 B3 (by omega) (rb_take (Sl.rb_from hr 9 hc) _) (by omega) (by omega) hs ht.1 hfl.1 hfl.2 (by omega)
        rw [hpl] at hfill
        change Calls Tryd.prog 27 #[.pointer (some ⟨fb, 0, none⟩), .slice (Sl.adOf ad cap 9 1) (lenN l) (cap - 9)] w3 (fun e w' => ∃ sa sc, e = .returned (faV (takeX l (lenN l))) ∧ Kept [fb] w3 w' ∧ ((takeX l (lenN l)).is = false → Fb fb (takeU l (lenN l)) sa sc w' ∧ FrOk (takeU l (lenN l)) sa sc w' ∧ ∀ b o s, sa = some ⟨b, o, s⟩ → w3.heap.size ≤ b)) at hfill
        have hxn : (takeX l (lenN l)).is = false → takeX l (lenN l) = noFa := fun h => fill_no _ _ _ _ h
        generalize takeX l (lenN l) = x at hfill hxn ⊢
        generalize takeU l (lenN l) = u at hfill ⊢
        refine wp_seq ?_
        refine take_r9 (n := l.length) (cap := cap) (ad := ad) (most := most) (rv := w.heap.size) (rx := w.heap.size + 1) (fb := fb) (k := lenN l) (x := x) (R := fun w' => ∃ sa sc, Kept [fb] w3 w' ∧ (x.is = false → Fb fb u sa sc w' ∧ FrOk u sa sc w' ∧ ∀ b o s, sa = some ⟨b, o, s⟩ → w3.heap.size ≤ b)) a6 w3 (by omega) hc (by unfold maxLen at hm; omega) (Lib.hid (hfill.mono (fun e w' h => by obtain ⟨sa, sc, h1, h2, h3⟩ := h; exact ⟨h1, sa, sc, h2, h3⟩))) (g6.less (by simp)) (Lib.hid (fun a7 w4 g7 r4 => ?_))
        obtain ⟨sa, sc, k4, hok⟩ := r4
        have V4 := V3.kept k4 (by simp; omega)
        have X4 := k4.at X3 (by simp; omega)
        have XB := heap_alloc_new w4 (.cells #[.bool x.is, .int .i64 x.code, .int .i64 x.stream] 33)
        have B45 := bel_al w4 (.cells #[.bool x.is, .int .i64 x.code, .int .i64 x.stream] 33)
        have hs4 : w.heap.size + 1 < w4.heap.size := (Array.getElem?_eq_some_iff.1 X4).1
        have hf4 : fb < w4.heap.size := Nat.lt_of_lt_of_le (Array.getElem?_eq_some_iff.1 F3).1 k4.size
        have B4 : Below w.heap.size w w4 := Kept.below B3 k4 (by simp; omega) B3.size
        generalize w4.alloc (.cells #[.bool x.is, .int .i64 x.code, .int .i64 x.stream] 33) = w5 at XB B45 ⊢
        have V5 : Fb w.heap.size noFr none 0 w5 := block_below B45 V4
        have X5 := block_below B45 X4
        have B5 : Below w.heap.size w w5 := B4.trans (B45.mono B4.size)
        generalize w4.heap.size = xb at XB g7 hs4 hf4
        have fin : ∀ w', Kept [w.heap.size, w.heap.size + 1] w5 w' → Below w.heap.size w w' := fun w' hk => Kept.below B5 hk (by simp) B5.size
        refine wp_block ?_
        refine wp_seq ?_
        refine take_r11 (x := x) a7 w5 XB g7 (Lib.hid (fun a8 g8 => ?_))
        cases hxi : x.is with
        | false =>
          obtain ⟨F4, O4, hbk⟩ := hok hxi
          have F5 : Fb fb u sa sc w5 := block_below B45 F4
          have O5 := O4.below B45
          rw [if_neg (by simp)]
          refine wp_cond_true (g8.get (i := 40) (v := .bool true) (by simp [hxi])) ?_
          refine wp_seq ?_
          refine take_r12 (N := (lenN l : Int)) (n := l.length) (cap := cap) (ad := ad) (most := most) a8 w5 V5 X5 hne F5 XB (by omega) (by omega) (by omega) (by omega) (g8.less (by simp)) (Lib.hid (fun a9 w' g9 F9 X9 k9 => ?_))
          refine wp_ret ?_
          try dsimp only [Exit.then, Exit.inBlock]
          refine take_ret g9 F9 X9 ?_
          refine ⟨sa, sc, by rw [hxn hxi]; simp, ?_, fin _ k9⟩
          have hs3 : w.heap.size + 1 < w3.heap.size := (Array.getElem?_eq_some_iff.1 X3).1
          exact ⟨row_kept O5.row k9 (fun b o s e => by have := hbk b o s e; simp; omega), O5.len, O5.cap⟩
        | true =>
          rw [if_pos rfl]
          refine wp_cond_false (g8.get (i := 40) (v := .bool false) (by simp [hxi])) ?_
          refine wp_seq ?_
          refine take_r13 (N := (lenN l : Int)) (n := l.length) (cap := cap) (ad := ad) (most := most) (rv := w.heap.size) (rx := w.heap.size + 1) (fb := fb) (xb := xb) (x := x) a8 w5 XB (g8.less (by simp)) (Lib.hid (fun a9 g9 => ?_))
          by_cases hst : x.stream = 0
          · rw [if_pos hst]
            refine wp_cond_true (g9.get (i := 47) (v := .bool true) (by simp [hst])) ?_
            refine wp_seq ?_
            refine take_r14 (f := noFr) (sa := none) (sc := 0) (N := (lenN l : Int)) (n := l.length) (cap := cap) (ad := ad) (most := most) (fb := fb) a9 w5 V5 X5 hne XB (by omega) (by omega) (g9.less (by simp)) (Lib.hid (fun a10 w' g10 F9 X9 k9 => ?_))
            refine wp_ret ?_
            try dsimp only [Exit.then, Exit.inBlock]
            refine take_ret g10 F9 X9 ?_
            exact ⟨none, 0, rfl, frok_no _, fin _ k9⟩
          · rw [if_neg hst]
            refine wp_cond_false (g9.get (i := 47) (v := .bool false) (by simp [hst])) ?_
            refine wp_seq ?_
            refine take_r10 (f := noFr) (sa := none) (sc := 0) (N := (lenN l : Int)) (n := l.length) (cap := cap) (ad := ad) (most := most) (fb := fb) a9 w5 V5 X5 hne XB (by omega) (by omega) (g9.less (by simp)) (Lib.hid (fun a10 w' g10 F9 X9 k9 => ?_))
            refine wp_ret ?_
            try dsimp only [Exit.then, Exit.inBlock]
            refine take_ret g10 F9 X9 ?_
            exact ⟨none, 0, by simp, frok_no _, fin _ k9⟩
end Go.Proofs.YtdilgkkkhmmffaaDoor
