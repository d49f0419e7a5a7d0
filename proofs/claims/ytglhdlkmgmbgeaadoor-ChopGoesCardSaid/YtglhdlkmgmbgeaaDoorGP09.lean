/- Layer 7, the program: the next item behind the preface. Layer 7, the program: the item is built, and stored. -/
import Derived.Test.YtglhdlkmgmbgeaaDoorGP08
import Derived.Deep.RegionHeld
set_option linter.unusedVariables false
set_option linter.unusedSimpArgs false
namespace Go.Proofs.YtglhdlkmgmbgeaaDoor
open Go.RowKit
open Cho Fra Oct Arg Mem Gen Wr Qu Pt Go.Proofs.YtglhdlkmgmbgeaaDoor.Obj
set_option linter.unusedVariables false
set_option linter.unusedSimpArgs false

/-- The cells of an item. -/
def itC (f : FrM) (sa : Option Addr) (sc : Nat) (x : FaM) : Array Value := #[.int .i64 f.type, .int .i64 f.flags, .int .i64 f.stream, .string f.data, .int .i64 f.pad, .slice sa f.sets.length sc, .int .i64 f.code, .int .i64 f.last, .int .i64 f.inc, .int .i64 f.dep, .int .i64 f.weight, .bool f.sole, .bool x.is, .int .i64 x.code, .int .i64 x.stream]
theorem itC_one (f : FrM) (sa : Option Addr) (sc : Nat) (x : FaM) : (itC f sa sc x).all (·.oneCell') = true := by simp [itC, Value.oneCell']
abbrev itZ : Array Value := itC noFr none 0 noFa

set_option maxRecDepth 100000 in
set_option maxHeartbeats 1000000 in
theorem nx_r0 {Q : Exit → Act → World → Prop} {fb : Nat} (a : Act) (w : World)
    (ha : Fr.Is 55 [(0, .pointer (some ⟨fb, 0, none⟩))] a)
    (hQ : Hid (∀ a', Fr.Is 55 [(0, .pointer (some ⟨fb, 0, none⟩)), (2, .pointer (some ⟨w.heap.size, 0, none⟩)), (3, .bool false)] a' → Q .normal a' (w.alloc (.cells itZ 42)))) :
    (Fr.reg Tryd.f28 0).wp Tryd.prog Q a w := by
  obtain ⟨fr, rfl, hfr⟩ := ha.lit
  simp only [List.map_cons, List.map_nil, List.cons.injEq, and_true] at hfr
  conv => arg 2; whnf
  simp only [List.range, List.range.loop, List.map_cons, List.map_nil, hfr]
  clear hfr ha
  go_wp2_with fail
  exact hQ.out _ (Fr.Is.mk rfl rfl)

set_option maxRecDepth 100000 in
set_option maxHeartbeats 1000000 in
theorem nx_r1 {Q : Exit → Act → World → Prop} {fb ib : Nat} {aw : Bool} (a : Act) (w : World) (c1 : w.cell? ⟨fb, 1, none⟩ = some (.bool aw))
    (ha : Fr.Is 55 [(0, .pointer (some ⟨fb, 0, none⟩)), (2, .pointer (some ⟨ib, 0, none⟩))] a)
    (hQ : Hid (∀ a', Fr.Is 55 [(0, .pointer (some ⟨fb, 0, none⟩)), (2, .pointer (some ⟨ib, 0, none⟩)), (10, .bool aw)] a' → Q .normal a' w)) :
    (Fr.reg Tryd.f28 1).wp Tryd.prog Q a w := by
  obtain ⟨fr, rfl, hfr⟩ := ha.lit
  simp only [List.map_cons, List.map_nil, List.cons.injEq, and_true] at hfr
  conv => arg 2; whnf
  simp only [List.range, List.range.loop, List.map_cons, List.map_nil, hfr]
  clear hfr ha
  go_wp2_with fail
  exact hQ.out _ (Fr.Is.mk rfl rfl)

set_option maxRecDepth 100000 in
set_option maxHeartbeats 1000000 in
/-- 'f.left = f.left[size:]'. -/
theorem nx_r4 {Q : Exit → Act → World → Prop} {fb ib gb xb n lc k : Nat} {la : Option Addr} (a : Act) (w : World) (c2 : w.cell? ⟨fb, 2, none⟩ = some (.slice la n lc)) (z2 : w.frozen? ⟨fb, 2, none⟩ = false) (hk : k ≤ n) (hn : n ≤ lc)
    (ha : Fr.Is 55 [(0, .pointer (some ⟨fb, 0, none⟩)), (2, .pointer (some ⟨ib, 0, none⟩)), (4, .pointer (some ⟨gb, 0, none⟩)), (5, .int .i64 k), (6, .pointer (some ⟨xb, 0, none⟩))] a)
    (hQ : Hid (∀ a', Fr.Is 55 [(0, .pointer (some ⟨fb, 0, none⟩)), (2, .pointer (some ⟨ib, 0, none⟩)), (4, .pointer (some ⟨gb, 0, none⟩)), (5, .int .i64 k), (6, .pointer (some ⟨xb, 0, none⟩))] a' → Q .normal a' (w.setCell ⟨fb, 2, none⟩ (.slice (Sl.adOf la lc k 1) (n - k) (lc - k))))) :
    (Fr.reg Tryd.f28 4).wp Tryd.prog Q a w := by
  obtain ⟨fr, rfl, hfr⟩ := ha.lit
  simp only [List.map_cons, List.map_nil, List.cons.injEq, and_true] at hfr
  conv => arg 2; whnf
  simp only [List.range, List.range.loop, List.map_cons, List.map_nil, hfr]
  clear hfr ha
  have hsl := fun (v : World) => Sl.run_from (P := Tryd.prog) (t := 24) Tryd.underlying24 (size := 1) size_by la n lc k hk hn v
  generalize Sl.adOf la lc k 1 = ad2 at hsl hQ
  generalize n - k = n2 at hsl hQ
  generalize lc - k = c2' at hsl hQ
  go_wp2_with fail
  exact hQ.out _ (Fr.Is.mk rfl rfl)

set_option maxRecDepth 100000 in
set_option maxHeartbeats 1000000 in
theorem nx_r5 {Q : Exit → Act → World → Prop} {fb ib gb xb k : Nat} {x : FaM} (a : Act) (w : World) (hx : w.heap[xb]? = some (.cells (faC x) 37 (0, 0)))
    (ha : Fr.Is 55 [(0, .pointer (some ⟨fb, 0, none⟩)), (2, .pointer (some ⟨ib, 0, none⟩)), (4, .pointer (some ⟨gb, 0, none⟩)), (5, .int .i64 k), (6, .pointer (some ⟨xb, 0, none⟩))] a)
    (hQ : Hid (∀ a', Fr.Is 55 [(0, .pointer (some ⟨fb, 0, none⟩)), (2, .pointer (some ⟨ib, 0, none⟩)), (4, .pointer (some ⟨gb, 0, none⟩)), (5, .int .i64 k), (6, .pointer (some ⟨xb, 0, none⟩)), (43, .bool (x.is && decide (x.stream = 0)))] a' → Q .normal a' w)) :
    (Fr.reg Tryd.f28 5).wp Tryd.prog Q a w := by
  obtain ⟨fr, rfl, hfr⟩ := ha.lit
  simp only [List.map_cons, List.map_nil, List.cons.injEq, and_true] at hfr
  conv => arg 2; whnf
  simp only [List.range, List.range.loop, List.map_cons, List.map_nil, hfr]
  clear hfr ha
  have x0 : w.cell? ⟨xb, 0, none⟩ = some (.bool x.is) := cell_at hx 0
  have x2 : w.cell? ⟨xb, 2, none⟩ = some (.int .i64 x.stream) := cell_at hx 2
  clear hx
  obtain ⟨xi, xc, xs⟩ := x
  simp only at x0 x2 hQ
  cases xi with
  | false =>
    go_wp2_with fail
    exact hQ.out _ (Fr.Is.mk rfl rfl)
  | true =>
    go_wp2_with fail
    exact hQ.out _ (Fr.Is.mk rfl (by simp; rw [Bool.eq_iff_iff]; simp))

set_option maxRecDepth 100000 in
set_option maxHeartbeats 1000000 in
theorem nx_r6 {Q : Exit → Act → World → Prop} {fb ib gb xb k : Nat} {R : World → Prop} (a : Act) (w : World) (HE : Hid (Calls Tryd.prog 35 #[.pointer (some ⟨fb, 0, none⟩)] w fun e w' => (∃ v, e = .returned v) ∧ R w'))
    (ha : Fr.Is 55 [(0, .pointer (some ⟨fb, 0, none⟩)), (2, .pointer (some ⟨ib, 0, none⟩)), (4, .pointer (some ⟨gb, 0, none⟩)), (5, .int .i64 k), (6, .pointer (some ⟨xb, 0, none⟩))] a)
    (hQ : Hid (∀ a' w', Fr.Is 55 [(0, .pointer (some ⟨fb, 0, none⟩)), (2, .pointer (some ⟨ib, 0, none⟩)), (4, .pointer (some ⟨gb, 0, none⟩)), (5, .int .i64 k), (6, .pointer (some ⟨xb, 0, none⟩))] a' → R w' → Q .normal a' w')) :
    (Fr.reg Tryd.f28 6).wp Tryd.prog Q a w := by
  obtain ⟨fr, rfl, hfr⟩ := ha.lit
  simp only [List.map_cons, List.map_nil, List.cons.injEq, and_true] at hfr
  conv => arg 2; whnf
  simp only [List.range, List.range.loop, List.map_cons, List.map_nil, hfr]
  clear hfr ha
  go_wp2_with (go_at_call 35; refine HE.out.mono ?_; rintro e w' ⟨⟨v, rfl⟩, hR⟩)
  exact hQ.out _ w' (Fr.Is.mk rfl rfl) hR
end Go.Proofs.YtglhdlkmgmbgeaaDoor

namespace Go.Proofs.YtglhdlkmgmbgeaaDoor
open Go.RowKit
open Cho Fra Oct Arg Mem Gen Wr Qu Pt Go.Proofs.YtglhdlkmgmbgeaaDoor.Obj
set_option linter.unusedVariables false
set_option linter.unusedSimpArgs false

set_option maxRecDepth 100000 in
set_option maxHeartbeats 1000000 in
theorem nx7y_p5 {Q : Exit → Act → World → Prop} {fb ib gb xb : Nat} {f : FrM} {sa : Option Addr} {sc : Nat} {x : FaM} {w : World} {N : Int} (hN : 0 < N) (hgi : gb ≠ ib) (hxi : xb ≠ ib)
    (hQ : Hid (∀ a' w', Fr.Is 55 [(2, .pointer (some ⟨ib, 0, none⟩)), (3, .bool true)] a' → w'.heap[ib]? = some (.cells (itC f sa sc x) 42 (0, 0)) → Kept [ib] w w' → Q .normal a' w'))
    (a : Act) (v : World) (hg : v.heap[gb]? = some (.cells (frC f sa sc) 40 (0, 0))) (hx : v.heap[xb]? = some (.cells (faC x) 37 (0, 0))) (hi : v.heap[ib]? = some (.cells itZ 42 (0, 0))) (hk : Kept [ib] w v) (ha : Fr.Is 55 [(0, .pointer (some ⟨fb, 0, none⟩)), (2, .pointer (some ⟨ib, 0, none⟩)), (4, .pointer (some ⟨gb, 0, none⟩)), (5, .int .i64 N), (6, .pointer (some ⟨xb, 0, none⟩)), (46, .agg #[.int .i64 f.type, .int .i64 f.flags, .int .i64 f.stream, .string f.data, .int .i64 f.pad, .slice sa f.sets.length sc, .int .i64 f.code, .int .i64 f.last, .int .i64 f.inc, .int .i64 f.dep, .int .i64 f.weight, .bool f.sole]), (47, .agg #[.bool x.is, .int .i64 x.code, .int .i64 x.stream]), (48, .agg #[.int .i64 f.type, .int .i64 f.flags, .int .i64 f.stream, .string f.data, .int .i64 f.pad, .slice sa f.sets.length sc, .int .i64 f.code, .int .i64 f.last, .int .i64 f.inc, .int .i64 f.dep, .int .i64 f.weight, .bool f.sole, .bool x.is, .int .i64 x.code, .int .i64 x.stream]), (50, .bool true), (51, .bool true), (54, .bool true)] a) :
    wpAnyH Tryd.prog .any (opsOf (Fr.reg Tryd.f28 7)) (NoPanic Q) (fun w' => w'.cell? ⟨gb, 0, none⟩ = some (.int .i64 f.type) ∧ w'.cell? ⟨gb, 1, none⟩ = some (.int .i64 f.flags) ∧ w'.cell? ⟨gb, 2, none⟩ = some (.int .i64 f.stream) ∧ w'.cell? ⟨gb, 3, none⟩ = some (.string f.data) ∧ w'.cell? ⟨gb, 4, none⟩ = some (.int .i64 f.pad) ∧ w'.cell? ⟨gb, 5, none⟩ = some (.slice sa f.sets.length sc) ∧ w'.cell? ⟨gb, 6, none⟩ = some (.int .i64 f.code) ∧ w'.cell? ⟨gb, 7, none⟩ = some (.int .i64 f.last) ∧ w'.cell? ⟨gb, 8, none⟩ = some (.int .i64 f.inc) ∧ w'.cell? ⟨gb, 9, none⟩ = some (.int .i64 f.dep) ∧ w'.cell? ⟨gb, 10, none⟩ = some (.int .i64 f.weight) ∧ w'.cell? ⟨gb, 11, none⟩ = some (.bool f.sole) ∧ w'.cell? ⟨xb, 0, none⟩ = some (.bool x.is) ∧ w'.cell? ⟨xb, 1, none⟩ = some (.int .i64 x.code) ∧ w'.cell? ⟨xb, 2, none⟩ = some (.int .i64 x.stream)) 2 #[true, true, true, true, true, true, true, true, true, false, false] a v := by
  obtain ⟨fr, rfl, hfr⟩ := ha.lit
  simp only [List.map_cons, List.map_nil, List.cons.injEq, and_true] at hfr
  conv => arg 3; whnf
  simp only [List.range, List.range.loop, List.map_cons, List.map_nil, hfr]
  clear hfr ha
  have hHeld : (fun w' => w'.cell? ⟨gb, 0, none⟩ = some (.int .i64 f.type) ∧ w'.cell? ⟨gb, 1, none⟩ = some (.int .i64 f.flags) ∧ w'.cell? ⟨gb, 2, none⟩ = some (.int .i64 f.stream) ∧ w'.cell? ⟨gb, 3, none⟩ = some (.string f.data) ∧ w'.cell? ⟨gb, 4, none⟩ = some (.int .i64 f.pad) ∧ w'.cell? ⟨gb, 5, none⟩ = some (.slice sa f.sets.length sc) ∧ w'.cell? ⟨gb, 6, none⟩ = some (.int .i64 f.code) ∧ w'.cell? ⟨gb, 7, none⟩ = some (.int .i64 f.last) ∧ w'.cell? ⟨gb, 8, none⟩ = some (.int .i64 f.inc) ∧ w'.cell? ⟨gb, 9, none⟩ = some (.int .i64 f.dep) ∧ w'.cell? ⟨gb, 10, none⟩ = some (.int .i64 f.weight) ∧ w'.cell? ⟨gb, 11, none⟩ = some (.bool f.sole) ∧ w'.cell? ⟨xb, 0, none⟩ = some (.bool x.is) ∧ w'.cell? ⟨xb, 1, none⟩ = some (.int .i64 x.code) ∧ w'.cell? ⟨xb, 2, none⟩ = some (.int .i64 x.stream)) v := ⟨cell_at hg 0, cell_at hg 1, cell_at hg 2, cell_at hg 3, cell_at hg 4, cell_at hg 5, cell_at hg 6, cell_at hg 7, cell_at hg 8, cell_at hg 9, cell_at hg 10, cell_at hg 11, cell_at hx 0, cell_at hx 1, cell_at hx 2⟩
  dsimp only at hHeld
  refine wpAnyH_ready (rs := [9]) (by kernel_rfl) (by simp) ?_
  refine AllReadyH.cons (o := _) rfl (fun K' hK' => ?_) AllReadyH.nil
  refine step_put rfl 42 (.tmp 2) (.tmp 48) rfl ib (itC f sa sc x) _ 42 rfl rfl hi rfl size_item (itC_one _ _ _ _) ?_
  intro w2 hi2 hk2
  have hg2 := hk2.out.at hg (by simpa using hgi)
  have hx2 := hk2.out.at hx (by simpa using hxi)
  have hk3 := hk.trans hk2.out (fun i h => .inl h)
  refine hK'.out _ _ ⟨cell_at hg2 0, cell_at hg2 1, cell_at hg2 2, cell_at hg2 3, cell_at hg2 4, cell_at hg2 5, cell_at hg2 6, cell_at hg2 7, cell_at hg2 8, cell_at hg2 9, cell_at hg2 10, cell_at hg2 11, cell_at hx2 0, cell_at hx2 1, cell_at hx2 2⟩ (fun hHeld => ?_)
  clear hK' K'
  try simp only [Act.put, List.setIfInBounds_toArray, List.set_cons_zero, List.set_cons_succ]
  refine wpAnyH_take (i := 10) (oi := _) (v := ?_) rfl (by kernel_rfl) (by kernel_rfl) (by kernel_rfl) (fun _ _ _ h => h) (Or.inl ⟨by rfl, ?_⟩) (by assumption) ?_
  rotate_left 1
  · intro w hSw
    try dsimp only at hSw
    first | (go_simp; done) | (go_simp; with_reducible rfl)
  try simp only [Act.put, List.setIfInBounds_toArray, List.set_cons_zero, List.set_cons_succ]
  refine wpAnyH_done (by kernel_rfl) ?_ _
  exact hQ.out _ w2 (Fr.Is.mk rfl rfl) hi2.out hk3

set_option maxRecDepth 100000 in
set_option maxHeartbeats 1000000 in
theorem nx7y_p4 {Q : Exit → Act → World → Prop} {fb ib gb xb : Nat} {f : FrM} {sa : Option Addr} {sc : Nat} {x : FaM} {w : World} {N : Int} (hN : 0 < N) (hgi : gb ≠ ib) (hxi : xb ≠ ib)
    (hQ : Hid (∀ a' w', Fr.Is 55 [(2, .pointer (some ⟨ib, 0, none⟩)), (3, .bool true)] a' → w'.heap[ib]? = some (.cells (itC f sa sc x) 42 (0, 0)) → Kept [ib] w w' → Q .normal a' w'))
    (a : Act) (v : World) (hg : v.heap[gb]? = some (.cells (frC f sa sc) 40 (0, 0))) (hx : v.heap[xb]? = some (.cells (faC x) 37 (0, 0))) (hi : v.heap[ib]? = some (.cells itZ 42 (0, 0))) (hk : Kept [ib] w v) (ha : Fr.Is 55 [(0, .pointer (some ⟨fb, 0, none⟩)), (2, .pointer (some ⟨ib, 0, none⟩)), (4, .pointer (some ⟨gb, 0, none⟩)), (5, .int .i64 N), (6, .pointer (some ⟨xb, 0, none⟩)), (46, .agg #[.int .i64 f.type, .int .i64 f.flags, .int .i64 f.stream, .string f.data, .int .i64 f.pad, .slice sa f.sets.length sc, .int .i64 f.code, .int .i64 f.last, .int .i64 f.inc, .int .i64 f.dep, .int .i64 f.weight, .bool f.sole]), (47, .agg #[.bool x.is, .int .i64 x.code, .int .i64 x.stream]), (50, .bool true), (51, .bool true), (54, .bool true)] a) :
    wpAnyH Tryd.prog .any (opsOf (Fr.reg Tryd.f28 7)) (NoPanic Q) (fun w' => w'.cell? ⟨gb, 0, none⟩ = some (.int .i64 f.type) ∧ w'.cell? ⟨gb, 1, none⟩ = some (.int .i64 f.flags) ∧ w'.cell? ⟨gb, 2, none⟩ = some (.int .i64 f.stream) ∧ w'.cell? ⟨gb, 3, none⟩ = some (.string f.data) ∧ w'.cell? ⟨gb, 4, none⟩ = some (.int .i64 f.pad) ∧ w'.cell? ⟨gb, 5, none⟩ = some (.slice sa f.sets.length sc) ∧ w'.cell? ⟨gb, 6, none⟩ = some (.int .i64 f.code) ∧ w'.cell? ⟨gb, 7, none⟩ = some (.int .i64 f.last) ∧ w'.cell? ⟨gb, 8, none⟩ = some (.int .i64 f.inc) ∧ w'.cell? ⟨gb, 9, none⟩ = some (.int .i64 f.dep) ∧ w'.cell? ⟨gb, 10, none⟩ = some (.int .i64 f.weight) ∧ w'.cell? ⟨gb, 11, none⟩ = some (.bool f.sole) ∧ w'.cell? ⟨xb, 0, none⟩ = some (.bool x.is) ∧ w'.cell? ⟨xb, 1, none⟩ = some (.int .i64 x.code) ∧ w'.cell? ⟨xb, 2, none⟩ = some (.int .i64 x.stream)) 3 #[true, true, false, true, true, true, true, true, true, false, false] a v := by
  obtain ⟨fr, rfl, hfr⟩ := ha.lit
  simp only [List.map_cons, List.map_nil, List.cons.injEq, and_true] at hfr
  conv => arg 3; whnf
  simp only [List.range, List.range.loop, List.map_cons, List.map_nil, hfr]
  clear hfr ha
  have hHeld : (fun w' => w'.cell? ⟨gb, 0, none⟩ = some (.int .i64 f.type) ∧ w'.cell? ⟨gb, 1, none⟩ = some (.int .i64 f.flags) ∧ w'.cell? ⟨gb, 2, none⟩ = some (.int .i64 f.stream) ∧ w'.cell? ⟨gb, 3, none⟩ = some (.string f.data) ∧ w'.cell? ⟨gb, 4, none⟩ = some (.int .i64 f.pad) ∧ w'.cell? ⟨gb, 5, none⟩ = some (.slice sa f.sets.length sc) ∧ w'.cell? ⟨gb, 6, none⟩ = some (.int .i64 f.code) ∧ w'.cell? ⟨gb, 7, none⟩ = some (.int .i64 f.last) ∧ w'.cell? ⟨gb, 8, none⟩ = some (.int .i64 f.inc) ∧ w'.cell? ⟨gb, 9, none⟩ = some (.int .i64 f.dep) ∧ w'.cell? ⟨gb, 10, none⟩ = some (.int .i64 f.weight) ∧ w'.cell? ⟨gb, 11, none⟩ = some (.bool f.sole) ∧ w'.cell? ⟨xb, 0, none⟩ = some (.bool x.is) ∧ w'.cell? ⟨xb, 1, none⟩ = some (.int .i64 x.code) ∧ w'.cell? ⟨xb, 2, none⟩ = some (.int .i64 x.stream)) v := ⟨cell_at hg 0, cell_at hg 1, cell_at hg 2, cell_at hg 3, cell_at hg 4, cell_at hg 5, cell_at hg 6, cell_at hg 7, cell_at hg 8, cell_at hg 9, cell_at hg 10, cell_at hg 11, cell_at hx 0, cell_at hx 1, cell_at hx 2⟩
  dsimp only at hHeld
  refine wpAnyH_take (i := 2) (oi := _) (v := ?_) rfl (by kernel_rfl) (by kernel_rfl) (by kernel_rfl) (fun _ _ _ h => h) (Or.inl ⟨by rfl, ?_⟩) (by assumption) ?_
  rotate_left 1
  · intro w hSw
    try dsimp only at hSw
    first | (go_simp; done) | (go_simp; with_reducible rfl)
  try simp only [Act.put, List.setIfInBounds_toArray, List.set_cons_zero, List.set_cons_succ]
  exact nx7y_p5 hN hgi hxi hQ _ _ hg hx hi hk (Fr.Is.mk rfl rfl)

set_option maxRecDepth 100000 in
set_option maxHeartbeats 1000000 in
theorem nx7y_p3 {Q : Exit → Act → World → Prop} {fb ib gb xb : Nat} {f : FrM} {sa : Option Addr} {sc : Nat} {x : FaM} {w : World} {N : Int} (hN : 0 < N) (hgi : gb ≠ ib) (hxi : xb ≠ ib)
    (hQ : Hid (∀ a' w', Fr.Is 55 [(2, .pointer (some ⟨ib, 0, none⟩)), (3, .bool true)] a' → w'.heap[ib]? = some (.cells (itC f sa sc x) 42 (0, 0)) → Kept [ib] w w' → Q .normal a' w'))
    (a : Act) (v : World) (hg : v.heap[gb]? = some (.cells (frC f sa sc) 40 (0, 0))) (hx : v.heap[xb]? = some (.cells (faC x) 37 (0, 0))) (hi : v.heap[ib]? = some (.cells itZ 42 (0, 0))) (hk : Kept [ib] w v) (ha : Fr.Is 55 [(0, .pointer (some ⟨fb, 0, none⟩)), (2, .pointer (some ⟨ib, 0, none⟩)), (4, .pointer (some ⟨gb, 0, none⟩)), (5, .int .i64 N), (6, .pointer (some ⟨xb, 0, none⟩)), (46, .agg #[.int .i64 f.type, .int .i64 f.flags, .int .i64 f.stream, .string f.data, .int .i64 f.pad, .slice sa f.sets.length sc, .int .i64 f.code, .int .i64 f.last, .int .i64 f.inc, .int .i64 f.dep, .int .i64 f.weight, .bool f.sole]), (50, .bool true), (51, .bool true), (54, .bool true)] a) :
    wpAnyH Tryd.prog .any (opsOf (Fr.reg Tryd.f28 7)) (NoPanic Q) (fun w' => w'.cell? ⟨gb, 0, none⟩ = some (.int .i64 f.type) ∧ w'.cell? ⟨gb, 1, none⟩ = some (.int .i64 f.flags) ∧ w'.cell? ⟨gb, 2, none⟩ = some (.int .i64 f.stream) ∧ w'.cell? ⟨gb, 3, none⟩ = some (.string f.data) ∧ w'.cell? ⟨gb, 4, none⟩ = some (.int .i64 f.pad) ∧ w'.cell? ⟨gb, 5, none⟩ = some (.slice sa f.sets.length sc) ∧ w'.cell? ⟨gb, 6, none⟩ = some (.int .i64 f.code) ∧ w'.cell? ⟨gb, 7, none⟩ = some (.int .i64 f.last) ∧ w'.cell? ⟨gb, 8, none⟩ = some (.int .i64 f.inc) ∧ w'.cell? ⟨gb, 9, none⟩ = some (.int .i64 f.dep) ∧ w'.cell? ⟨gb, 10, none⟩ = some (.int .i64 f.weight) ∧ w'.cell? ⟨gb, 11, none⟩ = some (.bool f.sole) ∧ w'.cell? ⟨xb, 0, none⟩ = some (.bool x.is) ∧ w'.cell? ⟨xb, 1, none⟩ = some (.int .i64 x.code) ∧ w'.cell? ⟨xb, 2, none⟩ = some (.int .i64 x.stream)) 4 #[true, false, false, true, true, true, true, true, true, false, false] a v := by
  obtain ⟨fr, rfl, hfr⟩ := ha.lit
  simp only [List.map_cons, List.map_nil, List.cons.injEq, and_true] at hfr
  conv => arg 3; whnf
  simp only [List.range, List.range.loop, List.map_cons, List.map_nil, hfr]
  clear hfr ha
  have hHeld : (fun w' => w'.cell? ⟨gb, 0, none⟩ = some (.int .i64 f.type) ∧ w'.cell? ⟨gb, 1, none⟩ = some (.int .i64 f.flags) ∧ w'.cell? ⟨gb, 2, none⟩ = some (.int .i64 f.stream) ∧ w'.cell? ⟨gb, 3, none⟩ = some (.string f.data) ∧ w'.cell? ⟨gb, 4, none⟩ = some (.int .i64 f.pad) ∧ w'.cell? ⟨gb, 5, none⟩ = some (.slice sa f.sets.length sc) ∧ w'.cell? ⟨gb, 6, none⟩ = some (.int .i64 f.code) ∧ w'.cell? ⟨gb, 7, none⟩ = some (.int .i64 f.last) ∧ w'.cell? ⟨gb, 8, none⟩ = some (.int .i64 f.inc) ∧ w'.cell? ⟨gb, 9, none⟩ = some (.int .i64 f.dep) ∧ w'.cell? ⟨gb, 10, none⟩ = some (.int .i64 f.weight) ∧ w'.cell? ⟨gb, 11, none⟩ = some (.bool f.sole) ∧ w'.cell? ⟨xb, 0, none⟩ = some (.bool x.is) ∧ w'.cell? ⟨xb, 1, none⟩ = some (.int .i64 x.code) ∧ w'.cell? ⟨xb, 2, none⟩ = some (.int .i64 x.stream)) v := ⟨cell_at hg 0, cell_at hg 1, cell_at hg 2, cell_at hg 3, cell_at hg 4, cell_at hg 5, cell_at hg 6, cell_at hg 7, cell_at hg 8, cell_at hg 9, cell_at hg 10, cell_at hg 11, cell_at hx 0, cell_at hx 1, cell_at hx 2⟩
  dsimp only at hHeld
  refine wpAnyH_take (i := 1) (oi := _) (v := ?_) rfl (by kernel_rfl) (by kernel_rfl) (by kernel_rfl) (fun _ _ _ h => h) (Or.inl ⟨by rfl, ?_⟩) (by assumption) ?_
  rotate_left 1
  · intro w hSw
    try dsimp only at hSw
    first | (go_simp; done) | (go_simp; with_reducible rfl)
  try simp only [Act.put, List.setIfInBounds_toArray, List.set_cons_zero, List.set_cons_succ]
  exact nx7y_p4 hN hgi hxi hQ _ _ hg hx hi hk (Fr.Is.mk rfl rfl)

set_option maxRecDepth 100000 in
set_option maxHeartbeats 1000000 in
theorem nx7y_p2 {Q : Exit → Act → World → Prop} {fb ib gb xb : Nat} {f : FrM} {sa : Option Addr} {sc : Nat} {x : FaM} {w : World} {N : Int} (hN : 0 < N) (hgi : gb ≠ ib) (hxi : xb ≠ ib)
    (hQ : Hid (∀ a' w', Fr.Is 55 [(2, .pointer (some ⟨ib, 0, none⟩)), (3, .bool true)] a' → w'.heap[ib]? = some (.cells (itC f sa sc x) 42 (0, 0)) → Kept [ib] w w' → Q .normal a' w'))
    (a : Act) (v : World) (hg : v.heap[gb]? = some (.cells (frC f sa sc) 40 (0, 0))) (hx : v.heap[xb]? = some (.cells (faC x) 37 (0, 0))) (hi : v.heap[ib]? = some (.cells itZ 42 (0, 0))) (hk : Kept [ib] w v) (ha : Fr.Is 55 [(0, .pointer (some ⟨fb, 0, none⟩)), (2, .pointer (some ⟨ib, 0, none⟩)), (4, .pointer (some ⟨gb, 0, none⟩)), (5, .int .i64 N), (6, .pointer (some ⟨xb, 0, none⟩)), (50, .bool true), (51, .bool true), (54, .bool true)] a) :
    wpAnyH Tryd.prog .any (opsOf (Fr.reg Tryd.f28 7)) (NoPanic Q) (fun w' => w'.cell? ⟨gb, 0, none⟩ = some (.int .i64 f.type) ∧ w'.cell? ⟨gb, 1, none⟩ = some (.int .i64 f.flags) ∧ w'.cell? ⟨gb, 2, none⟩ = some (.int .i64 f.stream) ∧ w'.cell? ⟨gb, 3, none⟩ = some (.string f.data) ∧ w'.cell? ⟨gb, 4, none⟩ = some (.int .i64 f.pad) ∧ w'.cell? ⟨gb, 5, none⟩ = some (.slice sa f.sets.length sc) ∧ w'.cell? ⟨gb, 6, none⟩ = some (.int .i64 f.code) ∧ w'.cell? ⟨gb, 7, none⟩ = some (.int .i64 f.last) ∧ w'.cell? ⟨gb, 8, none⟩ = some (.int .i64 f.inc) ∧ w'.cell? ⟨gb, 9, none⟩ = some (.int .i64 f.dep) ∧ w'.cell? ⟨gb, 10, none⟩ = some (.int .i64 f.weight) ∧ w'.cell? ⟨gb, 11, none⟩ = some (.bool f.sole) ∧ w'.cell? ⟨xb, 0, none⟩ = some (.bool x.is) ∧ w'.cell? ⟨xb, 1, none⟩ = some (.int .i64 x.code) ∧ w'.cell? ⟨xb, 2, none⟩ = some (.int .i64 x.stream)) 5 #[false, false, false, true, true, true, true, true, true, false, false] a v := by
  obtain ⟨fr, rfl, hfr⟩ := ha.lit
  simp only [List.map_cons, List.map_nil, List.cons.injEq, and_true] at hfr
  conv => arg 3; whnf
  simp only [List.range, List.range.loop, List.map_cons, List.map_nil, hfr]
  clear hfr ha
  have hHeld : (fun w' => w'.cell? ⟨gb, 0, none⟩ = some (.int .i64 f.type) ∧ w'.cell? ⟨gb, 1, none⟩ = some (.int .i64 f.flags) ∧ w'.cell? ⟨gb, 2, none⟩ = some (.int .i64 f.stream) ∧ w'.cell? ⟨gb, 3, none⟩ = some (.string f.data) ∧ w'.cell? ⟨gb, 4, none⟩ = some (.int .i64 f.pad) ∧ w'.cell? ⟨gb, 5, none⟩ = some (.slice sa f.sets.length sc) ∧ w'.cell? ⟨gb, 6, none⟩ = some (.int .i64 f.code) ∧ w'.cell? ⟨gb, 7, none⟩ = some (.int .i64 f.last) ∧ w'.cell? ⟨gb, 8, none⟩ = some (.int .i64 f.inc) ∧ w'.cell? ⟨gb, 9, none⟩ = some (.int .i64 f.dep) ∧ w'.cell? ⟨gb, 10, none⟩ = some (.int .i64 f.weight) ∧ w'.cell? ⟨gb, 11, none⟩ = some (.bool f.sole) ∧ w'.cell? ⟨xb, 0, none⟩ = some (.bool x.is) ∧ w'.cell? ⟨xb, 1, none⟩ = some (.int .i64 x.code) ∧ w'.cell? ⟨xb, 2, none⟩ = some (.int .i64 x.stream)) v := ⟨cell_at hg 0, cell_at hg 1, cell_at hg 2, cell_at hg 3, cell_at hg 4, cell_at hg 5, cell_at hg 6, cell_at hg 7, cell_at hg 8, cell_at hg 9, cell_at hg 10, cell_at hg 11, cell_at hx 0, cell_at hx 1, cell_at hx 2⟩
  dsimp only at hHeld
  refine wpAnyH_take (i := 0) (oi := _) (v := ?_) rfl (by kernel_rfl) (by kernel_rfl) (by kernel_rfl) (fun _ _ _ h => h) (Or.inl ⟨by rfl, ?_⟩) (by assumption) ?_
  rotate_left 1
  · intro w hSw
    try dsimp only at hSw
    first | (go_simp; done) | (go_simp; with_reducible rfl)
  try simp only [Act.put, List.setIfInBounds_toArray, List.set_cons_zero, List.set_cons_succ]
  exact nx7y_p3 hN hgi hxi hQ _ _ hg hx hi hk (Fr.Is.mk rfl rfl)

set_option maxRecDepth 100000 in
set_option maxHeartbeats 1000000 in
theorem nx7y_p1 {Q : Exit → Act → World → Prop} {fb ib gb xb : Nat} {f : FrM} {sa : Option Addr} {sc : Nat} {x : FaM} {w : World} {N : Int} (hN : 0 < N) (hgi : gb ≠ ib) (hxi : xb ≠ ib)
    (hQ : Hid (∀ a' w', Fr.Is 55 [(2, .pointer (some ⟨ib, 0, none⟩)), (3, .bool true)] a' → w'.heap[ib]? = some (.cells (itC f sa sc x) 42 (0, 0)) → Kept [ib] w w' → Q .normal a' w'))
    (a : Act) (v : World) (hg : v.heap[gb]? = some (.cells (frC f sa sc) 40 (0, 0))) (hx : v.heap[xb]? = some (.cells (faC x) 37 (0, 0))) (hi : v.heap[ib]? = some (.cells itZ 42 (0, 0))) (hk : Kept [ib] w v) (ha : Fr.Is 55 [(0, .pointer (some ⟨fb, 0, none⟩)), (2, .pointer (some ⟨ib, 0, none⟩)), (4, .pointer (some ⟨gb, 0, none⟩)), (5, .int .i64 N), (6, .pointer (some ⟨xb, 0, none⟩)), (50, .bool true), (51, .bool true)] a) :
    wpAnyH Tryd.prog .any (opsOf (Fr.reg Tryd.f28 7)) (NoPanic Q) (fun w' => w'.cell? ⟨gb, 0, none⟩ = some (.int .i64 f.type) ∧ w'.cell? ⟨gb, 1, none⟩ = some (.int .i64 f.flags) ∧ w'.cell? ⟨gb, 2, none⟩ = some (.int .i64 f.stream) ∧ w'.cell? ⟨gb, 3, none⟩ = some (.string f.data) ∧ w'.cell? ⟨gb, 4, none⟩ = some (.int .i64 f.pad) ∧ w'.cell? ⟨gb, 5, none⟩ = some (.slice sa f.sets.length sc) ∧ w'.cell? ⟨gb, 6, none⟩ = some (.int .i64 f.code) ∧ w'.cell? ⟨gb, 7, none⟩ = some (.int .i64 f.last) ∧ w'.cell? ⟨gb, 8, none⟩ = some (.int .i64 f.inc) ∧ w'.cell? ⟨gb, 9, none⟩ = some (.int .i64 f.dep) ∧ w'.cell? ⟨gb, 10, none⟩ = some (.int .i64 f.weight) ∧ w'.cell? ⟨gb, 11, none⟩ = some (.bool f.sole) ∧ w'.cell? ⟨xb, 0, none⟩ = some (.bool x.is) ∧ w'.cell? ⟨xb, 1, none⟩ = some (.int .i64 x.code) ∧ w'.cell? ⟨xb, 2, none⟩ = some (.int .i64 x.stream)) 8 #[false, false, false, true, true, true, false, false, false, false, false] a v := by
  obtain ⟨fr, rfl, hfr⟩ := ha.lit
  simp only [List.map_cons, List.map_nil, List.cons.injEq, and_true] at hfr
  conv => arg 3; whnf
  simp only [List.range, List.range.loop, List.map_cons, List.map_nil, hfr]
  clear hfr ha
  have hHeld : (fun w' => w'.cell? ⟨gb, 0, none⟩ = some (.int .i64 f.type) ∧ w'.cell? ⟨gb, 1, none⟩ = some (.int .i64 f.flags) ∧ w'.cell? ⟨gb, 2, none⟩ = some (.int .i64 f.stream) ∧ w'.cell? ⟨gb, 3, none⟩ = some (.string f.data) ∧ w'.cell? ⟨gb, 4, none⟩ = some (.int .i64 f.pad) ∧ w'.cell? ⟨gb, 5, none⟩ = some (.slice sa f.sets.length sc) ∧ w'.cell? ⟨gb, 6, none⟩ = some (.int .i64 f.code) ∧ w'.cell? ⟨gb, 7, none⟩ = some (.int .i64 f.last) ∧ w'.cell? ⟨gb, 8, none⟩ = some (.int .i64 f.inc) ∧ w'.cell? ⟨gb, 9, none⟩ = some (.int .i64 f.dep) ∧ w'.cell? ⟨gb, 10, none⟩ = some (.int .i64 f.weight) ∧ w'.cell? ⟨gb, 11, none⟩ = some (.bool f.sole) ∧ w'.cell? ⟨xb, 0, none⟩ = some (.bool x.is) ∧ w'.cell? ⟨xb, 1, none⟩ = some (.int .i64 x.code) ∧ w'.cell? ⟨xb, 2, none⟩ = some (.int .i64 x.stream)) v := ⟨cell_at hg 0, cell_at hg 1, cell_at hg 2, cell_at hg 3, cell_at hg 4, cell_at hg 5, cell_at hg 6, cell_at hg 7, cell_at hg 8, cell_at hg 9, cell_at hg 10, cell_at hg 11, cell_at hx 0, cell_at hx 1, cell_at hx 2⟩
  dsimp only at hHeld
  refine wpAnyH_take (i := 6) (oi := _) (v := undef) rfl (by kernel_rfl) (by kernel_rfl) (by kernel_rfl) (fun _ _ _ h => h) (Or.inr ⟨by rfl, rfl⟩) (by assumption) ?_
  try simp only [Act.put, List.setIfInBounds_toArray, List.set_cons_zero, List.set_cons_succ]
  refine wpAnyH_take (i := 7) (oi := _) (v := undef) rfl (by kernel_rfl) (by kernel_rfl) (by kernel_rfl) (fun _ _ _ h => h) (Or.inr ⟨by rfl, rfl⟩) (by assumption) ?_
  try simp only [Act.put, List.setIfInBounds_toArray, List.set_cons_zero, List.set_cons_succ]
  refine wpAnyH_take (i := 8) (oi := _) (v := ?_) rfl (by kernel_rfl) (by kernel_rfl) (by kernel_rfl) (fun _ _ _ h => h) (Or.inl ⟨by rfl, ?_⟩) (by assumption) ?_
  rotate_left 1
  · intro w hSw
    try dsimp only at hSw
    first | (go_simp; done) | (go_simp; with_reducible rfl)
  try simp only [Act.put, List.setIfInBounds_toArray, List.set_cons_zero, List.set_cons_succ]
  exact nx7y_p2 hN hgi hxi hQ _ _ hg hx hi hk (Fr.Is.mk rfl rfl)

set_option maxRecDepth 100000 in
set_option maxHeartbeats 1000000 in
theorem nx7y_i {Q : Exit → Act → World → Prop} {fb ib gb xb : Nat} {f : FrM} {sa : Option Addr} {sc : Nat} {x : FaM} {w : World} {N : Int} (hN : 0 < N) (hgi : gb ≠ ib) (hxi : xb ≠ ib)
    (hQ : Hid (∀ a' w', Fr.Is 55 [(2, .pointer (some ⟨ib, 0, none⟩)), (3, .bool true)] a' → w'.heap[ib]? = some (.cells (itC f sa sc x) 42 (0, 0)) → Kept [ib] w w' → Q .normal a' w'))
    (a : Act) (v : World) (hg : v.heap[gb]? = some (.cells (frC f sa sc) 40 (0, 0))) (hx : v.heap[xb]? = some (.cells (faC x) 37 (0, 0))) (hi : v.heap[ib]? = some (.cells itZ 42 (0, 0))) (hk : Kept [ib] w v) (ha : Fr.Is 55 [(0, .pointer (some ⟨fb, 0, none⟩)), (2, .pointer (some ⟨ib, 0, none⟩)), (4, .pointer (some ⟨gb, 0, none⟩)), (5, .int .i64 N), (6, .pointer (some ⟨xb, 0, none⟩))] a) :
    wpAnyH Tryd.prog .any (opsOf (Fr.reg Tryd.f28 7)) (NoPanic Q) (fun w' => w'.cell? ⟨gb, 0, none⟩ = some (.int .i64 f.type) ∧ w'.cell? ⟨gb, 1, none⟩ = some (.int .i64 f.flags) ∧ w'.cell? ⟨gb, 2, none⟩ = some (.int .i64 f.stream) ∧ w'.cell? ⟨gb, 3, none⟩ = some (.string f.data) ∧ w'.cell? ⟨gb, 4, none⟩ = some (.int .i64 f.pad) ∧ w'.cell? ⟨gb, 5, none⟩ = some (.slice sa f.sets.length sc) ∧ w'.cell? ⟨gb, 6, none⟩ = some (.int .i64 f.code) ∧ w'.cell? ⟨gb, 7, none⟩ = some (.int .i64 f.last) ∧ w'.cell? ⟨gb, 8, none⟩ = some (.int .i64 f.inc) ∧ w'.cell? ⟨gb, 9, none⟩ = some (.int .i64 f.dep) ∧ w'.cell? ⟨gb, 10, none⟩ = some (.int .i64 f.weight) ∧ w'.cell? ⟨gb, 11, none⟩ = some (.bool f.sole) ∧ w'.cell? ⟨xb, 0, none⟩ = some (.bool x.is) ∧ w'.cell? ⟨xb, 1, none⟩ = some (.int .i64 x.code) ∧ w'.cell? ⟨xb, 2, none⟩ = some (.int .i64 x.stream)) 11 #[false, false, false, false, false, false, false, false, false, false, false] a v := by
  obtain ⟨fr, rfl, hfr⟩ := ha.lit
  simp only [List.map_cons, List.map_nil, List.cons.injEq, and_true] at hfr
  conv => arg 3; whnf
  simp only [List.range, List.range.loop, List.map_cons, List.map_nil, hfr]
  clear hfr ha
  have hHeld : (fun w' => w'.cell? ⟨gb, 0, none⟩ = some (.int .i64 f.type) ∧ w'.cell? ⟨gb, 1, none⟩ = some (.int .i64 f.flags) ∧ w'.cell? ⟨gb, 2, none⟩ = some (.int .i64 f.stream) ∧ w'.cell? ⟨gb, 3, none⟩ = some (.string f.data) ∧ w'.cell? ⟨gb, 4, none⟩ = some (.int .i64 f.pad) ∧ w'.cell? ⟨gb, 5, none⟩ = some (.slice sa f.sets.length sc) ∧ w'.cell? ⟨gb, 6, none⟩ = some (.int .i64 f.code) ∧ w'.cell? ⟨gb, 7, none⟩ = some (.int .i64 f.last) ∧ w'.cell? ⟨gb, 8, none⟩ = some (.int .i64 f.inc) ∧ w'.cell? ⟨gb, 9, none⟩ = some (.int .i64 f.dep) ∧ w'.cell? ⟨gb, 10, none⟩ = some (.int .i64 f.weight) ∧ w'.cell? ⟨gb, 11, none⟩ = some (.bool f.sole) ∧ w'.cell? ⟨xb, 0, none⟩ = some (.bool x.is) ∧ w'.cell? ⟨xb, 1, none⟩ = some (.int .i64 x.code) ∧ w'.cell? ⟨xb, 2, none⟩ = some (.int .i64 x.stream)) v := ⟨cell_at hg 0, cell_at hg 1, cell_at hg 2, cell_at hg 3, cell_at hg 4, cell_at hg 5, cell_at hg 6, cell_at hg 7, cell_at hg 8, cell_at hg 9, cell_at hg 10, cell_at hg 11, cell_at hx 0, cell_at hx 1, cell_at hx 2⟩
  dsimp only at hHeld
  refine wpAnyH_take (i := 3) (oi := _) (v := ?_) rfl (by kernel_rfl) (by kernel_rfl) (by kernel_rfl) (fun _ _ _ h => h) (Or.inl ⟨by rfl, ?_⟩) (by assumption) ?_
  rotate_left 1
  · intro w hSw
    try dsimp only at hSw
    first | (go_simp; done) | (go_simp; with_reducible rfl)
  try simp only [Act.put, List.setIfInBounds_toArray, List.set_cons_zero, List.set_cons_succ]
  refine wpAnyH_take (i := 4) (oi := _) (v := ?_) rfl (by kernel_rfl) (by kernel_rfl) (by kernel_rfl) (fun _ _ _ h => h) (Or.inl ⟨by rfl, ?_⟩) (by assumption) ?_
  rotate_left 1
  · intro w hSw
    try dsimp only at hSw
    first | (go_simp; done) | (go_simp; with_reducible rfl)
  try simp only [Act.put, List.setIfInBounds_toArray, List.set_cons_zero, List.set_cons_succ]
  refine wpAnyH_take (i := 5) (oi := _) (v := ?_) rfl (by kernel_rfl) (by kernel_rfl) (by kernel_rfl) (fun _ _ _ h => h) (Or.inl ⟨by rfl, ?_⟩) (by assumption) ?_
  rotate_left 1
  · intro w hSw
    try dsimp only at hSw
    first | (go_simp; done) | (go_simp; with_reducible rfl)
  try simp only [Act.put, List.setIfInBounds_toArray, List.set_cons_zero, List.set_cons_succ]
  exact nx7y_p1 hN hgi hxi hQ _ _ hg hx hi hk (Fr.Is.mk rfl rfl)

set_option maxRecDepth 100000 in
set_option maxHeartbeats 1000000 in
theorem nx_r7y {Q : Exit → Act → World → Prop} {fb ib gb xb : Nat} {f : FrM} {sa : Option Addr} {sc : Nat} {x : FaM} {w : World} {N : Int} (hN : 0 < N) (hgi : gb ≠ ib) (hxi : xb ≠ ib)
    (hQ : Hid (∀ a' w', Fr.Is 55 [(2, .pointer (some ⟨ib, 0, none⟩)), (3, .bool true)] a' → w'.heap[ib]? = some (.cells (itC f sa sc x) 42 (0, 0)) → Kept [ib] w w' → Q .normal a' w'))
    (a : Act) (hg : w.heap[gb]? = some (.cells (frC f sa sc) 40 (0, 0))) (hx : w.heap[xb]? = some (.cells (faC x) 37 (0, 0))) (hi : w.heap[ib]? = some (.cells itZ 42 (0, 0))) (ha : Fr.Is 55 [(0, .pointer (some ⟨fb, 0, none⟩)), (2, .pointer (some ⟨ib, 0, none⟩)), (4, .pointer (some ⟨gb, 0, none⟩)), (5, .int .i64 N), (6, .pointer (some ⟨xb, 0, none⟩))] a) :
    (Fr.reg Tryd.f28 7).wp Tryd.prog Q a w := by
  have hb0 : Below w.heap.size w w.drew := (Below.refl _ _).drew
  have hg0 := block_below hb0 hg
  have hx0 := block_below hb0 hx
  have h := nx7y_i hN hgi hxi hQ a w.drew hg0 hx0 (block_below hb0 hi) (Kept.refl _ _).drew ha
  conv => arg 2; whnf
  refine wp_region_noPanic ?_
  refine wp_region_held_drew (S := (fun w' => w'.cell? ⟨gb, 0, none⟩ = some (.int .i64 f.type) ∧ w'.cell? ⟨gb, 1, none⟩ = some (.int .i64 f.flags) ∧ w'.cell? ⟨gb, 2, none⟩ = some (.int .i64 f.stream) ∧ w'.cell? ⟨gb, 3, none⟩ = some (.string f.data) ∧ w'.cell? ⟨gb, 4, none⟩ = some (.int .i64 f.pad) ∧ w'.cell? ⟨gb, 5, none⟩ = some (.slice sa f.sets.length sc) ∧ w'.cell? ⟨gb, 6, none⟩ = some (.int .i64 f.code) ∧ w'.cell? ⟨gb, 7, none⟩ = some (.int .i64 f.last) ∧ w'.cell? ⟨gb, 8, none⟩ = some (.int .i64 f.inc) ∧ w'.cell? ⟨gb, 9, none⟩ = some (.int .i64 f.dep) ∧ w'.cell? ⟨gb, 10, none⟩ = some (.int .i64 f.weight) ∧ w'.cell? ⟨gb, 11, none⟩ = some (.bool f.sole) ∧ w'.cell? ⟨xb, 0, none⟩ = some (.bool x.is) ∧ w'.cell? ⟨xb, 1, none⟩ = some (.int .i64 x.code) ∧ w'.cell? ⟨xb, 2, none⟩ = some (.int .i64 x.stream))) (by kernel_rfl) ⟨cell_at hg0 0, cell_at hg0 1, cell_at hg0 2, cell_at hg0 3, cell_at hg0 4, cell_at hg0 5, cell_at hg0 6, cell_at hg0 7, cell_at hg0 8, cell_at hg0 9, cell_at hg0 10, cell_at hg0 11, cell_at hx0 0, cell_at hx0 1, cell_at hx0 2⟩ (fun hHeld => ?_)
  exact h

set_option maxRecDepth 100000 in
set_option maxHeartbeats 1000000 in
theorem nx7n_p5 {Q : Exit → Act → World → Prop} {fb ib gb xb : Nat} {f : FrM} {sa : Option Addr} {sc : Nat} {x : FaM} {w : World} (hgi : gb ≠ ib) (hxi : xb ≠ ib)
    (hQ : Hid (∀ a' w', Fr.Is 55 [(2, .pointer (some ⟨ib, 0, none⟩)), (3, .bool x.is)] a' → w'.heap[ib]? = some (.cells (itC f sa sc x) 42 (0, 0)) → Kept [ib] w w' → Q .normal a' w'))
    (a : Act) (v : World) (hg : v.heap[gb]? = some (.cells (frC f sa sc) 40 (0, 0))) (hx : v.heap[xb]? = some (.cells (faC x) 37 (0, 0))) (hi : v.heap[ib]? = some (.cells itZ 42 (0, 0))) (hk : Kept [ib] w v) (ha : Fr.Is 55 [(0, .pointer (some ⟨fb, 0, none⟩)), (2, .pointer (some ⟨ib, 0, none⟩)), (4, .pointer (some ⟨gb, 0, none⟩)), (5, .int .i64 0), (6, .pointer (some ⟨xb, 0, none⟩)), (46, .agg #[.int .i64 f.type, .int .i64 f.flags, .int .i64 f.stream, .string f.data, .int .i64 f.pad, .slice sa f.sets.length sc, .int .i64 f.code, .int .i64 f.last, .int .i64 f.inc, .int .i64 f.dep, .int .i64 f.weight, .bool f.sole]), (47, .agg #[.bool x.is, .int .i64 x.code, .int .i64 x.stream]), (48, .agg #[.int .i64 f.type, .int .i64 f.flags, .int .i64 f.stream, .string f.data, .int .i64 f.pad, .slice sa f.sets.length sc, .int .i64 f.code, .int .i64 f.last, .int .i64 f.inc, .int .i64 f.dep, .int .i64 f.weight, .bool f.sole, .bool x.is, .int .i64 x.code, .int .i64 x.stream]), (50, .bool false), (51, .bool false), (54, .bool x.is)] a) :
    wpAnyH Tryd.prog .any (opsOf (Fr.reg Tryd.f28 7)) (NoPanic Q) (fun w' => w'.cell? ⟨gb, 0, none⟩ = some (.int .i64 f.type) ∧ w'.cell? ⟨gb, 1, none⟩ = some (.int .i64 f.flags) ∧ w'.cell? ⟨gb, 2, none⟩ = some (.int .i64 f.stream) ∧ w'.cell? ⟨gb, 3, none⟩ = some (.string f.data) ∧ w'.cell? ⟨gb, 4, none⟩ = some (.int .i64 f.pad) ∧ w'.cell? ⟨gb, 5, none⟩ = some (.slice sa f.sets.length sc) ∧ w'.cell? ⟨gb, 6, none⟩ = some (.int .i64 f.code) ∧ w'.cell? ⟨gb, 7, none⟩ = some (.int .i64 f.last) ∧ w'.cell? ⟨gb, 8, none⟩ = some (.int .i64 f.inc) ∧ w'.cell? ⟨gb, 9, none⟩ = some (.int .i64 f.dep) ∧ w'.cell? ⟨gb, 10, none⟩ = some (.int .i64 f.weight) ∧ w'.cell? ⟨gb, 11, none⟩ = some (.bool f.sole) ∧ w'.cell? ⟨xb, 0, none⟩ = some (.bool x.is) ∧ w'.cell? ⟨xb, 1, none⟩ = some (.int .i64 x.code) ∧ w'.cell? ⟨xb, 2, none⟩ = some (.int .i64 x.stream)) 2 #[true, true, true, true, true, true, true, true, true, false, false] a v := by
  obtain ⟨fr, rfl, hfr⟩ := ha.lit
  simp only [List.map_cons, List.map_nil, List.cons.injEq, and_true] at hfr
  conv => arg 3; whnf
  simp only [List.range, List.range.loop, List.map_cons, List.map_nil, hfr]
  clear hfr ha
  have hHeld : (fun w' => w'.cell? ⟨gb, 0, none⟩ = some (.int .i64 f.type) ∧ w'.cell? ⟨gb, 1, none⟩ = some (.int .i64 f.flags) ∧ w'.cell? ⟨gb, 2, none⟩ = some (.int .i64 f.stream) ∧ w'.cell? ⟨gb, 3, none⟩ = some (.string f.data) ∧ w'.cell? ⟨gb, 4, none⟩ = some (.int .i64 f.pad) ∧ w'.cell? ⟨gb, 5, none⟩ = some (.slice sa f.sets.length sc) ∧ w'.cell? ⟨gb, 6, none⟩ = some (.int .i64 f.code) ∧ w'.cell? ⟨gb, 7, none⟩ = some (.int .i64 f.last) ∧ w'.cell? ⟨gb, 8, none⟩ = some (.int .i64 f.inc) ∧ w'.cell? ⟨gb, 9, none⟩ = some (.int .i64 f.dep) ∧ w'.cell? ⟨gb, 10, none⟩ = some (.int .i64 f.weight) ∧ w'.cell? ⟨gb, 11, none⟩ = some (.bool f.sole) ∧ w'.cell? ⟨xb, 0, none⟩ = some (.bool x.is) ∧ w'.cell? ⟨xb, 1, none⟩ = some (.int .i64 x.code) ∧ w'.cell? ⟨xb, 2, none⟩ = some (.int .i64 x.stream)) v := ⟨cell_at hg 0, cell_at hg 1, cell_at hg 2, cell_at hg 3, cell_at hg 4, cell_at hg 5, cell_at hg 6, cell_at hg 7, cell_at hg 8, cell_at hg 9, cell_at hg 10, cell_at hg 11, cell_at hx 0, cell_at hx 1, cell_at hx 2⟩
  dsimp only at hHeld
  refine wpAnyH_ready (rs := [9]) (by kernel_rfl) (by simp) ?_
  refine AllReadyH.cons (o := _) rfl (fun K' hK' => ?_) AllReadyH.nil
  refine step_put rfl 42 (.tmp 2) (.tmp 48) rfl ib (itC f sa sc x) _ 42 rfl rfl hi rfl size_item (itC_one _ _ _ _) ?_
  intro w2 hi2 hk2
  have hg2 := hk2.out.at hg (by simpa using hgi)
  have hx2 := hk2.out.at hx (by simpa using hxi)
  have hk3 := hk.trans hk2.out (fun i h => .inl h)
  refine hK'.out _ _ ⟨cell_at hg2 0, cell_at hg2 1, cell_at hg2 2, cell_at hg2 3, cell_at hg2 4, cell_at hg2 5, cell_at hg2 6, cell_at hg2 7, cell_at hg2 8, cell_at hg2 9, cell_at hg2 10, cell_at hg2 11, cell_at hx2 0, cell_at hx2 1, cell_at hx2 2⟩ (fun hHeld => ?_)
  clear hK' K'
  try simp only [Act.put, List.setIfInBounds_toArray, List.set_cons_zero, List.set_cons_succ]
  refine wpAnyH_take (i := 10) (oi := _) (v := ?_) rfl (by kernel_rfl) (by kernel_rfl) (by kernel_rfl) (fun _ _ _ h => h) (Or.inl ⟨by rfl, ?_⟩) (by assumption) ?_
  rotate_left 1
  · intro w hSw
    try dsimp only at hSw
    first | (go_simp; done) | (go_simp; with_reducible rfl)
  try simp only [Act.put, List.setIfInBounds_toArray, List.set_cons_zero, List.set_cons_succ]
  refine wpAnyH_done (by kernel_rfl) ?_ _
  exact hQ.out _ w2 (Fr.Is.mk rfl rfl) hi2.out hk3

set_option maxRecDepth 100000 in
set_option maxHeartbeats 1000000 in
theorem nx7n_p4 {Q : Exit → Act → World → Prop} {fb ib gb xb : Nat} {f : FrM} {sa : Option Addr} {sc : Nat} {x : FaM} {w : World} (hgi : gb ≠ ib) (hxi : xb ≠ ib)
    (hQ : Hid (∀ a' w', Fr.Is 55 [(2, .pointer (some ⟨ib, 0, none⟩)), (3, .bool x.is)] a' → w'.heap[ib]? = some (.cells (itC f sa sc x) 42 (0, 0)) → Kept [ib] w w' → Q .normal a' w'))
    (a : Act) (v : World) (hg : v.heap[gb]? = some (.cells (frC f sa sc) 40 (0, 0))) (hx : v.heap[xb]? = some (.cells (faC x) 37 (0, 0))) (hi : v.heap[ib]? = some (.cells itZ 42 (0, 0))) (hk : Kept [ib] w v) (ha : Fr.Is 55 [(0, .pointer (some ⟨fb, 0, none⟩)), (2, .pointer (some ⟨ib, 0, none⟩)), (4, .pointer (some ⟨gb, 0, none⟩)), (5, .int .i64 0), (6, .pointer (some ⟨xb, 0, none⟩)), (46, .agg #[.int .i64 f.type, .int .i64 f.flags, .int .i64 f.stream, .string f.data, .int .i64 f.pad, .slice sa f.sets.length sc, .int .i64 f.code, .int .i64 f.last, .int .i64 f.inc, .int .i64 f.dep, .int .i64 f.weight, .bool f.sole]), (47, .agg #[.bool x.is, .int .i64 x.code, .int .i64 x.stream]), (50, .bool false), (51, .bool false), (54, .bool x.is)] a) :
    wpAnyH Tryd.prog .any (opsOf (Fr.reg Tryd.f28 7)) (NoPanic Q) (fun w' => w'.cell? ⟨gb, 0, none⟩ = some (.int .i64 f.type) ∧ w'.cell? ⟨gb, 1, none⟩ = some (.int .i64 f.flags) ∧ w'.cell? ⟨gb, 2, none⟩ = some (.int .i64 f.stream) ∧ w'.cell? ⟨gb, 3, none⟩ = some (.string f.data) ∧ w'.cell? ⟨gb, 4, none⟩ = some (.int .i64 f.pad) ∧ w'.cell? ⟨gb, 5, none⟩ = some (.slice sa f.sets.length sc) ∧ w'.cell? ⟨gb, 6, none⟩ = some (.int .i64 f.code) ∧ w'.cell? ⟨gb, 7, none⟩ = some (.int .i64 f.last) ∧ w'.cell? ⟨gb, 8, none⟩ = some (.int .i64 f.inc) ∧ w'.cell? ⟨gb, 9, none⟩ = some (.int .i64 f.dep) ∧ w'.cell? ⟨gb, 10, none⟩ = some (.int .i64 f.weight) ∧ w'.cell? ⟨gb, 11, none⟩ = some (.bool f.sole) ∧ w'.cell? ⟨xb, 0, none⟩ = some (.bool x.is) ∧ w'.cell? ⟨xb, 1, none⟩ = some (.int .i64 x.code) ∧ w'.cell? ⟨xb, 2, none⟩ = some (.int .i64 x.stream)) 3 #[true, true, false, true, true, true, true, true, true, false, false] a v := by
  obtain ⟨fr, rfl, hfr⟩ := ha.lit
  simp only [List.map_cons, List.map_nil, List.cons.injEq, and_true] at hfr
  conv => arg 3; whnf
  simp only [List.range, List.range.loop, List.map_cons, List.map_nil, hfr]
  clear hfr ha
  have hHeld : (fun w' => w'.cell? ⟨gb, 0, none⟩ = some (.int .i64 f.type) ∧ w'.cell? ⟨gb, 1, none⟩ = some (.int .i64 f.flags) ∧ w'.cell? ⟨gb, 2, none⟩ = some (.int .i64 f.stream) ∧ w'.cell? ⟨gb, 3, none⟩ = some (.string f.data) ∧ w'.cell? ⟨gb, 4, none⟩ = some (.int .i64 f.pad) ∧ w'.cell? ⟨gb, 5, none⟩ = some (.slice sa f.sets.length sc) ∧ w'.cell? ⟨gb, 6, none⟩ = some (.int .i64 f.code) ∧ w'.cell? ⟨gb, 7, none⟩ = some (.int .i64 f.last) ∧ w'.cell? ⟨gb, 8, none⟩ = some (.int .i64 f.inc) ∧ w'.cell? ⟨gb, 9, none⟩ = some (.int .i64 f.dep) ∧ w'.cell? ⟨gb, 10, none⟩ = some (.int .i64 f.weight) ∧ w'.cell? ⟨gb, 11, none⟩ = some (.bool f.sole) ∧ w'.cell? ⟨xb, 0, none⟩ = some (.bool x.is) ∧ w'.cell? ⟨xb, 1, none⟩ = some (.int .i64 x.code) ∧ w'.cell? ⟨xb, 2, none⟩ = some (.int .i64 x.stream)) v := ⟨cell_at hg 0, cell_at hg 1, cell_at hg 2, cell_at hg 3, cell_at hg 4, cell_at hg 5, cell_at hg 6, cell_at hg 7, cell_at hg 8, cell_at hg 9, cell_at hg 10, cell_at hg 11, cell_at hx 0, cell_at hx 1, cell_at hx 2⟩
  dsimp only at hHeld
  refine wpAnyH_take (i := 2) (oi := _) (v := ?_) rfl (by kernel_rfl) (by kernel_rfl) (by kernel_rfl) (fun _ _ _ h => h) (Or.inl ⟨by rfl, ?_⟩) (by assumption) ?_
  rotate_left 1
  · intro w hSw
    try dsimp only at hSw
    first | (go_simp; done) | (go_simp; with_reducible rfl)
  try simp only [Act.put, List.setIfInBounds_toArray, List.set_cons_zero, List.set_cons_succ]
  exact nx7n_p5 hgi hxi hQ _ _ hg hx hi hk (Fr.Is.mk rfl rfl)

set_option maxRecDepth 100000 in
set_option maxHeartbeats 1000000 in
theorem nx7n_p3 {Q : Exit → Act → World → Prop} {fb ib gb xb : Nat} {f : FrM} {sa : Option Addr} {sc : Nat} {x : FaM} {w : World} (hgi : gb ≠ ib) (hxi : xb ≠ ib)
    (hQ : Hid (∀ a' w', Fr.Is 55 [(2, .pointer (some ⟨ib, 0, none⟩)), (3, .bool x.is)] a' → w'.heap[ib]? = some (.cells (itC f sa sc x) 42 (0, 0)) → Kept [ib] w w' → Q .normal a' w'))
    (a : Act) (v : World) (hg : v.heap[gb]? = some (.cells (frC f sa sc) 40 (0, 0))) (hx : v.heap[xb]? = some (.cells (faC x) 37 (0, 0))) (hi : v.heap[ib]? = some (.cells itZ 42 (0, 0))) (hk : Kept [ib] w v) (ha : Fr.Is 55 [(0, .pointer (some ⟨fb, 0, none⟩)), (2, .pointer (some ⟨ib, 0, none⟩)), (4, .pointer (some ⟨gb, 0, none⟩)), (5, .int .i64 0), (6, .pointer (some ⟨xb, 0, none⟩)), (46, .agg #[.int .i64 f.type, .int .i64 f.flags, .int .i64 f.stream, .string f.data, .int .i64 f.pad, .slice sa f.sets.length sc, .int .i64 f.code, .int .i64 f.last, .int .i64 f.inc, .int .i64 f.dep, .int .i64 f.weight, .bool f.sole]), (50, .bool false), (51, .bool false), (54, .bool x.is)] a) :
    wpAnyH Tryd.prog .any (opsOf (Fr.reg Tryd.f28 7)) (NoPanic Q) (fun w' => w'.cell? ⟨gb, 0, none⟩ = some (.int .i64 f.type) ∧ w'.cell? ⟨gb, 1, none⟩ = some (.int .i64 f.flags) ∧ w'.cell? ⟨gb, 2, none⟩ = some (.int .i64 f.stream) ∧ w'.cell? ⟨gb, 3, none⟩ = some (.string f.data) ∧ w'.cell? ⟨gb, 4, none⟩ = some (.int .i64 f.pad) ∧ w'.cell? ⟨gb, 5, none⟩ = some (.slice sa f.sets.length sc) ∧ w'.cell? ⟨gb, 6, none⟩ = some (.int .i64 f.code) ∧ w'.cell? ⟨gb, 7, none⟩ = some (.int .i64 f.last) ∧ w'.cell? ⟨gb, 8, none⟩ = some (.int .i64 f.inc) ∧ w'.cell? ⟨gb, 9, none⟩ = some (.int .i64 f.dep) ∧ w'.cell? ⟨gb, 10, none⟩ = some (.int .i64 f.weight) ∧ w'.cell? ⟨gb, 11, none⟩ = some (.bool f.sole) ∧ w'.cell? ⟨xb, 0, none⟩ = some (.bool x.is) ∧ w'.cell? ⟨xb, 1, none⟩ = some (.int .i64 x.code) ∧ w'.cell? ⟨xb, 2, none⟩ = some (.int .i64 x.stream)) 4 #[true, false, false, true, true, true, true, true, true, false, false] a v := by
  obtain ⟨fr, rfl, hfr⟩ := ha.lit
  simp only [List.map_cons, List.map_nil, List.cons.injEq, and_true] at hfr
  conv => arg 3; whnf
  simp only [List.range, List.range.loop, List.map_cons, List.map_nil, hfr]
  clear hfr ha
  have hHeld : (fun w' => w'.cell? ⟨gb, 0, none⟩ = some (.int .i64 f.type) ∧ w'.cell? ⟨gb, 1, none⟩ = some (.int .i64 f.flags) ∧ w'.cell? ⟨gb, 2, none⟩ = some (.int .i64 f.stream) ∧ w'.cell? ⟨gb, 3, none⟩ = some (.string f.data) ∧ w'.cell? ⟨gb, 4, none⟩ = some (.int .i64 f.pad) ∧ w'.cell? ⟨gb, 5, none⟩ = some (.slice sa f.sets.length sc) ∧ w'.cell? ⟨gb, 6, none⟩ = some (.int .i64 f.code) ∧ w'.cell? ⟨gb, 7, none⟩ = some (.int .i64 f.last) ∧ w'.cell? ⟨gb, 8, none⟩ = some (.int .i64 f.inc) ∧ w'.cell? ⟨gb, 9, none⟩ = some (.int .i64 f.dep) ∧ w'.cell? ⟨gb, 10, none⟩ = some (.int .i64 f.weight) ∧ w'.cell? ⟨gb, 11, none⟩ = some (.bool f.sole) ∧ w'.cell? ⟨xb, 0, none⟩ = some (.bool x.is) ∧ w'.cell? ⟨xb, 1, none⟩ = some (.int .i64 x.code) ∧ w'.cell? ⟨xb, 2, none⟩ = some (.int .i64 x.stream)) v := ⟨cell_at hg 0, cell_at hg 1, cell_at hg 2, cell_at hg 3, cell_at hg 4, cell_at hg 5, cell_at hg 6, cell_at hg 7, cell_at hg 8, cell_at hg 9, cell_at hg 10, cell_at hg 11, cell_at hx 0, cell_at hx 1, cell_at hx 2⟩
  dsimp only at hHeld
  refine wpAnyH_take (i := 1) (oi := _) (v := ?_) rfl (by kernel_rfl) (by kernel_rfl) (by kernel_rfl) (fun _ _ _ h => h) (Or.inl ⟨by rfl, ?_⟩) (by assumption) ?_
  rotate_left 1
  · intro w hSw
    try dsimp only at hSw
    first | (go_simp; done) | (go_simp; with_reducible rfl)
  try simp only [Act.put, List.setIfInBounds_toArray, List.set_cons_zero, List.set_cons_succ]
  exact nx7n_p4 hgi hxi hQ _ _ hg hx hi hk (Fr.Is.mk rfl rfl)

set_option maxRecDepth 100000 in
set_option maxHeartbeats 1000000 in
theorem nx7n_p2 {Q : Exit → Act → World → Prop} {fb ib gb xb : Nat} {f : FrM} {sa : Option Addr} {sc : Nat} {x : FaM} {w : World} (hgi : gb ≠ ib) (hxi : xb ≠ ib)
    (hQ : Hid (∀ a' w', Fr.Is 55 [(2, .pointer (some ⟨ib, 0, none⟩)), (3, .bool x.is)] a' → w'.heap[ib]? = some (.cells (itC f sa sc x) 42 (0, 0)) → Kept [ib] w w' → Q .normal a' w'))
    (a : Act) (v : World) (hg : v.heap[gb]? = some (.cells (frC f sa sc) 40 (0, 0))) (hx : v.heap[xb]? = some (.cells (faC x) 37 (0, 0))) (hi : v.heap[ib]? = some (.cells itZ 42 (0, 0))) (hk : Kept [ib] w v) (ha : Fr.Is 55 [(0, .pointer (some ⟨fb, 0, none⟩)), (2, .pointer (some ⟨ib, 0, none⟩)), (4, .pointer (some ⟨gb, 0, none⟩)), (5, .int .i64 0), (6, .pointer (some ⟨xb, 0, none⟩)), (50, .bool false), (51, .bool false), (54, .bool x.is)] a) :
    wpAnyH Tryd.prog .any (opsOf (Fr.reg Tryd.f28 7)) (NoPanic Q) (fun w' => w'.cell? ⟨gb, 0, none⟩ = some (.int .i64 f.type) ∧ w'.cell? ⟨gb, 1, none⟩ = some (.int .i64 f.flags) ∧ w'.cell? ⟨gb, 2, none⟩ = some (.int .i64 f.stream) ∧ w'.cell? ⟨gb, 3, none⟩ = some (.string f.data) ∧ w'.cell? ⟨gb, 4, none⟩ = some (.int .i64 f.pad) ∧ w'.cell? ⟨gb, 5, none⟩ = some (.slice sa f.sets.length sc) ∧ w'.cell? ⟨gb, 6, none⟩ = some (.int .i64 f.code) ∧ w'.cell? ⟨gb, 7, none⟩ = some (.int .i64 f.last) ∧ w'.cell? ⟨gb, 8, none⟩ = some (.int .i64 f.inc) ∧ w'.cell? ⟨gb, 9, none⟩ = some (.int .i64 f.dep) ∧ w'.cell? ⟨gb, 10, none⟩ = some (.int .i64 f.weight) ∧ w'.cell? ⟨gb, 11, none⟩ = some (.bool f.sole) ∧ w'.cell? ⟨xb, 0, none⟩ = some (.bool x.is) ∧ w'.cell? ⟨xb, 1, none⟩ = some (.int .i64 x.code) ∧ w'.cell? ⟨xb, 2, none⟩ = some (.int .i64 x.stream)) 5 #[false, false, false, true, true, true, true, true, true, false, false] a v := by
  obtain ⟨fr, rfl, hfr⟩ := ha.lit
  simp only [List.map_cons, List.map_nil, List.cons.injEq, and_true] at hfr
  conv => arg 3; whnf
  simp only [List.range, List.range.loop, List.map_cons, List.map_nil, hfr]
  clear hfr ha
  have hHeld : (fun w' => w'.cell? ⟨gb, 0, none⟩ = some (.int .i64 f.type) ∧ w'.cell? ⟨gb, 1, none⟩ = some (.int .i64 f.flags) ∧ w'.cell? ⟨gb, 2, none⟩ = some (.int .i64 f.stream) ∧ w'.cell? ⟨gb, 3, none⟩ = some (.string f.data) ∧ w'.cell? ⟨gb, 4, none⟩ = some (.int .i64 f.pad) ∧ w'.cell? ⟨gb, 5, none⟩ = some (.slice sa f.sets.length sc) ∧ w'.cell? ⟨gb, 6, none⟩ = some (.int .i64 f.code) ∧ w'.cell? ⟨gb, 7, none⟩ = some (.int .i64 f.last) ∧ w'.cell? ⟨gb, 8, none⟩ = some (.int .i64 f.inc) ∧ w'.cell? ⟨gb, 9, none⟩ = some (.int .i64 f.dep) ∧ w'.cell? ⟨gb, 10, none⟩ = some (.int .i64 f.weight) ∧ w'.cell? ⟨gb, 11, none⟩ = some (.bool f.sole) ∧ w'.cell? ⟨xb, 0, none⟩ = some (.bool x.is) ∧ w'.cell? ⟨xb, 1, none⟩ = some (.int .i64 x.code) ∧ w'.cell? ⟨xb, 2, none⟩ = some (.int .i64 x.stream)) v := ⟨cell_at hg 0, cell_at hg 1, cell_at hg 2, cell_at hg 3, cell_at hg 4, cell_at hg 5, cell_at hg 6, cell_at hg 7, cell_at hg 8, cell_at hg 9, cell_at hg 10, cell_at hg 11, cell_at hx 0, cell_at hx 1, cell_at hx 2⟩
  dsimp only at hHeld
  refine wpAnyH_take (i := 0) (oi := _) (v := ?_) rfl (by kernel_rfl) (by kernel_rfl) (by kernel_rfl) (fun _ _ _ h => h) (Or.inl ⟨by rfl, ?_⟩) (by assumption) ?_
  rotate_left 1
  · intro w hSw
    try dsimp only at hSw
    first | (go_simp; done) | (go_simp; with_reducible rfl)
  try simp only [Act.put, List.setIfInBounds_toArray, List.set_cons_zero, List.set_cons_succ]
  exact nx7n_p3 hgi hxi hQ _ _ hg hx hi hk (Fr.Is.mk rfl rfl)

set_option maxRecDepth 100000 in
set_option maxHeartbeats 1000000 in
theorem nx7n_p1 {Q : Exit → Act → World → Prop} {fb ib gb xb : Nat} {f : FrM} {sa : Option Addr} {sc : Nat} {x : FaM} {w : World} (hgi : gb ≠ ib) (hxi : xb ≠ ib)
    (hQ : Hid (∀ a' w', Fr.Is 55 [(2, .pointer (some ⟨ib, 0, none⟩)), (3, .bool x.is)] a' → w'.heap[ib]? = some (.cells (itC f sa sc x) 42 (0, 0)) → Kept [ib] w w' → Q .normal a' w'))
    (a : Act) (v : World) (hg : v.heap[gb]? = some (.cells (frC f sa sc) 40 (0, 0))) (hx : v.heap[xb]? = some (.cells (faC x) 37 (0, 0))) (hi : v.heap[ib]? = some (.cells itZ 42 (0, 0))) (hk : Kept [ib] w v) (ha : Fr.Is 55 [(0, .pointer (some ⟨fb, 0, none⟩)), (2, .pointer (some ⟨ib, 0, none⟩)), (4, .pointer (some ⟨gb, 0, none⟩)), (5, .int .i64 0), (6, .pointer (some ⟨xb, 0, none⟩)), (50, .bool false), (51, .bool false)] a) :
    wpAnyH Tryd.prog .any (opsOf (Fr.reg Tryd.f28 7)) (NoPanic Q) (fun w' => w'.cell? ⟨gb, 0, none⟩ = some (.int .i64 f.type) ∧ w'.cell? ⟨gb, 1, none⟩ = some (.int .i64 f.flags) ∧ w'.cell? ⟨gb, 2, none⟩ = some (.int .i64 f.stream) ∧ w'.cell? ⟨gb, 3, none⟩ = some (.string f.data) ∧ w'.cell? ⟨gb, 4, none⟩ = some (.int .i64 f.pad) ∧ w'.cell? ⟨gb, 5, none⟩ = some (.slice sa f.sets.length sc) ∧ w'.cell? ⟨gb, 6, none⟩ = some (.int .i64 f.code) ∧ w'.cell? ⟨gb, 7, none⟩ = some (.int .i64 f.last) ∧ w'.cell? ⟨gb, 8, none⟩ = some (.int .i64 f.inc) ∧ w'.cell? ⟨gb, 9, none⟩ = some (.int .i64 f.dep) ∧ w'.cell? ⟨gb, 10, none⟩ = some (.int .i64 f.weight) ∧ w'.cell? ⟨gb, 11, none⟩ = some (.bool f.sole) ∧ w'.cell? ⟨xb, 0, none⟩ = some (.bool x.is) ∧ w'.cell? ⟨xb, 1, none⟩ = some (.int .i64 x.code) ∧ w'.cell? ⟨xb, 2, none⟩ = some (.int .i64 x.stream)) 8 #[false, false, false, true, true, true, false, false, false, false, false] a v := by
  obtain ⟨fr, rfl, hfr⟩ := ha.lit
  simp only [List.map_cons, List.map_nil, List.cons.injEq, and_true] at hfr
  conv => arg 3; whnf
  simp only [List.range, List.range.loop, List.map_cons, List.map_nil, hfr]
  clear hfr ha
  have hHeld : (fun w' => w'.cell? ⟨gb, 0, none⟩ = some (.int .i64 f.type) ∧ w'.cell? ⟨gb, 1, none⟩ = some (.int .i64 f.flags) ∧ w'.cell? ⟨gb, 2, none⟩ = some (.int .i64 f.stream) ∧ w'.cell? ⟨gb, 3, none⟩ = some (.string f.data) ∧ w'.cell? ⟨gb, 4, none⟩ = some (.int .i64 f.pad) ∧ w'.cell? ⟨gb, 5, none⟩ = some (.slice sa f.sets.length sc) ∧ w'.cell? ⟨gb, 6, none⟩ = some (.int .i64 f.code) ∧ w'.cell? ⟨gb, 7, none⟩ = some (.int .i64 f.last) ∧ w'.cell? ⟨gb, 8, none⟩ = some (.int .i64 f.inc) ∧ w'.cell? ⟨gb, 9, none⟩ = some (.int .i64 f.dep) ∧ w'.cell? ⟨gb, 10, none⟩ = some (.int .i64 f.weight) ∧ w'.cell? ⟨gb, 11, none⟩ = some (.bool f.sole) ∧ w'.cell? ⟨xb, 0, none⟩ = some (.bool x.is) ∧ w'.cell? ⟨xb, 1, none⟩ = some (.int .i64 x.code) ∧ w'.cell? ⟨xb, 2, none⟩ = some (.int .i64 x.stream)) v := ⟨cell_at hg 0, cell_at hg 1, cell_at hg 2, cell_at hg 3, cell_at hg 4, cell_at hg 5, cell_at hg 6, cell_at hg 7, cell_at hg 8, cell_at hg 9, cell_at hg 10, cell_at hg 11, cell_at hx 0, cell_at hx 1, cell_at hx 2⟩
  dsimp only at hHeld
  refine wpAnyH_take (i := 6) (oi := _) (v := ?_) rfl (by kernel_rfl) (by kernel_rfl) (by kernel_rfl) (fun _ _ _ h => h) (Or.inl ⟨by rfl, ?_⟩) (by assumption) ?_
  rotate_left 1
  · intro w hSw
    try dsimp only at hSw
    first | (go_simp; done) | (go_simp; with_reducible rfl)
  try simp only [Act.put, List.setIfInBounds_toArray, List.set_cons_zero, List.set_cons_succ]
  refine wpAnyH_take (i := 7) (oi := _) (v := ?_) rfl (by kernel_rfl) (by kernel_rfl) (by kernel_rfl) (fun _ _ _ h => h) (Or.inl ⟨by rfl, ?_⟩) (by assumption) ?_
  rotate_left 1
  · intro w hSw
    try dsimp only at hSw
    first | (go_simp; done) | (go_simp; with_reducible rfl)
  try simp only [Act.put, List.setIfInBounds_toArray, List.set_cons_zero, List.set_cons_succ]
  refine wpAnyH_take (i := 8) (oi := _) (v := ?_) rfl (by kernel_rfl) (by kernel_rfl) (by kernel_rfl) (fun _ _ _ h => h) (Or.inl ⟨by rfl, ?_⟩) (by assumption) ?_
  rotate_left 1
  · intro w hSw
    try dsimp only at hSw
    first | (go_simp; done) | (go_simp; with_reducible rfl)
  try simp only [Act.put, List.setIfInBounds_toArray, List.set_cons_zero, List.set_cons_succ]
  exact nx7n_p2 hgi hxi hQ _ _ hg hx hi hk (Fr.Is.mk rfl rfl)

set_option maxRecDepth 100000 in
set_option maxHeartbeats 1000000 in
theorem nx7n_i {Q : Exit → Act → World → Prop} {fb ib gb xb : Nat} {f : FrM} {sa : Option Addr} {sc : Nat} {x : FaM} {w : World} (hgi : gb ≠ ib) (hxi : xb ≠ ib)
    (hQ : Hid (∀ a' w', Fr.Is 55 [(2, .pointer (some ⟨ib, 0, none⟩)), (3, .bool x.is)] a' → w'.heap[ib]? = some (.cells (itC f sa sc x) 42 (0, 0)) → Kept [ib] w w' → Q .normal a' w'))
    (a : Act) (v : World) (hg : v.heap[gb]? = some (.cells (frC f sa sc) 40 (0, 0))) (hx : v.heap[xb]? = some (.cells (faC x) 37 (0, 0))) (hi : v.heap[ib]? = some (.cells itZ 42 (0, 0))) (hk : Kept [ib] w v) (ha : Fr.Is 55 [(0, .pointer (some ⟨fb, 0, none⟩)), (2, .pointer (some ⟨ib, 0, none⟩)), (4, .pointer (some ⟨gb, 0, none⟩)), (5, .int .i64 0), (6, .pointer (some ⟨xb, 0, none⟩))] a) :
    wpAnyH Tryd.prog .any (opsOf (Fr.reg Tryd.f28 7)) (NoPanic Q) (fun w' => w'.cell? ⟨gb, 0, none⟩ = some (.int .i64 f.type) ∧ w'.cell? ⟨gb, 1, none⟩ = some (.int .i64 f.flags) ∧ w'.cell? ⟨gb, 2, none⟩ = some (.int .i64 f.stream) ∧ w'.cell? ⟨gb, 3, none⟩ = some (.string f.data) ∧ w'.cell? ⟨gb, 4, none⟩ = some (.int .i64 f.pad) ∧ w'.cell? ⟨gb, 5, none⟩ = some (.slice sa f.sets.length sc) ∧ w'.cell? ⟨gb, 6, none⟩ = some (.int .i64 f.code) ∧ w'.cell? ⟨gb, 7, none⟩ = some (.int .i64 f.last) ∧ w'.cell? ⟨gb, 8, none⟩ = some (.int .i64 f.inc) ∧ w'.cell? ⟨gb, 9, none⟩ = some (.int .i64 f.dep) ∧ w'.cell? ⟨gb, 10, none⟩ = some (.int .i64 f.weight) ∧ w'.cell? ⟨gb, 11, none⟩ = some (.bool f.sole) ∧ w'.cell? ⟨xb, 0, none⟩ = some (.bool x.is) ∧ w'.cell? ⟨xb, 1, none⟩ = some (.int .i64 x.code) ∧ w'.cell? ⟨xb, 2, none⟩ = some (.int .i64 x.stream)) 11 #[false, false, false, false, false, false, false, false, false, false, false] a v := by
  obtain ⟨fr, rfl, hfr⟩ := ha.lit
  simp only [List.map_cons, List.map_nil, List.cons.injEq, and_true] at hfr
  conv => arg 3; whnf
  simp only [List.range, List.range.loop, List.map_cons, List.map_nil, hfr]
  clear hfr ha
  have hHeld : (fun w' => w'.cell? ⟨gb, 0, none⟩ = some (.int .i64 f.type) ∧ w'.cell? ⟨gb, 1, none⟩ = some (.int .i64 f.flags) ∧ w'.cell? ⟨gb, 2, none⟩ = some (.int .i64 f.stream) ∧ w'.cell? ⟨gb, 3, none⟩ = some (.string f.data) ∧ w'.cell? ⟨gb, 4, none⟩ = some (.int .i64 f.pad) ∧ w'.cell? ⟨gb, 5, none⟩ = some (.slice sa f.sets.length sc) ∧ w'.cell? ⟨gb, 6, none⟩ = some (.int .i64 f.code) ∧ w'.cell? ⟨gb, 7, none⟩ = some (.int .i64 f.last) ∧ w'.cell? ⟨gb, 8, none⟩ = some (.int .i64 f.inc) ∧ w'.cell? ⟨gb, 9, none⟩ = some (.int .i64 f.dep) ∧ w'.cell? ⟨gb, 10, none⟩ = some (.int .i64 f.weight) ∧ w'.cell? ⟨gb, 11, none⟩ = some (.bool f.sole) ∧ w'.cell? ⟨xb, 0, none⟩ = some (.bool x.is) ∧ w'.cell? ⟨xb, 1, none⟩ = some (.int .i64 x.code) ∧ w'.cell? ⟨xb, 2, none⟩ = some (.int .i64 x.stream)) v := ⟨cell_at hg 0, cell_at hg 1, cell_at hg 2, cell_at hg 3, cell_at hg 4, cell_at hg 5, cell_at hg 6, cell_at hg 7, cell_at hg 8, cell_at hg 9, cell_at hg 10, cell_at hg 11, cell_at hx 0, cell_at hx 1, cell_at hx 2⟩
  dsimp only at hHeld
  refine wpAnyH_take (i := 3) (oi := _) (v := ?_) rfl (by kernel_rfl) (by kernel_rfl) (by kernel_rfl) (fun _ _ _ h => h) (Or.inl ⟨by rfl, ?_⟩) (by assumption) ?_
  rotate_left 1
  · intro w hSw
    try dsimp only at hSw
    first | (go_simp; done) | (go_simp; with_reducible rfl)
  try simp only [Act.put, List.setIfInBounds_toArray, List.set_cons_zero, List.set_cons_succ]
  refine wpAnyH_take (i := 4) (oi := _) (v := ?_) rfl (by kernel_rfl) (by kernel_rfl) (by kernel_rfl) (fun _ _ _ h => h) (Or.inl ⟨by rfl, ?_⟩) (by assumption) ?_
  rotate_left 1
  · intro w hSw
    try dsimp only at hSw
    first | (go_simp; done) | (go_simp; with_reducible rfl)
  try simp only [Act.put, List.setIfInBounds_toArray, List.set_cons_zero, List.set_cons_succ]
  refine wpAnyH_take (i := 5) (oi := _) (v := ?_) rfl (by kernel_rfl) (by kernel_rfl) (by kernel_rfl) (fun _ _ _ h => h) (Or.inl ⟨by rfl, ?_⟩) (by assumption) ?_
  rotate_left 1
  · intro w hSw
    try dsimp only at hSw
    first | (go_simp; done) | (go_simp; with_reducible rfl)
  try simp only [Act.put, List.setIfInBounds_toArray, List.set_cons_zero, List.set_cons_succ]
  exact nx7n_p1 hgi hxi hQ _ _ hg hx hi hk (Fr.Is.mk rfl rfl)

set_option maxRecDepth 100000 in
set_option maxHeartbeats 1000000 in
theorem nx_r7n {Q : Exit → Act → World → Prop} {fb ib gb xb : Nat} {f : FrM} {sa : Option Addr} {sc : Nat} {x : FaM} {w : World} (hgi : gb ≠ ib) (hxi : xb ≠ ib)
    (hQ : Hid (∀ a' w', Fr.Is 55 [(2, .pointer (some ⟨ib, 0, none⟩)), (3, .bool x.is)] a' → w'.heap[ib]? = some (.cells (itC f sa sc x) 42 (0, 0)) → Kept [ib] w w' → Q .normal a' w'))
    (a : Act) (hg : w.heap[gb]? = some (.cells (frC f sa sc) 40 (0, 0))) (hx : w.heap[xb]? = some (.cells (faC x) 37 (0, 0))) (hi : w.heap[ib]? = some (.cells itZ 42 (0, 0))) (ha : Fr.Is 55 [(0, .pointer (some ⟨fb, 0, none⟩)), (2, .pointer (some ⟨ib, 0, none⟩)), (4, .pointer (some ⟨gb, 0, none⟩)), (5, .int .i64 0), (6, .pointer (some ⟨xb, 0, none⟩))] a) :
    (Fr.reg Tryd.f28 7).wp Tryd.prog Q a w := by
  have hb0 : Below w.heap.size w w.drew := (Below.refl _ _).drew
  have hg0 := block_below hb0 hg
  have hx0 := block_below hb0 hx
  have h := nx7n_i hgi hxi hQ a w.drew hg0 hx0 (block_below hb0 hi) (Kept.refl _ _).drew ha
  conv => arg 2; whnf
  refine wp_region_noPanic ?_
  refine wp_region_held_drew (S := (fun w' => w'.cell? ⟨gb, 0, none⟩ = some (.int .i64 f.type) ∧ w'.cell? ⟨gb, 1, none⟩ = some (.int .i64 f.flags) ∧ w'.cell? ⟨gb, 2, none⟩ = some (.int .i64 f.stream) ∧ w'.cell? ⟨gb, 3, none⟩ = some (.string f.data) ∧ w'.cell? ⟨gb, 4, none⟩ = some (.int .i64 f.pad) ∧ w'.cell? ⟨gb, 5, none⟩ = some (.slice sa f.sets.length sc) ∧ w'.cell? ⟨gb, 6, none⟩ = some (.int .i64 f.code) ∧ w'.cell? ⟨gb, 7, none⟩ = some (.int .i64 f.last) ∧ w'.cell? ⟨gb, 8, none⟩ = some (.int .i64 f.inc) ∧ w'.cell? ⟨gb, 9, none⟩ = some (.int .i64 f.dep) ∧ w'.cell? ⟨gb, 10, none⟩ = some (.int .i64 f.weight) ∧ w'.cell? ⟨gb, 11, none⟩ = some (.bool f.sole) ∧ w'.cell? ⟨xb, 0, none⟩ = some (.bool x.is) ∧ w'.cell? ⟨xb, 1, none⟩ = some (.int .i64 x.code) ∧ w'.cell? ⟨xb, 2, none⟩ = some (.int .i64 x.stream))) (by kernel_rfl) ⟨cell_at hg0 0, cell_at hg0 1, cell_at hg0 2, cell_at hg0 3, cell_at hg0 4, cell_at hg0 5, cell_at hg0 6, cell_at hg0 7, cell_at hg0 8, cell_at hg0 9, cell_at hg0 10, cell_at hg0 11, cell_at hx0 0, cell_at hx0 1, cell_at hx0 2⟩ (fun hHeld => ?_)
  exact h
end Go.Proofs.YtglhdlkmgmbgeaaDoor
