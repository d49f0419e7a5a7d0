/- Layer 6: the program's fill, its two boxes. Layer 6: the program's fill: its other regions. Layer 6: the program's fill. -/
import Derived.Test.YtglhdlkmgmbgeaaDoorGP05
import Derived.BigGuardPart
set_option linter.unusedVariables false
set_option linter.unusedSimpArgs false
namespace Go.Proofs.YtglhdlkmgmbgeaaDoor
open Go.RowKit
open Fra Oct Arg Mem Gen Qu Go.Proofs.YtglhdlkmgmbgeaaDoor.Obj
set_option linter.unusedVariables false
set_option linter.unusedSimpArgs false

theorem new_set (v : World) (b i : Nat) (x : Value) (o : Obj) : ((v.setCell ⟨b, i, none⟩ x).alloc o).heap[v.heap.size]? = some o := by
  have h := heap_alloc_new (v.setCell ⟨b, i, none⟩ x) o
  rwa [show (v.setCell ⟨b, i, none⟩ x).heap.size = v.heap.size by simp [World.setCell]] at h
set_option maxHeartbeats 4000000 in
theorem set7 {w v : World} {b2 : Nat} {p0 p1 p2 p3 p4 p5 p6 q0 q1 q2 q3 q4 q5 q6 : Value} (hv : Below w.heap.size w v)
    (h2 : v.heap[b2]? = some (Obj.cells #[q0, q1, q2, q3, q4, q5, q6] 86 (0, 0))) (hl2 : w.heap.size ≤ b2) :
    Below w.heap.size w (((((((v.setCell ⟨b2, 0, none⟩ p0).setCell ⟨b2, 1, none⟩ p1).setCell ⟨b2, 2, none⟩ p2).setCell ⟨b2, 3, none⟩ p3).setCell ⟨b2, 4, none⟩ p4).setCell ⟨b2, 5, none⟩ p5).setCell ⟨b2, 6, none⟩ p6) ∧
    (((((((v.setCell ⟨b2, 0, none⟩ p0).setCell ⟨b2, 1, none⟩ p1).setCell ⟨b2, 2, none⟩ p2).setCell ⟨b2, 3, none⟩ p3).setCell ⟨b2, 4, none⟩ p4).setCell ⟨b2, 5, none⟩ p5).setCell ⟨b2, 6, none⟩ p6).heap[b2]? = some (Obj.cells #[p0, p1, p2, p3, p4, p5, p6] 86 (0, 0)) ∧
    (((((((v.setCell ⟨b2, 0, none⟩ p0).setCell ⟨b2, 1, none⟩ p1).setCell ⟨b2, 2, none⟩ p2).setCell ⟨b2, 3, none⟩ p3).setCell ⟨b2, 4, none⟩ p4).setCell ⟨b2, 5, none⟩ p5).setCell ⟨b2, 6, none⟩ p6).heap.size = v.heap.size := by
  have k0 := heap_setCell_same _ b2 0 _ _ p0 h2
  have k1 := heap_setCell_same _ b2 1 _ _ p1 k0
  have k2 := heap_setCell_same _ b2 2 _ _ p2 k1
  have k3 := heap_setCell_same _ b2 3 _ _ p3 k2
  have k4 := heap_setCell_same _ b2 4 _ _ p4 k3
  have k5 := heap_setCell_same _ b2 5 _ _ p5 k4
  have k6 := heap_setCell_same _ b2 6 _ _ p6 k5
  have sz : ∀ (w : World) (i : Nat) (y : Value), (w.setCell ⟨b2, i, none⟩ y).heap.size = w.heap.size := fun w i y => by simp [World.setCell]
  refine ⟨?_, k6, ?_⟩
  · exact ((((((hv.setCell (p := ⟨b2, 0, none⟩) hl2 p0).setCell (p := ⟨b2, 1, none⟩) hl2 p1).setCell (p := ⟨b2, 2, none⟩) hl2 p2).setCell (p := ⟨b2, 3, none⟩) hl2 p3).setCell (p := ⟨b2, 4, none⟩) hl2 p4).setCell (p := ⟨b2, 5, none⟩) hl2 p5).setCell (p := ⟨b2, 6, none⟩) hl2 p6
  · exact (sz _ 6 p6).trans ((sz _ 5 p5).trans ((sz _ 4 p4).trans ((sz _ 3 p3).trans ((sz _ 2 p2).trans ((sz _ 1 p1).trans (sz _ 0 p0))))))

set_option maxRecDepth 100000 in
set_option maxHeartbeats 8000000 in
theorem fill_r5 {Q : Exit → Act → World → Prop} {fb rv rb pb n cap : Nat} {ad : Option Addr} {t fl : Int} (a : Act) (w : World) (c0 : w.cell? ⟨fb, 0, none⟩ = some (.int .i64 t)) (c1 : w.cell? ⟨fb, 1, none⟩ = some (.int .i64 fl)) (h0 : 0 ≤ fl) (h1 : fl ≤ 255)
    (ha : Fr.Is 83 [(0, .pointer (some ⟨fb, 0, none⟩)), (1, .slice ad n cap), (4, .pointer (some ⟨rv, 0, none⟩))] a)
    (hQ : Hid (∀ a' w' b1 b2, Fr.Is 83 [(0, .pointer (some ⟨fb, 0, none⟩)), (1, .slice ad n cap), (4, .pointer (some ⟨rv, 0, none⟩)), (5, .pointer (some ⟨b1, 0, none⟩)), (6, .pointer (some ⟨b2, 0, none⟩))] a' → Below w.heap.size w w' → b1 ≠ b2 → w.heap.size ≤ b1 → w.heap.size ≤ b2 → w'.heap[b1]? = some (.cells #[.slice ad n cap] 80 (0, 0)) → w'.heap[b2]? = some (.cells (ptC (partsM t fl)) 86 (0, 0)) → Q .normal a' w')) :
    (Fr.reg Tryd.f38 5).wp Tryd.prog Q a w := by
  obtain ⟨fr, rfl, hfr⟩ := ha.lit
  simp only [List.map_cons, List.map_nil, List.cons.injEq, and_true] at hfr
  conv => arg 2; whnf
  simp only [List.range, List.range.loop, List.map_cons, List.map_nil, hfr]
  clear hfr ha
  have HP := Lib.hid (fun v => pparts_any t fl v h0 h1)
  generalize partsM t fl = p at HP hQ
  unfold ptC at HP hQ
  have hb : Below w.heap.size w w.drew := (Below.refl _ _).drew
  have hfl : fb < w.heap.size := World.block_lt_of_cell? w _ c0
  have hw0 : Below w.heap.size w w.drew := hb
  have d0 := below_cell hw0 c0
  have f0 := below_cell hw0 c1
  have hw1 : Below w.heap.size w (w.alloc (.cells #[.slice none 0 0] 80)).drew := ((Below.refl _ _).alloc (Nat.le_refl _) _).drew
  have d1 := below_cell hw1 c0
  have f1 := below_cell hw1 c1
  have hw2 : Below w.heap.size w (w.alloc (.cells #[.bool false, .bool false, .bool false, .bool false, .bool false, .bool false, .bool false] 86)).drew := ((Below.refl _ _).alloc (Nat.le_refl _) _).drew
  have d2 := below_cell hw2 c0
  have f2 := below_cell hw2 c1
  have hw3 : Below w.heap.size w ((w.alloc (.cells #[.slice none 0 0] 80)).alloc (.cells #[.bool false, .bool false, .bool false, .bool false, .bool false, .bool false, .bool false] 86)).drew := (((Below.refl _ _).alloc (Nat.le_refl _) _).alloc (by simp) _).drew
  have d3 := below_cell hw3 c0
  have f3 := below_cell hw3 c1
  have hw4 : Below w.heap.size w ((w.alloc (.cells #[.bool false, .bool false, .bool false, .bool false, .bool false, .bool false, .bool false] 86)).alloc (.cells #[.slice none 0 0] 80)).drew := (((Below.refl _ _).alloc (Nat.le_refl _) _).alloc (by simp) _).drew
  have d4 := below_cell hw4 c0
  have f4 := below_cell hw4 c1
  have HI : Hid (∀ v, (callFunc 44 #[.int .i64 t, .int .i64 fl]).run Tryd.prog v = .ok (.enter 44 #[.int .i64 t, .int .i64 fl]) v) := Lib.hid (fun v => by simp [go_sem])
  have X0 : Hid (∀ v, Below (w.drew).heap.size (w.drew) v → (Below w.heap.size w v ∧ True) ∧ Hid (∀ a', Fr.Is 83 [(0, .pointer (some ⟨fb, 0, none⟩)), (1, .slice ad n cap), (4, .pointer (some ⟨rv, 0, none⟩)), (5, .pointer (some ⟨v.heap.size, 0, none⟩)), (6, .pointer (some ⟨(v.heap.size + 1), 0, none⟩))] a' → Q .normal a' ((v.alloc (.cells #[.slice ad n cap] 80)).alloc (.cells #[.bool p.pad, .bool p.order, .bool p.last, .bool p.code, .bool p.inc, .bool p.sets, .bool p.data] 86))) ∧ Hid (∀ a', Fr.Is 83 [(0, .pointer (some ⟨fb, 0, none⟩)), (1, .slice ad n cap), (4, .pointer (some ⟨rv, 0, none⟩)), (5, .pointer (some ⟨(v.heap.size + 1), 0, none⟩)), (6, .pointer (some ⟨v.heap.size, 0, none⟩))] a' → Q .normal a' ((v.alloc (.cells #[.bool p.pad, .bool p.order, .bool p.last, .bool p.code, .bool p.inc, .bool p.sets, .bool p.data] 86)).alloc (.cells #[.slice ad n cap] 80)))) := Lib.hid (fun v hv => by
    have hbv := below_step hw0 hv
    exact ⟨⟨below_step hw0 hv, trivial⟩, Lib.hid (fun a' ha' => by
      have hs := hbv.size
      have hne : v.heap.size ≠ (v.heap.size + 1) := by omega
      exact hQ.out _ _ v.heap.size (v.heap.size + 1) ha' ((hbv.alloc hbv.size _).alloc (Nat.le_trans hbv.size (by simp)) _) hne (by omega) (by omega) (alloc_at (heap_alloc_new v (.cells #[.slice ad n cap] 80))) (alloc_two v (.cells #[.slice ad n cap] 80) (.cells #[.bool p.pad, .bool p.order, .bool p.last, .bool p.code, .bool p.inc, .bool p.sets, .bool p.data] 86))), Lib.hid (fun a' ha' => by
      have hs := hbv.size
      have hne : (v.heap.size + 1) ≠ v.heap.size := by omega
      exact hQ.out _ _ (v.heap.size + 1) v.heap.size ha' ((hbv.alloc hbv.size _).alloc (Nat.le_trans hbv.size (by simp)) _) hne (by omega) (by omega) (alloc_two v (.cells #[.bool p.pad, .bool p.order, .bool p.last, .bool p.code, .bool p.inc, .bool p.sets, .bool p.data] 86) (.cells #[.slice ad n cap] 80)) (alloc_at (heap_alloc_new v (.cells #[.bool p.pad, .bool p.order, .bool p.last, .bool p.code, .bool p.inc, .bool p.sets, .bool p.data] 86))))⟩)
  have X1 : Hid (∀ v, Below ((w.alloc (.cells #[.slice none 0 0] 80)).drew).heap.size ((w.alloc (.cells #[.slice none 0 0] 80)).drew) v → (Below w.heap.size w v ∧ v.cell? ⟨w.heap.size, 0, none⟩ = some (.slice none 0 0) ∧ v.frozen? ⟨w.heap.size, 0, none⟩ = false ∧ v.heap[w.heap.size]? = some (Obj.cells #[.slice none 0 0] 80 (0, 0)) ∧ w.heap.size < v.heap.size ∧ (v.alloc (.cells #[.bool false, .bool false, .bool false, .bool false, .bool false, .bool false, .bool false] 86)).cell? ⟨w.heap.size, 0, none⟩ = some (.slice none 0 0) ∧ (v.alloc (.cells #[.bool false, .bool false, .bool false, .bool false, .bool false, .bool false, .bool false] 86)).frozen? ⟨w.heap.size, 0, none⟩ = false) ∧ Hid (∀ a', Fr.Is 83 [(0, .pointer (some ⟨fb, 0, none⟩)), (1, .slice ad n cap), (4, .pointer (some ⟨rv, 0, none⟩)), (5, .pointer (some ⟨w.heap.size, 0, none⟩)), (6, .pointer (some ⟨v.heap.size, 0, none⟩))] a' → Q .normal a' ((v.setCell ⟨w.heap.size, 0, none⟩ (.slice ad n cap)).alloc (.cells #[.bool p.pad, .bool p.order, .bool p.last, .bool p.code, .bool p.inc, .bool p.sets, .bool p.data] 86)))) := Lib.hid (fun v hv => by
    have h1 : v.heap[w.heap.size]? = some (Obj.cells #[.slice none 0 0] 80 (0, 0)) := block_below hv (heap_alloc_new w _)
    have hbv := below_step hw1 hv
    exact ⟨⟨below_step hw1 hv, cell_at h1 0, frozen_of_row _ _ 0 _ _ h1, h1, (Array.getElem?_eq_some_iff.1 h1).1, cell_at (alloc_at h1) 0, frozen_of_row _ _ 0 _ _ (alloc_at h1)⟩, Lib.hid (fun a' ha' => by
      have hs := hbv.size
      have hne : w.heap.size ≠ v.heap.size := by have := (Array.getElem?_eq_some_iff.1 h1).1; omega
      exact hQ.out _ _ w.heap.size v.heap.size ha' ((hbv.setCell (p := ⟨w.heap.size, 0, none⟩) (Nat.le_refl _) _).alloc (Nat.le_trans hbv.size (by simp [World.setCell])) _) hne (by omega) (by omega) (alloc_at (heap_setCell_same v w.heap.size 0 _ _ (.slice ad n cap) h1)) (new_set v w.heap.size 0 (.slice ad n cap) (.cells #[.bool p.pad, .bool p.order, .bool p.last, .bool p.code, .bool p.inc, .bool p.sets, .bool p.data] 86)))⟩)
  have X2 : Hid (∀ v, Below ((w.alloc (.cells #[.bool false, .bool false, .bool false, .bool false, .bool false, .bool false, .bool false] 86)).drew).heap.size ((w.alloc (.cells #[.bool false, .bool false, .bool false, .bool false, .bool false, .bool false, .bool false] 86)).drew) v → (Below w.heap.size w v ∧ v.cell? ⟨w.heap.size, 0, none⟩ = some (.bool false) ∧ v.frozen? ⟨w.heap.size, 0, none⟩ = false ∧ v.cell? ⟨w.heap.size, 1, none⟩ = some (.bool false) ∧ v.frozen? ⟨w.heap.size, 1, none⟩ = false ∧ v.cell? ⟨w.heap.size, 2, none⟩ = some (.bool false) ∧ v.frozen? ⟨w.heap.size, 2, none⟩ = false ∧ v.cell? ⟨w.heap.size, 3, none⟩ = some (.bool false) ∧ v.frozen? ⟨w.heap.size, 3, none⟩ = false ∧ v.cell? ⟨w.heap.size, 4, none⟩ = some (.bool false) ∧ v.frozen? ⟨w.heap.size, 4, none⟩ = false ∧ v.cell? ⟨w.heap.size, 5, none⟩ = some (.bool false) ∧ v.frozen? ⟨w.heap.size, 5, none⟩ = false ∧ v.cell? ⟨w.heap.size, 6, none⟩ = some (.bool false) ∧ v.frozen? ⟨w.heap.size, 6, none⟩ = false ∧ v.heap[w.heap.size]? = some (Obj.cells #[.bool false, .bool false, .bool false, .bool false, .bool false, .bool false, .bool false] 86 (0, 0)) ∧ w.heap.size < v.heap.size ∧ (v.alloc (.cells #[.slice none 0 0] 80)).cell? ⟨w.heap.size, 0, none⟩ = some (.bool false) ∧ (v.alloc (.cells #[.slice none 0 0] 80)).frozen? ⟨w.heap.size, 0, none⟩ = false ∧ (v.alloc (.cells #[.slice none 0 0] 80)).cell? ⟨w.heap.size, 1, none⟩ = some (.bool false) ∧ (v.alloc (.cells #[.slice none 0 0] 80)).frozen? ⟨w.heap.size, 1, none⟩ = false ∧ (v.alloc (.cells #[.slice none 0 0] 80)).cell? ⟨w.heap.size, 2, none⟩ = some (.bool false) ∧ (v.alloc (.cells #[.slice none 0 0] 80)).frozen? ⟨w.heap.size, 2, none⟩ = false ∧ (v.alloc (.cells #[.slice none 0 0] 80)).cell? ⟨w.heap.size, 3, none⟩ = some (.bool false) ∧ (v.alloc (.cells #[.slice none 0 0] 80)).frozen? ⟨w.heap.size, 3, none⟩ = false ∧ (v.alloc (.cells #[.slice none 0 0] 80)).cell? ⟨w.heap.size, 4, none⟩ = some (.bool false) ∧ (v.alloc (.cells #[.slice none 0 0] 80)).frozen? ⟨w.heap.size, 4, none⟩ = false ∧ (v.alloc (.cells #[.slice none 0 0] 80)).cell? ⟨w.heap.size, 5, none⟩ = some (.bool false) ∧ (v.alloc (.cells #[.slice none 0 0] 80)).frozen? ⟨w.heap.size, 5, none⟩ = false ∧ (v.alloc (.cells #[.slice none 0 0] 80)).cell? ⟨w.heap.size, 6, none⟩ = some (.bool false) ∧ (v.alloc (.cells #[.slice none 0 0] 80)).frozen? ⟨w.heap.size, 6, none⟩ = false) ∧ Hid (∀ a', Fr.Is 83 [(0, .pointer (some ⟨fb, 0, none⟩)), (1, .slice ad n cap), (4, .pointer (some ⟨rv, 0, none⟩)), (5, .pointer (some ⟨v.heap.size, 0, none⟩)), (6, .pointer (some ⟨w.heap.size, 0, none⟩))] a' → Q .normal a' (((((((((v).setCell ⟨w.heap.size, 0, none⟩ (.bool p.pad)).setCell ⟨w.heap.size, 1, none⟩ (.bool p.order)).setCell ⟨w.heap.size, 2, none⟩ (.bool p.last)).setCell ⟨w.heap.size, 3, none⟩ (.bool p.code)).setCell ⟨w.heap.size, 4, none⟩ (.bool p.inc)).setCell ⟨w.heap.size, 5, none⟩ (.bool p.sets)).setCell ⟨w.heap.size, 6, none⟩ (.bool p.data)).alloc (.cells #[.slice ad n cap] 80)))) := Lib.hid (fun v hv => by
    have h1 : v.heap[w.heap.size]? = some (Obj.cells #[.bool false, .bool false, .bool false, .bool false, .bool false, .bool false, .bool false] 86 (0, 0)) := block_below hv (heap_alloc_new w _)
    have hbv := below_step hw2 hv
    exact ⟨⟨below_step hw2 hv, cell_at h1 0, frozen_of_row _ _ 0 _ _ h1, cell_at h1 1, frozen_of_row _ _ 1 _ _ h1, cell_at h1 2, frozen_of_row _ _ 2 _ _ h1, cell_at h1 3, frozen_of_row _ _ 3 _ _ h1, cell_at h1 4, frozen_of_row _ _ 4 _ _ h1, cell_at h1 5, frozen_of_row _ _ 5 _ _ h1, cell_at h1 6, frozen_of_row _ _ 6 _ _ h1, h1, (Array.getElem?_eq_some_iff.1 h1).1, cell_at (alloc_at h1) 0, frozen_of_row _ _ 0 _ _ (alloc_at h1), cell_at (alloc_at h1) 1, frozen_of_row _ _ 1 _ _ (alloc_at h1), cell_at (alloc_at h1) 2, frozen_of_row _ _ 2 _ _ (alloc_at h1), cell_at (alloc_at h1) 3, frozen_of_row _ _ 3 _ _ (alloc_at h1), cell_at (alloc_at h1) 4, frozen_of_row _ _ 4 _ _ (alloc_at h1), cell_at (alloc_at h1) 5, frozen_of_row _ _ 5 _ _ (alloc_at h1), cell_at (alloc_at h1) 6, frozen_of_row _ _ 6 _ _ (alloc_at h1)⟩, Lib.hid (fun a' ha' => by
      have hs := hbv.size
      have hne : v.heap.size ≠ w.heap.size := by have := (Array.getElem?_eq_some_iff.1 h1).1; omega
      exact hQ.out _ _ v.heap.size w.heap.size ha' (let F := set7 (p0 := .bool p.pad) (p1 := .bool p.order) (p2 := .bool p.last) (p3 := .bool p.code) (p4 := .bool p.inc) (p5 := .bool p.sets) (p6 := .bool p.data) hbv h1 (Nat.le_refl _); (F.1.alloc (by rw [F.2.2]; exact hbv.size) _)) hne (by omega) (by omega) (by have F := set7 (p0 := .bool p.pad) (p1 := .bool p.order) (p2 := .bool p.last) (p3 := .bool p.code) (p4 := .bool p.inc) (p5 := .bool p.sets) (p6 := .bool p.data) hbv h1 (Nat.le_refl _); have h9 := heap_alloc_new ((((((((v).setCell ⟨w.heap.size, 0, none⟩ (.bool p.pad)).setCell ⟨w.heap.size, 1, none⟩ (.bool p.order)).setCell ⟨w.heap.size, 2, none⟩ (.bool p.last)).setCell ⟨w.heap.size, 3, none⟩ (.bool p.code)).setCell ⟨w.heap.size, 4, none⟩ (.bool p.inc)).setCell ⟨w.heap.size, 5, none⟩ (.bool p.sets)).setCell ⟨w.heap.size, 6, none⟩ (.bool p.data)) (.cells #[.slice ad n cap] 80); rw [F.2.2] at h9; exact h9) (let F := set7 (p0 := .bool p.pad) (p1 := .bool p.order) (p2 := .bool p.last) (p3 := .bool p.code) (p4 := .bool p.inc) (p5 := .bool p.sets) (p6 := .bool p.data) hbv h1 (Nat.le_refl _); alloc_at F.2.1))⟩)
  have X3 : Hid (∀ v, Below (((w.alloc (.cells #[.slice none 0 0] 80)).alloc (.cells #[.bool false, .bool false, .bool false, .bool false, .bool false, .bool false, .bool false] 86)).drew).heap.size (((w.alloc (.cells #[.slice none 0 0] 80)).alloc (.cells #[.bool false, .bool false, .bool false, .bool false, .bool false, .bool false, .bool false] 86)).drew) v → (Below w.heap.size w v ∧ v.cell? ⟨w.heap.size, 0, none⟩ = some (.slice none 0 0) ∧ v.frozen? ⟨w.heap.size, 0, none⟩ = false ∧ v.heap[w.heap.size]? = some (Obj.cells #[.slice none 0 0] 80 (0, 0)) ∧ v.cell? ⟨(w.heap.size + 1), 0, none⟩ = some (.bool false) ∧ v.frozen? ⟨(w.heap.size + 1), 0, none⟩ = false ∧ v.cell? ⟨(w.heap.size + 1), 1, none⟩ = some (.bool false) ∧ v.frozen? ⟨(w.heap.size + 1), 1, none⟩ = false ∧ v.cell? ⟨(w.heap.size + 1), 2, none⟩ = some (.bool false) ∧ v.frozen? ⟨(w.heap.size + 1), 2, none⟩ = false ∧ v.cell? ⟨(w.heap.size + 1), 3, none⟩ = some (.bool false) ∧ v.frozen? ⟨(w.heap.size + 1), 3, none⟩ = false ∧ v.cell? ⟨(w.heap.size + 1), 4, none⟩ = some (.bool false) ∧ v.frozen? ⟨(w.heap.size + 1), 4, none⟩ = false ∧ v.cell? ⟨(w.heap.size + 1), 5, none⟩ = some (.bool false) ∧ v.frozen? ⟨(w.heap.size + 1), 5, none⟩ = false ∧ v.cell? ⟨(w.heap.size + 1), 6, none⟩ = some (.bool false) ∧ v.frozen? ⟨(w.heap.size + 1), 6, none⟩ = false ∧ v.heap[(w.heap.size + 1)]? = some (Obj.cells #[.bool false, .bool false, .bool false, .bool false, .bool false, .bool false, .bool false] 86 (0, 0))) ∧ Hid (∀ a', Fr.Is 83 [(0, .pointer (some ⟨fb, 0, none⟩)), (1, .slice ad n cap), (4, .pointer (some ⟨rv, 0, none⟩)), (5, .pointer (some ⟨w.heap.size, 0, none⟩)), (6, .pointer (some ⟨(w.heap.size + 1), 0, none⟩))] a' → Q .normal a' (((((((((v).setCell ⟨w.heap.size, 0, none⟩ (.slice ad n cap)).setCell ⟨(w.heap.size + 1), 0, none⟩ (.bool p.pad)).setCell ⟨(w.heap.size + 1), 1, none⟩ (.bool p.order)).setCell ⟨(w.heap.size + 1), 2, none⟩ (.bool p.last)).setCell ⟨(w.heap.size + 1), 3, none⟩ (.bool p.code)).setCell ⟨(w.heap.size + 1), 4, none⟩ (.bool p.inc)).setCell ⟨(w.heap.size + 1), 5, none⟩ (.bool p.sets)).setCell ⟨(w.heap.size + 1), 6, none⟩ (.bool p.data)))) := Lib.hid (fun v hv => by
    have h0 := heap_alloc_new w (.cells #[.slice none 0 0] 80)
    have hsz : (w.alloc (.cells #[.slice none 0 0] 80)).heap.size = w.heap.size + 1 := by simp
    have h2a := heap_alloc_new (w.alloc (.cells #[.slice none 0 0] 80)) (.cells #[.bool false, .bool false, .bool false, .bool false, .bool false, .bool false, .bool false] 86)
    rw [hsz] at h2a
    have h1a := alloc_at h0 (p := (.cells #[.bool false, .bool false, .bool false, .bool false, .bool false, .bool false, .bool false] 86))
    have h1 : v.heap[w.heap.size]? = some (Obj.cells #[.slice none 0 0] 80 (0, 0)) := block_below hv h1a
    have h2 : v.heap[w.heap.size + 1]? = some (Obj.cells #[.bool false, .bool false, .bool false, .bool false, .bool false, .bool false, .bool false] 86 (0, 0)) := block_below hv h2a
    have hbv := below_step hw3 hv
    exact ⟨⟨below_step hw3 hv, cell_at h1 0, frozen_of_row _ _ 0 _ _ h1, h1, cell_at h2 0, frozen_of_row _ _ 0 _ _ h2, cell_at h2 1, frozen_of_row _ _ 1 _ _ h2, cell_at h2 2, frozen_of_row _ _ 2 _ _ h2, cell_at h2 3, frozen_of_row _ _ 3 _ _ h2, cell_at h2 4, frozen_of_row _ _ 4 _ _ h2, cell_at h2 5, frozen_of_row _ _ 5 _ _ h2, cell_at h2 6, frozen_of_row _ _ 6 _ _ h2, h2⟩, Lib.hid (fun a' ha' => by
      have hs := hbv.size
      have hne : w.heap.size ≠ (w.heap.size + 1) := by omega
      have F := fin5 (b1 := w.heap.size) (b2 := (w.heap.size + 1)) (x := .slice ad n cap) (p0 := .bool p.pad) (p1 := .bool p.order) (p2 := .bool p.last) (p3 := .bool p.code) (p4 := .bool p.inc) (p5 := .bool p.sets) (p6 := .bool p.data) hbv h1 h2 hne (by omega) (by omega)
      exact hQ.out _ _ w.heap.size (w.heap.size + 1) ha' F.1 hne (by omega) (by omega) F.2.1 F.2.2)⟩)
  have X4 : Hid (∀ v, Below (((w.alloc (.cells #[.bool false, .bool false, .bool false, .bool false, .bool false, .bool false, .bool false] 86)).alloc (.cells #[.slice none 0 0] 80)).drew).heap.size (((w.alloc (.cells #[.bool false, .bool false, .bool false, .bool false, .bool false, .bool false, .bool false] 86)).alloc (.cells #[.slice none 0 0] 80)).drew) v → (Below w.heap.size w v ∧ v.cell? ⟨(w.heap.size + 1), 0, none⟩ = some (.slice none 0 0) ∧ v.frozen? ⟨(w.heap.size + 1), 0, none⟩ = false ∧ v.heap[(w.heap.size + 1)]? = some (Obj.cells #[.slice none 0 0] 80 (0, 0)) ∧ v.cell? ⟨w.heap.size, 0, none⟩ = some (.bool false) ∧ v.frozen? ⟨w.heap.size, 0, none⟩ = false ∧ v.cell? ⟨w.heap.size, 1, none⟩ = some (.bool false) ∧ v.frozen? ⟨w.heap.size, 1, none⟩ = false ∧ v.cell? ⟨w.heap.size, 2, none⟩ = some (.bool false) ∧ v.frozen? ⟨w.heap.size, 2, none⟩ = false ∧ v.cell? ⟨w.heap.size, 3, none⟩ = some (.bool false) ∧ v.frozen? ⟨w.heap.size, 3, none⟩ = false ∧ v.cell? ⟨w.heap.size, 4, none⟩ = some (.bool false) ∧ v.frozen? ⟨w.heap.size, 4, none⟩ = false ∧ v.cell? ⟨w.heap.size, 5, none⟩ = some (.bool false) ∧ v.frozen? ⟨w.heap.size, 5, none⟩ = false ∧ v.cell? ⟨w.heap.size, 6, none⟩ = some (.bool false) ∧ v.frozen? ⟨w.heap.size, 6, none⟩ = false ∧ v.heap[w.heap.size]? = some (Obj.cells #[.bool false, .bool false, .bool false, .bool false, .bool false, .bool false, .bool false] 86 (0, 0))) ∧ Hid (∀ a', Fr.Is 83 [(0, .pointer (some ⟨fb, 0, none⟩)), (1, .slice ad n cap), (4, .pointer (some ⟨rv, 0, none⟩)), (5, .pointer (some ⟨(w.heap.size + 1), 0, none⟩)), (6, .pointer (some ⟨w.heap.size, 0, none⟩))] a' → Q .normal a' (((((((((v).setCell ⟨(w.heap.size + 1), 0, none⟩ (.slice ad n cap)).setCell ⟨w.heap.size, 0, none⟩ (.bool p.pad)).setCell ⟨w.heap.size, 1, none⟩ (.bool p.order)).setCell ⟨w.heap.size, 2, none⟩ (.bool p.last)).setCell ⟨w.heap.size, 3, none⟩ (.bool p.code)).setCell ⟨w.heap.size, 4, none⟩ (.bool p.inc)).setCell ⟨w.heap.size, 5, none⟩ (.bool p.sets)).setCell ⟨w.heap.size, 6, none⟩ (.bool p.data)))) := Lib.hid (fun v hv => by
    have h0 := heap_alloc_new w (.cells #[.bool false, .bool false, .bool false, .bool false, .bool false, .bool false, .bool false] 86)
    have hsz : (w.alloc (.cells #[.bool false, .bool false, .bool false, .bool false, .bool false, .bool false, .bool false] 86)).heap.size = w.heap.size + 1 := by simp
    have h2a := heap_alloc_new (w.alloc (.cells #[.bool false, .bool false, .bool false, .bool false, .bool false, .bool false, .bool false] 86)) (.cells #[.slice none 0 0] 80)
    rw [hsz] at h2a
    have h1a := alloc_at h0 (p := (.cells #[.slice none 0 0] 80))
    have h1 : v.heap[w.heap.size + 1]? = some (Obj.cells #[.slice none 0 0] 80 (0, 0)) := block_below hv h2a
    have h2 : v.heap[w.heap.size]? = some (Obj.cells #[.bool false, .bool false, .bool false, .bool false, .bool false, .bool false, .bool false] 86 (0, 0)) := block_below hv h1a
    have hbv := below_step hw4 hv
    exact ⟨⟨below_step hw4 hv, cell_at h1 0, frozen_of_row _ _ 0 _ _ h1, h1, cell_at h2 0, frozen_of_row _ _ 0 _ _ h2, cell_at h2 1, frozen_of_row _ _ 1 _ _ h2, cell_at h2 2, frozen_of_row _ _ 2 _ _ h2, cell_at h2 3, frozen_of_row _ _ 3 _ _ h2, cell_at h2 4, frozen_of_row _ _ 4 _ _ h2, cell_at h2 5, frozen_of_row _ _ 5 _ _ h2, cell_at h2 6, frozen_of_row _ _ 6 _ _ h2, h2⟩, Lib.hid (fun a' ha' => by
      have hs := hbv.size
      have hne : (w.heap.size + 1) ≠ w.heap.size := by omega
      have F := fin5 (b1 := (w.heap.size + 1)) (b2 := w.heap.size) (x := .slice ad n cap) (p0 := .bool p.pad) (p1 := .bool p.order) (p2 := .bool p.last) (p3 := .bool p.code) (p4 := .bool p.inc) (p5 := .bool p.sets) (p6 := .bool p.data) hbv h1 h2 hne (by omega) (by omega)
      exact hQ.out _ _ (w.heap.size + 1) w.heap.size ha' F.1 hne (by omega) (by omega) F.2.1 F.2.2)⟩)
  clear c0 c1 hb hQ
  refine wp_region_noPanic ?_
  go_region_law (refine Wr.step_call rfl 44 [.tmp 37, .tmp 41] _ rfl [.int .i64 t, .int .i64 fl] rfl HI.out (HP.out _) ?_; rintro e w1 ⟨rfl, b1⟩; refine ⟨_, rfl, ?_⟩; first | (have hX1 := (X1.out _ b1).1) | (have hX2 := (X2.out _ b1).1) | (have hX3 := (X3.out _ b1).1) | (have hX4 := (X4.out _ b1).1) | (have hX0 := (X0.out _ b1).1))
  all_goals first
    | (have hh := hX1; clear hh; exact (X1.out _ b1).2.out _ (Fr.Is.mk rfl rfl))
    | (have hh := hX2; clear hh; exact (X2.out _ b1).2.out _ (Fr.Is.mk rfl rfl))
    | (have hh := hX3; clear hh; exact (X3.out _ b1).2.out _ (Fr.Is.mk rfl rfl))
    | (have hh := hX4; clear hh; exact (X4.out _ b1).2.out _ (Fr.Is.mk rfl rfl))
    | (have hh := hX0; clear hh; first | exact (X0.out _ b1).2.1.out _ (Fr.Is.mk rfl rfl) | exact (X0.out _ b1).2.2.out _ (Fr.Is.mk rfl rfl))
end Go.Proofs.YtglhdlkmgmbgeaaDoor

namespace Go.Proofs.YtglhdlkmgmbgeaaDoor
open Go.RowKit
open Fra Oct Arg Mem Gen Qu Go.Proofs.YtglhdlkmgmbgeaaDoor.Obj
set_option linter.unusedVariables false
set_option linter.unusedSimpArgs false

theorem rb_take {w : World} {a : Option Addr} {l : List UInt8} (h : RB w a l) (k : Nat) : RB w a (l.take k) := by
  rcases h with h | ⟨b, off, h, hc⟩
  · subst h; exact .inl (by simp)
  · exact .inr ⟨b, off, h, fun i hi => by rw [List.length_take] at hi; rw [List.getElem_take]; exact hc i (by omega)⟩

set_option maxRecDepth 100000 in
set_option maxHeartbeats 1000000 in
theorem fill_r2 {Q : Exit → Act → World → Prop} {fb rv rb pb n cap : Nat} {ad : Option Addr} {u0 u1 u2 : Value}  (a : Act) (w : World) (hres : w.heap[rv]? = some (Obj.cells #[u0, u1, u2] 37 (0, 0))) 
    (ha : Fr.Is 83 [(0, .pointer (some ⟨fb, 0, none⟩)), (1, .slice ad n cap), (4, .pointer (some ⟨rv, 0, none⟩))] a)
    (hQ : Hid (∀ a' w' w1, Fr.Is 83 [(0, .pointer (some ⟨fb, 0, none⟩)), (1, .slice ad n cap), (4, .pointer (some ⟨rv, 0, none⟩))] a' → w1.heap[rv]? = some (Obj.cells #[u0, u1, u2] 37 (0, 0)) → Below w.heap.size w w1 → w' = ((w1.setCell ⟨rv, 0, none⟩ (.bool ((⟨true, 1, 0⟩ : FaM)).is)).setCell ⟨rv, 1, none⟩ (.int .i64 ((⟨true, 1, 0⟩ : FaM)).code)).setCell ⟨rv, 2, none⟩ (.int .i64 ((⟨true, 1, 0⟩ : FaM)).stream) → Q .normal a' w')) :
    (Fr.reg Tryd.f38 2).wp Tryd.prog Q a w := by
  obtain ⟨fr, rfl, hfr⟩ := ha.lit
  simp only [List.map_cons, List.map_nil, List.cons.injEq, and_true] at hfr
  conv => arg 2; whnf
  simp only [List.range, List.range.loop, List.map_cons, List.map_nil, hfr]
  clear hfr ha
  have HP := Lib.hid (pfault_any 1 0 w)
  have HR := Lib.hid hres
  generalize (⟨true, 1, 0⟩ : FaM) = x at HP hQ
  unfold faV at HP
  clear hres
  go_wp2_with (go_at_call 37; refine HP.out.mono ?_; rintro e w1 ⟨rfl, b1⟩; have hr1 := block_below b1 HR.out; obtain ⟨y0, y1, y2⟩ := fa_cells hr1; have z0 := frozen_of_row _ _ 0 _ _ hr1; have z1 := frozen_of_row _ _ 1 _ _ hr1; have z2 := frozen_of_row _ _ 2 _ _ hr1)
  exact hQ.out _ _ w1 (Fr.Is.mk rfl rfl) hr1 b1 rfl

set_option maxRecDepth 100000 in
set_option maxHeartbeats 1000000 in
theorem fill_r8 {Q : Exit → Act → World → Prop} {fb rv rb pb n cap : Nat} {ad : Option Addr} {u0 u1 u2 : Value}  (a : Act) (w : World) (hres : w.heap[rv]? = some (Obj.cells #[u0, u1, u2] 37 (0, 0))) 
    (ha : Fr.Is 83 [(0, .pointer (some ⟨fb, 0, none⟩)), (1, .slice ad n cap), (4, .pointer (some ⟨rv, 0, none⟩))] a)
    (hQ : Hid (∀ a' w' w1, Fr.Is 83 [(0, .pointer (some ⟨fb, 0, none⟩)), (1, .slice ad n cap), (4, .pointer (some ⟨rv, 0, none⟩))] a' → w1.heap[rv]? = some (Obj.cells #[u0, u1, u2] 37 (0, 0)) → Below w.heap.size w w1 → w' = ((w1.setCell ⟨rv, 0, none⟩ (.bool ((⟨true, 1, 0⟩ : FaM)).is)).setCell ⟨rv, 1, none⟩ (.int .i64 ((⟨true, 1, 0⟩ : FaM)).code)).setCell ⟨rv, 2, none⟩ (.int .i64 ((⟨true, 1, 0⟩ : FaM)).stream) → Q .normal a' w')) :
    (Fr.reg Tryd.f38 8).wp Tryd.prog Q a w := by
  obtain ⟨fr, rfl, hfr⟩ := ha.lit
  simp only [List.map_cons, List.map_nil, List.cons.injEq, and_true] at hfr
  conv => arg 2; whnf
  simp only [List.range, List.range.loop, List.map_cons, List.map_nil, hfr]
  clear hfr ha
  have HP := Lib.hid (pfault_any 1 0 w)
  have HR := Lib.hid hres
  generalize (⟨true, 1, 0⟩ : FaM) = x at HP hQ
  unfold faV at HP
  clear hres
  go_wp2_with (go_at_call 37; refine HP.out.mono ?_; rintro e w1 ⟨rfl, b1⟩; have hr1 := block_below b1 HR.out; obtain ⟨y0, y1, y2⟩ := fa_cells hr1; have z0 := frozen_of_row _ _ 0 _ _ hr1; have z1 := frozen_of_row _ _ 1 _ _ hr1; have z2 := frozen_of_row _ _ 2 _ _ hr1)
  exact hQ.out _ _ w1 (Fr.Is.mk rfl rfl) hr1 b1 rfl

set_option maxRecDepth 100000 in
set_option maxHeartbeats 1000000 in
theorem fill_r4 {Q : Exit → Act → World → Prop} {fb rv rb pb n cap : Nat} {ad : Option Addr} {u0 u1 u2 : Value} {f : FrM} {sa : Option Addr} {sc : Nat} (a : Act) (w : World) (hres : w.heap[rv]? = some (Obj.cells #[u0, u1, u2] 37 (0, 0))) (hF : Fb fb f sa sc w)
    (ha : Fr.Is 83 [(0, .pointer (some ⟨fb, 0, none⟩)), (1, .slice ad n cap), (4, .pointer (some ⟨rv, 0, none⟩))] a)
    (hQ : Hid (∀ a' w' w1, Fr.Is 83 [(0, .pointer (some ⟨fb, 0, none⟩)), (1, .slice ad n cap), (4, .pointer (some ⟨rv, 0, none⟩))] a' → w1.heap[rv]? = some (Obj.cells #[u0, u1, u2] 37 (0, 0)) → Below w.heap.size w w1 → w' = ((w1.setCell ⟨rv, 0, none⟩ (.bool ((if f.type = 2 then ⟨true, 6, f.stream⟩ else ofC 6)).is)).setCell ⟨rv, 1, none⟩ (.int .i64 ((if f.type = 2 then ⟨true, 6, f.stream⟩ else ofC 6)).code)).setCell ⟨rv, 2, none⟩ (.int .i64 ((if f.type = 2 then ⟨true, 6, f.stream⟩ else ofC 6)).stream) → Q .normal a' w')) :
    (Fr.reg Tryd.f38 4).wp Tryd.prog Q a w := by
  obtain ⟨fr, rfl, hfr⟩ := ha.lit
  simp only [List.map_cons, List.map_nil, List.cons.injEq, and_true] at hfr
  conv => arg 2; whnf
  simp only [List.range, List.range.loop, List.map_cons, List.map_nil, hfr]
  clear hfr ha
  have HP := Lib.hid (pwrongsize_any fb f sa sc w hF)
  have HR := Lib.hid hres
  generalize (if f.type = 2 then ⟨true, 6, f.stream⟩ else ofC 6) = x at HP hQ
  unfold faV at HP
  clear hres
  go_wp2_with (go_at_call 43; refine HP.out.mono ?_; rintro e w1 ⟨rfl, b1⟩; have hr1 := block_below b1 HR.out; obtain ⟨y0, y1, y2⟩ := fa_cells hr1; have z0 := frozen_of_row _ _ 0 _ _ hr1; have z1 := frozen_of_row _ _ 1 _ _ hr1; have z2 := frozen_of_row _ _ 2 _ _ hr1)
  exact hQ.out _ _ w1 (Fr.Is.mk rfl rfl) hr1 b1 rfl

set_option maxRecDepth 100000 in
set_option maxHeartbeats 1000000 in
theorem fill_r14 {Q : Exit → Act → World → Prop} {fb rv rb pb n cap : Nat} {ad : Option Addr} {u0 u1 u2 : Value} {f : FrM} {sa : Option Addr} {sc : Nat} (a : Act) (w : World) (hres : w.heap[rv]? = some (Obj.cells #[u0, u1, u2] 37 (0, 0))) (hF : Fb fb f sa sc w) (hok : FrOk f sa sc w)
    (ha : Fr.Is 83 [(0, .pointer (some ⟨fb, 0, none⟩)), (1, .slice ad n cap), (4, .pointer (some ⟨rv, 0, none⟩))] a)
    (hQ : Hid (∀ a' w' w1, Fr.Is 83 [(0, .pointer (some ⟨fb, 0, none⟩)), (1, .slice ad n cap), (4, .pointer (some ⟨rv, 0, none⟩))] a' → w1.heap[rv]? = some (Obj.cells #[u0, u1, u2] 37 (0, 0)) → Below w.heap.size w w1 → w' = ((w1.setCell ⟨rv, 0, none⟩ (.bool ((valF f)).is)).setCell ⟨rv, 1, none⟩ (.int .i64 ((valF f)).code)).setCell ⟨rv, 2, none⟩ (.int .i64 ((valF f)).stream) → Q .normal a' w')) :
    (Fr.reg Tryd.f38 14).wp Tryd.prog Q a w := by
  obtain ⟨fr, rfl, hfr⟩ := ha.lit
  simp only [List.map_cons, List.map_nil, List.cons.injEq, and_true] at hfr
  conv => arg 2; whnf
  simp only [List.range, List.range.loop, List.map_cons, List.map_nil, hfr]
  clear hfr ha
  have HP := Lib.hid (pwrongval_any fb f sa sc w hF hok)
  have HR := Lib.hid hres
  generalize (valF f) = x at HP hQ
  unfold faV at HP
  clear hres
  go_wp2_with (go_at_call 47; refine HP.out.mono ?_; rintro e w1 ⟨rfl, b1⟩; have hr1 := block_below b1 HR.out; obtain ⟨y0, y1, y2⟩ := fa_cells hr1; have z0 := frozen_of_row _ _ 0 _ _ hr1; have z1 := frozen_of_row _ _ 1 _ _ hr1; have z2 := frozen_of_row _ _ 2 _ _ hr1)
  exact hQ.out _ _ w1 (Fr.Is.mk rfl rfl) hr1 b1 rfl

set_option maxRecDepth 100000 in
set_option maxHeartbeats 1000000 in
theorem fill_r6 {Q : Exit → Act → World → Prop} {fb rv rb pb n cap : Nat} {ad : Option Addr} {W : World} {p : PtM} {l : List UInt8} {f : FrM} {sa : Option Addr} {sc : Nat} (a : Act) (w : World) (hR : Rd W rb l w) (hF : Fb fb f sa sc w) (hlo : W.heap.size ≤ fb) (hne : fb ≠ rb) (hn : aheadN p ≤ l.length) (hp : w.heap[pb]? = some (.cells (ptC p) 86 (0, 0)))
    (ha : Fr.Is 83 [(0, .pointer (some ⟨fb, 0, none⟩)), (1, .slice ad n cap), (4, .pointer (some ⟨rv, 0, none⟩)), (5, .pointer (some ⟨rb, 0, none⟩)), (6, .pointer (some ⟨pb, 0, none⟩))] a)
    (hQ : Hid (∀ a' w', Fr.Is 83 [(0, .pointer (some ⟨fb, 0, none⟩)), (1, .slice ad n cap), (4, .pointer (some ⟨rv, 0, none⟩)), (5, .pointer (some ⟨rb, 0, none⟩)), (6, .pointer (some ⟨pb, 0, none⟩))] a' → Rd W rb (numF p (f, l)).2 w' → Fb fb (numF p (f, l)).1 sa sc w' → Kept [rb, fb] w w' → Q .normal a' w')) :
    (Fr.reg Tryd.f38 6).wp Tryd.prog Q a w := by
  obtain ⟨fr, rfl, hfr⟩ := ha.lit
  simp only [List.map_cons, List.map_nil, List.cons.injEq, and_true] at hfr
  conv => arg 2; whnf
  simp only [List.range, List.range.loop, List.map_cons, List.map_nil, hfr]
  clear hfr ha
  have HN := Lib.hid (rnumbers_any f l w hR hF hlo hne hn)
  unfold ptC at HN hp
  have q0 := cell_at hp 0
  have q1 := cell_at hp 1
  have q2 := cell_at hp 2
  have q3 := cell_at hp 3
  have q4 := cell_at hp 4
  have q5 := cell_at hp 5
  have q6 := cell_at hp 6
  simp only [List.getElem?_toArray, List.getElem?_cons_zero, List.getElem?_cons_succ] at q0 q1 q2 q3 q4 q5 q6
  clear hR hF hp
  go_wp2_with (go_at_call 45; refine HN.out.mono ?_; rintro e w1 ⟨rfl, r1, f1, k1⟩)
  exact hQ.out _ _ (Fr.Is.mk rfl rfl) r1 f1 k1

set_option maxRecDepth 100000 in
set_option maxHeartbeats 1000000 in
theorem fill_r7 {Q : Exit → Act → World → Prop} {fb rv rb pb n cap : Nat} {ad : Option Addr} {pad : Int} {ad2 : Option Addr} {m cap2 : Nat} (a : Act) (w : World) (c4 : w.cell? ⟨fb, 4, none⟩ = some (.int .i64 pad)) (cr : w.cell? ⟨rb, 0, none⟩ = some (.slice ad2 m cap2))
    (ha : Fr.Is 83 [(0, .pointer (some ⟨fb, 0, none⟩)), (1, .slice ad n cap), (4, .pointer (some ⟨rv, 0, none⟩)), (5, .pointer (some ⟨rb, 0, none⟩)), (6, .pointer (some ⟨pb, 0, none⟩))] a)
    (hQ : Hid (∀ a' w', Fr.Is 83 [(0, .pointer (some ⟨fb, 0, none⟩)), (1, .slice ad n cap), (4, .pointer (some ⟨rv, 0, none⟩)), (5, .pointer (some ⟨rb, 0, none⟩)), (6, .pointer (some ⟨pb, 0, none⟩)), (53, .bool (decide (pad > (m : Int))))] a' → Below w.heap.size w w' → Q .normal a' w')) :
    (Fr.reg Tryd.f38 7).wp Tryd.prog Q a w := by
  obtain ⟨fr, rfl, hfr⟩ := ha.lit
  simp only [List.map_cons, List.map_nil, List.cons.injEq, and_true] at hfr
  conv => arg 2; whnf
  simp only [List.range, List.range.loop, List.map_cons, List.map_nil, hfr]
  clear hfr ha
  have hb0 : Below w.heap.size w w.drew := (Below.refl _ _).drew
  have : Nonempty (Cw (fun v => Below w.heap.size w v)) := ⟨⟨_, hb0⟩⟩
  have z4 : ∀ nn : Cw (fun v => Below w.heap.size w v), nn.v.cell? ⟨fb, 4, none⟩ = some (.int .i64 pad) := fun nn => below_cell nn.h c4
  have zr : ∀ nn : Cw (fun v => Below w.heap.size w v), nn.v.cell? ⟨rb, 0, none⟩ = some (.slice ad2 m cap2) := fun nn => below_cell nn.h cr
  refine reg_quietB (fun v => Below w.heap.size w v) (by kernel_rfl) (by kernel_rfl) hb0 ?_
  repeat (go_big_quiet_step (fail))
  refine wpQuiet_nil ?_
  rintro w2 ⟨⟨_, hb1⟩, rfl⟩
  exact hQ.out _ _ (Fr.Is.mk rfl rfl) hb1

set_option maxRecDepth 100000 in
set_option maxHeartbeats 1000000 in
theorem fill_r9 {Q : Exit → Act → World → Prop} {fb rv rb pb n cap : Nat} {ad : Option Addr} {W : World} {pad : Int} {l : List UInt8} (a : Act) (w : World) (c4 : w.cell? ⟨fb, 4, none⟩ = some (.int .i64 pad)) (hR : Rd W rb l w) (h0 : 0 ≤ pad) (h1 : pad ≤ l.length) (hl : l.length ≤ 1000000000)
    (ha : Fr.Is 83 [(0, .pointer (some ⟨fb, 0, none⟩)), (1, .slice ad n cap), (4, .pointer (some ⟨rv, 0, none⟩)), (5, .pointer (some ⟨rb, 0, none⟩)), (6, .pointer (some ⟨pb, 0, none⟩))] a)
    (hQ : Hid (∀ a' w', Fr.Is 83 [(0, .pointer (some ⟨fb, 0, none⟩)), (1, .slice ad n cap), (4, .pointer (some ⟨rv, 0, none⟩)), (5, .pointer (some ⟨rb, 0, none⟩)), (6, .pointer (some ⟨pb, 0, none⟩))] a' → Rd W rb (l.take (l.length - pad.toNat)) w' → Kept [rb] w w' → Q .normal a' w')) :
    (Fr.reg Tryd.f38 9).wp Tryd.prog Q a w := by
  obtain ⟨fr, rfl, hfr⟩ := ha.lit
  simp only [List.map_cons, List.map_nil, List.cons.injEq, and_true] at hfr
  conv => arg 2; whnf
  simp only [List.range, List.range.loop, List.map_cons, List.map_nil, hfr]
  clear hfr ha
  obtain ⟨k, hk⟩ : ∃ k, k = l.length - pad.toNat := ⟨_, rfl⟩
  rw [← hk] at hQ
  obtain ⟨⟨ad2, cap2, hh, hr, hc, hm⟩, hbel, hlo⟩ := hR
  have cr : w.drew.cell? ⟨rb, 0, none⟩ = some (.slice ad2 l.length cap2) := cell_at hh 0
  have zr : w.drew.frozen? ⟨rb, 0, none⟩ = false := frozen_of_row _ _ 0 _ _ hh
  have c4' : w.drew.cell? ⟨fb, 4, none⟩ = some (.int .i64 pad) := c4
  have hkl : k ≤ l.length := by omega
  have hsub : IntKind.i64.wrap ((l.length : Int) - pad) = (k : Int) := by rw [IntWalk.i64_in _ (by omega)]; omega
  have HK : Hid (Kept [rb] w (w.drew.setCell ⟨rb, 0, none⟩ (.slice ad2 k cap2))) := Lib.hid (((Kept.refl [rb] w).drew).setCell (p := ⟨rb, 0, none⟩) (.inl (by simp)) _)
  have HRd : Hid (Rd W rb (l.take k) (w.drew.setCell ⟨rb, 0, none⟩ (.slice ad2 k cap2))) := Lib.hid (by
    have hd : (l.take k).length = k := by rw [List.length_take]; omega
    have hset := heap_setCell_same w.drew rb 0 _ _ (.slice ad2 k cap2) hh
    refine ⟨⟨ad2, cap2, by rw [hd]; exact hset, rb_take hr k, by omega, hm⟩, Kept.below hbel HK.out (fun i hi => by simp at hi; omega) hbel.size, hlo⟩)
  have hkc : k ≤ cap2 := by omega
  generalize l.length = n2 at *
  clear hh hr hc hm hbel hlo c4 hk h0 h1 hl
  refine wp_region_noPanic ?_
  go_region
  all_goals exact hQ.out _ _ (Fr.Is.mk rfl rfl) HRd.out HK.out

set_option maxRecDepth 100000 in
set_option maxHeartbeats 1000000 in
theorem fill_sets {Q : Exit → Act → World → Prop} {fb rv rb pb n cap : Nat} {ad : Option Addr} {W : World} {p : PtM} {l : List UInt8} {f : FrM} (a : Act) (w : World) (hR : Rd W rb l w) (hF : Fb fb f none 0 w) (hne : fb ≠ rb) (hlo : W.heap.size ≤ fb) (hp : w.heap[pb]? = some (.cells (ptC p) 86 (0, 0))) (m : Nat) (hm : p.sets = true → l.length = 6 * m) (hl : l.length ≤ 1000000000) (hfs : f.sets = [])
    (ha : Fr.Is 83 [(0, .pointer (some ⟨fb, 0, none⟩)), (1, .slice ad n cap), (4, .pointer (some ⟨rv, 0, none⟩)), (5, .pointer (some ⟨rb, 0, none⟩)), (6, .pointer (some ⟨pb, 0, none⟩))] a)
    (hQ : Hid (∀ a' w' sa sc, Fr.Is 83 [(0, .pointer (some ⟨fb, 0, none⟩)), (1, .slice ad n cap), (4, .pointer (some ⟨rv, 0, none⟩)), (5, .pointer (some ⟨rb, 0, none⟩)), (6, .pointer (some ⟨pb, 0, none⟩))] a' → Rd W rb (if p.sets then [] else l) w' → Fb fb { f with sets := if p.sets then setsF l.length l else [] } sa sc w' → FrOk { f with sets := if p.sets then setsF l.length l else [] } sa sc w' → Kept [rb, fb] w w' → (∀ b o s, sa = some ⟨b, o, s⟩ → w.heap.size ≤ b) → Q .normal a' w')) :
    (Fr.navL (Fr.tail Tryd.f38 7)).wp Tryd.prog Q a w := by
  obtain ⟨fr, rfl, hfr⟩ := ha.lit
  simp only [List.map_cons, List.map_nil, List.cons.injEq, and_true] at hfr
  conv => arg 2; whnf
  simp only [List.range, List.range.loop, List.map_cons, List.map_nil, hfr]
  clear hfr ha
  have c1 := cell_at hp 5
  simp only [ptC, List.getElem?_toArray, List.getElem?_cons_zero, List.getElem?_cons_succ] at c1
  have HR := Lib.hid hR
  have HF := Lib.hid hF
  have hfe : ({ f with sets := [] } : FrM) = f := by rw [← hfs]
  clear hR hF hp
  cases hs : p.sets
  · rw [hs] at c1 hQ
    have HE := Lib.hid hfe
    go_wp2_with fail
    refine hQ.out _ _ none 0 (Fr.Is.mk rfl rfl) (by simpa using HR.out) ?_ ⟨.inl rfl, Nat.le_refl _, by unfold maxLen; omega⟩ (Kept.refl _ _) (fun b o s e => by cases e)
    have := HF.out; rw [← HE.out] at this; exact this
  · rw [hs] at c1 hQ
    have HN := Lib.hid (rsettings_any l m w HR.out (hm hs) hl)
    have HE := Lib.hid hfe
    generalize setsF l.length l = T at HN hQ
    clear hfe hm
    go_wp2_with fail
    refine HN.out.mono ?_
    rintro e w1 ⟨ad2, cap2, rfl, ok1, hbk, r1, k1⟩
    have F1 := Lib.hid (HF.out.kept k1 (by simp; omega))
    have z5 := F1.out.thaw 5
    have y5 : w1.cell? ⟨fb, 5, none⟩ = some (.slice none f.sets.length 0) := F1.out.cellz 5
    have R1 := Lib.hid r1
    have K1 := Lib.hid k1
    have HBk := Lib.hid hbk
    have K4 := Lib.hid ((Kept.refl [fb] w1).setCell (p := ⟨fb, 5, none⟩) (.inl (by simp)) (.slice ad2 T.length cap2))
    have F4 := Lib.hid (F1.out.set (f' := { f with sets := T }) (sa' := ad2) (sc' := cap2) 5 (.slice ad2 T.length cap2) rfl)
    have hfl : fb < w.heap.size := (Array.getElem?_eq_some_iff.1 HF.out).1
    have OK := Lib.hid (show FrOk { f with sets := T } ad2 cap2 (w1.setCell ⟨fb, 5, none⟩ (.slice ad2 T.length cap2)) from ⟨ok1.row.block (fun b off e => Below.heap_setCell _ _ _ _ (fun e2 => by have := hbk b off _ e; simp only at e2; omega)), ok1.len, ok1.cap⟩)
    clear r1 k1 ok1 c1
    go_wp2_with fail
    exact hQ.out _ _ ad2 cap2 (Fr.Is.mk rfl rfl) (by simpa using R1.out.kept K4.out (by simp; omega)) F4.out OK.out ((K1.out.wide (L' := [rb, fb]) (by simp)).trans K4.out (by simp)) HBk.out

set_option maxRecDepth 100000 in
set_option maxHeartbeats 1000000 in
theorem fill_data {Q : Exit → Act → World → Prop} {fb rv rb pb n cap : Nat} {ad : Option Addr} {W : World} {p : PtM} {l : List UInt8} {f : FrM} {sa : Option Addr} {sc : Nat} (a : Act) (w : World) (hR : Rd W rb l w) (hF : Fb fb f sa sc w) (hok : FrOk f sa sc w) (hne : fb ≠ rb) (hlo : W.heap.size ≤ fb) (hp : w.heap[pb]? = some (.cells (ptC p) 86 (0, 0))) (hl : l.length ≤ 1000000000) (hsb : ∀ b o s, sa = some ⟨b, o, s⟩ → b ≠ fb)
    (ha : Fr.Is 83 [(0, .pointer (some ⟨fb, 0, none⟩)), (1, .slice ad n cap), (4, .pointer (some ⟨rv, 0, none⟩)), (5, .pointer (some ⟨rb, 0, none⟩)), (6, .pointer (some ⟨pb, 0, none⟩))] a)
    (hQ : Hid (∀ a' w', Fr.Is 83 [(0, .pointer (some ⟨fb, 0, none⟩)), (1, .slice ad n cap), (4, .pointer (some ⟨rv, 0, none⟩)), (5, .pointer (some ⟨rb, 0, none⟩)), (6, .pointer (some ⟨pb, 0, none⟩))] a' → Fb fb { f with data := if p.data then ⟨l.toArray⟩ else f.data } sa sc w' → FrOk f sa sc w' → Kept [fb] w w' → Q .normal a' w')) :
    (Fr.navL (Fr.tail Tryd.f38 8)).wp Tryd.prog Q a w := by
  obtain ⟨fr, rfl, hfr⟩ := ha.lit
  simp only [List.map_cons, List.map_nil, List.cons.injEq, and_true] at hfr
  conv => arg 2; whnf
  simp only [List.range, List.range.loop, List.map_cons, List.map_nil, hfr]
  clear hfr ha
  have c1 := cell_at hp 6
  simp only [ptC, List.getElem?_toArray, List.getElem?_cons_zero, List.getElem?_cons_succ] at c1
  have HF := Lib.hid hF
  obtain ⟨⟨ad2, cap2, hh, hr, hc, hm⟩, hbel, hlo2⟩ := hR
  have cr : w.cell? ⟨rb, 0, none⟩ = some (.slice ad2 l.length cap2) := cell_at hh 0
  have z3 := HF.out.thaw 3
  have y3 : w.cell? ⟨fb, 3, none⟩ = some (.string f.data) := HF.out.cellz 3
  have hcv : (convert 24 9 (.slice ad2 l.length cap2)).run Tryd.prog w = .ok (.string ⟨l.toArray⟩) w := (hr.below hbel).conv Tryd.underlying24 Tryd.underlying5 Tryd.underlying9
  have HO := Lib.hid hok
  have HS := Lib.hid hsb
  clear hF hp hh hr hc hm hbel hlo2 hok hsb
  cases hs : p.data
  · rw [hs] at c1 hQ
    go_wp2_with fail
    exact hQ.out _ _ (Fr.Is.mk rfl rfl) HF.out HO.out (Kept.refl _ _)
  · rw [hs] at c1 hQ
    have K4 := Lib.hid ((Kept.refl [fb] w).setCell (p := ⟨fb, 3, none⟩) (.inl (by simp)) (.string ⟨l.toArray⟩))
    have F4 := Lib.hid (HF.out.set (f' := { f with data := ⟨l.toArray⟩ }) 3 (.string ⟨l.toArray⟩) rfl)
    have O4 := Lib.hid (show FrOk f sa sc (w.setCell ⟨fb, 3, none⟩ (.string ⟨l.toArray⟩)) from ⟨HO.out.row.block (fun b off e => Below.heap_setCell _ _ _ _ (fun e2 => HS.out b off _ e e2)), HO.out.len, HO.out.cap⟩)
    generalize (⟨l.toArray⟩ : ByteArray) = d at *
    go_wp2_with fail
    exact hQ.out _ _ (Fr.Is.mk rfl rfl) F4.out O4.out K4.out
end Go.Proofs.YtglhdlkmgmbgeaaDoor

namespace Go.Proofs.YtglhdlkmgmbgeaaDoor
open Go.RowKit
open Fra Oct Arg Mem Gen Qu Go.Proofs.YtglhdlkmgmbgeaaDoor.Obj
set_option linter.unusedVariables false
set_option linter.unusedSimpArgs false

def hdrF (t fl st : Int) : FrM := { noFr with type := t, flags := fl, stream := st }
/-- What is left behind the padding. -/
def restF (x : FrM × List UInt8) : List UInt8 := x.2.take (x.2.length - x.1.pad.toNat)
def withS (p : PtM) (f : FrM) (r : List UInt8) : FrM := { f with sets := if p.sets then setsF r.length r else [] }
def withD (p : PtM) (f : FrM) (r : List UInt8) : FrM := { f with data := if p.data then ⟨r.toArray⟩ else f.data }
def fullF (t fl st : Int) (l : List UInt8) : FrM :=
  withD (partsM t fl) (withS (partsM t fl) (numF (partsM t fl) (hdrF t fl st, l)).1 (restF (numF (partsM t fl) (hdrF t fl st, l)))) (if (partsM t fl).sets then [] else restF (numF (partsM t fl) (hdrF t fl st, l)))
def fillX (t fl st : Int) (l : List UInt8) : FaM :=
  if placeOk t st = false then ⟨true, 1, 0⟩
  else if fitsB t fl l.length = false then (if t = 2 then ⟨true, 6, st⟩ else ofC 6)
  else if ((numF (partsM t fl) (hdrF t fl st, l)).2.length : Int) < (numF (partsM t fl) (hdrF t fl st, l)).1.pad then ⟨true, 1, 0⟩
  else valF (fullF t fl st l)

theorem num_keep (p : PtM) (x : FrM × List UInt8) : (numF p x).1.type = x.1.type ∧ (numF p x).1.stream = x.1.stream ∧ (numF p x).1.sets = x.1.sets ∧ (numF p x).1.pad = if p.pad then at' x.2 0 1 else x.1.pad := by
  obtain ⟨f, l⟩ := x
  obtain ⟨pad, order, last, code, inc, sets, data⟩ := p
  cases pad <;> cases order <;> cases last <;> cases code <;> cases inc <;> simp [numF, sPad, sOrd, sLast, sCode, sInc, orderF]
theorem num_len (p : PtM) (x : FrM × List UInt8) : (numF p x).2.length ≤ x.2.length := by
  obtain ⟨f, l⟩ := x
  obtain ⟨pad, order, last, code, inc, sets, data⟩ := p
  cases pad <;> cases order <;> cases last <;> cases code <;> cases inc <;> simp [numF, sPad, sOrd, sLast, sCode, sInc, orderF] <;> omega
theorem fits_ahead (t fl : Int) (n : Nat) (h0 : 0 ≤ t) (h : fitsB t fl n = true) : aheadN (partsM t fl) ≤ n ∧ (t = 4 → ∃ m, n = 6 * m) := by
  unfold fitsB at h
  by_cases h10 : 10 ≤ t
  · have hp : partsM t fl = ⟨false, false, false, false, false, false, true⟩ := by
      unfold partsM
      rw [if_neg (by omega), if_neg (by omega), if_neg (by omega), if_neg (by omega), if_neg (by omega), if_neg (by omega), if_neg (by omega)]
    rw [hp]; exact ⟨by simp [aheadN], fun h4 => by omega⟩
  rw [if_neg h10] at h
  by_cases hk4 : t = 4 ∧ hasF fl 1 = true
  · rw [if_pos hk4, decide_eq_true_eq] at h
    obtain ⟨rfl, _⟩ := hk4
    exact ⟨by simp [partsM, aheadN], fun _ => ⟨0, by omega⟩⟩
  rw [if_neg hk4] at h
  obtain ⟨j, rfl⟩ := Int.eq_ofNat_of_zero_le h0
  rw [Int.toNat_natCast] at h
  split at h
  · rename_i lo mx st hsp
    simp only [Bool.and_eq_true, decide_eq_true_eq] at h
    refine ⟨by omega, fun h4 => ?_⟩
    have hj : j = 4 := by omega
    subst hj
    have : st = 6 := by simp [spanT] at hsp; omega
    subst this
    exact ⟨n / 6, by omega⟩
  · cases h
theorem at_one (l : List UInt8) (h : 1 ≤ l.length) : 0 ≤ at' l 0 1 ∧ at' l 0 1 ≤ 255 := by
  cases l with
  | nil => simp at h
  | cons c r =>
    have hc := c.toNat_lt
    have he : at' (c :: r) 0 1 = c.toNat := by simp [at', beI]
    rw [he]; omega

theorem fill_ret {R : Ending → World → Prop} {fb rv n cap : Nat} {ad : Option Addr} {u0 u1 u2 : Value} {a : Act} {w w1 w' : World} {x : FaM}
    (ha : Fr.Is 83 [(0, .pointer (some ⟨fb, 0, none⟩)), (1, .slice ad n cap), (4, .pointer (some ⟨rv, 0, none⟩))] a)
    (h : w1.heap[rv]? = some (Obj.cells #[u0, u1, u2] 37 (0, 0))) (hb : Below w.heap.size w w1) (hw : w' = ((w1.setCell ⟨rv, 0, none⟩ (.bool x.is)).setCell ⟨rv, 1, none⟩ (.int .i64 x.code)).setCell ⟨rv, 2, none⟩ (.int .i64 x.stream))
    (hR : R (.returned (faV x)) w') : bodyPost Tryd.prog Tryd.f38 R .ret a w' := by
  obtain ⟨fr, rfl, hfr⟩ := ha.lit
  simp only [List.map_cons, List.map_nil, List.cons.injEq, and_true] at hfr
  have h1 := heap_setCell_same w1 rv 0 _ _ (.bool x.is) h
  have h2 := heap_setCell_same _ rv 1 _ _ (.int .i64 x.code) h1
  have h3 := heap_setCell_same _ rv 2 _ _ (.int .i64 x.stream) h2
  rw [← hw] at h3
  have x0 : w'.cell? ⟨rv, 0, none⟩ = some (.bool x.is) := cell_at h3 0
  have x1 : w'.cell? ⟨rv, 1, none⟩ = some (.int .i64 x.code) := cell_at h3 1
  have x2 : w'.cell? ⟨rv, 2, none⟩ = some (.int .i64 x.stream) := cell_at h3 2
  have hf4 : fr 4 = .pointer (some ⟨rv, 0, none⟩) := hfr.2.2
  clear h1 h2 h3 hw h hb
  refine bodyPost_ret (v := faV x) ?_ rfl hR
  simp [results, Tryd.results38, go_sem, faV, hf4, x0, x1, x2]

theorem kept_store {w0 w w1 w' : World} {fb rv : Nat} {x y z : Value} (hk : Kept [fb] w0 w) (hb : Below w.heap.size w w1) (hw : w' = ((w1.setCell ⟨rv, 0, none⟩ x).setCell ⟨rv, 1, none⟩ y).setCell ⟨rv, 2, none⟩ z) (hl : w0.heap.size ≤ rv) : Kept [fb] w0 w' := by
  subst hw
  exact (((hk.then hb).setCell (p := ⟨rv, 0, none⟩) (.inr hl) x).setCell (p := ⟨rv, 1, none⟩) (.inr hl) y).setCell (p := ⟨rv, 2, none⟩) (.inr hl) z
theorem kept_rv {w w1 w' : World} {rv : Nat} {x y z : Value} (hb : Below w.heap.size w w1) (hw : w' = ((w1.setCell ⟨rv, 0, none⟩ x).setCell ⟨rv, 1, none⟩ y).setCell ⟨rv, 2, none⟩ z) : Kept [rv] w w' := by
  subst hw
  exact ((((Kept.of_below hb).setCell (p := ⟨rv, 0, none⟩) (.inl (by simp)) x).setCell (p := ⟨rv, 1, none⟩) (.inl (by simp)) y).setCell (p := ⟨rv, 2, none⟩) (.inl (by simp)) z)

theorem row_kept {w w' : World} {ad : Option Addr} {l : List StM} {L : List Nat} (h : Rw.RowE ESt w ad l) (hk : Kept L w w') (hL : ∀ b o s, ad = some ⟨b, o, s⟩ → b ∉ L) : Rw.RowE ESt w' ad l := by
  rcases h with h | ⟨b, off, e, hc⟩
  · exact .inl h
  · cases l with
    | nil => exact .inl rfl
    | cons s r =>
      have hb : b < w.heap.size := World.block_lt_of_cell? w _ (hc 0 (by simp) 0 _ rfl)
      have hbb := hk.block b hb (hL b off _ e)
      exact .inr ⟨b, off, e, fun i hi => Rw.CE_local ESt w w' b _ _ hbb (hc i hi)⟩

set_option maxRecDepth 100000 in
set_option maxHeartbeats 2000000 in
theorem pfill_any {W : World} {fb : Nat} (t fl st : Int) (l : List UInt8) (ad : Option Addr) (cap : Nat) (w : World) (hF : Fb fb (hdrF t fl st) none 0 w) (hbel : Below W.heap.size W w) (hlo : W.heap.size ≤ fb) (hr : RB W ad l) (hc : l.length ≤ cap) (hm : cap ≤ maxLen)
    (hs : SpIs W) (ht0 : 0 ≤ t) (h0 : 0 ≤ fl) (h1 : fl ≤ 255) (hl : l.length ≤ 16777215) :
    Calls Tryd.prog 38 #[.pointer (some ⟨fb, 0, none⟩), .slice ad l.length cap] w fun e w' => ∃ sa sc, e = .returned (faV (fillX t fl st l)) ∧ Kept [fb] w w' ∧ ((fillX t fl st l).is = false → Fb fb (fullF t fl st l) sa sc w' ∧ FrOk (fullF t fl st l) sa sc w' ∧ ∀ b o s, sa = some ⟨b, o, s⟩ → w.heap.size ≤ b) := by
  have hfl : fb < w.heap.size := (Array.getElem?_eq_some_iff.1 hF).1
  go_enter Tryd.func38, Tryd.ntmps38
  refine wp_seq ?_
  refine fill_r0 (rv := 0) (rb := 0) (pb := 0) (fb := fb) (n := l.length) (cap := cap) (ad := ad) _ w (Fr.Is.mk rfl rfl) (Lib.hid (fun a1 g1 => ?_))
  have B1 := bel_al w (.cells #[.bool false, .int .i64 0, .int .i64 0] 37)
  have res1 := heap_alloc_new w (.cells #[.bool false, .int .i64 0, .int .i64 0] 37)
  generalize w.alloc (.cells #[.bool false, .int .i64 0, .int .i64 0] 37) = w1 at B1 res1 ⊢
  obtain ⟨rv, hrv⟩ : ∃ rv, rv = w.heap.size := ⟨_, rfl⟩
  rw [← hrv] at res1 g1
  have K1 : Kept [fb] w w1 := Kept.of_below B1
  have F1 : Fb fb (hdrF t fl st) none 0 w1 := block_below B1 hF
  refine wp_seq (wp_seq ?_)
  refine fill_r1 (rb := 0) (pb := 0) (t := t) (st := st) a1 w1 (F1.cellz 0) (F1.cellz 2) g1 (Lib.hid (fun a2 w2 g2 b2 => ?_))
  have K2 := K1.then b2
  have F2 : Fb fb (hdrF t fl st) none 0 w2 := block_below b2 F1
  have res2 := block_below b2 res1
  cases hp : placeOk t st with
  | false =>
    have hx : fillX t fl st l = ⟨true, 1, 0⟩ := by rw [fillX, if_pos hp]
    rw [hx]
    refine wp_cond_true (g2.get (i := 16) (v := .bool true) (by simp [hp])) ?_
    refine wp_seq ?_
    refine fill_r2 (rb := 0) (pb := 0) (fb := fb) (ad := ad) (n := l.length) (cap := cap) a2 w2 res2 (g2.less (by simp)) (Lib.hid (fun a3 w' w3 g3 r3 b3 hw => ?_))
    refine wp_ret ?_
    try dsimp only [Exit.then]
    refine fill_ret g3 r3 b3 hw ?_
    exact ⟨none, 0, rfl, kept_store K2 b3 hw (by omega), fun h => by cases h⟩
  | true =>
    refine wp_cond_false (g2.get (i := 16) (v := .bool false) (by simp [hp])) ?_
    refine wp_skip ?_
    have g2' := g2.less (ks' := [(0, .pointer (some ⟨fb, 0, none⟩)), (1, .slice ad l.length cap), (4, .pointer (some ⟨rv, 0, none⟩))]) (by simp)
    have BW2 : Below W.heap.size W w2 := below_step (below_step hbel B1) b2
    refine wp_seq (wp_seq ?_)
    refine fill_r3 (rb := 0) (pb := 0) (t := t) (fl := fl) a2 w2 (F2.cellz 0) (F2.cellz 1) (hs.below BW2) ht0 h0 h1 (by omega) g2' (Lib.hid (fun a3 w3 g3 b3 => ?_))
    have K3 := K2.then b3
    have F3 : Fb fb (hdrF t fl st) none 0 w3 := block_below b3 F2
    have res3 := block_below b3 res2
    have g3' := g3.less (ks' := [(0, .pointer (some ⟨fb, 0, none⟩)), (1, .slice ad l.length cap), (4, .pointer (some ⟨rv, 0, none⟩))]) (by simp)
    cases hf : fitsB t fl l.length with
    | false =>
      have hx : fillX t fl st l = (if t = 2 then (⟨true, 6, st⟩ : FaM) else ofC 6) := by rw [fillX, if_neg (by rw [hp]; simp), if_pos hf]
      rw [hx]
      refine wp_cond_true (g3.get (i := 29) (v := .bool true) (by simp [hf])) ?_
      refine wp_seq ?_
      refine fill_r4 (rb := 0) (pb := 0) a3 w3 res3 F3 g3' (Lib.hid (fun a4 w' w4 g4 r4 b4 hw => ?_))
      refine wp_ret ?_
      try dsimp only [Exit.then]
      refine fill_ret (x := if t = 2 then (⟨true, 6, st⟩ : FaM) else ofC 6) g4 r4 b4 hw ?_
      exact ⟨none, 0, rfl, kept_store K3 b4 hw (by omega), fun h => by split at h <;> cases h⟩
    | true =>
      obtain ⟨hah, h6⟩ := fits_ahead t fl l.length ht0 hf
      refine wp_cond_false (g3.get (i := 29) (v := .bool false) (by simp [hf])) ?_
      refine wp_skip ?_
      have BW3 : Below W.heap.size W w3 := below_step BW2 b3
      have hs3 := K3.size
      refine wp_seq ?_
      refine fill_r5 (rb := 0) (pb := 0) (t := t) (fl := fl) a3 w3 (F3.cellz 0) (F3.cellz 1) h0 h1 g3' (Lib.hid (fun a4 w4 rb pb g4 b4 hne hl1 hl2 hh1 hh2 => ?_))
      have K4 := K3.then b4
      have F4 : Fb fb (hdrF t fl st) none 0 w4 := block_below b4 F3
      have res4 := block_below b4 res3
      have BW4 : Below W.heap.size W w4 := below_step BW3 b4
      have hW3 := BW3.size
      have hrv3 : rv < w3.heap.size := (Array.getElem?_eq_some_iff.1 res3).1
      have R4 : Rd W rb l w4 := ⟨⟨ad, cap, hh1, hr, hc, hm⟩, BW4, by omega⟩
      have hfr : fb ≠ rb := by omega
      refine wp_seq ?_
      refine fill_r6 (W := W) (l := l) a4 w4 R4 F4 hlo hfr hah hh2 g4 (Lib.hid (fun a5 w5 g5 R5 F5 k5 => ?_))
      have K5 : Kept [fb] w w5 := K4.trans k5 (fun i hi => by
        simp only [List.mem_cons, List.not_mem_nil, or_false] at hi
        rcases hi with rfl | rfl
        · right; omega
        · left; simp)
      have res5 := k5.at res4 (by simp; omega)
      have hp5 := k5.at hh2 (by simp; omega)
      obtain ⟨n1, n2, n3, n4⟩ := num_keep (partsM t fl) (hdrF t fl st, l)
      have nl := num_len (partsM t fl) (hdrF t fl st, l)
      generalize hx : numF (partsM t fl) (hdrF t fl st, l) = x at R5 F5 n1 n2 n3 n4 nl
      have hpad : 0 ≤ x.1.pad ∧ x.1.pad ≤ 255 := by
        rw [n4]
        cases hpd : (partsM t fl).pad with
        | false => simp [hdrF, noFr]
        | true =>
          have : 1 ≤ l.length := by
            have h9 := hah
            unfold aheadN at h9
            rw [hpd] at h9; simp at h9; omega
          simpa using at_one l this
      simp only at nl
      obtain ⟨ad5, cap5, hh5, _⟩ := R5.ex
      refine wp_seq (wp_seq ?_)
      refine fill_r7 a5 w5 (F5.cellz 4) (cell_at hh5 0) g5 (Lib.hid (fun a6 w6 g6 b6 => ?_))
      have K6 := K5.then b6
      have F6 := F5.kept (Kept.of_below b6 (L := [])) (by simp)
      have res6 := block_below b6 res5
      have hp6 := block_below b6 hp5
      have R6 := R5.kept (Kept.of_below b6 (L := [])) (by simp)
      by_cases hpl : (x.2.length : Int) < x.1.pad
      · have hxx : fillX t fl st l = ⟨true, 1, 0⟩ := by rw [fillX, if_neg (by rw [hp]; simp), if_neg (by rw [hf]; simp), hx, if_pos hpl]
        rw [hxx]
        refine wp_cond_true (g6.get (i := 53) (v := .bool true) (by simp [hpl])) ?_
        refine wp_seq ?_
        refine fill_r8 (rb := 0) (pb := 0) (fb := fb) (ad := ad) (n := l.length) (cap := cap) a6 w6 res6 (g6.less (by simp)) (Lib.hid (fun a7 w' w7 g7 r7 b7 hw => ?_))
        refine wp_ret ?_
        try dsimp only [Exit.then]
        refine fill_ret g7 r7 b7 hw ?_
        exact ⟨none, 0, rfl, kept_store K6 b7 hw (by omega), fun h => by cases h⟩
      · have hxx : fillX t fl st l = valF (fullF t fl st l) := by rw [fillX, if_neg (by rw [hp]; simp), if_neg (by rw [hf]; simp), hx, if_neg hpl]
        rw [hxx]
        have hfull : fullF t fl st l = withD (partsM t fl) (withS (partsM t fl) x.1 (restF x)) (if (partsM t fl).sets then [] else restF x) := by rw [fullF, hx]
        refine wp_cond_false (g6.get (i := 53) (v := .bool false) (by simp only [gt_iff_lt, hpl]; simp)) ?_
        refine wp_skip ?_
        have g6' := g6.less (ks' := [(0, .pointer (some ⟨fb, 0, none⟩)), (1, .slice ad l.length cap), (4, .pointer (some ⟨rv, 0, none⟩)), (5, .pointer (some ⟨rb, 0, none⟩)), (6, .pointer (some ⟨pb, 0, none⟩))]) (by simp)
        refine wp_seq ?_
        refine fill_r9 a6 w6 (F6.cellz 4) R6 hpad.1 (by omega) (by omega) g6' (Lib.hid (fun a7 w7 g7 R7 k7 => ?_))
        have K7 : Kept [fb] w w7 := K6.trans k7 (fun i hi => by simp at hi; right; omega)
        have F7 := F6.kept k7 (by simp; omega)
        have res7 := k7.at res6 (by simp; omega)
        have hp7 := k7.at hp6 (by simp; omega)
        change Rd W rb (restF x) w7 at R7
        have hxs : x.1.sets = [] := n3
        have hrl : (restF x).length ≤ l.length := by rw [restF, List.length_take]; omega
        have hsix : (partsM t fl).sets = true → ∃ m, (restF x).length = 6 * m := fun hps => by
          have ht4 : t = 4 := by
            unfold partsM at hps
            repeat' split at hps
            all_goals first | omega | (simp at hps)
          subst ht4
          obtain ⟨m, hm6⟩ := h6 rfl
          have hx4 : x = (hdrF 4 fl st, l) := by rw [← hx]; simp [partsM, numF, sPad, sOrd, sLast, sCode, sInc]
          exact ⟨m, by rw [hx4, restF]; simp [hdrF, noFr, hm6]⟩
        obtain ⟨m, hm6⟩ : ∃ m, (partsM t fl).sets = true → (restF x).length = 6 * m := by
          by_cases hps : (partsM t fl).sets = true
          · obtain ⟨m, h⟩ := hsix hps; exact ⟨m, fun _ => h⟩
          · exact ⟨0, fun h => absurd h hps⟩
        refine wp_seq ?_
        refine fill_sets a7 w7 R7 F7 hfr hlo hp7 m hm6 (by omega) hxs g7 (Lib.hid (fun a8 w8 sa sc g8 R8 F8 ok8 k8 hbk => ?_))
        have K8 : Kept [fb] w w8 := K7.trans k8 (fun i hi => by
          simp only [List.mem_cons, List.not_mem_nil, or_false] at hi
          rcases hi with rfl | rfl
          · right; omega
          · left; simp)
        have res8 := k8.at res7 (by simp; omega)
        have hp8 := k8.at hp7 (by simp; omega)
        have hs7 := K7.size
        have hrv7 : rv < w7.heap.size := (Array.getElem?_eq_some_iff.1 res7).1
        change Fb fb (withS (partsM t fl) x.1 (restF x)) sa sc w8 at F8
        change FrOk (withS (partsM t fl) x.1 (restF x)) sa sc w8 at ok8
        refine wp_seq ?_
        refine fill_data a8 w8 R8 F8 ok8 hfr hlo hp8 (by split <;> first | omega | simp) (fun b o s e => by have := hbk b o s e; omega) g8 (Lib.hid (fun a9 w9 g9 F9 ok9 k9 => ?_))
        have K9 : Kept [fb] w w9 := K8.trans k9 (fun i hi => .inl hi)
        have res9 := k9.at res8 (by simp; omega)
        have F9 : Fb fb (fullF t fl st l) sa sc w9 := by rw [hfull]; exact F9
        have ok9' : FrOk (fullF t fl st l) sa sc w9 := by rw [hfull]; exact ⟨ok9.row, ok9.len, ok9.cap⟩
        refine wp_seq ?_
        refine fill_r14 (rb := 0) (pb := 0) (ad := ad) (n := l.length) (cap := cap) a9 w9 res9 F9 ok9' (g9.less (by simp)) (Lib.hid (fun a10 w' w10 g10 r10 b10 hw => ?_))
        refine wp_ret ?_
        have kv := kept_rv b10 hw
        try dsimp only [Exit.then]
        refine fill_ret g10 r10 b10 hw ?_
        exact ⟨sa, sc, rfl, kept_store K9 b10 hw (by omega), fun _ => ⟨F9.kept kv (by simp; omega), ⟨row_kept ok9'.row kv (fun b o s e => by have := hbk b o s e; simp; omega), ok9'.len, ok9'.cap⟩, fun b o s e => by have := hbk b o s e; omega⟩⟩
end Go.Proofs.YtglhdlkmgmbgeaaDoor
