/- Layer 6: the document's Same. Layer 6: the document's Take: the regions that decide. Layer 6: the document's Take: the regions that answer. -/
import Derived.Test.YtglhdlkmgmbgeaaDoorGP07
import Derived.Test.YtglhdlkmgmbgeaaDoorGD01
import Derived.Deep.LoopGhost
import Derived.Laws.StructEq
import Derived.Test.YtglhdlkmgmbgeaaDoorGD02
set_option linter.unusedVariables false
set_option linter.unusedSimpArgs false
namespace Go.Proofs.YtglhdlkmgmbgeaaDoor
open Go.RowKit
open Fra Oct Arg Mem Gen Go.Proofs.YtglhdlkmgmbgeaaDoor.Obj
set_option linter.unusedVariables false
set_option linter.unusedSimpArgs false

theorem eqSt (a b c d : Int) (w : World) : (Op.equalIn 10000 67 (.agg #[.int .i64 a, .int .i64 b]) (.agg #[.int .i64 c, .int .i64 d])).run Tryd.prog w = .ok (a == c && b == d) w := by
  have hS : Tryd.prog.underlying 67 = some (.struct (Tryd.prog.fieldsOf 67)) := by kernel_rfl
  have hp : Tryd.prog.stoodInHeld 67 = false := by kernel_rfl
  have u1 := Tryd.underlying3
  have u2 := Tryd.underlying2
  rw [show (10000 : Nat) = 9999 + 1 from rfl, run_equalIn_agg w 9999 67 _ _ hS hp]
  simp only [Program.fieldsOf, Tryd.underlying67]
  go_simp
  by_cases h1 : a = c <;> by_cases h2 : b = d <;> simp [h1, h2]
theorem guSt : Tryd.prog.eqGuardType Tryd.prog.depth 67 = false := by kernel_rfl
theorem eqFa (a : Bool) (b b2 : Int) (c : Bool) (d d2 : Int) (w : World) : (Op.equalIn 10000 37 (.agg #[.bool a, .int .i64 b, .int .i64 b2]) (.agg #[.bool c, .int .i64 d, .int .i64 d2])).run Tryd.prog w = .ok (a == c && (b == d && b2 == d2)) w := by
  have hS : Tryd.prog.underlying 37 = some (.struct (Tryd.prog.fieldsOf 37)) := by kernel_rfl
  have hp : Tryd.prog.stoodInHeld 37 = false := by kernel_rfl
  have u1 := Tryd.underlying3
  have u2 := Tryd.underlying2
  have u3 := Tryd.underlying4
  rw [show (10000 : Nat) = 9999 + 1 from rfl, run_equalIn_agg w 9999 37 _ _ hS hp]
  simp only [Program.fieldsOf, Tryd.underlying37]
  go_simp
  by_cases h1 : a = c <;> by_cases h2 : b = d <;> by_cases h3 : b2 = d2 <;> simp [h1, h2, h3]
theorem guFa : Tryd.prog.eqGuardType Tryd.prog.depth 37 = false := by kernel_rfl
theorem st_eq (s t : StM) : (s.id == t.id && s.val == t.val) = decide (s = t) := by
  cases s; cases t; rw [Bool.eq_iff_iff]; simp


set_option maxRecDepth 100000 in
set_option maxHeartbeats 1000000 in
theorem sam_r0 {Q : Exit → Act → World → Prop} {cs ds : Array Value} (a : Act) (w : World) 
    (ha : Fr.Is 106 [(0, .agg cs), (1, .agg ds)] a)
    (hQ : Hid (∀ a', Fr.Is 106 [(2, .pointer (some ⟨w.heap.size, 0, none⟩)), (3, .pointer (some ⟨w.heap.size + 1, 0, none⟩))] a' → Q .normal a' ((w.alloc (.cells cs 40)).alloc (.cells ds 40)))) :
    (Fr.reg Tryd.f18 0).wp Tryd.prog Q a w := by
  obtain ⟨fr, rfl, hfr⟩ := ha.lit
  simp only [List.map_cons, List.map_nil, List.cons.injEq, and_true] at hfr
  conv => arg 2; whnf
  simp only [List.range, List.range.loop, List.map_cons, List.map_nil, hfr]
  clear hfr ha
  go_wp2_with fail
  exact hQ.out _ (Fr.Is.mk rfl (by simp))


set_option maxRecDepth 100000 in
set_option maxHeartbeats 1000000 in
theorem sam_r1 {Q : Exit → Act → World → Prop} {b1 b2 : Nat} {n m sc sd : Nat} {sa sb : Option Addr} (a : Act) (w : World) (c : w.cell? ⟨b1, 5, none⟩ = some (.slice sa n sc)) (d : w.cell? ⟨b2, 5, none⟩ = some (.slice sb m sd))
    (ha : Fr.Is 106 [(2, .pointer (some ⟨b1, 0, none⟩)), (3, .pointer (some ⟨b2, 0, none⟩))] a)
    (hQ : Hid (∀ a', Fr.Is 106 [(2, .pointer (some ⟨b1, 0, none⟩)), (3, .pointer (some ⟨b2, 0, none⟩)), (12, .bool (!decide (n = m)))] a' → Q .normal a' w)) :
    (Fr.reg Tryd.f18 1).wp Tryd.prog Q a w := by
  obtain ⟨fr, rfl, hfr⟩ := ha.lit
  simp only [List.map_cons, List.map_nil, List.cons.injEq, and_true] at hfr
  conv => arg 2; whnf
  simp only [List.range, List.range.loop, List.map_cons, List.map_nil, hfr]
  clear hfr ha
  by_cases h : n = m
  · subst h
    go_wp2_with fail
    exact hQ.out _ (Fr.Is.mk rfl (by simp))
  · have k : ((n : Int) == (m : Int)) = false := beq_eq_false_iff_ne.mpr (by omega)
    go_wp2_with fail
    exact hQ.out _ (Fr.Is.mk rfl (by simp [h]; omega))


set_option maxRecDepth 100000 in
set_option maxHeartbeats 1000000 in
theorem sam_r2 {Q : Exit → Act → World → Prop} {b1 b2 : Nat} (a : Act) (w : World) 
    (ha : Fr.Is 106 [(2, .pointer (some ⟨b1, 0, none⟩)), (3, .pointer (some ⟨b2, 0, none⟩))] a)
    (hQ : Hid (∀ a', Fr.Is 106 [(4, .bool false)] a' → Q .normal a' w)) :
    (Fr.reg Tryd.f18 2).wp Tryd.prog Q a w := by
  obtain ⟨fr, rfl, hfr⟩ := ha.lit
  simp only [List.map_cons, List.map_nil, List.cons.injEq, and_true] at hfr
  conv => arg 2; whnf
  simp only [List.range, List.range.loop, List.map_cons, List.map_nil, hfr]
  clear hfr ha
  go_wp2_with fail
  exact hQ.out _ (Fr.Is.mk rfl rfl)


set_option maxRecDepth 100000 in
set_option maxHeartbeats 1000000 in
theorem sam_r7 {Q : Exit → Act → World → Prop} {b1 b2 : Nat} (a : Act) (w : World) 
    (ha : Fr.Is 106 [(2, .pointer (some ⟨b1, 0, none⟩)), (3, .pointer (some ⟨b2, 0, none⟩))] a)
    (hQ : Hid (∀ a', Fr.Is 106 [(4, .bool false)] a' → Q .normal a' w)) :
    (Fr.reg Tryd.f18 7).wp Tryd.prog Q a w := by
  obtain ⟨fr, rfl, hfr⟩ := ha.lit
  simp only [List.map_cons, List.map_nil, List.cons.injEq, and_true] at hfr
  conv => arg 2; whnf
  simp only [List.range, List.range.loop, List.map_cons, List.map_nil, hfr]
  clear hfr ha
  go_wp2_with fail
  exact hQ.out _ (Fr.Is.mk rfl rfl)


set_option maxRecDepth 100000 in
set_option maxHeartbeats 1000000 in
theorem sam_r3 {Q : Exit → Act → World → Prop} {b1 b2 : Nat} (a : Act) (w : World) 
    (ha : Fr.Is 106 [(2, .pointer (some ⟨b1, 0, none⟩)), (3, .pointer (some ⟨b2, 0, none⟩))] a)
    (hQ : Hid (∀ a', Fr.Is 106 [(2, .pointer (some ⟨b1, 0, none⟩)), (3, .pointer (some ⟨b2, 0, none⟩)), (5, .int .i64 (0 : Nat))] a' → Q .normal a' w)) :
    (Fr.reg Tryd.f18 3).wp Tryd.prog Q a w := by
  obtain ⟨fr, rfl, hfr⟩ := ha.lit
  simp only [List.map_cons, List.map_nil, List.cons.injEq, and_true] at hfr
  conv => arg 2; whnf
  simp only [List.range, List.range.loop, List.map_cons, List.map_nil, hfr]
  clear hfr ha
  go_wp2_with fail
  exact hQ.out _ (Fr.Is.mk rfl rfl)


set_option maxRecDepth 100000 in
set_option maxHeartbeats 1000000 in
theorem sam_r4 {Q : Exit → Act → World → Prop} {b1 b2 : Nat} {i n sc : Nat} {sa : Option Addr} (a : Act) (w : World) (c : w.cell? ⟨b1, 5, none⟩ = some (.slice sa n sc))
    (ha : Fr.Is 106 [(2, .pointer (some ⟨b1, 0, none⟩)), (3, .pointer (some ⟨b2, 0, none⟩)), (5, .int .i64 i)] a)
    (hQ : Hid (∀ a', Fr.Is 106 [(2, .pointer (some ⟨b1, 0, none⟩)), (3, .pointer (some ⟨b2, 0, none⟩)), (5, .int .i64 i), (17, .bool (decide (i < n)))] a' → Q .normal a' w)) :
    (Fr.reg Tryd.f18 4).wp Tryd.prog Q a w := by
  obtain ⟨fr, rfl, hfr⟩ := ha.lit
  simp only [List.map_cons, List.map_nil, List.cons.injEq, and_true] at hfr
  conv => arg 2; whnf
  simp only [List.range, List.range.loop, List.map_cons, List.map_nil, hfr]
  clear hfr ha
  by_cases h : i < n
  · have h' : (i : Int) < n := by omega
    go_wp2_with fail
    exact hQ.out _ (Fr.Is.mk rfl (by simp [h]))
  · have h' : ¬ (i : Int) < n := by omega
    go_wp2_with fail
    exact hQ.out _ (Fr.Is.mk rfl (by simp; omega))


set_option maxRecDepth 100000 in
set_option maxHeartbeats 1000000 in
theorem sam_r5 {Q : Exit → Act → World → Prop} {b1 b2 : Nat} {i : Nat} (a : Act) (w : World) (hi : i < 9223372036854775807)
    (ha : Fr.Is 106 [(2, .pointer (some ⟨b1, 0, none⟩)), (3, .pointer (some ⟨b2, 0, none⟩)), (5, .int .i64 i)] a)
    (hQ : Hid (∀ a', Fr.Is 106 [(2, .pointer (some ⟨b1, 0, none⟩)), (3, .pointer (some ⟨b2, 0, none⟩)), (5, .int .i64 ((i : Int) + 1))] a' → Q .normal a' w)) :
    (Fr.reg Tryd.f18 5).wp Tryd.prog Q a w := by
  obtain ⟨fr, rfl, hfr⟩ := ha.lit
  simp only [List.map_cons, List.map_nil, List.cons.injEq, and_true] at hfr
  conv => arg 2; whnf
  simp only [List.range, List.range.loop, List.map_cons, List.map_nil, hfr]
  clear hfr ha
  go_wp2_with fail
  exact hQ.out _ (Fr.Is.mk rfl rfl)


set_option maxRecDepth 100000 in
set_option maxHeartbeats 1000000 in
theorem sam_r6 {Q : Exit → Act → World → Prop} {b1 b2 : Nat} {i n m sc sd g1 o1 g2 o2 : Nat} {s t : StM} (a : Act) (w : World) (c : w.cell? ⟨b1, 5, none⟩ = some (.slice (some ⟨g1, o1, none⟩) n sc)) (d : w.cell? ⟨b2, 5, none⟩ = some (.slice (some ⟨g2, o2, none⟩) m sd)) (hi : i < n) (hj : i < m) (x0 : w.cell? ⟨g1, o1 + i * 2, none⟩ = some (.int .i64 s.id)) (x1 : w.cell? ⟨g1, o1 + i * 2 + 1, none⟩ = some (.int .i64 s.val)) (y0 : w.cell? ⟨g2, o2 + i * 2, none⟩ = some (.int .i64 t.id)) (y1 : w.cell? ⟨g2, o2 + i * 2 + 1, none⟩ = some (.int .i64 t.val))
    (ha : Fr.Is 106 [(2, .pointer (some ⟨b1, 0, none⟩)), (3, .pointer (some ⟨b2, 0, none⟩)), (5, .int .i64 i)] a)
    (hQ : Hid (∀ nq a', Fr.Is 106 [(2, .pointer (some ⟨b1, 0, none⟩)), (3, .pointer (some ⟨b2, 0, none⟩)), (5, .int .i64 i), (30, .bool (!decide (s = t)))] a' → Q .normal a' (w.drewN nq))) :
    (Fr.reg Tryd.f18 6).wp Tryd.prog Q a w := by
  obtain ⟨fr, rfl, hfr⟩ := ha.lit
  simp only [List.map_cons, List.map_nil, List.cons.injEq, and_true] at hfr
  conv => arg 2; whnf
  simp only [List.range, List.range.loop, List.map_cons, List.map_nil, hfr]
  clear hfr ha
  have hi' : (i : Int) < n := by omega
  have hj' : (i : Int) < m := by omega
  have hE := fun w => eqSt s.id s.val t.id t.val w
  have hg := guSt
  rw [← st_eq] at hQ
  generalize (s.id == t.id && s.val == t.val) = v at hE hQ
  refine wp_region_noPanic ?_
  go_quiet (fail)
  exact hQ.out _ _ (Fr.Is.mk rfl rfl)


set_option maxRecDepth 100000 in
set_option maxHeartbeats 4000000 in
theorem sam_r8 {Q : Exit → Act → World → Prop} {b1 b2 : Nat} {x0 y0 x1 y1 x2 y2 x4 y4 x6 y6 x7 y7 x8 y8 x9 y9 x10 y10 : Int} {x3 y3 : ByteArray} {x11 y11 : Bool} (a : Act) (w : World) (c0 : w.cell? ⟨b1, 0, none⟩ = some (.int .i64 x0)) (c1 : w.cell? ⟨b1, 1, none⟩ = some (.int .i64 x1)) (c2 : w.cell? ⟨b1, 2, none⟩ = some (.int .i64 x2)) (c3 : w.cell? ⟨b1, 3, none⟩ = some (.string x3)) (c4 : w.cell? ⟨b1, 4, none⟩ = some (.int .i64 x4)) (c6 : w.cell? ⟨b1, 6, none⟩ = some (.int .i64 x6)) (c7 : w.cell? ⟨b1, 7, none⟩ = some (.int .i64 x7)) (c8 : w.cell? ⟨b1, 8, none⟩ = some (.int .i64 x8)) (c9 : w.cell? ⟨b1, 9, none⟩ = some (.int .i64 x9)) (c10 : w.cell? ⟨b1, 10, none⟩ = some (.int .i64 x10)) (c11 : w.cell? ⟨b1, 11, none⟩ = some (.bool x11)) (d0 : w.cell? ⟨b2, 0, none⟩ = some (.int .i64 y0)) (d1 : w.cell? ⟨b2, 1, none⟩ = some (.int .i64 y1)) (d2 : w.cell? ⟨b2, 2, none⟩ = some (.int .i64 y2)) (d3 : w.cell? ⟨b2, 3, none⟩ = some (.string y3)) (d4 : w.cell? ⟨b2, 4, none⟩ = some (.int .i64 y4)) (d6 : w.cell? ⟨b2, 6, none⟩ = some (.int .i64 y6)) (d7 : w.cell? ⟨b2, 7, none⟩ = some (.int .i64 y7)) (d8 : w.cell? ⟨b2, 8, none⟩ = some (.int .i64 y8)) (d9 : w.cell? ⟨b2, 9, none⟩ = some (.int .i64 y9)) (d10 : w.cell? ⟨b2, 10, none⟩ = some (.int .i64 y10)) (d11 : w.cell? ⟨b2, 11, none⟩ = some (.bool y11))
    (ha : Fr.Is 106 [(2, .pointer (some ⟨b1, 0, none⟩)), (3, .pointer (some ⟨b2, 0, none⟩))] a)
    (hQ : Hid (∀ v a', Fr.Is 106 [(4, .bool v)] a' → (v = true ↔ x0 = y0 ∧ x1 = y1 ∧ x2 = y2 ∧ x3 = y3 ∧ x4 = y4 ∧ x6 = y6 ∧ x7 = y7 ∧ x8 = y8 ∧ x9 = y9 ∧ x10 = y10 ∧ x11 = y11) → Q .normal a' w)) :
    (Fr.reg Tryd.f18 8).wp Tryd.prog Q a w := by
  obtain ⟨fr, rfl, hfr⟩ := ha.lit
  simp only [List.map_cons, List.map_nil, List.cons.injEq, and_true] at hfr
  conv => arg 2; whnf
  simp only [List.range, List.range.loop, List.map_cons, List.map_nil, hfr]
  clear hfr ha
  try simp only [List.append_eq, List.cons_append, List.nil_append]
  by_cases h0 : x0 = y0
  rotate_left
  · have k0 : (x0 == y0) = false := beq_eq_false_iff_ne.mpr h0
    go_wp2_with fail
    exact hQ.out _ _ (Fr.Is.mk rfl rfl) ⟨fun e => (by cases e), fun h => absurd h.1 h0⟩
  have k0 : (x0 == y0) = true := by rw [h0]; exact beq_self_eq_true _
  by_cases h1 : x1 = y1
  rotate_left
  · have k1 : (x1 == y1) = false := beq_eq_false_iff_ne.mpr h1
    go_wp2_with fail
    exact hQ.out _ _ (Fr.Is.mk rfl rfl) ⟨fun e => (by cases e), fun h => absurd h.2.1 h1⟩
  have k1 : (x1 == y1) = true := by rw [h1]; exact beq_self_eq_true _
  by_cases h2 : x2 = y2
  rotate_left
  · have k2 : (x2 == y2) = false := beq_eq_false_iff_ne.mpr h2
    go_wp2_with fail
    exact hQ.out _ _ (Fr.Is.mk rfl rfl) ⟨fun e => (by cases e), fun h => absurd h.2.2.1 h2⟩
  have k2 : (x2 == y2) = true := by rw [h2]; exact beq_self_eq_true _
  by_cases h3 : x3 = y3
  rotate_left
  · have k3 : (x3.toList == y3.toList) = false := beq_eq_false_iff_ne.mpr (fun e => h3 (by rcases x3 with ⟨⟨l⟩⟩; rcases y3 with ⟨⟨m⟩⟩; simp [ByteArray.toList_eq] at e; rw [e]))
    go_wp2_with fail
    exact hQ.out _ _ (Fr.Is.mk rfl rfl) ⟨fun e => (by cases e), fun h => absurd h.2.2.2.1 h3⟩
  have k3 : (x3.toList == y3.toList) = true := by rw [h3]; exact beq_self_eq_true _
  by_cases h4 : x4 = y4
  rotate_left
  · have k4 : (x4 == y4) = false := beq_eq_false_iff_ne.mpr h4
    go_wp2_with fail
    exact hQ.out _ _ (Fr.Is.mk rfl rfl) ⟨fun e => (by cases e), fun h => absurd h.2.2.2.2.1 h4⟩
  have k4 : (x4 == y4) = true := by rw [h4]; exact beq_self_eq_true _
  by_cases h6 : x6 = y6
  rotate_left
  · have k6 : (x6 == y6) = false := beq_eq_false_iff_ne.mpr h6
    go_wp2_with fail
    exact hQ.out _ _ (Fr.Is.mk rfl rfl) ⟨fun e => (by cases e), fun h => absurd h.2.2.2.2.2.1 h6⟩
  have k6 : (x6 == y6) = true := by rw [h6]; exact beq_self_eq_true _
  by_cases h7 : x7 = y7
  rotate_left
  · have k7 : (x7 == y7) = false := beq_eq_false_iff_ne.mpr h7
    go_wp2_with fail
    exact hQ.out _ _ (Fr.Is.mk rfl rfl) ⟨fun e => (by cases e), fun h => absurd h.2.2.2.2.2.2.1 h7⟩
  have k7 : (x7 == y7) = true := by rw [h7]; exact beq_self_eq_true _
  by_cases h8 : x8 = y8
  rotate_left
  · have k8 : (x8 == y8) = false := beq_eq_false_iff_ne.mpr h8
    go_wp2_with fail
    exact hQ.out _ _ (Fr.Is.mk rfl rfl) ⟨fun e => (by cases e), fun h => absurd h.2.2.2.2.2.2.2.1 h8⟩
  have k8 : (x8 == y8) = true := by rw [h8]; exact beq_self_eq_true _
  by_cases h9 : x9 = y9
  rotate_left
  · have k9 : (x9 == y9) = false := beq_eq_false_iff_ne.mpr h9
    go_wp2_with fail
    exact hQ.out _ _ (Fr.Is.mk rfl rfl) ⟨fun e => (by cases e), fun h => absurd h.2.2.2.2.2.2.2.2.1 h9⟩
  have k9 : (x9 == y9) = true := by rw [h9]; exact beq_self_eq_true _
  by_cases h10 : x10 = y10
  rotate_left
  · have k10 : (x10 == y10) = false := beq_eq_false_iff_ne.mpr h10
    go_wp2_with fail
    exact hQ.out _ _ (Fr.Is.mk rfl rfl) ⟨fun e => (by cases e), fun h => absurd h.2.2.2.2.2.2.2.2.2.1 h10⟩
  have k10 : (x10 == y10) = true := by rw [h10]; exact beq_self_eq_true _
  by_cases h11 : x11 = y11
  rotate_left
  · have k11 : (x11 == y11) = false := beq_eq_false_iff_ne.mpr h11
    go_wp2_with fail
    exact hQ.out _ _ (Fr.Is.mk rfl rfl) ⟨fun e => (by cases e), fun h => absurd h.2.2.2.2.2.2.2.2.2.2 h11⟩
  have k11 : (x11 == y11) = true := by rw [h11]; exact beq_self_eq_true _
  go_wp2_with fail
  exact hQ.out _ _ (Fr.Is.mk rfl rfl) ⟨fun _ => ⟨h0, h1, h2, h3, h4, h6, h7, h8, h9, h10, h11⟩, fun _ => rfl⟩

end Go.Proofs.YtglhdlkmgmbgeaaDoor

namespace Go.Proofs.YtglhdlkmgmbgeaaDoor
open Go.RowKit
open Fra Oct Arg Mem Gen Qu Go.Proofs.YtglhdlkmgmbgeaaDoor.Obj
set_option linter.unusedVariables false
set_option linter.unusedSimpArgs false


set_option maxRecDepth 100000 in
set_option maxHeartbeats 1000000 in
theorem dtk_r0 {Q : Exit → Act → World → Prop} {n cap : Nat} {ad : Option Addr} {most : Int} (a : Act) (w : World) 
    (ha : Fr.Is 208 [(0, .slice ad n cap), (1, .int .i64 most)] a)
    (hQ : Hid (∀ a', Fr.Is 208 [(0, .slice ad n cap), (1, .int .i64 most), (4, .pointer (some ⟨w.heap.size, 0, none⟩)), (6, .pointer (some ⟨w.heap.size + 1, 0, none⟩))] a' → Q .normal a' ((w.alloc (.cells #[.int .i64 0, .int .i64 0, .int .i64 0, .string ⟨#[]⟩, .int .i64 0, .slice none 0 0, .int .i64 0, .int .i64 0, .int .i64 0, .int .i64 0, .int .i64 0, .bool false] 40)).alloc (.cells #[.bool false, .int .i64 0, .int .i64 0] 37)))) :
    (Fr.reg Tryd.f17 0).wp Tryd.prog Q a w := by
  obtain ⟨fr, rfl, hfr⟩ := ha.lit
  simp only [List.map_cons, List.map_nil, List.cons.injEq, and_true] at hfr
  conv => arg 2; whnf
  simp only [List.range, List.range.loop, List.map_cons, List.map_nil, hfr]
  clear hfr ha
  go_wp2_with fail
  exact hQ.out _ (Fr.Is.mk rfl (by simp))


set_option maxRecDepth 100000 in
set_option maxHeartbeats 1000000 in
theorem dtk_r1 {Q : Exit → Act → World → Prop} {rv rx n cap : Nat} {ad : Option Addr} {most : Int} (a : Act) (w : World) 
    (ha : Fr.Is 208 [(0, .slice ad n cap), (1, .int .i64 most), (4, .pointer (some ⟨rv, 0, none⟩)), (6, .pointer (some ⟨rx, 0, none⟩))] a)
    (hQ : Hid (∀ w' a', Fr.Is 208 [(0, .slice ad n cap), (1, .int .i64 most), (4, .pointer (some ⟨rv, 0, none⟩)), (6, .pointer (some ⟨rx, 0, none⟩)), (7, .pointer (some ⟨w.heap.size, 0, none⟩))] a' → Fb w.heap.size noFr none 0 w' → Below w.heap.size w w' → Q .normal a' w')) :
    (Fr.reg Tryd.f17 1).wp Tryd.prog Q a w := by
  obtain ⟨fr, rfl, hfr⟩ := ha.lit
  simp only [List.map_cons, List.map_nil, List.cons.injEq, and_true] at hfr
  conv => arg 2; whnf
  simp only [List.range, List.range.loop, List.map_cons, List.map_nil, hfr]
  clear hfr ha
  go_wp2_with fail
  exact hQ.out _ _ (Fr.Is.mk rfl rfl) (heap_alloc_new w _) (bel_al w _)


set_option maxRecDepth 100000 in
set_option maxHeartbeats 1000000 in
theorem dtk_r2 {Q : Exit → Act → World → Prop} {rv rx nb n cap : Nat} {ad : Option Addr} {most : Int} (a : Act) (w : World) 
    (ha : Fr.Is 208 [(0, .slice ad n cap), (1, .int .i64 most), (4, .pointer (some ⟨rv, 0, none⟩)), (6, .pointer (some ⟨rx, 0, none⟩)), (7, .pointer (some ⟨nb, 0, none⟩))] a)
    (hQ : Hid (∀ a', Fr.Is 208 [(0, .slice ad n cap), (1, .int .i64 most), (4, .pointer (some ⟨rv, 0, none⟩)), (6, .pointer (some ⟨rx, 0, none⟩)), (7, .pointer (some ⟨nb, 0, none⟩)), (18, .bool (decide ((n : Int) < 9)))] a' → Q .normal a' w)) :
    (Fr.reg Tryd.f17 2).wp Tryd.prog Q a w := by
  obtain ⟨fr, rfl, hfr⟩ := ha.lit
  simp only [List.map_cons, List.map_nil, List.cons.injEq, and_true] at hfr
  conv => arg 2; whnf
  simp only [List.range, List.range.loop, List.map_cons, List.map_nil, hfr]
  clear hfr ha
  go_wp2_with fail
  exact hQ.out _ (Fr.Is.mk rfl rfl)


set_option maxRecDepth 100000 in
set_option maxHeartbeats 1000000 in
theorem dtk_r4 {Q : Exit → Act → World → Prop} {rv rx nb n cap : Nat} {ad : Option Addr} {most : Int} {N : Int} (a : Act) (w : World) (HA : Hid (Calls Tryd.prog 24 #[.slice ad n cap, .int .i64 0, .int .i64 3] w fun e w' => e = .returned (.int .i64 N) ∧ w = w')) (v0 : 0 ≤ N) (v1 : N < 4294967296)
    (ha : Fr.Is 208 [(0, .slice ad n cap), (1, .int .i64 most), (4, .pointer (some ⟨rv, 0, none⟩)), (6, .pointer (some ⟨rx, 0, none⟩)), (7, .pointer (some ⟨nb, 0, none⟩))] a)
    (hQ : Hid (∀ a', Fr.Is 208 [(0, .slice ad n cap), (1, .int .i64 most), (4, .pointer (some ⟨rv, 0, none⟩)), (6, .pointer (some ⟨rx, 0, none⟩)), (7, .pointer (some ⟨nb, 0, none⟩)), (8, .int .i64 N)] a' → Q .normal a' w)) :
    (Fr.reg Tryd.f17 4).wp Tryd.prog Q a w := by
  obtain ⟨fr, rfl, hfr⟩ := ha.lit
  simp only [List.map_cons, List.map_nil, List.cons.injEq, and_true] at hfr
  conv => arg 2; whnf
  simp only [List.range, List.range.loop, List.map_cons, List.map_nil, hfr]
  clear hfr ha
  go_wp2_with fail
  refine HA.out.mono ?_; rintro e w2 ⟨rfl, rfl⟩
  go_wp2_with fail
  exact hQ.out _ (Fr.Is.mk rfl rfl)


set_option maxRecDepth 100000 in
set_option maxHeartbeats 1000000 in
theorem dtk_r5 {Q : Exit → Act → World → Prop} {rv rx nb n cap : Nat} {ad : Option Addr} {most : Int} {N : Int} (a : Act) (w : World) 
    (ha : Fr.Is 208 [(0, .slice ad n cap), (1, .int .i64 most), (4, .pointer (some ⟨rv, 0, none⟩)), (6, .pointer (some ⟨rx, 0, none⟩)), (7, .pointer (some ⟨nb, 0, none⟩)), (8, .int .i64 N)] a)
    (hQ : Hid (∀ a', Fr.Is 208 [(0, .slice ad n cap), (1, .int .i64 most), (4, .pointer (some ⟨rv, 0, none⟩)), (6, .pointer (some ⟨rx, 0, none⟩)), (7, .pointer (some ⟨nb, 0, none⟩)), (8, .int .i64 N), (25, .bool (decide (N > most)))] a' → Q .normal a' w)) :
    (Fr.reg Tryd.f17 5).wp Tryd.prog Q a w := by
  obtain ⟨fr, rfl, hfr⟩ := ha.lit
  simp only [List.map_cons, List.map_nil, List.cons.injEq, and_true] at hfr
  conv => arg 2; whnf
  simp only [List.range, List.range.loop, List.map_cons, List.map_nil, hfr]
  clear hfr ha
  go_wp2_with fail
  exact hQ.out _ (Fr.Is.mk rfl rfl)


set_option maxRecDepth 100000 in
set_option maxHeartbeats 1000000 in
theorem dtk_r7 {Q : Exit → Act → World → Prop} {rv rx nb n cap : Nat} {ad : Option Addr} {most : Int} {N : Int} (a : Act) (w : World) (h9 : 9 ≤ n) (hn : n ≤ 9223372036854775807)
    (ha : Fr.Is 208 [(0, .slice ad n cap), (1, .int .i64 most), (4, .pointer (some ⟨rv, 0, none⟩)), (6, .pointer (some ⟨rx, 0, none⟩)), (7, .pointer (some ⟨nb, 0, none⟩)), (8, .int .i64 N)] a)
    (hQ : Hid (∀ a', Fr.Is 208 [(0, .slice ad n cap), (1, .int .i64 most), (4, .pointer (some ⟨rv, 0, none⟩)), (6, .pointer (some ⟨rx, 0, none⟩)), (7, .pointer (some ⟨nb, 0, none⟩)), (8, .int .i64 N), (32, .bool (decide ((n : Int) - 9 < N)))] a' → Q .normal a' w)) :
    (Fr.reg Tryd.f17 7).wp Tryd.prog Q a w := by
  obtain ⟨fr, rfl, hfr⟩ := ha.lit
  simp only [List.map_cons, List.map_nil, List.cons.injEq, and_true] at hfr
  conv => arg 2; whnf
  simp only [List.range, List.range.loop, List.map_cons, List.map_nil, hfr]
  clear hfr ha
  go_wp2_with fail
  exact hQ.out _ (Fr.Is.mk rfl rfl)


set_option maxRecDepth 100000 in
set_option maxHeartbeats 1000000 in
theorem dtk_r10 {Q : Exit → Act → World → Prop} {rv rx nb fb n cap : Nat} {ad : Option Addr} {most N : Int} {t : Int} (a : Act) (w : World) (c0 : w.cell? ⟨fb, 0, none⟩ = some (.int .i64 t))
    (ha : Fr.Is 208 [(0, .slice ad n cap), (1, .int .i64 most), (4, .pointer (some ⟨rv, 0, none⟩)), (6, .pointer (some ⟨rx, 0, none⟩)), (7, .pointer (some ⟨nb, 0, none⟩)), (8, .int .i64 N), (9, .pointer (some ⟨fb, 0, none⟩))] a)
    (hQ : Hid (∀ v a', Fr.Is 208 [(0, .slice ad n cap), (1, .int .i64 most), (4, .pointer (some ⟨rv, 0, none⟩)), (6, .pointer (some ⟨rx, 0, none⟩)), (7, .pointer (some ⟨nb, 0, none⟩)), (8, .int .i64 N), (9, .pointer (some ⟨fb, 0, none⟩)), (10, .bool v)] a' → (v = true ↔ t = 0 ∨ t = 1 ∨ t = 2 ∨ t = 3 ∨ t = 9) → Q .normal a' w)) :
    (Fr.reg Tryd.f17 10).wp Tryd.prog Q a w := by
  obtain ⟨fr, rfl, hfr⟩ := ha.lit
  simp only [List.map_cons, List.map_nil, List.cons.injEq, and_true] at hfr
  conv => arg 2; whnf
  simp only [List.range, List.range.loop, List.map_cons, List.map_nil, hfr]
  clear hfr ha
  by_cases h0 : t = 0
  · subst t
    go_wp2_with fail
    exact hQ.out _ _ (Fr.Is.mk rfl rfl) (by simp)
  have k0 : (t == 0) = false := by simp [h0]
  by_cases h1 : t = 1
  · subst t
    go_wp2_with fail
    exact hQ.out _ _ (Fr.Is.mk rfl rfl) (by simp)
  have k1 : (t == 1) = false := by simp [h1]
  by_cases h2 : t = 2
  · subst t
    go_wp2_with fail
    exact hQ.out _ _ (Fr.Is.mk rfl rfl) (by simp)
  have k2 : (t == 2) = false := by simp [h2]
  by_cases h3 : t = 3
  · subst t
    go_wp2_with fail
    exact hQ.out _ _ (Fr.Is.mk rfl rfl) (by simp)
  have k3 : (t == 3) = false := by simp [h3]
  by_cases h9 : t = 9
  · subst t
    go_wp2_with fail
    exact hQ.out _ _ (Fr.Is.mk rfl rfl) (by simp)
  have k9 : (t == 9) = false := by simp [h9]
  go_wp2_with fail
  exact hQ.out _ _ (Fr.Is.mk rfl rfl) (by simp [h0, h1, h2, h3, h9])


set_option maxRecDepth 100000 in
set_option maxHeartbeats 1000000 in
theorem dtk_r11 {Q : Exit → Act → World → Prop} {rv rx nb fb n cap : Nat} {ad : Option Addr} {most N : Int} {t : Int} {b10 : Bool} (a : Act) (w : World) (c0 : w.cell? ⟨fb, 0, none⟩ = some (.int .i64 t))
    (ha : Fr.Is 208 [(0, .slice ad n cap), (1, .int .i64 most), (4, .pointer (some ⟨rv, 0, none⟩)), (6, .pointer (some ⟨rx, 0, none⟩)), (7, .pointer (some ⟨nb, 0, none⟩)), (8, .int .i64 N), (9, .pointer (some ⟨fb, 0, none⟩)), (10, .bool b10)] a)
    (hQ : Hid (∀ v a', Fr.Is 208 [(0, .slice ad n cap), (1, .int .i64 most), (4, .pointer (some ⟨rv, 0, none⟩)), (6, .pointer (some ⟨rx, 0, none⟩)), (7, .pointer (some ⟨nb, 0, none⟩)), (8, .int .i64 N), (9, .pointer (some ⟨fb, 0, none⟩)), (10, .bool b10), (11, .bool v)] a' → (v = true ↔ t = 4 ∨ t = 6 ∨ t = 7) → Q .normal a' w)) :
    (Fr.reg Tryd.f17 11).wp Tryd.prog Q a w := by
  obtain ⟨fr, rfl, hfr⟩ := ha.lit
  simp only [List.map_cons, List.map_nil, List.cons.injEq, and_true] at hfr
  conv => arg 2; whnf
  simp only [List.range, List.range.loop, List.map_cons, List.map_nil, hfr]
  clear hfr ha
  by_cases h4 : t = 4
  · subst t
    go_wp2_with fail
    exact hQ.out _ _ (Fr.Is.mk rfl rfl) (by simp)
  have k4 : (t == 4) = false := by simp [h4]
  by_cases h6 : t = 6
  · subst t
    go_wp2_with fail
    exact hQ.out _ _ (Fr.Is.mk rfl rfl) (by simp)
  have k6 : (t == 6) = false := by simp [h6]
  by_cases h7 : t = 7
  · subst t
    go_wp2_with fail
    exact hQ.out _ _ (Fr.Is.mk rfl rfl) (by simp)
  have k7 : (t == 7) = false := by simp [h7]
  go_wp2_with fail
  exact hQ.out _ _ (Fr.Is.mk rfl rfl) (by simp [h4, h6, h7])


set_option maxRecDepth 100000 in
set_option maxHeartbeats 2000000 in
theorem dtk_r12 {Q : Exit → Act → World → Prop} {rv rx nb fb n cap : Nat} {ad : Option Addr} {most N : Int} {t st : Int} {b10 b11 : Bool} (a : Act) (w : World) (c0 : w.cell? ⟨fb, 0, none⟩ = some (.int .i64 t)) (c2 : w.cell? ⟨fb, 2, none⟩ = some (.int .i64 st))
    (ha : Fr.Is 208 [(0, .slice ad n cap), (1, .int .i64 most), (4, .pointer (some ⟨rv, 0, none⟩)), (6, .pointer (some ⟨rx, 0, none⟩)), (7, .pointer (some ⟨nb, 0, none⟩)), (8, .int .i64 N), (9, .pointer (some ⟨fb, 0, none⟩)), (10, .bool b10), (11, .bool b11)] a)
    (hQ : Hid (∀ v a', Fr.Is 208 [(0, .slice ad n cap), (1, .int .i64 most), (4, .pointer (some ⟨rv, 0, none⟩)), (6, .pointer (some ⟨rx, 0, none⟩)), (7, .pointer (some ⟨nb, 0, none⟩)), (8, .int .i64 N), (9, .pointer (some ⟨fb, 0, none⟩)), (101, .bool v)] a' → (v = true ↔ (b10 = true ∧ st = 0) ∨ (b11 = true ∧ st ≠ 0) ∨ t = 5) → Q .normal a' w)) :
    (Fr.reg Tryd.f17 12).wp Tryd.prog Q a w := by
  obtain ⟨fr, rfl, hfr⟩ := ha.lit
  simp only [List.map_cons, List.map_nil, List.cons.injEq, and_true] at hfr
  conv => arg 2; whnf
  simp only [List.range, List.range.loop, List.map_cons, List.map_nil, hfr]
  clear hfr ha
  cases b10
  · cases b11
    · skip
      by_cases h5 : t = 5
      · have k5 : (t == 5) = true := by simp [h5]
        go_wp2_with fail
        exact hQ.out _ _ (Fr.Is.mk rfl rfl) (by simp [*])
      · have k5 : (t == 5) = false := by simp [h5]
        go_wp2_with fail
        exact hQ.out _ _ (Fr.Is.mk rfl rfl) (by simp [*])
    · skip
      by_cases hs : st = 0
      · have ks : (st == 0) = true := by simp [hs]
        by_cases h5 : t = 5
        · have k5 : (t == 5) = true := by simp [h5]
          go_wp2_with fail
          exact hQ.out _ _ (Fr.Is.mk rfl rfl) (by simp [*])
        · have k5 : (t == 5) = false := by simp [h5]
          go_wp2_with fail
          exact hQ.out _ _ (Fr.Is.mk rfl rfl) (by simp [*])
      · have ks : (st == 0) = false := by simp [hs]
        go_wp2_with fail
        exact hQ.out _ _ (Fr.Is.mk rfl rfl) (by simp [*])
  · cases b11
    · skip
      by_cases hs : st = 0
      · have ks : (st == 0) = true := by simp [hs]
        go_wp2_with fail
        exact hQ.out _ _ (Fr.Is.mk rfl rfl) (by simp [*])
      · have ks : (st == 0) = false := by simp [hs]
        by_cases h5 : t = 5
        · have k5 : (t == 5) = true := by simp [h5]
          go_wp2_with fail
          exact hQ.out _ _ (Fr.Is.mk rfl rfl) (by simp [*])
        · have k5 : (t == 5) = false := by simp [h5]
          go_wp2_with fail
          exact hQ.out _ _ (Fr.Is.mk rfl rfl) (by simp [*])
    · skip
      by_cases hs : st = 0
      · have ks : (st == 0) = true := by simp [hs]
        go_wp2_with fail
        exact hQ.out _ _ (Fr.Is.mk rfl rfl) (by simp [*])
      · have ks : (st == 0) = false := by simp [hs]
        go_wp2_with fail
        exact hQ.out _ _ (Fr.Is.mk rfl rfl) (by simp [*])


set_option maxRecDepth 100000 in
set_option maxHeartbeats 1000000 in
theorem dtk_r14 {Q : Exit → Act → World → Prop} {rv rx nb fb n cap : Nat} {ad : Option Addr} {most N : Int} {f : FrM} {sa : Option Addr} {sc : Nat} {s : Bool} (a : Act) (w : World) (V : Fb fb f sa sc w) (HS : Hid (∀ v, Below w.heap.size w v → Calls Tryd.prog 26 #[frV f sa sc, .int .i64 N] v fun e w' => e = .returned (.bool s) ∧ Below v.heap.size v w'))
    (ha : Fr.Is 208 [(0, .slice ad n cap), (1, .int .i64 most), (4, .pointer (some ⟨rv, 0, none⟩)), (6, .pointer (some ⟨rx, 0, none⟩)), (7, .pointer (some ⟨nb, 0, none⟩)), (8, .int .i64 N), (9, .pointer (some ⟨fb, 0, none⟩))] a)
    (hQ : Hid (∀ w' v a', Fr.Is 208 [(0, .slice ad n cap), (1, .int .i64 most), (4, .pointer (some ⟨rv, 0, none⟩)), (6, .pointer (some ⟨rx, 0, none⟩)), (7, .pointer (some ⟨nb, 0, none⟩)), (8, .int .i64 N), (9, .pointer (some ⟨fb, 0, none⟩)), (112, .bool v)] a' → Below w.heap.size w w' → (v = true ↔ s = false ∧ f.type = 2) → Q .normal a' w')) :
    (Fr.reg Tryd.f17 14).wp Tryd.prog Q a w := by
  obtain ⟨fr, rfl, hfr⟩ := ha.lit
  simp only [List.map_cons, List.map_nil, List.cons.injEq, and_true] at hfr
  conv => arg 2; whnf
  simp only [List.range, List.range.loop, List.map_cons, List.map_nil, hfr]
  clear hfr ha
  obtain ⟨c0, c1, c2, c3, c4, c5, c6, c7, c8, c9, c10, c11⟩ := fr_cells V
  unfold frV frC at HS
  go_wp2_with fail
  refine (HS.out _ (Below.refl _ _)).mono ?_; rintro e w2 ⟨rfl, b2⟩
  have HB := Lib.hid b2
  have d0 := below_cell b2 c0
  clear b2 V c0 c1 c2 c3 c4 c5 c6 c7 c8 c9 c10 c11
  cases s
  · by_cases h2 : f.type = 2
    · have k2 : (f.type == 2) = true := by simp [h2]
      go_wp2_with fail
      exact hQ.out _ _ _ (Fr.Is.mk rfl rfl) HB.out (by simp [h2])
    · have k2 : (f.type == 2) = false := by simp [h2]
      go_wp2_with fail
      exact hQ.out _ _ _ (Fr.Is.mk rfl rfl) HB.out (by simp [h2])
  · go_wp2_with fail
    exact hQ.out _ _ _ (Fr.Is.mk rfl rfl) HB.out (by simp)


set_option maxRecDepth 100000 in
set_option maxHeartbeats 1000000 in
theorem dtk_r16 {Q : Exit → Act → World → Prop} {rv rx nb fb n cap : Nat} {ad : Option Addr} {most N : Int} {f : FrM} {sa : Option Addr} {sc : Nat} {s : Bool} (a : Act) (w : World) (V : Fb fb f sa sc w) (HS : Hid (∀ v, Below w.heap.size w v → Calls Tryd.prog 26 #[frV f sa sc, .int .i64 N] v fun e w' => e = .returned (.bool s) ∧ Below v.heap.size v w'))
    (ha : Fr.Is 208 [(0, .slice ad n cap), (1, .int .i64 most), (4, .pointer (some ⟨rv, 0, none⟩)), (6, .pointer (some ⟨rx, 0, none⟩)), (7, .pointer (some ⟨nb, 0, none⟩)), (8, .int .i64 N), (9, .pointer (some ⟨fb, 0, none⟩))] a)
    (hQ : Hid (∀ w' a', Fr.Is 208 [(0, .slice ad n cap), (1, .int .i64 most), (4, .pointer (some ⟨rv, 0, none⟩)), (6, .pointer (some ⟨rx, 0, none⟩)), (7, .pointer (some ⟨nb, 0, none⟩)), (8, .int .i64 N), (9, .pointer (some ⟨fb, 0, none⟩)), (122, .bool (!s))] a' → Below w.heap.size w w' → Q .normal a' w')) :
    (Fr.reg Tryd.f17 16).wp Tryd.prog Q a w := by
  obtain ⟨fr, rfl, hfr⟩ := ha.lit
  simp only [List.map_cons, List.map_nil, List.cons.injEq, and_true] at hfr
  conv => arg 2; whnf
  simp only [List.range, List.range.loop, List.map_cons, List.map_nil, hfr]
  clear hfr ha
  obtain ⟨c0, c1, c2, c3, c4, c5, c6, c7, c8, c9, c10, c11⟩ := fr_cells V
  unfold frV frC at HS
  go_wp2_with fail
  refine (HS.out _ (Below.refl _ _)).mono ?_; rintro e w2 ⟨rfl, b2⟩
  have HB := Lib.hid b2
  clear b2 V c0 c1 c2 c3 c4 c5 c6 c7 c8 c9 c10 c11
  go_wp2_with fail
  exact hQ.out _ _ (Fr.Is.mk rfl rfl) HB.out


set_option maxRecDepth 100000 in
set_option maxHeartbeats 1000000 in
theorem dtk_r19 {Q : Exit → Act → World → Prop} {rv rx nb fb n cap : Nat} {ad : Option Addr} {most N : Int} {b : Bool} (a : Act) (w : World) 
    (ha : Fr.Is 208 [(0, .slice ad n cap), (1, .int .i64 most), (4, .pointer (some ⟨rv, 0, none⟩)), (6, .pointer (some ⟨rx, 0, none⟩)), (7, .pointer (some ⟨nb, 0, none⟩)), (8, .int .i64 N), (9, .pointer (some ⟨fb, 0, none⟩)), (12, .bool b)] a)
    (hQ : Hid (∀ a', Fr.Is 208 [(0, .slice ad n cap), (1, .int .i64 most), (4, .pointer (some ⟨rv, 0, none⟩)), (6, .pointer (some ⟨rx, 0, none⟩)), (7, .pointer (some ⟨nb, 0, none⟩)), (8, .int .i64 N), (9, .pointer (some ⟨fb, 0, none⟩)), (135, .bool (!b))] a' → Q .normal a' w)) :
    (Fr.reg Tryd.f17 19).wp Tryd.prog Q a w := by
  obtain ⟨fr, rfl, hfr⟩ := ha.lit
  simp only [List.map_cons, List.map_nil, List.cons.injEq, and_true] at hfr
  conv => arg 2; whnf
  simp only [List.range, List.range.loop, List.map_cons, List.map_nil, hfr]
  clear hfr ha
  go_wp2_with fail
  exact hQ.out _ (Fr.Is.mk rfl rfl)


set_option maxRecDepth 100000 in
set_option maxHeartbeats 1000000 in
theorem dtk_r21 {Q : Exit → Act → World → Prop} {rv rx nb fb n cap : Nat} {ad : Option Addr} {most N : Int} {t inc : Int} (a : Act) (w : World) (c0 : w.cell? ⟨fb, 0, none⟩ = some (.int .i64 t)) (c8 : w.cell? ⟨fb, 8, none⟩ = some (.int .i64 inc))
    (ha : Fr.Is 208 [(0, .slice ad n cap), (1, .int .i64 most), (4, .pointer (some ⟨rv, 0, none⟩)), (6, .pointer (some ⟨rx, 0, none⟩)), (7, .pointer (some ⟨nb, 0, none⟩)), (8, .int .i64 N), (9, .pointer (some ⟨fb, 0, none⟩))] a)
    (hQ : Hid (∀ v a', Fr.Is 208 [(0, .slice ad n cap), (1, .int .i64 most), (4, .pointer (some ⟨rv, 0, none⟩)), (6, .pointer (some ⟨rx, 0, none⟩)), (7, .pointer (some ⟨nb, 0, none⟩)), (8, .int .i64 N), (9, .pointer (some ⟨fb, 0, none⟩)), (145, .bool v)] a' → (v = true ↔ t = 8 ∧ inc = 0) → Q .normal a' w)) :
    (Fr.reg Tryd.f17 21).wp Tryd.prog Q a w := by
  obtain ⟨fr, rfl, hfr⟩ := ha.lit
  simp only [List.map_cons, List.map_nil, List.cons.injEq, and_true] at hfr
  conv => arg 2; whnf
  simp only [List.range, List.range.loop, List.map_cons, List.map_nil, hfr]
  clear hfr ha
  by_cases h8 : t = 8
  · have k8 : (t == 8) = true := by simp [h8]
    by_cases hi : inc = 0
    · have ki : (inc == 0) = true := by simp [hi]
      go_wp2_with fail
      exact hQ.out _ _ (Fr.Is.mk rfl rfl) (by simp [*])
    · have ki : (inc == 0) = false := by simp [hi]
      go_wp2_with fail
      exact hQ.out _ _ (Fr.Is.mk rfl rfl) (by simp [*])
  · have k8 : (t == 8) = false := by simp [h8]
    go_wp2_with fail
    exact hQ.out _ _ (Fr.Is.mk rfl rfl) (by simp [*])


set_option maxRecDepth 100000 in
set_option maxHeartbeats 1000000 in
theorem dtk_r22 {Q : Exit → Act → World → Prop} {rv rx nb fb n cap : Nat} {ad : Option Addr} {most N : Int} {st : Int} (a : Act) (w : World) (c2 : w.cell? ⟨fb, 2, none⟩ = some (.int .i64 st))
    (ha : Fr.Is 208 [(0, .slice ad n cap), (1, .int .i64 most), (4, .pointer (some ⟨rv, 0, none⟩)), (6, .pointer (some ⟨rx, 0, none⟩)), (7, .pointer (some ⟨nb, 0, none⟩)), (8, .int .i64 N), (9, .pointer (some ⟨fb, 0, none⟩))] a)
    (hQ : Hid (∀ v a', Fr.Is 208 [(0, .slice ad n cap), (1, .int .i64 most), (4, .pointer (some ⟨rv, 0, none⟩)), (6, .pointer (some ⟨rx, 0, none⟩)), (7, .pointer (some ⟨nb, 0, none⟩)), (8, .int .i64 N), (9, .pointer (some ⟨fb, 0, none⟩)), (148, .bool v)] a' → (v = true ↔ st = 0) → Q .normal a' w)) :
    (Fr.reg Tryd.f17 22).wp Tryd.prog Q a w := by
  obtain ⟨fr, rfl, hfr⟩ := ha.lit
  simp only [List.map_cons, List.map_nil, List.cons.injEq, and_true] at hfr
  conv => arg 2; whnf
  simp only [List.range, List.range.loop, List.map_cons, List.map_nil, hfr]
  clear hfr ha
  by_cases hs : st = 0
  · have ks : (st == 0) = true := by simp [hs]
    go_wp2_with fail
    exact hQ.out _ _ (Fr.Is.mk rfl rfl) (by simp [*])
  · have ks : (st == 0) = false := by simp [hs]
    go_wp2_with fail
    exact hQ.out _ _ (Fr.Is.mk rfl rfl) (by simp [*])


set_option maxRecDepth 100000 in
set_option maxHeartbeats 1000000 in
theorem dtk_r25 {Q : Exit → Act → World → Prop} {rv rx nb fb n cap : Nat} {ad : Option Addr} {most N : Int} (a : Act) (w : World) 
    (ha : Fr.Is 208 [(0, .slice ad n cap), (1, .int .i64 most), (4, .pointer (some ⟨rv, 0, none⟩)), (6, .pointer (some ⟨rx, 0, none⟩)), (7, .pointer (some ⟨nb, 0, none⟩)), (8, .int .i64 N), (9, .pointer (some ⟨fb, 0, none⟩))] a)
    (hQ : Hid (∀ a', Fr.Is 208 [(0, .slice ad n cap), (1, .int .i64 most), (4, .pointer (some ⟨rv, 0, none⟩)), (6, .pointer (some ⟨rx, 0, none⟩)), (7, .pointer (some ⟨nb, 0, none⟩)), (8, .int .i64 N), (9, .pointer (some ⟨fb, 0, none⟩)), (13, .int .i64 (0 : Nat))] a' → Q .normal a' w)) :
    (Fr.reg Tryd.f17 25).wp Tryd.prog Q a w := by
  obtain ⟨fr, rfl, hfr⟩ := ha.lit
  simp only [List.map_cons, List.map_nil, List.cons.injEq, and_true] at hfr
  conv => arg 2; whnf
  simp only [List.range, List.range.loop, List.map_cons, List.map_nil, hfr]
  clear hfr ha
  go_wp2_with fail
  exact hQ.out _ (Fr.Is.mk rfl rfl)


set_option maxRecDepth 100000 in
set_option maxHeartbeats 1000000 in
theorem dtk_r26 {Q : Exit → Act → World → Prop} {rv rx nb fb n cap i : Nat} {ad : Option Addr} {most N : Int} {m sc : Nat} {sa : Option Addr} (a : Act) (w : World) (c5 : w.cell? ⟨fb, 5, none⟩ = some (.slice sa m sc))
    (ha : Fr.Is 208 [(0, .slice ad n cap), (1, .int .i64 most), (4, .pointer (some ⟨rv, 0, none⟩)), (6, .pointer (some ⟨rx, 0, none⟩)), (7, .pointer (some ⟨nb, 0, none⟩)), (8, .int .i64 N), (9, .pointer (some ⟨fb, 0, none⟩)), (13, .int .i64 i)] a)
    (hQ : Hid (∀ a', Fr.Is 208 [(0, .slice ad n cap), (1, .int .i64 most), (4, .pointer (some ⟨rv, 0, none⟩)), (6, .pointer (some ⟨rx, 0, none⟩)), (7, .pointer (some ⟨nb, 0, none⟩)), (8, .int .i64 N), (9, .pointer (some ⟨fb, 0, none⟩)), (13, .int .i64 i), (161, .bool (decide (i < m)))] a' → Q .normal a' w)) :
    (Fr.reg Tryd.f17 26).wp Tryd.prog Q a w := by
  obtain ⟨fr, rfl, hfr⟩ := ha.lit
  simp only [List.map_cons, List.map_nil, List.cons.injEq, and_true] at hfr
  conv => arg 2; whnf
  simp only [List.range, List.range.loop, List.map_cons, List.map_nil, hfr]
  clear hfr ha
  by_cases h : i < m
  · have h' : (i : Int) < m := by omega
    go_wp2_with fail
    exact hQ.out _ (Fr.Is.mk rfl (by simp [h]))
  · have h' : ¬ (i : Int) < m := by omega
    go_wp2_with fail
    exact hQ.out _ (Fr.Is.mk rfl (by simp; omega))


set_option maxRecDepth 100000 in
set_option maxHeartbeats 1000000 in
theorem dtk_r27 {Q : Exit → Act → World → Prop} {rv rx nb fb n cap i : Nat} {ad : Option Addr} {most N : Int} (a : Act) (w : World) (hi : i < 9223372036854775807)
    (ha : Fr.Is 208 [(0, .slice ad n cap), (1, .int .i64 most), (4, .pointer (some ⟨rv, 0, none⟩)), (6, .pointer (some ⟨rx, 0, none⟩)), (7, .pointer (some ⟨nb, 0, none⟩)), (8, .int .i64 N), (9, .pointer (some ⟨fb, 0, none⟩)), (13, .int .i64 i)] a)
    (hQ : Hid (∀ a', Fr.Is 208 [(0, .slice ad n cap), (1, .int .i64 most), (4, .pointer (some ⟨rv, 0, none⟩)), (6, .pointer (some ⟨rx, 0, none⟩)), (7, .pointer (some ⟨nb, 0, none⟩)), (8, .int .i64 N), (9, .pointer (some ⟨fb, 0, none⟩)), (13, .int .i64 ((i : Int) + 1))] a' → Q .normal a' w)) :
    (Fr.reg Tryd.f17 27).wp Tryd.prog Q a w := by
  obtain ⟨fr, rfl, hfr⟩ := ha.lit
  simp only [List.map_cons, List.map_nil, List.cons.injEq, and_true] at hfr
  conv => arg 2; whnf
  simp only [List.range, List.range.loop, List.map_cons, List.map_nil, hfr]
  clear hfr ha
  go_wp2_with fail
  exact hQ.out _ (Fr.Is.mk rfl rfl)


set_option maxRecDepth 100000 in
set_option maxHeartbeats 1000000 in
theorem dtk_r28 {Q : Exit → Act → World → Prop} {rv rx nb fb n cap i : Nat} {ad : Option Addr} {most N : Int} {m sc g1 o1 : Nat} {s : StM} (a : Act) (w : World) (c5 : w.cell? ⟨fb, 5, none⟩ = some (.slice (some ⟨g1, o1, none⟩) m sc)) (hi : i < m) (x0 : w.cell? ⟨g1, o1 + i * 2, none⟩ = some (.int .i64 s.id)) (x1 : w.cell? ⟨g1, o1 + i * 2 + 1, none⟩ = some (.int .i64 s.val))
    (ha : Fr.Is 208 [(0, .slice ad n cap), (1, .int .i64 most), (4, .pointer (some ⟨rv, 0, none⟩)), (6, .pointer (some ⟨rx, 0, none⟩)), (7, .pointer (some ⟨nb, 0, none⟩)), (8, .int .i64 N), (9, .pointer (some ⟨fb, 0, none⟩)), (13, .int .i64 i)] a)
    (hQ : Hid (∀ w' a', Fr.Is 208 [(0, .slice ad n cap), (1, .int .i64 most), (4, .pointer (some ⟨rv, 0, none⟩)), (6, .pointer (some ⟨rx, 0, none⟩)), (7, .pointer (some ⟨nb, 0, none⟩)), (8, .int .i64 N), (9, .pointer (some ⟨fb, 0, none⟩)), (13, .int .i64 i), (14, .pointer (some ⟨w.heap.size, 0, none⟩))] a' → w'.heap[w.heap.size]? = some (.cells #[.int .i64 s.id, .int .i64 s.val] 67 (0, 0)) → Below w.heap.size w w' → Q .normal a' w')) :
    (Fr.reg Tryd.f17 28).wp Tryd.prog Q a w := by
  obtain ⟨fr, rfl, hfr⟩ := ha.lit
  simp only [List.map_cons, List.map_nil, List.cons.injEq, and_true] at hfr
  conv => arg 2; whnf
  simp only [List.range, List.range.loop, List.map_cons, List.map_nil, hfr]
  clear hfr ha
  have hi' : (i : Int) < m := by omega
  go_wp2_with fail
  all_goals first | exact hQ.out _ _ (Fr.Is.mk rfl rfl) (heap_alloc_new w _) (bel_al w _) | omega


set_option maxRecDepth 100000 in
set_option maxHeartbeats 2000000 in
theorem dtk_r29 {Q : Exit → Act → World → Prop} {rv rx nb fb sb n cap i : Nat} {ad : Option Addr} {most N id val : Int} (a : Act) (w : World) (q0 : w.cell? ⟨sb, 0, none⟩ = some (.int .i64 id)) (q1 : w.cell? ⟨sb, 1, none⟩ = some (.int .i64 val))
    (ha : Fr.Is 208 [(0, .slice ad n cap), (1, .int .i64 most), (4, .pointer (some ⟨rv, 0, none⟩)), (6, .pointer (some ⟨rx, 0, none⟩)), (7, .pointer (some ⟨nb, 0, none⟩)), (8, .int .i64 N), (9, .pointer (some ⟨fb, 0, none⟩)), (13, .int .i64 i), (14, .pointer (some ⟨sb, 0, none⟩))] a)
    (hQ : Hid (∀ v a', Fr.Is 208 [(0, .slice ad n cap), (1, .int .i64 most), (4, .pointer (some ⟨rv, 0, none⟩)), (6, .pointer (some ⟨rx, 0, none⟩)), (7, .pointer (some ⟨nb, 0, none⟩)), (8, .int .i64 N), (9, .pointer (some ⟨fb, 0, none⟩)), (13, .int .i64 i), (14, .pointer (some ⟨sb, 0, none⟩)), (191, .bool v)] a' → (v = true ↔ (id = 2 ∧ 1 < val) ∨ (id = 5 ∧ (val < 16384 ∨ 16777215 < val))) → Q .normal a' w)) :
    (Fr.reg Tryd.f17 29).wp Tryd.prog Q a w := by
  obtain ⟨fr, rfl, hfr⟩ := ha.lit
  simp only [List.map_cons, List.map_nil, List.cons.injEq, and_true] at hfr
  conv => arg 2; whnf
  simp only [List.range, List.range.loop, List.map_cons, List.map_nil, hfr]
  clear hfr ha
  by_cases h2 : id = 2
  · subst id
    by_cases h1 : val > 1
    · skip
      go_wp2_with fail
      exact hQ.out _ _ (Fr.Is.mk rfl rfl) (by simp [*])
    · skip
      go_wp2_with fail
      exact hQ.out _ _ (Fr.Is.mk rfl rfl) (by simp [*])
  · have k2 : (id == 2) = false := by simp [h2]
    by_cases h5 : id = 5
    · have k5 : (id == 5) = true := by simp [h5]
      by_cases hl : val < 16384
      · skip
        go_wp2_with fail
        exact hQ.out _ _ (Fr.Is.mk rfl rfl) (by simp [*])
      · skip
        by_cases hg : val > 16777215
        · skip
          go_wp2_with fail
          exact hQ.out _ _ (Fr.Is.mk rfl rfl) (by simp [*])
        · skip
          go_wp2_with fail
          exact hQ.out _ _ (Fr.Is.mk rfl rfl) (by simp [*])
    · have k5 : (id == 5) = false := by simp [h5]
      go_wp2_with fail
      exact hQ.out _ _ (Fr.Is.mk rfl rfl) (by simp [*])


set_option maxRecDepth 100000 in
set_option maxHeartbeats 1000000 in
theorem dtk_r31 {Q : Exit → Act → World → Prop} {rv rx nb fb sb n cap i : Nat} {ad : Option Addr} {most N id val : Int} (a : Act) (w : World) (q0 : w.cell? ⟨sb, 0, none⟩ = some (.int .i64 id)) (q1 : w.cell? ⟨sb, 1, none⟩ = some (.int .i64 val))
    (ha : Fr.Is 208 [(0, .slice ad n cap), (1, .int .i64 most), (4, .pointer (some ⟨rv, 0, none⟩)), (6, .pointer (some ⟨rx, 0, none⟩)), (7, .pointer (some ⟨nb, 0, none⟩)), (8, .int .i64 N), (9, .pointer (some ⟨fb, 0, none⟩)), (13, .int .i64 i), (14, .pointer (some ⟨sb, 0, none⟩))] a)
    (hQ : Hid (∀ v a', Fr.Is 208 [(0, .slice ad n cap), (1, .int .i64 most), (4, .pointer (some ⟨rv, 0, none⟩)), (6, .pointer (some ⟨rx, 0, none⟩)), (7, .pointer (some ⟨nb, 0, none⟩)), (8, .int .i64 N), (9, .pointer (some ⟨fb, 0, none⟩)), (13, .int .i64 i), (14, .pointer (some ⟨sb, 0, none⟩)), (201, .bool v)] a' → (v = true ↔ id = 4 ∧ 2147483647 < val) → Q .normal a' w)) :
    (Fr.reg Tryd.f17 31).wp Tryd.prog Q a w := by
  obtain ⟨fr, rfl, hfr⟩ := ha.lit
  simp only [List.map_cons, List.map_nil, List.cons.injEq, and_true] at hfr
  conv => arg 2; whnf
  simp only [List.range, List.range.loop, List.map_cons, List.map_nil, hfr]
  clear hfr ha
  by_cases h4 : id = 4
  · have k4 : (id == 4) = true := by simp [h4]
    by_cases h1 : val > 2147483647
    · skip
      go_wp2_with fail
      exact hQ.out _ _ (Fr.Is.mk rfl rfl) (by simp [*])
    · skip
      go_wp2_with fail
      exact hQ.out _ _ (Fr.Is.mk rfl rfl) (by simp [*])
  · have k4 : (id == 4) = false := by simp [h4]
    go_wp2_with fail
    exact hQ.out _ _ (Fr.Is.mk rfl rfl) (by simp [*])

end Go.Proofs.YtglhdlkmgmbgeaaDoor

namespace Go.Proofs.YtglhdlkmgmbgeaaDoor
open Go.RowKit
open Fra Oct Arg Mem Gen Qu Go.Proofs.YtglhdlkmgmbgeaaDoor.Obj
set_option linter.unusedVariables false
set_option linter.unusedSimpArgs false


set_option maxRecDepth 100000 in
set_option maxHeartbeats 4000000 in
theorem dtk_r6 {Q : Exit → Act → World → Prop} {rv rx nb : Nat} (a : Act) (w : World) (V : Fb rv noFr none 0 w) (X : w.heap[rx]? = some (Obj.cells #[.bool false, .int .i64 0, .int .i64 0] 37 (0, 0))) (hne : rx ≠ rv) (Z : Fb nb noFr none 0 w) (hnv : nb ≠ rv) (hnx : nb ≠ rx)
    (ha : Fr.Is 208 [(4, .pointer (some ⟨rv, 0, none⟩)), (6, .pointer (some ⟨rx, 0, none⟩)), (7, .pointer (some ⟨nb, 0, none⟩))] a)
    (hQ : Hid (∀ w' a', Fr.Is 208 [(4, .pointer (some ⟨rv, 0, none⟩)), (5, .int .i64 0), (6, .pointer (some ⟨rx, 0, none⟩))] a' → Fb rv noFr none 0 w' → w'.heap[rx]? = some (Obj.cells #[.bool (ofC 6).is, .int .i64 (ofC 6).code, .int .i64 (ofC 6).stream] 37 (0, 0)) → Below 0 w w' → (∀ k, k ≠ rv → k ≠ rx → k < w.heap.size → w'.heap[k]? = w.heap[k]?) → Q .normal a' w')) :
    (Fr.reg Tryd.f17 6).wp Tryd.prog Q a w := by
  obtain ⟨fr, rfl, hfr⟩ := ha.lit
  simp only [List.map_cons, List.map_nil, List.cons.injEq, and_true] at hfr
  conv => arg 2; whnf
  simp only [List.range, List.range.loop, List.map_cons, List.map_nil, hfr]
  clear hfr ha
  have a0 : w.cell? ⟨nb, 0, none⟩ = some (.int .i64 0) := Z.cellz 0
  have a1 : w.cell? ⟨nb, 1, none⟩ = some (.int .i64 0) := Z.cellz 1
  have a2 : w.cell? ⟨nb, 2, none⟩ = some (.int .i64 0) := Z.cellz 2
  have a3 : w.cell? ⟨nb, 3, none⟩ = some (.string ⟨#[]⟩) := Z.cellz 3
  have a4 : w.cell? ⟨nb, 4, none⟩ = some (.int .i64 0) := Z.cellz 4
  have a5 : w.cell? ⟨nb, 5, none⟩ = some (.slice none 0 0) := Z.cellz 5
  have a6 : w.cell? ⟨nb, 6, none⟩ = some (.int .i64 0) := Z.cellz 6
  have a7 : w.cell? ⟨nb, 7, none⟩ = some (.int .i64 0) := Z.cellz 7
  have a8 : w.cell? ⟨nb, 8, none⟩ = some (.int .i64 0) := Z.cellz 8
  have a9 : w.cell? ⟨nb, 9, none⟩ = some (.int .i64 0) := Z.cellz 9
  have a10 : w.cell? ⟨nb, 10, none⟩ = some (.int .i64 0) := Z.cellz 10
  have a11 : w.cell? ⟨nb, 11, none⟩ = some (.bool false) := Z.cellz 11
  have hne2 : rv ≠ rx := fun e => hne e.symm
  have hnv2 : rv ≠ nb := fun e => hnv e.symm
  have hnx2 : rx ≠ nb := fun e => hnx e.symm
  have HV := Lib.hid V
  have HX := Lib.hid X
  have HZ := Lib.hid Z
  have HP := Lib.hid (fun v => rof_any 6 v)
  unfold faV ofC at HP
  simp only at HP
  have hb0 : Below w.heap.size w w.drew := (Below.refl _ _).drew
  clear V X Z
  go_region_held3 (fun v => v.cell? ⟨nb, 0, none⟩ = some (.int .i64 0) ∧ v.cell? ⟨nb, 1, none⟩ = some (.int .i64 0) ∧ v.cell? ⟨nb, 2, none⟩ = some (.int .i64 0) ∧ v.cell? ⟨nb, 3, none⟩ = some (.string ⟨#[]⟩) ∧ v.cell? ⟨nb, 4, none⟩ = some (.int .i64 0) ∧ v.cell? ⟨nb, 5, none⟩ = some (.slice none 0 0) ∧ v.cell? ⟨nb, 6, none⟩ = some (.int .i64 0) ∧ v.cell? ⟨nb, 7, none⟩ = some (.int .i64 0) ∧ v.cell? ⟨nb, 8, none⟩ = some (.int .i64 0) ∧ v.cell? ⟨nb, 9, none⟩ = some (.int .i64 0) ∧ v.cell? ⟨nb, 10, none⟩ = some (.int .i64 0) ∧ v.cell? ⟨nb, 11, none⟩ = some (.bool false)) (refine ⟨?_, ?_, ?_, ?_, ?_, ?_, ?_, ?_, ?_, ?_, ?_, ?_⟩ <;> go_simp)
    ((go_at_call 25; refine (HP.out _).mono ?_; rintro e w1 ⟨rfl, b1⟩; have hb1 := below_step hb0 b1; have e0 := below_cell hb1 a0; have e1 := below_cell hb1 a1; have e2 := below_cell hb1 a2; have e3 := below_cell hb1 a3; have e4 := below_cell hb1 a4; have e5 := below_cell hb1 a5; have e6 := below_cell hb1 a6; have e7 := below_cell hb1 a7; have e8 := below_cell hb1 a8; have e9 := below_cell hb1 a9; have e10 := below_cell hb1 a10; have e11 := below_cell hb1 a11; have V1 : Fb rv noFr none 0 w1 := block_below hb1 HV.out; have X1 := block_below hb1 HX.out; obtain ⟨c0, c1, c2, c3, c4, c5, c6, c7, c8, c9, c10, c11⟩ := fr_cells V1; have t0 := V1.thaw 0; have t1 := V1.thaw 1; have t2 := V1.thaw 2; have t3 := V1.thaw 3; have t4 := V1.thaw 4; have t5 := V1.thaw 5; have t6 := V1.thaw 6; have t7 := V1.thaw 7; have t8 := V1.thaw 8; have t9 := V1.thaw 9; have t10 := V1.thaw 10; have t11 := V1.thaw 11; obtain ⟨d0, d1, d2⟩ := fa_cells X1; have s0 := frozen_of_row _ _ 0 _ _ X1; have s1 := frozen_of_row _ _ 1 _ _ X1; have s2 := frozen_of_row _ _ 2 _ _ X1; have HB1 := Lib.hid hb1; have HV1 := Lib.hid V1; have HX1 := Lib.hid X1; clear V1 X1))
  all_goals
    obtain ⟨w2, h2, _, w3, h3, F3, X3, B3, o3⟩ := two_ret (HB1.out.mono (Nat.zero_le _)) (Nat.zero_le _) (Nat.zero_le _) HV1.out HX1.out hne noFr none 0 (ofC 6)
    subst h2
    subst h3
    exact hQ.out _ _ (Fr.Is.mk rfl rfl) F3 X3 B3 (fun k h1 h2 hk => (o3 k h1 h2).trans (HB1.out.block k hk))


set_option maxRecDepth 100000 in
set_option maxHeartbeats 4000000 in
theorem dtk_r13 {Q : Exit → Act → World → Prop} {rv rx nb : Nat} (a : Act) (w : World) (V : Fb rv noFr none 0 w) (X : w.heap[rx]? = some (Obj.cells #[.bool false, .int .i64 0, .int .i64 0] 37 (0, 0))) (hne : rx ≠ rv) (Z : Fb nb noFr none 0 w) (hnv : nb ≠ rv) (hnx : nb ≠ rx)
    (ha : Fr.Is 208 [(4, .pointer (some ⟨rv, 0, none⟩)), (6, .pointer (some ⟨rx, 0, none⟩)), (7, .pointer (some ⟨nb, 0, none⟩))] a)
    (hQ : Hid (∀ w' a', Fr.Is 208 [(4, .pointer (some ⟨rv, 0, none⟩)), (5, .int .i64 0), (6, .pointer (some ⟨rx, 0, none⟩))] a' → Fb rv noFr none 0 w' → w'.heap[rx]? = some (Obj.cells #[.bool (ofC 1).is, .int .i64 (ofC 1).code, .int .i64 (ofC 1).stream] 37 (0, 0)) → Below 0 w w' → (∀ k, k ≠ rv → k ≠ rx → k < w.heap.size → w'.heap[k]? = w.heap[k]?) → Q .normal a' w')) :
    (Fr.reg Tryd.f17 13).wp Tryd.prog Q a w := by
  obtain ⟨fr, rfl, hfr⟩ := ha.lit
  simp only [List.map_cons, List.map_nil, List.cons.injEq, and_true] at hfr
  conv => arg 2; whnf
  simp only [List.range, List.range.loop, List.map_cons, List.map_nil, hfr]
  clear hfr ha
  have a0 : w.cell? ⟨nb, 0, none⟩ = some (.int .i64 0) := Z.cellz 0
  have a1 : w.cell? ⟨nb, 1, none⟩ = some (.int .i64 0) := Z.cellz 1
  have a2 : w.cell? ⟨nb, 2, none⟩ = some (.int .i64 0) := Z.cellz 2
  have a3 : w.cell? ⟨nb, 3, none⟩ = some (.string ⟨#[]⟩) := Z.cellz 3
  have a4 : w.cell? ⟨nb, 4, none⟩ = some (.int .i64 0) := Z.cellz 4
  have a5 : w.cell? ⟨nb, 5, none⟩ = some (.slice none 0 0) := Z.cellz 5
  have a6 : w.cell? ⟨nb, 6, none⟩ = some (.int .i64 0) := Z.cellz 6
  have a7 : w.cell? ⟨nb, 7, none⟩ = some (.int .i64 0) := Z.cellz 7
  have a8 : w.cell? ⟨nb, 8, none⟩ = some (.int .i64 0) := Z.cellz 8
  have a9 : w.cell? ⟨nb, 9, none⟩ = some (.int .i64 0) := Z.cellz 9
  have a10 : w.cell? ⟨nb, 10, none⟩ = some (.int .i64 0) := Z.cellz 10
  have a11 : w.cell? ⟨nb, 11, none⟩ = some (.bool false) := Z.cellz 11
  have hne2 : rv ≠ rx := fun e => hne e.symm
  have hnv2 : rv ≠ nb := fun e => hnv e.symm
  have hnx2 : rx ≠ nb := fun e => hnx e.symm
  have HV := Lib.hid V
  have HX := Lib.hid X
  have HZ := Lib.hid Z
  have HP := Lib.hid (fun v => rof_any 1 v)
  unfold faV ofC at HP
  simp only at HP
  have hb0 : Below w.heap.size w w.drew := (Below.refl _ _).drew
  clear V X Z
  go_region_held3 (fun v => v.cell? ⟨nb, 0, none⟩ = some (.int .i64 0) ∧ v.cell? ⟨nb, 1, none⟩ = some (.int .i64 0) ∧ v.cell? ⟨nb, 2, none⟩ = some (.int .i64 0) ∧ v.cell? ⟨nb, 3, none⟩ = some (.string ⟨#[]⟩) ∧ v.cell? ⟨nb, 4, none⟩ = some (.int .i64 0) ∧ v.cell? ⟨nb, 5, none⟩ = some (.slice none 0 0) ∧ v.cell? ⟨nb, 6, none⟩ = some (.int .i64 0) ∧ v.cell? ⟨nb, 7, none⟩ = some (.int .i64 0) ∧ v.cell? ⟨nb, 8, none⟩ = some (.int .i64 0) ∧ v.cell? ⟨nb, 9, none⟩ = some (.int .i64 0) ∧ v.cell? ⟨nb, 10, none⟩ = some (.int .i64 0) ∧ v.cell? ⟨nb, 11, none⟩ = some (.bool false)) (refine ⟨?_, ?_, ?_, ?_, ?_, ?_, ?_, ?_, ?_, ?_, ?_, ?_⟩ <;> go_simp)
    ((go_at_call 25; refine (HP.out _).mono ?_; rintro e w1 ⟨rfl, b1⟩; have hb1 := below_step hb0 b1; have e0 := below_cell hb1 a0; have e1 := below_cell hb1 a1; have e2 := below_cell hb1 a2; have e3 := below_cell hb1 a3; have e4 := below_cell hb1 a4; have e5 := below_cell hb1 a5; have e6 := below_cell hb1 a6; have e7 := below_cell hb1 a7; have e8 := below_cell hb1 a8; have e9 := below_cell hb1 a9; have e10 := below_cell hb1 a10; have e11 := below_cell hb1 a11; have V1 : Fb rv noFr none 0 w1 := block_below hb1 HV.out; have X1 := block_below hb1 HX.out; obtain ⟨c0, c1, c2, c3, c4, c5, c6, c7, c8, c9, c10, c11⟩ := fr_cells V1; have t0 := V1.thaw 0; have t1 := V1.thaw 1; have t2 := V1.thaw 2; have t3 := V1.thaw 3; have t4 := V1.thaw 4; have t5 := V1.thaw 5; have t6 := V1.thaw 6; have t7 := V1.thaw 7; have t8 := V1.thaw 8; have t9 := V1.thaw 9; have t10 := V1.thaw 10; have t11 := V1.thaw 11; obtain ⟨d0, d1, d2⟩ := fa_cells X1; have s0 := frozen_of_row _ _ 0 _ _ X1; have s1 := frozen_of_row _ _ 1 _ _ X1; have s2 := frozen_of_row _ _ 2 _ _ X1; have HB1 := Lib.hid hb1; have HV1 := Lib.hid V1; have HX1 := Lib.hid X1; clear V1 X1))
  all_goals
    obtain ⟨w2, h2, _, w3, h3, F3, X3, B3, o3⟩ := two_ret (HB1.out.mono (Nat.zero_le _)) (Nat.zero_le _) (Nat.zero_le _) HV1.out HX1.out hne noFr none 0 (ofC 1)
    subst h2
    subst h3
    exact hQ.out _ _ (Fr.Is.mk rfl rfl) F3 X3 B3 (fun k h1 h2 hk => (o3 k h1 h2).trans (HB1.out.block k hk))


set_option maxRecDepth 100000 in
set_option maxHeartbeats 4000000 in
theorem dtk_r17 {Q : Exit → Act → World → Prop} {rv rx nb : Nat} (a : Act) (w : World) (V : Fb rv noFr none 0 w) (X : w.heap[rx]? = some (Obj.cells #[.bool false, .int .i64 0, .int .i64 0] 37 (0, 0))) (hne : rx ≠ rv) (Z : Fb nb noFr none 0 w) (hnv : nb ≠ rv) (hnx : nb ≠ rx)
    (ha : Fr.Is 208 [(4, .pointer (some ⟨rv, 0, none⟩)), (6, .pointer (some ⟨rx, 0, none⟩)), (7, .pointer (some ⟨nb, 0, none⟩))] a)
    (hQ : Hid (∀ w' a', Fr.Is 208 [(4, .pointer (some ⟨rv, 0, none⟩)), (5, .int .i64 0), (6, .pointer (some ⟨rx, 0, none⟩))] a' → Fb rv noFr none 0 w' → w'.heap[rx]? = some (Obj.cells #[.bool (ofC 6).is, .int .i64 (ofC 6).code, .int .i64 (ofC 6).stream] 37 (0, 0)) → Below 0 w w' → (∀ k, k ≠ rv → k ≠ rx → k < w.heap.size → w'.heap[k]? = w.heap[k]?) → Q .normal a' w')) :
    (Fr.reg Tryd.f17 17).wp Tryd.prog Q a w := by
  obtain ⟨fr, rfl, hfr⟩ := ha.lit
  simp only [List.map_cons, List.map_nil, List.cons.injEq, and_true] at hfr
  conv => arg 2; whnf
  simp only [List.range, List.range.loop, List.map_cons, List.map_nil, hfr]
  clear hfr ha
  have a0 : w.cell? ⟨nb, 0, none⟩ = some (.int .i64 0) := Z.cellz 0
  have a1 : w.cell? ⟨nb, 1, none⟩ = some (.int .i64 0) := Z.cellz 1
  have a2 : w.cell? ⟨nb, 2, none⟩ = some (.int .i64 0) := Z.cellz 2
  have a3 : w.cell? ⟨nb, 3, none⟩ = some (.string ⟨#[]⟩) := Z.cellz 3
  have a4 : w.cell? ⟨nb, 4, none⟩ = some (.int .i64 0) := Z.cellz 4
  have a5 : w.cell? ⟨nb, 5, none⟩ = some (.slice none 0 0) := Z.cellz 5
  have a6 : w.cell? ⟨nb, 6, none⟩ = some (.int .i64 0) := Z.cellz 6
  have a7 : w.cell? ⟨nb, 7, none⟩ = some (.int .i64 0) := Z.cellz 7
  have a8 : w.cell? ⟨nb, 8, none⟩ = some (.int .i64 0) := Z.cellz 8
  have a9 : w.cell? ⟨nb, 9, none⟩ = some (.int .i64 0) := Z.cellz 9
  have a10 : w.cell? ⟨nb, 10, none⟩ = some (.int .i64 0) := Z.cellz 10
  have a11 : w.cell? ⟨nb, 11, none⟩ = some (.bool false) := Z.cellz 11
  have hne2 : rv ≠ rx := fun e => hne e.symm
  have hnv2 : rv ≠ nb := fun e => hnv e.symm
  have hnx2 : rx ≠ nb := fun e => hnx e.symm
  have HV := Lib.hid V
  have HX := Lib.hid X
  have HZ := Lib.hid Z
  have HP := Lib.hid (fun v => rof_any 6 v)
  unfold faV ofC at HP
  simp only at HP
  have hb0 : Below w.heap.size w w.drew := (Below.refl _ _).drew
  clear V X Z
  go_region_held3 (fun v => v.cell? ⟨nb, 0, none⟩ = some (.int .i64 0) ∧ v.cell? ⟨nb, 1, none⟩ = some (.int .i64 0) ∧ v.cell? ⟨nb, 2, none⟩ = some (.int .i64 0) ∧ v.cell? ⟨nb, 3, none⟩ = some (.string ⟨#[]⟩) ∧ v.cell? ⟨nb, 4, none⟩ = some (.int .i64 0) ∧ v.cell? ⟨nb, 5, none⟩ = some (.slice none 0 0) ∧ v.cell? ⟨nb, 6, none⟩ = some (.int .i64 0) ∧ v.cell? ⟨nb, 7, none⟩ = some (.int .i64 0) ∧ v.cell? ⟨nb, 8, none⟩ = some (.int .i64 0) ∧ v.cell? ⟨nb, 9, none⟩ = some (.int .i64 0) ∧ v.cell? ⟨nb, 10, none⟩ = some (.int .i64 0) ∧ v.cell? ⟨nb, 11, none⟩ = some (.bool false)) (refine ⟨?_, ?_, ?_, ?_, ?_, ?_, ?_, ?_, ?_, ?_, ?_, ?_⟩ <;> go_simp)
    ((go_at_call 25; refine (HP.out _).mono ?_; rintro e w1 ⟨rfl, b1⟩; have hb1 := below_step hb0 b1; have e0 := below_cell hb1 a0; have e1 := below_cell hb1 a1; have e2 := below_cell hb1 a2; have e3 := below_cell hb1 a3; have e4 := below_cell hb1 a4; have e5 := below_cell hb1 a5; have e6 := below_cell hb1 a6; have e7 := below_cell hb1 a7; have e8 := below_cell hb1 a8; have e9 := below_cell hb1 a9; have e10 := below_cell hb1 a10; have e11 := below_cell hb1 a11; have V1 : Fb rv noFr none 0 w1 := block_below hb1 HV.out; have X1 := block_below hb1 HX.out; obtain ⟨c0, c1, c2, c3, c4, c5, c6, c7, c8, c9, c10, c11⟩ := fr_cells V1; have t0 := V1.thaw 0; have t1 := V1.thaw 1; have t2 := V1.thaw 2; have t3 := V1.thaw 3; have t4 := V1.thaw 4; have t5 := V1.thaw 5; have t6 := V1.thaw 6; have t7 := V1.thaw 7; have t8 := V1.thaw 8; have t9 := V1.thaw 9; have t10 := V1.thaw 10; have t11 := V1.thaw 11; obtain ⟨d0, d1, d2⟩ := fa_cells X1; have s0 := frozen_of_row _ _ 0 _ _ X1; have s1 := frozen_of_row _ _ 1 _ _ X1; have s2 := frozen_of_row _ _ 2 _ _ X1; have HB1 := Lib.hid hb1; have HV1 := Lib.hid V1; have HX1 := Lib.hid X1; clear V1 X1))
  all_goals
    obtain ⟨w2, h2, _, w3, h3, F3, X3, B3, o3⟩ := two_ret (HB1.out.mono (Nat.zero_le _)) (Nat.zero_le _) (Nat.zero_le _) HV1.out HX1.out hne noFr none 0 (ofC 6)
    subst h2
    subst h3
    exact hQ.out _ _ (Fr.Is.mk rfl rfl) F3 X3 B3 (fun k h1 h2 hk => (o3 k h1 h2).trans (HB1.out.block k hk))


set_option maxRecDepth 100000 in
set_option maxHeartbeats 4000000 in
theorem dtk_r20 {Q : Exit → Act → World → Prop} {rv rx nb : Nat} (a : Act) (w : World) (V : Fb rv noFr none 0 w) (X : w.heap[rx]? = some (Obj.cells #[.bool false, .int .i64 0, .int .i64 0] 37 (0, 0))) (hne : rx ≠ rv) (Z : Fb nb noFr none 0 w) (hnv : nb ≠ rv) (hnx : nb ≠ rx)
    (ha : Fr.Is 208 [(4, .pointer (some ⟨rv, 0, none⟩)), (6, .pointer (some ⟨rx, 0, none⟩)), (7, .pointer (some ⟨nb, 0, none⟩))] a)
    (hQ : Hid (∀ w' a', Fr.Is 208 [(4, .pointer (some ⟨rv, 0, none⟩)), (5, .int .i64 0), (6, .pointer (some ⟨rx, 0, none⟩))] a' → Fb rv noFr none 0 w' → w'.heap[rx]? = some (Obj.cells #[.bool (ofC 1).is, .int .i64 (ofC 1).code, .int .i64 (ofC 1).stream] 37 (0, 0)) → Below 0 w w' → (∀ k, k ≠ rv → k ≠ rx → k < w.heap.size → w'.heap[k]? = w.heap[k]?) → Q .normal a' w')) :
    (Fr.reg Tryd.f17 20).wp Tryd.prog Q a w := by
  obtain ⟨fr, rfl, hfr⟩ := ha.lit
  simp only [List.map_cons, List.map_nil, List.cons.injEq, and_true] at hfr
  conv => arg 2; whnf
  simp only [List.range, List.range.loop, List.map_cons, List.map_nil, hfr]
  clear hfr ha
  have a0 : w.cell? ⟨nb, 0, none⟩ = some (.int .i64 0) := Z.cellz 0
  have a1 : w.cell? ⟨nb, 1, none⟩ = some (.int .i64 0) := Z.cellz 1
  have a2 : w.cell? ⟨nb, 2, none⟩ = some (.int .i64 0) := Z.cellz 2
  have a3 : w.cell? ⟨nb, 3, none⟩ = some (.string ⟨#[]⟩) := Z.cellz 3
  have a4 : w.cell? ⟨nb, 4, none⟩ = some (.int .i64 0) := Z.cellz 4
  have a5 : w.cell? ⟨nb, 5, none⟩ = some (.slice none 0 0) := Z.cellz 5
  have a6 : w.cell? ⟨nb, 6, none⟩ = some (.int .i64 0) := Z.cellz 6
  have a7 : w.cell? ⟨nb, 7, none⟩ = some (.int .i64 0) := Z.cellz 7
  have a8 : w.cell? ⟨nb, 8, none⟩ = some (.int .i64 0) := Z.cellz 8
  have a9 : w.cell? ⟨nb, 9, none⟩ = some (.int .i64 0) := Z.cellz 9
  have a10 : w.cell? ⟨nb, 10, none⟩ = some (.int .i64 0) := Z.cellz 10
  have a11 : w.cell? ⟨nb, 11, none⟩ = some (.bool false) := Z.cellz 11
  have hne2 : rv ≠ rx := fun e => hne e.symm
  have hnv2 : rv ≠ nb := fun e => hnv e.symm
  have hnx2 : rx ≠ nb := fun e => hnx e.symm
  have HV := Lib.hid V
  have HX := Lib.hid X
  have HZ := Lib.hid Z
  have HP := Lib.hid (fun v => rof_any 1 v)
  unfold faV ofC at HP
  simp only at HP
  have hb0 : Below w.heap.size w w.drew := (Below.refl _ _).drew
  clear V X Z
  go_region_held3 (fun v => v.cell? ⟨nb, 0, none⟩ = some (.int .i64 0) ∧ v.cell? ⟨nb, 1, none⟩ = some (.int .i64 0) ∧ v.cell? ⟨nb, 2, none⟩ = some (.int .i64 0) ∧ v.cell? ⟨nb, 3, none⟩ = some (.string ⟨#[]⟩) ∧ v.cell? ⟨nb, 4, none⟩ = some (.int .i64 0) ∧ v.cell? ⟨nb, 5, none⟩ = some (.slice none 0 0) ∧ v.cell? ⟨nb, 6, none⟩ = some (.int .i64 0) ∧ v.cell? ⟨nb, 7, none⟩ = some (.int .i64 0) ∧ v.cell? ⟨nb, 8, none⟩ = some (.int .i64 0) ∧ v.cell? ⟨nb, 9, none⟩ = some (.int .i64 0) ∧ v.cell? ⟨nb, 10, none⟩ = some (.int .i64 0) ∧ v.cell? ⟨nb, 11, none⟩ = some (.bool false)) (refine ⟨?_, ?_, ?_, ?_, ?_, ?_, ?_, ?_, ?_, ?_, ?_, ?_⟩ <;> go_simp)
    ((go_at_call 25; refine (HP.out _).mono ?_; rintro e w1 ⟨rfl, b1⟩; have hb1 := below_step hb0 b1; have e0 := below_cell hb1 a0; have e1 := below_cell hb1 a1; have e2 := below_cell hb1 a2; have e3 := below_cell hb1 a3; have e4 := below_cell hb1 a4; have e5 := below_cell hb1 a5; have e6 := below_cell hb1 a6; have e7 := below_cell hb1 a7; have e8 := below_cell hb1 a8; have e9 := below_cell hb1 a9; have e10 := below_cell hb1 a10; have e11 := below_cell hb1 a11; have V1 : Fb rv noFr none 0 w1 := block_below hb1 HV.out; have X1 := block_below hb1 HX.out; obtain ⟨c0, c1, c2, c3, c4, c5, c6, c7, c8, c9, c10, c11⟩ := fr_cells V1; have t0 := V1.thaw 0; have t1 := V1.thaw 1; have t2 := V1.thaw 2; have t3 := V1.thaw 3; have t4 := V1.thaw 4; have t5 := V1.thaw 5; have t6 := V1.thaw 6; have t7 := V1.thaw 7; have t8 := V1.thaw 8; have t9 := V1.thaw 9; have t10 := V1.thaw 10; have t11 := V1.thaw 11; obtain ⟨d0, d1, d2⟩ := fa_cells X1; have s0 := frozen_of_row _ _ 0 _ _ X1; have s1 := frozen_of_row _ _ 1 _ _ X1; have s2 := frozen_of_row _ _ 2 _ _ X1; have HB1 := Lib.hid hb1; have HV1 := Lib.hid V1; have HX1 := Lib.hid X1; clear V1 X1))
  all_goals
    obtain ⟨w2, h2, _, w3, h3, F3, X3, B3, o3⟩ := two_ret (HB1.out.mono (Nat.zero_le _)) (Nat.zero_le _) (Nat.zero_le _) HV1.out HX1.out hne noFr none 0 (ofC 1)
    subst h2
    subst h3
    exact hQ.out _ _ (Fr.Is.mk rfl rfl) F3 X3 B3 (fun k h1 h2 hk => (o3 k h1 h2).trans (HB1.out.block k hk))


set_option maxRecDepth 100000 in
set_option maxHeartbeats 4000000 in
theorem dtk_r23 {Q : Exit → Act → World → Prop} {rv rx nb : Nat} (a : Act) (w : World) (V : Fb rv noFr none 0 w) (X : w.heap[rx]? = some (Obj.cells #[.bool false, .int .i64 0, .int .i64 0] 37 (0, 0))) (hne : rx ≠ rv) (Z : Fb nb noFr none 0 w) (hnv : nb ≠ rv) (hnx : nb ≠ rx)
    (ha : Fr.Is 208 [(4, .pointer (some ⟨rv, 0, none⟩)), (6, .pointer (some ⟨rx, 0, none⟩)), (7, .pointer (some ⟨nb, 0, none⟩))] a)
    (hQ : Hid (∀ w' a', Fr.Is 208 [(4, .pointer (some ⟨rv, 0, none⟩)), (5, .int .i64 0), (6, .pointer (some ⟨rx, 0, none⟩))] a' → Fb rv noFr none 0 w' → w'.heap[rx]? = some (Obj.cells #[.bool (ofC 1).is, .int .i64 (ofC 1).code, .int .i64 (ofC 1).stream] 37 (0, 0)) → Below 0 w w' → (∀ k, k ≠ rv → k ≠ rx → k < w.heap.size → w'.heap[k]? = w.heap[k]?) → Q .normal a' w')) :
    (Fr.reg Tryd.f17 23).wp Tryd.prog Q a w := by
  obtain ⟨fr, rfl, hfr⟩ := ha.lit
  simp only [List.map_cons, List.map_nil, List.cons.injEq, and_true] at hfr
  conv => arg 2; whnf
  simp only [List.range, List.range.loop, List.map_cons, List.map_nil, hfr]
  clear hfr ha
  have a0 : w.cell? ⟨nb, 0, none⟩ = some (.int .i64 0) := Z.cellz 0
  have a1 : w.cell? ⟨nb, 1, none⟩ = some (.int .i64 0) := Z.cellz 1
  have a2 : w.cell? ⟨nb, 2, none⟩ = some (.int .i64 0) := Z.cellz 2
  have a3 : w.cell? ⟨nb, 3, none⟩ = some (.string ⟨#[]⟩) := Z.cellz 3
  have a4 : w.cell? ⟨nb, 4, none⟩ = some (.int .i64 0) := Z.cellz 4
  have a5 : w.cell? ⟨nb, 5, none⟩ = some (.slice none 0 0) := Z.cellz 5
  have a6 : w.cell? ⟨nb, 6, none⟩ = some (.int .i64 0) := Z.cellz 6
  have a7 : w.cell? ⟨nb, 7, none⟩ = some (.int .i64 0) := Z.cellz 7
  have a8 : w.cell? ⟨nb, 8, none⟩ = some (.int .i64 0) := Z.cellz 8
  have a9 : w.cell? ⟨nb, 9, none⟩ = some (.int .i64 0) := Z.cellz 9
  have a10 : w.cell? ⟨nb, 10, none⟩ = some (.int .i64 0) := Z.cellz 10
  have a11 : w.cell? ⟨nb, 11, none⟩ = some (.bool false) := Z.cellz 11
  have hne2 : rv ≠ rx := fun e => hne e.symm
  have hnv2 : rv ≠ nb := fun e => hnv e.symm
  have hnx2 : rx ≠ nb := fun e => hnx e.symm
  have HV := Lib.hid V
  have HX := Lib.hid X
  have HZ := Lib.hid Z
  have HP := Lib.hid (fun v => rof_any 1 v)
  unfold faV ofC at HP
  simp only at HP
  have hb0 : Below w.heap.size w w.drew := (Below.refl _ _).drew
  clear V X Z
  go_region_held3 (fun v => v.cell? ⟨nb, 0, none⟩ = some (.int .i64 0) ∧ v.cell? ⟨nb, 1, none⟩ = some (.int .i64 0) ∧ v.cell? ⟨nb, 2, none⟩ = some (.int .i64 0) ∧ v.cell? ⟨nb, 3, none⟩ = some (.string ⟨#[]⟩) ∧ v.cell? ⟨nb, 4, none⟩ = some (.int .i64 0) ∧ v.cell? ⟨nb, 5, none⟩ = some (.slice none 0 0) ∧ v.cell? ⟨nb, 6, none⟩ = some (.int .i64 0) ∧ v.cell? ⟨nb, 7, none⟩ = some (.int .i64 0) ∧ v.cell? ⟨nb, 8, none⟩ = some (.int .i64 0) ∧ v.cell? ⟨nb, 9, none⟩ = some (.int .i64 0) ∧ v.cell? ⟨nb, 10, none⟩ = some (.int .i64 0) ∧ v.cell? ⟨nb, 11, none⟩ = some (.bool false)) (refine ⟨?_, ?_, ?_, ?_, ?_, ?_, ?_, ?_, ?_, ?_, ?_, ?_⟩ <;> go_simp)
    ((go_at_call 25; refine (HP.out _).mono ?_; rintro e w1 ⟨rfl, b1⟩; have hb1 := below_step hb0 b1; have e0 := below_cell hb1 a0; have e1 := below_cell hb1 a1; have e2 := below_cell hb1 a2; have e3 := below_cell hb1 a3; have e4 := below_cell hb1 a4; have e5 := below_cell hb1 a5; have e6 := below_cell hb1 a6; have e7 := below_cell hb1 a7; have e8 := below_cell hb1 a8; have e9 := below_cell hb1 a9; have e10 := below_cell hb1 a10; have e11 := below_cell hb1 a11; have V1 : Fb rv noFr none 0 w1 := block_below hb1 HV.out; have X1 := block_below hb1 HX.out; obtain ⟨c0, c1, c2, c3, c4, c5, c6, c7, c8, c9, c10, c11⟩ := fr_cells V1; have t0 := V1.thaw 0; have t1 := V1.thaw 1; have t2 := V1.thaw 2; have t3 := V1.thaw 3; have t4 := V1.thaw 4; have t5 := V1.thaw 5; have t6 := V1.thaw 6; have t7 := V1.thaw 7; have t8 := V1.thaw 8; have t9 := V1.thaw 9; have t10 := V1.thaw 10; have t11 := V1.thaw 11; obtain ⟨d0, d1, d2⟩ := fa_cells X1; have s0 := frozen_of_row _ _ 0 _ _ X1; have s1 := frozen_of_row _ _ 1 _ _ X1; have s2 := frozen_of_row _ _ 2 _ _ X1; have HB1 := Lib.hid hb1; have HV1 := Lib.hid V1; have HX1 := Lib.hid X1; clear V1 X1))
  all_goals
    obtain ⟨w2, h2, _, w3, h3, F3, X3, B3, o3⟩ := two_ret (HB1.out.mono (Nat.zero_le _)) (Nat.zero_le _) (Nat.zero_le _) HV1.out HX1.out hne noFr none 0 (ofC 1)
    subst h2
    subst h3
    exact hQ.out _ _ (Fr.Is.mk rfl rfl) F3 X3 B3 (fun k h1 h2 hk => (o3 k h1 h2).trans (HB1.out.block k hk))


set_option maxRecDepth 100000 in
set_option maxHeartbeats 4000000 in
theorem dtk_r30 {Q : Exit → Act → World → Prop} {rv rx nb : Nat} (a : Act) (w : World) (V : Fb rv noFr none 0 w) (X : w.heap[rx]? = some (Obj.cells #[.bool false, .int .i64 0, .int .i64 0] 37 (0, 0))) (hne : rx ≠ rv) (Z : Fb nb noFr none 0 w) (hnv : nb ≠ rv) (hnx : nb ≠ rx)
    (ha : Fr.Is 208 [(4, .pointer (some ⟨rv, 0, none⟩)), (6, .pointer (some ⟨rx, 0, none⟩)), (7, .pointer (some ⟨nb, 0, none⟩))] a)
    (hQ : Hid (∀ w' a', Fr.Is 208 [(4, .pointer (some ⟨rv, 0, none⟩)), (5, .int .i64 0), (6, .pointer (some ⟨rx, 0, none⟩))] a' → Fb rv noFr none 0 w' → w'.heap[rx]? = some (Obj.cells #[.bool (ofC 1).is, .int .i64 (ofC 1).code, .int .i64 (ofC 1).stream] 37 (0, 0)) → Below 0 w w' → (∀ k, k ≠ rv → k ≠ rx → k < w.heap.size → w'.heap[k]? = w.heap[k]?) → Q .normal a' w')) :
    (Fr.reg Tryd.f17 30).wp Tryd.prog Q a w := by
  obtain ⟨fr, rfl, hfr⟩ := ha.lit
  simp only [List.map_cons, List.map_nil, List.cons.injEq, and_true] at hfr
  conv => arg 2; whnf
  simp only [List.range, List.range.loop, List.map_cons, List.map_nil, hfr]
  clear hfr ha
  have a0 : w.cell? ⟨nb, 0, none⟩ = some (.int .i64 0) := Z.cellz 0
  have a1 : w.cell? ⟨nb, 1, none⟩ = some (.int .i64 0) := Z.cellz 1
  have a2 : w.cell? ⟨nb, 2, none⟩ = some (.int .i64 0) := Z.cellz 2
  have a3 : w.cell? ⟨nb, 3, none⟩ = some (.string ⟨#[]⟩) := Z.cellz 3
  have a4 : w.cell? ⟨nb, 4, none⟩ = some (.int .i64 0) := Z.cellz 4
  have a5 : w.cell? ⟨nb, 5, none⟩ = some (.slice none 0 0) := Z.cellz 5
  have a6 : w.cell? ⟨nb, 6, none⟩ = some (.int .i64 0) := Z.cellz 6
  have a7 : w.cell? ⟨nb, 7, none⟩ = some (.int .i64 0) := Z.cellz 7
  have a8 : w.cell? ⟨nb, 8, none⟩ = some (.int .i64 0) := Z.cellz 8
  have a9 : w.cell? ⟨nb, 9, none⟩ = some (.int .i64 0) := Z.cellz 9
  have a10 : w.cell? ⟨nb, 10, none⟩ = some (.int .i64 0) := Z.cellz 10
  have a11 : w.cell? ⟨nb, 11, none⟩ = some (.bool false) := Z.cellz 11
  have hne2 : rv ≠ rx := fun e => hne e.symm
  have hnv2 : rv ≠ nb := fun e => hnv e.symm
  have hnx2 : rx ≠ nb := fun e => hnx e.symm
  have HV := Lib.hid V
  have HX := Lib.hid X
  have HZ := Lib.hid Z
  have HP := Lib.hid (fun v => rof_any 1 v)
  unfold faV ofC at HP
  simp only at HP
  have hb0 : Below w.heap.size w w.drew := (Below.refl _ _).drew
  clear V X Z
  go_region_held3 (fun v => v.cell? ⟨nb, 0, none⟩ = some (.int .i64 0) ∧ v.cell? ⟨nb, 1, none⟩ = some (.int .i64 0) ∧ v.cell? ⟨nb, 2, none⟩ = some (.int .i64 0) ∧ v.cell? ⟨nb, 3, none⟩ = some (.string ⟨#[]⟩) ∧ v.cell? ⟨nb, 4, none⟩ = some (.int .i64 0) ∧ v.cell? ⟨nb, 5, none⟩ = some (.slice none 0 0) ∧ v.cell? ⟨nb, 6, none⟩ = some (.int .i64 0) ∧ v.cell? ⟨nb, 7, none⟩ = some (.int .i64 0) ∧ v.cell? ⟨nb, 8, none⟩ = some (.int .i64 0) ∧ v.cell? ⟨nb, 9, none⟩ = some (.int .i64 0) ∧ v.cell? ⟨nb, 10, none⟩ = some (.int .i64 0) ∧ v.cell? ⟨nb, 11, none⟩ = some (.bool false)) (refine ⟨?_, ?_, ?_, ?_, ?_, ?_, ?_, ?_, ?_, ?_, ?_, ?_⟩ <;> go_simp)
    ((go_at_call 25; refine (HP.out _).mono ?_; rintro e w1 ⟨rfl, b1⟩; have hb1 := below_step hb0 b1; have e0 := below_cell hb1 a0; have e1 := below_cell hb1 a1; have e2 := below_cell hb1 a2; have e3 := below_cell hb1 a3; have e4 := below_cell hb1 a4; have e5 := below_cell hb1 a5; have e6 := below_cell hb1 a6; have e7 := below_cell hb1 a7; have e8 := below_cell hb1 a8; have e9 := below_cell hb1 a9; have e10 := below_cell hb1 a10; have e11 := below_cell hb1 a11; have V1 : Fb rv noFr none 0 w1 := block_below hb1 HV.out; have X1 := block_below hb1 HX.out; obtain ⟨c0, c1, c2, c3, c4, c5, c6, c7, c8, c9, c10, c11⟩ := fr_cells V1; have t0 := V1.thaw 0; have t1 := V1.thaw 1; have t2 := V1.thaw 2; have t3 := V1.thaw 3; have t4 := V1.thaw 4; have t5 := V1.thaw 5; have t6 := V1.thaw 6; have t7 := V1.thaw 7; have t8 := V1.thaw 8; have t9 := V1.thaw 9; have t10 := V1.thaw 10; have t11 := V1.thaw 11; obtain ⟨d0, d1, d2⟩ := fa_cells X1; have s0 := frozen_of_row _ _ 0 _ _ X1; have s1 := frozen_of_row _ _ 1 _ _ X1; have s2 := frozen_of_row _ _ 2 _ _ X1; have HB1 := Lib.hid hb1; have HV1 := Lib.hid V1; have HX1 := Lib.hid X1; clear V1 X1))
  all_goals
    obtain ⟨w2, h2, _, w3, h3, F3, X3, B3, o3⟩ := two_ret (HB1.out.mono (Nat.zero_le _)) (Nat.zero_le _) (Nat.zero_le _) HV1.out HX1.out hne noFr none 0 (ofC 1)
    subst h2
    subst h3
    exact hQ.out _ _ (Fr.Is.mk rfl rfl) F3 X3 B3 (fun k h1 h2 hk => (o3 k h1 h2).trans (HB1.out.block k hk))


set_option maxRecDepth 100000 in
set_option maxHeartbeats 4000000 in
theorem dtk_r32 {Q : Exit → Act → World → Prop} {rv rx nb : Nat} (a : Act) (w : World) (V : Fb rv noFr none 0 w) (X : w.heap[rx]? = some (Obj.cells #[.bool false, .int .i64 0, .int .i64 0] 37 (0, 0))) (hne : rx ≠ rv) (Z : Fb nb noFr none 0 w) (hnv : nb ≠ rv) (hnx : nb ≠ rx)
    (ha : Fr.Is 208 [(4, .pointer (some ⟨rv, 0, none⟩)), (6, .pointer (some ⟨rx, 0, none⟩)), (7, .pointer (some ⟨nb, 0, none⟩))] a)
    (hQ : Hid (∀ w' a', Fr.Is 208 [(4, .pointer (some ⟨rv, 0, none⟩)), (5, .int .i64 0), (6, .pointer (some ⟨rx, 0, none⟩))] a' → Fb rv noFr none 0 w' → w'.heap[rx]? = some (Obj.cells #[.bool (ofC 3).is, .int .i64 (ofC 3).code, .int .i64 (ofC 3).stream] 37 (0, 0)) → Below 0 w w' → (∀ k, k ≠ rv → k ≠ rx → k < w.heap.size → w'.heap[k]? = w.heap[k]?) → Q .normal a' w')) :
    (Fr.reg Tryd.f17 32).wp Tryd.prog Q a w := by
  obtain ⟨fr, rfl, hfr⟩ := ha.lit
  simp only [List.map_cons, List.map_nil, List.cons.injEq, and_true] at hfr
  conv => arg 2; whnf
  simp only [List.range, List.range.loop, List.map_cons, List.map_nil, hfr]
  clear hfr ha
  have a0 : w.cell? ⟨nb, 0, none⟩ = some (.int .i64 0) := Z.cellz 0
  have a1 : w.cell? ⟨nb, 1, none⟩ = some (.int .i64 0) := Z.cellz 1
  have a2 : w.cell? ⟨nb, 2, none⟩ = some (.int .i64 0) := Z.cellz 2
  have a3 : w.cell? ⟨nb, 3, none⟩ = some (.string ⟨#[]⟩) := Z.cellz 3
  have a4 : w.cell? ⟨nb, 4, none⟩ = some (.int .i64 0) := Z.cellz 4
  have a5 : w.cell? ⟨nb, 5, none⟩ = some (.slice none 0 0) := Z.cellz 5
  have a6 : w.cell? ⟨nb, 6, none⟩ = some (.int .i64 0) := Z.cellz 6
  have a7 : w.cell? ⟨nb, 7, none⟩ = some (.int .i64 0) := Z.cellz 7
  have a8 : w.cell? ⟨nb, 8, none⟩ = some (.int .i64 0) := Z.cellz 8
  have a9 : w.cell? ⟨nb, 9, none⟩ = some (.int .i64 0) := Z.cellz 9
  have a10 : w.cell? ⟨nb, 10, none⟩ = some (.int .i64 0) := Z.cellz 10
  have a11 : w.cell? ⟨nb, 11, none⟩ = some (.bool false) := Z.cellz 11
  have hne2 : rv ≠ rx := fun e => hne e.symm
  have hnv2 : rv ≠ nb := fun e => hnv e.symm
  have hnx2 : rx ≠ nb := fun e => hnx e.symm
  have HV := Lib.hid V
  have HX := Lib.hid X
  have HZ := Lib.hid Z
  have HP := Lib.hid (fun v => rof_any 3 v)
  unfold faV ofC at HP
  simp only at HP
  have hb0 : Below w.heap.size w w.drew := (Below.refl _ _).drew
  clear V X Z
  go_region_held3 (fun v => v.cell? ⟨nb, 0, none⟩ = some (.int .i64 0) ∧ v.cell? ⟨nb, 1, none⟩ = some (.int .i64 0) ∧ v.cell? ⟨nb, 2, none⟩ = some (.int .i64 0) ∧ v.cell? ⟨nb, 3, none⟩ = some (.string ⟨#[]⟩) ∧ v.cell? ⟨nb, 4, none⟩ = some (.int .i64 0) ∧ v.cell? ⟨nb, 5, none⟩ = some (.slice none 0 0) ∧ v.cell? ⟨nb, 6, none⟩ = some (.int .i64 0) ∧ v.cell? ⟨nb, 7, none⟩ = some (.int .i64 0) ∧ v.cell? ⟨nb, 8, none⟩ = some (.int .i64 0) ∧ v.cell? ⟨nb, 9, none⟩ = some (.int .i64 0) ∧ v.cell? ⟨nb, 10, none⟩ = some (.int .i64 0) ∧ v.cell? ⟨nb, 11, none⟩ = some (.bool false)) (refine ⟨?_, ?_, ?_, ?_, ?_, ?_, ?_, ?_, ?_, ?_, ?_, ?_⟩ <;> go_simp)
    ((go_at_call 25; refine (HP.out _).mono ?_; rintro e w1 ⟨rfl, b1⟩; have hb1 := below_step hb0 b1; have e0 := below_cell hb1 a0; have e1 := below_cell hb1 a1; have e2 := below_cell hb1 a2; have e3 := below_cell hb1 a3; have e4 := below_cell hb1 a4; have e5 := below_cell hb1 a5; have e6 := below_cell hb1 a6; have e7 := below_cell hb1 a7; have e8 := below_cell hb1 a8; have e9 := below_cell hb1 a9; have e10 := below_cell hb1 a10; have e11 := below_cell hb1 a11; have V1 : Fb rv noFr none 0 w1 := block_below hb1 HV.out; have X1 := block_below hb1 HX.out; obtain ⟨c0, c1, c2, c3, c4, c5, c6, c7, c8, c9, c10, c11⟩ := fr_cells V1; have t0 := V1.thaw 0; have t1 := V1.thaw 1; have t2 := V1.thaw 2; have t3 := V1.thaw 3; have t4 := V1.thaw 4; have t5 := V1.thaw 5; have t6 := V1.thaw 6; have t7 := V1.thaw 7; have t8 := V1.thaw 8; have t9 := V1.thaw 9; have t10 := V1.thaw 10; have t11 := V1.thaw 11; obtain ⟨d0, d1, d2⟩ := fa_cells X1; have s0 := frozen_of_row _ _ 0 _ _ X1; have s1 := frozen_of_row _ _ 1 _ _ X1; have s2 := frozen_of_row _ _ 2 _ _ X1; have HB1 := Lib.hid hb1; have HV1 := Lib.hid V1; have HX1 := Lib.hid X1; clear V1 X1))
  all_goals
    obtain ⟨w2, h2, _, w3, h3, F3, X3, B3, o3⟩ := two_ret (HB1.out.mono (Nat.zero_le _)) (Nat.zero_le _) (Nat.zero_le _) HV1.out HX1.out hne noFr none 0 (ofC 3)
    subst h2
    subst h3
    exact hQ.out _ _ (Fr.Is.mk rfl rfl) F3 X3 B3 (fun k h1 h2 hk => (o3 k h1 h2).trans (HB1.out.block k hk))


set_option maxRecDepth 100000 in
set_option maxHeartbeats 4000000 in
theorem dtk_r15 {Q : Exit → Act → World → Prop} {rv rx nb fb : Nat} {N st : Int} (a : Act) (w : World) (V : Fb rv noFr none 0 w) (X : w.heap[rx]? = some (Obj.cells #[.bool false, .int .i64 0, .int .i64 0] 37 (0, 0))) (hne : rx ≠ rv) (Z : Fb nb noFr none 0 w) (hnv : nb ≠ rv) (hnx : nb ≠ rx) (y2 : w.cell? ⟨fb, 2, none⟩ = some (.int .i64 st)) (hfv : fb ≠ rv) (hfx : fb ≠ rx) (h0 : 0 ≤ N) (h1 : N ≤ 16777215)
    (ha : Fr.Is 208 [(4, .pointer (some ⟨rv, 0, none⟩)), (6, .pointer (some ⟨rx, 0, none⟩)), (7, .pointer (some ⟨nb, 0, none⟩)), (8, .int .i64 N), (9, .pointer (some ⟨fb, 0, none⟩))] a)
    (hQ : Hid (∀ w' a', Fr.Is 208 [(4, .pointer (some ⟨rv, 0, none⟩)), (5, .int .i64 (9 + N)), (6, .pointer (some ⟨rx, 0, none⟩))] a' → Fb rv noFr none 0 w' → w'.heap[rx]? = some (Obj.cells #[.bool (⟨true, 6, st⟩ : FaM).is, .int .i64 (⟨true, 6, st⟩ : FaM).code, .int .i64 (⟨true, 6, st⟩ : FaM).stream] 37 (0, 0)) → Below 0 w w' → (∀ k, k ≠ rv → k ≠ rx → k < w.heap.size → w'.heap[k]? = w.heap[k]?) → Q .normal a' w')) :
    (Fr.reg Tryd.f17 15).wp Tryd.prog Q a w := by
  obtain ⟨fr, rfl, hfr⟩ := ha.lit
  simp only [List.map_cons, List.map_nil, List.cons.injEq, and_true] at hfr
  conv => arg 2; whnf
  simp only [List.range, List.range.loop, List.map_cons, List.map_nil, hfr]
  clear hfr ha
  have a0 : w.cell? ⟨nb, 0, none⟩ = some (.int .i64 0) := Z.cellz 0
  have a1 : w.cell? ⟨nb, 1, none⟩ = some (.int .i64 0) := Z.cellz 1
  have a2 : w.cell? ⟨nb, 2, none⟩ = some (.int .i64 0) := Z.cellz 2
  have a3 : w.cell? ⟨nb, 3, none⟩ = some (.string ⟨#[]⟩) := Z.cellz 3
  have a4 : w.cell? ⟨nb, 4, none⟩ = some (.int .i64 0) := Z.cellz 4
  have a5 : w.cell? ⟨nb, 5, none⟩ = some (.slice none 0 0) := Z.cellz 5
  have a6 : w.cell? ⟨nb, 6, none⟩ = some (.int .i64 0) := Z.cellz 6
  have a7 : w.cell? ⟨nb, 7, none⟩ = some (.int .i64 0) := Z.cellz 7
  have a8 : w.cell? ⟨nb, 8, none⟩ = some (.int .i64 0) := Z.cellz 8
  have a9 : w.cell? ⟨nb, 9, none⟩ = some (.int .i64 0) := Z.cellz 9
  have a10 : w.cell? ⟨nb, 10, none⟩ = some (.int .i64 0) := Z.cellz 10
  have a11 : w.cell? ⟨nb, 11, none⟩ = some (.bool false) := Z.cellz 11
  have hne2 : rv ≠ rx := fun e => hne e.symm
  have hnv2 : rv ≠ nb := fun e => hnv e.symm
  have hnx2 : rx ≠ nb := fun e => hnx e.symm
  have hfv2 : rv ≠ fb := fun e => hfv e.symm
  have hfx2 : rx ≠ fb := fun e => hfx e.symm
  have hw : IntKind.i64.wrap (9 + N) = 9 + N := IntWalk.i64_in _ (by omega)
  obtain ⟨w2, h2, _, w3, h3, F3, X3, B3, o3⟩ := two_ret (w := w) (Below.refl 0 w) (Nat.zero_le _) (Nat.zero_le _) V X hne noFr none 0 ⟨true, 6, st⟩
  have HE : Hid (Fb rv noFr none 0 w3.drew ∧ w3.drew.heap[rx]? = some (Obj.cells #[.bool true, .int .i64 6, .int .i64 st] 37 (0, 0)) ∧ Below 0 w w3.drew ∧ ∀ k, k ≠ rv → k ≠ rx → w3.drew.heap[k]? = w.heap[k]?) := Lib.hid ⟨F3, X3, B3.drew, o3⟩
  subst h2
  subst h3
  obtain ⟨d0, d1, d2⟩ := fa_cells X
  have s0 := frozen_of_row _ _ 0 _ _ X
  have s1 := frozen_of_row _ _ 1 _ _ X
  have s2 := frozen_of_row _ _ 2 _ _ X
  obtain ⟨c0, c1, c2, c3, c4, c5, c6, c7, c8, c9, c10, c11⟩ := fr_cells V
  have t0 := V.thaw 0
  have t1 := V.thaw 1
  have t2 := V.thaw 2
  have t3 := V.thaw 3
  have t4 := V.thaw 4
  have t5 := V.thaw 5
  have t6 := V.thaw 6
  have t7 := V.thaw 7
  have t8 := V.thaw 8
  have t9 := V.thaw 9
  have t10 := V.thaw 10
  have t11 := V.thaw 11
  clear F3 X3 B3 o3 V X Z
  go_region_held3 (fun v => v.cell? ⟨nb, 0, none⟩ = some (.int .i64 0) ∧ v.cell? ⟨nb, 1, none⟩ = some (.int .i64 0) ∧ v.cell? ⟨nb, 2, none⟩ = some (.int .i64 0) ∧ v.cell? ⟨nb, 3, none⟩ = some (.string ⟨#[]⟩) ∧ v.cell? ⟨nb, 4, none⟩ = some (.int .i64 0) ∧ v.cell? ⟨nb, 5, none⟩ = some (.slice none 0 0) ∧ v.cell? ⟨nb, 6, none⟩ = some (.int .i64 0) ∧ v.cell? ⟨nb, 7, none⟩ = some (.int .i64 0) ∧ v.cell? ⟨nb, 8, none⟩ = some (.int .i64 0) ∧ v.cell? ⟨nb, 9, none⟩ = some (.int .i64 0) ∧ v.cell? ⟨nb, 10, none⟩ = some (.int .i64 0) ∧ v.cell? ⟨nb, 11, none⟩ = some (.bool false) ∧ v.cell? ⟨fb, 2, none⟩ = some (.int .i64 st)) (refine ⟨?_, ?_, ?_, ?_, ?_, ?_, ?_, ?_, ?_, ?_, ?_, ?_, ?_⟩ <;> go_simp) (fail)
  all_goals exact hQ.out _ _ (Fr.Is.mk rfl (by simp)) HE.out.1 HE.out.2.1 HE.out.2.2.1 (fun k h1 h2 _ => HE.out.2.2.2 k h1 h2)


set_option maxRecDepth 100000 in
set_option maxHeartbeats 4000000 in
theorem dtk_r24 {Q : Exit → Act → World → Prop} {rv rx nb fb : Nat} {N st : Int} (a : Act) (w : World) (V : Fb rv noFr none 0 w) (X : w.heap[rx]? = some (Obj.cells #[.bool false, .int .i64 0, .int .i64 0] 37 (0, 0))) (hne : rx ≠ rv) (Z : Fb nb noFr none 0 w) (hnv : nb ≠ rv) (hnx : nb ≠ rx) (y2 : w.cell? ⟨fb, 2, none⟩ = some (.int .i64 st)) (hfv : fb ≠ rv) (hfx : fb ≠ rx) (h0 : 0 ≤ N) (h1 : N ≤ 16777215)
    (ha : Fr.Is 208 [(4, .pointer (some ⟨rv, 0, none⟩)), (6, .pointer (some ⟨rx, 0, none⟩)), (7, .pointer (some ⟨nb, 0, none⟩)), (8, .int .i64 N), (9, .pointer (some ⟨fb, 0, none⟩))] a)
    (hQ : Hid (∀ w' a', Fr.Is 208 [(4, .pointer (some ⟨rv, 0, none⟩)), (5, .int .i64 (9 + N)), (6, .pointer (some ⟨rx, 0, none⟩))] a' → Fb rv noFr none 0 w' → w'.heap[rx]? = some (Obj.cells #[.bool (⟨true, 1, st⟩ : FaM).is, .int .i64 (⟨true, 1, st⟩ : FaM).code, .int .i64 (⟨true, 1, st⟩ : FaM).stream] 37 (0, 0)) → Below 0 w w' → (∀ k, k ≠ rv → k ≠ rx → k < w.heap.size → w'.heap[k]? = w.heap[k]?) → Q .normal a' w')) :
    (Fr.reg Tryd.f17 24).wp Tryd.prog Q a w := by
  obtain ⟨fr, rfl, hfr⟩ := ha.lit
  simp only [List.map_cons, List.map_nil, List.cons.injEq, and_true] at hfr
  conv => arg 2; whnf
  simp only [List.range, List.range.loop, List.map_cons, List.map_nil, hfr]
  clear hfr ha
  have a0 : w.cell? ⟨nb, 0, none⟩ = some (.int .i64 0) := Z.cellz 0
  have a1 : w.cell? ⟨nb, 1, none⟩ = some (.int .i64 0) := Z.cellz 1
  have a2 : w.cell? ⟨nb, 2, none⟩ = some (.int .i64 0) := Z.cellz 2
  have a3 : w.cell? ⟨nb, 3, none⟩ = some (.string ⟨#[]⟩) := Z.cellz 3
  have a4 : w.cell? ⟨nb, 4, none⟩ = some (.int .i64 0) := Z.cellz 4
  have a5 : w.cell? ⟨nb, 5, none⟩ = some (.slice none 0 0) := Z.cellz 5
  have a6 : w.cell? ⟨nb, 6, none⟩ = some (.int .i64 0) := Z.cellz 6
  have a7 : w.cell? ⟨nb, 7, none⟩ = some (.int .i64 0) := Z.cellz 7
  have a8 : w.cell? ⟨nb, 8, none⟩ = some (.int .i64 0) := Z.cellz 8
  have a9 : w.cell? ⟨nb, 9, none⟩ = some (.int .i64 0) := Z.cellz 9
  have a10 : w.cell? ⟨nb, 10, none⟩ = some (.int .i64 0) := Z.cellz 10
  have a11 : w.cell? ⟨nb, 11, none⟩ = some (.bool false) := Z.cellz 11
  have hne2 : rv ≠ rx := fun e => hne e.symm
  have hnv2 : rv ≠ nb := fun e => hnv e.symm
  have hnx2 : rx ≠ nb := fun e => hnx e.symm
  have hfv2 : rv ≠ fb := fun e => hfv e.symm
  have hfx2 : rx ≠ fb := fun e => hfx e.symm
  have hw : IntKind.i64.wrap (9 + N) = 9 + N := IntWalk.i64_in _ (by omega)
  obtain ⟨w2, h2, _, w3, h3, F3, X3, B3, o3⟩ := two_ret (w := w) (Below.refl 0 w) (Nat.zero_le _) (Nat.zero_le _) V X hne noFr none 0 ⟨true, 1, st⟩
  have HE : Hid (Fb rv noFr none 0 w3.drew ∧ w3.drew.heap[rx]? = some (Obj.cells #[.bool true, .int .i64 1, .int .i64 st] 37 (0, 0)) ∧ Below 0 w w3.drew ∧ ∀ k, k ≠ rv → k ≠ rx → w3.drew.heap[k]? = w.heap[k]?) := Lib.hid ⟨F3, X3, B3.drew, o3⟩
  subst h2
  subst h3
  obtain ⟨d0, d1, d2⟩ := fa_cells X
  have s0 := frozen_of_row _ _ 0 _ _ X
  have s1 := frozen_of_row _ _ 1 _ _ X
  have s2 := frozen_of_row _ _ 2 _ _ X
  obtain ⟨c0, c1, c2, c3, c4, c5, c6, c7, c8, c9, c10, c11⟩ := fr_cells V
  have t0 := V.thaw 0
  have t1 := V.thaw 1
  have t2 := V.thaw 2
  have t3 := V.thaw 3
  have t4 := V.thaw 4
  have t5 := V.thaw 5
  have t6 := V.thaw 6
  have t7 := V.thaw 7
  have t8 := V.thaw 8
  have t9 := V.thaw 9
  have t10 := V.thaw 10
  have t11 := V.thaw 11
  clear F3 X3 B3 o3 V X Z
  go_region_held3 (fun v => v.cell? ⟨nb, 0, none⟩ = some (.int .i64 0) ∧ v.cell? ⟨nb, 1, none⟩ = some (.int .i64 0) ∧ v.cell? ⟨nb, 2, none⟩ = some (.int .i64 0) ∧ v.cell? ⟨nb, 3, none⟩ = some (.string ⟨#[]⟩) ∧ v.cell? ⟨nb, 4, none⟩ = some (.int .i64 0) ∧ v.cell? ⟨nb, 5, none⟩ = some (.slice none 0 0) ∧ v.cell? ⟨nb, 6, none⟩ = some (.int .i64 0) ∧ v.cell? ⟨nb, 7, none⟩ = some (.int .i64 0) ∧ v.cell? ⟨nb, 8, none⟩ = some (.int .i64 0) ∧ v.cell? ⟨nb, 9, none⟩ = some (.int .i64 0) ∧ v.cell? ⟨nb, 10, none⟩ = some (.int .i64 0) ∧ v.cell? ⟨nb, 11, none⟩ = some (.bool false) ∧ v.cell? ⟨fb, 2, none⟩ = some (.int .i64 st)) (refine ⟨?_, ?_, ?_, ?_, ?_, ?_, ?_, ?_, ?_, ?_, ?_, ?_, ?_⟩ <;> go_simp) (fail)
  all_goals exact hQ.out _ _ (Fr.Is.mk rfl (by simp)) HE.out.1 HE.out.2.1 HE.out.2.2.1 (fun k h1 h2 _ => HE.out.2.2.2 k h1 h2)


set_option maxRecDepth 100000 in
set_option maxHeartbeats 4000000 in
theorem dtk_r3 {Q : Exit → Act → World → Prop} {rv rx nb : Nat} (a : Act) (w : World) (V : Fb rv noFr none 0 w) (X : w.heap[rx]? = some (Obj.cells #[.bool false, .int .i64 0, .int .i64 0] 37 (0, 0))) (hne : rx ≠ rv) (Z : Fb nb noFr none 0 w) (hnv : nb ≠ rv) (hnx : nb ≠ rx)
    (ha : Fr.Is 208 [(4, .pointer (some ⟨rv, 0, none⟩)), (6, .pointer (some ⟨rx, 0, none⟩)), (7, .pointer (some ⟨nb, 0, none⟩))] a)
    (hQ : Hid (∀ w' a', Fr.Is 208 [(4, .pointer (some ⟨rv, 0, none⟩)), (5, .int .i64 0), (6, .pointer (some ⟨rx, 0, none⟩))] a' → Fb rv noFr none 0 w' → w'.heap[rx]? = some (Obj.cells #[.bool noFa.is, .int .i64 noFa.code, .int .i64 noFa.stream] 37 (0, 0)) → Below 0 w w' → (∀ k, k ≠ rv → k ≠ rx → k < w.heap.size → w'.heap[k]? = w.heap[k]?) → Q .normal a' w')) :
    (Fr.reg Tryd.f17 3).wp Tryd.prog Q a w := by
  obtain ⟨fr, rfl, hfr⟩ := ha.lit
  simp only [List.map_cons, List.map_nil, List.cons.injEq, and_true] at hfr
  conv => arg 2; whnf
  simp only [List.range, List.range.loop, List.map_cons, List.map_nil, hfr]
  clear hfr ha
  have a0 : w.cell? ⟨nb, 0, none⟩ = some (.int .i64 0) := Z.cellz 0
  have a1 : w.cell? ⟨nb, 1, none⟩ = some (.int .i64 0) := Z.cellz 1
  have a2 : w.cell? ⟨nb, 2, none⟩ = some (.int .i64 0) := Z.cellz 2
  have a3 : w.cell? ⟨nb, 3, none⟩ = some (.string ⟨#[]⟩) := Z.cellz 3
  have a4 : w.cell? ⟨nb, 4, none⟩ = some (.int .i64 0) := Z.cellz 4
  have a5 : w.cell? ⟨nb, 5, none⟩ = some (.slice none 0 0) := Z.cellz 5
  have a6 : w.cell? ⟨nb, 6, none⟩ = some (.int .i64 0) := Z.cellz 6
  have a7 : w.cell? ⟨nb, 7, none⟩ = some (.int .i64 0) := Z.cellz 7
  have a8 : w.cell? ⟨nb, 8, none⟩ = some (.int .i64 0) := Z.cellz 8
  have a9 : w.cell? ⟨nb, 9, none⟩ = some (.int .i64 0) := Z.cellz 9
  have a10 : w.cell? ⟨nb, 10, none⟩ = some (.int .i64 0) := Z.cellz 10
  have a11 : w.cell? ⟨nb, 11, none⟩ = some (.bool false) := Z.cellz 11
  have hne2 : rv ≠ rx := fun e => hne e.symm
  have hnv2 : rv ≠ nb := fun e => hnv e.symm
  have hnx2 : rx ≠ nb := fun e => hnx e.symm
  obtain ⟨w2, h2, _, w3, h3, F3, X3, B3, o3⟩ := two_ret (w := w) (Below.refl 0 w) (Nat.zero_le _) (Nat.zero_le _) V X hne noFr none 0 noFa
  have HE := Lib.hid (And.intro F3 (And.intro X3 (And.intro B3 o3)))
  subst h2
  subst h3
  obtain ⟨d0, d1, d2⟩ := fa_cells X
  have s0 := frozen_of_row _ _ 0 _ _ X
  have s1 := frozen_of_row _ _ 1 _ _ X
  have s2 := frozen_of_row _ _ 2 _ _ X
  obtain ⟨c0, c1, c2, c3, c4, c5, c6, c7, c8, c9, c10, c11⟩ := fr_cells V
  have t0 := V.thaw 0
  have t1 := V.thaw 1
  have t2 := V.thaw 2
  have t3 := V.thaw 3
  have t4 := V.thaw 4
  have t5 := V.thaw 5
  have t6 := V.thaw 6
  have t7 := V.thaw 7
  have t8 := V.thaw 8
  have t9 := V.thaw 9
  have t10 := V.thaw 10
  have t11 := V.thaw 11
  clear F3 X3 B3 o3 V X Z
  go_wp2_with fail
  exact hQ.out _ _ (Fr.Is.mk rfl rfl) HE.out.1 HE.out.2.1 HE.out.2.2.1 (fun k h1 h2 _ => HE.out.2.2.2 k h1 h2)


set_option maxRecDepth 100000 in
set_option maxHeartbeats 4000000 in
theorem dtk_r8 {Q : Exit → Act → World → Prop} {rv rx nb : Nat} (a : Act) (w : World) (V : Fb rv noFr none 0 w) (X : w.heap[rx]? = some (Obj.cells #[.bool false, .int .i64 0, .int .i64 0] 37 (0, 0))) (hne : rx ≠ rv) (Z : Fb nb noFr none 0 w) (hnv : nb ≠ rv) (hnx : nb ≠ rx)
    (ha : Fr.Is 208 [(4, .pointer (some ⟨rv, 0, none⟩)), (6, .pointer (some ⟨rx, 0, none⟩)), (7, .pointer (some ⟨nb, 0, none⟩))] a)
    (hQ : Hid (∀ w' a', Fr.Is 208 [(4, .pointer (some ⟨rv, 0, none⟩)), (5, .int .i64 0), (6, .pointer (some ⟨rx, 0, none⟩))] a' → Fb rv noFr none 0 w' → w'.heap[rx]? = some (Obj.cells #[.bool noFa.is, .int .i64 noFa.code, .int .i64 noFa.stream] 37 (0, 0)) → Below 0 w w' → (∀ k, k ≠ rv → k ≠ rx → k < w.heap.size → w'.heap[k]? = w.heap[k]?) → Q .normal a' w')) :
    (Fr.reg Tryd.f17 8).wp Tryd.prog Q a w := by
  obtain ⟨fr, rfl, hfr⟩ := ha.lit
  simp only [List.map_cons, List.map_nil, List.cons.injEq, and_true] at hfr
  conv => arg 2; whnf
  simp only [List.range, List.range.loop, List.map_cons, List.map_nil, hfr]
  clear hfr ha
  have a0 : w.cell? ⟨nb, 0, none⟩ = some (.int .i64 0) := Z.cellz 0
  have a1 : w.cell? ⟨nb, 1, none⟩ = some (.int .i64 0) := Z.cellz 1
  have a2 : w.cell? ⟨nb, 2, none⟩ = some (.int .i64 0) := Z.cellz 2
  have a3 : w.cell? ⟨nb, 3, none⟩ = some (.string ⟨#[]⟩) := Z.cellz 3
  have a4 : w.cell? ⟨nb, 4, none⟩ = some (.int .i64 0) := Z.cellz 4
  have a5 : w.cell? ⟨nb, 5, none⟩ = some (.slice none 0 0) := Z.cellz 5
  have a6 : w.cell? ⟨nb, 6, none⟩ = some (.int .i64 0) := Z.cellz 6
  have a7 : w.cell? ⟨nb, 7, none⟩ = some (.int .i64 0) := Z.cellz 7
  have a8 : w.cell? ⟨nb, 8, none⟩ = some (.int .i64 0) := Z.cellz 8
  have a9 : w.cell? ⟨nb, 9, none⟩ = some (.int .i64 0) := Z.cellz 9
  have a10 : w.cell? ⟨nb, 10, none⟩ = some (.int .i64 0) := Z.cellz 10
  have a11 : w.cell? ⟨nb, 11, none⟩ = some (.bool false) := Z.cellz 11
  have hne2 : rv ≠ rx := fun e => hne e.symm
  have hnv2 : rv ≠ nb := fun e => hnv e.symm
  have hnx2 : rx ≠ nb := fun e => hnx e.symm
  obtain ⟨w2, h2, _, w3, h3, F3, X3, B3, o3⟩ := two_ret (w := w) (Below.refl 0 w) (Nat.zero_le _) (Nat.zero_le _) V X hne noFr none 0 noFa
  have HE := Lib.hid (And.intro F3 (And.intro X3 (And.intro B3 o3)))
  subst h2
  subst h3
  obtain ⟨d0, d1, d2⟩ := fa_cells X
  have s0 := frozen_of_row _ _ 0 _ _ X
  have s1 := frozen_of_row _ _ 1 _ _ X
  have s2 := frozen_of_row _ _ 2 _ _ X
  obtain ⟨c0, c1, c2, c3, c4, c5, c6, c7, c8, c9, c10, c11⟩ := fr_cells V
  have t0 := V.thaw 0
  have t1 := V.thaw 1
  have t2 := V.thaw 2
  have t3 := V.thaw 3
  have t4 := V.thaw 4
  have t5 := V.thaw 5
  have t6 := V.thaw 6
  have t7 := V.thaw 7
  have t8 := V.thaw 8
  have t9 := V.thaw 9
  have t10 := V.thaw 10
  have t11 := V.thaw 11
  clear F3 X3 B3 o3 V X Z
  go_wp2_with fail
  exact hQ.out _ _ (Fr.Is.mk rfl rfl) HE.out.1 HE.out.2.1 HE.out.2.2.1 (fun k h1 h2 _ => HE.out.2.2.2 k h1 h2)


set_option maxRecDepth 100000 in
set_option maxHeartbeats 4000000 in
theorem dtk_r33 {Q : Exit → Act → World → Prop} {rv rx fb : Nat} {N : Int} {f : FrM} {sa : Option Addr} {sc : Nat} (a : Act) (w : World) (V : Fb rv noFr none 0 w) (X : w.heap[rx]? = some (Obj.cells #[.bool false, .int .i64 0, .int .i64 0] 37 (0, 0))) (hne : rx ≠ rv) (Z : Fb fb f sa sc w) (hnv : fb ≠ rv) (hnx : fb ≠ rx) (h0 : 0 ≤ N) (h1 : N ≤ 16777215)
    (ha : Fr.Is 208 [(4, .pointer (some ⟨rv, 0, none⟩)), (6, .pointer (some ⟨rx, 0, none⟩)), (8, .int .i64 N), (9, .pointer (some ⟨fb, 0, none⟩))] a)
    (hQ : Hid (∀ w' a', Fr.Is 208 [(4, .pointer (some ⟨rv, 0, none⟩)), (5, .int .i64 (9 + N)), (6, .pointer (some ⟨rx, 0, none⟩))] a' → Fb rv f sa sc w' → w'.heap[rx]? = some (Obj.cells #[.bool noFa.is, .int .i64 noFa.code, .int .i64 noFa.stream] 37 (0, 0)) → Below 0 w w' → (∀ k, k ≠ rv → k ≠ rx → k < w.heap.size → w'.heap[k]? = w.heap[k]?) → Q .normal a' w')) :
    (Fr.reg Tryd.f17 33).wp Tryd.prog Q a w := by
  obtain ⟨fr, rfl, hfr⟩ := ha.lit
  simp only [List.map_cons, List.map_nil, List.cons.injEq, and_true] at hfr
  conv => arg 2; whnf
  simp only [List.range, List.range.loop, List.map_cons, List.map_nil, hfr]
  clear hfr ha
  obtain ⟨a0, a1, a2, a3, a4, a5, a6, a7, a8, a9, a10, a11⟩ := fr_cells Z
  have hne2 : rv ≠ rx := fun e => hne e.symm
  have hnv2 : rv ≠ fb := fun e => hnv e.symm
  have hnx2 : rx ≠ fb := fun e => hnx e.symm
  have hw : IntKind.i64.wrap (9 + N) = 9 + N := IntWalk.i64_in _ (by omega)
  obtain ⟨w2, h2, _, w3, h3, F3, X3, B3, o3⟩ := two_ret (w := w) (Below.refl 0 w) (Nat.zero_le _) (Nat.zero_le _) V X hne f sa sc noFa
  have HE := Lib.hid (And.intro F3 (And.intro X3 (And.intro B3 o3)))
  subst h2
  subst h3
  obtain ⟨d0, d1, d2⟩ := fa_cells X
  have s0 := frozen_of_row _ _ 0 _ _ X
  have s1 := frozen_of_row _ _ 1 _ _ X
  have s2 := frozen_of_row _ _ 2 _ _ X
  obtain ⟨c0, c1, c2, c3, c4, c5, c6, c7, c8, c9, c10, c11⟩ := fr_cells V
  have t0 := V.thaw 0
  have t1 := V.thaw 1
  have t2 := V.thaw 2
  have t3 := V.thaw 3
  have t4 := V.thaw 4
  have t5 := V.thaw 5
  have t6 := V.thaw 6
  have t7 := V.thaw 7
  have t8 := V.thaw 8
  have t9 := V.thaw 9
  have t10 := V.thaw 10
  have t11 := V.thaw 11
  clear F3 X3 B3 o3 V X Z
  go_wp2_with fail
  exact hQ.out _ _ (Fr.Is.mk rfl (by simp)) HE.out.1 HE.out.2.1 HE.out.2.2.1 (fun k h1 h2 _ => HE.out.2.2.2 k h1 h2)

end Go.Proofs.YtglhdlkmgmbgeaaDoor
