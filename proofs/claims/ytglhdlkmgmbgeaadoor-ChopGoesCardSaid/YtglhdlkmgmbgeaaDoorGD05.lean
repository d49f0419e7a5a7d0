/- Layer 7: the document's All, region by region. Layer 7: the document's All, whole. -/
import Derived.Test.YtglhdlkmgmbgeaaDoorGD04
set_option linter.unusedVariables false
set_option linter.unusedSimpArgs false
namespace Go.Proofs.YtglhdlkmgmbgeaaDoor
open Go.RowKit
open Cho Fra Oct Arg Mem Gen Wr Qu Pt Sx Go.Proofs.YtglhdlkmgmbgeaaDoor.Obj
set_option linter.unusedVariables false
set_option linter.unusedSimpArgs false

theorem u8_injZ (a b : UInt8) : ((a.toNat : Int) = b.toNat) ↔ a = b := ⟨fun h => UInt8.toNat_inj.mp (by omega), fun h => by rw [h]⟩

set_option maxRecDepth 100000 in
set_option maxHeartbeats 1000000 in
theorem al_r0 {Q : Exit → Act → World → Prop} {n cap : Nat} {ad : Option Addr} {most : Int} {aw : Bool} (a : Act) (w : World) 
    (ha : Fr.Is 73 [(0, .slice ad n cap), (1, .int .i64 most), (2, .bool aw)] a)
    (hQ : Hid (∀ a' , Fr.Is 73 [(0, .slice ad n cap), (1, .int .i64 most), (2, .bool aw)] a' → Q .normal a' w)) :
    (Fr.reg Tryd.f12 0).wp Tryd.prog Q a w := by
  obtain ⟨fr, rfl, hfr⟩ := ha.lit
  simp only [List.map_cons, List.map_nil, List.cons.injEq, and_true] at hfr
  conv => arg 2; whnf
  simp only [List.range, List.range.loop, List.map_cons, List.map_nil, hfr]
  clear hfr ha
  go_wp2_with fail
  exact hQ.out _ (Fr.Is.mk rfl (by simp))

set_option maxRecDepth 100000 in
set_option maxHeartbeats 1000000 in
theorem al_r1 {Q : Exit → Act → World → Prop} {n cap : Nat} {ad : Option Addr} {most : Int} {aw : Bool} (a : Act) (w : World) 
    (ha : Fr.Is 73 [(0, .slice ad n cap), (1, .int .i64 most), (2, .bool aw)] a)
    (hQ : Hid (∀ a' , Fr.Is 73 [(0, .slice ad n cap), (1, .int .i64 most), (2, .bool aw), (15, .bool (decide (most < 0)))] a' → Q .normal a' w)) :
    (Fr.reg Tryd.f12 1).wp Tryd.prog Q a w := by
  obtain ⟨fr, rfl, hfr⟩ := ha.lit
  simp only [List.map_cons, List.map_nil, List.cons.injEq, and_true] at hfr
  conv => arg 2; whnf
  simp only [List.range, List.range.loop, List.map_cons, List.map_nil, hfr]
  clear hfr ha
  go_wp2_with fail
  exact hQ.out _ (Fr.Is.mk rfl (by simp))

set_option maxRecDepth 100000 in
set_option maxHeartbeats 1000000 in
theorem al_r2 {Q : Exit → Act → World → Prop} {n cap : Nat} {ad : Option Addr} {most : Int} {aw : Bool} (a : Act) (w : World) 
    (ha : Fr.Is 73 [(0, .slice ad n cap), (1, .int .i64 most), (2, .bool aw)] a)
    (hQ : Hid (∀ a' , Fr.Is 73 [(0, .slice ad n cap), (1, .int .i64 0), (2, .bool aw)] a' → Q .normal a' w)) :
    (Fr.reg Tryd.f12 2).wp Tryd.prog Q a w := by
  obtain ⟨fr, rfl, hfr⟩ := ha.lit
  simp only [List.map_cons, List.map_nil, List.cons.injEq, and_true] at hfr
  conv => arg 2; whnf
  simp only [List.range, List.range.loop, List.map_cons, List.map_nil, hfr]
  clear hfr ha
  go_wp2_with fail
  exact hQ.out _ (Fr.Is.mk rfl (by simp))

set_option maxRecDepth 100000 in
set_option maxHeartbeats 1000000 in
theorem al_r3 {Q : Exit → Act → World → Prop} {n cap : Nat} {ad : Option Addr} {most : Int} {aw : Bool} (a : Act) (w : World) 
    (ha : Fr.Is 73 [(0, .slice ad n cap), (1, .int .i64 most), (2, .bool aw)] a)
    (hQ : Hid (∀ a' , Fr.Is 73 [(0, .slice ad n cap), (1, .int .i64 most), (2, .bool aw), (16, .bool aw)] a' → Q .normal a' w)) :
    (Fr.reg Tryd.f12 3).wp Tryd.prog Q a w := by
  obtain ⟨fr, rfl, hfr⟩ := ha.lit
  simp only [List.map_cons, List.map_nil, List.cons.injEq, and_true] at hfr
  conv => arg 2; whnf
  simp only [List.range, List.range.loop, List.map_cons, List.map_nil, hfr]
  clear hfr ha
  go_wp2_with fail
  exact hQ.out _ (Fr.Is.mk rfl (by simp))

set_option maxRecDepth 100000 in
set_option maxHeartbeats 1000000 in
theorem al_r4 {Q : Exit → Act → World → Prop} {n cap : Nat} {ad : Option Addr} {most : Int} (a : Act) (w : World) 
    (ha : Fr.Is 73 [(0, .slice ad n cap), (1, .int .i64 most)] a)
    (hQ : Hid (∀ a' , Fr.Is 73 [(0, .slice ad n cap), (1, .int .i64 most), (9, .int .i64 0)] a' → Q .normal a' w)) :
    (Fr.reg Tryd.f12 4).wp Tryd.prog Q a w := by
  obtain ⟨fr, rfl, hfr⟩ := ha.lit
  simp only [List.map_cons, List.map_nil, List.cons.injEq, and_true] at hfr
  conv => arg 2; whnf
  simp only [List.range, List.range.loop, List.map_cons, List.map_nil, hfr]
  clear hfr ha
  go_wp2_with fail
  exact hQ.out _ (Fr.Is.mk rfl (by simp))

set_option maxRecDepth 100000 in
set_option maxHeartbeats 1000000 in
theorem al_r5 {Q : Exit → Act → World → Prop} {n cap i : Nat} {ad : Option Addr} {most : Int} (a : Act) (w : World) 
    (ha : Fr.Is 73 [(0, .slice ad n cap), (1, .int .i64 most), (9, .int .i64 i)] a)
    (hQ : Hid (∀ a' , Fr.Is 73 [(0, .slice ad n cap), (1, .int .i64 most), (9, .int .i64 i), (24, .bool (decide (i < n) && decide (i < 24)))] a' → Q .normal a' w)) :
    (Fr.reg Tryd.f12 5).wp Tryd.prog Q a w := by
  obtain ⟨fr, rfl, hfr⟩ := ha.lit
  simp only [List.map_cons, List.map_nil, List.cons.injEq, and_true] at hfr
  conv => arg 2; whnf
  simp only [List.range, List.range.loop, List.map_cons, List.map_nil, hfr]
  clear hfr ha
  by_cases h : i < n
  · have h1 : (i : Int) < n := by omega
    by_cases h2 : i < 24
    · have h3 : (i : Int) < 24 := by omega
      go_wp2_with fail
      exact hQ.out _ (Fr.Is.mk rfl (by simp [h, h2]))
    · have h3 : ¬ (i : Int) < 24 := by omega
      go_wp2_with fail
      exact hQ.out _ (Fr.Is.mk rfl (by simp [h2]))
  · have h1 : ¬ (i : Int) < n := by omega
    go_wp2_with fail
    exact hQ.out _ (Fr.Is.mk rfl (by simp [h]))
  

set_option maxRecDepth 100000 in
set_option maxHeartbeats 1000000 in
theorem al_r6 {Q : Exit → Act → World → Prop} {n cap i : Nat} {ad : Option Addr} {most : Int} (a : Act) (w : World) (hi : i ≤ 1000000)
    (ha : Fr.Is 73 [(0, .slice ad n cap), (1, .int .i64 most), (9, .int .i64 i)] a)
    (hQ : Hid (∀ a' , Fr.Is 73 [(0, .slice ad n cap), (1, .int .i64 most), (9, .int .i64 (i + 1 : Nat))] a' → Q .normal a' w)) :
    (Fr.reg Tryd.f12 6).wp Tryd.prog Q a w := by
  obtain ⟨fr, rfl, hfr⟩ := ha.lit
  simp only [List.map_cons, List.map_nil, List.cons.injEq, and_true] at hfr
  conv => arg 2; whnf
  simp only [List.range, List.range.loop, List.map_cons, List.map_nil, hfr]
  clear hfr ha
  have hw : IntKind.i64.wrap ((i : Int) + 1) = ((i + 1 : Nat) : Int) := by rw [IntWalk.i64_in _ (by omega)]; omega
  go_wp2_with fail
  exact hQ.out _ (Fr.Is.mk rfl (by simp))

theorem pref_at : ∀ m : Fin 24, (ByteArray.mk #[80, 82, 73, 32, 42, 32, 72, 84, 84, 80, 47, 50, 46, 48, 13, 10, 13, 10, 83, 77, 13, 10, 13, 10])[m.val] = prefL.getD m 0 := by decide +kernel

set_option maxRecDepth 100000 in
set_option maxHeartbeats 1000000 in
theorem al_r7 {Q : Exit → Act → World → Prop} {n cap i b off : Nat} {c : UInt8} {most : Int} (a : Act) (w : World) (hc : w.cell? ⟨b, off + i, none⟩ = some (.int .u8 (c.toNat : Int))) (hi : i < n) (h24 : i < 24)
    (ha : Fr.Is 73 [(0, .slice (some ⟨b, off, none⟩) n cap), (1, .int .i64 most), (9, .int .i64 i)] a)
    (hQ : Hid (∀ a' nq, Fr.Is 73 [(0, .slice (some ⟨b, off, none⟩) n cap), (1, .int .i64 most), (9, .int .i64 i), (33, .bool (decide (c ≠ prefL.getD i 0)))] a' → Q .normal a' (w.drewN nq))) :
    (Fr.reg Tryd.f12 7).wp Tryd.prog Q a w := by
  obtain ⟨fr, rfl, hfr⟩ := ha.lit
  simp only [List.map_cons, List.map_nil, List.cons.injEq, and_true] at hfr
  conv => arg 2; whnf
  simp only [List.range, List.range.loop, List.map_cons, List.map_nil, hfr]
  clear hfr ha
  have h1 : (i : Int) < n := by omega
  have h2 : (i : Int) < 24 := by omega
  have hcs : ∀ nn, (w.drewN nn).cell? ⟨b, off + i, none⟩ = some (.int .u8 (c.toNat : Int)) := fun nn => hc
  have hp := pref_at ⟨i, h24⟩
  simp only at hp
  rw [← hp] at hQ
  clear hp
  refine wp_region_noPanic ?_
  go_quiet (fail)
  exact hQ.out _ nq (Fr.Is.mk rfl (by simp; rw [Bool.eq_iff_iff]; simp [u8_injZ]))

set_option maxRecDepth 100000 in
set_option maxHeartbeats 1000000 in
theorem al_r8 {Q : Exit → Act → World → Prop} {n cap : Nat} {ad : Option Addr} {most : Int} (a : Act) (w : World) 
    (ha : Fr.Is 73 [(0, .slice ad n cap), (1, .int .i64 most)] a)
    (hQ : Hid (∀ a' , Fr.Is 73 [(6, .slice (some ⟨w.heap.size, 0, none⟩) 1 1), (7, .int .i64 0), (8, .bool true)] a' → Q .normal a' (w.alloc (.cells (itC noFr none 0 (ofC 1)) 42)))) :
    (Fr.reg Tryd.f12 8).wp Tryd.prog Q a w := by
  obtain ⟨fr, rfl, hfr⟩ := ha.lit
  simp only [List.map_cons, List.map_nil, List.cons.injEq, and_true] at hfr
  conv => arg 2; whnf
  simp only [List.range, List.range.loop, List.map_cons, List.map_nil, hfr]
  clear hfr ha
  go_wp2_with fail
  exact hQ.out _ (Fr.Is.mk rfl (by simp))

set_option maxRecDepth 100000 in
set_option maxHeartbeats 1000000 in
theorem al_r9 {Q : Exit → Act → World → Prop} {n cap : Nat} {ad : Option Addr} {most : Int} (a : Act) (w : World) 
    (ha : Fr.Is 73 [(0, .slice ad n cap), (1, .int .i64 most)] a)
    (hQ : Hid (∀ a' , Fr.Is 73 [(0, .slice ad n cap), (1, .int .i64 most), (39, .bool (decide (n < 24)))] a' → Q .normal a' w)) :
    (Fr.reg Tryd.f12 9).wp Tryd.prog Q a w := by
  obtain ⟨fr, rfl, hfr⟩ := ha.lit
  simp only [List.map_cons, List.map_nil, List.cons.injEq, and_true] at hfr
  conv => arg 2; whnf
  simp only [List.range, List.range.loop, List.map_cons, List.map_nil, hfr]
  clear hfr ha
  go_wp2_with fail
  exact hQ.out _ (Fr.Is.mk rfl (by simp; omega))

set_option maxRecDepth 100000 in
set_option maxHeartbeats 1000000 in
theorem al_r10 {Q : Exit → Act → World → Prop} {n cap : Nat} {ad : Option Addr} {most : Int} (a : Act) (w : World) 
    (ha : Fr.Is 73 [(0, .slice ad n cap), (1, .int .i64 most)] a)
    (hQ : Hid (∀ a' , Fr.Is 73 [(6, .slice none 0 0), (7, .int .i64 n), (8, .bool false)] a' → Q .normal a' w)) :
    (Fr.reg Tryd.f12 10).wp Tryd.prog Q a w := by
  obtain ⟨fr, rfl, hfr⟩ := ha.lit
  simp only [List.map_cons, List.map_nil, List.cons.injEq, and_true] at hfr
  conv => arg 2; whnf
  simp only [List.range, List.range.loop, List.map_cons, List.map_nil, hfr]
  clear hfr ha
  go_wp2_with fail
  exact hQ.out _ (Fr.Is.mk rfl (by simp))

set_option maxRecDepth 100000 in
set_option maxHeartbeats 1000000 in
theorem al_r11 {Q : Exit → Act → World → Prop} {n cap : Nat} {ad : Option Addr} {most : Int} (a : Act) (w : World) (h24 : 24 ≤ n) (hn : n ≤ cap)
    (ha : Fr.Is 73 [(0, .slice ad n cap), (1, .int .i64 most)] a)
    (hQ : Hid (∀ a' , Fr.Is 73 [(0, .slice (Sl.adOf ad cap 24 1) (n - 24 : Nat) (cap - 24)), (1, .int .i64 most)] a' → Q .normal a' w)) :
    (Fr.reg Tryd.f12 11).wp Tryd.prog Q a w := by
  obtain ⟨fr, rfl, hfr⟩ := ha.lit
  simp only [List.map_cons, List.map_nil, List.cons.injEq, and_true] at hfr
  conv => arg 2; whnf
  simp only [List.range, List.range.loop, List.map_cons, List.map_nil, hfr]
  clear hfr ha
  have hsl : ∀ v, (Instr.slice 24 (.slice ad n cap) (some (.int .i64 24)) none none).run Tryd.prog v = .ok (.slice (Sl.adOf ad cap 24 1) (n - 24) (cap - 24)) v := fun (v : World) => Sl.run_from (P := Tryd.prog) (t := 24) Tryd.underlying24 (size := 1) size_by ad n cap 24 h24 hn v
  generalize Sl.adOf ad cap 24 1 = ad2 at hsl hQ
  generalize n - 24 = n2 at hsl hQ
  generalize cap - 24 = c2' at hsl hQ
  go_wp2_with fail
  exact hQ.out _ (Fr.Is.mk rfl (by simp))

set_option maxRecDepth 100000 in
set_option maxHeartbeats 1000000 in
theorem al_r12 {Q : Exit → Act → World → Prop} {n cap : Nat} {ad : Option Addr} {most : Int} (a : Act) (w : World) 
    (ha : Fr.Is 73 [(0, .slice ad n cap), (1, .int .i64 most)] a)
    (hQ : Hid (∀ a' , Fr.Is 73 [(0, .slice ad n cap), (1, .int .i64 most), (10, .slice none 0 0)] a' → Q .normal a' w)) :
    (Fr.reg Tryd.f12 12).wp Tryd.prog Q a w := by
  obtain ⟨fr, rfl, hfr⟩ := ha.lit
  simp only [List.map_cons, List.map_nil, List.cons.injEq, and_true] at hfr
  conv => arg 2; whnf
  simp only [List.range, List.range.loop, List.map_cons, List.map_nil, hfr]
  clear hfr ha
  go_wp2_with fail
  exact hQ.out _ (Fr.Is.mk rfl (by simp))

set_option maxRecDepth 100000 in
set_option maxHeartbeats 2000000 in
theorem al_r13 {Q : Exit → Act → World → Prop} {n cap k oc : Nat} {ad oa : Option Addr} {most : Int} {N : Nat} {f : FrM} {x : FaM} (a : Act) (w : World) 
    (HC : Hid (Calls Tryd.prog 17 #[.slice ad n cap, .int .i64 most] w fun e w' => ∃ sa sc, e = .returned (.tuple #[.agg (frC f sa sc), .int .i64 N, .agg (faC x)]) ∧ FrOk f sa sc w' ∧ Below w.heap.size w w' ∧ ∀ b o s, sa = some ⟨b, o, s⟩ → w.heap.size ≤ b))
    (ha : Fr.Is 73 [(0, .slice ad n cap), (1, .int .i64 most), (10, .slice oa k oc)] a)
    (hQ : Hid (∀ a' w1 gb xb sa sc, Fr.Is 73 [(0, .slice ad n cap), (1, .int .i64 most), (10, .slice oa k oc), (11, .pointer (some ⟨gb, 0, none⟩)), (12, .int .i64 N), (13, .pointer (some ⟨xb, 0, none⟩))] a' → gb = w1.heap.size → xb = w1.heap.size + 1 → FrOk f sa sc w1 → Below w.heap.size w w1 → (∀ b o s, sa = some ⟨b, o, s⟩ → w.heap.size ≤ b) → Q .normal a' ((w1.alloc (.cells (frC f sa sc) 40)).alloc (.cells (faC x) 37)))) :
    (Fr.reg Tryd.f12 13).wp Tryd.prog Q a w := by
  obtain ⟨fr, rfl, hfr⟩ := ha.lit
  simp only [List.map_cons, List.map_nil, List.cons.injEq, and_true] at hfr
  conv => arg 2; whnf
  simp only [List.range, List.range.loop, List.map_cons, List.map_nil, hfr]
  clear hfr ha
  unfold frC faC at HC
  go_wp2_with (go_at_call 17; refine HC.out.mono ?_; rintro e w1 ⟨sa, sc, rfl, ok, b1, hn⟩)
  exact hQ.out _ w1 _ _ sa sc (Fr.Is.mk rfl rfl) rfl rfl ok b1 hn

set_option maxRecDepth 100000 in
set_option maxHeartbeats 1000000 in
theorem al_r14 {Q : Exit → Act → World → Prop} {n cap k oc gb xb : Nat} {ad oa : Option Addr} {most : Int} {N : Nat} {x : FaM} (a : Act) (w : World) (hx : w.heap[xb]? = some (.cells (faC x) 37 (0, 0)))
    (ha : Fr.Is 73 [(0, .slice ad n cap), (1, .int .i64 most), (10, .slice oa k oc), (11, .pointer (some ⟨gb, 0, none⟩)), (12, .int .i64 N), (13, .pointer (some ⟨xb, 0, none⟩))] a)
    (hQ : Hid (∀ a' , Fr.Is 73 [(0, .slice ad n cap), (1, .int .i64 most), (10, .slice oa k oc), (11, .pointer (some ⟨gb, 0, none⟩)), (12, .int .i64 N), (13, .pointer (some ⟨xb, 0, none⟩)), (57, .bool (decide (N = 0) && !x.is))] a' → Q .normal a' w)) :
    (Fr.reg Tryd.f12 14).wp Tryd.prog Q a w := by
  obtain ⟨fr, rfl, hfr⟩ := ha.lit
  simp only [List.map_cons, List.map_nil, List.cons.injEq, and_true] at hfr
  conv => arg 2; whnf
  simp only [List.range, List.range.loop, List.map_cons, List.map_nil, hfr]
  clear hfr ha
  have x0 : w.cell? ⟨xb, 0, none⟩ = some (.bool x.is) := cell_at hx 0
  by_cases h : N = 0
  · subst h
    go_wp2_with fail
    exact hQ.out _ (Fr.Is.mk rfl (by simp))
  · have h1 : ((N : Int) == 0) = false := by rw [beq_eq_false_iff_ne]; omega
    go_wp2_with fail
    exact hQ.out _ (Fr.Is.mk rfl (by simp [h]))
  

set_option maxRecDepth 100000 in
set_option maxHeartbeats 1000000 in
theorem al_r15 {Q : Exit → Act → World → Prop} {n cap k oc gb xb : Nat} {ad oa : Option Addr} {most : Int} {N : Nat} (a : Act) (w : World) 
    (ha : Fr.Is 73 [(0, .slice ad n cap), (1, .int .i64 most), (10, .slice oa k oc), (11, .pointer (some ⟨gb, 0, none⟩)), (12, .int .i64 N), (13, .pointer (some ⟨xb, 0, none⟩))] a)
    (hQ : Hid (∀ a' , Fr.Is 73 [(6, .slice oa k oc), (7, .int .i64 n), (8, .bool false)] a' → Q .normal a' w)) :
    (Fr.reg Tryd.f12 15).wp Tryd.prog Q a w := by
  obtain ⟨fr, rfl, hfr⟩ := ha.lit
  simp only [List.map_cons, List.map_nil, List.cons.injEq, and_true] at hfr
  conv => arg 2; whnf
  simp only [List.range, List.range.loop, List.map_cons, List.map_nil, hfr]
  clear hfr ha
  go_wp2_with fail
  exact hQ.out _ (Fr.Is.mk rfl (by simp))

set_option maxRecDepth 100000 in
set_option maxHeartbeats 1000000 in
theorem al_r17 {Q : Exit → Act → World → Prop} {n cap k oc : Nat} {ad oa : Option Addr} {most : Int} {N : Nat} (a : Act) (w : World) 
    (ha : Fr.Is 73 [(0, .slice ad n cap), (1, .int .i64 most), (10, .slice oa k oc), (12, .int .i64 N)] a)
    (hQ : Hid (∀ a' , Fr.Is 73 [(0, .slice ad n cap), (1, .int .i64 most), (10, .slice oa k oc), (12, .int .i64 N), (68, .bool (decide (N = 0)))] a' → Q .normal a' w)) :
    (Fr.reg Tryd.f12 17).wp Tryd.prog Q a w := by
  obtain ⟨fr, rfl, hfr⟩ := ha.lit
  simp only [List.map_cons, List.map_nil, List.cons.injEq, and_true] at hfr
  conv => arg 2; whnf
  simp only [List.range, List.range.loop, List.map_cons, List.map_nil, hfr]
  clear hfr ha
  by_cases h : N = 0
  · subst h
    go_wp2_with fail
    exact hQ.out _ (Fr.Is.mk rfl (by simp))
  · have h1 : ((N : Int) == 0) = false := by rw [beq_eq_false_iff_ne]; omega
    go_wp2_with fail
    exact hQ.out _ (Fr.Is.mk rfl (by simp [h]))
  

set_option maxRecDepth 100000 in
set_option maxHeartbeats 1000000 in
theorem al_r18 {Q : Exit → Act → World → Prop} {n cap k oc : Nat} {ad oa : Option Addr} {most : Int} (a : Act) (w : World) 
    (ha : Fr.Is 73 [(0, .slice ad n cap), (1, .int .i64 most), (10, .slice oa k oc)] a)
    (hQ : Hid (∀ a' , Fr.Is 73 [(6, .slice oa k oc), (7, .int .i64 0), (8, .bool true)] a' → Q .normal a' w)) :
    (Fr.reg Tryd.f12 18).wp Tryd.prog Q a w := by
  obtain ⟨fr, rfl, hfr⟩ := ha.lit
  simp only [List.map_cons, List.map_nil, List.cons.injEq, and_true] at hfr
  conv => arg 2; whnf
  simp only [List.range, List.range.loop, List.map_cons, List.map_nil, hfr]
  clear hfr ha
  go_wp2_with fail
  exact hQ.out _ (Fr.Is.mk rfl (by simp))

set_option maxRecDepth 100000 in
set_option maxHeartbeats 1000000 in
theorem al_r19 {Q : Exit → Act → World → Prop} {n cap k oc : Nat} {ad oa : Option Addr} {most : Int} {N : Nat} (a : Act) (w : World) (hN : N ≤ n) (hn : n ≤ cap)
    (ha : Fr.Is 73 [(0, .slice ad n cap), (1, .int .i64 most), (10, .slice oa k oc), (12, .int .i64 N)] a)
    (hQ : Hid (∀ a' , Fr.Is 73 [(0, .slice (Sl.adOf ad cap N 1) (n - N : Nat) (cap - N)), (1, .int .i64 most), (10, .slice oa k oc)] a' → Q .normal a' w)) :
    (Fr.reg Tryd.f12 19).wp Tryd.prog Q a w := by
  obtain ⟨fr, rfl, hfr⟩ := ha.lit
  simp only [List.map_cons, List.map_nil, List.cons.injEq, and_true] at hfr
  conv => arg 2; whnf
  simp only [List.range, List.range.loop, List.map_cons, List.map_nil, hfr]
  clear hfr ha
  have hsl := fun (v : World) => Sl.run_from (P := Tryd.prog) (t := 24) Tryd.underlying24 (size := 1) size_by ad n cap N hN hn v
  generalize Sl.adOf ad cap N 1 = ad2 at hsl hQ
  generalize n - N = n2 at hsl hQ
  generalize cap - N = c2' at hsl hQ
  go_wp2_with fail
  exact hQ.out _ (Fr.Is.mk rfl (by simp))

set_option maxRecDepth 100000 in
set_option maxHeartbeats 4000000 in
theorem al_r16 {Q : Exit → Act → World → Prop} {n cap oc gb xb N : Nat} {ad oa : Option Addr} {most : Int} {W0 : World} {S0 : Th} {rest : List Th} {its : List ItX} {x : ItX} (a : Act) (w : World) (HS : Hid (Sts W0 w (S0 :: (blk oa, RowQ EIt oa oc its) :: rest))) (hg : w.heap[gb]? = some (.cells (frC x.1.f x.2.1 x.2.2) 40 (0, 0))) (hx : w.heap[xb]? = some (.cells (faC x.1.x) 37 (0, 0))) (hlen : its.length ≤ 100000000)
    (ha : Fr.Is 73 [(0, .slice ad n cap), (1, .int .i64 most), (10, .slice oa its.length oc), (11, .pointer (some ⟨gb, 0, none⟩)), (12, .int .i64 N), (13, .pointer (some ⟨xb, 0, none⟩))] a)
    (hQ : Hid (∀ a' w' oa' oc', Fr.Is 73 [(0, .slice ad n cap), (1, .int .i64 most), (10, .slice oa' (its.length + 1) oc'), (12, .int .i64 N)] a' → Sts W0 w' (S0 :: (blk oa', RowQ EIt oa' oc' (its ++ [x])) :: rest) → Q .normal a' w')) :
    (Fr.reg Tryd.f12 16).wp Tryd.prog Q a w := by
  obtain ⟨fr, rfl, hfr⟩ := ha.lit
  simp only [List.map_cons, List.map_nil, List.cons.injEq, and_true] at hfr
  conv => arg 2; whnf
  simp only [List.range, List.range.loop, List.map_cons, List.map_nil, hfr]
  clear hfr ha
  obtain ⟨i0, hi0, hz0, hz1, hz2⟩ := info_parts info_it
  have HI := Lib.hid hi0
  have HZ0 := Lib.hid hz0
  have HZ1 := Lib.hid hz1
  have HZ2 := Lib.hid hz2
  clear hi0 hz0 hz1 hz2
  obtain ⟨c0, c1, c2, c3, c4, c5, c6, c7, c8, c9, c10, c11⟩ := fr_cells hg
  obtain ⟨d0, d1, d2⟩ := fa_cells hx
  have b1 := bel_al w (.cells (itC x.1.f x.2.1 x.2.2 x.1.x) 42)
  have HS1 := Lib.hid (HS.out.below b1)
  have HNew := Lib.hid (it_new w x)
  have HRa : Hid (Rw.QRow EIt (w.alloc (.cells (itC x.1.f x.2.1 x.2.2 x.1.x) 42)) oa oc its) := Lib.hid (HS1.out.is 1 rfl)
  have HL : Hid (its.length + 1 ≤ maxLen ∧ (its.length + 1) * 144 ≤ 140737488355328) := Lib.hid ⟨by unfold maxLen; omega, by omega⟩
  have HEnd : Hid (∀ ad' cap' W4, Rw.QRow EIt W4 ad' cap' (its ++ [x]) → (w.alloc (.cells (itC x.1.f x.2.1 x.2.2 x.1.x) 42)).grownBy W4 (oa.map (·.block)) → (∀ b o s, ad' = some ⟨b, o, s⟩ → (∃ o', oa = some ⟨b, o', none⟩) ∨ (w.alloc (.cells (itC x.1.f x.2.1 x.2.2 x.1.x) 42)).heap.size ≤ b) →
      Sts W0 W4 (S0 :: (blk ad', RowQ EIt ad' cap' (its ++ [x])) :: rest)) := Lib.hid (by
    intro ad' cap' W4 hq hg hn
    have h4 := stsApp HS1.out 1 rfl hg hq hn
    simpa only [List.set] using h4)
  clear HS HS1 b1 hg hx
  unfold itC at HNew HRa HEnd
  obtain ⟨⟨f, xx⟩, sa, sc⟩ := x
  simp only at *
  generalize hn : its.length = m at *
  have HN := Lib.hid hn
  clear hn hlen
  go_wp2_with (at_builtin; refine wl_que EIt Tryd.underlying29 HI.out HZ0.out HZ1.out HZ2.out rfl rfl (.tmp 61) (.tmp 65) rfl oa m oc its rfl HN.out.symm HRa.out ⟨w.heap.size, 0, none⟩ 1 [(⟨f, xx⟩, sa, sc)] 1 rfl rfl HNew.out HL.out.1 HL.out.2 ?_; intro oa2 oc2 W4 hq4 hg4 hb4; have hE4 := HEnd.out _ _ _ hq4.out hg4.out hb4.out)
  exact hQ.out _ W4 oa2 oc2 (Fr.Is.mk rfl rfl) hE4
end Go.Proofs.YtglhdlkmgmbgeaaDoor

namespace Go.Proofs.YtglhdlkmgmbgeaaDoor
open Go.RowKit
open Cho Fra Oct Arg Mem Gen Wr Qu Pt Sx Go.Proofs.YtglhdlkmgmbgeaaDoor.Obj
set_option linter.unusedVariables false
set_option linter.unusedSimpArgs false

/-- What All leaves. -/
def AllEnd (w : World) (R : List ItM × List UInt8 × Bool) (e : Ending) (w' : World) : Prop :=
  ∃ (its : List ItX) (oa : Option Addr) (oc : Nat), e = .returned (.tuple #[.slice oa its.length oc, .int .i64 (R.2.1.length : Nat), .bool R.2.2]) ∧ its.map (·.1) = R.1 ∧ Sts w w' [(sBs its, SetsP its), (blk oa, RowQ EIt oa oc its)]
theorem al_ret {R : Ending → World → Prop} {oa : Option Addr} {k oc : Nat} {n : Int} {b : Bool} {a : Act} {w' : World} (ha : Fr.Is 73 [(6, .slice oa k oc), (7, .int .i64 n), (8, .bool b)] a) (hR : R (.returned (.tuple #[.slice oa k oc, .int .i64 n, .bool b])) w') :
    bodyPost Tryd.prog Tryd.f12 R .ret a w' := by
  obtain ⟨fr, rfl, hfr⟩ := ha.lit
  simp only [List.map_cons, List.map_nil, List.cons.injEq, and_true] at hfr
  obtain ⟨h6, h7, h8⟩ := hfr
  refine bodyPost_ret (v := .tuple #[.slice oa k oc, .int .i64 n, .bool b]) ?_ rfl hR
  simp [results, Tryd.results12, go_sem, h6, h7, h8]
theorem sts_nil2 (w : World) : Sts w w [(sBs [], SetsP []), (blk none, RowQ EIt none 0 [])] :=
  ((Sts.nil w).add (F := blk none) (P := RowQ EIt none 0 []) (Below.refl _ _) (fun k hk => by cases hk) RowQ.st (Rw.QRow.bare _ _)).add (F := sBs []) (P := SetsP []) (Below.refl _ _) (fun k hk => by cases hk) sets_stab (fun x hx => by cases hx)
theorem it_newQ (w : World) (x : ItX) : Rw.QRow EIt (w.alloc (.cells (itC x.1.f x.2.1 x.2.2 x.1.x) 42)) (some ⟨w.heap.size, 0, none⟩) 1 [x] := by
  have hh := heap_alloc_new w (.cells (itC x.1.f x.2.1 x.2.2 x.1.x) 42)
  refine ⟨Nat.le_refl _, by unfold maxLen; omega, (fun e => by cases e), fun a e => ?_⟩
  simp only [Option.some.injEq] at e
  subst e
  refine ⟨_, _, rfl, (Array.getElem?_eq_some_iff.1 hh).1, fun i hi r u hu => ?_, fun j hj => ⟨?_, frozen_of_row _ _ _ _ _ hh⟩⟩
  · have h0 : i = 0 := by simp at hi; omega
    subst h0
    rw [cell_at hh]
    simpa [EIt] using hu
  · have hj' : j < 15 := by simpa [EIt] using hj
    rw [Nat.zero_add, cell_at hh j, Array.getElem?_eq_getElem (by simp [itC]; exact hj')]; rfl

set_option maxHeartbeats 1000000 in
/-- The loop over frames. -/
theorem al_loop {w0 w : World} {b0 : List UInt8} {ad : Option Addr} {cap : Nat} {most : Int} (a : Act) (hB : Below w0.heap.size w0 w) (hr : RB w0 ad b0) (hc : b0.length ≤ cap) (hm : cap ≤ maxLen) (hN : b0.length ≤ 99999999)
    (ha : Fr.Is 73 [(0, .slice ad b0.length cap), (1, .int .i64 most)] a) :
    (Fr.tail Tryd.f12 3).wp Tryd.prog (bodyPost Tryd.prog Tryd.f12 (AllEnd w0 (steps b0 most))) a w := by
  conv => arg 2; whnf
  refine wp_seq ?_
  refine al_r12 a w ha (Lib.hid (fun a1 g1 => ?_))
  have S0 := (sts_nil2 w0)
  have S1 : Sts w0 w [(sBs [], SetsP []), (blk none, RowQ EIt none 0 [])] :=
    ((Sts.of_below hB).add (F := blk none) (P := RowQ EIt none 0 []) (Below.refl _ _) (fun k hk => by cases hk) RowQ.st (Rw.QRow.bare _ _)).add (F := sBs []) (P := SetsP []) (Below.refl _ _) (fun k hk => by cases hk) sets_stab (fun x hx => by cases hx)
  refine wp_block ?_
  refine wp_loop_ghost (fun k a' w' => ∃ (its : List ItX) (oa : Option Addr) (oc : Nat) (r : List UInt8) (ad' : Option Addr) (cap' : Nat), k = r.length ∧ steps b0 most = (its.map (·.1) ++ (steps r most).1, (steps r most).2) ∧ its.length + r.length ≤ b0.length ∧ RB w0 ad' r ∧ r.length ≤ cap' ∧ cap' ≤ maxLen ∧
      Sts w0 w' [(sBs its, SetsP its), (blk oa, RowQ EIt oa oc its)] ∧ Fr.Is 73 [(0, .slice ad' r.length cap'), (1, .int .i64 most), (10, .slice oa its.length oc)] a') b0.length
    ⟨[], none, 0, b0, ad, cap, rfl, rfl, by simp, hr, hc, hm, S1, g1⟩ ?_
  rintro k a2 w2 ⟨its, oa, oc, r, ad', cap', rfl, hst, hlen, hr', hc', hm', S2, g2⟩
  refine wp_block ?_
  refine wp_seq ?_
  refine al_r13 (N := (takeF r most).2.1) (f := (takeF r most).1) (x := (takeF r most).2.2) (k := its.length) (oc := oc) (oa := oa) (n := r.length) (cap := cap') (ad := ad') (most := most) a2 w2 (Lib.hid (rtake06_new r ad' cap' most w2 (hr'.below S2.bel) hc' hm')) g2 (Lib.hid (fun a3 w3 gb xb sa sc g3 hgb hxb ok3 b3 nw3 => ?_))
  have S3 := S2.add (F := sB (⟨(takeF r most).1, (takeF r most).2.2⟩, sa, sc)) (P := fun v => FrOk (takeF r most).1 sa sc v) b3 (fun k hk => by
    simp only [sB] at hk
    split at hk
    · cases hk
    · rename_i hne
      obtain ⟨o, s', e⟩ := mem_blk hk
      exact ⟨nw3 k o s' e, sa_lt ok3 hne e⟩) (ok_stab (x := (⟨(takeF r most).1, (takeF r most).2.2⟩, sa, sc))) ok3
  have S4 := stsJoin S3 0 (F := sBs its) (P := SetsP its) rfl
  have S5 : Sts w0 w3 [(sBs (its ++ [(⟨(takeF r most).1, (takeF r most).2.2⟩, sa, sc)]), SetsP (its ++ [(⟨(takeF r most).1, (takeF r most).2.2⟩, sa, sc)])), (blk oa, RowQ EIt oa oc its)] := by
    rw [sBs_app, setsP_app]
    simpa only [List.set] using S4
  have bA := bel_al w3 (.cells (frC (takeF r most).1 sa sc) 40)
  have bX := bel_al (w3.alloc (.cells (frC (takeF r most).1 sa sc) 40)) (.cells (faC (takeF r most).2.2) 37)
  have S6 := S5.below (below_step bA bX)
  have hg : ((w3.alloc (.cells (frC (takeF r most).1 sa sc) 40)).alloc (.cells (faC (takeF r most).2.2) 37)).heap[gb]? = some (.cells (frC (takeF r most).1 sa sc) 40 (0, 0)) := by rw [hgb]; exact alloc_at (heap_alloc_new _ _)
  have hx : ((w3.alloc (.cells (frC (takeF r most).1 sa sc) 40)).alloc (.cells (faC (takeF r most).2.2) 37)).heap[xb]? = some (.cells (faC (takeF r most).2.2) 37 (0, 0)) := by rw [hxb]; exact alloc_two _ _ _
  generalize (w3.alloc (.cells (frC (takeF r most).1 sa sc) 40)).alloc (.cells (faC (takeF r most).2.2) 37) = w6 at S6 hg hx ⊢
  clear S3 S4 S5 bA bX hgb hxb ok3 b3 nw3
  have hle := take_le r most
  refine wp_seq (wp_seq ?_)
  refine al_r14 (gb := gb) (xb := xb) (k := its.length) (oc := oc) (oa := oa) (n := r.length) (cap := cap') (ad := ad') (most := most) a3 w6 hx g3 (Lib.hid (fun a4 g4 => ?_))
  by_cases hno : (takeF r most).2.1 = 0 ∧ (takeF r most).2.2.is = false
  · refine wp_cond_true (g4.get (i := 57) (v := .bool true) (by simp [hno.1, hno.2])) ?_
    refine wp_seq ?_
    refine al_r15 (gb := gb) (xb := xb) (k := its.length) (oc := oc) (oa := oa) (n := r.length) (cap := cap') (ad := ad') (most := most) (N := (takeF r most).2.1) a4 w6 (g4.less (by simp)) (Lib.hid (fun a5 g5 => ?_))
    refine wp_ret ?_
    try dsimp only [Exit.then, Exit.inBlock]
    have e1 : steps r most = ([], r, false) := by rw [steps_eq, if_pos hno]
    rw [hst, e1]
    refine al_ret g5 ⟨its, oa, oc, rfl, by simp, ?_⟩
    have h7 := stsLess S6 0 (F' := sBs its) (Q := SetsP its) rfl (fun k hk => by rw [sBs_app]; exact List.mem_append_left _ hk) (fun y hy => (show SetsP _ _ from S6.is 0 rfl) y (List.mem_append_left _ hy)) sets_stab
    simpa only [List.set] using h7
  · refine wp_cond_false (g4.get (i := 57) (v := .bool false) (by
      cases hi : (takeF r most).2.2.is with
      | true => simp
      | false =>
        have : ¬ (takeF r most).2.1 = 0 := fun e => hno ⟨e, hi⟩
        simp [this])) ?_
    refine wp_skip ?_
    refine wp_seq ?_
    refine al_r16 (x := (⟨(takeF r most).1, (takeF r most).2.2⟩, sa, sc)) (its := its) (gb := gb) (xb := xb) (N := (takeF r most).2.1) (n := r.length) (cap := cap') (ad := ad') (most := most) (oc := oc) (oa := oa) a4 w6 (Lib.hid S6) hg hx (by omega) (g4.less (by simp)) (Lib.hid (fun a5 w7 oa' oc' g5 S7 => ?_))
    refine wp_seq (wp_seq ?_)
    refine al_r17 (k := its.length + 1) (oc := oc') (oa := oa') (N := (takeF r most).2.1) (n := r.length) (cap := cap') (ad := ad') (most := most) a5 w7 (by have h := g5; simpa using h) (Lib.hid (fun a6 g6 => ?_))
    by_cases h0 : (takeF r most).2.1 = 0
    · refine wp_cond_true (g6.get (i := 68) (v := .bool true) (by simp [h0])) ?_
      refine wp_seq ?_
      refine al_r18 (k := its.length + 1) (oc := oc') (oa := oa') (n := r.length) (cap := cap') (ad := ad') (most := most) a6 w7 (g6.less (by simp)) (Lib.hid (fun a7 g7 => ?_))
      refine wp_ret ?_
      try dsimp only [Exit.then, Exit.inBlock]
      have e1 : steps r most = ([⟨(takeF r most).1, (takeF r most).2.2⟩], [], true) := by rw [steps_eq, if_neg hno, if_pos h0]
      rw [hst, e1]
      exact al_ret g7 ⟨its ++ [(⟨(takeF r most).1, (takeF r most).2.2⟩, sa, sc)], oa', oc', by simp, by simp, S7⟩
    · refine wp_cond_false (g6.get (i := 68) (v := .bool false) (by simp [h0])) ?_
      refine wp_skip ?_
      have hn := take_n r most h0
      refine al_r19 (k := its.length + 1) (oc := oc') (oa := oa') (N := (takeF r most).2.1) (n := r.length) (cap := cap') (ad := ad') (most := most) a6 w7 hn.2 hc' (g6.less (by simp)) (Lib.hid (fun a7 g7 => ?_))
      have e1 : steps r most = (⟨(takeF r most).1, (takeF r most).2.2⟩ :: (steps (r.drop (takeF r most).2.1) most).1, (steps (r.drop (takeF r most).2.1) most).2) := by
        conv => lhs; rw [steps_eq, if_neg hno, if_neg h0]
      have hd : (r.drop (takeF r most).2.1).length = r.length - (takeF r most).2.1 := List.length_drop
      refine ⟨r.length - (takeF r most).2.1, by omega, its ++ [(⟨(takeF r most).1, (takeF r most).2.2⟩, sa, sc)], oa', oc', r.drop (takeF r most).2.1, Sl.adOf ad' cap' (takeF r most).2.1 1, cap' - (takeF r most).2.1, hd.symm, ?_, by rw [hd, List.length_append]; simp; omega, Sl.rb_from hr' _ hc', by omega, by omega, S7, by rw [hd]; simpa using g7⟩
      rw [hst, e1]; simp
theorem take_snoc' {α : Type} (l : List α) (i : Nat) (h : i < l.length) : l.take (i + 1) = l.take i ++ [l[i]] := (List.take_append_getElem h).symm
theorem bad_at (b : List UInt8) (i : Nat) (hi : i < b.length) (h24 : i < 24) (h : b[i] ≠ prefL.getD i 0) : b.take 24 ≠ prefL.take b.length := fun e => by
  have h1 := congrArg (fun q => q[i]?) e
  simp only [List.getElem?_take] at h1
  rw [if_pos h24, if_pos hi, List.getElem?_eq_getElem hi] at h1
  refine h ?_
  rw [List.getD_eq_getElem?_getD, ← h1]; rfl
theorem pref_step (b : List UInt8) (i : Nat) (hi : i < b.length) (h24 : i < 24) (h : b[i] = prefL.getD i 0) (ht : b.take i = prefL.take i) : b.take (i + 1) = prefL.take (i + 1) := by
  have hp : i < prefL.length := by rw [pref_len]; exact h24
  rw [take_snoc' b i hi, take_snoc' prefL i hp, ht, h, List.getD_eq_getElem?_getD, List.getElem?_eq_getElem hp]; rfl
theorem pref_all (b : List UInt8) (m : Nat) (hm : m = min b.length 24) (ht : b.take m = prefL.take m) : ¬ b.take 24 ≠ prefL.take b.length := by
  have := mism_iff b m hm
  rw [ht] at this
  intro h
  rw [decide_eq_true h] at this
  simp at this

set_option maxHeartbeats 2000000 in
theorem rall_any (b : List UInt8) (ad : Option Addr) (cap : Nat) (most : Int) (aw : Bool) (w : World) (hr : RB w ad b) (hc : b.length ≤ cap) (hm : cap ≤ maxLen) (hN : b.length ≤ 99999999) :
    Calls Tryd.prog 12 #[.slice ad b.length cap, .int .i64 most, .bool aw] w (AllEnd w (allF b (max most 0) aw)) := by
  go_enter Tryd.func12, Tryd.ntmps12
  refine wp_seq ?_
  refine al_r0 (n := b.length) (cap := cap) (ad := ad) (most := most) (aw := aw) _ w (Fr.Is.mk rfl rfl) (Lib.hid (fun a1 g1 => ?_))
  refine wp_seq (wp_seq ?_)
  refine al_r1 a1 w g1 (Lib.hid (fun a2 g2 => ?_))
  have main : ∀ a3, Fr.Is 73 [(0, .slice ad b.length cap), (1, .int .i64 (max most 0)), (2, .bool aw)] a3 → (Fr.tail Tryd.f12 2).wp Tryd.prog (bodyPost Tryd.prog Tryd.f12 (AllEnd w (allF b (max most 0) aw))) a3 w := fun a3 g3 => by
    conv => arg 2; whnf
    refine wp_seq (wp_seq ?_)
    refine al_r3 a3 w g3 (Lib.hid (fun a4 g4 => ?_))
    cases aw with
    | false =>
      refine wp_cond_false (g4.get (i := 16) (v := .bool false) (by simp)) ?_
      refine wp_skip ?_
      exact al_loop (b0 := b) a4 (Below.refl _ _) hr hc hm hN (g4.less (by simp))
    | true =>
      refine wp_cond_true (g4.get (i := 16) (v := .bool true) (by simp)) ?_
      refine wp_seq (wp_seq ?_)
      refine al_r4 (n := b.length) (cap := cap) (ad := ad) (most := max most 0) a4 w (g4.less (by simp)) (Lib.hid (fun a5 g5 => ?_))
      refine wp_block ?_
      refine wp_loop_ghost (fun k a' w' => ∃ i, k = 24 - i ∧ i ≤ b.length ∧ i ≤ 24 ∧ b.take i = prefL.take i ∧ Below w.heap.size w w' ∧ Fr.Is 73 [(0, .slice ad b.length cap), (1, .int .i64 (max most 0)), (9, .int .i64 i)] a') (24 - 0)
        ⟨0, rfl, Nat.zero_le _, Nat.zero_le _, by simp, Below.refl _ _, g5⟩ ?_
      rintro k a6 w6 ⟨i, rfl, hi, hi24, ht, b6, g6⟩
      refine wp_seq (wp_seq ?_)
      refine al_r5 a6 w6 g6 (Lib.hid (fun a7 g7 => ?_))
      by_cases hlt : i < b.length ∧ i < 24
      · refine wp_cond_true (g7.get (i := 24) (v := .bool true) (by simp [hlt.1, hlt.2])) ?_
        refine wp_skip ?_
        refine wp_seq (wp_block ?_)
        obtain ⟨p1, o1, rfl, hc1⟩ : ∃ b' off, ad = some ⟨b', off, none⟩ ∧ ∀ i, (h : i < b.length) → w.cell? ⟨b', off + i, none⟩ = some (.int .u8 (b[i].toNat : Int)) := by
          rcases hr with h | h
          · have := hlt.1; rw [h] at this; simp at this
          · exact h
        refine wp_seq ?_
        refine al_r7 (n := b.length) (cap := cap) (most := max most 0) (c := b[i]) a7 w6 (below_cell b6 (hc1 i hlt.1)) hlt.1 hlt.2 (g7.less (by simp)) (Lib.hid (fun a8 nq g8 => ?_))
        have b8 := below_step b6 (bel_drewN w6 nq)
        by_cases hne : b[i] ≠ prefL.getD i 0
        · rw [decide_eq_true hne] at g8
          refine wp_cond_true (g8.get (i := 33) (v := .bool true) (by simp)) ?_
          refine wp_seq ?_
          refine al_r8 (n := b.length) (cap := cap) (ad := some ⟨p1, o1, none⟩) (most := max most 0) a8 _ (g8.less (by simp)) (Lib.hid (fun a9 g9 => ?_))
          refine wp_ret ?_
          try dsimp only [Exit.then, Exit.inBlock]
          rw [all_bad _ _ (bad_at b i hlt.1 hlt.2 hne)]
          generalize w6.drewN nq = w8 at b8 g9 ⊢
          refine al_ret g9 ⟨[(⟨noFr, ofC 1⟩, none, 0)], some ⟨w8.heap.size, 0, none⟩, 1, rfl, rfl, ?_⟩
          have q := it_newQ w8 (⟨noFr, ofC 1⟩, none, 0)
          have A := (Sts.of_below b8).add (F := blk (some ⟨w8.heap.size, 0, none⟩)) (P := RowQ EIt (some ⟨w8.heap.size, 0, none⟩) 1 [(⟨noFr, ofC 1⟩, none, 0)]) (bel_al w8 (.cells (itC noFr none 0 (ofC 1)) 42)) (fun k hk => by
            simp only [blk, List.mem_singleton] at hk; subst hk; simp) RowQ.st q
          exact A.add (F := sBs [(⟨noFr, ofC 1⟩, none, 0)]) (P := SetsP [(⟨noFr, ofC 1⟩, none, 0)]) (Below.refl _ _) (fun k hk => by simp [sBs, sB, noFr] at hk) sets_stab (fun x hx => by
            simp only [List.mem_singleton] at hx; subst hx; exact frok_noX _)
        · have heq : b[i] = prefL.getD i 0 := Classical.byContradiction hne
          rw [decide_eq_false hne] at g8
          refine wp_cond_false (g8.get (i := 33) (v := .bool false) (by simp)) ?_
          refine wp_skip ?_
          refine al_r6 (n := b.length) (cap := cap) (ad := some ⟨p1, o1, none⟩) (most := max most 0) (i := i) a8 _ (by omega) (g8.less (by simp)) (Lib.hid (fun a9 g9 => ?_))
          exact ⟨24 - (i + 1), by omega, i + 1, rfl, by omega, by omega, pref_step b i hlt.1 hlt.2 heq ht, b8, g9⟩
      · refine wp_cond_false (g7.get (i := 24) (v := .bool false) (by
          by_cases h1 : i < b.length
          · have : ¬ i < 24 := fun h2 => hlt ⟨h1, h2⟩
            simp [this]
          · simp [h1])) ?_
        refine wp_exit ?_
        have hmin : i = min b.length 24 := by omega
        have hp := pref_all b i hmin ht
        try dsimp only [Exit.then, Exit.inBlock]
        refine wp_seq (wp_seq ?_)
        refine al_r9 (n := b.length) (cap := cap) (ad := ad) (most := max most 0) a7 w6 (g7.less (by simp)) (Lib.hid (fun a8 g8 => ?_))
        by_cases hl : b.length < 24
        · refine wp_cond_true (g8.get (i := 39) (v := .bool true) (by simp [hl])) ?_
          refine wp_seq ?_
          refine al_r10 (n := b.length) (cap := cap) (ad := ad) (most := max most 0) a8 w6 (g8.less (by simp)) (Lib.hid (fun a9 g9 => ?_))
          refine wp_ret ?_
          try dsimp only [Exit.then, Exit.inBlock]
          rw [all_short _ _ hp hl]
          refine al_ret g9 ⟨[], none, 0, rfl, rfl, ?_⟩
          exact ((Sts.of_below b6).add (F := blk none) (P := RowQ EIt none 0 []) (Below.refl _ _) (fun k hk => by cases hk) RowQ.st (Rw.QRow.bare _ _)).add (F := sBs []) (P := SetsP []) (Below.refl _ _) (fun k hk => by cases hk) sets_stab (fun x hx => by cases hx)
        · refine wp_cond_false (g8.get (i := 39) (v := .bool false) (by simp [hl])) ?_
          refine wp_skip ?_
          refine al_r11 (n := b.length) (cap := cap) (ad := ad) (most := max most 0) a8 w6 (by omega) hc (g8.less (by simp)) (Lib.hid (fun a9 g9 => ?_))
          rw [all_yes _ _ hp hl]
          have hd : (b.drop 24).length = b.length - 24 := List.length_drop
          exact al_loop (b0 := b.drop 24) (ad := Sl.adOf ad cap 24 1) (cap := cap - 24) (most := max most 0) a9 b6 (Sl.rb_from hr 24 hc) (by rw [hd]; omega) (by omega) (by rw [hd]; omega) (by rw [hd]; exact g9)
  by_cases h0 : most < 0
  · refine wp_cond_true (g2.get (i := 15) (v := .bool true) (by simp [h0])) ?_
    refine al_r2 (n := b.length) (cap := cap) (ad := ad) (most := most) (aw := aw) a2 w (g2.less (by simp)) (Lib.hid (fun a3 g3 => ?_))
    have e : max most 0 = 0 := by omega
    exact main a3 (by rw [e]; exact g3)
  · refine wp_cond_false (g2.get (i := 15) (v := .bool false) (by simp [h0])) ?_
    refine wp_skip ?_
    have e : max most 0 = most := by omega
    exact main a2 (by rw [e]; exact g2.less (by simp))
end Go.Proofs.YtglhdlkmgmbgeaaDoor
