/- Layer 6: the document's fields, region by region. Layer 6: the document's fields, statement by statement. Layer 6: the document's fields, whole. -/
import Derived.Test.YtglhdlkmgmbgeaaDoorGD01
import Derived.Test.YtglhdlkmgmbgeaaDoorGP04
import Derived.Test.YtglhdlkmgmbgeaaDoorGP07
import Derived.Deep.LoopGhost
set_option linter.unusedVariables false
set_option linter.unusedSimpArgs false
namespace Go.Proofs.YtglhdlkmgmbgeaaDoor
open Go.RowKit
open Fra Oct Arg Mem Gen Go.Proofs.YtglhdlkmgmbgeaaDoor.Obj
set_option linter.unusedVariables false
set_option linter.unusedSimpArgs false


set_option maxRecDepth 100000 in
set_option maxHeartbeats 1000000 in
theorem fld_r0 {Q : Exit → Act → World → Prop} {cs : Array Value} {n pc : Nat} {pa : Option Addr} (a : Act) (w : World) 
    (ha : Fr.Is 109 [(0, .agg cs), (1, .slice pa n pc)] a)
    (hQ : Hid (∀ a', Fr.Is 109 [(1, .slice pa n pc), (2, .pointer (some ⟨w.heap.size, 0, none⟩)), (4, .pointer (some ⟨w.heap.size + 1, 0, none⟩))] a' → Q .normal a' ((w.alloc (.cells cs 40)).alloc (.cells #[.int .i64 0, .int .i64 0, .int .i64 0, .string ⟨#[]⟩, .int .i64 0, .slice none 0 0, .int .i64 0, .int .i64 0, .int .i64 0, .int .i64 0, .int .i64 0, .bool false] 40)))) :
    (Fr.reg Tryd.f27 0).wp Tryd.prog Q a w := by
  obtain ⟨fr, rfl, hfr⟩ := ha.lit
  simp only [List.map_cons, List.map_nil, List.cons.injEq, and_true] at hfr
  conv => arg 2; whnf
  simp only [List.range, List.range.loop, List.map_cons, List.map_nil, hfr]
  clear hfr ha
  go_wp2_with fail
  exact hQ.out _ (Fr.Is.mk rfl (by simp))


set_option maxRecDepth 100000 in
set_option maxHeartbeats 1000000 in
theorem fld_r1 {Q : Exit → Act → World → Prop} {bx rv n pc : Nat} {pa : Option Addr} {f : FrM} {sa : Option Addr} {sc : Nat} (a : Act) (w : World) (V : Fb bx f sa sc w) (f0 : 0 ≤ f.flags) (f1 : f.flags ≤ 255)
    (ha : Fr.Is 109 [(1, .slice pa n pc), (2, .pointer (some ⟨bx, 0, none⟩)), (4, .pointer (some ⟨rv, 0, none⟩))] a)
    (hQ : Hid (∀ w' a', Fr.Is 109 [(1, .slice pa n pc), (2, .pointer (some ⟨bx, 0, none⟩)), (4, .pointer (some ⟨rv, 0, none⟩)), (12, .bool (decide (f.type ≤ 1) && hasF f.flags 8))] a' → Below w.heap.size w w' → Q .normal a' w')) :
    (Fr.reg Tryd.f27 1).wp Tryd.prog Q a w := by
  obtain ⟨fr, rfl, hfr⟩ := ha.lit
  simp only [List.map_cons, List.map_nil, List.cons.injEq, and_true] at hfr
  conv => arg 2; whnf
  simp only [List.range, List.range.loop, List.map_cons, List.map_nil, hfr]
  clear hfr ha
  have HH := Lib.hid (fun v => rHas_any f sa sc 8 v f0 f1 (by decide) (by decide))
  unfold frV frC at HH
  obtain ⟨c0, c1, c2, c3, c4, c5, c6, c7, c8, c9, c10, c11⟩ := fr_cells V
  clear V
  generalize hasF f.flags 8 = b at HH hQ
  by_cases ht : f.type ≤ 1
  · rw [decide_eq_true ht, Bool.true_and] at hQ
    go_wp2_with fail
    refine (HH.out _).mono ?_; rintro e w1 ⟨rfl, b1⟩
    have HB1 := Lib.hid b1
    clear b1 c0 c1 c2 c3 c4 c5 c6 c7 c8 c9 c10 c11 HH
    go_wp2_with fail
    exact hQ.out _ _ (Fr.Is.mk rfl rfl) HB1.out
  · rw [decide_eq_false ht, Bool.false_and] at hQ
    have ht' : ¬ f.type ≤ 1 := ht
    go_wp2_with fail
    exact hQ.out _ _ (Fr.Is.mk rfl rfl) (Below.refl _ _)


set_option maxRecDepth 100000 in
set_option maxHeartbeats 1000000 in
theorem fld_r4 {Q : Exit → Act → World → Prop} {bx rv n pc : Nat} {pa : Option Addr} {f : FrM} {sa : Option Addr} {sc : Nat} (a : Act) (w : World) (V : Fb bx f sa sc w) (f0 : 0 ≤ f.flags) (f1 : f.flags ≤ 255)
    (ha : Fr.Is 109 [(1, .slice pa n pc), (2, .pointer (some ⟨bx, 0, none⟩)), (4, .pointer (some ⟨rv, 0, none⟩))] a)
    (hQ : Hid (∀ w' a', Fr.Is 109 [(1, .slice pa n pc), (2, .pointer (some ⟨bx, 0, none⟩)), (4, .pointer (some ⟨rv, 0, none⟩)), (31, .bool (decide (f.type = 2) || (decide (f.type = 1) && hasF f.flags 32)))] a' → Below w.heap.size w w' → Q .normal a' w')) :
    (Fr.reg Tryd.f27 4).wp Tryd.prog Q a w := by
  obtain ⟨fr, rfl, hfr⟩ := ha.lit
  simp only [List.map_cons, List.map_nil, List.cons.injEq, and_true] at hfr
  conv => arg 2; whnf
  simp only [List.range, List.range.loop, List.map_cons, List.map_nil, hfr]
  clear hfr ha
  have HH := Lib.hid (fun v => rHas_any f sa sc 32 v f0 f1 (by decide) (by decide))
  unfold frV frC at HH
  obtain ⟨c0, c1, c2, c3, c4, c5, c6, c7, c8, c9, c10, c11⟩ := fr_cells V
  clear V
  generalize hasF f.flags 32 = b at HH hQ
  generalize f.type = t at *
  by_cases h2 : t = 2
  · subst t
    go_wp2_with fail
    exact hQ.out _ _ (Fr.Is.mk rfl rfl) (Below.refl _ _)
  · have k2 : (t == 2) = false := by simp [h2]
    by_cases h1 : t = 1
    · subst t
      go_wp2_with fail
      refine (HH.out _).mono ?_; rintro e w1 ⟨rfl, b1⟩
      have HB1 := Lib.hid b1
      clear b1 c0 c1 c2 c3 c4 c5 c6 c7 c8 c9 c10 c11 HH
      go_wp2_with fail
      exact hQ.out _ _ (Fr.Is.mk rfl (by simp)) HB1.out
    · have k1 : (t == 1) = false := by simp [h1]
      go_wp2_with fail
      exact hQ.out _ _ (Fr.Is.mk rfl (by simp [h1, h2])) (Below.refl _ _)


set_option maxRecDepth 100000 in
set_option maxHeartbeats 1000000 in
theorem fld_r3 {Q : Exit → Act → World → Prop} {bx rv pc : Nat} {pa : Option Addr} {p : List UInt8} (a : Act) (w : World) (hk : 1 ≤ p.length) (hc : p.length ≤ pc)
    (ha : Fr.Is 109 [(1, .slice pa p.length pc), (2, .pointer (some ⟨bx, 0, none⟩)), (4, .pointer (some ⟨rv, 0, none⟩))] a)
    (hQ : Hid (∀ a', Fr.Is 109 [(1, .slice (Sl.adOf pa pc 1 1) (p.drop 1).length (pc - 1)), (2, .pointer (some ⟨bx, 0, none⟩)), (4, .pointer (some ⟨rv, 0, none⟩))] a' → Q .normal a' w)) :
    (Fr.reg Tryd.f27 3).wp Tryd.prog Q a w := by
  obtain ⟨fr, rfl, hfr⟩ := ha.lit
  simp only [List.map_cons, List.map_nil, List.cons.injEq, and_true] at hfr
  conv => arg 2; whnf
  simp only [List.range, List.range.loop, List.map_cons, List.map_nil, hfr]
  clear hfr ha
  have hsl : ∀ v, (Instr.slice 24 (.slice pa p.length pc) (some (.int .i64 1)) none none).run Tryd.prog v = .ok (.slice (Sl.adOf pa pc 1 1) (p.length - 1) (pc - 1)) v := fun (v : World) => Sl.run_from (P := Tryd.prog) (t := 24) Tryd.underlying24 (size := 1) size_by pa p.length pc 1 hk hc v
  have hd : (p.drop 1).length = p.length - 1 := List.length_drop
  rw [hd] at hQ
  generalize p.length = n at *
  clear hd
  go_wp2_with fail
  all_goals first | exact hQ.out _ (Fr.Is.mk rfl rfl) | omega


set_option maxRecDepth 100000 in
set_option maxHeartbeats 1000000 in
theorem fld_r8 {Q : Exit → Act → World → Prop} {bx rv pc : Nat} {pa : Option Addr} {p : List UInt8} (a : Act) (w : World) (hk : 5 ≤ p.length) (hc : p.length ≤ pc)
    (ha : Fr.Is 109 [(1, .slice pa p.length pc), (2, .pointer (some ⟨bx, 0, none⟩)), (4, .pointer (some ⟨rv, 0, none⟩))] a)
    (hQ : Hid (∀ a', Fr.Is 109 [(1, .slice (Sl.adOf pa pc 5 1) (p.drop 5).length (pc - 5)), (2, .pointer (some ⟨bx, 0, none⟩)), (4, .pointer (some ⟨rv, 0, none⟩))] a' → Q .normal a' w)) :
    (Fr.reg Tryd.f27 8).wp Tryd.prog Q a w := by
  obtain ⟨fr, rfl, hfr⟩ := ha.lit
  simp only [List.map_cons, List.map_nil, List.cons.injEq, and_true] at hfr
  conv => arg 2; whnf
  simp only [List.range, List.range.loop, List.map_cons, List.map_nil, hfr]
  clear hfr ha
  have hsl : ∀ v, (Instr.slice 24 (.slice pa p.length pc) (some (.int .i64 5)) none none).run Tryd.prog v = .ok (.slice (Sl.adOf pa pc 5 1) (p.length - 5) (pc - 5)) v := fun (v : World) => Sl.run_from (P := Tryd.prog) (t := 24) Tryd.underlying24 (size := 1) size_by pa p.length pc 5 hk hc v
  have hd : (p.drop 5).length = p.length - 5 := List.length_drop
  rw [hd] at hQ
  generalize p.length = n at *
  clear hd
  go_wp2_with fail
  all_goals first | exact hQ.out _ (Fr.Is.mk rfl rfl) | omega


set_option maxRecDepth 100000 in
set_option maxHeartbeats 1000000 in
theorem fld_r12 {Q : Exit → Act → World → Prop} {bx rv pc : Nat} {pa : Option Addr} {p : List UInt8} (a : Act) (w : World) (hk : 8 ≤ p.length) (hc : p.length ≤ pc)
    (ha : Fr.Is 109 [(1, .slice pa p.length pc), (2, .pointer (some ⟨bx, 0, none⟩)), (4, .pointer (some ⟨rv, 0, none⟩))] a)
    (hQ : Hid (∀ a', Fr.Is 109 [(1, .slice (Sl.adOf pa pc 8 1) (p.drop 8).length (pc - 8)), (2, .pointer (some ⟨bx, 0, none⟩)), (4, .pointer (some ⟨rv, 0, none⟩))] a' → Q .normal a' w)) :
    (Fr.reg Tryd.f27 12).wp Tryd.prog Q a w := by
  obtain ⟨fr, rfl, hfr⟩ := ha.lit
  simp only [List.map_cons, List.map_nil, List.cons.injEq, and_true] at hfr
  conv => arg 2; whnf
  simp only [List.range, List.range.loop, List.map_cons, List.map_nil, hfr]
  clear hfr ha
  have hsl : ∀ v, (Instr.slice 24 (.slice pa p.length pc) (some (.int .i64 8)) none none).run Tryd.prog v = .ok (.slice (Sl.adOf pa pc 8 1) (p.length - 8) (pc - 8)) v := fun (v : World) => Sl.run_from (P := Tryd.prog) (t := 24) Tryd.underlying24 (size := 1) size_by pa p.length pc 8 hk hc v
  have hd : (p.drop 8).length = p.length - 8 := List.length_drop
  rw [hd] at hQ
  generalize p.length = n at *
  clear hd
  go_wp2_with fail
  all_goals first | exact hQ.out _ (Fr.Is.mk rfl rfl) | omega


set_option maxRecDepth 100000 in
set_option maxHeartbeats 1000000 in
theorem fld_r21 {Q : Exit → Act → World → Prop} {bx rv pc : Nat} {pa : Option Addr} {p : List UInt8} (a : Act) (w : World) (hk : 6 ≤ p.length) (hc : p.length ≤ pc)
    (ha : Fr.Is 109 [(1, .slice pa p.length pc), (2, .pointer (some ⟨bx, 0, none⟩)), (4, .pointer (some ⟨rv, 0, none⟩))] a)
    (hQ : Hid (∀ a', Fr.Is 109 [(1, .slice (Sl.adOf pa pc 6 1) (p.drop 6).length (pc - 6)), (2, .pointer (some ⟨bx, 0, none⟩)), (4, .pointer (some ⟨rv, 0, none⟩))] a' → Q .normal a' w)) :
    (Fr.reg Tryd.f27 21).wp Tryd.prog Q a w := by
  obtain ⟨fr, rfl, hfr⟩ := ha.lit
  simp only [List.map_cons, List.map_nil, List.cons.injEq, and_true] at hfr
  conv => arg 2; whnf
  simp only [List.range, List.range.loop, List.map_cons, List.map_nil, hfr]
  clear hfr ha
  have hsl : ∀ v, (Instr.slice 24 (.slice pa p.length pc) (some (.int .i64 6)) none none).run Tryd.prog v = .ok (.slice (Sl.adOf pa pc 6 1) (p.length - 6) (pc - 6)) v := fun (v : World) => Sl.run_from (P := Tryd.prog) (t := 24) Tryd.underlying24 (size := 1) size_by pa p.length pc 6 hk hc v
  have hd : (p.drop 6).length = p.length - 6 := List.length_drop
  rw [hd] at hQ
  generalize p.length = n at *
  clear hd
  go_wp2_with fail
  all_goals first | exact hQ.out _ (Fr.Is.mk rfl rfl) | omega


set_option maxRecDepth 100000 in
set_option maxHeartbeats 1000000 in
theorem fld_r15 {Q : Exit → Act → World → Prop} {bx rv n pc : Nat} {pa : Option Addr} (a : Act) (w : World) 
    (ha : Fr.Is 109 [(1, .slice pa n pc), (2, .pointer (some ⟨bx, 0, none⟩)), (4, .pointer (some ⟨rv, 0, none⟩))] a)
    (hQ : Hid (∀ a', Fr.Is 109 [(1, .slice none 0 0), (2, .pointer (some ⟨bx, 0, none⟩)), (4, .pointer (some ⟨rv, 0, none⟩))] a' → Q .normal a' w)) :
    (Fr.reg Tryd.f27 15).wp Tryd.prog Q a w := by
  obtain ⟨fr, rfl, hfr⟩ := ha.lit
  simp only [List.map_cons, List.map_nil, List.cons.injEq, and_true] at hfr
  conv => arg 2; whnf
  simp only [List.range, List.range.loop, List.map_cons, List.map_nil, hfr]
  clear hfr ha
  go_wp2_with fail
  exact hQ.out _ (Fr.Is.mk rfl rfl)


set_option maxRecDepth 100000 in
set_option maxHeartbeats 1000000 in
theorem fld_r18 {Q : Exit → Act → World → Prop} {bx rv n pc : Nat} {pa : Option Addr} (a : Act) (w : World) 
    (ha : Fr.Is 109 [(1, .slice pa n pc), (2, .pointer (some ⟨bx, 0, none⟩)), (4, .pointer (some ⟨rv, 0, none⟩))] a)
    (hQ : Hid (∀ a', Fr.Is 109 [(1, .slice none 0 0), (2, .pointer (some ⟨bx, 0, none⟩)), (4, .pointer (some ⟨rv, 0, none⟩))] a' → Q .normal a' w)) :
    (Fr.reg Tryd.f27 18).wp Tryd.prog Q a w := by
  obtain ⟨fr, rfl, hfr⟩ := ha.lit
  simp only [List.map_cons, List.map_nil, List.cons.injEq, and_true] at hfr
  conv => arg 2; whnf
  simp only [List.range, List.range.loop, List.map_cons, List.map_nil, hfr]
  clear hfr ha
  go_wp2_with fail
  exact hQ.out _ (Fr.Is.mk rfl rfl)


set_option maxRecDepth 100000 in
set_option maxHeartbeats 1000000 in
theorem fld_r9 {Q : Exit → Act → World → Prop} {bx rv n pc : Nat} {pa : Option Addr} {t : Int} (a : Act) (w : World) (c0 : w.cell? ⟨bx, 0, none⟩ = some (.int .i64 t))
    (ha : Fr.Is 109 [(1, .slice pa n pc), (2, .pointer (some ⟨bx, 0, none⟩)), (4, .pointer (some ⟨rv, 0, none⟩))] a)
    (hQ : Hid (∀ a', Fr.Is 109 [(1, .slice pa n pc), (2, .pointer (some ⟨bx, 0, none⟩)), (4, .pointer (some ⟨rv, 0, none⟩)), (50, .bool (decide (t = 7)))] a' → Q .normal a' w)) :
    (Fr.reg Tryd.f27 9).wp Tryd.prog Q a w := by
  obtain ⟨fr, rfl, hfr⟩ := ha.lit
  simp only [List.map_cons, List.map_nil, List.cons.injEq, and_true] at hfr
  conv => arg 2; whnf
  simp only [List.range, List.range.loop, List.map_cons, List.map_nil, hfr]
  clear hfr ha
  by_cases h : t = 7
  · subst t
    go_wp2_with fail
    exact hQ.out _ (Fr.Is.mk rfl rfl)
  · have k : (t == 7) = false := by simp [h]
    rw [decide_eq_false h] at hQ
    go_wp2_with fail
    exact hQ.out _ (Fr.Is.mk rfl (by simp [h]))


set_option maxRecDepth 100000 in
set_option maxHeartbeats 1000000 in
theorem fld_r13 {Q : Exit → Act → World → Prop} {bx rv n pc : Nat} {pa : Option Addr} {t : Int} (a : Act) (w : World) (c0 : w.cell? ⟨bx, 0, none⟩ = some (.int .i64 t))
    (ha : Fr.Is 109 [(1, .slice pa n pc), (2, .pointer (some ⟨bx, 0, none⟩)), (4, .pointer (some ⟨rv, 0, none⟩))] a)
    (hQ : Hid (∀ a', Fr.Is 109 [(1, .slice pa n pc), (2, .pointer (some ⟨bx, 0, none⟩)), (4, .pointer (some ⟨rv, 0, none⟩)), (62, .bool (decide (t = 3)))] a' → Q .normal a' w)) :
    (Fr.reg Tryd.f27 13).wp Tryd.prog Q a w := by
  obtain ⟨fr, rfl, hfr⟩ := ha.lit
  simp only [List.map_cons, List.map_nil, List.cons.injEq, and_true] at hfr
  conv => arg 2; whnf
  simp only [List.range, List.range.loop, List.map_cons, List.map_nil, hfr]
  clear hfr ha
  by_cases h : t = 3
  · subst t
    go_wp2_with fail
    exact hQ.out _ (Fr.Is.mk rfl rfl)
  · have k : (t == 3) = false := by simp [h]
    rw [decide_eq_false h] at hQ
    go_wp2_with fail
    exact hQ.out _ (Fr.Is.mk rfl (by simp [h]))


set_option maxRecDepth 100000 in
set_option maxHeartbeats 1000000 in
theorem fld_r16 {Q : Exit → Act → World → Prop} {bx rv n pc : Nat} {pa : Option Addr} {t : Int} (a : Act) (w : World) (c0 : w.cell? ⟨bx, 0, none⟩ = some (.int .i64 t))
    (ha : Fr.Is 109 [(1, .slice pa n pc), (2, .pointer (some ⟨bx, 0, none⟩)), (4, .pointer (some ⟨rv, 0, none⟩))] a)
    (hQ : Hid (∀ a', Fr.Is 109 [(1, .slice pa n pc), (2, .pointer (some ⟨bx, 0, none⟩)), (4, .pointer (some ⟨rv, 0, none⟩)), (68, .bool (decide (t = 8)))] a' → Q .normal a' w)) :
    (Fr.reg Tryd.f27 16).wp Tryd.prog Q a w := by
  obtain ⟨fr, rfl, hfr⟩ := ha.lit
  simp only [List.map_cons, List.map_nil, List.cons.injEq, and_true] at hfr
  conv => arg 2; whnf
  simp only [List.range, List.range.loop, List.map_cons, List.map_nil, hfr]
  clear hfr ha
  by_cases h : t = 8
  · subst t
    go_wp2_with fail
    exact hQ.out _ (Fr.Is.mk rfl rfl)
  · have k : (t == 8) = false := by simp [h]
    rw [decide_eq_false h] at hQ
    go_wp2_with fail
    exact hQ.out _ (Fr.Is.mk rfl (by simp [h]))


set_option maxRecDepth 100000 in
set_option maxHeartbeats 1000000 in
theorem fld_r2 {Q : Exit → Act → World → Prop} {bx rv n pc b off : Nat} {c : UInt8} {old : Value} (a : Act) (w : World) (hj : 0 < n) (x : w.cell? ⟨b, off, none⟩ = some (.int .u8 (c.toNat : Int))) (y : w.cell? ⟨bx, 4, none⟩ = some old) (z : w.frozen? ⟨bx, 4, none⟩ = false)
    (ha : Fr.Is 109 [(1, .slice (some ⟨b, off, none⟩) n pc), (2, .pointer (some ⟨bx, 0, none⟩)), (4, .pointer (some ⟨rv, 0, none⟩))] a)
    (hQ : Hid (∀ a', Fr.Is 109 [(1, .slice (some ⟨b, off, none⟩) n pc), (2, .pointer (some ⟨bx, 0, none⟩)), (4, .pointer (some ⟨rv, 0, none⟩))] a' → Q .normal a' (w.setCell ⟨bx, 4, none⟩ (.int .i64 (c.toNat : Int))))) :
    (Fr.reg Tryd.f27 2).wp Tryd.prog Q a w := by
  obtain ⟨fr, rfl, hfr⟩ := ha.lit
  simp only [List.map_cons, List.map_nil, List.cons.injEq, and_true] at hfr
  conv => arg 2; whnf
  simp only [List.range, List.range.loop, List.map_cons, List.map_nil, hfr]
  clear hfr ha
  have hcl := c.toNat_lt
  have hj' : (0 : Int) < n := by omega
  generalize c.toNat = k at *
  go_wp2_with fail
  all_goals first | exact hQ.out _ (Fr.Is.mk rfl rfl) | omega


set_option maxRecDepth 100000 in
set_option maxHeartbeats 1000000 in
theorem fld_r5 {Q : Exit → Act → World → Prop} {bx rv n pc b off : Nat} {c : UInt8} {old : Value} (a : Act) (w : World) (hj : 0 < n) (x : w.cell? ⟨b, off, none⟩ = some (.int .u8 (c.toNat : Int))) (y : w.cell? ⟨bx, 11, none⟩ = some old) (z : w.frozen? ⟨bx, 11, none⟩ = false)
    (ha : Fr.Is 109 [(1, .slice (some ⟨b, off, none⟩) n pc), (2, .pointer (some ⟨bx, 0, none⟩)), (4, .pointer (some ⟨rv, 0, none⟩))] a)
    (hQ : Hid (∀ a', Fr.Is 109 [(1, .slice (some ⟨b, off, none⟩) n pc), (2, .pointer (some ⟨bx, 0, none⟩)), (4, .pointer (some ⟨rv, 0, none⟩))] a' → Q .normal a' (w.setCell ⟨bx, 11, none⟩ (.bool (decide (128 ≤ c.toNat)))))) :
    (Fr.reg Tryd.f27 5).wp Tryd.prog Q a w := by
  obtain ⟨fr, rfl, hfr⟩ := ha.lit
  simp only [List.map_cons, List.map_nil, List.cons.injEq, and_true] at hfr
  conv => arg 2; whnf
  simp only [List.range, List.range.loop, List.map_cons, List.map_nil, hfr]
  clear hfr ha
  have hcl := c.toNat_lt
  have hj' : (0 : Int) < n := by omega
  have hcb : decide ((128 : Int) ≤ (c.toNat : Int)) = decide (128 ≤ c.toNat) := by rw [Bool.eq_iff_iff]; simp only [decide_eq_true_eq]; omega
  rw [← hcb] at hQ
  clear hcb
  generalize c.toNat = k at *
  go_wp2_with fail
  all_goals first | exact hQ.out _ (Fr.Is.mk rfl rfl) | omega


set_option maxRecDepth 100000 in
set_option maxHeartbeats 1000000 in
theorem fld_r7 {Q : Exit → Act → World → Prop} {bx rv n pc b off : Nat} {c : UInt8} {old : Value} (a : Act) (w : World) (hj : 4 < n) (x : w.cell? ⟨b, off + 4, none⟩ = some (.int .u8 (c.toNat : Int))) (y : w.cell? ⟨bx, 10, none⟩ = some old) (z : w.frozen? ⟨bx, 10, none⟩ = false)
    (ha : Fr.Is 109 [(1, .slice (some ⟨b, off, none⟩) n pc), (2, .pointer (some ⟨bx, 0, none⟩)), (4, .pointer (some ⟨rv, 0, none⟩))] a)
    (hQ : Hid (∀ a', Fr.Is 109 [(1, .slice (some ⟨b, off, none⟩) n pc), (2, .pointer (some ⟨bx, 0, none⟩)), (4, .pointer (some ⟨rv, 0, none⟩))] a' → Q .normal a' (w.setCell ⟨bx, 10, none⟩ (.int .i64 (c.toNat : Int))))) :
    (Fr.reg Tryd.f27 7).wp Tryd.prog Q a w := by
  obtain ⟨fr, rfl, hfr⟩ := ha.lit
  simp only [List.map_cons, List.map_nil, List.cons.injEq, and_true] at hfr
  conv => arg 2; whnf
  simp only [List.range, List.range.loop, List.map_cons, List.map_nil, hfr]
  clear hfr ha
  have hcl := c.toNat_lt
  have hj' : (4 : Int) < n := by omega
  generalize c.toNat = k at *
  go_wp2_with fail
  all_goals first | exact hQ.out _ (Fr.Is.mk rfl rfl) | omega


set_option maxRecDepth 100000 in
set_option maxHeartbeats 1000000 in
theorem fld_r6 {Q : Exit → Act → World → Prop} {bx rv n pc : Nat} {pa : Option Addr} {V : Int} {old : Value} (a : Act) (w : World) (HA : Hid (Calls Tryd.prog 24 #[.slice pa n pc, .int .i64 0, .int .i64 4] w fun e w' => e = .returned (.int .i64 V) ∧ w = w')) (v0 : 0 ≤ V) (v1 : V < 4294967296) (y : w.cell? ⟨bx, 9, none⟩ = some old) (z : w.frozen? ⟨bx, 9, none⟩ = false)
    (ha : Fr.Is 109 [(1, .slice pa n pc), (2, .pointer (some ⟨bx, 0, none⟩)), (4, .pointer (some ⟨rv, 0, none⟩))] a)
    (hQ : Hid (∀ a', Fr.Is 109 [(1, .slice pa n pc), (2, .pointer (some ⟨bx, 0, none⟩)), (4, .pointer (some ⟨rv, 0, none⟩))] a' → Q .normal a' (w.setCell ⟨bx, 9, none⟩ (.int .i64 (V % 2147483648))))) :
    (Fr.reg Tryd.f27 6).wp Tryd.prog Q a w := by
  obtain ⟨fr, rfl, hfr⟩ := ha.lit
  simp only [List.map_cons, List.map_nil, List.cons.injEq, and_true] at hfr
  conv => arg 2; whnf
  simp only [List.range, List.range.loop, List.map_cons, List.map_nil, hfr]
  clear hfr ha
  have hm := tmod_nn V 2147483648 v0
  go_wp2_with fail
  refine HA.out.mono ?_; rintro e w2 ⟨rfl, rfl⟩
  go_wp2_with fail
  all_goals first | exact hQ.out _ (Fr.Is.mk rfl rfl) | omega


set_option maxRecDepth 100000 in
set_option maxHeartbeats 1000000 in
theorem fld_r10 {Q : Exit → Act → World → Prop} {bx rv n pc : Nat} {pa : Option Addr} {V : Int} {old : Value} (a : Act) (w : World) (HA : Hid (Calls Tryd.prog 24 #[.slice pa n pc, .int .i64 0, .int .i64 4] w fun e w' => e = .returned (.int .i64 V) ∧ w = w')) (v0 : 0 ≤ V) (v1 : V < 4294967296) (y : w.cell? ⟨bx, 7, none⟩ = some old) (z : w.frozen? ⟨bx, 7, none⟩ = false)
    (ha : Fr.Is 109 [(1, .slice pa n pc), (2, .pointer (some ⟨bx, 0, none⟩)), (4, .pointer (some ⟨rv, 0, none⟩))] a)
    (hQ : Hid (∀ a', Fr.Is 109 [(1, .slice pa n pc), (2, .pointer (some ⟨bx, 0, none⟩)), (4, .pointer (some ⟨rv, 0, none⟩))] a' → Q .normal a' (w.setCell ⟨bx, 7, none⟩ (.int .i64 (V % 2147483648))))) :
    (Fr.reg Tryd.f27 10).wp Tryd.prog Q a w := by
  obtain ⟨fr, rfl, hfr⟩ := ha.lit
  simp only [List.map_cons, List.map_nil, List.cons.injEq, and_true] at hfr
  conv => arg 2; whnf
  simp only [List.range, List.range.loop, List.map_cons, List.map_nil, hfr]
  clear hfr ha
  have hm := tmod_nn V 2147483648 v0
  go_wp2_with fail
  refine HA.out.mono ?_; rintro e w2 ⟨rfl, rfl⟩
  go_wp2_with fail
  all_goals first | exact hQ.out _ (Fr.Is.mk rfl rfl) | omega


set_option maxRecDepth 100000 in
set_option maxHeartbeats 1000000 in
theorem fld_r11 {Q : Exit → Act → World → Prop} {bx rv n pc : Nat} {pa : Option Addr} {V : Int} {old : Value} (a : Act) (w : World) (HA : Hid (Calls Tryd.prog 24 #[.slice pa n pc, .int .i64 4, .int .i64 4] w fun e w' => e = .returned (.int .i64 V) ∧ w = w')) (v0 : 0 ≤ V) (v1 : V < 4294967296) (y : w.cell? ⟨bx, 6, none⟩ = some old) (z : w.frozen? ⟨bx, 6, none⟩ = false)
    (ha : Fr.Is 109 [(1, .slice pa n pc), (2, .pointer (some ⟨bx, 0, none⟩)), (4, .pointer (some ⟨rv, 0, none⟩))] a)
    (hQ : Hid (∀ a', Fr.Is 109 [(1, .slice pa n pc), (2, .pointer (some ⟨bx, 0, none⟩)), (4, .pointer (some ⟨rv, 0, none⟩))] a' → Q .normal a' (w.setCell ⟨bx, 6, none⟩ (.int .i64 (V))))) :
    (Fr.reg Tryd.f27 11).wp Tryd.prog Q a w := by
  obtain ⟨fr, rfl, hfr⟩ := ha.lit
  simp only [List.map_cons, List.map_nil, List.cons.injEq, and_true] at hfr
  conv => arg 2; whnf
  simp only [List.range, List.range.loop, List.map_cons, List.map_nil, hfr]
  clear hfr ha
  have hm := tmod_nn V 2147483648 v0
  go_wp2_with fail
  refine HA.out.mono ?_; rintro e w2 ⟨rfl, rfl⟩
  go_wp2_with fail
  all_goals first | exact hQ.out _ (Fr.Is.mk rfl rfl) | omega


set_option maxRecDepth 100000 in
set_option maxHeartbeats 1000000 in
theorem fld_r14 {Q : Exit → Act → World → Prop} {bx rv n pc : Nat} {pa : Option Addr} {V : Int} {old : Value} (a : Act) (w : World) (HA : Hid (Calls Tryd.prog 24 #[.slice pa n pc, .int .i64 0, .int .i64 4] w fun e w' => e = .returned (.int .i64 V) ∧ w = w')) (v0 : 0 ≤ V) (v1 : V < 4294967296) (y : w.cell? ⟨bx, 6, none⟩ = some old) (z : w.frozen? ⟨bx, 6, none⟩ = false)
    (ha : Fr.Is 109 [(1, .slice pa n pc), (2, .pointer (some ⟨bx, 0, none⟩)), (4, .pointer (some ⟨rv, 0, none⟩))] a)
    (hQ : Hid (∀ a', Fr.Is 109 [(1, .slice pa n pc), (2, .pointer (some ⟨bx, 0, none⟩)), (4, .pointer (some ⟨rv, 0, none⟩))] a' → Q .normal a' (w.setCell ⟨bx, 6, none⟩ (.int .i64 (V))))) :
    (Fr.reg Tryd.f27 14).wp Tryd.prog Q a w := by
  obtain ⟨fr, rfl, hfr⟩ := ha.lit
  simp only [List.map_cons, List.map_nil, List.cons.injEq, and_true] at hfr
  conv => arg 2; whnf
  simp only [List.range, List.range.loop, List.map_cons, List.map_nil, hfr]
  clear hfr ha
  have hm := tmod_nn V 2147483648 v0
  go_wp2_with fail
  refine HA.out.mono ?_; rintro e w2 ⟨rfl, rfl⟩
  go_wp2_with fail
  all_goals first | exact hQ.out _ (Fr.Is.mk rfl rfl) | omega


set_option maxRecDepth 100000 in
set_option maxHeartbeats 1000000 in
theorem fld_r17 {Q : Exit → Act → World → Prop} {bx rv n pc : Nat} {pa : Option Addr} {V : Int} {old : Value} (a : Act) (w : World) (HA : Hid (Calls Tryd.prog 24 #[.slice pa n pc, .int .i64 0, .int .i64 4] w fun e w' => e = .returned (.int .i64 V) ∧ w = w')) (v0 : 0 ≤ V) (v1 : V < 4294967296) (y : w.cell? ⟨bx, 8, none⟩ = some old) (z : w.frozen? ⟨bx, 8, none⟩ = false)
    (ha : Fr.Is 109 [(1, .slice pa n pc), (2, .pointer (some ⟨bx, 0, none⟩)), (4, .pointer (some ⟨rv, 0, none⟩))] a)
    (hQ : Hid (∀ a', Fr.Is 109 [(1, .slice pa n pc), (2, .pointer (some ⟨bx, 0, none⟩)), (4, .pointer (some ⟨rv, 0, none⟩))] a' → Q .normal a' (w.setCell ⟨bx, 8, none⟩ (.int .i64 (V % 2147483648))))) :
    (Fr.reg Tryd.f27 17).wp Tryd.prog Q a w := by
  obtain ⟨fr, rfl, hfr⟩ := ha.lit
  simp only [List.map_cons, List.map_nil, List.cons.injEq, and_true] at hfr
  conv => arg 2; whnf
  simp only [List.range, List.range.loop, List.map_cons, List.map_nil, hfr]
  clear hfr ha
  have hm := tmod_nn V 2147483648 v0
  go_wp2_with fail
  refine HA.out.mono ?_; rintro e w2 ⟨rfl, rfl⟩
  go_wp2_with fail
  all_goals first | exact hQ.out _ (Fr.Is.mk rfl rfl) | omega


theorem run_to {P : Program} {t e : TypeId} (ht : P.underlying t = some (.slice e)) {size : Nat} (hs : ∀ w, (sizeOf e).run P w = .ok size w) (a : Option Addr) (len cap k : Nat) (h1 : k ≤ len) (h2 : len ≤ cap) (w : World) :
    (Instr.slice t (.slice a len cap) none (some (.int .i64 k)) none).run P w = .ok (.slice a k cap) w := by
  have h3 : k ≤ cap := by omega
  have h4 : (k : Int) ≤ cap := by omega
  simp [Instr.slice, Instr.sliceBounds, Instr.sliceBound, asIntOf, run_underlying ht, hs, Result.andThen, h3, h4]
  intro _
  cases a with
  | none => rfl
  | some b => cases b; rfl
theorem conv_r24 {w : World} {a : Option Addr} {p : List UInt8} {cap : Nat} (h : RB w a p) (k : Nat) (hk : k ≤ p.length) : (convert 24 9 (.slice a k cap)).run Tryd.prog w = .ok (.string ⟨(p.take k).toArray⟩) w := by
  have := (h.take k).conv (cap := cap) (P := Tryd.prog) Tryd.underlying24 Tryd.underlying5 Tryd.underlying9
  rwa [List.length_take, Nat.min_eq_left hk] at this


set_option maxRecDepth 100000 in
set_option maxHeartbeats 1000000 in
theorem fld_r19 {Q : Exit → Act → World → Prop} {bx rv n pc : Nat} {pa : Option Addr} {t : Int} (a : Act) (w : World) (c0 : w.cell? ⟨bx, 0, none⟩ = some (.int .i64 t))
    (ha : Fr.Is 109 [(1, .slice pa n pc), (2, .pointer (some ⟨bx, 0, none⟩)), (4, .pointer (some ⟨rv, 0, none⟩))] a)
    (hQ : Hid (∀ a', Fr.Is 109 [(1, .slice pa n pc), (2, .pointer (some ⟨bx, 0, none⟩)), (4, .pointer (some ⟨rv, 0, none⟩)), (80, .bool (decide (t = 4) && decide (0 < n)))] a' → Q .normal a' w)) :
    (Fr.reg Tryd.f27 19).wp Tryd.prog Q a w := by
  obtain ⟨fr, rfl, hfr⟩ := ha.lit
  simp only [List.map_cons, List.map_nil, List.cons.injEq, and_true] at hfr
  conv => arg 2; whnf
  simp only [List.range, List.range.loop, List.map_cons, List.map_nil, hfr]
  clear hfr ha
  by_cases h : t = 4
  · subst t
    by_cases h0 : 0 < n
    · have h0' : (n : Int) > 0 := by omega
      go_wp2_with fail
      exact hQ.out _ (Fr.Is.mk rfl (by simp [h0]))
    · have h0' : ¬ (n : Int) > 0 := by omega
      go_wp2_with fail
      exact hQ.out _ (Fr.Is.mk rfl (by simp; omega))
  · have k : (t == 4) = false := by simp [h]
    go_wp2_with fail
    exact hQ.out _ (Fr.Is.mk rfl (by simp [h]))


set_option maxRecDepth 100000 in
set_option maxHeartbeats 1000000 in
theorem fld_r22 {Q : Exit → Act → World → Prop} {bx rv n pc : Nat} {pa : Option Addr} {pad : Int} (a : Act) (w : World) (c4 : w.cell? ⟨bx, 4, none⟩ = some (.int .i64 pad))
    (ha : Fr.Is 109 [(1, .slice pa n pc), (2, .pointer (some ⟨bx, 0, none⟩)), (4, .pointer (some ⟨rv, 0, none⟩))] a)
    (hQ : Hid (∀ a', Fr.Is 109 [(1, .slice pa n pc), (2, .pointer (some ⟨bx, 0, none⟩)), (4, .pointer (some ⟨rv, 0, none⟩)), (97, .bool (decide ((n : Int) < pad)))] a' → Q .normal a' w)) :
    (Fr.reg Tryd.f27 22).wp Tryd.prog Q a w := by
  obtain ⟨fr, rfl, hfr⟩ := ha.lit
  simp only [List.map_cons, List.map_nil, List.cons.injEq, and_true] at hfr
  conv => arg 2; whnf
  simp only [List.range, List.range.loop, List.map_cons, List.map_nil, hfr]
  clear hfr ha
  by_cases h : (n : Int) < pad
  · rw [decide_eq_true h] at hQ
    have h' : pad > (n : Int) := h
    go_wp2_with fail
    all_goals first | exact hQ.out _ (Fr.Is.mk rfl rfl) | exact hQ.out _ (Fr.Is.mk rfl (by simp; omega))
  · rw [decide_eq_false h] at hQ
    have h' : ¬ pad > (n : Int) := h
    go_wp2_with fail
    all_goals first | exact hQ.out _ (Fr.Is.mk rfl rfl) | exact hQ.out _ (Fr.Is.mk rfl (by simp; omega))


set_option maxRecDepth 100000 in
set_option maxHeartbeats 1000000 in
theorem fld_r24 {Q : Exit → Act → World → Prop} {bx rv pc k : Nat} {pa : Option Addr} {p : List UInt8} {f : FrM} {sa : Option Addr} {sc : Nat} (a : Act) (w : World) (V : Fb bx f sa sc w) (hr : RB w pa p) (hc : p.length ≤ pc) (hm : pc ≤ maxLen) (h0 : 0 ≤ f.pad) (hk : (p.length : Int) - f.pad = k)
    (ha : Fr.Is 109 [(1, .slice pa p.length pc), (2, .pointer (some ⟨bx, 0, none⟩)), (4, .pointer (some ⟨rv, 0, none⟩))] a)
    (hQ : Hid (∀ a', Fr.Is 109 [(1, .slice pa p.length pc), (2, .pointer (some ⟨bx, 0, none⟩)), (4, .pointer (some ⟨rv, 0, none⟩))] a' → Q .normal a' (w.setCell ⟨bx, 3, none⟩ (.string ⟨(p.take k).toArray⟩)))) :
    (Fr.reg Tryd.f27 24).wp Tryd.prog Q a w := by
  obtain ⟨fr, rfl, hfr⟩ := ha.lit
  simp only [List.map_cons, List.map_nil, List.cons.injEq, and_true] at hfr
  conv => arg 2; whnf
  simp only [List.range, List.range.loop, List.map_cons, List.map_nil, hfr]
  clear hfr ha
  have c3 : w.cell? ⟨bx, 3, none⟩ = some (.string f.data) := V.cellz 3
  have c4 : w.cell? ⟨bx, 4, none⟩ = some (.int .i64 f.pad) := V.cellz 4
  have z3 := V.thaw 3
  have hkl : k ≤ p.length := by omega
  have hsl : ∀ v, (Instr.slice 24 (.slice pa p.length pc) none (some (.int .i64 (k : Int))) none).run Tryd.prog v = .ok (.slice pa k pc) v := fun v => run_to (P := Tryd.prog) Tryd.underlying24 size_by pa p.length pc k hkl hc v
  have hcv := conv_r24 (cap := pc) hr k hkl
  unfold maxLen at hm
  have hb1 : -9223372036854775808 ≤ (p.length : Int) - f.pad := by omega
  have hb2 : (p.length : Int) - f.pad ≤ 9223372036854775807 := by omega
  generalize (⟨(p.take k).toArray⟩ : ByteArray) = d at *
  generalize p.length = n at *
  clear V hr
  go_wp2_with fail
  exact hQ.out _ (Fr.Is.mk rfl rfl)


set_option maxRecDepth 100000 in
set_option maxHeartbeats 2000000 in
theorem fld_r23 {Q : Exit → Act → World → Prop} {bx rv n pc : Nat} {pa : Option Addr} {f : FrM} {sa : Option Addr} {sc : Nat} (a : Act) (w : World) (V : Fb bx f sa sc w) (R : Fb rv noFr none 0 w) (hne : bx ≠ rv)
    (ha : Fr.Is 109 [(1, .slice pa n pc), (2, .pointer (some ⟨bx, 0, none⟩)), (4, .pointer (some ⟨rv, 0, none⟩))] a)
    (hQ : Hid (∀ w' a', Fr.Is 109 [(4, .pointer (some ⟨rv, 0, none⟩)), (5, .bool false)] a' → Fb rv f sa sc w' → (∀ k, k ≠ rv → w'.heap[k]? = w.heap[k]?) → Below rv w w' → Q .normal a' w')) :
    (Fr.reg Tryd.f27 23).wp Tryd.prog Q a w := by
  obtain ⟨fr, rfl, hfr⟩ := ha.lit
  simp only [List.map_cons, List.map_nil, List.cons.injEq, and_true] at hfr
  conv => arg 2; whnf
  simp only [List.range, List.range.loop, List.map_cons, List.map_nil, hfr]
  clear hfr ha
  obtain ⟨w2, h2, F2, B2, o2⟩ := fr_ret (B := rv) (Below.refl rv w) (Nat.le_refl _) R f sa sc
  have HE : Hid (Fb rv f sa sc w2 ∧ (∀ k, k ≠ rv → w2.heap[k]? = w.heap[k]?) ∧ Below rv w w2) := Lib.hid ⟨F2, o2, B2⟩
  clear F2 B2 o2
  subst h2
  obtain ⟨a0, a1, a2, a3, a4, a5, a6, a7, a8, a9, a10, a11⟩ := fr_cells V
  obtain ⟨c0, c1, c2, c3, c4, c5, c6, c7, c8, c9, c10, c11⟩ := fr_cells R
  have t0 := R.thaw 0
  have t1 := R.thaw 1
  have t2 := R.thaw 2
  have t3 := R.thaw 3
  have t4 := R.thaw 4
  have t5 := R.thaw 5
  have t6 := R.thaw 6
  have t7 := R.thaw 7
  have t8 := R.thaw 8
  have t9 := R.thaw 9
  have t10 := R.thaw 10
  have t11 := R.thaw 11
  have hne2 : rv ≠ bx := fun e => hne e.symm
  clear V R
  go_wp2_with fail
  exact hQ.out _ _ (Fr.Is.mk rfl rfl) HE.out.1 HE.out.2.1 HE.out.2.2


set_option maxRecDepth 100000 in
set_option maxHeartbeats 2000000 in
theorem fld_r25 {Q : Exit → Act → World → Prop} {bx rv n pc : Nat} {pa : Option Addr} {f : FrM} {sa : Option Addr} {sc : Nat} (a : Act) (w : World) (V : Fb bx f sa sc w) (R : Fb rv noFr none 0 w) (hne : bx ≠ rv)
    (ha : Fr.Is 109 [(1, .slice pa n pc), (2, .pointer (some ⟨bx, 0, none⟩)), (4, .pointer (some ⟨rv, 0, none⟩))] a)
    (hQ : Hid (∀ w' a', Fr.Is 109 [(4, .pointer (some ⟨rv, 0, none⟩)), (5, .bool true)] a' → Fb rv f sa sc w' → (∀ k, k ≠ rv → w'.heap[k]? = w.heap[k]?) → Below rv w w' → Q .normal a' w')) :
    (Fr.reg Tryd.f27 25).wp Tryd.prog Q a w := by
  obtain ⟨fr, rfl, hfr⟩ := ha.lit
  simp only [List.map_cons, List.map_nil, List.cons.injEq, and_true] at hfr
  conv => arg 2; whnf
  simp only [List.range, List.range.loop, List.map_cons, List.map_nil, hfr]
  clear hfr ha
  obtain ⟨w2, h2, F2, B2, o2⟩ := fr_ret (B := rv) (Below.refl rv w) (Nat.le_refl _) R f sa sc
  have HE : Hid (Fb rv f sa sc w2 ∧ (∀ k, k ≠ rv → w2.heap[k]? = w.heap[k]?) ∧ Below rv w w2) := Lib.hid ⟨F2, o2, B2⟩
  clear F2 B2 o2
  subst h2
  obtain ⟨a0, a1, a2, a3, a4, a5, a6, a7, a8, a9, a10, a11⟩ := fr_cells V
  obtain ⟨c0, c1, c2, c3, c4, c5, c6, c7, c8, c9, c10, c11⟩ := fr_cells R
  have t0 := R.thaw 0
  have t1 := R.thaw 1
  have t2 := R.thaw 2
  have t3 := R.thaw 3
  have t4 := R.thaw 4
  have t5 := R.thaw 5
  have t6 := R.thaw 6
  have t7 := R.thaw 7
  have t8 := R.thaw 8
  have t9 := R.thaw 9
  have t10 := R.thaw 10
  have t11 := R.thaw 11
  have hne2 : rv ≠ bx := fun e => hne e.symm
  clear V R
  go_wp2_with fail
  exact hQ.out _ _ (Fr.Is.mk rfl rfl) HE.out.1 HE.out.2.1 HE.out.2.2


theorem st_new (w : World) (s : StM) : Rw.RowE ESt (w.alloc (.cells #[.int .i64 s.id, .int .i64 s.val] 67)) (some ⟨w.heap.size, 0, none⟩) [s] := .inr ⟨_, _, rfl, fun i hi r u hu => by
  have h0 : i = 0 := by simp at hi; omega
  subst h0
  have hh := heap_alloc_new w (.cells #[.int .i64 s.id, .int .i64 s.val] 67)
  rw [cell_at hh]
  simpa [ESt] using hu⟩


set_option maxRecDepth 100000 in
set_option maxHeartbeats 4000000 in
theorem fld_r20 {Q : Exit → Act → World → Prop} {bx rv n pc m cap : Nat} {pa ad : Option Addr} {l : List StM} {U V : Int} {cs : Array Value} (a : Act) (w : World) (hh : w.heap[bx]? = some (.cells cs 40 (0, 0))) (hcs : cs[5]? = some (.slice ad m cap)) (hq : Rw.QRow ESt w ad cap l) (hne : ∀ o s, ad ≠ some ⟨bx, o, s⟩) (hm : m = l.length) (hlen : m ≤ 1000000000) (HA : Hid (∀ v, Below w.heap.size w v → Calls Tryd.prog 24 #[.slice pa n pc, .int .i64 0, .int .i64 2] v fun e w' => e = .returned (.int .i64 U) ∧ v = w')) (HA2 : Hid (∀ v, Below w.heap.size w v → Calls Tryd.prog 24 #[.slice pa n pc, .int .i64 2, .int .i64 4] v fun e w' => e = .returned (.int .i64 V) ∧ v = w'))
    (ha : Fr.Is 109 [(1, .slice pa n pc), (2, .pointer (some ⟨bx, 0, none⟩)), (4, .pointer (some ⟨rv, 0, none⟩))] a)
    (hQ : Hid (∀ a', Fr.Is 109 [(1, .slice pa n pc), (2, .pointer (some ⟨bx, 0, none⟩)), (4, .pointer (some ⟨rv, 0, none⟩))] a' → ∀ v ad' cap' v4, Below w.heap.size w v → v.grownBy v4 (ad.map (·.block)) → Rw.QRow ESt v4 ad' cap' (l ++ [⟨U, V⟩]) → (∀ b o s, ad' = some ⟨b, o, s⟩ → (∃ o', ad = some ⟨b, o', none⟩) ∨ v.heap.size ≤ b) → Q .normal a' (v4.setCell ⟨bx, 5, none⟩ (.slice ad' (m + 1) cap')))) :
    (Fr.reg Tryd.f27 20).wp Tryd.prog Q a w := by
  obtain ⟨fr, rfl, hfr⟩ := ha.lit
  simp only [List.map_cons, List.map_nil, List.cons.injEq, and_true] at hfr
  conv => arg 2; whnf
  simp only [List.range, List.range.loop, List.map_cons, List.map_nil, hfr]
  clear hfr ha
  refine wp_region_noPanic ?_
  obtain ⟨i0, hi, hz0, hz1, hz2⟩ := info_parts info_set
  have HI := Lib.hid hi
  have HZ0 := Lib.hid hz0
  have HZ1 := Lib.hid hz1
  have HZ2 := Lib.hid hz2
  have c1 := (cell_at hh 5).trans hcs
  have c1a : ∀ o : Obj, (w.alloc o).cell? ⟨bx, 5, none⟩ = some (.slice ad m cap) := fun o => (cell_at (alloc_at hh) 5).trans hcs
  have HHa : Hid (∀ v v4, Below w.heap.size w v → v.grownBy v4 (ad.map (·.block)) → v4.cell? ⟨bx, 5, none⟩ = some (.slice ad m cap) ∧ v4.frozen? ⟨bx, 5, none⟩ = false) := Lib.hid (fun v v4 hv hg => by
    have h4 := grown_at hg (block_below hv hh) (fun e => by
      rw [Option.map_eq_some_iff] at e
      obtain ⟨⟨b2, o2, s2⟩, e1, rfl⟩ := e
      exact hne o2 s2 e1)
    exact ⟨(cell_at h4 5).trans hcs, frozen_of_row _ _ _ _ _ h4⟩)
  have HNew := Lib.hid (st_new w ⟨U, V⟩)
  have hB : Below w.heap.size w (w.alloc (.cells #[.int .i64 U, .int .i64 V] 67)).drew := ((Below.refl _ _).alloc (Nat.le_refl _) _).drew
  have HB := Lib.hid hB
  have HRa := Lib.hid (hq.below hB)
  have HL : Hid (m + 1 ≤ maxLen ∧ (m + 1) * 16 ≤ 140737488355328) := Lib.hid ⟨by unfold maxLen; omega, by omega⟩
  have HN := Lib.hid hm
  have HD := Lib.hid ((Below.refl w.heap.size w).drew)
  clear hi hz0 hz1 hz2 hh hm hB hq hne
  go_region_law (first
    | (refine Wr.step_call rfl 24 [.tmp 83, .const (.int .i64 0), .const (.int .i64 2)] _ rfl [.slice pa n pc, .int .i64 0, .int .i64 2] rfl (fun v => rfl) (HA.out _ HD.out) ?_; rintro e w1 ⟨rfl, rfl⟩; refine ⟨_, rfl, ?_⟩)
    | (refine Wr.step_call rfl 24 [.tmp 85, .const (.int .i64 2), .const (.int .i64 4)] _ rfl [.slice pa n pc, .int .i64 2, .int .i64 4] rfl (fun v => rfl) (HA2.out _ HD.out) ?_; rintro e w1 ⟨rfl, rfl⟩; refine ⟨_, rfl, ?_⟩)
    | (refine Rw.step_append_que ESt Tryd.underlying38 HI.out HZ0.out HZ1.out HZ2.out rfl rfl (.tmp 82) (.tmp 88) rfl ad m cap l rfl HN.out HRa.out ⟨w.heap.size, 0, none⟩ 1 [⟨U, V⟩] 1 rfl rfl (HNew.out.below (Below.refl _ _).drew) HL.out.1 HL.out.2 ?_; intro ad4 cap4 w4 hq4 hg4 hb4; obtain ⟨c4, f4⟩ := HHa.out _ _ HB.out hg4.out))
  all_goals exact hQ.out _ (Fr.Is.mk rfl rfl) _ ad4 cap4 _ HB.out hg4.out hq4.out hb4.out

end Go.Proofs.YtglhdlkmgmbgeaaDoor

namespace Go.Proofs.YtglhdlkmgmbgeaaDoor
open Go.RowKit
open Fra Oct Arg Mem Gen Go.Proofs.YtglhdlkmgmbgeaaDoor.Obj
set_option linter.unusedVariables false
set_option linter.unusedSimpArgs false

/-- The bytes that are left: they lie in the first world. -/
structure Pz (w0 : World) (pa : Option Addr) (pc : Nat) (p : List UInt8) : Prop where
  rb : RB w0 pa p
  le : p.length ≤ pc
  max : pc ≤ maxLen
theorem Pz.from {w0 : World} {pa : Option Addr} {pc : Nat} {p : List UInt8} (h : Pz w0 pa pc p) (k : Nat) : Pz w0 (Sl.adOf pa pc k 1) (pc - k) (p.drop k) :=
  ⟨Sl.rb_from h.rb k h.le, by rw [List.length_drop]; have := h.le; omega, by have := h.max; omega⟩
theorem Pz.nil (w0 : World) : Pz w0 none 0 [] := ⟨.inl rfl, Nat.le_refl _, by unfold maxLen; omega⟩
/-- Along fields: the frame's box, the answer's, the settings so far. -/
structure Fs (w0 : World) (bx rv : Nat) (f : FrM) (sa : Option Addr) (sc : Nat) (w : World) : Prop where
  bel : Below w0.heap.size w0 w
  fb : Fb bx f sa sc w
  rvb : Fb rv noFr none 0 w
  row : Rw.QRow ESt w sa sc f.sets
  ap : ∀ b o s, sa = some ⟨b, o, s⟩ → w0.heap.size ≤ b ∧ b ≠ bx ∧ b ≠ rv
  lo : w0.heap.size ≤ bx ∧ w0.heap.size ≤ rv ∧ bx ≠ rv
section
variable {w0 w w' : World} {bx rv sc sc' : Nat} {f f' : FrM} {sa sa' : Option Addr}
theorem Fs.below (h : Fs w0 bx rv f sa sc w) (hb : Below w.heap.size w w') : Fs w0 bx rv f sa sc w' :=
  ⟨below_step h.bel hb, block_below hb h.fb, block_below hb h.rvb, h.row.below hb, h.ap, h.lo⟩
theorem Fs.set (h : Fs w0 bx rv f sa sc w) (i : Nat) (v : Value) (hf : (frC f sa sc).setIfInBounds i v = frC f' sa sc) (hs : f'.sets = f.sets) : Fs w0 bx rv f' sa sc (w.setCell ⟨bx, i, none⟩ v) :=
  ⟨h.bel.setCell (p := ⟨bx, i, none⟩) h.lo.1 v, h.fb.set i v hf, (Below.heap_setCell w ⟨bx, i, none⟩ v rv (fun e => h.lo.2.2 e.symm)).trans h.rvb,
    by rw [hs]; exact h.row.block (by simp [World.setCell]) (fun b o s e => Below.heap_setCell w ⟨bx, i, none⟩ v b (fun e2 => (h.ap b o s e).2.1 e2)), h.ap, h.lo⟩
end
theorem pz_cell {w0 w : World} {pa : Option Addr} {pc : Nat} {p : List UInt8} (h : Pz w0 pa pc p) (hb : Below w0.heap.size w0 w) (hp : 0 < p.length) : ∃ b off, pa = some ⟨b, off, none⟩ ∧ ∀ i, (hi : i < p.length) → w.cell? ⟨b, off + i, none⟩ = some (.int .u8 (p[i].toNat : Int)) := by
  rcases h.rb with h1 | ⟨b, off, e, hc⟩
  · rw [h1] at hp; simp at hp
  · exact ⟨b, off, e, fun i hi => below_cell hb (hc i hi)⟩
theorem drop_headD (p : List UInt8) (k : Nat) (h : k < p.length) : (p.drop k).headD 0 = p[k] := by
  rw [List.drop_eq_getElem_cons h]; rfl

/-- The steps, without the program. -/
def fA (f : FrM) (p : List UInt8) : FrM × List UInt8 := if paddedB f then ({ f with pad := (p.headD 0).toNat }, p.drop 1) else (f, p)
def fB (f : FrM) (p : List UInt8) : FrM × List UInt8 := if placedB f then ({ f with sole := decide (128 ≤ (p.headD 0).toNat), dep := at' p 0 4 % 2147483648, weight := ((p.drop 4).headD 0).toNat }, p.drop 5) else (f, p)
def fC (f : FrM) (p : List UInt8) : FrM × List UInt8 := if f.type = 7 then ({ f with last := at' p 0 4 % 2147483648, code := at' p 4 4 }, p.drop 8) else (f, p)
def fD (f : FrM) (p : List UInt8) : FrM × List UInt8 := if f.type = 3 then ({ f with code := at' p 0 4 }, []) else (f, p)
def fE (f : FrM) (p : List UInt8) : FrM × List UInt8 := if f.type = 8 then ({ f with inc := at' p 0 4 % 2147483648 }, []) else (f, p)
def fF (f : FrM) (p : List UInt8) : FrM × List UInt8 := if f.type = 4 then ({ f with sets := f.sets ++ setsF p.length p }, []) else (f, p)

set_option maxHeartbeats 1000000 in
theorem fld_A {Q : Exit → Act → World → Prop} {w0 : World} {bx rv sc pc : Nat} {f : FrM} {sa pa : Option Addr} {p : List UInt8} (a : Act) (w : World) (h : Fs w0 bx rv f sa sc w) (z : Pz w0 pa pc p) (f0 : 0 ≤ f.flags) (f1 : f.flags ≤ 255) (hl : paddedB f = true → 1 ≤ p.length)
    (ha : Fr.Is 109 [(1, .slice pa p.length pc), (2, .pointer (some ⟨bx, 0, none⟩)), (4, .pointer (some ⟨rv, 0, none⟩))] a)
    (hQ : ∀ a' w' pa' pc', Fr.Is 109 [(1, .slice pa' (fA f p).2.length pc'), (2, .pointer (some ⟨bx, 0, none⟩)), (4, .pointer (some ⟨rv, 0, none⟩))] a' → Fs w0 bx rv (fA f p).1 sa sc w' → Pz w0 pa' pc' (fA f p).2 → Q .normal a' w') :
    (Fr.navL (Fr.tail Tryd.f27 1)).wp Tryd.prog Q a w := by
  conv => arg 2; whnf
  refine wp_seq ?_
  refine fld_r1 a w h.fb f0 f1 ha (Lib.hid (fun w1 a1 h1 b1 => ?_))
  replace h := h.below b1
  change Fr.Is 109 [(1, .slice pa p.length pc), (2, .pointer (some ⟨bx, 0, none⟩)), (4, .pointer (some ⟨rv, 0, none⟩)), (12, .bool (paddedB f))] a1 at h1
  cases hp : paddedB f with
  | false =>
    rw [hp] at h1
    simp only [fA, hp, ↓reduceIte, Bool.false_eq_true] at hQ
    refine wp_cond_false (h1.get (i := 12) (v := .bool false) (by simp)) ?_
    refine wp_skip ?_
    exact hQ _ _ pa pc (h1.less (by simp)) h z
  | true =>
    rw [hp] at h1
    have hl := hl hp
    simp only [fA, hp, ↓reduceIte, Bool.false_eq_true] at hQ
    refine wp_cond_true (h1.get (i := 12) (v := .bool true) (by simp)) ?_
    obtain ⟨b, off, rfl, hc⟩ := pz_cell z h.bel hl
    have x := hc 0 hl
    have hx0 : p.headD 0 = p[0] := by have := drop_headD p 0 hl; simpa using this
    rw [hx0] at hQ
    refine wp_seq ?_
    refine fld_r2 (rv := rv) (n := p.length) (pc := pc) (c := p[0]) a1 w1 (by omega) x (h.fb.cellz 4) (h.fb.thaw 4) (h1.less (by simp)) (Lib.hid (fun a2 h2 => ?_))
    refine fld_r3 (p := p) a2 _ hl z.le h2 (Lib.hid (fun a3 h3 => ?_))
    exact hQ _ _ _ _ h3 (h.set 4 _ rfl rfl) (z.from 1)

set_option maxHeartbeats 1000000 in
theorem fld_B {Q : Exit → Act → World → Prop} {w0 : World} {bx rv sc pc : Nat} {f : FrM} {sa pa : Option Addr} {p : List UInt8} (a : Act) (w : World) (h : Fs w0 bx rv f sa sc w) (z : Pz w0 pa pc p) (f0 : 0 ≤ f.flags) (f1 : f.flags ≤ 255) (hl : placedB f = true → 5 ≤ p.length)
    (ha : Fr.Is 109 [(1, .slice pa p.length pc), (2, .pointer (some ⟨bx, 0, none⟩)), (4, .pointer (some ⟨rv, 0, none⟩))] a)
    (hQ : ∀ a' w' pa' pc', Fr.Is 109 [(1, .slice pa' (fB f p).2.length pc'), (2, .pointer (some ⟨bx, 0, none⟩)), (4, .pointer (some ⟨rv, 0, none⟩))] a' → Fs w0 bx rv (fB f p).1 sa sc w' → Pz w0 pa' pc' (fB f p).2 → Q .normal a' w') :
    (Fr.navL (Fr.tail Tryd.f27 2)).wp Tryd.prog Q a w := by
  conv => arg 2; whnf
  refine wp_seq ?_
  refine fld_r4 a w h.fb f0 f1 ha (Lib.hid (fun w1 a1 h1 b1 => ?_))
  replace h := h.below b1
  change Fr.Is 109 [(1, .slice pa p.length pc), (2, .pointer (some ⟨bx, 0, none⟩)), (4, .pointer (some ⟨rv, 0, none⟩)), (31, .bool (placedB f))] a1 at h1
  cases hp : placedB f with
  | false =>
    rw [hp] at h1
    simp only [fB, hp, ↓reduceIte, Bool.false_eq_true] at hQ
    refine wp_cond_false (h1.get (i := 31) (v := .bool false) (by simp)) ?_
    refine wp_skip ?_
    exact hQ _ _ pa pc (h1.less (by simp)) h z
  | true =>
    rw [hp] at h1
    have hl := hl hp
    simp only [fB, hp, ↓reduceIte, Bool.false_eq_true] at hQ
    refine wp_cond_true (h1.get (i := 31) (v := .bool true) (by simp)) ?_
    obtain ⟨b, off, rfl, _⟩ := pz_cell z h.bel (by omega)
    have hx : ∀ v, Below w0.heap.size w0 v → ∀ i, (hi : i < p.length) → v.cell? ⟨b, off + i, none⟩ = some (.int .u8 (p[i].toNat : Int)) := fun v hv i hi => by
      obtain ⟨b', off', e, hc⟩ := pz_cell z hv (by omega)
      simp only [Option.some.injEq, Addr.mk.injEq, and_true] at e
      obtain ⟨rfl, rfl⟩ := e
      exact hc i hi
    have hx0 : p.headD 0 = p[0] := by have := drop_headD p 0 (by omega); simpa using this
    have hx4 : (p.drop 4).headD 0 = p[4] := drop_headD p 4 (by omega)
    rw [hx0, hx4] at hQ
    have hV := at_bd p 0 4 (by decide)
    refine wp_seq ?_
    refine fld_r5 (rv := rv) (n := p.length) (pc := pc) (c := p[0]) a1 w1 (by omega) (hx w1 h.bel 0 (by omega)) (h.fb.cellz 11) (h.fb.thaw 11) (h1.less (by simp)) (Lib.hid (fun a2 h2 => ?_))
    have g2 := h.set (f' := { f with sole := decide (128 ≤ p[0].toNat) }) 11 (.bool (decide (128 ≤ p[0].toNat))) rfl rfl
    refine wp_seq ?_
    refine fld_r6 (V := at' p 0 4) a2 _ (Lib.hid (rat_any _ p pc 0 4 _ (by have := z.le; have := z.max; omega) (z.rb.below g2.bel) (by decide) (by decide) (by omega))) hV.1 hV.2 (g2.fb.cellz 9) (g2.fb.thaw 9) h2 (Lib.hid (fun a3 h3 => ?_))
    have g3 := g2.set (f' := { f with sole := decide (128 ≤ p[0].toNat), dep := at' p 0 4 % 2147483648 }) 9 (.int .i64 (at' p 0 4 % 2147483648)) rfl rfl
    refine wp_seq ?_
    refine fld_r7 (c := p[4]) a3 _ (by omega) (hx _ g3.bel 4 (by omega)) (g3.fb.cellz 10) (g3.fb.thaw 10) h3 (Lib.hid (fun a4 h4 => ?_))
    refine fld_r8 (p := p) a4 _ hl z.le h4 (Lib.hid (fun a5 h5 => ?_))
    exact hQ _ _ _ _ h5 (g3.set 10 _ rfl rfl) (z.from 5)

set_option maxHeartbeats 1000000 in
theorem fld_C {Q : Exit → Act → World → Prop} {w0 : World} {bx rv sc pc : Nat} {f : FrM} {sa pa : Option Addr} {p : List UInt8} (a : Act) (w : World) (h : Fs w0 bx rv f sa sc w) (z : Pz w0 pa pc p) (hl : f.type = 7 → 8 ≤ p.length)
    (ha : Fr.Is 109 [(1, .slice pa p.length pc), (2, .pointer (some ⟨bx, 0, none⟩)), (4, .pointer (some ⟨rv, 0, none⟩))] a)
    (hQ : ∀ a' w' pa' pc', Fr.Is 109 [(1, .slice pa' (fC f p).2.length pc'), (2, .pointer (some ⟨bx, 0, none⟩)), (4, .pointer (some ⟨rv, 0, none⟩))] a' → Fs w0 bx rv (fC f p).1 sa sc w' → Pz w0 pa' pc' (fC f p).2 → Q .normal a' w') :
    (Fr.navL (Fr.tail Tryd.f27 3)).wp Tryd.prog Q a w := by
  conv => arg 2; whnf
  refine wp_seq ?_
  refine fld_r9 (t := f.type) a w (h.fb.cellz 0) ha (Lib.hid (fun a1 h1 => ?_))
  by_cases hp : f.type = 7
  · have hl := hl hp
    simp only [fC, if_pos hp] at hQ
    refine wp_cond_true (h1.get (i := 50) (v := .bool true) (by simp [hp])) ?_
    have hV := at_bd p 0 4 (by decide)
    have hU := at_bd p 4 4 (by decide)
    refine wp_seq ?_
    refine fld_r10 (rv := rv) (n := p.length) (pc := pc) (pa := pa) (V := at' p 0 4) a1 w (Lib.hid (rat_any _ p pc 0 4 _ (by have := z.le; have := z.max; omega) (z.rb.below h.bel) (by decide) (by decide) (by omega))) hV.1 hV.2 (h.fb.cellz 7) (h.fb.thaw 7) (h1.less (by simp)) (Lib.hid (fun a2 h2 => ?_))
    have g2 := h.set (f' := { f with last := at' p 0 4 % 2147483648 }) 7 (.int .i64 (at' p 0 4 % 2147483648)) rfl rfl
    refine wp_seq ?_
    refine fld_r11 (V := at' p 4 4) a2 _ (Lib.hid (rat_any _ p pc 4 4 _ (by have := z.le; have := z.max; omega) (z.rb.below g2.bel) (by decide) (by decide) (by omega))) hU.1 hU.2 (g2.fb.cellz 6) (g2.fb.thaw 6) h2 (Lib.hid (fun a3 h3 => ?_))
    refine fld_r12 (p := p) a3 _ hl z.le h3 (Lib.hid (fun a4 h4 => ?_))
    exact hQ _ _ _ _ h4 (g2.set 6 _ rfl rfl) (z.from 8)
  · simp only [fC, if_neg hp] at hQ
    refine wp_cond_false (h1.get (i := 50) (v := .bool false) (by simp [hp])) ?_
    refine wp_skip ?_
    exact hQ _ _ pa pc (h1.less (by simp)) h z

set_option maxHeartbeats 1000000 in
theorem fld_D {Q : Exit → Act → World → Prop} {w0 : World} {bx rv sc pc : Nat} {f : FrM} {sa pa : Option Addr} {p : List UInt8} (a : Act) (w : World) (h : Fs w0 bx rv f sa sc w) (z : Pz w0 pa pc p) (hl : f.type = 3 → 4 ≤ p.length)
    (ha : Fr.Is 109 [(1, .slice pa p.length pc), (2, .pointer (some ⟨bx, 0, none⟩)), (4, .pointer (some ⟨rv, 0, none⟩))] a)
    (hQ : ∀ a' w' pa' pc', Fr.Is 109 [(1, .slice pa' (fD f p).2.length pc'), (2, .pointer (some ⟨bx, 0, none⟩)), (4, .pointer (some ⟨rv, 0, none⟩))] a' → Fs w0 bx rv (fD f p).1 sa sc w' → Pz w0 pa' pc' (fD f p).2 → Q .normal a' w') :
    (Fr.navL (Fr.tail Tryd.f27 4)).wp Tryd.prog Q a w := by
  conv => arg 2; whnf
  refine wp_seq ?_
  refine fld_r13 (t := f.type) a w (h.fb.cellz 0) ha (Lib.hid (fun a1 h1 => ?_))
  by_cases hp : f.type = 3
  · have hl := hl hp
    simp only [fD, if_pos hp] at hQ
    refine wp_cond_true (h1.get (i := 62) (v := .bool true) (by simp [hp])) ?_
    have hV := at_bd p 0 4 (by decide)
    refine wp_seq ?_
    refine fld_r14 (rv := rv) (n := p.length) (pc := pc) (pa := pa) (V := at' p 0 4) a1 w (Lib.hid (rat_any _ p pc 0 4 _ (by have := z.le; have := z.max; omega) (z.rb.below h.bel) (by decide) (by decide) (by omega))) hV.1 hV.2 (h.fb.cellz 6) (h.fb.thaw 6) (h1.less (by simp)) (Lib.hid (fun a2 h2 => ?_))
    refine fld_r15 a2 _ h2 (Lib.hid (fun a3 h3 => ?_))
    exact hQ _ _ none 0 h3 (h.set 6 _ rfl rfl) (Pz.nil w0)
  · simp only [fD, if_neg hp] at hQ
    refine wp_cond_false (h1.get (i := 62) (v := .bool false) (by simp [hp])) ?_
    refine wp_skip ?_
    exact hQ _ _ pa pc (h1.less (by simp)) h z

set_option maxHeartbeats 1000000 in
theorem fld_E {Q : Exit → Act → World → Prop} {w0 : World} {bx rv sc pc : Nat} {f : FrM} {sa pa : Option Addr} {p : List UInt8} (a : Act) (w : World) (h : Fs w0 bx rv f sa sc w) (z : Pz w0 pa pc p) (hl : f.type = 8 → 4 ≤ p.length)
    (ha : Fr.Is 109 [(1, .slice pa p.length pc), (2, .pointer (some ⟨bx, 0, none⟩)), (4, .pointer (some ⟨rv, 0, none⟩))] a)
    (hQ : ∀ a' w' pa' pc', Fr.Is 109 [(1, .slice pa' (fE f p).2.length pc'), (2, .pointer (some ⟨bx, 0, none⟩)), (4, .pointer (some ⟨rv, 0, none⟩))] a' → Fs w0 bx rv (fE f p).1 sa sc w' → Pz w0 pa' pc' (fE f p).2 → Q .normal a' w') :
    (Fr.navL (Fr.tail Tryd.f27 5)).wp Tryd.prog Q a w := by
  conv => arg 2; whnf
  refine wp_seq ?_
  refine fld_r16 (t := f.type) a w (h.fb.cellz 0) ha (Lib.hid (fun a1 h1 => ?_))
  by_cases hp : f.type = 8
  · have hl := hl hp
    simp only [fE, if_pos hp] at hQ
    refine wp_cond_true (h1.get (i := 68) (v := .bool true) (by simp [hp])) ?_
    have hV := at_bd p 0 4 (by decide)
    refine wp_seq ?_
    refine fld_r17 (rv := rv) (n := p.length) (pc := pc) (pa := pa) (V := at' p 0 4) a1 w (Lib.hid (rat_any _ p pc 0 4 _ (by have := z.le; have := z.max; omega) (z.rb.below h.bel) (by decide) (by decide) (by omega))) hV.1 hV.2 (h.fb.cellz 8) (h.fb.thaw 8) (h1.less (by simp)) (Lib.hid (fun a2 h2 => ?_))
    refine fld_r18 a2 _ h2 (Lib.hid (fun a3 h3 => ?_))
    exact hQ _ _ none 0 h3 (h.set 8 _ rfl rfl) (Pz.nil w0)
  · simp only [fE, if_neg hp] at hQ
    refine wp_cond_false (h1.get (i := 68) (v := .bool false) (by simp [hp])) ?_
    refine wp_skip ?_
    exact hQ _ _ pa pc (h1.less (by simp)) h z

theorem setsF_nil : setsF 0 [] = [] := rfl
theorem fs_append {w0 w v w4 : World} {bx rv sc sc' : Nat} {f : FrM} {sa sa' : Option Addr} {s : StM} (h : Fs w0 bx rv f sa sc w) (hb : Below w.heap.size w v) (hg : v.grownBy w4 (sa.map (·.block))) (hq : Rw.QRow ESt w4 sa' sc' (f.sets ++ [s])) (hn : ∀ b o s, sa' = some ⟨b, o, s⟩ → (∃ o', sa = some ⟨b, o', none⟩) ∨ v.heap.size ≤ b) :
    Fs w0 bx rv { f with sets := f.sets ++ [s] } sa' sc' (w4.setCell ⟨bx, 5, none⟩ (.slice sa' (f.sets.length + 1) sc')) := by
  have hv := h.below hb
  have hne : ∀ k, k < v.heap.size → (∀ o s, sa ≠ some ⟨k, o, s⟩) → w4.heap[k]? = v.heap[k]? := fun k hk hne => hg.block k hk (fun e => by
    symm at e
    rw [Option.map_eq_some_iff] at e
    obtain ⟨⟨b, o, s⟩, e1, rfl⟩ := e
    exact hne o s e1)
  have hxl : bx < v.heap.size := (Array.getElem?_eq_some_iff.1 hv.fb).1
  have hrl : rv < v.heap.size := (Array.getElem?_eq_some_iff.1 hv.rvb).1
  have f4 : Fb bx f sa sc w4 := (hne bx hxl (fun o s e => (h.ap bx o s e).2.1 rfl)).trans hv.fb
  have r4 : Fb rv noFr none 0 w4 := (hne rv hrl (fun o s e => (h.ap rv o s e).2.2 rfl)).trans hv.rvb
  have hap : ∀ b o s, sa' = some ⟨b, o, s⟩ → w0.heap.size ≤ b ∧ b ≠ bx ∧ b ≠ rv := fun b o s e => by
    rcases hn b o s e with ⟨o', e'⟩ | h1
    · exact h.ap b o' none e'
    · have := hv.bel.size; exact ⟨by omega, by omega, by omega⟩
  have b4 : Below w0.heap.size w0 w4 := ⟨hg.os.trans hv.bel.os, hg.tape.trans hv.bel.tape, hg.output.trans hv.bel.output, Nat.le_trans hv.bel.size hg.size, fun k hk => (hne k (Nat.lt_of_lt_of_le hk hv.bel.size) (fun o s e => by have := (h.ap k o s e).1; omega)).trans (hv.bel.block k hk)⟩
  refine ⟨b4.setCell (p := ⟨bx, 5, none⟩) h.lo.1 _, f4.set (f' := { f with sets := f.sets ++ [s] }) 5 _ ?_, (Below.heap_setCell w4 ⟨bx, 5, none⟩ _ rv (fun e => h.lo.2.2 e.symm)).trans r4, ?_, hap, h.lo⟩
  · have : (f.sets ++ [s]).length = f.sets.length + 1 := by simp
    rw [frC, frC]
    simp only [this]
    rfl
  · exact hq.block (by simp [World.setCell]) (fun b o s e => Below.heap_setCell w4 ⟨bx, 5, none⟩ _ b (fun e2 => (hap b o s e).2.1 e2))

set_option maxHeartbeats 1000000 in
theorem fld_F {Q : Exit → Act → World → Prop} {w0 : World} {bx rv sc pc : Nat} {f : FrM} {sa pa : Option Addr} {p : List UInt8} (a : Act) (w : World) (h : Fs w0 bx rv f sa sc w) (z : Pz w0 pa pc p) (hl : f.type = 4 → p.length % 6 = 0) (hm : p.length ≤ 100000000) (hs : f.sets.length ≤ 100000000)
    (ha : Fr.Is 109 [(1, .slice pa p.length pc), (2, .pointer (some ⟨bx, 0, none⟩)), (4, .pointer (some ⟨rv, 0, none⟩))] a)
    (hQ : ∀ a' w' pa' pc' sa' sc', Fr.Is 109 [(1, .slice pa' (fF f p).2.length pc'), (2, .pointer (some ⟨bx, 0, none⟩)), (4, .pointer (some ⟨rv, 0, none⟩))] a' → Fs w0 bx rv (fF f p).1 sa' sc' w' → Pz w0 pa' pc' (fF f p).2 → Q .normal a' w') :
    (Fr.navL (Fr.tail Tryd.f27 6)).wp Tryd.prog Q a w := by
  conv => arg 2; whnf
  refine wp_block ?_
  by_cases hp : f.type = 4
  · have hl := hl hp
    simp only [fF, if_pos hp] at hQ
    obtain ⟨S, hS⟩ : ∃ S, S = f.sets ++ setsF p.length p := ⟨_, rfl⟩
    rw [← hS] at hQ
    refine wp_loop_ghost (fun n a' w' => ∃ (q : List UInt8) (qa : Option Addr) (qc : Nat) (g : List StM) (sa' : Option Addr) (sc' : Nat), n = q.length ∧ q.length % 6 = 0 ∧ S = g ++ setsF q.length q ∧ g.length + q.length ≤ 200000000 ∧ Fs w0 bx rv { f with sets := g } sa' sc' w' ∧ Pz w0 qa qc q ∧ Fr.Is 109 [(1, .slice qa q.length qc), (2, .pointer (some ⟨bx, 0, none⟩)), (4, .pointer (some ⟨rv, 0, none⟩))] a') p.length
      ⟨p, pa, pc, f.sets, sa, sc, rfl, hl, hS, by omega, h, z, ha⟩ ?_
    rintro n a1 w1 ⟨q, qa, qc, g, sa1, sc1, rfl, hq6, hS1, hgl, h1, z1, ha1⟩
    have ht : w1.cell? ⟨bx, 0, none⟩ = some (.int .i64 4) := by have := h1.fb.cellz 0; rw [this]; show some (Value.int .i64 f.type) = _; rw [hp]
    refine wp_seq (wp_seq ?_)
    refine fld_r19 (t := 4) a1 w1 ht ha1 (Lib.hid (fun a2 h2 => ?_))
    by_cases hq : 0 < q.length
    · refine wp_cond_true (h2.get (i := 80) (v := .bool true) (by simp [hq])) ?_
      refine wp_skip ?_
      refine wp_block ?_
      refine wp_seq ?_
      have hq6' : 6 ≤ q.length := by omega
      have hml : q.length ≤ maxLen := Nat.le_trans z1.le z1.max
      refine fld_r20 (rv := rv) (n := q.length) (pc := qc) (pa := qa) (U := at' q 0 2) (V := at' q 2 4) a2 w1 h1.fb rfl h1.row (fun o s e => (h1.ap bx o s e).2.1 rfl) rfl (by simp only; omega) (Lib.hid (fun v hv => rat_any qa q qc 0 2 v hml ((z1.rb.below h1.bel).below hv) (by decide) (by decide) (by omega))) (Lib.hid (fun v hv => rat_any qa q qc 2 4 v hml ((z1.rb.below h1.bel).below hv) (by decide) (by decide) (by omega))) (h2.less (by simp)) (Lib.hid (fun a3 h3 v ad' cap' v4 hb hg hqr hn => ?_))
      have h4 := fs_append h1 hb hg hqr hn
      refine fld_r21 (p := q) a3 _ hq6' z1.le h3 (Lib.hid (fun a4 h5 => ?_))
      obtain ⟨m, hm1⟩ : ∃ m, q.length = 6 * m + 6 := ⟨q.length / 6 - 1, by omega⟩
      have hst := setsF_step m q hm1
      have hd : (q.drop 6).length = q.length - 6 := List.length_drop
      refine ⟨(q.drop 6).length, by omega, q.drop 6, _, _, g ++ [⟨at' q 0 2, at' q 2 4⟩], ad', cap', rfl, by omega, ?_, ?_, h4, z1.from 6, h5⟩
      · rw [hS1, hst, List.append_assoc]; rfl
      · rw [List.length_append, hd]; simp; omega
    · have hq0 : q = [] := List.eq_nil_of_length_eq_zero (by omega)
      subst hq0
      refine wp_cond_false (h2.get (i := 80) (v := .bool false) (by simp)) ?_
      refine wp_exit ?_
      have hSg : S = g := by rw [hS1]; simp [setsF]
      rw [hSg] at hQ
      exact hQ _ _ qa qc sa1 sc1 (h2.less (by simp)) h1 z1
  · simp only [fF, if_neg hp] at hQ
    refine wp_loop_ghost (fun n a' w' => a' = a ∧ w' = w) 0 ⟨rfl, rfl⟩ ?_
    rintro n a1 w1 ⟨rfl, rfl⟩
    refine wp_seq (wp_seq ?_)
    refine fld_r19 (t := f.type) a1 w1 (h.fb.cellz 0) ha (Lib.hid (fun a2 h2 => ?_))
    refine wp_cond_false (h2.get (i := 80) (v := .bool false) (by simp [hp])) ?_
    refine wp_exit ?_
    exact hQ _ _ pa pc sa sc (h2.less (by simp)) h z
end Go.Proofs.YtglhdlkmgmbgeaaDoor

namespace Go.Proofs.YtglhdlkmgmbgeaaDoor
open Go.RowKit
open Fra Oct Arg Mem Gen Go.Proofs.YtglhdlkmgmbgeaaDoor.Obj
set_option linter.unusedVariables false
set_option linter.unusedSimpArgs false

/-- What is left when all numbers are told. -/
def fAll (f : FrM) (p : List UInt8) : FrM × List UInt8 :=
  fF (fE (fD (fC (fB (fA f p).1 (fA f p).2).1 (fB (fA f p).1 (fA f p).2).2).1 (fC (fB (fA f p).1 (fA f p).2).1 (fB (fA f p).1 (fA f p).2).2).2).1 (fD (fC (fB (fA f p).1 (fA f p).2).1 (fB (fA f p).1 (fA f p).2).2).1 (fC (fB (fA f p).1 (fA f p).2).1 (fB (fA f p).1 (fA f p).2).2).2).2).1 (fE (fD (fC (fB (fA f p).1 (fA f p).2).1 (fB (fA f p).1 (fA f p).2).2).1 (fC (fB (fA f p).1 (fA f p).2).1 (fB (fA f p).1 (fA f p).2).2).2).1 (fD (fC (fB (fA f p).1 (fA f p).2).1 (fB (fA f p).1 (fA f p).2).2).1 (fC (fB (fA f p).1 (fA f p).2).1 (fB (fA f p).1 (fA f p).2).2).2).2).2
/-- The end of fields. -/
def fEnd (f : FrM) (p : List UInt8) : FrM × Bool :=
  if (p.length : Int) < f.pad then (f, false) else ({ f with data := ⟨(p.take (p.length - f.pad.toNat)).toArray⟩ }, true)

theorem fA_keep (f : FrM) (p : List UInt8) : (fA f p).1.type = f.type ∧ (fA f p).1.flags = f.flags ∧ (fA f p).1.sets = f.sets ∧ (fA f p).2.length ≤ p.length := by
  unfold fA; split <;> simp
theorem fB_keep (f : FrM) (p : List UInt8) : (fB f p).1.type = f.type ∧ (fB f p).1.flags = f.flags ∧ (fB f p).1.sets = f.sets ∧ (fB f p).2.length ≤ p.length ∧ (fB f p).1.pad = f.pad := by
  unfold fB; split <;> simp
theorem fC_keep (f : FrM) (p : List UInt8) : (fC f p).1.type = f.type ∧ (fC f p).1.flags = f.flags ∧ (fC f p).1.sets = f.sets ∧ (fC f p).2.length ≤ p.length ∧ (fC f p).1.pad = f.pad := by
  unfold fC; split <;> simp
theorem fD_keep (f : FrM) (p : List UInt8) : (fD f p).1.type = f.type ∧ (fD f p).1.flags = f.flags ∧ (fD f p).1.sets = f.sets ∧ (fD f p).2.length ≤ p.length ∧ (fD f p).1.pad = f.pad := by
  unfold fD; split <;> simp
theorem fE_keep (f : FrM) (p : List UInt8) : (fE f p).1.type = f.type ∧ (fE f p).1.flags = f.flags ∧ (fE f p).1.sets = f.sets ∧ (fE f p).2.length ≤ p.length ∧ (fE f p).1.pad = f.pad := by
  unfold fE; split <;> simp
theorem fF_keep (f : FrM) (p : List UInt8) : (fF f p).1.pad = f.pad ∧ (fF f p).2.length ≤ p.length := by
  unfold fF; split <;> simp

theorem pad_hdr (t fl st : Int) : paddedB (hdrF t fl st) = (decide (t ≤ 1) && hasF fl 8) := rfl
theorem place_hdr (t fl st : Int) : placedB (hdrF t fl st) = (decide (t = 2) || (decide (t = 1) && hasF fl 32)) := rfl
theorem fA_place (f : FrM) (p : List UInt8) : placedB (fA f p).1 = placedB f := by
  have h := fA_keep f p; rw [placedB, h.1, h.2.1, placedB]
theorem fC_no {f : FrM} (p : List UInt8) (h : f.type ≠ 7) : fC f p = (f, p) := by rw [fC, if_neg h]
theorem fD_no {f : FrM} (p : List UInt8) (h : f.type ≠ 3) : fD f p = (f, p) := by rw [fD, if_neg h]
theorem fE_no {f : FrM} (p : List UInt8) (h : f.type ≠ 8) : fE f p = (f, p) := by rw [fE, if_neg h]
theorem fF_no {f : FrM} (p : List UInt8) (h : f.type ≠ 4) : fF f p = (f, p) := by rw [fF, if_neg h]
theorem un_A (t fl st : Int) (p : List UInt8) (h : 2 ≤ t) : fA (hdrF t fl st) p = (hdrF t fl st, p) := by
  have hpd : paddedB (hdrF t fl st) = false := by rw [pad_hdr, decide_eq_false (by omega)]; rfl
  rw [fA, hpd]; rfl
theorem un_B (t fl st : Int) (p : List UInt8) (h : 3 ≤ t) : fB (hdrF t fl st) p = (hdrF t fl st, p) := by
  have hpd : placedB (hdrF t fl st) = false := by rw [place_hdr, decide_eq_false (by omega), decide_eq_false (by omega)]; rfl
  rw [fB, hpd]; rfl

theorem fields_7 (fl st : Int) (p : List UInt8) : fieldsF 7 fl st p = fEnd (fAll (hdrF 7 fl st) p).1 (fAll (hdrF 7 fl st) p).2 := by
  have eC : fC (hdrF 7 fl st) p = ({ hdrF 7 fl st with last := at' p 0 4 % 2147483648, code := at' p 4 4 }, p.drop 8) := by rw [fC, if_pos (show (hdrF 7 fl st).type = 7 from rfl)]
  have h3 : ({ hdrF 7 fl st with last := at' p 0 4 % 2147483648, code := at' p 4 4 } : FrM).type = 7 := rfl
  rw [fAll, un_A 7 fl st p (by omega), un_B 7 fl st p (by omega), eC]
  simp only
  rw [fD_no _ (by rw [h3]; decide), fE_no _ (by rw [h3]; decide), fF_no _ (by rw [h3]; decide)]
  simp [fieldsF, fEnd, hdrF, noFr]
theorem fields_3 (fl st : Int) (p : List UInt8) : fieldsF 3 fl st p = fEnd (fAll (hdrF 3 fl st) p).1 (fAll (hdrF 3 fl st) p).2 := by
  have eD : fD (hdrF 3 fl st) p = ({ hdrF 3 fl st with code := at' p 0 4 }, []) := by rw [fD, if_pos (show (hdrF 3 fl st).type = 3 from rfl)]
  have h3 : ({ hdrF 3 fl st with code := at' p 0 4 } : FrM).type = 3 := rfl
  have h0 : (hdrF 3 fl st).type = 3 := rfl
  rw [fAll, un_A 3 fl st p (by omega), un_B 3 fl st p (by omega)]
  simp only
  rw [fC_no _ (by rw [h0]; decide), eD]
  simp only
  rw [fE_no _ (by rw [h3]; decide), fF_no _ (by rw [h3]; decide)]
  simp [fieldsF, fEnd, hdrF, noFr]
theorem fields_8 (fl st : Int) (p : List UInt8) : fieldsF 8 fl st p = fEnd (fAll (hdrF 8 fl st) p).1 (fAll (hdrF 8 fl st) p).2 := by
  have eE : fE (hdrF 8 fl st) p = ({ hdrF 8 fl st with inc := at' p 0 4 % 2147483648 }, []) := by rw [fE, if_pos (show (hdrF 8 fl st).type = 8 from rfl)]
  have h3 : ({ hdrF 8 fl st with inc := at' p 0 4 % 2147483648 } : FrM).type = 8 := rfl
  have h0 : (hdrF 8 fl st).type = 8 := rfl
  rw [fAll, un_A 8 fl st p (by omega), un_B 8 fl st p (by omega)]
  simp only
  rw [fC_no _ (by rw [h0]; decide)]
  simp only
  rw [fD_no _ (by rw [h0]; decide), eE]
  simp only
  rw [fF_no _ (by rw [h3]; decide)]
  simp [fieldsF, fEnd, hdrF, noFr]
theorem fields_4 (fl st : Int) (p : List UInt8) : fieldsF 4 fl st p = fEnd (fAll (hdrF 4 fl st) p).1 (fAll (hdrF 4 fl st) p).2 := by
  have eF : fF (hdrF 4 fl st) p = ({ hdrF 4 fl st with sets := setsF p.length p }, []) := by rw [fF, if_pos (show (hdrF 4 fl st).type = 4 from rfl)]; simp [hdrF, noFr]
  have h0 : (hdrF 4 fl st).type = 4 := rfl
  rw [fAll, un_A 4 fl st p (by omega), un_B 4 fl st p (by omega)]
  simp only
  rw [fC_no _ (by rw [h0]; decide)]
  simp only
  rw [fD_no _ (by rw [h0]; decide)]
  simp only
  rw [fE_no _ (by rw [h0]; decide)]
  simp only
  rw [eF]
  simp [fieldsF, fEnd, hdrF, noFr]
theorem fields_x (t fl st : Int) (p : List UInt8) (h7 : t ≠ 7) (h3 : t ≠ 3) (h8 : t ≠ 8) (h4 : t ≠ 4) : fieldsF t fl st p = fEnd (fAll (hdrF t fl st) p).1 (fAll (hdrF t fl st) p).2 := by
  obtain ⟨A, hA⟩ : ∃ A, A = fA (hdrF t fl st) p := ⟨_, rfl⟩
  obtain ⟨B, hB⟩ : ∃ B, B = fB A.1 A.2 := ⟨_, rfl⟩
  have kA := fA_keep (hdrF t fl st) p
  have kB := fB_keep A.1 A.2
  rw [← hA] at kA
  rw [← hB] at kB
  have hBt : B.1.type = t := by rw [kB.1, kA.1]; rfl
  rw [fAll, ← hA, ← hB]
  rw [fC_no _ (by rw [hBt]; exact h7)]
  simp only
  rw [fD_no _ (by rw [hBt]; exact h3)]
  simp only
  rw [fE_no _ (by rw [hBt]; exact h8)]
  simp only
  rw [fF_no _ (by rw [hBt]; exact h4)]
  rw [hB, fB, show placedB A.1 = placedB (hdrF t fl st) from by rw [hA, fA_place], place_hdr, hA, fA, pad_hdr]
  clear hA hB kA kB hBt
  unfold fieldsF fEnd hdrF noFr
  generalize (decide (t ≤ 1) && hasF fl 8) = x
  generalize (decide (t = 2) || (decide (t = 1) && hasF fl 32)) = y
  cases x <;> cases y <;> simp [h7, h3, h8, h4]
theorem fields_all (t fl st : Int) (p : List UInt8) : fieldsF t fl st p = fEnd (fAll (hdrF t fl st) p).1 (fAll (hdrF t fl st) p).2 := by
  by_cases h7 : t = 7
  · subst h7; exact fields_7 fl st p
  · by_cases h3 : t = 3
    · subst h3; exact fields_3 fl st p
    · by_cases h8 : t = 8
      · subst h8; exact fields_8 fl st p
      · by_cases h4 : t = 4
        · subst h4; exact fields_4 fl st p
        · exact fields_x t fl st p h7 h3 h8 h4

theorem pre_A (t fl st : Int) (p : List UInt8) (h0 : 0 ≤ t) (h : sizedB t fl p.length = true) : paddedB (hdrF t fl st) = true → 1 ≤ p.length := by
  intro hp
  rw [pad_hdr, Bool.and_eq_true, decide_eq_true_eq] at hp
  rw [sizedB, if_pos (by omega)] at h
  simp only [needN, hp.2, ↓reduceIte, decide_eq_true_eq] at h
  omega
theorem pre_B (t fl st : Int) (p : List UInt8) (h0 : 0 ≤ t) (h : sizedB t fl p.length = true) : placedB (fA (hdrF t fl st) p).1 = true → 5 ≤ (fA (hdrF t fl st) p).2.length := by
  intro hp
  rw [fA_place, place_hdr, Bool.or_eq_true, Bool.and_eq_true, decide_eq_true_eq, decide_eq_true_eq] at hp
  rcases hp with rfl | ⟨rfl, h32⟩
  · rw [un_A 2 fl st p (by omega)]
    simp [sizedB] at h
    simp only; omega
  · rw [sizedB, if_pos (by omega)] at h
    simp only [needN, h32, decide_eq_true_eq] at h
    have hpd : paddedB (hdrF 1 fl st) = hasF fl 8 := by rw [pad_hdr]; simp
    rw [fA, hpd]
    cases h8 : hasF fl 8
    · rw [h8] at h; simp at h ⊢; omega
    · rw [h8] at h; simp at h ⊢; omega
theorem pre_n (t fl st : Int) (p : List UInt8) (h : sizedB t fl p.length = true) (h3 : 3 ≤ t) : (fB (fA (hdrF t fl st) p).1 (fA (hdrF t fl st) p).2).2 = p := by
  rw [un_A t fl st p (by omega)]; simp only; rw [un_B t fl st p h3]

theorem fields_ret {R : Ending → World → Prop} {rv : Nat} {b : Bool} {a : Act} {w' : World} {f : FrM} {sa : Option Addr} {sc : Nat}
    (ha : Fr.Is 109 [(4, .pointer (some ⟨rv, 0, none⟩)), (5, .bool b)] a) (V : Fb rv f sa sc w') (hR : R (.returned (.tuple #[frV f sa sc, .bool b])) w') : bodyPost Tryd.prog Tryd.f27 R .ret a w' := by
  obtain ⟨fr, rfl, hfr⟩ := ha.lit
  simp only [List.map_cons, List.map_nil, List.cons.injEq, and_true] at hfr
  obtain ⟨h4, h5⟩ := hfr
  obtain ⟨c0, c1, c2, c3, c4, c5, c6, c7, c8, c9, c10, c11⟩ := fr_cells V
  clear V
  refine bodyPost_ret (v := .tuple #[frV f sa sc, .bool b]) ?_ rfl hR
  simp [results, Tryd.results27, go_sem, frV, frC, h4, h5, c0, c1, c2, c3, c4, c5, c6, c7, c8, c9, c10, c11]

/-- What fields leaves. -/
def FiEnd (w : World) (R : FrM × Bool) (e : Ending) (w' : World) : Prop := ∃ sa sc, e = .returned (.tuple #[frV R.1 sa sc, .bool R.2]) ∧ FrOk R.1 sa sc w' ∧ (∀ b o s, sa = some ⟨b, o, s⟩ → w.heap.size ≤ b) ∧ Below w.heap.size w w'

theorem fields_tail {w0 w : World} {bx rv sc pc : Nat} {f : FrM} {sa pa : Option Addr} {p : List UInt8} (a : Act) (h : Fs w0 bx rv f sa sc w) (z : Pz w0 pa pc p) (h0 : 0 ≤ f.pad) (hpl : f.pad ≤ 100000000)
    (ha : Fr.Is 109 [(1, .slice pa p.length pc), (2, .pointer (some ⟨bx, 0, none⟩)), (4, .pointer (some ⟨rv, 0, none⟩))] a) :
    (Fr.tail Tryd.f27 7).wp Tryd.prog (bodyPost Tryd.prog Tryd.f27 (FiEnd w0 (fEnd f p))) a w := by
  conv => arg 2; whnf
  refine wp_seq (wp_seq ?_)
  refine fld_r22 (n := p.length) (pc := pc) (pa := pa) (rv := rv) (pad := f.pad) a w (h.fb.cellz 4) ha (Lib.hid (fun a1 h1 => ?_))
  by_cases hp : (p.length : Int) < f.pad
  · refine wp_cond_true (h1.get (i := 97) (v := .bool true) (by simp [hp])) ?_
    refine wp_seq ?_
    refine fld_r23 (n := p.length) (pc := pc) (pa := pa) a1 w h.fb h.rvb h.lo.2.2 (h1.less (by simp)) (Lib.hid (fun w' a2 h2 V o b => ?_))
    refine wp_ret ?_
    try dsimp only [Exit.then]
    refine fields_ret h2 V ?_
    rw [fEnd, if_pos hp]
    have hrl : rv < w.heap.size := (Array.getElem?_eq_some_iff.1 h.rvb).1
    have hb : Below w0.heap.size w0 w' := ⟨b.os.trans h.bel.os, b.tape.trans h.bel.tape, b.output.trans h.bel.output, Nat.le_trans h.bel.size b.size, fun k hk => (o k (by have := h.lo.2.1; omega)).trans (h.bel.block k hk)⟩
    have hq := h.row.block (w' := w') b.size (fun b' o' s' e => o b' (h.ap b' o' s' e).2.2)
    exact ⟨sa, sc, rfl, ⟨hq.row, hq.le, hq.max⟩, (fun b o s e => (h.ap b o s e).1), hb⟩
  · refine wp_cond_false (h1.get (i := 97) (v := .bool false) (by simp [hp])) ?_
    refine wp_skip ?_
    obtain ⟨k, hk⟩ : ∃ k : Nat, (p.length : Int) - f.pad = k := ⟨p.length - f.pad.toNat, by omega⟩
    have hk2 : p.length - f.pad.toNat = k := by omega
    refine wp_seq ?_
    refine fld_r24 (rv := rv) a1 w h.fb (z.rb.below h.bel) z.le z.max h0 hk (h1.less (by simp)) (Lib.hid (fun a2 h2 => ?_))
    have g := h.set (f' := { f with data := ⟨(p.take k).toArray⟩ }) 3 (.string ⟨(p.take k).toArray⟩) rfl rfl
    refine wp_seq ?_
    refine fld_r25 a2 _ g.fb g.rvb g.lo.2.2 h2 (Lib.hid (fun w' a3 h3 V o b => ?_))
    refine wp_ret ?_
    try dsimp only [Exit.then]
    refine fields_ret h3 V ?_
    rw [fEnd, if_neg hp, hk2]
    have hb : Below w0.heap.size w0 w' := ⟨b.os.trans g.bel.os, b.tape.trans g.bel.tape, b.output.trans g.bel.output, Nat.le_trans g.bel.size b.size, fun k hk => (o k (by have := g.lo.2.1; omega)).trans (g.bel.block k hk)⟩
    have hq := g.row.block (w' := w') b.size (fun b' o' s' e => o b' (g.ap b' o' s' e).2.2)
    exact ⟨sa, sc, rfl, ⟨hq.row, hq.le, hq.max⟩, (fun b o s e => (h.ap b o s e).1), hb⟩

theorem rfields06_any (t fl st : Int) (pa : Option Addr) (pc : Nat) (p : List UInt8) (w : World) (t0 : 0 ≤ t) (f0 : 0 ≤ fl) (f1 : fl ≤ 255) (z : Pz w pa pc p) (hl : p.length ≤ 100000000) (hs : sizedB t fl p.length = true) :
    Calls Tryd.prog 27 #[frV (hdrF t fl st) none 0, .slice pa p.length pc] w (FiEnd w (fieldsF t fl st p)) := by
  rw [fields_all]
  unfold frV
  go_enter Tryd.func27, Tryd.ntmps27
  refine wp_seq ?_
  refine fld_r0 (cs := frC (hdrF t fl st) none 0) (n := p.length) (pc := pc) (pa := pa) _ w (Fr.Is.mk rfl rfl) (Lib.hid (fun a1 h1 => ?_))
  have V1 : Fb w.heap.size (hdrF t fl st) none 0 ((w.alloc (.cells (frC (hdrF t fl st) none 0) 40)).alloc (.cells #[.int .i64 0, .int .i64 0, .int .i64 0, .string ⟨#[]⟩, .int .i64 0, .slice none 0 0, .int .i64 0, .int .i64 0, .int .i64 0, .int .i64 0, .int .i64 0, .bool false] 40)) := alloc_at (heap_alloc_new w _)
  have R1 : Fb (w.heap.size + 1) noFr none 0 ((w.alloc (.cells (frC (hdrF t fl st) none 0) 40)).alloc (.cells #[.int .i64 0, .int .i64 0, .int .i64 0, .string ⟨#[]⟩, .int .i64 0, .slice none 0 0, .int .i64 0, .int .i64 0, .int .i64 0, .int .i64 0, .int .i64 0, .bool false] 40)) := alloc_two w _ _
  have B1 : Below w.heap.size w ((w.alloc (.cells (frC (hdrF t fl st) none 0) 40)).alloc (.cells #[.int .i64 0, .int .i64 0, .int .i64 0, .string ⟨#[]⟩, .int .i64 0, .slice none 0 0, .int .i64 0, .int .i64 0, .int .i64 0, .int .i64 0, .int .i64 0, .bool false] 40)) := below_step (bel_al _ _) (bel_al _ _)
  have g1 : Fs w w.heap.size (w.heap.size + 1) (hdrF t fl st) none 0 _ := ⟨B1, V1, R1, Rw.QRow.bare _ _, (fun b o s e => by cases e), ⟨Nat.le_refl _, by omega, by omega⟩⟩
  clear V1 R1 B1
  have kA := fA_keep (hdrF t fl st) p
  have pA := pre_A t fl st p t0 hs
  have pB := pre_B t fl st p t0 hs
  refine wp_seq ?_
  refine fld_A a1 _ g1 z f0 f1 pA h1 (fun a2 w2 pa2 pc2 h2 g2 z2 => ?_)
  have kB := fB_keep (fA (hdrF t fl st) p).1 (fA (hdrF t fl st) p).2
  refine wp_seq ?_
  refine fld_B a2 w2 g2 z2 (by rw [kA.2.1]; exact f0) (by rw [kA.2.1]; exact f1) pB h2 (fun a3 w3 pa3 pc3 h3 g3 z3 => ?_)
  obtain ⟨F2, hF2⟩ : ∃ x, x = fB (fA (hdrF t fl st) p).1 (fA (hdrF t fl st) p).2 := ⟨_, rfl⟩
  have hAll : fAll (hdrF t fl st) p = fF (fE (fD (fC F2.1 F2.2).1 (fC F2.1 F2.2).2).1 (fD (fC F2.1 F2.2).1 (fC F2.1 F2.2).2).2).1 (fE (fD (fC F2.1 F2.2).1 (fC F2.1 F2.2).2).1 (fD (fC F2.1 F2.2).1 (fC F2.1 F2.2).2).2).2 := by rw [hF2]; rfl
  have hT : F2.1.type = t := by rw [hF2, kB.1, kA.1]; rfl
  have hpn : 3 ≤ t → F2.2 = p := fun h => by rw [hF2]; exact pre_n t fl st p hs h
  have hS : F2.1.sets = [] := by rw [hF2, kB.2.2.1, kA.2.2.1]; rfl
  have hPl : F2.2.length ≤ p.length := by rw [hF2]; omega
  have hPd : 0 ≤ F2.1.pad ∧ F2.1.pad ≤ 255 := by
    rw [hF2, kB.2.2.2.2, fA]
    split
    · have := (p.headD 0).toNat_lt
      simp only; omega
    · exact ⟨Int.le_refl 0, (show (0 : Int) ≤ 255 by decide)⟩
  rw [hAll]
  rw [← hF2] at h3 g3 z3
  clear hAll hF2 kA kB pA pB h1 h2 g1 g2 z2
  have kC := fC_keep F2.1 F2.2
  refine wp_seq ?_
  refine fld_C a3 w3 g3 z3 (fun h => by
    rw [hT] at h; subst h
    rw [hpn (by omega)]
    simpa [sizedB] using hs) h3 (fun a4 w4 pa4 pc4 h4 g4 z4 => ?_)
  have kD := fD_keep (fC F2.1 F2.2).1 (fC F2.1 F2.2).2
  refine wp_seq ?_
  refine fld_D a4 w4 g4 z4 (fun h => by
    rw [kC.1, hT] at h; subst h
    rw [fC_no _ (by rw [hT]; decide), hpn (by omega)]
    simp [sizedB] at hs; omega) h4 (fun a5 w5 pa5 pc5 h5 g5 z5 => ?_)
  have kE := fE_keep (fD (fC F2.1 F2.2).1 (fC F2.1 F2.2).2).1 (fD (fC F2.1 F2.2).1 (fC F2.1 F2.2).2).2
  refine wp_seq ?_
  refine fld_E a5 w5 g5 z5 (fun h => by
    rw [kD.1, kC.1, hT] at h; subst h
    rw [fC_no _ (by rw [hT]; decide)]
    simp only
    rw [fD_no _ (by rw [hT]; decide), hpn (by omega)]
    simp [sizedB] at hs; omega) h5 (fun a6 w6 pa6 pc6 h6 g6 z6 => ?_)
  have kF := fF_keep (fE (fD (fC F2.1 F2.2).1 (fC F2.1 F2.2).2).1 (fD (fC F2.1 F2.2).1 (fC F2.1 F2.2).2).2).1 (fE (fD (fC F2.1 F2.2).1 (fC F2.1 F2.2).2).1 (fD (fC F2.1 F2.2).1 (fC F2.1 F2.2).2).2).2
  refine wp_seq ?_
  refine fld_F a6 w6 g6 z6 (fun h => by
    rw [kE.1, kD.1, kC.1, hT] at h; subst h
    rw [fC_no _ (by rw [hT]; decide)]
    simp only
    rw [fD_no _ (by rw [hT]; decide)]
    simp only
    rw [fE_no _ (by rw [hT]; decide), hpn (by omega)]
    simp [sizedB] at hs; exact hs.1) (by omega) (by rw [kE.2.2.1, kD.2.2.1, kC.2.2.1, hS]; simp) h6 (fun a7 w7 pa7 pc7 sa7 sc7 h7 g7 z7 => ?_)
  refine fields_tail a7 g7 z7 (by rw [kF.1, kE.2.2.2.2, kD.2.2.2.2, kC.2.2.2.2]; exact hPd.1) (by rw [kF.1, kE.2.2.2.2, kD.2.2.2.2, kC.2.2.2.2]; omega) h7
end Go.Proofs.YtglhdlkmgmbgeaaDoor
