/- Layer 7: the law ChopGoes: its regions. Layer 7: the law ChopGoes: both in one piece, and fed. Layer 7: the law ChopGoes: what came is looked at. Layer 7: the law ChopGoes. -/
import Derived.Test.YtglhdlkmgmbgeaaDoorGJ01
import Derived.Test.YtglhdlkmgmbgeaaDoorGD04
import Derived.Test.YtglhdlkmgmbgeaaDoorGE01
set_option linter.unusedVariables false
set_option linter.unusedSimpArgs false
namespace Go.Proofs.YtglhdlkmgmbgeaaDoor
open Go.RowKit
open Cho Fra Oct Arg Mem Gen Wr Qu Pt Sx Go.Proofs.YtglhdlkmgmbgeaaDoor.Obj
set_option linter.unusedVariables false
set_option linter.unusedSimpArgs false

set_option maxRecDepth 100000 in
set_option maxHeartbeats 1000000 in
theorem go_r0 {Q : Exit → Act → World → Prop} {s : Int} {ad : Option Addr} {n cap : Nat} {w : World} (a : Act)
    (ha : Fr.Is 121 [(0, .slice ad n cap), (1, .int .u16 s)] a)
    (hQ : Hid (∀ a', Fr.Is 121 [(0, .slice ad n cap), (1, .int .u16 s)] a' → Q .normal a' w)) :
    (Fr.reg Tryd.f7 0).wp Tryd.prog Q a w := by
  obtain ⟨fr, rfl, hfr⟩ := ha.lit
  simp only [List.map_cons, List.map_nil, List.cons.injEq, and_true] at hfr
  conv => arg 2; whnf
  simp only [List.range, List.range.loop, List.map_cons, List.map_nil, hfr]
  clear hfr ha
  go_wp2_with fail
  exact hQ.out _ (Fr.Is.mk rfl rfl)

set_option maxRecDepth 100000 in
set_option maxHeartbeats 1000000 in
theorem go_r1 {Q : Exit → Act → World → Prop} {s : Int} {ad : Option Addr} {n cap : Nat} {w : World} (HA : Hid (Calls Tryd.prog 8 #[] w fun e w' => e = .returned (.bool true) ∧ Below w.heap.size w w')) (a : Act)
    (ha : Fr.Is 121 [(0, .slice ad n cap), (1, .int .u16 s)] a)
    (hQ : Hid (∀ a' w', Fr.Is 121 [(0, .slice ad n cap), (1, .int .u16 s), (17, .bool false)] a' → Below w.heap.size w w' → Q .normal a' w')) :
    (Fr.reg Tryd.f7 1).wp Tryd.prog Q a w := by
  obtain ⟨fr, rfl, hfr⟩ := ha.lit
  simp only [List.map_cons, List.map_nil, List.cons.injEq, and_true] at hfr
  conv => arg 2; whnf
  simp only [List.range, List.range.loop, List.map_cons, List.map_nil, hfr]
  clear hfr ha
  go_wp2_with fail
  refine HA.out.mono ?_
  rintro e w1 ⟨rfl, b1⟩
  have HB := Lib.hid b1
  clear b1 HA
  go_wp2_with fail
  exact hQ.out _ _ (Fr.Is.mk rfl rfl) HB.out

set_option maxRecDepth 100000 in
set_option maxHeartbeats 1000000 in
theorem go_r3 {Q : Exit → Act → World → Prop} {s : Int} (hs : 0 ≤ s ∧ s ≤ 65535) {ad : Option Addr} {n cap : Nat} {w : World} (a : Act)
    (ha : Fr.Is 121 [(0, .slice ad n cap), (1, .int .u16 s)] a)
    (hQ : Hid (∀ a', Fr.Is 121 [(0, .slice ad n cap), (5, .int .i64 (1 + s))] a' → Q .normal a' w)) :
    (Fr.reg Tryd.f7 3).wp Tryd.prog Q a w := by
  obtain ⟨fr, rfl, hfr⟩ := ha.lit
  simp only [List.map_cons, List.map_nil, List.cons.injEq, and_true] at hfr
  conv => arg 2; whnf
  simp only [List.range, List.range.loop, List.map_cons, List.map_nil, hfr]
  clear hfr ha
  obtain ⟨h1, h2⟩ := hs
  have e1 : IntKind.i64.wrap s = s := IntWalk.i64_in _ (by omega)
  have e2 : IntKind.i64.wrap (1 + s) = 1 + s := IntWalk.i64_in _ (by omega)
  go_wp2_with fail
  exact hQ.out _ (Fr.Is.mk rfl rfl)

set_option maxRecDepth 100000 in
set_option maxHeartbeats 1000000 in
theorem go_r4 {Q : Exit → Act → World → Prop} {id : Int} {R : List UInt8} {ad : Option Addr} {n cap : Nat} {w : World} (HP : Hid (Calls Tryd.prog 16 #[.agg #[.int .i64 8, .int .i64 0, .int .i64 id, .string ⟨#[]⟩, .int .i64 0, .slice none 0 0, .int .i64 0, .int .i64 0, .int .i64 0, .int .i64 0, .int .i64 0, .bool false]] w (PutEnd (R, 0) w))) (a : Act)
    (ha : Fr.Is 121 [(0, .slice ad n cap), (5, .int .i64 id)] a)
    (hQ : Hid (∀ a' w' oa oc, Fr.Is 121 [(0, .slice ad n cap), (5, .int .i64 id), (6, .slice oa R.length oc)] a' → OutB w.heap.size [] oa oc R w' → Below w.heap.size w w' → Q .normal a' w')) :
    (Fr.reg Tryd.f7 4).wp Tryd.prog Q a w := by
  obtain ⟨fr, rfl, hfr⟩ := ha.lit
  simp only [List.map_cons, List.map_nil, List.cons.injEq, and_true] at hfr
  conv => arg 2; whnf
  simp only [List.range, List.range.loop, List.map_cons, List.map_nil, hfr]
  clear hfr ha
  go_wp2_with fail
  refine HP.out.mono ?_
  rintro e w1 ⟨oa, oc, rfl, ho, hb⟩
  have HO := Lib.hid ho
  have HB := Lib.hid hb
  clear ho hb HP
  go_wp2_with fail
  exact hQ.out _ _ _ _ (Fr.Is.mk rfl rfl) HO.out HB.out

set_option maxRecDepth 100000 in
set_option maxHeartbeats 1000000 in
theorem go_r5 {Q : Exit → Act → World → Prop} {id : Int} {bad : Value} {W0 : World} {obs : List Th} {ad : Option Addr} {n cap : Nat} {w : World} (HS : Hid (Sts W0 w obs)) (a : Act)
    (ha : Fr.Is 121 [(0, .slice ad n cap), (5, .int .i64 id), (6, bad)] a)
    (hQ : Hid (∀ a' w' fb, Fr.Is 121 [(0, .slice ad n cap), (5, .int .i64 id), (6, bad), (8, .pointer (some ⟨fb, 0, none⟩))] a' → Sts W0 w' ((fb :: blk none, FdP fb none 0 16777215 ⟨[], false, false⟩) :: obs) → Q .normal a' w')) :
    (Fr.reg Tryd.f7 5).wp Tryd.prog Q a w := by
  obtain ⟨fr, rfl, hfr⟩ := ha.lit
  simp only [List.map_cons, List.map_nil, List.cons.injEq, and_true] at hfr
  conv => arg 2; whnf
  simp only [List.range, List.range.loop, List.map_cons, List.map_nil, hfr]
  clear hfr ha
  go_wp2_with fail
  refine (st_feed 16777215 false HS.out).mono ?_
  rintro e w2 ⟨gb, rfl, S2⟩
  rw [show max (16777215 : Int) 0 = 16777215 from by decide] at S2
  have HS2 := Lib.hid S2
  clear S2
  go_wp2_with fail
  exact hQ.out _ _ _ (Fr.Is.mk rfl rfl) HS2.out

set_option maxRecDepth 100000 in
set_option maxHeartbeats 1000000 in
theorem go_r6 {Q : Exit → Act → World → Prop} {id : Int} {bad : Value} {fb : Nat} {ad : Option Addr} {n cap : Nat} {w : World} (a : Act)
    (ha : Fr.Is 121 [(0, .slice ad n cap), (5, .int .i64 id), (6, bad), (8, .pointer (some ⟨fb, 0, none⟩))] a)
    (hQ : Hid (∀ a', Fr.Is 121 [(0, .slice ad n cap), (5, .int .i64 id), (6, bad), (8, .pointer (some ⟨fb, 0, none⟩)), (9, .int .i64 (0 : Nat))] a' → Q .normal a' w)) :
    (Fr.reg Tryd.f7 6).wp Tryd.prog Q a w := by
  obtain ⟨fr, rfl, hfr⟩ := ha.lit
  simp only [List.map_cons, List.map_nil, List.cons.injEq, and_true] at hfr
  conv => arg 2; whnf
  simp only [List.range, List.range.loop, List.map_cons, List.map_nil, hfr]
  clear hfr ha
  go_wp2_with fail
  exact hQ.out _ (Fr.Is.mk rfl rfl)

set_option maxRecDepth 100000 in
set_option maxHeartbeats 1000000 in
theorem go_r7 {Q : Exit → Act → World → Prop} {id : Int} {bad : Value} {fb : Nat} {i : Nat} {ad : Option Addr} {n cap : Nat} {w : World} (a : Act)
    (ha : Fr.Is 121 [(0, .slice ad n cap), (5, .int .i64 id), (6, bad), (8, .pointer (some ⟨fb, 0, none⟩)), (9, .int .i64 i)] a)
    (hQ : Hid (∀ a', Fr.Is 121 [(0, .slice ad n cap), (5, .int .i64 id), (6, bad), (8, .pointer (some ⟨fb, 0, none⟩)), (9, .int .i64 i), (35, .bool (decide (i < n ∧ i < 30)))] a' → Q .normal a' w)) :
    (Fr.reg Tryd.f7 7).wp Tryd.prog Q a w := by
  obtain ⟨fr, rfl, hfr⟩ := ha.lit
  simp only [List.map_cons, List.map_nil, List.cons.injEq, and_true] at hfr
  conv => arg 2; whnf
  simp only [List.range, List.range.loop, List.map_cons, List.map_nil, hfr]
  clear hfr ha
  by_cases h1 : i < n
  · have h1' : (i : Int) < n := by omega
    by_cases h2 : i < 30
    · have h2' : (i : Int) < 30 := by omega
      rw [decide_eq_true (show i < n ∧ i < 30 from ⟨h1, h2⟩)] at hQ
      go_wp2_with fail
      exact hQ.out _ (Fr.Is.mk rfl rfl)
    · have h2' : ¬ (i : Int) < 30 := by omega
      rw [decide_eq_false (show ¬ (i < n ∧ i < 30) from fun h => h2 h.2)] at hQ
      go_wp2_with fail
      exact hQ.out _ (Fr.Is.mk rfl rfl)
  · have h1' : ¬ (i : Int) < n := by omega
    rw [decide_eq_false (show ¬ (i < n ∧ i < 30) from fun h => h1 h.1)] at hQ
    go_wp2_with fail
    exact hQ.out _ (Fr.Is.mk rfl rfl)

set_option maxRecDepth 100000 in
set_option maxHeartbeats 1000000 in
theorem go_r9 {Q : Exit → Act → World → Prop} {id : Int} {bad : Value} {fb : Nat} {i bl off n cap : Nat} {x : FrX} {w : World} (hin : i < n) (hx : Rw.CE EFr w bl (off + i * 12) x)  (a : Act)
    (ha : Fr.Is 121 [(0, .slice (some ⟨bl, off, none⟩) n cap), (5, .int .i64 id), (6, bad), (8, .pointer (some ⟨fb, 0, none⟩)), (9, .int .i64 i)] a)
    (hQ : Hid (∀ a', Fr.Is 121 [(0, .slice (some ⟨bl, off, none⟩) n cap), (5, .int .i64 id), (6, bad), (8, .pointer (some ⟨fb, 0, none⟩)), (9, .int .i64 i), (53, .bool (decide (x.1.data.size > 16384 ∨ x.1.sets.length > 1000)))] a' → Q .normal a' w)) :
    (Fr.reg Tryd.f7 9).wp Tryd.prog Q a w := by
  obtain ⟨fr, rfl, hfr⟩ := ha.lit
  simp only [List.map_cons, List.map_nil, List.cons.injEq, and_true] at hfr
  conv => arg 2; whnf
  simp only [List.range, List.range.loop, List.map_cons, List.map_nil, hfr]
  clear hfr ha
  obtain ⟨_, _, _, c3, _, c5, _, _, _, _, _, _⟩ := CE_fr hx
  have hin' : (i : Int) < n := by omega
  obtain ⟨p, hp⟩ : ∃ p, p = x.1.sets.length := ⟨_, rfl⟩
  rw [← hp] at c5 hQ
  clear hx hp
  by_cases h1 : x.1.data.size > 16384
  · have h1' : (x.1.data.size : Int) > 16384 := by omega
    rw [decide_eq_true (show x.1.data.size > 16384 ∨ p > 1000 from .inl h1)] at hQ
    go_wp2_with fail
    exact hQ.out _ (Fr.Is.mk rfl rfl)
  · have h1' : ¬ (x.1.data.size : Int) > 16384 := by omega
    by_cases h2 : p > 1000
    · have h2' : (p : Int) > 1000 := by omega
      rw [decide_eq_true (show x.1.data.size > 16384 ∨ p > 1000 from .inr h2)] at hQ
      go_wp2_with fail
      exact hQ.out _ (Fr.Is.mk rfl rfl)
    · have h2' : ¬ (p : Int) > 1000 := by omega
      rw [decide_eq_false (show ¬ (x.1.data.size > 16384 ∨ p > 1000) from fun h => h.elim h1 h2)] at hQ
      go_wp2_with fail
      exact hQ.out _ (Fr.Is.mk rfl rfl)

set_option maxRecDepth 100000 in
set_option maxHeartbeats 1000000 in
theorem go_r11 {Q : Exit → Act → World → Prop} {id : Int} {bad : Value} {fb : Nat} {i bl off n cap : Nat} {x : FrX} {w : World} (hin : i < n) (hx : Rw.CE EFr w bl (off + i * 12) x) {R : List UInt8} {er : Nat} (HP : Hid (Calls Tryd.prog 16 #[frV x.1 x.2.1 x.2.2] w (PutEnd (R, er) w))) (a : Act)
    (ha : Fr.Is 121 [(0, .slice (some ⟨bl, off, none⟩) n cap), (5, .int .i64 id), (6, bad), (8, .pointer (some ⟨fb, 0, none⟩)), (9, .int .i64 i)] a)
    (hQ : Hid (∀ a' w' oa oc, Fr.Is 121 [(0, .slice (some ⟨bl, off, none⟩) n cap), (5, .int .i64 id), (6, bad), (8, .pointer (some ⟨fb, 0, none⟩)), (9, .int .i64 i), (10, .slice oa R.length oc), (11, .int .i64 er)] a' → OutB w.heap.size [] oa oc R w' → Below w.heap.size w w' → Q .normal a' w')) :
    (Fr.reg Tryd.f7 11).wp Tryd.prog Q a w := by
  obtain ⟨fr, rfl, hfr⟩ := ha.lit
  simp only [List.map_cons, List.map_nil, List.cons.injEq, and_true] at hfr
  conv => arg 2; whnf
  simp only [List.range, List.range.loop, List.map_cons, List.map_nil, hfr]
  clear hfr ha
  obtain ⟨c0, c1, c2, c3, c4, c5, c6, c7, c8, c9, c10, c11⟩ := CE_fr hx
  have hin' : (i : Int) < n := by omega
  unfold frV frC at HP
  clear hx
  go_wp2_with fail
  refine HP.out.mono ?_
  rintro e w1 ⟨oa, oc, rfl, ho, hb⟩
  have HO := Lib.hid ho
  have HB := Lib.hid hb
  clear ho hb HP c0 c1 c2 c3 c4 c5 c6 c7 c8 c9 c10 c11
  go_wp2_with fail
  exact hQ.out _ _ _ _ (Fr.Is.mk rfl rfl) HO.out HB.out

set_option maxRecDepth 100000 in
set_option maxHeartbeats 1000000 in
theorem go_r12 {Q : Exit → Act → World → Prop} {id : Int} {bad : Value} {fb : Nat} {i m oc : Nat} {oa : Option Addr} {er : Nat} {R : FrM × Nat × FaM} {ad : Option Addr} {n cap : Nat} {w : World} (HT : Hid (Calls Tryd.prog 17 #[.slice oa m oc, .int .i64 16777215] w (TkNew w R))) (a : Act)
    (ha : Fr.Is 121 [(0, .slice ad n cap), (5, .int .i64 id), (6, bad), (8, .pointer (some ⟨fb, 0, none⟩)), (9, .int .i64 i), (10, .slice oa m oc), (11, .int .i64 er)] a)
    (hQ : Hid (∀ a' w' xb, Fr.Is 121 [(0, .slice ad n cap), (5, .int .i64 id), (6, bad), (8, .pointer (some ⟨fb, 0, none⟩)), (9, .int .i64 i), (10, .slice oa m oc), (11, .int .i64 er), (14, .pointer (some ⟨xb, 0, none⟩))] a' → Below w.heap.size w w' → w'.cell? ⟨xb, 0, none⟩ = some (.bool R.2.2.is) → Q .normal a' w')) :
    (Fr.reg Tryd.f7 12).wp Tryd.prog Q a w := by
  obtain ⟨fr, rfl, hfr⟩ := ha.lit
  simp only [List.map_cons, List.map_nil, List.cons.injEq, and_true] at hfr
  conv => arg 2; whnf
  simp only [List.range, List.range.loop, List.map_cons, List.map_nil, hfr]
  clear hfr ha
  go_wp2_with fail
  refine HT.out.mono ?_
  rintro e w1 ⟨sa, sc, rfl, hok, hb, _⟩
  have HB := Lib.hid hb
  clear hok hb HT
  unfold frV frC faV
  go_wp2_with fail
  refine hQ.out _ _ _ (Fr.Is.mk rfl rfl) ?_ ?_
  · exact below_step HB.out (below_step (bel_al _ _) (bel_al _ _))
  · rw [cell_at (alloc_two _ _ _) 0]
    rfl

set_option maxRecDepth 100000 in
set_option maxHeartbeats 1000000 in
theorem go_r13 {Q : Exit → Act → World → Prop} {id : Int} {bad : Value} {fb : Nat} {i m oc : Nat} {oa : Option Addr} {er : Nat} {xb : Nat} {b : Bool} {ad : Option Addr} {n cap : Nat} {w : World} (hx : w.cell? ⟨xb, 0, none⟩ = some (.bool b)) (a : Act)
    (ha : Fr.Is 121 [(0, .slice ad n cap), (5, .int .i64 id), (6, bad), (8, .pointer (some ⟨fb, 0, none⟩)), (9, .int .i64 i), (10, .slice oa m oc), (11, .int .i64 er), (14, .pointer (some ⟨xb, 0, none⟩))] a)
    (hQ : Hid (∀ a', Fr.Is 121 [(0, .slice ad n cap), (5, .int .i64 id), (6, bad), (8, .pointer (some ⟨fb, 0, none⟩)), (9, .int .i64 i), (10, .slice oa m oc), (11, .int .i64 er), (73, .bool (decide (er ≠ 0) || b))] a' → Q .normal a' w)) :
    (Fr.reg Tryd.f7 13).wp Tryd.prog Q a w := by
  obtain ⟨fr, rfl, hfr⟩ := ha.lit
  simp only [List.map_cons, List.map_nil, List.cons.injEq, and_true] at hfr
  conv => arg 2; whnf
  simp only [List.range, List.range.loop, List.map_cons, List.map_nil, hfr]
  clear hfr ha
  by_cases h1 : er = 0
  · subst h1
    rw [show (decide ((0 : Nat) ≠ 0) || b) = b from by simp] at hQ
    go_wp2_with fail
    exact hQ.out _ (Fr.Is.mk rfl rfl)
  · have h1' : (er : Int) ≠ 0 := by omega
    rw [show (decide (er ≠ 0) || b) = true from by simp [h1]] at hQ
    go_wp2_with fail
    exact hQ.out _ (Fr.Is.mk rfl rfl)

set_option maxRecDepth 100000 in
set_option maxHeartbeats 1000000 in
theorem go_r8 {Q : Exit → Act → World → Prop} {id : Int} {bad : Value} {fb : Nat} {i : Nat} (hi : i < 30) {ad : Option Addr} {n cap : Nat} {w : World} (a : Act)
    (ha : Fr.Is 121 [(0, .slice ad n cap), (5, .int .i64 id), (6, bad), (8, .pointer (some ⟨fb, 0, none⟩)), (9, .int .i64 i)] a)
    (hQ : Hid (∀ a', Fr.Is 121 [(0, .slice ad n cap), (5, .int .i64 id), (6, bad), (8, .pointer (some ⟨fb, 0, none⟩)), (9, .int .i64 (i + 1 : Nat))] a' → Q .normal a' w)) :
    (Fr.reg Tryd.f7 8).wp Tryd.prog Q a w := by
  obtain ⟨fr, rfl, hfr⟩ := ha.lit
  simp only [List.map_cons, List.map_nil, List.cons.injEq, and_true] at hfr
  conv => arg 2; whnf
  simp only [List.range, List.range.loop, List.map_cons, List.map_nil, hfr]
  clear hfr ha
  have hi' : (i : Int) < 30 := by omega
  go_wp2_with fail
  exact hQ.out _ (Fr.Is.mk rfl (by simp))

set_option maxRecDepth 100000 in
set_option maxHeartbeats 1000000 in
theorem go_r10 {Q : Exit → Act → World → Prop} {ad : Option Addr} {n cap : Nat} {w : World} (a : Act)
    (ha : Fr.Is 121 [] a)
    (hQ : Hid (∀ a', Fr.Is 121 [(4, .bool true)] a' → Q .normal a' w)) :
    (Fr.reg Tryd.f7 10).wp Tryd.prog Q a w := by
  obtain ⟨fr, rfl, hfr⟩ := ha.lit
  conv => arg 2; whnf
  simp only [List.range, List.range.loop, List.map_cons, List.map_nil]
  clear hfr ha
  go_wp2_with fail
  exact hQ.out _ (Fr.Is.mk rfl rfl)

set_option maxRecDepth 100000 in
set_option maxHeartbeats 1000000 in
theorem go_r17 {Q : Exit → Act → World → Prop} {ad : Option Addr} {n cap : Nat} {w : World} (a : Act)
    (ha : Fr.Is 121 [] a)
    (hQ : Hid (∀ a', Fr.Is 121 [(4, .bool true)] a' → Q .normal a' w)) :
    (Fr.reg Tryd.f7 17).wp Tryd.prog Q a w := by
  obtain ⟨fr, rfl, hfr⟩ := ha.lit
  conv => arg 2; whnf
  simp only [List.range, List.range.loop, List.map_cons, List.map_nil]
  clear hfr ha
  go_wp2_with fail
  exact hQ.out _ (Fr.Is.mk rfl rfl)

end Go.Proofs.YtglhdlkmgmbgeaaDoor

namespace Go.Proofs.YtglhdlkmgmbgeaaDoor
open Go.RowKit
open Cho Fra Oct Arg Mem Gen Wr Qu Pt Sx Go.Proofs.YtglhdlkmgmbgeaaDoor.Obj
set_option linter.unusedVariables false
set_option linter.unusedSimpArgs false

theorem out_new (w : World) : OutB w.heap.size [] (some ⟨w.heap.size, 0, none⟩) 0 [] (w.alloc (.cells #[] 5)) := by
  have h := own_new w 5 1
  exact ⟨Rw.QRow.of_own (E := EBy) (l := []) h, fun b o s e => by cases e; exact ⟨Nat.le_refl _, by simp⟩⟩

set_option maxRecDepth 100000 in
set_option maxHeartbeats 1000000 in
theorem go_r14 {Q : Exit → Act → World → Prop} {id : Int} {fb i n cap m1 m2 bc oc lc : Nat} {ad ba oa la : Option Addr} {b1 b2 : List UInt8} {s : FeM} {W0 w : World} {obs : List Th} (HSp : Hid (SpIs W0)) (HS : Hid (Sts W0 w ((fb :: blk la, FdP fb la lc 16777215 s) :: obs)))
    (hm1 : Hid (m1 = b1.length ∧ b1.length ≤ 100000 ∧ RB w ba b1)) (hm2 : Hid (m2 = b2.length ∧ b2.length ≤ 100000 ∧ RB w oa b2)) (hs : Hid (s.rest = [])) (a : Act)
    (ha : Fr.Is 121 [(0, .slice ad n cap), (5, .int .i64 id), (6, .slice ba m1 bc), (8, .pointer (some ⟨fb, 0, none⟩)), (9, .int .i64 i), (10, .slice oa m2 oc)] a)
    (hQ : Hid (∀ a' w' its ra rc la' lc' s', Fr.Is 121 [(0, .slice ad n cap), (5, .int .i64 id), (6, .slice ba m1 bc), (8, .pointer (some ⟨fb, 0, none⟩)), (9, .int .i64 i), (15, .slice ra its.length rc)] a' → its.map (·.1) = (feedF 16777215 s (b1 ++ b2)).1 → FeQ (feedF 16777215 s (b1 ++ b2)).2 s' →
      Sts W0 w' ((sBs its, SetsP its) :: (blk ra, RowQ EIt ra rc its) :: (fb :: blk la', FdP fb la' lc' 16777215 s') :: obs) → Q .normal a' w')) :
    (Fr.reg Tryd.f7 14).wp Tryd.prog Q a w := by
  obtain ⟨fr, rfl, hfr⟩ := ha.lit
  simp only [List.map_cons, List.map_nil, List.cons.injEq, and_true] at hfr
  conv => arg 2; whnf
  simp only [List.range, List.range.loop, List.map_cons, List.map_nil, hfr]
  clear hfr ha
  have HO1 := Lib.hid (out_new w)
  have HB1 := Lib.hid (bel_alloc w (.cells #[] 5))
  have HR1 := Lib.hid (hm1.out.2.2.below HB1.out)
  have HT1 := Lib.hid (Std.of_below (B := w.heap.size) (L := []) HB1.out)
  have HM1 := Lib.hid hm1.out.1
  have HM2 := Lib.hid hm2.out.1
  have HE1 : Hid (b1 = [] ++ b1) := Lib.hid rfl
  have HL1 : Hid (b1.length ≤ 140737488355328) := Lib.hid (Nat.le_trans hm1.out.2.1 (by decide))
  obtain ⟨b3, hb3⟩ : ∃ b3, b3 = b1 ++ b2 := ⟨_, rfl⟩
  have HE3 := Lib.hid hb3
  have HL3 : Hid (b3.length ≤ 200000) := Lib.hid (by rw [hb3, List.length_append]; have := hm1.out.2.1; have := hm2.out.2.1; omega)
  have HL2 : Hid (b3.length ≤ 140737488355328) := Lib.hid (Nat.le_trans HL3.out (by decide))
  rw [← hb3] at hQ
  clear hb3
  go_wp2_with (first
    | (at_builtin; refine wl_bytes0 (B := w.heap.size) (L := []) Tryd.underlying24 info_by rfl (.tmp 75) (.tmp 76) rfl rfl rfl HO1.out HB1.out.size (fun _ h => by cases h) rfl HM1.out HR1.out b1 HE1.out HL1.out ?_; intro oa2 oc2 w2 hg; have HO2 := Lib.hid hg.out.out; have HT2 := Lib.hid (HT1.out.trans hg.out.std); have HB2 := Lib.hid (Std.below HT2.out rfl); have HR2 := Lib.hid (hm2.out.2.2.below HB2.out); clear hg)
    | (at_builtin; refine wl_bytes0 (B := w.heap.size) (L := []) Tryd.underlying24 info_by rfl (.tmp 77) (.tmp 78) rfl rfl rfl HO2.out HB2.out.size (fun _ h => by cases h) rfl HM2.out HR2.out b3 HE3.out HL2.out ?_; intro oa3 oc3 w3 hg; have HO3 := Lib.hid hg.out.out; have HT3 := Lib.hid (HT2.out.trans hg.out.std); have HB3 := Lib.hid (Std.below HT3.out rfl); clear hg))
  have ht := ptake_feed (cap := oc3) (N := 300000) (HS.out.below HB3.out) (i := 0) rfl HSp.out HO3.out.rb (by rw [hs.out]; have := HL3.out; simp; omega) (by decide)
  refine ht.mono ?_
  rintro e w4 ⟨its, ra, rc, la2, lc2, s2, rfl, hmm, hqq, _, _, S2⟩
  simp only [List.set] at S2
  have HMm := Lib.hid hmm
  have HQq := Lib.hid hqq
  have HS4 := Lib.hid S2
  clear hmm hqq S2 ht
  go_wp2_with fail
  exact hQ.out _ _ _ _ _ _ _ _ (Fr.Is.mk rfl rfl) HMm.out HQq.out HS4.out
end Go.Proofs.YtglhdlkmgmbgeaaDoor

namespace Go.Proofs.YtglhdlkmgmbgeaaDoor
open Go.RowKit
open Cho Fra Oct Arg Mem Gen Wr Qu Pt Sx Go.Proofs.YtglhdlkmgmbgeaaDoor.Obj
set_option linter.unusedVariables false
set_option linter.unusedSimpArgs false

set_option maxRecDepth 100000 in
set_option maxHeartbeats 4000000 in
theorem go_r15 {Q : Exit → Act → World → Prop} {id : Int} {bad : Value} {fb i n cap rc p1 o1 bl off : Nat} {x : FrX} {it0 it1 : ItX} (a : Act) (w : World) (e0 : it0.1 = (⟨noFr, ⟨true, 1, id⟩⟩ : ItM)) (e1 : it1.1 = (⟨x.1, noFa⟩ : ItM))
    (h0 : Rw.CE EIt w p1 (o1 + 0 * 15) it0) (h1 : Rw.CE EIt w p1 (o1 + 1 * 15) it1) (hx : Rw.CE EFr w bl (off + i * 12) x) (hin : i < n) (ok1 : FrOk it1.1.f it1.2.1 it1.2.2 w) (ok2 : FrOk x.1 x.2.1 x.2.2 w)
    (HOv : Hid (∀ v, Below w.heap.size w v → Calls Tryd.prog 15 #[.pointer (some ⟨fb, 0, none⟩)] v fun e w' => e = .returned (.bool false) ∧ Below v.heap.size v w'))
    (HLf : Hid (∀ v, Below w.heap.size w v → Calls Tryd.prog 14 #[.pointer (some ⟨fb, 0, none⟩)] v fun e w' => e = .returned (.int .i64 0) ∧ Below v.heap.size v w'))
    (ha : Fr.Is 121 [(0, .slice (some ⟨bl, off, none⟩) n cap), (5, .int .i64 id), (6, bad), (8, .pointer (some ⟨fb, 0, none⟩)), (9, .int .i64 i), (15, .slice (some ⟨p1, o1, none⟩) 2 rc)] a)
    (hQ : Hid (∀ a' w', Fr.Is 121 [(0, .slice (some ⟨bl, off, none⟩) n cap), (5, .int .i64 id), (6, bad), (8, .pointer (some ⟨fb, 0, none⟩)), (9, .int .i64 i), (120, .bool false)] a' → Below w.heap.size w w' → Q .normal a' w')) :
    (Fr.reg Tryd.f7 15).wp Tryd.prog Q a w := by
  obtain ⟨fr, rfl, hfr⟩ := ha.lit
  simp only [List.map_cons, List.map_nil, List.cons.injEq, and_true] at hfr
  conv => arg 2; whnf
  simp only [List.range, List.range.loop, List.map_cons, List.map_nil, hfr]
  clear hfr ha
  have hb0 : Below w.heap.size w w.drew := (Below.refl _ _).drew
  have : Nonempty (Cw (fun v => Below w.heap.size w v)) := ⟨⟨_, hb0⟩⟩
  have HSm : Hid (∀ (v : World) (hv : Below w.heap.size w v), Calls Tryd.prog 18 #[frV x.1 it1.2.1 it1.2.2, frV x.1 x.2.1 x.2.2] v fun e w' => e = .returned (.bool true) ∧ Below v.heap.size v w') := Lib.hid (fun v hv => by
    have ok : FrOk x.1 it1.2.1 it1.2.2 w := by rw [e1] at ok1; exact ok1
    have h := rsame_any x.1 x.1 it1.2.1 x.2.1 it1.2.2 x.2.2 v (ok.below hv) (ok2.below hv)
    rw [decide_eq_true rfl] at h; exact h)
  have hEq : ∀ v, (Op.equalIn 10000 37 (.agg #[.bool true, .int .i64 1, .int .i64 id]) (.agg #[.bool true, .int .i64 1, .int .i64 id])).run Tryd.prog v = .ok true v := fun v => by
    rw [eqFa]; simp
  have hg := guFa
  have hin' : (i : Int) < n := by omega
  obtain ⟨b0, b1, b2, b3, b4, b5, b6, b7, b8, b9, b10, b11, b12, b13, b14⟩ := CE_it h0
  obtain ⟨c0, c1, c2, c3, c4, c5, c6, c7, c8, c9, c10, c11, c12, c13, c14⟩ := CE_it h1
  obtain ⟨d0, d1, d2, d3, d4, d5, d6, d7, d8, d9, d10, d11⟩ := CE_fr hx
  simp only [e0, e1, noFa, Nat.zero_mul, Nat.one_mul, Nat.add_zero] at b12 b13 b14 c0 c1 c2 c3 c4 c5 c6 c7 c8 c9 c10 c11 c12
  clear b0 b1 b2 b3 b4 b5 b6 b7 b8 b9 b10 b11 c13 c14
  have hB : ∀ nn : Cw (fun v => Below w.heap.size w v), Below w.heap.size w nn.v := fun nn => nn.h
  have zb12 : ∀ nn : Cw (fun v => Below w.heap.size w v), nn.v.cell? ⟨p1, o1 + 12, none⟩ = _ := fun nn => below_cell (hB nn) b12
  have zb13 : ∀ nn : Cw (fun v => Below w.heap.size w v), nn.v.cell? ⟨p1, o1 + 13, none⟩ = _ := fun nn => below_cell (hB nn) b13
  have zb14 : ∀ nn : Cw (fun v => Below w.heap.size w v), nn.v.cell? ⟨p1, o1 + 14, none⟩ = _ := fun nn => below_cell (hB nn) b14
  have zc0 : ∀ nn : Cw (fun v => Below w.heap.size w v), nn.v.cell? ⟨p1, o1 + 15, none⟩ = _ := fun nn => below_cell (hB nn) c0
  have zc1 : ∀ nn : Cw (fun v => Below w.heap.size w v), nn.v.cell? ⟨p1, o1 + 15 + 1, none⟩ = _ := fun nn => below_cell (hB nn) c1
  have zc2 : ∀ nn : Cw (fun v => Below w.heap.size w v), nn.v.cell? ⟨p1, o1 + 15 + 2, none⟩ = _ := fun nn => below_cell (hB nn) c2
  have zc3 : ∀ nn : Cw (fun v => Below w.heap.size w v), nn.v.cell? ⟨p1, o1 + 15 + 3, none⟩ = _ := fun nn => below_cell (hB nn) c3
  have zc4 : ∀ nn : Cw (fun v => Below w.heap.size w v), nn.v.cell? ⟨p1, o1 + 15 + 4, none⟩ = _ := fun nn => below_cell (hB nn) c4
  have zc5 : ∀ nn : Cw (fun v => Below w.heap.size w v), nn.v.cell? ⟨p1, o1 + 15 + 5, none⟩ = _ := fun nn => below_cell (hB nn) c5
  have zc6 : ∀ nn : Cw (fun v => Below w.heap.size w v), nn.v.cell? ⟨p1, o1 + 15 + 6, none⟩ = _ := fun nn => below_cell (hB nn) c6
  have zc7 : ∀ nn : Cw (fun v => Below w.heap.size w v), nn.v.cell? ⟨p1, o1 + 15 + 7, none⟩ = _ := fun nn => below_cell (hB nn) c7
  have zc8 : ∀ nn : Cw (fun v => Below w.heap.size w v), nn.v.cell? ⟨p1, o1 + 15 + 8, none⟩ = _ := fun nn => below_cell (hB nn) c8
  have zc9 : ∀ nn : Cw (fun v => Below w.heap.size w v), nn.v.cell? ⟨p1, o1 + 15 + 9, none⟩ = _ := fun nn => below_cell (hB nn) c9
  have zc10 : ∀ nn : Cw (fun v => Below w.heap.size w v), nn.v.cell? ⟨p1, o1 + 15 + 10, none⟩ = _ := fun nn => below_cell (hB nn) c10
  have zc11 : ∀ nn : Cw (fun v => Below w.heap.size w v), nn.v.cell? ⟨p1, o1 + 15 + 11, none⟩ = _ := fun nn => below_cell (hB nn) c11
  have zc12 : ∀ nn : Cw (fun v => Below w.heap.size w v), nn.v.cell? ⟨p1, o1 + 15 + 12, none⟩ = _ := fun nn => below_cell (hB nn) c12
  have zd0 : ∀ nn : Cw (fun v => Below w.heap.size w v), nn.v.cell? ⟨bl, off + i * 12, none⟩ = _ := fun nn => below_cell (hB nn) d0
  have zd1 : ∀ nn : Cw (fun v => Below w.heap.size w v), nn.v.cell? ⟨bl, off + i * 12 + 1, none⟩ = _ := fun nn => below_cell (hB nn) d1
  have zd2 : ∀ nn : Cw (fun v => Below w.heap.size w v), nn.v.cell? ⟨bl, off + i * 12 + 2, none⟩ = _ := fun nn => below_cell (hB nn) d2
  have zd3 : ∀ nn : Cw (fun v => Below w.heap.size w v), nn.v.cell? ⟨bl, off + i * 12 + 3, none⟩ = _ := fun nn => below_cell (hB nn) d3
  have zd4 : ∀ nn : Cw (fun v => Below w.heap.size w v), nn.v.cell? ⟨bl, off + i * 12 + 4, none⟩ = _ := fun nn => below_cell (hB nn) d4
  have zd5 : ∀ nn : Cw (fun v => Below w.heap.size w v), nn.v.cell? ⟨bl, off + i * 12 + 5, none⟩ = _ := fun nn => below_cell (hB nn) d5
  have zd6 : ∀ nn : Cw (fun v => Below w.heap.size w v), nn.v.cell? ⟨bl, off + i * 12 + 6, none⟩ = _ := fun nn => below_cell (hB nn) d6
  have zd7 : ∀ nn : Cw (fun v => Below w.heap.size w v), nn.v.cell? ⟨bl, off + i * 12 + 7, none⟩ = _ := fun nn => below_cell (hB nn) d7
  have zd8 : ∀ nn : Cw (fun v => Below w.heap.size w v), nn.v.cell? ⟨bl, off + i * 12 + 8, none⟩ = _ := fun nn => below_cell (hB nn) d8
  have zd9 : ∀ nn : Cw (fun v => Below w.heap.size w v), nn.v.cell? ⟨bl, off + i * 12 + 9, none⟩ = _ := fun nn => below_cell (hB nn) d9
  have zd10 : ∀ nn : Cw (fun v => Below w.heap.size w v), nn.v.cell? ⟨bl, off + i * 12 + 10, none⟩ = _ := fun nn => below_cell (hB nn) d10
  have zd11 : ∀ nn : Cw (fun v => Below w.heap.size w v), nn.v.cell? ⟨bl, off + i * 12 + 11, none⟩ = _ := fun nn => below_cell (hB nn) d11
  unfold frV frC at HSm
  clear b12 b13 b14 c0 c1 c2 c3 c4 c5 c6 c7 c8 c9 c10 c11 c12 d0 d1 d2 d3 d4 d5 d6 d7 d8 d9 d10 d11 hx h0 h1 ok1 ok2 e0 e1 hB
  refine reg_quietB (fun v => Below w.heap.size w v) (by kernel_rfl) (by kernel_rfl) hb0 ?_
  repeat (go_big_quiet_step (first
    | (go_at_call 18; exact (HSm.out _ (Cw.h _)).mono (fun e w' h => ⟨h.1, ⟨⟨w', below_step (Cw.h _) h.2⟩, rfl⟩⟩))
    | (go_at_call 15; exact (HOv.out _ (Cw.h _)).mono (fun e w' h => ⟨h.1, ⟨⟨w', below_step (Cw.h _) h.2⟩, rfl⟩⟩))
    | (go_at_call 14; exact (HLf.out _ (Cw.h _)).mono (fun e w' h => ⟨h.1, ⟨⟨w', below_step (Cw.h _) h.2⟩, rfl⟩⟩))))
  refine wpQuiet_nil ?_
  rintro w5 ⟨⟨_, hb1⟩, rfl⟩
  exact hQ.out _ _ (Fr.Is.mk rfl rfl) hb1
end Go.Proofs.YtglhdlkmgmbgeaaDoor

namespace Go.Proofs.YtglhdlkmgmbgeaaDoor
open Go.RowKit
open Cho Fra Oct Arg Mem Gen Wr Qu Pt Sx Go.Proofs.YtglhdlkmgmbgeaaDoor.Obj
set_option linter.unusedVariables false
set_option linter.unusedSimpArgs false

theorem go_ret7 {R : Ending → World → Prop} {a : Act} {w' : World} (ha : Fr.Is 121 [(4, .bool true)] a) (hR : R (.returned (.bool true)) w') : bodyPost Tryd.prog Tryd.f7 R .ret a w' := by
  obtain ⟨fr, rfl, hfr⟩ := ha.lit
  simp only [List.map_cons, List.map_nil, List.cons.injEq, and_true] at hfr
  refine bodyPost_ret (v := .bool true) ?_ rfl hR
  simp [results, Tryd.results7, go_sem, hfr]
theorem put_le (f : FrM) (hd : f.data.size ≤ 16384) (hs : f.sets.length ≤ 1000) : (putF f).1.length ≤ 30000 := by
  cases hm : mayB f with
  | false => rw [putF, if_pos hm]; simp
  | true =>
    rw [go_put f hm hd hs, whole_len]
    have := go_len f hm hd hs
    omega

set_option maxRecDepth 100000 in
set_option maxHeartbeats 2000000 in
theorem law_goes7 (l : List FrX) (ad : Option Addr) (cap : Nat) (s : Int) (w : World) (hr : Rw.RowE EFr w ad l) (hoks : ∀ x ∈ l, FrOk x.1 x.2.1 x.2.2 w) (hs16 : (Lit.int .u16 s).wf = true) (hsp : SpIs w) :
    Calls Tryd.prog 7 #[.slice ad l.length cap, .int .u16 s] w fun e w' => e = .returned (.bool true) ∧ Below w.heap.size w w' := by
  have hs2 : 0 ≤ s ∧ s ≤ 65535 := by
    simp only [Lit.wf, IntKind.min, IntKind.max, IntKind.bits, IntKind.signed] at hs16
    simp at hs16; omega
  have HSp := Lib.hid hsp
  have hid : 1 ≤ 1 + s ∧ 1 + s ≤ 65536 := by omega
  go_enter Tryd.func7, Tryd.ntmps7
  refine wp_seq ?_
  refine go_r0 (s := s) (n := l.length) (cap := cap) (ad := ad) _ (Fr.Is.mk rfl rfl) (Lib.hid (fun a0 g0 => ?_))
  refine wp_seq (wp_seq ?_)
  refine go_r1 (s := s) (n := l.length) (cap := cap) (ad := ad) (Lib.hid (awake7_any w hsp)) a0 g0 (Lib.hid (fun a1 w1 g1 b1 => ?_))
  refine wp_cond_false (g1.get (i := 17) (v := .bool false) (by simp)) ?_
  refine wp_skip ?_
  refine wp_seq ?_
  refine go_r3 (s := s) (n := l.length) (cap := cap) (ad := ad) hs2 a1 (g1.less (by simp)) (Lib.hid (fun a2 g2 => ?_))
  obtain ⟨id, hide⟩ : ∃ id, id = 1 + s := ⟨_, rfl⟩
  rw [← hide] at g2 hid
  clear hide
  have hP := rfput_any (upF id) none 0 w1 ⟨.inl rfl, Nat.le_refl _, by unfold maxLen; omega⟩ (by simp [upF]) (by simp [upF])
  rw [up_put id hid] at hP
  refine wp_seq ?_
  refine go_r4 (id := id) (n := l.length) (cap := cap) (ad := ad) (R := wholeL (upF id)) (Lib.hid hP) a2 g2 (Lib.hid (fun a3 w3 ba bc g3 o3 b3 => ?_))
  have S3 := (Sts.of_below b1).add b3 (F := blk ba) (P := RowQ EBy ba bc (wholeL (upF id))) (fun k hk => by
    obtain ⟨o, q, e⟩ := mem_blk hk
    exact ⟨(o3.apart _ _ _ e).1, o3.lt _ _ _ e⟩) RowQ.st o3.row
  refine wp_seq ?_
  refine go_r5 (id := id) (n := l.length) (cap := cap) (ad := ad) (Lib.hid S3) a3 g3 (Lib.hid (fun a4 w4 fb g4 S4 => ?_))
  refine wp_seq (wp_seq ?_)
  refine go_r6 (id := id) (n := l.length) (cap := cap) (ad := ad) a4 g4 (Lib.hid (fun a5 g5 => ?_))
  refine wp_block ?_
  refine wp_loop_ghost (fun k a' w' => ∃ i la lc, k = l.length - i ∧ i ≤ l.length ∧ i ≤ 30 ∧ Sts w w' [(fb :: blk la, FdP fb la lc 16777215 ⟨[], false, false⟩), (blk ba, RowQ EBy ba bc (wholeL (upF id)))] ∧ Fr.Is 121 [(0, .slice ad l.length cap), (5, .int .i64 id), (6, .slice ba (wholeL (upF id)).length bc), (8, .pointer (some ⟨fb, 0, none⟩)), (9, .int .i64 i)] a') (l.length - 0)
    ⟨0, none, 0, rfl, Nat.zero_le _, by omega, S4, g5⟩ ?_
  rintro k a6 w6 ⟨i, la, lc, rfl, hi, hi30, S6, g6⟩
  refine wp_seq (wp_seq ?_)
  refine go_r7 (id := id) (bad := .slice ba (wholeL (upF id)).length bc) (i := i) (n := l.length) (cap := cap) (ad := ad) (fb := fb) a6 g6 (Lib.hid (fun a7 g7 => ?_))
  by_cases hlt : i < l.length ∧ i < 30
  · obtain ⟨hl1, hl2⟩ := hlt
    refine wp_cond_true (g7.get (i := 35) (v := .bool true) (by simp [hl1, hl2])) ?_
    refine wp_skip ?_
    have NEXT : ∀ (a' : Act) (w' : World) (la' : Option Addr) (lc' : Nat), Sts w w' [(fb :: blk la', FdP fb la' lc' 16777215 ⟨[], false, false⟩), (blk ba, RowQ EBy ba bc (wholeL (upF id)))] → Fr.Is 121 [(0, .slice ad l.length cap), (5, .int .i64 id), (6, .slice ba (wholeL (upF id)).length bc), (8, .pointer (some ⟨fb, 0, none⟩)), (9, .int .i64 (i + 1 : Nat))] a' →
        ∃ k', k' < l.length - i ∧ ∃ i la lc, k' = l.length - i ∧ i ≤ l.length ∧ i ≤ 30 ∧ Sts w w' [(fb :: blk la, FdP fb la lc 16777215 ⟨[], false, false⟩), (blk ba, RowQ EBy ba bc (wholeL (upF id)))] ∧ Fr.Is 121 [(0, .slice ad l.length cap), (5, .int .i64 id), (6, .slice ba (wholeL (upF id)).length bc), (8, .pointer (some ⟨fb, 0, none⟩)), (9, .int .i64 i)] a' :=
      fun a' w' la' lc' hS hg => ⟨l.length - (i + 1), by omega, i + 1, la', lc', rfl, by omega, by omega, hS, hg⟩
    obtain ⟨x, hx⟩ : ∃ x, x = l[i] := ⟨_, rfl⟩
    have hokx : FrOk x.1 x.2.1 x.2.2 w := by rw [hx]; exact hoks _ (List.getElem_mem hl1)
    obtain ⟨bl, off, rfl, hcx⟩ : ∃ b off, ad = some ⟨b, off, none⟩ ∧ Rw.CE EFr w b (off + i * 12) x := by
      rcases hr with h | ⟨b, off, e, h⟩
      · rw [h] at hl1; simp at hl1
      · exact ⟨b, off, e, by rw [hx]; exact h i hl1⟩
    clear hx
    have ce : ∀ v, Below w.heap.size w v → Rw.CE EFr v bl (off + i * 12) x := fun v hv r u hu => below_cell hv (hcx r u hu)
    refine wp_seq (wp_block ?_)
    refine wp_seq (wp_seq ?_)
    refine go_r9 (id := id) (bad := .slice ba (wholeL (upF id)).length bc) (i := i) (n := l.length) (cap := cap) (fb := fb) hl1 (ce w6 S6.bel) a7 (g7.less (by simp)) (Lib.hid (fun a8 g8 => ?_))
    by_cases hbig : x.1.data.size > 16384 ∨ x.1.sets.length > 1000
    · refine wp_cond_true (g8.get (i := 53) (v := .bool true) (by simp only [decide_eq_true hbig]; simp)) ?_
      refine wp_seq ?_
      refine go_r10 (ad := none) (n := 0) (cap := 0) a8 (g8.less (by simp)) (Lib.hid (fun a9 g9 => ?_))
      refine wp_ret ?_
      try dsimp only [Exit.then, Exit.inBlock]
      exact go_ret7 g9 ⟨rfl, S6.bel⟩
    · refine wp_cond_false (g8.get (i := 53) (v := .bool false) (by simp only [decide_eq_false hbig]; simp)) ?_
      refine wp_skip ?_
      have hd : x.1.data.size ≤ 16384 := by omega
      have hs1 : x.1.sets.length ≤ 1000 := by omega
      refine wp_seq ?_
      refine go_r11 (id := id) (bad := .slice ba (wholeL (upF id)).length bc) (i := i) (n := l.length) (cap := cap) (fb := fb) (R := (putF x.1).1) (er := (putF x.1).2) hl1 (ce w6 S6.bel) (Lib.hid (rfput_any x.1 x.2.1 x.2.2 w6 (hokx.below S6.bel) (by omega) (by omega))) a8 (g8.less (by simp)) (Lib.hid (fun a9 w9 oa oc g9 o9 b9 => ?_))
      have S9 := S6.below b9
      have ht := rtake06_new (putF x.1).1 oa oc 16777215 w9 o9.rb o9.row.le o9.row.max
      refine wp_seq ?_
      refine go_r12 (id := id) (ad := some ⟨bl, off, none⟩) (bad := .slice ba (wholeL (upF id)).length bc) (i := i) (n := l.length) (cap := cap) (fb := fb) (m := (putF x.1).1.length) (oc := oc) (oa := oa) (er := (putF x.1).2) (Lib.hid ht) a9 g9 (Lib.hid (fun a10 w10 xb g10 b10 hx10 => ?_))
      have S10 := S9.below b10
      refine wp_seq (wp_seq ?_)
      refine go_r13 (id := id) (ad := some ⟨bl, off, none⟩) (bad := .slice ba (wholeL (upF id)).length bc) (i := i) (n := l.length) (cap := cap) (fb := fb) (m := (putF x.1).1.length) (oc := oc) (oa := oa) (er := (putF x.1).2) hx10 a10 g10 (Lib.hid (fun a11 g11 => ?_))
      cases hb : (decide ((putF x.1).2 ≠ 0) || (takeF (putF x.1).1 16777215).2.2.is) with
      | true =>
        refine wp_cond_true (g11.get (i := 73) (v := .bool true) (by rw [hb]; simp)) ?_
        refine wp_exit ?_
        try dsimp only [Exit.then, Exit.inBlock]
        refine go_r8 (id := id) (ad := some ⟨bl, off, none⟩) (bad := .slice ba (wholeL (upF id)).length bc) (i := i) (n := l.length) (cap := cap) (fb := fb) hl2 a11 (g11.less (by simp)) (Lib.hid (fun a12 g12 => ?_))
        exact NEXT _ _ _ _ S10 g12
      | false =>
        have hb0 := hb
        rw [Bool.or_eq_false_iff] at hb
        obtain ⟨hb1, hb2⟩ := hb
        have hm : mayB x.1 = true := by
          cases hm : mayB x.1 with
          | true => rfl
          | false => rw [putF, if_pos hm] at hb1; simp at hb1
        have hpe := go_put x.1 hm hd hs1
        have hfe : feedF 16777215 ⟨[], false, false⟩ (wholeL (upF id) ++ (putF x.1).1) = ([⟨noFr, ⟨true, 1, id⟩⟩, ⟨x.1, noFa⟩], ⟨[], false, false⟩) := by
          rw [hpe] at hb2 ⊢
          exact go_feed x.1 id hid hm hd hs1 hb2
        refine wp_cond_false (g11.get (i := 73) (v := .bool false) (by rw [hb0]; simp)) ?_
        refine wp_skip ?_
        refine wp_seq ?_
        refine go_r14 (id := id) (ad := some ⟨bl, off, none⟩) (i := i) (n := l.length) (cap := cap) (fb := fb) (ba := ba) (bc := bc) (oa := oa) (oc := oc) (b1 := wholeL (upF id)) (b2 := (putF x.1).1) (s := ⟨[], false, false⟩) HSp (Lib.hid S10) (Lib.hid ⟨rfl, by rw [up_whole]; omega, rb_of_q (S10.is 1 rfl).row⟩) (Lib.hid ⟨rfl, Nat.le_trans (put_le x.1 hd hs1) (by decide), o9.rb.below b10⟩) (Lib.hid rfl) a11 (g11.less (by simp)) (Lib.hid (fun a12 w12 its ra rc la' lc' s' g12 hits hfq S12 => ?_))
        rw [hfe] at hits hfq
        have hs' := feQ_eq hfq rfl
        subst hs'
        obtain ⟨it0, it1, rfl, e0, e1⟩ : ∃ it0 it1, its = [it0, it1] ∧ it0.1 = (⟨noFr, ⟨true, 1, id⟩⟩ : ItM) ∧ it1.1 = (⟨x.1, noFa⟩ : ItM) := by
          have hlen : its.length = 2 := by
            have := congrArg List.length hits
            simpa using this
          obtain ⟨p, q, rfl⟩ : ∃ p q, its = [p, q] := ⟨its[0]'(by omega), its[1]'(by omega), by
            apply List.ext_getElem
            · simpa using hlen
            · intro j h1 h2
              match j, h2 with
              | 0, _ => rfl
              | 1, _ => rfl
              | j + 2, h2 => exact absurd h2 (by simp)⟩
          simp only [List.map_cons, List.map_nil, List.cons.injEq, and_true] at hits
          exact ⟨p, q, rfl, hits.1, hits.2⟩
        obtain ⟨p1, o1, hra, hcs⟩ : ∃ b off, ra = some ⟨b, off, none⟩ ∧ ∀ i, (h : i < [it0, it1].length) → Rw.CE EIt w12 b (off + i * 15) [it0, it1][i] := by
          rcases (show Rw.QRow EIt w12 ra rc [it0, it1] from S12.is 1 rfl).row with h | h
          · simp at h
          · exact h
        subst hra
        have hst : SetsP [it0, it1] w12 := S12.is 0 rfl
        refine wp_seq ?_
        refine go_r15 (id := id) (bad := .slice ba (wholeL (upF id)).length bc) (i := i) (n := l.length) (cap := cap) (fb := fb) (x := x) a12 w12 e0 e1 (hcs 0 (by simp)) (hcs 1 (by simp)) (ce w12 S12.bel) hl1 (hst it1 (by simp)) (hokx.below S12.bel)
          (Lib.hid (fun v hv => (pover_any v (show FdO fb la' lc' 16777215 ⟨[], false, false⟩ v from (S12.below hv).is 2 rfl)).mono (fun e w' h => ⟨h.1, h.2 ▸ Below.refl _ _⟩)))
          (Lib.hid (fun v hv => (pleft_any v (show FdO fb la' lc' 16777215 ⟨[], false, false⟩ v from (S12.below hv).is 2 rfl)).mono (fun e w' h => ⟨h.1, h.2 ▸ Below.refl _ _⟩)))
          g12 (Lib.hid (fun a13 w13 g13 b13 => ?_))
        refine wp_cond_false (g13.get (i := 120) (v := .bool false) (by simp)) ?_
        refine wp_skip ?_
        try dsimp only [Exit.then, Exit.inBlock]
        refine go_r8 (id := id) (ad := some ⟨bl, off, none⟩) (bad := .slice ba (wholeL (upF id)).length bc) (i := i) (n := l.length) (cap := cap) (fb := fb) hl2 a13 (g13.less (by simp)) (Lib.hid (fun a14 g14 => ?_))
        exact NEXT _ _ _ _ (S12.below b13).tail.tail g14
  · refine wp_cond_false (g7.get (i := 35) (v := .bool false) (by simp only [decide_eq_false hlt]; simp)) ?_
    refine wp_exit ?_
    try dsimp only [Exit.then, Exit.inBlock]
    refine wp_seq ?_
    refine go_r17 (ad := none) (n := 0) (cap := 0) a7 (g7.less (by simp)) (Lib.hid (fun a8 g8 => ?_))
    refine wp_ret ?_
    try dsimp only [Exit.then, Exit.inBlock]
    exact go_ret7 g8 ⟨rfl, S6.bel⟩
end Go.Proofs.YtglhdlkmgmbgeaaDoor
