/- Layer 6: the document's small functions: flags, four bytes, a number at a place, a fault. Layer 6: the program's parts of a frame, and what of it may be written. Layer 6: the program's inRange and bare. Layer 6: the program's writing: numbers. Layer 6: the program's writing: a frame's head, its order. A row of bytes that grows by a text, and by zeros ('append(out, make([]byte, k)...)'). A function walked statement by statement: each region a declaration of its own, over whatever frame; put together by the laws of control. -/
import Derived.Test.YtdilgkkkhmmffaaDoorRows
import Derived.Test.YtdilgkkkhmmffaaDoorGP03
import Derived.Test.YtdilgkkkhmmffaaDoorGP02
import Derived.WalkKit
import Derived.WalkSpells
import Derived.WalkLawsBesides
import Derived.Lib.Hide
import Derived.IntWalk
import Derived.LoopTactic
import Derived.Deep.AppendSrc
import Derived.Lib.AppendZerosOnto
import Derived.Deep.RegionHeld3
set_option linter.unusedVariables false
set_option linter.unusedSimpArgs false
namespace Go.Proofs.YtdilgkkkhmmffaaDoor
open Go.RowKit
open Fra Oct Mem Gen Go.Proofs.YtdilgkkkhmmffaaDoor.Obj
set_option linter.unusedVariables false
set_option linter.unusedSimpArgs false

theorem tdiv_nn (a b : Int) (h : 0 ≤ a) : a.tdiv b = a / b := Int.tdiv_eq_ediv_of_nonneg h
theorem tmod_nn (a b : Int) (h : 0 ≤ a) : a.tmod b = a % b := Int.tmod_eq_emod_of_nonneg h

set_option maxHeartbeats 400000 in
theorem rhas_any (t fl k flag : Int) (w : World) (h0 : 0 ≤ fl) (h1 : fl ≤ 255) (hf : 1 ≤ flag) (hf2 : flag ≤ 255) :
    Calls Tryd.prog 41 #[.int .i64 t, .int .i64 fl, .int .i64 k, .int .i64 flag] w fun e w' => e = .returned (.bool (decide (t = k) && hasF fl flag)) ∧ w = w' := by
  by_cases ht : t = k
  · subst ht
    have hd := tdiv_nn fl flag h0
    have hm := tmod_nn (fl / flag) 2 (Int.ediv_nonneg h0 (by omega))
    have hne : ¬ flag = 0 := by omega
    have hq0 : 0 ≤ fl / flag := Int.ediv_nonneg h0 (by omega)
    have hq1 : fl / flag ≤ 255 := Int.le_trans (Int.ediv_le_self _ h0) h1
    go_enter Tryd.func41, Tryd.ntmps41
    go_wp2_with fail
    go_ret
    exact ⟨by simp [hasF]; rfl, rfl⟩
  · go_enter Tryd.func41, Tryd.ntmps41
    go_wp2_with fail
    go_ret
    exact ⟨by simp [ht], rfl⟩

set_option maxHeartbeats 400000 in
theorem rHas_any (f : FrM) (sa : Option Addr) (sc : Nat) (flag : Int) (w : World) (h0 : 0 ≤ f.flags) (h1 : f.flags ≤ 255) (hf : 1 ≤ flag) (hf2 : flag ≤ 255) :
    Calls Tryd.prog 42 #[frV f sa sc, .int .i64 flag] w fun e w' => e = .returned (.bool (hasF f.flags flag)) ∧ Below w.heap.size w w' := by
  have hd := tdiv_nn f.flags flag h0
  have hm := tmod_nn (f.flags / flag) 2 (Int.ediv_nonneg h0 (by omega))
  have hne : ¬ flag = 0 := by omega
  have hq0 : 0 ≤ f.flags / flag := Int.ediv_nonneg h0 (by omega)
  have hq1 : f.flags / flag ≤ 255 := Int.le_trans (Int.ediv_le_self _ h0) h1
  unfold frV frC
  go_enter Tryd.func42, Tryd.ntmps42
  go_wp2_with fail
  go_ret
  exact ⟨by simp [hasF]; rfl, (Below.refl _ _).alloc (Nat.le_refl _) _⟩

set_option maxHeartbeats 400000 in
theorem rfour_any (n : Int) (w : World) (h0 : 0 ≤ n) (h1 : n < 4294967296) :
    Calls Tryd.prog 24 #[.int .i64 n] w (MadeB w (putL n 4)) := by
  have hu : IntKind.u32.wrap n = n := by
    have hu0 : IntKind.u32.wrap n = n % 4294967296 := rfl
    rw [hu0]; omega
  have HP := Lib.hid (fun v => rput_yes n 4 v h0 h1 (by omega) (by omega))
  go_enter Tryd.func24, Tryd.ntmps24
  go_wp2_with fail
  refine (HP.out _).mono ?_; rintro e w1 ⟨ad, cap, rfl, hown, hb⟩
  go_wp2_with fail
  go_ret
  exact ⟨ad, cap, rfl, hown, hb⟩

set_option maxHeartbeats 400000 in
theorem rat_any (a : Option Addr) (l : List UInt8) (cap : Nat) (p s : Nat) (w : World) (hl : l.length ≤ maxLen) (hr : RB w a l) (h1 : 1 ≤ s) (h4 : s ≤ 4) (hp : p + s ≤ l.length) :
    Calls Tryd.prog 28 #[.slice a l.length cap, .int .i64 p, .int .i64 s] w fun e w' => e = .returned (.int .i64 (at' l p s)) ∧ w = w' := by
  unfold maxLen at hl
  have HT := Lib.hid (rtake_any a l cap p s w (by unfold maxLen; omega) hr (by omega) (by omega))
  have hv : takeV l p s = at' l p s := by
    rw [takeV, if_neg (by omega), if_neg (by omega)]; simp [at']
  rw [hv] at HT
  have hb := beI_four ((l.drop p).take s) (by rw [List.length_take]; omega)
  have hb0 : 0 ≤ at' l p s := hb.1
  have hb1 : at' l p s < 4294967296 := hb.2
  clear hv hb
  generalize at' l p s = V at *
  go_enter Tryd.func28, Tryd.ntmps28
  go_wp2_with fail
  refine HT.out.mono ?_; rintro e w1 ⟨rfl, rfl⟩
  go_wp2_with fail
  go_ret
  exact ⟨by rfl, rfl⟩

set_option maxHeartbeats 400000 in
theorem rof_any (c : Int) (w : World) : Calls Tryd.prog 29 #[.int .i64 c] w fun e w' => e = .returned (faV (ofC c)) ∧ Below w.heap.size w w' := by
  go_enter Tryd.func29, Tryd.ntmps29
  go_wp2_with fail
  refine bodyPost_ret (v := faV (ofC c)) ?_ rfl ?_
  · simp [results, Tryd.results29, go_sem, faV, ofC]
  · exact ⟨rfl, (Below.refl _ _).alloc (Nat.le_refl _) _⟩
end Go.Proofs.YtdilgkkkhmmffaaDoor

namespace Go.Proofs.YtdilgkkkhmmffaaDoor
open Go.RowKit
open Fra Oct Mem Gen Go.Proofs.YtdilgkkkhmmffaaDoor.Obj
set_option linter.unusedVariables false
set_option linter.unusedSimpArgs false

structure PtM where
  pad : Bool
  order : Bool
  last : Bool
  code : Bool
  inc : Bool
  sets : Bool
  data : Bool
def ptC (p : PtM) : Array Value := #[.bool p.pad, .bool p.order, .bool p.last, .bool p.code, .bool p.inc, .bool p.sets, .bool p.data]
def partsM (t fl : Int) : PtM :=
  if t = 0 then ⟨hasF fl 8, false, false, false, false, false, true⟩
  else if t = 1 then ⟨hasF fl 8, hasF fl 32, false, false, false, false, true⟩
  else if t = 2 then ⟨false, true, false, false, false, false, false⟩
  else if t = 3 then ⟨false, false, false, true, false, false, false⟩
  else if t = 4 then ⟨false, false, false, false, false, true, false⟩
  else if t = 7 then ⟨false, false, true, true, false, false, true⟩
  else if t = 8 then ⟨false, false, false, false, true, false, false⟩
  else ⟨false, false, false, false, false, false, true⟩

theorem neq_flag (b : Bool) (k : Int) (hk : k ≠ 0) : (!decide ((if b then k else 0) = 0)) = b := by cases b <;> simp [hk]

set_option maxHeartbeats 1000000 in
theorem pparts_any (t fl : Int) (w : World) (h0 : 0 ≤ fl) (h1 : fl ≤ 255) :
    Calls Tryd.prog 34 #[.int .i64 t, .int .i64 fl] w fun e w' => e = .returned (.agg (ptC (partsM t fl))) ∧ Below w.heap.size w w' := by
  have e8 := and_flag8 fl h0 h1
  have e32 := and_flag32 fl h0 h1
  obtain ⟨x8, hx8⟩ : ∃ x, x = bits .and .i64 fl 8 := ⟨_, rfl⟩
  obtain ⟨x32, hx32⟩ : ∃ x, x = bits .and .i64 fl 32 := ⟨_, rfl⟩
  obtain ⟨p, hp⟩ : ∃ p, p = ptC (partsM t fl) := ⟨_, rfl⟩
  rw [← hp]
  have HP := Lib.hid hp
  have E8 := Lib.hid e8
  have E32 := Lib.hid e32
  clear hp e8 e32 hx8 hx32
  by_cases t0 : t = 0
  · subst t0
    go_enter Tryd.func34, Tryd.ntmps34
    go_wp2_with fail
    refine bodyPost_ret (v := .agg p) ?_ rfl ?_
    · simp [results, Tryd.results34, go_sem]
      rw [HP.out, partsM]
      cases h8 : hasF fl 8 <;> cases h32 : hasF fl 32 <;> simp [ptC, E8.out, E32.out, h8, h32]
    · exact ⟨rfl, ((Below.refl _ _).alloc (Nat.le_refl _) _).alloc (by simp) _⟩
  by_cases t1 : t = 1
  · subst t1
    go_enter Tryd.func34, Tryd.ntmps34
    go_wp2_with fail
    refine bodyPost_ret (v := .agg p) ?_ rfl ?_
    · simp [results, Tryd.results34, go_sem]
      rw [HP.out, partsM]
      cases h8 : hasF fl 8 <;> cases h32 : hasF fl 32 <;> simp [ptC, E8.out, E32.out, h8, h32]
    · exact ⟨rfl, ((Below.refl _ _).alloc (Nat.le_refl _) _).alloc (by simp) _⟩
  by_cases t2 : t = 2
  · subst t2
    go_enter Tryd.func34, Tryd.ntmps34
    go_wp2_with fail
    refine bodyPost_ret (v := .agg p) ?_ rfl ?_
    · simp [results, Tryd.results34, go_sem]
      rw [HP.out, partsM]
      cases h8 : hasF fl 8 <;> cases h32 : hasF fl 32 <;> simp [ptC, E8.out, E32.out, h8, h32]
    · exact ⟨rfl, ((Below.refl _ _).alloc (Nat.le_refl _) _).alloc (by simp) _⟩
  by_cases t3 : t = 3
  · subst t3
    go_enter Tryd.func34, Tryd.ntmps34
    go_wp2_with fail
    refine bodyPost_ret (v := .agg p) ?_ rfl ?_
    · simp [results, Tryd.results34, go_sem]
      rw [HP.out, partsM]
      cases h8 : hasF fl 8 <;> cases h32 : hasF fl 32 <;> simp [ptC, E8.out, E32.out, h8, h32]
    · exact ⟨rfl, ((Below.refl _ _).alloc (Nat.le_refl _) _).alloc (by simp) _⟩
  by_cases t4 : t = 4
  · subst t4
    go_enter Tryd.func34, Tryd.ntmps34
    go_wp2_with fail
    refine bodyPost_ret (v := .agg p) ?_ rfl ?_
    · simp [results, Tryd.results34, go_sem]
      rw [HP.out, partsM]
      cases h8 : hasF fl 8 <;> cases h32 : hasF fl 32 <;> simp [ptC, E8.out, E32.out, h8, h32]
    · exact ⟨rfl, ((Below.refl _ _).alloc (Nat.le_refl _) _).alloc (by simp) _⟩
  by_cases t7 : t = 7
  · subst t7
    go_enter Tryd.func34, Tryd.ntmps34
    go_wp2_with fail
    refine bodyPost_ret (v := .agg p) ?_ rfl ?_
    · simp [results, Tryd.results34, go_sem]
      rw [HP.out, partsM]
      cases h8 : hasF fl 8 <;> cases h32 : hasF fl 32 <;> simp [ptC, E8.out, E32.out, h8, h32]
    · exact ⟨rfl, ((Below.refl _ _).alloc (Nat.le_refl _) _).alloc (by simp) _⟩
  by_cases t8 : t = 8
  · subst t8
    go_enter Tryd.func34, Tryd.ntmps34
    go_wp2_with fail
    refine bodyPost_ret (v := .agg p) ?_ rfl ?_
    · simp [results, Tryd.results34, go_sem]
      rw [HP.out, partsM]
      cases h8 : hasF fl 8 <;> cases h32 : hasF fl 32 <;> simp [ptC, E8.out, E32.out, h8, h32]
    · exact ⟨rfl, ((Below.refl _ _).alloc (Nat.le_refl _) _).alloc (by simp) _⟩
  · skip
    go_enter Tryd.func34, Tryd.ntmps34
    go_wp2_with fail
    refine bodyPost_ret (v := .agg p) ?_ rfl ?_
    · simp [results, Tryd.results34, go_sem]
      rw [HP.out, partsM]
      cases h8 : hasF fl 8 <;> cases h32 : hasF fl 32 <;> simp [ptC, E8.out, E32.out, h8, h32, t0, t1, t2, t3, t4, t7, t8]
    · exact ⟨rfl, ((Below.refl _ _).alloc (Nat.le_refl _) _).alloc (by simp) _⟩

def aheadN (p : PtM) : Nat := (if p.pad then 1 else 0) + (if p.order then 5 else 0) + (if p.last then 4 else 0) + (if p.code then 4 else 0) + (if p.inc then 4 else 0)
def nB (b : Bool) : Int := if b then 4 else 0

set_option maxHeartbeats 1000000 in
theorem pahead_any (p : PtM) (w : World) :
    Calls Tryd.prog 37 #[.agg (ptC p)] w fun e w' => e = .returned (.int .i64 (aheadN p)) ∧ Below w.heap.size w w' := by
  obtain ⟨pad, order, last, code, inc, sets, data⟩ := p
  unfold ptC
  simp only
  have HN : Hid ((aheadN ⟨pad, order, last, code, inc, sets, data⟩ : Int) = (if pad then 1 else 0) + (if order then 5 else 0) + nB last + nB code + nB inc) := Lib.hid (by
    simp only [aheadN, nB]; cases pad <;> cases order <;> cases last <;> cases code <;> cases inc <;> rfl)
  generalize (aheadN ⟨pad, order, last, code, inc, sets, data⟩ : Int) = N at HN ⊢
  cases pad <;> cases order
  all_goals
    go_enter Tryd.func37, Tryd.ntmps37
    go_wp2_with fail
    go_loop [3, 5, 21] (fun n _ i => ∃ (k : Nat) (m : Int), i = .int .i64 k ∧ n = .int .i64 m ∧ 0 ≤ m ∧ m ≤ 6 + 4 * k ∧ ((k = 0 ∧ m + nB last + nB code + nB inc = N) ∨ (k = 1 ∧ m + nB code + nB inc = N) ∨ (k = 2 ∧ m + nB inc = N) ∨ (k = 3 ∧ m = N))) (fun _ _ i => 3 - (intOf i).toNat)
    case atStart => exact ⟨0, _, rfl, rfl, by omega, by omega, .inl ⟨rfl, by rw [HN.out]; rfl⟩⟩
    case round =>
      have i0 : ∀ w, (Instr.index 81 (.agg #[.bool last, .bool code, .bool inc]) (.int .i64 0)).run Tryd.prog w = .ok (.bool last) w := fun _ => by kernel_rfl
      have i1 : ∀ w, (Instr.index 81 (.agg #[.bool last, .bool code, .bool inc]) (.int .i64 1)).run Tryd.prog w = .ok (.bool code) w := fun _ => by kernel_rfl
      have i2 : ∀ w, (Instr.index 81 (.agg #[.bool last, .bool code, .bool inc]) (.int .i64 2)).run Tryd.prog w = .ok (.bool inc) w := fun _ => by kernel_rfl
      obtain ⟨k, m, rfl, rfl, hm0, hm1, (⟨rfl, hN⟩ | ⟨rfl, hN⟩ | ⟨rfl, hN⟩ | ⟨rfl, hN⟩)⟩ := hrel
      · cases last
        · go_wp2_with fail
          go_round
          case rel => exact ⟨1, m, rfl, rfl, hm0, by omega, .inr (.inl ⟨rfl, by simpa [nB] using hN⟩)⟩
          case measure => decide
        · go_wp2_with fail
          go_round
          case rel => exact ⟨1, m + 4, rfl, rfl, by omega, by omega, .inr (.inl ⟨rfl, by simpa [nB] using hN⟩)⟩
          case measure => decide
      · cases code
        · go_wp2_with fail
          go_round
          case rel => exact ⟨2, m, rfl, rfl, hm0, by omega, .inr (.inr (.inl ⟨rfl, by simpa [nB] using hN⟩))⟩
          case measure => decide
        · go_wp2_with fail
          go_round
          case rel => exact ⟨2, m + 4, rfl, rfl, by omega, by omega, .inr (.inr (.inl ⟨rfl, by simpa [nB] using hN⟩))⟩
          case measure => decide
      · cases inc
        · go_wp2_with fail
          go_round
          case rel => exact ⟨3, m, rfl, rfl, hm0, by omega, .inr (.inr (.inr ⟨rfl, by simpa [nB] using hN⟩))⟩
          case measure => decide
        · go_wp2_with fail
          go_round
          case rel => exact ⟨3, m + 4, rfl, rfl, by omega, by omega, .inr (.inr (.inr ⟨rfl, by simpa [nB] using hN⟩))⟩
          case measure => decide
      · go_wp2_with fail
        go_ret
        exact ⟨rfl, (Below.refl _ _).alloc (Nat.le_refl _) _⟩

theorem pwithin_any (n m : Int) (w : World) :
    Calls Tryd.prog 35 #[.int .i64 n, .int .i64 m] w fun e w' => e = .returned (.bool (decide (0 ≤ n ∧ n ≤ m))) ∧ w = w' := by
  by_cases h : 0 ≤ n
  · go_enter Tryd.func35, Tryd.ntmps35
    go_wp2_with fail
    go_ret
    exact ⟨by simp [h], rfl⟩
  · go_enter Tryd.func35, Tryd.ntmps35
    have hd : decide (0 ≤ n) = false := decide_eq_false h
    go_wp2_with fail
    go_ret
    exact ⟨by simp [h], rfl⟩
theorem pwithin2_any (n m : Int) (w : World) :
    Calls Tryd.prog 36 #[.int .i64 n, .int .i64 m] w fun e w' => e = .returned (.bool (decide (0 ≤ n ∧ n ≤ m))) ∧ w = w' := by
  by_cases h : 0 ≤ n
  · go_enter Tryd.func36, Tryd.ntmps36
    go_wp2_with fail
    go_ret
    exact ⟨by simp [h], rfl⟩
  · go_enter Tryd.func36, Tryd.ntmps36
    have hd : decide (0 ≤ n) = false := decide_eq_false h
    go_wp2_with fail
    go_ret
    exact ⟨by simp [h], rfl⟩
end Go.Proofs.YtdilgkkkhmmffaaDoor

namespace Go.Proofs.YtdilgkkkhmmffaaDoor
open Go.RowKit
open Fra Oct Mem Gen Go.Proofs.YtdilgkkkhmmffaaDoor.Obj
set_option linter.unusedVariables false
set_option linter.unusedSimpArgs false

def inRB (f : FrM) : Bool :=
  decide (0 ≤ f.type ∧ f.type ≤ 255) && (decide (0 ≤ f.flags ∧ f.flags ≤ 255) && (decide (0 ≤ f.stream ∧ f.stream ≤ 2147483647) && (decide (0 ≤ f.last ∧ f.last ≤ 2147483647) &&
    (decide (0 ≤ f.dep ∧ f.dep ≤ 2147483647) && (decide (0 ≤ f.inc ∧ f.inc ≤ 2147483647) && (decide (0 ≤ f.pad ∧ f.pad ≤ 255) && (decide (0 ≤ f.weight ∧ f.weight ≤ 255) && decide (0 ≤ f.code ∧ f.code ≤ 4294967295))))))))
def bareB (f : FrM) (p : PtM) : Bool :=
  (p.pad || decide (f.pad = 0)) && ((p.order || (decide (f.dep = 0) && (decide (f.weight = 0) && !f.sole))) && ((p.last || decide (f.last = 0)) && ((p.code || decide (f.code = 0)) &&
    ((p.inc || decide (f.inc = 0)) && ((p.sets || decide (f.sets.length = 0)) && (p.data || decide (f.data = ByteArray.empty)))))))
inductive PtOk : PtM → Prop
  | dat (a b : Bool) : PtOk ⟨a, b, false, false, false, false, true⟩
  | pri : PtOk ⟨false, true, false, false, false, false, false⟩
  | rst : PtOk ⟨false, false, false, true, false, false, false⟩
  | set : PtOk ⟨false, false, false, false, false, true, false⟩
  | bye : PtOk ⟨false, false, true, true, false, false, true⟩
  | win : PtOk ⟨false, false, false, false, true, false, false⟩
theorem parts_ok (t fl : Int) : PtOk (partsM t fl) := by
  unfold partsM
  repeat' split
  all_goals constructor

set_option maxRecDepth 100000 in
set_option maxHeartbeats 4000000 in
theorem pinrange_any (f : FrM) (sa : Option Addr) (sc : Nat) (w : World) :
    Calls Tryd.prog 32 #[frV f sa sc] w fun e w' => e = .returned (.bool (inRB f)) ∧ Below w.heap.size w w' := by
  obtain ⟨t, fl, st, data, pad, sets, code, last, inc, dep, weight, sole⟩ := f
  obtain ⟨R, hR⟩ : ∃ x, x = inRB ⟨t, fl, st, data, pad, sets, code, last, inc, dep, weight, sole⟩ := ⟨_, rfl⟩
  rw [← hR]
  have HR := Lib.hid hR
  clear hR
  unfold frV frC
  simp only [inRB] at HR ⊢
  generalize sets.length = n
  by_cases h0 : 0 ≤ t ∧ t ≤ 255
  · have d0 := decide_eq_true h0
    clear h0
    by_cases h1 : 0 ≤ fl ∧ fl ≤ 255
    · have d1 := decide_eq_true h1
      clear h1
      by_cases h2 : 0 ≤ st ∧ st ≤ 2147483647
      · have d2 := decide_eq_true h2
        clear h2
        by_cases h3 : 0 ≤ last ∧ last ≤ 2147483647
        · have d3 := decide_eq_true h3
          clear h3
          by_cases h4 : 0 ≤ dep ∧ dep ≤ 2147483647
          · have d4 := decide_eq_true h4
            clear h4
            by_cases h5 : 0 ≤ inc ∧ inc ≤ 2147483647
            · have d5 := decide_eq_true h5
              clear h5
              by_cases h6 : 0 ≤ pad ∧ pad ≤ 255
              · have d6 := decide_eq_true h6
                clear h6
                by_cases h7 : 0 ≤ weight ∧ weight ≤ 255
                · have d7 := decide_eq_true h7
                  clear h7
                  by_cases h8 : 0 ≤ code ∧ code ≤ 4294967295
                  · have d8 := decide_eq_true h8
                    clear h8
                    have hT : R = true := by rw [HR.out, d0, d1, d2, d3, d4, d5, d6, d7, d8]; rfl
                    subst hT
                    go_enter Tryd.func32, Tryd.ntmps32
                    go_wp2_with (first | (go_at_call 35; refine (pwithin_any _ _ _).mono ?_; rintro e w' ⟨rfl, rfl⟩; simp only [d0, d1, d2, d3, d4, d5, d6, d7, d8]) | (go_at_call 36; refine (pwithin2_any _ _ _).mono ?_; rintro e w' ⟨rfl, rfl⟩; simp only [d0, d1, d2, d3, d4, d5, d6, d7, d8]))
                    go_ret
                    exact ⟨rfl, (Below.refl _ _).alloc (Nat.le_refl _) _⟩
                  · have d8 := decide_eq_false h8
                    clear h8
                    have hT : R = false := by rw [HR.out, d0, d1, d2, d3, d4, d5, d6, d7, d8]; rfl
                    subst hT
                    go_enter Tryd.func32, Tryd.ntmps32
                    go_wp2_with (first | (go_at_call 35; refine (pwithin_any _ _ _).mono ?_; rintro e w' ⟨rfl, rfl⟩; simp only [d0, d1, d2, d3, d4, d5, d6, d7, d8]) | (go_at_call 36; refine (pwithin2_any _ _ _).mono ?_; rintro e w' ⟨rfl, rfl⟩; simp only [d0, d1, d2, d3, d4, d5, d6, d7, d8]))
                    go_ret
                    exact ⟨rfl, (Below.refl _ _).alloc (Nat.le_refl _) _⟩
                · have d7 := decide_eq_false h7
                  clear h7
                  have hT : R = false := by rw [HR.out, d0, d1, d2, d3, d4, d5, d6, d7]; rfl
                  subst hT
                  go_enter Tryd.func32, Tryd.ntmps32
                  go_wp2_with (first | (go_at_call 35; refine (pwithin_any _ _ _).mono ?_; rintro e w' ⟨rfl, rfl⟩; simp only [d0, d1, d2, d3, d4, d5, d6, d7]) | (go_at_call 36; refine (pwithin2_any _ _ _).mono ?_; rintro e w' ⟨rfl, rfl⟩; simp only [d0, d1, d2, d3, d4, d5, d6, d7]))
                  go_ret
                  exact ⟨rfl, (Below.refl _ _).alloc (Nat.le_refl _) _⟩
              · have d6 := decide_eq_false h6
                clear h6
                have hT : R = false := by rw [HR.out, d0, d1, d2, d3, d4, d5, d6]; rfl
                subst hT
                go_enter Tryd.func32, Tryd.ntmps32
                go_wp2_with (first | (go_at_call 35; refine (pwithin_any _ _ _).mono ?_; rintro e w' ⟨rfl, rfl⟩; simp only [d0, d1, d2, d3, d4, d5, d6]) | (go_at_call 36; refine (pwithin2_any _ _ _).mono ?_; rintro e w' ⟨rfl, rfl⟩; simp only [d0, d1, d2, d3, d4, d5, d6]))
                go_ret
                exact ⟨rfl, (Below.refl _ _).alloc (Nat.le_refl _) _⟩
            · have d5 := decide_eq_false h5
              clear h5
              have hT : R = false := by rw [HR.out, d0, d1, d2, d3, d4, d5]; rfl
              subst hT
              go_enter Tryd.func32, Tryd.ntmps32
              go_wp2_with (first | (go_at_call 35; refine (pwithin_any _ _ _).mono ?_; rintro e w' ⟨rfl, rfl⟩; simp only [d0, d1, d2, d3, d4, d5]) | (go_at_call 36; refine (pwithin2_any _ _ _).mono ?_; rintro e w' ⟨rfl, rfl⟩; simp only [d0, d1, d2, d3, d4, d5]))
              go_ret
              exact ⟨rfl, (Below.refl _ _).alloc (Nat.le_refl _) _⟩
          · have d4 := decide_eq_false h4
            clear h4
            have hT : R = false := by rw [HR.out, d0, d1, d2, d3, d4]; rfl
            subst hT
            go_enter Tryd.func32, Tryd.ntmps32
            go_wp2_with (first | (go_at_call 35; refine (pwithin_any _ _ _).mono ?_; rintro e w' ⟨rfl, rfl⟩; simp only [d0, d1, d2, d3, d4]) | (go_at_call 36; refine (pwithin2_any _ _ _).mono ?_; rintro e w' ⟨rfl, rfl⟩; simp only [d0, d1, d2, d3, d4]))
            go_ret
            exact ⟨rfl, (Below.refl _ _).alloc (Nat.le_refl _) _⟩
        · have d3 := decide_eq_false h3
          clear h3
          have hT : R = false := by rw [HR.out, d0, d1, d2, d3]; rfl
          subst hT
          go_enter Tryd.func32, Tryd.ntmps32
          go_wp2_with (first | (go_at_call 35; refine (pwithin_any _ _ _).mono ?_; rintro e w' ⟨rfl, rfl⟩; simp only [d0, d1, d2, d3]) | (go_at_call 36; refine (pwithin2_any _ _ _).mono ?_; rintro e w' ⟨rfl, rfl⟩; simp only [d0, d1, d2, d3]))
          go_ret
          exact ⟨rfl, (Below.refl _ _).alloc (Nat.le_refl _) _⟩
      · have d2 := decide_eq_false h2
        clear h2
        have hT : R = false := by rw [HR.out, d0, d1, d2]; rfl
        subst hT
        go_enter Tryd.func32, Tryd.ntmps32
        go_wp2_with (first | (go_at_call 35; refine (pwithin_any _ _ _).mono ?_; rintro e w' ⟨rfl, rfl⟩; simp only [d0, d1, d2]) | (go_at_call 36; refine (pwithin2_any _ _ _).mono ?_; rintro e w' ⟨rfl, rfl⟩; simp only [d0, d1, d2]))
        go_ret
        exact ⟨rfl, (Below.refl _ _).alloc (Nat.le_refl _) _⟩
    · have d1 := decide_eq_false h1
      clear h1
      have hT : R = false := by rw [HR.out, d0, d1]; rfl
      subst hT
      go_enter Tryd.func32, Tryd.ntmps32
      go_wp2_with (first | (go_at_call 35; refine (pwithin_any _ _ _).mono ?_; rintro e w' ⟨rfl, rfl⟩; simp only [d0, d1]) | (go_at_call 36; refine (pwithin2_any _ _ _).mono ?_; rintro e w' ⟨rfl, rfl⟩; simp only [d0, d1]))
      go_ret
      exact ⟨rfl, (Below.refl _ _).alloc (Nat.le_refl _) _⟩
  · have d0 := decide_eq_false h0
    clear h0
    have hT : R = false := by rw [HR.out, d0]; rfl
    subst hT
    go_enter Tryd.func32, Tryd.ntmps32
    go_wp2_with (first | (go_at_call 35; refine (pwithin_any _ _ _).mono ?_; rintro e w' ⟨rfl, rfl⟩; simp only [d0]) | (go_at_call 36; refine (pwithin2_any _ _ _).mono ?_; rintro e w' ⟨rfl, rfl⟩; simp only [d0]))
    go_ret
    exact ⟨rfl, (Below.refl _ _).alloc (Nat.le_refl _) _⟩

end Go.Proofs.YtdilgkkkhmmffaaDoor

namespace Go.Proofs.YtdilgkkkhmmffaaDoor
open Go.RowKit
open Fra Oct Arg Mem Gen Wr Go.Proofs.YtdilgkkkhmmffaaDoor.Obj
set_option linter.unusedVariables false
set_option linter.unusedSimpArgs false

/-- The program's frame that is being written: its bytes in a row of the call's own. -/
structure FWt (B : Nat) (L : List Nat) (wb : Nat) (out : List UInt8) (w : World) : Prop where
  ex : ∃ oa oc, w.heap[wb]? = some (.cells #[.slice oa out.length oc] 44 (0, 0)) ∧ OutB B L oa oc out w ∧ ∀ o s, oa ≠ some ⟨wb, o, s⟩
  lo : B ≤ wb
  no : wb ∉ L
theorem FWt.lt {B wb : Nat} {L : List Nat} {out : List UInt8} {w : World} (h : FWt B L wb out w) : wb < w.heap.size := by
  obtain ⟨oa, oc, hh, _⟩ := h.ex; exact (Array.getElem?_eq_some_iff.1 hh).1
theorem FWt.stand {B wb : Nat} {L L' : List Nat} {out : List UInt8} {w w' : World} (h : FWt B L wb out w) (hk : Kept L w w') (hL : ∀ k ∈ L', k ∈ L ∨ w.heap.size ≤ k) : FWt B L' wb out w' := by
  have hlt := h.lt
  obtain ⟨⟨oa, oc, hh, ho, hne⟩, h1, h2⟩ := h
  refine ⟨⟨oa, oc, hk.at hh h2, ho.kept hk hL, hne⟩, h1, fun hm => ?_⟩
  rcases hL wb hm with h3 | h3
  · exact h2 h3
  · omega
theorem FWt.below {B wb : Nat} {L : List Nat} {out : List UInt8} {w w' : World} (h : FWt B L wb out w) (hb : Below w.heap.size w w') : FWt B L wb out w' :=
  h.stand (Kept.of_below hb) (fun k hk => .inl hk)
theorem FWt.cell0 {B wb : Nat} {L : List Nat} {out l3 : List UInt8} {w w' : World} {oa oa' : Option Addr} {oc oc' : Nat} (hh : w.heap[wb]? = some (.cells #[.slice oa out.length oc] 44 (0, 0))) (hne : ∀ o s, oa ≠ some ⟨wb, o, s⟩) (hG : Grew B L w oa oa' oc' l3 w') :
    w'.cell? ⟨wb, 0, none⟩ = some (.slice oa out.length oc) ∧ w'.frozen? ⟨wb, 0, none⟩ = false := by
  have hh' : w'.heap[wb]? = _ := (hG.blk wb (Array.getElem?_eq_some_iff.1 hh).1 hne).trans hh
  exact ⟨cell_at hh' 0, frozen_of_row _ _ 0 _ _ hh'⟩
/-- The bytes have grown, and are stored. -/
theorem FWt.stored {B wb : Nat} {L : List Nat} {out l3 : List UInt8} {w w' : World} {oa oa' : Option Addr} {oc oc' : Nat} (hh : w.heap[wb]? = some (.cells #[.slice oa out.length oc] 44 (0, 0))) (hne : ∀ o s, oa ≠ some ⟨wb, o, s⟩) (h1 : B ≤ wb) (h2 : wb ∉ L) (hG : Grew B L w oa oa' oc' l3 w') :
    FWt B L wb l3 (w'.setCell ⟨wb, 0, none⟩ (.slice oa' l3.length oc')) ∧ Std B L w (w'.setCell ⟨wb, 0, none⟩ (.slice oa' l3.length oc')) := by
  have hlt := (Array.getElem?_eq_some_iff.1 hh).1
  have hh' : w'.heap[wb]? = _ := (hG.blk wb hlt hne).trans hh
  have hne' : ∀ o s, oa' ≠ some ⟨wb, o, s⟩ := fun o s e => by
    rcases hG.new wb o s e with ⟨o', e'⟩ | h3
    · exact hne o' none e'
    · omega
  have hset := heap_setCell_same w' wb 0 _ _ (.slice oa' l3.length oc') hh'
  refine ⟨⟨⟨oa', oc', hset, hG.out.stand (by simp [World.setCell]) (fun b o s e => Below.heap_setCell _ _ _ _ (fun e2 => hne' o s (by simp only at e2; subst e2; exact e))) (fun k hk => .inl hk), hne'⟩, h1, h2⟩, hG.std.setCell h1 h2 _⟩


theorem putL_nonnil (n : Int) (s : Nat) (h : 1 ≤ s) : putL n s ≠ [] := fun e => by
  have := putL_length n s
  rw [e] at this; simp at this; omega

set_option maxRecDepth 100000 in
set_option maxHeartbeats 1000000 in
theorem pnum_any (B : Nat) (L : List Nat) (wb : Nat) (out : List UInt8) (n : Int) (s : Nat) (w : World) (h : FWt B L wb out w) (hB : B ≤ w.heap.size) (hL : ∀ k ∈ L, k < w.heap.size) (h1 : 1 ≤ s) (h4 : s ≤ 4) (hn0 : 0 ≤ n) (hn1 : n < 4294967296) (hlen : out.length ≤ 1000000000) :
    Calls Tryd.prog 38 #[.pointer (some ⟨wb, 0, none⟩), .int .i64 n, .int .i64 s] w fun e w' => e = .returned (.tuple #[]) ∧ FWt B L wb (out ++ putL n s) w' ∧ Std B L w w' := by
  have hu : IntKind.u32.wrap n = n := by
    have hu0 : IntKind.u32.wrap n = n % 4294967296 := rfl
    rw [hu0]; omega
  have HP := Lib.hid (fun v => put_yes n s v hn0 hn1 h1 h4)
  have hpl := putL_length n s
  have HNe := Lib.hid (putL_nonnil n s h1)
  generalize putL n s = Y at HP hpl HNe
  have HLt := Lib.hid (fun v (hv : Below w.heap.size w v) => (⟨Nat.le_trans hB hv.size, fun k hk => Nat.lt_of_lt_of_le (hL k hk) hv.size⟩ : B ≤ v.heap.size ∧ ∀ k ∈ L, k < v.heap.size))
  have hinfo := Lib.hid info_u8
  obtain ⟨Z, hZ⟩ : ∃ Z, Z = out ++ Y := ⟨_, rfl⟩
  have hZl : Z.length ≤ 140737488355328 := by rw [hZ, List.length_append]; omega
  have HZ := Lib.hid hZ
  rw [← hZ]
  obtain ⟨⟨oa, oc, hh, ho, hne⟩, hlo, hno⟩ := h
  have c1 := cell_at hh 0
  have c1' : w.drew.cell? ⟨wb, 0, none⟩ = some (.slice oa out.length oc) := c1
  have HFin : Hid (∀ v oa' oc' v4, Below w.heap.size w v → Grew B L v oa oa' oc' Z v4 → FWt B L wb Z (v4.setCell ⟨wb, 0, none⟩ (.slice oa' Z.length oc')) ∧ Std B L w (v4.setCell ⟨wb, 0, none⟩ (.slice oa' Z.length oc'))) := Lib.hid (fun v oa' oc' v4 hv hG => by
    have hh' := block_below hv hh
    obtain ⟨r1, r2⟩ := FWt.stored hh' hne hlo hno hG
    exact ⟨r1, (Std.of_below hv).trans r2⟩)
  have HC4 : Hid (∀ v oa' oc' v4, Below w.heap.size w v → Grew B L v oa oa' oc' Z v4 → v4.cell? ⟨wb, 0, none⟩ = some (.slice oa out.length oc) ∧ v4.frozen? ⟨wb, 0, none⟩ = false) := Lib.hid (fun v oa' oc' v4 hv hG => FWt.cell0 (block_below hv hh) hne hG)
  have HOut : Hid (∀ v, Below w.heap.size w v → OutB B L oa oc out v) := Lib.hid (fun v hv => ho.below hv)
  have hb : Below w.heap.size w w.drew := (Below.refl _ _).drew
  have HI : Hid (∀ v, (callFunc 52 #[.int .u32 n, .int .i64 s]).run Tryd.prog v = .ok (.enter 52 #[.int .u32 n, .int .i64 s]) v) := Lib.hid (fun v => by simp [go_sem])
  clear hh ho hne hZ hL hpl
  go_enter Tryd.func38, Tryd.ntmps38
  go_region_law (first
    | (refine step_bytes Tryd.underlying27 hinfo.out rfl (.tmp 10) (.tmp 14) rfl rfl rfl (HOut.out _ hb1) (HLt.out _ hb1).1 (HLt.out _ hb1).2 rfl rfl HNe.out HR.out Z HZ.out hZl ?_; intro oa' oc' w4 hG; obtain ⟨q1, y1⟩ := HC4.out _ _ _ _ hb1 hG.out)
    | (refine step_call rfl 52 [.tmp 12, .tmp 13] _ rfl [.int .u32 n, .int .i64 s] (by simp [Act.eval, Act.put, hu]) HI.out (HP.out _) ?_; rintro e w1 ⟨ad, cp, rfl, hown, b1⟩; refine ⟨_, rfl, ?_⟩; have hb1 := below_step hb b1; have c2 := below_cell b1 c1'; have HR : Hid (RB w1 ad Y) := Lib.hid (RB.of_own hown.out); clear hown))
  all_goals
    go_end0
    exact ⟨rfl, HFin.out _ _ _ _ hb1 hG.out⟩
end Go.Proofs.YtdilgkkkhmmffaaDoor

namespace Go.Proofs.YtdilgkkkhmmffaaDoor
open Go.RowKit
open Fra Oct Arg Mem Gen Wr Go.Proofs.YtdilgkkkhmmffaaDoor.Obj
set_option linter.unusedVariables false
set_option linter.unusedSimpArgs false

theorem FWt.less {B wb : Nat} {L L' : List Nat} {out : List UInt8} {w : World} (h : FWt B L wb out w) (hL : ∀ k ∈ L', k ∈ L) : FWt B L' wb out w := by
  obtain ⟨⟨oa, oc, hh, ho, hne⟩, h1, h2⟩ := h
  exact ⟨⟨oa, oc, hh, ⟨ho.row, fun b o s e => ⟨(ho.apart b o s e).1, fun hm => (ho.apart b o s e).2 (hL b hm)⟩⟩, hne⟩, h1, fun hm => h2 (hL wb hm)⟩
/-- A frame that is being written since the world w0. -/
structure Wat (w0 : World) (B : Nat) (L : List Nat) (wb : Nat) (out : List UInt8) (w : World) : Prop where
  st : FWt B L wb out w
  std : Std B L w0 w
  hB : B ≤ w.heap.size
  hL : ∀ k ∈ L, k < w.heap.size
theorem Wat.box {w0 w : World} {B wb : Nat} {L : List Nat} {out : List UInt8} (h : Wat w0 B L wb out w) (o : Obj) : Wat w0 B (w.heap.size :: L) wb out (w.alloc o) where
  st := h.st.stand (Kept.of_below ((Below.refl _ _).alloc (Nat.le_refl _) o)) (fun k hk => by
    rcases List.mem_cons.mp hk with h1 | h1
    · right; omega
    · exact .inl h1)
  std := (h.std.alloc o).less (fun k hk hlt => by
    rcases List.mem_cons.mp hk with h1 | h1
    · have := h.std.size; omega
    · exact .inr h1)
  hB := Nat.le_trans h.hB ((Below.refl w.heap.size w).alloc (Nat.le_refl _) o).size
  hL := fun k hk => by
    have hs : (w.alloc o).heap.size = w.heap.size + 1 := by simp
    rcases List.mem_cons.mp hk with h1 | h1
    · omega
    · have := h.hL k h1; omega
theorem Wat.less {w0 w : World} {B wb : Nat} {L L' : List Nat} {out : List UInt8} (h : Wat w0 B L wb out w) (hL : ∀ k ∈ L', k ∈ L) : Wat w0 B L' wb out w :=
  ⟨h.st.less hL, h.std.less (fun k hk _ => .inr (hL k hk)), h.hB, fun k hk => h.hL k (hL k hk)⟩
theorem Wat.start {w : World} {B wb : Nat} {L : List Nat} {out : List UInt8} (h : FWt B L wb out w) (hB : B ≤ w.heap.size) (hL : ∀ k ∈ L, k < w.heap.size) : Wat w B L wb out w := ⟨h, Std.refl _ _ _, hB, hL⟩
theorem Wat.below {w0 w w' : World} {B wb : Nat} {L : List Nat} {out : List UInt8} (h : Wat w0 B L wb out w) (hb : Below w.heap.size w w') : Wat w0 B L wb out w' :=
  ⟨h.st.below hb, h.std.then hb, Nat.le_trans h.hB hb.size, fun k hk => Nat.lt_of_lt_of_le (h.hL k hk) hb.size⟩
/-- The blocks of L stand. -/
def Kp (L : List Nat) (w w' : World) : Prop := ∀ k ∈ L, w'.heap[k]? = w.heap[k]?
theorem Wat.next {w0 w w' : World} {B wb : Nat} {L : List Nat} {out out' : List UInt8} (h : Wat w0 B L wb out w) (h1 : FWt B L wb out' w') (h2 : Std B L w w') : Wat w0 B L wb out' w' ∧ Kp L w w' :=
  ⟨⟨h1, h.std.trans h2, Nat.le_trans h.hB h2.size, fun k hk => Nat.lt_of_lt_of_le (h.hL k hk) h2.size⟩, fun k hk => h2.block k (h.hL k hk) (.inr hk)⟩

theorem wat_num {w0 w : World} {B wb : Nat} {L : List Nat} {out : List UInt8} (h : Wat w0 B L wb out w) (n : Int) (s : Nat) (h1 : 1 ≤ s) (h4 : s ≤ 4) (hn0 : 0 ≤ n) (hn1 : n < 4294967296) (hlen : out.length ≤ 1000000000) :
    Calls Tryd.prog 38 #[.pointer (some ⟨wb, 0, none⟩), .int .i64 n, .int .i64 s] w fun e w' => e = .returned (.tuple #[]) ∧ Wat w0 B L wb (out ++ putL n s) w' ∧ Kp L w w' :=
  (pnum_any B L wb out n s w h.st h.hB h.hL h1 h4 hn0 hn1 hlen).mono fun e w' ⟨r1, r2, r3⟩ => ⟨r1, h.next r2 r3⟩

theorem put_one (n : Int) (h0 : 0 ≤ n) (h1 : n ≤ 255) : putL n 1 = [bt n] := by
  obtain ⟨m, rfl⟩ := Int.eq_ofNat_of_zero_le h0
  have : ∀ k : Fin 256, putL ((k.val : Nat) : Int) 1 = [bt ((k.val : Nat) : Int)] := by decide +kernel
  exact this ⟨m, by omega⟩
theorem inR_of (f : FrM) (h : inRB f = true) : (0 ≤ f.type ∧ f.type ≤ 255) ∧ (0 ≤ f.flags ∧ f.flags ≤ 255) ∧ (0 ≤ f.stream ∧ f.stream ≤ 2147483647) ∧ (0 ≤ f.last ∧ f.last ≤ 2147483647) ∧
    (0 ≤ f.dep ∧ f.dep ≤ 2147483647) ∧ (0 ≤ f.inc ∧ f.inc ≤ 2147483647) ∧ (0 ≤ f.pad ∧ f.pad ≤ 255) ∧ (0 ≤ f.weight ∧ f.weight ≤ 255) ∧ (0 ≤ f.code ∧ f.code ≤ 4294967295) := by
  simpa [inRB] using h

set_option maxRecDepth 100000 in
set_option maxHeartbeats 1000000 in
theorem phead_any {w0 w : World} {B wb : Nat} {L : List Nat} {out : List UInt8} (h : Wat w0 B L wb out w) (f : FrM) (sa : Option Addr) (sc : Nat) (n : Int) (hn0 : 0 ≤ n) (hn1 : n < 4294967296) (hf : inRB f = true) (hlen : out.length ≤ 900000000) :
    Calls Tryd.prog 19 #[.pointer (some ⟨wb, 0, none⟩), frV f sa sc, .int .i64 n] w fun e w' => e = .returned (.tuple #[]) ∧ Wat w0 B L wb (out ++ (putL n 3 ++ (putL f.type 1 ++ (putL f.flags 1 ++ putL f.stream 4)))) w' ∧ Kp L w w' := by
  have HF := Lib.hid hf
  have H := Lib.hid (Wat.start h.st h.hB h.hL)
  have HH := Lib.hid h
  clear h hf
  unfold frV
  have q0 : (frC f sa sc)[0]? = some (.int .i64 f.type) := rfl
  have q1 : (frC f sa sc)[1]? = some (.int .i64 f.flags) := rfl
  have q2 : (frC f sa sc)[2]? = some (.int .i64 f.stream) := rfl
  generalize frC f sa sc = cs at q0 q1 q2 ⊢
  have HQ := Lib.hid (And.intro q0 (And.intro q1 q2))
  clear q0 q1 q2
  go_enter Tryd.func19, Tryd.ntmps19
  go_wp2_with fail
  have H1 := Lib.hid (H.out.box (.cells cs 24))
  have hbx := heap_alloc_new w (.cells cs 24)
  generalize w.alloc (.cells cs 24) = w1 at H1 hbx ⊢
  generalize w.heap.size = bx at H1 hbx ⊢
  have HB1 := Lib.hid hbx
  clear hbx
  refine (wat_num H1.out n 3 (by decide) (by decide) hn0 hn1 (by omega)).mono ?_
  rintro e w2 ⟨rfl, h2, k2⟩
  have H2 := Lib.hid h2
  have HB2 := Lib.hid ((k2 bx (by simp)).trans HB1.out)
  have c0 : w2.cell? ⟨bx, 0, none⟩ = some (.int .i64 f.type) := (cell_at HB2.out 0).trans HQ.out.1
  clear h2 k2
  obtain ⟨⟨t0, t1⟩, ⟨f0, f1⟩, ⟨s0, s1⟩, _⟩ := inR_of f HF.out
  go_wp2_with fail
  refine (wat_num H2.out f.type 1 (by decide) (by decide) t0 (by omega) (by simp [putL_length]; omega)).mono ?_
  rintro e w3 ⟨rfl, h3, k3⟩
  have H3 := Lib.hid h3
  have HB3 := Lib.hid ((k3 bx (by simp)).trans HB2.out)
  have c1 : w3.cell? ⟨bx, 1, none⟩ = some (.int .i64 f.flags) := (cell_at HB3.out 1).trans HQ.out.2.1
  clear h3 k3 c0
  go_wp2_with fail
  refine (wat_num H3.out f.flags 1 (by decide) (by decide) f0 (by omega) (by simp [putL_length]; omega)).mono ?_
  rintro e w4 ⟨rfl, h4, k4⟩
  have H4 := Lib.hid h4
  have HB4 := Lib.hid ((k4 bx (by simp)).trans HB3.out)
  have c2 : w4.cell? ⟨bx, 2, none⟩ = some (.int .i64 f.stream) := (cell_at HB4.out 2).trans HQ.out.2.2
  clear h4 k4 c1
  go_wp2_with fail
  refine (wat_num H4.out f.stream 4 (by decide) (by decide) s0 (by omega) (by simp [putL_length]; omega)).mono ?_
  rintro e w5 ⟨rfl, h5, k5⟩
  have H5 := Lib.hid h5
  clear h5 c2
  go_wp2_with fail
  go_end0
  have h6 := H5.out.less (L' := L) (fun k hk => List.mem_cons_of_mem _ hk)
  have h7 := HH.out.next h6.st h6.std
  simp only [List.append_assoc] at h7
  exact ⟨rfl, h7⟩

set_option maxRecDepth 100000 in
set_option maxHeartbeats 1000000 in
theorem porder_any {w0 w : World} {B wb : Nat} {L : List Nat} {out : List UInt8} (h : Wat w0 B L wb out w) (f : FrM) (sa : Option Addr) (sc : Nat) (hf : inRB f = true) (hlen : out.length ≤ 900000000) :
    Calls Tryd.prog 39 #[.pointer (some ⟨wb, 0, none⟩), frV f sa sc] w fun e w' => e = .returned (.tuple #[]) ∧ Wat w0 B L wb (out ++ placeL f) w' ∧ Kp L w w' := by
  obtain ⟨_, _, _, _, ⟨d0, d1⟩, _, _, ⟨g0, g1⟩, _⟩ := inR_of f hf
  have hP : placeL f = putL (f.dep + (if f.sole then 2147483648 else 0)) 4 ++ putL f.weight 1 := by
    rw [placeL, put_one f.weight g0 g1]
  have H := Lib.hid (Wat.start h.st h.hB h.hL)
  have HH := Lib.hid h
  have hor := or31 f.dep d0 d1
  rw [hP]
  clear h hf hP
  unfold frV
  have q9 : (frC f sa sc)[9]? = some (.int .i64 f.dep) := rfl
  have q10 : (frC f sa sc)[10]? = some (.int .i64 f.weight) := rfl
  have q11 : (frC f sa sc)[11]? = some (.bool f.sole) := rfl
  generalize frC f sa sc = cs at q9 q10 q11 ⊢
  have HQ := Lib.hid (And.intro q9 (And.intro q10 q11))
  clear q9 q10 q11
  have H1 := Lib.hid (H.out.box (.cells cs 24))
  have hbx := heap_alloc_new w (.cells cs 24)
  have c9 : (w.alloc (.cells cs 24)).cell? ⟨w.heap.size, 9, none⟩ = some (.int .i64 f.dep) := (cell_at hbx 9).trans HQ.out.1
  have c11 : (w.alloc (.cells cs 24)).cell? ⟨w.heap.size, 11, none⟩ = some (.bool f.sole) := (cell_at hbx 11).trans HQ.out.2.2
  have HB1 := Lib.hid hbx
  clear hbx
  cases hs : f.sole
  all_goals
    rw [hs] at c11
    go_enter Tryd.func39, Tryd.ntmps39
    go_wp2_with fail
    generalize w.alloc (.cells cs 24) = w1 at H1 HB1 c9 c11 ⊢
    generalize w.heap.size = bx at H1 HB1 c9 c11 ⊢
    refine (wat_num H1.out _ 4 (by decide) (by decide) (by omega) (by omega) (by omega)).mono ?_
    rintro e w2 ⟨rfl, h2, k2⟩
    have H2 := Lib.hid h2
    have HB2 := Lib.hid ((k2 bx (by simp)).trans HB1.out)
    have c10 : w2.cell? ⟨bx, 10, none⟩ = some (.int .i64 f.weight) := (cell_at HB2.out 10).trans HQ.out.2.1
    clear h2 k2 c9 c11
    go_wp2_with fail
    refine (wat_num H2.out f.weight 1 (by decide) (by decide) g0 (by omega) (by simp [putL_length]; omega)).mono ?_
    rintro e w3 ⟨rfl, h3, k3⟩
    have H3 := Lib.hid h3
    clear h3 k3 c10
    go_wp2_with fail
    go_end0
    have h6 := H3.out.less (L' := L) (fun k hk => List.mem_cons_of_mem _ hk)
    have h7 := HH.out.next h6.st h6.std
    simp only [List.append_assoc] at h7
    simpa using h7
end Go.Proofs.YtdilgkkkhmmffaaDoor

namespace Go.Proofs.YtdilgkkkhmmffaaDoor
open Go.RowKit
open Mem Gen Go.Proofs.YtdilgkkkhmmffaaDoor.Obj
set_option linter.unusedVariables false
set_option linter.unusedSimpArgs false
namespace Wr
open Rw

theorem que_room {α : Type} (E : Enc α) (w : World) (b off cap : Nat) (l l2 : List α) (h : QRow E w (some ⟨b, off, none⟩) cap l) (hroom : l.length + l2.length ≤ cap) :
    QRow E (w.setCells b (off + l.length * E.k) (flat E l2)) (some ⟨b, off, none⟩) cap (l ++ l2) ∧
      ∀ j, j < (flat E l2).length → (w.cell? ⟨b, off + l.length * E.k + j, none⟩).isSome = true ∧ w.frozen? ⟨b, off + l.length * E.k + j, none⟩ = false := by
  obtain ⟨b1, off1, e1, hb, hc, hsp⟩ := h.lies _ rfl
  simp only [Addr.mk.injEq, and_true] at e1
  obtain ⟨rfl, rfl⟩ := e1
  have hnl := flat_len E l2
  have hsp' : ∀ j, j < (flat E l2).length → (w.cell? ⟨b, off + l.length * E.k + j, none⟩).isSome = true ∧ w.frozen? ⟨b, off + l.length * E.k + j, none⟩ = false := fun j hj => by
    have hlt : l.length * E.k + j < cap * E.k := by
      have : (l.length + l2.length) * E.k ≤ cap * E.k := Nat.mul_le_mul_right _ hroom
      rw [Nat.add_mul] at this
      omega
    have := hsp (l.length * E.k + j) hlt
    rw [← Nat.add_assoc] at this
    exact this
  refine ⟨⟨by simpa using hroom, h.max, (fun e => by cases e), fun a e => ?_⟩, hsp'⟩
  simp only [Option.some.injEq] at e
  subst e
  have hin := World.cell?_setCells_in b (flat E l2) (off + l.length * E.k) w (fun j hj => (hsp' j hj).1)
  refine ⟨b, off, rfl, Nat.lt_of_lt_of_le hb (grown_setCells b _ _ w).size, fun i' hi' r u hu => ?_, fun j hj => ⟨?_, by rw [World.frozen?_setCells]; exact (hsp j hj).2⟩⟩
  · by_cases hlt : i' < l.length
    · rw [List.getElem_append_left hlt] at hu
      have hr' : r < E.k := by
        have := (List.getElem?_eq_some_iff.1 hu).1
        rwa [E.len] at this
      rw [World.cell?_setCells_out b _ _ _ _ (fun _ _ => Or.inl (by
        show off + i' * E.k + r < off + l.length * E.k
        have : (i' + 1) * E.k ≤ l.length * E.k := Nat.mul_le_mul_right _ hlt
        rw [Nat.add_mul] at this; omega))]
      exact hc i' hlt r u hu
    · rw [List.getElem_append_right (by omega)] at hu
      have hi2 : i' - l.length < l2.length := by simp at hi'; omega
      have hf := flat_of E l2 (i' - l.length) r hi2 u hu
      obtain ⟨hjl, hje⟩ := List.getElem?_eq_some_iff.1 hf
      have := hin _ hjl
      rw [hje] at this
      rw [← this]
      congr 2
      have e1 : i' * E.k = l.length * E.k + (i' - l.length) * E.k := by rw [← Nat.add_mul]; congr 1; omega
      rw [e1]; omega
  · by_cases hj2 : l.length * E.k ≤ j ∧ j < l.length * E.k + (flat E l2).length
    · have := hin (j - l.length * E.k) (by omega)
      rw [show off + j = off + l.length * E.k + (j - l.length * E.k) by omega, this]; rfl
    · rw [World.cell?_setCells_out b _ _ _ _ (fun _ _ => by show off + j < off + l.length * E.k ∨ off + l.length * E.k + (flat E l2).length ≤ off + j; omega)]
      exact (hsp j hj).1
theorem flat_by (l : List UInt8) : flat EBy l = bvs l := by simp [flat, EBy, bvs, List.flatMap, List.flatten]; induction l <;> simp_all
theorem que_grow (w : World) (e : TypeId) (l : List UInt8) (gc : Nat) (rest : Array Value) (h1 : l.length ≤ gc) (h2 : gc ≤ maxLen) (h3 : rest.size = gc - l.length) :
    QRow EBy (w.alloc (.cells ((bvs l).toArray ++ rest) e)) (some ⟨w.heap.size, 0, none⟩) gc l := by
  have hh := heap_alloc_new w (.cells ((bvs l).toArray ++ rest) e)
  have hbl : (bvs l).length = l.length := by simp [bvs]
  refine ⟨h1, h2, (fun e => by cases e), fun a ea => ?_⟩
  simp only [Option.some.injEq] at ea
  subst ea
  refine ⟨_, 0, rfl, by simp, fun i hi r v hv => ?_, fun j hj => ⟨?_, frozen_of_row _ _ _ _ _ hh⟩⟩
  · have hr : r = 0 := by
      have := (List.getElem?_eq_some_iff.1 hv).1
      simp [EBy] at this; omega
    subst hr
    simp only [EBy, List.getElem?_cons_zero, Option.some.injEq] at hv
    subst hv
    have := cell_at hh (0 + i * EBy.k + 0)
    rw [this]
    simp only [EBy, Nat.zero_add, Nat.mul_one, Nat.add_zero]
    rw [Array.getElem?_append_left (by simpa [hbl] using hi)]
    simp [bvs, hi]
  · rw [cell_at hh (0 + j)]
    simp only [EBy] at hj
    rw [Array.getElem?_eq_getElem (by simp [h3, hbl]; omega)]; rfl
theorem grew_of {B : Nat} {L : List Nat} {oa oa' : Option Addr} {oc oc' : Nat} {out l3 : List UInt8} {w w' : World} (h : OutB B L oa oc out w) (hB : B ≤ w.heap.size) (hLw : ∀ k ∈ L, k < w.heap.size) (hq : QRow EBy w' oa' oc' l3) (hg : w.grownBy w' (oa.map (·.block)))
    (hb : ∀ b o s, oa' = some ⟨b, o, s⟩ → (∃ o', oa = some ⟨b, o', .none⟩) ∨ w.heap.size ≤ b) : Grew B L w oa oa' oc' l3 w' := by
  have hap : ∀ b o s, oa' = some ⟨b, o, s⟩ → B ≤ b ∧ b ∉ L := fun b o s e => by
    rcases hb b o s e with ⟨o', e'⟩ | h1
    · exact h.apart b o' none e'
    · exact ⟨by omega, fun hm => by have := hLw b hm; omega⟩
  refine ⟨⟨hq, hap⟩, (Std.refl B L w).grown hg (fun k hk => ?_), fun k hk hne => hg.block k hk (fun e => ?_), hb⟩
  · rw [Option.map_eq_some_iff] at hk
    obtain ⟨⟨b, o, s⟩, e, rfl⟩ := hk
    exact h.apart b o s e
  · symm at e
    rw [Option.map_eq_some_iff] at e
    obtain ⟨⟨b, o, s⟩, e, rfl⟩ := e
    exact hne o s e
theorem hold_of {P : Program} {w : World} {oa : Option Addr} {oc : Nat} {out : List UInt8} (h : RB w oa out) : (Builtin.firstCells 1 out.length (.slice oa out.length oc)).run P w.drew = .ok (bvs out).toArray w.drew := by
  rcases h with h | ⟨b, off, h, hc⟩
  · subst h
    cases oa with
    | none => rfl
    | some a => exact run_firstCells_some w.drew 1 0 a 0 oc [] rfl (fun j u hj => by simp at hj)
  · subst h
    exact run_firstCells_some w.drew 1 out.length _ _ oc (bvs out) (by simp [bvs]) (fun j u hj => by
      have hj' := (List.getElem?_eq_some_iff.1 hj).1
      rw [bvs_length] at hj'
      rw [bvs_at out j hj'] at hj
      simp only [Option.some.injEq] at hj
      subst hj
      rw [Arg.add_none]
      exact hc j hj')

section
variable {P : Program} {t tn : TypeId}
theorem run_text (w : World) (ty : TypeId) (ht : P.underlying t = some (.slice 5)) (hk : P.underlying tn = some .string) (hi : (P.info? 5).map (fun i => (i.zero, i.size, i.bytes)) = some (some (.int .u8 0), 1, 1))
    {B : Nat} {L : List Nat} {oa : Option Addr} {oc : Nat} {out : List UInt8} (h : OutB B L oa oc out w) (hB : B ≤ w.heap.size) (hLw : ∀ k ∈ L, k < w.heap.size) (s : ByteArray)
    (l3 : List UInt8) (hl3 : l3 = out ++ s.data.toList) (hlen : l3.length ≤ 140737488355328) (n : Nat) (hn : n = out.length) :
    ∃ (oa' : Option Addr) (oc' : Nat) (w' : World), (Builtin.append_ #[t, tn] ty #[.slice oa n oc, .string s]).run P w = .ok (.slice oa' l3.length oc') w' ∧ Grew B L w oa oa' oc' l3 w' := by
  subst hn
  rw [Option.map_eq_some_iff] at hi
  obtain ⟨i, hi, hi3⟩ := hi
  simp only [Prod.mk.injEq] at hi3
  obtain ⟨hz, hsize, hby⟩ := hi3
  have hsl : s.data.toList.length = s.size := by simp
  have hl : l3.length = out.length + s.size := by rw [hl3, List.length_append, hsl]
  rw [hl] at hlen ⊢
  have hsrc : Src P i.size tn (.string s) s.size (bvs s.data.toList) w := by rw [hsize]; exact Src.ofString w hk s
  by_cases hroom : out.length + s.size ≤ oc
  · cases oa with
    | none =>
      have h0 := h.row.nil rfl
      have hs0 : s.size = 0 := by omega
      have hst : s.data.toList = [] := List.eq_nil_of_length_eq_zero (by omega)
      have hlo : out = [] := List.eq_nil_of_length_eq_zero (by omega)
      subst hlo h0
      refine ⟨none, 0, w, ?_, grew_of h hB hLw ?_ ⟨rfl, rfl, rfl, Nat.le_refl _, fun _ _ _ => rfl⟩ (fun b o s e => by cases e)⟩
      · have hc0 := hsrc.cells
        rw [hs0, hst] at hc0
        simp [Builtin.append_, run_underlying ht, run_underlying hk, sizeOf, typeInfo, hi, Builtin.lenOf, hs0, hc0]
      · rw [hl3, hst]; exact h.row
    | some a =>
      obtain ⟨b, off, rfl, hb, hc, hsp⟩ := h.row.lies a rfl
      obtain ⟨hq, hcl⟩ := que_room EBy w b off oc out s.data.toList h.row (by rw [hsl]; exact hroom)
      rw [flat_by] at hq hcl
      have hk1 : EBy.k = 1 := rfl
      rw [hk1, Nat.mul_one] at hq hcl
      have hrun := run_append_room_src (P := P) w t tn ty 5 i ht hi b off out.length oc (.string s) s.size (bvs s.data.toList) hsrc hroom (by rw [hsize, Nat.mul_one]; exact fun j hj => (hcl j hj).1) (by rw [hsize, Nat.mul_one]; exact fun j hj => (hcl j hj).2)
      rw [hsize, Nat.mul_one] at hrun
      exact ⟨_, _, _, hrun, grew_of h hB hLw (by rw [hl3]; exact hq) (grown_setCells b _ _ w) (fun b' o s' e => .inl ⟨off, by simp only [Option.some.injEq, Addr.mk.injEq] at e; rw [e.1]⟩)⟩
  · have hrun := run_append_grow_src (P := P) w t tn ty 5 i _ ht hi hz oa out.length oc (bvs out) (by rw [hsize]; exact hold_of h.rb) (.string s) s.size (bvs s.data.toList) hsrc (by omega) (by omega) (growslice_fits (by omega) (by rw [hby]; omega))
    have hge := grownCap_ge w (out.length + s.size) oc 5
    have hcm := grownCap_le_maxLen w (out.length + s.size) oc 5 (by unfold maxLen; omega)
    refine ⟨_, _, _, hrun, grew_of h hB hLw ?_ ⟨rfl, rfl, rfl, by simp, fun k' hk' _ => heap_alloc_old w.drew _ (by simpa using hk')⟩ (fun b o s' e => .inr (by simp only [Option.some.injEq, Addr.mk.injEq] at e; omega))⟩
    have := que_grow w.drew 5 l3 (grownCap w (out.length + s.size) oc 5) (Builtin.zeroCells (Value.int .u8 0).cells (grownCap w (out.length + s.size) oc 5 - (out.length + s.size))) (by rw [hl]; exact hge) hcm (by rw [size_zeroCells, hl]; show _ * 1 = _; rw [Nat.mul_one])
    rw [hl3, bvs_append] at this
    rw [hl3]; exact this
theorem run_zeros (w : World) (ty : TypeId) (ht : P.underlying t = some (.slice 5)) (htn : P.underlying tn = some (.int .i64)) (hi : (P.info? 5).map (fun i => (i.zero, i.size, i.bytes)) = some (some (.int .u8 0), 1, 1))
    {B : Nat} {L : List Nat} {oa : Option Addr} {oc : Nat} {out : List UInt8} (h : OutB B L oa oc out w) (hB : B ≤ w.heap.size) (hLw : ∀ k ∈ L, k < w.heap.size) (k : Nat)
    (l3 : List UInt8) (hl3 : l3 = out ++ List.replicate k 0) (hlen : l3.length ≤ 140737488355328) (n : Nat) (hn : n = out.length) :
    ∃ (oa' : Option Addr) (oc' : Nat) (w' : World), (Builtin.append_ #[t, tn] ty #[.slice oa n oc, .int .i64 (k : Int)]).run P w = .ok (.slice oa' l3.length oc') w' ∧ Grew B L w oa oa' oc' l3 w' := by
  subst hn
  rw [Option.map_eq_some_iff] at hi
  obtain ⟨i, hi, hi3⟩ := hi
  simp only [Prod.mk.injEq] at hi3
  obtain ⟨hz, hsize, hby⟩ := hi3
  have hsl : (List.replicate k (0 : UInt8)).length = k := by simp
  have hl : l3.length = out.length + k := by rw [hl3, List.length_append, hsl]
  rw [hl] at hlen ⊢
  have hzc : ∀ m, (Builtin.zeroCells (Value.int .u8 0).cells m) = (bvs (List.replicate m 0)).toArray := fun m => by
    apply Array.ext'
    simp [Builtin.zeroCells, bvs, Value.cells, List.map_const']
    apply List.ext_getElem
    · simp
    · intro j h1 h2; simp [Nat.mod_one]
  have hw : IntKind.i64.wrap (k : Int) = k := by rw [IntKind.wrap_i64]; omega
  have h48i : ¬ (281474976710656 < (k : Int) * (i.bytes : Int)) := by rw [hby]; omega
  have hneg : ¬ ((k : Int) < 0) := by omega
  by_cases hroom : out.length + k ≤ oc
  · have hfin : ∀ (a : Addr) b off, a = ⟨b, off, none⟩ → QRow EBy w (some a) oc out → ∃ (oa' : Option Addr) (oc' : Nat) (w' : World), (Builtin.append_ #[t, tn] ty #[.slice (some a) out.length oc, .int .i64 (k : Int)]).run P w = .ok (.slice oa' (out.length + k) oc') w' ∧
        (oa' = some a ∧ QRow EBy w' oa' oc' l3 ∧ w.grownBy w' (some b)) := fun a b off ea hq0 => by
      subst ea
      obtain ⟨hq, hcl⟩ := que_room EBy w b off oc out (List.replicate k 0) hq0 (by rw [hsl]; exact hroom)
      rw [flat_by] at hq hcl
      have hk1 : EBy.k = 1 := rfl
      rw [hk1, Nat.mul_one] at hq hcl
      have hst := run_storeCells_cells (P := P) b (off + out.length) (bvs (List.replicate k 0)) 0 w (by simpa using fun j hj => (hcl j hj).1) (by simpa using fun j hj => (hcl j hj).2) (fun u hu => by
        obtain ⟨_, _, rfl⟩ := List.mem_map.1 hu
        rfl)
      simp only [Nat.add_zero] at hst
      refine ⟨some ⟨b, off, none⟩, oc, w.setCells b (off + out.length) (bvs (List.replicate k 0)), ?_, rfl, by rw [hl3]; exact hq, grown_setCells b _ _ w⟩
      by_cases hk0 : k = 0
      · subst hk0
        have e0 : bvs (List.replicate 0 0) = [] := rfl
        rw [e0] at hst ⊢
        have hw0 : IntKind.i64.wrap 0 = 0 := rfl
        simp [Builtin.append_, run_underlying ht, run_underlying htn, sizeOf, typeInfo, zeroValue, hi, hz, hsize, asInt, asIntOf, hw0, show out.length ≤ oc by omega, Addr.add_lit, hst]
      · have hns : ¬ (k = 0) := hk0
        simp [Builtin.append_, run_underlying ht, run_underlying htn, sizeOf, typeInfo, zeroValue, hi, hz, hsize, asInt, asIntOf, hw, hroom, hneg, hns, h48i, Addr.add_lit, hzc, hst]
    cases oa with
    | none =>
      have h0 := h.row.nil rfl
      have hk0 : k = 0 := by omega
      have hlo : out = [] := List.eq_nil_of_length_eq_zero (by omega)
      subst hlo h0 hk0
      refine ⟨none, 0, w, ?_, grew_of h hB hLw ?_ ⟨rfl, rfl, rfl, Nat.le_refl _, fun _ _ _ => rfl⟩ (fun b o s e => by cases e)⟩
      · have hw0 : IntKind.i64.wrap 0 = 0 := rfl
        simp [Builtin.append_, run_underlying ht, run_underlying htn, sizeOf, typeInfo, zeroValue, hi, hz, hsize, asInt, asIntOf, hw0]
      · rw [hl3]; exact h.row
    | some a =>
      obtain ⟨b, off, rfl, hb, hc, hsp⟩ := h.row.lies a rfl
      obtain ⟨oa', oc', w', hrun, rfl, hq, hg⟩ := hfin _ b off rfl h.row
      exact ⟨_, _, _, hrun, grew_of h hB hLw hq hg (fun b' o s' e => .inl ⟨off, by simp only [Option.some.injEq, Addr.mk.injEq] at e; rw [e.1]⟩)⟩
  · have hrun := Lib.run_append_grow_zeros (P := P) w t tn ty 5 i _ .i64 .i64 ht htn hi hz oa out.length oc (bvs out) (by rw [hsize]; exact hold_of h.rb) k (by have := h.row.le; omega) (by omega) (by omega) (by omega) (by rw [hby]; omega) (growslice_fits (by omega) (by rw [hby]; omega))
    have hge := grownCap_ge w (out.length + k) oc 5
    have hcm := grownCap_le_maxLen w (out.length + k) oc 5 (by unfold maxLen; omega)
    refine ⟨_, _, _, hrun, grew_of h hB hLw ?_ ⟨rfl, rfl, rfl, by simp, fun k' hk' _ => heap_alloc_old w.drew _ (by simpa using hk')⟩ (fun b o s' e => .inr (by simp only [Option.some.injEq, Addr.mk.injEq] at e; omega))⟩
    have := que_grow w.drew 5 l3 (grownCap w (out.length + k) oc 5) (Builtin.zeroCells (Value.int .u8 0).cells (grownCap w (out.length + k) oc 5 - (out.length + k))) (by rw [hl]; exact hge) hcm (by rw [size_zeroCells, hl]; show _ * 1 = _; rw [Nat.mul_one])
    rw [hl3, bvs_append] at this
    rw [hl3, hzc k]
    have e : (bvs out).toArray ++ (bvs (List.replicate k 0)).toArray = (bvs out ++ bvs (List.replicate k 0)).toArray := by simp
    rw [e]
    exact this

variable {w : World} {ops : Array Oper} {o : Oper} {a : Act} {Q : Exit → Act → World → Prop}
/-- As a step of a region that draws its order. -/
theorem step_text {K : Act → World → Prop} {Ee : Prop} (ht : P.underlying t = some (.slice 5)) (hk : P.underlying tn = some .string) (hi : (P.info? 5).map (fun i => (i.zero, i.size, i.bytes)) = some (some (.int .u8 0), 1, 1))
    (hgd : o.guard = none) (s x : Operand) (ho : o.op = .call { callee := .builtin .append, args := #[s, x], argTypes := #[t, tn] })
    {B : Nat} {L : List Nat} {oa : Option Addr} {oc n : Nat} {out : List UInt8} (hs : a.eval s = .slice oa n oc) (hn : n = out.length) (h : OutB B L oa oc out w) (hB : B ≤ w.heap.size) (hLw : ∀ k ∈ L, k < w.heap.size)
    {d : ByteArray} (hx : a.eval x = .string d)
    (l3 : List UInt8) (hl3 : l3 = out ++ d.data.toList) (hlen : l3.length ≤ 140737488355328)
    (hK : ∀ (oa' : Option Addr) (oc' : Nat) w', Hid (Grew B L w oa oa' oc' l3 w') → K (a.put o.dst (.slice oa' l3.length oc')) w') :
    if Region.wanted o (yielded ops a.tmps) = true then Oper.wp P o a w K Q else Ee := by
  obtain ⟨oa', oc', w', hrun, hG⟩ := run_text (P := P) w o.type ht hk hi h hB hLw d l3 hl3 hlen n hn
  have hw : Region.wanted o (yielded ops a.tmps) = true := by simp [Region.wanted, hgd]
  rw [if_pos hw]
  unfold Oper.wp
  simp [execOp, ho, resolve, invoke, builtin, hs, hx, hrun, Result.andThen]
  exact hK _ _ _ (Lib.hid hG)
theorem step_zeros {K : Act → World → Prop} {Ee : Prop} (ht : P.underlying t = some (.slice 5)) (htn : P.underlying tn = some (.int .i64)) (hi : (P.info? 5).map (fun i => (i.zero, i.size, i.bytes)) = some (some (.int .u8 0), 1, 1))
    (hgd : o.guard = none) (s x : Operand) (ho : o.op = .call { callee := .builtin .append, args := #[s, x], argTypes := #[t, tn] })
    {B : Nat} {L : List Nat} {oa : Option Addr} {oc n : Nat} {out : List UInt8} (hs : a.eval s = .slice oa n oc) (hn : n = out.length) (h : OutB B L oa oc out w) (hB : B ≤ w.heap.size) (hLw : ∀ k ∈ L, k < w.heap.size)
    {z : Int} (k : Nat) (hx : a.eval x = .int .i64 z) (hzk : z = k)
    (l3 : List UInt8) (hl3 : l3 = out ++ List.replicate k 0) (hlen : l3.length ≤ 140737488355328)
    (hK : ∀ (oa' : Option Addr) (oc' : Nat) w', Hid (Grew B L w oa oa' oc' l3 w') → K (a.put o.dst (.slice oa' l3.length oc')) w') :
    if Region.wanted o (yielded ops a.tmps) = true then Oper.wp P o a w K Q else Ee := by
  subst hzk
  obtain ⟨oa', oc', w', hrun, hG⟩ := run_zeros (P := P) w o.type ht htn hi h hB hLw k l3 hl3 hlen n hn
  have hw : Region.wanted o (yielded ops a.tmps) = true := by simp [Region.wanted, hgd]
  rw [if_pos hw]
  unfold Oper.wp
  simp [execOp, ho, resolve, invoke, builtin, hs, hx, hrun, Result.andThen]
  exact hK _ _ _ (Lib.hid hG)
end
end Wr
end Go.Proofs.YtdilgkkkhmmffaaDoor

namespace Go.Proofs.YtdilgkkkhmmffaaDoor
open Go.RowKit
set_option linter.unusedVariables false
namespace Fr

/-- A frame of n slots, of which these hold these values. -/
def Is (n : Nat) (ks : List (Nat × Value)) (a : Act) : Prop := a.defers = [] ∧ a.tmps.size = n ∧ ∀ p ∈ ks, a.tmps.getD p.1 undef = p.2

/-- Written out: what isn't known is told by a letter and the slot's number. -/
theorem Is.lit {n : Nat} {ks : List (Nat × Value)} {a : Act} (h : Is n ks a) : ∃ f : Nat → Value, a = ⟨((List.range n).map f).toArray, []⟩ ∧ ks.map (fun p => f p.1) = ks.map (·.2) := by
  obtain ⟨hd, hs, hk⟩ := h
  refine ⟨fun i => a.tmps.getD i undef, ?_, List.map_congr_left (fun p hp => hk p hp)⟩
  obtain ⟨tm, df⟩ := a
  simp only at hd hs hk ⊢
  subst hd
  congr 1
  apply Array.ext
  · simp [hs]
  · intro i h1 h2
    simp [Array.getD, h1]
theorem Is.mk {n : Nat} {ks : List (Nat × Value)} {l : List Value} (h1 : l.length = n) (h2 : ks.map (fun p => l.getD p.1 undef) = ks.map (·.2)) : Is n ks ⟨l.toArray, []⟩ := by
  refine ⟨rfl, by simpa using h1, fun p hp => ?_⟩
  have : ∀ (ks : List (Nat × Value)), ks.map (fun p => l.getD p.1 undef) = ks.map (·.2) → ∀ p ∈ ks, l.getD p.1 undef = p.2 := by
    intro ks
    induction ks with
    | nil => intro _ p hp; cases hp
    | cons q r ih =>
      intro h p hp
      simp only [List.map_cons, List.cons.injEq] at h
      rcases List.mem_cons.mp hp with rfl | hp
      · exact h.1
      · exact ih h.2 p hp
  have h := this ks h2 p hp
  rw [← h]
  simp [Array.getD, List.getD]
  split
  · rename_i hlt; rw [List.getElem?_eq_getElem hlt]; rfl
  · rename_i hlt; rw [List.getElem?_eq_none (by omega)]; rfl
/-- Less is known. -/
theorem Is.less {n : Nat} {ks ks' : List (Nat × Value)} {a : Act} (h : Is n ks a) (hs : ∀ p ∈ ks', p ∈ ks) : Is n ks' a := ⟨h.1, h.2.1, fun p hp => h.2.2 p (hs p hp)⟩
theorem Is.get {n : Nat} {ks : List (Nat × Value)} {a : Act} (h : Is n ks a) {i : Nat} {v : Value} (hm : (i, v) ∈ ks) : a.eval (.tmp i) = v := h.2.2 _ hm
/-- The beginning of a call. -/
theorem Is.enter (args : List Value) (n : Nat) : Is (args.length + n) ((List.range args.length).map (fun i => (i, args.getD i undef))) ⟨args.toArray ++ Array.replicate n undef, []⟩ := by
  refine ⟨rfl, by simp, fun p hp => ?_⟩
  simp only [List.mem_map, List.mem_range] at hp
  obtain ⟨i, hi, rfl⟩ := hp
  simp only [Array.getD, Array.size_append, List.size_toArray, Array.size_replicate]
  rw [dif_pos (by omega)]
  have h := Array.getElem_append_left (xs := args.toArray) (ys := Array.replicate n undef) (i := i) (h := by simp; omega) (by simpa using hi)
  show (args.toArray ++ Array.replicate n undef)[i]'_ = _
  rw [h]
  simp [List.getD, List.getElem?_eq_getElem hi]

/-- A region by its number. -/
def find (id : Nat) : Code → Option Code
  | .region i ops b => if i = id then some (.region i ops b) else none
  | .seq a b => (find id a).or (find id b)
  | .cond _ a b => (find id a).or (find id b)
  | .block _ c => find id c
  | .loop c => find id c
  | .scope c => find id c
  | _ => none
def reg (f : Func) (id : Nat) : Code := (f.body.bind (find id)).getD .skip
/-- What follows behind the first k statements of a row. -/
def navR : Nat → Code → Code
  | 0, c => c
  | k + 1, .seq _ b => navR k b
  | _, _ => .skip
def navL : Code → Code
  | .seq a _ => a
  | _ => .skip
/-- A block's body by its number; a loop's body. -/
def findB (id : Nat) : Code → Option Code
  | .seq a b => (findB id a).or (findB id b)
  | .cond _ a b => (findB id a).or (findB id b)
  | .block i c => if i = id then some c else findB id c
  | .loop c => findB id c
  | .scope c => findB id c
  | _ => none
def findL : Code → Option Code
  | .seq a b => (findL a).or (findL b)
  | .cond _ a b => (findL a).or (findL b)
  | .block _ c => findL c
  | .loop c => some c
  | .scope c => findL c
  | _ => none
def blk (f : Func) (id k : Nat) : Code := navR k ((f.body.bind (findB id)).getD .skip)
def loopB (f : Func) : Code := (f.body.bind findL).getD .skip
def tail (f : Func) (k : Nat) : Code := navR k (f.body.getD .skip)
/-- The end of a call whose results lie in slots. -/
theorem ret_post {P : Program} {fn : Func} {R : Ending → World → Prop} {a : Act} {w : World} {v : Value} (hd : a.defers = []) (hr : (results fn a.tmps).run P w = .ok v w) (h : R (.returned v) w) : bodyPost P fn R .ret a w := ⟨hd, v, hr, h⟩
end Fr
end Go.Proofs.YtdilgkkkhmmffaaDoor
