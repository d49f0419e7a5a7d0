/- Layer 6: the document's small functions: flags, four bytes, a number at a place, a fault. Layer 6: the program's parts of a frame, and what of it may be written. Layer 1: the program's Take of numbers as bytes, alone. 'b[at:]', without parting on whether anything is left of the capacity. Layer 6: the program's reading: numbers. A function walked statement by statement: each region a declaration of its own, over whatever frame; put together by the laws of control. Layer 6: the program's reading: what stands ahead of the settings, or of the data. Layer 6: the program's reading of settings. -/
import Derived.Test.YtglhdlkmgmbgeaaDoorRows
import Derived.Test.YtglhdlkmgmbgeaaDoorGP03
import Derived.Test.YtglhdlkmgmbgeaaDoorGP02
import Derived.WalkKit
import Derived.WalkSpells
import Derived.WalkLawsBesides
import Derived.Lib.Hide
import Derived.IntWalk
import Derived.LoopTactic
import Derived.Deep.RegionHeld3
import Derived.Laws.MakeOwn
set_option linter.unusedVariables false
set_option linter.unusedSimpArgs false
namespace Go.Proofs.YtglhdlkmgmbgeaaDoor
open Go.RowKit
open Fra Oct Mem Gen Go.Proofs.YtglhdlkmgmbgeaaDoor.Obj
set_option linter.unusedVariables false
set_option linter.unusedSimpArgs false

theorem tdiv_nn (a b : Int) (h : 0 ≤ a) : a.tdiv b = a / b := Int.tdiv_eq_ediv_of_nonneg h
theorem tmod_nn (a b : Int) (h : 0 ≤ a) : a.tmod b = a % b := Int.tmod_eq_emod_of_nonneg h

set_option maxHeartbeats 400000 in
theorem rhas_any (t fl k flag : Int) (w : World) (h0 : 0 ≤ fl) (h1 : fl ≤ 255) (hf : 1 ≤ flag) (hf2 : flag ≤ 255) :
    Calls Tryd.prog 30 #[.int .i64 t, .int .i64 fl, .int .i64 k, .int .i64 flag] w fun e w' => e = .returned (.bool (decide (t = k) && hasF fl flag)) ∧ w = w' := by
  by_cases ht : t = k
  · subst ht
    have hd := tdiv_nn fl flag h0
    have hm := tmod_nn (fl / flag) 2 (Int.ediv_nonneg h0 (by omega))
    have hne : ¬ flag = 0 := by omega
    have hq0 : 0 ≤ fl / flag := Int.ediv_nonneg h0 (by omega)
    have hq1 : fl / flag ≤ 255 := Int.le_trans (Int.ediv_le_self _ h0) h1
    go_enter Tryd.func30, Tryd.ntmps30
    go_wp2_with fail
    go_ret
    exact ⟨by simp [hasF]; rfl, rfl⟩
  · go_enter Tryd.func30, Tryd.ntmps30
    go_wp2_with fail
    go_ret
    exact ⟨by simp [ht], rfl⟩

set_option maxHeartbeats 400000 in
theorem rHas_any (f : FrM) (sa : Option Addr) (sc : Nat) (flag : Int) (w : World) (h0 : 0 ≤ f.flags) (h1 : f.flags ≤ 255) (hf : 1 ≤ flag) (hf2 : flag ≤ 255) :
    Calls Tryd.prog 31 #[frV f sa sc, .int .i64 flag] w fun e w' => e = .returned (.bool (hasF f.flags flag)) ∧ Below w.heap.size w w' := by
  have hd := tdiv_nn f.flags flag h0
  have hm := tmod_nn (f.flags / flag) 2 (Int.ediv_nonneg h0 (by omega))
  have hne : ¬ flag = 0 := by omega
  have hq0 : 0 ≤ f.flags / flag := Int.ediv_nonneg h0 (by omega)
  have hq1 : f.flags / flag ≤ 255 := Int.le_trans (Int.ediv_le_self _ h0) h1
  unfold frV frC
  go_enter Tryd.func31, Tryd.ntmps31
  go_wp2_with fail
  go_ret
  exact ⟨by simp [hasF]; rfl, (Below.refl _ _).alloc (Nat.le_refl _) _⟩

set_option maxHeartbeats 400000 in
theorem rfour_any (n : Int) (w : World) (h0 : 0 ≤ n) (h1 : n < 4294967296) :
    Calls Tryd.prog 23 #[.int .i64 n] w (MadeB w (putL n 4)) := by
  have hu : IntKind.u32.wrap n = n := by
    have hu0 : IntKind.u32.wrap n = n % 4294967296 := rfl
    rw [hu0]; omega
  have HP := Lib.hid (fun v => rput_yes n 4 v h0 h1 (by omega) (by omega))
  go_enter Tryd.func23, Tryd.ntmps23
  go_wp2_with fail
  refine (HP.out _).mono ?_; rintro e w1 ⟨ad, cap, rfl, hown, hb⟩
  go_wp2_with fail
  go_ret
  exact ⟨ad, cap, rfl, hown, hb⟩

set_option maxHeartbeats 400000 in
theorem rat_any (a : Option Addr) (l : List UInt8) (cap : Nat) (p s : Nat) (w : World) (hl : l.length ≤ maxLen) (hr : RB w a l) (h1 : 1 ≤ s) (h4 : s ≤ 4) (hp : p + s ≤ l.length) :
    Calls Tryd.prog 24 #[.slice a l.length cap, .int .i64 p, .int .i64 s] w fun e w' => e = .returned (.int .i64 (at' l p s)) ∧ w = w' := by
  unfold maxLen at hl
  have HT := Lib.hid (rtake_any a l cap p s w (by unfold maxLen; omega) hr (by omega) (by omega))
  have hv : takeV l p s = at' l p s := by
    rw [takeV, if_neg (by omega), if_neg (by omega)]; simp [at']
  rw [hv] at HT
  have hb := beI_four ((l.drop p).take s) (by rw [List.length_take]; omega)
  have hb0 : 0 ≤ at' l p s := hb.1
  have hb1 : at' l p s < 4294967296 := hb.2
  clear hv hb
  generalize at' l p s = V at *
  go_enter Tryd.func24, Tryd.ntmps24
  go_wp2_with fail
  refine HT.out.mono ?_; rintro e w1 ⟨rfl, rfl⟩
  go_wp2_with fail
  go_ret
  exact ⟨by rfl, rfl⟩

set_option maxHeartbeats 400000 in
theorem rof_any (c : Int) (w : World) : Calls Tryd.prog 25 #[.int .i64 c] w fun e w' => e = .returned (faV (ofC c)) ∧ Below w.heap.size w w' := by
  go_enter Tryd.func25, Tryd.ntmps25
  go_wp2_with fail
  refine bodyPost_ret (v := faV (ofC c)) ?_ rfl ?_
  · simp [results, Tryd.results25, go_sem, faV, ofC]
  · exact ⟨rfl, (Below.refl _ _).alloc (Nat.le_refl _) _⟩
end Go.Proofs.YtglhdlkmgmbgeaaDoor

namespace Go.Proofs.YtglhdlkmgmbgeaaDoor
open Go.RowKit
open Fra Oct Mem Gen Go.Proofs.YtglhdlkmgmbgeaaDoor.Obj
set_option linter.unusedVariables false
set_option linter.unusedSimpArgs false

structure PtM where
  pad : Bool
  order : Bool
  last : Bool
  code : Bool
  inc : Bool
  sets : Bool
  data : Bool
def ptC (p : PtM) : Array Value := #[.bool p.pad, .bool p.order, .bool p.last, .bool p.code, .bool p.inc, .bool p.sets, .bool p.data]
def partsM (t fl : Int) : PtM :=
  if t = 0 then ⟨hasF fl 8, false, false, false, false, false, true⟩
  else if t = 1 then ⟨hasF fl 8, hasF fl 32, false, false, false, false, true⟩
  else if t = 2 then ⟨false, true, false, false, false, false, false⟩
  else if t = 3 then ⟨false, false, false, true, false, false, false⟩
  else if t = 4 then ⟨false, false, false, false, false, true, false⟩
  else if t = 7 then ⟨false, false, true, true, false, false, true⟩
  else if t = 8 then ⟨false, false, false, false, true, false, false⟩
  else ⟨false, false, false, false, false, false, true⟩

theorem neq_flag (b : Bool) (k : Int) (hk : k ≠ 0) : (!decide ((if b then k else 0) = 0)) = b := by cases b <;> simp [hk]

set_option maxHeartbeats 1000000 in
theorem pparts_any (t fl : Int) (w : World) (h0 : 0 ≤ fl) (h1 : fl ≤ 255) :
    Calls Tryd.prog 44 #[.int .i64 t, .int .i64 fl] w fun e w' => e = .returned (.agg (ptC (partsM t fl))) ∧ Below w.heap.size w w' := by
  have e8 := and_flag8 fl h0 h1
  have e32 := and_flag32 fl h0 h1
  obtain ⟨x8, hx8⟩ : ∃ x, x = bits .and .i64 fl 8 := ⟨_, rfl⟩
  obtain ⟨x32, hx32⟩ : ∃ x, x = bits .and .i64 fl 32 := ⟨_, rfl⟩
  obtain ⟨p, hp⟩ : ∃ p, p = ptC (partsM t fl) := ⟨_, rfl⟩
  rw [← hp]
  have HP := Lib.hid hp
  have E8 := Lib.hid e8
  have E32 := Lib.hid e32
  clear hp e8 e32 hx8 hx32
  by_cases t0 : t = 0
  · subst t0
    go_enter Tryd.func44, Tryd.ntmps44
    go_wp2_with fail
    refine bodyPost_ret (v := .agg p) ?_ rfl ?_
    · simp [results, Tryd.results44, go_sem]
      rw [HP.out, partsM]
      cases h8 : hasF fl 8 <;> cases h32 : hasF fl 32 <;> simp [ptC, E8.out, E32.out, h8, h32]
    · exact ⟨rfl, ((Below.refl _ _).alloc (Nat.le_refl _) _).alloc (by simp) _⟩
  by_cases t1 : t = 1
  · subst t1
    go_enter Tryd.func44, Tryd.ntmps44
    go_wp2_with fail
    refine bodyPost_ret (v := .agg p) ?_ rfl ?_
    · simp [results, Tryd.results44, go_sem]
      rw [HP.out, partsM]
      cases h8 : hasF fl 8 <;> cases h32 : hasF fl 32 <;> simp [ptC, E8.out, E32.out, h8, h32]
    · exact ⟨rfl, ((Below.refl _ _).alloc (Nat.le_refl _) _).alloc (by simp) _⟩
  by_cases t2 : t = 2
  · subst t2
    go_enter Tryd.func44, Tryd.ntmps44
    go_wp2_with fail
    refine bodyPost_ret (v := .agg p) ?_ rfl ?_
    · simp [results, Tryd.results44, go_sem]
      rw [HP.out, partsM]
      cases h8 : hasF fl 8 <;> cases h32 : hasF fl 32 <;> simp [ptC, E8.out, E32.out, h8, h32]
    · exact ⟨rfl, ((Below.refl _ _).alloc (Nat.le_refl _) _).alloc (by simp) _⟩
  by_cases t3 : t = 3
  · subst t3
    go_enter Tryd.func44, Tryd.ntmps44
    go_wp2_with fail
    refine bodyPost_ret (v := .agg p) ?_ rfl ?_
    · simp [results, Tryd.results44, go_sem]
      rw [HP.out, partsM]
      cases h8 : hasF fl 8 <;> cases h32 : hasF fl 32 <;> simp [ptC, E8.out, E32.out, h8, h32]
    · exact ⟨rfl, ((Below.refl _ _).alloc (Nat.le_refl _) _).alloc (by simp) _⟩
  by_cases t4 : t = 4
  · subst t4
    go_enter Tryd.func44, Tryd.ntmps44
    go_wp2_with fail
    refine bodyPost_ret (v := .agg p) ?_ rfl ?_
    · simp [results, Tryd.results44, go_sem]
      rw [HP.out, partsM]
      cases h8 : hasF fl 8 <;> cases h32 : hasF fl 32 <;> simp [ptC, E8.out, E32.out, h8, h32]
    · exact ⟨rfl, ((Below.refl _ _).alloc (Nat.le_refl _) _).alloc (by simp) _⟩
  by_cases t7 : t = 7
  · subst t7
    go_enter Tryd.func44, Tryd.ntmps44
    go_wp2_with fail
    refine bodyPost_ret (v := .agg p) ?_ rfl ?_
    · simp [results, Tryd.results44, go_sem]
      rw [HP.out, partsM]
      cases h8 : hasF fl 8 <;> cases h32 : hasF fl 32 <;> simp [ptC, E8.out, E32.out, h8, h32]
    · exact ⟨rfl, ((Below.refl _ _).alloc (Nat.le_refl _) _).alloc (by simp) _⟩
  by_cases t8 : t = 8
  · subst t8
    go_enter Tryd.func44, Tryd.ntmps44
    go_wp2_with fail
    refine bodyPost_ret (v := .agg p) ?_ rfl ?_
    · simp [results, Tryd.results44, go_sem]
      rw [HP.out, partsM]
      cases h8 : hasF fl 8 <;> cases h32 : hasF fl 32 <;> simp [ptC, E8.out, E32.out, h8, h32]
    · exact ⟨rfl, ((Below.refl _ _).alloc (Nat.le_refl _) _).alloc (by simp) _⟩
  · skip
    go_enter Tryd.func44, Tryd.ntmps44
    go_wp2_with fail
    refine bodyPost_ret (v := .agg p) ?_ rfl ?_
    · simp [results, Tryd.results44, go_sem]
      rw [HP.out, partsM]
      cases h8 : hasF fl 8 <;> cases h32 : hasF fl 32 <;> simp [ptC, E8.out, E32.out, h8, h32, t0, t1, t2, t3, t4, t7, t8]
    · exact ⟨rfl, ((Below.refl _ _).alloc (Nat.le_refl _) _).alloc (by simp) _⟩

def aheadN (p : PtM) : Nat := (if p.pad then 1 else 0) + (if p.order then 5 else 0) + (if p.last then 4 else 0) + (if p.code then 4 else 0) + (if p.inc then 4 else 0)
def nB (b : Bool) : Int := if b then 4 else 0

set_option maxHeartbeats 1000000 in
theorem pahead_any (p : PtM) (w : World) :
    Calls Tryd.prog 49 #[.agg (ptC p)] w fun e w' => e = .returned (.int .i64 (aheadN p)) ∧ Below w.heap.size w w' := by
  obtain ⟨pad, order, last, code, inc, sets, data⟩ := p
  unfold ptC
  simp only
  have HN : Hid ((aheadN ⟨pad, order, last, code, inc, sets, data⟩ : Int) = (if pad then 1 else 0) + (if order then 5 else 0) + nB last + nB code + nB inc) := Lib.hid (by
    simp only [aheadN, nB]; cases pad <;> cases order <;> cases last <;> cases code <;> cases inc <;> rfl)
  generalize (aheadN ⟨pad, order, last, code, inc, sets, data⟩ : Int) = N at HN ⊢
  cases pad <;> cases order
  all_goals
    go_enter Tryd.func49, Tryd.ntmps49
    go_wp2_with fail
    go_loop [3, 5, 21] (fun n _ i => ∃ (k : Nat) (m : Int), i = .int .i64 k ∧ n = .int .i64 m ∧ 0 ≤ m ∧ m ≤ 6 + 4 * k ∧ ((k = 0 ∧ m + nB last + nB code + nB inc = N) ∨ (k = 1 ∧ m + nB code + nB inc = N) ∨ (k = 2 ∧ m + nB inc = N) ∨ (k = 3 ∧ m = N))) (fun _ _ i => 3 - (intOf i).toNat)
    case atStart => exact ⟨0, _, rfl, rfl, by omega, by omega, .inl ⟨rfl, by rw [HN.out]; rfl⟩⟩
    case round =>
      have i0 : ∀ w, (Instr.index 98 (.agg #[.bool last, .bool code, .bool inc]) (.int .i64 0)).run Tryd.prog w = .ok (.bool last) w := fun _ => by kernel_rfl
      have i1 : ∀ w, (Instr.index 98 (.agg #[.bool last, .bool code, .bool inc]) (.int .i64 1)).run Tryd.prog w = .ok (.bool code) w := fun _ => by kernel_rfl
      have i2 : ∀ w, (Instr.index 98 (.agg #[.bool last, .bool code, .bool inc]) (.int .i64 2)).run Tryd.prog w = .ok (.bool inc) w := fun _ => by kernel_rfl
      obtain ⟨k, m, rfl, rfl, hm0, hm1, (⟨rfl, hN⟩ | ⟨rfl, hN⟩ | ⟨rfl, hN⟩ | ⟨rfl, hN⟩)⟩ := hrel
      · cases last
        · go_wp2_with fail
          go_round
          case rel => exact ⟨1, m, rfl, rfl, hm0, by omega, .inr (.inl ⟨rfl, by simpa [nB] using hN⟩)⟩
          case measure => decide
        · go_wp2_with fail
          go_round
          case rel => exact ⟨1, m + 4, rfl, rfl, by omega, by omega, .inr (.inl ⟨rfl, by simpa [nB] using hN⟩)⟩
          case measure => decide
      · cases code
        · go_wp2_with fail
          go_round
          case rel => exact ⟨2, m, rfl, rfl, hm0, by omega, .inr (.inr (.inl ⟨rfl, by simpa [nB] using hN⟩))⟩
          case measure => decide
        · go_wp2_with fail
          go_round
          case rel => exact ⟨2, m + 4, rfl, rfl, by omega, by omega, .inr (.inr (.inl ⟨rfl, by simpa [nB] using hN⟩))⟩
          case measure => decide
      · cases inc
        · go_wp2_with fail
          go_round
          case rel => exact ⟨3, m, rfl, rfl, hm0, by omega, .inr (.inr (.inr ⟨rfl, by simpa [nB] using hN⟩))⟩
          case measure => decide
        · go_wp2_with fail
          go_round
          case rel => exact ⟨3, m + 4, rfl, rfl, by omega, by omega, .inr (.inr (.inr ⟨rfl, by simpa [nB] using hN⟩))⟩
          case measure => decide
      · go_wp2_with fail
        go_ret
        exact ⟨rfl, (Below.refl _ _).alloc (Nat.le_refl _) _⟩
end Go.Proofs.YtglhdlkmgmbgeaaDoor

namespace Go.Proofs.YtglhdlkmgmbgeaaDoor
open Go.RowKit
open Oct Mem Gen
set_option linter.unusedVariables false
set_option linter.unusedSimpArgs false

set_option maxHeartbeats 400000 in
theorem sized_yes (n : Int) (w : World) (h1 : 1 ≤ n) (h4 : n ≤ 4) :
    Calls Tryd.prog 52 #[.int .i64 n] w fun e w' => e = .returned (.bool true) ∧ w = w' := by
  go_enter Tryd.func52, Tryd.ntmps52
  go_wp2
  go_ret
  exact ⟨by simp, rfl⟩

set_option maxHeartbeats 400000 in
theorem sized_no (n : Int) (w : World) (h : n < 1 ∨ 4 < n) :
    Calls Tryd.prog 52 #[.int .i64 n] w fun e w' => e = .returned (.bool false) ∧ w = w' := by
  by_cases h1 : 1 ≤ n
  · have h4 : 4 < n := by omega
    clear h
    go_enter Tryd.func52, Tryd.ntmps52
    go_wp2
    go_ret
    exact ⟨by simp; omega, rfl⟩
  · have h2 : decide (1 ≤ n) = false := by simpa using h1
    clear h
    go_enter Tryd.func52, Tryd.ntmps52
    go_wp2
    go_ret
    exact ⟨rfl, rfl⟩

theorem or8 (n c : Int) (h0 : 0 ≤ n) (h1 : n < 16777216) (c0 : 0 ≤ c) (c1 : c < 256) : bits .or .u32 (n * 256) c = n * 256 + c := by
  rw [u32_or _ _ (by omega) (by omega) c0 (by omega), nat_join 8 _ _ (by omega) (by omega)]
  omega

set_option maxHeartbeats 1000000 in
theorem take_any (a : Option Addr) (l : List UInt8) (cap : Nat) (p s : Int) (w : World) (hl : l.length ≤ maxLen) (hr : RB w a l) (hp0 : -9223372036854775808 ≤ p) (hp1 : p ≤ 9223372036854775807) :
    Calls Tryd.prog 48 #[.slice a l.length cap, .int .i64 p, .int .i64 s] w fun e w' => e = .returned (.tuple #[.int .u32 (takeV l p s), .int .i64 (takeE l p s)]) ∧ w = w' := by
  unfold maxLen at hl
  by_cases hs : s < 1 ∨ 4 < s
  · have hv : takeV l p s = 0 := by rw [takeV, if_pos (by omega)]
    have he : takeE l p s = 1 := by rw [takeE, if_pos (by omega)]
    rw [hv, he]
    clear hv he hr
    have H := Lib.hid hs
    clear hs
    go_enter Tryd.func48, Tryd.ntmps48
    go_wp2_with (go_at_call 52; refine (sized_no _ _ H.out).mono ?_; rintro e w' ⟨rfl, rfl⟩)
    go_ret2
    exact ⟨rfl, rfl⟩
  · have hs1 : 1 ≤ s := by omega
    have hs4 : s ≤ 4 := by omega
    by_cases hp : p < 0
    · have hv : takeV l p s = 0 := by rw [takeV, if_pos (by omega)]
      have he : takeE l p s = 1 := by rw [takeE, if_pos (by omega)]
      rw [hv, he]
      clear hv he hr hs
      go_enter Tryd.func48, Tryd.ntmps48
      go_wp2_with (go_at_call 52; refine (sized_yes _ _ (by omega) (by omega)).mono ?_; rintro e w' ⟨rfl, rfl⟩)
      go_ret2
      exact ⟨rfl, rfl⟩
    · obtain ⟨q, rfl⟩ := Int.eq_ofNat_of_zero_le (show 0 ≤ p by omega)
      obtain ⟨t, rfl⟩ := Int.eq_ofNat_of_zero_le (show 0 ≤ s by omega)
      have hp' : (0 : Int) ≤ (q : Int) := by omega
      by_cases hsh : (l.length : Int) - q < t
      · have hv : takeV l q t = 0 := by rw [takeV, if_neg (by omega), if_pos hsh]
        have he : takeE l q t = 12 := by rw [takeE, if_neg (by omega), if_pos hsh]
        rw [hv, he]
        clear hv he hr hs hp
        go_enter Tryd.func48, Tryd.ntmps48
        go_wp2_with (go_at_call 52; refine (sized_yes _ _ (by omega) (by omega)).mono ?_; rintro e w' ⟨rfl, rfl⟩)
        go_ret2
        exact ⟨rfl, rfl⟩
      · have hv : takeV l q t = beI ((l.drop q).take t) := by rw [takeV, if_neg (by omega), if_neg hsh]; simp
        have he : takeE l q t = 0 := by rw [takeE, if_neg (by omega), if_neg hsh]
        rw [hv, he]
        rcases hr with rfl | ⟨b, off, rfl, hc⟩
        · exact absurd (show ((([] : List UInt8).length : Int) - q < t) by simp; omega) hsh
        have HC := Lib.hid hc
        have hlen : (q : Int) + t ≤ l.length := by omega
        clear hv he hs hp hsh hc
        go_enter Tryd.func48, Tryd.ntmps48
        go_wp2_with (go_at_call 52; refine (sized_yes _ _ (by omega) (by omega)).mono ?_; rintro e w' ⟨rfl, rfl⟩)
        go_loop [8, 9, 24] (fun n _ i => ∃ (k : Nat), k ≤ t ∧ i = .int .i64 k ∧ n = .int .u32 (beI ((l.drop q).take k))) (fun _ _ i => t - (intOf i).toNat)
        case atStart => exact ⟨0, Nat.zero_le _, rfl, by simp [beI]⟩
        case round =>
          obtain ⟨k, hk, rfl, rfl⟩ := hrel
          by_cases hlt : k < t
          · have hi : q + k < l.length := by omega
            have hcell := HC.out (q + k) hi
            have hcb := l[q + k].toNat_lt
            have hb := beI_small ((l.drop q).take k) (by simp; omega)
            have hsn : Hid (beI ((l.drop q).take (k + 1)) = beI ((l.drop q).take k) * 256 + l[q + k].toNat) := Lib.hid (by rw [take_drop_snoc l q k hi, beI_snoc])
            have hor := Lib.hid (or8 (beI ((l.drop q).take k)) l[q + k].toNat hb.1 hb.2 (by omega) (by omega))
            go_wp2_with fail
            go_round
            case rel => exact ⟨k + 1, by omega, by go_num, by rw [hor.out, hsn.out]⟩
            case measure => simp [intOf]; omega
          · have hkt : k = t := by omega
            subst hkt
            go_wp2_with fail
            go_ret2
            exact ⟨rfl, rfl⟩

end Go.Proofs.YtglhdlkmgmbgeaaDoor

namespace Go.Proofs.YtglhdlkmgmbgeaaDoor
open Go.RowKit
set_option linter.unusedVariables false
namespace Sl
open Mem Arg

/-- Where 'b[at:]' begins: where nothing is left of the capacity, at the old place. -/
def adOf (a : Option Addr) (cap k size : Nat) : Option Addr := if cap = k then a else a.map (·.add (k * size))
theorem run_from {P : Program} {t e : TypeId} (ht : P.underlying t = some (.slice e)) {size : Nat} (hs : ∀ w, (sizeOf e).run P w = .ok size w) (a : Option Addr) (len cap k : Nat) (h1 : k ≤ len) (h2 : len ≤ cap) (w : World) :
    (Instr.slice t (.slice a len cap) (some (.int .i64 k)) none none).run P w = .ok (.slice (adOf a cap k size) (len - k) (cap - k)) w := by
  have h3 : (k : Int) ≤ len := by omega
  simp [Instr.slice, Instr.sliceBounds, Instr.sliceBound, asIntOf, run_underlying ht, hs, Result.andThen, h1, adOf]
theorem adOf_some {b off cap k size : Nat} (h : k < cap) : adOf (some ⟨b, off, none⟩) cap k size = some ⟨b, off + k * size, none⟩ := by
  rw [adOf, if_neg (by omega)]; simp [add_none]
/-- Bytes. -/
theorem rb_from {w : World} {a : Option Addr} {l : List UInt8} {cap : Nat} (h : RB w a l) (k : Nat) (hc : l.length ≤ cap) : RB w (adOf a cap k 1) (l.drop k) := by
  by_cases hk : k < l.length
  · rcases h with h | ⟨b, off, rfl, hb⟩
    · rw [h] at hk; simp at hk
    · rw [adOf_some (by omega)]
      refine .inr ⟨b, _, rfl, fun i hi => ?_⟩
      rw [List.length_drop] at hi
      have := hb (k + i) (by omega)
      rw [List.getElem_drop, ← this]
      congr 2
      omega
  · exact .inl (List.drop_of_length_le (by omega))
end Sl
end Go.Proofs.YtglhdlkmgmbgeaaDoor

namespace Go.Proofs.YtglhdlkmgmbgeaaDoor
open Go.RowKit
open Fra Oct Arg Mem Gen Go.Proofs.YtglhdlkmgmbgeaaDoor.Obj
set_option linter.unusedVariables false
set_option linter.unusedSimpArgs false

theorem size_by : ∀ w, (sizeOf 5).run Tryd.prog w = .ok 1 w := fun w => by
  obtain ⟨i0, hi, hz0, hz1, hz2⟩ := info_parts info_u8
  simp [sizeOf, typeInfo, hi, hz1]
/-- The program's bytes that are there to be read; they lie behind no block of W's. -/
structure Rd (W : World) (rb : Nat) (l : List UInt8) (w : World) : Prop where
  ex : ∃ ad cap, w.heap[rb]? = some (.cells #[.slice ad l.length cap] 80 (0, 0)) ∧ RB W ad l ∧ l.length ≤ cap ∧ cap ≤ maxLen
  bel : Below W.heap.size W w
  lo : W.heap.size ≤ rb
theorem Rd.lt {W w : World} {rb : Nat} {l : List UInt8} (h : Rd W rb l w) : rb < w.heap.size := by
  obtain ⟨ad, cap, hh, _⟩ := h.ex; exact (Array.getElem?_eq_some_iff.1 hh).1
theorem Rd.kept {W w w' : World} {rb : Nat} {l : List UInt8} {L : List Nat} (h : Rd W rb l w) (hk : Kept L w w') (hL : ∀ k ∈ L, W.heap.size ≤ k ∧ k ≠ rb) : Rd W rb l w' := by
  obtain ⟨ad, cap, hh, h1, h2, h3⟩ := h.ex
  exact ⟨⟨ad, cap, hk.at hh (fun hm => (hL rb hm).2 rfl), h1, h2, h3⟩, Kept.below h.bel hk (fun k hm => (hL k hm).1) h.bel.size, h.lo⟩
theorem Rd.start {W w : World} {ad : Option Addr} {l : List UInt8} {cap : Nat} (hb : Below W.heap.size W w) (hr : RB W ad l) (hc : l.length ≤ cap) (hm : cap ≤ maxLen) :
    Rd W w.heap.size l (w.alloc (.cells #[.slice ad l.length cap] 80)) :=
  ⟨⟨ad, cap, heap_alloc_new w _, hr, hc, hm⟩, below_step hb ((Below.refl _ _).alloc (Nat.le_refl _) _), hb.size⟩

set_option maxRecDepth 100000 in
set_option maxHeartbeats 1000000 in
theorem rnum_any {W : World} {rb : Nat} {l : List UInt8} (s : Nat) (w : World) (h : Rd W rb l w) (h1 : 1 ≤ s) (h4 : s ≤ 4) (hs : s ≤ l.length) :
    Calls Tryd.prog 39 #[.pointer (some ⟨rb, 0, none⟩), .int .i64 s] w fun e w' => e = .returned (.int .u32 (at' l 0 s)) ∧ Rd W rb (l.drop s) w' ∧ Kept [rb] w w' := by
  have HH := Lib.hid h
  obtain ⟨⟨ad, cap, hh, hr, hc, hm⟩, hbel, hlo⟩ := h
  have hlm : l.length ≤ maxLen := Nat.le_trans hc hm
  have HT := Lib.hid (take_any ad l cap 0 s w hlm (hr.below hbel) (by omega) (by omega))
  have hv : takeV l 0 s = at' l 0 s := by
    rw [takeV, if_neg (by omega), if_neg (by omega)]; simp [at']
  rw [hv] at HT
  have c0 := cell_at hh 0
  have z0 := frozen_of_row _ _ 0 _ _ hh
  have hsl := Sl.run_from (P := Tryd.prog) (t := 24) Tryd.underlying24 (size := 1) size_by ad l.length cap s hs hc
  have HK : Hid (Kept [rb] w (w.setCell ⟨rb, 0, none⟩ (.slice (Sl.adOf ad cap s 1) (l.length - s) (cap - s)))) := Lib.hid ((Kept.refl [rb] w).setCell (.inl (by simp)) _)
  have hset := heap_setCell_same w rb 0 _ _ (.slice (Sl.adOf ad cap s 1) (l.length - s) (cap - s)) hh
  have HR : Hid (Rd W rb (l.drop s) (w.setCell ⟨rb, 0, none⟩ (.slice (Sl.adOf ad cap s 1) (l.length - s) (cap - s)))) := Lib.hid (by
    have hd : (l.drop s).length = l.length - s := List.length_drop
    refine ⟨⟨_, cap - s, by rw [hd]; exact hset, Sl.rb_from hr s hc, by omega, by omega⟩, Kept.below hbel HK.out (fun k hk => by simp at hk; omega) hbel.size, hlo⟩)
  generalize at' l 0 s = V at HT ⊢
  simp only [List.getElem?_toArray, List.getElem?_cons_zero] at c0
  unfold maxLen at hlm
  obtain ⟨n, hn⟩ : ∃ n, n = l.length := ⟨_, rfl⟩
  rw [← hn] at hs hlm HT c0 hsl HK HR
  clear hh hr hc hm hbel hset hv hn
  go_enter Tryd.func39, Tryd.ntmps39
  go_wp2_with fail
  refine HT.out.mono ?_
  rintro e w1 ⟨rfl, rfl⟩
  go_wp2_with fail
  go_ret
  exact ⟨rfl, HR.out, HK.out⟩

theorem at_bd (l : List UInt8) (p s : Nat) (h : s ≤ 4) : 0 ≤ at' l p s ∧ at' l p s < 4294967296 := beI_four _ (by rw [List.length_take]; omega)

set_option maxRecDepth 100000 in
set_option maxHeartbeats 1000000 in
theorem rlow_any {W : World} {rb : Nat} {l : List UInt8} (w : World) (h : Rd W rb l w) (hs : 4 ≤ l.length) :
    Calls Tryd.prog 40 #[.pointer (some ⟨rb, 0, none⟩)] w fun e w' => e = .returned (.int .i64 (at' l 0 4 % 2147483648)) ∧ Rd W rb (l.drop 4) w' ∧ Kept [rb] w w' := by
  have HN := Lib.hid (rnum_any 4 w h (by decide) (by decide) hs)
  obtain ⟨b0, b1⟩ := at_bd l 0 4 (by decide)
  have hl := low31 (at' l 0 4) b0 b1
  generalize at' l 0 4 = V at *
  clear h hs
  go_enter Tryd.func40, Tryd.ntmps40
  go_wp2_with fail
  refine HN.out.mono ?_
  rintro e w1 ⟨rfl, r1, r2⟩
  have R1 := Lib.hid r1
  have R2 := Lib.hid r2
  clear r1 r2
  go_wp2_with fail
  go_ret
  exact ⟨rfl, R1.out, R2.out⟩

/-- The block of a frame. -/
def Fb (fb : Nat) (f : FrM) (sa : Option Addr) (sc : Nat) (w : World) : Prop := w.heap[fb]? = some (.cells (frC f sa sc) 40 (0, 0))
theorem Fb.kept {fb : Nat} {f : FrM} {sa : Option Addr} {sc : Nat} {w w' : World} {L : List Nat} (h : Fb fb f sa sc w) (hk : Kept L w w') (hL : fb ∉ L) : Fb fb f sa sc w' := hk.at h hL
theorem Fb.set {fb : Nat} {f f' : FrM} {sa sa' : Option Addr} {sc sc' : Nat} {w : World} (h : Fb fb f sa sc w) (i : Nat) (v : Value) (hf : (frC f sa sc).setIfInBounds i v = frC f' sa' sc') : Fb fb f' sa' sc' (w.setCell ⟨fb, i, none⟩ v) := by
  have := heap_setCell_same w fb i _ _ v h
  rw [Fb, ← hf]; exact this
theorem Fb.cellz {fb : Nat} {f : FrM} {sa : Option Addr} {sc : Nat} {w : World} (h : Fb fb f sa sc w) (i : Nat) : w.cell? ⟨fb, i, none⟩ = (frC f sa sc)[i]? := cell_at h i
theorem Fb.thaw {fb : Nat} {f : FrM} {sa : Option Addr} {sc : Nat} {w : World} (h : Fb fb f sa sc w) (i : Nat) : w.frozen? ⟨fb, i, none⟩ = false := frozen_of_row _ _ i _ _ h

/-- What 'order' reads. -/
def orderF (f : FrM) (l : List UInt8) : FrM := { f with dep := at' l 0 4 % 2147483648, sole := decide (2147483648 ≤ at' l 0 4), weight := at' (l.drop 4) 0 1 }

set_option maxRecDepth 100000 in
set_option maxHeartbeats 1000000 in
theorem rorder_any {W : World} {rb fb : Nat} {l : List UInt8} {f : FrM} {sa : Option Addr} {sc : Nat} (w : World) (h : Rd W rb l w) (hf : Fb fb f sa sc w) (hlo : W.heap.size ≤ fb) (hne : fb ≠ rb) (hs : 5 ≤ l.length) :
    Calls Tryd.prog 50 #[.pointer (some ⟨rb, 0, none⟩), .pointer (some ⟨fb, 0, none⟩)] w fun e w' => e = .returned (.tuple #[]) ∧ Rd W rb (l.drop 5) w' ∧ Fb fb (orderF f l) sa sc w' ∧ Kept [rb, fb] w w' := by
  have HN := Lib.hid (rnum_any 4 w h (by decide) (by decide) (by omega))
  have HN2 := Lib.hid (fun v (hv : Rd W rb (l.drop 4) v) => rnum_any 1 v hv (by decide) (by decide) (by simp; omega))
  obtain ⟨b0, b1⟩ := at_bd l 0 4 (by decide)
  have hl := low31 (at' l 0 4) b0 b1
  have hh := high31 (at' l 0 4) b0 b1
  have hd5 : (l.drop 4).drop 1 = l.drop 5 := by rw [List.drop_drop]
  rw [hd5] at HN2
  have b2 := at_bd (l.drop 4) 0 1 (by decide)
  unfold orderF
  generalize at' l 0 4 = V at *
  generalize at' (l.drop 4) 0 1 = U at *
  have HF := Lib.hid hf
  have HB : Hid (∀ x : Prop, x → x) := Lib.hid (fun _ h => h)
  by_cases hV : 2147483648 ≤ V
  · rw [if_pos hV] at hh
    clear h hs hf
    go_enter Tryd.func50, Tryd.ntmps50
    go_wp2_with fail
    refine HN.out.mono ?_
    rintro e w1 ⟨rfl, r1, k1⟩
    have R1 := Lib.hid r1
    have K1 := Lib.hid k1
    have F1 := Lib.hid (HF.out.kept k1 (by simp; omega))
    have z9 := F1.out.thaw 9
    have y9 := F1.out.cellz 9
    have z11 := F1.out.thaw 11
    have y11 := F1.out.cellz 11
    clear r1 k1
    simp only [frC, List.getElem?_toArray, List.getElem?_cons_zero, List.getElem?_cons_succ] at y9 y11
    have K2 := Lib.hid (((Kept.refl [fb] w1).setCell (p := ⟨fb, 9, none⟩) (.inl (by simp)) (.int .i64 (V % 2147483648))).setCell (p := ⟨fb, 11, none⟩) (.inl (by simp)) (.bool true))
    have F2 := Lib.hid ((F1.out.set (f' := { f with dep := V % 2147483648 }) 9 (.int .i64 (V % 2147483648)) rfl).set (f' := { f with dep := V % 2147483648, sole := true }) 11 (.bool true) rfl)
    have R2 := Lib.hid (R1.out.kept K2.out (by simp; omega))
    go_wp2_with fail
    generalize (w1.setCell ⟨fb, 9, none⟩ (.int .i64 (V % 2147483648))).setCell ⟨fb, 11, none⟩ (.bool true) = w2 at K2 F2 R2 ⊢
    refine (HN2.out w2 R2.out).mono ?_
    rintro e w3 ⟨rfl, r3, k3⟩
    have F3 := Lib.hid (F2.out.kept k3 (by simp; omega))
    have z10 := F3.out.thaw 10
    have y10 := F3.out.cellz 10
    have K3 := Lib.hid k3
    have R3 := Lib.hid r3
    clear z9 y9 z11 y11 r3 k3
    simp only [frC, List.getElem?_toArray, List.getElem?_cons_zero, List.getElem?_cons_succ] at y10
    go_wp2_with fail
    go_end0
    have K4 : Kept [fb] w3 (w3.setCell ⟨fb, 10, none⟩ (.int .i64 U)) := (Kept.refl [fb] w3).setCell (p := ⟨fb, 10, none⟩) (.inl (by simp)) _
    have F4 := F3.out.set (f' := { f with dep := V % 2147483648, sole := true, weight := U }) 10 (.int .i64 U) rfl
    refine ⟨rfl, R3.out.kept K4 (by simp; omega), ?_, ?_⟩
    · rw [show decide (2147483648 ≤ V) = true by simp; omega]; exact F4
    · exact (((K1.out.wide (L' := [rb, fb]) (by simp)).trans K2.out (by simp)).trans K3.out (by simp)).trans K4 (by simp)
  · rw [if_neg hV] at hh
    clear h hs hf
    go_enter Tryd.func50, Tryd.ntmps50
    go_wp2_with fail
    refine HN.out.mono ?_
    rintro e w1 ⟨rfl, r1, k1⟩
    have R1 := Lib.hid r1
    have K1 := Lib.hid k1
    have F1 := Lib.hid (HF.out.kept k1 (by simp; omega))
    have z9 := F1.out.thaw 9
    have y9 := F1.out.cellz 9
    have z11 := F1.out.thaw 11
    have y11 := F1.out.cellz 11
    clear r1 k1
    simp only [frC, List.getElem?_toArray, List.getElem?_cons_zero, List.getElem?_cons_succ] at y9 y11
    have K2 := Lib.hid (((Kept.refl [fb] w1).setCell (p := ⟨fb, 9, none⟩) (.inl (by simp)) (.int .i64 (V % 2147483648))).setCell (p := ⟨fb, 11, none⟩) (.inl (by simp)) (.bool false))
    have F2 := Lib.hid ((F1.out.set (f' := { f with dep := V % 2147483648 }) 9 (.int .i64 (V % 2147483648)) rfl).set (f' := { f with dep := V % 2147483648, sole := false }) 11 (.bool false) rfl)
    have R2 := Lib.hid (R1.out.kept K2.out (by simp; omega))
    go_wp2_with fail
    generalize (w1.setCell ⟨fb, 9, none⟩ (.int .i64 (V % 2147483648))).setCell ⟨fb, 11, none⟩ (.bool false) = w2 at K2 F2 R2 ⊢
    refine (HN2.out w2 R2.out).mono ?_
    rintro e w3 ⟨rfl, r3, k3⟩
    have F3 := Lib.hid (F2.out.kept k3 (by simp; omega))
    have z10 := F3.out.thaw 10
    have y10 := F3.out.cellz 10
    have K3 := Lib.hid k3
    have R3 := Lib.hid r3
    clear z9 y9 z11 y11 r3 k3
    simp only [frC, List.getElem?_toArray, List.getElem?_cons_zero, List.getElem?_cons_succ] at y10
    go_wp2_with fail
    go_end0
    have K4 : Kept [fb] w3 (w3.setCell ⟨fb, 10, none⟩ (.int .i64 U)) := (Kept.refl [fb] w3).setCell (p := ⟨fb, 10, none⟩) (.inl (by simp)) _
    have F4 := F3.out.set (f' := { f with dep := V % 2147483648, sole := false, weight := U }) 10 (.int .i64 U) rfl
    refine ⟨rfl, R3.out.kept K4 (by simp; omega), ?_, ?_⟩
    · rw [show decide (2147483648 ≤ V) = false by simp; omega]; exact F4
    · exact (((K1.out.wide (L' := [rb, fb]) (by simp)).trans K2.out (by simp)).trans K3.out (by simp)).trans K4 (by simp)
end Go.Proofs.YtglhdlkmgmbgeaaDoor

namespace Go.Proofs.YtglhdlkmgmbgeaaDoor
open Go.RowKit
set_option linter.unusedVariables false
namespace Fr

/-- A frame of n slots, of which these hold these values. -/
def Is (n : Nat) (ks : List (Nat × Value)) (a : Act) : Prop := a.defers = [] ∧ a.tmps.size = n ∧ ∀ p ∈ ks, a.tmps.getD p.1 undef = p.2

/-- Written out: what isn't known is told by a letter and the slot's number. -/
theorem Is.lit {n : Nat} {ks : List (Nat × Value)} {a : Act} (h : Is n ks a) : ∃ f : Nat → Value, a = ⟨((List.range n).map f).toArray, []⟩ ∧ ks.map (fun p => f p.1) = ks.map (·.2) := by
  obtain ⟨hd, hs, hk⟩ := h
  refine ⟨fun i => a.tmps.getD i undef, ?_, List.map_congr_left (fun p hp => hk p hp)⟩
  obtain ⟨tm, df⟩ := a
  simp only at hd hs hk ⊢
  subst hd
  congr 1
  apply Array.ext
  · simp [hs]
  · intro i h1 h2
    simp [Array.getD, h1]
theorem Is.mk {n : Nat} {ks : List (Nat × Value)} {l : List Value} (h1 : l.length = n) (h2 : ks.map (fun p => l.getD p.1 undef) = ks.map (·.2)) : Is n ks ⟨l.toArray, []⟩ := by
  refine ⟨rfl, by simpa using h1, fun p hp => ?_⟩
  have : ∀ (ks : List (Nat × Value)), ks.map (fun p => l.getD p.1 undef) = ks.map (·.2) → ∀ p ∈ ks, l.getD p.1 undef = p.2 := by
    intro ks
    induction ks with
    | nil => intro _ p hp; cases hp
    | cons q r ih =>
      intro h p hp
      simp only [List.map_cons, List.cons.injEq] at h
      rcases List.mem_cons.mp hp with rfl | hp
      · exact h.1
      · exact ih h.2 p hp
  have h := this ks h2 p hp
  rw [← h]
  simp [Array.getD, List.getD]
  split
  · rename_i hlt; rw [List.getElem?_eq_getElem hlt]; rfl
  · rename_i hlt; rw [List.getElem?_eq_none (by omega)]; rfl
/-- Less is known. -/
theorem Is.less {n : Nat} {ks ks' : List (Nat × Value)} {a : Act} (h : Is n ks a) (hs : ∀ p ∈ ks', p ∈ ks) : Is n ks' a := ⟨h.1, h.2.1, fun p hp => h.2.2 p (hs p hp)⟩
theorem Is.get {n : Nat} {ks : List (Nat × Value)} {a : Act} (h : Is n ks a) {i : Nat} {v : Value} (hm : (i, v) ∈ ks) : a.eval (.tmp i) = v := h.2.2 _ hm
/-- The beginning of a call. -/
theorem Is.enter (args : List Value) (n : Nat) : Is (args.length + n) ((List.range args.length).map (fun i => (i, args.getD i undef))) ⟨args.toArray ++ Array.replicate n undef, []⟩ := by
  refine ⟨rfl, by simp, fun p hp => ?_⟩
  simp only [List.mem_map, List.mem_range] at hp
  obtain ⟨i, hi, rfl⟩ := hp
  simp only [Array.getD, Array.size_append, List.size_toArray, Array.size_replicate]
  rw [dif_pos (by omega)]
  have h := Array.getElem_append_left (xs := args.toArray) (ys := Array.replicate n undef) (i := i) (h := by simp; omega) (by simpa using hi)
  show (args.toArray ++ Array.replicate n undef)[i]'_ = _
  rw [h]
  simp [List.getD, List.getElem?_eq_getElem hi]

/-- A region by its number. -/
def find (id : Nat) : Code → Option Code
  | .region i ops b => if i = id then some (.region i ops b) else none
  | .seq a b => (find id a).or (find id b)
  | .cond _ a b => (find id a).or (find id b)
  | .block _ c => find id c
  | .loop c => find id c
  | .scope c => find id c
  | _ => none
def reg (f : Func) (id : Nat) : Code := (f.body.bind (find id)).getD .skip
/-- What follows behind the first k statements of a row. -/
def navR : Nat → Code → Code
  | 0, c => c
  | k + 1, .seq _ b => navR k b
  | _, _ => .skip
def navL : Code → Code
  | .seq a _ => a
  | _ => .skip
/-- A block's body by its number; a loop's body. -/
def findB (id : Nat) : Code → Option Code
  | .seq a b => (findB id a).or (findB id b)
  | .cond _ a b => (findB id a).or (findB id b)
  | .block i c => if i = id then some c else findB id c
  | .loop c => findB id c
  | .scope c => findB id c
  | _ => none
def findL : Code → Option Code
  | .seq a b => (findL a).or (findL b)
  | .cond _ a b => (findL a).or (findL b)
  | .block _ c => findL c
  | .loop c => some c
  | .scope c => findL c
  | _ => none
def blk (f : Func) (id k : Nat) : Code := navR k ((f.body.bind (findB id)).getD .skip)
def loopB (f : Func) : Code := (f.body.bind findL).getD .skip
def tail (f : Func) (k : Nat) : Code := navR k (f.body.getD .skip)
/-- The end of a call whose results lie in slots. -/
theorem ret_post {P : Program} {fn : Func} {R : Ending → World → Prop} {a : Act} {w : World} {v : Value} (hd : a.defers = []) (hr : (results fn a.tmps).run P w = .ok v w) (h : R (.returned v) w) : bodyPost P fn R .ret a w := ⟨hd, v, hr, h⟩
end Fr
end Go.Proofs.YtglhdlkmgmbgeaaDoor

namespace Go.Proofs.YtglhdlkmgmbgeaaDoor
open Go.RowKit
open Fra Oct Arg Mem Gen Go.Proofs.YtglhdlkmgmbgeaaDoor.Obj
set_option linter.unusedVariables false
set_option linter.unusedSimpArgs false

def sPad (p : PtM) (x : FrM × List UInt8) : FrM × List UInt8 := if p.pad then ({ x.1 with pad := at' x.2 0 1 }, x.2.drop 1) else x
def sOrd (p : PtM) (x : FrM × List UInt8) : FrM × List UInt8 := if p.order then (orderF x.1 x.2, x.2.drop 5) else x
def sLast (p : PtM) (x : FrM × List UInt8) : FrM × List UInt8 := if p.last then ({ x.1 with last := at' x.2 0 4 % 2147483648 }, x.2.drop 4) else x
def sCode (p : PtM) (x : FrM × List UInt8) : FrM × List UInt8 := if p.code then ({ x.1 with code := at' x.2 0 4 }, x.2.drop 4) else x
def sInc (p : PtM) (x : FrM × List UInt8) : FrM × List UInt8 := if p.inc then ({ x.1 with inc := at' x.2 0 4 % 2147483648 }, x.2.drop 4) else x
def numF (p : PtM) (x : FrM × List UInt8) : FrM × List UInt8 := sInc p (sCode p (sLast p (sOrd p (sPad p x))))

structure NSt (W w0 : World) (rb fb pb : Nat) (p : PtM) (sa : Option Addr) (sc : Nat) (x : FrM × List UInt8) (w : World) : Prop where
  rd : Rd W rb x.2 w
  fr : Fb fb x.1 sa sc w
  ptb : w.heap[pb]? = some (.cells (ptC p) 86 (0, 0))
  lo : W.heap.size ≤ fb
  ne : fb ≠ rb ∧ pb ≠ rb ∧ pb ≠ fb
  kept : Kept [rb, fb] w0 w
theorem NSt.step {W w0 w w' : World} {rb fb pb : Nat} {p : PtM} {sa : Option Addr} {sc : Nat} {x y : FrM × List UInt8} (h : NSt W w0 rb fb pb p sa sc x w) (h1 : Rd W rb y.2 w') (h2 : Fb fb y.1 sa sc w') (hk : Kept [rb, fb] w w') : NSt W w0 rb fb pb p sa sc y w' :=
  ⟨h1, h2, hk.at h.ptb (by simp; exact h.ne.2), h.lo, h.ne, h.kept.trans hk (fun i hi => .inl hi)⟩

set_option maxRecDepth 100000 in
set_option maxHeartbeats 1000000 in
theorem num_pad {Q : Exit → Act → World → Prop} {W w0 : World} {rb fb pb : Nat} {p : PtM} {sa : Option Addr} {sc : Nat} (f : FrM) (l : List UInt8) (a : Act) (w : World) (h : NSt W w0 rb fb pb p sa sc (f, l) w) (hn : p.pad = true → 1 ≤ l.length)
    (ha : Fr.Is 41 [(0, .pointer (some ⟨rb, 0, none⟩)), (1, .pointer (some ⟨fb, 0, none⟩)), (5, .pointer (some ⟨pb, 0, none⟩))] a)
    (hQ : Hid (∀ a' w', Fr.Is 41 [(0, .pointer (some ⟨rb, 0, none⟩)), (1, .pointer (some ⟨fb, 0, none⟩)), (5, .pointer (some ⟨pb, 0, none⟩))] a' → NSt W w0 rb fb pb p sa sc (sPad p (f, l)) w' → Q .normal a' w')) :
    (Fr.navL (Fr.tail Tryd.f45 1)).wp Tryd.prog Q a w := by
  have c1 := cell_at h.ptb 0
  simp only [ptC, List.getElem?_toArray, List.getElem?_cons_zero, List.getElem?_cons_succ] at c1
  have H := Lib.hid h
  have hne := h.ne
  have hlo := h.lo
  clear h
  obtain ⟨fr, rfl, hfr⟩ := ha.lit
  simp only [List.map_cons, List.map_nil, List.cons.injEq, and_true] at hfr
  conv => arg 2; whnf
  simp only [List.range, List.range.loop, List.map_cons, List.map_nil, hfr]
  clear hfr ha
  cases hp : p.pad
  · rw [hp] at c1
    have HE : Hid (sPad p (f, l) = (f, l)) := Lib.hid (by rw [sPad, hp]; rfl)
    rw [HE.out] at hQ
    go_wp2_with fail
    exact hQ.out _ _ (Fr.Is.mk rfl rfl) H.out
  · rw [hp] at c1
    have hn' := hn hp
    have HN := Lib.hid (rnum_any 1 w H.out.rd (by decide) (by decide) hn')
    have HE : Hid (sPad p (f, l) = ({ f with pad := at' l 0 1 }, l.drop 1)) := Lib.hid (by rw [sPad, hp]; rfl)
    rw [HE.out] at hQ
    obtain ⟨b0, b1⟩ := at_bd l 0 1 (by decide)
    generalize at' l 0 1 = V at *
    clear HE hn hn'
    go_wp2_with fail
    refine HN.out.mono ?_
    rintro e w1 ⟨rfl, r1, k1⟩
    have F1 := Lib.hid (H.out.fr.kept k1 (by simp; omega))
    have z1 := F1.out.thaw 4
    have y1 := F1.out.cellz 4
    have R1 := Lib.hid r1
    have K1 := Lib.hid k1
    clear r1 k1 c1
    simp only [frC, List.getElem?_toArray, List.getElem?_cons_zero, List.getElem?_cons_succ] at y1
    go_wp2_with fail
    have K4 : Kept [fb] w1 (w1.setCell ⟨fb, 4, none⟩ (.int .i64 V)) := (Kept.refl [fb] w1).setCell (p := ⟨fb, 4, none⟩) (.inl (by simp)) _
    have F4 := F1.out.set (f' := { f with pad := V }) 4 (.int .i64 V) rfl
    exact hQ.out _ _ (Fr.Is.mk rfl rfl) (H.out.step (R1.out.kept K4 (by simp; omega)) F4 ((K1.out.wide (L' := [rb, fb]) (by simp)).trans K4 (by simp)))

set_option maxRecDepth 100000 in
set_option maxHeartbeats 1000000 in
theorem num_order {Q : Exit → Act → World → Prop} {W w0 : World} {rb fb pb : Nat} {p : PtM} {sa : Option Addr} {sc : Nat} (f : FrM) (l : List UInt8) (a : Act) (w : World) (h : NSt W w0 rb fb pb p sa sc (f, l) w) (hn : p.order = true → 5 ≤ l.length)
    (ha : Fr.Is 41 [(0, .pointer (some ⟨rb, 0, none⟩)), (1, .pointer (some ⟨fb, 0, none⟩)), (5, .pointer (some ⟨pb, 0, none⟩))] a)
    (hQ : Hid (∀ a' w', Fr.Is 41 [(0, .pointer (some ⟨rb, 0, none⟩)), (1, .pointer (some ⟨fb, 0, none⟩)), (5, .pointer (some ⟨pb, 0, none⟩))] a' → NSt W w0 rb fb pb p sa sc (sOrd p (f, l)) w' → Q .normal a' w')) :
    (Fr.navL (Fr.tail Tryd.f45 2)).wp Tryd.prog Q a w := by
  have c1 := cell_at h.ptb 1
  simp only [ptC, List.getElem?_toArray, List.getElem?_cons_zero, List.getElem?_cons_succ] at c1
  have H := Lib.hid h
  have hne := h.ne
  have hlo := h.lo
  clear h
  obtain ⟨fr, rfl, hfr⟩ := ha.lit
  simp only [List.map_cons, List.map_nil, List.cons.injEq, and_true] at hfr
  conv => arg 2; whnf
  simp only [List.range, List.range.loop, List.map_cons, List.map_nil, hfr]
  clear hfr ha
  cases hp : p.order
  · rw [hp] at c1
    have HE : Hid (sOrd p (f, l) = (f, l)) := Lib.hid (by rw [sOrd, hp]; rfl)
    rw [HE.out] at hQ
    go_wp2_with fail
    exact hQ.out _ _ (Fr.Is.mk rfl rfl) H.out
  · rw [hp] at c1
    have hn' := hn hp
    have HN := Lib.hid (rorder_any (fb := fb) w H.out.rd H.out.fr hlo hne.1 hn')
    have HE : Hid (sOrd p (f, l) = (orderF f l, l.drop 5)) := Lib.hid (by rw [sOrd, hp]; rfl)
    rw [HE.out] at hQ
    clear HE hn hn'
    go_wp2_with fail
    refine HN.out.mono ?_
    rintro e w1 ⟨rfl, r1, f1, k1⟩
    have H1 := Lib.hid (H.out.step (y := (orderF f l, l.drop 5)) r1 f1 k1)
    clear r1 f1 k1 c1
    go_wp2_with fail
    exact hQ.out _ _ (Fr.Is.mk rfl rfl) H1.out

set_option maxRecDepth 100000 in
set_option maxHeartbeats 1000000 in
theorem num_last {Q : Exit → Act → World → Prop} {W w0 : World} {rb fb pb : Nat} {p : PtM} {sa : Option Addr} {sc : Nat} (f : FrM) (l : List UInt8) (a : Act) (w : World) (h : NSt W w0 rb fb pb p sa sc (f, l) w) (hn : p.last = true → 4 ≤ l.length)
    (ha : Fr.Is 41 [(0, .pointer (some ⟨rb, 0, none⟩)), (1, .pointer (some ⟨fb, 0, none⟩)), (5, .pointer (some ⟨pb, 0, none⟩))] a)
    (hQ : Hid (∀ a' w', Fr.Is 41 [(0, .pointer (some ⟨rb, 0, none⟩)), (1, .pointer (some ⟨fb, 0, none⟩)), (5, .pointer (some ⟨pb, 0, none⟩))] a' → NSt W w0 rb fb pb p sa sc (sLast p (f, l)) w' → Q .normal a' w')) :
    (Fr.navL (Fr.tail Tryd.f45 3)).wp Tryd.prog Q a w := by
  have c1 := cell_at h.ptb 2
  simp only [ptC, List.getElem?_toArray, List.getElem?_cons_zero, List.getElem?_cons_succ] at c1
  have H := Lib.hid h
  have hne := h.ne
  have hlo := h.lo
  clear h
  obtain ⟨fr, rfl, hfr⟩ := ha.lit
  simp only [List.map_cons, List.map_nil, List.cons.injEq, and_true] at hfr
  conv => arg 2; whnf
  simp only [List.range, List.range.loop, List.map_cons, List.map_nil, hfr]
  clear hfr ha
  cases hp : p.last
  · rw [hp] at c1
    have HE : Hid (sLast p (f, l) = (f, l)) := Lib.hid (by rw [sLast, hp]; rfl)
    rw [HE.out] at hQ
    go_wp2_with fail
    exact hQ.out _ _ (Fr.Is.mk rfl rfl) H.out
  · rw [hp] at c1
    have hn' := hn hp
    have HN := Lib.hid (rlow_any w H.out.rd hn')
    have HE : Hid (sLast p (f, l) = ({ f with last := at' l 0 4 % 2147483648 }, l.drop 4)) := Lib.hid (by rw [sLast, hp]; rfl)
    rw [HE.out] at hQ
    obtain ⟨b0, b1⟩ := at_bd l 0 4 (by decide)
    generalize at' l 0 4 = V at *
    clear HE hn hn'
    go_wp2_with fail
    refine HN.out.mono ?_
    rintro e w1 ⟨rfl, r1, k1⟩
    have F1 := Lib.hid (H.out.fr.kept k1 (by simp; omega))
    have z1 := F1.out.thaw 7
    have y1 := F1.out.cellz 7
    have R1 := Lib.hid r1
    have K1 := Lib.hid k1
    clear r1 k1 c1
    simp only [frC, List.getElem?_toArray, List.getElem?_cons_zero, List.getElem?_cons_succ] at y1
    go_wp2_with fail
    have K4 : Kept [fb] w1 (w1.setCell ⟨fb, 7, none⟩ (.int .i64 (V % 2147483648))) := (Kept.refl [fb] w1).setCell (p := ⟨fb, 7, none⟩) (.inl (by simp)) _
    have F4 := F1.out.set (f' := { f with last := V % 2147483648 }) 7 (.int .i64 (V % 2147483648)) rfl
    exact hQ.out _ _ (Fr.Is.mk rfl rfl) (H.out.step (R1.out.kept K4 (by simp; omega)) F4 ((K1.out.wide (L' := [rb, fb]) (by simp)).trans K4 (by simp)))

set_option maxRecDepth 100000 in
set_option maxHeartbeats 1000000 in
theorem num_code {Q : Exit → Act → World → Prop} {W w0 : World} {rb fb pb : Nat} {p : PtM} {sa : Option Addr} {sc : Nat} (f : FrM) (l : List UInt8) (a : Act) (w : World) (h : NSt W w0 rb fb pb p sa sc (f, l) w) (hn : p.code = true → 4 ≤ l.length)
    (ha : Fr.Is 41 [(0, .pointer (some ⟨rb, 0, none⟩)), (1, .pointer (some ⟨fb, 0, none⟩)), (5, .pointer (some ⟨pb, 0, none⟩))] a)
    (hQ : Hid (∀ a' w', Fr.Is 41 [(0, .pointer (some ⟨rb, 0, none⟩)), (1, .pointer (some ⟨fb, 0, none⟩)), (5, .pointer (some ⟨pb, 0, none⟩))] a' → NSt W w0 rb fb pb p sa sc (sCode p (f, l)) w' → Q .normal a' w')) :
    (Fr.navL (Fr.tail Tryd.f45 4)).wp Tryd.prog Q a w := by
  have c1 := cell_at h.ptb 3
  simp only [ptC, List.getElem?_toArray, List.getElem?_cons_zero, List.getElem?_cons_succ] at c1
  have H := Lib.hid h
  have hne := h.ne
  have hlo := h.lo
  clear h
  obtain ⟨fr, rfl, hfr⟩ := ha.lit
  simp only [List.map_cons, List.map_nil, List.cons.injEq, and_true] at hfr
  conv => arg 2; whnf
  simp only [List.range, List.range.loop, List.map_cons, List.map_nil, hfr]
  clear hfr ha
  cases hp : p.code
  · rw [hp] at c1
    have HE : Hid (sCode p (f, l) = (f, l)) := Lib.hid (by rw [sCode, hp]; rfl)
    rw [HE.out] at hQ
    go_wp2_with fail
    exact hQ.out _ _ (Fr.Is.mk rfl rfl) H.out
  · rw [hp] at c1
    have hn' := hn hp
    have HN := Lib.hid (rnum_any 4 w H.out.rd (by decide) (by decide) hn')
    have HE : Hid (sCode p (f, l) = ({ f with code := at' l 0 4 }, l.drop 4)) := Lib.hid (by rw [sCode, hp]; rfl)
    rw [HE.out] at hQ
    obtain ⟨b0, b1⟩ := at_bd l 0 4 (by decide)
    generalize at' l 0 4 = V at *
    clear HE hn hn'
    go_wp2_with fail
    refine HN.out.mono ?_
    rintro e w1 ⟨rfl, r1, k1⟩
    have F1 := Lib.hid (H.out.fr.kept k1 (by simp; omega))
    have z1 := F1.out.thaw 6
    have y1 := F1.out.cellz 6
    have R1 := Lib.hid r1
    have K1 := Lib.hid k1
    clear r1 k1 c1
    simp only [frC, List.getElem?_toArray, List.getElem?_cons_zero, List.getElem?_cons_succ] at y1
    go_wp2_with fail
    have K4 : Kept [fb] w1 (w1.setCell ⟨fb, 6, none⟩ (.int .i64 V)) := (Kept.refl [fb] w1).setCell (p := ⟨fb, 6, none⟩) (.inl (by simp)) _
    have F4 := F1.out.set (f' := { f with code := V }) 6 (.int .i64 V) rfl
    exact hQ.out _ _ (Fr.Is.mk rfl rfl) (H.out.step (R1.out.kept K4 (by simp; omega)) F4 ((K1.out.wide (L' := [rb, fb]) (by simp)).trans K4 (by simp)))

set_option maxRecDepth 100000 in
set_option maxHeartbeats 1000000 in
theorem num_inc {Q : Exit → Act → World → Prop} {W w0 : World} {rb fb pb : Nat} {p : PtM} {sa : Option Addr} {sc : Nat} (f : FrM) (l : List UInt8) (a : Act) (w : World) (h : NSt W w0 rb fb pb p sa sc (f, l) w) (hn : p.inc = true → 4 ≤ l.length)
    (ha : Fr.Is 41 [(0, .pointer (some ⟨rb, 0, none⟩)), (1, .pointer (some ⟨fb, 0, none⟩)), (5, .pointer (some ⟨pb, 0, none⟩))] a)
    (hQ : Hid (∀ a' w', Fr.Is 41 [(0, .pointer (some ⟨rb, 0, none⟩)), (1, .pointer (some ⟨fb, 0, none⟩)), (5, .pointer (some ⟨pb, 0, none⟩))] a' → NSt W w0 rb fb pb p sa sc (sInc p (f, l)) w' → Q .normal a' w')) :
    (Fr.tail Tryd.f45 5).wp Tryd.prog Q a w := by
  have c1 := cell_at h.ptb 4
  simp only [ptC, List.getElem?_toArray, List.getElem?_cons_zero, List.getElem?_cons_succ] at c1
  have H := Lib.hid h
  have hne := h.ne
  have hlo := h.lo
  clear h
  obtain ⟨fr, rfl, hfr⟩ := ha.lit
  simp only [List.map_cons, List.map_nil, List.cons.injEq, and_true] at hfr
  conv => arg 2; whnf
  simp only [List.range, List.range.loop, List.map_cons, List.map_nil, hfr]
  clear hfr ha
  cases hp : p.inc
  · rw [hp] at c1
    have HE : Hid (sInc p (f, l) = (f, l)) := Lib.hid (by rw [sInc, hp]; rfl)
    rw [HE.out] at hQ
    go_wp2_with fail
    exact hQ.out _ _ (Fr.Is.mk rfl rfl) H.out
  · rw [hp] at c1
    have hn' := hn hp
    have HN := Lib.hid (rlow_any w H.out.rd hn')
    have HE : Hid (sInc p (f, l) = ({ f with inc := at' l 0 4 % 2147483648 }, l.drop 4)) := Lib.hid (by rw [sInc, hp]; rfl)
    rw [HE.out] at hQ
    obtain ⟨b0, b1⟩ := at_bd l 0 4 (by decide)
    generalize at' l 0 4 = V at *
    clear HE hn hn'
    go_wp2_with fail
    refine HN.out.mono ?_
    rintro e w1 ⟨rfl, r1, k1⟩
    have F1 := Lib.hid (H.out.fr.kept k1 (by simp; omega))
    have z1 := F1.out.thaw 8
    have y1 := F1.out.cellz 8
    have R1 := Lib.hid r1
    have K1 := Lib.hid k1
    clear r1 k1 c1
    simp only [frC, List.getElem?_toArray, List.getElem?_cons_zero, List.getElem?_cons_succ] at y1
    go_wp2_with fail
    have K4 : Kept [fb] w1 (w1.setCell ⟨fb, 8, none⟩ (.int .i64 (V % 2147483648))) := (Kept.refl [fb] w1).setCell (p := ⟨fb, 8, none⟩) (.inl (by simp)) _
    have F4 := F1.out.set (f' := { f with inc := V % 2147483648 }) 8 (.int .i64 (V % 2147483648)) rfl
    exact hQ.out _ _ (Fr.Is.mk rfl rfl) (H.out.step (R1.out.kept K4 (by simp; omega)) F4 ((K1.out.wide (L' := [rb, fb]) (by simp)).trans K4 (by simp)))

set_option maxRecDepth 100000 in
set_option maxHeartbeats 1000000 in
theorem num_r0 {Q : Exit → Act → World → Prop} {rb fb : Nat} {ps : Array Value} (a : Act) (w : World)
    (ha : Fr.Is 41 [(0, .pointer (some ⟨rb, 0, none⟩)), (1, .pointer (some ⟨fb, 0, none⟩)), (2, .agg ps)] a)
    (hQ : Hid (∀ a', Fr.Is 41 [(0, .pointer (some ⟨rb, 0, none⟩)), (1, .pointer (some ⟨fb, 0, none⟩)), (5, .pointer (some ⟨w.heap.size, 0, none⟩))] a' → Q .normal a' (w.alloc (.cells ps 86)))) :
    (Fr.reg Tryd.f45 0).wp Tryd.prog Q a w := by
  obtain ⟨fr, rfl, hfr⟩ := ha.lit
  simp only [List.map_cons, List.map_nil, List.cons.injEq, and_true] at hfr
  conv => arg 2; whnf
  simp only [List.range, List.range.loop, List.map_cons, List.map_nil, hfr]
  clear hfr ha
  go_wp2_with fail
  exact hQ.out _ (Fr.Is.mk rfl rfl)
theorem sPad_len (p : PtM) (x : FrM × List UInt8) : (sPad p x).2.length = x.2.length - (if p.pad then 1 else 0) := by unfold sPad; split <;> simp
theorem sOrd_len (p : PtM) (x : FrM × List UInt8) : (sOrd p x).2.length = x.2.length - (if p.order then 5 else 0) := by unfold sOrd; split <;> simp
theorem sLast_len (p : PtM) (x : FrM × List UInt8) : (sLast p x).2.length = x.2.length - (if p.last then 4 else 0) := by unfold sLast; split <;> simp
theorem sCode_len (p : PtM) (x : FrM × List UInt8) : (sCode p x).2.length = x.2.length - (if p.code then 4 else 0) := by unfold sCode; split <;> simp
set_option maxRecDepth 100000 in
set_option maxHeartbeats 1000000 in
theorem rnumbers_any {W : World} {rb fb : Nat} {p : PtM} {sa : Option Addr} {sc : Nat} (f : FrM) (l : List UInt8) (w : World) (h : Rd W rb l w) (hf : Fb fb f sa sc w) (hlo : W.heap.size ≤ fb) (hne : fb ≠ rb) (hn : aheadN p ≤ l.length) :
    Calls Tryd.prog 45 #[.pointer (some ⟨rb, 0, none⟩), .pointer (some ⟨fb, 0, none⟩), .agg (ptC p)] w fun e w' => e = .returned (.tuple #[]) ∧ Rd W rb (numF p (f, l)).2 w' ∧ Fb fb (numF p (f, l)).1 sa sc w' ∧ Kept [rb, fb] w w' := by
  go_enter Tryd.func45, Tryd.ntmps45
  refine wp_seq ?_
  refine num_r0 (rb := rb) (fb := fb) (ps := ptC p) _ w (Fr.Is.mk rfl rfl) (Lib.hid (fun a1 h1 => ?_))
  have hk : Kept [rb, fb] w (w.alloc (.cells (ptC p) 86)) := (Kept.refl _ _).alloc _
  have hfl : fb < w.heap.size := (Array.getElem?_eq_some_iff.1 hf).1
  have hrl := h.lt
  have hS : NSt W w rb fb w.heap.size p sa sc (f, l) (w.alloc (.cells (ptC p) 86)) := ⟨h.kept (Kept.of_below ((Below.refl _ _).alloc (Nat.le_refl _) _) (L := [])) (by simp), hf.kept (Kept.of_below ((Below.refl _ _).alloc (Nat.le_refl _) _) (L := [])) (by simp), heap_alloc_new w _, hlo, ⟨hne, by omega, by omega⟩, hk⟩
  have q1 := sPad_len p (f, l)
  have q2 := sOrd_len p (sPad p (f, l))
  have q3 := sLast_len p (sOrd p (sPad p (f, l)))
  have q4 := sCode_len p (sLast p (sOrd p (sPad p (f, l))))
  simp only at q1
  unfold aheadN at hn
  generalize g1 : (if p.pad = true then 1 else 0) = k1 at *
  generalize g2 : (if p.order = true then 5 else 0) = k2 at *
  generalize g3 : (if p.last = true then 4 else 0) = k3 at *
  generalize g4 : (if p.code = true then 4 else 0) = k4 at *
  generalize g5 : (if p.inc = true then 4 else 0) = k5 at *
  refine wp_seq ?_
  refine num_pad f l a1 _ hS (fun hp => by rw [hp] at g1; simp at g1; omega) h1 (Lib.hid (fun a2 w2 h2 hS2 => ?_))
  refine wp_seq ?_
  refine num_order (sPad p (f, l)).1 (sPad p (f, l)).2 a2 w2 hS2 (fun hp => by rw [hp] at g2; simp at g2; omega) h2 (Lib.hid (fun a3 w3 h3 hS3 => ?_))
  refine wp_seq ?_
  refine num_last (sOrd p (sPad p (f, l))).1 (sOrd p (sPad p (f, l))).2 a3 w3 hS3 (fun hp => by rw [hp] at g3; simp at g3; omega) h3 (Lib.hid (fun a4 w4 h4 hS4 => ?_))
  refine wp_seq ?_
  refine num_code (sLast p (sOrd p (sPad p (f, l)))).1 (sLast p (sOrd p (sPad p (f, l)))).2 a4 w4 hS4 (fun hp => by rw [hp] at g4; simp at g4; omega) h4 (Lib.hid (fun a5 w5 h5 hS5 => ?_))
  refine num_inc (sCode p (sLast p (sOrd p (sPad p (f, l))))).1 (sCode p (sLast p (sOrd p (sPad p (f, l))))).2 a5 w5 hS5 (fun hp => by rw [hp] at g5; simp at g5; omega) h5 (Lib.hid (fun a6 w6 h6 hS6 => ?_))
  obtain ⟨fr, rfl, hfr⟩ := h6.lit
  go_end0
  exact ⟨rfl, hS6.rd, hS6.fr, hS6.kept⟩
end Go.Proofs.YtglhdlkmgmbgeaaDoor

namespace Go.Proofs.YtglhdlkmgmbgeaaDoor
open Go.RowKit
open Fra Oct Arg Mem Gen Go.Proofs.YtglhdlkmgmbgeaaDoor.Obj
set_option linter.unusedVariables false
set_option linter.unusedSimpArgs false

theorem own_kept {w w' : World} {base : Nat} {e : TypeId} {size : Nat} {v : Value} {n : Nat} {xs : List Value} {L : List Nat} (h : w.ownsRow base e size v n xs) (hk : Kept L w w') (hL : ∀ k ∈ L, k < base ∨ w.heap.size ≤ k) : w'.ownsRow base e size v n xs := by
  obtain ⟨h1, h2 | ⟨g, cap, cur, rfl, hg, hh, r⟩⟩ := h
  · exact ⟨h1, .inl h2⟩
  · have hlt := (Array.getElem?_eq_some_iff.1 hh).1
    exact ⟨h1, .inr ⟨g, cap, cur, rfl, hg, hk.at hh (fun hm => by have := hL g hm; omega), r⟩⟩
theorem info_set : (Tryd.prog.info? 67).map (fun i => (i.zero, i.size, i.bytes)) = some (some (.agg #[.int .i64 0, .int .i64 0]), 2, 16) := by kernel_rfl
def lenV : Value → Nat
  | .slice _ n _ => n
  | _ => 0
theorem setsF_step (n : Nat) (l : List UInt8) (hl : l.length = 6 * n + 6) : setsF l.length l = ⟨at' l 0 2, at' l 2 4⟩ :: setsF (l.drop 6).length (l.drop 6) := by
  have hd : (l.drop 6).length = 6 * n := by rw [List.length_drop]; omega
  have hne : l ≠ [] := fun h => by rw [h] at hl; simp at hl
  have h : ∀ (m F : Nat) (r : List UInt8), r.length = 6 * m → m ≤ F → setsF F r = setsF m r := by
    intro m
    induction m with
    | zero =>
      intro F r hr _
      have : r = [] := List.eq_nil_of_length_eq_zero (by omega)
      subst this
      cases F <;> rfl
    | succ m ih =>
      intro F r hr hF
      have hrne : r ≠ [] := fun h => by rw [h] at hr; simp at hr
      obtain ⟨F, rfl⟩ : ∃ G, F = G + 1 := ⟨F - 1, by omega⟩
      have hrd : (r.drop 6).length = 6 * m := by rw [List.length_drop]; omega
      simp only [setsF, if_neg hrne]
      rw [ih F (r.drop 6) hrd (by omega)]
  rw [h (n + 1) l.length l (by omega) (by omega), h n (l.drop 6).length _ hd (by omega)]
  simp only [setsF, if_neg hne]

theorem own_ge {w : World} {base : Nat} {e : TypeId} {size : Nat} {v : Value} {n : Nat} {xs : List Value} (h : w.ownsRow base e size v n xs) (g : Nat) (hg : v.ownBlock = some g) : base ≤ g := by
  obtain ⟨h1, ⟨rfl, _⟩ | ⟨g', cap, cur, rfl, hg', hh, r⟩⟩ := h
  · simp [Value.ownBlock] at hg
  · simp [Value.ownBlock] at hg; omega

set_option maxRecDepth 100000 in
set_option maxHeartbeats 4000000 in
theorem rsettings_any {W : World} {rb : Nat} (l : List UInt8) (m : Nat) (w : World) (h : Rd W rb l w) (hm : l.length = 6 * m) (hl : l.length ≤ 1000000000) :
    Calls Tryd.prog 46 #[.pointer (some ⟨rb, 0, none⟩)] w fun e w' => ∃ ad cap, e = .returned (.slice ad (setsF l.length l).length cap) ∧ FrOk { noFr with sets := setsF l.length l } ad cap w' ∧ (∀ b o s, ad = some ⟨b, o, s⟩ → w.heap.size ≤ b) ∧ Rd W rb [] w' ∧ Kept [rb] w w' := by
  have hrl := h.lt
  obtain ⟨i0, hi, hz0, hz1, hz2⟩ := info_parts info_set
  obtain ⟨w1, hmk, hown, hgr⟩ := run_make_own (P := Tryd.prog) w w.heap.size 38 67 i0 (.agg #[.int .i64 0, .int .i64 0]) 2 Tryd.underlying38 hi hz0 hz1 .i64 .i64 m (by rw [hz2]; omega) (by unfold maxLen; omega) (Nat.le_refl _)
  have hb1 : Below w.heap.size w w1 := (Below.refl _ _).grown hgr (Nat.le_refl _) (by simp)
  have R1 := Lib.hid (h.kept (Kept.of_below hb1 (L := [])) (by simp))
  have hq : ((l.length : Int)).tdiv 6 = m := by rw [Int.tdiv_eq_ediv_of_nonneg (by omega)]; omega
  obtain ⟨ad0, cap0, hh, _⟩ := h.ex
  have c0 := cell_at hh 0
  simp only [List.getElem?_toArray, List.getElem?_cons_zero] at c0
  have HS : Hid (∀ done rest : List UInt8, done = done) := Lib.hid (fun _ _ => rfl)
  have HO := Lib.hid hown
  have HB1 := Lib.hid hb1
  have HW0 := Lib.hid h.bel
  have HI := Lib.hid (And.intro hi (And.intro hz0 (And.intro hz1 hz2)))
  have HT : Hid (setsF l.length l = setsF l.length l) := Lib.hid rfl
  generalize hTg : setsF l.length l = T at *
  have HTg := Lib.hid hTg
  obtain ⟨N, hN⟩ : ∃ N, N = l.length := ⟨_, rfl⟩
  rw [← hN] at hq c0 hm hl
  have HN := Lib.hid hN
  clear hown hgr hb1 h hh hi hz0 hz1 hz2 HT HS hTg hN
  go_enter Tryd.func46, Tryd.ntmps46
  go_wp2_with fail
  go_loopw [3] (fun lst wr => ∃ (done : List StM) (rest : List UInt8) (ad : Option Addr) (cap : Nat), lst = .slice ad done.length cap ∧ done.length ≤ m ∧ Hid (rest.length = 6 * (m - done.length) ∧ T = done ++ setsF rest.length rest) ∧ Hid (wr.ownsRow w.heap.size 67 2 (.slice ad done.length cap) done.length (Rw.flat ESt done)) ∧ Hid (Rd W rb rest wr) ∧ Hid (Kept [rb] w wr)) (fun lst _ => m - lenV lst)
  case atStart =>
    exact ⟨[], l, _, _, rfl, Nat.zero_le _, Lib.hid ⟨by rw [← HN.out, hm]; simp, by rw [List.nil_append]; exact HTg.out.symm⟩, HO, R1, Lib.hid (Kept.of_below HB1.out)⟩
  case round =>
    obtain ⟨done, rest, ad, cap, rfl, hdm, HR, HOw, HRd, HK⟩ := hrel
    obtain ⟨ad1, cap1, hh1, _⟩ := HRd.out.ex
    have c0 := cell_at hh1 0
    simp only [List.getElem?_toArray, List.getElem?_cons_zero] at c0
    clear hh1
    by_cases hlt : done.length < m
    · obtain ⟨n1, hn1⟩ : ∃ n1, rest.length = 6 * n1 + 6 := ⟨m - done.length - 1, by rw [HR.out.1]; omega⟩
      have hgt : (0 : Int) < rest.length := by omega
      have hst := setsF_step n1 rest hn1
      have hd6 : (rest.drop 2).drop 4 = rest.drop 6 := by rw [List.drop_drop]
      have hat : at' rest 2 4 = at' (rest.drop 2) 0 4 := by simp [at']
      rw [hat] at hst
      have e1 := at_bd rest 0 2 (by decide)
      have e2 := at_bd (rest.drop 2) 0 4 (by decide)
      have HN2 := Lib.hid (fun v (hv : Rd W rb rest v) => rnum_any 2 v hv (by decide) (by decide) (by omega))
      have HN4 := Lib.hid (fun v (hv : Rd W rb (rest.drop 2) v) => rnum_any 4 v hv (by decide) (by decide) (by simp; omega))
      rw [hd6] at HN4
      generalize hV : at' rest 0 2 = V at *
      generalize hU : at' (rest.drop 2) 0 4 = U at *
      have HSt := Lib.hid hst
      have HD : Hid ((rest.drop 6).length = 6 * (m - (done.length + 1))) := Lib.hid (by rw [List.length_drop, HR.out.1]; omega)
      have hS2 := heap_alloc_new wr (.cells #[.int .i64 0, .int .i64 0] 67)
      have hb2 : Below wr.heap.size wr (wr.alloc (.cells #[.int .i64 0, .int .i64 0] 67)) := (Below.refl _ _).alloc (Nat.le_refl _) _
      have R2 := Lib.hid (HRd.out.kept (Kept.of_below hb2 (L := [])) (by simp))
      have hrs : rb ≠ wr.heap.size := by have := HRd.out.lt; omega
      have HS2 := Lib.hid hS2
      have HB2 := Lib.hid hb2
      have hWlo := HRd.out.lo
      have hWw : W.heap.size ≤ wr.heap.size := HRd.out.bel.size
      clear hst hat hd6 hS2 hb2 hV hU
      go_wp2_with fail
      generalize wr.alloc (.cells #[.int .i64 0, .int .i64 0] 67) = w2 at HS2 HB2 R2 ⊢
      obtain ⟨sb, hsb⟩ : ∃ sb, sb = wr.heap.size := ⟨_, rfl⟩
      rw [← hsb] at HS2 hrs hWw ⊢
      have HSb := Lib.hid hsb
      clear hsb
      refine (HN2.out w2 R2.out).mono ?_
      rintro e w3 ⟨rfl, r3, k3⟩
      have K3 := Lib.hid k3
      have R3 := Lib.hid r3
      have HS3 := Lib.hid (k3.at HS2.out (by simp; omega))
      have y0 := cell_at HS3.out 0
      have z0 := frozen_of_row _ _ 0 _ _ HS3.out
      simp only [List.getElem?_toArray, List.getElem?_cons_zero] at y0
      have K4 := Lib.hid ((Kept.refl [sb] w3).setCell (p := ⟨sb, 0, none⟩) (.inl (by simp)) (.int .i64 V))
      have HS4 := Lib.hid (heap_setCell_same w3 sb 0 _ _ (.int .i64 V) HS3.out)
      have R4 := Lib.hid (R3.out.kept K4.out (by simp; omega))
      clear r3 k3 c0
      go_wp2_with fail
      generalize w3.setCell ⟨sb, 0, none⟩ (.int .i64 V) = w4 at K4 HS4 R4 ⊢
      refine (HN4.out w4 R4.out).mono ?_
      rintro e w5 ⟨rfl, r5, k5⟩
      have K5 := Lib.hid k5
      have R5 := Lib.hid r5
      have HS5 := Lib.hid (k5.at HS4.out (by simp; omega))
      have y1 := cell_at HS5.out 1
      have z1 := frozen_of_row _ _ 1 _ _ HS5.out
      simp only [Array.setIfInBounds, List.size_toArray, List.length_cons, List.length_nil, Nat.reduceAdd, Nat.reduceLT, ↓reduceDIte, List.getElem?_toArray, List.getElem?_cons_zero, List.getElem?_cons_succ, Array.set, List.set, Array.toList] at y1
      have K6 := Lib.hid ((Kept.refl [sb] w5).setCell (p := ⟨sb, 1, none⟩) (.inl (by simp)) (.int .i64 U))
      have HS6 : Hid ((w5.setCell ⟨sb, 1, none⟩ (.int .i64 U)).heap[sb]? = some (.cells #[.int .i64 V, .int .i64 U] 67 (0, 0))) := Lib.hid (heap_setCell_same w5 sb 1 _ _ (.int .i64 U) HS5.out)
      have x0 := cell_at HS6.out 0
      have x1 := cell_at HS6.out 1
      simp only [List.getElem?_toArray, List.getElem?_cons_zero, List.getElem?_cons_succ] at x0 x1
      have R6 := Lib.hid (R5.out.kept K6.out (by simp; omega))
      have KA : Hid (Kept [rb, sb] wr (w5.setCell ⟨sb, 1, none⟩ (.int .i64 U))) := Lib.hid (((((Kept.of_below HB2.out (L := [rb, sb])).trans K3.out (by simp)).trans K4.out (by simp)).trans K5.out (by simp)).trans K6.out (by simp))
      clear r5 k5 y0 z0
      generalize hw6 : w5.setCell ⟨sb, 1, none⟩ (.int .i64 U) = w6 at K6 HS6 R6 KA x0 x1
      have HW6 := Lib.hid hw6
      have Own7 : Hid ((w6.alloc (.cells #[.int .i64 V, .int .i64 U] 67)).ownsRow w.heap.size 67 2 (.slice ad done.length cap) done.length (Rw.flat ESt done)) := Lib.hid (own_kept HOw.out (KA.out.alloc _) (fun k hk => by
        have h2 := HSb.out
        simp only [List.mem_cons, List.not_mem_nil, or_false] at hk
        rcases hk with rfl | rfl
        · exact .inl hrl
        · right; omega))
      have Row7 : Hid (Rw.RowE ESt (w6.alloc (.cells #[.int .i64 V, .int .i64 U] 67)) (some ⟨w6.heap.size, 0, none⟩) [⟨V, U⟩]) := Lib.hid (.inr ⟨_, 0, rfl, fun i hi => by
        have h0 : i = 0 := by simp at hi; omega
        subst h0
        intro r v hv
        have hh := heap_alloc_new w6 (.cells #[.int .i64 V, .int .i64 U] 67)
        rw [cell_at hh]
        simp only [ESt, List.getElem_cons_zero] at hv
        simp only [Nat.zero_mul, Nat.zero_add, List.getElem?_toArray]
        exact hv⟩)
      have HB7 : Hid (w.heap.size ≤ (w6.alloc (.cells #[.int .i64 V, .int .i64 U] 67)).heap.size) := Lib.hid (by
        have h1 := HK.out.size; have h2 := (KA.out.alloc (.cells #[.int .i64 V, .int .i64 U] 67)).size; omega)
      have hdl : done.length + 1 ≤ 200000000 := by omega
      go_wp2_with (first
        | (rw [HW6.out])
        | (at_builtin; refine Rw.list_append_rows ESt Tryd.underlying38 HI.out.1 HI.out.2.1 HI.out.2.2.1 HI.out.2.2.2 rfl rfl (.tmp 27) (.tmp 29) rfl w.heap.size _ done.length done rfl rfl Own7.out _ 1 [⟨V, U⟩] 1 rfl rfl (fun h => by cases h) Row7.out (by unfold maxLen; omega) (by omega) HB7.out ?_; intro ad' cap' w8 hown' hgr'))
      have K8 : Kept [rb] w w8 := ((HK.out.trans KA.out (fun k hk => by
        have h2 := HSb.out
        have h3 := HK.out.size
        simp only [List.mem_cons, List.not_mem_nil, or_false] at hk
        rcases hk with rfl | rfl
        · left; simp
        · right; omega)).alloc _).grown hgr'.out (fun k hk => .inr (own_ge Own7.out k hk))
      have R8 : Rd W rb (rest.drop 6) w8 := by
        obtain ⟨ad2, cap2, hh2, q1, q2, q3⟩ := R6.out.ex
        have hh3 := grown_at hgr'.out (alloc_at hh2 (p := .cells #[.int .i64 V, .int .i64 U] 67)) (fun hx => by have := own_ge Own7.out rb hx; omega)
        exact ⟨⟨ad2, cap2, hh3, q1, q2, q3⟩, Kept.below HW0.out K8 (by simp; exact hWlo) HW0.out.size, hWlo⟩
      have hdl1 : (done ++ [(⟨V, U⟩ : StM)]).length = done.length + 1 := by simp
      refine ⟨⟨done ++ [⟨V, U⟩], rest.drop 6, ad', cap', by rw [hdl1], by omega, Lib.hid ⟨by rw [hdl1]; exact HD.out, by rw [HR.out.2, HSt.out]; simp⟩, Lib.hid (by rw [hdl1]; exact hown'.out), Lib.hid R8, Lib.hid K8⟩, by simp only [lenV]; omega⟩
    · have hde : done.length = m := by omega
      have hr0 : rest = [] := List.eq_nil_of_length_eq_zero (by rw [HR.out.1]; omega)
      subst hr0
      subst hde
      have HTd : Hid (T = done) := Lib.hid (by rw [HR.out.2]; simp [setsF])
      obtain ⟨o1, o2, o3, o4⟩ := Rw.own_len HOw.out
      have HFr : Hid (FrOk { noFr with sets := done } ad cap wr) := Lib.hid ⟨Rw.RowE.of_own (E := ESt) HOw.out, o2, o3⟩
      have HBk := Lib.hid (Rw.own_blk HOw.out)
      clear HR hdm o1 o2 o3 o4
      go_wp2_with fail
      go_ret
      refine ⟨ad, cap, by rw [HTd.out]; rfl, by rw [HTd.out]; exact HFr.out, fun b o s e => (HBk.out b o s e).1, HRd.out, HK.out⟩
end Go.Proofs.YtglhdlkmgmbgeaaDoor
