/- The contracts of layer 2's codes: a symbol's place, the code at a place, the place of a code. -/
import Derived.Test.YtabpoejimnoamaaDoorRows
import Derived.Test.YtabpoejimnoamaaDoorShelf
import Derived.Test.YtabpoejimnoamaaDoorHufTree
import Derived.Test.YtabpoejimnoamaaDoorMem
import Derived.Test.YtabpoejimnoamaaDoorGen
import Derived.WalkKit
import Derived.WalkSpells
import Derived.WalkLawsBesides
import Derived.Lib.Hide
import Derived.Outline
import Derived.Great.BuildSlice
namespace Go.Proofs.YtabpoejimnoamaaDoor
open Go.RowKit
open Huf Mem Gen
set_option linter.unusedVariables false

/-- What the table of groups holds, cell by cell. -/
def gcell (j : Nat) : Value := if j % 3 = 1 then .int .u32 (grpL.getD j 0 : Nat) else .int .i64 (grpL.getD j 0 : Nat)
def GrpIs (w : World) : Prop := ∀ j, j < 93 → w.cell? ⟨0, j, none⟩ = some (gcell j)
theorem GrpIs.below {w w' : World} (h : GrpIs w) (hb : Below w.heap.size w w') : GrpIs w' := fun j hj => below_cell hb (h j hj)
theorem GrpIs.at {w : World} (h : GrpIs w) (n : Nat) (hn : n < 31) :
    w.cell? ⟨0, n * 3, none⟩ = some (.int .i64 (gC n : Nat)) ∧ w.cell? ⟨0, n * 3 + 1, none⟩ = some (.int .u32 (gK n : Nat)) ∧ w.cell? ⟨0, n * 3 + 2, none⟩ = some (.int .i64 (gP n : Nat)) := by
  refine ⟨?_, ?_, ?_⟩
  · rw [h _ (by omega), gcell, if_neg (by omega), gC, Nat.mul_comm]
  · rw [h _ (by omega), gcell, if_pos (by omega), gK, Nat.mul_comm]
  · rw [h _ (by omega), gcell, if_neg (by omega), gP, Nat.mul_comm]

set_option maxHeartbeats 400000 in
theorem placeOf_end (w : World) :
    Calls Tryd.prog 32 #[.int .i64 256] w fun e w' => e = .returned (.int .i64 256) ∧ w = w' := by
  go_enter Tryd.func32, Tryd.ntmps32
  go_wp2
  go_ret
  exact ⟨rfl, rfl⟩

set_option maxRecDepth 100000 in
set_option maxHeartbeats 1000000 in
theorem placeOf_byte (c : Nat) (w : World) (hc : c < 256) :
    Calls Tryd.prog 32 #[.int .i64 c] w fun e w' => e = .returned (.int .i64 (plc c)) ∧ w = w' := by
  have hne : ((c : Int) == 256) = false := by simp; omega
  have h0 : (0 : Int) ≤ c := by omega
  have h1 : (c : Int) ≤ 255 := by omega
  have HP := Lib.hid (plc_eq c hc)
  go_enter Tryd.func32, Tryd.ntmps32
  go_wp2_with fail
  refine (Tryd.strings_IndexByte _ _ _).mono ?_; rintro e w' ⟨rfl, hw⟩; subst hw
  go_wp2_with fail
  go_ret
  exact ⟨ret_int HP.out, rfl⟩

theorem placeOf_any (c : Nat) (w : World) (hc : c < 257) :
    Calls Tryd.prog 32 #[.int .i64 c] w fun e w' => e = .returned (.int .i64 (plc c)) ∧ w = w' := by
  by_cases h : c = 256
  · subst h; exact placeOf_end w
  · exact placeOf_byte c w (by omega)

set_option maxRecDepth 100000 in
set_option maxHeartbeats 1000000 in
theorem codeAt_any (p : Nat) (w : World) (hp : p < 257) (hg : GrpIs w) :
    Calls Tryd.prog 31 #[.int .i64 p] w fun e w' => e = .returned (.tuple #[.int .u32 (caF 31 0 p).1, .int .i64 (caF 31 0 p).2]) ∧ Below w.heap.size w w' := by
  generalize hR : caF 31 0 p = R
  have HR := Lib.hid hR
  have HG := Lib.hid hg
  clear hR hg
  go_enter Tryd.func31, Tryd.ntmps31
  go_wp2
  go_loopw [4, 6] (fun _ i wr => ∃ k : Nat, k ≤ 31 ∧ i = .int .i64 k ∧ Hid (caF (31 - k) k p = R) ∧ Below w.heap.size w wr) (fun _ i _ => 31 - (intOf i).toNat)
  case atStart => exact ⟨0, by omega, rfl, HR, Below.refl _ _⟩
  case round =>
    obtain ⟨k, hk, rfl, HF, hbel⟩ := hrel
    by_cases hlt : k < 31
    · obtain ⟨c0, c1, c2⟩ := (HG.out.below hbel).at k hlt
      obtain ⟨b0, b1, b2⟩ := grp_bd k hlt
      have HY : Hid ((p : Int) < gP k + gC k → R = (((gK k : Int) + ((p : Int) - gP k)) % 4294967296, (k : Int))) := Lib.hid (fun h => by
        rw [← HF.out, show 31 - k = (31 - (k + 1)) + 1 from by omega, caF, if_pos h])
      have HN : Hid (¬ (p : Int) < gP k + gC k → caF (31 - (k + 1)) (k + 1) p = R) := Lib.hid (fun h => by
        rw [← HF.out, show 31 - k = (31 - (k + 1)) + 1 from by omega, caF, if_neg h])
      clear HF
      go_wp2_with fail
      · go_ret2
        have h : (p : Int) < gP k + gC k := by assumption
        refine ⟨?_, hbel.alloc hbel.size _⟩
        have hy := HY.out h
        exact ret_int2 (by rw [hy]) (by rw [hy])
      · go_roundw
        have h : ¬ (p : Int) < gP k + gC k := by omega
        case rel => exact ⟨k + 1, by omega, by go_num, Lib.hid (HN.out h), hbel.alloc hbel.size _⟩
        case measure => simp [intOf]; omega
    · have hr : R = (0, 0) := by
        rw [← HF.out, show 31 - k = 0 from by omega, caF]
      subst hr
      clear HF HR
      go_wp2_with fail
      go_ret2
      exact ⟨rfl, hbel⟩

set_option maxHeartbeats 1000000 in
theorem code_any (c : Nat) (w : World) (hc : c < 257) (hg : GrpIs w) :
    Calls Tryd.prog 26 #[.int .i64 c] w fun e w' => e = .returned (.tuple #[.int .u32 (code c), .int .i64 (len c)]) ∧ Below w.heap.size w w' := by
  have hC := codeAt_any (plc c) w (plc_bd c hc) hg
  rw [caF_code c hc] at hC
  have HC := Lib.hid hC
  have h0 : (0 : Int) ≤ c := by omega
  have h1 : (c : Int) ≤ 256 := by omega
  clear hC hg
  go_enter Tryd.func26, Tryd.ntmps26
  go_wp2_with fail
  refine (placeOf_any c _ hc).mono ?_; rintro e w' ⟨rfl, rfl⟩
  go_wp2_with fail
  refine HC.out.mono ?_; rintro e w1 ⟨rfl, hb⟩
  go_wp2_with fail
  go_ret2
  exact ⟨rfl, hb⟩

set_option maxHeartbeats 1000000 in
theorem code_none (c : Int) (w : World) (hc : c < 0 ∨ 256 < c) :
    Calls Tryd.prog 26 #[.int .i64 c] w fun e w' => e = .returned (.tuple #[.int .u32 0, .int .i64 0]) ∧ w = w' := by
  by_cases h : c < 0
  · clear hc
    go_enter Tryd.func26, Tryd.ntmps26
    go_wp2_with fail
    go_ret2
    exact ⟨rfl, rfl⟩
  · have h1 : 256 < c := by omega
    clear hc
    go_enter Tryd.func26, Tryd.ntmps26
    go_wp2_with fail
    go_ret2
    exact ⟨rfl, rfl⟩

theorem poc_some {v n p : Nat} (h : poc v n = some p) : gK n ≤ v ∧ v - gK n < gC n ∧ p = gP n + (v - gK n) := by
  rw [poc] at h
  split at h
  · simp only [Option.some.injEq] at h; exact ⟨by omega, by omega, h.symm⟩
  · cases h
theorem poc_none {v n : Nat} (h : poc v n = none) : v < gK n ∨ gC n ≤ v - gK n := by
  rw [poc] at h
  split at h
  · cases h
  · omega

set_option maxHeartbeats 1000000 in
theorem poc_yes (v n p : Nat) (w : World) (hn : n < 31) (hv : v < 1073741824) (hp : poc v n = some p) (hg : GrpIs w) :
    Calls Tryd.prog 29 #[.int .u32 v, .int .i64 n] w fun e w' => e = .returned (.tuple #[.int .i64 p, .bool true]) ∧ Below w.heap.size w w' := by
  obtain ⟨c0, c1, c2⟩ := hg.at n hn
  obtain ⟨b0, b1, b2⟩ := grp_bd n hn
  obtain ⟨h1, h2, h3⟩ := poc_some hp
  have H3 := Lib.hid h3
  have q0 : ¬ ((v : Int) - gK n < 0) := by omega
  have q1 : decide ((gC n : Int) ≤ (v : Int) - gK n) = false := by simp; omega
  clear hp hg h3
  go_enter Tryd.func29, Tryd.ntmps29
  go_wp2_with fail
  go_ret2
  exact ⟨ret_intv (by rw [H3.out]; omega), (Below.refl _ _).alloc (Nat.le_refl _) _⟩

set_option maxHeartbeats 1000000 in
theorem poc_no (v n : Nat) (w : World) (hn : n < 31) (hv : v < 1073741824) (hp : poc v n = none) (hg : GrpIs w) :
    Calls Tryd.prog 29 #[.int .u32 v, .int .i64 n] w fun e w' => e = .returned (.tuple #[.int .i64 0, .bool false]) ∧ Below w.heap.size w w' := by
  obtain ⟨c0, c1, c2⟩ := hg.at n hn
  obtain ⟨b0, b1, b2⟩ := grp_bd n hn
  have h := poc_none hp
  clear hp hg
  by_cases h0 : (v : Int) - gK n < 0
  · clear h
    go_enter Tryd.func29, Tryd.ntmps29
    go_wp2_with fail
    go_ret2
    exact ⟨rfl, (Below.refl _ _).alloc (Nat.le_refl _) _⟩
  · have h1 : decide ((gC n : Int) ≤ (v : Int) - gK n) = true := by simp; omega
    clear h
    go_enter Tryd.func29, Tryd.ntmps29
    go_wp2_with fail
    go_ret2
    exact ⟨rfl, (Below.refl _ _).alloc (Nat.le_refl _) _⟩
end Go.Proofs.YtabpoejimnoamaaDoor
