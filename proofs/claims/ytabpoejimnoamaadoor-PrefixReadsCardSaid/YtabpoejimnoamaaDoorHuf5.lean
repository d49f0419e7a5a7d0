/- The contracts of the document's Lengths, Codes and Size of layer 2. -/
import Derived.Test.YtabpoejimnoamaaDoorRows
import Derived.Test.YtabpoejimnoamaaDoorHufTree
import Derived.Test.YtabpoejimnoamaaDoorMem
import Derived.Test.YtabpoejimnoamaaDoorGen
import Derived.WalkKit
import Derived.WalkSpells
import Derived.WalkLawsBesides
import Derived.Lib.Hide
import Derived.Outline
import Derived.Great.BuildSlice
namespace Go.Proofs.YtabpoejimnoamaaDoor
open Go.RowKit
open Huf Mem Gen
set_option linter.unusedVariables false

def lenZ : List Int := lenL.map fun (n : Nat) => (n : Int)
theorem lenZ_at : ∀ i, i < 257 → lenZ.getD i 0 = (len i : Int) := by decide +kernel
/-- A block that holds the lengths. -/
def LenIs (w : World) (g : Nat) : Prop := ∀ i, i < 257 → w.cell? ⟨g, i, none⟩ = some (.int .i64 (len i))
theorem LenIs.below {w w' : World} {g : Nat} (h : LenIs w g) (hb : Below w.heap.size w w') : LenIs w' g := fun i hi => below_cell hb (h i hi)
def lenCells : Array Value := (lenZ.map (Value.int .i64)).toArray
theorem lenIs_new (w : World) : LenIs (w.alloc (.cells lenCells 3)) w.heap.size := fun i hi => by
  rw [cell_of_row _ w.heap.size i _ _ (0, 0) (heap_alloc_new w _), ← lenZ_at i hi, lenCells]
  have : i < lenZ.length := by rw [show lenZ.length = 257 from by decide +kernel]; exact hi
  simp [List.getD_eq_getElem?_getD, List.getElem?_eq_getElem this]

set_option maxRecDepth 100000 in
set_option maxHeartbeats 1000000 in
theorem lengths_any (w : World) :
    Calls Tryd.prog 27 #[] w fun e w' => ∃ g, e = .returned (.slice (some ⟨g, 0, none⟩) 257 257) ∧ LenIs w' g ∧ Below w.heap.size w w' := by
  go_enter Tryd.func27, Tryd.ntmps27
  go_wp2_with (refine wpList_buildFlat rfl 48 3 257 _ rfl .i64 lenZ Tryd.underlying48 (by kernel_rfl) (by kernel_rfl) (by kernel_rfl) (by decide) (by decide) (by kernel_rfl) ?_; change wpList _ _ _ _ _ (w.alloc (.cells lenCells 3)))
  go_ret
  exact ⟨_, rfl, lenIs_new w, (Below.refl _ _).alloc (Nat.le_refl _) _⟩

/-- The document's loops over lengths and symbols. -/
def dblF : Nat → Nat → Nat
  | 0, c => c
  | k + 1, c => dblF k (c * 2 % 4294967296)
def csF (n : Nat) : List Nat → Nat → List Nat → Nat → Nat → List Nat × Nat × Nat
  | [], _, ys, c, last => (ys, c, last)
  | l :: r, s, ys, c, last => if l = n then csF n r (s + 1) (ys.set s (dblF (n - last) c)) ((dblF (n - last) c + 1) % 4294967296) n else csF n r (s + 1) ys c last
def coF : Nat → Nat → List Nat × Nat × Nat → List Nat
  | 0, _, x => x.1
  | f + 1, n, x => coF f (n + 1) (csF n lenL 0 x.1 x.2.1 x.2.2)
theorem coF_codes : coF 26 5 (List.replicate 257 0, 0, 5) = codL := by decide +kernel
theorem lenL_drop (s : Nat) (h : s < 257) : lenL.drop s = len s :: lenL.drop (s + 1) := by
  have hl : lenL.length = 257 := by decide +kernel
  rw [List.drop_eq_getElem_cons (by omega), len, List.getD_eq_getElem?_getD, List.getElem?_eq_getElem (by omega)]; rfl
def csD (n s : Nat) (ys : List Nat) (c last : Nat) : List Nat × Nat × Nat := csF n (lenL.drop s) s ys c last
theorem csD_eq (n s : Nat) (ys : List Nat) (c last : Nat) (h : s < 257) (hl : len s = n) : csD n s ys c last = csD n (s + 1) (ys.set s (dblF (n - last) c)) ((dblF (n - last) c + 1) % 4294967296) n := by
  rw [csD, lenL_drop s h, csF, if_pos hl]; rfl
theorem csD_ne (n s : Nat) (ys : List Nat) (c last : Nat) (h : s < 257) (hl : ¬ len s = n) : csD n s ys c last = csD n (s + 1) ys c last := by
  rw [csD, lenL_drop s h, csF, if_neg hl]; rfl
theorem lenL_len : lenL.length = 257 := by decide +kernel
theorem csD_end (n s : Nat) (ys : List Nat) (c last : Nat) (h : ¬ s < 257) : csD n s ys c last = (ys, c, last) := by
  rw [csD, List.drop_of_length_le (by rw [lenL_len]; omega), csF]
theorem coF_step (f n : Nat) (ys : List Nat) (c la : Nat) : coF (f + 1) n (ys, c, la) = coF f (n + 1) (csD n 0 ys c la) := rfl
theorem codL_len : codL.length = 257 := by decide +kernel

/-- A block that holds the codes. -/
def CodIs (w : World) (g : Nat) : Prop := ∀ i, i < 257 → w.cell? ⟨g, i, none⟩ = some (.int .u32 (code i))
theorem CodIs.below {w w' : World} {g : Nat} (h : CodIs w g) (hb : Below w.heap.size w w') : CodIs w' g := fun i hi => below_cell hb (h i hi)
def u32s (l : List Nat) : List Value := l.map fun (n : Nat) => Value.int .u32 (n : Int)
theorem u32s_set (l : List Nat) (k c : Nat) : (u32s l).set k (.int .u32 (c : Int)) = u32s (l.set k c) := by simp [u32s, List.map_set]
theorem u32s_at (l : List Nat) (k : Nat) (h : k < l.length) : (u32s l)[k]? = some (.int .u32 (l[k] : Nat)) := by simp [u32s, List.getElem?_eq_getElem h]

theorem info_u32 : (Tryd.prog.info? 30).map (fun i => (i.zero, i.size, i.bytes)) = some (some (.int .u32 0), 1, 4) := by kernel_rfl

set_option maxRecDepth 100000 in
set_option maxHeartbeats 1000000 in
theorem codes_any (w : World) :
    Calls Tryd.prog 28 #[] w fun e w' => ∃ g, e = .returned (.slice (some ⟨g, 0, none⟩) 257 257) ∧ CodIs w' g ∧ Below w.heap.size w w' := by
  obtain ⟨i0, hi, hz0, hz1, hz2⟩ := info_parts info_u32
  have HI := Lib.hid hi
  have HZ0 := Lib.hid hz0
  have HZ1 := Lib.hid hz1
  have HZ2 := Lib.hid hz2
  clear hi hz0 hz1 hz2
  go_enter Tryd.func28, Tryd.ntmps28
  go_wp2_with fail
  refine (lengths_any _).mono ?_; rintro e w1 ⟨gl, rfl, hlen, hb1⟩
  obtain ⟨w2, hmk, hown, hgrow⟩ := run_make_full (P := Tryd.prog) w1 w1.heap.size 50 30 i0 (.int .u32 0) 1 Tryd.underlying50 HI.out HZ0.out HZ1.out .i64 .i64 257 (by rw [HZ2.out]; omega) (by unfold maxLen; omega) (Nat.le_refl _)
  have hrow : (madeCells (Value.int .u32 0).cells (257 * 1)).toList = u32s (List.replicate 257 0) := by
    rw [Nat.mul_one]; unfold Value.cells; rw [toList_madeCells_one]; simp only [u32s, List.map_replicate]; rfl
  rw [hrow] at hown
  rw [show ((257 : Nat) : Int) = 257 from rfl] at hmk
  have Hown := Lib.hid hown
  have hb2 : Below w1.heap.size w1 w2 := (Below.refl _ _).grown hgrow (Nat.le_refl _) (by simp)
  have HL := Lib.hid hlen
  clear hown hgrow hrow hlen
  go_wp2_with fail
  have hstart : Hid (coF 26 5 (List.replicate 257 0, 0, 5) = codL) := Lib.hid coF_codes
  obtain ⟨R, hR⟩ : ∃ R, codL = R := ⟨_, rfl⟩
  rw [hR] at hstart
  have HR := Lib.hid hR
  clear hR
  have hrl : Hid ((List.replicate 257 0).length = 257) := Lib.hid (List.length_replicate ..)
  generalize List.replicate 257 0 = ys0 at *
  go_loopw [3, 4, 5, 6] (fun vc vl vn _ wr => ∃ (n c la : Nat) (ys : List Nat), 5 ≤ n ∧ n ≤ 31 ∧ la ≤ n ∧ c < 4294967296 ∧ vn = .int .i64 n ∧ vc = .int .u32 c ∧ vl = .int .i64 la ∧ Hid (coF (31 - n) n (ys, c, la) = R) ∧ Hid (ys.length = 257) ∧ Hid (wr.ownsRow w1.heap.size 30 1 (.slice (some ⟨w1.heap.size, 0, none⟩) 257 257) 257 (u32s ys)) ∧ Below w1.heap.size w1 wr) (fun _ _ n _ _ => 31 - (intOf n).toNat)
  case atStart => exact ⟨5, 0, 5, _, by omega, by omega, by omega, by omega, rfl, rfl, rfl, hstart, hrl, Hown, hb2⟩
  case round =>
    obtain ⟨n, c, la, ys, hn5, hn31, hla, hc, rfl, rfl, rfl, HF, HY, HO, hbel⟩ := hrel
    clear hstart hrl Hown
    by_cases hlt : n < 31
    · have HF' : Hid (coF (31 - (n + 1)) (n + 1) (csD n 0 ys c la) = R) := Lib.hid (by
        have h := HF.out
        rw [show 31 - n = (31 - (n + 1)) + 1 from by omega, coF_step] at h
        exact h)
      clear HF
      have hle : (n : Int) ≤ 30 := by omega
      clear hn31
      go_wp2_with fail
      obtain ⟨wo, hwo⟩ : ∃ wo : World, wo = wr := ⟨_, rfl⟩
      subst hwo
      go_loopw [3, 4, 6] (fun vc vl vs wx => ∃ (s c la : Nat) (ys : List Nat), s ≤ 257 ∧ la ≤ n ∧ c < 4294967296 ∧ vs = .int .i64 s ∧ vc = .int .u32 c ∧ vl = .int .i64 la ∧ Hid (coF (31 - (n + 1)) (n + 1) (csD n s ys c la) = R) ∧ Hid (ys.length = 257) ∧ Hid (wx.ownsRow w1.heap.size 30 1 (.slice (some ⟨w1.heap.size, 0, none⟩) 257 257) 257 (u32s ys)) ∧ Below w1.heap.size w1 wx) (fun _ _ s _ => 257 - (intOf s).toNat)
      case atStart => exact ⟨0, c, la, ys, by omega, hla, hc, rfl, rfl, rfl, HF', HY, HO, hbel⟩
      case round =>
        obtain ⟨s, c, la, ys, hs, hla, hc, rfl, rfl, rfl, HF1, HY1, HO1, hbel1⟩ := hrel
        by_cases hs257 : s < 257
        · have hcell := HL.out.below hbel1 s hs257
          by_cases hln : len s = n
          · have hne : ((len s : Int) != (n : Int)) = false := by simp [hln]
            have HF2 : Hid (coF (31 - (n + 1)) (n + 1) (csD n (s + 1) (ys.set s (dblF (n - la) c)) ((dblF (n - la) c + 1) % 4294967296) n) = R) := Lib.hid (by
              have h := HF1.out
              rw [csD_eq n s ys c la hs257 hln] at h
              exact h)
            clear hln HF1
            generalize len s = L at *
            have hs0 : (s : Int) < 257 := by omega
            generalize hD : dblF (n - la) c = D at HF2
            have HD := Lib.hid hD
            clear hD
            go_wp2_with fail
            go_loop [3, 4] (fun vc vl => ∃ (c la : Nat), la ≤ n ∧ c < 4294967296 ∧ vc = .int .u32 c ∧ vl = .int .i64 la ∧ Hid (dblF (n - la) c = D)) (fun _ vl => n - (intOf vl).toNat)
            case atStart => exact ⟨c, la, hla, hc, rfl, rfl, HD⟩
            case round =>
              obtain ⟨c, la, hla, hc, rfl, rfl, HE⟩ := hrel
              by_cases hln : la < n
              · have hln' : (la : Int) < n := by omega
                have HE2 : Hid (dblF (n - (la + 1)) (c * 2 % 4294967296) = D) := Lib.hid (by
                  have h := HE.out
                  rw [show n - la = (n - (la + 1)) + 1 from by omega, dblF] at h
                  exact h)
                go_wp2_with fail
                go_round
                case rel => exact ⟨c * 2 % 4294967296, la + 1, by omega, by omega, by go_num, by go_num, HE2⟩
                case measure => simp [intOf]; omega
              · have hln' : (n : Int) ≤ la := by omega
                have hln2 : ¬ (la : Int) < n := by omega
                have hD : c = D := by
                  have h := HE.out
                  rw [show n - la = 0 from by omega, dblF] at h
                  exact h
                subst hD
                have hcq : ∃ q, wr.cell? ⟨w1.heap.size, s, none⟩ = some q := ⟨_, (HO1.out.cellAt s hs257).trans (u32s_at ys s (by rw [HY1.out]; exact hs257))⟩
                obtain ⟨q, hcq⟩ := hcq
                have hfz := HO1.out.frozenAt s
                have HO2 := Lib.hid (HO1.out.stored s (.int .u32 (c : Int))).1
                go_wp2_with fail
                go_roundw
                case rel =>
                  refine ⟨s + 1, (c + 1) % 4294967296, n, ys.set s c, by omega, by omega, by omega, by go_num, by go_num, ?_, HF2, Lib.hid (by rw [List.length_set]; exact HY1.out), Lib.hid (by rw [← u32s_set]; exact HO2.out), hbel1.setCell (Nat.le_refl _) _⟩
                  have : la = n := by omega
                  rw [this]
                case measure => simp [intOf]; omega
          · have hne : ((len s : Int) != (n : Int)) = true := by simp; omega
            have HF2 : Hid (coF (31 - (n + 1)) (n + 1) (csD n (s + 1) ys c la) = R) := Lib.hid (by
              have h := HF1.out
              rw [csD_ne n s ys c la hs257 hln] at h
              exact h)
            clear hln HF1
            generalize len s = L at *
            have hs0 : (s : Int) < 257 := by omega
            go_wp2_with fail
            go_roundw
            case rel => exact ⟨s + 1, c, la, ys, by omega, hla, hc, by go_num, rfl, rfl, HF2, HY1, HO1, hbel1⟩
            case measure => simp [intOf]; omega
        · have hge : (257 : Int) ≤ s := by omega
          have HF2 : Hid (coF (31 - (n + 1)) (n + 1) (ys, c, la) = R) := Lib.hid (by
            have h := HF1.out
            rw [csD_end n s ys c la hs257] at h
            exact h)
          clear HF1
          go_wp2_with fail
          go_roundw
          case rel => exact ⟨n + 1, c, la, ys, by omega, by omega, by omega, hc, by go_num, rfl, rfl, HF2, HY1, HO1, hbel1⟩
          case measure => simp [intOf]; omega
    · have hfin : Hid (ys = codL) := Lib.hid (by
        have h := HF.out
        rw [show 31 - n = 0 from by omega, coF, ← HR.out] at h
        exact h)
      clear HF HY
      have hgt : (30 : Int) < n := by omega
      clear hlt hn31 hn5 hla hc
      go_wp2_with fail
      go_ret
      refine ⟨_, rfl, ?_, below_step hb1 hbel⟩
      intro i hi
      have hown := HO.out
      rw [hfin.out] at hown
      have h1 : i < codL.length := by rw [codL_len]; exact hi
      rw [hown.cellAt i hi, u32s_at _ _ h1, code, List.getD_eq_getElem?_getD, List.getElem?_eq_getElem h1]
      rfl
end Go.Proofs.YtabpoejimnoamaaDoor
