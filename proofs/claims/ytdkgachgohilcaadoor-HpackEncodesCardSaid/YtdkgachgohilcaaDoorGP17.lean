/- The contracts of the document's Lengths, Codes and Size of layer 2. The contracts of the document's Size and Encode of layer 2. -/
import Derived.Test.YtdkgachgohilcaaDoorRows
import Derived.Test.YtdkgachgohilcaaDoorGP04
import Derived.Test.YtdkgachgohilcaaDoorGP01
import Derived.Test.YtdkgachgohilcaaDoorGP03
import Derived.WalkKit
import Derived.WalkSpells
import Derived.WalkLawsBesides
import Derived.Lib.Hide
import Derived.Outline
import Derived.Great.BuildSlice
import Derived.Laws.BitsAllLaws
set_option linter.unusedVariables false
set_option linter.unusedSimpArgs false
namespace Go.Proofs.YtdkgachgohilcaaDoor
open Go.RowKit
open Huf Mem Gen
set_option linter.unusedVariables false

def lenZ : List Int := lenL.map fun (n : Nat) => (n : Int)
theorem lenZ_at : ∀ i, i < 257 → lenZ.getD i 0 = (len i : Int) := by decide +kernel
/-- A block that holds the lengths. -/
def LenIs (w : World) (g : Nat) : Prop := ∀ i, i < 257 → w.cell? ⟨g, i, none⟩ = some (.int .i64 (len i))
theorem LenIs.below {w w' : World} {g : Nat} (h : LenIs w g) (hb : Below w.heap.size w w') : LenIs w' g := fun i hi => below_cell hb (h i hi)
def lenCells : Array Value := (lenZ.map (Value.int .i64)).toArray
theorem lenIs_new (w : World) : LenIs (w.alloc (.cells lenCells 3)) w.heap.size := fun i hi => by
  rw [cell_of_row _ w.heap.size i _ _ (0, 0) (heap_alloc_new w _), ← lenZ_at i hi, lenCells]
  have : i < lenZ.length := by rw [show lenZ.length = 257 from by decide +kernel]; exact hi
  simp [List.getD_eq_getElem?_getD, List.getElem?_eq_getElem this]

set_option maxRecDepth 100000 in
set_option maxHeartbeats 1000000 in
theorem lengths_any (w : World) :
    Calls Tryd.prog 87 #[] w fun e w' => ∃ g, e = .returned (.slice (some ⟨g, 0, none⟩) 257 257) ∧ LenIs w' g ∧ Below w.heap.size w w' := by
  go_enter Tryd.func87, Tryd.ntmps87
  go_wp2_with (refine wpList_buildFlat rfl 128 3 257 _ rfl .i64 lenZ Tryd.underlying128 (by kernel_rfl) (by kernel_rfl) (by kernel_rfl) (by decide) (by decide) (by kernel_rfl) ?_; change wpList _ _ _ _ _ (w.alloc (.cells lenCells 3)))
  go_ret
  exact ⟨_, rfl, lenIs_new w, (Below.refl _ _).alloc (Nat.le_refl _) _⟩

/-- The document's loops over lengths and symbols. -/
def dblF : Nat → Nat → Nat
  | 0, c => c
  | k + 1, c => dblF k (c * 2 % 4294967296)
def csF (n : Nat) : List Nat → Nat → List Nat → Nat → Nat → List Nat × Nat × Nat
  | [], _, ys, c, last => (ys, c, last)
  | l :: r, s, ys, c, last => if l = n then csF n r (s + 1) (ys.set s (dblF (n - last) c)) ((dblF (n - last) c + 1) % 4294967296) n else csF n r (s + 1) ys c last
def coF : Nat → Nat → List Nat × Nat × Nat → List Nat
  | 0, _, x => x.1
  | f + 1, n, x => coF f (n + 1) (csF n lenL 0 x.1 x.2.1 x.2.2)
theorem coF_codes : coF 26 5 (List.replicate 257 0, 0, 5) = codL := by decide +kernel
theorem lenL_drop (s : Nat) (h : s < 257) : lenL.drop s = len s :: lenL.drop (s + 1) := by
  have hl : lenL.length = 257 := by decide +kernel
  rw [List.drop_eq_getElem_cons (by omega), len, List.getD_eq_getElem?_getD, List.getElem?_eq_getElem (by omega)]; rfl
def csD (n s : Nat) (ys : List Nat) (c last : Nat) : List Nat × Nat × Nat := csF n (lenL.drop s) s ys c last
theorem csD_eq (n s : Nat) (ys : List Nat) (c last : Nat) (h : s < 257) (hl : len s = n) : csD n s ys c last = csD n (s + 1) (ys.set s (dblF (n - last) c)) ((dblF (n - last) c + 1) % 4294967296) n := by
  rw [csD, lenL_drop s h, csF, if_pos hl]; rfl
theorem csD_ne (n s : Nat) (ys : List Nat) (c last : Nat) (h : s < 257) (hl : ¬ len s = n) : csD n s ys c last = csD n (s + 1) ys c last := by
  rw [csD, lenL_drop s h, csF, if_neg hl]; rfl
theorem lenL_len : lenL.length = 257 := by decide +kernel
theorem csD_end (n s : Nat) (ys : List Nat) (c last : Nat) (h : ¬ s < 257) : csD n s ys c last = (ys, c, last) := by
  rw [csD, List.drop_of_length_le (by rw [lenL_len]; omega), csF]
theorem coF_step (f n : Nat) (ys : List Nat) (c la : Nat) : coF (f + 1) n (ys, c, la) = coF f (n + 1) (csD n 0 ys c la) := rfl
theorem codL_len : codL.length = 257 := by decide +kernel

/-- A block that holds the codes. -/
def CodIs (w : World) (g : Nat) : Prop := ∀ i, i < 257 → w.cell? ⟨g, i, none⟩ = some (.int .u32 (code i))
theorem CodIs.below {w w' : World} {g : Nat} (h : CodIs w g) (hb : Below w.heap.size w w') : CodIs w' g := fun i hi => below_cell hb (h i hi)
def u32s (l : List Nat) : List Value := l.map fun (n : Nat) => Value.int .u32 (n : Int)
theorem u32s_set (l : List Nat) (k c : Nat) : (u32s l).set k (.int .u32 (c : Int)) = u32s (l.set k c) := by simp [u32s, List.map_set]
theorem u32s_at (l : List Nat) (k : Nat) (h : k < l.length) : (u32s l)[k]? = some (.int .u32 (l[k] : Nat)) := by simp [u32s, List.getElem?_eq_getElem h]

theorem info_u32 : (Tryd.prog.info? 90).map (fun i => (i.zero, i.size, i.bytes)) = some (some (.int .u32 0), 1, 4) := by kernel_rfl

set_option maxRecDepth 100000 in
set_option maxHeartbeats 1000000 in
theorem codes_any (w : World) :
    Calls Tryd.prog 88 #[] w fun e w' => ∃ g, e = .returned (.slice (some ⟨g, 0, none⟩) 257 257) ∧ CodIs w' g ∧ Below w.heap.size w w' := by
  obtain ⟨i0, hi, hz0, hz1, hz2⟩ := info_parts info_u32
  have HI := Lib.hid hi
  have HZ0 := Lib.hid hz0
  have HZ1 := Lib.hid hz1
  have HZ2 := Lib.hid hz2
  clear hi hz0 hz1 hz2
  go_enter Tryd.func88, Tryd.ntmps88
  go_wp2_with fail
  refine (lengths_any _).mono ?_; rintro e w1 ⟨gl, rfl, hlen, hb1⟩
  obtain ⟨w2, hmk, hown, hgrow⟩ := run_make_full (P := Tryd.prog) w1 w1.heap.size 130 90 i0 (.int .u32 0) 1 Tryd.underlying130 HI.out HZ0.out HZ1.out .i64 .i64 257 (by rw [HZ2.out]; omega) (by unfold maxLen; omega) (Nat.le_refl _)
  have hrow : (madeCells (Value.int .u32 0).cells (257 * 1)).toList = u32s (List.replicate 257 0) := by
    rw [Nat.mul_one]; unfold Value.cells; rw [toList_madeCells_one]; simp only [u32s, List.map_replicate]; rfl
  rw [hrow] at hown
  rw [show ((257 : Nat) : Int) = 257 from rfl] at hmk
  have Hown := Lib.hid hown
  have hb2 : Below w1.heap.size w1 w2 := (Below.refl _ _).grown hgrow (Nat.le_refl _) (by simp)
  have HL := Lib.hid hlen
  clear hown hgrow hrow hlen
  go_wp2_with fail
  have hstart : Hid (coF 26 5 (List.replicate 257 0, 0, 5) = codL) := Lib.hid coF_codes
  obtain ⟨R, hR⟩ : ∃ R, codL = R := ⟨_, rfl⟩
  rw [hR] at hstart
  have HR := Lib.hid hR
  clear hR
  have hrl : Hid ((List.replicate 257 0).length = 257) := Lib.hid (List.length_replicate ..)
  generalize List.replicate 257 0 = ys0 at *
  go_loopw [3, 4, 5, 6] (fun vc vl vn _ wr => ∃ (n c la : Nat) (ys : List Nat), 5 ≤ n ∧ n ≤ 31 ∧ la ≤ n ∧ c < 4294967296 ∧ vn = .int .i64 n ∧ vc = .int .u32 c ∧ vl = .int .i64 la ∧ Hid (coF (31 - n) n (ys, c, la) = R) ∧ Hid (ys.length = 257) ∧ Hid (wr.ownsRow w1.heap.size 90 1 (.slice (some ⟨w1.heap.size, 0, none⟩) 257 257) 257 (u32s ys)) ∧ Below w1.heap.size w1 wr) (fun _ _ n _ _ => 31 - (intOf n).toNat)
  case atStart => exact ⟨5, 0, 5, _, by omega, by omega, by omega, by omega, rfl, rfl, rfl, hstart, hrl, Hown, hb2⟩
  case round =>
    obtain ⟨n, c, la, ys, hn5, hn31, hla, hc, rfl, rfl, rfl, HF, HY, HO, hbel⟩ := hrel
    clear hstart hrl Hown
    by_cases hlt : n < 31
    · have HF' : Hid (coF (31 - (n + 1)) (n + 1) (csD n 0 ys c la) = R) := Lib.hid (by
        have h := HF.out
        rw [show 31 - n = (31 - (n + 1)) + 1 from by omega, coF_step] at h
        exact h)
      clear HF
      have hle : (n : Int) ≤ 30 := by omega
      clear hn31
      go_wp2_with fail
      obtain ⟨wo, hwo⟩ : ∃ wo : World, wo = wr := ⟨_, rfl⟩
      subst hwo
      go_loopw [3, 4, 6] (fun vc vl vs wx => ∃ (s c la : Nat) (ys : List Nat), s ≤ 257 ∧ la ≤ n ∧ c < 4294967296 ∧ vs = .int .i64 s ∧ vc = .int .u32 c ∧ vl = .int .i64 la ∧ Hid (coF (31 - (n + 1)) (n + 1) (csD n s ys c la) = R) ∧ Hid (ys.length = 257) ∧ Hid (wx.ownsRow w1.heap.size 90 1 (.slice (some ⟨w1.heap.size, 0, none⟩) 257 257) 257 (u32s ys)) ∧ Below w1.heap.size w1 wx) (fun _ _ s _ => 257 - (intOf s).toNat)
      case atStart => exact ⟨0, c, la, ys, by omega, hla, hc, rfl, rfl, rfl, HF', HY, HO, hbel⟩
      case round =>
        obtain ⟨s, c, la, ys, hs, hla, hc, rfl, rfl, rfl, HF1, HY1, HO1, hbel1⟩ := hrel
        by_cases hs257 : s < 257
        · have hcell := HL.out.below hbel1 s hs257
          by_cases hln : len s = n
          · have hne : ((len s : Int) != (n : Int)) = false := by simp [hln]
            have HF2 : Hid (coF (31 - (n + 1)) (n + 1) (csD n (s + 1) (ys.set s (dblF (n - la) c)) ((dblF (n - la) c + 1) % 4294967296) n) = R) := Lib.hid (by
              have h := HF1.out
              rw [csD_eq n s ys c la hs257 hln] at h
              exact h)
            clear hln HF1
            generalize len s = L at *
            have hs0 : (s : Int) < 257 := by omega
            generalize hD : dblF (n - la) c = D at HF2
            have HD := Lib.hid hD
            clear hD
            go_wp2_with fail
            go_loop [3, 4] (fun vc vl => ∃ (c la : Nat), la ≤ n ∧ c < 4294967296 ∧ vc = .int .u32 c ∧ vl = .int .i64 la ∧ Hid (dblF (n - la) c = D)) (fun _ vl => n - (intOf vl).toNat)
            case atStart => exact ⟨c, la, hla, hc, rfl, rfl, HD⟩
            case round =>
              obtain ⟨c, la, hla, hc, rfl, rfl, HE⟩ := hrel
              by_cases hln : la < n
              · have hln' : (la : Int) < n := by omega
                have HE2 : Hid (dblF (n - (la + 1)) (c * 2 % 4294967296) = D) := Lib.hid (by
                  have h := HE.out
                  rw [show n - la = (n - (la + 1)) + 1 from by omega, dblF] at h
                  exact h)
                go_wp2_with fail
                go_round
                case rel => exact ⟨c * 2 % 4294967296, la + 1, by omega, by omega, by go_num, by go_num, HE2⟩
                case measure => simp [intOf]; omega
              · have hln' : (n : Int) ≤ la := by omega
                have hln2 : ¬ (la : Int) < n := by omega
                have hD : c = D := by
                  have h := HE.out
                  rw [show n - la = 0 from by omega, dblF] at h
                  exact h
                subst hD
                have hcq : ∃ q, wr.cell? ⟨w1.heap.size, s, none⟩ = some q := ⟨_, (HO1.out.cellAt s hs257).trans (u32s_at ys s (by rw [HY1.out]; exact hs257))⟩
                obtain ⟨q, hcq⟩ := hcq
                have hfz := HO1.out.frozenAt s
                have HO2 := Lib.hid (HO1.out.stored s (.int .u32 (c : Int))).1
                go_wp2_with fail
                go_roundw
                case rel =>
                  refine ⟨s + 1, (c + 1) % 4294967296, n, ys.set s c, by omega, by omega, by omega, by go_num, by go_num, ?_, HF2, Lib.hid (by rw [List.length_set]; exact HY1.out), Lib.hid (by rw [← u32s_set]; exact HO2.out), hbel1.setCell (Nat.le_refl _) _⟩
                  have : la = n := by omega
                  rw [this]
                case measure => simp [intOf]; omega
          · have hne : ((len s : Int) != (n : Int)) = true := by simp; omega
            have HF2 : Hid (coF (31 - (n + 1)) (n + 1) (csD n (s + 1) ys c la) = R) := Lib.hid (by
              have h := HF1.out
              rw [csD_ne n s ys c la hs257 hln] at h
              exact h)
            clear hln HF1
            generalize len s = L at *
            have hs0 : (s : Int) < 257 := by omega
            go_wp2_with fail
            go_roundw
            case rel => exact ⟨s + 1, c, la, ys, by omega, hla, hc, by go_num, rfl, rfl, HF2, HY1, HO1, hbel1⟩
            case measure => simp [intOf]; omega
        · have hge : (257 : Int) ≤ s := by omega
          have HF2 : Hid (coF (31 - (n + 1)) (n + 1) (ys, c, la) = R) := Lib.hid (by
            have h := HF1.out
            rw [csD_end n s ys c la hs257] at h
            exact h)
          clear HF1
          go_wp2_with fail
          go_roundw
          case rel => exact ⟨n + 1, c, la, ys, by omega, by omega, by omega, hc, by go_num, rfl, rfl, HF2, HY1, HO1, hbel1⟩
          case measure => simp [intOf]; omega
    · have hfin : Hid (ys = codL) := Lib.hid (by
        have h := HF.out
        rw [show 31 - n = 0 from by omega, coF, ← HR.out] at h
        exact h)
      clear HF HY
      have hgt : (30 : Int) < n := by omega
      clear hlt hn31 hn5 hla hc
      go_wp2_with fail
      go_ret
      refine ⟨_, rfl, ?_, below_step hb1 hbel⟩
      intro i hi
      have hown := HO.out
      rw [hfin.out] at hown
      have h1 : i < codL.length := by rw [codL_len]; exact hi
      rw [hown.cellAt i hi, u32s_at _ _ h1, code, List.getD_eq_getElem?_getD, List.getElem?_eq_getElem h1]
      rfl
end Go.Proofs.YtdkgachgohilcaaDoor

namespace Go.Proofs.YtdkgachgohilcaaDoor
open Go.RowKit
open Huf Mem Gen
set_option linter.unusedVariables false

set_option maxHeartbeats 1000000 in
theorem rsize_any (s : ByteArray) (w : World) (hs : s.size ≤ 140737488351232) :
    Calls Tryd.prog 65 #[.string s] w fun e w' => e = .returned (.int .i64 (sizeV s.data.toList)) ∧ Below w.heap.size w w' := by
  generalize hR : blen s.data.toList = R
  have HR := Lib.hid hR
  have hRb : R ≤ 30 * s.size := by rw [← hR, ← list_len]; exact (blen_bd _).2
  have HV : Hid (sizeV s.data.toList = (R + 7) / 8) := Lib.hid (by rw [sizeV, hR])
  clear hR
  generalize sizeV s.data.toList = V at HV ⊢
  go_enter Tryd.func65, Tryd.ntmps65
  go_wp2_with fail
  refine (lengths_any _).mono ?_; rintro e w1 ⟨gl, rfl, i1, b1⟩
  have I1 := Lib.hid i1
  clear i1
  go_wp2_with fail
  go_loop [4, 5] (fun v i => ∃ (k b : Nat), k ≤ s.size ∧ i = .int .i64 k ∧ v = .int .i64 b ∧ b ≤ R ∧ Hid (b + blen (s.data.toList.drop k) = R)) (fun _ i => s.size - (intOf i).toNat)
  case atStart => exact ⟨0, 0, by omega, rfl, rfl, by omega, Lib.hid (by simpa using HR.out)⟩
  case round =>
    obtain ⟨k, b, hk, rfl, rfl, hb, HF⟩ := hrel
    by_cases hlt : k < s.size
    · have hbd := byte_bd s k hlt
      have hcell := I1.out s[k].toNat (by omega)
      have hll := len_all s[k].toNat (by omega)
      have HF' : Hid (b + len s[k].toNat + blen (s.data.toList.drop (k + 1)) = R) := Lib.hid (by
        have h := HF.out
        rw [drop_cons s k hlt, blen] at h; omega)
      have hb' : b + len s[k].toNat ≤ R := by have := HF'.out; omega
      have hi257 : (s[k].toNat : Int) < 257 := by omega
      clear HF
      generalize len s[k].toNat = L at *
      go_wp2_with fail
      go_round
      case rel => exact ⟨k + 1, b + L, by omega, by go_num, by go_num, hb', HF'⟩
      case measure => first | (simp [intOf]; done) | (simp [intOf]; omega)
    · have hbR : b = R := by
        have h := HF.out
        rw [drop_end s k (by omega), blen] at h; omega
      have HBR := Lib.hid hbR
      clear HF HR hbR
      go_wp2_with fail
      go_loop [4] (fun v => ∃ (b : Nat), v = .int .i64 b ∧ b ≤ R + 7 ∧ Hid ((b + 7) / 8 = V)) (fun v => 8 * V - (intOf v).toNat)
      case atStart => exact ⟨b, rfl, by omega, Lib.hid (by rw [HV.out, HBR.out])⟩
      case round =>
        obtain ⟨b, rfl, hb7, HF⟩ := hrel
        by_cases h8 : b % 8 = 0
        · have h8' : ((b : Int) % 8 != 0) = false := by simp; omega
          clear h8
          have hfin : Hid ((b : Int) / 8 = (V : Int)) := Lib.hid (by have := HF.out; simp at h8'; omega)
          go_wp2_with fail
          go_ret
          exact ⟨ret_int hfin.out, b1⟩
        · have h8' : ((b : Int) % 8 != 0) = true := by simp; omega
          have HF2 : Hid ((b + 1 + 7) / 8 = V) := Lib.hid (by have := HF.out; omega)
          have hbR : b + 1 ≤ R + 7 := by have h := HF.out; have h2 := HV.out; omega
          have hm : b < 8 * V := by have h := HF.out; omega
          clear h8
          go_wp2_with fail
          go_round
          case rel => exact ⟨b + 1, by go_num, hbR, HF2⟩
          case measure => first | (simp [intOf]; done) | (simp [intOf]; omega)

theorem low_pow (c : Nat) (h : c < 8) : 2 ^ c ≤ 128 := by
  have : c = 0 ∨ c = 1 ∨ c = 2 ∨ c = 3 ∨ c = 4 ∨ c = 5 ∨ c = 6 ∨ c = 7 := by omega
  rcases this with rfl | rfl | rfl | rfl | rfl | rfl | rfl | rfl <;> decide

theorem room (ys R rest : List UInt8) (n : Nat) (h : ys.take n ++ rest = R) (hl : ys.length = R.length) (hr : 0 < rest.length) : n < ys.length := by
  have := congrArg List.length h
  rw [List.length_append, List.length_take] at this
  omega

theorem next_low (p b t : Nat) (hb : b < 2) (h : ¬ t % 8 = 7) (hp : p < 2 ^ (t % 8)) : 2 * p + b < 2 ^ ((t + 1) % 8) ∧ 2 * p + b < 128 := by
  have h1 : (t + 1) % 8 = t % 8 + 1 := by omega
  have h2 := low_pow (t % 8 + 1) (by omega)
  rw [h1]
  rw [Nat.pow_succ] at h2 ⊢
  omega
/-- A bit that doesn't make the byte whole. -/
theorem pack_more (b : Bool) (r : List Bool) (p t : Nat) (h : ¬ t % 8 = 7) : packF (b :: r) p (t % 8) = packF r (2 * p + bN b) ((t + 1) % 8) := by
  rw [packF, if_neg h]; congr 1; omega
theorem pack_whole (b : Bool) (r : List Bool) (p t : Nat) (h : t % 8 = 7) : packF (b :: r) p (t % 8) = UInt8.ofNat (2 * p + bN b) :: packF r 0 ((t + 1) % 8) := by
  rw [packF, if_pos h]; congr 2; omega
/-- A one more at the end. -/
theorem pad_more (p t : Nat) (h0 : ¬ t % 8 = 0) (h : ¬ t % 8 = 7) : packF [] p (t % 8) = packF [] (2 * p + 1) ((t + 1) % 8) := by
  rw [packF, packF, if_neg h0, if_neg (by omega), show 8 - t % 8 = (8 - (t + 1) % 8) + 1 from by omega, Nat.pow_succ]
  congr 2
  have := Nat.two_pow_pos (8 - (t + 1) % 8)
  rw [Nat.add_mul, Nat.mul_comm (2 ^ (8 - (t + 1) % 8)) 2, ← Nat.mul_assoc, Nat.mul_comm p 2]
  omega
theorem pad_whole (p t : Nat) (h : t % 8 = 7) : packF [] p (t % 8) = [UInt8.ofNat (2 * p + 1)] := by
  rw [packF, if_neg (by omega), h]; congr 2; omega

set_option maxRecDepth 100000 in
set_option maxHeartbeats 4000000 in
theorem rencode_any (s : ByteArray) (w : World) (hs : s.size ≤ 1048576) :
    Calls Tryd.prog 66 #[.string s] w fun e w' => ∃ (a : Option Addr) (cap : Nat), e = .returned (.slice a (enc s.data.toList).length cap) ∧ RB w' a (enc s.data.toList) ∧ Hid (a = none → cap = 0) ∧ Below w.heap.size w w' := by
  obtain ⟨i0, hi, hz0, hz1, hz2⟩ := info_parts info_u8
  have HI := Lib.hid hi
  have HZ0 := Lib.hid hz0
  have HZ1 := Lib.hid hz1
  have HZ2 := Lib.hid hz2
  clear hi hz0 hz1 hz2
  have HS := Lib.hid (fun v => rsize_any s v (by omega))
  have hle : (enc s.data.toList).length = sizeV s.data.toList := by rw [enc_length]; rfl
  have hRl : sizeV s.data.toList ≤ 30 * s.size + 7 := by have := (blen_bd s.data.toList).2; rw [list_len] at this; unfold sizeV; omega
  have HR : Hid (packF (bitsT s.data.toList) 0 0 = enc s.data.toList) := rfl
  generalize enc s.data.toList = R at hle HR ⊢
  rw [← hle] at HS hRl
  clear hle
  go_enter Tryd.func66, Tryd.ntmps66
  go_wp2_with fail
  refine (lengths_any _).mono ?_; rintro e w1 ⟨gl, rfl, i1, b1⟩
  go_wp2_with fail
  refine (codes_any _).mono ?_; rintro e w2 ⟨gc, rfl, i2, b2⟩
  replace i1 := i1.below b2
  replace b2 := below_step b1 b2
  go_wp2_with fail
  refine (HS.out _).mono ?_; rintro e w3 ⟨rfl, b3⟩
  have I1 := Lib.hid (i1.below b3)
  have I2 := Lib.hid (i2.below b3)
  replace b3 := below_step b2 b3
  clear i1 i2
  obtain ⟨w4, hmk, hown, hgrow⟩ := run_make_full (P := Tryd.prog) w3 w3.heap.size 24 5 i0 (.int .u8 0) 1 Tryd.underlying24 HI.out HZ0.out HZ1.out .i64 .i64 R.length (by rw [HZ2.out]; omega) (by unfold maxLen; omega) (Nat.le_refl _)
  have hrow : (madeCells (Value.int .u8 0).cells (R.length * 1)).toList = bvs (List.replicate R.length 0) := by
    rw [Nat.mul_one]; unfold Value.cells; rw [toList_madeCells_one]; simp [bvs]
  rw [hrow] at hown
  have Hown := Lib.hid hown
  have hb4 : Below w3.heap.size w3 w4 := (Below.refl _ _).grown hgrow (Nat.le_refl _) (by simp)
  clear hown hgrow hrow
  have hY0 : Hid ((List.replicate R.length (0 : UInt8)).length = R.length) := Lib.hid (List.length_replicate ..)
  generalize List.replicate R.length (0 : UInt8) = ys0 at *
  go_wp2_with fail
  go_loopw [6, 7, 8] (fun vt vp vi wr => ∃ (k t p : Nat) (ys : List UInt8), k ≤ s.size ∧ t ≤ 30 * k ∧ p < 128 ∧ Hid (p < 2 ^ (t % 8)) ∧ vi = .int .i64 k ∧ vt = .int .i64 t ∧ vp = .int .u8 p ∧ Hid (ys.take (t / 8) ++ packF (bitsT (s.data.toList.drop k)) p (t % 8) = R) ∧ Hid (ys.length = R.length) ∧ Hid (wr.ownsRow w3.heap.size 5 1 (.slice (some ⟨w3.heap.size, 0, none⟩) R.length R.length) R.length (bvs ys)) ∧ Below w3.heap.size w3 wr) (fun _ _ i _ => s.size - (intOf i).toNat)
  case atStart => exact ⟨0, 0, 0, ys0, by omega, by omega, by omega, Lib.hid (by decide), rfl, rfl, rfl, Lib.hid (by simpa using HR.out), hY0, Hown, hb4⟩
  case round =>
    clear Hown hY0
    obtain ⟨k, t, p, ys, hk, ht, hp, HP, rfl, rfl, rfl, HF, HY, HO, hbel⟩ := hrel
    by_cases hlt : k < s.size
    · have hbd := byte_bd s k hlt
      have hcell1 := I1.out.below hbel s[k].toNat (by omega)
      have hll := len_all s[k].toNat (by omega)
      have hcc := code_all s[k].toNat (by omega)
      have I2k : Hid (∀ v, Below w3.heap.size w3 v → v.cell? ⟨gc, s[k].toNat, none⟩ = some (.int .u32 (code s[k].toNat))) := Lib.hid (fun v hv => I2.out.below hv s[k].toNat (by omega))
      have HF1 : Hid (ys.take (t / 8) ++ packF (bitsN (code s[k].toNat) (len s[k].toNat) ++ bitsT (s.data.toList.drop (k + 1))) p (t % 8) = R) := Lib.hid (by
        have h := HF.out
        rw [drop_cons s k hlt, bitsT_cons, cb] at h
        exact h)
      have hi257 : (s[k].toNat : Int) < 257 := by omega
      have hc30 := hcc.2
      clear HF hcc
      generalize len s[k].toNat = L at *
      generalize code s[k].toNat = C at *
      go_wp2_with fail
      obtain ⟨wo, hwo⟩ : ∃ wo : World, wo = wr := ⟨_, rfl⟩
      subst hwo
      go_loopw [6, 7, 9] (fun vt vp vj wx => ∃ (j t p : Nat) (ys : List UInt8), j ≤ L ∧ t + j ≤ 30 * k + L ∧ p < 128 ∧ Hid (p < 2 ^ (t % 8)) ∧ vj = .int .i64 ((j : Int) - 1) ∧ vt = .int .i64 t ∧ vp = .int .u8 p ∧ Hid (ys.take (t / 8) ++ packF (bitsN C j ++ bitsT (s.data.toList.drop (k + 1))) p (t % 8) = R) ∧ Hid (ys.length = R.length) ∧ Hid (wx.ownsRow w3.heap.size 5 1 (.slice (some ⟨w3.heap.size, 0, none⟩) R.length R.length) R.length (bvs ys)) ∧ Below w3.heap.size w3 wx) (fun _ _ j _ => (intOf j + 1).toNat)
      case atStart => exact ⟨L, t, p, ys, by omega, by omega, hp, HP, rfl, rfl, rfl, HF1, HY, HO, hbel⟩
      case round =>
        clear HF1 HY HO HP
        obtain ⟨j, t, p, ys, hj, ht, hp, HP, rfl, rfl, rfl, HF2, HY, HO, hbel1⟩ := hrel
        by_cases hj0 : j = 0
        · subst hj0
          have hneg : ¬ (0 : Int) ≤ ((0 : Nat) : Int) - 1 := by omega
          go_wp2_with fail
          go_roundw
          case rel => exact ⟨k + 1, t, p, ys, by omega, by omega, hp, HP, by go_num, rfl, rfl, Lib.hid (by simpa [bitsN] using HF2.out), HY, HO, hbel1⟩
          case measure => first | (simp [intOf]; done) | (simp [intOf]; omega)
        · obtain ⟨i, rfl⟩ : ∃ i, j = i + 1 := ⟨j - 1, by omega⟩
          have hcell2 := I2k.out wr hbel1
          have hbit := and_bit32 C i (by omega)
          have hB2 : bN (C.testBit i) < 2 := by have := bN_le (C.testBit i); omega
          have HF3 : Hid (ys.take (t / 8) ++ packF (C.testBit i :: (bitsN C i ++ bitsT (s.data.toList.drop (k + 1)))) p (t % 8) = R) := Lib.hid (by
            have h := HF2.out
            rw [bitsN_succ, List.cons_append] at h
            exact h)
          clear HF2 hj0
          have hi0 : (0 : Int) ≤ i := by omega
          have hi1 : (i : Int) < 64 := by omega
          have hp0 : (0 : Int) ≤ p := by omega
          by_cases h7 : t % 8 = 7
          · have HF4 : Hid (ys.take (t / 8) ++ UInt8.ofNat (2 * p + bN (C.testBit i)) :: packF (bitsN C i ++ bitsT (s.data.toList.drop (k + 1))) 0 ((t + 1) % 8) = R) := Lib.hid (by
              have h := HF3.out
              rw [pack_whole _ _ _ _ h7] at h
              exact h)
            have hroom : t / 8 < R.length := by have := room ys R _ (t / 8) HF4.out HY.out (by simp); have := HY.out; omega
            clear HF3
            generalize bN (C.testBit i) = B at *
            have h8 : (((t : Int) + 1) % 8 == 0) = true := by simp; omega
            have hq : ((t : Int) + 1) / 8 - 1 = ((t / 8 : Nat) : Int) := by omega
            have hT : Hid ((t + 1) / 8 = t / 8 + 1) := Lib.hid (by omega)
            generalize t / 8 = q at *
            have hqr : (q : Int) < R.length := by omega
            have hq0 : (0 : Int) ≤ q := by omega
            have hcq : ∃ x, wr.cell? ⟨w3.heap.size, q, none⟩ = some x := ⟨_, (HO.out.cellAt q (by omega)).trans (bvs_at ys q (by rw [HY.out]; exact hroom))⟩
            obtain ⟨x, hcq⟩ := hcq
            have hfz := HO.out.frozenAt q
            have hv : Hid ((p : Int) * 2 + B = ((UInt8.ofNat (2 * p + B)).toNat : Int)) := Lib.hid (by rw [UInt8.toNat_ofNat', Nat.mod_eq_of_lt (by omega)]; omega)
            have HO2 := Lib.hid (HO.out.stored q (.int .u8 ((UInt8.ofNat (2 * p + B)).toNat : Int))).1
            have H7 := Lib.hid h7
            clear h7
            go_wp2_with fail
            go_roundw
            case rel =>
              rw [hv.out]
              refine ⟨i, t + 1, 0, ys.set q (UInt8.ofNat (2 * p + B)), by omega, by omega, by omega, Lib.hid (Nat.two_pow_pos _), rfl, by go_num, rfl, Lib.hid ?_, Lib.hid (by rw [List.length_set]; exact HY.out), Lib.hid (by rw [← bvs_set]; exact HO2.out), hbel1.setCell (Nat.le_refl _) _⟩
              rw [hT.out, take_set_snoc _ _ _ (by rw [HY.out]; exact hroom), List.append_assoc]
              exact HF4.out
            case measure => first | (simp [intOf]; done) | (simp [intOf]; omega)
          · have HF4 : Hid (ys.take ((t + 1) / 8) ++ packF (bitsN C i ++ bitsT (s.data.toList.drop (k + 1))) (2 * p + bN (C.testBit i)) ((t + 1) % 8) = R) := Lib.hid (by
              have h := HF3.out
              rw [pack_more _ _ _ _ h7] at h
              rw [show (t + 1) / 8 = t / 8 from by omega]
              exact h)
            have hnl := next_low p _ t hB2 h7 HP.out
            have HP2 := Lib.hid hnl.1
            have hp2 := hnl.2
            clear HF3 hnl
            generalize bN (C.testBit i) = B at *
            have h8 : (((t : Int) + 1) % 8 == 0) = false := by simp; omega
            clear h7
            go_wp2_with fail
            go_roundw
            case rel => exact ⟨i, t + 1, 2 * p + B, ys, by omega, by omega, hp2, HP2, rfl, by go_num, by go_num, HF4, HY, HO, hbel1⟩
            case measure => first | (simp [intOf]; done) | (simp [intOf]; omega)
    · have HF1 : Hid (ys.take (t / 8) ++ packF [] p (t % 8) = R) := Lib.hid (by
        have h := HF.out
        rw [drop_end s k (by omega)] at h
        exact h)
      clear HF
      go_wp2_with fail
      go_loopw [6, 7] (fun vt vp wx => ∃ (t p : Nat) (ys : List UInt8), t ≤ 240 * s.size + 64 ∧ p < 256 ∧ Hid (¬ t % 8 = 0 → p < 2 ^ (t % 8)) ∧ vt = .int .i64 t ∧ vp = .int .u8 p ∧ Hid (ys.take (t / 8) ++ packF [] p (t % 8) = R) ∧ Hid (ys.length = R.length) ∧ Hid (wx.ownsRow w3.heap.size 5 1 (.slice (some ⟨w3.heap.size, 0, none⟩) R.length R.length) R.length (bvs ys)) ∧ Below w3.heap.size w3 wx) (fun vt _ _ => 8 * R.length - (intOf vt).toNat)
      case atStart => exact ⟨t, p, ys, by omega, by omega, Lib.hid (fun _ => HP.out), rfl, rfl, HF1, HY, HO, hbel⟩
      case round =>
        clear HF1 HY HO HP
        obtain ⟨t, p, ys, ht, hp, HP, rfl, rfl, HF2, HY, HO, hbel1⟩ := hrel
        by_cases h0 : t % 8 = 0
        · have h0' : ((t : Int) % 8 != 0) = false := by simp; omega
          have hfin : ys = R := by
            have h := HF2.out
            rw [packF, if_pos h0, List.append_nil] at h
            have hl := congrArg List.length h
            rw [List.length_take] at hl
            have := HY.out
            rw [List.take_of_length_le (by omega)] at h
            exact h
          have HFin := Lib.hid hfin
          clear h0 hfin HF2
          go_wp2_with fail
          go_ret
          refine ⟨_, _, rfl, ?_, Lib.hid (fun h => by cases h), below_step b3 hbel1⟩
          have h := HO.out
          rw [HFin.out] at h
          exact RB.of_own h
        · have h0' : ((t : Int) % 8 != 0) = true := by simp; omega
          have hp128 : p < 128 := by
            have h1 := HP.out h0
            have h2 := low_pow (t % 8) (by omega)
            omega
          have hp0 : (0 : Int) ≤ p := by omega
          have hrm : t / 8 < ys.length ∧ t / 8 + 1 = R.length := by
            have hr := room ys R _ (t / 8) HF2.out HY.out (by rw [packF, if_neg h0]; simp)
            have hl := congrArg List.length HF2.out
            rw [List.length_append, List.length_take, packF, if_neg h0] at hl
            simp only [List.length_cons, List.length_nil] at hl
            omega
          by_cases h7 : t % 8 = 7
          · have HF4 : Hid (ys.take (t / 8) ++ [UInt8.ofNat (2 * p + 1)] = R) := Lib.hid (by
              have h := HF2.out
              rw [pad_whole _ _ h7] at h
              exact h)
            have hroom : t / 8 < R.length := by have := HY.out; omega
            have hmeas : t < 8 * R.length := by omega
            have hbnd : t + 1 ≤ 240 * s.size + 64 := by omega
            clear HF2 hrm
            have h8 : (((t : Int) + 1) % 8 == 0) = true := by simp; omega
            have hq : ((t : Int) + 1) / 8 - 1 = ((t / 8 : Nat) : Int) := by omega
            have hT : Hid ((t + 1) / 8 = t / 8 + 1 ∧ (t + 1) % 8 = 0) := Lib.hid (by omega)
            generalize t / 8 = q at *
            have hqr : (q : Int) < R.length := by omega
            have hq0 : (0 : Int) ≤ q := by omega
            have hcq : ∃ x, wr.cell? ⟨w3.heap.size, q, none⟩ = some x := ⟨_, (HO.out.cellAt q (by omega)).trans (bvs_at ys q (by rw [HY.out]; exact hroom))⟩
            obtain ⟨x, hcq⟩ := hcq
            have hfz := HO.out.frozenAt q
            have hv : Hid ((p : Int) * 2 + 1 = ((UInt8.ofNat (2 * p + 1)).toNat : Int)) := Lib.hid (by rw [UInt8.toNat_ofNat', Nat.mod_eq_of_lt (by omega)]; omega)
            have HO2 := Lib.hid (HO.out.stored q (.int .u8 ((UInt8.ofNat (2 * p + 1)).toNat : Int))).1
            have H7 := Lib.hid h7
            clear h7 h0
            go_wp2_with fail
            go_roundw
            case rel =>
              rw [hv.out]
              refine ⟨t + 1, 2 * p + 1, ys.set q (UInt8.ofNat (2 * p + 1)), hbnd, by omega, Lib.hid (fun h => absurd hT.out.2 h), by go_num, by rw [← hv.out]; go_num, Lib.hid ?_, Lib.hid (by rw [List.length_set]; exact HY.out), Lib.hid (by rw [← bvs_set]; exact HO2.out), hbel1.setCell (Nat.le_refl _) _⟩
              rw [hT.out.1, hT.out.2, take_set_snoc _ _ _ (by rw [HY.out]; exact hroom), packF, if_pos rfl, List.append_nil]
              exact HF4.out
            case measure => first | (simp [intOf]; done) | (simp [intOf]; omega)
          · have HF4 : Hid (ys.take ((t + 1) / 8) ++ packF [] (2 * p + 1) ((t + 1) % 8) = R) := Lib.hid (by
              have h := HF2.out
              rw [pad_more _ _ h0 h7] at h
              rw [show (t + 1) / 8 = t / 8 from by omega]
              exact h)
            have hnl := next_low p 1 t (by omega) h7 (HP.out h0)
            have HP2 : Hid (¬ (t + 1) % 8 = 0 → 2 * p + 1 < 2 ^ ((t + 1) % 8)) := Lib.hid (fun _ => hnl.1)
            have hp2 := hnl.2
            have hmeas : t < 8 * R.length := by have := hrm.2; omega
            have hbnd : t + 1 ≤ 240 * s.size + 64 := by omega
            clear HF2 hnl hrm
            have h8 : (((t : Int) + 1) % 8 == 0) = false := by simp; omega
            clear h7 h0
            go_wp2_with fail
            go_roundw
            case rel => exact ⟨t + 1, 2 * p + 1, ys, hbnd, by omega, HP2, by go_num, by go_num, HF4, HY, HO, hbel1⟩
            case measure => first | (simp [intOf]; done) | (simp [intOf]; omega)
end Go.Proofs.YtdkgachgohilcaaDoor
