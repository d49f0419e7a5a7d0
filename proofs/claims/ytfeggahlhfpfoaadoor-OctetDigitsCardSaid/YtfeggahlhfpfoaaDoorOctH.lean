/- strconv.FormatInt at base sixteen. -/
import Derived.Test.YtfeggahlhfpfoaaDoorRows
import Derived.Test.YtfeggahlhfpfoaaDoorOctPure
import Derived.Test.YtfeggahlhfpfoaaDoorMem
import Derived.Test.YtfeggahlhfpfoaaDoorOct1
import Derived.Test.YtfeggahlhfpfoaaDoorShelf
import Derived.Test.YtfeggahlhfpfoaaDoorLaid
import Derived.WalkKit
import Derived.WalkSpells
import Derived.WalkLawsBesides
import Derived.Lib.Hide
namespace Go.Proofs.YtfeggahlhfpfoaaDoor
open Go.RowKit
open Oct Mem

set_option maxHeartbeats 400000 in
theorem pow2_16 (w : World) :
    Calls Tryd.prog 23 #[.int .i64 16] w fun e w' => e = .returned (.bool true) ∧ w = w' := by
  have h : bits .and .i64 16 15 = 0 := by decide +kernel
  go_enter Tryd.func23, Tryd.ntmps23
  go_wp2_with fail
  go_ret
  exact ⟨rfl, rfl⟩

set_option maxHeartbeats 400000 in
theorem tz64_16 (w : World) (hc : w.cell? ⟨2, 15, none⟩ = some (.int .u8 4)) :
    Calls Tryd.prog 26 #[.int .u64 16] w fun e w' => e = .returned (.int .i64 4) ∧ w = w' := by
  have h : IntKind.u64.wrap (bits BinOp.and IntKind.u64 16 (IntKind.u64.wrap (-16)) * 285870213051353865) / 288230376151711744 = 15 := by decide +kernel
  go_enter Tryd.func26, Tryd.ntmps26
  go_wp2_with fail
  go_ret
  exact ⟨rfl, rfl⟩

set_option maxHeartbeats 400000 in
theorem tz_16 (w : World) (hc : w.cell? ⟨2, 15, none⟩ = some (.int .u8 4)) :
    Calls Tryd.prog 24 #[.int .u64 16] w fun e w' => e = .returned (.int .i64 4) ∧ w = w' := by
  go_enter Tryd.func24, Tryd.ntmps24
  go_wp2_with (go_at_call 26; refine (tz64_16 _ hc).mono ?_; rintro e w' ⟨rfl, rfl⟩)
  go_ret
  exact ⟨rfl, rfl⟩

def zeros65 : Array Value := (bvs (List.replicate 65 0)).toArray
theorem zero65 (W : World) : Sem.run Tryd.prog (zeroValue 46) W = .ok (.agg zeros65) W := by kernel_rfl

/-- A block that holds an array of bytes. -/
def ArrB (w : World) (g : Nat) (ys : List UInt8) : Prop := w.heap[g]? = some (.cells (bvs ys).toArray 46 (0, 0))
theorem ArrB.cell {w : World} {g : Nat} {ys : List UInt8} (h : ArrB w g ys) (i : Nat) (hi : i < ys.length) : w.cell? ⟨g, i, none⟩ = some (.int .u8 (ys[i].toNat : Int)) := by
  rw [cell_of_row w g i _ _ (0, 0) h]
  have := bvs_at ys i hi
  simpa using this
theorem ArrB.frozen {w : World} {g : Nat} {ys : List UInt8} (h : ArrB w g ys) (i : Nat) : w.frozen? ⟨g, i, none⟩ = false := frozen_of_row w g i _ _ h
theorem ArrB.store {w : World} {g : Nat} {ys : List UInt8} (h : ArrB w g ys) (i : Nat) (c : UInt8) : ArrB (w.setCell ⟨g, i, none⟩ (.int .u8 (c.toNat : Int))) g (ys.set i c) := by
  unfold ArrB
  rw [heap_setCell_same w g i _ _ _ h]
  congr 2
  apply Array.ext'
  rw [Array.toList_setIfInBounds, ← bvs_set]

def hexU (d : Nat) : UInt8 := if d < 10 then UInt8.ofNat (48 + d) else UInt8.ofNat (87 + d)
/-- A number's digits of base sixteen, ahead of some bytes. -/
def hexT : Nat → Nat → List UInt8 → List UInt8
  | 0, _, acc => acc
  | f + 1, u, acc => if u < 16 then hexU u :: acc else hexT f (u / 16) (hexU (u % 16) :: acc)

theorem dig_at : ∀ d, (h : d < 16) → (ByteArray.mk #[48, 49, 50, 51, 52, 53, 54, 55, 56, 57, 97, 98, 99, 100, 101, 102, 103, 104, 105, 106, 107, 108, 109, 110, 111, 112, 113, 114, 115, 116, 117, 118, 119, 120, 121, 122])[d]'(by show d < 36; omega) = hexU d := by decide +kernel
theorem and15 (v : Nat) (h : v < 9223372036854775808) : bits .and .u64 (v : Int) 15 = ((v % 16 : Nat) : Int) := by
  rw [u64_and _ _ (by omega) (by omega) (by omega) (by omega)]
  congr 1
  exact Nat.and_two_pow_sub_one_eq_mod v 4
theorem hexT_step (f v : Nat) (acc : List UInt8) (h : 16 ≤ v) : hexT (f + 1) v acc = hexT f (v / 16) (hexU (v % 16) :: acc) := by rw [hexT, if_neg (by omega)]
theorem hexT_end (f v : Nat) (acc : List UInt8) (h : v < 16) : hexT (f + 1) v acc = hexU v :: acc := by rw [hexT, if_pos h]

theorem slice65 (W : World) (g k : Nat) (i : Int) (hi : i = (k : Int)) (hk : k < 65) :
    (Instr.sliceAt 46 (.pointer (some ⟨g, 0, none⟩)) (some (.int .i64 i)) none none).run Tryd.prog W = .ok (.slice (some ⟨g, k, none⟩) (65 - k) (65 - k)) W := by
  subst hi
  have hal : Tryd.prog.arrayLen 46 = 65 := by kernel_rfl
  have hel : Tryd.prog.elem 46 = 5 := by kernel_rfl
  rw [run_sliceAt_array_l W 46 ⟨g, 0, none⟩ (by rw [hal, hel]; exact Tryd.underlying46) .i64 k (by omega) (by rw [hal]; omega), hel, hal]
  have hz : Sem.run Tryd.prog (sizeOf 5) W = .ok 1 W := by kernel_rfl
  rw [hz]
  simp only [Result.andThen, slicedAt, Int.toNat_natCast]
  simp [Addr.add]
  split
  · omega
  · split <;> simp_all

set_option maxHeartbeats 1000000 in
theorem bits16 (u : Nat) (hu : u < 9223372036854775808) (w : World) (hc : w.cell? ⟨2, 15, none⟩ = some (.int .u8 4)) :
    Calls Tryd.prog 19 #[.slice none 0 0, .int .u64 u, .int .i64 16, .bool false, .bool false] w fun e w' => e = .returned (.tuple #[.slice none 0 0, .string ⟨(hexT 16 u []).toArray⟩]) ∧ Below w.heap.size w w' := by
  have hz := zero65
  have hc' : ∀ o, (w.alloc o).cell? ⟨2, 15, none⟩ = some (.int .u8 4) := fun o => below_cell ((Below.refl _ _).alloc (Nat.le_refl _) _) hc
  have HC := Lib.hid hc'
  clear hc'
  go_enter Tryd.func19, Tryd.ntmps19
  go_wp2_with (first | (go_at_call 23; refine (pow2_16 _).mono ?_; rintro e w' ⟨rfl, rfl⟩) | (go_at_call 24; refine (tz_16 _ (HC.out _)).mono ?_; rintro e w' ⟨rfl, rfl⟩))
  have hpow : u < 16 ^ 16 := by omega
  go_loopw [1, 13] (fun vu vi wr => ∃ (v f : Nat) (ys : List UInt8), vu = .int .u64 v ∧ vi = .int .i64 ((49 + f : Nat) : Int) ∧ 1 ≤ f ∧ f ≤ 16 ∧ v < 9223372036854775808 ∧ Hid (v < 16 ^ f) ∧ Hid (ys.length = 65) ∧ Hid (ArrB wr w.heap.size ys) ∧ Hid (hexT f v (ys.drop (49 + f)) = hexT 16 u []) ∧ Below w.heap.size w wr) (fun vu _ _ => (intOf vu).toNat)
  case atStart =>
    refine ⟨u, 16, List.replicate 65 0, rfl, rfl, by omega, by omega, hu, Lib.hid hpow, Lib.hid (by simp), Lib.hid ?_, Lib.hid (by simp), (Below.refl _ _).alloc (Nat.le_refl _) _⟩
    unfold ArrB zeros65
    exact heap_alloc_new w _
  case round =>
    obtain ⟨v, f, ys, rfl, rfl, hf1, hf16, hv, HP, HL, HA, HX, hbel⟩ := hrel
    have hcell : ∃ q, wr.cell? ⟨w.heap.size, 48 + f, none⟩ = some q := ⟨_, HA.out.cell (48 + f) (by rw [HL.out]; omega)⟩
    obtain ⟨q, hcell⟩ := hcell
    have hfz := HA.out.frozen (48 + f)
    by_cases h16 : 16 ≤ v
    · have hand := and15 v hv
      have hf2 : 2 ≤ f := by
        have hp := HP.out
        rcases Nat.lt_or_ge f 2 with h | h
        · have : f = 1 := by omega
          subst this
          omega
        · exact h
      have HX' : Hid (hexT (f - 1) (v / 16) (hexU (v % 16) :: ys.drop (49 + f)) = hexT 16 u []) := Lib.hid (by
        rw [← HX.out]
        conv => rhs; rw [show f = (f - 1) + 1 from by omega]
        rw [hexT_step _ _ _ h16, show f - 1 + 1 = f from by omega])
      have HP' : Hid (v / 16 < 16 ^ (f - 1)) := Lib.hid (by
        have hp := HP.out
        rw [show f = (f - 1) + 1 from by omega, Nat.pow_succ] at hp
        exact Nat.div_lt_of_lt_mul (by omega))
      clear HX HP
      go_wp2_with fail
      go_roundw
      case rel =>
        have hd := dig_at (v % 16) (by omega)
        rw [hd]
        refine ⟨v / 16, f - 1, ys.set (48 + f) (hexU (v % 16)), by go_num, by go_num, by omega, by omega, by omega, HP', Lib.hid (by rw [List.length_set]; exact HL.out), Lib.hid (HA.out.store _ _), Lib.hid ?_, hbel.setCell (Nat.le_refl _) _⟩
        have hl := HL.out
        rw [show 49 + (f - 1) = 48 + f from by omega, drop_set_here _ _ _ (by omega), ← HX'.out, show 48 + f + 1 = 49 + f from by omega]
      case measure => simp [intOf]; omega
    · have hs65 := fun W => slice65 W w.heap.size (48 + f) (49 + (f : Int) - 1) (by omega) (by omega)
      have hdig := dig_at v (by omega)
      have hst := HA.out.store (48 + f) (hexU v)
      have hl : (ys.set (48 + f) (hexU v)).length = 65 := by rw [List.length_set]; exact HL.out
      have hrb : RB (wr.setCell ⟨w.heap.size, 48 + f, none⟩ (.int .u8 ((hexU v).toNat : Int))) (some ⟨w.heap.size, 48 + f, none⟩) (hexT 16 u []) := by
        have hx : (ys.set (48 + f) (hexU v)).drop (48 + f) = hexT 16 u [] := by
          rw [drop_set_here _ _ _ (by rw [HL.out]; omega), ← HX.out, show f = (f - 1) + 1 from by omega, hexT_end _ _ _ (by omega)]
          rw [show 48 + (f - 1 + 1) + 1 = 49 + (f - 1 + 1) from by omega]
        rw [← hx]
        refine Or.inr ⟨w.heap.size, 48 + f, rfl, fun i hi => ?_⟩
        rw [List.length_drop] at hi
        rw [hst.cell (48 + f + i) (by omega), List.getElem_drop]
      have hlen : (hexT 16 u []).length = 65 - (48 + f) := by
        have := congrArg List.length HX.out
        rw [show f = (f - 1) + 1 from by omega, hexT_end _ _ _ (by omega), List.length_cons, List.length_drop, HL.out] at this
        omega
      have hconv := hrb.conv (cap := 65 - (48 + f)) (src := 30) (dst := 9) Tryd.underlying30 Tryd.underlying5 Tryd.underlying9
      rw [hlen] at hconv
      clear hlen hrb hl hst
      go_wp2_with fail
      go_ret2
      exact ⟨rfl, hbel.setCell (Nat.le_refl _) _⟩

set_option maxHeartbeats 400000 in
theorem fmt16i (n : Nat) (hn : n < 9223372036854775808) (w : World) (hc : w.cell? ⟨2, 15, none⟩ = some (.int .u8 4)) :
    Calls Tryd.prog 14 #[.int .i64 n, .int .i64 16] w fun e w' => e = .returned (.string ⟨(hexT 16 n []).toArray⟩) ∧ Below w.heap.size w w' := by
  go_enter Tryd.func14, Tryd.ntmps14
  go_wp2_with (go_at_call 19; refine (bits16 n hn _ hc).mono ?_; rintro e w1 ⟨rfl, hb⟩)
  go_ret
  exact ⟨rfl, hb⟩

set_option maxHeartbeats 400000 in
theorem fmt16 (n : Nat) (hn : n < 9223372036854775808) (w : World) (hc : w.cell? ⟨2, 15, none⟩ = some (.int .u8 4)) :
    Calls Tryd.prog 12 #[.int .i64 n, .int .i64 16] w fun e w' => e = .returned (.string ⟨(hexT 16 n []).toArray⟩) ∧ Below w.heap.size w w' := by
  go_enter Tryd.func12, Tryd.ntmps12
  go_wp2_with (go_at_call 14; refine (fmt16i n hn _ hc).mono ?_; rintro e w1 ⟨rfl, hb⟩)
  go_ret
  exact ⟨rfl, hb⟩

set_option maxHeartbeats 400000 in
theorem hexdigits_yes (n : Nat) (hn : n < 9223372036854775808) (w : World) (hc : w.cell? ⟨2, 15, none⟩ = some (.int .u8 4)) :
    Calls Tryd.prog 6 #[.int .i64 n] w fun e w' => e = .returned (.string ⟨(hexT 16 n []).toArray⟩) ∧ Below w.heap.size w w' := by
  have T : Hid (Calls Tryd.prog 10 #[.int .i64 n, .int .i64 16] w fun e w' => e = .returned (.string ⟨(hexT 16 n []).toArray⟩) ∧ Below w.heap.size w w') := Lib.hid (by
    go_enter Tryd.func10, Tryd.ntmps10
    go_wp2_with (go_at_call 12; refine (fmt16 n hn _ hc).mono ?_; rintro e w1 ⟨rfl, hb⟩)
    go_ret
    exact ⟨rfl, hb⟩)
  go_enter Tryd.func6, Tryd.ntmps6
  go_wp2_with fail
  refine T.out.mono ?_; rintro e w1 ⟨rfl, hb⟩
  go_wp2_with fail
  go_ret
  exact ⟨rfl, hb⟩

set_option maxHeartbeats 400000 in
theorem digits_yes (n : Nat) (hn : n < 9223372036854775808) (w : World) (ht : Lib.TabIs Tryd.prog w "internal/strconv.uint64pow10" .u64 Lib.pow10Tab) :
    Calls Tryd.prog 5 #[.int .i64 n] w fun e w' => e = .returned (.string ⟨(Lib.decDigits n).toArray⟩) ∧ Below w.heap.size w w' := by
  have hs := Tryd.strconv_FormatInt_10 n (by omega) (by omega) w ht
  rw [show Lib.itoa (n : Int) = Lib.decDigits n from by rw [Lib.itoa, if_neg (by omega), Int.toNat_natCast]] at hs
  have HS : Hid (Calls Tryd.prog 12 #[.int .i64 n, .int .i64 10] w fun e w' => e = .returned (.string ⟨(Lib.decDigits n).toArray⟩) ∧ Below w.heap.size w w') := Lib.hid (hs.mono fun e w' ⟨he, k, os, hw⟩ => ⟨he, by subst hw; exact ⟨rfl, rfl, rfl, by simp, fun i hi => Go.Sort.heap_grow_old (w.drewN k) os hi⟩⟩)
  clear hs ht
  have T : Hid (Calls Tryd.prog 10 #[.int .i64 n, .int .i64 10] w fun e w' => e = .returned (.string ⟨(Lib.decDigits n).toArray⟩) ∧ Below w.heap.size w w') := Lib.hid (by
    go_enter Tryd.func10, Tryd.ntmps10
    go_wp2_with fail
    refine HS.out.mono ?_; rintro e w1 ⟨rfl, hb⟩
    go_wp2_with fail
    go_ret
    exact ⟨rfl, hb⟩)
  go_enter Tryd.func5, Tryd.ntmps5
  go_wp2_with fail
  refine T.out.mono ?_; rintro e w1 ⟨rfl, hb⟩
  go_wp2_with fail
  go_ret
  exact ⟨rfl, hb⟩
end Go.Proofs.YtfeggahlhfpfoaaDoor
