/- Layer 4: the program's At. Layer 4: the document's Static, Cost, Size. Layer 4: the document's Resize and Add. -/
import Derived.Test.YtdkgachgohilcaaDoorGP08
import Derived.Test.YtdkgachgohilcaaDoorGP11
import Derived.WalkKit
import Derived.WalkSpells
import Derived.WalkLawsBesides
import Derived.Lib.Hide
import Derived.Outline
import Derived.RegionTactic
import Derived.IntWalk
import Derived.Deep.RegionHeld3
import Derived.Test.YtdkgachgohilcaaDoorRows
import Derived.Test.YtdkgachgohilcaaDoorGP05
import Derived.Test.YtdkgachgohilcaaDoorGP02
import Derived.Deep.Cut
import Derived.Test.YtdkgachgohilcaaDoorGP03
import Derived.Deep.RegionLaw
import Derived.Deep.LoopGhost
set_option linter.unusedVariables false
set_option linter.unusedSimpArgs false
namespace Go.Proofs.YtdkgachgohilcaaDoor
open Go.RowKit
open Arg Tab Mem Go.Proofs.YtdkgachgohilcaaDoor.Obj
set_option linter.unusedVariables false
set_option maxRecDepth 100000

/-- The result's cell. -/
theorem set3 {w : World} {g : Nat} {a b c x y z : Value} {t : TypeId} (h : w.heap[g]? = some (.cells #[a, b, c] t (0, 0))) :
    (((w.setCell ⟨g, 0, none⟩ x).setCell ⟨g, 1, none⟩ y).setCell ⟨g, 2, none⟩ z).heap[g]? = some (.cells #[x, y, z] t (0, 0)) :=
  heap_setCell_same _ g 2 _ t z (heap_setCell_same _ g 1 _ t y (heap_setCell_same w g 0 _ t x h))

set_option maxHeartbeats 2000000 in
theorem pat_low (p : Option Addr) (n : Int) (w : World) (h0 : n < 1) :
    Calls Tryd.prog 59 #[.pointer p, .int .i64 n] w fun e w' => e = .returned (.tuple #[.agg #[.string ⟨#[]⟩, .string ⟨#[]⟩, .bool false], .int .i64 40]) ∧ Below w.heap.size w w' := by
  go_enter Tryd.func59, Tryd.ntmps59
  go_wp2_with fail
  have hh := heap_alloc_new w (.cells #[.string ⟨#[]⟩, .string ⟨#[]⟩, .bool false] 59)
  have HB : Below w.heap.size w (w.alloc (.cells #[.string ⟨#[]⟩, .string ⟨#[]⟩, .bool false] 59)) := (Below.refl _ _).alloc (Nat.le_refl _) _
  generalize (w.alloc (.cells #[.string ⟨#[]⟩, .string ⟨#[]⟩, .bool false] 59)) = w2 at hh HB ⊢
  have s0 := cell_at hh 0
  have s1 := cell_at hh 1
  have s2 := cell_at hh 2
  clear hh
  exact bodyPost_ret (v := .tuple #[.agg #[.string ⟨#[]⟩, .string ⟨#[]⟩, .bool false], .int .i64 40]) (by simp [results, Tryd.results59, go_sem, s0, s1, s2]) rfl ⟨rfl, HB⟩

set_option maxHeartbeats 2000000 in
theorem pat_high (p : Option Addr) (n len : Nat) (w : World) (HLen : Hid (∀ v, Below w.heap.size w v → Calls Tryd.prog 29 #[.pointer p] v fun e w' => e = .returned (.int .i64 len) ∧ Below v.heap.size v w')) (hl : len ≤ 100000) (h1 : 1 ≤ n) (hn : n ≤ 9223372036854775807) (hgt : 61 + len < n) :
    Calls Tryd.prog 59 #[.pointer p, .int .i64 n] w fun e w' => e = .returned (.tuple #[.agg #[.string ⟨#[]⟩, .string ⟨#[]⟩, .bool false], .int .i64 40]) ∧ Below w.heap.size w w' := by
  have h1' : decide ((n : Int) < 1) = false := by simp; omega
  have h2' : (61 : Int) + len < n := by omega
  go_enter Tryd.func59, Tryd.ntmps59
  go_wp2_with fail
  refine (HLen.out _ ((Below.refl _ _).alloc (Nat.le_refl _) _)).mono ?_; rintro e w1 ⟨rfl, b1⟩
  have hrc := block_below b1 (heap_alloc_new w (.cells #[.string ⟨#[]⟩, .string ⟨#[]⟩, .bool false] 59))
  have hbw : Below w.heap.size w w1 := below_step ((Below.refl _ _).alloc (Nat.le_refl _) _) b1
  generalize hrn : w.heap.size = rc at hrc ⊢
  have r0 := cell_at hrc 0
  have r1 := cell_at hrc 1
  have r2 := cell_at hrc 2
  have g0 := frozen_of_row _ _ 0 _ _ hrc
  have g1 := frozen_of_row _ _ 1 _ _ hrc
  have g2 := frozen_of_row _ _ 2 _ _ hrc
  have HF3 := Lib.hid (set3 (x := .string ⟨#[]⟩) (y := .string ⟨#[]⟩) (z := .bool false) hrc)
  have HBe := Lib.hid (((hbw.setCell (p := ⟨rc, 0, none⟩) (by rw [hrn]; exact Nat.le_refl _) (.string ⟨#[]⟩)).setCell (p := ⟨rc, 1, none⟩) (by rw [hrn]; exact Nat.le_refl _) (.string ⟨#[]⟩)).setCell (p := ⟨rc, 2, none⟩) (by rw [hrn]; exact Nat.le_refl _) (.bool false))
  clear hrn hrc b1 hbw HLen
  go_wp2_with fail
  have s0 := cell_at HF3.out 0
  have s1 := cell_at HF3.out 1
  have s2 := cell_at HF3.out 2
  clear r0 r1 r2
  exact bodyPost_ret (v := .tuple #[.agg #[.string ⟨#[]⟩, .string ⟨#[]⟩, .bool false], .int .i64 40]) (by simp [results, Tryd.results59, go_sem, s0, s1, s2]) rfl ⟨rfl, HBe.out⟩

set_option maxHeartbeats 2000000 in
theorem pat_fixed (p : Option Addr) (n len : Nat) (w : World) (HLen : Hid (∀ v, Below w.heap.size w v → Calls Tryd.prog 29 #[.pointer p] v fun e w' => e = .returned (.int .i64 len) ∧ Below v.heap.size v w')) (hl : len ≤ 100000) (h1 : 1 ≤ n) (hn : n ≤ 61) (x : FdM) (hx : statics[n - 1]? = some x) :
    Calls Tryd.prog 59 #[.pointer p, .int .i64 n] w fun e w' => e = .returned (.tuple #[.agg #[.string x.name, .string x.value, .bool false], .int .i64 0]) ∧ Below w.heap.size w w' := by
  have h1' : decide ((n : Int) < 1) = false := by simp; omega
  have h2' : decide ((61 : Int) + len < n) = false := by simp; omega
  have h3' : (n : Int) ≤ 61 := by omega
  have hlt : n < fixL.length := by rw [fixL_len]; omega
  have hxn : fixL[n] = x := by
    have h : fixL[n]? = some x := by rw [show n = (n - 1) + 1 by omega]; simpa [fixL] using hx
    exact (List.getElem?_eq_some_iff.1 h).2
  have HIx : Hid (∀ v, (Instr.index 119 (.agg FIX) (.int .i64 n)).run Tryd.prog v = .ok (.agg #[.string x.name, .string x.value]) v) := Lib.hid (fun v => by rw [index_fix n hlt v, hxn])
  have HFx := Lib.hid (fun v => pfixed_any v)
  obtain ⟨xn, xv, xb⟩ := x
  simp only at HIx ⊢
  have HFd := Lib.hid (fun v => pfield_any xn xv v)
  clear hx hxn
  generalize FIX = F at HIx HFx
  have hix := HIx.out
  go_enter Tryd.func59, Tryd.ntmps59
  go_wp2_with fail
  refine (HLen.out _ ((Below.refl _ _).alloc (Nat.le_refl _) _)).mono ?_; rintro e w1 ⟨rfl, b1⟩
  have hrc := block_below b1 (heap_alloc_new w (.cells #[.string ⟨#[]⟩, .string ⟨#[]⟩, .bool false] 59))
  have hbw : Below w.heap.size w w1 := below_step ((Below.refl _ _).alloc (Nat.le_refl _) _) b1
  generalize hrn : w.heap.size = rc at hrc ⊢
  clear b1 HLen
  go_wp2_with fail
  refine (HFx.out _).mono ?_; rintro e w2 ⟨rfl, b2⟩
  go_wp2_with fail
  refine (HFd.out _).mono ?_; rintro e w3 ⟨rfl, b3⟩
  replace hbw := below_step (below_step hbw b2) b3
  replace hrc := block_below b3 (block_below b2 hrc)
  have r0 := cell_at hrc 0
  have r1 := cell_at hrc 1
  have r2 := cell_at hrc 2
  have g0 := frozen_of_row _ _ 0 _ _ hrc
  have g1 := frozen_of_row _ _ 1 _ _ hrc
  have g2 := frozen_of_row _ _ 2 _ _ hrc
  have HF3 := Lib.hid (set3 (x := .string xn) (y := .string xv) (z := .bool false) hrc)
  have HBe := Lib.hid (((hbw.setCell (p := ⟨rc, 0, none⟩) (by rw [hrn]; exact Nat.le_refl _) (.string xn)).setCell (p := ⟨rc, 1, none⟩) (by rw [hrn]; exact Nat.le_refl _) (.string xv)).setCell (p := ⟨rc, 2, none⟩) (by rw [hrn]; exact Nat.le_refl _) (.bool false))
  clear hrn hrc b2 b3 hbw HFx HFd HIx hix
  go_wp2_with fail
  have s0 := cell_at HF3.out 0
  have s1 := cell_at HF3.out 1
  have s2 := cell_at HF3.out 2
  clear r0 r1 r2
  exact bodyPost_ret (v := .tuple #[.agg #[.string xn, .string xv, .bool false], .int .i64 0]) (by simp [results, Tryd.results59, go_sem, s0, s1, s2]) rfl ⟨rfl, HBe.out⟩

set_option maxHeartbeats 2000000 in
theorem pat_rows (L : List Nat) (g m c n : Nat) (rows : List FdM) (w : World) (h : PTab w L g m rows c) (h1 : 62 ≤ n) (hn : n - 62 < rows.length) :
    Calls Tryd.prog 59 #[.pointer (some ⟨g, 0, none⟩), .int .i64 n] w fun e w' => e = .returned (.tuple #[.agg #[.string rows[n - 62].name, .string rows[n - 62].value, .bool false], .int .i64 0]) ∧ Below w.heap.size w w' := by
  have hsum := h.sum
  have h32 := csum_len rows
  have HLen : Hid (∀ v, Below w.heap.size w v → Calls Tryd.prog 29 #[.pointer (some ⟨g, 0, none⟩)] v fun e w' => e = .returned (.int .i64 rows.length) ∧ Below v.heap.size v w') := Lib.hid (fun v hv => plen_any L g m c rows v (h.below hv))
  obtain ⟨⟨c0, ad, cap, bk1, bk2, n1, n2, ⟨_, hh, hq, _⟩, _⟩, _⟩ := h
  have hle := hq.le
  have hmx := hq.max
  simp only [List.length_reverse] at hle
  obtain ⟨bl, off, rfl, hc⟩ : ∃ b off, ad = some ⟨b, off, none⟩ ∧ ∀ i, (h : i < rows.reverse.length) → Rw.CE EPr w b (off + i * 2) rows.reverse[i] := by
    cases ad with
    | none => have := hq.nil rfl; omega
    | some a => obtain ⟨b, off, rfl, h1, h2, h3⟩ := hq.lies a rfl; exact ⟨b, off, rfl, h2⟩
  have hi : 61 + rows.length - n < rows.reverse.length := by simp; omega
  obtain ⟨d0, d1⟩ := CE_pr (hc _ hi)
  have hget : rows.reverse[61 + rows.length - n] = rows[n - 62] := by
    rw [List.getElem_reverse]
    congr 1
    omega
  rw [hget] at d0 d1
  generalize rows[n - 62] = x at d0 d1 ⊢
  obtain ⟨xn, xv, xb⟩ := x
  simp only at d0 d1 ⊢
  have HFd := Lib.hid (fun v => pfield_any xn xv v)
  have HH := Lib.hid hh
  have HD0 := Lib.hid d0
  have HD1 := Lib.hid d1
  have h1' : decide ((n : Int) < 1) = false := by simp; omega
  have h2' : decide ((61 : Int) + rows.length < n) = false := by simp; omega
  have h3' : decide ((n : Int) ≤ 61) = false := by simp; omega
  have hw1 : IntKind.i64.wrap ((61 : Int) + rows.length) = (61 : Int) + rows.length := IntWalk.i64_in _ (by omega)
  have hw2 : IntKind.i64.wrap ((61 : Int) + rows.length - n) = (61 : Int) + rows.length - n := IntWalk.i64_in _ (by omega)
  have hi0 : (0 : Int) ≤ (61 : Int) + rows.length - n := by omega
  have hi1 : (61 : Int) + rows.length - n < rows.length := by omega
  have hi2 : ((61 : Int) + rows.length - n).toNat = 61 + rows.length - n := by omega
  have hi3 : (n : Int) ≤ (61 : Int) + rows.length := by omega
  have hi4 : (61 : Int) + rows.length < rows.length + n := by omega
  have hi5 : (61 : Int) < n := by omega
  have hi6 : (61 : Int) + rows.length - n + 1 ≤ rows.length := by omega
  clear hq hh hc hget d0 d1
  generalize rows.length = nr at *
  go_enter Tryd.func59, Tryd.ntmps59
  go_wp2_with fail
  refine (HLen.out _ ((Below.refl _ _).alloc (Nat.le_refl _) _)).mono ?_; rintro e w1 ⟨rfl, b1⟩
  have hrc := block_below b1 (heap_alloc_new w (.cells #[.string ⟨#[]⟩, .string ⟨#[]⟩, .bool false] 59))
  have hbw : Below w.heap.size w w1 := below_step ((Below.refl _ _).alloc (Nat.le_refl _) _) b1
  generalize hrn : w.heap.size = rc at hrc ⊢
  clear b1 HLen
  have k2 := cell_at (block_below hbw HH.out) 2
  have d0 := below_cell hbw HD0.out
  have d1 := below_cell hbw HD1.out
  have hb : Below w1.heap.size w1 w1.drew := (Below.refl _ _).drew
  have hrcn : rc = w.heap.size := hrn.symm
  have hgl := (Array.getElem?_eq_some_iff.1 HH.out).1
  have hbl := World.block_lt_of_cell? w _ HD0.out
  simp only at hbl
  have hne1 : rc ≠ g := by omega
  have hne2 : rc ≠ bl := by omega
  have HRC := Lib.hid hrc
  have HBW := Lib.hid hbw
  clear hrc hbw HH HD0 HD1 hrcn
  go_wp2_with fail
  go_region_held3 (fun w' => w'.cell? ⟨g, 2, none⟩ = some (.slice (some ⟨bl, off, none⟩) nr cap) ∧ w'.cell? ⟨bl, off + (61 + nr - n) * 2, none⟩ = some (.string xn) ∧ w'.cell? ⟨bl, off + (61 + nr - n) * 2 + 1, none⟩ = some (.string xv))
    (first | exact ⟨below_cell hb k2, below_cell hb d0, below_cell hb d1⟩ | go_keep)
    ((go_at_call 76; refine (HFd.out _).mono ?_; rintro e w2 ⟨rfl, b2⟩; replace hb := below_step hb b2; have hrc2 := block_below hb HRC.out; have r0 := cell_at hrc2 0; have r1 := cell_at hrc2 1; have r2 := cell_at hrc2 2; have g0 := frozen_of_row _ _ 0 _ _ hrc2; have g1 := frozen_of_row _ _ 1 _ _ hrc2; have g2 := frozen_of_row _ _ 2 _ _ hrc2))
  all_goals
    have hbw2 := below_step HBW.out hb
    have HF3 := Lib.hid (set3 (x := .string xn) (y := .string xv) (z := .bool false) hrc2)
    have HBe := Lib.hid (((hbw2.setCell (p := ⟨rc, 0, none⟩) (by rw [hrn]; exact Nat.le_refl _) (.string xn)).setCell (p := ⟨rc, 1, none⟩) (by rw [hrn]; exact Nat.le_refl _) (.string xv)).setCell (p := ⟨rc, 2, none⟩) (by rw [hrn]; exact Nat.le_refl _) (.bool false))
    clear hb hbw2 hrc2 k2 d0 d1
    go_wp2_with fail
    have s0 := cell_at HF3.out 0
    have s1 := cell_at HF3.out 1
    have s2 := cell_at HF3.out 2
    clear r0 r1 r2
    exact bodyPost_ret (v := .tuple #[.agg #[.string xn, .string xv, .bool false], .int .i64 0]) (by simp [results, Tryd.results59, go_sem, s0, s1, s2]) rfl ⟨rfl, HBe.out⟩

theorem pat_gen (p : Option Addr) (n : Int) (len : Nat) (rows : List FdM) (w : World) (hn : (Lit.int .i64 n).wf = true) (hlen : len = rows.length) (hnev : ∀ x ∈ rows, x.never = false) (HLen : Hid (∀ v, Below w.heap.size w v → Calls Tryd.prog 29 #[.pointer p] v fun e w' => e = .returned (.int .i64 len) ∧ Below v.heap.size v w')) (hl : len ≤ 100000)
    (HRow : ∀ k : Nat, 62 ≤ k → (h : k - 62 < rows.length) → Calls Tryd.prog 59 #[.pointer p, .int .i64 k] w fun e w' => e = .returned (.tuple #[.agg #[.string rows[k - 62].name, .string rows[k - 62].value, .bool false], .int .i64 0]) ∧ Below w.heap.size w w') :
    Calls Tryd.prog 59 #[.pointer p, .int .i64 n] w fun e w' => e = .returned (.tuple #[.agg #[.string (atT rows n).1.name, .string (atT rows n).1.value, .bool (atT rows n).1.never], .int .i64 (atT rows n).2]) ∧ Below w.heap.size w w' := by
  have hmax : n ≤ 9223372036854775807 := by
    simp [Lit.wf, IntKind.min, IntKind.max, IntKind.signed, IntKind.bits] at hn
    omega
  by_cases h1 : 1 ≤ n ∧ n ≤ 61
  · obtain ⟨k, rfl⟩ := Int.eq_ofNat_of_zero_le (show 0 ≤ n by omega)
    have hk : k - 1 < statics.length := by rw [statics_len]; omega
    have := pat_fixed p k len w HLen hl (by omega) (by omega) statics[k - 1] (List.getElem?_eq_getElem hk)
    have hT : atT rows k = (statics[k - 1], 0) := by
      rw [atT, if_pos h1, Int.toNat_natCast, List.getD_eq_getElem?_getD, List.getElem?_eq_getElem hk]; rfl
    rw [hT, show statics[k - 1].never = false from statics_never _ (List.getElem_mem hk)]; exact this
  · by_cases h0 : n ≤ 0
    · have := pat_low p n w (by omega)
      have hT : atT rows n = (⟨ByteArray.empty, ByteArray.empty, false⟩, 40) := by rw [atT, if_neg h1, if_pos (by omega)]
      rw [hT]; exact this
    · obtain ⟨k, rfl⟩ := Int.eq_ofNat_of_zero_le (show 0 ≤ n by omega)
      by_cases hgt : rows.length < k - 61
      · have := pat_high p k len w HLen hl (by omega) (by omega) (by omega)
        have hT : atT rows k = (⟨ByteArray.empty, ByteArray.empty, false⟩, 40) := by rw [atT, if_neg h1, if_pos (by omega)]
        rw [hT]; exact this
      · have hk : k - 62 < rows.length := by omega
        have := HRow k (by omega) hk
        have hT : atT rows k = (rows[k - 62], 0) := by
          rw [atT, if_neg h1, if_neg (by omega), Int.toNat_natCast, List.getD_eq_getElem?_getD, List.getElem?_eq_getElem hk]; rfl
        rw [hT, show rows[k - 62].never = false from hnev _ (List.getElem_mem hk)]; exact this

theorem PTab.never {w : World} {L : List Nat} {g m c : Nat} {rows : List FdM} (h : PTab w L g m rows c) : ∀ x ∈ rows, x.never = false := by
  obtain ⟨⟨c0, ad, cap, b1, b2, n1, n2, h, _⟩, _⟩ := h
  exact fun x hx => (h.2.2.2.2.2.2.2 x hx).1
theorem pat_any (L : List Nat) (g m c : Nat) (rows : List FdM) (n : Int) (w : World) (h : PTab w L g m rows c) (hn : (Lit.int .i64 n).wf = true) :
    Calls Tryd.prog 59 #[.pointer (some ⟨g, 0, none⟩), .int .i64 n] w fun e w' => e = .returned (.tuple #[.agg #[.string (atT rows n).1.name, .string (atT rows n).1.value, .bool (atT rows n).1.never], .int .i64 (atT rows n).2]) ∧ Below w.heap.size w w' := by
  have hsum := h.sum
  have h32 := csum_len rows
  exact pat_gen _ n rows.length rows w hn rfl h.never (Lib.hid (fun v hv => plen_any L g m c rows v (h.below hv))) (by omega) (fun k hk hlt => pat_rows L g m c k rows w h hk hlt)
theorem pat_nil (n : Int) (w : World) (hn : (Lit.int .i64 n).wf = true) :
    Calls Tryd.prog 59 #[.pointer none, .int .i64 n] w fun e w' => e = .returned (.tuple #[.agg #[.string (atT [] n).1.name, .string (atT [] n).1.value, .bool (atT [] n).1.never], .int .i64 (atT [] n).2]) ∧ Below w.heap.size w w' :=
  pat_gen none n 0 [] w hn rfl (fun x hx => by cases hx) (Lib.hid (fun v _ => plen_nil v)) (by omega) (fun k hk hlt => by simp at hlt)
end Go.Proofs.YtdkgachgohilcaaDoor

namespace Go.Proofs.YtdkgachgohilcaaDoor
open Go.RowKit
open Arg Tab Run Mem Go.Proofs.YtdkgachgohilcaaDoor.Obj
set_option linter.unusedVariables false

set_option maxRecDepth 100000 in
theorem static_any (w : World) :
    Calls Tryd.prog 57 #[] w fun e w' => e = .returned (.slice (some ⟨w.heap.size, 0, none⟩) 61 61) ∧ w' = w.alloc (.cells (Rw.flat EFd statics).toArray 59) := by
  go_enter Tryd.func57, Tryd.ntmps57
  go_upto_region 1 with (fail)
  refine wp_region_slot 0 (.slice (some ⟨w.heap.size, 0, none⟩) 61 61) (w.alloc (.cells (Rw.flat EFd statics).toArray 59)) (by kernel_rfl) ?_
  rintro ⟨tm, df⟩ ht hd hs
  simp only at ht hd
  subst hd
  have HT := Lib.hid ht
  clear ht hs
  go_wp2_with fail
  exact bodyPost_ret (v := .slice (some ⟨w.heap.size, 0, none⟩) 61 61) (by simp [results, Tryd.results57, go_sem]; simpa using HT.out) rfl ⟨rfl, rfl⟩

theorem cost_any (f : FdM) (w : World) (hn : f.name.size ≤ 140737488351232) (hv : f.value.size ≤ 140737488351232) :
    Calls Tryd.prog 39 #[.agg #[.string f.name, .string f.value, .bool f.never]] w fun e w' => e = .returned (.int .i64 (cost f)) ∧ Below w.heap.size w w' := by
  obtain ⟨n, v, b⟩ := f
  simp only at hn hv
  have HC : Hid ((cost ⟨n, v, b⟩ : Int) = n.size + v.size + 32) := Lib.hid (by show ((n.size + v.size + 32 : Nat) : Int) = _; omega)
  generalize cost ⟨n, v, b⟩ = c at HC ⊢
  go_enter Tryd.func39, Tryd.ntmps39
  go_wp2_with fail
  go_ret
  exact ⟨by rw [HC.out]; rfl, (Below.refl _ _).alloc (Nat.le_refl _) _⟩

/-- The document's table in memory: its own two cells, and its rows, the youngest first. -/
def RTab (w : World) (L : List Nat) (g : Nat) (m : Nat) (rows : List FdM) : Prop :=
  ∃ ad cap, g ∈ L ∧ w.heap[g]? = some (.cells #[.int .i64 m, .slice ad rows.length cap] 37 (0, 0)) ∧ rows.length ≤ cap ∧ cap ≤ maxLen ∧ (ad = none → cap = 0) ∧ (∀ b o s, ad = some ⟨b, o, s⟩ → b ∈ L ∧ b ≠ g) ∧
    Rw.RowE EFd w ad rows ∧ (∀ k ∈ L, k < w.heap.size)

theorem RTab.blocks {w : World} {L : List Nat} {g m : Nat} {rows : List FdM} (h : RTab w L g m rows) : ∀ k ∈ L, k < w.heap.size := by
  obtain ⟨ad, cap, hg, hh, hl, hm, hz, ha, hr, hk⟩ := h; exact hk
theorem RTab.kept {w w' : World} {L : List Nat} {g m : Nat} {rows : List FdM} (h : RTab w L g m rows) (hs : w.heap.size ≤ w'.heap.size) (hb : ∀ k ∈ L, w'.heap[k]? = w.heap[k]?) : RTab w' L g m rows := by
  obtain ⟨ad, cap, hg, hh, hl, hm, hz, ha, hr, hk⟩ := h
  exact ⟨ad, cap, hg, (hb g hg).trans hh, hl, hm, hz, ha, hr.block (fun b o e => hb b (ha b o none e).1), fun k hkL => Nat.lt_of_lt_of_le (hk k hkL) hs⟩
theorem RTab.below {w w' : World} {L : List Nat} {g m : Nat} {rows : List FdM} (h : RTab w L g m rows) (hb : Below w.heap.size w w') : RTab w' L g m rows := by
  have hk : ∀ k ∈ L, k < w.heap.size := by obtain ⟨ad, cap, hg, hh, hl, hm, hz, ha, hr, hk⟩ := h; exact hk
  exact h.kept hb.size (fun k hkL => hb.block k (hk k hkL))

set_option maxHeartbeats 1000000 in
theorem rsize_at (g n cap : Nat) (ad : Option Addr) (rows : List FdM) (m : Int) (w : World) (hn : n = rows.length) (h0 : w.cell? ⟨g, 0, none⟩ = some (.int .i64 m)) (h1 : w.cell? ⟨g, 1, none⟩ = some (.slice ad n cap)) (hcap : n ≤ cap) (hmax : cap ≤ maxLen)
    (hr : Rw.RowE EFd w ad rows) (hs : csum rows ≤ 1000000) :
    Calls Tryd.prog 56 #[.pointer (some ⟨g, 0, none⟩)] w fun e w' => e = .returned (.int .i64 (csum rows)) ∧ Below w.heap.size w w' := by
  unfold maxLen at hmax
  have H0 := Lib.hid h0
  have H1 := Lib.hid h1
  have HR := Lib.hid hr
  have HL := Lib.hid hn
  generalize hC : csum rows = C at hs
  have HC := Lib.hid hC
  have hn32 : 32 * n ≤ C := by rw [← hC, hn]; exact csum_len rows
  clear h0 h1 hr hn hC
  go_enter Tryd.func56, Tryd.ntmps56
  go_wp2_with fail
  go_loopw [3, 4] (fun v i wr => ∃ (k b : Nat), k ≤ n ∧ i = .int .i64 k ∧ v = .int .i64 b ∧ b ≤ C ∧ Hid (b + csum (rows.drop k) = C) ∧ Below w.heap.size w wr) (fun _ i _ => n - (intOf i).toNat)
  case atStart => exact ⟨0, 0, by omega, rfl, rfl, by omega, Lib.hid (by rw [List.drop_zero, HC.out]; omega), Below.refl _ _⟩
  case round =>
    obtain ⟨k, b, hk, rfl, rfl, hb, HF, hbel⟩ := hrel
    have c1 : wr.cell? ⟨g, 1, none⟩ = some (.slice ad n cap) := below_cell hbel H1.out
    by_cases hlt : k < n
    · have hlt' : (k : Int) < n := by omega
      have hlr : k < rows.length := by rw [← HL.out]; exact hlt
      obtain ⟨bl, off, rfl, hc⟩ : ∃ b off, ad = some ⟨b, off, none⟩ ∧ ∀ i, (h : i < rows.length) → Rw.CE EFd w b (off + i * 3) rows[i] := by
        rcases HR.out with h | h
        · rw [h] at hlr; simp at hlr
        · exact h
      obtain ⟨d0, d1, d2⟩ := CE_fd (hc k hlr)
      have e0 := below_cell hbel d0
      have e1 := below_cell hbel d1
      have e2 := below_cell hbel d2
      have HF1 : Hid (b + (cost rows[k] + csum (rows.drop (k + 1))) = C) := Lib.hid (by
        have h := HF.out
        rw [List.drop_eq_getElem_cons hlr, csum] at h
        exact h)
      have hcs : cost rows[k] ≤ 1000000 := by have := HF1.out; omega
      have hb2 : b + cost rows[k] ≤ C := by have := HF1.out; omega
      have HF2 : Hid (b + cost rows[k] + csum (rows.drop (k + 1)) = C) := Lib.hid (by have := HF1.out; omega)
      have HCo := Lib.hid (fun v => cost_any rows[k] v (by unfold cost at hcs; omega) (by unfold cost at hcs; omega))
      clear d0 d1 d2 hc HF HF1
      generalize rows[k] = f at *
      obtain ⟨fn, fv, fb⟩ := f
      simp only at e0 e1 e2 HCo
      generalize cost ⟨fn, fv, fb⟩ = c at *
      go_wp2_with fail
      refine (HCo.out _).mono ?_; rintro e w1 ⟨rfl, hb1⟩
      replace hb1 := below_step hbel hb1
      go_wp2_with fail
      go_roundw
      case rel => exact ⟨k + 1, b + c, by omega, by go_num, by go_num, hb2, HF2, hb1⟩
      case measure => simp [intOf]; omega
    · have hlt' : ¬ (k : Int) < n := by omega
      have hbC : b = C := by
        have h := HF.out
        rw [List.drop_of_length_le (by rw [← HL.out]; omega), csum] at h; omega
      subst hbC
      clear HF HC
      go_wp2_with fail
      go_ret
      exact ⟨rfl, hbel⟩
end Go.Proofs.YtdkgachgohilcaaDoor

namespace Go.Proofs.YtdkgachgohilcaaDoor
open Go.RowKit
open Arg Tab Mem Go.Proofs.YtdkgachgohilcaaDoor.Obj
set_option linter.unusedVariables false

theorem info_fd : (Tryd.prog.info? 59).map (fun i => (i.zero, i.size, i.bytes)) = some (some (.agg #[.string ByteArray.empty, .string ByteArray.empty, .bool false]), 3, 40) := by kernel_rfl

/-- The block of a row. -/
def adBlk : Option Addr → List Nat
  | none => []
  | some a => [a.block]
/-- New rows are put into the table. -/
theorem rtab_put {y : World} {g m base n cap : Nat} {ad : Option Addr} {v0 : Value} {rows : List FdM} (hy : y.heap[g]? = some (.cells #[.int .i64 m, v0] 37 (0, 0)))
    (ho : y.ownsRow base 59 3 (.slice ad n cap) n (Rw.flat EFd rows)) (hn : n = rows.length) (hg : g < base) :
    RTab (y.setCell ⟨g, 1, none⟩ (.slice ad n cap)) (g :: adBlk ad) g m rows ∧ ∀ k ∈ g :: adBlk ad, k = g ∨ base ≤ k := by
  subst hn
  obtain ⟨_, h1, h2, h3⟩ := Rw.own_len ho
  have hb := Rw.own_blk ho
  have hset := heap_setCell_same y g 1 _ _ (.slice ad rows.length cap) hy
  have hgs := (Array.getElem?_eq_some_iff.1 hy).1
  have hsz : (y.setCell ⟨g, 1, none⟩ (.slice ad rows.length cap)).heap.size = y.heap.size := by simp [World.setCell]
  refine ⟨⟨ad, cap, List.mem_cons_self .., hset, h1, h2, h3, ?_, ?_, ?_⟩, ?_⟩
  · intro b o s e
    have := hb b o s e
    refine ⟨?_, by omega⟩
    subst e
    simp [adBlk]
  · refine (Rw.RowE.of_own ho).block fun b o e => Below.heap_setCell _ _ _ _ ?_
    have := hb b o none e
    show b ≠ g
    omega
  · intro k hk
    rw [hsz]
    rcases List.mem_cons.mp hk with rfl | hk
    · exact hgs
    · cases ad with
      | none => cases hk
      | some a =>
        simp only [adBlk, List.mem_singleton] at hk
        subst hk
        exact (hb a.block a.off a.spot rfl).2
  · intro k hk
    rcases List.mem_cons.mp hk with rfl | hk
    · exact .inl rfl
    · cases ad with
      | none => cases hk
      | some a =>
        simp only [adBlk, List.mem_singleton] at hk
        subst hk
        exact .inr (hb a.block a.off a.spot rfl).1

set_option maxHeartbeats 2000000 in
theorem rresize_any (g m m2 : Nat) (rows : List FdM) (L : List Nat) (w : World) (h : RTab w L g m rows) (hs : csum rows ≤ 65536) (hm2 : m2 ≤ 65536) :
    Calls Tryd.prog 35 #[.pointer (some ⟨g, 0, none⟩), .int .i64 m2] w fun e w' => e = .returned (.tuple #[]) ∧ ∃ L', RTab w' L' g m2 (fit m2 rows) ∧ Kept L w w' ∧ ∀ k ∈ L', k ∈ L ∨ w.heap.size ≤ k := by
  obtain ⟨i0, hi, hz0, hz1, hz2⟩ := info_parts info_fd
  have HI := Lib.hid hi
  have HZ0 := Lib.hid hz0
  have HZ1 := Lib.hid hz1
  have HZ2 := Lib.hid hz2
  obtain ⟨ad, cap, hg, hh, hl, hm, hz, ha, hr, hk⟩ := h
  have c0 := cell_at hh 0
  have f0 : w.frozen? ⟨g, 0, none⟩ = false := by simp [World.frozen?, hh]
  have HH := Lib.hid hh
  have HR := Lib.hid hr
  have HA := Lib.hid ha
  have HK := Lib.hid hk
  have HG := Lib.hid hg
  clear hi hz0 hz1 hz2 hh hr ha hk hg
  generalize hF : fit m2 rows = R
  have HF := Lib.hid hF
  clear hF
  go_enter Tryd.func35, Tryd.ntmps35
  go_wp2_with fail
  have hset := heap_setCell_same w g 0 _ _ (.int .i64 m2) HH.out
  have HW : Hid (RTab (w.setCell ⟨g, 0, none⟩ (.int .i64 m2)) L g m2 rows) := Lib.hid ⟨ad, cap, HG.out, hset, hl, hm, hz, HA.out, HR.out.block (fun b o e => Below.heap_setCell _ _ _ _ (HA.out b o none e).2), fun k hk => by
    have := HK.out k hk
    simpa [World.setCell] using this⟩
  have HKe : Hid (Kept L w (w.setCell ⟨g, 0, none⟩ (.int .i64 m2))) := Lib.hid ((Kept.refl L w).setCell (.inl HG.out) _)
  clear hset HH HR HA HK HG c0 f0
  go_loopg [] rows.length (fun k wr => ∃ (rows' : List FdM) (L' : List Nat), k = rows'.length ∧ Hid (RTab wr L' g m2 rows') ∧ Hid (fit m2 rows' = R) ∧ csum rows' ≤ 65536 ∧ Hid (Kept L w wr) ∧ Hid (∀ k ∈ L', k ∈ L ∨ w.heap.size ≤ k))
  case atStart => exact ⟨rows, L, rfl, HW, HF, hs, HKe, Lib.hid (fun k hk => .inl hk)⟩
  case round =>
    clear HW HF HKe
    obtain ⟨rows', L', rfl, HT, HF, hs', HKe, HN⟩ := hrel
    obtain ⟨ad', cap', hg', hh', hl', hm', hz', ha', hr', hk'⟩ := HT.out
    have HS := Lib.hid (rsize_at g rows'.length cap' ad' rows' m2 wr rfl (cell_at hh' 0) (cell_at hh' 1) hl' hm' hr' (by omega))
    have h32 := csum_len rows'
    by_cases hbig : m2 < csum rows'
    · have hbig' : (m2 : Int) < csum rows' := by omega
      have hpos : 0 < rows'.length := by
        rcases Nat.eq_zero_or_pos rows'.length with h0 | h0
        · rw [List.eq_nil_iff_length_eq_zero.mpr h0] at hbig; simp [csum] at hbig
        · exact h0
      have HFd : Hid (fit m2 rows'.dropLast = R) := Lib.hid (by rw [← fit_drop rows' m2 hbig]; exact HF.out)
      have hdl : rows'.dropLast.length = rows'.length - 1 := List.length_dropLast
      have HDl := Lib.hid hdl
      have hds : csum rows'.dropLast ≤ 65536 := Nat.le_trans (csum_dropLast rows') hs'
      obtain ⟨bl, off, rfl⟩ : ∃ b off, ad' = some ⟨b, off, none⟩ := by
        rcases hr' with h | ⟨b, off, h, _⟩
        · rw [h] at hpos; simp at hpos
        · exact ⟨b, off, h⟩
      have HH := Lib.hid hh'
      have HR := Lib.hid (hr'.take (rows'.length - 1))
      rw [← List.dropLast_eq_take] at HR
      have HA : Hid (∀ b o s, some (⟨bl, off, none⟩ : Addr) = some ⟨b, o, s⟩ → b ∈ L' ∧ b ≠ g) := Lib.hid ha'
      have HG := Lib.hid hg'
      have HK := Lib.hid hk'
      have hgl := hk' g hg'
      have HGl := Lib.hid hgl
      clear hdl hh' hr' ha' hg' hk' hgl HF
      generalize hnn : rows'.length = nn at *
      generalize hcc : csum rows' = cc at *
      have HNn := Lib.hid hnn
      clear hnn hcc
      go_wp2_with fail
      refine HS.out.mono ?_; rintro e w1 ⟨rfl, b1⟩
      have hh1 := block_below b1 HH.out
      have c1 : w1.cell? ⟨g, 1, none⟩ = some (.slice (some ⟨bl, off, none⟩) nn cap') := cell_at hh1 1
      have c1a : (w1.alloc (.cells #[] 59)).cell? ⟨g, 1, none⟩ = some (.slice (some ⟨bl, off, none⟩) nn cap') := cell_at (alloc_at hh1) 1
      have hm2' : (nn : Int) - 1 ≤ cap' := by omega
      go_wp2_with fail
      have hn1 : IntKind.i64.wrap ((nn : Int) - 1) = (nn : Int) - 1 := IntWalk.i64_in _ (by omega)
      have hn2 : (0 : Int) ≤ (nn : Int) - 1 := by omega
      have hn4 : (1 : Int) ≤ nn := by omega
      have hn3 : ((nn : Int) - 1).toNat = nn - 1 := by omega
      have HOw : Hid (∀ x : World, x.heap = (w1.alloc (.cells #[] 59)).heap → x.ownsRow w1.heap.size 59 3 (.slice (some ⟨w1.heap.size, 0, none⟩) 0 0) 0 (Rw.flat EFd [])) := Lib.hid (fun x hx => by
        have h := own_new w1 59 3
        unfold World.ownsRow at h ⊢
        rw [hx]; exact h)
      have HRw : Hid (∀ x : World, x.heap = (w1.alloc (.cells #[] 59)).heap → Rw.RowE EFd x (some ⟨bl, off, none⟩) rows'.dropLast) := Lib.hid (fun x hx => (HR.out.below b1).block (fun b o e => by
        simp only [Option.some.injEq, Addr.mk.injEq] at e
        obtain ⟨rfl, _⟩ := e
        rw [hx]
        exact Below.heap_alloc _ _ _ (by have := HK.out bl (HA.out bl off none rfl).1; have := b1.size; omega)))
      have HBa : Hid (∀ x : World, x.heap = (w1.alloc (.cells #[] 59)).heap → w1.heap.size ≤ x.heap.size) := Lib.hid (fun x hx => by rw [hx]; simp)
      have HLe : Hid (0 + (nn - 1) ≤ maxLen) := Lib.hid (by unfold maxLen; omega)
      have HBy : Hid ((0 + (nn - 1)) * 40 ≤ 140737488355328) := Lib.hid (by omega)
      have HAt : Hid (∀ x y : World, x.heap = (w1.alloc (.cells #[] 59)).heap → x.grownBy y (some w1.heap.size) → y.heap[g]? = some (.cells #[.int .i64 m2, .slice (some ⟨bl, off, none⟩) nn cap'] 37 (0, 0))) := Lib.hid (fun x y hx hy =>
        grown_at hy (by rw [hx]; exact alloc_at hh1) (by have h1 := b1.size; have h2 := HGl.out; intro e; simp only [Option.some.injEq] at e; omega))
      have HFin : Hid (∀ (y : World) (ad4 : Option Addr) (cap4 : Nat), y.ownsRow w1.heap.size 59 3 (.slice ad4 (0 + (nn - 1)) cap4) (0 + (nn - 1)) (Rw.flat EFd ([] ++ rows'.dropLast)) → (w1.alloc (.cells #[] 59)).drew.grownBy y (some w1.heap.size) →
          ∃ (rows2 : List FdM) (L2 : List Nat), nn - 1 = rows2.length ∧ Hid (RTab (y.setCell ⟨g, 1, none⟩ (.slice ad4 (nn - 1) cap4)) L2 g m2 rows2) ∧ Hid (fit m2 rows2 = R) ∧ csum rows2 ≤ 65536 ∧ Hid (Kept L w (y.setCell ⟨g, 1, none⟩ (.slice ad4 (nn - 1) cap4))) ∧ Hid (∀ k ∈ L2, k ∈ L ∨ w.heap.size ≤ k)) := Lib.hid (fun y ad4 cap4 ho hgr => by
        rw [Nat.zero_add, List.nil_append] at ho
        have hy := HAt.out (w1.alloc (.cells #[] 59)).drew y rfl hgr
        have hws := HKe.out.size
        have h1s := b1.size
        have hgl := HGl.out
        obtain ⟨hT, hL⟩ := rtab_put hy ho HDl.out.symm (by omega)
        refine ⟨rows'.dropLast, _, HDl.out.symm, Lib.hid hT, HFd, hds, Lib.hid ((((HKe.out.then b1).alloc _).drew.grown hgr (fun k hk => by simp only [Option.some.injEq] at hk; subst hk; exact .inr (by omega))).setCell (HN.out g HG.out) _), Lib.hid fun k hk => ?_⟩
        rcases hL k hk with rfl | h
        · exact HN.out _ HG.out
        · exact .inr (by omega))
      go_region_law ((refine Rw.step_append_rows EFd Tryd.underlying31 HI.out HZ0.out HZ1.out HZ2.out rfl rfl (.tmp 13) (.tmp 24) rfl w1.heap.size (.slice (some ⟨w1.heap.size, 0, none⟩) 0 0) 0 [] rfl rfl (HOw.out _ rfl) (some ⟨bl, off, none⟩) (nn - 1) rows'.dropLast cap' rfl HDl.out.symm (by intro h; cases h) (HRw.out _ rfl) HLe.out HBy.out (HBa.out _ rfl) ?_; intro ad4 cap4 w4 hown4 hg4; have hh4 := HAt.out _ w4 (by rfl) hg4.out; have c4 := cell_at hh4 1; have f4 := frozen_of_row _ _ 1 _ _ hh4))
      all_goals
        have HF2 := Lib.hid (HFin.out w4 ad4 cap4 hown4.out hg4.out)
        clear HFin HAt HBy HLe HBa HRw HOw hown4 hg4
        go_wp2_with fail
        go_roundg (nn - 1)
        case measure => omega
        case rel => exact HF2.out
    · have hbig' : ¬ (m2 : Int) < csum rows' := by omega
      have hR : R = rows' := by rw [← HF.out, fit_all _ _ (by omega)]
      subst hR
      clear HF hg' hh' ha' hr' hk'
      go_wp2_with fail
      refine HS.out.mono ?_; rintro e w1 ⟨rfl, b1⟩
      have HT1 := Lib.hid (HT.out.below b1)
      have HK1 := Lib.hid (HKe.out.then b1)
      go_wp2_with fail
      go_end0
      exact ⟨rfl, L', HT1.out, HK1.out, HN.out⟩
end Go.Proofs.YtdkgachgohilcaaDoor
