/- Layer 4: the program's At. -/
import Derived.Test.YtifaecmmnconpaaTabP1
import Derived.Test.YtifaecmmnconpaaTabP6
import Derived.WalkKit
import Derived.WalkSpells
import Derived.WalkLawsBesides
import Derived.Lib.Hide
import Derived.Outline
import Derived.RegionTactic
import Derived.IntWalk
import Derived.Deep.RegionHeld3
namespace Go.Proofs.Ytifaecmmnconpaa
open Go.RowKit
open Arg Tab Mem Go.Proofs.Ytifaecmmnconpaa.Obj
set_option linter.unusedVariables false

/-- The result's cell. -/
theorem set3 {w : World} {g : Nat} {a b c x y z : Value} {t : TypeId} (h : w.heap[g]? = some (.cells #[a, b, c] t (0, 0))) :
    (((w.setCell ⟨g, 0, none⟩ x).setCell ⟨g, 1, none⟩ y).setCell ⟨g, 2, none⟩ z).heap[g]? = some (.cells #[x, y, z] t (0, 0)) :=
  heap_setCell_same _ g 2 _ t z (heap_setCell_same _ g 1 _ t y (heap_setCell_same w g 0 _ t x h))

set_option maxHeartbeats 2000000 in
theorem pat_low (p : Option Addr) (n : Int) (w : World) (h0 : n < 1) :
    Calls Try.prog 16 #[.pointer p, .int .i64 n] w fun e w' => e = .returned (.tuple #[.agg #[.string ⟨#[]⟩, .string ⟨#[]⟩, .bool false], .int .i64 40]) ∧ Below w.heap.size w w' := by
  go_enter Try.func16, Try.ntmps16
  go_wp2_with fail
  have hh := heap_alloc_new w (.cells #[.string ⟨#[]⟩, .string ⟨#[]⟩, .bool false] 36)
  have HB : Below w.heap.size w (w.alloc (.cells #[.string ⟨#[]⟩, .string ⟨#[]⟩, .bool false] 36)) := (Below.refl _ _).alloc (Nat.le_refl _) _
  generalize (w.alloc (.cells #[.string ⟨#[]⟩, .string ⟨#[]⟩, .bool false] 36)) = w2 at hh HB ⊢
  have s0 := cell_at hh 0
  have s1 := cell_at hh 1
  have s2 := cell_at hh 2
  clear hh
  exact bodyPost_ret (v := .tuple #[.agg #[.string ⟨#[]⟩, .string ⟨#[]⟩, .bool false], .int .i64 40]) (by simp [results, Try.results16, go_sem, s0, s1, s2]) rfl ⟨rfl, HB⟩

set_option maxHeartbeats 2000000 in
theorem pat_high (p : Option Addr) (n len : Nat) (w : World) (HLen : Hid (∀ v, Below w.heap.size w v → Calls Try.prog 15 #[.pointer p] v fun e w' => e = .returned (.int .i64 len) ∧ Below v.heap.size v w')) (hl : len ≤ 100000) (h1 : 1 ≤ n) (hn : n ≤ 9223372036854775807) (hgt : 61 + len < n) :
    Calls Try.prog 16 #[.pointer p, .int .i64 n] w fun e w' => e = .returned (.tuple #[.agg #[.string ⟨#[]⟩, .string ⟨#[]⟩, .bool false], .int .i64 40]) ∧ Below w.heap.size w w' := by
  have h1' : decide ((n : Int) < 1) = false := by simp; omega
  have h2' : (61 : Int) + len < n := by omega
  go_enter Try.func16, Try.ntmps16
  go_wp2_with fail
  refine (HLen.out _ ((Below.refl _ _).alloc (Nat.le_refl _) _)).mono ?_; rintro e w1 ⟨rfl, b1⟩
  have hrc := block_below b1 (heap_alloc_new w (.cells #[.string ⟨#[]⟩, .string ⟨#[]⟩, .bool false] 36))
  have hbw : Below w.heap.size w w1 := below_step ((Below.refl _ _).alloc (Nat.le_refl _) _) b1
  generalize hrn : w.heap.size = rc at hrc ⊢
  have r0 := cell_at hrc 0
  have r1 := cell_at hrc 1
  have r2 := cell_at hrc 2
  have g0 := frozen_of_row _ _ 0 _ _ hrc
  have g1 := frozen_of_row _ _ 1 _ _ hrc
  have g2 := frozen_of_row _ _ 2 _ _ hrc
  have HF3 := Lib.hid (set3 (x := .string ⟨#[]⟩) (y := .string ⟨#[]⟩) (z := .bool false) hrc)
  have HBe := Lib.hid (((hbw.setCell (p := ⟨rc, 0, none⟩) (by rw [hrn]; exact Nat.le_refl _) (.string ⟨#[]⟩)).setCell (p := ⟨rc, 1, none⟩) (by rw [hrn]; exact Nat.le_refl _) (.string ⟨#[]⟩)).setCell (p := ⟨rc, 2, none⟩) (by rw [hrn]; exact Nat.le_refl _) (.bool false))
  clear hrn hrc b1 hbw HLen
  go_wp2_with fail
  have s0 := cell_at HF3.out 0
  have s1 := cell_at HF3.out 1
  have s2 := cell_at HF3.out 2
  clear r0 r1 r2
  exact bodyPost_ret (v := .tuple #[.agg #[.string ⟨#[]⟩, .string ⟨#[]⟩, .bool false], .int .i64 40]) (by simp [results, Try.results16, go_sem, s0, s1, s2]) rfl ⟨rfl, HBe.out⟩

set_option maxHeartbeats 2000000 in
theorem pat_fixed (p : Option Addr) (n len : Nat) (w : World) (HLen : Hid (∀ v, Below w.heap.size w v → Calls Try.prog 15 #[.pointer p] v fun e w' => e = .returned (.int .i64 len) ∧ Below v.heap.size v w')) (hl : len ≤ 100000) (h1 : 1 ≤ n) (hn : n ≤ 61) (x : FdM) (hx : statics[n - 1]? = some x) :
    Calls Try.prog 16 #[.pointer p, .int .i64 n] w fun e w' => e = .returned (.tuple #[.agg #[.string x.name, .string x.value, .bool false], .int .i64 0]) ∧ Below w.heap.size w w' := by
  have h1' : decide ((n : Int) < 1) = false := by simp; omega
  have h2' : decide ((61 : Int) + len < n) = false := by simp; omega
  have h3' : (n : Int) ≤ 61 := by omega
  have hlt : n < fixL.length := by rw [fixL_len]; omega
  have hxn : fixL[n] = x := by
    have h : fixL[n]? = some x := by rw [show n = (n - 1) + 1 by omega]; simpa [fixL] using hx
    exact (List.getElem?_eq_some_iff.1 h).2
  have HIx : Hid (∀ v, (Instr.index 59 (.agg FIX) (.int .i64 n)).run Try.prog v = .ok (.agg #[.string x.name, .string x.value]) v) := Lib.hid (fun v => by rw [index_fix n hlt v, hxn])
  have HFx := Lib.hid (fun v => pfixed_any v)
  obtain ⟨xn, xv, xb⟩ := x
  simp only at HIx ⊢
  have HFd := Lib.hid (fun v => pfield_any xn xv v)
  clear hx hxn
  generalize FIX = F at HIx HFx
  have hix := HIx.out
  go_enter Try.func16, Try.ntmps16
  go_wp2_with fail
  refine (HLen.out _ ((Below.refl _ _).alloc (Nat.le_refl _) _)).mono ?_; rintro e w1 ⟨rfl, b1⟩
  have hrc := block_below b1 (heap_alloc_new w (.cells #[.string ⟨#[]⟩, .string ⟨#[]⟩, .bool false] 36))
  have hbw : Below w.heap.size w w1 := below_step ((Below.refl _ _).alloc (Nat.le_refl _) _) b1
  generalize hrn : w.heap.size = rc at hrc ⊢
  clear b1 HLen
  go_wp2_with fail
  refine (HFx.out _).mono ?_; rintro e w2 ⟨rfl, b2⟩
  go_wp2_with fail
  refine (HFd.out _).mono ?_; rintro e w3 ⟨rfl, b3⟩
  replace hbw := below_step (below_step hbw b2) b3
  replace hrc := block_below b3 (block_below b2 hrc)
  have r0 := cell_at hrc 0
  have r1 := cell_at hrc 1
  have r2 := cell_at hrc 2
  have g0 := frozen_of_row _ _ 0 _ _ hrc
  have g1 := frozen_of_row _ _ 1 _ _ hrc
  have g2 := frozen_of_row _ _ 2 _ _ hrc
  have HF3 := Lib.hid (set3 (x := .string xn) (y := .string xv) (z := .bool false) hrc)
  have HBe := Lib.hid (((hbw.setCell (p := ⟨rc, 0, none⟩) (by rw [hrn]; exact Nat.le_refl _) (.string xn)).setCell (p := ⟨rc, 1, none⟩) (by rw [hrn]; exact Nat.le_refl _) (.string xv)).setCell (p := ⟨rc, 2, none⟩) (by rw [hrn]; exact Nat.le_refl _) (.bool false))
  clear hrn hrc b2 b3 hbw HFx HFd HIx hix
  go_wp2_with fail
  have s0 := cell_at HF3.out 0
  have s1 := cell_at HF3.out 1
  have s2 := cell_at HF3.out 2
  clear r0 r1 r2
  exact bodyPost_ret (v := .tuple #[.agg #[.string xn, .string xv, .bool false], .int .i64 0]) (by simp [results, Try.results16, go_sem, s0, s1, s2]) rfl ⟨rfl, HBe.out⟩

set_option maxHeartbeats 2000000 in
theorem pat_rows (L : List Nat) (g m c n : Nat) (rows : List FdM) (w : World) (h : PTab w L g m rows c) (h1 : 62 ≤ n) (hn : n - 62 < rows.length) :
    Calls Try.prog 16 #[.pointer (some ⟨g, 0, none⟩), .int .i64 n] w fun e w' => e = .returned (.tuple #[.agg #[.string rows[n - 62].name, .string rows[n - 62].value, .bool false], .int .i64 0]) ∧ Below w.heap.size w w' := by
  have hsum := h.sum
  have h32 := csum_len rows
  have HLen : Hid (∀ v, Below w.heap.size w v → Calls Try.prog 15 #[.pointer (some ⟨g, 0, none⟩)] v fun e w' => e = .returned (.int .i64 rows.length) ∧ Below v.heap.size v w') := Lib.hid (fun v hv => plen_any L g m c rows v (h.below hv))
  obtain ⟨⟨c0, ad, cap, bk1, bk2, n1, n2, ⟨_, hh, hq, _⟩, _⟩, _⟩ := h
  have hle := hq.le
  have hmx := hq.max
  simp only [List.length_reverse] at hle
  obtain ⟨bl, off, rfl, hc⟩ : ∃ b off, ad = some ⟨b, off, none⟩ ∧ ∀ i, (h : i < rows.reverse.length) → Rw.CE EPr w b (off + i * 2) rows.reverse[i] := by
    cases ad with
    | none => have := hq.nil rfl; omega
    | some a => obtain ⟨b, off, rfl, h1, h2, h3⟩ := hq.lies a rfl; exact ⟨b, off, rfl, h2⟩
  have hi : 61 + rows.length - n < rows.reverse.length := by simp; omega
  obtain ⟨d0, d1⟩ := CE_pr (hc _ hi)
  have hget : rows.reverse[61 + rows.length - n] = rows[n - 62] := by
    rw [List.getElem_reverse]
    congr 1
    omega
  rw [hget] at d0 d1
  generalize rows[n - 62] = x at d0 d1 ⊢
  obtain ⟨xn, xv, xb⟩ := x
  simp only at d0 d1 ⊢
  have HFd := Lib.hid (fun v => pfield_any xn xv v)
  have HH := Lib.hid hh
  have HD0 := Lib.hid d0
  have HD1 := Lib.hid d1
  have h1' : decide ((n : Int) < 1) = false := by simp; omega
  have h2' : decide ((61 : Int) + rows.length < n) = false := by simp; omega
  have h3' : decide ((n : Int) ≤ 61) = false := by simp; omega
  have hw1 : IntKind.i64.wrap ((61 : Int) + rows.length) = (61 : Int) + rows.length := IntWalk.i64_in _ (by omega)
  have hw2 : IntKind.i64.wrap ((61 : Int) + rows.length - n) = (61 : Int) + rows.length - n := IntWalk.i64_in _ (by omega)
  have hi0 : (0 : Int) ≤ (61 : Int) + rows.length - n := by omega
  have hi1 : (61 : Int) + rows.length - n < rows.length := by omega
  have hi2 : ((61 : Int) + rows.length - n).toNat = 61 + rows.length - n := by omega
  have hi3 : (n : Int) ≤ (61 : Int) + rows.length := by omega
  have hi4 : (61 : Int) + rows.length < rows.length + n := by omega
  have hi5 : (61 : Int) < n := by omega
  have hi6 : (61 : Int) + rows.length - n + 1 ≤ rows.length := by omega
  clear hq hh hc hget d0 d1
  generalize rows.length = nr at *
  go_enter Try.func16, Try.ntmps16
  go_wp2_with fail
  refine (HLen.out _ ((Below.refl _ _).alloc (Nat.le_refl _) _)).mono ?_; rintro e w1 ⟨rfl, b1⟩
  have hrc := block_below b1 (heap_alloc_new w (.cells #[.string ⟨#[]⟩, .string ⟨#[]⟩, .bool false] 36))
  have hbw : Below w.heap.size w w1 := below_step ((Below.refl _ _).alloc (Nat.le_refl _) _) b1
  generalize hrn : w.heap.size = rc at hrc ⊢
  clear b1 HLen
  have k2 := cell_at (block_below hbw HH.out) 2
  have d0 := below_cell hbw HD0.out
  have d1 := below_cell hbw HD1.out
  have hb : Below w1.heap.size w1 w1.drew := (Below.refl _ _).drew
  have hrcn : rc = w.heap.size := hrn.symm
  have hgl := (Array.getElem?_eq_some_iff.1 HH.out).1
  have hbl := World.block_lt_of_cell? w _ HD0.out
  simp only at hbl
  have hne1 : rc ≠ g := by omega
  have hne2 : rc ≠ bl := by omega
  have HRC := Lib.hid hrc
  have HBW := Lib.hid hbw
  clear hrc hbw HH HD0 HD1 hrcn
  go_wp2_with fail
  go_region_held3 (fun w' => w'.cell? ⟨g, 2, none⟩ = some (.slice (some ⟨bl, off, none⟩) nr cap) ∧ w'.cell? ⟨bl, off + (61 + nr - n) * 2, none⟩ = some (.string xn) ∧ w'.cell? ⟨bl, off + (61 + nr - n) * 2 + 1, none⟩ = some (.string xv))
    (first | exact ⟨below_cell hb k2, below_cell hb d0, below_cell hb d1⟩ | go_keep)
    ((go_at_call 27; refine (HFd.out _).mono ?_; rintro e w2 ⟨rfl, b2⟩; replace hb := below_step hb b2; have hrc2 := block_below hb HRC.out; have r0 := cell_at hrc2 0; have r1 := cell_at hrc2 1; have r2 := cell_at hrc2 2; have g0 := frozen_of_row _ _ 0 _ _ hrc2; have g1 := frozen_of_row _ _ 1 _ _ hrc2; have g2 := frozen_of_row _ _ 2 _ _ hrc2))
  all_goals
    have hbw2 := below_step HBW.out hb
    have HF3 := Lib.hid (set3 (x := .string xn) (y := .string xv) (z := .bool false) hrc2)
    have HBe := Lib.hid (((hbw2.setCell (p := ⟨rc, 0, none⟩) (by rw [hrn]; exact Nat.le_refl _) (.string xn)).setCell (p := ⟨rc, 1, none⟩) (by rw [hrn]; exact Nat.le_refl _) (.string xv)).setCell (p := ⟨rc, 2, none⟩) (by rw [hrn]; exact Nat.le_refl _) (.bool false))
    clear hb hbw2 hrc2 k2 d0 d1
    go_wp2_with fail
    have s0 := cell_at HF3.out 0
    have s1 := cell_at HF3.out 1
    have s2 := cell_at HF3.out 2
    clear r0 r1 r2
    exact bodyPost_ret (v := .tuple #[.agg #[.string xn, .string xv, .bool false], .int .i64 0]) (by simp [results, Try.results16, go_sem, s0, s1, s2]) rfl ⟨rfl, HBe.out⟩

theorem pat_gen (p : Option Addr) (n : Int) (len : Nat) (rows : List FdM) (w : World) (hn : (Lit.int .i64 n).wf = true) (hlen : len = rows.length) (hnev : ∀ x ∈ rows, x.never = false) (HLen : Hid (∀ v, Below w.heap.size w v → Calls Try.prog 15 #[.pointer p] v fun e w' => e = .returned (.int .i64 len) ∧ Below v.heap.size v w')) (hl : len ≤ 100000)
    (HRow : ∀ k : Nat, 62 ≤ k → (h : k - 62 < rows.length) → Calls Try.prog 16 #[.pointer p, .int .i64 k] w fun e w' => e = .returned (.tuple #[.agg #[.string rows[k - 62].name, .string rows[k - 62].value, .bool false], .int .i64 0]) ∧ Below w.heap.size w w') :
    Calls Try.prog 16 #[.pointer p, .int .i64 n] w fun e w' => e = .returned (.tuple #[.agg #[.string (atT rows n).1.name, .string (atT rows n).1.value, .bool (atT rows n).1.never], .int .i64 (atT rows n).2]) ∧ Below w.heap.size w w' := by
  have hmax : n ≤ 9223372036854775807 := by
    simp [Lit.wf, IntKind.min, IntKind.max, IntKind.signed, IntKind.bits] at hn
    omega
  by_cases h1 : 1 ≤ n ∧ n ≤ 61
  · obtain ⟨k, rfl⟩ := Int.eq_ofNat_of_zero_le (show 0 ≤ n by omega)
    have hk : k - 1 < statics.length := by rw [statics_len]; omega
    have := pat_fixed p k len w HLen hl (by omega) (by omega) statics[k - 1] (List.getElem?_eq_getElem hk)
    have hT : atT rows k = (statics[k - 1], 0) := by
      rw [atT, if_pos h1, Int.toNat_natCast, List.getD_eq_getElem?_getD, List.getElem?_eq_getElem hk]; rfl
    rw [hT, show statics[k - 1].never = false from statics_never _ (List.getElem_mem hk)]; exact this
  · by_cases h0 : n ≤ 0
    · have := pat_low p n w (by omega)
      have hT : atT rows n = (⟨ByteArray.empty, ByteArray.empty, false⟩, 40) := by rw [atT, if_neg h1, if_pos (by omega)]
      rw [hT]; exact this
    · obtain ⟨k, rfl⟩ := Int.eq_ofNat_of_zero_le (show 0 ≤ n by omega)
      by_cases hgt : rows.length < k - 61
      · have := pat_high p k len w HLen hl (by omega) (by omega) (by omega)
        have hT : atT rows k = (⟨ByteArray.empty, ByteArray.empty, false⟩, 40) := by rw [atT, if_neg h1, if_pos (by omega)]
        rw [hT]; exact this
      · have hk : k - 62 < rows.length := by omega
        have := HRow k (by omega) hk
        have hT : atT rows k = (rows[k - 62], 0) := by
          rw [atT, if_neg h1, if_neg (by omega), Int.toNat_natCast, List.getD_eq_getElem?_getD, List.getElem?_eq_getElem hk]; rfl
        rw [hT, show rows[k - 62].never = false from hnev _ (List.getElem_mem hk)]; exact this

theorem PTab.never {w : World} {L : List Nat} {g m c : Nat} {rows : List FdM} (h : PTab w L g m rows c) : ∀ x ∈ rows, x.never = false := by
  obtain ⟨⟨c0, ad, cap, b1, b2, n1, n2, h, _⟩, _⟩ := h
  exact fun x hx => (h.2.2.2.2.2.2.2 x hx).1
theorem pat_any (L : List Nat) (g m c : Nat) (rows : List FdM) (n : Int) (w : World) (h : PTab w L g m rows c) (hn : (Lit.int .i64 n).wf = true) :
    Calls Try.prog 16 #[.pointer (some ⟨g, 0, none⟩), .int .i64 n] w fun e w' => e = .returned (.tuple #[.agg #[.string (atT rows n).1.name, .string (atT rows n).1.value, .bool (atT rows n).1.never], .int .i64 (atT rows n).2]) ∧ Below w.heap.size w w' := by
  have hsum := h.sum
  have h32 := csum_len rows
  exact pat_gen _ n rows.length rows w hn rfl h.never (Lib.hid (fun v hv => plen_any L g m c rows v (h.below hv))) (by omega) (fun k hk hlt => pat_rows L g m c k rows w h hk hlt)
theorem pat_nil (n : Int) (w : World) (hn : (Lit.int .i64 n).wf = true) :
    Calls Try.prog 16 #[.pointer none, .int .i64 n] w fun e w' => e = .returned (.tuple #[.agg #[.string (atT [] n).1.name, .string (atT [] n).1.value, .bool (atT [] n).1.never], .int .i64 (atT [] n).2]) ∧ Below w.heap.size w w' :=
  pat_gen none n 0 [] w hn rfl (fun x hx => by cases hx) (Lib.hid (fun v _ => plen_nil v)) (by omega) (fun k hk hlt => by simp at hlt)
end Go.Proofs.Ytifaecmmnconpaa
