/- Layer 4: the program's shrink and Resize. -/
import Derived.Test.YtifaecmmnconpaaTabP1
import Derived.Test.YtifaecmmnconpaaTabP2a
import Derived.Test.YtifaecmmnconpaaTabP2
import Derived.WalkKit
import Derived.WalkSpells
import Derived.WalkLawsBesides
import Derived.Lib.Hide
import Derived.Outline
import Derived.IntWalk
import Derived.Deep.LoopGhost
namespace Go.Proofs.Ytifaecmmnconpaa
open Go.RowKit
open Arg Tab Mem Go.Proofs.Ytifaecmmnconpaa.Obj
set_option linter.unusedVariables false

theorem PTs.head {w : World} {L : List Nat} {g m c : Nat} {rows : List FdM} (h : PTs w L g m rows c) : ∃ c0 ad cap b1 b2, w.heap[g]? = some (.cells #[.int .i64 m, .int .i64 (csum rows), .slice ad rows.length cap, .int .i64 c0, .map (some b1), .map (some b2)] 55 (0, 0)) ∧ csum rows ≤ 65536 ∧ m ≤ 65536 ∧ g ∈ L ∧ ∀ k ∈ L, k < w.heap.size := by
  obtain ⟨c0, ad, cap, b1, b2, n1, n2, h, _, _, _, hm, hs⟩ := h
  exact ⟨c0, ad, cap, b1, b2, h.2.1, hs, hm, h.1.1, h.1.2.2.2.2.2.2.1⟩

set_option maxHeartbeats 2000000 in
theorem pshrink_any (L : List Nat) (g m c : Nat) (rows : List FdM) (S : Int) (w : World) (h : PTs w L g m rows c) (hS : (Lit.int .i64 S).wf = true) :
    Calls Try.prog 29 #[.pointer (some ⟨g, 0, none⟩), .int .i64 S] w fun e w' => e = .returned (.tuple #[]) ∧ PTs w' L g m (fit S.toNat rows) c ∧ Kept L w w' := by
  have HT := Lib.hid h
  generalize hF : fit S.toNat rows = R
  have HF := Lib.hid hF
  clear h hF
  go_enter Try.func29, Try.ntmps29
  go_wp2_with fail
  go_loopg [] rows.length (fun k wr => ∃ (rows' : List FdM), k = rows'.length ∧ Hid (PTs wr L g m rows' c) ∧ Hid (fit S.toNat rows' = R) ∧ Hid (Kept L w wr))
  case atStart => exact ⟨rows, rfl, HT, HF, Lib.hid (Kept.refl L w)⟩
  case round =>
    clear HT HF
    obtain ⟨rows', rfl, HT, HF, HK⟩ := hrel
    obtain ⟨c0, ad, cap, b1, b2, hh, hs, hm, _, _⟩ := HT.out.head
    have k1 : wr.cell? ⟨g, 1, none⟩ = some (.int .i64 (csum rows')) := cell_at hh 1
    have k2 : wr.cell? ⟨g, 2, none⟩ = some (.slice ad rows'.length cap) := cell_at hh 2
    have hlen := csum_len rows'
    clear hh
    by_cases hbig : S < csum rows'
    · by_cases hpos : 0 < rows'.length
      · have hpos' : (0 : Int) < rows'.length := by omega
        have hne : rows' ≠ [] := fun e => by rw [e] at hpos; simp at hpos
        have hdl : rows'.dropLast ++ [rows'.getLast hne] = rows' := List.dropLast_concat_getLast hne
        have HD := Lib.hid (pdrop_any L g m c rows'.dropLast (rows'.getLast hne) wr (by rw [hdl]; exact HT.out))
        have hl1 : rows'.dropLast.length = rows'.length - 1 := List.length_dropLast
        have HFd : Hid (fit S.toNat rows'.dropLast = R) := Lib.hid (by
          rw [← HF.out, fit_drop rows' S.toNat ?_]
          have : 32 ≤ csum rows' := by omega
          omega)
        generalize hcs : csum rows' = cs at *
        generalize hln : rows'.length = ln at *
        clear HF HT
        go_wp2_with fail
        refine HD.out.mono ?_; rintro e w1 ⟨rfl, T1, K1⟩
        go_wp2_with fail
        go_roundg (ln - 1)
        case measure => omega
        case rel => exact ⟨rows'.dropLast, by omega, Lib.hid T1, HFd, Lib.hid (HK.out.trans K1 (fun i hi => .inl hi))⟩
      · have h0 : rows' = [] := List.eq_nil_iff_length_eq_zero.mpr (by omega)
        subst h0
        have hR : R = [] := HF.out.symm
        subst hR
        have hbig' : S < 0 := by simpa [csum] using hbig
        simp only [csum, List.length_nil] at k1 k2
        go_wp2_with fail
        go_end0
        exact ⟨rfl, HT.out, HK.out⟩
    · have hR : R = rows' := by rw [← HF.out, fit_all _ _ (by omega)]
      subst hR
      have hbig' : decide (S < csum R) = false := by simp; omega
      generalize hcs : csum R = cs at *
      generalize hln : R.length = ln at *
      go_wp2_with fail
      go_end0
      exact ⟨rfl, HT.out, HK.out⟩

theorem fit_sum2 (l : List FdM) (n : Nat) : csum (fit n l) ≤ csum l := by
  rcases Nat.lt_or_ge n (csum l) with h | h
  · exact Nat.le_trans (fit_sum l n) (by omega)
  · rw [fit_all l n h]; exact Nat.le_refl _

theorem presize_bad (L : List Nat) (g m c : Nat) (m2 : Int) (rows : List FdM) (w : World) (h : PTab w L g m rows c) (hm : m2 < 0 ∨ 65536 < m2) :
    Calls Try.prog 19 #[.pointer (some ⟨g, 0, none⟩), .int .i64 m2] w fun e w' => e = .returned (.int .i64 1) ∧ Below w.heap.size w w' := by
  have HS := Lib.hid (fun v => sized_any m2 v)
  rw [show decide (0 ≤ m2 ∧ m2 ≤ 65536) = false by simp; omega] at HS
  clear h
  go_enter Try.func19, Try.ntmps19
  go_wp2_with fail
  refine (HS.out _).mono ?_; rintro e w1 ⟨rfl, b1⟩
  go_wp2_with fail
  go_ret
  exact ⟨rfl, b1⟩
theorem presize_nil (m2 : Int) (w : World) : Calls Try.prog 19 #[.pointer none, .int .i64 m2] w fun e w' => e = .returned (.int .i64 1) ∧ Below w.heap.size w w' := by
  go_enter Try.func19, Try.ntmps19
  go_wp2_with fail
  go_ret
  exact ⟨rfl, Below.refl _ _⟩
set_option maxHeartbeats 2000000 in
theorem presize_ok (L : List Nat) (g m m2 c : Nat) (rows : List FdM) (w : World) (h : PTab w L g m rows c) (hm : m2 ≤ 65536) :
    Calls Try.prog 19 #[.pointer (some ⟨g, 0, none⟩), .int .i64 m2] w fun e w' => e = .returned (.int .i64 0) ∧ ∃ L', PTab w' L' g m2 (fit m2 rows) c ∧ Kept L w w' ∧ ∀ k ∈ L', k ∈ L ∨ w.heap.size ≤ k := by
  have HS := Lib.hid (fun v => sized_any m2 v)
  rw [show decide ((0 : Int) ≤ m2 ∧ (m2 : Int) ≤ 65536) = true by simp; omega] at HS
  have HT := Lib.hid h
  obtain ⟨c0, ad, cap, b1, b2, hh, hs, hm', hgL, hkL⟩ := h.1.head
  have HSt : Hid (∀ v, Below w.heap.size w v → PTs (v.setCell ⟨g, 0, none⟩ (.int .i64 m2)) L g m2 rows c) := Lib.hid (fun v hv => by
    obtain ⟨c0, ad, cap, b1, b2, n1, n2, hP, hc0, hn1, hn2, _, hs⟩ := h.1.below hv
    obtain ⟨⟨hg, hb1, hb2, hgb1, hgb2, hbb, hk, ha⟩, hh, hq, hm1, hm2, hl⟩ := hP
    have hset := heap_setCell_same v g 0 _ _ (.int .i64 m2) hh
    have hsz : (v.setCell ⟨g, 0, none⟩ (.int .i64 m2)).heap.size = v.heap.size := by simp [World.setCell]
    have hoth : ∀ k, k ≠ g → (v.setCell ⟨g, 0, none⟩ (.int .i64 m2)).heap[k]? = v.heap[k]? := fun k hkg => Below.heap_setCell _ _ _ _ hkg
    exact ⟨c0, ad, cap, b1, b2, n1, n2, ⟨⟨hg, hb1, hb2, hgb1, hgb2, hbb, fun k h => by rw [hsz]; exact hk k h, ha⟩, hset, hq.block (by rw [hsz]; exact Nat.le_refl _) (fun b o s e => hoth b (ha b o s e).2.1), hm1.block (hoth b1 (fun e => hgb1 e.symm)), hm2.block (hoth b2 (fun e => hgb2 e.symm)), hl⟩, hc0, hn1, hn2, hm, hs⟩)
  have HH := Lib.hid hh
  clear h hh
  go_enter Try.func19, Try.ntmps19
  go_wp2_with fail
  refine (HS.out _).mono ?_; rintro e w1 ⟨rfl, b1⟩
  have hh1 := block_below b1 HH.out
  have k0 := cell_at hh1 0
  have f0 := frozen_of_row _ _ 0 _ _ hh1
  have HSh := Lib.hid (pshrink_any L g m2 c rows m2 _ (HSt.out w1 b1) (WalkArith.wf_i64 (by omega)))
  have HKs := Lib.hid (((Kept.refl L w).then b1).setCell (p := ⟨g, 0, none⟩) (.inl hgL) (.int .i64 m2))
  clear hh1 HSt
  go_wp2_with fail
  refine HSh.out.mono ?_; rintro e w2 ⟨rfl, T2, K2⟩
  go_wp2_with fail
  go_ret
  exact ⟨rfl, L, ⟨by simpa using T2, fit_sum rows m2⟩, HKs.out.trans K2 (fun i hi => .inl hi), fun k hk => .inl hk⟩
end Go.Proofs.Ytifaecmmnconpaa
