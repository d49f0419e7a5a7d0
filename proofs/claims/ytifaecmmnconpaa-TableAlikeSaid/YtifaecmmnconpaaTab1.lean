/- Layer 4: the document's Static, Cost, Size. -/
import Derived.Test.YtifaecmmnconpaaRows
import Derived.Test.YtifaecmmnconpaaRun
import Derived.Test.YtifaecmmnconpaaTabPure
import Derived.Test.YtifaecmmnconpaaObj
import Derived.WalkKit
import Derived.WalkSpells
import Derived.WalkLawsBesides
import Derived.Lib.Hide
import Derived.Outline
import Derived.Deep.Cut
namespace Go.Proofs.Ytifaecmmnconpaa
open Go.RowKit
open Arg Tab Run Mem Go.Proofs.Ytifaecmmnconpaa.Obj
set_option linter.unusedVariables false

set_option maxRecDepth 100000 in
theorem static_any (w : World) :
    Calls Try.prog 28 #[] w fun e w' => e = .returned (.slice (some ⟨w.heap.size, 0, none⟩) 61 61) ∧ w' = w.alloc (.cells (Rw.flat EFd statics).toArray 36) := by
  go_enter Try.func28, Try.ntmps28
  go_upto_region 1 with (fail)
  refine wp_region_slot 0 (.slice (some ⟨w.heap.size, 0, none⟩) 61 61) (w.alloc (.cells (Rw.flat EFd statics).toArray 36)) (by kernel_rfl) ?_
  rintro ⟨tm, df⟩ ht hd hs
  simp only at ht hd
  subst hd
  have HT := Lib.hid ht
  clear ht hs
  go_wp2_with fail
  exact bodyPost_ret (v := .slice (some ⟨w.heap.size, 0, none⟩) 61 61) (by simp [results, Try.results28, go_sem]; simpa using HT.out) rfl ⟨rfl, rfl⟩

theorem cost_any (f : FdM) (w : World) (hn : f.name.size ≤ 140737488351232) (hv : f.value.size ≤ 140737488351232) :
    Calls Try.prog 22 #[.agg #[.string f.name, .string f.value, .bool f.never]] w fun e w' => e = .returned (.int .i64 (cost f)) ∧ Below w.heap.size w w' := by
  obtain ⟨n, v, b⟩ := f
  simp only at hn hv
  have HC : Hid ((cost ⟨n, v, b⟩ : Int) = n.size + v.size + 32) := Lib.hid (by show ((n.size + v.size + 32 : Nat) : Int) = _; omega)
  generalize cost ⟨n, v, b⟩ = c at HC ⊢
  go_enter Try.func22, Try.ntmps22
  go_wp2_with fail
  go_ret
  exact ⟨by rw [HC.out]; rfl, (Below.refl _ _).alloc (Nat.le_refl _) _⟩

/-- The document's table in memory: its own two cells, and its rows, the youngest first. -/
def RTab (w : World) (L : List Nat) (g : Nat) (m : Nat) (rows : List FdM) : Prop :=
  ∃ ad cap, g ∈ L ∧ w.heap[g]? = some (.cells #[.int .i64 m, .slice ad rows.length cap] 32 (0, 0)) ∧ rows.length ≤ cap ∧ cap ≤ maxLen ∧ (ad = none → cap = 0) ∧ (∀ b o s, ad = some ⟨b, o, s⟩ → b ∈ L ∧ b ≠ g) ∧
    Rw.RowE EFd w ad rows ∧ (∀ k ∈ L, k < w.heap.size)

theorem RTab.blocks {w : World} {L : List Nat} {g m : Nat} {rows : List FdM} (h : RTab w L g m rows) : ∀ k ∈ L, k < w.heap.size := by
  obtain ⟨ad, cap, hg, hh, hl, hm, hz, ha, hr, hk⟩ := h; exact hk
theorem RTab.kept {w w' : World} {L : List Nat} {g m : Nat} {rows : List FdM} (h : RTab w L g m rows) (hs : w.heap.size ≤ w'.heap.size) (hb : ∀ k ∈ L, w'.heap[k]? = w.heap[k]?) : RTab w' L g m rows := by
  obtain ⟨ad, cap, hg, hh, hl, hm, hz, ha, hr, hk⟩ := h
  exact ⟨ad, cap, hg, (hb g hg).trans hh, hl, hm, hz, ha, hr.block (fun b o e => hb b (ha b o none e).1), fun k hkL => Nat.lt_of_lt_of_le (hk k hkL) hs⟩
theorem RTab.below {w w' : World} {L : List Nat} {g m : Nat} {rows : List FdM} (h : RTab w L g m rows) (hb : Below w.heap.size w w') : RTab w' L g m rows := by
  have hk : ∀ k ∈ L, k < w.heap.size := by obtain ⟨ad, cap, hg, hh, hl, hm, hz, ha, hr, hk⟩ := h; exact hk
  exact h.kept hb.size (fun k hkL => hb.block k (hk k hkL))

set_option maxHeartbeats 1000000 in
theorem rsize_at (g n cap : Nat) (ad : Option Addr) (rows : List FdM) (m : Int) (w : World) (hn : n = rows.length) (h0 : w.cell? ⟨g, 0, none⟩ = some (.int .i64 m)) (h1 : w.cell? ⟨g, 1, none⟩ = some (.slice ad n cap)) (hcap : n ≤ cap) (hmax : cap ≤ maxLen)
    (hr : Rw.RowE EFd w ad rows) (hs : csum rows ≤ 1000000) :
    Calls Try.prog 14 #[.pointer (some ⟨g, 0, none⟩)] w fun e w' => e = .returned (.int .i64 (csum rows)) ∧ Below w.heap.size w w' := by
  unfold maxLen at hmax
  have H0 := Lib.hid h0
  have H1 := Lib.hid h1
  have HR := Lib.hid hr
  have HL := Lib.hid hn
  generalize hC : csum rows = C at hs
  have HC := Lib.hid hC
  have hn32 : 32 * n ≤ C := by rw [← hC, hn]; exact csum_len rows
  clear h0 h1 hr hn hC
  go_enter Try.func14, Try.ntmps14
  go_wp2_with fail
  go_loopw [3, 4] (fun v i wr => ∃ (k b : Nat), k ≤ n ∧ i = .int .i64 k ∧ v = .int .i64 b ∧ b ≤ C ∧ Hid (b + csum (rows.drop k) = C) ∧ Below w.heap.size w wr) (fun _ i _ => n - (intOf i).toNat)
  case atStart => exact ⟨0, 0, by omega, rfl, rfl, by omega, Lib.hid (by rw [List.drop_zero, HC.out]; omega), Below.refl _ _⟩
  case round =>
    obtain ⟨k, b, hk, rfl, rfl, hb, HF, hbel⟩ := hrel
    have c1 : wr.cell? ⟨g, 1, none⟩ = some (.slice ad n cap) := below_cell hbel H1.out
    by_cases hlt : k < n
    · have hlt' : (k : Int) < n := by omega
      have hlr : k < rows.length := by rw [← HL.out]; exact hlt
      obtain ⟨bl, off, rfl, hc⟩ : ∃ b off, ad = some ⟨b, off, none⟩ ∧ ∀ i, (h : i < rows.length) → Rw.CE EFd w b (off + i * 3) rows[i] := by
        rcases HR.out with h | h
        · rw [h] at hlr; simp at hlr
        · exact h
      obtain ⟨d0, d1, d2⟩ := CE_fd (hc k hlr)
      have e0 := below_cell hbel d0
      have e1 := below_cell hbel d1
      have e2 := below_cell hbel d2
      have HF1 : Hid (b + (cost rows[k] + csum (rows.drop (k + 1))) = C) := Lib.hid (by
        have h := HF.out
        rw [List.drop_eq_getElem_cons hlr, csum] at h
        exact h)
      have hcs : cost rows[k] ≤ 1000000 := by have := HF1.out; omega
      have hb2 : b + cost rows[k] ≤ C := by have := HF1.out; omega
      have HF2 : Hid (b + cost rows[k] + csum (rows.drop (k + 1)) = C) := Lib.hid (by have := HF1.out; omega)
      have HCo := Lib.hid (fun v => cost_any rows[k] v (by unfold cost at hcs; omega) (by unfold cost at hcs; omega))
      clear d0 d1 d2 hc HF HF1
      generalize rows[k] = f at *
      obtain ⟨fn, fv, fb⟩ := f
      simp only at e0 e1 e2 HCo
      generalize cost ⟨fn, fv, fb⟩ = c at *
      go_wp2_with fail
      refine (HCo.out _).mono ?_; rintro e w1 ⟨rfl, hb1⟩
      replace hb1 := below_step hbel hb1
      go_wp2_with fail
      go_roundw
      case rel => exact ⟨k + 1, b + c, by omega, by go_num, by go_num, hb2, HF2, hb1⟩
      case measure => simp [intOf]; omega
    · have hlt' : ¬ (k : Int) < n := by omega
      have hbC : b = C := by
        have h := HF.out
        rw [List.drop_of_length_le (by rw [← HL.out]; omega), csum] at h; omega
      subst hbC
      clear HF HC
      go_wp2_with fail
      go_ret
      exact ⟨rfl, hbel⟩
end Go.Proofs.Ytifaecmmnconpaa
