/- What the laid table of groups gives. -/
import Derived.Test.YtabpoejimnoamaaDoorRows
import Derived.Test.YtabpoejimnoamaaDoorLaid
import Derived.Test.YtabpoejimnoamaaDoorHuf1
import Derived.Deep.Fields
namespace Go.Proofs.YtabpoejimnoamaaDoor
open Go.RowKit
open Huf

def grpRows : List (List Lit) := (List.range 31).map fun i => [.int .i64 (gC i : Nat), .int .u32 (gK i : Nat), .int .i64 (gP i : Nat)]
theorem grp_laid : (Rows.laid_drawbridge_huff_groups : DataW Unit) = .agg (grpRows.map fun r => .agg (r.map .lit)) := by kernel_rfl

theorem grpIs_of {W : World} {laid : List (String × DataW Unit)} (h : laidMet Tryd.prog laid W) (i : Nat) (hi : laid[i]? = some ("drawbridge/huff.groups", Rows.laid_drawbridge_huff_groups)) : GrpIs W := by
  rw [grp_laid] at hi
  obtain ⟨ps, hv, _⟩ := h
  have H := Laid.rowsIs_at (P := Tryd.prog) (g := 0) (t := 62) (e := 61) (n := 31) (m := 3) (by kernel_rfl) (by kernel_rfl) Tryd.underlying62 Tryd.underlying61 (by kernel_rfl)
    (by
      intro i f hf
      have : i = 0 ∨ i = 1 ∨ i = 2 ∨ 3 ≤ i := by omega
      rcases this with rfl | rfl | rfl | h
      · simp at hf; subst hf; exact ⟨rfl, by kernel_rfl, _, Tryd.underlying3⟩
      · simp at hf; subst hf; exact ⟨rfl, by kernel_rfl, _, Tryd.underlying30⟩
      · simp at hf; subst hf; exact ⟨rfl, by kernel_rfl, _, Tryd.underlying3⟩
      · rw [Array.getElem?_eq_none (by simpa using h)] at hf; cases hf)
    rfl laid ps i hv hi
  intro j hj
  have hr : grpRows[j / 3]? = some [.int .i64 (gC (j / 3) : Nat), .int .u32 (gK (j / 3) : Nat), .int .i64 (gP (j / 3) : Nat)] := by
    rw [grpRows, List.getElem?_map, List.getElem?_range (by omega)]; rfl
  have h3 : j % 3 = 0 ∨ j % 3 = 1 ∨ j % 3 = 2 := by omega
  rcases h3 with h3 | h3 | h3
  · have := H (j / 3) 0 _ _ hr rfl
    rw [show j / 3 * 3 + 0 = j from by omega] at this
    rw [this, gcell, if_neg (by omega), Laid.litV, gC, show 3 * (j / 3) = j from by omega]
  · have := H (j / 3) 1 _ _ hr rfl
    rw [show j / 3 * 3 + 1 = j from by omega] at this
    rw [this, gcell, if_pos h3, Laid.litV, gK, show 3 * (j / 3) + 1 = j from by omega]
  · have := H (j / 3) 2 _ _ hr rfl
    rw [show j / 3 * 3 + 2 = j from by omega] at this
    rw [this, gcell, if_neg (by omega), Laid.litV, gP, show 3 * (j / 3) + 2 = j from by omega]
end Go.Proofs.YtabpoejimnoamaaDoor
