/- Layer 4: the program's rows that never change. -/
import Derived.Test.YtifaecmmnconpaaRows
import Derived.Test.YtifaecmmnconpaaRun
import Derived.Test.YtifaecmmnconpaaRun2
import Derived.Test.YtifaecmmnconpaaTabP1
import Derived.WalkKit
import Derived.WalkSpells
import Derived.WalkLawsBesides
import Derived.Lib.Hide
import Derived.Outline
import Derived.Deep.Cut
namespace Go.Proofs.Ytifaecmmnconpaa
open Go.RowKit
open Arg Tab Run Mem Go.Proofs.Ytifaecmmnconpaa.Obj
set_option linter.unusedVariables false

def noFd : FdM := ⟨ByteArray.empty, ByteArray.empty, false⟩
/-- By their numbers; none has the number 0. -/
def fixL : List FdM := noFd :: statics
def FIX : Array Value := (Rw.flat EPr fixL).toArray
theorem fixL_len : fixL.length = 62 := rfl
theorem FIX_size : FIX.size = 124 := by kernel_rfl
theorem FIX_one : FIX.all (·.oneCell') = true := by kernel_rfl
def zeroFix : Array Value := (List.replicate 124 (Value.string ByteArray.empty)).toArray
theorem info_fix : (Try.prog.info? 59).map (·.size) = some FIX.size := by kernel_rfl
theorem under_fix : ∃ d, Try.prog.underlying 59 = some d ∧ d.isRow = true := ⟨_, Try.underlying59, rfl⟩

theorem fix_there (w : World) : (w.alloc (.cells zeroFix 59)).there w.heap.size 0 FIX.size := by
  intro j hj
  have hh := heap_alloc_new w (.cells zeroFix 59)
  rw [FIX_size] at hj
  refine ⟨?_, frozen_of_row _ _ _ _ _ hh⟩
  rw [Nat.zero_add, cell_at hh j, Array.getElem?_eq_getElem (by simp [zeroFix]; omega)]; rfl

theorem results_cell {P : Program} {fn : Func} {s : Tmp} {t : TypeId} (h : fn.results = #[.cell s t]) {tmps : Array Value} {w : World} {b : Addr} {v : Value} (hp : tmps.getD s undef = .pointer (some b)) (hl : (loadVar t b).run P w = .ok v w) : (results fn tmps).run P w = .ok v w := by
  unfold results
  rw [h]
  have hp' : tmps[s]?.getD undef = .pointer (some b) := by rw [← hp]; simp [Array.getD_eq_getD_getElem?]
  simp [asAddr, hp', hl, Result.andThen]

set_option maxRecDepth 100000 in
theorem pfixed_any (w : World) :
    Calls Try.prog 26 #[] w fun e w' => e = .returned (.agg FIX) ∧ Below w.heap.size w w' := by
  have HT := Lib.hid (fix_there w)
  go_enter Try.func26, Try.ntmps26
  refine wp_seq ?_
  refine wp_region_put 0 (.pointer (some ⟨w.heap.size, 0, none⟩)) (w.alloc (.cells zeroFix 59)) (by kernel_rfl) ?_
  have HB : Below w.heap.size w (w.alloc (.cells zeroFix 59)) := (Below.refl _ _).alloc (Nat.le_refl _) _
  generalize hbw : w.heap.size = b at HT ⊢
  generalize w.alloc (.cells zeroFix 59) = w1 at HT HB ⊢
  change Code.wp _ _ _ _ _
  refine wp_seq ?_
  refine wp_region_store 62 0 62 _ 59 b FIX rfl rfl rfl rfl (by kernel_rfl) HT.out info_fix FIX_one ?_
  rintro ⟨tm, df⟩ ht hd hs
  simp only at ht hd
  have hd' : df = [] := hd
  subst hd'
  obtain ⟨d, hu, hrow⟩ := under_fix
  have hload := run_loadVar_mid (P := Try.prog) (w1.setCells b 0 FIX.toList) b 0 59 FIX.toList d (World.rangeAt_setCells_same w1 b 0 FIX.toList (by simpa using HT.out)) hu hrow (by simpa using info_fix)
  rw [Array.toArray_toList] at hload
  have hbel : Below b w (w1.setCells b 0 FIX.toList) := by
    subst hbw
    exact HB.grown (Rw.grown_setCells w.heap.size _ _ _) HB.size (fun j hj => by cases hj; exact Nat.le_refl _)
  change Code.wp _ Code.ret _ _ _
  refine wp_ret ?_
  generalize w1.setCells b 0 FIX.toList = w2 at hload hbel ⊢
  generalize FIX = F at hload ⊢
  exact ⟨rfl, .agg F, results_cell rfl ht hload, rfl, hbel⟩

theorem FIX_at (n : Nat) (h : n < fixL.length) : FIX.extract (n * 2) (n * 2 + 2) = #[.string fixL[n].name, .string fixL[n].value] := by
  have h0 := Rw.flat_of EPr fixL n 0 h (.string fixL[n].name) rfl
  have h1 := Rw.flat_of EPr fixL n 1 h (.string fixL[n].value) rfl
  have e : EPr.k = 2 := rfl
  rw [e] at h0 h1
  have hlen := FIX_size
  rw [fixL_len] at h
  apply Array.ext_getElem?
  intro i
  rw [Array.getElem?_extract]
  rcases i with _ | _ | i
  · rw [if_pos (by omega)]; simpa [FIX] using h0
  · rw [if_pos (by omega)]; simpa [FIX] using h1
  · rw [if_neg (by omega)]; rfl
theorem size_pr (w : World) : (sizeOf 58).run Try.prog w = .ok 2 w := by kernel_rfl
theorem agg_pr (w : World) : (isAgg 58).run Try.prog w = .ok true w := by kernel_rfl
theorem index_fix (n : Nat) (h : n < fixL.length) (w : World) : (Instr.index 59 (.agg FIX) (.int .i64 n)).run Try.prog w = .ok (.agg #[.string fixL[n].name, .string fixL[n].value]) w := by
  have he := FIX_at n h
  generalize fixL[n].name = a at he ⊢
  generalize fixL[n].value = b at he ⊢
  have h' : n < 62 := by rw [fixL_len] at h; omega
  have h0 : (0 : Int) ≤ n := by omega
  generalize FIX = F at he ⊢
  simp [Instr.index, asIntOf, run_underlying Try.underlying59, part, agg_pr, size_pr, Result.andThen, h', h0, he]

/-- The field that a row is told as. -/
theorem pfield_any (n v : ByteArray) (w : World) :
    Calls Try.prog 27 #[.agg #[.string n, .string v]] w fun e w' => e = .returned (.agg #[.string n, .string v, .bool false]) ∧ Below w.heap.size w w' := by
  go_enter Try.func27, Try.ntmps27
  go_wp2_with fail
  have hh : ((w.alloc (.cells #[.string n, .string v] 58)).alloc (.cells #[.string n, .string v, .bool false] 36)).heap[w.heap.size + 1]? = some (.cells #[.string n, .string v, .bool false] 36 (0, 0)) := by
    have h := heap_alloc_new (w.alloc (.cells #[.string n, .string v] 58)) (.cells #[.string n, .string v, .bool false] 36)
    rwa [show (w.alloc (.cells #[.string n, .string v] 58)).heap.size = w.heap.size + 1 by simp] at h
  have s0 := cell_at hh 0
  have s1 := cell_at hh 1
  have s2 := cell_at hh 2
  have HB : Below w.heap.size w ((w.alloc (.cells #[.string n, .string v] 58)).alloc (.cells #[.string n, .string v, .bool false] 36)) := ((Below.refl _ _).alloc (Nat.le_refl _) _).alloc (by simp) _
  generalize ((w.alloc (.cells #[.string n, .string v] 58)).alloc (.cells #[.string n, .string v, .bool false] 36)) = w2 at s0 s1 s2 HB ⊢
  clear hh
  exact bodyPost_ret (v := .agg #[.string n, .string v, .bool false]) (by simp [results, Try.results27, go_sem, s0, s1, s2]) rfl ⟨rfl, HB⟩
end Go.Proofs.Ytifaecmmnconpaa
