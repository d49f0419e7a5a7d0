/- Layer 5: the program's writing: which way a field is written, and that it is. Layer 5: the program's encoder: what it tells of sizes. -/
import Derived.Test.YtdkgachgohilcaaDoorGP14
import Derived.Outline
import Derived.BigQuiet
set_option linter.unusedVariables false
set_option linter.unusedSimpArgs false
namespace Go.Proofs.YtdkgachgohilcaaDoor
open Go.RowKit
open Huf Pre Tab Hpk Arg Mem Gen Wr Go.Proofs.YtdkgachgohilcaaDoor.Obj
set_option linter.unusedVariables false
variable {B : Nat} {w0 w : World} {L0 L : List Nat} {wb t m c : Nat} {rows : List FdM} {out : List UInt8}

set_option maxRecDepth 100000 in
set_option maxHeartbeats 1000000 in
theorem phcost_any (f : FdM) (w : World) (hn : f.name.size ≤ 140737488351232) (hv : f.value.size ≤ 140737488351232) :
    Calls Tryd.prog 68 #[.agg #[.string f.name, .string f.value, .bool f.never]] w fun e w' => e = .returned (.int .i64 (cost f)) ∧ Below w.heap.size w w' := by
  have hbx := fd_box w f
  have hb := below_alloc w (.cells #[.string f.name, .string f.value, .bool f.never] 59)
  generalize hwn : (w.alloc (.cells #[.string f.name, .string f.value, .bool f.never] 59)) = w1 at hbx hb
  generalize hbn : w.heap.size = b at *
  have HWN := Lib.hid hwn
  have HBN := Lib.hid hbn
  obtain ⟨q0, q1, q2⟩ := box_cells hbx
  have hc : ((cost f : Nat) : Int) = f.name.size + f.value.size + 32 := by unfold cost; omega
  have HC := Lib.hid hc
  have hs1 : wrap64 ((f.name.size : Int) + f.value.size) = (f.name.size : Int) + f.value.size := IntWalk.wrap64_in _ (by omega)
  have hs2 : wrap64 ((f.name.size : Int) + f.value.size + 32) = (f.name.size : Int) + f.value.size + 32 := IntWalk.wrap64_in _ (by omega)
  clear hwn hbn hbx hc
  go_enter Tryd.func68, Tryd.ntmps68
  go_wp2_with fail
  simp only [HWN.out, HBN.out]
  go_wp2_with fail
  go_ret
  exact ⟨by rw [HC.out]; rfl, hb⟩

theorem tl_iff (s : ByteArray) (l : List UInt8) (a : Array UInt8) (h : l = a.toList) : s.toList = l ↔ s = ⟨a⟩ := by
  rw [ByteArray.toList_eq, h]
  constructor
  · intro e; cases s; simp only at e; rw [Array.toList_inj.mp e]
  · intro e; rw [e]
def secN (s : ByteArray) : Bool := decide (s = ⟨#[97, 117, 116, 104, 111, 114, 105, 122, 97, 116, 105, 111, 110]⟩) || decide (s = ⟨#[115, 101, 116, 45, 99, 111, 111, 107, 105, 101]⟩)
theorem nevF_sec (f : FdM) : nevF f = (f.never || secN f.name) := by rw [nevF, secN, Bool.or_assoc]
set_option maxRecDepth 100000 in
set_option maxHeartbeats 1000000 in
theorem psecret_any (s : ByteArray) (w : World) :
    Calls Tryd.prog 82 #[.string s] w fun e w' => e = .returned (.bool (secN s)) ∧ w = w' := by
  go_enter Tryd.func82, Tryd.ntmps82
  by_cases h1 : s = ⟨#[97, 117, 116, 104, 111, 114, 105, 122, 97, 116, 105, 111, 110]⟩
  · have h1b : s.toList = [97, 117, 116, 104, 111, 114, 105, 122, 97, 116, 105, 111, 110] := (tl_iff s _ _ rfl).mpr h1
    go_wp2_with fail
    go_ret
    exact ⟨by simp [secN, h1], rfl⟩
  · have h1b : ¬ s.toList = [97, 117, 116, 104, 111, 114, 105, 122, 97, 116, 105, 111, 110] := fun e => h1 ((tl_iff s _ _ rfl).mp e)
    have hs : secN s = decide (s = ⟨#[115, 101, 116, 45, 99, 111, 111, 107, 105, 101]⟩) := by simp [secN, h1]
    rw [hs]
    clear hs h1
    by_cases h2 : s = ⟨#[115, 101, 116, 45, 99, 111, 111, 107, 105, 101]⟩
    · have h2b : s.toList = [115, 101, 116, 45, 99, 111, 111, 107, 105, 101] := (tl_iff s _ _ rfl).mpr h2
      rw [decide_eq_true h2]
      clear h2
      go_wp2_with fail
      go_ret
      exact ⟨rfl, rfl⟩
    · have h2b : ¬ s.toList = [115, 101, 116, 45, 99, 111, 111, 107, 105, 101] := fun e => h2 ((tl_iff s _ _ rfl).mp e)
      rw [decide_eq_false h2]
      clear h2
      have e1 : (s.toList == [97, 117, 116, 104, 111, 114, 105, 122, 97, 116, 105, 111, 110]) = false := beq_eq_false_iff_ne.mpr h1b
      have e2 : (s.toList == [115, 101, 116, 45, 99, 111, 111, 107, 105, 101]) = false := beq_eq_false_iff_ne.mpr h2b
      go_wp2_with fail
      go_ret
      exact ⟨rfl, rfl⟩

def wayN (f : FdM) (same : Bool) (m : Nat) : Nat := if nevF f = true then 83 else if same = true then 84 else if m < cost f then 85 else 86

set_option maxRecDepth 100000 in
set_option maxHeartbeats 1000000 in
theorem pway_any (f : FdM) (same : Bool) (h : ESt B w0 L0 L wb t m c rows out w) (hn : f.name.size ≤ 1048576) (hv : f.value.size ≤ 1048576) :
    Calls Tryd.prog 64 #[.pointer (some ⟨wb, 0, none⟩), .agg #[.string f.name, .string f.value, .bool f.never], .bool same] w fun e w' => e = .returned (.func (.func (wayN f same m)) #[.pointer (some ⟨wb, 0, none⟩)] #[]) ∧ Below w.heap.size w w' := by
  have hmf : ∀ (fn : Fn) (first cap : Array Value) (w : World), (Instr.makeFunc fn first cap).run Tryd.prog w = .ok (.func fn first cap) w := fun _ _ _ _ => rfl
  have h1 := h.below (below_alloc w (.cells #[.string f.name, .string f.value, .bool f.never] 59))
  have hbx := fd_box w f
  have hb := below_alloc w (.cells #[.string f.name, .string f.value, .bool f.never] 59)
  generalize hwn : (w.alloc (.cells #[.string f.name, .string f.value, .bool f.never] 59)) = w1 at hbx hb h1
  generalize hbn : w.heap.size = b at *
  have HWN := Lib.hid hwn
  have HBN := Lib.hid hbn
  obtain ⟨q0, q1, q2⟩ := box_cells hbx
  obtain ⟨oa, oc, hw2, _⟩ := h1.wr.ex
  have pw := cell_at hw2 0
  have HS := Lib.hid (fun v => psecret_any f.name v)
  have HCo := Lib.hid (fun v => phcost_any f v (by omega) (by omega))
  have HMo := Lib.hid (fun v (hb : Below w1.heap.size w1 v) => pmost_any L t m c rows v (h1.tab.below hb))
  have HB := Lib.hid hb
  have HBB := Lib.hid (fun v (hv : Below w1.heap.size w1 v) => (hb.trans (hv.mono (by have := hb.size; omega)) : Below b w v))
  have hN := nevF_sec f
  have hM := h1.tab.sum
  have hcost : cost f ≤ 10000000 := by unfold cost; omega
  clear hwn hbn hbx h h1 hw2 hb
  obtain ⟨fn, fv, fb⟩ := f
  simp only at q0 q1 q2 HS HCo hN hcost HWN HBN ⊢
  by_cases hne : nevF ⟨fn, fv, fb⟩ = true
  · have hW : wayN ⟨fn, fv, fb⟩ same m = 83 := by rw [wayN, if_pos hne]
    rw [hW]
    clear hW
    rw [hN] at hne
    cases fb with
    | true =>
      go_enter Tryd.func64, Tryd.ntmps64
      go_wp2_with fail
      simp only [HWN.out, HBN.out]
      go_wp2_with fail
      go_ret
      exact ⟨rfl, HB.out⟩
    | false =>
      have hsc : secN fn = true := by simpa using hne
      rw [hsc] at HS
      go_enter Tryd.func64, Tryd.ntmps64
      go_wp2_with fail
      simp only [HWN.out, HBN.out]
      go_wp2_with fail
      refine (HS.out _).mono ?_; rintro e w2 ⟨rfl, rfl⟩
      go_wp2_with fail
      go_ret
      exact ⟨rfl, HB.out⟩
  · have hW : wayN ⟨fn, fv, fb⟩ same m = (if same = true then 84 else if m < cost ⟨fn, fv, fb⟩ then 85 else 86) := by rw [wayN, if_neg hne]
    rw [hW]
    clear hW
    rw [hN] at hne
    have hfb : fb = false := by cases fb <;> simp at hne ⊢
    subst hfb
    have hsc : secN fn = false := by simpa using hne
    rw [hsc] at HS
    clear hne hN hsc
    cases same with
    | true =>
      rw [if_pos rfl]
      go_enter Tryd.func64, Tryd.ntmps64
      go_wp2_with fail
      simp only [HWN.out, HBN.out]
      go_wp2_with fail
      refine (HS.out _).mono ?_; rintro e w2 ⟨rfl, rfl⟩
      go_wp2_with fail
      go_ret
      exact ⟨rfl, HB.out⟩
    | false =>
      rw [if_neg (by simp)]
      generalize cost ⟨fn, fv, false⟩ = C at *
      have hb0 : Below w1.heap.size w1 w1.drew := (Below.refl _ _).drew
      by_cases hgt : m < C
      · rw [if_pos hgt]
        have hgt' : (m : Int) < C := by omega
        go_enter Tryd.func64, Tryd.ntmps64
        go_wp2_with fail
        simp only [HWN.out, HBN.out]
        go_wp2_with fail
        refine (HS.out _).mono ?_; rintro e w2 ⟨rfl, rfl⟩
        go_wp2_with fail
        go_region_held3 (fun v => v.cell? ⟨wb, 0, none⟩ = some (.pointer (some ⟨t, 0, none⟩)) ∧ v.cell? ⟨b, 0, none⟩ = some (.string fn) ∧ v.cell? ⟨b, 1, none⟩ = some (.string fv) ∧ v.cell? ⟨b, 2, none⟩ = some (.bool false))
          (first | go_keep | exact ⟨below_cell hb0 pw, below_cell hb0 q0, below_cell hb0 q1, below_cell hb0 q2⟩)
          ((first | (go_at_call 68; refine (HCo.out _).mono ?_; rintro e w2 ⟨rfl, b2⟩; replace hb0 := below_step hb0 b2) | (go_at_call 61; refine (HMo.out _ hb0).mono ?_; rintro e w2 ⟨rfl, b2⟩; replace hb0 := below_step hb0 b2)))
        all_goals
          go_wp2_with fail
          go_ret
          exact ⟨rfl, HBB.out _ hb0⟩
      · rw [if_neg hgt]
        have hgt' : ¬ (m : Int) < C := by omega
        go_enter Tryd.func64, Tryd.ntmps64
        go_wp2_with fail
        simp only [HWN.out, HBN.out]
        go_wp2_with fail
        refine (HS.out _).mono ?_; rintro e w2 ⟨rfl, rfl⟩
        go_wp2_with fail
        go_region_held3 (fun v => v.cell? ⟨wb, 0, none⟩ = some (.pointer (some ⟨t, 0, none⟩)) ∧ v.cell? ⟨b, 0, none⟩ = some (.string fn) ∧ v.cell? ⟨b, 1, none⟩ = some (.string fv) ∧ v.cell? ⟨b, 2, none⟩ = some (.bool false))
          (first | go_keep | exact ⟨below_cell hb0 pw, below_cell hb0 q0, below_cell hb0 q1, below_cell hb0 q2⟩)
          ((first | (go_at_call 68; refine (HCo.out _).mono ?_; rintro e w2 ⟨rfl, b2⟩; replace hb0 := below_step hb0 b2) | (go_at_call 61; refine (HMo.out _ hb0).mono ?_; rintro e w2 ⟨rfl, b2⟩; replace hb0 := below_step hb0 b2)))
        all_goals
          go_wp2_with fail
          go_ret
          exact ⟨rfl, HBB.out _ hb0⟩

set_option maxRecDepth 100000 in
set_option maxHeartbeats 1000000 in
theorem pwfield_never (f : FdM) (n : Nat) (same : Bool) (R : Ending → World → Prop) (hR : ∀ v, R (.returned (.tuple #[])) v → R (.returned (.tuple #[])) v) (h : ESt B w0 L0 L wb t m c rows out w) (hn : f.name.size ≤ 1048576) (hv : f.value.size ≤ 1048576) (hf : findT rows f = (n, same)) (hW : wayN f same m = 83)
    (HC : Hid (∀ v, ESt B w0 L0 L wb t m c rows out v → Calls Tryd.prog 83 #[.pointer (some ⟨wb, 0, none⟩), .agg #[.string f.name, .string f.value, .bool f.never], .int .i64 n] v fun e w' => e = .returned (.tuple #[]) ∧ R e w')) :
    Calls Tryd.prog 44 #[.pointer (some ⟨wb, 0, none⟩), .agg #[.string f.name, .string f.value, .bool f.never]] w fun e w' => e = .returned (.tuple #[]) ∧ R e w' := by
  have h1 := h.below (below_alloc w (.cells #[.string f.name, .string f.value, .bool f.never] 59))
  have hbx := fd_box w f
  generalize hwn : (w.alloc (.cells #[.string f.name, .string f.value, .bool f.never] 59)) = w1 at hbx h1
  generalize hbn : w.heap.size = b at *
  have HWN := Lib.hid hwn
  have HBN := Lib.hid hbn
  have HBX := Lib.hid hbx
  obtain ⟨q0, q1, q2⟩ := box_cells hbx
  obtain ⟨oa, oc, hw2, _⟩ := h1.wr.ex
  have pw := cell_at hw2 0
  have HF := Lib.hid (fun v (hv : Below w1.heap.size w1 v) => by
    have := pfind_any L t m c rows f v (h1.tab.below hv) (by unfold maxLen; omega) (by unfold maxLen; omega)
    rw [hf] at this
    exact this)
  have HWy := Lib.hid (fun v (hb : Below w1.heap.size w1 v) => by
    have := pway_any f same (h1.below hb) hn hv
    rw [hW] at this
    exact this)
  have HS := Lib.hid h1
  have hb0 : Below w1.heap.size w1 w1.drew := (Below.refl _ _).drew
  clear hwn hbn hbx h h1 hw2 hf hW hR
  go_enter Tryd.func44, Tryd.ntmps44
  go_wp2_with fail
  simp only [HWN.out, HBN.out]
  go_region_held3 (fun v => v.cell? ⟨wb, 0, none⟩ = some (.pointer (some ⟨t, 0, none⟩)) ∧ v.cell? ⟨b, 0, none⟩ = some (.string f.name) ∧ v.cell? ⟨b, 1, none⟩ = some (.string f.value) ∧ v.cell? ⟨b, 2, none⟩ = some (.bool f.never))
    (first | go_keep | exact ⟨below_cell hb0 pw, below_cell hb0 q0, below_cell hb0 q1, below_cell hb0 q2⟩)
    ((go_at_call 63; refine (HF.out _ hb0).mono ?_; rintro e w2 ⟨rfl, b2⟩; replace hb0 := below_step hb0 b2))
  all_goals
    obtain ⟨p0, p1, p2⟩ := box_cells (block_below hb0 HBX.out)
    go_wp2_with fail
    refine (HWy.out _ hb0).mono ?_; rintro e w3 ⟨rfl, b3⟩
    replace hb0 := below_step hb0 b3
    clear p0 p1 p2
    obtain ⟨p0, p1, p2⟩ := box_cells (block_below hb0 HBX.out)
    go_wp2_with fail
    refine (HC.out _ (HS.out.below hb0)).mono ?_; rintro e w4 ⟨rfl, r4⟩
    go_wp2_with fail
    go_end0
    exact ⟨rfl, r4⟩

set_option maxRecDepth 100000 in
set_option maxHeartbeats 1000000 in
theorem pwfield_row (f : FdM) (n : Nat) (same : Bool) (R : Ending → World → Prop) (hR : ∀ v, R (.returned (.tuple #[])) v → R (.returned (.tuple #[])) v) (h : ESt B w0 L0 L wb t m c rows out w) (hn : f.name.size ≤ 1048576) (hv : f.value.size ≤ 1048576) (hf : findT rows f = (n, same)) (hW : wayN f same m = 84)
    (HC : Hid (∀ v, ESt B w0 L0 L wb t m c rows out v → Calls Tryd.prog 84 #[.pointer (some ⟨wb, 0, none⟩), .agg #[.string f.name, .string f.value, .bool f.never], .int .i64 n] v fun e w' => e = .returned (.tuple #[]) ∧ R e w')) :
    Calls Tryd.prog 44 #[.pointer (some ⟨wb, 0, none⟩), .agg #[.string f.name, .string f.value, .bool f.never]] w fun e w' => e = .returned (.tuple #[]) ∧ R e w' := by
  have h1 := h.below (below_alloc w (.cells #[.string f.name, .string f.value, .bool f.never] 59))
  have hbx := fd_box w f
  generalize hwn : (w.alloc (.cells #[.string f.name, .string f.value, .bool f.never] 59)) = w1 at hbx h1
  generalize hbn : w.heap.size = b at *
  have HWN := Lib.hid hwn
  have HBN := Lib.hid hbn
  have HBX := Lib.hid hbx
  obtain ⟨q0, q1, q2⟩ := box_cells hbx
  obtain ⟨oa, oc, hw2, _⟩ := h1.wr.ex
  have pw := cell_at hw2 0
  have HF := Lib.hid (fun v (hv : Below w1.heap.size w1 v) => by
    have := pfind_any L t m c rows f v (h1.tab.below hv) (by unfold maxLen; omega) (by unfold maxLen; omega)
    rw [hf] at this
    exact this)
  have HWy := Lib.hid (fun v (hb : Below w1.heap.size w1 v) => by
    have := pway_any f same (h1.below hb) hn hv
    rw [hW] at this
    exact this)
  have HS := Lib.hid h1
  have hb0 : Below w1.heap.size w1 w1.drew := (Below.refl _ _).drew
  clear hwn hbn hbx h h1 hw2 hf hW hR
  go_enter Tryd.func44, Tryd.ntmps44
  go_wp2_with fail
  simp only [HWN.out, HBN.out]
  go_region_held3 (fun v => v.cell? ⟨wb, 0, none⟩ = some (.pointer (some ⟨t, 0, none⟩)) ∧ v.cell? ⟨b, 0, none⟩ = some (.string f.name) ∧ v.cell? ⟨b, 1, none⟩ = some (.string f.value) ∧ v.cell? ⟨b, 2, none⟩ = some (.bool f.never))
    (first | go_keep | exact ⟨below_cell hb0 pw, below_cell hb0 q0, below_cell hb0 q1, below_cell hb0 q2⟩)
    ((go_at_call 63; refine (HF.out _ hb0).mono ?_; rintro e w2 ⟨rfl, b2⟩; replace hb0 := below_step hb0 b2))
  all_goals
    obtain ⟨p0, p1, p2⟩ := box_cells (block_below hb0 HBX.out)
    go_wp2_with fail
    refine (HWy.out _ hb0).mono ?_; rintro e w3 ⟨rfl, b3⟩
    replace hb0 := below_step hb0 b3
    clear p0 p1 p2
    obtain ⟨p0, p1, p2⟩ := box_cells (block_below hb0 HBX.out)
    go_wp2_with fail
    refine (HC.out _ (HS.out.below hb0)).mono ?_; rintro e w4 ⟨rfl, r4⟩
    go_wp2_with fail
    go_end0
    exact ⟨rfl, r4⟩

set_option maxRecDepth 100000 in
set_option maxHeartbeats 1000000 in
theorem pwfield_plain (f : FdM) (n : Nat) (same : Bool) (R : Ending → World → Prop) (hR : ∀ v, R (.returned (.tuple #[])) v → R (.returned (.tuple #[])) v) (h : ESt B w0 L0 L wb t m c rows out w) (hn : f.name.size ≤ 1048576) (hv : f.value.size ≤ 1048576) (hf : findT rows f = (n, same)) (hW : wayN f same m = 85)
    (HC : Hid (∀ v, ESt B w0 L0 L wb t m c rows out v → Calls Tryd.prog 85 #[.pointer (some ⟨wb, 0, none⟩), .agg #[.string f.name, .string f.value, .bool f.never], .int .i64 n] v fun e w' => e = .returned (.tuple #[]) ∧ R e w')) :
    Calls Tryd.prog 44 #[.pointer (some ⟨wb, 0, none⟩), .agg #[.string f.name, .string f.value, .bool f.never]] w fun e w' => e = .returned (.tuple #[]) ∧ R e w' := by
  have h1 := h.below (below_alloc w (.cells #[.string f.name, .string f.value, .bool f.never] 59))
  have hbx := fd_box w f
  generalize hwn : (w.alloc (.cells #[.string f.name, .string f.value, .bool f.never] 59)) = w1 at hbx h1
  generalize hbn : w.heap.size = b at *
  have HWN := Lib.hid hwn
  have HBN := Lib.hid hbn
  have HBX := Lib.hid hbx
  obtain ⟨q0, q1, q2⟩ := box_cells hbx
  obtain ⟨oa, oc, hw2, _⟩ := h1.wr.ex
  have pw := cell_at hw2 0
  have HF := Lib.hid (fun v (hv : Below w1.heap.size w1 v) => by
    have := pfind_any L t m c rows f v (h1.tab.below hv) (by unfold maxLen; omega) (by unfold maxLen; omega)
    rw [hf] at this
    exact this)
  have HWy := Lib.hid (fun v (hb : Below w1.heap.size w1 v) => by
    have := pway_any f same (h1.below hb) hn hv
    rw [hW] at this
    exact this)
  have HS := Lib.hid h1
  have hb0 : Below w1.heap.size w1 w1.drew := (Below.refl _ _).drew
  clear hwn hbn hbx h h1 hw2 hf hW hR
  go_enter Tryd.func44, Tryd.ntmps44
  go_wp2_with fail
  simp only [HWN.out, HBN.out]
  go_region_held3 (fun v => v.cell? ⟨wb, 0, none⟩ = some (.pointer (some ⟨t, 0, none⟩)) ∧ v.cell? ⟨b, 0, none⟩ = some (.string f.name) ∧ v.cell? ⟨b, 1, none⟩ = some (.string f.value) ∧ v.cell? ⟨b, 2, none⟩ = some (.bool f.never))
    (first | go_keep | exact ⟨below_cell hb0 pw, below_cell hb0 q0, below_cell hb0 q1, below_cell hb0 q2⟩)
    ((go_at_call 63; refine (HF.out _ hb0).mono ?_; rintro e w2 ⟨rfl, b2⟩; replace hb0 := below_step hb0 b2))
  all_goals
    obtain ⟨p0, p1, p2⟩ := box_cells (block_below hb0 HBX.out)
    go_wp2_with fail
    refine (HWy.out _ hb0).mono ?_; rintro e w3 ⟨rfl, b3⟩
    replace hb0 := below_step hb0 b3
    clear p0 p1 p2
    obtain ⟨p0, p1, p2⟩ := box_cells (block_below hb0 HBX.out)
    go_wp2_with fail
    refine (HC.out _ (HS.out.below hb0)).mono ?_; rintro e w4 ⟨rfl, r4⟩
    go_wp2_with fail
    go_end0
    exact ⟨rfl, r4⟩

set_option maxRecDepth 100000 in
set_option maxHeartbeats 1000000 in
theorem pwfield_added (f : FdM) (n : Nat) (same : Bool) (R : Ending → World → Prop) (hR : ∀ v, R (.returned (.tuple #[])) v → R (.returned (.tuple #[])) v) (h : ESt B w0 L0 L wb t m c rows out w) (hn : f.name.size ≤ 1048576) (hv : f.value.size ≤ 1048576) (hf : findT rows f = (n, same)) (hW : wayN f same m = 86)
    (HC : Hid (∀ v, ESt B w0 L0 L wb t m c rows out v → Calls Tryd.prog 86 #[.pointer (some ⟨wb, 0, none⟩), .agg #[.string f.name, .string f.value, .bool f.never], .int .i64 n] v fun e w' => e = .returned (.tuple #[]) ∧ R e w')) :
    Calls Tryd.prog 44 #[.pointer (some ⟨wb, 0, none⟩), .agg #[.string f.name, .string f.value, .bool f.never]] w fun e w' => e = .returned (.tuple #[]) ∧ R e w' := by
  have h1 := h.below (below_alloc w (.cells #[.string f.name, .string f.value, .bool f.never] 59))
  have hbx := fd_box w f
  generalize hwn : (w.alloc (.cells #[.string f.name, .string f.value, .bool f.never] 59)) = w1 at hbx h1
  generalize hbn : w.heap.size = b at *
  have HWN := Lib.hid hwn
  have HBN := Lib.hid hbn
  have HBX := Lib.hid hbx
  obtain ⟨q0, q1, q2⟩ := box_cells hbx
  obtain ⟨oa, oc, hw2, _⟩ := h1.wr.ex
  have pw := cell_at hw2 0
  have HF := Lib.hid (fun v (hv : Below w1.heap.size w1 v) => by
    have := pfind_any L t m c rows f v (h1.tab.below hv) (by unfold maxLen; omega) (by unfold maxLen; omega)
    rw [hf] at this
    exact this)
  have HWy := Lib.hid (fun v (hb : Below w1.heap.size w1 v) => by
    have := pway_any f same (h1.below hb) hn hv
    rw [hW] at this
    exact this)
  have HS := Lib.hid h1
  have hb0 : Below w1.heap.size w1 w1.drew := (Below.refl _ _).drew
  clear hwn hbn hbx h h1 hw2 hf hW hR
  go_enter Tryd.func44, Tryd.ntmps44
  go_wp2_with fail
  simp only [HWN.out, HBN.out]
  go_region_held3 (fun v => v.cell? ⟨wb, 0, none⟩ = some (.pointer (some ⟨t, 0, none⟩)) ∧ v.cell? ⟨b, 0, none⟩ = some (.string f.name) ∧ v.cell? ⟨b, 1, none⟩ = some (.string f.value) ∧ v.cell? ⟨b, 2, none⟩ = some (.bool f.never))
    (first | go_keep | exact ⟨below_cell hb0 pw, below_cell hb0 q0, below_cell hb0 q1, below_cell hb0 q2⟩)
    ((go_at_call 63; refine (HF.out _ hb0).mono ?_; rintro e w2 ⟨rfl, b2⟩; replace hb0 := below_step hb0 b2))
  all_goals
    obtain ⟨p0, p1, p2⟩ := box_cells (block_below hb0 HBX.out)
    go_wp2_with fail
    refine (HWy.out _ hb0).mono ?_; rintro e w3 ⟨rfl, b3⟩
    replace hb0 := below_step hb0 b3
    clear p0 p1 p2
    obtain ⟨p0, p1, p2⟩ := box_cells (block_below hb0 HBX.out)
    go_wp2_with fail
    refine (HC.out _ (HS.out.below hb0)).mono ?_; rintro e w4 ⟨rfl, r4⟩
    go_wp2_with fail
    go_end0
    exact ⟨rfl, r4⟩

theorem Wrote.imp {L0 : List Nat} {e : Ending} (h : Wrote B w0 L0 wb t m rows c out e w) : e = .returned (.tuple #[]) ∧ Wrote B w0 L0 wb t m rows c out e w := ⟨h.1, h⟩
/-- A field is written. -/
theorem pwfield_any (f : FdM) (h : ESt B w0 L0 L wb t m c rows out w) (hn : f.name.size ≤ 1048576) (hv : f.value.size ≤ 1048576) (hlen : out.length ≤ 900000000) (hc : c < 1000000) :
    Calls Tryd.prog 44 #[.pointer (some ⟨wb, 0, none⟩), .agg #[.string f.name, .string f.value, .bool f.never]] w (Wrote B w0 L0 wb t m (encField m rows f).2 c (out ++ (encField m rows f).1)) := by
  have hsum := h.tab.sum
  have h32 := csum_len rows
  have hfn : (findT rows f).1 < 4294967296 := by
    rcases find_spec rows f h.tab.never with ⟨h0, _⟩ | ⟨_, h2, _⟩ <;> omega
  obtain ⟨n, same, hf⟩ : ∃ n same, findT rows f = (n, same) := ⟨_, _, rfl⟩
  rw [hf] at hfn
  have key : ∀ (r2 : List FdM) (b2 : List UInt8), encField m rows f = (b2, r2) → (Calls Tryd.prog 44 #[.pointer (some ⟨wb, 0, none⟩), .agg #[.string f.name, .string f.value, .bool f.never]] w fun e w' => e = .returned (.tuple #[]) ∧ Wrote B w0 L0 wb t m r2 c (out ++ b2) e w') →
      Calls Tryd.prog 44 #[.pointer (some ⟨wb, 0, none⟩), .agg #[.string f.name, .string f.value, .bool f.never]] w (Wrote B w0 L0 wb t m (encField m rows f).2 c (out ++ (encField m rows f).1)) := fun r2 b2 he hc => by
    rw [he]; exact hc.mono (fun e w' h => h.2)
  have hlb : ∀ fl k, litB fl k n f = putI fl k n ++ ((if n = 0 then putT (txt f.name) else []) ++ putT (txt f.value)) := fun fl k => rfl
  by_cases hne : nevF f = true
  · refine key rows (litB 16 4 n f) ?_ (pwfield_never f n same _ (fun _ h => h) h hn hv hf (by rw [wayN, if_pos hne]) (Lib.hid (fun v hv2 => (pwnever_any n f hv2 hfn hn hv hlen).mono (fun e w' h => h.imp))))
    rw [encField, hf, if_neg (by simp [hne]), if_neg (by simp [hne]), if_pos hne, hlb]
  · have hne0 : nevF f = false := by simpa using hne
    cases same with
    | true =>
      refine key rows (putI 128 7 n) ?_ (pwfield_row f n true _ (fun _ h => h) h hn hv hf (by rw [wayN, if_neg hne, if_pos rfl]) (Lib.hid (fun v hv2 => (pwrow_any n f hv2 hfn hlen).mono (fun e w' h => h.imp))))
      rw [encField, hf, if_pos ⟨rfl, hne0⟩]
    | false =>
      by_cases hgt : m < cost f
      · refine key rows (litB 0 4 n f) ?_ (pwfield_plain f n false _ (fun _ h => h) h hn hv hf (by rw [wayN, if_neg hne, if_neg (by simp), if_pos hgt]) (Lib.hid (fun v hv2 => (pwplain_any n f hv2 hfn hn hv hlen).mono (fun e w' h => h.imp))))
        rw [encField, hf, if_neg (by simp), if_neg (by omega), hne0, hlb]; rfl
      · refine key (addT m rows f) (litB 64 6 n f) ?_ (pwfield_added f n false _ (fun _ h => h) h hn hv hf (by rw [wayN, if_neg hne, if_neg (by simp), if_neg hgt]) (Lib.hid (fun v hv2 => (pwadded_any n f hv2 hfn hn hv hlen hc).mono (fun e w' h => h.imp))))
        rw [encField, hf, if_neg (by simp), if_pos ⟨hne0, by omega⟩, hlb]
end Go.Proofs.YtdkgachgohilcaaDoor

namespace Go.Proofs.YtdkgachgohilcaaDoor
open Go.RowKit
open Huf Pre Tab Hpk Arg Mem Gen Wr Go.Proofs.YtdkgachgohilcaaDoor.Obj
set_option linter.unusedVariables false
variable {B : Nat} {w0 w : World} {L0 L : List Nat} {wb t m c g own told least : Nat} {rows : List FdM} {out : List UInt8}

/-- The program's encoder. -/
structure PEnc (w : World) (L : List Nat) (g own told least t m : Nat) (rows : List FdM) (c : Nat) : Prop where
  blk : w.heap[g]? = some (.cells #[.int .i64 own, .pointer (some ⟨t, 0, none⟩), .int .i64 told, .int .i64 least] 84 (0, 0))
  tab : PTab w L t m rows c
  no : g ∉ L
theorem PEnc.kept (h : PEnc w L g own told least t m rows c) {w' : World} (hs : w.heap.size ≤ w'.heap.size) (hb : ∀ k, k = g ∨ k ∈ L → w'.heap[k]? = w.heap[k]?) : PEnc w' L g own told least t m rows c :=
  ⟨(hb g (.inl rfl)).trans h.blk, h.tab.kept hs (fun k hk => hb k (.inr hk)), h.no⟩
theorem PEnc.lt (h : PEnc w L g own told least t m rows c) : g < w.heap.size := (Array.getElem?_eq_some_iff.1 h.blk).1
theorem PEnc.below (h : PEnc w L g own told least t m rows c) {w' : World} (hb : Below w.heap.size w w') : PEnc w' L g own told least t m rows c :=
  h.kept hb.size (fun k hk => hb.block k (by rcases hk with rfl | hk
                                             · exact h.lt
                                             · exact h.tab.blocks k hk))

theorem hdr_len (told least now : Nat) : (hdr told least now).length ≤ 12 := by
  have h1 := putI_len 32 5 least
  have h2 := putI_len 32 5 now
  rw [hdr]
  split
  · rw [List.length_append]; omega
  · split
    · omega
    · simp
theorem encField_len (m : Nat) (rows : List FdM) (f : FdM) : (encField m rows f).1.length ≤ cost f := by
  have hc : cost f = f.name.size + f.value.size + 32 := rfl
  have hl := fun fl k => litB_len fl k (findT rows f).1 f
  have h1 := putI_len 128 7 (findT rows f).1
  rw [encField]
  split
  · simp only; omega
  · split
    · have := hl 64 6; simp only [litB] at this ⊢; omega
    · have := hl (if nevF f = true then 16 else 0) 4; simp only [litB] at this ⊢; omega

theorem below_drewN (w : World) (k : Nat) : Below w.heap.size w (w.drewN k) := ⟨rfl, rfl, rfl, Nat.le_refl _, fun _ _ => rfl⟩

set_option maxRecDepth 100000 in
set_option maxHeartbeats 1000000 in
theorem tell_r1 {Q : Exit → Act → World → Prop} (a : Act) (w : World) (q2 : w.cell? ⟨g, 2, none⟩ = some (.int .i64 told)) (q3 : w.cell? ⟨g, 3, none⟩ = some (.int .i64 least))
    (ha : Fr.Is 53 [(0, .pointer (some ⟨g, 0, none⟩)), (1, .pointer (some ⟨wb, 0, none⟩)), (4, .int .i64 m)] a)
    (hQ : Hid (∀ a' w', Below w.heap.size w w' → Fr.Is 53 [(0, .pointer (some ⟨g, 0, none⟩)), (1, .pointer (some ⟨wb, 0, none⟩)), (4, .int .i64 m), (26, .bool (decide (least < told ∧ least < m)))] a' → Q .normal a' w')) :
    (Fr.reg Tryd.f43 1).wp Tryd.prog Q a w := by
  obtain ⟨fr, rfl, hfr⟩ := ha.lit
  simp only [List.map_cons, List.map_nil, List.cons.injEq, and_true] at hfr
  conv => arg 2; whnf
  simp only [List.range, List.range.loop, List.map_cons, List.map_nil, hfr]
  clear hfr ha
  refine wp_region_noPanic ?_
  have HB := Lib.hid (below_drewN w)
  by_cases h1 : least < told
  · have h1' : (least : Int) < told := by omega
    by_cases h2 : least < m
    · have h2' : (least : Int) < m := by omega
      rw [decide_eq_true (show least < told ∧ least < m from ⟨h1, h2⟩)] at hQ
      go_quiet (fail)
      all_goals exact hQ.out _ _ (HB.out _) (Fr.Is.mk rfl rfl)
    · have h2' : ¬ (least : Int) < m := by omega
      rw [decide_eq_false (show ¬ (least < told ∧ least < m) from fun h => h2 h.2)] at hQ
      go_quiet (fail)
      all_goals exact hQ.out _ _ (HB.out _) (Fr.Is.mk rfl rfl)
  · have h1' : ¬ (least : Int) < told := by omega
    rw [decide_eq_false (show ¬ (least < told ∧ least < m) from fun h => h1 h.1)] at hQ
    go_quiet (fail)
    all_goals exact hQ.out _ _ (HB.out _) (Fr.Is.mk rfl rfl)


set_option maxRecDepth 100000 in
set_option maxHeartbeats 1000000 in
theorem ptell_any (h : PEnc w L g own told least t m rows c) (hw : WSt B L wb t [] w) (hB : B ≤ w.heap.size) (hg : g < B) (ht : told ≤ 65536) (hl : least ≤ 65536) :
    Calls Tryd.prog 43 #[.pointer (some ⟨g, 0, none⟩), .pointer (some ⟨wb, 0, none⟩)] w fun e w' => e = .returned (.tuple #[]) ∧ ∃ w2, Std B L w w2 ∧ WSt B L wb t (hdr told least m) w2 ∧ w' = (w2.setCell ⟨g, 2, none⟩ (.int .i64 m)).setCell ⟨g, 3, none⟩ (.int .i64 m) := by
  have hm := h.tab.sum.2
  have HM := Lib.hid (pmost_any L t m c rows w h.tab)
  have HG : Hid (∀ v, Std B L w v → v.heap[g]? = some (.cells #[.int .i64 own, .pointer (some ⟨t, 0, none⟩), .int .i64 told, .int .i64 least] 84 (0, 0))) := Lib.hid (fun v hv => (hv.block g h.lt (.inl hg)).trans h.blk)
  have HN := Lib.hid (fun v (o : List UInt8) (n : Nat) (hv : WSt B L wb t o v) (hs : Std B L w v) (hn : n ≤ 65536) (hlen : o.length ≤ 1000000000) =>
    pwnum_any B L wb t o 32 5 n v hv (Nat.le_trans hB hs.size) (fun k hk => Nat.lt_of_lt_of_le (h.tab.blocks k hk) hs.size) (by decide) (by decide) (by decide) (by decide) (by omega) hlen)
  have HW := Lib.hid hw
  have c1 := cell_at h.blk 1
  have hl1 := putI_len 32 5 least
  clear h hw
  have HR : Hid (∀ v, Std B L w v → WSt B L wb t (hdr told least m) v → (fun e w' => e = .returned (.tuple #[]) ∧ ∃ w2, Std B L w w2 ∧ WSt B L wb t (hdr told least m) w2 ∧ w' = (w2.setCell ⟨g, 2, none⟩ (.int .i64 m)).setCell ⟨g, 3, none⟩ (.int .i64 m) : Ending → World → Prop) (.returned (.tuple #[])) ((v.setCell ⟨g, 2, none⟩ (.int .i64 m)).setCell ⟨g, 3, none⟩ (.int .i64 m))) := Lib.hid (fun v s x => ⟨rfl, v, s, x, rfl⟩)
  obtain ⟨H, hH⟩ : ∃ H, H = hdr told least m := ⟨_, rfl⟩
  rw [← hH] at HR ⊢
  generalize (fun e w' => e = Ending.returned (.tuple #[]) ∧ ∃ w2, Std B L w w2 ∧ WSt B L wb t H w2 ∧ w' = (w2.setCell ⟨g, 2, none⟩ (.int .i64 m)).setCell ⟨g, 3, none⟩ (.int .i64 m) : Ending → World → Prop) = R at HR ⊢
  go_enter Tryd.func43, Tryd.ntmps43
  go_wp2_with fail
  refine HM.out.mono ?_; rintro e w1 ⟨rfl, b1⟩
  have s1 : Std B L w w1 := Std.of_below b1
  have hw1 := HW.out.below b1
  have hh := HG.out _ s1
  have d2 := cell_at hh 2
  have d3 := cell_at hh 3
  clear c1 hh
  go_wp2_with fail
  refine tell_r1 _ _ d2 d3 (Fr.Is.mk rfl rfl) (Lib.hid (fun a2 w2 b2 h2 => ?_))
  have s2 := s1.then b2
  have hw2 := hw1.below b2
  clear d2 d3 b2 b1 s1 hw1
  rw [hdr] at hH
  by_cases h1 : least < told ∧ least < m
  · rw [if_pos h1] at hH
    rw [decide_eq_true h1] at h2
    obtain ⟨fr, rfl, hfr⟩ := h2.lit
    simp only [List.map_cons, List.map_nil, List.cons.injEq, and_true] at hfr
    simp only [List.range, List.range.loop, List.map_cons, List.map_nil, hfr]
    clear hfr h2
    have hh := HG.out _ s2
    have d3 := cell_at hh 3
    clear hh
    go_wp2_with fail
    refine (HN.out _ _ _ hw2 s2 hl (by simp)).mono ?_; rintro e w3 ⟨rfl, v3, s3⟩
    replace s3 := s2.trans s3
    clear d3
    go_wp2_with fail
    refine (HN.out _ _ _ v3 s3 hm (by rw [List.nil_append]; omega)).mono ?_; rintro e w4 ⟨rfl, v4, s4⟩
    replace s4 := s3.trans s4
    have hh4 := HG.out _ s4
    have p2 := cell_at hh4 2
    have p3 := cell_at hh4 3
    have z2 := frozen_of_row _ _ 2 _ _ hh4
    have z3 := frozen_of_row _ _ 3 _ _ hh4
    have HF := Lib.hid (HR.out _ s4 (by rw [hH]; exact v4))
    clear hh4 s4 v4 hH
    go_wp2_with fail
    go_end0
    exact HF.out
  · rw [if_neg h1] at hH
    rw [decide_eq_false h1] at h2
    obtain ⟨fr, rfl, hfr⟩ := h2.lit
    simp only [List.map_cons, List.map_nil, List.cons.injEq, and_true] at hfr
    simp only [List.range, List.range.loop, List.map_cons, List.map_nil, hfr]
    clear hfr h2
    have hh := HG.out _ s2
    have d2 := cell_at hh 2
    clear hh
    by_cases hmt : m = told
    · have hb : ((m : Int) != told) = false := by simp [hmt]
      have hmt' : (m : Int) = told := by omega
      rw [if_neg (by simpa using hmt)] at hH
      have hh4 := HG.out _ s2
      have p2 := cell_at hh4 2
      have p3 := cell_at hh4 3
      have z2 := frozen_of_row _ _ 2 _ _ hh4
      have z3 := frozen_of_row _ _ 3 _ _ hh4
      have HF := Lib.hid (HR.out _ s2 (by rw [hH]; exact hw2))
      clear hh4 s2 hw2 hH
      go_wp2_with fail
      go_end0
      simpa only [hmt'] using HF.out
    · have hb : ((m : Int) != told) = true := by simp; omega
      have hmt' : ¬ (m : Int) = told := by omega
      rw [if_pos hmt] at hH
      go_wp2_with fail
      refine (HN.out _ _ _ hw2 s2 hm (by simp)).mono ?_; rintro e w4 ⟨rfl, v4, s4⟩
      replace s4 := s2.trans s4
      clear d2
      have hh4 := HG.out _ s4
      have p2 := cell_at hh4 2
      have p3 := cell_at hh4 3
      have z2 := frozen_of_row _ _ 2 _ _ hh4
      have z3 := frozen_of_row _ _ 3 _ _ hh4
      have HF := Lib.hid (HR.out _ s4 (by rw [hH]; exact v4))
      clear hh4 s4 v4 hH
      go_wp2_with fail
      go_end0
      exact HF.out

end Go.Proofs.YtdkgachgohilcaaDoor
