/- What a row's list of laid variables gives: each table's cells. Layer 6: what the program tells of a frame's place, its length and its values. Layer 6: what the program tells of a frame's values. A region that draws its order, walked once in the order of the text, over a class of worlds: callees may make memory. Appending to a row of bytes of the call's own, the new row under one name. A row of bytes of the call's own that grows beside an object: what stands, and appends to it. Layer 6: the program's fill, region by region. -/
import Derived.WalkKit
import Derived.WalkSmall
import Derived.ProofKit
import Derived.OpenShut
import Derived.Deep.DeepHandedRow
import Derived.Lib.LaidTab
import Derived.Test.YtglhdlkmgmbgeaaDoorGP04
import Derived.Deep.Fields
import Derived.LoopTactic
import Derived.BigGuardPart
import Derived.Test.YtglhdlkmgmbgeaaDoorRows
import Derived.Deep.Quiet
import Derived.BigQuiet
import Derived.Test.YtglhdlkmgmbgeaaDoorGP02
import Derived.Lib.AppendStr
import Derived.Test.YtglhdlkmgmbgeaaDoorGP03
import Derived.Lib.Hide
import Derived.Deep.RegionLaw
import Derived.Deep.AppendLies
import Derived.Laws.AppendOwnNone
set_option linter.unusedVariables false
set_option linter.unusedSimpArgs false
namespace Go.Proofs.YtglhdlkmgmbgeaaDoor
open Go.RowKit
namespace Laid

theorem tabIs_at {P : Program} {W : World} {name : String} {k : IntKind} {zs : List Int} {g : Nat} {t e : TypeId} {n : Nat}
    (hg : P.globalNamed name = some g) (hty : (P.globals[g]?).map (·.type) = some t) (ht : P.underlying t = some (.array n e)) (he : P.underlying e = some (.int k)) (hce : P.cellsOf e = 1) (hct : P.cellsOf t = n) :
    ∀ (laid : List (String × DataW Unit)) (ps : List MemPlace) (i : Nat), DataW.LaidVars P W laid ps → laid[i]? = some (name, Lib.tabData k zs) → Lib.TabIs P W name k zs
  | [], _, i, _, hi => by simp at hi
  | x :: rest, ps, 0, h, hi => by
    simp only [List.getElem?_cons_zero, Option.some.injEq] at hi
    subst hi
    obtain ⟨g', t', cs, fuel, p, q, hg', ht', hvar, hd, _, _⟩ := h
    obtain rfl := Option.some.inj (hg.symm.trans hg')
    obtain rfl := Option.some.inj (hty.symm.trans ht')
    unfold Lib.TabIs
    rw [hvar, ← Lib.cells_of_tab ht he hce hct hd]
  | x :: rest, ps, i + 1, h, hi => by
    obtain ⟨g', t', cs, fuel, p, q, hg', ht', hvar, hd, hr, _⟩ := h
    exact tabIs_at hg hty ht he hce hct rest q i hr (by simpa using hi)

theorem tabIs {P : Program} {W : World} {name : String} {k : IntKind} {zs : List Int} {g : Nat} {t e : TypeId} {n : Nat}
    (hg : P.globalNamed name = some g) (hty : (P.globals[g]?).map (·.type) = some t) (ht : P.underlying t = some (.array n e)) (he : P.underlying e = some (.int k)) (hce : P.cellsOf e = 1) (hct : P.cellsOf t = n)
    {laid : List (String × DataW Unit)} (h : laidMet P laid W) (i : Nat) (hi : laid[i]? = some (name, Lib.tabData k zs)) : Lib.TabIs P W name k zs := by
  obtain ⟨ps, hv, _⟩ := h
  exact tabIs_at hg hty ht he hce hct laid ps i hv hi

/-- What a literal reads from. -/
def litV : Lit → Value
  | .int k n => .int k n
  | .string l => .string ⟨l.toArray⟩
  | .bool b => .bool b
  | _ => undef

theorem litV_of {H : Type} {enc : TypeId × Value → H} {P : Program} {w : World} {base : Nat} {sp : Nat → Bool} {held : Bool} {fuel : Nat} {t : TypeId} {k : IntKind} {v : Value} {L : Lit} {p : List MemPlace}
    (ht : P.underlying t = some (.int k)) (h : DataW.trod enc P w base sp held fuel t [v] = some (.lit L, p)) : v = litV L := by
  obtain ⟨z, hz, hx, _⟩ := DataW.trod_int ht h
  simp only [Prod.mk.injEq, DataW.lit.injEq] at hx
  rw [hx.1]
  exact (List.cons.inj hz).1

/-- An array of structs of integers: cell by cell. -/
theorem rows_at {P : Program} {w : World} {base : Nat} {sp : Nat → Bool} {held : Bool} {fuel : Nat} {t e : TypeId} {n m : Nat} {fs : Array Field} {cs : List Value} {rows : List (List Lit)} {p : List MemPlace} {H : Type} {enc : TypeId × Value → H}
    (ht : P.underlying t = some (.array n e)) (he : P.underlying e = some (.struct fs)) (hm : P.cellsOf e = m) (hone : ∀ (i : Nat) (f : Field), fs[i]? = some f → f.offset = i ∧ P.cellsOf f.type = 1 ∧ ∃ k, P.underlying f.type = some (.int k)) (hfs : fs.size = m)
    (h : DataW.trod enc P w base sp held fuel t cs = some (.agg (rows.map fun r => .agg (r.map .lit)), p)) :
    ∀ (i f : Nat) (r : List Lit) (L : Lit), rows[i]? = some r → r[f]? = some L → cs[i * m + f]? = some (litV L) := by
  intro i f r L hr hL
  obtain ⟨xs, g, _, hx, hcl, hxl, hel⟩ := DataW.trod_array ht h
  simp only [Prod.mk.injEq, DataW.agg.injEq] at hx
  have h1 : (xs.map (·.1))[i]? = some (.agg (r.map .lit)) := by rw [← hx.1, List.getElem?_map, hr]; rfl
  rw [List.getElem?_map] at h1
  cases hxi : xs[i]? with
  | none => rw [hxi] at h1; cases h1
  | some x =>
    rw [hxi] at h1
    simp only [Option.map_some, Option.some.injEq] at h1
    have hi : i < n := by rw [← hxl]; exact (List.getElem?_eq_some_iff.1 hxi).1
    have h2 := hel i hi
    rw [hxi, hm] at h2
    obtain ⟨ys, q, _, hy, hpl, hyl, hf⟩ := DataW.trod_struct he h2
    rw [hy] at h1
    simp only [DataW.agg.injEq] at h1
    have h3 : (ys.map (·.1))[f]? = some (.lit L) := by rw [h1, List.getElem?_map, hL]; rfl
    rw [List.getElem?_map] at h3
    cases hyf : ys[f]? with
    | none => rw [hyf] at h3; cases h3
    | some y =>
      rw [hyf] at h3
      simp only [Option.map_some, Option.some.injEq] at h3
      have hlt : f < fs.size := by rw [← hyl]; exact (List.getElem?_eq_some_iff.1 hyf).1
      have hfld : fs[f]? = some fs[f] := Array.getElem?_eq_getElem hlt
      obtain ⟨o1, o2, k, o3⟩ := hone f _ hfld
      have h4 := hf f _ hfld
      rw [o1, o2, hyf] at h4
      rw [hm, List.length_take, List.length_drop] at hpl
      have hlen : i * m + f < cs.length := by omega
      have h5 : (((cs.drop (i * m)).take m).drop f).take 1 = [cs[i * m + f]] := by
        rw [List.drop_take, List.drop_drop, List.take_take, List.drop_eq_getElem_cons (by omega)]
        rw [show min 1 (m - f) = 1 from by omega]; rfl
      rw [h5] at h4
      obtain ⟨y1, y2⟩ := y
      simp only at h3
      subst h3
      rw [List.getElem?_eq_getElem hlen, litV_of o3 h4]

/-- A laid array of structs of integers: its block's cells. -/
theorem rowsIs_at {P : Program} {W : World} {name : String} {rows : List (List Lit)} {g : Nat} {t e : TypeId} {n m : Nat} {fs : Array Field}
    (hg : P.globalNamed name = some g) (hty : (P.globals[g]?).map (·.type) = some t) (ht : P.underlying t = some (.array n e)) (he : P.underlying e = some (.struct fs)) (hm : P.cellsOf e = m)
    (hone : ∀ (i : Nat) (f : Field), fs[i]? = some f → f.offset = i ∧ P.cellsOf f.type = 1 ∧ ∃ k, P.underlying f.type = some (.int k)) (hfs : fs.size = m) :
    ∀ (laid : List (String × DataW Unit)) (ps : List MemPlace) (i : Nat), DataW.LaidVars P W laid ps → laid[i]? = some (name, .agg (rows.map fun r => .agg (r.map .lit))) →
      ∀ (i f : Nat) (r : List Lit) (L : Lit), rows[i]? = some r → r[f]? = some L → W.cell? ⟨g, i * m + f, none⟩ = some (litV L)
  | [], _, i, _, hi => by simp at hi
  | x :: rest, ps, 0, h, hi => by
    simp only [List.getElem?_cons_zero, Option.some.injEq] at hi
    subst hi
    obtain ⟨g', t', cs, fuel, p, q, hg', ht', hvar, hd, _, _⟩ := h
    obtain rfl := Option.some.inj (hg.symm.trans hg')
    obtain rfl := Option.some.inj (hty.symm.trans ht')
    intro i f r L h1 h2
    rw [World.var?_cell hg hvar]
    have := rows_at ht he hm hone hfs hd i f r L h1 h2
    simpa using this
  | x :: rest, ps, i + 1, h, hi => by
    obtain ⟨g', t', cs, fuel, p, q, hg', ht', hvar, hd, hr, _⟩ := h
    exact rowsIs_at hg hty ht he hm hone hfs rest q i hr (by simpa using hi)

/-- A table stays as it was where blocks below stay. -/
theorem tab_below {P : Program} {w w' : World} {name : String} {k : IntKind} {zs : List Int} {g : Nat} (hg : P.globalNamed name = some g) (h : Lib.TabIs P w name k zs) (hb : Below w.heap.size w w') (hlt : g < w.heap.size) : Lib.TabIs P w' name k zs := by
  unfold Lib.TabIs at h ⊢
  exact var?_below hb hg hlt h
end Laid
end Go.Proofs.YtglhdlkmgmbgeaaDoor

namespace Go.Proofs.YtglhdlkmgmbgeaaDoor
open Go.RowKit
open Fra Oct Arg Mem Gen Go.Proofs.YtglhdlkmgmbgeaaDoor.Obj
set_option linter.unusedVariables false
set_option linter.unusedSimpArgs false

def spanT : List (Int × Int × Int) := [(0, 16777215, 1), (0, 16777215, 1), (5, 5, 1), (4, 4, 1), (0, 16777215, 6), (0, 16777215, 1), (8, 8, 1), (8, 16777215, 1), (4, 4, 1), (0, 16777215, 1)]
def spRows : List (List Lit) := spanT.map fun r => [.int .i64 r.1, .int .i64 r.2.1, .int .i64 r.2.2]
theorem sp_laid : (Rows.laid_drawbridge_frame_spans : DataW Unit) = .agg (spRows.map fun r => .agg (r.map .lit)) := by kernel_rfl
/-- The table of lengths stands. -/
def SpIs (w : World) : Prop := ∀ k lo mx st, spanT[k]? = some (lo, mx, st) → w.cell? ⟨0, k * 3, none⟩ = some (.int .i64 lo) ∧ w.cell? ⟨0, k * 3 + 1, none⟩ = some (.int .i64 mx) ∧ w.cell? ⟨0, k * 3 + 2, none⟩ = some (.int .i64 st)
theorem SpIs.below {w w' : World} (h : SpIs w) (hb : Below w.heap.size w w') : SpIs w' := fun k lo mx st hk => ⟨below_cell hb (h k lo mx st hk).1, below_cell hb (h k lo mx st hk).2.1, below_cell hb (h k lo mx st hk).2.2⟩
theorem spIs_of {W : World} {laid : List (String × DataW Unit)} (h : laidMet Tryd.prog laid W) (i : Nat) (hi : laid[i]? = some ("drawbridge/frame.spans", Rows.laid_drawbridge_frame_spans)) : SpIs W := by
  rw [sp_laid] at hi
  obtain ⟨ps, hv, _⟩ := h
  have H := Laid.rowsIs_at (P := Tryd.prog) (g := 0) (t := 93) (e := 92) (n := 10) (m := 3) (by kernel_rfl) (by kernel_rfl) Tryd.underlying93 Tryd.underlying92 (by kernel_rfl)
    (by
      intro i f hf
      have : i = 0 ∨ i = 1 ∨ i = 2 ∨ 3 ≤ i := by omega
      rcases this with rfl | rfl | rfl | h
      · simp at hf; subst hf; exact ⟨rfl, by kernel_rfl, _, Tryd.underlying3⟩
      · simp at hf; subst hf; exact ⟨rfl, by kernel_rfl, _, Tryd.underlying3⟩
      · simp at hf; subst hf; exact ⟨rfl, by kernel_rfl, _, Tryd.underlying3⟩
      · rw [Array.getElem?_eq_none (by simpa using h)] at hf; cases hf)
    rfl laid ps i hv hi
  intro k lo mx st hk
  have hr : spRows[k]? = some [.int .i64 lo, .int .i64 mx, .int .i64 st] := by rw [spRows, List.getElem?_map, hk]; rfl
  exact ⟨H k 0 _ _ hr rfl, H k 1 _ _ hr rfl, H k 2 _ _ hr rfl⟩

theorem bel_al (w : World) (o : Obj) : Below w.heap.size w (w.alloc o) := (Below.refl _ _).alloc (Nat.le_refl _) o
theorem pfault_any (c s : Int) (w : World) : Calls Tryd.prog 37 #[.int .i64 c, .int .i64 s] w fun e w' => e = .returned (faV ⟨true, c, s⟩) ∧ Below w.heap.size w w' := by
  go_enter Tryd.func37, Tryd.ntmps37
  go_wp2_with fail
  refine bodyPost_ret (v := faV ⟨true, c, s⟩) ?_ rfl ?_
  · simp [results, Tryd.results37, go_sem, faV]
  · exact ⟨rfl, (Below.refl _ _).alloc (Nat.le_refl _) _⟩

def placeOk (k st : Int) : Bool :=
  if k = 0 ∨ k = 1 ∨ k = 2 ∨ k = 3 ∨ k = 9 then decide (st ≠ 0) else if k = 4 ∨ k = 6 ∨ k = 7 then decide (st = 0) else if k = 5 then false else true
set_option maxRecDepth 100000 in
set_option maxHeartbeats 2000000 in
theorem pplaced_any (k st : Int) (w : World) : Calls Tryd.prog 41 #[.int .i64 k, .int .i64 st] w fun e w' => e = .returned (.bool (placeOk k st)) ∧ w = w' := by
  by_cases h : k = 0 ∨ k = 1 ∨ k = 2 ∨ k = 3 ∨ k = 9 ∨ k = 4 ∨ k = 6 ∨ k = 7 ∨ k = 5
  · rcases h with rfl | rfl | rfl | rfl | rfl | rfl | rfl | rfl | rfl
    all_goals
      go_enter Tryd.func41, Tryd.ntmps41
      go_wp2_with fail
      go_ret
      exact ⟨by simp [placeOk] <;> rfl, rfl⟩
  · have h2 : ¬ k = 0 ∧ ¬ k = 1 ∧ ¬ k = 2 ∧ ¬ k = 3 ∧ ¬ k = 9 ∧ ¬ k = 4 ∧ ¬ k = 6 ∧ ¬ k = 7 ∧ ¬ k = 5 := by omega
    obtain ⟨a0, a1, a2, a3, a9, a4, a6, a7, a5⟩ := h2
    have hp : placeOk k st = true := by simp [placeOk, a0, a1, a2, a3, a9, a4, a6, a7, a5]
    rw [hp]
    clear hp h
    go_enter Tryd.func41, Tryd.ntmps41
    go_wp2_with fail
    go_ret
    exact ⟨rfl, rfl⟩

set_option maxRecDepth 100000 in
set_option maxHeartbeats 2000000 in
theorem pwrongset_any (s : StM) (w : World) : Calls Tryd.prog 51 #[.agg #[.int .i64 s.id, .int .i64 s.val]] w fun e w' => e = .returned (.int .i64 (setFault s)) ∧ Below w.heap.size w w' := by
  obtain ⟨id, val⟩ := s
  simp only
  obtain ⟨R, hR⟩ : ∃ x, x = setFault ⟨id, val⟩ := ⟨_, rfl⟩
  rw [← hR]
  have HR := Lib.hid hR
  clear hR
  by_cases h2 : id = 2
  · subst h2
    by_cases hv : 1 < val
    all_goals
      go_enter Tryd.func51, Tryd.ntmps51
      go_wp2_with fail
      go_ret
      exact ⟨by rw [HR.out]; simp [setFault, hv], (Below.refl _ _).alloc (Nat.le_refl _) _⟩
  by_cases h4 : id = 4
  · subst h4
    by_cases hv : 2147483647 < val
    all_goals
      go_enter Tryd.func51, Tryd.ntmps51
      go_wp2_with fail
      go_ret
      exact ⟨by rw [HR.out]; simp [setFault, hv], (Below.refl _ _).alloc (Nat.le_refl _) _⟩
  by_cases h5 : id = 5
  · subst h5
    by_cases hv : val < 16384
    · go_enter Tryd.func51, Tryd.ntmps51
      go_wp2_with fail
      go_ret
      exact ⟨by rw [HR.out]; simp [setFault, hv], (Below.refl _ _).alloc (Nat.le_refl _) _⟩
    · by_cases hv2 : 16777215 < val
      all_goals
        go_enter Tryd.func51, Tryd.ntmps51
        go_wp2_with fail
        go_ret
        exact ⟨by rw [HR.out]; simp [setFault, hv, hv2], (Below.refl _ _).alloc (Nat.le_refl _) _⟩
  · go_enter Tryd.func51, Tryd.ntmps51
    go_wp2_with fail
    go_ret
    exact ⟨by rw [HR.out]; simp [setFault, h2, h4, h5], (Below.refl _ _).alloc (Nat.le_refl _) _⟩

theorem fa_ret {B : Nat} {w w2 : World} {rv : Nat} {u0 u1 u2 : Value} (hB : Below B w w2) (hle : B ≤ rv) (h : w2.heap[rv]? = some (.cells #[u0, u1, u2] 37 (0, 0))) (a b c : Value) :
    ∃ w3, ((w2.setCell ⟨rv, 0, none⟩ a).setCell ⟨rv, 1, none⟩ b).setCell ⟨rv, 2, none⟩ c = w3 ∧ w3.heap[rv]? = some (.cells #[a, b, c] 37 (0, 0)) ∧ Below B w w3 := by
  have h1 := heap_setCell_same w2 rv 0 _ _ a h
  have h2 := heap_setCell_same _ rv 1 _ _ b h1
  have h3 := heap_setCell_same _ rv 2 _ _ c h2
  exact ⟨_, rfl, h3, ((hB.setCell (p := ⟨rv, 0, none⟩) hle a).setCell (p := ⟨rv, 1, none⟩) hle b).setCell (p := ⟨rv, 2, none⟩) hle c⟩

set_option maxRecDepth 100000 in
set_option maxHeartbeats 2000000 in
theorem pwrongsize_any (fb : Nat) (f : FrM) (sa : Option Addr) (sc : Nat) (w : World) (h : Fb fb f sa sc w) :
    Calls Tryd.prog 43 #[.pointer (some ⟨fb, 0, none⟩)] w fun e w' => e = .returned (faV (if f.type = 2 then ⟨true, 6, f.stream⟩ else ofC 6)) ∧ Below w.heap.size w w' := by
  have hb := bel_al w (.cells #[.bool false, .int .i64 0, .int .i64 0] 37)
  have c0 : (w.alloc (.cells #[.bool false, .int .i64 0, .int .i64 0] 37)).cell? ⟨fb, 0, none⟩ = some (.int .i64 f.type) := below_cell hb (h.cellz 0)
  have c2 : (w.alloc (.cells #[.bool false, .int .i64 0, .int .i64 0] 37)).cell? ⟨fb, 2, none⟩ = some (.int .i64 f.stream) := below_cell hb (h.cellz 2)
  have HX := Lib.hid (heap_alloc_new w (.cells #[.bool false, .int .i64 0, .int .i64 0] 37))
  have HB := Lib.hid hb
  have HF := Lib.hid (fun v c s => pfault_any c s v)
  clear hb h
  by_cases ht : f.type = 2
  · rw [if_pos ht]
    go_enter Tryd.func43, Tryd.ntmps43
    go_wp2_with fail
    refine (HF.out _ 6 f.stream).mono ?_
    rintro e w2 ⟨rfl, b2⟩
    have HX2 := Lib.hid (block_below b2 HX.out)
    have HB2 := Lib.hid (below_step HB.out b2)
    have y0 := cell_at HX2.out 0
    have y1 := cell_at HX2.out 1
    have y2 := cell_at HX2.out 2
    have z0 := frozen_of_row _ _ 0 _ _ HX2.out
    have z1 := frozen_of_row _ _ 1 _ _ HX2.out
    have z2 := frozen_of_row _ _ 2 _ _ HX2.out
    simp only [List.getElem?_toArray, List.getElem?_cons_zero, List.getElem?_cons_succ] at y0 y1 y2
    unfold faV
    obtain ⟨w3, hw3, hh3, hb3⟩ := fa_ret HB2.out (Nat.le_refl _) HX2.out (.bool true) (.int .i64 6) (.int .i64 f.stream)
    have HW3 := Lib.hid hw3
    have HH3 := Lib.hid hh3
    have HB3 := Lib.hid hb3
    clear b2 c0 c2 hw3 hh3 hb3
    go_wp2_with fail
    rw [HW3.out]
    have x0 := cell_at HH3.out 0
    have x1 := cell_at HH3.out 1
    have x2 := cell_at HH3.out 2
    simp only [List.getElem?_toArray, List.getElem?_cons_zero, List.getElem?_cons_succ] at x0 x1 x2
    refine bodyPost_ret (v := faV ⟨true, 6, f.stream⟩) ?_ rfl ?_
    · simp [results, Tryd.results43, go_sem, faV, x0, x1, x2]
    · exact ⟨rfl, HB3.out⟩
  · rw [if_neg ht]
    go_enter Tryd.func43, Tryd.ntmps43
    go_wp2_with fail
    refine (HF.out _ 6 0).mono ?_
    rintro e w2 ⟨rfl, b2⟩
    have HX2 := Lib.hid (block_below b2 HX.out)
    have HB2 := Lib.hid (below_step HB.out b2)
    have y0 := cell_at HX2.out 0
    have y1 := cell_at HX2.out 1
    have y2 := cell_at HX2.out 2
    have z0 := frozen_of_row _ _ 0 _ _ HX2.out
    have z1 := frozen_of_row _ _ 1 _ _ HX2.out
    have z2 := frozen_of_row _ _ 2 _ _ HX2.out
    simp only [List.getElem?_toArray, List.getElem?_cons_zero, List.getElem?_cons_succ] at y0 y1 y2
    unfold faV
    obtain ⟨w3, hw3, hh3, hb3⟩ := fa_ret HB2.out (Nat.le_refl _) HX2.out (.bool true) (.int .i64 6) (.int .i64 0)
    have HW3 := Lib.hid hw3
    have HH3 := Lib.hid hh3
    have HB3 := Lib.hid hb3
    clear b2 c0 c2 hw3 hh3 hb3
    go_wp2_with fail
    rw [HW3.out]
    have x0 := cell_at HH3.out 0
    have x1 := cell_at HH3.out 1
    have x2 := cell_at HH3.out 2
    simp only [List.getElem?_toArray, List.getElem?_cons_zero, List.getElem?_cons_succ] at x0 x1 x2
    refine bodyPost_ret (v := faV (ofC 6)) ?_ rfl ?_
    · simp [results, Tryd.results43, go_sem, faV, ofC, x0, x1, x2]
    · exact ⟨rfl, HB3.out⟩

def fitsB (k fl n : Int) : Bool :=
  if 10 ≤ k then true else if k = 4 ∧ hasF fl 1 = true then decide (n = 0)
  else match spanT[k.toNat]? with
    | some (lo, mx, st) => decide (lo ≤ n) && (decide (n ≤ mx) && (decide (n % st = 0) && decide ((aheadN (partsM k fl) : Int) ≤ n)))
    | none => false
theorem span_bd (k : Nat) (lo mx st : Int) (h : spanT[k]? = some (lo, mx, st)) : 0 ≤ lo ∧ lo ≤ 8 ∧ 0 ≤ mx ∧ mx ≤ 16777215 ∧ 1 ≤ st ∧ st ≤ 6 := by
  have : ∀ k : Fin 10, (0 ≤ (spanT.getD k.val (0,0,1)).1 ∧ (spanT.getD k.val (0,0,1)).1 ≤ 8 ∧ 0 ≤ (spanT.getD k.val (0,0,1)).2.1 ∧ (spanT.getD k.val (0,0,1)).2.1 ≤ 16777215 ∧ 1 ≤ (spanT.getD k.val (0,0,1)).2.2 ∧ (spanT.getD k.val (0,0,1)).2.2 ≤ 6) := by decide
  have hk : k < 10 := (List.getElem?_eq_some_iff.1 h).1
  have := this ⟨k, hk⟩
  rw [List.getD_eq_getElem?_getD, h] at this
  exact this

set_option maxRecDepth 100000 in
set_option maxHeartbeats 2000000 in
theorem pfits_any (k fl n : Int) (w : World) (hs : SpIs w) (hk0 : 0 ≤ k) (h0 : 0 ≤ fl) (h1 : fl ≤ 255) (hn0 : 0 ≤ n) (hn1 : n ≤ 1000000000) :
    Calls Tryd.prog 42 #[.int .i64 k, .int .i64 fl, .int .i64 n] w fun e w' => e = .returned (.bool (fitsB k fl n)) ∧ Below w.heap.size w w' := by
  obtain ⟨R, hR⟩ : ∃ x, x = fitsB k fl n := ⟨_, rfl⟩
  rw [← hR]
  have HP := Lib.hid (fun v => pparts_any k fl v h0 h1)
  have HA := Lib.hid (fun v => pahead_any (partsM k fl) v)
  have hal : aheadN (partsM k fl) ≤ 18 := by
    unfold aheadN; repeat' split
    all_goals omega
  unfold fitsB at hR
  generalize partsM k fl = p at HP HA hal hR
  generalize aheadN p = N at HA hal hR
  have e1 := and_flag1 fl h0 h1
  by_cases h10 : 10 ≤ k
  · rw [if_pos h10] at hR
    have HR := Lib.hid hR
    clear hR e1
    go_enter Tryd.func42, Tryd.ntmps42
    go_wp2_with fail
    go_ret
    exact ⟨by rw [HR.out]; rfl, Below.refl _ _⟩
  rw [if_neg h10] at hR
  by_cases hk4 : k = 4 ∧ hasF fl 1 = true
  · rw [if_pos hk4] at hR
    obtain ⟨rfl, hf⟩ := hk4
    rw [hf, if_pos rfl] at e1
    have HR := Lib.hid hR
    clear hR
    go_enter Tryd.func42, Tryd.ntmps42
    go_wp2_with fail
    go_ret
    exact ⟨by rw [HR.out]; rfl, Below.refl _ _⟩
  rw [if_neg hk4] at hR
  obtain ⟨j, rfl⟩ := Int.eq_ofNat_of_zero_le hk0
  obtain ⟨⟨lo, mx, st⟩, hsp⟩ : ∃ x, spanT[j]? = some x := by
    have hj : j < spanT.length := by simp [spanT]; omega
    exact ⟨_, List.getElem?_eq_getElem hj⟩
  have hbd := span_bd j lo mx st hsp
  rw [Int.toNat_natCast, hsp] at hR
  simp only at hR
  obtain ⟨c0, c1, c2⟩ := hs j lo mx st hsp
  have hb1 := bel_al w (.cells #[.int .i64 lo, .int .i64 mx, .int .i64 st] 92)
  have hm := Int.tmod_eq_emod_of_nonneg (b := st) hn0
  obtain ⟨bd0, bd1, bd2, bd3, bd4, bd5⟩ := hbd
  have hst0 : ¬ st = 0 := by omega
  have hj10 : j < 10 := by omega
  have hx0 := heap_alloc_new w (.cells #[.int .i64 lo, .int .i64 mx, .int .i64 st] 92)
  have q0 := cell_at hx0 0
  have q1 := cell_at hx0 1
  have q2 := cell_at hx0 2
  simp only [List.getElem?_toArray, List.getElem?_cons_zero, List.getElem?_cons_succ] at q0 q1 q2
  have e1' : j = 4 → bits .and .i64 fl 1 = 0 := fun h => by
    have hne : hasF fl 1 = false := by
      cases hh : hasF fl 1 with
      | false => rfl
      | true => exact absurd ⟨by omega, hh⟩ hk4
    rw [e1, hne]; rfl
  have HB1 := Lib.hid hb1
  clear hs hk0 hk4 h10 e1 hsp hx0 hb1
  by_cases g0 : lo ≤ n
  · by_cases g1 : n ≤ mx
    · by_cases g2 : n % st = 0
      · skip
        by_cases hj4 : j = 4
        all_goals
          first | (have e2 := e1' hj4; subst hj4) | (have e2 : ¬ (j : Int) = 4 := by omega)
          have HR : Hid (R = decide ((N : Int) ≤ n)) := Lib.hid (by rw [hR, decide_eq_true g0, decide_eq_true g1, decide_eq_true g2]; rfl)
          rw [g2] at hm
          clear hR e1'
          go_enter Tryd.func42, Tryd.ntmps42
          go_wp2_with (first | (go_at_call 44; refine (HP.out _).mono ?_; rintro e w2 ⟨rfl, b2⟩) | (go_at_call 49; refine (HA.out _).mono ?_; rintro e w3 ⟨rfl, b3⟩))
          go_ret
          exact ⟨by rw [HR.out]; rfl, below_step (below_step HB1.out b2) b3⟩
      · skip
        by_cases hj4 : j = 4
        all_goals
          first | (have e2 := e1' hj4; subst hj4) | (have e2 : ¬ (j : Int) = 4 := by omega)
          have HR : Hid (R = false) := Lib.hid (by rw [hR, decide_eq_true g0, decide_eq_true g1, decide_eq_false g2]; simp)
          clear hR e1'
          go_enter Tryd.func42, Tryd.ntmps42
          go_wp2_with fail
          go_ret
          exact ⟨by rw [HR.out]; rfl, HB1.out⟩
    · skip
      by_cases hj4 : j = 4
      all_goals
        first | (have e2 := e1' hj4; subst hj4) | (have e2 : ¬ (j : Int) = 4 := by omega)
        have HR : Hid (R = false) := Lib.hid (by rw [hR, decide_eq_true g0, decide_eq_false g1]; simp)
        clear hR e1'
        go_enter Tryd.func42, Tryd.ntmps42
        go_wp2_with fail
        go_ret
        exact ⟨by rw [HR.out]; rfl, HB1.out⟩
  · skip
    by_cases hj4 : j = 4
    all_goals
      first | (have e2 := e1' hj4; subst hj4) | (have e2 : ¬ (j : Int) = 4 := by omega)
      have HR : Hid (R = false) := Lib.hid (by rw [hR, decide_eq_false g0]; simp)
      clear hR e1'
      go_enter Tryd.func42, Tryd.ntmps42
      go_wp2_with fail
      go_ret
      exact ⟨by rw [HR.out]; rfl, HB1.out⟩

/-- What of a frame's values is told. -/
def valF (f : FrM) : FaM := if f.type = 8 ∧ f.inc = 0 then ⟨true, 1, f.stream⟩ else if setsFault f.sets ≠ 0 then ofC (setsFault f.sets) else noFa
end Go.Proofs.YtglhdlkmgmbgeaaDoor

namespace Go.Proofs.YtglhdlkmgmbgeaaDoor
open Go.RowKit
open Fra Oct Arg Mem Gen Go.Proofs.YtglhdlkmgmbgeaaDoor.Obj
set_option linter.unusedVariables false
set_option linter.unusedSimpArgs false

/-- The end of a call that answers a fault: its cell is read. -/
theorem fa_cells {w : World} {rv : Nat} {a b c : Value} (h : w.heap[rv]? = some (.cells #[a, b, c] 37 (0, 0))) : w.cell? ⟨rv, 0, none⟩ = some a ∧ w.cell? ⟨rv, 1, none⟩ = some b ∧ w.cell? ⟨rv, 2, none⟩ = some c := ⟨cell_at h 0, cell_at h 1, cell_at h 2⟩

theorem setFault_bd (s : StM) : 0 ≤ setFault s ∧ setFault s ≤ 3 := by
  unfold setFault
  repeat' split
  all_goals omega

set_option maxRecDepth 100000 in
set_option maxHeartbeats 4000000 in
theorem pwrongval_any (fb : Nat) (f : FrM) (sa : Option Addr) (sc : Nat) (w : World) (h : Fb fb f sa sc w) (hok : FrOk f sa sc w) :
    Calls Tryd.prog 47 #[.pointer (some ⟨fb, 0, none⟩)] w fun e w' => e = .returned (faV (valF f)) ∧ Below w.heap.size w w' := by
  have hb := bel_al w (.cells #[.bool false, .int .i64 0, .int .i64 0] 37)
  have c0 : (w.alloc (.cells #[.bool false, .int .i64 0, .int .i64 0] 37)).cell? ⟨fb, 0, none⟩ = some (.int .i64 f.type) := below_cell hb (h.cellz 0)
  have c2 : (w.alloc (.cells #[.bool false, .int .i64 0, .int .i64 0] 37)).cell? ⟨fb, 2, none⟩ = some (.int .i64 f.stream) := below_cell hb (h.cellz 2)
  have c5 : (w.alloc (.cells #[.bool false, .int .i64 0, .int .i64 0] 37)).cell? ⟨fb, 5, none⟩ = some (.slice sa f.sets.length sc) := below_cell hb (h.cellz 5)
  have c8 : (w.alloc (.cells #[.bool false, .int .i64 0, .int .i64 0] 37)).cell? ⟨fb, 8, none⟩ = some (.int .i64 f.inc) := below_cell hb (h.cellz 8)
  have HX := Lib.hid (heap_alloc_new w (.cells #[.bool false, .int .i64 0, .int .i64 0] 37))
  have HB := Lib.hid (fun (v : World) (hv : Below (w.alloc (.cells #[.bool false, .int .i64 0, .int .i64 0] 37)).heap.size (w.alloc (.cells #[.bool false, .int .i64 0, .int .i64 0] 37)) v) => below_step hb hv)
  have HF := Lib.hid (fun v c s => pfault_any c s v)
  obtain ⟨hrow, hlen, hcap⟩ := hok
  have HRow := Lib.hid (hrow.below hb)
  have hv : valF f = if f.type = 8 ∧ f.inc = 0 then ⟨true, 1, f.stream⟩ else if setsFault f.sets ≠ 0 then ofC (setsFault f.sets) else noFa := rfl
  generalize valF f = R at hv ⊢
  obtain ⟨t, fl, st, data, pad, sets, code, last, inc, dep, weight, sole⟩ := f
  simp only at *
  unfold maxLen at hcap
  obtain ⟨n, hn⟩ : ∃ n, n = sets.length := ⟨_, rfl⟩
  rw [← hn] at hlen c5
  have HN := Lib.hid hn
  obtain ⟨rv, hrv⟩ : ∃ rv, rv = w.heap.size := ⟨_, rfl⟩
  have HRv := Lib.hid hrv
  obtain ⟨E, hE⟩ : ∃ E, E = setsFault sets := ⟨_, rfl⟩
  rw [← hE] at hv
  have HE := Lib.hid hE
  rw [← hrv] at HX
  clear hn hrv hE hrow hb h
  by_cases hA : t = 8 ∧ inc = 0
  · rw [if_pos hA] at hv
    obtain ⟨rfl, rfl⟩ := hA
    have HR := Lib.hid hv
    have HXr := HX
    clear hv
    go_enter Tryd.func47, Tryd.ntmps47
    go_wp2_with fail
    generalize w.alloc (.cells #[.bool false, .int .i64 0, .int .i64 0] 37) = w1 at *
    rw [← HRv.out]
    refine (HF.out _ 1 st).mono ?_
    rintro e w2 ⟨rfl, hb5⟩
    clear c0 c2 c5 c8
    unfold faV
    have HX2 := Lib.hid (block_below hb5 HXr.out)
    have HB2 := Lib.hid (HB.out _ hb5)
    obtain ⟨y0, y1, y2⟩ := fa_cells HX2.out
    have z0 := frozen_of_row _ _ 0 _ _ HX2.out
    have z1 := frozen_of_row _ _ 1 _ _ HX2.out
    have z2 := frozen_of_row _ _ 2 _ _ HX2.out
    obtain ⟨w3, hw3, hh3, hb3⟩ := fa_ret HB2.out (by rw [HRv.out]; exact Nat.le_refl _) HX2.out (.bool true) (.int .i64 1) (.int .i64 st)
    have HW3 := Lib.hid hw3
    have HH3 := Lib.hid hh3
    have HB3 := Lib.hid hb3
    clear hw3 hh3 hb3
    go_wp2_with fail
    rw [HW3.out]
    obtain ⟨x0, x1, x2⟩ := fa_cells HH3.out
    refine bodyPost_ret (v := faV (⟨true, 1, st⟩)) ?_ rfl ?_
    · simp [results, Tryd.results47, go_sem, faV, ofC, noFa, x0, x1, x2]
    · exact ⟨by rw [HR.out], HB3.out⟩
  rw [if_neg hA] at hv
  have HRv2 := Lib.hid hv
  clear hv
  by_cases ht : t = 8
  · subst ht
    have hinc : ¬ inc = 0 := fun h => hA ⟨rfl, h⟩
    have hib : (inc == 0) = false := by simp [hinc]
    clear hA
    go_enter Tryd.func47, Tryd.ntmps47
    go_wp2_with fail
    generalize w.alloc (.cells #[.bool false, .int .i64 0, .int .i64 0] 37) = w1 at *
    rw [← HRv.out]
    clear hinc
    go_loopw [28] (fun i wr => ∃ k : Nat, i = .int .i64 k ∧ k ≤ n ∧ Hid (Below w1.heap.size w1 wr) ∧ Hid (setsFault (sets.drop k) = E)) (fun i _ => n - (intOf i).toNat)
    case atStart => exact ⟨0, by rfl, Nat.zero_le _, Lib.hid (Below.refl _ _), Lib.hid (by rw [HE.out]; simp)⟩
    case round =>
      obtain ⟨k, rfl, hk, HBl, HD⟩ := hrel
      have HXr := Lib.hid (block_below HBl.out HX.out)
      by_cases hlt : k < n
      · have hlt' : (k : Int) < n := by omega
        have hka : k < sets.length := by rw [← HN.out]; exact hlt
        obtain ⟨b1, o1, rfl, hc⟩ : ∃ b off, sa = some ⟨b, off, none⟩ ∧ ∀ i, (h : i < sets.length) → Rw.CE ESt w1 b (off + i * 2) sets[i] := by
          rcases HRow.out with h | h
          · rw [h] at hka; simp at hka
          · exact h
        obtain ⟨d0, d1⟩ := CE_st (hc k hka)
        have d0 := below_cell HBl.out d0
        have d1 := below_cell HBl.out d1
        have HS := Lib.hid (show setsFault (sets.drop k) = if setFault sets[k] ≠ 0 then setFault sets[k] else setsFault (sets.drop (k + 1)) by rw [List.drop_eq_getElem_cons hka, setsFault])
        have HW := Lib.hid (fun v => pwrongset_any sets[k] v)
        generalize sets[k] = s at d0 d1 HS HW
        have hbd := setFault_bd s
        generalize setFault s = G at HS HW hbd
        obtain ⟨id, val⟩ := s
        simp only at d0 d1 HW
        clear hc
        have hx0 := heap_alloc_new wr (.cells #[.int .i64 id, .int .i64 val] 67)
        have x0 := cell_at hx0 0
        have x1 := cell_at hx0 1
        have hba := bel_al wr (.cells #[.int .i64 id, .int .i64 val] 67)
        have HBa := Lib.hid hba
        simp only [List.getElem?_toArray, List.getElem?_cons_zero, List.getElem?_cons_succ] at x0 x1
        clear hx0 hba
        by_cases hG : G = 0
        · subst hG
          have HDk := Lib.hid (show setsFault (sets.drop (k + 1)) = E by rw [← HD.out, HS.out, if_neg (by simp)])
          clear HD HS
          go_wp2_with (refine (HW.out _).mono ?_; rintro e w4 ⟨rfl, b4⟩)
          go_roundw
          case rel => exact ⟨k + 1, by go_num, by omega, Lib.hid (below_step (below_step HBl.out HBa.out) b4), HDk⟩
          case measure => simp [intOf]; omega
        · have HEk := Lib.hid (show E = G by rw [← HD.out, HS.out, if_pos hG])
          have HR : Hid (R = ofC G) := Lib.hid (by rw [HRv2.out, HEk.out, if_pos hG])
          clear HD HS
          go_wp2_with (refine (HW.out _).mono ?_; rintro e w4 ⟨rfl, b4⟩)
          refine (HF.out _ G 0).mono ?_
          rintro e w5 ⟨rfl, b5⟩
          have hb5 := below_step (below_step HBa.out b4) b5
          clear x0 x1 d0 d1 b4 b5
          unfold faV
          have HX2 := Lib.hid (block_below hb5 HXr.out)
          have HB2 := Lib.hid (HB.out _ (below_step HBl.out hb5))
          obtain ⟨y0, y1, y2⟩ := fa_cells HX2.out
          have z0 := frozen_of_row _ _ 0 _ _ HX2.out
          have z1 := frozen_of_row _ _ 1 _ _ HX2.out
          have z2 := frozen_of_row _ _ 2 _ _ HX2.out
          obtain ⟨w3, hw3, hh3, hb3⟩ := fa_ret HB2.out (by rw [HRv.out]; exact Nat.le_refl _) HX2.out (.bool true) (.int .i64 G) (.int .i64 0)
          have HW3 := Lib.hid hw3
          have HH3 := Lib.hid hh3
          have HB3 := Lib.hid hb3
          clear hw3 hh3 hb3
          go_wp2_with fail
          rw [HW3.out]
          obtain ⟨x0, x1, x2⟩ := fa_cells HH3.out
          refine bodyPost_ret (v := faV (ofC G)) ?_ rfl ?_
          · simp [results, Tryd.results47, go_sem, faV, ofC, noFa, x0, x1, x2]
          · exact ⟨by rw [HR.out], HB3.out⟩
      · have hke : k = n := by omega
        have hlt' : ¬ (k : Int) < n := by omega
        have HE0 : Hid (E = 0) := Lib.hid (by rw [← HD.out, List.drop_eq_nil_of_le (by rw [← HN.out]; omega)]; rfl)
        have HR : Hid (R = noFa) := Lib.hid (by rw [HRv2.out, HE0.out, if_neg (by simp)])
        have hb5 := Below.refl wr.heap.size wr
        clear HD
        have HX2 := Lib.hid (block_below hb5 HXr.out)
        have HB2 := Lib.hid (HB.out _ (below_step HBl.out hb5))
        obtain ⟨y0, y1, y2⟩ := fa_cells HX2.out
        have z0 := frozen_of_row _ _ 0 _ _ HX2.out
        have z1 := frozen_of_row _ _ 1 _ _ HX2.out
        have z2 := frozen_of_row _ _ 2 _ _ HX2.out
        obtain ⟨w3, hw3, hh3, hb3⟩ := fa_ret HB2.out (by rw [HRv.out]; exact Nat.le_refl _) HX2.out (.bool false) (.int .i64 0) (.int .i64 0)
        have HW3 := Lib.hid hw3
        have HH3 := Lib.hid hh3
        have HB3 := Lib.hid hb3
        clear hw3 hh3 hb3
        go_wp2_with fail
        rw [HW3.out]
        obtain ⟨x0, x1, x2⟩ := fa_cells HH3.out
        refine bodyPost_ret (v := faV (noFa)) ?_ rfl ?_
        · simp [results, Tryd.results47, go_sem, faV, ofC, noFa, x0, x1, x2]
        · exact ⟨by rw [HR.out], HB3.out⟩
  · clear hA
    go_enter Tryd.func47, Tryd.ntmps47
    go_wp2_with fail
    generalize w.alloc (.cells #[.bool false, .int .i64 0, .int .i64 0] 37) = w1 at *
    rw [← HRv.out]
    go_loopw [28] (fun i wr => ∃ k : Nat, i = .int .i64 k ∧ k ≤ n ∧ Hid (Below w1.heap.size w1 wr) ∧ Hid (setsFault (sets.drop k) = E)) (fun i _ => n - (intOf i).toNat)
    case atStart => exact ⟨0, by rfl, Nat.zero_le _, Lib.hid (Below.refl _ _), Lib.hid (by rw [HE.out]; simp)⟩
    case round =>
      obtain ⟨k, rfl, hk, HBl, HD⟩ := hrel
      have HXr := Lib.hid (block_below HBl.out HX.out)
      by_cases hlt : k < n
      · have hlt' : (k : Int) < n := by omega
        have hka : k < sets.length := by rw [← HN.out]; exact hlt
        obtain ⟨b1, o1, rfl, hc⟩ : ∃ b off, sa = some ⟨b, off, none⟩ ∧ ∀ i, (h : i < sets.length) → Rw.CE ESt w1 b (off + i * 2) sets[i] := by
          rcases HRow.out with h | h
          · rw [h] at hka; simp at hka
          · exact h
        obtain ⟨d0, d1⟩ := CE_st (hc k hka)
        have d0 := below_cell HBl.out d0
        have d1 := below_cell HBl.out d1
        have HS := Lib.hid (show setsFault (sets.drop k) = if setFault sets[k] ≠ 0 then setFault sets[k] else setsFault (sets.drop (k + 1)) by rw [List.drop_eq_getElem_cons hka, setsFault])
        have HW := Lib.hid (fun v => pwrongset_any sets[k] v)
        generalize sets[k] = s at d0 d1 HS HW
        have hbd := setFault_bd s
        generalize setFault s = G at HS HW hbd
        obtain ⟨id, val⟩ := s
        simp only at d0 d1 HW
        clear hc
        have hx0 := heap_alloc_new wr (.cells #[.int .i64 id, .int .i64 val] 67)
        have x0 := cell_at hx0 0
        have x1 := cell_at hx0 1
        have hba := bel_al wr (.cells #[.int .i64 id, .int .i64 val] 67)
        have HBa := Lib.hid hba
        simp only [List.getElem?_toArray, List.getElem?_cons_zero, List.getElem?_cons_succ] at x0 x1
        clear hx0 hba
        by_cases hG : G = 0
        · subst hG
          have HDk := Lib.hid (show setsFault (sets.drop (k + 1)) = E by rw [← HD.out, HS.out, if_neg (by simp)])
          clear HD HS
          go_wp2_with (refine (HW.out _).mono ?_; rintro e w4 ⟨rfl, b4⟩)
          go_roundw
          case rel => exact ⟨k + 1, by go_num, by omega, Lib.hid (below_step (below_step HBl.out HBa.out) b4), HDk⟩
          case measure => simp [intOf]; omega
        · have HEk := Lib.hid (show E = G by rw [← HD.out, HS.out, if_pos hG])
          have HR : Hid (R = ofC G) := Lib.hid (by rw [HRv2.out, HEk.out, if_pos hG])
          clear HD HS
          go_wp2_with (refine (HW.out _).mono ?_; rintro e w4 ⟨rfl, b4⟩)
          refine (HF.out _ G 0).mono ?_
          rintro e w5 ⟨rfl, b5⟩
          have hb5 := below_step (below_step HBa.out b4) b5
          clear x0 x1 d0 d1 b4 b5
          unfold faV
          have HX2 := Lib.hid (block_below hb5 HXr.out)
          have HB2 := Lib.hid (HB.out _ (below_step HBl.out hb5))
          obtain ⟨y0, y1, y2⟩ := fa_cells HX2.out
          have z0 := frozen_of_row _ _ 0 _ _ HX2.out
          have z1 := frozen_of_row _ _ 1 _ _ HX2.out
          have z2 := frozen_of_row _ _ 2 _ _ HX2.out
          obtain ⟨w3, hw3, hh3, hb3⟩ := fa_ret HB2.out (by rw [HRv.out]; exact Nat.le_refl _) HX2.out (.bool true) (.int .i64 G) (.int .i64 0)
          have HW3 := Lib.hid hw3
          have HH3 := Lib.hid hh3
          have HB3 := Lib.hid hb3
          clear hw3 hh3 hb3
          go_wp2_with fail
          rw [HW3.out]
          obtain ⟨x0, x1, x2⟩ := fa_cells HH3.out
          refine bodyPost_ret (v := faV (ofC G)) ?_ rfl ?_
          · simp [results, Tryd.results47, go_sem, faV, ofC, noFa, x0, x1, x2]
          · exact ⟨by rw [HR.out], HB3.out⟩
      · have hke : k = n := by omega
        have hlt' : ¬ (k : Int) < n := by omega
        have HE0 : Hid (E = 0) := Lib.hid (by rw [← HD.out, List.drop_eq_nil_of_le (by rw [← HN.out]; omega)]; rfl)
        have HR : Hid (R = noFa) := Lib.hid (by rw [HRv2.out, HE0.out, if_neg (by simp)])
        have hb5 := Below.refl wr.heap.size wr
        clear HD
        have HX2 := Lib.hid (block_below hb5 HXr.out)
        have HB2 := Lib.hid (HB.out _ (below_step HBl.out hb5))
        obtain ⟨y0, y1, y2⟩ := fa_cells HX2.out
        have z0 := frozen_of_row _ _ 0 _ _ HX2.out
        have z1 := frozen_of_row _ _ 1 _ _ HX2.out
        have z2 := frozen_of_row _ _ 2 _ _ HX2.out
        obtain ⟨w3, hw3, hh3, hb3⟩ := fa_ret HB2.out (by rw [HRv.out]; exact Nat.le_refl _) HX2.out (.bool false) (.int .i64 0) (.int .i64 0)
        have HW3 := Lib.hid hw3
        have HH3 := Lib.hid hh3
        have HB3 := Lib.hid hb3
        clear hw3 hh3 hb3
        go_wp2_with fail
        rw [HW3.out]
        obtain ⟨x0, x1, x2⟩ := fa_cells HH3.out
        refine bodyPost_ret (v := faV (noFa)) ?_ rfl ?_
        · simp [results, Tryd.results47, go_sem, faV, ofC, noFa, x0, x1, x2]
        · exact ⟨by rw [HR.out], HB3.out⟩

end Go.Proofs.YtglhdlkmgmbgeaaDoor

namespace Go.Proofs.YtglhdlkmgmbgeaaDoor
open Go.RowKit
namespace Qu
theorem reg_quiet {P : Program} {id : Nat} {Q : Exit → Act → World → Prop} {a : Act} {w : World} {l : List Oper} (C : World → Prop) (hm : P.follows .mixedOrders = true) (hB : Region.lexB .any l.toArray = true) (hC : C w.drew)
    (h : wpQuiet P l.toArray C (fun a' => ∀ w', C w' → Q .normal a' w') l a) : (Code.region id l.toArray true).wp P Q a w :=
  wp_region_quiet (C := C) hm hB hC (by simpa using h)
/-- A world for which B holds. (A structure of its own: simp must not take '∀ n : Cw B' apart.) -/
structure Cw (B : World → Prop) where
  v : World
  h : B v
/-- The class of the worlds for which B holds, in the shape that the walk's simp takes apart by itself. -/
theorem reg_quietB {P : Program} {id : Nat} {Q : Exit → Act → World → Prop} {a : Act} {w : World} {l : List Oper} (B : World → Prop) (hm : P.follows .mixedOrders = true) (hB : Region.lexB .any l.toArray = true) (hC : B w.drew)
    (h : wpQuiet P l.toArray (fun w' => ∃ n : Cw B, w' = n.v) (fun a' => ∀ w', (∃ n : Cw B, w' = n.v) → Q .normal a' w') l a) : (Code.region id l.toArray true).wp P Q a w :=
  reg_quiet _ hm hB ⟨⟨_, hC⟩, rfl⟩ h
end Qu
end Go.Proofs.YtglhdlkmgmbgeaaDoor

namespace Go.Proofs.YtglhdlkmgmbgeaaDoor
open Go.RowKit
namespace Mem

theorem append_rb3 {P : Program} {w : World} {ops : Array Oper} {rest : List Oper} {o : Oper} {a : Act} {Q : Exit → Act → World → Prop} {t e : TypeId} {i : TypeInfo}
    (ht : P.underlying t = some (.slice e)) (hi : P.info? e = some i) (hz : i.zero = some (.int .u8 0)) (hsize : i.size = 1) (hby : i.bytes = 1)
    (hgd : o.guard = none) (s x : Operand) (ho : o.op = .call { callee := .builtin .append, args := #[s, x], argTypes := #[t, t] })
    (base : Nat) (ad0 : Option Addr) (cap0 : Nat) (l : List UInt8) (hs : a.eval s = .slice ad0 l.length cap0) (hown : w.ownsRow base e 1 (.slice ad0 l.length cap0) l.length (bvs l))
    (a2 : Option Addr) (l2 : List UInt8) (c : Nat) (hx : a.eval x = .slice a2 l2.length c) (hnil : a2 = none → c = 0) (hrb : RB w a2 l2)
    (l3 : List UInt8) (hl3 : l3 = l ++ l2) (hlen : l3.length ≤ 140737488355328) (hbase : base ≤ w.heap.size)
    (h : ∀ (ad' : Option Addr) (cap' : Nat) w', Hid (w'.ownsRow base e 1 (.slice ad' l3.length cap') l3.length (bvs l3)) → (∀ B wb, Below B wb w → B ≤ base → Below B wb w') →
      wpList P ops Q rest (a.put o.dst (.slice ad' l3.length cap')) w') :
    wpList P ops Q (o :: rest) a w := by
  subst hl3
  exact append_rb ht hi hz hsize hby hgd s x ho base ad0 cap0 l hs hown a2 l2 c hx hnil hrb (by rw [← List.length_append]; exact hlen) hbase h

theorem append_byte3 {P : Program} {w : World} {ops : Array Oper} {rest : List Oper} {o : Oper} {a : Act} {Q : Exit → Act → World → Prop} {t e : TypeId} {i : TypeInfo}
    (ht : P.underlying t = some (.slice e)) (hi : P.info? e = some i) (hz : i.zero = some (.int .u8 0)) (hsize : i.size = 1) (hby : i.bytes = 1)
    (hgd : o.guard = none) (s x : Operand) (ho : o.op = .call { callee := .builtin .append, args := #[s, x], argTypes := #[t, t] })
    (base : Nat) (v : Value) (l : List UInt8) (u : UInt8) (c : Int) (hc : c = (u.toNat : Int)) (hs : a.eval s = v) (hown : w.ownsRow base e 1 v l.length (bvs l))
    (hx : a.eval x = .slice (some ⟨w.heap.size, 0, none⟩) 1 1) (l3 : List UInt8) (hl3 : l3 = l ++ [u]) (hlen : l3.length ≤ 140737488355328) (hbase : base ≤ w.heap.size)
    (h : ∀ (ad' : Option Addr) (cap' : Nat) w', Hid (w'.ownsRow base e 1 (.slice ad' l3.length cap') l3.length (bvs l3)) → (∀ B wb, Below B wb w → B ≤ base → Below B wb w') → wpList P ops Q rest (a.put o.dst (.slice ad' l3.length cap')) w') :
    wpList P ops Q (o :: rest) a (w.alloc (.cells #[.int .u8 c] e)) := by
  subst hl3
  have hl : (l ++ [u]).length = l.length + 1 := by rw [List.length_append]; rfl
  refine append_byte ht hi hz hsize hby hgd s x ho base v l u c hc hs hown hx (by rw [← hl]; exact hlen) hbase fun v' w' ho' hb' => ?_
  have hv : ∃ ad cap, v' = .slice ad (l.length + 1) cap := by
    rcases ho'.out.2 with ⟨rfl, hn⟩ | ⟨g, cap, cur, rfl, _⟩
    · exact ⟨none, 0, by rw [hn]⟩
    · exact ⟨_, _, rfl⟩
  obtain ⟨ad, cap, rfl⟩ := hv
  have h' := h ad cap w'
  rw [hl] at h'
  exact h' ho' hb'

/-- A row of the call's own is one from a lower base on. -/
theorem own_base {w : World} {b b' : Nat} {e : TypeId} {size : Nat} {v : Value} {n : Nat} {xs : List Value} (h : w.ownsRow b e size v n xs) (hb : b' ≤ b) : w.ownsRow b' e size v n xs := by
  obtain ⟨hl, h | ⟨g, cap, cur, hv, hg, hr⟩⟩ := h
  · exact ⟨hl, .inl h⟩
  · exact ⟨hl, .inr ⟨g, cap, cur, hv, Nat.le_trans hb hg, hr⟩⟩

theorem strCells_bvs (s : ByteArray) : Lib.strCells s = bvs s.data.toList := rfl

/-- 'out = append(out, s...)', s a text. -/
theorem append_str3 {P : Program} {w : World} {ops : Array Oper} {rest : List Oper} {o : Oper} {a : Act} {Q : Exit → Act → World → Prop} {t u e : TypeId} {i : TypeInfo}
    (ht : P.underlying t = some (.slice e)) (hu : P.underlying u = some .string) (hi : P.info? e = some i) (hz : i.zero = some (.int .u8 0)) (hsize : i.size = 1) (hby : i.bytes = 1)
    (hgd : o.guard = none) (sl x : Operand) (ho : o.op = .call { callee := .builtin .append, args := #[sl, x], argTypes := #[t, u] })
    (base : Nat) (v : Value) (l : List UInt8) (hs : a.eval sl = v) (hown : w.ownsRow base e 1 v l.length (bvs l))
    (s : ByteArray) (hx : a.eval x = .string s) (l3 : List UInt8) (hl3 : l3 = l ++ s.data.toList) (hlen : l3.length ≤ 140737488355328) (hbase : base ≤ w.heap.size)
    (h : ∀ (ad' : Option Addr) (cap' : Nat) w', Hid (w'.ownsRow base e 1 (.slice ad' l3.length cap') l3.length (bvs l3)) → (∀ B wb, Below B wb w → B ≤ base → Below B wb w') → wpList P ops Q rest (a.put o.dst (.slice ad' l3.length cap')) w') :
    wpList P ops Q (o :: rest) a w := by
  subst hl3
  have hl : (l ++ s.data.toList).length = l.length + s.size := by simp
  rw [hl] at hlen
  refine Lib.wpList_append_own_string w hgd sl x t u ho base e i ht hu hi hz hsize hby v l.length (bvs l) hs hown s hx (by unfold maxLen; omega) hlen hbase fun v' w' ho' hg' _ => ?_
  have hv : ∃ ad cap, v' = .slice ad (l.length + s.size) cap := by
    rcases ho'.2 with ⟨rfl, hn⟩ | ⟨g, cap, cur, rfl, _⟩
    · exact ⟨none, 0, by rw [hn]⟩
    · exact ⟨_, _, rfl⟩
  obtain ⟨ad, cap, rfl⟩ := hv
  have h' := h ad cap w'
  rw [hl] at h'
  refine h' (Lib.hid ?_) (fun B wb hb hB => hb.grown hg' (by omega) (fun k hk => by have := (hown.lt k hk).1; omega))
  rw [bvs_append, ← strCells_bvs]
  exact ho'
end Mem
end Go.Proofs.YtglhdlkmgmbgeaaDoor

namespace Go.Proofs.YtglhdlkmgmbgeaaDoor
open Go.RowKit
open Mem Gen Go.Proofs.YtglhdlkmgmbgeaaDoor.Obj
set_option linter.unusedVariables false
namespace Wr

/-- The blocks below B and those of L stand. -/
structure Std (B : Nat) (L : List Nat) (w w' : World) : Prop where
  os : w'.os = w.os
  tape : w'.tape = w.tape
  output : w'.output = w.output
  size : w.heap.size ≤ w'.heap.size
  block : ∀ k, k < w.heap.size → (k < B ∨ k ∈ L) → w'.heap[k]? = w.heap[k]?
theorem Std.refl (B : Nat) (L : List Nat) (w : World) : Std B L w w := ⟨rfl, rfl, rfl, Nat.le_refl _, fun _ _ _ => rfl⟩
theorem Std.trans {B : Nat} {L : List Nat} {a b c : World} (h : Std B L a b) (k : Std B L b c) : Std B L a c :=
  ⟨k.os.trans h.os, k.tape.trans h.tape, k.output.trans h.output, Nat.le_trans h.size k.size, fun i hi hp => (k.block i (Nat.lt_of_lt_of_le hi h.size) hp).trans (h.block i hi hp)⟩
theorem Std.of_below {B : Nat} {L : List Nat} {w w' : World} (h : Below w.heap.size w w') : Std B L w w' := ⟨h.os, h.tape, h.output, h.size, fun k hk _ => h.block k hk⟩
theorem Std.then {B : Nat} {L : List Nat} {a b c : World} (h : Std B L a b) (k : Below b.heap.size b c) : Std B L a c := h.trans (Std.of_below k)
theorem Std.drew {B : Nat} {L : List Nat} {a b : World} (h : Std B L a b) : Std B L a b.drew := ⟨h.os, h.tape, h.output, h.size, h.block⟩
theorem Std.setCell {B : Nat} {L : List Nat} {a b : World} (h : Std B L a b) {p : Addr} (h1 : B ≤ p.block) (h2 : p.block ∉ L) (u : Value) : Std B L a (b.setCell p u) :=
  ⟨h.os, h.tape, h.output, by simpa [World.setCell] using h.size, fun k hk hp => (Below.heap_setCell _ _ _ _ (fun e => by
    rcases hp with hp | hp
    · omega
    · exact h2 (e ▸ hp))).trans (h.block k hk hp)⟩
theorem Std.alloc {B : Nat} {L : List Nat} {a b : World} (h : Std B L a b) (o : Obj) : Std B L a (b.alloc o) := h.then ((Below.refl _ _).alloc (Nat.le_refl _) o)
theorem Std.less {B : Nat} {L L' : List Nat} {a b : World} (h : Std B L a b) (hl : ∀ k ∈ L', k < a.heap.size → k < B ∨ k ∈ L) : Std B L' a b :=
  ⟨h.os, h.tape, h.output, h.size, fun k hk hp => h.block k hk (by rcases hp with hp | hp
                                                                   · exact .inl hp
                                                                   · exact hl k hp hk)⟩
theorem Std.kept {B : Nat} {L L0 : List Nat} {w0 w w' : World} (h : Std B L w w') (hk : Kept L0 w0 w) (hB : B = w0.heap.size) : Kept L0 w0 w' :=
  ⟨h.os.trans hk.os, h.tape.trans hk.tape, h.output.trans hk.output, Nat.le_trans hk.size h.size, fun k hk1 hn => (h.block k (Nat.lt_of_lt_of_le hk1 hk.size) (.inl (by omega))).trans (hk.block k hk1 hn)⟩
theorem Std.below {B : Nat} {L : List Nat} {w w' : World} (h : Std B L w w') (hB : B = w.heap.size) : Below w.heap.size w w' :=
  ⟨h.os, h.tape, h.output, h.size, fun k hk => h.block k hk (.inl (by omega))⟩
theorem Std.grown {B : Nat} {L : List Nat} {a b c : World} {row : Option Nat} (h : Std B L a b) (hg : b.grownBy c row) (hr : ∀ k, row = some k → B ≤ k ∧ k ∉ L) : Std B L a c :=
  ⟨hg.os.trans h.os, hg.tape.trans h.tape, hg.output.trans h.output, Nat.le_trans h.size hg.size, fun k hk hp => (hg.block k (Nat.lt_of_lt_of_le hk h.size) (fun e => by
    have := hr k e.symm
    rcases hp with hp | hp
    · omega
    · exact this.2 hp)).trans (h.block k hk hp)⟩

/-- Bytes as elements of a row. -/
def EBy : Rw.Enc UInt8 where
  enc c := [.int .u8 (c.toNat : Int)]
  k := 1
  pos := by decide
  len _ := rfl
  one _ v h := by simp at h; subst h; rfl
theorem rb_of_q {w : World} {oa : Option Addr} {l : List UInt8} (h : Rw.RowE EBy w oa l) : RB w oa l := by
  rcases h with h | ⟨b, off, h, hc⟩
  · exact .inl h
  · exact .inr ⟨b, off, h, fun i hi => by have := hc i hi 0 _ rfl; simpa [EBy] using this⟩
theorem q_of_rb {w : World} {oa : Option Addr} {l : List UInt8} (h : RB w oa l) : Rw.RowE EBy w oa l := by
  rcases h with h | ⟨b, off, h, hc⟩
  · exact .inl h
  · refine .inr ⟨b, off, h, fun i hi r v hv => ?_⟩
    have hr : r = 0 := by
      have := (List.getElem?_eq_some_iff.1 hv).1
      simp [EBy] at this; omega
    subst hr
    simp only [EBy, List.getElem?_cons_zero, Option.some.injEq] at hv
    subst hv
    have := hc i hi
    simpa [EBy] using this
/-- A row of bytes of the call's own, whose block isn't one of L. -/
structure OutB (B : Nat) (L : List Nat) (oa : Option Addr) (oc : Nat) (out : List UInt8) (w : World) : Prop where
  row : Rw.QRow EBy w oa oc out
  apart : ∀ b o s, oa = some ⟨b, o, s⟩ → B ≤ b ∧ b ∉ L
theorem OutB.bare (B : Nat) (L : List Nat) (w : World) : OutB B L none 0 [] w := ⟨Rw.QRow.bare _ _, fun b o s e => by cases e⟩
theorem OutB.lt {B : Nat} {L : List Nat} {oa : Option Addr} {oc : Nat} {out : List UInt8} {w : World} (h : OutB B L oa oc out w) : ∀ b o s, oa = some ⟨b, o, s⟩ → b < w.heap.size := fun b o s e => by
  obtain ⟨b', off, e', h1, _⟩ := h.row.lies _ e
  simp only [Addr.mk.injEq] at e'
  omega
theorem OutB.stand {B : Nat} {L L' : List Nat} {oa : Option Addr} {oc : Nat} {out : List UInt8} {w w' : World} (h : OutB B L oa oc out w) (hs : w.heap.size ≤ w'.heap.size) (hb : ∀ b o s, oa = some ⟨b, o, s⟩ → w'.heap[b]? = w.heap[b]?) (hL : ∀ k ∈ L', k ∈ L ∨ w.heap.size ≤ k) : OutB B L' oa oc out w' :=
  ⟨h.row.block hs hb, fun b o s e => ⟨(h.apart b o s e).1, fun hm => by
    rcases hL b hm with h1 | h1
    · exact (h.apart b o s e).2 h1
    · have := h.lt b o s e; omega⟩⟩
theorem OutB.below {B : Nat} {L : List Nat} {oa : Option Addr} {oc : Nat} {out : List UInt8} {w w' : World} (h : OutB B L oa oc out w) (hb : Below w.heap.size w w') : OutB B L oa oc out w' :=
  h.stand hb.size (fun b o s e => hb.block b (h.lt b o s e)) (fun k hk => .inl hk)
theorem OutB.kept {B : Nat} {L L' : List Nat} {oa : Option Addr} {oc : Nat} {out : List UInt8} {w w' : World} (h : OutB B L oa oc out w) (hk : Kept L w w') (hL : ∀ k ∈ L', k ∈ L ∨ w.heap.size ≤ k) : OutB B L' oa oc out w' :=
  h.stand hk.size (fun b o s e => hk.block b (h.lt b o s e) (h.apart b o s e).2) hL
theorem OutB.rb {B : Nat} {L : List Nat} {oa : Option Addr} {oc : Nat} {out : List UInt8} {w : World} (h : OutB B L oa oc out w) : RB w oa out := rb_of_q h.row.row

/-- What an append to such a row leaves. -/
structure Grew (B : Nat) (L : List Nat) (w : World) (oa oa' : Option Addr) (oc' : Nat) (l3 : List UInt8) (w' : World) : Prop where
  out : OutB B L oa' oc' l3 w'
  std : Std B L w w'
  blk : ∀ k, k < w.heap.size → (∀ o s, oa ≠ some ⟨k, o, s⟩) → w'.heap[k]? = w.heap[k]?
  new : ∀ b o s, oa' = some ⟨b, o, s⟩ → (∃ o', oa = some ⟨b, o', none⟩) ∨ w.heap.size ≤ b

section
variable {P : Program} {t : TypeId}
/-- 'append(out, b...)', b a row of bytes that was made: what is run. -/
theorem run_bytes (w : World) (ty : TypeId) (ht : P.underlying t = some (.slice 5)) (hi : (P.info? 5).map (fun i => (i.zero, i.size, i.bytes)) = some (some (.int .u8 0), 1, 1))
    {B : Nat} {L : List Nat} {oa : Option Addr} {oc : Nat} {out : List UInt8} (h : OutB B L oa oc out w) (hB : B ≤ w.heap.size) (hLw : ∀ k ∈ L, k < w.heap.size) (a2 : Option Addr) (l2 : List UInt8) (n2 c : Nat) (hn2 : n2 = l2.length) (hne : l2 ≠ []) (hrb : RB w a2 l2)
    (l3 : List UInt8) (hl3 : l3 = out ++ l2) (hlen : l3.length ≤ 140737488355328) (n : Nat) (hn : n = out.length) :
    ∃ (oa' : Option Addr) (oc' : Nat) (w' : World), (Builtin.append_ #[t, t] ty #[.slice oa n oc, .slice a2 n2 c]).run P w = .ok (.slice oa' l3.length oc') w' ∧ Grew B L w oa oa' oc' l3 w' := by
  subst hl3 hn hn2
  rw [Option.map_eq_some_iff] at hi
  obtain ⟨i, hi, hi3⟩ := hi
  simp only [Prod.mk.injEq] at hi3
  obtain ⟨hz, hsize, hby⟩ := hi3
  rw [List.length_append] at hlen ⊢
  obtain ⟨a2, rfl⟩ : ∃ a, a2 = some a := by
    rcases hrb with h | ⟨b, off, h, _⟩
    · exact absurd h hne
    · exact ⟨_, h⟩
  obtain ⟨oa', oc', w', hrun, hq, hg, hb⟩ := Rw.run_append_que (P := P) (by' := 1) EBy w ty ht hi hz hsize hby rfl oa oc out h.row a2 c l2 (q_of_rb hrb) (by unfold maxLen; omega) (by omega)
  have hap : ∀ b o s, oa' = some ⟨b, o, s⟩ → B ≤ b ∧ b ∉ L := fun b o s e => by
    rcases hb b o s e with ⟨o', e'⟩ | h1
    · exact h.apart b o' none e'
    · exact ⟨by omega, fun hm => by have := hLw b hm; omega⟩
  refine ⟨oa', oc', w', hrun, ⟨hq, hap⟩, (Std.refl B L w).grown hg (fun k hk => ?_), fun k hk hne => hg.block k hk (fun e => ?_), hb⟩
  · rw [Option.map_eq_some_iff] at hk
    obtain ⟨⟨b, o, s⟩, e, rfl⟩ := hk
    exact h.apart b o s e
  · symm at e
    rw [Option.map_eq_some_iff] at e
    obtain ⟨⟨b, o, s⟩, e, rfl⟩ := e
    exact hne o s e
variable {w : World} {ops : Array Oper} {o : Oper} {a : Act} {Q : Exit → Act → World → Prop}
/-- As a step of a walk. -/
theorem wl_bytes {rest : List Oper} (ht : P.underlying t = some (.slice 5)) (hi : (P.info? 5).map (fun i => (i.zero, i.size, i.bytes)) = some (some (.int .u8 0), 1, 1))
    (hgd : o.guard = none) (s x : Operand) (ho : o.op = .call { callee := .builtin .append, args := #[s, x], argTypes := #[t, t] })
    {B : Nat} {L : List Nat} {oa : Option Addr} {oc n : Nat} {out : List UInt8} (hs : a.eval s = .slice oa n oc) (hn : n = out.length) (h : OutB B L oa oc out w) (hB : B ≤ w.heap.size) (hLw : ∀ k ∈ L, k < w.heap.size)
    {a2 : Option Addr} {l2 : List UInt8} {n2 c : Nat} (hx : a.eval x = .slice a2 n2 c) (hn2 : n2 = l2.length) (hne : l2 ≠ []) (hrb : RB w a2 l2)
    (l3 : List UInt8) (hl3 : l3 = out ++ l2) (hlen : l3.length ≤ 140737488355328)
    (hK : ∀ (oa' : Option Addr) (oc' : Nat) w', Hid (Grew B L w oa oa' oc' l3 w') → wpList P ops Q rest (a.put o.dst (.slice oa' l3.length oc')) w') :
    wpList P ops Q (o :: rest) a w := by
  obtain ⟨oa', oc', w', hrun, hG⟩ := run_bytes (P := P) w o.type ht hi h hB hLw a2 l2 n2 c hn2 hne hrb l3 hl3 hlen n hn
  refine wpList_step fun K hK2 => ?_
  have hw : Region.wanted o (yielded ops a.tmps) = true := by simp [Region.wanted, hgd]
  rw [if_pos hw]
  unfold Oper.wp
  simp [execOp, ho, resolve, invoke, builtin, hs, hx, hrun, Result.andThen]
  exact hK2 _ _ (hK _ _ _ (Lib.hid hG))
/-- As a step of a region that draws its order. -/
theorem step_bytes {K : Act → World → Prop} {Ee : Prop} (ht : P.underlying t = some (.slice 5)) (hi : (P.info? 5).map (fun i => (i.zero, i.size, i.bytes)) = some (some (.int .u8 0), 1, 1))
    (hgd : o.guard = none) (s x : Operand) (ho : o.op = .call { callee := .builtin .append, args := #[s, x], argTypes := #[t, t] })
    {B : Nat} {L : List Nat} {oa : Option Addr} {oc n : Nat} {out : List UInt8} (hs : a.eval s = .slice oa n oc) (hn : n = out.length) (h : OutB B L oa oc out w) (hB : B ≤ w.heap.size) (hLw : ∀ k ∈ L, k < w.heap.size)
    {a2 : Option Addr} {l2 : List UInt8} {n2 c : Nat} (hx : a.eval x = .slice a2 n2 c) (hn2 : n2 = l2.length) (hne : l2 ≠ []) (hrb : RB w a2 l2)
    (l3 : List UInt8) (hl3 : l3 = out ++ l2) (hlen : l3.length ≤ 140737488355328)
    (hK : ∀ (oa' : Option Addr) (oc' : Nat) w', Hid (Grew B L w oa oa' oc' l3 w') → K (a.put o.dst (.slice oa' l3.length oc')) w') :
    if Region.wanted o (yielded ops a.tmps) = true then Oper.wp P o a w K Q else Ee := by
  obtain ⟨oa', oc', w', hrun, hG⟩ := run_bytes (P := P) w o.type ht hi h hB hLw a2 l2 n2 c hn2 hne hrb l3 hl3 hlen n hn
  have hw : Region.wanted o (yielded ops a.tmps) = true := by simp [Region.wanted, hgd]
  rw [if_pos hw]
  unfold Oper.wp
  simp [execOp, ho, resolve, invoke, builtin, hs, hx, hrun, Result.andThen]
  exact hK _ _ _ (Lib.hid hG)
/-- A call of a Go function, as a step of a region that draws its order: by its contract. -/
theorem step_call {K : Act → World → Prop} {Ee : Prop} (hgd : o.guard = none) (f : FuncId) (xs : List Operand) (ts : Array TypeId) (ho : o.op = .call { callee := .value (.func f), args := xs.toArray, argTypes := ts })
    (args : List Value) (ha : xs.map a.eval = args) (hi : ∀ v, (callFunc f args.toArray).run P v = .ok (.enter f args.toArray) v) {R : Ending → World → Prop} (hc : Calls P f args.toArray w R) (hK : ∀ e w', R e w' → ∃ v, e = .returned v ∧ K (a.put o.dst v) w') :
    if Region.wanted o (yielded ops a.tmps) = true then Oper.wp P o a w K Q else Ee := by
  have hw : Region.wanted o (yielded ops a.tmps) = true := by simp [Region.wanted, hgd]
  rw [if_pos hw]
  have hr : (execOp a.eval o).run P w = .ok (.enter f args.toArray) w := by
    simp [execOp, ho, resolve, invoke, Deferred.ofValue, Act.eval, ha, hi, go_sem]
  unfold Oper.wp
  rw [hr]
  refine hc.mono fun e w' h => ?_
  obtain ⟨v, rfl, h2⟩ := hK e w' h
  exact h2
end
end Wr
end Go.Proofs.YtglhdlkmgmbgeaaDoor

namespace Go.Proofs.YtglhdlkmgmbgeaaDoor
open Go.RowKit
open Fra Oct Arg Mem Gen Qu Go.Proofs.YtglhdlkmgmbgeaaDoor.Obj
set_option linter.unusedVariables false
set_option linter.unusedSimpArgs false
set_option maxHeartbeats 4000000

theorem alloc_two (w : World) (a b : Obj) : ((w.alloc a).alloc b).heap[w.heap.size + 1]? = some b := by
  have h := heap_alloc_new (w.alloc a) b
  rwa [show (w.alloc a).heap.size = w.heap.size + 1 by simp] at h
theorem fin5 {w v : World} {b1 b2 : Nat} {x u p0 p1 p2 p3 p4 p5 p6 q0 q1 q2 q3 q4 q5 q6 : Value} (hv : Below w.heap.size w v) (h1 : v.heap[b1]? = some (Obj.cells #[u] 80 (0, 0)))
    (h2 : v.heap[b2]? = some (Obj.cells #[q0, q1, q2, q3, q4, q5, q6] 86 (0, 0))) (hne : b1 ≠ b2) (hl1 : w.heap.size ≤ b1) (hl2 : w.heap.size ≤ b2) :
    Below w.heap.size w ((((((((v.setCell ⟨b1, 0, none⟩ x).setCell ⟨b2, 0, none⟩ p0).setCell ⟨b2, 1, none⟩ p1).setCell ⟨b2, 2, none⟩ p2).setCell ⟨b2, 3, none⟩ p3).setCell ⟨b2, 4, none⟩ p4).setCell ⟨b2, 5, none⟩ p5).setCell ⟨b2, 6, none⟩ p6) ∧
    ((((((((v.setCell ⟨b1, 0, none⟩ x).setCell ⟨b2, 0, none⟩ p0).setCell ⟨b2, 1, none⟩ p1).setCell ⟨b2, 2, none⟩ p2).setCell ⟨b2, 3, none⟩ p3).setCell ⟨b2, 4, none⟩ p4).setCell ⟨b2, 5, none⟩ p5).setCell ⟨b2, 6, none⟩ p6).heap[b1]? = some (Obj.cells #[x] 80 (0, 0)) ∧
    ((((((((v.setCell ⟨b1, 0, none⟩ x).setCell ⟨b2, 0, none⟩ p0).setCell ⟨b2, 1, none⟩ p1).setCell ⟨b2, 2, none⟩ p2).setCell ⟨b2, 3, none⟩ p3).setCell ⟨b2, 4, none⟩ p4).setCell ⟨b2, 5, none⟩ p5).setCell ⟨b2, 6, none⟩ p6).heap[b2]? = some (Obj.cells #[p0, p1, p2, p3, p4, p5, p6] 86 (0, 0)) := by
  have g1 := heap_setCell_same v b1 0 _ _ x h1
  have g2 : (v.setCell ⟨b1, 0, none⟩ x).heap[b2]? = _ := (Below.heap_setCell v ⟨b1, 0, none⟩ x b2 (fun e => hne e.symm)).trans h2
  have k0 := heap_setCell_same _ b2 0 _ _ p0 g2
  have k1 := heap_setCell_same _ b2 1 _ _ p1 k0
  have k2 := heap_setCell_same _ b2 2 _ _ p2 k1
  have k3 := heap_setCell_same _ b2 3 _ _ p3 k2
  have k4 := heap_setCell_same _ b2 4 _ _ p4 k3
  have k5 := heap_setCell_same _ b2 5 _ _ p5 k4
  have k6 := heap_setCell_same _ b2 6 _ _ p6 k5
  have o : ∀ (w : World) (i : Nat) (y : Value), (w.setCell ⟨b2, i, none⟩ y).heap[b1]? = w.heap[b1]? := fun w i y => Below.heap_setCell w ⟨b2, i, none⟩ y b1 hne
  refine ⟨?_, ?_, k6⟩
  · exact (((((((hv.setCell (p := ⟨b1, 0, none⟩) hl1 x).setCell (p := ⟨b2, 0, none⟩) hl2 p0).setCell (p := ⟨b2, 1, none⟩) hl2 p1).setCell (p := ⟨b2, 2, none⟩) hl2 p2).setCell (p := ⟨b2, 3, none⟩) hl2 p3).setCell (p := ⟨b2, 4, none⟩) hl2 p4).setCell (p := ⟨b2, 5, none⟩) hl2 p5).setCell (p := ⟨b2, 6, none⟩) hl2 p6
  · exact (o _ 6 p6).trans ((o _ 5 p5).trans ((o _ 4 p4).trans ((o _ 3 p3).trans ((o _ 2 p2).trans ((o _ 1 p1).trans ((o _ 0 p0).trans g1))))))

set_option maxRecDepth 100000 in
set_option maxHeartbeats 1000000 in
theorem fill_r0 {Q : Exit → Act → World → Prop} {fb rv rb pb n cap : Nat} {ad : Option Addr}  (a : Act) (w : World) 
    (ha : Fr.Is 83 [(0, .pointer (some ⟨fb, 0, none⟩)), (1, .slice ad n cap)] a)
    (hQ : Hid (∀ a' , Fr.Is 83 [(0, .pointer (some ⟨fb, 0, none⟩)), (1, .slice ad n cap), (4, .pointer (some ⟨w.heap.size, 0, none⟩))] a' → Q .normal a' (w.alloc (.cells #[.bool false, .int .i64 0, .int .i64 0] 37)))) :
    (Fr.reg Tryd.f38 0).wp Tryd.prog Q a w := by
  obtain ⟨fr, rfl, hfr⟩ := ha.lit
  simp only [List.map_cons, List.map_nil, List.cons.injEq, and_true] at hfr
  conv => arg 2; whnf
  simp only [List.range, List.range.loop, List.map_cons, List.map_nil, hfr]
  clear hfr ha
  go_wp2_with fail
  exact hQ.out _ (Fr.Is.mk rfl rfl)

set_option maxRecDepth 100000 in
set_option maxHeartbeats 1000000 in
theorem fill_r1 {Q : Exit → Act → World → Prop} {fb rv rb pb n cap : Nat} {ad : Option Addr} {t st : Int} (a : Act) (w : World) (c0 : w.cell? ⟨fb, 0, none⟩ = some (.int .i64 t)) (c2 : w.cell? ⟨fb, 2, none⟩ = some (.int .i64 st))
    (ha : Fr.Is 83 [(0, .pointer (some ⟨fb, 0, none⟩)), (1, .slice ad n cap), (4, .pointer (some ⟨rv, 0, none⟩))] a)
    (hQ : Hid (∀ a' w', Fr.Is 83 [(0, .pointer (some ⟨fb, 0, none⟩)), (1, .slice ad n cap), (4, .pointer (some ⟨rv, 0, none⟩)), (16, .bool (!placeOk t st))] a' → Below w.heap.size w w' → Q .normal a' w')) :
    (Fr.reg Tryd.f38 1).wp Tryd.prog Q a w := by
  obtain ⟨fr, rfl, hfr⟩ := ha.lit
  simp only [List.map_cons, List.map_nil, List.cons.injEq, and_true] at hfr
  conv => arg 2; whnf
  simp only [List.range, List.range.loop, List.map_cons, List.map_nil, hfr]
  clear hfr ha
  have HP := Lib.hid (fun v => pplaced_any t st v)
  have hb0 : Below w.heap.size w w.drew := (Below.refl _ _).drew
  have : Nonempty (Cw (fun v => Below w.heap.size w v)) := ⟨⟨_, hb0⟩⟩
  have z0 : ∀ nn : Cw (fun v => Below w.heap.size w v), nn.v.cell? ⟨fb, 0, none⟩ = some (.int .i64 t) := fun nn => below_cell nn.h c0
  have z2 : ∀ nn : Cw (fun v => Below w.heap.size w v), nn.v.cell? ⟨fb, 2, none⟩ = some (.int .i64 st) := fun nn => below_cell nn.h c2
  refine reg_quietB (fun v => Below w.heap.size w v) (by kernel_rfl) (by kernel_rfl) hb0 ?_
  repeat (go_big_quiet_step ((go_at_call 41; exact (HP.out _).mono (fun e w' h => ⟨h.1, ⟨⟨w', h.2 ▸ Cw.h _⟩, rfl⟩⟩))))
  refine wpQuiet_nil ?_
  rintro w2 ⟨⟨_, hb1⟩, rfl⟩
  exact hQ.out _ _ (Fr.Is.mk rfl rfl) hb1

set_option maxRecDepth 100000 in
set_option maxHeartbeats 1000000 in
theorem fill_r3 {Q : Exit → Act → World → Prop} {fb rv rb pb n cap : Nat} {ad : Option Addr} {t fl : Int} (a : Act) (w : World) (c0 : w.cell? ⟨fb, 0, none⟩ = some (.int .i64 t)) (c1 : w.cell? ⟨fb, 1, none⟩ = some (.int .i64 fl)) (hs : SpIs w) (hk0 : 0 ≤ t) (h0 : 0 ≤ fl) (h1 : fl ≤ 255) (hn1 : n ≤ 1000000000)
    (ha : Fr.Is 83 [(0, .pointer (some ⟨fb, 0, none⟩)), (1, .slice ad n cap), (4, .pointer (some ⟨rv, 0, none⟩))] a)
    (hQ : Hid (∀ a' w', Fr.Is 83 [(0, .pointer (some ⟨fb, 0, none⟩)), (1, .slice ad n cap), (4, .pointer (some ⟨rv, 0, none⟩)), (29, .bool (!fitsB t fl n))] a' → Below w.heap.size w w' → Q .normal a' w')) :
    (Fr.reg Tryd.f38 3).wp Tryd.prog Q a w := by
  obtain ⟨fr, rfl, hfr⟩ := ha.lit
  simp only [List.map_cons, List.map_nil, List.cons.injEq, and_true] at hfr
  conv => arg 2; whnf
  simp only [List.range, List.range.loop, List.map_cons, List.map_nil, hfr]
  clear hfr ha
  have HP := Lib.hid (fun v (hv : Below w.heap.size w v) => pfits_any t fl (n : Int) v (hs.below hv) hk0 h0 h1 (by omega) (by omega))
  clear hs
  have hb0 : Below w.heap.size w w.drew := (Below.refl _ _).drew
  have : Nonempty (Cw (fun v => Below w.heap.size w v)) := ⟨⟨_, hb0⟩⟩
  have z0 : ∀ nn : Cw (fun v => Below w.heap.size w v), nn.v.cell? ⟨fb, 0, none⟩ = some (.int .i64 t) := fun nn => below_cell nn.h c0
  have z1 : ∀ nn : Cw (fun v => Below w.heap.size w v), nn.v.cell? ⟨fb, 1, none⟩ = some (.int .i64 fl) := fun nn => below_cell nn.h c1
  refine reg_quietB (fun v => Below w.heap.size w v) (by kernel_rfl) (by kernel_rfl) hb0 ?_
  repeat (go_big_quiet_step ((go_at_call 42; exact (HP.out _ (Cw.h _)).mono (fun e w' h => ⟨h.1, ⟨⟨w', below_step (Cw.h _) h.2⟩, rfl⟩⟩))))
  refine wpQuiet_nil ?_
  rintro w2 ⟨⟨_, hb1⟩, rfl⟩
  exact hQ.out _ _ (Fr.Is.mk rfl rfl) hb1
end Go.Proofs.YtglhdlkmgmbgeaaDoor
