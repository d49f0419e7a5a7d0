/- What a row's list of laid variables gives: each table's cells. -/
import Derived.WalkKit
import Derived.WalkSmall
import Derived.ProofKit
import Derived.OpenShut
import Derived.Deep.DeepHandedRow
import Derived.Lib.LaidTab
namespace Go.Proofs.YtabpoejimnoamaaDoor
open Go.RowKit
namespace Laid

theorem tabIs_at {P : Program} {W : World} {name : String} {k : IntKind} {zs : List Int} {g : Nat} {t e : TypeId} {n : Nat}
    (hg : P.globalNamed name = some g) (hty : (P.globals[g]?).map (·.type) = some t) (ht : P.underlying t = some (.array n e)) (he : P.underlying e = some (.int k)) (hce : P.cellsOf e = 1) (hct : P.cellsOf t = n) :
    ∀ (laid : List (String × DataW Unit)) (ps : List MemPlace) (i : Nat), DataW.LaidVars P W laid ps → laid[i]? = some (name, Lib.tabData k zs) → Lib.TabIs P W name k zs
  | [], _, i, _, hi => by simp at hi
  | x :: rest, ps, 0, h, hi => by
    simp only [List.getElem?_cons_zero, Option.some.injEq] at hi
    subst hi
    obtain ⟨g', t', cs, fuel, p, q, hg', ht', hvar, hd, _, _⟩ := h
    obtain rfl := Option.some.inj (hg.symm.trans hg')
    obtain rfl := Option.some.inj (hty.symm.trans ht')
    unfold Lib.TabIs
    rw [hvar, ← Lib.cells_of_tab ht he hce hct hd]
  | x :: rest, ps, i + 1, h, hi => by
    obtain ⟨g', t', cs, fuel, p, q, hg', ht', hvar, hd, hr, _⟩ := h
    exact tabIs_at hg hty ht he hce hct rest q i hr (by simpa using hi)

theorem tabIs {P : Program} {W : World} {name : String} {k : IntKind} {zs : List Int} {g : Nat} {t e : TypeId} {n : Nat}
    (hg : P.globalNamed name = some g) (hty : (P.globals[g]?).map (·.type) = some t) (ht : P.underlying t = some (.array n e)) (he : P.underlying e = some (.int k)) (hce : P.cellsOf e = 1) (hct : P.cellsOf t = n)
    {laid : List (String × DataW Unit)} (h : laidMet P laid W) (i : Nat) (hi : laid[i]? = some (name, Lib.tabData k zs)) : Lib.TabIs P W name k zs := by
  obtain ⟨ps, hv, _⟩ := h
  exact tabIs_at hg hty ht he hce hct laid ps i hv hi

/-- What a literal reads from. -/
def litV : Lit → Value
  | .int k n => .int k n
  | .string l => .string ⟨l.toArray⟩
  | .bool b => .bool b
  | _ => undef

theorem litV_of {H : Type} {enc : TypeId × Value → H} {P : Program} {w : World} {base : Nat} {sp : Nat → Bool} {held : Bool} {fuel : Nat} {t : TypeId} {k : IntKind} {v : Value} {L : Lit} {p : List MemPlace}
    (ht : P.underlying t = some (.int k)) (h : DataW.trod enc P w base sp held fuel t [v] = some (.lit L, p)) : v = litV L := by
  obtain ⟨z, hz, hx, _⟩ := DataW.trod_int ht h
  simp only [Prod.mk.injEq, DataW.lit.injEq] at hx
  rw [hx.1]
  exact (List.cons.inj hz).1

/-- An array of structs of integers: cell by cell. -/
theorem rows_at {P : Program} {w : World} {base : Nat} {sp : Nat → Bool} {held : Bool} {fuel : Nat} {t e : TypeId} {n m : Nat} {fs : Array Field} {cs : List Value} {rows : List (List Lit)} {p : List MemPlace} {H : Type} {enc : TypeId × Value → H}
    (ht : P.underlying t = some (.array n e)) (he : P.underlying e = some (.struct fs)) (hm : P.cellsOf e = m) (hone : ∀ (i : Nat) (f : Field), fs[i]? = some f → f.offset = i ∧ P.cellsOf f.type = 1 ∧ ∃ k, P.underlying f.type = some (.int k)) (hfs : fs.size = m)
    (h : DataW.trod enc P w base sp held fuel t cs = some (.agg (rows.map fun r => .agg (r.map .lit)), p)) :
    ∀ (i f : Nat) (r : List Lit) (L : Lit), rows[i]? = some r → r[f]? = some L → cs[i * m + f]? = some (litV L) := by
  intro i f r L hr hL
  obtain ⟨xs, g, _, hx, hcl, hxl, hel⟩ := DataW.trod_array ht h
  simp only [Prod.mk.injEq, DataW.agg.injEq] at hx
  have h1 : (xs.map (·.1))[i]? = some (.agg (r.map .lit)) := by rw [← hx.1, List.getElem?_map, hr]; rfl
  rw [List.getElem?_map] at h1
  cases hxi : xs[i]? with
  | none => rw [hxi] at h1; cases h1
  | some x =>
    rw [hxi] at h1
    simp only [Option.map_some, Option.some.injEq] at h1
    have hi : i < n := by rw [← hxl]; exact (List.getElem?_eq_some_iff.1 hxi).1
    have h2 := hel i hi
    rw [hxi, hm] at h2
    obtain ⟨ys, q, _, hy, hpl, hyl, hf⟩ := DataW.trod_struct he h2
    rw [hy] at h1
    simp only [DataW.agg.injEq] at h1
    have h3 : (ys.map (·.1))[f]? = some (.lit L) := by rw [h1, List.getElem?_map, hL]; rfl
    rw [List.getElem?_map] at h3
    cases hyf : ys[f]? with
    | none => rw [hyf] at h3; cases h3
    | some y =>
      rw [hyf] at h3
      simp only [Option.map_some, Option.some.injEq] at h3
      have hlt : f < fs.size := by rw [← hyl]; exact (List.getElem?_eq_some_iff.1 hyf).1
      have hfld : fs[f]? = some fs[f] := Array.getElem?_eq_getElem hlt
      obtain ⟨o1, o2, k, o3⟩ := hone f _ hfld
      have h4 := hf f _ hfld
      rw [o1, o2, hyf] at h4
      rw [hm, List.length_take, List.length_drop] at hpl
      have hlen : i * m + f < cs.length := by omega
      have h5 : (((cs.drop (i * m)).take m).drop f).take 1 = [cs[i * m + f]] := by
        rw [List.drop_take, List.drop_drop, List.take_take, List.drop_eq_getElem_cons (by omega)]
        rw [show min 1 (m - f) = 1 from by omega]; rfl
      rw [h5] at h4
      obtain ⟨y1, y2⟩ := y
      simp only at h3
      subst h3
      rw [List.getElem?_eq_getElem hlen, litV_of o3 h4]

/-- A laid array of structs of integers: its block's cells. -/
theorem rowsIs_at {P : Program} {W : World} {name : String} {rows : List (List Lit)} {g : Nat} {t e : TypeId} {n m : Nat} {fs : Array Field}
    (hg : P.globalNamed name = some g) (hty : (P.globals[g]?).map (·.type) = some t) (ht : P.underlying t = some (.array n e)) (he : P.underlying e = some (.struct fs)) (hm : P.cellsOf e = m)
    (hone : ∀ (i : Nat) (f : Field), fs[i]? = some f → f.offset = i ∧ P.cellsOf f.type = 1 ∧ ∃ k, P.underlying f.type = some (.int k)) (hfs : fs.size = m) :
    ∀ (laid : List (String × DataW Unit)) (ps : List MemPlace) (i : Nat), DataW.LaidVars P W laid ps → laid[i]? = some (name, .agg (rows.map fun r => .agg (r.map .lit))) →
      ∀ (i f : Nat) (r : List Lit) (L : Lit), rows[i]? = some r → r[f]? = some L → W.cell? ⟨g, i * m + f, none⟩ = some (litV L)
  | [], _, i, _, hi => by simp at hi
  | x :: rest, ps, 0, h, hi => by
    simp only [List.getElem?_cons_zero, Option.some.injEq] at hi
    subst hi
    obtain ⟨g', t', cs, fuel, p, q, hg', ht', hvar, hd, _, _⟩ := h
    obtain rfl := Option.some.inj (hg.symm.trans hg')
    obtain rfl := Option.some.inj (hty.symm.trans ht')
    intro i f r L h1 h2
    rw [World.var?_cell hg hvar]
    have := rows_at ht he hm hone hfs hd i f r L h1 h2
    simpa using this
  | x :: rest, ps, i + 1, h, hi => by
    obtain ⟨g', t', cs, fuel, p, q, hg', ht', hvar, hd, hr, _⟩ := h
    exact rowsIs_at hg hty ht he hm hone hfs rest q i hr (by simpa using hi)

/-- A table stays as it was where blocks below stay. -/
theorem tab_below {P : Program} {w w' : World} {name : String} {k : IntKind} {zs : List Int} {g : Nat} (hg : P.globalNamed name = some g) (h : Lib.TabIs P w name k zs) (hb : Below w.heap.size w w') (hlt : g < w.heap.size) : Lib.TabIs P w' name k zs := by
  unfold Lib.TabIs at h ⊢
  exact var?_below hb hg hlt h
end Laid
end Go.Proofs.YtabpoejimnoamaaDoor
