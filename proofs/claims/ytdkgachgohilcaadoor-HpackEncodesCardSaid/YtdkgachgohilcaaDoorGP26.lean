/- Layer 5: rows of blocks: how many bytes they have together; a row of bytes of a call's own. Layer 5: what an encoder writes is read by a decoder, step by step: the invariant of both tables. What a row's list of laid variables gives: each table's cells. What the laid table of groups gives. Two rows of bytes held against each other as texts. -/
import Derived.Test.YtdkgachgohilcaaDoorGP25
import Derived.WalkKit
import Derived.WalkSmall
import Derived.ProofKit
import Derived.OpenShut
import Derived.Deep.DeepHandedRow
import Derived.Lib.LaidTab
import Derived.Test.YtdkgachgohilcaaDoorRows
import Derived.Test.YtdkgachgohilcaaDoorGP07
import Derived.Deep.Fields
import Derived.Test.YtdkgachgohilcaaDoorGP01
import Derived.WalkSpells
import Derived.WalkLawsBesides
import Derived.Lib.Hide
set_option linter.unusedVariables false
set_option linter.unusedSimpArgs false
namespace Go.Proofs.YtdkgachgohilcaaDoor
open Go.RowKit
open Huf Pre Tab Hpk Arg Mem Gen Wr Go.Proofs.YtdkgachgohilcaaDoor.Obj Sx
set_option linter.unusedVariables false

/-- How many bytes blocks have together. -/
def blSum : List BlM → Nat
  | [] => 0
  | d :: r => d.l.length + blSum r
theorem blSum_append (a b : List BlM) : blSum (a ++ b) = blSum a + blSum b := by
  induction a with
  | nil => simp [blSum]
  | cons d r ih => simp only [List.cons_append, blSum, ih]; omega
theorem blSum_succ {l : List BlM} {k : Nat} (h : k < l.length) : blSum (l.take (k + 1)) = blSum (l.take k) + l[k].l.length := by
  rw [List.take_add_one, List.getElem?_eq_getElem h, blSum_append]; simp [blSum]
theorem blSum_le (l : List BlM) {j k : Nat} (h : j ≤ k) : blSum (l.take j) ≤ blSum (l.take k) := by
  have : l.take j = (l.take k).take j := by rw [List.take_take, Nat.min_eq_left h]
  rw [this]
  have h2 := blSum_append ((l.take k).take j) ((l.take k).drop j)
  rw [List.take_append_drop] at h2
  omega
/-- A row of bytes of a call's own. -/
def RbP (ad : Option Addr) (l : List UInt8) : World → Prop := fun w => RB w ad l
theorem RbP.st {ad : Option Addr} {l : List UInt8} : Stable (blk ad) (RbP ad l) := fun a b hs hb h => by
  rcases h with h | ⟨b', o, rfl, hc⟩
  · exact .inl h
  · refine .inr ⟨b', o, rfl, fun i hi => ?_⟩
    rw [← hc i hi]
    exact World.cell?_of_block (a := ⟨b', o + i, none⟩) (hb b' (List.mem_singleton.mpr rfl))

/-- A block has no more fields than bytes. -/
theorem decF_len (md ld : Nat) : ∀ (F : Nat) (l : List UInt8) (out : List FdM) (cst sizes m : Nat) (rows : List FdM), l.length < F → csum rows ≤ m → m ≤ 65536 → md ≤ 65536 →
    (decF md ld F l out cst sizes m rows).1.2.length ≤ out.length + l.length
  | 0, l, _, _, _, _, _, h, _, _, _ => absurd h (Nat.not_lt_zero _)
  | F + 1, [], out, cst, sizes, m, rows, _, _, _, _ => by
    rw [decF]
    split
    · exact Nat.zero_le _
    · exact Nat.le_refl _
  | F + 1, c :: r, out, cst, sizes, m, rows, hF, hc, hm, hmd => by
    have hbd := takeN_bd (c :: r) (bitsOf c.toNat) (bits8 _)
    have hlen : (c :: r).length = r.length + 1 := rfl
    rw [hlen] at hF ⊢
    rw [decF]
    generalize takeN (c :: r) (bitsOf c.toNat) = T at hbd ⊢
    obtain ⟨n, k, e⟩ := T
    simp only at hbd ⊢
    by_cases he : e ≠ 0
    · rw [if_pos he]; exact Nat.zero_le _
    · rw [if_neg he]
      have h1 := hbd.2.2.1 (by omega)
      have hd : ((c :: r).drop k).length = r.length + 1 - k := by rw [List.length_drop, hlen]
      by_cases h5 : bitsOf c.toNat = 5
      · rw [if_pos h5]
        split
        · exact Nat.zero_le _
        · have ih := decF_len md ld F ((c :: r).drop k) out cst (sizes + 1) n (fit n rows) (by rw [hd]; omega) (fit_sum _ _) (by omega) hmd
          rw [hd] at ih; omega
      · rw [if_neg h5]
        by_cases h7 : bitsOf c.toNat = 7
        · rw [if_pos h7]
          split
          · exact Nat.zero_le _
          · have ih := decF_len md ld F ((c :: r).drop k) (out ++ [(atT rows n).1]) (cst + cost (atT rows n).1) sizes m rows (by rw [hd]; omega) hc hm hmd
            rw [hd, List.length_append] at ih
            simp only [List.length_cons, List.length_nil] at ih
            omega
        · rw [if_neg h7]
          have hb := litM_bd rows ((c :: r).drop k) n (by omega)
          generalize litM rows ((c :: r).drop k) n = X at hb ⊢
          obtain ⟨e2, f, rest⟩ := X
          simp only at hb ⊢
          split
          · exact Nat.zero_le _
          · rw [hd] at hb
            have ih := decF_len md ld F rest (out ++ [⟨f.name, f.value, decide (c.toNat / 16 = 1)⟩]) (cst + cost f) sizes m (if bitsOf c.toNat = 6 then addT m rows ⟨f.name, f.value, decide (c.toNat / 16 = 1)⟩ else rows) (by omega) (by
              split
              · exact addT_sum _ _ _
              · exact hc) hm hmd
            rw [List.length_append] at ih
            simp only [List.length_cons, List.length_nil] at ih
            omega
theorem decR_len (br : Bool) (md ld : Nat) (l : List UInt8) (m : Nat) (rows : List FdM) (hc : csum rows ≤ m) (hm : m ≤ 65536) (hmd : md ≤ 65536) : (decR br md ld l m rows).1.2.length ≤ l.length := by
  rw [decR]
  split
  · exact Nat.zero_le _
  · have := decF_len md ld (l.length + 1) l [] 0 0 m rows (by omega) hc hm hmd
    simpa using this

theorem totH_append (a b : List DoH) : totH (a ++ b) = totH a + totH b := by
  induction a with
  | nil => simp [totH]
  | cons d r ih => simp only [List.cons_append, totH, ih]; omega
theorem totH_succ {l : List DoH} {k : Nat} (h : k < l.length) : totH (l.take (k + 1)) = totH (l.take k) + csum l[k].l := by
  rw [List.take_add_one, List.getElem?_eq_getElem h, totH_append]; simp [totH]
theorem totH_le (l : List DoH) {j k : Nat} (h : j ≤ k) : totH (l.take j) ≤ totH (l.take k) := by
  have : l.take j = (l.take k).take j := by rw [List.take_take, Nat.min_eq_left h]
  rw [this]
  have h2 := totH_append ((l.take k).take j) ((l.take k).drop j)
  rw [List.take_append_drop] at h2
  omega
theorem DoH.ok.below {w v : World} {d : DoH} (h : d.ok w) (hb : Below w.heap.size w v) : d.ok v := ⟨h.1, h.2.1.below hb, h.2.2⟩

/-- A block with just these cells. -/
def BlkP (b : Nat) (o : Obj) : World → Prop := fun w => w.heap[b]? = some o
theorem BlkP.st {b : Nat} {o : Obj} : Stable [b] (BlkP b o) := fun x y hs hb h => (hb b (List.mem_singleton.mpr rfl)).trans h
theorem st_alloc {W w : World} {obs : List Th} (hS : Sts W w obs) (cs : Array Value) (t : TypeId) : Sts W (w.alloc (.cells cs t)) (([w.heap.size], BlkP w.heap.size (.cells cs t (0, 0))) :: obs) :=
  hS.add (below_alloc w _) (fun k hk => by
    simp only [List.mem_singleton] at hk
    subst hk
    exact ⟨Nat.le_refl _, (Array.getElem?_eq_some_iff.1 (heap_alloc_new w (.cells cs t))).1⟩) BlkP.st (heap_alloc_new w _)
end Go.Proofs.YtdkgachgohilcaaDoor

namespace Go.Proofs.YtdkgachgohilcaaDoor
open Go.RowKit
open Huf Pre Tab Hpk Arg Mem Gen Wr Go.Proofs.YtdkgachgohilcaaDoor.Obj Sx
set_option linter.unusedVariables false
namespace Hpk

/-- The decoder's table is what the encoder's was when it told last; what came since is a lesser size. -/
structure BInv (told least m : Nat) (rowsD rowsE : List FdM) : Prop where
  sum : csum rowsD ≤ told
  le : least ≤ told ∧ least ≤ m
  fit : rowsE = Tab.fit least rowsD
  bd : m ≤ 65536 ∧ told ≤ 65536
  never : ∀ x ∈ rowsD, x.never = false
theorem BInv.start (own : Nat) (h : own ≤ 65536) : BInv 4096 (min own 4096) (min own 4096) [] [] :=
  ⟨by simp [csum], by omega, rfl, by omega, fun x hx => by cases hx⟩
theorem BInv.limit {told least m n : Nat} {rowsD rowsE : List FdM} (h : BInv told least m rowsD rowsE) (hn : n ≤ 65536) : BInv told (min least n) n rowsD (Tab.fit n rowsE) := by
  refine ⟨h.sum, by have := h.le; omega, ?_, ⟨hn, h.bd.2⟩, h.never⟩
  rw [h.fit, fit_fit, Nat.min_comm]
theorem BInv.sumE {told least m : Nat} {rowsD rowsE : List FdM} (h : BInv told least m rowsD rowsE) : csum rowsE ≤ m ∧ ∀ x ∈ rowsE, x.never = false := by
  rw [h.fit]
  exact ⟨Nat.le_trans (fit_sum rowsD least) h.le.2, fun x hx => h.never x (fit_mem hx)⟩
theorem BInv.encode {told least m : Nat} {rowsD rowsE : List FdM} (h : BInv told least m rowsD rowsE) (l : List FdM) : BInv m m m (encList m l rowsE).2 (encList m l rowsE).2 := by
  have hE := h.sumE
  have hi := encList_inv m l rowsE hE.2 hE.1
  exact ⟨hi.2, ⟨Nat.le_refl _, Nat.le_refl _⟩, (fit_all _ _ hi.2).symm, ⟨h.bd.1, h.bd.1⟩, hi.1⟩
theorem BInv.read {told least m : Nat} {rowsD rowsE : List FdM} (h : BInv told least m rowsD rowsE) (l : List FdM) (hl : ∀ f ∈ l, f.name.size ≤ 4096 ∧ f.value.size ≤ 4096) (hs : csum l ≤ 1048576) :
    decR false 65536 1099511627776 (hdr told least m ++ (encList m l rowsE).1) told rowsD = ((0, l.map normF), (m, (encList m l rowsE).2), false) := by
  rw [block_back2 65536 1099511627776 told least m l rowsD rowsE h.sum h.le.1 h.le.2 h.fit h.bd.1 (by omega) h.bd.2 hl h.never, if_neg (by omega)]
end Hpk
/-- A box that was just made is written. -/
theorem below_box (w : World) (cs : Array Value) (t : TypeId) (i : Nat) (v : Value) : Below w.heap.size w ((w.alloc (.cells cs t)).setCell ⟨w.heap.size, i, none⟩ v) :=
  ⟨rfl, rfl, rfl, by simp [World.setCell], fun k hk => (Below.heap_setCell _ _ _ _ (by simp only; omega)).trans ((below_alloc w (.cells cs t)).block k hk)⟩
end Go.Proofs.YtdkgachgohilcaaDoor

namespace Go.Proofs.YtdkgachgohilcaaDoor
open Go.RowKit
namespace Laid

theorem tabIs_at {P : Program} {W : World} {name : String} {k : IntKind} {zs : List Int} {g : Nat} {t e : TypeId} {n : Nat}
    (hg : P.globalNamed name = some g) (hty : (P.globals[g]?).map (·.type) = some t) (ht : P.underlying t = some (.array n e)) (he : P.underlying e = some (.int k)) (hce : P.cellsOf e = 1) (hct : P.cellsOf t = n) :
    ∀ (laid : List (String × DataW Unit)) (ps : List MemPlace) (i : Nat), DataW.LaidVars P W laid ps → laid[i]? = some (name, Lib.tabData k zs) → Lib.TabIs P W name k zs
  | [], _, i, _, hi => by simp at hi
  | x :: rest, ps, 0, h, hi => by
    simp only [List.getElem?_cons_zero, Option.some.injEq] at hi
    subst hi
    obtain ⟨g', t', cs, fuel, p, q, hg', ht', hvar, hd, _, _⟩ := h
    obtain rfl := Option.some.inj (hg.symm.trans hg')
    obtain rfl := Option.some.inj (hty.symm.trans ht')
    unfold Lib.TabIs
    rw [hvar, ← Lib.cells_of_tab ht he hce hct hd]
  | x :: rest, ps, i + 1, h, hi => by
    obtain ⟨g', t', cs, fuel, p, q, hg', ht', hvar, hd, hr, _⟩ := h
    exact tabIs_at hg hty ht he hce hct rest q i hr (by simpa using hi)

theorem tabIs {P : Program} {W : World} {name : String} {k : IntKind} {zs : List Int} {g : Nat} {t e : TypeId} {n : Nat}
    (hg : P.globalNamed name = some g) (hty : (P.globals[g]?).map (·.type) = some t) (ht : P.underlying t = some (.array n e)) (he : P.underlying e = some (.int k)) (hce : P.cellsOf e = 1) (hct : P.cellsOf t = n)
    {laid : List (String × DataW Unit)} (h : laidMet P laid W) (i : Nat) (hi : laid[i]? = some (name, Lib.tabData k zs)) : Lib.TabIs P W name k zs := by
  obtain ⟨ps, hv, _⟩ := h
  exact tabIs_at hg hty ht he hce hct laid ps i hv hi

/-- What a literal reads from. -/
def litV : Lit → Value
  | .int k n => .int k n
  | .string l => .string ⟨l.toArray⟩
  | .bool b => .bool b
  | _ => undef

theorem litV_of {H : Type} {enc : TypeId × Value → H} {P : Program} {w : World} {base : Nat} {sp : Nat → Bool} {held : Bool} {fuel : Nat} {t : TypeId} {k : IntKind} {v : Value} {L : Lit} {p : List MemPlace}
    (ht : P.underlying t = some (.int k)) (h : DataW.trod enc P w base sp held fuel t [v] = some (.lit L, p)) : v = litV L := by
  obtain ⟨z, hz, hx, _⟩ := DataW.trod_int ht h
  simp only [Prod.mk.injEq, DataW.lit.injEq] at hx
  rw [hx.1]
  exact (List.cons.inj hz).1

/-- An array of structs of integers: cell by cell. -/
theorem rows_at {P : Program} {w : World} {base : Nat} {sp : Nat → Bool} {held : Bool} {fuel : Nat} {t e : TypeId} {n m : Nat} {fs : Array Field} {cs : List Value} {rows : List (List Lit)} {p : List MemPlace} {H : Type} {enc : TypeId × Value → H}
    (ht : P.underlying t = some (.array n e)) (he : P.underlying e = some (.struct fs)) (hm : P.cellsOf e = m) (hone : ∀ (i : Nat) (f : Field), fs[i]? = some f → f.offset = i ∧ P.cellsOf f.type = 1 ∧ ∃ k, P.underlying f.type = some (.int k)) (hfs : fs.size = m)
    (h : DataW.trod enc P w base sp held fuel t cs = some (.agg (rows.map fun r => .agg (r.map .lit)), p)) :
    ∀ (i f : Nat) (r : List Lit) (L : Lit), rows[i]? = some r → r[f]? = some L → cs[i * m + f]? = some (litV L) := by
  intro i f r L hr hL
  obtain ⟨xs, g, _, hx, hcl, hxl, hel⟩ := DataW.trod_array ht h
  simp only [Prod.mk.injEq, DataW.agg.injEq] at hx
  have h1 : (xs.map (·.1))[i]? = some (.agg (r.map .lit)) := by rw [← hx.1, List.getElem?_map, hr]; rfl
  rw [List.getElem?_map] at h1
  cases hxi : xs[i]? with
  | none => rw [hxi] at h1; cases h1
  | some x =>
    rw [hxi] at h1
    simp only [Option.map_some, Option.some.injEq] at h1
    have hi : i < n := by rw [← hxl]; exact (List.getElem?_eq_some_iff.1 hxi).1
    have h2 := hel i hi
    rw [hxi, hm] at h2
    obtain ⟨ys, q, _, hy, hpl, hyl, hf⟩ := DataW.trod_struct he h2
    rw [hy] at h1
    simp only [DataW.agg.injEq] at h1
    have h3 : (ys.map (·.1))[f]? = some (.lit L) := by rw [h1, List.getElem?_map, hL]; rfl
    rw [List.getElem?_map] at h3
    cases hyf : ys[f]? with
    | none => rw [hyf] at h3; cases h3
    | some y =>
      rw [hyf] at h3
      simp only [Option.map_some, Option.some.injEq] at h3
      have hlt : f < fs.size := by rw [← hyl]; exact (List.getElem?_eq_some_iff.1 hyf).1
      have hfld : fs[f]? = some fs[f] := Array.getElem?_eq_getElem hlt
      obtain ⟨o1, o2, k, o3⟩ := hone f _ hfld
      have h4 := hf f _ hfld
      rw [o1, o2, hyf] at h4
      rw [hm, List.length_take, List.length_drop] at hpl
      have hlen : i * m + f < cs.length := by omega
      have h5 : (((cs.drop (i * m)).take m).drop f).take 1 = [cs[i * m + f]] := by
        rw [List.drop_take, List.drop_drop, List.take_take, List.drop_eq_getElem_cons (by omega)]
        rw [show min 1 (m - f) = 1 from by omega]; rfl
      rw [h5] at h4
      obtain ⟨y1, y2⟩ := y
      simp only at h3
      subst h3
      rw [List.getElem?_eq_getElem hlen, litV_of o3 h4]

/-- A laid array of structs of integers: its block's cells. -/
theorem rowsIs_at {P : Program} {W : World} {name : String} {rows : List (List Lit)} {g : Nat} {t e : TypeId} {n m : Nat} {fs : Array Field}
    (hg : P.globalNamed name = some g) (hty : (P.globals[g]?).map (·.type) = some t) (ht : P.underlying t = some (.array n e)) (he : P.underlying e = some (.struct fs)) (hm : P.cellsOf e = m)
    (hone : ∀ (i : Nat) (f : Field), fs[i]? = some f → f.offset = i ∧ P.cellsOf f.type = 1 ∧ ∃ k, P.underlying f.type = some (.int k)) (hfs : fs.size = m) :
    ∀ (laid : List (String × DataW Unit)) (ps : List MemPlace) (i : Nat), DataW.LaidVars P W laid ps → laid[i]? = some (name, .agg (rows.map fun r => .agg (r.map .lit))) →
      ∀ (i f : Nat) (r : List Lit) (L : Lit), rows[i]? = some r → r[f]? = some L → W.cell? ⟨g, i * m + f, none⟩ = some (litV L)
  | [], _, i, _, hi => by simp at hi
  | x :: rest, ps, 0, h, hi => by
    simp only [List.getElem?_cons_zero, Option.some.injEq] at hi
    subst hi
    obtain ⟨g', t', cs, fuel, p, q, hg', ht', hvar, hd, _, _⟩ := h
    obtain rfl := Option.some.inj (hg.symm.trans hg')
    obtain rfl := Option.some.inj (hty.symm.trans ht')
    intro i f r L h1 h2
    rw [World.var?_cell hg hvar]
    have := rows_at ht he hm hone hfs hd i f r L h1 h2
    simpa using this
  | x :: rest, ps, i + 1, h, hi => by
    obtain ⟨g', t', cs, fuel, p, q, hg', ht', hvar, hd, hr, _⟩ := h
    exact rowsIs_at hg hty ht he hm hone hfs rest q i hr (by simpa using hi)

/-- A table stays as it was where blocks below stay. -/
theorem tab_below {P : Program} {w w' : World} {name : String} {k : IntKind} {zs : List Int} {g : Nat} (hg : P.globalNamed name = some g) (h : Lib.TabIs P w name k zs) (hb : Below w.heap.size w w') (hlt : g < w.heap.size) : Lib.TabIs P w' name k zs := by
  unfold Lib.TabIs at h ⊢
  exact var?_below hb hg hlt h
end Laid
end Go.Proofs.YtdkgachgohilcaaDoor

namespace Go.Proofs.YtdkgachgohilcaaDoor
open Go.RowKit
open Huf

def grpRows : List (List Lit) := (List.range 31).map fun i => [.int .i64 (gC i : Nat), .int .u32 (gK i : Nat), .int .i64 (gP i : Nat)]
theorem grp_laid : (Rows.laid_drawbridge_huff_groups : DataW Unit) = .agg (grpRows.map fun r => .agg (r.map .lit)) := by kernel_rfl

theorem grpIs_of {W : World} {laid : List (String × DataW Unit)} (h : laidMet Tryd.prog laid W) (i : Nat) (hi : laid[i]? = some ("drawbridge/huff.groups", Rows.laid_drawbridge_huff_groups)) : GrpIs W := by
  rw [grp_laid] at hi
  obtain ⟨ps, hv, _⟩ := h
  have H := Laid.rowsIs_at (P := Tryd.prog) (g := 0) (t := 148) (e := 147) (n := 31) (m := 3) (by kernel_rfl) (by kernel_rfl) Tryd.underlying148 Tryd.underlying147 (by kernel_rfl)
    (by
      intro i f hf
      have : i = 0 ∨ i = 1 ∨ i = 2 ∨ 3 ≤ i := by omega
      rcases this with rfl | rfl | rfl | h
      · simp at hf; subst hf; exact ⟨rfl, by kernel_rfl, _, Tryd.underlying3⟩
      · simp at hf; subst hf; exact ⟨rfl, by kernel_rfl, _, Tryd.underlying90⟩
      · simp at hf; subst hf; exact ⟨rfl, by kernel_rfl, _, Tryd.underlying3⟩
      · rw [Array.getElem?_eq_none (by simpa using h)] at hf; cases hf)
    rfl laid ps i hv hi
  intro j hj
  have hr : grpRows[j / 3]? = some [.int .i64 (gC (j / 3) : Nat), .int .u32 (gK (j / 3) : Nat), .int .i64 (gP (j / 3) : Nat)] := by
    rw [grpRows, List.getElem?_map, List.getElem?_range (by omega)]; rfl
  have h3 : j % 3 = 0 ∨ j % 3 = 1 ∨ j % 3 = 2 := by omega
  rcases h3 with h3 | h3 | h3
  · have := H (j / 3) 0 _ _ hr rfl
    rw [show j / 3 * 3 + 0 = j from by omega] at this
    rw [this, gcell, if_neg (by omega), Laid.litV, gC, show 3 * (j / 3) = j from by omega]
  · have := H (j / 3) 1 _ _ hr rfl
    rw [show j / 3 * 3 + 1 = j from by omega] at this
    rw [this, gcell, if_pos h3, Laid.litV, gK, show 3 * (j / 3) + 1 = j from by omega]
  · have := H (j / 3) 2 _ _ hr rfl
    rw [show j / 3 * 3 + 2 = j from by omega] at this
    rw [this, gcell, if_neg (by omega), Laid.litV, gP, show 3 * (j / 3) + 2 = j from by omega]
end Go.Proofs.YtdkgachgohilcaaDoor

namespace Go.Proofs.YtdkgachgohilcaaDoor
open Go.RowKit
open Mem
namespace Gen

/-- Two rows of bytes are held against each other as texts. -/
theorem bytes_any (a b : Option Addr) (la lb : List UInt8) (ca cb : Nat) (w : World) (ha : RB w a la) (hb : RB w b lb) :
    Calls Tryd.prog 15 #[.slice a la.length ca, .slice b lb.length cb] w fun e w' => e = .returned (.bool (decide (la = lb))) ∧ w = w' := by
  have h1 := ha.conv (P := Tryd.prog) (cap := ca) (src := 24) (dst := 9) Tryd.underlying24 Tryd.underlying5 Tryd.underlying9
  have h2 := hb.conv (P := Tryd.prog) (cap := cb) (src := 24) (dst := 9) Tryd.underlying24 Tryd.underlying5 Tryd.underlying9
  go_enter Tryd.func15, Tryd.ntmps15
  go_wp2_with fail
  go_ret
  exact ⟨congrArg (fun b => Ending.returned (.bool b)) (by rw [Bool.eq_iff_iff]; simp), rfl⟩
end Gen
end Go.Proofs.YtdkgachgohilcaaDoor
