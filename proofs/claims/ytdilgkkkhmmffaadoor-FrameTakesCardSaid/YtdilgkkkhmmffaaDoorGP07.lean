/- Layer 6: the program's reading of settings. What a row's list of laid variables gives: each table's cells. Layer 6: what the program tells of a frame's place, its length and its values. Layer 6: what the program tells of a frame's values. Layer 6: the program's fill, region by region. Layer 6: the program's fill, its two boxes. -/
import Derived.Test.YtdilgkkkhmmffaaDoorGP06
import Derived.LoopTactic
import Derived.Laws.MakeOwn
import Derived.WalkKit
import Derived.WalkSmall
import Derived.ProofKit
import Derived.OpenShut
import Derived.Deep.DeepHandedRow
import Derived.Lib.LaidTab
import Derived.Deep.Fields
import Derived.BigGuardPart
import Derived.Test.YtdilgkkkhmmffaaDoorGP02
set_option linter.unusedVariables false
set_option linter.unusedSimpArgs false
namespace Go.Proofs.YtdilgkkkhmmffaaDoor
open Go.RowKit
open Fra Oct Arg Mem Gen Go.Proofs.YtdilgkkkhmmffaaDoor.Obj
set_option linter.unusedVariables false
set_option linter.unusedSimpArgs false

theorem own_kept {w w' : World} {base : Nat} {e : TypeId} {size : Nat} {v : Value} {n : Nat} {xs : List Value} {L : List Nat} (h : w.ownsRow base e size v n xs) (hk : Kept L w w') (hL : ∀ k ∈ L, k < base ∨ w.heap.size ≤ k) : w'.ownsRow base e size v n xs := by
  obtain ⟨h1, h2 | ⟨g, cap, cur, rfl, hg, hh, r⟩⟩ := h
  · exact ⟨h1, .inl h2⟩
  · have hlt := (Array.getElem?_eq_some_iff.1 hh).1
    exact ⟨h1, .inr ⟨g, cap, cur, rfl, hg, hk.at hh (fun hm => by have := hL g hm; omega), r⟩⟩
theorem info_set : (Tryd.prog.info? 61).map (fun i => (i.zero, i.size, i.bytes)) = some (some (.agg #[.int .i64 0, .int .i64 0]), 2, 16) := by kernel_rfl
def lenV : Value → Nat
  | .slice _ n _ => n
  | _ => 0
theorem setsF_step (n : Nat) (l : List UInt8) (hl : l.length = 6 * n + 6) : setsF l.length l = ⟨at' l 0 2, at' l 2 4⟩ :: setsF (l.drop 6).length (l.drop 6) := by
  have hd : (l.drop 6).length = 6 * n := by rw [List.length_drop]; omega
  have hne : l ≠ [] := fun h => by rw [h] at hl; simp at hl
  have h : ∀ (m F : Nat) (r : List UInt8), r.length = 6 * m → m ≤ F → setsF F r = setsF m r := by
    intro m
    induction m with
    | zero =>
      intro F r hr _
      have : r = [] := List.eq_nil_of_length_eq_zero (by omega)
      subst this
      cases F <;> rfl
    | succ m ih =>
      intro F r hr hF
      have hrne : r ≠ [] := fun h => by rw [h] at hr; simp at hr
      obtain ⟨F, rfl⟩ : ∃ G, F = G + 1 := ⟨F - 1, by omega⟩
      have hrd : (r.drop 6).length = 6 * m := by rw [List.length_drop]; omega
      simp only [setsF, if_neg hrne]
      rw [ih F (r.drop 6) hrd (by omega)]
  rw [h (n + 1) l.length l (by omega) (by omega), h n (l.drop 6).length _ hd (by omega)]
  simp only [setsF, if_neg hne]

theorem own_ge {w : World} {base : Nat} {e : TypeId} {size : Nat} {v : Value} {n : Nat} {xs : List Value} (h : w.ownsRow base e size v n xs) (g : Nat) (hg : v.ownBlock = some g) : base ≤ g := by
  obtain ⟨h1, ⟨rfl, _⟩ | ⟨g', cap, cur, rfl, hg', hh, r⟩⟩ := h
  · simp [Value.ownBlock] at hg
  · simp [Value.ownBlock] at hg; omega

set_option maxRecDepth 100000 in
set_option maxHeartbeats 4000000 in
theorem rsettings_any {W : World} {rb : Nat} (l : List UInt8) (m : Nat) (w : World) (h : Rd W rb l w) (hm : l.length = 6 * m) (hl : l.length ≤ 1000000000) :
    Calls Tryd.prog 49 #[.pointer (some ⟨rb, 0, none⟩)] w fun e w' => ∃ ad cap, e = .returned (.slice ad (setsF l.length l).length cap) ∧ FrOk { noFr with sets := setsF l.length l } ad cap w' ∧ (∀ b o s, ad = some ⟨b, o, s⟩ → w.heap.size ≤ b) ∧ Rd W rb [] w' ∧ Kept [rb] w w' := by
  have hrl := h.lt
  obtain ⟨i0, hi, hz0, hz1, hz2⟩ := info_parts info_set
  obtain ⟨w1, hmk, hown, hgr⟩ := run_make_own (P := Tryd.prog) w w.heap.size 22 61 i0 (.agg #[.int .i64 0, .int .i64 0]) 2 Tryd.underlying22 hi hz0 hz1 .i64 .i64 m (by rw [hz2]; omega) (by unfold maxLen; omega) (Nat.le_refl _)
  have hb1 : Below w.heap.size w w1 := (Below.refl _ _).grown hgr (Nat.le_refl _) (by simp)
  have R1 := Lib.hid (h.kept (Kept.of_below hb1 (L := [])) (by simp))
  have hq : ((l.length : Int)).tdiv 6 = m := by rw [Int.tdiv_eq_ediv_of_nonneg (by omega)]; omega
  obtain ⟨ad0, cap0, hh, _⟩ := h.ex
  have c0 := cell_at hh 0
  simp only [List.getElem?_toArray, List.getElem?_cons_zero] at c0
  have HS : Hid (∀ done rest : List UInt8, done = done) := Lib.hid (fun _ _ => rfl)
  have HO := Lib.hid hown
  have HB1 := Lib.hid hb1
  have HW0 := Lib.hid h.bel
  have HI := Lib.hid (And.intro hi (And.intro hz0 (And.intro hz1 hz2)))
  have HT : Hid (setsF l.length l = setsF l.length l) := Lib.hid rfl
  generalize hTg : setsF l.length l = T at *
  have HTg := Lib.hid hTg
  obtain ⟨N, hN⟩ : ∃ N, N = l.length := ⟨_, rfl⟩
  rw [← hN] at hq c0 hm hl
  have HN := Lib.hid hN
  clear hown hgr hb1 h hh hi hz0 hz1 hz2 HT HS hTg hN
  go_enter Tryd.func49, Tryd.ntmps49
  go_wp2_with fail
  go_loopw [3] (fun lst wr => ∃ (done : List StM) (rest : List UInt8) (ad : Option Addr) (cap : Nat), lst = .slice ad done.length cap ∧ done.length ≤ m ∧ Hid (rest.length = 6 * (m - done.length) ∧ T = done ++ setsF rest.length rest) ∧ Hid (wr.ownsRow w.heap.size 61 2 (.slice ad done.length cap) done.length (Rw.flat ESt done)) ∧ Hid (Rd W rb rest wr) ∧ Hid (Kept [rb] w wr)) (fun lst _ => m - lenV lst)
  case atStart =>
    exact ⟨[], l, _, _, rfl, Nat.zero_le _, Lib.hid ⟨by rw [← HN.out, hm]; simp, by rw [List.nil_append]; exact HTg.out.symm⟩, HO, R1, Lib.hid (Kept.of_below HB1.out)⟩
  case round =>
    obtain ⟨done, rest, ad, cap, rfl, hdm, HR, HOw, HRd, HK⟩ := hrel
    obtain ⟨ad1, cap1, hh1, _⟩ := HRd.out.ex
    have c0 := cell_at hh1 0
    simp only [List.getElem?_toArray, List.getElem?_cons_zero] at c0
    clear hh1
    by_cases hlt : done.length < m
    · obtain ⟨n1, hn1⟩ : ∃ n1, rest.length = 6 * n1 + 6 := ⟨m - done.length - 1, by rw [HR.out.1]; omega⟩
      have hgt : (0 : Int) < rest.length := by omega
      have hst := setsF_step n1 rest hn1
      have hd6 : (rest.drop 2).drop 4 = rest.drop 6 := by rw [List.drop_drop]
      have hat : at' rest 2 4 = at' (rest.drop 2) 0 4 := by simp [at']
      rw [hat] at hst
      have e1 := at_bd rest 0 2 (by decide)
      have e2 := at_bd (rest.drop 2) 0 4 (by decide)
      have HN2 := Lib.hid (fun v (hv : Rd W rb rest v) => rnum_any 2 v hv (by decide) (by decide) (by omega))
      have HN4 := Lib.hid (fun v (hv : Rd W rb (rest.drop 2) v) => rnum_any 4 v hv (by decide) (by decide) (by simp; omega))
      rw [hd6] at HN4
      generalize hV : at' rest 0 2 = V at *
      generalize hU : at' (rest.drop 2) 0 4 = U at *
      have HSt := Lib.hid hst
      have HD : Hid ((rest.drop 6).length = 6 * (m - (done.length + 1))) := Lib.hid (by rw [List.length_drop, HR.out.1]; omega)
      have hS2 := heap_alloc_new wr (.cells #[.int .i64 0, .int .i64 0] 61)
      have hb2 : Below wr.heap.size wr (wr.alloc (.cells #[.int .i64 0, .int .i64 0] 61)) := (Below.refl _ _).alloc (Nat.le_refl _) _
      have R2 := Lib.hid (HRd.out.kept (Kept.of_below hb2 (L := [])) (by simp))
      have hrs : rb ≠ wr.heap.size := by have := HRd.out.lt; omega
      have HS2 := Lib.hid hS2
      have HB2 := Lib.hid hb2
      have hWlo := HRd.out.lo
      have hWw : W.heap.size ≤ wr.heap.size := HRd.out.bel.size
      clear hst hat hd6 hS2 hb2 hV hU
      go_wp2_with fail
      generalize wr.alloc (.cells #[.int .i64 0, .int .i64 0] 61) = w2 at HS2 HB2 R2 ⊢
      obtain ⟨sb, hsb⟩ : ∃ sb, sb = wr.heap.size := ⟨_, rfl⟩
      rw [← hsb] at HS2 hrs hWw ⊢
      have HSb := Lib.hid hsb
      clear hsb
      refine (HN2.out w2 R2.out).mono ?_
      rintro e w3 ⟨rfl, r3, k3⟩
      have K3 := Lib.hid k3
      have R3 := Lib.hid r3
      have HS3 := Lib.hid (k3.at HS2.out (by simp; omega))
      have y0 := cell_at HS3.out 0
      have z0 := frozen_of_row _ _ 0 _ _ HS3.out
      simp only [List.getElem?_toArray, List.getElem?_cons_zero] at y0
      have K4 := Lib.hid ((Kept.refl [sb] w3).setCell (p := ⟨sb, 0, none⟩) (.inl (by simp)) (.int .i64 V))
      have HS4 := Lib.hid (heap_setCell_same w3 sb 0 _ _ (.int .i64 V) HS3.out)
      have R4 := Lib.hid (R3.out.kept K4.out (by simp; omega))
      clear r3 k3 c0
      go_wp2_with fail
      generalize w3.setCell ⟨sb, 0, none⟩ (.int .i64 V) = w4 at K4 HS4 R4 ⊢
      refine (HN4.out w4 R4.out).mono ?_
      rintro e w5 ⟨rfl, r5, k5⟩
      have K5 := Lib.hid k5
      have R5 := Lib.hid r5
      have HS5 := Lib.hid (k5.at HS4.out (by simp; omega))
      have y1 := cell_at HS5.out 1
      have z1 := frozen_of_row _ _ 1 _ _ HS5.out
      simp only [Array.setIfInBounds, List.size_toArray, List.length_cons, List.length_nil, Nat.reduceAdd, Nat.reduceLT, ↓reduceDIte, List.getElem?_toArray, List.getElem?_cons_zero, List.getElem?_cons_succ, Array.set, List.set, Array.toList] at y1
      have K6 := Lib.hid ((Kept.refl [sb] w5).setCell (p := ⟨sb, 1, none⟩) (.inl (by simp)) (.int .i64 U))
      have HS6 : Hid ((w5.setCell ⟨sb, 1, none⟩ (.int .i64 U)).heap[sb]? = some (.cells #[.int .i64 V, .int .i64 U] 61 (0, 0))) := Lib.hid (heap_setCell_same w5 sb 1 _ _ (.int .i64 U) HS5.out)
      have x0 := cell_at HS6.out 0
      have x1 := cell_at HS6.out 1
      simp only [List.getElem?_toArray, List.getElem?_cons_zero, List.getElem?_cons_succ] at x0 x1
      have R6 := Lib.hid (R5.out.kept K6.out (by simp; omega))
      have KA : Hid (Kept [rb, sb] wr (w5.setCell ⟨sb, 1, none⟩ (.int .i64 U))) := Lib.hid (((((Kept.of_below HB2.out (L := [rb, sb])).trans K3.out (by simp)).trans K4.out (by simp)).trans K5.out (by simp)).trans K6.out (by simp))
      clear r5 k5 y0 z0
      generalize hw6 : w5.setCell ⟨sb, 1, none⟩ (.int .i64 U) = w6 at K6 HS6 R6 KA x0 x1
      have HW6 := Lib.hid hw6
      have Own7 : Hid ((w6.alloc (.cells #[.int .i64 V, .int .i64 U] 61)).ownsRow w.heap.size 61 2 (.slice ad done.length cap) done.length (Rw.flat ESt done)) := Lib.hid (own_kept HOw.out (KA.out.alloc _) (fun k hk => by
        have h2 := HSb.out
        simp only [List.mem_cons, List.not_mem_nil, or_false] at hk
        rcases hk with rfl | rfl
        · exact .inl hrl
        · right; omega))
      have Row7 : Hid (Rw.RowE ESt (w6.alloc (.cells #[.int .i64 V, .int .i64 U] 61)) (some ⟨w6.heap.size, 0, none⟩) [⟨V, U⟩]) := Lib.hid (.inr ⟨_, 0, rfl, fun i hi => by
        have h0 : i = 0 := by simp at hi; omega
        subst h0
        intro r v hv
        have hh := heap_alloc_new w6 (.cells #[.int .i64 V, .int .i64 U] 61)
        rw [cell_at hh]
        simp only [ESt, List.getElem_cons_zero] at hv
        simp only [Nat.zero_mul, Nat.zero_add, List.getElem?_toArray]
        exact hv⟩)
      have HB7 : Hid (w.heap.size ≤ (w6.alloc (.cells #[.int .i64 V, .int .i64 U] 61)).heap.size) := Lib.hid (by
        have h1 := HK.out.size; have h2 := (KA.out.alloc (.cells #[.int .i64 V, .int .i64 U] 61)).size; omega)
      have hdl : done.length + 1 ≤ 200000000 := by omega
      go_wp2_with (first
        | (rw [HW6.out])
        | (at_builtin; refine Rw.list_append_rows ESt Tryd.underlying22 HI.out.1 HI.out.2.1 HI.out.2.2.1 HI.out.2.2.2 rfl rfl (.tmp 27) (.tmp 29) rfl w.heap.size _ done.length done rfl rfl Own7.out _ 1 [⟨V, U⟩] 1 rfl rfl (fun h => by cases h) Row7.out (by unfold maxLen; omega) (by omega) HB7.out ?_; intro ad' cap' w8 hown' hgr'))
      have K8 : Kept [rb] w w8 := ((HK.out.trans KA.out (fun k hk => by
        have h2 := HSb.out
        have h3 := HK.out.size
        simp only [List.mem_cons, List.not_mem_nil, or_false] at hk
        rcases hk with rfl | rfl
        · left; simp
        · right; omega)).alloc _).grown hgr'.out (fun k hk => .inr (own_ge Own7.out k hk))
      have R8 : Rd W rb (rest.drop 6) w8 := by
        obtain ⟨ad2, cap2, hh2, q1, q2, q3⟩ := R6.out.ex
        have hh3 := grown_at hgr'.out (alloc_at hh2 (p := .cells #[.int .i64 V, .int .i64 U] 61)) (fun hx => by have := own_ge Own7.out rb hx; omega)
        exact ⟨⟨ad2, cap2, hh3, q1, q2, q3⟩, Kept.below HW0.out K8 (by simp; exact hWlo) HW0.out.size, hWlo⟩
      have hdl1 : (done ++ [(⟨V, U⟩ : StM)]).length = done.length + 1 := by simp
      refine ⟨⟨done ++ [⟨V, U⟩], rest.drop 6, ad', cap', by rw [hdl1], by omega, Lib.hid ⟨by rw [hdl1]; exact HD.out, by rw [HR.out.2, HSt.out]; simp⟩, Lib.hid (by rw [hdl1]; exact hown'.out), Lib.hid R8, Lib.hid K8⟩, by simp only [lenV]; omega⟩
    · have hde : done.length = m := by omega
      have hr0 : rest = [] := List.eq_nil_of_length_eq_zero (by rw [HR.out.1]; omega)
      subst hr0
      subst hde
      have HTd : Hid (T = done) := Lib.hid (by rw [HR.out.2]; simp [setsF])
      obtain ⟨o1, o2, o3, o4⟩ := Rw.own_len HOw.out
      have HFr : Hid (FrOk { noFr with sets := done } ad cap wr) := Lib.hid ⟨Rw.RowE.of_own (E := ESt) HOw.out, o2, o3⟩
      have HBk := Lib.hid (Rw.own_blk HOw.out)
      clear HR hdm o1 o2 o3 o4
      go_wp2_with fail
      go_ret
      refine ⟨ad, cap, by rw [HTd.out]; rfl, by rw [HTd.out]; exact HFr.out, fun b o s e => (HBk.out b o s e).1, HRd.out, HK.out⟩
end Go.Proofs.YtdilgkkkhmmffaaDoor

namespace Go.Proofs.YtdilgkkkhmmffaaDoor
open Go.RowKit
namespace Laid

theorem tabIs_at {P : Program} {W : World} {name : String} {k : IntKind} {zs : List Int} {g : Nat} {t e : TypeId} {n : Nat}
    (hg : P.globalNamed name = some g) (hty : (P.globals[g]?).map (·.type) = some t) (ht : P.underlying t = some (.array n e)) (he : P.underlying e = some (.int k)) (hce : P.cellsOf e = 1) (hct : P.cellsOf t = n) :
    ∀ (laid : List (String × DataW Unit)) (ps : List MemPlace) (i : Nat), DataW.LaidVars P W laid ps → laid[i]? = some (name, Lib.tabData k zs) → Lib.TabIs P W name k zs
  | [], _, i, _, hi => by simp at hi
  | x :: rest, ps, 0, h, hi => by
    simp only [List.getElem?_cons_zero, Option.some.injEq] at hi
    subst hi
    obtain ⟨g', t', cs, fuel, p, q, hg', ht', hvar, hd, _, _⟩ := h
    obtain rfl := Option.some.inj (hg.symm.trans hg')
    obtain rfl := Option.some.inj (hty.symm.trans ht')
    unfold Lib.TabIs
    rw [hvar, ← Lib.cells_of_tab ht he hce hct hd]
  | x :: rest, ps, i + 1, h, hi => by
    obtain ⟨g', t', cs, fuel, p, q, hg', ht', hvar, hd, hr, _⟩ := h
    exact tabIs_at hg hty ht he hce hct rest q i hr (by simpa using hi)

theorem tabIs {P : Program} {W : World} {name : String} {k : IntKind} {zs : List Int} {g : Nat} {t e : TypeId} {n : Nat}
    (hg : P.globalNamed name = some g) (hty : (P.globals[g]?).map (·.type) = some t) (ht : P.underlying t = some (.array n e)) (he : P.underlying e = some (.int k)) (hce : P.cellsOf e = 1) (hct : P.cellsOf t = n)
    {laid : List (String × DataW Unit)} (h : laidMet P laid W) (i : Nat) (hi : laid[i]? = some (name, Lib.tabData k zs)) : Lib.TabIs P W name k zs := by
  obtain ⟨ps, hv, _⟩ := h
  exact tabIs_at hg hty ht he hce hct laid ps i hv hi

/-- What a literal reads from. -/
def litV : Lit → Value
  | .int k n => .int k n
  | .string l => .string ⟨l.toArray⟩
  | .bool b => .bool b
  | _ => undef

theorem litV_of {H : Type} {enc : TypeId × Value → H} {P : Program} {w : World} {base : Nat} {sp : Nat → Bool} {held : Bool} {fuel : Nat} {t : TypeId} {k : IntKind} {v : Value} {L : Lit} {p : List MemPlace}
    (ht : P.underlying t = some (.int k)) (h : DataW.trod enc P w base sp held fuel t [v] = some (.lit L, p)) : v = litV L := by
  obtain ⟨z, hz, hx, _⟩ := DataW.trod_int ht h
  simp only [Prod.mk.injEq, DataW.lit.injEq] at hx
  rw [hx.1]
  exact (List.cons.inj hz).1

/-- An array of structs of integers: cell by cell. -/
theorem rows_at {P : Program} {w : World} {base : Nat} {sp : Nat → Bool} {held : Bool} {fuel : Nat} {t e : TypeId} {n m : Nat} {fs : Array Field} {cs : List Value} {rows : List (List Lit)} {p : List MemPlace} {H : Type} {enc : TypeId × Value → H}
    (ht : P.underlying t = some (.array n e)) (he : P.underlying e = some (.struct fs)) (hm : P.cellsOf e = m) (hone : ∀ (i : Nat) (f : Field), fs[i]? = some f → f.offset = i ∧ P.cellsOf f.type = 1 ∧ ∃ k, P.underlying f.type = some (.int k)) (hfs : fs.size = m)
    (h : DataW.trod enc P w base sp held fuel t cs = some (.agg (rows.map fun r => .agg (r.map .lit)), p)) :
    ∀ (i f : Nat) (r : List Lit) (L : Lit), rows[i]? = some r → r[f]? = some L → cs[i * m + f]? = some (litV L) := by
  intro i f r L hr hL
  obtain ⟨xs, g, _, hx, hcl, hxl, hel⟩ := DataW.trod_array ht h
  simp only [Prod.mk.injEq, DataW.agg.injEq] at hx
  have h1 : (xs.map (·.1))[i]? = some (.agg (r.map .lit)) := by rw [← hx.1, List.getElem?_map, hr]; rfl
  rw [List.getElem?_map] at h1
  cases hxi : xs[i]? with
  | none => rw [hxi] at h1; cases h1
  | some x =>
    rw [hxi] at h1
    simp only [Option.map_some, Option.some.injEq] at h1
    have hi : i < n := by rw [← hxl]; exact (List.getElem?_eq_some_iff.1 hxi).1
    have h2 := hel i hi
    rw [hxi, hm] at h2
    obtain ⟨ys, q, _, hy, hpl, hyl, hf⟩ := DataW.trod_struct he h2
    rw [hy] at h1
    simp only [DataW.agg.injEq] at h1
    have h3 : (ys.map (·.1))[f]? = some (.lit L) := by rw [h1, List.getElem?_map, hL]; rfl
    rw [List.getElem?_map] at h3
    cases hyf : ys[f]? with
    | none => rw [hyf] at h3; cases h3
    | some y =>
      rw [hyf] at h3
      simp only [Option.map_some, Option.some.injEq] at h3
      have hlt : f < fs.size := by rw [← hyl]; exact (List.getElem?_eq_some_iff.1 hyf).1
      have hfld : fs[f]? = some fs[f] := Array.getElem?_eq_getElem hlt
      obtain ⟨o1, o2, k, o3⟩ := hone f _ hfld
      have h4 := hf f _ hfld
      rw [o1, o2, hyf] at h4
      rw [hm, List.length_take, List.length_drop] at hpl
      have hlen : i * m + f < cs.length := by omega
      have h5 : (((cs.drop (i * m)).take m).drop f).take 1 = [cs[i * m + f]] := by
        rw [List.drop_take, List.drop_drop, List.take_take, List.drop_eq_getElem_cons (by omega)]
        rw [show min 1 (m - f) = 1 from by omega]; rfl
      rw [h5] at h4
      obtain ⟨y1, y2⟩ := y
      simp only at h3
      subst h3
      rw [List.getElem?_eq_getElem hlen, litV_of o3 h4]

/-- A laid array of structs of integers: its block's cells. -/
theorem rowsIs_at {P : Program} {W : World} {name : String} {rows : List (List Lit)} {g : Nat} {t e : TypeId} {n m : Nat} {fs : Array Field}
    (hg : P.globalNamed name = some g) (hty : (P.globals[g]?).map (·.type) = some t) (ht : P.underlying t = some (.array n e)) (he : P.underlying e = some (.struct fs)) (hm : P.cellsOf e = m)
    (hone : ∀ (i : Nat) (f : Field), fs[i]? = some f → f.offset = i ∧ P.cellsOf f.type = 1 ∧ ∃ k, P.underlying f.type = some (.int k)) (hfs : fs.size = m) :
    ∀ (laid : List (String × DataW Unit)) (ps : List MemPlace) (i : Nat), DataW.LaidVars P W laid ps → laid[i]? = some (name, .agg (rows.map fun r => .agg (r.map .lit))) →
      ∀ (i f : Nat) (r : List Lit) (L : Lit), rows[i]? = some r → r[f]? = some L → W.cell? ⟨g, i * m + f, none⟩ = some (litV L)
  | [], _, i, _, hi => by simp at hi
  | x :: rest, ps, 0, h, hi => by
    simp only [List.getElem?_cons_zero, Option.some.injEq] at hi
    subst hi
    obtain ⟨g', t', cs, fuel, p, q, hg', ht', hvar, hd, _, _⟩ := h
    obtain rfl := Option.some.inj (hg.symm.trans hg')
    obtain rfl := Option.some.inj (hty.symm.trans ht')
    intro i f r L h1 h2
    rw [World.var?_cell hg hvar]
    have := rows_at ht he hm hone hfs hd i f r L h1 h2
    simpa using this
  | x :: rest, ps, i + 1, h, hi => by
    obtain ⟨g', t', cs, fuel, p, q, hg', ht', hvar, hd, hr, _⟩ := h
    exact rowsIs_at hg hty ht he hm hone hfs rest q i hr (by simpa using hi)

/-- A table stays as it was where blocks below stay. -/
theorem tab_below {P : Program} {w w' : World} {name : String} {k : IntKind} {zs : List Int} {g : Nat} (hg : P.globalNamed name = some g) (h : Lib.TabIs P w name k zs) (hb : Below w.heap.size w w') (hlt : g < w.heap.size) : Lib.TabIs P w' name k zs := by
  unfold Lib.TabIs at h ⊢
  exact var?_below hb hg hlt h
end Laid
end Go.Proofs.YtdilgkkkhmmffaaDoor

namespace Go.Proofs.YtdilgkkkhmmffaaDoor
open Go.RowKit
open Fra Oct Arg Mem Gen Go.Proofs.YtdilgkkkhmmffaaDoor.Obj
set_option linter.unusedVariables false
set_option linter.unusedSimpArgs false

def spanT : List (Int × Int × Int) := [(0, 16777215, 1), (0, 16777215, 1), (5, 5, 1), (4, 4, 1), (0, 16777215, 6), (0, 16777215, 1), (8, 8, 1), (8, 16777215, 1), (4, 4, 1), (0, 16777215, 1)]
def spRows : List (List Lit) := spanT.map fun r => [.int .i64 r.1, .int .i64 r.2.1, .int .i64 r.2.2]
theorem sp_laid : (Rows.laid_drawbridge_frame_spans : DataW Unit) = .agg (spRows.map fun r => .agg (r.map .lit)) := by kernel_rfl
/-- The table of lengths stands. -/
def SpIs (w : World) : Prop := ∀ k lo mx st, spanT[k]? = some (lo, mx, st) → w.cell? ⟨0, k * 3, none⟩ = some (.int .i64 lo) ∧ w.cell? ⟨0, k * 3 + 1, none⟩ = some (.int .i64 mx) ∧ w.cell? ⟨0, k * 3 + 2, none⟩ = some (.int .i64 st)
theorem SpIs.below {w w' : World} (h : SpIs w) (hb : Below w.heap.size w w') : SpIs w' := fun k lo mx st hk => ⟨below_cell hb (h k lo mx st hk).1, below_cell hb (h k lo mx st hk).2.1, below_cell hb (h k lo mx st hk).2.2⟩
theorem spIs_of {W : World} {laid : List (String × DataW Unit)} (h : laidMet Tryd.prog laid W) (i : Nat) (hi : laid[i]? = some ("drawbridge/frame.spans", Rows.laid_drawbridge_frame_spans)) : SpIs W := by
  rw [sp_laid] at hi
  obtain ⟨ps, hv, _⟩ := h
  have H := Laid.rowsIs_at (P := Tryd.prog) (g := 0) (t := 85) (e := 84) (n := 10) (m := 3) (by kernel_rfl) (by kernel_rfl) Tryd.underlying85 Tryd.underlying84 (by kernel_rfl)
    (by
      intro i f hf
      have : i = 0 ∨ i = 1 ∨ i = 2 ∨ 3 ≤ i := by omega
      rcases this with rfl | rfl | rfl | h
      · simp at hf; subst hf; exact ⟨rfl, by kernel_rfl, _, Tryd.underlying3⟩
      · simp at hf; subst hf; exact ⟨rfl, by kernel_rfl, _, Tryd.underlying3⟩
      · simp at hf; subst hf; exact ⟨rfl, by kernel_rfl, _, Tryd.underlying3⟩
      · rw [Array.getElem?_eq_none (by simpa using h)] at hf; cases hf)
    rfl laid ps i hv hi
  intro k lo mx st hk
  have hr : spRows[k]? = some [.int .i64 lo, .int .i64 mx, .int .i64 st] := by rw [spRows, List.getElem?_map, hk]; rfl
  exact ⟨H k 0 _ _ hr rfl, H k 1 _ _ hr rfl, H k 2 _ _ hr rfl⟩

theorem bel_al (w : World) (o : Obj) : Below w.heap.size w (w.alloc o) := (Below.refl _ _).alloc (Nat.le_refl _) o
theorem pfault_any (c s : Int) (w : World) : Calls Tryd.prog 26 #[.int .i64 c, .int .i64 s] w fun e w' => e = .returned (faV ⟨true, c, s⟩) ∧ Below w.heap.size w w' := by
  go_enter Tryd.func26, Tryd.ntmps26
  go_wp2_with fail
  refine bodyPost_ret (v := faV ⟨true, c, s⟩) ?_ rfl ?_
  · simp [results, Tryd.results26, go_sem, faV]
  · exact ⟨rfl, (Below.refl _ _).alloc (Nat.le_refl _) _⟩

def placeOk (k st : Int) : Bool :=
  if k = 0 ∨ k = 1 ∨ k = 2 ∨ k = 3 ∨ k = 9 then decide (st ≠ 0) else if k = 4 ∨ k = 6 ∨ k = 7 then decide (st = 0) else if k = 5 then false else true
set_option maxRecDepth 100000 in
set_option maxHeartbeats 2000000 in
theorem pplaced_any (k st : Int) (w : World) : Calls Tryd.prog 45 #[.int .i64 k, .int .i64 st] w fun e w' => e = .returned (.bool (placeOk k st)) ∧ w = w' := by
  by_cases h : k = 0 ∨ k = 1 ∨ k = 2 ∨ k = 3 ∨ k = 9 ∨ k = 4 ∨ k = 6 ∨ k = 7 ∨ k = 5
  · rcases h with rfl | rfl | rfl | rfl | rfl | rfl | rfl | rfl | rfl
    all_goals
      go_enter Tryd.func45, Tryd.ntmps45
      go_wp2_with fail
      go_ret
      exact ⟨by simp [placeOk] <;> rfl, rfl⟩
  · have h2 : ¬ k = 0 ∧ ¬ k = 1 ∧ ¬ k = 2 ∧ ¬ k = 3 ∧ ¬ k = 9 ∧ ¬ k = 4 ∧ ¬ k = 6 ∧ ¬ k = 7 ∧ ¬ k = 5 := by omega
    obtain ⟨a0, a1, a2, a3, a9, a4, a6, a7, a5⟩ := h2
    have hp : placeOk k st = true := by simp [placeOk, a0, a1, a2, a3, a9, a4, a6, a7, a5]
    rw [hp]
    clear hp h
    go_enter Tryd.func45, Tryd.ntmps45
    go_wp2_with fail
    go_ret
    exact ⟨rfl, rfl⟩

set_option maxRecDepth 100000 in
set_option maxHeartbeats 2000000 in
theorem pwrongset_any (s : StM) (w : World) : Calls Tryd.prog 55 #[.agg #[.int .i64 s.id, .int .i64 s.val]] w fun e w' => e = .returned (.int .i64 (setFault s)) ∧ Below w.heap.size w w' := by
  obtain ⟨id, val⟩ := s
  simp only
  obtain ⟨R, hR⟩ : ∃ x, x = setFault ⟨id, val⟩ := ⟨_, rfl⟩
  rw [← hR]
  have HR := Lib.hid hR
  clear hR
  by_cases h2 : id = 2
  · subst h2
    by_cases hv : 1 < val
    all_goals
      go_enter Tryd.func55, Tryd.ntmps55
      go_wp2_with fail
      go_ret
      exact ⟨by rw [HR.out]; simp [setFault, hv], (Below.refl _ _).alloc (Nat.le_refl _) _⟩
  by_cases h4 : id = 4
  · subst h4
    by_cases hv : 2147483647 < val
    all_goals
      go_enter Tryd.func55, Tryd.ntmps55
      go_wp2_with fail
      go_ret
      exact ⟨by rw [HR.out]; simp [setFault, hv], (Below.refl _ _).alloc (Nat.le_refl _) _⟩
  by_cases h5 : id = 5
  · subst h5
    by_cases hv : val < 16384
    · go_enter Tryd.func55, Tryd.ntmps55
      go_wp2_with fail
      go_ret
      exact ⟨by rw [HR.out]; simp [setFault, hv], (Below.refl _ _).alloc (Nat.le_refl _) _⟩
    · by_cases hv2 : 16777215 < val
      all_goals
        go_enter Tryd.func55, Tryd.ntmps55
        go_wp2_with fail
        go_ret
        exact ⟨by rw [HR.out]; simp [setFault, hv, hv2], (Below.refl _ _).alloc (Nat.le_refl _) _⟩
  · go_enter Tryd.func55, Tryd.ntmps55
    go_wp2_with fail
    go_ret
    exact ⟨by rw [HR.out]; simp [setFault, h2, h4, h5], (Below.refl _ _).alloc (Nat.le_refl _) _⟩

theorem fa_ret {B : Nat} {w w2 : World} {rv : Nat} {u0 u1 u2 : Value} (hB : Below B w w2) (hle : B ≤ rv) (h : w2.heap[rv]? = some (.cells #[u0, u1, u2] 33 (0, 0))) (a b c : Value) :
    ∃ w3, ((w2.setCell ⟨rv, 0, none⟩ a).setCell ⟨rv, 1, none⟩ b).setCell ⟨rv, 2, none⟩ c = w3 ∧ w3.heap[rv]? = some (.cells #[a, b, c] 33 (0, 0)) ∧ Below B w w3 := by
  have h1 := heap_setCell_same w2 rv 0 _ _ a h
  have h2 := heap_setCell_same _ rv 1 _ _ b h1
  have h3 := heap_setCell_same _ rv 2 _ _ c h2
  exact ⟨_, rfl, h3, ((hB.setCell (p := ⟨rv, 0, none⟩) hle a).setCell (p := ⟨rv, 1, none⟩) hle b).setCell (p := ⟨rv, 2, none⟩) hle c⟩

set_option maxRecDepth 100000 in
set_option maxHeartbeats 2000000 in
theorem pwrongsize_any (fb : Nat) (f : FrM) (sa : Option Addr) (sc : Nat) (w : World) (h : Fb fb f sa sc w) :
    Calls Tryd.prog 47 #[.pointer (some ⟨fb, 0, none⟩)] w fun e w' => e = .returned (faV (if f.type = 2 then ⟨true, 6, f.stream⟩ else ofC 6)) ∧ Below w.heap.size w w' := by
  have hb := bel_al w (.cells #[.bool false, .int .i64 0, .int .i64 0] 33)
  have c0 : (w.alloc (.cells #[.bool false, .int .i64 0, .int .i64 0] 33)).cell? ⟨fb, 0, none⟩ = some (.int .i64 f.type) := below_cell hb (h.cellz 0)
  have c2 : (w.alloc (.cells #[.bool false, .int .i64 0, .int .i64 0] 33)).cell? ⟨fb, 2, none⟩ = some (.int .i64 f.stream) := below_cell hb (h.cellz 2)
  have HX := Lib.hid (heap_alloc_new w (.cells #[.bool false, .int .i64 0, .int .i64 0] 33))
  have HB := Lib.hid hb
  have HF := Lib.hid (fun v c s => pfault_any c s v)
  clear hb h
  by_cases ht : f.type = 2
  · rw [if_pos ht]
    go_enter Tryd.func47, Tryd.ntmps47
    go_wp2_with fail
    refine (HF.out _ 6 f.stream).mono ?_
    rintro e w2 ⟨rfl, b2⟩
    have HX2 := Lib.hid (block_below b2 HX.out)
    have HB2 := Lib.hid (below_step HB.out b2)
    have y0 := cell_at HX2.out 0
    have y1 := cell_at HX2.out 1
    have y2 := cell_at HX2.out 2
    have z0 := frozen_of_row _ _ 0 _ _ HX2.out
    have z1 := frozen_of_row _ _ 1 _ _ HX2.out
    have z2 := frozen_of_row _ _ 2 _ _ HX2.out
    simp only [List.getElem?_toArray, List.getElem?_cons_zero, List.getElem?_cons_succ] at y0 y1 y2
    unfold faV
    obtain ⟨w3, hw3, hh3, hb3⟩ := fa_ret HB2.out (Nat.le_refl _) HX2.out (.bool true) (.int .i64 6) (.int .i64 f.stream)
    have HW3 := Lib.hid hw3
    have HH3 := Lib.hid hh3
    have HB3 := Lib.hid hb3
    clear b2 c0 c2 hw3 hh3 hb3
    go_wp2_with fail
    rw [HW3.out]
    have x0 := cell_at HH3.out 0
    have x1 := cell_at HH3.out 1
    have x2 := cell_at HH3.out 2
    simp only [List.getElem?_toArray, List.getElem?_cons_zero, List.getElem?_cons_succ] at x0 x1 x2
    refine bodyPost_ret (v := faV ⟨true, 6, f.stream⟩) ?_ rfl ?_
    · simp [results, Tryd.results47, go_sem, faV, x0, x1, x2]
    · exact ⟨rfl, HB3.out⟩
  · rw [if_neg ht]
    go_enter Tryd.func47, Tryd.ntmps47
    go_wp2_with fail
    refine (HF.out _ 6 0).mono ?_
    rintro e w2 ⟨rfl, b2⟩
    have HX2 := Lib.hid (block_below b2 HX.out)
    have HB2 := Lib.hid (below_step HB.out b2)
    have y0 := cell_at HX2.out 0
    have y1 := cell_at HX2.out 1
    have y2 := cell_at HX2.out 2
    have z0 := frozen_of_row _ _ 0 _ _ HX2.out
    have z1 := frozen_of_row _ _ 1 _ _ HX2.out
    have z2 := frozen_of_row _ _ 2 _ _ HX2.out
    simp only [List.getElem?_toArray, List.getElem?_cons_zero, List.getElem?_cons_succ] at y0 y1 y2
    unfold faV
    obtain ⟨w3, hw3, hh3, hb3⟩ := fa_ret HB2.out (Nat.le_refl _) HX2.out (.bool true) (.int .i64 6) (.int .i64 0)
    have HW3 := Lib.hid hw3
    have HH3 := Lib.hid hh3
    have HB3 := Lib.hid hb3
    clear b2 c0 c2 hw3 hh3 hb3
    go_wp2_with fail
    rw [HW3.out]
    have x0 := cell_at HH3.out 0
    have x1 := cell_at HH3.out 1
    have x2 := cell_at HH3.out 2
    simp only [List.getElem?_toArray, List.getElem?_cons_zero, List.getElem?_cons_succ] at x0 x1 x2
    refine bodyPost_ret (v := faV (ofC 6)) ?_ rfl ?_
    · simp [results, Tryd.results47, go_sem, faV, ofC, x0, x1, x2]
    · exact ⟨rfl, HB3.out⟩

def fitsB (k fl n : Int) : Bool :=
  if 10 ≤ k then true else if k = 4 ∧ hasF fl 1 = true then decide (n = 0)
  else match spanT[k.toNat]? with
    | some (lo, mx, st) => decide (lo ≤ n) && (decide (n ≤ mx) && (decide (n % st = 0) && decide ((aheadN (partsM k fl) : Int) ≤ n)))
    | none => false
theorem span_bd (k : Nat) (lo mx st : Int) (h : spanT[k]? = some (lo, mx, st)) : 0 ≤ lo ∧ lo ≤ 8 ∧ 0 ≤ mx ∧ mx ≤ 16777215 ∧ 1 ≤ st ∧ st ≤ 6 := by
  have : ∀ k : Fin 10, (0 ≤ (spanT.getD k.val (0,0,1)).1 ∧ (spanT.getD k.val (0,0,1)).1 ≤ 8 ∧ 0 ≤ (spanT.getD k.val (0,0,1)).2.1 ∧ (spanT.getD k.val (0,0,1)).2.1 ≤ 16777215 ∧ 1 ≤ (spanT.getD k.val (0,0,1)).2.2 ∧ (spanT.getD k.val (0,0,1)).2.2 ≤ 6) := by decide
  have hk : k < 10 := (List.getElem?_eq_some_iff.1 h).1
  have := this ⟨k, hk⟩
  rw [List.getD_eq_getElem?_getD, h] at this
  exact this

set_option maxRecDepth 100000 in
set_option maxHeartbeats 2000000 in
theorem pfits_any (k fl n : Int) (w : World) (hs : SpIs w) (hk0 : 0 ≤ k) (h0 : 0 ≤ fl) (h1 : fl ≤ 255) (hn0 : 0 ≤ n) (hn1 : n ≤ 1000000000) :
    Calls Tryd.prog 46 #[.int .i64 k, .int .i64 fl, .int .i64 n] w fun e w' => e = .returned (.bool (fitsB k fl n)) ∧ Below w.heap.size w w' := by
  obtain ⟨R, hR⟩ : ∃ x, x = fitsB k fl n := ⟨_, rfl⟩
  rw [← hR]
  have HP := Lib.hid (fun v => pparts_any k fl v h0 h1)
  have HA := Lib.hid (fun v => pahead_any (partsM k fl) v)
  have hal : aheadN (partsM k fl) ≤ 18 := by
    unfold aheadN; repeat' split
    all_goals omega
  unfold fitsB at hR
  generalize partsM k fl = p at HP HA hal hR
  generalize aheadN p = N at HA hal hR
  have e1 := and_flag1 fl h0 h1
  by_cases h10 : 10 ≤ k
  · rw [if_pos h10] at hR
    have HR := Lib.hid hR
    clear hR e1
    go_enter Tryd.func46, Tryd.ntmps46
    go_wp2_with fail
    go_ret
    exact ⟨by rw [HR.out]; rfl, Below.refl _ _⟩
  rw [if_neg h10] at hR
  by_cases hk4 : k = 4 ∧ hasF fl 1 = true
  · rw [if_pos hk4] at hR
    obtain ⟨rfl, hf⟩ := hk4
    rw [hf, if_pos rfl] at e1
    have HR := Lib.hid hR
    clear hR
    go_enter Tryd.func46, Tryd.ntmps46
    go_wp2_with fail
    go_ret
    exact ⟨by rw [HR.out]; rfl, Below.refl _ _⟩
  rw [if_neg hk4] at hR
  obtain ⟨j, rfl⟩ := Int.eq_ofNat_of_zero_le hk0
  obtain ⟨⟨lo, mx, st⟩, hsp⟩ : ∃ x, spanT[j]? = some x := by
    have hj : j < spanT.length := by simp [spanT]; omega
    exact ⟨_, List.getElem?_eq_getElem hj⟩
  have hbd := span_bd j lo mx st hsp
  rw [Int.toNat_natCast, hsp] at hR
  simp only at hR
  obtain ⟨c0, c1, c2⟩ := hs j lo mx st hsp
  have hb1 := bel_al w (.cells #[.int .i64 lo, .int .i64 mx, .int .i64 st] 84)
  have hm := Int.tmod_eq_emod_of_nonneg (b := st) hn0
  obtain ⟨bd0, bd1, bd2, bd3, bd4, bd5⟩ := hbd
  have hst0 : ¬ st = 0 := by omega
  have hj10 : j < 10 := by omega
  have hx0 := heap_alloc_new w (.cells #[.int .i64 lo, .int .i64 mx, .int .i64 st] 84)
  have q0 := cell_at hx0 0
  have q1 := cell_at hx0 1
  have q2 := cell_at hx0 2
  simp only [List.getElem?_toArray, List.getElem?_cons_zero, List.getElem?_cons_succ] at q0 q1 q2
  have e1' : j = 4 → bits .and .i64 fl 1 = 0 := fun h => by
    have hne : hasF fl 1 = false := by
      cases hh : hasF fl 1 with
      | false => rfl
      | true => exact absurd ⟨by omega, hh⟩ hk4
    rw [e1, hne]; rfl
  have HB1 := Lib.hid hb1
  clear hs hk0 hk4 h10 e1 hsp hx0 hb1
  by_cases g0 : lo ≤ n
  · by_cases g1 : n ≤ mx
    · by_cases g2 : n % st = 0
      · skip
        by_cases hj4 : j = 4
        all_goals
          first | (have e2 := e1' hj4; subst hj4) | (have e2 : ¬ (j : Int) = 4 := by omega)
          have HR : Hid (R = decide ((N : Int) ≤ n)) := Lib.hid (by rw [hR, decide_eq_true g0, decide_eq_true g1, decide_eq_true g2]; rfl)
          rw [g2] at hm
          clear hR e1'
          go_enter Tryd.func46, Tryd.ntmps46
          go_wp2_with (first | (go_at_call 34; refine (HP.out _).mono ?_; rintro e w2 ⟨rfl, b2⟩) | (go_at_call 37; refine (HA.out _).mono ?_; rintro e w3 ⟨rfl, b3⟩))
          go_ret
          exact ⟨by rw [HR.out]; rfl, below_step (below_step HB1.out b2) b3⟩
      · skip
        by_cases hj4 : j = 4
        all_goals
          first | (have e2 := e1' hj4; subst hj4) | (have e2 : ¬ (j : Int) = 4 := by omega)
          have HR : Hid (R = false) := Lib.hid (by rw [hR, decide_eq_true g0, decide_eq_true g1, decide_eq_false g2]; simp)
          clear hR e1'
          go_enter Tryd.func46, Tryd.ntmps46
          go_wp2_with fail
          go_ret
          exact ⟨by rw [HR.out]; rfl, HB1.out⟩
    · skip
      by_cases hj4 : j = 4
      all_goals
        first | (have e2 := e1' hj4; subst hj4) | (have e2 : ¬ (j : Int) = 4 := by omega)
        have HR : Hid (R = false) := Lib.hid (by rw [hR, decide_eq_true g0, decide_eq_false g1]; simp)
        clear hR e1'
        go_enter Tryd.func46, Tryd.ntmps46
        go_wp2_with fail
        go_ret
        exact ⟨by rw [HR.out]; rfl, HB1.out⟩
  · skip
    by_cases hj4 : j = 4
    all_goals
      first | (have e2 := e1' hj4; subst hj4) | (have e2 : ¬ (j : Int) = 4 := by omega)
      have HR : Hid (R = false) := Lib.hid (by rw [hR, decide_eq_false g0]; simp)
      clear hR e1'
      go_enter Tryd.func46, Tryd.ntmps46
      go_wp2_with fail
      go_ret
      exact ⟨by rw [HR.out]; rfl, HB1.out⟩

/-- What of a frame's values is told. -/
def valF (f : FrM) : FaM := if f.type = 8 ∧ f.inc = 0 then ⟨true, 1, f.stream⟩ else if setsFault f.sets ≠ 0 then ofC (setsFault f.sets) else noFa
end Go.Proofs.YtdilgkkkhmmffaaDoor

namespace Go.Proofs.YtdilgkkkhmmffaaDoor
open Go.RowKit
open Fra Oct Arg Mem Gen Go.Proofs.YtdilgkkkhmmffaaDoor.Obj
set_option linter.unusedVariables false
set_option linter.unusedSimpArgs false

/-- The end of a call that answers a fault: its cell is read. -/
theorem fa_cells {w : World} {rv : Nat} {a b c : Value} (h : w.heap[rv]? = some (.cells #[a, b, c] 33 (0, 0))) : w.cell? ⟨rv, 0, none⟩ = some a ∧ w.cell? ⟨rv, 1, none⟩ = some b ∧ w.cell? ⟨rv, 2, none⟩ = some c := ⟨cell_at h 0, cell_at h 1, cell_at h 2⟩

theorem setFault_bd (s : StM) : 0 ≤ setFault s ∧ setFault s ≤ 3 := by
  unfold setFault
  repeat' split
  all_goals omega

set_option maxRecDepth 100000 in
set_option maxHeartbeats 4000000 in
theorem pwrongval_any (fb : Nat) (f : FrM) (sa : Option Addr) (sc : Nat) (w : World) (h : Fb fb f sa sc w) (hok : FrOk f sa sc w) :
    Calls Tryd.prog 50 #[.pointer (some ⟨fb, 0, none⟩)] w fun e w' => e = .returned (faV (valF f)) ∧ Below w.heap.size w w' := by
  have hb := bel_al w (.cells #[.bool false, .int .i64 0, .int .i64 0] 33)
  have c0 : (w.alloc (.cells #[.bool false, .int .i64 0, .int .i64 0] 33)).cell? ⟨fb, 0, none⟩ = some (.int .i64 f.type) := below_cell hb (h.cellz 0)
  have c2 : (w.alloc (.cells #[.bool false, .int .i64 0, .int .i64 0] 33)).cell? ⟨fb, 2, none⟩ = some (.int .i64 f.stream) := below_cell hb (h.cellz 2)
  have c5 : (w.alloc (.cells #[.bool false, .int .i64 0, .int .i64 0] 33)).cell? ⟨fb, 5, none⟩ = some (.slice sa f.sets.length sc) := below_cell hb (h.cellz 5)
  have c8 : (w.alloc (.cells #[.bool false, .int .i64 0, .int .i64 0] 33)).cell? ⟨fb, 8, none⟩ = some (.int .i64 f.inc) := below_cell hb (h.cellz 8)
  have HX := Lib.hid (heap_alloc_new w (.cells #[.bool false, .int .i64 0, .int .i64 0] 33))
  have HB := Lib.hid (fun (v : World) (hv : Below (w.alloc (.cells #[.bool false, .int .i64 0, .int .i64 0] 33)).heap.size (w.alloc (.cells #[.bool false, .int .i64 0, .int .i64 0] 33)) v) => below_step hb hv)
  have HF := Lib.hid (fun v c s => pfault_any c s v)
  obtain ⟨hrow, hlen, hcap⟩ := hok
  have HRow := Lib.hid (hrow.below hb)
  have hv : valF f = if f.type = 8 ∧ f.inc = 0 then ⟨true, 1, f.stream⟩ else if setsFault f.sets ≠ 0 then ofC (setsFault f.sets) else noFa := rfl
  generalize valF f = R at hv ⊢
  obtain ⟨t, fl, st, data, pad, sets, code, last, inc, dep, weight, sole⟩ := f
  simp only at *
  unfold maxLen at hcap
  obtain ⟨n, hn⟩ : ∃ n, n = sets.length := ⟨_, rfl⟩
  rw [← hn] at hlen c5
  have HN := Lib.hid hn
  obtain ⟨rv, hrv⟩ : ∃ rv, rv = w.heap.size := ⟨_, rfl⟩
  have HRv := Lib.hid hrv
  obtain ⟨E, hE⟩ : ∃ E, E = setsFault sets := ⟨_, rfl⟩
  rw [← hE] at hv
  have HE := Lib.hid hE
  rw [← hrv] at HX
  clear hn hrv hE hrow hb h
  by_cases hA : t = 8 ∧ inc = 0
  · rw [if_pos hA] at hv
    obtain ⟨rfl, rfl⟩ := hA
    have HR := Lib.hid hv
    have HXr := HX
    clear hv
    go_enter Tryd.func50, Tryd.ntmps50
    go_wp2_with fail
    generalize w.alloc (.cells #[.bool false, .int .i64 0, .int .i64 0] 33) = w1 at *
    rw [← HRv.out]
    refine (HF.out _ 1 st).mono ?_
    rintro e w2 ⟨rfl, hb5⟩
    clear c0 c2 c5 c8
    unfold faV
    have HX2 := Lib.hid (block_below hb5 HXr.out)
    have HB2 := Lib.hid (HB.out _ hb5)
    obtain ⟨y0, y1, y2⟩ := fa_cells HX2.out
    have z0 := frozen_of_row _ _ 0 _ _ HX2.out
    have z1 := frozen_of_row _ _ 1 _ _ HX2.out
    have z2 := frozen_of_row _ _ 2 _ _ HX2.out
    obtain ⟨w3, hw3, hh3, hb3⟩ := fa_ret HB2.out (by rw [HRv.out]; exact Nat.le_refl _) HX2.out (.bool true) (.int .i64 1) (.int .i64 st)
    have HW3 := Lib.hid hw3
    have HH3 := Lib.hid hh3
    have HB3 := Lib.hid hb3
    clear hw3 hh3 hb3
    go_wp2_with fail
    rw [HW3.out]
    obtain ⟨x0, x1, x2⟩ := fa_cells HH3.out
    refine bodyPost_ret (v := faV (⟨true, 1, st⟩)) ?_ rfl ?_
    · simp [results, Tryd.results50, go_sem, faV, ofC, noFa, x0, x1, x2]
    · exact ⟨by rw [HR.out], HB3.out⟩
  rw [if_neg hA] at hv
  have HRv2 := Lib.hid hv
  clear hv
  by_cases ht : t = 8
  · subst ht
    have hinc : ¬ inc = 0 := fun h => hA ⟨rfl, h⟩
    have hib : (inc == 0) = false := by simp [hinc]
    clear hA
    go_enter Tryd.func50, Tryd.ntmps50
    go_wp2_with fail
    generalize w.alloc (.cells #[.bool false, .int .i64 0, .int .i64 0] 33) = w1 at *
    rw [← HRv.out]
    clear hinc
    go_loopw [28] (fun i wr => ∃ k : Nat, i = .int .i64 k ∧ k ≤ n ∧ Hid (Below w1.heap.size w1 wr) ∧ Hid (setsFault (sets.drop k) = E)) (fun i _ => n - (intOf i).toNat)
    case atStart => exact ⟨0, by rfl, Nat.zero_le _, Lib.hid (Below.refl _ _), Lib.hid (by rw [HE.out]; simp)⟩
    case round =>
      obtain ⟨k, rfl, hk, HBl, HD⟩ := hrel
      have HXr := Lib.hid (block_below HBl.out HX.out)
      by_cases hlt : k < n
      · have hlt' : (k : Int) < n := by omega
        have hka : k < sets.length := by rw [← HN.out]; exact hlt
        obtain ⟨b1, o1, rfl, hc⟩ : ∃ b off, sa = some ⟨b, off, none⟩ ∧ ∀ i, (h : i < sets.length) → Rw.CE ESt w1 b (off + i * 2) sets[i] := by
          rcases HRow.out with h | h
          · rw [h] at hka; simp at hka
          · exact h
        obtain ⟨d0, d1⟩ := CE_st (hc k hka)
        have d0 := below_cell HBl.out d0
        have d1 := below_cell HBl.out d1
        have HS := Lib.hid (show setsFault (sets.drop k) = if setFault sets[k] ≠ 0 then setFault sets[k] else setsFault (sets.drop (k + 1)) by rw [List.drop_eq_getElem_cons hka, setsFault])
        have HW := Lib.hid (fun v => pwrongset_any sets[k] v)
        generalize sets[k] = s at d0 d1 HS HW
        have hbd := setFault_bd s
        generalize setFault s = G at HS HW hbd
        obtain ⟨id, val⟩ := s
        simp only at d0 d1 HW
        clear hc
        have hx0 := heap_alloc_new wr (.cells #[.int .i64 id, .int .i64 val] 61)
        have x0 := cell_at hx0 0
        have x1 := cell_at hx0 1
        have hba := bel_al wr (.cells #[.int .i64 id, .int .i64 val] 61)
        have HBa := Lib.hid hba
        simp only [List.getElem?_toArray, List.getElem?_cons_zero, List.getElem?_cons_succ] at x0 x1
        clear hx0 hba
        by_cases hG : G = 0
        · subst hG
          have HDk := Lib.hid (show setsFault (sets.drop (k + 1)) = E by rw [← HD.out, HS.out, if_neg (by simp)])
          clear HD HS
          go_wp2_with (refine (HW.out _).mono ?_; rintro e w4 ⟨rfl, b4⟩)
          go_roundw
          case rel => exact ⟨k + 1, by go_num, by omega, Lib.hid (below_step (below_step HBl.out HBa.out) b4), HDk⟩
          case measure => simp [intOf]; omega
        · have HEk := Lib.hid (show E = G by rw [← HD.out, HS.out, if_pos hG])
          have HR : Hid (R = ofC G) := Lib.hid (by rw [HRv2.out, HEk.out, if_pos hG])
          clear HD HS
          go_wp2_with (refine (HW.out _).mono ?_; rintro e w4 ⟨rfl, b4⟩)
          refine (HF.out _ G 0).mono ?_
          rintro e w5 ⟨rfl, b5⟩
          have hb5 := below_step (below_step HBa.out b4) b5
          clear x0 x1 d0 d1 b4 b5
          unfold faV
          have HX2 := Lib.hid (block_below hb5 HXr.out)
          have HB2 := Lib.hid (HB.out _ (below_step HBl.out hb5))
          obtain ⟨y0, y1, y2⟩ := fa_cells HX2.out
          have z0 := frozen_of_row _ _ 0 _ _ HX2.out
          have z1 := frozen_of_row _ _ 1 _ _ HX2.out
          have z2 := frozen_of_row _ _ 2 _ _ HX2.out
          obtain ⟨w3, hw3, hh3, hb3⟩ := fa_ret HB2.out (by rw [HRv.out]; exact Nat.le_refl _) HX2.out (.bool true) (.int .i64 G) (.int .i64 0)
          have HW3 := Lib.hid hw3
          have HH3 := Lib.hid hh3
          have HB3 := Lib.hid hb3
          clear hw3 hh3 hb3
          go_wp2_with fail
          rw [HW3.out]
          obtain ⟨x0, x1, x2⟩ := fa_cells HH3.out
          refine bodyPost_ret (v := faV (ofC G)) ?_ rfl ?_
          · simp [results, Tryd.results50, go_sem, faV, ofC, noFa, x0, x1, x2]
          · exact ⟨by rw [HR.out], HB3.out⟩
      · have hke : k = n := by omega
        have hlt' : ¬ (k : Int) < n := by omega
        have HE0 : Hid (E = 0) := Lib.hid (by rw [← HD.out, List.drop_eq_nil_of_le (by rw [← HN.out]; omega)]; rfl)
        have HR : Hid (R = noFa) := Lib.hid (by rw [HRv2.out, HE0.out, if_neg (by simp)])
        have hb5 := Below.refl wr.heap.size wr
        clear HD
        have HX2 := Lib.hid (block_below hb5 HXr.out)
        have HB2 := Lib.hid (HB.out _ (below_step HBl.out hb5))
        obtain ⟨y0, y1, y2⟩ := fa_cells HX2.out
        have z0 := frozen_of_row _ _ 0 _ _ HX2.out
        have z1 := frozen_of_row _ _ 1 _ _ HX2.out
        have z2 := frozen_of_row _ _ 2 _ _ HX2.out
        obtain ⟨w3, hw3, hh3, hb3⟩ := fa_ret HB2.out (by rw [HRv.out]; exact Nat.le_refl _) HX2.out (.bool false) (.int .i64 0) (.int .i64 0)
        have HW3 := Lib.hid hw3
        have HH3 := Lib.hid hh3
        have HB3 := Lib.hid hb3
        clear hw3 hh3 hb3
        go_wp2_with fail
        rw [HW3.out]
        obtain ⟨x0, x1, x2⟩ := fa_cells HH3.out
        refine bodyPost_ret (v := faV (noFa)) ?_ rfl ?_
        · simp [results, Tryd.results50, go_sem, faV, ofC, noFa, x0, x1, x2]
        · exact ⟨by rw [HR.out], HB3.out⟩
  · clear hA
    go_enter Tryd.func50, Tryd.ntmps50
    go_wp2_with fail
    generalize w.alloc (.cells #[.bool false, .int .i64 0, .int .i64 0] 33) = w1 at *
    rw [← HRv.out]
    go_loopw [28] (fun i wr => ∃ k : Nat, i = .int .i64 k ∧ k ≤ n ∧ Hid (Below w1.heap.size w1 wr) ∧ Hid (setsFault (sets.drop k) = E)) (fun i _ => n - (intOf i).toNat)
    case atStart => exact ⟨0, by rfl, Nat.zero_le _, Lib.hid (Below.refl _ _), Lib.hid (by rw [HE.out]; simp)⟩
    case round =>
      obtain ⟨k, rfl, hk, HBl, HD⟩ := hrel
      have HXr := Lib.hid (block_below HBl.out HX.out)
      by_cases hlt : k < n
      · have hlt' : (k : Int) < n := by omega
        have hka : k < sets.length := by rw [← HN.out]; exact hlt
        obtain ⟨b1, o1, rfl, hc⟩ : ∃ b off, sa = some ⟨b, off, none⟩ ∧ ∀ i, (h : i < sets.length) → Rw.CE ESt w1 b (off + i * 2) sets[i] := by
          rcases HRow.out with h | h
          · rw [h] at hka; simp at hka
          · exact h
        obtain ⟨d0, d1⟩ := CE_st (hc k hka)
        have d0 := below_cell HBl.out d0
        have d1 := below_cell HBl.out d1
        have HS := Lib.hid (show setsFault (sets.drop k) = if setFault sets[k] ≠ 0 then setFault sets[k] else setsFault (sets.drop (k + 1)) by rw [List.drop_eq_getElem_cons hka, setsFault])
        have HW := Lib.hid (fun v => pwrongset_any sets[k] v)
        generalize sets[k] = s at d0 d1 HS HW
        have hbd := setFault_bd s
        generalize setFault s = G at HS HW hbd
        obtain ⟨id, val⟩ := s
        simp only at d0 d1 HW
        clear hc
        have hx0 := heap_alloc_new wr (.cells #[.int .i64 id, .int .i64 val] 61)
        have x0 := cell_at hx0 0
        have x1 := cell_at hx0 1
        have hba := bel_al wr (.cells #[.int .i64 id, .int .i64 val] 61)
        have HBa := Lib.hid hba
        simp only [List.getElem?_toArray, List.getElem?_cons_zero, List.getElem?_cons_succ] at x0 x1
        clear hx0 hba
        by_cases hG : G = 0
        · subst hG
          have HDk := Lib.hid (show setsFault (sets.drop (k + 1)) = E by rw [← HD.out, HS.out, if_neg (by simp)])
          clear HD HS
          go_wp2_with (refine (HW.out _).mono ?_; rintro e w4 ⟨rfl, b4⟩)
          go_roundw
          case rel => exact ⟨k + 1, by go_num, by omega, Lib.hid (below_step (below_step HBl.out HBa.out) b4), HDk⟩
          case measure => simp [intOf]; omega
        · have HEk := Lib.hid (show E = G by rw [← HD.out, HS.out, if_pos hG])
          have HR : Hid (R = ofC G) := Lib.hid (by rw [HRv2.out, HEk.out, if_pos hG])
          clear HD HS
          go_wp2_with (refine (HW.out _).mono ?_; rintro e w4 ⟨rfl, b4⟩)
          refine (HF.out _ G 0).mono ?_
          rintro e w5 ⟨rfl, b5⟩
          have hb5 := below_step (below_step HBa.out b4) b5
          clear x0 x1 d0 d1 b4 b5
          unfold faV
          have HX2 := Lib.hid (block_below hb5 HXr.out)
          have HB2 := Lib.hid (HB.out _ (below_step HBl.out hb5))
          obtain ⟨y0, y1, y2⟩ := fa_cells HX2.out
          have z0 := frozen_of_row _ _ 0 _ _ HX2.out
          have z1 := frozen_of_row _ _ 1 _ _ HX2.out
          have z2 := frozen_of_row _ _ 2 _ _ HX2.out
          obtain ⟨w3, hw3, hh3, hb3⟩ := fa_ret HB2.out (by rw [HRv.out]; exact Nat.le_refl _) HX2.out (.bool true) (.int .i64 G) (.int .i64 0)
          have HW3 := Lib.hid hw3
          have HH3 := Lib.hid hh3
          have HB3 := Lib.hid hb3
          clear hw3 hh3 hb3
          go_wp2_with fail
          rw [HW3.out]
          obtain ⟨x0, x1, x2⟩ := fa_cells HH3.out
          refine bodyPost_ret (v := faV (ofC G)) ?_ rfl ?_
          · simp [results, Tryd.results50, go_sem, faV, ofC, noFa, x0, x1, x2]
          · exact ⟨by rw [HR.out], HB3.out⟩
      · have hke : k = n := by omega
        have hlt' : ¬ (k : Int) < n := by omega
        have HE0 : Hid (E = 0) := Lib.hid (by rw [← HD.out, List.drop_eq_nil_of_le (by rw [← HN.out]; omega)]; rfl)
        have HR : Hid (R = noFa) := Lib.hid (by rw [HRv2.out, HE0.out, if_neg (by simp)])
        have hb5 := Below.refl wr.heap.size wr
        clear HD
        have HX2 := Lib.hid (block_below hb5 HXr.out)
        have HB2 := Lib.hid (HB.out _ (below_step HBl.out hb5))
        obtain ⟨y0, y1, y2⟩ := fa_cells HX2.out
        have z0 := frozen_of_row _ _ 0 _ _ HX2.out
        have z1 := frozen_of_row _ _ 1 _ _ HX2.out
        have z2 := frozen_of_row _ _ 2 _ _ HX2.out
        obtain ⟨w3, hw3, hh3, hb3⟩ := fa_ret HB2.out (by rw [HRv.out]; exact Nat.le_refl _) HX2.out (.bool false) (.int .i64 0) (.int .i64 0)
        have HW3 := Lib.hid hw3
        have HH3 := Lib.hid hh3
        have HB3 := Lib.hid hb3
        clear hw3 hh3 hb3
        go_wp2_with fail
        rw [HW3.out]
        obtain ⟨x0, x1, x2⟩ := fa_cells HH3.out
        refine bodyPost_ret (v := faV (noFa)) ?_ rfl ?_
        · simp [results, Tryd.results50, go_sem, faV, ofC, noFa, x0, x1, x2]
        · exact ⟨by rw [HR.out], HB3.out⟩

end Go.Proofs.YtdilgkkkhmmffaaDoor

namespace Go.Proofs.YtdilgkkkhmmffaaDoor
open Go.RowKit
open Fra Oct Arg Mem Gen Qu Go.Proofs.YtdilgkkkhmmffaaDoor.Obj
set_option linter.unusedVariables false
set_option linter.unusedSimpArgs false
set_option maxHeartbeats 4000000

theorem alloc_two (w : World) (a b : Obj) : ((w.alloc a).alloc b).heap[w.heap.size + 1]? = some b := by
  have h := heap_alloc_new (w.alloc a) b
  rwa [show (w.alloc a).heap.size = w.heap.size + 1 by simp] at h
theorem fin5 {w v : World} {b1 b2 : Nat} {x u p0 p1 p2 p3 p4 p5 p6 q0 q1 q2 q3 q4 q5 q6 : Value} (hv : Below w.heap.size w v) (h1 : v.heap[b1]? = some (Obj.cells #[u] 73 (0, 0)))
    (h2 : v.heap[b2]? = some (Obj.cells #[q0, q1, q2, q3, q4, q5, q6] 64 (0, 0))) (hne : b1 ≠ b2) (hl1 : w.heap.size ≤ b1) (hl2 : w.heap.size ≤ b2) :
    Below w.heap.size w ((((((((v.setCell ⟨b1, 0, none⟩ x).setCell ⟨b2, 0, none⟩ p0).setCell ⟨b2, 1, none⟩ p1).setCell ⟨b2, 2, none⟩ p2).setCell ⟨b2, 3, none⟩ p3).setCell ⟨b2, 4, none⟩ p4).setCell ⟨b2, 5, none⟩ p5).setCell ⟨b2, 6, none⟩ p6) ∧
    ((((((((v.setCell ⟨b1, 0, none⟩ x).setCell ⟨b2, 0, none⟩ p0).setCell ⟨b2, 1, none⟩ p1).setCell ⟨b2, 2, none⟩ p2).setCell ⟨b2, 3, none⟩ p3).setCell ⟨b2, 4, none⟩ p4).setCell ⟨b2, 5, none⟩ p5).setCell ⟨b2, 6, none⟩ p6).heap[b1]? = some (Obj.cells #[x] 73 (0, 0)) ∧
    ((((((((v.setCell ⟨b1, 0, none⟩ x).setCell ⟨b2, 0, none⟩ p0).setCell ⟨b2, 1, none⟩ p1).setCell ⟨b2, 2, none⟩ p2).setCell ⟨b2, 3, none⟩ p3).setCell ⟨b2, 4, none⟩ p4).setCell ⟨b2, 5, none⟩ p5).setCell ⟨b2, 6, none⟩ p6).heap[b2]? = some (Obj.cells #[p0, p1, p2, p3, p4, p5, p6] 64 (0, 0)) := by
  have g1 := heap_setCell_same v b1 0 _ _ x h1
  have g2 : (v.setCell ⟨b1, 0, none⟩ x).heap[b2]? = _ := (Below.heap_setCell v ⟨b1, 0, none⟩ x b2 (fun e => hne e.symm)).trans h2
  have k0 := heap_setCell_same _ b2 0 _ _ p0 g2
  have k1 := heap_setCell_same _ b2 1 _ _ p1 k0
  have k2 := heap_setCell_same _ b2 2 _ _ p2 k1
  have k3 := heap_setCell_same _ b2 3 _ _ p3 k2
  have k4 := heap_setCell_same _ b2 4 _ _ p4 k3
  have k5 := heap_setCell_same _ b2 5 _ _ p5 k4
  have k6 := heap_setCell_same _ b2 6 _ _ p6 k5
  have o : ∀ (w : World) (i : Nat) (y : Value), (w.setCell ⟨b2, i, none⟩ y).heap[b1]? = w.heap[b1]? := fun w i y => Below.heap_setCell w ⟨b2, i, none⟩ y b1 hne
  refine ⟨?_, ?_, k6⟩
  · exact (((((((hv.setCell (p := ⟨b1, 0, none⟩) hl1 x).setCell (p := ⟨b2, 0, none⟩) hl2 p0).setCell (p := ⟨b2, 1, none⟩) hl2 p1).setCell (p := ⟨b2, 2, none⟩) hl2 p2).setCell (p := ⟨b2, 3, none⟩) hl2 p3).setCell (p := ⟨b2, 4, none⟩) hl2 p4).setCell (p := ⟨b2, 5, none⟩) hl2 p5).setCell (p := ⟨b2, 6, none⟩) hl2 p6
  · exact (o _ 6 p6).trans ((o _ 5 p5).trans ((o _ 4 p4).trans ((o _ 3 p3).trans ((o _ 2 p2).trans ((o _ 1 p1).trans ((o _ 0 p0).trans g1))))))

set_option maxRecDepth 100000 in
set_option maxHeartbeats 1000000 in
theorem fill_r0 {Q : Exit → Act → World → Prop} {fb rv rb pb n cap : Nat} {ad : Option Addr}  (a : Act) (w : World) 
    (ha : Fr.Is 83 [(0, .pointer (some ⟨fb, 0, none⟩)), (1, .slice ad n cap)] a)
    (hQ : Hid (∀ a' , Fr.Is 83 [(0, .pointer (some ⟨fb, 0, none⟩)), (1, .slice ad n cap), (4, .pointer (some ⟨w.heap.size, 0, none⟩))] a' → Q .normal a' (w.alloc (.cells #[.bool false, .int .i64 0, .int .i64 0] 33)))) :
    (Fr.reg Tryd.f27 0).wp Tryd.prog Q a w := by
  obtain ⟨fr, rfl, hfr⟩ := ha.lit
  simp only [List.map_cons, List.map_nil, List.cons.injEq, and_true] at hfr
  conv => arg 2; whnf
  simp only [List.range, List.range.loop, List.map_cons, List.map_nil, hfr]
  clear hfr ha
  go_wp2_with fail
  exact hQ.out _ (Fr.Is.mk rfl rfl)

set_option maxRecDepth 100000 in
set_option maxHeartbeats 1000000 in
theorem fill_r1 {Q : Exit → Act → World → Prop} {fb rv rb pb n cap : Nat} {ad : Option Addr} {t st : Int} (a : Act) (w : World) (c0 : w.cell? ⟨fb, 0, none⟩ = some (.int .i64 t)) (c2 : w.cell? ⟨fb, 2, none⟩ = some (.int .i64 st))
    (ha : Fr.Is 83 [(0, .pointer (some ⟨fb, 0, none⟩)), (1, .slice ad n cap), (4, .pointer (some ⟨rv, 0, none⟩))] a)
    (hQ : Hid (∀ a' w', Fr.Is 83 [(0, .pointer (some ⟨fb, 0, none⟩)), (1, .slice ad n cap), (4, .pointer (some ⟨rv, 0, none⟩)), (16, .bool (!placeOk t st))] a' → Below w.heap.size w w' → Q .normal a' w')) :
    (Fr.reg Tryd.f27 1).wp Tryd.prog Q a w := by
  obtain ⟨fr, rfl, hfr⟩ := ha.lit
  simp only [List.map_cons, List.map_nil, List.cons.injEq, and_true] at hfr
  conv => arg 2; whnf
  simp only [List.range, List.range.loop, List.map_cons, List.map_nil, hfr]
  clear hfr ha
  have HP := Lib.hid (fun v => pplaced_any t st v)
  have hb0 : Below w.heap.size w w.drew := (Below.refl _ _).drew
  have : Nonempty (Cw (fun v => Below w.heap.size w v)) := ⟨⟨_, hb0⟩⟩
  have z0 : ∀ nn : Cw (fun v => Below w.heap.size w v), nn.v.cell? ⟨fb, 0, none⟩ = some (.int .i64 t) := fun nn => below_cell nn.h c0
  have z2 : ∀ nn : Cw (fun v => Below w.heap.size w v), nn.v.cell? ⟨fb, 2, none⟩ = some (.int .i64 st) := fun nn => below_cell nn.h c2
  refine reg_quietB (fun v => Below w.heap.size w v) (by kernel_rfl) (by kernel_rfl) hb0 ?_
  repeat (go_big_quiet_step ((go_at_call 45; exact (HP.out _).mono (fun e w' h => ⟨h.1, ⟨⟨w', h.2 ▸ Cw.h _⟩, rfl⟩⟩))))
  refine wpQuiet_nil ?_
  rintro w2 ⟨⟨_, hb1⟩, rfl⟩
  exact hQ.out _ _ (Fr.Is.mk rfl rfl) hb1

set_option maxRecDepth 100000 in
set_option maxHeartbeats 1000000 in
theorem fill_r3 {Q : Exit → Act → World → Prop} {fb rv rb pb n cap : Nat} {ad : Option Addr} {t fl : Int} (a : Act) (w : World) (c0 : w.cell? ⟨fb, 0, none⟩ = some (.int .i64 t)) (c1 : w.cell? ⟨fb, 1, none⟩ = some (.int .i64 fl)) (hs : SpIs w) (hk0 : 0 ≤ t) (h0 : 0 ≤ fl) (h1 : fl ≤ 255) (hn1 : n ≤ 1000000000)
    (ha : Fr.Is 83 [(0, .pointer (some ⟨fb, 0, none⟩)), (1, .slice ad n cap), (4, .pointer (some ⟨rv, 0, none⟩))] a)
    (hQ : Hid (∀ a' w', Fr.Is 83 [(0, .pointer (some ⟨fb, 0, none⟩)), (1, .slice ad n cap), (4, .pointer (some ⟨rv, 0, none⟩)), (29, .bool (!fitsB t fl n))] a' → Below w.heap.size w w' → Q .normal a' w')) :
    (Fr.reg Tryd.f27 3).wp Tryd.prog Q a w := by
  obtain ⟨fr, rfl, hfr⟩ := ha.lit
  simp only [List.map_cons, List.map_nil, List.cons.injEq, and_true] at hfr
  conv => arg 2; whnf
  simp only [List.range, List.range.loop, List.map_cons, List.map_nil, hfr]
  clear hfr ha
  have HP := Lib.hid (fun v (hv : Below w.heap.size w v) => pfits_any t fl (n : Int) v (hs.below hv) hk0 h0 h1 (by omega) (by omega))
  clear hs
  have hb0 : Below w.heap.size w w.drew := (Below.refl _ _).drew
  have : Nonempty (Cw (fun v => Below w.heap.size w v)) := ⟨⟨_, hb0⟩⟩
  have z0 : ∀ nn : Cw (fun v => Below w.heap.size w v), nn.v.cell? ⟨fb, 0, none⟩ = some (.int .i64 t) := fun nn => below_cell nn.h c0
  have z1 : ∀ nn : Cw (fun v => Below w.heap.size w v), nn.v.cell? ⟨fb, 1, none⟩ = some (.int .i64 fl) := fun nn => below_cell nn.h c1
  refine reg_quietB (fun v => Below w.heap.size w v) (by kernel_rfl) (by kernel_rfl) hb0 ?_
  repeat (go_big_quiet_step ((go_at_call 46; exact (HP.out _ (Cw.h _)).mono (fun e w' h => ⟨h.1, ⟨⟨w', below_step (Cw.h _) h.2⟩, rfl⟩⟩))))
  refine wpQuiet_nil ?_
  rintro w2 ⟨⟨_, hb1⟩, rfl⟩
  exact hQ.out _ _ (Fr.Is.mk rfl rfl) hb1
end Go.Proofs.YtdilgkkkhmmffaaDoor

namespace Go.Proofs.YtdilgkkkhmmffaaDoor
open Go.RowKit
open Fra Oct Arg Mem Gen Qu Go.Proofs.YtdilgkkkhmmffaaDoor.Obj
set_option linter.unusedVariables false
set_option linter.unusedSimpArgs false

theorem new_set (v : World) (b i : Nat) (x : Value) (o : Obj) : ((v.setCell ⟨b, i, none⟩ x).alloc o).heap[v.heap.size]? = some o := by
  have h := heap_alloc_new (v.setCell ⟨b, i, none⟩ x) o
  rwa [show (v.setCell ⟨b, i, none⟩ x).heap.size = v.heap.size by simp [World.setCell]] at h
set_option maxHeartbeats 4000000 in
theorem set7 {w v : World} {b2 : Nat} {p0 p1 p2 p3 p4 p5 p6 q0 q1 q2 q3 q4 q5 q6 : Value} (hv : Below w.heap.size w v)
    (h2 : v.heap[b2]? = some (Obj.cells #[q0, q1, q2, q3, q4, q5, q6] 64 (0, 0))) (hl2 : w.heap.size ≤ b2) :
    Below w.heap.size w (((((((v.setCell ⟨b2, 0, none⟩ p0).setCell ⟨b2, 1, none⟩ p1).setCell ⟨b2, 2, none⟩ p2).setCell ⟨b2, 3, none⟩ p3).setCell ⟨b2, 4, none⟩ p4).setCell ⟨b2, 5, none⟩ p5).setCell ⟨b2, 6, none⟩ p6) ∧
    (((((((v.setCell ⟨b2, 0, none⟩ p0).setCell ⟨b2, 1, none⟩ p1).setCell ⟨b2, 2, none⟩ p2).setCell ⟨b2, 3, none⟩ p3).setCell ⟨b2, 4, none⟩ p4).setCell ⟨b2, 5, none⟩ p5).setCell ⟨b2, 6, none⟩ p6).heap[b2]? = some (Obj.cells #[p0, p1, p2, p3, p4, p5, p6] 64 (0, 0)) ∧
    (((((((v.setCell ⟨b2, 0, none⟩ p0).setCell ⟨b2, 1, none⟩ p1).setCell ⟨b2, 2, none⟩ p2).setCell ⟨b2, 3, none⟩ p3).setCell ⟨b2, 4, none⟩ p4).setCell ⟨b2, 5, none⟩ p5).setCell ⟨b2, 6, none⟩ p6).heap.size = v.heap.size := by
  have k0 := heap_setCell_same _ b2 0 _ _ p0 h2
  have k1 := heap_setCell_same _ b2 1 _ _ p1 k0
  have k2 := heap_setCell_same _ b2 2 _ _ p2 k1
  have k3 := heap_setCell_same _ b2 3 _ _ p3 k2
  have k4 := heap_setCell_same _ b2 4 _ _ p4 k3
  have k5 := heap_setCell_same _ b2 5 _ _ p5 k4
  have k6 := heap_setCell_same _ b2 6 _ _ p6 k5
  have sz : ∀ (w : World) (i : Nat) (y : Value), (w.setCell ⟨b2, i, none⟩ y).heap.size = w.heap.size := fun w i y => by simp [World.setCell]
  refine ⟨?_, k6, ?_⟩
  · exact ((((((hv.setCell (p := ⟨b2, 0, none⟩) hl2 p0).setCell (p := ⟨b2, 1, none⟩) hl2 p1).setCell (p := ⟨b2, 2, none⟩) hl2 p2).setCell (p := ⟨b2, 3, none⟩) hl2 p3).setCell (p := ⟨b2, 4, none⟩) hl2 p4).setCell (p := ⟨b2, 5, none⟩) hl2 p5).setCell (p := ⟨b2, 6, none⟩) hl2 p6
  · exact (sz _ 6 p6).trans ((sz _ 5 p5).trans ((sz _ 4 p4).trans ((sz _ 3 p3).trans ((sz _ 2 p2).trans ((sz _ 1 p1).trans (sz _ 0 p0))))))

set_option maxRecDepth 100000 in
set_option maxHeartbeats 8000000 in
theorem fill_r5 {Q : Exit → Act → World → Prop} {fb rv rb pb n cap : Nat} {ad : Option Addr} {t fl : Int} (a : Act) (w : World) (c0 : w.cell? ⟨fb, 0, none⟩ = some (.int .i64 t)) (c1 : w.cell? ⟨fb, 1, none⟩ = some (.int .i64 fl)) (h0 : 0 ≤ fl) (h1 : fl ≤ 255)
    (ha : Fr.Is 83 [(0, .pointer (some ⟨fb, 0, none⟩)), (1, .slice ad n cap), (4, .pointer (some ⟨rv, 0, none⟩))] a)
    (hQ : Hid (∀ a' w' b1 b2, Fr.Is 83 [(0, .pointer (some ⟨fb, 0, none⟩)), (1, .slice ad n cap), (4, .pointer (some ⟨rv, 0, none⟩)), (5, .pointer (some ⟨b1, 0, none⟩)), (6, .pointer (some ⟨b2, 0, none⟩))] a' → Below w.heap.size w w' → b1 ≠ b2 → w.heap.size ≤ b1 → w.heap.size ≤ b2 → w'.heap[b1]? = some (.cells #[.slice ad n cap] 73 (0, 0)) → w'.heap[b2]? = some (.cells (ptC (partsM t fl)) 64 (0, 0)) → Q .normal a' w')) :
    (Fr.reg Tryd.f27 5).wp Tryd.prog Q a w := by
  obtain ⟨fr, rfl, hfr⟩ := ha.lit
  simp only [List.map_cons, List.map_nil, List.cons.injEq, and_true] at hfr
  conv => arg 2; whnf
  simp only [List.range, List.range.loop, List.map_cons, List.map_nil, hfr]
  clear hfr ha
  have HP := Lib.hid (fun v => pparts_any t fl v h0 h1)
  generalize partsM t fl = p at HP hQ
  unfold ptC at HP hQ
  have hb : Below w.heap.size w w.drew := (Below.refl _ _).drew
  have hfl : fb < w.heap.size := World.block_lt_of_cell? w _ c0
  have hw0 : Below w.heap.size w w.drew := hb
  have d0 := below_cell hw0 c0
  have f0 := below_cell hw0 c1
  have hw1 : Below w.heap.size w (w.alloc (.cells #[.slice none 0 0] 73)).drew := ((Below.refl _ _).alloc (Nat.le_refl _) _).drew
  have d1 := below_cell hw1 c0
  have f1 := below_cell hw1 c1
  have hw2 : Below w.heap.size w (w.alloc (.cells #[.bool false, .bool false, .bool false, .bool false, .bool false, .bool false, .bool false] 64)).drew := ((Below.refl _ _).alloc (Nat.le_refl _) _).drew
  have d2 := below_cell hw2 c0
  have f2 := below_cell hw2 c1
  have hw3 : Below w.heap.size w ((w.alloc (.cells #[.slice none 0 0] 73)).alloc (.cells #[.bool false, .bool false, .bool false, .bool false, .bool false, .bool false, .bool false] 64)).drew := (((Below.refl _ _).alloc (Nat.le_refl _) _).alloc (by simp) _).drew
  have d3 := below_cell hw3 c0
  have f3 := below_cell hw3 c1
  have hw4 : Below w.heap.size w ((w.alloc (.cells #[.bool false, .bool false, .bool false, .bool false, .bool false, .bool false, .bool false] 64)).alloc (.cells #[.slice none 0 0] 73)).drew := (((Below.refl _ _).alloc (Nat.le_refl _) _).alloc (by simp) _).drew
  have d4 := below_cell hw4 c0
  have f4 := below_cell hw4 c1
  have HI : Hid (∀ v, (callFunc 34 #[.int .i64 t, .int .i64 fl]).run Tryd.prog v = .ok (.enter 34 #[.int .i64 t, .int .i64 fl]) v) := Lib.hid (fun v => by simp [go_sem])
  have X0 : Hid (∀ v, Below (w.drew).heap.size (w.drew) v → (Below w.heap.size w v ∧ True) ∧ Hid (∀ a', Fr.Is 83 [(0, .pointer (some ⟨fb, 0, none⟩)), (1, .slice ad n cap), (4, .pointer (some ⟨rv, 0, none⟩)), (5, .pointer (some ⟨v.heap.size, 0, none⟩)), (6, .pointer (some ⟨(v.heap.size + 1), 0, none⟩))] a' → Q .normal a' ((v.alloc (.cells #[.slice ad n cap] 73)).alloc (.cells #[.bool p.pad, .bool p.order, .bool p.last, .bool p.code, .bool p.inc, .bool p.sets, .bool p.data] 64))) ∧ Hid (∀ a', Fr.Is 83 [(0, .pointer (some ⟨fb, 0, none⟩)), (1, .slice ad n cap), (4, .pointer (some ⟨rv, 0, none⟩)), (5, .pointer (some ⟨(v.heap.size + 1), 0, none⟩)), (6, .pointer (some ⟨v.heap.size, 0, none⟩))] a' → Q .normal a' ((v.alloc (.cells #[.bool p.pad, .bool p.order, .bool p.last, .bool p.code, .bool p.inc, .bool p.sets, .bool p.data] 64)).alloc (.cells #[.slice ad n cap] 73)))) := Lib.hid (fun v hv => by
    have hbv := below_step hw0 hv
    exact ⟨⟨below_step hw0 hv, trivial⟩, Lib.hid (fun a' ha' => by
      have hs := hbv.size
      have hne : v.heap.size ≠ (v.heap.size + 1) := by omega
      exact hQ.out _ _ v.heap.size (v.heap.size + 1) ha' ((hbv.alloc hbv.size _).alloc (Nat.le_trans hbv.size (by simp)) _) hne (by omega) (by omega) (alloc_at (heap_alloc_new v (.cells #[.slice ad n cap] 73))) (alloc_two v (.cells #[.slice ad n cap] 73) (.cells #[.bool p.pad, .bool p.order, .bool p.last, .bool p.code, .bool p.inc, .bool p.sets, .bool p.data] 64))), Lib.hid (fun a' ha' => by
      have hs := hbv.size
      have hne : (v.heap.size + 1) ≠ v.heap.size := by omega
      exact hQ.out _ _ (v.heap.size + 1) v.heap.size ha' ((hbv.alloc hbv.size _).alloc (Nat.le_trans hbv.size (by simp)) _) hne (by omega) (by omega) (alloc_two v (.cells #[.bool p.pad, .bool p.order, .bool p.last, .bool p.code, .bool p.inc, .bool p.sets, .bool p.data] 64) (.cells #[.slice ad n cap] 73)) (alloc_at (heap_alloc_new v (.cells #[.bool p.pad, .bool p.order, .bool p.last, .bool p.code, .bool p.inc, .bool p.sets, .bool p.data] 64))))⟩)
  have X1 : Hid (∀ v, Below ((w.alloc (.cells #[.slice none 0 0] 73)).drew).heap.size ((w.alloc (.cells #[.slice none 0 0] 73)).drew) v → (Below w.heap.size w v ∧ v.cell? ⟨w.heap.size, 0, none⟩ = some (.slice none 0 0) ∧ v.frozen? ⟨w.heap.size, 0, none⟩ = false ∧ v.heap[w.heap.size]? = some (Obj.cells #[.slice none 0 0] 73 (0, 0)) ∧ w.heap.size < v.heap.size ∧ (v.alloc (.cells #[.bool false, .bool false, .bool false, .bool false, .bool false, .bool false, .bool false] 64)).cell? ⟨w.heap.size, 0, none⟩ = some (.slice none 0 0) ∧ (v.alloc (.cells #[.bool false, .bool false, .bool false, .bool false, .bool false, .bool false, .bool false] 64)).frozen? ⟨w.heap.size, 0, none⟩ = false) ∧ Hid (∀ a', Fr.Is 83 [(0, .pointer (some ⟨fb, 0, none⟩)), (1, .slice ad n cap), (4, .pointer (some ⟨rv, 0, none⟩)), (5, .pointer (some ⟨w.heap.size, 0, none⟩)), (6, .pointer (some ⟨v.heap.size, 0, none⟩))] a' → Q .normal a' ((v.setCell ⟨w.heap.size, 0, none⟩ (.slice ad n cap)).alloc (.cells #[.bool p.pad, .bool p.order, .bool p.last, .bool p.code, .bool p.inc, .bool p.sets, .bool p.data] 64)))) := Lib.hid (fun v hv => by
    have h1 : v.heap[w.heap.size]? = some (Obj.cells #[.slice none 0 0] 73 (0, 0)) := block_below hv (heap_alloc_new w _)
    have hbv := below_step hw1 hv
    exact ⟨⟨below_step hw1 hv, cell_at h1 0, frozen_of_row _ _ 0 _ _ h1, h1, (Array.getElem?_eq_some_iff.1 h1).1, cell_at (alloc_at h1) 0, frozen_of_row _ _ 0 _ _ (alloc_at h1)⟩, Lib.hid (fun a' ha' => by
      have hs := hbv.size
      have hne : w.heap.size ≠ v.heap.size := by have := (Array.getElem?_eq_some_iff.1 h1).1; omega
      exact hQ.out _ _ w.heap.size v.heap.size ha' ((hbv.setCell (p := ⟨w.heap.size, 0, none⟩) (Nat.le_refl _) _).alloc (Nat.le_trans hbv.size (by simp [World.setCell])) _) hne (by omega) (by omega) (alloc_at (heap_setCell_same v w.heap.size 0 _ _ (.slice ad n cap) h1)) (new_set v w.heap.size 0 (.slice ad n cap) (.cells #[.bool p.pad, .bool p.order, .bool p.last, .bool p.code, .bool p.inc, .bool p.sets, .bool p.data] 64)))⟩)
  have X2 : Hid (∀ v, Below ((w.alloc (.cells #[.bool false, .bool false, .bool false, .bool false, .bool false, .bool false, .bool false] 64)).drew).heap.size ((w.alloc (.cells #[.bool false, .bool false, .bool false, .bool false, .bool false, .bool false, .bool false] 64)).drew) v → (Below w.heap.size w v ∧ v.cell? ⟨w.heap.size, 0, none⟩ = some (.bool false) ∧ v.frozen? ⟨w.heap.size, 0, none⟩ = false ∧ v.cell? ⟨w.heap.size, 1, none⟩ = some (.bool false) ∧ v.frozen? ⟨w.heap.size, 1, none⟩ = false ∧ v.cell? ⟨w.heap.size, 2, none⟩ = some (.bool false) ∧ v.frozen? ⟨w.heap.size, 2, none⟩ = false ∧ v.cell? ⟨w.heap.size, 3, none⟩ = some (.bool false) ∧ v.frozen? ⟨w.heap.size, 3, none⟩ = false ∧ v.cell? ⟨w.heap.size, 4, none⟩ = some (.bool false) ∧ v.frozen? ⟨w.heap.size, 4, none⟩ = false ∧ v.cell? ⟨w.heap.size, 5, none⟩ = some (.bool false) ∧ v.frozen? ⟨w.heap.size, 5, none⟩ = false ∧ v.cell? ⟨w.heap.size, 6, none⟩ = some (.bool false) ∧ v.frozen? ⟨w.heap.size, 6, none⟩ = false ∧ v.heap[w.heap.size]? = some (Obj.cells #[.bool false, .bool false, .bool false, .bool false, .bool false, .bool false, .bool false] 64 (0, 0)) ∧ w.heap.size < v.heap.size ∧ (v.alloc (.cells #[.slice none 0 0] 73)).cell? ⟨w.heap.size, 0, none⟩ = some (.bool false) ∧ (v.alloc (.cells #[.slice none 0 0] 73)).frozen? ⟨w.heap.size, 0, none⟩ = false ∧ (v.alloc (.cells #[.slice none 0 0] 73)).cell? ⟨w.heap.size, 1, none⟩ = some (.bool false) ∧ (v.alloc (.cells #[.slice none 0 0] 73)).frozen? ⟨w.heap.size, 1, none⟩ = false ∧ (v.alloc (.cells #[.slice none 0 0] 73)).cell? ⟨w.heap.size, 2, none⟩ = some (.bool false) ∧ (v.alloc (.cells #[.slice none 0 0] 73)).frozen? ⟨w.heap.size, 2, none⟩ = false ∧ (v.alloc (.cells #[.slice none 0 0] 73)).cell? ⟨w.heap.size, 3, none⟩ = some (.bool false) ∧ (v.alloc (.cells #[.slice none 0 0] 73)).frozen? ⟨w.heap.size, 3, none⟩ = false ∧ (v.alloc (.cells #[.slice none 0 0] 73)).cell? ⟨w.heap.size, 4, none⟩ = some (.bool false) ∧ (v.alloc (.cells #[.slice none 0 0] 73)).frozen? ⟨w.heap.size, 4, none⟩ = false ∧ (v.alloc (.cells #[.slice none 0 0] 73)).cell? ⟨w.heap.size, 5, none⟩ = some (.bool false) ∧ (v.alloc (.cells #[.slice none 0 0] 73)).frozen? ⟨w.heap.size, 5, none⟩ = false ∧ (v.alloc (.cells #[.slice none 0 0] 73)).cell? ⟨w.heap.size, 6, none⟩ = some (.bool false) ∧ (v.alloc (.cells #[.slice none 0 0] 73)).frozen? ⟨w.heap.size, 6, none⟩ = false) ∧ Hid (∀ a', Fr.Is 83 [(0, .pointer (some ⟨fb, 0, none⟩)), (1, .slice ad n cap), (4, .pointer (some ⟨rv, 0, none⟩)), (5, .pointer (some ⟨v.heap.size, 0, none⟩)), (6, .pointer (some ⟨w.heap.size, 0, none⟩))] a' → Q .normal a' (((((((((v).setCell ⟨w.heap.size, 0, none⟩ (.bool p.pad)).setCell ⟨w.heap.size, 1, none⟩ (.bool p.order)).setCell ⟨w.heap.size, 2, none⟩ (.bool p.last)).setCell ⟨w.heap.size, 3, none⟩ (.bool p.code)).setCell ⟨w.heap.size, 4, none⟩ (.bool p.inc)).setCell ⟨w.heap.size, 5, none⟩ (.bool p.sets)).setCell ⟨w.heap.size, 6, none⟩ (.bool p.data)).alloc (.cells #[.slice ad n cap] 73)))) := Lib.hid (fun v hv => by
    have h1 : v.heap[w.heap.size]? = some (Obj.cells #[.bool false, .bool false, .bool false, .bool false, .bool false, .bool false, .bool false] 64 (0, 0)) := block_below hv (heap_alloc_new w _)
    have hbv := below_step hw2 hv
    exact ⟨⟨below_step hw2 hv, cell_at h1 0, frozen_of_row _ _ 0 _ _ h1, cell_at h1 1, frozen_of_row _ _ 1 _ _ h1, cell_at h1 2, frozen_of_row _ _ 2 _ _ h1, cell_at h1 3, frozen_of_row _ _ 3 _ _ h1, cell_at h1 4, frozen_of_row _ _ 4 _ _ h1, cell_at h1 5, frozen_of_row _ _ 5 _ _ h1, cell_at h1 6, frozen_of_row _ _ 6 _ _ h1, h1, (Array.getElem?_eq_some_iff.1 h1).1, cell_at (alloc_at h1) 0, frozen_of_row _ _ 0 _ _ (alloc_at h1), cell_at (alloc_at h1) 1, frozen_of_row _ _ 1 _ _ (alloc_at h1), cell_at (alloc_at h1) 2, frozen_of_row _ _ 2 _ _ (alloc_at h1), cell_at (alloc_at h1) 3, frozen_of_row _ _ 3 _ _ (alloc_at h1), cell_at (alloc_at h1) 4, frozen_of_row _ _ 4 _ _ (alloc_at h1), cell_at (alloc_at h1) 5, frozen_of_row _ _ 5 _ _ (alloc_at h1), cell_at (alloc_at h1) 6, frozen_of_row _ _ 6 _ _ (alloc_at h1)⟩, Lib.hid (fun a' ha' => by
      have hs := hbv.size
      have hne : v.heap.size ≠ w.heap.size := by have := (Array.getElem?_eq_some_iff.1 h1).1; omega
      exact hQ.out _ _ v.heap.size w.heap.size ha' (let F := set7 (p0 := .bool p.pad) (p1 := .bool p.order) (p2 := .bool p.last) (p3 := .bool p.code) (p4 := .bool p.inc) (p5 := .bool p.sets) (p6 := .bool p.data) hbv h1 (Nat.le_refl _); (F.1.alloc (by rw [F.2.2]; exact hbv.size) _)) hne (by omega) (by omega) (by have F := set7 (p0 := .bool p.pad) (p1 := .bool p.order) (p2 := .bool p.last) (p3 := .bool p.code) (p4 := .bool p.inc) (p5 := .bool p.sets) (p6 := .bool p.data) hbv h1 (Nat.le_refl _); have h9 := heap_alloc_new ((((((((v).setCell ⟨w.heap.size, 0, none⟩ (.bool p.pad)).setCell ⟨w.heap.size, 1, none⟩ (.bool p.order)).setCell ⟨w.heap.size, 2, none⟩ (.bool p.last)).setCell ⟨w.heap.size, 3, none⟩ (.bool p.code)).setCell ⟨w.heap.size, 4, none⟩ (.bool p.inc)).setCell ⟨w.heap.size, 5, none⟩ (.bool p.sets)).setCell ⟨w.heap.size, 6, none⟩ (.bool p.data)) (.cells #[.slice ad n cap] 73); rw [F.2.2] at h9; exact h9) (let F := set7 (p0 := .bool p.pad) (p1 := .bool p.order) (p2 := .bool p.last) (p3 := .bool p.code) (p4 := .bool p.inc) (p5 := .bool p.sets) (p6 := .bool p.data) hbv h1 (Nat.le_refl _); alloc_at F.2.1))⟩)
  have X3 : Hid (∀ v, Below (((w.alloc (.cells #[.slice none 0 0] 73)).alloc (.cells #[.bool false, .bool false, .bool false, .bool false, .bool false, .bool false, .bool false] 64)).drew).heap.size (((w.alloc (.cells #[.slice none 0 0] 73)).alloc (.cells #[.bool false, .bool false, .bool false, .bool false, .bool false, .bool false, .bool false] 64)).drew) v → (Below w.heap.size w v ∧ v.cell? ⟨w.heap.size, 0, none⟩ = some (.slice none 0 0) ∧ v.frozen? ⟨w.heap.size, 0, none⟩ = false ∧ v.heap[w.heap.size]? = some (Obj.cells #[.slice none 0 0] 73 (0, 0)) ∧ v.cell? ⟨(w.heap.size + 1), 0, none⟩ = some (.bool false) ∧ v.frozen? ⟨(w.heap.size + 1), 0, none⟩ = false ∧ v.cell? ⟨(w.heap.size + 1), 1, none⟩ = some (.bool false) ∧ v.frozen? ⟨(w.heap.size + 1), 1, none⟩ = false ∧ v.cell? ⟨(w.heap.size + 1), 2, none⟩ = some (.bool false) ∧ v.frozen? ⟨(w.heap.size + 1), 2, none⟩ = false ∧ v.cell? ⟨(w.heap.size + 1), 3, none⟩ = some (.bool false) ∧ v.frozen? ⟨(w.heap.size + 1), 3, none⟩ = false ∧ v.cell? ⟨(w.heap.size + 1), 4, none⟩ = some (.bool false) ∧ v.frozen? ⟨(w.heap.size + 1), 4, none⟩ = false ∧ v.cell? ⟨(w.heap.size + 1), 5, none⟩ = some (.bool false) ∧ v.frozen? ⟨(w.heap.size + 1), 5, none⟩ = false ∧ v.cell? ⟨(w.heap.size + 1), 6, none⟩ = some (.bool false) ∧ v.frozen? ⟨(w.heap.size + 1), 6, none⟩ = false ∧ v.heap[(w.heap.size + 1)]? = some (Obj.cells #[.bool false, .bool false, .bool false, .bool false, .bool false, .bool false, .bool false] 64 (0, 0))) ∧ Hid (∀ a', Fr.Is 83 [(0, .pointer (some ⟨fb, 0, none⟩)), (1, .slice ad n cap), (4, .pointer (some ⟨rv, 0, none⟩)), (5, .pointer (some ⟨w.heap.size, 0, none⟩)), (6, .pointer (some ⟨(w.heap.size + 1), 0, none⟩))] a' → Q .normal a' (((((((((v).setCell ⟨w.heap.size, 0, none⟩ (.slice ad n cap)).setCell ⟨(w.heap.size + 1), 0, none⟩ (.bool p.pad)).setCell ⟨(w.heap.size + 1), 1, none⟩ (.bool p.order)).setCell ⟨(w.heap.size + 1), 2, none⟩ (.bool p.last)).setCell ⟨(w.heap.size + 1), 3, none⟩ (.bool p.code)).setCell ⟨(w.heap.size + 1), 4, none⟩ (.bool p.inc)).setCell ⟨(w.heap.size + 1), 5, none⟩ (.bool p.sets)).setCell ⟨(w.heap.size + 1), 6, none⟩ (.bool p.data)))) := Lib.hid (fun v hv => by
    have h0 := heap_alloc_new w (.cells #[.slice none 0 0] 73)
    have hsz : (w.alloc (.cells #[.slice none 0 0] 73)).heap.size = w.heap.size + 1 := by simp
    have h2a := heap_alloc_new (w.alloc (.cells #[.slice none 0 0] 73)) (.cells #[.bool false, .bool false, .bool false, .bool false, .bool false, .bool false, .bool false] 64)
    rw [hsz] at h2a
    have h1a := alloc_at h0 (p := (.cells #[.bool false, .bool false, .bool false, .bool false, .bool false, .bool false, .bool false] 64))
    have h1 : v.heap[w.heap.size]? = some (Obj.cells #[.slice none 0 0] 73 (0, 0)) := block_below hv h1a
    have h2 : v.heap[w.heap.size + 1]? = some (Obj.cells #[.bool false, .bool false, .bool false, .bool false, .bool false, .bool false, .bool false] 64 (0, 0)) := block_below hv h2a
    have hbv := below_step hw3 hv
    exact ⟨⟨below_step hw3 hv, cell_at h1 0, frozen_of_row _ _ 0 _ _ h1, h1, cell_at h2 0, frozen_of_row _ _ 0 _ _ h2, cell_at h2 1, frozen_of_row _ _ 1 _ _ h2, cell_at h2 2, frozen_of_row _ _ 2 _ _ h2, cell_at h2 3, frozen_of_row _ _ 3 _ _ h2, cell_at h2 4, frozen_of_row _ _ 4 _ _ h2, cell_at h2 5, frozen_of_row _ _ 5 _ _ h2, cell_at h2 6, frozen_of_row _ _ 6 _ _ h2, h2⟩, Lib.hid (fun a' ha' => by
      have hs := hbv.size
      have hne : w.heap.size ≠ (w.heap.size + 1) := by omega
      have F := fin5 (b1 := w.heap.size) (b2 := (w.heap.size + 1)) (x := .slice ad n cap) (p0 := .bool p.pad) (p1 := .bool p.order) (p2 := .bool p.last) (p3 := .bool p.code) (p4 := .bool p.inc) (p5 := .bool p.sets) (p6 := .bool p.data) hbv h1 h2 hne (by omega) (by omega)
      exact hQ.out _ _ w.heap.size (w.heap.size + 1) ha' F.1 hne (by omega) (by omega) F.2.1 F.2.2)⟩)
  have X4 : Hid (∀ v, Below (((w.alloc (.cells #[.bool false, .bool false, .bool false, .bool false, .bool false, .bool false, .bool false] 64)).alloc (.cells #[.slice none 0 0] 73)).drew).heap.size (((w.alloc (.cells #[.bool false, .bool false, .bool false, .bool false, .bool false, .bool false, .bool false] 64)).alloc (.cells #[.slice none 0 0] 73)).drew) v → (Below w.heap.size w v ∧ v.cell? ⟨(w.heap.size + 1), 0, none⟩ = some (.slice none 0 0) ∧ v.frozen? ⟨(w.heap.size + 1), 0, none⟩ = false ∧ v.heap[(w.heap.size + 1)]? = some (Obj.cells #[.slice none 0 0] 73 (0, 0)) ∧ v.cell? ⟨w.heap.size, 0, none⟩ = some (.bool false) ∧ v.frozen? ⟨w.heap.size, 0, none⟩ = false ∧ v.cell? ⟨w.heap.size, 1, none⟩ = some (.bool false) ∧ v.frozen? ⟨w.heap.size, 1, none⟩ = false ∧ v.cell? ⟨w.heap.size, 2, none⟩ = some (.bool false) ∧ v.frozen? ⟨w.heap.size, 2, none⟩ = false ∧ v.cell? ⟨w.heap.size, 3, none⟩ = some (.bool false) ∧ v.frozen? ⟨w.heap.size, 3, none⟩ = false ∧ v.cell? ⟨w.heap.size, 4, none⟩ = some (.bool false) ∧ v.frozen? ⟨w.heap.size, 4, none⟩ = false ∧ v.cell? ⟨w.heap.size, 5, none⟩ = some (.bool false) ∧ v.frozen? ⟨w.heap.size, 5, none⟩ = false ∧ v.cell? ⟨w.heap.size, 6, none⟩ = some (.bool false) ∧ v.frozen? ⟨w.heap.size, 6, none⟩ = false ∧ v.heap[w.heap.size]? = some (Obj.cells #[.bool false, .bool false, .bool false, .bool false, .bool false, .bool false, .bool false] 64 (0, 0))) ∧ Hid (∀ a', Fr.Is 83 [(0, .pointer (some ⟨fb, 0, none⟩)), (1, .slice ad n cap), (4, .pointer (some ⟨rv, 0, none⟩)), (5, .pointer (some ⟨(w.heap.size + 1), 0, none⟩)), (6, .pointer (some ⟨w.heap.size, 0, none⟩))] a' → Q .normal a' (((((((((v).setCell ⟨(w.heap.size + 1), 0, none⟩ (.slice ad n cap)).setCell ⟨w.heap.size, 0, none⟩ (.bool p.pad)).setCell ⟨w.heap.size, 1, none⟩ (.bool p.order)).setCell ⟨w.heap.size, 2, none⟩ (.bool p.last)).setCell ⟨w.heap.size, 3, none⟩ (.bool p.code)).setCell ⟨w.heap.size, 4, none⟩ (.bool p.inc)).setCell ⟨w.heap.size, 5, none⟩ (.bool p.sets)).setCell ⟨w.heap.size, 6, none⟩ (.bool p.data)))) := Lib.hid (fun v hv => by
    have h0 := heap_alloc_new w (.cells #[.bool false, .bool false, .bool false, .bool false, .bool false, .bool false, .bool false] 64)
    have hsz : (w.alloc (.cells #[.bool false, .bool false, .bool false, .bool false, .bool false, .bool false, .bool false] 64)).heap.size = w.heap.size + 1 := by simp
    have h2a := heap_alloc_new (w.alloc (.cells #[.bool false, .bool false, .bool false, .bool false, .bool false, .bool false, .bool false] 64)) (.cells #[.slice none 0 0] 73)
    rw [hsz] at h2a
    have h1a := alloc_at h0 (p := (.cells #[.slice none 0 0] 73))
    have h1 : v.heap[w.heap.size + 1]? = some (Obj.cells #[.slice none 0 0] 73 (0, 0)) := block_below hv h2a
    have h2 : v.heap[w.heap.size]? = some (Obj.cells #[.bool false, .bool false, .bool false, .bool false, .bool false, .bool false, .bool false] 64 (0, 0)) := block_below hv h1a
    have hbv := below_step hw4 hv
    exact ⟨⟨below_step hw4 hv, cell_at h1 0, frozen_of_row _ _ 0 _ _ h1, h1, cell_at h2 0, frozen_of_row _ _ 0 _ _ h2, cell_at h2 1, frozen_of_row _ _ 1 _ _ h2, cell_at h2 2, frozen_of_row _ _ 2 _ _ h2, cell_at h2 3, frozen_of_row _ _ 3 _ _ h2, cell_at h2 4, frozen_of_row _ _ 4 _ _ h2, cell_at h2 5, frozen_of_row _ _ 5 _ _ h2, cell_at h2 6, frozen_of_row _ _ 6 _ _ h2, h2⟩, Lib.hid (fun a' ha' => by
      have hs := hbv.size
      have hne : (w.heap.size + 1) ≠ w.heap.size := by omega
      have F := fin5 (b1 := (w.heap.size + 1)) (b2 := w.heap.size) (x := .slice ad n cap) (p0 := .bool p.pad) (p1 := .bool p.order) (p2 := .bool p.last) (p3 := .bool p.code) (p4 := .bool p.inc) (p5 := .bool p.sets) (p6 := .bool p.data) hbv h1 h2 hne (by omega) (by omega)
      exact hQ.out _ _ (w.heap.size + 1) w.heap.size ha' F.1 hne (by omega) (by omega) F.2.1 F.2.2)⟩)
  clear c0 c1 hb hQ
  refine wp_region_noPanic ?_
  go_region_law (refine Wr.step_call rfl 34 [.tmp 37, .tmp 41] _ rfl [.int .i64 t, .int .i64 fl] rfl HI.out (HP.out _) ?_; rintro e w1 ⟨rfl, b1⟩; refine ⟨_, rfl, ?_⟩; first | (have hX1 := (X1.out _ b1).1) | (have hX2 := (X2.out _ b1).1) | (have hX3 := (X3.out _ b1).1) | (have hX4 := (X4.out _ b1).1) | (have hX0 := (X0.out _ b1).1))
  all_goals first
    | (have hh := hX1; clear hh; exact (X1.out _ b1).2.out _ (Fr.Is.mk rfl rfl))
    | (have hh := hX2; clear hh; exact (X2.out _ b1).2.out _ (Fr.Is.mk rfl rfl))
    | (have hh := hX3; clear hh; exact (X3.out _ b1).2.out _ (Fr.Is.mk rfl rfl))
    | (have hh := hX4; clear hh; exact (X4.out _ b1).2.out _ (Fr.Is.mk rfl rfl))
    | (have hh := hX0; clear hh; first | exact (X0.out _ b1).2.1.out _ (Fr.Is.mk rfl rfl) | exact (X0.out _ b1).2.2.out _ (Fr.Is.mk rfl rfl))
end Go.Proofs.YtdilgkkkhmmffaaDoor
