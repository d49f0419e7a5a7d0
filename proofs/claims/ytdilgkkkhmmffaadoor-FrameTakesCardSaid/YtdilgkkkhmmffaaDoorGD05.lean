/- Layer 6: the document's Payload: its loops; the whole. Layer 6: the document's Payload, whole. A row of bytes that grows by a row of bytes that may be empty; rows that were made, as rows that grow. Layer 6: the document's Put. -/
import Derived.Test.YtdilgkkkhmmffaaDoorGD04
import Derived.LoopTactic
import Derived.Test.YtdilgkkkhmmffaaDoorGP04
import Derived.Test.YtdilgkkkhmmffaaDoorGP06
set_option linter.unusedVariables false
set_option linter.unusedSimpArgs false
namespace Go.Proofs.YtdilgkkkhmmffaaDoor
open Go.RowKit
open Fra Oct Arg Mem Gen Wr Go.Proofs.YtdilgkkkhmmffaaDoor.Obj
set_option linter.unusedVariables false
set_option linter.unusedSimpArgs false


set_option maxRecDepth 100000 in
set_option maxHeartbeats 2000000 in
theorem pyd_sets {Q : Exit → Act → World → Prop} {w0 : World} {B bx : Nat} {cs : Array Value} {oa : Option Addr} {oc : Nat} {out : List UInt8} (a : Act) (w : World) (h : Py w0 B bx cs oa oc out w) (hB : B = w0.heap.size) (sets : List StM) (sa : Option Addr) (sc : Nat) (hcs : cs[5]? = some (.slice sa sets.length sc)) (hrow : Rw.RowE ESt w0 sa sets) (hn : sets.length ≤ 1000000) (hok : ∀ s ∈ sets, setOk s = true) (hlen : out.length ≤ 100000000)
    (ha : Fr.Is 116 [(1, .pointer (some ⟨bx, 0, none⟩)), (3, .slice oa out.length oc)] a)
    (hQ : Hid (∀ a' w' oa' oc' Z, Hid (Z = out ++ setL sets) → Fr.Is 116 [(1, .pointer (some ⟨bx, 0, none⟩)), (3, .slice oa' Z.length oc')] a' → Py w0 B bx cs oa' oc' Z w' → Q .normal a' w')) :
    (Fr.navL (Fr.tail Tryd.f22 4)).wp Tryd.prog Q a w := by
  have HRow := Lib.hid hrow
  have HOk := Lib.hid hok
  have HBe : Hid (∀ oa oc out v, Py w0 B bx cs oa oc out v → Below w0.heap.size w0 v) := Lib.hid (fun _ _ _ v hv => hv.std.below hB)
  have HC5 : Hid (∀ oa oc out v, Py w0 B bx cs oa oc out v → v.cell? ⟨bx, 5, none⟩ = some (.slice sa sets.length sc)) := Lib.hid (fun _ _ _ v hv => (cell_at hv.fb 5).trans hcs)
  obtain ⟨n, hn0⟩ : ∃ n, n = sets.length := ⟨_, rfl⟩
  rw [← hn0] at hn HC5
  have HN := Lib.hid hn0
  clear hrow hok hcs hn0 hB
  have H := Lib.hid h
  have hinfo := Lib.hid info_u8

  clear h
  obtain ⟨fr, rfl, hfr⟩ := ha.lit
  simp only [List.map_cons, List.map_nil, List.cons.injEq, and_true] at hfr
  conv => arg 2; whnf
  simp only [List.range, List.range.loop, List.map_cons, List.map_nil, hfr]
  clear hfr ha
  go_wp2_with fail
  go_loopw [3, 5] (fun vb vi wr => ∃ (k : Nat) (oa1 : Option Addr) (oc1 : Nat) (Z : List UInt8), vi = .int .i64 k ∧ k ≤ n ∧ vb = .slice oa1 Z.length oc1 ∧ Hid (Z = out ++ setL (sets.take k)) ∧ Hid (Py w0 B bx cs oa1 oc1 Z wr)) (fun _ vi _ => n - (intOf vi).toNat)
  case atStart => exact ⟨0, oa, oc, out, by rfl, Nat.zero_le _, rfl, Lib.hid (by simp [setL]), H⟩
  case round =>
    clear H
    obtain ⟨k, oa1, oc1, Z0, rfl, hk, rfl, HZ0, HS⟩ := hrel
    have x5 := HC5.out _ _ _ _ HS.out
    by_cases hlt : k < n
    · have hlt' : (k : Int) < n := by omega
      have hka : k < sets.length := by rw [← HN.out]; exact hlt
      obtain ⟨b1, o1, rfl, hc⟩ : ∃ b off, sa = some ⟨b, off, none⟩ ∧ ∀ i, (h : i < sets.length) → Rw.CE ESt w0 b (off + i * 2) sets[i] := by
        rcases HRow.out with h | h
        · rw [h] at hka; simp at hka
        · exact h
      obtain ⟨c0, c1⟩ := CE_st (hc k hka)
      have HC1 := Lib.hid (fun v (hv : Below w0.heap.size w0 v) => below_cell hv c1)
      have c0 := below_cell (HBe.out _ _ _ _ HS.out) c0
      have hso := HOk.out _ (List.getElem_mem hka)
      have HT := Lib.hid (show setL (sets.take (k + 1)) = setL (sets.take k) ++ (putL sets[k].id 2 ++ putL sets[k].val 4) by
        rw [List.take_succ_eq_append_getElem hka, setL, setL, List.flatMap_append]; simp)
      have hzl : Z0.length ≤ 106000000 := by rw [HZ0.out, List.length_append, setL_len, List.length_take]; omega
      generalize sets[k] = s at c0 HC1 HT hso
      obtain ⟨id, val⟩ := s
      simp only [setOk, decide_eq_true_eq] at hso
      simp only at c0 HC1 HT
      obtain ⟨i0, i1, v0, v1⟩ := hso
      clear hc c1
      obtain ⟨Y, hY⟩ : ∃ Y, Y = putL id 2 := ⟨_, rfl⟩
      obtain ⟨Y2, hY2⟩ : ∃ Y, Y = putL val 4 := ⟨_, rfl⟩
      rw [← hY, ← hY2] at HT
      have hYl : Y.length = 2 := by rw [hY, putL_length]
      have hYl2 : Y2.length = 4 := by rw [hY2, putL_length]
      have HP := Lib.hid (fun u => rput_yes id 2 u i0 (by omega) (by decide) (by decide))
      have HP2 := Lib.hid (fun u => rfour_any val u v0 (by omega))
      rw [← hY] at HP
      rw [← hY2] at HP2
      have HNe : Hid (Y ≠ []) := Lib.hid (fun e => by rw [e] at hYl; simp at hYl)
      have HNe2 : Hid (Y2 ≠ []) := Lib.hid (fun e => by rw [e] at hYl2; simp at hYl2)
      obtain ⟨Z1, hZ1⟩ : ∃ Z, Z = Z0 ++ Y := ⟨_, rfl⟩
      obtain ⟨Z, hZ⟩ : ∃ Z, Z = Z1 ++ Y2 := ⟨_, rfl⟩
      have hl1 : Z1.length ≤ 140737488355328 := by rw [hZ1, List.length_append]; omega
      have hl2 : Z.length ≤ 140737488355328 := by rw [hZ, hZ1]; simp only [List.length_append]; omega
      have HZ1 := Lib.hid hZ1
      have HZ := Lib.hid hZ
      have HZZ : Hid (Z = out ++ setL (sets.take (k + 1))) := Lib.hid (by rw [hZ, hZ1, HZ0.out, HT.out]; simp only [List.append_assoc])
      clear hY hY2 hYl hYl2 hZ hZ1 HT
      go_wp2_with fail
      refine (HP.out _).mono ?_; rintro e w1 ⟨ad, cp, rfl, hown, b1⟩
      have HR : Hid (RB w1 ad Y) := Lib.hid (RB.of_own hown.out)
      have H1 := Lib.hid (HS.out.below b1)
      clear hown b1 x5 c0
      go_wp2_with (at_builtin; refine wl_bytes Tryd.underlying27 hinfo.out rfl (.tmp 54) (.tmp 62) rfl rfl rfl H1.out.out H1.out.bs.1 H1.out.bs.2 rfl rfl HNe.out HR.out Z1 HZ1.out hl1 ?_; intro oa2 oc2 w2 hG; have H2 := Lib.hid (H1.out.grew hG.out); have y5 := HC5.out _ _ _ _ H2.out; have y1 := HC1.out _ (HBe.out _ _ _ _ H2.out); clear hG)
      refine (HP2.out _).mono ?_; rintro e w3 ⟨ad2, cp2, rfl, hown, b2⟩
      have HR2 : Hid (RB w3 ad2 Y2) := Lib.hid (RB.of_own hown.out)
      have H3 := Lib.hid (H2.out.below b2)
      clear hown b2 y5 y1
      go_wp2_with (at_builtin; refine wl_bytes Tryd.underlying27 hinfo.out rfl (.tmp 64) (.tmp 71) rfl rfl rfl H3.out.out H3.out.bs.1 H3.out.bs.2 rfl rfl HNe2.out HR2.out Z HZ.out hl2 ?_; intro oa4 oc4 w4 hG; have H4 := Lib.hid (H3.out.grew hG.out); clear hG)
      go_roundw
      case rel => exact ⟨k + 1, _, _, Z, by go_num, by omega, rfl, HZZ, H4⟩
      case measure => simp [intOf]; omega
    · have hke : k = n := by omega
      subst hke
      have hlt' : ¬ (k : Int) < k := by omega
      have HE : Hid (Z0 = out ++ setL sets) := Lib.hid (by have := HZ0.out; rwa [HN.out, List.take_length] at this)
      go_wp2_with fail
      exact hQ.out _ _ _ _ _ HE (Fr.Is.mk rfl rfl) HS.out

set_option maxRecDepth 100000 in
set_option maxHeartbeats 2000000 in
theorem pyd_zero {Q : Exit → Act → World → Prop} {w0 : World} {B bx : Nat} {cs : Array Value} {oa : Option Addr} {oc : Nat} {out : List UInt8} (a : Act) (w : World) (h : Py w0 B bx cs oa oc out w) {v : Int} {n : Nat} (hvn : v = n) (hcs : cs[4]? = some (.int .i64 v)) (hn : n ≤ 255) (hlen : out.length ≤ 100000000)
    (ha : Fr.Is 116 [(1, .pointer (some ⟨bx, 0, none⟩)), (3, .slice oa out.length oc)] a)
    (hQ : Hid (∀ a' w' oa' oc' Z, Hid (Z = out ++ List.replicate n 0) → Fr.Is 116 [(1, .pointer (some ⟨bx, 0, none⟩)), (3, .slice oa' Z.length oc')] a' → Py w0 B bx cs oa' oc' Z w' → Q .normal a' w')) :
    (Fr.navL (Fr.tail Tryd.f22 9)).wp Tryd.prog Q a w := by
  subst hvn
  have HC4 : Hid (∀ oa oc out v, Py w0 B bx cs oa oc out v → v.cell? ⟨bx, 4, none⟩ = some (.int .i64 (n : Int))) := Lib.hid (fun _ _ _ v hv => (cell_at hv.fb 4).trans hcs)
  have HB1 := Lib.hid (fun u => rb_one u 5 0 0 rfl)
  have HNe : Hid ([(0 : UInt8)] ≠ []) := Lib.hid (fun e => by cases e)
  clear hcs
  have H := Lib.hid h
  have hinfo := Lib.hid info_u8

  clear h
  obtain ⟨fr, rfl, hfr⟩ := ha.lit
  simp only [List.map_cons, List.map_nil, List.cons.injEq, and_true] at hfr
  conv => arg 2; whnf
  simp only [List.range, List.range.loop, List.map_cons, List.map_nil, hfr]
  clear hfr ha
  go_wp2_with fail
  go_loopw [3, 6] (fun vb vi wr => ∃ (k : Nat) (oa1 : Option Addr) (oc1 : Nat) (Z : List UInt8), vi = .int .i64 k ∧ k ≤ n ∧ vb = .slice oa1 Z.length oc1 ∧ Hid (Z = out ++ List.replicate k 0) ∧ Hid (Py w0 B bx cs oa1 oc1 Z wr)) (fun _ vi _ => n - (intOf vi).toNat)
  case atStart => exact ⟨0, oa, oc, out, by rfl, Nat.zero_le _, rfl, Lib.hid (by simp), H⟩
  case round =>
    clear H
    obtain ⟨k, oa1, oc1, Z0, rfl, hk, rfl, HZ0, HS⟩ := hrel
    have x4 := HC4.out _ _ _ _ HS.out
    by_cases hlt : k < n
    · have hlt' : (k : Int) < n := by omega
      have hzl : Z0.length ≤ 100000255 := by rw [HZ0.out, List.length_append, List.length_replicate]; omega
      obtain ⟨Z, hZ⟩ : ∃ Z, Z = Z0 ++ [(0 : UInt8)] := ⟨_, rfl⟩
      have hl2 : Z.length ≤ 140737488355328 := by rw [hZ]; simp only [List.length_append, List.length_cons, List.length_nil]; omega
      have HZ := Lib.hid hZ
      have HZZ : Hid (Z = out ++ List.replicate (k + 1) 0) := Lib.hid (by rw [hZ, HZ0.out, List.replicate_succ', List.append_assoc])
      have H1 := Lib.hid (HS.out.below ((Below.refl wr.heap.size wr).alloc (Nat.le_refl _) (.cells #[.int .u8 0] 5)))
      clear hZ
      go_wp2_with (at_builtin; refine wl_bytes Tryd.underlying27 hinfo.out rfl (.tmp 112) (.tmp 113) rfl rfl rfl H1.out.out H1.out.bs.1 H1.out.bs.2 rfl rfl HNe.out (HB1.out _) Z HZ.out hl2 ?_; intro oa2 oc2 w2 hG; have H2 := Lib.hid (H1.out.grew hG.out); clear hG)
      go_roundw
      case rel => exact ⟨k + 1, _, _, Z, by go_num, by omega, rfl, HZZ, H2⟩
      case measure => simp [intOf]; omega
    · have hke : k = n := by omega
      subst hke
      have hlt' : ¬ (k : Int) < k := by omega
      go_wp2_with fail
      exact hQ.out _ _ _ _ _ HZ0 (Fr.Is.mk rfl rfl) HS.out
end Go.Proofs.YtdilgkkkhmmffaaDoor

namespace Go.Proofs.YtdilgkkkhmmffaaDoor
open Go.RowKit
open Fra Oct Arg Mem Gen Wr Go.Proofs.YtdilgkkkhmmffaaDoor.Obj
set_option linter.unusedVariables false
set_option linter.unusedSimpArgs false

set_option maxRecDepth 100000 in
set_option maxHeartbeats 1000000 in
theorem pyd_r0 {Q : Exit → Act → World → Prop} {cs : Array Value} (a : Act) (w : World)
    (ha : Fr.Is 116 [(0, .agg cs)] a)
    (hQ : Hid (∀ a', Fr.Is 116 [(1, .pointer (some ⟨w.heap.size, 0, none⟩))] a' → Q .normal a' (w.alloc (.cells cs 24)))) :
    (Fr.reg Tryd.f22 0).wp Tryd.prog Q a w := by
  obtain ⟨fr, rfl, hfr⟩ := ha.lit
  simp only [List.map_cons, List.map_nil, List.cons.injEq, and_true] at hfr
  conv => arg 2; whnf
  simp only [List.range, List.range.loop, List.map_cons, List.map_nil, hfr]
  clear hfr ha
  go_wp2_with fail
  exact hQ.out _ (Fr.Is.mk rfl rfl)
set_option maxRecDepth 100000 in
set_option maxHeartbeats 1000000 in
theorem pyd_r1 {Q : Exit → Act → World → Prop} {bx : Nat} (a : Act) (w : World)
    (ha : Fr.Is 116 [(1, .pointer (some ⟨bx, 0, none⟩))] a)
    (hQ : Hid (∀ a', Fr.Is 116 [(1, .pointer (some ⟨bx, 0, none⟩)), (3, .slice none 0 0)] a' → Q .normal a' w)) :
    (Fr.reg Tryd.f22 1).wp Tryd.prog Q a w := by
  obtain ⟨fr, rfl, hfr⟩ := ha.lit
  simp only [List.map_cons, List.map_nil, List.cons.injEq, and_true] at hfr
  conv => arg 2; whnf
  simp only [List.range, List.range.loop, List.map_cons, List.map_nil, hfr]
  clear hfr ha
  go_wp2_with fail
  exact hQ.out _ (Fr.Is.mk rfl rfl)
set_option maxRecDepth 100000 in
set_option maxHeartbeats 1000000 in
theorem pyd_r25 {Q : Exit → Act → World → Prop} {oa : Option Addr} {n oc : Nat} (a : Act) (w : World)
    (ha : Fr.Is 116 [(3, .slice oa n oc)] a)
    (hQ : Hid (∀ a', Fr.Is 116 [(2, .slice oa n oc)] a' → Q .normal a' w)) :
    (Fr.reg Tryd.f22 25).wp Tryd.prog Q a w := by
  obtain ⟨fr, rfl, hfr⟩ := ha.lit
  simp only [List.map_cons, List.map_nil, List.cons.injEq, and_true] at hfr
  conv => arg 2; whnf
  simp only [List.range, List.range.loop, List.map_cons, List.map_nil, hfr]
  clear hfr ha
  go_wp2_with fail
  exact hQ.out _ (Fr.Is.mk rfl rfl)
theorem pyd_ret {R : Ending → World → Prop} {oa : Option Addr} {n oc : Nat} {a : Act} {w' : World} (ha : Fr.Is 116 [(2, .slice oa n oc)] a) (hR : R (.returned (.slice oa n oc)) w') : bodyPost Tryd.prog Tryd.f22 R .ret a w' := by
  obtain ⟨fr, rfl, hfr⟩ := ha.lit
  simp only [List.map_cons, List.map_nil, List.cons.injEq, and_true] at hfr
  refine bodyPost_ret (v := .slice oa n oc) ?_ rfl hR
  simp [results, Tryd.results22, go_sem, hfr]

/-- What a call leaves that answers a row of bytes of its own. -/
def OutEnd (w : World) (l : List UInt8) (e : Ending) (w' : World) : Prop :=
  ∃ (oa : Option Addr) (oc : Nat), e = .returned (.slice oa l.length oc) ∧ OutB w.heap.size [] oa oc l w' ∧ Below w.heap.size w w'

/-- The order's place. -/
theorem pyd_place {Q : Exit → Act → World → Prop} {w0 : World} {B bx : Nat} {oa : Option Addr} {oc : Nat} {out : List UInt8} (a : Act) (w : World) {f : FrM} {sa : Option Addr} {sc : Nat} (h : Py w0 B bx (frC f sa sc) oa oc out w)
    (f0 : 0 ≤ f.flags) (f1 : f.flags ≤ 255) (d0 : 0 ≤ f.dep) (d1 : f.dep ≤ 2147483647) (g0 : 0 ≤ f.weight) (g1 : f.weight ≤ 255) (hlen : out.length ≤ 900000000)
    (ha : Fr.Is 116 [(1, .pointer (some ⟨bx, 0, none⟩)), (3, .slice oa out.length oc)] a)
    (hQ : ∀ a' w' oa' oc' Z, Z = out ++ (if placedB f then placeL f else []) → Fr.Is 116 [(1, .pointer (some ⟨bx, 0, none⟩)), (3, .slice oa' Z.length oc')] a' → Py w0 B bx (frC f sa sc) oa' oc' Z w' → Q .normal a' w') :
    (Fr.navL (Fr.tail Tryd.f22 3)).wp Tryd.prog Q a w := by
  conv => arg 2; whnf
  refine wp_seq ?_
  refine pyd_r4 a w h rfl f0 f1 ha (Lib.hid (fun a1 w1 h1 P1 => ?_))
  cases hp : placedB f with
  | false =>
    rw [hp] at h1
    simp only [hp] at hQ
    refine wp_cond_false (h1.get (i := 31) (v := .bool false) (by simp)) ?_
    refine wp_skip ?_
    exact hQ _ _ _ _ _ (by simp) (h1.less (by simp)) P1
  | true =>
    rw [hp] at h1
    simp only [hp] at hQ
    refine wp_cond_true (h1.get (i := 31) (v := .bool true) (by simp)) ?_
    refine wp_seq ?_
    refine pyd_r5 (v := f.dep) a1 w1 P1 rfl (h1.less (by simp)) (Lib.hid (fun a2 h2 => ?_))
    refine wp_seq (wp_seq ?_)
    refine pyd_r6 (n := f.dep) (b := f.sole) a2 w1 P1 rfl h2 (Lib.hid (fun a3 h3 => ?_))
    have hfin : ∀ a3, Fr.Is 116 [(1, .pointer (some ⟨bx, 0, none⟩)), (3, .slice oa out.length oc), (4, .int .i64 (f.dep + (if f.sole then 2147483648 else 0)))] a3 → (Fr.reg Tryd.f22 8).wp Tryd.prog Q a3 w1 := fun a3 h3 => by
      refine pyd_r8 (v := f.weight) a3 w1 P1 rfl g0 g1 (by split <;> omega) (by split <;> omega) hlen h3 (Lib.hid (fun a4 w4 oa4 oc4 Z hZ h4 P4 => ?_))
      exact hQ a4 w4 oa4 oc4 Z (by rw [hZ.out, placeL]; simp) h4 P4
    cases hs : f.sole with
    | false =>
      rw [hs] at h3
      refine wp_cond_false (h3.get (i := 35) (v := .bool false) (by simp)) ?_
      refine wp_skip ?_
      exact hfin a3 (by rw [hs]; simpa using h3.less (by simp))
    | true =>
      rw [hs] at h3
      refine wp_cond_true (h3.get (i := 35) (v := .bool true) (by simp)) ?_
      refine pyd_r7 (oa := oa) (oc := oc) (out := out) (n := f.dep) a3 w1 P1 d0 d1 (h3.less (by simp)) (Lib.hid (fun a4 h4 => ?_))
      exact hfin a4 (by rw [hs]; simpa using h4)

set_option maxHeartbeats 2000000 in
theorem rpayload_any (f : FrM) (sa : Option Addr) (sc : Nat) (w : World) (hok : FrOk f sa sc w) (hr : rangesB f = true) (hd : f.data.size ≤ 1000000) (hn : f.sets.length ≤ 1000000) :
    Calls Tryd.prog 22 #[frV f sa sc] w (OutEnd w (payL f)) := by
  simp only [rangesB, Bool.and_eq_true, decide_eq_true_eq, List.all_eq_true] at hr
  obtain ⟨⟨t0, t1, f0, f1, p0, p1, g0, g1, s0, s1, l0, l1, d0, d1, i0, i1, c0, c1⟩, hs⟩ := hr
  unfold frV
  go_enter Tryd.func22, Tryd.ntmps22
  refine wp_seq ?_
  refine pyd_r0 (cs := frC f sa sc) _ w (Fr.Is.mk rfl rfl) (Lib.hid (fun a1 h1 => ?_))
  have V1 : (w.alloc (.cells (frC f sa sc) 24)).heap[w.heap.size]? = some (.cells (frC f sa sc) 24 (0, 0)) := heap_alloc_new w _
  have b1 : Below w.heap.size w (w.alloc (.cells (frC f sa sc) 24)) := (Below.refl _ _).alloc (Nat.le_refl _) _
  generalize w.alloc (.cells (frC f sa sc) 24) = w1 at V1 b1 ⊢
  refine wp_seq ?_
  refine pyd_r1 a1 w1 h1 (Lib.hid (fun a2 h2 => ?_))
  have P1 : Py w w.heap.size w.heap.size (frC f sa sc) none 0 [] w1 := ⟨V1, OutB.bare _ _ _, Std.of_below b1, Nat.le_refl _⟩
  clear V1 b1 h1
  have q7 : f.data.data.toList.length = f.data.size := by simp
  have q6 := setL_len f.sets
  refine wp_seq ?_
  refine pyd_pad a2 w1 P1 rfl t0 f0 f1 p0 p1 (by simp) h2 (Lib.hid (fun a3 w3 oa3 oc3 Z3 hZ3 h3 P3 => ?_))
  have e3 : Z3.length ≤ 1 := by rw [hZ3.out]; split <;> simp
  refine wp_seq ?_
  refine pyd_place a3 w3 P3 f0 f1 d0 d1 g0 g1 (by omega) h3 (fun a4 w4 oa4 oc4 Z4 hZ4 h4 P4 => ?_)
  have e4 : Z4.length ≤ 6 := by rw [hZ4, List.length_append]; split <;> simp [place_len] <;> omega
  refine wp_seq ?_
  refine pyd_sets a4 w4 P4 rfl f.sets sa sc rfl hok.row hn hs (by omega) h4 (Lib.hid (fun a5 w5 oa5 oc5 Z5 hZ5 h5 P5 => ?_))
  have e5 : Z5.length ≤ 6000006 := by rw [hZ5.out, List.length_append]; omega
  refine wp_seq ?_
  refine pyd_last (t := f.type) (v := f.last) a5 w5 P5 rfl rfl l0 (by omega) (by omega) h5 (Lib.hid (fun a6 w6 oa6 oc6 Z6 hZ6 h6 P6 => ?_))
  have e6 : Z6.length ≤ 6000010 := by rw [hZ6.out, List.length_append]; split <;> simp [putL_length] <;> omega
  refine wp_seq ?_
  refine pyd_code (t := f.type) (v := f.code) a6 w6 P6 rfl rfl c0 (by omega) (by omega) h6 (Lib.hid (fun a7 w7 oa7 oc7 Z7 hZ7 h7 P7 => ?_))
  have e7 : Z7.length ≤ 6000014 := by rw [hZ7.out, List.length_append]; split <;> simp [putL_length] <;> omega
  refine wp_seq ?_
  refine pyd_inc (t := f.type) (v := f.inc) a7 w7 P7 rfl rfl i0 (by omega) (by omega) h7 (Lib.hid (fun a8 w8 oa8 oc8 Z8 hZ8 h8 P8 => ?_))
  have e8 : Z8.length ≤ 6000018 := by rw [hZ8.out, List.length_append]; split <;> simp [putL_length] <;> omega
  refine wp_seq ?_
  refine pyd_data a8 w8 P8 f.data rfl (by rw [List.length_append]; omega) h8 (Lib.hid (fun a9 w9 oa9 oc9 Z9 hZ9 h9 P9 => ?_))
  have e9 : Z9.length ≤ 7000018 := by rw [hZ9.out, List.length_append]; omega
  refine wp_seq ?_
  refine pyd_zero (v := f.pad) (n := f.pad.toNat) a9 w9 P9 (by omega) rfl (by omega) (by omega) h9 (Lib.hid (fun a10 w10 oa10 oc10 Z10 hZ10 h10 P10 => ?_))
  refine wp_seq ?_
  refine pyd_r25 (oa := oa10) (n := Z10.length) (oc := oc10) a10 w10 (h10.less (by simp)) (Lib.hid (fun a11 h11 => ?_))
  refine wp_ret ?_
  try dsimp only [Exit.then]
  refine pyd_ret h11 ?_
  have hZ : Z10 = payL f := by
    rw [hZ10.out, hZ9.out, hZ8.out, hZ7.out, hZ6.out, hZ5.out, hZ4, hZ3.out, payL, dataL]
    simp only [List.append_assoc, List.nil_append]
  subst hZ
  exact ⟨oa10, oc10, rfl, ⟨P10.out.row, fun b o s e => ⟨(P10.out.apart b o s e).1, by simp⟩⟩, P10.std.below rfl⟩
end Go.Proofs.YtdilgkkkhmmffaaDoor

namespace Go.Proofs.YtdilgkkkhmmffaaDoor
open Go.RowKit
open Mem Gen Go.Proofs.YtdilgkkkhmmffaaDoor.Obj
set_option linter.unusedVariables false
set_option linter.unusedSimpArgs false
namespace Wr
open Rw
theorem flat_bvs (l : List UInt8) : flat EBy l = bvs l := flat_by l
/-- A row that a call made is a row of the caller's own. -/
theorem OutB.of_made {B : Nat} {L : List Nat} {w' : World} {base : Nat} {ad : Option Addr} {cap n : Nat} {l : List UInt8} (h : w'.ownsRow base 5 1 (.slice ad n cap) l.length (bvs l)) (hB : B ≤ base) (hL : ∀ k ∈ L, k < base) : OutB B L ad cap l w' :=
  ⟨QRow.of_own (E := EBy) (by rw [flat_bvs]; exact h), fun b o s e => by
    subst e
    have h1 : base ≤ b := by
      obtain ⟨_, h0 | ⟨g, c', cur, hv, hg, _⟩⟩ := h
      · cases h0.1
      · simp only [Value.slice.injEq, Option.some.injEq, Addr.mk.injEq] at hv
        rw [hv.1.1]; exact hg
    exact ⟨by omega, fun hm => by have := hL b hm; omega⟩⟩
section
variable {P : Program} {t : TypeId}
theorem run_bytes0 (w : World) (ty : TypeId) (ht : P.underlying t = some (.slice 5)) (hi : (P.info? 5).map (fun i => (i.zero, i.size, i.bytes)) = some (some (.int .u8 0), 1, 1))
    {B : Nat} {L : List Nat} {oa : Option Addr} {oc : Nat} {out : List UInt8} (h : OutB B L oa oc out w) (hB : B ≤ w.heap.size) (hLw : ∀ k ∈ L, k < w.heap.size) (a2 : Option Addr) (l2 : List UInt8) (n2 c : Nat) (hn2 : n2 = l2.length) (hrb : RB w a2 l2)
    (l3 : List UInt8) (hl3 : l3 = out ++ l2) (hlen : l3.length ≤ 140737488355328) (n : Nat) (hn : n = out.length) :
    ∃ (oa' : Option Addr) (oc' : Nat) (w' : World), (Builtin.append_ #[t, t] ty #[.slice oa n oc, .slice a2 n2 c]).run P w = .ok (.slice oa' l3.length oc') w' ∧ Grew B L w oa oa' oc' l3 w' := by
  by_cases hne : l2 ≠ []
  · exact run_bytes w ty ht hi h hB hLw a2 l2 n2 c hn2 hne hrb l3 hl3 hlen n hn
  · have hl2 : l2 = [] := by simpa using hne
    subst hl2
    simp only [List.append_nil] at hl3
    subst hl3
    have hn0 : n2 = 0 := hn2
    subst hn0 hn
    obtain ⟨i, hi, hi3⟩ := Option.map_eq_some_iff.1 hi
    simp only [Prod.mk.injEq] at hi3
    obtain ⟨hz, hsize, hby⟩ := hi3
    have hsrc : Src P i.size t (.slice a2 0 c) 0 [] w := by
      cases a2 with
      | none => exact Src.ofNil w ht c
      | some a => exact Src.ofSlice w ht a 0 c [] (by simp) (fun j u e => by simp at e) (fun u e => by cases e)
    have hG : Grew B L w oa oa oc l3 w := grew_of h hB hLw h.row ⟨rfl, rfl, rfl, Nat.le_refl _, fun _ _ _ => rfl⟩ (fun b o s e => by
      obtain ⟨b', o', e', _⟩ := h.row.lies _ e
      simp only [Addr.mk.injEq] at e'
      obtain ⟨rfl, rfl, rfl⟩ := e'
      exact .inl ⟨_, e⟩)
    refine ⟨oa, oc, w, ?_, hG⟩
    have hle := h.row.le
    cases oa with
    | none =>
      have h0 := h.row.nil rfl
      subst h0
      have hlo : l3 = [] := List.eq_nil_of_length_eq_zero (by omega)
      subst hlo
      have hc0 := hsrc.cells
      simp [Builtin.append_, run_underlying ht, sizeOf, typeInfo, hi, Builtin.lenOf, hc0]
    | some a =>
      obtain ⟨b, off, rfl, hb, hc, hsp⟩ := h.row.lies a rfl
      exact run_append_room_src (P := P) w t t ty 5 i ht hi b off l3.length oc (.slice a2 0 c) 0 [] hsrc (by simpa using hle) (fun j hj => by simp at hj) (fun j hj => by simp at hj)
variable {w : World} {ops : Array Oper} {o : Oper} {a : Act} {Q : Exit → Act → World → Prop}
/-- As a step of a walk. -/
theorem wl_bytes0 {rest : List Oper} (ht : P.underlying t = some (.slice 5)) (hi : (P.info? 5).map (fun i => (i.zero, i.size, i.bytes)) = some (some (.int .u8 0), 1, 1))
    (hgd : o.guard = none) (s x : Operand) (ho : o.op = .call { callee := .builtin .append, args := #[s, x], argTypes := #[t, t] })
    {B : Nat} {L : List Nat} {oa : Option Addr} {oc n : Nat} {out : List UInt8} (hs : a.eval s = .slice oa n oc) (hn : n = out.length) (h : OutB B L oa oc out w) (hB : B ≤ w.heap.size) (hLw : ∀ k ∈ L, k < w.heap.size)
    {a2 : Option Addr} {l2 : List UInt8} {n2 c : Nat} (hx : a.eval x = .slice a2 n2 c) (hn2 : n2 = l2.length) (hrb : RB w a2 l2)
    (l3 : List UInt8) (hl3 : l3 = out ++ l2) (hlen : l3.length ≤ 140737488355328)
    (hK : ∀ (oa' : Option Addr) (oc' : Nat) w', Hid (Grew B L w oa oa' oc' l3 w') → wpList P ops Q rest (a.put o.dst (.slice oa' l3.length oc')) w') :
    wpList P ops Q (o :: rest) a w := by
  obtain ⟨oa', oc', w', hrun, hG⟩ := run_bytes0 (P := P) w o.type ht hi h hB hLw a2 l2 n2 c hn2 hrb l3 hl3 hlen n hn
  refine wpList_step fun K hK2 => ?_
  have hw : Region.wanted o (yielded ops a.tmps) = true := by simp [Region.wanted, hgd]
  rw [if_pos hw]
  unfold Oper.wp
  simp [execOp, ho, resolve, invoke, builtin, hs, hx, hrun, Result.andThen]
  exact hK2 _ _ (hK _ _ _ (Lib.hid hG))
end
end Wr
end Go.Proofs.YtdilgkkkhmmffaaDoor

namespace Go.Proofs.YtdilgkkkhmmffaaDoor
open Go.RowKit
open Fra Oct Arg Mem Gen Wr Go.Proofs.YtdilgkkkhmmffaaDoor.Obj
set_option linter.unusedVariables false
set_option linter.unusedSimpArgs false

theorem rb_two (w : World) (t : TypeId) (v u : Int) (c d : UInt8) (h : v = (c.toNat : Int)) (k : u = (d.toNat : Int)) : RB (w.alloc (.cells #[.int .u8 v, .int .u8 u] t)) (some ⟨w.heap.size, 0, none⟩) [c, d] := by
  subst h k
  exact .inr ⟨w.heap.size, 0, rfl, fun i hi => by
    have hi0 : i = 0 ∨ i = 1 := by simp at hi; omega
    rcases hi0 with rfl | rfl
    · simp
    · simp⟩

set_option maxRecDepth 100000 in
set_option maxHeartbeats 4000000 in
theorem rfput_no (f : FrM) (sa : Option Addr) (sc : Nat) (w : World) (hok : FrOk f sa sc w) (hm : mayB f = false) :
    Calls Tryd.prog 12 #[frV f sa sc] w (PutEnd ([], 1) w) := by
  have HW := Lib.hid (fun v (hv : Below w.heap.size w v) => rmay_any f sa sc v (hok.below hv))
  rw [hm] at HW
  clear hok hm
  have hbx := heap_alloc_new w (.cells (frC f sa sc) 24)
  have hb1 := bel_alloc w (.cells (frC f sa sc) 24)
  unfold frV frC at *
  go_enter Tryd.func12, Tryd.ntmps12
  go_wp2_with fail
  generalize w.alloc (.cells #[.int .i64 f.type, .int .i64 f.flags, .int .i64 f.stream, .string f.data, .int .i64 f.pad, .slice sa f.sets.length sc, .int .i64 f.code, .int .i64 f.last, .int .i64 f.inc, .int .i64 f.dep, .int .i64 f.weight, .bool f.sole] 24) = w1 at hbx hb1 ⊢
  have HB1 := Lib.hid hb1
  refine (HW.out w1 hb1).mono ?_
  rintro e w2 ⟨rfl, b2⟩
  have HB2 := Lib.hid (below_step hb1 b2)
  clear hb1 b2 hbx
  go_wp2_with fail
  go_ret2
  exact ⟨none, 0, rfl, OutB.bare _ _ _, HB2.out⟩

set_option maxRecDepth 100000 in
set_option maxHeartbeats 4000000 in
theorem rfput_yes (f : FrM) (sa : Option Addr) (sc : Nat) (w : World) (hok : FrOk f sa sc w) (hd : f.data.size ≤ 1000000) (hn : f.sets.length ≤ 1000000) (hm : mayB f = true) :
    Calls Tryd.prog 12 #[frV f sa sc] w (PutEnd (putF f) w) := by
  have hr : rangesB f = true := by
    simp only [mayB, Bool.and_eq_true] at hm; exact hm.1.1.1.1.1.1.1
  have hr0 := hr
  simp only [rangesB, Bool.and_eq_true, decide_eq_true_eq, List.all_eq_true] at hr0
  obtain ⟨⟨t0, t1, f0, f1, p0, p1, g0, g1, s0, s1, l0, l1, d0, d1, i0, i1, c0, c1⟩, hs⟩ := hr0
  have HW := Lib.hid (fun v (hv : Below w.heap.size w v) => rmay_any f sa sc v (hok.below hv))
  have HZ := Lib.hid (fun v (hv : Below w.heap.size w v) => rpayload_any f sa sc v (hok.below hv) hr hd hn)
  rw [hm] at HW
  obtain ⟨N, hN⟩ : ∃ N, N = (payL f).length := ⟨_, rfl⟩
  have hNb : N ≤ 8000000 := by
    have hpl := pay_len f (partsM f.type f.flags) p0
    rw [pay_eq f hm] at hpl
    have hal : aheadN (partsM f.type f.flags) ≤ 18 := by
      unfold aheadN; repeat' split
      all_goals omega
    omega
  have HPut : Hid (putF f = if 16777215 < N then ([], 2) else (wholeL f, 0)) := Lib.hid (by rw [putF, hm, hN]; simp)
  have hlt : ¬ 16777215 < N := by omega
  have HPut : putF f = (wholeL f, 0) := by rw [HPut.out, if_neg hlt]
  rw [HPut]
  clear HPut hlt
  have HN := Lib.hid hN
  obtain ⟨Y, hY⟩ : ∃ Y, Y = payL f := ⟨_, rfl⟩
  rw [← hY] at HZ HN
  have HWh : Hid (wholeL f = putL N 3 ++ [bt f.type, bt f.flags] ++ putL f.stream 4 ++ Y) := Lib.hid (by rw [wholeL, ← hY, ← HN.out]; simp)
  have HP3 := Lib.hid (fun v => rput_yes (N : Int) 3 v (by omega) (by omega) (by decide) (by decide))
  have HP4 := Lib.hid (fun v => rfour_any f.stream v s0 (by omega))
  have hT := bt_val f.type t0 t1
  have hF := bt_val f.flags f0 f1
  have HRT := Lib.hid (fun u => rb_two u 5 f.type f.flags (bt f.type) (bt f.flags) hT.symm hF.symm)
  have HC := Lib.hid (fun (v : World) (h : v.heap[w.heap.size]? = some (Obj.cells (frC f sa sc) 24 (0, 0))) => cells12 h)
  have hinfo := Lib.hid info_u8
  obtain ⟨Y3, hY3⟩ : ∃ Y, Y = putL (N : Int) 3 := ⟨_, rfl⟩
  obtain ⟨Y4, hY4⟩ : ∃ Y, Y = putL f.stream 4 := ⟨_, rfl⟩
  have HL3 : Hid (Y3.length = 3) := Lib.hid (by rw [hY3, putL_length])
  have HL4 : Hid (Y4.length = 4) := Lib.hid (by rw [hY4, putL_length])
  rw [← hY3] at HP3 HWh
  rw [← hY4] at HP4 HWh
  obtain ⟨Z1, hZ1⟩ : ∃ Z, Z = Y3 ++ [bt f.type, bt f.flags] := ⟨_, rfl⟩
  obtain ⟨Z2, hZ2⟩ : ∃ Z, Z = Z1 ++ Y4 := ⟨_, rfl⟩
  rw [← hZ1, ← hZ2] at HWh
  have e1 : Z1.length ≤ 10 := by rw [hZ1, List.length_append, HL3.out]; simp
  have e2 : Z2.length ≤ 20 := by rw [hZ2, List.length_append, HL4.out]; omega
  have e3 : (wholeL f).length ≤ 140737488355328 := by rw [HWh.out, List.length_append, ← HN.out]; omega
  have HZ1 := Lib.hid hZ1
  have HZ2 := Lib.hid hZ2
  have HNe4 : Hid (Y4 ≠ []) := Lib.hid (fun e => by have := HL4.out; rw [e] at this; simp at this)
  have hb1 := bel_alloc w (.cells (frC f sa sc) 24)
  have hbx := heap_alloc_new w (.cells (frC f sa sc) 24)
  generalize wholeL f = X at HWh e3 ⊢
  clear hok hm hr hs hN hY hY3 hY4 hZ1 hZ2 hd hn c0 c1 l0 l1 d0 d1 i0 i1 p0 p1 g0 g1 hT hF
  unfold frV at HW HZ ⊢
  unfold frC at HW HZ hb1 ⊢
  have HBX := Lib.hid hbx
  clear hbx
  unfold frC at HBX
  go_enter Tryd.func12, Tryd.ntmps12
  go_wp2_with fail
  generalize w.alloc (.cells #[.int .i64 f.type, .int .i64 f.flags, .int .i64 f.stream, .string f.data, .int .i64 f.pad, .slice sa f.sets.length sc, .int .i64 f.code, .int .i64 f.last, .int .i64 f.inc, .int .i64 f.dep, .int .i64 f.weight, .bool f.sole] 24) = w1 at HBX hb1 ⊢
  have HB1 := Lib.hid hb1
  refine (HW.out w1 hb1).mono ?_
  rintro e w2 ⟨rfl, b2⟩
  have HB2 := Lib.hid (below_step hb1 b2)
  have HX2 := Lib.hid (block_below b2 HBX.out)
  obtain ⟨x0, x1, x2, x3, x4, x5, x6, x7, x8, x9, x10, x11⟩ := HC.out _ HX2.out
  clear hb1 b2
  go_wp2_with fail
  refine (HZ.out w2 HB2.out).mono ?_
  rintro e w3 ⟨pa, pc, rfl, hpo, b3⟩
  have HB3 := Lib.hid (below_step HB2.out b3)
  have HX3 := Lib.hid (block_below b3 HX2.out)
  have HPO := Lib.hid hpo.rb
  rw [← HN.out]
  clear x0 x1 x2 x3 x4 x5 x6 x7 x8 x9 x10 x11 b3 hpo
  have hlt : ¬ (N : Int) > 16777215 := by omega
  go_wp2_with fail
  refine (HP3.out w3).mono ?_
  rintro e w4 ⟨ad, cp, rfl, hown, b4⟩
  have HO4 : Hid (OutB w3.heap.size [] ad cp Y3 w4) := Lib.hid (OutB.of_made hown.out (Nat.le_refl _) (fun k hk => by cases hk))
  have HO5 := Lib.hid (HO4.out.below (bel_alloc w4 (.cells #[.int .u8 f.type, .int .u8 f.flags] 5)))
  have HR5 := Lib.hid (HRT.out w4)
  have HB5 := Lib.hid (below_step b4 (bel_alloc w4 (.cells #[.int .u8 f.type, .int .u8 f.flags] 5)))
  have HS5 := Lib.hid (Std.of_below (B := w3.heap.size) (L := []) HB5.out)
  obtain ⟨x0, x1, _⟩ := HC.out _ (block_below b4 HX3.out)
  clear hown b4 hlt
  go_wp2_with (at_builtin; refine wl_bytes Tryd.underlying27 hinfo.out rfl (.tmp 18) (.tmp 25) rfl rfl rfl HO5.out HB5.out.size (fun k hk => by cases hk) rfl rfl (fun e => by cases e) HR5.out Z1 HZ1.out (Nat.le_trans e1 (by decide)) ?_; intro oa6 oc6 w6 hG; have HO6 := Lib.hid hG.out.out; have HS6 := Lib.hid (HS5.out.trans hG.out.std); have HB6 := Lib.hid (Std.below HS6.out rfl); have y2 := (HC.out _ (block_below HB6.out HX3.out)).2.2.1; clear hG)
  refine (HP4.out w6).mono ?_
  rintro e w7 ⟨ad2, cp2, rfl, hown, b7⟩
  have HO7 := Lib.hid (HO6.out.below b7)
  have HS7 := Lib.hid (HS6.out.then b7)
  have HR7 := Lib.hid (RB.of_own hown.out)
  have HB7 := Lib.hid (Std.below HS7.out rfl)
  clear hown b7 y2
  go_wp2_with (first
    | (at_builtin; refine wl_bytes Tryd.underlying27 hinfo.out rfl (.tmp 27) (.tmp 30) rfl rfl rfl HO7.out HB7.out.size (fun k hk => by cases hk) rfl rfl HNe4.out HR7.out Z2 HZ2.out (Nat.le_trans e2 (by decide)) ?_; intro oa8 oc8 w8 hG; have HO8 := Lib.hid hG.out.out; have HS8 := Lib.hid (HS7.out.trans hG.out.std); have HB8 := Lib.hid (Std.below HS8.out rfl); have HP8 := Lib.hid (HPO.out.below HB8.out); clear hG)
    | (at_builtin; refine wl_bytes0 Tryd.underlying27 hinfo.out rfl (.tmp 32) (.tmp 33) rfl rfl rfl HO8.out HB8.out.size (fun k hk => by cases hk) rfl HN.out HP8.out X HWh.out e3 ?_; intro oa9 oc9 w9 hG; have HO9 := Lib.hid hG.out.out; have HS9 := Lib.hid (HS8.out.trans hG.out.std); have HB9 := Lib.hid (Std.below HS9.out rfl); clear hG))
  go_ret2
  exact ⟨oa9, oc9, rfl, ⟨HO9.out.row, fun b o s e => ⟨Nat.le_trans HB3.out.size (HO9.out.apart b o s e).1, by simp⟩⟩, below_step HB3.out HB9.out⟩

theorem rfput_any (f : FrM) (sa : Option Addr) (sc : Nat) (w : World) (hok : FrOk f sa sc w) (hd : f.data.size ≤ 1000000) (hn : f.sets.length ≤ 1000000) :
    Calls Tryd.prog 12 #[frV f sa sc] w (PutEnd (putF f) w) := by
  cases h : mayB f with
  | false =>
    have hp : putF f = ([], 1) := by rw [putF, if_pos h]
    rw [hp]; exact rfput_no f sa sc w hok h
  | true => exact rfput_yes f sa sc w hok hd hn h
end Go.Proofs.YtdilgkkkhmmffaaDoor
