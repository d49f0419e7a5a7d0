/- Layer 6: the payload of the program's writing. Layer 6: the payload of the program's writing: its settings, the whole. Layer 6: the program's bare. -/
import Derived.Test.YtdilgkkkhmmffaaDoorGP04
import Derived.LoopTactic
import Derived.BigGuardPart
import Derived.BigCall
import Derived.Laws.Closers25
set_option linter.unusedVariables false
set_option linter.unusedSimpArgs false
namespace Go.Proofs.YtdilgkkkhmmffaaDoor
open Go.RowKit
open Fra Oct Arg Mem Gen Wr Go.Proofs.YtdilgkkkhmmffaaDoor.Obj
set_option linter.unusedVariables false
set_option linter.unusedSimpArgs false

structure PSt (w0 : World) (B : Nat) (L : List Nat) (wb bx pb : Nat) (cs ps : Array Value) (out : List UInt8) (w : World) : Prop where
  wat : Wat w0 B (pb :: bx :: L) wb out w
  fb : w.heap[bx]? = some (.cells cs 24 (0, 0))
  pb : w.heap[pb]? = some (.cells ps 64 (0, 0))
theorem PSt.step {w0 w w' : World} {B : Nat} {L : List Nat} {wb bx pb : Nat} {cs ps : Array Value} {out out' : List UInt8} (h : PSt w0 B L wb bx pb cs ps out w) (hw : Wat w0 B (pb :: bx :: L) wb out' w') (hk : Kp (pb :: bx :: L) w w') : PSt w0 B L wb bx pb cs ps out' w' :=
  ⟨hw, (hk bx (by simp)).trans h.fb, (hk pb (by simp)).trans h.pb⟩
theorem PSt.grow {w0 w w' : World} {B : Nat} {L : List Nat} {wb bx pb : Nat} {cs ps : Array Value} {out out' : List UInt8} (h : PSt w0 B L wb bx pb cs ps out w) (h1 : FWt B (pb :: bx :: L) wb out' w') (h2 : Std B (pb :: bx :: L) w w') : PSt w0 B L wb bx pb cs ps out' w' :=
  h.step (h.wat.next h1 h2).1 (h.wat.next h1 h2).2
theorem PSt.below {w0 w w' : World} {B : Nat} {L : List Nat} {wb bx pb : Nat} {cs ps : Array Value} {out : List UInt8} (h : PSt w0 B L wb bx pb cs ps out w) (hb : Below w.heap.size w w') : PSt w0 B L wb bx pb cs ps out w' :=
  ⟨h.wat.below hb, block_below hb h.fb, block_below hb h.pb⟩

set_option maxRecDepth 100000 in
set_option maxHeartbeats 1000000 in
theorem pay_pad {Q : Exit → Act → World → Prop} {w0 : World} {B : Nat} {L : List Nat} {wb bx pb : Nat} {cs ps : Array Value} {out : List UInt8} (a : Act) (w : World) (h : PSt w0 B L wb bx pb cs ps out w) (b : Bool) (v : Int) (hps : ps[0]? = some (.bool b)) (hcs : cs[4]? = some (.int .i64 v)) (h0 : 0 ≤ v) (h1 : v < 4294967296) (hlen : out.length ≤ 900000000)
    (ha : Fr.Is 77 [(0, .pointer (some ⟨wb, 0, none⟩)), (3, .pointer (some ⟨bx, 0, none⟩)), (4, .pointer (some ⟨pb, 0, none⟩))] a)
    (hQ : Hid (∀ a' w', Fr.Is 77 [(0, .pointer (some ⟨wb, 0, none⟩)), (3, .pointer (some ⟨bx, 0, none⟩)), (4, .pointer (some ⟨pb, 0, none⟩))] a' → PSt w0 B L wb bx pb cs ps (out ++ if b then putL v 1 else []) w' → Q .normal a' w')) :
    (Fr.navL (Fr.tail Tryd.f20 2)).wp Tryd.prog Q a w := by
  have H := Lib.hid h
  have c1 := (cell_at h.pb 0).trans hps
  have c2 := (cell_at h.fb 4).trans hcs
  clear h hps hcs
  obtain ⟨fr, rfl, hfr⟩ := ha.lit
  simp only [List.map_cons, List.map_nil, List.cons.injEq, and_true] at hfr
  conv => arg 2; whnf
  simp only [List.range, List.range.loop, List.map_cons, List.map_nil, hfr]
  clear hfr ha
  cases b
  · go_wp2_with fail
    exact hQ.out _ _ (Fr.Is.mk rfl rfl) (by simpa using H.out)
  · go_wp2_with fail
    refine (wat_num H.out.wat v 1 (by decide) (by decide) h0 h1 (by omega)).mono ?_
    rintro e w2 ⟨rfl, h2, k2⟩
    have H2 := Lib.hid (H.out.step h2 k2)
    clear h2 k2 c1 c2
    go_wp2_with fail
    exact hQ.out _ _ (Fr.Is.mk rfl rfl) H2.out

set_option maxRecDepth 100000 in
set_option maxHeartbeats 1000000 in
theorem pay_last {Q : Exit → Act → World → Prop} {w0 : World} {B : Nat} {L : List Nat} {wb bx pb : Nat} {cs ps : Array Value} {out : List UInt8} (a : Act) (w : World) (h : PSt w0 B L wb bx pb cs ps out w) (b : Bool) (v : Int) (hps : ps[2]? = some (.bool b)) (hcs : cs[7]? = some (.int .i64 v)) (h0 : 0 ≤ v) (h1 : v < 4294967296) (hlen : out.length ≤ 900000000)
    (ha : Fr.Is 77 [(0, .pointer (some ⟨wb, 0, none⟩)), (3, .pointer (some ⟨bx, 0, none⟩)), (4, .pointer (some ⟨pb, 0, none⟩))] a)
    (hQ : Hid (∀ a' w', Fr.Is 77 [(0, .pointer (some ⟨wb, 0, none⟩)), (3, .pointer (some ⟨bx, 0, none⟩)), (4, .pointer (some ⟨pb, 0, none⟩))] a' → PSt w0 B L wb bx pb cs ps (out ++ if b then putL v 4 else []) w' → Q .normal a' w')) :
    (Fr.navL (Fr.tail Tryd.f20 4)).wp Tryd.prog Q a w := by
  have H := Lib.hid h
  have c1 := (cell_at h.pb 2).trans hps
  have c2 := (cell_at h.fb 7).trans hcs
  clear h hps hcs
  obtain ⟨fr, rfl, hfr⟩ := ha.lit
  simp only [List.map_cons, List.map_nil, List.cons.injEq, and_true] at hfr
  conv => arg 2; whnf
  simp only [List.range, List.range.loop, List.map_cons, List.map_nil, hfr]
  clear hfr ha
  cases b
  · go_wp2_with fail
    exact hQ.out _ _ (Fr.Is.mk rfl rfl) (by simpa using H.out)
  · go_wp2_with fail
    refine (wat_num H.out.wat v 4 (by decide) (by decide) h0 h1 (by omega)).mono ?_
    rintro e w2 ⟨rfl, h2, k2⟩
    have H2 := Lib.hid (H.out.step h2 k2)
    clear h2 k2 c1 c2
    go_wp2_with fail
    exact hQ.out _ _ (Fr.Is.mk rfl rfl) H2.out

set_option maxRecDepth 100000 in
set_option maxHeartbeats 1000000 in
theorem pay_code {Q : Exit → Act → World → Prop} {w0 : World} {B : Nat} {L : List Nat} {wb bx pb : Nat} {cs ps : Array Value} {out : List UInt8} (a : Act) (w : World) (h : PSt w0 B L wb bx pb cs ps out w) (b : Bool) (v : Int) (hps : ps[3]? = some (.bool b)) (hcs : cs[6]? = some (.int .i64 v)) (h0 : 0 ≤ v) (h1 : v < 4294967296) (hlen : out.length ≤ 900000000)
    (ha : Fr.Is 77 [(0, .pointer (some ⟨wb, 0, none⟩)), (3, .pointer (some ⟨bx, 0, none⟩)), (4, .pointer (some ⟨pb, 0, none⟩))] a)
    (hQ : Hid (∀ a' w', Fr.Is 77 [(0, .pointer (some ⟨wb, 0, none⟩)), (3, .pointer (some ⟨bx, 0, none⟩)), (4, .pointer (some ⟨pb, 0, none⟩))] a' → PSt w0 B L wb bx pb cs ps (out ++ if b then putL v 4 else []) w' → Q .normal a' w')) :
    (Fr.navL (Fr.tail Tryd.f20 5)).wp Tryd.prog Q a w := by
  have H := Lib.hid h
  have c1 := (cell_at h.pb 3).trans hps
  have c2 := (cell_at h.fb 6).trans hcs
  clear h hps hcs
  obtain ⟨fr, rfl, hfr⟩ := ha.lit
  simp only [List.map_cons, List.map_nil, List.cons.injEq, and_true] at hfr
  conv => arg 2; whnf
  simp only [List.range, List.range.loop, List.map_cons, List.map_nil, hfr]
  clear hfr ha
  cases b
  · go_wp2_with fail
    exact hQ.out _ _ (Fr.Is.mk rfl rfl) (by simpa using H.out)
  · go_wp2_with fail
    refine (wat_num H.out.wat v 4 (by decide) (by decide) h0 h1 (by omega)).mono ?_
    rintro e w2 ⟨rfl, h2, k2⟩
    have H2 := Lib.hid (H.out.step h2 k2)
    clear h2 k2 c1 c2
    go_wp2_with fail
    exact hQ.out _ _ (Fr.Is.mk rfl rfl) H2.out

set_option maxRecDepth 100000 in
set_option maxHeartbeats 1000000 in
theorem pay_inc {Q : Exit → Act → World → Prop} {w0 : World} {B : Nat} {L : List Nat} {wb bx pb : Nat} {cs ps : Array Value} {out : List UInt8} (a : Act) (w : World) (h : PSt w0 B L wb bx pb cs ps out w) (b : Bool) (v : Int) (hps : ps[4]? = some (.bool b)) (hcs : cs[8]? = some (.int .i64 v)) (h0 : 0 ≤ v) (h1 : v < 4294967296) (hlen : out.length ≤ 900000000)
    (ha : Fr.Is 77 [(0, .pointer (some ⟨wb, 0, none⟩)), (3, .pointer (some ⟨bx, 0, none⟩)), (4, .pointer (some ⟨pb, 0, none⟩))] a)
    (hQ : Hid (∀ a' w', Fr.Is 77 [(0, .pointer (some ⟨wb, 0, none⟩)), (3, .pointer (some ⟨bx, 0, none⟩)), (4, .pointer (some ⟨pb, 0, none⟩))] a' → PSt w0 B L wb bx pb cs ps (out ++ if b then putL v 4 else []) w' → Q .normal a' w')) :
    (Fr.navL (Fr.tail Tryd.f20 6)).wp Tryd.prog Q a w := by
  have H := Lib.hid h
  have c1 := (cell_at h.pb 4).trans hps
  have c2 := (cell_at h.fb 8).trans hcs
  clear h hps hcs
  obtain ⟨fr, rfl, hfr⟩ := ha.lit
  simp only [List.map_cons, List.map_nil, List.cons.injEq, and_true] at hfr
  conv => arg 2; whnf
  simp only [List.range, List.range.loop, List.map_cons, List.map_nil, hfr]
  clear hfr ha
  cases b
  · go_wp2_with fail
    exact hQ.out _ _ (Fr.Is.mk rfl rfl) (by simpa using H.out)
  · go_wp2_with fail
    refine (wat_num H.out.wat v 4 (by decide) (by decide) h0 h1 (by omega)).mono ?_
    rintro e w2 ⟨rfl, h2, k2⟩
    have H2 := Lib.hid (H.out.step h2 k2)
    clear h2 k2 c1 c2
    go_wp2_with fail
    exact hQ.out _ _ (Fr.Is.mk rfl rfl) H2.out

set_option maxRecDepth 100000 in
set_option maxHeartbeats 1000000 in
theorem pay_order {Q : Exit → Act → World → Prop} {w0 : World} {B : Nat} {L : List Nat} {wb bx pb : Nat} {cs ps : Array Value} {out : List UInt8} (a : Act) (w : World) (h : PSt w0 B L wb bx pb cs ps out w) (f : FrM) (sa : Option Addr) (sc : Nat) (b : Bool) (hps : ps[1]? = some (.bool b)) (hcs : cs = frC f sa sc) (hf : inRB f = true) (hlen : out.length ≤ 900000000)
    (ha : Fr.Is 77 [(0, .pointer (some ⟨wb, 0, none⟩)), (3, .pointer (some ⟨bx, 0, none⟩)), (4, .pointer (some ⟨pb, 0, none⟩))] a)
    (hQ : Hid (∀ a' w', Fr.Is 77 [(0, .pointer (some ⟨wb, 0, none⟩)), (3, .pointer (some ⟨bx, 0, none⟩)), (4, .pointer (some ⟨pb, 0, none⟩))] a' → PSt w0 B L wb bx pb cs ps (out ++ if b then placeL f else []) w' → Q .normal a' w')) :
    (Fr.navL (Fr.tail Tryd.f20 3)).wp Tryd.prog Q a w := by
  subst hcs
  have H := Lib.hid h
  have c1 := (cell_at h.pb 1).trans hps
  have x0 := cell_at h.fb 0
  have x1 := cell_at h.fb 1
  have x2 := cell_at h.fb 2
  have x3 := cell_at h.fb 3
  have x4 := cell_at h.fb 4
  have x5 := cell_at h.fb 5
  have x6 := cell_at h.fb 6
  have x7 := cell_at h.fb 7
  have x8 := cell_at h.fb 8
  have x9 := cell_at h.fb 9
  have x10 := cell_at h.fb 10
  have x11 := cell_at h.fb 11
  simp only [frC] at x0 x1 x2 x3 x4 x5 x6 x7 x8 x9 x10 x11
  simp only [List.getElem?_toArray, List.getElem?_cons_zero, List.getElem?_cons_succ] at x0 x1 x2 x3 x4 x5 x6 x7 x8 x9 x10 x11
  clear h hps
  obtain ⟨fr, rfl, hfr⟩ := ha.lit
  simp only [List.map_cons, List.map_nil, List.cons.injEq, and_true] at hfr
  conv => arg 2; whnf
  simp only [List.range, List.range.loop, List.map_cons, List.map_nil, hfr]
  clear hfr ha
  cases b
  · go_wp2_with fail
    exact hQ.out _ _ (Fr.Is.mk rfl rfl) (by simpa using H.out)
  · have HO := Lib.hid (porder_any H.out.wat f sa sc hf (by omega))
    unfold frV frC at HO
    go_wp2_with fail
    refine HO.out.mono ?_
    rintro e w2 ⟨rfl, h2, k2⟩
    have H2 := Lib.hid (H.out.step h2 k2)
    clear h2 k2 c1 x0 x1 x2 x3 x4 x5 x6 x7 x8 x9 x10 x11
    go_wp2_with fail
    exact hQ.out _ _ (Fr.Is.mk rfl rfl) H2.out

set_option maxRecDepth 100000 in
set_option maxHeartbeats 1000000 in
theorem pay_data {Q : Exit → Act → World → Prop} {w0 : World} {B : Nat} {L : List Nat} {wb bx pb : Nat} {cs ps : Array Value} {out : List UInt8} (a : Act) (w : World) (h : PSt w0 B L wb bx pb cs ps out w) (d : ByteArray) (hcs : cs[3]? = some (.string d)) (hlen : (out ++ d.data.toList).length ≤ 140737488355328)
    (ha : Fr.Is 77 [(0, .pointer (some ⟨wb, 0, none⟩)), (3, .pointer (some ⟨bx, 0, none⟩)), (4, .pointer (some ⟨pb, 0, none⟩))] a)
    (hQ : Hid (∀ a' w', Fr.Is 77 [(0, .pointer (some ⟨wb, 0, none⟩)), (3, .pointer (some ⟨bx, 0, none⟩)), (4, .pointer (some ⟨pb, 0, none⟩))] a' → PSt w0 B L wb bx pb cs ps (out ++ d.data.toList) w' → Q .normal a' w')) :
    (Fr.reg Tryd.f20 18).wp Tryd.prog Q a w := by
  have HK := Lib.hid (trivial)
  have HH := Lib.hid h
  have hinfo := Lib.hid info_u8
  have hlt := h.wat.hL
  have hB := h.wat.hB
  have HLt := Lib.hid (fun v (hv : Below w.heap.size w v) => (⟨Nat.le_trans hB hv.size, fun k hk => Nat.lt_of_lt_of_le (hlt k hk) hv.size⟩ : B ≤ v.heap.size ∧ ∀ k ∈ pb :: bx :: L, k < v.heap.size))
  obtain ⟨Z, hZ⟩ : ∃ Z, Z = out ++ d.data.toList := ⟨_, rfl⟩
  rw [← hZ] at hlen
  have HZ := Lib.hid hZ
  rw [← hZ] at hQ
  obtain ⟨⟨oa, oc, hh, ho, hne⟩, hlo, hno⟩ := h.wat.st
  have c0 : w.drew.cell? ⟨wb, 0, none⟩ = some (.slice oa out.length oc) := cell_at hh 0
  have c2 : w.drew.cell? ⟨bx, 3, none⟩ = some (.string d) := (cell_at h.fb 3).trans hcs
  have HFin : Hid (∀ v oa' oc' v4, Below w.heap.size w v → Grew B (pb :: bx :: L) v oa oa' oc' Z v4 → PSt w0 B L wb bx pb cs ps Z (v4.setCell ⟨wb, 0, none⟩ (.slice oa' Z.length oc'))) := Lib.hid (fun v oa' oc' v4 hv hG => by
    have hh' := block_below hv hh
    obtain ⟨r1, r2⟩ := FWt.stored hh' hne hlo hno hG
    exact HH.out.grow r1 ((Std.of_below hv).trans r2))
  have HC4 : Hid (∀ v oa' oc' v4, Below w.heap.size w v → Grew B (pb :: bx :: L) v oa oa' oc' Z v4 → v4.cell? ⟨wb, 0, none⟩ = some (.slice oa out.length oc) ∧ v4.frozen? ⟨wb, 0, none⟩ = false) := Lib.hid (fun v oa' oc' v4 hv hG => FWt.cell0 (block_below hv hh) hne hG)
  have HOut : Hid (∀ v, Below w.heap.size w v → OutB B (pb :: bx :: L) oa oc out v) := Lib.hid (fun v hv => ho.below hv)
  have hb : Below w.heap.size w w.drew := (Below.refl _ _).drew
  clear hh ho hne hZ h hcs hlt
  obtain ⟨fr, rfl, hfr⟩ := ha.lit
  simp only [List.map_cons, List.map_nil, List.cons.injEq, and_true] at hfr
  conv => arg 2; whnf
  simp only [List.range, List.range.loop, List.map_cons, List.map_nil, hfr]
  clear hfr ha
  refine wp_region_noPanic ?_
  go_region_law (first
    | (refine step_text Tryd.underlying27 Tryd.underlying9 hinfo.out rfl (.tmp 61) (.tmp 63) rfl rfl rfl (HOut.out _ (below_step hb (Below.refl _ _))) (HLt.out _ (below_step hb (Below.refl _ _))).1 (HLt.out _ (below_step hb (Below.refl _ _))).2 rfl Z HZ.out hlen ?_; intro oa' oc' w4 hG; obtain ⟨q1, y1⟩ := HC4.out _ _ _ _ (below_step hb (Below.refl _ _)) hG.out))
  all_goals exact hQ.out _ _ (Fr.Is.mk rfl rfl) (HFin.out _ _ _ _ (below_step hb (Below.refl _ _)) hG.out)

set_option maxRecDepth 100000 in
set_option maxHeartbeats 1000000 in
theorem pay_zero {Q : Exit → Act → World → Prop} {w0 : World} {B : Nat} {L : List Nat} {wb bx pb : Nat} {cs ps : Array Value} {out : List UInt8} (a : Act) (w : World) (h : PSt w0 B L wb bx pb cs ps out w) (v : Int) (k : Nat) (hvk : v = k) (hcs : cs[4]? = some (.int .i64 v)) (hlen : (out ++ List.replicate k 0).length ≤ 140737488355328)
    (ha : Fr.Is 77 [(0, .pointer (some ⟨wb, 0, none⟩)), (3, .pointer (some ⟨bx, 0, none⟩)), (4, .pointer (some ⟨pb, 0, none⟩))] a)
    (hQ : Hid (∀ a' w', Fr.Is 77 [(0, .pointer (some ⟨wb, 0, none⟩)), (3, .pointer (some ⟨bx, 0, none⟩)), (4, .pointer (some ⟨pb, 0, none⟩))] a' → PSt w0 B L wb bx pb cs ps (out ++ List.replicate k 0) w' → Q .normal a' w')) :
    (Fr.reg Tryd.f20 19).wp Tryd.prog Q a w := by
  have HK := Lib.hid (hvk)
  have HH := Lib.hid h
  have hinfo := Lib.hid info_u8
  have hlt := h.wat.hL
  have hB := h.wat.hB
  have HLt := Lib.hid (fun v (hv : Below w.heap.size w v) => (⟨Nat.le_trans hB hv.size, fun k hk => Nat.lt_of_lt_of_le (hlt k hk) hv.size⟩ : B ≤ v.heap.size ∧ ∀ k ∈ pb :: bx :: L, k < v.heap.size))
  obtain ⟨Z, hZ⟩ : ∃ Z, Z = out ++ List.replicate k 0 := ⟨_, rfl⟩
  rw [← hZ] at hlen
  have HZ := Lib.hid hZ
  rw [← hZ] at hQ
  obtain ⟨⟨oa, oc, hh, ho, hne⟩, hlo, hno⟩ := h.wat.st
  have c0 : w.drew.cell? ⟨wb, 0, none⟩ = some (.slice oa out.length oc) := cell_at hh 0
  have c2 : w.drew.cell? ⟨bx, 4, none⟩ = some (.int .i64 v) := (cell_at h.fb 4).trans hcs
  have HFin : Hid (∀ v oa' oc' v4, Below w.heap.size w v → Grew B (pb :: bx :: L) v oa oa' oc' Z v4 → PSt w0 B L wb bx pb cs ps Z (v4.setCell ⟨wb, 0, none⟩ (.slice oa' Z.length oc'))) := Lib.hid (fun v oa' oc' v4 hv hG => by
    have hh' := block_below hv hh
    obtain ⟨r1, r2⟩ := FWt.stored hh' hne hlo hno hG
    exact HH.out.grow r1 ((Std.of_below hv).trans r2))
  have HC4 : Hid (∀ v oa' oc' v4, Below w.heap.size w v → Grew B (pb :: bx :: L) v oa oa' oc' Z v4 → v4.cell? ⟨wb, 0, none⟩ = some (.slice oa out.length oc) ∧ v4.frozen? ⟨wb, 0, none⟩ = false) := Lib.hid (fun v oa' oc' v4 hv hG => FWt.cell0 (block_below hv hh) hne hG)
  have HOut : Hid (∀ v, Below w.heap.size w v → OutB B (pb :: bx :: L) oa oc out v) := Lib.hid (fun v hv => ho.below hv)
  have hb : Below w.heap.size w w.drew := (Below.refl _ _).drew
  clear hh ho hne hZ h hcs hlt hvk
  obtain ⟨fr, rfl, hfr⟩ := ha.lit
  simp only [List.map_cons, List.map_nil, List.cons.injEq, and_true] at hfr
  conv => arg 2; whnf
  simp only [List.range, List.range.loop, List.map_cons, List.map_nil, hfr]
  clear hfr ha
  refine wp_region_noPanic ?_
  go_region_law (first
    | (refine step_zeros Tryd.underlying27 Tryd.underlying3 hinfo.out rfl (.tmp 71) (.tmp 73) rfl rfl rfl (HOut.out _ (below_step hb (Below.refl _ _))) (HLt.out _ (below_step hb (Below.refl _ _))).1 (HLt.out _ (below_step hb (Below.refl _ _))).2 k rfl HK.out Z HZ.out hlen ?_; intro oa' oc' w4 hG; obtain ⟨q1, y1⟩ := HC4.out _ _ _ _ (below_step hb (Below.refl _ _)) hG.out))
  all_goals exact hQ.out _ _ (Fr.Is.mk rfl rfl) (HFin.out _ _ _ _ (below_step hb (Below.refl _ _)) hG.out)
end Go.Proofs.YtdilgkkkhmmffaaDoor

namespace Go.Proofs.YtdilgkkkhmmffaaDoor
open Go.RowKit
open Fra Oct Arg Mem Gen Wr Go.Proofs.YtdilgkkkhmmffaaDoor.Obj
set_option linter.unusedVariables false
set_option linter.unusedSimpArgs false

theorem bel_alloc (w : World) (o : Obj) : Below w.heap.size w (w.alloc o) := (Below.refl _ _).alloc (Nat.le_refl _) o

set_option maxRecDepth 100000 in
set_option maxHeartbeats 1000000 in
theorem pay_r0 {Q : Exit → Act → World → Prop} {wb : Nat} {cs : Array Value} (a : Act) (w : World)
    (ha : Fr.Is 77 [(0, .pointer (some ⟨wb, 0, none⟩)), (1, .agg cs)] a)
    (hQ : Hid (∀ a', Fr.Is 77 [(0, .pointer (some ⟨wb, 0, none⟩)), (3, .pointer (some ⟨w.heap.size, 0, none⟩))] a' → Q .normal a' (w.alloc (.cells cs 24)))) :
    (Fr.reg Tryd.f20 0).wp Tryd.prog Q a w := by
  obtain ⟨fr, rfl, hfr⟩ := ha.lit
  simp only [List.map_cons, List.map_nil, List.cons.injEq, and_true] at hfr
  conv => arg 2; whnf
  simp only [List.range, List.range.loop, List.map_cons, List.map_nil, hfr]
  clear hfr ha
  go_wp2_with fail
  exact hQ.out _ (Fr.Is.mk rfl rfl)
set_option maxRecDepth 100000 in
set_option maxHeartbeats 1000000 in
theorem pay_r1 {Q : Exit → Act → World → Prop} {wb bx : Nat} {t fl : Int} (a : Act) (w : World) (c0 : w.cell? ⟨bx, 0, none⟩ = some (.int .i64 t)) (c1 : w.cell? ⟨bx, 1, none⟩ = some (.int .i64 fl)) (h0 : 0 ≤ fl) (h1 : fl ≤ 255)
    (ha : Fr.Is 77 [(0, .pointer (some ⟨wb, 0, none⟩)), (3, .pointer (some ⟨bx, 0, none⟩))] a)
    (hQ : Hid (∀ a' w', Fr.Is 77 [(0, .pointer (some ⟨wb, 0, none⟩)), (3, .pointer (some ⟨bx, 0, none⟩)), (4, .pointer (some ⟨w'.heap.size, 0, none⟩))] a' → Below w.heap.size w w' → Q .normal a' (w'.alloc (.cells (ptC (partsM t fl)) 64)))) :
    (Fr.reg Tryd.f20 1).wp Tryd.prog Q a w := by
  obtain ⟨fr, rfl, hfr⟩ := ha.lit
  simp only [List.map_cons, List.map_nil, List.cons.injEq, and_true] at hfr
  conv => arg 2; whnf
  simp only [List.range, List.range.loop, List.map_cons, List.map_nil, hfr]
  clear hfr ha
  have HP := Lib.hid (pparts_any t fl w h0 h1)
  generalize partsM t fl = p at HP hQ
  unfold ptC at HP hQ
  go_wp2_with (refine HP.out.mono ?_; rintro e w' ⟨rfl, hb⟩)
  have HB := Lib.hid hb
  exact hQ.out _ _ (Fr.Is.mk rfl rfl) HB.out

set_option maxRecDepth 100000 in
set_option maxHeartbeats 2000000 in
theorem pay_sets {Q : Exit → Act → World → Prop} {W w0 : World} {B : Nat} {L : List Nat} {wb bx pb : Nat} {cs ps : Array Value} {out : List UInt8} (a : Act) (w : World) (h : PSt w0 B L wb bx pb cs ps out w) (hW : Std B [] W w0) (hB : B = W.heap.size) (sets : List StM) (sa : Option Addr) (sc : Nat)
    (hcs : cs[5]? = some (.slice sa sets.length sc)) (hrow : Rw.RowE ESt W sa sets) (hsc : sets.length ≤ 1000000) (hok : ∀ s ∈ sets, setOk s = true) (hlen : out.length ≤ 100000000)
    (ha : Fr.Is 77 [(0, .pointer (some ⟨wb, 0, none⟩)), (3, .pointer (some ⟨bx, 0, none⟩)), (4, .pointer (some ⟨pb, 0, none⟩))] a)
    (hQ : Hid (∀ a' w', Fr.Is 77 [(0, .pointer (some ⟨wb, 0, none⟩)), (3, .pointer (some ⟨bx, 0, none⟩)), (4, .pointer (some ⟨pb, 0, none⟩))] a' → PSt w0 B L wb bx pb cs ps (out ++ setL sets) w' → Q .normal a' w')) :
    (Fr.navL (Fr.tail Tryd.f20 7)).wp Tryd.prog Q a w := by
  have H := Lib.hid h
  have c5 := (cell_at h.fb 5).trans hcs
  have HBel : Hid (∀ v, PSt w0 B L wb bx pb cs ps out v ∨ (∃ o, PSt w0 B L wb bx pb cs ps o v) → Below W.heap.size W v) := Lib.hid (fun v hv => by
    have : ∃ o, PSt w0 B L wb bx pb cs ps o v := by rcases hv with h1 | h1
                                                    · exact ⟨_, h1⟩
                                                    · exact h1
    obtain ⟨o, ho⟩ := this
    exact Std.below (hW.trans (ho.wat.std.less (fun k hk _ => by cases hk))) hB)
  have HRow := Lib.hid hrow
  have HOk := Lib.hid hok
  obtain ⟨n, hn⟩ : ∃ n, n = sets.length := ⟨_, rfl⟩
  rw [← hn] at c5 hsc
  have HN := Lib.hid hn
  clear h hcs hrow hok hn hW
  obtain ⟨fr, rfl, hfr⟩ := ha.lit
  simp only [List.map_cons, List.map_nil, List.cons.injEq, and_true] at hfr
  conv => arg 2; whnf
  simp only [List.range, List.range.loop, List.map_cons, List.map_nil, hfr]
  clear hfr ha
  go_wp2_with fail
  go_loopw [44] (fun i wr => ∃ k : Nat, i = .int .i64 k ∧ k ≤ n ∧ Hid (PSt w0 B L wb bx pb cs ps (out ++ setL (sets.take k)) wr)) (fun i _ => n - (intOf i).toNat)
  case atStart => exact ⟨0, by rfl, Nat.zero_le _, Lib.hid (by simpa [setL] using H.out)⟩
  case round =>
    obtain ⟨k, rfl, hk, HS⟩ := hrel
    by_cases hlt : k < n
    · have hlt' : (k : Int) < n := by omega
      have hka : k < sets.length := by rw [← HN.out]; exact hlt
      obtain ⟨b1, o1, rfl, hc⟩ : ∃ b off, sa = some ⟨b, off, none⟩ ∧ ∀ i, (h : i < sets.length) → Rw.CE ESt W b (off + i * 2) sets[i] := by
        rcases HRow.out with h | h
        · rw [h] at hka; simp at hka
        · exact h
      have hbel := HBel.out wr (.inr ⟨_, HS.out⟩)
      obtain ⟨c0, c1⟩ := CE_st (hc k hka)
      have c0 := below_cell hbel c0
      have c1 := below_cell hbel c1
      have hso := HOk.out _ (List.getElem_mem hka)
      have HT := Lib.hid (show setL (sets.take (k + 1)) = setL (sets.take k) ++ (putL sets[k].id 2 ++ putL sets[k].val 4) by
        rw [List.take_succ_eq_append_getElem hka, setL, setL, List.flatMap_append]; simp)
      generalize sets[k] = s at c0 c1 HT hso
      obtain ⟨id, val⟩ := s
      simp only [setOk, decide_eq_true_eq] at hso
      simp only at c0 c1 HT
      obtain ⟨i0, i1, v0, v1⟩ := hso
      have hol : (setL (sets.take k)).length ≤ 6000000 := by rw [setL_len, List.length_take]; omega
      clear hc hbel
      have hbx := heap_alloc_new wr (.cells #[.int .i64 id, .int .i64 val] 61)
      have H1 := Lib.hid (HS.out.wat.box (.cells #[.int .i64 id, .int .i64 val] 61))
      have HS1 := Lib.hid (HS.out.below (bel_alloc wr (.cells #[.int .i64 id, .int .i64 val] 61)))
      have x0 := cell_at hbx 0
      have HB1 := Lib.hid hbx
      clear hbx
      simp only [List.getElem?_toArray, List.getElem?_cons_zero] at x0
      go_wp2_with fail
      generalize wr.alloc (.cells #[.int .i64 id, .int .i64 val] 61) = w1 at H1 HB1 HS1 x0 ⊢
      generalize wr.heap.size = sb at H1 HB1 x0 ⊢
      refine (wat_num H1.out id 2 (by decide) (by decide) i0 (by omega) (by simp [List.length_append]; omega)).mono ?_
      rintro e w2 ⟨rfl, h2, k2⟩
      have H2 := Lib.hid h2
      have K2 := Lib.hid k2
      have HB2 := Lib.hid ((k2 sb (by simp)).trans HB1.out)
      have x1 := cell_at HB2.out 1
      simp only [List.getElem?_toArray, List.getElem?_cons_zero, List.getElem?_cons_succ] at x1
      clear h2 k2 x0 c0 c1
      go_wp2_with fail
      refine (wat_num H2.out val 4 (by decide) (by decide) v0 (by omega) (by simp [List.length_append, putL_length]; omega)).mono ?_
      rintro e w3 ⟨rfl, h3, k3⟩
      have H3 := Lib.hid h3
      have K3 := Lib.hid k3
      clear h3 k3 x1
      go_wp2_with fail
      go_roundw
      case rel =>
        refine ⟨k + 1, by go_num, by omega, Lib.hid ?_⟩
        rw [HT.out]
        have h6 := H3.out.less (L' := pb :: bx :: L) (fun k hk => List.mem_cons_of_mem _ hk)
        have h7 := HS1.out.step (w' := w3) h6 (fun k hk => (K3.out k (List.mem_cons_of_mem _ hk)).trans (K2.out k (List.mem_cons_of_mem _ hk)))
        simpa [List.append_assoc] using h7
      case measure => simp [intOf]; omega
    · have hke : k = n := by omega
      subst hke
      have hlt' : ¬ (k : Int) < k := by omega
      have HE : Hid (PSt w0 B L wb bx pb cs ps (out ++ setL sets) wr) := Lib.hid (by have := HS.out; rwa [HN.out, List.take_length] at this)
      go_wp2_with fail
      exact hQ.out _ _ (Fr.Is.mk rfl rfl) HE.out

/-- A payload as the program puts it. -/
def payP (f : FrM) (p : PtM) : List UInt8 :=
  (if p.pad then putL f.pad 1 else []) ++ ((if p.order then placeL f else []) ++ ((if p.last then putL f.last 4 else []) ++ ((if p.code then putL f.code 4 else []) ++ ((if p.inc then putL f.inc 4 else []) ++
    (setL f.sets ++ (f.data.data.toList ++ List.replicate f.pad.toNat 0))))))
theorem len_two (a b : List UInt8) : (a ++ b).length = a.length + b.length := List.length_append
theorem if_len (b : Bool) (l : List UInt8) (k : Nat) (h : l.length ≤ k) : (if b then l else []).length ≤ k := by cases b <;> simp [h]

set_option maxRecDepth 100000 in
set_option maxHeartbeats 2000000 in
theorem ppayload_any {W w0 w : World} {B wb : Nat} {L : List Nat} {out : List UInt8} (h : Wat w0 B L wb out w) (hW : Std B [] W w0) (hB : B = W.heap.size) (f : FrM) (sa : Option Addr) (sc : Nat) (hok : FrOk f sa sc W) (hf : inRB f = true) (hs : ∀ s ∈ f.sets, setOk s = true)
    (hd : f.data.size ≤ 1000000) (hn : f.sets.length ≤ 1000000) (hlen : out.length ≤ 1000) :
    Calls Tryd.prog 20 #[.pointer (some ⟨wb, 0, none⟩), frV f sa sc] w fun e w' => e = .returned (.tuple #[]) ∧ Wat w0 B L wb (out ++ payP f (partsM f.type f.flags)) w' ∧ Kp L w w' := by
  obtain ⟨⟨t0, t1⟩, ⟨f0, f1⟩, ⟨s0, s1⟩, ⟨l0, l1⟩, ⟨d0, d1⟩, ⟨i0, i1⟩, ⟨p0, p1⟩, ⟨g0, g1⟩, ⟨k0, k1⟩⟩ := inR_of f hf
  have hW2 : Std B [] W w := hW.trans (h.std.less (fun k hk _ => by cases hk))
  have hs0 := Wat.start h.st h.hB h.hL
  unfold frV
  go_enter Tryd.func20, Tryd.ntmps20
  refine wp_seq ?_
  refine pay_r0 (wb := wb) (cs := frC f sa sc) _ w (Fr.Is.mk rfl rfl) (Lib.hid (fun a1 h1 => ?_))
  have hb1 := hs0.box (.cells (frC f sa sc) 24)
  have hx1 := heap_alloc_new w (.cells (frC f sa sc) 24)
  generalize w.alloc (.cells (frC f sa sc) 24) = w1 at hb1 hx1 ⊢
  generalize w.heap.size = bx at hb1 hx1 h1
  refine wp_seq ?_
  refine pay_r1 a1 w1 (cell_at hx1 0) (cell_at hx1 1) f0 f1 h1 (Lib.hid (fun a2 w2 h2 hb2 => ?_))
  have hp2 := (hb1.below hb2).box (.cells (ptC (partsM f.type f.flags)) 64)
  have hx2 := block_below (bel_alloc w2 (.cells (ptC (partsM f.type f.flags)) 64)) (block_below hb2 hx1)
  have hx3 := heap_alloc_new w2 (.cells (ptC (partsM f.type f.flags)) 64)
  have hP : PSt w B L wb bx w2.heap.size (frC f sa sc) (ptC (partsM f.type f.flags)) out (w2.alloc (.cells (ptC (partsM f.type f.flags)) 64)) := ⟨hp2, hx2, hx3⟩
  clear hp2 hx2 hx3 hb1 hx1 hb2
  generalize w2.alloc (.cells (ptC (partsM f.type f.flags)) 64) = w3 at hP ⊢
  generalize w2.heap.size = pb at hP h2
  generalize hp : partsM f.type f.flags = p at hP ⊢
  have q1 := if_len p.pad (putL f.pad 1) 5 (by simp [putL_length])
  have q2 := if_len p.order (placeL f) 5 (by simp [place_len])
  have q3 := if_len p.last (putL f.last 4) 5 (by simp [putL_length])
  have q4 := if_len p.code (putL f.code 4) 5 (by simp [putL_length])
  have q5 := if_len p.inc (putL f.inc 4) 5 (by simp [putL_length])
  have q6 := setL_len f.sets
  have q7 : f.data.data.toList.length = f.data.size := by simp
  refine wp_seq ?_
  refine pay_pad a2 w3 hP p.pad f.pad rfl rfl p0 (by omega) (by omega) h2 (Lib.hid (fun a3 w4 h3 hP3 => ?_))
  have e3 : (out ++ (if p.pad then putL f.pad 1 else [])).length ≤ 2000 := by rw [List.length_append]; omega
  refine wp_seq ?_
  refine pay_order a3 w4 hP3 f sa sc p.order rfl rfl hf (by omega) h3 (Lib.hid (fun a4 w5 h4 hP4 => ?_))
  have e4 := len_two (out ++ (if p.pad then putL f.pad 1 else [])) (if p.order then placeL f else [])
  refine wp_seq ?_
  refine pay_last a4 w5 hP4 p.last f.last rfl rfl l0 (by omega) (by omega) h4 (Lib.hid (fun a5 w6 h5 hP5 => ?_))
  have e5 := len_two (out ++ (if p.pad then putL f.pad 1 else []) ++ (if p.order then placeL f else [])) (if p.last then putL f.last 4 else [])
  refine wp_seq ?_
  refine pay_code a5 w6 hP5 p.code f.code rfl rfl k0 (by omega) (by omega) h5 (Lib.hid (fun a6 w7 h6 hP6 => ?_))
  have e6 := len_two (out ++ (if p.pad then putL f.pad 1 else []) ++ (if p.order then placeL f else []) ++ (if p.last then putL f.last 4 else [])) (if p.code then putL f.code 4 else [])
  refine wp_seq ?_
  refine pay_inc a6 w7 hP6 p.inc f.inc rfl rfl i0 (by omega) (by omega) h6 (Lib.hid (fun a7 w8 h7 hP7 => ?_))
  have e7 := len_two (out ++ (if p.pad then putL f.pad 1 else []) ++ (if p.order then placeL f else []) ++ (if p.last then putL f.last 4 else []) ++ (if p.code then putL f.code 4 else [])) (if p.inc then putL f.inc 4 else [])
  refine wp_seq ?_
  refine pay_sets (W := W) a7 w8 hP7 hW2 hB f.sets sa sc rfl hok.row hn hs (by omega) h7 (Lib.hid (fun a8 w9 h8 hP8 => ?_))
  generalize hY : out ++ (if p.pad then putL f.pad 1 else []) ++ (if p.order then placeL f else []) ++ (if p.last then putL f.last 4 else []) ++ (if p.code then putL f.code 4 else []) ++ (if p.inc then putL f.inc 4 else []) = Y at hP8 e7
  refine wp_seq ?_
  refine pay_data a8 w9 hP8 f.data rfl (by simp only [List.length_append]; omega) h8 (Lib.hid (fun a9 w10 h9 hP9 => ?_))
  refine pay_zero a9 w10 hP9 f.pad f.pad.toNat (by omega) rfl (by simp only [List.length_append, List.length_replicate]; omega) h9 (Lib.hid (fun a10 w11 h10 hP10 => ?_))
  obtain ⟨fr, rfl, hfr⟩ := h10.lit
  have hfin := hP10.wat.less (L' := L) (fun k hk => List.mem_cons_of_mem _ (List.mem_cons_of_mem _ hk))
  have h7 := h.next hfin.st hfin.std
  rw [← hY] at h7
  simp only [List.append_assoc] at h7
  go_end0
  exact ⟨rfl, h7⟩
end Go.Proofs.YtdilgkkkhmmffaaDoor

namespace Go.Proofs.YtdilgkkkhmmffaaDoor
open Go.RowKit
open Fra Oct Mem Gen Go.Proofs.YtdilgkkkhmmffaaDoor.Obj
set_option linter.unusedVariables false
set_option linter.unusedSimpArgs false


theorem bare_eq (p : PtM) (t fl st : Int) (data : ByteArray) (pad : Int) (sets : List StM) (n : Nat) (hn : sets.length = n) (code last inc dep weight : Int) (sole : Bool) :
    bareB ⟨t, fl, st, data, pad, sets, code, last, inc, dep, weight, sole⟩ p = ((p.pad || decide (pad = 0)) && ((p.order || (decide (dep = 0) && (decide (weight = 0) && !sole))) && ((p.last || decide (last = 0)) && ((p.code || decide (code = 0)) &&
    ((p.inc || decide (inc = 0)) && ((p.sets || decide (n = 0)) && (p.data || decide (data = ByteArray.empty)))))))) := by rw [← hn]; rfl

set_option maxRecDepth 100000 in
set_option maxHeartbeats 4000000 in
theorem bare_dat00 (t fl st : Int) (data : ByteArray) (pad : Int) (n : Nat) (code last inc dep weight : Int) (sole : Bool) (sa : Option Addr) (sc : Nat) (w : World) (R : Bool)
    (HR : Hid (R = ((false || decide (pad = 0)) && ((false || (decide (dep = 0) && (decide (weight = 0) && !sole))) && ((false || decide (last = 0)) && ((false || decide (code = 0)) && ((false || decide (inc = 0)) && ((false || decide (n = 0)) && (true || decide (data = ByteArray.empty)))))))))) :
    Calls Tryd.prog 33 #[.agg #[.int .i64 t, .int .i64 fl, .int .i64 st, .string data, .int .i64 pad, .slice sa n sc, .int .i64 code, .int .i64 last, .int .i64 inc, .int .i64 dep, .int .i64 weight, .bool sole], .agg #[.bool false, .bool false, .bool false, .bool false, .bool false, .bool false, .bool true]] w fun e w' => e = .returned (.bool R) ∧ Below w.heap.size w w' := by
  by_cases hpad : pad = 0
  · subst hpad
    by_cases hdep : dep = 0
    · subst hdep
      by_cases hweight : weight = 0
      · subst hweight
        cases hs : sole with
        | false =>
          subst hs
          by_cases hlast : last = 0
          · subst hlast
            by_cases hcode : code = 0
            · subst hcode
              by_cases hinc : inc = 0
              · subst hinc
                by_cases hn : n = 0
                · subst hn
                  have hT : R = true := by rw [HR.out]; simp
                  subst hT
                  clear HR
                  have hE : True := trivial
                  go_enter Tryd.func33, Tryd.ntmps33
                  simp only [List.append_eq, List.cons_append, List.nil_append]
                  go_wp2_with fail
                  all_goals first
                    | (go_ret; exact ⟨by first | rfl | simp [hE], ((Below.refl _ _).alloc (Nat.le_refl _) _).alloc (by simp) _⟩)
                    | (exfalso; omega)
                    | (exfalso; simp_all; done)
                · skip
                  have hT : R = false := by rw [HR.out]; simp [hn]
                  subst hT
                  clear HR
                  have hE : True := trivial
                  go_enter Tryd.func33, Tryd.ntmps33
                  simp only [List.append_eq, List.cons_append, List.nil_append]
                  go_wp2_with fail
                  all_goals first
                    | (go_ret; exact ⟨by first | rfl | simp [hE], ((Below.refl _ _).alloc (Nat.le_refl _) _).alloc (by simp) _⟩)
                    | (exfalso; omega)
                    | (exfalso; simp_all; done)
              · skip
                have hT : R = false := by rw [HR.out]; simp [hinc]
                subst hT
                clear HR
                have hE : True := trivial
                go_enter Tryd.func33, Tryd.ntmps33
                simp only [List.append_eq, List.cons_append, List.nil_append]
                go_wp2_with fail
                all_goals first
                  | (go_ret; exact ⟨by first | rfl | simp [hE], ((Below.refl _ _).alloc (Nat.le_refl _) _).alloc (by simp) _⟩)
                  | (exfalso; omega)
                  | (exfalso; simp_all; done)
            · skip
              have hT : R = false := by rw [HR.out]; simp [hcode]
              subst hT
              clear HR
              have hE : True := trivial
              go_enter Tryd.func33, Tryd.ntmps33
              simp only [List.append_eq, List.cons_append, List.nil_append]
              go_wp2_with fail
              all_goals first
                | (go_ret; exact ⟨by first | rfl | simp [hE], ((Below.refl _ _).alloc (Nat.le_refl _) _).alloc (by simp) _⟩)
                | (exfalso; omega)
                | (exfalso; simp_all; done)
          · skip
            have hT : R = false := by rw [HR.out]; simp [hlast]
            subst hT
            clear HR
            have hE : True := trivial
            go_enter Tryd.func33, Tryd.ntmps33
            simp only [List.append_eq, List.cons_append, List.nil_append]
            go_wp2_with fail
            all_goals first
              | (go_ret; exact ⟨by first | rfl | simp [hE], ((Below.refl _ _).alloc (Nat.le_refl _) _).alloc (by simp) _⟩)
              | (exfalso; omega)
              | (exfalso; simp_all; done)
        | true =>
          subst hs
          have hT : R = false := by rw [HR.out]; simp
          subst hT
          clear HR
          have hE : True := trivial
          go_enter Tryd.func33, Tryd.ntmps33
          simp only [List.append_eq, List.cons_append, List.nil_append]
          go_wp2_with fail
          all_goals first
            | (go_ret; exact ⟨by first | rfl | simp [hE], ((Below.refl _ _).alloc (Nat.le_refl _) _).alloc (by simp) _⟩)
            | (exfalso; omega)
            | (exfalso; simp_all; done)
      · skip
        have hT : R = false := by rw [HR.out]; simp [hweight]
        subst hT
        clear HR
        have hE : True := trivial
        go_enter Tryd.func33, Tryd.ntmps33
        simp only [List.append_eq, List.cons_append, List.nil_append]
        go_wp2_with fail
        all_goals first
          | (go_ret; exact ⟨by first | rfl | simp [hE], ((Below.refl _ _).alloc (Nat.le_refl _) _).alloc (by simp) _⟩)
          | (exfalso; omega)
          | (exfalso; simp_all; done)
    · skip
      have hT : R = false := by rw [HR.out]; simp [hdep]
      subst hT
      clear HR
      have hE : True := trivial
      go_enter Tryd.func33, Tryd.ntmps33
      simp only [List.append_eq, List.cons_append, List.nil_append]
      go_wp2_with fail
      all_goals first
        | (go_ret; exact ⟨by first | rfl | simp [hE], ((Below.refl _ _).alloc (Nat.le_refl _) _).alloc (by simp) _⟩)
        | (exfalso; omega)
        | (exfalso; simp_all; done)
  · skip
    have hT : R = false := by rw [HR.out]; simp [hpad]
    subst hT
    clear HR
    have hE : True := trivial
    go_enter Tryd.func33, Tryd.ntmps33
    simp only [List.append_eq, List.cons_append, List.nil_append]
    go_wp2_with fail
    all_goals first
      | (go_ret; exact ⟨by first | rfl | simp [hE], ((Below.refl _ _).alloc (Nat.le_refl _) _).alloc (by simp) _⟩)
      | (exfalso; omega)
      | (exfalso; simp_all; done)

set_option maxRecDepth 100000 in
set_option maxHeartbeats 4000000 in
theorem bare_dat01 (t fl st : Int) (data : ByteArray) (pad : Int) (n : Nat) (code last inc dep weight : Int) (sole : Bool) (sa : Option Addr) (sc : Nat) (w : World) (R : Bool)
    (HR : Hid (R = ((false || decide (pad = 0)) && ((true || (decide (dep = 0) && (decide (weight = 0) && !sole))) && ((false || decide (last = 0)) && ((false || decide (code = 0)) && ((false || decide (inc = 0)) && ((false || decide (n = 0)) && (true || decide (data = ByteArray.empty)))))))))) :
    Calls Tryd.prog 33 #[.agg #[.int .i64 t, .int .i64 fl, .int .i64 st, .string data, .int .i64 pad, .slice sa n sc, .int .i64 code, .int .i64 last, .int .i64 inc, .int .i64 dep, .int .i64 weight, .bool sole], .agg #[.bool false, .bool true, .bool false, .bool false, .bool false, .bool false, .bool true]] w fun e w' => e = .returned (.bool R) ∧ Below w.heap.size w w' := by
  by_cases hpad : pad = 0
  · subst hpad
    by_cases hlast : last = 0
    · subst hlast
      by_cases hcode : code = 0
      · subst hcode
        by_cases hinc : inc = 0
        · subst hinc
          by_cases hn : n = 0
          · subst hn
            have hT : R = true := by rw [HR.out]; simp
            subst hT
            clear HR
            have hE : True := trivial
            go_enter Tryd.func33, Tryd.ntmps33
            simp only [List.append_eq, List.cons_append, List.nil_append]
            go_wp2_with fail
            all_goals first
              | (go_ret; exact ⟨by first | rfl | simp [hE], ((Below.refl _ _).alloc (Nat.le_refl _) _).alloc (by simp) _⟩)
              | (exfalso; omega)
              | (exfalso; simp_all; done)
          · skip
            have hT : R = false := by rw [HR.out]; simp [hn]
            subst hT
            clear HR
            have hE : True := trivial
            go_enter Tryd.func33, Tryd.ntmps33
            simp only [List.append_eq, List.cons_append, List.nil_append]
            go_wp2_with fail
            all_goals first
              | (go_ret; exact ⟨by first | rfl | simp [hE], ((Below.refl _ _).alloc (Nat.le_refl _) _).alloc (by simp) _⟩)
              | (exfalso; omega)
              | (exfalso; simp_all; done)
        · skip
          have hT : R = false := by rw [HR.out]; simp [hinc]
          subst hT
          clear HR
          have hE : True := trivial
          go_enter Tryd.func33, Tryd.ntmps33
          simp only [List.append_eq, List.cons_append, List.nil_append]
          go_wp2_with fail
          all_goals first
            | (go_ret; exact ⟨by first | rfl | simp [hE], ((Below.refl _ _).alloc (Nat.le_refl _) _).alloc (by simp) _⟩)
            | (exfalso; omega)
            | (exfalso; simp_all; done)
      · skip
        have hT : R = false := by rw [HR.out]; simp [hcode]
        subst hT
        clear HR
        have hE : True := trivial
        go_enter Tryd.func33, Tryd.ntmps33
        simp only [List.append_eq, List.cons_append, List.nil_append]
        go_wp2_with fail
        all_goals first
          | (go_ret; exact ⟨by first | rfl | simp [hE], ((Below.refl _ _).alloc (Nat.le_refl _) _).alloc (by simp) _⟩)
          | (exfalso; omega)
          | (exfalso; simp_all; done)
    · skip
      have hT : R = false := by rw [HR.out]; simp [hlast]
      subst hT
      clear HR
      have hE : True := trivial
      go_enter Tryd.func33, Tryd.ntmps33
      simp only [List.append_eq, List.cons_append, List.nil_append]
      go_wp2_with fail
      all_goals first
        | (go_ret; exact ⟨by first | rfl | simp [hE], ((Below.refl _ _).alloc (Nat.le_refl _) _).alloc (by simp) _⟩)
        | (exfalso; omega)
        | (exfalso; simp_all; done)
  · skip
    have hT : R = false := by rw [HR.out]; simp [hpad]
    subst hT
    clear HR
    have hE : True := trivial
    go_enter Tryd.func33, Tryd.ntmps33
    simp only [List.append_eq, List.cons_append, List.nil_append]
    go_wp2_with fail
    all_goals first
      | (go_ret; exact ⟨by first | rfl | simp [hE], ((Below.refl _ _).alloc (Nat.le_refl _) _).alloc (by simp) _⟩)
      | (exfalso; omega)
      | (exfalso; simp_all; done)

set_option maxRecDepth 100000 in
set_option maxHeartbeats 4000000 in
theorem bare_dat10 (t fl st : Int) (data : ByteArray) (pad : Int) (n : Nat) (code last inc dep weight : Int) (sole : Bool) (sa : Option Addr) (sc : Nat) (w : World) (R : Bool)
    (HR : Hid (R = ((true || decide (pad = 0)) && ((false || (decide (dep = 0) && (decide (weight = 0) && !sole))) && ((false || decide (last = 0)) && ((false || decide (code = 0)) && ((false || decide (inc = 0)) && ((false || decide (n = 0)) && (true || decide (data = ByteArray.empty)))))))))) :
    Calls Tryd.prog 33 #[.agg #[.int .i64 t, .int .i64 fl, .int .i64 st, .string data, .int .i64 pad, .slice sa n sc, .int .i64 code, .int .i64 last, .int .i64 inc, .int .i64 dep, .int .i64 weight, .bool sole], .agg #[.bool true, .bool false, .bool false, .bool false, .bool false, .bool false, .bool true]] w fun e w' => e = .returned (.bool R) ∧ Below w.heap.size w w' := by
  by_cases hdep : dep = 0
  · subst hdep
    by_cases hweight : weight = 0
    · subst hweight
      cases hs : sole with
      | false =>
        subst hs
        by_cases hlast : last = 0
        · subst hlast
          by_cases hcode : code = 0
          · subst hcode
            by_cases hinc : inc = 0
            · subst hinc
              by_cases hn : n = 0
              · subst hn
                have hT : R = true := by rw [HR.out]; simp
                subst hT
                clear HR
                have hE : True := trivial
                go_enter Tryd.func33, Tryd.ntmps33
                simp only [List.append_eq, List.cons_append, List.nil_append]
                go_wp2_with fail
                all_goals first
                  | (go_ret; exact ⟨by first | rfl | simp [hE], ((Below.refl _ _).alloc (Nat.le_refl _) _).alloc (by simp) _⟩)
                  | (exfalso; omega)
                  | (exfalso; simp_all; done)
              · skip
                have hT : R = false := by rw [HR.out]; simp [hn]
                subst hT
                clear HR
                have hE : True := trivial
                go_enter Tryd.func33, Tryd.ntmps33
                simp only [List.append_eq, List.cons_append, List.nil_append]
                go_wp2_with fail
                all_goals first
                  | (go_ret; exact ⟨by first | rfl | simp [hE], ((Below.refl _ _).alloc (Nat.le_refl _) _).alloc (by simp) _⟩)
                  | (exfalso; omega)
                  | (exfalso; simp_all; done)
            · skip
              have hT : R = false := by rw [HR.out]; simp [hinc]
              subst hT
              clear HR
              have hE : True := trivial
              go_enter Tryd.func33, Tryd.ntmps33
              simp only [List.append_eq, List.cons_append, List.nil_append]
              go_wp2_with fail
              all_goals first
                | (go_ret; exact ⟨by first | rfl | simp [hE], ((Below.refl _ _).alloc (Nat.le_refl _) _).alloc (by simp) _⟩)
                | (exfalso; omega)
                | (exfalso; simp_all; done)
          · skip
            have hT : R = false := by rw [HR.out]; simp [hcode]
            subst hT
            clear HR
            have hE : True := trivial
            go_enter Tryd.func33, Tryd.ntmps33
            simp only [List.append_eq, List.cons_append, List.nil_append]
            go_wp2_with fail
            all_goals first
              | (go_ret; exact ⟨by first | rfl | simp [hE], ((Below.refl _ _).alloc (Nat.le_refl _) _).alloc (by simp) _⟩)
              | (exfalso; omega)
              | (exfalso; simp_all; done)
        · skip
          have hT : R = false := by rw [HR.out]; simp [hlast]
          subst hT
          clear HR
          have hE : True := trivial
          go_enter Tryd.func33, Tryd.ntmps33
          simp only [List.append_eq, List.cons_append, List.nil_append]
          go_wp2_with fail
          all_goals first
            | (go_ret; exact ⟨by first | rfl | simp [hE], ((Below.refl _ _).alloc (Nat.le_refl _) _).alloc (by simp) _⟩)
            | (exfalso; omega)
            | (exfalso; simp_all; done)
      | true =>
        subst hs
        have hT : R = false := by rw [HR.out]; simp
        subst hT
        clear HR
        have hE : True := trivial
        go_enter Tryd.func33, Tryd.ntmps33
        simp only [List.append_eq, List.cons_append, List.nil_append]
        go_wp2_with fail
        all_goals first
          | (go_ret; exact ⟨by first | rfl | simp [hE], ((Below.refl _ _).alloc (Nat.le_refl _) _).alloc (by simp) _⟩)
          | (exfalso; omega)
          | (exfalso; simp_all; done)
    · skip
      have hT : R = false := by rw [HR.out]; simp [hweight]
      subst hT
      clear HR
      have hE : True := trivial
      go_enter Tryd.func33, Tryd.ntmps33
      simp only [List.append_eq, List.cons_append, List.nil_append]
      go_wp2_with fail
      all_goals first
        | (go_ret; exact ⟨by first | rfl | simp [hE], ((Below.refl _ _).alloc (Nat.le_refl _) _).alloc (by simp) _⟩)
        | (exfalso; omega)
        | (exfalso; simp_all; done)
  · skip
    have hT : R = false := by rw [HR.out]; simp [hdep]
    subst hT
    clear HR
    have hE : True := trivial
    go_enter Tryd.func33, Tryd.ntmps33
    simp only [List.append_eq, List.cons_append, List.nil_append]
    go_wp2_with fail
    all_goals first
      | (go_ret; exact ⟨by first | rfl | simp [hE], ((Below.refl _ _).alloc (Nat.le_refl _) _).alloc (by simp) _⟩)
      | (exfalso; omega)
      | (exfalso; simp_all; done)

set_option maxRecDepth 100000 in
set_option maxHeartbeats 4000000 in
theorem bare_dat11 (t fl st : Int) (data : ByteArray) (pad : Int) (n : Nat) (code last inc dep weight : Int) (sole : Bool) (sa : Option Addr) (sc : Nat) (w : World) (R : Bool)
    (HR : Hid (R = ((true || decide (pad = 0)) && ((true || (decide (dep = 0) && (decide (weight = 0) && !sole))) && ((false || decide (last = 0)) && ((false || decide (code = 0)) && ((false || decide (inc = 0)) && ((false || decide (n = 0)) && (true || decide (data = ByteArray.empty)))))))))) :
    Calls Tryd.prog 33 #[.agg #[.int .i64 t, .int .i64 fl, .int .i64 st, .string data, .int .i64 pad, .slice sa n sc, .int .i64 code, .int .i64 last, .int .i64 inc, .int .i64 dep, .int .i64 weight, .bool sole], .agg #[.bool true, .bool true, .bool false, .bool false, .bool false, .bool false, .bool true]] w fun e w' => e = .returned (.bool R) ∧ Below w.heap.size w w' := by
  by_cases hlast : last = 0
  · subst hlast
    by_cases hcode : code = 0
    · subst hcode
      by_cases hinc : inc = 0
      · subst hinc
        by_cases hn : n = 0
        · subst hn
          have hT : R = true := by rw [HR.out]; simp
          subst hT
          clear HR
          have hE : True := trivial
          go_enter Tryd.func33, Tryd.ntmps33
          simp only [List.append_eq, List.cons_append, List.nil_append]
          go_wp2_with fail
          all_goals first
            | (go_ret; exact ⟨by first | rfl | simp [hE], ((Below.refl _ _).alloc (Nat.le_refl _) _).alloc (by simp) _⟩)
            | (exfalso; omega)
            | (exfalso; simp_all; done)
        · skip
          have hT : R = false := by rw [HR.out]; simp [hn]
          subst hT
          clear HR
          have hE : True := trivial
          go_enter Tryd.func33, Tryd.ntmps33
          simp only [List.append_eq, List.cons_append, List.nil_append]
          go_wp2_with fail
          all_goals first
            | (go_ret; exact ⟨by first | rfl | simp [hE], ((Below.refl _ _).alloc (Nat.le_refl _) _).alloc (by simp) _⟩)
            | (exfalso; omega)
            | (exfalso; simp_all; done)
      · skip
        have hT : R = false := by rw [HR.out]; simp [hinc]
        subst hT
        clear HR
        have hE : True := trivial
        go_enter Tryd.func33, Tryd.ntmps33
        simp only [List.append_eq, List.cons_append, List.nil_append]
        go_wp2_with fail
        all_goals first
          | (go_ret; exact ⟨by first | rfl | simp [hE], ((Below.refl _ _).alloc (Nat.le_refl _) _).alloc (by simp) _⟩)
          | (exfalso; omega)
          | (exfalso; simp_all; done)
    · skip
      have hT : R = false := by rw [HR.out]; simp [hcode]
      subst hT
      clear HR
      have hE : True := trivial
      go_enter Tryd.func33, Tryd.ntmps33
      simp only [List.append_eq, List.cons_append, List.nil_append]
      go_wp2_with fail
      all_goals first
        | (go_ret; exact ⟨by first | rfl | simp [hE], ((Below.refl _ _).alloc (Nat.le_refl _) _).alloc (by simp) _⟩)
        | (exfalso; omega)
        | (exfalso; simp_all; done)
  · skip
    have hT : R = false := by rw [HR.out]; simp [hlast]
    subst hT
    clear HR
    have hE : True := trivial
    go_enter Tryd.func33, Tryd.ntmps33
    simp only [List.append_eq, List.cons_append, List.nil_append]
    go_wp2_with fail
    all_goals first
      | (go_ret; exact ⟨by first | rfl | simp [hE], ((Below.refl _ _).alloc (Nat.le_refl _) _).alloc (by simp) _⟩)
      | (exfalso; omega)
      | (exfalso; simp_all; done)

set_option maxRecDepth 100000 in
set_option maxHeartbeats 4000000 in
theorem bare_pri (t fl st : Int) (data : ByteArray) (pad : Int) (n : Nat) (code last inc dep weight : Int) (sole : Bool) (sa : Option Addr) (sc : Nat) (w : World) (R : Bool)
    (HR : Hid (R = ((false || decide (pad = 0)) && ((true || (decide (dep = 0) && (decide (weight = 0) && !sole))) && ((false || decide (last = 0)) && ((false || decide (code = 0)) && ((false || decide (inc = 0)) && ((false || decide (n = 0)) && (false || decide (data = ByteArray.empty)))))))))) :
    Calls Tryd.prog 33 #[.agg #[.int .i64 t, .int .i64 fl, .int .i64 st, .string data, .int .i64 pad, .slice sa n sc, .int .i64 code, .int .i64 last, .int .i64 inc, .int .i64 dep, .int .i64 weight, .bool sole], .agg #[.bool false, .bool true, .bool false, .bool false, .bool false, .bool false, .bool false]] w fun e w' => e = .returned (.bool R) ∧ Below w.heap.size w w' := by
  by_cases hpad : pad = 0
  · subst hpad
    by_cases hlast : last = 0
    · subst hlast
      by_cases hcode : code = 0
      · subst hcode
        by_cases hinc : inc = 0
        · subst hinc
          by_cases hn : n = 0
          · subst hn
            by_cases hdata : data = { data := #[] }
            · subst hdata
              have hT : R = true := by rw [HR.out]; simp <;> rfl
              subst hT
              clear HR
              have hE : True := trivial
              go_enter Tryd.func33, Tryd.ntmps33
              simp only [List.append_eq, List.cons_append, List.nil_append]
              go_wp2_with fail
              all_goals first
                | (go_ret; exact ⟨by first | rfl | simp [hE], ((Below.refl _ _).alloc (Nat.le_refl _) _).alloc (by simp) _⟩)
                | (exfalso; omega)
                | (exfalso; simp_all; done)
            · have hdata2 : ¬ data = ByteArray.empty := hdata
              have hT : R = false := by rw [HR.out]; simp [hdata2]
              subst hT
              clear HR
              have hE : data.toList.isEmpty = false := by
                rw [← decide_eq_emptyBytes]; exact decide_eq_false hdata
              go_enter Tryd.func33, Tryd.ntmps33
              simp only [List.append_eq, List.cons_append, List.nil_append]
              go_wp2_with fail
              all_goals first
                | (go_ret; exact ⟨by first | rfl | simp [hE], ((Below.refl _ _).alloc (Nat.le_refl _) _).alloc (by simp) _⟩)
                | (exfalso; omega)
                | (exfalso; simp_all; done)
          · skip
            have hT : R = false := by rw [HR.out]; simp [hn]
            subst hT
            clear HR
            have hE : True := trivial
            go_enter Tryd.func33, Tryd.ntmps33
            simp only [List.append_eq, List.cons_append, List.nil_append]
            go_wp2_with fail
            all_goals first
              | (go_ret; exact ⟨by first | rfl | simp [hE], ((Below.refl _ _).alloc (Nat.le_refl _) _).alloc (by simp) _⟩)
              | (exfalso; omega)
              | (exfalso; simp_all; done)
        · skip
          have hT : R = false := by rw [HR.out]; simp [hinc]
          subst hT
          clear HR
          have hE : True := trivial
          go_enter Tryd.func33, Tryd.ntmps33
          simp only [List.append_eq, List.cons_append, List.nil_append]
          go_wp2_with fail
          all_goals first
            | (go_ret; exact ⟨by first | rfl | simp [hE], ((Below.refl _ _).alloc (Nat.le_refl _) _).alloc (by simp) _⟩)
            | (exfalso; omega)
            | (exfalso; simp_all; done)
      · skip
        have hT : R = false := by rw [HR.out]; simp [hcode]
        subst hT
        clear HR
        have hE : True := trivial
        go_enter Tryd.func33, Tryd.ntmps33
        simp only [List.append_eq, List.cons_append, List.nil_append]
        go_wp2_with fail
        all_goals first
          | (go_ret; exact ⟨by first | rfl | simp [hE], ((Below.refl _ _).alloc (Nat.le_refl _) _).alloc (by simp) _⟩)
          | (exfalso; omega)
          | (exfalso; simp_all; done)
    · skip
      have hT : R = false := by rw [HR.out]; simp [hlast]
      subst hT
      clear HR
      have hE : True := trivial
      go_enter Tryd.func33, Tryd.ntmps33
      simp only [List.append_eq, List.cons_append, List.nil_append]
      go_wp2_with fail
      all_goals first
        | (go_ret; exact ⟨by first | rfl | simp [hE], ((Below.refl _ _).alloc (Nat.le_refl _) _).alloc (by simp) _⟩)
        | (exfalso; omega)
        | (exfalso; simp_all; done)
  · skip
    have hT : R = false := by rw [HR.out]; simp [hpad]
    subst hT
    clear HR
    have hE : True := trivial
    go_enter Tryd.func33, Tryd.ntmps33
    simp only [List.append_eq, List.cons_append, List.nil_append]
    go_wp2_with fail
    all_goals first
      | (go_ret; exact ⟨by first | rfl | simp [hE], ((Below.refl _ _).alloc (Nat.le_refl _) _).alloc (by simp) _⟩)
      | (exfalso; omega)
      | (exfalso; simp_all; done)

set_option maxRecDepth 100000 in
set_option maxHeartbeats 4000000 in
theorem bare_rst (t fl st : Int) (data : ByteArray) (pad : Int) (n : Nat) (code last inc dep weight : Int) (sole : Bool) (sa : Option Addr) (sc : Nat) (w : World) (R : Bool)
    (HR : Hid (R = ((false || decide (pad = 0)) && ((false || (decide (dep = 0) && (decide (weight = 0) && !sole))) && ((false || decide (last = 0)) && ((true || decide (code = 0)) && ((false || decide (inc = 0)) && ((false || decide (n = 0)) && (false || decide (data = ByteArray.empty)))))))))) :
    Calls Tryd.prog 33 #[.agg #[.int .i64 t, .int .i64 fl, .int .i64 st, .string data, .int .i64 pad, .slice sa n sc, .int .i64 code, .int .i64 last, .int .i64 inc, .int .i64 dep, .int .i64 weight, .bool sole], .agg #[.bool false, .bool false, .bool false, .bool true, .bool false, .bool false, .bool false]] w fun e w' => e = .returned (.bool R) ∧ Below w.heap.size w w' := by
  by_cases hpad : pad = 0
  · subst hpad
    by_cases hdep : dep = 0
    · subst hdep
      by_cases hweight : weight = 0
      · subst hweight
        cases hs : sole with
        | false =>
          subst hs
          by_cases hlast : last = 0
          · subst hlast
            by_cases hinc : inc = 0
            · subst hinc
              by_cases hn : n = 0
              · subst hn
                by_cases hdata : data = { data := #[] }
                · subst hdata
                  have hT : R = true := by rw [HR.out]; simp <;> rfl
                  subst hT
                  clear HR
                  have hE : True := trivial
                  go_enter Tryd.func33, Tryd.ntmps33
                  simp only [List.append_eq, List.cons_append, List.nil_append]
                  go_wp2_with fail
                  all_goals first
                    | (go_ret; exact ⟨by first | rfl | simp [hE], ((Below.refl _ _).alloc (Nat.le_refl _) _).alloc (by simp) _⟩)
                    | (exfalso; omega)
                    | (exfalso; simp_all; done)
                · have hdata2 : ¬ data = ByteArray.empty := hdata
                  have hT : R = false := by rw [HR.out]; simp [hdata2]
                  subst hT
                  clear HR
                  have hE : data.toList.isEmpty = false := by
                    rw [← decide_eq_emptyBytes]; exact decide_eq_false hdata
                  go_enter Tryd.func33, Tryd.ntmps33
                  simp only [List.append_eq, List.cons_append, List.nil_append]
                  go_wp2_with fail
                  all_goals first
                    | (go_ret; exact ⟨by first | rfl | simp [hE], ((Below.refl _ _).alloc (Nat.le_refl _) _).alloc (by simp) _⟩)
                    | (exfalso; omega)
                    | (exfalso; simp_all; done)
              · skip
                have hT : R = false := by rw [HR.out]; simp [hn]
                subst hT
                clear HR
                have hE : True := trivial
                go_enter Tryd.func33, Tryd.ntmps33
                simp only [List.append_eq, List.cons_append, List.nil_append]
                go_wp2_with fail
                all_goals first
                  | (go_ret; exact ⟨by first | rfl | simp [hE], ((Below.refl _ _).alloc (Nat.le_refl _) _).alloc (by simp) _⟩)
                  | (exfalso; omega)
                  | (exfalso; simp_all; done)
            · skip
              have hT : R = false := by rw [HR.out]; simp [hinc]
              subst hT
              clear HR
              have hE : True := trivial
              go_enter Tryd.func33, Tryd.ntmps33
              simp only [List.append_eq, List.cons_append, List.nil_append]
              go_wp2_with fail
              all_goals first
                | (go_ret; exact ⟨by first | rfl | simp [hE], ((Below.refl _ _).alloc (Nat.le_refl _) _).alloc (by simp) _⟩)
                | (exfalso; omega)
                | (exfalso; simp_all; done)
          · skip
            have hT : R = false := by rw [HR.out]; simp [hlast]
            subst hT
            clear HR
            have hE : True := trivial
            go_enter Tryd.func33, Tryd.ntmps33
            simp only [List.append_eq, List.cons_append, List.nil_append]
            go_wp2_with fail
            all_goals first
              | (go_ret; exact ⟨by first | rfl | simp [hE], ((Below.refl _ _).alloc (Nat.le_refl _) _).alloc (by simp) _⟩)
              | (exfalso; omega)
              | (exfalso; simp_all; done)
        | true =>
          subst hs
          have hT : R = false := by rw [HR.out]; simp
          subst hT
          clear HR
          have hE : True := trivial
          go_enter Tryd.func33, Tryd.ntmps33
          simp only [List.append_eq, List.cons_append, List.nil_append]
          go_wp2_with fail
          all_goals first
            | (go_ret; exact ⟨by first | rfl | simp [hE], ((Below.refl _ _).alloc (Nat.le_refl _) _).alloc (by simp) _⟩)
            | (exfalso; omega)
            | (exfalso; simp_all; done)
      · skip
        have hT : R = false := by rw [HR.out]; simp [hweight]
        subst hT
        clear HR
        have hE : True := trivial
        go_enter Tryd.func33, Tryd.ntmps33
        simp only [List.append_eq, List.cons_append, List.nil_append]
        go_wp2_with fail
        all_goals first
          | (go_ret; exact ⟨by first | rfl | simp [hE], ((Below.refl _ _).alloc (Nat.le_refl _) _).alloc (by simp) _⟩)
          | (exfalso; omega)
          | (exfalso; simp_all; done)
    · skip
      have hT : R = false := by rw [HR.out]; simp [hdep]
      subst hT
      clear HR
      have hE : True := trivial
      go_enter Tryd.func33, Tryd.ntmps33
      simp only [List.append_eq, List.cons_append, List.nil_append]
      go_wp2_with fail
      all_goals first
        | (go_ret; exact ⟨by first | rfl | simp [hE], ((Below.refl _ _).alloc (Nat.le_refl _) _).alloc (by simp) _⟩)
        | (exfalso; omega)
        | (exfalso; simp_all; done)
  · skip
    have hT : R = false := by rw [HR.out]; simp [hpad]
    subst hT
    clear HR
    have hE : True := trivial
    go_enter Tryd.func33, Tryd.ntmps33
    simp only [List.append_eq, List.cons_append, List.nil_append]
    go_wp2_with fail
    all_goals first
      | (go_ret; exact ⟨by first | rfl | simp [hE], ((Below.refl _ _).alloc (Nat.le_refl _) _).alloc (by simp) _⟩)
      | (exfalso; omega)
      | (exfalso; simp_all; done)

set_option maxRecDepth 100000 in
set_option maxHeartbeats 4000000 in
theorem bare_set (t fl st : Int) (data : ByteArray) (pad : Int) (n : Nat) (code last inc dep weight : Int) (sole : Bool) (sa : Option Addr) (sc : Nat) (w : World) (R : Bool)
    (HR : Hid (R = ((false || decide (pad = 0)) && ((false || (decide (dep = 0) && (decide (weight = 0) && !sole))) && ((false || decide (last = 0)) && ((false || decide (code = 0)) && ((false || decide (inc = 0)) && ((true || decide (n = 0)) && (false || decide (data = ByteArray.empty)))))))))) :
    Calls Tryd.prog 33 #[.agg #[.int .i64 t, .int .i64 fl, .int .i64 st, .string data, .int .i64 pad, .slice sa n sc, .int .i64 code, .int .i64 last, .int .i64 inc, .int .i64 dep, .int .i64 weight, .bool sole], .agg #[.bool false, .bool false, .bool false, .bool false, .bool false, .bool true, .bool false]] w fun e w' => e = .returned (.bool R) ∧ Below w.heap.size w w' := by
  by_cases hpad : pad = 0
  · subst hpad
    by_cases hdep : dep = 0
    · subst hdep
      by_cases hweight : weight = 0
      · subst hweight
        cases hs : sole with
        | false =>
          subst hs
          by_cases hlast : last = 0
          · subst hlast
            by_cases hcode : code = 0
            · subst hcode
              by_cases hinc : inc = 0
              · subst hinc
                by_cases hdata : data = { data := #[] }
                · subst hdata
                  have hT : R = true := by rw [HR.out]; simp <;> rfl
                  subst hT
                  clear HR
                  have hE : True := trivial
                  go_enter Tryd.func33, Tryd.ntmps33
                  simp only [List.append_eq, List.cons_append, List.nil_append]
                  go_wp2_with fail
                  all_goals first
                    | (go_ret; exact ⟨by first | rfl | simp [hE], ((Below.refl _ _).alloc (Nat.le_refl _) _).alloc (by simp) _⟩)
                    | (exfalso; omega)
                    | (exfalso; simp_all; done)
                · have hdata2 : ¬ data = ByteArray.empty := hdata
                  have hT : R = false := by rw [HR.out]; simp [hdata2]
                  subst hT
                  clear HR
                  have hE : data.toList.isEmpty = false := by
                    rw [← decide_eq_emptyBytes]; exact decide_eq_false hdata
                  go_enter Tryd.func33, Tryd.ntmps33
                  simp only [List.append_eq, List.cons_append, List.nil_append]
                  go_wp2_with fail
                  all_goals first
                    | (go_ret; exact ⟨by first | rfl | simp [hE], ((Below.refl _ _).alloc (Nat.le_refl _) _).alloc (by simp) _⟩)
                    | (exfalso; omega)
                    | (exfalso; simp_all; done)
              · skip
                have hT : R = false := by rw [HR.out]; simp [hinc]
                subst hT
                clear HR
                have hE : True := trivial
                go_enter Tryd.func33, Tryd.ntmps33
                simp only [List.append_eq, List.cons_append, List.nil_append]
                go_wp2_with fail
                all_goals first
                  | (go_ret; exact ⟨by first | rfl | simp [hE], ((Below.refl _ _).alloc (Nat.le_refl _) _).alloc (by simp) _⟩)
                  | (exfalso; omega)
                  | (exfalso; simp_all; done)
            · skip
              have hT : R = false := by rw [HR.out]; simp [hcode]
              subst hT
              clear HR
              have hE : True := trivial
              go_enter Tryd.func33, Tryd.ntmps33
              simp only [List.append_eq, List.cons_append, List.nil_append]
              go_wp2_with fail
              all_goals first
                | (go_ret; exact ⟨by first | rfl | simp [hE], ((Below.refl _ _).alloc (Nat.le_refl _) _).alloc (by simp) _⟩)
                | (exfalso; omega)
                | (exfalso; simp_all; done)
          · skip
            have hT : R = false := by rw [HR.out]; simp [hlast]
            subst hT
            clear HR
            have hE : True := trivial
            go_enter Tryd.func33, Tryd.ntmps33
            simp only [List.append_eq, List.cons_append, List.nil_append]
            go_wp2_with fail
            all_goals first
              | (go_ret; exact ⟨by first | rfl | simp [hE], ((Below.refl _ _).alloc (Nat.le_refl _) _).alloc (by simp) _⟩)
              | (exfalso; omega)
              | (exfalso; simp_all; done)
        | true =>
          subst hs
          have hT : R = false := by rw [HR.out]; simp
          subst hT
          clear HR
          have hE : True := trivial
          go_enter Tryd.func33, Tryd.ntmps33
          simp only [List.append_eq, List.cons_append, List.nil_append]
          go_wp2_with fail
          all_goals first
            | (go_ret; exact ⟨by first | rfl | simp [hE], ((Below.refl _ _).alloc (Nat.le_refl _) _).alloc (by simp) _⟩)
            | (exfalso; omega)
            | (exfalso; simp_all; done)
      · skip
        have hT : R = false := by rw [HR.out]; simp [hweight]
        subst hT
        clear HR
        have hE : True := trivial
        go_enter Tryd.func33, Tryd.ntmps33
        simp only [List.append_eq, List.cons_append, List.nil_append]
        go_wp2_with fail
        all_goals first
          | (go_ret; exact ⟨by first | rfl | simp [hE], ((Below.refl _ _).alloc (Nat.le_refl _) _).alloc (by simp) _⟩)
          | (exfalso; omega)
          | (exfalso; simp_all; done)
    · skip
      have hT : R = false := by rw [HR.out]; simp [hdep]
      subst hT
      clear HR
      have hE : True := trivial
      go_enter Tryd.func33, Tryd.ntmps33
      simp only [List.append_eq, List.cons_append, List.nil_append]
      go_wp2_with fail
      all_goals first
        | (go_ret; exact ⟨by first | rfl | simp [hE], ((Below.refl _ _).alloc (Nat.le_refl _) _).alloc (by simp) _⟩)
        | (exfalso; omega)
        | (exfalso; simp_all; done)
  · skip
    have hT : R = false := by rw [HR.out]; simp [hpad]
    subst hT
    clear HR
    have hE : True := trivial
    go_enter Tryd.func33, Tryd.ntmps33
    simp only [List.append_eq, List.cons_append, List.nil_append]
    go_wp2_with fail
    all_goals first
      | (go_ret; exact ⟨by first | rfl | simp [hE], ((Below.refl _ _).alloc (Nat.le_refl _) _).alloc (by simp) _⟩)
      | (exfalso; omega)
      | (exfalso; simp_all; done)

set_option maxRecDepth 100000 in
set_option maxHeartbeats 4000000 in
theorem bare_bye (t fl st : Int) (data : ByteArray) (pad : Int) (n : Nat) (code last inc dep weight : Int) (sole : Bool) (sa : Option Addr) (sc : Nat) (w : World) (R : Bool)
    (HR : Hid (R = ((false || decide (pad = 0)) && ((false || (decide (dep = 0) && (decide (weight = 0) && !sole))) && ((true || decide (last = 0)) && ((true || decide (code = 0)) && ((false || decide (inc = 0)) && ((false || decide (n = 0)) && (true || decide (data = ByteArray.empty)))))))))) :
    Calls Tryd.prog 33 #[.agg #[.int .i64 t, .int .i64 fl, .int .i64 st, .string data, .int .i64 pad, .slice sa n sc, .int .i64 code, .int .i64 last, .int .i64 inc, .int .i64 dep, .int .i64 weight, .bool sole], .agg #[.bool false, .bool false, .bool true, .bool true, .bool false, .bool false, .bool true]] w fun e w' => e = .returned (.bool R) ∧ Below w.heap.size w w' := by
  by_cases hpad : pad = 0
  · subst hpad
    by_cases hdep : dep = 0
    · subst hdep
      by_cases hweight : weight = 0
      · subst hweight
        cases hs : sole with
        | false =>
          subst hs
          by_cases hinc : inc = 0
          · subst hinc
            by_cases hn : n = 0
            · subst hn
              have hT : R = true := by rw [HR.out]; simp
              subst hT
              clear HR
              have hE : True := trivial
              go_enter Tryd.func33, Tryd.ntmps33
              simp only [List.append_eq, List.cons_append, List.nil_append]
              go_wp2_with fail
              all_goals first
                | (go_ret; exact ⟨by first | rfl | simp [hE], ((Below.refl _ _).alloc (Nat.le_refl _) _).alloc (by simp) _⟩)
                | (exfalso; omega)
                | (exfalso; simp_all; done)
            · skip
              have hT : R = false := by rw [HR.out]; simp [hn]
              subst hT
              clear HR
              have hE : True := trivial
              go_enter Tryd.func33, Tryd.ntmps33
              simp only [List.append_eq, List.cons_append, List.nil_append]
              go_wp2_with fail
              all_goals first
                | (go_ret; exact ⟨by first | rfl | simp [hE], ((Below.refl _ _).alloc (Nat.le_refl _) _).alloc (by simp) _⟩)
                | (exfalso; omega)
                | (exfalso; simp_all; done)
          · skip
            have hT : R = false := by rw [HR.out]; simp [hinc]
            subst hT
            clear HR
            have hE : True := trivial
            go_enter Tryd.func33, Tryd.ntmps33
            simp only [List.append_eq, List.cons_append, List.nil_append]
            go_wp2_with fail
            all_goals first
              | (go_ret; exact ⟨by first | rfl | simp [hE], ((Below.refl _ _).alloc (Nat.le_refl _) _).alloc (by simp) _⟩)
              | (exfalso; omega)
              | (exfalso; simp_all; done)
        | true =>
          subst hs
          have hT : R = false := by rw [HR.out]; simp
          subst hT
          clear HR
          have hE : True := trivial
          go_enter Tryd.func33, Tryd.ntmps33
          simp only [List.append_eq, List.cons_append, List.nil_append]
          go_wp2_with fail
          all_goals first
            | (go_ret; exact ⟨by first | rfl | simp [hE], ((Below.refl _ _).alloc (Nat.le_refl _) _).alloc (by simp) _⟩)
            | (exfalso; omega)
            | (exfalso; simp_all; done)
      · skip
        have hT : R = false := by rw [HR.out]; simp [hweight]
        subst hT
        clear HR
        have hE : True := trivial
        go_enter Tryd.func33, Tryd.ntmps33
        simp only [List.append_eq, List.cons_append, List.nil_append]
        go_wp2_with fail
        all_goals first
          | (go_ret; exact ⟨by first | rfl | simp [hE], ((Below.refl _ _).alloc (Nat.le_refl _) _).alloc (by simp) _⟩)
          | (exfalso; omega)
          | (exfalso; simp_all; done)
    · skip
      have hT : R = false := by rw [HR.out]; simp [hdep]
      subst hT
      clear HR
      have hE : True := trivial
      go_enter Tryd.func33, Tryd.ntmps33
      simp only [List.append_eq, List.cons_append, List.nil_append]
      go_wp2_with fail
      all_goals first
        | (go_ret; exact ⟨by first | rfl | simp [hE], ((Below.refl _ _).alloc (Nat.le_refl _) _).alloc (by simp) _⟩)
        | (exfalso; omega)
        | (exfalso; simp_all; done)
  · skip
    have hT : R = false := by rw [HR.out]; simp [hpad]
    subst hT
    clear HR
    have hE : True := trivial
    go_enter Tryd.func33, Tryd.ntmps33
    simp only [List.append_eq, List.cons_append, List.nil_append]
    go_wp2_with fail
    all_goals first
      | (go_ret; exact ⟨by first | rfl | simp [hE], ((Below.refl _ _).alloc (Nat.le_refl _) _).alloc (by simp) _⟩)
      | (exfalso; omega)
      | (exfalso; simp_all; done)

set_option maxRecDepth 100000 in
set_option maxHeartbeats 4000000 in
theorem bare_win (t fl st : Int) (data : ByteArray) (pad : Int) (n : Nat) (code last inc dep weight : Int) (sole : Bool) (sa : Option Addr) (sc : Nat) (w : World) (R : Bool)
    (HR : Hid (R = ((false || decide (pad = 0)) && ((false || (decide (dep = 0) && (decide (weight = 0) && !sole))) && ((false || decide (last = 0)) && ((false || decide (code = 0)) && ((true || decide (inc = 0)) && ((false || decide (n = 0)) && (false || decide (data = ByteArray.empty)))))))))) :
    Calls Tryd.prog 33 #[.agg #[.int .i64 t, .int .i64 fl, .int .i64 st, .string data, .int .i64 pad, .slice sa n sc, .int .i64 code, .int .i64 last, .int .i64 inc, .int .i64 dep, .int .i64 weight, .bool sole], .agg #[.bool false, .bool false, .bool false, .bool false, .bool true, .bool false, .bool false]] w fun e w' => e = .returned (.bool R) ∧ Below w.heap.size w w' := by
  by_cases hpad : pad = 0
  · subst hpad
    by_cases hdep : dep = 0
    · subst hdep
      by_cases hweight : weight = 0
      · subst hweight
        cases hs : sole with
        | false =>
          subst hs
          by_cases hlast : last = 0
          · subst hlast
            by_cases hcode : code = 0
            · subst hcode
              by_cases hn : n = 0
              · subst hn
                by_cases hdata : data = { data := #[] }
                · subst hdata
                  have hT : R = true := by rw [HR.out]; simp <;> rfl
                  subst hT
                  clear HR
                  have hE : True := trivial
                  go_enter Tryd.func33, Tryd.ntmps33
                  simp only [List.append_eq, List.cons_append, List.nil_append]
                  go_wp2_with fail
                  all_goals first
                    | (go_ret; exact ⟨by first | rfl | simp [hE], ((Below.refl _ _).alloc (Nat.le_refl _) _).alloc (by simp) _⟩)
                    | (exfalso; omega)
                    | (exfalso; simp_all; done)
                · have hdata2 : ¬ data = ByteArray.empty := hdata
                  have hT : R = false := by rw [HR.out]; simp [hdata2]
                  subst hT
                  clear HR
                  have hE : data.toList.isEmpty = false := by
                    rw [← decide_eq_emptyBytes]; exact decide_eq_false hdata
                  go_enter Tryd.func33, Tryd.ntmps33
                  simp only [List.append_eq, List.cons_append, List.nil_append]
                  go_wp2_with fail
                  all_goals first
                    | (go_ret; exact ⟨by first | rfl | simp [hE], ((Below.refl _ _).alloc (Nat.le_refl _) _).alloc (by simp) _⟩)
                    | (exfalso; omega)
                    | (exfalso; simp_all; done)
              · skip
                have hT : R = false := by rw [HR.out]; simp [hn]
                subst hT
                clear HR
                have hE : True := trivial
                go_enter Tryd.func33, Tryd.ntmps33
                simp only [List.append_eq, List.cons_append, List.nil_append]
                go_wp2_with fail
                all_goals first
                  | (go_ret; exact ⟨by first | rfl | simp [hE], ((Below.refl _ _).alloc (Nat.le_refl _) _).alloc (by simp) _⟩)
                  | (exfalso; omega)
                  | (exfalso; simp_all; done)
            · skip
              have hT : R = false := by rw [HR.out]; simp [hcode]
              subst hT
              clear HR
              have hE : True := trivial
              go_enter Tryd.func33, Tryd.ntmps33
              simp only [List.append_eq, List.cons_append, List.nil_append]
              go_wp2_with fail
              all_goals first
                | (go_ret; exact ⟨by first | rfl | simp [hE], ((Below.refl _ _).alloc (Nat.le_refl _) _).alloc (by simp) _⟩)
                | (exfalso; omega)
                | (exfalso; simp_all; done)
          · skip
            have hT : R = false := by rw [HR.out]; simp [hlast]
            subst hT
            clear HR
            have hE : True := trivial
            go_enter Tryd.func33, Tryd.ntmps33
            simp only [List.append_eq, List.cons_append, List.nil_append]
            go_wp2_with fail
            all_goals first
              | (go_ret; exact ⟨by first | rfl | simp [hE], ((Below.refl _ _).alloc (Nat.le_refl _) _).alloc (by simp) _⟩)
              | (exfalso; omega)
              | (exfalso; simp_all; done)
        | true =>
          subst hs
          have hT : R = false := by rw [HR.out]; simp
          subst hT
          clear HR
          have hE : True := trivial
          go_enter Tryd.func33, Tryd.ntmps33
          simp only [List.append_eq, List.cons_append, List.nil_append]
          go_wp2_with fail
          all_goals first
            | (go_ret; exact ⟨by first | rfl | simp [hE], ((Below.refl _ _).alloc (Nat.le_refl _) _).alloc (by simp) _⟩)
            | (exfalso; omega)
            | (exfalso; simp_all; done)
      · skip
        have hT : R = false := by rw [HR.out]; simp [hweight]
        subst hT
        clear HR
        have hE : True := trivial
        go_enter Tryd.func33, Tryd.ntmps33
        simp only [List.append_eq, List.cons_append, List.nil_append]
        go_wp2_with fail
        all_goals first
          | (go_ret; exact ⟨by first | rfl | simp [hE], ((Below.refl _ _).alloc (Nat.le_refl _) _).alloc (by simp) _⟩)
          | (exfalso; omega)
          | (exfalso; simp_all; done)
    · skip
      have hT : R = false := by rw [HR.out]; simp [hdep]
      subst hT
      clear HR
      have hE : True := trivial
      go_enter Tryd.func33, Tryd.ntmps33
      simp only [List.append_eq, List.cons_append, List.nil_append]
      go_wp2_with fail
      all_goals first
        | (go_ret; exact ⟨by first | rfl | simp [hE], ((Below.refl _ _).alloc (Nat.le_refl _) _).alloc (by simp) _⟩)
        | (exfalso; omega)
        | (exfalso; simp_all; done)
  · skip
    have hT : R = false := by rw [HR.out]; simp [hpad]
    subst hT
    clear HR
    have hE : True := trivial
    go_enter Tryd.func33, Tryd.ntmps33
    simp only [List.append_eq, List.cons_append, List.nil_append]
    go_wp2_with fail
    all_goals first
      | (go_ret; exact ⟨by first | rfl | simp [hE], ((Below.refl _ _).alloc (Nat.le_refl _) _).alloc (by simp) _⟩)
      | (exfalso; omega)
      | (exfalso; simp_all; done)

theorem pbare_any (f : FrM) (p : PtM) (hp : PtOk p) (sa : Option Addr) (sc : Nat) (w : World) :
    Calls Tryd.prog 33 #[frV f sa sc, .agg (ptC p)] w fun e w' => e = .returned (.bool (bareB f p)) ∧ Below w.heap.size w w' := by
  obtain ⟨t, fl, st, data, pad, sets, code, last, inc, dep, weight, sole⟩ := f
  unfold frV frC
  simp only
  cases hp with
  | dat a b =>
    cases a <;> cases b
    · exact bare_dat00 _ _ _ _ _ _ _ _ _ _ _ _ _ _ _ _ (Lib.hid (bare_eq _ _ _ _ _ _ _ _ rfl _ _ _ _ _ _))
    · exact bare_dat01 _ _ _ _ _ _ _ _ _ _ _ _ _ _ _ _ (Lib.hid (bare_eq _ _ _ _ _ _ _ _ rfl _ _ _ _ _ _))
    · exact bare_dat10 _ _ _ _ _ _ _ _ _ _ _ _ _ _ _ _ (Lib.hid (bare_eq _ _ _ _ _ _ _ _ rfl _ _ _ _ _ _))
    · exact bare_dat11 _ _ _ _ _ _ _ _ _ _ _ _ _ _ _ _ (Lib.hid (bare_eq _ _ _ _ _ _ _ _ rfl _ _ _ _ _ _))
  | pri => exact bare_pri _ _ _ _ _ _ _ _ _ _ _ _ _ _ _ _ (Lib.hid (bare_eq _ _ _ _ _ _ _ _ rfl _ _ _ _ _ _))
  | rst => exact bare_rst _ _ _ _ _ _ _ _ _ _ _ _ _ _ _ _ (Lib.hid (bare_eq _ _ _ _ _ _ _ _ rfl _ _ _ _ _ _))
  | set => exact bare_set _ _ _ _ _ _ _ _ _ _ _ _ _ _ _ _ (Lib.hid (bare_eq _ _ _ _ _ _ _ _ rfl _ _ _ _ _ _))
  | bye => exact bare_bye _ _ _ _ _ _ _ _ _ _ _ _ _ _ _ _ (Lib.hid (bare_eq _ _ _ _ _ _ _ _ rfl _ _ _ _ _ _))
  | win => exact bare_win _ _ _ _ _ _ _ _ _ _ _ _ _ _ _ _ (Lib.hid (bare_eq _ _ _ _ _ _ _ _ rfl _ _ _ _ _ _))
end Go.Proofs.YtdilgkkkhmmffaaDoor
