/- Layer 5: the program's reading: add, resize. Layer 5: the program's reading: one part of a block. -/
import Derived.Test.YtdkgachgohilcaaDoorGP20
set_option linter.unusedVariables false
set_option linter.unusedSimpArgs false
namespace Go.Proofs.YtdkgachgohilcaaDoor
open Go.RowKit
open Huf Pre Tab Hpk Arg Mem Gen Wr Go.Proofs.YtdkgachgohilcaaDoor.Obj
set_option linter.unusedVariables false
variable {B : Nat} {w0 w : World} {L0 L : List Nat} {r : Nat} {d : RD} {X : List Nat}

theorem RX.room {b : Nat} (h : RX B w0 L0 r [b] d w) (S : Int) (hS : -10000000000 ≤ S ∧ S ≤ 10000000000) (hhad : d.had ≤ 100000) :
    Calls Tryd.prog 72 #[.pointer (some ⟨r, 0, none⟩), .int .i64 S] w fun e w' => e = .returned (.tuple #[]) ∧ (∃ k g, k ≤ d.k ∧ k ≤ (fit S.toNat d.rows).length ∧ (S < 0 → k = 0) ∧ RX B w0 L0 r [b] { d with k := k, gn := g } w') ∧ w'.heap[b]? = w.heap[b]? := by
  obtain ⟨L1, hR, hU⟩ := h.use
  refine (proom_any S hS hR hhad).mono ?_
  rintro e w' ⟨rfl, k, g, h1, h2, h3, h4⟩
  obtain ⟨h5, h6⟩ := hU { d with k := k, gn := g } w' rfl h4
  exact ⟨rfl, ⟨k, g, h1, h2, h3, h5⟩, h6 b (by simp)⟩
theorem RX.cell0 {X : List Nat} (h : RX B w0 L0 r X d w) : w.cell? ⟨r, 0, none⟩ = some (.pointer (some ⟨d.t, 0, none⟩)) := by
  obtain ⟨L, ra, rc, fa, fc, fl, ga, gc, gl, hh, _⟩ := h.done
  exact cell_at hh 0
theorem RX.tab {X : List Nat} (h : RX B w0 L0 r X d w) : ∃ L, PTab w L d.t d.m d.rows d.c := by
  obtain ⟨L, ra, rc, fa, fc, fl, ga, gc, gl, hh, hp, _⟩ := h.done
  exact ⟨L, hp.tab⟩
theorem RIn.k_le (h : RIn B w0 L0 r d w) : d.k ≤ d.rows.length := by
  obtain ⟨L, ra, rc, fa, fc, fl, ga, gc, gl, hh, hp, hr⟩ := h
  exact hr.2.2.2.2.2
/-- The table has turned. -/
theorem RIn.turned {L : List Nat} {ra : Option Addr} {rc : Nat} {fa : Option Addr} {fc : Nat} {fl : List FdM} {ga : Option Addr} {gc : Nat} {gl : List FdM} {w' : World} {L' : List Nat} {m' c' : Nat} {rows' : List FdM}
    (hh : w.heap[r]? = some (.cells (rCells d.t d.md d.ld ra d.rest.length rc d.sizes d.cst fa fl.length fc d.had ga gl.length gc) 70 (0, 0))) (hp : RP B w0 L0 L r d.bk d.t d.m d.c d.rows ra rc d.rest fa fc fl ga gc gl w)
    (hr : (d.cst ≤ d.ld → fl = d.out) ∧ fl.length ≤ d.out.length ∧ gl.length = d.gn ∧ d.gn ≤ d.had ∧ d.had ≤ d.k + d.gn ∧ d.k ≤ d.rows.length)
    (ht : PTab w' L' d.t m' rows' c') (hk : Kept L w w') (hL : ∀ k ∈ L', k ∈ L ∨ w.heap.size ≤ k) (hle : d.k ≤ rows'.length) : RIn B w0 L0 r { d with m := m', rows := rows', c := c' } w' :=
  ⟨L', ra, rc, fa, fc, fl, ga, gc, gl, hk.at hh hp.rno, hp.turned ht hk hL, hr.1, hr.2.1, hr.2.2.1, hr.2.2.2.1, hr.2.2.2.2.1, hle⟩

set_option maxRecDepth 100000 in
set_option maxHeartbeats 2000000 in
theorem padd2_any (f : FdM) (h : RIn B w0 L0 r d w) (hn : f.name.size ≤ 1000000000) (hv : f.value.size ≤ 1000000000) (hhad : d.had ≤ 100000) (hc : d.c < 1000000) :
    Calls Tryd.prog 54 #[.pointer (some ⟨r, 0, none⟩), .agg #[.string f.name, .string f.value, .bool f.never]] w fun e w' => e = .returned (.tuple #[]) ∧ ∃ k g, RIn B w0 L0 r { d with rows := addT d.m d.rows f, c := d.c + 1, k := k, gn := g } w' := by
  have hX := (RX.start h).alloc (.cells #[.string f.name, .string f.value, .bool f.never] 59)
  have hbx := fd_box w f
  generalize hwn : (w.alloc (.cells #[.string f.name, .string f.value, .bool f.never] 59)) = w1 at hX hbx
  generalize hbn : w.heap.size = b at hX hbx
  have HWN := Lib.hid hwn
  have HBN := Lib.hid hbn
  have HBX := Lib.hid hbx
  obtain ⟨q0, q1, q2⟩ := box_cells hbx
  have c0 := hX.cell0
  obtain ⟨L, hT⟩ := hX.tab
  have hsum := hT.sum
  have hcf : cost f ≤ 3000000000 := by unfold cost; omega
  have HMo := Lib.hid (fun v (hv : Below w1.heap.size w1 v) => pmost_any L d.t d.m d.c d.rows v (hT.below hv))
  have HCo := Lib.hid (fun v => phcost_any f v (by omega) (by omega))
  have HRo := Lib.hid (fun v (hv : Below w1.heap.size w1 v) => (hX.below hv).room ((d.m : Int) - (cost f : Nat)) (by omega) hhad)
  have hsub : IntKind.i64.wrap ((d.m : Int) - (cost f : Nat)) = (d.m : Int) - (cost f : Nat) := IntWalk.i64_in _ (by omega)
  have hsub2 : wrap64 ((d.m : Int) - (cost f : Nat)) = (d.m : Int) - (cost f : Nat) := IntWalk.wrap64_in _ (by omega)
  have hb0 : Below w1.heap.size w1 w1.drew := (Below.refl _ _).drew
  obtain ⟨C, hC⟩ : ∃ C, C = cost f := ⟨_, rfl⟩
  rw [← hC] at hcf HCo HRo hsub hsub2
  have HC := Lib.hid hC
  clear hwn hbn hbx hX hT h hC
  go_enter Tryd.func54, Tryd.ntmps54
  go_wp2_with fail
  simp only [HWN.out, HBN.out]
  go_region_held3 (fun v => v.cell? ⟨r, 0, none⟩ = some (.pointer (some ⟨d.t, 0, none⟩)) ∧ v.cell? ⟨b, 0, none⟩ = some (.string f.name) ∧ v.cell? ⟨b, 1, none⟩ = some (.string f.value) ∧ v.cell? ⟨b, 2, none⟩ = some (.bool f.never))
    (first | exact hS7 | go_keep | exact ⟨below_cell hb0 c0, below_cell hb0 q0, below_cell hb0 q1, below_cell hb0 q2⟩)
    ((first | (go_at_call 68; refine (HCo.out _).mono ?_; rintro e w2 ⟨rfl, b2⟩; replace hb0 := below_step hb0 b2)
            | (go_at_call 61; refine (HMo.out _ hb0).mono ?_; rintro e w2 ⟨rfl, b2⟩; replace hb0 := below_step hb0 b2)
            | (go_at_call 72; refine (HRo.out _ hb0).mono ?_; rintro e w3 ⟨rfl, ⟨k, g, hk1, hk2, hk3, hX3⟩, hbk3⟩; have hb3 := hbk3.trans (block_below hb0 HBX.out); have hcs3 := box_cells hb3; have hS7 := (⟨hX3.cell0, hcs3.1, hcs3.2.1, hcs3.2.2⟩ : _ ∧ _ ∧ _ ∧ _))))
  all_goals
    obtain ⟨L3, ra, rc, fa, fc, fl, ga, gc, gl, hh, hp, hr⟩ := hX3.done
    have d0 := hX3.cell0
    obtain ⟨p0, p1, p2⟩ := hcs3
    have hb0 : Below w3.heap.size w3 w3.drew := (Below.refl _ _).drew
    have HA := Lib.hid (fun v (hv : Below w3.heap.size w3 v) => padd_any L3 d.t d.m d.c d.rows f v (hp.tab.below hv) hc (by omega) (by omega))
    have HE : Hid (∀ v w4 L', Below w3.heap.size w3 v → PTab w4 L' d.t d.m (addT d.m d.rows f) (d.c + 1) → Kept L3 v w4 → (∀ k ∈ L', k ∈ L3 ∨ v.heap.size ≤ k) → ∃ k g, RIn B w0 L0 r { d with rows := addT d.m d.rows f, c := d.c + 1, k := k, gn := g } w4) := Lib.hid (fun v w4 L' hv ht hk hL =>
      ⟨k, g, RIn.turned (d := { d with k := k, gn := g }) (block_below hv hh) (hp.below hv) hr ht hk hL (by
        simp only
        rw [addT]
        split
        · rename_i hlt
          have := hk3 (by rw [HC.out]; omega)
          simp only [List.length_nil]; omega
        · rename_i hlt
          rw [List.length_cons]
          have e : ((d.m : Int) - C).toNat = d.m - cost f := by rw [HC.out]; omega
          rw [e] at hk2
          omega)⟩)
    clear c0 q0 q1 q2 hh hp hr hS7 hX3 hbk3
    go_wp2_with fail
    go_region_with ((go_at_call 73; refine (HA.out _ hb0).mono ?_; rintro e w4 ⟨rfl, L', ht, hk, hL'⟩))
    all_goals
      go_end0
      exact ⟨rfl, HE.out _ w4 L' hb0 ht hk hL'⟩

set_option maxRecDepth 100000 in
set_option maxHeartbeats 2000000 in
theorem presz_any (n : Nat) (h : RIn B w0 L0 r d w) (hhad : d.had ≤ 100000) (hn : n ≤ 2147483647) (hmd : d.md ≤ 65536) (hsz : d.sizes ≤ 1000000000) :
    Calls Tryd.prog 55 #[.pointer (some ⟨r, 0, none⟩), .int .i64 n] w fun e w' =>
      ((0 < d.cst ∨ 2 < d.sizes + 1 ∨ d.md < n) ∧ e = .panicked (panE 50) ∧ ∃ d2 : RD, (d2.bk, d2.had) = (d.bk, d.had) ∧ RIn B w0 L0 r d2 w') ∨
      (¬ (0 < d.cst ∨ 2 < d.sizes + 1 ∨ d.md < n) ∧ e = .returned (.tuple #[]) ∧ ∃ k g, RIn B w0 L0 r { d with sizes := d.sizes + 1, m := n, rows := fit n d.rows, k := k, gn := g } w') := by
  obtain ⟨L, ra, rc, fa, fc, fl, ga, gc, gl, hh, hp, hr⟩ := h
  have c4 : w.cell? ⟨r, 4, none⟩ = some (.int .i64 d.sizes) := cell_at hh 4
  have z4 := frozen_of_row _ _ 4 _ _ hh
  have hset := heap_setCell_same w r 4 _ _ (.int .i64 (d.sizes + 1 : Nat)) hh
  have hR1 : RIn B w0 L0 r { d with sizes := d.sizes + 1 } (w.setCell ⟨r, 4, none⟩ (.int .i64 (d.sizes + 1 : Nat))) := ⟨L, ra, rc, fa, fc, fl, ga, gc, gl, hset, hp.set 4 _, hr⟩
  have e1 : w.cell? ⟨r, 1, none⟩ = some (.int .i64 d.md) := cell_at hh 1
  have e5 : w.cell? ⟨r, 5, none⟩ = some (.int .i64 d.cst) := cell_at hh 5
  have hadd : wrap64 ((d.sizes : Int) + 1) = ((d.sizes + 1 : Nat) : Int) := by rw [IntWalk.wrap64_in _ (by omega)]; omega
  have hadd' : (d.sizes : Int) + 1 = ((d.sizes + 1 : Nat) : Int) := by omega
  obtain ⟨z, hz⟩ : ∃ z, z = d.sizes + 1 := ⟨_, rfl⟩
  rw [← hz] at hset hR1 hadd hadd' ⊢
  generalize hwn : (w.setCell ⟨r, 4, none⟩ (.int .i64 z)) = w1 at hset hR1
  have HWN := Lib.hid hwn
  have HR1 := Lib.hid hR1
  have HBad : Hid ((0 < d.cst ∨ 2 < z ∨ d.md < n) → (fun (e : Ending) (w' : World) => ((0 < d.cst ∨ 2 < z ∨ d.md < n) ∧ e = .panicked (panE 50) ∧ ∃ d2 : RD, (d2.bk, d2.had) = (d.bk, d.had) ∧ RIn B w0 L0 r d2 w') ∨ (¬ (0 < d.cst ∨ 2 < z ∨ d.md < n) ∧ e = .returned (.tuple #[]) ∧ ∃ k g, RIn B w0 L0 r { d with sizes := z, m := n, rows := fit n d.rows, k := k, gn := g } w')) (.panicked (panE 50)) w1) := Lib.hid (fun hb => .inl ⟨hb, rfl, { d with sizes := z }, rfl, hR1⟩)
  have HGood : Hid (¬ (0 < d.cst ∨ 2 < z ∨ d.md < n) → ∀ k g v, RIn B w0 L0 r { d with sizes := z, m := n, rows := fit n d.rows, k := k, gn := g } v → (fun (e : Ending) (w' : World) => ((0 < d.cst ∨ 2 < z ∨ d.md < n) ∧ e = .panicked (panE 50) ∧ ∃ d2 : RD, (d2.bk, d2.had) = (d.bk, d.had) ∧ RIn B w0 L0 r d2 w') ∨ (¬ (0 < d.cst ∨ 2 < z ∨ d.md < n) ∧ e = .returned (.tuple #[]) ∧ ∃ k g, RIn B w0 L0 r { d with sizes := z, m := n, rows := fit n d.rows, k := k, gn := g } w')) (.returned (.tuple #[])) v) := Lib.hid (fun hb k g v hv => .inr ⟨hb, rfl, k, g, hv⟩)
  generalize (fun (e : Ending) (w' : World) => ((0 < d.cst ∨ 2 < z ∨ d.md < n) ∧ e = .panicked (panE 50) ∧ ∃ d2 : RD, (d2.bk, d2.had) = (d.bk, d.had) ∧ RIn B w0 L0 r d2 w') ∨ (¬ (0 < d.cst ∨ 2 < z ∨ d.md < n) ∧ e = .returned (.tuple #[]) ∧ ∃ k g, RIn B w0 L0 r { d with sizes := z, m := n, rows := fit n d.rows, k := k, gn := g } w')) = R at HBad HGood ⊢
  clear hh hp hr hset hwn hR1 hz
  by_cases hbad : 0 < d.cst ∨ 2 < z ∨ d.md < n
  · have HE := Lib.hid (HBad.out hbad)
    by_cases h1 : 0 < d.cst
    · have h1' : (0 : Int) < d.cst := by omega
      clear hbad
      go_enter Tryd.func55, Tryd.ntmps55
      go_wp2_with fail
      simp only [HWN.out]
      exact ⟨rfl, HE.out⟩
    · have h1' : ¬ (0 : Int) < d.cst := by omega
      by_cases h2 : 2 < z
      · have h2' : (2 : Int) < z := by omega
        clear hbad
        go_enter Tryd.func55, Tryd.ntmps55
        go_wp2_with fail
        simp only [HWN.out]
        exact ⟨rfl, HE.out⟩
      · have h2' : ¬ (2 : Int) < z := by omega
        have h3' : (d.md : Int) < n := by omega
        clear hbad
        go_enter Tryd.func55, Tryd.ntmps55
        go_wp2_with fail
        simp only [HWN.out]
        exact ⟨rfl, HE.out⟩
  · have h1' : ¬ (0 : Int) < d.cst := by omega
    have h2' : ¬ (2 : Int) < z := by omega
    have h3' : ¬ (d.md : Int) < n := by omega
    have HB := Lib.hid (HGood.out hbad)
    have HRo := Lib.hid (proom_any (n : Int) (by omega) HR1.out (by simpa using hhad))
    have HMo := Lib.hid (fun v => pmust_ok v)
    have hn2 : n ≤ 65536 := by omega
    clear hbad
    go_enter Tryd.func55, Tryd.ntmps55
    go_wp2_with fail
    simp only [HWN.out]
    refine HRo.out.mono ?_; rintro e w2 ⟨rfl, k, g, hk1, hk2, hk3, hR2⟩
    obtain ⟨L3, ra, rc, fa, fc, fl, ga, gc, gl, hh, hp, hr⟩ := hR2
    have d0 : w2.cell? ⟨r, 0, none⟩ = some (.pointer (some ⟨d.t, 0, none⟩)) := cell_at hh 0
    have HA := Lib.hid (presize_ok L3 d.t d.m n d.c d.rows w2 hp.tab hn2)
    simp only [Int.toNat_natCast] at hk2
    have HE : Hid (∀ w4 L', PTab w4 L' d.t n (fit n d.rows) d.c → Kept L3 w2 w4 → (∀ k ∈ L', k ∈ L3 ∨ w2.heap.size ≤ k) → RIn B w0 L0 r { d with sizes := z, m := n, rows := fit n d.rows, k := k, gn := g } w4) := Lib.hid (fun w4 L' ht hk hL =>
      RIn.turned (d := { d with sizes := z, k := k, gn := g }) hh hp hr ht hk hL hk2)
    clear hh hp hr e1 e5 c4 z4
    go_wp2_with fail
    refine HA.out.mono ?_; rintro e w4 ⟨rfl, L', ht, hk, hL'⟩
    have hE4 := Lib.hid (HE.out w4 L' ht hk hL')
    clear ht hk hL'
    go_wp2_with fail
    refine (HMo.out _).mono ?_; rintro e w5 ⟨rfl, rfl⟩
    go_wp2_with fail
    go_end0
    exact HB.out k g _ hE4.out
end Go.Proofs.YtdkgachgohilcaaDoor

namespace Go.Proofs.YtdkgachgohilcaaDoor
open Go.RowKit
open Huf Pre Tab Hpk Arg Mem Gen Wr Go.Proofs.YtdkgachgohilcaaDoor.Obj
set_option linter.unusedVariables false
variable {B : Nat} {w0 w : World} {L0 L : List Nat} {r : Nat} {d : RD} {X : List Nat}

/-- What is left of a block, told by the document's reading. -/
def decD (F : Nat) (d : RD) : (Nat × List FdM) × (Nat × List FdM) × Bool := decF d.md d.ld F d.rest d.out d.cst d.sizes d.m d.rows
/-- Bounds along a block. -/
structure InvD (N K : Nat) (d : RD) : Prop where
  cst : d.cst = csum d.out
  big : d.cst ≤ 200000 * d.out.length
  out : d.out.length + d.rest.length ≤ N
  sz : d.sizes + d.rest.length ≤ N
  came : 2 * d.c + d.rest.length ≤ K
  md : d.md ≤ 65536
  had : d.had ≤ 100000
/-- What a part leaves. -/
def Step (B : Nat) (w0 : World) (L0 : List Nat) (r N K : Nat) (d : RD) (e : Ending) (w : World) : Prop :=
  (e = .returned (.tuple #[]) ∧ ∃ d' : RD, RIn B w0 L0 r d' w ∧ InvD N K d' ∧ d'.bk = d.bk ∧ d'.t = d.t ∧ d'.md = d.md ∧ d'.ld = d.ld ∧ d'.had = d.had ∧ d'.rest.length < d.rest.length ∧ ∀ F, decD (F + 1) d = decD F d') ∨
  (∃ er, er ≠ 0 ∧ e = .panicked (panE er) ∧ (∃ d2 : RD, (d2.bk, d2.had) = (d.bk, d.had) ∧ RIn B w0 L0 r d2 w) ∧ ∀ F, ∃ R2, decD (F + 1) d = ((er, []), R2, true))

theorem and_flag (c k : Nat) (hc : c < 256) (hk : k < 256) : bits .and .u8 (c : Int) (k : Int) = ((c &&& k : Nat) : Int) := u8_and_nat c k hc hk
theorem flag128 : ∀ c : Fin 256, (c.val &&& 128) = if 127 < c.val then 128 else 0 := by decide +kernel
theorem flag64 : ∀ c : Fin 256, ¬ 127 < c.val → (c.val &&& 64) = if 63 < c.val then 64 else 0 := by decide +kernel
theorem flag32 : ∀ c : Fin 256, ¬ 63 < c.val → (c.val &&& 32) = if 31 < c.val then 32 else 0 := by decide +kernel
theorem flag16 : ∀ c : Fin 256, ¬ 31 < c.val → (c.val &&& 16) = if c.val / 16 = 1 then 16 else 0 := by decide +kernel
theorem b128 (c : Nat) (hc : c < 256) : bits .and .u8 (c : Int) 128 = if 127 < c then 128 else 0 := by
  have h := and_flag c 128 hc (by decide)
  have h2 := flag128 ⟨c, hc⟩
  simp only at h2
  rw [h2] at h
  rw [show ((128 : Nat) : Int) = 128 from rfl] at h
  rw [h]; split <;> rfl
theorem b64 (c : Nat) (hc : c < 256) (h1 : ¬ 127 < c) : bits .and .u8 (c : Int) 64 = if 63 < c then 64 else 0 := by
  have h := and_flag c 64 hc (by decide)
  have h2 := flag64 ⟨c, hc⟩ h1
  simp only at h2
  rw [h2] at h
  rw [show ((64 : Nat) : Int) = 64 from rfl] at h
  rw [h]; split <;> rfl
theorem b32 (c : Nat) (hc : c < 256) (h1 : ¬ 63 < c) : bits .and .u8 (c : Int) 32 = if 31 < c then 32 else 0 := by
  have h := and_flag c 32 hc (by decide)
  have h2 := flag32 ⟨c, hc⟩ h1
  simp only at h2
  rw [h2] at h
  rw [show ((32 : Nat) : Int) = 32 from rfl] at h
  rw [h]; split <;> rfl
theorem b16 (c : Nat) (hc : c < 256) (h1 : ¬ 31 < c) : bits .and .u8 (c : Int) 16 = if c / 16 = 1 then 16 else 0 := by
  have h := and_flag c 16 hc (by decide)
  have h2 := flag16 ⟨c, hc⟩ h1
  simp only at h2
  rw [h2] at h
  rw [show ((16 : Nat) : Int) = 16 from rfl] at h
  rw [h]; split <;> rfl

theorem RIn.rest0 (h : RIn B w0 L0 r d w) {c : UInt8} {q : List UInt8} (hq : d.rest = c :: q) : ∃ ba off rc, w.cell? ⟨r, 3, none⟩ = some (.slice (some ⟨ba, off, none⟩) d.rest.length rc) ∧ w.cell? ⟨ba, off, none⟩ = some (.int .u8 (c.toNat : Nat)) ∧ d.rest.length ≤ rc := by
  obtain ⟨L, ra, rc, fa, fc, fl, ga, gc, gl, hh, hp, hr⟩ := h
  rcases hp.rst.rb with h0 | ⟨b, off, e, hc⟩
  · rw [hq] at h0; cases h0
  · subst e
    have h1 := hc 0 (by rw [hq]; simp)
    refine ⟨b, off, rc, cell_at hh 3, ?_, hp.rst.le⟩
    rw [Nat.add_zero] at h1
    rw [h1]
    simp [hq]
theorem atT_cost2 (rows : List FdM) (n : Int) (h : csum rows ≤ 65536) : cost (atT rows n).1 ≤ 65536 := by
  rw [atT]
  split
  · have hk : n.toNat - 1 < statics.length := by rw [statics_len]; omega
    rw [List.getD_eq_getElem?_getD, List.getElem?_eq_getElem hk, Option.getD_some]
    have : ∀ x ∈ statics, cost x ≤ 65536 := by decide +kernel
    exact this _ (List.getElem_mem hk)
  · split
    · decide
    · rename_i h1 h2
      have hk : n.toNat - 62 < rows.length := by omega
      rw [List.getD_eq_getElem?_getD, List.getElem?_eq_getElem hk, Option.getD_some]
      exact Nat.le_trans (csum_mem (List.getElem_mem hk)) h
theorem csum_zero (l : List FdM) : csum l = 0 ↔ l = [] := by
  constructor
  · intro h
    have := csum_len l
    exact List.eq_nil_iff_length_eq_zero.mpr (by omega)
  · intro h; rw [h]; rfl
theorem RX.add {b : Nat} (h : RX B w0 L0 r [b] d w) (f : FdM) (hn : f.name.size ≤ 1000000000) (hv : f.value.size ≤ 1000000000) (hhad : d.had ≤ 100000) (hc : d.c < 1000000) :
    Calls Tryd.prog 54 #[.pointer (some ⟨r, 0, none⟩), .agg #[.string f.name, .string f.value, .bool f.never]] w fun e w' => e = .returned (.tuple #[]) ∧ (∃ k g, RX B w0 L0 r [b] { d with rows := addT d.m d.rows f, c := d.c + 1, k := k, gn := g } w') ∧ w'.heap[b]? = w.heap[b]? := by
  obtain ⟨L1, hR, hU⟩ := h.use
  refine (padd2_any f hR hn hv hhad hc).mono ?_
  rintro e w' ⟨rfl, k, g, h4⟩
  obtain ⟨h5, h6⟩ := hU { d with rows := addT d.m d.rows f, c := d.c + 1, k := k, gn := g } w' rfl h4
  exact ⟨rfl, ⟨k, g, h5⟩, h6 b (by simp)⟩
theorem RIn.sum (h : RIn B w0 L0 r d w) : csum d.rows ≤ d.m ∧ d.m ≤ 65536 := by
  obtain ⟨L, ra, rc, fa, fc, fl, ga, gc, gl, hh, hp, hr⟩ := h
  exact hp.tab.sum

set_option maxRecDepth 100000 in
set_option maxHeartbeats 2000000 in
theorem part_row (N K : Nat) (hN : N ≤ 100000000) (hK : K ≤ 1999990) (c : UInt8) (q : List UInt8) (hq : d.rest = c :: q) (hI : InvD N K d) (h : RIn B w0 L0 r d w) (h1 : 127 < c.toNat) :
    Calls Tryd.prog 32 #[.pointer (some ⟨r, 0, none⟩)] w (Step B w0 L0 r N K d) := by
  have hc := c.toNat_lt
  have hout := hI.out
  have hcame := hI.came
  have hszs := hI.sz
  have hbig := hI.big
  have hlen : d.rest.length = q.length + 1 := by rw [hq]; rfl
  have hsum := h.sum
  obtain ⟨ba, off, rc, q3, qc, hrc⟩ := h.rest0 hq
  have hrc2 : ¬ ((d.rest.length : Int) ≤ 0) := by omega
  have hrc3 : (0 : Int) < d.rest.length := by omega
  have hI' := Lib.hid hI
  have hD : Hid (∀ F, decD (F + 1) d = decF d.md d.ld (F + 1) (c :: q) d.out d.cst d.sizes d.m d.rows) := Lib.hid (fun F => by rw [decD, hq])
  have hb : bitsOf c.toNat = 7 := by rw [bitsOf, if_pos h1]
  have f1 := b128 c.toNat hc
  rw [if_pos h1] at f1
  have HN := Lib.hid (pnum_any 7 (by decide) (by decide) h (by omega))
  have hbd := takeN_bd d.rest 7 (by decide)
  have HD : Hid (∀ F, decD (F + 1) d = (if (takeN d.rest 7).2.2 ≠ 0 then (((takeN d.rest 7).2.2, []), (d.m, d.rows), true)
      else if (atT d.rows (takeN d.rest 7).1).2 ≠ 0 then (((atT d.rows (takeN d.rest 7).1).2, []), (d.m, d.rows), true)
      else decF d.md d.ld F (d.rest.drop (takeN d.rest 7).2.1) (d.out ++ [(atT d.rows (takeN d.rest 7).1).1]) (d.cst + cost (atT d.rows (takeN d.rest 7).1).1) d.sizes d.m d.rows)) := Lib.hid (fun F => by
    rw [hD.out, decF, hb, ← hq, if_neg (show ¬ (7 = 5) by decide), if_pos rfl])
  clear hD hb h1
  generalize takeN d.rest 7 = T at HN HD hbd
  obtain ⟨n, sz, er⟩ := T
  simp only at HN HD hbd
  obtain ⟨hn, _, hs, _⟩ := hbd
  generalize c.toNat = cc at *
  go_enter Tryd.func32, Tryd.ntmps32
  go_wp2_with fail
  refine HN.out.mono ?_; intro e w1 hG
  rcases hG with ⟨he, rfl, hR1⟩ | ⟨he, rfl, d2, hd2, hR1⟩
  · subst he
    obtain ⟨hs1, hs2, _⟩ := hs rfl
    have HRw := Lib.hid (prow_any n (by omega) hR1)
    dsimp only at HRw
    have hcost := atT_cost2 d.rows n (by omega)
    simp only [ne_eq, not_true_eq_false, if_false] at HD
    generalize atT d.rows n = A at HRw HD hcost
    obtain ⟨f, er2⟩ := A
    simp only at HRw HD hcost
    have hfs : f.name.size ≤ 65536 ∧ f.value.size ≤ 65536 := by unfold cost at hcost; omega
    clear hR1 q3 qc
    go_wp2_with fail
    refine HRw.out.mono ?_; intro e w2 hG
    rcases hG with ⟨he, rfl, hR2⟩ | ⟨he, rfl, d2, hd2, hR2⟩
    · subst he
      have HK := Lib.hid (pkeep_any f hR2 (by omega) (by omega) (by simp only; omega) (by simp only; omega))
      dsimp only at HK
      clear hR2
      go_wp2_with fail
      refine HK.out.mono ?_; rintro e w3 ⟨rfl, hR3⟩
      have HE : Hid (Step B w0 L0 r N K d (.returned (.tuple #[])) w3) := Lib.hid (.inl ⟨rfl, _, hR3, ⟨by simp only; rw [hI'.out.cst, csum_append]; simp [csum], by simp only [List.length_append, List.length_cons, List.length_nil]; omega, by simp only [List.length_append, List.length_cons, List.length_nil, List.length_drop]; omega, by simp only [List.length_drop]; omega, by simp only [List.length_drop]; omega, hI'.out.md, hI'.out.had⟩, rfl, rfl, rfl, rfl, rfl, by simp only [List.length_drop]; omega, fun F => by rw [HD.out F, if_neg (by simp)]; rfl⟩)
      clear hR3
      go_wp2_with fail
      go_end0
      exact HE.out
    · exact ⟨rfl, .inr ⟨er2, he, rfl, ⟨d2, hd2, hR2⟩, fun F => ⟨_, by rw [HD.out F, if_pos he]⟩⟩⟩
  · exact ⟨rfl, .inr ⟨er, he, rfl, ⟨d2, hd2, hR1⟩, fun F => ⟨_, by rw [HD.out F, if_pos he]⟩⟩⟩

theorem litM_drop (rows : List FdM) (b : List UInt8) (n : Nat) (h : (litM rows b n).1 = 0) : (litM rows b n).2.2.length + 1 ≤ b.length := by
  have key : ∀ (b : List UInt8) (nm : ByteArray), (litV b nm).1 = 0 → (litV b nm).2.2.length + 1 ≤ b.length := fun b nm h => by
    have ht := takeT_bd b
    rw [litV] at h ⊢
    simp only at h ⊢
    have := ht.2.2.1 h
    rw [List.length_drop]; omega
  rw [litM] at h ⊢
  split
  · rename_i h1
    rw [if_pos h1] at h
    split
    · rename_i h2; rw [if_pos h2] at h; exact absurd h h2
    · rename_i h2; rw [if_neg h2] at h; exact key _ _ h
  · rename_i h1
    rw [if_neg h1] at h
    split
    · rename_i h2; rw [if_pos h2] at h; exact absurd h h2
    · rename_i h2; rw [if_neg h2] at h
      have := key _ _ h
      rw [List.length_drop] at this; omega
theorem litR_bd (d : RD) (k : Nat) (h8 : k ≤ 8) (hs : csum d.rows ≤ 65536) : (litR d k).2.1.name.size ≤ 65536 ∧ (litR d k).2.1.value.size ≤ 4096 ∧ (litE d k = 0 → (litR d k).2.2.length + 2 ≤ d.rest.length) := by
  have h1 := litM_bd d.rows (d.rest.drop (takeN d.rest k).2.1) (takeN d.rest k).1 hs
  refine ⟨h1.1, h1.2.1, fun he => ?_⟩
  have hb := takeN_bd d.rest k h8
  rw [litE] at he
  split at he
  · rename_i h2; exact absurd he h2
  · rename_i h2
    have h3 := litM_drop _ _ _ he
    have h4 := hb.2.2.1 (by simpa using h2)
    rw [List.length_drop] at h3
    rw [litR]; omega
theorem dec_lit (F k : Nat) (c : UInt8) (q : List UInt8) (hq : d.rest = c :: q) (hb : bitsOf c.toNat = k) (h5 : k ≠ 5) (h7 : k ≠ 7) :
    decF d.md d.ld (F + 1) (c :: q) d.out d.cst d.sizes d.m d.rows = (if litE d k ≠ 0 then ((litE d k, []), (d.m, d.rows), true)
      else decF d.md d.ld F (litR d k).2.2 (d.out ++ [⟨(litR d k).2.1.name, (litR d k).2.1.value, decide (c.toNat / 16 = 1)⟩]) (d.cst + cost (litR d k).2.1) d.sizes d.m (if k = 6 then addT d.m d.rows ⟨(litR d k).2.1.name, (litR d k).2.1.value, decide (c.toNat / 16 = 1)⟩ else d.rows)) := by
  rw [decF, hb, ← hq, litE, litR]
  by_cases he : (takeN d.rest k).2.2 = 0
  · rw [if_neg (by simpa using he), if_neg h5, if_neg h7, if_neg (show ¬ (takeN d.rest k).2.2 ≠ 0 by simpa using he)]
  · have he' : (takeN d.rest k).2.2 ≠ 0 := he
    rw [if_pos he', if_pos he', if_pos he']

set_option maxRecDepth 100000 in
set_option maxHeartbeats 2000000 in
theorem part_add (N K : Nat) (hN : N ≤ 100000000) (hK : K ≤ 1999990) (c : UInt8) (q : List UInt8) (hq : d.rest = c :: q) (hI : InvD N K d) (h : RIn B w0 L0 r d w) (h1 : ¬ 127 < c.toNat) (h2 : 63 < c.toNat) :
    Calls Tryd.prog 32 #[.pointer (some ⟨r, 0, none⟩)] w (Step B w0 L0 r N K d) := by
  have hc := c.toNat_lt
  have hout := hI.out
  have hcame := hI.came
  have hszs := hI.sz
  have hbig := hI.big
  have hlen : d.rest.length = q.length + 1 := by rw [hq]; rfl
  have hsum := h.sum
  obtain ⟨ba, off, rc, q3, qc, hrc⟩ := h.rest0 hq
  have hrc2 : ¬ ((d.rest.length : Int) ≤ 0) := by omega
  have hrc3 : (0 : Int) < d.rest.length := by omega
  have hI' := Lib.hid hI
  have hD : Hid (∀ F, decD (F + 1) d = decF d.md d.ld (F + 1) (c :: q) d.out d.cst d.sizes d.m d.rows) := Lib.hid (fun F => by rw [decD, hq])
  have hb : bitsOf c.toNat = 6 := by rw [bitsOf, if_neg h1, if_pos h2]
  have f1 := b128 c.toNat hc
  rw [if_neg h1] at f1
  have f2 := b64 c.toNat hc h1
  rw [if_pos h2] at f2
  have HN := Lib.hid (plit_any 6 (by decide) (by decide) h (by omega))
  have hbd := litR_bd d 6 (by decide) (by omega)
  have hdec : decide (c.toNat / 16 = 1) = false := decide_eq_false (by omega)
  have HD : Hid (∀ F, decD (F + 1) d = (if litE d 6 ≠ 0 then ((litE d 6, []), (d.m, d.rows), true)
      else decF d.md d.ld F (litR d 6).2.2 (d.out ++ [⟨(litR d 6).2.1.name, (litR d 6).2.1.value, false⟩]) (d.cst + cost (litR d 6).2.1) d.sizes d.m (addT d.m d.rows ⟨(litR d 6).2.1.name, (litR d 6).2.1.value, false⟩))) := Lib.hid (fun F => by
    rw [hD.out, dec_lit F 6 c q hq hb (by decide) (by decide), hdec, if_pos rfl])
  clear hD hb h1 h2 hdec
  generalize litE d 6 = er at HN HD hbd
  generalize litR d 6 = T at HN HD hbd
  obtain ⟨_, ⟨fn, fv, fb⟩, rs⟩ := T
  simp only at HN HD hbd
  obtain ⟨hn, hv, hs⟩ := hbd
  have hcost : cost ⟨fn, fv, fb⟩ = cost ⟨fn, fv, false⟩ := rfl
  rw [hcost] at HD
  have hcb : cost ⟨fn, fv, false⟩ ≤ 100000 := by unfold cost; simp only; omega
  generalize c.toNat = cc at *
  go_enter Tryd.func32, Tryd.ntmps32
  go_wp2_with fail
  refine HN.out.mono ?_; intro e w1 hG
  rcases hG with ⟨he, rfl, hR1⟩ | ⟨he, rfl, d2, hd2, hR1⟩
  · subst he
    have hs' := hs rfl
    simp only [ne_eq, not_true_eq_false, if_false] at HD
    have hX := (RX.start hR1).alloc (.cells #[.string fn, .string fv, .bool false] 59)
    have hbx := fd_box w1 ⟨fn, fv, false⟩
    obtain ⟨q0, q1, q2⟩ := box_cells hbx
    clear hR1 q3 qc
    go_wp2_with fail
    generalize hwn : (w1.alloc (.cells #[.string fn, .string fv, .bool false] 59)) = w2 at hX hbx q0 q1 q2 ⊢
    generalize hbn : w1.heap.size = b at hX hbx q0 q1 q2 ⊢
    clear hwn hbn
    have HA := Lib.hid (hX.add ⟨fn, fv, false⟩ (by simp only; omega) (by simp only; omega) hI'.out.had (by simp only; omega))
    dsimp only at HA
    refine HA.out.mono ?_; rintro e w3 ⟨rfl, ⟨k, g, hX3⟩, hb3⟩
    have hbx3 := hb3.trans hbx
    clear q0 q1 q2
    obtain ⟨q0, q1, q2⟩ := box_cells (f := ⟨fn, fv, false⟩) hbx3
    have HK := Lib.hid (pkeep_any ⟨fn, fv, false⟩ hX3.done (by simp only; omega) (by simp only; omega) (by simp only; omega) (by simp only; omega))
    dsimp only at HK
    clear hX3 hX hbx hb3 hbx3
    go_wp2_with fail
    refine HK.out.mono ?_; rintro e w4 ⟨rfl, hR4⟩
    have HE : Hid (Step B w0 L0 r N K d (.returned (.tuple #[])) w4) := Lib.hid (.inl ⟨rfl, _, hR4, ⟨by simp only; rw [hI'.out.cst, csum_append]; simp [csum], by simp only [List.length_append, List.length_cons, List.length_nil]; omega, by simp only [List.length_append, List.length_cons, List.length_nil]; omega, by simp only; omega, by simp only; omega, hI'.out.md, hI'.out.had⟩, rfl, rfl, rfl, rfl, rfl, by simp only; omega, fun F => by rw [HD.out F]; rfl⟩)
    clear hR4
    go_wp2_with fail
    go_end0
    exact HE.out
  · exact ⟨rfl, .inr ⟨er, he, rfl, ⟨d2, hd2, hR1⟩, fun F => ⟨_, by rw [HD.out F, if_pos he]⟩⟩⟩

set_option maxRecDepth 100000 in
set_option maxHeartbeats 2000000 in
theorem part_size (N K : Nat) (hN : N ≤ 100000000) (hK : K ≤ 1999990) (c : UInt8) (q : List UInt8) (hq : d.rest = c :: q) (hI : InvD N K d) (h : RIn B w0 L0 r d w) (h1 : ¬ 127 < c.toNat) (h2 : ¬ 63 < c.toNat) (h3 : 31 < c.toNat) :
    Calls Tryd.prog 32 #[.pointer (some ⟨r, 0, none⟩)] w (Step B w0 L0 r N K d) := by
  have hc := c.toNat_lt
  have hout := hI.out
  have hcame := hI.came
  have hszs := hI.sz
  have hbig := hI.big
  have hlen : d.rest.length = q.length + 1 := by rw [hq]; rfl
  have hsum := h.sum
  obtain ⟨ba, off, rc, q3, qc, hrc⟩ := h.rest0 hq
  have hrc2 : ¬ ((d.rest.length : Int) ≤ 0) := by omega
  have hrc3 : (0 : Int) < d.rest.length := by omega
  have hI' := Lib.hid hI
  have hD : Hid (∀ F, decD (F + 1) d = decF d.md d.ld (F + 1) (c :: q) d.out d.cst d.sizes d.m d.rows) := Lib.hid (fun F => by rw [decD, hq])
  have hb : bitsOf c.toNat = 5 := by rw [bitsOf, if_neg h1, if_neg h2, if_pos h3]
  have f1 := b128 c.toNat hc
  rw [if_neg h1] at f1
  have f2 := b64 c.toNat hc h1
  rw [if_neg h2] at f2
  have f3 := b32 c.toNat hc h2
  rw [if_pos h3] at f3
  have HN := Lib.hid (pnum_any 5 (by decide) (by decide) h (by omega))
  have hbd := takeN_bd d.rest 5 (by decide)
  have hcz : 0 < d.out.length ↔ 0 < d.cst := by
    rw [hI.cst]
    constructor
    · intro h0; have := csum_len d.out; omega
    · intro h0
      rcases Nat.eq_zero_or_pos d.out.length with h2 | h2
      · rw [List.eq_nil_iff_length_eq_zero.mpr h2] at h0; simp [csum] at h0
      · exact h2
  have HD : Hid (∀ F, decD (F + 1) d = (if (takeN d.rest 5).2.2 ≠ 0 then (((takeN d.rest 5).2.2, []), (d.m, d.rows), true)
      else if 0 < d.cst ∨ 2 < d.sizes + 1 ∨ d.md < (takeN d.rest 5).1 then ((50, []), (d.m, d.rows), true)
      else decF d.md d.ld F (d.rest.drop (takeN d.rest 5).2.1) d.out d.cst (d.sizes + 1) (takeN d.rest 5).1 (fit (takeN d.rest 5).1 d.rows))) := Lib.hid (fun F => by
    rw [hD.out, decF, hb, ← hq, if_pos rfl]
    simp only [hcz])
  clear hD hb h1 h2 h3 hcz
  generalize takeN d.rest 5 = T at HN HD hbd
  obtain ⟨n, sz, er⟩ := T
  simp only at HN HD hbd
  obtain ⟨hn, _, hs, _⟩ := hbd
  generalize c.toNat = cc at *
  go_enter Tryd.func32, Tryd.ntmps32
  go_wp2_with fail
  refine HN.out.mono ?_; intro e w1 hG
  rcases hG with ⟨he, rfl, hR1⟩ | ⟨he, rfl, d2, hd2, hR1⟩
  · subst he
    obtain ⟨hs1, hs2, _⟩ := hs rfl
    have HRw := Lib.hid (presz_any n hR1 hI'.out.had hn hI'.out.md (by simp only; omega))
    dsimp only at HRw
    simp only [ne_eq, not_true_eq_false, if_false] at HD
    clear hR1 q3 qc
    go_wp2_with fail
    refine HRw.out.mono ?_; intro e w2 hG
    rcases hG with ⟨hbad, rfl, d2, hd2, hR2⟩ | ⟨hbad, rfl, k, g, hR2⟩
    · exact ⟨rfl, .inr ⟨50, by decide, rfl, ⟨d2, hd2, hR2⟩, fun F => ⟨_, by rw [HD.out F, if_pos hbad]⟩⟩⟩
    · have HE : Hid (Step B w0 L0 r N K d (.returned (.tuple #[])) w2) := Lib.hid (.inl ⟨rfl, _, hR2, ⟨hI'.out.cst, hI'.out.big, by simp only [List.length_drop]; omega, by simp only [List.length_drop]; omega, by simp only [List.length_drop]; omega, hI'.out.md, hI'.out.had⟩, rfl, rfl, rfl, rfl, rfl, by simp only [List.length_drop]; omega, fun F => by rw [HD.out F, if_neg hbad]; rfl⟩)
      clear hR2
      go_wp2_with fail
      go_end0
      exact HE.out
  · exact ⟨rfl, .inr ⟨er, he, rfl, ⟨d2, hd2, hR1⟩, fun F => ⟨_, by rw [HD.out F, if_pos he]⟩⟩⟩

set_option maxRecDepth 100000 in
set_option maxHeartbeats 2000000 in
theorem part_plain (N K : Nat) (hN : N ≤ 100000000) (hK : K ≤ 1999990) (c : UInt8) (q : List UInt8) (hq : d.rest = c :: q) (hI : InvD N K d) (h : RIn B w0 L0 r d w) (h1 : ¬ 127 < c.toNat) (h2 : ¬ 63 < c.toNat) (h3 : ¬ 31 < c.toNat) :
    Calls Tryd.prog 32 #[.pointer (some ⟨r, 0, none⟩)] w (Step B w0 L0 r N K d) := by
  have hc := c.toNat_lt
  have hout := hI.out
  have hcame := hI.came
  have hszs := hI.sz
  have hbig := hI.big
  have hlen : d.rest.length = q.length + 1 := by rw [hq]; rfl
  have hsum := h.sum
  obtain ⟨ba, off, rc, q3, qc, hrc⟩ := h.rest0 hq
  have hrc2 : ¬ ((d.rest.length : Int) ≤ 0) := by omega
  have hrc3 : (0 : Int) < d.rest.length := by omega
  have hI' := Lib.hid hI
  have hD : Hid (∀ F, decD (F + 1) d = decF d.md d.ld (F + 1) (c :: q) d.out d.cst d.sizes d.m d.rows) := Lib.hid (fun F => by rw [decD, hq])
  have hb : bitsOf c.toNat = 4 := by rw [bitsOf, if_neg h1, if_neg h2, if_neg h3]
  have f1 := b128 c.toNat hc
  rw [if_neg h1] at f1
  have f2 := b64 c.toNat hc h1
  rw [if_neg h2] at f2
  have f3 := b32 c.toNat hc h2
  rw [if_neg h3] at f3
  obtain ⟨nv, hnv⟩ : ∃ nv, nv = decide (c.toNat / 16 = 1) := ⟨_, rfl⟩
  have f4 : bits .and .u8 (c.toNat : Int) 16 = if nv = true then 16 else 0 := by
    rw [b16 c.toNat hc h3, hnv]
    simp
  have HN := Lib.hid (plit_any 4 (by decide) (by decide) h (by omega))
  have hbd := litR_bd d 4 (by decide) (by omega)
  have HD : Hid (∀ F, decD (F + 1) d = (if litE d 4 ≠ 0 then ((litE d 4, []), (d.m, d.rows), true)
      else decF d.md d.ld F (litR d 4).2.2 (d.out ++ [⟨(litR d 4).2.1.name, (litR d 4).2.1.value, nv⟩]) (d.cst + cost (litR d 4).2.1) d.sizes d.m d.rows)) := Lib.hid (fun F => by
    rw [hD.out, dec_lit F 4 c q hq hb (by decide) (by decide), ← hnv, if_neg (show ¬ (4 = 6) by decide)])
  clear hD hb h1 h2 h3 hnv
  generalize litE d 4 = er at HN HD hbd
  generalize litR d 4 = T at HN HD hbd
  obtain ⟨_, ⟨fn, fv, fb⟩, rs⟩ := T
  simp only at HN HD hbd
  obtain ⟨hn, hv, hs⟩ := hbd
  have hcost : cost ⟨fn, fv, fb⟩ = cost ⟨fn, fv, nv⟩ := rfl
  rw [hcost] at HD
  have hcb : cost ⟨fn, fv, nv⟩ ≤ 100000 := by unfold cost; simp only; omega
  have f5 : (bits .and .u8 (c.toNat : Int) 16 != 0) = nv := by rw [f4]; cases nv <;> rfl
  clear f4
  generalize c.toNat = cc at *
  go_enter Tryd.func32, Tryd.ntmps32
  go_wp2_with fail
  refine HN.out.mono ?_; intro e w1 hG
  rcases hG with ⟨he, rfl, hR1⟩ | ⟨he, rfl, d2, hd2, hR1⟩
  · subst he
    have hs' := hs rfl
    simp only [ne_eq, not_true_eq_false, if_false] at HD
    have hbx := fd_box w1 ⟨fn, fv, false⟩
    have hset := heap_setCell_same _ w1.heap.size 2 _ _ (.bool nv) hbx
    have hbx2 : ((w1.alloc (.cells #[.string fn, .string fv, .bool false] 59)).setCell ⟨w1.heap.size, 2, none⟩ (.bool nv)).heap[w1.heap.size]? = some (.cells #[.string fn, .string fv, .bool nv] 59 (0, 0)) := hset
    obtain ⟨q0, q1, q2⟩ := box_cells hbx
    obtain ⟨y0, y1, y2⟩ := box_cells (f := ⟨fn, fv, nv⟩) hbx2
    have HK := Lib.hid (pkeep_any ⟨fn, fv, nv⟩ (hR1.below (below_alloc w1 (.cells #[.string fn, .string fv, .bool nv] 59))) (by simp only; omega) (by simp only; omega) (by simp only; omega) (by simp only; omega))
    dsimp only at HK
    clear hR1 q3 qc hset hbx hbx2
    go_wp2_with fail
    refine HK.out.mono ?_; rintro e w4 ⟨rfl, hR4⟩
    have HE : Hid (Step B w0 L0 r N K d (.returned (.tuple #[])) w4) := Lib.hid (.inl ⟨rfl, _, hR4, ⟨by simp only; rw [hI'.out.cst, csum_append]; simp [csum], by simp only [List.length_append, List.length_cons, List.length_nil]; omega, by simp only [List.length_append, List.length_cons, List.length_nil]; omega, by simp only; omega, by simp only; omega, hI'.out.md, hI'.out.had⟩, rfl, rfl, rfl, rfl, rfl, by simp only; omega, fun F => by rw [HD.out F]; rfl⟩)
    clear hR4
    go_wp2_with fail
    go_end0
    exact HE.out
  · exact ⟨rfl, .inr ⟨er, he, rfl, ⟨d2, hd2, hR1⟩, fun F => ⟨_, by rw [HD.out F, if_pos he]⟩⟩⟩

/-- One part of a block is read. -/
theorem ppart_any (N K : Nat) (hN : N ≤ 100000000) (hK : K ≤ 1999990) (hne : d.rest ≠ []) (hI : InvD N K d) (h : RIn B w0 L0 r d w) :
    Calls Tryd.prog 32 #[.pointer (some ⟨r, 0, none⟩)] w (Step B w0 L0 r N K d) := by
  obtain ⟨c, q, hq⟩ := List.exists_cons_of_ne_nil hne
  by_cases h1 : 127 < c.toNat
  · exact part_row N K hN hK c q hq hI h h1
  · by_cases h2 : 63 < c.toNat
    · exact part_add N K hN hK c q hq hI h h1 h2
    · by_cases h3 : 31 < c.toNat
      · exact part_size N K hN hK c q hq hI h h1 h2 h3
      · exact part_plain N K hN hK c q hq hI h h1 h2 h3
end Go.Proofs.YtdkgachgohilcaaDoor
