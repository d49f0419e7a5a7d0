/- Layer 5: slices.Backward over fields: how it hands them over. Layer 5: the program's rows as they were ahead of a block. Layer 5: the program's decoder: what is done where a block can't be read. -/
import Derived.RangeFuncNested
import Derived.RangeFuncBound
import Derived.RangeFuncCalls
import Derived.RangeFuncLeaves
import Derived.RangeFuncBox
import Derived.Shelf.Abstract
import Derived.Shelf.RegionOpen
import Derived.WalkKit
import Derived.OwnWalkIn
import Derived.TacticsInMore
import Derived.LoopNIn
import Derived.LoopIn
import Derived.Test.YtdkgachgohilcaaDoorGP21
import Derived.BigQuiet
import Derived.Defers
import Derived.Recover
set_option linter.unusedVariables false
set_option linter.unusedSimpArgs false
namespace Go.Proofs.YtdkgachgohilcaaDoor
open Go.RowKit Go.Shelf
open Huf Pre Tab Hpk Arg Mem Gen Wr Go.Proofs.YtdkgachgohilcaaDoor.Obj
set_option linter.unusedVariables false
attribute [local go_sem] Oper.semAt_some

/-- What a round of a caller's keeps: what lay below n₀, and the box of the row. -/
structure KpB (n₀ Bs : Nat) (W W' : World) : Prop where
  be : Below n₀ W W'
  bs : W'.heap[Bs]? = W.heap[Bs]?
theorem KpB.refl (n₀ Bs : Nat) (W : World) : KpB n₀ Bs W W := ⟨Below.refl _ _, rfl⟩
theorem KpB.trans {n₀ Bs : Nat} {A B C : World} (h : KpB n₀ Bs A B) (k : KpB n₀ Bs B C) : KpB n₀ Bs A C := ⟨h.be.trans k.be, k.bs.trans h.bs⟩
theorem kpB_b {n₀ Bs : Nat} {w : World} (hn : n₀ ≤ w.heap.size) (hB : Bs < w.heap.size) (W : World) (l : Nat) (o o' : Obj) (hl : w.heap.size ≤ l) (h : W.heap[l]? = some o) (hc : o.isCells = false) (hw : o.isWalk = false) : KpB n₀ Bs W (W.putObj l o') :=
  ⟨belowK_b hn W l o o' hl h hc hw, World.putObj_heap_other (by omega)⟩
def encBk (x : Int × FdM) : Array Value := #[.int .i64 x.1, .agg #[.string x.2.name, .string x.2.value, .bool x.2.never]]

set_option maxRecDepth 100000 in
set_option maxHeartbeats 2000000 in
theorem back1_in (n l Bs n₀ b off len cap : Nat) (gl : List FdM) (hlen : len = gl.length) (hl : len ≤ 1000000) (hn : 1 ≤ n) (hb : b < n₀) (J Jx : List (Int × FdM) → World → Prop)
    (hY : ∀ pre x W, J pre W → pre.length < len → YieldAt Fence.wide (n - 1) Tryd.prog l (encBk x) W fun e W' =>
      (e = .returned (.bool true) ∧ J (pre ++ [x]) W' ∧ KpB n₀ Bs W W') ∨ (e = .returned (.bool false) ∧ Jx (pre ++ [x]) W'))
    (W : World) (hBs : W.cell? ⟨Bs, 0, none⟩ = some (.slice (some ⟨b, off, none⟩) len cap)) (hcap : len ≤ cap) (hc : ∀ i, (h : i < gl.length) → Rw.CE EFd W b (off + i * 3) gl[i]) (h0 : J [] W) :
    CallsIn Fence.wide n Tryd.prog 67 #[.func (.yield l) #[] #[], .pointer (some ⟨Bs, 0, none⟩)] W fun e W' => (∃ v, e = .returned v) ∧ ((∃ ys, J ys W') ∨ (∃ pre, Jx pre W')) := by
  refine callsIn_of_wp Tryd.func67 rfl trivial ?_ rfl
  simp only [Tryd.ntmps67, List.size_toArray, List.length_cons, List.length_nil, Nat.reduceAdd, Nat.reduceSub, Array.replicate_succ, Array.replicate_zero, List.push_toArray, List.append_toArray, List.nil_append, List.cons_append]
  have hw0 : wrap64 ((len : Int) - 1) = (len : Int) - 1 := IntWalk.wrap64_in _ (by omega)
  have hws : ∀ k : Nat, k ≤ len → wrap64 ((k : Int) - 1) = (k : Int) - 1 := fun k hk => IntWalk.wrap64_in _ (by omega)
  have HLen := Lib.hid hlen
  clear hlen
  gi_wp2
  gi_loopw [3] (fun i wr => ∃ (k : Nat) (pre : List (Int × FdM)), k ≤ len ∧ i = .int .i64 ((k : Int) - 1) ∧ pre.length + k = len ∧ J pre wr ∧ KpB n₀ Bs W wr) (fun i _ => (intOf i + 1).toNat)
  case atStart => exact ⟨len, [], Nat.le_refl _, rfl, by simp, h0, KpB.refl _ _ _⟩
  case round =>
    obtain ⟨k, pre, hk, rfl, hpl, hJs, hnx⟩ := hrel
    by_cases hlt : 0 < k
    · obtain ⟨j, rfl⟩ : ∃ j, k = j + 1 := ⟨k - 1, by omega⟩
      have hjl : j < gl.length := by rw [← HLen.out]; omega
      have e0 : (((j + 1 : Nat) : Int) - 1) = (j : Int) := by omega
      rw [e0] at *
      obtain ⟨d0, d1, d2⟩ := CE_fd (hc j hjl)
      have q0 := (hnx.be.cell (p := ⟨b, off + j * 3, none⟩) hb).trans d0
      have q1 := (hnx.be.cell (p := ⟨b, off + j * 3 + 1, none⟩) hb).trans d1
      have q2 := (hnx.be.cell (p := ⟨b, off + j * 3 + 2, none⟩) hb).trans d2
      have qB := (World.cell?_of_block (a := ⟨Bs, 0, none⟩) hnx.bs).trans hBs
      obtain ⟨fn, tmps, assign, body, hy, hR⟩ := hY pre ((j : Int), gl[j]) wr hJs (by omega)
      dsimp only [encBk] at hy
      generalize gl[j] = f at *
      have hj0 : (0 : Int) ≤ j := by omega
      have hjn : (j : Int) < len := by omega
      have hwj := hws j (by omega)
      clear d0 d1 d2 hc
      gi_wp2
      refine hR.mono ?_
      rintro e W3 (⟨rfl, hJ3, hk3⟩ | ⟨rfl, hJx3⟩)
      · gi_wp2
        go_roundw
        case rel => exact ⟨j, pre ++ [((j : Int), f)], by omega, by go_num, by rw [List.length_append]; simp; omega, hJ3, hnx.trans hk3⟩
        case measure => simp [intOf] <;> omega
      · gi_wp2
        refine bodyPost_ret (results_none rfl _ _ _) rfl ?_
        exact ⟨⟨_, rfl⟩, .inr ⟨_, hJx3⟩⟩
    · obtain rfl : k = 0 := by omega
      have hneg : ¬ (0 : Int) ≤ ((0 : Nat) : Int) - 1 := by omega
      gi_wp2
      go_end0
      exact ⟨⟨_, rfl⟩, .inl ⟨_, hJs⟩⟩

set_option maxRecDepth 100000 in
set_option maxHeartbeats 1000000 in
/-- .. at a row without elements: no round. -/
theorem back1_nil_in (n l Bs : Nat) (a : Option Addr) (cap : Nat) (J : List (Int × FdM) → World → Prop) (W : World) (hBs : W.cell? ⟨Bs, 0, none⟩ = some (.slice a 0 cap)) (h0 : J [] W) :
    CallsIn Fence.wide n Tryd.prog 67 #[.func (.yield l) #[] #[], .pointer (some ⟨Bs, 0, none⟩)] W fun e W' => (∃ v, e = .returned v) ∧ J [] W' := by
  refine callsIn_of_wp Tryd.func67 rfl trivial ?_ rfl
  simp only [Tryd.ntmps67, List.size_toArray, List.length_cons, List.length_nil, Nat.reduceAdd, Nat.reduceSub, Array.replicate_succ, Array.replicate_zero, List.push_toArray, List.append_toArray, List.nil_append, List.cons_append]
  have hw : wrap64 (-1) = -1 := IntWalk.wrap64_in _ (by omega)
  gi_wp2
  gi_loopw [3] (fun i wr => i = .int .i64 (-1) ∧ J [] wr) (fun _ _ => 0)
  case atStart => exact ⟨by rfl, h0⟩
  case round =>
    obtain ⟨rfl, hJs⟩ := hrel
    gi_wp2
    go_end0
    exact ⟨⟨_, rfl⟩, hJs⟩

/-- slices.Backward(s) over fields: it stops, whatever the loop's body. -/
theorem back_stops (n : Nat) (hn : 1 ≤ n) (Bs n₀ : Nat) (a : Option Addr) (cap : Nat) (gl : List FdM) (hl : gl.length ≤ 1000000) (hcap : gl.length ≤ cap) (w : World) (hBs : Bs < w.heap.size) (hn₀ : n₀ ≤ w.heap.size)
    (hc : w.cell? ⟨Bs, 0, none⟩ = some (.slice a gl.length cap)) (hr : Rw.RowE EFd w a gl) (hb : ∀ b o s, a = some ⟨b, o, s⟩ → b < n₀) :
    SeqStopsK Fence.wide n Tryd.prog 67 #[.pointer (some ⟨Bs, 0, none⟩)] encBk (KpB n₀ Bs) (fun _ => True) (fun _ => True) gl.length w := fun l J Jx W hW _ _ hY h0 => by
  have hc' := (hW.cell (p := ⟨Bs, 0, none⟩) hBs).trans hc
  rcases hr with hnil | ⟨b, off, rfl, hcs⟩
  · rw [hnil, List.length_nil] at hc'
    exact (back1_nil_in n l Bs a cap J W hc' h0).mono fun e W' ⟨he, hj⟩ => ⟨he, .inl ⟨_, trivial, hj⟩⟩
  · have hbn := hb b off none rfl
    refine (back1_in n l Bs n₀ b off gl.length cap gl rfl hl hn hbn J Jx hY W hc' hcap (fun i hi r v hv => (hW.cell (p := ⟨b, off + i * 3 + r, none⟩) (show b < w.heap.size by omega)).trans (hcs i hi r v hv)) h0).mono ?_
    rintro e W' ⟨he, ⟨ys, hj⟩ | ⟨pre, hj⟩⟩
    · exact ⟨he, .inl ⟨_, trivial, hj⟩⟩
    · exact ⟨he, .inr ⟨_, trivial, hj⟩⟩

set_option maxRecDepth 100000 in
set_option maxHeartbeats 1000000 in
theorem back_in (n : Nat) (a : Option Addr) (len cap : Nat) (w : World) :
    CallsIn Fence.wide n Tryd.prog 49 #[.slice a len cap] w fun e w' => e = .returned (.func (.func 67) #[] #[.pointer (some ⟨w.heap.size, 0, none⟩)]) ∧ w' = w.alloc (.cells #[.slice a len cap] 31) := by
  refine callsIn_of_wp Tryd.func49 rfl trivial ?_ rfl
  simp only [Tryd.ntmps49, List.size_toArray, List.length_cons, List.length_nil, Nat.reduceAdd, Nat.reduceSub, Array.replicate_succ, Array.replicate_zero, List.push_toArray, List.append_toArray, List.nil_append, List.cons_append]
  gi_wp2
  go_ret
  exact ⟨rfl, rfl⟩
end Go.Proofs.YtdkgachgohilcaaDoor

namespace Go.Proofs.YtdkgachgohilcaaDoor
open Go.RowKit Go.Shelf
open Huf Pre Tab Hpk Arg Mem Gen Wr Go.Proofs.YtdkgachgohilcaaDoor.Obj
set_option linter.unusedVariables false
attribute [local go_sem] Oper.semAt_some
variable {B : Nat} {w0 w : World} {L0 L : List Nat} {r : Nat} {d : RD}

theorem size_fdr (w : World) : (sizeOf 59).run Tryd.prog w = .ok 3 w := by kernel_rfl
/-- What is left of a row behind its first elements. -/
theorem qrow_from {α : Type} {E : Rw.Enc α} {w : World} {a : Option Addr} {cap : Nat} {l : List α} (h : Rw.QRow E w a cap l) (k : Nat) (hk : k ≤ l.length) : Rw.QRow E w (Sl.adOf a cap k E.k) (cap - k) (l.drop k) := by
  have hle := h.le
  have hmx := h.max
  rw [Sl.adOf]
  split
  · rename_i hc
    have hl : l.drop k = [] := List.drop_eq_nil_of_le (by omega)
    rw [hl]
    exact ⟨Nat.zero_le _, by unfold maxLen; omega, fun _ => by omega, fun ad e => by
      obtain ⟨b, off, e1, h1, h2, h3⟩ := h.lies ad e
      exact ⟨b, off, e1, h1, fun i hi => by simp at hi, fun j hj => h3 j (Nat.lt_of_lt_of_le hj (Nat.mul_le_mul_right _ (by omega)))⟩⟩
  · rename_i hc
    refine ⟨by rw [List.length_drop]; omega, by omega, fun e => ?_, fun ad e => ?_⟩
    · rw [Option.map_eq_none_iff] at e; have := h.nil e; omega
    · rw [Option.map_eq_some_iff] at e
      obtain ⟨ad2, e1, e2⟩ := e
      obtain ⟨b, off, rfl, h1, h2, h3⟩ := h.lies ad2 e1
      refine ⟨b, off + k * E.k, by rw [← e2]; simp [Addr.add], h1, fun i hi r v hv => ?_, fun j hj => ?_⟩
      · rw [List.getElem_drop] at hv
        have := h2 (k + i) (by rw [List.length_drop] at hi; omega) r v hv
        rwa [Nat.add_mul, ← Nat.add_assoc] at this
      · have hlt : k * E.k + j < cap * E.k := by
          have : k * E.k + (cap - k) * E.k = cap * E.k := by rw [← Nat.add_mul]; congr 1; omega
          omega
        have := h3 (k * E.k + j) hlt
        rwa [← Nat.add_assoc] at this
theorem adOf_block {a : Option Addr} {cap k s : Nat} {b o : Nat} {s2 : Option Nat} (e : Sl.adOf a cap k s = some ⟨b, o, s2⟩) : ∃ o' s', a = some ⟨b, o', s'⟩ := by
  rw [Sl.adOf] at e
  split at e
  · exact ⟨o, s2, e⟩
  · rw [Option.map_eq_some_iff] at e
    obtain ⟨⟨b2, o2, s3⟩, e1, e2⟩ := e
    have : b2 = b := by unfold Addr.add at e2; split at e2 <;> simp_all
    subst this
    exact ⟨o2, s3, e1⟩

/-- 'append(q, l...)' in a round. -/
theorem wlIn_que {F : Fence} {n : Nat} {P : Program} {w : World} {ops : Array Oper} {rest : List Oper} {o : Oper} {a : Act} {Q : Exit → Act → World → Prop} {t e : TypeId} {i : TypeInfo} {z : Value} {by' : Nat} {α : Type} (E : Rw.Enc α)
    (hg : o.guard = none) (s x : Operand) (hop : o.op = Op.call { callee := Callee.builtin Builtin.append, args := #[s, x], argTypes := #[t, t] })
    (ht : P.underlying t = some (.slice e)) (hi : P.info? e = some i) (hz : i.zero = some z) (hsize : i.size = E.k) (hby : i.bytes = by') (hzs : z.cells.size = E.k)
    (ad : Option Addr) (k cap : Nat) (l : List α) (hs : a.eval s = .slice ad k cap) (hk : k = l.length) (h : Rw.QRow E w ad cap l)
    (a2 : Addr) (m : Nat) (l2 : List α) (c : Nat) (hx : a.eval x = .slice (some a2) m c) (hm : m = l2.length) (hr : Rw.RowE E w (some a2) l2) (hlen : k + m ≤ maxLen) (hbytes : (k + m) * by' ≤ 140737488355328)
    (hK : ∀ (ad' : Option Addr) (cap' : Nat) w', Hid (Rw.QRow E w' ad' cap' (l ++ l2)) → Hid (w.grownBy w' (ad.map (·.block))) → Hid (∀ b o s, ad' = some ⟨b, o, s⟩ → (∃ o', ad = some ⟨b, o', .none⟩) ∨ w.heap.size ≤ b) → wpListIn F n P ops Q rest (a.put o.dst (.slice ad' (k + m) cap')) w') :
    wpListIn F n P ops Q (o :: rest) a w := by
  subst hk hm
  refine wpListIn_plain hg fun K hK' => ?_
  obtain ⟨ad', cap', w', hrun, h1, h2, h3⟩ := Rw.run_append_que (P := P) E w o.type ht hi hz hsize hby hzs ad cap l h a2 c l2 hr hlen hbytes
  unfold Oper.wpIn
  refine ⟨?_, ?_⟩
  · simp [Oper.about, hop, resolve, Target.leads, Sem.run_pure]
  · rw [Oper.semAt_plain F _ _ (by rw [hop]; intro c hc'; cases hc')]
    simp [execOp, hop, resolve, invoke, builtin, hs, hx, hrun, Result.andThen]
    exact hK' _ _ (hK _ _ _ (Lib.hid h1) (Lib.hid h2) (Lib.hid h3))
/-- A block of cells. -/
def IsC (W : World) (b : Nat) : Prop := ∃ cs t fz, W.heap[b]? = some (.cells cs t fz)
theorem isC_cell {W : World} {p : Addr} {v : Value} (h : W.cell? p = some v) : IsC W p.block := by
  unfold World.cell? at h
  split at h
  · rename_i cs t fz he; exact ⟨cs, t, fz, he⟩
  · cases h
theorem isC_own {W W' : World} {row : Option Nat} {b : Nat} (h : IsC W b) (hg : W.grownBy W' row) (hr : ∀ r, row = some r → ∃ o : Obj, W.heap[r]? = some o ∧ o.isCells = false) : IsC W' b := by
  obtain ⟨cs, t, fz, he⟩ := h
  refine ⟨cs, t, fz, (hg.block b (Array.getElem?_eq_some_iff.1 he).1 (fun e => ?_)).trans he⟩
  obtain ⟨ob, g1, g2⟩ := hr b e.symm
  rw [he] at g1
  simp only [Option.some.injEq] at g1
  subst g1
  simp [Obj.isCells] at g2
def AhI (w : World) (b3 Bs N S0 : Nat) (pre : List (Int × FdM)) (W : World) : Prop :=
  (∃ ad cap l, W.heap[b3]? = some (.cells #[.slice ad l.length cap] 31 (0, 0)) ∧ Rw.QRow EFd W ad cap l ∧ (∀ b o s, ad = some ⟨b, o, s⟩ → w.heap.size ≤ b ∧ b ≠ b3 ∧ b ≠ Bs ∧ IsC W b) ∧ l.length = N + pre.length) ∧ Below w.heap.size w W ∧ S0 ≤ W.heap.size
theorem qrow_own {w W W' : World} {ad : Option Addr} {cap : Nat} {l : List FdM} {row : Option Nat} (h : Rw.QRow EFd W ad cap l) (hg : W.grownBy W' row) (hr : ∀ r, row = some r → ∃ o : Obj, W.heap[r]? = some o ∧ o.isCells = false) : Rw.QRow EFd W' ad cap l := by
  by_cases hc : cap = 0
  · subst hc
    have hl : l = [] := List.eq_nil_iff_length_eq_zero.mpr (by have := h.le; omega)
    subst hl
    exact ⟨Nat.le_refl _, h.max, fun _ => rfl, fun a e => by
      obtain ⟨b, off, e1, h1, _⟩ := h.lies a e
      exact ⟨b, off, e1, Nat.lt_of_lt_of_le h1 hg.size, fun i hi => by simp at hi, fun j hj => by simp at hj⟩⟩
  · refine h.block hg.size (fun b o s e => hg.block b ?_ (fun e2 => ?_))
    · obtain ⟨b', off, e1, h1, _⟩ := h.lies _ e
      simp only [Addr.mk.injEq] at e1; omega
    · obtain ⟨ob, h1, h2⟩ := hr b e2.symm
      obtain ⟨b', off, e1, _, _, h3⟩ := h.lies _ e
      simp only [Addr.mk.injEq] at e1
      have h4 := (h3 0 (by have : 0 < EFd.k := EFd.pos; exact Nat.mul_pos (by omega) this)).1
      rw [← e1.1] at h4
      simp only [World.cell?, h1] at h4
      cases ob <;> simp_all [Obj.isCells]
theorem ahI_own (w : World) (b3 Bs N S0 B0 : Nat) (hB : w.heap.size ≤ B0) : OwnFrom B0 (AhI w b3 Bs N S0) := fun pre W W' row hs hg hr => by
  obtain ⟨⟨ad, cap, l, h1, h2, h3, h4⟩, h5, h6⟩ := hs
  refine ⟨⟨ad, cap, l, ?_, qrow_own (w := w) h2 hg (fun r e => (hr r e).2), fun b o s e => ⟨(h3 b o s e).1, (h3 b o s e).2.1, (h3 b o s e).2.2.1, isC_own (h3 b o s e).2.2.2 hg (fun r e => (hr r e).2)⟩, h4⟩, h5.grown hg (Nat.le_trans h5.size (Nat.le_refl _)) (fun k e => by have := (hr k e).1; omega), Nat.le_trans h6 hg.size⟩
  refine (hg.block b3 (Array.getElem?_eq_some_iff.1 h1).1 (fun e => ?_)).trans h1
  obtain ⟨ob, g1, g2⟩ := (hr b3 e.symm).2
  rw [h1] at g1
  simp only [Option.some.injEq] at g1
  subst g1
  simp [Obj.isCells] at g2

set_option maxRecDepth 100000 in
set_option maxHeartbeats 4000000 in
theorem pahead_any (h : RIn B w0 L0 r d w) (hhad : d.had ≤ 100000) :
    Calls Tryd.prog 31 #[.pointer (some ⟨r, 0, none⟩)] w fun e w' => (∃ a n c, e = .returned (.slice a n c)) ∧ Below w.heap.size w w' := by
  obtain ⟨L, ra, rc, fa, fc, fl, ga, gc, gl, hh, hp, hr⟩ := h
  have c0 : w.cell? ⟨r, 0, none⟩ = some (.pointer (some ⟨d.t, 0, none⟩)) := cell_at hh 0
  have c7 : w.cell? ⟨r, 7, none⟩ = some (.int .i64 d.had) := cell_at hh 7
  have c8 : w.cell? ⟨r, 8, none⟩ = some (.slice ga gl.length gc) := cell_at hh 8
  have HRo := Lib.hid (prowsof_any L d.t d.m d.c d.rows w hp.tab)
  have hsum := hp.tab.sum
  have h32 := csum_len d.rows
  obtain ⟨hg1, hg2, hg3, hg4⟩ := hr.2.2
  have HG := Lib.hid hp.g.row
  have HGb := Lib.hid (fun b o s e => hp.g.lt b o s e)
  obtain ⟨N, hN⟩ : ∃ N, N = d.rows.length := ⟨_, rfl⟩
  obtain ⟨G, hG⟩ : ∃ G, G = gl.length := ⟨_, rfl⟩
  rw [← hN] at HRo h32 hg4
  rw [← hG] at c8 hg1
  subst hg1
  obtain ⟨C, hC⟩ : ∃ C, C = N - (d.had - d.gn) := ⟨_, rfl⟩
  have hCN : C ≤ N := by omega
  have HCm : Hid ((N : Int) - ((d.had : Int) - d.gn) = C) := Lib.hid (by omega)
  have HN := Lib.hid hN
  have HGl := Lib.hid hG
  clear hh hp hr hN hG hC
  refine (callsIn_wide (n := 9)).1 ?_
  refine callsIn_of_wp_marks Tryd.func31 rfl trivial ?_ rfl
  refine wpIn_wide.2 ?_
  simp only [Tryd.ntmps31, List.size_toArray, List.length_cons, List.length_nil, Nat.reduceAdd, Nat.reduceSub, Array.replicate_succ, Array.replicate_zero, List.push_toArray, List.append_toArray, List.nil_append, List.cons_append]
  go_wp2_with fail
  refine HRo.out.mono ?_; rintro e w1 ⟨b, rfl, hb1, hq1, hbe1, csr, hcs1⟩
  go_wp2_with fail
  have hA := fun (o : Obj) => below_alloc w1 o
  have e7 : ∀ o : Obj, (w1.alloc o).cell? ⟨r, 7, none⟩ = some (.int .i64 d.had) := fun o => below_cell (hA o) (below_cell hbe1 c7)
  have e8 : ∀ o : Obj, (w1.alloc o).cell? ⟨r, 8, none⟩ = some (.slice ga d.gn gc) := fun o => below_cell (hA o) (below_cell hbe1 c8)
  have hbx := heap_alloc_new w1 (.cells #[.slice (some ⟨b, 0, none⟩) N N] 31)
  have hq2 := hq1.below (hA (.cells #[.slice (some ⟨b, 0, none⟩) N N] 31))
  have hbe2 : Below w.heap.size w (w1.alloc (.cells #[.slice (some ⟨b, 0, none⟩) N N] 31)) := hbe1.alloc hbe1.size _
  have hsz := hbe1.size
  have hblt := (Array.getElem?_eq_some_iff.1 hcs1).1
  have hcs2 := block_below (hA (.cells #[.slice (some ⟨b, 0, none⟩) N N] 31)) hcs1
  have hbb : b ≠ w1.heap.size := fun e => by
    obtain ⟨b', off, e1, h1, _⟩ := hq1.lies _ rfl
    simp only [Addr.mk.injEq] at e1; omega
  have e7' := e7 (.cells #[.slice (some ⟨b, 0, none⟩) N N] 31)
  have e8' := e8 (.cells #[.slice (some ⟨b, 0, none⟩) N N] 31)
  generalize hwn : (w1.alloc (.cells #[.slice (some ⟨b, 0, none⟩) N N] 31)) = w2 at hbx hq2 hbe2 e7' e8' hcs2 ⊢
  generalize hbn : w1.heap.size = b3 at hbx hbb hsz hblt ⊢
  have HW1 := Lib.hid hwn
  have HB3 := Lib.hid hbn
  clear hA e7 e8 hwn hbn hq1 hbe1 c0 c7 c8
  have e3 : w2.cell? ⟨b3, 0, none⟩ = some (.slice (some ⟨b, 0, none⟩) N N) := cell_at hbx 0
  go_quiet (fail)
  simp only [HCm.out]
  have hb3 := below_drewN w2 nq
  have z3 : (w2.drewN nq).frozen? ⟨b3, 0, none⟩ = false := frozen_of_row _ _ 0 _ _ (block_below hb3 hbx)
  have q3 : (w2.drewN nq).cell? ⟨b3, 0, none⟩ = some (.slice (some ⟨b, 0, none⟩) N N) := below_cell hb3 e3
  have q8 : (w2.drewN nq).cell? ⟨r, 8, none⟩ = some (.slice ga d.gn gc) := below_cell hb3 e8'
  have hx3 := block_below hb3 hbx
  have hr3 := hq2.below hb3
  have hcs3 := block_below hb3 hcs2
  have hbe3 := hbe2.trans (hb3.mono hbe2.size)
  have hrb3 : r ≠ b3 := fun e => by
    subst e
    rw [cell_at hbx 8] at e8'
    simp at e8'
  generalize (w2.drewN nq) = w3 at z3 q3 q8 hx3 hr3 hbe3 hcs3 ⊢
  clear hb3 e3 e7' e8' hbx hq2 hbe2 hcs2 hcs1
  have hsl := fun (v : World) => Sl.run_from (P := Tryd.prog) (t := 31) Tryd.underlying31 (size := 3) size_fdr (some ⟨b, 0, none⟩) N N C hCN (Nat.le_refl _) v
  have hqf := qrow_from hr3 C (by rw [← HN.out]; exact hCN)
  have hab : ∀ b2 o s, Sl.adOf (some ⟨b, 0, none⟩) N C 3 = some ⟨b2, o, s⟩ → b2 = b := fun b2 o s e => by
    obtain ⟨o', s', e2⟩ := adOf_block e
    simp only [Option.some.injEq, Addr.mk.injEq] at e2
    exact e2.1.symm
  change Rw.QRow EFd w3 (Sl.adOf (some ⟨b, 0, none⟩) N C 3) (N - C) (d.rows.drop C) at hqf
  generalize Sl.adOf (some ⟨b, 0, none⟩) N C 3 = ad3 at hsl hqf hab
  have hNC : (d.rows.drop C).length = N - C := by rw [List.length_drop, ← HN.out]
  obtain ⟨M, hM⟩ : ∃ M, M = N - C := ⟨_, rfl⟩
  rw [← hM] at hsl hqf hNC
  have hMN : M ≤ N := by omega
  have HHyp := Lib.hid (⟨hx3, hqf, hab, hNC, hcs3⟩ : _ ∧ _ ∧ _ ∧ _ ∧ _)
  clear hcs3 hx3 hqf hab hNC hr3 hM
  go_wp2_with fail
  refine (callsIn_wide.1 (back_in 5 _ _ _ _)).mono ?_; rintro e w5 ⟨rfl, rfl⟩
  go_wp2_with fail
  obtain ⟨hx3, hqf, hab, hNC, hcs3⟩ := HHyp.out
  have hset := heap_setCell_same w3 b3 0 _ _ (.slice ad3 M M) hx3
  have hb4 : Below w.heap.size w (w3.setCell ⟨b3, 0, none⟩ (.slice ad3 M M)) := hbe3.setCell (p := ⟨b3, 0, none⟩) hsz _
  have hq4 : Rw.QRow EFd (w3.setCell ⟨b3, 0, none⟩ (.slice ad3 M M)) ad3 M (d.rows.drop C) := hqf.block (by simp [World.setCell]) (fun b2 o s e => Below.heap_setCell _ _ _ _ (fun e2 => hbb (by rw [← hab b2 o s e]; exact e2)))
  have hss : (w3.setCell ⟨b3, 0, none⟩ (.slice ad3 M M)).heap.size = w3.heap.size := by simp [World.setCell]
  have hset2 := alloc_at (p := .cells #[.slice ga d.gn gc] 31) hset
  have hcC : IsC ((w3.setCell ⟨b3, 0, none⟩ (.slice ad3 M M)).alloc (.cells #[.slice ga d.gn gc] 31)) b := ⟨_, _, _, alloc_at ((Below.heap_setCell _ _ _ _ hbb).trans hcs3)⟩
  have hb5 := hb4.alloc hb4.size (.cells #[.slice ga d.gn gc] 31)
  have hq5 := hq4.below (below_alloc _ (.cells #[.slice ga d.gn gc] 31))
  have hbx5 := heap_alloc_new (w3.setCell ⟨b3, 0, none⟩ (.slice ad3 M M)) (.cells #[.slice ga d.gn gc] 31)
  rw [hss] at hbx5
  have hs5 : ((w3.setCell ⟨b3, 0, none⟩ (.slice ad3 M M)).alloc (.cells #[.slice ga d.gn gc] 31)).heap.size = w3.heap.size + 1 := by simp
  have hb3lt := (Array.getElem?_eq_some_iff.1 hx3).1
  have hgr : Rw.RowE EFd ((w3.setCell ⟨b3, 0, none⟩ (.slice ad3 M M)).alloc (.cells #[.slice ga d.gn gc] 31)) ga gl := (HG.out.below hb5).row
  have hws := hbe3.size
  generalize hW0 : ((w3.setCell ⟨b3, 0, none⟩ (.slice ad3 M M)).alloc (.cells #[.slice ga d.gn gc] 31)) = W0 at *
  generalize hBs : w3.heap.size = Bs at *
  clear hq4 hqf hset hb4 hx3 hW0
  obtain ⟨i0, hi, hz0, hz1, hz2⟩ := info_parts info_fd
  refine (wpIn_wide (n := 9)).1 ?_
  refine wpIn_rangeFunc_ownH (n := 9) rfl (by omega) (gf := 67) (lb := #[.pointer (some ⟨Bs, 0, none⟩)]) rfl trivial (enters_of Tryd.func67 (by kernel_rfl) rfl)
    (back_stops 8 (by omega) Bs w.heap.size ga gc gl (by rw [← HGl.out]; omega) HG.out.le W0 (by omega) (by omega) (by rw [cell_at hbx5 0, ← HGl.out]; rfl) hgr (fun b o s e => HGb.out b o s e)) (fun h k => h.trans k) (kpB_b (by omega) (by omega)) (Below.refl _ _) (fun _ => rfl)
    (AhI w b3 Bs M W0.heap.size) (fun _ _ _ => False) (ahI_own w b3 Bs M _ _ (by omega)) (fun _ _ _ _ _ hs _ _ => hs)
    ⟨⟨ad3, M, d.rows.drop C, by rw [hNC]; exact hset2, hq5, fun b2 o s e => by rw [hab b2 o s e]; exact ⟨hb1, hbb, by omega, hcC⟩, by rw [hNC]; simp⟩, hb5, Nat.le_refl _⟩
    (fun x a' W => ∃ Bx, W.heap[Bx]? = some (.cells #[.string x.2.name, .string x.2.value, .bool x.2.never] 59 (0, 0)) ∧ Fr.Is 40 [(3, .pointer (some ⟨b3, 0, none⟩)), (6, .pointer (some ⟨Bx, 0, none⟩))] a')
    (fun x a' u X Y row hs hg hr => by
      obtain ⟨Bx, h1, h2⟩ := hs
      refine ⟨Bx, (hg.block Bx (Array.getElem?_eq_some_iff.1 h1).1 (fun e => ?_)).trans h1, h2⟩
      obtain ⟨ob, g1, g2⟩ := (hr Bx e.symm).2
      rw [h1] at g1
      simp only [Option.some.injEq] at g1
      subst g1
      simp [Obj.isCells] at g2)
    ?assign ?body ?done ?stop
  case assign =>
    rintro l pre ⟨x, f⟩ W K hI hK
    have hI1 : AhI w b3 Bs M W0.heap.size pre (W.alloc (.cells #[.string f.name, .string f.value, .bool f.never] 59)) := by
      obtain ⟨⟨ad, cap, l, h1, h2, h3, h4⟩, h5, h6⟩ := hI
      have hba := below_alloc W (.cells #[.string f.name, .string f.value, .bool f.never] 59)
      exact ⟨⟨ad, cap, l, block_below hba h1, h2.below hba, fun b o s e => ⟨(h3 b o s e).1, (h3 b o s e).2.1, (h3 b o s e).2.2.1, (by obtain ⟨cs, t, fz, he⟩ := (h3 b o s e).2.2.2; exact ⟨cs, t, fz, block_below hba he⟩)⟩, h4⟩, h5.alloc h5.size _, Nat.le_trans h6 hba.size⟩
    have hKp : KpB w.heap.size Bs W (W.alloc (.cells #[.string f.name, .string f.value, .bool f.never] 59)) :=
      ⟨(Below.refl _ W).alloc hI.2.1.size _, (below_alloc W _).block Bs (by have := hI.2.2; omega)⟩
    have HK := Lib.hid (fun a' (ha : Fr.Is 40 [(3, .pointer (some ⟨b3, 0, none⟩)), (6, .pointer (some ⟨W.heap.size, 0, none⟩))] a') => hK a' _ ((KeepsOthers.alloc _ _).from _) hKp hI1 ⟨W.heap.size, fd_box W f, ha⟩)
    clear hK hI hI1 hKp
    dsimp only [encBk]
    gi_wp2
    exact HK.out _ (Fr.Is.mk rfl rfl)
  case body =>
    rintro l pre ⟨x, f⟩ a' W hl hlr hI ⟨Bx, hbx, ha⟩ hlen
    obtain ⟨⟨ad, cap, rl, h1, h2, h3, h4⟩, h5, h6⟩ := hI
    have hbxl := (Array.getElem?_eq_some_iff.1 hbx).1
    have hb3l := (Array.getElem?_eq_some_iff.1 h1).1
    obtain ⟨p0, p1, p2⟩ := box_cells hbx
    have p3 : W.cell? ⟨b3, 0, none⟩ = some (.slice ad rl.length cap) := cell_at h1 0
    have HI := Lib.hid hi
    have HZ0 := Lib.hid hz0
    have HZ1 := Lib.hid hz1
    have HZ2 := Lib.hid hz2
    have hB := below_alloc W (.cells #[.string f.name, .string f.value, .bool f.never] 59)
    have HNew := Lib.hid (fd_new W f)
    have HRa := Lib.hid (h2.below hB)
    have HL : Hid (rl.length + 1 ≤ maxLen ∧ (rl.length + 1) * 40 ≤ 140737488355328) := Lib.hid (by
      have : rl.length ≤ 2000000 := by have := HGl.out; rw [h4]; omega
      exact ⟨by unfold maxLen; omega, by omega⟩)
    have HEnd : Hid (∀ ad' cap' W4, Rw.QRow EFd W4 ad' cap' (rl ++ [f]) → (W.alloc (.cells #[.string f.name, .string f.value, .bool f.never] 59)).grownBy W4 (ad.map (·.block)) → (∀ b o s, ad' = some ⟨b, o, s⟩ → (∃ o', ad = some ⟨b, o', none⟩) ∨ (W.alloc (.cells #[.string f.name, .string f.value, .bool f.never] 59)).heap.size ≤ b) →
        (W4.cell? ⟨b3, 0, none⟩ = some (.slice ad rl.length cap) ∧ W4.frozen? ⟨b3, 0, none⟩ = false) ∧
        (KeepsFrom W0.heap.size W (W4.setCell ⟨b3, 0, none⟩ (.slice ad' (rl.length + 1) cap')) ∧ KpB w.heap.size Bs W (W4.setCell ⟨b3, 0, none⟩ (.slice ad' (rl.length + 1) cap')) ∧ AhI w b3 Bs M W0.heap.size (pre ++ [(x, f)]) (W4.setCell ⟨b3, 0, none⟩ (.slice ad' (rl.length + 1) cap')))) := Lib.hid (by
      intro ad' cap' W4 hq hg hn
      have hne3 : ad.map (·.block) ≠ some b3 := fun e => by
        rw [Option.map_eq_some_iff] at e
        obtain ⟨⟨b2, o2, s2⟩, e1, rfl⟩ := e
        exact (h3 b2 o2 s2 e1).2.1 rfl
      have hh4 := grown_at hg (alloc_at h1) hne3
      have hset := heap_setCell_same W4 b3 0 _ _ (.slice ad' (rl.length + 1) cap') hh4
      have hss : (W4.setCell ⟨b3, 0, none⟩ (.slice ad' (rl.length + 1) cap')).heap.size = W4.heap.size := by simp [World.setCell]
      have hsa : (W.alloc (.cells #[.string f.name, .string f.value, .bool f.never] 59)).heap.size = W.heap.size + 1 := by simp
      have hgs := hg.size
      have hrow : ∀ k, ad.map (·.block) = some k → w.heap.size ≤ k ∧ k ≠ Bs ∧ IsC W k := fun k e => by
        rw [Option.map_eq_some_iff] at e
        obtain ⟨⟨b2, o2, s2⟩, e1, rfl⟩ := e
        exact ⟨(h3 b2 o2 s2 e1).1, (h3 b2 o2 s2 e1).2.2.1, (h3 b2 o2 s2 e1).2.2.2⟩
      have hbW : Below w.heap.size W (W4.setCell ⟨b3, 0, none⟩ (.slice ad' (rl.length + 1) cap')) :=
        (((Below.refl _ W).alloc h5.size _).grown hg (by omega) (fun k e => (hrow k e).1)).setCell (p := ⟨b3, 0, none⟩) hsz _
      have hst : ∀ k, k < W.heap.size → k ≠ b3 → ad.map (·.block) ≠ some k → (W4.setCell ⟨b3, 0, none⟩ (.slice ad' (rl.length + 1) cap')).heap[k]? = W.heap[k]? := fun k hk h3' hr => (Below.heap_setCell _ _ _ _ h3').trans ((hg.block k (by omega) (fun e => hr e.symm)).trans (Below.heap_alloc _ _ _ hk))
      refine ⟨⟨cell_at hh4 0, frozen_of_row _ _ _ _ _ hh4⟩, ⟨by omega, fun k ob hk1 hk2 hk3 => ?_⟩, ⟨hbW, hst Bs (by omega) (by omega) (fun e => (hrow Bs e).2.1 rfl)⟩, ⟨ad', cap', rl ++ [f], ?_, ?_, ?_, ?_⟩, h5.trans hbW, by omega⟩
      · refine (hst k (Array.getElem?_eq_some_iff.1 hk2).1 (fun e => ?_) (fun e => ?_)).trans hk2
        · subst e
          rw [h1] at hk2
          simp only [Option.some.injEq] at hk2
          subst hk2
          simp [Obj.isCells] at hk3
        · obtain ⟨cs, t, fz, he⟩ := (hrow k e).2.2
          rw [he] at hk2
          simp only [Option.some.injEq] at hk2
          subst hk2
          simp [Obj.isCells] at hk3
      · rw [List.length_append]; exact hset
      · refine hq.block (by omega) (fun b2 o s e => Below.heap_setCell _ _ _ _ (fun e2 => ?_))
        rcases hn b2 o s e with ⟨o', e'⟩ | h'
        · exact (h3 b2 o' none e').2.1 e2
        · simp only at e2; omega
      · intro b2 o s e
        have hC : IsC (W4.setCell ⟨b3, 0, none⟩ (.slice ad' (rl.length + 1) cap')) b2 := by
          obtain ⟨b', off, e1, g1, g2, g3⟩ := hq.lies _ e
          simp only [Addr.mk.injEq] at e1
          have hk := g2 rl.length (by simp) 0 (.string ((rl ++ [f])[rl.length]'(by simp)).name) rfl
          have hk2 := isC_cell hk
          obtain ⟨cs, t, fz, he⟩ := hk2
          simp only at he
          rw [← e1.1] at he
          by_cases h9 : b2 = b3
          · subst h9; exact ⟨_, _, _, hset⟩
          · exact ⟨cs, t, fz, (Below.heap_setCell _ _ _ _ h9).trans he⟩
        rcases hn b2 o s e with ⟨o', e'⟩ | h'
        · exact ⟨(h3 b2 o' none e').1, (h3 b2 o' none e').2.1, (h3 b2 o' none e').2.2.1, hC⟩
        · exact ⟨by have := h5.size; omega, by omega, by omega, hC⟩
      · rw [List.length_append, List.length_append, h4]; simp only [List.length_cons, List.length_nil]; omega)
    have H4 := Lib.hid h4
    clear h1 h2 h3 h4 h5 h6 hB hbx
    obtain ⟨fr, rfl, hfr⟩ := ha.lit
    simp only [List.map_cons, List.map_nil, List.cons.injEq, and_true] at hfr
    simp only [List.range, List.range.loop, List.map_cons, List.map_nil, hfr]
    clear hfr ha hi hz0 hz1 hz2
    obtain ⟨fn, fv, fb⟩ := f
    simp only at *
    gi_wp2_with (gi_at_builtin; refine wlIn_que EFd rfl (.tmp 35) (.tmp 37) rfl Tryd.underlying31 HI.out HZ0.out HZ1.out HZ2.out rfl ad rl.length cap rl rfl rfl HRa.out ⟨W.heap.size, 0, none⟩ 1 [⟨fn, fv, fb⟩] 1 rfl rfl HNew.out HL.out.1 HL.out.2 ?_; intro ad4 cap4 W4 hq4 hg4 hb4; obtain ⟨⟨c4, f4⟩, hE4⟩ := HEnd.out _ _ _ hq4.out hg4.out hb4.out)
    exact hE4
  case done =>
    rintro D xs W hD _ ⟨⟨ad, cap, rl, h1, h2, h3, h4⟩, h5, h6⟩ hK
    have p3 : W.cell? ⟨b3, 0, none⟩ = some (.slice ad rl.length cap) := cell_at h1 0
    have hF : Below w.heap.size w (W.putObj D (.deferred none)) := h5.trans (belowK_b (w := w) (Nat.le_refl _) W D _ _ (by omega) hK rfl rfl)
    have HF := Lib.hid hF
    have HK := Lib.hid hK
    clear h1 h2 h3 h4 h5 h6 hF hK
    go_wp2_with fail
    refine ⟨by simp, .inl ⟨_, _, rfl, run_takeDeferred HK.out, ?_⟩⟩
    exact ⟨_, results_tmp rfl _ _ _, ⟨_, _, _, rfl⟩, HF.out⟩
  case stop =>
    rintro D c pre W _ _ h _
    exact h.elim
end Go.Proofs.YtdkgachgohilcaaDoor

namespace Go.Proofs.YtdkgachgohilcaaDoor
open Go.RowKit
open Huf Pre Tab Hpk Arg Mem Gen Wr Go.Proofs.YtdkgachgohilcaaDoor.Obj
set_option linter.unusedVariables false
variable {B : Nat} {w0 w : World} {L0 L : List Nat} {r : Nat} {d : RD}

set_option maxRecDepth 100000 in
set_option maxHeartbeats 1000000 in
/-- Nothing was given up: nothing is done. -/
theorem pcatch_idle (p0 p1 p2 p3 : Addr) (w : World) :
    CallsD Tryd.prog 30 #[.pointer (some p0), .pointer (some p1), .pointer (some p2), .pointer (some p3)] .returning w fun e u' w' => e = .returned (.tuple #[]) ∧ u' = .returning ∧ w' = w := by
  refine callsD_of_wpS Tryd.func30 rfl fun c₀ cs hu => ?_
  apply wpS_seq
  apply wpS_region
  simp [wpOpsS, go_sem, recoverD, hu, Tryd.ntmps30, Exit.thenS]
  apply wpS_seq
  apply wpS_seq
  apply wpS_region
  simp [wpOpsS, go_sem, Exit.thenS]
  refine wpS_cond (t := true) (by simp [Act.eval, Array.replicate]) ?_
  simp only [if_true]
  refine wpS_of_wp (wp_ret ?_)
  cases c₀
  simp_all [bodyPostS, results, Tryd.results30, Exit.thenS]

theorem type_assert (er : Nat) (w : World) : (Instr.typeAssert (.iface 26 (.int .i64 er)) 20 26 true).run Tryd.prog w = .ok (.tuple #[.int .i64 er, .bool true]) w := by kernel_rfl

/-- The blocks that the deferred function writes. -/
structure CatchB (g b2 b4 b5 : Nat) (md ld : Nat) (pt lf v4 v5 : Value) (w : World) : Prop where
  h2 : w.heap[b2]? = some (.cells #[.pointer (some ⟨g, 0, none⟩)] 25 (0, 0))
  h4 : w.heap[b4]? = some (.cells #[v4] 31 (0, 0))
  h5 : w.heap[b5]? = some (.cells #[v5] 26 (0, 0))
  hg : w.heap[g]? = some (.cells #[.int .i64 md, .int .i64 ld, pt, lf] 67 (0, 0))
  n1 : b2 ≠ g
  n2 : b4 ≠ g
  n3 : b5 ≠ g
  n4 : b2 ≠ b4
  n5 : b2 ≠ b5
  n6 : b4 ≠ b5
theorem CatchB.below {g b2 b4 b5 md ld : Nat} {pt lf v4 v5 : Value} (h : CatchB g b2 b4 b5 md ld pt lf v4 v5 w) {w' : World} (hb : Below w.heap.size w w') : CatchB g b2 b4 b5 md ld pt lf v4 v5 w' :=
  ⟨block_below hb h.h2, block_below hb h.h4, block_below hb h.h5, block_below hb h.hg, h.n1, h.n2, h.n3, h.n4, h.n5, h.n6⟩

set_option maxRecDepth 100000 in
set_option maxHeartbeats 2000000 in
theorem catch_rest {Q : Exit → Act → World → Prop} (er g b2 b4 b5 : Nat) (md ld : Nat) (pt lf v4 v5 : Value) (h : RIn B w0 L0 r d w) (hhad : d.had ≤ 100000) (hC : CatchB g b2 b4 b5 md ld pt lf v4 v5 w) (a : Act)
    (ha : Fr.Is 26 [(0, .pointer (some ⟨r, 0, none⟩)), (1, .pointer (some ⟨b2, 0, none⟩)), (2, .pointer (some ⟨b4, 0, none⟩)), (3, .pointer (some ⟨b5, 0, none⟩)), (4, .iface 26 (.int .i64 er))] a)
    (hQ : Hid (∀ a' wa ad n c, a'.defers = [] → Below w.heap.size w wa → Q .normal a' ((((wa.setCell ⟨g, 2, none⟩ (.pointer none)).setCell ⟨g, 3, none⟩ (.slice ad n c)).setCell ⟨b4, 0, none⟩ (.slice none 0 0)).setCell ⟨b5, 0, none⟩ (.int .i64 er)))) :
    (Fr.tail Tryd.f30 1).wp Tryd.prog Q a w := by
  have HAh := Lib.hid (fun v (hv : Below w.heap.size w v) => pahead_any (h.below hv) hhad)
  have HC := Lib.hid (fun v (hv : Below w.heap.size w v) => hC.below hv)
  have hb0 : Below w.heap.size w w.drew := (Below.refl _ _).drew
  have n1 := hC.n1
  have n2 := hC.n2
  have n3 := hC.n3
  have n4 := hC.n4
  have n5 := hC.n5
  have n6 := hC.n6
  have m1 : g ≠ b2 := fun e => n1 e.symm
  have m2 : g ≠ b4 := fun e => n2 e.symm
  have m3 : g ≠ b5 := fun e => n3 e.symm
  have m4 : b4 ≠ b2 := fun e => n4 e.symm
  have m5 : b5 ≠ b2 := fun e => n5 e.symm
  have m6 : b5 ≠ b4 := fun e => n6 e.symm
  have q2 : w.cell? ⟨b2, 0, none⟩ = some (.pointer (some ⟨g, 0, none⟩)) := cell_at hC.h2 0
  have hta := type_assert er
  clear h hC
  obtain ⟨fr, rfl, hfr⟩ := ha.lit
  simp only [List.map_cons, List.map_nil, List.cons.injEq, and_true] at hfr
  conv => arg 2; whnf
  simp only [List.range, List.range.loop, List.map_cons, List.map_nil, hfr]
  clear hfr ha
  go_wp2_with fail
  go_region_held3 (fun v => v.cell? ⟨b2, 0, none⟩ = some (.pointer (some ⟨g, 0, none⟩)))
    (first | exact below_cell hb0 q2 | go_keep)
    ((go_at_call 31; refine (HAh.out _ hb0).mono ?_; rintro e wa ⟨⟨ad, n, c, rfl⟩, bA⟩; replace hb0 := below_step hb0 bA; have hc := HC.out _ hb0; have g2 : wa.cell? ⟨g, 2, none⟩ = some pt := cell_at hc.hg 2; have g3 : wa.cell? ⟨g, 3, none⟩ = some lf := cell_at hc.hg 3; have y2 : wa.frozen? ⟨g, 2, none⟩ = false := frozen_of_row _ _ _ _ _ hc.hg; have y3 : wa.frozen? ⟨g, 3, none⟩ = false := frozen_of_row _ _ _ _ _ hc.hg))
  all_goals
    have c4 : wa.cell? ⟨b4, 0, none⟩ = some v4 := cell_at hc.h4 0
    have c5 : wa.cell? ⟨b5, 0, none⟩ = some v5 := cell_at hc.h5 0
    have z4 : wa.frozen? ⟨b4, 0, none⟩ = false := frozen_of_row _ _ _ _ _ hc.h4
    have z5 : wa.frozen? ⟨b5, 0, none⟩ = false := frozen_of_row _ _ _ _ _ hc.h5
    clear hc
    go_wp2_with fail
    exact hQ.out _ _ _ _ _ rfl hb0

set_option maxRecDepth 100000 in
set_option maxHeartbeats 2000000 in
/-- A block was given up: the decoder has no table any more, and the error is told. -/
theorem pcatch_bad (er g b2 b4 b5 : Nat) (md ld : Nat) (pt lf v4 v5 : Value) (h : RIn B w0 L0 r d w) (hhad : d.had ≤ 100000) (older : List PanicEntry) (hC : CatchB g b2 b4 b5 md ld pt lf v4 v5 w) :
    CallsD Tryd.prog 30 #[.pointer (some ⟨r, 0, none⟩), .pointer (some ⟨b2, 0, none⟩), .pointer (some ⟨b4, 0, none⟩), .pointer (some ⟨b5, 0, none⟩)] (.panicking ({ v := .iface 26 (.int .i64 er), recovered := false } :: older)) w fun e u' w' =>
      e = .returned (.tuple #[]) ∧ u' = .panicking ({ v := .iface 26 (.int .i64 er), recovered := true } :: older) ∧ ∃ wa a n c, Below w.heap.size w wa ∧ w' = (((wa.setCell ⟨g, 2, none⟩ (.pointer none)).setCell ⟨g, 3, none⟩ (.slice a n c)).setCell ⟨b4, 0, none⟩ (.slice none 0 0)).setCell ⟨b5, 0, none⟩ (.int .i64 er) := by
  refine callsD_of_wpS Tryd.func30 rfl fun c₀ cs hu => ?_
  apply wpS_seq
  apply wpS_region
  simp [wpOpsS, go_sem, recoverD, hu, Tryd.ntmps30, Exit.thenS]
  refine wpS_of_wp ?_
  change (Fr.tail Tryd.f30 1).wp Tryd.prog _ _ _
  refine catch_rest er g b2 b4 b5 md ld pt lf v4 v5 h hhad hC _ ?_ ?_
  · refine ⟨rfl, by kernel_rfl, fun p hp => ?_⟩
    simp only [List.mem_cons, List.not_mem_nil, or_false] at hp
    rcases hp with rfl | rfl | rfl | rfl | rfl <;> kernel_rfl
  · refine Lib.hid (fun a' wa ad n c hd hb => ?_)
    obtain ⟨tm, df⟩ := a'
    simp only at hd
    subst hd
    exact ⟨rfl, _, rfl, .tuple #[], by simp [results, Tryd.results30, go_sem], rfl, rfl, wa, hb, ad, n, c, rfl⟩
end Go.Proofs.YtdkgachgohilcaaDoor
