/- Layer 7: what the law ChopPreface needs: a text as bytes; the preface cut in two, and with a byte another. Layer 7: the law ChopPreface: the preface whole. Layer 7: the law ChopPreface: a byte is another. Layer 7: the law ChopPreface. -/
import Derived.Test.YtglhdlkmgmbgeaaDoorGG01
import Derived.Lib.ConvBytes
import Derived.Lib.SlBytesConst
import Derived.Laws.StructEq
import Derived.Deep.RegionHeld
import Derived.Test.YtglhdlkmgmbgeaaDoorGH01
set_option linter.unusedVariables false
set_option linter.unusedSimpArgs false
namespace Go.Proofs.YtglhdlkmgmbgeaaDoor
open Go.RowKit
open Cho Fra Oct Arg Mem Gen Wr Qu Pt Sx Go.Proofs.YtglhdlkmgmbgeaaDoor.Obj
set_option linter.unusedVariables false
set_option linter.unusedSimpArgs false

/-- A text as bytes: a new row. -/
theorem bw_below (v : World) (e : TypeId) (s : ByteArray) : Below v.heap.size v (Lib.bytesWorld v e s) :=
  ⟨rfl, rfl, rfl, by rw [Lib.bytesWorld_size]; omega, fun k hk => Lib.bytesWorld_at_old v e s k hk⟩
theorem bw_rb (v : World) (e : TypeId) (s : ByteArray) (l : List UInt8) (hl : s.data.toList = l) : RB (Lib.bytesWorld v e s) (some ⟨v.heap.size, 0, none⟩) l := .inr ⟨_, _, rfl, fun i hi => by
  have hsz : i < s.size := by
    rw [← Oct.list_len s, hl]; exact hi
  rw [Nat.zero_add, Lib.bytesWorld_cell v e s i hsz, hl]
  simp [List.getD, List.getElem?_eq_getElem hi]⟩
def prefA : ByteArray := ⟨#[80, 82, 73, 32, 42, 32, 72, 84, 84, 80, 47, 50, 46, 48, 13, 10, 13, 10, 83, 77, 13, 10, 13, 10]⟩
theorem prefA_cut : ∀ m : Fin 25, (prefA.extract 0 m).data.toList = prefL.take m ∧ (prefA.extract m 24).data.toList = prefL.drop m ∧ (prefA.extract 0 m).size = m.val ∧ (prefA.extract m 24).size = 24 - m.val := by decide +kernel
/-- A feed behind the first bytes of the preface. -/
def stP (m : Nat) : FeM := if m < 24 then ⟨prefL.take m, true, false⟩ else ⟨[], false, false⟩
theorem pre_1 : ∀ m : Fin 25, feedF 100 ⟨[], true, false⟩ (prefL.take m) = ([], stP m) ∧ (stP m).rest.length = m.val % 24 := by decide +kernel
theorem pre_2 : ∀ m : Fin 25, feedF 100 (stP m) (prefL.drop m) = ([], ⟨[], false, false⟩) := by decide +kernel
/-- A byte another. -/
theorem pre_bad (at_ : Nat) (h : at_ < 24) (x : UInt8) (hx : x ≠ prefL.getD at_ 0) : (feedF 100 ⟨prefL.take at_, true, false⟩ [x]).1 = [⟨noFr, ofC 1⟩] ∧ (feedF 100 ⟨prefL.take at_, true, false⟩ [x]).2.over = true := by
  have hl : (prefL.take at_).length = at_ := by rw [List.length_take, pref_len]; omega
  have hb := bad_at (prefL.take at_ ++ [x]) at_ (by rw [List.length_append, hl]; simp) h (by
    rw [List.getElem_append_right (by omega)]
    simp [hl]
    intro e
    exact hx (by rw [e]; simp [List.getD]))
  rw [feed_run _ _ _ rfl, run_live, all_bad _ _ hb]
  exact ⟨rfl, rfl⟩
end Go.Proofs.YtglhdlkmgmbgeaaDoor

namespace Go.Proofs.YtglhdlkmgmbgeaaDoor
open Go.RowKit
open Cho Fra Oct Arg Mem Gen Wr Qu Pt Sx Go.Proofs.YtglhdlkmgmbgeaaDoor.Obj
set_option linter.unusedVariables false
set_option linter.unusedSimpArgs false

section
variable {P : Program} {o : Oper} {ops : Array Oper} {a : Act} {w : World} {Q : Exit → Act → World → Prop}
/-- A call, guarded or not. -/
theorem step_callG {K : Act → World → Prop} {Ee : Prop} (hw : Region.wanted o (yielded ops a.tmps) = true) (f : FuncId) (xs : List Operand) (ts : Array TypeId) (ho : o.op = .call { callee := .value (.func f), args := xs.toArray, argTypes := ts })
    (args : List Value) (ha : xs.map a.eval = args) (hi : ∀ v, (callFunc f args.toArray).run P v = .ok (.enter f args.toArray) v) {R : Ending → World → Prop} (hc : Calls P f args.toArray w R) (hK : ∀ e w', R e w' → ∃ v, e = .returned v ∧ K (a.put o.dst v) w') :
    if Region.wanted o (yielded ops a.tmps) = true then Oper.wp P o a w K Q else Ee := by
  rw [if_pos hw]
  have hr : (execOp a.eval o).run P w = .ok (.enter f args.toArray) w := by
    simp [execOp, ho, resolve, invoke, Deferred.ofValue, Act.eval, ha, hi, go_sem]
  unfold Oper.wp
  rw [hr]
  refine hc.mono fun e w' h => ?_
  obtain ⟨v, rfl, h2⟩ := hK e w' h
  exact h2
/-- A text as bytes, guarded or not. -/
theorem step_conv {K : Act → World → Prop} {Ee : Prop} (hw : Region.wanted o (yielded ops a.tmps) = true) (x : Operand) (ts td te : TypeId) (ho : o.op = .convert ts td x) {u : TypeDesc} (hs : P.underlying ts = some u) (hd : P.underlying td = some (.slice te)) (he : P.underlying te = some (.int .u8))
    (s : ByteArray) (hx : a.eval x = .string s) (hK : K (a.put o.dst (.slice (some ⟨w.heap.size, 0, none⟩) s.size (grownCap w s.size 0 te))) (Lib.bytesWorld w te s)) :
    if Region.wanted o (yielded ops a.tmps) = true then Oper.wp P o a w K Q else Ee := by
  rw [if_pos hw]
  have hr := Lib.run_convert_string_bytes (P := P) w ts td te s hs hd he
  unfold Oper.wp
  simp [execOp, ho, hx, hr, Result.andThen]
  exact hK
end

set_option maxRecDepth 100000 in
set_option maxHeartbeats 1000000 in
theorem pf7_m {Q : Exit → Act → World → Prop} {fb m : Nat} {at_ by_ : Value} {W0 : World} (hm : m ≤ 24) (HSp : Hid (SpIs W0))
    (hQ : Hid (∀ a' w', Fr.Is 127 [(0, at_), (1, by_), (8, .int .i64 24), (54, .bool false)] a' → Below W0.heap.size W0 w' → Q .normal a' w'))
    (a : Act) (v : World) {X Y Z T : Th} {la : Option Addr} {lc : Nat} (hv : Hid (Sts W0 v [X, Y, Z, T, (fb :: blk la, FdP fb la lc 100 ⟨[], false, false⟩)])) (ha : Fr.Is 127 [(0, at_), (1, by_), (2, .int .i64 m), (7, .pointer (some ⟨fb, 0, none⟩)), (8, .int .i64 24), (51, .bool false)] a) :
    wpAnyH Tryd.prog .any (opsOf (Fr.reg Tryd.f6 7)) (NoPanic Q) (fun _ => True) 3 #[true, true, true, true, true, true, true, true, true, true, true, true, true, true, true, true, true, true, true, true, true, true, true, true, true, true, true, true, true, true, false, false, false] a v := by
  obtain ⟨fr, rfl, hfr⟩ := ha.lit
  simp only [List.map_cons, List.map_nil, List.cons.injEq, and_true] at hfr
  conv => arg 3; whnf
  simp only [List.range, List.range.loop, List.map_cons, List.map_nil, hfr]
  clear hfr ha
  have hHeld : (fun _ : World => True) v := trivial
  refine wpAnyH_take (i := 30) (oi := _) (v := ?_) rfl (by kernel_rfl) (by kernel_rfl) (by kernel_rfl) (fun _ _ _ h => h) (Or.inl ⟨by rfl, ?_⟩) (by assumption) ?_
  rotate_left 1
  · intro w hSw
    try dsimp only at hSw
    first | (go_simp; done) | (go_simp; with_reducible rfl)
  try simp only [Act.put, List.setIfInBounds_toArray, List.set_cons_zero, List.set_cons_succ]
  refine wpAnyH_ready (rs := [31]) (by kernel_rfl) (by simp) ?_
  refine AllReadyH.cons (o := _) rfl (fun K' hK' => ?_) AllReadyH.nil
  have hl := pover_any v (show FdO fb la lc 100 ⟨[], false, false⟩ v from hv.out.is 4 rfl)
  refine step_callG (by rfl) 15 [.tmp 52] _ rfl [.pointer (some ⟨fb, 0, none⟩)] rfl (fun v => rfl) hl ?_
  rintro e v2 ⟨rfl, rfl⟩
  refine ⟨_, rfl, ?_⟩
  refine hK'.out _ _ trivial (fun hHeld => ?_)
  clear hK' K'
  try simp only [Act.put, List.setIfInBounds_toArray, List.set_cons_zero, List.set_cons_succ]
  refine wpAnyH_take (i := 32) (oi := _) (v := ?_) rfl (by kernel_rfl) (by kernel_rfl) (by kernel_rfl) (fun _ _ _ h => h) (Or.inl ⟨by rfl, ?_⟩) (by assumption) ?_
  rotate_left 1
  · intro w hSw
    try dsimp only at hSw
    first | (go_simp; done) | (go_simp; with_reducible rfl)
  try simp only [Act.put, List.setIfInBounds_toArray, List.set_cons_zero, List.set_cons_succ]
  refine wpAnyH_done (by kernel_rfl) ?_ _
  exact hQ.out _ _ (Fr.Is.mk rfl rfl) hv.out.bel

set_option maxRecDepth 100000 in
set_option maxHeartbeats 1000000 in
theorem pf7_l {Q : Exit → Act → World → Prop} {fb m : Nat} {at_ by_ : Value} {W0 : World} (hm : m ≤ 24) (HSp : Hid (SpIs W0))
    (hQ : Hid (∀ a' w', Fr.Is 127 [(0, at_), (1, by_), (8, .int .i64 24), (54, .bool false)] a' → Below W0.heap.size W0 w' → Q .normal a' w'))
    (a : Act) (v : World) {X Y Z T : Th} {la : Option Addr} {lc : Nat} (hv : Hid (Sts W0 v [X, Y, Z, T, (fb :: blk la, FdP fb la lc 100 ⟨[], false, false⟩)])) (ha : Fr.Is 127 [(0, at_), (1, by_), (2, .int .i64 m), (7, .pointer (some ⟨fb, 0, none⟩)), (8, .int .i64 24), (46, .bool false)] a) :
    wpAnyH Tryd.prog .any (opsOf (Fr.reg Tryd.f6 7)) (NoPanic Q) (fun _ => True) 8 #[true, true, true, true, true, true, true, true, true, true, true, true, true, true, true, true, true, true, true, true, true, true, true, true, true, false, false, false, false, false, false, false, false] a v := by
  obtain ⟨fr, rfl, hfr⟩ := ha.lit
  simp only [List.map_cons, List.map_nil, List.cons.injEq, and_true] at hfr
  conv => arg 3; whnf
  simp only [List.range, List.range.loop, List.map_cons, List.map_nil, hfr]
  clear hfr ha
  have hHeld : (fun _ : World => True) v := trivial
  refine wpAnyH_take (i := 25) (oi := _) (v := ?_) rfl (by kernel_rfl) (by kernel_rfl) (by kernel_rfl) (fun _ _ _ h => h) (Or.inl ⟨by rfl, ?_⟩) (by assumption) ?_
  rotate_left 1
  · intro w hSw
    try dsimp only at hSw
    first | (go_simp; done) | (go_simp; with_reducible rfl)
  try simp only [Act.put, List.setIfInBounds_toArray, List.set_cons_zero, List.set_cons_succ]
  refine wpAnyH_ready (rs := [26]) (by kernel_rfl) (by simp) ?_
  refine AllReadyH.cons (o := _) rfl (fun K' hK' => ?_) AllReadyH.nil
  have hl := pleft_any v (show FdO fb la lc 100 ⟨[], false, false⟩ v from hv.out.is 4 rfl)
  refine step_callG (by rfl) 14 [.tmp 47] _ rfl [.pointer (some ⟨fb, 0, none⟩)] rfl (fun v => rfl) hl ?_
  rintro e v2 ⟨rfl, rfl⟩
  refine ⟨_, rfl, ?_⟩
  refine hK'.out _ _ trivial (fun hHeld => ?_)
  clear hK' K'
  try simp only [Act.put, List.setIfInBounds_toArray, List.set_cons_zero, List.set_cons_succ]
  refine wpAnyH_take (i := 27) (oi := _) (v := ?_) rfl (by kernel_rfl) (by kernel_rfl) (by kernel_rfl) (fun _ _ _ h => h) (Or.inl ⟨by rfl, ?_⟩) (by assumption) ?_
  rotate_left 1
  · intro w hSw
    try dsimp only at hSw
    first | (go_simp; done) | (go_simp; with_reducible rfl)
  try simp only [Act.put, List.setIfInBounds_toArray, List.set_cons_zero, List.set_cons_succ]
  refine wpAnyH_take (i := 28) (oi := _) (v := ?_) rfl (by kernel_rfl) (by kernel_rfl) (by kernel_rfl) (fun _ _ _ h => h) (Or.inl ⟨by rfl, ?_⟩) (by assumption) ?_
  rotate_left 1
  · intro w hSw
    try dsimp only at hSw
    first | (go_simp; done) | (go_simp; with_reducible rfl)
  try simp only [Act.put, List.setIfInBounds_toArray, List.set_cons_zero, List.set_cons_succ]
  refine wpAnyH_take (i := 29) (oi := _) (v := ?_) rfl (by kernel_rfl) (by kernel_rfl) (by kernel_rfl) (fun _ _ _ h => h) (Or.inl ⟨by rfl, ?_⟩) (by assumption) ?_
  rotate_left 1
  · intro w hSw
    try dsimp only at hSw
    first | (go_simp; done) | (go_simp; with_reducible rfl)
  try simp only [Act.put, List.setIfInBounds_toArray, List.set_cons_zero, List.set_cons_succ]
  exact pf7_m hm HSp hQ _ _ hv (Fr.Is.mk rfl rfl)

set_option maxRecDepth 100000 in
set_option maxHeartbeats 1000000 in
theorem pf7_k {Q : Exit → Act → World → Prop} {fb m : Nat} {at_ by_ : Value} {W0 : World} (hm : m ≤ 24) (HSp : Hid (SpIs W0))
    (hQ : Hid (∀ a' w', Fr.Is 127 [(0, at_), (1, by_), (8, .int .i64 24), (54, .bool false)] a' → Below W0.heap.size W0 w' → Q .normal a' w'))
    (a : Act) (v : World) {ra : Option Addr} {rc : Nat} {X Y Z T : Th} {la : Option Addr} {lc : Nat} (hv : Hid (Sts W0 v [X, Y, Z, T, (fb :: blk la, FdP fb la lc 100 ⟨[], false, false⟩)])) (ha : Fr.Is 127 [(0, at_), (1, by_), (2, .int .i64 m), (7, .pointer (some ⟨fb, 0, none⟩)), (8, .int .i64 24), (37, .bool false), (42, .slice ra 0 rc)] a) :
    wpAnyH Tryd.prog .any (opsOf (Fr.reg Tryd.f6 7)) (NoPanic Q) (fun _ => True) 12 #[true, true, true, true, true, true, true, true, true, true, true, true, true, true, true, true, true, true, true, true, true, false, false, false, false, false, false, false, false, false, false, false, false] a v := by
  obtain ⟨fr, rfl, hfr⟩ := ha.lit
  simp only [List.map_cons, List.map_nil, List.cons.injEq, and_true] at hfr
  conv => arg 3; whnf
  simp only [List.range, List.range.loop, List.map_cons, List.map_nil, hfr]
  clear hfr ha
  have hHeld : (fun _ : World => True) v := trivial
  refine wpAnyH_take (i := 21) (oi := _) (v := ?_) rfl (by kernel_rfl) (by kernel_rfl) (by kernel_rfl) (fun _ _ _ h => h) (Or.inl ⟨by rfl, ?_⟩) (by assumption) ?_
  rotate_left 1
  · intro w hSw
    try dsimp only at hSw
    first | (go_simp; done) | (go_simp; with_reducible rfl)
  try simp only [Act.put, List.setIfInBounds_toArray, List.set_cons_zero, List.set_cons_succ]
  refine wpAnyH_take (i := 22) (oi := _) (v := ?_) rfl (by kernel_rfl) (by kernel_rfl) (by kernel_rfl) (fun _ _ _ h => h) (Or.inl ⟨by rfl, ?_⟩) (by assumption) ?_
  rotate_left 1
  · intro w hSw
    try dsimp only at hSw
    first | (go_simp; done) | (go_simp; with_reducible rfl)
  try simp only [Act.put, List.setIfInBounds_toArray, List.set_cons_zero, List.set_cons_succ]
  refine wpAnyH_take (i := 23) (oi := _) (v := ?_) rfl (by kernel_rfl) (by kernel_rfl) (by kernel_rfl) (fun _ _ _ h => h) (Or.inl ⟨by rfl, ?_⟩) (by assumption) ?_
  rotate_left 1
  · intro w hSw
    try dsimp only at hSw
    first | (go_simp; done) | (go_simp; with_reducible rfl)
  try simp only [Act.put, List.setIfInBounds_toArray, List.set_cons_zero, List.set_cons_succ]
  refine wpAnyH_take (i := 24) (oi := _) (v := ?_) rfl (by kernel_rfl) (by kernel_rfl) (by kernel_rfl) (fun _ _ _ h => h) (Or.inl ⟨by rfl, ?_⟩) (by assumption) ?_
  rotate_left 1
  · intro w hSw
    try dsimp only at hSw
    first | (go_simp; done) | (go_simp; with_reducible rfl)
  try simp only [Act.put, List.setIfInBounds_toArray, List.set_cons_zero, List.set_cons_succ]
  exact pf7_l hm HSp hQ _ _ hv (Fr.Is.mk rfl rfl)

set_option maxRecDepth 100000 in
set_option maxHeartbeats 1000000 in
theorem pf7_j {Q : Exit → Act → World → Prop} {fb m : Nat} {at_ by_ : Value} {W0 : World} (hm : m ≤ 24) (HSp : Hid (SpIs W0))
    (hQ : Hid (∀ a' w', Fr.Is 127 [(0, at_), (1, by_), (8, .int .i64 24), (54, .bool false)] a' → Below W0.heap.size W0 w' → Q .normal a' w'))
    (a : Act) (v : World) {X Y : Th} {la ad : Option Addr} {lc cap : Nat} (hv : Hid (Sts W0 v [X, Y, (fb :: blk la, FdP fb la lc 100 (stP m))])) (hr : Hid (RB v ad (prefL.drop m))) (ha : Fr.Is 127 [(0, at_), (1, by_), (2, .int .i64 m), (7, .pointer (some ⟨fb, 0, none⟩)), (8, .int .i64 24), (37, .bool false), (38, .pointer (some ⟨fb, 0, none⟩)), (41, .slice ad (24 - m : Nat) cap)] a) :
    wpAnyH Tryd.prog .any (opsOf (Fr.reg Tryd.f6 7)) (NoPanic Q) (fun _ => True) 13 #[true, true, true, true, true, true, true, true, true, true, true, true, true, true, true, true, true, true, true, true, false, false, false, false, false, false, false, false, false, false, false, false, false] a v := by
  obtain ⟨fr, rfl, hfr⟩ := ha.lit
  simp only [List.map_cons, List.map_nil, List.cons.injEq, and_true] at hfr
  conv => arg 3; whnf
  simp only [List.range, List.range.loop, List.map_cons, List.map_nil, hfr]
  clear hfr ha
  have hHeld : (fun _ : World => True) v := trivial
  refine wpAnyH_ready (rs := [20]) (by kernel_rfl) (by simp) ?_
  refine AllReadyH.cons (o := _) rfl (fun K' hK' => ?_) AllReadyH.nil
  have hp3 := pre_2 ⟨m, by omega⟩
  simp only at hp3
  have hpd : (prefL.drop m).length = 24 - m := by rw [List.length_drop, pref_len]
  have hrb : (stP m).rest.length ≤ 24 := by
    have := (pre_1 ⟨m, by omega⟩).2
    simp only at this; omega
  have ht := ptake_feed (cap := cap) (N := 300000) hv.out (i := 2) rfl HSp.out hr.out (by rw [hpd]; omega) (by decide)
  rw [hp3, hpd] at ht
  refine step_callG (by rfl) 11 [.tmp 38, .tmp 41] _ rfl [.pointer (some ⟨fb, 0, none⟩), .slice ad (24 - m) cap] rfl (fun v => rfl) ht ?_
  rintro e v2 ⟨its, ra, rc, la, lc, s1, rfl, hmm, hqq, _, _, S2⟩
  refine ⟨_, rfl, ?_⟩
  have hits : its = [] := by simpa using hmm
  subst hits
  have hs1 := feQ_eq hqq rfl
  subst hs1
  simp only [List.set] at S2
  have hv2 := Lib.hid S2
  clear S2 hmm hqq ht
  refine hK'.out _ _ trivial (fun hHeld => ?_)
  clear hK' K'
  try simp only [Act.put, List.setIfInBounds_toArray, List.set_cons_zero, List.set_cons_succ]
  exact pf7_k hm HSp hQ _ _ hv2 (Fr.Is.mk rfl rfl)

set_option maxRecDepth 100000 in
set_option maxHeartbeats 1000000 in
theorem pf7_h {Q : Exit → Act → World → Prop} {fb m : Nat} {at_ by_ : Value} {W0 : World} (hm : m ≤ 24) (HSp : Hid (SpIs W0))
    (hQ : Hid (∀ a' w', Fr.Is 127 [(0, at_), (1, by_), (8, .int .i64 24), (54, .bool false)] a' → Below W0.heap.size W0 w' → Q .normal a' w'))
    (a : Act) (v : World) {X Y : Th} {la : Option Addr} {lc : Nat} (hv : Hid (Sts W0 v [X, Y, (fb :: blk la, FdP fb la lc 100 (stP m))])) (ha : Fr.Is 127 [(0, at_), (1, by_), (2, .int .i64 m), (7, .pointer (some ⟨fb, 0, none⟩)), (8, .int .i64 24), (37, .bool false), (38, .pointer (some ⟨fb, 0, none⟩)), (40, .string ((ByteArray.mk #[80, 82, 73, 32, 42, 32, 72, 84, 84, 80, 47, 50, 46, 48, 13, 10, 13, 10, 83, 77, 13, 10, 13, 10]).extract m 24))] a) :
    wpAnyH Tryd.prog .any (opsOf (Fr.reg Tryd.f6 7)) (NoPanic Q) (fun _ => True) 14 #[true, true, true, true, true, true, true, true, true, true, true, true, true, true, true, true, true, true, true, false, false, false, false, false, false, false, false, false, false, false, false, false, false] a v := by
  obtain ⟨fr, rfl, hfr⟩ := ha.lit
  simp only [List.map_cons, List.map_nil, List.cons.injEq, and_true] at hfr
  conv => arg 3; whnf
  simp only [List.range, List.range.loop, List.map_cons, List.map_nil, hfr]
  clear hfr ha
  have hHeld : (fun _ : World => True) v := trivial
  refine wpAnyH_ready (rs := [19]) (by kernel_rfl) (by simp) ?_
  refine AllReadyH.cons (o := _) rfl (fun K' hK' => ?_) AllReadyH.nil
  refine step_conv (by rfl) (.tmp 40) 9 24 5 rfl Tryd.underlying9 Tryd.underlying24 Tryd.underlying5 ((ByteArray.mk #[80, 82, 73, 32, 42, 32, 72, 84, 84, 80, 47, 50, 46, 48, 13, 10, 13, 10, 83, 77, 13, 10, 13, 10]).extract m 24) rfl ?_
  obtain ⟨hc1, hc2, hc3, hc4⟩ := prefA_cut ⟨m, by omega⟩
  simp only at hc2 hc4
  unfold prefA at hc2 hc4
  rw [hc4]
  have hr2 := Lib.hid (bw_rb v 5 _ (prefL.drop m) hc2)
  have hv2 := Lib.hid (hv.out.below (bw_below v 5 ((ByteArray.mk #[80, 82, 73, 32, 42, 32, 72, 84, 84, 80, 47, 50, 46, 48, 13, 10, 13, 10, 83, 77, 13, 10, 13, 10]).extract m 24)))
  generalize Lib.bytesWorld v 5 ((ByteArray.mk #[80, 82, 73, 32, 42, 32, 72, 84, 84, 80, 47, 50, 46, 48, 13, 10, 13, 10, 83, 77, 13, 10, 13, 10]).extract m 24) = v2 at hr2 hv2 ⊢
  refine hK'.out _ _ trivial (fun hHeld => ?_)
  clear hK' K'
  try simp only [Act.put, List.setIfInBounds_toArray, List.set_cons_zero, List.set_cons_succ]
  exact pf7_j hm HSp hQ _ _ hv2 hr2 (Fr.Is.mk rfl rfl)

set_option maxRecDepth 100000 in
set_option maxHeartbeats 1000000 in
theorem pf7_g {Q : Exit → Act → World → Prop} {fb m : Nat} {at_ by_ : Value} {W0 : World} (hm : m ≤ 24) (HSp : Hid (SpIs W0))
    (hQ : Hid (∀ a' w', Fr.Is 127 [(0, at_), (1, by_), (8, .int .i64 24), (54, .bool false)] a' → Below W0.heap.size W0 w' → Q .normal a' w'))
    (a : Act) (v : World) {X Y : Th} {la : Option Addr} {lc : Nat} (hv : Hid (Sts W0 v [X, Y, (fb :: blk la, FdP fb la lc 100 (stP m))])) (ha : Fr.Is 127 [(0, at_), (1, by_), (2, .int .i64 m), (7, .pointer (some ⟨fb, 0, none⟩)), (8, .int .i64 24), (29, .bool false), (37, .bool false)] a) :
    wpAnyH Tryd.prog .any (opsOf (Fr.reg Tryd.f6 7)) (NoPanic Q) (fun _ => True) 17 #[true, true, true, true, true, true, true, true, true, true, true, true, true, true, true, true, false, false, false, false, false, false, false, false, false, false, false, false, false, false, false, false, false] a v := by
  obtain ⟨fr, rfl, hfr⟩ := ha.lit
  simp only [List.map_cons, List.map_nil, List.cons.injEq, and_true] at hfr
  conv => arg 3; whnf
  simp only [List.range, List.range.loop, List.map_cons, List.map_nil, hfr]
  clear hfr ha
  have hHeld : (fun _ : World => True) v := trivial
  have hm1 : (m : Int) ≤ 24 := by omega
  refine wpAnyH_take (i := 16) (oi := _) (v := ?_) rfl (by kernel_rfl) (by kernel_rfl) (by kernel_rfl) (fun _ _ _ h => h) (Or.inl ⟨by rfl, ?_⟩) (by assumption) ?_
  rotate_left 1
  · intro w hSw
    try dsimp only at hSw
    first | (go_simp; done) | (go_simp; with_reducible rfl)
  try simp only [Act.put, List.setIfInBounds_toArray, List.set_cons_zero, List.set_cons_succ]
  refine wpAnyH_take (i := 17) (oi := _) (v := ?_) rfl (by kernel_rfl) (by kernel_rfl) (by kernel_rfl) (fun _ _ _ h => h) (Or.inl ⟨by rfl, ?_⟩) (by assumption) ?_
  rotate_left 1
  · intro w hSw
    try dsimp only at hSw
    first | (go_simp; done) | (go_simp; with_reducible rfl)
  try simp only [Act.put, List.setIfInBounds_toArray, List.set_cons_zero, List.set_cons_succ]
  refine wpAnyH_take (i := 18) (oi := _) (v := ?_) rfl (by kernel_rfl) (by kernel_rfl) (by kernel_rfl) (fun _ _ _ h => h) (Or.inl ⟨by rfl, ?_⟩) (by assumption) ?_
  rotate_left 1
  · intro w hSw
    try dsimp only at hSw
    first | (go_simp; done) | (go_simp; with_reducible rfl)
  try simp only [Act.put, List.setIfInBounds_toArray, List.set_cons_zero, List.set_cons_succ]
  exact pf7_h hm HSp hQ _ _ hv (Fr.Is.mk rfl rfl)

set_option maxRecDepth 100000 in
set_option maxHeartbeats 1000000 in
theorem pf7_f {Q : Exit → Act → World → Prop} {fb m : Nat} {at_ by_ : Value} {W0 : World} (hm : m ≤ 24) (HSp : Hid (SpIs W0))
    (hQ : Hid (∀ a' w', Fr.Is 127 [(0, at_), (1, by_), (8, .int .i64 24), (54, .bool false)] a' → Below W0.heap.size W0 w' → Q .normal a' w'))
    (a : Act) (v : World) {X Y : Th} {la : Option Addr} {lc : Nat} (hv : Hid (Sts W0 v [X, Y, (fb :: blk la, FdP fb la lc 100 (stP m))])) (ha : Fr.Is 127 [(0, at_), (1, by_), (2, .int .i64 m), (7, .pointer (some ⟨fb, 0, none⟩)), (8, .int .i64 24), (29, .bool false), (30, .pointer (some ⟨fb, 0, none⟩)), (34, .int .i64 ((m : Int) % 24))] a) :
    wpAnyH Tryd.prog .any (opsOf (Fr.reg Tryd.f6 7)) (NoPanic Q) (fun _ => True) 21 #[true, true, true, true, true, true, true, true, true, false, true, true, true, false, false, false, false, false, false, false, false, false, false, false, false, false, false, false, false, false, false, false, false] a v := by
  obtain ⟨fr, rfl, hfr⟩ := ha.lit
  simp only [List.map_cons, List.map_nil, List.cons.injEq, and_true] at hfr
  conv => arg 3; whnf
  simp only [List.range, List.range.loop, List.map_cons, List.map_nil, hfr]
  clear hfr ha
  have hHeld : (fun _ : World => True) v := trivial
  refine wpAnyH_ready (rs := [9]) (by kernel_rfl) (by simp) ?_
  refine AllReadyH.cons (o := _) rfl (fun K' hK' => ?_) AllReadyH.nil
  obtain ⟨hp1, hp2⟩ := pre_1 ⟨m, by omega⟩
  simp only at hp2
  have hl := pleft_any v (show FdO fb la lc 100 (stP m) v from hv.out.is 2 rfl)
  rw [hp2] at hl
  have hz : ((m % 24 : Nat) : Int) = (m : Int) % 24 := by omega
  rw [hz] at hl
  refine step_callG (by rfl) 14 [.tmp 30] _ rfl [.pointer (some ⟨fb, 0, none⟩)] rfl (fun v => rfl) hl ?_
  rintro e v2 ⟨rfl, rfl⟩
  refine ⟨_, rfl, ?_⟩
  refine hK'.out _ _ trivial (fun hHeld => ?_)
  clear hK' K'
  try simp only [Act.put, List.setIfInBounds_toArray, List.set_cons_zero, List.set_cons_succ]
  refine wpAnyH_take (i := 13) (oi := _) (v := ?_) rfl (by kernel_rfl) (by kernel_rfl) (by kernel_rfl) (fun _ _ _ h => h) (Or.inl ⟨by rfl, ?_⟩) (by assumption) ?_
  rotate_left 1
  · intro w hSw
    try dsimp only at hSw
    first | (go_simp; done) | (go_simp; with_reducible rfl)
  try simp only [Act.put, List.setIfInBounds_toArray, List.set_cons_zero, List.set_cons_succ]
  refine wpAnyH_take (i := 14) (oi := _) (v := ?_) rfl (by kernel_rfl) (by kernel_rfl) (by kernel_rfl) (fun _ _ _ h => h) (Or.inl ⟨by rfl, ?_⟩) (by assumption) ?_
  rotate_left 1
  · intro w hSw
    try dsimp only at hSw
    first | (go_simp; done) | (go_simp; with_reducible rfl)
  try simp only [Act.put, List.setIfInBounds_toArray, List.set_cons_zero, List.set_cons_succ]
  refine wpAnyH_take (i := 15) (oi := _) (v := ?_) rfl (by kernel_rfl) (by kernel_rfl) (by kernel_rfl) (fun _ _ _ h => h) (Or.inl ⟨by rfl, ?_⟩) (by assumption) ?_
  rotate_left 1
  · intro w hSw
    try dsimp only at hSw
    first | (go_simp; done) | (go_simp; with_reducible rfl)
  try simp only [Act.put, List.setIfInBounds_toArray, List.set_cons_zero, List.set_cons_succ]
  exact pf7_g hm HSp hQ _ _ hv (Fr.Is.mk rfl rfl)

set_option maxRecDepth 100000 in
set_option maxHeartbeats 1000000 in
theorem pf7_e {Q : Exit → Act → World → Prop} {fb m : Nat} {at_ by_ : Value} {W0 : World} (hm : m ≤ 24) (HSp : Hid (SpIs W0))
    (hQ : Hid (∀ a' w', Fr.Is 127 [(0, at_), (1, by_), (8, .int .i64 24), (54, .bool false)] a' → Below W0.heap.size W0 w' → Q .normal a' w'))
    (a : Act) (v : World) {X Y : Th} {la : Option Addr} {lc : Nat} (hv : Hid (Sts W0 v [X, Y, (fb :: blk la, FdP fb la lc 100 (stP m))])) (ha : Fr.Is 127 [(0, at_), (1, by_), (2, .int .i64 m), (7, .pointer (some ⟨fb, 0, none⟩)), (8, .int .i64 24), (29, .bool false)] a) :
    wpAnyH Tryd.prog .any (opsOf (Fr.reg Tryd.f6 7)) (NoPanic Q) (fun _ => True) 25 #[true, true, true, true, true, true, true, true, false, false, false, false, false, false, false, false, false, false, false, false, false, false, false, false, false, false, false, false, false, false, false, false, false] a v := by
  obtain ⟨fr, rfl, hfr⟩ := ha.lit
  simp only [List.map_cons, List.map_nil, List.cons.injEq, and_true] at hfr
  conv => arg 3; whnf
  simp only [List.range, List.range.loop, List.map_cons, List.map_nil, hfr]
  clear hfr ha
  have hHeld : (fun _ : World => True) v := trivial
  refine wpAnyH_take (i := 8) (oi := _) (v := ?_) rfl (by kernel_rfl) (by kernel_rfl) (by kernel_rfl) (fun _ _ _ h => h) (Or.inl ⟨by rfl, ?_⟩) (by assumption) ?_
  rotate_left 1
  · intro w hSw
    try dsimp only at hSw
    first | (go_simp; done) | (go_simp; with_reducible rfl)
  try simp only [Act.put, List.setIfInBounds_toArray, List.set_cons_zero, List.set_cons_succ]
  refine wpAnyH_take (i := 10) (oi := _) (v := ?_) rfl (by kernel_rfl) (by kernel_rfl) (by kernel_rfl) (fun _ _ _ h => h) (Or.inl ⟨by rfl, ?_⟩) (by assumption) ?_
  rotate_left 1
  · intro w hSw
    try dsimp only at hSw
    first | (go_simp; done) | (go_simp; with_reducible rfl)
  try simp only [Act.put, List.setIfInBounds_toArray, List.set_cons_zero, List.set_cons_succ]
  refine wpAnyH_take (i := 11) (oi := _) (v := ?_) rfl (by kernel_rfl) (by kernel_rfl) (by kernel_rfl) (fun _ _ _ h => h) (Or.inl ⟨by rfl, ?_⟩) (by assumption) ?_
  rotate_left 1
  · intro w hSw
    try dsimp only at hSw
    first | (go_simp; done) | (go_simp; with_reducible rfl)
  try simp only [Act.put, List.setIfInBounds_toArray, List.set_cons_zero, List.set_cons_succ]
  refine wpAnyH_take (i := 12) (oi := _) (v := ?_) rfl (by kernel_rfl) (by kernel_rfl) (by kernel_rfl) (fun _ _ _ h => h) (Or.inl ⟨by rfl, ?_⟩) (by assumption) ?_
  rotate_left 1
  · intro w hSw
    try dsimp only at hSw
    first | (go_simp; done) | (go_simp; with_reducible rfl)
  try simp only [Act.put, List.setIfInBounds_toArray, List.set_cons_zero, List.set_cons_succ]
  exact pf7_f hm HSp hQ _ _ hv (Fr.Is.mk rfl rfl)

set_option maxRecDepth 100000 in
set_option maxHeartbeats 1000000 in
theorem pf7_d {Q : Exit → Act → World → Prop} {fb m : Nat} {at_ by_ : Value} {W0 : World} (hm : m ≤ 24) (HSp : Hid (SpIs W0))
    (hQ : Hid (∀ a' w', Fr.Is 127 [(0, at_), (1, by_), (8, .int .i64 24), (54, .bool false)] a' → Below W0.heap.size W0 w' → Q .normal a' w'))
    (a : Act) (v : World) {ra : Option Addr} {rc : Nat} {X Y : Th} {la : Option Addr} {lc : Nat} (hv : Hid (Sts W0 v [X, Y, (fb :: blk la, FdP fb la lc 100 (stP m))])) (ha : Fr.Is 127 [(0, at_), (1, by_), (2, .int .i64 m), (7, .pointer (some ⟨fb, 0, none⟩)), (8, .int .i64 24), (26, .slice ra 0 rc)] a) :
    wpAnyH Tryd.prog .any (opsOf (Fr.reg Tryd.f6 7)) (NoPanic Q) (fun _ => True) 28 #[true, true, true, true, true, false, false, false, false, false, false, false, false, false, false, false, false, false, false, false, false, false, false, false, false, false, false, false, false, false, false, false, false] a v := by
  obtain ⟨fr, rfl, hfr⟩ := ha.lit
  simp only [List.map_cons, List.map_nil, List.cons.injEq, and_true] at hfr
  conv => arg 3; whnf
  simp only [List.range, List.range.loop, List.map_cons, List.map_nil, hfr]
  clear hfr ha
  have hHeld : (fun _ : World => True) v := trivial
  refine wpAnyH_take (i := 5) (oi := _) (v := ?_) rfl (by kernel_rfl) (by kernel_rfl) (by kernel_rfl) (fun _ _ _ h => h) (Or.inl ⟨by rfl, ?_⟩) (by assumption) ?_
  rotate_left 1
  · intro w hSw
    try dsimp only at hSw
    first | (go_simp; done) | (go_simp; with_reducible rfl)
  try simp only [Act.put, List.setIfInBounds_toArray, List.set_cons_zero, List.set_cons_succ]
  refine wpAnyH_take (i := 6) (oi := _) (v := ?_) rfl (by kernel_rfl) (by kernel_rfl) (by kernel_rfl) (fun _ _ _ h => h) (Or.inl ⟨by rfl, ?_⟩) (by assumption) ?_
  rotate_left 1
  · intro w hSw
    try dsimp only at hSw
    first | (go_simp; done) | (go_simp; with_reducible rfl)
  try simp only [Act.put, List.setIfInBounds_toArray, List.set_cons_zero, List.set_cons_succ]
  refine wpAnyH_take (i := 7) (oi := _) (v := ?_) rfl (by kernel_rfl) (by kernel_rfl) (by kernel_rfl) (fun _ _ _ h => h) (Or.inl ⟨by rfl, ?_⟩) (by assumption) ?_
  rotate_left 1
  · intro w hSw
    try dsimp only at hSw
    first | (go_simp; done) | (go_simp; with_reducible rfl)
  try simp only [Act.put, List.setIfInBounds_toArray, List.set_cons_zero, List.set_cons_succ]
  exact pf7_e hm HSp hQ _ _ hv (Fr.Is.mk rfl rfl)

set_option maxRecDepth 100000 in
set_option maxHeartbeats 1000000 in
theorem pf7_c {Q : Exit → Act → World → Prop} {fb m : Nat} {at_ by_ : Value} {W0 : World} (hm : m ≤ 24) (HSp : Hid (SpIs W0))
    (hQ : Hid (∀ a' w', Fr.Is 127 [(0, at_), (1, by_), (8, .int .i64 24), (54, .bool false)] a' → Below W0.heap.size W0 w' → Q .normal a' w'))
    (a : Act) (v : World) {ad : Option Addr} {cap : Nat} (hv : Hid (Sts W0 v [(fb :: blk none, FdP fb none 0 100 ⟨[], true, false⟩)])) (hr : Hid (RB v ad (prefL.take m))) (ha : Fr.Is 127 [(0, at_), (1, by_), (2, .int .i64 m), (7, .pointer (some ⟨fb, 0, none⟩)), (8, .int .i64 24), (22, .pointer (some ⟨fb, 0, none⟩)), (25, .slice ad m cap)] a) :
    wpAnyH Tryd.prog .any (opsOf (Fr.reg Tryd.f6 7)) (NoPanic Q) (fun _ => True) 29 #[true, true, true, true, false, false, false, false, false, false, false, false, false, false, false, false, false, false, false, false, false, false, false, false, false, false, false, false, false, false, false, false, false] a v := by
  obtain ⟨fr, rfl, hfr⟩ := ha.lit
  simp only [List.map_cons, List.map_nil, List.cons.injEq, and_true] at hfr
  conv => arg 3; whnf
  simp only [List.range, List.range.loop, List.map_cons, List.map_nil, hfr]
  clear hfr ha
  have hHeld : (fun _ : World => True) v := trivial
  refine wpAnyH_ready (rs := [4]) (by kernel_rfl) (by simp) ?_
  refine AllReadyH.cons (o := _) rfl (fun K' hK' => ?_) AllReadyH.nil
  obtain ⟨hp1, hp2⟩ := pre_1 ⟨m, by omega⟩
  simp only at hp1 hp2
  have hpl : (prefL.take m).length = m := by rw [List.length_take, pref_len]; omega
  have ht := ptake_feed (cap := cap) (N := 300000) hv.out (i := 0) rfl HSp.out hr.out (by rw [hpl]; simp; omega) (by decide)
  rw [hp1, hpl] at ht
  refine step_callG (by rfl) 11 [.tmp 22, .tmp 25] _ rfl [.pointer (some ⟨fb, 0, none⟩), .slice ad m cap] rfl (fun v => rfl) ht ?_
  rintro e v2 ⟨its, ra, rc, la, lc, s1, rfl, hmm, hqq, _, _, S2⟩
  refine ⟨_, rfl, ?_⟩
  have hits : its = [] := by simpa using hmm
  subst hits
  have hs1 := feQ_eq hqq (by unfold stP; split <;> rfl)
  subst hs1
  simp only [List.set] at S2
  have hv2 := Lib.hid S2
  clear S2 hmm hqq ht
  refine hK'.out _ _ trivial (fun hHeld => ?_)
  clear hK' K'
  try simp only [Act.put, List.setIfInBounds_toArray, List.set_cons_zero, List.set_cons_succ]
  exact pf7_d hm HSp hQ _ _ hv2 (Fr.Is.mk rfl rfl)

set_option maxRecDepth 100000 in
set_option maxHeartbeats 1000000 in
theorem pf7_b {Q : Exit → Act → World → Prop} {fb m : Nat} {at_ by_ : Value} {W0 : World} (hm : m ≤ 24) (HSp : Hid (SpIs W0))
    (hQ : Hid (∀ a' w', Fr.Is 127 [(0, at_), (1, by_), (8, .int .i64 24), (54, .bool false)] a' → Below W0.heap.size W0 w' → Q .normal a' w'))
    (a : Act) (v : World) (hv : Hid (Sts W0 v [(fb :: blk none, FdP fb none 0 100 ⟨[], true, false⟩)])) (ha : Fr.Is 127 [(0, at_), (1, by_), (2, .int .i64 m), (7, .pointer (some ⟨fb, 0, none⟩)), (8, .int .i64 24), (22, .pointer (some ⟨fb, 0, none⟩)), (24, .string ((ByteArray.mk #[80, 82, 73, 32, 42, 32, 72, 84, 84, 80, 47, 50, 46, 48, 13, 10, 13, 10, 83, 77, 13, 10, 13, 10]).extract 0 m))] a) :
    wpAnyH Tryd.prog .any (opsOf (Fr.reg Tryd.f6 7)) (NoPanic Q) (fun _ => True) 30 #[true, true, true, false, false, false, false, false, false, false, false, false, false, false, false, false, false, false, false, false, false, false, false, false, false, false, false, false, false, false, false, false, false] a v := by
  obtain ⟨fr, rfl, hfr⟩ := ha.lit
  simp only [List.map_cons, List.map_nil, List.cons.injEq, and_true] at hfr
  conv => arg 3; whnf
  simp only [List.range, List.range.loop, List.map_cons, List.map_nil, hfr]
  clear hfr ha
  have hHeld : (fun _ : World => True) v := trivial
  refine wpAnyH_ready (rs := [3]) (by kernel_rfl) (by simp) ?_
  refine AllReadyH.cons (o := _) rfl (fun K' hK' => ?_) AllReadyH.nil
  refine step_conv (by rfl) (.tmp 24) 9 24 5 rfl Tryd.underlying9 Tryd.underlying24 Tryd.underlying5 ((ByteArray.mk #[80, 82, 73, 32, 42, 32, 72, 84, 84, 80, 47, 50, 46, 48, 13, 10, 13, 10, 83, 77, 13, 10, 13, 10]).extract 0 m) rfl ?_
  obtain ⟨hc1, hc2, hc3, hc4⟩ := prefA_cut ⟨m, by omega⟩
  simp only at hc1 hc3
  unfold prefA at hc1 hc3
  rw [hc3]
  have hr2 := Lib.hid (bw_rb v 5 _ (prefL.take m) hc1)
  have hv2 := Lib.hid (hv.out.below (bw_below v 5 ((ByteArray.mk #[80, 82, 73, 32, 42, 32, 72, 84, 84, 80, 47, 50, 46, 48, 13, 10, 13, 10, 83, 77, 13, 10, 13, 10]).extract 0 m)))
  generalize Lib.bytesWorld v 5 ((ByteArray.mk #[80, 82, 73, 32, 42, 32, 72, 84, 84, 80, 47, 50, 46, 48, 13, 10, 13, 10, 83, 77, 13, 10, 13, 10]).extract 0 m) = v2 at hr2 hv2 ⊢
  refine hK'.out _ _ trivial (fun hHeld => ?_)
  clear hK' K'
  try simp only [Act.put, List.setIfInBounds_toArray, List.set_cons_zero, List.set_cons_succ]
  exact pf7_c hm HSp hQ _ _ hv2 hr2 (Fr.Is.mk rfl rfl)

set_option maxRecDepth 100000 in
set_option maxHeartbeats 1000000 in
theorem pf7_a {Q : Exit → Act → World → Prop} {fb m : Nat} {at_ by_ : Value} {W0 : World} (hm : m ≤ 24) (HSp : Hid (SpIs W0))
    (hQ : Hid (∀ a' w', Fr.Is 127 [(0, at_), (1, by_), (8, .int .i64 24), (54, .bool false)] a' → Below W0.heap.size W0 w' → Q .normal a' w'))
    (a : Act) (v : World) (hv : Hid (Sts W0 v [(fb :: blk none, FdP fb none 0 100 ⟨[], true, false⟩)])) (ha : Fr.Is 127 [(0, at_), (1, by_), (2, .int .i64 m), (7, .pointer (some ⟨fb, 0, none⟩)), (8, .int .i64 24)] a) :
    wpAnyH Tryd.prog .any (opsOf (Fr.reg Tryd.f6 7)) (NoPanic Q) (fun _ => True) 33 #[false, false, false, false, false, false, false, false, false, false, false, false, false, false, false, false, false, false, false, false, false, false, false, false, false, false, false, false, false, false, false, false, false] a v := by
  obtain ⟨fr, rfl, hfr⟩ := ha.lit
  simp only [List.map_cons, List.map_nil, List.cons.injEq, and_true] at hfr
  conv => arg 3; whnf
  simp only [List.range, List.range.loop, List.map_cons, List.map_nil, hfr]
  clear hfr ha
  have hHeld : (fun _ : World => True) v := trivial
  have hm1 : (m : Int) ≤ 24 := by omega
  refine wpAnyH_take (i := 0) (oi := _) (v := ?_) rfl (by kernel_rfl) (by kernel_rfl) (by kernel_rfl) (fun _ _ _ h => h) (Or.inl ⟨by rfl, ?_⟩) (by assumption) ?_
  rotate_left 1
  · intro w hSw
    try dsimp only at hSw
    first | (go_simp; done) | (go_simp; with_reducible rfl)
  try simp only [Act.put, List.setIfInBounds_toArray, List.set_cons_zero, List.set_cons_succ]
  refine wpAnyH_take (i := 1) (oi := _) (v := ?_) rfl (by kernel_rfl) (by kernel_rfl) (by kernel_rfl) (fun _ _ _ h => h) (Or.inl ⟨by rfl, ?_⟩) (by assumption) ?_
  rotate_left 1
  · intro w hSw
    try dsimp only at hSw
    first | (go_simp; done) | (go_simp; with_reducible rfl)
  try simp only [Act.put, List.setIfInBounds_toArray, List.set_cons_zero, List.set_cons_succ]
  refine wpAnyH_take (i := 2) (oi := _) (v := ?_) rfl (by kernel_rfl) (by kernel_rfl) (by kernel_rfl) (fun _ _ _ h => h) (Or.inl ⟨by rfl, ?_⟩) (by assumption) ?_
  rotate_left 1
  · intro w hSw
    try dsimp only at hSw
    first | (go_simp; done) | (go_simp; with_reducible rfl)
  try simp only [Act.put, List.setIfInBounds_toArray, List.set_cons_zero, List.set_cons_succ]
  exact pf7_b hm HSp hQ _ _ hv (Fr.Is.mk rfl rfl)

set_option maxRecDepth 100000 in
set_option maxHeartbeats 1000000 in
/-- The preface whole, in two pieces. -/
theorem pf_r7 {Q : Exit → Act → World → Prop} {fb m : Nat} {at_ by_ : Value} {W0 : World} (hm : m ≤ 24) (HSp : Hid (SpIs W0))
    (hQ : Hid (∀ a' w', Fr.Is 127 [(0, at_), (1, by_), (8, .int .i64 24), (54, .bool false)] a' → Below W0.heap.size W0 w' → Q .normal a' w'))
    (a : Act) (w : World) (hv : Hid (Sts W0 w [(fb :: blk none, FdP fb none 0 100 ⟨[], true, false⟩)])) (ha : Fr.Is 127 [(0, at_), (1, by_), (2, .int .i64 m), (7, .pointer (some ⟨fb, 0, none⟩)), (8, .int .i64 24)] a) :
    (Fr.reg Tryd.f6 7).wp Tryd.prog Q a w := by
  have hb0 : Below w.heap.size w w.drew := (Below.refl _ _).drew
  have h := pf7_a hm HSp hQ a w.drew (Lib.hid (hv.out.below hb0)) ha
  conv => arg 2; whnf
  refine wp_region_noPanic ?_
  refine wp_region_held_drew (S := fun _ => True) (by kernel_rfl) trivial (fun hHeld => ?_)
  exact h
end Go.Proofs.YtglhdlkmgmbgeaaDoor

namespace Go.Proofs.YtglhdlkmgmbgeaaDoor
open Go.RowKit
open Cho Fra Oct Arg Mem Gen Wr Qu Pt Sx Go.Proofs.YtglhdlkmgmbgeaaDoor.Obj
set_option linter.unusedVariables false
set_option linter.unusedSimpArgs false

set_option maxRecDepth 100000 in
set_option maxHeartbeats 1000000 in
theorem pf_r11 {Q : Exit → Act → World → Prop} {at_ by_ : Value} {W0 w : World} {obs : List Th} (HS : Hid (Sts W0 w obs)) (a : Act)
    (ha : Fr.Is 127 [(0, at_), (1, by_)] a)
    (hQ : Hid (∀ a' w' bb, Fr.Is 127 [(0, at_), (1, by_), (9, .slice (some ⟨bb, 0, none⟩) 24 24)] a' → Sts W0 w' (([bb], BlkQ bb (.cells (bvs prefL).toArray 5 (24, 25))) :: obs) → Q .normal a' w')) :
    (Fr.reg Tryd.f6 11).wp Tryd.prog Q a w := by
  obtain ⟨fr, rfl, hfr⟩ := ha.lit
  simp only [List.map_cons, List.map_nil, List.cons.injEq, and_true] at hfr
  conv => arg 2; whnf
  simp only [List.range, List.range.loop, List.map_cons, List.map_nil, hfr]
  clear hfr ha
  have kc := fun (w : World) (C : Array Value) (n c : Nat) => Lib.run_convert_bytes_const (P := Tryd.prog) w 24 5 C n c Tryd.underlying24 Tryd.underlying5
  go_wp2_with fail
  refine hQ.out _ _ _ (Fr.Is.mk rfl rfl) ?_
  exact stsBox HS.out _

set_option maxRecDepth 100000 in
set_option maxHeartbeats 1000000 in
theorem pf_r12 {Q : Exit → Act → World → Prop} {i : Nat} {y : Int} {W0 w : World} {obs : List Th} {bb cap : Nat} {l : List UInt8} (hl : l.length = 24) (hy : 0 < y ∧ y ≤ 255) (hi : i < 24) (HS : Hid (Sts W0 w (([bb], BlkQ bb (.cells (bvs l).toArray 5 (24, 25))) :: obs))) (a : Act)
    (ha : Fr.Is 127 [(0, .int .i64 i), (1, .int .u8 y), (9, .slice (some ⟨bb, 0, none⟩) 24 cap)] a)
    (hQ : Hid (∀ a' w' (x : UInt8), x ≠ l.getD i 0 → Fr.Is 127 [(0, .int .i64 i), (9, .slice (some ⟨bb, 0, none⟩) 24 cap)] a' → Sts W0 w' (([bb], BlkQ bb (.cells (bvs (l.set i x)).toArray 5 (24, 25))) :: obs) → Q .normal a' w')) :
    (Fr.reg Tryd.f6 12).wp Tryd.prog Q a w := by
  obtain ⟨fr, rfl, hfr⟩ := ha.lit
  simp only [List.map_cons, List.map_nil, List.cons.injEq, and_true] at hfr
  conv => arg 2; whnf
  simp only [List.range, List.range.loop, List.map_cons, List.map_nil, hfr]
  clear hfr ha
  have hblk : w.heap[bb]? = some (.cells (bvs l).toArray 5 (24, 25)) := HS.out.is 0 rfl
  have hc : w.cell? ⟨bb, i, none⟩ = some (.int .u8 (l.getD i 0).toNat) := by
    rw [cell_at hblk i]
    simp [bvs, hl, hi]
  have hfz : w.frozen? ⟨bb, i, none⟩ = false := by simp [World.frozen?, hblk]; omega
  obtain ⟨p, hp⟩ : ∃ p : Int, p = (l.getD i 0).toNat := ⟨_, rfl⟩
  have HP := Lib.hid hp
  have HL := Lib.hid hl
  have HY := Lib.hid hy
  rw [← hp] at hc
  have HS2 := Lib.hid (HS.out)
  have HB := Lib.hid hblk
  clear HS hblk hp hl hy
  have hi1 : (i : Int) < 24 := by omega
  go_wp2_with fail
  obtain ⟨n, rfl⟩ : ∃ n : Nat, y = n := ⟨y.toNat, by have := HY.out; omega⟩
  have hn := HY.out
  have hpb := (l.getD i 0).toNat_lt
  have hb : bits .xor .u8 p n = ((((l.getD i 0).toNat ^^^ n : Nat)) : Int) := by rw [HP.out]; exact u8_xor_nat _ _ hpb (by omega)
  have hx8 : (l.getD i 0).toNat ^^^ n < 256 := Nat.xor_lt_two_pow (n := 8) hpb (by omega)
  refine hQ.out _ _ (UInt8.ofNat ((l.getD i 0).toNat ^^^ n)) (fun e => ?_) (Fr.Is.mk rfl rfl) ?_
  · have h1 := congrArg UInt8.toNat e
    rw [UInt8.toNat_ofNat_of_lt' hx8] at h1
    have h2 : (l.getD i 0).toNat ^^^ ((l.getD i 0).toNat ^^^ n) = (l.getD i 0).toNat ^^^ (l.getD i 0).toNat := by rw [h1]
    rw [← Nat.xor_assoc, Nat.xor_self, Nat.zero_xor] at h2
    omega
  · have hk : Kept [bb] w (w.setCell ⟨bb, i, none⟩ (.int .u8 (bits .xor .u8 p n))) := (Kept.refl [bb] w).setCell (p := ⟨bb, i, none⟩) (.inl (List.mem_singleton.mpr rfl)) _
    have h1 : (w.setCell ⟨bb, i, none⟩ (.int .u8 (bits .xor .u8 p n))).heap[bb]? = some (.cells ((bvs l).toArray.setIfInBounds i (.int .u8 (bits .xor .u8 p n))) 5 (24, 25)) := by simp [World.setCell, Array.getElem?_modify, HB.out]
    have e : (bvs l).toArray.setIfInBounds i (.int .u8 (bits .xor .u8 p n)) = (bvs (l.set i (UInt8.ofNat ((l.getD i 0).toNat ^^^ n)))).toArray := by
      rw [hb]
      simp only [bvs, List.map_set, List.setIfInBounds_toArray]
      rw [UInt8.toNat_ofNat_of_lt' hx8]
    rw [e] at h1
    exact stsPut HS2.out 0 rfl hk h1
/-- A part of a block of bytes. -/
theorem rb_block {w : World} {bb off : Nat} {L l : List UInt8} {t : TypeId} {fz : Nat × Nat} (h : w.heap[bb]? = some (.cells (bvs L).toArray t fz)) (hl : ∀ i (h : i < l.length), L[off + i]? = some l[i]) : RB w (some ⟨bb, off, none⟩) l := .inr ⟨_, _, rfl, fun i hi => by
  rw [cell_at h (off + i)]
  simp only [bvs, List.getElem?_toArray, List.getElem?_map, hl i hi, Option.map_some]⟩

set_option maxRecDepth 100000 in
set_option maxHeartbeats 1000000 in
theorem pf_r9 {Q : Exit → Act → World → Prop} {z y : Int} {w : World} (b : Bool) (hb : b = true ↔ (z < 0 ∨ 24 ≤ z ∨ y = 0)) (a : Act)
    (ha : Fr.Is 127 [(0, .int .i64 z), (1, .int .u8 y), (8, .int .i64 24)] a)
    (hQ : Hid (∀ a', Fr.Is 127 [(0, .int .i64 z), (1, .int .u8 y), (65, .bool b)] a' → Q .normal a' w)) :
    (Fr.reg Tryd.f6 9).wp Tryd.prog Q a w := by
  obtain ⟨fr, rfl, hfr⟩ := ha.lit
  simp only [List.map_cons, List.map_nil, List.cons.injEq, and_true] at hfr
  conv => arg 2; whnf
  simp only [List.range, List.range.loop, List.map_cons, List.map_nil, hfr]
  clear hfr ha
  by_cases h1 : z < 0
  · have e : b = true := hb.2 (.inl h1)
    subst e
    clear hb
    go_wp2_with fail
    exact hQ.out _ (Fr.Is.mk rfl rfl)
  · by_cases h2 : z ≥ 24
    · have e : b = true := hb.2 (.inr (.inl h2))
      subst e
      clear hb
      go_wp2_with fail
      exact hQ.out _ (Fr.Is.mk rfl rfl)
    · by_cases h3 : y = 0
      · have e : b = true := hb.2 (.inr (.inr h3))
        subst e h3
        clear hb
        go_wp2_with fail
        exact hQ.out _ (Fr.Is.mk rfl rfl)
      · have e : b = false := by
          cases b with
          | false => rfl
          | true => rcases hb.1 rfl with h | h | h <;> omega
        subst e
        have h3' : (y == 0) = false := by rw [beq_eq_false_iff_ne]; exact h3
        clear hb
        go_wp2_with fail
        exact hQ.out _ (Fr.Is.mk rfl rfl)

set_option maxRecDepth 100000 in
set_option maxHeartbeats 1000000 in
theorem pf_r13 {Q : Exit → Act → World → Prop} {at_ b : Value} {W0 w : World} {obs : List Th} (HS : Hid (Sts W0 w obs)) (a : Act)
    (ha : Fr.Is 127 [(0, at_), (9, b)] a)
    (hQ : Hid (∀ a' w' gb, Fr.Is 127 [(0, at_), (9, b), (10, .pointer (some ⟨gb, 0, none⟩))] a' → Sts W0 w' ((gb :: blk none, FdP gb none 0 100 ⟨[], true, false⟩) :: obs) → Q .normal a' w')) :
    (Fr.reg Tryd.f6 13).wp Tryd.prog Q a w := by
  obtain ⟨fr, rfl, hfr⟩ := ha.lit
  simp only [List.map_cons, List.map_nil, List.cons.injEq, and_true] at hfr
  conv => arg 2; whnf
  simp only [List.range, List.range.loop, List.map_cons, List.map_nil, hfr]
  clear hfr ha
  go_wp2_with fail
  refine (st_feed 100 true HS.out).mono ?_
  rintro e w2 ⟨gb, rfl, S2⟩
  have HS2 := Lib.hid S2
  clear S2
  go_wp2_with fail
  exact hQ.out _ _ _ (Fr.Is.mk rfl rfl) HS2.out

set_option maxRecDepth 100000 in
set_option maxHeartbeats 1000000 in
theorem pf_r14 {Q : Exit → Act → World → Prop} {i gb bb : Nat} {W0 w : World} {Y : Th} {L : List UInt8} {t : TypeId} {fz : Nat × Nat} (hi : i < 24) (hL : L.length = 24) (hp : L.take i = prefL.take i) (HSp : Hid (SpIs W0)) (HS : Hid (Sts W0 w [(gb :: blk none, FdP gb none 0 100 ⟨[], true, false⟩), ([bb], BlkQ bb (.cells (bvs L).toArray t fz)), Y])) (a : Act)
    (ha : Fr.Is 127 [(0, .int .i64 i), (9, .slice (some ⟨bb, 0, none⟩) 24 24), (10, .pointer (some ⟨gb, 0, none⟩))] a)
    (hQ : Hid (∀ a' w' X1 X2 la lc, Fr.Is 127 [(0, .int .i64 i), (9, .slice (some ⟨bb, 0, none⟩) 24 24), (10, .pointer (some ⟨gb, 0, none⟩)), (94, .bool false)] a' → Sts W0 w' [X1, X2, (gb :: blk la, FdP gb la lc 100 ⟨prefL.take i, true, false⟩), ([bb], BlkQ bb (.cells (bvs L).toArray t fz)), Y] → Q .normal a' w')) :
    (Fr.reg Tryd.f6 14).wp Tryd.prog Q a w := by
  obtain ⟨fr, rfl, hfr⟩ := ha.lit
  simp only [List.map_cons, List.map_nil, List.cons.injEq, and_true] at hfr
  conv => arg 2; whnf
  simp only [List.range, List.range.loop, List.map_cons, List.map_nil, hfr]
  clear hfr ha
  have hpl : (prefL.take i).length = i := by rw [List.length_take, pref_len]; omega
  have hst : stP i = ⟨prefL.take i, true, false⟩ := by unfold stP; rw [if_pos hi]
  have hp1 := (pre_1 ⟨i, by omega⟩).1
  simp only at hp1
  rw [hst] at hp1
  have hrb : RB w (some ⟨bb, 0, none⟩) (prefL.take i) := rb_block (HS.out.is 1 rfl) (fun k hk => by
    rw [hpl] at hk
    rw [Nat.zero_add, ← List.getElem?_eq_getElem, ← hp, List.getElem?_take_of_lt hk])
  have ht := ptake_feed (cap := 24) (N := 300000) HS.out (i := 0) rfl HSp.out hrb (by rw [hpl]; simp; omega) (by decide)
  rw [hp1, hpl] at ht
  have HT := Lib.hid ht
  have HL : Hid (∀ v la lc (h : FdO gb la lc 100 ⟨prefL.take i, true, false⟩ v), Calls Tryd.prog 14 #[.pointer (some ⟨gb, 0, none⟩)] v fun e w' => e = .returned (.int .i64 i) ∧ v = w') := Lib.hid (fun v la lc h => by
    have := pleft_any v h
    rw [hpl] at this; exact this)
  have hi1 : (i : Int) < 24 := by omega
  clear ht hrb hp1 hst hpl hp hL
  go_wp2_with fail
  refine HT.out.mono ?_
  rintro e w2 ⟨its, ra, rc, la, lc, s1, rfl, hmm, hqq, _, _, S2⟩
  have hits : its = [] := by simpa using hmm
  subst hits
  have hs1 := feQ_eq hqq rfl
  subst hs1
  simp only [List.set] at S2
  have HS2 := Lib.hid S2
  have HF : Hid (FdO gb la lc 100 ⟨prefL.take i, true, false⟩ w2) := Lib.hid (S2.is 2 rfl)
  clear S2 hmm hqq HT
  go_wp2_with (first
    | (go_at_call 15; refine (pover_any w2 HF.out).mono ?_; rintro e w3 ⟨rfl, rfl⟩)
    | (go_at_call 14; refine (HL.out w2 _ _ HF.out).mono ?_; rintro e w3 ⟨rfl, rfl⟩))
  exact hQ.out _ _ _ _ _ _ (Fr.Is.mk rfl rfl) HS2.out

set_option maxRecDepth 100000 in
set_option maxHeartbeats 1000000 in
theorem pf_r16 {Q : Exit → Act → World → Prop} {i gb bb lc : Nat} {la : Option Addr} {W0 w : World} {X1 X2 Y : Th} {L : List UInt8} {x : UInt8} {t : TypeId} {fz : Nat × Nat} (hi : i < 24) (hL : L[i]? = some x) (hx : x ≠ prefL.getD i 0) (HSp : Hid (SpIs W0)) (HS : Hid (Sts W0 w [X1, X2, (gb :: blk la, FdP gb la lc 100 ⟨prefL.take i, true, false⟩), ([bb], BlkQ bb (.cells (bvs L).toArray t fz)), Y])) (a : Act)
    (ha : Fr.Is 127 [(0, .int .i64 i), (9, .slice (some ⟨bb, 0, none⟩) 24 24), (10, .pointer (some ⟨gb, 0, none⟩))] a)
    (hQ : Hid (∀ a' w' X1 X2 X3 la lc s2 ra rc it, it.1 = (⟨noFr, ofC 1⟩ : ItM) → s2.over = true → Fr.Is 127 [(0, .int .i64 i), (9, .slice (some ⟨bb, 0, none⟩) 24 24), (10, .pointer (some ⟨gb, 0, none⟩)), (11, .slice ra 1 rc)] a' → s2.rest.length ≤ 300000 → Sts W0 w' [X1, (blk ra, RowQ EIt ra rc [it]), X2, X3, (gb :: blk la, FdP gb la lc 100 s2), ([bb], BlkQ bb (.cells (bvs L).toArray t fz)), Y] → Q .normal a' w')) :
    (Fr.reg Tryd.f6 16).wp Tryd.prog Q a w := by
  obtain ⟨fr, rfl, hfr⟩ := ha.lit
  simp only [List.map_cons, List.map_nil, List.cons.injEq, and_true] at hfr
  conv => arg 2; whnf
  simp only [List.range, List.range.loop, List.map_cons, List.map_nil, hfr]
  clear hfr ha
  have hpl : (prefL.take i).length = i := by rw [List.length_take, pref_len]; omega
  have hrb : RB w (some ⟨bb, i, none⟩) [x] := rb_block (HS.out.is 3 rfl) (fun k hk => by
    have : k = 0 := by simpa using hk
    subst this
    exact hL)
  obtain ⟨hb1, hb2⟩ := pre_bad i hi x hx
  have ht := ptake_feed (cap := 24 - i) (N := 300000) HS.out (i := 2) rfl HSp.out hrb (by rw [hpl]; simp; omega) (by decide)
  rw [show ([x] : List UInt8).length = 1 from rfl] at ht
  have HT := Lib.hid ht
  have H1 := Lib.hid hb1
  have H2 := Lib.hid hb2
  have hi1 : (i : Int) < 24 := by omega
  have hi2 : (i : Int) + 1 ≤ 24 := by omega
  have hi3 : (i : Int) + 1 - i = 1 := by omega
  have hi4 : (24 : Int) - i = (24 - i : Nat) := by omega
  clear ht hrb hpl hb1 hb2 hx hL
  go_wp2_with fail
  refine HT.out.mono ?_
  rintro e w2 ⟨its, ra, rc, la2, lc2, s2, rfl, hmm, hqq, hrl, hsl, S2⟩
  rw [H1.out] at hmm
  obtain ⟨it, rfl⟩ : ∃ it, its = [it] := by
    have := congrArg List.length hmm
    simp at this
    exact List.length_eq_one_iff.1 this
  have hit : it.1 = ⟨noFr, ofC 1⟩ := by simpa using hmm
  have hov : s2.over = true := by rw [← hqq.over]; exact H2.out
  simp only [List.set] at S2
  have HS2 := Lib.hid S2
  have HR := Lib.hid hrl
  have HI := Lib.hid hit
  have HO := Lib.hid hov
  clear S2 hmm hqq HT hrl hsl hit hov H1 H2
  go_wp2_with fail
  exact hQ.out _ _ _ _ _ _ _ _ _ _ _ HI.out HO.out (Fr.Is.mk rfl rfl) HR.out HS2.out
end Go.Proofs.YtglhdlkmgmbgeaaDoor

namespace Go.Proofs.YtglhdlkmgmbgeaaDoor
open Go.RowKit
open Cho Fra Oct Arg Mem Gen Wr Qu Pt Sx Go.Proofs.YtglhdlkmgmbgeaaDoor.Obj
set_option linter.unusedVariables false
set_option linter.unusedSimpArgs false

set_option maxRecDepth 100000 in
set_option maxHeartbeats 600000 in
theorem pf_r17 {Q : Exit → Act → World → Prop} {i gb bb lc rc : Nat} {la ra : Option Addr} {W0 w : World} {X1 X2 X3 Y : Th} {L : List UInt8} {s2 : FeM} {it : ItX} {t : TypeId} {fz : Nat × Nat} (hi : i < 24) (hL : L.length = 24) (hit : it.1 = (⟨noFr, ofC 1⟩ : ItM)) (hov : s2.over = true) (hr : s2.rest.length ≤ 300000) (HSp : Hid (SpIs W0))
    (HS : Hid (Sts W0 w [X1, (blk ra, RowQ EIt ra rc [it]), X2, X3, (gb :: blk la, FdP gb la lc 100 s2), ([bb], BlkQ bb (.cells (bvs L).toArray t fz)), Y])) (a : Act)
    (ha : Fr.Is 127 [(0, .int .i64 i), (9, .slice (some ⟨bb, 0, none⟩) 24 24), (10, .pointer (some ⟨gb, 0, none⟩)), (11, .slice ra 1 rc)] a)
    (hQ : Hid (∀ a' w', Fr.Is 127 [(6, .bool true)] a' → Below W0.heap.size W0 w' → Q .normal a' w')) :
    (Fr.reg Tryd.f6 17).wp Tryd.prog Q a w := by
  obtain ⟨rb, ro, hra, hcs⟩ : ∃ b off, ra = some ⟨b, off, none⟩ ∧ ∀ i, (h : i < [it].length) → Rw.CE EIt w b (off + i * 15) [it][i] := by
    have hq : Rw.QRow EIt w ra rc [it] := HS.out.is 1 rfl
    rcases hq.row with h | h
    · simp at h
    · exact h
  subst hra
  obtain ⟨_, _, _, _, _, _, _, _, _, _, _, _, c12, c13, c14⟩ := CE_it (hcs 0 (by simp))
  simp only [List.getElem_cons_zero, hit, Nat.zero_mul, Nat.add_zero, ofC] at c12 c13 c14
  obtain ⟨fr, rfl, hfr⟩ := ha.lit
  simp only [List.map_cons, List.map_nil, List.cons.injEq, and_true] at hfr
  conv => arg 2; whnf
  simp only [List.range, List.range.loop, List.map_cons, List.map_nil, hfr]
  clear hfr ha hcs
  have HO : Hid (Calls Tryd.prog 15 #[.pointer (some ⟨gb, 0, none⟩)] w fun e w' => e = .returned (.bool true) ∧ w = w') := Lib.hid (by
    have h := pover_any w (show FdO gb la lc 100 s2 w from HS.out.is 4 rfl)
    rw [hov] at h; exact h)
  have HV := Lib.hid hov
  have hEq := fun v => eqFa true 1 0 true 1 0 v
  have hg := guFa
  by_cases h23 : i = 23
  · subst h23
    have ht := ptake_feed (cap := 0) (N := 400000) HS.out (i := 4) rfl HSp.out (show RB w (some ⟨bb, 0, none⟩) [] from .inl rfl) (by simp; omega) (by decide)
    rw [show ([] : List UInt8).length = 0 from rfl] at ht
    have HT := Lib.hid ht
    clear ht hov hit hr hL hi
    go_wp2_with fail
    refine HO.out.mono ?_
    rintro e w3 ⟨rfl, rfl⟩
    clear hEq hg c12 c13 c14 HO
    go_wp2_with fail
    refine HT.out.mono ?_
    rintro e w4 ⟨its, ra3, rc3, la3, lc3, s3, rfl, hmm, _, _, _, S3⟩
    have hits : its = [] := by rw [(feed_over HV.out).1] at hmm; simpa using hmm
    subst hits
    have HB3 := Lib.hid S3.bel
    clear S3 hmm HT
    go_wp2_with fail
    exact hQ.out _ _ (Fr.Is.mk rfl rfl) HB3.out
  · have hdl : (L.drop (i + 1)).length = 23 - i := by rw [List.length_drop, hL]; omega
    have hrb : RB w (some ⟨bb, i + 1, none⟩) (L.drop (i + 1)) := rb_block (HS.out.is 5 rfl) (fun k hk => by
      rw [← List.getElem?_drop, List.getElem?_eq_getElem hk])
    have ht := ptake_feed (cap := 23 - i) (N := 400000) HS.out (i := 4) rfl HSp.out hrb (by rw [hdl]; omega) (by decide)
    rw [hdl] at ht
    have HT := Lib.hid ht
    have h24 : i < 23 := by omega
    have hi1 : (i : Int) < 23 := by omega
    have hi2 : (i : Int) + 1 < 24 := by omega
    clear ht hrb hdl hov hit hr hL h23 hi
    go_wp2_with fail
    refine HO.out.mono ?_
    rintro e w3 ⟨rfl, rfl⟩
    clear hEq hg c12 c13 c14 HO
    go_wp2_with fail
    refine HT.out.mono ?_
    rintro e w4 ⟨its, ra3, rc3, la3, lc3, s3, rfl, hmm, _, _, _, S3⟩
    have hits : its = [] := by rw [(feed_over HV.out).1] at hmm; simpa using hmm
    subst hits
    have HB3 := Lib.hid S3.bel
    clear S3 hmm HT
    go_wp2_with fail
    exact hQ.out _ _ (Fr.Is.mk rfl rfl) HB3.out

set_option maxRecDepth 100000 in
set_option maxHeartbeats 1000000 in
theorem pf_r10 {Q : Exit → Act → World → Prop} {w : World} (a : Act) (ha : Fr.Is 127 [] a)
    (hQ : Hid (∀ a', Fr.Is 127 [(6, .bool true)] a' → Q .normal a' w)) :
    (Fr.reg Tryd.f6 10).wp Tryd.prog Q a w := by
  obtain ⟨fr, rfl, hfr⟩ := ha.lit
  conv => arg 2; whnf
  simp only [List.range, List.range.loop, List.map_cons, List.map_nil]
  clear hfr ha
  go_wp2_with fail
  exact hQ.out _ (Fr.Is.mk rfl rfl)

set_option maxRecDepth 100000 in
set_option maxHeartbeats 1000000 in
theorem pf_tail6 {Q : Exit → Act → World → Prop} {z y : Int} {W0 w : World} (hy : 0 ≤ y ∧ y ≤ 255) (HSp : Hid (SpIs W0)) (HB : Hid (Below W0.heap.size W0 w)) (a : Act)
    (ha : Fr.Is 127 [(0, .int .i64 z), (1, .int .u8 y), (8, .int .i64 24)] a)
    (hQ : Hid (∀ a' w', Fr.Is 127 [(6, .bool true)] a' → Below W0.heap.size W0 w' → Q .ret a' w')) :
    (Fr.tail Tryd.f6 6).wp Tryd.prog Q a w := by
  conv => arg 2; whnf
  refine wp_seq (wp_seq ?_)
  by_cases hc : z < 0 ∨ 24 ≤ z ∨ y = 0
  · refine pf_r9 true (by simp [hc]) a ha (Lib.hid (fun a1 g1 => ?_))
    refine wp_cond_true (g1.get (i := 65) (v := .bool true) (by simp)) ?_
    refine wp_seq ?_
    refine pf_r10 a1 (g1.less (by simp)) (Lib.hid (fun a2 g2 => ?_))
    refine wp_ret ?_
    try dsimp only [Exit.then, Exit.inBlock]
    exact hQ.out a2 w g2 HB.out
  · refine pf_r9 false (by simp only [Bool.false_eq_true, false_iff]; exact hc) a ha (Lib.hid (fun a1 g1 => ?_))
    refine wp_cond_false (g1.get (i := 65) (v := .bool false) (by simp)) ?_
    refine wp_skip ?_
    obtain ⟨i, rfl⟩ : ∃ i : Nat, z = i := ⟨z.toNat, by omega⟩
    have hi : i < 24 := by omega
    have hy2 : 0 < y ∧ y ≤ 255 := by omega
    refine wp_seq ?_
    refine pf_r11 (at_ := .int .i64 i) (by_ := .int .u8 y) (Lib.hid (Sts.of_below HB.out)) a1 (g1.less (by simp)) (Lib.hid (fun a2 w2 bb g2 S2 => ?_))
    refine wp_seq ?_
    refine pf_r12 pref_len hy2 hi (Lib.hid S2) a2 g2 (Lib.hid (fun a3 w3 x hx g3 S3 => ?_))
    refine wp_seq ?_
    refine pf_r13 (Lib.hid (S3.add (F := []) (P := fun _ => True) (Below.refl _ _) (fun k hk => by cases hk) (fun _ _ _ _ _ => trivial) trivial)) a3 g3 (Lib.hid (fun a4 w4 gb g4 S4 => ?_))
    have S4' : Sts W0 w4 [(gb :: blk none, FdP gb none 0 100 ⟨[], true, false⟩), ([bb], BlkQ bb (.cells (bvs (prefL.set i x)).toArray 5 (24, 25))), ([], fun _ => True)] :=
      stsMap S4 (fun j => if j = 1 then 2 else if j = 2 then 1 else j) (fun p q h => by
        split at h <;> (try split at h) <;> (try split at h) <;> (try split at h) <;> omega) (fun j o h => by
        match j with
        | 0 => exact h
        | 1 => exact h
        | 2 => exact h
        | j + 3 => simp at h)
    have hLl : (prefL.set i x).length = 24 := by rw [List.length_set, pref_len]
    have hLt : (prefL.set i x).take i = prefL.take i := List.take_set_of_le (Nat.le_refl _)
    have hLi : (prefL.set i x)[i]? = some x := by rw [List.getElem?_set_self (by rw [pref_len]; exact hi)]
    refine wp_seq (wp_seq ?_)
    refine pf_r14 hi hLl hLt HSp (Lib.hid S4') a4 g4 (Lib.hid (fun a5 w5 X1 X2 la lc g5 S5 => ?_))
    refine wp_cond_false (g5.get (i := 94) (v := .bool false) (by simp)) ?_
    refine wp_skip ?_
    refine wp_seq ?_
    refine pf_r16 hi hLi hx HSp (Lib.hid S5) a5 (g5.less (by simp)) (Lib.hid (fun a6 w6 Y1 Y2 Y3 la6 lc6 s2 ra rc it hit hov g6 hr S6 => ?_))
    refine wp_seq ?_
    refine pf_r17 hi hLl hit hov hr HSp (Lib.hid S6) a6 g6 (Lib.hid (fun a7 w7 g7 b7 => ?_))
    refine wp_ret ?_
    try dsimp only [Exit.then, Exit.inBlock]
    exact hQ.out a7 w7 g7 b7

set_option maxRecDepth 100000 in
set_option maxHeartbeats 1000000 in
theorem pf_r0 {Q : Exit → Act → World → Prop} {z y c : Int} {w : World} (a : Act)
    (ha : Fr.Is 127 [(0, .int .i64 z), (1, .int .u8 y), (2, .int .i64 c)] a)
    (hQ : Hid (∀ a', Fr.Is 127 [(0, .int .i64 z), (1, .int .u8 y), (2, .int .i64 c)] a' → Q .normal a' w)) :
    (Fr.reg Tryd.f6 0).wp Tryd.prog Q a w := by
  obtain ⟨fr, rfl, hfr⟩ := ha.lit
  simp only [List.map_cons, List.map_nil, List.cons.injEq, and_true] at hfr
  conv => arg 2; whnf
  simp only [List.range, List.range.loop, List.map_cons, List.map_nil, hfr]
  clear hfr ha
  go_wp2_with fail
  exact hQ.out _ (Fr.Is.mk rfl rfl)

set_option maxRecDepth 100000 in
set_option maxHeartbeats 1000000 in
theorem pf_r1 {Q : Exit → Act → World → Prop} {z y c : Int} {w : World} (HA : Hid (Calls Tryd.prog 8 #[] w fun e w' => e = .returned (.bool true) ∧ Below w.heap.size w w')) (a : Act)
    (ha : Fr.Is 127 [(0, .int .i64 z), (1, .int .u8 y), (2, .int .i64 c)] a)
    (hQ : Hid (∀ a' w', Fr.Is 127 [(0, .int .i64 z), (1, .int .u8 y), (2, .int .i64 c), (13, .bool false)] a' → Below w.heap.size w w' → Q .normal a' w')) :
    (Fr.reg Tryd.f6 1).wp Tryd.prog Q a w := by
  obtain ⟨fr, rfl, hfr⟩ := ha.lit
  simp only [List.map_cons, List.map_nil, List.cons.injEq, and_true] at hfr
  conv => arg 2; whnf
  simp only [List.range, List.range.loop, List.map_cons, List.map_nil, hfr]
  clear hfr ha
  go_wp2_with fail
  refine HA.out.mono ?_
  rintro e w1 ⟨rfl, b1⟩
  have HB := Lib.hid b1
  clear b1 HA
  go_wp2_with fail
  exact hQ.out _ _ (Fr.Is.mk rfl rfl) HB.out

set_option maxRecDepth 100000 in
set_option maxHeartbeats 1000000 in
theorem pf_r3 {Q : Exit → Act → World → Prop} {z y c : Int} {W0 w : World} (HB : Hid (Below W0.heap.size W0 w)) (a : Act)
    (ha : Fr.Is 127 [(0, .int .i64 z), (1, .int .u8 y), (2, .int .i64 c)] a)
    (hQ : Hid (∀ a' w' fb, Fr.Is 127 [(0, .int .i64 z), (1, .int .u8 y), (2, .int .i64 c), (7, .pointer (some ⟨fb, 0, none⟩))] a' → Sts W0 w' [(fb :: blk none, FdP fb none 0 100 ⟨[], true, false⟩)] → Q .normal a' w')) :
    (Fr.reg Tryd.f6 3).wp Tryd.prog Q a w := by
  obtain ⟨fr, rfl, hfr⟩ := ha.lit
  simp only [List.map_cons, List.map_nil, List.cons.injEq, and_true] at hfr
  conv => arg 2; whnf
  simp only [List.range, List.range.loop, List.map_cons, List.map_nil, hfr]
  clear hfr ha
  go_wp2_with fail
  refine (st_feed 100 true (Sts.of_below HB.out)).mono ?_
  rintro e w2 ⟨gb, rfl, S2⟩
  have HS2 := Lib.hid S2
  clear S2
  go_wp2_with fail
  exact hQ.out _ _ _ (Fr.Is.mk rfl rfl) HS2.out

set_option maxRecDepth 100000 in
set_option maxHeartbeats 1000000 in
theorem pf_r4 {Q : Exit → Act → World → Prop} {z y c : Int} {fb : Nat} {w : World} (a : Act)
    (ha : Fr.Is 127 [(0, .int .i64 z), (1, .int .u8 y), (2, .int .i64 c), (7, .pointer (some ⟨fb, 0, none⟩))] a)
    (hQ : Hid (∀ a', Fr.Is 127 [(0, .int .i64 z), (1, .int .u8 y), (2, .int .i64 c), (7, .pointer (some ⟨fb, 0, none⟩)), (8, .int .i64 24)] a' → Q .normal a' w)) :
    (Fr.reg Tryd.f6 4).wp Tryd.prog Q a w := by
  obtain ⟨fr, rfl, hfr⟩ := ha.lit
  simp only [List.map_cons, List.map_nil, List.cons.injEq, and_true] at hfr
  conv => arg 2; whnf
  simp only [List.range, List.range.loop, List.map_cons, List.map_nil, hfr]
  clear hfr ha
  go_wp2_with fail
  exact hQ.out _ (Fr.Is.mk rfl rfl)

set_option maxRecDepth 100000 in
set_option maxHeartbeats 1000000 in
theorem pf_r5 {Q : Exit → Act → World → Prop} {z y c : Int} {fb : Nat} {w : World} (b : Bool) (hb : b = true ↔ (c < 0 ∨ c > 24)) (a : Act)
    (ha : Fr.Is 127 [(0, .int .i64 z), (1, .int .u8 y), (2, .int .i64 c), (7, .pointer (some ⟨fb, 0, none⟩)), (8, .int .i64 24)] a)
    (hQ : Hid (∀ a', Fr.Is 127 [(0, .int .i64 z), (1, .int .u8 y), (2, .int .i64 c), (7, .pointer (some ⟨fb, 0, none⟩)), (8, .int .i64 24), (21, .bool b)] a' → Q .normal a' w)) :
    (Fr.reg Tryd.f6 5).wp Tryd.prog Q a w := by
  obtain ⟨fr, rfl, hfr⟩ := ha.lit
  simp only [List.map_cons, List.map_nil, List.cons.injEq, and_true] at hfr
  conv => arg 2; whnf
  simp only [List.range, List.range.loop, List.map_cons, List.map_nil, hfr]
  clear hfr ha
  by_cases h1 : c < 0
  · have e : b = true := hb.2 (.inl h1)
    subst e
    clear hb
    go_wp2_with fail
    exact hQ.out _ (Fr.Is.mk rfl rfl)
  · by_cases h2 : c > 24
    · have e : b = true := hb.2 (.inr h2)
      subst e
      clear hb
      go_wp2_with fail
      exact hQ.out _ (Fr.Is.mk rfl rfl)
    · have e : b = false := by
        cases b with
        | false => rfl
        | true => rcases hb.1 rfl with h | h <;> omega
      subst e
      clear hb
      go_wp2_with fail
      exact hQ.out _ (Fr.Is.mk rfl rfl)

set_option maxRecDepth 100000 in
set_option maxHeartbeats 1000000 in
theorem pf_r6 {Q : Exit → Act → World → Prop} {z y c : Int} {fb : Nat} {w : World} (a : Act)
    (ha : Fr.Is 127 [(0, .int .i64 z), (1, .int .u8 y), (2, .int .i64 c), (7, .pointer (some ⟨fb, 0, none⟩)), (8, .int .i64 24)] a)
    (hQ : Hid (∀ a', Fr.Is 127 [(0, .int .i64 z), (1, .int .u8 y), (2, .int .i64 (0 : Nat)), (7, .pointer (some ⟨fb, 0, none⟩)), (8, .int .i64 24)] a' → Q .normal a' w)) :
    (Fr.reg Tryd.f6 6).wp Tryd.prog Q a w := by
  obtain ⟨fr, rfl, hfr⟩ := ha.lit
  simp only [List.map_cons, List.map_nil, List.cons.injEq, and_true] at hfr
  conv => arg 2; whnf
  simp only [List.range, List.range.loop, List.map_cons, List.map_nil, hfr]
  clear hfr ha
  go_wp2_with fail
  exact hQ.out _ (Fr.Is.mk rfl rfl)

set_option maxRecDepth 100000 in
set_option maxHeartbeats 1000000 in
theorem pf_tail5 {Q : Exit → Act → World → Prop} {z y : Int} {m fb : Nat} {W0 w : World} (hm : m ≤ 24) (hy : 0 ≤ y ∧ y ≤ 255) (HSp : Hid (SpIs W0)) (HS : Hid (Sts W0 w [(fb :: blk none, FdP fb none 0 100 ⟨[], true, false⟩)])) (a : Act)
    (ha : Fr.Is 127 [(0, .int .i64 z), (1, .int .u8 y), (2, .int .i64 m), (7, .pointer (some ⟨fb, 0, none⟩)), (8, .int .i64 24)] a)
    (hQ : Hid (∀ a' w', Fr.Is 127 [(6, .bool true)] a' → Below W0.heap.size W0 w' → Q .ret a' w')) :
    (Fr.tail Tryd.f6 5).wp Tryd.prog Q a w := by
  conv => arg 2; whnf
  refine wp_seq (wp_seq ?_)
  refine pf_r7 (fb := fb) (m := m) (at_ := .int .i64 z) (by_ := .int .u8 y) hm HSp (Lib.hid (fun a3 w3 g3 b3 => ?_)) a w HS (ha.less (by simp))
  refine wp_cond_false (g3.get (i := 54) (v := .bool false) (by simp)) ?_
  refine wp_skip ?_
  try dsimp only [Exit.then, Exit.inBlock]
  exact pf_tail6 (z := z) (y := y) hy HSp (Lib.hid b3) a3 (g3.less (by simp)) hQ

set_option maxRecDepth 100000 in
set_option maxHeartbeats 4000000 in
theorem law_preface7 (z y c : Int) (w : World) (hy : (Lit.int .u8 y).wf = true) (hs : SpIs w) :
    Calls Tryd.prog 6 #[.int .i64 z, .int .u8 y, .int .i64 c] w fun e w' => e = .returned (.bool true) ∧ Below w.heap.size w w' := by
  have hy2 : 0 ≤ y ∧ y ≤ 255 := by
    simp only [Lit.wf, IntKind.min, IntKind.max, IntKind.bits, IntKind.signed] at hy
    simp at hy; omega
  refine (callsIn_wide (n := 9)).1 ?_
  refine callsIn_of_wp_marks Tryd.func6 rfl trivial ?_ rfl
  refine wpIn_wide.2 ?_
  simp only [Tryd.ntmps6, List.size_toArray, List.length_cons, List.length_nil, Nat.reduceAdd, Nat.reduceSub, Array.replicate_succ, Array.replicate_zero, List.push_toArray, List.append_toArray, List.nil_append, List.cons_append]
  have HE : ∀ (P0 : Exit → Act → World → Prop) (hP : ∀ tm w', tm.getD 6 undef = .bool true → Below w.heap.size w w' → P0 .ret ⟨tm, []⟩ w'), Hid (∀ a' w', Fr.Is 127 [(6, .bool true)] a' → Below w.heap.size w w' → P0 .ret a' w') := fun P0 hP => Lib.hid (fun a' w' g b => by
    obtain ⟨tm, d⟩ := a'
    obtain rfl : d = [] := g.1
    exact hP tm w' (g.2.2 (6, .bool true) (List.mem_singleton.mpr rfl)) b)
  refine wp_seq ?_
  refine pf_r0 (z := z) (y := y) (c := c) _ (Fr.Is.mk rfl rfl) (Lib.hid (fun a0 g0 => ?_))
  refine wp_seq (wp_seq ?_)
  refine pf_r1 (z := z) (y := y) (c := c) (Lib.hid (awake7_any w hs)) a0 g0 (Lib.hid (fun a1 w1 g1 b1 => ?_))
  refine wp_cond_false (g1.get (i := 13) (v := .bool false) (by simp)) ?_
  refine wp_skip ?_
  refine wp_seq ?_
  refine pf_r3 (z := z) (y := y) (c := c) (Lib.hid b1) a1 (g1.less (by simp)) (Lib.hid (fun a2 w2 fb g2 S2 => ?_))
  refine wp_seq ?_
  refine pf_r4 a2 g2 (Lib.hid (fun a3 g3 => ?_))
  refine wp_seq (wp_seq ?_)
  by_cases hc : c < 0 ∨ c > 24
  · refine pf_r5 true (by simp [hc]) a3 g3 (Lib.hid (fun a4 g4 => ?_))
    refine wp_cond_true (g4.get (i := 21) (v := .bool true) (by simp)) ?_
    refine pf_r6 (z := z) (y := y) (c := c) (fb := fb) a4 (g4.less (by simp)) (Lib.hid (fun a5 g5 => ?_))
    try dsimp only [Exit.then, Exit.inBlock]
    refine pf_tail5 (z := z) (y := y) (m := 0) (fb := fb) (by omega) hy2 (Lib.hid hs) (Lib.hid S2) a5 g5 (HE _ (fun tm w' h6 b' => ?_))
    exact ⟨_, results_tmp rfl _ _ _, by rw [show tm.getD _ undef = _ from h6]; exact ⟨rfl, b'⟩⟩
  · refine pf_r5 false (by simp only [Bool.false_eq_true, false_iff]; exact hc) a3 g3 (Lib.hid (fun a4 g4 => ?_))
    refine wp_cond_false (g4.get (i := 21) (v := .bool false) (by simp)) ?_
    refine wp_skip ?_
    obtain ⟨m, rfl⟩ : ∃ m : Nat, c = m := ⟨c.toNat, by omega⟩
    try dsimp only [Exit.then, Exit.inBlock]
    refine pf_tail5 (z := z) (y := y) (m := m) (fb := fb) (by omega) hy2 (Lib.hid hs) (Lib.hid S2) a4 (g4.less (by simp)) (HE _ (fun tm w' h6 b' => ?_))
    exact ⟨_, results_tmp rfl _ _ _, by rw [show tm.getD _ undef = _ from h6]; exact ⟨rfl, b'⟩⟩
end Go.Proofs.YtglhdlkmgmbgeaaDoor
