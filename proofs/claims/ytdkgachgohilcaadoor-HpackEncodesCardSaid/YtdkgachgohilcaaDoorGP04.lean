/- A row of bytes of the call's own that grows beside an object: what stands, and appends to it. Layer 2 without the program: what the tree of codes is, checked place by place; there and back. Layer 3 without the program: numbers with a prefix, texts with their length, there and back. -/
import Derived.Test.YtdkgachgohilcaaDoorRows
import Derived.Test.YtdkgachgohilcaaDoorGP01
import Derived.Test.YtdkgachgohilcaaDoorGP02
import Derived.Test.YtdkgachgohilcaaDoorGP03
import Derived.WalkKit
import Derived.Lib.Hide
import Derived.Deep.RegionLaw
import Derived.Deep.AppendLies
import Derived.Laws.AppendOwnNone
import Derived.Lib.Bytealg
set_option linter.unusedVariables false
set_option linter.unusedSimpArgs false
namespace Go.Proofs.YtdkgachgohilcaaDoor
open Go.RowKit
open Mem Gen Go.Proofs.YtdkgachgohilcaaDoor.Obj
set_option linter.unusedVariables false
namespace Wr

/-- The blocks below B and those of L stand. -/
structure Std (B : Nat) (L : List Nat) (w w' : World) : Prop where
  os : w'.os = w.os
  tape : w'.tape = w.tape
  output : w'.output = w.output
  size : w.heap.size ≤ w'.heap.size
  block : ∀ k, k < w.heap.size → (k < B ∨ k ∈ L) → w'.heap[k]? = w.heap[k]?
theorem Std.refl (B : Nat) (L : List Nat) (w : World) : Std B L w w := ⟨rfl, rfl, rfl, Nat.le_refl _, fun _ _ _ => rfl⟩
theorem Std.trans {B : Nat} {L : List Nat} {a b c : World} (h : Std B L a b) (k : Std B L b c) : Std B L a c :=
  ⟨k.os.trans h.os, k.tape.trans h.tape, k.output.trans h.output, Nat.le_trans h.size k.size, fun i hi hp => (k.block i (Nat.lt_of_lt_of_le hi h.size) hp).trans (h.block i hi hp)⟩
theorem Std.of_below {B : Nat} {L : List Nat} {w w' : World} (h : Below w.heap.size w w') : Std B L w w' := ⟨h.os, h.tape, h.output, h.size, fun k hk _ => h.block k hk⟩
theorem Std.then {B : Nat} {L : List Nat} {a b c : World} (h : Std B L a b) (k : Below b.heap.size b c) : Std B L a c := h.trans (Std.of_below k)
theorem Std.drew {B : Nat} {L : List Nat} {a b : World} (h : Std B L a b) : Std B L a b.drew := ⟨h.os, h.tape, h.output, h.size, h.block⟩
theorem Std.setCell {B : Nat} {L : List Nat} {a b : World} (h : Std B L a b) {p : Addr} (h1 : B ≤ p.block) (h2 : p.block ∉ L) (u : Value) : Std B L a (b.setCell p u) :=
  ⟨h.os, h.tape, h.output, by simpa [World.setCell] using h.size, fun k hk hp => (Below.heap_setCell _ _ _ _ (fun e => by
    rcases hp with hp | hp
    · omega
    · exact h2 (e ▸ hp))).trans (h.block k hk hp)⟩
theorem Std.alloc {B : Nat} {L : List Nat} {a b : World} (h : Std B L a b) (o : Obj) : Std B L a (b.alloc o) := h.then ((Below.refl _ _).alloc (Nat.le_refl _) o)
theorem Std.less {B : Nat} {L L' : List Nat} {a b : World} (h : Std B L a b) (hl : ∀ k ∈ L', k < a.heap.size → k < B ∨ k ∈ L) : Std B L' a b :=
  ⟨h.os, h.tape, h.output, h.size, fun k hk hp => h.block k hk (by rcases hp with hp | hp
                                                                   · exact .inl hp
                                                                   · exact hl k hp hk)⟩
theorem Std.kept {B : Nat} {L L0 : List Nat} {w0 w w' : World} (h : Std B L w w') (hk : Kept L0 w0 w) (hB : B = w0.heap.size) : Kept L0 w0 w' :=
  ⟨h.os.trans hk.os, h.tape.trans hk.tape, h.output.trans hk.output, Nat.le_trans hk.size h.size, fun k hk1 hn => (h.block k (Nat.lt_of_lt_of_le hk1 hk.size) (.inl (by omega))).trans (hk.block k hk1 hn)⟩
theorem Std.below {B : Nat} {L : List Nat} {w w' : World} (h : Std B L w w') (hB : B = w.heap.size) : Below w.heap.size w w' :=
  ⟨h.os, h.tape, h.output, h.size, fun k hk => h.block k hk (.inl (by omega))⟩
theorem Std.grown {B : Nat} {L : List Nat} {a b c : World} {row : Option Nat} (h : Std B L a b) (hg : b.grownBy c row) (hr : ∀ k, row = some k → B ≤ k ∧ k ∉ L) : Std B L a c :=
  ⟨hg.os.trans h.os, hg.tape.trans h.tape, hg.output.trans h.output, Nat.le_trans h.size hg.size, fun k hk hp => (hg.block k (Nat.lt_of_lt_of_le hk h.size) (fun e => by
    have := hr k e.symm
    rcases hp with hp | hp
    · omega
    · exact this.2 hp)).trans (h.block k hk hp)⟩

/-- Bytes as elements of a row. -/
def EBy : Rw.Enc UInt8 where
  enc c := [.int .u8 (c.toNat : Int)]
  k := 1
  pos := by decide
  len _ := rfl
  one _ v h := by simp at h; subst h; rfl
theorem rb_of_q {w : World} {oa : Option Addr} {l : List UInt8} (h : Rw.RowE EBy w oa l) : RB w oa l := by
  rcases h with h | ⟨b, off, h, hc⟩
  · exact .inl h
  · exact .inr ⟨b, off, h, fun i hi => by have := hc i hi 0 _ rfl; simpa [EBy] using this⟩
theorem q_of_rb {w : World} {oa : Option Addr} {l : List UInt8} (h : RB w oa l) : Rw.RowE EBy w oa l := by
  rcases h with h | ⟨b, off, h, hc⟩
  · exact .inl h
  · refine .inr ⟨b, off, h, fun i hi r v hv => ?_⟩
    have hr : r = 0 := by
      have := (List.getElem?_eq_some_iff.1 hv).1
      simp [EBy] at this; omega
    subst hr
    simp only [EBy, List.getElem?_cons_zero, Option.some.injEq] at hv
    subst hv
    have := hc i hi
    simpa [EBy] using this
/-- A row of bytes of the call's own, whose block isn't one of L. -/
structure OutB (B : Nat) (L : List Nat) (oa : Option Addr) (oc : Nat) (out : List UInt8) (w : World) : Prop where
  row : Rw.QRow EBy w oa oc out
  apart : ∀ b o s, oa = some ⟨b, o, s⟩ → B ≤ b ∧ b ∉ L
theorem OutB.bare (B : Nat) (L : List Nat) (w : World) : OutB B L none 0 [] w := ⟨Rw.QRow.bare _ _, fun b o s e => by cases e⟩
theorem OutB.lt {B : Nat} {L : List Nat} {oa : Option Addr} {oc : Nat} {out : List UInt8} {w : World} (h : OutB B L oa oc out w) : ∀ b o s, oa = some ⟨b, o, s⟩ → b < w.heap.size := fun b o s e => by
  obtain ⟨b', off, e', h1, _⟩ := h.row.lies _ e
  simp only [Addr.mk.injEq] at e'
  omega
theorem OutB.stand {B : Nat} {L L' : List Nat} {oa : Option Addr} {oc : Nat} {out : List UInt8} {w w' : World} (h : OutB B L oa oc out w) (hs : w.heap.size ≤ w'.heap.size) (hb : ∀ b o s, oa = some ⟨b, o, s⟩ → w'.heap[b]? = w.heap[b]?) (hL : ∀ k ∈ L', k ∈ L ∨ w.heap.size ≤ k) : OutB B L' oa oc out w' :=
  ⟨h.row.block hs hb, fun b o s e => ⟨(h.apart b o s e).1, fun hm => by
    rcases hL b hm with h1 | h1
    · exact (h.apart b o s e).2 h1
    · have := h.lt b o s e; omega⟩⟩
theorem OutB.below {B : Nat} {L : List Nat} {oa : Option Addr} {oc : Nat} {out : List UInt8} {w w' : World} (h : OutB B L oa oc out w) (hb : Below w.heap.size w w') : OutB B L oa oc out w' :=
  h.stand hb.size (fun b o s e => hb.block b (h.lt b o s e)) (fun k hk => .inl hk)
theorem OutB.kept {B : Nat} {L L' : List Nat} {oa : Option Addr} {oc : Nat} {out : List UInt8} {w w' : World} (h : OutB B L oa oc out w) (hk : Kept L w w') (hL : ∀ k ∈ L', k ∈ L ∨ w.heap.size ≤ k) : OutB B L' oa oc out w' :=
  h.stand hk.size (fun b o s e => hk.block b (h.lt b o s e) (h.apart b o s e).2) hL
theorem OutB.rb {B : Nat} {L : List Nat} {oa : Option Addr} {oc : Nat} {out : List UInt8} {w : World} (h : OutB B L oa oc out w) : RB w oa out := rb_of_q h.row.row

/-- What an append to such a row leaves. -/
structure Grew (B : Nat) (L : List Nat) (w : World) (oa oa' : Option Addr) (oc' : Nat) (l3 : List UInt8) (w' : World) : Prop where
  out : OutB B L oa' oc' l3 w'
  std : Std B L w w'
  blk : ∀ k, k < w.heap.size → (∀ o s, oa ≠ some ⟨k, o, s⟩) → w'.heap[k]? = w.heap[k]?
  new : ∀ b o s, oa' = some ⟨b, o, s⟩ → (∃ o', oa = some ⟨b, o', none⟩) ∨ w.heap.size ≤ b

section
variable {P : Program} {t : TypeId}
/-- 'append(out, b...)', b a row of bytes that was made: what is run. -/
theorem run_bytes (w : World) (ty : TypeId) (ht : P.underlying t = some (.slice 5)) (hi : (P.info? 5).map (fun i => (i.zero, i.size, i.bytes)) = some (some (.int .u8 0), 1, 1))
    {B : Nat} {L : List Nat} {oa : Option Addr} {oc : Nat} {out : List UInt8} (h : OutB B L oa oc out w) (hB : B ≤ w.heap.size) (hLw : ∀ k ∈ L, k < w.heap.size) (a2 : Option Addr) (l2 : List UInt8) (n2 c : Nat) (hn2 : n2 = l2.length) (hne : l2 ≠ []) (hrb : RB w a2 l2)
    (l3 : List UInt8) (hl3 : l3 = out ++ l2) (hlen : l3.length ≤ 140737488355328) (n : Nat) (hn : n = out.length) :
    ∃ (oa' : Option Addr) (oc' : Nat) (w' : World), (Builtin.append_ #[t, t] ty #[.slice oa n oc, .slice a2 n2 c]).run P w = .ok (.slice oa' l3.length oc') w' ∧ Grew B L w oa oa' oc' l3 w' := by
  subst hl3 hn hn2
  rw [Option.map_eq_some_iff] at hi
  obtain ⟨i, hi, hi3⟩ := hi
  simp only [Prod.mk.injEq] at hi3
  obtain ⟨hz, hsize, hby⟩ := hi3
  rw [List.length_append] at hlen ⊢
  obtain ⟨a2, rfl⟩ : ∃ a, a2 = some a := by
    rcases hrb with h | ⟨b, off, h, _⟩
    · exact absurd h hne
    · exact ⟨_, h⟩
  obtain ⟨oa', oc', w', hrun, hq, hg, hb⟩ := Rw.run_append_que (P := P) (by' := 1) EBy w ty ht hi hz hsize hby rfl oa oc out h.row a2 c l2 (q_of_rb hrb) (by unfold maxLen; omega) (by omega)
  have hap : ∀ b o s, oa' = some ⟨b, o, s⟩ → B ≤ b ∧ b ∉ L := fun b o s e => by
    rcases hb b o s e with ⟨o', e'⟩ | h1
    · exact h.apart b o' none e'
    · exact ⟨by omega, fun hm => by have := hLw b hm; omega⟩
  refine ⟨oa', oc', w', hrun, ⟨hq, hap⟩, (Std.refl B L w).grown hg (fun k hk => ?_), fun k hk hne => hg.block k hk (fun e => ?_), hb⟩
  · rw [Option.map_eq_some_iff] at hk
    obtain ⟨⟨b, o, s⟩, e, rfl⟩ := hk
    exact h.apart b o s e
  · symm at e
    rw [Option.map_eq_some_iff] at e
    obtain ⟨⟨b, o, s⟩, e, rfl⟩ := e
    exact hne o s e
variable {w : World} {ops : Array Oper} {o : Oper} {a : Act} {Q : Exit → Act → World → Prop}
/-- As a step of a walk. -/
theorem wl_bytes {rest : List Oper} (ht : P.underlying t = some (.slice 5)) (hi : (P.info? 5).map (fun i => (i.zero, i.size, i.bytes)) = some (some (.int .u8 0), 1, 1))
    (hgd : o.guard = none) (s x : Operand) (ho : o.op = .call { callee := .builtin .append, args := #[s, x], argTypes := #[t, t] })
    {B : Nat} {L : List Nat} {oa : Option Addr} {oc n : Nat} {out : List UInt8} (hs : a.eval s = .slice oa n oc) (hn : n = out.length) (h : OutB B L oa oc out w) (hB : B ≤ w.heap.size) (hLw : ∀ k ∈ L, k < w.heap.size)
    {a2 : Option Addr} {l2 : List UInt8} {n2 c : Nat} (hx : a.eval x = .slice a2 n2 c) (hn2 : n2 = l2.length) (hne : l2 ≠ []) (hrb : RB w a2 l2)
    (l3 : List UInt8) (hl3 : l3 = out ++ l2) (hlen : l3.length ≤ 140737488355328)
    (hK : ∀ (oa' : Option Addr) (oc' : Nat) w', Hid (Grew B L w oa oa' oc' l3 w') → wpList P ops Q rest (a.put o.dst (.slice oa' l3.length oc')) w') :
    wpList P ops Q (o :: rest) a w := by
  obtain ⟨oa', oc', w', hrun, hG⟩ := run_bytes (P := P) w o.type ht hi h hB hLw a2 l2 n2 c hn2 hne hrb l3 hl3 hlen n hn
  refine wpList_step fun K hK2 => ?_
  have hw : Region.wanted o (yielded ops a.tmps) = true := by simp [Region.wanted, hgd]
  rw [if_pos hw]
  unfold Oper.wp
  simp [execOp, ho, resolve, invoke, builtin, hs, hx, hrun, Result.andThen]
  exact hK2 _ _ (hK _ _ _ (Lib.hid hG))
/-- As a step of a region that draws its order. -/
theorem step_bytes {K : Act → World → Prop} {Ee : Prop} (ht : P.underlying t = some (.slice 5)) (hi : (P.info? 5).map (fun i => (i.zero, i.size, i.bytes)) = some (some (.int .u8 0), 1, 1))
    (hgd : o.guard = none) (s x : Operand) (ho : o.op = .call { callee := .builtin .append, args := #[s, x], argTypes := #[t, t] })
    {B : Nat} {L : List Nat} {oa : Option Addr} {oc n : Nat} {out : List UInt8} (hs : a.eval s = .slice oa n oc) (hn : n = out.length) (h : OutB B L oa oc out w) (hB : B ≤ w.heap.size) (hLw : ∀ k ∈ L, k < w.heap.size)
    {a2 : Option Addr} {l2 : List UInt8} {n2 c : Nat} (hx : a.eval x = .slice a2 n2 c) (hn2 : n2 = l2.length) (hne : l2 ≠ []) (hrb : RB w a2 l2)
    (l3 : List UInt8) (hl3 : l3 = out ++ l2) (hlen : l3.length ≤ 140737488355328)
    (hK : ∀ (oa' : Option Addr) (oc' : Nat) w', Hid (Grew B L w oa oa' oc' l3 w') → K (a.put o.dst (.slice oa' l3.length oc')) w') :
    if Region.wanted o (yielded ops a.tmps) = true then Oper.wp P o a w K Q else Ee := by
  obtain ⟨oa', oc', w', hrun, hG⟩ := run_bytes (P := P) w o.type ht hi h hB hLw a2 l2 n2 c hn2 hne hrb l3 hl3 hlen n hn
  have hw : Region.wanted o (yielded ops a.tmps) = true := by simp [Region.wanted, hgd]
  rw [if_pos hw]
  unfold Oper.wp
  simp [execOp, ho, resolve, invoke, builtin, hs, hx, hrun, Result.andThen]
  exact hK _ _ _ (Lib.hid hG)
/-- A call of a Go function, as a step of a region that draws its order: by its contract. -/
theorem step_call {K : Act → World → Prop} {Ee : Prop} (hgd : o.guard = none) (f : FuncId) (xs : List Operand) (ts : Array TypeId) (ho : o.op = .call { callee := .value (.func f), args := xs.toArray, argTypes := ts })
    (args : List Value) (ha : xs.map a.eval = args) (hi : ∀ v, (callFunc f args.toArray).run P v = .ok (.enter f args.toArray) v) {R : Ending → World → Prop} (hc : Calls P f args.toArray w R) (hK : ∀ e w', R e w' → ∃ v, e = .returned v ∧ K (a.put o.dst v) w') :
    if Region.wanted o (yielded ops a.tmps) = true then Oper.wp P o a w K Q else Ee := by
  have hw : Region.wanted o (yielded ops a.tmps) = true := by simp [Region.wanted, hgd]
  rw [if_pos hw]
  have hr : (execOp a.eval o).run P w = .ok (.enter f args.toArray) w := by
    simp [execOp, ho, resolve, invoke, Deferred.ofValue, Act.eval, ha, hi, go_sem]
  unfold Oper.wp
  rw [hr]
  refine hc.mono fun e w' h => ?_
  obtain ⟨v, rfl, h2⟩ := hK e w' h
  exact h2
end
end Wr
end Go.Proofs.YtdkgachgohilcaaDoor

namespace Go.Proofs.YtdkgachgohilcaaDoor
namespace Huf

/-- The place of a code of n bits, if there is one. -/
def poc (v n : Nat) : Option Nat := if gK n ≤ v ∧ v < gK n + gC n then some (gP n + (v - gK n)) else none

theorem root_facts : sy 0 = 1023 ∧ va 0 = 0 ∧ de 0 = 0 := by decide +kernel
/-- What is behind a place inside the tree. -/
theorem node_facts : ∀ k, k < 513 → sy k = 1023 → ∀ b, b < 2 → 0 < nx b k ∧ nx b k < 513 ∧ va (nx b k) = 2 * va k + b ∧ de (nx b k) = de k + 1 ∧ de (nx b k) ≤ 30 ∧ va (nx b k) < 1073741824 := by decide +kernel
/-- What a place is. -/
theorem leaf_facts : ∀ k, k < 513 → 0 < k → (sy k = 1023 ∧ poc (va k) (de k) = none ∧ de k < 30) ∨ (sy k = 256 ∧ poc (va k) (de k) = some 256) ∨
    (sy k < 256 ∧ (∃ p, p < 256 ∧ poc (va k) (de k) = some p ∧ ordL.getD p 0 = UInt8.ofNat (sy k)) ∧ code (sy k) = va k ∧ len (sy k) = de k) := by
  have h : ∀ k, k < 513 → 0 < k → (sy k = 1023 ∧ poc (va k) (de k) = none ∧ de k < 30) ∨ (sy k = 256 ∧ poc (va k) (de k) = some 256) ∨
    (sy k < 256 ∧ ((poc (va k) (de k)).getD 999 < 256 ∧ poc (va k) (de k) = some ((poc (va k) (de k)).getD 999) ∧ ordL.getD ((poc (va k) (de k)).getD 999) 0 = UInt8.ofNat (sy k)) ∧ code (sy k) = va k ∧ len (sy k) = de k) := by decide +kernel
  intro k h1 h2
  rcases h k h1 h2 with h | h | ⟨h, h', h''⟩
  · exact .inl h
  · exact .inr (.inl h)
  · exact .inr (.inr ⟨h, ⟨_, h'⟩, h''⟩)

/-- All bits of a code but the last lead to places inside; the last one to a symbol. -/
def runK : List Bool → Nat → Option Nat
  | [], _ => none
  | b :: r, k => if sy (nx (bN b) k) = 1023 then runK r (nx (bN b) k) else if r = [] then some (sy (nx (bN b) k)) else none
theorem code_runs : ∀ c, c < 257 → runK (cb c) 0 = some c := by decide +kernel

theorem decK_code (c : Nat) (hc : c < 256) (r : List Bool) (acc : List UInt8) : ∀ (l : List Bool) (k : Nat), runK l k = some c → decK (l ++ r) k acc = decK r 0 (acc ++ [UInt8.ofNat c])
  | [], k, h => by simp [runK] at h
  | b :: l, k, h => by
    rw [runK] at h
    rw [List.cons_append, decK]
    split at h
    · rename_i h1; rw [if_pos h1]; exact decK_code c hc r acc l _ h
    · rename_i h1
      rw [if_neg h1]
      split at h
      · rename_i h2
        simp only [Option.some.injEq] at h
        rw [h, if_neg (by omega), h2, List.nil_append]
      · cases h

theorem decK_text (r : List Bool) : ∀ (l acc : List UInt8), decK (bitsT l ++ r) 0 acc = decK r 0 (acc ++ l)
  | [], acc => by simp [bitsT]
  | c :: l, acc => by
    have hc := c.toNat_lt
    rw [bitsT_cons, List.append_assoc, decK_code c.toNat (by omega) _ _ _ _ (code_runs c.toNat (by omega)), decK_text r l]
    simp

/-- Ones alone. -/
def onesK : Nat → Nat → Option Nat
  | 0, k => some k
  | n + 1, k => if sy (nx 1 k) = 1023 then onesK n (nx 1 k) else none
theorem ones_run : ∀ n, n < 30 → ((onesK n 0).map fun k => (de k, va k)) = some (n, 2 ^ n - 1) := by decide +kernel
theorem decK_ones (acc : List UInt8) : ∀ (n k k' : Nat), onesK n k = some k' → decK (List.replicate n true) k acc = decK [] k' acc
  | 0, k, k', h => by simp only [onesK, Option.some.injEq] at h; rw [h]; rfl
  | n + 1, k, k', h => by
    rw [onesK] at h
    split at h
    · rename_i h1
      have h2 : decK (true :: List.replicate n true) k acc = decK (List.replicate n true) (nx 1 k) acc := by rw [decK, show bN true = 1 from rfl, if_pos h1]
      rw [List.replicate_succ, h2]
      exact decK_ones acc n _ _ h
    · cases h
theorem decK_pad (acc : List UInt8) (n : Nat) (h : n < 8) : decK (List.replicate n true) 0 acc = some acc := by
  have h1 := ones_run n (by omega)
  cases ho : onesK n 0 with
  | none => rw [ho] at h1; cases h1
  | some k =>
    rw [ho] at h1
    simp only [Option.map_some, Option.some.injEq, Prod.mk.injEq] at h1
    rw [decK_ones acc n 0 k ho, decK, h1.1, h1.2, if_neg (by omega)]
theorem decK_much (acc : List UInt8) (n : Nat) (h8 : 8 ≤ n) (h : n < 30) : decK (List.replicate n true) 0 acc = none := by
  have h1 := ones_run n h
  cases ho : onesK n 0 with
  | none => rw [ho] at h1; cases h1
  | some k =>
    rw [ho] at h1
    simp only [Option.map_some, Option.some.injEq, Prod.mk.injEq] at h1
    rw [decK_ones acc n 0 k ho, decK, h1.1, h1.2, if_pos (.inl h8)]

/-- What bits are packed are the bytes' bits, and ones. -/
theorem bitsN_ones : ∀ n, bitsN (2 ^ n - 1) n = List.replicate n true
  | 0 => rfl
  | n + 1 => by
    rw [bitsN_succ, List.replicate_succ]
    congr 1
    · rw [Nat.testBit_two_pow_sub_one]; simp
    · rw [← bitsN_mod (2 ^ (n + 1) - 1) n n (Nat.le_refl _), ← bitsN_ones n]
      congr 1
      rw [Nat.pow_succ]
      have := Nat.two_pow_pos n
      rw [show 2 ^ n * 2 - 1 = (2 ^ n - 1) + 1 * 2 ^ n from by omega, Nat.add_mul_mod_self_right, Nat.mod_eq_of_lt (by omega)]

theorem bitsB_packF : ∀ (l : List Bool) (put cnt : Nat), cnt < 8 → put < 2 ^ cnt → ∃ j, j < 8 ∧ bitsB (packF l put cnt) = bitsN put cnt ++ l ++ List.replicate j true
  | [], put, cnt, h, hp => by
    rw [packF]
    split
    · rename_i h0; subst h0; exact ⟨0, by omega, rfl⟩
    · refine ⟨8 - cnt, by omega, ?_⟩
      have h2 : put * 2 ^ (8 - cnt) + (2 ^ (8 - cnt) - 1) < 256 := by
        have h3 : (put + 1) * 2 ^ (8 - cnt) ≤ 2 ^ cnt * 2 ^ (8 - cnt) := Nat.mul_le_mul_right _ hp
        rw [← Nat.pow_add, show cnt + (8 - cnt) = 8 from by omega, Nat.add_mul, Nat.one_mul] at h3
        have := Nat.two_pow_pos (8 - cnt)
        omega
      rw [bitsB_cons, UInt8.toNat_ofNat', Nat.mod_eq_of_lt h2]
      have h4 := bitsN_join put (2 ^ (8 - cnt) - 1) (8 - cnt) (by have := Nat.two_pow_pos (8 - cnt); omega) cnt
      rw [show cnt + (8 - cnt) = 8 from by omega, bitsN_ones] at h4
      rw [h4]
      simp [bitsB]
  | b :: r, put, cnt, h, hp => by
    rw [packF]
    have hb := bN_le b
    split
    · rename_i h7
      subst h7
      obtain ⟨j, hj, e⟩ := bitsB_packF r 0 0 (by omega) (by decide)
      refine ⟨j, hj, ?_⟩
      rw [bitsB_cons, e, UInt8.toNat_ofNat', Nat.mod_eq_of_lt (by omega), bitsN_snoc]
      simp [bitsN]
    · obtain ⟨j, hj, e⟩ := bitsB_packF r (2 * put + bN b) (cnt + 1) (by omega) (by rw [Nat.pow_succ]; omega)
      refine ⟨j, hj, ?_⟩
      rw [e, bitsN_snoc]
      simp

theorem dec_enc (l : List UInt8) : dec (enc l) = some l := by
  obtain ⟨j, hj, e⟩ := bitsB_packF (bitsT l) 0 0 (by omega) (by decide)
  rw [dec, enc, e, bitsN, List.nil_append, decK_text, decK_pad _ _ hj]
  simp
theorem dec_enc_more (l : List UInt8) : dec (enc l ++ [255]) = none := by
  obtain ⟨j, hj, e⟩ := bitsB_packF (bitsT l) 0 0 (by omega) (by decide)
  have h8 : bitsB [255] = List.replicate 8 true := by decide
  rw [dec, bitsB_append, enc, e, bitsN, List.nil_append, List.append_assoc, decK_text, h8, List.replicate_append_replicate, decK_much _ _ (by omega) (by omega)]

/-- What was decoded is what those bits are. -/
theorem decK_back : ∀ (r : List Bool) (k : Nat) (acc u : List UInt8), k < 513 → sy k = 1023 → decK r k acc = some u →
    ∃ v j, u = acc ++ v ∧ j < 8 ∧ bitsN (va k) (de k) ++ r = bitsT v ++ List.replicate j true
  | [], k, acc, u, hk, hs, h => by
    rw [decK] at h
    split at h
    · cases h
    · rename_i h1
      simp only [Option.some.injEq] at h
      have h2 : va k = 2 ^ de k - 1 := by
        rcases Nat.decEq (va k) (2 ^ de k - 1) with h3 | h3
        · exact absurd (Or.inr h3) h1
        · exact h3
      exact ⟨[], de k, by rw [h, List.append_nil], by rcases Nat.lt_or_ge (de k) 8 with h3 | h3; exact h3; exact absurd (Or.inl h3) h1, by rw [h2, bitsN_ones]; simp [bitsT]⟩
  | b :: r, k, acc, u, hk, hs, h => by
    have hb : bN b < 2 := by have := bN_le b; omega
    obtain ⟨h0, h1, h2, h3, _, _⟩ := node_facts k hk hs (bN b) hb
    rw [decK] at h
    have hpre : bitsN (va k) (de k) ++ b :: r = bitsN (va (nx (bN b) k)) (de (nx (bN b) k)) ++ r := by
      rw [h2, h3, bitsN_snoc]; simp
    split at h
    · rename_i h4
      obtain ⟨v, j, e1, e2, e3⟩ := decK_back r _ acc u h1 h4 h
      exact ⟨v, j, e1, e2, by rw [hpre, e3]⟩
    · rename_i h4
      split at h
      · cases h
      · rename_i h5
        obtain ⟨v, j, e1, e2, e3⟩ := decK_back r 0 _ u (by decide) root_facts.1 h
        rcases leaf_facts _ h1 h0 with q | q | ⟨q1, _, q3, q4⟩
        · exact absurd q.1 h4
        · exact absurd q.1 h5
        · refine ⟨UInt8.ofNat (sy (nx (bN b) k)) :: v, j, by rw [e1]; simp, e2, ?_⟩
          rw [root_facts.2.1, root_facts.2.2, bitsN, List.nil_append] at e3
          rw [hpre, bitsT_cons, UInt8.toNat_ofNat', Nat.mod_eq_of_lt q1, cb, q3, q4, e3, List.append_assoc]

theorem bitsN8_inj : ∀ (c : UInt8), UInt8.ofNat (c.toNat % 2 ^ 8) = c := by
  intro c
  have := c.toNat_lt
  rw [Nat.mod_eq_of_lt (by omega)]
  simp
theorem packF_bitsB : ∀ (l : List UInt8), packF (bitsB l) 0 0 = l
  | [] => rfl
  | c :: r => by
    rw [bitsB_cons, packF_byte _ _ 8 0 0 rfl (by omega), packF_bitsB r, Nat.zero_mul, Nat.zero_add, bitsN8_inj]
theorem packF_snoc_ones (j : Nat) : ∀ (l : List Bool) (put cnt : Nat), cnt < 8 → j < 8 → (l.length + cnt + j) % 8 = 0 → packF (l ++ List.replicate j true) put cnt = packF l put cnt
  | [], put, cnt, h, hj, hm => by
    rw [List.nil_append]
    by_cases h0 : cnt = 0
    · have : j = 0 := by simp at hm; omega
      subst this; rfl
    · have : cnt + j = 8 := by simp at hm; omega
      have hp := packF_byte (2 ^ j - 1) [] j put cnt this (by omega)
      rw [bitsN_ones, List.append_nil, Nat.mod_eq_of_lt (by have := Nat.two_pow_pos j; omega)] at hp
      rw [hp, packF, packF, if_neg h0, if_pos rfl, show 8 - cnt = j from by omega]
  | b :: r, put, cnt, h, hj, hm => by
    rw [List.cons_append, packF, packF]
    rw [List.length_cons] at hm
    split
    · rw [packF_snoc_ones j r 0 0 (by omega) hj (by omega)]
    · rw [packF_snoc_ones j r _ _ (by omega) hj (by omega)]

theorem enc_dec (l u : List UInt8) (h : dec l = some u) : enc u = l := by
  obtain ⟨v, j, e1, e2, e3⟩ := decK_back _ 0 [] u (by decide) root_facts.1 h
  rw [List.nil_append] at e1
  subst e1
  rw [root_facts.2.1, root_facts.2.2, bitsN, List.nil_append] at e3
  have hl := bitsB_length l
  rw [e3, List.length_append, List.length_replicate] at hl
  rw [enc, ← packF_snoc_ones j (bitsT u) 0 0 (by omega) e2 (by omega), ← e3, packF_bitsB]

theorem packF_append (b : List Bool) : ∀ (a : List Bool) (put cnt : Nat), cnt < 8 → (a.length + cnt) % 8 = 0 → packF (a ++ b) put cnt = packF a put cnt ++ (if a.length + cnt = 0 then packF b put cnt else packF b 0 0)
  | [], put, cnt, h, hm => by
    have : cnt = 0 := by simp at hm; omega
    subst this
    rw [packF]; simp
  | c :: r, put, cnt, h, hm => by
    rw [List.cons_append, packF, packF]
    rw [List.length_cons] at hm
    have hne : (c :: r).length + cnt ≠ 0 := by rw [List.length_cons]; omega
    rw [if_neg hne]
    split
    · rw [packF_append b r 0 0 (by omega) (by omega), List.cons_append]
      congr 2
      split <;> rfl
    · rw [packF_append b r _ _ (by omega) (by omega), if_neg (by omega)]
theorem enc_append (a b : List UInt8) (h : blen a % 8 = 0) : enc (a ++ b) = enc a ++ enc b := by
  rw [enc, bitsT_append, packF_append _ _ 0 0 (by omega) (by rw [bitsT_length]; omega)]
  rw [enc, enc]
  congr 1
  split <;> rfl

theorem grp_bd : ∀ n, n < 31 → gC n ≤ 32 ∧ gP n ≤ 256 ∧ gK n < 1073741824 := by decide +kernel
/-- A symbol's place. -/
def plc (c : Nat) : Nat := if c = 256 then 256 else (Lib.indexByte ordL (UInt8.ofNat c)).toNat
theorem plc_bd : ∀ c, c < 257 → plc c < 257 := by decide +kernel
theorem plc_eq : ∀ c, c < 256 → Lib.indexByte ordL (UInt8.ofNat c) = (plc c : Int) := by decide +kernel

/-- From length n on: the code at a place, and its length. -/
def caF : Nat → Nat → Int → Int × Int
  | 0, _, _ => (0, 0)
  | f + 1, n, p => if p < gP n + gC n then ((gK n + (p - gP n)) % 4294967296, n) else caF f (n + 1) p
theorem caF_code : ∀ c, c < 257 → caF 31 0 (plc c) = ((code c : Int), (len c : Int)) := by decide +kernel

theorem inner_bd (c : Nat) (hc : c < 513) (hs : sy c = 1023) : va c < 536870912 ∧ de c < 30 := by
  obtain ⟨_, _, h1, h2, h3, h4⟩ := node_facts c hc hs 0 (by omega)
  omega
end Huf
end Go.Proofs.YtdkgachgohilcaaDoor

namespace Go.Proofs.YtdkgachgohilcaaDoor
namespace Pre
open Huf

/-- What is above the prefix, seven bits a byte, the lowest ones first. -/
def tailF : Nat → Nat → List UInt8
  | 0, n => [UInt8.ofNat n]
  | f + 1, n => if n ≤ 127 then [UInt8.ofNat n] else UInt8.ofNat (n % 128 + 128) :: tailF f (n / 128)
/-- A number with a prefix of k bits behind flags. -/
def putI (f k n : Nat) : List UInt8 := if n < 2 ^ k - 1 then [UInt8.ofNat (f + n)] else UInt8.ofNat (f + (2 ^ k - 1)) :: tailF 4 (n - (2 ^ k - 1))

/-- The bytes behind the first one. -/
def tkF : Nat → List UInt8 → Nat → Nat → Nat → Nat × Nat × Nat
  | 0, _, _, _, _ => (0, 0, 11)
  | _ + 1, [], _, _, _ => (0, 0, 12)
  | f + 1, c :: r, at', n, t =>
    if c.toNat < 128 then (if 2147483647 < n + t * (c.toNat % 128) then (0, 0, 11) else (n + t * (c.toNat % 128), at' + 1, 0))
    else tkF f r (at' + 1) (n + t * (c.toNat % 128)) (t * 128)
/-- The number at the beginning of bytes. -/
def takeN (l : List UInt8) (k : Nat) : Nat × Nat × Nat :=
  match l with
  | [] => (0, 0, 12)
  | c :: r => if c.toNat % 2 ^ k < 2 ^ k - 1 then (c.toNat % 2 ^ k, 1, 0) else tkF 5 r 1 (c.toNat % 2 ^ k) 1
def takeI (l : List UInt8) (k : Int) : Nat × Nat × Nat := if k < 1 ∨ 8 < k then (0, 0, 1) else takeN l k.toNat

/-- A text with its length, as bits where these are fewer bytes. -/
def putT (s : List UInt8) : List UInt8 := if sizeV s < s.length then putI 128 7 (enc s).length ++ enc s else putI 0 7 s.length ++ s
/-- The text at the beginning of bytes. -/
def takeT (l : List UInt8) : List UInt8 × Nat × Nat :=
  if (takeN l 7).2.2 ≠ 0 then ([], 0, (takeN l 7).2.2)
  else if 4096 < (takeN l 7).1 then ([], 0, 2)
  else if (l.length : Int) - (takeN l 7).2.1 < (takeN l 7).1 then ([], 0, 12)
  else if 127 < (l.headD 0).toNat then
    match dec ((l.drop (takeN l 7).2.1).take (takeN l 7).1) with
    | none => ([], 0, 10)
    | some u => if 4096 < u.length then ([], 0, 2) else (u, (takeN l 7).2.1 + (takeN l 7).1, 0)
  else ((l.drop (takeN l 7).2.1).take (takeN l 7).1, (takeN l 7).2.1 + (takeN l 7).1, 0)

theorem tailF_pos : ∀ f n, 0 < (tailF f n).length
  | 0, n => by simp [tailF]
  | f + 1, n => by rw [tailF]; split <;> simp
theorem tailF_len : ∀ f n, (tailF f n).length ≤ f + 1
  | 0, n => by simp [tailF]
  | f + 1, n => by
    rw [tailF]; split
    · simp
    · rw [List.length_cons]; have := tailF_len f (n / 128); omega
theorem u8N (n : Nat) (h : n < 256) : (UInt8.ofNat n).toNat = n := by rw [UInt8.toNat_ofNat', Nat.mod_eq_of_lt (by omega)]

/-- What was written is read. -/
theorem tkF_tailF (b : List UInt8) : ∀ (g m f at' n t : Nat), m < 128 ^ (g + 1) → g < f → n + t * m ≤ 2147483647 →
    tkF f (tailF g m ++ b) at' n t = (n + t * m, at' + (tailF g m).length, 0)
  | 0, m, f, at', n, t, hm, hf, hb => by
    obtain ⟨f, rfl⟩ : ∃ x, f = x + 1 := ⟨f - 1, by omega⟩
    have h := u8N m (by omega)
    rw [tailF, List.singleton_append, tkF, h, if_pos (by omega), Nat.mod_eq_of_lt (by omega), if_neg (by omega)]; rfl
  | g + 1, m, f, at', n, t, hm, hf, hb => by
    obtain ⟨f, rfl⟩ : ∃ x, f = x + 1 := ⟨f - 1, by omega⟩
    rw [tailF]
    split
    · rename_i h1
      have h := u8N m (by omega)
      rw [List.singleton_append, tkF, h, if_pos (by omega), Nat.mod_eq_of_lt (by omega), if_neg (by omega)]; rfl
    · rename_i h1
      have h := u8N (m % 128 + 128) (by omega)
      have hd : t * m = t * (m % 128) + t * 128 * (m / 128) := by
        have h := Nat.div_add_mod m 128
        calc t * m = t * (128 * (m / 128) + m % 128) := by rw [h]
          _ = t * (m % 128) + t * 128 * (m / 128) := by rw [Nat.mul_add, Nat.mul_assoc]; omega
      rw [List.cons_append, tkF, h, if_neg (by omega), show (m % 128 + 128) % 128 = m % 128 from by omega, tkF_tailF b g (m / 128) f (at' + 1) _ _ (by rw [Nat.pow_succ] at hm; omega) (by omega) (by omega)]
      rw [List.length_cons]
      congr 1
      · omega
      · congr 1; omega
/-- Without the last byte it is short. -/
theorem tkF_short : ∀ (g m f at' n t : Nat), m < 128 ^ (g + 1) → g < f → tkF f (tailF g m).dropLast at' n t = (0, 0, 12)
  | 0, m, f, at', n, t, hm, hf => by
    obtain ⟨f, rfl⟩ : ∃ x, f = x + 1 := ⟨f - 1, by omega⟩
    rfl
  | g + 1, m, f, at', n, t, hm, hf => by
    obtain ⟨f, rfl⟩ : ∃ x, f = x + 1 := ⟨f - 1, by omega⟩
    rw [tailF]
    split
    · rfl
    · rename_i h1
      have h := u8N (m % 128 + 128) (by omega)
      have hne : tailF g (m / 128) ≠ [] := by
        intro h0; have := tailF_pos g (m / 128); rw [h0] at this; simp at this
      rw [List.dropLast_cons_of_ne_nil hne, tkF, h, if_neg (by omega), tkF_short g (m / 128) f _ _ _ (by rw [Nat.pow_succ] at hm; omega) (by omega)]

theorem pow_bd (k : Nat) (h1 : 1 ≤ k) (h8 : k ≤ 8) : 2 ≤ 2 ^ k ∧ 2 ^ k ≤ 256 := by
  have : k = 1 ∨ k = 2 ∨ k = 3 ∨ k = 4 ∨ k = 5 ∨ k = 6 ∨ k = 7 ∨ k = 8 := by omega
  rcases this with rfl | rfl | rfl | rfl | rfl | rfl | rfl | rfl <;> decide

/-- Flags whose lower bits are noughts. -/
theorem flag_mod (f k m : Nat) (h : f % 2 ^ k = 0) (hm : m < 2 ^ k) (hf : f < 256) (h1 : 1 ≤ k) (h8 : k ≤ 8) : f + m < 256 ∧ (f + m) % 2 ^ k = m := by
  have : k = 1 ∨ k = 2 ∨ k = 3 ∨ k = 4 ∨ k = 5 ∨ k = 6 ∨ k = 7 ∨ k = 8 := by omega
  rcases this with rfl | rfl | rfl | rfl | rfl | rfl | rfl | rfl <;> omega

theorem takeN_putI (f k n : Nat) (b : List UInt8) (h1 : 1 ≤ k) (h8 : k ≤ 8) (hf : f < 256) (hfk : f % 2 ^ k = 0) (hn : n ≤ 2147483647) :
    takeN (putI f k n ++ b) k = (n, (putI f k n).length, 0) := by
  have hp := pow_bd k h1 h8
  rw [putI]
  split
  · rename_i h
    have hm := flag_mod f k n hfk (by omega) hf h1 h8
    rw [List.singleton_append, takeN, u8N _ hm.1, hm.2, if_pos h]; rfl
  · rename_i h
    have hm := flag_mod f k (2 ^ k - 1) hfk (by omega) hf h1 h8
    rw [List.cons_append, takeN, u8N _ hm.1, hm.2, if_neg (by omega), tkF_tailF b 4 _ 5 1 _ 1 (by omega) (by omega) (by omega), List.length_cons]
    congr 1
    · omega
    · congr 1; omega
theorem takeN_short (f k n : Nat) (h1 : 1 ≤ k) (h8 : k ≤ 8) (hf : f < 256) (hfk : f % 2 ^ k = 0) (hn : n ≤ 2147483647) :
    takeN (putI f k n).dropLast k = (0, 0, 12) := by
  have hp := pow_bd k h1 h8
  rw [putI]
  split
  · rfl
  · rename_i h
    have hm := flag_mod f k (2 ^ k - 1) hfk (by omega) hf h1 h8
    have hne : tailF 4 (n - (2 ^ k - 1)) ≠ [] := by
      intro h0; have := tailF_pos 4 (n - (2 ^ k - 1)); rw [h0] at this; simp at this
    rw [List.dropLast_cons_of_ne_nil hne, takeN, u8N _ hm.1, hm.2, if_neg (by omega), tkF_short 4 _ 5 1 _ 1 (by omega) (by omega)]
theorem putI_len (f k n : Nat) : 1 ≤ (putI f k n).length ∧ (putI f k n).length ≤ 6 := by
  rw [putI]; split
  · simp
  · rw [List.length_cons]; have := tailF_len 4 (n - (2 ^ k - 1)); omega
theorem tkF_bd : ∀ (f : Nat) (r : List UInt8) (at' n t : Nat), (tkF f r at' n t).1 ≤ 2147483647 ∧ ((tkF f r at' n t).2.2 ≠ 0 → (tkF f r at' n t).1 = 0 ∧ (tkF f r at' n t).2.1 = 0) ∧
    ((tkF f r at' n t).2.2 = 0 → at' + 1 ≤ (tkF f r at' n t).2.1 ∧ (tkF f r at' n t).2.1 ≤ at' + r.length ∧ (tkF f r at' n t).2.1 ≤ at' + f) ∧ (tkF f r at' n t).2.2 ≤ 12
  | 0, _, _, _, _ => by simp [tkF]
  | f + 1, [], _, _, _ => by simp [tkF]
  | f + 1, c :: r, at', n, t => by
    rw [tkF]
    split
    · split
      · simp
      · rename_i h; simp; omega
    · have h := tkF_bd f r (at' + 1) (n + t * (c.toNat % 128)) (t * 128)
      refine ⟨h.1, h.2.1, fun h0 => ?_, h.2.2.2⟩
      have h3 := h.2.2.1 h0
      rw [List.length_cons]; omega
theorem takeN_bd (l : List UInt8) (k : Nat) (_h8 : k ≤ 8) : (takeN l k).1 ≤ 2147483647 ∧ ((takeN l k).2.2 ≠ 0 → (takeN l k).1 = 0 ∧ (takeN l k).2.1 = 0) ∧
    ((takeN l k).2.2 = 0 → 1 ≤ (takeN l k).2.1 ∧ (takeN l k).2.1 ≤ l.length ∧ (takeN l k).2.1 ≤ 6) ∧ (takeN l k).2.2 ≤ 12 := by
  cases l with
  | nil => simp [takeN]
  | cons c r =>
    rw [takeN]
    split
    · rename_i h
      have hc := c.toNat_lt
      have := Nat.mod_le c.toNat (2 ^ k)
      simp; omega
    · have h := tkF_bd 5 r 1 (c.toNat % 2 ^ k) 1
      refine ⟨h.1, h.2.1, fun h0 => ?_, h.2.2.2⟩
      have h3 := h.2.2.1 h0
      rw [List.length_cons]; omega
end Pre
end Go.Proofs.YtdkgachgohilcaaDoor
