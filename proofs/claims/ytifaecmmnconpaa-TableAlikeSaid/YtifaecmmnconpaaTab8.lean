/- Layer 4: two of the program's tables side by side. -/
import Derived.Test.YtifaecmmnconpaaRows
import Derived.Test.YtifaecmmnconpaaTabPure
import Derived.Test.YtifaecmmnconpaaObj
import Derived.Test.YtifaecmmnconpaaRowE
import Derived.Test.YtifaecmmnconpaaTabP
import Derived.WalkKit
import Derived.Lib.Hide
namespace Go.Proofs.Ytifaecmmnconpaa
open Go.RowKit
open Arg Tab Mem Go.Proofs.Ytifaecmmnconpaa.Obj
set_option linter.unusedVariables false

/-- Two tables that lie apart, from block B on. -/
def Pair (w : World) (B ga gb ma mb : Nat) (ra rb : List FdM) (c : Nat) : Prop :=
  ∃ La Lb ca cb, PTab w La ga ma ra ca ∧ PTab w Lb gb mb rb cb ∧ (∀ k ∈ La, k ∉ Lb) ∧ (∀ k ∈ La, B ≤ k) ∧ (∀ k ∈ Lb, B ≤ k) ∧ ca ≤ c ∧ cb ≤ c ∧ B ≤ w.heap.size

theorem Pair.swap {w : World} {B ga gb ma mb c : Nat} {ra rb : List FdM} (h : Pair w B ga gb ma mb ra rb c) : Pair w B gb ga mb ma rb ra c := by
  obtain ⟨La, Lb, ca, cb, ha, hb, h1, h2, h3, h4, h5, h6⟩ := h
  exact ⟨Lb, La, cb, ca, hb, ha, fun k hk hm => h1 k hm hk, h3, h2, h5, h4, h6⟩
theorem Pair.below {w w' : World} {B ga gb ma mb c : Nat} {ra rb : List FdM} (h : Pair w B ga gb ma mb ra rb c) (hb : Below w.heap.size w w') : Pair w' B ga gb ma mb ra rb c ∧ Below B w w' := by
  obtain ⟨La, Lb, ca, cb, ha, hb', h1, h2, h3, h4, h5, h6⟩ := h
  exact ⟨⟨La, Lb, ca, cb, ha.kept hb.size (fun k hk => hb.block k (ha.blocks k hk)), hb'.kept hb.size (fun k hk => hb.block k (hb'.blocks k hk)), h1, h2, h3, h4, h5, Nat.le_trans h6 hb.size⟩, hb.mono h6⟩
theorem Pair.sum {w : World} {B ga gb ma mb c : Nat} {ra rb : List FdM} (h : Pair w B ga gb ma mb ra rb c) : csum ra ≤ ma ∧ ma ≤ 65536 := by
  obtain ⟨La, Lb, ca, cb, ha, hb', h1, h2, h3, h4, h5, h6⟩ := h
  exact ha.sum
theorem Pair.more {w : World} {B ga gb ma mb c c' : Nat} {ra rb : List FdM} (h : Pair w B ga gb ma mb ra rb c) (hc : c ≤ c') : Pair w B ga gb ma mb ra rb c' := by
  obtain ⟨La, Lb, ca, cb, ha, hb', h1, h2, h3, h4, h5, h6⟩ := h
  exact ⟨La, Lb, ca, cb, ha, hb', h1, h2, h3, by omega, by omega, h6⟩
/-- A step on the first. -/
theorem Pair.step {w w1 : World} {B ga gb ma2 mb c ca2 : Nat} {ra2 rb : List FdM} {La La' Lb : List Nat} {cb : Nat} (hb : PTab w Lb gb mb rb cb) (h1 : ∀ k ∈ La, k ∉ Lb) (h2 : ∀ k ∈ La, B ≤ k) (h3 : ∀ k ∈ Lb, B ≤ k) (hcb : cb ≤ c) (hB : B ≤ w.heap.size)
    (t1 : PTab w1 La' ga ma2 ra2 ca2) (hca : ca2 ≤ c) (k1 : Kept La w w1) (n1 : ∀ k ∈ La', k ∈ La ∨ w.heap.size ≤ k) : Pair w1 B ga gb ma2 mb ra2 rb c ∧ Below B w w1 := by
  have hbb := hb.blocks
  refine ⟨⟨La', Lb, ca2, cb, t1, hb.kept k1.size (fun k hk => k1.block k (hbb k hk) (fun hm => h1 k hm hk)), fun k hk hm => ?_, fun k hk => ?_, h3, hca, hcb, Nat.le_trans hB k1.size⟩, Kept.below (Below.refl _ _) k1 h2 hB⟩
  · rcases n1 k hk with h | h
    · exact h1 k h hm
    · have := hbb k hm; omega
  · rcases n1 k hk with h | h
    · exact h2 k h
    · omega

theorem pair_add {w : World} {B ga gb ma mb c : Nat} {ra rb : List FdM} (h : Pair w B ga gb ma mb ra rb c) (f : FdM) (hc : c < 1000) (hn : f.name.size ≤ 140737488351232) (hv : f.value.size ≤ 140737488351232) :
    Calls Try.prog 18 #[.pointer (some ⟨ga, 0, none⟩), .agg #[.string f.name, .string f.value, .bool f.never]] w fun e w' => e = .returned (.tuple #[]) ∧ Pair w' B ga gb ma mb (addT ma ra f) rb (c + 1) ∧ Below B w w' := by
  obtain ⟨La, Lb, ca, cb, ha, hb, h1, h2, h3, h4, h5, h6⟩ := h
  refine (padd_any La ga ma ca ra f w ha (by omega) hn hv).mono ?_
  rintro e w' ⟨rfl, La', t1, k1, n1⟩
  obtain ⟨q1, q2⟩ := Pair.step (c := c + 1) hb h1 h2 h3 (by omega) h6 t1 (by omega) k1 n1
  exact ⟨rfl, q1, q2⟩
theorem pair_resize {w : World} {B ga gb ma mb c : Nat} {ra rb : List FdM} (h : Pair w B ga gb ma mb ra rb c) (m2 : Nat) (hm : m2 ≤ 65536) :
    Calls Try.prog 19 #[.pointer (some ⟨ga, 0, none⟩), .int .i64 m2] w fun e w' => e = .returned (.int .i64 0) ∧ Pair w' B ga gb m2 mb (fit m2 ra) rb c ∧ Below B w w' := by
  obtain ⟨La, Lb, ca, cb, ha, hb, h1, h2, h3, h4, h5, h6⟩ := h
  refine (presize_ok La ga ma m2 ca ra w ha hm).mono ?_
  rintro e w' ⟨rfl, La', t1, k1, n1⟩
  obtain ⟨q1, q2⟩ := Pair.step (c := c) hb h1 h2 h3 h5 h6 t1 h4 k1 n1
  exact ⟨rfl, q1, q2⟩
theorem pair_size {w : World} {B ga gb ma mb c : Nat} {ra rb : List FdM} (h : Pair w B ga gb ma mb ra rb c) :
    Calls Try.prog 13 #[.pointer (some ⟨ga, 0, none⟩)] w fun e w' => e = .returned (.int .i64 (csum ra)) ∧ Pair w' B ga gb ma mb ra rb c ∧ Below B w w' := by
  obtain ⟨La, Lb, ca, cb, ha, _⟩ := id h
  refine (psize_any La ga ma ca ra w ha).mono ?_
  rintro e w' ⟨rfl, b⟩
  exact ⟨rfl, h.below b⟩
theorem pair_len {w : World} {B ga gb ma mb c : Nat} {ra rb : List FdM} (h : Pair w B ga gb ma mb ra rb c) :
    Calls Try.prog 15 #[.pointer (some ⟨ga, 0, none⟩)] w fun e w' => e = .returned (.int .i64 ra.length) ∧ Pair w' B ga gb ma mb ra rb c ∧ Below B w w' := by
  obtain ⟨La, Lb, ca, cb, ha, _⟩ := id h
  refine (plen_any La ga ma ca ra w ha).mono ?_
  rintro e w' ⟨rfl, b⟩
  exact ⟨rfl, h.below b⟩
theorem pair_most {w : World} {B ga gb ma mb c : Nat} {ra rb : List FdM} (h : Pair w B ga gb ma mb ra rb c) :
    Calls Try.prog 12 #[.pointer (some ⟨ga, 0, none⟩)] w fun e w' => e = .returned (.int .i64 ma) ∧ Pair w' B ga gb ma mb ra rb c ∧ Below B w w' := by
  obtain ⟨La, Lb, ca, cb, ha, _⟩ := id h
  refine (pmost_any La ga ma ca ra w ha).mono ?_
  rintro e w' ⟨rfl, b⟩
  exact ⟨rfl, h.below b⟩
theorem pair_at {w : World} {B ga gb ma mb c : Nat} {ra rb : List FdM} (h : Pair w B ga gb ma mb ra rb c) (n : Int) (hn : (Lit.int .i64 n).wf = true) (x : FdM) (hx : atT ra n = (x, 0)) :
    Calls Try.prog 16 #[.pointer (some ⟨ga, 0, none⟩), .int .i64 n] w fun e w' => e = .returned (.tuple #[.agg #[.string x.name, .string x.value, .bool x.never], .int .i64 0]) ∧ Pair w' B ga gb ma mb ra rb c ∧ Below B w w' := by
  obtain ⟨La, Lb, ca, cb, ha, _⟩ := id h
  have := pat_any La ga ma ca ra n w ha hn
  rw [hx] at this
  refine this.mono ?_
  rintro e w' ⟨rfl, b⟩
  exact ⟨rfl, h.below b⟩

/-- All the rows of a script come. -/
def addsM : List FdM → List FdM → List FdM
  | [], r => r
  | f :: q, r => addsM q (addT 4096 r f)
end Go.Proofs.Ytifaecmmnconpaa
