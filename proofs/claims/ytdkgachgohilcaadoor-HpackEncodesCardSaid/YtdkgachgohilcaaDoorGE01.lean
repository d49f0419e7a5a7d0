/- Layer 5: the document's Limit, region by region. Layer 5: the document's Limit. Layer 5: the document's Encode, region by region. Layer 5: the document's Encode, region by region: what calls, and the loop's. -/
import Derived.Test.YtdkgachgohilcaaDoorGD05
import Derived.Test.YtdkgachgohilcaaDoorGP25
import Derived.IntWalk
import Derived.Deep.RegionHeld3
import Derived.Test.YtdkgachgohilcaaDoorGP15
set_option linter.unusedVariables false
set_option linter.unusedSimpArgs false
namespace Go.Proofs.YtdkgachgohilcaaDoor
open Go.RowKit
open Huf Pre Tab Hpk Arg Mem Gen Go.Proofs.YtdkgachgohilcaaDoor.Obj
set_option linter.unusedVariables false

set_option maxRecDepth 100000 in
set_option maxHeartbeats 1000000 in
theorem lim_r0 {Q : Exit → Act → World → Prop} {g own n : Nat} {S : World → Prop} (a : Act) (w : World) (q0 : w.cell? ⟨g, 0, none⟩ = some (.int .i64 own)) (HC : Hid (Calls Tryd.prog 35 #[.pointer (some ⟨g, 3, none⟩), .int .i64 (min own n : Nat)] w.drew fun e w' => e = .returned (.tuple #[]) ∧ S w'))
    (hS0 : ∀ w', S w' → w'.cell? ⟨g, 0, none⟩ = some (.int .i64 own))
    (ha : Fr.Is 27 [(0, .pointer (some ⟨g, 0, none⟩)), (1, .int .i64 n)] a)
    (hQ : Hid (∀ a', Fr.Is 27 [(0, .pointer (some ⟨g, 0, none⟩)), (1, .int .i64 n)] a' → ∀ w', S w' → Q .normal a' w')) :
    (Fr.reg Tryd.f21 0).wp Tryd.prog Q a w := by
  obtain ⟨fr, rfl, hfr⟩ := ha.lit
  simp only [List.map_cons, List.map_nil, List.cons.injEq, and_true] at hfr
  conv => arg 2; whnf
  simp only [List.range, List.range.loop, List.map_cons, List.map_nil, hfr]
  clear hfr ha
  rw [show ((min own n : Nat) : Int) = min (own : Int) n from by omega] at HC
  have q0d : w.drew.cell? ⟨g, 0, none⟩ = some (.int .i64 own) := q0
  refine wp_region_noPanic ?_
  go_region_held3 (fun w' => w'.cell? ⟨g, 0, none⟩ = some (.int .i64 own)) (first | exact hS0 _ hS | exact q0d | go_keep)
    ((first | (go_at_call 35; refine HC.out.mono ?_; rintro e w1 ⟨rfl, hS⟩)))
  all_goals first | exact hQ.out _ (Fr.Is.mk rfl rfl) _ hS | exact NoPanic.normal (hQ.out _ (Fr.Is.mk rfl rfl) _ hS)

set_option maxRecDepth 100000 in
set_option maxHeartbeats 1000000 in
theorem lim_r1 {Q : Exit → Act → World → Prop} {g n least m : Nat} (a : Act) (w : World) (q2 : w.cell? ⟨g, 2, none⟩ = some (.int .i64 least)) (q3 : w.cell? ⟨g, 3, none⟩ = some (.int .i64 m)) (z2 : w.frozen? ⟨g, 2, none⟩ = false)
    (ha : Fr.Is 27 [(0, .pointer (some ⟨g, 0, none⟩)), (1, .int .i64 n)] a)
    (hQ : Hid (∀ a', Fr.Is 27 [(0, .pointer (some ⟨g, 0, none⟩))] a' → ∀ k, Q .normal a' ((w.drewN k).setCell ⟨g, 2, none⟩ (.int .i64 (min least m : Nat))))) :
    (Fr.reg Tryd.f21 1).wp Tryd.prog Q a w := by
  obtain ⟨fr, rfl, hfr⟩ := ha.lit
  simp only [List.map_cons, List.map_nil, List.cons.injEq, and_true] at hfr
  conv => arg 2; whnf
  simp only [List.range, List.range.loop, List.map_cons, List.map_nil, hfr]
  clear hfr ha
  rw [show ((min least m : Nat) : Int) = min (least : Int) m from by omega] at hQ
  refine wp_region_noPanic ?_
  go_region_with (skip)
  all_goals first | exact hQ.out _ (Fr.Is.mk rfl rfl) _ | exact NoPanic.normal (hQ.out _ (Fr.Is.mk rfl rfl) 1)
end Go.Proofs.YtdkgachgohilcaaDoor

namespace Go.Proofs.YtdkgachgohilcaaDoor
open Go.RowKit
open Huf Pre Tab Hpk Arg Mem Gen Go.Proofs.YtdkgachgohilcaaDoor.Obj
set_option linter.unusedVariables false

set_option maxRecDepth 100000 in
set_option maxHeartbeats 1000000 in
theorem rlimit_any (L : List Nat) (g own told least m n : Nat) (rows : List FdM) (w : World) (h : REnc w L g own told least m rows) (hs : csum rows ≤ 65536) (hn : min own n ≤ 65536) :
    Calls Tryd.prog 21 #[.pointer (some ⟨g, 0, none⟩), .int .i64 n] w fun e w' => e = .returned (.tuple #[]) ∧ ∃ L', REnc w' L' g own told (min least (min own n)) (min own n) (fit (min own n) rows) ∧ Kept L w w' ∧ ∀ k ∈ L', k ∈ L ∨ w.heap.size ≤ k := by
  have hgL : g ∈ L := by obtain ⟨_, _, hg, _⟩ := h; exact hg
  obtain ⟨c0, _, _, _, _, _⟩ := h.cells
  have hB : Below w.heap.size w w.drew := (Below.refl _ _).drew
  have HC := gresize_any 55 _ g 3 m (min own n) rows L w.drew (by simp) (GTab.below h hB) hs hn
  go_enter Tryd.func21, Tryd.ntmps21
  refine wp_seq ?_
  refine lim_r0 (g := g) (own := own) (n := n) _ w c0 (Lib.hid HC) (fun w' hW => by
    obtain ⟨L2, hT, _, _⟩ := hW
    exact (show REnc w' L2 g own told least (min own n) (fit (min own n) rows) from hT).cells.1) (Fr.Is.mk rfl rfl) (Lib.hid (fun a1 h1 w1 hW => ?_))
  obtain ⟨L2, hT, hk, hnew⟩ := hW
  have hE : REnc w1 L2 g own told least (min own n) (fit (min own n) rows) := hT
  obtain ⟨_, _, c2, c3, _, z2⟩ := hE.cells
  refine lim_r1 (n := n) (least := least) (m := min own n) a1 w1 c2 c3 z2 h1 (Lib.hid (fun a2 h2 k => ?_))
  have hBk : Below w1.heap.size w1 (w1.drewN k) := ⟨rfl, rfl, rfl, Nat.le_refl _, fun _ _ => rfl⟩
  have hE2 : REnc (w1.drewN k) L2 g own told least (min own n) (fit (min own n) rows) := GTab.below hE hBk
  refine ⟨h2.1, .tuple #[], ?_, rfl, L2, hE2.least_set _, ?_, hnew⟩
  · simp [results, Tryd.results21, go_sem]
  · exact ((Kept.refl L w).drew.trans hk (fun i hi => .inl hi)).then hBk |>.setCell (.inl hgL) _
end Go.Proofs.YtdkgachgohilcaaDoor

namespace Go.Proofs.YtdkgachgohilcaaDoor
open Go.RowKit
open Huf Pre Tab Hpk Arg Mem Gen Go.Proofs.YtdkgachgohilcaaDoor.Obj
set_option linter.unusedVariables false

set_option maxRecDepth 100000 in
set_option maxHeartbeats 1000000 in
theorem enc_r0 {Q : Exit → Act → World → Prop} {g blen bcap : Nat} {ba : Option Addr} (a : Act) (w : World) 
    (ha : Fr.Is 155 [(0, .pointer (some ⟨g, 0, none⟩)), (1, .slice ba blen bcap)] a)
    (hQ : Hid (∀ a', Fr.Is 155 [(0, .pointer (some ⟨g, 0, none⟩)), (1, .slice ba blen bcap)] a' → Q .normal a' w)) :
    (Fr.reg Tryd.f23 0).wp Tryd.prog Q a w := by
  obtain ⟨fr, rfl, hfr⟩ := ha.lit
  simp only [List.map_cons, List.map_nil, List.cons.injEq, and_true] at hfr
  conv => arg 2; whnf
  simp only [List.range, List.range.loop, List.map_cons, List.map_nil, hfr]
  clear hfr ha
  go_wp2_with fail
  exact hQ.out _ (Fr.Is.mk rfl rfl)

set_option maxRecDepth 100000 in
set_option maxHeartbeats 1000000 in
theorem enc_r1 {Q : Exit → Act → World → Prop} {g blen bcap : Nat} {ba : Option Addr} (a : Act) (w : World) 
    (ha : Fr.Is 155 [(0, .pointer (some ⟨g, 0, none⟩)), (1, .slice ba blen bcap)] a)
    (hQ : Hid (∀ a', Fr.Is 155 [(0, .pointer (some ⟨g, 0, none⟩)), (1, .slice ba blen bcap), (5, .slice none 0 0)] a' → Q .normal a' w)) :
    (Fr.reg Tryd.f23 1).wp Tryd.prog Q a w := by
  obtain ⟨fr, rfl, hfr⟩ := ha.lit
  simp only [List.map_cons, List.map_nil, List.cons.injEq, and_true] at hfr
  conv => arg 2; whnf
  simp only [List.range, List.range.loop, List.map_cons, List.map_nil, hfr]
  clear hfr ha
  go_wp2_with fail
  exact hQ.out _ (Fr.Is.mk rfl rfl)

set_option maxRecDepth 100000 in
set_option maxHeartbeats 1000000 in
theorem enc_r2 {Q : Exit → Act → World → Prop} {g blen bcap : Nat} {ba : Option Addr} {m : Nat} (a : Act) (w : World) (q3 : w.cell? ⟨g, 3, none⟩ = some (.int .i64 m))
    (ha : Fr.Is 155 [(0, .pointer (some ⟨g, 0, none⟩)), (1, .slice ba blen bcap), (5, .slice none 0 0)] a)
    (hQ : Hid (∀ a', Fr.Is 155 [(0, .pointer (some ⟨g, 0, none⟩)), (1, .slice ba blen bcap), (5, .slice none 0 0), (6, .int .i64 m)] a' → Q .normal a' w)) :
    (Fr.reg Tryd.f23 2).wp Tryd.prog Q a w := by
  obtain ⟨fr, rfl, hfr⟩ := ha.lit
  simp only [List.map_cons, List.map_nil, List.cons.injEq, and_true] at hfr
  conv => arg 2; whnf
  simp only [List.range, List.range.loop, List.map_cons, List.map_nil, hfr]
  clear hfr ha
  go_wp2_with fail
  exact hQ.out _ (Fr.Is.mk rfl rfl)

set_option maxRecDepth 100000 in
set_option maxHeartbeats 1000000 in
theorem enc_r3y {Q : Exit → Act → World → Prop} {g blen bcap : Nat} {ba : Option Addr} {on oc : Nat} {oa : Option Addr} {m told least : Nat} (a : Act) (w : World) (h1 : least < told) (q1 : w.cell? ⟨g, 1, none⟩ = some (.int .i64 told)) (q2 : w.cell? ⟨g, 2, none⟩ = some (.int .i64 least)) (bo : Bool) (hbo : bo = true ↔ least < told ∧ least < m)
    (ha : Fr.Is 155 [(0, .pointer (some ⟨g, 0, none⟩)), (1, .slice ba blen bcap), (5, .slice oa on oc), (6, .int .i64 m)] a)
    (hQ : Hid (∀ a', Fr.Is 155 [(0, .pointer (some ⟨g, 0, none⟩)), (1, .slice ba blen bcap), (5, .slice oa on oc), (6, .int .i64 m), (34, .bool bo)] a' → Q .normal a' w.drew)) :
    (Fr.reg Tryd.f23 3).wp Tryd.prog Q a w := by
  obtain ⟨fr, rfl, hfr⟩ := ha.lit
  simp only [List.map_cons, List.map_nil, List.cons.injEq, and_true] at hfr
  conv => arg 2; whnf
  simp only [List.range, List.range.loop, List.map_cons, List.map_nil, hfr]
  clear hfr ha
  · by_cases h2 : least < m
    · obtain rfl : bo = true := hbo.mpr ⟨h1, h2⟩
      have h1' : (least : Int) < told := by omega
      have h2' : (least : Int) < m := by omega
      go_region_held3 (fun v => v.cell? ⟨g, 1, none⟩ = some (.int .i64 told) ∧ v.cell? ⟨g, 2, none⟩ = some (.int .i64 least)) (exact ⟨q1, q2⟩) (fail)
      all_goals exact hQ.out _ (Fr.Is.mk rfl rfl)
    · obtain rfl : bo = false := by cases bo with | true => exact absurd (hbo.mp rfl).2 h2 | false => rfl
      have h1' : (least : Int) < told := by omega
      have h2' : ¬ (least : Int) < m := by omega
      go_region_held3 (fun v => v.cell? ⟨g, 1, none⟩ = some (.int .i64 told) ∧ v.cell? ⟨g, 2, none⟩ = some (.int .i64 least)) (exact ⟨q1, q2⟩) (fail)
      all_goals exact hQ.out _ (Fr.Is.mk rfl rfl)

set_option maxRecDepth 100000 in
set_option maxHeartbeats 1000000 in
theorem enc_r6 {Q : Exit → Act → World → Prop} {g blen bcap : Nat} {ba : Option Addr} {on oc : Nat} {oa : Option Addr} {m told least : Nat} (a : Act) (w : World) (q1 : w.cell? ⟨g, 1, none⟩ = some (.int .i64 told)) (bo : Bool) (hbo : bo = true ↔ m ≠ told)
    (ha : Fr.Is 155 [(0, .pointer (some ⟨g, 0, none⟩)), (1, .slice ba blen bcap), (5, .slice oa on oc), (6, .int .i64 m)] a)
    (hQ : Hid (∀ a', Fr.Is 155 [(0, .pointer (some ⟨g, 0, none⟩)), (1, .slice ba blen bcap), (5, .slice oa on oc), (6, .int .i64 m), (53, .bool bo)] a' → Q .normal a' w)) :
    (Fr.reg Tryd.f23 6).wp Tryd.prog Q a w := by
  obtain ⟨fr, rfl, hfr⟩ := ha.lit
  simp only [List.map_cons, List.map_nil, List.cons.injEq, and_true] at hfr
  conv => arg 2; whnf
  simp only [List.range, List.range.loop, List.map_cons, List.map_nil, hfr]
  clear hfr ha
  by_cases h1 : m = told
  · obtain rfl : bo = false := by cases bo with | true => exact absurd h1 (hbo.mp rfl) | false => rfl
    subst h1
    have h2 : ((m : Int) != m) = false := by simp
    go_wp2_with fail
    all_goals first | omega | exact hQ.out _ (Fr.Is.mk rfl rfl)
  · obtain rfl : bo = true := hbo.mpr h1
    have h2 : ((m : Int) != told) = true := by simp; omega
    have h3 : ¬ (m : Int) = told := by omega
    go_wp2_with fail
    all_goals first | omega | exact hQ.out _ (Fr.Is.mk rfl rfl)

set_option maxRecDepth 100000 in
set_option maxHeartbeats 1000000 in
theorem enc_r8 {Q : Exit → Act → World → Prop} {g blen bcap : Nat} {ba : Option Addr} {on oc : Nat} {oa : Option Addr} {m told least : Nat} (a : Act) (w : World) (q1 : ∃ v, w.cell? ⟨g, 1, none⟩ = some v) (z1 : w.frozen? ⟨g, 1, none⟩ = false)
    (ha : Fr.Is 155 [(0, .pointer (some ⟨g, 0, none⟩)), (1, .slice ba blen bcap), (5, .slice oa on oc), (6, .int .i64 m)] a)
    (hQ : Hid (∀ a', Fr.Is 155 [(0, .pointer (some ⟨g, 0, none⟩)), (1, .slice ba blen bcap), (5, .slice oa on oc), (6, .int .i64 m)] a' → Q .normal a' (w.setCell ⟨g, 1, none⟩ (.int .i64 m)))) :
    (Fr.reg Tryd.f23 8).wp Tryd.prog Q a w := by
  obtain ⟨fr, rfl, hfr⟩ := ha.lit
  simp only [List.map_cons, List.map_nil, List.cons.injEq, and_true] at hfr
  conv => arg 2; whnf
  simp only [List.range, List.range.loop, List.map_cons, List.map_nil, hfr]
  clear hfr ha
  obtain ⟨v1, q1⟩ := q1
  go_wp2_with fail
  exact hQ.out _ (Fr.Is.mk rfl rfl)

set_option maxRecDepth 100000 in
set_option maxHeartbeats 1000000 in
theorem enc_r9 {Q : Exit → Act → World → Prop} {g blen bcap : Nat} {ba : Option Addr} {on oc : Nat} {oa : Option Addr} {m told least : Nat} (a : Act) (w : World) (q2 : ∃ v, w.cell? ⟨g, 2, none⟩ = some v) (z2 : w.frozen? ⟨g, 2, none⟩ = false)
    (ha : Fr.Is 155 [(0, .pointer (some ⟨g, 0, none⟩)), (1, .slice ba blen bcap), (5, .slice oa on oc), (6, .int .i64 m)] a)
    (hQ : Hid (∀ a', Fr.Is 155 [(0, .pointer (some ⟨g, 0, none⟩)), (1, .slice ba blen bcap), (5, .slice oa on oc), (6, .int .i64 m)] a' → Q .normal a' (w.setCell ⟨g, 2, none⟩ (.int .i64 m)))) :
    (Fr.reg Tryd.f23 9).wp Tryd.prog Q a w := by
  obtain ⟨fr, rfl, hfr⟩ := ha.lit
  simp only [List.map_cons, List.map_nil, List.cons.injEq, and_true] at hfr
  conv => arg 2; whnf
  simp only [List.range, List.range.loop, List.map_cons, List.map_nil, hfr]
  clear hfr ha
  obtain ⟨v2, q2⟩ := q2
  go_wp2_with fail
  exact hQ.out _ (Fr.Is.mk rfl rfl)
end Go.Proofs.YtdkgachgohilcaaDoor

namespace Go.Proofs.YtdkgachgohilcaaDoor
open Go.RowKit
open Huf Pre Tab Hpk Arg Mem Gen Wr Go.Proofs.YtdkgachgohilcaaDoor.Obj
set_option linter.unusedVariables false

theorem Wr.Grew.after {B : Nat} {L : List Nat} {w w1 w' : World} {oa oa' : Option Addr} {oc' : Nat} {l3 : List UInt8} (h : Grew B L w1 oa oa' oc' l3 w') (hb : Below w.heap.size w w1) : Grew B L w oa oa' oc' l3 w' :=
  ⟨h.out, (Std.of_below hb).trans h.std, fun k hk hne => (h.blk k (Nat.lt_of_lt_of_le hk hb.size) hne).trans (hb.block k hk), fun b o s e => by
    rcases h.new b o s e with h1 | h1
    · exact .inl h1
    · exact .inr (Nat.le_trans hb.size h1)⟩

set_option maxRecDepth 100000 in
set_option maxHeartbeats 1000000 in
theorem enc_r3 {Q : Exit → Act → World → Prop} {g ln lcap : Nat} {la : Option Addr} {on oc : Nat} {oa : Option Addr} {m : Nat} {told least : Nat} (a : Act) (w : World) (q1 : w.cell? ⟨g, 1, none⟩ = some (.int .i64 told)) (q2 : w.cell? ⟨g, 2, none⟩ = some (.int .i64 least)) (bo : Bool) (hbo : bo = true ↔ least < told ∧ least < m)
    (ha : Fr.Is 155 [(0, .pointer (some ⟨g, 0, none⟩)), (1, .slice la ln lcap), (5, .slice oa on oc), (6, .int .i64 m)] a)
    (hQ : Hid (∀ nq a', Fr.Is 155 [(0, .pointer (some ⟨g, 0, none⟩)), (1, .slice la ln lcap), (5, .slice oa on oc), (6, .int .i64 m), (34, .bool bo)] a' → Q .normal a' (w.drewN nq))) :
    (Fr.reg Tryd.f23 3).wp Tryd.prog Q a w := by
  obtain ⟨fr, rfl, hfr⟩ := ha.lit
  simp only [List.map_cons, List.map_nil, List.cons.injEq, and_true] at hfr
  conv => arg 2; whnf
  simp only [List.range, List.range.loop, List.map_cons, List.map_nil, hfr]
  clear hfr ha
  by_cases h1 : least < told
  · by_cases h2 : least < m
    · obtain rfl : bo = true := hbo.mpr ⟨h1, h2⟩
      have h1' : (least : Int) < told := by omega
      have h2' : (least : Int) < m := by omega
      clear hbo
      refine wp_region_noPanic ?_; go_quiet (fail)
      exact hQ.out _ _ (Fr.Is.mk rfl rfl)
    · obtain rfl : bo = false := by cases bo with | true => exact absurd (hbo.mp rfl).2 h2 | false => rfl
      have h1' : (least : Int) < told := by omega
      have h2' : ¬ (least : Int) < m := by omega
      clear hbo
      refine wp_region_noPanic ?_; go_quiet (fail)
      exact hQ.out _ _ (Fr.Is.mk rfl rfl)
  · obtain rfl : bo = false := by cases bo with | true => exact absurd (hbo.mp rfl).1 h1 | false => rfl
    have h1' : ¬ (least : Int) < told := by omega
    clear hbo
    refine wp_region_noPanic ?_; go_quiet (fail)
    exact hQ.out _ _ (Fr.Is.mk rfl rfl)

set_option maxRecDepth 100000 in
set_option maxHeartbeats 1000000 in
theorem enc_r4 {Q : Exit → Act → World → Prop} {g ln lcap : Nat} {la : Option Addr} {on oc : Nat} {oa : Option Addr} {m : Nat} {B : Nat} {L : List Nat} {out Y Z : List UInt8} {least : Nat} (a : Act) (w : World) (HP : Hid (∀ v, Calls Tryd.prog 45 #[.int .u8 32, .int .i64 5, .int .u32 least] v (MadeB v Y))) (HNe : Hid (Y ≠ [])) (HO : Hid (OutB B L oa oc out w)) (HB : Hid (B ≤ w.heap.size ∧ ∀ k ∈ L, k < w.heap.size)) (HZ : Hid (Z = out ++ Y)) (HLn : Hid (Z.length ≤ 140737488355328)) (HN : Hid (on = out.length)) (q2 : w.cell? ⟨g, 2, none⟩ = some (.int .i64 least)) (hu : IntKind.u32.wrap (least : Int) = least)
    (ha : Fr.Is 155 [(0, .pointer (some ⟨g, 0, none⟩)), (1, .slice la ln lcap), (5, .slice oa on oc), (6, .int .i64 m)] a)
    (hQ : Hid (∀ (oa' : Option Addr) (oc' : Nat) (w' : World) a', Fr.Is 155 [(0, .pointer (some ⟨g, 0, none⟩)), (1, .slice la ln lcap), (5, .slice oa' Z.length oc'), (6, .int .i64 m)] a' → Grew B L w oa oa' oc' Z w' → Q .normal a' w')) :
    (Fr.reg Tryd.f23 4).wp Tryd.prog Q a w := by
  obtain ⟨fr, rfl, hfr⟩ := ha.lit
  simp only [List.map_cons, List.map_nil, List.cons.injEq, and_true] at hfr
  conv => arg 2; whnf
  simp only [List.range, List.range.loop, List.map_cons, List.map_nil, hfr]
  clear hfr ha
  go_wp2_with fail
  refine (HP.out _).mono ?_; rintro e w1 ⟨ad, cp, rfl, hown, b1⟩
  have HR : Hid (RB w1 ad Y) := Lib.hid (RB.of_own hown.out)
  have HO1 := Lib.hid (HO.out.below b1)
  have HB1 := Lib.hid (show B ≤ w1.heap.size ∧ ∀ k ∈ L, k < w1.heap.size from ⟨Nat.le_trans HB.out.1 b1.size, fun k hk => Nat.lt_of_lt_of_le (HB.out.2 k hk) b1.size⟩)
  have HBe := Lib.hid b1
  have hinfo := Lib.hid info_u8
  clear hown b1
  go_wp2_with (at_builtin; refine wl_bytes Tryd.underlying24 hinfo.out rfl (.tmp 35) (.tmp 41) rfl rfl HN.out HO1.out HB1.out.1 HB1.out.2 rfl rfl HNe.out HR.out Z HZ.out HLn.out ?_; intro oa' oc' w' hG)
  exact hQ.out _ _ _ _ (Fr.Is.mk rfl rfl) (hG.out.after HBe.out)

set_option maxRecDepth 100000 in
set_option maxHeartbeats 1000000 in
theorem enc_r5 {Q : Exit → Act → World → Prop} {g ln lcap : Nat} {la : Option Addr} {on oc : Nat} {oa : Option Addr} {m : Nat} {B : Nat} {L : List Nat} {out Y Z : List UInt8}  (a : Act) (w : World) (HP : Hid (∀ v, Calls Tryd.prog 45 #[.int .u8 32, .int .i64 5, .int .u32 m] v (MadeB v Y))) (HNe : Hid (Y ≠ [])) (HO : Hid (OutB B L oa oc out w)) (HB : Hid (B ≤ w.heap.size ∧ ∀ k ∈ L, k < w.heap.size)) (HZ : Hid (Z = out ++ Y)) (HLn : Hid (Z.length ≤ 140737488355328)) (HN : Hid (on = out.length)) (hu : IntKind.u32.wrap (m : Int) = m)
    (ha : Fr.Is 155 [(0, .pointer (some ⟨g, 0, none⟩)), (1, .slice la ln lcap), (5, .slice oa on oc), (6, .int .i64 m)] a)
    (hQ : Hid (∀ (oa' : Option Addr) (oc' : Nat) (w' : World) a', Fr.Is 155 [(0, .pointer (some ⟨g, 0, none⟩)), (1, .slice la ln lcap), (5, .slice oa' Z.length oc'), (6, .int .i64 m)] a' → Grew B L w oa oa' oc' Z w' → Q .normal a' w')) :
    (Fr.reg Tryd.f23 5).wp Tryd.prog Q a w := by
  obtain ⟨fr, rfl, hfr⟩ := ha.lit
  simp only [List.map_cons, List.map_nil, List.cons.injEq, and_true] at hfr
  conv => arg 2; whnf
  simp only [List.range, List.range.loop, List.map_cons, List.map_nil, hfr]
  clear hfr ha
  go_wp2_with fail
  refine (HP.out _).mono ?_; rintro e w1 ⟨ad, cp, rfl, hown, b1⟩
  have HR : Hid (RB w1 ad Y) := Lib.hid (RB.of_own hown.out)
  have HO1 := Lib.hid (HO.out.below b1)
  have HB1 := Lib.hid (show B ≤ w1.heap.size ∧ ∀ k ∈ L, k < w1.heap.size from ⟨Nat.le_trans HB.out.1 b1.size, fun k hk => Nat.lt_of_lt_of_le (HB.out.2 k hk) b1.size⟩)
  have HBe := Lib.hid b1
  have hinfo := Lib.hid info_u8
  clear hown b1
  go_wp2_with (at_builtin; refine wl_bytes Tryd.underlying24 hinfo.out rfl (.tmp 43) (.tmp 46) rfl rfl HN.out HO1.out HB1.out.1 HB1.out.2 rfl rfl HNe.out HR.out Z HZ.out HLn.out ?_; intro oa' oc' w' hG)
  exact hQ.out _ _ _ _ (Fr.Is.mk rfl rfl) (hG.out.after HBe.out)

set_option maxRecDepth 100000 in
set_option maxHeartbeats 1000000 in
theorem enc_r7 {Q : Exit → Act → World → Prop} {g ln lcap : Nat} {la : Option Addr} {on oc : Nat} {oa : Option Addr} {m : Nat} {B : Nat} {L : List Nat} {out Y Z : List UInt8}  (a : Act) (w : World) (HP : Hid (∀ v, Calls Tryd.prog 45 #[.int .u8 32, .int .i64 5, .int .u32 m] v (MadeB v Y))) (HNe : Hid (Y ≠ [])) (HO : Hid (OutB B L oa oc out w)) (HB : Hid (B ≤ w.heap.size ∧ ∀ k ∈ L, k < w.heap.size)) (HZ : Hid (Z = out ++ Y)) (HLn : Hid (Z.length ≤ 140737488355328)) (HN : Hid (on = out.length)) (hu : IntKind.u32.wrap (m : Int) = m)
    (ha : Fr.Is 155 [(0, .pointer (some ⟨g, 0, none⟩)), (1, .slice la ln lcap), (5, .slice oa on oc), (6, .int .i64 m)] a)
    (hQ : Hid (∀ (oa' : Option Addr) (oc' : Nat) (w' : World) a', Fr.Is 155 [(0, .pointer (some ⟨g, 0, none⟩)), (1, .slice la ln lcap), (5, .slice oa' Z.length oc'), (6, .int .i64 m)] a' → Grew B L w oa oa' oc' Z w' → Q .normal a' w')) :
    (Fr.reg Tryd.f23 7).wp Tryd.prog Q a w := by
  obtain ⟨fr, rfl, hfr⟩ := ha.lit
  simp only [List.map_cons, List.map_nil, List.cons.injEq, and_true] at hfr
  conv => arg 2; whnf
  simp only [List.range, List.range.loop, List.map_cons, List.map_nil, hfr]
  clear hfr ha
  go_wp2_with fail
  refine (HP.out _).mono ?_; rintro e w1 ⟨ad, cp, rfl, hown, b1⟩
  have HR : Hid (RB w1 ad Y) := Lib.hid (RB.of_own hown.out)
  have HO1 := Lib.hid (HO.out.below b1)
  have HB1 := Lib.hid (show B ≤ w1.heap.size ∧ ∀ k ∈ L, k < w1.heap.size from ⟨Nat.le_trans HB.out.1 b1.size, fun k hk => Nat.lt_of_lt_of_le (HB.out.2 k hk) b1.size⟩)
  have HBe := Lib.hid b1
  have hinfo := Lib.hid info_u8
  clear hown b1
  go_wp2_with (at_builtin; refine wl_bytes Tryd.underlying24 hinfo.out rfl (.tmp 54) (.tmp 57) rfl rfl HN.out HO1.out HB1.out.1 HB1.out.2 rfl rfl HNe.out HR.out Z HZ.out HLn.out ?_; intro oa' oc' w' hG)
  exact hQ.out _ _ _ _ (Fr.Is.mk rfl rfl) (hG.out.after HBe.out)

set_option maxRecDepth 100000 in
set_option maxHeartbeats 1000000 in
theorem enc_r10 {Q : Exit → Act → World → Prop} {g ln lcap : Nat} {la : Option Addr} {on oc : Nat} {oa : Option Addr} {m : Nat} (a : Act) (w : World) 
    (ha : Fr.Is 155 [(0, .pointer (some ⟨g, 0, none⟩)), (1, .slice la ln lcap), (5, .slice oa on oc), (6, .int .i64 m)] a)
    (hQ : Hid (∀ a', Fr.Is 155 [(0, .pointer (some ⟨g, 0, none⟩)), (1, .slice la ln lcap), (5, .slice oa on oc), (6, .int .i64 m), (7, .int .i64 (0 : Nat))] a' → Q .normal a' w)) :
    (Fr.reg Tryd.f23 10).wp Tryd.prog Q a w := by
  obtain ⟨fr, rfl, hfr⟩ := ha.lit
  simp only [List.map_cons, List.map_nil, List.cons.injEq, and_true] at hfr
  conv => arg 2; whnf
  simp only [List.range, List.range.loop, List.map_cons, List.map_nil, hfr]
  clear hfr ha
  go_wp2_with fail
  exact hQ.out _ (Fr.Is.mk rfl rfl)

set_option maxRecDepth 100000 in
set_option maxHeartbeats 1000000 in
theorem enc_r11 {Q : Exit → Act → World → Prop} {g ln lcap : Nat} {la : Option Addr} {on oc : Nat} {oa : Option Addr} {m : Nat} {i : Nat} (a : Act) (w : World) (bo : Bool) (hbo : bo = true ↔ i < ln)
    (ha : Fr.Is 155 [(0, .pointer (some ⟨g, 0, none⟩)), (1, .slice la ln lcap), (5, .slice oa on oc), (6, .int .i64 m), (7, .int .i64 i)] a)
    (hQ : Hid (∀ a', Fr.Is 155 [(0, .pointer (some ⟨g, 0, none⟩)), (1, .slice la ln lcap), (5, .slice oa on oc), (6, .int .i64 m), (7, .int .i64 i), (70, .bool bo)] a' → Q .normal a' w)) :
    (Fr.reg Tryd.f23 11).wp Tryd.prog Q a w := by
  obtain ⟨fr, rfl, hfr⟩ := ha.lit
  simp only [List.map_cons, List.map_nil, List.cons.injEq, and_true] at hfr
  conv => arg 2; whnf
  simp only [List.range, List.range.loop, List.map_cons, List.map_nil, hfr]
  clear hfr ha
  by_cases h1 : i < ln
  · obtain rfl : bo = true := hbo.mpr h1
    have h2 : (i : Int) < ln := by omega
    clear hbo
    go_wp2_with fail
    all_goals first | omega | exact hQ.out _ (Fr.Is.mk rfl rfl)
  · obtain rfl : bo = false := by cases bo with | true => exact absurd (hbo.mp rfl) h1 | false => rfl
    have h2 : ¬ (i : Int) < ln := by omega
    clear hbo
    go_wp2_with fail
    all_goals first | omega | exact hQ.out _ (Fr.Is.mk rfl rfl)

set_option maxRecDepth 100000 in
set_option maxHeartbeats 1000000 in
theorem enc_r12 {Q : Exit → Act → World → Prop} {g ln lcap : Nat} {la : Option Addr} {on oc : Nat} {oa : Option Addr} {m : Nat} {i : Nat} (a : Act) (w : World) (hi : i ≤ 1000000000000)
    (ha : Fr.Is 155 [(0, .pointer (some ⟨g, 0, none⟩)), (1, .slice la ln lcap), (5, .slice oa on oc), (6, .int .i64 m), (7, .int .i64 i)] a)
    (hQ : Hid (∀ a', Fr.Is 155 [(0, .pointer (some ⟨g, 0, none⟩)), (1, .slice la ln lcap), (5, .slice oa on oc), (6, .int .i64 m), (7, .int .i64 ((i : Int) + 1))] a' → Q .normal a' w)) :
    (Fr.reg Tryd.f23 12).wp Tryd.prog Q a w := by
  obtain ⟨fr, rfl, hfr⟩ := ha.lit
  simp only [List.map_cons, List.map_nil, List.cons.injEq, and_true] at hfr
  conv => arg 2; whnf
  simp only [List.range, List.range.loop, List.map_cons, List.map_nil, hfr]
  clear hfr ha
  go_wp2_with fail
  exact hQ.out _ (Fr.Is.mk rfl rfl)

set_option maxRecDepth 100000 in
set_option maxHeartbeats 1000000 in
theorem enc_r13 {Q : Exit → Act → World → Prop} {g ln lcap : Nat} {la : Option Addr} {lb off : Nat} {fn fv : ByteArray} {fb : Bool} {on oc : Nat} {oa : Option Addr} {m : Nat} {i : Nat} (a : Act) (w : World) (hi : i < ln) (d0 : w.cell? ⟨lb, off + i * 3, none⟩ = some (.string fn)) (d1 : w.cell? ⟨lb, off + i * 3 + 1, none⟩ = some (.string fv)) (d2 : w.cell? ⟨lb, off + i * 3 + 2, none⟩ = some (.bool fb))
    (ha : Fr.Is 155 [(0, .pointer (some ⟨g, 0, none⟩)), (1, .slice (some ⟨lb, off, none⟩) ln lcap), (5, .slice oa on oc), (6, .int .i64 m), (7, .int .i64 i)] a)
    (hQ : Hid (∀ a', Fr.Is 155 [(0, .pointer (some ⟨g, 0, none⟩)), (1, .slice (some ⟨lb, off, none⟩) ln lcap), (5, .slice oa on oc), (6, .int .i64 m), (7, .int .i64 i), (8, .pointer (some ⟨w.heap.size, 0, none⟩))] a' → Q .normal a' (w.alloc (.cells #[.string fn, .string fv, .bool fb] 59)))) :
    (Fr.reg Tryd.f23 13).wp Tryd.prog Q a w := by
  obtain ⟨fr, rfl, hfr⟩ := ha.lit
  simp only [List.map_cons, List.map_nil, List.cons.injEq, and_true] at hfr
  conv => arg 2; whnf
  simp only [List.range, List.range.loop, List.map_cons, List.map_nil, hfr]
  clear hfr ha
  have hi' : (i : Int) < ln := by omega
  go_wp2_with fail
  exact hQ.out _ (Fr.Is.mk rfl rfl)

set_option maxRecDepth 100000 in
set_option maxHeartbeats 1000000 in
theorem enc_r14 {Q : Exit → Act → World → Prop} {g ln lcap : Nat} {la : Option Addr} {on oc : Nat} {oa : Option Addr} {m : Nat} {i : Nat} {bx : Nat} {fn fv : ByteArray} {fb : Bool} {k : Nat} {bo : Bool} (a : Act) (w : World) (q0 : w.cell? ⟨bx, 0, none⟩ = some (.string fn)) (q1 : w.cell? ⟨bx, 1, none⟩ = some (.string fv)) (q2 : w.cell? ⟨bx, 2, none⟩ = some (.bool fb)) (HF : Hid (∀ v, Below w.heap.size w v → Calls Tryd.prog 46 #[.pointer (some ⟨g, 3, none⟩), .agg #[.string fn, .string fv, .bool fb]] v fun e w' => e = .returned (.tuple #[.int .i64 k, .bool bo]) ∧ Below v.heap.size v w'))
    (ha : Fr.Is 155 [(0, .pointer (some ⟨g, 0, none⟩)), (1, .slice la ln lcap), (5, .slice oa on oc), (6, .int .i64 m), (7, .int .i64 i), (8, .pointer (some ⟨bx, 0, none⟩))] a)
    (hQ : Hid (∀ w' a', Fr.Is 155 [(0, .pointer (some ⟨g, 0, none⟩)), (1, .slice la ln lcap), (5, .slice oa on oc), (6, .int .i64 m), (7, .int .i64 i), (8, .pointer (some ⟨bx, 0, none⟩)), (9, .int .i64 k), (10, .bool bo)] a' → Below w.heap.size w w' → Q .normal a' w')) :
    (Fr.reg Tryd.f23 14).wp Tryd.prog Q a w := by
  obtain ⟨fr, rfl, hfr⟩ := ha.lit
  simp only [List.map_cons, List.map_nil, List.cons.injEq, and_true] at hfr
  conv => arg 2; whnf
  simp only [List.range, List.range.loop, List.map_cons, List.map_nil, hfr]
  clear hfr ha
  have hb0 : Below w.heap.size w w.drew := (Below.refl _ _).drew
  go_region_held3 (fun v => v.cell? ⟨bx, 0, none⟩ = some (.string fn) ∧ v.cell? ⟨bx, 1, none⟩ = some (.string fv) ∧ v.cell? ⟨bx, 2, none⟩ = some (.bool fb))
    (first | go_keep | exact ⟨q0, q1, q2⟩ | exact ⟨below_cell hb0 q0, below_cell hb0 q1, below_cell hb0 q2⟩)
    ((go_at_call 46; refine (HF.out _ hb0).mono ?_; rintro e w2 ⟨rfl, b2⟩; replace hb0 := below_step hb0 b2))
  all_goals exact hQ.out _ _ (Fr.Is.mk rfl rfl) hb0

set_option maxRecDepth 100000 in
set_option maxHeartbeats 1000000 in
theorem enc_r15 {Q : Exit → Act → World → Prop} {g ln lcap : Nat} {la : Option Addr} {on oc : Nat} {oa : Option Addr} {m : Nat} {i : Nat} {bx : Nat} {fn fv : ByteArray} {fb : Bool} {k : Nat} {bo : Bool} (a : Act) (w : World) (q0 : w.cell? ⟨bx, 0, none⟩ = some (.string fn)) (q1 : w.cell? ⟨bx, 1, none⟩ = some (.string fv)) (q2 : w.cell? ⟨bx, 2, none⟩ = some (.bool fb)) (nv : Bool) (hnv : nv = (fb || secN fn))
    (ha : Fr.Is 155 [(0, .pointer (some ⟨g, 0, none⟩)), (1, .slice la ln lcap), (5, .slice oa on oc), (6, .int .i64 m), (7, .int .i64 i), (8, .pointer (some ⟨bx, 0, none⟩)), (9, .int .i64 k), (10, .bool bo)] a)
    (hQ : Hid (∀ a', Fr.Is 155 [(0, .pointer (some ⟨g, 0, none⟩)), (1, .slice la ln lcap), (5, .slice oa on oc), (6, .int .i64 m), (7, .int .i64 i), (8, .pointer (some ⟨bx, 0, none⟩)), (9, .int .i64 k), (10, .bool bo), (11, .bool nv)] a' → Q .normal a' w)) :
    (Fr.reg Tryd.f23 15).wp Tryd.prog Q a w := by
  obtain ⟨fr, rfl, hfr⟩ := ha.lit
  simp only [List.map_cons, List.map_nil, List.cons.injEq, and_true] at hfr
  conv => arg 2; whnf
  simp only [List.range, List.range.loop, List.map_cons, List.map_nil, hfr]
  clear hfr ha
  subst hnv
  cases fb with
  | true =>
    go_wp2_with fail
    exact hQ.out _ (Fr.Is.mk rfl rfl)
  | false =>
    by_cases h1 : fn = ⟨#[97, 117, 116, 104, 111, 114, 105, 122, 97, 116, 105, 111, 110]⟩
    · have h1b : fn.toList = [97, 117, 116, 104, 111, 114, 105, 122, 97, 116, 105, 111, 110] := (tl_iff fn _ _ rfl).mpr h1
      have hs : secN fn = true := by simp [secN, h1]
      rw [hs] at hQ
      clear hs h1
      go_wp2_with fail
      exact hQ.out _ (Fr.Is.mk rfl rfl)
    · have h1b : ¬ fn.toList = [97, 117, 116, 104, 111, 114, 105, 122, 97, 116, 105, 111, 110] := fun e => h1 ((tl_iff fn _ _ rfl).mp e)
      have e1 : (fn.toList == [97, 117, 116, 104, 111, 114, 105, 122, 97, 116, 105, 111, 110]) = false := beq_eq_false_iff_ne.mpr h1b
      by_cases h2 : fn = ⟨#[115, 101, 116, 45, 99, 111, 111, 107, 105, 101]⟩
      · have h2b : fn.toList = [115, 101, 116, 45, 99, 111, 111, 107, 105, 101] := (tl_iff fn _ _ rfl).mpr h2
        have hs : secN fn = true := by simp [secN, h2]
        rw [hs] at hQ
        clear hs h1 h2
        go_wp2_with fail
        exact hQ.out _ (Fr.Is.mk rfl rfl)
      · have h2b : ¬ fn.toList = [115, 101, 116, 45, 99, 111, 111, 107, 105, 101] := fun e => h2 ((tl_iff fn _ _ rfl).mp e)
        have e2 : (fn.toList == [115, 101, 116, 45, 99, 111, 111, 107, 105, 101]) = false := beq_eq_false_iff_ne.mpr h2b
        have hs : secN fn = false := by simp [secN, h1, h2]
        rw [hs] at hQ
        clear hs h1 h2
        go_wp2_with fail
        exact hQ.out _ (Fr.Is.mk rfl rfl)

set_option maxRecDepth 100000 in
set_option maxHeartbeats 1000000 in
theorem enc_r16 {Q : Exit → Act → World → Prop} {g ln lcap : Nat} {la : Option Addr} {on oc : Nat} {oa : Option Addr} {m : Nat} {i : Nat} {bx : Nat} {k : Nat} {bo nv : Bool} (a : Act) (w : World) 
    (ha : Fr.Is 155 [(0, .pointer (some ⟨g, 0, none⟩)), (1, .slice la ln lcap), (5, .slice oa on oc), (6, .int .i64 m), (7, .int .i64 i), (8, .pointer (some ⟨bx, 0, none⟩)), (9, .int .i64 k), (10, .bool bo), (11, .bool nv)] a)
    (hQ : Hid (∀ a', Fr.Is 155 [(0, .pointer (some ⟨g, 0, none⟩)), (1, .slice la ln lcap), (5, .slice oa on oc), (6, .int .i64 m), (7, .int .i64 i), (8, .pointer (some ⟨bx, 0, none⟩)), (9, .int .i64 k), (10, .bool bo), (11, .bool nv), (101, .bool (bo && !nv))] a' → Q .normal a' w)) :
    (Fr.reg Tryd.f23 16).wp Tryd.prog Q a w := by
  obtain ⟨fr, rfl, hfr⟩ := ha.lit
  simp only [List.map_cons, List.map_nil, List.cons.injEq, and_true] at hfr
  conv => arg 2; whnf
  simp only [List.range, List.range.loop, List.map_cons, List.map_nil, hfr]
  clear hfr ha
  cases bo <;> cases nv <;> (go_wp2_with fail; exact hQ.out _ (Fr.Is.mk rfl rfl))

set_option maxRecDepth 100000 in
set_option maxHeartbeats 1000000 in
theorem enc_r17 {Q : Exit → Act → World → Prop} {g ln lcap : Nat} {la : Option Addr} {on oc : Nat} {oa : Option Addr} {m : Nat} {B : Nat} {L : List Nat} {out Y Z : List UInt8} {i k bx : Nat} {bo nv : Bool} (a : Act) (w : World) (HP : Hid (∀ v, Calls Tryd.prog 45 #[.int .u8 128, .int .i64 7, .int .u32 k] v (MadeB v Y))) (HNe : Hid (Y ≠ [])) (HO : Hid (OutB B L oa oc out w)) (HB : Hid (B ≤ w.heap.size ∧ ∀ k ∈ L, k < w.heap.size)) (HZ : Hid (Z = out ++ Y)) (HLn : Hid (Z.length ≤ 140737488355328)) (HN : Hid (on = out.length)) (hu : IntKind.u32.wrap (k : Int) = k)
    (ha : Fr.Is 155 [(0, .pointer (some ⟨g, 0, none⟩)), (1, .slice la ln lcap), (5, .slice oa on oc), (6, .int .i64 m), (7, .int .i64 i), (8, .pointer (some ⟨bx, 0, none⟩)), (9, .int .i64 k), (10, .bool bo), (11, .bool nv)] a)
    (hQ : Hid (∀ (oa' : Option Addr) (oc' : Nat) (w' : World) a', Fr.Is 155 [(0, .pointer (some ⟨g, 0, none⟩)), (1, .slice la ln lcap), (5, .slice oa' Z.length oc'), (6, .int .i64 m), (7, .int .i64 i), (8, .pointer (some ⟨bx, 0, none⟩)), (9, .int .i64 k), (10, .bool bo), (11, .bool nv)] a' → Grew B L w oa oa' oc' Z w' → Q .normal a' w')) :
    (Fr.reg Tryd.f23 17).wp Tryd.prog Q a w := by
  obtain ⟨fr, rfl, hfr⟩ := ha.lit
  simp only [List.map_cons, List.map_nil, List.cons.injEq, and_true] at hfr
  conv => arg 2; whnf
  simp only [List.range, List.range.loop, List.map_cons, List.map_nil, hfr]
  clear hfr ha
  go_wp2_with fail
  refine (HP.out _).mono ?_; rintro e w1 ⟨ad, cp, rfl, hown, b1⟩
  have HR : Hid (RB w1 ad Y) := Lib.hid (RB.of_own hown.out)
  have HO1 := Lib.hid (HO.out.below b1)
  have HB1 := Lib.hid (show B ≤ w1.heap.size ∧ ∀ k ∈ L, k < w1.heap.size from ⟨Nat.le_trans HB.out.1 b1.size, fun k hk => Nat.lt_of_lt_of_le (HB.out.2 k hk) b1.size⟩)
  have HBe := Lib.hid b1
  have hinfo := Lib.hid info_u8
  clear hown b1
  go_wp2_with (at_builtin; refine wl_bytes Tryd.underlying24 hinfo.out rfl (.tmp 102) (.tmp 105) rfl rfl HN.out HO1.out HB1.out.1 HB1.out.2 rfl rfl HNe.out HR.out Z HZ.out HLn.out ?_; intro oa' oc' w' hG)
  exact hQ.out _ _ _ _ (Fr.Is.mk rfl rfl) (hG.out.after HBe.out)

set_option maxRecDepth 100000 in
set_option maxHeartbeats 1000000 in
theorem enc_r18n {Q : Exit → Act → World → Prop} {g ln lcap : Nat} {la : Option Addr} {on oc : Nat} {oa : Option Addr} {m : Nat} {i : Nat} {bx : Nat} {k : Nat} {bo : Bool} (a : Act) (w : World) 
    (ha : Fr.Is 155 [(0, .pointer (some ⟨g, 0, none⟩)), (1, .slice la ln lcap), (5, .slice oa on oc), (6, .int .i64 m), (7, .int .i64 i), (8, .pointer (some ⟨bx, 0, none⟩)), (9, .int .i64 k), (10, .bool bo), (11, .bool true)] a)
    (hQ : Hid (∀ nq a', Fr.Is 155 [(0, .pointer (some ⟨g, 0, none⟩)), (1, .slice la ln lcap), (5, .slice oa on oc), (6, .int .i64 m), (7, .int .i64 i), (8, .pointer (some ⟨bx, 0, none⟩)), (9, .int .i64 k), (10, .bool bo), (11, .bool true), (12, .bool false)] a' → Q .normal a' (w.drewN nq))) :
    (Fr.reg Tryd.f23 18).wp Tryd.prog Q a w := by
  obtain ⟨fr, rfl, hfr⟩ := ha.lit
  simp only [List.map_cons, List.map_nil, List.cons.injEq, and_true] at hfr
  conv => arg 2; whnf
  simp only [List.range, List.range.loop, List.map_cons, List.map_nil, hfr]
  clear hfr ha
  refine wp_region_noPanic ?_; go_quiet (fail)
  exact hQ.out _ _ (Fr.Is.mk rfl rfl)

set_option maxRecDepth 100000 in
set_option maxHeartbeats 1000000 in
theorem enc_r18y {Q : Exit → Act → World → Prop} {g ln lcap : Nat} {la : Option Addr} {on oc : Nat} {oa : Option Addr} {m : Nat} {i : Nat} {bx : Nat} {fn fv : ByteArray} {fb : Bool} {k : Nat} {bo : Bool} {cf : Nat} (a : Act) (w : World) (q0 : w.cell? ⟨bx, 0, none⟩ = some (.string fn)) (q1 : w.cell? ⟨bx, 1, none⟩ = some (.string fv)) (q2 : w.cell? ⟨bx, 2, none⟩ = some (.bool fb)) (q3 : w.cell? ⟨g, 3, none⟩ = some (.int .i64 m)) (HC : Hid (∀ v, Calls Tryd.prog 39 #[.agg #[.string fn, .string fv, .bool fb]] v fun e w' => e = .returned (.int .i64 cf) ∧ Below v.heap.size v w')) (cm : Bool) (hcm : cm = true ↔ cf ≤ m)
    (ha : Fr.Is 155 [(0, .pointer (some ⟨g, 0, none⟩)), (1, .slice la ln lcap), (5, .slice oa on oc), (6, .int .i64 m), (7, .int .i64 i), (8, .pointer (some ⟨bx, 0, none⟩)), (9, .int .i64 k), (10, .bool bo), (11, .bool false)] a)
    (hQ : Hid (∀ w' a', Fr.Is 155 [(0, .pointer (some ⟨g, 0, none⟩)), (1, .slice la ln lcap), (5, .slice oa on oc), (6, .int .i64 m), (7, .int .i64 i), (8, .pointer (some ⟨bx, 0, none⟩)), (9, .int .i64 k), (10, .bool bo), (11, .bool false), (12, .bool cm)] a' → Below w.heap.size w w' → Q .normal a' w')) :
    (Fr.reg Tryd.f23 18).wp Tryd.prog Q a w := by
  obtain ⟨fr, rfl, hfr⟩ := ha.lit
  simp only [List.map_cons, List.map_nil, List.cons.injEq, and_true] at hfr
  conv => arg 2; whnf
  simp only [List.range, List.range.loop, List.map_cons, List.map_nil, hfr]
  clear hfr ha
  have hb0 : Below w.heap.size w w.drew := (Below.refl _ _).drew
  by_cases h1 : cf ≤ m
  · obtain rfl : cm = true := hcm.mpr h1
    have h2 : (cf : Int) ≤ m := by omega
    clear hcm
    go_region_held3 (fun v => v.cell? ⟨bx, 0, none⟩ = some (.string fn) ∧ v.cell? ⟨bx, 1, none⟩ = some (.string fv) ∧ v.cell? ⟨bx, 2, none⟩ = some (.bool fb) ∧ v.cell? ⟨g, 3, none⟩ = some (.int .i64 m))
      (first | go_keep | exact ⟨q0, q1, q2, q3⟩ | exact ⟨below_cell hb0 q0, below_cell hb0 q1, below_cell hb0 q2, below_cell hb0 q3⟩)
      ((go_at_call 39; refine (HC.out _).mono ?_; rintro e w2 ⟨rfl, b2⟩; replace hb0 := below_step hb0 b2))
    all_goals exact hQ.out _ _ (Fr.Is.mk rfl rfl) hb0
  · obtain rfl : cm = false := by cases cm with | true => exact absurd (hcm.mp rfl) h1 | false => rfl
    have h2 : ¬ (cf : Int) ≤ m := by omega
    clear hcm
    go_region_held3 (fun v => v.cell? ⟨bx, 0, none⟩ = some (.string fn) ∧ v.cell? ⟨bx, 1, none⟩ = some (.string fv) ∧ v.cell? ⟨bx, 2, none⟩ = some (.bool fb) ∧ v.cell? ⟨g, 3, none⟩ = some (.int .i64 m))
      (first | go_keep | exact ⟨q0, q1, q2, q3⟩ | exact ⟨below_cell hb0 q0, below_cell hb0 q1, below_cell hb0 q2, below_cell hb0 q3⟩)
      ((go_at_call 39; refine (HC.out _).mono ?_; rintro e w2 ⟨rfl, b2⟩; replace hb0 := below_step hb0 b2))
    all_goals exact hQ.out _ _ (Fr.Is.mk rfl rfl) hb0

set_option maxRecDepth 100000 in
set_option maxHeartbeats 1000000 in
theorem enc_r19 {Q : Exit → Act → World → Prop} {g ln lcap : Nat} {la : Option Addr} {on oc : Nat} {oa : Option Addr} {m : Nat} {i : Nat} {bx : Nat} {k : Nat} {bo nv : Bool} {cm : Bool} (a : Act) (w : World) 
    (ha : Fr.Is 155 [(0, .pointer (some ⟨g, 0, none⟩)), (1, .slice la ln lcap), (5, .slice oa on oc), (6, .int .i64 m), (7, .int .i64 i), (8, .pointer (some ⟨bx, 0, none⟩)), (9, .int .i64 k), (10, .bool bo), (11, .bool nv), (12, .bool cm)] a)
    (hQ : Hid (∀ a', Fr.Is 155 [(0, .pointer (some ⟨g, 0, none⟩)), (1, .slice la ln lcap), (5, .slice oa on oc), (6, .int .i64 m), (7, .int .i64 i), (8, .pointer (some ⟨bx, 0, none⟩)), (9, .int .i64 k), (10, .bool bo), (11, .bool nv), (12, .bool cm), (119, .bool cm)] a' → Q .normal a' w)) :
    (Fr.reg Tryd.f23 19).wp Tryd.prog Q a w := by
  obtain ⟨fr, rfl, hfr⟩ := ha.lit
  simp only [List.map_cons, List.map_nil, List.cons.injEq, and_true] at hfr
  conv => arg 2; whnf
  simp only [List.range, List.range.loop, List.map_cons, List.map_nil, hfr]
  clear hfr ha
  go_wp2_with fail
  exact hQ.out _ (Fr.Is.mk rfl rfl)

set_option maxRecDepth 100000 in
set_option maxHeartbeats 1000000 in
theorem enc_r21 {Q : Exit → Act → World → Prop} {g ln lcap : Nat} {la : Option Addr} {on oc : Nat} {oa : Option Addr} {m : Nat} {i : Nat} {bx : Nat} {k : Nat} {bo nv : Bool} {cm : Bool} (a : Act) (w : World) 
    (ha : Fr.Is 155 [(0, .pointer (some ⟨g, 0, none⟩)), (1, .slice la ln lcap), (5, .slice oa on oc), (6, .int .i64 m), (7, .int .i64 i), (8, .pointer (some ⟨bx, 0, none⟩)), (9, .int .i64 k), (10, .bool bo), (11, .bool nv), (12, .bool cm)] a)
    (hQ : Hid (∀ a', Fr.Is 155 [(0, .pointer (some ⟨g, 0, none⟩)), (1, .slice la ln lcap), (5, .slice oa on oc), (6, .int .i64 m), (7, .int .i64 i), (8, .pointer (some ⟨bx, 0, none⟩)), (9, .int .i64 k), (10, .bool bo), (11, .bool nv), (12, .bool cm), (125, .bool nv)] a' → Q .normal a' w)) :
    (Fr.reg Tryd.f23 21).wp Tryd.prog Q a w := by
  obtain ⟨fr, rfl, hfr⟩ := ha.lit
  simp only [List.map_cons, List.map_nil, List.cons.injEq, and_true] at hfr
  conv => arg 2; whnf
  simp only [List.range, List.range.loop, List.map_cons, List.map_nil, hfr]
  clear hfr ha
  go_wp2_with fail
  exact hQ.out _ (Fr.Is.mk rfl rfl)

set_option maxRecDepth 100000 in
set_option maxHeartbeats 1000000 in
theorem enc_r20 {Q : Exit → Act → World → Prop} {g ln lcap : Nat} {la : Option Addr} {on oc : Nat} {oa : Option Addr} {m : Nat} {B : Nat} {L : List Nat} {out Y Z : List UInt8} {i k bx : Nat} {bo nv cm : Bool} (a : Act) (w : World) (HP : Hid (∀ v, Calls Tryd.prog 45 #[.int .u8 64, .int .i64 6, .int .u32 k] v (MadeB v Y))) (HNe : Hid (Y ≠ [])) (HO : Hid (OutB B L oa oc out w)) (HB : Hid (B ≤ w.heap.size ∧ ∀ k ∈ L, k < w.heap.size)) (HZ : Hid (Z = out ++ Y)) (HLn : Hid (Z.length ≤ 140737488355328)) (HN : Hid (on = out.length)) (hu : IntKind.u32.wrap (k : Int) = k)
    (ha : Fr.Is 155 [(0, .pointer (some ⟨g, 0, none⟩)), (1, .slice la ln lcap), (5, .slice oa on oc), (6, .int .i64 m), (7, .int .i64 i), (8, .pointer (some ⟨bx, 0, none⟩)), (9, .int .i64 k), (10, .bool bo), (11, .bool nv), (12, .bool cm)] a)
    (hQ : Hid (∀ (oa' : Option Addr) (oc' : Nat) (w' : World) a', Fr.Is 155 [(0, .pointer (some ⟨g, 0, none⟩)), (1, .slice la ln lcap), (5, .slice oa' Z.length oc'), (6, .int .i64 m), (7, .int .i64 i), (8, .pointer (some ⟨bx, 0, none⟩)), (9, .int .i64 k), (10, .bool bo), (11, .bool nv), (12, .bool cm)] a' → Grew B L w oa oa' oc' Z w' → Q .normal a' w')) :
    (Fr.reg Tryd.f23 20).wp Tryd.prog Q a w := by
  obtain ⟨fr, rfl, hfr⟩ := ha.lit
  simp only [List.map_cons, List.map_nil, List.cons.injEq, and_true] at hfr
  conv => arg 2; whnf
  simp only [List.range, List.range.loop, List.map_cons, List.map_nil, hfr]
  clear hfr ha
  go_wp2_with fail
  refine (HP.out _).mono ?_; rintro e w1 ⟨ad, cp, rfl, hown, b1⟩
  have HR : Hid (RB w1 ad Y) := Lib.hid (RB.of_own hown.out)
  have HO1 := Lib.hid (HO.out.below b1)
  have HB1 := Lib.hid (show B ≤ w1.heap.size ∧ ∀ k ∈ L, k < w1.heap.size from ⟨Nat.le_trans HB.out.1 b1.size, fun k hk => Nat.lt_of_lt_of_le (HB.out.2 k hk) b1.size⟩)
  have HBe := Lib.hid b1
  have hinfo := Lib.hid info_u8
  clear hown b1
  go_wp2_with (at_builtin; refine wl_bytes Tryd.underlying24 hinfo.out rfl (.tmp 120) (.tmp 123) rfl rfl HN.out HO1.out HB1.out.1 HB1.out.2 rfl rfl HNe.out HR.out Z HZ.out HLn.out ?_; intro oa' oc' w' hG)
  exact hQ.out _ _ _ _ (Fr.Is.mk rfl rfl) (hG.out.after HBe.out)

set_option maxRecDepth 100000 in
set_option maxHeartbeats 1000000 in
theorem enc_r22 {Q : Exit → Act → World → Prop} {g ln lcap : Nat} {la : Option Addr} {on oc : Nat} {oa : Option Addr} {m : Nat} {B : Nat} {L : List Nat} {out Y Z : List UInt8} {i k bx : Nat} {bo nv cm : Bool} (a : Act) (w : World) (HP : Hid (∀ v, Calls Tryd.prog 45 #[.int .u8 16, .int .i64 4, .int .u32 k] v (MadeB v Y))) (HNe : Hid (Y ≠ [])) (HO : Hid (OutB B L oa oc out w)) (HB : Hid (B ≤ w.heap.size ∧ ∀ k ∈ L, k < w.heap.size)) (HZ : Hid (Z = out ++ Y)) (HLn : Hid (Z.length ≤ 140737488355328)) (HN : Hid (on = out.length)) (hu : IntKind.u32.wrap (k : Int) = k)
    (ha : Fr.Is 155 [(0, .pointer (some ⟨g, 0, none⟩)), (1, .slice la ln lcap), (5, .slice oa on oc), (6, .int .i64 m), (7, .int .i64 i), (8, .pointer (some ⟨bx, 0, none⟩)), (9, .int .i64 k), (10, .bool bo), (11, .bool nv), (12, .bool cm)] a)
    (hQ : Hid (∀ (oa' : Option Addr) (oc' : Nat) (w' : World) a', Fr.Is 155 [(0, .pointer (some ⟨g, 0, none⟩)), (1, .slice la ln lcap), (5, .slice oa' Z.length oc'), (6, .int .i64 m), (7, .int .i64 i), (8, .pointer (some ⟨bx, 0, none⟩)), (9, .int .i64 k), (10, .bool bo), (11, .bool nv), (12, .bool cm)] a' → Grew B L w oa oa' oc' Z w' → Q .normal a' w')) :
    (Fr.reg Tryd.f23 22).wp Tryd.prog Q a w := by
  obtain ⟨fr, rfl, hfr⟩ := ha.lit
  simp only [List.map_cons, List.map_nil, List.cons.injEq, and_true] at hfr
  conv => arg 2; whnf
  simp only [List.range, List.range.loop, List.map_cons, List.map_nil, hfr]
  clear hfr ha
  go_wp2_with fail
  refine (HP.out _).mono ?_; rintro e w1 ⟨ad, cp, rfl, hown, b1⟩
  have HR : Hid (RB w1 ad Y) := Lib.hid (RB.of_own hown.out)
  have HO1 := Lib.hid (HO.out.below b1)
  have HB1 := Lib.hid (show B ≤ w1.heap.size ∧ ∀ k ∈ L, k < w1.heap.size from ⟨Nat.le_trans HB.out.1 b1.size, fun k hk => Nat.lt_of_lt_of_le (HB.out.2 k hk) b1.size⟩)
  have HBe := Lib.hid b1
  have hinfo := Lib.hid info_u8
  clear hown b1
  go_wp2_with (at_builtin; refine wl_bytes Tryd.underlying24 hinfo.out rfl (.tmp 126) (.tmp 129) rfl rfl HN.out HO1.out HB1.out.1 HB1.out.2 rfl rfl HNe.out HR.out Z HZ.out HLn.out ?_; intro oa' oc' w' hG)
  exact hQ.out _ _ _ _ (Fr.Is.mk rfl rfl) (hG.out.after HBe.out)

set_option maxRecDepth 100000 in
set_option maxHeartbeats 1000000 in
theorem enc_r23 {Q : Exit → Act → World → Prop} {g ln lcap : Nat} {la : Option Addr} {on oc : Nat} {oa : Option Addr} {m : Nat} {B : Nat} {L : List Nat} {out Y Z : List UInt8} {i k bx : Nat} {bo nv cm : Bool} (a : Act) (w : World) (HP : Hid (∀ v, Calls Tryd.prog 45 #[.int .u8 0, .int .i64 4, .int .u32 k] v (MadeB v Y))) (HNe : Hid (Y ≠ [])) (HO : Hid (OutB B L oa oc out w)) (HB : Hid (B ≤ w.heap.size ∧ ∀ k ∈ L, k < w.heap.size)) (HZ : Hid (Z = out ++ Y)) (HLn : Hid (Z.length ≤ 140737488355328)) (HN : Hid (on = out.length)) (hu : IntKind.u32.wrap (k : Int) = k)
    (ha : Fr.Is 155 [(0, .pointer (some ⟨g, 0, none⟩)), (1, .slice la ln lcap), (5, .slice oa on oc), (6, .int .i64 m), (7, .int .i64 i), (8, .pointer (some ⟨bx, 0, none⟩)), (9, .int .i64 k), (10, .bool bo), (11, .bool nv), (12, .bool cm)] a)
    (hQ : Hid (∀ (oa' : Option Addr) (oc' : Nat) (w' : World) a', Fr.Is 155 [(0, .pointer (some ⟨g, 0, none⟩)), (1, .slice la ln lcap), (5, .slice oa' Z.length oc'), (6, .int .i64 m), (7, .int .i64 i), (8, .pointer (some ⟨bx, 0, none⟩)), (9, .int .i64 k), (10, .bool bo), (11, .bool nv), (12, .bool cm)] a' → Grew B L w oa oa' oc' Z w' → Q .normal a' w')) :
    (Fr.reg Tryd.f23 23).wp Tryd.prog Q a w := by
  obtain ⟨fr, rfl, hfr⟩ := ha.lit
  simp only [List.map_cons, List.map_nil, List.cons.injEq, and_true] at hfr
  conv => arg 2; whnf
  simp only [List.range, List.range.loop, List.map_cons, List.map_nil, hfr]
  clear hfr ha
  go_wp2_with fail
  refine (HP.out _).mono ?_; rintro e w1 ⟨ad, cp, rfl, hown, b1⟩
  have HR : Hid (RB w1 ad Y) := Lib.hid (RB.of_own hown.out)
  have HO1 := Lib.hid (HO.out.below b1)
  have HB1 := Lib.hid (show B ≤ w1.heap.size ∧ ∀ k ∈ L, k < w1.heap.size from ⟨Nat.le_trans HB.out.1 b1.size, fun k hk => Nat.lt_of_lt_of_le (HB.out.2 k hk) b1.size⟩)
  have HBe := Lib.hid b1
  have hinfo := Lib.hid info_u8
  clear hown b1
  go_wp2_with (at_builtin; refine wl_bytes Tryd.underlying24 hinfo.out rfl (.tmp 131) (.tmp 134) rfl rfl HN.out HO1.out HB1.out.1 HB1.out.2 rfl rfl HNe.out HR.out Z HZ.out HLn.out ?_; intro oa' oc' w' hG)
  exact hQ.out _ _ _ _ (Fr.Is.mk rfl rfl) (hG.out.after HBe.out)

set_option maxRecDepth 100000 in
set_option maxHeartbeats 1000000 in
theorem enc_r24 {Q : Exit → Act → World → Prop} {g ln lcap : Nat} {la : Option Addr} {on oc : Nat} {oa : Option Addr} {m : Nat} {i : Nat} {bx : Nat} {k : Nat} {bo nv : Bool} {cm : Bool} (a : Act) (w : World) (bz : Bool) (hbz : bz = true ↔ k = 0)
    (ha : Fr.Is 155 [(0, .pointer (some ⟨g, 0, none⟩)), (1, .slice la ln lcap), (5, .slice oa on oc), (6, .int .i64 m), (7, .int .i64 i), (8, .pointer (some ⟨bx, 0, none⟩)), (9, .int .i64 k), (10, .bool bo), (11, .bool nv), (12, .bool cm)] a)
    (hQ : Hid (∀ a', Fr.Is 155 [(0, .pointer (some ⟨g, 0, none⟩)), (1, .slice la ln lcap), (5, .slice oa on oc), (6, .int .i64 m), (7, .int .i64 i), (8, .pointer (some ⟨bx, 0, none⟩)), (9, .int .i64 k), (10, .bool bo), (11, .bool nv), (12, .bool cm), (137, .bool bz)] a' → Q .normal a' w)) :
    (Fr.reg Tryd.f23 24).wp Tryd.prog Q a w := by
  obtain ⟨fr, rfl, hfr⟩ := ha.lit
  simp only [List.map_cons, List.map_nil, List.cons.injEq, and_true] at hfr
  conv => arg 2; whnf
  simp only [List.range, List.range.loop, List.map_cons, List.map_nil, hfr]
  clear hfr ha
  by_cases h1 : k = 0
  · obtain rfl : bz = true := hbz.mpr h1
    clear hbz
    subst h1
    go_wp2_with fail
    exact hQ.out _ (Fr.Is.mk rfl rfl)
  · obtain rfl : bz = false := by cases bz with | true => exact absurd (hbz.mp rfl) h1 | false => rfl
    have h2 : ((k : Int) == 0) = false := beq_eq_false_iff_ne.mpr (by omega)
    have h3 : ¬ (k : Int) = 0 := by omega
    clear hbz
    go_wp2_with fail
    all_goals first | omega | exact hQ.out _ (Fr.Is.mk rfl rfl)

set_option maxRecDepth 100000 in
set_option maxHeartbeats 1000000 in
theorem enc_r25 {Q : Exit → Act → World → Prop} {g ln lcap : Nat} {la : Option Addr} {on oc : Nat} {oa : Option Addr} {m : Nat} {B : Nat} {L : List Nat} {out Y Z : List UInt8} {i k bx : Nat} {bo nv cm : Bool} {s : ByteArray} (a : Act) (w : World) (HP : Hid (∀ v, Calls Tryd.prog 47 #[.string s] v (MadeB v Y))) (HNe : Hid (Y ≠ [])) (HO : Hid (OutB B L oa oc out w)) (HB : Hid (B ≤ w.heap.size ∧ ∀ k ∈ L, k < w.heap.size)) (HZ : Hid (Z = out ++ Y)) (HLn : Hid (Z.length ≤ 140737488355328)) (HN : Hid (on = out.length)) (q0 : w.cell? ⟨bx, 0, none⟩ = some (.string s))
    (ha : Fr.Is 155 [(0, .pointer (some ⟨g, 0, none⟩)), (1, .slice la ln lcap), (5, .slice oa on oc), (6, .int .i64 m), (7, .int .i64 i), (8, .pointer (some ⟨bx, 0, none⟩)), (9, .int .i64 k), (10, .bool bo), (11, .bool nv), (12, .bool cm)] a)
    (hQ : Hid (∀ (oa' : Option Addr) (oc' : Nat) (w' : World) a', Fr.Is 155 [(0, .pointer (some ⟨g, 0, none⟩)), (1, .slice la ln lcap), (5, .slice oa' Z.length oc'), (6, .int .i64 m), (7, .int .i64 i), (8, .pointer (some ⟨bx, 0, none⟩)), (9, .int .i64 k), (10, .bool bo), (11, .bool nv), (12, .bool cm)] a' → Grew B L w oa oa' oc' Z w' → Q .normal a' w')) :
    (Fr.reg Tryd.f23 25).wp Tryd.prog Q a w := by
  obtain ⟨fr, rfl, hfr⟩ := ha.lit
  simp only [List.map_cons, List.map_nil, List.cons.injEq, and_true] at hfr
  conv => arg 2; whnf
  simp only [List.range, List.range.loop, List.map_cons, List.map_nil, hfr]
  clear hfr ha
  go_wp2_with fail
  refine (HP.out _).mono ?_; rintro e w1 ⟨ad, cp, rfl, hown, b1⟩
  have HR : Hid (RB w1 ad Y) := Lib.hid (RB.of_own hown.out)
  have HO1 := Lib.hid (HO.out.below b1)
  have HB1 := Lib.hid (show B ≤ w1.heap.size ∧ ∀ k ∈ L, k < w1.heap.size from ⟨Nat.le_trans HB.out.1 b1.size, fun k hk => Nat.lt_of_lt_of_le (HB.out.2 k hk) b1.size⟩)
  have HBe := Lib.hid b1
  have hinfo := Lib.hid info_u8
  clear hown b1
  go_wp2_with (at_builtin; refine wl_bytes Tryd.underlying24 hinfo.out rfl (.tmp 138) (.tmp 141) rfl rfl HN.out HO1.out HB1.out.1 HB1.out.2 rfl rfl HNe.out HR.out Z HZ.out HLn.out ?_; intro oa' oc' w' hG)
  exact hQ.out _ _ _ _ (Fr.Is.mk rfl rfl) (hG.out.after HBe.out)

set_option maxRecDepth 100000 in
set_option maxHeartbeats 1000000 in
theorem enc_r26 {Q : Exit → Act → World → Prop} {g ln lcap : Nat} {la : Option Addr} {on oc : Nat} {oa : Option Addr} {m : Nat} {B : Nat} {L : List Nat} {out Y Z : List UInt8} {i k bx : Nat} {bo nv cm : Bool} {s : ByteArray} (a : Act) (w : World) (HP : Hid (∀ v, Calls Tryd.prog 47 #[.string s] v (MadeB v Y))) (HNe : Hid (Y ≠ [])) (HO : Hid (OutB B L oa oc out w)) (HB : Hid (B ≤ w.heap.size ∧ ∀ k ∈ L, k < w.heap.size)) (HZ : Hid (Z = out ++ Y)) (HLn : Hid (Z.length ≤ 140737488355328)) (HN : Hid (on = out.length)) (q1 : w.cell? ⟨bx, 1, none⟩ = some (.string s))
    (ha : Fr.Is 155 [(0, .pointer (some ⟨g, 0, none⟩)), (1, .slice la ln lcap), (5, .slice oa on oc), (6, .int .i64 m), (7, .int .i64 i), (8, .pointer (some ⟨bx, 0, none⟩)), (9, .int .i64 k), (10, .bool bo), (11, .bool nv), (12, .bool cm)] a)
    (hQ : Hid (∀ (oa' : Option Addr) (oc' : Nat) (w' : World) a', Fr.Is 155 [(0, .pointer (some ⟨g, 0, none⟩)), (1, .slice la ln lcap), (5, .slice oa' Z.length oc'), (6, .int .i64 m), (7, .int .i64 i), (8, .pointer (some ⟨bx, 0, none⟩)), (9, .int .i64 k), (10, .bool bo), (11, .bool nv), (12, .bool cm)] a' → Grew B L w oa oa' oc' Z w' → Q .normal a' w')) :
    (Fr.reg Tryd.f23 26).wp Tryd.prog Q a w := by
  obtain ⟨fr, rfl, hfr⟩ := ha.lit
  simp only [List.map_cons, List.map_nil, List.cons.injEq, and_true] at hfr
  conv => arg 2; whnf
  simp only [List.range, List.range.loop, List.map_cons, List.map_nil, hfr]
  clear hfr ha
  go_wp2_with fail
  refine (HP.out _).mono ?_; rintro e w1 ⟨ad, cp, rfl, hown, b1⟩
  have HR : Hid (RB w1 ad Y) := Lib.hid (RB.of_own hown.out)
  have HO1 := Lib.hid (HO.out.below b1)
  have HB1 := Lib.hid (show B ≤ w1.heap.size ∧ ∀ k ∈ L, k < w1.heap.size from ⟨Nat.le_trans HB.out.1 b1.size, fun k hk => Nat.lt_of_lt_of_le (HB.out.2 k hk) b1.size⟩)
  have HBe := Lib.hid b1
  have hinfo := Lib.hid info_u8
  clear hown b1
  go_wp2_with (at_builtin; refine wl_bytes Tryd.underlying24 hinfo.out rfl (.tmp 143) (.tmp 146) rfl rfl HN.out HO1.out HB1.out.1 HB1.out.2 rfl rfl HNe.out HR.out Z HZ.out HLn.out ?_; intro oa' oc' w' hG)
  exact hQ.out _ _ _ _ (Fr.Is.mk rfl rfl) (hG.out.after HBe.out)

set_option maxRecDepth 100000 in
set_option maxHeartbeats 1000000 in
theorem enc_r27 {Q : Exit → Act → World → Prop} {g ln lcap : Nat} {la : Option Addr} {on oc : Nat} {oa : Option Addr} {m : Nat} {i : Nat} {bx : Nat} {k : Nat} {bo nv : Bool} {cm : Bool} (a : Act) (w : World) 
    (ha : Fr.Is 155 [(0, .pointer (some ⟨g, 0, none⟩)), (1, .slice la ln lcap), (5, .slice oa on oc), (6, .int .i64 m), (7, .int .i64 i), (8, .pointer (some ⟨bx, 0, none⟩)), (9, .int .i64 k), (10, .bool bo), (11, .bool nv), (12, .bool cm)] a)
    (hQ : Hid (∀ a', Fr.Is 155 [(0, .pointer (some ⟨g, 0, none⟩)), (1, .slice la ln lcap), (5, .slice oa on oc), (6, .int .i64 m), (7, .int .i64 i), (8, .pointer (some ⟨bx, 0, none⟩)), (9, .int .i64 k), (10, .bool bo), (11, .bool nv), (12, .bool cm), (148, .bool cm)] a' → Q .normal a' w)) :
    (Fr.reg Tryd.f23 27).wp Tryd.prog Q a w := by
  obtain ⟨fr, rfl, hfr⟩ := ha.lit
  simp only [List.map_cons, List.map_nil, List.cons.injEq, and_true] at hfr
  conv => arg 2; whnf
  simp only [List.range, List.range.loop, List.map_cons, List.map_nil, hfr]
  clear hfr ha
  go_wp2_with fail
  exact hQ.out _ (Fr.Is.mk rfl rfl)

set_option maxRecDepth 100000 in
set_option maxHeartbeats 1000000 in
theorem enc_r28 {Q : Exit → Act → World → Prop} {g ln lcap : Nat} {la : Option Addr} {on oc : Nat} {oa : Option Addr} {m : Nat} {i : Nat} {bx : Nat} {fn fv : ByteArray} {fb : Bool} {S : World → Prop} (a : Act) (w : World) (q0 : w.cell? ⟨bx, 0, none⟩ = some (.string fn)) (q1 : w.cell? ⟨bx, 1, none⟩ = some (.string fv)) (q2 : w.cell? ⟨bx, 2, none⟩ = some (.bool fb)) (HA : Hid (∀ v, Below w.heap.size w v → Calls Tryd.prog 38 #[.pointer (some ⟨g, 3, none⟩), .agg #[.string fn, .string fv, .bool fb]] v fun e w' => e = .returned (.tuple #[]) ∧ S w' ∧ w'.cell? ⟨bx, 0, none⟩ = some (.string fn) ∧ w'.cell? ⟨bx, 1, none⟩ = some (.string fv) ∧ w'.cell? ⟨bx, 2, none⟩ = some (.bool fb)))
    (ha : Fr.Is 155 [(0, .pointer (some ⟨g, 0, none⟩)), (1, .slice la ln lcap), (5, .slice oa on oc), (6, .int .i64 m), (7, .int .i64 i), (8, .pointer (some ⟨bx, 0, none⟩))] a)
    (hQ : Hid (∀ w' a', Fr.Is 155 [(0, .pointer (some ⟨g, 0, none⟩)), (1, .slice la ln lcap), (5, .slice oa on oc), (6, .int .i64 m), (7, .int .i64 i), (8, .pointer (some ⟨bx, 0, none⟩))] a' → S w' → Q .normal a' w')) :
    (Fr.reg Tryd.f23 28).wp Tryd.prog Q a w := by
  obtain ⟨fr, rfl, hfr⟩ := ha.lit
  simp only [List.map_cons, List.map_nil, List.cons.injEq, and_true] at hfr
  conv => arg 2; whnf
  simp only [List.range, List.range.loop, List.map_cons, List.map_nil, hfr]
  clear hfr ha
  have hb0 : Below w.heap.size w w.drew := (Below.refl _ _).drew
  go_region_held3 (fun v => v.cell? ⟨bx, 0, none⟩ = some (.string fn) ∧ v.cell? ⟨bx, 1, none⟩ = some (.string fv) ∧ v.cell? ⟨bx, 2, none⟩ = some (.bool fb))
    (first | go_keep | exact hS3 | exact ⟨q0, q1, q2⟩ | exact ⟨below_cell hb0 q0, below_cell hb0 q1, below_cell hb0 q2⟩)
    ((go_at_call 38; refine (HA.out _ hb0).mono ?_; rintro e w2 ⟨rfl, hS2, hS3⟩))
  all_goals exact hQ.out _ _ (Fr.Is.mk rfl rfl) hS2

set_option maxRecDepth 100000 in
set_option maxHeartbeats 1000000 in
theorem enc_r29 {Q : Exit → Act → World → Prop} {g ln lcap : Nat} {la : Option Addr} {on oc : Nat} {oa : Option Addr} {m : Nat} (a : Act) (w : World) 
    (ha : Fr.Is 155 [(0, .pointer (some ⟨g, 0, none⟩)), (1, .slice la ln lcap), (5, .slice oa on oc), (6, .int .i64 m)] a)
    (hQ : Hid (∀ a', Fr.Is 155 [(4, .slice oa on oc)] a' → Q .normal a' w)) :
    (Fr.reg Tryd.f23 29).wp Tryd.prog Q a w := by
  obtain ⟨fr, rfl, hfr⟩ := ha.lit
  simp only [List.map_cons, List.map_nil, List.cons.injEq, and_true] at hfr
  conv => arg 2; whnf
  simp only [List.range, List.range.loop, List.map_cons, List.map_nil, hfr]
  clear hfr ha
  go_wp2_with fail
  exact hQ.out _ (Fr.Is.mk rfl rfl)
end Go.Proofs.YtdkgachgohilcaaDoor
