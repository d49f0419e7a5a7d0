/- Layer 5: the beginning of the document's Decode, region by region. Layer 5: the document's Decode, as a whole. Layer 5: the document's NewDecoder, NewEncoder. Layer 5: what the law's calls do to a state of several things: the document's decoder. -/
import Derived.Test.YtdkgachgohilcaaDoorGD03
import Derived.Test.YtdkgachgohilcaaDoorGD04
import Derived.Test.YtdkgachgohilcaaDoorGP25
import Derived.Deep.LoopGhost
set_option linter.unusedVariables false
set_option linter.unusedSimpArgs false
namespace Go.Proofs.YtdkgachgohilcaaDoor
open Go.RowKit
open Huf Pre Tab Hpk Arg Mem Gen Go.Proofs.YtdkgachgohilcaaDoor.Obj
set_option linter.unusedVariables false

set_option maxRecDepth 100000 in
set_option maxHeartbeats 1000000 in
theorem dec_r0 {Q : Exit → Act → World → Prop} {g blen bcap : Nat} {ba : Option Addr} (a : Act) (w : World) 
    (ha : Fr.Is 131 [(0, .pointer (some ⟨g, 0, none⟩)), (1, .slice ba blen bcap)] a)
    (hQ : Hid (∀ a', Fr.Is 131 [(0, .pointer (some ⟨g, 0, none⟩)), (1, .slice ba blen bcap)] a' → Q .normal a' w)) :
    (Fr.reg Tryd.f13 0).wp Tryd.prog Q a w := by
  obtain ⟨fr, rfl, hfr⟩ := ha.lit
  simp only [List.map_cons, List.map_nil, List.cons.injEq, and_true] at hfr
  conv => arg 2; whnf
  simp only [List.range, List.range.loop, List.map_cons, List.map_nil, hfr]
  clear hfr ha
  go_wp2_with fail
  exact hQ.out _ (Fr.Is.mk rfl rfl)

set_option maxRecDepth 100000 in
set_option maxHeartbeats 1000000 in
theorem dec_r1 {Q : Exit → Act → World → Prop} {g blen bcap : Nat} {ba : Option Addr} {br : Bool} (a : Act) (w : World) (q4 : w.cell? ⟨g, 4, none⟩ = some (.bool br))
    (ha : Fr.Is 131 [(0, .pointer (some ⟨g, 0, none⟩)), (1, .slice ba blen bcap)] a)
    (hQ : Hid (∀ a', Fr.Is 131 [(0, .pointer (some ⟨g, 0, none⟩)), (1, .slice ba blen bcap), (19, .bool br)] a' → Q .normal a' w)) :
    (Fr.reg Tryd.f13 1).wp Tryd.prog Q a w := by
  obtain ⟨fr, rfl, hfr⟩ := ha.lit
  simp only [List.map_cons, List.map_nil, List.cons.injEq, and_true] at hfr
  conv => arg 2; whnf
  simp only [List.range, List.range.loop, List.map_cons, List.map_nil, hfr]
  clear hfr ha
  go_wp2_with fail
  exact hQ.out _ (Fr.Is.mk rfl rfl)

set_option maxRecDepth 100000 in
set_option maxHeartbeats 1000000 in
theorem dec_r2 {Q : Exit → Act → World → Prop} {g blen bcap : Nat} {ba : Option Addr} (a : Act) (w : World) 
    (ha : Fr.Is 131 [(0, .pointer (some ⟨g, 0, none⟩)), (1, .slice ba blen bcap)] a)
    (hQ : Hid (∀ a', Fr.Is 131 [(4, .slice none 0 0), (5, .int .i64 (5 : Nat))] a' → Q .normal a' w)) :
    (Fr.reg Tryd.f13 2).wp Tryd.prog Q a w := by
  obtain ⟨fr, rfl, hfr⟩ := ha.lit
  simp only [List.map_cons, List.map_nil, List.cons.injEq, and_true] at hfr
  conv => arg 2; whnf
  simp only [List.range, List.range.loop, List.map_cons, List.map_nil, hfr]
  clear hfr ha
  go_wp2_with fail
  exact hQ.out _ (Fr.Is.mk rfl rfl)

set_option maxRecDepth 100000 in
set_option maxHeartbeats 1000000 in
theorem dec_r3 {Q : Exit → Act → World → Prop} {g blen bcap : Nat} {ba : Option Addr} (a : Act) (w : World) 
    (ha : Fr.Is 131 [(0, .pointer (some ⟨g, 0, none⟩)), (1, .slice ba blen bcap)] a)
    (hQ : Hid (∀ a', Fr.Is 131 [(0, .pointer (some ⟨g, 0, none⟩)), (1, .slice ba blen bcap), (6, .slice none 0 0)] a' → Q .normal a' w)) :
    (Fr.reg Tryd.f13 3).wp Tryd.prog Q a w := by
  obtain ⟨fr, rfl, hfr⟩ := ha.lit
  simp only [List.map_cons, List.map_nil, List.cons.injEq, and_true] at hfr
  conv => arg 2; whnf
  simp only [List.range, List.range.loop, List.map_cons, List.map_nil, hfr]
  clear hfr ha
  go_wp2_with fail
  exact hQ.out _ (Fr.Is.mk rfl rfl)

set_option maxRecDepth 100000 in
set_option maxHeartbeats 1000000 in
theorem dec_r4 {Q : Exit → Act → World → Prop} {g blen bcap : Nat} {ba : Option Addr} (a : Act) (w : World) 
    (ha : Fr.Is 131 [(0, .pointer (some ⟨g, 0, none⟩)), (1, .slice ba blen bcap), (6, .slice none 0 0)] a)
    (hQ : Hid (∀ a', Fr.Is 131 [(0, .pointer (some ⟨g, 0, none⟩)), (1, .slice ba blen bcap), (6, .slice none 0 0), (7, .int .i64 (0 : Nat))] a' → Q .normal a' w)) :
    (Fr.reg Tryd.f13 4).wp Tryd.prog Q a w := by
  obtain ⟨fr, rfl, hfr⟩ := ha.lit
  simp only [List.map_cons, List.map_nil, List.cons.injEq, and_true] at hfr
  conv => arg 2; whnf
  simp only [List.range, List.range.loop, List.map_cons, List.map_nil, hfr]
  clear hfr ha
  go_wp2_with fail
  exact hQ.out _ (Fr.Is.mk rfl rfl)

set_option maxRecDepth 100000 in
set_option maxHeartbeats 1000000 in
theorem dec_r5 {Q : Exit → Act → World → Prop} {g blen bcap : Nat} {ba : Option Addr} (a : Act) (w : World) 
    (ha : Fr.Is 131 [(0, .pointer (some ⟨g, 0, none⟩)), (1, .slice ba blen bcap), (6, .slice none 0 0), (7, .int .i64 (0 : Nat))] a)
    (hQ : Hid (∀ a', Fr.Is 131 [(0, .pointer (some ⟨g, 0, none⟩)), (1, .slice ba blen bcap), (6, .slice none 0 0), (7, .int .i64 (0 : Nat)), (8, .int .i64 (0 : Nat))] a' → Q .normal a' w)) :
    (Fr.reg Tryd.f13 5).wp Tryd.prog Q a w := by
  obtain ⟨fr, rfl, hfr⟩ := ha.lit
  simp only [List.map_cons, List.map_nil, List.cons.injEq, and_true] at hfr
  conv => arg 2; whnf
  simp only [List.range, List.range.loop, List.map_cons, List.map_nil, hfr]
  clear hfr ha
  go_wp2_with fail
  exact hQ.out _ (Fr.Is.mk rfl rfl)

set_option maxRecDepth 100000 in
set_option maxHeartbeats 1000000 in
theorem dec_r6 {Q : Exit → Act → World → Prop} {g blen bcap : Nat} {ba : Option Addr} (a : Act) (w : World) 
    (ha : Fr.Is 131 [(0, .pointer (some ⟨g, 0, none⟩)), (1, .slice ba blen bcap), (6, .slice none 0 0), (7, .int .i64 (0 : Nat)), (8, .int .i64 (0 : Nat))] a)
    (hQ : Hid (∀ a', Fr.Is 131 [(0, .pointer (some ⟨g, 0, none⟩)), (1, .slice ba blen bcap), (6, .slice none 0 0), (7, .int .i64 (0 : Nat)), (8, .int .i64 (0 : Nat)), (9, .int .i64 (0 : Nat))] a' → Q .normal a' w)) :
    (Fr.reg Tryd.f13 6).wp Tryd.prog Q a w := by
  obtain ⟨fr, rfl, hfr⟩ := ha.lit
  simp only [List.map_cons, List.map_nil, List.cons.injEq, and_true] at hfr
  conv => arg 2; whnf
  simp only [List.range, List.range.loop, List.map_cons, List.map_nil, hfr]
  clear hfr ha
  go_wp2_with fail
  exact hQ.out _ (Fr.Is.mk rfl rfl)
end Go.Proofs.YtdkgachgohilcaaDoor

namespace Go.Proofs.YtdkgachgohilcaaDoor
open Go.RowKit
open Huf Pre Tab Hpk Arg Mem Gen Go.Proofs.YtdkgachgohilcaaDoor.Obj
set_option linter.unusedVariables false

theorem RB.kept {w w' : World} {L : List Nat} (hk : Kept L w w') {a : Option Addr} {l : List UInt8} (h : RB w a l) (hn : ∀ b o s, a = some ⟨b, o, s⟩ → b ∉ L) : RB w' a l := by
  rcases h with rfl | ⟨b, off, rfl, hc⟩
  · exact Or.inl rfl
  · refine Or.inr ⟨b, off, rfl, fun i hi => ?_⟩
    have hlt := World.block_lt_of_cell? w _ (hc i hi)
    have hb := hk.block b hlt (hn b off none rfl)
    rw [← hc i hi]
    simp [World.cell?, hb]

/-- The end of Decode: the list lies in a row of the call's own. -/
structure DEnd (w0 : World) (L0 : List Nat) (g md ld : Nat) (R : (Nat × List FdM) × (Nat × List FdM) × Bool) (e : Ending) (w : World) : Prop where
  ex : ∃ (L : List Nat) (oa : Option Addr) (oc : Nat), e = .returned (.tuple #[.slice oa R.1.2.length oc, .int .i64 R.1.1]) ∧ RDec w L g md ld R.2.2 R.2.1.1 R.2.1.2 ∧ (∀ k ∈ L, k ∈ L0 ∨ w0.heap.size ≤ k) ∧
    Rw.QRow EFd w oa oc R.1.2 ∧ (∀ b o s, oa = some ⟨b, o, s⟩ → w0.heap.size ≤ b ∧ b ∉ L)
  kept : Kept L0 w0 w
  sum : csum R.2.1.2 ≤ R.2.1.1 ∧ R.2.1.1 ≤ 65536

theorem dec_ret {R : Ending → World → Prop} {a : Act} {w : World} {v1 v2 : Value} (h : Fr.Is 131 [(4, v1), (5, v2)] a) (hR : R (.returned (.tuple #[v1, v2])) w) : bodyPost Tryd.prog Tryd.f13 R .ret a w := by
  have h4 : a.tmps.getD 4 undef = v1 := h.2.2 (4, v1) (by simp)
  have h5 : a.tmps.getD 5 undef = v2 := h.2.2 (5, v2) (by simp)
  rw [Array.getD_eq_getD_getElem?] at h4 h5
  exact bodyPost_ret (v := .tuple #[v1, v2]) (by simp [results, Tryd.results13, go_sem, h4, h5]) h.1 hR

set_option maxRecDepth 100000 in
set_option maxHeartbeats 1000000 in
theorem rhdecode_any (L : List Nat) (g md ld m : Nat) (br : Bool) (rows : List FdM) (ba : Option Addr) (l : List UInt8) (bcap : Nat) (w : World) (h : RDec w L g md ld br m rows) (hs : csum rows ≤ m ∧ m ≤ 65536) (hmd : md ≤ 65536) (hrb : RB w ba l) (hl : l.length ≤ 134217728) (hcap : l.length ≤ bcap) (hmax : bcap ≤ maxLen) (hno : ∀ b o s, ba = some ⟨b, o, s⟩ → l ≠ [] → b ∉ L) :
    Calls Tryd.prog 13 #[.pointer (some ⟨g, 0, none⟩), .slice ba l.length bcap] w (DEnd w L g md ld (decR br md ld l m rows)) := by
  have hgL : g ∈ L := by obtain ⟨_, _, hg, _⟩ := h; exact hg
  have hbl := GTab.blocks h
  obtain ⟨_, _, c4, _⟩ := h.cells
  go_enter Tryd.func13, Tryd.ntmps13
  refine wp_seq ?_
  refine dec_r0 (g := g) (blen := l.length) (bcap := bcap) (ba := ba) _ w (Fr.Is.mk rfl rfl) (Lib.hid (fun a1 h1 => ?_))
  refine wp_seq (wp_seq ?_)
  refine dec_r1 (br := br) a1 w c4 h1 (Lib.hid (fun a2 h2 => ?_))
  cases br with
  | true =>
    refine wp_cond_true (h2.get (by simp)) ?_
    refine wp_seq ?_
    refine dec_r2 (g := g) (blen := l.length) (bcap := bcap) (ba := ba) a2 w (h2.less (by simp)) (Lib.hid (fun a3 h3 => ?_))
    refine wp_ret ?_
    exact dec_ret h3 ⟨⟨L, none, 0, rfl, h, fun k hk => .inl hk, Rw.QRow.bare _ _, fun b o s e => by cases e⟩, Kept.refl _ _, hs⟩
  | false =>
    refine wp_cond_false (h2.get (by simp)) ?_
    refine wp_skip ?_
    refine wp_seq ?_
    refine dec_r3 (g := g) (blen := l.length) (bcap := bcap) (ba := ba) a2 w (h2.less (by simp)) (Lib.hid (fun a3 h3 => ?_))
    refine wp_seq ?_
    refine dec_r4 a3 w h3 (Lib.hid (fun a4 h4 => ?_))
    refine wp_seq ?_
    refine dec_r5 a4 w h4 (Lib.hid (fun a5 h5 => ?_))
    refine wp_seq ?_
    refine dec_r6 a5 w h5 (Lib.hid (fun a6 h6 => ?_))
    have hD : decF md ld (l.length + 1) l [] 0 0 m rows = decR false md ld l m rows := rfl
    generalize decR false md ld l m rows = R at hD ⊢
    have hS : DSt w L g md ld L m rows none 0 [] w := ⟨Kept.refl _ _, h, fun k hk => .inl hk, ⟨hgL, hbl⟩, hs, Rw.QRow.bare _ _, fun b o s e => by cases e⟩
    refine wp_seq (wp_block ?_)
    refine wp_loop_ghost (fun n a' w' => ∃ (L2 : List Nat) (m2 : Nat) (rows2 : List FdM) (oa : Option Addr) (oc : Nat) (out : List FdM) (cst sizes pos F : Nat), n = l.length - pos ∧ pos ≤ l.length ∧ l.length - pos < F ∧ cst ≤ pos * 200000 ∧ out.length ≤ pos ∧ sizes ≤ pos ∧ DSt w L g md ld L2 m2 rows2 oa oc out w' ∧
      decF md ld F (l.drop pos) out cst sizes m2 rows2 = R ∧ Fr.Is 131 [(0, .pointer (some ⟨g, 0, none⟩)), (1, .slice ba l.length bcap), (6, .slice oa out.length oc), (7, .int .i64 cst), (8, .int .i64 sizes), (9, .int .i64 pos)] a') (l.length - 0)
      ⟨L, m, rows, none, 0, [], 0, 0, 0, l.length + 1, rfl, Nat.zero_le _, by omega, Nat.zero_le _, Nat.zero_le _, Nat.zero_le _, hS, hD, h6⟩ ?_
    rintro n a7 w7 ⟨L2, m2, rows2, oa, oc, out, cst, sizes, pos, F, rfl, hp, hF, hcs, hol, hz, hS7, hD7, h7⟩
    refine wp_seq (wp_seq ?_)
    refine dec_r7 a7 w7 h7 (Lib.hid (fun a8 h8 => ?_))
    by_cases hlt : pos < l.length
    · refine wp_cond_true (h8.get (by simp [hlt])) ?_
      refine wp_skip ?_
      refine wp_block ?_
      refine dec_round (l := l) (R := R) (bcap := bcap) (ba := ba) (oa := oa) (oc := oc) (cst := cst) (sizes := sizes) (pos := pos) a8 w7 hS7 hmd (RB.kept hS7.kept hrb (fun b o s e => hno b o s e (fun e => by rw [e] at hlt; simp at hlt))) hl hcap hmax hlt hF hcs hol hz hD7 (h8.less (by simp)) ?_ ?_
      · intro e a' w' L3 m3 rows3 oa3 oc3 out3 cst3 sizes3 p3 F3 he h1 h2 h3 h4 h5 h6 hS3 hD3 hf3
        have hI : ∃ n', n' < l.length - pos ∧ ∃ (L2 : List Nat) (m2 : Nat) (rows2 : List FdM) (oa : Option Addr) (oc : Nat) (out : List FdM) (cst sizes pos F : Nat), n' = l.length - pos ∧ pos ≤ l.length ∧ l.length - pos < F ∧ cst ≤ pos * 200000 ∧ out.length ≤ pos ∧ sizes ≤ pos ∧ DSt w L g md ld L2 m2 rows2 oa oc out w' ∧
          decF md ld F (l.drop pos) out cst sizes m2 rows2 = R ∧ Fr.Is 131 [(0, .pointer (some ⟨g, 0, none⟩)), (1, .slice ba l.length bcap), (6, .slice oa out.length oc), (7, .int .i64 cst), (8, .int .i64 sizes), (9, .int .i64 pos)] a' :=
          ⟨l.length - p3, by omega, L3, m3, rows3, oa3, oc3, out3, cst3, sizes3, p3, F3, rfl, h2, h3, h4, h5, h6, hS3, hD3, hf3⟩
        rcases he with rfl | rfl
        · exact hI
        · exact hI
      · intro a' w' e2 hR hf hE
        refine dec_ret hf ?_
        subst hR
        exact ⟨⟨L2, none, 0, rfl, hE.dec, hE.new, Rw.QRow.bare _ _, fun b o s e => by cases e⟩, hE.kept, hS7.sum⟩
    · refine wp_cond_false (h8.get (by simp [hlt])) ?_
      refine wp_exit ?_
      show (Fr.tail Tryd.f13 7).wp Tryd.prog _ a8 w7
      obtain ⟨F, rfl⟩ : ∃ F', F = F' + 1 := ⟨F - 1, by omega⟩
      have hnil : l.drop pos = [] := List.drop_eq_nil_of_le (by omega)
      rw [hnil, decF] at hD7
      obtain ⟨_, c1, _, _⟩ := hS7.dec.cells
      conv => arg 2; whnf
      refine wp_seq (wp_seq ?_)
      refine dec_r30 (g := g) (blen := l.length) (bcap := bcap) (on := out.length) (oc := oc) (cst := cst) (sizes := sizes) (pos := pos) (ba := ba) (oa := oa) a8 w7 c1 (decide (ld < cst)) (by simp) (h8.less (by simp)) (Lib.hid (fun a9 h9 => ?_))
      by_cases hbig : ld < cst
      · rw [if_pos hbig] at hD7
        refine wp_cond_true (h9.get (i := 129) (v := .bool true) (by simp [hbig])) ?_
        refine wp_seq ?_
        refine dec_r31 (on := out.length) (oc := oc) (oa := oa) a9 w7 (h9.less (by simp)) (Lib.hid (fun a10 h10 => ?_))
        refine wp_ret ?_
        refine dec_ret h10 ?_
        subst hD7
        exact ⟨⟨L2, none, 0, rfl, hS7.dec, hS7.new, Rw.QRow.bare _ _, fun b o s e => by cases e⟩, hS7.kept, hS7.sum⟩
      · rw [if_neg hbig] at hD7
        refine wp_cond_false (h9.get (i := 129) (v := .bool false) (by simp [hbig])) ?_
        refine wp_skip ?_
        refine wp_seq ?_
        refine dec_r32 (on := out.length) (oc := oc) (oa := oa) a9 w7 (h9.less (by simp)) (Lib.hid (fun a10 h10 => ?_))
        refine wp_ret ?_
        refine dec_ret h10 ?_
        subst hD7
        exact ⟨⟨L2, oa, oc, rfl, hS7.dec, hS7.new, hS7.row, hS7.blk⟩, hS7.kept, hS7.sum⟩
end Go.Proofs.YtdkgachgohilcaaDoor

namespace Go.Proofs.YtdkgachgohilcaaDoor
open Go.RowKit
open Huf Pre Tab Hpk Arg Mem Gen Go.Proofs.YtdkgachgohilcaaDoor.Obj
set_option linter.unusedVariables false

/-- A table in a struct that was made just now. -/
theorem gtab_new (w : World) (t : TypeId) (cs cs2 : Array Value) (o m : Nat) (h : cs2 = put2 cs o (.int .i64 m) (.slice none 0 0)) : GTab (w.alloc (.cells cs2 t)) [w.heap.size] w.heap.size t cs o m [] := by
  subst h
  exact ⟨none, 0, by simp, heap_alloc_new w _, Nat.le_refl _, by unfold maxLen; omega, fun _ => rfl, fun _ _ _ e => by (cases e), (Rw.QRow.bare EFd _).row, by simp⟩

set_option maxRecDepth 100000 in
set_option maxHeartbeats 1000000 in
theorem rnewdec_any (md ld : Nat) (w : World) :
    Calls Tryd.prog 11 #[.int .i64 md, .int .i64 ld] w fun e w' => e = .returned (.pointer (some ⟨w.heap.size, 0, none⟩)) ∧ RDec w' [w.heap.size] w.heap.size md ld false (min md 4096) [] ∧ Below w.heap.size w w' := by
  go_enter Tryd.func11, Tryd.ntmps11
  go_wp2_with fail
  all_goals go_ret
  all_goals refine ⟨rfl, ?_, (Below.refl _ _).alloc (Nat.le_refl _) _⟩
  all_goals first
    | (rw [show (min (md : Int) 4096) = ((min md 4096 : Nat) : Int) from by omega]; exact gtab_new w _ _ _ 2 (min md 4096) rfl)
    | (rw [show min md 4096 = 4096 from by omega]; exact gtab_new w _ _ _ 2 4096 rfl)
    | (rw [show min md 4096 = md from by omega]; exact gtab_new w _ _ _ 2 md rfl)

/-- The document's encoder: its own limit, what it has told, the least since; its table. -/
def REnc (w : World) (L : List Nat) (g : Nat) (own told least : Nat) (m : Nat) (rows : List FdM) : Prop := GTab w L g 55 #[.int .i64 own, .int .i64 told, .int .i64 least, .int .i64 0, .slice none 0 0] 3 m rows

set_option maxRecDepth 100000 in
set_option maxHeartbeats 1000000 in
theorem rnewenc_any (own : Nat) (w : World) :
    Calls Tryd.prog 19 #[.int .i64 own] w fun e w' => e = .returned (.pointer (some ⟨w.heap.size, 0, none⟩)) ∧ REnc w' [w.heap.size] w.heap.size own 4096 (min own 4096) (min own 4096) [] ∧ Below w.heap.size w w' := by
  go_enter Tryd.func19, Tryd.ntmps19
  go_wp2_with fail
  all_goals go_ret
  all_goals refine ⟨rfl, ?_, (Below.refl _ _).alloc (Nat.le_refl _) _⟩
  all_goals first
    | (rw [show (min (own : Int) 4096) = ((min own 4096 : Nat) : Int) from by omega]; exact gtab_new w _ _ _ 3 (min own 4096) rfl)
    | (rw [show min own 4096 = 4096 from by omega]; exact gtab_new w _ _ _ 3 4096 rfl)
    | (rw [show min own 4096 = own from by omega]; exact gtab_new w _ _ _ 3 own rfl)

theorem REnc.cells {w : World} {L : List Nat} {g own told least m : Nat} {rows : List FdM} (h : REnc w L g own told least m rows) :
    w.cell? ⟨g, 0, none⟩ = some (.int .i64 own) ∧ w.cell? ⟨g, 1, none⟩ = some (.int .i64 told) ∧ w.cell? ⟨g, 2, none⟩ = some (.int .i64 least) ∧ w.cell? ⟨g, 3, none⟩ = some (.int .i64 m) ∧ w.frozen? ⟨g, 1, none⟩ = false ∧ w.frozen? ⟨g, 2, none⟩ = false := by
  obtain ⟨ad, cap, hg, hh, _⟩ := h
  exact ⟨(cell_at hh 0).trans (put2_else (by decide) (by decide) _ _), (cell_at hh 1).trans (put2_else (by decide) (by decide) _ _), (cell_at hh 2).trans (put2_else (by decide) (by decide) _ _), (cell_at hh 3).trans (put2_0 (by simp) _ _), frozen_of_row _ _ 1 _ _ hh, frozen_of_row _ _ 2 _ _ hh⟩
theorem REnc.told_set {w : World} {L : List Nat} {g own told least m : Nat} {rows : List FdM} (h : REnc w L g own told least m rows) (n : Nat) : REnc (w.setCell ⟨g, 1, none⟩ (.int .i64 n)) L g own n least m rows :=
  GTab.other h 1 (.int .i64 n) (by decide) (by decide)
theorem REnc.least_set {w : World} {L : List Nat} {g own told least m : Nat} {rows : List FdM} (h : REnc w L g own told least m rows) (n : Nat) : REnc (w.setCell ⟨g, 2, none⟩ (.int .i64 n)) L g own told n m rows :=
  GTab.other h 2 (.int .i64 n) (by decide) (by decide)
end Go.Proofs.YtdkgachgohilcaaDoor

namespace Go.Proofs.YtdkgachgohilcaaDoor
open Go.RowKit
open Huf Pre Tab Hpk Arg Mem Gen Wr Go.Proofs.YtdkgachgohilcaaDoor.Obj Sx
set_option linter.unusedVariables false

/-- The document's decoder. -/
def RDecP (F : List Nat) (g md ld : Nat) (br : Bool) (m : Nat) (rows : List FdM) : World → Prop := fun w =>
  RDec w F g md ld br m rows ∧ csum rows ≤ m ∧ m ≤ 65536 ∧ md ≤ 65536
theorem RDecP.st {F : List Nat} {g md ld : Nat} {br : Bool} {m : Nat} {rows : List FdM} : Stable F (RDecP F g md ld br m rows) := fun a b hs hb ⟨h, h1⟩ => ⟨GTab.kept h hs hb, h1⟩

section
variable {W w : World} {obs : List Th} {F : List Nat} {g own told least m md ld : Nat} {br : Bool} {rows : List FdM} {K : Nat}

theorem st_rnewdec (hS : Sts W w obs) (h : md ≤ 65536) :
    Calls Tryd.prog 11 #[.int .i64 md, .int .i64 ld] w fun e w' => ∃ g F, e = .returned (.pointer (some ⟨g, 0, none⟩)) ∧ Sts W w' ((F, RDecP F g md ld false (min md 4096) []) :: obs) := by
  refine (rnewdec_any md ld w).mono ?_; rintro e w' ⟨rfl, hE, hb⟩
  refine ⟨_, [w.heap.size], rfl, hS.add hb (fun k hk => ?_) RDecP.st ⟨hE, by simp [csum], by omega, h⟩⟩
  have := GTab.blocks hE k hk
  simp only [List.mem_singleton] at hk
  omega

theorem st_rdecode (hS : Sts W w obs) (i : Nat) (hi : obs[i]? = some (F, RDecP F g md ld br m rows)) (ba : Option Addr) (l : List UInt8) (bcap : Nat) (hrb : RB w ba l) (hba : l ≠ [] → ∀ b o s, ba = some ⟨b, o, s⟩ → b ∉ F) (hcap : l.length ≤ bcap) (hmax : bcap ≤ maxLen) (hl : l.length ≤ 100000000) :
    Calls Tryd.prog 13 #[.pointer (some ⟨g, 0, none⟩), .slice ba l.length bcap] w fun e w' => ∃ oa oc F', e = .returned (.tuple #[.slice oa (decR br md ld l m rows).1.2.length oc, .int .i64 (decR br md ld l m rows).1.1]) ∧
      Sts W w' ((blk oa, RowP EFd oa oc (decR br md ld l m rows).1.2) :: obs.set i (F', RDecP F' g md ld (decR br md ld l m rows).2.2 (decR br md ld l m rows).2.1.1 (decR br md ld l m rows).2.1.2)) := by
  obtain ⟨hE, h0, h1, h2⟩ := hS.is i hi
  refine (rhdecode_any F g md ld m br rows ba l bcap w hE ⟨h0, h1⟩ h2 hrb (by omega) hcap hmax (fun b o s e hne => hba hne b o s e)).mono ?_
  rintro e w' ⟨⟨L, oa, oc, rfl, hD, hn, hq, hob⟩, hk, hs⟩
  refine ⟨oa, oc, L, rfl, hS.turnAdd hi hk hn (GTab.blocks hD) RDecP.st ⟨hD, hs.1, hs.2, h2⟩ (fun k hk' => ?_) RowP.st hq⟩
  obtain ⟨o, s, e⟩ := mem_blk hk'
  have h5 := hob k o s e
  exact ⟨.inr h5.1, h5.2, q_lt hq k hk'⟩

end
end Go.Proofs.YtdkgachgohilcaaDoor
