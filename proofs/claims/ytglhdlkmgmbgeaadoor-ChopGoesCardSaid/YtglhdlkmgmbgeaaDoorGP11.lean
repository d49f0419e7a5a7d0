/- Layer 7, the program: Take: what stands behind the loop. Layer 7, the program: Take, whole. Layer 7, the program: Take, from its beginning. -/
import Derived.Test.YtglhdlkmgmbgeaaDoorGP10
set_option linter.unusedVariables false
set_option linter.unusedSimpArgs false
namespace Go.Proofs.YtglhdlkmgmbgeaaDoor
open Go.RowKit Go.Shelf
open Cho Fra Oct Arg Mem Gen Wr Qu Pt Sx Go.Proofs.YtglhdlkmgmbgeaaDoor.Obj
set_option linter.unusedVariables false
set_option linter.unusedSimpArgs false
attribute [local go_sem] Oper.semAt_some

theorem info_by : (Tryd.prog.info? 5).map (fun i => (i.zero, i.size, i.bytes)) = some (some (.int .u8 0), 1, 1) := by kernel_rfl
/-- A row that is left is appended to, and laid into the feed. -/
theorem fd_grow {W0 w v : World} {obs : List Th} {i fb lc lc2 : Nat} {la la2 : Option Addr} {most : Int} {s : FeM} {r2 : List UInt8} {oa : Option Addr} {B : Nat} {L : List Nat} (hS : Sts W0 w obs) (hi : obs[i]? = some (fb :: blk la, FdP fb la lc most s))
    (hoa : oa = la ∨ oa = none) (hg : Grew B L w oa la2 lc2 r2 v) :
    (v.cell? ⟨fb, 2, none⟩ = some (.slice la s.rest.length lc) ∧ v.frozen? ⟨fb, 2, none⟩ = false) ∧
      Sts W0 (v.setCell ⟨fb, 2, none⟩ (.slice la2 r2.length lc2)) (obs.set i (fb :: blk la2, FdP fb la2 lc2 most ⟨r2, s.aw, s.over⟩)) := by
  have hF : FdO fb la lc most s w := hS.is i hi
  have hlo := (hS.all i _ hi).lo
  have hfl : fb < w.heap.size := (Array.getElem?_eq_some_iff.1 hF.blk).1
  have hk1 : Kept (blk oa) w v := ⟨hg.std.os, hg.std.tape, hg.std.output, hg.std.size, fun k hk hn => hg.blk k hk (fun o s' e => hn (by rw [e]; exact List.mem_singleton.mpr rfl))⟩
  have hfo : fb ∉ blk oa := fun hm => by
    obtain ⟨o, s', e⟩ := mem_blk hm
    rcases hoa with h | h
    · rw [h] at e; exact hF.ne _ _ _ e rfl
    · rw [h] at e; cases e
  have hb1 := hk1.at hF.blk hfo
  have hb2 := setCell_block (i := 2) (.slice la2 r2.length lc2) hb1
  have hk2 : Kept (fb :: blk la) w (v.setCell ⟨fb, 2, none⟩ (.slice la2 r2.length lc2)) := (hk1.wide (L' := fb :: blk la) (fun k hk => by
    rcases hoa with h | h
    · rw [h] at hk; exact .inl (List.mem_cons_of_mem _ hk)
    · rw [h] at hk; cases hk)).setCell (p := ⟨fb, 2, none⟩) (.inl (List.mem_cons_self ..)) _
  have hne : ∀ b o s', la2 = some ⟨b, o, s'⟩ → b ≠ fb := fun b o s' e => by
    rcases hg.new b o s' e with ⟨o', e'⟩ | h
    · rcases hoa with h | h
      · rw [h] at e'; exact hF.ne _ _ _ e'
      · rw [h] at e'; cases e'
    · omega
  have hq := hg.out.row.block (w' := v.setCell ⟨fb, 2, none⟩ (.slice la2 r2.length lc2)) (by simp [World.setCell]) (fun b o s' e => Below.heap_setCell _ _ _ _ (hne b o s' e))
  have hF2 : FdO fb la2 lc2 most ⟨r2, s.aw, s.over⟩ (v.setCell ⟨fb, 2, none⟩ (.slice la2 r2.length lc2)) := ⟨by rw [hb2]; simp [fdC], hq, hne⟩
  refine ⟨⟨cell_at hb1 2, frozen_of_row _ _ _ _ _ hb1⟩, hS.turn hi hk2 (fun k hk => ?_) (fdO_lt hF2) fdP_st hF2⟩
  rcases List.mem_cons.mp hk with rfl | hk
  · exact .inl (List.mem_cons_self ..)
  · obtain ⟨o, s', e⟩ := mem_blk hk
    rcases hg.new k o s' e with ⟨o', e'⟩ | h
    · rcases hoa with h | h
      · rw [h] at e'; exact .inl (List.mem_cons_of_mem _ (by rw [e']; exact List.mem_singleton.mpr rfl))
      · rw [h] at e'; cases e'
    · exact .inr h

/-- What Take leaves. -/
def TakeEnd (W0 : World) (obs : List Th) (i fb : Nat) (most : Int) (T : List ItM × FeM) (N : Nat) (e : Ending) (w' : World) : Prop :=
  ∃ (its : List ItX) (ra : Option Addr) (rc : Nat) (la' : Option Addr) (lc' : Nat) (s' : FeM), e = .returned (.slice ra its.length rc) ∧ its.map (·.1) = T.1 ∧ FeQ T.2 s' ∧ s'.rest.length ≤ N ∧ its.length ≤ N + 1 ∧
    Sts W0 w' ((sBs its, SetsP its) :: (blk ra, RowQ EIt ra rc its) :: obs.set i (fb :: blk la', FdP fb la' lc' most s'))
/-- .. whatever the loop's record is. -/
def tkObsE (bx D i fb : Nat) (lt : Th) (most : Int) (obs : List Th) (its : List ItX) (ra : Option Addr) (rc : Nat) (la : Option Addr) (lc : Nat) (s : FeM) : List Th :=
  (sBs its, SetsP its) :: (blk ra, RowQ EIt ra rc its) :: ([bx], BlkQ bx (.cells #[.slice ra its.length rc] 29 (0, 0))) :: lt :: ([D], BlkQ D (.deferred (some []))) :: obs.set i (fb :: blk la, FdP fb la lc most s)
theorem tk_close {bx D i fb : Nat} {lt : Th} {most : Int} {obs : List Th} {its : List ItX} {ra la : Option Addr} {rc lc : Nat} {s : FeM} {W0 w : World} (hS : Sts W0 w (tkObsE bx D i fb lt most obs its ra rc la lc s)) :
    Sts W0 (w.putObj D (.deferred none)) ((sBs its, SetsP its) :: (blk ra, RowQ EIt ra rc its) :: obs.set i (fb :: blk la, FdP fb la lc most s)) := by
  have hD : w.heap[D]? = some (.deferred (some [])) := hS.is 4 rfl
  have h1 := stsPut hS 4 (o' := .deferred none) rfl (kept_put w D (.deferred none)) (World.putObj_heap_same (Array.getElem?_eq_some_iff.1 hD).1)
  have h2 := stsErase (stsErase (stsErase h1 2) 2) 2
  simpa only [tkObsE, List.set, List.eraseIdx_cons_succ, List.eraseIdx_cons_zero] using h2

set_option maxRecDepth 100000 in
set_option maxHeartbeats 4000000 in
/-- Behind the loop. -/
theorem tk_tail {bx D i fb came N : Nat} {lt : Th} {most : Int} {obs : List Th} {its : List ItX} {ra la : Option Addr} {rc lc : Nat} {s : FeM} {W0 w : World} {T : List ItM × FeM} (tms : Array Value)
    (HS : Hid (Sts W0 w (tkObsE bx D i fb lt most obs its ra rc la lc s))) (HI : Hid (i < obs.length)) (H1 : Hid (its.map (·.1) = T.1 ∧ FeQ T.2 s ∧ s.rest.length ≤ N ∧ its.length ≤ N + 1 ∧ N ≤ 99999999))
    (ha : Fr.Is 47 [(0, .pointer (some ⟨fb, 0, none⟩)), (5, .int .i64 came), (6, .pointer (some ⟨bx, 0, none⟩))] ⟨tms, []⟩) :
    (Fr.tail Tryd.f11 6).wp Tryd.prog (bodyPostM Fence.wide 9 Tryd.prog Tryd.f11 (TakeEnd W0 obs i fb most T N)) ⟨tms, [{ target := .collected D, args := #[] }]⟩ w := by
  obtain ⟨fr, hfe, hfr⟩ := ha.lit
  simp only [List.map_cons, List.map_nil, List.cons.injEq, and_true] at hfr
  simp only [Act.mk.injEq, and_true] at hfe
  subst hfe
  conv => arg 2; whnf
  simp only [List.range, List.range.loop, List.map_cons, List.map_nil, hfr]
  clear hfr ha
  have hF : FdO fb la lc most s w := HS.out.is (i + 5) (F := fb :: blk la) (P := FdP fb la lc most s) (by simp [tkObsE, HI.out])
  have c2 := hF.cells.2.2.1
  have hbx : w.heap[bx]? = some (.cells #[.slice ra its.length rc] 29 (0, 0)) := HS.out.is 2 rfl
  have p0 := cell_at hbx 0
  obtain ⟨m, hm⟩ : ∃ m, m = s.rest.length := ⟨_, rfl⟩
  obtain ⟨k, hk⟩ : ∃ k, k = its.length := ⟨_, rfl⟩
  rw [← hm] at c2
  rw [← hk] at p0
  have HM := Lib.hid hm
  have HK := Lib.hid hk
  by_cases hlt : m < came
  · have hlt' : (m : Int) < came := by omega
    have HOut : Hid (OutB W0.heap.size [] none 0 [] w) := Lib.hid (OutB.bare _ _ _)
    have HLe := Lib.hid HS.out.le
    have HRb := Lib.hid (rb_of_q hF.row.row)
    have HLen : Hid (s.rest.length ≤ 140737488355328) := Lib.hid (by have := H1.out.2.2.1; have := H1.out.2.2.2.2; omega)
    have HEnd : Hid (∀ la2 lc2 v, Grew W0.heap.size [] w none la2 lc2 s.rest v → (v.cell? ⟨fb, 2, none⟩ = some (.slice la m lc) ∧ v.frozen? ⟨fb, 2, none⟩ = false) ∧
        ((v.setCell ⟨fb, 2, none⟩ (.slice la2 s.rest.length lc2)).cell? ⟨bx, 0, none⟩ = some (.slice ra k rc)) ∧ (v.setCell ⟨fb, 2, none⟩ (.slice la2 s.rest.length lc2)).heap[D]? = some (.deferred (some [])) ∧
        TakeEnd W0 obs i fb most T N (.returned (.slice ra k rc)) ((v.setCell ⟨fb, 2, none⟩ (.slice la2 s.rest.length lc2)).putObj D (.deferred none))) := Lib.hid (fun la2 lc2 v hg => by
      obtain ⟨h2, h3⟩ := fd_grow (s := s) HS.out (i := i + 5) (fb := fb) (la := la) (lc := lc) (most := most) (by simp [tkObsE, HI.out]) (.inr rfl) hg
      have h4 : Sts W0 (v.setCell ⟨fb, 2, none⟩ (.slice la2 s.rest.length lc2)) (tkObsE bx D i fb lt most obs its ra rc la2 lc2 s) := by
        simpa only [tkObsE, List.set, List.set_set] using h3
      have hb4 : (v.setCell ⟨fb, 2, none⟩ (.slice la2 s.rest.length lc2)).heap[bx]? = some (.cells #[.slice ra its.length rc] 29 (0, 0)) := h4.is 2 rfl
      refine ⟨by rw [hm]; exact h2, by rw [hk]; exact cell_at hb4 0, h4.is 4 rfl, ?_⟩
      exact ⟨its, ra, rc, la2, lc2, s, by rw [hk], H1.out.1, H1.out.2.1, H1.out.2.2.1, H1.out.2.2.2.1, tk_close h4⟩)
    clear HS H1 hF hbx p0 hm hk
    go_wp2_with (at_builtin; refine wl_bytes0 (oa := none) (oc := 0) (out := []) (B := W0.heap.size) (L := []) Tryd.underlying24 info_by rfl (.const (.slice none 0 0)) (.tmp 42) rfl rfl rfl HOut.out HLe.out (fun _ h => by cases h) rfl HM.out HRb.out s.rest rfl HLen.out ?_; intro la2 lc2 v hg; obtain ⟨⟨c2', f2'⟩, p0', hD, hE⟩ := HEnd.out la2 lc2 v hg.out; have HD := Lib.hid hD; have HE := Lib.hid hE; clear hD hE hg)
    refine ⟨by simp, .inl ⟨_, _, rfl, run_takeDeferred HD.out, ?_⟩⟩
    refine ⟨_, results_tmp rfl _ _ _, ?_⟩
    exact HE.out
  · have hlt' : ¬ (m : Int) < came := by omega
    have HD : Hid (w.heap[D]? = some (.deferred (some []))) := Lib.hid (HS.out.is 4 rfl)
    have HE : Hid (TakeEnd W0 obs i fb most T N (.returned (.slice ra k rc)) (w.putObj D (.deferred none))) := Lib.hid ⟨its, ra, rc, la, lc, s, by rw [hk], H1.out.1, H1.out.2.1, H1.out.2.2.1, H1.out.2.2.2.1, tk_close HS.out⟩
    clear HS H1 hF hbx hm hk
    go_wp2_with fail
    refine ⟨by simp, .inl ⟨_, _, rfl, run_takeDeferred HD.out, ?_⟩⟩
    refine ⟨_, results_tmp rfl _ _ _, ?_⟩
    exact HE.out
end Go.Proofs.YtglhdlkmgmbgeaaDoor

namespace Go.Proofs.YtglhdlkmgmbgeaaDoor
open Go.RowKit Go.Shelf
open Cho Fra Oct Arg Mem Gen Wr Qu Pt Sx Go.Proofs.YtglhdlkmgmbgeaaDoor.Obj
set_option linter.unusedVariables false
set_option linter.unusedSimpArgs false
attribute [local go_sem] Oper.semAt_some

set_option maxRecDepth 100000 in
set_option maxHeartbeats 4000000 in
/-- The loop, and what stands behind it. -/
theorem tk_mid {bx i fb came N : Nat} {most : Int} {obs : List Th} {la : Option Addr} {lc : Nat} {s : FeM} {W0 w : World} (tms : Array Value)
    (HS : Hid (Sts W0 w (([bx], BlkQ bx (.cells #[.slice none 0 0] 29 (0, 0))) :: obs))) (HO : Hid (obs[i]? = some (fb :: blk la, FdP fb la lc most s))) (HSp : Hid (SpIs W0)) (HB : Hid (s.rest.length ≤ N ∧ N ≤ 99999999))
    (ha : Fr.Is 47 [(0, .pointer (some ⟨fb, 0, none⟩)), (5, .int .i64 came), (6, .pointer (some ⟨bx, 0, none⟩)), (25, .func (.func 19) #[.pointer (some ⟨fb, 0, none⟩)] #[])] ⟨tms, []⟩) :
    (rfOf Tryd.f11).wp Tryd.prog (fun e a' w' => e = .normal ∧ ∃ D, a' = ⟨tms, [{ target := .collected D, args := #[] }]⟩ ∧ ∃ lt its ra rc la' lc' s', Hid (Sts W0 w' (tkObsE bx D i fb lt most obs its ra rc la' lc' s')) ∧ Hid (its.map (·.1) = (runS most s).1 ∧ FeQ (runS most s).2 s' ∧ s'.rest.length ≤ N ∧ its.length ≤ N + 1 ∧ N ≤ 99999999)) ⟨tms, []⟩ w := by
  have hS := HS.out
  have hi := HO.out
  have hil : i < obs.length := (List.getElem?_eq_some_iff.1 hi).1
  refine (wpIn_wide (n := 9)).1 ?_
  conv => arg 4; whnf
  refine wpIn_rangeFunc ?_
  intro fn _
  have D1 := stsBox hS (.deferred (some []))
  obtain ⟨W1, hW1⟩ : ∃ W1, W1 = w.alloc (.deferred (some [])) := ⟨_, rfl⟩
  rw [← hW1] at D1
  have L1 := stsBox D1 (.loop (lpRec (rfOf Tryd.f11) fn tms w.heap.size .ready))
  have hs1 : W1.heap.size = w.heap.size + 1 := by rw [hW1]; simp
  obtain ⟨W2, hW2⟩ : ∃ W2, W2 = W1.alloc (.loop (lpRec (rfOf Tryd.f11) fn tms w.heap.size .ready)) := ⟨_, rfl⟩
  rw [← hW2, hs1] at L1
  have hfs : obs.set i (fb :: blk la, FdP fb la lc most s) = obs := by
    apply List.ext_getElem?
    intro j
    by_cases hj : i = j
    · subst hj; rw [List.getElem?_set_self hil]; exact hi.symm
    · rw [List.getElem?_set_ne hj]
  have S3 : Sts W0 W2 (tkObs bx (w.heap.size + 1) w.heap.size i fb fn tms most obs [] none 0 [] la lc s) := by
    have M := stsMap L1 (obs' := ([bx], BlkQ bx (.cells #[.slice none 0 0] 29 (0, 0))) :: ([w.heap.size + 1], BlkQ (w.heap.size + 1) (.loop (lpRec (rfOf Tryd.f11) fn tms w.heap.size .ready))) :: ([w.heap.size], BlkQ w.heap.size (.deferred (some []))) :: obs)
      (fun j => match j with | 0 => 2 | 1 => 0 | 2 => 1 | n + 3 => n + 3) (fun a b e => by
        match a, b, e with
        | 0, 0, _ => rfl
        | 1, 1, _ => rfl
        | 2, 2, _ => rfl
        | a + 3, b + 3, e => simpa using e
        | 0, 1, e | 0, 2, e | 1, 0, e | 1, 2, e | 2, 0, e | 2, 1, e => simp at e
        | 0, b + 3, e | 1, b + 3, e | 2, b + 3, e => simp at e <;> omega
        | a + 3, 0, e | a + 3, 1, e | a + 3, 2, e => simp at e <;> omega) (fun j o h => by
        match j, h with
        | 0, h => simpa using h
        | 1, h => simpa using h
        | 2, h => simpa using h
        | j + 3, h => simpa using h)
    have A := (M.add (F := blk none) (P := RowQ EIt none 0 []) (Below.refl _ _) (fun k hk => by cases hk) RowQ.st (Rw.QRow.bare _ _)).add (F := sBs []) (P := SetsP []) (Below.refl _ _) (fun k hk => by cases hk) sets_stab (fun x hx => by cases hx)
    rw [tkObs, hfs]
    exact A
  have h25 : (⟨tms, []⟩ : Act).eval (.tmp 25) = .func (.func 19) #[.pointer (some ⟨fb, 0, none⟩)] #[] := ha.get (by simp)
  refine ⟨w.heap.size + 1, [{ target := .collected w.heap.size, args := #[] }], W2, { target := .fn (.func 19) #[], args := #[.pointer (some ⟨fb, 0, none⟩), .func (.yield (w.heap.size + 1)) #[] #[]] }, W2, 19,
    #[.pointer (some ⟨fb, 0, none⟩), .func (.yield (w.heap.size + 1)) #[] #[]], W2, ?_, ?_, ?_, ?_, fun h => (by cases h), ?_⟩
  · rw [hW2, hW1]; exact run_enterLoop_outer _ _ _ _ _
  · simp only [resolve, h25]
    simp [go_sem]
  · intro f' _; trivial
  · simp [invoke, go_sem]
  · refine (pitems_in (9 - 1) (runS most s) N HB.out.2 hil HSp.out (ha.less (by simp)) S3 rfl HB.out.1).mono ?_
    rintro e w3 ⟨⟨v, rfl⟩, its, ra', rc', la', lc', s', h1, h2, h3, h4, h5⟩
    have hl : w3.heap[w.heap.size + 1]? = some (.loop (lpRec (rfOf Tryd.f11) fn tms w.heap.size .ready)) := h5.is 3 rfl
    have he := run_endLoop (P := Tryd.prog) hl (by simp [lpRec])
    have T3 := stsPut h5 3 (o' := .loop { lpRec (rfOf Tryd.f11) fn tms w.heap.size .ready with state := .exhausted }) rfl (kept_put w3 _ _) (World.putObj_heap_same (Array.getElem?_eq_some_iff.1 hl).1)
    simp only [tkObs, List.set] at T3
    exact ⟨none, _, he, rfl, w.heap.size, rfl, _, its, ra', rc', la', lc', s', Lib.hid T3, Lib.hid ⟨h1, h2, h3, h4, HB.out.2⟩⟩
end Go.Proofs.YtglhdlkmgmbgeaaDoor

namespace Go.Proofs.YtglhdlkmgmbgeaaDoor
open Go.RowKit Go.Shelf
open Cho Fra Oct Arg Mem Gen Wr Qu Pt Sx Go.Proofs.YtglhdlkmgmbgeaaDoor.Obj
set_option linter.unusedVariables false
set_option linter.unusedSimpArgs false

set_option maxRecDepth 100000 in
set_option maxHeartbeats 1000000 in
theorem tk_r0 {Q : Exit → Act → World → Prop} {fb n cap : Nat} {ad : Option Addr} (a : Act) (w : World)
    (ha : Fr.Is 47 [(0, .pointer (some ⟨fb, 0, none⟩)), (1, .slice ad n cap)] a)
    (hQ : Hid (∀ a', Fr.Is 47 [(0, .pointer (some ⟨fb, 0, none⟩)), (1, .slice ad n cap)] a' → Q .normal a' w)) :
    (Fr.reg Tryd.f11 0).wp Tryd.prog Q a w := by
  obtain ⟨fr, rfl, hfr⟩ := ha.lit
  simp only [List.map_cons, List.map_nil, List.cons.injEq, and_true] at hfr
  conv => arg 2; whnf
  simp only [List.range, List.range.loop, List.map_cons, List.map_nil, hfr]
  clear hfr ha
  go_wp2_with fail
  exact hQ.out _ (Fr.Is.mk rfl rfl)

set_option maxRecDepth 100000 in
set_option maxHeartbeats 1000000 in
theorem tk_r1 {Q : Exit → Act → World → Prop} {fb n cap : Nat} {ad : Option Addr} {o : Bool} (a : Act) (w : World) (HC : Hid (Calls Tryd.prog 15 #[.pointer (some ⟨fb, 0, none⟩)] w fun e w' => e = .returned (.bool o) ∧ w = w'))
    (ha : Fr.Is 47 [(0, .pointer (some ⟨fb, 0, none⟩)), (1, .slice ad n cap)] a)
    (hQ : Hid (∀ a', Fr.Is 47 [(0, .pointer (some ⟨fb, 0, none⟩)), (1, .slice ad n cap), (9, .bool o)] a' → Q .normal a' w)) :
    (Fr.reg Tryd.f11 1).wp Tryd.prog Q a w := by
  obtain ⟨fr, rfl, hfr⟩ := ha.lit
  simp only [List.map_cons, List.map_nil, List.cons.injEq, and_true] at hfr
  conv => arg 2; whnf
  simp only [List.range, List.range.loop, List.map_cons, List.map_nil, hfr]
  clear hfr ha
  go_wp2_with (go_at_call 15; refine HC.out.mono ?_; rintro e w' ⟨rfl, rfl⟩)
  exact hQ.out _ (Fr.Is.mk rfl rfl)

set_option maxRecDepth 100000 in
set_option maxHeartbeats 1000000 in
theorem tk_r2 {Q : Exit → Act → World → Prop} {fb : Nat} (a : Act) (w : World)
    (ha : Fr.Is 47 [(0, .pointer (some ⟨fb, 0, none⟩))] a)
    (hQ : Hid (∀ a', Fr.Is 47 [(4, .slice none 0 0)] a' → Q .normal a' w)) :
    (Fr.reg Tryd.f11 2).wp Tryd.prog Q a w := by
  obtain ⟨fr, rfl, hfr⟩ := ha.lit
  simp only [List.map_cons, List.map_nil, List.cons.injEq, and_true] at hfr
  conv => arg 2; whnf
  simp only [List.range, List.range.loop, List.map_cons, List.map_nil, hfr]
  clear hfr ha
  go_wp2_with fail
  exact hQ.out _ (Fr.Is.mk rfl rfl)

set_option maxRecDepth 100000 in
set_option maxHeartbeats 2000000 in
/-- 'f.left = append(f.left, b...)'. -/
theorem tk_r3 {Q : Exit → Act → World → Prop} {i fb lc cap : Nat} {la ad : Option Addr} {most : Int} {s : FeM} {c : List UInt8} {W0 w : World} {obs : List Th} (a : Act)
    (HS : Hid (Sts W0 w obs)) (HO : Hid (obs[i]? = some (fb :: blk la, FdP fb la lc most s))) (HR : Hid (RB w ad c)) (HB : Hid ((s.rest ++ c).length ≤ 140737488355328))
    (ha : Fr.Is 47 [(0, .pointer (some ⟨fb, 0, none⟩)), (1, .slice ad c.length cap)] a)
    (hQ : Hid (∀ a' w' la2 lc2, Fr.Is 47 [(0, .pointer (some ⟨fb, 0, none⟩))] a' → Sts W0 w' (obs.set i (fb :: blk la2, FdP fb la2 lc2 most ⟨s.rest ++ c, s.aw, s.over⟩)) → Q .normal a' w')) :
    (Fr.reg Tryd.f11 3).wp Tryd.prog Q a w := by
  obtain ⟨fr, rfl, hfr⟩ := ha.lit
  simp only [List.map_cons, List.map_nil, List.cons.injEq, and_true] at hfr
  conv => arg 2; whnf
  simp only [List.range, List.range.loop, List.map_cons, List.map_nil, hfr]
  clear hfr ha
  have hF : FdO fb la lc most s w := HS.out.is i HO.out
  have hlo := (HS.out.all i _ HO.out).lo
  have c2 := hF.cells.2.2.1
  have HOut : Hid (OutB W0.heap.size [] la lc s.rest w) := Lib.hid ⟨hF.row, fun b o s' e => ⟨(hlo b (List.mem_cons_of_mem _ (by rw [e]; exact List.mem_singleton.mpr rfl))).1, fun hm => by cases hm⟩⟩
  have HLe := Lib.hid HS.out.le
  have HG : Hid (∀ la2 lc2 v, Grew W0.heap.size [] w la la2 lc2 (s.rest ++ c) v → (v.cell? ⟨fb, 2, none⟩ = some (.slice la s.rest.length lc) ∧ v.frozen? ⟨fb, 2, none⟩ = false) ∧ Sts W0 (v.setCell ⟨fb, 2, none⟩ (.slice la2 (s.rest ++ c).length lc2)) (obs.set i (fb :: blk la2, FdP fb la2 lc2 most ⟨s.rest ++ c, s.aw, s.over⟩))) := Lib.hid (fun la2 lc2 v hg => fd_grow HS.out HO.out (.inl rfl) hg)
  clear hF hlo
  obtain ⟨L, hL⟩ : ∃ L, L = s.rest ++ c := ⟨_, rfl⟩
  obtain ⟨m, hm⟩ : ∃ m, m = s.rest.length := ⟨_, rfl⟩
  obtain ⟨k, hk⟩ : ∃ k, k = c.length := ⟨_, rfl⟩
  rw [← hL] at HB hQ HG
  rw [← hm] at c2 HG
  rw [← hk]
  have HL := Lib.hid hL
  have HM := Lib.hid hm
  have HKk := Lib.hid hk
  clear hL hm hk
  go_wp2_with (at_builtin; refine wl_bytes0 (B := W0.heap.size) (L := []) Tryd.underlying24 info_by rfl (.tmp 14) (.tmp 15) rfl rfl HM.out HOut.out HLe.out (fun _ h => by cases h) rfl HKk.out HR.out L HL.out HB.out ?_; intro la2 lc2 v hg; obtain ⟨⟨c2', f2'⟩, hE⟩ := HG.out la2 lc2 v hg.out; have HE := Lib.hid hE; clear hE hg)
  exact hQ.out _ _ la2 lc2 (Fr.Is.mk rfl rfl) HE.out

set_option maxRecDepth 100000 in
set_option maxHeartbeats 1000000 in
theorem tk_r4 {Q : Exit → Act → World → Prop} {fb n lc : Nat} {la : Option Addr} (a : Act) (w : World) (c2 : w.cell? ⟨fb, 2, none⟩ = some (.slice la n lc))
    (ha : Fr.Is 47 [(0, .pointer (some ⟨fb, 0, none⟩))] a)
    (hQ : Hid (∀ a', Fr.Is 47 [(0, .pointer (some ⟨fb, 0, none⟩)), (5, .int .i64 n)] a' → Q .normal a' w)) :
    (Fr.reg Tryd.f11 4).wp Tryd.prog Q a w := by
  obtain ⟨fr, rfl, hfr⟩ := ha.lit
  simp only [List.map_cons, List.map_nil, List.cons.injEq, and_true] at hfr
  conv => arg 2; whnf
  simp only [List.range, List.range.loop, List.map_cons, List.map_nil, hfr]
  clear hfr ha
  go_wp2_with fail
  exact hQ.out _ (Fr.Is.mk rfl rfl)

set_option maxRecDepth 100000 in
set_option maxHeartbeats 1000000 in
theorem tk_r5 {Q : Exit → Act → World → Prop} {fb n : Nat} (a : Act) (w : World)
    (ha : Fr.Is 47 [(0, .pointer (some ⟨fb, 0, none⟩)), (5, .int .i64 n)] a)
    (hQ : Hid (∀ a', Fr.Is 47 [(0, .pointer (some ⟨fb, 0, none⟩)), (5, .int .i64 n), (6, .pointer (some ⟨w.heap.size, 0, none⟩))] a' → Q .normal a' (w.alloc (.cells #[.slice none 0 0] 29)))) :
    (Fr.reg Tryd.f11 5).wp Tryd.prog Q a w := by
  obtain ⟨fr, rfl, hfr⟩ := ha.lit
  simp only [List.map_cons, List.map_nil, List.cons.injEq, and_true] at hfr
  conv => arg 2; whnf
  simp only [List.range, List.range.loop, List.map_cons, List.map_nil, hfr]
  clear hfr ha
  go_wp2_with fail
  exact hQ.out _ (Fr.Is.mk rfl rfl)

set_option maxRecDepth 100000 in
set_option maxHeartbeats 1000000 in
theorem tk_r6 {Q : Exit → Act → World → Prop} {fb n bx : Nat} (a : Act) (w : World)
    (ha : Fr.Is 47 [(0, .pointer (some ⟨fb, 0, none⟩)), (5, .int .i64 n), (6, .pointer (some ⟨bx, 0, none⟩))] a)
    (hQ : Hid (∀ a', Fr.Is 47 [(0, .pointer (some ⟨fb, 0, none⟩)), (5, .int .i64 n), (6, .pointer (some ⟨bx, 0, none⟩)), (25, .func (.func 19) #[.pointer (some ⟨fb, 0, none⟩)] #[])] a' → Q .normal a' w)) :
    (Fr.reg Tryd.f11 6).wp Tryd.prog Q a w := by
  obtain ⟨fr, rfl, hfr⟩ := ha.lit
  simp only [List.map_cons, List.map_nil, List.cons.injEq, and_true] at hfr
  conv => arg 2; whnf
  simp only [List.range, List.range.loop, List.map_cons, List.map_nil, hfr]
  clear hfr ha
  go_wp2_with fail
  exact hQ.out _ (Fr.Is.mk rfl rfl)

set_option maxHeartbeats 2000000 in
/-- Take: what is told is what the document tells of the feed. -/
theorem ptake_feed {i fb lc cap N : Nat} {la ad : Option Addr} {most : Int} {s : FeM} {c : List UInt8} {W0 w : World} {obs : List Th} (hS : Sts W0 w obs) (hi : obs[i]? = some (fb :: blk la, FdP fb la lc most s)) (hsp : SpIs W0) (hr : RB w ad c)
    (hN : s.rest.length + c.length ≤ N) (hN2 : N ≤ 99999999) :
    Calls Tryd.prog 11 #[.pointer (some ⟨fb, 0, none⟩), .slice ad c.length cap] w (TakeEnd W0 obs i fb most (feedF most s c) N) := by
  have hil : i < obs.length := (List.getElem?_eq_some_iff.1 hi).1
  have hF : FdO fb la lc most s w := hS.is i hi
  refine (callsIn_wide (n := 9)).1 ?_
  refine callsIn_of_wp_marks Tryd.func11 rfl trivial ?_ rfl
  refine wpIn_wide.2 ?_
  simp only [Tryd.ntmps11, List.size_toArray, List.length_cons, List.length_nil, Nat.reduceAdd, Nat.reduceSub, Array.replicate_succ, Array.replicate_zero, List.push_toArray, List.append_toArray, List.nil_append, List.cons_append]
  refine wp_seq ?_
  refine tk_r0 (fb := fb) (ad := ad) (n := c.length) (cap := cap) _ w (Fr.Is.mk rfl rfl) (Lib.hid (fun a1 g1 => ?_))
  refine wp_seq (wp_seq ?_)
  refine tk_r1 a1 w (Lib.hid (pover_any w hF)) g1 (Lib.hid (fun a2 g2 => ?_))
  cases ho : s.over with
  | true =>
    refine wp_cond_true (g2.get (i := 9) (v := .bool true) (by simp [ho])) ?_
    refine wp_seq ?_
    refine tk_r2 (fb := fb) a2 w (g2.less (by simp)) (Lib.hid (fun a3 g3 => ?_))
    refine wp_ret ?_
    try dsimp only [Exit.then, Exit.inBlock]
    have e : feedF most s c = ([], s) := by rw [feedF, if_pos ho]
    have hfs : obs.set i (fb :: blk la, FdP fb la lc most s) = obs := by
      apply List.ext_getElem?
      intro j
      by_cases hj : i = j
      · subst hj; rw [List.getElem?_set_self hil]; exact hi.symm
      · rw [List.getElem?_set_ne hj]
    have A := (hS.add (F := blk none) (P := RowQ EIt none 0 []) (Below.refl _ _) (fun k hk => by cases hk) RowQ.st (Rw.QRow.bare _ _)).add (F := sBs []) (P := SetsP []) (Below.refl _ _) (fun k hk => by cases hk) sets_stab (fun x hx => by cases hx)
    have HE : TakeEnd W0 obs i fb most (feedF most s c) N (.returned (.slice none 0 0)) w := ⟨[], none, 0, la, lc, s, rfl, by rw [e]; rfl, by rw [e]; exact FeQ.refl _, by omega, by simp, by rw [hfs]; exact A⟩
    obtain ⟨tm3, d3⟩ := a3
    obtain rfl : d3 = [] := g3.1
    have h4 : tm3.getD 4 undef = .slice none 0 0 := g3.2.2 (4, .slice none 0 0) (List.mem_singleton.mpr rfl)
    refine ⟨_, results_tmp rfl _ _ _, ?_⟩
    show TakeEnd W0 obs i fb most (feedF most s c) N (.returned (tm3.getD 4 undef)) w
    rw [h4]
    exact HE
  | false =>
    refine wp_cond_false (g2.get (i := 9) (v := .bool false) (by simp [ho])) ?_
    refine wp_skip ?_
    have hl : (s.rest ++ c).length ≤ N := by rw [List.length_append]; exact hN
    refine wp_seq ?_
    refine tk_r3 (cap := cap) a2 (Lib.hid hS) (Lib.hid hi) (Lib.hid hr) (Lib.hid (by omega)) (g2.less (by simp)) (Lib.hid (fun a3 w3 la3 lc3 g3 S3 => ?_))
    have hi3 : (obs.set i (fb :: blk la3, FdP fb la3 lc3 most ⟨s.rest ++ c, s.aw, s.over⟩))[i]? = some (fb :: blk la3, FdP fb la3 lc3 most ⟨s.rest ++ c, s.aw, s.over⟩) := by rw [List.getElem?_set_self hil]
    have hF3 : FdO fb la3 lc3 most ⟨s.rest ++ c, s.aw, s.over⟩ w3 := S3.is i hi3
    refine wp_seq ?_
    refine tk_r4 a3 w3 hF3.cells.2.2.1 g3 (Lib.hid (fun a4 g4 => ?_))
    refine wp_seq ?_
    refine tk_r5 a4 w3 g4 (Lib.hid (fun a5 g5 => ?_))
    have S5 := stsBox S3 (.cells #[.slice none 0 0] 29)
    generalize w3.alloc (.cells #[.slice none 0 0] 29) = w5 at S5 ⊢
    generalize w3.heap.size = bx at S5 g5
    refine wp_seq (wp_seq ?_)
    refine tk_r6 a5 w5 g5 (Lib.hid (fun a6 g6 => ?_))
    obtain ⟨hd6, hs6⟩ := (show a6.defers = [] ∧ True from ⟨g6.1, trivial⟩)
    obtain ⟨tms, dfs⟩ := a6
    simp only at hd6
    subst hd6
    refine wp_block ?_
    rw [ho] at S5 hi3
    refine wp_mono (tk_mid (s := ⟨s.rest ++ c, s.aw, false⟩) (N := N) tms (Lib.hid S5) (Lib.hid hi3) (Lib.hid hsp) (Lib.hid ⟨hl, hN2⟩) g6) ?_
    rintro e a7 w7 ⟨rfl, D, rfl, lt, its, ra, rc, la', lc', s', H7, H8⟩
    try dsimp only [Exit.then, Exit.inBlock]
    have e7 : feedF most s c = runS most ⟨s.rest ++ c, s.aw, false⟩ := feed_run most s c ho
    have := tk_tail (i := i) (came := (s.rest ++ c).length) (T := feedF most s c) (obs := obs) (N := N) (its := its) (ra := ra) (rc := rc) (la := la') (lc := lc') (s := s') (bx := bx) (D := D) (lt := lt) (most := most) (fb := fb) (W0 := W0) (w := w7) tms (by simpa only [tkObsE, List.set_set] using H7) (Lib.hid hil) (by rw [e7]; exact H8) (g6.less (by simp))
    exact this
end Go.Proofs.YtglhdlkmgmbgeaaDoor
