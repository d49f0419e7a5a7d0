/- Layer 7: what the laws need of feeds, without the program. Rows of bytes, and rows of such rows, that came in. Layer 7: what the laws call: a feed among other things; the law's awake, and joined. Several things in memory: appends of rows that may be empty, an empty row, an element that is written. -/
import Derived.Test.YtglhdlkmgmbgeaaDoorGP02
import Derived.Test.YtglhdlkmgmbgeaaDoorGP05
import Derived.Test.YtglhdlkmgmbgeaaDoorGP03
import Derived.Test.YtglhdlkmgmbgeaaDoorGP11
import Derived.Test.YtglhdlkmgmbgeaaDoorGD05
import Derived.LoopTactic
import Derived.Test.YtglhdlkmgmbgeaaDoorGP10
import Derived.Test.YtglhdlkmgmbgeaaDoorGP08
set_option linter.unusedVariables false
set_option linter.unusedSimpArgs false
namespace Go.Proofs.YtglhdlkmgmbgeaaDoor
namespace Cho
open Fra Oct
set_option linter.unusedVariables false

theorem feed_q {most : Int} {a b : FeM} (h : FeQ a b) (c : List UInt8) : (feedF most a c).1 = (feedF most b c).1 ∧ FeQ (feedF most a c).2 (feedF most b c).2 := by
  cases ho : a.over with
  | true =>
    have hb : b.over = true := by rw [← h.over]; exact ho
    rw [feedF, if_pos ho, feedF, if_pos hb]
    exact ⟨rfl, h⟩
  | false =>
    have : a = b := by
      obtain ⟨r, w, o⟩ := a
      obtain ⟨r2, w2, o2⟩ := b
      have h1 := h.rest
      have h2 := h.over
      have h3 := h.aw ho
      simp only at h1 h2 h3
      subst h1 h2 h3
      rfl
    subst this
    exact ⟨rfl, FeQ.refl _⟩
theorem feQ_symm {a b : FeM} (h : FeQ a b) : FeQ b a := ⟨h.rest.symm, h.over.symm, fun e => (h.aw (by rw [h.over]; exact e)).symm⟩
/-- A piece more: what is told so far, and the feed, are those of all bytes. -/
theorem feed_more {most : Int} {aw : Bool} {B c : List UInt8} {s s' : FeM} (h : FeQ (stF most aw B) s) (h' : FeQ (feedF most s c).2 s') :
    (allF (B ++ c) most aw).1 = (allF B most aw).1 ++ (feedF most s c).1 ∧ FeQ (stF most aw (B ++ c)) s' := by
  have hq := feed_q (most := most) h c
  obtain ⟨h1, h2, h3⟩ := feed_step most aw B c
  refine ⟨by rw [h1, hq.1], ?_⟩
  have h4 := hq.2.trans h'
  cases ho : (allF B most aw).2.2 with
  | false => rw [← h2 ho]; exact h4
  | true =>
    obtain ⟨e1, e2, e3⟩ := h3 ho
    refine ⟨?_, ?_, fun e => ?_⟩
    · rw [← h4.rest, e3]; simp only [stF]; rw [e1]
    · rw [← h4.over, e2]; simp only [stF]; rw [e1]; exact ho
    · simp only [stF] at e; rw [e1, ho] at e; cases e
theorem stF_nil (most : Int) (aw : Bool) : stF most aw [] = ⟨[], aw, false⟩ := by
  have h0 : steps [] most = ([], [], false) := by rw [steps_eq, if_pos ⟨rfl, rfl⟩]
  cases aw with
  | false => rw [stF, all_no, h0]; rfl
  | true =>
    rw [stF, all_short most [] (by simp) (by simp)]; rfl
theorem all_nil (most : Int) (aw : Bool) : (allF [] most aw).1 = [] := by
  have h0 : steps [] most = ([], [], false) := by rw [steps_eq, if_pos ⟨rfl, rfl⟩]
  cases aw with
  | false => rw [all_no, h0]
  | true => rw [all_short most [] (by simp) (by simp)]
theorem steps_len (most : Int) : ∀ (n : Nat) (b : List UInt8), b.length ≤ n → (steps b most).1.length ≤ b.length + 1 ∧ (steps b most).2.1.length ≤ b.length := by
  intro n
  induction n with
  | zero =>
    intro b hb
    have : b = [] := List.eq_nil_of_length_eq_zero (by omega)
    subst this
    rw [steps_eq, if_pos ⟨rfl, rfl⟩]; simp
  | succ n ih =>
    intro b hb
    rw [steps_eq]
    split
    · simp
    · split
      · simp
      · rename_i h1 h2
        have hn := take_n b most h2
        have hd : (b.drop (takeF b most).2.1).length = b.length - (takeF b most).2.1 := List.length_drop
        have := ih (b.drop (takeF b most).2.1) (by omega)
        simp only [List.length_cons]
        omega
theorem all_len (b : List UInt8) (most : Int) (aw : Bool) : (allF b most aw).1.length ≤ b.length + 1 ∧ (allF b most aw).2.1.length ≤ b.length := by
  cases aw with
  | false => rw [all_no]; exact steps_len most _ b (Nat.le_refl _)
  | true =>
    by_cases hb : b.take 24 ≠ prefL.take b.length
    · rw [all_bad _ _ hb]; simp
    · by_cases hl : b.length < 24
      · rw [all_short _ _ hb hl]; simp
      · rw [all_yes _ _ hb hl]
        have := steps_len most _ (b.drop 24) (Nat.le_refl _)
        rw [List.length_drop] at this
        omega
/-- All bytes at once. -/
theorem feed_all (most : Int) (aw : Bool) (b : List UInt8) : (feedF most ⟨[], aw, false⟩ b).1 = (allF b most aw).1 ∧ FeQ (feedF most ⟨[], aw, false⟩ b).2 (stF most aw b) := by
  rw [feed_run most _ _ rfl, List.nil_append, run_live]
  exact ⟨rfl, FeQ.refl _⟩
theorem stF_over (most : Int) (aw : Bool) (b : List UInt8) : (stF most aw b).over = (allF b most aw).2.2 := rfl
theorem stF_rest (most : Int) (aw : Bool) (b : List UInt8) : (stF most aw b).rest = (allF b most aw).2.1 := rfl
end Cho
end Go.Proofs.YtglhdlkmgmbgeaaDoor

namespace Go.Proofs.YtglhdlkmgmbgeaaDoor
open Go.RowKit
open Arg Mem Gen Wr Go.Proofs.YtglhdlkmgmbgeaaDoor.Obj
set_option linter.unusedVariables false

/-- A row of bytes that came in. -/
theorem bytes_in {w : World} {ad : Option Addr} {len cap : Nat} (h : Slc w [.int .u8] ad len cap) :
    ∃ l : List UInt8, l.length = len ∧ RB w ad l ∧ len ≤ cap ∧ cap ≤ maxLen := by
  obtain ⟨l, hl, hr⟩ := Slc.row (C := fun w b o (d : UInt8) => Rw.CE EBy w b o d) h (fun b o hc => by
    obtain ⟨⟨v1, c1, l1⟩, _⟩ := hc
    obtain ⟨z, rfl, w1⟩ := l1.int
    have hzz := u8_back w1
    refine ⟨UInt8.ofNat z.toNat, fun r v hv => ?_⟩
    match r, hv with
    | 0, hv => simp only [EBy, List.getElem?_cons_zero, Option.some.injEq] at hv; subst hv; rw [hzz]; exact c1
    | r + 1, hv => simp [EBy] at hv)
  refine ⟨l, hl, rb_of_q ?_, h.1, h.2.1⟩
  rcases hr with hr | ⟨b, off, e, hc⟩
  · exact .inl hr
  · exact .inr ⟨b, off, e, fun i hi => hc i hi⟩

/-- A block in a row of blocks. -/
structure BlM where
  ad : Option Addr
  cap : Nat
  l : List UInt8
def EBl : Rw.Enc BlM where
  enc d := [.slice d.ad d.l.length d.cap]
  k := 1
  pos := by decide
  len _ := rfl
  one x v h := by
    simp only [List.mem_cons, List.not_mem_nil, or_false] at h
    subst h; rfl
def BlM.ok (w : World) (d : BlM) : Prop := RB w d.ad d.l ∧ d.l.length ≤ d.cap ∧ d.cap ≤ 140737488351232 ∧ (d.ad = none → d.cap = 0)
theorem blocks_in {w : World} {ad : Option Addr} {len cap : Nat} (h : Slc w [.slc 1 [.int .u8]] ad len cap) :
    ∃ l : List BlM, l.length = len ∧ Rw.RowE EBl w ad l ∧ (∀ d ∈ l, d.ok w) ∧ len ≤ cap ∧ cap ≤ maxLen := by
  obtain ⟨l, hl, hr⟩ := Slc.row (C := fun w b o d => Rw.CE EBl w b o d ∧ BlM.ok w d) h (fun b o hc => by
    obtain ⟨⟨v1, c1, l1⟩, _⟩ := hc
    obtain ⟨ad1, len1, cap1, rfl, hc1, hs⟩ := l1.slc
    obtain ⟨q, hq, hrb, hlc, hcm⟩ := bytes_in hs
    refine ⟨⟨ad1, cap1, q⟩, fun r v hv => ?_, hrb, by simp only; omega, by simp only; omega, hs.2.2.1⟩
    match r, hv with
    | 0, hv => simp only [EBl, List.getElem?_cons_zero, Option.some.injEq] at hv; subst hv; rw [hq]; exact c1
    | r + 1, hv => simp [EBl] at hv)
  refine ⟨l, hl, ?_, ?_, h.1, h.2.1⟩
  · rcases hr with hr | ⟨b, off, e, hc⟩
    · exact .inl hr
    · exact .inr ⟨b, off, e, fun i hi => (hc i hi).1⟩
  · rcases hr with rfl | ⟨b, off, e, hc⟩
    · intro d hd; cases hd
    · intro d hd
      obtain ⟨i, hi, rfl⟩ := List.getElem_of_mem hd
      exact (hc i hi).2
theorem CE_bl {w : World} {b o : Nat} {d : BlM} (h : Rw.CE EBl w b o d) : w.cell? ⟨b, o, none⟩ = some (.slice d.ad d.l.length d.cap) := h 0 _ rfl

end Go.Proofs.YtglhdlkmgmbgeaaDoor

namespace Go.Proofs.YtglhdlkmgmbgeaaDoor
open Go.RowKit
open Cho Fra Oct Arg Mem Gen Wr Qu Pt Sx Go.Proofs.YtglhdlkmgmbgeaaDoor.Obj
set_option linter.unusedVariables false
set_option linter.unusedSimpArgs false

/-- A new feed. -/
theorem st_feed {W w : World} {obs : List Th} (most : Int) (aw : Bool) (hS : Sts W w obs) :
    Calls Tryd.prog 10 #[.int .i64 most, .bool aw] w fun e w' => ∃ fb, e = .returned (.pointer (some ⟨fb, 0, none⟩)) ∧ Sts W w' ((fb :: blk none, FdP fb none 0 (max most 0) ⟨[], aw, false⟩) :: obs) := by
  refine (pnew_any most aw w).mono ?_
  rintro e w' ⟨rfl, rfl⟩
  refine ⟨_, rfl, hS.add (bel_al w _) (fun k hk => ?_) fdP_st ⟨heap_alloc_new w _, Rw.QRow.bare _ _, fun b o s' e => by cases e⟩⟩
  simp only [blk, List.mem_singleton] at hk
  subst hk
  simp
/-- A row of bytes as a row that may grow. -/
theorem st_out {W w : World} {obs : List Th} {oa : Option Addr} {oc : Nat} {l : List UInt8} (hS : Sts W w obs) (i : Nat) (hi : obs[i]? = some (blk oa, RowQ EBy oa oc l)) : OutB W.heap.size [] oa oc l w :=
  ⟨hS.is i hi, fun b o s e => ⟨((hS.all i _ hi).lo b (by rw [e]; exact List.mem_singleton.mpr rfl)).1, fun hm => by cases hm⟩⟩
theorem st_bytes {W w v : World} {obs : List Th} {oa oa2 : Option Addr} {oc oc2 : Nat} {l l3 : List UInt8} {B : Nat} {L : List Nat} (hS : Sts W w obs) (i : Nat) (hi : obs[i]? = some (blk oa, RowQ EBy oa oc l)) (hg : Grew B L w oa oa2 oc2 l3 v) : Sts W v (obs.set i (blk oa2, RowQ EBy oa2 oc2 l3)) := by
  have hk : Kept (blk oa) w v := ⟨hg.std.os, hg.std.tape, hg.std.output, hg.std.size, fun k hk hn => hg.blk k hk (fun o s' e => hn (by rw [e]; exact List.mem_singleton.mpr rfl))⟩
  refine hS.turn hi hk (fun k hk => ?_) (qr_lt hg.out.row) RowQ.st hg.out.row
  obtain ⟨o, s, e⟩ := mem_blk hk
  rcases hg.new k o s e with ⟨o', e'⟩ | h
  · exact .inl (by rw [e']; exact List.mem_singleton.mpr rfl)
  · exact .inr h
/-- A row of bytes that is written out. -/
theorem rb_lit (w : World) (l : List UInt8) (t : TypeId) : RB (w.alloc (.cells (bvs l).toArray t)) (some ⟨w.heap.size, 0, none⟩) l := .inr ⟨_, _, rfl, fun i hi => by
  rw [Nat.zero_add, cell_at (heap_alloc_new w _) i]
  simp [bvs, hi]⟩
/-- One thing behind another. -/
theorem stsStack {W w w' : World} {obs L : List Th} (hS : Sts W w obs) (hT : Sts w w' L) : Sts W w' (L ++ obs) := by
  have h' := hS.below hT.bel
  refine ⟨h'.bel, fun i o hi => ?_, fun i j x y hn hi hj => ?_⟩
  · by_cases h : i < L.length
    · rw [List.getElem?_append_left h] at hi
      have := hT.all i o hi
      exact ⟨this.is, fun k hk => ⟨Nat.le_trans hS.le (this.lo k hk).1, (this.lo k hk).2⟩, this.st⟩
    · rw [List.getElem?_append_right (by omega)] at hi
      exact h'.all _ o hi
  · by_cases h1 : i < L.length
    · rw [List.getElem?_append_left h1] at hi
      by_cases h2 : j < L.length
      · rw [List.getElem?_append_left h2] at hj
        exact hT.ap i j x y hn hi hj
      · rw [List.getElem?_append_right (by omega)] at hj
        intro k hk hm
        have a := ((hT.all i x hi).lo k hk).1
        have b := ((hS.all _ y hj).lo k hm).2
        omega
    · rw [List.getElem?_append_right (by omega)] at hi
      by_cases h2 : j < L.length
      · rw [List.getElem?_append_left h2] at hj
        intro k hk hm
        have a := ((hT.all j y hj).lo k hm).1
        have b := ((hS.all _ x hi).lo k hk).2
        omega
      · rw [List.getElem?_append_right (by omega)] at hj
        exact h'.ap _ _ x y (by omega) hi hj

theorem aw7_1 : feedF 16384 ⟨[], false, false⟩ [0, 0, 0, 4] = ([], ⟨[0, 0, 0, 4], false, false⟩) := by decide +kernel
def aIt : ItM := (feedF 16384 ⟨[0, 0, 0, 4], false, false⟩ [1, 0, 0, 0, 0]).1.headD ⟨noFr, noFa⟩
theorem aw7_2 : feedF 16384 ⟨[0, 0, 0, 4], false, false⟩ [1, 0, 0, 0, 0] = ([aIt], ⟨[], false, false⟩) := by decide +kernel
theorem aw7_3 : aIt.f.type = 4 := by decide +kernel
theorem feQ_eq {a b : FeM} (h : FeQ a b) (ho : a.over = false) : b = a := by
  obtain ⟨r, w, o⟩ := a
  obtain ⟨r2, w2, o2⟩ := b
  have h1 := h.rest
  have h2 := h.over
  have h3 := h.aw ho
  simp only at h1 h2 h3
  subst h1 h2 h3
  rfl

set_option maxRecDepth 100000 in
set_option maxHeartbeats 2000000 in
theorem awake7_any (w : World) (hs : SpIs w) : Calls Tryd.prog 8 #[] w fun e w' => e = .returned (.bool true) ∧ Below w.heap.size w w' := by
  have HS := Lib.hid hs
  clear hs
  go_enter Tryd.func8, Tryd.ntmps8
  go_wp2_with fail
  refine (st_feed 16384 false (Sts.nil w)).mono ?_; rintro e w1 ⟨fb, rfl, S1⟩
  have H1 := Lib.hid S1
  clear S1
  go_wp2_with fail
  have hr := rb_lit w1 [0, 0, 0, 4] 5
  have S2 := H1.out.below (bel_al w1 (.cells (bvs [0, 0, 0, 4]).toArray 5))
  have ht := ptake_feed (cap := 4) (N := 10) S2 (i := 0) rfl HS.out hr (by decide) (by decide)
  rw [show max (16384 : Int) 0 = 16384 from rfl, aw7_1] at ht
  change Calls Tryd.prog _ _ (w1.alloc (.cells #[.int .u8 0, .int .u8 0, .int .u8 0, .int .u8 4] 5)) _ at ht
  refine ht.mono ?_
  rintro e w3 ⟨its, ra, rc, la, lc, s, rfl, hm, hq, _, _, S3⟩
  have hits : its = [] := by simpa using hm
  subst hits
  have hs' := feQ_eq hq rfl
  subst hs'
  have H3 := Lib.hid S3
  clear ht hr S2 S3 hm hq H1
  have hF : FdO fb la lc 16384 ⟨[0, 0, 0, 4], false, false⟩ w3 := H3.out.is 2 rfl
  have HL := Lib.hid (pleft_any w3 hF)
  clear hF
  go_wp2_with fail
  refine HL.out.mono ?_; rintro e w4 ⟨rfl, rfl⟩
  go_wp2_with fail
  have hr := rb_lit w3 [1, 0, 0, 0, 0] 5
  have S4 := H3.out.below (bel_al w3 (.cells (bvs [1, 0, 0, 0, 0]).toArray 5))
  have ht := ptake_feed (cap := 5) (N := 10) S4 (i := 2) rfl HS.out hr (by decide) (by decide)
  rw [aw7_2] at ht
  change Calls Tryd.prog _ _ (w3.alloc (.cells #[.int .u8 1, .int .u8 0, .int .u8 0, .int .u8 0, .int .u8 0] 5)) _ at ht
  refine ht.mono ?_
  rintro e w5 ⟨its, ra2, rc2, la2, lc2, s, rfl, hm, hq, _, _, S5⟩
  obtain ⟨x, rfl⟩ := List.length_eq_one_iff.mp (show its.length = 1 by have h := congrArg List.length hm; simpa using h)
  have hx : x.1 = aIt := by simpa using hm
  have hs' := feQ_eq hq rfl
  subst hs'
  have H5 := Lib.hid S5
  clear ht hr S4 S5 hm hq H3 HL
  have hF : FdO fb la2 lc2 16384 ⟨[], false, false⟩ w5 := H5.out.is 4 rfl
  have HL := Lib.hid (pleft_any w5 hF)
  have HO := Lib.hid (pover_any w5 hF)
  have hrow : Rw.QRow EIt w5 ra2 rc2 [x] := H5.out.is 1 rfl
  obtain ⟨b0, o0, rfl, hc⟩ := hrow.row.resolve_left (by simp)
  have c0 := (CE_it (hc 0 (by simp))).1
  simp only [List.getElem_cons_zero, Nat.zero_mul, Nat.add_zero, hx, aw7_3] at c0
  have HB := Lib.hid H5.out.bel
  clear hF hrow hc H5 hx
  go_wp2_with (first
    | (go_at_call 14; refine HL.out.mono ?_; rintro e w6 ⟨rfl, rfl⟩)
    | (go_at_call 15; refine HO.out.mono ?_; rintro e w6 ⟨rfl, rfl⟩))
  go_ret
  exact ⟨rfl, HB.out⟩

/-- All pieces behind each other. -/
def catB (l : List BlM) : List UInt8 := (l.map (·.l)).flatten
theorem catB_app (a b : List BlM) : catB (a ++ b) = catB a ++ catB b := by simp [catB]
theorem catB_succ {l : List BlM} {k : Nat} (h : k < l.length) : catB (l.take (k + 1)) = catB (l.take k) ++ l[k].l := by
  rw [← List.take_append_getElem h, catB_app]; simp [catB]
theorem catB_le (l : List BlM) (k : Nat) : (catB (l.take k)).length ≤ (catB l).length := by
  have h := congrArg List.length (catB_app (l.take k) (l.drop k))
  rw [List.take_append_drop, List.length_append] at h
  omega
/-- Aren't the pieces too many bytes? -/
def joB : Nat → Nat → List BlM → Bool
  | _, _, [] => true
  | n, i, d :: r => if 65536 < d.l.length ∨ 65536 < n ∨ 4096 < i then false else joB (n + d.l.length) (i + 1) r
theorem joB_len : ∀ (l : List BlM) (n i : Nat), joB n i l = true → n ≤ 131072 → n + (catB l).length ≤ 131072
  | [], n, i, _, hn => by simpa [catB] using hn
  | d :: r, n, i, h, hn => by
    rw [joB] at h
    split at h
    · cases h
    · rename_i hc
      have := joB_len r (n + d.l.length) (i + 1) h (by omega)
      simp only [catB, List.map_cons, List.flatten_cons, List.length_append] at this ⊢
      omega

set_option maxRecDepth 100000 in
set_option maxHeartbeats 2000000 in
theorem joined_any (l : List BlM) (ad : Option Addr) (cap : Nat) (w : World) (hr : Rw.RowE EBl w ad l) (hok : ∀ d ∈ l, d.ok w) (hl : l.length ≤ 9223372036854775807) :
    Calls Tryd.prog 9 #[.slice ad l.length cap] w fun e w' => ∃ oa oc n, e = .returned (.tuple #[.slice oa n oc, .bool (joB 0 0 l)]) ∧ Below w.heap.size w w' ∧ (joB 0 0 l = true → n = (catB l).length ∧ Sts w w' [(blk oa, RowQ EBy oa oc (catB l))]) := by
  have HRw := Lib.hid hr
  have HOk := Lib.hid hok
  generalize hJ : joB 0 0 l = J
  have HJ := Lib.hid hJ
  obtain ⟨n, hn⟩ : ∃ n, n = l.length := ⟨_, rfl⟩
  rw [← hn] at hl ⊢
  have HN := Lib.hid hn
  clear hr hok hJ hn
  go_enter Tryd.func9, Tryd.ntmps9
  go_wp2_with fail
  go_loopw [4, 5] (fun vb vi wr => ∃ (k : Nat) (oa : Option Addr) (oc m : Nat), k ≤ n ∧ m ≤ 131072 ∧ k ≤ 4097 ∧ vi = .int .i64 k ∧ vb = .slice oa m oc ∧ Hid (m = (catB (l.take k)).length ∧ joB m k (l.drop k) = J) ∧ Hid (Sts w wr [(blk oa, RowQ EBy oa oc (catB (l.take k)))])) (fun _ vi _ => n - (intOf vi).toNat)
  case atStart => exact ⟨0, none, 0, 0, Nat.zero_le _, by omega, by omega, rfl, rfl, Lib.hid ⟨by simp [catB], by simpa using HJ.out⟩, Lib.hid ((Sts.nil w).add (F := blk none) (P := RowQ EBy none 0 []) (Below.refl _ _) (fun k hk => by cases hk) RowQ.st (Rw.QRow.bare _ _))⟩
  case round =>
    obtain ⟨k, oa, oc, m, hk, hm, hk4, rfl, rfl, HM, HS⟩ := hrel
    by_cases hlt : k < n
    · have hlt' : (k : Int) < n := by omega
      have hlr : k < l.length := by rw [← HN.out]; exact hlt
      obtain ⟨bl, off, rfl, hcs⟩ : ∃ b off, ad = some ⟨b, off, none⟩ ∧ ∀ i, (h : i < l.length) → Rw.CE EBl w b (off + i * 1) l[i] := by
        rcases HRw.out with h | h
        · rw [h] at hlr; simp at hlr
        · exact h
      have x0 := below_cell HS.out.bel (CE_bl (hcs k hlr))
      rw [Nat.mul_one] at x0
      have hdr : l.drop k = l[k] :: l.drop (k + 1) := List.drop_eq_getElem_cons hlr
      have hd := HOk.out l[k] (List.getElem_mem hlr)
      have HCat := Lib.hid (catB_succ hlr)
      have HJ2 : Hid (joB m k (l[k] :: l.drop (k + 1)) = J) := Lib.hid (by rw [← hdr]; exact HM.out.2)
      have hml := hd.2
      have HRb := Lib.hid (hd.1.below HS.out.bel)
      clear hcs hdr hd
      generalize l[k] = d at *
      obtain ⟨da, dc, dl⟩ := d
      simp only at x0 HRb hml
      by_cases hbad : 65536 < dl.length ∨ 65536 < m ∨ 4096 < k
      · have hJf : J = false := by rw [← HJ2.out, joB, if_pos hbad]
        subst hJf
        have HB := Lib.hid HS.out.bel
        clear HJ2 HCat HM HS HRb
        obtain ⟨q, hq⟩ : ∃ q, q = dl.length := ⟨_, rfl⟩
        rw [← hq] at x0 hbad hml
        clear hq
        by_cases h1 : 65536 < q
        · have h1' : (q : Int) > 65536 := by omega
          go_wp2_with fail
          go_ret2
          first | exact ⟨⟨_, _, 0, rfl⟩, HB.out⟩ | exact ⟨_, _, 0, rfl, HB.out, fun h => (by cases h)⟩
        · have h1' : ¬ (q : Int) > 65536 := by omega
          by_cases h2 : 65536 < m
          · have h2' : (m : Int) > 65536 := by omega
            go_wp2_with fail
            go_ret2
            first | exact ⟨⟨_, _, 0, rfl⟩, HB.out⟩ | exact ⟨_, _, 0, rfl, HB.out, fun h => (by cases h)⟩
          · have h2' : ¬ (m : Int) > 65536 := by omega
            have h3' : (k : Int) > 4096 := by omega
            go_wp2_with fail
            go_ret2
            first | exact ⟨⟨_, _, 0, rfl⟩, HB.out⟩ | exact ⟨_, _, 0, rfl, HB.out, fun h => (by cases h)⟩
      · have HJ3 : Hid (joB (m + dl.length) (k + 1) (l.drop (k + 1)) = J) := Lib.hid (by rw [← HJ2.out, joB, if_neg hbad])
        have HOut := Lib.hid (st_out HS.out 0 rfl)
        have HLe := Lib.hid HS.out.le
        obtain ⟨C, hC⟩ : ∃ C, C = catB (l.take (k + 1)) := ⟨_, rfl⟩
        have HC2 : Hid (C = catB (l.take k) ++ dl) := Lib.hid (by rw [hC]; exact HCat.out)
        have HCl : Hid (C.length = m + dl.length) := Lib.hid (by rw [HC2.out, List.length_append, HM.out.1])
        have HLen : Hid (C.length ≤ 140737488355328) := Lib.hid (by rw [HCl.out]; omega)
        have HM1 := Lib.hid HM.out.1
        have HCe := Lib.hid hC
        clear HJ2 HCat HM hC
        obtain ⟨q, hq⟩ : ∃ q, q = dl.length := ⟨_, rfl⟩
        have HQ := Lib.hid hq
        rw [← hq] at x0 hbad hml HJ3 HCl
        clear hq
        have h1' : ¬ (q : Int) > 65536 := by omega
        have h2' : ¬ (m : Int) > 65536 := by omega
        have h3' : ¬ (k : Int) > 4096 := by omega
        go_wp2_with (at_builtin; refine wl_bytes0 (B := w.heap.size) (L := []) Tryd.underlying24 info_by rfl (.tmp 27) (.tmp 31) rfl rfl HM1.out HOut.out HLe.out (fun _ h => by cases h) rfl HQ.out HRb.out C HC2.out HLen.out ?_; intro oa2 oc2 v hg; have HS2 := Lib.hid (st_bytes HS.out 0 rfl hg.out); clear hg)
        go_roundw
        case rel => exact ⟨k + 1, oa2, oc2, C.length, by omega, by rw [HCl.out]; omega, by omega, by go_num, rfl, Lib.hid ⟨by rw [HCe.out], by rw [HCl.out]; exact HJ3.out⟩, Lib.hid (by rw [← HCe.out]; exact HS2.out)⟩
        case measure => simp [intOf]; omega
    · have hkn : k = n := by omega
      subst hkn
      have hlt' : ¬ (k : Int) < k := by omega
      have hJt : J = true := by rw [← HM.out.2, List.drop_eq_nil_of_le (by rw [← HN.out]; exact Nat.le_refl _)]; rfl
      subst hJt
      have HE : Hid (m = (catB l).length ∧ Sts w wr [(blk oa, RowQ EBy oa oc (catB l))]) := Lib.hid (by
        have e : l.take k = l := List.take_of_length_le (by rw [← HN.out]; exact Nat.le_refl _)
        have h1 := HM.out.1
        have h2 := HS.out
        rw [e] at h1 h2
        exact ⟨h1, h2⟩)
      clear HM HS
      go_wp2_with fail
      go_ret2
      first | exact ⟨oa, oc, m, rfl, HE.out.2.bel, fun _ => HE.out⟩ | exact ⟨oa, oc, m, rfl, HE.out.2.bel, HE.out⟩ | exact ⟨oa, oc, ⟨rfl, rfl, rfl⟩, HE.out.2.bel, HE.out⟩
end Go.Proofs.YtglhdlkmgmbgeaaDoor

namespace Go.Proofs.YtglhdlkmgmbgeaaDoor
open Go.RowKit
open Arg Mem Wr Sx Go.Proofs.YtglhdlkmgmbgeaaDoor.Obj
set_option linter.unusedVariables false
set_option linter.unusedSimpArgs false
section
open Rw
variable {P : Program} {t e : TypeId} {i : TypeInfo} {z : Value} {by' : Nat}
/-- 'append(q, l...)', l perhaps empty, perhaps nil. -/
theorem run_append_que0 {α : Type} (E : Enc α) (w : World) (ty : TypeId) (ht : P.underlying t = some (.slice e)) (hi : P.info? e = some i) (hz : i.zero = some z) (hsize : i.size = E.k) (hby : i.bytes = by') (hzs : z.cells.size = E.k)
    (ad : Option Addr) (cap : Nat) (l : List α) (h : QRow E w ad cap l) (a2 : Option Addr) (c : Nat) (l2 : List α) (hr : RowE E w a2 l2) (hlen : l.length + l2.length ≤ maxLen) (hbytes : (l.length + l2.length) * by' ≤ 140737488355328) :
    ∃ ad' cap' w', (Builtin.append_ #[t, t] ty #[.slice ad l.length cap, .slice a2 l2.length c]).run P w = .ok (.slice ad' (l.length + l2.length) cap') w' ∧ QRow E w' ad' cap' (l ++ l2) ∧ w.grownBy w' (ad.map (·.block)) ∧
      (∀ b o s, ad' = some ⟨b, o, s⟩ → (∃ o', ad = some ⟨b, o', .none⟩) ∨ w.heap.size ≤ b) := by
  by_cases hne : l2 = []
  · subst hne
    have hsrc : Src P i.size t (.slice a2 0 c) 0 [] w := by
      cases a2 with
      | none => exact Src.ofNil w ht c
      | some a => exact Src.ofSlice w ht a 0 c [] (by simp) (fun j u e => by simp at e) (fun u e => by cases e)
    refine ⟨ad, cap, w, ?_, by simpa using h, ⟨rfl, rfl, rfl, Nat.le_refl _, fun _ _ _ => rfl⟩, fun b o s e => .inl ?_⟩
    · have hle := h.le
      cases ad with
      | none =>
        have h0 := h.nil rfl
        subst h0
        have hlo : l = [] := List.eq_nil_of_length_eq_zero (by omega)
        subst hlo
        have hc0 := hsrc.cells
        simp [Builtin.append_, run_underlying ht, sizeOf, typeInfo, hi, Builtin.lenOf, hc0]
      | some a =>
        obtain ⟨b, off, rfl, hb, hc, hsp⟩ := h.lies a rfl
        exact run_append_room_src (P := P) w t t ty e i ht hi b off l.length cap (.slice a2 0 c) 0 [] hsrc (by simpa using hle) (fun j hj => by simp at hj) (fun j hj => by simp at hj)
    · obtain ⟨b', o', e', _⟩ := h.lies _ e
      simp only [Addr.mk.injEq] at e'
      obtain ⟨rfl, rfl, rfl⟩ := e'
      exact ⟨_, e⟩
  · obtain ⟨a, rfl⟩ : ∃ a, a2 = some a := by
      rcases hr with h0 | ⟨b, off, h0, _⟩
      · exact absurd h0 hne
      · exact ⟨_, h0⟩
    exact run_append_que E w ty ht hi hz hsize hby hzs ad cap l h a c l2 hr hlen hbytes
variable {w : World} {ops : Array Oper} {o : Oper} {a : Act} {Q : Exit → Act → World → Prop}
theorem wl_que0 {α : Type} (E : Enc α) {rest : List Oper} (ht : P.underlying t = some (.slice e)) (hi : P.info? e = some i) (hz : i.zero = some z) (hsize : i.size = E.k) (hby : i.bytes = by') (hzs : z.cells.size = E.k)
    (hgd : o.guard = none) (s x : Operand) (ho : o.op = .call { callee := .builtin .append, args := #[s, x], argTypes := #[t, t] })
    (ad : Option Addr) (n cap : Nat) (l : List α) (hs : a.eval s = .slice ad n cap) (hn : n = l.length) (h : QRow E w ad cap l)
    (a2 : Option Addr) (m : Nat) (l2 : List α) (c : Nat) (hx : a.eval x = .slice a2 m c) (hm : m = l2.length) (hr : RowE E w a2 l2)
    (hlen : n + m ≤ maxLen) (hbytes : (n + m) * by' ≤ 140737488355328)
    (hK : ∀ (ad' : Option Addr) (cap' : Nat) w', Hid (QRow E w' ad' cap' (l ++ l2)) → Hid (w.grownBy w' (ad.map (·.block))) → Hid (∀ b o s, ad' = some ⟨b, o, s⟩ → (∃ o', ad = some ⟨b, o', .none⟩) ∨ w.heap.size ≤ b) → wpList P ops Q rest (a.put o.dst (.slice ad' (n + m) cap')) w') :
    wpList P ops Q (o :: rest) a w := by
  subst hn hm
  obtain ⟨ad', cap', w', hrun, h1, h2, h3⟩ := run_append_que0 E w o.type ht hi hz hsize hby hzs ad cap l h a2 c l2 hr hlen hbytes
  refine wpList_step fun K hK2 => ?_
  have hw : Region.wanted o (yielded ops a.tmps) = true := by simp [Region.wanted, hgd]
  rw [if_pos hw]
  unfold Oper.wp
  simp [execOp, ho, resolve, invoke, builtin, hs, hx, hrun, Result.andThen]
  exact hK2 _ _ (hK _ _ _ (Lib.hid h1) (Lib.hid h2) (Lib.hid h3))
end
/-- An empty row of bytes. -/
theorem st_empty {W w : World} {obs : List Th} (hS : Sts W w obs) (t : TypeId) : Sts W (w.alloc (.cells #[] t)) ((blk (some ⟨w.heap.size, 0, none⟩), RowQ EBy (some ⟨w.heap.size, 0, none⟩) 0 []) :: obs) :=
  hS.add ((Below.refl _ _).alloc (Nat.le_refl _) _) (fun k hk => by simp only [blk, List.mem_singleton] at hk; subst hk; simp) RowQ.st
    ⟨Nat.le_refl _, by unfold maxLen; omega, (fun e => by cases e), fun a e => by
      simp only [Option.some.injEq] at e
      subst e
      exact ⟨_, _, rfl, by simp, fun i hi => by simp at hi, fun j hj => by simp at hj⟩⟩
/-- A byte of a row is written. -/
theorem q_set {w : World} {b off cap i : Nat} {l : List UInt8} (h : Rw.QRow EBy w (some ⟨b, off, none⟩) cap l) (hi : i < l.length) (c : UInt8) (u : Value) (hu : u = .int .u8 (c.toNat : Int)) :
    Rw.QRow EBy (w.setCell ⟨b, off + i, none⟩ u) (some ⟨b, off, none⟩) cap (l.set i c) ∧ (∃ x, w.cell? ⟨b, off + i, none⟩ = some (.int .u8 x)) ∧ w.frozen? ⟨b, off + i, none⟩ = false := by
  obtain ⟨b2, off2, e, h1, h2, h3⟩ := h.lies _ rfl
  simp only [Addr.mk.injEq, and_true] at e
  obtain ⟨rfl, rfl⟩ := e
  have hle := h.le
  have h3' : ∀ j, j < cap → (w.cell? ⟨b, off + j, none⟩).isSome = true ∧ w.frozen? ⟨b, off + j, none⟩ = false := fun j hj => h3 j (by show j < cap * 1; omega)
  have hc := h2 i hi 0 _ rfl
  have hc' : w.cell? ⟨b, off + i, none⟩ = some (.int .u8 (l[i].toNat : Int)) := by simpa [EBy] using hc
  refine ⟨⟨by simpa using hle, h.max, (fun e => by cases e), fun a e => ?_⟩, ⟨_, hc'⟩, (h3' i (by omega)).2⟩
  simp only [Option.some.injEq] at e
  subst e
  refine ⟨b, off, rfl, by simpa [World.setCell] using h1, fun j hj r v hv => ?_, fun j hj => ⟨?_, by rw [World.frozen?_setCell]; exact (h3 j hj).2⟩⟩
  · have hr : r = 0 := by
      have := (List.getElem?_eq_some_iff.1 hv).1
      simp [EBy] at this; omega
    subst hr
    simp only [List.length_set] at hj
    by_cases hij : i = j
    · subst hij
      simp only [List.getElem_set_self, EBy, List.getElem?_cons_zero, Option.some.injEq] at hv
      subst hv
      show (w.setCell ⟨b, off + i, none⟩ u).cell? ⟨b, off + i * 1 + 0, none⟩ = _
      rw [Nat.mul_one, Nat.add_zero, World.cell?_setCell_same' _ _ _ (by rw [hc']; rfl), hu]
    · rw [List.getElem_set_ne hij] at hv
      have := h2 j hj 0 v hv
      show (w.setCell ⟨b, off + i, none⟩ u).cell? ⟨b, off + j * 1 + 0, none⟩ = _
      rw [World.cell?_setCell_other (h := by intro e; simp only [Addr.mk.injEq] at e; omega)]
      exact this
  · by_cases hij : off + i = off + j
    · rw [← hij, World.cell?_setCell_same' _ _ _ (by rw [hc']; rfl)]; rfl
    · rw [World.cell?_setCell_other (h := by intro e; simp only [Addr.mk.injEq] at e; omega)]
      exact (h3 j hj).1
end Go.Proofs.YtglhdlkmgmbgeaaDoor
