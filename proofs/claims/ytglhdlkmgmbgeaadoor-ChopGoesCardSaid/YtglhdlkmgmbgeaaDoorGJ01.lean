/- Layer 6: how long a payload is, at most: without memory. Layer 7: a fault of a stream, and a frame behind it: without memory. Layer 6: rows of frames that come in. Layer 6: the document's Payload, statement by statement. Layer 6: the document's Payload: its loops; the whole. Layer 6: the document's Payload, whole. Layer 6: how a Put ends. Layer 6: the document's Put. -/
import Derived.Test.YtglhdlkmgmbgeaaDoorGP01
import Derived.Test.YtglhdlkmgmbgeaaDoorGP02
import Derived.Test.YtglhdlkmgmbgeaaDoorGP03
import Derived.Test.YtglhdlkmgmbgeaaDoorGP10
import Derived.Test.YtglhdlkmgmbgeaaDoorGD01
import Derived.Test.YtglhdlkmgmbgeaaDoorGP08
import Derived.LoopTactic
set_option linter.unusedVariables false
set_option linter.unusedSimpArgs false
namespace Go.Proofs.YtglhdlkmgmbgeaaDoor
open Fra Oct
set_option linter.unusedVariables false
set_option linter.unusedSimpArgs false

theorem payL_le (f : FrM) (h0 : 0 ≤ f.pad) : ((payL f).length : Int) ≤ 18 + 6 * f.sets.length + f.data.size + f.pad := by
  have q6 := setL_len f.sets
  have q7 : (dataL f).length = f.data.size := by simp [dataL]
  have q8 : (if paddedB f then [bt f.pad] else []).length ≤ 1 := by split <;> simp
  have q9 : (if placedB f then placeL f else []).length ≤ 5 := by split <;> simp [place_len]
  have q10 : (if f.type = 7 then putL f.last 4 else []).length ≤ 4 := by split <;> simp [putL_length]
  have q11 : (if f.type = 7 ∨ f.type = 3 then putL f.code 4 else []).length ≤ 4 := by split <;> simp [putL_length]
  have q12 : (if f.type = 8 then putL f.inc 4 else []).length ≤ 4 := by split <;> simp [putL_length]
  have q13 : (List.replicate f.pad.toNat (0 : UInt8)).length = f.pad.toNat := by simp
  simp only [payL, List.length_append]
  omega
end Go.Proofs.YtglhdlkmgmbgeaaDoor

namespace Go.Proofs.YtglhdlkmgmbgeaaDoor
open Fra Oct Cho
set_option linter.unusedVariables false
set_option linter.unusedSimpArgs false
namespace Cho

/-- A WINDOW_UPDATE of nothing. -/
def upF (id : Int) : FrM := ⟨8, 0, id, ByteArray.empty, 0, [], 0, 0, 0, 0, 0, false⟩
theorem up_may (id : Int) (h : 1 ≤ id ∧ id ≤ 65536) : mayB (upF id) = true := by
  simp [mayB, rangesB, upF, paddedB, placedB]
  omega
theorem up_pay (id : Int) : payL (upF id) = putL 0 4 := by simp [payL, upF, paddedB, placedB, setL, dataL]
theorem up_len (id : Int) : (payL (upF id)).length = 4 := by rw [up_pay, putL_length]
theorem up_put (id : Int) (h : 1 ≤ id ∧ id ≤ 65536) : putF (upF id) = (wholeL (upF id), 0) := by
  rw [putF, up_may id h, if_neg (by decide), if_neg (by rw [up_len]; omega)]
theorem up_whole (id : Int) : (wholeL (upF id)).length = 13 := by rw [whole_len, up_len]
theorem up_take (id : Int) (h : 1 ≤ id ∧ id ≤ 65536) (r : List UInt8) : takeF (wholeL (upF id) ++ r) 16777215 = (noFr, 13, ⟨true, 1, id⟩) := by
  rw [take_join _ _ _ (by rw [whole_len, whole_n _ (by rw [up_len]; omega)]), take_whole _ _ (by rw [up_len]; omega) (by rw [up_len]; omega)]
  have hM := may_of _ (up_may id h)
  obtain ⟨h1, h2, h3, h4⟩ := whole_parts _ hM
  have hb := fields_back _ hM
  rw [bodyF]
  simp only [h1, h2, h3, h4, hb]
  have e1 : (upF id).type = 8 := rfl
  have e2 : (upF id).flags = 0 := rfl
  have e3 : (upF id).stream = id := rfl
  have e4 : (upF id).inc = 0 := rfl
  have h0 : id ≠ 0 := by omega
  simp only [e1, e2, e3, e4, up_len]
  simp [sizedB, h0]
theorem go_len (f : FrM) (hm : mayB f = true) (hd : f.data.size ≤ 16384) (hs : f.sets.length ≤ 1000) : (payL f).length ≤ 23000 := by
  have hr : rangesB f = true := by
    simp only [mayB, Bool.and_eq_true] at hm; exact hm.1.1.1.1.1.1.1
  simp only [rangesB, Bool.and_eq_true, decide_eq_true_eq] at hr
  have := payL_le f (by omega)
  omega
theorem go_put (f : FrM) (hm : mayB f = true) (hd : f.data.size ≤ 16384) (hs : f.sets.length ≤ 1000) : putF f = (wholeL f, 0) := by
  have := go_len f hm hd hs
  rw [putF, hm, if_neg (by decide), if_neg (by omega)]
theorem go_take (f : FrM) (hm : mayB f = true) (hd : f.data.size ≤ 16384) (hs : f.sets.length ≤ 1000) (hx : (takeF (wholeL f) 16777215).2.2.is = false) : takeF (wholeL f) 16777215 = (f, (wholeL f).length, noFa) := by
  have hp := go_len f hm hd hs
  rw [take_whole f 16777215 (by omega) (by omega)] at hx ⊢
  rw [whole_len]
  exact body_back f (may_of f hm) hx
/-- Both in one piece. -/
theorem go_feed (f : FrM) (id : Int) (h : 1 ≤ id ∧ id ≤ 65536) (hm : mayB f = true) (hd : f.data.size ≤ 16384) (hs : f.sets.length ≤ 1000) (hx : (takeF (wholeL f) 16777215).2.2.is = false) :
    feedF 16777215 ⟨[], false, false⟩ (wholeL (upF id) ++ wholeL f) = ([⟨noFr, ⟨true, 1, id⟩⟩, ⟨f, noFa⟩], ⟨[], false, false⟩) := by
  have h1 := up_take id h (wholeL f)
  have h2 := go_take f hm hd hs hx
  have hl : 9 ≤ (wholeL f).length := by rw [whole_len]; omega
  have hnil : steps [] 16777215 = ([], [], false) := by decide +kernel
  have s2 : steps (wholeL f) 16777215 = ([⟨f, noFa⟩], [], false) := by
    rw [steps_eq, h2]
    simp only [noFa]
    rw [if_neg (by omega), if_neg (by omega), List.drop_length, hnil]
  have s1 : steps (wholeL (upF id) ++ wholeL f) 16777215 = ([⟨noFr, ⟨true, 1, id⟩⟩, ⟨f, noFa⟩], [], false) := by
    rw [steps_eq, h1]
    simp only
    rw [if_neg (by decide), if_neg (by decide), List.drop_left' (up_whole id), s2]
  rw [feed_run _ _ _ rfl, run_live]
  simp only [List.nil_append, all_no, s1, Bool.false_and]
end Cho
end Go.Proofs.YtglhdlkmgmbgeaaDoor

namespace Go.Proofs.YtglhdlkmgmbgeaaDoor
open Go.RowKit
open Fra Oct Arg Mem Gen Sx Go.Proofs.YtglhdlkmgmbgeaaDoor.Obj
set_option linter.unusedVariables false
set_option linter.unusedSimpArgs false

/-- A frame as it lies: with the place of its settings. -/
abbrev FrX := FrM × Option Addr × Nat
def EFr : Rw.Enc FrX where
  enc x := (frC x.1 x.2.1 x.2.2).toList
  k := 12
  pos := by decide
  len _ := rfl
  one x v h := by
    simp only [frC, List.mem_cons, List.not_mem_nil, or_false] at h
    rcases h with rfl | rfl | rfl | rfl | rfl | rfl | rfl | rfl | rfl | rfl | rfl | rfl <;> rfl
theorem CE_fr {w : World} {b o : Nat} {x : FrX} (h : Rw.CE EFr w b o x) :
    w.cell? ⟨b, o, none⟩ = some (.int .i64 x.1.type) ∧ w.cell? ⟨b, o + 1, none⟩ = some (.int .i64 x.1.flags) ∧ w.cell? ⟨b, o + 2, none⟩ = some (.int .i64 x.1.stream) ∧ w.cell? ⟨b, o + 3, none⟩ = some (.string x.1.data) ∧ w.cell? ⟨b, o + 4, none⟩ = some (.int .i64 x.1.pad) ∧ w.cell? ⟨b, o + 5, none⟩ = some (.slice x.2.1 x.1.sets.length x.2.2) ∧
    w.cell? ⟨b, o + 6, none⟩ = some (.int .i64 x.1.code) ∧ w.cell? ⟨b, o + 7, none⟩ = some (.int .i64 x.1.last) ∧ w.cell? ⟨b, o + 8, none⟩ = some (.int .i64 x.1.inc) ∧ w.cell? ⟨b, o + 9, none⟩ = some (.int .i64 x.1.dep) ∧ w.cell? ⟨b, o + 10, none⟩ = some (.int .i64 x.1.weight) ∧ w.cell? ⟨b, o + 11, none⟩ = some (.bool x.1.sole) :=
  ⟨h 0 _ rfl, h 1 _ rfl, h 2 _ rfl, h 3 _ rfl, h 4 _ rfl, h 5 _ rfl, h 6 _ rfl, h 7 _ rfl, h 8 _ rfl, h 9 _ rfl, h 10 _ rfl, h 11 _ rfl⟩
theorem info_fr : (Tryd.prog.info? 40).map (fun i => (i.zero, i.size, i.bytes)) = some (some (.agg #[.int .i64 0, .int .i64 0, .int .i64 0, .string ⟨#[]⟩, .int .i64 0, .slice none 0 0, .int .i64 0, .int .i64 0, .int .i64 0, .int .i64 0, .int .i64 0, .bool false]), 12, 120) := by kernel_rfl
theorem fr_new (w : World) (x : FrX) : Rw.RowE EFr (w.alloc (.cells (frC x.1 x.2.1 x.2.2) 40)) (some ⟨w.heap.size, 0, none⟩) [x] := .inr ⟨_, _, rfl, fun i hi r u hu => by
  have h0 : i = 0 := by simp at hi; omega
  subst h0
  have hh := heap_alloc_new w (.cells (frC x.1 x.2.1 x.2.2) 40)
  rw [cell_at hh]
  simpa [EFr] using hu⟩
/-- A list of frames that came in. -/
theorem frames_in {w : World} {ad : Option Addr} {len cap : Nat} (h : Slc w [.int .i64, .int .i64, .int .i64, .str, .int .i64, .slc 16 [.int .i64, .int .i64], .int .i64, .int .i64, .int .i64, .int .i64, .int .i64, .bool] ad len cap) :
    ∃ l : List FrX, l.length = len ∧ Rw.RowE EFr w ad l ∧ (∀ x ∈ l, FrOk x.1 x.2.1 x.2.2 w) ∧ len ≤ cap ∧ cap ≤ maxLen := by
  obtain ⟨l, hl, hr⟩ := Slc.row (C := fun w b o (d : FrX) => Rw.CE EFr w b o d ∧ FrOk d.1 d.2.1 d.2.2 w) h (fun b o hc => by
    obtain ⟨⟨v1, c1, l1⟩, ⟨v2, c2, l2⟩, ⟨v3, c3, l3⟩, ⟨v4, c4, l4⟩, ⟨v5, c5, l5⟩, ⟨v6, c6, l6⟩, ⟨v7, c7, l7⟩, ⟨v8, c8, l8⟩, ⟨v9, c9, l9⟩, ⟨v10, c10, l10⟩, ⟨v11, c11, l11⟩, ⟨v12, c12, l12⟩, _⟩ := hc
    obtain ⟨s1, rfl, _⟩ := l1.int
    obtain ⟨s2, rfl, _⟩ := l2.int
    obtain ⟨s3, rfl, _⟩ := l3.int
    obtain ⟨s4, rfl, _⟩ := l4.str
    obtain ⟨s5, rfl, _⟩ := l5.int
    obtain ⟨sa, sl, sc, rfl, _, hs⟩ := l6.slc
    obtain ⟨s7, rfl, _⟩ := l7.int
    obtain ⟨s8, rfl, _⟩ := l8.int
    obtain ⟨s9, rfl, _⟩ := l9.int
    obtain ⟨s10, rfl, _⟩ := l10.int
    obtain ⟨s11, rfl, _⟩ := l11.int
    obtain ⟨s12, rfl⟩ := l12.bool
    obtain ⟨sets, hsl, hsr, _, hsc, hsm⟩ := sets_in hs
    subst hsl
    refine ⟨(⟨s1, s2, s3, s4, s5, sets, s7, s8, s9, s10, s11, s12⟩, sa, sc), fun r v hv => ?_, ⟨hsr, hsc, hsm⟩⟩
    match r, hv with
    | 0, hv => simp [EFr, frC] at hv; subst hv; exact c1
    | 1, hv => simp [EFr, frC] at hv; subst hv; exact c2
    | 2, hv => simp [EFr, frC] at hv; subst hv; exact c3
    | 3, hv => simp [EFr, frC] at hv; subst hv; exact c4
    | 4, hv => simp [EFr, frC] at hv; subst hv; exact c5
    | 5, hv => simp [EFr, frC] at hv; subst hv; exact c6
    | 6, hv => simp [EFr, frC] at hv; subst hv; exact c7
    | 7, hv => simp [EFr, frC] at hv; subst hv; exact c8
    | 8, hv => simp [EFr, frC] at hv; subst hv; exact c9
    | 9, hv => simp [EFr, frC] at hv; subst hv; exact c10
    | 10, hv => simp [EFr, frC] at hv; subst hv; exact c11
    | 11, hv => simp [EFr, frC] at hv; subst hv; exact c12
    | r + 12, hv => simp [EFr, frC] at hv)
  refine ⟨l, hl, ?_, ?_, h.1, h.2.1⟩
  · rcases hr with hr | ⟨b, off, e, hc⟩
    · exact .inl hr
    · exact .inr ⟨b, off, e, fun i hi => (hc i hi).1⟩
  · rcases hr with rfl | ⟨b, off, e, hc⟩
    · intro d hd; cases hd
    · intro d hd
      obtain ⟨i, hi, rfl⟩ := List.getElem_of_mem hd
      exact (hc i hi).2
end Go.Proofs.YtglhdlkmgmbgeaaDoor

namespace Go.Proofs.YtglhdlkmgmbgeaaDoor
open Go.RowKit
open Fra Oct Arg Mem Gen Wr Go.Proofs.YtglhdlkmgmbgeaaDoor.Obj
set_option linter.unusedVariables false
set_option linter.unusedSimpArgs false

/-- Along Payload: the frame's box, the bytes so far. -/
structure Py (w0 : World) (B bx : Nat) (cs : Array Value) (oa : Option Addr) (oc : Nat) (out : List UInt8) (w : World) : Prop where
  fb : w.heap[bx]? = some (.cells cs 40 (0, 0))
  out : OutB B [bx] oa oc out w
  std : Std B [] w0 w
  hB : B ≤ w0.heap.size
section
variable {w0 w w' : World} {B bx oc oc' : Nat} {cs : Array Value} {oa oa' : Option Addr} {out Z : List UInt8}
theorem Py.bs (h : Py w0 B bx cs oa oc out w) : B ≤ w.heap.size ∧ ∀ k ∈ [bx], k < w.heap.size :=
  ⟨Nat.le_trans h.hB h.std.size, fun k hk => by simp at hk; subst hk; exact (Array.getElem?_eq_some_iff.1 h.fb).1⟩
theorem Py.below (h : Py w0 B bx cs oa oc out w) (hb : Below w.heap.size w w') : Py w0 B bx cs oa oc out w' :=
  ⟨block_below hb h.fb, h.out.below hb, h.std.then hb, h.hB⟩
theorem Py.grew (h : Py w0 B bx cs oa oc out w) (hG : Grew B [bx] w oa oa' oc' Z w') : Py w0 B bx cs oa' oc' Z w' :=
  ⟨(hG.std.block bx (h.bs.2 bx (by simp)) (.inr (by simp))).trans h.fb, hG.out, h.std.trans (hG.std.less (fun k hk => by cases hk)), h.hB⟩
theorem Py.after (h : Py w0 B bx cs oa oc out w) {w1 : World} (hb : Below w.heap.size w w1) (hG : Grew B [bx] w1 oa oa' oc' Z w') : Py w0 B bx cs oa' oc' Z w' := (h.below hb).grew hG
end
theorem rb_one (w : World) (t : TypeId) (v : Int) (c : UInt8) (h : v = (c.toNat : Int)) : RB (w.alloc (.cells #[.int .u8 v] t)) (some ⟨w.heap.size, 0, none⟩) [c] := by
  subst h
  exact .inr ⟨w.heap.size, 0, rfl, fun i hi => by
    have hi0 : i = 0 := by simp at hi; omega
    subst hi0
    simp⟩

section
variable {P : Program} {t tn : TypeId} {w : World} {ops : Array Oper} {o : Oper} {a : Act} {Q : Exit → Act → World → Prop}
/-- 'append(out, text...)' as a step of a walk. -/
theorem wl_text {rest : List Oper} (ht : P.underlying t = some (.slice 5)) (hk : P.underlying tn = some .string) (hi : (P.info? 5).map (fun i => (i.zero, i.size, i.bytes)) = some (some (.int .u8 0), 1, 1))
    (hgd : o.guard = none) (s x : Operand) (ho : o.op = .call { callee := .builtin .append, args := #[s, x], argTypes := #[t, tn] })
    {B : Nat} {L : List Nat} {oa : Option Addr} {oc n : Nat} {out : List UInt8} (hs : a.eval s = .slice oa n oc) (hn : n = out.length) (h : OutB B L oa oc out w) (hB : B ≤ w.heap.size) (hLw : ∀ k ∈ L, k < w.heap.size)
    {d : ByteArray} (hx : a.eval x = .string d)
    (l3 : List UInt8) (hl3 : l3 = out ++ d.data.toList) (hlen : l3.length ≤ 140737488355328)
    (hK : ∀ (oa' : Option Addr) (oc' : Nat) w', Hid (Grew B L w oa oa' oc' l3 w') → wpList P ops Q rest (a.put o.dst (.slice oa' l3.length oc')) w') :
    wpList P ops Q (o :: rest) a w := by
  obtain ⟨oa', oc', w', hrun, hG⟩ := run_text (P := P) w o.type ht hk hi h hB hLw d l3 hl3 hlen n hn
  refine wpList_step fun K hK2 => ?_
  have hw : Region.wanted o (yielded ops a.tmps) = true := by simp [Region.wanted, hgd]
  rw [if_pos hw]
  unfold Oper.wp
  simp [execOp, ho, resolve, invoke, builtin, hs, hx, hrun, Result.andThen]
  exact hK2 _ _ (hK _ _ _ (Lib.hid hG))
end

theorem rb_grew {B : Nat} {L : List Nat} {w w' : World} {oa oa' : Option Addr} {oc' : Nat} {l3 : List UInt8} (hG : Grew B L w oa oa' oc' l3 w') {b off : Nat} {l : List UInt8} (hr : RB w (some ⟨b, off, none⟩) l) (hlt : b < w.heap.size) (hne : ∀ o s, oa ≠ some ⟨b, o, s⟩) : RB w' (some ⟨b, off, none⟩) l := by
  rcases hr with h | ⟨b', o', e, hc⟩
  · exact .inl h
  · simp only [Option.some.injEq, Addr.mk.injEq, and_true] at e
    obtain ⟨rfl, rfl⟩ := e
    refine .inr ⟨b, off, rfl, fun i hi => ?_⟩
    rw [World.cell?_of_block (a := ⟨b, off + i, none⟩) (hG.blk b hlt hne)]
    exact hc i hi


set_option maxRecDepth 100000 in
set_option maxHeartbeats 2000000 in
theorem pyd_last {Q : Exit → Act → World → Prop} {w0 : World} {B bx : Nat} {cs : Array Value} {oa : Option Addr} {oc : Nat} {out : List UInt8} (a : Act) (w : World) (h : Py w0 B bx cs oa oc out w) {t v : Int} (hc0 : cs[0]? = some (.int .i64 t)) (hcs : cs[7]? = some (.int .i64 v)) (h0 : 0 ≤ v) (h1 : v < 4294967296) (hlen : out.length ≤ 900000000)
    (ha : Fr.Is 116 [(1, .pointer (some ⟨bx, 0, none⟩)), (3, .slice oa out.length oc)] a)
    (hQ : Hid (∀ a' w' oa' oc' Z, Hid (Z = out ++ if t = 7 then putL v 4 else []) → Fr.Is 116 [(1, .pointer (some ⟨bx, 0, none⟩)), (3, .slice oa' Z.length oc')] a' → Py w0 B bx cs oa' oc' Z w' → Q .normal a' w')) :
    (Fr.navL (Fr.tail Tryd.f21 5)).wp Tryd.prog Q a w := by
  have H := Lib.hid h
  have hinfo := Lib.hid info_u8
  have c0 := (cell_at h.fb 0).trans hc0
  have cx := (cell_at h.fb 7).trans hcs
  clear hc0 hcs
  clear h
  obtain ⟨fr, rfl, hfr⟩ := ha.lit
  simp only [List.map_cons, List.map_nil, List.cons.injEq, and_true] at hfr
  conv => arg 2; whnf
  simp only [List.range, List.range.loop, List.map_cons, List.map_nil, hfr]
  clear hfr ha
  by_cases ht : t = 7
  · rw [if_pos ht] at hQ
    subst t
    obtain ⟨Z, hZ⟩ : ∃ Z, Z = out ++ putL v 4 := ⟨_, rfl⟩
    have hZl : Z.length ≤ 140737488355328 := by rw [hZ]; simp only [List.length_append, putL_length, List.length_cons, List.length_nil]; omega
    have HZ := Lib.hid hZ
    have HNe : Hid (putL v 4 ≠ []) := Lib.hid (fun e => by have := congrArg List.length e; simp [putL_length] at this)
    clear hZ
    go_wp2_with fail
    refine (rfour_any v _ h0 h1).mono ?_; rintro e w1 ⟨ad, cp, rfl, hown, b1⟩
    have HR : Hid (RB w1 ad (putL v 4)) := Lib.hid (RB.of_own hown.out)
    have H1 := Lib.hid (H.out.below b1)
    clear hown b1
    generalize putL v 4 = Y at HNe HR HZ hQ
    go_wp2_with (at_builtin; refine wl_bytes Tryd.underlying24 hinfo.out rfl (.tmp 76) (.tmp 79) rfl rfl rfl H1.out.out H1.out.bs.1 H1.out.bs.2 rfl rfl HNe.out HR.out Z HZ.out hZl ?_; intro oa' oc' w' hG)
    exact hQ.out _ _ _ _ _ HZ (Fr.Is.mk rfl rfl) (H1.out.grew hG.out)
  · rw [if_neg ht, List.append_nil] at hQ
    have k7 : (t == 7) = false := by simp; omega
    go_wp2_with fail
    exact hQ.out _ _ _ _ _ (Lib.hid rfl) (Fr.Is.mk rfl rfl) H.out

set_option maxRecDepth 100000 in
set_option maxHeartbeats 2000000 in
theorem pyd_code {Q : Exit → Act → World → Prop} {w0 : World} {B bx : Nat} {cs : Array Value} {oa : Option Addr} {oc : Nat} {out : List UInt8} (a : Act) (w : World) (h : Py w0 B bx cs oa oc out w) {t v : Int} (hc0 : cs[0]? = some (.int .i64 t)) (hcs : cs[6]? = some (.int .i64 v)) (h0 : 0 ≤ v) (h1 : v < 4294967296) (hlen : out.length ≤ 900000000)
    (ha : Fr.Is 116 [(1, .pointer (some ⟨bx, 0, none⟩)), (3, .slice oa out.length oc)] a)
    (hQ : Hid (∀ a' w' oa' oc' Z, Hid (Z = out ++ if t = 7 ∨ t = 3 then putL v 4 else []) → Fr.Is 116 [(1, .pointer (some ⟨bx, 0, none⟩)), (3, .slice oa' Z.length oc')] a' → Py w0 B bx cs oa' oc' Z w' → Q .normal a' w')) :
    (Fr.navL (Fr.tail Tryd.f21 6)).wp Tryd.prog Q a w := by
  have H := Lib.hid h
  have hinfo := Lib.hid info_u8
  have c0 := (cell_at h.fb 0).trans hc0
  have cx := (cell_at h.fb 6).trans hcs
  clear hc0 hcs
  clear h
  obtain ⟨fr, rfl, hfr⟩ := ha.lit
  simp only [List.map_cons, List.map_nil, List.cons.injEq, and_true] at hfr
  conv => arg 2; whnf
  simp only [List.range, List.range.loop, List.map_cons, List.map_nil, hfr]
  clear hfr ha
  by_cases ht : t = 7 ∨ t = 3
  · rw [if_pos ht] at hQ
    rcases ht with rfl | rfl
    all_goals
      obtain ⟨Z, hZ⟩ : ∃ Z, Z = out ++ putL v 4 := ⟨_, rfl⟩
      have hZl : Z.length ≤ 140737488355328 := by rw [hZ]; simp only [List.length_append, putL_length, List.length_cons, List.length_nil]; omega
      have HZ := Lib.hid hZ
      have HNe : Hid (putL v 4 ≠ []) := Lib.hid (fun e => by have := congrArg List.length e; simp [putL_length] at this)
      clear hZ
      go_wp2_with fail
      refine (rfour_any v _ h0 h1).mono ?_; rintro e w1 ⟨ad, cp, rfl, hown, b1⟩
      have HR : Hid (RB w1 ad (putL v 4)) := Lib.hid (RB.of_own hown.out)
      have H1 := Lib.hid (H.out.below b1)
      clear hown b1
      generalize putL v 4 = Y at HNe HR HZ hQ
      go_wp2_with (at_builtin; refine wl_bytes Tryd.underlying24 hinfo.out rfl (.tmp 89) (.tmp 92) rfl rfl rfl H1.out.out H1.out.bs.1 H1.out.bs.2 rfl rfl HNe.out HR.out Z HZ.out hZl ?_; intro oa' oc' w' hG)
      exact hQ.out _ _ _ _ _ HZ (Fr.Is.mk rfl rfl) (H1.out.grew hG.out)
  · rw [if_neg ht, List.append_nil] at hQ
    have k7 : (t == 7) = false := by simp; omega
    have k3 : (t == 3) = false := by simp; omega
    go_wp2_with fail
    exact hQ.out _ _ _ _ _ (Lib.hid rfl) (Fr.Is.mk rfl rfl) H.out

set_option maxRecDepth 100000 in
set_option maxHeartbeats 2000000 in
theorem pyd_inc {Q : Exit → Act → World → Prop} {w0 : World} {B bx : Nat} {cs : Array Value} {oa : Option Addr} {oc : Nat} {out : List UInt8} (a : Act) (w : World) (h : Py w0 B bx cs oa oc out w) {t v : Int} (hc0 : cs[0]? = some (.int .i64 t)) (hcs : cs[8]? = some (.int .i64 v)) (h0 : 0 ≤ v) (h1 : v < 4294967296) (hlen : out.length ≤ 900000000)
    (ha : Fr.Is 116 [(1, .pointer (some ⟨bx, 0, none⟩)), (3, .slice oa out.length oc)] a)
    (hQ : Hid (∀ a' w' oa' oc' Z, Hid (Z = out ++ if t = 8 then putL v 4 else []) → Fr.Is 116 [(1, .pointer (some ⟨bx, 0, none⟩)), (3, .slice oa' Z.length oc')] a' → Py w0 B bx cs oa' oc' Z w' → Q .normal a' w')) :
    (Fr.navL (Fr.tail Tryd.f21 7)).wp Tryd.prog Q a w := by
  have H := Lib.hid h
  have hinfo := Lib.hid info_u8
  have c0 := (cell_at h.fb 0).trans hc0
  have cx := (cell_at h.fb 8).trans hcs
  clear hc0 hcs
  clear h
  obtain ⟨fr, rfl, hfr⟩ := ha.lit
  simp only [List.map_cons, List.map_nil, List.cons.injEq, and_true] at hfr
  conv => arg 2; whnf
  simp only [List.range, List.range.loop, List.map_cons, List.map_nil, hfr]
  clear hfr ha
  by_cases ht : t = 8
  · rw [if_pos ht] at hQ
    subst t
    obtain ⟨Z, hZ⟩ : ∃ Z, Z = out ++ putL v 4 := ⟨_, rfl⟩
    have hZl : Z.length ≤ 140737488355328 := by rw [hZ]; simp only [List.length_append, putL_length, List.length_cons, List.length_nil]; omega
    have HZ := Lib.hid hZ
    have HNe : Hid (putL v 4 ≠ []) := Lib.hid (fun e => by have := congrArg List.length e; simp [putL_length] at this)
    clear hZ
    go_wp2_with fail
    refine (rfour_any v _ h0 h1).mono ?_; rintro e w1 ⟨ad, cp, rfl, hown, b1⟩
    have HR : Hid (RB w1 ad (putL v 4)) := Lib.hid (RB.of_own hown.out)
    have H1 := Lib.hid (H.out.below b1)
    clear hown b1
    generalize putL v 4 = Y at HNe HR HZ hQ
    go_wp2_with (at_builtin; refine wl_bytes Tryd.underlying24 hinfo.out rfl (.tmp 97) (.tmp 100) rfl rfl rfl H1.out.out H1.out.bs.1 H1.out.bs.2 rfl rfl HNe.out HR.out Z HZ.out hZl ?_; intro oa' oc' w' hG)
    exact hQ.out _ _ _ _ _ HZ (Fr.Is.mk rfl rfl) (H1.out.grew hG.out)
  · rw [if_neg ht, List.append_nil] at hQ
    have k8 : (t == 8) = false := by simp; omega
    go_wp2_with fail
    exact hQ.out _ _ _ _ _ (Lib.hid rfl) (Fr.Is.mk rfl rfl) H.out

set_option maxRecDepth 100000 in
set_option maxHeartbeats 2000000 in
theorem pyd_data {Q : Exit → Act → World → Prop} {w0 : World} {B bx : Nat} {cs : Array Value} {oa : Option Addr} {oc : Nat} {out : List UInt8} (a : Act) (w : World) (h : Py w0 B bx cs oa oc out w) (d : ByteArray) (hcs : cs[3]? = some (.string d)) (hlen : (out ++ d.data.toList).length ≤ 140737488355328)
    (ha : Fr.Is 116 [(1, .pointer (some ⟨bx, 0, none⟩)), (3, .slice oa out.length oc)] a)
    (hQ : Hid (∀ a' w' oa' oc' Z, Hid (Z = out ++ d.data.toList) → Fr.Is 116 [(1, .pointer (some ⟨bx, 0, none⟩)), (3, .slice oa' Z.length oc')] a' → Py w0 B bx cs oa' oc' Z w' → Q .normal a' w')) :
    (Fr.reg Tryd.f21 20).wp Tryd.prog Q a w := by
  have H := Lib.hid h
  have hinfo := Lib.hid info_u8
  have c3 := (cell_at h.fb 3).trans hcs
  clear hcs
  obtain ⟨Z, hZ⟩ : ∃ Z, Z = out ++ d.data.toList := ⟨_, rfl⟩
  rw [← hZ] at hlen
  have HZ := Lib.hid hZ
  clear hZ
  clear h
  obtain ⟨fr, rfl, hfr⟩ := ha.lit
  simp only [List.map_cons, List.map_nil, List.cons.injEq, and_true] at hfr
  conv => arg 2; whnf
  simp only [List.range, List.range.loop, List.map_cons, List.map_nil, hfr]
  clear hfr ha
  go_wp2_with (at_builtin; refine wl_text Tryd.underlying24 Tryd.underlying9 hinfo.out rfl (.tmp 102) (.tmp 104) rfl rfl rfl H.out.out H.out.bs.1 H.out.bs.2 rfl Z HZ.out hlen ?_; intro oa' oc' w' hG)
  exact hQ.out _ _ _ _ _ HZ (Fr.Is.mk rfl rfl) (H.out.grew hG.out)

set_option maxRecDepth 100000 in
set_option maxHeartbeats 2000000 in
theorem pyd_pad {Q : Exit → Act → World → Prop} {w0 : World} {B bx : Nat} {cs : Array Value} {oa : Option Addr} {oc : Nat} {out : List UInt8} (a : Act) (w : World) (h : Py w0 B bx cs oa oc out w) {f : FrM} {sa : Option Addr} {sc : Nat} (hcs : cs = frC f sa sc) (t0 : 0 ≤ f.type) (f0 : 0 ≤ f.flags) (f1 : f.flags ≤ 255) (p0 : 0 ≤ f.pad) (p1 : f.pad ≤ 255) (hlen : out.length ≤ 900000000)
    (ha : Fr.Is 116 [(1, .pointer (some ⟨bx, 0, none⟩)), (3, .slice oa out.length oc)] a)
    (hQ : Hid (∀ a' w' oa' oc' Z, Hid (Z = out ++ if paddedB f then [bt f.pad] else []) → Fr.Is 116 [(1, .pointer (some ⟨bx, 0, none⟩)), (3, .slice oa' Z.length oc')] a' → Py w0 B bx cs oa' oc' Z w' → Q .normal a' w')) :
    (Fr.navL (Fr.tail Tryd.f21 2)).wp Tryd.prog Q a w := by
  subst hcs
  have HH := Lib.hid (fun v => rHas_any f sa sc 8 v f0 f1 (by decide) (by decide))
  have hbt := bt_val f.pad p0 p1
  have hpb : paddedB f = (decide (f.type ≤ 1) && hasF f.flags 8) := rfl
  unfold frV frC at HH
  have H := Lib.hid h
  have hinfo := Lib.hid info_u8
  obtain ⟨c0, c1, c2, c3, c4, c5, c6, c7, c8, c9, c10, c11⟩ := fr_cells h.fb
  clear h
  obtain ⟨fr, rfl, hfr⟩ := ha.lit
  simp only [List.map_cons, List.map_nil, List.cons.injEq, and_true] at hfr
  conv => arg 2; whnf
  simp only [List.range, List.range.loop, List.map_cons, List.map_nil, hfr]
  clear hfr ha
  rw [hpb] at hQ
  generalize hasF f.flags 8 = b at HH hQ
  by_cases ht : f.type ≤ 1
  · rw [decide_eq_true ht, Bool.true_and] at hQ
    go_wp2_with fail
    refine (HH.out _).mono ?_; rintro e w1 ⟨rfl, b1⟩
    have H1 := Lib.hid (H.out.below b1)
    have c4' := below_cell b1 c4
    clear b1 c0 c1 c2 c3 c4 c5 c6 c7 c8 c9 c10 c11 HH
    cases b with
    | false =>
      simp only [Bool.false_eq_true, if_false, List.append_nil] at hQ
      go_wp2_with fail
      exact hQ.out _ _ _ _ _ (Lib.hid rfl) (Fr.Is.mk rfl rfl) H1.out
    | true =>
      simp only [if_true] at hQ
      obtain ⟨Z, hZ⟩ : ∃ Z, Z = out ++ [bt f.pad] := ⟨_, rfl⟩
      have hZl : Z.length ≤ 140737488355328 := by rw [hZ]; simp only [List.length_append, List.length_cons, List.length_nil]; omega
      have HZ := Lib.hid hZ
      have HNe : Hid ([bt f.pad] ≠ []) := Lib.hid (fun e => by cases e)
      have HR := Lib.hid (rb_one w1 5 f.pad (bt f.pad) hbt.symm)
      have H2 := Lib.hid (H1.out.below ((Below.refl w1.heap.size w1).alloc (Nat.le_refl _) (.cells #[.int .u8 f.pad] 5)))
      clear hZ
      go_wp2_with (at_builtin; refine wl_bytes Tryd.underlying24 hinfo.out rfl (.tmp 14) (.tmp 18) rfl rfl rfl H2.out.out H2.out.bs.1 H2.out.bs.2 rfl rfl HNe.out HR.out Z HZ.out hZl ?_; intro oa' oc' w' hG)
      exact hQ.out _ _ _ _ _ HZ (Fr.Is.mk rfl rfl) (H2.out.grew hG.out)
  · rw [decide_eq_false ht, Bool.false_and] at hQ
    simp only [Bool.false_eq_true, if_false, List.append_nil] at hQ
    have ht' : ¬ f.type ≤ 1 := ht
    go_wp2_with fail
    exact hQ.out _ _ _ _ _ (Lib.hid rfl) (Fr.Is.mk rfl rfl) H.out

set_option maxRecDepth 100000 in
set_option maxHeartbeats 2000000 in
theorem pyd_r4 {Q : Exit → Act → World → Prop} {w0 : World} {B bx : Nat} {cs : Array Value} {oa : Option Addr} {oc : Nat} {out : List UInt8} (a : Act) (w : World) (h : Py w0 B bx cs oa oc out w) {f : FrM} {sa : Option Addr} {sc : Nat} (hcs : cs = frC f sa sc) (f0 : 0 ≤ f.flags) (f1 : f.flags ≤ 255)
    (ha : Fr.Is 116 [(1, .pointer (some ⟨bx, 0, none⟩)), (3, .slice oa out.length oc)] a)
    (hQ : Hid (∀ a' w', Fr.Is 116 [(1, .pointer (some ⟨bx, 0, none⟩)), (3, .slice oa out.length oc), (31, .bool (placedB f))] a' → Py w0 B bx cs oa oc out w' → Q .normal a' w')) :
    (Fr.reg Tryd.f21 4).wp Tryd.prog Q a w := by
  subst hcs
  have HH := Lib.hid (fun v => rHas_any f sa sc 32 v f0 f1 (by decide) (by decide))
  have hpb : placedB f = (decide (f.type = 2) || (decide (f.type = 1) && hasF f.flags 32)) := rfl
  unfold frV frC at HH
  have H := Lib.hid h
  have hinfo := Lib.hid info_u8
  obtain ⟨c0, c1, c2, c3, c4, c5, c6, c7, c8, c9, c10, c11⟩ := fr_cells h.fb
  clear h
  obtain ⟨fr, rfl, hfr⟩ := ha.lit
  simp only [List.map_cons, List.map_nil, List.cons.injEq, and_true] at hfr
  conv => arg 2; whnf
  simp only [List.range, List.range.loop, List.map_cons, List.map_nil, hfr]
  clear hfr ha
  rw [hpb] at hQ
  clear hpb
  generalize hasF f.flags 32 = b at HH hQ
  generalize f.type = t at *
  by_cases h2 : t = 2
  · subst t
    go_wp2_with fail
    exact hQ.out _ _ (Fr.Is.mk rfl rfl) H.out
  · have k2 : (t == 2) = false := by simp [h2]
    by_cases h1 : t = 1
    · subst t
      go_wp2_with fail
      refine (HH.out _).mono ?_; rintro e w1 ⟨rfl, b1⟩
      have H1 := Lib.hid (H.out.below b1)
      clear b1 c0 c1 c2 c3 c4 c5 c6 c7 c8 c9 c10 c11 HH
      go_wp2_with fail
      exact hQ.out _ _ (Fr.Is.mk rfl (by simp)) H1.out
    · have k1 : (t == 1) = false := by simp [h1]
      go_wp2_with fail
      exact hQ.out _ _ (Fr.Is.mk rfl (by simp [h1, h2])) H.out

set_option maxRecDepth 100000 in
set_option maxHeartbeats 2000000 in
theorem pyd_r5 {Q : Exit → Act → World → Prop} {w0 : World} {B bx : Nat} {cs : Array Value} {oa : Option Addr} {oc : Nat} {out : List UInt8} (a : Act) (w : World) (h : Py w0 B bx cs oa oc out w) {v : Int} (hcs : cs[9]? = some (.int .i64 v))
    (ha : Fr.Is 116 [(1, .pointer (some ⟨bx, 0, none⟩)), (3, .slice oa out.length oc)] a)
    (hQ : Hid (∀ a', Fr.Is 116 [(1, .pointer (some ⟨bx, 0, none⟩)), (3, .slice oa out.length oc), (4, .int .i64 v)] a' → Q .normal a' w)) :
    (Fr.reg Tryd.f21 5).wp Tryd.prog Q a w := by
  have H := Lib.hid h
  have hinfo := Lib.hid info_u8
  have c9 := (cell_at h.fb 9).trans hcs
  clear hcs
  clear h
  obtain ⟨fr, rfl, hfr⟩ := ha.lit
  simp only [List.map_cons, List.map_nil, List.cons.injEq, and_true] at hfr
  conv => arg 2; whnf
  simp only [List.range, List.range.loop, List.map_cons, List.map_nil, hfr]
  clear hfr ha
  go_wp2_with fail
  exact hQ.out _ (Fr.Is.mk rfl rfl)

set_option maxRecDepth 100000 in
set_option maxHeartbeats 2000000 in
theorem pyd_r6 {Q : Exit → Act → World → Prop} {w0 : World} {B bx : Nat} {cs : Array Value} {oa : Option Addr} {oc : Nat} {out : List UInt8} (a : Act) (w : World) (h : Py w0 B bx cs oa oc out w) {n : Int} {b : Bool} (hcs : cs[11]? = some (.bool b))
    (ha : Fr.Is 116 [(1, .pointer (some ⟨bx, 0, none⟩)), (3, .slice oa out.length oc), (4, .int .i64 n)] a)
    (hQ : Hid (∀ a', Fr.Is 116 [(1, .pointer (some ⟨bx, 0, none⟩)), (3, .slice oa out.length oc), (4, .int .i64 n), (35, .bool b)] a' → Q .normal a' w)) :
    (Fr.reg Tryd.f21 6).wp Tryd.prog Q a w := by
  have H := Lib.hid h
  have hinfo := Lib.hid info_u8
  have c11 := (cell_at h.fb 11).trans hcs
  clear hcs
  clear h
  obtain ⟨fr, rfl, hfr⟩ := ha.lit
  simp only [List.map_cons, List.map_nil, List.cons.injEq, and_true] at hfr
  conv => arg 2; whnf
  simp only [List.range, List.range.loop, List.map_cons, List.map_nil, hfr]
  clear hfr ha
  go_wp2_with fail
  exact hQ.out _ (Fr.Is.mk rfl rfl)

set_option maxRecDepth 100000 in
set_option maxHeartbeats 2000000 in
theorem pyd_r7 {Q : Exit → Act → World → Prop} {w0 : World} {B bx : Nat} {cs : Array Value} {oa : Option Addr} {oc : Nat} {out : List UInt8} (a : Act) (w : World) (h : Py w0 B bx cs oa oc out w) {n : Int} (h0 : 0 ≤ n) (h1 : n ≤ 2147483647)
    (ha : Fr.Is 116 [(1, .pointer (some ⟨bx, 0, none⟩)), (3, .slice oa out.length oc), (4, .int .i64 n)] a)
    (hQ : Hid (∀ a', Fr.Is 116 [(1, .pointer (some ⟨bx, 0, none⟩)), (3, .slice oa out.length oc), (4, .int .i64 (n + 2147483648))] a' → Q .normal a' w)) :
    (Fr.reg Tryd.f21 7).wp Tryd.prog Q a w := by
  have H := Lib.hid h
  have hinfo := Lib.hid info_u8

  clear h
  obtain ⟨fr, rfl, hfr⟩ := ha.lit
  simp only [List.map_cons, List.map_nil, List.cons.injEq, and_true] at hfr
  conv => arg 2; whnf
  simp only [List.range, List.range.loop, List.map_cons, List.map_nil, hfr]
  clear hfr ha
  go_wp2_with fail
  exact hQ.out _ (Fr.Is.mk rfl rfl)

set_option maxRecDepth 100000 in
set_option maxHeartbeats 2000000 in
theorem pyd_r8 {Q : Exit → Act → World → Prop} {w0 : World} {B bx : Nat} {cs : Array Value} {oa : Option Addr} {oc : Nat} {out : List UInt8} (a : Act) (w : World) (h : Py w0 B bx cs oa oc out w) {n v : Int} (hcs : cs[10]? = some (.int .i64 v)) (v0 : 0 ≤ v) (v1 : v ≤ 255) (h0 : 0 ≤ n) (h1 : n < 4294967296) (hlen : out.length ≤ 900000000)
    (ha : Fr.Is 116 [(1, .pointer (some ⟨bx, 0, none⟩)), (3, .slice oa out.length oc), (4, .int .i64 n)] a)
    (hQ : Hid (∀ a' w' oa' oc' Z, Hid (Z = out ++ (putL n 4 ++ [bt v])) → Fr.Is 116 [(1, .pointer (some ⟨bx, 0, none⟩)), (3, .slice oa' Z.length oc')] a' → Py w0 B bx cs oa' oc' Z w' → Q .normal a' w')) :
    (Fr.reg Tryd.f21 8).wp Tryd.prog Q a w := by
  have hbt := bt_val v v0 v1
  have HC := Lib.hid (fun u (hu : Below w.heap.size w u) => below_cell hu ((cell_at h.fb 10).trans hcs))
  have HCg := Lib.hid (fun u u' oa' oc' l3 (hu : Below w.heap.size w u) (hG : Grew B [bx] u oa oa' oc' l3 u') => (cell_at ((h.below hu).grew hG).fb 10).trans hcs)
  have c10 : w.drew.cell? ⟨bx, 10, none⟩ = some (.int .i64 v) := (cell_at h.fb 10).trans hcs
  have HP := Lib.hid (fun u => rfour_any n u h0 h1)
  obtain ⟨Y, hY⟩ : ∃ Y, Y = putL n 4 := ⟨_, rfl⟩
  rw [← hY] at HP hQ
  have hYl : Y.length = 4 := by rw [hY, putL_length]
  have HYl := Lib.hid hYl
  have HNY : Hid (Y ≠ []) := Lib.hid (fun e => by rw [e] at hYl; simp at hYl)
  obtain ⟨Z1, hZ1⟩ : ∃ Z, Z = out ++ Y := ⟨_, rfl⟩
  obtain ⟨Z, hZ⟩ : ∃ Z, Z = Z1 ++ [bt v] := ⟨_, rfl⟩
  have hl1 : Z1.length ≤ 140737488355328 := by rw [hZ1, List.length_append]; omega
  have hl2 : Z.length ≤ 140737488355328 := by rw [hZ, hZ1]; simp only [List.length_append, List.length_cons, List.length_nil]; omega
  have HZ1 := Lib.hid hZ1
  have HZ := Lib.hid hZ
  have HZZ : Hid (Z = out ++ (Y ++ [bt v])) := Lib.hid (by rw [hZ, hZ1, List.append_assoc])
  have HNb : Hid ([bt v] ≠ []) := Lib.hid (fun e => by cases e)
  have HB1 := Lib.hid (fun u => rb_one u 5 (IntKind.u8.wrap v) (bt v) (by rw [hbt, IntKind.wrap_u8]; omega))
  have hb : Below w.heap.size w w.drew := (Below.refl _ _).drew
  clear hZ hZ1 hY hcs hYl
  have H := Lib.hid h
  have hinfo := Lib.hid info_u8

  clear h
  obtain ⟨fr, rfl, hfr⟩ := ha.lit
  simp only [List.map_cons, List.map_nil, List.cons.injEq, and_true] at hfr
  conv => arg 2; whnf
  simp only [List.range, List.range.loop, List.map_cons, List.map_nil, hfr]
  clear hfr ha
  refine wp_region_noPanic ?_
  go_region_law (first
    | (refine Wr.step_call rfl 23 [.tmp 39] _ rfl [.int .i64 n] rfl (fun v => rfl) (HP.out _) ?_; rintro e w1 ⟨ad, cp, rfl, hown, b1⟩; refine ⟨_, rfl, ?_⟩; have hRY := Lib.hid (RB.of_own hown.out); clear hown; (first | (have hx0 := Lib.hid ((HB1.out w.drew).below b1); have hn0 := Lib.hid (Nat.lt_of_lt_of_le (show w.drew.heap.size < (w.drew.alloc (.cells #[.int .u8 (IntKind.u8.wrap v)] 5)).heap.size by simp) b1.size)) | skip); replace hb := below_step (by first | exact hb | exact below_step hb ((Below.refl _ _).alloc (Nat.le_refl _) _)) b1; have x1 := HC.out _ hb; clear b1)
    | (refine step_bytes Tryd.underlying24 hinfo.out rfl (.tmp 38) (.tmp 40) rfl rfl rfl (H.out.below (by first | exact hb | exact below_step hb ((Below.refl _ _).alloc (Nat.le_refl _) _))).out (H.out.below (by first | exact hb | exact below_step hb ((Below.refl _ _).alloc (Nat.le_refl _) _))).bs.1 (H.out.below (by first | exact hb | exact below_step hb ((Below.refl _ _).alloc (Nat.le_refl _) _))).bs.2 rfl rfl HNY.out (by first | exact hRY.out | exact hRY.out.below ((Below.refl _ _).alloc (Nat.le_refl _) _)) Z1 HZ1.out hl1 ?_; intro oa1 oc1 w4 hG; have x4 := HCg.out _ _ _ _ _ (by first | exact hb | exact below_step hb ((Below.refl _ _).alloc (Nat.le_refl _) _)) hG.out; have HP4 := Lib.hid (H.out.after (by first | exact hb | exact below_step hb ((Below.refl _ _).alloc (Nat.le_refl _) _)) hG.out); first | (have hx := Lib.hid (rb_grew hG.out (HB1.out w1) (by simp) (fun o s e => Nat.lt_irrefl _ ((H.out.below hb).out.lt _ _ _ e)))) | (have hx := Lib.hid (rb_grew hG.out hx0.out hn0.out (fun o s e => Nat.lt_irrefl _ ((H.out.below (Below.refl _ _).drew).out.lt _ _ _ e)))) | skip)
    | (refine step_bytes Tryd.underlying24 hinfo.out rfl (.tmp 41) (.tmp 45) rfl rfl rfl (by first | exact hG.out.out | exact hG.out.out.below ((Below.refl _ _).alloc (Nat.le_refl _) _)) (by first | exact HP4.out.bs.1 | exact (HP4.out.below ((Below.refl _ _).alloc (Nat.le_refl _) _)).bs.1) (by first | exact HP4.out.bs.2 | exact (HP4.out.below ((Below.refl _ _).alloc (Nat.le_refl _) _)).bs.2) rfl rfl HNb.out (by first | exact HB1.out _ | exact hx.out) Z HZ.out hl2 ?_; intro oa2 oc2 w5 hG2))
  all_goals first
    | exact hQ.out _ _ _ _ _ HZZ (Fr.Is.mk rfl rfl) (HP4.out.grew hG2.out)
    | exact hQ.out _ _ _ _ _ HZZ (Fr.Is.mk rfl rfl) ((HP4.out.below ((Below.refl _ _).alloc (Nat.le_refl _) _)).grew hG2.out)
end Go.Proofs.YtglhdlkmgmbgeaaDoor

namespace Go.Proofs.YtglhdlkmgmbgeaaDoor
open Go.RowKit
open Fra Oct Arg Mem Gen Wr Go.Proofs.YtglhdlkmgmbgeaaDoor.Obj
set_option linter.unusedVariables false
set_option linter.unusedSimpArgs false


set_option maxRecDepth 100000 in
set_option maxHeartbeats 2000000 in
theorem pyd_sets {Q : Exit → Act → World → Prop} {w0 : World} {B bx : Nat} {cs : Array Value} {oa : Option Addr} {oc : Nat} {out : List UInt8} (a : Act) (w : World) (h : Py w0 B bx cs oa oc out w) (hB : B = w0.heap.size) (sets : List StM) (sa : Option Addr) (sc : Nat) (hcs : cs[5]? = some (.slice sa sets.length sc)) (hrow : Rw.RowE ESt w0 sa sets) (hn : sets.length ≤ 1000000) (hok : ∀ s ∈ sets, setOk s = true) (hlen : out.length ≤ 100000000)
    (ha : Fr.Is 116 [(1, .pointer (some ⟨bx, 0, none⟩)), (3, .slice oa out.length oc)] a)
    (hQ : Hid (∀ a' w' oa' oc' Z, Hid (Z = out ++ setL sets) → Fr.Is 116 [(1, .pointer (some ⟨bx, 0, none⟩)), (3, .slice oa' Z.length oc')] a' → Py w0 B bx cs oa' oc' Z w' → Q .normal a' w')) :
    (Fr.navL (Fr.tail Tryd.f21 4)).wp Tryd.prog Q a w := by
  have HRow := Lib.hid hrow
  have HOk := Lib.hid hok
  have HBe : Hid (∀ oa oc out v, Py w0 B bx cs oa oc out v → Below w0.heap.size w0 v) := Lib.hid (fun _ _ _ v hv => hv.std.below hB)
  have HC5 : Hid (∀ oa oc out v, Py w0 B bx cs oa oc out v → v.cell? ⟨bx, 5, none⟩ = some (.slice sa sets.length sc)) := Lib.hid (fun _ _ _ v hv => (cell_at hv.fb 5).trans hcs)
  obtain ⟨n, hn0⟩ : ∃ n, n = sets.length := ⟨_, rfl⟩
  rw [← hn0] at hn HC5
  have HN := Lib.hid hn0
  clear hrow hok hcs hn0 hB
  have H := Lib.hid h
  have hinfo := Lib.hid info_u8

  clear h
  obtain ⟨fr, rfl, hfr⟩ := ha.lit
  simp only [List.map_cons, List.map_nil, List.cons.injEq, and_true] at hfr
  conv => arg 2; whnf
  simp only [List.range, List.range.loop, List.map_cons, List.map_nil, hfr]
  clear hfr ha
  go_wp2_with fail
  go_loopw [3, 5] (fun vb vi wr => ∃ (k : Nat) (oa1 : Option Addr) (oc1 : Nat) (Z : List UInt8), vi = .int .i64 k ∧ k ≤ n ∧ vb = .slice oa1 Z.length oc1 ∧ Hid (Z = out ++ setL (sets.take k)) ∧ Hid (Py w0 B bx cs oa1 oc1 Z wr)) (fun _ vi _ => n - (intOf vi).toNat)
  case atStart => exact ⟨0, oa, oc, out, by rfl, Nat.zero_le _, rfl, Lib.hid (by simp [setL]), H⟩
  case round =>
    clear H
    obtain ⟨k, oa1, oc1, Z0, rfl, hk, rfl, HZ0, HS⟩ := hrel
    have x5 := HC5.out _ _ _ _ HS.out
    by_cases hlt : k < n
    · have hlt' : (k : Int) < n := by omega
      have hka : k < sets.length := by rw [← HN.out]; exact hlt
      obtain ⟨b1, o1, rfl, hc⟩ : ∃ b off, sa = some ⟨b, off, none⟩ ∧ ∀ i, (h : i < sets.length) → Rw.CE ESt w0 b (off + i * 2) sets[i] := by
        rcases HRow.out with h | h
        · rw [h] at hka; simp at hka
        · exact h
      obtain ⟨c0, c1⟩ := CE_st (hc k hka)
      have HC1 := Lib.hid (fun v (hv : Below w0.heap.size w0 v) => below_cell hv c1)
      have c0 := below_cell (HBe.out _ _ _ _ HS.out) c0
      have hso := HOk.out _ (List.getElem_mem hka)
      have HT := Lib.hid (show setL (sets.take (k + 1)) = setL (sets.take k) ++ (putL sets[k].id 2 ++ putL sets[k].val 4) by
        rw [List.take_succ_eq_append_getElem hka, setL, setL, List.flatMap_append]; simp)
      have hzl : Z0.length ≤ 106000000 := by rw [HZ0.out, List.length_append, setL_len, List.length_take]; omega
      generalize sets[k] = s at c0 HC1 HT hso
      obtain ⟨id, val⟩ := s
      simp only [setOk, decide_eq_true_eq] at hso
      simp only at c0 HC1 HT
      obtain ⟨i0, i1, v0, v1⟩ := hso
      clear hc c1
      obtain ⟨Y, hY⟩ : ∃ Y, Y = putL id 2 := ⟨_, rfl⟩
      obtain ⟨Y2, hY2⟩ : ∃ Y, Y = putL val 4 := ⟨_, rfl⟩
      rw [← hY, ← hY2] at HT
      have hYl : Y.length = 2 := by rw [hY, putL_length]
      have hYl2 : Y2.length = 4 := by rw [hY2, putL_length]
      have HP := Lib.hid (fun u => rput_yes id 2 u i0 (by omega) (by decide) (by decide))
      have HP2 := Lib.hid (fun u => rfour_any val u v0 (by omega))
      rw [← hY] at HP
      rw [← hY2] at HP2
      have HNe : Hid (Y ≠ []) := Lib.hid (fun e => by rw [e] at hYl; simp at hYl)
      have HNe2 : Hid (Y2 ≠ []) := Lib.hid (fun e => by rw [e] at hYl2; simp at hYl2)
      obtain ⟨Z1, hZ1⟩ : ∃ Z, Z = Z0 ++ Y := ⟨_, rfl⟩
      obtain ⟨Z, hZ⟩ : ∃ Z, Z = Z1 ++ Y2 := ⟨_, rfl⟩
      have hl1 : Z1.length ≤ 140737488355328 := by rw [hZ1, List.length_append]; omega
      have hl2 : Z.length ≤ 140737488355328 := by rw [hZ, hZ1]; simp only [List.length_append]; omega
      have HZ1 := Lib.hid hZ1
      have HZ := Lib.hid hZ
      have HZZ : Hid (Z = out ++ setL (sets.take (k + 1))) := Lib.hid (by rw [hZ, hZ1, HZ0.out, HT.out]; simp only [List.append_assoc])
      clear hY hY2 hYl hYl2 hZ hZ1 HT
      go_wp2_with fail
      refine (HP.out _).mono ?_; rintro e w1 ⟨ad, cp, rfl, hown, b1⟩
      have HR : Hid (RB w1 ad Y) := Lib.hid (RB.of_own hown.out)
      have H1 := Lib.hid (HS.out.below b1)
      clear hown b1 x5 c0
      go_wp2_with (at_builtin; refine wl_bytes Tryd.underlying24 hinfo.out rfl (.tmp 54) (.tmp 62) rfl rfl rfl H1.out.out H1.out.bs.1 H1.out.bs.2 rfl rfl HNe.out HR.out Z1 HZ1.out hl1 ?_; intro oa2 oc2 w2 hG; have H2 := Lib.hid (H1.out.grew hG.out); have y5 := HC5.out _ _ _ _ H2.out; have y1 := HC1.out _ (HBe.out _ _ _ _ H2.out); clear hG)
      refine (HP2.out _).mono ?_; rintro e w3 ⟨ad2, cp2, rfl, hown, b2⟩
      have HR2 : Hid (RB w3 ad2 Y2) := Lib.hid (RB.of_own hown.out)
      have H3 := Lib.hid (H2.out.below b2)
      clear hown b2 y5 y1
      go_wp2_with (at_builtin; refine wl_bytes Tryd.underlying24 hinfo.out rfl (.tmp 64) (.tmp 71) rfl rfl rfl H3.out.out H3.out.bs.1 H3.out.bs.2 rfl rfl HNe2.out HR2.out Z HZ.out hl2 ?_; intro oa4 oc4 w4 hG; have H4 := Lib.hid (H3.out.grew hG.out); clear hG)
      go_roundw
      case rel => exact ⟨k + 1, _, _, Z, by go_num, by omega, rfl, HZZ, H4⟩
      case measure => simp [intOf]; omega
    · have hke : k = n := by omega
      subst hke
      have hlt' : ¬ (k : Int) < k := by omega
      have HE : Hid (Z0 = out ++ setL sets) := Lib.hid (by have := HZ0.out; rwa [HN.out, List.take_length] at this)
      go_wp2_with fail
      exact hQ.out _ _ _ _ _ HE (Fr.Is.mk rfl rfl) HS.out

set_option maxRecDepth 100000 in
set_option maxHeartbeats 2000000 in
theorem pyd_zero {Q : Exit → Act → World → Prop} {w0 : World} {B bx : Nat} {cs : Array Value} {oa : Option Addr} {oc : Nat} {out : List UInt8} (a : Act) (w : World) (h : Py w0 B bx cs oa oc out w) {v : Int} {n : Nat} (hvn : v = n) (hcs : cs[4]? = some (.int .i64 v)) (hn : n ≤ 255) (hlen : out.length ≤ 100000000)
    (ha : Fr.Is 116 [(1, .pointer (some ⟨bx, 0, none⟩)), (3, .slice oa out.length oc)] a)
    (hQ : Hid (∀ a' w' oa' oc' Z, Hid (Z = out ++ List.replicate n 0) → Fr.Is 116 [(1, .pointer (some ⟨bx, 0, none⟩)), (3, .slice oa' Z.length oc')] a' → Py w0 B bx cs oa' oc' Z w' → Q .normal a' w')) :
    (Fr.navL (Fr.tail Tryd.f21 9)).wp Tryd.prog Q a w := by
  subst hvn
  have HC4 : Hid (∀ oa oc out v, Py w0 B bx cs oa oc out v → v.cell? ⟨bx, 4, none⟩ = some (.int .i64 (n : Int))) := Lib.hid (fun _ _ _ v hv => (cell_at hv.fb 4).trans hcs)
  have HB1 := Lib.hid (fun u => rb_one u 5 0 0 rfl)
  have HNe : Hid ([(0 : UInt8)] ≠ []) := Lib.hid (fun e => by cases e)
  clear hcs
  have H := Lib.hid h
  have hinfo := Lib.hid info_u8

  clear h
  obtain ⟨fr, rfl, hfr⟩ := ha.lit
  simp only [List.map_cons, List.map_nil, List.cons.injEq, and_true] at hfr
  conv => arg 2; whnf
  simp only [List.range, List.range.loop, List.map_cons, List.map_nil, hfr]
  clear hfr ha
  go_wp2_with fail
  go_loopw [3, 6] (fun vb vi wr => ∃ (k : Nat) (oa1 : Option Addr) (oc1 : Nat) (Z : List UInt8), vi = .int .i64 k ∧ k ≤ n ∧ vb = .slice oa1 Z.length oc1 ∧ Hid (Z = out ++ List.replicate k 0) ∧ Hid (Py w0 B bx cs oa1 oc1 Z wr)) (fun _ vi _ => n - (intOf vi).toNat)
  case atStart => exact ⟨0, oa, oc, out, by rfl, Nat.zero_le _, rfl, Lib.hid (by simp), H⟩
  case round =>
    clear H
    obtain ⟨k, oa1, oc1, Z0, rfl, hk, rfl, HZ0, HS⟩ := hrel
    have x4 := HC4.out _ _ _ _ HS.out
    by_cases hlt : k < n
    · have hlt' : (k : Int) < n := by omega
      have hzl : Z0.length ≤ 100000255 := by rw [HZ0.out, List.length_append, List.length_replicate]; omega
      obtain ⟨Z, hZ⟩ : ∃ Z, Z = Z0 ++ [(0 : UInt8)] := ⟨_, rfl⟩
      have hl2 : Z.length ≤ 140737488355328 := by rw [hZ]; simp only [List.length_append, List.length_cons, List.length_nil]; omega
      have HZ := Lib.hid hZ
      have HZZ : Hid (Z = out ++ List.replicate (k + 1) 0) := Lib.hid (by rw [hZ, HZ0.out, List.replicate_succ', List.append_assoc])
      have H1 := Lib.hid (HS.out.below ((Below.refl wr.heap.size wr).alloc (Nat.le_refl _) (.cells #[.int .u8 0] 5)))
      clear hZ
      go_wp2_with (at_builtin; refine wl_bytes Tryd.underlying24 hinfo.out rfl (.tmp 112) (.tmp 113) rfl rfl rfl H1.out.out H1.out.bs.1 H1.out.bs.2 rfl rfl HNe.out (HB1.out _) Z HZ.out hl2 ?_; intro oa2 oc2 w2 hG; have H2 := Lib.hid (H1.out.grew hG.out); clear hG)
      go_roundw
      case rel => exact ⟨k + 1, _, _, Z, by go_num, by omega, rfl, HZZ, H2⟩
      case measure => simp [intOf]; omega
    · have hke : k = n := by omega
      subst hke
      have hlt' : ¬ (k : Int) < k := by omega
      go_wp2_with fail
      exact hQ.out _ _ _ _ _ HZ0 (Fr.Is.mk rfl rfl) HS.out
end Go.Proofs.YtglhdlkmgmbgeaaDoor

namespace Go.Proofs.YtglhdlkmgmbgeaaDoor
open Go.RowKit
open Fra Oct Arg Mem Gen Wr Go.Proofs.YtglhdlkmgmbgeaaDoor.Obj
set_option linter.unusedVariables false
set_option linter.unusedSimpArgs false

set_option maxRecDepth 100000 in
set_option maxHeartbeats 1000000 in
theorem pyd_r0 {Q : Exit → Act → World → Prop} {cs : Array Value} (a : Act) (w : World)
    (ha : Fr.Is 116 [(0, .agg cs)] a)
    (hQ : Hid (∀ a', Fr.Is 116 [(1, .pointer (some ⟨w.heap.size, 0, none⟩))] a' → Q .normal a' (w.alloc (.cells cs 40)))) :
    (Fr.reg Tryd.f21 0).wp Tryd.prog Q a w := by
  obtain ⟨fr, rfl, hfr⟩ := ha.lit
  simp only [List.map_cons, List.map_nil, List.cons.injEq, and_true] at hfr
  conv => arg 2; whnf
  simp only [List.range, List.range.loop, List.map_cons, List.map_nil, hfr]
  clear hfr ha
  go_wp2_with fail
  exact hQ.out _ (Fr.Is.mk rfl rfl)
set_option maxRecDepth 100000 in
set_option maxHeartbeats 1000000 in
theorem pyd_r1 {Q : Exit → Act → World → Prop} {bx : Nat} (a : Act) (w : World)
    (ha : Fr.Is 116 [(1, .pointer (some ⟨bx, 0, none⟩))] a)
    (hQ : Hid (∀ a', Fr.Is 116 [(1, .pointer (some ⟨bx, 0, none⟩)), (3, .slice none 0 0)] a' → Q .normal a' w)) :
    (Fr.reg Tryd.f21 1).wp Tryd.prog Q a w := by
  obtain ⟨fr, rfl, hfr⟩ := ha.lit
  simp only [List.map_cons, List.map_nil, List.cons.injEq, and_true] at hfr
  conv => arg 2; whnf
  simp only [List.range, List.range.loop, List.map_cons, List.map_nil, hfr]
  clear hfr ha
  go_wp2_with fail
  exact hQ.out _ (Fr.Is.mk rfl rfl)
set_option maxRecDepth 100000 in
set_option maxHeartbeats 1000000 in
theorem pyd_r25 {Q : Exit → Act → World → Prop} {oa : Option Addr} {n oc : Nat} (a : Act) (w : World)
    (ha : Fr.Is 116 [(3, .slice oa n oc)] a)
    (hQ : Hid (∀ a', Fr.Is 116 [(2, .slice oa n oc)] a' → Q .normal a' w)) :
    (Fr.reg Tryd.f21 25).wp Tryd.prog Q a w := by
  obtain ⟨fr, rfl, hfr⟩ := ha.lit
  simp only [List.map_cons, List.map_nil, List.cons.injEq, and_true] at hfr
  conv => arg 2; whnf
  simp only [List.range, List.range.loop, List.map_cons, List.map_nil, hfr]
  clear hfr ha
  go_wp2_with fail
  exact hQ.out _ (Fr.Is.mk rfl rfl)
theorem pyd_ret {R : Ending → World → Prop} {oa : Option Addr} {n oc : Nat} {a : Act} {w' : World} (ha : Fr.Is 116 [(2, .slice oa n oc)] a) (hR : R (.returned (.slice oa n oc)) w') : bodyPost Tryd.prog Tryd.f21 R .ret a w' := by
  obtain ⟨fr, rfl, hfr⟩ := ha.lit
  simp only [List.map_cons, List.map_nil, List.cons.injEq, and_true] at hfr
  refine bodyPost_ret (v := .slice oa n oc) ?_ rfl hR
  simp [results, Tryd.results21, go_sem, hfr]

/-- What a call leaves that answers a row of bytes of its own. -/
def OutEnd (w : World) (l : List UInt8) (e : Ending) (w' : World) : Prop :=
  ∃ (oa : Option Addr) (oc : Nat), e = .returned (.slice oa l.length oc) ∧ OutB w.heap.size [] oa oc l w' ∧ Below w.heap.size w w'

/-- The order's place. -/
theorem pyd_place {Q : Exit → Act → World → Prop} {w0 : World} {B bx : Nat} {oa : Option Addr} {oc : Nat} {out : List UInt8} (a : Act) (w : World) {f : FrM} {sa : Option Addr} {sc : Nat} (h : Py w0 B bx (frC f sa sc) oa oc out w)
    (f0 : 0 ≤ f.flags) (f1 : f.flags ≤ 255) (d0 : 0 ≤ f.dep) (d1 : f.dep ≤ 2147483647) (g0 : 0 ≤ f.weight) (g1 : f.weight ≤ 255) (hlen : out.length ≤ 900000000)
    (ha : Fr.Is 116 [(1, .pointer (some ⟨bx, 0, none⟩)), (3, .slice oa out.length oc)] a)
    (hQ : ∀ a' w' oa' oc' Z, Z = out ++ (if placedB f then placeL f else []) → Fr.Is 116 [(1, .pointer (some ⟨bx, 0, none⟩)), (3, .slice oa' Z.length oc')] a' → Py w0 B bx (frC f sa sc) oa' oc' Z w' → Q .normal a' w') :
    (Fr.navL (Fr.tail Tryd.f21 3)).wp Tryd.prog Q a w := by
  conv => arg 2; whnf
  refine wp_seq ?_
  refine pyd_r4 a w h rfl f0 f1 ha (Lib.hid (fun a1 w1 h1 P1 => ?_))
  cases hp : placedB f with
  | false =>
    rw [hp] at h1
    simp only [hp] at hQ
    refine wp_cond_false (h1.get (i := 31) (v := .bool false) (by simp)) ?_
    refine wp_skip ?_
    exact hQ _ _ _ _ _ (by simp) (h1.less (by simp)) P1
  | true =>
    rw [hp] at h1
    simp only [hp] at hQ
    refine wp_cond_true (h1.get (i := 31) (v := .bool true) (by simp)) ?_
    refine wp_seq ?_
    refine pyd_r5 (v := f.dep) a1 w1 P1 rfl (h1.less (by simp)) (Lib.hid (fun a2 h2 => ?_))
    refine wp_seq (wp_seq ?_)
    refine pyd_r6 (n := f.dep) (b := f.sole) a2 w1 P1 rfl h2 (Lib.hid (fun a3 h3 => ?_))
    have hfin : ∀ a3, Fr.Is 116 [(1, .pointer (some ⟨bx, 0, none⟩)), (3, .slice oa out.length oc), (4, .int .i64 (f.dep + (if f.sole then 2147483648 else 0)))] a3 → (Fr.reg Tryd.f21 8).wp Tryd.prog Q a3 w1 := fun a3 h3 => by
      refine pyd_r8 (v := f.weight) a3 w1 P1 rfl g0 g1 (by split <;> omega) (by split <;> omega) hlen h3 (Lib.hid (fun a4 w4 oa4 oc4 Z hZ h4 P4 => ?_))
      exact hQ a4 w4 oa4 oc4 Z (by rw [hZ.out, placeL]; simp) h4 P4
    cases hs : f.sole with
    | false =>
      rw [hs] at h3
      refine wp_cond_false (h3.get (i := 35) (v := .bool false) (by simp)) ?_
      refine wp_skip ?_
      exact hfin a3 (by rw [hs]; simpa using h3.less (by simp))
    | true =>
      rw [hs] at h3
      refine wp_cond_true (h3.get (i := 35) (v := .bool true) (by simp)) ?_
      refine pyd_r7 (oa := oa) (oc := oc) (out := out) (n := f.dep) a3 w1 P1 d0 d1 (h3.less (by simp)) (Lib.hid (fun a4 h4 => ?_))
      exact hfin a4 (by rw [hs]; simpa using h4)

set_option maxHeartbeats 2000000 in
theorem rpayload_any (f : FrM) (sa : Option Addr) (sc : Nat) (w : World) (hok : FrOk f sa sc w) (hr : rangesB f = true) (hd : f.data.size ≤ 1000000) (hn : f.sets.length ≤ 1000000) :
    Calls Tryd.prog 21 #[frV f sa sc] w (OutEnd w (payL f)) := by
  simp only [rangesB, Bool.and_eq_true, decide_eq_true_eq, List.all_eq_true] at hr
  obtain ⟨⟨t0, t1, f0, f1, p0, p1, g0, g1, s0, s1, l0, l1, d0, d1, i0, i1, c0, c1⟩, hs⟩ := hr
  unfold frV
  go_enter Tryd.func21, Tryd.ntmps21
  refine wp_seq ?_
  refine pyd_r0 (cs := frC f sa sc) _ w (Fr.Is.mk rfl rfl) (Lib.hid (fun a1 h1 => ?_))
  have V1 : (w.alloc (.cells (frC f sa sc) 40)).heap[w.heap.size]? = some (.cells (frC f sa sc) 40 (0, 0)) := heap_alloc_new w _
  have b1 : Below w.heap.size w (w.alloc (.cells (frC f sa sc) 40)) := (Below.refl _ _).alloc (Nat.le_refl _) _
  generalize w.alloc (.cells (frC f sa sc) 40) = w1 at V1 b1 ⊢
  refine wp_seq ?_
  refine pyd_r1 a1 w1 h1 (Lib.hid (fun a2 h2 => ?_))
  have P1 : Py w w.heap.size w.heap.size (frC f sa sc) none 0 [] w1 := ⟨V1, OutB.bare _ _ _, Std.of_below b1, Nat.le_refl _⟩
  clear V1 b1 h1
  have q7 : f.data.data.toList.length = f.data.size := by simp
  have q6 := setL_len f.sets
  refine wp_seq ?_
  refine pyd_pad a2 w1 P1 rfl t0 f0 f1 p0 p1 (by simp) h2 (Lib.hid (fun a3 w3 oa3 oc3 Z3 hZ3 h3 P3 => ?_))
  have e3 : Z3.length ≤ 1 := by rw [hZ3.out]; split <;> simp
  refine wp_seq ?_
  refine pyd_place a3 w3 P3 f0 f1 d0 d1 g0 g1 (by omega) h3 (fun a4 w4 oa4 oc4 Z4 hZ4 h4 P4 => ?_)
  have e4 : Z4.length ≤ 6 := by rw [hZ4, List.length_append]; split <;> simp [place_len] <;> omega
  refine wp_seq ?_
  refine pyd_sets a4 w4 P4 rfl f.sets sa sc rfl hok.row hn hs (by omega) h4 (Lib.hid (fun a5 w5 oa5 oc5 Z5 hZ5 h5 P5 => ?_))
  have e5 : Z5.length ≤ 6000006 := by rw [hZ5.out, List.length_append]; omega
  refine wp_seq ?_
  refine pyd_last (t := f.type) (v := f.last) a5 w5 P5 rfl rfl l0 (by omega) (by omega) h5 (Lib.hid (fun a6 w6 oa6 oc6 Z6 hZ6 h6 P6 => ?_))
  have e6 : Z6.length ≤ 6000010 := by rw [hZ6.out, List.length_append]; split <;> simp [putL_length] <;> omega
  refine wp_seq ?_
  refine pyd_code (t := f.type) (v := f.code) a6 w6 P6 rfl rfl c0 (by omega) (by omega) h6 (Lib.hid (fun a7 w7 oa7 oc7 Z7 hZ7 h7 P7 => ?_))
  have e7 : Z7.length ≤ 6000014 := by rw [hZ7.out, List.length_append]; split <;> simp [putL_length] <;> omega
  refine wp_seq ?_
  refine pyd_inc (t := f.type) (v := f.inc) a7 w7 P7 rfl rfl i0 (by omega) (by omega) h7 (Lib.hid (fun a8 w8 oa8 oc8 Z8 hZ8 h8 P8 => ?_))
  have e8 : Z8.length ≤ 6000018 := by rw [hZ8.out, List.length_append]; split <;> simp [putL_length] <;> omega
  refine wp_seq ?_
  refine pyd_data a8 w8 P8 f.data rfl (by rw [List.length_append]; omega) h8 (Lib.hid (fun a9 w9 oa9 oc9 Z9 hZ9 h9 P9 => ?_))
  have e9 : Z9.length ≤ 7000018 := by rw [hZ9.out, List.length_append]; omega
  refine wp_seq ?_
  refine pyd_zero (v := f.pad) (n := f.pad.toNat) a9 w9 P9 (by omega) rfl (by omega) (by omega) h9 (Lib.hid (fun a10 w10 oa10 oc10 Z10 hZ10 h10 P10 => ?_))
  refine wp_seq ?_
  refine pyd_r25 (oa := oa10) (n := Z10.length) (oc := oc10) a10 w10 (h10.less (by simp)) (Lib.hid (fun a11 h11 => ?_))
  refine wp_ret ?_
  try dsimp only [Exit.then]
  refine pyd_ret h11 ?_
  have hZ : Z10 = payL f := by
    rw [hZ10.out, hZ9.out, hZ8.out, hZ7.out, hZ6.out, hZ5.out, hZ4, hZ3.out, payL, dataL]
    simp only [List.append_assoc, List.nil_append]
  subst hZ
  exact ⟨oa10, oc10, rfl, ⟨P10.out.row, fun b o s e => ⟨(P10.out.apart b o s e).1, by simp⟩⟩, P10.std.below rfl⟩
end Go.Proofs.YtglhdlkmgmbgeaaDoor

namespace Go.Proofs.YtglhdlkmgmbgeaaDoor
open Go.RowKit
open Fra Oct Arg Mem Gen Wr Go.Proofs.YtglhdlkmgmbgeaaDoor.Obj
set_option linter.unusedVariables false
set_option linter.unusedSimpArgs false

/-- What Put leaves: the bytes in a row of the call's own, or none. -/
def PutEnd (R : List UInt8 × Nat) (w : World) (e : Ending) (w' : World) : Prop :=
  ∃ (oa : Option Addr) (oc : Nat), e = .returned (.tuple #[.slice oa R.1.length oc, .int .i64 R.2]) ∧ OutB w.heap.size [] oa oc R.1 w' ∧ Below w.heap.size w w'

theorem QOwn {w : World} {B c g : Nat} (h : w.ownsRow B 5 1 (.slice (some ⟨g, 0, none⟩) 0 c) 0 []) : Rw.QRow EBy w (some ⟨g, 0, none⟩) c [] ∧ g < w.heap.size := by
  have hq : Rw.QRow EBy w (some ⟨g, 0, none⟩) c [] := Rw.QRow.of_own (E := EBy) (l := []) h
  obtain ⟨b, off, e, h1, _⟩ := hq.lies _ rfl
  simp only [Addr.mk.injEq] at e
  exact ⟨hq, by omega⟩
end Go.Proofs.YtglhdlkmgmbgeaaDoor

namespace Go.Proofs.YtglhdlkmgmbgeaaDoor
open Go.RowKit
open Fra Oct Arg Mem Gen Wr Go.Proofs.YtglhdlkmgmbgeaaDoor.Obj
set_option linter.unusedVariables false
set_option linter.unusedSimpArgs false

theorem rb_two (w : World) (t : TypeId) (v u : Int) (c d : UInt8) (h : v = (c.toNat : Int)) (k : u = (d.toNat : Int)) : RB (w.alloc (.cells #[.int .u8 v, .int .u8 u] t)) (some ⟨w.heap.size, 0, none⟩) [c, d] := by
  subst h k
  exact .inr ⟨w.heap.size, 0, rfl, fun i hi => by
    have hi0 : i = 0 ∨ i = 1 := by simp at hi; omega
    rcases hi0 with rfl | rfl
    · simp
    · simp⟩

set_option maxRecDepth 100000 in
set_option maxHeartbeats 4000000 in
theorem rfput_no (f : FrM) (sa : Option Addr) (sc : Nat) (w : World) (hok : FrOk f sa sc w) (hm : mayB f = false) :
    Calls Tryd.prog 16 #[frV f sa sc] w (PutEnd ([], 1) w) := by
  have HW := Lib.hid (fun v (hv : Below w.heap.size w v) => rmay_any f sa sc v (hok.below hv))
  rw [hm] at HW
  clear hok hm
  have hbx := heap_alloc_new w (.cells (frC f sa sc) 40)
  have hb1 := bel_alloc w (.cells (frC f sa sc) 40)
  unfold frV frC at *
  go_enter Tryd.func16, Tryd.ntmps16
  go_wp2_with fail
  generalize w.alloc (.cells #[.int .i64 f.type, .int .i64 f.flags, .int .i64 f.stream, .string f.data, .int .i64 f.pad, .slice sa f.sets.length sc, .int .i64 f.code, .int .i64 f.last, .int .i64 f.inc, .int .i64 f.dep, .int .i64 f.weight, .bool f.sole] 40) = w1 at hbx hb1 ⊢
  have HB1 := Lib.hid hb1
  refine (HW.out w1 hb1).mono ?_
  rintro e w2 ⟨rfl, b2⟩
  have HB2 := Lib.hid (below_step hb1 b2)
  clear hb1 b2 hbx
  go_wp2_with fail
  go_ret2
  exact ⟨none, 0, rfl, OutB.bare _ _ _, HB2.out⟩

set_option maxRecDepth 100000 in
set_option maxHeartbeats 4000000 in
theorem rfput_yes (f : FrM) (sa : Option Addr) (sc : Nat) (w : World) (hok : FrOk f sa sc w) (hd : f.data.size ≤ 1000000) (hn : f.sets.length ≤ 1000000) (hm : mayB f = true) :
    Calls Tryd.prog 16 #[frV f sa sc] w (PutEnd (putF f) w) := by
  have hr : rangesB f = true := by
    simp only [mayB, Bool.and_eq_true] at hm; exact hm.1.1.1.1.1.1.1
  have hr0 := hr
  simp only [rangesB, Bool.and_eq_true, decide_eq_true_eq, List.all_eq_true] at hr0
  obtain ⟨⟨t0, t1, f0, f1, p0, p1, g0, g1, s0, s1, l0, l1, d0, d1, i0, i1, c0, c1⟩, hs⟩ := hr0
  have HW := Lib.hid (fun v (hv : Below w.heap.size w v) => rmay_any f sa sc v (hok.below hv))
  have HZ := Lib.hid (fun v (hv : Below w.heap.size w v) => rpayload_any f sa sc v (hok.below hv) hr hd hn)
  rw [hm] at HW
  obtain ⟨N, hN⟩ : ∃ N, N = (payL f).length := ⟨_, rfl⟩
  have hNb : N ≤ 8000000 := by
    have hpl := payL_le f p0
    omega
  have HPut : Hid (putF f = if 16777215 < N then ([], 2) else (wholeL f, 0)) := Lib.hid (by rw [putF, hm, hN]; simp)
  have hlt : ¬ 16777215 < N := by omega
  have HPut : putF f = (wholeL f, 0) := by rw [HPut.out, if_neg hlt]
  rw [HPut]
  clear HPut hlt
  have HN := Lib.hid hN
  obtain ⟨Y, hY⟩ : ∃ Y, Y = payL f := ⟨_, rfl⟩
  rw [← hY] at HZ HN
  have HWh : Hid (wholeL f = putL N 3 ++ [bt f.type, bt f.flags] ++ putL f.stream 4 ++ Y) := Lib.hid (by rw [wholeL, ← hY, ← HN.out]; simp)
  have HP3 := Lib.hid (fun v => rput_yes (N : Int) 3 v (by omega) (by omega) (by decide) (by decide))
  have HP4 := Lib.hid (fun v => rfour_any f.stream v s0 (by omega))
  have hT := bt_val f.type t0 t1
  have hF := bt_val f.flags f0 f1
  have HRT := Lib.hid (fun u => rb_two u 5 f.type f.flags (bt f.type) (bt f.flags) hT.symm hF.symm)
  have HC := Lib.hid (fun (v : World) (h : v.heap[w.heap.size]? = some (Obj.cells (frC f sa sc) 40 (0, 0))) => cells12 h)
  have hinfo := Lib.hid info_u8
  obtain ⟨Y3, hY3⟩ : ∃ Y, Y = putL (N : Int) 3 := ⟨_, rfl⟩
  obtain ⟨Y4, hY4⟩ : ∃ Y, Y = putL f.stream 4 := ⟨_, rfl⟩
  have HL3 : Hid (Y3.length = 3) := Lib.hid (by rw [hY3, putL_length])
  have HL4 : Hid (Y4.length = 4) := Lib.hid (by rw [hY4, putL_length])
  rw [← hY3] at HP3 HWh
  rw [← hY4] at HP4 HWh
  obtain ⟨Z1, hZ1⟩ : ∃ Z, Z = Y3 ++ [bt f.type, bt f.flags] := ⟨_, rfl⟩
  obtain ⟨Z2, hZ2⟩ : ∃ Z, Z = Z1 ++ Y4 := ⟨_, rfl⟩
  rw [← hZ1, ← hZ2] at HWh
  have e1 : Z1.length ≤ 10 := by rw [hZ1, List.length_append, HL3.out]; simp
  have e2 : Z2.length ≤ 20 := by rw [hZ2, List.length_append, HL4.out]; omega
  have e3 : (wholeL f).length ≤ 140737488355328 := by rw [HWh.out, List.length_append, ← HN.out]; omega
  have HZ1 := Lib.hid hZ1
  have HZ2 := Lib.hid hZ2
  have HNe4 : Hid (Y4 ≠ []) := Lib.hid (fun e => by have := HL4.out; rw [e] at this; simp at this)
  have hb1 := bel_alloc w (.cells (frC f sa sc) 40)
  have hbx := heap_alloc_new w (.cells (frC f sa sc) 40)
  generalize wholeL f = X at HWh e3 ⊢
  clear hok hm hr hs hN hY hY3 hY4 hZ1 hZ2 hd hn c0 c1 l0 l1 d0 d1 i0 i1 p0 p1 g0 g1 hT hF
  unfold frV at HW HZ ⊢
  unfold frC at HW HZ hb1 ⊢
  have HBX := Lib.hid hbx
  clear hbx
  unfold frC at HBX
  go_enter Tryd.func16, Tryd.ntmps16
  go_wp2_with fail
  generalize w.alloc (.cells #[.int .i64 f.type, .int .i64 f.flags, .int .i64 f.stream, .string f.data, .int .i64 f.pad, .slice sa f.sets.length sc, .int .i64 f.code, .int .i64 f.last, .int .i64 f.inc, .int .i64 f.dep, .int .i64 f.weight, .bool f.sole] 40) = w1 at HBX hb1 ⊢
  have HB1 := Lib.hid hb1
  refine (HW.out w1 hb1).mono ?_
  rintro e w2 ⟨rfl, b2⟩
  have HB2 := Lib.hid (below_step hb1 b2)
  have HX2 := Lib.hid (block_below b2 HBX.out)
  obtain ⟨x0, x1, x2, x3, x4, x5, x6, x7, x8, x9, x10, x11⟩ := HC.out _ HX2.out
  clear hb1 b2
  go_wp2_with fail
  refine (HZ.out w2 HB2.out).mono ?_
  rintro e w3 ⟨pa, pc, rfl, hpo, b3⟩
  have HB3 := Lib.hid (below_step HB2.out b3)
  have HX3 := Lib.hid (block_below b3 HX2.out)
  have HPO := Lib.hid hpo.rb
  rw [← HN.out]
  clear x0 x1 x2 x3 x4 x5 x6 x7 x8 x9 x10 x11 b3 hpo
  have hlt : ¬ (N : Int) > 16777215 := by omega
  go_wp2_with fail
  refine (HP3.out w3).mono ?_
  rintro e w4 ⟨ad, cp, rfl, hown, b4⟩
  have HO4 : Hid (OutB w3.heap.size [] ad cp Y3 w4) := Lib.hid (OutB.of_made hown.out (Nat.le_refl _) (fun k hk => by cases hk))
  have HO5 := Lib.hid (HO4.out.below (bel_alloc w4 (.cells #[.int .u8 f.type, .int .u8 f.flags] 5)))
  have HR5 := Lib.hid (HRT.out w4)
  have HB5 := Lib.hid (below_step b4 (bel_alloc w4 (.cells #[.int .u8 f.type, .int .u8 f.flags] 5)))
  have HS5 := Lib.hid (Std.of_below (B := w3.heap.size) (L := []) HB5.out)
  obtain ⟨x0, x1, _⟩ := HC.out _ (block_below b4 HX3.out)
  clear hown b4 hlt
  go_wp2_with (at_builtin; refine wl_bytes Tryd.underlying24 hinfo.out rfl (.tmp 18) (.tmp 25) rfl rfl rfl HO5.out HB5.out.size (fun k hk => by cases hk) rfl rfl (fun e => by cases e) HR5.out Z1 HZ1.out (Nat.le_trans e1 (by decide)) ?_; intro oa6 oc6 w6 hG; have HO6 := Lib.hid hG.out.out; have HS6 := Lib.hid (HS5.out.trans hG.out.std); have HB6 := Lib.hid (Std.below HS6.out rfl); have y2 := (HC.out _ (block_below HB6.out HX3.out)).2.2.1; clear hG)
  refine (HP4.out w6).mono ?_
  rintro e w7 ⟨ad2, cp2, rfl, hown, b7⟩
  have HO7 := Lib.hid (HO6.out.below b7)
  have HS7 := Lib.hid (HS6.out.then b7)
  have HR7 := Lib.hid (RB.of_own hown.out)
  have HB7 := Lib.hid (Std.below HS7.out rfl)
  clear hown b7 y2
  go_wp2_with (first
    | (at_builtin; refine wl_bytes Tryd.underlying24 hinfo.out rfl (.tmp 27) (.tmp 30) rfl rfl rfl HO7.out HB7.out.size (fun k hk => by cases hk) rfl rfl HNe4.out HR7.out Z2 HZ2.out (Nat.le_trans e2 (by decide)) ?_; intro oa8 oc8 w8 hG; have HO8 := Lib.hid hG.out.out; have HS8 := Lib.hid (HS7.out.trans hG.out.std); have HB8 := Lib.hid (Std.below HS8.out rfl); have HP8 := Lib.hid (HPO.out.below HB8.out); clear hG)
    | (at_builtin; refine wl_bytes0 Tryd.underlying24 hinfo.out rfl (.tmp 32) (.tmp 33) rfl rfl rfl HO8.out HB8.out.size (fun k hk => by cases hk) rfl HN.out HP8.out X HWh.out e3 ?_; intro oa9 oc9 w9 hG; have HO9 := Lib.hid hG.out.out; have HS9 := Lib.hid (HS8.out.trans hG.out.std); have HB9 := Lib.hid (Std.below HS9.out rfl); clear hG))
  go_ret2
  exact ⟨oa9, oc9, rfl, ⟨HO9.out.row, fun b o s e => ⟨Nat.le_trans HB3.out.size (HO9.out.apart b o s e).1, by simp⟩⟩, below_step HB3.out HB9.out⟩

theorem rfput_any (f : FrM) (sa : Option Addr) (sc : Nat) (w : World) (hok : FrOk f sa sc w) (hd : f.data.size ≤ 1000000) (hn : f.sets.length ≤ 1000000) :
    Calls Tryd.prog 16 #[frV f sa sc] w (PutEnd (putF f) w) := by
  cases h : mayB f with
  | false =>
    have hp : putF f = ([], 1) := by rw [putF, if_pos h]
    rw [hp]; exact rfput_no f sa sc w hok h
  | true => exact rfput_yes f sa sc w hok hd hn h
end Go.Proofs.YtglhdlkmgmbgeaaDoor
