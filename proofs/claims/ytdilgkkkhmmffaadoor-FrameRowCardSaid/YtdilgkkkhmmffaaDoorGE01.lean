/- Layer 6: the laws' helpers: awake, small. Two rows of bytes held against each other as texts. Layer 6: the law FramePuts. Layer 6: the law FrameTakes. Layer 6: what the laws need of frames as bytes: a small frame that is put, and taken. Layer 6: the law FrameBack. -/
import Derived.Test.YtdilgkkkhmmffaaDoorGP09
import Derived.Test.YtdilgkkkhmmffaaDoorGP06
import Derived.Test.YtdilgkkkhmmffaaDoorRows
import Derived.Test.YtdilgkkkhmmffaaDoorGP01
import Derived.WalkKit
import Derived.WalkSpells
import Derived.WalkLawsBesides
import Derived.Lib.Hide
import Derived.Test.YtdilgkkkhmmffaaDoorGD05
import Derived.Test.YtdilgkkkhmmffaaDoorGD04
import Derived.Laws.StructEq
import Derived.Test.YtdilgkkkhmmffaaDoorGP03
set_option linter.unusedVariables false
set_option linter.unusedSimpArgs false
namespace Go.Proofs.YtdilgkkkhmmffaaDoor
open Go.RowKit
open Fra Oct Arg Mem Gen Wr Go.Proofs.YtdilgkkkhmmffaaDoor.Obj
set_option linter.unusedVariables false
set_option linter.unusedSimpArgs false

def smallB (f : FrM) : Bool := decide (f.data.size ≤ 65536) && decide (f.sets.length ≤ 1000)
set_option maxHeartbeats 1000000 in
theorem small_any (f : FrM) (sa : Option Addr) (sc : Nat) (w : World) :
    Calls Tryd.prog 10 #[frV f sa sc] w fun e w' => e = .returned (.bool (smallB f)) ∧ Below w.heap.size w w' := by
  have hb := bel_al w (.cells (frC f sa sc) 24)
  unfold frV frC at *
  rw [smallB]
  generalize f.sets.length = n at *
  by_cases h : f.data.size ≤ 65536
  · have h' : (f.data.size : Int) ≤ 65536 := by omega
    by_cases k : n ≤ 1000
    · have k' : (n : Int) ≤ 1000 := by omega
      go_enter Tryd.func10, Tryd.ntmps10
      go_wp2_with fail
      go_ret
      exact ⟨by simp [h, k], hb⟩
    · have k' : ¬ (n : Int) ≤ 1000 := by omega
      go_enter Tryd.func10, Tryd.ntmps10
      go_wp2_with fail
      go_ret
      exact ⟨by simp [h, k], hb⟩
  · have h' : ¬ (f.data.size : Int) ≤ 65536 := by omega
    go_enter Tryd.func10, Tryd.ntmps10
    go_wp2_with fail
    go_ret
    exact ⟨by simp [h], hb⟩

theorem rb_lit (w : World) (t : TypeId) (l : List UInt8) : RB (w.alloc (.cells (bvs l).toArray t)) (some ⟨w.heap.size, 0, none⟩) l :=
  .inr ⟨w.heap.size, 0, rfl, fun i hi => by
    rw [cell_at (heap_alloc_new w (.cells (bvs l).toArray t))]
    simp [bvs, hi]⟩

def aw1 : FrM := ⟨8, 0, 1, ByteArray.empty, 0, [], 0, 0, 5, 0, 0, false⟩
theorem aw_put : putF aw1 = ([0, 0, 4, 8, 0, 0, 0, 0, 1, 0, 0, 0, 5], 0) := by decide
def aw2 : List UInt8 := [0, 0, 0, 4, 1, 0, 0, 0, 0]
theorem aw_take : takeF aw2 16384 = (⟨4, 1, 0, ⟨#[]⟩, 0, [], 0, 0, 0, 0, 0, false⟩, 9, noFa) := by decide

set_option maxRecDepth 100000 in
set_option maxHeartbeats 4000000 in
theorem awake_any (w : World) (hs : SpIs w) : Calls Tryd.prog 9 #[] w fun e w' => e = .returned (.bool true) ∧ Below w.heap.size w w' := by
  have HP := Lib.hid (pput_any aw1 none 0 w ⟨.inl rfl, Nat.le_refl _, by unfold maxLen; omega⟩ (by decide) (by decide))
  rw [aw_put] at HP
  have HS := Lib.hid hs
  have HT := Lib.hid (fun (v : World) (ad : Option Addr) (h : RB v ad aw2) (hv : SpIs v) => ptake_any aw2 ad 9 16384 v h (by decide) (by unfold maxLen; omega) hv)
  rw [aw_take] at HT
  have HL := Lib.hid (fun v : World => rb_lit v 5 aw2)
  clear hs
  unfold frV frC aw1 at HP
  unfold frV frC faV noFa at HT
  simp only [List.length_nil] at HP HT
  go_enter Tryd.func9, Tryd.ntmps9
  go_wp2_with fail
  refine HP.out.mono ?_
  rintro e w2 ⟨oa, oc, rfl, ho, b2⟩
  have HO := Lib.hid ho
  have HB := Lib.hid b2
  obtain ⟨b, off, rfl, hc⟩ : ∃ b off, oa = some ⟨b, off, none⟩ ∧ ∀ i, (h : i < 13) → w2.cell? ⟨b, off + i, none⟩ = some (.int .u8 (([0, 0, 4, 8, 0, 0, 0, 0, 1, 0, 0, 0, 5] : List UInt8)[i].toNat : Int)) := by
    rcases ho.rb with h | h
    · cases h
    · exact h
  have x12 : w2.cell? ⟨b, off + 12, none⟩ = some (.int .u8 5) := hc 12 (by decide)
  have HX := Lib.hid (fun v (hv : Below w2.heap.size w2 v) => below_cell hv x12)
  clear hc x12 ho b2
  go_wp2_with fail
  have hr : RB (w2.alloc (.cells #[.int .u8 0, .int .u8 0, .int .u8 0, .int .u8 4, .int .u8 1, .int .u8 0, .int .u8 0, .int .u8 0, .int .u8 0] 5)) (some ⟨w2.heap.size, 0, none⟩) aw2 := HL.out w2
  have b3 := bel_al w2 (.cells #[.int .u8 0, .int .u8 0, .int .u8 0, .int .u8 4, .int .u8 1, .int .u8 0, .int .u8 0, .int .u8 0, .int .u8 0] 5)
  refine (HT.out _ _ hr (HS.out.below (below_step HB.out b3))).mono ?_
  rintro e w4 ⟨sa, sc, rfl, _, b4⟩
  have y12 : ∀ o p : Obj, ((w4.alloc o).alloc p).cell? ⟨b, off + 12, none⟩ = some (.int .u8 5) := fun o p => HX.out _ (below_step (below_step b3 b4) (below_step (bel_al _ _) (bel_al _ _)))
  have HB4 := Lib.hid (below_step HB.out (below_step b3 b4))
  clear hr b3 b4 HT HL
  go_wp2_with fail
  go_ret
  exact ⟨rfl, below_step HB4.out (below_step (bel_al _ _) (bel_al _ _))⟩
end Go.Proofs.YtdilgkkkhmmffaaDoor

namespace Go.Proofs.YtdilgkkkhmmffaaDoor
open Go.RowKit
open Mem
namespace Gen

/-- Two rows of bytes are held against each other as texts. -/
theorem bytes_any (a b : Option Addr) (la lb : List UInt8) (ca cb : Nat) (w : World) (ha : RB w a la) (hb : RB w b lb) :
    Calls Tryd.prog 13 #[.slice a la.length ca, .slice b lb.length cb] w fun e w' => e = .returned (.bool (decide (la = lb))) ∧ w = w' := by
  have h1 := ha.conv (P := Tryd.prog) (cap := ca) (src := 27) (dst := 9) Tryd.underlying27 Tryd.underlying5 Tryd.underlying9
  have h2 := hb.conv (P := Tryd.prog) (cap := cb) (src := 27) (dst := 9) Tryd.underlying27 Tryd.underlying5 Tryd.underlying9
  go_enter Tryd.func13, Tryd.ntmps13
  go_wp2_with fail
  go_ret
  exact ⟨congrArg (fun b => Ending.returned (.bool b)) (by rw [Bool.eq_iff_iff]; simp), rfl⟩
end Gen
end Go.Proofs.YtdilgkkkhmmffaaDoor

namespace Go.Proofs.YtdilgkkkhmmffaaDoor
open Go.RowKit
open Fra Oct Arg Mem Gen Wr Go.Proofs.YtdilgkkkhmmffaaDoor.Obj
set_option linter.unusedVariables false
set_option linter.unusedSimpArgs false

set_option maxRecDepth 100000 in
set_option maxHeartbeats 4000000 in
theorem law_puts (f : FrM) (sa : Option Addr) (sc : Nat) (w : World) (hok : FrOk f sa sc w) (hs : SpIs w) :
    Calls Tryd.prog 3 #[frV f sa sc] w fun e w' => e = .returned (.bool true) ∧ Below w.heap.size w w' := by
  have HS := Lib.hid hs
  have HOk := Lib.hid (fun v (hv : Below w.heap.size w v) => hok.below hv)
  have HA := Lib.hid (fun v (hv : Below w.heap.size w v) => awake_any v (hs.below hv))
  have HM := Lib.hid (fun v => small_any f sa sc v)
  have HC := Lib.hid (fun (v : World) (h : v.heap[w.heap.size]? = some (Obj.cells (frC f sa sc) 24 (0, 0))) => cells12 h)
  have hb1 := bel_alloc w (.cells (frC f sa sc) 24)
  have hbx := heap_alloc_new w (.cells (frC f sa sc) 24)
  have HBX := Lib.hid hbx
  clear hbx hok hs
  unfold frV frC at HM
  unfold frC at HBX hb1
  cases hsm : smallB f with
  | false =>
    rw [hsm] at HM
    unfold frV frC
    go_enter Tryd.func3, Tryd.ntmps3
    go_wp2_with fail
    generalize w.alloc (.cells #[.int .i64 f.type, .int .i64 f.flags, .int .i64 f.stream, .string f.data, .int .i64 f.pad, .slice sa f.sets.length sc, .int .i64 f.code, .int .i64 f.last, .int .i64 f.inc, .int .i64 f.dep, .int .i64 f.weight, .bool f.sole] 24) = w1 at HBX hb1 ⊢
    have HB1 := Lib.hid hb1
    refine (HA.out _ hb1).mono ?_
    rintro e w2 ⟨rfl, b2⟩
    have HB2 := Lib.hid (below_step hb1 b2)
    have HX2 := Lib.hid (block_below b2 HBX.out)
    obtain ⟨x0, x1, x2, x3, x4, x5, x6, x7, x8, x9, x10, x11⟩ := HC.out _ HX2.out
    clear hb1 b2 HA
    go_wp2_with fail
    refine (HM.out _).mono ?_
    rintro e w3 ⟨rfl, b3⟩
    have HB3 := Lib.hid (below_step HB2.out b3)
    have HX3 := Lib.hid (block_below b3 HX2.out)
    clear b3 HM
    clear x0 x1 x2 x3 x4 x5 x6 x7 x8 x9 x10 x11
    obtain ⟨x0, x1, x2, x3, x4, x5, x6, x7, x8, x9, x10, x11⟩ := HC.out _ HX3.out
    go_wp2_with fail
    go_ret
    exact ⟨rfl, HB3.out⟩
  | true =>
    rw [hsm] at HM
    simp only [smallB, Bool.and_eq_true, decide_eq_true_eq] at hsm
    have HP := Lib.hid (fun v (hv : Below w.heap.size w v) => pput_any f sa sc v (HOk.out v hv) (by omega) (by omega))
    have HR := Lib.hid (fun v (hv : Below w.heap.size w v) => rfput_any f sa sc v (HOk.out v hv) (by omega) (by omega))
    unfold frV frC at HP HR ⊢
    generalize putF f = R at HP HR
    obtain ⟨l, z⟩ := R
    go_enter Tryd.func3, Tryd.ntmps3
    go_wp2_with fail
    generalize w.alloc (.cells #[.int .i64 f.type, .int .i64 f.flags, .int .i64 f.stream, .string f.data, .int .i64 f.pad, .slice sa f.sets.length sc, .int .i64 f.code, .int .i64 f.last, .int .i64 f.inc, .int .i64 f.dep, .int .i64 f.weight, .bool f.sole] 24) = w1 at HBX hb1 ⊢
    have HB1 := Lib.hid hb1
    refine (HA.out _ hb1).mono ?_
    rintro e w2 ⟨rfl, b2⟩
    have HB2 := Lib.hid (below_step hb1 b2)
    have HX2 := Lib.hid (block_below b2 HBX.out)
    obtain ⟨x0, x1, x2, x3, x4, x5, x6, x7, x8, x9, x10, x11⟩ := HC.out _ HX2.out
    clear hb1 b2 HA
    go_wp2_with fail
    refine (HM.out _).mono ?_
    rintro e w3 ⟨rfl, b3⟩
    have HB3 := Lib.hid (below_step HB2.out b3)
    have HX3 := Lib.hid (block_below b3 HX2.out)
    clear b3 HM
    clear x0 x1 x2 x3 x4 x5 x6 x7 x8 x9 x10 x11
    obtain ⟨x0, x1, x2, x3, x4, x5, x6, x7, x8, x9, x10, x11⟩ := HC.out _ HX3.out
    go_wp2_with fail
    refine (HP.out _ HB3.out).mono ?_
    rintro e w4 ⟨oa, oc, rfl, ho, b4⟩
    have HO4 := Lib.hid ho.rb
    have HB4 := Lib.hid (below_step HB3.out b4)
    have HX4 := Lib.hid (block_below b4 HX3.out)
    clear b4 ho
    clear x0 x1 x2 x3 x4 x5 x6 x7 x8 x9 x10 x11
    obtain ⟨x0, x1, x2, x3, x4, x5, x6, x7, x8, x9, x10, x11⟩ := HC.out _ HX4.out
    go_wp2_with fail
    refine (HR.out _ HB4.out).mono ?_
    rintro e w5 ⟨ra, rc, rfl, hro, b5⟩
    have HB5 := Lib.hid (below_step HB4.out b5)
    have HY := Lib.hid (bytes_any oa ra l l oc rc w5 (HO4.out.below b5) hro.rb)
    rw [decide_eq_true rfl] at HY
    clear b5 hro
    clear x0 x1 x2 x3 x4 x5 x6 x7 x8 x9 x10 x11
    go_wp2_with fail
    refine HY.out.mono ?_
    rintro e w6 ⟨rfl, rfl⟩
    go_wp2_with fail
    go_ret
    exact ⟨rfl, HB5.out⟩
end Go.Proofs.YtdilgkkkhmmffaaDoor

namespace Go.Proofs.YtdilgkkkhmmffaaDoor
open Go.RowKit
open Fra Oct Arg Mem Gen Wr Go.Proofs.YtdilgkkkhmmffaaDoor.Obj
set_option linter.unusedVariables false
set_option linter.unusedSimpArgs false

theorem out_empty (w : World) (B : Nat) (L : List Nat) (hB : B ≤ w.heap.size) (hL : ∀ k ∈ L, k < w.heap.size) : OutB B L (some ⟨w.heap.size, 0, none⟩) 0 [] (w.alloc (.cells #[] 5)) :=
  ⟨⟨Nat.le_refl _, by unfold maxLen; omega, fun e => (by cases e), fun a e => by
    simp only [Option.some.injEq] at e
    subst e
    exact ⟨_, 0, rfl, by simp, fun i hi => (by simp at hi), fun j hj => (by simp [EBy] at hj)⟩⟩, fun b o s e => by
    simp only [Option.some.injEq, Addr.mk.injEq] at e
    exact ⟨by omega, fun hm => by have := hL b hm; omega⟩⟩
theorem two_boxes (w : World) (F : FrM) (sa : Option Addr) (sc : Nat) (X : FaM) :
    Fb w.heap.size F sa sc ((w.alloc (.cells (frC F sa sc) 24)).alloc (.cells #[.bool X.is, .int .i64 X.code, .int .i64 X.stream] 33)) ∧
      ((w.alloc (.cells (frC F sa sc) 24)).alloc (.cells #[.bool X.is, .int .i64 X.code, .int .i64 X.stream] 33)).heap[w.heap.size + 1]? = some (.cells #[.bool X.is, .int .i64 X.code, .int .i64 X.stream] 33 (0, 0)) ∧
      Below w.heap.size w ((w.alloc (.cells (frC F sa sc) 24)).alloc (.cells #[.bool X.is, .int .i64 X.code, .int .i64 X.stream] 33)) :=
  ⟨alloc_at (heap_alloc_new w _), alloc_two w _ _, below_step (bel_al _ _) (bel_al _ _)⟩
theorem bel2 (w : World) (o p : Obj) : Below w.heap.size w ((w.alloc o).alloc p) := below_step (bel_al _ _) (bel_al _ _)
theorem faEq (x y : FaM) (w : World) : (Op.equalIn 10000 33 (.agg #[.bool x.is, .int .i64 x.code, .int .i64 x.stream]) (.agg #[.bool y.is, .int .i64 y.code, .int .i64 y.stream])).run Tryd.prog w = .ok (decide (x = y)) w := by
  rw [eqFa]
  congr 1
  cases x; cases y; rw [Bool.eq_iff_iff]; simp

set_option maxRecDepth 100000 in
set_option maxHeartbeats 4000000 in
theorem law_takes (l : List UInt8) (ad : Option Addr) (cap : Nat) (most : Int) (w : World) (hr : RB w ad l) (hc : l.length ≤ cap) (hm : cap ≤ maxLen) (hs : SpIs w) :
    Calls Tryd.prog 4 #[.slice ad l.length cap, .int .i64 most] w fun e w' => e = .returned (.bool true) ∧ Below w.heap.size w w' := by
  have HA := Lib.hid (awake_any w hs)
  by_cases hl : 131072 < l.length
  · have hl' : (l.length : Int) > 131072 := by omega
    go_enter Tryd.func4, Tryd.ntmps4
    go_wp2_with fail
    refine HA.out.mono ?_
    rintro e w1 ⟨rfl, b1⟩
    go_wp2_with fail
    go_ret
    exact ⟨rfl, b1⟩
  · have hl' : ¬ (l.length : Int) > 131072 := by omega
    have hl2 : l.length ≤ 140737488355328 := by omega
    have HP := Lib.hid (fun (v : World) (oa : Option Addr) (oc : Nat) (hv : Below w.heap.size w v) (ho : RB v oa l) (h1 : l.length ≤ oc) (h2 : oc ≤ maxLen) => ptake_any l oa oc most v ho h1 h2 (hs.below hv))
    have HR := Lib.hid (fun (v : World) (hv : Below w.heap.size w v) => rtake06_any l ad cap most v (hr.below hv) hc hm)
    have HB := Lib.hid (fun (v : World) (oa : Option Addr) (oc : Nat) (hv : Below w.heap.size w v) (ho : RB v oa l) => bytes_any oa ad l l oc cap v ho (hr.below hv))
    rw [decide_eq_true rfl] at HB
    have hinfo := Lib.hid info_u8
    have HRB := Lib.hid hr
    unfold TkEnd at HR
    generalize takeF l most = R at HP HR
    obtain ⟨F, N, X⟩ := R
    simp only at HP HR
    have HE := fun v => faEq X X v
    rw [decide_eq_true rfl] at HE
    have hg := guFa
    have HSm := Lib.hid (fun (v : World) sa sb sc sd h1 h2 => rsame_any F F sa sb sc sd v h1 h2)
    rw [decide_eq_true rfl] at HSm
    unfold frV frC faV at HP HR
    unfold frV frC at HSm
    clear hs hr
    go_enter Tryd.func4, Tryd.ntmps4
    go_wp2_with fail
    refine HA.out.mono ?_
    rintro e w1 ⟨rfl, b1⟩
    have HB1 := Lib.hid b1
    have HO1 := Lib.hid (out_empty w1 w1.heap.size [] (Nat.le_refl _) (fun k hk => by cases hk))
    have HR1 := Lib.hid ((HRB.out.below b1).below (bel_al w1 (.cells #[] 5)))
    have HB2 := Lib.hid (bel_al w1 (.cells #[] 5))
    clear b1
    go_wp2_with (at_builtin; refine wl_bytes0 Tryd.underlying27 hinfo.out rfl (.tmp 17) (.tmp 18) rfl rfl rfl HO1.out HB2.out.size (fun k hk => by cases hk) rfl rfl HR1.out l rfl hl2 ?_; intro oa oc w2 hG; have HO2 := Lib.hid hG.out.out; have HB3 := Lib.hid (below_step HB1.out (Std.below ((Std.of_below HB2.out).trans hG.out.std) rfl)); clear hG)
    refine (HP.out _ oa oc HB3.out HO2.out.rb HO2.out.row.le HO2.out.row.max).mono ?_
    rintro e w3 ⟨sa, sc, rfl, ok3, b3⟩
    have HOk3 := Lib.hid ok3
    have HB4 := Lib.hid (below_step HB3.out b3)
    have HO3 := Lib.hid (HO2.out.rb.below b3)
    clear b3 ok3
    obtain ⟨t1, t2, t3⟩ := two_boxes w3 F sa sc X
    unfold frC at t1 t2 t3
    go_wp2_with fail
    generalize (w3.alloc (.cells #[.int .i64 F.type, .int .i64 F.flags, .int .i64 F.stream, .string F.data, .int .i64 F.pad, .slice sa F.sets.length sc, .int .i64 F.code, .int .i64 F.last, .int .i64 F.inc, .int .i64 F.dep, .int .i64 F.weight, .bool F.sole] 24)).alloc (.cells #[.bool X.is, .int .i64 X.code, .int .i64 X.stream] 33) = w4 at t1 t2 t3 ⊢
    obtain ⟨g1, hg1⟩ : ∃ g, g = w3.heap.size := ⟨_, rfl⟩
    rw [← hg1] at t1 t2 ⊢
    have HF1 : Hid (Fb g1 F sa sc w4) := Lib.hid t1
    have HX1 := Lib.hid t2
    have HB5 := Lib.hid (below_step HB4.out t3)
    have HO4 := Lib.hid (HO3.out.below t3)
    have HOk4 := Lib.hid (HOk3.out.below t3)
    clear t1 t2 t3 hg1
    refine (HR.out _ HB5.out).mono ?_
    rintro e w5 ⟨ra, rc, rfl, ok5, b5⟩
    have HOk5 := Lib.hid ok5
    have HOk6 := Lib.hid (HOk4.out.below b5)
    have HB6 := Lib.hid (below_step HB5.out b5)
    have HO5 := Lib.hid (HO4.out.below b5)
    have HF5 := Lib.hid (show Fb g1 F sa sc w5 from block_below b5 HF1.out)
    have HX5 := Lib.hid (block_below b5 HX1.out)
    clear b5 ok5
    have z0 : ∀ o p : Obj, (((w5).alloc o).alloc p).cell? ⟨g1, 0, none⟩ = some (.int .i64 F.type) := fun o p => Fb.cellz (show Fb g1 F sa sc _ from block_below (bel2 w5 o p) HF5.out) 0
    have z1 : ∀ o p : Obj, (((w5).alloc o).alloc p).cell? ⟨g1, 1, none⟩ = some (.int .i64 F.flags) := fun o p => Fb.cellz (show Fb g1 F sa sc _ from block_below (bel2 w5 o p) HF5.out) 1
    have z2 : ∀ o p : Obj, (((w5).alloc o).alloc p).cell? ⟨g1, 2, none⟩ = some (.int .i64 F.stream) := fun o p => Fb.cellz (show Fb g1 F sa sc _ from block_below (bel2 w5 o p) HF5.out) 2
    have z3 : ∀ o p : Obj, (((w5).alloc o).alloc p).cell? ⟨g1, 3, none⟩ = some (.string F.data) := fun o p => Fb.cellz (show Fb g1 F sa sc _ from block_below (bel2 w5 o p) HF5.out) 3
    have z4 : ∀ o p : Obj, (((w5).alloc o).alloc p).cell? ⟨g1, 4, none⟩ = some (.int .i64 F.pad) := fun o p => Fb.cellz (show Fb g1 F sa sc _ from block_below (bel2 w5 o p) HF5.out) 4
    have z5 : ∀ o p : Obj, (((w5).alloc o).alloc p).cell? ⟨g1, 5, none⟩ = some (.slice sa F.sets.length sc) := fun o p => Fb.cellz (show Fb g1 F sa sc _ from block_below (bel2 w5 o p) HF5.out) 5
    have z6 : ∀ o p : Obj, (((w5).alloc o).alloc p).cell? ⟨g1, 6, none⟩ = some (.int .i64 F.code) := fun o p => Fb.cellz (show Fb g1 F sa sc _ from block_below (bel2 w5 o p) HF5.out) 6
    have z7 : ∀ o p : Obj, (((w5).alloc o).alloc p).cell? ⟨g1, 7, none⟩ = some (.int .i64 F.last) := fun o p => Fb.cellz (show Fb g1 F sa sc _ from block_below (bel2 w5 o p) HF5.out) 7
    have z8 : ∀ o p : Obj, (((w5).alloc o).alloc p).cell? ⟨g1, 8, none⟩ = some (.int .i64 F.inc) := fun o p => Fb.cellz (show Fb g1 F sa sc _ from block_below (bel2 w5 o p) HF5.out) 8
    have z9 : ∀ o p : Obj, (((w5).alloc o).alloc p).cell? ⟨g1, 9, none⟩ = some (.int .i64 F.dep) := fun o p => Fb.cellz (show Fb g1 F sa sc _ from block_below (bel2 w5 o p) HF5.out) 9
    have z10 : ∀ o p : Obj, (((w5).alloc o).alloc p).cell? ⟨g1, 10, none⟩ = some (.int .i64 F.weight) := fun o p => Fb.cellz (show Fb g1 F sa sc _ from block_below (bel2 w5 o p) HF5.out) 10
    have z11 : ∀ o p : Obj, (((w5).alloc o).alloc p).cell? ⟨g1, 11, none⟩ = some (.bool F.sole) := fun o p => Fb.cellz (show Fb g1 F sa sc _ from block_below (bel2 w5 o p) HF5.out) 11
    obtain ⟨t1, t2, t3⟩ := two_boxes w5 F ra rc X
    unfold frC at t1 t2 t3
    go_wp2_with fail
    have HOk7 := Lib.hid (HOk6.out.below t3)
    have HOk8 := Lib.hid (HOk5.out.below t3)
    have HX7 := Lib.hid (block_below t3 HX5.out)
    have HB7 := Lib.hid (below_step HB6.out t3)
    have HO7 := Lib.hid (HO5.out.below t3)
    clear z0 z1 z2 z3 z4 z5 z6 z7 z8 z9 z10 z11
    generalize (w5.alloc (.cells #[.int .i64 F.type, .int .i64 F.flags, .int .i64 F.stream, .string F.data, .int .i64 F.pad, .slice ra F.sets.length rc, .int .i64 F.code, .int .i64 F.last, .int .i64 F.inc, .int .i64 F.dep, .int .i64 F.weight, .bool F.sole] 24)).alloc (.cells #[.bool X.is, .int .i64 X.code, .int .i64 X.stream] 33) = w7 at t1 t2 t3 HOk7 HOk8 HX7 HB7 HO7 ⊢
    have HX8 := Lib.hid t2
    clear t1 t2 t3
    refine (HSm.out w7 sa ra sc rc HOk7.out HOk8.out).mono ?_
    rintro e w8 ⟨rfl, b8⟩
    have HB8 := Lib.hid (below_step HB7.out b8)
    have HO8 := Lib.hid (HO7.out.below b8)
    obtain ⟨y0, y1, y2⟩ := fa_cells (block_below b8 HX7.out)
    obtain ⟨v0, v1, v2⟩ := fa_cells (block_below b8 HX8.out)
    clear b8
    go_wp2_with fail
    refine (HB.out w8 oa oc HB8.out HO8.out).mono ?_
    rintro e w9 ⟨rfl, rfl⟩
    go_wp2_with fail
    go_ret
    exact ⟨rfl, HB8.out⟩
end Go.Proofs.YtdilgkkkhmmffaaDoor

namespace Go.Proofs.YtdilgkkkhmmffaaDoor
open Go.RowKit
open Fra Oct
set_option linter.unusedVariables false
set_option linter.unusedSimpArgs false

theorem pl_len (f : FrM) (hs : smallB f = true) (hm : mayB f = true) : (payL f).length ≤ 90000 := by
  have hr : rangesB f = true := by
    simp only [mayB, Bool.and_eq_true] at hm; exact hm.1.1.1.1.1.1.1
  simp only [rangesB, Bool.and_eq_true, decide_eq_true_eq] at hr
  simp only [smallB, Bool.and_eq_true, decide_eq_true_eq] at hs
  have hpl := pay_len f (partsM f.type f.flags) (by omega)
  rw [pay_eq f hm] at hpl
  have hal : aheadN (partsM f.type f.flags) ≤ 18 := by
    unfold aheadN; repeat' split
    all_goals omega
  omega
theorem wput_yes (f : FrM) (hs : smallB f = true) (hm : mayB f = true) : putF f = (wholeL f, 0) := by
  have := pl_len f hs hm
  rw [putF, hm, if_neg (by decide), if_neg (by omega)]
theorem wput_no (f : FrM) (hm : mayB f = false) : putF f = ([], 1) := by rw [putF, if_pos hm]
theorem wl_len (f : FrM) (hs : smallB f = true) (hm : mayB f = true) : (wholeL f).length = 9 + (payL f).length ∧ (payL f).length ≤ 90000 := ⟨whole_len f, pl_len f hs hm⟩
theorem wl_n (f : FrM) (hs : smallB f = true) (hm : mayB f = true) : lenN (wholeL f) = (payL f).length := whole_n f (by have := pl_len f hs hm; omega)
theorem wl_at (f : FrM) (hs : smallB f = true) (hm : mayB f = true) (most : Int) (h : ((payL f).length : Int) ≤ most) : takeF (wholeL f) most = takeF (wholeL f) 16777215 := by
  have hp := pl_len f hs hm
  rw [take_whole f most (by omega) h, take_whole f 16777215 (by omega) (by omega)]
theorem wl_join (f : FrM) (hs : smallB f = true) (hm : mayB f = true) (x : List UInt8) : takeF (wholeL f ++ x) 16777215 = takeF (wholeL f) 16777215 :=
  take_join _ _ _ (by rw [whole_len, wl_n f hs hm])
theorem wl_cut (f : FrM) (hs : smallB f = true) (hm : mayB f = true) (k : Nat) (hk : k < (wholeL f).length) : takeF ((wholeL f).take k) 16777215 = (noFr, 0, noFa) :=
  take_cut _ _ _ (by rw [whole_len, wl_n f hs hm]) (by rw [wl_n f hs hm]; have := pl_len f hs hm; omega) hk
theorem wl_bad (f : FrM) (hs : smallB f = true) (hm : mayB f = true) (h : (takeF (wholeL f) 16777215).2.2.is = true) : (takeF (wholeL f) 16777215).1 = noFr := by
  have hp := pl_len f hs hm
  rw [take_whole f 16777215 (by omega) (by omega)] at h ⊢
  exact body_bad _ _ h
theorem wl_ok (f : FrM) (hs : smallB f = true) (hm : mayB f = true) (h : (takeF (wholeL f) 16777215).2.2.is = false) : takeF (wholeL f) 16777215 = (f, (wholeL f).length, noFa) := by
  have hp := pl_len f hs hm
  rw [take_whole f 16777215 (by omega) (by omega)] at h ⊢
  rw [whole_len]
  exact body_back f (may_of f hm) h
theorem wl_less (f : FrM) (hs : smallB f = true) (hm : mayB f = true) (most : Int) (h : most < ((payL f).length : Int)) : takeF ((wholeL f).take 9) most = (noFr, 0, ofC 6) := by
  have hp := pl_len f hs hm
  have hl : ((wholeL f).take 9).length = 9 := by rw [List.length_take, whole_len]; omega
  have hn : lenN ((wholeL f).take 9) = lenN (wholeL f) := by
    have h1 := len_join ((wholeL f).take 9) ((wholeL f).drop 9) (by omega)
    rw [List.take_append_drop] at h1
    exact h1.symm
  rw [takeF, hl, if_neg (by omega), hn, wl_n f hs hm, if_pos (by omega)]
theorem wl_high (f : FrM) (hs : smallB f = true) (hm : mayB f = true) : takeF (highL f) 16777215 = takeF (wholeL f) 16777215 := by
  have hp := pl_len f hs hm
  exact take_high f _ (may_of f hm) (by omega) (by omega)
end Go.Proofs.YtdilgkkkhmmffaaDoor

namespace Go.Proofs.YtdilgkkkhmmffaaDoor
open Go.RowKit
open Fra Oct Arg Mem Gen Wr Go.Proofs.YtdilgkkkhmmffaaDoor.Obj
set_option linter.unusedVariables false
set_option linter.unusedSimpArgs false

set_option maxRecDepth 100000 in
set_option maxHeartbeats 8000000 in
theorem back_0 (f : FrM) (sa : Option Addr) (sc : Nat) (l2 : List UInt8) (ad2 : Option Addr) (c2 : Nat) (cut : Int) (w : World) (hok : FrOk f sa sc w) (hr2 : RB w ad2 l2) (hc2 : l2.length ≤ c2) (hm2 : c2 ≤ maxLen) (hs : SpIs w) (hsm : smallB f = false) :
    Calls Tryd.prog 5 #[frV f sa sc, .slice ad2 l2.length c2, .int .i64 cut] w fun e w' => e = .returned (.bool true) ∧ Below w.heap.size w w' := by
  have HS := Lib.hid hs
  have HOk := Lib.hid (fun v (hv : Below w.heap.size w v) => hok.below hv)
  have HSp := Lib.hid (fun v (hv : Below w.heap.size w v) => hs.below hv)
  have HA := Lib.hid (fun v (hv : Below w.heap.size w v) => awake_any v (hs.below hv))
  have HM := Lib.hid (fun v => small_any f sa sc v)
  have HC := Lib.hid (fun (v : World) (h : v.heap[w.heap.size]? = some (Obj.cells (frC f sa sc) 24 (0, 0))) => cells12 h)
  have hb1 := bel_alloc w (.cells (frC f sa sc) 24)
  have HBX := Lib.hid (heap_alloc_new w (.cells (frC f sa sc) 24))
  rw [hsm] at HM
  unfold frV frC at HM
  unfold frV
  unfold frC at HBX hb1 ⊢
  clear hok hs
  go_enter Tryd.func5, Tryd.ntmps5
  go_wp2_with fail
  generalize w.alloc (.cells #[.int .i64 f.type, .int .i64 f.flags, .int .i64 f.stream, .string f.data, .int .i64 f.pad, .slice sa f.sets.length sc, .int .i64 f.code, .int .i64 f.last, .int .i64 f.inc, .int .i64 f.dep, .int .i64 f.weight, .bool f.sole] 24) = w1 at HBX hb1 ⊢
  have HB1 := Lib.hid hb1
  refine (HA.out _ hb1).mono ?_
  rintro e w2 ⟨rfl, b2⟩
  have HB2 := Lib.hid (below_step hb1 b2)
  have HX2 := Lib.hid (block_below b2 HBX.out)
  obtain ⟨x0, x1, x2, x3, x4, x5, x6, x7, x8, x9, x10, x11⟩ := HC.out _ HX2.out
  clear hb1 b2 HA
  go_wp2_with fail
  refine (HM.out _).mono ?_
  rintro e w3 ⟨rfl, b3⟩
  have HB3 := Lib.hid (below_step HB2.out b3)
  have HX3 := Lib.hid (block_below b3 HX2.out)
  clear b3 HM
  clear x0 x1 x2 x3 x4 x5 x6 x7 x8 x9 x10 x11
  obtain ⟨x0, x1, x2, x3, x4, x5, x6, x7, x8, x9, x10, x11⟩ := HC.out _ HX3.out
  go_wp2_with fail
  go_ret
  exact ⟨rfl, HB3.out⟩

set_option maxRecDepth 100000 in
set_option maxHeartbeats 8000000 in
theorem back_1 (f : FrM) (sa : Option Addr) (sc : Nat) (l2 : List UInt8) (ad2 : Option Addr) (c2 : Nat) (cut : Int) (w : World) (hok : FrOk f sa sc w) (hr2 : RB w ad2 l2) (hc2 : l2.length ≤ c2) (hm2 : c2 ≤ maxLen) (hs : SpIs w) (hsm : smallB f = true) (hl : 65536 < l2.length) :
    Calls Tryd.prog 5 #[frV f sa sc, .slice ad2 l2.length c2, .int .i64 cut] w fun e w' => e = .returned (.bool true) ∧ Below w.heap.size w w' := by
  have HS := Lib.hid hs
  have HOk := Lib.hid (fun v (hv : Below w.heap.size w v) => hok.below hv)
  have HSp := Lib.hid (fun v (hv : Below w.heap.size w v) => hs.below hv)
  have HA := Lib.hid (fun v (hv : Below w.heap.size w v) => awake_any v (hs.below hv))
  have HM := Lib.hid (fun v => small_any f sa sc v)
  have HC := Lib.hid (fun (v : World) (h : v.heap[w.heap.size]? = some (Obj.cells (frC f sa sc) 24 (0, 0))) => cells12 h)
  have hb1 := bel_alloc w (.cells (frC f sa sc) 24)
  have HBX := Lib.hid (heap_alloc_new w (.cells (frC f sa sc) 24))
  rw [hsm] at HM
  have hl' : (l2.length : Int) > 65536 := by omega
  unfold frV frC at HM
  unfold frV
  unfold frC at HBX hb1 ⊢
  clear hok hs
  go_enter Tryd.func5, Tryd.ntmps5
  go_wp2_with fail
  generalize w.alloc (.cells #[.int .i64 f.type, .int .i64 f.flags, .int .i64 f.stream, .string f.data, .int .i64 f.pad, .slice sa f.sets.length sc, .int .i64 f.code, .int .i64 f.last, .int .i64 f.inc, .int .i64 f.dep, .int .i64 f.weight, .bool f.sole] 24) = w1 at HBX hb1 ⊢
  have HB1 := Lib.hid hb1
  refine (HA.out _ hb1).mono ?_
  rintro e w2 ⟨rfl, b2⟩
  have HB2 := Lib.hid (below_step hb1 b2)
  have HX2 := Lib.hid (block_below b2 HBX.out)
  obtain ⟨x0, x1, x2, x3, x4, x5, x6, x7, x8, x9, x10, x11⟩ := HC.out _ HX2.out
  clear hb1 b2 HA
  go_wp2_with fail
  refine (HM.out _).mono ?_
  rintro e w3 ⟨rfl, b3⟩
  have HB3 := Lib.hid (below_step HB2.out b3)
  have HX3 := Lib.hid (block_below b3 HX2.out)
  clear b3 HM
  clear x0 x1 x2 x3 x4 x5 x6 x7 x8 x9 x10 x11
  obtain ⟨x0, x1, x2, x3, x4, x5, x6, x7, x8, x9, x10, x11⟩ := HC.out _ HX3.out
  go_wp2_with fail
  go_ret
  exact ⟨rfl, HB3.out⟩

set_option maxRecDepth 100000 in
set_option maxHeartbeats 8000000 in
theorem back_2 (f : FrM) (sa : Option Addr) (sc : Nat) (l2 : List UInt8) (ad2 : Option Addr) (c2 : Nat) (cut : Int) (w : World) (hok : FrOk f sa sc w) (hr2 : RB w ad2 l2) (hc2 : l2.length ≤ c2) (hm2 : c2 ≤ maxLen) (hs : SpIs w) (hsm : smallB f = true) (hl : l2.length ≤ 65536) (hm : mayB f = false) :
    Calls Tryd.prog 5 #[frV f sa sc, .slice ad2 l2.length c2, .int .i64 cut] w fun e w' => e = .returned (.bool true) ∧ Below w.heap.size w w' := by
  have HS := Lib.hid hs
  have HOk := Lib.hid (fun v (hv : Below w.heap.size w v) => hok.below hv)
  have HSp := Lib.hid (fun v (hv : Below w.heap.size w v) => hs.below hv)
  have HA := Lib.hid (fun v (hv : Below w.heap.size w v) => awake_any v (hs.below hv))
  have HM := Lib.hid (fun v => small_any f sa sc v)
  have HC := Lib.hid (fun (v : World) (h : v.heap[w.heap.size]? = some (Obj.cells (frC f sa sc) 24 (0, 0))) => cells12 h)
  have hb1 := bel_alloc w (.cells (frC f sa sc) 24)
  have HBX := Lib.hid (heap_alloc_new w (.cells (frC f sa sc) 24))
  rw [hsm] at HM
  have hl' : ¬ (l2.length : Int) > 65536 := by omega
  simp only [smallB, Bool.and_eq_true, decide_eq_true_eq] at hsm
  have HP := Lib.hid (fun v (hv : Below w.heap.size w v) => pput_any f sa sc v (HOk.out v hv) (by omega) (by omega))
  rw [wput_no f hm] at HP
  unfold frV frC at HM HP
  unfold frV
  unfold frC at HBX hb1 ⊢
  clear hok hs hm
  go_enter Tryd.func5, Tryd.ntmps5
  go_wp2_with fail
  generalize w.alloc (.cells #[.int .i64 f.type, .int .i64 f.flags, .int .i64 f.stream, .string f.data, .int .i64 f.pad, .slice sa f.sets.length sc, .int .i64 f.code, .int .i64 f.last, .int .i64 f.inc, .int .i64 f.dep, .int .i64 f.weight, .bool f.sole] 24) = w1 at HBX hb1 ⊢
  have HB1 := Lib.hid hb1
  refine (HA.out _ hb1).mono ?_
  rintro e w2 ⟨rfl, b2⟩
  have HB2 := Lib.hid (below_step hb1 b2)
  have HX2 := Lib.hid (block_below b2 HBX.out)
  obtain ⟨x0, x1, x2, x3, x4, x5, x6, x7, x8, x9, x10, x11⟩ := HC.out _ HX2.out
  clear hb1 b2 HA
  go_wp2_with fail
  refine (HM.out _).mono ?_
  rintro e w3 ⟨rfl, b3⟩
  have HB3 := Lib.hid (below_step HB2.out b3)
  have HX3 := Lib.hid (block_below b3 HX2.out)
  clear b3 HM
  clear x0 x1 x2 x3 x4 x5 x6 x7 x8 x9 x10 x11
  obtain ⟨x0, x1, x2, x3, x4, x5, x6, x7, x8, x9, x10, x11⟩ := HC.out _ HX3.out
  go_wp2_with fail
  refine (HP.out _ HB3.out).mono ?_
  rintro e w4 ⟨oa, oc, rfl, ho, b4⟩
  have HO4 := Lib.hid ho
  have HB4 := Lib.hid (below_step HB3.out b4)
  have HX4 := Lib.hid (block_below b4 HX3.out)
  clear b4 ho
  clear x0 x1 x2 x3 x4 x5 x6 x7 x8 x9 x10 x11
  go_wp2_with fail
  go_ret
  exact ⟨rfl, HB4.out⟩

set_option maxRecDepth 100000 in
set_option maxHeartbeats 8000000 in
theorem back_3 (f : FrM) (sa : Option Addr) (sc : Nat) (l2 : List UInt8) (ad2 : Option Addr) (c2 : Nat) (cut : Int) (w : World) (hok : FrOk f sa sc w) (hr2 : RB w ad2 l2) (hc2 : l2.length ≤ c2) (hm2 : c2 ≤ maxLen) (hs : SpIs w) (hsm : smallB f = true) (hl : l2.length ≤ 65536) (hm : mayB f = true) (hx : (takeF (wholeL f) 16777215).2.2.is = true) :
    Calls Tryd.prog 5 #[frV f sa sc, .slice ad2 l2.length c2, .int .i64 cut] w fun e w' => e = .returned (.bool true) ∧ Below w.heap.size w w' := by
  have HS := Lib.hid hs
  have HOk := Lib.hid (fun v (hv : Below w.heap.size w v) => hok.below hv)
  have HSp := Lib.hid (fun v (hv : Below w.heap.size w v) => hs.below hv)
  have HA := Lib.hid (fun v (hv : Below w.heap.size w v) => awake_any v (hs.below hv))
  have HM := Lib.hid (fun v => small_any f sa sc v)
  have HC := Lib.hid (fun (v : World) (h : v.heap[w.heap.size]? = some (Obj.cells (frC f sa sc) 24 (0, 0))) => cells12 h)
  have hb1 := bel_alloc w (.cells (frC f sa sc) 24)
  have HBX := Lib.hid (heap_alloc_new w (.cells (frC f sa sc) 24))
  rw [hsm] at HM
  have hl' : ¬ (l2.length : Int) > 65536 := by omega
  have hln := wl_len f hsm hm
  have hjoin := wl_join f hsm hm l2
  have hcutF := fun k hk => wl_cut f hsm hm k hk
  have hpy := wput_yes f hsm hm
  have hbad := wl_bad f hsm hm hx
  simp only [smallB, Bool.and_eq_true, decide_eq_true_eq] at hsm
  have HP := Lib.hid (fun v (hv : Below w.heap.size w v) => pput_any f sa sc v (HOk.out v hv) (by omega) (by omega))
  rw [hpy] at HP
  obtain ⟨L, hL⟩ : ∃ L, L = wholeL f := ⟨_, rfl⟩
  rw [← hL] at HP hln hjoin hcutF hbad hx
  obtain ⟨J, hJ⟩ : ∃ J, J = L ++ l2 := ⟨_, rfl⟩
  rw [← hJ] at hjoin
  have HJ := Lib.hid hJ
  have hJl : J.length ≤ 140737488355328 := by rw [hJ, List.length_append]; omega
  have hLl : L.length ≤ 140737488355328 := by omega
  have HTK := Lib.hid (fun (v : World) (oa : Option Addr) (oc : Nat) (hv : Below w.heap.size w v) (ho : RB v oa J) (h1 : J.length ≤ oc) (h2 : oc ≤ maxLen) => ptake_any J oa oc 16777215 v ho h1 h2 (hs.below hv))
  rw [hjoin] at HTK
  have hinfo := Lib.hid info_u8
  have HR2 := Lib.hid (fun (v : World) (hv : Below w.heap.size w v) => hr2.below hv)
  have HL9 : Hid (9 ≤ L.length) := Lib.hid (by omega)
  have HRT := Lib.hid (fun (v : World) (oa : Option Addr) (oc : Nat) (ho : RB v oa L) (h1 : L.length ≤ oc) (h2 : oc ≤ maxLen) => rtake06_any L oa oc 16777215 v ho h1 h2)
  unfold TkEnd at HRT
  generalize takeF L 16777215 = R at HTK HRT hbad hx
  obtain ⟨F, N, X⟩ := R
  simp only at HTK HRT hbad hx
  subst hbad
  have HE := fun v => faEq X X v
  rw [decide_eq_true rfl] at HE
  have hg := guFa
  have HSm := Lib.hid (fun (v : World) sa sb sc sd h1 h2 => rsame_any noFr noFr sa sb sc sd v h1 h2)
  rw [decide_eq_true rfl] at HSm
  obtain ⟨Xi, Xc, Xs⟩ := X
  simp only at hx
  subst hx
  unfold frV frC faV at HRT
  unfold frV frC at HSm
  clear hcutF
  unfold frV frC at HM HP
  unfold frV frC faV at HTK
  unfold frV
  unfold frC at HBX hb1 ⊢
  clear hok hs hm hJ hln hjoin hpy hL hr2
  go_enter Tryd.func5, Tryd.ntmps5
  go_wp2_with fail
  generalize w.alloc (.cells #[.int .i64 f.type, .int .i64 f.flags, .int .i64 f.stream, .string f.data, .int .i64 f.pad, .slice sa f.sets.length sc, .int .i64 f.code, .int .i64 f.last, .int .i64 f.inc, .int .i64 f.dep, .int .i64 f.weight, .bool f.sole] 24) = w1 at HBX hb1 ⊢
  have HB1 := Lib.hid hb1
  refine (HA.out _ hb1).mono ?_
  rintro e w2 ⟨rfl, b2⟩
  have HB2 := Lib.hid (below_step hb1 b2)
  have HX2 := Lib.hid (block_below b2 HBX.out)
  obtain ⟨x0, x1, x2, x3, x4, x5, x6, x7, x8, x9, x10, x11⟩ := HC.out _ HX2.out
  clear hb1 b2 HA
  go_wp2_with fail
  refine (HM.out _).mono ?_
  rintro e w3 ⟨rfl, b3⟩
  have HB3 := Lib.hid (below_step HB2.out b3)
  have HX3 := Lib.hid (block_below b3 HX2.out)
  clear b3 HM
  clear x0 x1 x2 x3 x4 x5 x6 x7 x8 x9 x10 x11
  obtain ⟨x0, x1, x2, x3, x4, x5, x6, x7, x8, x9, x10, x11⟩ := HC.out _ HX3.out
  go_wp2_with fail
  refine (HP.out _ HB3.out).mono ?_
  rintro e w4 ⟨oa, oc, rfl, ho, b4⟩
  have HO4 := Lib.hid ho
  have HB4 := Lib.hid (below_step HB3.out b4)
  have HX4 := Lib.hid (block_below b4 HX3.out)
  clear b4 ho
  clear x0 x1 x2 x3 x4 x5 x6 x7 x8 x9 x10 x11
  have HO5 := Lib.hid (out_empty w4 w4.heap.size [] (Nat.le_refl _) (fun k hk => by cases hk))
  have HB5 := Lib.hid (bel_al w4 (.cells #[] 5))
  have HS5 := Lib.hid (Std.of_below (B := w4.heap.size) (L := []) HB5.out)
  have HRb := Lib.hid (HO4.out.rb.below HB5.out)
  go_wp2_with (first
    | (at_builtin; refine wl_bytes0 Tryd.underlying27 hinfo.out rfl (.tmp 39) (.tmp 40) rfl rfl rfl HO5.out HB5.out.size (fun k hk => by cases hk) rfl rfl HRb.out L rfl hLl ?_; intro oa6 oc6 w6 hG; have HO6 := Lib.hid hG.out.out; have HS6 := Lib.hid (HS5.out.trans hG.out.std); have HB6 := Lib.hid (Std.below HS6.out rfl); have HR6 := Lib.hid (HR2.out _ (below_step HB4.out HB6.out)); clear hG)
    | (at_builtin; refine wl_bytes0 Tryd.underlying27 hinfo.out rfl (.tmp 41) (.tmp 42) rfl rfl rfl HO6.out HB6.out.size (fun k hk => by cases hk) rfl rfl HR6.out J HJ.out hJl ?_; intro oa7 oc7 w7 hG; have HO7 := Lib.hid hG.out.out; have HS7 := Lib.hid (HS6.out.trans hG.out.std); have HB7 := Lib.hid (Std.below HS7.out rfl); clear hG))
  have HB8 := Lib.hid (below_step HB4.out HB7.out)
  refine (HTK.out w7 oa7 oc7 HB8.out HO7.out.rb HO7.out.row.le HO7.out.row.max).mono ?_
  rintro e w8 ⟨ta, tc, rfl, ok8, b8⟩
  have HOk8 := Lib.hid ok8
  have HB9 := Lib.hid (below_step HB7.out b8)
  have HX8 := Lib.hid (block_below HB9.out HX4.out)
  have HBL := Lib.hid (below_step HB4.out HB9.out)
  clear b8 ok8 HO5 HS5 HRb HO6 HS6 HR6 HO7 HS7
  obtain ⟨t1, t2, t3⟩ := two_boxes w8 noFr ta tc (⟨true, Xc, Xs⟩ : FaM)
  unfold frC at t1 t2 t3
  go_wp2_with fail
  skip
  generalize (w8.alloc (.cells #[.int .i64 noFr.type, .int .i64 noFr.flags, .int .i64 noFr.stream, .string noFr.data, .int .i64 noFr.pad, .slice ta noFr.sets.length tc, .int .i64 noFr.code, .int .i64 noFr.last, .int .i64 noFr.inc, .int .i64 noFr.dep, .int .i64 noFr.weight, .bool noFr.sole] 24)).alloc (.cells #[.bool true, .int .i64 Xc, .int .i64 Xs] 33) = w9 at t1 t2 t3 ⊢
  obtain ⟨g1, hg1⟩ : ∃ g, g = w8.heap.size := ⟨_, rfl⟩
  rw [← hg1] at t1 t2 ⊢
  have HF9 : Hid (Fb g1 noFr ta tc w9) := Lib.hid t1
  have HX9 := Lib.hid t2
  have HT9 := Lib.hid t3
  clear t1 t2 t3 hg1
  have HB10 := Lib.hid (below_step HBL.out HT9.out)
  have HO10 := Lib.hid ((HO4.out.rb.below HB9.out).below HT9.out)
  refine (HRT.out w9 oa oc HO10.out HO4.out.row.le HO4.out.row.max).mono ?_
  rintro e w10 ⟨ra, rc, rfl, ok10, b10⟩
  have HF10 := Lib.hid (show Fb g1 noFr ta tc w10 from block_below b10 HF9.out)
  have HX10 := Lib.hid (block_below b10 HX9.out)
  have HB11 := Lib.hid (below_step HB10.out b10)
  have HOk11 := Lib.hid (((HOk8.out.below HT9.out).below b10).below (bel2 w10 (Obj.cells (frC noFr ra rc) 24) (Obj.cells #[.bool true, .int .i64 Xc, .int .i64 Xs] 33)))
  clear b10 ok10
  have z0 : ∀ o p : Obj, (((w10).alloc o).alloc p).cell? ⟨g1, 0, none⟩ = some (.int .i64 noFr.type) := fun o p => Fb.cellz (show Fb g1 noFr ta tc _ from block_below (bel2 w10 o p) HF10.out) 0
  have z1 : ∀ o p : Obj, (((w10).alloc o).alloc p).cell? ⟨g1, 1, none⟩ = some (.int .i64 noFr.flags) := fun o p => Fb.cellz (show Fb g1 noFr ta tc _ from block_below (bel2 w10 o p) HF10.out) 1
  have z2 : ∀ o p : Obj, (((w10).alloc o).alloc p).cell? ⟨g1, 2, none⟩ = some (.int .i64 noFr.stream) := fun o p => Fb.cellz (show Fb g1 noFr ta tc _ from block_below (bel2 w10 o p) HF10.out) 2
  have z3 : ∀ o p : Obj, (((w10).alloc o).alloc p).cell? ⟨g1, 3, none⟩ = some (.string noFr.data) := fun o p => Fb.cellz (show Fb g1 noFr ta tc _ from block_below (bel2 w10 o p) HF10.out) 3
  have z4 : ∀ o p : Obj, (((w10).alloc o).alloc p).cell? ⟨g1, 4, none⟩ = some (.int .i64 noFr.pad) := fun o p => Fb.cellz (show Fb g1 noFr ta tc _ from block_below (bel2 w10 o p) HF10.out) 4
  have z5 : ∀ o p : Obj, (((w10).alloc o).alloc p).cell? ⟨g1, 5, none⟩ = some (.slice ta noFr.sets.length tc) := fun o p => Fb.cellz (show Fb g1 noFr ta tc _ from block_below (bel2 w10 o p) HF10.out) 5
  have z6 : ∀ o p : Obj, (((w10).alloc o).alloc p).cell? ⟨g1, 6, none⟩ = some (.int .i64 noFr.code) := fun o p => Fb.cellz (show Fb g1 noFr ta tc _ from block_below (bel2 w10 o p) HF10.out) 6
  have z7 : ∀ o p : Obj, (((w10).alloc o).alloc p).cell? ⟨g1, 7, none⟩ = some (.int .i64 noFr.last) := fun o p => Fb.cellz (show Fb g1 noFr ta tc _ from block_below (bel2 w10 o p) HF10.out) 7
  have z8 : ∀ o p : Obj, (((w10).alloc o).alloc p).cell? ⟨g1, 8, none⟩ = some (.int .i64 noFr.inc) := fun o p => Fb.cellz (show Fb g1 noFr ta tc _ from block_below (bel2 w10 o p) HF10.out) 8
  have z9 : ∀ o p : Obj, (((w10).alloc o).alloc p).cell? ⟨g1, 9, none⟩ = some (.int .i64 noFr.dep) := fun o p => Fb.cellz (show Fb g1 noFr ta tc _ from block_below (bel2 w10 o p) HF10.out) 9
  have z10 : ∀ o p : Obj, (((w10).alloc o).alloc p).cell? ⟨g1, 10, none⟩ = some (.int .i64 noFr.weight) := fun o p => Fb.cellz (show Fb g1 noFr ta tc _ from block_below (bel2 w10 o p) HF10.out) 10
  have z11 : ∀ o p : Obj, (((w10).alloc o).alloc p).cell? ⟨g1, 11, none⟩ = some (.bool noFr.sole) := fun o p => Fb.cellz (show Fb g1 noFr ta tc _ from block_below (bel2 w10 o p) HF10.out) 11
  have y0 : ∀ o p : Obj, (((w10).alloc o).alloc p).cell? ⟨g1 + 1, 0, none⟩ = some (.bool true) := fun o p => cell_at (block_below (bel2 w10 o p) HX10.out) 0
  have y1 : ∀ o p : Obj, (((w10).alloc o).alloc p).cell? ⟨g1 + 1, 1, none⟩ = some (.int .i64 Xc) := fun o p => cell_at (block_below (bel2 w10 o p) HX10.out) 1
  have y2 : ∀ o p : Obj, (((w10).alloc o).alloc p).cell? ⟨g1 + 1, 2, none⟩ = some (.int .i64 Xs) := fun o p => cell_at (block_below (bel2 w10 o p) HX10.out) 2
  go_wp2_with fail
  have HB12 := Lib.hid (below_step HB11.out (bel2 w10 (Obj.cells (frC noFr ra rc) 24) (Obj.cells #[.bool true, .int .i64 Xc, .int .i64 Xs] 33)))
  clear z0 z1 z2 z3 z4 z5 z6 z7 z8 z9 z10 z11 y0 y1 y2
  refine (HSm.out _ ta none tc 0 HOk11.out (tk_no _)).mono ?_
  rintro e w12 ⟨rfl, b12⟩
  go_wp2_with fail
  go_ret
  exact ⟨rfl, below_step HB12.out b12⟩

set_option maxRecDepth 100000 in
set_option maxHeartbeats 8000000 in
theorem back_4 (f : FrM) (sa : Option Addr) (sc : Nat) (l2 : List UInt8) (ad2 : Option Addr) (c2 : Nat) (cut : Int) (w : World) (hok : FrOk f sa sc w) (hr2 : RB w ad2 l2) (hc2 : l2.length ≤ c2) (hm2 : c2 ≤ maxLen) (hs : SpIs w) (hsm : smallB f = true) (hl : l2.length ≤ 65536) (hm : mayB f = true) (hx : (takeF (wholeL f) 16777215).2.2.is = false) (hcut : cut < 0) :
    Calls Tryd.prog 5 #[frV f sa sc, .slice ad2 l2.length c2, .int .i64 cut] w fun e w' => e = .returned (.bool true) ∧ Below w.heap.size w w' := by
  have HS := Lib.hid hs
  have HOk := Lib.hid (fun v (hv : Below w.heap.size w v) => hok.below hv)
  have HSp := Lib.hid (fun v (hv : Below w.heap.size w v) => hs.below hv)
  have HA := Lib.hid (fun v (hv : Below w.heap.size w v) => awake_any v (hs.below hv))
  have HM := Lib.hid (fun v => small_any f sa sc v)
  have HC := Lib.hid (fun (v : World) (h : v.heap[w.heap.size]? = some (Obj.cells (frC f sa sc) 24 (0, 0))) => cells12 h)
  have hb1 := bel_alloc w (.cells (frC f sa sc) 24)
  have HBX := Lib.hid (heap_alloc_new w (.cells (frC f sa sc) 24))
  rw [hsm] at HM
  have hl' : ¬ (l2.length : Int) > 65536 := by omega
  have hln := wl_len f hsm hm
  have hjoin := wl_join f hsm hm l2
  have hcutF := fun k hk => wl_cut f hsm hm k hk
  have hpy := wput_yes f hsm hm
  have hgood := wl_ok f hsm hm hx
  simp only [smallB, Bool.and_eq_true, decide_eq_true_eq] at hsm
  have HP := Lib.hid (fun v (hv : Below w.heap.size w v) => pput_any f sa sc v (HOk.out v hv) (by omega) (by omega))
  rw [hpy] at HP
  obtain ⟨L, hL⟩ : ∃ L, L = wholeL f := ⟨_, rfl⟩
  rw [← hL] at HP hln hjoin hcutF hgood hx
  obtain ⟨J, hJ⟩ : ∃ J, J = L ++ l2 := ⟨_, rfl⟩
  rw [← hJ] at hjoin
  have HJ := Lib.hid hJ
  have hJl : J.length ≤ 140737488355328 := by rw [hJ, List.length_append]; omega
  have hLl : L.length ≤ 140737488355328 := by omega
  have HTK := Lib.hid (fun (v : World) (oa : Option Addr) (oc : Nat) (hv : Below w.heap.size w v) (ho : RB v oa J) (h1 : J.length ≤ oc) (h2 : oc ≤ maxLen) => ptake_any J oa oc 16777215 v ho h1 h2 (hs.below hv))
  rw [hjoin] at HTK
  have hinfo := Lib.hid info_u8
  have HR2 := Lib.hid (fun (v : World) (hv : Below w.heap.size w v) => hr2.below hv)
  have HL9 : Hid (9 ≤ L.length) := Lib.hid (by omega)
  rw [hgood] at HTK
  have HTC := Lib.hid (fun (k : Nat) (hk : k < L.length) (v : World) (oa : Option Addr) (oc : Nat) (hv : Below w.heap.size w v) (ho : RB v oa L) (h1 : L.length ≤ oc) (h2 : oc ≤ maxLen) => show Calls Tryd.prog 14 #[.slice oa k oc, .int .i64 16777215] v (fun e w' => ∃ sa sc, e = .returned (.tuple #[frV noFr sa sc, .int .i64 0, .agg #[.bool false, .int .i64 0, .int .i64 0]]) ∧ FrOk noFr sa sc w' ∧ Below v.heap.size v w') from by
    have hl : (L.take k).length = k := by rw [List.length_take]; omega
    have h := ptake_any (L.take k) oa oc 16777215 v (ho.take k) (by omega) h2 (hs.below hv)
    rw [hcutF k hk, hl] at h
    exact h)
  have HSm := Lib.hid (fun (v : World) sa sb sc sd h1 h2 => rsame_any f f sa sb sc sd v h1 h2)
  rw [decide_eq_true rfl] at HSm
  have HSn := Lib.hid (fun (v : World) sa sb sc sd h1 h2 => rsame_any noFr noFr sa sb sc sd v h1 h2)
  rw [decide_eq_true rfl] at HSn
  have hne : ¬ ((L.length : Int) = 0) := by omega
  have htm : (0 : Int).tmod (L.length : Int) = 0 := Int.zero_tmod _
  unfold noFa at HTK
  simp only at HTK
  unfold frV frC at HSm HSn HTC
  unfold frV frC at HM HP
  unfold frV frC faV at HTK
  unfold frV
  unfold frC at HBX hb1 ⊢
  clear hcutF hgood hx hok hs hm hJ hln hjoin hpy hL hr2
  go_enter Tryd.func5, Tryd.ntmps5
  go_wp2_with fail
  generalize w.alloc (.cells #[.int .i64 f.type, .int .i64 f.flags, .int .i64 f.stream, .string f.data, .int .i64 f.pad, .slice sa f.sets.length sc, .int .i64 f.code, .int .i64 f.last, .int .i64 f.inc, .int .i64 f.dep, .int .i64 f.weight, .bool f.sole] 24) = w1 at HBX hb1 ⊢
  have HB1 := Lib.hid hb1
  refine (HA.out _ hb1).mono ?_
  rintro e w2 ⟨rfl, b2⟩
  have HB2 := Lib.hid (below_step hb1 b2)
  have HX2 := Lib.hid (block_below b2 HBX.out)
  obtain ⟨x0, x1, x2, x3, x4, x5, x6, x7, x8, x9, x10, x11⟩ := HC.out _ HX2.out
  clear hb1 b2 HA
  go_wp2_with fail
  refine (HM.out _).mono ?_
  rintro e w3 ⟨rfl, b3⟩
  have HB3 := Lib.hid (below_step HB2.out b3)
  have HX3 := Lib.hid (block_below b3 HX2.out)
  clear b3 HM
  clear x0 x1 x2 x3 x4 x5 x6 x7 x8 x9 x10 x11
  obtain ⟨x0, x1, x2, x3, x4, x5, x6, x7, x8, x9, x10, x11⟩ := HC.out _ HX3.out
  go_wp2_with fail
  refine (HP.out _ HB3.out).mono ?_
  rintro e w4 ⟨oa, oc, rfl, ho, b4⟩
  have HO4 := Lib.hid ho
  have HB4 := Lib.hid (below_step HB3.out b4)
  have HX4 := Lib.hid (block_below b4 HX3.out)
  clear b4 ho
  clear x0 x1 x2 x3 x4 x5 x6 x7 x8 x9 x10 x11
  have HO5 := Lib.hid (out_empty w4 w4.heap.size [] (Nat.le_refl _) (fun k hk => by cases hk))
  have HB5 := Lib.hid (bel_al w4 (.cells #[] 5))
  have HS5 := Lib.hid (Std.of_below (B := w4.heap.size) (L := []) HB5.out)
  have HRb := Lib.hid (HO4.out.rb.below HB5.out)
  go_wp2_with (first
    | (at_builtin; refine wl_bytes0 Tryd.underlying27 hinfo.out rfl (.tmp 39) (.tmp 40) rfl rfl rfl HO5.out HB5.out.size (fun k hk => by cases hk) rfl rfl HRb.out L rfl hLl ?_; intro oa6 oc6 w6 hG; have HO6 := Lib.hid hG.out.out; have HS6 := Lib.hid (HS5.out.trans hG.out.std); have HB6 := Lib.hid (Std.below HS6.out rfl); have HR6 := Lib.hid (HR2.out _ (below_step HB4.out HB6.out)); clear hG)
    | (at_builtin; refine wl_bytes0 Tryd.underlying27 hinfo.out rfl (.tmp 41) (.tmp 42) rfl rfl rfl HO6.out HB6.out.size (fun k hk => by cases hk) rfl rfl HR6.out J HJ.out hJl ?_; intro oa7 oc7 w7 hG; have HO7 := Lib.hid hG.out.out; have HS7 := Lib.hid (HS6.out.trans hG.out.std); have HB7 := Lib.hid (Std.below HS7.out rfl); clear hG))
  have HB8 := Lib.hid (below_step HB4.out HB7.out)
  refine (HTK.out w7 oa7 oc7 HB8.out HO7.out.rb HO7.out.row.le HO7.out.row.max).mono ?_
  rintro e w8 ⟨ta, tc, rfl, ok8, b8⟩
  have HOk8 := Lib.hid ok8
  have HB9 := Lib.hid (below_step HB7.out b8)
  have HX8 := Lib.hid (block_below HB9.out HX4.out)
  have HBL := Lib.hid (below_step HB4.out HB9.out)
  clear b8 ok8 HO5 HS5 HRb HO6 HS6 HR6 HO7 HS7
  have HX9z := Lib.hid (fun o p => block_below (bel2 w8 o p) HX8.out)
  have b0 : ∀ o p : Obj, (((w8).alloc o).alloc p).cell? ⟨w.heap.size, 0, none⟩ = some (.int .i64 f.type) := fun o p => cell_at (HX9z.out o p) 0
  have b1 : ∀ o p : Obj, (((w8).alloc o).alloc p).cell? ⟨w.heap.size, 1, none⟩ = some (.int .i64 f.flags) := fun o p => cell_at (HX9z.out o p) 1
  have b2 : ∀ o p : Obj, (((w8).alloc o).alloc p).cell? ⟨w.heap.size, 2, none⟩ = some (.int .i64 f.stream) := fun o p => cell_at (HX9z.out o p) 2
  have b3 : ∀ o p : Obj, (((w8).alloc o).alloc p).cell? ⟨w.heap.size, 3, none⟩ = some (.string f.data) := fun o p => cell_at (HX9z.out o p) 3
  have b4 : ∀ o p : Obj, (((w8).alloc o).alloc p).cell? ⟨w.heap.size, 4, none⟩ = some (.int .i64 f.pad) := fun o p => cell_at (HX9z.out o p) 4
  have b5 : ∀ o p : Obj, (((w8).alloc o).alloc p).cell? ⟨w.heap.size, 5, none⟩ = some (.slice sa f.sets.length sc) := fun o p => cell_at (HX9z.out o p) 5
  have b6 : ∀ o p : Obj, (((w8).alloc o).alloc p).cell? ⟨w.heap.size, 6, none⟩ = some (.int .i64 f.code) := fun o p => cell_at (HX9z.out o p) 6
  have b7 : ∀ o p : Obj, (((w8).alloc o).alloc p).cell? ⟨w.heap.size, 7, none⟩ = some (.int .i64 f.last) := fun o p => cell_at (HX9z.out o p) 7
  have b8 : ∀ o p : Obj, (((w8).alloc o).alloc p).cell? ⟨w.heap.size, 8, none⟩ = some (.int .i64 f.inc) := fun o p => cell_at (HX9z.out o p) 8
  have b9 : ∀ o p : Obj, (((w8).alloc o).alloc p).cell? ⟨w.heap.size, 9, none⟩ = some (.int .i64 f.dep) := fun o p => cell_at (HX9z.out o p) 9
  have b10 : ∀ o p : Obj, (((w8).alloc o).alloc p).cell? ⟨w.heap.size, 10, none⟩ = some (.int .i64 f.weight) := fun o p => cell_at (HX9z.out o p) 10
  have b11 : ∀ o p : Obj, (((w8).alloc o).alloc p).cell? ⟨w.heap.size, 11, none⟩ = some (.bool f.sole) := fun o p => cell_at (HX9z.out o p) 11
  obtain ⟨t1, t2, t3⟩ := two_boxes w8 f ta tc (⟨false, 0, 0⟩ : FaM)
  unfold frC at t1 t2 t3
  go_wp2_with fail
  clear b0 b1 b2 b3 b4 b5 b6 b7 b8 b9 b10 b11
  generalize (w8.alloc (.cells #[.int .i64 f.type, .int .i64 f.flags, .int .i64 f.stream, .string f.data, .int .i64 f.pad, .slice ta f.sets.length tc, .int .i64 f.code, .int .i64 f.last, .int .i64 f.inc, .int .i64 f.dep, .int .i64 f.weight, .bool f.sole] 24)).alloc (.cells #[.bool false, .int .i64 0, .int .i64 0] 33) = w9 at t1 t2 t3 ⊢
  obtain ⟨g1, hg1⟩ : ∃ g, g = w8.heap.size := ⟨_, rfl⟩
  rw [← hg1] at t1 t2 ⊢
  have HF9 : Hid (Fb g1 f ta tc w9) := Lib.hid t1
  have HX9 := Lib.hid t2
  have HT9 := Lib.hid t3
  clear t1 t2 t3 hg1
  have HB10 := Lib.hid (below_step HBL.out HT9.out)
  have HO10 := Lib.hid ((HO4.out.rb.below HB9.out).below HT9.out)
  refine (HSm.out _ sa ta sc tc (HOk.out _ HB10.out) (HOk8.out.below HT9.out)).mono ?_
  rintro e w10 ⟨rfl, b10⟩
  have HB11 := Lib.hid (below_step HB10.out b10)
  have HO11 := Lib.hid (HO10.out.below b10)
  clear b10
  have hle := HO4.out.row.le
  have hsl : ∀ v, (Instr.slice 27 (.slice oa L.length oc) none (some (.int .i64 0)) none).run Tryd.prog v = .ok (.slice oa 0 oc) v := fun v => run_to (P := Tryd.prog) Tryd.underlying27 size_by oa L.length oc 0 (by omega) hle v
  go_wp2_with fail
  refine (HTC.out 0 (by omega) _ oa oc HB11.out HO11.out hle HO4.out.row.max).mono ?_
  rintro e w11 ⟨ua, uc, rfl, ok11, b11⟩
  have HB12 := Lib.hid (below_step HB11.out b11)
  have HOk12 := Lib.hid ok11
  clear b11 ok11
  obtain ⟨t1, t2, t3⟩ := two_boxes w11 noFr ua uc (⟨false, 0, 0⟩ : FaM)
  unfold frC at t1 t2 t3
  go_wp2_with fail
  skip
  generalize (w11.alloc (.cells #[.int .i64 noFr.type, .int .i64 noFr.flags, .int .i64 noFr.stream, .string noFr.data, .int .i64 noFr.pad, .slice ua noFr.sets.length uc, .int .i64 noFr.code, .int .i64 noFr.last, .int .i64 noFr.inc, .int .i64 noFr.dep, .int .i64 noFr.weight, .bool noFr.sole] 24)).alloc (.cells #[.bool false, .int .i64 0, .int .i64 0] 33) = w12 at t1 t2 t3 ⊢
  obtain ⟨g2, hg2⟩ : ∃ g, g = w11.heap.size := ⟨_, rfl⟩
  rw [← hg2] at t1 t2 ⊢
  have HF12 : Hid (Fb g2 noFr ua uc w12) := Lib.hid t1
  have HX12 := Lib.hid t2
  have HT12 := Lib.hid t3
  clear t1 t2 t3 hg2
  have HB13 := Lib.hid (below_step HB12.out HT12.out)
  refine (HSn.out _ ua none uc 0 (HOk12.out.below HT12.out) (tk_no _)).mono ?_
  rintro e w13 ⟨rfl, b13⟩
  obtain ⟨v0, v1, v2⟩ := fa_cells (block_below b13 HX12.out)
  have HB14 := Lib.hid (below_step HB13.out b13)
  clear b13
  go_wp2_with fail
  go_ret
  exact ⟨rfl, HB14.out⟩

set_option maxRecDepth 100000 in
set_option maxHeartbeats 8000000 in
theorem back_5 (f : FrM) (sa : Option Addr) (sc : Nat) (l2 : List UInt8) (ad2 : Option Addr) (c2 : Nat) (cut : Int) (w : World) (hok : FrOk f sa sc w) (hr2 : RB w ad2 l2) (hc2 : l2.length ≤ c2) (hm2 : c2 ≤ maxLen) (hs : SpIs w) (hsm : smallB f = true) (hl : l2.length ≤ 65536) (hm : mayB f = true) (hx : (takeF (wholeL f) 16777215).2.2.is = false) (hcut : ¬ cut < 0) :
    Calls Tryd.prog 5 #[frV f sa sc, .slice ad2 l2.length c2, .int .i64 cut] w fun e w' => e = .returned (.bool true) ∧ Below w.heap.size w w' := by
  have HS := Lib.hid hs
  have HOk := Lib.hid (fun v (hv : Below w.heap.size w v) => hok.below hv)
  have HSp := Lib.hid (fun v (hv : Below w.heap.size w v) => hs.below hv)
  have HA := Lib.hid (fun v (hv : Below w.heap.size w v) => awake_any v (hs.below hv))
  have HM := Lib.hid (fun v => small_any f sa sc v)
  have HC := Lib.hid (fun (v : World) (h : v.heap[w.heap.size]? = some (Obj.cells (frC f sa sc) 24 (0, 0))) => cells12 h)
  have hb1 := bel_alloc w (.cells (frC f sa sc) 24)
  have HBX := Lib.hid (heap_alloc_new w (.cells (frC f sa sc) 24))
  rw [hsm] at HM
  have hl' : ¬ (l2.length : Int) > 65536 := by omega
  have hln := wl_len f hsm hm
  have hjoin := wl_join f hsm hm l2
  have hcutF := fun k hk => wl_cut f hsm hm k hk
  have hpy := wput_yes f hsm hm
  have hgood := wl_ok f hsm hm hx
  simp only [smallB, Bool.and_eq_true, decide_eq_true_eq] at hsm
  have HP := Lib.hid (fun v (hv : Below w.heap.size w v) => pput_any f sa sc v (HOk.out v hv) (by omega) (by omega))
  rw [hpy] at HP
  obtain ⟨L, hL⟩ : ∃ L, L = wholeL f := ⟨_, rfl⟩
  rw [← hL] at HP hln hjoin hcutF hgood hx
  obtain ⟨J, hJ⟩ : ∃ J, J = L ++ l2 := ⟨_, rfl⟩
  rw [← hJ] at hjoin
  have HJ := Lib.hid hJ
  have hJl : J.length ≤ 140737488355328 := by rw [hJ, List.length_append]; omega
  have hLl : L.length ≤ 140737488355328 := by omega
  have HTK := Lib.hid (fun (v : World) (oa : Option Addr) (oc : Nat) (hv : Below w.heap.size w v) (ho : RB v oa J) (h1 : J.length ≤ oc) (h2 : oc ≤ maxLen) => ptake_any J oa oc 16777215 v ho h1 h2 (hs.below hv))
  rw [hjoin] at HTK
  have hinfo := Lib.hid info_u8
  have HR2 := Lib.hid (fun (v : World) (hv : Below w.heap.size w v) => hr2.below hv)
  have HL9 : Hid (9 ≤ L.length) := Lib.hid (by omega)
  rw [hgood] at HTK
  have HTC := Lib.hid (fun (k : Nat) (hk : k < L.length) (v : World) (oa : Option Addr) (oc : Nat) (hv : Below w.heap.size w v) (ho : RB v oa L) (h1 : L.length ≤ oc) (h2 : oc ≤ maxLen) => show Calls Tryd.prog 14 #[.slice oa k oc, .int .i64 16777215] v (fun e w' => ∃ sa sc, e = .returned (.tuple #[frV noFr sa sc, .int .i64 0, .agg #[.bool false, .int .i64 0, .int .i64 0]]) ∧ FrOk noFr sa sc w' ∧ Below v.heap.size v w') from by
    have hl : (L.take k).length = k := by rw [List.length_take]; omega
    have h := ptake_any (L.take k) oa oc 16777215 v (ho.take k) (by omega) h2 (hs.below hv)
    rw [hcutF k hk, hl] at h
    exact h)
  have HSm := Lib.hid (fun (v : World) sa sb sc sd h1 h2 => rsame_any f f sa sb sc sd v h1 h2)
  rw [decide_eq_true rfl] at HSm
  have HSn := Lib.hid (fun (v : World) sa sb sc sd h1 h2 => rsame_any noFr noFr sa sb sc sd v h1 h2)
  rw [decide_eq_true rfl] at HSn
  have hne : ¬ ((L.length : Int) = 0) := by omega
  obtain ⟨k, hk⟩ : ∃ k : Nat, cut.tmod (L.length : Int) = k := ⟨(cut % (L.length : Int)).toNat, by rw [tmod_nn cut _ (by omega)]; have := Int.emod_nonneg cut (show (L.length : Int) ≠ 0 by omega); omega⟩
  have hkl : k < L.length := by
    rw [tmod_nn cut _ (by omega)] at hk
    have := Int.emod_lt_of_pos cut (show (0 : Int) < (L.length : Int) by omega)
    omega
  unfold noFa at HTK
  simp only at HTK
  unfold frV frC at HSm HSn HTC
  unfold frV frC at HM HP
  unfold frV frC faV at HTK
  unfold frV
  unfold frC at HBX hb1 ⊢
  clear hcutF hgood hx hok hs hm hJ hln hjoin hpy hL hr2
  go_enter Tryd.func5, Tryd.ntmps5
  go_wp2_with fail
  generalize w.alloc (.cells #[.int .i64 f.type, .int .i64 f.flags, .int .i64 f.stream, .string f.data, .int .i64 f.pad, .slice sa f.sets.length sc, .int .i64 f.code, .int .i64 f.last, .int .i64 f.inc, .int .i64 f.dep, .int .i64 f.weight, .bool f.sole] 24) = w1 at HBX hb1 ⊢
  have HB1 := Lib.hid hb1
  refine (HA.out _ hb1).mono ?_
  rintro e w2 ⟨rfl, b2⟩
  have HB2 := Lib.hid (below_step hb1 b2)
  have HX2 := Lib.hid (block_below b2 HBX.out)
  obtain ⟨x0, x1, x2, x3, x4, x5, x6, x7, x8, x9, x10, x11⟩ := HC.out _ HX2.out
  clear hb1 b2 HA
  go_wp2_with fail
  refine (HM.out _).mono ?_
  rintro e w3 ⟨rfl, b3⟩
  have HB3 := Lib.hid (below_step HB2.out b3)
  have HX3 := Lib.hid (block_below b3 HX2.out)
  clear b3 HM
  clear x0 x1 x2 x3 x4 x5 x6 x7 x8 x9 x10 x11
  obtain ⟨x0, x1, x2, x3, x4, x5, x6, x7, x8, x9, x10, x11⟩ := HC.out _ HX3.out
  go_wp2_with fail
  refine (HP.out _ HB3.out).mono ?_
  rintro e w4 ⟨oa, oc, rfl, ho, b4⟩
  have HO4 := Lib.hid ho
  have HB4 := Lib.hid (below_step HB3.out b4)
  have HX4 := Lib.hid (block_below b4 HX3.out)
  clear b4 ho
  clear x0 x1 x2 x3 x4 x5 x6 x7 x8 x9 x10 x11
  have HO5 := Lib.hid (out_empty w4 w4.heap.size [] (Nat.le_refl _) (fun k hk => by cases hk))
  have HB5 := Lib.hid (bel_al w4 (.cells #[] 5))
  have HS5 := Lib.hid (Std.of_below (B := w4.heap.size) (L := []) HB5.out)
  have HRb := Lib.hid (HO4.out.rb.below HB5.out)
  go_wp2_with (first
    | (at_builtin; refine wl_bytes0 Tryd.underlying27 hinfo.out rfl (.tmp 39) (.tmp 40) rfl rfl rfl HO5.out HB5.out.size (fun k hk => by cases hk) rfl rfl HRb.out L rfl hLl ?_; intro oa6 oc6 w6 hG; have HO6 := Lib.hid hG.out.out; have HS6 := Lib.hid (HS5.out.trans hG.out.std); have HB6 := Lib.hid (Std.below HS6.out rfl); have HR6 := Lib.hid (HR2.out _ (below_step HB4.out HB6.out)); clear hG)
    | (at_builtin; refine wl_bytes0 Tryd.underlying27 hinfo.out rfl (.tmp 41) (.tmp 42) rfl rfl rfl HO6.out HB6.out.size (fun k hk => by cases hk) rfl rfl HR6.out J HJ.out hJl ?_; intro oa7 oc7 w7 hG; have HO7 := Lib.hid hG.out.out; have HS7 := Lib.hid (HS6.out.trans hG.out.std); have HB7 := Lib.hid (Std.below HS7.out rfl); clear hG))
  have HB8 := Lib.hid (below_step HB4.out HB7.out)
  refine (HTK.out w7 oa7 oc7 HB8.out HO7.out.rb HO7.out.row.le HO7.out.row.max).mono ?_
  rintro e w8 ⟨ta, tc, rfl, ok8, b8⟩
  have HOk8 := Lib.hid ok8
  have HB9 := Lib.hid (below_step HB7.out b8)
  have HX8 := Lib.hid (block_below HB9.out HX4.out)
  have HBL := Lib.hid (below_step HB4.out HB9.out)
  clear b8 ok8 HO5 HS5 HRb HO6 HS6 HR6 HO7 HS7
  have HX9z := Lib.hid (fun o p => block_below (bel2 w8 o p) HX8.out)
  have b0 : ∀ o p : Obj, (((w8).alloc o).alloc p).cell? ⟨w.heap.size, 0, none⟩ = some (.int .i64 f.type) := fun o p => cell_at (HX9z.out o p) 0
  have b1 : ∀ o p : Obj, (((w8).alloc o).alloc p).cell? ⟨w.heap.size, 1, none⟩ = some (.int .i64 f.flags) := fun o p => cell_at (HX9z.out o p) 1
  have b2 : ∀ o p : Obj, (((w8).alloc o).alloc p).cell? ⟨w.heap.size, 2, none⟩ = some (.int .i64 f.stream) := fun o p => cell_at (HX9z.out o p) 2
  have b3 : ∀ o p : Obj, (((w8).alloc o).alloc p).cell? ⟨w.heap.size, 3, none⟩ = some (.string f.data) := fun o p => cell_at (HX9z.out o p) 3
  have b4 : ∀ o p : Obj, (((w8).alloc o).alloc p).cell? ⟨w.heap.size, 4, none⟩ = some (.int .i64 f.pad) := fun o p => cell_at (HX9z.out o p) 4
  have b5 : ∀ o p : Obj, (((w8).alloc o).alloc p).cell? ⟨w.heap.size, 5, none⟩ = some (.slice sa f.sets.length sc) := fun o p => cell_at (HX9z.out o p) 5
  have b6 : ∀ o p : Obj, (((w8).alloc o).alloc p).cell? ⟨w.heap.size, 6, none⟩ = some (.int .i64 f.code) := fun o p => cell_at (HX9z.out o p) 6
  have b7 : ∀ o p : Obj, (((w8).alloc o).alloc p).cell? ⟨w.heap.size, 7, none⟩ = some (.int .i64 f.last) := fun o p => cell_at (HX9z.out o p) 7
  have b8 : ∀ o p : Obj, (((w8).alloc o).alloc p).cell? ⟨w.heap.size, 8, none⟩ = some (.int .i64 f.inc) := fun o p => cell_at (HX9z.out o p) 8
  have b9 : ∀ o p : Obj, (((w8).alloc o).alloc p).cell? ⟨w.heap.size, 9, none⟩ = some (.int .i64 f.dep) := fun o p => cell_at (HX9z.out o p) 9
  have b10 : ∀ o p : Obj, (((w8).alloc o).alloc p).cell? ⟨w.heap.size, 10, none⟩ = some (.int .i64 f.weight) := fun o p => cell_at (HX9z.out o p) 10
  have b11 : ∀ o p : Obj, (((w8).alloc o).alloc p).cell? ⟨w.heap.size, 11, none⟩ = some (.bool f.sole) := fun o p => cell_at (HX9z.out o p) 11
  obtain ⟨t1, t2, t3⟩ := two_boxes w8 f ta tc (⟨false, 0, 0⟩ : FaM)
  unfold frC at t1 t2 t3
  go_wp2_with fail
  clear b0 b1 b2 b3 b4 b5 b6 b7 b8 b9 b10 b11
  generalize (w8.alloc (.cells #[.int .i64 f.type, .int .i64 f.flags, .int .i64 f.stream, .string f.data, .int .i64 f.pad, .slice ta f.sets.length tc, .int .i64 f.code, .int .i64 f.last, .int .i64 f.inc, .int .i64 f.dep, .int .i64 f.weight, .bool f.sole] 24)).alloc (.cells #[.bool false, .int .i64 0, .int .i64 0] 33) = w9 at t1 t2 t3 ⊢
  obtain ⟨g1, hg1⟩ : ∃ g, g = w8.heap.size := ⟨_, rfl⟩
  rw [← hg1] at t1 t2 ⊢
  have HF9 : Hid (Fb g1 f ta tc w9) := Lib.hid t1
  have HX9 := Lib.hid t2
  have HT9 := Lib.hid t3
  clear t1 t2 t3 hg1
  have HB10 := Lib.hid (below_step HBL.out HT9.out)
  have HO10 := Lib.hid ((HO4.out.rb.below HB9.out).below HT9.out)
  refine (HSm.out _ sa ta sc tc (HOk.out _ HB10.out) (HOk8.out.below HT9.out)).mono ?_
  rintro e w10 ⟨rfl, b10⟩
  have HB11 := Lib.hid (below_step HB10.out b10)
  have HO11 := Lib.hid (HO10.out.below b10)
  clear b10
  have hle := HO4.out.row.le
  have hsl : ∀ v, (Instr.slice 27 (.slice oa L.length oc) none (some (.int .i64 (k : Int))) none).run Tryd.prog v = .ok (.slice oa k oc) v := fun v => run_to (P := Tryd.prog) Tryd.underlying27 size_by oa L.length oc k (by omega) hle v
  go_wp2_with fail
  refine (HTC.out k (by omega) _ oa oc HB11.out HO11.out hle HO4.out.row.max).mono ?_
  rintro e w11 ⟨ua, uc, rfl, ok11, b11⟩
  have HB12 := Lib.hid (below_step HB11.out b11)
  have HOk12 := Lib.hid ok11
  clear b11 ok11
  obtain ⟨t1, t2, t3⟩ := two_boxes w11 noFr ua uc (⟨false, 0, 0⟩ : FaM)
  unfold frC at t1 t2 t3
  go_wp2_with fail
  skip
  generalize (w11.alloc (.cells #[.int .i64 noFr.type, .int .i64 noFr.flags, .int .i64 noFr.stream, .string noFr.data, .int .i64 noFr.pad, .slice ua noFr.sets.length uc, .int .i64 noFr.code, .int .i64 noFr.last, .int .i64 noFr.inc, .int .i64 noFr.dep, .int .i64 noFr.weight, .bool noFr.sole] 24)).alloc (.cells #[.bool false, .int .i64 0, .int .i64 0] 33) = w12 at t1 t2 t3 ⊢
  obtain ⟨g2, hg2⟩ : ∃ g, g = w11.heap.size := ⟨_, rfl⟩
  rw [← hg2] at t1 t2 ⊢
  have HF12 : Hid (Fb g2 noFr ua uc w12) := Lib.hid t1
  have HX12 := Lib.hid t2
  have HT12 := Lib.hid t3
  clear t1 t2 t3 hg2
  have HB13 := Lib.hid (below_step HB12.out HT12.out)
  refine (HSn.out _ ua none uc 0 (HOk12.out.below HT12.out) (tk_no _)).mono ?_
  rintro e w13 ⟨rfl, b13⟩
  obtain ⟨v0, v1, v2⟩ := fa_cells (block_below b13 HX12.out)
  have HB14 := Lib.hid (below_step HB13.out b13)
  clear b13
  go_wp2_with fail
  go_ret
  exact ⟨rfl, HB14.out⟩

theorem law_back (f : FrM) (sa : Option Addr) (sc : Nat) (l2 : List UInt8) (ad2 : Option Addr) (c2 : Nat) (cut : Int) (w : World) (hok : FrOk f sa sc w) (hr2 : RB w ad2 l2) (hc2 : l2.length ≤ c2) (hm2 : c2 ≤ maxLen) (hs : SpIs w) :
    Calls Tryd.prog 5 #[frV f sa sc, .slice ad2 l2.length c2, .int .i64 cut] w fun e w' => e = .returned (.bool true) ∧ Below w.heap.size w w' := by
  cases hsm : smallB f with
  | false => exact back_0 f sa sc l2 ad2 c2 cut w hok hr2 hc2 hm2 hs hsm
  | true =>
    by_cases hl : 65536 < l2.length
    · exact back_1 f sa sc l2 ad2 c2 cut w hok hr2 hc2 hm2 hs hsm hl
    · cases hm : mayB f with
      | false => exact back_2 f sa sc l2 ad2 c2 cut w hok hr2 hc2 hm2 hs hsm (by omega) hm
      | true =>
        cases hx : (takeF (wholeL f) 16777215).2.2.is with
        | true => exact back_3 f sa sc l2 ad2 c2 cut w hok hr2 hc2 hm2 hs hsm (by omega) hm hx
        | false =>
          by_cases hcut : cut < 0
          · exact back_4 f sa sc l2 ad2 c2 cut w hok hr2 hc2 hm2 hs hsm (by omega) hm hx hcut
          · exact back_5 f sa sc l2 ad2 c2 cut w hok hr2 hc2 hm2 hs hsm (by omega) hm hx hcut
end Go.Proofs.YtdilgkkkhmmffaaDoor
