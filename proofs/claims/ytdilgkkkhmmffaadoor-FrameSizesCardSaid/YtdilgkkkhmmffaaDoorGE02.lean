/- Layer 6: the law FrameSizes. Layer 6: the law FrameReserved. -/
import Derived.Test.YtdilgkkkhmmffaaDoorGD05
import Derived.Test.YtdilgkkkhmmffaaDoorGE01
import Derived.Test.YtdilgkkkhmmffaaDoorGD04
import Derived.Laws.StructEq
set_option linter.unusedVariables false
set_option linter.unusedSimpArgs false
namespace Go.Proofs.YtdilgkkkhmmffaaDoor
open Go.RowKit
open Fra Oct Arg Mem Gen Wr Go.Proofs.YtdilgkkkhmmffaaDoor.Obj
set_option linter.unusedVariables false
set_option linter.unusedSimpArgs false

set_option maxRecDepth 100000 in
set_option maxHeartbeats 8000000 in
theorem size_0 (f : FrM) (sa : Option Addr) (sc : Nat) (less : Int) (w : World) (hok : FrOk f sa sc w) (hs : SpIs w) (hsm : smallB f = false) :
    Calls Tryd.prog 6 #[frV f sa sc, .int .i64 less] w fun e w' => e = .returned (.bool true) ∧ Below w.heap.size w w' := by
  have HS := Lib.hid hs
  have HOk := Lib.hid (fun v (hv : Below w.heap.size w v) => hok.below hv)
  have HSp := Lib.hid (fun v (hv : Below w.heap.size w v) => hs.below hv)
  have HA := Lib.hid (fun v (hv : Below w.heap.size w v) => awake_any v (hs.below hv))
  have HM := Lib.hid (fun v => small_any f sa sc v)
  have HC := Lib.hid (fun (v : World) (h : v.heap[w.heap.size]? = some (Obj.cells (frC f sa sc) 24 (0, 0))) => cells12 h)
  have hb1 := bel_alloc w (.cells (frC f sa sc) 24)
  have HBX := Lib.hid (heap_alloc_new w (.cells (frC f sa sc) 24))
  rw [hsm] at HM
  unfold frV frC at HM
  unfold frV
  unfold frC at HBX hb1 ⊢
  clear hok hs
  go_enter Tryd.func6, Tryd.ntmps6
  go_wp2_with fail
  generalize w.alloc (.cells #[.int .i64 f.type, .int .i64 f.flags, .int .i64 f.stream, .string f.data, .int .i64 f.pad, .slice sa f.sets.length sc, .int .i64 f.code, .int .i64 f.last, .int .i64 f.inc, .int .i64 f.dep, .int .i64 f.weight, .bool f.sole] 24) = w1 at HBX hb1 ⊢
  have HB1 := Lib.hid hb1
  refine (HA.out _ hb1).mono ?_
  rintro e w2 ⟨rfl, b2⟩
  have HB2 := Lib.hid (below_step hb1 b2)
  have HX2 := Lib.hid (block_below b2 HBX.out)
  obtain ⟨x0, x1, x2, x3, x4, x5, x6, x7, x8, x9, x10, x11⟩ := HC.out _ HX2.out
  clear hb1 b2 HA
  go_wp2_with fail
  refine (HM.out _).mono ?_
  rintro e w3 ⟨rfl, b3⟩
  have HB3 := Lib.hid (below_step HB2.out b3)
  have HX3 := Lib.hid (block_below b3 HX2.out)
  clear b3 HM
  clear x0 x1 x2 x3 x4 x5 x6 x7 x8 x9 x10 x11
  obtain ⟨x0, x1, x2, x3, x4, x5, x6, x7, x8, x9, x10, x11⟩ := HC.out _ HX3.out
  go_wp2_with fail
  go_ret
  exact ⟨rfl, HB3.out⟩

set_option maxRecDepth 100000 in
set_option maxHeartbeats 8000000 in
theorem size_1 (f : FrM) (sa : Option Addr) (sc : Nat) (less : Int) (w : World) (hok : FrOk f sa sc w) (hs : SpIs w) (hsm : smallB f = true) (hm : mayB f = false) :
    Calls Tryd.prog 6 #[frV f sa sc, .int .i64 less] w fun e w' => e = .returned (.bool true) ∧ Below w.heap.size w w' := by
  have HS := Lib.hid hs
  have HOk := Lib.hid (fun v (hv : Below w.heap.size w v) => hok.below hv)
  have HSp := Lib.hid (fun v (hv : Below w.heap.size w v) => hs.below hv)
  have HA := Lib.hid (fun v (hv : Below w.heap.size w v) => awake_any v (hs.below hv))
  have HM := Lib.hid (fun v => small_any f sa sc v)
  have HC := Lib.hid (fun (v : World) (h : v.heap[w.heap.size]? = some (Obj.cells (frC f sa sc) 24 (0, 0))) => cells12 h)
  have hb1 := bel_alloc w (.cells (frC f sa sc) 24)
  have HBX := Lib.hid (heap_alloc_new w (.cells (frC f sa sc) 24))
  rw [hsm] at HM
  simp only [smallB, Bool.and_eq_true, decide_eq_true_eq] at hsm
  have HP := Lib.hid (fun v (hv : Below w.heap.size w v) => pput_any f sa sc v (HOk.out v hv) (by omega) (by omega))
  rw [wput_no f hm] at HP
  unfold frV frC at HP
  unfold frV frC at HM
  unfold frV
  unfold frC at HBX hb1 ⊢
  clear hok hs hm
  go_enter Tryd.func6, Tryd.ntmps6
  go_wp2_with fail
  generalize w.alloc (.cells #[.int .i64 f.type, .int .i64 f.flags, .int .i64 f.stream, .string f.data, .int .i64 f.pad, .slice sa f.sets.length sc, .int .i64 f.code, .int .i64 f.last, .int .i64 f.inc, .int .i64 f.dep, .int .i64 f.weight, .bool f.sole] 24) = w1 at HBX hb1 ⊢
  have HB1 := Lib.hid hb1
  refine (HA.out _ hb1).mono ?_
  rintro e w2 ⟨rfl, b2⟩
  have HB2 := Lib.hid (below_step hb1 b2)
  have HX2 := Lib.hid (block_below b2 HBX.out)
  obtain ⟨x0, x1, x2, x3, x4, x5, x6, x7, x8, x9, x10, x11⟩ := HC.out _ HX2.out
  clear hb1 b2 HA
  go_wp2_with fail
  refine (HM.out _).mono ?_
  rintro e w3 ⟨rfl, b3⟩
  have HB3 := Lib.hid (below_step HB2.out b3)
  have HX3 := Lib.hid (block_below b3 HX2.out)
  clear b3 HM
  clear x0 x1 x2 x3 x4 x5 x6 x7 x8 x9 x10 x11
  obtain ⟨x0, x1, x2, x3, x4, x5, x6, x7, x8, x9, x10, x11⟩ := HC.out _ HX3.out
  go_wp2_with fail
  refine (HP.out _ HB3.out).mono ?_
  rintro e w4 ⟨oa, oc, rfl, ho, b4⟩
  have HO4 := Lib.hid ho
  have HB4 := Lib.hid (below_step HB3.out b4)
  have HX4 := Lib.hid (block_below b4 HX3.out)
  clear b4 ho
  clear x0 x1 x2 x3 x4 x5 x6 x7 x8 x9 x10 x11
  go_wp2_with fail
  go_ret
  exact ⟨rfl, HB4.out⟩

set_option maxRecDepth 100000 in
set_option maxHeartbeats 8000000 in
theorem size_2 (f : FrM) (sa : Option Addr) (sc : Nat) (less : Int) (w : World) (hok : FrOk f sa sc w) (hs : SpIs w) (hsm : smallB f = true) (hm : mayB f = true) (h0 : (payL f).length = 0) :
    Calls Tryd.prog 6 #[frV f sa sc, .int .i64 less] w fun e w' => e = .returned (.bool true) ∧ Below w.heap.size w w' := by
  have HS := Lib.hid hs
  have HOk := Lib.hid (fun v (hv : Below w.heap.size w v) => hok.below hv)
  have HSp := Lib.hid (fun v (hv : Below w.heap.size w v) => hs.below hv)
  have HA := Lib.hid (fun v (hv : Below w.heap.size w v) => awake_any v (hs.below hv))
  have HM := Lib.hid (fun v => small_any f sa sc v)
  have HC := Lib.hid (fun (v : World) (h : v.heap[w.heap.size]? = some (Obj.cells (frC f sa sc) 24 (0, 0))) => cells12 h)
  have hb1 := bel_alloc w (.cells (frC f sa sc) 24)
  have HBX := Lib.hid (heap_alloc_new w (.cells (frC f sa sc) 24))
  rw [hsm] at HM
  have hln := wl_len f hsm hm
  have hat := fun most h => wl_at f hsm hm most h
  have hlessF := fun most h => wl_less f hsm hm most h
  have hpy := wput_yes f hsm hm
  simp only [smallB, Bool.and_eq_true, decide_eq_true_eq] at hsm
  have HP := Lib.hid (fun v (hv : Below w.heap.size w v) => pput_any f sa sc v (HOk.out v hv) (by omega) (by omega))
  rw [hpy] at HP
  obtain ⟨L, hL⟩ : ∃ L, L = wholeL f := ⟨_, rfl⟩
  rw [← hL] at HP hln
  simp only [← hL] at hat hlessF
  obtain ⟨N, hN⟩ : ∃ N, N = (payL f).length := ⟨_, rfl⟩
  rw [← hN] at hln
  simp only [← hN] at hat hlessF
  have hN9 : (L.length : Int) - 9 = N := by omega
  have hge : ¬ ((L.length : Int) < 9) := by omega
  have HTK := Lib.hid (fun (most : Int) (hm : (N : Int) ≤ most) (v : World) (oa : Option Addr) (oc : Nat) (hv : Below w.heap.size w v) (ho : RB v oa L) (h1 : L.length ≤ oc) (h2 : oc ≤ maxLen) => show Calls Tryd.prog 14 #[.slice oa L.length oc, .int .i64 most] v (fun e w' => ∃ sa sc, e = .returned (.tuple #[frV (takeF L 16777215).1 sa sc, .int .i64 (takeF L 16777215).2.1, faV (takeF L 16777215).2.2]) ∧ FrOk (takeF L 16777215).1 sa sc w' ∧ Below v.heap.size v w') from by
    have h := ptake_any L oa oc most v ho h1 h2 (hs.below hv)
    rw [hat most hm] at h
    exact h)
  have HTC := Lib.hid (fun (most : Int) (hk : most < (N : Int)) (v : World) (oa : Option Addr) (oc : Nat) (hv : Below w.heap.size w v) (ho : RB v oa L) (h1 : L.length ≤ oc) (h2 : oc ≤ maxLen) => show Calls Tryd.prog 14 #[.slice oa 9 oc, .int .i64 most] v (fun e w' => ∃ sa sc, e = .returned (.tuple #[frV noFr sa sc, .int .i64 0, .agg #[.bool true, .int .i64 6, .int .i64 0]]) ∧ FrOk noFr sa sc w' ∧ Below v.heap.size v w') from by
    have hl : (L.take 9).length = 9 := by rw [List.length_take]; omega
    have h := ptake_any (L.take 9) oa oc most v (ho.take 9) (by omega) h2 (hs.below hv)
    rw [hlessF most hk, hl] at h
    exact h)
  generalize takeF L 16777215 = T at HTK
  obtain ⟨F, Z, X⟩ := T
  simp only at HTK
  have HE := fun v => faEq X X v
  rw [decide_eq_true rfl] at HE
  have HE6 : ∀ v : World, (Op.equalIn 10000 33 (.agg #[.bool true, .int .i64 6, .int .i64 0]) (.agg #[.bool true, .int .i64 6, .int .i64 0])).run Tryd.prog v = .ok true v := fun v => by
    have h := faEq ⟨true, 6, 0⟩ ⟨true, 6, 0⟩ v
    rw [decide_eq_true rfl] at h
    exact h
  have hg := guFa
  have HSn := Lib.hid (fun (v : World) sa sb sc sd h1 h2 => rsame_any noFr noFr sa sb sc sd v h1 h2)
  rw [decide_eq_true rfl] at HSn
  have kN : ((N : Int) == 0) = true := by rw [beq_iff_eq]; omega
  clear h0
  have HLn := Lib.hid hln
  have hNm : N ≤ 90000 := hln.2
  unfold frV frC at HP HSn HTC
  unfold frV frC faV at HTK
  clear hat hlessF hpy hL hN hln hm
  unfold frV frC at HM
  unfold frV
  unfold frC at HBX hb1 ⊢
  clear hok hs
  go_enter Tryd.func6, Tryd.ntmps6
  go_wp2_with fail
  generalize w.alloc (.cells #[.int .i64 f.type, .int .i64 f.flags, .int .i64 f.stream, .string f.data, .int .i64 f.pad, .slice sa f.sets.length sc, .int .i64 f.code, .int .i64 f.last, .int .i64 f.inc, .int .i64 f.dep, .int .i64 f.weight, .bool f.sole] 24) = w1 at HBX hb1 ⊢
  have HB1 := Lib.hid hb1
  refine (HA.out _ hb1).mono ?_
  rintro e w2 ⟨rfl, b2⟩
  have HB2 := Lib.hid (below_step hb1 b2)
  have HX2 := Lib.hid (block_below b2 HBX.out)
  obtain ⟨x0, x1, x2, x3, x4, x5, x6, x7, x8, x9, x10, x11⟩ := HC.out _ HX2.out
  clear hb1 b2 HA
  go_wp2_with fail
  refine (HM.out _).mono ?_
  rintro e w3 ⟨rfl, b3⟩
  have HB3 := Lib.hid (below_step HB2.out b3)
  have HX3 := Lib.hid (block_below b3 HX2.out)
  clear b3 HM
  clear x0 x1 x2 x3 x4 x5 x6 x7 x8 x9 x10 x11
  obtain ⟨x0, x1, x2, x3, x4, x5, x6, x7, x8, x9, x10, x11⟩ := HC.out _ HX3.out
  go_wp2_with fail
  refine (HP.out _ HB3.out).mono ?_
  rintro e w4 ⟨oa, oc, rfl, ho, b4⟩
  have HO4 := Lib.hid ho
  have HB4 := Lib.hid (below_step HB3.out b4)
  have HX4 := Lib.hid (block_below b4 HX3.out)
  clear b4 ho
  clear x0 x1 x2 x3 x4 x5 x6 x7 x8 x9 x10 x11
  go_wp2_with fail
  refine (HTK.out N (Int.le_refl _) w4 oa oc HB4.out HO4.out.rb HO4.out.row.le HO4.out.row.max).mono ?_
  rintro e w5 ⟨ta, tc, rfl, ok5, b5⟩
  have HB5 := Lib.hid (below_step HB4.out b5)
  have HO5 := Lib.hid (HO4.out.rb.below b5)
  clear b5 ok5
  obtain ⟨t1, t2, t3⟩ := two_boxes w5 F ta tc X
  unfold frC at t1 t2 t3
  go_wp2_with fail
  skip
  generalize (w5.alloc (.cells #[.int .i64 F.type, .int .i64 F.flags, .int .i64 F.stream, .string F.data, .int .i64 F.pad, .slice ta F.sets.length tc, .int .i64 F.code, .int .i64 F.last, .int .i64 F.inc, .int .i64 F.dep, .int .i64 F.weight, .bool F.sole] 24)).alloc (.cells #[.bool X.is, .int .i64 X.code, .int .i64 X.stream] 33) = w6 at t1 t2 t3 ⊢
  obtain ⟨g1, hg1⟩ : ∃ g, g = w5.heap.size := ⟨_, rfl⟩
  rw [← hg1] at t1 t2 ⊢
  have HF6 : Hid (Fb g1 F ta tc w6) := Lib.hid t1
  have HX6 := Lib.hid t2
  have HT6 := Lib.hid t3
  clear t1 t2 t3 hg1
  have HB6 := Lib.hid (below_step HB5.out HT6.out)
  have HO6 := Lib.hid (HO5.out.below HT6.out)
  refine (HTK.out 16777215 (by omega) w6 oa oc HB6.out HO6.out HO4.out.row.le HO4.out.row.max).mono ?_
  rintro e w7 ⟨ua, uc, rfl, ok7, b7⟩
  have HB7 := Lib.hid (below_step HB6.out b7)
  have HO7 := Lib.hid (HO6.out.below b7)
  have HX7 := Lib.hid (block_below b7 HX6.out)
  clear b7 ok7
  have y0 : ∀ o p : Obj, (((w7).alloc o).alloc p).cell? ⟨g1 + 1, 0, none⟩ = some (.bool X.is) := fun o p => cell_at (block_below (bel2 w7 o p) HX7.out) 0
  have y1 : ∀ o p : Obj, (((w7).alloc o).alloc p).cell? ⟨g1 + 1, 1, none⟩ = some (.int .i64 X.code) := fun o p => cell_at (block_below (bel2 w7 o p) HX7.out) 1
  have y2 : ∀ o p : Obj, (((w7).alloc o).alloc p).cell? ⟨g1 + 1, 2, none⟩ = some (.int .i64 X.stream) := fun o p => cell_at (block_below (bel2 w7 o p) HX7.out) 2
  have HB8 := Lib.hid (below_step HB7.out (bel2 w7 (.cells #[.int .i64 F.type, .int .i64 F.flags, .int .i64 F.stream, .string F.data, .int .i64 F.pad, .slice ua F.sets.length uc, .int .i64 F.code, .int .i64 F.last, .int .i64 F.inc, .int .i64 F.dep, .int .i64 F.weight, .bool F.sole] 24) (.cells #[.bool X.is, .int .i64 X.code, .int .i64 X.stream] 33)))
  go_wp2_with fail
  go_ret
  exact ⟨rfl, HB8.out⟩

set_option maxRecDepth 100000 in
set_option maxHeartbeats 8000000 in
theorem size_3 (f : FrM) (sa : Option Addr) (sc : Nat) (less : Int) (w : World) (hok : FrOk f sa sc w) (hs : SpIs w) (hsm : smallB f = true) (hm : mayB f = true) (h0 : ¬ (payL f).length = 0) (hl : ¬ less > 0) :
    Calls Tryd.prog 6 #[frV f sa sc, .int .i64 less] w fun e w' => e = .returned (.bool true) ∧ Below w.heap.size w w' := by
  have HS := Lib.hid hs
  have HOk := Lib.hid (fun v (hv : Below w.heap.size w v) => hok.below hv)
  have HSp := Lib.hid (fun v (hv : Below w.heap.size w v) => hs.below hv)
  have HA := Lib.hid (fun v (hv : Below w.heap.size w v) => awake_any v (hs.below hv))
  have HM := Lib.hid (fun v => small_any f sa sc v)
  have HC := Lib.hid (fun (v : World) (h : v.heap[w.heap.size]? = some (Obj.cells (frC f sa sc) 24 (0, 0))) => cells12 h)
  have hb1 := bel_alloc w (.cells (frC f sa sc) 24)
  have HBX := Lib.hid (heap_alloc_new w (.cells (frC f sa sc) 24))
  rw [hsm] at HM
  have hln := wl_len f hsm hm
  have hat := fun most h => wl_at f hsm hm most h
  have hlessF := fun most h => wl_less f hsm hm most h
  have hpy := wput_yes f hsm hm
  simp only [smallB, Bool.and_eq_true, decide_eq_true_eq] at hsm
  have HP := Lib.hid (fun v (hv : Below w.heap.size w v) => pput_any f sa sc v (HOk.out v hv) (by omega) (by omega))
  rw [hpy] at HP
  obtain ⟨L, hL⟩ : ∃ L, L = wholeL f := ⟨_, rfl⟩
  rw [← hL] at HP hln
  simp only [← hL] at hat hlessF
  obtain ⟨N, hN⟩ : ∃ N, N = (payL f).length := ⟨_, rfl⟩
  rw [← hN] at hln
  simp only [← hN] at hat hlessF
  have hN9 : (L.length : Int) - 9 = N := by omega
  have hge : ¬ ((L.length : Int) < 9) := by omega
  have HTK := Lib.hid (fun (most : Int) (hm : (N : Int) ≤ most) (v : World) (oa : Option Addr) (oc : Nat) (hv : Below w.heap.size w v) (ho : RB v oa L) (h1 : L.length ≤ oc) (h2 : oc ≤ maxLen) => show Calls Tryd.prog 14 #[.slice oa L.length oc, .int .i64 most] v (fun e w' => ∃ sa sc, e = .returned (.tuple #[frV (takeF L 16777215).1 sa sc, .int .i64 (takeF L 16777215).2.1, faV (takeF L 16777215).2.2]) ∧ FrOk (takeF L 16777215).1 sa sc w' ∧ Below v.heap.size v w') from by
    have h := ptake_any L oa oc most v ho h1 h2 (hs.below hv)
    rw [hat most hm] at h
    exact h)
  have HTC := Lib.hid (fun (most : Int) (hk : most < (N : Int)) (v : World) (oa : Option Addr) (oc : Nat) (hv : Below w.heap.size w v) (ho : RB v oa L) (h1 : L.length ≤ oc) (h2 : oc ≤ maxLen) => show Calls Tryd.prog 14 #[.slice oa 9 oc, .int .i64 most] v (fun e w' => ∃ sa sc, e = .returned (.tuple #[frV noFr sa sc, .int .i64 0, .agg #[.bool true, .int .i64 6, .int .i64 0]]) ∧ FrOk noFr sa sc w' ∧ Below v.heap.size v w') from by
    have hl : (L.take 9).length = 9 := by rw [List.length_take]; omega
    have h := ptake_any (L.take 9) oa oc most v (ho.take 9) (by omega) h2 (hs.below hv)
    rw [hlessF most hk, hl] at h
    exact h)
  generalize takeF L 16777215 = T at HTK
  obtain ⟨F, Z, X⟩ := T
  simp only at HTK
  have HE := fun v => faEq X X v
  rw [decide_eq_true rfl] at HE
  have HE6 : ∀ v : World, (Op.equalIn 10000 33 (.agg #[.bool true, .int .i64 6, .int .i64 0]) (.agg #[.bool true, .int .i64 6, .int .i64 0])).run Tryd.prog v = .ok true v := fun v => by
    have h := faEq ⟨true, 6, 0⟩ ⟨true, 6, 0⟩ v
    rw [decide_eq_true rfl] at h
    exact h
  have hg := guFa
  have HSn := Lib.hid (fun (v : World) sa sb sc sd h1 h2 => rsame_any noFr noFr sa sb sc sd v h1 h2)
  rw [decide_eq_true rfl] at HSn
  have kN : ((N : Int) == 0) = false := by rw [beq_eq_false_iff_ne]; omega
  have hN1 : 1 ≤ N := by omega
  have HLn := Lib.hid hln
  have hNm : N ≤ 90000 := hln.2
  unfold frV frC at HP HSn HTC
  unfold frV frC faV at HTK
  clear hat hlessF hpy hL hN hln hm
  unfold frV frC at HM
  unfold frV
  unfold frC at HBX hb1 ⊢
  clear hok hs
  go_enter Tryd.func6, Tryd.ntmps6
  go_wp2_with fail
  generalize w.alloc (.cells #[.int .i64 f.type, .int .i64 f.flags, .int .i64 f.stream, .string f.data, .int .i64 f.pad, .slice sa f.sets.length sc, .int .i64 f.code, .int .i64 f.last, .int .i64 f.inc, .int .i64 f.dep, .int .i64 f.weight, .bool f.sole] 24) = w1 at HBX hb1 ⊢
  have HB1 := Lib.hid hb1
  refine (HA.out _ hb1).mono ?_
  rintro e w2 ⟨rfl, b2⟩
  have HB2 := Lib.hid (below_step hb1 b2)
  have HX2 := Lib.hid (block_below b2 HBX.out)
  obtain ⟨x0, x1, x2, x3, x4, x5, x6, x7, x8, x9, x10, x11⟩ := HC.out _ HX2.out
  clear hb1 b2 HA
  go_wp2_with fail
  refine (HM.out _).mono ?_
  rintro e w3 ⟨rfl, b3⟩
  have HB3 := Lib.hid (below_step HB2.out b3)
  have HX3 := Lib.hid (block_below b3 HX2.out)
  clear b3 HM
  clear x0 x1 x2 x3 x4 x5 x6 x7 x8 x9 x10 x11
  obtain ⟨x0, x1, x2, x3, x4, x5, x6, x7, x8, x9, x10, x11⟩ := HC.out _ HX3.out
  go_wp2_with fail
  refine (HP.out _ HB3.out).mono ?_
  rintro e w4 ⟨oa, oc, rfl, ho, b4⟩
  have HO4 := Lib.hid ho
  have HB4 := Lib.hid (below_step HB3.out b4)
  have HX4 := Lib.hid (block_below b4 HX3.out)
  clear b4 ho
  clear x0 x1 x2 x3 x4 x5 x6 x7 x8 x9 x10 x11
  go_wp2_with fail
  refine (HTK.out N (Int.le_refl _) w4 oa oc HB4.out HO4.out.rb HO4.out.row.le HO4.out.row.max).mono ?_
  rintro e w5 ⟨ta, tc, rfl, ok5, b5⟩
  have HB5 := Lib.hid (below_step HB4.out b5)
  have HO5 := Lib.hid (HO4.out.rb.below b5)
  clear b5 ok5
  obtain ⟨t1, t2, t3⟩ := two_boxes w5 F ta tc X
  unfold frC at t1 t2 t3
  go_wp2_with fail
  skip
  generalize (w5.alloc (.cells #[.int .i64 F.type, .int .i64 F.flags, .int .i64 F.stream, .string F.data, .int .i64 F.pad, .slice ta F.sets.length tc, .int .i64 F.code, .int .i64 F.last, .int .i64 F.inc, .int .i64 F.dep, .int .i64 F.weight, .bool F.sole] 24)).alloc (.cells #[.bool X.is, .int .i64 X.code, .int .i64 X.stream] 33) = w6 at t1 t2 t3 ⊢
  obtain ⟨g1, hg1⟩ : ∃ g, g = w5.heap.size := ⟨_, rfl⟩
  rw [← hg1] at t1 t2 ⊢
  have HF6 : Hid (Fb g1 F ta tc w6) := Lib.hid t1
  have HX6 := Lib.hid t2
  have HT6 := Lib.hid t3
  clear t1 t2 t3 hg1
  have HB6 := Lib.hid (below_step HB5.out HT6.out)
  have HO6 := Lib.hid (HO5.out.below HT6.out)
  refine (HTK.out 16777215 (by omega) w6 oa oc HB6.out HO6.out HO4.out.row.le HO4.out.row.max).mono ?_
  rintro e w7 ⟨ua, uc, rfl, ok7, b7⟩
  have HB7 := Lib.hid (below_step HB6.out b7)
  have HO7 := Lib.hid (HO6.out.below b7)
  have HX7 := Lib.hid (block_below b7 HX6.out)
  clear b7 ok7
  have y0 : ∀ o p : Obj, (((w7).alloc o).alloc p).cell? ⟨g1 + 1, 0, none⟩ = some (.bool X.is) := fun o p => cell_at (block_below (bel2 w7 o p) HX7.out) 0
  have y1 : ∀ o p : Obj, (((w7).alloc o).alloc p).cell? ⟨g1 + 1, 1, none⟩ = some (.int .i64 X.code) := fun o p => cell_at (block_below (bel2 w7 o p) HX7.out) 1
  have y2 : ∀ o p : Obj, (((w7).alloc o).alloc p).cell? ⟨g1 + 1, 2, none⟩ = some (.int .i64 X.stream) := fun o p => cell_at (block_below (bel2 w7 o p) HX7.out) 2
  have hle := HO4.out.row.le
  have hsl : ∀ v, (Instr.slice 27 (.slice oa L.length oc) none (some (.int .i64 9)) none).run Tryd.prog v = .ok (.slice oa 9 oc) v := fun v => run_to (P := Tryd.prog) Tryd.underlying27 size_by oa L.length oc 9 (by have := HLn.out; omega) hle v
  obtain ⟨t1, t2, t3⟩ := two_boxes w7 F ua uc X
  unfold frC at t1 t2 t3
  go_wp2_with fail
  clear y0 y1 y2
  generalize (w7.alloc (.cells #[.int .i64 F.type, .int .i64 F.flags, .int .i64 F.stream, .string F.data, .int .i64 F.pad, .slice ua F.sets.length uc, .int .i64 F.code, .int .i64 F.last, .int .i64 F.inc, .int .i64 F.dep, .int .i64 F.weight, .bool F.sole] 24)).alloc (.cells #[.bool X.is, .int .i64 X.code, .int .i64 X.stream] 33) = w8 at t1 t2 t3 ⊢
  obtain ⟨g2, hg2⟩ : ∃ g, g = w7.heap.size := ⟨_, rfl⟩
  rw [← hg2] at t1 t2 ⊢
  have HF8 : Hid (Fb g2 F ua uc w8) := Lib.hid t1
  have HX8 := Lib.hid t2
  have HT8 := Lib.hid t3
  clear t1 t2 t3 hg2
  have HB8 := Lib.hid (below_step HB7.out HT8.out)
  have HO8 := Lib.hid (HO7.out.below HT8.out)
  refine (HTC.out ((N : Int) - 1) (by omega) w8 oa oc HB8.out HO8.out hle HO4.out.row.max).mono ?_
  rintro e w9 ⟨va, vc, rfl, ok9, b9⟩
  have HB9 := Lib.hid (below_step HB8.out b9)
  have HOk9 := Lib.hid ok9
  clear b9 ok9
  obtain ⟨t1, t2, t3⟩ := two_boxes w9 noFr va vc (⟨true, 6, 0⟩ : FaM)
  unfold frC at t1 t2 t3
  go_wp2_with fail
  skip
  generalize (w9.alloc (.cells #[.int .i64 noFr.type, .int .i64 noFr.flags, .int .i64 noFr.stream, .string noFr.data, .int .i64 noFr.pad, .slice va noFr.sets.length vc, .int .i64 noFr.code, .int .i64 noFr.last, .int .i64 noFr.inc, .int .i64 noFr.dep, .int .i64 noFr.weight, .bool noFr.sole] 24)).alloc (.cells #[.bool true, .int .i64 6, .int .i64 0] 33) = w10 at t1 t2 t3 ⊢
  obtain ⟨g3, hg3⟩ : ∃ g, g = w9.heap.size := ⟨_, rfl⟩
  rw [← hg3] at t1 t2 ⊢
  have HF10 : Hid (Fb g3 noFr va vc w10) := Lib.hid t1
  have HX10 := Lib.hid t2
  have HT10 := Lib.hid t3
  clear t1 t2 t3 hg3
  have HB10 := Lib.hid (below_step HB9.out HT10.out)
  refine (HSn.out _ va none vc 0 (HOk9.out.below HT10.out) (tk_no _)).mono ?_
  rintro e w11 ⟨rfl, b11⟩
  obtain ⟨v0, v1, v2⟩ := fa_cells (block_below b11 HX10.out)
  have HB11 := Lib.hid (below_step HB10.out b11)
  clear b11
  go_wp2_with fail
  go_ret
  exact ⟨rfl, HB11.out⟩

set_option maxRecDepth 100000 in
set_option maxHeartbeats 8000000 in
theorem size_4 (f : FrM) (sa : Option Addr) (sc : Nat) (less : Int) (w : World) (hok : FrOk f sa sc w) (hs : SpIs w) (hsm : smallB f = true) (hm : mayB f = true) (h0 : ¬ (payL f).length = 0) (hl : less > 0) (hk : ¬ less < ((payL f).length : Int)) :
    Calls Tryd.prog 6 #[frV f sa sc, .int .i64 less] w fun e w' => e = .returned (.bool true) ∧ Below w.heap.size w w' := by
  have HS := Lib.hid hs
  have HOk := Lib.hid (fun v (hv : Below w.heap.size w v) => hok.below hv)
  have HSp := Lib.hid (fun v (hv : Below w.heap.size w v) => hs.below hv)
  have HA := Lib.hid (fun v (hv : Below w.heap.size w v) => awake_any v (hs.below hv))
  have HM := Lib.hid (fun v => small_any f sa sc v)
  have HC := Lib.hid (fun (v : World) (h : v.heap[w.heap.size]? = some (Obj.cells (frC f sa sc) 24 (0, 0))) => cells12 h)
  have hb1 := bel_alloc w (.cells (frC f sa sc) 24)
  have HBX := Lib.hid (heap_alloc_new w (.cells (frC f sa sc) 24))
  rw [hsm] at HM
  have hln := wl_len f hsm hm
  have hat := fun most h => wl_at f hsm hm most h
  have hlessF := fun most h => wl_less f hsm hm most h
  have hpy := wput_yes f hsm hm
  simp only [smallB, Bool.and_eq_true, decide_eq_true_eq] at hsm
  have HP := Lib.hid (fun v (hv : Below w.heap.size w v) => pput_any f sa sc v (HOk.out v hv) (by omega) (by omega))
  rw [hpy] at HP
  obtain ⟨L, hL⟩ : ∃ L, L = wholeL f := ⟨_, rfl⟩
  rw [← hL] at HP hln
  simp only [← hL] at hat hlessF
  obtain ⟨N, hN⟩ : ∃ N, N = (payL f).length := ⟨_, rfl⟩
  rw [← hN] at hln
  simp only [← hN] at hat hlessF
  have hN9 : (L.length : Int) - 9 = N := by omega
  have hge : ¬ ((L.length : Int) < 9) := by omega
  have HTK := Lib.hid (fun (most : Int) (hm : (N : Int) ≤ most) (v : World) (oa : Option Addr) (oc : Nat) (hv : Below w.heap.size w v) (ho : RB v oa L) (h1 : L.length ≤ oc) (h2 : oc ≤ maxLen) => show Calls Tryd.prog 14 #[.slice oa L.length oc, .int .i64 most] v (fun e w' => ∃ sa sc, e = .returned (.tuple #[frV (takeF L 16777215).1 sa sc, .int .i64 (takeF L 16777215).2.1, faV (takeF L 16777215).2.2]) ∧ FrOk (takeF L 16777215).1 sa sc w' ∧ Below v.heap.size v w') from by
    have h := ptake_any L oa oc most v ho h1 h2 (hs.below hv)
    rw [hat most hm] at h
    exact h)
  have HTC := Lib.hid (fun (most : Int) (hk : most < (N : Int)) (v : World) (oa : Option Addr) (oc : Nat) (hv : Below w.heap.size w v) (ho : RB v oa L) (h1 : L.length ≤ oc) (h2 : oc ≤ maxLen) => show Calls Tryd.prog 14 #[.slice oa 9 oc, .int .i64 most] v (fun e w' => ∃ sa sc, e = .returned (.tuple #[frV noFr sa sc, .int .i64 0, .agg #[.bool true, .int .i64 6, .int .i64 0]]) ∧ FrOk noFr sa sc w' ∧ Below v.heap.size v w') from by
    have hl : (L.take 9).length = 9 := by rw [List.length_take]; omega
    have h := ptake_any (L.take 9) oa oc most v (ho.take 9) (by omega) h2 (hs.below hv)
    rw [hlessF most hk, hl] at h
    exact h)
  generalize takeF L 16777215 = T at HTK
  obtain ⟨F, Z, X⟩ := T
  simp only at HTK
  have HE := fun v => faEq X X v
  rw [decide_eq_true rfl] at HE
  have HE6 : ∀ v : World, (Op.equalIn 10000 33 (.agg #[.bool true, .int .i64 6, .int .i64 0]) (.agg #[.bool true, .int .i64 6, .int .i64 0])).run Tryd.prog v = .ok true v := fun v => by
    have h := faEq ⟨true, 6, 0⟩ ⟨true, 6, 0⟩ v
    rw [decide_eq_true rfl] at h
    exact h
  have hg := guFa
  have HSn := Lib.hid (fun (v : World) sa sb sc sd h1 h2 => rsame_any noFr noFr sa sb sc sd v h1 h2)
  rw [decide_eq_true rfl] at HSn
  have kN : ((N : Int) == 0) = false := by rw [beq_eq_false_iff_ne]; omega
  have hN1 : 1 ≤ N := by omega
  rw [← hN] at hk
  have HLn := Lib.hid hln
  have hNm : N ≤ 90000 := hln.2
  unfold frV frC at HP HSn HTC
  unfold frV frC faV at HTK
  clear hat hlessF hpy hL hN hln hm
  unfold frV frC at HM
  unfold frV
  unfold frC at HBX hb1 ⊢
  clear hok hs
  go_enter Tryd.func6, Tryd.ntmps6
  go_wp2_with fail
  generalize w.alloc (.cells #[.int .i64 f.type, .int .i64 f.flags, .int .i64 f.stream, .string f.data, .int .i64 f.pad, .slice sa f.sets.length sc, .int .i64 f.code, .int .i64 f.last, .int .i64 f.inc, .int .i64 f.dep, .int .i64 f.weight, .bool f.sole] 24) = w1 at HBX hb1 ⊢
  have HB1 := Lib.hid hb1
  refine (HA.out _ hb1).mono ?_
  rintro e w2 ⟨rfl, b2⟩
  have HB2 := Lib.hid (below_step hb1 b2)
  have HX2 := Lib.hid (block_below b2 HBX.out)
  obtain ⟨x0, x1, x2, x3, x4, x5, x6, x7, x8, x9, x10, x11⟩ := HC.out _ HX2.out
  clear hb1 b2 HA
  go_wp2_with fail
  refine (HM.out _).mono ?_
  rintro e w3 ⟨rfl, b3⟩
  have HB3 := Lib.hid (below_step HB2.out b3)
  have HX3 := Lib.hid (block_below b3 HX2.out)
  clear b3 HM
  clear x0 x1 x2 x3 x4 x5 x6 x7 x8 x9 x10 x11
  obtain ⟨x0, x1, x2, x3, x4, x5, x6, x7, x8, x9, x10, x11⟩ := HC.out _ HX3.out
  go_wp2_with fail
  refine (HP.out _ HB3.out).mono ?_
  rintro e w4 ⟨oa, oc, rfl, ho, b4⟩
  have HO4 := Lib.hid ho
  have HB4 := Lib.hid (below_step HB3.out b4)
  have HX4 := Lib.hid (block_below b4 HX3.out)
  clear b4 ho
  clear x0 x1 x2 x3 x4 x5 x6 x7 x8 x9 x10 x11
  go_wp2_with fail
  refine (HTK.out N (Int.le_refl _) w4 oa oc HB4.out HO4.out.rb HO4.out.row.le HO4.out.row.max).mono ?_
  rintro e w5 ⟨ta, tc, rfl, ok5, b5⟩
  have HB5 := Lib.hid (below_step HB4.out b5)
  have HO5 := Lib.hid (HO4.out.rb.below b5)
  clear b5 ok5
  obtain ⟨t1, t2, t3⟩ := two_boxes w5 F ta tc X
  unfold frC at t1 t2 t3
  go_wp2_with fail
  skip
  generalize (w5.alloc (.cells #[.int .i64 F.type, .int .i64 F.flags, .int .i64 F.stream, .string F.data, .int .i64 F.pad, .slice ta F.sets.length tc, .int .i64 F.code, .int .i64 F.last, .int .i64 F.inc, .int .i64 F.dep, .int .i64 F.weight, .bool F.sole] 24)).alloc (.cells #[.bool X.is, .int .i64 X.code, .int .i64 X.stream] 33) = w6 at t1 t2 t3 ⊢
  obtain ⟨g1, hg1⟩ : ∃ g, g = w5.heap.size := ⟨_, rfl⟩
  rw [← hg1] at t1 t2 ⊢
  have HF6 : Hid (Fb g1 F ta tc w6) := Lib.hid t1
  have HX6 := Lib.hid t2
  have HT6 := Lib.hid t3
  clear t1 t2 t3 hg1
  have HB6 := Lib.hid (below_step HB5.out HT6.out)
  have HO6 := Lib.hid (HO5.out.below HT6.out)
  refine (HTK.out 16777215 (by omega) w6 oa oc HB6.out HO6.out HO4.out.row.le HO4.out.row.max).mono ?_
  rintro e w7 ⟨ua, uc, rfl, ok7, b7⟩
  have HB7 := Lib.hid (below_step HB6.out b7)
  have HO7 := Lib.hid (HO6.out.below b7)
  have HX7 := Lib.hid (block_below b7 HX6.out)
  clear b7 ok7
  have y0 : ∀ o p : Obj, (((w7).alloc o).alloc p).cell? ⟨g1 + 1, 0, none⟩ = some (.bool X.is) := fun o p => cell_at (block_below (bel2 w7 o p) HX7.out) 0
  have y1 : ∀ o p : Obj, (((w7).alloc o).alloc p).cell? ⟨g1 + 1, 1, none⟩ = some (.int .i64 X.code) := fun o p => cell_at (block_below (bel2 w7 o p) HX7.out) 1
  have y2 : ∀ o p : Obj, (((w7).alloc o).alloc p).cell? ⟨g1 + 1, 2, none⟩ = some (.int .i64 X.stream) := fun o p => cell_at (block_below (bel2 w7 o p) HX7.out) 2
  have hle := HO4.out.row.le
  have hsl : ∀ v, (Instr.slice 27 (.slice oa L.length oc) none (some (.int .i64 9)) none).run Tryd.prog v = .ok (.slice oa 9 oc) v := fun v => run_to (P := Tryd.prog) Tryd.underlying27 size_by oa L.length oc 9 (by have := HLn.out; omega) hle v
  obtain ⟨t1, t2, t3⟩ := two_boxes w7 F ua uc X
  unfold frC at t1 t2 t3
  go_wp2_with fail
  clear y0 y1 y2
  generalize (w7.alloc (.cells #[.int .i64 F.type, .int .i64 F.flags, .int .i64 F.stream, .string F.data, .int .i64 F.pad, .slice ua F.sets.length uc, .int .i64 F.code, .int .i64 F.last, .int .i64 F.inc, .int .i64 F.dep, .int .i64 F.weight, .bool F.sole] 24)).alloc (.cells #[.bool X.is, .int .i64 X.code, .int .i64 X.stream] 33) = w8 at t1 t2 t3 ⊢
  obtain ⟨g2, hg2⟩ : ∃ g, g = w7.heap.size := ⟨_, rfl⟩
  rw [← hg2] at t1 t2 ⊢
  have HF8 : Hid (Fb g2 F ua uc w8) := Lib.hid t1
  have HX8 := Lib.hid t2
  have HT8 := Lib.hid t3
  clear t1 t2 t3 hg2
  have HB8 := Lib.hid (below_step HB7.out HT8.out)
  have HO8 := Lib.hid (HO7.out.below HT8.out)
  refine (HTC.out ((N : Int) - 1) (by omega) w8 oa oc HB8.out HO8.out hle HO4.out.row.max).mono ?_
  rintro e w9 ⟨va, vc, rfl, ok9, b9⟩
  have HB9 := Lib.hid (below_step HB8.out b9)
  have HOk9 := Lib.hid ok9
  clear b9 ok9
  obtain ⟨t1, t2, t3⟩ := two_boxes w9 noFr va vc (⟨true, 6, 0⟩ : FaM)
  unfold frC at t1 t2 t3
  go_wp2_with fail
  skip
  generalize (w9.alloc (.cells #[.int .i64 noFr.type, .int .i64 noFr.flags, .int .i64 noFr.stream, .string noFr.data, .int .i64 noFr.pad, .slice va noFr.sets.length vc, .int .i64 noFr.code, .int .i64 noFr.last, .int .i64 noFr.inc, .int .i64 noFr.dep, .int .i64 noFr.weight, .bool noFr.sole] 24)).alloc (.cells #[.bool true, .int .i64 6, .int .i64 0] 33) = w10 at t1 t2 t3 ⊢
  obtain ⟨g3, hg3⟩ : ∃ g, g = w9.heap.size := ⟨_, rfl⟩
  rw [← hg3] at t1 t2 ⊢
  have HF10 : Hid (Fb g3 noFr va vc w10) := Lib.hid t1
  have HX10 := Lib.hid t2
  have HT10 := Lib.hid t3
  clear t1 t2 t3 hg3
  have HB10 := Lib.hid (below_step HB9.out HT10.out)
  refine (HSn.out _ va none vc 0 (HOk9.out.below HT10.out) (tk_no _)).mono ?_
  rintro e w11 ⟨rfl, b11⟩
  obtain ⟨v0, v1, v2⟩ := fa_cells (block_below b11 HX10.out)
  have HB11 := Lib.hid (below_step HB10.out b11)
  clear b11
  go_wp2_with fail
  go_ret
  exact ⟨rfl, HB11.out⟩

set_option maxRecDepth 100000 in
set_option maxHeartbeats 8000000 in
theorem size_5 (f : FrM) (sa : Option Addr) (sc : Nat) (less : Int) (w : World) (hok : FrOk f sa sc w) (hs : SpIs w) (hsm : smallB f = true) (hm : mayB f = true) (h0 : ¬ (payL f).length = 0) (hl : less > 0) (hk : less < ((payL f).length : Int)) :
    Calls Tryd.prog 6 #[frV f sa sc, .int .i64 less] w fun e w' => e = .returned (.bool true) ∧ Below w.heap.size w w' := by
  have HS := Lib.hid hs
  have HOk := Lib.hid (fun v (hv : Below w.heap.size w v) => hok.below hv)
  have HSp := Lib.hid (fun v (hv : Below w.heap.size w v) => hs.below hv)
  have HA := Lib.hid (fun v (hv : Below w.heap.size w v) => awake_any v (hs.below hv))
  have HM := Lib.hid (fun v => small_any f sa sc v)
  have HC := Lib.hid (fun (v : World) (h : v.heap[w.heap.size]? = some (Obj.cells (frC f sa sc) 24 (0, 0))) => cells12 h)
  have hb1 := bel_alloc w (.cells (frC f sa sc) 24)
  have HBX := Lib.hid (heap_alloc_new w (.cells (frC f sa sc) 24))
  rw [hsm] at HM
  have hln := wl_len f hsm hm
  have hat := fun most h => wl_at f hsm hm most h
  have hlessF := fun most h => wl_less f hsm hm most h
  have hpy := wput_yes f hsm hm
  simp only [smallB, Bool.and_eq_true, decide_eq_true_eq] at hsm
  have HP := Lib.hid (fun v (hv : Below w.heap.size w v) => pput_any f sa sc v (HOk.out v hv) (by omega) (by omega))
  rw [hpy] at HP
  obtain ⟨L, hL⟩ : ∃ L, L = wholeL f := ⟨_, rfl⟩
  rw [← hL] at HP hln
  simp only [← hL] at hat hlessF
  obtain ⟨N, hN⟩ : ∃ N, N = (payL f).length := ⟨_, rfl⟩
  rw [← hN] at hln
  simp only [← hN] at hat hlessF
  have hN9 : (L.length : Int) - 9 = N := by omega
  have hge : ¬ ((L.length : Int) < 9) := by omega
  have HTK := Lib.hid (fun (most : Int) (hm : (N : Int) ≤ most) (v : World) (oa : Option Addr) (oc : Nat) (hv : Below w.heap.size w v) (ho : RB v oa L) (h1 : L.length ≤ oc) (h2 : oc ≤ maxLen) => show Calls Tryd.prog 14 #[.slice oa L.length oc, .int .i64 most] v (fun e w' => ∃ sa sc, e = .returned (.tuple #[frV (takeF L 16777215).1 sa sc, .int .i64 (takeF L 16777215).2.1, faV (takeF L 16777215).2.2]) ∧ FrOk (takeF L 16777215).1 sa sc w' ∧ Below v.heap.size v w') from by
    have h := ptake_any L oa oc most v ho h1 h2 (hs.below hv)
    rw [hat most hm] at h
    exact h)
  have HTC := Lib.hid (fun (most : Int) (hk : most < (N : Int)) (v : World) (oa : Option Addr) (oc : Nat) (hv : Below w.heap.size w v) (ho : RB v oa L) (h1 : L.length ≤ oc) (h2 : oc ≤ maxLen) => show Calls Tryd.prog 14 #[.slice oa 9 oc, .int .i64 most] v (fun e w' => ∃ sa sc, e = .returned (.tuple #[frV noFr sa sc, .int .i64 0, .agg #[.bool true, .int .i64 6, .int .i64 0]]) ∧ FrOk noFr sa sc w' ∧ Below v.heap.size v w') from by
    have hl : (L.take 9).length = 9 := by rw [List.length_take]; omega
    have h := ptake_any (L.take 9) oa oc most v (ho.take 9) (by omega) h2 (hs.below hv)
    rw [hlessF most hk, hl] at h
    exact h)
  generalize takeF L 16777215 = T at HTK
  obtain ⟨F, Z, X⟩ := T
  simp only at HTK
  have HE := fun v => faEq X X v
  rw [decide_eq_true rfl] at HE
  have HE6 : ∀ v : World, (Op.equalIn 10000 33 (.agg #[.bool true, .int .i64 6, .int .i64 0]) (.agg #[.bool true, .int .i64 6, .int .i64 0])).run Tryd.prog v = .ok true v := fun v => by
    have h := faEq ⟨true, 6, 0⟩ ⟨true, 6, 0⟩ v
    rw [decide_eq_true rfl] at h
    exact h
  have hg := guFa
  have HSn := Lib.hid (fun (v : World) sa sb sc sd h1 h2 => rsame_any noFr noFr sa sb sc sd v h1 h2)
  rw [decide_eq_true rfl] at HSn
  have kN : ((N : Int) == 0) = false := by rw [beq_eq_false_iff_ne]; omega
  have hN1 : 1 ≤ N := by omega
  rw [← hN] at hk
  have HLn := Lib.hid hln
  have hNm : N ≤ 90000 := hln.2
  unfold frV frC at HP HSn HTC
  unfold frV frC faV at HTK
  clear hat hlessF hpy hL hN hln hm
  unfold frV frC at HM
  unfold frV
  unfold frC at HBX hb1 ⊢
  clear hok hs
  go_enter Tryd.func6, Tryd.ntmps6
  go_wp2_with fail
  generalize w.alloc (.cells #[.int .i64 f.type, .int .i64 f.flags, .int .i64 f.stream, .string f.data, .int .i64 f.pad, .slice sa f.sets.length sc, .int .i64 f.code, .int .i64 f.last, .int .i64 f.inc, .int .i64 f.dep, .int .i64 f.weight, .bool f.sole] 24) = w1 at HBX hb1 ⊢
  have HB1 := Lib.hid hb1
  refine (HA.out _ hb1).mono ?_
  rintro e w2 ⟨rfl, b2⟩
  have HB2 := Lib.hid (below_step hb1 b2)
  have HX2 := Lib.hid (block_below b2 HBX.out)
  obtain ⟨x0, x1, x2, x3, x4, x5, x6, x7, x8, x9, x10, x11⟩ := HC.out _ HX2.out
  clear hb1 b2 HA
  go_wp2_with fail
  refine (HM.out _).mono ?_
  rintro e w3 ⟨rfl, b3⟩
  have HB3 := Lib.hid (below_step HB2.out b3)
  have HX3 := Lib.hid (block_below b3 HX2.out)
  clear b3 HM
  clear x0 x1 x2 x3 x4 x5 x6 x7 x8 x9 x10 x11
  obtain ⟨x0, x1, x2, x3, x4, x5, x6, x7, x8, x9, x10, x11⟩ := HC.out _ HX3.out
  go_wp2_with fail
  refine (HP.out _ HB3.out).mono ?_
  rintro e w4 ⟨oa, oc, rfl, ho, b4⟩
  have HO4 := Lib.hid ho
  have HB4 := Lib.hid (below_step HB3.out b4)
  have HX4 := Lib.hid (block_below b4 HX3.out)
  clear b4 ho
  clear x0 x1 x2 x3 x4 x5 x6 x7 x8 x9 x10 x11
  go_wp2_with fail
  refine (HTK.out N (Int.le_refl _) w4 oa oc HB4.out HO4.out.rb HO4.out.row.le HO4.out.row.max).mono ?_
  rintro e w5 ⟨ta, tc, rfl, ok5, b5⟩
  have HB5 := Lib.hid (below_step HB4.out b5)
  have HO5 := Lib.hid (HO4.out.rb.below b5)
  clear b5 ok5
  obtain ⟨t1, t2, t3⟩ := two_boxes w5 F ta tc X
  unfold frC at t1 t2 t3
  go_wp2_with fail
  skip
  generalize (w5.alloc (.cells #[.int .i64 F.type, .int .i64 F.flags, .int .i64 F.stream, .string F.data, .int .i64 F.pad, .slice ta F.sets.length tc, .int .i64 F.code, .int .i64 F.last, .int .i64 F.inc, .int .i64 F.dep, .int .i64 F.weight, .bool F.sole] 24)).alloc (.cells #[.bool X.is, .int .i64 X.code, .int .i64 X.stream] 33) = w6 at t1 t2 t3 ⊢
  obtain ⟨g1, hg1⟩ : ∃ g, g = w5.heap.size := ⟨_, rfl⟩
  rw [← hg1] at t1 t2 ⊢
  have HF6 : Hid (Fb g1 F ta tc w6) := Lib.hid t1
  have HX6 := Lib.hid t2
  have HT6 := Lib.hid t3
  clear t1 t2 t3 hg1
  have HB6 := Lib.hid (below_step HB5.out HT6.out)
  have HO6 := Lib.hid (HO5.out.below HT6.out)
  refine (HTK.out 16777215 (by omega) w6 oa oc HB6.out HO6.out HO4.out.row.le HO4.out.row.max).mono ?_
  rintro e w7 ⟨ua, uc, rfl, ok7, b7⟩
  have HB7 := Lib.hid (below_step HB6.out b7)
  have HO7 := Lib.hid (HO6.out.below b7)
  have HX7 := Lib.hid (block_below b7 HX6.out)
  clear b7 ok7
  have y0 : ∀ o p : Obj, (((w7).alloc o).alloc p).cell? ⟨g1 + 1, 0, none⟩ = some (.bool X.is) := fun o p => cell_at (block_below (bel2 w7 o p) HX7.out) 0
  have y1 : ∀ o p : Obj, (((w7).alloc o).alloc p).cell? ⟨g1 + 1, 1, none⟩ = some (.int .i64 X.code) := fun o p => cell_at (block_below (bel2 w7 o p) HX7.out) 1
  have y2 : ∀ o p : Obj, (((w7).alloc o).alloc p).cell? ⟨g1 + 1, 2, none⟩ = some (.int .i64 X.stream) := fun o p => cell_at (block_below (bel2 w7 o p) HX7.out) 2
  have hle := HO4.out.row.le
  have hsl : ∀ v, (Instr.slice 27 (.slice oa L.length oc) none (some (.int .i64 9)) none).run Tryd.prog v = .ok (.slice oa 9 oc) v := fun v => run_to (P := Tryd.prog) Tryd.underlying27 size_by oa L.length oc 9 (by have := HLn.out; omega) hle v
  obtain ⟨t1, t2, t3⟩ := two_boxes w7 F ua uc X
  unfold frC at t1 t2 t3
  go_wp2_with fail
  clear y0 y1 y2
  generalize (w7.alloc (.cells #[.int .i64 F.type, .int .i64 F.flags, .int .i64 F.stream, .string F.data, .int .i64 F.pad, .slice ua F.sets.length uc, .int .i64 F.code, .int .i64 F.last, .int .i64 F.inc, .int .i64 F.dep, .int .i64 F.weight, .bool F.sole] 24)).alloc (.cells #[.bool X.is, .int .i64 X.code, .int .i64 X.stream] 33) = w8 at t1 t2 t3 ⊢
  obtain ⟨g2, hg2⟩ : ∃ g, g = w7.heap.size := ⟨_, rfl⟩
  rw [← hg2] at t1 t2 ⊢
  have HF8 : Hid (Fb g2 F ua uc w8) := Lib.hid t1
  have HX8 := Lib.hid t2
  have HT8 := Lib.hid t3
  clear t1 t2 t3 hg2
  have HB8 := Lib.hid (below_step HB7.out HT8.out)
  have HO8 := Lib.hid (HO7.out.below HT8.out)
  refine (HTC.out ((N : Int) - less) (by omega) w8 oa oc HB8.out HO8.out hle HO4.out.row.max).mono ?_
  rintro e w9 ⟨va, vc, rfl, ok9, b9⟩
  have HB9 := Lib.hid (below_step HB8.out b9)
  have HOk9 := Lib.hid ok9
  clear b9 ok9
  obtain ⟨t1, t2, t3⟩ := two_boxes w9 noFr va vc (⟨true, 6, 0⟩ : FaM)
  unfold frC at t1 t2 t3
  go_wp2_with fail
  skip
  generalize (w9.alloc (.cells #[.int .i64 noFr.type, .int .i64 noFr.flags, .int .i64 noFr.stream, .string noFr.data, .int .i64 noFr.pad, .slice va noFr.sets.length vc, .int .i64 noFr.code, .int .i64 noFr.last, .int .i64 noFr.inc, .int .i64 noFr.dep, .int .i64 noFr.weight, .bool noFr.sole] 24)).alloc (.cells #[.bool true, .int .i64 6, .int .i64 0] 33) = w10 at t1 t2 t3 ⊢
  obtain ⟨g3, hg3⟩ : ∃ g, g = w9.heap.size := ⟨_, rfl⟩
  rw [← hg3] at t1 t2 ⊢
  have HF10 : Hid (Fb g3 noFr va vc w10) := Lib.hid t1
  have HX10 := Lib.hid t2
  have HT10 := Lib.hid t3
  clear t1 t2 t3 hg3
  have HB10 := Lib.hid (below_step HB9.out HT10.out)
  refine (HSn.out _ va none vc 0 (HOk9.out.below HT10.out) (tk_no _)).mono ?_
  rintro e w11 ⟨rfl, b11⟩
  obtain ⟨v0, v1, v2⟩ := fa_cells (block_below b11 HX10.out)
  have HB11 := Lib.hid (below_step HB10.out b11)
  clear b11
  go_wp2_with fail
  go_ret
  exact ⟨rfl, HB11.out⟩

theorem law_sizes (f : FrM) (sa : Option Addr) (sc : Nat) (less : Int) (w : World) (hok : FrOk f sa sc w) (hs : SpIs w) :
    Calls Tryd.prog 6 #[frV f sa sc, .int .i64 less] w fun e w' => e = .returned (.bool true) ∧ Below w.heap.size w w' := by
  cases hsm : smallB f with
  | false => exact size_0 f sa sc less w hok hs hsm
  | true =>
    cases hm : mayB f with
    | false => exact size_1 f sa sc less w hok hs hsm hm
    | true =>
      by_cases h0 : (payL f).length = 0
      · exact size_2 f sa sc less w hok hs hsm hm h0
      · by_cases hl : less > 0
        · by_cases hk : less < ((payL f).length : Int)
          · exact size_5 f sa sc less w hok hs hsm hm h0 hl hk
          · exact size_4 f sa sc less w hok hs hsm hm h0 hl hk
        · exact size_3 f sa sc less w hok hs hsm hm h0 hl
end Go.Proofs.YtdilgkkkhmmffaaDoor

namespace Go.Proofs.YtdilgkkkhmmffaaDoor
open Go.RowKit
open Fra Oct Arg Mem Gen Wr Go.Proofs.YtdilgkkkhmmffaaDoor.Obj
set_option linter.unusedVariables false
set_option linter.unusedSimpArgs false

set_option maxRecDepth 100000 in
theorem orB8 : ∀ m : Fin 256, bits .or .u8 ((m.val : Nat) : Int) 128 = ((m.val ||| 128 : Nat) : Int) := by decide
theorem or8c (c : UInt8) : bits .or .u8 (c.toNat : Int) 128 = ((c ||| 128).toNat : Int) := by
  have h := orB8 ⟨c.toNat, c.toNat_lt⟩
  rw [h]
  rfl
theorem rb_set {w : World} {g off : Nat} {l : List UInt8} (h : ∀ i, (h : i < l.length) → w.cell? ⟨g, off + i, none⟩ = some (.int .u8 (l[i].toNat : Int))) (k : Nat) (hk : k < l.length) (c : UInt8) :
    ∀ i, (h : i < (l.set k c).length) → (w.setCell ⟨g, off + k, none⟩ (.int .u8 (c.toNat : Int))).cell? ⟨g, off + i, none⟩ = some (.int .u8 ((l.set k c)[i].toNat : Int)) := fun i hi => by
  rw [List.length_set] at hi
  rw [List.getElem_set]
  by_cases e : k = i
  · subst e
    rw [if_pos rfl]
    exact World.cell?_setCell_same' w _ _ (by rw [h k hk]; rfl)
  · rw [if_neg e]
    exact (World.cell?_setCell_other w _ _ _ (by simp only [ne_eq, Addr.mk.injEq, and_true, true_and]; omega)).trans (h i hi)
theorem high_is (f : FrM) (hm : mayB f = true) (c d : UInt8) (h5 : (wholeL f)[5]? = some c) (h9 : (wholeL f)[9]? = some d) (ht : f.type = 7 ∨ f.type = 8) :
    highL f = ((wholeL f).set 5 (c ||| 128)).set 9 (d ||| 128) := by
  rw [high_set f (may_of f hm)]
  simp only [if_pos ht]
  have e5 : (wholeL f).getD 5 0 = c := by simp [List.getD, h5]
  rw [e5]
  have e9 : ((wholeL f).set 5 (c ||| 128)).getD 9 0 = d := by
    rw [List.getD, List.getElem?_set, if_neg (by decide), h9]; rfl
  rw [e9]
theorem high_isn (f : FrM) (hm : mayB f = true) (c : UInt8) (h5 : (wholeL f)[5]? = some c) (ht : ¬(f.type = 7 ∨ f.type = 8)) :
    highL f = (wholeL f).set 5 (c ||| 128) := by
  rw [high_set f (may_of f hm)]
  simp only [if_neg ht]
  have e5 : (wholeL f).getD 5 0 = c := by simp [List.getD, h5]
  rw [e5]
theorem len9 (f : FrM) (hm : mayB f = true) (ht : f.type = 7 ∨ f.type = 8) : 13 ≤ (wholeL f).length := by
  rw [whole_len]
  rcases ht with h | h
  · rw [pay_7 f (may_of f hm) h, List.length_append, putL_length]; omega
  · rw [pay_8 f (may_of f hm) h, List.length_append, putL_length]; omega

set_option maxRecDepth 100000 in
set_option maxHeartbeats 4000000 in
theorem res_0 (f : FrM) (sa : Option Addr) (sc : Nat) (w : World) (hok : FrOk f sa sc w) (hs : SpIs w) (hsm : smallB f = false) :
    Calls Tryd.prog 8 #[frV f sa sc] w fun e w' => e = .returned (.bool true) ∧ Below w.heap.size w w' := by
  have HS := Lib.hid hs
  have HOk := Lib.hid (fun v (hv : Below w.heap.size w v) => hok.below hv)
  have HSp := Lib.hid (fun v (hv : Below w.heap.size w v) => hs.below hv)
  have HA := Lib.hid (fun v (hv : Below w.heap.size w v) => awake_any v (hs.below hv))
  have HM := Lib.hid (fun v => small_any f sa sc v)
  have HC := Lib.hid (fun (v : World) (h : v.heap[w.heap.size]? = some (Obj.cells (frC f sa sc) 24 (0, 0))) => cells12 h)
  have hb1 := bel_alloc w (.cells (frC f sa sc) 24)
  have HBX := Lib.hid (heap_alloc_new w (.cells (frC f sa sc) 24))
  rw [hsm] at HM
  unfold frV frC at HM
  unfold frV
  unfold frC at HBX hb1 ⊢
  clear hok hs
  go_enter Tryd.func8, Tryd.ntmps8
  go_wp2_with fail
  generalize w.alloc (.cells #[.int .i64 f.type, .int .i64 f.flags, .int .i64 f.stream, .string f.data, .int .i64 f.pad, .slice sa f.sets.length sc, .int .i64 f.code, .int .i64 f.last, .int .i64 f.inc, .int .i64 f.dep, .int .i64 f.weight, .bool f.sole] 24) = w1 at HBX hb1 ⊢
  have HB1 := Lib.hid hb1
  refine (HA.out _ hb1).mono ?_
  rintro e w2 ⟨rfl, b2⟩
  have HB2 := Lib.hid (below_step hb1 b2)
  have HX2 := Lib.hid (block_below b2 HBX.out)
  obtain ⟨x0, x1, x2, x3, x4, x5, x6, x7, x8, x9, x10, x11⟩ := HC.out _ HX2.out
  clear hb1 b2 HA
  go_wp2_with fail
  refine (HM.out _).mono ?_
  rintro e w3 ⟨rfl, b3⟩
  have HB3 := Lib.hid (below_step HB2.out b3)
  have HX3 := Lib.hid (block_below b3 HX2.out)
  clear b3 HM
  clear x0 x1 x2 x3 x4 x5 x6 x7 x8 x9 x10 x11
  obtain ⟨x0, x1, x2, x3, x4, x5, x6, x7, x8, x9, x10, x11⟩ := HC.out _ HX3.out
  go_wp2_with fail
  go_ret
  exact ⟨rfl, HB3.out⟩
theorem take_nil : takeF [] 16777215 = (noFr, 0, noFa) := by decide

set_option maxRecDepth 100000 in
set_option maxHeartbeats 4000000 in
theorem res_1 (f : FrM) (sa : Option Addr) (sc : Nat) (w : World) (hok : FrOk f sa sc w) (hs : SpIs w) (hsm : smallB f = true) (hm : mayB f = false) :
    Calls Tryd.prog 8 #[frV f sa sc] w fun e w' => e = .returned (.bool true) ∧ Below w.heap.size w w' := by
  have HS := Lib.hid hs
  have HOk := Lib.hid (fun v (hv : Below w.heap.size w v) => hok.below hv)
  have HSp := Lib.hid (fun v (hv : Below w.heap.size w v) => hs.below hv)
  have HA := Lib.hid (fun v (hv : Below w.heap.size w v) => awake_any v (hs.below hv))
  have HM := Lib.hid (fun v => small_any f sa sc v)
  have HC := Lib.hid (fun (v : World) (h : v.heap[w.heap.size]? = some (Obj.cells (frC f sa sc) 24 (0, 0))) => cells12 h)
  have hb1 := bel_alloc w (.cells (frC f sa sc) 24)
  have HBX := Lib.hid (heap_alloc_new w (.cells (frC f sa sc) 24))
  rw [hsm] at HM
  simp only [smallB, Bool.and_eq_true, decide_eq_true_eq] at hsm
  have HP := Lib.hid (fun v (hv : Below w.heap.size w v) => pput_any f sa sc v (HOk.out v hv) (by omega) (by omega))
  rw [wput_no f hm] at HP
  have HRT := Lib.hid (fun (v : World) (oa : Option Addr) (oc : Nat) (h2 : oc ≤ maxLen) => rtake06_any [] oa oc 16777215 v (.inl rfl) (Nat.zero_le _) h2)
  rw [take_nil] at HRT
  unfold TkEnd at HRT
  unfold frV frC at HP
  unfold frV frC faV noFa at HRT
  simp only at HRT
  unfold frV frC at HM
  unfold frV
  unfold frC at HBX hb1 ⊢
  clear hok hs hm
  go_enter Tryd.func8, Tryd.ntmps8
  go_wp2_with fail
  generalize w.alloc (.cells #[.int .i64 f.type, .int .i64 f.flags, .int .i64 f.stream, .string f.data, .int .i64 f.pad, .slice sa f.sets.length sc, .int .i64 f.code, .int .i64 f.last, .int .i64 f.inc, .int .i64 f.dep, .int .i64 f.weight, .bool f.sole] 24) = w1 at HBX hb1 ⊢
  have HB1 := Lib.hid hb1
  refine (HA.out _ hb1).mono ?_
  rintro e w2 ⟨rfl, b2⟩
  have HB2 := Lib.hid (below_step hb1 b2)
  have HX2 := Lib.hid (block_below b2 HBX.out)
  obtain ⟨x0, x1, x2, x3, x4, x5, x6, x7, x8, x9, x10, x11⟩ := HC.out _ HX2.out
  clear hb1 b2 HA
  go_wp2_with fail
  refine (HM.out _).mono ?_
  rintro e w3 ⟨rfl, b3⟩
  have HB3 := Lib.hid (below_step HB2.out b3)
  have HX3 := Lib.hid (block_below b3 HX2.out)
  clear b3 HM
  clear x0 x1 x2 x3 x4 x5 x6 x7 x8 x9 x10 x11
  obtain ⟨x0, x1, x2, x3, x4, x5, x6, x7, x8, x9, x10, x11⟩ := HC.out _ HX3.out
  go_wp2_with fail
  refine (HP.out _ HB3.out).mono ?_
  rintro e w4 ⟨oa, oc, rfl, ho, b4⟩
  have HO4 := Lib.hid ho
  have HB4 := Lib.hid (below_step HB3.out b4)
  have HX4 := Lib.hid (block_below b4 HX3.out)
  clear b4 ho
  clear x0 x1 x2 x3 x4 x5 x6 x7 x8 x9 x10 x11
  go_wp2_with fail
  refine (HRT.out w4 oa oc HO4.out.row.max).mono ?_
  rintro e w5 ⟨ra, rc, rfl, _, b5⟩
  have HB5 := Lib.hid (below_step HB4.out b5)
  clear b5
  go_wp2_with fail
  go_ret
  exact ⟨rfl, below_step HB5.out (bel2 _ _ _)⟩

set_option maxRecDepth 100000 in
set_option maxHeartbeats 4000000 in
theorem res_2 (f : FrM) (sa : Option Addr) (sc : Nat) (w : World) (hok : FrOk f sa sc w) (hs : SpIs w) (hsm : smallB f = true) (hm : mayB f = true) (hx : (takeF (wholeL f) 16777215).2.2.is = true) :
    Calls Tryd.prog 8 #[frV f sa sc] w fun e w' => e = .returned (.bool true) ∧ Below w.heap.size w w' := by
  have HS := Lib.hid hs
  have HOk := Lib.hid (fun v (hv : Below w.heap.size w v) => hok.below hv)
  have HSp := Lib.hid (fun v (hv : Below w.heap.size w v) => hs.below hv)
  have HA := Lib.hid (fun v (hv : Below w.heap.size w v) => awake_any v (hs.below hv))
  have HM := Lib.hid (fun v => small_any f sa sc v)
  have HC := Lib.hid (fun (v : World) (h : v.heap[w.heap.size]? = some (Obj.cells (frC f sa sc) 24 (0, 0))) => cells12 h)
  have hb1 := bel_alloc w (.cells (frC f sa sc) 24)
  have HBX := Lib.hid (heap_alloc_new w (.cells (frC f sa sc) 24))
  rw [hsm] at HM
  have hln := wl_len f hsm hm
  have hpy := wput_yes f hsm hm
  simp only [smallB, Bool.and_eq_true, decide_eq_true_eq] at hsm
  have HP := Lib.hid (fun v (hv : Below w.heap.size w v) => pput_any f sa sc v (HOk.out v hv) (by omega) (by omega))
  rw [hpy] at HP
  have HRT := Lib.hid (fun (v : World) (oa : Option Addr) (oc : Nat) (ho : RB v oa (wholeL f)) (h1 : (wholeL f).length ≤ oc) (h2 : oc ≤ maxLen) => rtake06_any (wholeL f) oa oc 16777215 v ho h1 h2)
  unfold TkEnd at HRT
  generalize takeF (wholeL f) 16777215 = R at HRT hx
  obtain ⟨F, N, X⟩ := R
  obtain ⟨Xi, Xc, Xs⟩ := X
  simp only at HRT hx
  subst hx
  generalize wholeL f = L at HP HRT hln
  unfold frV frC at HP
  unfold frV frC faV at HRT
  unfold frV frC at HM
  unfold frV
  unfold frC at HBX hb1 ⊢
  clear hok hs hm hln hpy
  go_enter Tryd.func8, Tryd.ntmps8
  go_wp2_with fail
  generalize w.alloc (.cells #[.int .i64 f.type, .int .i64 f.flags, .int .i64 f.stream, .string f.data, .int .i64 f.pad, .slice sa f.sets.length sc, .int .i64 f.code, .int .i64 f.last, .int .i64 f.inc, .int .i64 f.dep, .int .i64 f.weight, .bool f.sole] 24) = w1 at HBX hb1 ⊢
  have HB1 := Lib.hid hb1
  refine (HA.out _ hb1).mono ?_
  rintro e w2 ⟨rfl, b2⟩
  have HB2 := Lib.hid (below_step hb1 b2)
  have HX2 := Lib.hid (block_below b2 HBX.out)
  obtain ⟨x0, x1, x2, x3, x4, x5, x6, x7, x8, x9, x10, x11⟩ := HC.out _ HX2.out
  clear hb1 b2 HA
  go_wp2_with fail
  refine (HM.out _).mono ?_
  rintro e w3 ⟨rfl, b3⟩
  have HB3 := Lib.hid (below_step HB2.out b3)
  have HX3 := Lib.hid (block_below b3 HX2.out)
  clear b3 HM
  clear x0 x1 x2 x3 x4 x5 x6 x7 x8 x9 x10 x11
  obtain ⟨x0, x1, x2, x3, x4, x5, x6, x7, x8, x9, x10, x11⟩ := HC.out _ HX3.out
  go_wp2_with fail
  refine (HP.out _ HB3.out).mono ?_
  rintro e w4 ⟨oa, oc, rfl, ho, b4⟩
  have HO4 := Lib.hid ho
  have HB4 := Lib.hid (below_step HB3.out b4)
  have HX4 := Lib.hid (block_below b4 HX3.out)
  clear b4 ho
  clear x0 x1 x2 x3 x4 x5 x6 x7 x8 x9 x10 x11
  go_wp2_with fail
  refine (HRT.out w4 oa oc HO4.out.rb HO4.out.row.le HO4.out.row.max).mono ?_
  rintro e w5 ⟨ra, rc, rfl, _, b5⟩
  have HB5 := Lib.hid (below_step HB4.out b5)
  clear b5
  go_wp2_with fail
  go_ret
  exact ⟨rfl, below_step HB5.out (bel2 _ _ _)⟩

set_option maxRecDepth 100000 in
set_option maxHeartbeats 4000000 in
theorem res_3 (f : FrM) (sa : Option Addr) (sc : Nat) (w : World) (hok : FrOk f sa sc w) (hs : SpIs w) (hsm : smallB f = true) (hm : mayB f = true) (hx : (takeF (wholeL f) 16777215).2.2.is = false) (ht : ¬(f.type = 7 ∨ f.type = 8)) :
    Calls Tryd.prog 8 #[frV f sa sc] w fun e w' => e = .returned (.bool true) ∧ Below w.heap.size w w' := by
  have HS := Lib.hid hs
  have HOk := Lib.hid (fun v (hv : Below w.heap.size w v) => hok.below hv)
  have HSp := Lib.hid (fun v (hv : Below w.heap.size w v) => hs.below hv)
  have HA := Lib.hid (fun v (hv : Below w.heap.size w v) => awake_any v (hs.below hv))
  have HM := Lib.hid (fun v => small_any f sa sc v)
  have HC := Lib.hid (fun (v : World) (h : v.heap[w.heap.size]? = some (Obj.cells (frC f sa sc) 24 (0, 0))) => cells12 h)
  have hb1 := bel_alloc w (.cells (frC f sa sc) 24)
  have HBX := Lib.hid (heap_alloc_new w (.cells (frC f sa sc) 24))
  rw [hsm] at HM
  have hln := wl_len f hsm hm
  have hpy := wput_yes f hsm hm
  have hgood := wl_ok f hsm hm hx
  have hhigh := wl_high f hsm hm
  obtain ⟨c5, hc5⟩ : ∃ c, (wholeL f)[5]? = some c := ⟨_, List.getElem?_eq_getElem (by omega)⟩
  have heq := high_isn f hm c5 hc5 ht
  simp only [smallB, Bool.and_eq_true, decide_eq_true_eq] at hsm
  have HP := Lib.hid (fun v (hv : Below w.heap.size w v) => pput_any f sa sc v (HOk.out v hv) (by omega) (by omega))
  rw [hpy] at HP
  have HRT := Lib.hid (fun (v : World) (oa : Option Addr) (oc : Nat) (ho : RB v oa (wholeL f)) (h1 : (wholeL f).length ≤ oc) (h2 : oc ≤ maxLen) => rtake06_any (wholeL f) oa oc 16777215 v ho h1 h2)
  unfold TkEnd at HRT
  rw [hgood] at HRT hhigh
  obtain ⟨L, hL⟩ : ∃ L, L = wholeL f := ⟨_, rfl⟩
  simp only [← hL] at HP HRT hln hhigh heq hc5
  have HC5 := Lib.hid hc5
  have HHi := Lib.hid hhigh
  have HEq := Lib.hid heq
  have HSm := Lib.hid (fun (v : World) sa sb sc sd h1 h2 => rsame_any f f sa sb sc sd v h1 h2)
  rw [decide_eq_true rfl] at HSm
  have hLn : 9 ≤ L.length := by omega
  have hLm : L.length ≤ 90009 := by omega
  unfold frV frC at HP HSm
  unfold frV frC faV noFa at HRT
  simp only at HRT
  unfold frV frC at HM
  unfold frV
  unfold frC at HBX hb1 ⊢
  clear hc5 hx hgood hhigh heq hok hs hm hln hpy hL
  go_enter Tryd.func8, Tryd.ntmps8
  go_wp2_with fail
  generalize w.alloc (.cells #[.int .i64 f.type, .int .i64 f.flags, .int .i64 f.stream, .string f.data, .int .i64 f.pad, .slice sa f.sets.length sc, .int .i64 f.code, .int .i64 f.last, .int .i64 f.inc, .int .i64 f.dep, .int .i64 f.weight, .bool f.sole] 24) = w1 at HBX hb1 ⊢
  have HB1 := Lib.hid hb1
  refine (HA.out _ hb1).mono ?_
  rintro e w2 ⟨rfl, b2⟩
  have HB2 := Lib.hid (below_step hb1 b2)
  have HX2 := Lib.hid (block_below b2 HBX.out)
  obtain ⟨x0, x1, x2, x3, x4, x5, x6, x7, x8, x9, x10, x11⟩ := HC.out _ HX2.out
  clear hb1 b2 HA
  go_wp2_with fail
  refine (HM.out _).mono ?_
  rintro e w3 ⟨rfl, b3⟩
  have HB3 := Lib.hid (below_step HB2.out b3)
  have HX3 := Lib.hid (block_below b3 HX2.out)
  clear b3 HM
  clear x0 x1 x2 x3 x4 x5 x6 x7 x8 x9 x10 x11
  obtain ⟨x0, x1, x2, x3, x4, x5, x6, x7, x8, x9, x10, x11⟩ := HC.out _ HX3.out
  go_wp2_with fail
  refine (HP.out _ HB3.out).mono ?_
  rintro e w4 ⟨oa, oc, rfl, ho, b4⟩
  have HO4 := Lib.hid ho
  have HB4 := Lib.hid (below_step HB3.out b4)
  have HX4 := Lib.hid (block_below b4 HX3.out)
  clear b4 ho
  clear x0 x1 x2 x3 x4 x5 x6 x7 x8 x9 x10 x11
  go_wp2_with fail
  refine (HRT.out w4 oa oc HO4.out.rb HO4.out.row.le HO4.out.row.max).mono ?_
  rintro e w5 ⟨ra, rc, rfl, ok5, b5⟩
  have HB5 := Lib.hid (below_step HB4.out b5)
  have HX5 := Lib.hid (block_below b5 HX4.out)
  have HO5 := Lib.hid (HO4.out.below b5)
  clear b5 ok5
  obtain ⟨g, off, rfl, hcl⟩ : ∃ b off, oa = some ⟨b, off, none⟩ ∧ ∀ i, (h : i < L.length) → w5.cell? ⟨b, off + i, none⟩ = some (.int .u8 (L[i].toNat : Int)) := by
    rcases HO5.out.rb with h | h
    · rw [h] at hLn; simp at hLn
    · exact h
  have hgw : w.heap.size < w3.heap.size := (Array.getElem?_eq_some_iff.1 HX3.out).1
  have hg3 := (HO4.out.apart g off none rfl).1
  have hne1 : g ≠ w.heap.size := by omega
  have hne2 : w.heap.size ≠ g := by omega
  have HCl := Lib.hid (fun o p i (h : i < L.length) => below_cell (bel2 w5 o p) (hcl i h))
  have HFz : Hid (∀ o p (j : Nat), j < oc → ((w5.alloc o).alloc p).frozen? ⟨g, off + j, none⟩ = false) := Lib.hid (fun o p j hj => by
    obtain ⟨b', off', e, _, _, hsp⟩ := (HO5.out.below (bel2 w5 o p)).row.lies _ rfl
    simp only [Addr.mk.injEq, and_true] at e
    obtain ⟨rfl, rfl⟩ := e
    exact (hsp j (by simpa [EBy] using hj)).2)
  have hoc := HO5.out.row.le
  have hoc2 := HO5.out.row.max
  have i5 : (5 : Int) < (L.length : Int) := by omega
  have z5 : ∀ o p, ((w5.alloc o).alloc p).frozen? ⟨g, off + 5, none⟩ = false := fun o p => HFz.out o p 5 (by omega)
  have x5 : ∀ o p, ((w5.alloc o).alloc p).cell? ⟨g, off + 5, none⟩ = some (.int .u8 (c5.toNat : Int)) := fun o p => by
    obtain ⟨h, e⟩ := List.getElem?_eq_some_iff.1 HC5.out
    rw [← e]; exact HCl.out o p 5 h
  have hor5 := or8c c5
  have y0 : ∀ o p, ((w5.alloc o).alloc p).cell? ⟨w.heap.size, 0, none⟩ = some (.int .i64 f.type) := fun o p => cell_at (block_below (bel2 w5 o p) HX5.out) 0
  have k7 : (f.type == 7) = false := by rw [beq_eq_false_iff_ne]; omega
  have k8 : (f.type == 8) = false := by rw [beq_eq_false_iff_ne]; omega
  have HBg : Hid (∀ (v : World) (a : Nat) (u : Value), Below w.heap.size w v → Below w.heap.size w (v.setCell ⟨g, a, none⟩ u)) := Lib.hid (fun v a u hv => hv.setCell (p := ⟨g, a, none⟩) (show w.heap.size ≤ g by omega) u)
  have HXg : Hid (∀ (v : World) (a : Nat) (u : Value), (v.setCell ⟨g, a, none⟩ u).heap[w.heap.size]? = v.heap[w.heap.size]?) := Lib.hid (fun v a u => Below.heap_setCell v ⟨g, a, none⟩ u w.heap.size hne2)
  have HR6 := Lib.hid (fun o p => rb_set (HCl.out o p) 5 (by omega) (c5 ||| 128))
  clear hcl
  generalize hd5 : ((c5 ||| 128).toNat : Int) = d5 at *
  generalize hn5 : (c5.toNat : Int) = n5 at *
  have HD5 := Lib.hid hd5
  clear hd5 hn5
  go_wp2_with fail
  have HRx : Hid (RB (((w5.alloc (.cells #[.int .i64 f.type, .int .i64 f.flags, .int .i64 f.stream, .string f.data, .int .i64 f.pad, .slice ra f.sets.length rc, .int .i64 f.code, .int .i64 f.last, .int .i64 f.inc, .int .i64 f.dep, .int .i64 f.weight, .bool f.sole] 24)).alloc (.cells #[.bool false, .int .i64 0, .int .i64 0] 33)).setCell ⟨g, off + 5, none⟩ (.int .u8 d5)) (some ⟨g, off, none⟩) (L.set 5 (c5 ||| 128))) := Lib.hid (.inr ⟨g, off, rfl, HR6.out _ _⟩)
  have HB6 : Hid (Below w.heap.size w (((w5.alloc (.cells #[.int .i64 f.type, .int .i64 f.flags, .int .i64 f.stream, .string f.data, .int .i64 f.pad, .slice ra f.sets.length rc, .int .i64 f.code, .int .i64 f.last, .int .i64 f.inc, .int .i64 f.dep, .int .i64 f.weight, .bool f.sole] 24)).alloc (.cells #[.bool false, .int .i64 0, .int .i64 0] 33)).setCell ⟨g, off + 5, none⟩ (.int .u8 d5))) := Lib.hid (HBg.out _ _ _ (below_step HB5.out (bel2 _ _ _)))
  have HX6 : Hid ((((w5.alloc (.cells #[.int .i64 f.type, .int .i64 f.flags, .int .i64 f.stream, .string f.data, .int .i64 f.pad, .slice ra f.sets.length rc, .int .i64 f.code, .int .i64 f.last, .int .i64 f.inc, .int .i64 f.dep, .int .i64 f.weight, .bool f.sole] 24)).alloc (.cells #[.bool false, .int .i64 0, .int .i64 0] 33)).setCell ⟨g, off + 5, none⟩ (.int .u8 d5)).heap[w.heap.size]? = some (Obj.cells (frC f sa sc) 24 (0, 0))) := Lib.hid ((HXg.out _ _ _).trans (block_below (bel2 _ _ _) HX5.out))
  have HTK := Lib.hid (ptake_any (L.set 5 (c5 ||| 128)) (some ⟨g, off, none⟩) oc 16777215 _ HRx.out (by simp only [List.length_set]; omega) hoc2 (HSp.out _ HB6.out))
  rw [← HEq.out, HHi.out, HEq.out] at HTK
  simp only [List.length_set] at HTK
  unfold frV frC faV noFa at HTK
  simp only at HTK
  refine HTK.out.mono ?_
  rintro e w7 ⟨ta, tc, rfl, ok7, b7⟩
  have HOk7 := Lib.hid ok7
  have HB7 := Lib.hid (below_step HB6.out b7)
  have HX7 := Lib.hid (block_below b7 HX6.out)
  have HX7z := Lib.hid (fun o p => block_below (bel2 w7 o p) HX7.out)
  clear b7 ok7 z5 x5 y0 
  have b0 : ∀ o p : Obj, (((w7).alloc o).alloc p).cell? ⟨w.heap.size, 0, none⟩ = some (.int .i64 f.type) := fun o p => cell_at (HX7z.out o p) 0
  have b1 : ∀ o p : Obj, (((w7).alloc o).alloc p).cell? ⟨w.heap.size, 1, none⟩ = some (.int .i64 f.flags) := fun o p => cell_at (HX7z.out o p) 1
  have b2 : ∀ o p : Obj, (((w7).alloc o).alloc p).cell? ⟨w.heap.size, 2, none⟩ = some (.int .i64 f.stream) := fun o p => cell_at (HX7z.out o p) 2
  have b3 : ∀ o p : Obj, (((w7).alloc o).alloc p).cell? ⟨w.heap.size, 3, none⟩ = some (.string f.data) := fun o p => cell_at (HX7z.out o p) 3
  have b4 : ∀ o p : Obj, (((w7).alloc o).alloc p).cell? ⟨w.heap.size, 4, none⟩ = some (.int .i64 f.pad) := fun o p => cell_at (HX7z.out o p) 4
  have b5 : ∀ o p : Obj, (((w7).alloc o).alloc p).cell? ⟨w.heap.size, 5, none⟩ = some (.slice sa f.sets.length sc) := fun o p => cell_at (HX7z.out o p) 5
  have b6 : ∀ o p : Obj, (((w7).alloc o).alloc p).cell? ⟨w.heap.size, 6, none⟩ = some (.int .i64 f.code) := fun o p => cell_at (HX7z.out o p) 6
  have b7 : ∀ o p : Obj, (((w7).alloc o).alloc p).cell? ⟨w.heap.size, 7, none⟩ = some (.int .i64 f.last) := fun o p => cell_at (HX7z.out o p) 7
  have b8 : ∀ o p : Obj, (((w7).alloc o).alloc p).cell? ⟨w.heap.size, 8, none⟩ = some (.int .i64 f.inc) := fun o p => cell_at (HX7z.out o p) 8
  have b9 : ∀ o p : Obj, (((w7).alloc o).alloc p).cell? ⟨w.heap.size, 9, none⟩ = some (.int .i64 f.dep) := fun o p => cell_at (HX7z.out o p) 9
  have b10 : ∀ o p : Obj, (((w7).alloc o).alloc p).cell? ⟨w.heap.size, 10, none⟩ = some (.int .i64 f.weight) := fun o p => cell_at (HX7z.out o p) 10
  have b11 : ∀ o p : Obj, (((w7).alloc o).alloc p).cell? ⟨w.heap.size, 11, none⟩ = some (.bool f.sole) := fun o p => cell_at (HX7z.out o p) 11
  obtain ⟨t1, t2, t3⟩ := two_boxes w7 f ta tc (⟨false, 0, 0⟩ : FaM)
  unfold frC at t1 t2 t3
  go_wp2_with fail
  clear b0 b1 b2 b3 b4 b5 b6 b7 b8 b9 b10 b11
  generalize (w7.alloc (.cells #[.int .i64 f.type, .int .i64 f.flags, .int .i64 f.stream, .string f.data, .int .i64 f.pad, .slice ta f.sets.length tc, .int .i64 f.code, .int .i64 f.last, .int .i64 f.inc, .int .i64 f.dep, .int .i64 f.weight, .bool f.sole] 24)).alloc (.cells #[.bool false, .int .i64 0, .int .i64 0] 33) = w8 at t1 t2 t3 ⊢
  obtain ⟨g1, hg1⟩ : ∃ g, g = w7.heap.size := ⟨_, rfl⟩
  rw [← hg1] at t1 t2 ⊢
  have HF8 : Hid (Fb g1 f ta tc w8) := Lib.hid t1
  have HX8 := Lib.hid t2
  have HT8 := Lib.hid t3
  clear t1 t2 t3 hg1
  have HB8 := Lib.hid (below_step HB7.out HT8.out)
  refine (HSm.out _ ta sa tc sc (HOk7.out.below HT8.out) (HOk.out _ HB8.out)).mono ?_
  rintro e w9 ⟨rfl, b9⟩
  obtain ⟨v0, v1, v2⟩ := fa_cells (block_below b9 HX8.out)
  have HB9 := Lib.hid (below_step HB8.out b9)
  clear b9
  go_wp2_with fail
  go_ret
  exact ⟨rfl, HB9.out⟩

set_option maxRecDepth 100000 in
set_option maxHeartbeats 4000000 in
theorem res_4 (f : FrM) (sa : Option Addr) (sc : Nat) (w : World) (hok : FrOk f sa sc w) (hs : SpIs w) (hsm : smallB f = true) (hm : mayB f = true) (hx : (takeF (wholeL f) 16777215).2.2.is = false) (ht7 : f.type = 7) :
    Calls Tryd.prog 8 #[frV f sa sc] w fun e w' => e = .returned (.bool true) ∧ Below w.heap.size w w' := by
  have HS := Lib.hid hs
  have HOk := Lib.hid (fun v (hv : Below w.heap.size w v) => hok.below hv)
  have HSp := Lib.hid (fun v (hv : Below w.heap.size w v) => hs.below hv)
  have HA := Lib.hid (fun v (hv : Below w.heap.size w v) => awake_any v (hs.below hv))
  have HM := Lib.hid (fun v => small_any f sa sc v)
  have HC := Lib.hid (fun (v : World) (h : v.heap[w.heap.size]? = some (Obj.cells (frC f sa sc) 24 (0, 0))) => cells12 h)
  have hb1 := bel_alloc w (.cells (frC f sa sc) 24)
  have HBX := Lib.hid (heap_alloc_new w (.cells (frC f sa sc) 24))
  rw [hsm] at HM
  have hln := wl_len f hsm hm
  have hpy := wput_yes f hsm hm
  have hgood := wl_ok f hsm hm hx
  have hhigh := wl_high f hsm hm
  have ht : f.type = 7 ∨ f.type = 8 := .inl ht7
  have HT7 := Lib.hid ht7
  have h13 := len9 f hm ht
  obtain ⟨c5, hc5⟩ : ∃ c, (wholeL f)[5]? = some c := ⟨_, List.getElem?_eq_getElem (by omega)⟩
  obtain ⟨c9, hc9⟩ : ∃ c, (wholeL f)[9]? = some c := ⟨_, List.getElem?_eq_getElem (by omega)⟩
  have heq := high_is f hm c5 c9 hc5 hc9 ht
  simp only [smallB, Bool.and_eq_true, decide_eq_true_eq] at hsm
  have HP := Lib.hid (fun v (hv : Below w.heap.size w v) => pput_any f sa sc v (HOk.out v hv) (by omega) (by omega))
  rw [hpy] at HP
  have HRT := Lib.hid (fun (v : World) (oa : Option Addr) (oc : Nat) (ho : RB v oa (wholeL f)) (h1 : (wholeL f).length ≤ oc) (h2 : oc ≤ maxLen) => rtake06_any (wholeL f) oa oc 16777215 v ho h1 h2)
  unfold TkEnd at HRT
  rw [hgood] at HRT hhigh
  obtain ⟨L, hL⟩ : ∃ L, L = wholeL f := ⟨_, rfl⟩
  simp only [← hL] at HP HRT hln hhigh heq h13 hc5 hc9
  have HC9 := Lib.hid hc9
  have HC5 := Lib.hid hc5
  have HHi := Lib.hid hhigh
  have HEq := Lib.hid heq
  have HSm := Lib.hid (fun (v : World) sa sb sc sd h1 h2 => rsame_any f f sa sb sc sd v h1 h2)
  rw [decide_eq_true rfl] at HSm
  have hLn : 9 ≤ L.length := by omega
  have hLm : L.length ≤ 90009 := by omega
  unfold frV frC at HP HSm
  unfold frV frC faV noFa at HRT
  simp only at HRT
  unfold frV frC at HM
  unfold frV
  unfold frC at HBX hb1 ⊢
  clear hc9 hc5 ht7 ht hx hgood hhigh heq hok hs hm hln hpy hL
  go_enter Tryd.func8, Tryd.ntmps8
  go_wp2_with fail
  generalize w.alloc (.cells #[.int .i64 f.type, .int .i64 f.flags, .int .i64 f.stream, .string f.data, .int .i64 f.pad, .slice sa f.sets.length sc, .int .i64 f.code, .int .i64 f.last, .int .i64 f.inc, .int .i64 f.dep, .int .i64 f.weight, .bool f.sole] 24) = w1 at HBX hb1 ⊢
  have HB1 := Lib.hid hb1
  refine (HA.out _ hb1).mono ?_
  rintro e w2 ⟨rfl, b2⟩
  have HB2 := Lib.hid (below_step hb1 b2)
  have HX2 := Lib.hid (block_below b2 HBX.out)
  obtain ⟨x0, x1, x2, x3, x4, x5, x6, x7, x8, x9, x10, x11⟩ := HC.out _ HX2.out
  clear hb1 b2 HA
  go_wp2_with fail
  refine (HM.out _).mono ?_
  rintro e w3 ⟨rfl, b3⟩
  have HB3 := Lib.hid (below_step HB2.out b3)
  have HX3 := Lib.hid (block_below b3 HX2.out)
  clear b3 HM
  clear x0 x1 x2 x3 x4 x5 x6 x7 x8 x9 x10 x11
  obtain ⟨x0, x1, x2, x3, x4, x5, x6, x7, x8, x9, x10, x11⟩ := HC.out _ HX3.out
  go_wp2_with fail
  refine (HP.out _ HB3.out).mono ?_
  rintro e w4 ⟨oa, oc, rfl, ho, b4⟩
  have HO4 := Lib.hid ho
  have HB4 := Lib.hid (below_step HB3.out b4)
  have HX4 := Lib.hid (block_below b4 HX3.out)
  clear b4 ho
  clear x0 x1 x2 x3 x4 x5 x6 x7 x8 x9 x10 x11
  go_wp2_with fail
  refine (HRT.out w4 oa oc HO4.out.rb HO4.out.row.le HO4.out.row.max).mono ?_
  rintro e w5 ⟨ra, rc, rfl, ok5, b5⟩
  have HB5 := Lib.hid (below_step HB4.out b5)
  have HX5 := Lib.hid (block_below b5 HX4.out)
  have HO5 := Lib.hid (HO4.out.below b5)
  clear b5 ok5
  obtain ⟨g, off, rfl, hcl⟩ : ∃ b off, oa = some ⟨b, off, none⟩ ∧ ∀ i, (h : i < L.length) → w5.cell? ⟨b, off + i, none⟩ = some (.int .u8 (L[i].toNat : Int)) := by
    rcases HO5.out.rb with h | h
    · rw [h] at hLn; simp at hLn
    · exact h
  have hgw : w.heap.size < w3.heap.size := (Array.getElem?_eq_some_iff.1 HX3.out).1
  have hg3 := (HO4.out.apart g off none rfl).1
  have hne1 : g ≠ w.heap.size := by omega
  have hne2 : w.heap.size ≠ g := by omega
  have HCl := Lib.hid (fun o p i (h : i < L.length) => below_cell (bel2 w5 o p) (hcl i h))
  have HFz : Hid (∀ o p (j : Nat), j < oc → ((w5.alloc o).alloc p).frozen? ⟨g, off + j, none⟩ = false) := Lib.hid (fun o p j hj => by
    obtain ⟨b', off', e, _, _, hsp⟩ := (HO5.out.below (bel2 w5 o p)).row.lies _ rfl
    simp only [Addr.mk.injEq, and_true] at e
    obtain ⟨rfl, rfl⟩ := e
    exact (hsp j (by simpa [EBy] using hj)).2)
  have hoc := HO5.out.row.le
  have hoc2 := HO5.out.row.max
  have i5 : (5 : Int) < (L.length : Int) := by omega
  have z5 : ∀ o p, ((w5.alloc o).alloc p).frozen? ⟨g, off + 5, none⟩ = false := fun o p => HFz.out o p 5 (by omega)
  have x5 : ∀ o p, ((w5.alloc o).alloc p).cell? ⟨g, off + 5, none⟩ = some (.int .u8 (c5.toNat : Int)) := fun o p => by
    obtain ⟨h, e⟩ := List.getElem?_eq_some_iff.1 HC5.out
    rw [← e]; exact HCl.out o p 5 h
  have hor5 := or8c c5
  have y0 : ∀ o p, ((w5.alloc o).alloc p).cell? ⟨w.heap.size, 0, none⟩ = some (.int .i64 f.type) := fun o p => cell_at (block_below (bel2 w5 o p) HX5.out) 0
  have k7 : (f.type == 7) = true := by rw [beq_iff_eq]; exact HT7.out
  have hor9 := or8c c9
  have i9 : (9 : Int) < (L.length : Int) := by omega
  have z9 : ∀ o p, ((w5.alloc o).alloc p).frozen? ⟨g, off + 9, none⟩ = false := fun o p => HFz.out o p 9 (by omega)
  have x9 : ∀ o p, ((w5.alloc o).alloc p).cell? ⟨g, off + 9, none⟩ = some (.int .u8 (c9.toNat : Int)) := fun o p => by
    obtain ⟨h, e⟩ := List.getElem?_eq_some_iff.1 HC9.out
    rw [← e]; exact HCl.out o p 9 h
  have HBg : Hid (∀ (v : World) (a : Nat) (u : Value), Below w.heap.size w v → Below w.heap.size w (v.setCell ⟨g, a, none⟩ u)) := Lib.hid (fun v a u hv => hv.setCell (p := ⟨g, a, none⟩) (show w.heap.size ≤ g by omega) u)
  have HXg : Hid (∀ (v : World) (a : Nat) (u : Value), (v.setCell ⟨g, a, none⟩ u).heap[w.heap.size]? = v.heap[w.heap.size]?) := Lib.hid (fun v a u => Below.heap_setCell v ⟨g, a, none⟩ u w.heap.size hne2)
  have HR6 := Lib.hid (fun o p => rb_set (HCl.out o p) 5 (by omega) (c5 ||| 128))
  have HR7 := Lib.hid (fun o p => rb_set (HR6.out o p) 9 (by simp only [List.length_set]; omega) (c9 ||| 128))
  clear hcl
  generalize hd5 : ((c5 ||| 128).toNat : Int) = d5 at *
  generalize hn5 : (c5.toNat : Int) = n5 at *
  have HD5 := Lib.hid hd5
  clear hd5 hn5
  generalize hd9 : ((c9 ||| 128).toNat : Int) = d9 at *
  generalize hn9 : (c9.toNat : Int) = n9 at *
  have HD9 := Lib.hid hd9
  clear hd9 hn9
  go_wp2_with fail
  have HRx : Hid (RB ((((w5.alloc (.cells #[.int .i64 f.type, .int .i64 f.flags, .int .i64 f.stream, .string f.data, .int .i64 f.pad, .slice ra f.sets.length rc, .int .i64 f.code, .int .i64 f.last, .int .i64 f.inc, .int .i64 f.dep, .int .i64 f.weight, .bool f.sole] 24)).alloc (.cells #[.bool false, .int .i64 0, .int .i64 0] 33)).setCell ⟨g, off + 5, none⟩ (.int .u8 d5)).setCell ⟨g, off + 9, none⟩ (.int .u8 d9)) (some ⟨g, off, none⟩) ((L.set 5 (c5 ||| 128)).set 9 (c9 ||| 128))) := Lib.hid (.inr ⟨g, off, rfl, HR7.out _ _⟩)
  have HB6 : Hid (Below w.heap.size w ((((w5.alloc (.cells #[.int .i64 f.type, .int .i64 f.flags, .int .i64 f.stream, .string f.data, .int .i64 f.pad, .slice ra f.sets.length rc, .int .i64 f.code, .int .i64 f.last, .int .i64 f.inc, .int .i64 f.dep, .int .i64 f.weight, .bool f.sole] 24)).alloc (.cells #[.bool false, .int .i64 0, .int .i64 0] 33)).setCell ⟨g, off + 5, none⟩ (.int .u8 d5)).setCell ⟨g, off + 9, none⟩ (.int .u8 d9))) := Lib.hid (HBg.out _ _ _ <| HBg.out _ _ _ (below_step HB5.out (bel2 _ _ _)))
  have HX6 : Hid (((((w5.alloc (.cells #[.int .i64 f.type, .int .i64 f.flags, .int .i64 f.stream, .string f.data, .int .i64 f.pad, .slice ra f.sets.length rc, .int .i64 f.code, .int .i64 f.last, .int .i64 f.inc, .int .i64 f.dep, .int .i64 f.weight, .bool f.sole] 24)).alloc (.cells #[.bool false, .int .i64 0, .int .i64 0] 33)).setCell ⟨g, off + 5, none⟩ (.int .u8 d5)).setCell ⟨g, off + 9, none⟩ (.int .u8 d9)).heap[w.heap.size]? = some (Obj.cells (frC f sa sc) 24 (0, 0))) := Lib.hid (((HXg.out _ _ _).trans (HXg.out _ _ _)).trans (block_below (bel2 _ _ _) HX5.out))
  have HTK := Lib.hid (ptake_any ((L.set 5 (c5 ||| 128)).set 9 (c9 ||| 128)) (some ⟨g, off, none⟩) oc 16777215 _ HRx.out (by simp only [List.length_set]; omega) hoc2 (HSp.out _ HB6.out))
  rw [← HEq.out, HHi.out, HEq.out] at HTK
  simp only [List.length_set] at HTK
  unfold frV frC faV noFa at HTK
  simp only at HTK
  refine HTK.out.mono ?_
  rintro e w7 ⟨ta, tc, rfl, ok7, b7⟩
  have HOk7 := Lib.hid ok7
  have HB7 := Lib.hid (below_step HB6.out b7)
  have HX7 := Lib.hid (block_below b7 HX6.out)
  have HX7z := Lib.hid (fun o p => block_below (bel2 w7 o p) HX7.out)
  clear b7 ok7 z5 x5 y0 z9 x9
  have b0 : ∀ o p : Obj, (((w7).alloc o).alloc p).cell? ⟨w.heap.size, 0, none⟩ = some (.int .i64 f.type) := fun o p => cell_at (HX7z.out o p) 0
  have b1 : ∀ o p : Obj, (((w7).alloc o).alloc p).cell? ⟨w.heap.size, 1, none⟩ = some (.int .i64 f.flags) := fun o p => cell_at (HX7z.out o p) 1
  have b2 : ∀ o p : Obj, (((w7).alloc o).alloc p).cell? ⟨w.heap.size, 2, none⟩ = some (.int .i64 f.stream) := fun o p => cell_at (HX7z.out o p) 2
  have b3 : ∀ o p : Obj, (((w7).alloc o).alloc p).cell? ⟨w.heap.size, 3, none⟩ = some (.string f.data) := fun o p => cell_at (HX7z.out o p) 3
  have b4 : ∀ o p : Obj, (((w7).alloc o).alloc p).cell? ⟨w.heap.size, 4, none⟩ = some (.int .i64 f.pad) := fun o p => cell_at (HX7z.out o p) 4
  have b5 : ∀ o p : Obj, (((w7).alloc o).alloc p).cell? ⟨w.heap.size, 5, none⟩ = some (.slice sa f.sets.length sc) := fun o p => cell_at (HX7z.out o p) 5
  have b6 : ∀ o p : Obj, (((w7).alloc o).alloc p).cell? ⟨w.heap.size, 6, none⟩ = some (.int .i64 f.code) := fun o p => cell_at (HX7z.out o p) 6
  have b7 : ∀ o p : Obj, (((w7).alloc o).alloc p).cell? ⟨w.heap.size, 7, none⟩ = some (.int .i64 f.last) := fun o p => cell_at (HX7z.out o p) 7
  have b8 : ∀ o p : Obj, (((w7).alloc o).alloc p).cell? ⟨w.heap.size, 8, none⟩ = some (.int .i64 f.inc) := fun o p => cell_at (HX7z.out o p) 8
  have b9 : ∀ o p : Obj, (((w7).alloc o).alloc p).cell? ⟨w.heap.size, 9, none⟩ = some (.int .i64 f.dep) := fun o p => cell_at (HX7z.out o p) 9
  have b10 : ∀ o p : Obj, (((w7).alloc o).alloc p).cell? ⟨w.heap.size, 10, none⟩ = some (.int .i64 f.weight) := fun o p => cell_at (HX7z.out o p) 10
  have b11 : ∀ o p : Obj, (((w7).alloc o).alloc p).cell? ⟨w.heap.size, 11, none⟩ = some (.bool f.sole) := fun o p => cell_at (HX7z.out o p) 11
  obtain ⟨t1, t2, t3⟩ := two_boxes w7 f ta tc (⟨false, 0, 0⟩ : FaM)
  unfold frC at t1 t2 t3
  go_wp2_with fail
  clear b0 b1 b2 b3 b4 b5 b6 b7 b8 b9 b10 b11
  generalize (w7.alloc (.cells #[.int .i64 f.type, .int .i64 f.flags, .int .i64 f.stream, .string f.data, .int .i64 f.pad, .slice ta f.sets.length tc, .int .i64 f.code, .int .i64 f.last, .int .i64 f.inc, .int .i64 f.dep, .int .i64 f.weight, .bool f.sole] 24)).alloc (.cells #[.bool false, .int .i64 0, .int .i64 0] 33) = w8 at t1 t2 t3 ⊢
  obtain ⟨g1, hg1⟩ : ∃ g, g = w7.heap.size := ⟨_, rfl⟩
  rw [← hg1] at t1 t2 ⊢
  have HF8 : Hid (Fb g1 f ta tc w8) := Lib.hid t1
  have HX8 := Lib.hid t2
  have HT8 := Lib.hid t3
  clear t1 t2 t3 hg1
  have HB8 := Lib.hid (below_step HB7.out HT8.out)
  refine (HSm.out _ ta sa tc sc (HOk7.out.below HT8.out) (HOk.out _ HB8.out)).mono ?_
  rintro e w9 ⟨rfl, b9⟩
  obtain ⟨v0, v1, v2⟩ := fa_cells (block_below b9 HX8.out)
  have HB9 := Lib.hid (below_step HB8.out b9)
  clear b9
  go_wp2_with fail
  go_ret
  exact ⟨rfl, HB9.out⟩

set_option maxRecDepth 100000 in
set_option maxHeartbeats 4000000 in
theorem res_5 (f : FrM) (sa : Option Addr) (sc : Nat) (w : World) (hok : FrOk f sa sc w) (hs : SpIs w) (hsm : smallB f = true) (hm : mayB f = true) (hx : (takeF (wholeL f) 16777215).2.2.is = false) (ht8 : f.type = 8) :
    Calls Tryd.prog 8 #[frV f sa sc] w fun e w' => e = .returned (.bool true) ∧ Below w.heap.size w w' := by
  have HS := Lib.hid hs
  have HOk := Lib.hid (fun v (hv : Below w.heap.size w v) => hok.below hv)
  have HSp := Lib.hid (fun v (hv : Below w.heap.size w v) => hs.below hv)
  have HA := Lib.hid (fun v (hv : Below w.heap.size w v) => awake_any v (hs.below hv))
  have HM := Lib.hid (fun v => small_any f sa sc v)
  have HC := Lib.hid (fun (v : World) (h : v.heap[w.heap.size]? = some (Obj.cells (frC f sa sc) 24 (0, 0))) => cells12 h)
  have hb1 := bel_alloc w (.cells (frC f sa sc) 24)
  have HBX := Lib.hid (heap_alloc_new w (.cells (frC f sa sc) 24))
  rw [hsm] at HM
  have hln := wl_len f hsm hm
  have hpy := wput_yes f hsm hm
  have hgood := wl_ok f hsm hm hx
  have hhigh := wl_high f hsm hm
  have ht : f.type = 7 ∨ f.type = 8 := .inr ht8
  have HT8 := Lib.hid ht8
  have h13 := len9 f hm ht
  obtain ⟨c5, hc5⟩ : ∃ c, (wholeL f)[5]? = some c := ⟨_, List.getElem?_eq_getElem (by omega)⟩
  obtain ⟨c9, hc9⟩ : ∃ c, (wholeL f)[9]? = some c := ⟨_, List.getElem?_eq_getElem (by omega)⟩
  have heq := high_is f hm c5 c9 hc5 hc9 ht
  simp only [smallB, Bool.and_eq_true, decide_eq_true_eq] at hsm
  have HP := Lib.hid (fun v (hv : Below w.heap.size w v) => pput_any f sa sc v (HOk.out v hv) (by omega) (by omega))
  rw [hpy] at HP
  have HRT := Lib.hid (fun (v : World) (oa : Option Addr) (oc : Nat) (ho : RB v oa (wholeL f)) (h1 : (wholeL f).length ≤ oc) (h2 : oc ≤ maxLen) => rtake06_any (wholeL f) oa oc 16777215 v ho h1 h2)
  unfold TkEnd at HRT
  rw [hgood] at HRT hhigh
  obtain ⟨L, hL⟩ : ∃ L, L = wholeL f := ⟨_, rfl⟩
  simp only [← hL] at HP HRT hln hhigh heq h13 hc5 hc9
  have HC9 := Lib.hid hc9
  have HC5 := Lib.hid hc5
  have HHi := Lib.hid hhigh
  have HEq := Lib.hid heq
  have HSm := Lib.hid (fun (v : World) sa sb sc sd h1 h2 => rsame_any f f sa sb sc sd v h1 h2)
  rw [decide_eq_true rfl] at HSm
  have hLn : 9 ≤ L.length := by omega
  have hLm : L.length ≤ 90009 := by omega
  unfold frV frC at HP HSm
  unfold frV frC faV noFa at HRT
  simp only at HRT
  unfold frV frC at HM
  unfold frV
  unfold frC at HBX hb1 ⊢
  clear hc9 hc5 ht8 ht hx hgood hhigh heq hok hs hm hln hpy hL
  go_enter Tryd.func8, Tryd.ntmps8
  go_wp2_with fail
  generalize w.alloc (.cells #[.int .i64 f.type, .int .i64 f.flags, .int .i64 f.stream, .string f.data, .int .i64 f.pad, .slice sa f.sets.length sc, .int .i64 f.code, .int .i64 f.last, .int .i64 f.inc, .int .i64 f.dep, .int .i64 f.weight, .bool f.sole] 24) = w1 at HBX hb1 ⊢
  have HB1 := Lib.hid hb1
  refine (HA.out _ hb1).mono ?_
  rintro e w2 ⟨rfl, b2⟩
  have HB2 := Lib.hid (below_step hb1 b2)
  have HX2 := Lib.hid (block_below b2 HBX.out)
  obtain ⟨x0, x1, x2, x3, x4, x5, x6, x7, x8, x9, x10, x11⟩ := HC.out _ HX2.out
  clear hb1 b2 HA
  go_wp2_with fail
  refine (HM.out _).mono ?_
  rintro e w3 ⟨rfl, b3⟩
  have HB3 := Lib.hid (below_step HB2.out b3)
  have HX3 := Lib.hid (block_below b3 HX2.out)
  clear b3 HM
  clear x0 x1 x2 x3 x4 x5 x6 x7 x8 x9 x10 x11
  obtain ⟨x0, x1, x2, x3, x4, x5, x6, x7, x8, x9, x10, x11⟩ := HC.out _ HX3.out
  go_wp2_with fail
  refine (HP.out _ HB3.out).mono ?_
  rintro e w4 ⟨oa, oc, rfl, ho, b4⟩
  have HO4 := Lib.hid ho
  have HB4 := Lib.hid (below_step HB3.out b4)
  have HX4 := Lib.hid (block_below b4 HX3.out)
  clear b4 ho
  clear x0 x1 x2 x3 x4 x5 x6 x7 x8 x9 x10 x11
  go_wp2_with fail
  refine (HRT.out w4 oa oc HO4.out.rb HO4.out.row.le HO4.out.row.max).mono ?_
  rintro e w5 ⟨ra, rc, rfl, ok5, b5⟩
  have HB5 := Lib.hid (below_step HB4.out b5)
  have HX5 := Lib.hid (block_below b5 HX4.out)
  have HO5 := Lib.hid (HO4.out.below b5)
  clear b5 ok5
  obtain ⟨g, off, rfl, hcl⟩ : ∃ b off, oa = some ⟨b, off, none⟩ ∧ ∀ i, (h : i < L.length) → w5.cell? ⟨b, off + i, none⟩ = some (.int .u8 (L[i].toNat : Int)) := by
    rcases HO5.out.rb with h | h
    · rw [h] at hLn; simp at hLn
    · exact h
  have hgw : w.heap.size < w3.heap.size := (Array.getElem?_eq_some_iff.1 HX3.out).1
  have hg3 := (HO4.out.apart g off none rfl).1
  have hne1 : g ≠ w.heap.size := by omega
  have hne2 : w.heap.size ≠ g := by omega
  have HCl := Lib.hid (fun o p i (h : i < L.length) => below_cell (bel2 w5 o p) (hcl i h))
  have HFz : Hid (∀ o p (j : Nat), j < oc → ((w5.alloc o).alloc p).frozen? ⟨g, off + j, none⟩ = false) := Lib.hid (fun o p j hj => by
    obtain ⟨b', off', e, _, _, hsp⟩ := (HO5.out.below (bel2 w5 o p)).row.lies _ rfl
    simp only [Addr.mk.injEq, and_true] at e
    obtain ⟨rfl, rfl⟩ := e
    exact (hsp j (by simpa [EBy] using hj)).2)
  have hoc := HO5.out.row.le
  have hoc2 := HO5.out.row.max
  have i5 : (5 : Int) < (L.length : Int) := by omega
  have z5 : ∀ o p, ((w5.alloc o).alloc p).frozen? ⟨g, off + 5, none⟩ = false := fun o p => HFz.out o p 5 (by omega)
  have x5 : ∀ o p, ((w5.alloc o).alloc p).cell? ⟨g, off + 5, none⟩ = some (.int .u8 (c5.toNat : Int)) := fun o p => by
    obtain ⟨h, e⟩ := List.getElem?_eq_some_iff.1 HC5.out
    rw [← e]; exact HCl.out o p 5 h
  have hor5 := or8c c5
  have y0 : ∀ o p, ((w5.alloc o).alloc p).cell? ⟨w.heap.size, 0, none⟩ = some (.int .i64 f.type) := fun o p => cell_at (block_below (bel2 w5 o p) HX5.out) 0
  have k7 : (f.type == 7) = false := by rw [beq_eq_false_iff_ne, HT8.out]; decide
  have k8 : (f.type == 8) = true := by rw [beq_iff_eq]; exact HT8.out
  have hor9 := or8c c9
  have i9 : (9 : Int) < (L.length : Int) := by omega
  have z9 : ∀ o p, ((w5.alloc o).alloc p).frozen? ⟨g, off + 9, none⟩ = false := fun o p => HFz.out o p 9 (by omega)
  have x9 : ∀ o p, ((w5.alloc o).alloc p).cell? ⟨g, off + 9, none⟩ = some (.int .u8 (c9.toNat : Int)) := fun o p => by
    obtain ⟨h, e⟩ := List.getElem?_eq_some_iff.1 HC9.out
    rw [← e]; exact HCl.out o p 9 h
  have HBg : Hid (∀ (v : World) (a : Nat) (u : Value), Below w.heap.size w v → Below w.heap.size w (v.setCell ⟨g, a, none⟩ u)) := Lib.hid (fun v a u hv => hv.setCell (p := ⟨g, a, none⟩) (show w.heap.size ≤ g by omega) u)
  have HXg : Hid (∀ (v : World) (a : Nat) (u : Value), (v.setCell ⟨g, a, none⟩ u).heap[w.heap.size]? = v.heap[w.heap.size]?) := Lib.hid (fun v a u => Below.heap_setCell v ⟨g, a, none⟩ u w.heap.size hne2)
  have HR6 := Lib.hid (fun o p => rb_set (HCl.out o p) 5 (by omega) (c5 ||| 128))
  have HR7 := Lib.hid (fun o p => rb_set (HR6.out o p) 9 (by simp only [List.length_set]; omega) (c9 ||| 128))
  clear hcl
  generalize hd5 : ((c5 ||| 128).toNat : Int) = d5 at *
  generalize hn5 : (c5.toNat : Int) = n5 at *
  have HD5 := Lib.hid hd5
  clear hd5 hn5
  generalize hd9 : ((c9 ||| 128).toNat : Int) = d9 at *
  generalize hn9 : (c9.toNat : Int) = n9 at *
  have HD9 := Lib.hid hd9
  clear hd9 hn9
  go_wp2_with fail
  have HRx : Hid (RB ((((w5.alloc (.cells #[.int .i64 f.type, .int .i64 f.flags, .int .i64 f.stream, .string f.data, .int .i64 f.pad, .slice ra f.sets.length rc, .int .i64 f.code, .int .i64 f.last, .int .i64 f.inc, .int .i64 f.dep, .int .i64 f.weight, .bool f.sole] 24)).alloc (.cells #[.bool false, .int .i64 0, .int .i64 0] 33)).setCell ⟨g, off + 5, none⟩ (.int .u8 d5)).setCell ⟨g, off + 9, none⟩ (.int .u8 d9)) (some ⟨g, off, none⟩) ((L.set 5 (c5 ||| 128)).set 9 (c9 ||| 128))) := Lib.hid (.inr ⟨g, off, rfl, HR7.out _ _⟩)
  have HB6 : Hid (Below w.heap.size w ((((w5.alloc (.cells #[.int .i64 f.type, .int .i64 f.flags, .int .i64 f.stream, .string f.data, .int .i64 f.pad, .slice ra f.sets.length rc, .int .i64 f.code, .int .i64 f.last, .int .i64 f.inc, .int .i64 f.dep, .int .i64 f.weight, .bool f.sole] 24)).alloc (.cells #[.bool false, .int .i64 0, .int .i64 0] 33)).setCell ⟨g, off + 5, none⟩ (.int .u8 d5)).setCell ⟨g, off + 9, none⟩ (.int .u8 d9))) := Lib.hid (HBg.out _ _ _ <| HBg.out _ _ _ (below_step HB5.out (bel2 _ _ _)))
  have HX6 : Hid (((((w5.alloc (.cells #[.int .i64 f.type, .int .i64 f.flags, .int .i64 f.stream, .string f.data, .int .i64 f.pad, .slice ra f.sets.length rc, .int .i64 f.code, .int .i64 f.last, .int .i64 f.inc, .int .i64 f.dep, .int .i64 f.weight, .bool f.sole] 24)).alloc (.cells #[.bool false, .int .i64 0, .int .i64 0] 33)).setCell ⟨g, off + 5, none⟩ (.int .u8 d5)).setCell ⟨g, off + 9, none⟩ (.int .u8 d9)).heap[w.heap.size]? = some (Obj.cells (frC f sa sc) 24 (0, 0))) := Lib.hid (((HXg.out _ _ _).trans (HXg.out _ _ _)).trans (block_below (bel2 _ _ _) HX5.out))
  have HTK := Lib.hid (ptake_any ((L.set 5 (c5 ||| 128)).set 9 (c9 ||| 128)) (some ⟨g, off, none⟩) oc 16777215 _ HRx.out (by simp only [List.length_set]; omega) hoc2 (HSp.out _ HB6.out))
  rw [← HEq.out, HHi.out, HEq.out] at HTK
  simp only [List.length_set] at HTK
  unfold frV frC faV noFa at HTK
  simp only at HTK
  refine HTK.out.mono ?_
  rintro e w7 ⟨ta, tc, rfl, ok7, b7⟩
  have HOk7 := Lib.hid ok7
  have HB7 := Lib.hid (below_step HB6.out b7)
  have HX7 := Lib.hid (block_below b7 HX6.out)
  have HX7z := Lib.hid (fun o p => block_below (bel2 w7 o p) HX7.out)
  clear b7 ok7 z5 x5 y0 z9 x9
  have b0 : ∀ o p : Obj, (((w7).alloc o).alloc p).cell? ⟨w.heap.size, 0, none⟩ = some (.int .i64 f.type) := fun o p => cell_at (HX7z.out o p) 0
  have b1 : ∀ o p : Obj, (((w7).alloc o).alloc p).cell? ⟨w.heap.size, 1, none⟩ = some (.int .i64 f.flags) := fun o p => cell_at (HX7z.out o p) 1
  have b2 : ∀ o p : Obj, (((w7).alloc o).alloc p).cell? ⟨w.heap.size, 2, none⟩ = some (.int .i64 f.stream) := fun o p => cell_at (HX7z.out o p) 2
  have b3 : ∀ o p : Obj, (((w7).alloc o).alloc p).cell? ⟨w.heap.size, 3, none⟩ = some (.string f.data) := fun o p => cell_at (HX7z.out o p) 3
  have b4 : ∀ o p : Obj, (((w7).alloc o).alloc p).cell? ⟨w.heap.size, 4, none⟩ = some (.int .i64 f.pad) := fun o p => cell_at (HX7z.out o p) 4
  have b5 : ∀ o p : Obj, (((w7).alloc o).alloc p).cell? ⟨w.heap.size, 5, none⟩ = some (.slice sa f.sets.length sc) := fun o p => cell_at (HX7z.out o p) 5
  have b6 : ∀ o p : Obj, (((w7).alloc o).alloc p).cell? ⟨w.heap.size, 6, none⟩ = some (.int .i64 f.code) := fun o p => cell_at (HX7z.out o p) 6
  have b7 : ∀ o p : Obj, (((w7).alloc o).alloc p).cell? ⟨w.heap.size, 7, none⟩ = some (.int .i64 f.last) := fun o p => cell_at (HX7z.out o p) 7
  have b8 : ∀ o p : Obj, (((w7).alloc o).alloc p).cell? ⟨w.heap.size, 8, none⟩ = some (.int .i64 f.inc) := fun o p => cell_at (HX7z.out o p) 8
  have b9 : ∀ o p : Obj, (((w7).alloc o).alloc p).cell? ⟨w.heap.size, 9, none⟩ = some (.int .i64 f.dep) := fun o p => cell_at (HX7z.out o p) 9
  have b10 : ∀ o p : Obj, (((w7).alloc o).alloc p).cell? ⟨w.heap.size, 10, none⟩ = some (.int .i64 f.weight) := fun o p => cell_at (HX7z.out o p) 10
  have b11 : ∀ o p : Obj, (((w7).alloc o).alloc p).cell? ⟨w.heap.size, 11, none⟩ = some (.bool f.sole) := fun o p => cell_at (HX7z.out o p) 11
  obtain ⟨t1, t2, t3⟩ := two_boxes w7 f ta tc (⟨false, 0, 0⟩ : FaM)
  unfold frC at t1 t2 t3
  go_wp2_with fail
  clear b0 b1 b2 b3 b4 b5 b6 b7 b8 b9 b10 b11
  generalize (w7.alloc (.cells #[.int .i64 f.type, .int .i64 f.flags, .int .i64 f.stream, .string f.data, .int .i64 f.pad, .slice ta f.sets.length tc, .int .i64 f.code, .int .i64 f.last, .int .i64 f.inc, .int .i64 f.dep, .int .i64 f.weight, .bool f.sole] 24)).alloc (.cells #[.bool false, .int .i64 0, .int .i64 0] 33) = w8 at t1 t2 t3 ⊢
  obtain ⟨g1, hg1⟩ : ∃ g, g = w7.heap.size := ⟨_, rfl⟩
  rw [← hg1] at t1 t2 ⊢
  have HF8 : Hid (Fb g1 f ta tc w8) := Lib.hid t1
  have HX8 := Lib.hid t2
  have HT8 := Lib.hid t3
  clear t1 t2 t3 hg1
  have HB8 := Lib.hid (below_step HB7.out HT8.out)
  refine (HSm.out _ ta sa tc sc (HOk7.out.below HT8.out) (HOk.out _ HB8.out)).mono ?_
  rintro e w9 ⟨rfl, b9⟩
  obtain ⟨v0, v1, v2⟩ := fa_cells (block_below b9 HX8.out)
  have HB9 := Lib.hid (below_step HB8.out b9)
  clear b9
  go_wp2_with fail
  go_ret
  exact ⟨rfl, HB9.out⟩

theorem law_reserved (f : FrM) (sa : Option Addr) (sc : Nat) (w : World) (hok : FrOk f sa sc w) (hs : SpIs w) :
    Calls Tryd.prog 8 #[frV f sa sc] w fun e w' => e = .returned (.bool true) ∧ Below w.heap.size w w' := by
  cases hsm : smallB f with
  | false => exact res_0 f sa sc w hok hs hsm
  | true =>
    cases hm : mayB f with
    | false => exact res_1 f sa sc w hok hs hsm hm
    | true =>
      cases hx : (takeF (wholeL f) 16777215).2.2.is with
      | true => exact res_2 f sa sc w hok hs hsm hm hx
      | false =>
        by_cases h7 : f.type = 7
        · exact res_4 f sa sc w hok hs hsm hm hx h7
        · by_cases h8 : f.type = 8
          · exact res_5 f sa sc w hok hs hsm hm hx h8
          · exact res_3 f sa sc w hok hs hsm hm hx (by omega)
end Go.Proofs.YtdilgkkkhmmffaaDoor
