/- Layer 6: the program's head. Layer 6: the program's Take, region by region. Layer 6: a whole frame, a whole fault is stored, as one step of a region that draws its order. Layer 6: the program's Take: its other regions. Layer 6: the program's Take: a payload that is too long. Layer 6: the program's Take: the regions that answer. Layer 6: what the program reads is what the document says: without memory. -/
import Derived.Test.YtglhdlkmgmbgeaaDoorGP06
import Derived.Deep.RegionHeld3
set_option linter.unusedVariables false
set_option linter.unusedSimpArgs false
namespace Go.Proofs.YtglhdlkmgmbgeaaDoor
open Go.RowKit
open Fra Oct Arg Mem Gen Qu Go.Proofs.YtglhdlkmgmbgeaaDoor.Obj
set_option linter.unusedVariables false
set_option linter.unusedSimpArgs false

set_option maxHeartbeats 4000000 in
/-- A whole frame is stored. -/
theorem fr_ret {B : Nat} {w0 w : World} {rv : Nat} {u0 u1 u2 u3 u4 u5 u6 u7 u8 u9 u10 u11 : Value} (hB : Below B w0 w) (hle : B ≤ rv) (h : w.heap[rv]? = some (.cells #[u0, u1, u2, u3, u4, u5, u6, u7, u8, u9, u10, u11] 40 (0, 0))) (f : FrM) (sa : Option Addr) (sc : Nat) :
    ∃ w', ((((((((((((w).setCell ⟨rv, 0, none⟩ (.int .i64 f.type)).setCell ⟨rv, 1, none⟩ (.int .i64 f.flags)).setCell ⟨rv, 2, none⟩ (.int .i64 f.stream)).setCell ⟨rv, 3, none⟩ (.string f.data)).setCell ⟨rv, 4, none⟩ (.int .i64 f.pad)).setCell ⟨rv, 5, none⟩ (.slice sa f.sets.length sc)).setCell ⟨rv, 6, none⟩ (.int .i64 f.code)).setCell ⟨rv, 7, none⟩ (.int .i64 f.last)).setCell ⟨rv, 8, none⟩ (.int .i64 f.inc)).setCell ⟨rv, 9, none⟩ (.int .i64 f.dep)).setCell ⟨rv, 10, none⟩ (.int .i64 f.weight)).setCell ⟨rv, 11, none⟩ (.bool f.sole) = w' ∧ Fb rv f sa sc w' ∧ Below B w0 w' ∧ ∀ k, k ≠ rv → w'.heap[k]? = w.heap[k]? := by
  obtain ⟨w1, hw1⟩ : ∃ x, x = w.setCell ⟨rv, 0, none⟩ (.int .i64 f.type) := ⟨_, rfl⟩
  have k0 : w1.heap[rv]? = some (Obj.cells #[.int .i64 f.type, u1, u2, u3, u4, u5, u6, u7, u8, u9, u10, u11] 40 (0, 0)) := by rw [hw1]; exact heap_setCell_same w rv 0 _ _ (.int .i64 f.type) h
  have b0 : Below B w0 w1 := by rw [hw1]; exact hB.setCell (p := ⟨rv, 0, none⟩) hle _
  have o0 : ∀ k, k ≠ rv → w1.heap[k]? = w.heap[k]? := fun k hk => by rw [hw1]; exact (Below.heap_setCell w ⟨rv, 0, none⟩ _ k hk)
  obtain ⟨w2, hw2⟩ : ∃ x, x = w1.setCell ⟨rv, 1, none⟩ (.int .i64 f.flags) := ⟨_, rfl⟩
  have k1 : w2.heap[rv]? = some (Obj.cells #[.int .i64 f.type, .int .i64 f.flags, u2, u3, u4, u5, u6, u7, u8, u9, u10, u11] 40 (0, 0)) := by rw [hw2]; exact heap_setCell_same w1 rv 1 _ _ (.int .i64 f.flags) k0
  have b1 : Below B w0 w2 := by rw [hw2]; exact b0.setCell (p := ⟨rv, 1, none⟩) hle _
  have o1 : ∀ k, k ≠ rv → w2.heap[k]? = w.heap[k]? := fun k hk => by rw [hw2]; exact (Below.heap_setCell w1 ⟨rv, 1, none⟩ _ k hk).trans (o0 k hk)
  obtain ⟨w3, hw3⟩ : ∃ x, x = w2.setCell ⟨rv, 2, none⟩ (.int .i64 f.stream) := ⟨_, rfl⟩
  have k2 : w3.heap[rv]? = some (Obj.cells #[.int .i64 f.type, .int .i64 f.flags, .int .i64 f.stream, u3, u4, u5, u6, u7, u8, u9, u10, u11] 40 (0, 0)) := by rw [hw3]; exact heap_setCell_same w2 rv 2 _ _ (.int .i64 f.stream) k1
  have b2 : Below B w0 w3 := by rw [hw3]; exact b1.setCell (p := ⟨rv, 2, none⟩) hle _
  have o2 : ∀ k, k ≠ rv → w3.heap[k]? = w.heap[k]? := fun k hk => by rw [hw3]; exact (Below.heap_setCell w2 ⟨rv, 2, none⟩ _ k hk).trans (o1 k hk)
  obtain ⟨w4, hw4⟩ : ∃ x, x = w3.setCell ⟨rv, 3, none⟩ (.string f.data) := ⟨_, rfl⟩
  have k3 : w4.heap[rv]? = some (Obj.cells #[.int .i64 f.type, .int .i64 f.flags, .int .i64 f.stream, .string f.data, u4, u5, u6, u7, u8, u9, u10, u11] 40 (0, 0)) := by rw [hw4]; exact heap_setCell_same w3 rv 3 _ _ (.string f.data) k2
  have b3 : Below B w0 w4 := by rw [hw4]; exact b2.setCell (p := ⟨rv, 3, none⟩) hle _
  have o3 : ∀ k, k ≠ rv → w4.heap[k]? = w.heap[k]? := fun k hk => by rw [hw4]; exact (Below.heap_setCell w3 ⟨rv, 3, none⟩ _ k hk).trans (o2 k hk)
  obtain ⟨w5, hw5⟩ : ∃ x, x = w4.setCell ⟨rv, 4, none⟩ (.int .i64 f.pad) := ⟨_, rfl⟩
  have k4 : w5.heap[rv]? = some (Obj.cells #[.int .i64 f.type, .int .i64 f.flags, .int .i64 f.stream, .string f.data, .int .i64 f.pad, u5, u6, u7, u8, u9, u10, u11] 40 (0, 0)) := by rw [hw5]; exact heap_setCell_same w4 rv 4 _ _ (.int .i64 f.pad) k3
  have b4 : Below B w0 w5 := by rw [hw5]; exact b3.setCell (p := ⟨rv, 4, none⟩) hle _
  have o4 : ∀ k, k ≠ rv → w5.heap[k]? = w.heap[k]? := fun k hk => by rw [hw5]; exact (Below.heap_setCell w4 ⟨rv, 4, none⟩ _ k hk).trans (o3 k hk)
  obtain ⟨w6, hw6⟩ : ∃ x, x = w5.setCell ⟨rv, 5, none⟩ (.slice sa f.sets.length sc) := ⟨_, rfl⟩
  have k5 : w6.heap[rv]? = some (Obj.cells #[.int .i64 f.type, .int .i64 f.flags, .int .i64 f.stream, .string f.data, .int .i64 f.pad, .slice sa f.sets.length sc, u6, u7, u8, u9, u10, u11] 40 (0, 0)) := by rw [hw6]; exact heap_setCell_same w5 rv 5 _ _ (.slice sa f.sets.length sc) k4
  have b5 : Below B w0 w6 := by rw [hw6]; exact b4.setCell (p := ⟨rv, 5, none⟩) hle _
  have o5 : ∀ k, k ≠ rv → w6.heap[k]? = w.heap[k]? := fun k hk => by rw [hw6]; exact (Below.heap_setCell w5 ⟨rv, 5, none⟩ _ k hk).trans (o4 k hk)
  obtain ⟨w7, hw7⟩ : ∃ x, x = w6.setCell ⟨rv, 6, none⟩ (.int .i64 f.code) := ⟨_, rfl⟩
  have k6 : w7.heap[rv]? = some (Obj.cells #[.int .i64 f.type, .int .i64 f.flags, .int .i64 f.stream, .string f.data, .int .i64 f.pad, .slice sa f.sets.length sc, .int .i64 f.code, u7, u8, u9, u10, u11] 40 (0, 0)) := by rw [hw7]; exact heap_setCell_same w6 rv 6 _ _ (.int .i64 f.code) k5
  have b6 : Below B w0 w7 := by rw [hw7]; exact b5.setCell (p := ⟨rv, 6, none⟩) hle _
  have o6 : ∀ k, k ≠ rv → w7.heap[k]? = w.heap[k]? := fun k hk => by rw [hw7]; exact (Below.heap_setCell w6 ⟨rv, 6, none⟩ _ k hk).trans (o5 k hk)
  obtain ⟨w8, hw8⟩ : ∃ x, x = w7.setCell ⟨rv, 7, none⟩ (.int .i64 f.last) := ⟨_, rfl⟩
  have k7 : w8.heap[rv]? = some (Obj.cells #[.int .i64 f.type, .int .i64 f.flags, .int .i64 f.stream, .string f.data, .int .i64 f.pad, .slice sa f.sets.length sc, .int .i64 f.code, .int .i64 f.last, u8, u9, u10, u11] 40 (0, 0)) := by rw [hw8]; exact heap_setCell_same w7 rv 7 _ _ (.int .i64 f.last) k6
  have b7 : Below B w0 w8 := by rw [hw8]; exact b6.setCell (p := ⟨rv, 7, none⟩) hle _
  have o7 : ∀ k, k ≠ rv → w8.heap[k]? = w.heap[k]? := fun k hk => by rw [hw8]; exact (Below.heap_setCell w7 ⟨rv, 7, none⟩ _ k hk).trans (o6 k hk)
  obtain ⟨w9, hw9⟩ : ∃ x, x = w8.setCell ⟨rv, 8, none⟩ (.int .i64 f.inc) := ⟨_, rfl⟩
  have k8 : w9.heap[rv]? = some (Obj.cells #[.int .i64 f.type, .int .i64 f.flags, .int .i64 f.stream, .string f.data, .int .i64 f.pad, .slice sa f.sets.length sc, .int .i64 f.code, .int .i64 f.last, .int .i64 f.inc, u9, u10, u11] 40 (0, 0)) := by rw [hw9]; exact heap_setCell_same w8 rv 8 _ _ (.int .i64 f.inc) k7
  have b8 : Below B w0 w9 := by rw [hw9]; exact b7.setCell (p := ⟨rv, 8, none⟩) hle _
  have o8 : ∀ k, k ≠ rv → w9.heap[k]? = w.heap[k]? := fun k hk => by rw [hw9]; exact (Below.heap_setCell w8 ⟨rv, 8, none⟩ _ k hk).trans (o7 k hk)
  obtain ⟨w10, hw10⟩ : ∃ x, x = w9.setCell ⟨rv, 9, none⟩ (.int .i64 f.dep) := ⟨_, rfl⟩
  have k9 : w10.heap[rv]? = some (Obj.cells #[.int .i64 f.type, .int .i64 f.flags, .int .i64 f.stream, .string f.data, .int .i64 f.pad, .slice sa f.sets.length sc, .int .i64 f.code, .int .i64 f.last, .int .i64 f.inc, .int .i64 f.dep, u10, u11] 40 (0, 0)) := by rw [hw10]; exact heap_setCell_same w9 rv 9 _ _ (.int .i64 f.dep) k8
  have b9 : Below B w0 w10 := by rw [hw10]; exact b8.setCell (p := ⟨rv, 9, none⟩) hle _
  have o9 : ∀ k, k ≠ rv → w10.heap[k]? = w.heap[k]? := fun k hk => by rw [hw10]; exact (Below.heap_setCell w9 ⟨rv, 9, none⟩ _ k hk).trans (o8 k hk)
  obtain ⟨w11, hw11⟩ : ∃ x, x = w10.setCell ⟨rv, 10, none⟩ (.int .i64 f.weight) := ⟨_, rfl⟩
  have k10 : w11.heap[rv]? = some (Obj.cells #[.int .i64 f.type, .int .i64 f.flags, .int .i64 f.stream, .string f.data, .int .i64 f.pad, .slice sa f.sets.length sc, .int .i64 f.code, .int .i64 f.last, .int .i64 f.inc, .int .i64 f.dep, .int .i64 f.weight, u11] 40 (0, 0)) := by rw [hw11]; exact heap_setCell_same w10 rv 10 _ _ (.int .i64 f.weight) k9
  have b10 : Below B w0 w11 := by rw [hw11]; exact b9.setCell (p := ⟨rv, 10, none⟩) hle _
  have o10 : ∀ k, k ≠ rv → w11.heap[k]? = w.heap[k]? := fun k hk => by rw [hw11]; exact (Below.heap_setCell w10 ⟨rv, 10, none⟩ _ k hk).trans (o9 k hk)
  obtain ⟨w12, hw12⟩ : ∃ x, x = w11.setCell ⟨rv, 11, none⟩ (.bool f.sole) := ⟨_, rfl⟩
  have k11 : w12.heap[rv]? = some (Obj.cells #[.int .i64 f.type, .int .i64 f.flags, .int .i64 f.stream, .string f.data, .int .i64 f.pad, .slice sa f.sets.length sc, .int .i64 f.code, .int .i64 f.last, .int .i64 f.inc, .int .i64 f.dep, .int .i64 f.weight, .bool f.sole] 40 (0, 0)) := by rw [hw12]; exact heap_setCell_same w11 rv 11 _ _ (.bool f.sole) k10
  have b11 : Below B w0 w12 := by rw [hw12]; exact b10.setCell (p := ⟨rv, 11, none⟩) hle _
  have o11 : ∀ k, k ≠ rv → w12.heap[k]? = w.heap[k]? := fun k hk => by rw [hw12]; exact (Below.heap_setCell w11 ⟨rv, 11, none⟩ _ k hk).trans (o10 k hk)
  refine ⟨w12, ?_, k11, b11, o11⟩
  rw [hw12, hw11, hw10, hw9, hw8, hw7, hw6, hw5, hw4, hw3, hw2, hw1]
theorem fr_cells {w : World} {rv : Nat} {f : FrM} {sa : Option Addr} {sc : Nat} (h : Fb rv f sa sc w) :
    w.cell? ⟨rv, 0, none⟩ = some (.int .i64 f.type) ∧ w.cell? ⟨rv, 1, none⟩ = some (.int .i64 f.flags) ∧ w.cell? ⟨rv, 2, none⟩ = some (.int .i64 f.stream) ∧ w.cell? ⟨rv, 3, none⟩ = some (.string f.data) ∧ w.cell? ⟨rv, 4, none⟩ = some (.int .i64 f.pad) ∧ w.cell? ⟨rv, 5, none⟩ = some (.slice sa f.sets.length sc) ∧ w.cell? ⟨rv, 6, none⟩ = some (.int .i64 f.code) ∧ w.cell? ⟨rv, 7, none⟩ = some (.int .i64 f.last) ∧ w.cell? ⟨rv, 8, none⟩ = some (.int .i64 f.inc) ∧ w.cell? ⟨rv, 9, none⟩ = some (.int .i64 f.dep) ∧ w.cell? ⟨rv, 10, none⟩ = some (.int .i64 f.weight) ∧ w.cell? ⟨rv, 11, none⟩ = some (.bool f.sole) :=
  ⟨h.cellz 0, h.cellz 1, h.cellz 2, h.cellz 3, h.cellz 4, h.cellz 5, h.cellz 6, h.cellz 7, h.cellz 8, h.cellz 9, h.cellz 10, h.cellz 11⟩

set_option maxRecDepth 100000 in
set_option maxHeartbeats 4000000 in
theorem phd_any {W : World} (l : List UInt8) (ad : Option Addr) (cap : Nat) (w : World) (hbel : Below W.heap.size W w) (hr : RB W ad l) (hc : l.length ≤ cap) (hm : cap ≤ maxLen) (h9 : 9 ≤ l.length) :
    Calls Tryd.prog 36 #[.slice ad l.length cap] w fun e w' => e = .returned (.tuple #[frV (hdrF (at' (l.drop 3) 0 1) (at' (l.drop 4) 0 1) (at' (l.drop 5) 0 4 % 2147483648)) none 0, .int .i64 (at' l 0 3)]) ∧ Below w.heap.size w w' := by
  have B1 := bel_al w (.cells #[.int .i64 0, .int .i64 0, .int .i64 0, .string ⟨#[]⟩, .int .i64 0, .slice none 0 0, .int .i64 0, .int .i64 0, .int .i64 0, .int .i64 0, .int .i64 0, .bool false] 40)
  have res1 := heap_alloc_new w (.cells #[.int .i64 0, .int .i64 0, .int .i64 0, .string ⟨#[]⟩, .int .i64 0, .slice none 0 0, .int .i64 0, .int .i64 0, .int .i64 0, .int .i64 0, .int .i64 0, .bool false] 40)
  have hs1 : (w.alloc (.cells #[.int .i64 0, .int .i64 0, .int .i64 0, .string ⟨#[]⟩, .int .i64 0, .slice none 0 0, .int .i64 0, .int .i64 0, .int .i64 0, .int .i64 0, .int .i64 0, .bool false] 40)).heap.size = w.heap.size + 1 := by simp
  have R2 := Rd.start (below_step hbel B1) hr hc hm
  rw [hs1] at R2
  have B2 := bel_al (w.alloc (.cells #[.int .i64 0, .int .i64 0, .int .i64 0, .string ⟨#[]⟩, .int .i64 0, .slice none 0 0, .int .i64 0, .int .i64 0, .int .i64 0, .int .i64 0, .int .i64 0, .bool false] 40)) (.cells #[.slice ad l.length cap] 80)
  have res2 := block_below B2 res1
  have HB2 := Lib.hid (below_step B1 B2)
  have HR2 := Lib.hid R2
  have Hres2 := Lib.hid res2
  have HN3 := Lib.hid (fun v (hv : Rd W (w.heap.size + 1) l v) => rnum_any 3 v hv (by decide) (by decide) (by omega))
  have HN1 := Lib.hid (fun v (hv : Rd W (w.heap.size + 1) (l.drop 3) v) => rnum_any 1 v hv (by decide) (by decide) (by simp; omega))
  have HN2 := Lib.hid (fun v (hv : Rd W (w.heap.size + 1) (l.drop 4) v) => rnum_any 1 v hv (by decide) (by decide) (by simp; omega))
  have HN4 := Lib.hid (fun v (hv : Rd W (w.heap.size + 1) (l.drop 5) v) => rlow_any v hv (by simp; omega))
  have e1 := at_bd l 0 3 (by decide)
  have e2 := at_bd (l.drop 3) 0 1 (by decide)
  have e3 := at_bd (l.drop 4) 0 1 (by decide)
  rw [show (l.drop 3).drop 1 = l.drop 4 from by rw [List.drop_drop]] at HN1
  rw [show (l.drop 4).drop 1 = l.drop 5 from by rw [List.drop_drop]] at HN2
  generalize at' l 0 3 = N at *
  generalize at' (l.drop 3) 0 1 = T at *
  generalize at' (l.drop 4) 0 1 = FL at *
  generalize at' (l.drop 5) 0 4 % 2147483648 = ST at *
  generalize l.length = n at *
  clear hbel hr hc hm B1 res1 hs1 R2 B2 res2
  go_enter Tryd.func36, Tryd.ntmps36
  go_wp2_with fail
  generalize (w.alloc (.cells #[.int .i64 0, .int .i64 0, .int .i64 0, .string ⟨#[]⟩, .int .i64 0, .slice none 0 0, .int .i64 0, .int .i64 0, .int .i64 0, .int .i64 0, .int .i64 0, .bool false] 40)).alloc (.cells #[.slice ad n cap] 80) = w2 at HB2 HR2 Hres2 ⊢
  obtain ⟨rv, hrv⟩ : ∃ rv, rv = w.heap.size := ⟨_, rfl⟩
  have HRv := Lib.hid hrv
  rw [← hrv] at HR2 Hres2 HN3 HN1 HN2 HN4 ⊢
  have Q2 : Hid (Kept [] w w2) := Lib.hid (Kept.of_below HB2.out)
  have V2 : Hid (Fb rv noFr none 0 w2) := Lib.hid Hres2.out
  clear hrv Hres2
  refine (HN3.out w2 HR2.out).mono ?_
  rintro e w3 ⟨rfl, r3, k3⟩
  have R3 := Lib.hid r3
  have V3 := Lib.hid (V2.out.kept k3 (by simp))
  have Q3 := Lib.hid (Q2.out.trans k3 (fun i hi => by have := HRv.out; simp at hi; right; omega))
  have hrb3 : rv + 1 < w3.heap.size := r3.lt
  have F4 : Hid (Fb w3.heap.size noFr none 0 (w3.alloc (.cells #[.int .i64 0, .int .i64 0, .int .i64 0, .string ⟨#[]⟩, .int .i64 0, .slice none 0 0, .int .i64 0, .int .i64 0, .int .i64 0, .int .i64 0, .int .i64 0, .bool false] 40))) := Lib.hid (heap_alloc_new w3 _)
  have R4 := Lib.hid (R3.out.kept (Kept.of_below (bel_al w3 (.cells #[.int .i64 0, .int .i64 0, .int .i64 0, .string ⟨#[]⟩, .int .i64 0, .slice none 0 0, .int .i64 0, .int .i64 0, .int .i64 0, .int .i64 0, .int .i64 0, .bool false] 40)) (L := [])) (by simp))
  have V4 := Lib.hid (V3.out.kept (Kept.of_below (bel_al w3 (.cells #[.int .i64 0, .int .i64 0, .int .i64 0, .string ⟨#[]⟩, .int .i64 0, .slice none 0 0, .int .i64 0, .int .i64 0, .int .i64 0, .int .i64 0, .int .i64 0, .bool false] 40)) (L := [])) (by simp))
  have Q4 := Lib.hid (Q3.out.alloc (.cells #[.int .i64 0, .int .i64 0, .int .i64 0, .string ⟨#[]⟩, .int .i64 0, .slice none 0 0, .int .i64 0, .int .i64 0, .int .i64 0, .int .i64 0, .int .i64 0, .bool false] 40))
  have hw3 := Q3.out.size
  clear r3 k3
  go_wp2_with fail
  generalize w3.alloc (.cells #[.int .i64 0, .int .i64 0, .int .i64 0, .string ⟨#[]⟩, .int .i64 0, .slice none 0 0, .int .i64 0, .int .i64 0, .int .i64 0, .int .i64 0, .int .i64 0, .bool false] 40) = w4 at F4 R4 V4 Q4 ⊢
  obtain ⟨fb, hfb⟩ : ∃ fb, fb = w3.heap.size := ⟨_, rfl⟩
  rw [← hfb] at F4 hrb3 hw3 ⊢
  clear hfb
  refine (HN1.out w4 R4.out).mono ?_
  rintro e w5 ⟨rfl, r5, k5⟩
  have F5 := Lib.hid (F4.out.kept k5 (by simp; omega))
  have V5 := Lib.hid (V4.out.kept k5 (by simp))
  have Q5 := Lib.hid (Q4.out.trans k5 (fun i hi => by have := HRv.out; simp at hi; right; omega))
  have z0 := F5.out.thaw 0
  have y0 : w5.cell? ⟨fb, 0, none⟩ = some (.int .i64 0) := F5.out.cellz 0
  have k6 := (Kept.refl [fb] w5).setCell (p := ⟨fb, 0, none⟩) (.inl (by simp)) (.int .i64 T)
  have F6 := Lib.hid (F5.out.set (f' := { noFr with type := T }) 0 (.int .i64 T) rfl)
  have R6 := Lib.hid (r5.kept k6 (by have := HRv.out; have := hw3; have := R3.out.lo; have := R3.out.bel.size; simp; omega))
  have V6 := Lib.hid (V5.out.kept k6 (by simp; omega))
  have Q6 := Lib.hid (Q5.out.trans k6 (fun i hi => by simp at hi; right; omega))
  clear r5 k5 k6
  go_wp2_with fail
  generalize w5.setCell ⟨fb, 0, none⟩ (.int .i64 T) = w6 at F6 R6 V6 Q6 ⊢
  refine (HN2.out w6 R6.out).mono ?_
  rintro e w7 ⟨rfl, r7, k7⟩
  have F7 := Lib.hid (F6.out.kept k7 (by simp; omega))
  have V7 := Lib.hid (V6.out.kept k7 (by simp))
  have Q7 := Lib.hid (Q6.out.trans k7 (fun i hi => by have := HRv.out; simp at hi; right; omega))
  have z1 := F7.out.thaw 1
  have y1 : w7.cell? ⟨fb, 1, none⟩ = some (.int .i64 0) := F7.out.cellz 1
  have k8 := (Kept.refl [fb] w7).setCell (p := ⟨fb, 1, none⟩) (.inl (by simp)) (.int .i64 FL)
  have F8 := Lib.hid (F7.out.set (f' := { noFr with type := T, flags := FL }) 1 (.int .i64 FL) rfl)
  have R8 := Lib.hid (r7.kept k8 (by have := HRv.out; have := hw3; have := R3.out.lo; have := R3.out.bel.size; simp; omega))
  have V8 := Lib.hid (V7.out.kept k8 (by simp; omega))
  have Q8 := Lib.hid (Q7.out.trans k8 (fun i hi => by simp at hi; right; omega))
  clear r7 k7 k8 z0 y0
  go_wp2_with fail
  generalize w7.setCell ⟨fb, 1, none⟩ (.int .i64 FL) = w8 at F8 R8 V8 Q8 ⊢
  refine (HN4.out w8 R8.out).mono ?_
  rintro e w9 ⟨rfl, r9, k9⟩
  have F9 := Lib.hid (F8.out.kept k9 (by simp; omega))
  have V9 := Lib.hid (V8.out.kept k9 (by simp))
  have Q9 := Lib.hid (Q8.out.trans k9 (fun i hi => by have := HRv.out; simp at hi; right; omega))
  have z2 := F9.out.thaw 2
  have y2 : w9.cell? ⟨fb, 2, none⟩ = some (.int .i64 0) := F9.out.cellz 2
  have k10 := (Kept.refl [fb] w9).setCell (p := ⟨fb, 2, none⟩) (.inl (by simp)) (.int .i64 ST)
  have F10 := Lib.hid (F9.out.set (f' := hdrF T FL ST) 2 (.int .i64 ST) rfl)
  have V10 := Lib.hid (V9.out.kept k10 (by simp; omega))
  have Q10 := Lib.hid (Q9.out.trans k10 (fun i hi => by simp at hi; right; omega))
  have B10 : Hid (Below w.heap.size w (w9.setCell ⟨fb, 2, none⟩ (.int .i64 ST))) := Lib.hid (Kept.below (Below.refl _ w) Q10.out (by simp) (Nat.le_refl _))
  obtain ⟨a0, a1, a2, a3, a4, a5, a6, a7, a8, a9, a10, a11⟩ := fr_cells F10.out
  obtain ⟨c0, c1, c2, c3, c4, c5, c6, c7, c8, c9, c10, c11⟩ := fr_cells V10.out
  have t0 := V10.out.thaw 0
  have t1 := V10.out.thaw 1
  have t2 := V10.out.thaw 2
  have t3 := V10.out.thaw 3
  have t4 := V10.out.thaw 4
  have t5 := V10.out.thaw 5
  have t6 := V10.out.thaw 6
  have t7 := V10.out.thaw 7
  have t8 := V10.out.thaw 8
  have t9 := V10.out.thaw 9
  have t10 := V10.out.thaw 10
  have t11 := V10.out.thaw 11
  obtain ⟨w11, hw11, F11, B11, _⟩ := fr_ret B10.out (by have := HRv.out; omega) V10.out (hdrF T FL ST) none 0
  have HW11 := Lib.hid hw11
  have HF11 := Lib.hid F11
  have HB11 := Lib.hid B11
  clear r9 k9 k10 z1 y1 hw11 F11 B11
  go_wp2_with fail
  rw [HW11.out]
  obtain ⟨x0, x1, x2, x3, x4, x5, x6, x7, x8, x9, x10, x11⟩ := fr_cells HF11.out
  clear a0 a1 a2 a3 a4 a5 a6 a7 a8 a9 a10 a11 c0 c1 c2 c3 c4 c5 c6 c7 c8 c9 c10 c11 t0 t1 t2 t3 t4 t5 t6 t7 t8 t9 t10 t11
  refine bodyPost_ret (v := .tuple #[frV (hdrF T FL ST) none 0, .int .i64 N]) ?_ rfl ?_
  · simp [results, Tryd.results36, go_sem, frV, frC, x0, x1, x2, x3, x4, x5, x6, x7, x8, x9, x10, x11]
  · exact ⟨rfl, HB11.out⟩
end Go.Proofs.YtglhdlkmgmbgeaaDoor

namespace Go.Proofs.YtglhdlkmgmbgeaaDoor
open Go.RowKit
open Fra Oct Arg Mem Gen Qu Go.Proofs.YtglhdlkmgmbgeaaDoor.Obj
set_option linter.unusedVariables false
set_option linter.unusedSimpArgs false

set_option maxHeartbeats 4000000 in
theorem two_ret {B : Nat} {w0 w : World} {rv rx : Nat} {f0 : FrM} {sa0 : Option Addr} {sc0 : Nat} {u0 u1 u2 : Value} (hB : Below B w0 w) (hv : B ≤ rv) (hx : B ≤ rx) (V : Fb rv f0 sa0 sc0 w) (X : w.heap[rx]? = some (.cells #[u0, u1, u2] 37 (0, 0))) (hne : rx ≠ rv) (f : FrM) (sa : Option Addr) (sc : Nat) (x : FaM) :
    ∃ w2, ((((((((((((w).setCell ⟨rv, 0, none⟩ (.int .i64 f.type)).setCell ⟨rv, 1, none⟩ (.int .i64 f.flags)).setCell ⟨rv, 2, none⟩ (.int .i64 f.stream)).setCell ⟨rv, 3, none⟩ (.string f.data)).setCell ⟨rv, 4, none⟩ (.int .i64 f.pad)).setCell ⟨rv, 5, none⟩ (.slice sa f.sets.length sc)).setCell ⟨rv, 6, none⟩ (.int .i64 f.code)).setCell ⟨rv, 7, none⟩ (.int .i64 f.last)).setCell ⟨rv, 8, none⟩ (.int .i64 f.inc)).setCell ⟨rv, 9, none⟩ (.int .i64 f.dep)).setCell ⟨rv, 10, none⟩ (.int .i64 f.weight)).setCell ⟨rv, 11, none⟩ (.bool f.sole) = w2 ∧ (w2.cell? ⟨rx, 0, none⟩ = some u0 ∧ w2.frozen? ⟨rx, 0, none⟩ = false ∧ w2.cell? ⟨rx, 1, none⟩ = some u1 ∧ w2.frozen? ⟨rx, 1, none⟩ = false ∧ w2.cell? ⟨rx, 2, none⟩ = some u2 ∧ w2.frozen? ⟨rx, 2, none⟩ = false) ∧
    ∃ w', ((w2.setCell ⟨rx, 0, none⟩ (.bool x.is)).setCell ⟨rx, 1, none⟩ (.int .i64 x.code)).setCell ⟨rx, 2, none⟩ (.int .i64 x.stream) = w' ∧ Fb rv f sa sc w' ∧ w'.heap[rx]? = some (.cells #[.bool x.is, .int .i64 x.code, .int .i64 x.stream] 37 (0, 0)) ∧ Below B w0 w' ∧ ∀ k, k ≠ rv → k ≠ rx → w'.heap[k]? = w.heap[k]? := by
  obtain ⟨w2, h2, F2, B2, o2⟩ := fr_ret hB hv V f sa sc
  have X2 := (o2 rx hne).trans X
  obtain ⟨w3, h3, X3, B3⟩ := fa_ret B2 hx X2 (.bool x.is) (.int .i64 x.code) (.int .i64 x.stream)
  have o3 : ∀ k, k ≠ rx → w3.heap[k]? = w2.heap[k]? := fun k hk => by
    rw [← h3]
    exact (Below.heap_setCell _ ⟨rx, 2, none⟩ _ k hk).trans ((Below.heap_setCell _ ⟨rx, 1, none⟩ _ k hk).trans (Below.heap_setCell _ ⟨rx, 0, none⟩ _ k hk))
  exact ⟨w2, h2, ⟨cell_at X2 0, frozen_of_row _ _ 0 _ _ X2, cell_at X2 1, frozen_of_row _ _ 1 _ _ X2, cell_at X2 2, frozen_of_row _ _ 2 _ _ X2⟩, w3, h3, (o3 rv (fun e => hne e.symm)).trans F2, X3, B3, fun k h1 h2 => (o3 k h2).trans (o2 k h1)⟩

set_option maxRecDepth 100000 in
set_option maxHeartbeats 2000000 in
theorem take_r0 {Q : Exit → Act → World → Prop} {n cap : Nat} {ad : Option Addr} {most : Int}  (a : Act) (w : World) 
    (ha : Fr.Is 53 [(0, .slice ad n cap), (1, .int .i64 most)] a)
    (hQ : Hid (∀ a' , Fr.Is 53 [(0, .slice ad n cap), (1, .int .i64 most), (4, .pointer (some ⟨w.heap.size, 0, none⟩)), (6, .pointer (some ⟨w.heap.size + 1, 0, none⟩))] a' → Q .normal a' ((w.alloc (.cells #[.int .i64 0, .int .i64 0, .int .i64 0, .string ⟨#[]⟩, .int .i64 0, .slice none 0 0, .int .i64 0, .int .i64 0, .int .i64 0, .int .i64 0, .int .i64 0, .bool false] 40)).alloc (.cells #[.bool false, .int .i64 0, .int .i64 0] 37)))) :
    (Fr.reg Tryd.f34 0).wp Tryd.prog Q a w := by
  obtain ⟨fr, rfl, hfr⟩ := ha.lit
  simp only [List.map_cons, List.map_nil, List.cons.injEq, and_true] at hfr
  conv => arg 2; whnf
  simp only [List.range, List.range.loop, List.map_cons, List.map_nil, hfr]
  clear hfr ha
  go_wp2_with fail
  exact hQ.out _ (Fr.Is.mk rfl rfl)

set_option maxRecDepth 100000 in
set_option maxHeartbeats 2000000 in
theorem take_r1 {Q : Exit → Act → World → Prop} {rv rx n cap : Nat} {ad : Option Addr} {most : Int}  (a : Act) (w : World) 
    (ha : Fr.Is 53 [(0, .slice ad n cap), (1, .int .i64 most), (4, .pointer (some ⟨rv, 0, none⟩)), (6, .pointer (some ⟨rx, 0, none⟩))] a)
    (hQ : Hid (∀ a' , Fr.Is 53 [(0, .slice ad n cap), (1, .int .i64 most), (4, .pointer (some ⟨rv, 0, none⟩)), (6, .pointer (some ⟨rx, 0, none⟩)), (12, .bool (decide ((n : Int) < 9)))] a' → Q .normal a' w)) :
    (Fr.reg Tryd.f34 1).wp Tryd.prog Q a w := by
  obtain ⟨fr, rfl, hfr⟩ := ha.lit
  simp only [List.map_cons, List.map_nil, List.cons.injEq, and_true] at hfr
  conv => arg 2; whnf
  simp only [List.range, List.range.loop, List.map_cons, List.map_nil, hfr]
  clear hfr ha
  go_wp2_with fail
  exact hQ.out _ (Fr.Is.mk rfl rfl)

set_option maxRecDepth 100000 in
set_option maxHeartbeats 2000000 in
theorem take_r4 {Q : Exit → Act → World → Prop} {rv rx n cap fb : Nat} {ad : Option Addr} {most : Int} {N : Int} (a : Act) (w : World) 
    (ha : Fr.Is 53 [(0, .slice ad n cap), (1, .int .i64 most), (4, .pointer (some ⟨rv, 0, none⟩)), (6, .pointer (some ⟨rx, 0, none⟩)), (7, .pointer (some ⟨fb, 0, none⟩)), (8, .int .i64 N)] a)
    (hQ : Hid (∀ a' , Fr.Is 53 [(0, .slice ad n cap), (1, .int .i64 most), (4, .pointer (some ⟨rv, 0, none⟩)), (6, .pointer (some ⟨rx, 0, none⟩)), (7, .pointer (some ⟨fb, 0, none⟩)), (8, .int .i64 N), (22, .bool (decide (N > most)))] a' → Q .normal a' w)) :
    (Fr.reg Tryd.f34 4).wp Tryd.prog Q a w := by
  obtain ⟨fr, rfl, hfr⟩ := ha.lit
  simp only [List.map_cons, List.map_nil, List.cons.injEq, and_true] at hfr
  conv => arg 2; whnf
  simp only [List.range, List.range.loop, List.map_cons, List.map_nil, hfr]
  clear hfr ha
  go_wp2_with fail
  exact hQ.out _ (Fr.Is.mk rfl rfl)

set_option maxRecDepth 100000 in
set_option maxHeartbeats 2000000 in
theorem take_r6 {Q : Exit → Act → World → Prop} {rv rx n cap fb : Nat} {ad : Option Addr} {most : Int} {N : Int} (a : Act) (w : World) (h0 : 0 ≤ N) (h1 : N ≤ 16777215)
    (ha : Fr.Is 53 [(0, .slice ad n cap), (1, .int .i64 most), (4, .pointer (some ⟨rv, 0, none⟩)), (6, .pointer (some ⟨rx, 0, none⟩)), (7, .pointer (some ⟨fb, 0, none⟩)), (8, .int .i64 N)] a)
    (hQ : Hid (∀ a' , Fr.Is 53 [(0, .slice ad n cap), (1, .int .i64 most), (4, .pointer (some ⟨rv, 0, none⟩)), (6, .pointer (some ⟨rx, 0, none⟩)), (7, .pointer (some ⟨fb, 0, none⟩)), (8, .int .i64 (9 + N))] a' → Q .normal a' w)) :
    (Fr.reg Tryd.f34 6).wp Tryd.prog Q a w := by
  obtain ⟨fr, rfl, hfr⟩ := ha.lit
  simp only [List.map_cons, List.map_nil, List.cons.injEq, and_true] at hfr
  conv => arg 2; whnf
  simp only [List.range, List.range.loop, List.map_cons, List.map_nil, hfr]
  clear hfr ha
  have hw : IntKind.i64.wrap (N + 9) = 9 + N := by rw [IntWalk.i64_in _ (by omega)]; omega
  go_wp2_with fail
  exact hQ.out _ (Fr.Is.mk rfl (by simp [Int.add_comm]))

set_option maxRecDepth 100000 in
set_option maxHeartbeats 2000000 in
theorem take_r7 {Q : Exit → Act → World → Prop} {rv rx n cap fb : Nat} {ad : Option Addr} {most : Int} {N : Int} (a : Act) (w : World) 
    (ha : Fr.Is 53 [(0, .slice ad n cap), (1, .int .i64 most), (4, .pointer (some ⟨rv, 0, none⟩)), (6, .pointer (some ⟨rx, 0, none⟩)), (7, .pointer (some ⟨fb, 0, none⟩)), (8, .int .i64 (9 + N))] a)
    (hQ : Hid (∀ a' , Fr.Is 53 [(0, .slice ad n cap), (1, .int .i64 most), (4, .pointer (some ⟨rv, 0, none⟩)), (6, .pointer (some ⟨rx, 0, none⟩)), (7, .pointer (some ⟨fb, 0, none⟩)), (8, .int .i64 (9 + N)), (30, .bool (decide (9 + N > (n : Int))))] a' → Q .normal a' w)) :
    (Fr.reg Tryd.f34 7).wp Tryd.prog Q a w := by
  obtain ⟨fr, rfl, hfr⟩ := ha.lit
  simp only [List.map_cons, List.map_nil, List.cons.injEq, and_true] at hfr
  conv => arg 2; whnf
  simp only [List.range, List.range.loop, List.map_cons, List.map_nil, hfr]
  clear hfr ha
  go_wp2_with fail
  exact hQ.out _ (Fr.Is.mk rfl rfl)

set_option maxRecDepth 100000 in
set_option maxHeartbeats 4000000 in
theorem take_r2 {Q : Exit → Act → World → Prop} {rv rx n cap : Nat} {ad : Option Addr} {most : Int} {w0 : World} {B : Nat}  (a : Act) (w : World) (hB : Below B w0 w) (hv : B ≤ rv) (hx : B ≤ rx) (V : Fb rv noFr none 0 w) (X : w.heap[rx]? = some (Obj.cells #[.bool false, .int .i64 0, .int .i64 0] 37 (0, 0))) (hne : rx ≠ rv) 
    (ha : Fr.Is 53 [(0, .slice ad n cap), (1, .int .i64 most), (4, .pointer (some ⟨rv, 0, none⟩)), (6, .pointer (some ⟨rx, 0, none⟩))] a)
    (hQ : Hid (∀ a' w', Fr.Is 53 [(4, .pointer (some ⟨rv, 0, none⟩)), (5, .int .i64 0), (6, .pointer (some ⟨rx, 0, none⟩))] a' → Fb rv noFr none 0 w' → w'.heap[rx]? = some (Obj.cells #[.bool noFa.is, .int .i64 noFa.code, .int .i64 noFa.stream] 37 (0, 0)) → Below B w0 w' → (∀ k, k ≠ rv → k ≠ rx → w'.heap[k]? = w.heap[k]?) → Q .normal a' w')) :
    (Fr.reg Tryd.f34 2).wp Tryd.prog Q a w := by
  obtain ⟨fr, rfl, hfr⟩ := ha.lit
  simp only [List.map_cons, List.map_nil, List.cons.injEq, and_true] at hfr
  conv => arg 2; whnf
  simp only [List.range, List.range.loop, List.map_cons, List.map_nil, hfr]
  clear hfr ha
  obtain ⟨w2, h2, _, w3, h3, F3, X3, B3, o3⟩ := two_ret hB hv hx V X hne noFr none 0 noFa
  obtain ⟨c0, c1, c2, c3, c4, c5, c6, c7, c8, c9, c10, c11⟩ := fr_cells V
  have t0 := V.thaw 0
  have t1 := V.thaw 1
  have t2 := V.thaw 2
  have t3 := V.thaw 3
  have t4 := V.thaw 4
  have t5 := V.thaw 5
  have t6 := V.thaw 6
  have t7 := V.thaw 7
  have t8 := V.thaw 8
  have t9 := V.thaw 9
  have t10 := V.thaw 10
  have t11 := V.thaw 11
  subst h2
  subst h3
  have HE := Lib.hid (And.intro F3 (And.intro X3 (And.intro B3 o3)))
  obtain ⟨d0, d1, d2⟩ := fa_cells X
  have s0 := frozen_of_row _ _ 0 _ _ X
  have s1 := frozen_of_row _ _ 1 _ _ X
  have s2 := frozen_of_row _ _ 2 _ _ X
  have hne2 : rv ≠ rx := fun e => hne e.symm
  clear F3 X3 B3 o3 V X hB
  go_wp2_with fail
  exact hQ.out _ _ (Fr.Is.mk rfl rfl) HE.out.1 HE.out.2.1 HE.out.2.2.1 HE.out.2.2.2

set_option maxRecDepth 100000 in
set_option maxHeartbeats 4000000 in
theorem take_r8 {Q : Exit → Act → World → Prop} {rv rx n cap : Nat} {ad : Option Addr} {most : Int} {w0 : World} {B : Nat}  (a : Act) (w : World) (hB : Below B w0 w) (hv : B ≤ rv) (hx : B ≤ rx) (V : Fb rv noFr none 0 w) (X : w.heap[rx]? = some (Obj.cells #[.bool false, .int .i64 0, .int .i64 0] 37 (0, 0))) (hne : rx ≠ rv) 
    (ha : Fr.Is 53 [(0, .slice ad n cap), (1, .int .i64 most), (4, .pointer (some ⟨rv, 0, none⟩)), (6, .pointer (some ⟨rx, 0, none⟩))] a)
    (hQ : Hid (∀ a' w', Fr.Is 53 [(4, .pointer (some ⟨rv, 0, none⟩)), (5, .int .i64 0), (6, .pointer (some ⟨rx, 0, none⟩))] a' → Fb rv noFr none 0 w' → w'.heap[rx]? = some (Obj.cells #[.bool noFa.is, .int .i64 noFa.code, .int .i64 noFa.stream] 37 (0, 0)) → Below B w0 w' → (∀ k, k ≠ rv → k ≠ rx → w'.heap[k]? = w.heap[k]?) → Q .normal a' w')) :
    (Fr.reg Tryd.f34 8).wp Tryd.prog Q a w := by
  obtain ⟨fr, rfl, hfr⟩ := ha.lit
  simp only [List.map_cons, List.map_nil, List.cons.injEq, and_true] at hfr
  conv => arg 2; whnf
  simp only [List.range, List.range.loop, List.map_cons, List.map_nil, hfr]
  clear hfr ha
  obtain ⟨w2, h2, _, w3, h3, F3, X3, B3, o3⟩ := two_ret hB hv hx V X hne noFr none 0 noFa
  obtain ⟨c0, c1, c2, c3, c4, c5, c6, c7, c8, c9, c10, c11⟩ := fr_cells V
  have t0 := V.thaw 0
  have t1 := V.thaw 1
  have t2 := V.thaw 2
  have t3 := V.thaw 3
  have t4 := V.thaw 4
  have t5 := V.thaw 5
  have t6 := V.thaw 6
  have t7 := V.thaw 7
  have t8 := V.thaw 8
  have t9 := V.thaw 9
  have t10 := V.thaw 10
  have t11 := V.thaw 11
  subst h2
  subst h3
  have HE := Lib.hid (And.intro F3 (And.intro X3 (And.intro B3 o3)))
  obtain ⟨d0, d1, d2⟩ := fa_cells X
  have s0 := frozen_of_row _ _ 0 _ _ X
  have s1 := frozen_of_row _ _ 1 _ _ X
  have s2 := frozen_of_row _ _ 2 _ _ X
  have hne2 : rv ≠ rx := fun e => hne e.symm
  clear F3 X3 B3 o3 V X hB
  go_wp2_with fail
  exact hQ.out _ _ (Fr.Is.mk rfl rfl) HE.out.1 HE.out.2.1 HE.out.2.2.1 HE.out.2.2.2

end Go.Proofs.YtglhdlkmgmbgeaaDoor

namespace Go.Proofs.YtglhdlkmgmbgeaaDoor
open Go.RowKit
open Fra Oct Arg Mem Gen Qu Go.Proofs.YtglhdlkmgmbgeaaDoor.Obj
set_option linter.unusedVariables false
set_option linter.unusedSimpArgs false

set_option maxHeartbeats 4000000 in
theorem step_frame {ops : Array Oper} {K : Act → World → Prop} {Ee : Prop} {Q : Exit → Act → World → Prop} {o : Oper} {a : Act} {w : World} {rv : Nat} {f0 : FrM} {sa0 : Option Addr} {sc0 : Nat} (hgd : o.guard = none) (p v : Nat) (ho : o.op = .store 40 (.tmp p) (.tmp v))
    (hp : a.eval (.tmp p) = .pointer (some ⟨rv, 0, none⟩)) (f : FrM) (sa : Option Addr) (sc : Nat) (hv : a.eval (.tmp v) = .agg #[.int .i64 f.type, .int .i64 f.flags, .int .i64 f.stream, .string f.data, .int .i64 f.pad, .slice sa f.sets.length sc, .int .i64 f.code, .int .i64 f.last, .int .i64 f.inc, .int .i64 f.dep, .int .i64 f.weight, .bool f.sole]) (V : Fb rv f0 sa0 sc0 w)
    (hK : ∀ w2, Hid (Fb rv f sa sc w2 ∧ Kept [rv] w w2) → K (a.put o.dst undef) w2) :
    if Region.wanted o (yielded ops a.tmps) = true then Oper.wp Tryd.prog o a w K Q else Ee := by
  have hw : Region.wanted o (yielded ops a.tmps) = true := by simp [Region.wanted, hgd]
  rw [if_pos hw]
  obtain ⟨w2, h2, F2, b2, o2⟩ := fr_ret (B := 0) (Below.refl 0 w) (Nat.zero_le _) V f sa sc
  have HF := Lib.hid F2
  have HO : Hid (Kept [rv] w w2) := Lib.hid ⟨b2.os, b2.tape, b2.output, b2.size, fun k hk hn => o2 k (by simpa using hn)⟩
  have H2 := Lib.hid h2
  have HK := Lib.hid (hK w2)
  obtain ⟨c0, c1, c2, c3, c4, c5, c6, c7, c8, c9, c10, c11⟩ := fr_cells V
  have t0 := V.thaw 0
  have t1 := V.thaw 1
  have t2 := V.thaw 2
  have t3 := V.thaw 3
  have t4 := V.thaw 4
  have t5 := V.thaw 5
  have t6 := V.thaw 6
  have t7 := V.thaw 7
  have t8 := V.thaw 8
  have t9 := V.thaw 9
  have t10 := V.thaw 10
  have t11 := V.thaw 11
  clear V F2 o2 b2 h2 hK
  have hp' : a.tmps[p]?.getD undef = .pointer (some ⟨rv, 0, none⟩) := by simpa [Act.eval] using hp
  have hv' : a.tmps[v]?.getD undef = .agg #[.int .i64 f.type, .int .i64 f.flags, .int .i64 f.stream, .string f.data, .int .i64 f.pad, .slice sa f.sets.length sc, .int .i64 f.code, .int .i64 f.last, .int .i64 f.inc, .int .i64 f.dep, .int .i64 f.weight, .bool f.sole] := by simpa [Act.eval] using hv
  unfold Oper.wp
  simp [execOp, ho, hp', hv', go_sem, c0, c1, c2, c3, c4, c5, c6, c7, c8, c9, c10, c11, t0, t1, t2, t3, t4, t5, t6, t7, t8, t9, t10, t11]
  rw [H2.out]
  exact HK.out (Lib.hid ⟨HF.out, HO.out⟩)
set_option maxHeartbeats 4000000 in
theorem step_fault {ops : Array Oper} {K : Act → World → Prop} {Ee : Prop} {Q : Exit → Act → World → Prop} {o : Oper} {a : Act} {w : World} {rx : Nat} {u0 u1 u2 : Value} (hgd : o.guard = none) (p v : Nat) (ho : o.op = .store 37 (.tmp p) (.tmp v))
    (hp : a.eval (.tmp p) = .pointer (some ⟨rx, 0, none⟩)) (x : FaM) (hv : a.eval (.tmp v) = .agg #[.bool x.is, .int .i64 x.code, .int .i64 x.stream]) (X : w.heap[rx]? = some (Obj.cells #[u0, u1, u2] 37 (0, 0)))
    (hK : ∀ w2, Hid (w2.heap[rx]? = some (Obj.cells #[.bool x.is, .int .i64 x.code, .int .i64 x.stream] 37 (0, 0)) ∧ Kept [rx] w w2) → K (a.put o.dst undef) w2) :
    if Region.wanted o (yielded ops a.tmps) = true then Oper.wp Tryd.prog o a w K Q else Ee := by
  have hw : Region.wanted o (yielded ops a.tmps) = true := by simp [Region.wanted, hgd]
  rw [if_pos hw]
  obtain ⟨w2, h2, X2, b2⟩ := fa_ret (B := 0) (Below.refl 0 w) (Nat.zero_le _) X (.bool x.is) (.int .i64 x.code) (.int .i64 x.stream)
  have hk : Kept [rx] w w2 := by
    rw [← h2]
    exact (((Kept.refl [rx] w).setCell (p := ⟨rx, 0, none⟩) (.inl (by simp)) _).setCell (p := ⟨rx, 1, none⟩) (.inl (by simp)) _).setCell (p := ⟨rx, 2, none⟩) (.inl (by simp)) _
  have H2 := Lib.hid h2
  have HK := Lib.hid (hK w2 (Lib.hid ⟨X2, hk⟩))
  obtain ⟨c0, c1, c2⟩ := fa_cells X
  have t0 := frozen_of_row _ _ 0 _ _ X
  have t1 := frozen_of_row _ _ 1 _ _ X
  have t2 := frozen_of_row _ _ 2 _ _ X
  have hp' : a.tmps[p]?.getD undef = .pointer (some ⟨rx, 0, none⟩) := by simpa [Act.eval] using hp
  have hv' : a.tmps[v]?.getD undef = .agg #[.bool x.is, .int .i64 x.code, .int .i64 x.stream] := by simpa [Act.eval] using hv
  clear X X2 b2 h2 hk hK
  unfold Oper.wp
  simp [execOp, ho, hp', hv', go_sem, c0, c1, c2, t0, t1, t2]
  rw [H2.out]
  exact HK.out
end Go.Proofs.YtglhdlkmgmbgeaaDoor

namespace Go.Proofs.YtglhdlkmgmbgeaaDoor
open Go.RowKit
open Fra Oct Arg Mem Gen Qu Go.Proofs.YtglhdlkmgmbgeaaDoor.Obj
set_option linter.unusedVariables false
set_option linter.unusedSimpArgs false

theorem run_mid {P : Program} {t e : TypeId} (ht : P.underlying t = some (.slice e)) {size : Nat} (hs : ∀ w, (sizeOf e).run P w = .ok size w) (a : Option Addr) (len cap k m : Nat) (h1 : k + m ≤ len) (h2 : len ≤ cap) (w : World) :
    (Instr.slice t (.slice a len cap) (some (.int .i64 k)) (some (.int .i64 ((k + m : Nat) : Int))) none).run P w = .ok (.slice (Sl.adOf a cap k size) m (cap - k)) w := by
  have h3 : k + m ≤ cap := by omega
  have h4 : (k : Int) ≤ ((k + m : Nat) : Int) := by omega
  have h5 : (0 : Int) ≤ (k : Int) + m ∧ (k : Int) + m ≤ cap := by omega
  have h6 : ((k : Int) + m).toNat = k + m := by omega
  have h7 : k ≤ k + m := by omega
  have h8 : k + m - k = m := by omega
  simp [Instr.slice, Instr.sliceBounds, Instr.sliceBound, asIntOf, run_underlying ht, hs, Result.andThen, h5, h6, h7, h8, Sl.adOf]

set_option maxRecDepth 100000 in
set_option maxHeartbeats 2000000 in
theorem take_r11 {Q : Exit → Act → World → Prop} {rv rx n cap fb xb : Nat} {ad : Option Addr} {most : Int} {N : Int} {x : FaM} (a : Act) (w : World) (hxb : w.heap[xb]? = some (Obj.cells #[.bool x.is, .int .i64 x.code, .int .i64 x.stream] 37 (0, 0)))
    (ha : Fr.Is 53 [(0, .slice ad n cap), (1, .int .i64 most), (4, .pointer (some ⟨rv, 0, none⟩)), (6, .pointer (some ⟨rx, 0, none⟩)), (7, .pointer (some ⟨fb, 0, none⟩)), (8, .int .i64 (9 + N)), (9, .pointer (some ⟨xb, 0, none⟩))] a)
    (hQ : Hid (∀ a' , Fr.Is 53 [(0, .slice ad n cap), (1, .int .i64 most), (4, .pointer (some ⟨rv, 0, none⟩)), (6, .pointer (some ⟨rx, 0, none⟩)), (7, .pointer (some ⟨fb, 0, none⟩)), (8, .int .i64 (9 + N)), (9, .pointer (some ⟨xb, 0, none⟩)), (40, .bool (!x.is))] a' → Q .normal a' w)) :
    (Fr.reg Tryd.f34 11).wp Tryd.prog Q a w := by
  obtain ⟨fr, rfl, hfr⟩ := ha.lit
  simp only [List.map_cons, List.map_nil, List.cons.injEq, and_true] at hfr
  conv => arg 2; whnf
  simp only [List.range, List.range.loop, List.map_cons, List.map_nil, hfr]
  clear hfr ha
  have e0 := cell_at hxb 0
  simp only [List.getElem?_toArray, List.getElem?_cons_zero] at e0
  go_wp2_with fail
  exact hQ.out _ (Fr.Is.mk rfl rfl)

set_option maxRecDepth 100000 in
set_option maxHeartbeats 2000000 in
theorem take_r13 {Q : Exit → Act → World → Prop} {rv rx n cap fb xb : Nat} {ad : Option Addr} {most : Int} {N : Int} {x : FaM} (a : Act) (w : World) (hxb : w.heap[xb]? = some (Obj.cells #[.bool x.is, .int .i64 x.code, .int .i64 x.stream] 37 (0, 0)))
    (ha : Fr.Is 53 [(0, .slice ad n cap), (1, .int .i64 most), (4, .pointer (some ⟨rv, 0, none⟩)), (6, .pointer (some ⟨rx, 0, none⟩)), (7, .pointer (some ⟨fb, 0, none⟩)), (8, .int .i64 (9 + N)), (9, .pointer (some ⟨xb, 0, none⟩))] a)
    (hQ : Hid (∀ a' , Fr.Is 53 [(0, .slice ad n cap), (1, .int .i64 most), (4, .pointer (some ⟨rv, 0, none⟩)), (6, .pointer (some ⟨rx, 0, none⟩)), (7, .pointer (some ⟨fb, 0, none⟩)), (8, .int .i64 (9 + N)), (9, .pointer (some ⟨xb, 0, none⟩)), (47, .bool (x.stream == 0))] a' → Q .normal a' w)) :
    (Fr.reg Tryd.f34 13).wp Tryd.prog Q a w := by
  obtain ⟨fr, rfl, hfr⟩ := ha.lit
  simp only [List.map_cons, List.map_nil, List.cons.injEq, and_true] at hfr
  conv => arg 2; whnf
  simp only [List.range, List.range.loop, List.map_cons, List.map_nil, hfr]
  clear hfr ha
  have e2 := cell_at hxb 2
  simp only [List.getElem?_toArray, List.getElem?_cons_zero, List.getElem?_cons_succ] at e2
  go_wp2_with fail
  exact hQ.out _ (Fr.Is.mk rfl rfl)

set_option maxRecDepth 100000 in
set_option maxHeartbeats 4000000 in
theorem take_r3 {Q : Exit → Act → World → Prop} {rv rx n cap : Nat} {ad : Option Addr} {most : Int} {f : FrM} {N : Int} (a : Act) (w : World) (HC : Hid (Calls Tryd.prog 36 #[.slice ad n cap] w fun e w' => e = .returned (.tuple #[frV f none 0, .int .i64 N]) ∧ Below w.heap.size w w'))
    (ha : Fr.Is 53 [(0, .slice ad n cap), (1, .int .i64 most), (4, .pointer (some ⟨rv, 0, none⟩)), (6, .pointer (some ⟨rx, 0, none⟩))] a)
    (hQ : Hid (∀ a' w1, Fr.Is 53 [(0, .slice ad n cap), (1, .int .i64 most), (4, .pointer (some ⟨rv, 0, none⟩)), (6, .pointer (some ⟨rx, 0, none⟩)), (7, .pointer (some ⟨w1.heap.size, 0, none⟩)), (8, .int .i64 N)] a' → Below w.heap.size w w1 → Q .normal a' (w1.alloc (.cells (frC f none 0) 40)))) :
    (Fr.reg Tryd.f34 3).wp Tryd.prog Q a w := by
  obtain ⟨fr, rfl, hfr⟩ := ha.lit
  simp only [List.map_cons, List.map_nil, List.cons.injEq, and_true] at hfr
  conv => arg 2; whnf
  simp only [List.range, List.range.loop, List.map_cons, List.map_nil, hfr]
  clear hfr ha
  unfold frV frC at HC
  unfold frC at hQ
  go_wp2_with (go_at_call 36; refine HC.out.mono ?_; rintro e w1 ⟨rfl, b1⟩)
  exact hQ.out _ w1 (Fr.Is.mk rfl rfl) b1

set_option maxRecDepth 100000 in
set_option maxHeartbeats 4000000 in
theorem take_r9 {Q : Exit → Act → World → Prop} {rv rx n cap fb k : Nat} {ad : Option Addr} {most : Int} {x : FaM} {R : World → Prop} (a : Act) (w : World) (hk : 9 + k ≤ n) (hc : n ≤ cap) (hb : cap ≤ 9223372036854775807) (HC : Hid (Calls Tryd.prog 38 #[.pointer (some ⟨fb, 0, none⟩), .slice (Sl.adOf ad cap 9 1) k (cap - 9)] w fun e w' => e = .returned (faV x) ∧ R w'))
    (ha : Fr.Is 53 [(0, .slice ad n cap), (1, .int .i64 most), (4, .pointer (some ⟨rv, 0, none⟩)), (6, .pointer (some ⟨rx, 0, none⟩)), (7, .pointer (some ⟨fb, 0, none⟩)), (8, .int .i64 (9 + (k : Int)))] a)
    (hQ : Hid (∀ a' w1, Fr.Is 53 [(0, .slice ad n cap), (1, .int .i64 most), (4, .pointer (some ⟨rv, 0, none⟩)), (6, .pointer (some ⟨rx, 0, none⟩)), (7, .pointer (some ⟨fb, 0, none⟩)), (8, .int .i64 (9 + (k : Int))), (9, .pointer (some ⟨w1.heap.size, 0, none⟩))] a' → R w1 → Q .normal a' (w1.alloc (.cells #[.bool x.is, .int .i64 x.code, .int .i64 x.stream] 37)))) :
    (Fr.reg Tryd.f34 9).wp Tryd.prog Q a w := by
  obtain ⟨fr, rfl, hfr⟩ := ha.lit
  simp only [List.map_cons, List.map_nil, List.cons.injEq, and_true] at hfr
  conv => arg 2; whnf
  simp only [List.range, List.range.loop, List.map_cons, List.map_nil, hfr]
  clear hfr ha
  unfold faV at HC
  have hsl := run_mid (P := Tryd.prog) (t := 24) Tryd.underlying24 (size := 1) size_by ad n cap 9 k hk hc
  rw [show (((9 + k : Nat) : Int)) = 9 + (k : Int) from by omega] at hsl
  by_cases hcap : cap = 9
  · subst hcap
    obtain rfl : k = 0 := by omega
    rw [Sl.adOf, if_pos rfl] at HC
    clear hsl
    go_wp2_with (go_at_call 38; refine HC.out.mono ?_; rintro e w1 ⟨rfl, b1⟩)
    exact hQ.out _ w1 (Fr.Is.mk rfl rfl) b1
  · rw [Sl.adOf, if_neg hcap] at HC
    clear hsl
    go_wp2_with (go_at_call 38; refine HC.out.mono ?_; rintro e w1 ⟨rfl, b1⟩)
    exact hQ.out _ w1 (Fr.Is.mk rfl rfl) b1
end Go.Proofs.YtglhdlkmgmbgeaaDoor

namespace Go.Proofs.YtglhdlkmgmbgeaaDoor
open Go.RowKit
open Fra Oct Arg Mem Gen Qu Go.Proofs.YtglhdlkmgmbgeaaDoor.Obj
set_option linter.unusedVariables false
set_option linter.unusedSimpArgs false

set_option maxRecDepth 100000 in
set_option maxHeartbeats 4000000 in
theorem take_r5 {Q : Exit → Act → World → Prop} {rv rx n cap : Nat} {ad : Option Addr} {most : Int}  (a : Act) (w : World) (V : Fb rv noFr none 0 w) (X : w.heap[rx]? = some (Obj.cells #[.bool false, .int .i64 0, .int .i64 0] 37 (0, 0))) (hne : rx ≠ rv)
    (ha : Fr.Is 53 [(0, .slice ad n cap), (1, .int .i64 most), (4, .pointer (some ⟨rv, 0, none⟩)), (6, .pointer (some ⟨rx, 0, none⟩))] a)
    (hQ : Hid (∀ a' w', Fr.Is 53 [(4, .pointer (some ⟨rv, 0, none⟩)), (5, .int .i64 0), (6, .pointer (some ⟨rx, 0, none⟩))] a' → Fb rv noFr none 0 w' → w'.heap[rx]? = some (Obj.cells #[.bool true, .int .i64 6, .int .i64 0] 37 (0, 0)) → Below 0 w w' → (∀ k, k ≠ rv → k ≠ rx → k < w.heap.size → w'.heap[k]? = w.heap[k]?) → Q .normal a' w')) :
    (Fr.reg Tryd.f34 5).wp Tryd.prog Q a w := by
  obtain ⟨fr, rfl, hfr⟩ := ha.lit
  simp only [List.map_cons, List.map_nil, List.cons.injEq, and_true] at hfr
  conv => arg 2; whnf
  simp only [List.range, List.range.loop, List.map_cons, List.map_nil, hfr]
  clear hfr ha
  have HV := Lib.hid V
  have HX := Lib.hid X
  have HP := Lib.hid (pfault_any 6 0 w)
  unfold faV at HP
  simp only at HP
  have hne2 : rv ≠ rx := fun e => hne e.symm
  clear V X
  go_wp2_with (go_at_call 37; refine HP.out.mono ?_; rintro e w1 ⟨rfl, b1⟩; have V1 := HV.out.kept (Kept.of_below b1 (L := [])) (by simp); have X1 := block_below b1 HX.out; obtain ⟨c0, c1, c2, c3, c4, c5, c6, c7, c8, c9, c10, c11⟩ := fr_cells V1; have t0 := V1.thaw 0; have t1 := V1.thaw 1; have t2 := V1.thaw 2; have t3 := V1.thaw 3; have t4 := V1.thaw 4; have t5 := V1.thaw 5; have t6 := V1.thaw 6; have t7 := V1.thaw 7; have t8 := V1.thaw 8; have t9 := V1.thaw 9; have t10 := V1.thaw 10; have t11 := V1.thaw 11; obtain ⟨d0, d1, d2⟩ := fa_cells X1; have s0 := frozen_of_row _ _ 0 _ _ X1; have s1 := frozen_of_row _ _ 1 _ _ X1; have s2 := frozen_of_row _ _ 2 _ _ X1; have HB1 := Lib.hid b1; have HV1 := Lib.hid V1; have HX1 := Lib.hid X1; clear V1 X1 b1)
  obtain ⟨w2, h2, _, w3, h3, F3, X3, B3, o3⟩ := two_ret (HB1.out.mono (Nat.zero_le _)) (Nat.zero_le _) (Nat.zero_le _) HV1.out HX1.out hne noFr none 0 ⟨true, 6, 0⟩
  subst h2
  subst h3
  exact hQ.out _ _ (Fr.Is.mk rfl rfl) F3 X3 B3 (fun k h1 h2 hk => (o3 k h1 h2).trans (HB1.out.block k hk))
end Go.Proofs.YtglhdlkmgmbgeaaDoor

namespace Go.Proofs.YtglhdlkmgmbgeaaDoor
open Go.RowKit
open Fra Oct Arg Mem Gen Qu Go.Proofs.YtglhdlkmgmbgeaaDoor.Obj
set_option linter.unusedVariables false
set_option linter.unusedSimpArgs false

set_option maxRecDepth 100000 in
set_option maxHeartbeats 4000000 in
theorem take_r12 {Q : Exit → Act → World → Prop} {rv rx n cap fb xb : Nat} {ad : Option Addr} {most N : Int} {f : FrM} {sa : Option Addr} {sc : Nat} {x : FaM} (a : Act) (w : World) (V : Fb rv noFr none 0 w) (X : w.heap[rx]? = some (Obj.cells #[.bool false, .int .i64 0, .int .i64 0] 37 (0, 0))) (hne : rx ≠ rv)
    (HFb : Fb fb f sa sc w) (hxb : w.heap[xb]? = some (Obj.cells #[.bool x.is, .int .i64 x.code, .int .i64 x.stream] 37 (0, 0))) (hxv : xb ≠ rv) (hxx : xb ≠ rx) (hfv : fb ≠ rv) (hfx : fb ≠ rx)
    (ha : Fr.Is 53 [(0, .slice ad n cap), (1, .int .i64 most), (4, .pointer (some ⟨rv, 0, none⟩)), (6, .pointer (some ⟨rx, 0, none⟩)), (7, .pointer (some ⟨fb, 0, none⟩)), (8, .int .i64 (9 + N)), (9, .pointer (some ⟨xb, 0, none⟩))] a)
    (hQ : Hid (∀ a' w', Fr.Is 53 [(4, .pointer (some ⟨rv, 0, none⟩)), (5, .int .i64 (9 + N)), (6, .pointer (some ⟨rx, 0, none⟩))] a' → Fb rv f sa sc w' → w'.heap[rx]? = some (Obj.cells #[.bool x.is, .int .i64 x.code, .int .i64 x.stream] 37 (0, 0)) → Kept [rv, rx] w w' → Q .normal a' w')) :
    (Fr.reg Tryd.f34 12).wp Tryd.prog Q a w := by
  obtain ⟨fr, rfl, hfr⟩ := ha.lit
  simp only [List.map_cons, List.map_nil, List.cons.injEq, and_true] at hfr
  conv => arg 2; whnf
  simp only [List.range, List.range.loop, List.map_cons, List.map_nil, hfr]
  clear hfr ha
  have a0 : w.cell? ⟨fb, 0, none⟩ = some (.int .i64 f.type) := HFb.cellz 0
  have a1 : w.cell? ⟨fb, 1, none⟩ = some (.int .i64 f.flags) := HFb.cellz 1
  have a2 : w.cell? ⟨fb, 2, none⟩ = some (.int .i64 f.stream) := HFb.cellz 2
  have a3 : w.cell? ⟨fb, 3, none⟩ = some (.string f.data) := HFb.cellz 3
  have a4 : w.cell? ⟨fb, 4, none⟩ = some (.int .i64 f.pad) := HFb.cellz 4
  have a5 : w.cell? ⟨fb, 5, none⟩ = some (.slice sa f.sets.length sc) := HFb.cellz 5
  have a6 : w.cell? ⟨fb, 6, none⟩ = some (.int .i64 f.code) := HFb.cellz 6
  have a7 : w.cell? ⟨fb, 7, none⟩ = some (.int .i64 f.last) := HFb.cellz 7
  have a8 : w.cell? ⟨fb, 8, none⟩ = some (.int .i64 f.inc) := HFb.cellz 8
  have a9 : w.cell? ⟨fb, 9, none⟩ = some (.int .i64 f.dep) := HFb.cellz 9
  have a10 : w.cell? ⟨fb, 10, none⟩ = some (.int .i64 f.weight) := HFb.cellz 10
  have a11 : w.cell? ⟨fb, 11, none⟩ = some (.bool f.sole) := HFb.cellz 11
  have HE0 := hxb
  have hBd : Below 0 w w.drew := (Below.refl 0 w).drew
  obtain ⟨w2, h2, _, w3, h3, F3, X3, B3, o3⟩ := two_ret (w := w) (Below.refl 0 w) (Nat.zero_le _) (Nat.zero_le _) V X hne f sa sc x
  have HE : Hid (Fb rv f sa sc w3.drew ∧ w3.drew.heap[rx]? = some (Obj.cells #[.bool x.is, .int .i64 x.code, .int .i64 x.stream] 37 (0, 0)) ∧ Below 0 w w3.drew ∧ ∀ k, k ≠ rv → k ≠ rx → w3.drew.heap[k]? = w.heap[k]?) := Lib.hid ⟨F3, X3, B3.drew, o3⟩
  subst h2
  subst h3
  obtain ⟨e0, e1, e2⟩ := fa_cells hxb
  obtain ⟨d0, d1, d2⟩ := fa_cells X
  have s0 := frozen_of_row _ _ 0 _ _ X
  have s1 := frozen_of_row _ _ 1 _ _ X
  have s2 := frozen_of_row _ _ 2 _ _ X
  obtain ⟨c0, c1, c2, c3, c4, c5, c6, c7, c8, c9, c10, c11⟩ := fr_cells V
  have t0 := V.thaw 0
  have t1 := V.thaw 1
  have t2 := V.thaw 2
  have t3 := V.thaw 3
  have t4 := V.thaw 4
  have t5 := V.thaw 5
  have t6 := V.thaw 6
  have t7 := V.thaw 7
  have t8 := V.thaw 8
  have t9 := V.thaw 9
  have t10 := V.thaw 10
  have t11 := V.thaw 11
  have hne2 : rv ≠ rx := fun e => hne e.symm
  have hxv2 : rv ≠ xb := fun e => hxv e.symm
  have hxx2 : rx ≠ xb := fun e => hxx e.symm
  have hfv2 : rv ≠ fb := fun e => hfv e.symm
  have hfx2 : rx ≠ fb := fun e => hfx e.symm
  clear F3 X3 B3 o3 V X hxb hBd HE0
  go_region_held3 (fun v => v.cell? ⟨xb, 0, none⟩ = some (.bool x.is) ∧ v.cell? ⟨xb, 1, none⟩ = some (.int .i64 x.code) ∧ v.cell? ⟨xb, 2, none⟩ = some (.int .i64 x.stream) ∧ v.cell? ⟨fb, 0, none⟩ = some (.int .i64 f.type) ∧ v.cell? ⟨fb, 1, none⟩ = some (.int .i64 f.flags) ∧ v.cell? ⟨fb, 2, none⟩ = some (.int .i64 f.stream) ∧ v.cell? ⟨fb, 3, none⟩ = some (.string f.data) ∧ v.cell? ⟨fb, 4, none⟩ = some (.int .i64 f.pad) ∧ v.cell? ⟨fb, 5, none⟩ = some (.slice sa f.sets.length sc) ∧ v.cell? ⟨fb, 6, none⟩ = some (.int .i64 f.code) ∧ v.cell? ⟨fb, 7, none⟩ = some (.int .i64 f.last) ∧ v.cell? ⟨fb, 8, none⟩ = some (.int .i64 f.inc) ∧ v.cell? ⟨fb, 9, none⟩ = some (.int .i64 f.dep) ∧ v.cell? ⟨fb, 10, none⟩ = some (.int .i64 f.weight) ∧ v.cell? ⟨fb, 11, none⟩ = some (.bool f.sole)) ((refine ⟨?_, ?_, ?_, ?_, ?_, ?_, ?_, ?_, ?_, ?_, ?_, ?_, ?_, ?_, ?_⟩ <;> go_simp)) (fail)
  all_goals exact hQ.out _ _ (Fr.Is.mk rfl rfl) HE.out.1 HE.out.2.1 ⟨HE.out.2.2.1.os, HE.out.2.2.1.tape, HE.out.2.2.1.output, HE.out.2.2.1.size, fun k _ hk => by
    simp only [List.mem_cons, List.not_mem_nil, or_false, not_or] at hk
    exact HE.out.2.2.2 k hk.1 hk.2⟩

set_option maxRecDepth 100000 in
set_option maxHeartbeats 4000000 in
theorem take_r14 {Q : Exit → Act → World → Prop} {rv rx n cap fb xb : Nat} {ad : Option Addr} {most N : Int} {f : FrM} {sa : Option Addr} {sc : Nat} {x : FaM} (a : Act) (w : World) (V : Fb rv noFr none 0 w) (X : w.heap[rx]? = some (Obj.cells #[.bool false, .int .i64 0, .int .i64 0] 37 (0, 0))) (hne : rx ≠ rv)
    (hxb : w.heap[xb]? = some (Obj.cells #[.bool x.is, .int .i64 x.code, .int .i64 x.stream] 37 (0, 0))) (hxv : xb ≠ rv) (hxx : xb ≠ rx)
    (ha : Fr.Is 53 [(0, .slice ad n cap), (1, .int .i64 most), (4, .pointer (some ⟨rv, 0, none⟩)), (6, .pointer (some ⟨rx, 0, none⟩)), (7, .pointer (some ⟨fb, 0, none⟩)), (8, .int .i64 (9 + N)), (9, .pointer (some ⟨xb, 0, none⟩))] a)
    (hQ : Hid (∀ a' w', Fr.Is 53 [(4, .pointer (some ⟨rv, 0, none⟩)), (5, .int .i64 0), (6, .pointer (some ⟨rx, 0, none⟩))] a' → Fb rv noFr none 0 w' → w'.heap[rx]? = some (Obj.cells #[.bool x.is, .int .i64 x.code, .int .i64 x.stream] 37 (0, 0)) → Kept [rv, rx] w w' → Q .normal a' w')) :
    (Fr.reg Tryd.f34 14).wp Tryd.prog Q a w := by
  obtain ⟨fr, rfl, hfr⟩ := ha.lit
  simp only [List.map_cons, List.map_nil, List.cons.injEq, and_true] at hfr
  conv => arg 2; whnf
  simp only [List.range, List.range.loop, List.map_cons, List.map_nil, hfr]
  clear hfr ha
  have HE0 := hxb
  have hBd : Below 0 w w.drew := (Below.refl 0 w).drew
  obtain ⟨w2, h2, _, w3, h3, F3, X3, B3, o3⟩ := two_ret (w := w) (Below.refl 0 w) (Nat.zero_le _) (Nat.zero_le _) V X hne noFr none 0 x
  have HE : Hid (Fb rv noFr none 0 w3.drew ∧ w3.drew.heap[rx]? = some (Obj.cells #[.bool x.is, .int .i64 x.code, .int .i64 x.stream] 37 (0, 0)) ∧ Below 0 w w3.drew ∧ ∀ k, k ≠ rv → k ≠ rx → w3.drew.heap[k]? = w.heap[k]?) := Lib.hid ⟨F3, X3, B3.drew, o3⟩
  subst h2
  subst h3
  obtain ⟨e0, e1, e2⟩ := fa_cells hxb
  obtain ⟨d0, d1, d2⟩ := fa_cells X
  have s0 := frozen_of_row _ _ 0 _ _ X
  have s1 := frozen_of_row _ _ 1 _ _ X
  have s2 := frozen_of_row _ _ 2 _ _ X
  obtain ⟨c0, c1, c2, c3, c4, c5, c6, c7, c8, c9, c10, c11⟩ := fr_cells V
  have t0 := V.thaw 0
  have t1 := V.thaw 1
  have t2 := V.thaw 2
  have t3 := V.thaw 3
  have t4 := V.thaw 4
  have t5 := V.thaw 5
  have t6 := V.thaw 6
  have t7 := V.thaw 7
  have t8 := V.thaw 8
  have t9 := V.thaw 9
  have t10 := V.thaw 10
  have t11 := V.thaw 11
  have hne2 : rv ≠ rx := fun e => hne e.symm
  have hxv2 : rv ≠ xb := fun e => hxv e.symm
  have hxx2 : rx ≠ xb := fun e => hxx e.symm
  skip
  skip
  clear F3 X3 B3 o3 V X hxb hBd HE0
  go_region_held3 (fun v => v.cell? ⟨xb, 0, none⟩ = some (.bool x.is) ∧ v.cell? ⟨xb, 1, none⟩ = some (.int .i64 x.code) ∧ v.cell? ⟨xb, 2, none⟩ = some (.int .i64 x.stream)) ((refine ⟨?_, ?_, ?_⟩ <;> go_simp)) (fail)
  all_goals exact hQ.out _ _ (Fr.Is.mk rfl rfl) HE.out.1 HE.out.2.1 ⟨HE.out.2.2.1.os, HE.out.2.2.1.tape, HE.out.2.2.1.output, HE.out.2.2.1.size, fun k _ hk => by
    simp only [List.mem_cons, List.not_mem_nil, or_false, not_or] at hk
    exact HE.out.2.2.2 k hk.1 hk.2⟩

set_option maxRecDepth 100000 in
set_option maxHeartbeats 4000000 in
theorem take_r10 {Q : Exit → Act → World → Prop} {rv rx n cap fb xb : Nat} {ad : Option Addr} {most N : Int} {f : FrM} {sa : Option Addr} {sc : Nat} {x : FaM} (a : Act) (w : World) (V : Fb rv noFr none 0 w) (X : w.heap[rx]? = some (Obj.cells #[.bool false, .int .i64 0, .int .i64 0] 37 (0, 0))) (hne : rx ≠ rv)
    (hxb : w.heap[xb]? = some (Obj.cells #[.bool x.is, .int .i64 x.code, .int .i64 x.stream] 37 (0, 0))) (hxv : xb ≠ rv) (hxx : xb ≠ rx)
    (ha : Fr.Is 53 [(0, .slice ad n cap), (1, .int .i64 most), (4, .pointer (some ⟨rv, 0, none⟩)), (6, .pointer (some ⟨rx, 0, none⟩)), (7, .pointer (some ⟨fb, 0, none⟩)), (8, .int .i64 (9 + N)), (9, .pointer (some ⟨xb, 0, none⟩))] a)
    (hQ : Hid (∀ a' w', Fr.Is 53 [(4, .pointer (some ⟨rv, 0, none⟩)), (5, .int .i64 (9 + N)), (6, .pointer (some ⟨rx, 0, none⟩))] a' → Fb rv noFr none 0 w' → w'.heap[rx]? = some (Obj.cells #[.bool x.is, .int .i64 x.code, .int .i64 x.stream] 37 (0, 0)) → Kept [rv, rx] w w' → Q .normal a' w')) :
    (Fr.reg Tryd.f34 10).wp Tryd.prog Q a w := by
  obtain ⟨fr, rfl, hfr⟩ := ha.lit
  simp only [List.map_cons, List.map_nil, List.cons.injEq, and_true] at hfr
  conv => arg 2; whnf
  simp only [List.range, List.range.loop, List.map_cons, List.map_nil, hfr]
  clear hfr ha
  have HE0 := hxb
  have hBd : Below 0 w w.drew := (Below.refl 0 w).drew
  obtain ⟨w2, h2, _, w3, h3, F3, X3, B3, o3⟩ := two_ret (w := w) (Below.refl 0 w) (Nat.zero_le _) (Nat.zero_le _) V X hne noFr none 0 x
  have HE : Hid (Fb rv noFr none 0 w3.drew ∧ w3.drew.heap[rx]? = some (Obj.cells #[.bool x.is, .int .i64 x.code, .int .i64 x.stream] 37 (0, 0)) ∧ Below 0 w w3.drew ∧ ∀ k, k ≠ rv → k ≠ rx → w3.drew.heap[k]? = w.heap[k]?) := Lib.hid ⟨F3, X3, B3.drew, o3⟩
  subst h2
  subst h3
  obtain ⟨e0, e1, e2⟩ := fa_cells hxb
  obtain ⟨d0, d1, d2⟩ := fa_cells X
  have s0 := frozen_of_row _ _ 0 _ _ X
  have s1 := frozen_of_row _ _ 1 _ _ X
  have s2 := frozen_of_row _ _ 2 _ _ X
  obtain ⟨c0, c1, c2, c3, c4, c5, c6, c7, c8, c9, c10, c11⟩ := fr_cells V
  have t0 := V.thaw 0
  have t1 := V.thaw 1
  have t2 := V.thaw 2
  have t3 := V.thaw 3
  have t4 := V.thaw 4
  have t5 := V.thaw 5
  have t6 := V.thaw 6
  have t7 := V.thaw 7
  have t8 := V.thaw 8
  have t9 := V.thaw 9
  have t10 := V.thaw 10
  have t11 := V.thaw 11
  have hne2 : rv ≠ rx := fun e => hne e.symm
  have hxv2 : rv ≠ xb := fun e => hxv e.symm
  have hxx2 : rx ≠ xb := fun e => hxx e.symm
  skip
  skip
  clear F3 X3 B3 o3 V X hxb hBd HE0
  go_region_held3 (fun v => v.cell? ⟨xb, 0, none⟩ = some (.bool x.is) ∧ v.cell? ⟨xb, 1, none⟩ = some (.int .i64 x.code) ∧ v.cell? ⟨xb, 2, none⟩ = some (.int .i64 x.stream)) ((refine ⟨?_, ?_, ?_⟩ <;> go_simp)) (fail)
  all_goals exact hQ.out _ _ (Fr.Is.mk rfl rfl) HE.out.1 HE.out.2.1 ⟨HE.out.2.2.1.os, HE.out.2.2.1.tape, HE.out.2.2.1.output, HE.out.2.2.1.size, fun k _ hk => by
    simp only [List.mem_cons, List.not_mem_nil, or_false, not_or] at hk
    exact HE.out.2.2.2 k hk.1 hk.2⟩
end Go.Proofs.YtglhdlkmgmbgeaaDoor

namespace Go.Proofs.YtglhdlkmgmbgeaaDoor
open Go.RowKit
open Fra Oct
set_option linter.unusedVariables false
set_option linter.unusedSimpArgs false

theorem at_head (l : List UInt8) (h : 1 ≤ l.length) : at' l 0 1 = ((l.headD 0).toNat : Int) := by
  cases l with
  | nil => simp at h
  | cons c r => simp [at', beI]
theorem sole_eq (l : List UInt8) (h : 4 ≤ l.length) : decide (2147483648 ≤ at' l 0 4) = decide (128 ≤ (l.headD 0).toNat) := by
  match l, h with
  | a :: b :: c :: d :: r, _ =>
    have ha := a.toNat_lt
    have hb := b.toNat_lt
    have hc := c.toNat_lt
    have hd := d.toNat_lt
    have he : at' (a :: b :: c :: d :: r) 0 4 = ((a.toNat * 256 + b.toNat) * 256 + c.toNat) * 256 + d.toNat := by simp [at', beI]
    have hh : (a :: b :: c :: d :: r).headD 0 = a := rfl
    rw [he, hh, Bool.eq_iff_iff, decide_eq_true_eq, decide_eq_true_eq]
    clear he hh
    omega
theorem at_next (l : List UInt8) : at' l 4 4 = at' (l.drop 4) 0 4 := by simp [at']
theorem sized_eq (t fl : Int) (n : Nat) (h0 : 0 ≤ t) (hn : n ≤ 16777215) : fitsB t fl n = sizedB t fl n := by
  by_cases hh : t = 0 ∨ t = 1 ∨ t = 2 ∨ t = 3 ∨ t = 4 ∨ t = 5 ∨ t = 6 ∨ t = 7 ∨ t = 8 ∨ t = 9
  · rcases hh with rfl | rfl | rfl | rfl | rfl | rfl | rfl | rfl | rfl | rfl
    all_goals
      rw [Bool.eq_iff_iff]
      cases h8 : hasF fl 8 <;> cases h32 : hasF fl 32 <;> cases h1 : hasF fl 1 <;> simp [fitsB, sizedB, spanT, partsM, aheadN, needN, h8, h32, h1] <;> omega
  · have : 10 ≤ t := by omega
    rw [fitsB, if_pos this, sizedB, if_neg (by omega), if_neg (by omega), if_neg (by omega), if_neg (by omega), if_neg (by omega), if_neg (by omega)]
theorem place_eq (t st : Int) : placeOk t st = !decide (((t = 0 ∨ t = 1 ∨ t = 2 ∨ t = 3 ∨ t = 9) ∧ st = 0) ∨ ((t = 4 ∨ t = 6 ∨ t = 7) ∧ st ≠ 0) ∨ t = 5) := by
  unfold placeOk
  by_cases h1 : t = 0 ∨ t = 1 ∨ t = 2 ∨ t = 3 ∨ t = 9
  · rw [if_pos h1, Bool.eq_iff_iff]; simp; omega
  · rw [if_neg h1]
    by_cases h2 : t = 4 ∨ t = 6 ∨ t = 7
    · rw [if_pos h2, Bool.eq_iff_iff]; simp; omega
    · rw [if_neg h2]
      by_cases h3 : t = 5
      · rw [if_pos h3]; simp [h3]
      · rw [if_neg h3, Bool.eq_iff_iff]; simp; omega

/-- What the program's reading of a payload gives is what the document's gives. -/
theorem fields_eq (t fl st : Int) (p : List UInt8) (h0 : 0 ≤ t) (hn : p.length ≤ 16777215) (hs : sizedB t fl p.length = true) :
    (fieldsF t fl st p).2 = !decide (((numF (partsM t fl) (hdrF t fl st, p)).2.length : Int) < (numF (partsM t fl) (hdrF t fl st, p)).1.pad) ∧
      ((fieldsF t fl st p).2 = true → (fieldsF t fl st p).1 = fullF t fl st p) := by
  have hz : ∀ (q : List UInt8), ¬ ((q.length : Int) < 0) := fun q => by omega
  have hz2 : ∀ (k : Nat), ¬ ((k : Int) < 0) := fun k => by omega
  by_cases hh : t = 0 ∨ t = 1 ∨ t = 2 ∨ t = 3 ∨ t = 4 ∨ t = 7 ∨ t = 8
  · rcases hh with rfl | rfl | rfl | rfl | rfl | rfl | rfl
    · cases h8 : hasF fl 8
      · simp [fieldsF, fullF, partsM, numF, sPad, sOrd, sLast, sCode, sInc, hdrF, noFr, withD, withS, restF, orderF, h8, hz]
      · have hl : 1 ≤ p.length := by simp [sizedB, needN, h8] at hs; omega
        have e1 := at_head p hl
        simp only [fieldsF, fullF, partsM, numF, sPad, sOrd, sLast, sCode, sInc, hdrF, noFr, withD, withS, restF, orderF, h8, e1]
        simp
        split <;> simp_all
    · cases h8 : hasF fl 8 <;> cases h32 : hasF fl 32
      · simp [fieldsF, fullF, partsM, numF, sPad, sOrd, sLast, sCode, sInc, hdrF, noFr, withD, withS, restF, orderF, h8, h32, hz]
      · have hl : 5 ≤ p.length := by simp [sizedB, needN, h8, h32] at hs; omega
        have e2 := sole_eq p (by omega)
        have e3 := at_head (p.drop 4) (by simp; omega)
        simp [fieldsF, fullF, partsM, numF, sPad, sOrd, sLast, sCode, sInc, hdrF, noFr, withD, withS, restF, orderF, h8, h32, e2, e3, hz, hz2]
      · have hl : 1 ≤ p.length := by simp [sizedB, needN, h8, h32] at hs; omega
        have e1 := at_head p hl
        simp only [fieldsF, fullF, partsM, numF, sPad, sOrd, sLast, sCode, sInc, hdrF, noFr, withD, withS, restF, orderF, h8, h32, e1]
        simp
        split <;> simp_all
      · have hl : 6 ≤ p.length := by simp [sizedB, needN, h8, h32] at hs; omega
        have e1 := at_head p (by omega)
        have e2 := sole_eq (p.drop 1) (by simp; omega)
        have e3 := at_head ((p.drop 1).drop 4) (by simp; omega)
        simp only [fieldsF, fullF, partsM, numF, sPad, sOrd, sLast, sCode, sInc, hdrF, noFr, withD, withS, restF, orderF, h8, h32, e1, e2, e3]
        simp
        split <;> simp_all
    · have hl : p.length = 5 := by simpa [sizedB] using hs
      have e2 := sole_eq p (by omega)
      have e3 := at_head (p.drop 4) (by simp; omega)
      have e4 : p.drop 5 = [] := List.drop_eq_nil_of_le (by omega)
      simp [fieldsF, fullF, partsM, numF, sPad, sOrd, sLast, sCode, sInc, hdrF, noFr, withD, withS, restF, orderF, e2, e3, e4]
      rfl
    · simp [fieldsF, fullF, partsM, numF, sPad, sOrd, sLast, sCode, sInc, hdrF, noFr, withD, withS, restF, orderF, hz]
      rfl
    · simp [fieldsF, fullF, partsM, numF, sPad, sOrd, sLast, sCode, sInc, hdrF, noFr, withD, withS, restF, orderF, hz]
      rfl
    · have e4 := at_next p
      simp [fieldsF, fullF, partsM, numF, sPad, sOrd, sLast, sCode, sInc, hdrF, noFr, withD, withS, restF, orderF, hz, hz2, e4]
    · simp [fieldsF, fullF, partsM, numF, sPad, sOrd, sLast, sCode, sInc, hdrF, noFr, withD, withS, restF, orderF, hz]
      rfl
  · have h2 : ¬ t = 0 ∧ ¬ t = 1 ∧ ¬ t = 2 ∧ ¬ t = 3 ∧ ¬ t = 4 ∧ ¬ t = 7 ∧ ¬ t = 8 := by omega
    obtain ⟨a0, a1, a2, a3, a4, a7, a8⟩ := h2
    have a01 : ¬ t ≤ 1 := by omega
    simp [fieldsF, fullF, partsM, numF, sPad, sOrd, sLast, sCode, sInc, hdrF, noFr, withD, withS, restF, orderF, a0, a1, a2, a3, a4, a7, a8, a01, hz]

theorem full_keep (t fl st : Int) (p : List UInt8) : (fullF t fl st p).type = t ∧ (fullF t fl st p).stream = st := by
  obtain ⟨h1, h2, _, _⟩ := num_keep (partsM t fl) (hdrF t fl st, p)
  exact ⟨h1, h2⟩
def takeX (b : List UInt8) (n : Nat) : FaM := fillX (at' (b.drop 3) 0 1) (at' (b.drop 4) 0 1) (at' (b.drop 5) 0 4 % 2147483648) ((b.drop 9).take n)
def takeU (b : List UInt8) (n : Nat) : FrM := fullF (at' (b.drop 3) 0 1) (at' (b.drop 4) 0 1) (at' (b.drop 5) 0 4 % 2147483648) ((b.drop 9).take n)
/-- A whole frame at the beginning of bytes: what the program tells of it is what the document tells. -/
theorem body_eq (b : List UInt8) (n : Nat) (hb : 9 + n ≤ b.length) (hn : n ≤ 16777215) :
    bodyF b n = (if (takeX b n).is then (noFr, (if (takeX b n).stream = 0 then 0 else 9 + n), takeX b n) else (takeU b n, 9 + n, noFa)) := by
  have h3 : at' (b.drop 3) 0 1 = ((b.getD 3 0).toNat : Int) := by rw [at_head _ (by simp; omega)]; simp [List.head?_drop]
  have h4 : at' (b.drop 4) 0 1 = ((b.getD 4 0).toNat : Int) := by rw [at_head _ (by simp; omega)]; simp [List.head?_drop]
  have h5 : at' (b.drop 5) 0 4 = at' b 5 4 := by simp [at']
  have hpl : ((b.drop 9).take n).length = n := by rw [List.length_take, List.length_drop]; omega
  unfold takeX takeU bodyF
  rw [h3, h4, h5]
  generalize ht : ((b.getD 3 0).toNat : Int) = t
  generalize ((b.getD 4 0).toNat : Int) = fl
  generalize at' b 5 4 % 2147483648 = st
  generalize (b.drop 9).take n = p at hpl
  have ht0 : 0 ≤ t := by omega
  have hpe := place_eq t st
  have hse := sized_eq t fl n ht0 hn
  obtain ⟨k1, k2⟩ := full_keep t fl st p
  simp only
  by_cases c1 : ((t = 0 ∨ t = 1 ∨ t = 2 ∨ t = 3 ∨ t = 9) ∧ st = 0) ∨ ((t = 4 ∨ t = 6 ∨ t = 7) ∧ st ≠ 0) ∨ t = 5
  · have hp : placeOk t st = false := by rw [hpe, decide_eq_true c1]; rfl
    have hX : fillX t fl st p = ⟨true, 1, 0⟩ := by rw [fillX, if_pos hp]
    rw [if_pos c1, hX]; rfl
  · have hp : placeOk t st = true := by rw [hpe, decide_eq_false c1]; rfl
    have hp2 : ¬ placeOk t st = false := by rw [hp]; simp
    rw [if_neg c1]
    by_cases c2 : sizedB t fl n = false
    · have hf : fitsB t fl p.length = false := by rw [hpl, hse]; exact c2
      have hX : fillX t fl st p = if t = 2 then ⟨true, 6, st⟩ else ofC 6 := by rw [fillX, if_neg hp2, if_pos hf]
      rw [if_pos c2, hX]
      by_cases t2 : t = 2
      · have hst : st ≠ 0 := fun h => c1 (.inl ⟨by omega, h⟩)
        rw [if_pos t2, if_pos t2]; simp [hst]
      · rw [if_neg t2, if_neg t2]; rfl
    · have hf : ¬ fitsB t fl p.length = false := by rw [hpl, hse]; exact c2
      have hs : sizedB t fl p.length = true := by rw [hpl]; simpa using c2
      obtain ⟨e1, e2⟩ := fields_eq t fl st p ht0 (by omega) hs
      rw [if_neg c2]
      cases hok : (fieldsF t fl st p).2 with
      | false =>
        rw [hok] at e1
        have hlt : ((numF (partsM t fl) (hdrF t fl st, p)).2.length : Int) < (numF (partsM t fl) (hdrF t fl st, p)).1.pad := by simpa using e1.symm
        have hX : fillX t fl st p = ⟨true, 1, 0⟩ := by rw [fillX, if_neg hp2, if_neg hf, if_pos hlt]
        rw [if_pos rfl, hX]; rfl
      | true =>
        rw [hok] at e1
        have hlt : ¬ ((numF (partsM t fl) (hdrF t fl st, p)).2.length : Int) < (numF (partsM t fl) (hdrF t fl st, p)).1.pad := by simpa using e1.symm
        have hX : fillX t fl st p = valF (fullF t fl st p) := by rw [fillX, if_neg hp2, if_neg hf, if_neg hlt]
        rw [if_neg (by simp), hX, e2 hok, valF, k1, k2]
        by_cases c8 : t = 8 ∧ (fullF t fl st p).inc = 0
        · rw [if_pos c8, if_pos c8]
          by_cases hst : st = 0
          · simp [hst, ofC]
          · simp [hst]
        · rw [if_neg c8, if_neg c8]
          by_cases cs : setsFault (fullF t fl st p).sets ≠ 0
          · rw [if_pos cs, if_pos cs]; rfl
          · rw [if_neg cs, if_neg cs]; rfl
end Go.Proofs.YtglhdlkmgmbgeaaDoor
