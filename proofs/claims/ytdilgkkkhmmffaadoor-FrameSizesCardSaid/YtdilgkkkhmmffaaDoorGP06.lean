/- A region that draws its order, walked once in the order of the text, over a class of worlds: callees may make memory. Layer 6: whether the program may write a frame, and how long its payload is. Layer 6: what the program may write, and how, is what the document says: without memory. Layer 6: the program's Put. 'b[at:]', without parting on whether anything is left of the capacity. Layer 6: the program's reading: numbers. Layer 6: the program's reading: what stands ahead of the settings, or of the data. -/
import Derived.Test.YtdilgkkkhmmffaaDoorRows
import Derived.Deep.Quiet
import Derived.BigQuiet
import Derived.WalkKit
import Derived.Test.YtdilgkkkhmmffaaDoorGP05
import Derived.Deep.RegionHeld3
import Derived.Laws.MakeOwn
import Derived.Test.YtdilgkkkhmmffaaDoorGP01
import Derived.Lib.Hide
import Derived.Test.YtdilgkkkhmmffaaDoorGP04
import Derived.Test.YtdilgkkkhmmffaaDoorGP03
set_option linter.unusedVariables false
set_option linter.unusedSimpArgs false
namespace Go.Proofs.YtdilgkkkhmmffaaDoor
open Go.RowKit
namespace Qu
theorem reg_quiet {P : Program} {id : Nat} {Q : Exit → Act → World → Prop} {a : Act} {w : World} {l : List Oper} (C : World → Prop) (hm : P.follows .mixedOrders = true) (hB : Region.lexB .any l.toArray = true) (hC : C w.drew)
    (h : wpQuiet P l.toArray C (fun a' => ∀ w', C w' → Q .normal a' w') l a) : (Code.region id l.toArray true).wp P Q a w :=
  wp_region_quiet (C := C) hm hB hC (by simpa using h)
/-- A world for which B holds. (A structure of its own: simp must not take '∀ n : Cw B' apart.) -/
structure Cw (B : World → Prop) where
  v : World
  h : B v
/-- The class of the worlds for which B holds, in the shape that the walk's simp takes apart by itself. -/
theorem reg_quietB {P : Program} {id : Nat} {Q : Exit → Act → World → Prop} {a : Act} {w : World} {l : List Oper} (B : World → Prop) (hm : P.follows .mixedOrders = true) (hB : Region.lexB .any l.toArray = true) (hC : B w.drew)
    (h : wpQuiet P l.toArray (fun w' => ∃ n : Cw B, w' = n.v) (fun a' => ∀ w', (∃ n : Cw B, w' = n.v) → Q .normal a' w') l a) : (Code.region id l.toArray true).wp P Q a w :=
  reg_quiet _ hm hB ⟨⟨_, hC⟩, rfl⟩ h
end Qu
end Go.Proofs.YtdilgkkkhmmffaaDoor

namespace Go.Proofs.YtdilgkkkhmmffaaDoor
open Go.RowKit
open Fra Oct Arg Mem Gen Wr Qu Go.Proofs.YtdilgkkkhmmffaaDoor.Obj
set_option linter.unusedVariables false
set_option linter.unusedSimpArgs false

theorem cells12 {w : World} {bx : Nat} {f : FrM} {sa : Option Addr} {sc : Nat} (h : w.heap[bx]? = some (.cells (frC f sa sc) 24 (0, 0))) :
    w.cell? ⟨bx, 0, none⟩ = some (.int .i64 f.type) ∧ w.cell? ⟨bx, 1, none⟩ = some (.int .i64 f.flags) ∧ w.cell? ⟨bx, 2, none⟩ = some (.int .i64 f.stream) ∧ w.cell? ⟨bx, 3, none⟩ = some (.string f.data) ∧ w.cell? ⟨bx, 4, none⟩ = some (.int .i64 f.pad) ∧ w.cell? ⟨bx, 5, none⟩ = some (.slice sa f.sets.length sc) ∧
    w.cell? ⟨bx, 6, none⟩ = some (.int .i64 f.code) ∧ w.cell? ⟨bx, 7, none⟩ = some (.int .i64 f.last) ∧ w.cell? ⟨bx, 8, none⟩ = some (.int .i64 f.inc) ∧ w.cell? ⟨bx, 9, none⟩ = some (.int .i64 f.dep) ∧ w.cell? ⟨bx, 10, none⟩ = some (.int .i64 f.weight) ∧ w.cell? ⟨bx, 11, none⟩ = some (.bool f.sole) :=
  ⟨cell_at h 0, cell_at h 1, cell_at h 2, cell_at h 3, cell_at h 4, cell_at h 5, cell_at h 6, cell_at h 7, cell_at h 8, cell_at h 9, cell_at h 10, cell_at h 11⟩

def wrB (f : FrM) : Bool := inRB f && (bareB f (partsM f.type f.flags) && f.sets.all setOk)

set_option maxRecDepth 100000 in
set_option maxHeartbeats 1000000 in
theorem psize_any (f : FrM) (sa : Option Addr) (sc : Nat) (w : World) (hf : inRB f = true) (hd : f.data.size ≤ 1000000000) (hn : f.sets.length ≤ 1000000000) :
    Calls Tryd.prog 18 #[frV f sa sc] w fun e w' => e = .returned (.int .i64 ((aheadN (partsM f.type f.flags) : Int) + 6 * f.sets.length + f.data.size + f.pad)) ∧ Below w.heap.size w w' := by
  obtain ⟨_, ⟨f0, f1⟩, _, _, _, _, ⟨p0, p1⟩, _, _⟩ := inR_of f hf
  have HA := Lib.hid (fun v => pparts_any f.type f.flags v f0 f1)
  have HB := Lib.hid (fun v => pahead_any (partsM f.type f.flags) v)
  have hal : aheadN (partsM f.type f.flags) ≤ 18 := by
    unfold aheadN; repeat' split
    all_goals omega
  generalize partsM f.type f.flags = p at HA HB hal ⊢
  generalize aheadN p = N at HB hal ⊢
  obtain ⟨t, fl, st, data, pad, sets, code, last, inc, dep, weight, sole⟩ := f
  simp only at *
  unfold frV frC
  generalize sets.length = n at hn ⊢
  clear hf
  have hbx := heap_alloc_new w (.cells #[.int .i64 t, .int .i64 fl, .int .i64 st, .string data, .int .i64 pad, .slice sa n sc, .int .i64 code, .int .i64 last, .int .i64 inc, .int .i64 dep, .int .i64 weight, .bool sole] 24)
  have hbb := bel_alloc w (.cells #[.int .i64 t, .int .i64 fl, .int .i64 st, .string data, .int .i64 pad, .slice sa n sc, .int .i64 code, .int .i64 last, .int .i64 inc, .int .i64 dep, .int .i64 weight, .bool sole] 24)
  go_enter Tryd.func18, Tryd.ntmps18
  go_wp2_with fail
  generalize w.alloc (.cells #[.int .i64 t, .int .i64 fl, .int .i64 st, .string data, .int .i64 pad, .slice sa n sc, .int .i64 code, .int .i64 last, .int .i64 inc, .int .i64 dep, .int .i64 weight, .bool sole] 24) = w1 at hbx hbb ⊢
  obtain ⟨bx, hbn⟩ : ∃ b, b = w.heap.size := ⟨_, rfl⟩
  rw [← hbn] at hbx ⊢
  have HBX := Lib.hid hbx
  have HBB := Lib.hid hbb
  have HBN := Lib.hid hbn
  have q0 := cell_at hbx 0
  have q1 := cell_at hbx 1
  have q3 := cell_at hbx 3
  have q4 := cell_at hbx 4
  have q5 := cell_at hbx 5
  simp only [List.getElem?_toArray, List.getElem?_cons_zero, List.getElem?_cons_succ] at q0 q1 q3 q4 q5
  have hb0 : Below w1.heap.size w1 w1.drew := (Below.refl _ _).drew
  clear hbx hbb hbn
  go_region_held3 (fun v => v.cell? ⟨bx, 0, none⟩ = some (.int .i64 t) ∧ v.cell? ⟨bx, 1, none⟩ = some (.int .i64 fl) ∧ v.cell? ⟨bx, 3, none⟩ = some (.string data) ∧ v.cell? ⟨bx, 4, none⟩ = some (.int .i64 pad) ∧ v.cell? ⟨bx, 5, none⟩ = some (.slice sa n sc))
    (first | go_keep | exact ⟨below_cell hb0 q0, below_cell hb0 q1, below_cell hb0 q3, below_cell hb0 q4, below_cell hb0 q5⟩)
    ((first | (go_at_call 34; refine (HA.out _).mono ?_; rintro e w2 ⟨rfl, b2⟩; replace hb0 := below_step hb0 b2) | (go_at_call 37; refine (HB.out _).mono ?_; rintro e w2 ⟨rfl, b2⟩; replace hb0 := below_step hb0 b2)))
  all_goals
    go_wp2_with fail
    go_ret
    have e1 : IntKind.i64.wrap (6 * (n : Int)) = 6 * n := IntWalk.i64_in _ (by omega)
    have e2 : IntKind.i64.wrap ((N : Int) + 6 * n) = N + 6 * n := IntWalk.i64_in _ (by omega)
    have e3 : IntKind.i64.wrap ((N : Int) + 6 * n + data.size) = N + 6 * n + data.size := IntWalk.i64_in _ (by omega)
    have e4 : IntKind.i64.wrap ((N : Int) + 6 * n + data.size + pad) = N + 6 * n + data.size + pad := IntWalk.i64_in _ (by omega)
    exact ⟨by (try simp); rw [e1, e2, e3, e4], below_step HBB.out hb0⟩

set_option maxRecDepth 100000 in
set_option maxHeartbeats 4000000 in
theorem pwritable_any (f : FrM) (sa : Option Addr) (sc : Nat) (w : World) (hok : FrOk f sa sc w) :
    Calls Tryd.prog 17 #[frV f sa sc] w fun e w' => e = .returned (.bool (wrB f)) ∧ Below w.heap.size w w' := by
  have HI := Lib.hid (fun v => pinrange_any f sa sc v)
  have HBr := Lib.hid (fun v => pbare_any f (partsM f.type f.flags) (parts_ok _ _) sa sc v)
  have hW : wrB f = (inRB f && (bareB f (partsM f.type f.flags) && f.sets.all setOk)) := rfl
  have hfl : inRB f = true → 0 ≤ f.flags ∧ f.flags ≤ 255 := fun h => (inR_of f h).2.1
  have HP := Lib.hid (fun v (h : inRB f = true) => pparts_any f.type f.flags v (hfl h).1 (hfl h).2)
  obtain ⟨hrow, hlen, hcap⟩ := hok
  unfold maxLen at hcap
  have HRow := Lib.hid hrow
  generalize wrB f = R at hW ⊢
  generalize inRB f = I at hW HI HP
  generalize bareB f (partsM f.type f.flags) = J at hW HBr
  clear hfl hrow
  obtain ⟨t, fl, st, data, pad, sets, code, last, inc, dep, weight, sole⟩ := f
  simp only at *
  unfold frV frC at *
  simp only at *
  generalize partsM t fl = p at HBr HP
  obtain ⟨n, hn⟩ : ∃ n, n = sets.length := ⟨_, rfl⟩
  rw [← hn] at hlen HI HBr ⊢
  have HN := Lib.hid hn
  have HW := Lib.hid hW
  clear hn hW
  have hbx := heap_alloc_new w (.cells #[.int .i64 t, .int .i64 fl, .int .i64 st, .string data, .int .i64 pad, .slice sa n sc, .int .i64 code, .int .i64 last, .int .i64 inc, .int .i64 dep, .int .i64 weight, .bool sole] 24)
  have hbb := bel_alloc w (.cells #[.int .i64 t, .int .i64 fl, .int .i64 st, .string data, .int .i64 pad, .slice sa n sc, .int .i64 code, .int .i64 last, .int .i64 inc, .int .i64 dep, .int .i64 weight, .bool sole] 24)
  obtain ⟨bx, hbn⟩ : ∃ b, b = w.heap.size := ⟨_, rfl⟩
  rw [← hbn] at hbx
  have HBN := Lib.hid hbn
  clear hbn
  cases I with
  | false =>
    have HR : Hid (R = false) := Lib.hid (by rw [HW.out]; rfl)
    go_enter Tryd.func17, Tryd.ntmps17
    go_wp2_with fail
    generalize w.alloc (.cells #[.int .i64 t, .int .i64 fl, .int .i64 st, .string data, .int .i64 pad, .slice sa n sc, .int .i64 code, .int .i64 last, .int .i64 inc, .int .i64 dep, .int .i64 weight, .bool sole] 24) = w1 at hbx hbb ⊢
    rw [← HBN.out]
    have HBB := Lib.hid hbb
    have q0 := cell_at hbx 0
    have q1 := cell_at hbx 1
    have q2 := cell_at hbx 2
    have q3 := cell_at hbx 3
    have q4 := cell_at hbx 4
    have q5 := cell_at hbx 5
    have q6 := cell_at hbx 6
    have q7 := cell_at hbx 7
    have q8 := cell_at hbx 8
    have q9 := cell_at hbx 9
    have q10 := cell_at hbx 10
    have q11 := cell_at hbx 11
    simp only [List.getElem?_toArray, List.getElem?_cons_zero, List.getElem?_cons_succ] at q0 q1 q2 q3 q4 q5 q6 q7 q8 q9 q10 q11
    have hb0 : Below w1.heap.size w1 w1.drew := (Below.refl _ _).drew
    clear hbx hbb
    have : Nonempty (Cw (fun v => Below w1.heap.size w1 v)) := ⟨⟨_, hb0⟩⟩
    have z0 : ∀ nn : Cw (fun v => Below w1.heap.size w1 v), nn.v.cell? ⟨bx, 0, none⟩ = some (.int .i64 t) := fun nn => below_cell nn.h q0
    have z1 : ∀ nn : Cw (fun v => Below w1.heap.size w1 v), nn.v.cell? ⟨bx, 1, none⟩ = some (.int .i64 fl) := fun nn => below_cell nn.h q1
    have z2 : ∀ nn : Cw (fun v => Below w1.heap.size w1 v), nn.v.cell? ⟨bx, 2, none⟩ = some (.int .i64 st) := fun nn => below_cell nn.h q2
    have z3 : ∀ nn : Cw (fun v => Below w1.heap.size w1 v), nn.v.cell? ⟨bx, 3, none⟩ = some (.string data) := fun nn => below_cell nn.h q3
    have z4 : ∀ nn : Cw (fun v => Below w1.heap.size w1 v), nn.v.cell? ⟨bx, 4, none⟩ = some (.int .i64 pad) := fun nn => below_cell nn.h q4
    have z5 : ∀ nn : Cw (fun v => Below w1.heap.size w1 v), nn.v.cell? ⟨bx, 5, none⟩ = some (.slice sa n sc) := fun nn => below_cell nn.h q5
    have z6 : ∀ nn : Cw (fun v => Below w1.heap.size w1 v), nn.v.cell? ⟨bx, 6, none⟩ = some (.int .i64 code) := fun nn => below_cell nn.h q6
    have z7 : ∀ nn : Cw (fun v => Below w1.heap.size w1 v), nn.v.cell? ⟨bx, 7, none⟩ = some (.int .i64 last) := fun nn => below_cell nn.h q7
    have z8 : ∀ nn : Cw (fun v => Below w1.heap.size w1 v), nn.v.cell? ⟨bx, 8, none⟩ = some (.int .i64 inc) := fun nn => below_cell nn.h q8
    have z9 : ∀ nn : Cw (fun v => Below w1.heap.size w1 v), nn.v.cell? ⟨bx, 9, none⟩ = some (.int .i64 dep) := fun nn => below_cell nn.h q9
    have z10 : ∀ nn : Cw (fun v => Below w1.heap.size w1 v), nn.v.cell? ⟨bx, 10, none⟩ = some (.int .i64 weight) := fun nn => below_cell nn.h q10
    have z11 : ∀ nn : Cw (fun v => Below w1.heap.size w1 v), nn.v.cell? ⟨bx, 11, none⟩ = some (.bool sole) := fun nn => below_cell nn.h q11
    refine reg_quietB (fun v => Below w1.heap.size w1 v) (by kernel_rfl) (by kernel_rfl) hb0 ?_
    repeat (go_big_quiet_step ((go_at_call 32; exact (HI.out _).mono (fun e w' h => ⟨h.1, ⟨⟨w', below_step (Cw.h _) h.2⟩, rfl⟩⟩))))
    refine wpQuiet_nil ?_
    rintro w2 ⟨⟨_, hb1⟩, rfl⟩
    all_goals
      go_wp2_with fail
      go_ret
      exact ⟨by rw [HR.out]; rfl, below_step HBB.out hb1⟩
  | true =>
    have HP' := Lib.hid (fun v => HP.out v rfl)
    clear HP
    cases J with
    | false =>
      have HR : Hid (R = false) := Lib.hid (by rw [HW.out]; rfl)
      go_enter Tryd.func17, Tryd.ntmps17
      go_wp2_with fail
      generalize w.alloc (.cells #[.int .i64 t, .int .i64 fl, .int .i64 st, .string data, .int .i64 pad, .slice sa n sc, .int .i64 code, .int .i64 last, .int .i64 inc, .int .i64 dep, .int .i64 weight, .bool sole] 24) = w1 at hbx hbb ⊢
      rw [← HBN.out]
      have HBB := Lib.hid hbb
      have q0 := cell_at hbx 0
      have q1 := cell_at hbx 1
      have q2 := cell_at hbx 2
      have q3 := cell_at hbx 3
      have q4 := cell_at hbx 4
      have q5 := cell_at hbx 5
      have q6 := cell_at hbx 6
      have q7 := cell_at hbx 7
      have q8 := cell_at hbx 8
      have q9 := cell_at hbx 9
      have q10 := cell_at hbx 10
      have q11 := cell_at hbx 11
      simp only [List.getElem?_toArray, List.getElem?_cons_zero, List.getElem?_cons_succ] at q0 q1 q2 q3 q4 q5 q6 q7 q8 q9 q10 q11
      have hb0 : Below w1.heap.size w1 w1.drew := (Below.refl _ _).drew
      clear hbx hbb
      have : Nonempty (Cw (fun v => Below w1.heap.size w1 v)) := ⟨⟨_, hb0⟩⟩
      have z0 : ∀ nn : Cw (fun v => Below w1.heap.size w1 v), nn.v.cell? ⟨bx, 0, none⟩ = some (.int .i64 t) := fun nn => below_cell nn.h q0
      have z1 : ∀ nn : Cw (fun v => Below w1.heap.size w1 v), nn.v.cell? ⟨bx, 1, none⟩ = some (.int .i64 fl) := fun nn => below_cell nn.h q1
      have z2 : ∀ nn : Cw (fun v => Below w1.heap.size w1 v), nn.v.cell? ⟨bx, 2, none⟩ = some (.int .i64 st) := fun nn => below_cell nn.h q2
      have z3 : ∀ nn : Cw (fun v => Below w1.heap.size w1 v), nn.v.cell? ⟨bx, 3, none⟩ = some (.string data) := fun nn => below_cell nn.h q3
      have z4 : ∀ nn : Cw (fun v => Below w1.heap.size w1 v), nn.v.cell? ⟨bx, 4, none⟩ = some (.int .i64 pad) := fun nn => below_cell nn.h q4
      have z5 : ∀ nn : Cw (fun v => Below w1.heap.size w1 v), nn.v.cell? ⟨bx, 5, none⟩ = some (.slice sa n sc) := fun nn => below_cell nn.h q5
      have z6 : ∀ nn : Cw (fun v => Below w1.heap.size w1 v), nn.v.cell? ⟨bx, 6, none⟩ = some (.int .i64 code) := fun nn => below_cell nn.h q6
      have z7 : ∀ nn : Cw (fun v => Below w1.heap.size w1 v), nn.v.cell? ⟨bx, 7, none⟩ = some (.int .i64 last) := fun nn => below_cell nn.h q7
      have z8 : ∀ nn : Cw (fun v => Below w1.heap.size w1 v), nn.v.cell? ⟨bx, 8, none⟩ = some (.int .i64 inc) := fun nn => below_cell nn.h q8
      have z9 : ∀ nn : Cw (fun v => Below w1.heap.size w1 v), nn.v.cell? ⟨bx, 9, none⟩ = some (.int .i64 dep) := fun nn => below_cell nn.h q9
      have z10 : ∀ nn : Cw (fun v => Below w1.heap.size w1 v), nn.v.cell? ⟨bx, 10, none⟩ = some (.int .i64 weight) := fun nn => below_cell nn.h q10
      have z11 : ∀ nn : Cw (fun v => Below w1.heap.size w1 v), nn.v.cell? ⟨bx, 11, none⟩ = some (.bool sole) := fun nn => below_cell nn.h q11
      refine reg_quietB (fun v => Below w1.heap.size w1 v) (by kernel_rfl) (by kernel_rfl) hb0 ?_
      repeat (go_big_quiet_step (first | (go_at_call 32; exact (HI.out _).mono (fun e w' h => ⟨h.1, ⟨⟨w', below_step (Cw.h _) h.2⟩, rfl⟩⟩)) | (go_at_call 34; exact (HP'.out _).mono (fun e w' h => ⟨h.1, ⟨⟨w', below_step (Cw.h _) h.2⟩, rfl⟩⟩)) | (go_at_call 33; exact (HBr.out _).mono (fun e w' h => ⟨h.1, ⟨⟨w', below_step (Cw.h _) h.2⟩, rfl⟩⟩))))
      refine wpQuiet_nil ?_
      rintro w2 ⟨⟨_, hb1⟩, rfl⟩
      all_goals
        go_wp2_with fail
        go_ret
        exact ⟨by rw [HR.out]; rfl, below_step HBB.out hb1⟩
    | true =>
      have HR : Hid (R = sets.all setOk) := Lib.hid (by rw [HW.out]; rfl)
      go_enter Tryd.func17, Tryd.ntmps17
      go_wp2_with fail
      generalize w.alloc (.cells #[.int .i64 t, .int .i64 fl, .int .i64 st, .string data, .int .i64 pad, .slice sa n sc, .int .i64 code, .int .i64 last, .int .i64 inc, .int .i64 dep, .int .i64 weight, .bool sole] 24) = w1 at hbx hbb ⊢
      rw [← HBN.out]
      have HBB := Lib.hid hbb
      have q0 := cell_at hbx 0
      have q1 := cell_at hbx 1
      have q2 := cell_at hbx 2
      have q3 := cell_at hbx 3
      have q4 := cell_at hbx 4
      have q5 := cell_at hbx 5
      have q6 := cell_at hbx 6
      have q7 := cell_at hbx 7
      have q8 := cell_at hbx 8
      have q9 := cell_at hbx 9
      have q10 := cell_at hbx 10
      have q11 := cell_at hbx 11
      simp only [List.getElem?_toArray, List.getElem?_cons_zero, List.getElem?_cons_succ] at q0 q1 q2 q3 q4 q5 q6 q7 q8 q9 q10 q11
      have hb0 : Below w1.heap.size w1 w1.drew := (Below.refl _ _).drew
      clear hbx hbb
      have : Nonempty (Cw (fun v => Below w1.heap.size w1 v)) := ⟨⟨_, hb0⟩⟩
      have z0 : ∀ nn : Cw (fun v => Below w1.heap.size w1 v), nn.v.cell? ⟨bx, 0, none⟩ = some (.int .i64 t) := fun nn => below_cell nn.h q0
      have z1 : ∀ nn : Cw (fun v => Below w1.heap.size w1 v), nn.v.cell? ⟨bx, 1, none⟩ = some (.int .i64 fl) := fun nn => below_cell nn.h q1
      have z2 : ∀ nn : Cw (fun v => Below w1.heap.size w1 v), nn.v.cell? ⟨bx, 2, none⟩ = some (.int .i64 st) := fun nn => below_cell nn.h q2
      have z3 : ∀ nn : Cw (fun v => Below w1.heap.size w1 v), nn.v.cell? ⟨bx, 3, none⟩ = some (.string data) := fun nn => below_cell nn.h q3
      have z4 : ∀ nn : Cw (fun v => Below w1.heap.size w1 v), nn.v.cell? ⟨bx, 4, none⟩ = some (.int .i64 pad) := fun nn => below_cell nn.h q4
      have z5 : ∀ nn : Cw (fun v => Below w1.heap.size w1 v), nn.v.cell? ⟨bx, 5, none⟩ = some (.slice sa n sc) := fun nn => below_cell nn.h q5
      have z6 : ∀ nn : Cw (fun v => Below w1.heap.size w1 v), nn.v.cell? ⟨bx, 6, none⟩ = some (.int .i64 code) := fun nn => below_cell nn.h q6
      have z7 : ∀ nn : Cw (fun v => Below w1.heap.size w1 v), nn.v.cell? ⟨bx, 7, none⟩ = some (.int .i64 last) := fun nn => below_cell nn.h q7
      have z8 : ∀ nn : Cw (fun v => Below w1.heap.size w1 v), nn.v.cell? ⟨bx, 8, none⟩ = some (.int .i64 inc) := fun nn => below_cell nn.h q8
      have z9 : ∀ nn : Cw (fun v => Below w1.heap.size w1 v), nn.v.cell? ⟨bx, 9, none⟩ = some (.int .i64 dep) := fun nn => below_cell nn.h q9
      have z10 : ∀ nn : Cw (fun v => Below w1.heap.size w1 v), nn.v.cell? ⟨bx, 10, none⟩ = some (.int .i64 weight) := fun nn => below_cell nn.h q10
      have z11 : ∀ nn : Cw (fun v => Below w1.heap.size w1 v), nn.v.cell? ⟨bx, 11, none⟩ = some (.bool sole) := fun nn => below_cell nn.h q11
      refine reg_quietB (fun v => Below w1.heap.size w1 v) (by kernel_rfl) (by kernel_rfl) hb0 ?_
      repeat (go_big_quiet_step (first | (go_at_call 32; exact (HI.out _).mono (fun e w' h => ⟨h.1, ⟨⟨w', below_step (Cw.h _) h.2⟩, rfl⟩⟩)) | (go_at_call 34; exact (HP'.out _).mono (fun e w' h => ⟨h.1, ⟨⟨w', below_step (Cw.h _) h.2⟩, rfl⟩⟩)) | (go_at_call 33; exact (HBr.out _).mono (fun e w' h => ⟨h.1, ⟨⟨w', below_step (Cw.h _) h.2⟩, rfl⟩⟩))))
      refine wpQuiet_nil ?_
      rintro w2 ⟨⟨_, hb1⟩, rfl⟩
      have HRow2 := Lib.hid ((HRow.out.below HBB.out).below hb1)
      have HB1 := Lib.hid hb1
      have z5 := below_cell hb1 q5
      clear q0 q1 q2 q3 q4 q5 q6 q7 q8 q9 q10 q11
      go_wp2_with fail
      go_loopw [21] (fun i wr => ∃ k : Nat, i = .int .i64 k ∧ k ≤ n ∧ Hid (Below w2.heap.size w2 wr) ∧ Hid ((sets.drop k).all setOk = R)) (fun i _ => n - (intOf i).toNat)
      case atStart => exact ⟨0, by rfl, Nat.zero_le _, Lib.hid (Below.refl _ _), Lib.hid (by rw [HR.out]; simp)⟩
      case round =>
        obtain ⟨k, rfl, hk, HB, HD⟩ := hrel
        by_cases hlt : k < n
        · have hlt' : (k : Int) < n := by omega
          have hka : k < sets.length := by rw [← HN.out]; exact hlt
          obtain ⟨b1, o1, rfl, hc⟩ : ∃ b off, sa = some ⟨b, off, none⟩ ∧ ∀ i, (h : i < sets.length) → Rw.CE ESt w2 b (off + i * 2) sets[i] := by
            rcases HRow2.out with h | h
            · rw [h] at hka; simp at hka
            · exact h
          obtain ⟨c0, c1⟩ := CE_st (hc k hka)
          have c0 := below_cell HB.out c0
          have c1 := below_cell HB.out c1
          have HS := Lib.hid (show (sets.drop k).all setOk = (setOk sets[k] && (sets.drop (k + 1)).all setOk) by rw [List.drop_eq_getElem_cons hka, List.all_cons])
          generalize sets[k] = s at c0 c1 HS
          obtain ⟨id, val⟩ := s
          simp only at c0 c1
          clear hc
          have hx0 := heap_alloc_new wr (.cells #[.int .i64 id, .int .i64 val] 61)
          have x0 := cell_at hx0 0
          have x1 := cell_at hx0 1
          simp only [List.getElem?_toArray, List.getElem?_cons_zero, List.getElem?_cons_succ] at x0 x1
          clear hx0
          by_cases h1 : 0 ≤ id ∧ id ≤ 65535
          · have d1 := decide_eq_true h1
            by_cases h2 : 0 ≤ val ∧ val ≤ 4294967295
            · have d2 := decide_eq_true h2
              have HRk := Lib.hid (show (sets.drop (k + 1)).all setOk = R by rw [← HD.out, HS.out, setOk, decide_eq_true (show 0 ≤ id ∧ id ≤ 65535 ∧ 0 ≤ val ∧ val ≤ 4294967295 from ⟨h1.1, h1.2, h2.1, h2.2⟩), Bool.true_and])
              clear HD HS h1 h2
              go_wp2_with (first | (go_at_call 35; refine (pwithin_any _ _ _).mono ?_; rintro e w' ⟨rfl, rfl⟩; simp only [d1]) | (go_at_call 36; refine (pwithin2_any _ _ _).mono ?_; rintro e w' ⟨rfl, rfl⟩; simp only [d2]))
              go_roundw
              case rel => exact ⟨k + 1, by go_num, by omega, Lib.hid (HB.out.alloc HB.out.size _), HRk⟩
              case measure => simp [intOf]; omega
            · have d2 := decide_eq_false h2
              have HRf := Lib.hid (show R = false by rw [← HD.out, HS.out, setOk, decide_eq_false (fun hh => h2 ⟨hh.2.2.1, hh.2.2.2⟩), Bool.false_and])
              clear HD HS h1 h2
              go_wp2_with (first | (go_at_call 35; refine (pwithin_any _ _ _).mono ?_; rintro e w' ⟨rfl, rfl⟩; simp only [d1]) | (go_at_call 36; refine (pwithin2_any _ _ _).mono ?_; rintro e w' ⟨rfl, rfl⟩; simp only [d2]))
              go_ret
              exact ⟨by rw [HRf.out]; rfl, below_step (below_step HBB.out HB1.out) (HB.out.alloc HB.out.size _)⟩
          · have d1 := decide_eq_false h1
            have HRf := Lib.hid (show R = false by rw [← HD.out, HS.out, setOk, decide_eq_false (fun hh => h1 ⟨hh.1, hh.2.1⟩), Bool.false_and])
            clear HD HS h1
            go_wp2_with (first | (go_at_call 35; refine (pwithin_any _ _ _).mono ?_; rintro e w' ⟨rfl, rfl⟩; simp only [d1]))
            go_ret
            exact ⟨by rw [HRf.out]; rfl, below_step (below_step HBB.out HB1.out) (HB.out.alloc HB.out.size _)⟩
        · have hlt' : ¬ (k : Int) < n := by omega
          have hV : R = true := by rw [← HD.out, List.drop_eq_nil_of_le (by rw [← HN.out]; omega)]; rfl
          have HRt := Lib.hid hV
          clear HD hV
          go_wp2_with fail
          go_ret
          exact ⟨by rw [HRt.out]; rfl, below_step (below_step HBB.out HB1.out) HB.out⟩
end Go.Proofs.YtdilgkkkhmmffaaDoor

namespace Go.Proofs.YtdilgkkkhmmffaaDoor
open Go.RowKit
open Fra Oct
set_option linter.unusedVariables false
set_option linter.unusedSimpArgs false

theorem ranges_eq (f : FrM) : rangesB f = (inRB f && f.sets.all setOk) := by
  rw [Bool.eq_iff_iff]
  simp only [rangesB, inRB, Bool.and_eq_true, decide_eq_true_eq]
  constructor
  · rintro ⟨h1, h2⟩; exact ⟨by omega, h2⟩
  · rintro ⟨h1, h2⟩; exact ⟨by omega, h2⟩
theorem bare_eq2 (f : FrM) (h0 : 0 ≤ f.type) :
    bareB f (partsM f.type f.flags) = (!(decide (f.pad ≠ 0) && !paddedB f) && !(decide (f.dep ≠ 0 ∨ f.weight ≠ 0 ∨ f.sole = true) && !placedB f) &&
    !(decide (f.data ≠ ByteArray.empty) && decide (f.type = 2 ∨ f.type = 3 ∨ f.type = 4 ∨ f.type = 8)) &&
    (f.sets.isEmpty || decide (f.type = 4)) && decide (f.code = 0 ∨ f.type = 3 ∨ f.type = 7) && decide (f.last = 0 ∨ f.type = 7) && decide (f.inc = 0 ∨ f.type = 8)) := by
  obtain ⟨t, fl, st, data, pad, sets, code, last, inc, dep, weight, sole⟩ := f
  simp only at h0
  have he : sets.isEmpty = decide (sets.length = 0) := by cases sets <;> simp
  simp only [paddedB, placedB, he]
  rw [Bool.eq_iff_iff]
  by_cases h : t = 0 ∨ t = 1 ∨ t = 2 ∨ t = 3 ∨ t = 4 ∨ t = 7 ∨ t = 8
  · rcases h with rfl | rfl | rfl | rfl | rfl | rfl | rfl
    all_goals
      simp only [partsM, bareB]
      cases hasF fl 8 <;> cases hasF fl 32 <;> cases sole <;> simp <;> grind
  · have h2 : ¬ t = 0 ∧ ¬ t = 1 ∧ ¬ t = 2 ∧ ¬ t = 3 ∧ ¬ t = 4 ∧ ¬ t = 7 ∧ ¬ t = 8 := by omega
    obtain ⟨a0, a1, a2, a3, a4, a7, a8⟩ := h2
    have a01 : ¬ t ≤ 1 := by omega
    simp only [partsM, bareB, a0, a1, a2, a3, a4, a7, a8, a01, if_false]
    cases sole <;> simp <;> grind
theorem may_eq (f : FrM) : wrB f = mayB f := by
  by_cases hi : inRB f = true
  · have h0 := (inR_of f hi).1.1
    rw [wrB, mayB, ranges_eq, hi, bare_eq2 f h0]
    generalize f.sets.all setOk = s
    simp only [Bool.true_and]
    rw [Bool.and_comm]
    simp only [Bool.and_assoc]
  · rw [wrB, mayB, ranges_eq]
    simp only [Bool.not_eq_true] at hi
    rw [hi]; simp
theorem pay_len (f : FrM) (p : PtM) (h0 : 0 ≤ f.pad) : ((payP f p).length : Int) = (aheadN p : Int) + 6 * f.sets.length + f.data.size + f.pad := by
  have q6 := setL_len f.sets
  have q7 : f.data.data.toList.length = f.data.size := by simp
  have q8 := putL_length f.pad 1
  have q9 := putL_length f.last 4
  have q10 := putL_length f.code 4
  have q11 := putL_length f.inc 4
  have q12 := place_len f
  simp only [payP, aheadN, List.length_append, List.length_replicate, q6, q7]
  cases p.pad <;> cases p.order <;> cases p.last <;> cases p.code <;> cases p.inc <;> simp [q8, q9, q10, q11, q12] <;> omega
theorem pay_eq (f : FrM) (h : mayB f = true) : payP f (partsM f.type f.flags) = payL f := by
  have hm := may_of f h
  have hw : wrB f = true := by rw [may_eq]; exact h
  have hi : inRB f = true := by simp only [wrB, Bool.and_eq_true] at hw; exact hw.1
  have hb : bareB f (partsM f.type f.flags) = true := by simp only [wrB, Bool.and_eq_true] at hw; exact hw.2.1
  obtain ⟨⟨t0, t1⟩, _, _, _, _, _, ⟨p0, p1⟩, _, _⟩ := inR_of f hi
  rw [payP, payL, put_one f.pad p0 p1]
  obtain ⟨t, fl, st, data, pad, sets, code, last, inc, dep, weight, sole⟩ := f
  simp only at *
  simp only [paddedB, placedB, dataL]
  by_cases hh : t = 0 ∨ t = 1 ∨ t = 2 ∨ t = 3 ∨ t = 4 ∨ t = 7 ∨ t = 8
  · rcases hh with rfl | rfl | rfl | rfl | rfl | rfl | rfl
    all_goals
      simp only [partsM] at hb ⊢
      simp only [bareB] at hb
      simp at hb
      simp [hb, setL]
  · have h2 : ¬ t = 0 ∧ ¬ t = 1 ∧ ¬ t = 2 ∧ ¬ t = 3 ∧ ¬ t = 4 ∧ ¬ t = 7 ∧ ¬ t = 8 := by omega
    obtain ⟨a0, a1, a2, a3, a4, a7, a8⟩ := h2
    have a01 : ¬ t ≤ 1 := by omega
    simp only [partsM, a0, a1, a2, a3, a4, a7, a8, if_false] at hb ⊢
    simp [a01]
end Go.Proofs.YtdilgkkkhmmffaaDoor

namespace Go.Proofs.YtdilgkkkhmmffaaDoor
open Go.RowKit
open Fra Oct Arg Mem Gen Wr Qu Go.Proofs.YtdilgkkkhmmffaaDoor.Obj
set_option linter.unusedVariables false
set_option linter.unusedSimpArgs false

/-- What Put leaves: the bytes in a row of the call's own, or none. -/
def PutEnd (R : List UInt8 × Nat) (w : World) (e : Ending) (w' : World) : Prop :=
  ∃ (oa : Option Addr) (oc : Nat), e = .returned (.tuple #[.slice oa R.1.length oc, .int .i64 R.2]) ∧ OutB w.heap.size [] oa oc R.1 w' ∧ Below w.heap.size w w'

theorem QOwn {w : World} {B c g : Nat} (h : w.ownsRow B 5 1 (.slice (some ⟨g, 0, none⟩) 0 c) 0 []) : Rw.QRow EBy w (some ⟨g, 0, none⟩) c [] ∧ g < w.heap.size := by
  have hq : Rw.QRow EBy w (some ⟨g, 0, none⟩) c [] := Rw.QRow.of_own (E := EBy) (l := []) h
  obtain ⟨b, off, e, h1, _⟩ := hq.lies _ rfl
  simp only [Addr.mk.injEq] at e
  exact ⟨hq, by omega⟩

set_option maxRecDepth 100000 in
set_option maxHeartbeats 4000000 in
theorem pput_no (f : FrM) (sa : Option Addr) (sc : Nat) (w : World) (hok : FrOk f sa sc w) (hm : wrB f = false) :
    Calls Tryd.prog 11 #[frV f sa sc] w (PutEnd ([], 1) w) := by
  have HW := Lib.hid (fun v (hv : Below w.heap.size w v) => pwritable_any f sa sc v (hok.below hv))
  rw [hm] at HW
  clear hok hm
  have hbx := heap_alloc_new w (.cells (frC f sa sc) 24)
  have hb1 := bel_alloc w (.cells (frC f sa sc) 24)
  unfold frV frC at *
  go_enter Tryd.func11, Tryd.ntmps11
  go_wp2_with fail
  generalize w.alloc (.cells #[.int .i64 f.type, .int .i64 f.flags, .int .i64 f.stream, .string f.data, .int .i64 f.pad, .slice sa f.sets.length sc, .int .i64 f.code, .int .i64 f.last, .int .i64 f.inc, .int .i64 f.dep, .int .i64 f.weight, .bool f.sole] 24) = w1 at hbx hb1 ⊢
  have HB1 := Lib.hid hb1
  refine (HW.out w1 hb1).mono ?_
  rintro e w2 ⟨rfl, b2⟩
  have HB2 := Lib.hid (below_step hb1 b2)
  clear hb1 b2 hbx
  go_wp2_with fail
  go_ret2
  exact ⟨none, 0, rfl, OutB.bare _ _ _, HB2.out⟩

set_option maxRecDepth 100000 in
set_option maxHeartbeats 4000000 in
theorem pput_yes (f : FrM) (sa : Option Addr) (sc : Nat) (w : World) (hok : FrOk f sa sc w) (hd : f.data.size ≤ 1000000) (hn : f.sets.length ≤ 1000000) (hm : wrB f = true) :
    Calls Tryd.prog 11 #[frV f sa sc] w (PutEnd (wholeL f, 0) w) := by
  have hmay : mayB f = true := by rw [← may_eq]; exact hm
  have hi : inRB f = true := by simp only [wrB, Bool.and_eq_true] at hm; exact hm.1
  have hsets : f.sets.all setOk = true := by simp only [wrB, Bool.and_eq_true] at hm; exact hm.2.2
  obtain ⟨⟨t0, t1⟩, ⟨f0, f1⟩, _, _, _, _, ⟨p0, p1⟩, _, _⟩ := inR_of f hi
  have hpl := pay_len f (partsM f.type f.flags) p0
  rw [pay_eq f hmay] at hpl
  have hal : aheadN (partsM f.type f.flags) ≤ 18 := by
    unfold aheadN; repeat' split
    all_goals omega
  have HWh : Hid (wholeL f = putL (payL f).length 3 ++ (putL f.type 1 ++ (putL f.flags 1 ++ putL f.stream 4)) ++ payL f) := Lib.hid (by
    rw [put_one f.type t0 t1, put_one f.flags f0 f1, wholeL]; simp)
  have HPe := Lib.hid (pay_eq f hmay)
  have HW := Lib.hid (fun v (hv : Below w.heap.size w v) => pwritable_any f sa sc v (hok.below hv))
  have HZ := Lib.hid (fun v => psize_any f sa sc v hi (by omega) (by omega))
  rw [hm] at HW
  rw [← hpl] at HZ
  obtain ⟨N, hN⟩ : ∃ N, N = (payL f).length := ⟨_, rfl⟩
  rw [← hN] at HZ hpl
  have hNb : N ≤ 8000000 := by omega
  have HN := Lib.hid hN
  have HWh2 : Hid (wholeL f = putL (N : Int) 3 ++ (putL f.type 1 ++ (putL f.flags 1 ++ putL f.stream 4)) ++ payL f) := Lib.hid (by rw [hN]; exact HWh.out)
  have HHd := Lib.hid (fun (w0 v : World) (wb : Nat) (h : Wat w0 w.heap.size [w.heap.size] wb [] v) => phead_any h f sa sc (N : Int) (by omega) (by omega) hi (by simp))
  have HPy := Lib.hid (fun (w0 v : World) (wb : Nat) (out : List UInt8) (h : Wat w0 w.heap.size [w.heap.size] wb out v) (hW : Std w.heap.size [] w w0) (ho : out.length ≤ 1000) => ppayload_any (W := w) h hW rfl f sa sc hok hi (by simpa using hsets) hd hn ho)
  have hbx := heap_alloc_new w (.cells (frC f sa sc) 24)
  have hb1 := bel_alloc w (.cells (frC f sa sc) 24)
  have HC := Lib.hid (fun (v : World) (h : v.heap[w.heap.size]? = some (Obj.cells (frC f sa sc) 24 (0, 0))) => cells12 h)
  obtain ⟨i0, hi8, hz0, hz1, hz2⟩ := info_parts info_u8
  have HMk := Lib.hid (fun (v : World) => run_make_own (P := Tryd.prog) v v.heap.size 27 5 i0 (.int .u8 0) 1 Tryd.underlying27 hi8 hz0 hz1 .i64 .i64 (9 + N) (by rw [hz2]; omega) (by unfold maxLen; omega) (Nat.le_refl _))
  clear hok hm hmay hi hsets hpl hal hN hd hn hi8 hz0 hz1 hz2
  unfold frV at HW HZ HHd HPy ⊢
  unfold frC at HW HZ HHd HPy ⊢
  go_enter Tryd.func11, Tryd.ntmps11
  go_wp2_with fail
  have hbx' : (w.alloc (.cells #[.int .i64 f.type, .int .i64 f.flags, .int .i64 f.stream, .string f.data, .int .i64 f.pad, .slice sa f.sets.length sc, .int .i64 f.code, .int .i64 f.last, .int .i64 f.inc, .int .i64 f.dep, .int .i64 f.weight, .bool f.sole] 24)).heap[w.heap.size]? = some (.cells (frC f sa sc) 24 (0, 0)) := hbx
  have hb1' : Below w.heap.size w (w.alloc (.cells #[.int .i64 f.type, .int .i64 f.flags, .int .i64 f.stream, .string f.data, .int .i64 f.pad, .slice sa f.sets.length sc, .int .i64 f.code, .int .i64 f.last, .int .i64 f.inc, .int .i64 f.dep, .int .i64 f.weight, .bool f.sole] 24)) := hb1
  clear hbx hb1
  generalize w.alloc (.cells #[.int .i64 f.type, .int .i64 f.flags, .int .i64 f.stream, .string f.data, .int .i64 f.pad, .slice sa f.sets.length sc, .int .i64 f.code, .int .i64 f.last, .int .i64 f.inc, .int .i64 f.dep, .int .i64 f.weight, .bool f.sole] 24) = w1 at hbx' hb1' ⊢
  refine (HW.out w1 hb1').mono ?_
  rintro e w2 ⟨rfl, b2⟩
  have HB2 := Lib.hid (below_step hb1' b2)
  have HX2 := Lib.hid (block_below b2 hbx')
  obtain ⟨x0, x1, x2, x3, x4, x5, x6, x7, x8, x9, x10, x11⟩ := HC.out _ HX2.out
  clear hb1' b2 hbx'
  go_wp2_with fail
  refine (HZ.out w2).mono ?_
  rintro e w3 ⟨rfl, b3⟩
  have HB3 := Lib.hid (below_step HB2.out b3)
  have HX3 := Lib.hid (block_below b3 HX2.out)
  clear x0 x1 x2 x3 x4 x5 x6 x7 x8 x9 x10 x11 b3
  obtain ⟨w4, hmk, hown, hgr⟩ := HMk.out w3
  have HB4 := Lib.hid (below_step HB3.out ((Below.refl _ _).grown hgr (Nat.le_refl _) (by simp)))
  have HX4 := Lib.hid (block_below ((Below.refl w3.heap.size w3).grown hgr (Nat.le_refl _) (by simp)) HX3.out)
  have HO := Lib.hid hown
  have hN9 : ((9 + N : Nat) : Int) = 9 + (N : Int) := by omega
  rw [hN9] at hmk
  clear hown hgr
  have HX5 := Lib.hid (block_below (bel_alloc w4 (.cells #[.slice (some ⟨w3.heap.size, 0, none⟩) 0 (9 + N)] 44)) HX4.out)
  have HB5 := Lib.hid (below_step HB4.out (bel_alloc w4 (.cells #[.slice (some ⟨w3.heap.size, 0, none⟩) 0 (9 + N)] 44)))
  have hs3 : w.heap.size < w3.heap.size := (Array.getElem?_eq_some_iff.1 HX3.out).1
  have hs4 : w3.heap.size ≤ w4.heap.size := by
    have := (QOwn HO.out).2; omega
  have H5 : Hid (FWt w.heap.size [w.heap.size] w4.heap.size [] (w4.alloc (.cells #[.slice (some ⟨w3.heap.size, 0, none⟩) 0 (9 + N)] 44))) := Lib.hid (by
    refine ⟨⟨some ⟨w3.heap.size, 0, none⟩, 9 + N, heap_alloc_new w4 _, ⟨(QOwn HO.out).1.below (bel_alloc w4 _), fun b o s e => ?_⟩, fun o s e => ?_⟩, by omega, by simp; omega⟩
    · simp only [Option.some.injEq, Addr.mk.injEq] at e
      exact ⟨by omega, by simp; omega⟩
    · simp only [Option.some.injEq, Addr.mk.injEq] at e
      have := (QOwn HO.out).2; omega)
  obtain ⟨x0, x1, x2, x3, x4, x5, x6, x7, x8, x9, x10, x11⟩ := HC.out _ HX5.out
  clear hs3 hs4
  go_wp2_with fail
  have HS5 : Hid (w.heap.size < (w4.alloc (.cells #[.slice (some ⟨w3.heap.size, 0, none⟩) 0 (9 + N)] 44)).heap.size) := Lib.hid (Array.getElem?_eq_some_iff.1 HX5.out).1
  generalize w4.alloc (.cells #[.slice (some ⟨w3.heap.size, 0, none⟩) 0 (9 + N)] 44) = w5 at HX5 HB5 H5 HS5 x0 x1 x2 x3 x4 x5 x6 x7 x8 x9 x10 x11 ⊢
  generalize w4.heap.size = wb at H5 ⊢
  have hW5 := Wat.start H5.out (by have := HS5.out; omega) (by have := HS5.out; simp; omega)
  refine (HHd.out w5 w5 wb hW5).mono ?_
  rintro e w6 ⟨rfl, h6, k6⟩
  have H6 := Lib.hid h6
  have HX6 := Lib.hid ((k6 w.heap.size (by simp)).trans HX5.out)
  clear x0 x1 x2 x3 x4 x5 x6 x7 x8 x9 x10 x11 h6 k6 hW5 hmk
  obtain ⟨x0, x1, x2, x3, x4, x5, x6, x7, x8, x9, x10, x11⟩ := HC.out _ HX6.out
  go_wp2_with fail
  refine (HPy.out w5 w6 wb _ H6.out (Std.of_below HB5.out) (by simp [putL_length])).mono ?_
  rintro e w7 ⟨rfl, h7, k7⟩
  obtain ⟨oa, oc, hh, ho, hne⟩ := h7.st.ex
  have c0 := cell_at hh 0
  have HE : Hid (OutB w.heap.size [] oa oc (wholeL f) w7) := Lib.hid (by
    have ho2 : OutB w.heap.size [] oa oc _ w7 := ⟨ho.row, fun b o s e => ⟨(ho.apart b o s e).1, by simp⟩⟩
    rw [HPe.out, List.nil_append, ← HWh2.out] at ho2
    exact ho2)
  have HBf : Hid (Below w.heap.size w w7) := Lib.hid (Std.below ((Std.of_below HB5.out).trans (h7.std.less (L' := []) (fun k hk _ => by cases hk))) rfl)
  rw [HPe.out, List.nil_append, ← HWh2.out] at c0
  simp only [List.getElem?_toArray, List.getElem?_cons_zero] at c0
  clear x0 x1 x2 x3 x4 x5 x6 x7 x8 x9 x10 x11 h7 k7 hh ho hne
  go_wp2_with fail
  go_ret2
  exact ⟨oa, oc, rfl, HE.out, HBf.out⟩
theorem pput_any (f : FrM) (sa : Option Addr) (sc : Nat) (w : World) (hok : FrOk f sa sc w) (hd : f.data.size ≤ 1000000) (hn : f.sets.length ≤ 1000000) :
    Calls Tryd.prog 11 #[frV f sa sc] w (PutEnd (putF f) w) := by
  have hm := may_eq f
  by_cases h : wrB f = true
  · have hi : inRB f = true := by simp only [wrB, Bool.and_eq_true] at h; exact h.1
    obtain ⟨_, _, _, _, _, _, ⟨p0, p1⟩, _, _⟩ := inR_of f hi
    have hpl := pay_len f (partsM f.type f.flags) p0
    rw [pay_eq f (by rw [← hm]; exact h)] at hpl
    have hal : aheadN (partsM f.type f.flags) ≤ 18 := by
      unfold aheadN; repeat' split
      all_goals omega
    rw [show putF f = (wholeL f, 0) by rw [putF, if_neg (by rw [← hm, h]; simp), if_neg (by omega)]]
    exact pput_yes f sa sc w hok hd hn h
  · simp only [Bool.not_eq_true] at h
    rw [show putF f = ([], 1) by rw [putF, if_pos (by rw [← hm, h])]]
    exact pput_no f sa sc w hok h
end Go.Proofs.YtdilgkkkhmmffaaDoor

namespace Go.Proofs.YtdilgkkkhmmffaaDoor
open Go.RowKit
set_option linter.unusedVariables false
namespace Sl
open Mem Arg

/-- Where 'b[at:]' begins: where nothing is left of the capacity, at the old place. -/
def adOf (a : Option Addr) (cap k size : Nat) : Option Addr := if cap = k then a else a.map (·.add (k * size))
theorem run_from {P : Program} {t e : TypeId} (ht : P.underlying t = some (.slice e)) {size : Nat} (hs : ∀ w, (sizeOf e).run P w = .ok size w) (a : Option Addr) (len cap k : Nat) (h1 : k ≤ len) (h2 : len ≤ cap) (w : World) :
    (Instr.slice t (.slice a len cap) (some (.int .i64 k)) none none).run P w = .ok (.slice (adOf a cap k size) (len - k) (cap - k)) w := by
  have h3 : (k : Int) ≤ len := by omega
  simp [Instr.slice, Instr.sliceBounds, Instr.sliceBound, asIntOf, run_underlying ht, hs, Result.andThen, h1, adOf]
theorem adOf_some {b off cap k size : Nat} (h : k < cap) : adOf (some ⟨b, off, none⟩) cap k size = some ⟨b, off + k * size, none⟩ := by
  rw [adOf, if_neg (by omega)]; simp [add_none]
/-- Bytes. -/
theorem rb_from {w : World} {a : Option Addr} {l : List UInt8} {cap : Nat} (h : RB w a l) (k : Nat) (hc : l.length ≤ cap) : RB w (adOf a cap k 1) (l.drop k) := by
  by_cases hk : k < l.length
  · rcases h with h | ⟨b, off, rfl, hb⟩
    · rw [h] at hk; simp at hk
    · rw [adOf_some (by omega)]
      refine .inr ⟨b, _, rfl, fun i hi => ?_⟩
      rw [List.length_drop] at hi
      have := hb (k + i) (by omega)
      rw [List.getElem_drop, ← this]
      congr 2
      omega
  · exact .inl (List.drop_of_length_le (by omega))
end Sl
end Go.Proofs.YtdilgkkkhmmffaaDoor

namespace Go.Proofs.YtdilgkkkhmmffaaDoor
open Go.RowKit
open Fra Oct Arg Mem Gen Go.Proofs.YtdilgkkkhmmffaaDoor.Obj
set_option linter.unusedVariables false
set_option linter.unusedSimpArgs false

theorem size_by : ∀ w, (sizeOf 5).run Tryd.prog w = .ok 1 w := fun w => by
  obtain ⟨i0, hi, hz0, hz1, hz2⟩ := info_parts info_u8
  simp [sizeOf, typeInfo, hi, hz1]
/-- The program's bytes that are there to be read; they lie behind no block of W's. -/
structure Rd (W : World) (rb : Nat) (l : List UInt8) (w : World) : Prop where
  ex : ∃ ad cap, w.heap[rb]? = some (.cells #[.slice ad l.length cap] 73 (0, 0)) ∧ RB W ad l ∧ l.length ≤ cap ∧ cap ≤ maxLen
  bel : Below W.heap.size W w
  lo : W.heap.size ≤ rb
theorem Rd.lt {W w : World} {rb : Nat} {l : List UInt8} (h : Rd W rb l w) : rb < w.heap.size := by
  obtain ⟨ad, cap, hh, _⟩ := h.ex; exact (Array.getElem?_eq_some_iff.1 hh).1
theorem Rd.kept {W w w' : World} {rb : Nat} {l : List UInt8} {L : List Nat} (h : Rd W rb l w) (hk : Kept L w w') (hL : ∀ k ∈ L, W.heap.size ≤ k ∧ k ≠ rb) : Rd W rb l w' := by
  obtain ⟨ad, cap, hh, h1, h2, h3⟩ := h.ex
  exact ⟨⟨ad, cap, hk.at hh (fun hm => (hL rb hm).2 rfl), h1, h2, h3⟩, Kept.below h.bel hk (fun k hm => (hL k hm).1) h.bel.size, h.lo⟩
theorem Rd.start {W w : World} {ad : Option Addr} {l : List UInt8} {cap : Nat} (hb : Below W.heap.size W w) (hr : RB W ad l) (hc : l.length ≤ cap) (hm : cap ≤ maxLen) :
    Rd W w.heap.size l (w.alloc (.cells #[.slice ad l.length cap] 73)) :=
  ⟨⟨ad, cap, heap_alloc_new w _, hr, hc, hm⟩, below_step hb ((Below.refl _ _).alloc (Nat.le_refl _) _), hb.size⟩

set_option maxRecDepth 100000 in
set_option maxHeartbeats 1000000 in
theorem rnum_any {W : World} {rb : Nat} {l : List UInt8} (s : Nat) (w : World) (h : Rd W rb l w) (h1 : 1 ≤ s) (h4 : s ≤ 4) (hs : s ≤ l.length) :
    Calls Tryd.prog 43 #[.pointer (some ⟨rb, 0, none⟩), .int .i64 s] w fun e w' => e = .returned (.int .u32 (at' l 0 s)) ∧ Rd W rb (l.drop s) w' ∧ Kept [rb] w w' := by
  have HH := Lib.hid h
  obtain ⟨⟨ad, cap, hh, hr, hc, hm⟩, hbel, hlo⟩ := h
  have hlm : l.length ≤ maxLen := Nat.le_trans hc hm
  have HT := Lib.hid (take_any ad l cap 0 s w hlm (hr.below hbel) (by omega) (by omega))
  have hv : takeV l 0 s = at' l 0 s := by
    rw [takeV, if_neg (by omega), if_neg (by omega)]; simp [at']
  rw [hv] at HT
  have c0 := cell_at hh 0
  have z0 := frozen_of_row _ _ 0 _ _ hh
  have hsl := Sl.run_from (P := Tryd.prog) (t := 27) Tryd.underlying27 (size := 1) size_by ad l.length cap s hs hc
  have HK : Hid (Kept [rb] w (w.setCell ⟨rb, 0, none⟩ (.slice (Sl.adOf ad cap s 1) (l.length - s) (cap - s)))) := Lib.hid ((Kept.refl [rb] w).setCell (.inl (by simp)) _)
  have hset := heap_setCell_same w rb 0 _ _ (.slice (Sl.adOf ad cap s 1) (l.length - s) (cap - s)) hh
  have HR : Hid (Rd W rb (l.drop s) (w.setCell ⟨rb, 0, none⟩ (.slice (Sl.adOf ad cap s 1) (l.length - s) (cap - s)))) := Lib.hid (by
    have hd : (l.drop s).length = l.length - s := List.length_drop
    refine ⟨⟨_, cap - s, by rw [hd]; exact hset, Sl.rb_from hr s hc, by omega, by omega⟩, Kept.below hbel HK.out (fun k hk => by simp at hk; omega) hbel.size, hlo⟩)
  generalize at' l 0 s = V at HT ⊢
  simp only [List.getElem?_toArray, List.getElem?_cons_zero] at c0
  unfold maxLen at hlm
  obtain ⟨n, hn⟩ : ∃ n, n = l.length := ⟨_, rfl⟩
  rw [← hn] at hs hlm HT c0 hsl HK HR
  clear hh hr hc hm hbel hset hv hn
  go_enter Tryd.func43, Tryd.ntmps43
  go_wp2_with fail
  refine HT.out.mono ?_
  rintro e w1 ⟨rfl, rfl⟩
  go_wp2_with fail
  go_ret
  exact ⟨rfl, HR.out, HK.out⟩

theorem at_bd (l : List UInt8) (p s : Nat) (h : s ≤ 4) : 0 ≤ at' l p s ∧ at' l p s < 4294967296 := beI_four _ (by rw [List.length_take]; omega)

set_option maxRecDepth 100000 in
set_option maxHeartbeats 1000000 in
theorem rlow_any {W : World} {rb : Nat} {l : List UInt8} (w : World) (h : Rd W rb l w) (hs : 4 ≤ l.length) :
    Calls Tryd.prog 44 #[.pointer (some ⟨rb, 0, none⟩)] w fun e w' => e = .returned (.int .i64 (at' l 0 4 % 2147483648)) ∧ Rd W rb (l.drop 4) w' ∧ Kept [rb] w w' := by
  have HN := Lib.hid (rnum_any 4 w h (by decide) (by decide) hs)
  obtain ⟨b0, b1⟩ := at_bd l 0 4 (by decide)
  have hl := low31 (at' l 0 4) b0 b1
  generalize at' l 0 4 = V at *
  clear h hs
  go_enter Tryd.func44, Tryd.ntmps44
  go_wp2_with fail
  refine HN.out.mono ?_
  rintro e w1 ⟨rfl, r1, r2⟩
  have R1 := Lib.hid r1
  have R2 := Lib.hid r2
  clear r1 r2
  go_wp2_with fail
  go_ret
  exact ⟨rfl, R1.out, R2.out⟩

/-- The block of a frame. -/
def Fb (fb : Nat) (f : FrM) (sa : Option Addr) (sc : Nat) (w : World) : Prop := w.heap[fb]? = some (.cells (frC f sa sc) 24 (0, 0))
theorem Fb.kept {fb : Nat} {f : FrM} {sa : Option Addr} {sc : Nat} {w w' : World} {L : List Nat} (h : Fb fb f sa sc w) (hk : Kept L w w') (hL : fb ∉ L) : Fb fb f sa sc w' := hk.at h hL
theorem Fb.set {fb : Nat} {f f' : FrM} {sa sa' : Option Addr} {sc sc' : Nat} {w : World} (h : Fb fb f sa sc w) (i : Nat) (v : Value) (hf : (frC f sa sc).setIfInBounds i v = frC f' sa' sc') : Fb fb f' sa' sc' (w.setCell ⟨fb, i, none⟩ v) := by
  have := heap_setCell_same w fb i _ _ v h
  rw [Fb, ← hf]; exact this
theorem Fb.cellz {fb : Nat} {f : FrM} {sa : Option Addr} {sc : Nat} {w : World} (h : Fb fb f sa sc w) (i : Nat) : w.cell? ⟨fb, i, none⟩ = (frC f sa sc)[i]? := cell_at h i
theorem Fb.thaw {fb : Nat} {f : FrM} {sa : Option Addr} {sc : Nat} {w : World} (h : Fb fb f sa sc w) (i : Nat) : w.frozen? ⟨fb, i, none⟩ = false := frozen_of_row _ _ i _ _ h

/-- What 'order' reads. -/
def orderF (f : FrM) (l : List UInt8) : FrM := { f with dep := at' l 0 4 % 2147483648, sole := decide (2147483648 ≤ at' l 0 4), weight := at' (l.drop 4) 0 1 }

set_option maxRecDepth 100000 in
set_option maxHeartbeats 1000000 in
theorem rorder_any {W : World} {rb fb : Nat} {l : List UInt8} {f : FrM} {sa : Option Addr} {sc : Nat} (w : World) (h : Rd W rb l w) (hf : Fb fb f sa sc w) (hlo : W.heap.size ≤ fb) (hne : fb ≠ rb) (hs : 5 ≤ l.length) :
    Calls Tryd.prog 54 #[.pointer (some ⟨rb, 0, none⟩), .pointer (some ⟨fb, 0, none⟩)] w fun e w' => e = .returned (.tuple #[]) ∧ Rd W rb (l.drop 5) w' ∧ Fb fb (orderF f l) sa sc w' ∧ Kept [rb, fb] w w' := by
  have HN := Lib.hid (rnum_any 4 w h (by decide) (by decide) (by omega))
  have HN2 := Lib.hid (fun v (hv : Rd W rb (l.drop 4) v) => rnum_any 1 v hv (by decide) (by decide) (by simp; omega))
  obtain ⟨b0, b1⟩ := at_bd l 0 4 (by decide)
  have hl := low31 (at' l 0 4) b0 b1
  have hh := high31 (at' l 0 4) b0 b1
  have hd5 : (l.drop 4).drop 1 = l.drop 5 := by rw [List.drop_drop]
  rw [hd5] at HN2
  have b2 := at_bd (l.drop 4) 0 1 (by decide)
  unfold orderF
  generalize at' l 0 4 = V at *
  generalize at' (l.drop 4) 0 1 = U at *
  have HF := Lib.hid hf
  have HB : Hid (∀ x : Prop, x → x) := Lib.hid (fun _ h => h)
  by_cases hV : 2147483648 ≤ V
  · rw [if_pos hV] at hh
    clear h hs hf
    go_enter Tryd.func54, Tryd.ntmps54
    go_wp2_with fail
    refine HN.out.mono ?_
    rintro e w1 ⟨rfl, r1, k1⟩
    have R1 := Lib.hid r1
    have K1 := Lib.hid k1
    have F1 := Lib.hid (HF.out.kept k1 (by simp; omega))
    have z9 := F1.out.thaw 9
    have y9 := F1.out.cellz 9
    have z11 := F1.out.thaw 11
    have y11 := F1.out.cellz 11
    clear r1 k1
    simp only [frC, List.getElem?_toArray, List.getElem?_cons_zero, List.getElem?_cons_succ] at y9 y11
    have K2 := Lib.hid (((Kept.refl [fb] w1).setCell (p := ⟨fb, 9, none⟩) (.inl (by simp)) (.int .i64 (V % 2147483648))).setCell (p := ⟨fb, 11, none⟩) (.inl (by simp)) (.bool true))
    have F2 := Lib.hid ((F1.out.set (f' := { f with dep := V % 2147483648 }) 9 (.int .i64 (V % 2147483648)) rfl).set (f' := { f with dep := V % 2147483648, sole := true }) 11 (.bool true) rfl)
    have R2 := Lib.hid (R1.out.kept K2.out (by simp; omega))
    go_wp2_with fail
    generalize (w1.setCell ⟨fb, 9, none⟩ (.int .i64 (V % 2147483648))).setCell ⟨fb, 11, none⟩ (.bool true) = w2 at K2 F2 R2 ⊢
    refine (HN2.out w2 R2.out).mono ?_
    rintro e w3 ⟨rfl, r3, k3⟩
    have F3 := Lib.hid (F2.out.kept k3 (by simp; omega))
    have z10 := F3.out.thaw 10
    have y10 := F3.out.cellz 10
    have K3 := Lib.hid k3
    have R3 := Lib.hid r3
    clear z9 y9 z11 y11 r3 k3
    simp only [frC, List.getElem?_toArray, List.getElem?_cons_zero, List.getElem?_cons_succ] at y10
    go_wp2_with fail
    go_end0
    have K4 : Kept [fb] w3 (w3.setCell ⟨fb, 10, none⟩ (.int .i64 U)) := (Kept.refl [fb] w3).setCell (p := ⟨fb, 10, none⟩) (.inl (by simp)) _
    have F4 := F3.out.set (f' := { f with dep := V % 2147483648, sole := true, weight := U }) 10 (.int .i64 U) rfl
    refine ⟨rfl, R3.out.kept K4 (by simp; omega), ?_, ?_⟩
    · rw [show decide (2147483648 ≤ V) = true by simp; omega]; exact F4
    · exact (((K1.out.wide (L' := [rb, fb]) (by simp)).trans K2.out (by simp)).trans K3.out (by simp)).trans K4 (by simp)
  · rw [if_neg hV] at hh
    clear h hs hf
    go_enter Tryd.func54, Tryd.ntmps54
    go_wp2_with fail
    refine HN.out.mono ?_
    rintro e w1 ⟨rfl, r1, k1⟩
    have R1 := Lib.hid r1
    have K1 := Lib.hid k1
    have F1 := Lib.hid (HF.out.kept k1 (by simp; omega))
    have z9 := F1.out.thaw 9
    have y9 := F1.out.cellz 9
    have z11 := F1.out.thaw 11
    have y11 := F1.out.cellz 11
    clear r1 k1
    simp only [frC, List.getElem?_toArray, List.getElem?_cons_zero, List.getElem?_cons_succ] at y9 y11
    have K2 := Lib.hid (((Kept.refl [fb] w1).setCell (p := ⟨fb, 9, none⟩) (.inl (by simp)) (.int .i64 (V % 2147483648))).setCell (p := ⟨fb, 11, none⟩) (.inl (by simp)) (.bool false))
    have F2 := Lib.hid ((F1.out.set (f' := { f with dep := V % 2147483648 }) 9 (.int .i64 (V % 2147483648)) rfl).set (f' := { f with dep := V % 2147483648, sole := false }) 11 (.bool false) rfl)
    have R2 := Lib.hid (R1.out.kept K2.out (by simp; omega))
    go_wp2_with fail
    generalize (w1.setCell ⟨fb, 9, none⟩ (.int .i64 (V % 2147483648))).setCell ⟨fb, 11, none⟩ (.bool false) = w2 at K2 F2 R2 ⊢
    refine (HN2.out w2 R2.out).mono ?_
    rintro e w3 ⟨rfl, r3, k3⟩
    have F3 := Lib.hid (F2.out.kept k3 (by simp; omega))
    have z10 := F3.out.thaw 10
    have y10 := F3.out.cellz 10
    have K3 := Lib.hid k3
    have R3 := Lib.hid r3
    clear z9 y9 z11 y11 r3 k3
    simp only [frC, List.getElem?_toArray, List.getElem?_cons_zero, List.getElem?_cons_succ] at y10
    go_wp2_with fail
    go_end0
    have K4 : Kept [fb] w3 (w3.setCell ⟨fb, 10, none⟩ (.int .i64 U)) := (Kept.refl [fb] w3).setCell (p := ⟨fb, 10, none⟩) (.inl (by simp)) _
    have F4 := F3.out.set (f' := { f with dep := V % 2147483648, sole := false, weight := U }) 10 (.int .i64 U) rfl
    refine ⟨rfl, R3.out.kept K4 (by simp; omega), ?_, ?_⟩
    · rw [show decide (2147483648 ≤ V) = false by simp; omega]; exact F4
    · exact (((K1.out.wide (L' := [rb, fb]) (by simp)).trans K2.out (by simp)).trans K3.out (by simp)).trans K4 (by simp)
end Go.Proofs.YtdilgkkkhmmffaaDoor

namespace Go.Proofs.YtdilgkkkhmmffaaDoor
open Go.RowKit
open Fra Oct Arg Mem Gen Go.Proofs.YtdilgkkkhmmffaaDoor.Obj
set_option linter.unusedVariables false
set_option linter.unusedSimpArgs false

def sPad (p : PtM) (x : FrM × List UInt8) : FrM × List UInt8 := if p.pad then ({ x.1 with pad := at' x.2 0 1 }, x.2.drop 1) else x
def sOrd (p : PtM) (x : FrM × List UInt8) : FrM × List UInt8 := if p.order then (orderF x.1 x.2, x.2.drop 5) else x
def sLast (p : PtM) (x : FrM × List UInt8) : FrM × List UInt8 := if p.last then ({ x.1 with last := at' x.2 0 4 % 2147483648 }, x.2.drop 4) else x
def sCode (p : PtM) (x : FrM × List UInt8) : FrM × List UInt8 := if p.code then ({ x.1 with code := at' x.2 0 4 }, x.2.drop 4) else x
def sInc (p : PtM) (x : FrM × List UInt8) : FrM × List UInt8 := if p.inc then ({ x.1 with inc := at' x.2 0 4 % 2147483648 }, x.2.drop 4) else x
def numF (p : PtM) (x : FrM × List UInt8) : FrM × List UInt8 := sInc p (sCode p (sLast p (sOrd p (sPad p x))))

structure NSt (W w0 : World) (rb fb pb : Nat) (p : PtM) (sa : Option Addr) (sc : Nat) (x : FrM × List UInt8) (w : World) : Prop where
  rd : Rd W rb x.2 w
  fr : Fb fb x.1 sa sc w
  ptb : w.heap[pb]? = some (.cells (ptC p) 64 (0, 0))
  lo : W.heap.size ≤ fb
  ne : fb ≠ rb ∧ pb ≠ rb ∧ pb ≠ fb
  kept : Kept [rb, fb] w0 w
theorem NSt.step {W w0 w w' : World} {rb fb pb : Nat} {p : PtM} {sa : Option Addr} {sc : Nat} {x y : FrM × List UInt8} (h : NSt W w0 rb fb pb p sa sc x w) (h1 : Rd W rb y.2 w') (h2 : Fb fb y.1 sa sc w') (hk : Kept [rb, fb] w w') : NSt W w0 rb fb pb p sa sc y w' :=
  ⟨h1, h2, hk.at h.ptb (by simp; exact h.ne.2), h.lo, h.ne, h.kept.trans hk (fun i hi => .inl hi)⟩

set_option maxRecDepth 100000 in
set_option maxHeartbeats 1000000 in
theorem num_pad {Q : Exit → Act → World → Prop} {W w0 : World} {rb fb pb : Nat} {p : PtM} {sa : Option Addr} {sc : Nat} (f : FrM) (l : List UInt8) (a : Act) (w : World) (h : NSt W w0 rb fb pb p sa sc (f, l) w) (hn : p.pad = true → 1 ≤ l.length)
    (ha : Fr.Is 41 [(0, .pointer (some ⟨rb, 0, none⟩)), (1, .pointer (some ⟨fb, 0, none⟩)), (5, .pointer (some ⟨pb, 0, none⟩))] a)
    (hQ : Hid (∀ a' w', Fr.Is 41 [(0, .pointer (some ⟨rb, 0, none⟩)), (1, .pointer (some ⟨fb, 0, none⟩)), (5, .pointer (some ⟨pb, 0, none⟩))] a' → NSt W w0 rb fb pb p sa sc (sPad p (f, l)) w' → Q .normal a' w')) :
    (Fr.navL (Fr.tail Tryd.f48 1)).wp Tryd.prog Q a w := by
  have c1 := cell_at h.ptb 0
  simp only [ptC, List.getElem?_toArray, List.getElem?_cons_zero, List.getElem?_cons_succ] at c1
  have H := Lib.hid h
  have hne := h.ne
  have hlo := h.lo
  clear h
  obtain ⟨fr, rfl, hfr⟩ := ha.lit
  simp only [List.map_cons, List.map_nil, List.cons.injEq, and_true] at hfr
  conv => arg 2; whnf
  simp only [List.range, List.range.loop, List.map_cons, List.map_nil, hfr]
  clear hfr ha
  cases hp : p.pad
  · rw [hp] at c1
    have HE : Hid (sPad p (f, l) = (f, l)) := Lib.hid (by rw [sPad, hp]; rfl)
    rw [HE.out] at hQ
    go_wp2_with fail
    exact hQ.out _ _ (Fr.Is.mk rfl rfl) H.out
  · rw [hp] at c1
    have hn' := hn hp
    have HN := Lib.hid (rnum_any 1 w H.out.rd (by decide) (by decide) hn')
    have HE : Hid (sPad p (f, l) = ({ f with pad := at' l 0 1 }, l.drop 1)) := Lib.hid (by rw [sPad, hp]; rfl)
    rw [HE.out] at hQ
    obtain ⟨b0, b1⟩ := at_bd l 0 1 (by decide)
    generalize at' l 0 1 = V at *
    clear HE hn hn'
    go_wp2_with fail
    refine HN.out.mono ?_
    rintro e w1 ⟨rfl, r1, k1⟩
    have F1 := Lib.hid (H.out.fr.kept k1 (by simp; omega))
    have z1 := F1.out.thaw 4
    have y1 := F1.out.cellz 4
    have R1 := Lib.hid r1
    have K1 := Lib.hid k1
    clear r1 k1 c1
    simp only [frC, List.getElem?_toArray, List.getElem?_cons_zero, List.getElem?_cons_succ] at y1
    go_wp2_with fail
    have K4 : Kept [fb] w1 (w1.setCell ⟨fb, 4, none⟩ (.int .i64 V)) := (Kept.refl [fb] w1).setCell (p := ⟨fb, 4, none⟩) (.inl (by simp)) _
    have F4 := F1.out.set (f' := { f with pad := V }) 4 (.int .i64 V) rfl
    exact hQ.out _ _ (Fr.Is.mk rfl rfl) (H.out.step (R1.out.kept K4 (by simp; omega)) F4 ((K1.out.wide (L' := [rb, fb]) (by simp)).trans K4 (by simp)))

set_option maxRecDepth 100000 in
set_option maxHeartbeats 1000000 in
theorem num_order {Q : Exit → Act → World → Prop} {W w0 : World} {rb fb pb : Nat} {p : PtM} {sa : Option Addr} {sc : Nat} (f : FrM) (l : List UInt8) (a : Act) (w : World) (h : NSt W w0 rb fb pb p sa sc (f, l) w) (hn : p.order = true → 5 ≤ l.length)
    (ha : Fr.Is 41 [(0, .pointer (some ⟨rb, 0, none⟩)), (1, .pointer (some ⟨fb, 0, none⟩)), (5, .pointer (some ⟨pb, 0, none⟩))] a)
    (hQ : Hid (∀ a' w', Fr.Is 41 [(0, .pointer (some ⟨rb, 0, none⟩)), (1, .pointer (some ⟨fb, 0, none⟩)), (5, .pointer (some ⟨pb, 0, none⟩))] a' → NSt W w0 rb fb pb p sa sc (sOrd p (f, l)) w' → Q .normal a' w')) :
    (Fr.navL (Fr.tail Tryd.f48 2)).wp Tryd.prog Q a w := by
  have c1 := cell_at h.ptb 1
  simp only [ptC, List.getElem?_toArray, List.getElem?_cons_zero, List.getElem?_cons_succ] at c1
  have H := Lib.hid h
  have hne := h.ne
  have hlo := h.lo
  clear h
  obtain ⟨fr, rfl, hfr⟩ := ha.lit
  simp only [List.map_cons, List.map_nil, List.cons.injEq, and_true] at hfr
  conv => arg 2; whnf
  simp only [List.range, List.range.loop, List.map_cons, List.map_nil, hfr]
  clear hfr ha
  cases hp : p.order
  · rw [hp] at c1
    have HE : Hid (sOrd p (f, l) = (f, l)) := Lib.hid (by rw [sOrd, hp]; rfl)
    rw [HE.out] at hQ
    go_wp2_with fail
    exact hQ.out _ _ (Fr.Is.mk rfl rfl) H.out
  · rw [hp] at c1
    have hn' := hn hp
    have HN := Lib.hid (rorder_any (fb := fb) w H.out.rd H.out.fr hlo hne.1 hn')
    have HE : Hid (sOrd p (f, l) = (orderF f l, l.drop 5)) := Lib.hid (by rw [sOrd, hp]; rfl)
    rw [HE.out] at hQ
    clear HE hn hn'
    go_wp2_with fail
    refine HN.out.mono ?_
    rintro e w1 ⟨rfl, r1, f1, k1⟩
    have H1 := Lib.hid (H.out.step (y := (orderF f l, l.drop 5)) r1 f1 k1)
    clear r1 f1 k1 c1
    go_wp2_with fail
    exact hQ.out _ _ (Fr.Is.mk rfl rfl) H1.out

set_option maxRecDepth 100000 in
set_option maxHeartbeats 1000000 in
theorem num_last {Q : Exit → Act → World → Prop} {W w0 : World} {rb fb pb : Nat} {p : PtM} {sa : Option Addr} {sc : Nat} (f : FrM) (l : List UInt8) (a : Act) (w : World) (h : NSt W w0 rb fb pb p sa sc (f, l) w) (hn : p.last = true → 4 ≤ l.length)
    (ha : Fr.Is 41 [(0, .pointer (some ⟨rb, 0, none⟩)), (1, .pointer (some ⟨fb, 0, none⟩)), (5, .pointer (some ⟨pb, 0, none⟩))] a)
    (hQ : Hid (∀ a' w', Fr.Is 41 [(0, .pointer (some ⟨rb, 0, none⟩)), (1, .pointer (some ⟨fb, 0, none⟩)), (5, .pointer (some ⟨pb, 0, none⟩))] a' → NSt W w0 rb fb pb p sa sc (sLast p (f, l)) w' → Q .normal a' w')) :
    (Fr.navL (Fr.tail Tryd.f48 3)).wp Tryd.prog Q a w := by
  have c1 := cell_at h.ptb 2
  simp only [ptC, List.getElem?_toArray, List.getElem?_cons_zero, List.getElem?_cons_succ] at c1
  have H := Lib.hid h
  have hne := h.ne
  have hlo := h.lo
  clear h
  obtain ⟨fr, rfl, hfr⟩ := ha.lit
  simp only [List.map_cons, List.map_nil, List.cons.injEq, and_true] at hfr
  conv => arg 2; whnf
  simp only [List.range, List.range.loop, List.map_cons, List.map_nil, hfr]
  clear hfr ha
  cases hp : p.last
  · rw [hp] at c1
    have HE : Hid (sLast p (f, l) = (f, l)) := Lib.hid (by rw [sLast, hp]; rfl)
    rw [HE.out] at hQ
    go_wp2_with fail
    exact hQ.out _ _ (Fr.Is.mk rfl rfl) H.out
  · rw [hp] at c1
    have hn' := hn hp
    have HN := Lib.hid (rlow_any w H.out.rd hn')
    have HE : Hid (sLast p (f, l) = ({ f with last := at' l 0 4 % 2147483648 }, l.drop 4)) := Lib.hid (by rw [sLast, hp]; rfl)
    rw [HE.out] at hQ
    obtain ⟨b0, b1⟩ := at_bd l 0 4 (by decide)
    generalize at' l 0 4 = V at *
    clear HE hn hn'
    go_wp2_with fail
    refine HN.out.mono ?_
    rintro e w1 ⟨rfl, r1, k1⟩
    have F1 := Lib.hid (H.out.fr.kept k1 (by simp; omega))
    have z1 := F1.out.thaw 7
    have y1 := F1.out.cellz 7
    have R1 := Lib.hid r1
    have K1 := Lib.hid k1
    clear r1 k1 c1
    simp only [frC, List.getElem?_toArray, List.getElem?_cons_zero, List.getElem?_cons_succ] at y1
    go_wp2_with fail
    have K4 : Kept [fb] w1 (w1.setCell ⟨fb, 7, none⟩ (.int .i64 (V % 2147483648))) := (Kept.refl [fb] w1).setCell (p := ⟨fb, 7, none⟩) (.inl (by simp)) _
    have F4 := F1.out.set (f' := { f with last := V % 2147483648 }) 7 (.int .i64 (V % 2147483648)) rfl
    exact hQ.out _ _ (Fr.Is.mk rfl rfl) (H.out.step (R1.out.kept K4 (by simp; omega)) F4 ((K1.out.wide (L' := [rb, fb]) (by simp)).trans K4 (by simp)))

set_option maxRecDepth 100000 in
set_option maxHeartbeats 1000000 in
theorem num_code {Q : Exit → Act → World → Prop} {W w0 : World} {rb fb pb : Nat} {p : PtM} {sa : Option Addr} {sc : Nat} (f : FrM) (l : List UInt8) (a : Act) (w : World) (h : NSt W w0 rb fb pb p sa sc (f, l) w) (hn : p.code = true → 4 ≤ l.length)
    (ha : Fr.Is 41 [(0, .pointer (some ⟨rb, 0, none⟩)), (1, .pointer (some ⟨fb, 0, none⟩)), (5, .pointer (some ⟨pb, 0, none⟩))] a)
    (hQ : Hid (∀ a' w', Fr.Is 41 [(0, .pointer (some ⟨rb, 0, none⟩)), (1, .pointer (some ⟨fb, 0, none⟩)), (5, .pointer (some ⟨pb, 0, none⟩))] a' → NSt W w0 rb fb pb p sa sc (sCode p (f, l)) w' → Q .normal a' w')) :
    (Fr.navL (Fr.tail Tryd.f48 4)).wp Tryd.prog Q a w := by
  have c1 := cell_at h.ptb 3
  simp only [ptC, List.getElem?_toArray, List.getElem?_cons_zero, List.getElem?_cons_succ] at c1
  have H := Lib.hid h
  have hne := h.ne
  have hlo := h.lo
  clear h
  obtain ⟨fr, rfl, hfr⟩ := ha.lit
  simp only [List.map_cons, List.map_nil, List.cons.injEq, and_true] at hfr
  conv => arg 2; whnf
  simp only [List.range, List.range.loop, List.map_cons, List.map_nil, hfr]
  clear hfr ha
  cases hp : p.code
  · rw [hp] at c1
    have HE : Hid (sCode p (f, l) = (f, l)) := Lib.hid (by rw [sCode, hp]; rfl)
    rw [HE.out] at hQ
    go_wp2_with fail
    exact hQ.out _ _ (Fr.Is.mk rfl rfl) H.out
  · rw [hp] at c1
    have hn' := hn hp
    have HN := Lib.hid (rnum_any 4 w H.out.rd (by decide) (by decide) hn')
    have HE : Hid (sCode p (f, l) = ({ f with code := at' l 0 4 }, l.drop 4)) := Lib.hid (by rw [sCode, hp]; rfl)
    rw [HE.out] at hQ
    obtain ⟨b0, b1⟩ := at_bd l 0 4 (by decide)
    generalize at' l 0 4 = V at *
    clear HE hn hn'
    go_wp2_with fail
    refine HN.out.mono ?_
    rintro e w1 ⟨rfl, r1, k1⟩
    have F1 := Lib.hid (H.out.fr.kept k1 (by simp; omega))
    have z1 := F1.out.thaw 6
    have y1 := F1.out.cellz 6
    have R1 := Lib.hid r1
    have K1 := Lib.hid k1
    clear r1 k1 c1
    simp only [frC, List.getElem?_toArray, List.getElem?_cons_zero, List.getElem?_cons_succ] at y1
    go_wp2_with fail
    have K4 : Kept [fb] w1 (w1.setCell ⟨fb, 6, none⟩ (.int .i64 V)) := (Kept.refl [fb] w1).setCell (p := ⟨fb, 6, none⟩) (.inl (by simp)) _
    have F4 := F1.out.set (f' := { f with code := V }) 6 (.int .i64 V) rfl
    exact hQ.out _ _ (Fr.Is.mk rfl rfl) (H.out.step (R1.out.kept K4 (by simp; omega)) F4 ((K1.out.wide (L' := [rb, fb]) (by simp)).trans K4 (by simp)))

set_option maxRecDepth 100000 in
set_option maxHeartbeats 1000000 in
theorem num_inc {Q : Exit → Act → World → Prop} {W w0 : World} {rb fb pb : Nat} {p : PtM} {sa : Option Addr} {sc : Nat} (f : FrM) (l : List UInt8) (a : Act) (w : World) (h : NSt W w0 rb fb pb p sa sc (f, l) w) (hn : p.inc = true → 4 ≤ l.length)
    (ha : Fr.Is 41 [(0, .pointer (some ⟨rb, 0, none⟩)), (1, .pointer (some ⟨fb, 0, none⟩)), (5, .pointer (some ⟨pb, 0, none⟩))] a)
    (hQ : Hid (∀ a' w', Fr.Is 41 [(0, .pointer (some ⟨rb, 0, none⟩)), (1, .pointer (some ⟨fb, 0, none⟩)), (5, .pointer (some ⟨pb, 0, none⟩))] a' → NSt W w0 rb fb pb p sa sc (sInc p (f, l)) w' → Q .normal a' w')) :
    (Fr.tail Tryd.f48 5).wp Tryd.prog Q a w := by
  have c1 := cell_at h.ptb 4
  simp only [ptC, List.getElem?_toArray, List.getElem?_cons_zero, List.getElem?_cons_succ] at c1
  have H := Lib.hid h
  have hne := h.ne
  have hlo := h.lo
  clear h
  obtain ⟨fr, rfl, hfr⟩ := ha.lit
  simp only [List.map_cons, List.map_nil, List.cons.injEq, and_true] at hfr
  conv => arg 2; whnf
  simp only [List.range, List.range.loop, List.map_cons, List.map_nil, hfr]
  clear hfr ha
  cases hp : p.inc
  · rw [hp] at c1
    have HE : Hid (sInc p (f, l) = (f, l)) := Lib.hid (by rw [sInc, hp]; rfl)
    rw [HE.out] at hQ
    go_wp2_with fail
    exact hQ.out _ _ (Fr.Is.mk rfl rfl) H.out
  · rw [hp] at c1
    have hn' := hn hp
    have HN := Lib.hid (rlow_any w H.out.rd hn')
    have HE : Hid (sInc p (f, l) = ({ f with inc := at' l 0 4 % 2147483648 }, l.drop 4)) := Lib.hid (by rw [sInc, hp]; rfl)
    rw [HE.out] at hQ
    obtain ⟨b0, b1⟩ := at_bd l 0 4 (by decide)
    generalize at' l 0 4 = V at *
    clear HE hn hn'
    go_wp2_with fail
    refine HN.out.mono ?_
    rintro e w1 ⟨rfl, r1, k1⟩
    have F1 := Lib.hid (H.out.fr.kept k1 (by simp; omega))
    have z1 := F1.out.thaw 8
    have y1 := F1.out.cellz 8
    have R1 := Lib.hid r1
    have K1 := Lib.hid k1
    clear r1 k1 c1
    simp only [frC, List.getElem?_toArray, List.getElem?_cons_zero, List.getElem?_cons_succ] at y1
    go_wp2_with fail
    have K4 : Kept [fb] w1 (w1.setCell ⟨fb, 8, none⟩ (.int .i64 (V % 2147483648))) := (Kept.refl [fb] w1).setCell (p := ⟨fb, 8, none⟩) (.inl (by simp)) _
    have F4 := F1.out.set (f' := { f with inc := V % 2147483648 }) 8 (.int .i64 (V % 2147483648)) rfl
    exact hQ.out _ _ (Fr.Is.mk rfl rfl) (H.out.step (R1.out.kept K4 (by simp; omega)) F4 ((K1.out.wide (L' := [rb, fb]) (by simp)).trans K4 (by simp)))

set_option maxRecDepth 100000 in
set_option maxHeartbeats 1000000 in
theorem num_r0 {Q : Exit → Act → World → Prop} {rb fb : Nat} {ps : Array Value} (a : Act) (w : World)
    (ha : Fr.Is 41 [(0, .pointer (some ⟨rb, 0, none⟩)), (1, .pointer (some ⟨fb, 0, none⟩)), (2, .agg ps)] a)
    (hQ : Hid (∀ a', Fr.Is 41 [(0, .pointer (some ⟨rb, 0, none⟩)), (1, .pointer (some ⟨fb, 0, none⟩)), (5, .pointer (some ⟨w.heap.size, 0, none⟩))] a' → Q .normal a' (w.alloc (.cells ps 64)))) :
    (Fr.reg Tryd.f48 0).wp Tryd.prog Q a w := by
  obtain ⟨fr, rfl, hfr⟩ := ha.lit
  simp only [List.map_cons, List.map_nil, List.cons.injEq, and_true] at hfr
  conv => arg 2; whnf
  simp only [List.range, List.range.loop, List.map_cons, List.map_nil, hfr]
  clear hfr ha
  go_wp2_with fail
  exact hQ.out _ (Fr.Is.mk rfl rfl)
theorem sPad_len (p : PtM) (x : FrM × List UInt8) : (sPad p x).2.length = x.2.length - (if p.pad then 1 else 0) := by unfold sPad; split <;> simp
theorem sOrd_len (p : PtM) (x : FrM × List UInt8) : (sOrd p x).2.length = x.2.length - (if p.order then 5 else 0) := by unfold sOrd; split <;> simp
theorem sLast_len (p : PtM) (x : FrM × List UInt8) : (sLast p x).2.length = x.2.length - (if p.last then 4 else 0) := by unfold sLast; split <;> simp
theorem sCode_len (p : PtM) (x : FrM × List UInt8) : (sCode p x).2.length = x.2.length - (if p.code then 4 else 0) := by unfold sCode; split <;> simp
set_option maxRecDepth 100000 in
set_option maxHeartbeats 1000000 in
theorem rnumbers_any {W : World} {rb fb : Nat} {p : PtM} {sa : Option Addr} {sc : Nat} (f : FrM) (l : List UInt8) (w : World) (h : Rd W rb l w) (hf : Fb fb f sa sc w) (hlo : W.heap.size ≤ fb) (hne : fb ≠ rb) (hn : aheadN p ≤ l.length) :
    Calls Tryd.prog 48 #[.pointer (some ⟨rb, 0, none⟩), .pointer (some ⟨fb, 0, none⟩), .agg (ptC p)] w fun e w' => e = .returned (.tuple #[]) ∧ Rd W rb (numF p (f, l)).2 w' ∧ Fb fb (numF p (f, l)).1 sa sc w' ∧ Kept [rb, fb] w w' := by
  go_enter Tryd.func48, Tryd.ntmps48
  refine wp_seq ?_
  refine num_r0 (rb := rb) (fb := fb) (ps := ptC p) _ w (Fr.Is.mk rfl rfl) (Lib.hid (fun a1 h1 => ?_))
  have hk : Kept [rb, fb] w (w.alloc (.cells (ptC p) 64)) := (Kept.refl _ _).alloc _
  have hfl : fb < w.heap.size := (Array.getElem?_eq_some_iff.1 hf).1
  have hrl := h.lt
  have hS : NSt W w rb fb w.heap.size p sa sc (f, l) (w.alloc (.cells (ptC p) 64)) := ⟨h.kept (Kept.of_below ((Below.refl _ _).alloc (Nat.le_refl _) _) (L := [])) (by simp), hf.kept (Kept.of_below ((Below.refl _ _).alloc (Nat.le_refl _) _) (L := [])) (by simp), heap_alloc_new w _, hlo, ⟨hne, by omega, by omega⟩, hk⟩
  have q1 := sPad_len p (f, l)
  have q2 := sOrd_len p (sPad p (f, l))
  have q3 := sLast_len p (sOrd p (sPad p (f, l)))
  have q4 := sCode_len p (sLast p (sOrd p (sPad p (f, l))))
  simp only at q1
  unfold aheadN at hn
  generalize g1 : (if p.pad = true then 1 else 0) = k1 at *
  generalize g2 : (if p.order = true then 5 else 0) = k2 at *
  generalize g3 : (if p.last = true then 4 else 0) = k3 at *
  generalize g4 : (if p.code = true then 4 else 0) = k4 at *
  generalize g5 : (if p.inc = true then 4 else 0) = k5 at *
  refine wp_seq ?_
  refine num_pad f l a1 _ hS (fun hp => by rw [hp] at g1; simp at g1; omega) h1 (Lib.hid (fun a2 w2 h2 hS2 => ?_))
  refine wp_seq ?_
  refine num_order (sPad p (f, l)).1 (sPad p (f, l)).2 a2 w2 hS2 (fun hp => by rw [hp] at g2; simp at g2; omega) h2 (Lib.hid (fun a3 w3 h3 hS3 => ?_))
  refine wp_seq ?_
  refine num_last (sOrd p (sPad p (f, l))).1 (sOrd p (sPad p (f, l))).2 a3 w3 hS3 (fun hp => by rw [hp] at g3; simp at g3; omega) h3 (Lib.hid (fun a4 w4 h4 hS4 => ?_))
  refine wp_seq ?_
  refine num_code (sLast p (sOrd p (sPad p (f, l)))).1 (sLast p (sOrd p (sPad p (f, l)))).2 a4 w4 hS4 (fun hp => by rw [hp] at g4; simp at g4; omega) h4 (Lib.hid (fun a5 w5 h5 hS5 => ?_))
  refine num_inc (sCode p (sLast p (sOrd p (sPad p (f, l))))).1 (sCode p (sLast p (sOrd p (sPad p (f, l))))).2 a5 w5 hS5 (fun hp => by rw [hp] at g5; simp at g5; omega) h5 (Lib.hid (fun a6 w6 h6 hS6 => ?_))
  obtain ⟨fr, rfl, hfr⟩ := h6.lit
  go_end0
  exact ⟨rfl, hS6.rd, hS6.fr, hS6.kept⟩
end Go.Proofs.YtdilgkkkhmmffaaDoor
