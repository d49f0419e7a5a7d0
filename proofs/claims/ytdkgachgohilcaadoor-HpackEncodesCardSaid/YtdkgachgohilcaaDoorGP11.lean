/- Layer 4: the program's Add. (One declaration for each statement.) A region whose operations only reckon and make memory out of what is known: run by the kernel, in whatever world. A region whose operations reckon out of constants, and a great array stored at its end: run by the kernel but for the store. Layer 4: the program's rows that never change. -/
import Derived.Test.YtdkgachgohilcaaDoorGP08
import Derived.Test.YtdkgachgohilcaaDoorGP09
import Derived.Test.YtdkgachgohilcaaDoorGP10
import Derived.Test.YtdkgachgohilcaaDoorShelf
import Derived.WalkKit
import Derived.WalkSpells
import Derived.WalkLawsBesides
import Derived.Lib.Hide
import Derived.Outline
import Derived.RegionTactic
import Derived.IntWalk
import Derived.Deep.RegionHeld3
import Derived.Deep.MidRow
import Derived.Test.YtdkgachgohilcaaDoorRows
import Derived.Deep.Cut
set_option linter.unusedVariables false
set_option linter.unusedSimpArgs false
namespace Go.Proofs.YtdkgachgohilcaaDoor
open Go.RowKit
open Arg Tab Mem Go.Proofs.YtdkgachgohilcaaDoor.Obj
set_option linter.unusedVariables false

noncomputable def addCode (k : Nat) : Code := navR k (Tryd.f73.body.getD .skip)
noncomputable def addStep (k : Nat) : Code := navL (addCode k)
theorem kept_cell {L : List Nat} {w w' : World} (h : Kept L w w') {k : Nat} (hk : k ∉ L) {o : Nat} {v : Value} (hc : w.cell? ⟨k, o, none⟩ = some v) : w'.cell? ⟨k, o, none⟩ = some v :=
  (World.cell?_of_block (a := ⟨k, o, none⟩) (h.block k (World.block_lt_of_cell? w ⟨k, o, none⟩ hc) hk)).trans hc

theorem pclone_any (s : ByteArray) (w : World) (hs : s.size ≤ 281474976710656) :
    Calls Tryd.prog 96 #[.string s] w fun e w' => e = .returned (.string s) ∧ Below w.heap.size w w' := by
  have HC := Lib.hid (fun v => Tryd.stringslite_Clone s v hs)
  go_enter Tryd.func96, Tryd.ntmps96
  go_wp2_with fail
  refine (HC.out _).mono ?_; rintro e w1 ⟨rfl, b1⟩
  go_wp2_with fail
  go_ret
  exact ⟨rfl, b1⟩

set_option maxRecDepth 100000 in
set_option maxHeartbeats 2000000 in
theorem add_s0 {x2 x3 x4 x5 x6 x7 x8 x9 x10 x11 x12 x13 x14 x15 x16 x17 x18 x19 x20 x21 x22 x23 x24 x25 x26 x27 x28 x29 x30 x31 x32 x33 x34 x35 x36 : Value} {K : Act → World → Prop} {R : Ending → World → Prop} (g bf : Nat) (fn fv : ByteArray) (fb : Bool) (w : World) (hbf : w.heap.size = bf)
    (hQ : Hid (∀ (y1 y2 y4 y5 y6 y7 y8 y9 y10 y11 y12 y13 y14 y15 y16 y17 y18 y19 y20 y21 y22 y23 y24 y25 y26 y27 y28 y29 y30 y31 y32 y33 y34 y35 y36 : Value), K ⟨((.pointer (some ⟨g, 0, none⟩) : Value) :: y1 :: y2 :: (.pointer (some ⟨bf, 0, none⟩) : Value) :: y4 :: y5 :: y6 :: y7 :: y8 :: y9 :: y10 :: y11 :: y12 :: y13 :: y14 :: y15 :: y16 :: y17 :: y18 :: y19 :: y20 :: y21 :: y22 :: y23 :: y24 :: y25 :: y26 :: y27 :: y28 :: y29 :: y30 :: y31 :: y32 :: y33 :: y34 :: y35 :: y36 :: []).toArray, []⟩ (w.alloc (.cells #[.string fn, .string fv, .bool fb] 59)))) :
    Code.wp Tryd.prog (addStep 0) (Exit.then K (bodyPost Tryd.prog Tryd.f73 R)) ⟨((.pointer (some ⟨g, 0, none⟩) : Value) :: (.agg #[.string fn, .string fv, .bool fb] : Value) :: x2 :: x3 :: x4 :: x5 :: x6 :: x7 :: x8 :: x9 :: x10 :: x11 :: x12 :: x13 :: x14 :: x15 :: x16 :: x17 :: x18 :: x19 :: x20 :: x21 :: x22 :: x23 :: x24 :: x25 :: x26 :: x27 :: x28 :: x29 :: x30 :: x31 :: x32 :: x33 :: x34 :: x35 :: x36 :: []).toArray, []⟩ w := by
  conv => arg 2; whnf
  subst hbf
  go_wp2_with fail
  exact hQ.out _ _ _ _ _ _ _ _ _ _ _ _ _ _ _ _ _ _ _ _ _ _ _ _ _ _ _ _ _ _ _ _ _ _ _

set_option maxRecDepth 100000 in
set_option maxHeartbeats 2000000 in
theorem add_s1 {x1 x2 x4 x5 x6 x7 x8 x9 x10 x11 x12 x13 x14 x15 x16 x17 x18 x19 x20 x21 x22 x23 x24 x25 x26 x27 x28 x29 x30 x31 x32 x33 x34 x35 x36 : Value} {K : Act → World → Prop} {R : Ending → World → Prop} (g bf : Nat) (w : World)
    (hQ : Hid (∀ (y1 y2 y4 y5 y6 y7 y8 y9 y10 y11 y12 y13 y14 y15 y16 y17 y18 y19 y20 y21 y22 y23 y24 y25 y26 y27 y28 y29 y30 y31 y32 y33 y34 y35 y36 : Value), K ⟨((.pointer (some ⟨g, 0, none⟩) : Value) :: y1 :: y2 :: (.pointer (some ⟨bf, 0, none⟩) : Value) :: y4 :: y5 :: y6 :: y7 :: y8 :: y9 :: y10 :: y11 :: y12 :: y13 :: y14 :: y15 :: y16 :: y17 :: y18 :: y19 :: y20 :: y21 :: y22 :: y23 :: y24 :: y25 :: y26 :: y27 :: y28 :: y29 :: y30 :: y31 :: y32 :: y33 :: y34 :: y35 :: y36 :: []).toArray, []⟩ w)) :
    Code.wp Tryd.prog (addStep 1) (Exit.then K (bodyPost Tryd.prog Tryd.f73 R)) ⟨((.pointer (some ⟨g, 0, none⟩) : Value) :: x1 :: x2 :: (.pointer (some ⟨bf, 0, none⟩) : Value) :: x4 :: x5 :: x6 :: x7 :: x8 :: x9 :: x10 :: x11 :: x12 :: x13 :: x14 :: x15 :: x16 :: x17 :: x18 :: x19 :: x20 :: x21 :: x22 :: x23 :: x24 :: x25 :: x26 :: x27 :: x28 :: x29 :: x30 :: x31 :: x32 :: x33 :: x34 :: x35 :: x36 :: []).toArray, []⟩ w := by
  conv => arg 2; whnf
  go_wp2_with fail
  exact hQ.out _ _ _ _ _ _ _ _ _ _ _ _ _ _ _ _ _ _ _ _ _ _ _ _ _ _ _ _ _ _ _ _ _ _ _

set_option maxRecDepth 100000 in
set_option maxHeartbeats 2000000 in
theorem add_s2 {x1 x2 x4 x5 x6 x7 x8 x9 x10 x11 x12 x13 x14 x15 x16 x17 x18 x19 x20 x21 x22 x23 x24 x25 x26 x27 x28 x29 x30 x31 x32 x33 x34 x35 x36 : Value} {K : Act → World → Prop} {R : Ending → World → Prop} (g bf bx : Nat) (fn fv : ByteArray) (w : World) (hbx : w.heap.size = bx) (d0 : w.cell? ⟨bf, 0, none⟩ = some (.string fn)) (d1 : w.cell? ⟨bf, 1, none⟩ = some (.string fv))
    (hQ : Hid (∀ (y1 y2 y3 y5 y6 y7 y8 y9 y10 y11 y12 y13 y14 y15 y16 y17 y18 y19 y20 y21 y22 y23 y24 y25 y26 y27 y28 y29 y30 y31 y32 y33 y34 y35 y36 : Value), K ⟨((.pointer (some ⟨g, 0, none⟩) : Value) :: y1 :: y2 :: y3 :: (.pointer (some ⟨bx, 0, none⟩) : Value) :: y5 :: y6 :: y7 :: y8 :: y9 :: y10 :: y11 :: y12 :: y13 :: y14 :: y15 :: y16 :: y17 :: y18 :: y19 :: y20 :: y21 :: y22 :: y23 :: y24 :: y25 :: y26 :: y27 :: y28 :: y29 :: y30 :: y31 :: y32 :: y33 :: y34 :: y35 :: y36 :: []).toArray, []⟩ (w.alloc (.cells #[.string fn, .string fv] 118)))) :
    Code.wp Tryd.prog (addStep 2) (Exit.then K (bodyPost Tryd.prog Tryd.f73 R)) ⟨((.pointer (some ⟨g, 0, none⟩) : Value) :: x1 :: x2 :: (.pointer (some ⟨bf, 0, none⟩) : Value) :: x4 :: x5 :: x6 :: x7 :: x8 :: x9 :: x10 :: x11 :: x12 :: x13 :: x14 :: x15 :: x16 :: x17 :: x18 :: x19 :: x20 :: x21 :: x22 :: x23 :: x24 :: x25 :: x26 :: x27 :: x28 :: x29 :: x30 :: x31 :: x32 :: x33 :: x34 :: x35 :: x36 :: []).toArray, []⟩ w := by
  conv => arg 2; whnf
  subst hbx
  go_wp2_with fail
  exact hQ.out _ _ _ _ _ _ _ _ _ _ _ _ _ _ _ _ _ _ _ _ _ _ _ _ _ _ _ _ _ _ _ _ _ _ _

set_option maxRecDepth 100000 in
set_option maxHeartbeats 2000000 in
theorem add_s3 {x1 x2 x3 x5 x6 x7 x8 x9 x10 x11 x12 x13 x14 x15 x16 x17 x18 x19 x20 x21 x22 x23 x24 x25 x26 x27 x28 x29 x30 x31 x32 x33 x34 x35 x36 : Value} {K : Act → World → Prop} {R : Ending → World → Prop} (L : List Nat) (g bx m C c : Nat) (rows : List FdM) (fn fv : ByteArray) (w : World) (h : PTs w L g m rows c) (hbx : bx ∉ L) (e0 : w.cell? ⟨bx, 0, none⟩ = some (.string fn)) (e1 : w.cell? ⟨bx, 1, none⟩ = some (.string fv))
    (HCo : Hid (∀ v, Calls Tryd.prog 94 #[.agg #[.string fn, .string fv]] v fun e w' => e = .returned (.int .i64 C) ∧ Below v.heap.size v w')) (hm : m ≤ 65536) (hC : C ≤ 562949953421312)
    (hQ : Hid (∀ w', PTs w' L g m (fit ((m : Int) - C).toNat rows) c → Kept L w w' → w'.cell? ⟨bx, 0, none⟩ = some (.string fn) → w'.cell? ⟨bx, 1, none⟩ = some (.string fv) → ∀ (y1 y2 y3 y5 y6 y7 y8 y9 y10 y11 y12 y13 y14 y15 y16 y17 y18 y19 y20 y21 y22 y23 y24 y25 y26 y27 y28 y29 y30 y31 y32 y33 y34 y35 y36 : Value), K ⟨((.pointer (some ⟨g, 0, none⟩) : Value) :: y1 :: y2 :: y3 :: (.pointer (some ⟨bx, 0, none⟩) : Value) :: y5 :: y6 :: y7 :: y8 :: y9 :: y10 :: y11 :: y12 :: y13 :: y14 :: y15 :: y16 :: y17 :: y18 :: y19 :: y20 :: y21 :: y22 :: y23 :: y24 :: y25 :: y26 :: y27 :: y28 :: y29 :: y30 :: y31 :: y32 :: y33 :: y34 :: y35 :: y36 :: []).toArray, []⟩ w')) :
    Code.wp Tryd.prog (addStep 3) (Exit.then K (bodyPost Tryd.prog Tryd.f73 R)) ⟨((.pointer (some ⟨g, 0, none⟩) : Value) :: x1 :: x2 :: x3 :: (.pointer (some ⟨bx, 0, none⟩) : Value) :: x5 :: x6 :: x7 :: x8 :: x9 :: x10 :: x11 :: x12 :: x13 :: x14 :: x15 :: x16 :: x17 :: x18 :: x19 :: x20 :: x21 :: x22 :: x23 :: x24 :: x25 :: x26 :: x27 :: x28 :: x29 :: x30 :: x31 :: x32 :: x33 :: x34 :: x35 :: x36 :: []).toArray, []⟩ w := by
  conv => arg 2; whnf
  obtain ⟨c0, ad, cap, b1, b2, hh, _, _, _, _⟩ := h.head
  have k0 := cell_at hh 0
  have HSh := Lib.hid (fun v (hv : Below w.heap.size w v) => pshrink_any L g m c rows ((m : Int) - C) v (h.below hv) (WalkArith.wf_i64 (by omega)))
  have hwr : IntKind.i64.wrap ((m : Int) - C) = (m : Int) - C := IntWalk.i64_in _ (by omega)
  have hb : Below w.heap.size w w.drew := (Below.refl _ _).drew
  have HG : Hid (∀ v, PTs v L g m (fit ((m : Int) - C).toNat rows) c → v.cell? ⟨g, 0, none⟩ = some (.int .i64 m)) := Lib.hid (fun v hv => by
    obtain ⟨c0, ad, cap, b1, b2, hh, _⟩ := hv.head
    exact cell_at hh 0)
  have HBx := Lib.hid hbx
  clear h hh hbx
  go_region_held3 (fun w' => w'.cell? ⟨bx, 0, none⟩ = some (.string fn) ∧ w'.cell? ⟨bx, 1, none⟩ = some (.string fv) ∧ w'.cell? ⟨g, 0, none⟩ = some (.int .i64 m))
    (first | exact ⟨kept_cell K3 HBx.out (below_cell hb e0), kept_cell K3 HBx.out (below_cell hb e1), HG.out _ T3⟩ | exact ⟨below_cell hb e0, below_cell hb e1, below_cell hb k0⟩ | go_keep)
    ((first | (go_at_call 94; refine (HCo.out _).mono ?_; rintro e w2 ⟨rfl, b2⟩; replace hb := below_step hb b2) | (go_at_call 60; refine (HSh.out _ hb).mono ?_; rintro e w3 ⟨rfl, T3, K3⟩)))
  all_goals exact hQ.out _ T3 (((Kept.refl L w).then hb).trans K3 (fun i hi => .inl hi)) (kept_cell K3 HBx.out (below_cell hb e0)) (kept_cell K3 HBx.out (below_cell hb e1)) _ _ _ _ _ _ _ _ _ _ _ _ _ _ _ _ _ _ _ _ _ _ _ _ _ _ _ _ _ _ _ _ _ _ _

set_option maxRecDepth 100000 in
set_option maxHeartbeats 2000000 in
theorem add_s4 {x1 x2 x3 x5 x6 x7 x8 x9 x10 x11 x12 x13 x14 x15 x16 x17 x18 x19 x20 x21 x22 x23 x24 x25 x26 x27 x28 x29 x30 x31 x32 x33 x34 x35 x36 : Value} {K : Act → World → Prop} {R : Ending → World → Prop} (g bx m C : Nat) (fn fv : ByteArray) (w : World) (k0 : w.cell? ⟨g, 0, none⟩ = some (.int .i64 m)) (e0 : w.cell? ⟨bx, 0, none⟩ = some (.string fn)) (e1 : w.cell? ⟨bx, 1, none⟩ = some (.string fv))
    (HCo : Hid (∀ v, Calls Tryd.prog 94 #[.agg #[.string fn, .string fv]] v fun e w' => e = .returned (.int .i64 C) ∧ Below v.heap.size v w'))
    (hG : m < C → Hid (∀ a' w', a'.defers = [] → Below w.heap.size w w' → (bodyPost Tryd.prog Tryd.f73 R) .ret a' w'))
    (hL : C ≤ m → Hid (∀ w', Below w.heap.size w w' → ∀ (y1 y2 y3 y5 y6 y7 y8 y9 y10 y11 y12 y13 y14 y15 y16 y17 y18 y19 y20 y21 y22 y23 y24 y25 y26 y27 y28 y29 y30 y31 y32 y33 y34 y35 y36 : Value), K ⟨((.pointer (some ⟨g, 0, none⟩) : Value) :: y1 :: y2 :: y3 :: (.pointer (some ⟨bx, 0, none⟩) : Value) :: y5 :: y6 :: y7 :: y8 :: y9 :: y10 :: y11 :: y12 :: y13 :: y14 :: y15 :: y16 :: y17 :: y18 :: y19 :: y20 :: y21 :: y22 :: y23 :: y24 :: y25 :: y26 :: y27 :: y28 :: y29 :: y30 :: y31 :: y32 :: y33 :: y34 :: y35 :: y36 :: []).toArray, []⟩ w')) :
    Code.wp Tryd.prog (addStep 4) (Exit.then K (bodyPost Tryd.prog Tryd.f73 R)) ⟨((.pointer (some ⟨g, 0, none⟩) : Value) :: x1 :: x2 :: x3 :: (.pointer (some ⟨bx, 0, none⟩) : Value) :: x5 :: x6 :: x7 :: x8 :: x9 :: x10 :: x11 :: x12 :: x13 :: x14 :: x15 :: x16 :: x17 :: x18 :: x19 :: x20 :: x21 :: x22 :: x23 :: x24 :: x25 :: x26 :: x27 :: x28 :: x29 :: x30 :: x31 :: x32 :: x33 :: x34 :: x35 :: x36 :: []).toArray, []⟩ w := by
  conv => arg 2; whnf
  have hb : Below w.heap.size w w.drew := (Below.refl _ _).drew
  by_cases hgt : m < C
  · have hQ := hG hgt
    have hgt' : (m : Int) < C := by omega
    clear hG hL
    go_wp2_with fail
    go_region_held3 (fun w' => w'.cell? ⟨bx, 0, none⟩ = some (.string fn) ∧ w'.cell? ⟨bx, 1, none⟩ = some (.string fv) ∧ w'.cell? ⟨g, 0, none⟩ = some (.int .i64 m))
      (first | exact ⟨below_cell hb e0, below_cell hb e1, below_cell hb k0⟩ | go_keep)
      ((go_at_call 94; refine (HCo.out _).mono ?_; rintro e w2 ⟨rfl, b2⟩; replace hb := below_step hb b2))
    all_goals
      go_wp2_with fail
      exact hQ.out _ _ rfl hb
  · have hQ := hL (by omega)
    have hgt' : decide ((m : Int) < C) = false := by simp; omega
    clear hG hL
    go_wp2_with fail
    go_region_held3 (fun w' => w'.cell? ⟨bx, 0, none⟩ = some (.string fn) ∧ w'.cell? ⟨bx, 1, none⟩ = some (.string fv) ∧ w'.cell? ⟨g, 0, none⟩ = some (.int .i64 m))
      (first | exact ⟨below_cell hb e0, below_cell hb e1, below_cell hb k0⟩ | go_keep)
      ((go_at_call 94; refine (HCo.out _).mono ?_; rintro e w2 ⟨rfl, b2⟩; replace hb := below_step hb b2))
    all_goals
      go_wp2_with fail
      exact hQ.out _ hb _ _ _ _ _ _ _ _ _ _ _ _ _ _ _ _ _ _ _ _ _ _ _ _ _ _ _ _ _ _ _ _ _ _ _

set_option maxRecDepth 100000 in
set_option maxHeartbeats 2000000 in
theorem add_s5 {x1 x2 x3 x5 x6 x7 x8 x9 x10 x11 x12 x13 x14 x15 x16 x17 x18 x19 x20 x21 x22 x23 x24 x25 x26 x27 x28 x29 x30 x31 x32 x33 x34 x35 x36 : Value} {R : Ending → World → Prop} (L : List Nat) (g bx m c : Nat) (rows : List FdM) (fn fv : ByteArray) (w : World) (h : PTs w L g m rows c) (hbx : bx ∉ L) (e0 : w.cell? ⟨bx, 0, none⟩ = some (.string fn)) (e1 : w.cell? ⟨bx, 1, none⟩ = some (.string fv)) (hc : c < 1000000) (hsz : csum rows + (fn.size + fv.size + 32) ≤ 65536)
    (hQ : Hid (∀ a' v w', a'.defers = [] → Below w.heap.size w v → (∃ L', PTs w' L' g m (⟨fn, fv, false⟩ :: rows) (c + 1) ∧ Kept L v w' ∧ ∀ k ∈ L', k ∈ L ∨ v.heap.size ≤ k) → (bodyPost Tryd.prog Tryd.f73 R) .normal a' w')) :
    Code.wp Tryd.prog (addCode 5) (bodyPost Tryd.prog Tryd.f73 R) ⟨((.pointer (some ⟨g, 0, none⟩) : Value) :: x1 :: x2 :: x3 :: (.pointer (some ⟨bx, 0, none⟩) : Value) :: x5 :: x6 :: x7 :: x8 :: x9 :: x10 :: x11 :: x12 :: x13 :: x14 :: x15 :: x16 :: x17 :: x18 :: x19 :: x20 :: x21 :: x22 :: x23 :: x24 :: x25 :: x26 :: x27 :: x28 :: x29 :: x30 :: x31 :: x32 :: x33 :: x34 :: x35 :: x36 :: []).toArray, []⟩ w := by
  conv => arg 2; whnf
  have HP := Lib.hid (fun v (hv : Below w.heap.size w v) => ppush_any L g m c rows fn fv v (h.below hv) hc hsz)
  have HC1 := Lib.hid (fun v => pclone_any fn v (by omega))
  have HC2 := Lib.hid (fun v => pclone_any fv v (by omega))
  have hb : Below w.heap.size w w.drew := (Below.refl _ _).drew
  have HBx := Lib.hid hbx
  clear h hbx
  go_region_held3 (fun w' => w'.cell? ⟨bx, 0, none⟩ = some (.string fn) ∧ w'.cell? ⟨bx, 1, none⟩ = some (.string fv))
    (first | exact ⟨kept_cell T3.choose_spec.2.1 HBx.out (below_cell hb e0), kept_cell T3.choose_spec.2.1 HBx.out (below_cell hb e1)⟩ | exact ⟨below_cell hb e0, below_cell hb e1⟩ | go_keep)
    ((first | (go_at_call 95; refine (HP.out _ hb).mono ?_; rintro e w3 ⟨rfl, T3⟩) | (go_at_call 96; refine (HC1.out _).mono ?_; rintro e w2 ⟨rfl, b2⟩; replace hb := below_step hb b2) | (go_at_call 96; refine (HC2.out _).mono ?_; rintro e w2 ⟨rfl, b2⟩; replace hb := below_step hb b2)))
  all_goals exact hQ.out _ _ _ rfl hb T3

theorem padd_nil (f : FdM) (w : World) : Calls Tryd.prog 73 #[.pointer none, .agg #[.string f.name, .string f.value, .bool f.never]] w fun e w' => e = .returned (.tuple #[]) ∧ Below w.heap.size w w' := by
  obtain ⟨fn, fv, fb⟩ := f
  go_enter Tryd.func73, Tryd.ntmps73
  go_wp2_with fail
  exact bodyPost_ret (results_none rfl _ _ _) rfl ⟨rfl, (Below.refl _ _).alloc (Nat.le_refl _) _⟩

theorem padd_any (L : List Nat) (g m c : Nat) (rows : List FdM) (f : FdM) (w : World) (h : PTab w L g m rows c) (hc : c < 1000000) (hn : f.name.size ≤ 140737488351232) (hv : f.value.size ≤ 140737488351232) :
    Calls Tryd.prog 73 #[.pointer (some ⟨g, 0, none⟩), .agg #[.string f.name, .string f.value, .bool f.never]] w fun e w' => e = .returned (.tuple #[]) ∧ ∃ L', PTab w' L' g m (addT m rows f) (c + 1) ∧ Kept L w w' ∧ ∀ k ∈ L', k ∈ L ∨ w.heap.size ≤ k := by
  have hsum := h.sum
  have hkb := h.blocks
  obtain ⟨fn, fv, fb⟩ := f
  simp only at hn hv ⊢
  obtain ⟨C, hC⟩ : ∃ C, C = fn.size + fv.size + 32 := ⟨_, rfl⟩
  have hcost : cost ⟨fn, fv, fb⟩ = C := by rw [hC]; rfl
  have HCo : Hid (∀ v, Calls Tryd.prog 94 #[.agg #[.string fn, .string fv]] v fun e w' => e = .returned (.int .i64 C) ∧ Below v.heap.size v w') := Lib.hid (fun v => by rw [hC]; exact pcost_any fn fv v hn hv)
  have hE : ∀ (x : Exit) (a' : Act) (w2 : World), (x = .normal ∨ x = .ret) → a'.defers = [] → (∃ L', PTab w2 L' g m (addT m rows ⟨fn, fv, fb⟩) (c + 1) ∧ Kept L w w2 ∧ ∀ k ∈ L', k ∈ L ∨ w.heap.size ≤ k) → bodyPost Tryd.prog Tryd.f73 (fun e w' => e = .returned (.tuple #[]) ∧ ∃ L', PTab w' L' g m (addT m rows ⟨fn, fv, fb⟩) (c + 1) ∧ Kept L w w' ∧ ∀ k ∈ L', k ∈ L ∨ w.heap.size ≤ k) x a' w2 := fun x a' w2 hx hd hE => by
    obtain ⟨tm, df⟩ := a'
    simp only at hd
    subst hd
    rcases hx with rfl | rfl <;> exact ⟨rfl, _, results_none rfl _ _ _, rfl, hE⟩
  have hB1 : Below w.heap.size w (w.alloc (.cells #[.string fn, .string fv, .bool fb] 59)) := (Below.refl _ _).alloc (Nat.le_refl _) _
  have hbf := heap_alloc_new w (.cells #[.string fn, .string fv, .bool fb] 59)
  go_enter Tryd.func73, Tryd.ntmps73
  refine wp_seq ?_
  refine add_s0 g w.heap.size fn fv fb w rfl (Lib.hid ?_)
  intros
  generalize (w.alloc (.cells #[.string fn, .string fv, .bool fb] 59)) = w1 at hB1 hbf ⊢
  refine wp_seq ?_
  refine add_s1 g w.heap.size w1 (Lib.hid ?_)
  intros
  refine wp_seq ?_
  refine add_s2 g w.heap.size w1.heap.size fn fv w1 rfl (cell_at hbf 0) (cell_at hbf 1) (Lib.hid ?_)
  intros
  have hB2 : Below w.heap.size w (w1.alloc (.cells #[.string fn, .string fv] 118)) := below_step hB1 ((Below.refl _ _).alloc (Nat.le_refl _) _)
  have hbx := heap_alloc_new w1 (.cells #[.string fn, .string fv] 118)
  generalize (w1.alloc (.cells #[.string fn, .string fv] 118)) = w2 at hB2 hbx ⊢
  have hnL : w1.heap.size ∉ L := fun hm => by have := hkb _ hm; have := hB1.size; omega
  refine wp_seq ?_
  refine add_s3 L g w1.heap.size m C c rows fn fv w2 (h.below hB2).1 hnL (cell_at hbx 0) (cell_at hbx 1) HCo (by omega) (by omega) (Lib.hid ?_)
  intro w3 T3 K3 e0 e1
  intros
  have hK3 : Kept L w w3 := ((Kept.refl L w).then hB2).trans K3 (fun i hi => .inl hi)
  have hto : ((m : Int) - C).toNat = m - C := by omega
  rw [hto] at T3
  obtain ⟨_, _, _, _, _, hh3, _⟩ := T3.head
  refine wp_seq ?_
  refine add_s4 g w1.heap.size m C fn fv w3 (cell_at hh3 0) e0 e1 HCo (fun hgt => Lib.hid (fun a' w4 hd b4 => hE .ret a' w4 (.inr rfl) hd ?_)) (fun hle => Lib.hid ?_)
  · have hT : addT m rows ⟨fn, fv, fb⟩ = [] := by rw [addT, if_pos (by rw [hcost]; exact hgt)]
    have h0 : fit (m - C) rows = [] := by
      rw [show m - C = 0 by omega]
      cases rows with
      | nil => rfl
      | cons x r => rw [fit, if_neg (by show ¬ x.name.size + x.value.size + 32 ≤ 0; omega)]
    rw [h0] at T3
    rw [hT]
    obtain ⟨c0, ad, cap, q1, q2, n1, n2, hP, z1, z2, z3, z4, z5⟩ := T3.below b4
    exact ⟨L, ⟨⟨c0, ad, cap, q1, q2, n1, n2, hP, by omega, by omega, by omega, z4, z5⟩, by simp [csum]⟩, hK3.then b4, fun k hk => .inl hk⟩
  · intro w4 b4
    intros
    have hT : addT m rows ⟨fn, fv, fb⟩ = ⟨fn, fv, false⟩ :: fit (m - C) rows := by rw [addT, if_neg (by rw [hcost]; omega), hcost]
    have hfs := fit_sum rows (m - C)
    refine add_s5 L g w1.heap.size m c (fit (m - C) rows) fn fv w4 (T3.below b4) hnL (below_cell b4 e0) (below_cell b4 e1) hc (by omega) (Lib.hid (fun a' v w5 hd bv hT5 => hE .normal a' w5 (.inl rfl) hd ?_))
    obtain ⟨L', T5, K5, hL5⟩ := hT5
    have hKv := (hK3.then b4).then bv
    rw [hT]
    refine ⟨L', ⟨T5, ?_⟩, hKv.trans K5 (fun i hi => .inl hi), fun k hk => ?_⟩
    · show cost ⟨fn, fv, false⟩ + csum (fit (m - C) rows) ≤ m
      have : cost ⟨fn, fv, false⟩ = C := by rw [hC]; rfl
      omega
    · have := hKv.size
      rcases hL5 k hk with h | h
      · exact .inl h
      · exact .inr (by omega)
end Go.Proofs.YtdkgachgohilcaaDoor

namespace Go.Proofs.YtdkgachgohilcaaDoor
open Go.RowKit
namespace Run

/-- One operation that yields a value. -/
def stepV (P : Program) (ops : Array Oper) (o : Oper) (a : Act) (w : World) : Option (Act × World) :=
  if Region.wanted o (yielded ops a.tmps) then match (execOp a.eval o).run P w with
    | .ok (.value v) w' => some (a.put o.dst v, w')
    | _ => none
  else some (a.put o.dst undef, w)
def runV (P : Program) (ops : Array Oper) : List Oper → Act → World → Option (Act × World)
  | [], a, w => some (a, w)
  | o :: r, a, w => match stepV P ops o a w with
    | none => none
    | some (a', w') => runV P ops r a' w'

theorem runV_list {P : Program} {ops : Array Oper} {Q : Exit → Act → World → Prop} : ∀ {l : List Oper} {a : Act} {w : World} {a' : Act} {w' : World}, runV P ops l a w = some (a', w') → Q .normal a' w' → wpList P ops Q l a w
  | [], a, w, a', w', h, hq => by
    simp only [runV, Option.some.injEq, Prod.mk.injEq] at h
    obtain ⟨rfl, rfl⟩ := h
    exact wpList_nil hq
  | o :: r, a, w, a', w', h, hq => by
    unfold runV at h
    split at h
    · cases h
    · rename_i a1 w1 hs
      refine wpList_step fun K hK => ?_
      unfold stepV at hs
      split
      · rename_i hw
        rw [if_pos hw] at hs
        split at hs
        · rename_i v w2 hrun
          simp only [Option.some.injEq, Prod.mk.injEq] at hs
          obtain ⟨rfl, rfl⟩ := hs
          unfold Oper.wp
          rw [hrun]
          exact hK _ _ (runV_list h hq)
        · cases hs
      · rename_i hw
        rw [if_neg hw] at hs
        simp only [Option.some.injEq, Prod.mk.injEq] at hs
        obtain ⟨rfl, rfl⟩ := hs
        exact hK _ _ (runV_list h hq)

/-- A region run by the kernel: one slot of what it leaves, and the world. -/
theorem wp_region_slot {P : Program} {id : Nat} {l : List Oper} {Q : Exit → Act → World → Prop} {a : Act} {w : World} (s : Nat) (v : Value) (w' : World)
    (h : (runV P l.toArray l a w).map (fun r => (r.1.tmps.getD s undef, r.1.defers, r.1.tmps.size, r.2)) = some (v, a.defers, a.tmps.size, w'))
    (hq : ∀ a' : Act, a'.tmps.getD s undef = v → a'.defers = a.defers → a'.tmps.size = a.tmps.size → Q .normal a' w') : (Code.region id l.toArray false).wp P Q a w := by
  refine wp_region_lit ?_
  rw [Option.map_eq_some_iff] at h
  obtain ⟨⟨a', w2⟩, h1, h2⟩ := h
  simp only [Prod.mk.injEq] at h2
  obtain ⟨h3, h4, h5, rfl⟩ := h2
  exact runV_list h1 (hq a' h3 h4 h5)
end Run
end Go.Proofs.YtdkgachgohilcaaDoor

namespace Go.Proofs.YtdkgachgohilcaaDoor
open Go.RowKit
namespace Run

theorem runV_then {P : Program} {ops : Array Oper} {Q : Exit → Act → World → Prop} {l2 : List Oper} : ∀ {l : List Oper} {a : Act} {w : World} {a' : Act} {w' : World}, runV P ops l a w = some (a', w') → wpList P ops Q l2 a' w' → wpList P ops Q (l ++ l2) a w
  | [], a, w, a', w', h, hq => by
    simp only [runV, Option.some.injEq, Prod.mk.injEq] at h
    obtain ⟨rfl, rfl⟩ := h
    exact hq
  | o :: r, a, w, a', w', h, hq => by
    unfold runV at h
    split at h
    · cases h
    · rename_i a1 w1 hs
      refine wpList_step fun K hK => ?_
      unfold stepV at hs
      split
      · rename_i hw
        rw [if_pos hw] at hs
        split at hs
        · rename_i v w2 hrun
          simp only [Option.some.injEq, Prod.mk.injEq] at hs
          obtain ⟨rfl, rfl⟩ := hs
          unfold Oper.wp
          rw [hrun]
          exact hK _ _ (runV_then h hq)
        · cases hs
      · rename_i hw
        rw [if_neg hw] at hs
        simp only [Option.some.injEq, Prod.mk.injEq] at hs
        obtain ⟨rfl, rfl⟩ := hs
        exact hK _ _ (runV_then h hq)

/-- The last of a region's operations stores an array of the call's own reckoning into a block that is there. -/
theorem wp_region_store {P : Program} {id : Nat} {l : List Oper} {Q : Exit → Act → World → Prop} {a : Act} {w : World} (n p s : Nat) (o : Oper) (ty : TypeId) (b : Nat) (cells : Array Value)
    (hd : l.drop n = [o]) (ho : o.op = .store ty (.tmp p) (.tmp s)) (hgd : o.guard = none) (hdst : o.dst = none)
    (h : (runV P l.toArray (l.take n) a w).map (fun r => (r.1.tmps.getD p undef, r.1.tmps.getD s undef, r.1.defers, r.1.tmps.size, r.2)) = some (.pointer (some ⟨b, 0, none⟩), .agg cells, a.defers, a.tmps.size, w))
    (ht : w.there b 0 cells.size) (hi : (P.info? ty).map (·.size) = some cells.size) (h1 : cells.all (·.oneCell') = true)
    (hq : ∀ a' : Act, a'.tmps.getD p undef = .pointer (some ⟨b, 0, none⟩) → a'.defers = a.defers → a'.tmps.size = a.tmps.size → Q .normal a' (w.setCells b 0 cells.toList)) : (Code.region id l.toArray false).wp P Q a w := by
  refine wp_region_lit ?_
  rw [Option.map_eq_some_iff] at h
  obtain ⟨⟨a', w2⟩, h1', h2⟩ := h
  simp only [Prod.mk.injEq] at h2
  obtain ⟨hp, hs, hdf, hsz, rfl⟩ := h2
  rw [← List.take_append_drop n l, hd]
  have hl : l.take n ++ [o] = l := by rw [← hd]; exact List.take_append_drop n l
  rw [hl]
  rw [← hl]
  rw [hl]
  refine (show wpList P l.toArray Q (l.take n ++ [o]) a w2 from ?_) |> fun h => by rwa [hl] at h
  refine runV_then h1' ?_
  refine wpList_store_mid hgd ty (.tmp p) (.tmp s) ho b 0 cells hp hs ht hi h1 (wpList_nil ?_)
  rw [hdst]
  exact hq _ hp hdf hsz
/-- A region of one operation run by the kernel. -/
theorem wp_region_put {P : Program} {id : Nat} {l : List Oper} {Q : Exit → Act → World → Prop} {a : Act} {w : World} (s : Nat) (v : Value) (w' : World)
    (h : runV P l.toArray l a w = some (a.put (some s) v, w')) (hq : Q .normal (a.put (some s) v) w') : (Code.region id l.toArray false).wp P Q a w := by
  refine wp_region_lit ?_
  exact runV_list h hq
end Run
end Go.Proofs.YtdkgachgohilcaaDoor

namespace Go.Proofs.YtdkgachgohilcaaDoor
open Go.RowKit
open Arg Tab Run Mem Go.Proofs.YtdkgachgohilcaaDoor.Obj
set_option linter.unusedVariables false

def noFd : FdM := ⟨ByteArray.empty, ByteArray.empty, false⟩
/-- By their numbers; none has the number 0. -/
def fixL : List FdM := noFd :: statics
def FIX : Array Value := (Rw.flat EPr fixL).toArray
theorem fixL_len : fixL.length = 62 := rfl
theorem FIX_size : FIX.size = 124 := by kernel_rfl
theorem FIX_one : FIX.all (·.oneCell') = true := by kernel_rfl
def zeroFix : Array Value := (List.replicate 124 (Value.string ByteArray.empty)).toArray
theorem info_fix : (Tryd.prog.info? 119).map (·.size) = some FIX.size := by kernel_rfl
theorem under_fix : ∃ d, Tryd.prog.underlying 119 = some d ∧ d.isRow = true := ⟨_, Tryd.underlying119, rfl⟩

theorem fix_there (w : World) : (w.alloc (.cells zeroFix 119)).there w.heap.size 0 FIX.size := by
  intro j hj
  have hh := heap_alloc_new w (.cells zeroFix 119)
  rw [FIX_size] at hj
  refine ⟨?_, frozen_of_row _ _ _ _ _ hh⟩
  rw [Nat.zero_add, cell_at hh j, Array.getElem?_eq_getElem (by simp [zeroFix]; omega)]; rfl

theorem results_cell {P : Program} {fn : Func} {s : Tmp} {t : TypeId} (h : fn.results = #[.cell s t]) {tmps : Array Value} {w : World} {b : Addr} {v : Value} (hp : tmps.getD s undef = .pointer (some b)) (hl : (loadVar t b).run P w = .ok v w) : (results fn tmps).run P w = .ok v w := by
  unfold results
  rw [h]
  have hp' : tmps[s]?.getD undef = .pointer (some b) := by rw [← hp]; simp [Array.getD_eq_getD_getElem?]
  simp [asAddr, hp', hl, Result.andThen]

set_option maxRecDepth 100000 in
theorem pfixed_any (w : World) :
    Calls Tryd.prog 75 #[] w fun e w' => e = .returned (.agg FIX) ∧ Below w.heap.size w w' := by
  have HT := Lib.hid (fix_there w)
  go_enter Tryd.func75, Tryd.ntmps75
  refine wp_seq ?_
  refine wp_region_put 0 (.pointer (some ⟨w.heap.size, 0, none⟩)) (w.alloc (.cells zeroFix 119)) (by kernel_rfl) ?_
  have HB : Below w.heap.size w (w.alloc (.cells zeroFix 119)) := (Below.refl _ _).alloc (Nat.le_refl _) _
  generalize hbw : w.heap.size = b at HT ⊢
  generalize w.alloc (.cells zeroFix 119) = w1 at HT HB ⊢
  change Code.wp _ _ _ _ _
  refine wp_seq ?_
  refine wp_region_store 62 0 62 _ 119 b FIX rfl rfl rfl rfl (by kernel_rfl) HT.out info_fix FIX_one ?_
  rintro ⟨tm, df⟩ ht hd hs
  simp only at ht hd
  have hd' : df = [] := hd
  subst hd'
  obtain ⟨d, hu, hrow⟩ := under_fix
  have hload := run_loadVar_mid (P := Tryd.prog) (w1.setCells b 0 FIX.toList) b 0 119 FIX.toList d (World.rangeAt_setCells_same w1 b 0 FIX.toList (by simpa using HT.out)) hu hrow (by simpa using info_fix)
  rw [Array.toArray_toList] at hload
  have hbel : Below b w (w1.setCells b 0 FIX.toList) := by
    subst hbw
    exact HB.grown (Rw.grown_setCells w.heap.size _ _ _) HB.size (fun j hj => by cases hj; exact Nat.le_refl _)
  change Code.wp _ Code.ret _ _ _
  refine wp_ret ?_
  generalize w1.setCells b 0 FIX.toList = w2 at hload hbel ⊢
  generalize FIX = F at hload ⊢
  exact ⟨rfl, .agg F, results_cell rfl ht hload, rfl, hbel⟩

theorem FIX_at (n : Nat) (h : n < fixL.length) : FIX.extract (n * 2) (n * 2 + 2) = #[.string fixL[n].name, .string fixL[n].value] := by
  have h0 := Rw.flat_of EPr fixL n 0 h (.string fixL[n].name) rfl
  have h1 := Rw.flat_of EPr fixL n 1 h (.string fixL[n].value) rfl
  have e : EPr.k = 2 := rfl
  rw [e] at h0 h1
  have hlen := FIX_size
  rw [fixL_len] at h
  apply Array.ext_getElem?
  intro i
  rw [Array.getElem?_extract]
  rcases i with _ | _ | i
  · rw [if_pos (by omega)]; simpa [FIX] using h0
  · rw [if_pos (by omega)]; simpa [FIX] using h1
  · rw [if_neg (by omega)]; rfl
theorem size_pr (w : World) : (sizeOf 118).run Tryd.prog w = .ok 2 w := by kernel_rfl
theorem agg_pr (w : World) : (isAgg 118).run Tryd.prog w = .ok true w := by kernel_rfl
theorem index_fix (n : Nat) (h : n < fixL.length) (w : World) : (Instr.index 119 (.agg FIX) (.int .i64 n)).run Tryd.prog w = .ok (.agg #[.string fixL[n].name, .string fixL[n].value]) w := by
  have he := FIX_at n h
  generalize fixL[n].name = a at he ⊢
  generalize fixL[n].value = b at he ⊢
  have h' : n < 62 := by rw [fixL_len] at h; omega
  have h0 : (0 : Int) ≤ n := by omega
  generalize FIX = F at he ⊢
  simp [Instr.index, asIntOf, run_underlying Tryd.underlying119, part, agg_pr, size_pr, Result.andThen, h', h0, he]

/-- The field that a row is told as. -/
theorem pfield_any (n v : ByteArray) (w : World) :
    Calls Tryd.prog 76 #[.agg #[.string n, .string v]] w fun e w' => e = .returned (.agg #[.string n, .string v, .bool false]) ∧ Below w.heap.size w w' := by
  go_enter Tryd.func76, Tryd.ntmps76
  go_wp2_with fail
  have hh : ((w.alloc (.cells #[.string n, .string v] 118)).alloc (.cells #[.string n, .string v, .bool false] 59)).heap[w.heap.size + 1]? = some (.cells #[.string n, .string v, .bool false] 59 (0, 0)) := by
    have h := heap_alloc_new (w.alloc (.cells #[.string n, .string v] 118)) (.cells #[.string n, .string v, .bool false] 59)
    rwa [show (w.alloc (.cells #[.string n, .string v] 118)).heap.size = w.heap.size + 1 by simp] at h
  have s0 := cell_at hh 0
  have s1 := cell_at hh 1
  have s2 := cell_at hh 2
  have HB : Below w.heap.size w ((w.alloc (.cells #[.string n, .string v] 118)).alloc (.cells #[.string n, .string v, .bool false] 59)) := ((Below.refl _ _).alloc (Nat.le_refl _) _).alloc (by simp) _
  generalize ((w.alloc (.cells #[.string n, .string v] 118)).alloc (.cells #[.string n, .string v, .bool false] 59)) = w2 at s0 s1 s2 HB ⊢
  clear hh
  exact bodyPost_ret (v := .agg #[.string n, .string v, .bool false]) (by simp [results, Tryd.results76, go_sem, s0, s1, s2]) rfl ⟨rfl, HB⟩
end Go.Proofs.YtdkgachgohilcaaDoor
