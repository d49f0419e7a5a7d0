/- Layer 4: the program's Add. (One declaration for each statement.) -/
import Derived.Test.YtifaecmmnconpaaTabP1
import Derived.Test.YtifaecmmnconpaaTabP2a
import Derived.Test.YtifaecmmnconpaaTabP2
import Derived.Test.YtifaecmmnconpaaTabP3
import Derived.Test.YtifaecmmnconpaaTabP4
import Derived.Test.YtifaecmmnconpaaShelf
import Derived.WalkKit
import Derived.WalkSpells
import Derived.WalkLawsBesides
import Derived.Lib.Hide
import Derived.Outline
import Derived.RegionTactic
import Derived.IntWalk
import Derived.Deep.RegionHeld3
namespace Go.Proofs.Ytifaecmmnconpaa
open Go.RowKit
open Arg Tab Mem Go.Proofs.Ytifaecmmnconpaa.Obj
set_option linter.unusedVariables false

noncomputable def addCode (k : Nat) : Code := navR k (Try.f18.body.getD .skip)
noncomputable def addStep (k : Nat) : Code := navL (addCode k)
theorem kept_cell {L : List Nat} {w w' : World} (h : Kept L w w') {k : Nat} (hk : k ∉ L) {o : Nat} {v : Value} (hc : w.cell? ⟨k, o, none⟩ = some v) : w'.cell? ⟨k, o, none⟩ = some v :=
  (World.cell?_of_block (a := ⟨k, o, none⟩) (h.block k (World.block_lt_of_cell? w ⟨k, o, none⟩ hc) hk)).trans hc

theorem pclone_any (s : ByteArray) (w : World) (hs : s.size ≤ 281474976710656) :
    Calls Try.prog 32 #[.string s] w fun e w' => e = .returned (.string s) ∧ Below w.heap.size w w' := by
  have HC := Lib.hid (fun v => Try.stringslite_Clone s v hs)
  go_enter Try.func32, Try.ntmps32
  go_wp2_with fail
  refine (HC.out _).mono ?_; rintro e w1 ⟨rfl, b1⟩
  go_wp2_with fail
  go_ret
  exact ⟨rfl, b1⟩

set_option maxHeartbeats 2000000 in
theorem add_s0 {x2 x3 x4 x5 x6 x7 x8 x9 x10 x11 x12 x13 x14 x15 x16 x17 x18 x19 x20 x21 x22 x23 x24 x25 x26 x27 x28 x29 x30 x31 x32 x33 x34 x35 x36 : Value} {K : Act → World → Prop} {R : Ending → World → Prop} (g bf : Nat) (fn fv : ByteArray) (fb : Bool) (w : World) (hbf : w.heap.size = bf)
    (hQ : Hid (∀ (y1 y2 y4 y5 y6 y7 y8 y9 y10 y11 y12 y13 y14 y15 y16 y17 y18 y19 y20 y21 y22 y23 y24 y25 y26 y27 y28 y29 y30 y31 y32 y33 y34 y35 y36 : Value), K ⟨((.pointer (some ⟨g, 0, none⟩) : Value) :: y1 :: y2 :: (.pointer (some ⟨bf, 0, none⟩) : Value) :: y4 :: y5 :: y6 :: y7 :: y8 :: y9 :: y10 :: y11 :: y12 :: y13 :: y14 :: y15 :: y16 :: y17 :: y18 :: y19 :: y20 :: y21 :: y22 :: y23 :: y24 :: y25 :: y26 :: y27 :: y28 :: y29 :: y30 :: y31 :: y32 :: y33 :: y34 :: y35 :: y36 :: []).toArray, []⟩ (w.alloc (.cells #[.string fn, .string fv, .bool fb] 36)))) :
    Code.wp Try.prog (addStep 0) (Exit.then K (bodyPost Try.prog Try.f18 R)) ⟨((.pointer (some ⟨g, 0, none⟩) : Value) :: (.agg #[.string fn, .string fv, .bool fb] : Value) :: x2 :: x3 :: x4 :: x5 :: x6 :: x7 :: x8 :: x9 :: x10 :: x11 :: x12 :: x13 :: x14 :: x15 :: x16 :: x17 :: x18 :: x19 :: x20 :: x21 :: x22 :: x23 :: x24 :: x25 :: x26 :: x27 :: x28 :: x29 :: x30 :: x31 :: x32 :: x33 :: x34 :: x35 :: x36 :: []).toArray, []⟩ w := by
  conv => arg 2; whnf
  subst hbf
  go_wp2_with fail
  exact hQ.out _ _ _ _ _ _ _ _ _ _ _ _ _ _ _ _ _ _ _ _ _ _ _ _ _ _ _ _ _ _ _ _ _ _ _

set_option maxHeartbeats 2000000 in
theorem add_s1 {x1 x2 x4 x5 x6 x7 x8 x9 x10 x11 x12 x13 x14 x15 x16 x17 x18 x19 x20 x21 x22 x23 x24 x25 x26 x27 x28 x29 x30 x31 x32 x33 x34 x35 x36 : Value} {K : Act → World → Prop} {R : Ending → World → Prop} (g bf : Nat) (w : World)
    (hQ : Hid (∀ (y1 y2 y4 y5 y6 y7 y8 y9 y10 y11 y12 y13 y14 y15 y16 y17 y18 y19 y20 y21 y22 y23 y24 y25 y26 y27 y28 y29 y30 y31 y32 y33 y34 y35 y36 : Value), K ⟨((.pointer (some ⟨g, 0, none⟩) : Value) :: y1 :: y2 :: (.pointer (some ⟨bf, 0, none⟩) : Value) :: y4 :: y5 :: y6 :: y7 :: y8 :: y9 :: y10 :: y11 :: y12 :: y13 :: y14 :: y15 :: y16 :: y17 :: y18 :: y19 :: y20 :: y21 :: y22 :: y23 :: y24 :: y25 :: y26 :: y27 :: y28 :: y29 :: y30 :: y31 :: y32 :: y33 :: y34 :: y35 :: y36 :: []).toArray, []⟩ w)) :
    Code.wp Try.prog (addStep 1) (Exit.then K (bodyPost Try.prog Try.f18 R)) ⟨((.pointer (some ⟨g, 0, none⟩) : Value) :: x1 :: x2 :: (.pointer (some ⟨bf, 0, none⟩) : Value) :: x4 :: x5 :: x6 :: x7 :: x8 :: x9 :: x10 :: x11 :: x12 :: x13 :: x14 :: x15 :: x16 :: x17 :: x18 :: x19 :: x20 :: x21 :: x22 :: x23 :: x24 :: x25 :: x26 :: x27 :: x28 :: x29 :: x30 :: x31 :: x32 :: x33 :: x34 :: x35 :: x36 :: []).toArray, []⟩ w := by
  conv => arg 2; whnf
  go_wp2_with fail
  exact hQ.out _ _ _ _ _ _ _ _ _ _ _ _ _ _ _ _ _ _ _ _ _ _ _ _ _ _ _ _ _ _ _ _ _ _ _

set_option maxHeartbeats 2000000 in
theorem add_s2 {x1 x2 x4 x5 x6 x7 x8 x9 x10 x11 x12 x13 x14 x15 x16 x17 x18 x19 x20 x21 x22 x23 x24 x25 x26 x27 x28 x29 x30 x31 x32 x33 x34 x35 x36 : Value} {K : Act → World → Prop} {R : Ending → World → Prop} (g bf bx : Nat) (fn fv : ByteArray) (w : World) (hbx : w.heap.size = bx) (d0 : w.cell? ⟨bf, 0, none⟩ = some (.string fn)) (d1 : w.cell? ⟨bf, 1, none⟩ = some (.string fv))
    (hQ : Hid (∀ (y1 y2 y3 y5 y6 y7 y8 y9 y10 y11 y12 y13 y14 y15 y16 y17 y18 y19 y20 y21 y22 y23 y24 y25 y26 y27 y28 y29 y30 y31 y32 y33 y34 y35 y36 : Value), K ⟨((.pointer (some ⟨g, 0, none⟩) : Value) :: y1 :: y2 :: y3 :: (.pointer (some ⟨bx, 0, none⟩) : Value) :: y5 :: y6 :: y7 :: y8 :: y9 :: y10 :: y11 :: y12 :: y13 :: y14 :: y15 :: y16 :: y17 :: y18 :: y19 :: y20 :: y21 :: y22 :: y23 :: y24 :: y25 :: y26 :: y27 :: y28 :: y29 :: y30 :: y31 :: y32 :: y33 :: y34 :: y35 :: y36 :: []).toArray, []⟩ (w.alloc (.cells #[.string fn, .string fv] 58)))) :
    Code.wp Try.prog (addStep 2) (Exit.then K (bodyPost Try.prog Try.f18 R)) ⟨((.pointer (some ⟨g, 0, none⟩) : Value) :: x1 :: x2 :: (.pointer (some ⟨bf, 0, none⟩) : Value) :: x4 :: x5 :: x6 :: x7 :: x8 :: x9 :: x10 :: x11 :: x12 :: x13 :: x14 :: x15 :: x16 :: x17 :: x18 :: x19 :: x20 :: x21 :: x22 :: x23 :: x24 :: x25 :: x26 :: x27 :: x28 :: x29 :: x30 :: x31 :: x32 :: x33 :: x34 :: x35 :: x36 :: []).toArray, []⟩ w := by
  conv => arg 2; whnf
  subst hbx
  go_wp2_with fail
  exact hQ.out _ _ _ _ _ _ _ _ _ _ _ _ _ _ _ _ _ _ _ _ _ _ _ _ _ _ _ _ _ _ _ _ _ _ _

set_option maxHeartbeats 2000000 in
theorem add_s3 {x1 x2 x3 x5 x6 x7 x8 x9 x10 x11 x12 x13 x14 x15 x16 x17 x18 x19 x20 x21 x22 x23 x24 x25 x26 x27 x28 x29 x30 x31 x32 x33 x34 x35 x36 : Value} {K : Act → World → Prop} {R : Ending → World → Prop} (L : List Nat) (g bx m C c : Nat) (rows : List FdM) (fn fv : ByteArray) (w : World) (h : PTs w L g m rows c) (hbx : bx ∉ L) (e0 : w.cell? ⟨bx, 0, none⟩ = some (.string fn)) (e1 : w.cell? ⟨bx, 1, none⟩ = some (.string fv))
    (HCo : Hid (∀ v, Calls Try.prog 30 #[.agg #[.string fn, .string fv]] v fun e w' => e = .returned (.int .i64 C) ∧ Below v.heap.size v w')) (hm : m ≤ 65536) (hC : C ≤ 562949953421312)
    (hQ : Hid (∀ w', PTs w' L g m (fit ((m : Int) - C).toNat rows) c → Kept L w w' → w'.cell? ⟨bx, 0, none⟩ = some (.string fn) → w'.cell? ⟨bx, 1, none⟩ = some (.string fv) → ∀ (y1 y2 y3 y5 y6 y7 y8 y9 y10 y11 y12 y13 y14 y15 y16 y17 y18 y19 y20 y21 y22 y23 y24 y25 y26 y27 y28 y29 y30 y31 y32 y33 y34 y35 y36 : Value), K ⟨((.pointer (some ⟨g, 0, none⟩) : Value) :: y1 :: y2 :: y3 :: (.pointer (some ⟨bx, 0, none⟩) : Value) :: y5 :: y6 :: y7 :: y8 :: y9 :: y10 :: y11 :: y12 :: y13 :: y14 :: y15 :: y16 :: y17 :: y18 :: y19 :: y20 :: y21 :: y22 :: y23 :: y24 :: y25 :: y26 :: y27 :: y28 :: y29 :: y30 :: y31 :: y32 :: y33 :: y34 :: y35 :: y36 :: []).toArray, []⟩ w')) :
    Code.wp Try.prog (addStep 3) (Exit.then K (bodyPost Try.prog Try.f18 R)) ⟨((.pointer (some ⟨g, 0, none⟩) : Value) :: x1 :: x2 :: x3 :: (.pointer (some ⟨bx, 0, none⟩) : Value) :: x5 :: x6 :: x7 :: x8 :: x9 :: x10 :: x11 :: x12 :: x13 :: x14 :: x15 :: x16 :: x17 :: x18 :: x19 :: x20 :: x21 :: x22 :: x23 :: x24 :: x25 :: x26 :: x27 :: x28 :: x29 :: x30 :: x31 :: x32 :: x33 :: x34 :: x35 :: x36 :: []).toArray, []⟩ w := by
  conv => arg 2; whnf
  obtain ⟨c0, ad, cap, b1, b2, hh, _, _, _, _⟩ := h.head
  have k0 := cell_at hh 0
  have HSh := Lib.hid (fun v (hv : Below w.heap.size w v) => pshrink_any L g m c rows ((m : Int) - C) v (h.below hv) (WalkArith.wf_i64 (by omega)))
  have hwr : IntKind.i64.wrap ((m : Int) - C) = (m : Int) - C := IntWalk.i64_in _ (by omega)
  have hb : Below w.heap.size w w.drew := (Below.refl _ _).drew
  have HG : Hid (∀ v, PTs v L g m (fit ((m : Int) - C).toNat rows) c → v.cell? ⟨g, 0, none⟩ = some (.int .i64 m)) := Lib.hid (fun v hv => by
    obtain ⟨c0, ad, cap, b1, b2, hh, _⟩ := hv.head
    exact cell_at hh 0)
  have HBx := Lib.hid hbx
  clear h hh hbx
  go_region_held3 (fun w' => w'.cell? ⟨bx, 0, none⟩ = some (.string fn) ∧ w'.cell? ⟨bx, 1, none⟩ = some (.string fv) ∧ w'.cell? ⟨g, 0, none⟩ = some (.int .i64 m))
    (first | exact ⟨kept_cell K3 HBx.out (below_cell hb e0), kept_cell K3 HBx.out (below_cell hb e1), HG.out _ T3⟩ | exact ⟨below_cell hb e0, below_cell hb e1, below_cell hb k0⟩ | go_keep)
    ((first | (go_at_call 30; refine (HCo.out _).mono ?_; rintro e w2 ⟨rfl, b2⟩; replace hb := below_step hb b2) | (go_at_call 29; refine (HSh.out _ hb).mono ?_; rintro e w3 ⟨rfl, T3, K3⟩)))
  all_goals exact hQ.out _ T3 (((Kept.refl L w).then hb).trans K3 (fun i hi => .inl hi)) (kept_cell K3 HBx.out (below_cell hb e0)) (kept_cell K3 HBx.out (below_cell hb e1)) _ _ _ _ _ _ _ _ _ _ _ _ _ _ _ _ _ _ _ _ _ _ _ _ _ _ _ _ _ _ _ _ _ _ _

set_option maxHeartbeats 2000000 in
theorem add_s4 {x1 x2 x3 x5 x6 x7 x8 x9 x10 x11 x12 x13 x14 x15 x16 x17 x18 x19 x20 x21 x22 x23 x24 x25 x26 x27 x28 x29 x30 x31 x32 x33 x34 x35 x36 : Value} {K : Act → World → Prop} {R : Ending → World → Prop} (g bx m C : Nat) (fn fv : ByteArray) (w : World) (k0 : w.cell? ⟨g, 0, none⟩ = some (.int .i64 m)) (e0 : w.cell? ⟨bx, 0, none⟩ = some (.string fn)) (e1 : w.cell? ⟨bx, 1, none⟩ = some (.string fv))
    (HCo : Hid (∀ v, Calls Try.prog 30 #[.agg #[.string fn, .string fv]] v fun e w' => e = .returned (.int .i64 C) ∧ Below v.heap.size v w'))
    (hG : m < C → Hid (∀ a' w', a'.defers = [] → Below w.heap.size w w' → (bodyPost Try.prog Try.f18 R) .ret a' w'))
    (hL : C ≤ m → Hid (∀ w', Below w.heap.size w w' → ∀ (y1 y2 y3 y5 y6 y7 y8 y9 y10 y11 y12 y13 y14 y15 y16 y17 y18 y19 y20 y21 y22 y23 y24 y25 y26 y27 y28 y29 y30 y31 y32 y33 y34 y35 y36 : Value), K ⟨((.pointer (some ⟨g, 0, none⟩) : Value) :: y1 :: y2 :: y3 :: (.pointer (some ⟨bx, 0, none⟩) : Value) :: y5 :: y6 :: y7 :: y8 :: y9 :: y10 :: y11 :: y12 :: y13 :: y14 :: y15 :: y16 :: y17 :: y18 :: y19 :: y20 :: y21 :: y22 :: y23 :: y24 :: y25 :: y26 :: y27 :: y28 :: y29 :: y30 :: y31 :: y32 :: y33 :: y34 :: y35 :: y36 :: []).toArray, []⟩ w')) :
    Code.wp Try.prog (addStep 4) (Exit.then K (bodyPost Try.prog Try.f18 R)) ⟨((.pointer (some ⟨g, 0, none⟩) : Value) :: x1 :: x2 :: x3 :: (.pointer (some ⟨bx, 0, none⟩) : Value) :: x5 :: x6 :: x7 :: x8 :: x9 :: x10 :: x11 :: x12 :: x13 :: x14 :: x15 :: x16 :: x17 :: x18 :: x19 :: x20 :: x21 :: x22 :: x23 :: x24 :: x25 :: x26 :: x27 :: x28 :: x29 :: x30 :: x31 :: x32 :: x33 :: x34 :: x35 :: x36 :: []).toArray, []⟩ w := by
  conv => arg 2; whnf
  have hb : Below w.heap.size w w.drew := (Below.refl _ _).drew
  by_cases hgt : m < C
  · have hQ := hG hgt
    have hgt' : (m : Int) < C := by omega
    clear hG hL
    go_wp2_with fail
    go_region_held3 (fun w' => w'.cell? ⟨bx, 0, none⟩ = some (.string fn) ∧ w'.cell? ⟨bx, 1, none⟩ = some (.string fv) ∧ w'.cell? ⟨g, 0, none⟩ = some (.int .i64 m))
      (first | exact ⟨below_cell hb e0, below_cell hb e1, below_cell hb k0⟩ | go_keep)
      ((go_at_call 30; refine (HCo.out _).mono ?_; rintro e w2 ⟨rfl, b2⟩; replace hb := below_step hb b2))
    all_goals
      go_wp2_with fail
      exact hQ.out _ _ rfl hb
  · have hQ := hL (by omega)
    have hgt' : decide ((m : Int) < C) = false := by simp; omega
    clear hG hL
    go_wp2_with fail
    go_region_held3 (fun w' => w'.cell? ⟨bx, 0, none⟩ = some (.string fn) ∧ w'.cell? ⟨bx, 1, none⟩ = some (.string fv) ∧ w'.cell? ⟨g, 0, none⟩ = some (.int .i64 m))
      (first | exact ⟨below_cell hb e0, below_cell hb e1, below_cell hb k0⟩ | go_keep)
      ((go_at_call 30; refine (HCo.out _).mono ?_; rintro e w2 ⟨rfl, b2⟩; replace hb := below_step hb b2))
    all_goals
      go_wp2_with fail
      exact hQ.out _ hb _ _ _ _ _ _ _ _ _ _ _ _ _ _ _ _ _ _ _ _ _ _ _ _ _ _ _ _ _ _ _ _ _ _ _

set_option maxHeartbeats 2000000 in
theorem add_s5 {x1 x2 x3 x5 x6 x7 x8 x9 x10 x11 x12 x13 x14 x15 x16 x17 x18 x19 x20 x21 x22 x23 x24 x25 x26 x27 x28 x29 x30 x31 x32 x33 x34 x35 x36 : Value} {R : Ending → World → Prop} (L : List Nat) (g bx m c : Nat) (rows : List FdM) (fn fv : ByteArray) (w : World) (h : PTs w L g m rows c) (hbx : bx ∉ L) (e0 : w.cell? ⟨bx, 0, none⟩ = some (.string fn)) (e1 : w.cell? ⟨bx, 1, none⟩ = some (.string fv)) (hc : c < 1000000) (hsz : csum rows + (fn.size + fv.size + 32) ≤ 65536)
    (hQ : Hid (∀ a' v w', a'.defers = [] → Below w.heap.size w v → (∃ L', PTs w' L' g m (⟨fn, fv, false⟩ :: rows) (c + 1) ∧ Kept L v w' ∧ ∀ k ∈ L', k ∈ L ∨ v.heap.size ≤ k) → (bodyPost Try.prog Try.f18 R) .normal a' w')) :
    Code.wp Try.prog (addCode 5) (bodyPost Try.prog Try.f18 R) ⟨((.pointer (some ⟨g, 0, none⟩) : Value) :: x1 :: x2 :: x3 :: (.pointer (some ⟨bx, 0, none⟩) : Value) :: x5 :: x6 :: x7 :: x8 :: x9 :: x10 :: x11 :: x12 :: x13 :: x14 :: x15 :: x16 :: x17 :: x18 :: x19 :: x20 :: x21 :: x22 :: x23 :: x24 :: x25 :: x26 :: x27 :: x28 :: x29 :: x30 :: x31 :: x32 :: x33 :: x34 :: x35 :: x36 :: []).toArray, []⟩ w := by
  conv => arg 2; whnf
  have HP := Lib.hid (fun v (hv : Below w.heap.size w v) => ppush_any L g m c rows fn fv v (h.below hv) hc hsz)
  have HC1 := Lib.hid (fun v => pclone_any fn v (by omega))
  have HC2 := Lib.hid (fun v => pclone_any fv v (by omega))
  have hb : Below w.heap.size w w.drew := (Below.refl _ _).drew
  have HBx := Lib.hid hbx
  clear h hbx
  go_region_held3 (fun w' => w'.cell? ⟨bx, 0, none⟩ = some (.string fn) ∧ w'.cell? ⟨bx, 1, none⟩ = some (.string fv))
    (first | exact ⟨kept_cell T3.choose_spec.2.1 HBx.out (below_cell hb e0), kept_cell T3.choose_spec.2.1 HBx.out (below_cell hb e1)⟩ | exact ⟨below_cell hb e0, below_cell hb e1⟩ | go_keep)
    ((first | (go_at_call 31; refine (HP.out _ hb).mono ?_; rintro e w3 ⟨rfl, T3⟩) | (go_at_call 32; refine (HC1.out _).mono ?_; rintro e w2 ⟨rfl, b2⟩; replace hb := below_step hb b2) | (go_at_call 32; refine (HC2.out _).mono ?_; rintro e w2 ⟨rfl, b2⟩; replace hb := below_step hb b2)))
  all_goals exact hQ.out _ _ _ rfl hb T3

theorem padd_nil (f : FdM) (w : World) : Calls Try.prog 18 #[.pointer none, .agg #[.string f.name, .string f.value, .bool f.never]] w fun e w' => e = .returned (.tuple #[]) ∧ Below w.heap.size w w' := by
  obtain ⟨fn, fv, fb⟩ := f
  go_enter Try.func18, Try.ntmps18
  go_wp2_with fail
  exact bodyPost_ret (results_none rfl _ _ _) rfl ⟨rfl, (Below.refl _ _).alloc (Nat.le_refl _) _⟩

theorem padd_any (L : List Nat) (g m c : Nat) (rows : List FdM) (f : FdM) (w : World) (h : PTab w L g m rows c) (hc : c < 1000000) (hn : f.name.size ≤ 140737488351232) (hv : f.value.size ≤ 140737488351232) :
    Calls Try.prog 18 #[.pointer (some ⟨g, 0, none⟩), .agg #[.string f.name, .string f.value, .bool f.never]] w fun e w' => e = .returned (.tuple #[]) ∧ ∃ L', PTab w' L' g m (addT m rows f) (c + 1) ∧ Kept L w w' ∧ ∀ k ∈ L', k ∈ L ∨ w.heap.size ≤ k := by
  have hsum := h.sum
  have hkb := h.blocks
  obtain ⟨fn, fv, fb⟩ := f
  simp only at hn hv ⊢
  obtain ⟨C, hC⟩ : ∃ C, C = fn.size + fv.size + 32 := ⟨_, rfl⟩
  have hcost : cost ⟨fn, fv, fb⟩ = C := by rw [hC]; rfl
  have HCo : Hid (∀ v, Calls Try.prog 30 #[.agg #[.string fn, .string fv]] v fun e w' => e = .returned (.int .i64 C) ∧ Below v.heap.size v w') := Lib.hid (fun v => by rw [hC]; exact pcost_any fn fv v hn hv)
  have hE : ∀ (x : Exit) (a' : Act) (w2 : World), (x = .normal ∨ x = .ret) → a'.defers = [] → (∃ L', PTab w2 L' g m (addT m rows ⟨fn, fv, fb⟩) (c + 1) ∧ Kept L w w2 ∧ ∀ k ∈ L', k ∈ L ∨ w.heap.size ≤ k) → bodyPost Try.prog Try.f18 (fun e w' => e = .returned (.tuple #[]) ∧ ∃ L', PTab w' L' g m (addT m rows ⟨fn, fv, fb⟩) (c + 1) ∧ Kept L w w' ∧ ∀ k ∈ L', k ∈ L ∨ w.heap.size ≤ k) x a' w2 := fun x a' w2 hx hd hE => by
    obtain ⟨tm, df⟩ := a'
    simp only at hd
    subst hd
    rcases hx with rfl | rfl <;> exact ⟨rfl, _, results_none rfl _ _ _, rfl, hE⟩
  have hB1 : Below w.heap.size w (w.alloc (.cells #[.string fn, .string fv, .bool fb] 36)) := (Below.refl _ _).alloc (Nat.le_refl _) _
  have hbf := heap_alloc_new w (.cells #[.string fn, .string fv, .bool fb] 36)
  go_enter Try.func18, Try.ntmps18
  refine wp_seq ?_
  refine add_s0 g w.heap.size fn fv fb w rfl (Lib.hid ?_)
  intros
  generalize (w.alloc (.cells #[.string fn, .string fv, .bool fb] 36)) = w1 at hB1 hbf ⊢
  refine wp_seq ?_
  refine add_s1 g w.heap.size w1 (Lib.hid ?_)
  intros
  refine wp_seq ?_
  refine add_s2 g w.heap.size w1.heap.size fn fv w1 rfl (cell_at hbf 0) (cell_at hbf 1) (Lib.hid ?_)
  intros
  have hB2 : Below w.heap.size w (w1.alloc (.cells #[.string fn, .string fv] 58)) := below_step hB1 ((Below.refl _ _).alloc (Nat.le_refl _) _)
  have hbx := heap_alloc_new w1 (.cells #[.string fn, .string fv] 58)
  generalize (w1.alloc (.cells #[.string fn, .string fv] 58)) = w2 at hB2 hbx ⊢
  have hnL : w1.heap.size ∉ L := fun hm => by have := hkb _ hm; have := hB1.size; omega
  refine wp_seq ?_
  refine add_s3 L g w1.heap.size m C c rows fn fv w2 (h.below hB2).1 hnL (cell_at hbx 0) (cell_at hbx 1) HCo (by omega) (by omega) (Lib.hid ?_)
  intro w3 T3 K3 e0 e1
  intros
  have hK3 : Kept L w w3 := ((Kept.refl L w).then hB2).trans K3 (fun i hi => .inl hi)
  have hto : ((m : Int) - C).toNat = m - C := by omega
  rw [hto] at T3
  obtain ⟨_, _, _, _, _, hh3, _⟩ := T3.head
  refine wp_seq ?_
  refine add_s4 g w1.heap.size m C fn fv w3 (cell_at hh3 0) e0 e1 HCo (fun hgt => Lib.hid (fun a' w4 hd b4 => hE .ret a' w4 (.inr rfl) hd ?_)) (fun hle => Lib.hid ?_)
  · have hT : addT m rows ⟨fn, fv, fb⟩ = [] := by rw [addT, if_pos (by rw [hcost]; exact hgt)]
    have h0 : fit (m - C) rows = [] := by
      rw [show m - C = 0 by omega]
      cases rows with
      | nil => rfl
      | cons x r => rw [fit, if_neg (by show ¬ x.name.size + x.value.size + 32 ≤ 0; omega)]
    rw [h0] at T3
    rw [hT]
    obtain ⟨c0, ad, cap, q1, q2, n1, n2, hP, z1, z2, z3, z4, z5⟩ := T3.below b4
    exact ⟨L, ⟨⟨c0, ad, cap, q1, q2, n1, n2, hP, by omega, by omega, by omega, z4, z5⟩, by simp [csum]⟩, hK3.then b4, fun k hk => .inl hk⟩
  · intro w4 b4
    intros
    have hT : addT m rows ⟨fn, fv, fb⟩ = ⟨fn, fv, false⟩ :: fit (m - C) rows := by rw [addT, if_neg (by rw [hcost]; omega), hcost]
    have hfs := fit_sum rows (m - C)
    refine add_s5 L g w1.heap.size m c (fit (m - C) rows) fn fv w4 (T3.below b4) hnL (below_cell b4 e0) (below_cell b4 e1) hc (by omega) (Lib.hid (fun a' v w5 hd bv hT5 => hE .normal a' w5 (.inl rfl) hd ?_))
    obtain ⟨L', T5, K5, hL5⟩ := hT5
    have hKv := (hK3.then b4).then bv
    rw [hT]
    refine ⟨L', ⟨T5, ?_⟩, hKv.trans K5 (fun i hi => .inl hi), fun k hk => ?_⟩
    · show cost ⟨fn, fv, false⟩ + csum (fit (m - C) rows) ≤ m
      have : cost ⟨fn, fv, false⟩ = C := by rw [hC]; rfl
      omega
    · have := hKv.size
      rcases hL5 k hk with h | h
      · exact .inl h
      · exact .inr (by omega)
end Go.Proofs.Ytifaecmmnconpaa
