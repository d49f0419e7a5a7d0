/- Layer 4: the program's Find. -/
import Derived.Test.YtifaecmmnconpaaTab5
import Derived.Test.YtifaecmmnconpaaTabP1
import Derived.Test.YtifaecmmnconpaaTabP2a
import Derived.Test.YtifaecmmnconpaaTabP6
import Derived.WalkKit
import Derived.WalkSpells
import Derived.WalkLawsBesides
import Derived.Lib.Hide
import Derived.Outline
import Derived.RegionTactic
import Derived.IntWalk
import Derived.Deep.RegionHeld3
import Derived.Deep.LoopGhost
import Derived.BigQuiet
import Derived.Deep.QuietTactic
namespace Go.Proofs.Ytifaecmmnconpaa
open Go.RowKit
open Arg Tab Mem Go.Proofs.Ytifaecmmnconpaa.Obj
set_option linter.unusedVariables false

/-- The first of two numbers that isn't 0. -/
theorem por_any (b : Nat) (x y : Int) (w : World) (c0 : w.cell? ⟨b, 0, none⟩ = some (.int .i64 x)) (c1 : w.cell? ⟨b, 1, none⟩ = some (.int .i64 y)) :
    Calls Try.prog 35 #[.slice (some ⟨b, 0, none⟩) 2 2] w fun e w' => e = .returned (.int .i64 (if x ≠ 0 then x else y)) ∧ Below w.heap.size w w' := by
  have C0 := Lib.hid c0
  have C1 := Lib.hid c1
  clear c0 c1
  go_enter Try.func35, Try.ntmps35
  go_wp2_with fail
  go_loopw [8] (fun vi wr => ∃ k : Nat, k ≤ 2 ∧ vi = .int .i64 k ∧ wr = w ∧ Hid ((0 < k → x = 0) ∧ (1 < k → y = 0))) (fun vi _ => 2 - (intOf vi).toNat)
  case atStart => exact ⟨0, by omega, rfl, rfl, Lib.hid ⟨fun h => by omega, fun h => by omega⟩⟩
  case round =>
    obtain ⟨k, hk, rfl, rfl, HZ⟩ := hrel
    have c0 := C0.out
    have c1 := C1.out
    rcases (show k = 0 ∨ k = 1 ∨ k = 2 by omega) with rfl | rfl | rfl
    · by_cases hx : x = 0
      · subst hx
        clear HZ
        go_wp2_with fail
        go_roundw
        case rel => exact ⟨1, by omega, rfl, trivial, Lib.hid (by simp)⟩
        case measure => simp [intOf]
      · clear HZ
        go_wp2_with fail
        go_ret
        exact ⟨by simp [hx], Below.refl _ _⟩
    · have hx : x = 0 := HZ.out.1 (by omega)
      subst hx
      by_cases hy : y = 0
      · subst hy
        clear HZ
        go_wp2_with fail
        go_roundw
        case rel => exact ⟨2, by omega, rfl, trivial, Lib.hid (by simp)⟩
        case measure => simp [intOf]
      · clear HZ
        go_wp2_with fail
        go_ret
        exact ⟨by simp, Below.refl _ _⟩
    · have hx : x = 0 := HZ.out.1 (by omega)
      have hy : y = 0 := HZ.out.2 (by omega)
      subst hx hy
      clear HZ
      go_wp2_with fail
      go_ret
      exact ⟨by simp, Below.refl _ _⟩

set_option maxHeartbeats 2000000 in
theorem pfindfixed_any (n v : ByteArray) (w : World) :
    Calls Try.prog 33 #[.agg #[.string n, .string v]] w fun e w' => e = .returned (.tuple #[.int .i64 (fixF ⟨n, v, false⟩ statics 0 0).1, .int .i64 (fixF ⟨n, v, false⟩ statics 0 0).2]) ∧ Below w.heap.size w w' := by
  have HFx := Lib.hid (fun v => pfixed_any v)
  have HIx := Lib.hid (fun (k : Nat) (h : k < fixL.length) v => index_fix k h v)
  generalize hR : fixF ⟨n, v, false⟩ statics 0 0 = R
  have HR := Lib.hid hR
  clear hR
  generalize FIX = F at HFx HIx
  go_enter Try.func33, Try.ntmps33
  go_wp2_with fail
  have hbx := heap_alloc_new w (.cells #[.string n, .string v] 58)
  have hB : Below w.heap.size w (w.alloc (.cells #[.string n, .string v] 58)) := (Below.refl _ _).alloc (Nat.le_refl _) _
  generalize (w.alloc (.cells #[.string n, .string v] 58)) = w1 at hbx hB ⊢
  refine (HFx.out _).mono ?_; rintro e w2 ⟨rfl, b2⟩
  replace hbx := block_below b2 hbx
  replace hB := below_step hB b2
  clear b2 HFx
  generalize hbn : w.heap.size = bx at hbx ⊢
  have HBx := Lib.hid hbx
  have HB := Lib.hid hB
  clear hbx hB
  have HFn : Hid (∀ y, Below w2.heap.size w2 y → Below bx w y) := Lib.hid (fun y hy => by rw [← hbn]; exact below_step HB.out hy)
  have hlt1 : bx < w2.heap.size := (Array.getElem?_eq_some_iff.1 HBx.out).1
  go_wp2_with fail
  go_loopw [3, 7] (fun vn vi wr => ∃ (k near : Nat), k ≤ 62 ∧ near ≤ 62 ∧ vi = .int .i64 k ∧ vn = .int .i64 near ∧ Hid (fixF ⟨n, v, false⟩ (statics.drop (k - 1)) (k - 1) near = R) ∧ Below w2.heap.size w2 wr) (fun _ vi _ => 62 - (intOf vi).toNat)
  case atStart => exact ⟨0, 0, by omega, by omega, rfl, rfl, HR, Below.refl _ _⟩
  case round =>
    clear HR
    obtain ⟨k, near, hk, hnear, rfl, rfl, HF, hbel⟩ := hrel
    have y0 := below_cell hbel (cell_at HBx.out 0)
    have y1 := below_cell hbel (cell_at HBx.out 1)
    by_cases hlt : k < 62
    · have hlt' : (k : Int) < 62 := by omega
      have hix := HIx.out k (by rw [fixL_len]; exact hlt)
      by_cases hk0 : k = 0
      · subst hk0
        generalize fixL[0] = x at hix
        obtain ⟨xn, xv, xb⟩ := x
        simp only at hix
        have hix0 : ∀ v, (Instr.index 59 (.agg F) (.int .i64 0)).run Try.prog v = .ok (.agg #[.string xn, .string xv]) v := hix
        clear hix
        go_wp2_with fail
        have hbel2 := hbel.alloc hbel.size (.cells #[.string xn, .string xv] 58)
        go_roundw
        case rel => exact ⟨1, near, by omega, by omega, rfl, rfl, HF, hbel2⟩
        case measure => simp [intOf]
      · have hk1 : k - 1 < statics.length := by rw [statics_len]; omega
        have hfx : fixL[k]'(by rw [fixL_len]; exact hlt) = statics[k - 1] := by
          have h : fixL[k]? = some (statics[k - 1]'hk1) := by
            cases k with
            | zero => exact absurd rfl hk0
            | succ j => simp [fixL]
          exact (List.getElem?_eq_some_iff.1 h).2
        rw [hfx] at hix
        have HF1 : Hid (fixF ⟨n, v, false⟩ (statics[k - 1] :: statics.drop k) (k - 1) near = R) := Lib.hid (by
          have h := HF.out
          rw [List.drop_eq_getElem_cons hk1, show k - 1 + 1 = k by omega] at h
          exact h)
        clear HF hfx
        generalize statics[k - 1] = x at hix HF1
        obtain ⟨xn, xv, xb⟩ := x
        simp only at hix
        have HF2 : Hid ((if xn = n then (if xv = v then (k, if near = 0 then k else near) else fixF ⟨n, v, false⟩ (statics.drop k) k (if near = 0 then k else near)) else fixF ⟨n, v, false⟩ (statics.drop k) k near) = R) := Lib.hid (by
          have h := HF1.out
          rw [fixF_cons, show k - 1 + 1 = k by omega] at h
          exact h)
        clear HF1
        have hk0' : decide ((k : Int) = 0) = false := by simp; omega
        have hk0b : ((k : Int) == 0) = false := by rw [beq_eq_false_iff_ne]; omega
        have z0 : ∀ o, (wr.alloc o).cell? ⟨bx, 0, none⟩ = some (.string n) := fun o => (World.cell?_alloc_some wr ⟨bx, 0, none⟩ o (by rw [y0]; rfl)).trans y0
        have z1 : ∀ o, (wr.alloc o).cell? ⟨bx, 1, none⟩ = some (.string v) := fun o => (World.cell?_alloc_some wr ⟨bx, 1, none⟩ o (by rw [y1]; rfl)).trans y1
        have hbel2 := hbel.alloc hbel.size (.cells #[.string xn, .string xv] 58)
        have HBel2 := Lib.hid hbel2
        by_cases hq : xn = n
        · subst hq
          have hq1 := str_eq xn
          rw [if_pos rfl] at HF2
          by_cases hz : near = 0
          · have hz1 : ((near : Int) == 0) = true := by rw [beq_iff_eq]; omega
            rw [if_pos hz] at HF2
            subst hz
            by_cases hv : xv = v
            · subst hv
              have hv1 := str_eq xv
              have hR : R = (k, k) := by rw [← HF2.out, if_pos rfl]
              subst hR
              clear HF2
              have HBB := Lib.hid (HFn.out _ HBel2.out)
              clear hbel2
              go_wp2_with fail
              go_ret2
              exact ⟨rfl, HBB.out⟩
            · have hv1 := str_ne hv
              rw [if_neg hv] at HF2
              clear hv hbel2
              go_wp2_with fail
              go_roundw
              case rel => exact ⟨k + 1, k, by omega, by omega, by go_num, by go_num, by simpa using HF2, HBel2.out⟩
              case measure => simp [intOf]; omega
          · have hz1 : ((near : Int) == 0) = false := by rw [beq_eq_false_iff_ne]; omega
            rw [if_neg hz] at HF2
            by_cases hv : xv = v
            · subst hv
              have hv1 := str_eq xv
              have hR : R = (k, near) := by rw [← HF2.out, if_pos rfl]
              subst hR
              have HBB := Lib.hid (HFn.out _ HBel2.out)
              clear HF2 hbel2 hz
              go_wp2_with fail
              go_ret2
              exact ⟨rfl, HBB.out⟩
            · have hv1 := str_ne hv
              rw [if_neg hv] at HF2
              clear hv hbel2 hz
              go_wp2_with fail
              go_roundw
              case rel => exact ⟨k + 1, near, by omega, by omega, by go_num, rfl, by simpa using HF2, HBel2.out⟩
              case measure => simp [intOf]; omega
        · have hq1 := str_ne hq
          have HF3 : Hid (fixF ⟨n, v, false⟩ (statics.drop k) k near = R) := Lib.hid (by have h := HF2.out; rwa [if_neg hq] at h)
          clear HF2 hq hbel2
          go_wp2_with fail
          go_roundw
          case rel => exact ⟨k + 1, near, by omega, by omega, by go_num, rfl, by simpa using HF3, HBel2.out⟩
          case measure => simp [intOf]; omega
    · have hlt' : ¬ (k : Int) < 62 := by omega
      have hR : R = (0, near) := by rw [← HF.out, List.drop_of_length_le (by rw [statics_len]; omega)]; rfl
      subst hR
      clear HF
      have HBB := Lib.hid (HFn.out _ hbel)
      go_wp2_with fail
      go_ret2
      exact ⟨rfl, HBB.out⟩

theorem pnumber_same (g c0 p : Nat) (w : World) (h : w.cell? ⟨g, 3, none⟩ = some (.int .i64 c0)) (hc : c0 ≤ 1000000) (hp : p ≤ c0) :
    Calls Try.prog 38 #[.pointer (some ⟨g, 0, none⟩), .int .i64 p] w fun e w' => e = .returned (.int .i64 (if p = 0 then 0 else 62 + c0 - p : Nat)) ∧ w = w' := by
  go_enter Try.func38, Try.ntmps38
  by_cases h0 : p = 0
  · subst h0
    go_wp2_with fail
    go_ret
    exact ⟨rfl, rfl⟩
  · have h0' : ¬ (p : Int) = 0 := by omega
    go_wp2_with fail
    go_ret
    exact ⟨by rw [show ((62 + c0 - p : Nat) : Int) = 62 + c0 - p by omega]; rfl, rfl⟩

/-- The number of what a map tells. -/
def nmOf (c0 : Nat) : Option Nat → Nat
  | some k => 62 + c0 - k
  | none => 0
theorem nmOf_getD (c0 : Nat) (o : Option Nat) (h : ∀ k, o = some k → 0 < k) : (if o.getD 0 = 0 then 0 else 62 + c0 - o.getD 0) = nmOf c0 o := by
  cases o with
  | none => rfl
  | some k =>
    have := h k rfl
    simp only [Option.getD_some, nmOf]
    rw [if_neg (by omega)]

theorem inV_getD {κ : Type} (h : κ → Option Nat) (x : κ) : (inV h x).getD (.int .i64 0) = .int .i64 ((h x).getD 0 : Nat) := by
  unfold inV; cases h x <;> rfl
theorem pcame_nil (n v : ByteArray) (w : World) :
    Calls Try.prog 34 #[.pointer none, .agg #[.string n, .string v]] w fun e w' => e = .returned (.tuple #[.int .i64 0, .int .i64 0]) ∧ Below w.heap.size w w' := by
  go_enter Try.func34, Try.ntmps34
  go_wp2_with fail
  go_ret2
  exact ⟨rfl, (Below.refl _ _).alloc (Nat.le_refl _) _⟩

set_option maxHeartbeats 2000000 in
theorem pcame_any (L : List Nat) (g m c : Nat) (rows : List FdM) (n v : ByteArray) (w : World) (h : PTab w L g m rows c) (hn : n.size ≤ maxLen) (hv : v.size ≤ maxLen) :
    Calls Try.prog 34 #[.pointer (some ⟨g, 0, none⟩), .agg #[.string n, .string v]] w fun e w' => ∃ c0 : Nat, rows.length ≤ c0 ∧ e = .returned (.tuple #[.int .i64 (nmOf c0 (plc nmV (n, v) rows c0)), .int .i64 (nmOf c0 (plc (·.name) n rows c0))]) ∧ Below w.heap.size w w' := by
  obtain ⟨⟨c0, ad, cap, bk1, bk2, n1, n2, hP, _⟩, _⟩ := h
  have hB : Below w.heap.size w (w.alloc (.cells #[.string n, .string v] 58)) := (Below.refl _ _).alloc (Nat.le_refl _) _
  have hbx := heap_alloc_new w (.cells #[.string n, .string v] 58)
  have hP1 := hP.below hB
  obtain ⟨_, hh, hq, hm1, hm2, hl, hc1, hr⟩ := hP1
  have hp1 : ∀ k, plc nmV (n, v) rows c0 = some k → 0 < k ∧ k ≤ c0 := fun k hk => by have := plc_range nmV (n, v) rows c0 k hl hk; omega
  have hp2 : ∀ k, plc (fun f : FdM => f.name) n rows c0 = some k → 0 < k ∧ k ≤ c0 := fun k hk => by have := plc_range (fun f : FdM => f.name) n rows c0 k hl hk; omega
  have hlk1 : ∀ k, (Instr.lookup 51 (.map (some bk1)) (.agg #[.string n, .string v]) false).run Try.prog ((w.alloc (.cells #[.string n, .string v] 58)).drewN k) = .ok (.int .i64 ((plc nmV (n, v) rows c0).getD 0 : Nat)) ((w.alloc (.cells #[.string n, .string v] 58)).drewN k) := fun k => by
    have h := Mp.MapF.look (Mp.MapF.block (w' := (w.alloc (.cells #[.string n, .string v] 58)).drewN k) hm1 rfl) keysRow Try.underlying51 (zero_int _) (x := (n, v)) ⟨hn, hv⟩
    rw [show ecRow (n, v) = .agg #[.string n, .string v] from rfl] at h
    rw [h, inV_getD]
  have hlk2 : ∀ k, (Instr.lookup 52 (.map (some bk2)) (.string n) false).run Try.prog ((w.alloc (.cells #[.string n, .string v] 58)).drewN k) = .ok (.int .i64 ((plc (fun f : FdM => f.name) n rows c0).getD 0 : Nat)) ((w.alloc (.cells #[.string n, .string v] 58)).drewN k) := fun k => by
    have h := Mp.MapF.look (Mp.MapF.block (w' := (w.alloc (.cells #[.string n, .string v] 58)).drewN k) hm2 rfl) keysNam Try.underlying52 (zero_int _) (x := n) hn
    rw [show ecNam n = .string n from rfl] at h
    rw [h, inV_getD]
  have hz1 := nmOf_getD c0 _ (fun k hk => (hp1 k hk).1)
  have hz2 := nmOf_getD c0 _ (fun k hk => (hp2 k hk).1)
  suffices H : Calls Try.prog 34 #[.pointer (some ⟨g, 0, none⟩), .agg #[.string n, .string v]] w fun e w' => e = .returned (.tuple #[.int .i64 (if (plc nmV (n, v) rows c0).getD 0 = 0 then 0 else 62 + c0 - (plc nmV (n, v) rows c0).getD 0 : Nat), .int .i64 (if (plc (fun f : FdM => f.name) n rows c0).getD 0 = 0 then 0 else 62 + c0 - (plc (fun f : FdM => f.name) n rows c0).getD 0 : Nat)]) ∧ Below w.heap.size w w' from
    H.mono (fun e w' h => ⟨c0, hl, by rw [← hz1, ← hz2]; exact h.1, h.2⟩)
  clear hz1 hz2
  have hq1 : (plc nmV (n, v) rows c0).getD 0 ≤ c0 := by
    cases hx : plc nmV (n, v) rows c0 with
    | none => exact Nat.zero_le _
    | some k => exact (hp1 k hx).2
  have hq2 : (plc (fun f : FdM => f.name) n rows c0).getD 0 ≤ c0 := by
    cases hx : plc (fun f : FdM => f.name) n rows c0 with
    | none => exact Nat.zero_le _
    | some k => exact (hp2 k hx).2
  have k3 := cell_at hh 3
  have k4 := cell_at hh 4
  have k5 := cell_at hh 5
  have e0 := cell_at hbx 0
  have e1 := cell_at hbx 1
  clear hP hbx hh hq hm1 hm2 hr hp1 hp2
  obtain ⟨nf, hnf⟩ : ∃ nf : Nat → Nat, ∀ q, (if q = 0 then 0 else 62 + c0 - q) = nf q := ⟨_, fun _ => rfl⟩
  simp only [hnf]
  generalize (plc nmV (n, v) rows c0).getD 0 = q1 at *
  generalize (plc (fun f : FdM => f.name) n rows c0).getD 0 = q2 at *
  go_enter Try.func34, Try.ntmps34
  go_wp2_with fail
  generalize (w.alloc (.cells #[.string n, .string v] 58)) = w1 at *
  generalize hbn : w.heap.size = bx at *
  have HN := Lib.hid (fun q (hq : q ≤ c0) => pnumber_same g c0 q w1.drew k3 hc1 hq)
  simp only [hnf] at HN
  have HBl := Lib.hid hB
  clear hB hnf
  have hlk1' := hlk1 1
  have hlk2' := hlk2 1
  rw [show w1.drewN 1 = w1.drew from rfl] at hlk1' hlk2'
  clear hlk1 hlk2
  go_region_held3 (fun w' => w'.cell? ⟨bx, 0, none⟩ = some (.string n) ∧ w'.cell? ⟨bx, 1, none⟩ = some (.string v) ∧ w'.cell? ⟨g, 4, none⟩ = some (.map (some bk1)) ∧ w'.cell? ⟨g, 5, none⟩ = some (.map (some bk2)))
    (first | exact ⟨e0, e1, k4, k5⟩ | go_keep)
    ((go_at_call 38; refine (HN.out _ (by assumption)).mono ?_; rintro e w2 ⟨rfl, rfl⟩))
  all_goals
    go_wp2_with fail
    go_ret2
    exact ⟨rfl, by rw [hbn]; exact HBl.out.drew⟩

theorem porN (x y r : Nat) (hr : r = if x ≠ 0 then x else y) (w : World) :
    Calls Try.prog 35 #[.slice (some ⟨w.heap.size, 0, none⟩) 2 2] (w.alloc (.cells #[.int .i64 x, .int .i64 y] 3)) fun e w' => e = .returned (.int .i64 r) ∧ Below w.heap.size w w' := by
  have hh := heap_alloc_new w (.cells #[.int .i64 x, .int .i64 y] 3)
  refine (por_any w.heap.size x y _ (cell_at hh 0) (cell_at hh 1)).mono ?_
  rintro e w' ⟨rfl, hb⟩
  refine ⟨?_, below_step ((Below.refl _ _).alloc (Nat.le_refl _) _) hb⟩
  rw [hr]
  by_cases h : x = 0
  · simp [h]
  · have h' : ¬ (x : Int) = 0 := by omega
    simp [h, h']

theorem pfind_gen (p : Option Addr) (f : FdM) (rows : List FdM) (w : World) (HC : Hid (∀ v, Below w.heap.size w v → Calls Try.prog 34 #[.pointer p, .agg #[.string f.name, .string f.value]] v fun e w' => ∃ c0 : Nat, rows.length ≤ c0 ∧ e = .returned (.tuple #[.int .i64 (nmOf c0 (plc nmV (f.name, f.value) rows c0)), .int .i64 (nmOf c0 (plc (·.name) f.name rows c0))]) ∧ Below v.heap.size v w')) :
    Calls Try.prog 20 #[.pointer p, .agg #[.string f.name, .string f.value, .bool f.never]] w fun e w' => e = .returned (.tuple #[.int .i64 (findT rows f).1, .bool (findT rows f).2]) ∧ Below w.heap.size w w' := by
  have HP := Lib.hid (findT_parts rows f)
  have HX := Lib.hid (fixF_fst ⟨f.name, f.value, false⟩ statics 0 0)
  have HFF := Lib.hid (fun v => pfindfixed_any f.name f.value v)
  generalize fixF ⟨f.name, f.value, false⟩ statics 0 0 = X at HX HFF
  generalize findT rows f = R at HP ⊢
  obtain ⟨fn, fv, fb⟩ := f
  obtain ⟨s1, s2⟩ := X
  simp only at HC HFF HX ⊢
  go_enter Try.func20, Try.ntmps20
  go_wp2_with fail
  have hB0 : Below w.heap.size w ((w.alloc (.cells #[.string fn, .string fv, .bool fb] 36)).alloc (.cells #[.string fn, .string fv] 58)) := ((Below.refl _ _).alloc (Nat.le_refl _) _).alloc (by simp) _
  have hbx : ((w.alloc (.cells #[.string fn, .string fv, .bool fb] 36)).alloc (.cells #[.string fn, .string fv] 58)).heap[w.heap.size + 1]? = some (.cells #[.string fn, .string fv] 58 (0, 0)) := by
    have h := heap_alloc_new (w.alloc (.cells #[.string fn, .string fv, .bool fb] 36)) (.cells #[.string fn, .string fv] 58)
    rwa [show (w.alloc (.cells #[.string fn, .string fv, .bool fb] 36)).heap.size = w.heap.size + 1 by simp] at h
  generalize ((w.alloc (.cells #[.string fn, .string fv, .bool fb] 36)).alloc (.cells #[.string fn, .string fv] 58)) = w1 at hB0 hbx ⊢
  refine (HFF.out _).mono ?_; rintro e w2 ⟨rfl, b2⟩
  have hB2 := below_step hB0 b2
  have hbx2 := block_below b2 hbx
  have e0 := cell_at hbx2 0
  have e1 := cell_at hbx2 1
  have HB2 := Lib.hid hB2
  generalize w.heap.size + 1 = bx at *
  clear hbx hbx2 hB0 hB2 b2 HFF
  go_wp2_with fail
  refine (HC.out _ HB2.out).mono ?_; rintro e w3 ⟨c0, hc0, rfl, b3⟩
  have HB3 := Lib.hid (below_step HB2.out b3)
  obtain ⟨x1, hx1⟩ : ∃ x1, x1 = nmOf c0 (plc nmV (fn, fv) rows c0) := ⟨_, rfl⟩
  obtain ⟨x2, hx2⟩ : ∃ x2, x2 = nmOf c0 (plc (·.name) fn rows c0) := ⟨_, rfl⟩
  have hRes := HP.out c0 hc0 s1 s2 x1 x2 HX.out.1 HX.out.2 (by rw [hx1]; unfold nmOf; rfl) (by rw [hx2]; unfold nmOf; rfl)
  rw [← hx1, ← hx2]
  have HRes := Lib.hid hRes
  clear hRes hx1 hx2 HP HX HC b3 e0 e1
  obtain ⟨r1, hr1⟩ : ∃ r1, r1 = if s1 ≠ 0 then s1 else x1 := ⟨_, rfl⟩
  obtain ⟨r2, hr2⟩ : ∃ r2, r2 = if s2 ≠ 0 then s2 else x2 := ⟨_, rfl⟩
  rw [← hr1, ← hr2] at HRes
  have HO1 := Lib.hid (fun v => porN s1 x1 r1 hr1 v)
  have HO2 := Lib.hid (fun v => porN s2 x2 r2 hr2 v)
  clear hr1 hr2
  go_wp2_with fail
  refine (HO1.out _).mono ?_; rintro e w4 ⟨rfl, b4⟩
  have HB4 := Lib.hid (below_step HB3.out b4)
  clear b4
  by_cases h1 : r1 = 0
  · have hR : R = (r2, false) := by rw [HRes.out, if_neg (by simp [h1])]
    subst hR h1
    clear HRes
    go_wp2_with fail
    refine (HO2.out _).mono ?_; rintro e w5 ⟨rfl, b5⟩
    have HB5 := Lib.hid (below_step HB4.out b5)
    clear b5
    go_wp2_with fail
    go_ret2
    exact ⟨rfl, HB5.out⟩
  · have hR : R = (r1, true) := by rw [HRes.out, if_pos h1]
    have h1' : ¬ (r1 : Int) = 0 := by omega
    subst hR
    clear HRes
    go_wp2_with fail
    go_ret2
    exact ⟨rfl, HB4.out⟩

theorem pfind_any (L : List Nat) (g m c : Nat) (rows : List FdM) (f : FdM) (w : World) (h : PTab w L g m rows c) (hn : f.name.size ≤ maxLen) (hv : f.value.size ≤ maxLen) :
    Calls Try.prog 20 #[.pointer (some ⟨g, 0, none⟩), .agg #[.string f.name, .string f.value, .bool f.never]] w fun e w' => e = .returned (.tuple #[.int .i64 (findT rows f).1, .bool (findT rows f).2]) ∧ Below w.heap.size w w' :=
  pfind_gen _ f rows w (Lib.hid (fun v hb => pcame_any L g m c rows f.name f.value v (h.below hb) hn hv))
theorem pfind_nil (f : FdM) (w : World) :
    Calls Try.prog 20 #[.pointer none, .agg #[.string f.name, .string f.value, .bool f.never]] w fun e w' => e = .returned (.tuple #[.int .i64 (findT [] f).1, .bool (findT [] f).2]) ∧ Below w.heap.size w w' :=
  pfind_gen _ f [] w (Lib.hid (fun v hb => (pcame_nil f.name f.value v).mono (fun e w' h => ⟨0, Nat.le_refl _, h.1, h.2⟩)))
end Go.Proofs.Ytifaecmmnconpaa
