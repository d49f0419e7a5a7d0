/-
  TableStatic holds for every number: the rows that never change are the document's, in a table, and without one; no conditions.
-/
import Derived.Test.YtifaecmmnconpaaRows
import Derived.WalkKit
import Derived.ProofKit
import Derived.OpenShut
import Derived.ShutString
import Derived.SizedLaws
import Derived.Test.YtifaecmmnconpaaMem
import Derived.Test.YtifaecmmnconpaaObj
import Derived.Test.YtifaecmmnconpaaRowE
import Derived.Test.YtifaecmmnconpaaTabPure
import Derived.Test.YtifaecmmnconpaaTab1
import Derived.Test.YtifaecmmnconpaaTab2
import Derived.Test.YtifaecmmnconpaaTab4
import Derived.Test.YtifaecmmnconpaaTab5
import Derived.Test.YtifaecmmnconpaaTab6
import Derived.Test.YtifaecmmnconpaaTabP
import Derived.Test.YtifaecmmnconpaaTab7
import Derived.RegionTactic
import Derived.IntWalk
import Derived.Laws.StructEq
namespace Go.Proofs.Ytifaecmmnconpaa.tableStatic
open Go.ChangeShapes Go.WideShapes Go.ChangeAt Go.RowKit
open Go.Proofs.Ytifaecmmnconpaa Tab Mem Go.Proofs.Ytifaecmmnconpaa.Obj
open Go.ChangeMaps (open_string shut_string)
set_option linter.unusedVariables false

theorem own : ownKnob Try.prog.godebug = none := by kernel_rfl
theorem laidOut : laidOutB Try.prog = true := by kernel_rfl

set_option maxRecDepth 100000 in
set_option maxHeartbeats 2000000 in
theorem walk (a0 : Int) (w : World) (w0 : (Lit.int .i64 a0).wf = true) :
    Calls Try.prog 4 #[.int .i64 a0] w fun e w' => e = .returned (.bool true) ∧ Below w.heap.size w w' := by
  have hx0 : -9223372036854775808 ≤ a0 ∧ a0 ≤ 9223372036854775807 := by simpa [Lit.wf, IntKind.min, IntKind.max, IntKind.signed, IntKind.bits] using w0
  have HW0 := Lib.hid w0
  clear w0
  go_enter Try.func4, Try.ntmps4
  go_wp2_with fail
  refine (awake_any _).mono ?_; rintro e v1 ⟨rfl, b1⟩
  go_wp2_with fail
  refine (pnew_ok 0 _ (by decide)).mono ?_; rintro e v3 ⟨g, L1, rfl, T1, b3, l1⟩
  have HT1 := Lib.hid T1
  replace b3 := below_step b1 b3
  clear T1 l1 b1
  have HA1 := Lib.hid (fun v (h : PTab v L1 g 0 [] 0) => pat_any L1 g 0 0 [] a0 v h HW0.out)
  have HA2 := Lib.hid (fun v => pat_nil a0 v HW0.out)
  have HA3 := Lib.hid (fun gr v (h : RTab v [gr] gr 0 []) => rat_any gr 0 [] [gr] a0 v h (by decide) hx0.2)
  generalize atT [] a0 = X at HA1 HA2 HA3
  obtain ⟨⟨fn, fv, fb⟩, er⟩ := X
  simp only at HA1 HA2 HA3
  go_wp2_with fail
  have hgr := heap_alloc_new v3 (.cells #[.int .i64 0, .slice none 0 0] 32)
  have b4 : Below w.heap.size w (v3.alloc (.cells #[.int .i64 0, .slice none 0 0] 32)) := b3.alloc b3.size _
  have hsv3 : Below v3.heap.size v3 (v3.alloc (.cells #[.int .i64 0, .slice none 0 0] 32)) := (Below.refl _ _).alloc (Nat.le_refl _) _
  generalize v3.alloc (.cells #[.int .i64 0, .slice none 0 0] 32) = v4 at hgr b4 hsv3 ⊢
  generalize v3.heap.size = gr at hgr ⊢
  have Hhgr := Lib.hid hgr
  clear hgr
  have HT4 := Lib.hid (HT1.out.kept hsv3.size (fun k hk => hsv3.block k (HT1.out.blocks k hk)))
  clear hsv3 b3 HT1
  refine (HA1.out _ HT4.out).mono ?_; rintro e v5 ⟨rfl, b5⟩
  have HR5 := Lib.hid (block_below b5 Hhgr.out)
  replace b5 := below_step b4 b5
  clear b4 Hhgr HT4
  go_wp2_with fail
  have hba := heap_alloc_new v5 (.cells #[.string fn, .string fv, .bool fb] 36)
  have b6 : Below w.heap.size w (v5.alloc (.cells #[.string fn, .string fv, .bool fb] 36)) := b5.alloc b5.size _
  have hsv5 : Below v5.heap.size v5 (v5.alloc (.cells #[.string fn, .string fv, .bool fb] 36)) := (Below.refl _ _).alloc (Nat.le_refl _) _
  generalize v5.alloc (.cells #[.string fn, .string fv, .bool fb] 36) = v6 at hba b6 hsv5 ⊢
  generalize v5.heap.size = ba at hba ⊢
  have Hhba := Lib.hid hba
  clear hba
  have HR6 := Lib.hid (block_below hsv5 HR5.out)
  clear hsv5 b5 HR5
  refine (HA2.out _).mono ?_; rintro e v7 ⟨rfl, b7⟩
  have HR7 := Lib.hid (block_below b7 HR6.out)
  have Ha7 := Lib.hid (block_below b7 Hhba.out)
  replace b7 := below_step b6 b7
  clear b6 HR6 Hhba
  go_wp2_with fail
  have hbb := heap_alloc_new v7 (.cells #[.string fn, .string fv, .bool fb] 36)
  have b8 : Below w.heap.size w (v7.alloc (.cells #[.string fn, .string fv, .bool fb] 36)) := b7.alloc b7.size _
  have hsv7 : Below v7.heap.size v7 (v7.alloc (.cells #[.string fn, .string fv, .bool fb] 36)) := (Below.refl _ _).alloc (Nat.le_refl _) _
  generalize v7.alloc (.cells #[.string fn, .string fv, .bool fb] 36) = v8 at hbb b8 hsv7 ⊢
  generalize v7.heap.size = bb at hbb ⊢
  have Hhbb := Lib.hid hbb
  clear hbb
  have HR8 := Lib.hid (block_below hsv7 HR7.out)
  have Ha8 := Lib.hid (block_below hsv7 Ha7.out)
  clear hsv7 b7 HR7 Ha7
  have hRt : RTab v8 [gr] gr 0 [] := ⟨none, 0, List.mem_cons_self .., HR8.out, Nat.le_refl _, by unfold maxLen; omega, fun _ => rfl, (fun b o s e => by cases e), .inl rfl, fun k hk => by
    simp only [List.mem_singleton] at hk
    subst hk
    exact (Array.getElem?_eq_some_iff.1 HR8.out).1⟩
  refine (HA3.out gr _ hRt).mono ?_; rintro e v9 ⟨rfl, b9⟩
  have Ha9 := Lib.hid (block_below b9 Ha8.out)
  have Hb9 := Lib.hid (block_below b9 Hhbb.out)
  replace b9 := below_step b8 b9
  clear b8 HR8 Ha8 Hhbb hRt
  go_wp2_with fail
  have hbc := heap_alloc_new v9 (.cells #[.string fn, .string fv, .bool fb] 36)
  have b10 : Below w.heap.size w (v9.alloc (.cells #[.string fn, .string fv, .bool fb] 36)) := b9.alloc b9.size _
  have hsv9 : Below v9.heap.size v9 (v9.alloc (.cells #[.string fn, .string fv, .bool fb] 36)) := (Below.refl _ _).alloc (Nat.le_refl _) _
  generalize v9.alloc (.cells #[.string fn, .string fv, .bool fb] 36) = v10 at hbc b10 hsv9 ⊢
  generalize v9.heap.size = bc at hbc ⊢
  have Hhbc := Lib.hid hbc
  clear hbc
  have Ha10 := Lib.hid (block_below hsv9 Ha9.out)
  have Hb10 := Lib.hid (block_below hsv9 Hb9.out)
  clear hsv9 b9 Ha9 Hb9
  refine (padd_nil ⟨⟨#[97]⟩, ⟨#[]⟩, false⟩ v10).mono ?_; rintro e v11 ⟨rfl, b11⟩
  have a11 := block_below b11 Ha10.out
  have b11b := block_below b11 Hb10.out
  have c11 := block_below b11 Hhbc.out
  have x0 := cell_at a11 0
  have x1 := cell_at a11 1
  have x2 := cell_at a11 2
  have y0 := cell_at b11b 0
  have y1 := cell_at b11b 1
  have y2 := cell_at b11b 2
  have z0 := cell_at c11 0
  have z1 := cell_at c11 1
  have z2 := cell_at c11 2
  have hq1 := str_eq fn
  have hq2 := str_eq fv
  replace b11 := below_step b10 b11
  clear b10 Ha10 Hb10 Hhbc a11 b11b c11
  go_wp2_with fail
  refine (plen_nil _).mono ?_; rintro e v12 ⟨rfl, b12⟩
  replace b12 := below_step b11 b12
  clear x0 x1 x2 y0 y1 y2 z0 z1 z2 b11
  go_wp2_with fail
  refine (psize_nil _).mono ?_; rintro e v13 ⟨rfl, b13⟩
  replace b13 := below_step b12 b13
  clear b12
  go_wp2_with fail
  refine (pmost_nil _).mono ?_; rintro e v14 ⟨rfl, b14⟩
  replace b14 := below_step b13 b14
  clear b13
  go_wp2_with fail
  refine (presize_nil 5 _).mono ?_; rintro e v15 ⟨rfl, b15⟩
  replace b15 := below_step b14 b15
  clear b14
  go_wp2_with fail
  go_ret
  exact ⟨rfl, b15⟩

set_option maxRecDepth 100000 in
theorem lifted (os : Os) (started : os.Started) (H : Type) (enc : TypeId × Value → H) :
    ReturnsInHanded {} Try.checked os 4 .any (Rows.tableStaticSpec.pre6 enc Try.prog Try.f4 Rows.tableStaticRow.domain false) (Rows.tableStaticSpec.post enc Try.prog Try.f4 false true false false) := by
  refine returnsInHanded_of_change_sized (C := Try.checked) own started (by kernel_rfl) Try.func4
    (ChangeSpec.witness6 (enc := enc) (C := Try.checked) false ⟨#[], #[.int .i64 0], []⟩ 8 (by kernel_rfl) (by kernel_rfl) (by kernel_rfl) (by kernel_rfl)) ?_
  intro W base args ds gs before hval0 hW hcnd hsz0 _
  have hsz : (DataW.weightsEach Try.prog (Try.f4.params.toList ++ Rows.tableStaticSpec.plain.varTypes Try.prog) (ds ++ gs)).all (· ≤ reachBytes) = true := hsz0
  have hval : ∀ (j : Nat) t v, Try.f4.params[j]? = some t → args[j]? = some v → Value.okWide Try.prog W .any base t v := hval0
  have hW' := hW
  obtain ⟨p, q, hA0, hV, rfl, hfz, hnd⟩ := hW
  have hA : DataW.TrodAll enc Try.prog W 0 (fun _ => true) true Try.f4.params.toList args.toList ds p := hA0
  rw [Try.params4] at hA hval hsz
  obtain ⟨v0, vs0, d0, ds0, p0, q0, hargs, rfl, rfl, h0, t0⟩ := trodAll_cons hA
  obtain ⟨rfl, rfl, rfl⟩ := trodAll_nil t0
  obtain rfl : args = #[v0] := by cases args; simp_all
  obtain ⟨rfl, rfl⟩ := trodVars_none hV
  have k0 := h0
  have lt0 : ∀ x ∈ p0, x.block < W.heap.size := by obtain ⟨m, hm⟩ := k0; exact DataW.trod_lt m _ _ _ hm
  obtain ⟨a0, rfl, rfl, rfl, w0⟩ := open_int Try.underlying3 (hval 0 3 v0 rfl rfl) h0
  clear hA0 hval0 hsz0
  refine (walk a0 W w0).mono fun e W' ⟨he, bel⟩ => ?_
  subst he
  exact ⟨_, rfl, _, _, _, [], _, [], hW', trodAll_mk1 (shut_bool Try.underlying4 _), (trodAll_cons_mk (Below.trod laidOut (by kernel_rfl) (of_decide_eq_true (by kernel_rfl)) k0 bel lt0) trodAll_mk0), rfl, bel.frame _, fun h => by cases h⟩

theorem over : Rows.tableStaticRow.holds Try.pinned (OpenSpec.ofChange Rows.tableStaticSpec) :=
  OpenClaim.holds_of_wide 4 Try.f4 rfl rfl rfl rfl rfl rfl rfl ⟨rfl, rfl, rfl, rfl, rfl⟩ rfl rfl rfl rfl rfl (by kernel_rfl) Try.func4 (by kernel_rfl)
    (of_decide_eq_true (by kernel_rfl)) (by unfold Func.isWrapper; first | (rw [if_pos (by decide +kernel)]; kernel_rfl) | (rw [if_neg (by decide +kernel)]; exact ⟨rfl, rfl⟩))
    (fun os started H enc _ => lifted os started H enc)

theorem proved : Rows.TableStaticSaid := over
end Go.Proofs.Ytifaecmmnconpaa.tableStatic
