/-
  FrameReserved holds for every frame: the highest bit of a stream's number, of a GoAway's Last, of a WindowUpdate's Inc isn't looked at; the table of spans starts as its text lays it.
-/
import Derived.Test.YtdilgkkkhmmffaaDoorRows
import Derived.WalkKit
import Derived.ProofKit
import Derived.OpenShut
import Derived.ShutString
import Derived.SizedLaws
import Derived.Deep.DeepHandedRow
import Derived.Lib.LaidTab
import Derived.Test.YtdilgkkkhmmffaaDoorGP07
import Derived.Test.YtdilgkkkhmmffaaDoorCards
import Derived.Test.YtdilgkkkhmmffaaDoorTie
import Derived.Test.YtdilgkkkhmmffaaDoorGP01
import Derived.Lib.SmallJoins
import Derived.Test.YtdilgkkkhmmffaaDoorGE02
namespace Go.Proofs.YtdilgkkkhmmffaaDoor.frameReserved
open Go.ChangeShapes Go.WideShapes Go.ChangeAt Go.RowKit
open Go.Proofs.YtdilgkkkhmmffaaDoor Fra Oct Arg Mem Gen Wr Go.Proofs.YtdilgkkkhmmffaaDoor.Obj
open Go.ChangeMaps (open_string shut_string)
open Go.Joins
set_option linter.unusedVariables false
set_option linter.unusedSimpArgs false

theorem own : ownKnob Tryd.prog.godebug = none := by kernel_rfl
theorem laidOut : laidOutB Tryd.prog = true := by kernel_rfl

set_option maxRecDepth 100000 in
set_option maxHeartbeats 4000000 in
theorem walk (a0_0 : Int) (a0_1 : Int) (a0_2 : Int) (a0_3 : ByteArray) (a0_4 : Int) (a0_5 : Option Addr) (len0_5 cap0_5 : Nat) (a0_6 : Int) (a0_7 : Int) (a0_8 : Int) (a0_9 : Int) (a0_10 : Int) (a0_11 : Bool) (w : World) (w0_0 : (Lit.int .i64 a0_0).wf = true) (w0_1 : (Lit.int .i64 a0_1).wf = true) (w0_2 : (Lit.int .i64 a0_2).wf = true) (w0_3 : a0_3.size ≤ 140737488351232) (w0_4 : (Lit.int .i64 a0_4).wf = true) (w0_5 : Arg.Slc w [.int .i64, .int .i64] a0_5 len0_5 cap0_5) (r0_5 : cap0_5 * 16 ≤ 140737488351232) (w0_6 : (Lit.int .i64 a0_6).wf = true) (w0_7 : (Lit.int .i64 a0_7).wf = true) (w0_8 : (Lit.int .i64 a0_8).wf = true) (w0_9 : (Lit.int .i64 a0_9).wf = true) (w0_10 : (Lit.int .i64 a0_10).wf = true) (tab0 : SpIs w) :
    Calls Tryd.prog 8 #[.agg #[.int .i64 a0_0, .int .i64 a0_1, .int .i64 a0_2, .string a0_3, .int .i64 a0_4, .slice a0_5 len0_5 cap0_5, .int .i64 a0_6, .int .i64 a0_7, .int .i64 a0_8, .int .i64 a0_9, .int .i64 a0_10, .bool a0_11]] w fun e w' => e = .returned (.bool true) ∧ Below w.heap.size w w' := by
  obtain ⟨l, hl, hr, hset, hlc, hcm⟩ := sets_in w0_5
  subst hl
  exact law_reserved ⟨a0_0, a0_1, a0_2, a0_3, a0_4, l, a0_6, a0_7, a0_8, a0_9, a0_10, a0_11⟩ a0_5 cap0_5 w ⟨hr, hlc, hcm⟩ tab0


noncomputable def laidWorld (os : Os) : World :=
  { World.holding Tryd.prog os ⟨#[], #[], []⟩ with heap := (((World.holding Tryd.prog os ⟨#[], #[], []⟩).heap).modify 0 fun
      | .cells _ t frozen => .cells #[.int .i64 0, .int .i64 16777215, .int .i64 1, .int .i64 0, .int .i64 16777215, .int .i64 1, .int .i64 5, .int .i64 5, .int .i64 1, .int .i64 4, .int .i64 4, .int .i64 1, .int .i64 0, .int .i64 16777215, .int .i64 6, .int .i64 0, .int .i64 16777215, .int .i64 1, .int .i64 8, .int .i64 8, .int .i64 1, .int .i64 8, .int .i64 16777215, .int .i64 1, .int .i64 4, .int .i64 4, .int .i64 1, .int .i64 0, .int .i64 16777215, .int .i64 1] t frozen
      | o => o) }
theorem laid_met (os : Os) : laidMet Tryd.prog Rows.frameReservedRow.laid ((laidWorld os).forCall (fun _ _ => 0) ⟨#[], #[.agg #[.int .i64 0, .int .i64 0, .int .i64 0, .string ByteArray.empty, .int .i64 0, .slice none 0 0, .int .i64 0, .int .i64 0, .int .i64 0, .int .i64 0, .int .i64 0, .bool false]], []⟩).memory :=
  laidMet_of_run' 8 (by kernel_rfl) (by kernel_rfl)
theorem reads (os : Os) {H : Type} (enc : TypeId × Value → H) : ∃ places, DataW.whole enc Tryd.prog ((laidWorld os).forCall (fun _ _ => 0) ⟨#[], #[.agg #[.int .i64 0, .int .i64 0, .int .i64 0, .string ByteArray.empty, .int .i64 0, .slice none 0 0, .int .i64 0, .int .i64 0, .int .i64 0, .int .i64 0, .int .i64 0, .bool false]], []⟩).memory Tryd.f8.params.toList Rows.frameReservedSpec.vars false (#[.agg #[.int .i64 0, .int .i64 0, .int .i64 0, .string ByteArray.empty, .int .i64 0, .slice none 0 0, .int .i64 0, .int .i64 0, .int .i64 0, .int .i64 0, .int .i64 0, .bool false]] : Array Value).toList 8 = some ([.agg [.lit (.int .i64 0), .lit (.int .i64 0), .lit (.int .i64 0), .lit (.string []), .lit (.int .i64 0), .nil, .lit (.int .i64 0), .lit (.int .i64 0), .lit (.int .i64 0), .lit (.int .i64 0), .lit (.int .i64 0), .lit (.bool false)]], [], places) :=
  ⟨[], by kernel_rfl⟩

set_option maxRecDepth 100000 in
theorem lifted (os : Os) (started : os.Started) (H : Type) (enc : TypeId × Value → H) (F : Stop.Interp) :
    ReturnsInHanded {} Tryd.checked os 8 .any ((OpenSpec.ofChange Rows.frameReservedSpec).preRow enc Tryd.prog Tryd.f8 Rows.frameReservedRow.domain false Rows.frameReservedRow.laid) (((OpenSpec.ofChange Rows.frameReservedSpec).at F).post enc Tryd.prog Tryd.f8 false true false false) := by
  obtain ⟨places, hx⟩ := reads os enc
  refine returnsInHanded_of_row (C := Tryd.checked) (s := OpenSpec.ofChange Rows.frameReservedSpec) own started (by kernel_rfl) Tryd.func8
    (witness_row_at (enc := enc) (C := Tryd.checked) false (laidWorld os) #[.agg #[.int .i64 0, .int .i64 0, .int .i64 0, .string ByteArray.empty, .int .i64 0, .slice none 0 0, .int .i64 0, .int .i64 0, .int .i64 0, .int .i64 0, .int .i64 0, .bool false]] rfl (by kernel_rfl) (by kernel_rfl) (by kernel_rfl)
      (OpenSpec.preRow_of_cond 8 hx (by kernel_rfl) (fun k hk => by cases hk) (by kernel_rfl) (laid_met os))) ?_
  intro W base args ds gs before hval0 hW hcnd _ hsz0 hL _ _
  have hsz : (DataW.weightsEach Tryd.prog (Tryd.f8.params.toList ++ Rows.frameReservedSpec.plain.varTypes Tryd.prog) (ds ++ gs)).all (· ≤ reachBytes) = true := hsz0
  have hval : ∀ (j : Nat) t v, Tryd.f8.params[j]? = some t → args[j]? = some v → Value.okWide Tryd.prog W .any base t v := hval0
  have hW' := hW
  obtain ⟨p, q, hA0, hV, rfl, hfz, hnd⟩ := hW
  have hA : DataW.TrodAll enc Tryd.prog W 0 (fun _ => true) true Tryd.f8.params.toList args.toList ds p := hA0
  rw [Tryd.params8] at hA hval hsz
  obtain ⟨v0, vs0, d0, ds0, p0, q0, hargs, rfl, rfl, h0, t0⟩ := trodAll_cons hA
  obtain ⟨rfl, rfl, rfl⟩ := trodAll_nil t0
  obtain rfl : args = #[v0] := by cases args; simp_all
  obtain ⟨rfl, rfl⟩ := trodVars_none hV
  have k0 := h0
  have lt0 : ∀ x ∈ p0, x.block < W.heap.size := by obtain ⟨m, hm⟩ := k0; exact DataW.trod_lt m _ _ _ hm
  obtain ⟨cs0, rfl, hcs0⟩ := okWide_struct Tryd.underlying24 (hval 0 24 v0 rfl rfl)
  obtain ⟨cs0⟩ := cs0
  obtain ⟨fuel0, hf0⟩ := h0
  have ok0 : Arg.AllOk W [.int .i64, .int .i64, .int .i64, .str, .int .i64, .slc 16 [.int .i64, .int .i64], .int .i64, .int .i64, .int .i64, .int .i64, .int .i64, .bool] cs0 := Arg.trod_leaves 9 24 [.int .i64, .int .i64, .int .i64, .str, .int .i64, .slc 16 [.int .i64, .int .i64], .int .i64, .int .i64, .int .i64, .int .i64, .int .i64, .bool] (by kernel_rfl) hf0 (Arg.sized hsz (j := 0) (t := 24) rfl rfl)
  obtain ⟨u0_0, q0_0, rfl, l0_0, ok0_0⟩ := Arg.AllOk.cons ok0
  obtain ⟨a0_0, rfl, w0_0⟩ := Arg.LeafOk.int l0_0
  obtain ⟨u0_1, q0_1, rfl, l0_1, ok0_1⟩ := Arg.AllOk.cons ok0_0
  obtain ⟨a0_1, rfl, w0_1⟩ := Arg.LeafOk.int l0_1
  obtain ⟨u0_2, q0_2, rfl, l0_2, ok0_2⟩ := Arg.AllOk.cons ok0_1
  obtain ⟨a0_2, rfl, w0_2⟩ := Arg.LeafOk.int l0_2
  obtain ⟨u0_3, q0_3, rfl, l0_3, ok0_3⟩ := Arg.AllOk.cons ok0_2
  obtain ⟨a0_3, rfl, w0_3⟩ := Arg.LeafOk.str l0_3
  obtain ⟨u0_4, q0_4, rfl, l0_4, ok0_4⟩ := Arg.AllOk.cons ok0_3
  obtain ⟨a0_4, rfl, w0_4⟩ := Arg.LeafOk.int l0_4
  obtain ⟨u0_5, q0_5, rfl, l0_5, ok0_5⟩ := Arg.AllOk.cons ok0_4
  obtain ⟨a0_5, len0_5, cap0_5, rfl, r0_5, w0_5⟩ := Arg.LeafOk.slc l0_5
  obtain ⟨u0_6, q0_6, rfl, l0_6, ok0_6⟩ := Arg.AllOk.cons ok0_5
  obtain ⟨a0_6, rfl, w0_6⟩ := Arg.LeafOk.int l0_6
  obtain ⟨u0_7, q0_7, rfl, l0_7, ok0_7⟩ := Arg.AllOk.cons ok0_6
  obtain ⟨a0_7, rfl, w0_7⟩ := Arg.LeafOk.int l0_7
  obtain ⟨u0_8, q0_8, rfl, l0_8, ok0_8⟩ := Arg.AllOk.cons ok0_7
  obtain ⟨a0_8, rfl, w0_8⟩ := Arg.LeafOk.int l0_8
  obtain ⟨u0_9, q0_9, rfl, l0_9, ok0_9⟩ := Arg.AllOk.cons ok0_8
  obtain ⟨a0_9, rfl, w0_9⟩ := Arg.LeafOk.int l0_9
  obtain ⟨u0_10, q0_10, rfl, l0_10, ok0_10⟩ := Arg.AllOk.cons ok0_9
  obtain ⟨a0_10, rfl, w0_10⟩ := Arg.LeafOk.int l0_10
  obtain ⟨u0_11, q0_11, rfl, l0_11, ok0_11⟩ := Arg.AllOk.cons ok0_10
  obtain ⟨a0_11, rfl⟩ := Arg.LeafOk.bool l0_11
  obtain rfl := Arg.AllOk.nil ok0_11
  clear hA0 hval0 hsz0
  refine (walk a0_0 a0_1 a0_2 a0_3 a0_4 a0_5 len0_5 cap0_5 a0_6 a0_7 a0_8 a0_9 a0_10 a0_11 W w0_0 w0_1 w0_2 w0_3 w0_4 w0_5 r0_5 w0_6 w0_7 w0_8 w0_9 w0_10 (spIs_of (laid := Rows.frameReservedRow.laid) hL 0 rfl)).mono fun e W' ⟨he, bel⟩ => ?_
  subst he
  exact ⟨_, rfl, _, _, _, [], _, [], hW', trodAll_mk1 (shut_bool Tryd.underlying4 _), (trodAll_cons_mk (Below.trod laidOut (by kernel_rfl) (of_decide_eq_true (by kernel_rfl)) k0 bel lt0) trodAll_mk0), rfl, bel.frame _, fun h => by cases h⟩

theorem over : Rows.frameReservedRow.holds Tryd.pinned (OpenSpec.ofChange Rows.frameReservedSpec) :=
  OpenClaim.holds_of_cond 8 Tryd.f8 rfl rfl rfl rfl rfl rfl rfl ⟨rfl, rfl, rfl, rfl, rfl⟩ rfl rfl rfl rfl rfl (by kernel_rfl) Tryd.func8 (by kernel_rfl)
    (of_decide_eq_true (by kernel_rfl)) (by unfold Func.isWrapper; first | (rw [if_pos (by decide +kernel)]; kernel_rfl) | (rw [if_neg (by decide +kernel)]; exact ⟨rfl, rfl⟩))
    (fun os started H enc _ F => by rw [OpenClaim.pre_eq_preRow]; exact lifted os started H enc F)

theorem plain (f : FuncId) (fn : Func) (hf : Tryd.pinned.checked.prog.funcNamed "drawbridge/drawbridgelaw06.FrameReserved" = some f) (hfn : Tryd.pinned.checked.prog.funcs[f]? = some fn) :
    false = Tryd.pinned.checked.prog.looks [] ∧ ∀ (j : Nat) t, fn.params[j]? = some t → Tryd.pinned.checked.prog.wantsStandIn t = false := by
  obtain rfl : f = 8 := Option.some.inj ((show Tryd.prog.funcNamed "drawbridge/drawbridgelaw06.FrameReserved" = some 8 by kernel_rfl).symm.trans hf) |>.symm
  obtain rfl : fn = Tryd.f8 := (Option.some.inj (Tryd.func8.symm.trans hfn)).symm
  refine ⟨by kernel_rfl, fun j t ht => ?_⟩
  rw [Tryd.params8] at ht
  have hm := Array.mem_of_getElem? ht
  simp only [List.mem_toArray, List.mem_cons, List.not_mem_nil, or_false] at hm
  rcases hm with rfl
  · exact (show Tryd.prog.wantsStandIn 24 = false by kernel_rfl)

theorem proved : Rows.FrameReservedCardSaid :=
  Claim7.holds_tied_plain_at .later [] _ _ _ _ over (fun _ h => by cases h) (by kernel_rfl) (fun _ h => by cases h) frameReserved_row_tie rfl ⟨rfl, rfl⟩ (by kernel_rfl) rfl plain (by kernel_rfl)
end Go.Proofs.YtdilgkkkhmmffaaDoor.frameReserved
