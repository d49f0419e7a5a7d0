/-
  HuffDecodes holds for every row of bytes: huff.Decode is the document's own text, or none, down the tree of codes, and leaves its bytes alone; the table of groups starts as its text lays it.
-/
import Derived.Test.YtjoabjkibfcfmaaDoorRows
import Derived.WalkKit
import Derived.ProofKit
import Derived.OpenShut
import Derived.ShutString
import Derived.SizedLaws
import Derived.Deep.DeepHandedRow
import Derived.Lib.LaidTab
import Derived.Test.YtjoabjkibfcfmaaDoorLaid
import Derived.Test.YtjoabjkibfcfmaaDoorCards
import Derived.Test.YtjoabjkibfcfmaaDoorTie
import Derived.Test.YtjoabjkibfcfmaaDoorMem
import Derived.Test.YtjoabjkibfcfmaaDoorHufPure
import Derived.Test.YtjoabjkibfcfmaaDoorHufTree
import Derived.Test.YtjoabjkibfcfmaaDoorHufT
import Derived.Test.YtjoabjkibfcfmaaDoorHuf1
import Derived.Test.YtjoabjkibfcfmaaDoorHuf2
import Derived.Test.YtjoabjkibfcfmaaDoorHuf3
import Derived.Test.YtjoabjkibfcfmaaDoorHuf4
import Derived.Test.YtjoabjkibfcfmaaDoorHuf5
import Derived.Test.YtjoabjkibfcfmaaDoorHuf6
import Derived.Test.YtjoabjkibfcfmaaDoorHuf7
import Derived.Test.YtjoabjkibfcfmaaDoorHuf8
import Derived.Test.YtjoabjkibfcfmaaDoorHufV
import Derived.Test.YtjoabjkibfcfmaaDoorMem2
namespace Go.Proofs.YtjoabjkibfcfmaaDoor.huffDecodes
open Go.ChangeShapes Go.WideShapes Go.ChangeAt Go.RowKit
open Go.Proofs.YtjoabjkibfcfmaaDoor Huf Mem
open Go.ChangeMaps (open_string shut_string)
set_option linter.unusedVariables false

theorem own : ownKnob Tryd.prog.godebug = none := by kernel_rfl
theorem laidOut : laidOutB Tryd.prog = true := by kernel_rfl

set_option maxRecDepth 100000 in
set_option maxHeartbeats 2000000 in
theorem walk (a0 : Option Addr) (len0 cap0 : Nat) (z0 : List Int) (w : World) (w0 : Mem.IsRow .u8 w a0 len0 cap0 z0) (r0 : cap0 * 1 ≤ 140737488351232) (tab0 : GrpIs w) :
    Calls Tryd.prog 5 #[.slice a0 len0 cap0] w fun e w' => e = .returned (.bool true) ∧ Below w.heap.size w w' := by
  have HG := Lib.hid tab0
  obtain ⟨hrb, hlen, hcap, hmax⟩ := w0.rb
  have hnil := Lib.hid w0.nil
  generalize u8s (z0.take len0) = l at hrb hlen
  subst hlen
  have HRB := Lib.hid hrb
  clear tab0 hrb hmax w0
  by_cases hbb : 65536 < l.length
  · go_enter Tryd.func5, Tryd.ntmps5
    go_wp2_with fail
    refine (awake_any _ HG.out).mono ?_; rintro e v1 ⟨rfl, b1⟩
    go_wp2_with fail
    go_ret
    exact ⟨rfl, b1⟩
  · obtain ⟨i0, hi, hz0, hz1, hz2⟩ := info_parts info_u8
    have HI := Lib.hid hi
    have HZ0 := Lib.hid hz0
    have HZ1 := Lib.hid hz1
    have HZ2 := Lib.hid hz2
    have hll : l.length ≤ 140737488355328 := by omega
    have DA : Hid (∀ v a c, RB v a l → GrpIs v → Calls Tryd.prog 17 #[.slice a l.length c] v fun e w' => e = .returned (.tuple #[.string ⟨(decV l).toArray⟩, .int .i64 (decE l)]) ∧ Below v.heap.size v w') := Lib.hid (fun v a c hr hg => decode_any a l c v (by omega) hr hg)
    have DR : Hid (∀ v a c, RB v a l → Calls Tryd.prog 18 #[.slice a l.length c] v fun e w' => e = .returned (.tuple #[.string ⟨(decV l).toArray⟩, .int .i64 (decE l)]) ∧ Below v.heap.size v w') := Lib.hid (fun v a c hr => rdecode_any a l c v (by omega) hr)
    have BY := Lib.hid (fun (v : World) a b ca cb => bytes_any a b l l ca cb v)
    generalize decV l = V at DA DR
    generalize decE l = X at DA DR
    clear hi hz0 hz1 hz2
    go_enter Tryd.func5, Tryd.ntmps5
    go_wp2_with fail
    refine (awake_any _ HG.out).mono ?_; rintro e v1 ⟨rfl, b1⟩
    have R1 := Lib.hid (HRB.out.below b1)
    go_wp2_with (at_builtin; refine append_rb3 Tryd.underlying31 HI.out HZ0.out HZ1.out HZ2.out rfl (.tmp 13) (.tmp 14) rfl v1.heap.size (some ⟨v1.heap.size, 0, none⟩) 0 [] rfl (own_empty1 v1 _) a0 l cap0 rfl hnil.out (R1.out.below ((Below.refl _ _).alloc (Nat.le_refl _) _)) l rfl hll (by simp) ?_)
    intro ad2 cp2 v2 hown2 hb2
    have b2 := below_step b1 (hb2 _ _ ((Below.refl _ _).alloc (Nat.le_refl _) _) (Nat.le_refl _))
    have R2 : Hid (RB v2 ad2 l) := Lib.hid (RB.of_own hown2.out)
    clear hown2 hb2
    go_wp2_with fail
    refine (DA.out _ _ _ R2.out (HG.out.below b2)).mono ?_; rintro e v3 ⟨rfl, b3⟩
    have R3 : Hid (RB v3 ad2 l) := Lib.hid (R2.out.below b3)
    replace b3 := below_step b2 b3
    go_wp2_with fail
    refine (DR.out _ _ _ (HRB.out.below b3)).mono ?_; rintro e v4 ⟨rfl, b4⟩
    have T4 : Hid (Calls Tryd.prog 14 #[.slice ad2 l.length cp2, .slice a0 l.length cap0] v4 fun e w' => e = .returned (.bool true) ∧ v4 = w') := Lib.hid (by
      have h := BY.out v4 ad2 a0 cp2 cap0 (R3.out.below b4) (HRB.out.below (below_step b3 b4))
      rwa [show decide True = true from rfl] at h)
    replace b4 := below_step b3 b4
    go_wp2_with fail
    refine T4.out.mono ?_; rintro e w' ⟨rfl, rfl⟩
    go_wp2_with fail
    go_ret
    exact ⟨by simp, b4⟩


noncomputable def laidWorld (os : Os) : World :=
  { World.holding Tryd.prog os ⟨#[], #[], []⟩ with heap := (((World.holding Tryd.prog os ⟨#[], #[], []⟩).heap).modify 0 fun
      | .cells _ t frozen => .cells #[.int .i64 0, .int .u32 0, .int .i64 0, .int .i64 0, .int .u32 0, .int .i64 0, .int .i64 0, .int .u32 0, .int .i64 0, .int .i64 0, .int .u32 0, .int .i64 0, .int .i64 0, .int .u32 0, .int .i64 0, .int .i64 10, .int .u32 0, .int .i64 0, .int .i64 26, .int .u32 20, .int .i64 10, .int .i64 32, .int .u32 92, .int .i64 36, .int .i64 6, .int .u32 248, .int .i64 68, .int .i64 0, .int .u32 0, .int .i64 0, .int .i64 5, .int .u32 1016, .int .i64 74, .int .i64 3, .int .u32 2042, .int .i64 79, .int .i64 2, .int .u32 4090, .int .i64 82, .int .i64 6, .int .u32 8184, .int .i64 84, .int .i64 2, .int .u32 16380, .int .i64 90, .int .i64 3, .int .u32 32764, .int .i64 92, .int .i64 0, .int .u32 0, .int .i64 0, .int .i64 0, .int .u32 0, .int .i64 0, .int .i64 0, .int .u32 0, .int .i64 0, .int .i64 3, .int .u32 524272, .int .i64 95, .int .i64 8, .int .u32 1048550, .int .i64 98, .int .i64 13, .int .u32 2097116, .int .i64 106, .int .i64 26, .int .u32 4194258, .int .i64 119, .int .i64 29, .int .u32 8388568, .int .i64 145, .int .i64 12, .int .u32 16777194, .int .i64 174, .int .i64 4, .int .u32 33554412, .int .i64 186, .int .i64 15, .int .u32 67108832, .int .i64 190, .int .i64 19, .int .u32 134217694, .int .i64 205, .int .i64 29, .int .u32 268435426, .int .i64 224, .int .i64 0, .int .u32 0, .int .i64 0, .int .i64 4, .int .u32 1073741820, .int .i64 253] t frozen
      | o => o) }
theorem laid_met (os : Os) : laidMet Tryd.prog Rows.huffDecodesRow.laid ((laidWorld os).forCall (fun _ _ => 0) ⟨#[], #[.slice none 0 0], []⟩).memory :=
  laidMet_of_run' 8 (by kernel_rfl) (by kernel_rfl)
theorem reads (os : Os) {H : Type} (enc : TypeId × Value → H) : ∃ places, DataW.whole enc Tryd.prog ((laidWorld os).forCall (fun _ _ => 0) ⟨#[], #[.slice none 0 0], []⟩).memory Tryd.f5.params.toList Rows.huffDecodesSpec.vars false (#[.slice none 0 0] : Array Value).toList 8 = some ([.nil], [], places) :=
  ⟨[], by kernel_rfl⟩

set_option maxRecDepth 100000 in
theorem lifted (os : Os) (started : os.Started) (H : Type) (enc : TypeId × Value → H) (F : Stop.Interp) :
    ReturnsInHanded {} Tryd.checked os 5 .any ((OpenSpec.ofChange Rows.huffDecodesSpec).preRow enc Tryd.prog Tryd.f5 Rows.huffDecodesRow.domain false Rows.huffDecodesRow.laid) (((OpenSpec.ofChange Rows.huffDecodesSpec).at F).post enc Tryd.prog Tryd.f5 false true false false) := by
  obtain ⟨places, hx⟩ := reads os enc
  refine returnsInHanded_of_row (C := Tryd.checked) (s := OpenSpec.ofChange Rows.huffDecodesSpec) own started (by kernel_rfl) Tryd.func5
    (witness_row_at (enc := enc) (C := Tryd.checked) false (laidWorld os) #[.slice none 0 0] rfl (by kernel_rfl) (by kernel_rfl) (by kernel_rfl)
      (OpenSpec.preRow_of_cond 8 hx (by kernel_rfl) (fun k hk => by cases hk) (by kernel_rfl) (laid_met os))) ?_
  intro W base args ds gs before hval0 hW hcnd _ hsz0 hL _ _
  have hsz : (DataW.weightsEach Tryd.prog (Tryd.f5.params.toList ++ Rows.huffDecodesSpec.plain.varTypes Tryd.prog) (ds ++ gs)).all (· ≤ reachBytes) = true := hsz0
  have hval : ∀ (j : Nat) t v, Tryd.f5.params[j]? = some t → args[j]? = some v → Value.okWide Tryd.prog W .any base t v := hval0
  have hW' := hW
  obtain ⟨p, q, hA0, hV, rfl, hfz, hnd⟩ := hW
  have hA : DataW.TrodAll enc Tryd.prog W 0 (fun _ => true) true Tryd.f5.params.toList args.toList ds p := hA0
  rw [Tryd.params5] at hA hval hsz
  obtain ⟨v0, vs0, d0, ds0, p0, q0, hargs, rfl, rfl, h0, t0⟩ := trodAll_cons hA
  obtain ⟨rfl, rfl, rfl⟩ := trodAll_nil t0
  obtain rfl : args = #[v0] := by cases args; simp_all
  obtain ⟨rfl, rfl⟩ := trodVars_none hV
  have k0 := h0
  have lt0 : ∀ x ∈ p0, x.block < W.heap.size := by obtain ⟨m, hm⟩ := k0; exact DataW.trod_lt m _ _ _ hm
  obtain ⟨a0, len0, cap0, rfl⟩ := okWide_slice Tryd.underlying31 (hval 0 31 v0 rfl rfl)
  obtain ⟨z0, w0, r0⟩ : ∃ zs, Mem.IsRow .u8 W a0 len0 cap0 zs ∧ cap0 * 1 ≤ 140737488351232 := by
    obtain ⟨fuel, hf⟩ := h0
    rcases open_ints Tryd.underlying31 Tryd.underlying5 (by kernel_rfl) hf with ⟨hcs, _⟩ | ⟨x, l, c, zs, hcs, _, hl, hm, hz, hx, hcell, hwz⟩
    · simp [Value.cells] at hcs
      obtain ⟨rfl, rfl, rfl⟩ := hcs
      exact ⟨[], .inl ⟨rfl, rfl, rfl, rfl⟩, by omega⟩
    · simp [Value.cells] at hcs
      obtain ⟨rfl, rfl, rfl⟩ := hcs
      have hx1 := congrArg Prod.fst hx
      simp only at hx1
      have hby : Tryd.prog.bytesOf 5 = 1 := by kernel_rfl
      have hs := sized_slice hsz (j := 0) (t := 31) (e := 5) rfl (by rw [← hx1]; rfl) Tryd.underlying31
      rw [hby] at hs
      refine ⟨zs, .inr ⟨_, rfl, hl, hm, by simpa using hz, hcell, hwz⟩, ?_⟩
      have hz' : zs.length = cap0 := by simpa using hz
      simp only [lits, List.length_map, List.length_take, List.length_drop, reachBytes] at hs
      have hmn : min len0 zs.length + (zs.length - len0) = cap0 := by omega
      rw [hmn] at hs
      exact hs
  clear hA0 hval0 hsz0
  refine (walk a0 len0 cap0 z0 W w0 r0 (grpIs_of (laid := Rows.huffDecodesRow.laid) hL 0 rfl)).mono fun e W' ⟨he, bel⟩ => ?_
  subst he
  exact ⟨_, rfl, _, _, _, [], _, [], hW', trodAll_mk1 (shut_bool Tryd.underlying4 _), (trodAll_cons_mk (Below.trod laidOut (by kernel_rfl) (of_decide_eq_true (by kernel_rfl)) k0 bel lt0) trodAll_mk0), rfl, bel.frame _, fun h => by cases h⟩

theorem over : Rows.huffDecodesRow.holds Tryd.pinned (OpenSpec.ofChange Rows.huffDecodesSpec) :=
  OpenClaim.holds_of_cond 5 Tryd.f5 rfl rfl rfl rfl rfl rfl rfl ⟨rfl, rfl, rfl, rfl, rfl⟩ rfl rfl rfl rfl rfl (by kernel_rfl) Tryd.func5 (by kernel_rfl)
    (of_decide_eq_true (by kernel_rfl)) (by unfold Func.isWrapper; first | (rw [if_pos (by decide +kernel)]; kernel_rfl) | (rw [if_neg (by decide +kernel)]; exact ⟨rfl, rfl⟩))
    (fun os started H enc _ F => by rw [OpenClaim.pre_eq_preRow]; exact lifted os started H enc F)

theorem plain (f : FuncId) (fn : Func) (hf : Tryd.pinned.checked.prog.funcNamed "drawbridge/drawbridgelaw02.HuffDecodes" = some f) (hfn : Tryd.pinned.checked.prog.funcs[f]? = some fn) :
    false = Tryd.pinned.checked.prog.looks [] ∧ ∀ (j : Nat) t, fn.params[j]? = some t → Tryd.pinned.checked.prog.wantsStandIn t = false := by
  obtain rfl : f = 5 := Option.some.inj ((show Tryd.prog.funcNamed "drawbridge/drawbridgelaw02.HuffDecodes" = some 5 by kernel_rfl).symm.trans hf) |>.symm
  obtain rfl : fn = Tryd.f5 := (Option.some.inj (Tryd.func5.symm.trans hfn)).symm
  refine ⟨by kernel_rfl, fun j t ht => ?_⟩
  rw [Tryd.params5] at ht
  have hm := Array.mem_of_getElem? ht
  simp only [List.mem_toArray, List.mem_cons, List.not_mem_nil, or_false] at hm
  rcases hm with rfl
  · exact (show Tryd.prog.wantsStandIn 31 = false by kernel_rfl)

theorem proved : Rows.HuffDecodesCardSaid :=
  Claim7.holds_tied_plain_at .later [] _ _ _ _ over (fun _ h => by cases h) (by kernel_rfl) (fun _ h => by cases h) huffDecodes_row_tie rfl ⟨rfl, rfl⟩ (by kernel_rfl) rfl plain (by kernel_rfl)
end Go.Proofs.YtjoabjkibfcfmaaDoor.huffDecodes
