/-
  PrefixReads holds for every bytes: prefix.TakeText is the document's own answer, and leaves its bytes alone; the table of groups starts as its text lays it.
-/
import Derived.Test.YtabpoejimnoamaaDoorRows
import Derived.WalkKit
import Derived.ProofKit
import Derived.OpenShut
import Derived.ShutString
import Derived.SizedLaws
import Derived.Deep.DeepHandedRow
import Derived.Lib.LaidTab
import Derived.Test.YtabpoejimnoamaaDoorLaid
import Derived.Test.YtabpoejimnoamaaDoorCards
import Derived.Test.YtabpoejimnoamaaDoorTie
import Derived.Test.YtabpoejimnoamaaDoorMem
import Derived.Test.YtabpoejimnoamaaDoorHufPure
import Derived.Test.YtabpoejimnoamaaDoorGen
import Derived.Test.YtabpoejimnoamaaDoorBytes
import Derived.Test.YtabpoejimnoamaaDoorMem2
import Derived.Test.YtabpoejimnoamaaDoorPrePure
import Derived.Test.YtabpoejimnoamaaDoorPreBack
import Derived.Test.YtabpoejimnoamaaDoorHuf1
import Derived.Test.YtabpoejimnoamaaDoorHufV
import Derived.Test.YtabpoejimnoamaaDoorPre4
import Derived.Test.YtabpoejimnoamaaDoorPreP
import Derived.Test.YtabpoejimnoamaaDoorPreQ
import Derived.Test.YtabpoejimnoamaaDoorPreS
namespace Go.Proofs.YtabpoejimnoamaaDoor.prefixReads
open Go.ChangeShapes Go.WideShapes Go.ChangeAt Go.RowKit
open Go.Proofs.YtabpoejimnoamaaDoor Huf Pre Mem Gen
open Go.ChangeMaps (open_string shut_string)
set_option linter.unusedVariables false

theorem own : ownKnob Tryd.prog.godebug = none := by kernel_rfl
theorem laidOut : laidOutB Tryd.prog = true := by kernel_rfl

set_option maxRecDepth 100000 in
set_option maxHeartbeats 2000000 in
theorem walk (a0 : Option Addr) (len0 cap0 : Nat) (z0 : List Int) (w : World) (w0 : Mem.IsRow .u8 w a0 len0 cap0 z0) (r0 : cap0 * 1 ≤ 140737488351232) (tab0 : GrpIs w) :
    Calls Tryd.prog 4 #[.slice a0 len0 cap0] w fun e w' => e = .returned (.bool true) ∧ Below w.heap.size w w' := by
  have HG := Lib.hid tab0
  clear tab0
  obtain ⟨hrb, hlen, hcap, hmax⟩ := w0.rb
  have hnil := Lib.hid w0.nil
  generalize u8s (z0.take len0) = l at hrb hlen
  subst hlen
  have HRB := Lib.hid hrb
  have HMax := Lib.hid hmax
  have HCap := Lib.hid hcap
  have rb2 : ∀ v : World, RB (v.alloc (.cells #[.int .u8 1, .int .u8 97] 5)) (some ⟨v.heap.size, 0, none⟩) [1, 97] := by
    intro v
    refine Or.inr ⟨v.heap.size, 0, rfl, fun i hi => ?_⟩
    rw [cell_of_row _ v.heap.size (0 + i) _ _ (0, 0) (heap_alloc_new v _)]
    simp at hi
    have : i = 0 ∨ i = 1 := by omega
    rcases this with rfl | rfl <;> rfl
  have TA : Hid (∀ v : World, Below w.heap.size w v → Calls Tryd.prog 9 #[.slice (some ⟨v.heap.size, 0, none⟩) 2 2] (v.alloc (.cells #[.int .u8 1, .int .u8 97] 5)) fun e w' => e = .returned (.tuple #[.string ⟨#[97]⟩, .int .i64 2, .int .i64 0]) ∧ Below (v.alloc (.cells #[.int .u8 1, .int .u8 97] 5)).heap.size (v.alloc (.cells #[.int .u8 1, .int .u8 97] 5)) w') := Lib.hid (fun v hv => by
    have h := ptaketext_any (some ⟨v.heap.size, 0, none⟩) [1, 97] 2 _ (by decide) (by decide) (by unfold maxLen; omega) (rb2 v) (HG.out.below (hv.alloc hv.size _))
    rw [show takeT [1, 97] = ([97], 2, 0) from by decide +kernel] at h
    exact h)
  clear rb2 hrb hmax w0
  by_cases hbb : 65536 < l.length
  · go_enter Tryd.func4, Tryd.ntmps4
    go_wp2_with fail
    refine (TA.out _ (Below.refl _ _)).mono ?_; rintro e v1 ⟨rfl, b1⟩
    replace b1 := below_step ((Below.refl _ _).alloc (Nat.le_refl _) _) b1
    go_wp2_with fail
    go_ret
    exact ⟨rfl, b1⟩
  · obtain ⟨i0, hi, hz0, hz1, hz2⟩ := info_parts info_u8
    have HI := Lib.hid hi
    have HZ0 := Lib.hid hz0
    have HZ1 := Lib.hid hz1
    have HZ2 := Lib.hid hz2
    have hll : l.length ≤ 140737488355328 := by omega
    have PT : Hid (∀ v a c, Below w.heap.size w v → RB v a l → l.length ≤ c ∧ c ≤ maxLen → Calls Tryd.prog 9 #[.slice a l.length c] v fun e w' => e = .returned (.tuple #[.string ⟨(takeT l).1.toArray⟩, .int .i64 (takeT l).2.1, .int .i64 (takeT l).2.2]) ∧ Below v.heap.size v w') := Lib.hid (fun v a c hv hr hc => ptaketext_any a l c v (by omega) hc.1 hc.2 hr (HG.out.below hv))
    have RT : Hid (∀ v a c, RB v a l → l.length ≤ c ∧ c ≤ maxLen → Calls Tryd.prog 10 #[.slice a l.length c] v fun e w' => e = .returned (.tuple #[.string ⟨(takeT l).1.toArray⟩, .int .i64 (takeT l).2.1, .int .i64 (takeT l).2.2]) ∧ Below v.heap.size v w') := Lib.hid (fun v a c hr hc => rtaketext_any a l c v (by omega) hc.1 hc.2 hr)
    have BY : Hid (∀ (v : World) a b ca cb, RB v a l → RB v b l → Calls Tryd.prog 7 #[.slice a l.length ca, .slice b l.length cb] v fun e w' => e = .returned (.bool true) ∧ v = w') := Lib.hid (fun v a b ca cb ha hb => by
      have h := bytes_any a b l l ca cb v ha hb
      rwa [decide_eq_true rfl] at h)
    generalize takeT l = N at PT RT
    obtain ⟨u, p, er⟩ := N
    simp only at PT RT
    clear hi hz0 hz1 hz2
    go_enter Tryd.func4, Tryd.ntmps4
    go_wp2_with fail
    refine (TA.out _ (Below.refl _ _)).mono ?_; rintro e v1 ⟨rfl, b1⟩
    replace b1 := below_step ((Below.refl _ _).alloc (Nat.le_refl _) _) b1
    have R1 := Lib.hid (HRB.out.below b1)
    go_wp2_with (at_builtin; refine append_rb3 Tryd.underlying22 HI.out HZ0.out HZ1.out HZ2.out rfl _ _ rfl v1.heap.size (some ⟨v1.heap.size, 0, none⟩) 0 [] rfl (own_empty1 v1 _) a0 l cap0 rfl hnil.out (R1.out.below ((Below.refl _ _).alloc (Nat.le_refl _) _)) l rfl hll (by simp) ?_)
    intro ad2 cp2 v2 hown2 hb2
    have b2 := below_step b1 (hb2 _ _ ((Below.refl _ _).alloc (Nat.le_refl _) _) (Nat.le_refl _))
    have R2 : Hid (RB v2 ad2 l) := Lib.hid (RB.of_own hown2.out)
    have C2 := Lib.hid (own_le hown2.out)
    clear hown2 hb2
    go_wp2_with fail
    refine (PT.out _ _ _ b2 R2.out C2.out).mono ?_; rintro e v3 ⟨rfl, b3⟩
    have R3 : Hid (RB v3 ad2 l) := Lib.hid (R2.out.below b3)
    replace b3 := below_step b2 b3
    have R3' := Lib.hid (HRB.out.below b3)
    go_wp2_with fail
    refine (RT.out _ _ _ R3'.out ⟨HCap.out, HMax.out⟩).mono ?_; rintro e v4 ⟨rfl, b4⟩
    have R4 : Hid (RB v4 ad2 l) := Lib.hid (R3.out.below b4)
    replace b4 := below_step b3 b4
    have R4' := Lib.hid (HRB.out.below b4)
    go_wp2_with fail
    refine (BY.out _ _ _ _ _ R4.out R4'.out).mono ?_; rintro e w' ⟨rfl, rfl⟩
    go_wp2_with fail
    go_ret
    exact ⟨by simp, b4⟩


noncomputable def laidWorld (os : Os) : World :=
  { World.holding Tryd.prog os ⟨#[], #[], []⟩ with heap := (((World.holding Tryd.prog os ⟨#[], #[], []⟩).heap).modify 0 fun
      | .cells _ t frozen => .cells #[.int .i64 0, .int .u32 0, .int .i64 0, .int .i64 0, .int .u32 0, .int .i64 0, .int .i64 0, .int .u32 0, .int .i64 0, .int .i64 0, .int .u32 0, .int .i64 0, .int .i64 0, .int .u32 0, .int .i64 0, .int .i64 10, .int .u32 0, .int .i64 0, .int .i64 26, .int .u32 20, .int .i64 10, .int .i64 32, .int .u32 92, .int .i64 36, .int .i64 6, .int .u32 248, .int .i64 68, .int .i64 0, .int .u32 0, .int .i64 0, .int .i64 5, .int .u32 1016, .int .i64 74, .int .i64 3, .int .u32 2042, .int .i64 79, .int .i64 2, .int .u32 4090, .int .i64 82, .int .i64 6, .int .u32 8184, .int .i64 84, .int .i64 2, .int .u32 16380, .int .i64 90, .int .i64 3, .int .u32 32764, .int .i64 92, .int .i64 0, .int .u32 0, .int .i64 0, .int .i64 0, .int .u32 0, .int .i64 0, .int .i64 0, .int .u32 0, .int .i64 0, .int .i64 3, .int .u32 524272, .int .i64 95, .int .i64 8, .int .u32 1048550, .int .i64 98, .int .i64 13, .int .u32 2097116, .int .i64 106, .int .i64 26, .int .u32 4194258, .int .i64 119, .int .i64 29, .int .u32 8388568, .int .i64 145, .int .i64 12, .int .u32 16777194, .int .i64 174, .int .i64 4, .int .u32 33554412, .int .i64 186, .int .i64 15, .int .u32 67108832, .int .i64 190, .int .i64 19, .int .u32 134217694, .int .i64 205, .int .i64 29, .int .u32 268435426, .int .i64 224, .int .i64 0, .int .u32 0, .int .i64 0, .int .i64 4, .int .u32 1073741820, .int .i64 253] t frozen
      | o => o) }
theorem laid_met (os : Os) : laidMet Tryd.prog Rows.prefixReadsRow.laid ((laidWorld os).forCall (fun _ _ => 0) ⟨#[], #[.slice none 0 0], []⟩).memory :=
  laidMet_of_run' 8 (by kernel_rfl) (by kernel_rfl)
theorem reads (os : Os) {H : Type} (enc : TypeId × Value → H) : ∃ places, DataW.whole enc Tryd.prog ((laidWorld os).forCall (fun _ _ => 0) ⟨#[], #[.slice none 0 0], []⟩).memory Tryd.f4.params.toList Rows.prefixReadsSpec.vars false (#[.slice none 0 0] : Array Value).toList 8 = some ([.nil], [], places) :=
  ⟨[], by kernel_rfl⟩

set_option maxRecDepth 100000 in
theorem lifted (os : Os) (started : os.Started) (H : Type) (enc : TypeId × Value → H) (F : Stop.Interp) :
    ReturnsInHanded {} Tryd.checked os 4 .any ((OpenSpec.ofChange Rows.prefixReadsSpec).preRow enc Tryd.prog Tryd.f4 Rows.prefixReadsRow.domain false Rows.prefixReadsRow.laid) (((OpenSpec.ofChange Rows.prefixReadsSpec).at F).post enc Tryd.prog Tryd.f4 false true false false) := by
  obtain ⟨places, hx⟩ := reads os enc
  refine returnsInHanded_of_row (C := Tryd.checked) (s := OpenSpec.ofChange Rows.prefixReadsSpec) own started (by kernel_rfl) Tryd.func4
    (witness_row_at (enc := enc) (C := Tryd.checked) false (laidWorld os) #[.slice none 0 0] rfl (by kernel_rfl) (by kernel_rfl) (by kernel_rfl)
      (OpenSpec.preRow_of_cond 8 hx (by kernel_rfl) (fun k hk => by cases hk) (by kernel_rfl) (laid_met os))) ?_
  intro W base args ds gs before hval0 hW hcnd _ hsz0 hL _ _
  have hsz : (DataW.weightsEach Tryd.prog (Tryd.f4.params.toList ++ Rows.prefixReadsSpec.plain.varTypes Tryd.prog) (ds ++ gs)).all (· ≤ reachBytes) = true := hsz0
  have hval : ∀ (j : Nat) t v, Tryd.f4.params[j]? = some t → args[j]? = some v → Value.okWide Tryd.prog W .any base t v := hval0
  have hW' := hW
  obtain ⟨p, q, hA0, hV, rfl, hfz, hnd⟩ := hW
  have hA : DataW.TrodAll enc Tryd.prog W 0 (fun _ => true) true Tryd.f4.params.toList args.toList ds p := hA0
  rw [Tryd.params4] at hA hval hsz
  obtain ⟨v0, vs0, d0, ds0, p0, q0, hargs, rfl, rfl, h0, t0⟩ := trodAll_cons hA
  obtain ⟨rfl, rfl, rfl⟩ := trodAll_nil t0
  obtain rfl : args = #[v0] := by cases args; simp_all
  obtain ⟨rfl, rfl⟩ := trodVars_none hV
  have k0 := h0
  have lt0 : ∀ x ∈ p0, x.block < W.heap.size := by obtain ⟨m, hm⟩ := k0; exact DataW.trod_lt m _ _ _ hm
  obtain ⟨a0, len0, cap0, rfl⟩ := okWide_slice Tryd.underlying22 (hval 0 22 v0 rfl rfl)
  obtain ⟨z0, w0, r0⟩ : ∃ zs, Mem.IsRow .u8 W a0 len0 cap0 zs ∧ cap0 * 1 ≤ 140737488351232 := by
    obtain ⟨fuel, hf⟩ := h0
    rcases open_ints Tryd.underlying22 Tryd.underlying5 (by kernel_rfl) hf with ⟨hcs, _⟩ | ⟨x, l, c, zs, hcs, _, hl, hm, hz, hx, hcell, hwz⟩
    · simp [Value.cells] at hcs
      obtain ⟨rfl, rfl, rfl⟩ := hcs
      exact ⟨[], .inl ⟨rfl, rfl, rfl, rfl⟩, by omega⟩
    · simp [Value.cells] at hcs
      obtain ⟨rfl, rfl, rfl⟩ := hcs
      have hx1 := congrArg Prod.fst hx
      simp only at hx1
      have hby : Tryd.prog.bytesOf 5 = 1 := by kernel_rfl
      have hs := sized_slice hsz (j := 0) (t := 22) (e := 5) rfl (by rw [← hx1]; rfl) Tryd.underlying22
      rw [hby] at hs
      refine ⟨zs, .inr ⟨_, rfl, hl, hm, by simpa using hz, hcell, hwz⟩, ?_⟩
      have hz' : zs.length = cap0 := by simpa using hz
      simp only [lits, List.length_map, List.length_take, List.length_drop, reachBytes] at hs
      have hmn : min len0 zs.length + (zs.length - len0) = cap0 := by omega
      rw [hmn] at hs
      exact hs
  clear hA0 hval0 hsz0
  refine (walk a0 len0 cap0 z0 W w0 r0 (grpIs_of (laid := Rows.prefixReadsRow.laid) hL 0 rfl)).mono fun e W' ⟨he, bel⟩ => ?_
  subst he
  exact ⟨_, rfl, _, _, _, [], _, [], hW', trodAll_mk1 (shut_bool Tryd.underlying4 _), (trodAll_cons_mk (Below.trod laidOut (by kernel_rfl) (of_decide_eq_true (by kernel_rfl)) k0 bel lt0) trodAll_mk0), rfl, bel.frame _, fun h => by cases h⟩

theorem over : Rows.prefixReadsRow.holds Tryd.pinned (OpenSpec.ofChange Rows.prefixReadsSpec) :=
  OpenClaim.holds_of_cond 4 Tryd.f4 rfl rfl rfl rfl rfl rfl rfl ⟨rfl, rfl, rfl, rfl, rfl⟩ rfl rfl rfl rfl rfl (by kernel_rfl) Tryd.func4 (by kernel_rfl)
    (of_decide_eq_true (by kernel_rfl)) (by unfold Func.isWrapper; first | (rw [if_pos (by decide +kernel)]; kernel_rfl) | (rw [if_neg (by decide +kernel)]; exact ⟨rfl, rfl⟩))
    (fun os started H enc _ F => by rw [OpenClaim.pre_eq_preRow]; exact lifted os started H enc F)

theorem plain (f : FuncId) (fn : Func) (hf : Tryd.pinned.checked.prog.funcNamed "drawbridge/drawbridgelaw03.PrefixReads" = some f) (hfn : Tryd.pinned.checked.prog.funcs[f]? = some fn) :
    false = Tryd.pinned.checked.prog.looks [] ∧ ∀ (j : Nat) t, fn.params[j]? = some t → Tryd.pinned.checked.prog.wantsStandIn t = false := by
  obtain rfl : f = 4 := Option.some.inj ((show Tryd.prog.funcNamed "drawbridge/drawbridgelaw03.PrefixReads" = some 4 by kernel_rfl).symm.trans hf) |>.symm
  obtain rfl : fn = Tryd.f4 := (Option.some.inj (Tryd.func4.symm.trans hfn)).symm
  refine ⟨by kernel_rfl, fun j t ht => ?_⟩
  rw [Tryd.params4] at ht
  have hm := Array.mem_of_getElem? ht
  simp only [List.mem_toArray, List.mem_cons, List.not_mem_nil, or_false] at hm
  rcases hm with rfl
  · exact (show Tryd.prog.wantsStandIn 22 = false by kernel_rfl)

theorem proved : Rows.PrefixReadsCardSaid :=
  Claim7.holds_tied_plain_at .later [] _ _ _ _ over (fun _ h => by cases h) (by kernel_rfl) (fun _ h => by cases h) prefixReads_row_tie rfl ⟨rfl, rfl⟩ (by kernel_rfl) rfl plain (by kernel_rfl)
end Go.Proofs.YtabpoejimnoamaaDoor.prefixReads
