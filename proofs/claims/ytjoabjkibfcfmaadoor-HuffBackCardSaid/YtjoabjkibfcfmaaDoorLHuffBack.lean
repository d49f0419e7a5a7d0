/-
  HuffBack holds for every text and every bytes: what is encoded is decoded as it was, and what is decoded is encoded as it was; the table of groups starts as its text lays it.
-/
import Derived.Test.YtjoabjkibfcfmaaDoorRows
import Derived.WalkKit
import Derived.ProofKit
import Derived.OpenShut
import Derived.ShutString
import Derived.SizedLaws
import Derived.Deep.DeepHandedRow
import Derived.Lib.LaidTab
import Derived.Test.YtjoabjkibfcfmaaDoorLaid
import Derived.Test.YtjoabjkibfcfmaaDoorCards
import Derived.Test.YtjoabjkibfcfmaaDoorTie
import Derived.Test.YtjoabjkibfcfmaaDoorMem
import Derived.Test.YtjoabjkibfcfmaaDoorHufPure
import Derived.Test.YtjoabjkibfcfmaaDoorHufTree
import Derived.Test.YtjoabjkibfcfmaaDoorHuf1
import Derived.Test.YtjoabjkibfcfmaaDoorHuf2
import Derived.Test.YtjoabjkibfcfmaaDoorHuf3
import Derived.Test.YtjoabjkibfcfmaaDoorHuf4
import Derived.Test.YtjoabjkibfcfmaaDoorHufV
namespace Go.Proofs.YtjoabjkibfcfmaaDoor.huffBack
open Go.ChangeShapes Go.WideShapes Go.ChangeAt Go.RowKit
open Go.Proofs.YtjoabjkibfcfmaaDoor Huf Mem
open Go.ChangeMaps (open_string shut_string)
set_option linter.unusedVariables false

theorem own : ownKnob Tryd.prog.godebug = none := by kernel_rfl
theorem laidOut : laidOutB Tryd.prog = true := by kernel_rfl

set_option maxHeartbeats 1000000 in
theorem walk (a0 : ByteArray) (a1 : Option Addr) (len1 cap1 : Nat) (z1 : List Int) (w : World) (w0 : a0.size ≤ maxLen) (r0 : a0.size ≤ 140737488351232) (w1 : Mem.IsRow .u8 w a1 len1 cap1 z1) (r1 : cap1 * 1 ≤ 140737488351232) (tab0 : GrpIs w) :
    Calls Tryd.prog 6 #[.string a0, .slice a1 len1 cap1] w fun e w' => e = .returned (.bool true) ∧ Below w.heap.size w w' := by
  have HG := Lib.hid tab0
  obtain ⟨hrb, hlen, hcap, hmax⟩ := w1.rb
  generalize u8s (z1.take len1) = l at hrb hlen
  subst hlen
  have HRB := Lib.hid hrb
  clear tab0 hrb hmax w1
  by_cases hba : 65536 < a0.size
  · go_enter Tryd.func6, Tryd.ntmps6
    go_wp2_with fail
    refine (awake_any _ HG.out).mono ?_; rintro e v1 ⟨rfl, b1⟩
    go_wp2_with fail
    go_ret
    exact ⟨rfl, b1⟩
  · by_cases hbb : 65536 < l.length
    · go_enter Tryd.func6, Tryd.ntmps6
      go_wp2_with fail
      refine (awake_any _ HG.out).mono ?_; rintro e v1 ⟨rfl, b1⟩
      go_wp2_with fail
      go_ret
      exact ⟨rfl, b1⟩
    · have EA : Hid (∀ v, GrpIs v → Calls Tryd.prog 13 #[.string a0] v (MadeB v (enc a0.data.toList))) := Lib.hid (fun v hg => encode_any a0 v (by omega) hg)
      have hle : (enc a0.data.toList).length ≤ 134217728 := by
        have := (blen_bd a0.data.toList).2
        rw [list_len] at this
        rw [enc_length]; omega
      have DA : Hid (∀ v a c, GrpIs v → RB v a (enc a0.data.toList) → Calls Tryd.prog 17 #[.slice a (enc a0.data.toList).length c] v fun e w' => e = .returned (.tuple #[.string a0, .int .i64 0]) ∧ Below v.heap.size v w') := Lib.hid (fun v a c hg hr => by
        have h := decode_any a _ c v hle hr hg
        have e1 : decV (enc a0.data.toList) = a0.data.toList := by rw [decV, dec_enc]; rfl
        have e2 : decE (enc a0.data.toList) = 0 := by rw [decE, dec_enc]; rfl
        rwa [e1, e2] at h)
      have DB : Hid (∀ v, GrpIs v → RB v a1 l → Calls Tryd.prog 17 #[.slice a1 l.length cap1] v fun e w' => e = .returned (.tuple #[.string ⟨(decV l).toArray⟩, .int .i64 (decE l)]) ∧ Below v.heap.size v w') := Lib.hid (fun v hg hr => decode_any a1 l cap1 v (by omega) hr hg)
      generalize enc a0.data.toList = ea at hle EA DA
      have hcase : (dec l = none ∧ decV l = [] ∧ decE l = 10) ∨ (∃ u, dec l = some u ∧ decV l = u ∧ decE l = 0 ∧ enc u = l) := by
        cases hd : dec l with
        | none => exact Or.inl ⟨rfl, by rw [decV, hd]; rfl, by rw [decE, hd]; rfl⟩
        | some u => exact Or.inr ⟨u, rfl, by rw [decV, hd]; rfl, by rw [decE, hd]; rfl, enc_dec l u hd⟩
      clear hle
      rcases hcase with ⟨_, e1, e2⟩ | ⟨u, _, e1, e2, e3⟩
      · rw [e1, e2] at DB
        clear e1 e2
        go_enter Tryd.func6, Tryd.ntmps6
        go_wp2_with fail
        refine (awake_any _ HG.out).mono ?_; rintro e v1 ⟨rfl, b1⟩
        go_wp2_with fail
        refine (EA.out _ (HG.out.below b1)).mono ?_; rintro e v2 ⟨ad2, cp2, rfl, hown2, b2⟩
        have R2 : Hid (RB v2 ad2 ea) := Lib.hid (RB.of_own hown2.out)
        replace b2 := below_step b1 b2
        clear hown2
        go_wp2_with fail
        refine (DA.out _ _ _ (HG.out.below b2) R2.out).mono ?_; rintro e v3 ⟨rfl, b3⟩
        replace b3 := below_step b2 b3
        go_wp2_with fail
        refine (DB.out _ (HG.out.below b3) (HRB.out.below b3)).mono ?_; rintro e v4 ⟨rfl, b4⟩
        replace b4 := below_step b3 b4
        go_wp2_with fail
        go_ret
        exact ⟨rfl, b4⟩
      · have hul : u.length ≤ 1048576 := by
          have h1 := (blen_bd u).1
          have h2 := enc_length u
          rw [e3] at h2; omega
        have EB : Hid (∀ v, GrpIs v → Calls Tryd.prog 13 #[.string ⟨u.toArray⟩] v (MadeB v l)) := Lib.hid (fun v hg => by
          have h := encode_any ⟨u.toArray⟩ v (by show u.toArray.size ≤ _; simpa using hul) hg
          rwa [show (ByteArray.mk u.toArray).data.toList = u from by simp, e3] at h)
        rw [e1, e2] at DB
        clear e1 e2 e3 hul
        go_enter Tryd.func6, Tryd.ntmps6
        go_wp2_with fail
        refine (awake_any _ HG.out).mono ?_; rintro e v1 ⟨rfl, b1⟩
        go_wp2_with fail
        refine (EA.out _ (HG.out.below b1)).mono ?_; rintro e v2 ⟨ad2, cp2, rfl, hown2, b2⟩
        have R2 : Hid (RB v2 ad2 ea) := Lib.hid (RB.of_own hown2.out)
        replace b2 := below_step b1 b2
        clear hown2
        go_wp2_with fail
        refine (DA.out _ _ _ (HG.out.below b2) R2.out).mono ?_; rintro e v3 ⟨rfl, b3⟩
        replace b3 := below_step b2 b3
        go_wp2_with fail
        refine (DB.out _ (HG.out.below b3) (HRB.out.below b3)).mono ?_; rintro e v4 ⟨rfl, b4⟩
        replace b4 := below_step b3 b4
        go_wp2_with fail
        refine (EB.out _ (HG.out.below b4)).mono ?_; rintro e v5 ⟨ad5, cp5, rfl, hown5, b5⟩
        have T5 := Lib.hid (bytes_any ad5 a1 l l cp5 cap1 v5 (RB.of_own hown5.out) (HRB.out.below (below_step b4 b5)))
        replace b5 := below_step b4 b5
        clear hown5
        go_wp2_with fail
        refine T5.out.mono ?_; rintro e w' ⟨rfl, rfl⟩
        go_wp2_with fail
        go_ret
        exact ⟨by simp, b5⟩


noncomputable def laidWorld (os : Os) : World :=
  { World.holding Tryd.prog os ⟨#[], #[], []⟩ with heap := (((World.holding Tryd.prog os ⟨#[], #[], []⟩).heap).modify 0 fun
      | .cells _ t frozen => .cells #[.int .i64 0, .int .u32 0, .int .i64 0, .int .i64 0, .int .u32 0, .int .i64 0, .int .i64 0, .int .u32 0, .int .i64 0, .int .i64 0, .int .u32 0, .int .i64 0, .int .i64 0, .int .u32 0, .int .i64 0, .int .i64 10, .int .u32 0, .int .i64 0, .int .i64 26, .int .u32 20, .int .i64 10, .int .i64 32, .int .u32 92, .int .i64 36, .int .i64 6, .int .u32 248, .int .i64 68, .int .i64 0, .int .u32 0, .int .i64 0, .int .i64 5, .int .u32 1016, .int .i64 74, .int .i64 3, .int .u32 2042, .int .i64 79, .int .i64 2, .int .u32 4090, .int .i64 82, .int .i64 6, .int .u32 8184, .int .i64 84, .int .i64 2, .int .u32 16380, .int .i64 90, .int .i64 3, .int .u32 32764, .int .i64 92, .int .i64 0, .int .u32 0, .int .i64 0, .int .i64 0, .int .u32 0, .int .i64 0, .int .i64 0, .int .u32 0, .int .i64 0, .int .i64 3, .int .u32 524272, .int .i64 95, .int .i64 8, .int .u32 1048550, .int .i64 98, .int .i64 13, .int .u32 2097116, .int .i64 106, .int .i64 26, .int .u32 4194258, .int .i64 119, .int .i64 29, .int .u32 8388568, .int .i64 145, .int .i64 12, .int .u32 16777194, .int .i64 174, .int .i64 4, .int .u32 33554412, .int .i64 186, .int .i64 15, .int .u32 67108832, .int .i64 190, .int .i64 19, .int .u32 134217694, .int .i64 205, .int .i64 29, .int .u32 268435426, .int .i64 224, .int .i64 0, .int .u32 0, .int .i64 0, .int .i64 4, .int .u32 1073741820, .int .i64 253] t frozen
      | o => o) }
theorem laid_met (os : Os) : laidMet Tryd.prog Rows.huffBackRow.laid ((laidWorld os).forCall (fun _ _ => 0) ⟨#[], #[.string ByteArray.empty, .slice none 0 0], []⟩).memory :=
  laidMet_of_run' 8 (by kernel_rfl) (by kernel_rfl)
theorem reads (os : Os) {H : Type} (enc : TypeId × Value → H) : ∃ places, DataW.whole enc Tryd.prog ((laidWorld os).forCall (fun _ _ => 0) ⟨#[], #[.string ByteArray.empty, .slice none 0 0], []⟩).memory Tryd.f6.params.toList Rows.huffBackSpec.vars false (#[.string ByteArray.empty, .slice none 0 0] : Array Value).toList 8 = some ([.lit (.string []), .nil], [], places) :=
  ⟨[], by kernel_rfl⟩

set_option maxRecDepth 100000 in
theorem lifted (os : Os) (started : os.Started) (H : Type) (enc : TypeId × Value → H) (F : Stop.Interp) :
    ReturnsInHanded {} Tryd.checked os 6 .any ((OpenSpec.ofChange Rows.huffBackSpec).preRow enc Tryd.prog Tryd.f6 Rows.huffBackRow.domain false Rows.huffBackRow.laid) (((OpenSpec.ofChange Rows.huffBackSpec).at F).post enc Tryd.prog Tryd.f6 false true false false) := by
  obtain ⟨places, hx⟩ := reads os enc
  refine returnsInHanded_of_row (C := Tryd.checked) (s := OpenSpec.ofChange Rows.huffBackSpec) own started (by kernel_rfl) Tryd.func6
    (witness_row_at (enc := enc) (C := Tryd.checked) false (laidWorld os) #[.string ByteArray.empty, .slice none 0 0] rfl (by kernel_rfl) (by kernel_rfl) (by kernel_rfl)
      (OpenSpec.preRow_of_cond 8 hx (by kernel_rfl) (fun k hk => by cases hk) (by kernel_rfl) (laid_met os))) ?_
  intro W base args ds gs before hval0 hW hcnd _ hsz0 hL _ _
  have hsz : (DataW.weightsEach Tryd.prog (Tryd.f6.params.toList ++ Rows.huffBackSpec.plain.varTypes Tryd.prog) (ds ++ gs)).all (· ≤ reachBytes) = true := hsz0
  have hval : ∀ (j : Nat) t v, Tryd.f6.params[j]? = some t → args[j]? = some v → Value.okWide Tryd.prog W .any base t v := hval0
  have hW' := hW
  obtain ⟨p, q, hA0, hV, rfl, hfz, hnd⟩ := hW
  have hA : DataW.TrodAll enc Tryd.prog W 0 (fun _ => true) true Tryd.f6.params.toList args.toList ds p := hA0
  rw [Tryd.params6] at hA hval hsz
  obtain ⟨v0, vs0, d0, ds0, p0, q0, hargs, rfl, rfl, h0, t0⟩ := trodAll_cons hA
  obtain ⟨v1, vs1, d1, ds1, p1, q1, rfl, rfl, rfl, h1, t1⟩ := trodAll_cons t0
  obtain ⟨rfl, rfl, rfl⟩ := trodAll_nil t1
  obtain rfl : args = #[v0, v1] := by cases args; simp_all
  obtain ⟨rfl, rfl⟩ := trodVars_none hV
  have k0 := h0
  have lt0 : ∀ x ∈ p0, x.block < W.heap.size := by obtain ⟨m, hm⟩ := k0; exact DataW.trod_lt m _ _ _ hm
  obtain ⟨a0, rfl, rfl, rfl, w0⟩ := open_string Tryd.underlying9 (hval 0 9 v0 rfl rfl) h0
  have r0 : a0.size ≤ 140737488351232 := by have := sized_string hsz (j := 0) (t := 9) rfl rfl; simpa [reachBytes] using this
  have k1 := h1
  have lt1 : ∀ x ∈ p1, x.block < W.heap.size := by obtain ⟨m, hm⟩ := k1; exact DataW.trod_lt m _ _ _ hm
  obtain ⟨a1, len1, cap1, rfl⟩ := okWide_slice Tryd.underlying31 (hval 1 31 v1 rfl rfl)
  obtain ⟨z1, w1, r1⟩ : ∃ zs, Mem.IsRow .u8 W a1 len1 cap1 zs ∧ cap1 * 1 ≤ 140737488351232 := by
    obtain ⟨fuel, hf⟩ := h1
    rcases open_ints Tryd.underlying31 Tryd.underlying5 (by kernel_rfl) hf with ⟨hcs, _⟩ | ⟨x, l, c, zs, hcs, _, hl, hm, hz, hx, hcell, hwz⟩
    · simp [Value.cells] at hcs
      obtain ⟨rfl, rfl, rfl⟩ := hcs
      exact ⟨[], .inl ⟨rfl, rfl, rfl, rfl⟩, by omega⟩
    · simp [Value.cells] at hcs
      obtain ⟨rfl, rfl, rfl⟩ := hcs
      have hx1 := congrArg Prod.fst hx
      simp only at hx1
      have hby : Tryd.prog.bytesOf 5 = 1 := by kernel_rfl
      have hs := sized_slice hsz (j := 1) (t := 31) (e := 5) rfl (by rw [← hx1]; rfl) Tryd.underlying31
      rw [hby] at hs
      refine ⟨zs, .inr ⟨_, rfl, hl, hm, by simpa using hz, hcell, hwz⟩, ?_⟩
      have hz' : zs.length = cap1 := by simpa using hz
      simp only [lits, List.length_map, List.length_take, List.length_drop, reachBytes] at hs
      have hmn : min len1 zs.length + (zs.length - len1) = cap1 := by omega
      rw [hmn] at hs
      exact hs
  clear hA0 hval0 hsz0
  refine (walk a0 a1 len1 cap1 z1 W w0 r0 w1 r1 (grpIs_of (laid := Rows.huffBackRow.laid) hL 0 rfl)).mono fun e W' ⟨he, bel⟩ => ?_
  subst he
  exact ⟨_, rfl, _, _, _, [], _, [], hW', trodAll_mk1 (shut_bool Tryd.underlying4 _), (trodAll_cons_mk (Below.trod laidOut (by kernel_rfl) (of_decide_eq_true (by kernel_rfl)) k0 bel lt0) (trodAll_cons_mk (Below.trod laidOut (by kernel_rfl) (of_decide_eq_true (by kernel_rfl)) k1 bel lt1) trodAll_mk0)), rfl, bel.frame _, fun h => by cases h⟩

theorem over : Rows.huffBackRow.holds Tryd.pinned (OpenSpec.ofChange Rows.huffBackSpec) :=
  OpenClaim.holds_of_cond 6 Tryd.f6 rfl rfl rfl rfl rfl rfl rfl ⟨rfl, rfl, rfl, rfl, rfl⟩ rfl rfl rfl rfl rfl (by kernel_rfl) Tryd.func6 (by kernel_rfl)
    (of_decide_eq_true (by kernel_rfl)) (by unfold Func.isWrapper; first | (rw [if_pos (by decide +kernel)]; kernel_rfl) | (rw [if_neg (by decide +kernel)]; exact ⟨rfl, rfl⟩))
    (fun os started H enc _ F => by rw [OpenClaim.pre_eq_preRow]; exact lifted os started H enc F)

theorem plain (f : FuncId) (fn : Func) (hf : Tryd.pinned.checked.prog.funcNamed "drawbridge/drawbridgelaw02.HuffBack" = some f) (hfn : Tryd.pinned.checked.prog.funcs[f]? = some fn) :
    false = Tryd.pinned.checked.prog.looks [] ∧ ∀ (j : Nat) t, fn.params[j]? = some t → Tryd.pinned.checked.prog.wantsStandIn t = false := by
  obtain rfl : f = 6 := Option.some.inj ((show Tryd.prog.funcNamed "drawbridge/drawbridgelaw02.HuffBack" = some 6 by kernel_rfl).symm.trans hf) |>.symm
  obtain rfl : fn = Tryd.f6 := (Option.some.inj (Tryd.func6.symm.trans hfn)).symm
  refine ⟨by kernel_rfl, fun j t ht => ?_⟩
  rw [Tryd.params6] at ht
  have hm := Array.mem_of_getElem? ht
  simp only [List.mem_toArray, List.mem_cons, List.not_mem_nil, or_false] at hm
  rcases hm with rfl | rfl
  · exact (show Tryd.prog.wantsStandIn 9 = false by kernel_rfl)
  · exact (show Tryd.prog.wantsStandIn 31 = false by kernel_rfl)

theorem proved : Rows.HuffBackCardSaid :=
  Claim7.holds_tied_plain_at .later [] _ _ _ _ over (fun _ h => by cases h) (by kernel_rfl) (fun _ h => by cases h) huffBack_row_tie rfl ⟨rfl, rfl⟩ (by kernel_rfl) rfl plain (by kernel_rfl)
end Go.Proofs.YtjoabjkibfcfmaaDoor.huffBack
