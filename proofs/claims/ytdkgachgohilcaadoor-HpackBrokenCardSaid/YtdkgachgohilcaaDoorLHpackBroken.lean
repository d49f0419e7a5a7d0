/-
  HpackBroken holds for every two rows of bytes: a decoder that met a block which can't be read answers nothing any more, and what isn't there answers nothing; the table of groups starts as its text lays it.
-/
import Derived.Test.YtdkgachgohilcaaDoorRows
import Derived.WalkKit
import Derived.ProofKit
import Derived.OpenShut
import Derived.ShutString
import Derived.SizedLaws
import Derived.Deep.DeepHandedRow
import Derived.Lib.LaidTab
import Derived.Test.YtdkgachgohilcaaDoorGP26
import Derived.Test.YtdkgachgohilcaaDoorCards
import Derived.Test.YtdkgachgohilcaaDoorTie
import Derived.Test.YtdkgachgohilcaaDoorGP01
import Derived.Test.YtdkgachgohilcaaDoorGP25
namespace Go.Proofs.YtdkgachgohilcaaDoor.hpackBroken
open Go.ChangeShapes Go.WideShapes Go.ChangeAt Go.RowKit
open Go.Proofs.YtdkgachgohilcaaDoor Huf Pre Tab Hpk Arg Mem Gen Wr Go.Proofs.YtdkgachgohilcaaDoor.Obj Sx
open Go.ChangeMaps (open_string shut_string)
set_option linter.unusedVariables false
set_option linter.unusedSimpArgs false

theorem own : ownKnob Tryd.prog.godebug = none := by kernel_rfl
theorem laidOut : laidOutB Tryd.prog = true := by kernel_rfl

set_option maxRecDepth 100000 in
set_option maxHeartbeats 2000000 in
theorem walk (a0 : Option Addr) (len0 cap0 : Nat) (z0 : List Int) (a1 : Option Addr) (len1 cap1 : Nat) (z1 : List Int) (w : World) (w0 : Mem.IsRow .u8 w a0 len0 cap0 z0) (r0 : cap0 * 1 ≤ 140737488351232) (w1 : Mem.IsRow .u8 w a1 len1 cap1 z1) (r1 : cap1 * 1 ≤ 140737488351232) (tab0 : GrpIs w) :
    Calls Tryd.prog 7 #[.slice a0 len0 cap0, .slice a1 len1 cap1] w fun e w' => e = .returned (.bool true) ∧ Below w.heap.size w w' := by
  have HG := Lib.hid tab0
  clear tab0
  obtain ⟨hrb0, hlen0, hcap0, hmax0⟩ := w0.rb
  generalize u8s (z0.take len0) = l at hrb0 hlen0
  subst hlen0
  obtain ⟨hrb1, hlen1, hcap1, hmax1⟩ := w1.rb
  generalize u8s (z1.take len1) = q at hrb1 hlen1
  subst hlen1
  have HR0 := Lib.hid hrb0
  have HR1 := Lib.hid hrb1
  have HC0 := Lib.hid hcap0
  have HC1 := Lib.hid hcap1
  have HM0 := Lib.hid hmax0
  have HM1 := Lib.hid hmax1
  clear w0 w1 hrb0 hrb1 hcap0 hcap1 hmax0 hmax1 r0 r1
  have HA := Lib.hid (awake_any w HG.out)
  by_cases hb0 : 16384 < l.length
  · have hb0' : (l.length : Int) > 16384 := by omega
    go_enter Tryd.func7, Tryd.ntmps7
    go_wp2_with fail
    refine HA.out.mono ?_; rintro e v1 ⟨rfl, b1⟩
    go_wp2_with fail
    go_ret
    exact ⟨rfl, b1⟩
  · have hb0' : ¬ (l.length : Int) > 16384 := by omega
    by_cases hb1 : 16384 < q.length
    · have hb1' : (q.length : Int) > 16384 := by omega
      go_enter Tryd.func7, Tryd.ntmps7
      go_wp2_with fail
      refine HA.out.mono ?_; rintro e v1 ⟨rfl, b1⟩
      go_wp2_with fail
      go_ret
      exact ⟨rfl, b1⟩
    · have hb1' : ¬ (q.length : Int) > 16384 := by omega
      go_enter Tryd.func7, Tryd.ntmps7
      go_wp2_with fail
      refine HA.out.mono ?_; rintro e v1 ⟨rfl, b1⟩
      have H1 := Lib.hid (Sts.of_below b1)
      clear b1 HA
      go_wp2_with fail
      refine (pdecode_nil _ _).mono ?_; rintro e v2 ⟨rfl, b2⟩
      have H2 := Lib.hid (H1.out.below b2)
      clear b2 H1
      go_wp2_with fail
      refine (pdrows_nil _).mono ?_; rintro e v3 ⟨rfl, b3⟩
      have H3 := Lib.hid (H2.out.below b3)
      clear b3 H2
      go_wp2_with fail
      refine (perows_nil _).mono ?_; rintro e v4 ⟨rfl, b4⟩
      have H4 := Lib.hid (H3.out.below b4)
      clear b4 H3
      go_wp2_with fail
      refine (plimit_nil _ _).mono ?_; rintro e v5 ⟨rfl, b5⟩
      have H5 := Lib.hid (H4.out.below b5)
      clear b5 H4
      go_wp2_with fail
      refine (pencode_nil _ _).mono ?_; rintro e v6 ⟨rfl, b6⟩
      have H6 := Lib.hid ((H5.out.below (below_alloc _ _)).below b6)
      clear b6 H5
      go_wp2_with fail
      refine (st_newdec (md := 4096) (ld := 1099511627776) H6.out (by decide)).mono ?_; rintro e v7 ⟨g, F, rfl, S7⟩
      have H7 := Lib.hid S7
      clear S7 H6
      go_wp2_with fail
      have hd1 := st_decode H7.out 0 rfl HG.out a0 l cap0 (HR0.out.below H7.out.bel) (fun hne b o s e hm => by
        rcases HR0.out with h | ⟨b', o', h, hc⟩
        · exact hne h
        · rw [h] at e
          simp only [Option.some.injEq, Addr.mk.injEq] at e
          obtain ⟨rfl, _⟩ := e
          have hlt := World.block_lt_of_cell? w _ (hc 0 (by have := List.length_pos_iff.mpr hne; omega))
          exact H7.out.low (i := 0) rfl hlt hm) HC0.out HM0.out (by omega) (by omega)
      have hE1 := Lib.hid (decF_err 4096 1099511627776 (by decide) (l.length + 1) l [] 0 0 (min 4096 4096) [] (by omega) (by simp [csum]) (by decide))
      have hdR : decR false 4096 1099511627776 l (min 4096 4096) [] = decF 4096 1099511627776 (l.length + 1) l [] 0 0 (min 4096 4096) [] := rfl
      rw [hdR] at hd1
      clear hdR
      generalize decF 4096 1099511627776 (l.length + 1) l [] 0 0 (min 4096 4096) [] = R1 at hd1 hE1
      refine hd1.mono ?_; rintro e v8 ⟨oa, oc, F8, rfl, S8⟩
      have H8 := Lib.hid S8.tail
      clear S8 hd1 H7
      obtain ⟨⟨e1, out1⟩, ⟨m1, rows1⟩, br1⟩ := R1
      simp only [List.set] at hE1 H8 ⊢
      have hsum := Lib.hid (show csum rows1 ≤ m1 ∧ m1 ≤ 65536 ∨ br1 = true from by
        obtain ⟨_, ⟨h, _⟩ | ⟨_, t, L, c, lf, _, hD, _⟩⟩ := H8.out.is 0 rfl
        · exact .inr h
        · exact .inl hD.tab.sum)
      go_wp2_with fail
      have hd2 := st_decode H8.out 0 rfl HG.out a1 q cap1 (HR1.out.below H8.out.bel) (fun hne b o s e hm => by
        rcases HR1.out with h | ⟨b', o', h, hc⟩
        · exact hne h
        · rw [h] at e
          simp only [Option.some.injEq, Addr.mk.injEq] at e
          obtain ⟨rfl, _⟩ := e
          have hlt := World.block_lt_of_cell? w _ (hc 0 (by have := List.length_pos_iff.mpr hne; omega))
          exact H8.out.low (i := 0) rfl hlt hm) HC1.out HM1.out (by omega) (by omega)
      by_cases he : e1 = 0
      · subst he
        have hbr := hE1.out.2.1 rfl
        subst hbr
        have hE2 := Lib.hid (decF_err 4096 1099511627776 (by decide) (q.length + 1) q [] 0 0 m1 rows1 (by omega) (hsum.out.elim (·.1) (fun h => by cases h)) (hsum.out.elim (·.2) (fun h => by cases h))).1
        have hdR : decR false 4096 1099511627776 q m1 rows1 = decF 4096 1099511627776 (q.length + 1) q [] 0 0 m1 rows1 := rfl
        rw [hdR] at hd2
        clear hdR hE1 hsum
        generalize decF 4096 1099511627776 (q.length + 1) q [] 0 0 m1 rows1 = R2 at hd2 hE2
        refine hd2.mono ?_; rintro e v9 ⟨pa, pc, F9, rfl, S9⟩
        have hb9 := Lib.hid S9.bel
        clear S9 hd2 H8
        obtain ⟨⟨e2, out2⟩, rest2⟩ := R2
        simp only at hE2 ⊢
        have hne : ((e2 : Int) == 5) = false := beq_eq_false_iff_ne.mpr (by have := hE2.out; omega)
        have hne' : ((e2 : Int) != 5) = true := by rw [bne, hne]; rfl
        go_wp2_with fail
        go_ret
        exact ⟨by rfl, hb9.out⟩
      · have hbr := hE1.out.2.2 (by omega) he
        subst hbr
        have he' : ((e1 : Int) != 0) = true := by rw [bne, beq_eq_false_iff_ne.mpr (by omega)]; rfl
        have hdR : decR true 4096 1099511627776 q m1 rows1 = ((5, []), (m1, rows1), true) := rfl
        rw [hdR] at hd2
        clear hdR hE1 hsum
        refine hd2.mono ?_; rintro e v9 ⟨pa, pc, F9, rfl, S9⟩
        have hb9 := Lib.hid S9.bel
        clear S9 hd2 H8
        go_wp2_with fail
        go_ret
        exact ⟨by rfl, hb9.out⟩


noncomputable def laidWorld (os : Os) : World :=
  { World.holding Tryd.prog os ⟨#[], #[], []⟩ with heap := (((World.holding Tryd.prog os ⟨#[], #[], []⟩).heap).modify 0 fun
      | .cells _ t frozen => .cells #[.int .i64 0, .int .u32 0, .int .i64 0, .int .i64 0, .int .u32 0, .int .i64 0, .int .i64 0, .int .u32 0, .int .i64 0, .int .i64 0, .int .u32 0, .int .i64 0, .int .i64 0, .int .u32 0, .int .i64 0, .int .i64 10, .int .u32 0, .int .i64 0, .int .i64 26, .int .u32 20, .int .i64 10, .int .i64 32, .int .u32 92, .int .i64 36, .int .i64 6, .int .u32 248, .int .i64 68, .int .i64 0, .int .u32 0, .int .i64 0, .int .i64 5, .int .u32 1016, .int .i64 74, .int .i64 3, .int .u32 2042, .int .i64 79, .int .i64 2, .int .u32 4090, .int .i64 82, .int .i64 6, .int .u32 8184, .int .i64 84, .int .i64 2, .int .u32 16380, .int .i64 90, .int .i64 3, .int .u32 32764, .int .i64 92, .int .i64 0, .int .u32 0, .int .i64 0, .int .i64 0, .int .u32 0, .int .i64 0, .int .i64 0, .int .u32 0, .int .i64 0, .int .i64 3, .int .u32 524272, .int .i64 95, .int .i64 8, .int .u32 1048550, .int .i64 98, .int .i64 13, .int .u32 2097116, .int .i64 106, .int .i64 26, .int .u32 4194258, .int .i64 119, .int .i64 29, .int .u32 8388568, .int .i64 145, .int .i64 12, .int .u32 16777194, .int .i64 174, .int .i64 4, .int .u32 33554412, .int .i64 186, .int .i64 15, .int .u32 67108832, .int .i64 190, .int .i64 19, .int .u32 134217694, .int .i64 205, .int .i64 29, .int .u32 268435426, .int .i64 224, .int .i64 0, .int .u32 0, .int .i64 0, .int .i64 4, .int .u32 1073741820, .int .i64 253] t frozen
      | o => o) }
theorem laid_met (os : Os) : laidMet Tryd.prog Rows.hpackBrokenRow.laid ((laidWorld os).forCall (fun _ _ => 0) ⟨#[], #[.slice none 0 0, .slice none 0 0], []⟩).memory :=
  laidMet_of_run' 8 (by kernel_rfl) (by kernel_rfl)
theorem reads (os : Os) {H : Type} (enc : TypeId × Value → H) : ∃ places, DataW.whole enc Tryd.prog ((laidWorld os).forCall (fun _ _ => 0) ⟨#[], #[.slice none 0 0, .slice none 0 0], []⟩).memory Tryd.f7.params.toList Rows.hpackBrokenSpec.vars false (#[.slice none 0 0, .slice none 0 0] : Array Value).toList 8 = some ([.nil, .nil], [], places) :=
  ⟨[], by kernel_rfl⟩

set_option maxRecDepth 100000 in
theorem lifted (os : Os) (started : os.Started) (H : Type) (enc : TypeId × Value → H) (F : Stop.Interp) :
    ReturnsInHanded {} Tryd.checked os 7 .any ((OpenSpec.ofChange Rows.hpackBrokenSpec).preRow enc Tryd.prog Tryd.f7 Rows.hpackBrokenRow.domain false Rows.hpackBrokenRow.laid) (((OpenSpec.ofChange Rows.hpackBrokenSpec).at F).post enc Tryd.prog Tryd.f7 false true false false) := by
  obtain ⟨places, hx⟩ := reads os enc
  refine returnsInHanded_of_row (C := Tryd.checked) (s := OpenSpec.ofChange Rows.hpackBrokenSpec) own started (by kernel_rfl) Tryd.func7
    (witness_row_at (enc := enc) (C := Tryd.checked) false (laidWorld os) #[.slice none 0 0, .slice none 0 0] rfl (by kernel_rfl) (by kernel_rfl) (by kernel_rfl)
      (OpenSpec.preRow_of_cond 8 hx (by kernel_rfl) (fun k hk => by cases hk) (by kernel_rfl) (laid_met os))) ?_
  intro W base args ds gs before hval0 hW hcnd _ hsz0 hL _ _
  have hsz : (DataW.weightsEach Tryd.prog (Tryd.f7.params.toList ++ Rows.hpackBrokenSpec.plain.varTypes Tryd.prog) (ds ++ gs)).all (· ≤ reachBytes) = true := hsz0
  have hval : ∀ (j : Nat) t v, Tryd.f7.params[j]? = some t → args[j]? = some v → Value.okWide Tryd.prog W .any base t v := hval0
  have hW' := hW
  obtain ⟨p, q, hA0, hV, rfl, hfz, hnd⟩ := hW
  have hA : DataW.TrodAll enc Tryd.prog W 0 (fun _ => true) true Tryd.f7.params.toList args.toList ds p := hA0
  rw [Tryd.params7] at hA hval hsz
  obtain ⟨v0, vs0, d0, ds0, p0, q0, hargs, rfl, rfl, h0, t0⟩ := trodAll_cons hA
  obtain ⟨v1, vs1, d1, ds1, p1, q1, rfl, rfl, rfl, h1, t1⟩ := trodAll_cons t0
  obtain ⟨rfl, rfl, rfl⟩ := trodAll_nil t1
  obtain rfl : args = #[v0, v1] := by cases args; simp_all
  obtain ⟨rfl, rfl⟩ := trodVars_none hV
  have k0 := h0
  have lt0 : ∀ x ∈ p0, x.block < W.heap.size := by obtain ⟨m, hm⟩ := k0; exact DataW.trod_lt m _ _ _ hm
  obtain ⟨a0, len0, cap0, rfl⟩ := okWide_slice Tryd.underlying24 (hval 0 24 v0 rfl rfl)
  obtain ⟨z0, w0, r0⟩ : ∃ zs, Mem.IsRow .u8 W a0 len0 cap0 zs ∧ cap0 * 1 ≤ 140737488351232 := by
    obtain ⟨fuel, hf⟩ := h0
    rcases open_ints Tryd.underlying24 Tryd.underlying5 (by kernel_rfl) hf with ⟨hcs, _⟩ | ⟨x, l, c, zs, hcs, _, hl, hm, hz, hx, hcell, hwz⟩
    · simp [Value.cells] at hcs
      obtain ⟨rfl, rfl, rfl⟩ := hcs
      exact ⟨[], .inl ⟨rfl, rfl, rfl, rfl⟩, by omega⟩
    · simp [Value.cells] at hcs
      obtain ⟨rfl, rfl, rfl⟩ := hcs
      have hx1 := congrArg Prod.fst hx
      simp only at hx1
      have hby : Tryd.prog.bytesOf 5 = 1 := by kernel_rfl
      have hs := sized_slice hsz (j := 0) (t := 24) (e := 5) rfl (by rw [← hx1]; rfl) Tryd.underlying24
      rw [hby] at hs
      refine ⟨zs, .inr ⟨_, rfl, hl, hm, by simpa using hz, hcell, hwz⟩, ?_⟩
      have hz' : zs.length = cap0 := by simpa using hz
      simp only [lits, List.length_map, List.length_take, List.length_drop, reachBytes] at hs
      have hmn : min len0 zs.length + (zs.length - len0) = cap0 := by omega
      rw [hmn] at hs
      exact hs
  have k1 := h1
  have lt1 : ∀ x ∈ p1, x.block < W.heap.size := by obtain ⟨m, hm⟩ := k1; exact DataW.trod_lt m _ _ _ hm
  obtain ⟨a1, len1, cap1, rfl⟩ := okWide_slice Tryd.underlying24 (hval 1 24 v1 rfl rfl)
  obtain ⟨z1, w1, r1⟩ : ∃ zs, Mem.IsRow .u8 W a1 len1 cap1 zs ∧ cap1 * 1 ≤ 140737488351232 := by
    obtain ⟨fuel, hf⟩ := h1
    rcases open_ints Tryd.underlying24 Tryd.underlying5 (by kernel_rfl) hf with ⟨hcs, _⟩ | ⟨x, l, c, zs, hcs, _, hl, hm, hz, hx, hcell, hwz⟩
    · simp [Value.cells] at hcs
      obtain ⟨rfl, rfl, rfl⟩ := hcs
      exact ⟨[], .inl ⟨rfl, rfl, rfl, rfl⟩, by omega⟩
    · simp [Value.cells] at hcs
      obtain ⟨rfl, rfl, rfl⟩ := hcs
      have hx1 := congrArg Prod.fst hx
      simp only at hx1
      have hby : Tryd.prog.bytesOf 5 = 1 := by kernel_rfl
      have hs := sized_slice hsz (j := 1) (t := 24) (e := 5) rfl (by rw [← hx1]; rfl) Tryd.underlying24
      rw [hby] at hs
      refine ⟨zs, .inr ⟨_, rfl, hl, hm, by simpa using hz, hcell, hwz⟩, ?_⟩
      have hz' : zs.length = cap1 := by simpa using hz
      simp only [lits, List.length_map, List.length_take, List.length_drop, reachBytes] at hs
      have hmn : min len1 zs.length + (zs.length - len1) = cap1 := by omega
      rw [hmn] at hs
      exact hs
  clear hA0 hval0 hsz0
  refine (walk a0 len0 cap0 z0 a1 len1 cap1 z1 W w0 r0 w1 r1 (grpIs_of (laid := Rows.hpackBrokenRow.laid) hL 0 rfl)).mono fun e W' ⟨he, bel⟩ => ?_
  subst he
  exact ⟨_, rfl, _, _, _, [], _, [], hW', trodAll_mk1 (shut_bool Tryd.underlying4 _), (trodAll_cons_mk (Below.trod laidOut (by kernel_rfl) (of_decide_eq_true (by kernel_rfl)) k0 bel lt0) (trodAll_cons_mk (Below.trod laidOut (by kernel_rfl) (of_decide_eq_true (by kernel_rfl)) k1 bel lt1) trodAll_mk0)), rfl, bel.frame _, fun h => by cases h⟩

theorem over : Rows.hpackBrokenRow.holds Tryd.pinned (OpenSpec.ofChange Rows.hpackBrokenSpec) :=
  OpenClaim.holds_of_cond 7 Tryd.f7 rfl rfl rfl rfl rfl rfl rfl ⟨rfl, rfl, rfl, rfl, rfl⟩ rfl rfl rfl rfl rfl (by kernel_rfl) Tryd.func7 (by kernel_rfl)
    (of_decide_eq_true (by kernel_rfl)) (by unfold Func.isWrapper; first | (rw [if_pos (by decide +kernel)]; kernel_rfl) | (rw [if_neg (by decide +kernel)]; exact ⟨rfl, rfl⟩))
    (fun os started H enc _ F => by rw [OpenClaim.pre_eq_preRow]; exact lifted os started H enc F)

theorem plain (f : FuncId) (fn : Func) (hf : Tryd.pinned.checked.prog.funcNamed "drawbridge/drawbridgelaw05.HpackBroken" = some f) (hfn : Tryd.pinned.checked.prog.funcs[f]? = some fn) :
    true = Tryd.pinned.checked.prog.looks [] ∧ ∀ (j : Nat) t, fn.params[j]? = some t → Tryd.pinned.checked.prog.wantsStandIn t = false := by
  obtain rfl : f = 7 := Option.some.inj ((show Tryd.prog.funcNamed "drawbridge/drawbridgelaw05.HpackBroken" = some 7 by kernel_rfl).symm.trans hf) |>.symm
  obtain rfl : fn = Tryd.f7 := (Option.some.inj (Tryd.func7.symm.trans hfn)).symm
  refine ⟨by kernel_rfl, fun j t ht => ?_⟩
  rw [Tryd.params7] at ht
  have hm := Array.mem_of_getElem? ht
  simp only [List.mem_toArray, List.mem_cons, List.not_mem_nil, or_false] at hm
  rcases hm with rfl | rfl
  · exact (show Tryd.prog.wantsStandIn 24 = false by kernel_rfl)
  · exact (show Tryd.prog.wantsStandIn 24 = false by kernel_rfl)

theorem proved : Rows.HpackBrokenCardSaid :=
  Claim7.holds_tied_plain_at .later [] _ _ _ _ over (fun _ h => by cases h) (by kernel_rfl) (fun _ h => by cases h) hpackBroken_row_tie rfl ⟨rfl, rfl⟩ (by kernel_rfl) rfl plain (by kernel_rfl)
end Go.Proofs.YtdkgachgohilcaaDoor.hpackBroken
