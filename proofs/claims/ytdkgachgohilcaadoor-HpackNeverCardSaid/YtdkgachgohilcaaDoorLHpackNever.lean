/-
  HpackNever holds for every list of fields: fields that never come into a table leave no row at either end, are told as such, and are written alike each time; the table of groups starts as its text lays it.
-/
import Derived.Test.YtdkgachgohilcaaDoorRows
import Derived.WalkKit
import Derived.ProofKit
import Derived.OpenShut
import Derived.ShutString
import Derived.SizedLaws
import Derived.Deep.DeepHandedRow
import Derived.Lib.LaidTab
import Derived.Test.YtdkgachgohilcaaDoorGP26
import Derived.Test.YtdkgachgohilcaaDoorCards
import Derived.Test.YtdkgachgohilcaaDoorTie
import Derived.Test.YtdkgachgohilcaaDoorGP01
import Derived.Lib.SmallJoins
import Derived.Test.YtdkgachgohilcaaDoorGP25
import Derived.RegionTactic
namespace Go.Proofs.YtdkgachgohilcaaDoor.hpackNever
open Go.ChangeShapes Go.WideShapes Go.ChangeAt Go.RowKit
open Go.Proofs.YtdkgachgohilcaaDoor Huf Pre Tab Hpk Arg Mem Gen Wr Go.Proofs.YtdkgachgohilcaaDoor.Obj Sx
open Go.ChangeMaps (open_string shut_string)
open Go.Joins
set_option linter.unusedVariables false
set_option linter.unusedSimpArgs false

theorem own : ownKnob Tryd.prog.godebug = none := by kernel_rfl
theorem laidOut : laidOutB Tryd.prog = true := by kernel_rfl

set_option maxRecDepth 100000 in
set_option maxHeartbeats 2000000 in
theorem walk (a0 : Option Addr) (len0 cap0 : Nat) (w : World) (w0 : Arg.Slc w [.str, .str, .bool] a0 len0 cap0) (r0 : cap0 * 40 ≤ 140737488351232) (tab0 : GrpIs w) :
    Calls Tryd.prog 8 #[.slice a0 len0 cap0] w fun e w' => e = .returned (.bool true) ∧ Below w.heap.size w w' := by
  have HG := Lib.hid tab0
  clear tab0
  obtain ⟨l, hl, hr, hok, hlc, hcm⟩ := list_in w0
  subst hl
  have hcap : cap0 ≤ 3518437208780 := by omega
  have HRw := Lib.hid hr
  have HOk := Lib.hid hok
  have HA := Lib.hid (awake_any w HG.out)
  have HBy : Hid (∀ v, Below w.heap.size w v → Calls Tryd.prog 26 #[.slice a0 l.length cap0] v fun e w' => e = .returned (.int .i64 (bytF l 0)) ∧ Below v.heap.size v w') := Lib.hid (fun v hv => rbytes_any a0 l cap0 v (HRw.out.below hv) hlc (by omega) (fun f hf => ⟨by have := (HOk.out f hf).1; omega, by have := (HOk.out f hf).2; omega⟩))
  have HSh : Hid (∀ v, Below w.heap.size w v → Calls Tryd.prog 25 #[.slice a0 l.length cap0] v fun e w' => e = .returned (.bool (shortB l)) ∧ Below v.heap.size v w') := Lib.hid (fun v hv => short_any a0 l cap0 v (HRw.out.below hv) hlc (by omega))
  have hbs := (bytF_sum l 0).1
  have hbl := bytF_le l hok 0 (by omega)
  generalize bytF l 0 = t at HBy hbs hbl
  have HBs := Lib.hid hbs
  clear hr hok w0 r0 hcm hbs
  by_cases hbig : 131072 < t
  · have hbig' : (t : Int) > 131072 := by omega
    go_enter Tryd.func8, Tryd.ntmps8
    go_wp2_with fail
    refine HA.out.mono ?_; rintro e v1 ⟨rfl, b1⟩
    go_wp2_with fail
    refine (HBy.out _ b1).mono ?_; rintro e v2 ⟨rfl, b2⟩
    replace b2 := below_step b1 b2
    go_wp2_with fail
    go_ret
    exact ⟨rfl, b2⟩
  · have hbig' : ¬ (t : Int) > 131072 := by omega
    cases hsb : shortB l with
    | false =>
      rw [hsb] at HSh
      go_enter Tryd.func8, Tryd.ntmps8
      go_wp2_with fail
      refine HA.out.mono ?_; rintro e v1 ⟨rfl, b1⟩
      go_wp2_with fail
      refine (HBy.out _ b1).mono ?_; rintro e v2 ⟨rfl, b2⟩
      replace b2 := below_step b1 b2
      go_wp2_with fail
      refine (HSh.out _ b2).mono ?_; rintro e v3 ⟨rfl, b3⟩
      replace b3 := below_step b2 b3
      go_wp2_with fail
      go_ret
      exact ⟨rfl, b3⟩
    | true =>
      rw [hsb] at HSh
      have hsum : csum l ≤ 131072 := by have := HBs.out (by omega); omega
      have hln := csum_len l
      have HShort := Lib.hid (of_decide_eq_true hsb)
      have HNB := Lib.hid (never_back l HShort.out hsum)
      have HNS := Lib.hid (nevL_sum l)
      have hNL := nevL_len l
      clear hsb HBs
      obtain ⟨i0, hi, hz0, hz1, hz2⟩ := info_parts info_fd
      have HI := Lib.hid hi
      have HZ0 := Lib.hid hz0
      have HZ1 := Lib.hid hz1
      have HZ2 := Lib.hid hz2
      clear hi hz0 hz1 hz2
      have HNv := Lib.hid (show nevL l = nevL (l.take l.length) by rw [List.take_length])
      obtain ⟨n, hn⟩ : ∃ n, n = l.length := ⟨_, rfl⟩
      rw [← hn] at HSh HBy hlc hln hNL HNv ⊢
      have HN := Lib.hid hn
      clear hn
      go_enter Tryd.func8, Tryd.ntmps8
      go_wp2_with fail
      refine HA.out.mono ?_; rintro e v1 ⟨rfl, b1⟩
      go_wp2_with fail
      refine (HBy.out _ b1).mono ?_; rintro e v2 ⟨rfl, b2⟩
      replace b2 := below_step b1 b2
      go_wp2_with fail
      refine (HSh.out _ b2).mono ?_; rintro e v3 ⟨rfl, b3⟩
      replace b3 := below_step b2 b3
      have H0 := Lib.hid ((Sts.of_below b3).add (F := blk none) (P := RowP EFd none 0 []) (Below.refl _ _) (fun k hk => by cases hk) RowP.st (Rw.QRow.bare _ _))
      clear HA HBy HSh b1 b2 b3
      go_wp2_with fail
      go_loopw [3, 4] (fun vo vi wr => ∃ (k cp : Nat) (ad : Option Addr), k ≤ n ∧ vi = .int .i64 k ∧ vo = .slice ad k cp ∧ Hid (Sts w wr [(blk ad, RowP EFd ad cp (nevL (l.take k)))])) (fun _ vi _ => n - (intOf vi).toNat)
      case atStart => exact ⟨0, 0, none, by omega, rfl, rfl, by simpa [nevL] using H0⟩
      case round =>
        clear H0
        obtain ⟨k, cp, ad, hk, rfl, rfl, HS⟩ := hrel
        by_cases hlt : k < n
        · clear HNB HNS HNv hNL
          have hlt' : (k : Int) < n := by omega
          have hlr : k < l.length := by rw [← HN.out]; exact hlt
          obtain ⟨bl, off, rfl, d0, d1, _⟩ := row_at HRw.out k hlr
          have x0 := below_cell HS.out.bel d0
          have x1 := below_cell HS.out.bel d1
          have HTk : Hid (nevL (l.take (k + 1)) = nevL (l.take k) ++ [⟨l[k].name, l[k].value, true⟩]) := Lib.hid (by
            rw [List.take_add_one, List.getElem?_eq_getElem hlr, nevL, nevL, List.map_append]; rfl)
          have HKl : Hid (k = (nevL (l.take k)).length) := Lib.hid (by rw [nevL_len, List.length_take]; omega)
          clear d0 d1
          generalize l[k] = f at x0 x1 HTk
          obtain ⟨fn, fv, fb⟩ := f
          simp only at x0 x1 HTk
          have y0 : ∀ o : Obj, (wr.alloc o).cell? ⟨bl, off + k * 3, none⟩ = some (.string fn) := fun o => below_cell (below_alloc _ _) x0
          have y1 : ∀ o : Obj, (wr.alloc o).cell? ⟨bl, off + k * 3 + 1, none⟩ = some (.string fv) := fun o => below_cell (below_alloc _ _) x1
          have HNew := Lib.hid (fd_new wr ⟨fn, fv, true⟩)
          have hB : Below wr.heap.size wr (wr.alloc (.cells #[.string fn, .string fv, .bool true] 59)).drew := (below_alloc wr _).drew
          have HB := Lib.hid hB
          have HRa : Hid (Rw.QRow EFd (wr.alloc (.cells #[.string fn, .string fv, .bool true] 59)).drew ad cp (nevL (l.take k))) := Lib.hid ((HS.out.below hB).is 0 rfl)
          have HL : Hid (k + 1 ≤ maxLen ∧ (k + 1) * 40 ≤ 140737488355328) := Lib.hid ⟨by unfold maxLen; omega, by omega⟩
          clear hB
          go_wp2_with fail
          go_region_law ((refine Rw.step_append_que EFd Tryd.underlying31 HI.out HZ0.out HZ1.out HZ2.out rfl rfl (.tmp 31) (.tmp 43) rfl ad k cp (nevL (l.take k)) rfl HKl.out HRa.out ⟨wr.heap.size, 0, none⟩ 1 [⟨fn, fv, true⟩] 1 rfl rfl (HNew.out.below (Below.refl _ _).drew) HL.out.1 HL.out.2 ?_; intro ad4 cap4 w4 hq4 hg4 hb4))
          all_goals
            have hS4 := HS.out.append 0 rfl HB.out hg4.out hq4.out hb4.out
            rw [← HTk.out] at hS4
            have HS4 := Lib.hid hS4
            clear hS4 hq4 hg4 hb4 HRa HNew HB HKl x0 x1 y0 y1 HS HTk
            go_wp2_with fail
            go_roundw
            case rel => exact ⟨k + 1, cap4, ad4, by omega, by go_num, rfl, HS4⟩
            case measure => simp [intOf]; omega
        · have hlt' : ¬ (k : Int) < n := by omega
          have hkn : k = n := by omega
          subst hkn
          have hS := HS.out
          rw [← HNv.out] at hS
          have H1 := Lib.hid hS
          clear hS HS
          have hsumN : csum (nevL l) ≤ 131072 := by rw [HNS.out]; exact hsum
          obtain ⟨own, hown⟩ : ∃ x, x = nevL l := ⟨_, rfl⟩
          have HOwn := Lib.hid hown
          rw [← hown] at HNB hNL hsumN H1
          clear hown
          subst hNL
          clear HNS HNv hln
          go_wp2_with fail
          refine (st_newenc (own := 4096) H1.out (by decide)).mono ?_; rintro e v4 ⟨g1, F1, rfl, S4⟩
          have H4 := Lib.hid S4
          clear S4 H1
          go_wp2_with fail
          refine (st_newdec (md := 4096) (ld := 1073741824) H4.out (by decide)).mono ?_; rintro e v5 ⟨g2, F2, rfl, S5⟩
          have H5 := Lib.hid S5
          clear S5 H4
          go_wp2_with fail
          have h44 : min 4096 4096 = 4096 := rfl
          have hNE := encList_nev 4096 l []
          rw [← HOwn.out] at hNE
          have hBL := block_len 4096 4096 4096 4096 own []
          have HNE := Lib.hid hNE
          clear hNE
          have hcl := csum_len own
          simp only [h44] at H5
          have hen := st_encode H5.out 1 rfl HG.out ad own cp ((H5.out.is 2 rfl : RowP EFd ad cp own v5).row) (fun _ b o s e => H5.out.apart 2 1 rfl rfl (by decide) b (by subst e; exact List.mem_singleton.mpr rfl)) (H5.out.is 2 rfl : RowP EFd ad cp own v5).le (H5.out.is 2 rfl : RowP EFd ad cp own v5).max (by omega) (by omega)
          rw [HNE.out] at hen
          obtain ⟨B, hB⟩ : ∃ B, hdr 4096 4096 4096 ++ (encList 4096 own []).1 = B := ⟨_, rfl⟩
          have hnb := HNB.out
          rw [hB] at hnb hen hBL
          have HNB3 := Lib.hid hnb
          have HB := Lib.hid hB
          clear hnb hB HNB
          refine hen.mono ?_; rintro e v6 ⟨oa, oc, F3, rfl, S6⟩
          have H6 := Lib.hid S6
          clear S6 hen H5
          simp only [List.set] at H6
          go_wp2_with fail
          have hen := st_encode H6.out 2 rfl HG.out ad own cp ((H6.out.is 3 rfl : RowP EFd ad cp own v6).row) (fun _ b o s e => H6.out.apart 3 2 rfl rfl (by decide) b (by subst e; exact List.mem_singleton.mpr rfl)) (H6.out.is 3 rfl : RowP EFd ad cp own v6).le (H6.out.is 3 rfl : RowP EFd ad cp own v6).max (by omega) (by omega)
          rw [HNE.out] at hen
          rw [HB.out] at hen
          clear HB HNE
          refine hen.mono ?_; rintro e v7 ⟨oa2, oc2, F4, rfl, S7⟩
          have H7 := Lib.hid S7
          clear S7 hen H6
          simp only [List.set] at H7
          go_wp2_with fail
          have hq7 : RowP EBy oa oc B v7 := H7.out.is 1 rfl
          have hde := st_decode H7.out 2 rfl HG.out oa B oc (rb_of_q hq7.row) (fun _ b o s e hm => H7.out.apart 1 2 rfl rfl (by decide) b (by subst e; exact List.mem_singleton.mpr rfl) hm) hq7.le hq7.max (by omega) (by omega)
          rw [HNB3.out] at hde
          refine hde.mono ?_; rintro e v8 ⟨pa, pc, F5, rfl, S8⟩
          have H8 := Lib.hid S8
          clear S8 hde H7 hq7
          simp only [List.set] at H8
          go_wp2_with fail
          have hq8 : RowP EBy oa2 oc2 B v8 := H8.out.is 1 rfl
          have hde := st_decode H8.out 3 rfl HG.out oa2 B oc2 (rb_of_q hq8.row) (fun _ b o s e hm => H8.out.apart 1 3 rfl rfl (by decide) b (by subst e; exact List.mem_singleton.mpr rfl) hm) hq8.le hq8.max (by omega) (by omega)
          rw [HNB3.out] at hde
          refine hde.mono ?_; rintro e v9 ⟨pa2, pc2, F6, rfl, S9⟩
          have H9 := Lib.hid S9
          clear S9 hde H8 hq8 HNB3
          simp only [List.set] at H9
          have q0 : RowP EFd pa2 pc2 own v9 := H9.out.is 0 rfl
          have q1 : RowP EFd pa pc own v9 := H9.out.is 1 rfl
          have q2 : RowP EBy oa2 oc2 B v9 := H9.out.is 2 rfl
          have q3 : RowP EBy oa oc B v9 := H9.out.is 3 rfl
          have q6 : RowP EFd ad cp own v9 := H9.out.is 6 rfl
          have HBb := Lib.hid (bytes_any oa oa2 B B oc oc2 v9 (rb_of_q q3.row) (rb_of_q q2.row))
          rw [decide_eq_true rfl] at HBb
          have HFa := Lib.hid (st_fields H9.out pa ad own own pc cp q1.row q6.row q1.le q6.le (by omega) (by omega))
          rw [decide_eq_true rfl] at HFa
          have HQ0 := Lib.hid q0
          have HQ6 := Lib.hid q6
          clear q0 q1 q2 q3 q6
          go_wp2_with fail
          refine HBb.out.mono ?_; rintro e v10 ⟨rfl, rfl⟩
          clear HBb
          go_wp2_with fail
          refine HFa.out.mono ?_; rintro e v11 ⟨rfl, S11⟩
          have H11 := Lib.hid S11
          clear S11 HFa HQ0 HQ6 H9
          have q0 : RowP EFd pa2 pc2 own v11 := H11.out.is 0 rfl
          have q6 : RowP EFd ad cp own v11 := H11.out.is 6 rfl
          have HFb := Lib.hid (st_fields H11.out pa2 ad own own pc2 cp q0.row q6.row q0.le q6.le (by omega) (by omega))
          rw [decide_eq_true rfl] at HFb
          clear q0 q6
          go_wp2_with fail
          refine HFb.out.mono ?_; rintro e v12 ⟨rfl, S12⟩
          have H12 := Lib.hid S12
          clear S12 HFb H11
          go_wp2_with fail
          refine (st_erows H12.out 5 rfl).mono ?_; rintro e v13 ⟨b13, rfl, S13⟩
          have H13 := Lib.hid S13
          clear S13 H12
          go_wp2_with fail
          refine (st_drows H13.out 5 rfl).mono ?_; rintro e v14 ⟨b14, rfl, S14⟩
          have H14 := Lib.hid S14.bel
          clear S14 H13
          go_wp2_with fail
          go_ret
          exact ⟨rfl, H14.out⟩


noncomputable def laidWorld (os : Os) : World :=
  { World.holding Tryd.prog os ⟨#[], #[], []⟩ with heap := (((World.holding Tryd.prog os ⟨#[], #[], []⟩).heap).modify 0 fun
      | .cells _ t frozen => .cells #[.int .i64 0, .int .u32 0, .int .i64 0, .int .i64 0, .int .u32 0, .int .i64 0, .int .i64 0, .int .u32 0, .int .i64 0, .int .i64 0, .int .u32 0, .int .i64 0, .int .i64 0, .int .u32 0, .int .i64 0, .int .i64 10, .int .u32 0, .int .i64 0, .int .i64 26, .int .u32 20, .int .i64 10, .int .i64 32, .int .u32 92, .int .i64 36, .int .i64 6, .int .u32 248, .int .i64 68, .int .i64 0, .int .u32 0, .int .i64 0, .int .i64 5, .int .u32 1016, .int .i64 74, .int .i64 3, .int .u32 2042, .int .i64 79, .int .i64 2, .int .u32 4090, .int .i64 82, .int .i64 6, .int .u32 8184, .int .i64 84, .int .i64 2, .int .u32 16380, .int .i64 90, .int .i64 3, .int .u32 32764, .int .i64 92, .int .i64 0, .int .u32 0, .int .i64 0, .int .i64 0, .int .u32 0, .int .i64 0, .int .i64 0, .int .u32 0, .int .i64 0, .int .i64 3, .int .u32 524272, .int .i64 95, .int .i64 8, .int .u32 1048550, .int .i64 98, .int .i64 13, .int .u32 2097116, .int .i64 106, .int .i64 26, .int .u32 4194258, .int .i64 119, .int .i64 29, .int .u32 8388568, .int .i64 145, .int .i64 12, .int .u32 16777194, .int .i64 174, .int .i64 4, .int .u32 33554412, .int .i64 186, .int .i64 15, .int .u32 67108832, .int .i64 190, .int .i64 19, .int .u32 134217694, .int .i64 205, .int .i64 29, .int .u32 268435426, .int .i64 224, .int .i64 0, .int .u32 0, .int .i64 0, .int .i64 4, .int .u32 1073741820, .int .i64 253] t frozen
      | o => o) }
theorem laid_met (os : Os) : laidMet Tryd.prog Rows.hpackNeverRow.laid ((laidWorld os).forCall (fun _ _ => 0) ⟨#[], #[.slice none 0 0], []⟩).memory :=
  laidMet_of_run' 8 (by kernel_rfl) (by kernel_rfl)
theorem reads (os : Os) {H : Type} (enc : TypeId × Value → H) : ∃ places, DataW.whole enc Tryd.prog ((laidWorld os).forCall (fun _ _ => 0) ⟨#[], #[.slice none 0 0], []⟩).memory Tryd.f8.params.toList Rows.hpackNeverSpec.vars false (#[.slice none 0 0] : Array Value).toList 8 = some ([.nil], [], places) :=
  ⟨[], by kernel_rfl⟩

set_option maxRecDepth 100000 in
theorem lifted (os : Os) (started : os.Started) (H : Type) (enc : TypeId × Value → H) (F : Stop.Interp) :
    ReturnsInHanded {} Tryd.checked os 8 .any ((OpenSpec.ofChange Rows.hpackNeverSpec).preRow enc Tryd.prog Tryd.f8 Rows.hpackNeverRow.domain false Rows.hpackNeverRow.laid) (((OpenSpec.ofChange Rows.hpackNeverSpec).at F).post enc Tryd.prog Tryd.f8 false true false false) := by
  obtain ⟨places, hx⟩ := reads os enc
  refine returnsInHanded_of_row (C := Tryd.checked) (s := OpenSpec.ofChange Rows.hpackNeverSpec) own started (by kernel_rfl) Tryd.func8
    (witness_row_at (enc := enc) (C := Tryd.checked) false (laidWorld os) #[.slice none 0 0] rfl (by kernel_rfl) (by kernel_rfl) (by kernel_rfl)
      (OpenSpec.preRow_of_cond 8 hx (by kernel_rfl) (fun k hk => by cases hk) (by kernel_rfl) (laid_met os))) ?_
  intro W base args ds gs before hval0 hW hcnd _ hsz0 hL _ _
  have hsz : (DataW.weightsEach Tryd.prog (Tryd.f8.params.toList ++ Rows.hpackNeverSpec.plain.varTypes Tryd.prog) (ds ++ gs)).all (· ≤ reachBytes) = true := hsz0
  have hval : ∀ (j : Nat) t v, Tryd.f8.params[j]? = some t → args[j]? = some v → Value.okWide Tryd.prog W .any base t v := hval0
  have hW' := hW
  obtain ⟨p, q, hA0, hV, rfl, hfz, hnd⟩ := hW
  have hA : DataW.TrodAll enc Tryd.prog W 0 (fun _ => true) true Tryd.f8.params.toList args.toList ds p := hA0
  rw [Tryd.params8] at hA hval hsz
  obtain ⟨v0, vs0, d0, ds0, p0, q0, hargs, rfl, rfl, h0, t0⟩ := trodAll_cons hA
  obtain ⟨rfl, rfl, rfl⟩ := trodAll_nil t0
  obtain rfl : args = #[v0] := by cases args; simp_all
  obtain ⟨rfl, rfl⟩ := trodVars_none hV
  have k0 := h0
  have lt0 : ∀ x ∈ p0, x.block < W.heap.size := by obtain ⟨m, hm⟩ := k0; exact DataW.trod_lt m _ _ _ hm
  obtain ⟨a0, len0, cap0, rfl⟩ := okWide_slice Tryd.underlying31 (hval 0 31 v0 rfl rfl)
  obtain ⟨fuel0, hf0⟩ := h0
  have ok0 : Arg.AllOk W [.slc 40 [.str, .str, .bool]] [.slice a0 len0 cap0] := Arg.trod_leaves 9 31 [.slc 40 [.str, .str, .bool]] (by kernel_rfl) hf0 (Arg.sized hsz (j := 0) (t := 31) rfl rfl)
  obtain ⟨aa0, ll0, cc0, hv0, r0, w0⟩ := Arg.LeafOk.slc ok0.1
  simp only [Value.slice.injEq] at hv0
  obtain ⟨rfl, rfl, rfl⟩ := hv0
  clear hA0 hval0 hsz0
  refine (walk a0 len0 cap0 W w0 r0 (grpIs_of (laid := Rows.hpackNeverRow.laid) hL 0 rfl)).mono fun e W' ⟨he, bel⟩ => ?_
  subst he
  exact ⟨_, rfl, _, _, _, [], _, [], hW', trodAll_mk1 (shut_bool Tryd.underlying4 _), (trodAll_cons_mk (Below.trod laidOut (by kernel_rfl) (of_decide_eq_true (by kernel_rfl)) k0 bel lt0) trodAll_mk0), rfl, bel.frame _, fun h => by cases h⟩

theorem over : Rows.hpackNeverRow.holds Tryd.pinned (OpenSpec.ofChange Rows.hpackNeverSpec) :=
  OpenClaim.holds_of_cond 8 Tryd.f8 rfl rfl rfl rfl rfl rfl rfl ⟨rfl, rfl, rfl, rfl, rfl⟩ rfl rfl rfl rfl rfl (by kernel_rfl) Tryd.func8 (by kernel_rfl)
    (of_decide_eq_true (by kernel_rfl)) (by unfold Func.isWrapper; first | (rw [if_pos (by decide +kernel)]; kernel_rfl) | (rw [if_neg (by decide +kernel)]; exact ⟨rfl, rfl⟩))
    (fun os started H enc _ F => by rw [OpenClaim.pre_eq_preRow]; exact lifted os started H enc F)

theorem plain (f : FuncId) (fn : Func) (hf : Tryd.pinned.checked.prog.funcNamed "drawbridge/drawbridgelaw05.HpackNever" = some f) (hfn : Tryd.pinned.checked.prog.funcs[f]? = some fn) :
    true = Tryd.pinned.checked.prog.looks [] ∧ ∀ (j : Nat) t, fn.params[j]? = some t → Tryd.pinned.checked.prog.wantsStandIn t = false := by
  obtain rfl : f = 8 := Option.some.inj ((show Tryd.prog.funcNamed "drawbridge/drawbridgelaw05.HpackNever" = some 8 by kernel_rfl).symm.trans hf) |>.symm
  obtain rfl : fn = Tryd.f8 := (Option.some.inj (Tryd.func8.symm.trans hfn)).symm
  refine ⟨by kernel_rfl, fun j t ht => ?_⟩
  rw [Tryd.params8] at ht
  have hm := Array.mem_of_getElem? ht
  simp only [List.mem_toArray, List.mem_cons, List.not_mem_nil, or_false] at hm
  rcases hm with rfl
  · exact (show Tryd.prog.wantsStandIn 31 = false by kernel_rfl)

theorem proved : Rows.HpackNeverCardSaid :=
  Claim7.holds_tied_plain_at .later [] _ _ _ _ over (fun _ h => by cases h) (by kernel_rfl) (fun _ h => by cases h) hpackNever_row_tie rfl ⟨rfl, rfl⟩ (by kernel_rfl) rfl plain (by kernel_rfl)
end Go.Proofs.YtdkgachgohilcaaDoor.hpackNever
