/-
  HpackLists holds for every two lists of fields and every number: a list whose cost is above the limit is refused, and the table goes on as if it weren't; just at the limit it isn't; the table of groups starts as its text lays it.
-/
import Derived.Test.YtdkgachgohilcaaDoorRows
import Derived.WalkKit
import Derived.ProofKit
import Derived.OpenShut
import Derived.ShutString
import Derived.SizedLaws
import Derived.Deep.DeepHandedRow
import Derived.Lib.LaidTab
import Derived.Test.YtdkgachgohilcaaDoorGP26
import Derived.Test.YtdkgachgohilcaaDoorCards
import Derived.Test.YtdkgachgohilcaaDoorTie
import Derived.Test.YtdkgachgohilcaaDoorGP01
import Derived.Lib.SmallJoins
import Derived.Test.YtdkgachgohilcaaDoorGP25
namespace Go.Proofs.YtdkgachgohilcaaDoor.hpackLists
open Go.ChangeShapes Go.WideShapes Go.ChangeAt Go.RowKit
open Go.Proofs.YtdkgachgohilcaaDoor Huf Pre Tab Hpk Arg Mem Gen Wr Go.Proofs.YtdkgachgohilcaaDoor.Obj Sx
open Go.ChangeMaps (open_string shut_string)
open Go.Joins
set_option linter.unusedVariables false
set_option linter.unusedSimpArgs false

theorem own : ownKnob Tryd.prog.godebug = none := by kernel_rfl
theorem laidOut : laidOutB Tryd.prog = true := by kernel_rfl

set_option maxRecDepth 100000 in
set_option maxHeartbeats 4000000 in
theorem walk (a0 : Option Addr) (len0 cap0 : Nat) (a1 : Option Addr) (len1 cap1 : Nat) (a2 : Int) (w : World) (w0 : Arg.Slc w [.str, .str, .bool] a0 len0 cap0) (r0 : cap0 * 40 ≤ 140737488351232) (w1 : Arg.Slc w [.str, .str, .bool] a1 len1 cap1) (r1 : cap1 * 40 ≤ 140737488351232) (w2 : (Lit.int .i64 a2).wf = true) (tab0 : GrpIs w) :
    Calls Tryd.prog 6 #[.slice a0 len0 cap0, .slice a1 len1 cap1, .int .i64 a2] w fun e w' => e = .returned (.bool true) ∧ Below w.heap.size w w' := by
  have HG := Lib.hid tab0
  clear tab0
  obtain ⟨l, hl, hr, hok, hlc, hcm⟩ := list_in w0
  subst hl
  obtain ⟨q, hq, hr1, hok1, hlc1, hcm1⟩ := list_in w1
  subst hq
  have hcap : cap0 ≤ 3518437208780 := by omega
  have hcap1 : cap1 ≤ 3518437208780 := by omega
  have HRw := Lib.hid hr
  have HRw1 := Lib.hid hr1
  have HOk := Lib.hid hok
  have HOk1 := Lib.hid hok1
  have HA := Lib.hid (awake_any w HG.out)
  have HBy : Hid (∀ v, Below w.heap.size w v → Calls Tryd.prog 26 #[.slice a0 l.length cap0] v fun e w' => e = .returned (.int .i64 (bytF l 0)) ∧ Below v.heap.size v w') := Lib.hid (fun v hv => rbytes_any a0 l cap0 v (HRw.out.below hv) hlc (by omega) (fun f hf => ⟨by have := (HOk.out f hf).1; omega, by have := (HOk.out f hf).2; omega⟩))
  have HBy1 : Hid (∀ v, Below w.heap.size w v → Calls Tryd.prog 26 #[.slice a1 q.length cap1] v fun e w' => e = .returned (.int .i64 (bytF q 0)) ∧ Below v.heap.size v w') := Lib.hid (fun v hv => rbytes_any a1 q cap1 v (HRw1.out.below hv) hlc1 (by omega) (fun f hf => ⟨by have := (HOk1.out f hf).1; omega, by have := (HOk1.out f hf).2; omega⟩))
  have HSh : Hid (∀ v, Below w.heap.size w v → Calls Tryd.prog 25 #[.slice a0 l.length cap0] v fun e w' => e = .returned (.bool (shortB l)) ∧ Below v.heap.size v w') := Lib.hid (fun v hv => short_any a0 l cap0 v (HRw.out.below hv) hlc (by omega))
  have HSh1 : Hid (∀ v, Below w.heap.size w v → Calls Tryd.prog 25 #[.slice a1 q.length cap1] v fun e w' => e = .returned (.bool (shortB q)) ∧ Below v.heap.size v w') := Lib.hid (fun v hv => short_any a1 q cap1 v (HRw1.out.below hv) hlc1 (by omega))
  have HBs := Lib.hid (bytF_sum l 0).1
  have hbl := bytF_le l hok 0 (by omega)
  have HBs1 := Lib.hid (bytF_sum q 0).1
  have hbl1 := bytF_le q hok1 0 (by omega)
  generalize bytF l 0 = t at HBy HBs hbl
  generalize bytF q 0 = s at HBy1 HBs1 hbl1
  clear hr hok w0 r0 hcm hr1 hok1 w1 r1 hcm1
  by_cases hb0 : 262144 < t
  · have hb0' : (t : Int) > 262144 := by omega
    go_enter Tryd.func6, Tryd.ntmps6
    go_wp2_with fail
    refine HA.out.mono ?_; rintro e v1 ⟨rfl, b1⟩
    go_wp2_with fail
    refine (HBy.out _ b1).mono ?_; rintro e v2 ⟨rfl, b2⟩
    replace b2 := below_step b1 b2
    clear b1
    go_wp2_with fail
    go_ret
    exact ⟨rfl, b2⟩
  · have hb0' : ¬ (t : Int) > 262144 := by omega
    by_cases hb1 : 262144 < s
    · have hb1' : (s : Int) > 262144 := by omega
      go_enter Tryd.func6, Tryd.ntmps6
      go_wp2_with fail
      refine HA.out.mono ?_; rintro e v1 ⟨rfl, b1⟩
      go_wp2_with fail
      refine (HBy.out _ b1).mono ?_; rintro e v2 ⟨rfl, b2⟩
      replace b2 := below_step b1 b2
      clear b1
      go_wp2_with fail
      refine (HBy1.out _ b2).mono ?_; rintro e v3 ⟨rfl, b3⟩
      replace b3 := below_step b2 b3
      clear b2
      go_wp2_with fail
      go_ret
      exact ⟨rfl, b3⟩
    · have hb1' : ¬ (s : Int) > 262144 := by omega
      cases hsb : shortB l with
      | false =>
        rw [hsb] at HSh
        go_enter Tryd.func6, Tryd.ntmps6
        go_wp2_with fail
        refine HA.out.mono ?_; rintro e v1 ⟨rfl, b1⟩
        go_wp2_with fail
        refine (HBy.out _ b1).mono ?_; rintro e v2 ⟨rfl, b2⟩
        replace b2 := below_step b1 b2
        clear b1
        go_wp2_with fail
        refine (HBy1.out _ b2).mono ?_; rintro e v3 ⟨rfl, b3⟩
        replace b3 := below_step b2 b3
        clear b2
        go_wp2_with fail
        refine (HSh.out _ b3).mono ?_; rintro e v4 ⟨rfl, b4⟩
        replace b4 := below_step b3 b4
        clear b3
        go_wp2_with fail
        go_ret
        exact ⟨rfl, b4⟩
      | true =>
        rw [hsb] at HSh
        cases hsb1 : shortB q with
        | false =>
          rw [hsb1] at HSh1
          go_enter Tryd.func6, Tryd.ntmps6
          go_wp2_with fail
          refine HA.out.mono ?_; rintro e v1 ⟨rfl, b1⟩
          go_wp2_with fail
          refine (HBy.out _ b1).mono ?_; rintro e v2 ⟨rfl, b2⟩
          replace b2 := below_step b1 b2
          clear b1
          go_wp2_with fail
          refine (HBy1.out _ b2).mono ?_; rintro e v3 ⟨rfl, b3⟩
          replace b3 := below_step b2 b3
          clear b2
          go_wp2_with fail
          refine (HSh.out _ b3).mono ?_; rintro e v4 ⟨rfl, b4⟩
          replace b4 := below_step b3 b4
          clear b3
          go_wp2_with fail
          refine (HSh1.out _ b4).mono ?_; rintro e v5 ⟨rfl, b5⟩
          replace b5 := below_step b4 b5
          clear b4
          go_wp2_with fail
          go_ret
          exact ⟨rfl, b5⟩
        | true =>
          rw [hsb1] at HSh1
          have hsum : csum l = t := by have := HBs.out (by omega); omega
          have hsum1 : csum q = s := by have := HBs1.out (by omega); omega
          have hln := csum_len l
          have hln1 := csum_len q
          have HShort := Lib.hid (of_decide_eq_true hsb)
          have HShort1 := Lib.hid (of_decide_eq_true hsb1)
          clear hsb hsb1 HBs HBs1 HOk HOk1
          go_enter Tryd.func6, Tryd.ntmps6
          go_wp2_with fail
          refine HA.out.mono ?_; rintro e v1 ⟨rfl, b1⟩
          go_wp2_with fail
          refine (HBy.out _ b1).mono ?_; rintro e v2 ⟨rfl, b2⟩
          replace b2 := below_step b1 b2
          clear b1
          go_wp2_with fail
          refine (HBy1.out _ b2).mono ?_; rintro e v3 ⟨rfl, b3⟩
          replace b3 := below_step b2 b3
          clear b2
          go_wp2_with fail
          refine (HSh.out _ b3).mono ?_; rintro e v4 ⟨rfl, b4⟩
          replace b4 := below_step b3 b4
          clear b3
          go_wp2_with fail
          refine (HSh1.out _ b4).mono ?_; rintro e v5 ⟨rfl, b5⟩
          replace b5 := below_step b4 b5
          clear b4
          go_wp2_with fail
          refine (HBy.out _ b5).mono ?_; rintro e v6 ⟨rfl, b6⟩
          replace b6 := below_step b5 b6
          clear b5 HSh HSh1 HBy HA
          go_wp2_with fail
          · refine (st_newenc (own := 4096) (Sts.of_below b6) (by decide)).mono ?_; rintro e v7 ⟨g1, F1, rfl, S7⟩
            have H7 := Lib.hid S7
            clear S7 b6
            go_wp2_with fail
            refine (st_newdec (md := 4096) (ld := t) H7.out (by decide)).mono ?_; rintro e v8 ⟨g2, F2, rfl, S8⟩
            have H8 := Lib.hid S8
            clear S8 H7
            go_wp2_with fail
            refine (st_newdec (md := 4096) (ld := 1099511627776) H8.out (by decide)).mono ?_; rintro e v9 ⟨g3, F3, rfl, S9⟩
            have H9 := Lib.hid S9
            clear S9 H8
            have h44 : min 4096 4096 = 4096 := rfl
            simp only [h44] at H9
            clear h44
            have hinv := encList_inv 4096 l [] (fun x hx => by cases hx) (by simp [csum])
            have hBL1 := block_len 4096 4096 4096 4096 l []
            have hen := st_encode H9.out 2 rfl HG.out a0 l cap0 (HRw.out.below H9.out.bel) (st_old H9.out 2 rfl HRw.out fd_some) hlc (by unfold maxLen; omega) (by omega) (by omega)
            have hD1 := block_back2 4096 t 4096 4096 4096 l [] [] (by simp [csum]) (by omega) (by omega) rfl (by omega) (by omega) (by omega) HShort.out (fun x hx => by cases hx)
            have hW1 := block_back2 4096 1099511627776 4096 4096 4096 l [] [] (by simp [csum]) (by omega) (by omega) rfl (by omega) (by omega) (by omega) HShort.out (fun x hx => by cases hx)
            rw [if_neg (by omega)] at hW1
            generalize hdr 4096 4096 4096 ++ (encList 4096 l []).1 = B1 at hen hD1 hW1 hBL1
            generalize (encList 4096 l []).2 = R1 at hen hD1 hW1 hinv
            rw [if_neg (by omega)] at hD1
            have HD1 := Lib.hid hD1
            have HW1 := Lib.hid hW1
            have HInv := Lib.hid hinv
            clear hD1 hW1 hinv
            go_wp2_with fail
            refine hen.mono ?_; rintro e v10 ⟨oa, oc, F4, rfl, S10⟩
            have H10 := Lib.hid S10
            clear S10 hen H9
            simp only [List.set] at H10
            go_wp2_with fail
            have hq : RowP EBy oa oc B1 v10 := H10.out.is 0 rfl
            have hde := st_decode H10.out 2 rfl HG.out oa B1 oc (rb_of_q hq.row) (fun _ b o s e hm => H10.out.apart 0 2 rfl rfl (by decide) b (by subst e; exact List.mem_singleton.mpr rfl) hm) hq.le hq.max (by omega) (by omega)
            rw [HD1.out] at hde
            refine hde.mono ?_; rintro e v11 ⟨pa, pc, F5, rfl, S11⟩
            have H11 := Lib.hid S11
            clear S11 hde H10 hq HD1
            simp only [List.set] at H11
            go_wp2_with fail
            have hq : RowP EBy oa oc B1 v11 := H11.out.is 1 rfl
            have hde := st_decode H11.out 2 rfl HG.out oa B1 oc (rb_of_q hq.row) (fun _ b o s e hm => H11.out.apart 1 2 rfl rfl (by decide) b (by subst e; exact List.mem_singleton.mpr rfl) hm) hq.le hq.max (by omega) (by omega)
            rw [HW1.out] at hde
            refine hde.mono ?_; rintro e v12 ⟨pa2, pc2, F6, rfl, S12⟩
            have H12 := Lib.hid S12
            clear S12 hde H11 hq HW1
            simp only [List.set] at H12
            have hRf : fit 4096 R1 = R1 := fit_all _ _ HInv.out.2
            have hinv2 := encList_inv 4096 q R1 HInv.out.1 HInv.out.2
            have hBL2 := block_len 4096 4096 4096 4096 q R1
            have hD2 := block_back2 4096 t 4096 4096 4096 q R1 R1 HInv.out.2 (by omega) (by omega) hRf.symm (by omega) (by omega) (by omega) HShort1.out HInv.out.1
            have hW2 := block_back2 4096 1099511627776 4096 4096 4096 q R1 R1 HInv.out.2 (by omega) (by omega) hRf.symm (by omega) (by omega) (by omega) HShort1.out HInv.out.1
            rw [if_neg (by omega)] at hW2
            obtain ⟨jj, yy, hD2, hj1, hj2⟩ := back_two _ _ _ _ _ hD2
            have hen := st_encode H12.out 5 rfl HG.out a1 q cap1 (HRw1.out.below H12.out.bel) (st_old H12.out 5 rfl HRw1.out fd_some) hlc1 (by unfold maxLen; omega) (by omega) (by omega)
            generalize hdr 4096 4096 4096 ++ (encList 4096 q R1).1 = B2 at hen hD2 hW2 hBL2
            generalize (encList 4096 q R1).2 = R2 at hen hD2 hW2 hinv2
            have HEn := Lib.hid hen
            have HD2 := Lib.hid hD2
            have HW2 := Lib.hid hW2
            have HJ1 := Lib.hid hj1
            have HJ2 := Lib.hid hj2
            have hr2 := csum_len R2
            have hr3 := hinv2.2
            have hny : yy.length ≤ q.length := by
              by_cases hc : t < csum q
              · rw [(hj1 hc).2]; exact Nat.zero_le _
              · rw [(hj2 hc).2, List.length_map]; exact Nat.le_refl _
            have hnz : (q.map normF).length ≤ q.length := by rw [List.length_map]; exact Nat.le_refl _
            generalize q.map normF = zz at HJ2 HW2 hnz hj2 hW2
            clear hen hD2 hW2 hinv2 hRf HInv hj1 hj2
            go_wp2_with fail
            refine HEn.out.mono ?_; rintro e v13 ⟨oa2, oc2, F7, rfl, S13⟩
            have H13 := Lib.hid S13
            clear S13 HEn H12
            simp only [List.set] at H13
            go_wp2_with fail
            have hq : RowP EBy oa2 oc2 B2 v13 := H13.out.is 0 rfl
            have hde := st_decode H13.out 5 rfl HG.out oa2 B2 oc2 (rb_of_q hq.row) (fun _ b o s e hm => H13.out.apart 0 5 rfl rfl (by decide) b (by subst e; exact List.mem_singleton.mpr rfl) hm) hq.le hq.max (by omega) (by omega)
            rw [HD2.out] at hde
            refine hde.mono ?_; rintro e v14 ⟨ya, yc, F8, rfl, S14⟩
            have H14 := Lib.hid S14
            clear S14 hde H13 hq HD2
            simp only [List.set] at H14
            go_wp2_with fail
            have hq : RowP EBy oa2 oc2 B2 v14 := H14.out.is 1 rfl
            have hde := st_decode H14.out 5 rfl HG.out oa2 B2 oc2 (rb_of_q hq.row) (fun _ b o s e hm => H14.out.apart 1 5 rfl rfl (by decide) b (by subst e; exact List.mem_singleton.mpr rfl) hm) hq.le hq.max (by omega) (by omega)
            rw [HW2.out] at hde
            refine hde.mono ?_; rintro e v15 ⟨za, zc, F9, rfl, S15⟩
            have H15 := Lib.hid S15
            clear S15 hde H14 hq HW2
            simp only [List.set] at H15
            go_wp2_with fail
            refine (st_drows H15.out 7 rfl).mono ?_; rintro e v16 ⟨b16, rfl, S16⟩
            have H16 := Lib.hid S16
            clear S16 H15
            go_wp2_with fail
            refine (st_drows H16.out 7 rfl).mono ?_; rintro e v17 ⟨b17, rfl, S17⟩
            have H17 := Lib.hid S17
            clear S17 H16
            go_wp2_with fail
            have q0 : RowP EFd (some ⟨b17, 0, none⟩) R2.length R2 v17 := H17.out.is 0 rfl
            have q1 : RowP EFd (some ⟨b16, 0, none⟩) R2.length R2 v17 := H17.out.is 1 rfl
            have hfi := st_fields H17.out (some ⟨b16, 0, none⟩) (some ⟨b17, 0, none⟩) R2 R2 R2.length R2.length q1.row q0.row (Nat.le_refl _) (Nat.le_refl _) (by omega) (by omega)
            rw [decide_eq_true rfl] at hfi
            refine hfi.mono ?_; rintro e v18 ⟨rfl, S18⟩
            have H18 := Lib.hid S18
            clear S18 hfi q0 q1 H17
            go_wp2_with fail
            refine (HBy1.out _ H18.out.bel).mono ?_; rintro e v19 ⟨rfl, b19⟩
            have H19 := Lib.hid (H18.out.below b19)
            clear b19 H18 HBy1
            by_cases hN : t < s
            · have hN' : (s : Int) > t := by omega
              obtain ⟨rfl, rfl⟩ := HJ1.out (by omega)
              have hb20 := H19.out.bel
              clear HJ1 HJ2 H19
              go_wp2_with fail
              go_ret
              exact ⟨rfl, hb20⟩
            · have hN' : ¬ (s : Int) > t := by omega
              obtain ⟨rfl, rfl⟩ := HJ2.out (by omega)
              clear HJ1 HJ2
              have q2 : RowP EFd za zc yy v19 := H19.out.is 2 rfl
              have q3 : RowP EFd ya yc yy v19 := H19.out.is 3 rfl
              have hfi := st_fields H19.out ya za yy yy yc zc q3.row q2.row q3.le q2.le (by omega) (by omega)
              rw [decide_eq_true rfl] at hfi
              have HFi := Lib.hid hfi
              clear hfi q2 q3 H19
              go_wp2_with fail
              refine HFi.out.mono ?_; rintro e v20 ⟨rfl, S20⟩
              have hb20 := S20.bel
              clear S20 HFi
              go_wp2_with fail
              go_ret
              exact ⟨rfl, hb20⟩
          · have hpos : 0 < t := (by assumption : (a2.tmod 2 != 0) = true ∧ 0 < t).2
            obtain ⟨lim, hlim⟩ : ∃ lim, t ≤ lim + 1 ∧ lim + 1 ≤ t := ⟨t - 1, by omega⟩
            have hli : (t : Int) - 1 = (lim : Int) := by omega
            clear hpos
            refine (st_newenc (own := 4096) (Sts.of_below b6) (by decide)).mono ?_; rintro e v7 ⟨g1, F1, rfl, S7⟩
            have H7 := Lib.hid S7
            clear S7 b6
            go_wp2_with fail
            refine (st_newdec (md := 4096) (ld := lim) H7.out (by decide)).mono ?_; rintro e v8 ⟨g2, F2, rfl, S8⟩
            have H8 := Lib.hid S8
            clear S8 H7
            go_wp2_with fail
            refine (st_newdec (md := 4096) (ld := 1099511627776) H8.out (by decide)).mono ?_; rintro e v9 ⟨g3, F3, rfl, S9⟩
            have H9 := Lib.hid S9
            clear S9 H8
            have h44 : min 4096 4096 = 4096 := rfl
            simp only [h44] at H9
            clear h44
            have hinv := encList_inv 4096 l [] (fun x hx => by cases hx) (by simp [csum])
            have hBL1 := block_len 4096 4096 4096 4096 l []
            have hen := st_encode H9.out 2 rfl HG.out a0 l cap0 (HRw.out.below H9.out.bel) (st_old H9.out 2 rfl HRw.out fd_some) hlc (by unfold maxLen; omega) (by omega) (by omega)
            have hD1 := block_back2 4096 lim 4096 4096 4096 l [] [] (by simp [csum]) (by omega) (by omega) rfl (by omega) (by omega) (by omega) HShort.out (fun x hx => by cases hx)
            have hW1 := block_back2 4096 1099511627776 4096 4096 4096 l [] [] (by simp [csum]) (by omega) (by omega) rfl (by omega) (by omega) (by omega) HShort.out (fun x hx => by cases hx)
            rw [if_neg (by omega)] at hW1
            generalize hdr 4096 4096 4096 ++ (encList 4096 l []).1 = B1 at hen hD1 hW1 hBL1
            generalize (encList 4096 l []).2 = R1 at hen hD1 hW1 hinv
            rw [if_pos (by omega)] at hD1
            have HD1 := Lib.hid hD1
            have HW1 := Lib.hid hW1
            have HInv := Lib.hid hinv
            clear hD1 hW1 hinv
            go_wp2_with fail
            refine hen.mono ?_; rintro e v10 ⟨oa, oc, F4, rfl, S10⟩
            have H10 := Lib.hid S10
            clear S10 hen H9
            simp only [List.set] at H10
            go_wp2_with fail
            have hq : RowP EBy oa oc B1 v10 := H10.out.is 0 rfl
            have hde := st_decode H10.out 2 rfl HG.out oa B1 oc (rb_of_q hq.row) (fun _ b o s e hm => H10.out.apart 0 2 rfl rfl (by decide) b (by subst e; exact List.mem_singleton.mpr rfl) hm) hq.le hq.max (by omega) (by omega)
            rw [HD1.out] at hde
            refine hde.mono ?_; rintro e v11 ⟨pa, pc, F5, rfl, S11⟩
            have H11 := Lib.hid S11
            clear S11 hde H10 hq HD1
            simp only [List.set] at H11
            go_wp2_with fail
            have hq : RowP EBy oa oc B1 v11 := H11.out.is 1 rfl
            have hde := st_decode H11.out 2 rfl HG.out oa B1 oc (rb_of_q hq.row) (fun _ b o s e hm => H11.out.apart 1 2 rfl rfl (by decide) b (by subst e; exact List.mem_singleton.mpr rfl) hm) hq.le hq.max (by omega) (by omega)
            rw [HW1.out] at hde
            refine hde.mono ?_; rintro e v12 ⟨pa2, pc2, F6, rfl, S12⟩
            have H12 := Lib.hid S12
            clear S12 hde H11 hq HW1
            simp only [List.set] at H12
            have hRf : fit 4096 R1 = R1 := fit_all _ _ HInv.out.2
            have hinv2 := encList_inv 4096 q R1 HInv.out.1 HInv.out.2
            have hBL2 := block_len 4096 4096 4096 4096 q R1
            have hD2 := block_back2 4096 lim 4096 4096 4096 q R1 R1 HInv.out.2 (by omega) (by omega) hRf.symm (by omega) (by omega) (by omega) HShort1.out HInv.out.1
            have hW2 := block_back2 4096 1099511627776 4096 4096 4096 q R1 R1 HInv.out.2 (by omega) (by omega) hRf.symm (by omega) (by omega) (by omega) HShort1.out HInv.out.1
            rw [if_neg (by omega)] at hW2
            obtain ⟨jj, yy, hD2, hj1, hj2⟩ := back_two _ _ _ _ _ hD2
            have hen := st_encode H12.out 5 rfl HG.out a1 q cap1 (HRw1.out.below H12.out.bel) (st_old H12.out 5 rfl HRw1.out fd_some) hlc1 (by unfold maxLen; omega) (by omega) (by omega)
            generalize hdr 4096 4096 4096 ++ (encList 4096 q R1).1 = B2 at hen hD2 hW2 hBL2
            generalize (encList 4096 q R1).2 = R2 at hen hD2 hW2 hinv2
            have HEn := Lib.hid hen
            have HD2 := Lib.hid hD2
            have HW2 := Lib.hid hW2
            have HJ1 := Lib.hid hj1
            have HJ2 := Lib.hid hj2
            have hr2 := csum_len R2
            have hr3 := hinv2.2
            have hny : yy.length ≤ q.length := by
              by_cases hc : lim < csum q
              · rw [(hj1 hc).2]; exact Nat.zero_le _
              · rw [(hj2 hc).2, List.length_map]; exact Nat.le_refl _
            have hnz : (q.map normF).length ≤ q.length := by rw [List.length_map]; exact Nat.le_refl _
            generalize q.map normF = zz at HJ2 HW2 hnz hj2 hW2
            clear hen hD2 hW2 hinv2 hRf HInv hj1 hj2
            go_wp2_with fail
            refine HEn.out.mono ?_; rintro e v13 ⟨oa2, oc2, F7, rfl, S13⟩
            have H13 := Lib.hid S13
            clear S13 HEn H12
            simp only [List.set] at H13
            go_wp2_with fail
            have hq : RowP EBy oa2 oc2 B2 v13 := H13.out.is 0 rfl
            have hde := st_decode H13.out 5 rfl HG.out oa2 B2 oc2 (rb_of_q hq.row) (fun _ b o s e hm => H13.out.apart 0 5 rfl rfl (by decide) b (by subst e; exact List.mem_singleton.mpr rfl) hm) hq.le hq.max (by omega) (by omega)
            rw [HD2.out] at hde
            refine hde.mono ?_; rintro e v14 ⟨ya, yc, F8, rfl, S14⟩
            have H14 := Lib.hid S14
            clear S14 hde H13 hq HD2
            simp only [List.set] at H14
            go_wp2_with fail
            have hq : RowP EBy oa2 oc2 B2 v14 := H14.out.is 1 rfl
            have hde := st_decode H14.out 5 rfl HG.out oa2 B2 oc2 (rb_of_q hq.row) (fun _ b o s e hm => H14.out.apart 1 5 rfl rfl (by decide) b (by subst e; exact List.mem_singleton.mpr rfl) hm) hq.le hq.max (by omega) (by omega)
            rw [HW2.out] at hde
            refine hde.mono ?_; rintro e v15 ⟨za, zc, F9, rfl, S15⟩
            have H15 := Lib.hid S15
            clear S15 hde H14 hq HW2
            simp only [List.set] at H15
            go_wp2_with fail
            refine (st_drows H15.out 7 rfl).mono ?_; rintro e v16 ⟨b16, rfl, S16⟩
            have H16 := Lib.hid S16
            clear S16 H15
            go_wp2_with fail
            refine (st_drows H16.out 7 rfl).mono ?_; rintro e v17 ⟨b17, rfl, S17⟩
            have H17 := Lib.hid S17
            clear S17 H16
            go_wp2_with fail
            have q0 : RowP EFd (some ⟨b17, 0, none⟩) R2.length R2 v17 := H17.out.is 0 rfl
            have q1 : RowP EFd (some ⟨b16, 0, none⟩) R2.length R2 v17 := H17.out.is 1 rfl
            have hfi := st_fields H17.out (some ⟨b16, 0, none⟩) (some ⟨b17, 0, none⟩) R2 R2 R2.length R2.length q1.row q0.row (Nat.le_refl _) (Nat.le_refl _) (by omega) (by omega)
            rw [decide_eq_true rfl] at hfi
            refine hfi.mono ?_; rintro e v18 ⟨rfl, S18⟩
            have H18 := Lib.hid S18
            clear S18 hfi q0 q1 H17
            go_wp2_with fail
            refine (HBy1.out _ H18.out.bel).mono ?_; rintro e v19 ⟨rfl, b19⟩
            have H19 := Lib.hid (H18.out.below b19)
            clear b19 H18 HBy1
            by_cases hN : lim < s
            · have hN' : (s : Int) > lim := by omega
              obtain ⟨rfl, rfl⟩ := HJ1.out (by omega)
              have hb20 := H19.out.bel
              clear HJ1 HJ2 H19
              go_wp2_with fail
              go_ret
              exact ⟨rfl, hb20⟩
            · have hN' : ¬ (s : Int) > lim := by omega
              obtain ⟨rfl, rfl⟩ := HJ2.out (by omega)
              clear HJ1 HJ2
              have q2 : RowP EFd za zc yy v19 := H19.out.is 2 rfl
              have q3 : RowP EFd ya yc yy v19 := H19.out.is 3 rfl
              have hfi := st_fields H19.out ya za yy yy yc zc q3.row q2.row q3.le q2.le (by omega) (by omega)
              rw [decide_eq_true rfl] at hfi
              have HFi := Lib.hid hfi
              clear hfi q2 q3 H19
              go_wp2_with fail
              refine HFi.out.mono ?_; rintro e v20 ⟨rfl, S20⟩
              have hb20 := S20.bel
              clear S20 HFi
              go_wp2_with fail
              go_ret
              exact ⟨rfl, hb20⟩
          · refine (st_newenc (own := 4096) (Sts.of_below b6) (by decide)).mono ?_; rintro e v7 ⟨g1, F1, rfl, S7⟩
            have H7 := Lib.hid S7
            clear S7 b6
            go_wp2_with fail
            refine (st_newdec (md := 4096) (ld := t) H7.out (by decide)).mono ?_; rintro e v8 ⟨g2, F2, rfl, S8⟩
            have H8 := Lib.hid S8
            clear S8 H7
            go_wp2_with fail
            refine (st_newdec (md := 4096) (ld := 1099511627776) H8.out (by decide)).mono ?_; rintro e v9 ⟨g3, F3, rfl, S9⟩
            have H9 := Lib.hid S9
            clear S9 H8
            have h44 : min 4096 4096 = 4096 := rfl
            simp only [h44] at H9
            clear h44
            have hinv := encList_inv 4096 l [] (fun x hx => by cases hx) (by simp [csum])
            have hBL1 := block_len 4096 4096 4096 4096 l []
            have hen := st_encode H9.out 2 rfl HG.out a0 l cap0 (HRw.out.below H9.out.bel) (st_old H9.out 2 rfl HRw.out fd_some) hlc (by unfold maxLen; omega) (by omega) (by omega)
            have hD1 := block_back2 4096 t 4096 4096 4096 l [] [] (by simp [csum]) (by omega) (by omega) rfl (by omega) (by omega) (by omega) HShort.out (fun x hx => by cases hx)
            have hW1 := block_back2 4096 1099511627776 4096 4096 4096 l [] [] (by simp [csum]) (by omega) (by omega) rfl (by omega) (by omega) (by omega) HShort.out (fun x hx => by cases hx)
            rw [if_neg (by omega)] at hW1
            generalize hdr 4096 4096 4096 ++ (encList 4096 l []).1 = B1 at hen hD1 hW1 hBL1
            generalize (encList 4096 l []).2 = R1 at hen hD1 hW1 hinv
            rw [if_neg (by omega)] at hD1
            have HD1 := Lib.hid hD1
            have HW1 := Lib.hid hW1
            have HInv := Lib.hid hinv
            clear hD1 hW1 hinv
            go_wp2_with fail
            refine hen.mono ?_; rintro e v10 ⟨oa, oc, F4, rfl, S10⟩
            have H10 := Lib.hid S10
            clear S10 hen H9
            simp only [List.set] at H10
            go_wp2_with fail
            have hq : RowP EBy oa oc B1 v10 := H10.out.is 0 rfl
            have hde := st_decode H10.out 2 rfl HG.out oa B1 oc (rb_of_q hq.row) (fun _ b o s e hm => H10.out.apart 0 2 rfl rfl (by decide) b (by subst e; exact List.mem_singleton.mpr rfl) hm) hq.le hq.max (by omega) (by omega)
            rw [HD1.out] at hde
            refine hde.mono ?_; rintro e v11 ⟨pa, pc, F5, rfl, S11⟩
            have H11 := Lib.hid S11
            clear S11 hde H10 hq HD1
            simp only [List.set] at H11
            go_wp2_with fail
            have hq : RowP EBy oa oc B1 v11 := H11.out.is 1 rfl
            have hde := st_decode H11.out 2 rfl HG.out oa B1 oc (rb_of_q hq.row) (fun _ b o s e hm => H11.out.apart 1 2 rfl rfl (by decide) b (by subst e; exact List.mem_singleton.mpr rfl) hm) hq.le hq.max (by omega) (by omega)
            rw [HW1.out] at hde
            refine hde.mono ?_; rintro e v12 ⟨pa2, pc2, F6, rfl, S12⟩
            have H12 := Lib.hid S12
            clear S12 hde H11 hq HW1
            simp only [List.set] at H12
            have hRf : fit 4096 R1 = R1 := fit_all _ _ HInv.out.2
            have hinv2 := encList_inv 4096 q R1 HInv.out.1 HInv.out.2
            have hBL2 := block_len 4096 4096 4096 4096 q R1
            have hD2 := block_back2 4096 t 4096 4096 4096 q R1 R1 HInv.out.2 (by omega) (by omega) hRf.symm (by omega) (by omega) (by omega) HShort1.out HInv.out.1
            have hW2 := block_back2 4096 1099511627776 4096 4096 4096 q R1 R1 HInv.out.2 (by omega) (by omega) hRf.symm (by omega) (by omega) (by omega) HShort1.out HInv.out.1
            rw [if_neg (by omega)] at hW2
            obtain ⟨jj, yy, hD2, hj1, hj2⟩ := back_two _ _ _ _ _ hD2
            have hen := st_encode H12.out 5 rfl HG.out a1 q cap1 (HRw1.out.below H12.out.bel) (st_old H12.out 5 rfl HRw1.out fd_some) hlc1 (by unfold maxLen; omega) (by omega) (by omega)
            generalize hdr 4096 4096 4096 ++ (encList 4096 q R1).1 = B2 at hen hD2 hW2 hBL2
            generalize (encList 4096 q R1).2 = R2 at hen hD2 hW2 hinv2
            have HEn := Lib.hid hen
            have HD2 := Lib.hid hD2
            have HW2 := Lib.hid hW2
            have HJ1 := Lib.hid hj1
            have HJ2 := Lib.hid hj2
            have hr2 := csum_len R2
            have hr3 := hinv2.2
            have hny : yy.length ≤ q.length := by
              by_cases hc : t < csum q
              · rw [(hj1 hc).2]; exact Nat.zero_le _
              · rw [(hj2 hc).2, List.length_map]; exact Nat.le_refl _
            have hnz : (q.map normF).length ≤ q.length := by rw [List.length_map]; exact Nat.le_refl _
            generalize q.map normF = zz at HJ2 HW2 hnz hj2 hW2
            clear hen hD2 hW2 hinv2 hRf HInv hj1 hj2
            go_wp2_with fail
            refine HEn.out.mono ?_; rintro e v13 ⟨oa2, oc2, F7, rfl, S13⟩
            have H13 := Lib.hid S13
            clear S13 HEn H12
            simp only [List.set] at H13
            go_wp2_with fail
            have hq : RowP EBy oa2 oc2 B2 v13 := H13.out.is 0 rfl
            have hde := st_decode H13.out 5 rfl HG.out oa2 B2 oc2 (rb_of_q hq.row) (fun _ b o s e hm => H13.out.apart 0 5 rfl rfl (by decide) b (by subst e; exact List.mem_singleton.mpr rfl) hm) hq.le hq.max (by omega) (by omega)
            rw [HD2.out] at hde
            refine hde.mono ?_; rintro e v14 ⟨ya, yc, F8, rfl, S14⟩
            have H14 := Lib.hid S14
            clear S14 hde H13 hq HD2
            simp only [List.set] at H14
            go_wp2_with fail
            have hq : RowP EBy oa2 oc2 B2 v14 := H14.out.is 1 rfl
            have hde := st_decode H14.out 5 rfl HG.out oa2 B2 oc2 (rb_of_q hq.row) (fun _ b o s e hm => H14.out.apart 1 5 rfl rfl (by decide) b (by subst e; exact List.mem_singleton.mpr rfl) hm) hq.le hq.max (by omega) (by omega)
            rw [HW2.out] at hde
            refine hde.mono ?_; rintro e v15 ⟨za, zc, F9, rfl, S15⟩
            have H15 := Lib.hid S15
            clear S15 hde H14 hq HW2
            simp only [List.set] at H15
            go_wp2_with fail
            refine (st_drows H15.out 7 rfl).mono ?_; rintro e v16 ⟨b16, rfl, S16⟩
            have H16 := Lib.hid S16
            clear S16 H15
            go_wp2_with fail
            refine (st_drows H16.out 7 rfl).mono ?_; rintro e v17 ⟨b17, rfl, S17⟩
            have H17 := Lib.hid S17
            clear S17 H16
            go_wp2_with fail
            have q0 : RowP EFd (some ⟨b17, 0, none⟩) R2.length R2 v17 := H17.out.is 0 rfl
            have q1 : RowP EFd (some ⟨b16, 0, none⟩) R2.length R2 v17 := H17.out.is 1 rfl
            have hfi := st_fields H17.out (some ⟨b16, 0, none⟩) (some ⟨b17, 0, none⟩) R2 R2 R2.length R2.length q1.row q0.row (Nat.le_refl _) (Nat.le_refl _) (by omega) (by omega)
            rw [decide_eq_true rfl] at hfi
            refine hfi.mono ?_; rintro e v18 ⟨rfl, S18⟩
            have H18 := Lib.hid S18
            clear S18 hfi q0 q1 H17
            go_wp2_with fail
            refine (HBy1.out _ H18.out.bel).mono ?_; rintro e v19 ⟨rfl, b19⟩
            have H19 := Lib.hid (H18.out.below b19)
            clear b19 H18 HBy1
            by_cases hN : t < s
            · have hN' : (s : Int) > t := by omega
              obtain ⟨rfl, rfl⟩ := HJ1.out (by omega)
              have hb20 := H19.out.bel
              clear HJ1 HJ2 H19
              go_wp2_with fail
              go_ret
              exact ⟨rfl, hb20⟩
            · have hN' : ¬ (s : Int) > t := by omega
              obtain ⟨rfl, rfl⟩ := HJ2.out (by omega)
              clear HJ1 HJ2
              have q2 : RowP EFd za zc yy v19 := H19.out.is 2 rfl
              have q3 : RowP EFd ya yc yy v19 := H19.out.is 3 rfl
              have hfi := st_fields H19.out ya za yy yy yc zc q3.row q2.row q3.le q2.le (by omega) (by omega)
              rw [decide_eq_true rfl] at hfi
              have HFi := Lib.hid hfi
              clear hfi q2 q3 H19
              go_wp2_with fail
              refine HFi.out.mono ?_; rintro e v20 ⟨rfl, S20⟩
              have hb20 := S20.bel
              clear S20 HFi
              go_wp2_with fail
              go_ret
              exact ⟨rfl, hb20⟩


noncomputable def laidWorld (os : Os) : World :=
  { World.holding Tryd.prog os ⟨#[], #[], []⟩ with heap := (((World.holding Tryd.prog os ⟨#[], #[], []⟩).heap).modify 0 fun
      | .cells _ t frozen => .cells #[.int .i64 0, .int .u32 0, .int .i64 0, .int .i64 0, .int .u32 0, .int .i64 0, .int .i64 0, .int .u32 0, .int .i64 0, .int .i64 0, .int .u32 0, .int .i64 0, .int .i64 0, .int .u32 0, .int .i64 0, .int .i64 10, .int .u32 0, .int .i64 0, .int .i64 26, .int .u32 20, .int .i64 10, .int .i64 32, .int .u32 92, .int .i64 36, .int .i64 6, .int .u32 248, .int .i64 68, .int .i64 0, .int .u32 0, .int .i64 0, .int .i64 5, .int .u32 1016, .int .i64 74, .int .i64 3, .int .u32 2042, .int .i64 79, .int .i64 2, .int .u32 4090, .int .i64 82, .int .i64 6, .int .u32 8184, .int .i64 84, .int .i64 2, .int .u32 16380, .int .i64 90, .int .i64 3, .int .u32 32764, .int .i64 92, .int .i64 0, .int .u32 0, .int .i64 0, .int .i64 0, .int .u32 0, .int .i64 0, .int .i64 0, .int .u32 0, .int .i64 0, .int .i64 3, .int .u32 524272, .int .i64 95, .int .i64 8, .int .u32 1048550, .int .i64 98, .int .i64 13, .int .u32 2097116, .int .i64 106, .int .i64 26, .int .u32 4194258, .int .i64 119, .int .i64 29, .int .u32 8388568, .int .i64 145, .int .i64 12, .int .u32 16777194, .int .i64 174, .int .i64 4, .int .u32 33554412, .int .i64 186, .int .i64 15, .int .u32 67108832, .int .i64 190, .int .i64 19, .int .u32 134217694, .int .i64 205, .int .i64 29, .int .u32 268435426, .int .i64 224, .int .i64 0, .int .u32 0, .int .i64 0, .int .i64 4, .int .u32 1073741820, .int .i64 253] t frozen
      | o => o) }
theorem laid_met (os : Os) : laidMet Tryd.prog Rows.hpackListsRow.laid ((laidWorld os).forCall (fun _ _ => 0) ⟨#[], #[.slice none 0 0, .slice none 0 0, .int .i64 0], []⟩).memory :=
  laidMet_of_run' 8 (by kernel_rfl) (by kernel_rfl)
theorem reads (os : Os) {H : Type} (enc : TypeId × Value → H) : ∃ places, DataW.whole enc Tryd.prog ((laidWorld os).forCall (fun _ _ => 0) ⟨#[], #[.slice none 0 0, .slice none 0 0, .int .i64 0], []⟩).memory Tryd.f6.params.toList Rows.hpackListsSpec.vars false (#[.slice none 0 0, .slice none 0 0, .int .i64 0] : Array Value).toList 8 = some ([.nil, .nil, .lit (.int .i64 0)], [], places) :=
  ⟨[], by kernel_rfl⟩

set_option maxRecDepth 100000 in
theorem lifted (os : Os) (started : os.Started) (H : Type) (enc : TypeId × Value → H) (F : Stop.Interp) :
    ReturnsInHanded {} Tryd.checked os 6 .any ((OpenSpec.ofChange Rows.hpackListsSpec).preRow enc Tryd.prog Tryd.f6 Rows.hpackListsRow.domain false Rows.hpackListsRow.laid) (((OpenSpec.ofChange Rows.hpackListsSpec).at F).post enc Tryd.prog Tryd.f6 false true false false) := by
  obtain ⟨places, hx⟩ := reads os enc
  refine returnsInHanded_of_row (C := Tryd.checked) (s := OpenSpec.ofChange Rows.hpackListsSpec) own started (by kernel_rfl) Tryd.func6
    (witness_row_at (enc := enc) (C := Tryd.checked) false (laidWorld os) #[.slice none 0 0, .slice none 0 0, .int .i64 0] rfl (by kernel_rfl) (by kernel_rfl) (by kernel_rfl)
      (OpenSpec.preRow_of_cond 8 hx (by kernel_rfl) (fun k hk => by cases hk) (by kernel_rfl) (laid_met os))) ?_
  intro W base args ds gs before hval0 hW hcnd _ hsz0 hL _ _
  have hsz : (DataW.weightsEach Tryd.prog (Tryd.f6.params.toList ++ Rows.hpackListsSpec.plain.varTypes Tryd.prog) (ds ++ gs)).all (· ≤ reachBytes) = true := hsz0
  have hval : ∀ (j : Nat) t v, Tryd.f6.params[j]? = some t → args[j]? = some v → Value.okWide Tryd.prog W .any base t v := hval0
  have hW' := hW
  obtain ⟨p, q, hA0, hV, rfl, hfz, hnd⟩ := hW
  have hA : DataW.TrodAll enc Tryd.prog W 0 (fun _ => true) true Tryd.f6.params.toList args.toList ds p := hA0
  rw [Tryd.params6] at hA hval hsz
  obtain ⟨v0, vs0, d0, ds0, p0, q0, hargs, rfl, rfl, h0, t0⟩ := trodAll_cons hA
  obtain ⟨v1, vs1, d1, ds1, p1, q1, rfl, rfl, rfl, h1, t1⟩ := trodAll_cons t0
  obtain ⟨v2, vs2, d2, ds2, p2, q2, rfl, rfl, rfl, h2, t2⟩ := trodAll_cons t1
  obtain ⟨rfl, rfl, rfl⟩ := trodAll_nil t2
  obtain rfl : args = #[v0, v1, v2] := by cases args; simp_all
  obtain ⟨rfl, rfl⟩ := trodVars_none hV
  have k0 := h0
  have lt0 : ∀ x ∈ p0, x.block < W.heap.size := by obtain ⟨m, hm⟩ := k0; exact DataW.trod_lt m _ _ _ hm
  obtain ⟨a0, len0, cap0, rfl⟩ := okWide_slice Tryd.underlying31 (hval 0 31 v0 rfl rfl)
  obtain ⟨fuel0, hf0⟩ := h0
  have ok0 : Arg.AllOk W [.slc 40 [.str, .str, .bool]] [.slice a0 len0 cap0] := Arg.trod_leaves 9 31 [.slc 40 [.str, .str, .bool]] (by kernel_rfl) hf0 (Arg.sized hsz (j := 0) (t := 31) rfl rfl)
  obtain ⟨aa0, ll0, cc0, hv0, r0, w0⟩ := Arg.LeafOk.slc ok0.1
  simp only [Value.slice.injEq] at hv0
  obtain ⟨rfl, rfl, rfl⟩ := hv0
  have k1 := h1
  have lt1 : ∀ x ∈ p1, x.block < W.heap.size := by obtain ⟨m, hm⟩ := k1; exact DataW.trod_lt m _ _ _ hm
  obtain ⟨a1, len1, cap1, rfl⟩ := okWide_slice Tryd.underlying31 (hval 1 31 v1 rfl rfl)
  obtain ⟨fuel1, hf1⟩ := h1
  have ok1 : Arg.AllOk W [.slc 40 [.str, .str, .bool]] [.slice a1 len1 cap1] := Arg.trod_leaves 9 31 [.slc 40 [.str, .str, .bool]] (by kernel_rfl) hf1 (Arg.sized hsz (j := 1) (t := 31) rfl rfl)
  obtain ⟨aa1, ll1, cc1, hv1, r1, w1⟩ := Arg.LeafOk.slc ok1.1
  simp only [Value.slice.injEq] at hv1
  obtain ⟨rfl, rfl, rfl⟩ := hv1
  have k2 := h2
  have lt2 : ∀ x ∈ p2, x.block < W.heap.size := by obtain ⟨m, hm⟩ := k2; exact DataW.trod_lt m _ _ _ hm
  obtain ⟨a2, rfl, rfl, rfl, w2⟩ := open_int Tryd.underlying3 (hval 2 3 v2 rfl rfl) h2
  clear hA0 hval0 hsz0
  refine (walk a0 len0 cap0 a1 len1 cap1 a2 W w0 r0 w1 r1 w2 (grpIs_of (laid := Rows.hpackListsRow.laid) hL 0 rfl)).mono fun e W' ⟨he, bel⟩ => ?_
  subst he
  exact ⟨_, rfl, _, _, _, [], _, [], hW', trodAll_mk1 (shut_bool Tryd.underlying4 _), (trodAll_cons_mk (Below.trod laidOut (by kernel_rfl) (of_decide_eq_true (by kernel_rfl)) k0 bel lt0) (trodAll_cons_mk (Below.trod laidOut (by kernel_rfl) (of_decide_eq_true (by kernel_rfl)) k1 bel lt1) (trodAll_cons_mk (Below.trod laidOut (by kernel_rfl) (of_decide_eq_true (by kernel_rfl)) k2 bel lt2) trodAll_mk0))), rfl, bel.frame _, fun h => by cases h⟩

theorem over : Rows.hpackListsRow.holds Tryd.pinned (OpenSpec.ofChange Rows.hpackListsSpec) :=
  OpenClaim.holds_of_cond 6 Tryd.f6 rfl rfl rfl rfl rfl rfl rfl ⟨rfl, rfl, rfl, rfl, rfl⟩ rfl rfl rfl rfl rfl (by kernel_rfl) Tryd.func6 (by kernel_rfl)
    (of_decide_eq_true (by kernel_rfl)) (by unfold Func.isWrapper; first | (rw [if_pos (by decide +kernel)]; kernel_rfl) | (rw [if_neg (by decide +kernel)]; exact ⟨rfl, rfl⟩))
    (fun os started H enc _ F => by rw [OpenClaim.pre_eq_preRow]; exact lifted os started H enc F)

theorem plain (f : FuncId) (fn : Func) (hf : Tryd.pinned.checked.prog.funcNamed "drawbridge/drawbridgelaw05.HpackLists" = some f) (hfn : Tryd.pinned.checked.prog.funcs[f]? = some fn) :
    true = Tryd.pinned.checked.prog.looks [] ∧ ∀ (j : Nat) t, fn.params[j]? = some t → Tryd.pinned.checked.prog.wantsStandIn t = false := by
  obtain rfl : f = 6 := Option.some.inj ((show Tryd.prog.funcNamed "drawbridge/drawbridgelaw05.HpackLists" = some 6 by kernel_rfl).symm.trans hf) |>.symm
  obtain rfl : fn = Tryd.f6 := (Option.some.inj (Tryd.func6.symm.trans hfn)).symm
  refine ⟨by kernel_rfl, fun j t ht => ?_⟩
  rw [Tryd.params6] at ht
  have hm := Array.mem_of_getElem? ht
  simp only [List.mem_toArray, List.mem_cons, List.not_mem_nil, or_false] at hm
  rcases hm with rfl | rfl | rfl
  · exact (show Tryd.prog.wantsStandIn 31 = false by kernel_rfl)
  · exact (show Tryd.prog.wantsStandIn 31 = false by kernel_rfl)
  · exact (show Tryd.prog.wantsStandIn 3 = false by kernel_rfl)

theorem proved : Rows.HpackListsCardSaid :=
  Claim7.holds_tied_plain_at .later [] _ _ _ _ over (fun _ h => by cases h) (by kernel_rfl) (fun _ h => by cases h) hpackLists_row_tie rfl ⟨rfl, rfl⟩ (by kernel_rfl) rfl plain (by kernel_rfl)
end Go.Proofs.YtdkgachgohilcaaDoor.hpackLists
