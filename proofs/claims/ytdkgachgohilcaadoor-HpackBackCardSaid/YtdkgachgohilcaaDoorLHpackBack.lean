/-
  HpackBack holds for every limit and every script: what an encoder writes, whatever the limits do, a decoder reads as it was, block by block, and both tables are alike; the table of groups starts as its text lays it.
-/
import Derived.Test.YtdkgachgohilcaaDoorRows
import Derived.WalkKit
import Derived.ProofKit
import Derived.OpenShut
import Derived.ShutString
import Derived.SizedLaws
import Derived.Deep.DeepHandedRow
import Derived.Lib.LaidTab
import Derived.Test.YtdkgachgohilcaaDoorGP26
import Derived.Test.YtdkgachgohilcaaDoorCards
import Derived.Test.YtdkgachgohilcaaDoorTie
import Derived.Test.YtdkgachgohilcaaDoorGP01
import Derived.Lib.SmallJoins
import Derived.RegionTactic
import Derived.IntWalk
import Derived.Deep.RegionHeld3
import Derived.Laws.StructEq
namespace Go.Proofs.YtdkgachgohilcaaDoor.hpackBack
open Go.ChangeShapes Go.WideShapes Go.ChangeAt Go.RowKit
open Go.Proofs.YtdkgachgohilcaaDoor Huf Pre Tab Hpk Arg Mem Gen Wr Go.Proofs.YtdkgachgohilcaaDoor.Obj Sx
open Go.ChangeMaps (open_string shut_string)
open Go.Joins
set_option linter.unusedVariables false
set_option linter.unusedSimpArgs false

theorem own : ownKnob Tryd.prog.godebug = none := by kernel_rfl
theorem laidOut : laidOutB Tryd.prog = true := by kernel_rfl

set_option maxRecDepth 100000 in
set_option maxHeartbeats 8000000 in
theorem walk (a0 : Int) (a1 : Option Addr) (len1 cap1 : Nat) (w : World) (w0 : (Lit.int .i64 a0).wf = true) (w1 : Arg.Slc w [.bool, .int .i64, .slc 40 [.str, .str, .bool]] a1 len1 cap1) (r1 : cap1 * 40 ≤ 140737488351232) (tab0 : GrpIs w) :
    Calls Tryd.prog 5 #[.int .i64 a0, .slice a1 len1 cap1] w fun e w' => e = .returned (.bool true) ∧ Below w.heap.size w w' := by
  have HG := Lib.hid tab0
  clear tab0
  obtain ⟨l, hl, hr, hok, hlc, hcm⟩ := script_in w1
  have HRw := Lib.hid hr
  have HOk := Lib.hid hok
  have HL := Lib.hid hl
  have HA := Lib.hid (awake_any w HG.out)
  have hlen : len1 ≤ 140737488355328 := by omega
  have HFw : Hid (∀ v, Below w.heap.size w v → Calls Tryd.prog 17 #[.slice a1 len1 cap1] v fun e w' => e = .returned (.bool (fewH (l.take 30) 0)) ∧ Below v.heap.size v w') := Lib.hid (fun v hv => few_any a1 len1 cap1 l v HL.out hlc hcm (HRw.out.below hv) (fun d hd => (HOk.out d hd).below hv))
  have HTot := Lib.hid (fewH_tot (l.take 30) 0 (by omega))
  clear hr hok hl w1 hcm
  cases hfw : fewH (l.take 30) 0 with
  | false =>
    rw [hfw] at HFw
    go_enter Tryd.func5, Tryd.ntmps5
    go_wp2_with fail
    refine HA.out.mono ?_; rintro e v1 ⟨rfl, b1⟩
    go_wp2_with fail
    refine (HFw.out _ b1).mono ?_; rintro e v2 ⟨rfl, b2⟩
    replace b2 := below_step b1 b2
    go_wp2_with fail
    go_ret
    exact ⟨rfl, b2⟩
  | true =>
    rw [hfw] at HFw
    have HT : Hid (totH (l.take 30) ≤ 1048576) := Lib.hid (by have := HTot.out hfw; omega)
    clear hfw HTot
    by_cases hneg : a0 < 0
    · have hm1 : decide (a0 < 0) = true := by simp; omega
      go_enter Tryd.func5, Tryd.ntmps5
      go_wp2_with fail
      refine HA.out.mono ?_; rintro e v1 ⟨rfl, b1⟩
      go_wp2_with fail
      refine (HFw.out _ b1).mono ?_; rintro e v2 ⟨rfl, b2⟩
      replace b2 := below_step b1 b2
      clear b1 HA HFw
      go_wp2_with fail
      go_ret
      exact ⟨rfl, b2⟩
    · have hm1 : decide (a0 < 0) = false := by simp; omega
      by_cases hbig : 65536 < a0
      · have hm2 : decide ((65536 : Int) < a0) = true := by simp; omega
        go_enter Tryd.func5, Tryd.ntmps5
        go_wp2_with fail
        refine HA.out.mono ?_; rintro e v1 ⟨rfl, b1⟩
        go_wp2_with fail
        refine (HFw.out _ b1).mono ?_; rintro e v2 ⟨rfl, b2⟩
        replace b2 := below_step b1 b2
        clear b1 HA HFw
        go_wp2_with fail
        go_ret
        exact ⟨rfl, b2⟩
      · obtain ⟨own, rfl⟩ := Int.eq_ofNat_of_zero_le (show 0 ≤ a0 by omega)
        have hown : own ≤ 65536 := by omega
        have hm2 : decide ((65536 : Int) < own) = false := by simp; omega
        clear hneg hbig
        go_enter Tryd.func5, Tryd.ntmps5
        go_wp2_with fail
        refine HA.out.mono ?_; rintro e v1 ⟨rfl, b1⟩
        go_wp2_with fail
        refine (HFw.out _ b1).mono ?_; rintro e v2 ⟨rfl, b2⟩
        replace b2 := below_step b1 b2
        clear b1 HA HFw
        go_wp2_with fail
        refine (st_newenc (own := own) (Sts.of_below b2) hown).mono ?_; rintro e v3 ⟨ge, Fe, rfl, S3⟩
        have H3 := Lib.hid S3
        clear S3 b2
        go_wp2_with fail
        refine (st_newdec (md := 65536) (ld := 1099511627776) H3.out (by decide)).mono ?_; rintro e v4 ⟨gd, Fd, rfl, S4⟩
        have H4 := Lib.hid S4
        clear S4 H3
        have h64 : min 65536 4096 = 4096 := rfl
        simp only [h64] at H4
        clear h64
        go_wp2_with fail
        go_loopw [9] (fun vi wr => ∃ (k told least m K KD : Nat) (rowsD rowsE : List FdM) (Fd Fe : List Nat), k ≤ 30 ∧ k ≤ len1 ∧ vi = .int .i64 k ∧ Hid (Sts w wr [(Fd, DecP Fd gd 65536 1099511627776 false told rowsD KD), (Fe, EncP Fe ge own told least m rowsE K)]) ∧ Hid (32 * K ≤ totH (l.take k)) ∧ Hid (KD ≤ 12 * k + totH (l.take k)) ∧ Hid (BInv told least m rowsD rowsE)) (fun vi _ => len1 - (intOf vi).toNat)
        case atStart => exact ⟨0, _, _, _, 0, 0, [], [], Fd, Fe, by omega, by omega, rfl, H4, Lib.hid (by omega), Lib.hid (by omega), Lib.hid (BInv.start own hown)⟩
        case round =>
          clear H4
          obtain ⟨k, told, least, m, K, KD, rowsD, rowsE, Fd, Fe, hk, hkl, rfl, HS, HK, HKD, HB⟩ := hrel
          by_cases hlt : k < len1
          · have hlt' : (k : Int) < len1 := by omega
            by_cases h30 : k < 30
            · have h30' : (k : Int) < 30 := by omega
              have hlr : k < l.length := by rw [HL.out]; exact hlt
              obtain ⟨bl, off, rfl, hcs⟩ : ∃ b off, a1 = some ⟨b, off, none⟩ ∧ ∀ i, (h : i < l.length) → Rw.CE EDh w b (off + i * 3) l[i] := by
                rcases HRw.out with h | h
                · rw [h] at hlr; simp at hlr
                · exact h
              obtain ⟨c0, c1, c2⟩ := CE_dh (hcs k hlr)
              have x0 := below_cell HS.out.bel c0
              have x1 := below_cell HS.out.bel c1
              have x2 := below_cell HS.out.bel c2
              have hd := HOk.out l[k] (List.getElem_mem hlr)
              have hts := totH_succ hlr
              have htl := totH_le l (show k + 1 ≤ 30 by omega)
              have hT := HT.out
              have hK := HK.out
              have hKD := HKD.out
              have h32 := csum_len l[k].l
              have hcs1 : csum l[k].l ≤ 1048576 := by omega
              have HK1 : Hid (32 * (K + l[k].l.length) ≤ totH (l.take (k + 1))) := Lib.hid (by omega)
              have HKD1 : Hid (∀ n, n ≤ 12 + csum l[k].l → KD + n ≤ 12 * (k + 1) + totH (l.take (k + 1))) := Lib.hid (fun n hn => by omega)
              have hKb : K + l[k].l.length < 1000000 := by omega
              have hKDb : KD + (12 + csum l[k].l) ≤ 1999990 := by omega
              clear hcs c0 c1 c2 hts htl hT hK hKD HK HKD HL HRw h32
              generalize l[k] = d at *
              obtain ⟨ds, dn, da, dc, dl⟩ := d
              simp only at x0 x1 x2 hd HK1 HKD1 hcs1 hKb hKDb
              obtain ⟨hd0, hd1, hd2, hd3, hd4, hd5⟩ := hd
              simp only at hd0 hd1 hd2 hd3 hd4 hd5
              have HRl := Lib.hid hd1
              have HSh : Hid (∀ v, Below w.heap.size w v → Calls Tryd.prog 25 #[.slice da dl.length dc] v fun e w' => e = .returned (.bool (shortB dl)) ∧ Below v.heap.size v w') := Lib.hid (fun v hv => short_any da dl dc v (HRl.out.below hv) hd3 (by omega))
              clear hd1 hd2 hd5 HOk HT
              cases hsb : shortB dl with
              | false =>
                rw [hsb] at HSh
                have hs5 := st_alloc HS.out #[.bool ds, .int .i64 dn, .slice da dl.length dc] 50
                go_wp2_with fail
                have hb5 := hs5.bel
                refine (HSh.out _ hb5).mono ?_; rintro e v6 ⟨rfl, b6⟩
                have hb6 := below_step hb5 b6
                clear hs5 HS
                go_wp2_with fail
                go_ret
                exact ⟨rfl, hb6⟩
              | true =>
                rw [hsb] at HSh
                cases ds with
                | false =>
                  have hs5 := st_alloc HS.out #[.bool false, .int .i64 dn, .slice da dl.length dc] 50
                  go_wp2_with fail
                  generalize wr.alloc (.cells #[.bool false, .int .i64 dn, .slice da dl.length dc] 50) = v5 at hs5 ⊢
                  generalize wr.heap.size = bx at hs5 ⊢
                  have H5 := Lib.hid hs5
                  clear hs5 HS x0 x1 x2
                  refine (HSh.out _ H5.out.bel).mono ?_; rintro e v6 ⟨rfl, b6⟩
                  have H6 := Lib.hid (H5.out.below b6)
                  clear b6 H5 HSh
                  have y0 : v6.cell? ⟨bx, 0, none⟩ = some (.bool false) := cell_at (H6.out.is 0 rfl : BlkP _ _ _) 0
                  have y1 : v6.cell? ⟨bx, 1, none⟩ = some (.int .i64 dn) := cell_at (H6.out.is 0 rfl : BlkP _ _ _) 1
                  have y2 : v6.cell? ⟨bx, 2, none⟩ = some (.slice da dl.length dc) := cell_at (H6.out.is 0 rfl : BlkP _ _ _) 2
                  go_wp2_with fail
                  clear y0 y1 y2
                  have hshort := of_decide_eq_true hsb
                  have hen := st_encode H6.out 2 rfl HG.out da dl dc (HRl.out.below H6.out.bel) (st_old H6.out 2 rfl HRl.out fd_some) hd3 (by unfold maxLen; omega) hcs1 hKb
                  have hbk := HB.out.read dl hshort hcs1
                  have hBL := block_len told least m m dl rowsE
                  have hinv := HB.out.encode dl
                  generalize hdr told least m ++ (encList m dl rowsE).1 = B at hen hbk hBL
                  generalize (encList m dl rowsE).2 = rows2 at hen hbk hinv
                  have HBk := Lib.hid hbk
                  have HInv := Lib.hid hinv
                  have hr2 := csum_len rows2
                  have hr3 := hinv.sum
                  have hr4 := hinv.bd.1
                  clear hbk hinv HB hshort hsb
                  refine hen.mono ?_; rintro e v10 ⟨oa, oc, Fe2, rfl, S10⟩
                  have H10 := Lib.hid S10
                  clear S10 hen H6
                  simp only [List.set] at H10
                  go_wp2_with fail
                  have hq : RowP EBy oa oc B v10 := H10.out.is 0 rfl
                  have hde := st_decode H10.out 2 rfl HG.out oa B oc (rb_of_q hq.row) (fun _ b o s e hm => H10.out.apart 0 2 rfl rfl (by decide) b (by subst e; exact List.mem_singleton.mpr rfl) hm) hq.le hq.max (by omega) (by omega)
                  rw [HBk.out] at hde
                  refine hde.mono ?_; rintro e v11 ⟨pa, pc, Fd2, rfl, S11⟩
                  have H11 := Lib.hid S11
                  clear S11 hde H10 hq HBk
                  simp only [List.set] at H11
                  have z2 : v11.cell? ⟨bx, 2, none⟩ = some (.slice da dl.length dc) := cell_at (H11.out.is 2 rfl : BlkP _ _ _) 2
                  go_wp2_with fail
                  refine (st_drows H11.out 3 rfl).mono ?_; rintro e v12 ⟨b12, rfl, S12⟩
                  have H12 := Lib.hid S12
                  clear S12 H11 z2
                  go_wp2_with fail
                  refine (st_erows H12.out 5 rfl).mono ?_; rintro e v13 ⟨b13, rfl, S13⟩
                  have H13 := Lib.hid S13
                  clear S13 H12
                  have q0 : RowP EFd (some ⟨b13, 0, none⟩) rows2.length rows2 v13 := H13.out.is 0 rfl
                  have q1 : RowP EFd (some ⟨b12, 0, none⟩) rows2.length rows2 v13 := H13.out.is 1 rfl
                  have hfi := st_fields H13.out (some ⟨b12, 0, none⟩) (some ⟨b13, 0, none⟩) rows2 rows2 rows2.length rows2.length q1.row q0.row (Nat.le_refl _) (Nat.le_refl _) (by omega) (by omega)
                  rw [decide_eq_true rfl] at hfi
                  go_wp2_with fail
                  refine hfi.mono ?_; rintro e v14 ⟨rfl, S14⟩
                  have H14 := Lib.hid S14.tail.tail
                  clear S14 hfi q0 q1 H13
                  have HKD2 := Lib.hid (HKD1.out B.length hBL)
                  clear HKD1 hBL hr2 hr3 hr4
                  go_wp2_with fail
                  obtain ⟨n, hn⟩ : ∃ n, n = dl.length := ⟨_, rfl⟩
                  have HN := Lib.hid hn
                  simp only [← hn] at H14 HKD2 HK1 hKb hd3 ⊢
                  clear hn
                  go_loopw [13] (fun vj wr => ∃ j : Nat, j ≤ n ∧ vj = .int .i64 j ∧ Hid (Sts w wr [(blk pa, RowP EFd pa pc (dl.map normF)), (blk oa, RowP EBy oa oc B), ([bx], BlkP bx (.cells #[.bool false, .int .i64 dn, .slice da n dc] 50 (0, 0))), (Fd2, DecP Fd2 gd 65536 1099511627776 false m rows2 (KD + B.length)), (Fe2, EncP Fe2 ge own m m m rows2 (K + n))])) (fun vj _ => n - (intOf vj).toNat)
                  case atStart => exact ⟨0, by omega, rfl, H14⟩
                  case round =>
                    clear H14
                    obtain ⟨j, hj, rfl, HS⟩ := hrel
                    by_cases hjn : j < n
                    · have hjn' : (j : Int) < n := by omega
                      have hjl : j < dl.length := by rw [← HN.out]; exact hjn
                      have z2 : wr.cell? ⟨bx, 2, none⟩ = some (.slice da n dc) := cell_at (HS.out.is 2 rfl : BlkP _ _ _) 2
                      obtain ⟨b1, o1, rfl, c0, c1, c2⟩ := row_at HRl.out j hjl
                      have hq : RowP EFd pa pc (dl.map normF) wr := HS.out.is 0 rfl
                      obtain ⟨b2, o2, rfl, e0, e1, e2⟩ := row_at hq.row j (by rw [List.length_map]; exact hjl)
                      simp only [List.getElem_map, normF] at e0 e1 e2
                      have c0 := below_cell HS.out.bel c0
                      have c1 := below_cell HS.out.bel c1
                      have c2 := below_cell HS.out.bel c2
                      clear hq
                      generalize dl[j] = f at c0 c1 c2 e0 e1 e2
                      obtain ⟨fn, fv, fb⟩ := f
                      simp only at c0 c1 c2 e0 e1
                      have HE0 := Lib.hid e0
                      have HE1 := Lib.hid e1
                      have HE2 := Lib.hid e2
                      clear e0 e1 e2
                      have hq1 := str_eq fn
                      have hq2 := str_eq fv
                      cases fb with
                      | true =>
                        have hnv : nevF ⟨fn, fv, true⟩ = true := by simp [nevF]
                        rw [hnv] at HE2
                        clear hnv
                        have hbx := heap_alloc_new wr (.cells #[.string fn, .string fv, .bool true] 59)
                        have hbb := below_alloc wr (.cells #[.string fn, .string fv, .bool true] 59)
                        go_wp2_with fail
                        generalize wr.alloc (.cells #[.string fn, .string fv, .bool true] 59) = v15 at hbx hbb ⊢
                        have p0 := below_cell hbb HE0.out
                        have p1 := below_cell hbb HE1.out
                        have p2 := below_cell hbb HE2.out
                        have HS2 := Lib.hid (HS.out.below hbb)
                        generalize wr.heap.size = bb at hbx ⊢
                        have r0 : v15.cell? ⟨bb, 0, none⟩ = some (.string fn) := cell_at hbx 0
                        have r1 : v15.cell? ⟨bb, 1, none⟩ = some (.string fv) := cell_at hbx 1
                        have r2 : v15.cell? ⟨bb, 2, none⟩ = some (.bool true) := cell_at hbx 2
                        clear hbx hbb HS z2 c0 c1 c2 HE0 HE1 HE2
                        refine wp_region_noPanic ?_; go_quiet (fail)
                        dsimp only [NoPanic, Exit.then, Exit.inBlock]
                        have HS3 := Lib.hid (HS2.out.below (w' := v15.drewN nq) ⟨rfl, rfl, rfl, Nat.le_refl _, fun _ _ => rfl⟩)
                        clear HS2 p0 p1 p2 r0 r1 r2
                        go_wp2_with fail
                        go_roundw
                        case rel => exact ⟨j + 1, by omega, by go_num, HS3⟩
                        case measure => simp [intOf]; omega
                      | false =>
                        by_cases h1 : fn = ⟨#[97, 117, 116, 104, 111, 114, 105, 122, 97, 116, 105, 111, 110]⟩
                        · have h1b : fn.toList = [97, 117, 116, 104, 111, 114, 105, 122, 97, 116, 105, 111, 110] := (tl_iff fn _ _ rfl).mpr h1
                          have hnv : nevF ⟨fn, fv, false⟩ = true := by simp [nevF, h1]
                          clear h1
                          rw [hnv] at HE2
                          clear hnv
                          have hbx := heap_alloc_new wr (.cells #[.string fn, .string fv, .bool true] 59)
                          have hbb := below_alloc wr (.cells #[.string fn, .string fv, .bool true] 59)
                          go_wp2_with fail
                          generalize wr.alloc (.cells #[.string fn, .string fv, .bool true] 59) = v15 at hbx hbb ⊢
                          have p0 := below_cell hbb HE0.out
                          have p1 := below_cell hbb HE1.out
                          have p2 := below_cell hbb HE2.out
                          have HS2 := Lib.hid (HS.out.below hbb)
                          generalize wr.heap.size = bb at hbx ⊢
                          have r0 : v15.cell? ⟨bb, 0, none⟩ = some (.string fn) := cell_at hbx 0
                          have r1 : v15.cell? ⟨bb, 1, none⟩ = some (.string fv) := cell_at hbx 1
                          have r2 : v15.cell? ⟨bb, 2, none⟩ = some (.bool true) := cell_at hbx 2
                          clear hbx hbb HS z2 c0 c1 c2 HE0 HE1 HE2
                          refine wp_region_noPanic ?_; go_quiet (fail)
                          dsimp only [NoPanic, Exit.then, Exit.inBlock]
                          have HS3 := Lib.hid (HS2.out.below (w' := v15.drewN nq) ⟨rfl, rfl, rfl, Nat.le_refl _, fun _ _ => rfl⟩)
                          clear HS2 p0 p1 p2 r0 r1 r2
                          go_wp2_with fail
                          go_roundw
                          case rel => exact ⟨j + 1, by omega, by go_num, HS3⟩
                          case measure => simp [intOf]; omega
                        · have h1b : ¬ fn.toList = [97, 117, 116, 104, 111, 114, 105, 122, 97, 116, 105, 111, 110] := fun e => h1 ((tl_iff fn _ _ rfl).mp e)
                          have e1 : (fn.toList == [97, 117, 116, 104, 111, 114, 105, 122, 97, 116, 105, 111, 110]) = false := beq_eq_false_iff_ne.mpr h1b
                          by_cases h2 : fn = ⟨#[115, 101, 116, 45, 99, 111, 111, 107, 105, 101]⟩
                          · have h2b : fn.toList = [115, 101, 116, 45, 99, 111, 111, 107, 105, 101] := (tl_iff fn _ _ rfl).mpr h2
                            have hnv : nevF ⟨fn, fv, false⟩ = true := by simp [nevF, h2]
                            clear h1 h2
                            rw [hnv] at HE2
                            clear hnv
                            have hbx := heap_alloc_new wr (.cells #[.string fn, .string fv, .bool true] 59)
                            have hbb := below_alloc wr (.cells #[.string fn, .string fv, .bool true] 59)
                            go_wp2_with fail
                            generalize wr.alloc (.cells #[.string fn, .string fv, .bool true] 59) = v15 at hbx hbb ⊢
                            have p0 := below_cell hbb HE0.out
                            have p1 := below_cell hbb HE1.out
                            have p2 := below_cell hbb HE2.out
                            have HS2 := Lib.hid (HS.out.below hbb)
                            generalize wr.heap.size = bb at hbx ⊢
                            have r0 : v15.cell? ⟨bb, 0, none⟩ = some (.string fn) := cell_at hbx 0
                            have r1 : v15.cell? ⟨bb, 1, none⟩ = some (.string fv) := cell_at hbx 1
                            have r2 : v15.cell? ⟨bb, 2, none⟩ = some (.bool true) := cell_at hbx 2
                            clear hbx hbb HS z2 c0 c1 c2 HE0 HE1 HE2
                            refine wp_region_noPanic ?_; go_quiet (fail)
                            dsimp only [NoPanic, Exit.then, Exit.inBlock]
                            have HS3 := Lib.hid (HS2.out.below (w' := v15.drewN nq) ⟨rfl, rfl, rfl, Nat.le_refl _, fun _ _ => rfl⟩)
                            clear HS2 p0 p1 p2 r0 r1 r2
                            go_wp2_with fail
                            go_roundw
                            case rel => exact ⟨j + 1, by omega, by go_num, HS3⟩
                            case measure => simp [intOf]; omega
                          · have h2b : ¬ fn.toList = [115, 101, 116, 45, 99, 111, 111, 107, 105, 101] := fun e => h2 ((tl_iff fn _ _ rfl).mp e)
                            have e2 : (fn.toList == [115, 101, 116, 45, 99, 111, 111, 107, 105, 101]) = false := beq_eq_false_iff_ne.mpr h2b
                            have hnv : nevF ⟨fn, fv, false⟩ = false := by simp [nevF, h1, h2]
                            clear h1 h2
                            rw [hnv] at HE2
                            clear hnv
                            have hbx := heap_alloc_new wr (.cells #[.string fn, .string fv, .bool false] 59)
                            have hbb := below_alloc wr (.cells #[.string fn, .string fv, .bool false] 59)
                            go_wp2_with fail
                            generalize wr.alloc (.cells #[.string fn, .string fv, .bool false] 59) = v15 at hbx hbb ⊢
                            have p0 := below_cell hbb HE0.out
                            have p1 := below_cell hbb HE1.out
                            have p2 := below_cell hbb HE2.out
                            have HS2 := Lib.hid (HS.out.below hbb)
                            generalize wr.heap.size = bb at hbx ⊢
                            have r0 : v15.cell? ⟨bb, 0, none⟩ = some (.string fn) := cell_at hbx 0
                            have r1 : v15.cell? ⟨bb, 1, none⟩ = some (.string fv) := cell_at hbx 1
                            have r2 : v15.cell? ⟨bb, 2, none⟩ = some (.bool false) := cell_at hbx 2
                            clear hbx hbb HS z2 c0 c1 c2 HE0 HE1 HE2
                            refine wp_region_noPanic ?_; go_quiet (fail)
                            dsimp only [NoPanic, Exit.then, Exit.inBlock]
                            have HS3 := Lib.hid (HS2.out.below (w' := v15.drewN nq) ⟨rfl, rfl, rfl, Nat.le_refl _, fun _ _ => rfl⟩)
                            clear HS2 p0 p1 p2 r0 r1 r2
                            go_wp2_with fail
                            go_roundw
                            case rel => exact ⟨j + 1, by omega, by go_num, HS3⟩
                            case measure => simp [intOf]; omega
                    · have hjn' : ¬ (j : Int) < n := by omega
                      have HS9 := Lib.hid HS.out.tail.tail.tail
                      clear HS
                      go_wp2_with fail
                      go_roundw
                      case rel => exact ⟨k + 1, m, m, m, K + n, KD + B.length, rows2, rows2, Fd2, Fe2, by omega, by omega, by go_num, HS9, HK1, HKD2, HInv⟩
                      case measure => simp [intOf]; omega
                | true =>
                  by_cases hneg : dn < 0
                  · have hneg' : decide (dn < 0) = true := by simp; omega
                    have hs5 := st_alloc HS.out #[.bool true, .int .i64 dn, .slice da dl.length dc] 50
                    go_wp2_with fail
                    generalize wr.alloc (.cells #[.bool true, .int .i64 dn, .slice da dl.length dc] 50) = v5 at hs5 ⊢
                    generalize wr.heap.size = bx at hs5 ⊢
                    have H5 := Lib.hid hs5
                    clear hs5 HS x0 x1 x2
                    refine (HSh.out _ H5.out.bel).mono ?_; rintro e v6 ⟨rfl, b6⟩
                    have H6 := Lib.hid (H5.out.below b6)
                    clear b6 H5 HSh
                    have y0 : v6.cell? ⟨bx, 0, none⟩ = some (.bool true) := cell_at (H6.out.is 0 rfl : BlkP _ _ _) 0
                    have y1 : v6.cell? ⟨bx, 1, none⟩ = some (.int .i64 dn) := cell_at (H6.out.is 0 rfl : BlkP _ _ _) 1
                    have y2 : v6.cell? ⟨bx, 2, none⟩ = some (.slice da dl.length dc) := cell_at (H6.out.is 0 rfl : BlkP _ _ _) 2
                    go_wp2_with fail
                    clear y0 y2
                    refine (plimit_bad _ _ _ hneg).mono ?_; rintro e v7 ⟨rfl, b7⟩
                    have H7 := Lib.hid (H6.out.below b7)
                    clear b7 H6 y1
                    have y2 : v7.cell? ⟨bx, 2, none⟩ = some (.slice da dl.length dc) := cell_at (H7.out.is 0 rfl : BlkP _ _ _) 2
                    go_wp2_with fail
                    clear y2
                    have hshort := of_decide_eq_true hsb
                    have hen := st_encode H7.out 2 rfl HG.out da dl dc (HRl.out.below H7.out.bel) (st_old H7.out 2 rfl HRl.out fd_some) hd3 (by unfold maxLen; omega) hcs1 hKb
                    have hbk := HB.out.read dl hshort hcs1
                    have hBL := block_len told least m m dl rowsE
                    have hinv := HB.out.encode dl
                    generalize hdr told least m ++ (encList m dl rowsE).1 = B at hen hbk hBL
                    generalize (encList m dl rowsE).2 = rows2 at hen hbk hinv
                    have HBk := Lib.hid hbk
                    have HInv := Lib.hid hinv
                    have hr2 := csum_len rows2
                    have hr3 := hinv.sum
                    have hr4 := hinv.bd.1
                    clear hbk hinv HB hshort hsb
                    refine hen.mono ?_; rintro e v10 ⟨oa, oc, Fe2, rfl, S10⟩
                    have H10 := Lib.hid S10
                    clear S10 hen H7
                    simp only [List.set] at H10
                    go_wp2_with fail
                    have hq : RowP EBy oa oc B v10 := H10.out.is 0 rfl
                    have hde := st_decode H10.out 2 rfl HG.out oa B oc (rb_of_q hq.row) (fun _ b o s e hm => H10.out.apart 0 2 rfl rfl (by decide) b (by subst e; exact List.mem_singleton.mpr rfl) hm) hq.le hq.max (by omega) (by omega)
                    rw [HBk.out] at hde
                    refine hde.mono ?_; rintro e v11 ⟨pa, pc, Fd2, rfl, S11⟩
                    have H11 := Lib.hid S11
                    clear S11 hde H10 hq HBk
                    simp only [List.set] at H11
                    have z2 : v11.cell? ⟨bx, 2, none⟩ = some (.slice da dl.length dc) := cell_at (H11.out.is 2 rfl : BlkP _ _ _) 2
                    go_wp2_with fail
                    refine (st_drows H11.out 3 rfl).mono ?_; rintro e v12 ⟨b12, rfl, S12⟩
                    have H12 := Lib.hid S12
                    clear S12 H11 z2
                    go_wp2_with fail
                    refine (st_erows H12.out 5 rfl).mono ?_; rintro e v13 ⟨b13, rfl, S13⟩
                    have H13 := Lib.hid S13
                    clear S13 H12
                    have q0 : RowP EFd (some ⟨b13, 0, none⟩) rows2.length rows2 v13 := H13.out.is 0 rfl
                    have q1 : RowP EFd (some ⟨b12, 0, none⟩) rows2.length rows2 v13 := H13.out.is 1 rfl
                    have hfi := st_fields H13.out (some ⟨b12, 0, none⟩) (some ⟨b13, 0, none⟩) rows2 rows2 rows2.length rows2.length q1.row q0.row (Nat.le_refl _) (Nat.le_refl _) (by omega) (by omega)
                    rw [decide_eq_true rfl] at hfi
                    go_wp2_with fail
                    refine hfi.mono ?_; rintro e v14 ⟨rfl, S14⟩
                    have H14 := Lib.hid S14.tail.tail
                    clear S14 hfi q0 q1 H13
                    have HKD2 := Lib.hid (HKD1.out B.length hBL)
                    clear HKD1 hBL hr2 hr3 hr4
                    go_wp2_with fail
                    obtain ⟨n, hn⟩ : ∃ n, n = dl.length := ⟨_, rfl⟩
                    have HN := Lib.hid hn
                    simp only [← hn] at H14 HKD2 HK1 hKb hd3 ⊢
                    clear hn
                    go_loopw [13] (fun vj wr => ∃ j : Nat, j ≤ n ∧ vj = .int .i64 j ∧ Hid (Sts w wr [(blk pa, RowP EFd pa pc (dl.map normF)), (blk oa, RowP EBy oa oc B), ([bx], BlkP bx (.cells #[.bool true, .int .i64 dn, .slice da n dc] 50 (0, 0))), (Fd2, DecP Fd2 gd 65536 1099511627776 false m rows2 (KD + B.length)), (Fe2, EncP Fe2 ge own m m m rows2 (K + n))])) (fun vj _ => n - (intOf vj).toNat)
                    case atStart => exact ⟨0, by omega, rfl, H14⟩
                    case round =>
                      clear H14
                      obtain ⟨j, hj, rfl, HS⟩ := hrel
                      by_cases hjn : j < n
                      · have hjn' : (j : Int) < n := by omega
                        have hjl : j < dl.length := by rw [← HN.out]; exact hjn
                        have z2 : wr.cell? ⟨bx, 2, none⟩ = some (.slice da n dc) := cell_at (HS.out.is 2 rfl : BlkP _ _ _) 2
                        obtain ⟨b1, o1, rfl, c0, c1, c2⟩ := row_at HRl.out j hjl
                        have hq : RowP EFd pa pc (dl.map normF) wr := HS.out.is 0 rfl
                        obtain ⟨b2, o2, rfl, e0, e1, e2⟩ := row_at hq.row j (by rw [List.length_map]; exact hjl)
                        simp only [List.getElem_map, normF] at e0 e1 e2
                        have c0 := below_cell HS.out.bel c0
                        have c1 := below_cell HS.out.bel c1
                        have c2 := below_cell HS.out.bel c2
                        clear hq
                        generalize dl[j] = f at c0 c1 c2 e0 e1 e2
                        obtain ⟨fn, fv, fb⟩ := f
                        simp only at c0 c1 c2 e0 e1
                        have HE0 := Lib.hid e0
                        have HE1 := Lib.hid e1
                        have HE2 := Lib.hid e2
                        clear e0 e1 e2
                        have hq1 := str_eq fn
                        have hq2 := str_eq fv
                        cases fb with
                        | true =>
                          have hnv : nevF ⟨fn, fv, true⟩ = true := by simp [nevF]
                          rw [hnv] at HE2
                          clear hnv
                          have hbx := heap_alloc_new wr (.cells #[.string fn, .string fv, .bool true] 59)
                          have hbb := below_alloc wr (.cells #[.string fn, .string fv, .bool true] 59)
                          go_wp2_with fail
                          generalize wr.alloc (.cells #[.string fn, .string fv, .bool true] 59) = v15 at hbx hbb ⊢
                          have p0 := below_cell hbb HE0.out
                          have p1 := below_cell hbb HE1.out
                          have p2 := below_cell hbb HE2.out
                          have HS2 := Lib.hid (HS.out.below hbb)
                          generalize wr.heap.size = bb at hbx ⊢
                          have r0 : v15.cell? ⟨bb, 0, none⟩ = some (.string fn) := cell_at hbx 0
                          have r1 : v15.cell? ⟨bb, 1, none⟩ = some (.string fv) := cell_at hbx 1
                          have r2 : v15.cell? ⟨bb, 2, none⟩ = some (.bool true) := cell_at hbx 2
                          clear hbx hbb HS z2 c0 c1 c2 HE0 HE1 HE2
                          refine wp_region_noPanic ?_; go_quiet (fail)
                          dsimp only [NoPanic, Exit.then, Exit.inBlock]
                          have HS3 := Lib.hid (HS2.out.below (w' := v15.drewN nq) ⟨rfl, rfl, rfl, Nat.le_refl _, fun _ _ => rfl⟩)
                          clear HS2 p0 p1 p2 r0 r1 r2
                          go_wp2_with fail
                          go_roundw
                          case rel => exact ⟨j + 1, by omega, by go_num, HS3⟩
                          case measure => simp [intOf]; omega
                        | false =>
                          by_cases h1 : fn = ⟨#[97, 117, 116, 104, 111, 114, 105, 122, 97, 116, 105, 111, 110]⟩
                          · have h1b : fn.toList = [97, 117, 116, 104, 111, 114, 105, 122, 97, 116, 105, 111, 110] := (tl_iff fn _ _ rfl).mpr h1
                            have hnv : nevF ⟨fn, fv, false⟩ = true := by simp [nevF, h1]
                            clear h1
                            rw [hnv] at HE2
                            clear hnv
                            have hbx := heap_alloc_new wr (.cells #[.string fn, .string fv, .bool true] 59)
                            have hbb := below_alloc wr (.cells #[.string fn, .string fv, .bool true] 59)
                            go_wp2_with fail
                            generalize wr.alloc (.cells #[.string fn, .string fv, .bool true] 59) = v15 at hbx hbb ⊢
                            have p0 := below_cell hbb HE0.out
                            have p1 := below_cell hbb HE1.out
                            have p2 := below_cell hbb HE2.out
                            have HS2 := Lib.hid (HS.out.below hbb)
                            generalize wr.heap.size = bb at hbx ⊢
                            have r0 : v15.cell? ⟨bb, 0, none⟩ = some (.string fn) := cell_at hbx 0
                            have r1 : v15.cell? ⟨bb, 1, none⟩ = some (.string fv) := cell_at hbx 1
                            have r2 : v15.cell? ⟨bb, 2, none⟩ = some (.bool true) := cell_at hbx 2
                            clear hbx hbb HS z2 c0 c1 c2 HE0 HE1 HE2
                            refine wp_region_noPanic ?_; go_quiet (fail)
                            dsimp only [NoPanic, Exit.then, Exit.inBlock]
                            have HS3 := Lib.hid (HS2.out.below (w' := v15.drewN nq) ⟨rfl, rfl, rfl, Nat.le_refl _, fun _ _ => rfl⟩)
                            clear HS2 p0 p1 p2 r0 r1 r2
                            go_wp2_with fail
                            go_roundw
                            case rel => exact ⟨j + 1, by omega, by go_num, HS3⟩
                            case measure => simp [intOf]; omega
                          · have h1b : ¬ fn.toList = [97, 117, 116, 104, 111, 114, 105, 122, 97, 116, 105, 111, 110] := fun e => h1 ((tl_iff fn _ _ rfl).mp e)
                            have e1 : (fn.toList == [97, 117, 116, 104, 111, 114, 105, 122, 97, 116, 105, 111, 110]) = false := beq_eq_false_iff_ne.mpr h1b
                            by_cases h2 : fn = ⟨#[115, 101, 116, 45, 99, 111, 111, 107, 105, 101]⟩
                            · have h2b : fn.toList = [115, 101, 116, 45, 99, 111, 111, 107, 105, 101] := (tl_iff fn _ _ rfl).mpr h2
                              have hnv : nevF ⟨fn, fv, false⟩ = true := by simp [nevF, h2]
                              clear h1 h2
                              rw [hnv] at HE2
                              clear hnv
                              have hbx := heap_alloc_new wr (.cells #[.string fn, .string fv, .bool true] 59)
                              have hbb := below_alloc wr (.cells #[.string fn, .string fv, .bool true] 59)
                              go_wp2_with fail
                              generalize wr.alloc (.cells #[.string fn, .string fv, .bool true] 59) = v15 at hbx hbb ⊢
                              have p0 := below_cell hbb HE0.out
                              have p1 := below_cell hbb HE1.out
                              have p2 := below_cell hbb HE2.out
                              have HS2 := Lib.hid (HS.out.below hbb)
                              generalize wr.heap.size = bb at hbx ⊢
                              have r0 : v15.cell? ⟨bb, 0, none⟩ = some (.string fn) := cell_at hbx 0
                              have r1 : v15.cell? ⟨bb, 1, none⟩ = some (.string fv) := cell_at hbx 1
                              have r2 : v15.cell? ⟨bb, 2, none⟩ = some (.bool true) := cell_at hbx 2
                              clear hbx hbb HS z2 c0 c1 c2 HE0 HE1 HE2
                              refine wp_region_noPanic ?_; go_quiet (fail)
                              dsimp only [NoPanic, Exit.then, Exit.inBlock]
                              have HS3 := Lib.hid (HS2.out.below (w' := v15.drewN nq) ⟨rfl, rfl, rfl, Nat.le_refl _, fun _ _ => rfl⟩)
                              clear HS2 p0 p1 p2 r0 r1 r2
                              go_wp2_with fail
                              go_roundw
                              case rel => exact ⟨j + 1, by omega, by go_num, HS3⟩
                              case measure => simp [intOf]; omega
                            · have h2b : ¬ fn.toList = [115, 101, 116, 45, 99, 111, 111, 107, 105, 101] := fun e => h2 ((tl_iff fn _ _ rfl).mp e)
                              have e2 : (fn.toList == [115, 101, 116, 45, 99, 111, 111, 107, 105, 101]) = false := beq_eq_false_iff_ne.mpr h2b
                              have hnv : nevF ⟨fn, fv, false⟩ = false := by simp [nevF, h1, h2]
                              clear h1 h2
                              rw [hnv] at HE2
                              clear hnv
                              have hbx := heap_alloc_new wr (.cells #[.string fn, .string fv, .bool false] 59)
                              have hbb := below_alloc wr (.cells #[.string fn, .string fv, .bool false] 59)
                              go_wp2_with fail
                              generalize wr.alloc (.cells #[.string fn, .string fv, .bool false] 59) = v15 at hbx hbb ⊢
                              have p0 := below_cell hbb HE0.out
                              have p1 := below_cell hbb HE1.out
                              have p2 := below_cell hbb HE2.out
                              have HS2 := Lib.hid (HS.out.below hbb)
                              generalize wr.heap.size = bb at hbx ⊢
                              have r0 : v15.cell? ⟨bb, 0, none⟩ = some (.string fn) := cell_at hbx 0
                              have r1 : v15.cell? ⟨bb, 1, none⟩ = some (.string fv) := cell_at hbx 1
                              have r2 : v15.cell? ⟨bb, 2, none⟩ = some (.bool false) := cell_at hbx 2
                              clear hbx hbb HS z2 c0 c1 c2 HE0 HE1 HE2
                              refine wp_region_noPanic ?_; go_quiet (fail)
                              dsimp only [NoPanic, Exit.then, Exit.inBlock]
                              have HS3 := Lib.hid (HS2.out.below (w' := v15.drewN nq) ⟨rfl, rfl, rfl, Nat.le_refl _, fun _ _ => rfl⟩)
                              clear HS2 p0 p1 p2 r0 r1 r2
                              go_wp2_with fail
                              go_roundw
                              case rel => exact ⟨j + 1, by omega, by go_num, HS3⟩
                              case measure => simp [intOf]; omega
                      · have hjn' : ¬ (j : Int) < n := by omega
                        have HS9 := Lib.hid HS.out.tail.tail.tail
                        clear HS
                        go_wp2_with fail
                        go_roundw
                        case rel => exact ⟨k + 1, m, m, m, K + n, KD + B.length, rows2, rows2, Fd2, Fe2, by omega, by omega, by go_num, HS9, HK1, HKD2, HInv⟩
                        case measure => simp [intOf]; omega
                  · obtain ⟨z, rfl⟩ := Int.eq_ofNat_of_zero_le (show 0 ≤ dn by omega)
                    have hs5 := st_alloc HS.out #[.bool true, .int .i64 z, .slice da dl.length dc] 50
                    go_wp2_with fail
                    generalize wr.alloc (.cells #[.bool true, .int .i64 z, .slice da dl.length dc] 50) = v5 at hs5 ⊢
                    generalize wr.heap.size = bx at hs5 ⊢
                    have H5 := Lib.hid hs5
                    clear hs5 HS x0 x1 x2
                    refine (HSh.out _ H5.out.bel).mono ?_; rintro e v6 ⟨rfl, b6⟩
                    have H6 := Lib.hid (H5.out.below b6)
                    clear b6 H5 HSh
                    have y0 : v6.cell? ⟨bx, 0, none⟩ = some (.bool true) := cell_at (H6.out.is 0 rfl : BlkP _ _ _) 0
                    have y1 : v6.cell? ⟨bx, 1, none⟩ = some (.int .i64 z) := cell_at (H6.out.is 0 rfl : BlkP _ _ _) 1
                    have y2 : v6.cell? ⟨bx, 2, none⟩ = some (.slice da dl.length dc) := cell_at (H6.out.is 0 rfl : BlkP _ _ _) 2
                    go_wp2_with fail
                    clear y0 y2
                    refine (st_limit H6.out 2 rfl z).mono ?_; rintro e v7 ⟨rfl, Fe1, S7⟩
                    have H7 := Lib.hid S7
                    clear S7 H6 y1
                    simp only [List.set] at H7
                    have HB7 := Lib.hid (HB.out.limit (n := min own z) (by omega))
                    generalize fit (min own z) rowsE = rowsN at H7 HB7
                    generalize min least (min own z) = leastN at H7 HB7
                    generalize min own z = mN at H7 HB7
                    have y2 : v7.cell? ⟨bx, 2, none⟩ = some (.slice da dl.length dc) := cell_at (H7.out.is 0 rfl : BlkP _ _ _) 2
                    go_wp2_with fail
                    clear y2 HB
                    have hshort := of_decide_eq_true hsb
                    have hen := st_encode H7.out 2 rfl HG.out da dl dc (HRl.out.below H7.out.bel) (st_old H7.out 2 rfl HRl.out fd_some) hd3 (by unfold maxLen; omega) hcs1 hKb
                    have hbk := HB7.out.read dl hshort hcs1
                    have hBL := block_len told leastN mN mN dl rowsN
                    have hinv := HB7.out.encode dl
                    generalize hdr told leastN mN ++ (encList mN dl rowsN).1 = B at hen hbk hBL
                    generalize (encList mN dl rowsN).2 = rows2 at hen hbk hinv
                    have HBk := Lib.hid hbk
                    have HInv := Lib.hid hinv
                    have hr2 := csum_len rows2
                    have hr3 := hinv.sum
                    have hr4 := hinv.bd.1
                    clear hbk hinv HB7 hshort hsb
                    refine hen.mono ?_; rintro e v10 ⟨oa, oc, Fe2, rfl, S10⟩
                    have H10 := Lib.hid S10
                    clear S10 hen H7
                    simp only [List.set] at H10
                    go_wp2_with fail
                    have hq : RowP EBy oa oc B v10 := H10.out.is 0 rfl
                    have hde := st_decode H10.out 2 rfl HG.out oa B oc (rb_of_q hq.row) (fun _ b o s e hm => H10.out.apart 0 2 rfl rfl (by decide) b (by subst e; exact List.mem_singleton.mpr rfl) hm) hq.le hq.max (by omega) (by omega)
                    rw [HBk.out] at hde
                    refine hde.mono ?_; rintro e v11 ⟨pa, pc, Fd2, rfl, S11⟩
                    have H11 := Lib.hid S11
                    clear S11 hde H10 hq HBk
                    simp only [List.set] at H11
                    have z2 : v11.cell? ⟨bx, 2, none⟩ = some (.slice da dl.length dc) := cell_at (H11.out.is 2 rfl : BlkP _ _ _) 2
                    go_wp2_with fail
                    refine (st_drows H11.out 3 rfl).mono ?_; rintro e v12 ⟨b12, rfl, S12⟩
                    have H12 := Lib.hid S12
                    clear S12 H11 z2
                    go_wp2_with fail
                    refine (st_erows H12.out 5 rfl).mono ?_; rintro e v13 ⟨b13, rfl, S13⟩
                    have H13 := Lib.hid S13
                    clear S13 H12
                    have q0 : RowP EFd (some ⟨b13, 0, none⟩) rows2.length rows2 v13 := H13.out.is 0 rfl
                    have q1 : RowP EFd (some ⟨b12, 0, none⟩) rows2.length rows2 v13 := H13.out.is 1 rfl
                    have hfi := st_fields H13.out (some ⟨b12, 0, none⟩) (some ⟨b13, 0, none⟩) rows2 rows2 rows2.length rows2.length q1.row q0.row (Nat.le_refl _) (Nat.le_refl _) (by omega) (by omega)
                    rw [decide_eq_true rfl] at hfi
                    go_wp2_with fail
                    refine hfi.mono ?_; rintro e v14 ⟨rfl, S14⟩
                    have H14 := Lib.hid S14.tail.tail
                    clear S14 hfi q0 q1 H13
                    have HKD2 := Lib.hid (HKD1.out B.length hBL)
                    clear HKD1 hBL hr2 hr3 hr4
                    go_wp2_with fail
                    obtain ⟨n, hn⟩ : ∃ n, n = dl.length := ⟨_, rfl⟩
                    have HN := Lib.hid hn
                    simp only [← hn] at H14 HKD2 HK1 hKb hd3 ⊢
                    clear hn
                    go_loopw [13] (fun vj wr => ∃ j : Nat, j ≤ n ∧ vj = .int .i64 j ∧ Hid (Sts w wr [(blk pa, RowP EFd pa pc (dl.map normF)), (blk oa, RowP EBy oa oc B), ([bx], BlkP bx (.cells #[.bool true, .int .i64 z, .slice da n dc] 50 (0, 0))), (Fd2, DecP Fd2 gd 65536 1099511627776 false mN rows2 (KD + B.length)), (Fe2, EncP Fe2 ge own mN mN mN rows2 (K + n))])) (fun vj _ => n - (intOf vj).toNat)
                    case atStart => exact ⟨0, by omega, rfl, H14⟩
                    case round =>
                      clear H14
                      obtain ⟨j, hj, rfl, HS⟩ := hrel
                      by_cases hjn : j < n
                      · have hjn' : (j : Int) < n := by omega
                        have hjl : j < dl.length := by rw [← HN.out]; exact hjn
                        have z2 : wr.cell? ⟨bx, 2, none⟩ = some (.slice da n dc) := cell_at (HS.out.is 2 rfl : BlkP _ _ _) 2
                        obtain ⟨b1, o1, rfl, c0, c1, c2⟩ := row_at HRl.out j hjl
                        have hq : RowP EFd pa pc (dl.map normF) wr := HS.out.is 0 rfl
                        obtain ⟨b2, o2, rfl, e0, e1, e2⟩ := row_at hq.row j (by rw [List.length_map]; exact hjl)
                        simp only [List.getElem_map, normF] at e0 e1 e2
                        have c0 := below_cell HS.out.bel c0
                        have c1 := below_cell HS.out.bel c1
                        have c2 := below_cell HS.out.bel c2
                        clear hq
                        generalize dl[j] = f at c0 c1 c2 e0 e1 e2
                        obtain ⟨fn, fv, fb⟩ := f
                        simp only at c0 c1 c2 e0 e1
                        have HE0 := Lib.hid e0
                        have HE1 := Lib.hid e1
                        have HE2 := Lib.hid e2
                        clear e0 e1 e2
                        have hq1 := str_eq fn
                        have hq2 := str_eq fv
                        cases fb with
                        | true =>
                          have hnv : nevF ⟨fn, fv, true⟩ = true := by simp [nevF]
                          rw [hnv] at HE2
                          clear hnv
                          have hbx := heap_alloc_new wr (.cells #[.string fn, .string fv, .bool true] 59)
                          have hbb := below_alloc wr (.cells #[.string fn, .string fv, .bool true] 59)
                          go_wp2_with fail
                          generalize wr.alloc (.cells #[.string fn, .string fv, .bool true] 59) = v15 at hbx hbb ⊢
                          have p0 := below_cell hbb HE0.out
                          have p1 := below_cell hbb HE1.out
                          have p2 := below_cell hbb HE2.out
                          have HS2 := Lib.hid (HS.out.below hbb)
                          generalize wr.heap.size = bb at hbx ⊢
                          have r0 : v15.cell? ⟨bb, 0, none⟩ = some (.string fn) := cell_at hbx 0
                          have r1 : v15.cell? ⟨bb, 1, none⟩ = some (.string fv) := cell_at hbx 1
                          have r2 : v15.cell? ⟨bb, 2, none⟩ = some (.bool true) := cell_at hbx 2
                          clear hbx hbb HS z2 c0 c1 c2 HE0 HE1 HE2
                          refine wp_region_noPanic ?_; go_quiet (fail)
                          dsimp only [NoPanic, Exit.then, Exit.inBlock]
                          have HS3 := Lib.hid (HS2.out.below (w' := v15.drewN nq) ⟨rfl, rfl, rfl, Nat.le_refl _, fun _ _ => rfl⟩)
                          clear HS2 p0 p1 p2 r0 r1 r2
                          go_wp2_with fail
                          go_roundw
                          case rel => exact ⟨j + 1, by omega, by go_num, HS3⟩
                          case measure => simp [intOf]; omega
                        | false =>
                          by_cases h1 : fn = ⟨#[97, 117, 116, 104, 111, 114, 105, 122, 97, 116, 105, 111, 110]⟩
                          · have h1b : fn.toList = [97, 117, 116, 104, 111, 114, 105, 122, 97, 116, 105, 111, 110] := (tl_iff fn _ _ rfl).mpr h1
                            have hnv : nevF ⟨fn, fv, false⟩ = true := by simp [nevF, h1]
                            clear h1
                            rw [hnv] at HE2
                            clear hnv
                            have hbx := heap_alloc_new wr (.cells #[.string fn, .string fv, .bool true] 59)
                            have hbb := below_alloc wr (.cells #[.string fn, .string fv, .bool true] 59)
                            go_wp2_with fail
                            generalize wr.alloc (.cells #[.string fn, .string fv, .bool true] 59) = v15 at hbx hbb ⊢
                            have p0 := below_cell hbb HE0.out
                            have p1 := below_cell hbb HE1.out
                            have p2 := below_cell hbb HE2.out
                            have HS2 := Lib.hid (HS.out.below hbb)
                            generalize wr.heap.size = bb at hbx ⊢
                            have r0 : v15.cell? ⟨bb, 0, none⟩ = some (.string fn) := cell_at hbx 0
                            have r1 : v15.cell? ⟨bb, 1, none⟩ = some (.string fv) := cell_at hbx 1
                            have r2 : v15.cell? ⟨bb, 2, none⟩ = some (.bool true) := cell_at hbx 2
                            clear hbx hbb HS z2 c0 c1 c2 HE0 HE1 HE2
                            refine wp_region_noPanic ?_; go_quiet (fail)
                            dsimp only [NoPanic, Exit.then, Exit.inBlock]
                            have HS3 := Lib.hid (HS2.out.below (w' := v15.drewN nq) ⟨rfl, rfl, rfl, Nat.le_refl _, fun _ _ => rfl⟩)
                            clear HS2 p0 p1 p2 r0 r1 r2
                            go_wp2_with fail
                            go_roundw
                            case rel => exact ⟨j + 1, by omega, by go_num, HS3⟩
                            case measure => simp [intOf]; omega
                          · have h1b : ¬ fn.toList = [97, 117, 116, 104, 111, 114, 105, 122, 97, 116, 105, 111, 110] := fun e => h1 ((tl_iff fn _ _ rfl).mp e)
                            have e1 : (fn.toList == [97, 117, 116, 104, 111, 114, 105, 122, 97, 116, 105, 111, 110]) = false := beq_eq_false_iff_ne.mpr h1b
                            by_cases h2 : fn = ⟨#[115, 101, 116, 45, 99, 111, 111, 107, 105, 101]⟩
                            · have h2b : fn.toList = [115, 101, 116, 45, 99, 111, 111, 107, 105, 101] := (tl_iff fn _ _ rfl).mpr h2
                              have hnv : nevF ⟨fn, fv, false⟩ = true := by simp [nevF, h2]
                              clear h1 h2
                              rw [hnv] at HE2
                              clear hnv
                              have hbx := heap_alloc_new wr (.cells #[.string fn, .string fv, .bool true] 59)
                              have hbb := below_alloc wr (.cells #[.string fn, .string fv, .bool true] 59)
                              go_wp2_with fail
                              generalize wr.alloc (.cells #[.string fn, .string fv, .bool true] 59) = v15 at hbx hbb ⊢
                              have p0 := below_cell hbb HE0.out
                              have p1 := below_cell hbb HE1.out
                              have p2 := below_cell hbb HE2.out
                              have HS2 := Lib.hid (HS.out.below hbb)
                              generalize wr.heap.size = bb at hbx ⊢
                              have r0 : v15.cell? ⟨bb, 0, none⟩ = some (.string fn) := cell_at hbx 0
                              have r1 : v15.cell? ⟨bb, 1, none⟩ = some (.string fv) := cell_at hbx 1
                              have r2 : v15.cell? ⟨bb, 2, none⟩ = some (.bool true) := cell_at hbx 2
                              clear hbx hbb HS z2 c0 c1 c2 HE0 HE1 HE2
                              refine wp_region_noPanic ?_; go_quiet (fail)
                              dsimp only [NoPanic, Exit.then, Exit.inBlock]
                              have HS3 := Lib.hid (HS2.out.below (w' := v15.drewN nq) ⟨rfl, rfl, rfl, Nat.le_refl _, fun _ _ => rfl⟩)
                              clear HS2 p0 p1 p2 r0 r1 r2
                              go_wp2_with fail
                              go_roundw
                              case rel => exact ⟨j + 1, by omega, by go_num, HS3⟩
                              case measure => simp [intOf]; omega
                            · have h2b : ¬ fn.toList = [115, 101, 116, 45, 99, 111, 111, 107, 105, 101] := fun e => h2 ((tl_iff fn _ _ rfl).mp e)
                              have e2 : (fn.toList == [115, 101, 116, 45, 99, 111, 111, 107, 105, 101]) = false := beq_eq_false_iff_ne.mpr h2b
                              have hnv : nevF ⟨fn, fv, false⟩ = false := by simp [nevF, h1, h2]
                              clear h1 h2
                              rw [hnv] at HE2
                              clear hnv
                              have hbx := heap_alloc_new wr (.cells #[.string fn, .string fv, .bool false] 59)
                              have hbb := below_alloc wr (.cells #[.string fn, .string fv, .bool false] 59)
                              go_wp2_with fail
                              generalize wr.alloc (.cells #[.string fn, .string fv, .bool false] 59) = v15 at hbx hbb ⊢
                              have p0 := below_cell hbb HE0.out
                              have p1 := below_cell hbb HE1.out
                              have p2 := below_cell hbb HE2.out
                              have HS2 := Lib.hid (HS.out.below hbb)
                              generalize wr.heap.size = bb at hbx ⊢
                              have r0 : v15.cell? ⟨bb, 0, none⟩ = some (.string fn) := cell_at hbx 0
                              have r1 : v15.cell? ⟨bb, 1, none⟩ = some (.string fv) := cell_at hbx 1
                              have r2 : v15.cell? ⟨bb, 2, none⟩ = some (.bool false) := cell_at hbx 2
                              clear hbx hbb HS z2 c0 c1 c2 HE0 HE1 HE2
                              refine wp_region_noPanic ?_; go_quiet (fail)
                              dsimp only [NoPanic, Exit.then, Exit.inBlock]
                              have HS3 := Lib.hid (HS2.out.below (w' := v15.drewN nq) ⟨rfl, rfl, rfl, Nat.le_refl _, fun _ _ => rfl⟩)
                              clear HS2 p0 p1 p2 r0 r1 r2
                              go_wp2_with fail
                              go_roundw
                              case rel => exact ⟨j + 1, by omega, by go_num, HS3⟩
                              case measure => simp [intOf]; omega
                      · have hjn' : ¬ (j : Int) < n := by omega
                        have HS9 := Lib.hid HS.out.tail.tail.tail
                        clear HS
                        go_wp2_with fail
                        go_roundw
                        case rel => exact ⟨k + 1, mN, mN, mN, K + n, KD + B.length, rows2, rows2, Fd2, Fe2, by omega, by omega, by go_num, HS9, HK1, HKD2, HInv⟩
                        case measure => simp [intOf]; omega
            · have h30' : ¬ (k : Int) < 30 := by omega
              have hb9 := HS.out.bel
              clear HS
              go_wp2_with fail
              go_ret
              exact ⟨rfl, hb9⟩
          · have hlt' : ¬ (k : Int) < len1 := by omega
            have hb9 := HS.out.bel
            clear HS
            go_wp2_with fail
            go_ret
            exact ⟨rfl, hb9⟩


noncomputable def laidWorld (os : Os) : World :=
  { World.holding Tryd.prog os ⟨#[], #[], []⟩ with heap := (((World.holding Tryd.prog os ⟨#[], #[], []⟩).heap).modify 0 fun
      | .cells _ t frozen => .cells #[.int .i64 0, .int .u32 0, .int .i64 0, .int .i64 0, .int .u32 0, .int .i64 0, .int .i64 0, .int .u32 0, .int .i64 0, .int .i64 0, .int .u32 0, .int .i64 0, .int .i64 0, .int .u32 0, .int .i64 0, .int .i64 10, .int .u32 0, .int .i64 0, .int .i64 26, .int .u32 20, .int .i64 10, .int .i64 32, .int .u32 92, .int .i64 36, .int .i64 6, .int .u32 248, .int .i64 68, .int .i64 0, .int .u32 0, .int .i64 0, .int .i64 5, .int .u32 1016, .int .i64 74, .int .i64 3, .int .u32 2042, .int .i64 79, .int .i64 2, .int .u32 4090, .int .i64 82, .int .i64 6, .int .u32 8184, .int .i64 84, .int .i64 2, .int .u32 16380, .int .i64 90, .int .i64 3, .int .u32 32764, .int .i64 92, .int .i64 0, .int .u32 0, .int .i64 0, .int .i64 0, .int .u32 0, .int .i64 0, .int .i64 0, .int .u32 0, .int .i64 0, .int .i64 3, .int .u32 524272, .int .i64 95, .int .i64 8, .int .u32 1048550, .int .i64 98, .int .i64 13, .int .u32 2097116, .int .i64 106, .int .i64 26, .int .u32 4194258, .int .i64 119, .int .i64 29, .int .u32 8388568, .int .i64 145, .int .i64 12, .int .u32 16777194, .int .i64 174, .int .i64 4, .int .u32 33554412, .int .i64 186, .int .i64 15, .int .u32 67108832, .int .i64 190, .int .i64 19, .int .u32 134217694, .int .i64 205, .int .i64 29, .int .u32 268435426, .int .i64 224, .int .i64 0, .int .u32 0, .int .i64 0, .int .i64 4, .int .u32 1073741820, .int .i64 253] t frozen
      | o => o) }
theorem laid_met (os : Os) : laidMet Tryd.prog Rows.hpackBackRow.laid ((laidWorld os).forCall (fun _ _ => 0) ⟨#[], #[.int .i64 0, .slice none 0 0], []⟩).memory :=
  laidMet_of_run' 8 (by kernel_rfl) (by kernel_rfl)
theorem reads (os : Os) {H : Type} (enc : TypeId × Value → H) : ∃ places, DataW.whole enc Tryd.prog ((laidWorld os).forCall (fun _ _ => 0) ⟨#[], #[.int .i64 0, .slice none 0 0], []⟩).memory Tryd.f5.params.toList Rows.hpackBackSpec.vars false (#[.int .i64 0, .slice none 0 0] : Array Value).toList 8 = some ([.lit (.int .i64 0), .nil], [], places) :=
  ⟨[], by kernel_rfl⟩

set_option maxRecDepth 100000 in
theorem lifted (os : Os) (started : os.Started) (H : Type) (enc : TypeId × Value → H) (F : Stop.Interp) :
    ReturnsInHanded {} Tryd.checked os 5 .any ((OpenSpec.ofChange Rows.hpackBackSpec).preRow enc Tryd.prog Tryd.f5 Rows.hpackBackRow.domain false Rows.hpackBackRow.laid) (((OpenSpec.ofChange Rows.hpackBackSpec).at F).post enc Tryd.prog Tryd.f5 false true false false) := by
  obtain ⟨places, hx⟩ := reads os enc
  refine returnsInHanded_of_row (C := Tryd.checked) (s := OpenSpec.ofChange Rows.hpackBackSpec) own started (by kernel_rfl) Tryd.func5
    (witness_row_at (enc := enc) (C := Tryd.checked) false (laidWorld os) #[.int .i64 0, .slice none 0 0] rfl (by kernel_rfl) (by kernel_rfl) (by kernel_rfl)
      (OpenSpec.preRow_of_cond 8 hx (by kernel_rfl) (fun k hk => by cases hk) (by kernel_rfl) (laid_met os))) ?_
  intro W base args ds gs before hval0 hW hcnd _ hsz0 hL _ _
  have hsz : (DataW.weightsEach Tryd.prog (Tryd.f5.params.toList ++ Rows.hpackBackSpec.plain.varTypes Tryd.prog) (ds ++ gs)).all (· ≤ reachBytes) = true := hsz0
  have hval : ∀ (j : Nat) t v, Tryd.f5.params[j]? = some t → args[j]? = some v → Value.okWide Tryd.prog W .any base t v := hval0
  have hW' := hW
  obtain ⟨p, q, hA0, hV, rfl, hfz, hnd⟩ := hW
  have hA : DataW.TrodAll enc Tryd.prog W 0 (fun _ => true) true Tryd.f5.params.toList args.toList ds p := hA0
  rw [Tryd.params5] at hA hval hsz
  obtain ⟨v0, vs0, d0, ds0, p0, q0, hargs, rfl, rfl, h0, t0⟩ := trodAll_cons hA
  obtain ⟨v1, vs1, d1, ds1, p1, q1, rfl, rfl, rfl, h1, t1⟩ := trodAll_cons t0
  obtain ⟨rfl, rfl, rfl⟩ := trodAll_nil t1
  obtain rfl : args = #[v0, v1] := by cases args; simp_all
  obtain ⟨rfl, rfl⟩ := trodVars_none hV
  have k0 := h0
  have lt0 : ∀ x ∈ p0, x.block < W.heap.size := by obtain ⟨m, hm⟩ := k0; exact DataW.trod_lt m _ _ _ hm
  obtain ⟨a0, rfl, rfl, rfl, w0⟩ := open_int Tryd.underlying3 (hval 0 3 v0 rfl rfl) h0
  have k1 := h1
  have lt1 : ∀ x ∈ p1, x.block < W.heap.size := by obtain ⟨m, hm⟩ := k1; exact DataW.trod_lt m _ _ _ hm
  obtain ⟨a1, len1, cap1, rfl⟩ := okWide_slice Tryd.underlying42 (hval 1 42 v1 rfl rfl)
  obtain ⟨fuel1, hf1⟩ := h1
  have ok1 : Arg.AllOk W [.slc 40 [.bool, .int .i64, .slc 40 [.str, .str, .bool]]] [.slice a1 len1 cap1] := Arg.trod_leaves 9 42 [.slc 40 [.bool, .int .i64, .slc 40 [.str, .str, .bool]]] (by kernel_rfl) hf1 (Arg.sized hsz (j := 1) (t := 42) rfl rfl)
  obtain ⟨aa1, ll1, cc1, hv1, r1, w1⟩ := Arg.LeafOk.slc ok1.1
  simp only [Value.slice.injEq] at hv1
  obtain ⟨rfl, rfl, rfl⟩ := hv1
  clear hA0 hval0 hsz0
  refine (walk a0 a1 len1 cap1 W w0 w1 r1 (grpIs_of (laid := Rows.hpackBackRow.laid) hL 0 rfl)).mono fun e W' ⟨he, bel⟩ => ?_
  subst he
  exact ⟨_, rfl, _, _, _, [], _, [], hW', trodAll_mk1 (shut_bool Tryd.underlying4 _), (trodAll_cons_mk (Below.trod laidOut (by kernel_rfl) (of_decide_eq_true (by kernel_rfl)) k0 bel lt0) (trodAll_cons_mk (Below.trod laidOut (by kernel_rfl) (of_decide_eq_true (by kernel_rfl)) k1 bel lt1) trodAll_mk0)), rfl, bel.frame _, fun h => by cases h⟩

theorem over : Rows.hpackBackRow.holds Tryd.pinned (OpenSpec.ofChange Rows.hpackBackSpec) :=
  OpenClaim.holds_of_cond 5 Tryd.f5 rfl rfl rfl rfl rfl rfl rfl ⟨rfl, rfl, rfl, rfl, rfl⟩ rfl rfl rfl rfl rfl (by kernel_rfl) Tryd.func5 (by kernel_rfl)
    (of_decide_eq_true (by kernel_rfl)) (by unfold Func.isWrapper; first | (rw [if_pos (by decide +kernel)]; kernel_rfl) | (rw [if_neg (by decide +kernel)]; exact ⟨rfl, rfl⟩))
    (fun os started H enc _ F => by rw [OpenClaim.pre_eq_preRow]; exact lifted os started H enc F)

theorem plain (f : FuncId) (fn : Func) (hf : Tryd.pinned.checked.prog.funcNamed "drawbridge/drawbridgelaw05.HpackBack" = some f) (hfn : Tryd.pinned.checked.prog.funcs[f]? = some fn) :
    true = Tryd.pinned.checked.prog.looks [] ∧ ∀ (j : Nat) t, fn.params[j]? = some t → Tryd.pinned.checked.prog.wantsStandIn t = false := by
  obtain rfl : f = 5 := Option.some.inj ((show Tryd.prog.funcNamed "drawbridge/drawbridgelaw05.HpackBack" = some 5 by kernel_rfl).symm.trans hf) |>.symm
  obtain rfl : fn = Tryd.f5 := (Option.some.inj (Tryd.func5.symm.trans hfn)).symm
  refine ⟨by kernel_rfl, fun j t ht => ?_⟩
  rw [Tryd.params5] at ht
  have hm := Array.mem_of_getElem? ht
  simp only [List.mem_toArray, List.mem_cons, List.not_mem_nil, or_false] at hm
  rcases hm with rfl | rfl
  · exact (show Tryd.prog.wantsStandIn 3 = false by kernel_rfl)
  · exact (show Tryd.prog.wantsStandIn 42 = false by kernel_rfl)

theorem proved : Rows.HpackBackCardSaid :=
  Claim7.holds_tied_plain_at .later [] _ _ _ _ over (fun _ h => by cases h) (by kernel_rfl) (fun _ h => by cases h) hpackBack_row_tie rfl ⟨rfl, rfl⟩ (by kernel_rfl) rfl plain (by kernel_rfl)
end Go.Proofs.YtdkgachgohilcaaDoor.hpackBack
