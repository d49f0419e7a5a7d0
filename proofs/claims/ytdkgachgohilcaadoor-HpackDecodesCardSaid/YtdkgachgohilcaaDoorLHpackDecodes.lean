/-
  HpackDecodes holds for every two limits and every row of blocks: each is read to the fields that the document says, or refused, and the table has behind each of them what the document says; the table of groups starts as its text lays it.
-/
import Derived.Test.YtdkgachgohilcaaDoorRows
import Derived.WalkKit
import Derived.ProofKit
import Derived.OpenShut
import Derived.ShutString
import Derived.SizedLaws
import Derived.Deep.DeepHandedRow
import Derived.Lib.LaidTab
import Derived.Test.YtdkgachgohilcaaDoorGP26
import Derived.Test.YtdkgachgohilcaaDoorCards
import Derived.Test.YtdkgachgohilcaaDoorTie
import Derived.Test.YtdkgachgohilcaaDoorGP01
import Derived.Lib.SmallJoins
import Derived.Test.YtdkgachgohilcaaDoorGD05
import Derived.Test.YtdkgachgohilcaaDoorGP02
import Derived.RegionTactic
import Derived.IntWalk
import Derived.Deep.RegionHeld3
namespace Go.Proofs.YtdkgachgohilcaaDoor.hpackDecodes
open Go.ChangeShapes Go.WideShapes Go.ChangeAt Go.RowKit
open Go.Proofs.YtdkgachgohilcaaDoor Huf Pre Tab Hpk Arg Mem Gen Wr Go.Proofs.YtdkgachgohilcaaDoor.Obj Sx
open Go.ChangeMaps (open_string shut_string)
open Go.Joins
set_option linter.unusedVariables false
set_option linter.unusedSimpArgs false

theorem own : ownKnob Tryd.prog.godebug = none := by kernel_rfl
theorem laidOut : laidOutB Tryd.prog = true := by kernel_rfl

set_option maxRecDepth 100000 in
set_option maxHeartbeats 8000000 in
theorem walk (a0 : Int) (a1 : Int) (a2 : Option Addr) (len2 cap2 : Nat) (w : World) (w0 : (Lit.int .i64 a0).wf = true) (w1 : (Lit.int .i64 a1).wf = true) (w2 : Arg.Slc w [.slc 1 [.int .u8]] a2 len2 cap2) (r2 : cap2 * 24 ≤ 140737488351232) (tab0 : GrpIs w) :
    Calls Tryd.prog 3 #[.int .i64 a0, .int .i64 a1, .slice a2 len2 cap2] w fun e w' => e = .returned (.bool true) ∧ Below w.heap.size w w' := by
  have HG := Lib.hid tab0
  clear tab0
  obtain ⟨l, hl, hr, hok, hlc, hcm⟩ := blocks_in w2
  have HRw := Lib.hid hr
  have HOk := Lib.hid hok
  have HA := Lib.hid (awake_any w HG.out)
  have HL := Lib.hid hl
  have hlen : len2 ≤ 140737488355328 := by unfold maxLen at hcm; omega
  clear hr hok w2 hcm hl
  obtain ⟨i0, hi, hz0, hz1, hz2⟩ := info_parts info_u8
  have HI := Lib.hid hi
  have HZ0 := Lib.hid hz0
  have HZ1 := Lib.hid hz1
  have HZ2 := Lib.hid hz2
  clear hi hz0 hz1 hz2
  go_enter Tryd.func3, Tryd.ntmps3
  go_wp2_with fail
  refine HA.out.mono ?_; rintro e v1 ⟨rfl, b1⟩
  have B1 := Lib.hid b1
  clear HA b1
  go_wp2_with fail
  go_loopw [7, 8] (fun vn vi wr => ∃ (k n : Nat), k ≤ 30 ∧ k ≤ len2 ∧ n ≤ 16384 ∧ vi = .int .i64 k ∧ vn = .int .i64 n ∧ Hid (n = blSum (l.take k)) ∧ wr = v1) (fun _ vi _ => len2 - (intOf vi).toNat)
  case atStart => exact ⟨0, 0, by omega, by omega, by omega, rfl, rfl, Lib.hid rfl, rfl⟩
  case round =>
    obtain ⟨k, n, hk, hkl, hn, rfl, rfl, HN, rfl⟩ := hrel
    by_cases hlt : k < len2
    · have hlt' : (k : Int) < len2 := by omega
      by_cases h30 : k < 30
      · have h30' : (k : Int) < 30 := by omega
        have hlr : k < l.length := by rw [HL.out]; exact hlt
        obtain ⟨bl, off, rfl, hcs⟩ : ∃ b off, a2 = some ⟨b, off, none⟩ ∧ ∀ i, (h : i < l.length) → Rw.CE EBl w b (off + i * 1) l[i] := by
          rcases HRw.out with h | h
          · rw [h] at hlr; simp at hlr
          · exact h
        have x0 := below_cell B1.out (CE_bl (hcs k hlr))
        rw [Nat.mul_one] at x0
        have hm := (HOk.out l[k] (List.getElem_mem hlr)).2
        have HS : Hid (n + l[k].l.length = blSum (l.take (k + 1))) := Lib.hid (by rw [blSum_succ hlr, HN.out])
        clear hcs HN HI HZ0 HZ1 HZ2
        generalize l[k] = d at *
        obtain ⟨da, dc, dl⟩ := d
        simp only at x0 hm HS
        obtain ⟨hm1, hm2, _⟩ := hm
        by_cases hbig : 16384 < n + dl.length
        · have hbig' : (n : Int) + dl.length > 16384 := by omega
          go_wp2_with fail
          go_ret
          exact ⟨rfl, B1.out⟩
        · have hbig' : ¬ (n : Int) + dl.length > 16384 := by omega
          go_wp2_with fail
          go_roundw
          case rel => exact ⟨k + 1, n + dl.length, by omega, by omega, by omega, by go_num, by go_num, HS, trivial⟩
          case measure => simp [intOf]; omega
      · have hk30 : k = 30 := by omega
        subst hk30
        have h30' : ¬ ((30 : Nat) : Int) < 30 := by omega
        by_cases hgood : 0 ≤ a0 ∧ a0 ≤ 65536 ∧ 0 ≤ a1
        · obtain ⟨md, rfl⟩ := Int.eq_ofNat_of_zero_le hgood.1
          obtain ⟨ld, rfl⟩ := Int.eq_ofNat_of_zero_le hgood.2.2
          have hmd : md ≤ 65536 := by omega
          have hm1 : decide ((md : Int) < 0) = false := by simp
          have hm2 : decide ((65536 : Int) < md) = false := by simp; omega
          have hm3 : decide ((ld : Int) < 0) = false := by simp
          clear hgood
          go_wp2_with fail
          refine (st_newdec (md := md) (ld := ld) (Sts.of_below B1.out) hmd).mono ?_; rintro e v3 ⟨gd, Fd, rfl, S3⟩
          have H3 := Lib.hid S3
          clear S3
          go_wp2_with fail
          refine (st_rnewdec (md := md) (ld := ld) H3.out hmd).mono ?_; rintro e v4 ⟨gr, Fr, rfl, S4⟩
          have H4 := Lib.hid S4
          clear S4 H3 B1
          have HT : Hid (blSum (l.take 30) ≤ 16384) := Lib.hid (by rw [← HN.out]; exact hn)
          clear HN
          go_wp2_with fail
          go_loopw [12] (fun vi wr => ∃ (j m K : Nat) (br : Bool) (rows : List FdM) (Fr Fd : List Nat), j ≤ 30 ∧ vi = .int .i64 j ∧ Hid (Sts w wr [(Fr, RDecP Fr gr md ld br m rows), (Fd, DecP Fd gd md ld br m rows K)]) ∧ Hid (K = blSum (l.take j))) (fun vi _ => 30 - (intOf vi).toNat)
          case atStart => exact ⟨0, _, 0, false, [], Fr, Fd, by omega, rfl, H4, Lib.hid rfl⟩
          case round =>
            clear H4
            obtain ⟨j, m, K, br, rows, Fr, Fd, hj, rfl, HS, HK⟩ := hrel
            by_cases hjk : j < 30
            · have hj1 : (j : Int) < len2 := by omega
              have hj2 : (j : Int) < 30 := by omega
              have hlr : j < l.length := by rw [HL.out]; omega
              obtain ⟨bl, off, rfl, hcs⟩ : ∃ b off, a2 = some ⟨b, off, none⟩ ∧ ∀ i, (h : i < l.length) → Rw.CE EBl w b (off + i * 1) l[i] := by
                rcases HRw.out with h | h
                · rw [h] at hlr; simp at hlr
                · exact h
              have hx := CE_bl (hcs j hlr)
              rw [Nat.mul_one] at hx
              have HX := Lib.hid hx
              have hm := (HOk.out l[j] (List.getElem_mem hlr))
              have hsum := blSum_succ hlr
              have hsl := blSum_le l (show j + 1 ≤ 30 by omega)
              have hT := HT.out
              have h30 := HK.out
              have HS1 : Hid (K + l[j].l.length = blSum (l.take (j + 1))) := Lib.hid (by rw [hsum, HK.out])
              have hKb : K + l[j].l.length ≤ 16384 := by omega
              clear hcs hsum hsl hT HT h30 HK HL HRw hx
              generalize l[j] = d at *
              obtain ⟨da, dc, dl⟩ := d
              simp only at HX hm HS1 hKb
              obtain ⟨hrb, hm1, hm2, hnil⟩ := hm
              have HRb := Lib.hid hrb
              have HNil := Lib.hid hnil
              have HM2 := Lib.hid hm2
              have x0 := below_cell HS.out.bel HX.out
              have y0 : ∀ o : Obj, (wr.alloc o).cell? ⟨bl, off + j, none⟩ = some (.slice da dl.length dc) := fun o => below_cell (below_alloc _ _) x0
              simp only at HRb HNil hm1 HM2
              clear hrb hnil HOk hm2
              go_wp2_with (at_builtin; refine append_rb3 Tryd.underlying24 HI.out HZ0.out HZ1.out HZ2.out rfl _ _ rfl wr.heap.size (some ⟨wr.heap.size, 0, none⟩) 0 [] rfl (own_empty1 wr _) da dl dc rfl HNil.out ((HRb.out.below HS.out.bel).below ((Below.refl _ _).alloc (Nat.le_refl _) _)) dl rfl (by omega) (by simp) ?_)
              intro oa oc v5 hown hb2
              have hb := hb2 _ _ ((Below.refl _ _).alloc (Nat.le_refl _) _) (Nat.le_refl _)
              have hq : RB v5 oa dl := RB.of_own hown.out
              have hoc := own_le hown.out
              have hob := Rw.own_blk hown.out
              have H5 := Lib.hid (HS.out.add (F := blk oa) (P := RbP oa dl) hb (fun k hk => by obtain ⟨o, s, e⟩ := mem_blk hk; exact hob k o s e) RbP.st hq)
              clear hown hb2 hb hq hob HS x0 y0 HI HZ0 HZ1 HZ2
              go_wp2_with fail
              have q5 : RbP oa dl v5 := H5.out.is 0 rfl
              have hsm : RDecP Fr gr md ld br m rows v5 := H5.out.is 1 rfl
              have hln := decR_len br md ld dl m rows hsm.2.1 hsm.2.2.1 hmd
              have hde := st_decode H5.out 2 rfl HG.out oa dl oc q5 (fun _ b o s e hm => H5.out.apart 0 2 rfl rfl (by decide) b (by subst e; exact List.mem_singleton.mpr rfl) hm) hoc.1 hoc.2 (by omega) (by omega)
              obtain ⟨R, hR⟩ : ∃ R, R = decR br md ld dl m rows := ⟨_, rfl⟩
              rw [← hR] at hde hln
              have HR := Lib.hid hR
              clear hR hsm q5
              obtain ⟨⟨er, fl⟩, ⟨m2, rows2⟩, br2⟩ := R
              simp only at hde hln
              refine hde.mono ?_; rintro e v6 ⟨pa, pc, Fd2, rfl, S6⟩
              have H6 := Lib.hid S6
              clear S6 hde H5
              simp only [List.set] at H6
              have x6 := below_cell H6.out.bel HX.out
              go_wp2_with fail
              have hde := st_rdecode H6.out 2 rfl da dl dc (HRb.out.below H6.out.bel) (st_old H6.out 2 rfl (q_of_rb HRb.out) by_some) hm1 (by have := HM2.out; unfold maxLen; omega) (by omega)
              rw [← HR.out] at hde
              refine hde.mono ?_; rintro e v7 ⟨za, zc, Fr2, rfl, S7⟩
              have H7 := Lib.hid S7
              clear S7 hde H6 HR x6
              simp only [List.set] at H7
              have q0 : RowP EFd za zc fl v7 := H7.out.is 0 rfl
              have q1 : RowP EFd pa pc fl v7 := H7.out.is 1 rfl
              have hfi := st_fields H7.out pa za fl fl pc zc q1.row q0.row q1.le q0.le (by omega) (by omega)
              rw [decide_eq_true rfl] at hfi
              have HFi := Lib.hid hfi
              clear hfi q0 q1
              go_wp2_with fail
              refine HFi.out.mono ?_; rintro e v8 ⟨rfl, S8⟩
              have H8 := Lib.hid S8
              clear S8 H7 HFi
              have x8 := below_cell H8.out.bel HX.out
              have q2 : RbP oa dl v8 := H8.out.is 2 rfl
              have hby := bytes_any oa da dl dl oc dc v8 q2 (HRb.out.below H8.out.bel)
              rw [decide_eq_true rfl] at hby
              have HBy := Lib.hid hby
              clear hby q2
              go_wp2_with fail
              refine HBy.out.mono ?_; rintro e v9 ⟨rfl, rfl⟩
              clear HBy x8
              have hrd : RDecP Fr2 gr md ld br2 m2 rows2 v8 := H8.out.is 3 rfl
              have hsum := hrd.2.1
              have hm65 := hrd.2.2.1
              have h32 := csum_len rows2
              have h4 := hrd.1.cells.2.2.1
              have hrows : ∃ adr capr, v8.cell? ⟨gr, 3, none⟩ = some (.slice adr rows2.length capr) ∧ rows2.length ≤ capr ∧ Rw.RowE EFd v8 adr rows2 := by
                obtain ⟨adr, capr, _, hh, hl1, _, _, _, hr1, _⟩ := hrd.1
                exact ⟨adr, capr, (cell_at hh 3).trans (put2_1 (by simp) _ _), hl1, hr1⟩
              obtain ⟨adr, capr, h3, hcapr, hrowr⟩ := hrows
              have HRr := Lib.hid hrowr
              have HS2 := Lib.hid (H8.out.tail.tail.tail)
              clear hrd hrowr H8
              have HK2 : Hid (K + dl.length = blSum (l.take (j + 1))) := HS1
              cases br2 with
              | true =>
                go_wp2_with fail
                refine wp_region_noPanic ?_; go_quiet (fail)
                dsimp only [NoPanic, Exit.then, Exit.inBlock]
                have HS3 : Hid (Sts w (v8.drewN nq) [(Fr2, RDecP Fr2 gr md ld true m2 rows2), (Fd2, DecP Fd2 gd md ld true m2 rows2 (K + dl.length))]) := Lib.hid (HS2.out.below ⟨rfl, rfl, rfl, Nat.le_refl _, fun _ _ => rfl⟩)
                clear HS2 h3 h4 HRr
                go_wp2_with fail
                go_roundw
                case rel => exact ⟨j + 1, m2, K + dl.length, true, rows2, Fr2, Fd2, by omega, by go_num, HS3, HK2⟩
                case measure => simp [intOf]; omega
              | false =>
                have HRo : Hid (∀ v, Below v8.heap.size v8 v → Calls Tryd.prog 16 #[.pointer (some ⟨gd, 0, none⟩)] v fun e w' => ∃ b, e = .returned (.slice (some ⟨b, 0, none⟩) rows2.length rows2.length) ∧ Rw.RowE EFd w' (some ⟨b, 0, none⟩) rows2 ∧ Below v.heap.size v w') := Lib.hid (fun v hv => by
                  obtain ⟨_, ⟨h, _⟩ | ⟨_, t, L, c, lf, _, hD, _⟩⟩ := HS2.out.is 1 rfl
                  · cases h
                  · exact (pdrows_any (hD.below hv)).mono fun e w' ⟨b, h1, _, h2, h3⟩ => ⟨b, h1, h2.row, h3⟩)
                have HFo : Hid (∀ v b, Below v8.heap.size v8 v → Rw.RowE EFd v (some ⟨b, 0, none⟩) rows2 → Calls Tryd.prog 14 #[.slice (some ⟨b, 0, none⟩) rows2.length rows2.length, .slice adr rows2.length capr] v fun e w' => e = .returned (.bool true) ∧ Below v.heap.size v w') := Lib.hid (fun v b hv hq => by
                  have h := rfields_any (some ⟨b, 0, none⟩) adr rows2 rows2 rows2.length capr v hq (HRr.out.below hv) (Nat.le_refl _) hcapr (by omega) (by omega)
                  rw [decide_eq_true rfl] at h
                  exact h)
                have hb : Below v8.heap.size v8 v8.drew := (Below.refl _ _).drew
                go_wp2_with fail
                go_region_held3 (fun w' => w'.cell? ⟨gr, 4, none⟩ = some (.bool false) ∧ w'.cell? ⟨gr, 3, none⟩ = some (.slice adr rows2.length capr))
                  (first | go_keep | exact ⟨below_cell hb h4, below_cell hb h3⟩)
                  ((first | (go_at_call 16; refine (HRo.out _ hb).mono ?_; rintro e x ⟨bq, rfl, hqx, bx⟩; replace hb := hb.trans (bx.mono hb.size); clear bx)
                          | (go_at_call 14; refine (HFo.out _ _ hb hqx).mono ?_; rintro e x ⟨rfl, bx⟩; replace hb := hb.trans (bx.mono hb.size); clear bx)))
                all_goals
                  have HS3 := Lib.hid (HS2.out.below hb)
                  clear HS2 hb h3 h4 HRr HRo HFo
                  try clear hqx
                  go_wp2_with fail
                  go_roundw
                  case rel => exact ⟨j + 1, m2, K + dl.length, false, rows2, Fr2, Fd2, by omega, by go_num, HS3, HK2⟩
                  case measure => simp [intOf]; omega
            · clear HI HZ0 HZ1 HZ2
              have hj1 : (j : Int) < len2 := by omega
              have hj2 : ¬ (j : Int) < 30 := by omega
              have hb9 := HS.out.bel
              clear HS HK
              go_wp2_with fail
              go_ret
              exact ⟨rfl, hb9⟩
        · have HNb := Lib.hid (fun v => pnewdec_bad a0 a1 v (by omega))
          clear HI HZ0 HZ1 HZ2
          by_cases hneg : a0 < 0
          · have hm1 : decide (a0 < 0) = true := by simp; omega
            clear hgood
            go_wp2_with fail
            refine (HNb.out _).mono ?_; rintro e v3 ⟨rfl, b3⟩
            have b4 := below_step B1.out b3
            go_wp2_with fail
            go_ret
            exact ⟨rfl, b4⟩
          · have hm1 : decide (a0 < 0) = false := by simp; omega
            by_cases hbig : 65536 < a0
            · have hm2 : decide ((65536 : Int) < a0) = true := by simp; omega
              clear hgood
              go_wp2_with fail
              refine (HNb.out _).mono ?_; rintro e v3 ⟨rfl, b3⟩
              have b4 := below_step B1.out b3
              go_wp2_with fail
              go_ret
              exact ⟨rfl, b4⟩
            · have hm2 : decide ((65536 : Int) < a0) = false := by simp; omega
              have hm3 : decide (a1 < 0) = true := by simp; omega
              clear hgood
              go_wp2_with fail
              refine (HNb.out _).mono ?_; rintro e v3 ⟨rfl, b3⟩
              have b4 := below_step B1.out b3
              go_wp2_with fail
              go_ret
              exact ⟨rfl, b4⟩
    · have hkk : k = len2 := by omega
      subst hkk
      by_cases hgood : 0 ≤ a0 ∧ a0 ≤ 65536 ∧ 0 ≤ a1
      · obtain ⟨md, rfl⟩ := Int.eq_ofNat_of_zero_le hgood.1
        obtain ⟨ld, rfl⟩ := Int.eq_ofNat_of_zero_le hgood.2.2
        have hmd : md ≤ 65536 := by omega
        have hm1 : decide ((md : Int) < 0) = false := by simp
        have hm2 : decide ((65536 : Int) < md) = false := by simp; omega
        have hm3 : decide ((ld : Int) < 0) = false := by simp
        clear hgood
        go_wp2_with fail
        refine (st_newdec (md := md) (ld := ld) (Sts.of_below B1.out) hmd).mono ?_; rintro e v3 ⟨gd, Fd, rfl, S3⟩
        have H3 := Lib.hid S3
        clear S3
        go_wp2_with fail
        refine (st_rnewdec (md := md) (ld := ld) H3.out hmd).mono ?_; rintro e v4 ⟨gr, Fr, rfl, S4⟩
        have H4 := Lib.hid S4
        clear S4 H3 B1
        have HT : Hid (blSum (l.take k) ≤ 16384) := Lib.hid (by rw [← HN.out]; exact hn)
        clear HN
        go_wp2_with fail
        go_loopw [12] (fun vi wr => ∃ (j m K : Nat) (br : Bool) (rows : List FdM) (Fr Fd : List Nat), j ≤ k ∧ vi = .int .i64 j ∧ Hid (Sts w wr [(Fr, RDecP Fr gr md ld br m rows), (Fd, DecP Fd gd md ld br m rows K)]) ∧ Hid (K = blSum (l.take j))) (fun vi _ => k - (intOf vi).toNat)
        case atStart => exact ⟨0, _, 0, false, [], Fr, Fd, by omega, rfl, H4, Lib.hid rfl⟩
        case round =>
          clear H4
          obtain ⟨j, m, K, br, rows, Fr, Fd, hj, rfl, HS, HK⟩ := hrel
          by_cases hjk : j < k
          · have hj1 : (j : Int) < k := by omega
            have hj2 : (j : Int) < 30 := by omega
            have hlr : j < l.length := by rw [HL.out]; omega
            obtain ⟨bl, off, rfl, hcs⟩ : ∃ b off, a2 = some ⟨b, off, none⟩ ∧ ∀ i, (h : i < l.length) → Rw.CE EBl w b (off + i * 1) l[i] := by
              rcases HRw.out with h | h
              · rw [h] at hlr; simp at hlr
              · exact h
            have hx := CE_bl (hcs j hlr)
            rw [Nat.mul_one] at hx
            have HX := Lib.hid hx
            have hm := (HOk.out l[j] (List.getElem_mem hlr))
            have hsum := blSum_succ hlr
            have hsl := blSum_le l (show j + 1 ≤ k by omega)
            have hT := HT.out
            have hk := HK.out
            have HS1 : Hid (K + l[j].l.length = blSum (l.take (j + 1))) := Lib.hid (by rw [hsum, HK.out])
            have hKb : K + l[j].l.length ≤ 16384 := by omega
            clear hcs hsum hsl hT HT hk HK HL HRw hx
            generalize l[j] = d at *
            obtain ⟨da, dc, dl⟩ := d
            simp only at HX hm HS1 hKb
            obtain ⟨hrb, hm1, hm2, hnil⟩ := hm
            have HRb := Lib.hid hrb
            have HNil := Lib.hid hnil
            have HM2 := Lib.hid hm2
            have x0 := below_cell HS.out.bel HX.out
            have y0 : ∀ o : Obj, (wr.alloc o).cell? ⟨bl, off + j, none⟩ = some (.slice da dl.length dc) := fun o => below_cell (below_alloc _ _) x0
            simp only at HRb HNil hm1 HM2
            clear hrb hnil HOk hm2
            go_wp2_with (at_builtin; refine append_rb3 Tryd.underlying24 HI.out HZ0.out HZ1.out HZ2.out rfl _ _ rfl wr.heap.size (some ⟨wr.heap.size, 0, none⟩) 0 [] rfl (own_empty1 wr _) da dl dc rfl HNil.out ((HRb.out.below HS.out.bel).below ((Below.refl _ _).alloc (Nat.le_refl _) _)) dl rfl (by omega) (by simp) ?_)
            intro oa oc v5 hown hb2
            have hb := hb2 _ _ ((Below.refl _ _).alloc (Nat.le_refl _) _) (Nat.le_refl _)
            have hq : RB v5 oa dl := RB.of_own hown.out
            have hoc := own_le hown.out
            have hob := Rw.own_blk hown.out
            have H5 := Lib.hid (HS.out.add (F := blk oa) (P := RbP oa dl) hb (fun k hk => by obtain ⟨o, s, e⟩ := mem_blk hk; exact hob k o s e) RbP.st hq)
            clear hown hb2 hb hq hob HS x0 y0 HI HZ0 HZ1 HZ2
            go_wp2_with fail
            have q5 : RbP oa dl v5 := H5.out.is 0 rfl
            have hsm : RDecP Fr gr md ld br m rows v5 := H5.out.is 1 rfl
            have hln := decR_len br md ld dl m rows hsm.2.1 hsm.2.2.1 hmd
            have hde := st_decode H5.out 2 rfl HG.out oa dl oc q5 (fun _ b o s e hm => H5.out.apart 0 2 rfl rfl (by decide) b (by subst e; exact List.mem_singleton.mpr rfl) hm) hoc.1 hoc.2 (by omega) (by omega)
            obtain ⟨R, hR⟩ : ∃ R, R = decR br md ld dl m rows := ⟨_, rfl⟩
            rw [← hR] at hde hln
            have HR := Lib.hid hR
            clear hR hsm q5
            obtain ⟨⟨er, fl⟩, ⟨m2, rows2⟩, br2⟩ := R
            simp only at hde hln
            refine hde.mono ?_; rintro e v6 ⟨pa, pc, Fd2, rfl, S6⟩
            have H6 := Lib.hid S6
            clear S6 hde H5
            simp only [List.set] at H6
            have x6 := below_cell H6.out.bel HX.out
            go_wp2_with fail
            have hde := st_rdecode H6.out 2 rfl da dl dc (HRb.out.below H6.out.bel) (st_old H6.out 2 rfl (q_of_rb HRb.out) by_some) hm1 (by have := HM2.out; unfold maxLen; omega) (by omega)
            rw [← HR.out] at hde
            refine hde.mono ?_; rintro e v7 ⟨za, zc, Fr2, rfl, S7⟩
            have H7 := Lib.hid S7
            clear S7 hde H6 HR x6
            simp only [List.set] at H7
            have q0 : RowP EFd za zc fl v7 := H7.out.is 0 rfl
            have q1 : RowP EFd pa pc fl v7 := H7.out.is 1 rfl
            have hfi := st_fields H7.out pa za fl fl pc zc q1.row q0.row q1.le q0.le (by omega) (by omega)
            rw [decide_eq_true rfl] at hfi
            have HFi := Lib.hid hfi
            clear hfi q0 q1
            go_wp2_with fail
            refine HFi.out.mono ?_; rintro e v8 ⟨rfl, S8⟩
            have H8 := Lib.hid S8
            clear S8 H7 HFi
            have x8 := below_cell H8.out.bel HX.out
            have q2 : RbP oa dl v8 := H8.out.is 2 rfl
            have hby := bytes_any oa da dl dl oc dc v8 q2 (HRb.out.below H8.out.bel)
            rw [decide_eq_true rfl] at hby
            have HBy := Lib.hid hby
            clear hby q2
            go_wp2_with fail
            refine HBy.out.mono ?_; rintro e v9 ⟨rfl, rfl⟩
            clear HBy x8
            have hrd : RDecP Fr2 gr md ld br2 m2 rows2 v8 := H8.out.is 3 rfl
            have hsum := hrd.2.1
            have hm65 := hrd.2.2.1
            have h32 := csum_len rows2
            have h4 := hrd.1.cells.2.2.1
            have hrows : ∃ adr capr, v8.cell? ⟨gr, 3, none⟩ = some (.slice adr rows2.length capr) ∧ rows2.length ≤ capr ∧ Rw.RowE EFd v8 adr rows2 := by
              obtain ⟨adr, capr, _, hh, hl1, _, _, _, hr1, _⟩ := hrd.1
              exact ⟨adr, capr, (cell_at hh 3).trans (put2_1 (by simp) _ _), hl1, hr1⟩
            obtain ⟨adr, capr, h3, hcapr, hrowr⟩ := hrows
            have HRr := Lib.hid hrowr
            have HS2 := Lib.hid (H8.out.tail.tail.tail)
            clear hrd hrowr H8
            have HK2 : Hid (K + dl.length = blSum (l.take (j + 1))) := HS1
            cases br2 with
            | true =>
              go_wp2_with fail
              refine wp_region_noPanic ?_; go_quiet (fail)
              dsimp only [NoPanic, Exit.then, Exit.inBlock]
              have HS3 : Hid (Sts w (v8.drewN nq) [(Fr2, RDecP Fr2 gr md ld true m2 rows2), (Fd2, DecP Fd2 gd md ld true m2 rows2 (K + dl.length))]) := Lib.hid (HS2.out.below ⟨rfl, rfl, rfl, Nat.le_refl _, fun _ _ => rfl⟩)
              clear HS2 h3 h4 HRr
              go_wp2_with fail
              go_roundw
              case rel => exact ⟨j + 1, m2, K + dl.length, true, rows2, Fr2, Fd2, by omega, by go_num, HS3, HK2⟩
              case measure => simp [intOf]; omega
            | false =>
              have HRo : Hid (∀ v, Below v8.heap.size v8 v → Calls Tryd.prog 16 #[.pointer (some ⟨gd, 0, none⟩)] v fun e w' => ∃ b, e = .returned (.slice (some ⟨b, 0, none⟩) rows2.length rows2.length) ∧ Rw.RowE EFd w' (some ⟨b, 0, none⟩) rows2 ∧ Below v.heap.size v w') := Lib.hid (fun v hv => by
                obtain ⟨_, ⟨h, _⟩ | ⟨_, t, L, c, lf, _, hD, _⟩⟩ := HS2.out.is 1 rfl
                · cases h
                · exact (pdrows_any (hD.below hv)).mono fun e w' ⟨b, h1, _, h2, h3⟩ => ⟨b, h1, h2.row, h3⟩)
              have HFo : Hid (∀ v b, Below v8.heap.size v8 v → Rw.RowE EFd v (some ⟨b, 0, none⟩) rows2 → Calls Tryd.prog 14 #[.slice (some ⟨b, 0, none⟩) rows2.length rows2.length, .slice adr rows2.length capr] v fun e w' => e = .returned (.bool true) ∧ Below v.heap.size v w') := Lib.hid (fun v b hv hq => by
                have h := rfields_any (some ⟨b, 0, none⟩) adr rows2 rows2 rows2.length capr v hq (HRr.out.below hv) (Nat.le_refl _) hcapr (by omega) (by omega)
                rw [decide_eq_true rfl] at h
                exact h)
              have hb : Below v8.heap.size v8 v8.drew := (Below.refl _ _).drew
              go_wp2_with fail
              go_region_held3 (fun w' => w'.cell? ⟨gr, 4, none⟩ = some (.bool false) ∧ w'.cell? ⟨gr, 3, none⟩ = some (.slice adr rows2.length capr))
                (first | go_keep | exact ⟨below_cell hb h4, below_cell hb h3⟩)
                ((first | (go_at_call 16; refine (HRo.out _ hb).mono ?_; rintro e x ⟨bq, rfl, hqx, bx⟩; replace hb := hb.trans (bx.mono hb.size); clear bx)
                        | (go_at_call 14; refine (HFo.out _ _ hb hqx).mono ?_; rintro e x ⟨rfl, bx⟩; replace hb := hb.trans (bx.mono hb.size); clear bx)))
              all_goals
                have HS3 := Lib.hid (HS2.out.below hb)
                clear HS2 hb h3 h4 HRr HRo HFo
                try clear hqx
                go_wp2_with fail
                go_roundw
                case rel => exact ⟨j + 1, m2, K + dl.length, false, rows2, Fr2, Fd2, by omega, by go_num, HS3, HK2⟩
                case measure => simp [intOf]; omega
          · clear HI HZ0 HZ1 HZ2
            have hj1 : ¬ (j : Int) < k := by omega
            have hb9 := HS.out.bel
            clear HS HK
            go_wp2_with fail
            go_ret
            exact ⟨rfl, hb9⟩
      · have HNb := Lib.hid (fun v => pnewdec_bad a0 a1 v (by omega))
        clear HI HZ0 HZ1 HZ2
        by_cases hneg : a0 < 0
        · have hm1 : decide (a0 < 0) = true := by simp; omega
          clear hgood
          go_wp2_with fail
          refine (HNb.out _).mono ?_; rintro e v3 ⟨rfl, b3⟩
          have b4 := below_step B1.out b3
          go_wp2_with fail
          go_ret
          exact ⟨rfl, b4⟩
        · have hm1 : decide (a0 < 0) = false := by simp; omega
          by_cases hbig : 65536 < a0
          · have hm2 : decide ((65536 : Int) < a0) = true := by simp; omega
            clear hgood
            go_wp2_with fail
            refine (HNb.out _).mono ?_; rintro e v3 ⟨rfl, b3⟩
            have b4 := below_step B1.out b3
            go_wp2_with fail
            go_ret
            exact ⟨rfl, b4⟩
          · have hm2 : decide ((65536 : Int) < a0) = false := by simp; omega
            have hm3 : decide (a1 < 0) = true := by simp; omega
            clear hgood
            go_wp2_with fail
            refine (HNb.out _).mono ?_; rintro e v3 ⟨rfl, b3⟩
            have b4 := below_step B1.out b3
            go_wp2_with fail
            go_ret
            exact ⟨rfl, b4⟩


noncomputable def laidWorld (os : Os) : World :=
  { World.holding Tryd.prog os ⟨#[], #[], []⟩ with heap := (((World.holding Tryd.prog os ⟨#[], #[], []⟩).heap).modify 0 fun
      | .cells _ t frozen => .cells #[.int .i64 0, .int .u32 0, .int .i64 0, .int .i64 0, .int .u32 0, .int .i64 0, .int .i64 0, .int .u32 0, .int .i64 0, .int .i64 0, .int .u32 0, .int .i64 0, .int .i64 0, .int .u32 0, .int .i64 0, .int .i64 10, .int .u32 0, .int .i64 0, .int .i64 26, .int .u32 20, .int .i64 10, .int .i64 32, .int .u32 92, .int .i64 36, .int .i64 6, .int .u32 248, .int .i64 68, .int .i64 0, .int .u32 0, .int .i64 0, .int .i64 5, .int .u32 1016, .int .i64 74, .int .i64 3, .int .u32 2042, .int .i64 79, .int .i64 2, .int .u32 4090, .int .i64 82, .int .i64 6, .int .u32 8184, .int .i64 84, .int .i64 2, .int .u32 16380, .int .i64 90, .int .i64 3, .int .u32 32764, .int .i64 92, .int .i64 0, .int .u32 0, .int .i64 0, .int .i64 0, .int .u32 0, .int .i64 0, .int .i64 0, .int .u32 0, .int .i64 0, .int .i64 3, .int .u32 524272, .int .i64 95, .int .i64 8, .int .u32 1048550, .int .i64 98, .int .i64 13, .int .u32 2097116, .int .i64 106, .int .i64 26, .int .u32 4194258, .int .i64 119, .int .i64 29, .int .u32 8388568, .int .i64 145, .int .i64 12, .int .u32 16777194, .int .i64 174, .int .i64 4, .int .u32 33554412, .int .i64 186, .int .i64 15, .int .u32 67108832, .int .i64 190, .int .i64 19, .int .u32 134217694, .int .i64 205, .int .i64 29, .int .u32 268435426, .int .i64 224, .int .i64 0, .int .u32 0, .int .i64 0, .int .i64 4, .int .u32 1073741820, .int .i64 253] t frozen
      | o => o) }
theorem laid_met (os : Os) : laidMet Tryd.prog Rows.hpackDecodesRow.laid ((laidWorld os).forCall (fun _ _ => 0) ⟨#[], #[.int .i64 0, .int .i64 0, .slice none 0 0], []⟩).memory :=
  laidMet_of_run' 8 (by kernel_rfl) (by kernel_rfl)
theorem reads (os : Os) {H : Type} (enc : TypeId × Value → H) : ∃ places, DataW.whole enc Tryd.prog ((laidWorld os).forCall (fun _ _ => 0) ⟨#[], #[.int .i64 0, .int .i64 0, .slice none 0 0], []⟩).memory Tryd.f3.params.toList Rows.hpackDecodesSpec.vars false (#[.int .i64 0, .int .i64 0, .slice none 0 0] : Array Value).toList 8 = some ([.lit (.int .i64 0), .lit (.int .i64 0), .nil], [], places) :=
  ⟨[], by kernel_rfl⟩

set_option maxRecDepth 100000 in
theorem lifted (os : Os) (started : os.Started) (H : Type) (enc : TypeId × Value → H) (F : Stop.Interp) :
    ReturnsInHanded {} Tryd.checked os 3 .any ((OpenSpec.ofChange Rows.hpackDecodesSpec).preRow enc Tryd.prog Tryd.f3 Rows.hpackDecodesRow.domain false Rows.hpackDecodesRow.laid) (((OpenSpec.ofChange Rows.hpackDecodesSpec).at F).post enc Tryd.prog Tryd.f3 false true false false) := by
  obtain ⟨places, hx⟩ := reads os enc
  refine returnsInHanded_of_row (C := Tryd.checked) (s := OpenSpec.ofChange Rows.hpackDecodesSpec) own started (by kernel_rfl) Tryd.func3
    (witness_row_at (enc := enc) (C := Tryd.checked) false (laidWorld os) #[.int .i64 0, .int .i64 0, .slice none 0 0] rfl (by kernel_rfl) (by kernel_rfl) (by kernel_rfl)
      (OpenSpec.preRow_of_cond 8 hx (by kernel_rfl) (fun k hk => by cases hk) (by kernel_rfl) (laid_met os))) ?_
  intro W base args ds gs before hval0 hW hcnd _ hsz0 hL _ _
  have hsz : (DataW.weightsEach Tryd.prog (Tryd.f3.params.toList ++ Rows.hpackDecodesSpec.plain.varTypes Tryd.prog) (ds ++ gs)).all (· ≤ reachBytes) = true := hsz0
  have hval : ∀ (j : Nat) t v, Tryd.f3.params[j]? = some t → args[j]? = some v → Value.okWide Tryd.prog W .any base t v := hval0
  have hW' := hW
  obtain ⟨p, q, hA0, hV, rfl, hfz, hnd⟩ := hW
  have hA : DataW.TrodAll enc Tryd.prog W 0 (fun _ => true) true Tryd.f3.params.toList args.toList ds p := hA0
  rw [Tryd.params3] at hA hval hsz
  obtain ⟨v0, vs0, d0, ds0, p0, q0, hargs, rfl, rfl, h0, t0⟩ := trodAll_cons hA
  obtain ⟨v1, vs1, d1, ds1, p1, q1, rfl, rfl, rfl, h1, t1⟩ := trodAll_cons t0
  obtain ⟨v2, vs2, d2, ds2, p2, q2, rfl, rfl, rfl, h2, t2⟩ := trodAll_cons t1
  obtain ⟨rfl, rfl, rfl⟩ := trodAll_nil t2
  obtain rfl : args = #[v0, v1, v2] := by cases args; simp_all
  obtain ⟨rfl, rfl⟩ := trodVars_none hV
  have k0 := h0
  have lt0 : ∀ x ∈ p0, x.block < W.heap.size := by obtain ⟨m, hm⟩ := k0; exact DataW.trod_lt m _ _ _ hm
  obtain ⟨a0, rfl, rfl, rfl, w0⟩ := open_int Tryd.underlying3 (hval 0 3 v0 rfl rfl) h0
  have k1 := h1
  have lt1 : ∀ x ∈ p1, x.block < W.heap.size := by obtain ⟨m, hm⟩ := k1; exact DataW.trod_lt m _ _ _ hm
  obtain ⟨a1, rfl, rfl, rfl, w1⟩ := open_int Tryd.underlying3 (hval 1 3 v1 rfl rfl) h1
  have k2 := h2
  have lt2 : ∀ x ∈ p2, x.block < W.heap.size := by obtain ⟨m, hm⟩ := k2; exact DataW.trod_lt m _ _ _ hm
  obtain ⟨a2, len2, cap2, rfl⟩ := okWide_slice Tryd.underlying22 (hval 2 22 v2 rfl rfl)
  obtain ⟨fuel2, hf2⟩ := h2
  have ok2 : Arg.AllOk W [.slc 24 [.slc 1 [.int .u8]]] [.slice a2 len2 cap2] := Arg.trod_leaves 9 22 [.slc 24 [.slc 1 [.int .u8]]] (by kernel_rfl) hf2 (Arg.sized hsz (j := 2) (t := 22) rfl rfl)
  obtain ⟨aa2, ll2, cc2, hv2, r2, w2⟩ := Arg.LeafOk.slc ok2.1
  simp only [Value.slice.injEq] at hv2
  obtain ⟨rfl, rfl, rfl⟩ := hv2
  clear hA0 hval0 hsz0
  refine (walk a0 a1 a2 len2 cap2 W w0 w1 w2 r2 (grpIs_of (laid := Rows.hpackDecodesRow.laid) hL 0 rfl)).mono fun e W' ⟨he, bel⟩ => ?_
  subst he
  exact ⟨_, rfl, _, _, _, [], _, [], hW', trodAll_mk1 (shut_bool Tryd.underlying4 _), (trodAll_cons_mk (Below.trod laidOut (by kernel_rfl) (of_decide_eq_true (by kernel_rfl)) k0 bel lt0) (trodAll_cons_mk (Below.trod laidOut (by kernel_rfl) (of_decide_eq_true (by kernel_rfl)) k1 bel lt1) (trodAll_cons_mk (Below.trod laidOut (by kernel_rfl) (of_decide_eq_true (by kernel_rfl)) k2 bel lt2) trodAll_mk0))), rfl, bel.frame _, fun h => by cases h⟩

theorem over : Rows.hpackDecodesRow.holds Tryd.pinned (OpenSpec.ofChange Rows.hpackDecodesSpec) :=
  OpenClaim.holds_of_cond 3 Tryd.f3 rfl rfl rfl rfl rfl rfl rfl ⟨rfl, rfl, rfl, rfl, rfl⟩ rfl rfl rfl rfl rfl (by kernel_rfl) Tryd.func3 (by kernel_rfl)
    (of_decide_eq_true (by kernel_rfl)) (by unfold Func.isWrapper; first | (rw [if_pos (by decide +kernel)]; kernel_rfl) | (rw [if_neg (by decide +kernel)]; exact ⟨rfl, rfl⟩))
    (fun os started H enc _ F => by rw [OpenClaim.pre_eq_preRow]; exact lifted os started H enc F)

theorem plain (f : FuncId) (fn : Func) (hf : Tryd.pinned.checked.prog.funcNamed "drawbridge/drawbridgelaw05.HpackDecodes" = some f) (hfn : Tryd.pinned.checked.prog.funcs[f]? = some fn) :
    true = Tryd.pinned.checked.prog.looks [] ∧ ∀ (j : Nat) t, fn.params[j]? = some t → Tryd.pinned.checked.prog.wantsStandIn t = false := by
  obtain rfl : f = 3 := Option.some.inj ((show Tryd.prog.funcNamed "drawbridge/drawbridgelaw05.HpackDecodes" = some 3 by kernel_rfl).symm.trans hf) |>.symm
  obtain rfl : fn = Tryd.f3 := (Option.some.inj (Tryd.func3.symm.trans hfn)).symm
  refine ⟨by kernel_rfl, fun j t ht => ?_⟩
  rw [Tryd.params3] at ht
  have hm := Array.mem_of_getElem? ht
  simp only [List.mem_toArray, List.mem_cons, List.not_mem_nil, or_false] at hm
  rcases hm with rfl | rfl | rfl
  · exact (show Tryd.prog.wantsStandIn 3 = false by kernel_rfl)
  · exact (show Tryd.prog.wantsStandIn 3 = false by kernel_rfl)
  · exact (show Tryd.prog.wantsStandIn 22 = false by kernel_rfl)

theorem proved : Rows.HpackDecodesCardSaid :=
  Claim7.holds_tied_plain_at .later [] _ _ _ _ over (fun _ h => by cases h) (by kernel_rfl) (fun _ h => by cases h) hpackDecodes_row_tie rfl ⟨rfl, rfl⟩ (by kernel_rfl) rfl plain (by kernel_rfl)
end Go.Proofs.YtdkgachgohilcaaDoor.hpackDecodes
