/-
  HpackEncodes holds for every limit and every script: each list is written as the document says, with the other end's limits changing between them, and the table has behind each of them what the document says; the table of groups starts as its text lays it.
-/
import Derived.Test.YtdkgachgohilcaaDoorRows
import Derived.WalkKit
import Derived.ProofKit
import Derived.OpenShut
import Derived.ShutString
import Derived.SizedLaws
import Derived.Deep.DeepHandedRow
import Derived.Lib.LaidTab
import Derived.Test.YtdkgachgohilcaaDoorGP26
import Derived.Test.YtdkgachgohilcaaDoorCards
import Derived.Test.YtdkgachgohilcaaDoorTie
import Derived.Test.YtdkgachgohilcaaDoorGP01
import Derived.Lib.SmallJoins
import Derived.Test.YtdkgachgohilcaaDoorGE03
import Derived.RegionTactic
import Derived.IntWalk
import Derived.Deep.RegionHeld3
namespace Go.Proofs.YtdkgachgohilcaaDoor.hpackEncodes
open Go.ChangeShapes Go.WideShapes Go.ChangeAt Go.RowKit
open Go.Proofs.YtdkgachgohilcaaDoor Huf Pre Tab Hpk Arg Mem Gen Wr Go.Proofs.YtdkgachgohilcaaDoor.Obj Sx
open Go.ChangeMaps (open_string shut_string)
open Go.Joins
set_option linter.unusedVariables false
set_option linter.unusedSimpArgs false

theorem own : ownKnob Tryd.prog.godebug = none := by kernel_rfl
theorem laidOut : laidOutB Tryd.prog = true := by kernel_rfl

set_option maxRecDepth 100000 in
set_option maxHeartbeats 8000000 in
theorem walk (a0 : Int) (a1 : Option Addr) (len1 cap1 : Nat) (w : World) (w0 : (Lit.int .i64 a0).wf = true) (w1 : Arg.Slc w [.bool, .int .i64, .slc 40 [.str, .str, .bool]] a1 len1 cap1) (r1 : cap1 * 40 ≤ 140737488351232) (tab0 : GrpIs w) :
    Calls Tryd.prog 4 #[.int .i64 a0, .slice a1 len1 cap1] w fun e w' => e = .returned (.bool true) ∧ Below w.heap.size w w' := by
  have HG := Lib.hid tab0
  clear tab0
  obtain ⟨l, hl, hr, hok, hlc, hcm⟩ := script_in w1
  have HRw := Lib.hid hr
  have HOk := Lib.hid hok
  have HL := Lib.hid hl
  have HA := Lib.hid (awake_any w HG.out)
  have hlen : len1 ≤ 140737488355328 := by omega
  have HFw : Hid (∀ v, Below w.heap.size w v → Calls Tryd.prog 17 #[.slice a1 len1 cap1] v fun e w' => e = .returned (.bool (fewH (l.take 30) 0)) ∧ Below v.heap.size v w') := Lib.hid (fun v hv => few_any a1 len1 cap1 l v HL.out hlc hcm (HRw.out.below hv) (fun d hd => (HOk.out d hd).below hv))
  have HTot := Lib.hid (fewH_tot (l.take 30) 0 (by omega))
  clear hr hok hl w1 hcm
  cases hfw : fewH (l.take 30) 0 with
  | false =>
    rw [hfw] at HFw
    go_enter Tryd.func4, Tryd.ntmps4
    go_wp2_with fail
    refine HA.out.mono ?_; rintro e v1 ⟨rfl, b1⟩
    go_wp2_with fail
    refine (HFw.out _ b1).mono ?_; rintro e v2 ⟨rfl, b2⟩
    replace b2 := below_step b1 b2
    go_wp2_with fail
    go_ret
    exact ⟨rfl, b2⟩
  | true =>
    rw [hfw] at HFw
    have HT : Hid (totH (l.take 30) ≤ 1048576) := Lib.hid (by have := HTot.out hfw; omega)
    clear hfw HTot
    by_cases hgood : 0 ≤ a0 ∧ a0 ≤ 65536
    · obtain ⟨own, rfl⟩ := Int.eq_ofNat_of_zero_le hgood.1
      have hown : own ≤ 65536 := by omega
      have hm1 : decide ((own : Int) < 0) = false := by simp
      have hm2 : decide ((65536 : Int) < own) = false := by simp; omega
      clear hgood
      go_enter Tryd.func4, Tryd.ntmps4
      go_wp2_with fail
      refine HA.out.mono ?_; rintro e v1 ⟨rfl, b1⟩
      go_wp2_with fail
      refine (HFw.out _ b1).mono ?_; rintro e v2 ⟨rfl, b2⟩
      replace b2 := below_step b1 b2
      clear b1 HA HFw
      go_wp2_with fail
      refine (st_newenc (own := own) (Sts.of_below b2) hown).mono ?_; rintro e v3 ⟨ge, Fe, rfl, S3⟩
      have H3 := Lib.hid S3
      clear S3 b2
      go_wp2_with fail
      refine (st_rnewenc (own := own) H3.out hown).mono ?_; rintro e v4 ⟨gr, Fr, rfl, S4⟩
      have H4 := Lib.hid S4
      clear S4 H3
      go_wp2_with fail
      go_loopw [8] (fun vi wr => ∃ (k told least m K : Nat) (rows : List FdM) (Fr Fe : List Nat), k ≤ 30 ∧ k ≤ len1 ∧ vi = .int .i64 k ∧ Hid (Sts w wr [(Fr, REncP Fr gr own told least m rows), (Fe, EncP Fe ge own told least m rows K)]) ∧ Hid (32 * K ≤ totH (l.take k))) (fun vi _ => len1 - (intOf vi).toNat)
      case atStart => exact ⟨0, _, _, _, 0, [], Fr, Fe, by omega, by omega, rfl, H4, Lib.hid (by omega)⟩
      case round =>
        clear H4
        obtain ⟨k, told, least, m, K, rows, Fr, Fe, hk, hkl, rfl, HS, HK⟩ := hrel
        by_cases hlt : k < len1
        · have hlt' : (k : Int) < len1 := by omega
          by_cases h30 : k < 30
          · have h30' : (k : Int) < 30 := by omega
            have hlr : k < l.length := by rw [HL.out]; exact hlt
            obtain ⟨bl, off, rfl, hcs⟩ : ∃ b off, a1 = some ⟨b, off, none⟩ ∧ ∀ i, (h : i < l.length) → Rw.CE EDh w b (off + i * 3) l[i] := by
              rcases HRw.out with h | h
              · rw [h] at hlr; simp at hlr
              · exact h
            obtain ⟨c0, c1, c2⟩ := CE_dh (hcs k hlr)
            have x0 := below_cell HS.out.bel c0
            have x1 := below_cell HS.out.bel c1
            have x2 := below_cell HS.out.bel c2
            have hd := HOk.out l[k] (List.getElem_mem hlr)
            have hts := totH_succ hlr
            have htl := totH_le l (show k + 1 ≤ 30 by omega)
            have hT := HT.out
            have hK := HK.out
            have h32 := csum_len l[k].l
            have hcs1 : csum l[k].l ≤ 1048576 := by omega
            have HK1 : Hid (32 * (K + l[k].l.length) ≤ totH (l.take (k + 1))) := Lib.hid (by omega)
            have hKb : K + l[k].l.length < 1000000 := by omega
            clear hcs c0 c1 c2 hts htl hT hK HK HL HRw h32
            generalize l[k] = d at *
            obtain ⟨ds, dn, da, dc, dl⟩ := d
            simp only at x0 x1 x2 hd HK1 hcs1 hKb
            obtain ⟨hd0, hd1, hd2, hd3, hd4, hd5⟩ := hd
            simp only at hd0 hd1 hd2 hd3 hd4 hd5
            have HRl := Lib.hid hd1
            clear hd1 hd2 hd5 HOk HT
            cases ds with
            | false =>
              have hs5 := st_alloc HS.out #[.bool false, .int .i64 dn, .slice da dl.length dc] 50
              go_wp2_with fail
              generalize wr.alloc (.cells #[.bool false, .int .i64 dn, .slice da dl.length dc] 50) = v5 at hs5 ⊢
              generalize wr.heap.size = bx at hs5 ⊢
              have H5 := Lib.hid hs5
              clear hs5 HS x0 x1 x2
              go_wp2_with fail
              refine law_r19 (W := w) v5 HG H5.out HRl hd3 hd4 hcs1 hKb (Lib.hid ?_)
              intro u77 u78 u79 u80 u81 u82 u83 u84 u85 u86 u87 u88 u89 u90 u91 u92 u93 u94 u95 u96 v9 Fr2 Fe2 hs9
              have HS9 := Lib.hid hs9
              clear hs9 H5
              dsimp only [NoPanic, Exit.then, Exit.inBlock]
              generalize (encList m dl rows).2 = rows2 at HS9
              go_wp2_with fail
              go_roundw
              case rel => exact ⟨k + 1, m, m, m, K + dl.length, rows2, Fr2, Fe2, by omega, by omega, by go_num, HS9, HK1⟩
              case measure => simp [intOf]; omega
            | true =>
              by_cases hneg : dn < 0
              · have hneg' : decide (dn < 0) = true := by simp; omega
                have hs5 := st_alloc HS.out #[.bool true, .int .i64 dn, .slice da dl.length dc] 50
                go_wp2_with fail
                generalize wr.alloc (.cells #[.bool true, .int .i64 dn, .slice da dl.length dc] 50) = v5 at hs5 ⊢
                generalize wr.heap.size = bx at hs5 ⊢
                have H5 := Lib.hid hs5
                clear hs5 HS x0 x1 x2
                refine (plimit_bad _ _ _ hneg).mono ?_; rintro e v6 ⟨rfl, b6⟩
                have H6 := Lib.hid (H5.out.below b6)
                clear b6 H5
                have x1 : v6.cell? ⟨bx, 1, none⟩ = some (.int .i64 dn) := cell_at (H6.out.is 0 rfl : BlkP _ _ _) 1
                go_wp2_with fail
                clear x1
                go_wp2_with fail
                refine law_r19 (W := w) v6 HG H6.out HRl hd3 hd4 hcs1 hKb (Lib.hid ?_)
                intro u77 u78 u79 u80 u81 u82 u83 u84 u85 u86 u87 u88 u89 u90 u91 u92 u93 u94 u95 u96 v9 Fr2 Fe2 hs9
                have HS9 := Lib.hid hs9
                clear hs9 H6
                dsimp only [NoPanic, Exit.then, Exit.inBlock]
                generalize (encList m dl rows).2 = rows2 at HS9
                go_wp2_with fail
                go_roundw
                case rel => exact ⟨k + 1, m, m, m, K + dl.length, rows2, Fr2, Fe2, by omega, by omega, by go_num, HS9, HK1⟩
                case measure => simp [intOf]; omega
              · obtain ⟨n, rfl⟩ := Int.eq_ofNat_of_zero_le (show 0 ≤ dn by omega)
                have hs5 := st_alloc HS.out #[.bool true, .int .i64 n, .slice da dl.length dc] 50
                go_wp2_with fail
                generalize wr.alloc (.cells #[.bool true, .int .i64 n, .slice da dl.length dc] 50) = v5 at hs5 ⊢
                generalize wr.heap.size = bx at hs5 ⊢
                have H5 := Lib.hid hs5
                clear hs5 HS x0 x1 x2
                refine (st_limit H5.out 2 rfl n).mono ?_; rintro e v6 ⟨rfl, Fe1, S6⟩
                have H6 := Lib.hid S6
                clear S6 H5
                simp only [List.set] at H6
                have x1 : v6.cell? ⟨bx, 1, none⟩ = some (.int .i64 n) := cell_at (H6.out.is 0 rfl : BlkP _ _ _) 1
                go_wp2_with fail
                refine (st_rlimit H6.out 1 rfl n).mono ?_; rintro e v7 ⟨rfl, Fr1, S7⟩
                have H7 := Lib.hid S7
                clear S7 H6 x1
                simp only [List.set] at H7
                go_wp2_with fail
                generalize fit (min own n) rows = rowsN at H7
                generalize min least (min own n) = leastN at H7
                generalize min own n = mN at H7
                go_wp2_with fail
                refine law_r19 (W := w) v7 HG H7.out HRl hd3 hd4 hcs1 hKb (Lib.hid ?_)
                intro u77 u78 u79 u80 u81 u82 u83 u84 u85 u86 u87 u88 u89 u90 u91 u92 u93 u94 u95 u96 v9 Fr2 Fe2 hs9
                have HS9 := Lib.hid hs9
                clear hs9 H7
                dsimp only [NoPanic, Exit.then, Exit.inBlock]
                generalize (encList mN dl rowsN).2 = rows2 at HS9
                go_wp2_with fail
                go_roundw
                case rel => exact ⟨k + 1, mN, mN, mN, K + dl.length, rows2, Fr2, Fe2, by omega, by omega, by go_num, HS9, HK1⟩
                case measure => simp [intOf]; omega
          · have h30' : ¬ (k : Int) < 30 := by omega
            have hb9 := HS.out.bel
            go_wp2_with fail
            go_ret
            exact ⟨rfl, hb9⟩
        · have hlt' : ¬ (k : Int) < len1 := by omega
          have hb9 := HS.out.bel
          go_wp2_with fail
          go_ret
          exact ⟨rfl, hb9⟩
    · have HNb := Lib.hid (fun v => pnewenc_bad a0 v (by omega))
      by_cases hneg : a0 < 0
      · have hm1 : decide (a0 < 0) = true := by simp; omega
        clear hgood
        go_enter Tryd.func4, Tryd.ntmps4
        go_wp2_with fail
        refine HA.out.mono ?_; rintro e v1 ⟨rfl, b1⟩
        go_wp2_with fail
        refine (HFw.out _ b1).mono ?_; rintro e v2 ⟨rfl, b2⟩
        replace b2 := below_step b1 b2
        clear b1 HA HFw
        go_wp2_with fail
        refine (HNb.out _).mono ?_; rintro e v3 ⟨rfl, b3⟩
        replace b3 := below_step b2 b3
        go_wp2_with fail
        go_ret
        exact ⟨rfl, b3⟩
      · have hm1 : decide (a0 < 0) = false := by simp; omega
        have hm2 : decide ((65536 : Int) < a0) = true := by simp; omega
        clear hgood
        go_enter Tryd.func4, Tryd.ntmps4
        go_wp2_with fail
        refine HA.out.mono ?_; rintro e v1 ⟨rfl, b1⟩
        go_wp2_with fail
        refine (HFw.out _ b1).mono ?_; rintro e v2 ⟨rfl, b2⟩
        replace b2 := below_step b1 b2
        clear b1 HA HFw
        go_wp2_with fail
        refine (HNb.out _).mono ?_; rintro e v3 ⟨rfl, b3⟩
        replace b3 := below_step b2 b3
        go_wp2_with fail
        go_ret
        exact ⟨rfl, b3⟩


noncomputable def laidWorld (os : Os) : World :=
  { World.holding Tryd.prog os ⟨#[], #[], []⟩ with heap := (((World.holding Tryd.prog os ⟨#[], #[], []⟩).heap).modify 0 fun
      | .cells _ t frozen => .cells #[.int .i64 0, .int .u32 0, .int .i64 0, .int .i64 0, .int .u32 0, .int .i64 0, .int .i64 0, .int .u32 0, .int .i64 0, .int .i64 0, .int .u32 0, .int .i64 0, .int .i64 0, .int .u32 0, .int .i64 0, .int .i64 10, .int .u32 0, .int .i64 0, .int .i64 26, .int .u32 20, .int .i64 10, .int .i64 32, .int .u32 92, .int .i64 36, .int .i64 6, .int .u32 248, .int .i64 68, .int .i64 0, .int .u32 0, .int .i64 0, .int .i64 5, .int .u32 1016, .int .i64 74, .int .i64 3, .int .u32 2042, .int .i64 79, .int .i64 2, .int .u32 4090, .int .i64 82, .int .i64 6, .int .u32 8184, .int .i64 84, .int .i64 2, .int .u32 16380, .int .i64 90, .int .i64 3, .int .u32 32764, .int .i64 92, .int .i64 0, .int .u32 0, .int .i64 0, .int .i64 0, .int .u32 0, .int .i64 0, .int .i64 0, .int .u32 0, .int .i64 0, .int .i64 3, .int .u32 524272, .int .i64 95, .int .i64 8, .int .u32 1048550, .int .i64 98, .int .i64 13, .int .u32 2097116, .int .i64 106, .int .i64 26, .int .u32 4194258, .int .i64 119, .int .i64 29, .int .u32 8388568, .int .i64 145, .int .i64 12, .int .u32 16777194, .int .i64 174, .int .i64 4, .int .u32 33554412, .int .i64 186, .int .i64 15, .int .u32 67108832, .int .i64 190, .int .i64 19, .int .u32 134217694, .int .i64 205, .int .i64 29, .int .u32 268435426, .int .i64 224, .int .i64 0, .int .u32 0, .int .i64 0, .int .i64 4, .int .u32 1073741820, .int .i64 253] t frozen
      | o => o) }
theorem laid_met (os : Os) : laidMet Tryd.prog Rows.hpackEncodesRow.laid ((laidWorld os).forCall (fun _ _ => 0) ⟨#[], #[.int .i64 0, .slice none 0 0], []⟩).memory :=
  laidMet_of_run' 8 (by kernel_rfl) (by kernel_rfl)
theorem reads (os : Os) {H : Type} (enc : TypeId × Value → H) : ∃ places, DataW.whole enc Tryd.prog ((laidWorld os).forCall (fun _ _ => 0) ⟨#[], #[.int .i64 0, .slice none 0 0], []⟩).memory Tryd.f4.params.toList Rows.hpackEncodesSpec.vars false (#[.int .i64 0, .slice none 0 0] : Array Value).toList 8 = some ([.lit (.int .i64 0), .nil], [], places) :=
  ⟨[], by kernel_rfl⟩

set_option maxRecDepth 100000 in
theorem lifted (os : Os) (started : os.Started) (H : Type) (enc : TypeId × Value → H) (F : Stop.Interp) :
    ReturnsInHanded {} Tryd.checked os 4 .any ((OpenSpec.ofChange Rows.hpackEncodesSpec).preRow enc Tryd.prog Tryd.f4 Rows.hpackEncodesRow.domain false Rows.hpackEncodesRow.laid) (((OpenSpec.ofChange Rows.hpackEncodesSpec).at F).post enc Tryd.prog Tryd.f4 false true false false) := by
  obtain ⟨places, hx⟩ := reads os enc
  refine returnsInHanded_of_row (C := Tryd.checked) (s := OpenSpec.ofChange Rows.hpackEncodesSpec) own started (by kernel_rfl) Tryd.func4
    (witness_row_at (enc := enc) (C := Tryd.checked) false (laidWorld os) #[.int .i64 0, .slice none 0 0] rfl (by kernel_rfl) (by kernel_rfl) (by kernel_rfl)
      (OpenSpec.preRow_of_cond 8 hx (by kernel_rfl) (fun k hk => by cases hk) (by kernel_rfl) (laid_met os))) ?_
  intro W base args ds gs before hval0 hW hcnd _ hsz0 hL _ _
  have hsz : (DataW.weightsEach Tryd.prog (Tryd.f4.params.toList ++ Rows.hpackEncodesSpec.plain.varTypes Tryd.prog) (ds ++ gs)).all (· ≤ reachBytes) = true := hsz0
  have hval : ∀ (j : Nat) t v, Tryd.f4.params[j]? = some t → args[j]? = some v → Value.okWide Tryd.prog W .any base t v := hval0
  have hW' := hW
  obtain ⟨p, q, hA0, hV, rfl, hfz, hnd⟩ := hW
  have hA : DataW.TrodAll enc Tryd.prog W 0 (fun _ => true) true Tryd.f4.params.toList args.toList ds p := hA0
  rw [Tryd.params4] at hA hval hsz
  obtain ⟨v0, vs0, d0, ds0, p0, q0, hargs, rfl, rfl, h0, t0⟩ := trodAll_cons hA
  obtain ⟨v1, vs1, d1, ds1, p1, q1, rfl, rfl, rfl, h1, t1⟩ := trodAll_cons t0
  obtain ⟨rfl, rfl, rfl⟩ := trodAll_nil t1
  obtain rfl : args = #[v0, v1] := by cases args; simp_all
  obtain ⟨rfl, rfl⟩ := trodVars_none hV
  have k0 := h0
  have lt0 : ∀ x ∈ p0, x.block < W.heap.size := by obtain ⟨m, hm⟩ := k0; exact DataW.trod_lt m _ _ _ hm
  obtain ⟨a0, rfl, rfl, rfl, w0⟩ := open_int Tryd.underlying3 (hval 0 3 v0 rfl rfl) h0
  have k1 := h1
  have lt1 : ∀ x ∈ p1, x.block < W.heap.size := by obtain ⟨m, hm⟩ := k1; exact DataW.trod_lt m _ _ _ hm
  obtain ⟨a1, len1, cap1, rfl⟩ := okWide_slice Tryd.underlying42 (hval 1 42 v1 rfl rfl)
  obtain ⟨fuel1, hf1⟩ := h1
  have ok1 : Arg.AllOk W [.slc 40 [.bool, .int .i64, .slc 40 [.str, .str, .bool]]] [.slice a1 len1 cap1] := Arg.trod_leaves 9 42 [.slc 40 [.bool, .int .i64, .slc 40 [.str, .str, .bool]]] (by kernel_rfl) hf1 (Arg.sized hsz (j := 1) (t := 42) rfl rfl)
  obtain ⟨aa1, ll1, cc1, hv1, r1, w1⟩ := Arg.LeafOk.slc ok1.1
  simp only [Value.slice.injEq] at hv1
  obtain ⟨rfl, rfl, rfl⟩ := hv1
  clear hA0 hval0 hsz0
  refine (walk a0 a1 len1 cap1 W w0 w1 r1 (grpIs_of (laid := Rows.hpackEncodesRow.laid) hL 0 rfl)).mono fun e W' ⟨he, bel⟩ => ?_
  subst he
  exact ⟨_, rfl, _, _, _, [], _, [], hW', trodAll_mk1 (shut_bool Tryd.underlying4 _), (trodAll_cons_mk (Below.trod laidOut (by kernel_rfl) (of_decide_eq_true (by kernel_rfl)) k0 bel lt0) (trodAll_cons_mk (Below.trod laidOut (by kernel_rfl) (of_decide_eq_true (by kernel_rfl)) k1 bel lt1) trodAll_mk0)), rfl, bel.frame _, fun h => by cases h⟩

theorem over : Rows.hpackEncodesRow.holds Tryd.pinned (OpenSpec.ofChange Rows.hpackEncodesSpec) :=
  OpenClaim.holds_of_cond 4 Tryd.f4 rfl rfl rfl rfl rfl rfl rfl ⟨rfl, rfl, rfl, rfl, rfl⟩ rfl rfl rfl rfl rfl (by kernel_rfl) Tryd.func4 (by kernel_rfl)
    (of_decide_eq_true (by kernel_rfl)) (by unfold Func.isWrapper; first | (rw [if_pos (by decide +kernel)]; kernel_rfl) | (rw [if_neg (by decide +kernel)]; exact ⟨rfl, rfl⟩))
    (fun os started H enc _ F => by rw [OpenClaim.pre_eq_preRow]; exact lifted os started H enc F)

theorem plain (f : FuncId) (fn : Func) (hf : Tryd.pinned.checked.prog.funcNamed "drawbridge/drawbridgelaw05.HpackEncodes" = some f) (hfn : Tryd.pinned.checked.prog.funcs[f]? = some fn) :
    true = Tryd.pinned.checked.prog.looks [] ∧ ∀ (j : Nat) t, fn.params[j]? = some t → Tryd.pinned.checked.prog.wantsStandIn t = false := by
  obtain rfl : f = 4 := Option.some.inj ((show Tryd.prog.funcNamed "drawbridge/drawbridgelaw05.HpackEncodes" = some 4 by kernel_rfl).symm.trans hf) |>.symm
  obtain rfl : fn = Tryd.f4 := (Option.some.inj (Tryd.func4.symm.trans hfn)).symm
  refine ⟨by kernel_rfl, fun j t ht => ?_⟩
  rw [Tryd.params4] at ht
  have hm := Array.mem_of_getElem? ht
  simp only [List.mem_toArray, List.mem_cons, List.not_mem_nil, or_false] at hm
  rcases hm with rfl | rfl
  · exact (show Tryd.prog.wantsStandIn 3 = false by kernel_rfl)
  · exact (show Tryd.prog.wantsStandIn 42 = false by kernel_rfl)

theorem proved : Rows.HpackEncodesCardSaid :=
  Claim7.holds_tied_plain_at .later [] _ _ _ _ over (fun _ h => by cases h) (by kernel_rfl) (fun _ h => by cases h) hpackEncodes_row_tie rfl ⟨rfl, rfl⟩ (by kernel_rfl) rfl plain (by kernel_rfl)
end Go.Proofs.YtdkgachgohilcaaDoor.hpackEncodes
