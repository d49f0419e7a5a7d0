/- Layer 7: the law ChopParts. -/
import Derived.Test.YtglhdlkmgmbgeaaDoorGF01
set_option linter.unusedVariables false
set_option linter.unusedSimpArgs false
namespace Go.Proofs.YtglhdlkmgmbgeaaDoor
open Go.RowKit
open Cho Fra Oct Arg Mem Gen Wr Qu Pt Sx Go.Proofs.YtglhdlkmgmbgeaaDoor.Obj
set_option linter.unusedVariables false
set_option linter.unusedSimpArgs false

/-- What was told is appended to what was told before. -/
theorem st_told {W v : World} {its its2 : List ItX} {ra ta : Option Addr} {rc tc : Nat} {rest : List Th} (h : Sts W v ((sBs its2, SetsP its2) :: (blk ra, RowQ EIt ra rc its2) :: (sBs its, SetsP its) :: (blk ta, RowQ EIt ta tc (its ++ its2)) :: rest)) :
    Sts W v ((sBs (its ++ its2), SetsP (its ++ its2)) :: (blk ta, RowQ EIt ta tc (its ++ its2)) :: rest) := by
  have h2 := (stsJoin h 1 (F := sBs its) (P := SetsP its) rfl).tail
  simp only [List.set] at h2
  rw [sBs_cat, setsP_cat]
  exact h2
theorem st_nothing {W w : World} {obs : List Th} (h : Sts W w obs) : Sts W w ((sBs [], SetsP []) :: (blk none, RowQ EIt none 0 []) :: obs) :=
  (h.add (F := blk none) (P := RowQ EIt none 0 []) (Below.refl _ _) (fun k hk => by cases hk) RowQ.st (Rw.QRow.bare _ _)).add (F := sBs []) (P := SetsP []) (Below.refl _ _) (fun k hk => by cases hk) sets_stab (fun x hx => by cases hx)
theorem rest_le {mo : Int} {aw : Bool} {B : List UInt8} {s : FeM} (h : FeQ (stF mo aw B) s) : s.rest.length ≤ B.length := by
  rw [← h.rest, stF_rest]; exact (all_len B mo aw).2
theorem its_le {mo : Int} {aw : Bool} {B : List UInt8} {its : List ItX} (h : its.map (·.1) = (allF B mo aw).1) : its.length ≤ B.length + 1 := by
  rw [its_len h]; exact (all_len B mo aw).1

set_option maxRecDepth 100000 in
set_option maxHeartbeats 16000000 in
theorem law_parts7 (most : Int) (aw : Bool) (l : List BlM) (ad : Option Addr) (cap : Nat) (w : World) (hr : Rw.RowE EBl w ad l) (hok : ∀ d ∈ l, d.ok w) (hc : l.length ≤ cap) (hm : cap ≤ maxLen) (hs : SpIs w) :
    Calls Tryd.prog 4 #[.int .i64 most, .bool aw, .slice ad l.length cap] w fun e w' => e = .returned (.bool true) ∧ Below w.heap.size w w' := by
  have HA := Lib.hid (awake7_any w hs)
  have HSp := Lib.hid hs
  have HRw := Lib.hid hr
  have HOk := Lib.hid hok
  have HJn := Lib.hid (fun v (hv : Below w.heap.size w v) => joined_any l ad cap v (hr.below hv) (fun d hd => by
    obtain ⟨h1, h2⟩ := hok d hd
    exact ⟨h1.below hv, h2⟩) (by unfold maxLen at hm; omega))
  obtain ⟨i0, hi, hz0, hz1, hz2⟩ := info_parts info_it
  have HI8 := Lib.hid hi
  have HZ0 := Lib.hid hz0
  have HZ1 := Lib.hid hz1
  have HZ2 := Lib.hid hz2
  clear hi hz0 hz1 hz2
  obtain ⟨n, hn⟩ : ∃ n, n = l.length := ⟨_, rfl⟩
  rw [← hn] at hc ⊢
  simp only [← hn] at HJn
  have HN := Lib.hid hn
  have hnb : n ≤ 9223372036854775807 := by unfold maxLen at hm; omega
  clear hn hr hok hs hm hc
  go_enter Tryd.func4, Tryd.ntmps4
  go_wp2_with fail
  refine HA.out.mono ?_
  rintro e w1 ⟨rfl, b1⟩
  have HB1 := Lib.hid b1
  clear b1 HA
  go_wp2_with fail
  refine (HJn.out w1 HB1.out).mono ?_
  rintro e w2 ⟨ja, jc, jn, rfl, b2, hJ⟩
  have HB2 := Lib.hid (below_step HB1.out b2)
  clear b2 HJn
  cases hj : joB 0 0 l with
  | false =>
    clear hJ hj
    go_wp2_with fail
    go_ret
    exact ⟨rfl, HB2.out⟩
  | true =>
    obtain ⟨hjn, S2⟩ := hJ hj
    have hTot : (catB l).length ≤ 131072 := by have := joB_len l 0 0 hj (by omega); omega
    clear hJ hj
    obtain ⟨A, hA⟩ : ∃ A, A = catB l := ⟨_, rfl⟩
    rw [← hA] at S2 hTot hjn
    have HAe := Lib.hid hA
    have HS2 := Lib.hid (stsStack (Sts.of_below HB1.out) S2)
    simp only [List.append_nil] at HS2
    have HJN := Lib.hid hjn
    have hjb : jn ≤ 131072 := by omega
    have HTot := Lib.hid hTot
    clear hA S2 HB2 HB1 hjn hTot
    obtain ⟨mo, hmo⟩ : ∃ mo, mo = max most 0 := ⟨_, rfl⟩
    go_wp2_with fail
    refine (st_feed most aw HS2.out).mono ?_
    rintro e w3 ⟨fa, rfl, S3⟩
    rw [← hmo] at S3
    have HS3 := Lib.hid S3
    clear S3 HS2
    go_wp2_with fail
    refine (st_feed most aw HS3.out).mono ?_
    rintro e w4 ⟨fb, rfl, S4⟩
    rw [← hmo] at S4
    have HS4 := Lib.hid S4
    clear S4 HS3
    go_wp2_with fail
    refine (st_feed most aw HS4.out).mono ?_
    rintro e w5 ⟨fc, rfl, S5⟩
    rw [← hmo] at S5
    have HS5 := Lib.hid S5
    clear S5 HS4 hmo
    have hra : RB w5 ja A := rb_of_q (show Rw.QRow EBy w5 ja jc A from HS5.out.is 3 rfl).row
    have ht := ptake_feed (cap := jc) (N := 300000) HS5.out (i := 2) rfl HSp.out hra (by have := HTot.out; simp only [List.length_nil]; omega) (by decide)
    rw [← HJN.out] at ht
    have HTk := Lib.hid ht
    clear ht hra
    go_wp2_with fail
    refine HTk.out.mono ?_
    rintro e w6 ⟨ix, xa, xc, la1, lc1, s1, rfl, hm1, hq1, _, _, S6⟩
    simp only [List.set] at S6
    have HX : Hid (ix.map (·.1) = (allF A mo aw).1 ∧ FeQ (stF mo aw A) s1) := Lib.hid (by
      have h := feed_all mo aw A
      exact ⟨hm1.trans h.1, (feQ_symm h.2).trans hq1⟩)
    have HS7 := Lib.hid (st_nothing S6)
    obtain ⟨xn, hxn⟩ : ∃ xn, xn = ix.length := ⟨_, rfl⟩
    rw [← hxn]
    have HXn := Lib.hid hxn
    clear hm1 hq1 S6 HS5 HTk hxn
    go_wp2_with fail
    go_loopw [13, 14] (fun vt vi wr => ∃ (k : Nat) (ta : Option Addr) (tc tn : Nat) (la : Option Addr) (lc : Nat) (s : FeM) (its : List ItX), k ≤ n ∧ vi = .int .i64 k ∧ vt = .slice ta tn tc ∧
        Hid (Sts w wr [(sBs its, SetsP its), (blk ta, RowQ EIt ta tc its), (sBs ix, SetsP ix), (blk xa, RowQ EIt xa xc ix), (fc :: blk none, FdP fc none 0 mo ⟨[], aw, false⟩), (fb :: blk la, FdP fb la lc mo s), (fa :: blk la1, FdP fa la1 lc1 mo s1), (blk ja, RowQ EBy ja jc A)]) ∧ Hid (tn = its.length) ∧ Hid (its.map (·.1) = (allF (catB (l.take k)) mo aw).1 ∧ FeQ (stF mo aw (catB (l.take k))) s)) (fun _ vi _ => n - (intOf vi).toNat)
    case atStart => exact ⟨0, none, 0, 0, none, 0, ⟨[], aw, false⟩, [], Nat.zero_le _, rfl, rfl, HS7, Lib.hid rfl, Lib.hid ⟨by rw [show catB (l.take 0) = [] from rfl, all_nil]; rfl, by rw [show catB (l.take 0) = [] from rfl, stF_nil]; exact FeQ.refl _⟩⟩
    case round =>
      clear HS7
      obtain ⟨k, ta, tc, tn, la, lc, s, its, hkn, rfl, rfl, HS, HLn, HInv⟩ := hrel
      by_cases hlt : k < n
      · have hlt' : (k : Int) < n := by omega
        have hlr : k < l.length := by rw [← HN.out]; exact hlt
        obtain ⟨bl, off, rfl, hcs⟩ : ∃ b off, ad = some ⟨b, off, none⟩ ∧ ∀ i, (h : i < l.length) → Rw.CE EBl w b (off + i * 1) l[i] := by
          rcases HRw.out with h | h
          · rw [h] at hlr; simp at hlr
          · exact h
        have hx0 := CE_bl (hcs k hlr)
        rw [Nat.mul_one] at hx0
        have x0 := below_cell HS.out.bel hx0
        have hd := HOk.out l[k] (List.getElem_mem hlr)
        have hcat := catB_succ hlr
        have hcle := catB_le l (k + 1)
        have HRb := Lib.hid (hd.1.below HS.out.bel)
        obtain ⟨C, hC⟩ : ∃ C, C = catB (l.take (k + 1)) := ⟨_, rfl⟩
        obtain ⟨B, hB⟩ : ∃ B, B = catB (l.take k) := ⟨_, rfl⟩
        rw [← hC] at hcat hcle
        rw [← hB] at hcat HInv
        have HC := Lib.hid hC
        clear hcs hx0 hd hC hB
        generalize l[k] = d at *
        obtain ⟨da, dc, dl⟩ := d
        simp only at x0 HRb hcat
        have hCl : C.length = B.length + dl.length := by rw [hcat, List.length_append]
        have hCb : C.length ≤ 131072 := Nat.le_trans hcle (by rw [← HAe.out]; exact HTot.out)
        have hrest := rest_le HInv.out.2
        have ht := ptake_feed (cap := dc) (N := 300000) HS.out (i := 5) rfl HSp.out HRb.out (by omega) (by decide)
        obtain ⟨q, hq⟩ : ∃ q, q = dl.length := ⟨_, rfl⟩
        rw [← hq] at x0 ht
        have HTk := Lib.hid ht
        have HCat := Lib.hid hcat
        have hits := its_le HInv.out.1
        have htn : tn ≤ 131073 := by rw [HLn.out]; omega
        have HCb := Lib.hid hCb
        clear ht hq hrest hCl hcle hcat hits hCb
        go_wp2_with fail
        refine HTk.out.mono ?_
        rintro e w7 ⟨its2, ra, rc, la2, lc2, s2, rfl, hm2, hq2, _, hl2, S7⟩
        simp only [List.set] at S7
        have HMore := Lib.hid (feed_more (most := mo) (aw := aw) HInv.out.2 hq2)
        have HS8 := Lib.hid S7
        have HM2 := Lib.hid hm2
        obtain ⟨m2, hm2'⟩ : ∃ m2, m2 = its2.length := ⟨_, rfl⟩
        rw [← hm2'] at hl2 ⊢
        have HL2 := Lib.hid hm2'
        have HTa : Hid (Rw.QRow EIt w7 ta tc its) := Lib.hid (HS8.out.is 3 rfl)
        have HRa : Hid (Rw.RowE EIt w7 ra its2) := Lib.hid (show Rw.QRow EIt w7 ra rc its2 from HS8.out.is 1 rfl).row
        have HLen3 : Hid (tn + m2 ≤ maxLen ∧ (tn + m2) * 144 ≤ 140737488355328) := Lib.hid ⟨by unfold maxLen; omega, by omega⟩
        clear S7 hq2 hm2 hm2' HTk HS
        go_wp2_with (at_builtin; refine wl_que0 EIt Tryd.underlying29 HI8.out HZ0.out HZ1.out HZ2.out rfl rfl (.tmp 44) (.tmp 50) rfl ta tn tc its rfl HLn.out HTa.out ra m2 its2 rc rfl HL2.out HRa.out HLen3.out.1 HLen3.out.2 ?_; intro ta2 tc2 w8 hq5 hg5 hn5; have HS9 := Lib.hid (stsApp HS8.out 3 rfl hg5.out hq5.out hn5.out); clear hq5 hg5 hn5)
        go_roundw
        case rel =>
          refine ⟨k + 1, ta2, tc2, tn + m2, la2, lc2, s2, its ++ its2, by omega, by go_num, rfl, Lib.hid ?_, Lib.hid (by rw [List.length_append, HLn.out, HL2.out]), ?_⟩
          · have h := HS9.out
            simp only [List.set] at h
            exact st_told h
          · rw [← HC.out]
            exact Lib.hid ⟨by rw [List.map_append, HInv.out.1, HM2.out, HCat.out]; exact HMore.out.1.symm, by rw [HCat.out]; exact HMore.out.2⟩
        case measure => simp [intOf]; omega
      · have hkn' : k = n := by omega
        subst hkn'
        have hlt' : ¬ (k : Int) < k := by omega
        have HY : Hid (its.map (·.1) = (allF A mo aw).1 ∧ FeQ (stF mo aw A) s) := Lib.hid (by
          have e : l.take k = l := List.take_of_length_le (by rw [← HN.out]; exact Nat.le_refl _)
          have h := HInv.out
          rw [e, ← HAe.out] at h
          exact h)
        have HS8 := Lib.hid (st_nothing HS.out)
        clear HS HInv
        -- Z
        obtain ⟨lf, hlf⟩ : ∃ lf : Int, lf = ((allF A mo aw).2.1.length : Nat) := ⟨_, rfl⟩
        obtain ⟨ov, hov⟩ : ∃ ov, ov = (allF A mo aw).2.2 := ⟨_, rfl⟩
        have HLf := Lib.hid hlf
        have HOv := Lib.hid hov
        clear hlf hov
        go_wp2_with fail
        go_loopw [15, 16] (fun vz vi wr => ∃ (j : Nat) (za : Option Addr) (zc zn : Nat) (lz : Option Addr) (zlc : Nat) (sz : FeM) (iz : List ItX), j ≤ jn ∧ j ≤ 600 ∧ vi = .int .i64 j ∧ vz = .slice za zn zc ∧
            Hid (Sts w wr [(sBs iz, SetsP iz), (blk za, RowQ EIt za zc iz), (sBs its, SetsP its), (blk ta, RowQ EIt ta tc its), (sBs ix, SetsP ix), (blk xa, RowQ EIt xa xc ix), (fc :: blk lz, FdP fc lz zlc mo sz), (fb :: blk la, FdP fb la lc mo s), (fa :: blk la1, FdP fa la1 lc1 mo s1), (blk ja, RowQ EBy ja jc A)]) ∧ Hid (zn = iz.length) ∧ Hid (iz.map (·.1) = (allF (A.take j) mo aw).1 ∧ FeQ (stF mo aw (A.take j)) sz)) (fun _ vi _ => jn - (intOf vi).toNat)
        case atStart => exact ⟨0, none, 0, 0, none, 0, ⟨[], aw, false⟩, [], Nat.zero_le _, by omega, rfl, rfl, HS8, Lib.hid rfl, Lib.hid ⟨by rw [show A.take 0 = [] from rfl, all_nil]; rfl, by rw [show A.take 0 = [] from rfl, stF_nil]; exact FeQ.refl _⟩⟩
        case round =>
          clear HS8
          obtain ⟨j, za, zc, zn, lz, zlc, sz, iz, hjn, hj6, rfl, rfl, HS, HZn, HInv⟩ := hrel
          by_cases hlt : j < jn
          · have hlt' : (j : Int) < jn := by omega
            by_cases h6 : j < 600
            · have h6' : (j : Int) < 600 := by omega
              have hqj : Rw.QRow EBy _ ja jc A := HS.out.is 9 rfl
              have hjc : jn ≤ jc := by rw [HJN.out]; exact hqj.le
              have HRb := Lib.hid (rb_take (Sl.rb_from (rb_of_q hqj.row) j hqj.le) 1)
              have hjA : j < A.length := by rw [← HJN.out]; exact hlt
              have hone : (A.drop j).take 1 = [A[j]] := by rw [List.drop_eq_getElem_cons hjA]; rfl
              have hsn : A.take (j + 1) = A.take j ++ [A[j]] := take_snoc' A j hjA
              rw [hone] at HRb
              have hcm := hqj.max
              have hsl : ∀ v, (Instr.slice 24 (.slice ja jn jc) (some (.int .i64 (j : Int))) (some (.int .i64 ((j : Int) + 1))) none).run Tryd.prog v = .ok (.slice (Sl.adOf ja jc j 1) 1 (jc - j)) v := fun v => by
                have h := run_mid (P := Tryd.prog) (t := 24) Tryd.underlying24 (size := 1) size_by ja jn jc j 1 (by omega) hjc v
                simpa using h
              have hrest := rest_le HInv.out.2
              have htl : (A.take j).length ≤ 131072 := by rw [List.length_take]; have := HTot.out; omega
              have ht := ptake_feed (c := [A[j]]) (cap := jc - j) (N := 300000) HS.out (i := 6) rfl HSp.out HRb.out (by simp; omega) (by decide)
              have hits := its_le HInv.out.1
              have hzn : zn ≤ 131073 := by rw [HZn.out]; omega
              have HTk := Lib.hid ht
              have HSn := Lib.hid hsn
              generalize A[j] = cA at HTk HSn
              generalize Sl.adOf ja jc j 1 = sad at hsl HTk
              generalize jc - j = scap at hsl HTk
              clear hqj hone hsn ht hits htl hrest hcm HRb
              go_wp2_with fail
              refine HTk.out.mono ?_
              rintro e w7 ⟨its2, ra, rc, la2, lc2, s2, rfl, hm2, hq2, _, hl2, S7⟩
              simp only [List.set] at S7
              have HMore := Lib.hid (feed_more (most := mo) (aw := aw) HInv.out.2 hq2)
              have HS9 := Lib.hid S7
              have HM2 := Lib.hid hm2
              obtain ⟨m2, hm2'⟩ : ∃ m2, m2 = its2.length := ⟨_, rfl⟩
              rw [← hm2'] at hl2 ⊢
              have HL2 := Lib.hid hm2'
              have HTa : Hid (Rw.QRow EIt w7 za zc iz) := Lib.hid (HS9.out.is 3 rfl)
              have HRa : Hid (Rw.RowE EIt w7 ra its2) := Lib.hid (show Rw.QRow EIt w7 ra rc its2 from HS9.out.is 1 rfl).row
              have HLen3 : Hid (zn + m2 ≤ maxLen ∧ (zn + m2) * 144 ≤ 140737488355328) := Lib.hid ⟨by unfold maxLen; omega, by omega⟩
              clear S7 hq2 hm2 hm2' HTk HS hsl
              go_wp2_with (at_builtin; refine wl_que0 EIt Tryd.underlying29 HI8.out HZ0.out HZ1.out HZ2.out rfl rfl (.tmp 62) (.tmp 69) rfl za zn zc iz rfl HZn.out HTa.out ra m2 its2 rc rfl HL2.out HRa.out HLen3.out.1 HLen3.out.2 ?_; intro ta2 tc2 w8 hq5 hg5 hn5; have HS10 := Lib.hid (stsApp HS9.out 3 rfl hg5.out hq5.out hn5.out); clear hq5 hg5 hn5)
              go_roundw
              case rel =>
                refine ⟨j + 1, ta2, tc2, zn + m2, la2, lc2, s2, iz ++ its2, by omega, by omega, by go_num, rfl, Lib.hid ?_, Lib.hid (by rw [List.length_append, HZn.out, HL2.out]), ?_⟩
                · have h := HS10.out
                  simp only [List.set] at h
                  exact st_told h
                · exact Lib.hid ⟨by rw [List.map_append, HInv.out.1, HM2.out, HSn.out]; exact HMore.out.1.symm, by rw [HSn.out]; exact HMore.out.2⟩
              case measure => simp [intOf]; omega
            · have h6' : ¬ (j : Int) < 600 := by omega
              have hj600 : j = 600 := by omega
              subst hj600
              have hbig : (jn : Int) > 600 := by omega
              have hqj : Rw.QRow EBy _ ja jc A := HS.out.is 9 rfl
              have hjc : jn ≤ jc := by rw [HJN.out]; exact hqj.le
              have HRb := Lib.hid (Sl.rb_from (rb_of_q hqj.row) 600 hqj.le)
              have hsl : ∀ v, (Instr.slice 24 (.slice ja jn jc) (some (.int .i64 600)) none none).run Tryd.prog v = .ok (.slice (Sl.adOf ja jc 600 1) (jn - 600) (jc - 600)) v := fun v => Sl.run_from (P := Tryd.prog) (t := 24) Tryd.underlying24 (size := 1) size_by ja jn jc 600 (by omega) hjc v
              have hrest := rest_le HInv.out.2
              have htl : (A.take 600).length ≤ 131072 := by rw [List.length_take]; have := HTot.out; omega
              have hdl : (A.drop 600).length = jn - 600 := by rw [List.length_drop, HJN.out]
              have ht := ptake_feed (c := A.drop 600) (cap := jc - 600) (N := 300000) HS.out (i := 6) rfl HSp.out HRb.out (by rw [hdl]; omega) (by decide)
              rw [hdl] at ht
              have hits := its_le HInv.out.1
              have hzn : zn ≤ 131073 := by rw [HZn.out]; omega
              have HTk := Lib.hid ht
              have HSn : Hid (A = A.take 600 ++ A.drop 600) := Lib.hid (List.take_append_drop 600 A).symm
              generalize A.drop 600 = cA at HTk HSn
              generalize Sl.adOf ja jc 600 1 = sad at hsl HTk
              generalize jc - 600 = scap at hsl HTk
              generalize jn - 600 = slen at hsl HTk
              clear hqj ht hits htl hrest HRb hdl
              go_wp2_with fail
              refine HTk.out.mono ?_
              rintro e w7 ⟨its2, ra, rc, la2, lc2, s2, rfl, hm2, hq2, _, hl2, S7⟩
              simp only [List.set] at S7
              have hmore := feed_more (most := mo) (aw := aw) HInv.out.2 hq2
              rw [← HSn.out] at hmore
              have HMore := Lib.hid hmore
              have HS9 := Lib.hid S7
              have HM2 := Lib.hid hm2
              obtain ⟨m2, hm2'⟩ : ∃ m2, m2 = its2.length := ⟨_, rfl⟩
              rw [← hm2'] at hl2 ⊢
              have HL2 := Lib.hid hm2'
              have HTa : Hid (Rw.QRow EIt w7 za zc iz) := Lib.hid (HS9.out.is 3 rfl)
              have HRa : Hid (Rw.RowE EIt w7 ra its2) := Lib.hid (show Rw.QRow EIt w7 ra rc its2 from HS9.out.is 1 rfl).row
              have HLen3 : Hid (zn + m2 ≤ maxLen ∧ (zn + m2) * 144 ≤ 140737488355328) := Lib.hid ⟨by unfold maxLen; omega, by omega⟩
              clear S7 hq2 hm2 hm2' HTk HS hsl hmore
              go_wp2_with (at_builtin; refine wl_que0 EIt Tryd.underlying29 HI8.out HZ0.out HZ1.out HZ2.out rfl rfl (.tmp 74) (.tmp 78) rfl za zn zc iz rfl HZn.out HTa.out ra m2 its2 rc rfl HL2.out HRa.out HLen3.out.1 HLen3.out.2 ?_; intro ta2 tc2 w8 hq5 hg5 hn5; have HS10 := Lib.hid (stsApp HS9.out 3 rfl hg5.out hq5.out hn5.out); clear hq5 hg5 hn5)
              have HSf0 := HS10.out
              simp only [List.set] at HSf0
              have HSf := Lib.hid (st_told HSf0)
              have HZ : Hid ((iz ++ its2).map (·.1) = (allF A mo aw).1 ∧ FeQ (stF mo aw A) s2) := Lib.hid ⟨by rw [List.map_append, HInv.out.1, HM2.out]; exact HMore.out.1.symm, HMore.out.2⟩
              have HZn2 : Hid (zn + m2 = (iz ++ its2).length) := Lib.hid (by rw [List.length_append, HZn.out, HL2.out])
              clear HSf0 HS10 HS9 HTa HRa HLen3 HInv HM2 HMore HSn HZn HL2 hbig
              generalize iz ++ its2 = iz at HSf HZ HZn2
              generalize zn + m2 = zn at HZn2 ⊢
              have HZn := HZn2
              clear HZn2
              obtain ⟨za, rfl⟩ : ∃ za, za = ta2 := ⟨_, rfl⟩
              obtain ⟨zc, rfl⟩ : ∃ zc, zc = tc2 := ⟨_, rfl⟩
              obtain ⟨lz, rfl⟩ : ∃ lz, lz = la2 := ⟨_, rfl⟩
              obtain ⟨zlc, rfl⟩ : ∃ zlc, zlc = lc2 := ⟨_, rfl⟩
              obtain ⟨sz, rfl⟩ : ∃ sz, sz = s2 := ⟨_, rfl⟩
              have HF : Hid (∀ v, Sts w v [(sBs iz, SetsP iz), (blk za, RowQ EIt za zc iz), (sBs its, SetsP its), (blk ta, RowQ EIt ta tc its), (sBs ix, SetsP ix), (blk xa, RowQ EIt xa xc ix), (fc :: blk lz, FdP fc lz zlc mo sz), (fb :: blk la, FdP fb la lc mo s), (fa :: blk la1, FdP fa la1 lc1 mo s1), (blk ja, RowQ EBy ja jc A)] →
                  (∀ p q r, ((p = ta ∧ q = tn ∧ r = tc) ∨ (p = za ∧ q = zn ∧ r = zc)) → Calls Tryd.prog 13 #[.slice xa xn xc, .slice p q r] v fun e w' => e = .returned (.bool true) ∧ Below v.heap.size v w') ∧
                  (∀ p, (p = fa ∨ p = fb ∨ p = fc) → (Calls Tryd.prog 14 #[.pointer (some ⟨p, 0, none⟩)] v fun e w' => e = .returned (.int .i64 lf) ∧ v = w') ∧ (Calls Tryd.prog 15 #[.pointer (some ⟨p, 0, none⟩)] v fun e w' => e = .returned (.bool ov) ∧ v = w'))) := Lib.hid (fun v hv => by
                have hxl := its_le HX.out.1
                have hA := HTot.out
                refine ⟨fun p q r hp => ?_, fun p hp => ?_⟩
                · rcases hp with ⟨rfl, rfl, rfl⟩ | ⟨rfl, rfl, rfl⟩
                  · have h := rsame07_any ix its xa p xc r v (show Rw.QRow EIt v xa xc ix from hv.is 5 rfl).row (show Rw.QRow EIt v p r its from hv.is 3 rfl).row (hv.is 4 rfl) (hv.is 2 rfl) (by omega)
                    rw [decide_eq_true (by rw [HX.out.1, HY.out.1]), ← HXn.out, ← HLn.out] at h
                    exact h
                  · have h := rsame07_any ix iz xa p xc r v (show Rw.QRow EIt v xa xc ix from hv.is 5 rfl).row (show Rw.QRow EIt v p r iz from hv.is 1 rfl).row (hv.is 4 rfl) (hv.is 0 rfl) (by omega)
                    rw [decide_eq_true (by rw [HX.out.1, HZ.out.1]), ← HXn.out, ← HZn.out] at h
                    exact h
                · rcases hp with rfl | rfl | rfl
                  · have hF : FdO p la1 lc1 mo s1 v := hv.is 8 rfl
                    have h1 := pleft_any v hF
                    have h2 := pover_any v hF
                    rw [← HX.out.2.rest, stF_rest, ← HLf.out] at h1
                    rw [← HX.out.2.over, stF_over, ← HOv.out] at h2
                    exact ⟨h1, h2⟩
                  · have hF : FdO p la lc mo s v := hv.is 7 rfl
                    have h1 := pleft_any v hF
                    have h2 := pover_any v hF
                    rw [← HY.out.2.rest, stF_rest, ← HLf.out] at h1
                    rw [← HY.out.2.over, stF_over, ← HOv.out] at h2
                    exact ⟨h1, h2⟩
                  · have hF : FdO p lz zlc mo sz v := hv.is 6 rfl
                    have h1 := pleft_any v hF
                    have h2 := pover_any v hF
                    rw [← HZ.out.2.rest, stF_rest, ← HLf.out] at h1
                    rw [← HZ.out.2.over, stF_over, ← HOv.out] at h2
                    exact ⟨h1, h2⟩)
              clear HX HY HZ HXn HLn HZn HLf HOv HTot HSp HRw HOk HN HAe HJN
              refine ((HF.out _ HSf.out).1 _ _ _ (.inl ⟨rfl, rfl, rfl⟩)).mono ?_
              rintro e v1 ⟨rfl, bv1⟩
              have HSg := Lib.hid (HSf.out.below bv1)
              clear bv1 HSf
              go_wp2_with fail
              refine ((HF.out _ HSg.out).1 _ _ _ (.inr ⟨rfl, rfl, rfl⟩)).mono ?_
              rintro e v2 ⟨rfl, bv2⟩
              have HSh := Lib.hid (HSg.out.below bv2)
              have HFF := Lib.hid (HF.out _ HSh.out).2
              have HBe := Lib.hid HSh.out.bel
              clear bv2 HSg HSh HF
              go_wp2_with (first
                | (go_at_call 14; refine (HFF.out _ (by simp)).1.mono ?_; rintro e v3 ⟨rfl, rfl⟩)
                | (go_at_call 15; refine (HFF.out _ (by simp)).2.mono ?_; rintro e v3 ⟨rfl, rfl⟩))
              go_ret
              exact ⟨by simp, HBe.out⟩
          · have hje : j = jn := by omega
            subst hje
            have hlt' : ¬ (j : Int) < j := by omega
            have hbig : ¬ (j : Int) > 600 := by omega
            have HZ : Hid (iz.map (·.1) = (allF A mo aw).1 ∧ FeQ (stF mo aw A) sz) := Lib.hid (by
              have e : A.take j = A := List.take_of_length_le (by rw [← HJN.out]; exact Nat.le_refl _)
              have h := HInv.out
              rw [e] at h
              exact h)
            have HSf := HS
            clear HInv HS
            have HF : Hid (∀ v, Sts w v [(sBs iz, SetsP iz), (blk za, RowQ EIt za zc iz), (sBs its, SetsP its), (blk ta, RowQ EIt ta tc its), (sBs ix, SetsP ix), (blk xa, RowQ EIt xa xc ix), (fc :: blk lz, FdP fc lz zlc mo sz), (fb :: blk la, FdP fb la lc mo s), (fa :: blk la1, FdP fa la1 lc1 mo s1), (blk ja, RowQ EBy ja jc A)] →
                (∀ p q r, ((p = ta ∧ q = tn ∧ r = tc) ∨ (p = za ∧ q = zn ∧ r = zc)) → Calls Tryd.prog 13 #[.slice xa xn xc, .slice p q r] v fun e w' => e = .returned (.bool true) ∧ Below v.heap.size v w') ∧
                (∀ p, (p = fa ∨ p = fb ∨ p = fc) → (Calls Tryd.prog 14 #[.pointer (some ⟨p, 0, none⟩)] v fun e w' => e = .returned (.int .i64 lf) ∧ v = w') ∧ (Calls Tryd.prog 15 #[.pointer (some ⟨p, 0, none⟩)] v fun e w' => e = .returned (.bool ov) ∧ v = w'))) := Lib.hid (fun v hv => by
              have hxl := its_le HX.out.1
              have hA := HTot.out
              refine ⟨fun p q r hp => ?_, fun p hp => ?_⟩
              · rcases hp with ⟨rfl, rfl, rfl⟩ | ⟨rfl, rfl, rfl⟩
                · have h := rsame07_any ix its xa p xc r v (show Rw.QRow EIt v xa xc ix from hv.is 5 rfl).row (show Rw.QRow EIt v p r its from hv.is 3 rfl).row (hv.is 4 rfl) (hv.is 2 rfl) (by omega)
                  rw [decide_eq_true (by rw [HX.out.1, HY.out.1]), ← HXn.out, ← HLn.out] at h
                  exact h
                · have h := rsame07_any ix iz xa p xc r v (show Rw.QRow EIt v xa xc ix from hv.is 5 rfl).row (show Rw.QRow EIt v p r iz from hv.is 1 rfl).row (hv.is 4 rfl) (hv.is 0 rfl) (by omega)
                  rw [decide_eq_true (by rw [HX.out.1, HZ.out.1]), ← HXn.out, ← HZn.out] at h
                  exact h
              · rcases hp with rfl | rfl | rfl
                · have hF : FdO p la1 lc1 mo s1 v := hv.is 8 rfl
                  have h1 := pleft_any v hF
                  have h2 := pover_any v hF
                  rw [← HX.out.2.rest, stF_rest, ← HLf.out] at h1
                  rw [← HX.out.2.over, stF_over, ← HOv.out] at h2
                  exact ⟨h1, h2⟩
                · have hF : FdO p la lc mo s v := hv.is 7 rfl
                  have h1 := pleft_any v hF
                  have h2 := pover_any v hF
                  rw [← HY.out.2.rest, stF_rest, ← HLf.out] at h1
                  rw [← HY.out.2.over, stF_over, ← HOv.out] at h2
                  exact ⟨h1, h2⟩
                · have hF : FdO p lz zlc mo sz v := hv.is 6 rfl
                  have h1 := pleft_any v hF
                  have h2 := pover_any v hF
                  rw [← HZ.out.2.rest, stF_rest, ← HLf.out] at h1
                  rw [← HZ.out.2.over, stF_over, ← HOv.out] at h2
                  exact ⟨h1, h2⟩)
            clear HX HY HZ HXn HLn HZn HLf HOv HTot HSp HRw HOk HN HAe HJN
            go_wp2_with fail
            refine ((HF.out _ HSf.out).1 _ _ _ (.inl ⟨rfl, rfl, rfl⟩)).mono ?_
            rintro e v1 ⟨rfl, bv1⟩
            have HSg := Lib.hid (HSf.out.below bv1)
            clear bv1 HSf
            go_wp2_with fail
            refine ((HF.out _ HSg.out).1 _ _ _ (.inr ⟨rfl, rfl, rfl⟩)).mono ?_
            rintro e v2 ⟨rfl, bv2⟩
            have HSh := Lib.hid (HSg.out.below bv2)
            have HFF := Lib.hid (HF.out _ HSh.out).2
            have HBe := Lib.hid HSh.out.bel
            clear bv2 HSg HSh HF
            go_wp2_with (first
              | (go_at_call 14; refine (HFF.out _ (by simp)).1.mono ?_; rintro e v3 ⟨rfl, rfl⟩)
              | (go_at_call 15; refine (HFF.out _ (by simp)).2.mono ?_; rintro e v3 ⟨rfl, rfl⟩))
            go_ret
            exact ⟨by simp, HBe.out⟩
end Go.Proofs.YtglhdlkmgmbgeaaDoor
