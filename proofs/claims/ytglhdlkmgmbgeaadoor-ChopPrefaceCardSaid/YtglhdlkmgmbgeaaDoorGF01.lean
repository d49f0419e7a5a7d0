/- Layer 7: the law ChopTakes. -/
import Derived.Test.YtglhdlkmgmbgeaaDoorGE01
set_option linter.unusedVariables false
set_option linter.unusedSimpArgs false
namespace Go.Proofs.YtglhdlkmgmbgeaaDoor
open Go.RowKit
open Cho Fra Oct Arg Mem Gen Wr Qu Pt Sx Go.Proofs.YtglhdlkmgmbgeaaDoor.Obj
set_option linter.unusedVariables false
set_option linter.unusedSimpArgs false

theorem setsP_cat (a b : List ItX) : SetsP (a ++ b) = fun v => SetsP a v ∧ SetsP b v := by
  funext v
  simp only [SetsP, List.mem_append, eq_iff_iff]
  exact ⟨fun h => ⟨fun y hy => h y (.inl hy), fun y hy => h y (.inr hy)⟩, fun h y hy => hy.elim (h.1 y) (h.2 y)⟩
theorem sBs_cat (a b : List ItX) : sBs (a ++ b) = sBs a ++ sBs b := by simp [sBs]
theorem its_len {its : List ItX} {T : List ItM} (h : its.map (·.1) = T) : its.length = T.length := by rw [← h]; simp

set_option maxRecDepth 100000 in
set_option maxHeartbeats 16000000 in
theorem law_takes7 (most : Int) (aw : Bool) (l : List BlM) (ad : Option Addr) (cap : Nat) (w : World) (hr : Rw.RowE EBl w ad l) (hok : ∀ d ∈ l, d.ok w) (hc : l.length ≤ cap) (hm : cap ≤ maxLen) (hs : SpIs w) :
    Calls Tryd.prog 3 #[.int .i64 most, .bool aw, .slice ad l.length cap] w fun e w' => e = .returned (.bool true) ∧ Below w.heap.size w w' := by
  have HA := Lib.hid (awake7_any w hs)
  have HSp := Lib.hid hs
  have HRw := Lib.hid hr
  have HOk := Lib.hid hok
  have HJn := Lib.hid (fun v (hv : Below w.heap.size w v) => joined_any l ad cap v (hr.below hv) (fun d hd => by
    obtain ⟨h1, h2⟩ := hok d hd
    exact ⟨h1.below hv, h2⟩) (by unfold maxLen at hm; omega))
  obtain ⟨i0, hi, hz0, hz1, hz2⟩ := info_parts info_it
  have HI8 := Lib.hid hi
  have HZ0 := Lib.hid hz0
  have HZ1 := Lib.hid hz1
  have HZ2 := Lib.hid hz2
  clear hi hz0 hz1 hz2
  obtain ⟨n, hn⟩ : ∃ n, n = l.length := ⟨_, rfl⟩
  rw [← hn] at hc ⊢
  simp only [← hn] at HJn
  have HN := Lib.hid hn
  have hnb : n ≤ 9223372036854775807 := by unfold maxLen at hm; omega
  clear hn hr hok hs hm hc
  go_enter Tryd.func3, Tryd.ntmps3
  go_wp2_with fail
  refine HA.out.mono ?_
  rintro e w1 ⟨rfl, b1⟩
  have HB1 := Lib.hid b1
  clear b1 HA
  go_wp2_with fail
  refine (HJn.out w1 HB1.out).mono ?_
  rintro e w2 ⟨ja, jc, jn, rfl, b2, hJ⟩
  have HB2 := Lib.hid (below_step HB1.out b2)
  clear HB1 b2 HJn
  cases hj : joB 0 0 l with
  | false =>
    clear hJ hj
    go_wp2_with fail
    go_ret
    exact ⟨rfl, HB2.out⟩
  | true =>
    have HTot : Hid ((catB l).length ≤ 131072) := Lib.hid (by have := joB_len l 0 0 hj (by omega); omega)
    clear hJ hj
    by_cases h60 : n > 60
    · have h60' : (n : Int) > 60 := by omega
      go_wp2_with fail
      go_ret
      exact ⟨rfl, HB2.out⟩
    · have h60' : ¬ (n : Int) > 60 := by omega
      go_wp2_with fail
      refine (st_feed most aw (Sts.of_below HB2.out)).mono ?_
      rintro e w3 ⟨fb, rfl, S3⟩
      obtain ⟨mo, hmo⟩ : ∃ mo, mo = max most 0 := ⟨_, rfl⟩
      rw [← hmo] at S3
      have HMo := Lib.hid hmo
      clear hmo
      have S4 := ((S3.add (F := blk none) (P := RowQ EBy none 0 []) (Below.refl _ _) (fun k hk => by cases hk) RowQ.st (Rw.QRow.bare _ _)).add (F := blk none) (P := RowQ EIt none 0 []) (Below.refl _ _) (fun k hk => by cases hk) RowQ.st (Rw.QRow.bare _ _)).add (F := sBs []) (P := SetsP []) (Below.refl _ _) (fun k hk => by cases hk) sets_stab (fun x hx => by cases hx)
      have H3 := Lib.hid S4
      clear S3 S4 HB2
      go_wp2_with fail
      go_loopw [10, 11, 12] (fun vc vt vi wr => ∃ (k : Nat) (ca : Option Addr) (cc cn : Nat) (ta : Option Addr) (tc tn : Nat) (la : Option Addr) (lc : Nat) (s : FeM) (its : List ItX), k ≤ n ∧ vi = .int .i64 k ∧ vc = .slice ca cn cc ∧ vt = .slice ta tn tc ∧
        Hid (Sts w wr [(sBs its, SetsP its), (blk ta, RowQ EIt ta tc its), (blk ca, RowQ EBy ca cc (catB (l.take k))), (fb :: blk la, FdP fb la lc mo s)]) ∧ Hid (cn = (catB (l.take k)).length ∧ tn = its.length) ∧ Hid (its.map (·.1) = (allF (catB (l.take k)) mo aw).1 ∧ FeQ (stF mo aw (catB (l.take k))) s)) (fun _ _ vi _ => n - (intOf vi).toNat)
      case atStart => exact ⟨0, none, 0, 0, none, 0, 0, none, 0, ⟨[], aw, false⟩, [], Nat.zero_le _, rfl, rfl, rfl, H3, Lib.hid ⟨rfl, rfl⟩, Lib.hid ⟨by rw [show catB (l.take 0) = [] from rfl, all_nil]; rfl, by rw [show catB (l.take 0) = [] from rfl, stF_nil]; exact FeQ.refl _⟩⟩
      case round =>
        clear H3
        obtain ⟨k, ca, cc, cn, ta, tc, tn, la, lc, s, its, hkn, rfl, rfl, rfl, HS, HLn, HInv⟩ := hrel
        by_cases hlt : k < n
        · have hlt' : (k : Int) < n := by omega
          have hlr : k < l.length := by rw [← HN.out]; exact hlt
          obtain ⟨bl, off, rfl, hcs⟩ : ∃ b off, ad = some ⟨b, off, none⟩ ∧ ∀ i, (h : i < l.length) → Rw.CE EBl w b (off + i * 1) l[i] := by
            rcases HRw.out with h | h
            · rw [h] at hlr; simp at hlr
            · exact h
          have hx0 := CE_bl (hcs k hlr)
          rw [Nat.mul_one] at hx0
          have HX : Hid (∀ v, Below w.heap.size w v → v.cell? ⟨bl, off + k, none⟩ = some (.slice l[k].ad l[k].l.length l[k].cap)) := Lib.hid (fun v hv => below_cell hv hx0)
          have hd := HOk.out l[k] (List.getElem_mem hlr)
          have HCat := Lib.hid (catB_succ hlr)
          have HCle := Lib.hid (catB_le l (k + 1))
          have HRb : Hid (∀ v, Below w.heap.size w v → RB v l[k].ad l[k].l) := Lib.hid (fun v hv => hd.1.below hv)
          obtain ⟨C, hC⟩ : ∃ C, C = catB (l.take (k + 1)) := ⟨_, rfl⟩
          obtain ⟨B, hB⟩ : ∃ B, B = catB (l.take k) := ⟨_, rfl⟩
          rw [← hC] at HCat HCle
          rw [← hB] at HCat HS HInv HLn
          have HC := Lib.hid hC
          clear hcs hx0 hd hC hB
          generalize l[k] = d at *
          obtain ⟨da, dc, dl⟩ := d
          simp only at HX HRb HCat
          obtain ⟨q, hq⟩ : ∃ q, q = dl.length := ⟨_, rfl⟩
          rw [← hq] at HX
          have HQ := Lib.hid hq
          have HCl : Hid (C.length = B.length + q) := Lib.hid (by rw [HCat.out, List.length_append, ← hq])
          have hCb : C.length ≤ 131072 := Nat.le_trans HCle.out HTot.out
          have hqb : q ≤ 131072 := by have := HCl.out; omega
          have HCb := Lib.hid hCb
          clear hq HCle hCb
          have S1 := st_empty HS.out 5
          have HS1 := Lib.hid S1
          have x0 := HX.out _ S1.bel
          have HO1 := Lib.hid (st_out S1 0 rfl)
          have HLe1 := Lib.hid S1.le
          have HR1 := Lib.hid (HRb.out _ S1.bel)
          have HLen1 : Hid (dl.length ≤ 140737488355328) := Lib.hid (by rw [← HQ.out]; omega)
          clear S1
          go_wp2_with (at_builtin; refine wl_bytes0 (B := w.heap.size) (L := []) Tryd.underlying24 info_by rfl (.tmp 41) (.tmp 45) rfl rfl rfl HO1.out HLe1.out (fun _ h => by cases h) rfl HQ.out HR1.out dl rfl HLen1.out ?_; intro oa oc v hg; have HS2 := Lib.hid (st_bytes HS1.out 0 rfl hg.out); clear hg HS1 HO1 HR1 HLe1 HLen1)
          have hqr := HQ.out
          have hrest : s.rest.length ≤ 131072 := by
            have h1 := HInv.out.2.rest
            have h2 := (all_len B mo aw).2
            rw [← h1, stF_rest]
            have := HCl.out; have := HCb.out; omega
          refine (ptake_feed (cap := oc) (N := 300000) HS2.out (i := 4) rfl HSp.out (rb_of_q (show Rw.QRow EBy v oa oc dl from HS2.out.is 0 rfl).row) (by omega) (by decide)).mono ?_
          rintro e w4 ⟨its2, ra, rc, la2, lc2, s2, rfl, hm2, hq2, _, hl2, S4⟩
          simp only [List.set] at S4
          have HMore := Lib.hid (feed_more (most := mo) (aw := aw) HInv.out.2 hq2)
          have hits : its.length ≤ 131073 := by
            have h1 := its_len HInv.out.1
            have h2 := (all_len B mo aw).1
            have := HCl.out; have := HCb.out; omega
          have HS4 := Lib.hid S4
          have HM2 := Lib.hid hm2
          obtain ⟨m2, hm2'⟩ : ∃ m2, m2 = its2.length := ⟨_, rfl⟩
          rw [← hm2'] at hl2 ⊢
          have HL2 := Lib.hid hm2'
          have HTa : Hid (Rw.QRow EIt w4 ta tc its) := Lib.hid (HS4.out.is 4 rfl)
          have HRa : Hid (Rw.RowE EIt w4 ra its2) := Lib.hid (show Rw.QRow EIt w4 ra rc its2 from HS4.out.is 1 rfl).row
          have htn : tn ≤ 131073 := by rw [HLn.out.2]; exact hits
          have HLen3 : Hid (tn + m2 ≤ maxLen ∧ (tn + m2) * 144 ≤ 140737488355328) := Lib.hid ⟨by unfold maxLen; omega, by omega⟩
          clear S4 hq2 hm2 hm2' HS2 hrest hits hqr
          go_wp2_with (at_builtin; refine wl_que0 EIt Tryd.underlying29 HI8.out HZ0.out HZ1.out HZ2.out rfl rfl (.tmp 47) (.tmp 50) rfl ta tn tc its rfl HLn.out.2 HTa.out ra m2 its2 rc rfl HL2.out HRa.out HLen3.out.1 HLen3.out.2 ?_; intro ta2 tc2 w5 hq5 hg5 hn5; have HS5 := Lib.hid (stsApp HS4.out 4 rfl hg5.out hq5.out hn5.out); clear hq5 hg5 hn5)
          have HS6 : Hid (Sts w w5 [(blk oa, RowQ EBy oa oc dl), (sBs (its ++ its2), SetsP (its ++ its2)), (blk ta2, RowQ EIt ta2 tc2 (its ++ its2)), (blk ca, RowQ EBy ca cc B), (fb :: blk la2, FdP fb la2 lc2 mo s2)]) := Lib.hid (by
            have h := HS5.out
            simp only [List.set] at h
            have h2 := (stsJoin h 2 (F := sBs its) (P := SetsP its) rfl).tail
            simp only [List.set] at h2
            rw [sBs_cat, setsP_cat]
            exact h2)
          have HTl : Hid (tn + m2 = (its ++ its2).length ∧ (its ++ its2).map (·.1) = (allF C mo aw).1 ∧ FeQ (stF mo aw C) s2) := Lib.hid (by
            refine ⟨by rw [List.length_append, HLn.out.2, HL2.out], ?_, ?_⟩
            · rw [List.map_append, HInv.out.1, HM2.out, HCat.out]; exact HMore.out.1.symm
            · rw [HCat.out]; exact HMore.out.2)
          clear HS5 HS4 HTa HRa HLen3 HMore HM2 HInv HL2
          generalize its ++ its2 = itT at HS6 HTl
          obtain ⟨tT, htT⟩ : ∃ tT, tT = tn + m2 := ⟨_, rfl⟩
          rw [← htT] at HTl ⊢
          have htTb : tT ≤ 131073 := by
            have h1 := its_len HTl.out.2.1
            have h2 := (all_len C mo aw).1
            have := HCb.out; have := HTl.out.1; omega
          clear htT htn hl2
          obtain ⟨p, hp⟩ : ∃ p, p = dl.length := ⟨_, rfl⟩
          rw [← hp]
          have HP := Lib.hid hp
          have hpb : p ≤ 131072 := by rw [hp, ← HQ.out]; exact hqb
          clear hp
          go_loopw [14] (fun vj wz => ∃ (j : Nat) (l2 : List UInt8), j ≤ p ∧ vj = .int .i64 j ∧ Hid (l2.length = p ∧ Sts w wz [(blk oa, RowQ EBy oa oc l2), (sBs itT, SetsP itT), (blk ta2, RowQ EIt ta2 tc2 itT), (blk ca, RowQ EBy ca cc B), (fb :: blk la2, FdP fb la2 lc2 mo s2)])) (fun vj _ => p - (intOf vj).toNat)
          case atStart => exact ⟨0, dl, Nat.zero_le _, rfl, Lib.hid ⟨HP.out.symm, HS6.out⟩⟩
          case round =>
            clear HS6
            obtain ⟨j, l2, hj, rfl, HS7⟩ := hrel
            by_cases hjl : j < p
            · have hjl' : (j : Int) < p := by omega
              have hq7 : Rw.QRow EBy _ oa oc l2 := HS7.out.2.is 0 rfl
              have hj2 : j < l2.length := by rw [HS7.out.1]; exact hjl
              obtain ⟨ob, oo, rfl⟩ : ∃ b o, oa = some ⟨b, o, none⟩ := by
                cases oa with
                | none => have h0 := hq7.nil rfl; have := hq7.le; omega
                | some a => obtain ⟨b, o, rfl, _⟩ := hq7.lies a rfl; exact ⟨b, o, rfl⟩
              obtain ⟨hq8, ⟨x, hx⟩, hfz⟩ := q_set hq7 hj2 0 (.int .u8 0) rfl
              have HS8 := Lib.hid (HS7.out.2.turn (i := 0) (F' := blk (some ⟨ob, oo, none⟩)) rfl ((Kept.refl (blk (some ⟨ob, oo, none⟩)) _).setCell (p := ⟨ob, oo + j, none⟩) (.inl (List.mem_singleton.mpr rfl)) (.int .u8 0)) (fun k hk => .inl hk) (qr_lt hq8) RowQ.st hq8)
              have HL8 : Hid ((l2.set j 0).length = p) := Lib.hid (by rw [List.length_set]; exact HS7.out.1)
              clear hq7 hq8 HS7
              go_wp2_with fail
              go_roundw
              case rel => exact ⟨j + 1, l2.set j 0, by omega, by go_num, Lib.hid ⟨HL8.out, HS8.out⟩⟩
              case measure => simp [intOf]; omega
            · have hjl' : ¬ (j : Int) < p := by omega
              have hje : j = p := by omega
              subst hje
              have HS8 := Lib.hid HS7.out.2.tail
              clear HS7
              have x0 := HX.out _ HS8.out.bel
              have HO8 := Lib.hid (st_out HS8.out 2 rfl)
              have HLe8 := Lib.hid HS8.out.le
              have HR8 := Lib.hid (HRb.out _ HS8.out.bel)
              have HLen8 : Hid (C.length ≤ 140737488355328) := Lib.hid (by have := HCb.out; omega)
              go_wp2_with (at_builtin; refine wl_bytes0 (B := w.heap.size) (L := []) Tryd.underlying24 info_by rfl (.tmp 61) (.tmp 65) rfl rfl HLn.out.1 HO8.out HLe8.out (fun _ h => by cases h) rfl HQ.out HR8.out C HCat.out HLen8.out ?_; intro ca2 cc2 v8 hg; have HS9 := Lib.hid (st_bytes HS8.out 2 rfl hg.out); clear hg HS8 HO8 HR8 HLe8 HLen8)
              have HCap : Hid (C.length ≤ cc2 ∧ cc2 ≤ maxLen ∧ Rw.QRow EBy v8 ca2 cc2 C) := Lib.hid (by
                have hq : Rw.QRow EBy v8 ca2 cc2 C := HS9.out.is 2 rfl
                exact ⟨hq.le, hq.max, hq⟩)
              have HAl := Lib.hid (rall_any C ca2 cc2 most aw v8 (rb_of_q HCap.out.2.2.row) HCap.out.1 HCap.out.2.1 (by have := HCb.out; omega))
              rw [← HMo.out] at HAl
              unfold AllEnd at HAl
              refine HAl.out.mono ?_
              rintro e w9 ⟨its3, oa3, oc3, rfl, hm3, T9⟩
              have HS10 := Lib.hid (stsStack HS9.out T9)
              simp only [List.set, List.cons_append, List.nil_append] at HS10
              have HSm : Hid (Calls Tryd.prog 13 #[.slice ta2 tT tc2, .slice oa3 its3.length oc3] w9 fun e w' => e = .returned (.bool true) ∧ Below w9.heap.size w9 w') := Lib.hid (by
                have h := rsame07_any itT its3 ta2 oa3 tc2 oc3 w9 (show Rw.QRow EIt w9 ta2 tc2 itT from HS10.out.is 3 rfl).row (show Rw.QRow EIt w9 oa3 oc3 its3 from HS10.out.is 1 rfl).row (HS10.out.is 2 rfl) (HS10.out.is 0 rfl) (by rw [← HTl.out.1]; omega)
                rw [decide_eq_true (by rw [HTl.out.2.1, hm3]), ← HTl.out.1] at h
                exact h)
              have HS11 := Lib.hid HS10.out.tail.tail
              have HLeft : Hid (∀ v, Sts w v [(sBs itT, SetsP itT), (blk ta2, RowQ EIt ta2 tc2 itT), (blk ca2, RowQ EBy ca2 cc2 C), (fb :: blk la2, FdP fb la2 lc2 mo s2)] → (Calls Tryd.prog 14 #[.pointer (some ⟨fb, 0, none⟩)] v fun e w' => e = .returned (.int .i64 ((allF C mo aw).2.1.length : Nat)) ∧ v = w') ∧ (Calls Tryd.prog 15 #[.pointer (some ⟨fb, 0, none⟩)] v fun e w' => e = .returned (.bool (allF C mo aw).2.2) ∧ v = w')) := Lib.hid (fun v hv => by
                have hF : FdO fb la2 lc2 mo s2 v := hv.is 3 rfl
                have h1 := pleft_any v hF
                have h2 := pover_any v hF
                rw [← HTl.out.2.2.rest, stF_rest] at h1
                rw [← HTl.out.2.2.over, stF_over] at h2
                exact ⟨h1, h2⟩)
              have HInv2 : Hid (itT.map (·.1) = (allF C mo aw).1 ∧ FeQ (stF mo aw C) s2) := Lib.hid HTl.out.2
              have HTT : Hid (tT = itT.length) := Lib.hid HTl.out.1
              clear hm3 T9 HS10 HS9 HAl HCap HTl HLn HRb HX HCat HCl
              obtain ⟨lf, hlf⟩ : ∃ lf, lf = (allF C mo aw).2.1.length := ⟨_, rfl⟩
              obtain ⟨ov, hov⟩ : ∃ ov, ov = (allF C mo aw).2.2 := ⟨_, rfl⟩
              simp only [← hlf, ← hov] at HLeft
              rw [← hlf, ← hov]
              clear hlf hov
              obtain ⟨m3, hm3⟩ : ∃ m3, m3 = its3.length := ⟨_, rfl⟩
              rw [← hm3] at HSm ⊢
              clear hm3
              go_wp2_with fail
              refine HSm.out.mono ?_
              rintro e w10 ⟨rfl, b10⟩
              have HS12 := Lib.hid (HS11.out.below b10)
              obtain ⟨hLf, hOv⟩ := HLeft.out _ HS12.out
              have HLf := Lib.hid hLf
              have HOv := Lib.hid hOv
              clear b10 HSm HS11 hLf hOv HLeft
              go_wp2_with (first
                | (go_at_call 14; refine HLf.out.mono ?_; rintro e w11 ⟨rfl, rfl⟩)
                | (go_at_call 15; refine HOv.out.mono ?_; rintro e w11 ⟨rfl, rfl⟩))
              go_roundw
              case rel => exact ⟨k + 1, ca2, cc2, C.length, ta2, tc2, tT, la2, lc2, s2, itT, by omega, by go_num, rfl, rfl, by rw [← HC.out]; exact HS12, by rw [← HC.out]; exact Lib.hid ⟨rfl, HTT.out⟩, by rw [← HC.out]; exact HInv2⟩
              case measure => simp [intOf]; omega
        · have hkn' : k = n := by omega
          subst hkn'
          have hlt' : ¬ (k : Int) < k := by omega
          have HB := Lib.hid HS.out.bel
          clear HS HInv HLn
          go_wp2_with fail
          go_ret
          exact ⟨rfl, HB.out⟩
end Go.Proofs.YtglhdlkmgmbgeaaDoor
