/- Layer 7: what is left is less than a frame; a fault of the connection is the last item. Layer 7: the law ChopKeeps. -/
import Derived.Test.YtglhdlkmgmbgeaaDoorGE01
import Derived.Test.YtglhdlkmgmbgeaaDoorGG01
set_option linter.unusedVariables false
set_option linter.unusedSimpArgs false
namespace Go.Proofs.YtglhdlkmgmbgeaaDoor
namespace Cho
open Fra Oct
set_option linter.unusedVariables false

/-- Is it a fault of the connection? -/
def conI (i : ItM) : Bool := i.x.is && decide (i.x.stream = 0)
theorem steps_conn (most : Int) : ∀ (n : Nat) (b : List UInt8), b.length ≤ n → ∀ (k : Nat) (h : k < (steps b most).1.length), conI (steps b most).1[k] = (decide (k + 1 = (steps b most).1.length) && (steps b most).2.2) := by
  intro n
  induction n with
  | zero =>
    intro b hb k h
    have : b = [] := List.eq_nil_of_length_eq_zero (by omega)
    subst this
    have e : steps [] most = ([], [], false) := by rw [steps_eq, if_pos ⟨rfl, rfl⟩]
    rw [e] at h; simp at h
  | succ n ih =>
    intro b hb k h
    by_cases h1 : (takeF b most).2.1 = 0 ∧ (takeF b most).2.2.is = false
    · have e : steps b most = ([], b, false) := by rw [steps_eq, if_pos h1]
      rw [e] at h; simp at h
    · have hc := take_conn b most
      by_cases h2 : (takeF b most).2.1 = 0
      · have e : steps b most = ([⟨(takeF b most).1, (takeF b most).2.2⟩], [], true) := by rw [steps_eq, if_neg h1, if_pos h2]
        have hi : (takeF b most).2.2.is = true := by
          cases hi : (takeF b most).2.2.is with
          | true => rfl
          | false => exact absurd ⟨h2, hi⟩ h1
        simp only [e] at h ⊢
        have hk : k = 0 := by simp at h; exact h
        subst hk
        simp [conI, hi, (hc hi).mpr h2]
      · have e : steps b most = (⟨(takeF b most).1, (takeF b most).2.2⟩ :: (steps (b.drop (takeF b most).2.1) most).1, (steps (b.drop (takeF b most).2.1) most).2) := by
          conv => lhs; rw [steps_eq, if_neg h1, if_neg h2]
        have hn := take_n b most h2
        have hl : (b.drop (takeF b most).2.1).length ≤ n := by rw [List.length_drop]; omega
        simp only [e] at h ⊢
        cases k with
        | zero =>
          have hci : conI ⟨(takeF b most).1, (takeF b most).2.2⟩ = false := by
            cases hi : (takeF b most).2.2.is with
            | false => simp [conI, hi]
            | true =>
              have : ¬ (takeF b most).2.2.stream = 0 := fun e => h2 ((hc hi).mp e)
              simp [conI, this]
          simp only [List.getElem_cons_zero, hci]
          cases ho : (steps (b.drop (takeF b most).2.1) most).2.2 with
          | false => simp
          | true =>
            have hne : (steps (b.drop (takeF b most).2.1) most).1 ≠ [] := fun e0 => by
              have e3 := ho
              rw [steps_eq] at e3 e0
              split at e3
              · cases e3
              · rename_i q1
                rw [if_neg q1] at e0
                split at e0 <;> simp at e0
            have : 0 < (steps (b.drop (takeF b most).2.1) most).1.length := List.length_pos_iff.mpr hne
            simp; omega
        | succ k =>
          simp only [List.length_cons] at h
          have hk : k < (steps (b.drop (takeF b most).2.1) most).1.length := by omega
          have := ih _ hl k hk
          simp only [List.getElem_cons_succ, List.length_cons]
          rw [this]
          congr 1
          simp
theorem all_conn (b : List UInt8) (most : Int) (aw : Bool) (k : Nat) (h : k < (allF b most aw).1.length) : conI (allF b most aw).1[k] = (decide (k + 1 = (allF b most aw).1.length) && (allF b most aw).2.2) := by
  cases aw with
  | false => exact steps_conn most _ b (Nat.le_refl _) k h
  | true =>
    by_cases hb : b.take 24 ≠ prefL.take b.length
    · have e := all_bad most b hb
      simp only [e] at h ⊢
      have hk : k = 0 := by simp at h; exact h
      subst hk
      rfl
    · by_cases hl : b.length < 24
      · have e := all_short most b hb hl
        simp only [e] at h; simp at h
      · have e := all_yes most b hb hl
        simp only [e] at h ⊢
        exact steps_conn most _ _ (Nat.le_refl _) k h
theorem all_over (b : List UInt8) (most : Int) (aw : Bool) (h : (allF b most aw).2.2 = true) : (allF b most aw).2.1 = [] := by
  cases aw with
  | false => exact steps_over most _ b (Nat.le_refl _) h
  | true =>
    by_cases hb : b.take 24 ≠ prefL.take b.length
    · rw [all_bad _ _ hb]
    · by_cases hl : b.length < 24
      · rw [all_short _ _ hb hl] at h; cases h
      · rw [all_yes _ _ hb hl] at h ⊢
        exact steps_over most _ _ (Nat.le_refl _) h
theorem all_small (b : List UInt8) (most : Int) (aw : Bool) (h0 : 0 ≤ most) : ((allF b most aw).2.1.length : Int) ≤ 8 + most ∨ (allF b most aw).2.1.length ≤ 23 := by
  cases ho : (allF b most aw).2.2 with
  | true => rw [all_over b most aw ho]; simp
  | false =>
    have hs : ∀ r, (steps r most).2.2 = false → ((steps r most).2.1.length : Int) ≤ 8 + most := fun r h => by
      have := none_len _ most (steps_left most _ r (Nat.le_refl _) h)
      omega
    cases aw with
    | false => exact .inl (hs b ho)
    | true =>
      by_cases hb : b.take 24 ≠ prefL.take b.length
      · rw [all_bad _ _ hb] at ho; cases ho
      · by_cases hl : b.length < 24
        · rw [all_short _ _ hb hl]; exact .inr (by simp only; omega)
        · rw [all_yes _ _ hb hl] at ho ⊢; exact .inl (hs _ ho)
/-- What a feed tells of a piece. -/
theorem feed_conn {most : Int} {s : FeM} {c : List UInt8} (k : Nat) (h : k < (feedF most s c).1.length) : conI (feedF most s c).1[k] = (decide (k + 1 = (feedF most s c).1.length) && (feedF most s c).2.over) := by
  cases ho : s.over with
  | true =>
    have e : feedF most s c = ([], s) := by rw [feedF, if_pos ho]
    simp only [e] at h; simp at h
  | false =>
    have e : feedF most s c = ((allF (s.rest ++ c) most s.aw).1, ⟨(allF (s.rest ++ c) most s.aw).2.1, s.aw && decide ((s.rest ++ c).length < 24), (allF (s.rest ++ c) most s.aw).2.2⟩) := by rw [feedF, if_neg (by simp [ho])]
    simp only [e] at h ⊢
    exact all_conn _ most s.aw k h
theorem feed_over {most : Int} {s : FeM} {c : List UInt8} (h : s.over = true) : (feedF most s c).1 = [] ∧ (feedF most s c).2 = s := by
  have e : feedF most s c = ([], s) := by rw [feedF, if_pos h]
  rw [e]; exact ⟨rfl, rfl⟩
end Cho
end Go.Proofs.YtglhdlkmgmbgeaaDoor

namespace Go.Proofs.YtglhdlkmgmbgeaaDoor
open Go.RowKit
open Cho Fra Oct Arg Mem Gen Wr Qu Pt Sx Go.Proofs.YtglhdlkmgmbgeaaDoor.Obj
set_option linter.unusedVariables false
set_option linter.unusedSimpArgs false

set_option maxRecDepth 100000 in
set_option maxHeartbeats 1000000 in
theorem ptake_nil (ad : Option Addr) (n cap : Nat) (w : World) :
    Calls Tryd.prog 11 #[.pointer none, .slice ad n cap] w fun e w' => e = .returned (.slice none 0 0) ∧ w' = w := by
  go_enter Tryd.func11, Tryd.ntmps11
  go_wp2_with (go_at_call 15; refine (pover_nil _).mono ?_; rintro e w' ⟨rfl, rfl⟩)
  go_ret
  exact ⟨rfl, rfl⟩

set_option maxRecDepth 100000 in
set_option maxHeartbeats 16000000 in
theorem law_keeps7 (most : Int) (aw : Bool) (l : List BlM) (ad : Option Addr) (cap : Nat) (w : World) (hmi : (Lit.int .i64 most).wf = true) (hr : Rw.RowE EBl w ad l) (hok : ∀ d ∈ l, d.ok w) (hc : l.length ≤ cap) (hm : cap ≤ maxLen) (hs : SpIs w) :
    Calls Tryd.prog 5 #[.int .i64 most, .bool aw, .slice ad l.length cap] w fun e w' => e = .returned (.bool true) ∧ Below w.heap.size w w' := by
  have HA := Lib.hid (awake7_any w hs)
  have HSp := Lib.hid hs
  have HRw := Lib.hid hr
  have HOk := Lib.hid hok
  have HJn := Lib.hid (fun v (hv : Below w.heap.size w v) => joined_any l ad cap v (hr.below hv) (fun d hd => by
    obtain ⟨h1, h2⟩ := hok d hd
    exact ⟨h1.below hv, h2⟩) (by unfold maxLen at hm; omega))
  obtain ⟨n, hn⟩ : ∃ n, n = l.length := ⟨_, rfl⟩
  rw [← hn] at hc ⊢
  simp only [← hn] at HJn
  have HN := Lib.hid hn
  have hnb : n ≤ 9223372036854775807 := by unfold maxLen at hm; omega
  clear hn hr hok hs hm hc
  go_enter Tryd.func5, Tryd.ntmps5
  go_wp2_with fail
  refine HA.out.mono ?_
  rintro e w1 ⟨rfl, b1⟩
  have HB1 := Lib.hid b1
  clear b1 HA
  go_wp2_with fail
  refine (HJn.out w1 HB1.out).mono ?_
  rintro e w2 ⟨ja, jc, jn, rfl, b2, hJ⟩
  have HB2 := Lib.hid (below_step HB1.out b2)
  clear HB1 b2 HJn
  cases hj : joB 0 0 l with
  | false =>
    clear hJ hj
    go_wp2_with fail
    go_ret
    exact ⟨rfl, HB2.out⟩
  | true =>
    have HTot : Hid ((catB l).length ≤ 131072) := Lib.hid (by have := joB_len l 0 0 hj (by omega); omega)
    clear hJ hj
    have HB3 := Lib.hid (below_step HB2.out (bel_al w2 (.cells #[.int .u8 1] 5)))
    go_wp2_with (first
      | (go_at_call 11; refine (ptake_nil _ _ _ _).mono ?_; rintro e w3 ⟨rfl, rfl⟩)
      | (go_at_call 14; refine (pleft_nil _).mono ?_; rintro e w3 ⟨rfl, rfl⟩)
      | (go_at_call 15; refine (pover_nil _).mono ?_; rintro e w3 ⟨rfl, rfl⟩)
      | fail)
    -- FEED
    refine (st_feed most aw (Sts.of_below HB3.out)).mono ?_
    rintro e w4 ⟨fb, rfl, S4⟩
    obtain ⟨mo, hmo⟩ : ∃ mo, mo = max most 0 := ⟨_, rfl⟩
    rw [← hmo] at S4
    have H4 := Lib.hid S4
    clear S4 HB3 HB2
    have hmi2 : -9223372036854775808 ≤ most ∧ most ≤ 9223372036854775807 := by
      simp only [Lit.wf, IntKind.min, IntKind.max, IntKind.bits, IntKind.signed] at hmi
      simp at hmi; omega
    clear hmi
    by_cases hpos : 0 < most
    · have hpos' : most > 0 := hpos
      by_cases h17 : most < 131072
      · have hmoe : mo = most := by omega
        subst hmoe
        clear hmo
        have hw8 : IntKind.i64.wrap (8 + mo) = 8 + mo := IntWalk.i64_in _ (by omega)
        go_wp2_with fail
        go_loopw [12] (fun vi wr => ∃ (k : Nat) (la : Option Addr) (lc : Nat) (s : FeM), k ≤ n ∧ vi = .int .i64 k ∧ Hid (Sts w wr [(fb :: blk la, FdP fb la lc mo s)]) ∧ Hid (FeQ (stF mo aw (catB (l.take k))) s)) (fun vi _ => n - (intOf vi).toNat)
        case atStart => exact ⟨0, none, 0, ⟨[], aw, false⟩, Nat.zero_le _, rfl, H4, Lib.hid (by rw [show catB (l.take 0) = [] from rfl, stF_nil]; exact FeQ.refl _)⟩
        case round =>
          clear H4
          obtain ⟨k, la, lc, s, hkn, rfl, HS, HInv⟩ := hrel
          by_cases hlt : k < n
          · have hlt' : (k : Int) < n := by omega
            have hlr : k < l.length := by rw [← HN.out]; exact hlt
            obtain ⟨bl, off, rfl, hcs⟩ : ∃ b off, ad = some ⟨b, off, none⟩ ∧ ∀ i, (h : i < l.length) → Rw.CE EBl w b (off + i * 1) l[i] := by
              rcases HRw.out with h | h
              · rw [h] at hlr; simp at hlr
              · exact h
            have hx0 := CE_bl (hcs k hlr)
            rw [Nat.mul_one] at hx0
            have x0 := below_cell HS.out.bel hx0
            have hd := HOk.out l[k] (List.getElem_mem hlr)
            have hcat := catB_succ hlr
            have hcle := catB_le l (k + 1)
            have HRb := Lib.hid (hd.1.below HS.out.bel)
            obtain ⟨C, hC⟩ : ∃ C, C = catB (l.take (k + 1)) := ⟨_, rfl⟩
            obtain ⟨B, hB⟩ : ∃ B, B = catB (l.take k) := ⟨_, rfl⟩
            rw [← hC] at hcat hcle
            rw [← hB] at hcat HInv
            have HC := Lib.hid hC
            clear hcs hx0 hd hC hB
            generalize l[k] = d at *
            obtain ⟨da, dc, dl⟩ := d
            simp only at x0 HRb hcat
            have hCl : C.length = B.length + dl.length := by rw [hcat, List.length_append]
            have hCb : C.length ≤ 131072 := Nat.le_trans hcle HTot.out
            have hrest := rest_le HInv.out
            have ht := ptake_feed (cap := dc) (N := 300000) HS.out (i := 0) rfl HSp.out HRb.out (by omega) (by decide)
            obtain ⟨q, hq⟩ : ∃ q, q = dl.length := ⟨_, rfl⟩
            rw [← hq] at x0 ht
            have HTk := Lib.hid ht
            have HCat := Lib.hid hcat
            have HO5 := Lib.hid (pover_any _ (show FdO fb la lc mo s _ from HS.out.is 0 rfl))
            clear ht hq hrest hCl hcle hcat HRb hCb
            go_wp2_with fail
            refine HO5.out.mono ?_
            rintro e w5 ⟨rfl, rfl⟩
            go_wp2_with fail
            refine HTk.out.mono ?_
            rintro e w6 ⟨its2, ra, rc, la2, lc2, s2, rfl, hm2, hq2, _, hl2, S6⟩
            simp only [List.set] at S6
            have HS6 := Lib.hid S6
            have hmore := (feed_more (most := mo) (aw := aw) HInv.out hq2).2
            rw [← HCat.out] at hmore
            have HFe := Lib.hid hmore
            obtain ⟨m2, hm2'⟩ : ∃ m2, m2 = its2.length := ⟨_, rfl⟩
            rw [← hm2'] at hl2 ⊢
            have HM2 := Lib.hid hm2'
            have HCn : Hid (∀ (k : Nat) (h : k < its2.length), (its2[k].1.x.is && decide (its2[k].1.x.stream = 0)) = (decide (k + 1 = m2) && s2.over)) := Lib.hid (fun k h => by
              have hl := its_len hm2
              have h' : k < (feedF mo s dl).1.length := by rw [← hl]; exact h
              have h1 := feed_conn k h'
              have e : its2[k].1 = (feedF mo s dl).1[k] := by
                have h2 := congrArg (fun z => z[k]?) hm2
                simp only [List.getElem?_map, List.getElem?_eq_getElem h, List.getElem?_eq_getElem h', Option.map_some, Option.some.injEq] at h2
                exact h2
              rw [← e, ← hl, ← hm2', hq2.over] at h1
              exact h1)
            obtain ⟨lf, hlf⟩ : ∃ lf : Int, lf = (s2.rest.length : Nat) := ⟨_, rfl⟩
            have HLfe := Lib.hid hlf
            have hov0 : s2.over = true → lf = 0 := fun h => by
              have h1 := hmore.over
              rw [h, stF_over] at h1
              have h2 := all_over _ _ _ h1
              rw [hlf, ← hmore.rest, stF_rest, h2]; rfl
            have hlim : lf ≤ 8 + mo ∨ lf ≤ 23 := by
              have h1 := all_small C mo aw (by omega)
              rw [hlf, ← hmore.rest, stF_rest]
              rcases h1 with h1 | h1
              · exact .inl h1
              · exact .inr (by omega)
            have hm0 : s.over = true → m2 = 0 ∧ s2.over = true := fun h => by
              have h1 := feed_over (most := mo) (c := dl) h
              rw [h1.1] at hm2
              rw [h1.2] at hq2
              exact ⟨by rw [hm2']; have := congrArg List.length hm2; simpa using this, by rw [← hq2.over]; exact h⟩
            clear S6 hmore hq2 hm2 hm2' hlf HTk HS HO5
            cases ho : s.over with
            | true =>
              obtain ⟨h1, ho2⟩ := hm0 ho
              have hl0 := hov0 ho2
              subst h1
              subst hl0
              clear hm0 hov0 hlim
              have HQr : Hid (Rw.QRow EIt w6 ra rc its2) := Lib.hid (HS6.out.is 1 rfl)
              have HOv6 : Hid (∀ v, Sts w v [(sBs its2, SetsP its2), (blk ra, RowQ EIt ra rc its2), (fb :: blk la2, FdP fb la2 lc2 mo s2)] → Calls Tryd.prog 15 #[.pointer (some ⟨fb, 0, none⟩)] v fun e w' => e = .returned (.bool true) ∧ v = w') := Lib.hid (fun v hv => by
                have h := pover_any v (show FdO fb la2 lc2 mo s2 v from hv.is 2 rfl)
                rw [ho2] at h
                exact h)
              have HOv := Lib.hid (HOv6.out _ HS6.out)
              have HLf : Hid (Calls Tryd.prog 14 #[.pointer (some ⟨fb, 0, none⟩)] w6 fun e w' => e = .returned (.int .i64 0) ∧ w6 = w') := Lib.hid (by
                have h := pleft_any w6 (show FdO fb la2 lc2 mo s2 w6 from HS6.out.is 2 rfl)
                rw [← HLfe.out] at h
                exact h)
              have HCon : Hid (∀ (k : Nat) (h : k < its2.length), (its2[k].1.x.is && decide (its2[k].1.x.stream = 0)) = (decide (k + 1 = (0 : Nat)) && true)) := Lib.hid (fun k h => by
                have h1 := HCn.out k h
                rw [ho2] at h1
                exact h1)
              clear ho ho2
              have hz1 : ¬ (0 : Int) > 8 + mo := by omega
              have hz2 : ¬ (8 + mo < 0) := by omega
              go_wp2_with (first
                | (go_at_call 14; refine HLf.out.mono ?_; rintro e w7 ⟨rfl, rfl⟩)
                | (go_at_call 15; refine HOv.out.mono ?_; rintro e w7 ⟨rfl, rfl⟩))
              all_goals try (exfalso; omega)
              go_loopw [15] (fun vj wz => vj = .int .i64 0 ∧ wz = w6) (fun vj _ => 0)
              case atStart => exact ⟨rfl, rfl⟩
              case round =>
                obtain ⟨rfl, rfl⟩ := hrel
                clear HCon HQr
                go_wp2_with fail
                go_roundw
                case rel => exact ⟨k + 1, la2, lc2, s2, by omega, by go_num, Lib.hid HS6.out.tail.tail, by rw [← HC.out]; exact HFe⟩
                case measure => simp [intOf]; omega
            | false =>
              clear hm0
              cases ho2 : s2.over with
              | true =>
                have hl0 := hov0 ho2
                subst hl0
                clear hov0 hlim
                have HQr : Hid (Rw.QRow EIt w6 ra rc its2) := Lib.hid (HS6.out.is 1 rfl)
                have HOv6 : Hid (∀ v, Sts w v [(sBs its2, SetsP its2), (blk ra, RowQ EIt ra rc its2), (fb :: blk la2, FdP fb la2 lc2 mo s2)] → Calls Tryd.prog 15 #[.pointer (some ⟨fb, 0, none⟩)] v fun e w' => e = .returned (.bool true) ∧ v = w') := Lib.hid (fun v hv => by
                  have h := pover_any v (show FdO fb la2 lc2 mo s2 v from hv.is 2 rfl)
                  rw [ho2] at h
                  exact h)
                have HOv := Lib.hid (HOv6.out _ HS6.out)
                have HLf : Hid (Calls Tryd.prog 14 #[.pointer (some ⟨fb, 0, none⟩)] w6 fun e w' => e = .returned (.int .i64 0) ∧ w6 = w') := Lib.hid (by
                  have h := pleft_any w6 (show FdO fb la2 lc2 mo s2 w6 from HS6.out.is 2 rfl)
                  rw [← HLfe.out] at h
                  exact h)
                have HCon : Hid (∀ (k : Nat) (h : k < its2.length), (its2[k].1.x.is && decide (its2[k].1.x.stream = 0)) = (decide (k + 1 = m2) && true)) := Lib.hid (fun k h => by
                  have h1 := HCn.out k h
                  rw [ho2] at h1
                  exact h1)
                clear ho ho2
                have hz1 : ¬ (0 : Int) > 8 + mo := by omega
                have hz2 : ¬ (8 + mo < 0) := by omega
                go_wp2_with (first
                  | (go_at_call 14; refine HLf.out.mono ?_; rintro e w7 ⟨rfl, rfl⟩)
                  | (go_at_call 15; refine HOv.out.mono ?_; rintro e w7 ⟨rfl, rfl⟩))
                all_goals try (exfalso; omega)
                go_loopw [15] (fun vj wz => ∃ (j : Nat), j ≤ m2 ∧ vj = .int .i64 j ∧ wz = w6) (fun vj _ => m2 - (intOf vj).toNat)
                case atStart => exact ⟨0, Nat.zero_le _, rfl, rfl⟩
                case round =>
                  obtain ⟨j, hj, rfl, rfl⟩ := hrel
                  by_cases hjl : j < m2
                  · have hjl' : (j : Int) < m2 := by omega
                    have hj2 : j < its2.length := by rw [← HM2.out]; exact hjl
                    obtain ⟨rb, ro, rfl, hcs⟩ : ∃ b off, ra = some ⟨b, off, none⟩ ∧ ∀ i, (h : i < its2.length) → Rw.CE EIt _ b (off + i * 15) its2[i] := by
                      rcases HQr.out.row with h | h
                      · rw [h] at hj2; simp at hj2
                      · exact h
                    obtain ⟨_, _, _, _, _, _, _, _, _, _, _, _, c12, _, c14⟩ := CE_it (hcs j hj2)
                    have hv := HCon.out j hj2
                    generalize its2[j].1.x.is = xi at c12 hv
                    generalize its2[j].1.x.stream = xs at c14 hv
                    clear hcs
                    by_cases hlast : j + 1 = m2
                    · have hl1 : ((j : Int) == (m2 : Int) - 1) = true := by rw [beq_iff_eq]; omega
                      have hl2 : (j : Int) = (m2 : Int) - 1 := by omega
                      have HL2 := Lib.hid hl2
                      rw [decide_eq_true hlast] at hv
                      cases xi with
                      | false =>
                        exfalso; simp at hv
                      | true =>
                        by_cases hs0 : xs = 0
                        · subst hs0
                          clear hv hl2
                          go_wp2_with (go_at_call 15; refine HOv.out.mono ?_; rintro e w8 ⟨rfl, rfl⟩)
                          go_roundw
                          case rel => exact ⟨j + 1, by omega, by go_num, (by first | rfl | trivial)⟩
                          case measure => simp [intOf]; omega
                        · exfalso; simp [hs0] at hv
                    · have hl1 : ((j : Int) == (m2 : Int) - 1) = false := by rw [beq_eq_false_iff_ne]; omega
                      rw [decide_eq_false hlast] at hv
                      cases xi with
                      | false =>
                        clear hv
                        go_wp2_with (go_at_call 15; refine HOv.out.mono ?_; rintro e w8 ⟨rfl, rfl⟩)
                        go_roundw
                        case rel => exact ⟨j + 1, by omega, by go_num, (by first | rfl | trivial)⟩
                        case measure => simp [intOf]; omega
                      | true =>
                        by_cases hs0 : xs = 0
                        · exfalso; subst hs0; simp at hv
                        · have hs1 : (xs == 0) = false := by rw [beq_eq_false_iff_ne]; exact hs0
                          clear hv
                          go_wp2_with (go_at_call 15; refine HOv.out.mono ?_; rintro e w8 ⟨rfl, rfl⟩)
                          go_roundw
                          case rel => exact ⟨j + 1, by omega, by go_num, (by first | rfl | trivial)⟩
                          case measure => simp [intOf]; omega
                  · have hje : j = m2 := by omega
                    subst hje
                    have hjl' : ¬ (j : Int) < j := by omega
                    clear HCon HQr
                    go_wp2_with fail
                    go_roundw
                    case rel => exact ⟨k + 1, la2, lc2, s2, by omega, by go_num, Lib.hid HS6.out.tail.tail, by rw [← HC.out]; exact HFe⟩
                    case measure => simp [intOf]; omega
              | false =>
                clear hov0
                have HQr : Hid (Rw.QRow EIt w6 ra rc its2) := Lib.hid (HS6.out.is 1 rfl)
                have HOv6 : Hid (∀ v, Sts w v [(sBs its2, SetsP its2), (blk ra, RowQ EIt ra rc its2), (fb :: blk la2, FdP fb la2 lc2 mo s2)] → Calls Tryd.prog 15 #[.pointer (some ⟨fb, 0, none⟩)] v fun e w' => e = .returned (.bool false) ∧ v = w') := Lib.hid (fun v hv => by
                  have h := pover_any v (show FdO fb la2 lc2 mo s2 v from hv.is 2 rfl)
                  rw [ho2] at h
                  exact h)
                have HOv := Lib.hid (HOv6.out _ HS6.out)
                have HLf : Hid (Calls Tryd.prog 14 #[.pointer (some ⟨fb, 0, none⟩)] w6 fun e w' => e = .returned (.int .i64 lf) ∧ w6 = w') := Lib.hid (by
                  have h := pleft_any w6 (show FdO fb la2 lc2 mo s2 w6 from HS6.out.is 2 rfl)
                  rw [← HLfe.out] at h
                  exact h)
                have HCon : Hid (∀ (k : Nat) (h : k < its2.length), (its2[k].1.x.is && decide (its2[k].1.x.stream = 0)) = (decide (k + 1 = m2) && false)) := Lib.hid (fun k h => by
                  have h1 := HCn.out k h
                  rw [ho2] at h1
                  exact h1)
                clear ho ho2
                by_cases hbig : lf > 8 + mo
                · have hb23 : ¬ lf > 23 := by omega
                  have hbig2 : 8 + mo < lf := hbig
                  clear hlim
                  go_wp2_with (first
                    | (go_at_call 14; refine HLf.out.mono ?_; rintro e w7 ⟨rfl, rfl⟩)
                    | (go_at_call 15; refine HOv.out.mono ?_; rintro e w7 ⟨rfl, rfl⟩))
                  all_goals try (exfalso; omega)
                  go_loopw [15] (fun vj wz => ∃ (j : Nat), j ≤ m2 ∧ vj = .int .i64 j ∧ wz = w6) (fun vj _ => m2 - (intOf vj).toNat)
                  case atStart => exact ⟨0, Nat.zero_le _, rfl, rfl⟩
                  case round =>
                    obtain ⟨j, hj, rfl, rfl⟩ := hrel
                    by_cases hjl : j < m2
                    · have hjl' : (j : Int) < m2 := by omega
                      have hj2 : j < its2.length := by rw [← HM2.out]; exact hjl
                      obtain ⟨rb, ro, rfl, hcs⟩ : ∃ b off, ra = some ⟨b, off, none⟩ ∧ ∀ i, (h : i < its2.length) → Rw.CE EIt _ b (off + i * 15) its2[i] := by
                        rcases HQr.out.row with h | h
                        · rw [h] at hj2; simp at hj2
                        · exact h
                      obtain ⟨_, _, _, _, _, _, _, _, _, _, _, _, c12, _, c14⟩ := CE_it (hcs j hj2)
                      have hv := HCon.out j hj2
                      generalize its2[j].1.x.is = xi at c12 hv
                      generalize its2[j].1.x.stream = xs at c14 hv
                      clear hcs
                      by_cases hlast : j + 1 = m2
                      · have hl1 : ((j : Int) == (m2 : Int) - 1) = true := by rw [beq_iff_eq]; omega
                        have hl2 : (j : Int) = (m2 : Int) - 1 := by omega
                        have HL2 := Lib.hid hl2
                        rw [decide_eq_true hlast] at hv
                        cases xi with
                        | false =>
                          clear hv hl2
                          go_wp2_with (go_at_call 15; refine HOv.out.mono ?_; rintro e w8 ⟨rfl, rfl⟩)
                          go_roundw
                          case rel => exact ⟨j + 1, by omega, by go_num, (by first | rfl | trivial)⟩
                          case measure => simp [intOf]; omega
                        | true =>
                          by_cases hs0 : xs = 0
                          · exfalso; subst hs0; simp at hv
                          · have hs1 : (xs == 0) = false := by rw [beq_eq_false_iff_ne]; exact hs0
                            clear hv hl2
                            go_wp2_with (go_at_call 15; refine HOv.out.mono ?_; rintro e w8 ⟨rfl, rfl⟩)
                            go_roundw
                            case rel => exact ⟨j + 1, by omega, by go_num, (by first | rfl | trivial)⟩
                            case measure => simp [intOf]; omega
                      · have hl1 : ((j : Int) == (m2 : Int) - 1) = false := by rw [beq_eq_false_iff_ne]; omega
                        rw [decide_eq_false hlast] at hv
                        cases xi with
                        | false =>
                          clear hv
                          go_wp2_with (go_at_call 15; refine HOv.out.mono ?_; rintro e w8 ⟨rfl, rfl⟩)
                          go_roundw
                          case rel => exact ⟨j + 1, by omega, by go_num, (by first | rfl | trivial)⟩
                          case measure => simp [intOf]; omega
                        | true =>
                          by_cases hs0 : xs = 0
                          · exfalso; subst hs0; simp at hv
                          · have hs1 : (xs == 0) = false := by rw [beq_eq_false_iff_ne]; exact hs0
                            clear hv
                            go_wp2_with (go_at_call 15; refine HOv.out.mono ?_; rintro e w8 ⟨rfl, rfl⟩)
                            go_roundw
                            case rel => exact ⟨j + 1, by omega, by go_num, (by first | rfl | trivial)⟩
                            case measure => simp [intOf]; omega
                    · have hje : j = m2 := by omega
                      subst hje
                      have hjl' : ¬ (j : Int) < j := by omega
                      clear HCon HQr
                      go_wp2_with fail
                      go_roundw
                      case rel => exact ⟨k + 1, la2, lc2, s2, by omega, by go_num, Lib.hid HS6.out.tail.tail, by rw [← HC.out]; exact HFe⟩
                      case measure => simp [intOf]; omega
                · have hbig2 : ¬ 8 + mo < lf := hbig
                  clear hlim
                  go_wp2_with (first
                    | (go_at_call 14; refine HLf.out.mono ?_; rintro e w7 ⟨rfl, rfl⟩)
                    | (go_at_call 15; refine HOv.out.mono ?_; rintro e w7 ⟨rfl, rfl⟩))
                  all_goals try (exfalso; omega)
                  go_loopw [15] (fun vj wz => ∃ (j : Nat), j ≤ m2 ∧ vj = .int .i64 j ∧ wz = w6) (fun vj _ => m2 - (intOf vj).toNat)
                  case atStart => exact ⟨0, Nat.zero_le _, rfl, rfl⟩
                  case round =>
                    obtain ⟨j, hj, rfl, rfl⟩ := hrel
                    by_cases hjl : j < m2
                    · have hjl' : (j : Int) < m2 := by omega
                      have hj2 : j < its2.length := by rw [← HM2.out]; exact hjl
                      obtain ⟨rb, ro, rfl, hcs⟩ : ∃ b off, ra = some ⟨b, off, none⟩ ∧ ∀ i, (h : i < its2.length) → Rw.CE EIt _ b (off + i * 15) its2[i] := by
                        rcases HQr.out.row with h | h
                        · rw [h] at hj2; simp at hj2
                        · exact h
                      obtain ⟨_, _, _, _, _, _, _, _, _, _, _, _, c12, _, c14⟩ := CE_it (hcs j hj2)
                      have hv := HCon.out j hj2
                      generalize its2[j].1.x.is = xi at c12 hv
                      generalize its2[j].1.x.stream = xs at c14 hv
                      clear hcs
                      by_cases hlast : j + 1 = m2
                      · have hl1 : ((j : Int) == (m2 : Int) - 1) = true := by rw [beq_iff_eq]; omega
                        have hl2 : (j : Int) = (m2 : Int) - 1 := by omega
                        have HL2 := Lib.hid hl2
                        rw [decide_eq_true hlast] at hv
                        cases xi with
                        | false =>
                          clear hv hl2
                          go_wp2_with (go_at_call 15; refine HOv.out.mono ?_; rintro e w8 ⟨rfl, rfl⟩)
                          go_roundw
                          case rel => exact ⟨j + 1, by omega, by go_num, (by first | rfl | trivial)⟩
                          case measure => simp [intOf]; omega
                        | true =>
                          by_cases hs0 : xs = 0
                          · exfalso; subst hs0; simp at hv
                          · have hs1 : (xs == 0) = false := by rw [beq_eq_false_iff_ne]; exact hs0
                            clear hv hl2
                            go_wp2_with (go_at_call 15; refine HOv.out.mono ?_; rintro e w8 ⟨rfl, rfl⟩)
                            go_roundw
                            case rel => exact ⟨j + 1, by omega, by go_num, (by first | rfl | trivial)⟩
                            case measure => simp [intOf]; omega
                      · have hl1 : ((j : Int) == (m2 : Int) - 1) = false := by rw [beq_eq_false_iff_ne]; omega
                        rw [decide_eq_false hlast] at hv
                        cases xi with
                        | false =>
                          clear hv
                          go_wp2_with (go_at_call 15; refine HOv.out.mono ?_; rintro e w8 ⟨rfl, rfl⟩)
                          go_roundw
                          case rel => exact ⟨j + 1, by omega, by go_num, (by first | rfl | trivial)⟩
                          case measure => simp [intOf]; omega
                        | true =>
                          by_cases hs0 : xs = 0
                          · exfalso; subst hs0; simp at hv
                          · have hs1 : (xs == 0) = false := by rw [beq_eq_false_iff_ne]; exact hs0
                            clear hv
                            go_wp2_with (go_at_call 15; refine HOv.out.mono ?_; rintro e w8 ⟨rfl, rfl⟩)
                            go_roundw
                            case rel => exact ⟨j + 1, by omega, by go_num, (by first | rfl | trivial)⟩
                            case measure => simp [intOf]; omega
                    · have hje : j = m2 := by omega
                      subst hje
                      have hjl' : ¬ (j : Int) < j := by omega
                      clear HCon HQr
                      go_wp2_with fail
                      go_roundw
                      case rel => exact ⟨k + 1, la2, lc2, s2, by omega, by go_num, Lib.hid HS6.out.tail.tail, by rw [← HC.out]; exact HFe⟩
                      case measure => simp [intOf]; omega
          · have hkn' : k = n := by omega
            subst hkn'
            have hlt' : ¬ (k : Int) < k := by omega
            have HB := Lib.hid HS.out.bel
            clear HS HInv
            go_wp2_with fail
            go_ret
            exact ⟨rfl, HB.out⟩
      · have hmoe : mo = most := by omega
        subst hmoe
        clear hmo
        go_wp2_with fail
        have hdm : decide (mo < 131072) = false := decide_eq_false (by omega)
        simp only [hdm]
        go_loopw [12] (fun vi wr => ∃ (k : Nat) (la : Option Addr) (lc : Nat) (s : FeM), k ≤ n ∧ vi = .int .i64 k ∧ Hid (Sts w wr [(fb :: blk la, FdP fb la lc mo s)]) ∧ Hid (FeQ (stF mo aw (catB (l.take k))) s)) (fun vi _ => n - (intOf vi).toNat)
        case atStart => exact ⟨0, none, 0, ⟨[], aw, false⟩, Nat.zero_le _, rfl, H4, Lib.hid (by rw [show catB (l.take 0) = [] from rfl, stF_nil]; exact FeQ.refl _)⟩
        case round =>
          clear H4
          obtain ⟨k, la, lc, s, hkn, rfl, HS, HInv⟩ := hrel
          by_cases hlt : k < n
          · have hlt' : (k : Int) < n := by omega
            have hlr : k < l.length := by rw [← HN.out]; exact hlt
            obtain ⟨bl, off, rfl, hcs⟩ : ∃ b off, ad = some ⟨b, off, none⟩ ∧ ∀ i, (h : i < l.length) → Rw.CE EBl w b (off + i * 1) l[i] := by
              rcases HRw.out with h | h
              · rw [h] at hlr; simp at hlr
              · exact h
            have hx0 := CE_bl (hcs k hlr)
            rw [Nat.mul_one] at hx0
            have x0 := below_cell HS.out.bel hx0
            have hd := HOk.out l[k] (List.getElem_mem hlr)
            have hcat := catB_succ hlr
            have hcle := catB_le l (k + 1)
            have HRb := Lib.hid (hd.1.below HS.out.bel)
            obtain ⟨C, hC⟩ : ∃ C, C = catB (l.take (k + 1)) := ⟨_, rfl⟩
            obtain ⟨B, hB⟩ : ∃ B, B = catB (l.take k) := ⟨_, rfl⟩
            rw [← hC] at hcat hcle
            rw [← hB] at hcat HInv
            have HC := Lib.hid hC
            clear hcs hx0 hd hC hB
            generalize l[k] = d at *
            obtain ⟨da, dc, dl⟩ := d
            simp only at x0 HRb hcat
            have hCl : C.length = B.length + dl.length := by rw [hcat, List.length_append]
            have hCb : C.length ≤ 131072 := Nat.le_trans hcle HTot.out
            have hrest := rest_le HInv.out
            have ht := ptake_feed (cap := dc) (N := 300000) HS.out (i := 0) rfl HSp.out HRb.out (by omega) (by decide)
            obtain ⟨q, hq⟩ : ∃ q, q = dl.length := ⟨_, rfl⟩
            rw [← hq] at x0 ht
            have HTk := Lib.hid ht
            have HCat := Lib.hid hcat
            have HO5 := Lib.hid (pover_any _ (show FdO fb la lc mo s _ from HS.out.is 0 rfl))
            clear ht hq hrest hCl hcle hcat HRb hCb
            go_wp2_with fail
            refine HO5.out.mono ?_
            rintro e w5 ⟨rfl, rfl⟩
            go_wp2_with fail
            refine HTk.out.mono ?_
            rintro e w6 ⟨its2, ra, rc, la2, lc2, s2, rfl, hm2, hq2, _, hl2, S6⟩
            simp only [List.set] at S6
            have HS6 := Lib.hid S6
            have hmore := (feed_more (most := mo) (aw := aw) HInv.out hq2).2
            rw [← HCat.out] at hmore
            have HFe := Lib.hid hmore
            obtain ⟨m2, hm2'⟩ : ∃ m2, m2 = its2.length := ⟨_, rfl⟩
            rw [← hm2'] at hl2 ⊢
            have HM2 := Lib.hid hm2'
            have HCn : Hid (∀ (k : Nat) (h : k < its2.length), (its2[k].1.x.is && decide (its2[k].1.x.stream = 0)) = (decide (k + 1 = m2) && s2.over)) := Lib.hid (fun k h => by
              have hl := its_len hm2
              have h' : k < (feedF mo s dl).1.length := by rw [← hl]; exact h
              have h1 := feed_conn k h'
              have e : its2[k].1 = (feedF mo s dl).1[k] := by
                have h2 := congrArg (fun z => z[k]?) hm2
                simp only [List.getElem?_map, List.getElem?_eq_getElem h, List.getElem?_eq_getElem h', Option.map_some, Option.some.injEq] at h2
                exact h2
              rw [← e, ← hl, ← hm2', hq2.over] at h1
              exact h1)
            obtain ⟨lf, hlf⟩ : ∃ lf : Int, lf = (s2.rest.length : Nat) := ⟨_, rfl⟩
            have HLfe := Lib.hid hlf
            have hov0 : s2.over = true → lf = 0 := fun h => by
              have h1 := hmore.over
              rw [h, stF_over] at h1
              have h2 := all_over _ _ _ h1
              rw [hlf, ← hmore.rest, stF_rest, h2]; rfl
            have hlim : lf ≤ 8 + mo ∨ lf ≤ 23 := by
              have h1 := all_small C mo aw (by omega)
              rw [hlf, ← hmore.rest, stF_rest]
              rcases h1 with h1 | h1
              · exact .inl h1
              · exact .inr (by omega)
            have hm0 : s.over = true → m2 = 0 ∧ s2.over = true := fun h => by
              have h1 := feed_over (most := mo) (c := dl) h
              rw [h1.1] at hm2
              rw [h1.2] at hq2
              exact ⟨by rw [hm2']; have := congrArg List.length hm2; simpa using this, by rw [← hq2.over]; exact h⟩
            clear S6 hmore hq2 hm2 hm2' hlf HTk HS HO5
            cases ho : s.over with
            | true =>
              obtain ⟨h1, ho2⟩ := hm0 ho
              have hl0 := hov0 ho2
              subst h1
              subst hl0
              clear hm0 hov0 hlim
              have HQr : Hid (Rw.QRow EIt w6 ra rc its2) := Lib.hid (HS6.out.is 1 rfl)
              have HOv6 : Hid (∀ v, Sts w v [(sBs its2, SetsP its2), (blk ra, RowQ EIt ra rc its2), (fb :: blk la2, FdP fb la2 lc2 mo s2)] → Calls Tryd.prog 15 #[.pointer (some ⟨fb, 0, none⟩)] v fun e w' => e = .returned (.bool true) ∧ v = w') := Lib.hid (fun v hv => by
                have h := pover_any v (show FdO fb la2 lc2 mo s2 v from hv.is 2 rfl)
                rw [ho2] at h
                exact h)
              have HOv := Lib.hid (HOv6.out _ HS6.out)
              have HLf : Hid (Calls Tryd.prog 14 #[.pointer (some ⟨fb, 0, none⟩)] w6 fun e w' => e = .returned (.int .i64 0) ∧ w6 = w') := Lib.hid (by
                have h := pleft_any w6 (show FdO fb la2 lc2 mo s2 w6 from HS6.out.is 2 rfl)
                rw [← HLfe.out] at h
                exact h)
              have HCon : Hid (∀ (k : Nat) (h : k < its2.length), (its2[k].1.x.is && decide (its2[k].1.x.stream = 0)) = (decide (k + 1 = (0 : Nat)) && true)) := Lib.hid (fun k h => by
                have h1 := HCn.out k h
                rw [ho2] at h1
                exact h1)
              clear ho ho2
              skip
              go_wp2_with (first
                | (go_at_call 14; refine HLf.out.mono ?_; rintro e w7 ⟨rfl, rfl⟩)
                | (go_at_call 15; refine HOv.out.mono ?_; rintro e w7 ⟨rfl, rfl⟩))
              all_goals try (exfalso; omega)
              go_loopw [15] (fun vj wz => vj = .int .i64 0 ∧ wz = w6) (fun vj _ => 0)
              case atStart => exact ⟨rfl, rfl⟩
              case round =>
                obtain ⟨rfl, rfl⟩ := hrel
                clear HCon HQr
                go_wp2_with fail
                go_roundw
                case rel => exact ⟨k + 1, la2, lc2, s2, by omega, by go_num, Lib.hid HS6.out.tail.tail, by rw [← HC.out]; exact HFe⟩
                case measure => simp [intOf]; omega
            | false =>
              clear hm0
              cases ho2 : s2.over with
              | true =>
                have hl0 := hov0 ho2
                subst hl0
                clear hov0 hlim
                have HQr : Hid (Rw.QRow EIt w6 ra rc its2) := Lib.hid (HS6.out.is 1 rfl)
                have HOv6 : Hid (∀ v, Sts w v [(sBs its2, SetsP its2), (blk ra, RowQ EIt ra rc its2), (fb :: blk la2, FdP fb la2 lc2 mo s2)] → Calls Tryd.prog 15 #[.pointer (some ⟨fb, 0, none⟩)] v fun e w' => e = .returned (.bool true) ∧ v = w') := Lib.hid (fun v hv => by
                  have h := pover_any v (show FdO fb la2 lc2 mo s2 v from hv.is 2 rfl)
                  rw [ho2] at h
                  exact h)
                have HOv := Lib.hid (HOv6.out _ HS6.out)
                have HLf : Hid (Calls Tryd.prog 14 #[.pointer (some ⟨fb, 0, none⟩)] w6 fun e w' => e = .returned (.int .i64 0) ∧ w6 = w') := Lib.hid (by
                  have h := pleft_any w6 (show FdO fb la2 lc2 mo s2 w6 from HS6.out.is 2 rfl)
                  rw [← HLfe.out] at h
                  exact h)
                have HCon : Hid (∀ (k : Nat) (h : k < its2.length), (its2[k].1.x.is && decide (its2[k].1.x.stream = 0)) = (decide (k + 1 = m2) && true)) := Lib.hid (fun k h => by
                  have h1 := HCn.out k h
                  rw [ho2] at h1
                  exact h1)
                clear ho ho2
                skip
                go_wp2_with (first
                  | (go_at_call 14; refine HLf.out.mono ?_; rintro e w7 ⟨rfl, rfl⟩)
                  | (go_at_call 15; refine HOv.out.mono ?_; rintro e w7 ⟨rfl, rfl⟩))
                all_goals try (exfalso; omega)
                go_loopw [15] (fun vj wz => ∃ (j : Nat), j ≤ m2 ∧ vj = .int .i64 j ∧ wz = w6) (fun vj _ => m2 - (intOf vj).toNat)
                case atStart => exact ⟨0, Nat.zero_le _, rfl, rfl⟩
                case round =>
                  obtain ⟨j, hj, rfl, rfl⟩ := hrel
                  by_cases hjl : j < m2
                  · have hjl' : (j : Int) < m2 := by omega
                    have hj2 : j < its2.length := by rw [← HM2.out]; exact hjl
                    obtain ⟨rb, ro, rfl, hcs⟩ : ∃ b off, ra = some ⟨b, off, none⟩ ∧ ∀ i, (h : i < its2.length) → Rw.CE EIt _ b (off + i * 15) its2[i] := by
                      rcases HQr.out.row with h | h
                      · rw [h] at hj2; simp at hj2
                      · exact h
                    obtain ⟨_, _, _, _, _, _, _, _, _, _, _, _, c12, _, c14⟩ := CE_it (hcs j hj2)
                    have hv := HCon.out j hj2
                    generalize its2[j].1.x.is = xi at c12 hv
                    generalize its2[j].1.x.stream = xs at c14 hv
                    clear hcs
                    by_cases hlast : j + 1 = m2
                    · have hl1 : ((j : Int) == (m2 : Int) - 1) = true := by rw [beq_iff_eq]; omega
                      have hl2 : (j : Int) = (m2 : Int) - 1 := by omega
                      have HL2 := Lib.hid hl2
                      rw [decide_eq_true hlast] at hv
                      cases xi with
                      | false =>
                        exfalso; simp at hv
                      | true =>
                        by_cases hs0 : xs = 0
                        · subst hs0
                          clear hv hl2
                          go_wp2_with (go_at_call 15; refine HOv.out.mono ?_; rintro e w8 ⟨rfl, rfl⟩)
                          go_roundw
                          case rel => exact ⟨j + 1, by omega, by go_num, (by first | rfl | trivial)⟩
                          case measure => simp [intOf]; omega
                        · exfalso; simp [hs0] at hv
                    · have hl1 : ((j : Int) == (m2 : Int) - 1) = false := by rw [beq_eq_false_iff_ne]; omega
                      rw [decide_eq_false hlast] at hv
                      cases xi with
                      | false =>
                        clear hv
                        go_wp2_with (go_at_call 15; refine HOv.out.mono ?_; rintro e w8 ⟨rfl, rfl⟩)
                        go_roundw
                        case rel => exact ⟨j + 1, by omega, by go_num, (by first | rfl | trivial)⟩
                        case measure => simp [intOf]; omega
                      | true =>
                        by_cases hs0 : xs = 0
                        · exfalso; subst hs0; simp at hv
                        · have hs1 : (xs == 0) = false := by rw [beq_eq_false_iff_ne]; exact hs0
                          clear hv
                          go_wp2_with (go_at_call 15; refine HOv.out.mono ?_; rintro e w8 ⟨rfl, rfl⟩)
                          go_roundw
                          case rel => exact ⟨j + 1, by omega, by go_num, (by first | rfl | trivial)⟩
                          case measure => simp [intOf]; omega
                  · have hje : j = m2 := by omega
                    subst hje
                    have hjl' : ¬ (j : Int) < j := by omega
                    clear HCon HQr
                    go_wp2_with fail
                    go_roundw
                    case rel => exact ⟨k + 1, la2, lc2, s2, by omega, by go_num, Lib.hid HS6.out.tail.tail, by rw [← HC.out]; exact HFe⟩
                    case measure => simp [intOf]; omega
              | false =>
                clear hov0
                have HQr : Hid (Rw.QRow EIt w6 ra rc its2) := Lib.hid (HS6.out.is 1 rfl)
                have HOv6 : Hid (∀ v, Sts w v [(sBs its2, SetsP its2), (blk ra, RowQ EIt ra rc its2), (fb :: blk la2, FdP fb la2 lc2 mo s2)] → Calls Tryd.prog 15 #[.pointer (some ⟨fb, 0, none⟩)] v fun e w' => e = .returned (.bool false) ∧ v = w') := Lib.hid (fun v hv => by
                  have h := pover_any v (show FdO fb la2 lc2 mo s2 v from hv.is 2 rfl)
                  rw [ho2] at h
                  exact h)
                have HOv := Lib.hid (HOv6.out _ HS6.out)
                have HLf : Hid (Calls Tryd.prog 14 #[.pointer (some ⟨fb, 0, none⟩)] w6 fun e w' => e = .returned (.int .i64 lf) ∧ w6 = w') := Lib.hid (by
                  have h := pleft_any w6 (show FdO fb la2 lc2 mo s2 w6 from HS6.out.is 2 rfl)
                  rw [← HLfe.out] at h
                  exact h)
                have HCon : Hid (∀ (k : Nat) (h : k < its2.length), (its2[k].1.x.is && decide (its2[k].1.x.stream = 0)) = (decide (k + 1 = m2) && false)) := Lib.hid (fun k h => by
                  have h1 := HCn.out k h
                  rw [ho2] at h1
                  exact h1)
                clear ho ho2
                skip
                go_wp2_with (first
                  | (go_at_call 14; refine HLf.out.mono ?_; rintro e w7 ⟨rfl, rfl⟩)
                  | (go_at_call 15; refine HOv.out.mono ?_; rintro e w7 ⟨rfl, rfl⟩))
                all_goals try (exfalso; omega)
                go_loopw [15] (fun vj wz => ∃ (j : Nat), j ≤ m2 ∧ vj = .int .i64 j ∧ wz = w6) (fun vj _ => m2 - (intOf vj).toNat)
                case atStart => exact ⟨0, Nat.zero_le _, rfl, rfl⟩
                case round =>
                  obtain ⟨j, hj, rfl, rfl⟩ := hrel
                  by_cases hjl : j < m2
                  · have hjl' : (j : Int) < m2 := by omega
                    have hj2 : j < its2.length := by rw [← HM2.out]; exact hjl
                    obtain ⟨rb, ro, rfl, hcs⟩ : ∃ b off, ra = some ⟨b, off, none⟩ ∧ ∀ i, (h : i < its2.length) → Rw.CE EIt _ b (off + i * 15) its2[i] := by
                      rcases HQr.out.row with h | h
                      · rw [h] at hj2; simp at hj2
                      · exact h
                    obtain ⟨_, _, _, _, _, _, _, _, _, _, _, _, c12, _, c14⟩ := CE_it (hcs j hj2)
                    have hv := HCon.out j hj2
                    generalize its2[j].1.x.is = xi at c12 hv
                    generalize its2[j].1.x.stream = xs at c14 hv
                    clear hcs
                    by_cases hlast : j + 1 = m2
                    · have hl1 : ((j : Int) == (m2 : Int) - 1) = true := by rw [beq_iff_eq]; omega
                      have hl2 : (j : Int) = (m2 : Int) - 1 := by omega
                      have HL2 := Lib.hid hl2
                      rw [decide_eq_true hlast] at hv
                      cases xi with
                      | false =>
                        clear hv hl2
                        go_wp2_with (go_at_call 15; refine HOv.out.mono ?_; rintro e w8 ⟨rfl, rfl⟩)
                        go_roundw
                        case rel => exact ⟨j + 1, by omega, by go_num, (by first | rfl | trivial)⟩
                        case measure => simp [intOf]; omega
                      | true =>
                        by_cases hs0 : xs = 0
                        · exfalso; subst hs0; simp at hv
                        · have hs1 : (xs == 0) = false := by rw [beq_eq_false_iff_ne]; exact hs0
                          clear hv hl2
                          go_wp2_with (go_at_call 15; refine HOv.out.mono ?_; rintro e w8 ⟨rfl, rfl⟩)
                          go_roundw
                          case rel => exact ⟨j + 1, by omega, by go_num, (by first | rfl | trivial)⟩
                          case measure => simp [intOf]; omega
                    · have hl1 : ((j : Int) == (m2 : Int) - 1) = false := by rw [beq_eq_false_iff_ne]; omega
                      rw [decide_eq_false hlast] at hv
                      cases xi with
                      | false =>
                        clear hv
                        go_wp2_with (go_at_call 15; refine HOv.out.mono ?_; rintro e w8 ⟨rfl, rfl⟩)
                        go_roundw
                        case rel => exact ⟨j + 1, by omega, by go_num, (by first | rfl | trivial)⟩
                        case measure => simp [intOf]; omega
                      | true =>
                        by_cases hs0 : xs = 0
                        · exfalso; subst hs0; simp at hv
                        · have hs1 : (xs == 0) = false := by rw [beq_eq_false_iff_ne]; exact hs0
                          clear hv
                          go_wp2_with (go_at_call 15; refine HOv.out.mono ?_; rintro e w8 ⟨rfl, rfl⟩)
                          go_roundw
                          case rel => exact ⟨j + 1, by omega, by go_num, (by first | rfl | trivial)⟩
                          case measure => simp [intOf]; omega
                  · have hje : j = m2 := by omega
                    subst hje
                    have hjl' : ¬ (j : Int) < j := by omega
                    clear HCon HQr
                    go_wp2_with fail
                    go_roundw
                    case rel => exact ⟨k + 1, la2, lc2, s2, by omega, by go_num, Lib.hid HS6.out.tail.tail, by rw [← HC.out]; exact HFe⟩
                    case measure => simp [intOf]; omega
          · have hkn' : k = n := by omega
            subst hkn'
            have hlt' : ¬ (k : Int) < k := by omega
            have HB := Lib.hid HS.out.bel
            clear HS HInv
            go_wp2_with fail
            go_ret
            exact ⟨rfl, HB.out⟩
    · have hmoe : mo = 0 := by omega
      have h17 : most < 131072 := by omega
      have hpos' : ¬ most > 0 := hpos
      have HMo := Lib.hid hmoe
      have hmo0 : 0 ≤ mo := by omega
      clear hmo hmoe
      go_wp2_with fail
      go_loopw [12] (fun vi wr => ∃ (k : Nat) (la : Option Addr) (lc : Nat) (s : FeM), k ≤ n ∧ vi = .int .i64 k ∧ Hid (Sts w wr [(fb :: blk la, FdP fb la lc mo s)]) ∧ Hid (FeQ (stF mo aw (catB (l.take k))) s)) (fun vi _ => n - (intOf vi).toNat)
      case atStart => exact ⟨0, none, 0, ⟨[], aw, false⟩, Nat.zero_le _, rfl, H4, Lib.hid (by rw [show catB (l.take 0) = [] from rfl, stF_nil]; exact FeQ.refl _)⟩
      case round =>
        clear H4
        obtain ⟨k, la, lc, s, hkn, rfl, HS, HInv⟩ := hrel
        by_cases hlt : k < n
        · have hlt' : (k : Int) < n := by omega
          have hlr : k < l.length := by rw [← HN.out]; exact hlt
          obtain ⟨bl, off, rfl, hcs⟩ : ∃ b off, ad = some ⟨b, off, none⟩ ∧ ∀ i, (h : i < l.length) → Rw.CE EBl w b (off + i * 1) l[i] := by
            rcases HRw.out with h | h
            · rw [h] at hlr; simp at hlr
            · exact h
          have hx0 := CE_bl (hcs k hlr)
          rw [Nat.mul_one] at hx0
          have x0 := below_cell HS.out.bel hx0
          have hd := HOk.out l[k] (List.getElem_mem hlr)
          have hcat := catB_succ hlr
          have hcle := catB_le l (k + 1)
          have HRb := Lib.hid (hd.1.below HS.out.bel)
          obtain ⟨C, hC⟩ : ∃ C, C = catB (l.take (k + 1)) := ⟨_, rfl⟩
          obtain ⟨B, hB⟩ : ∃ B, B = catB (l.take k) := ⟨_, rfl⟩
          rw [← hC] at hcat hcle
          rw [← hB] at hcat HInv
          have HC := Lib.hid hC
          clear hcs hx0 hd hC hB
          generalize l[k] = d at *
          obtain ⟨da, dc, dl⟩ := d
          simp only at x0 HRb hcat
          have hCl : C.length = B.length + dl.length := by rw [hcat, List.length_append]
          have hCb : C.length ≤ 131072 := Nat.le_trans hcle HTot.out
          have hrest := rest_le HInv.out
          have ht := ptake_feed (cap := dc) (N := 300000) HS.out (i := 0) rfl HSp.out HRb.out (by omega) (by decide)
          obtain ⟨q, hq⟩ : ∃ q, q = dl.length := ⟨_, rfl⟩
          rw [← hq] at x0 ht
          have HTk := Lib.hid ht
          have HCat := Lib.hid hcat
          have HO5 := Lib.hid (pover_any _ (show FdO fb la lc mo s _ from HS.out.is 0 rfl))
          clear ht hq hrest hCl hcle hcat HRb hCb
          go_wp2_with fail
          refine HO5.out.mono ?_
          rintro e w5 ⟨rfl, rfl⟩
          go_wp2_with fail
          refine HTk.out.mono ?_
          rintro e w6 ⟨its2, ra, rc, la2, lc2, s2, rfl, hm2, hq2, _, hl2, S6⟩
          simp only [List.set] at S6
          have HS6 := Lib.hid S6
          have hmore := (feed_more (most := mo) (aw := aw) HInv.out hq2).2
          rw [← HCat.out] at hmore
          have HFe := Lib.hid hmore
          obtain ⟨m2, hm2'⟩ : ∃ m2, m2 = its2.length := ⟨_, rfl⟩
          rw [← hm2'] at hl2 ⊢
          have HM2 := Lib.hid hm2'
          have HCn : Hid (∀ (k : Nat) (h : k < its2.length), (its2[k].1.x.is && decide (its2[k].1.x.stream = 0)) = (decide (k + 1 = m2) && s2.over)) := Lib.hid (fun k h => by
            have hl := its_len hm2
            have h' : k < (feedF mo s dl).1.length := by rw [← hl]; exact h
            have h1 := feed_conn k h'
            have e : its2[k].1 = (feedF mo s dl).1[k] := by
              have h2 := congrArg (fun z => z[k]?) hm2
              simp only [List.getElem?_map, List.getElem?_eq_getElem h, List.getElem?_eq_getElem h', Option.map_some, Option.some.injEq] at h2
              exact h2
            rw [← e, ← hl, ← hm2', hq2.over] at h1
            exact h1)
          obtain ⟨lf, hlf⟩ : ∃ lf : Int, lf = (s2.rest.length : Nat) := ⟨_, rfl⟩
          have HLfe := Lib.hid hlf
          have hov0 : s2.over = true → lf = 0 := fun h => by
            have h1 := hmore.over
            rw [h, stF_over] at h1
            have h2 := all_over _ _ _ h1
            rw [hlf, ← hmore.rest, stF_rest, h2]; rfl
          have hlim : lf ≤ 8 + mo ∨ lf ≤ 23 := by
            have h1 := all_small C mo aw (by omega)
            rw [hlf, ← hmore.rest, stF_rest]
            rcases h1 with h1 | h1
            · exact .inl h1
            · exact .inr (by omega)
          have hm0 : s.over = true → m2 = 0 ∧ s2.over = true := fun h => by
            have h1 := feed_over (most := mo) (c := dl) h
            rw [h1.1] at hm2
            rw [h1.2] at hq2
            exact ⟨by rw [hm2']; have := congrArg List.length hm2; simpa using this, by rw [← hq2.over]; exact h⟩
          clear S6 hmore hq2 hm2 hm2' hlf HTk HS HO5
          cases ho : s.over with
          | true =>
            obtain ⟨h1, ho2⟩ := hm0 ho
            have hl0 := hov0 ho2
            subst h1
            subst hl0
            clear hm0 hov0 hlim
            have HQr : Hid (Rw.QRow EIt w6 ra rc its2) := Lib.hid (HS6.out.is 1 rfl)
            have HOv6 : Hid (∀ v, Sts w v [(sBs its2, SetsP its2), (blk ra, RowQ EIt ra rc its2), (fb :: blk la2, FdP fb la2 lc2 mo s2)] → Calls Tryd.prog 15 #[.pointer (some ⟨fb, 0, none⟩)] v fun e w' => e = .returned (.bool true) ∧ v = w') := Lib.hid (fun v hv => by
              have h := pover_any v (show FdO fb la2 lc2 mo s2 v from hv.is 2 rfl)
              rw [ho2] at h
              exact h)
            have HOv := Lib.hid (HOv6.out _ HS6.out)
            have HLf : Hid (Calls Tryd.prog 14 #[.pointer (some ⟨fb, 0, none⟩)] w6 fun e w' => e = .returned (.int .i64 0) ∧ w6 = w') := Lib.hid (by
              have h := pleft_any w6 (show FdO fb la2 lc2 mo s2 w6 from HS6.out.is 2 rfl)
              rw [← HLfe.out] at h
              exact h)
            have HCon : Hid (∀ (k : Nat) (h : k < its2.length), (its2[k].1.x.is && decide (its2[k].1.x.stream = 0)) = (decide (k + 1 = (0 : Nat)) && true)) := Lib.hid (fun k h => by
              have h1 := HCn.out k h
              rw [ho2] at h1
              exact h1)
            clear ho ho2
            skip
            go_wp2_with (first
              | (go_at_call 14; refine HLf.out.mono ?_; rintro e w7 ⟨rfl, rfl⟩)
              | (go_at_call 15; refine HOv.out.mono ?_; rintro e w7 ⟨rfl, rfl⟩))
            all_goals try (exfalso; omega)
            go_loopw [15] (fun vj wz => vj = .int .i64 0 ∧ wz = w6) (fun vj _ => 0)
            case atStart => exact ⟨rfl, rfl⟩
            case round =>
              obtain ⟨rfl, rfl⟩ := hrel
              clear HCon HQr
              go_wp2_with fail
              go_roundw
              case rel => exact ⟨k + 1, la2, lc2, s2, by omega, by go_num, Lib.hid HS6.out.tail.tail, by rw [← HC.out]; exact HFe⟩
              case measure => simp [intOf]; omega
          | false =>
            clear hm0
            cases ho2 : s2.over with
            | true =>
              have hl0 := hov0 ho2
              subst hl0
              clear hov0 hlim
              have HQr : Hid (Rw.QRow EIt w6 ra rc its2) := Lib.hid (HS6.out.is 1 rfl)
              have HOv6 : Hid (∀ v, Sts w v [(sBs its2, SetsP its2), (blk ra, RowQ EIt ra rc its2), (fb :: blk la2, FdP fb la2 lc2 mo s2)] → Calls Tryd.prog 15 #[.pointer (some ⟨fb, 0, none⟩)] v fun e w' => e = .returned (.bool true) ∧ v = w') := Lib.hid (fun v hv => by
                have h := pover_any v (show FdO fb la2 lc2 mo s2 v from hv.is 2 rfl)
                rw [ho2] at h
                exact h)
              have HOv := Lib.hid (HOv6.out _ HS6.out)
              have HLf : Hid (Calls Tryd.prog 14 #[.pointer (some ⟨fb, 0, none⟩)] w6 fun e w' => e = .returned (.int .i64 0) ∧ w6 = w') := Lib.hid (by
                have h := pleft_any w6 (show FdO fb la2 lc2 mo s2 w6 from HS6.out.is 2 rfl)
                rw [← HLfe.out] at h
                exact h)
              have HCon : Hid (∀ (k : Nat) (h : k < its2.length), (its2[k].1.x.is && decide (its2[k].1.x.stream = 0)) = (decide (k + 1 = m2) && true)) := Lib.hid (fun k h => by
                have h1 := HCn.out k h
                rw [ho2] at h1
                exact h1)
              clear ho ho2
              skip
              go_wp2_with (first
                | (go_at_call 14; refine HLf.out.mono ?_; rintro e w7 ⟨rfl, rfl⟩)
                | (go_at_call 15; refine HOv.out.mono ?_; rintro e w7 ⟨rfl, rfl⟩))
              all_goals try (exfalso; omega)
              go_loopw [15] (fun vj wz => ∃ (j : Nat), j ≤ m2 ∧ vj = .int .i64 j ∧ wz = w6) (fun vj _ => m2 - (intOf vj).toNat)
              case atStart => exact ⟨0, Nat.zero_le _, rfl, rfl⟩
              case round =>
                obtain ⟨j, hj, rfl, rfl⟩ := hrel
                by_cases hjl : j < m2
                · have hjl' : (j : Int) < m2 := by omega
                  have hj2 : j < its2.length := by rw [← HM2.out]; exact hjl
                  obtain ⟨rb, ro, rfl, hcs⟩ : ∃ b off, ra = some ⟨b, off, none⟩ ∧ ∀ i, (h : i < its2.length) → Rw.CE EIt _ b (off + i * 15) its2[i] := by
                    rcases HQr.out.row with h | h
                    · rw [h] at hj2; simp at hj2
                    · exact h
                  obtain ⟨_, _, _, _, _, _, _, _, _, _, _, _, c12, _, c14⟩ := CE_it (hcs j hj2)
                  have hv := HCon.out j hj2
                  generalize its2[j].1.x.is = xi at c12 hv
                  generalize its2[j].1.x.stream = xs at c14 hv
                  clear hcs
                  by_cases hlast : j + 1 = m2
                  · have hl1 : ((j : Int) == (m2 : Int) - 1) = true := by rw [beq_iff_eq]; omega
                    have hl2 : (j : Int) = (m2 : Int) - 1 := by omega
                    have HL2 := Lib.hid hl2
                    rw [decide_eq_true hlast] at hv
                    cases xi with
                    | false =>
                      exfalso; simp at hv
                    | true =>
                      by_cases hs0 : xs = 0
                      · subst hs0
                        clear hv hl2
                        go_wp2_with (go_at_call 15; refine HOv.out.mono ?_; rintro e w8 ⟨rfl, rfl⟩)
                        go_roundw
                        case rel => exact ⟨j + 1, by omega, by go_num, (by first | rfl | trivial)⟩
                        case measure => simp [intOf]; omega
                      · exfalso; simp [hs0] at hv
                  · have hl1 : ((j : Int) == (m2 : Int) - 1) = false := by rw [beq_eq_false_iff_ne]; omega
                    rw [decide_eq_false hlast] at hv
                    cases xi with
                    | false =>
                      clear hv
                      go_wp2_with (go_at_call 15; refine HOv.out.mono ?_; rintro e w8 ⟨rfl, rfl⟩)
                      go_roundw
                      case rel => exact ⟨j + 1, by omega, by go_num, (by first | rfl | trivial)⟩
                      case measure => simp [intOf]; omega
                    | true =>
                      by_cases hs0 : xs = 0
                      · exfalso; subst hs0; simp at hv
                      · have hs1 : (xs == 0) = false := by rw [beq_eq_false_iff_ne]; exact hs0
                        clear hv
                        go_wp2_with (go_at_call 15; refine HOv.out.mono ?_; rintro e w8 ⟨rfl, rfl⟩)
                        go_roundw
                        case rel => exact ⟨j + 1, by omega, by go_num, (by first | rfl | trivial)⟩
                        case measure => simp [intOf]; omega
                · have hje : j = m2 := by omega
                  subst hje
                  have hjl' : ¬ (j : Int) < j := by omega
                  clear HCon HQr
                  go_wp2_with fail
                  go_roundw
                  case rel => exact ⟨k + 1, la2, lc2, s2, by omega, by go_num, Lib.hid HS6.out.tail.tail, by rw [← HC.out]; exact HFe⟩
                  case measure => simp [intOf]; omega
            | false =>
              clear hov0
              have HQr : Hid (Rw.QRow EIt w6 ra rc its2) := Lib.hid (HS6.out.is 1 rfl)
              have HOv6 : Hid (∀ v, Sts w v [(sBs its2, SetsP its2), (blk ra, RowQ EIt ra rc its2), (fb :: blk la2, FdP fb la2 lc2 mo s2)] → Calls Tryd.prog 15 #[.pointer (some ⟨fb, 0, none⟩)] v fun e w' => e = .returned (.bool false) ∧ v = w') := Lib.hid (fun v hv => by
                have h := pover_any v (show FdO fb la2 lc2 mo s2 v from hv.is 2 rfl)
                rw [ho2] at h
                exact h)
              have HOv := Lib.hid (HOv6.out _ HS6.out)
              have HLf : Hid (Calls Tryd.prog 14 #[.pointer (some ⟨fb, 0, none⟩)] w6 fun e w' => e = .returned (.int .i64 lf) ∧ w6 = w') := Lib.hid (by
                have h := pleft_any w6 (show FdO fb la2 lc2 mo s2 w6 from HS6.out.is 2 rfl)
                rw [← HLfe.out] at h
                exact h)
              have HCon : Hid (∀ (k : Nat) (h : k < its2.length), (its2[k].1.x.is && decide (its2[k].1.x.stream = 0)) = (decide (k + 1 = m2) && false)) := Lib.hid (fun k h => by
                have h1 := HCn.out k h
                rw [ho2] at h1
                exact h1)
              clear ho ho2
              rw [HMo.out] at hlim
              by_cases hbig : lf > 8
              · have hb23 : ¬ lf > 23 := by omega
                have hbig2 : 8 < lf := hbig
                clear hlim
                go_wp2_with (first
                  | (go_at_call 14; refine HLf.out.mono ?_; rintro e w7 ⟨rfl, rfl⟩)
                  | (go_at_call 15; refine HOv.out.mono ?_; rintro e w7 ⟨rfl, rfl⟩))
                all_goals try (exfalso; omega)
                go_loopw [15] (fun vj wz => ∃ (j : Nat), j ≤ m2 ∧ vj = .int .i64 j ∧ wz = w6) (fun vj _ => m2 - (intOf vj).toNat)
                case atStart => exact ⟨0, Nat.zero_le _, rfl, rfl⟩
                case round =>
                  obtain ⟨j, hj, rfl, rfl⟩ := hrel
                  by_cases hjl : j < m2
                  · have hjl' : (j : Int) < m2 := by omega
                    have hj2 : j < its2.length := by rw [← HM2.out]; exact hjl
                    obtain ⟨rb, ro, rfl, hcs⟩ : ∃ b off, ra = some ⟨b, off, none⟩ ∧ ∀ i, (h : i < its2.length) → Rw.CE EIt _ b (off + i * 15) its2[i] := by
                      rcases HQr.out.row with h | h
                      · rw [h] at hj2; simp at hj2
                      · exact h
                    obtain ⟨_, _, _, _, _, _, _, _, _, _, _, _, c12, _, c14⟩ := CE_it (hcs j hj2)
                    have hv := HCon.out j hj2
                    generalize its2[j].1.x.is = xi at c12 hv
                    generalize its2[j].1.x.stream = xs at c14 hv
                    clear hcs
                    by_cases hlast : j + 1 = m2
                    · have hl1 : ((j : Int) == (m2 : Int) - 1) = true := by rw [beq_iff_eq]; omega
                      have hl2 : (j : Int) = (m2 : Int) - 1 := by omega
                      have HL2 := Lib.hid hl2
                      rw [decide_eq_true hlast] at hv
                      cases xi with
                      | false =>
                        clear hv hl2
                        go_wp2_with (go_at_call 15; refine HOv.out.mono ?_; rintro e w8 ⟨rfl, rfl⟩)
                        go_roundw
                        case rel => exact ⟨j + 1, by omega, by go_num, (by first | rfl | trivial)⟩
                        case measure => simp [intOf]; omega
                      | true =>
                        by_cases hs0 : xs = 0
                        · exfalso; subst hs0; simp at hv
                        · have hs1 : (xs == 0) = false := by rw [beq_eq_false_iff_ne]; exact hs0
                          clear hv hl2
                          go_wp2_with (go_at_call 15; refine HOv.out.mono ?_; rintro e w8 ⟨rfl, rfl⟩)
                          go_roundw
                          case rel => exact ⟨j + 1, by omega, by go_num, (by first | rfl | trivial)⟩
                          case measure => simp [intOf]; omega
                    · have hl1 : ((j : Int) == (m2 : Int) - 1) = false := by rw [beq_eq_false_iff_ne]; omega
                      rw [decide_eq_false hlast] at hv
                      cases xi with
                      | false =>
                        clear hv
                        go_wp2_with (go_at_call 15; refine HOv.out.mono ?_; rintro e w8 ⟨rfl, rfl⟩)
                        go_roundw
                        case rel => exact ⟨j + 1, by omega, by go_num, (by first | rfl | trivial)⟩
                        case measure => simp [intOf]; omega
                      | true =>
                        by_cases hs0 : xs = 0
                        · exfalso; subst hs0; simp at hv
                        · have hs1 : (xs == 0) = false := by rw [beq_eq_false_iff_ne]; exact hs0
                          clear hv
                          go_wp2_with (go_at_call 15; refine HOv.out.mono ?_; rintro e w8 ⟨rfl, rfl⟩)
                          go_roundw
                          case rel => exact ⟨j + 1, by omega, by go_num, (by first | rfl | trivial)⟩
                          case measure => simp [intOf]; omega
                  · have hje : j = m2 := by omega
                    subst hje
                    have hjl' : ¬ (j : Int) < j := by omega
                    clear HCon HQr
                    go_wp2_with fail
                    go_roundw
                    case rel => exact ⟨k + 1, la2, lc2, s2, by omega, by go_num, Lib.hid HS6.out.tail.tail, by rw [← HC.out]; exact HFe⟩
                    case measure => simp [intOf]; omega
              · have hbig2 : ¬ 8 < lf := hbig
                clear hlim
                go_wp2_with (first
                  | (go_at_call 14; refine HLf.out.mono ?_; rintro e w7 ⟨rfl, rfl⟩)
                  | (go_at_call 15; refine HOv.out.mono ?_; rintro e w7 ⟨rfl, rfl⟩))
                all_goals try (exfalso; omega)
                go_loopw [15] (fun vj wz => ∃ (j : Nat), j ≤ m2 ∧ vj = .int .i64 j ∧ wz = w6) (fun vj _ => m2 - (intOf vj).toNat)
                case atStart => exact ⟨0, Nat.zero_le _, rfl, rfl⟩
                case round =>
                  obtain ⟨j, hj, rfl, rfl⟩ := hrel
                  by_cases hjl : j < m2
                  · have hjl' : (j : Int) < m2 := by omega
                    have hj2 : j < its2.length := by rw [← HM2.out]; exact hjl
                    obtain ⟨rb, ro, rfl, hcs⟩ : ∃ b off, ra = some ⟨b, off, none⟩ ∧ ∀ i, (h : i < its2.length) → Rw.CE EIt _ b (off + i * 15) its2[i] := by
                      rcases HQr.out.row with h | h
                      · rw [h] at hj2; simp at hj2
                      · exact h
                    obtain ⟨_, _, _, _, _, _, _, _, _, _, _, _, c12, _, c14⟩ := CE_it (hcs j hj2)
                    have hv := HCon.out j hj2
                    generalize its2[j].1.x.is = xi at c12 hv
                    generalize its2[j].1.x.stream = xs at c14 hv
                    clear hcs
                    by_cases hlast : j + 1 = m2
                    · have hl1 : ((j : Int) == (m2 : Int) - 1) = true := by rw [beq_iff_eq]; omega
                      have hl2 : (j : Int) = (m2 : Int) - 1 := by omega
                      have HL2 := Lib.hid hl2
                      rw [decide_eq_true hlast] at hv
                      cases xi with
                      | false =>
                        clear hv hl2
                        go_wp2_with (go_at_call 15; refine HOv.out.mono ?_; rintro e w8 ⟨rfl, rfl⟩)
                        go_roundw
                        case rel => exact ⟨j + 1, by omega, by go_num, (by first | rfl | trivial)⟩
                        case measure => simp [intOf]; omega
                      | true =>
                        by_cases hs0 : xs = 0
                        · exfalso; subst hs0; simp at hv
                        · have hs1 : (xs == 0) = false := by rw [beq_eq_false_iff_ne]; exact hs0
                          clear hv hl2
                          go_wp2_with (go_at_call 15; refine HOv.out.mono ?_; rintro e w8 ⟨rfl, rfl⟩)
                          go_roundw
                          case rel => exact ⟨j + 1, by omega, by go_num, (by first | rfl | trivial)⟩
                          case measure => simp [intOf]; omega
                    · have hl1 : ((j : Int) == (m2 : Int) - 1) = false := by rw [beq_eq_false_iff_ne]; omega
                      rw [decide_eq_false hlast] at hv
                      cases xi with
                      | false =>
                        clear hv
                        go_wp2_with (go_at_call 15; refine HOv.out.mono ?_; rintro e w8 ⟨rfl, rfl⟩)
                        go_roundw
                        case rel => exact ⟨j + 1, by omega, by go_num, (by first | rfl | trivial)⟩
                        case measure => simp [intOf]; omega
                      | true =>
                        by_cases hs0 : xs = 0
                        · exfalso; subst hs0; simp at hv
                        · have hs1 : (xs == 0) = false := by rw [beq_eq_false_iff_ne]; exact hs0
                          clear hv
                          go_wp2_with (go_at_call 15; refine HOv.out.mono ?_; rintro e w8 ⟨rfl, rfl⟩)
                          go_roundw
                          case rel => exact ⟨j + 1, by omega, by go_num, (by first | rfl | trivial)⟩
                          case measure => simp [intOf]; omega
                  · have hje : j = m2 := by omega
                    subst hje
                    have hjl' : ¬ (j : Int) < j := by omega
                    clear HCon HQr
                    go_wp2_with fail
                    go_roundw
                    case rel => exact ⟨k + 1, la2, lc2, s2, by omega, by go_num, Lib.hid HS6.out.tail.tail, by rw [← HC.out]; exact HFe⟩
                    case measure => simp [intOf]; omega
        · have hkn' : k = n := by omega
          subst hkn'
          have hlt' : ¬ (k : Int) < k := by omega
          have HB := Lib.hid HS.out.bel
          clear HS HInv
          go_wp2_with fail
          go_ret
          exact ⟨rfl, HB.out⟩
end Go.Proofs.YtglhdlkmgmbgeaaDoor
