/- The contract of layer 3's program: TakeText. -/
import Derived.Test.YtabpoejimnoamaaDoorRows
import Derived.Test.YtabpoejimnoamaaDoorPrePure
import Derived.Test.YtabpoejimnoamaaDoorMem
import Derived.Test.YtabpoejimnoamaaDoorMem2
import Derived.Test.YtabpoejimnoamaaDoorGen
import Derived.Test.YtabpoejimnoamaaDoorHuf2
import Derived.Test.YtabpoejimnoamaaDoorHuf3
import Derived.Test.YtabpoejimnoamaaDoorPreP
import Derived.Test.YtabpoejimnoamaaDoorPreQ
import Derived.Test.YtabpoejimnoamaaDoorPre4
import Derived.Test.YtabpoejimnoamaaDoorPre1
import Derived.Test.YtabpoejimnoamaaDoorPre2
import Derived.WalkKit
import Derived.WalkSpells
import Derived.WalkLawsBesides
import Derived.Lib.Hide
import Derived.Outline
namespace Go.Proofs.YtabpoejimnoamaaDoor
open Go.RowKit
open Huf Pre Mem Gen
set_option linter.unusedVariables false

set_option maxHeartbeats 1000000 in
theorem ptaketext_any (a : Option Addr) (l : List UInt8) (cap : Nat) (w : World) (hl : l.length ≤ 134217728) (hcap : l.length ≤ cap) (hmax : cap ≤ maxLen) (hr : RB w a l) (hg : GrpIs w) :
    Calls Tryd.prog 9 #[.slice a l.length cap] w fun e w' => e = .returned (.tuple #[.string ⟨(takeT l).1.toArray⟩, .int .i64 (takeT l).2.1, .int .i64 (takeT l).2.2]) ∧ Below w.heap.size w w' := by
  unfold maxLen at hmax
  have HT : Hid (∀ v : World, RB v a l → Calls Tryd.prog 13 #[.slice a l.length cap, .int .i64 7] v fun e w' => e = .returned (.tuple #[.int .i64 (takeN l 7).1, .int .i64 (takeN l 7).2.1, .int .i64 (takeN l 7).2.2]) ∧ Below v.heap.size v w') := Lib.hid (fun v hv => by
    have h := ptakeint_any a l cap 7 v (by omega) hcap hv
    exact h)
  have HG := Lib.hid hg
  clear hg
  have hbd := takeN_bd l 7 (by decide)
  have HR : Hid (takeT l = if (takeN l 7).2.2 ≠ 0 then ([], 0, (takeN l 7).2.2)
    else if 4096 < (takeN l 7).1 then ([], 0, 2)
    else if (l.length : Int) - (takeN l 7).2.1 < (takeN l 7).1 then ([], 0, 12)
    else if 127 < (l.headD 0).toNat then
      match dec ((l.drop (takeN l 7).2.1).take (takeN l 7).1) with
      | none => ([], 0, 10)
      | some u => if 4096 < u.length then ([], 0, 2) else (u, (takeN l 7).2.1 + (takeN l 7).1, 0)
    else ((l.drop (takeN l 7).2.1).take (takeN l 7).1, (takeN l 7).2.1 + (takeN l 7).1, 0)) := rfl
  generalize takeT l = R at HR ⊢
  generalize takeN l 7 = N at HT hbd HR
  obtain ⟨n, p, e⟩ := N
  simp only at HT hbd HR
  obtain ⟨hn, _, hb0, he12⟩ := hbd
  have HRB := Lib.hid hr
  by_cases he : e = 0
  · obtain ⟨hp1, hpl, hp6⟩ := hb0 he
    subst he
    clear hb0 he12
    have HR2 : Hid (R = if 4096 < n then ([], 0, 2)
      else if (l.length : Int) - p < n then ([], 0, 12)
      else if 127 < (l.headD 0).toNat then
        match dec ((l.drop p).take n) with
        | none => ([], 0, 10)
        | some u => if 4096 < u.length then ([], 0, 2) else (u, p + n, 0)
      else ((l.drop p).take n, p + n, 0)) := Lib.hid (by rw [HR.out]; rfl)
    clear HR
    by_cases hlong : 4096 < n
    · have hlong' : (4096 : Int) < n := by omega
      have hR : R = ([], 0, 2) := by rw [HR2.out, if_pos hlong]
      subst hR
      clear HR2 hr
      go_enter Tryd.func9, Tryd.ntmps9
      go_wp2_with fail
      refine (HT.out _ HRB.out).mono ?_; rintro e w1 ⟨rfl, b1⟩
      go_wp2_with fail
      go_ret3
      exact ⟨rfl, b1⟩
    · have hlong' : ¬ (4096 : Int) < n := by omega
      by_cases hsh : (l.length : Int) - p < n
      · have hsh' : (l.length : Int) < (p : Int) + n := by omega
        have hR : R = ([], 0, 12) := by rw [HR2.out, if_neg hlong, if_pos hsh]
        subst hR
        clear HR2 hr
        go_enter Tryd.func9, Tryd.ntmps9
        go_wp2_with fail
        refine (HT.out _ HRB.out).mono ?_; rintro e w1 ⟨rfl, b1⟩
        go_wp2_with fail
        go_ret3
        exact ⟨rfl, b1⟩
      · obtain ⟨b, off, ha, hc⟩ : ∃ b off, a = some ⟨b, off, none⟩ ∧ ∀ i, (h : i < l.length) → w.cell? ⟨b, off + i, none⟩ = some (.int .u8 (l[i].toNat : Int)) := by
          rcases hr with h | h
          · rw [h] at hpl; simp at hpl; omega
          · exact h
        subst ha
        have hc0 : w.cell? ⟨b, off, none⟩ = some (.int .u8 ((l.headD 0).toNat : Int)) := by
          have h := hc 0 (by omega)
          rw [Nat.add_zero] at h
          rw [h]
          cases l with
          | nil => simp at hpl; omega
          | cons c r => rfl
        have hzb : (l.headD 0).toNat < 256 := (l.headD 0).toNat_lt
        have hol : ((l.drop p).take n).length = n := by rw [List.length_take, List.length_drop]; omega
        have HR3 : Hid (R = if 127 < (l.headD 0).toNat then
          match dec ((l.drop p).take n) with
          | none => ([], 0, 10)
          | some u => if 4096 < u.length then ([], 0, 2) else (u, p + n, 0)
          else ((l.drop p).take n, p + n, 0)) := Lib.hid (by rw [HR2.out, if_neg hlong, if_neg hsh])
        have hzb2 := hzb
        generalize (l.headD 0).toNat = z at *
        clear HR2 hr
        have hAnd := and_128 z hzb
        have hsh' : ¬ (l.length : Int) < (p : Int) + n := by omega
        by_cases hpc : cap = p
        · have hn0 : n = 0 := by omega
          subst hn0
          subst hpc
          rw [List.take_zero] at HR3
          have HCv : Hid (∀ v : World, (convert 22 9 (.slice (some ⟨b, off, none⟩) 0 0)).run Tryd.prog v = .ok (.string ⟨#[]⟩) v) := Lib.hid (fun v => by
            have h := (show RB v (some ⟨b, off, none⟩) [] from Or.inl rfl).conv (P := Tryd.prog) (cap := 0) (src := 22) (dst := 9) Tryd.underlying22 Tryd.underlying5 Tryd.underlying9
            exact h)
          have hd0 : dec [] = some [] := by decide +kernel
          by_cases hz : 127 < z
          · rw [if_neg (by omega)] at hAnd
            have hz' : (bits .and .u8 (z : Int) 128 == 0) = false := by rw [hAnd]; rfl
            have HDc : Hid (∀ v, GrpIs v → Calls Tryd.prog 20 #[.slice (some ⟨b, off, none⟩) 0 0] v fun e w' => e = .returned (.tuple #[.string ⟨#[]⟩, .int .i64 0]) ∧ Below v.heap.size v w') := Lib.hid (fun v hv => by
              have h := decode_any (some ⟨b, off, none⟩) [] 0 v (by decide) (Or.inl rfl) hv
              rwa [show decV [] = [] from by rw [decV, hd0]; rfl, show decE [] = 0 from by rw [decE, hd0]; rfl] at h)
            have hR : R = ([], cap, 0) := by rw [HR3.out, if_pos hz, hd0]; rfl
            subst hR
            clear HR3 hz hd0 hAnd
            go_enter Tryd.func9, Tryd.ntmps9
            go_wp2_with fail
            refine (HT.out _ HRB.out).mono ?_; rintro e w1 ⟨rfl, b1⟩
            replace hc0 := below_cell b1 hc0
            have HG1 := Lib.hid (HG.out.below b1)
            go_wp2_with fail
            refine (HDc.out _ HG1.out).mono ?_; rintro e w2 ⟨rfl, hb1⟩
            go_wp2_with fail
            go_ret3
            exact ⟨rfl, below_step b1 hb1⟩
          · rw [if_pos (by omega)] at hAnd
            have hz' : (bits .and .u8 (z : Int) 128 == 0) = true := by rw [hAnd]; rfl
            have hR : R = ([], cap, 0) := by rw [HR3.out, if_neg hz]; rfl
            subst hR
            clear HR3 hz hd0 hAnd
            go_enter Tryd.func9, Tryd.ntmps9
            go_wp2_with fail
            refine (HT.out _ HRB.out).mono ?_; rintro e w1 ⟨rfl, b1⟩
            replace hc0 := below_cell b1 hc0
            have hconv := HCv.out w1
            go_wp2_with fail
            go_ret3
            exact ⟨rfl, b1⟩
        · have HO : Hid (∀ v, Below w.heap.size w v → RB v (some ⟨b, off + p, none⟩) ((l.drop p).take n)) := Lib.hid (fun v hv => (RB.cut hc p n).below hv)
          have HHol := Lib.hid hol
          generalize (l.drop p).take n = O at *
          have HCv : Hid (∀ v : World, RB v (some ⟨b, off + p, none⟩) O → (convert 22 9 (.slice (some ⟨b, off + p, none⟩) n (cap - p))).run Tryd.prog v = .ok (.string ⟨O.toArray⟩) v) := Lib.hid (fun v hv => by
            have h := hv.conv (P := Tryd.prog) (cap := cap - p) (src := 22) (dst := 9) Tryd.underlying22 Tryd.underlying5 Tryd.underlying9
            rwa [HHol.out] at h)
          have hol4 : (O.length : Int) ≤ 4096 := by omega
          clear hc hol
          by_cases hz : 127 < z
          · rw [if_neg (by omega)] at hAnd
            have hz' : (bits .and .u8 (z : Int) 128 == 0) = false := by rw [hAnd]; rfl
            have HDc : Hid (∀ v, Below w.heap.size w v → Calls Tryd.prog 20 #[.slice (some ⟨b, off + p, none⟩) n (cap - p)] v fun e w' => e = .returned (.tuple #[.string ⟨(decV O).toArray⟩, .int .i64 (decE O)]) ∧ Below v.heap.size v w') := Lib.hid (fun v hv => by
              have h := decode_any (some ⟨b, off + p, none⟩) O (cap - p) v (by rw [HHol.out]; omega) (HO.out v hv) (HG.out.below hv)
              rwa [HHol.out] at h)
            cases hd : dec O with
            | none =>
              have e1 : decV O = [] := by rw [decV, hd]; rfl
              have e2 : decE O = 10 := by rw [decE, hd]; rfl
              have hR : R = ([], 0, 10) := by rw [HR3.out, if_pos hz, hd]
              rw [e1, e2] at HDc
              subst hR
              clear HR3 hz hd e1 e2 hAnd
              go_enter Tryd.func9, Tryd.ntmps9
              go_wp2_with fail
              refine (HT.out _ HRB.out).mono ?_; rintro e w1 ⟨rfl, b1⟩
              replace hc0 := below_cell b1 hc0
              go_wp2_with fail
              refine (HDc.out _ b1).mono ?_; rintro e w2 ⟨rfl, hb1⟩
              go_wp2_with fail
              go_ret3
              exact ⟨rfl, below_step b1 hb1⟩
            | some u =>
              have e1 : decV O = u := by rw [decV, hd]; rfl
              have e2 : decE O = 0 := by rw [decE, hd]; rfl
              have hub : u.length ≤ 4096 * 8 := by
                have h1 := enc_dec O u hd
                have h2 := enc_length u
                have h3 := (blen_bd u).1
                have h4 := HHol.out
                rw [h1, h4] at h2; omega
              by_cases hu : 4096 < u.length
              · have hu' : (4096 : Int) < u.length := by omega
                have hR : R = ([], 0, 2) := by rw [HR3.out, if_pos hz, hd]; simp [hu]
                rw [e1, e2] at HDc
                subst hR
                clear HR3 hz hd e1 e2 hu hAnd
                go_enter Tryd.func9, Tryd.ntmps9
                go_wp2_with fail
                refine (HT.out _ HRB.out).mono ?_; rintro e w1 ⟨rfl, b1⟩
                replace hc0 := below_cell b1 hc0
                go_wp2_with fail
                refine (HDc.out _ b1).mono ?_; rintro e w2 ⟨rfl, hb1⟩
                go_wp2_with fail
                go_ret3
                exact ⟨rfl, below_step b1 hb1⟩
              · have hu' : ¬ (4096 : Int) < u.length := by omega
                have hR : R = (u, p + n, 0) := by rw [HR3.out, if_pos hz, hd]; simp [hu]
                rw [e1, e2] at HDc
                subst hR
                clear HR3 hz hd e1 e2 hu hAnd
                go_enter Tryd.func9, Tryd.ntmps9
                go_wp2_with fail
                refine (HT.out _ HRB.out).mono ?_; rintro e w1 ⟨rfl, b1⟩
                replace hc0 := below_cell b1 hc0
                go_wp2_with fail
                refine (HDc.out _ b1).mono ?_; rintro e w2 ⟨rfl, hb1⟩
                go_wp2_with fail
                go_ret3
                exact ⟨ret_text rfl (by omega) rfl, below_step b1 hb1⟩
          · rw [if_pos (by omega)] at hAnd
            have hz' : (bits .and .u8 (z : Int) 128 == 0) = true := by rw [hAnd]; rfl
            have hR : R = (O, p + n, 0) := by rw [HR3.out, if_neg hz]
            subst hR
            clear HR3 hz hAnd
            go_enter Tryd.func9, Tryd.ntmps9
            go_wp2_with fail
            refine (HT.out _ HRB.out).mono ?_; rintro e w1 ⟨rfl, b1⟩
            replace hc0 := below_cell b1 hc0
            have hconv := HCv.out w1 (HO.out _ b1)
            go_wp2_with fail
            go_ret3
            exact ⟨ret_text rfl (by omega) rfl, b1⟩
  · have he' : ((e : Int) != 0) = true := by simp; omega
    have hR : R = ([], 0, e) := by rw [HR.out, if_pos he]
    subst hR
    clear HR hb0 hr he
    go_enter Tryd.func9, Tryd.ntmps9
    go_wp2_with fail
    refine (HT.out _ HRB.out).mono ?_; rintro e w1 ⟨rfl, b1⟩
    go_wp2_with fail
    go_ret3
    exact ⟨rfl, b1⟩
end Go.Proofs.YtabpoejimnoamaaDoor
