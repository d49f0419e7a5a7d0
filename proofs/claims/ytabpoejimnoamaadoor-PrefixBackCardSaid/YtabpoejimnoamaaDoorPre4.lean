/- The contract of the document's TakeText of layer 3. -/
import Derived.Test.YtabpoejimnoamaaDoorRows
import Derived.Test.YtabpoejimnoamaaDoorPrePure
import Derived.Test.YtabpoejimnoamaaDoorMem
import Derived.Test.YtabpoejimnoamaaDoorMem2
import Derived.Test.YtabpoejimnoamaaDoorGen
import Derived.Test.YtabpoejimnoamaaDoorHuf8
import Derived.Test.YtabpoejimnoamaaDoorPre1
import Derived.Test.YtabpoejimnoamaaDoorPre2
import Derived.WalkKit
import Derived.WalkSpells
import Derived.WalkLawsBesides
import Derived.Lib.Hide
import Derived.Outline
namespace Go.Proofs.YtabpoejimnoamaaDoor
open Go.RowKit
open Huf Pre Mem Gen
set_option linter.unusedVariables false

theorem RB.cut {w : World} {b off : Nat} {l : List UInt8} (h : ∀ i, (h : i < l.length) → w.cell? ⟨b, off + i, none⟩ = some (.int .u8 (l[i].toNat : Int))) (k n : Nat) : RB w (some ⟨b, off + k, none⟩) ((l.drop k).take n) := by
  refine Or.inr ⟨b, off + k, rfl, fun i hi => ?_⟩
  rw [List.length_take, List.length_drop] at hi
  have := h (k + i) (by omega)
  rw [show off + k + i = off + (k + i) from by omega, this, List.getElem_take, List.getElem_drop]

theorem ret_text {a : List UInt8} {b : List UInt8} {k k' : IntKind} {c d e f : Int} (h : a = b) (h' : c = d) (h'' : e = f) : Ending.returned (.tuple #[.string ⟨a.toArray⟩, .int k c, .int k' e]) = .returned (.tuple #[.string ⟨b.toArray⟩, .int k d, .int k' f]) := by rw [h, h', h'']

set_option maxHeartbeats 1000000 in
theorem rtaketext_any (a : Option Addr) (l : List UInt8) (cap : Nat) (w : World) (hl : l.length ≤ 134217728) (hcap : l.length ≤ cap) (hmax : cap ≤ maxLen) (hr : RB w a l) :
    Calls Tryd.prog 10 #[.slice a l.length cap] w fun e w' => e = .returned (.tuple #[.string ⟨(takeT l).1.toArray⟩, .int .i64 (takeT l).2.1, .int .i64 (takeT l).2.2]) ∧ Below w.heap.size w w' := by
  unfold maxLen at hmax
  have HT : Hid (∀ v : World, RB v a l → Calls Tryd.prog 21 #[.slice a l.length cap, .int .i64 7] v fun e w' => e = .returned (.tuple #[.int .i64 (takeN l 7).1, .int .i64 (takeN l 7).2.1, .int .i64 (takeN l 7).2.2]) ∧ v = w') := Lib.hid (fun v hv => rtakeint_ok a l cap 7 v (by omega) hv (by decide) (by decide))
  have hbd := takeN_bd l 7 (by decide)
  have HR : Hid (takeT l = if (takeN l 7).2.2 ≠ 0 then ([], 0, (takeN l 7).2.2)
    else if 4096 < (takeN l 7).1 then ([], 0, 2)
    else if (l.length : Int) - (takeN l 7).2.1 < (takeN l 7).1 then ([], 0, 12)
    else if 127 < (l.headD 0).toNat then
      match dec ((l.drop (takeN l 7).2.1).take (takeN l 7).1) with
      | none => ([], 0, 10)
      | some u => if 4096 < u.length then ([], 0, 2) else (u, (takeN l 7).2.1 + (takeN l 7).1, 0)
    else ((l.drop (takeN l 7).2.1).take (takeN l 7).1, (takeN l 7).2.1 + (takeN l 7).1, 0)) := rfl
  generalize takeT l = R at HR ⊢
  generalize takeN l 7 = N at HT hbd HR
  obtain ⟨n, p, e⟩ := N
  simp only at HT hbd HR
  obtain ⟨hn, _, hb0, he12⟩ := hbd
  have HRB := Lib.hid hr
  by_cases he : e = 0
  · obtain ⟨hp1, hpl, hp6⟩ := hb0 he
    subst he
    clear hb0 he12
    have HR2 : Hid (R = if 4096 < n then ([], 0, 2)
      else if (l.length : Int) - p < n then ([], 0, 12)
      else if 127 < (l.headD 0).toNat then
        match dec ((l.drop p).take n) with
        | none => ([], 0, 10)
        | some u => if 4096 < u.length then ([], 0, 2) else (u, p + n, 0)
      else ((l.drop p).take n, p + n, 0)) := Lib.hid (by rw [HR.out]; rfl)
    clear HR
    by_cases hlong : 4096 < n
    · have hlong' : (4096 : Int) < n := by omega
      have hR : R = ([], 0, 2) := by rw [HR2.out, if_pos hlong]
      subst hR
      clear HR2 hr
      go_enter Tryd.func10, Tryd.ntmps10
      go_wp2_with fail
      refine (HT.out _ HRB.out).mono ?_; rintro e w1 ⟨rfl, rfl⟩
      go_wp2_with fail
      go_ret3
      exact ⟨rfl, Below.refl _ _⟩
    · have hlong' : ¬ (4096 : Int) < n := by omega
      by_cases hsh : (l.length : Int) - p < n
      · have hR : R = ([], 0, 12) := by rw [HR2.out, if_neg hlong, if_pos hsh]
        subst hR
        clear HR2 hr
        go_enter Tryd.func10, Tryd.ntmps10
        go_wp2_with fail
        refine (HT.out _ HRB.out).mono ?_; rintro e w1 ⟨rfl, rfl⟩
        go_wp2_with fail
        go_ret3
        exact ⟨rfl, Below.refl _ _⟩
      · obtain ⟨b, off, ha, hc⟩ : ∃ b off, a = some ⟨b, off, none⟩ ∧ ∀ i, (h : i < l.length) → w.cell? ⟨b, off + i, none⟩ = some (.int .u8 (l[i].toNat : Int)) := by
          rcases hr with h | h
          · rw [h] at hpl; simp at hpl; omega
          · exact h
        subst ha
        have hc0 : w.cell? ⟨b, off, none⟩ = some (.int .u8 ((l.headD 0).toNat : Int)) := by
          have h := hc 0 (by omega)
          rw [Nat.add_zero] at h
          rw [h]
          cases l with
          | nil => simp at hpl; omega
          | cons c r => rfl
        have hzb : (l.headD 0).toNat < 256 := (l.headD 0).toNat_lt
        have hol : ((l.drop p).take n).length = n := by rw [List.length_take, List.length_drop]; omega
        have HR3 : Hid (R = if 127 < (l.headD 0).toNat then
          match dec ((l.drop p).take n) with
          | none => ([], 0, 10)
          | some u => if 4096 < u.length then ([], 0, 2) else (u, p + n, 0)
          else ((l.drop p).take n, p + n, 0)) := Lib.hid (by rw [HR2.out, if_neg hlong, if_neg hsh])
        generalize (l.headD 0).toNat = z at *
        clear HR2 hr
        by_cases hpc : cap = p
        · have hn0 : n = 0 := by omega
          subst hn0
          subst hpc
          rw [List.take_zero] at HR3
          have hconv := (show RB w (some ⟨b, off, none⟩) [] from Or.inl rfl).conv (P := Tryd.prog) (cap := 0) (src := 22) (dst := 9) Tryd.underlying22 Tryd.underlying5 Tryd.underlying9
          rw [List.length_nil] at hconv
          have hd0 : dec [] = some [] := by decide +kernel
          by_cases hz : 127 < z
          · have hz' : (127 : Int) < z := by omega
            have HDc : Hid (Calls Tryd.prog 22 #[.slice (some ⟨b, off, none⟩) 0 0] w fun e w' => e = .returned (.tuple #[.string ⟨#[]⟩, .int .i64 0]) ∧ Below w.heap.size w w') := Lib.hid (by
              have h := rdecode_any (some ⟨b, off, none⟩) [] 0 w (by decide) (Or.inl rfl)
              rwa [show decV [] = [] from by rw [decV, hd0]; rfl, show decE [] = 0 from by rw [decE, hd0]; rfl] at h)
            have hR : R = ([], cap, 0) := by rw [HR3.out, if_pos hz, hd0]; rfl
            subst hR
            clear HR3 hz hd0
            go_enter Tryd.func10, Tryd.ntmps10
            go_wp2_with fail
            refine (HT.out _ HRB.out).mono ?_; rintro e w1 ⟨rfl, rfl⟩
            go_wp2_with fail
            refine HDc.out.mono ?_; rintro e w1 ⟨rfl, hb1⟩
            go_wp2_with fail
            go_ret3
            exact ⟨rfl, hb1⟩
          · have hz' : ¬ (127 : Int) < z := by omega
            have hR : R = ([], cap, 0) := by rw [HR3.out, if_neg hz]; rfl
            subst hR
            clear HR3 hz hd0
            go_enter Tryd.func10, Tryd.ntmps10
            go_wp2_with fail
            refine (HT.out _ HRB.out).mono ?_; rintro e w1 ⟨rfl, rfl⟩
            go_wp2_with fail
            go_ret3
            exact ⟨rfl, Below.refl _ _⟩
        · have HO : Hid (RB w (some ⟨b, off + p, none⟩) ((l.drop p).take n)) := Lib.hid (RB.cut hc p n)
          have HHol := Lib.hid hol
          have hconv := HO.out.conv (P := Tryd.prog) (cap := cap - p) (src := 22) (dst := 9) Tryd.underlying22 Tryd.underlying5 Tryd.underlying9
          rw [hol] at hconv
          generalize (l.drop p).take n = O at *
          have hol4 : (O.length : Int) ≤ 4096 := by omega
          clear hc hol
          by_cases hz : 127 < z
          · have hz' : (127 : Int) < z := by omega
            have HDc : Hid (Calls Tryd.prog 22 #[.slice (some ⟨b, off + p, none⟩) n (cap - p)] w fun e w' => e = .returned (.tuple #[.string ⟨(decV O).toArray⟩, .int .i64 (decE O)]) ∧ Below w.heap.size w w') := Lib.hid (by
              have h := rdecode_any (some ⟨b, off + p, none⟩) O (cap - p) w (by rw [HHol.out]; omega) HO.out
              rwa [HHol.out] at h)
            cases hd : dec O with
            | none =>
              have e1 : decV O = [] := by rw [decV, hd]; rfl
              have e2 : decE O = 10 := by rw [decE, hd]; rfl
              have hR : R = ([], 0, 10) := by rw [HR3.out, if_pos hz, hd]
              rw [e1, e2] at HDc
              subst hR
              clear HR3 hz hd e1 e2
              go_enter Tryd.func10, Tryd.ntmps10
              go_wp2_with fail
              refine (HT.out _ HRB.out).mono ?_; rintro e w1 ⟨rfl, rfl⟩
              go_wp2_with fail
              refine HDc.out.mono ?_; rintro e w1 ⟨rfl, hb1⟩
              go_wp2_with fail
              go_ret3
              exact ⟨rfl, hb1⟩
            | some u =>
              have e1 : decV O = u := by rw [decV, hd]; rfl
              have e2 : decE O = 0 := by rw [decE, hd]; rfl
              have hub : u.length ≤ 4096 * 8 := by
                have h1 := enc_dec O u hd
                have h2 := enc_length u
                have h3 := (blen_bd u).1
                have h4 := HHol.out
                rw [h1, h4] at h2; omega
              by_cases hu : 4096 < u.length
              · have hu' : (4096 : Int) < u.length := by omega
                have hR : R = ([], 0, 2) := by rw [HR3.out, if_pos hz, hd]; simp [hu]
                rw [e1, e2] at HDc
                subst hR
                clear HR3 hz hd e1 e2 hu
                go_enter Tryd.func10, Tryd.ntmps10
                go_wp2_with fail
                refine (HT.out _ HRB.out).mono ?_; rintro e w1 ⟨rfl, rfl⟩
                go_wp2_with fail
                refine HDc.out.mono ?_; rintro e w1 ⟨rfl, hb1⟩
                go_wp2_with fail
                go_ret3
                exact ⟨rfl, hb1⟩
              · have hu' : ¬ (4096 : Int) < u.length := by omega
                have hR : R = (u, p + n, 0) := by rw [HR3.out, if_pos hz, hd]; simp [hu]
                rw [e1, e2] at HDc
                subst hR
                clear HR3 hz hd e1 e2 hu
                go_enter Tryd.func10, Tryd.ntmps10
                go_wp2_with fail
                refine (HT.out _ HRB.out).mono ?_; rintro e w1 ⟨rfl, rfl⟩
                go_wp2_with fail
                refine HDc.out.mono ?_; rintro e w1 ⟨rfl, hb1⟩
                go_wp2_with fail
                go_ret3
                exact ⟨ret_text rfl (by omega) rfl, hb1⟩
          · have hz' : ¬ (127 : Int) < z := by omega
            have hR : R = (O, p + n, 0) := by rw [HR3.out, if_neg hz]
            subst hR
            clear HR3 hz
            go_enter Tryd.func10, Tryd.ntmps10
            go_wp2_with fail
            refine (HT.out _ HRB.out).mono ?_; rintro e w1 ⟨rfl, rfl⟩
            go_wp2_with fail
            go_ret3
            exact ⟨ret_text rfl (by omega) rfl, Below.refl _ _⟩
  · have he' : ((e : Int) != 0) = true := by simp; omega
    have hR : R = ([], 0, e) := by rw [HR.out, if_pos he]
    subst hR
    clear HR hb0 hr he
    go_enter Tryd.func10, Tryd.ntmps10
    go_wp2_with fail
    refine (HT.out _ HRB.out).mono ?_; rintro e w1 ⟨rfl, rfl⟩
    go_wp2_with fail
    go_ret3
    exact ⟨rfl, Below.refl _ _⟩
end Go.Proofs.YtabpoejimnoamaaDoor
