/- The contract of huff.Decode. -/
import Derived.Test.YtabpoejimnoamaaDoorRows
import Derived.Test.YtabpoejimnoamaaDoorHufTree
import Derived.Test.YtabpoejimnoamaaDoorMem
import Derived.Test.YtabpoejimnoamaaDoorHuf1
import Derived.Test.YtabpoejimnoamaaDoorHuf2
import Derived.Test.YtabpoejimnoamaaDoorGen
import Derived.WalkKit
import Derived.WalkSpells
import Derived.WalkLawsBesides
import Derived.Lib.Hide
import Derived.Outline
namespace Go.Proofs.YtabpoejimnoamaaDoor
open Go.RowKit
open Huf Mem Gen
set_option linter.unusedVariables false

theorem pow_low : ∀ d, d < 8 → ((2 : Int) ^ d - 1) % 4294967296 = ((2 ^ d - 1 : Nat) : Int) := by decide

set_option maxRecDepth 100000 in
set_option maxHeartbeats 2000000 in
theorem decode_any (a : Option Addr) (l : List UInt8) (cap : Nat) (w : World) (hl : l.length ≤ 134217728) (hr : RB w a l) (hg : GrpIs w) :
    Calls Tryd.prog 20 #[.slice a l.length cap] w fun e w' => e = .returned (.tuple #[.string ⟨(decV l).toArray⟩, .int .i64 (decE l)]) ∧ Below w.heap.size w w' := by
  obtain ⟨i0, hi, hz0, hz1, hz2⟩ := info_parts info_u8
  have HG := Lib.hid hg
  have HI := Lib.hid hi
  have HZ0 := Lib.hid hz0
  have HZ1 := Lib.hid hz1
  have HZ2 := Lib.hid hz2
  have HRB := Lib.hid hr
  clear hg hi hz0 hz1 hz2 hr
  have HV : Hid (decV l = (dec l).getD []) := rfl
  have HE : Hid (decE l = if (dec l).isSome then 0 else 10) := rfl
  generalize decV l = V at HV ⊢
  generalize decE l = X at HE ⊢
  have HR : Hid (decK (bitsB l) 0 [] = dec l) := rfl
  generalize dec l = R at HV HE HR
  have Hbl := Lib.hid (bitsB_length l)
  go_enter Tryd.func20, Tryd.ntmps20
  go_wp2_with fail
  go_loopw [4, 5, 6, 13] (fun sv lv nv i wr => ∃ (k c : Nat) (ad : Option Addr) (cp : Nat) (E : List UInt8), k ≤ 8 * l.length ∧ i = .int .i64 k ∧ c < 513 ∧ Hid (sy c = 1023) ∧ lv = .int .u32 (va c) ∧ nv = .int .i64 (de c) ∧ sv = .slice ad E.length cp ∧ Hid (decK ((bitsB l).drop k) c E = R) ∧ E.length ≤ k ∧ Hid (wr.ownsRow w.heap.size 5 1 (.slice ad E.length cp) E.length (bvs E)) ∧ Below w.heap.size w wr) (fun _ _ _ i _ => 8 * l.length - (intOf i).toNat)
  case atStart => exact ⟨0, 0, none, 0, [], by omega, rfl, by omega, Lib.hid root_facts.1, by rw [root_facts.2.1]; rfl, by rw [root_facts.2.2]; rfl, rfl, Lib.hid (by simpa using HR.out), by simp, Lib.hid (World.ownsRow_nil _ _ _ _), Below.refl _ _⟩
  case round =>
    obtain ⟨k, c, ad, cp, E, hk, rfl, hc, HS, rfl, rfl, rfl, HF, hE, HO, hbel⟩ := hrel
    by_cases hlt : k < 8 * l.length
    · have hi : k / 8 < l.length := by omega
      obtain ⟨bb, off, ha, hcells⟩ : ∃ b off, a = some ⟨b, off, none⟩ ∧ ∀ i, (h : i < l.length) → wr.cell? ⟨b, off + i, none⟩ = some (.int .u8 (l[i].toNat : Int)) := by
        rcases HRB.out.below hbel with h | h
        · rw [h] at hi; simp at hi
        · exact h
      subst ha
      have hcell := hcells (k / 8) hi
      have hcb := l[k / 8].toNat_lt
      clear hcells
      have hbits := bitsB_drop l (k / 8) (k % 8) hi (by omega)
      rw [show 8 * (k / 8) + k % 8 = k from by omega] at hbits
      have hand := and_bit l[k / 8].toNat (7 - k % 8) (by omega)
      have hb2 : bN (l[k / 8].toNat.testBit (7 - k % 8)) < 2 := by have := bN_le (l[k / 8].toNat.testBit (7 - k % 8)); omega
      have HF' : Hid (decK (l[k / 8].toNat.testBit (7 - k % 8) :: (bitsB l).drop (k + 1)) c E = R) := Lib.hid (by rw [← hbits]; exact HF.out)
      clear hbits HF
      have hin := inner_bd c hc HS.out
      have hor := or_bit (va c) (bN (l[k / 8].toNat.testBit (7 - k % 8))) (by omega) hb2
      obtain ⟨n0, n1, n2, n3, n4, n5⟩ := node_facts c hc HS.out _ hb2
      have hlf := leaf_facts _ n1 n0
      rw [← n2] at hor
      rw [decK] at HF'
      generalize nx (bN (l[k / 8].toNat.testBit (7 - k % 8))) c = T at *
      generalize bN (l[k / 8].toNat.testBit (7 - k % 8)) = bv at *
      have hn : ((de T : Nat) : Int) = (de c : Int) + 1 := by omega
      have N3 := Lib.hid hn
      clear n2 n3 hn
      rcases hlf with ⟨s1, s2, s3⟩ | ⟨s1, s2⟩ | ⟨s1, ⟨p, p1, p2, p3⟩, _⟩
      · have HP : Hid (Calls Tryd.prog 29 #[.int .u32 (va T), .int .i64 ((de c : Int) + 1)] wr fun e w' => e = .returned (.tuple #[.int .i64 0, .bool false]) ∧ Below wr.heap.size wr w') := Lib.hid (by
          rw [← N3.out]; exact poc_no (va T) (de T) wr (by omega) n5 s2 (HG.out.below hbel))
        have HF2 : Hid (decK ((bitsB l).drop (k + 1)) T E = R) := Lib.hid (by
          have h := HF'.out
          rwa [if_pos s1] at h)
        have HS1 := Lib.hid s1
        clear s1 s2 HF'
        go_wp2_with fail
        refine HP.out.mono ?_; rintro e w1 ⟨rfl, hb1⟩
        have HO1 := Lib.hid (own_below HO.out hb1)
        replace hb1 := below_step hbel hb1
        go_wp2_with fail
        go_roundw
        case rel => exact ⟨k + 1, T, ad, cp, E, by omega, by go_num, n1, HS1, rfl, by rw [N3.out], rfl, HF2, by omega, HO1, hb1⟩
        case measure => simp [intOf]; omega
      · have HP : Hid (Calls Tryd.prog 29 #[.int .u32 (va T), .int .i64 ((de c : Int) + 1)] wr fun e w' => e = .returned (.tuple #[.int .i64 ((256 : Nat) : Int), .bool true]) ∧ Below wr.heap.size wr w') := Lib.hid (by
          rw [← N3.out]; exact poc_yes (va T) (de T) 256 wr (by omega) n5 s2 (HG.out.below hbel))
        have hRn : R = none := by
          rw [← HF'.out, if_neg (by omega), if_pos s1]
        have hV1 : V = [] := by rw [HV.out, hRn]; rfl
        have hX1 : X = 10 := by rw [HE.out, hRn]; rfl
        subst hV1 hX1
        clear HF' hRn HV HE HR
        go_wp2_with fail
        refine HP.out.mono ?_; rintro e w1 ⟨rfl, hb1⟩
        replace hb1 := below_step hbel hb1
        go_wp2_with fail
        go_ret2
        exact ⟨rfl, hb1⟩
      · have HP : Hid (Calls Tryd.prog 29 #[.int .u32 (va T), .int .i64 ((de c : Int) + 1)] wr fun e w' => e = .returned (.tuple #[.int .i64 (p : Int), .bool true]) ∧ Below wr.heap.size wr w') := Lib.hid (by
          rw [← N3.out]; exact poc_yes (va T) (de T) p wr (by omega) n5 p2 (HG.out.below hbel))
        have HF2 : Hid (decK ((bitsB l).drop (k + 1)) 0 (E ++ [UInt8.ofNat (sy T)]) = R) := Lib.hid (by
          have h := HF'.out
          rwa [if_neg (by omega), if_neg (by omega)] at h)
        have hne : ((p : Int) == 256) = false := by simp; omega
        have hp1 : (p : Int) < 256 := by omega
        have hp0 : (0 : Int) ≤ p := by omega
        have P3 := Lib.hid p3
        clear HF' s1 p2 p3
        go_wp2_with fail
        refine HP.out.mono ?_; rintro e w1 ⟨rfl, hb1⟩
        have HO1 := Lib.hid (own_below HO.out hb1)
        replace hb1 := below_step hbel hb1
        have HB := Lib.hid hb1.size
        have HL : Hid (E.length + 1 ≤ 140737488355328) := Lib.hid (by omega)
        have HX : Hid (∀ (s : ByteArray) (h : p < s.size), s.data.toList = ordL → ((s[p]'h).toNat : Int) = ((UInt8.ofNat (sy T)).toNat : Int)) := Lib.hid (by
          intro s h hs
          rw [← P3.out]
          have : s[p]'h = ordL.getD p 0 := by
            rw [← hs, List.getD_eq_getElem?_getD, List.getElem?_eq_getElem (by simpa using h)]; rfl
          rw [this])
        go_wp2_with (at_builtin; refine append_byte Tryd.underlying22 HI.out HZ0.out HZ1.out HZ2.out rfl _ _ rfl w.heap.size (.slice ad E.length cp) E (UInt8.ofNat (sy T)) _ (HX.out _ _ ?c1) rfl HO1.out rfl HL.out HB.out ?_; rotate_left; intro v1 w4 hown4 hb4)
        case c1 => kernel_rfl
        go_roundw
        case rel =>
          obtain ⟨ad4, cap4, rfl⟩ := own_form hown4.out
          exact ⟨k + 1, 0, ad4, cap4, E ++ [UInt8.ofNat (sy T)], by omega, by go_num, by omega, Lib.hid root_facts.1, by rw [root_facts.2.1]; rfl, by rw [root_facts.2.2]; rfl, by rw [List.length_append]; rfl, HF2, by rw [List.length_append]; simp; omega, Lib.hid (by rw [List.length_append]; exact hown4.out), hb4 _ _ hb1 (Nat.le_refl _)⟩
        case measure => simp [intOf]; omega
    · have hkl : k = 8 * l.length := by omega
      have hdr : (bitsB l).drop k = [] := List.drop_of_length_le (by rw [Hbl.out]; omega)
      have hin := inner_bd c hc HS.out
      have HF' : Hid ((if 8 ≤ de c ∨ va c ≠ 2 ^ de c - 1 then none else some E) = R) := Lib.hid (by
        have h := HF.out
        rwa [hdr, decK] at h)
      clear HF hdr HR
      by_cases h8 : 8 ≤ de c
      · have hRn : R = none := by rw [← HF'.out, if_pos (Or.inl h8)]
        have hV1 : V = [] := by rw [HV.out, hRn]; rfl
        have hX1 : X = 10 := by rw [HE.out, hRn]; rfl
        subst hV1 hX1
        clear HF' hRn HV HE
        go_wp2_with fail
        go_ret2
        exact ⟨rfl, hbel⟩
      · have q1 : ¬ (8 : Int) ≤ de c := by omega
        have hpl := pow_low (de c) (by omega)
        by_cases hv : va c = 2 ^ de c - 1
        · have hRn : R = some E := by rw [← HF'.out, if_neg (by simp [hv]; omega)]
          have hV1 : V = E := by rw [HV.out, hRn]; rfl
          have hX1 : X = 0 := by rw [HE.out, hRn]; rfl
          have ht : ((va c : Int) != ((2 : Int) ^ de c - 1) % 4294967296) = false := by rw [hpl, hv]; simp
          have hconv := run_conv_own (P := Tryd.prog) (src := 22) (e := 5) (dst := 9) Tryd.underlying22 Tryd.underlying5 Tryd.underlying9 HO.out
          subst hV1 hX1
          clear HF' hRn HV HE hv hpl HS HO
          go_wp2_with fail
          go_ret2
          exact ⟨rfl, hbel⟩
        · have hRn : R = none := by rw [← HF'.out, if_pos (Or.inr hv)]
          have hV1 : V = [] := by rw [HV.out, hRn]; rfl
          have hX1 : X = 10 := by rw [HE.out, hRn]; rfl
          have ht : ((va c : Int) != ((2 : Int) ^ de c - 1) % 4294967296) = true := by rw [hpl]; simp only [bne_iff_ne, ne_eq]; omega
          subst hV1 hX1
          clear HF' hRn HV HE hv hpl HS HO
          go_wp2_with fail
          go_ret2
          exact ⟨rfl, hbel⟩
end Go.Proofs.YtabpoejimnoamaaDoor
