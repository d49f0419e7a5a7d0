/- The contract of the document's Decode of layer 2. -/
import Derived.Test.YtabpoejimnoamaaDoorRows
import Derived.Test.YtabpoejimnoamaaDoorHufTree
import Derived.Test.YtabpoejimnoamaaDoorHufT
import Derived.Test.YtabpoejimnoamaaDoorMem
import Derived.Test.YtabpoejimnoamaaDoorHuf5
import Derived.Test.YtabpoejimnoamaaDoorHuf6
import Derived.Test.YtabpoejimnoamaaDoorHuf7
import Derived.Test.YtabpoejimnoamaaDoorGen
import Derived.WalkKit
import Derived.WalkSpells
import Derived.WalkLawsBesides
import Derived.Lib.Hide
import Derived.Outline
import Derived.Laws.BitsAllLaws
namespace Go.Proofs.YtabpoejimnoamaaDoor
open Go.RowKit
open Huf Mem Gen
set_option linter.unusedVariables false

/-- A 0 is among the bits that lead to a place. -/
def nv (k : Nat) : Bool := !(va k == 2 ^ de k - 1)
theorem nv_next : ∀ k, k < 513 → sy k = 1023 → ∀ b, b < 2 → nv (nx b k) = (nv k || b == 0) := by decide +kernel
theorem nv_root : nv 0 = false := by decide +kernel
theorem nv_iff (k : Nat) : nv k = true ↔ va k ≠ 2 ^ de k - 1 := by simp [nv]

/-- A block that holds the whole tree. -/
def TreeIs (w : World) (g : Nat) : Prop := ∀ j, j < 1539 → w.cell? ⟨g, j, none⟩ = some (.int .i64 (cellT 513 257 j))
theorem TreeIs.below {w w' : World} {g : Nat} (h : TreeIs w g) (hb : Below w.heap.size w w') : TreeIs w' g := fun j hj => below_cell hb (h j hj)
theorem TreeIs.next {w : World} {g : Nat} (h : TreeIs w g) (k b : Nat) (hk : k < 513) (hb : b < 2) (hn : nx b k < 513) : w.cell? ⟨g, k * 3 + b, none⟩ = some (.int .i64 (nx b k)) := by
  rw [h _ (by omega), Nat.mul_comm k 3, cellT_next 513 257 k b hb, if_pos hn]
theorem TreeIs.sym {w : World} {g : Nat} (h : TreeIs w g) (k : Nat) (hk : k < 513) : w.cell? ⟨g, k * 3 + 2, none⟩ = some (.int .i64 (if sy k < 257 then (sy k : Int) else -1)) := by
  rw [h _ (by omega), Nat.mul_comm k 3, cellT_sym 513 257 k]

set_option maxRecDepth 100000 in
set_option maxHeartbeats 4000000 in
theorem rdecode_any (a : Option Addr) (l : List UInt8) (cap : Nat) (w : World) (hl : l.length ≤ 134217728) (hr : RB w a l) :
    Calls Tryd.prog 22 #[.slice a l.length cap] w fun e w' => e = .returned (.tuple #[.string ⟨(decV l).toArray⟩, .int .i64 (decE l)]) ∧ Below w.heap.size w w' := by
  obtain ⟨i0, hi, hz0, hz1, hz2⟩ := info_parts info_u8
  have HI := Lib.hid hi
  have HZ0 := Lib.hid hz0
  have HZ1 := Lib.hid hz1
  have HZ2 := Lib.hid hz2
  have HRB := Lib.hid hr
  clear hi hz0 hz1 hz2 hr
  have HV : Hid (decV l = (dec l).getD []) := rfl
  have HE : Hid (decE l = if (dec l).isSome then 0 else 10) := rfl
  generalize decV l = V at HV ⊢
  generalize decE l = X at HE ⊢
  have HR : Hid (decK (bitsB l) 0 [] = dec l) := rfl
  generalize dec l = R at HV HE HR
  have Hbl := Lib.hid (bitsB_length l)
  go_enter Tryd.func22, Tryd.ntmps22
  go_wp2_with fail
  refine (tree_any _).mono ?_; rintro e w1 ⟨gt, capt, rfl, ht, hc1, hc2, b1⟩
  have HT : Hid (TreeIs w1 gt) := Lib.hid ht
  have HRB1 := Lib.hid (HRB.out.below b1)
  unfold maxLen at hc2
  clear ht
  have Hown := Lib.hid (own_empty1 w1 5)
  have hb2 : Below w1.heap.size w1 (w1.alloc (.cells #[] 5)) := (Below.refl _ _).alloc (Nat.le_refl _) _
  have hstart : Hid (decK ((bitsB l).drop (8 * 0)) 0 [] = R) := Lib.hid (by simpa using HR.out)
  have S0 : Hid (sy 0 = 1023) := Lib.hid root_facts.1
  have D0 : Hid (((de 0 : Nat) : Int) = 0) := Lib.hid (by rw [root_facts.2.2]; rfl)
  have V0 : Hid (nv 0 = false) := Lib.hid nv_root
  clear HR
  go_wp2_with fail
  go_loopw [5, 6, 7, 8, 9] (fun vo vk vl vn vi wr => ∃ (i k : Nat) (ad : Option Addr) (cp : Nat) (E : List UInt8), i ≤ l.length ∧ vi = .int .i64 i ∧ k < 513 ∧ Hid (sy k = 1023) ∧ vk = .int .i64 k ∧ vl = .int .i64 (de k) ∧ vn = .bool (nv k) ∧ vo = .slice ad E.length cp ∧ Hid (decK ((bitsB l).drop (8 * i)) k E = R) ∧ E.length ≤ 8 * i ∧ Hid (wr.ownsRow w1.heap.size 5 1 (.slice ad E.length cp) E.length (bvs E)) ∧ Below w1.heap.size w1 wr) (fun _ _ _ _ i _ => l.length - (intOf i).toNat)
  case atStart => exact ⟨0, 0, _, 0, [], by omega, rfl, by omega, S0, rfl, by rw [D0.out], by rw [V0.out], rfl, hstart, by simp, Hown, hb2⟩
  case round =>
    clear hstart Hown hb2
    obtain ⟨i, k, ad, cp, E, hi, rfl, hk, HS, rfl, rfl, rfl, rfl, HF, hE, HO, hbel⟩ := hrel
    by_cases hlt : i < l.length
    · have hcb := l[i].toNat_lt
      obtain ⟨bb, off, ha, hcells⟩ : ∃ b off, a = some ⟨b, off, none⟩ ∧ ∀ v, Below w1.heap.size w1 v → v.cell? ⟨b, off + i, none⟩ = some (.int .u8 (l[i].toNat : Int)) := by
        rcases HRB1.out with h | ⟨b, off, h, hc⟩
        · rw [h] at hlt; simp at hlt
        · exact ⟨b, off, h, fun v hv => below_cell hv (hc i hlt)⟩
      subst ha
      have HCell := Lib.hid hcells
      have HBit : Hid (∀ j, j < 8 → (bitsB l).drop (8 * i + (8 - (j + 1))) = l[i].toNat.testBit j :: (bitsB l).drop (8 * i + (8 - j))) := Lib.hid (fun j hj => by
        have h := bitsB_drop l i (8 - (j + 1)) hlt (by omega)
        rw [show 7 - (8 - (j + 1)) = j from by omega, show 8 * i + (8 - (j + 1)) + 1 = 8 * i + (8 - j) from by omega] at h
        exact h)
      have hden := inner_bd k hk HS.out
      clear hcells
      generalize hbyte : l[i].toNat = byt at *
      clear hbyte
      have HF1 : Hid (decK ((bitsB l).drop (8 * i + (8 - 8))) k E = R) := Lib.hid HF.out
      clear HF
      go_wp2_with fail
      obtain ⟨wo, hwo⟩ : ∃ wo : World, wo = wr := ⟨_, rfl⟩
      subst hwo
      go_loopw [5, 6, 7, 8, 10] (fun vo vk vl vn vj wx => ∃ (j k : Nat) (ad : Option Addr) (cp : Nat) (E : List UInt8), j ≤ 8 ∧ vj = .int .i64 ((j : Int) - 1) ∧ k < 513 ∧ Hid (sy k = 1023) ∧ vk = .int .i64 k ∧ vl = .int .i64 (de k) ∧ vn = .bool (nv k) ∧ vo = .slice ad E.length cp ∧ Hid (decK ((bitsB l).drop (8 * i + (8 - j))) k E = R) ∧ E.length + j ≤ 8 * i + 8 ∧ Hid (wx.ownsRow w1.heap.size 5 1 (.slice ad E.length cp) E.length (bvs E)) ∧ Below w1.heap.size w1 wx) (fun _ _ _ _ j _ => (intOf j + 1).toNat)
      case atStart => exact ⟨8, k, ad, cp, E, by omega, rfl, hk, HS, rfl, rfl, rfl, rfl, HF1, by omega, HO, hbel⟩
      case round =>
        clear HF1 HO HS hden
        obtain ⟨j, k, ad, cp, E, hj, rfl, hk, HS, rfl, rfl, rfl, rfl, HF, hE, HO, hbel1⟩ := hrel
        have hden := inner_bd k hk HS.out
        by_cases hj0 : j = 0
        · subst hj0
          have hneg : ¬ (0 : Int) ≤ ((0 : Nat) : Int) - 1 := by omega
          have HF2 : Hid (decK ((bitsB l).drop (8 * (i + 1))) k E = R) := Lib.hid HF.out
          clear HF
          go_wp2_with fail
          go_roundw
          case rel => exact ⟨i + 1, k, ad, cp, E, by omega, by go_num, hk, HS, rfl, rfl, rfl, rfl, HF2, by omega, HO, hbel1⟩
          case measure => first | (simp [intOf]; done) | (simp [intOf]; omega)
        · obtain ⟨j, rfl⟩ : ∃ m, j = m + 1 := ⟨j - 1, by omega⟩
          have hcell := HCell.out wr hbel1
          have hbits := HBit.out j (by omega)
          have HF' : Hid (decK (byt.testBit j :: (bitsB l).drop (8 * i + (8 - j))) k E = R) := Lib.hid (by rw [← hbits]; exact HF.out)
          have hand := and_bit byt j (by omega)
          have hB2 : bN (byt.testBit j) < 2 := by have := bN_le (byt.testBit j); omega
          clear HF hbits hj0
          obtain ⟨n0, n1, n2, n3, n4, n5⟩ := node_facts k hk HS.out _ hB2
          have hnx := HT.out.below hbel1 |>.next k _ hk hB2 n1
          have hnv := nv_next k hk HS.out _ hB2
          have hlf := leaf_facts _ n1 n0
          have HTs : Hid (∀ v, Below w1.heap.size w1 v → v.cell? ⟨gt, nx (bN (byt.testBit j)) k * 3 + 2, none⟩ = some (.int .i64 (if sy (nx (bN (byt.testBit j)) k) < 257 then (sy (nx (bN (byt.testBit j)) k) : Int) else -1))) := Lib.hid (fun v hv => (HT.out.below hv).sym _ n1)
          rw [decK] at HF'
          generalize nx (bN (byt.testBit j)) k = T at *
          generalize bN (byt.testBit j) = B at *
          have HNv := Lib.hid hnv
          have HN3 : Hid ((de T : Int) = (de k : Int) + 1) := Lib.hid (by omega)
          have hj1 : (0 : Int) ≤ j := by omega
          have hj2 : (j : Int) < 8 := by omega
          have hB0 : (0 : Int) ≤ B := by omega
          have hB1 : (B : Int) < 2 := by omega
          clear n2 n3 n5 hnv hB2
          rcases Bool.eq_false_or_eq_true (nv k) with hnk | hnk
          · rw [hnk]
            have hq : Hid (nv T = true) := Lib.hid (by rw [HNv.out, hnk]; rfl)
            clear hnk HNv
            rcases hlf with ⟨s1, _, _⟩ | ⟨s1, _⟩ | ⟨s1, _, _⟩
            · have hsym := HTs.out wr hbel1
              rw [if_neg (by omega)] at hsym
              have HF2 : Hid (decK ((bitsB l).drop (8 * i + (8 - j))) T E = R) := Lib.hid (by
                have h := HF'.out
                rwa [if_pos s1] at h)
              have HS1 := Lib.hid s1
              clear s1 HF'
              go_wp2_with fail
              go_roundw
              case rel => exact ⟨j, T, ad, cp, E, by omega, rfl, n1, HS1, rfl, by rw [HN3.out], by rw [hq.out], rfl, HF2, by omega, HO, hbel1⟩
              case measure => first | (simp [intOf]; done) | (simp [intOf]; omega)
            · have hsym := HTs.out wr hbel1
              rw [s1, if_pos (by omega)] at hsym
              have hRn : R = none := by rw [← HF'.out, if_neg (by omega), if_pos s1]
              have hV1 : V = [] := by rw [HV.out, hRn]; rfl
              have hX1 : X = 10 := by rw [HE.out, hRn]; rfl
              subst hV1 hX1
              clear HF' hRn HV HE s1
              go_wp2_with fail
              go_ret2
              exact ⟨rfl, below_step b1 hbel1⟩
            · have hsym := HTs.out wr hbel1
              rw [if_pos (by omega)] at hsym
              have HF2 : Hid (decK ((bitsB l).drop (8 * i + (8 - j))) 0 (E ++ [UInt8.ofNat (sy T)]) = R) := Lib.hid (by
                have h := HF'.out
                rwa [if_neg (by omega), if_neg (by omega)] at h)
              have HU : Hid ((sy T : Int) = ((UInt8.ofNat (sy T)).toNat : Int)) := Lib.hid (by rw [UInt8.toNat_ofNat', Nat.mod_eq_of_lt (by omega)])
              have hs0 : ¬ (sy T : Int) < 0 := by omega
              have hs1 : ((sy T : Int) == 256) = false := by simp; omega
              have hs2 : (sy T : Int) < 256 := by omega
              have hs3 : (0 : Int) ≤ sy T := by omega
              have HL : Hid (E.length + 1 ≤ 140737488355328) := Lib.hid (by omega)
              have HB := Lib.hid hbel1.size
              generalize hu : UInt8.ofNat (sy T) = u at *
              generalize sy T = y at *
              clear HF' s1 hu
              go_wp2_with (at_builtin; refine append_byte Tryd.underlying22 HI.out HZ0.out HZ1.out HZ2.out rfl _ _ rfl w1.heap.size (.slice ad E.length cp) E u _ HU.out rfl HO.out rfl HL.out HB.out ?_; intro v1 w4 hown4 hb4)
              go_roundw
              case rel =>
                obtain ⟨ad4, cap4, rfl⟩ := own_form hown4.out
                exact ⟨j, 0, ad4, cap4, E ++ [u], by omega, rfl, by omega, S0, rfl, by rw [D0.out], by rw [V0.out], by rw [List.length_append]; rfl, HF2, by rw [List.length_append]; simp; omega, Lib.hid (by rw [List.length_append]; exact hown4.out), hb4 _ _ hbel1 (Nat.le_refl _)⟩
              case measure => first | (simp [intOf]; done) | (simp [intOf]; omega)
          · rw [hnk]
            have hq : Hid (((B : Int) == 0) = nv T) := Lib.hid (by rw [HNv.out, hnk, Bool.false_or, Bool.eq_iff_iff]; simp)
            clear hnk HNv
            rcases hlf with ⟨s1, _, _⟩ | ⟨s1, _⟩ | ⟨s1, _, _⟩
            · have hsym := HTs.out wr hbel1
              rw [if_neg (by omega)] at hsym
              have HF2 : Hid (decK ((bitsB l).drop (8 * i + (8 - j))) T E = R) := Lib.hid (by
                have h := HF'.out
                rwa [if_pos s1] at h)
              have HS1 := Lib.hid s1
              clear s1 HF'
              go_wp2_with fail
              go_roundw
              case rel => exact ⟨j, T, ad, cp, E, by omega, rfl, n1, HS1, rfl, by rw [HN3.out], by rw [hq.out], rfl, HF2, by omega, HO, hbel1⟩
              case measure => first | (simp [intOf]; done) | (simp [intOf]; omega)
            · have hsym := HTs.out wr hbel1
              rw [s1, if_pos (by omega)] at hsym
              have hRn : R = none := by rw [← HF'.out, if_neg (by omega), if_pos s1]
              have hV1 : V = [] := by rw [HV.out, hRn]; rfl
              have hX1 : X = 10 := by rw [HE.out, hRn]; rfl
              subst hV1 hX1
              clear HF' hRn HV HE s1
              go_wp2_with fail
              go_ret2
              exact ⟨rfl, below_step b1 hbel1⟩
            · have hsym := HTs.out wr hbel1
              rw [if_pos (by omega)] at hsym
              have HF2 : Hid (decK ((bitsB l).drop (8 * i + (8 - j))) 0 (E ++ [UInt8.ofNat (sy T)]) = R) := Lib.hid (by
                have h := HF'.out
                rwa [if_neg (by omega), if_neg (by omega)] at h)
              have HU : Hid ((sy T : Int) = ((UInt8.ofNat (sy T)).toNat : Int)) := Lib.hid (by rw [UInt8.toNat_ofNat', Nat.mod_eq_of_lt (by omega)])
              have hs0 : ¬ (sy T : Int) < 0 := by omega
              have hs1 : ((sy T : Int) == 256) = false := by simp; omega
              have hs2 : (sy T : Int) < 256 := by omega
              have hs3 : (0 : Int) ≤ sy T := by omega
              have HL : Hid (E.length + 1 ≤ 140737488355328) := Lib.hid (by omega)
              have HB := Lib.hid hbel1.size
              generalize hu : UInt8.ofNat (sy T) = u at *
              generalize sy T = y at *
              clear HF' s1 hu
              go_wp2_with (at_builtin; refine append_byte Tryd.underlying22 HI.out HZ0.out HZ1.out HZ2.out rfl _ _ rfl w1.heap.size (.slice ad E.length cp) E u _ HU.out rfl HO.out rfl HL.out HB.out ?_; intro v1 w4 hown4 hb4)
              go_roundw
              case rel =>
                obtain ⟨ad4, cap4, rfl⟩ := own_form hown4.out
                exact ⟨j, 0, ad4, cap4, E ++ [u], by omega, rfl, by omega, S0, rfl, by rw [D0.out], by rw [V0.out], by rw [List.length_append]; rfl, HF2, by rw [List.length_append]; simp; omega, Lib.hid (by rw [List.length_append]; exact hown4.out), hb4 _ _ hbel1 (Nat.le_refl _)⟩
              case measure => first | (simp [intOf]; done) | (simp [intOf]; omega)
    · have hil : i = l.length := by omega
      have hdr : (bitsB l).drop (8 * i) = [] := List.drop_of_length_le (by rw [Hbl.out]; omega)
      have hin := inner_bd k hk HS.out
      have HF' : Hid ((if 8 ≤ de k ∨ va k ≠ 2 ^ de k - 1 then none else some E) = R) := Lib.hid (by
        have h := HF.out
        rwa [hdr, decK] at h)
      clear HF hdr
      by_cases h8 : 8 ≤ de k
      · have hRn : R = none := by rw [← HF'.out, if_pos (Or.inl h8)]
        have hV1 : V = [] := by rw [HV.out, hRn]; rfl
        have hX1 : X = 10 := by rw [HE.out, hRn]; rfl
        have h8' : (7 : Int) < de k := by omega
        subst hV1 hX1
        clear HF' hRn HV HE
        go_wp2_with fail
        go_ret2
        exact ⟨rfl, below_step b1 hbel⟩
      · have q1 : ¬ (7 : Int) < de k := by omega
        rcases Bool.eq_false_or_eq_true (nv k) with hnk | hnk
        · have hRn : R = none := by rw [← HF'.out, if_pos (Or.inr ((nv_iff k).mp hnk))]
          have hV1 : V = [] := by rw [HV.out, hRn]; rfl
          have hX1 : X = 10 := by rw [HE.out, hRn]; rfl
          subst hV1 hX1
          clear HF' hRn HV HE
          rw [hnk]
          clear hnk
          go_wp2_with fail
          go_ret2
          exact ⟨rfl, below_step b1 hbel⟩
        · have hva : va k = 2 ^ de k - 1 := by
            rcases Nat.decEq (va k) (2 ^ de k - 1) with h | h
            · exact absurd ((nv_iff k).mpr h) (by rw [hnk]; decide)
            · exact h
          have hRn : R = some E := by
            rw [← HF'.out, if_neg]
            intro h
            rcases h with h | h
            · exact h8 h
            · exact h hva
          have hV1 : V = E := by rw [HV.out, hRn]; rfl
          have hX1 : X = 0 := by rw [HE.out, hRn]; rfl
          have hconv := run_conv_own (P := Tryd.prog) (src := 22) (e := 5) (dst := 9) Tryd.underlying22 Tryd.underlying5 Tryd.underlying9 HO.out
          subst hV1 hX1
          rw [hnk]
          clear HF' hRn HV HE hva hnk HO HS
          go_wp2_with fail
          go_ret2
          exact ⟨rfl, below_step b1 hbel⟩
end Go.Proofs.YtabpoejimnoamaaDoor
