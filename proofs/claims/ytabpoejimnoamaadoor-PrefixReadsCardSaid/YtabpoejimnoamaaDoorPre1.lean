/- The contracts of the document's PutInt and TakeInt of layer 3. -/
import Derived.Test.YtabpoejimnoamaaDoorRows
import Derived.Test.YtabpoejimnoamaaDoorPrePure
import Derived.Test.YtabpoejimnoamaaDoorMem
import Derived.Test.YtabpoejimnoamaaDoorMem2
import Derived.Test.YtabpoejimnoamaaDoorGen
import Derived.WalkKit
import Derived.WalkSpells
import Derived.WalkLawsBesides
import Derived.Lib.Hide
import Derived.Outline
namespace Go.Proofs.YtabpoejimnoamaaDoor
open Go.RowKit
open Huf Pre Mem Gen
set_option linter.unusedVariables false

/-- A slice literal of one byte. -/
theorem made_one (w : World) (x : Int) (u : UInt8) (h : x = (u.toNat : Int)) : (w.alloc (.cells #[.int .u8 x] 5)).ownsRow w.heap.size 5 1 (.slice (some ⟨w.heap.size, 0, none⟩) [u].length 1) [u].length (bvs [u]) := by
  subst h
  exact World.ownsRow_lit (base := w.heap.size) (e := 5) (size := 1) w #[.int .u8 (u.toNat : Int)] 1 (Nat.le_refl _) (by unfold maxLen; omega) rfl

set_option maxHeartbeats 2000000 in
theorem rputint_any (f k n : Nat) (w : World) (hf : f < 256) (h1 : 1 ≤ k) (h8 : k ≤ 8) (hn : n < 4294967296) :
    Calls Tryd.prog 19 #[.int .u8 f, .int .i64 k, .int .u32 n] w (MadeB w (putI f k n)) := by
  obtain ⟨i0, hi, hz0, hz1, hz2⟩ := info_parts info_u8
  have HI := Lib.hid hi
  have HZ0 := Lib.hid hz0
  have HZ1 := Lib.hid hz1
  have HZ2 := Lib.hid hz2
  clear hi hz0 hz1 hz2
  have hpb := pow_bd k h1 h8
  have HP : Hid (putI f k n = if n < 2 ^ k - 1 then [UInt8.ofNat (f + n)] else UInt8.ofNat (f + (2 ^ k - 1)) :: tailF 4 (n - (2 ^ k - 1))) := rfl
  have HD : Hid (∀ i, i < k → 2 ^ (i + 1) = 2 ^ i * 2 ∧ 2 ^ i ≤ 128) := Lib.hid (fun i hi => ⟨Nat.pow_succ .., by
    have h := Nat.pow_le_pow_right (show 0 < 2 by decide) (show i ≤ 7 by omega)
    exact h⟩)
  generalize putI f k n = R at HP ⊢
  obtain ⟨P, hP⟩ : ∃ P, 2 ^ k = P := ⟨_, rfl⟩
  rw [hP] at HP hpb
  have HPk := Lib.hid hP
  clear hP
  go_enter Tryd.func19, Tryd.ntmps19
  go_wp2_with fail
  go_loop [7, 8] (fun vp vi => ∃ (i p : Nat), i ≤ k ∧ p ≤ 256 ∧ vi = .int .i64 i ∧ vp = .int .u32 p ∧ Hid (2 ^ i = p)) (fun _ vi => k - (intOf vi).toNat)
  case atStart => exact ⟨0, 1, by omega, by omega, rfl, rfl, Lib.hid rfl⟩
  case round =>
    obtain ⟨i, p, hik, hp, rfl, rfl, HE⟩ := hrel
    by_cases hlt : i < k
    · have hlt' : (i : Int) < k := by omega
      have hd := HD.out i hlt
      have HE2 : Hid (2 ^ (i + 1) = p * 2) := Lib.hid (by rw [hd.1, HE.out])
      have hp2 : p ≤ 128 := by rw [← HE.out]; exact hd.2
      clear hd HE
      go_wp2_with fail
      go_round
      case rel => exact ⟨i + 1, p * 2, by omega, by omega, by go_num, by go_num, HE2⟩
      case measure => first | (simp [intOf]; done) | (simp [intOf]; omega)
    · have hlt' : ¬ (i : Int) < k := by omega
      have hpP : p = P := by
        have : i = k := by omega
        rw [← HE.out, ← HPk.out, this]
      clear HE
      subst hpP
      have hp0 : (1 : Int) ≤ p := by omega
      by_cases hlow : n < p - 1
      · have hlow' : (n : Int) < (p : Int) - 1 := by omega
        have HR : Hid (R = [UInt8.ofNat (f + n)]) := Lib.hid (by rw [HP.out, if_pos hlow])
        have hn2 : n ≤ 254 := by omega
        clear HP hlow
        go_wp2_with fail
        go_ret
        refine ⟨some ⟨w.heap.size, 0, none⟩, 1, by rw [HR.out]; rfl, Lib.hid ?_, (Below.refl _ _).alloc (Nat.le_refl _) _⟩
        rw [HR.out]
        exact made_one w _ _ (by rw [UInt8.toNat_ofNat']; omega)
      · have hlow' : ¬ (n : Int) < (p : Int) - 1 := by omega
        have HR : Hid ([UInt8.ofNat (f + (p - 1))] ++ tailF 4 (n - (p - 1)) = R) := Lib.hid (by rw [HP.out, if_neg hlow]; rfl)
        have hown := fun (x : Int) (hx : x = ((UInt8.ofNat (f + (p - 1))).toNat : Int)) => made_one w x _ hx
        have HOwn := Lib.hid hown
        have hx : Hid (((f : Int) + ((p : Int) - 1)) % 256 = ((UInt8.ofNat (f + (p - 1))).toNat : Int)) := Lib.hid (by rw [UInt8.toNat_ofNat']; omega)
        have hbnd : n - (p - 1) < 128 ^ 5 := by omega
        have HBn := Lib.hid hbnd
        have hsub : (n : Int) - ((p : Int) - 1) = ((n - (p - 1) : Nat) : Int) := by omega
        have HSub := Lib.hid hsub
        clear HP hlow hown hbnd hsub
        go_wp2_with fail
        rw [HSub.out]
        generalize hm0 : n - (p - 1) = m0 at HR HBn ⊢
        have hm32 : m0 < 4294967296 := by omega
        have HOw : Hid ((w.alloc (.cells #[.int .u8 (((f : Int) + ((p : Int) - 1)) % 256)] 5)).ownsRow w.heap.size 5 1 (.slice (some ⟨w.heap.size, 0, none⟩) [UInt8.ofNat (f + (p - 1))].length 1) [UInt8.ofNat (f + (p - 1))].length (bvs [UInt8.ofNat (f + (p - 1))])) := Lib.hid (HOwn.out _ hx.out)
        have Hb0 : Below w.heap.size w (w.alloc (.cells #[.int .u8 (((f : Int) + ((p : Int) - 1)) % 256)] 5)) := (Below.refl _ _).alloc (Nat.le_refl _) _
        clear hm0 HSub
        go_loopw [2, 9] (fun vn vo wr => ∃ (g m : Nat) (ad : Option Addr) (cp : Nat) (E : List UInt8), g ≤ 4 ∧ m < 4294967296 ∧ vn = .int .u32 m ∧ vo = .slice ad E.length cp ∧ E.length + g ≤ 5 ∧ Hid (m < 128 ^ (g + 1)) ∧ Hid (E ++ tailF g m = R) ∧ Hid (wr.ownsRow w.heap.size 5 1 (.slice ad E.length cp) E.length (bvs E)) ∧ Below w.heap.size w wr) (fun vn _ _ => (intOf vn).toNat)
        case atStart => exact ⟨4, m0, _, 1, [UInt8.ofNat (f + (p - 1))], by omega, hm32, rfl, rfl, by simp, HBn, HR, HOw, Hb0⟩
        case round =>
          clear HR HOw Hb0 HBn HOwn hx
          obtain ⟨g, m, ad, cp, E, hg, hm, rfl, rfl, hE, HB, HF, HO, hbel⟩ := hrel
          have HBs := Lib.hid hbel.size
          have HLn : Hid (E.length + 1 ≤ 140737488355328) := Lib.hid (by omega)
          by_cases hbig : 127 < m
          · have hbig' : (127 : Int) < m := by omega
            obtain ⟨g, rfl⟩ : ∃ x, g = x + 1 := by
              refine ⟨g - 1, ?_⟩
              rcases Nat.eq_zero_or_pos g with h | h
              · subst h; have := HB.out; omega
              · omega
            have HF2 : Hid ((E ++ [UInt8.ofNat (m % 128 + 128)]) ++ tailF g (m / 128) = R) := Lib.hid (by
              have h := HF.out
              rw [tailF, if_neg (by omega)] at h
              simpa using h)
            have HB2 : Hid (m / 128 < 128 ^ (g + 1)) := Lib.hid (by have h := HB.out; rw [Nat.pow_succ] at h; omega)
            have HU : Hid ((m : Int) % 128 + 128 = ((UInt8.ofNat (m % 128 + 128)).toNat : Int)) := Lib.hid (by rw [UInt8.toNat_ofNat']; omega)
            clear HF HB
            go_wp2_with (at_builtin; refine append_byte Tryd.underlying22 HI.out HZ0.out HZ1.out HZ2.out rfl _ _ rfl w.heap.size (.slice ad E.length cp) E (UInt8.ofNat (m % 128 + 128)) _ HU.out rfl HO.out rfl HLn.out HBs.out ?_; intro v1 w4 hown4 hb4)
            go_roundw
            case rel =>
              obtain ⟨ad4, cap4, rfl⟩ := own_form hown4.out
              exact ⟨g, m / 128, ad4, cap4, E ++ [UInt8.ofNat (m % 128 + 128)], by omega, by omega, by go_num, by rw [List.length_append]; rfl, by rw [List.length_append]; simp; omega, HB2, HF2, Lib.hid (by rw [List.length_append]; exact hown4.out), hb4 _ _ hbel (Nat.le_refl _)⟩
            case measure => first | (simp [intOf]; done) | (simp [intOf]; omega)
          · have hbig' : ¬ (127 : Int) < m := by omega
            have hR : R = E ++ [UInt8.ofNat m] := by
              rw [← HF.out]
              cases g with
              | zero => rfl
              | succ g => rw [tailF, if_pos (by omega)]
            have HU : Hid ((m : Int) = ((UInt8.ofNat m).toNat : Int)) := Lib.hid (by rw [UInt8.toNat_ofNat']; omega)
            have HRR := Lib.hid hR
            have HL3 : Hid (R.length ≤ 140737488355328) := Lib.hid (by rw [hR, List.length_append]; simp; omega)
            clear HF HB hR
            go_wp2_with (at_builtin; refine append_byte3 Tryd.underlying22 HI.out HZ0.out HZ1.out HZ2.out rfl _ _ rfl w.heap.size (.slice ad E.length cp) E (UInt8.ofNat m) _ HU.out rfl HO.out rfl R HRR.out HL3.out HBs.out ?_; intro ad4 cp4 w4 hown4 hb4)
            go_ret
            exact ⟨ad4, cp4, rfl, hown4, hb4 _ _ hbel (Nat.le_refl _)⟩

theorem ret_int3 {k k' k'' : IntKind} {a b c d e f : Int} (h : a = b) (h' : c = d) (h'' : e = f) : Ending.returned (.tuple #[.int k a, .int k' c, .int k'' e]) = .returned (.tuple #[.int k b, .int k' d, .int k'' f]) := by rw [h, h', h'']

set_option maxHeartbeats 2000000 in
theorem rtakeint_bad (a : Option Addr) (len cap : Nat) (k : Int) (w : World) (hk : k < 1 ∨ 8 < k) :
    Calls Tryd.prog 21 #[.slice a len cap, .int .i64 k] w fun e w' => e = .returned (.tuple #[.int .i64 0, .int .i64 0, .int .i64 1]) ∧ w = w' := by
  by_cases h : k < 1
  · clear hk
    go_enter Tryd.func21, Tryd.ntmps21
    go_wp2_with fail
    go_ret3
    exact ⟨rfl, rfl⟩
  · have h8 : 8 < k := by omega
    clear hk
    go_enter Tryd.func21, Tryd.ntmps21
    go_wp2_with fail
    go_ret3
    exact ⟨rfl, rfl⟩
end Go.Proofs.YtabpoejimnoamaaDoor
