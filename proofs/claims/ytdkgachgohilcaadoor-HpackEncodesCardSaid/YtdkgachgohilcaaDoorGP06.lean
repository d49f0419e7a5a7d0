/- Layer 5 without the program: bounds. The contracts of the document's PutInt and TakeInt of layer 3. The contract of the document's TakeInt of layer 3, with a prefix of one to eight bits. The contracts of layer 3's program: PutInt and TakeInt. -/
import Derived.Test.YtdkgachgohilcaaDoorGP05
import Derived.Test.YtdkgachgohilcaaDoorRows
import Derived.Test.YtdkgachgohilcaaDoorGP04
import Derived.Test.YtdkgachgohilcaaDoorGP01
import Derived.Test.YtdkgachgohilcaaDoorGP02
import Derived.Test.YtdkgachgohilcaaDoorGP03
import Derived.WalkKit
import Derived.WalkSpells
import Derived.WalkLawsBesides
import Derived.Lib.Hide
import Derived.Outline
import Derived.IntWalk
import Derived.Laws.BitsAllLaws
import Derived.Deep.QuietTactic
set_option linter.unusedVariables false
set_option linter.unusedSimpArgs false
namespace Go.Proofs.YtdkgachgohilcaaDoor
namespace Hpk
open Huf Pre Tab

theorem takeT_bd (l : List UInt8) : (takeT l).1.length ≤ 4096 ∧ (takeT l).2.1 ≤ l.length ∧ ((takeT l).2.2 = 0 → 1 ≤ (takeT l).2.1) ∧ (takeT l).2.2 ≤ 12 := by
  have hb := takeN_bd l 7 (by decide)
  obtain ⟨h1, h2, h3, h4⟩ := hb
  rw [takeT]
  by_cases he : (takeN l 7).2.2 = 0
  · obtain ⟨p1, p2, p3⟩ := h3 he
    rw [if_neg (by simpa using he)]
    by_cases hl : 4096 < (takeN l 7).1
    · rw [if_pos hl]; simp
    · rw [if_neg hl]
      by_cases hs : (l.length : Int) - (takeN l 7).2.1 < (takeN l 7).1
      · rw [if_pos hs]; simp
      · rw [if_neg hs]
        by_cases hz : 127 < (l.headD 0).toNat
        · rw [if_pos hz]
          cases hd : dec ((l.drop (takeN l 7).2.1).take (takeN l 7).1) with
          | none => simp
          | some u =>
            simp only
            by_cases hu : 4096 < u.length
            · rw [if_pos hu]; simp
            · rw [if_neg hu]
              refine ⟨by simp only; omega, by simp only; omega, fun _ => by simp only; omega, by simp⟩
        · rw [if_neg hz]
          refine ⟨by simp only [List.length_take, List.length_drop]; omega, by simp only; omega, fun _ => by simp only; omega, by simp⟩
  · rw [if_pos (by simpa using he)]
    refine ⟨by simp, by simp, fun h => absurd h he, h4⟩
theorem ofT_size (l : List UInt8) : (ofT l).size = l.length := rfl

theorem litV_bd (b : List UInt8) (name : ByteArray) : (litV b name).2.1.name = name ∧ (litV b name).2.1.value.size ≤ 4096 ∧ (litV b name).2.1.never = false ∧ (litV b name).2.2.length ≤ b.length ∧ (litV b name).1 ≤ 12 := by
  have h := takeT_bd b
  refine ⟨rfl, h.1, rfl, ?_, h.2.2.2⟩
  rw [litV, List.length_drop]; omega
theorem atT_size (rows : List FdM) (n : Int) (m : Nat) (h : csum rows ≤ m) (hm : 100 ≤ m) : (atT rows n).1.name.size ≤ m := by
  rw [atT]
  split
  · rename_i h1
    have hk : n.toNat - 1 < statics.length := by rw [statics_len]; omega
    rw [List.getD_eq_getElem?_getD, List.getElem?_eq_getElem hk, Option.getD_some]
    have : ∀ x ∈ statics, x.name.size ≤ 100 := by decide +kernel
    exact Nat.le_trans (this _ (List.getElem_mem hk)) hm
  · split
    · exact Nat.zero_le _
    · rename_i h1 h2
      have hk : n.toNat - 62 < rows.length := by omega
      rw [List.getD_eq_getElem?_getD, List.getElem?_eq_getElem hk, Option.getD_some]
      have := csum_mem (List.getElem_mem hk)
      unfold cost at this
      simp only
      omega
/-- A field that is written out: its texts' lengths, and that no bytes come out of nothing. -/
theorem litM_bd (rows : List FdM) (b : List UInt8) (n : Nat) (h : csum rows ≤ 65536) : (litM rows b n).2.1.name.size ≤ 65536 ∧ (litM rows b n).2.1.value.size ≤ 4096 ∧ (litM rows b n).2.2.length ≤ b.length := by
  have ht := takeT_bd b
  rw [litM]
  split
  · split
    · exact ⟨Nat.zero_le _, Nat.zero_le _, Nat.le_refl _⟩
    · have hv := litV_bd b (atT rows n).1.name
      exact ⟨by rw [hv.1]; exact atT_size rows n 65536 h (by decide), hv.2.1, hv.2.2.2.1⟩
  · split
    · exact ⟨Nat.zero_le _, Nat.zero_le _, Nat.le_refl _⟩
    · have hv := litV_bd (b.drop (takeT b).2.1) (ofT (takeT b).1)
      refine ⟨by rw [hv.1, ofT_size]; omega, hv.2.1, ?_⟩
      have := hv.2.2.2.1
      rw [List.length_drop] at this
      omega
end Hpk
end Go.Proofs.YtdkgachgohilcaaDoor

namespace Go.Proofs.YtdkgachgohilcaaDoor
open Go.RowKit
open Huf Pre Mem Gen
set_option linter.unusedVariables false

/-- A slice literal of one byte. -/
theorem made_one (w : World) (x : Int) (u : UInt8) (h : x = (u.toNat : Int)) : (w.alloc (.cells #[.int .u8 x] 5)).ownsRow w.heap.size 5 1 (.slice (some ⟨w.heap.size, 0, none⟩) [u].length 1) [u].length (bvs [u]) := by
  subst h
  exact World.ownsRow_lit (base := w.heap.size) (e := 5) (size := 1) w #[.int .u8 (u.toNat : Int)] 1 (Nat.le_refl _) (by unfold maxLen; omega) rfl

set_option maxHeartbeats 2000000 in
theorem rputint_any (f k n : Nat) (w : World) (hf : f < 256) (h1 : 1 ≤ k) (h8 : k ≤ 8) (hn : n < 4294967296) :
    Calls Tryd.prog 45 #[.int .u8 f, .int .i64 k, .int .u32 n] w (MadeB w (putI f k n)) := by
  obtain ⟨i0, hi, hz0, hz1, hz2⟩ := info_parts info_u8
  have HI := Lib.hid hi
  have HZ0 := Lib.hid hz0
  have HZ1 := Lib.hid hz1
  have HZ2 := Lib.hid hz2
  clear hi hz0 hz1 hz2
  have hpb := pow_bd k h1 h8
  have HP : Hid (putI f k n = if n < 2 ^ k - 1 then [UInt8.ofNat (f + n)] else UInt8.ofNat (f + (2 ^ k - 1)) :: tailF 4 (n - (2 ^ k - 1))) := rfl
  have HD : Hid (∀ i, i < k → 2 ^ (i + 1) = 2 ^ i * 2 ∧ 2 ^ i ≤ 128) := Lib.hid (fun i hi => ⟨Nat.pow_succ .., by
    have h := Nat.pow_le_pow_right (show 0 < 2 by decide) (show i ≤ 7 by omega)
    exact h⟩)
  generalize putI f k n = R at HP ⊢
  obtain ⟨P, hP⟩ : ∃ P, 2 ^ k = P := ⟨_, rfl⟩
  rw [hP] at HP hpb
  have HPk := Lib.hid hP
  clear hP
  go_enter Tryd.func45, Tryd.ntmps45
  go_wp2_with fail
  go_loop [7, 8] (fun vp vi => ∃ (i p : Nat), i ≤ k ∧ p ≤ 256 ∧ vi = .int .i64 i ∧ vp = .int .u32 p ∧ Hid (2 ^ i = p)) (fun _ vi => k - (intOf vi).toNat)
  case atStart => exact ⟨0, 1, by omega, by omega, rfl, rfl, Lib.hid rfl⟩
  case round =>
    obtain ⟨i, p, hik, hp, rfl, rfl, HE⟩ := hrel
    by_cases hlt : i < k
    · have hlt' : (i : Int) < k := by omega
      have hd := HD.out i hlt
      have HE2 : Hid (2 ^ (i + 1) = p * 2) := Lib.hid (by rw [hd.1, HE.out])
      have hp2 : p ≤ 128 := by rw [← HE.out]; exact hd.2
      clear hd HE
      go_wp2_with fail
      go_round
      case rel => exact ⟨i + 1, p * 2, by omega, by omega, by go_num, by go_num, HE2⟩
      case measure => first | (simp [intOf]; done) | (simp [intOf]; omega)
    · have hlt' : ¬ (i : Int) < k := by omega
      have hpP : p = P := by
        have : i = k := by omega
        rw [← HE.out, ← HPk.out, this]
      clear HE
      subst hpP
      have hp0 : (1 : Int) ≤ p := by omega
      by_cases hlow : n < p - 1
      · have hlow' : (n : Int) < (p : Int) - 1 := by omega
        have HR : Hid (R = [UInt8.ofNat (f + n)]) := Lib.hid (by rw [HP.out, if_pos hlow])
        have hn2 : n ≤ 254 := by omega
        clear HP hlow
        go_wp2_with fail
        go_ret
        refine ⟨some ⟨w.heap.size, 0, none⟩, 1, by rw [HR.out]; rfl, Lib.hid ?_, (Below.refl _ _).alloc (Nat.le_refl _) _⟩
        rw [HR.out]
        exact made_one w _ _ (by rw [UInt8.toNat_ofNat']; omega)
      · have hlow' : ¬ (n : Int) < (p : Int) - 1 := by omega
        have HR : Hid ([UInt8.ofNat (f + (p - 1))] ++ tailF 4 (n - (p - 1)) = R) := Lib.hid (by rw [HP.out, if_neg hlow]; rfl)
        have hown := fun (x : Int) (hx : x = ((UInt8.ofNat (f + (p - 1))).toNat : Int)) => made_one w x _ hx
        have HOwn := Lib.hid hown
        have hx : Hid (((f : Int) + ((p : Int) - 1)) % 256 = ((UInt8.ofNat (f + (p - 1))).toNat : Int)) := Lib.hid (by rw [UInt8.toNat_ofNat']; omega)
        have hbnd : n - (p - 1) < 128 ^ 5 := by omega
        have HBn := Lib.hid hbnd
        have hsub : (n : Int) - ((p : Int) - 1) = ((n - (p - 1) : Nat) : Int) := by omega
        have HSub := Lib.hid hsub
        clear HP hlow hown hbnd hsub
        go_wp2_with fail
        rw [HSub.out]
        generalize hm0 : n - (p - 1) = m0 at HR HBn ⊢
        have hm32 : m0 < 4294967296 := by omega
        have HOw : Hid ((w.alloc (.cells #[.int .u8 (((f : Int) + ((p : Int) - 1)) % 256)] 5)).ownsRow w.heap.size 5 1 (.slice (some ⟨w.heap.size, 0, none⟩) [UInt8.ofNat (f + (p - 1))].length 1) [UInt8.ofNat (f + (p - 1))].length (bvs [UInt8.ofNat (f + (p - 1))])) := Lib.hid (HOwn.out _ hx.out)
        have Hb0 : Below w.heap.size w (w.alloc (.cells #[.int .u8 (((f : Int) + ((p : Int) - 1)) % 256)] 5)) := (Below.refl _ _).alloc (Nat.le_refl _) _
        clear hm0 HSub
        go_loopw [2, 9] (fun vn vo wr => ∃ (g m : Nat) (ad : Option Addr) (cp : Nat) (E : List UInt8), g ≤ 4 ∧ m < 4294967296 ∧ vn = .int .u32 m ∧ vo = .slice ad E.length cp ∧ E.length + g ≤ 5 ∧ Hid (m < 128 ^ (g + 1)) ∧ Hid (E ++ tailF g m = R) ∧ Hid (wr.ownsRow w.heap.size 5 1 (.slice ad E.length cp) E.length (bvs E)) ∧ Below w.heap.size w wr) (fun vn _ _ => (intOf vn).toNat)
        case atStart => exact ⟨4, m0, _, 1, [UInt8.ofNat (f + (p - 1))], by omega, hm32, rfl, rfl, by simp, HBn, HR, HOw, Hb0⟩
        case round =>
          clear HR HOw Hb0 HBn HOwn hx
          obtain ⟨g, m, ad, cp, E, hg, hm, rfl, rfl, hE, HB, HF, HO, hbel⟩ := hrel
          have HBs := Lib.hid hbel.size
          have HLn : Hid (E.length + 1 ≤ 140737488355328) := Lib.hid (by omega)
          by_cases hbig : 127 < m
          · have hbig' : (127 : Int) < m := by omega
            obtain ⟨g, rfl⟩ : ∃ x, g = x + 1 := by
              refine ⟨g - 1, ?_⟩
              rcases Nat.eq_zero_or_pos g with h | h
              · subst h; have := HB.out; omega
              · omega
            have HF2 : Hid ((E ++ [UInt8.ofNat (m % 128 + 128)]) ++ tailF g (m / 128) = R) := Lib.hid (by
              have h := HF.out
              rw [tailF, if_neg (by omega)] at h
              simpa using h)
            have HB2 : Hid (m / 128 < 128 ^ (g + 1)) := Lib.hid (by have h := HB.out; rw [Nat.pow_succ] at h; omega)
            have HU : Hid ((m : Int) % 128 + 128 = ((UInt8.ofNat (m % 128 + 128)).toNat : Int)) := Lib.hid (by rw [UInt8.toNat_ofNat']; omega)
            clear HF HB
            go_wp2_with (at_builtin; refine append_byte Tryd.underlying24 HI.out HZ0.out HZ1.out HZ2.out rfl _ _ rfl w.heap.size (.slice ad E.length cp) E (UInt8.ofNat (m % 128 + 128)) _ HU.out rfl HO.out rfl HLn.out HBs.out ?_; intro v1 w4 hown4 hb4)
            go_roundw
            case rel =>
              obtain ⟨ad4, cap4, rfl⟩ := own_form hown4.out
              exact ⟨g, m / 128, ad4, cap4, E ++ [UInt8.ofNat (m % 128 + 128)], by omega, by omega, by go_num, by rw [List.length_append]; rfl, by rw [List.length_append]; simp; omega, HB2, HF2, Lib.hid (by rw [List.length_append]; exact hown4.out), hb4 _ _ hbel (Nat.le_refl _)⟩
            case measure => first | (simp [intOf]; done) | (simp [intOf]; omega)
          · have hbig' : ¬ (127 : Int) < m := by omega
            have hR : R = E ++ [UInt8.ofNat m] := by
              rw [← HF.out]
              cases g with
              | zero => rfl
              | succ g => rw [tailF, if_pos (by omega)]
            have HU : Hid ((m : Int) = ((UInt8.ofNat m).toNat : Int)) := Lib.hid (by rw [UInt8.toNat_ofNat']; omega)
            have HRR := Lib.hid hR
            have HL3 : Hid (R.length ≤ 140737488355328) := Lib.hid (by rw [hR, List.length_append]; simp; omega)
            clear HF HB hR
            go_wp2_with (at_builtin; refine append_byte3 Tryd.underlying24 HI.out HZ0.out HZ1.out HZ2.out rfl _ _ rfl w.heap.size (.slice ad E.length cp) E (UInt8.ofNat m) _ HU.out rfl HO.out rfl R HRR.out HL3.out HBs.out ?_; intro ad4 cp4 w4 hown4 hb4)
            go_ret
            exact ⟨ad4, cp4, rfl, hown4, hb4 _ _ hbel (Nat.le_refl _)⟩

theorem ret_int3 {k k' k'' : IntKind} {a b c d e f : Int} (h : a = b) (h' : c = d) (h'' : e = f) : Ending.returned (.tuple #[.int k a, .int k' c, .int k'' e]) = .returned (.tuple #[.int k b, .int k' d, .int k'' f]) := by rw [h, h', h'']

set_option maxHeartbeats 2000000 in
theorem rtakeint_bad (a : Option Addr) (len cap : Nat) (k : Int) (w : World) (hk : k < 1 ∨ 8 < k) :
    Calls Tryd.prog 33 #[.slice a len cap, .int .i64 k] w fun e w' => e = .returned (.tuple #[.int .i64 0, .int .i64 0, .int .i64 1]) ∧ w = w' := by
  by_cases h : k < 1
  · clear hk
    go_enter Tryd.func33, Tryd.ntmps33
    go_wp2_with fail
    go_ret3
    exact ⟨rfl, rfl⟩
  · have h8 : 8 < k := by omega
    clear hk
    go_enter Tryd.func33, Tryd.ntmps33
    go_wp2_with fail
    go_ret3
    exact ⟨rfl, rfl⟩
end Go.Proofs.YtdkgachgohilcaaDoor

namespace Go.Proofs.YtdkgachgohilcaaDoor
open Go.RowKit
open Huf Pre Mem Gen
set_option linter.unusedVariables false

theorem takeN_cons (c : UInt8) (r : List UInt8) (k : Nat) : takeN (c :: r) k = if c.toNat % 2 ^ k < 2 ^ k - 1 then (c.toNat % 2 ^ k, 1, 0) else tkF 5 r 1 (c.toNat % 2 ^ k) 1 := rfl
theorem tkF_nil (f at' n t : Nat) : tkF (f + 1) [] at' n t = (0, 0, 12) := rfl
theorem tkF_cons (f : Nat) (c : UInt8) (r : List UInt8) (at' n t : Nat) : tkF (f + 1) (c :: r) at' n t = if c.toNat < 128 then (if 2147483647 < n + t * (c.toNat % 128) then (0, 0, 11) else (n + t * (c.toNat % 128), at' + 1, 0)) else tkF f r (at' + 1) (n + t * (c.toNat % 128)) (t * 128) := rfl
theorem pow_five (i : Nat) (h : i ≤ 4) : 128 ^ i ≤ 268435456 := by
  have : i = 0 ∨ i = 1 ∨ i = 2 ∨ i = 3 ∨ i = 4 := by omega
  rcases this with rfl | rfl | rfl | rfl | rfl <;> decide

set_option maxRecDepth 100000 in
set_option maxHeartbeats 4000000 in
theorem rtakeint_ok (a : Option Addr) (l : List UInt8) (cap k : Nat) (w : World) (hl : l.length ≤ 9223372036854775807) (hr : RB w a l) (h1 : 1 ≤ k) (h8 : k ≤ 8) :
    Calls Tryd.prog 33 #[.slice a l.length cap, .int .i64 k] w fun e w' => e = .returned (.tuple #[.int .i64 (takeN l k).1, .int .i64 (takeN l k).2.1, .int .i64 (takeN l k).2.2]) ∧ w = w' := by
  have hpb := pow_bd k h1 h8
  have k1 : ¬ (k : Int) < 1 := by omega
  have k8 : ¬ (8 : Int) < k := by omega
  rcases hr with rfl | ⟨b, off, rfl, hc⟩
  · have hT : takeN [] k = (0, 0, 12) := rfl
    rw [hT]
    clear hT hpb
    go_enter Tryd.func33, Tryd.ntmps33
    go_wp2_with fail
    go_ret3
    exact ⟨rfl, rfl⟩
  · match l, hl, hc with
    | [], _, _ =>
      have hT : takeN [] k = (0, 0, 12) := rfl
      rw [hT]
      clear hT hpb
      go_enter Tryd.func33, Tryd.ntmps33
      go_wp2_with fail
      go_ret3
      exact ⟨rfl, rfl⟩
    | c :: r, hl, hc =>
      have hcb := c.toNat_lt
      have hc0 : w.cell? ⟨b, off, none⟩ = some (.int .u8 (c.toNat : Int)) := hc 0 (Nat.zero_lt_succ _)
      have HC : Hid (∀ i, (h : i < r.length) → w.cell? ⟨b, off + (i + 1), none⟩ = some (.int .u8 (r[i].toNat : Int))) := Lib.hid (fun i h => hc (i + 1) (Nat.succ_lt_succ h))
      have HP : Hid (takeN (c :: r) k = if c.toNat % 2 ^ k < 2 ^ k - 1 then (c.toNat % 2 ^ k, 1, 0) else tkF 5 r 1 (c.toNat % 2 ^ k) 1) := rfl
      have HD : Hid (∀ i, i < k → 2 ^ (i + 1) = 2 ^ i * 2 ∧ 2 ^ i ≤ 128) := Lib.hid (fun i hi => ⟨Nat.pow_succ .., by
        have h := Nat.pow_le_pow_right (show 0 < 2 by decide) (show i ≤ 7 by omega)
        exact h⟩)
      generalize takeN (c :: r) k = R at HP ⊢
      obtain ⟨P, hP⟩ : ∃ P, 2 ^ k = P := ⟨_, rfl⟩
      rw [hP] at HP hpb
      have HPk := Lib.hid hP
      have hlen : (c :: r).length = r.length + 1 := rfl
      rw [hlen] at hl ⊢
      generalize hcz : c.toNat = z at *
      clear hP hc hlen hcz
      have hl0 : (((r.length : Int) + 1) == 0) = false := by simp; omega
      go_enter Tryd.func33, Tryd.ntmps33
      go_wp2_with fail
      go_loop [7, 8] (fun vp vi => ∃ (i p : Nat), i ≤ k ∧ p ≤ 256 ∧ vi = .int .i64 i ∧ vp = .int .i64 p ∧ Hid (2 ^ i = p)) (fun _ vi => k - (intOf vi).toNat)
      case atStart => exact ⟨0, 1, by omega, by omega, rfl, rfl, Lib.hid rfl⟩
      case round =>
        obtain ⟨i, p, hik, hp, rfl, rfl, HE⟩ := hrel
        by_cases hlt : i < k
        · have hlt' : (i : Int) < k := by omega
          have hd := HD.out i hlt
          have HE2 : Hid (2 ^ (i + 1) = p * 2) := Lib.hid (by rw [hd.1, HE.out])
          have hp2 : p ≤ 128 := by rw [← HE.out]; exact hd.2
          clear hd HE
          go_wp2_with fail
          go_round
          case rel => exact ⟨i + 1, p * 2, by omega, by omega, by go_num, by go_num, HE2⟩
          case measure => first | (simp [intOf]; done) | (simp [intOf]; omega)
        · have hlt' : ¬ (i : Int) < k := by omega
          have hpP : p = P := by
            have : i = k := by omega
            rw [← HE.out, ← HPk.out, this]
          clear HE
          subst hpP
          have hp0 : (2 : Int) ≤ p := by omega
          have hp1 : (0 : Int) < p := by omega
          have hpne : ((p : Int) == 0) = false := by simp; omega
          have hpne2 : ¬ (p : Int) = 0 := by omega
          obtain ⟨q, hq⟩ : ∃ q, z % p = q := ⟨_, rfl⟩
          rw [hq] at HP
          have hq2 : ((z : Int) % (p : Int)) = (q : Int) := by rw [← hq]; exact (Int.natCast_emod z p).symm
          have hqp : q < p := by rw [← hq]; exact Nat.mod_lt _ (by omega)
          clear hq
          by_cases hlow : q < p - 1
          · have hlow' : (q : Int) < (p : Int) - 1 := by omega
            have hR : R = (q, 1, 0) := by rw [HP.out, if_pos hlow]
            subst hR
            clear HP hlow
            go_wp2_with fail
            go_ret3
            exact ⟨rfl, rfl⟩
          · have hlow' : ¬ (q : Int) < (p : Int) - 1 := by omega
            have HR : Hid (tkF 5 (r.drop 0) 1 q 1 = R) := Lib.hid (by rw [HP.out, if_neg hlow]; rfl)
            clear HP hlow
            go_wp2_with fail
            go_loop [9, 10, 11] (fun vn vt vj => ∃ (j f n t : Nat), 1 ≤ j ∧ j + f = 6 ∧ t ≤ 34359738368 ∧ n < 256 * t ∧ vj = .int .i64 j ∧ vn = .int .i64 n ∧ vt = .int .i64 t ∧ Hid (t = 128 ^ (j - 1)) ∧ Hid (tkF f (r.drop (j - 1)) j n t = R)) (fun _ _ vj => 6 - (intOf vj).toNat)
            case atStart => exact ⟨1, 5, q, 1, by omega, by omega, by omega, by omega, rfl, rfl, rfl, Lib.hid rfl, HR⟩
            case round =>
              clear HR HD HPk
              obtain ⟨j, f, n, t, hj, hjf, ht, hn, rfl, rfl, rfl, HTp, HF⟩ := hrel
              by_cases hj5 : j ≤ 5
              · have hj5' : (j : Int) ≤ 5 := by omega
                obtain ⟨f, rfl⟩ : ∃ x, f = x + 1 := ⟨f - 1, by omega⟩
                have ht4 : t ≤ 268435456 := by have h := pow_five (j - 1) (by omega); rw [HTp.out]; exact h
                by_cases hend : r.length ≤ j - 1
                · have hend' : (r.length : Int) + 1 ≤ j := by omega
                  have hR : R = (0, 0, 12) := by rw [← HF.out, List.drop_of_length_le hend, tkF_nil]
                  subst hR
                  clear HF HTp
                  go_wp2_with fail
                  go_ret3
                  exact ⟨rfl, rfl⟩
                · have hend' : ¬ (r.length : Int) + 1 ≤ j := by omega
                  have hlt : j - 1 < r.length := by omega
                  have hcell : w.cell? ⟨b, off + j, none⟩ = some (.int .u8 (r[j - 1].toNat : Int)) := by
                    have h := HC.out (j - 1) hlt
                    rwa [show j - 1 + 1 = j from by omega] at h
                  have hyb := r[j - 1].toNat_lt
                  have HF1 : Hid (tkF (f + 1) (r[j - 1] :: r.drop j) j n t = R) := Lib.hid (by
                    have h := HF.out
                    rw [List.drop_eq_getElem_cons hlt, show j - 1 + 1 = j from by omega] at h
                    exact h)
                  clear HF
                  have HF2 : Hid ((if r[j - 1].toNat < 128 then (if 2147483647 < n + t * (r[j - 1].toNat % 128) then (0, 0, 11) else (n + t * (r[j - 1].toNat % 128), j + 1, 0)) else tkF f (r.drop j) (j + 1) (n + t * (r[j - 1].toNat % 128)) (t * 128)) = R) := Lib.hid (by rw [← HF1.out, tkF_cons])
                  clear HF1
                  generalize r[j - 1].toNat = y at *
                  obtain ⟨m, hm⟩ : ∃ m, t * (y % 128) = m := ⟨_, rfl⟩
                  have hmz : (t : Int) * ((y : Int) % 128) = (m : Int) := by
                    rw [← hm, Int.natCast_mul, Int.natCast_emod]; rfl
                  have hmb : m ≤ t * 127 := by rw [← hm]; exact Nat.mul_le_mul_left _ (by omega)
                  rw [hm] at HF2
                  clear hm
                  have hj0 : (0 : Int) ≤ j := by omega
                  by_cases hy : y < 128
                  · have hy' : (y : Int) < 128 := by omega
                    by_cases hbig : 2147483647 < n + m
                    · have hbig' : (2147483647 : Int) < (n : Int) + m := by omega
                      have hR : R = (0, 0, 11) := by rw [← HF2.out, if_pos hy, if_pos hbig]
                      subst hR
                      clear HF2 HTp
                      go_wp2_with fail
                      go_ret3
                      exact ⟨rfl, rfl⟩
                    · have hbig' : ¬ (2147483647 : Int) < (n : Int) + m := by omega
                      have hR : R = (n + m, j + 1, 0) := by rw [← HF2.out, if_pos hy, if_neg hbig]
                      subst hR
                      clear HF2 HTp
                      go_wp2_with fail
                      go_ret3
                      exact ⟨ret_int3 (by omega) (by omega) rfl, rfl⟩
                  · have hy' : ¬ (y : Int) < 128 := by omega
                    have HF3 : Hid (tkF f (r.drop (j + 1 - 1)) (j + 1) (n + m) (t * 128) = R) := Lib.hid (by rw [← HF2.out, if_neg hy, Nat.add_sub_cancel])
                    have HTp2 : Hid (t * 128 = 128 ^ (j + 1 - 1)) := Lib.hid (by rw [HTp.out, Nat.add_sub_cancel, ← Nat.pow_succ, show (j - 1).succ = j from by omega])
                    clear HF2 HTp
                    go_wp2_with fail
                    go_round
                    case rel => exact ⟨j + 1, f, n + m, t * 128, by omega, by omega, by omega, by omega, by go_num, by go_num, by go_num, HTp2, HF3⟩
                    case measure => first | (simp [intOf]; done) | (simp [intOf]; omega)
              · have hj5' : ¬ (j : Int) ≤ 5 := by omega
                have hR : R = (0, 0, 11) := by
                  have hf0 : f = 0 := by omega
                  rw [← HF.out, hf0]; rfl
                subst hR
                clear HF HTp
                go_wp2_with fail
                go_ret3
                exact ⟨rfl, rfl⟩
end Go.Proofs.YtdkgachgohilcaaDoor

namespace Go.Proofs.YtdkgachgohilcaaDoor
open Go.RowKit
open Huf Pre Mem Gen
set_option linter.unusedVariables false

/-- What a call that makes a row of bytes, or tells why not, leaves. -/
def MadeE (w : World) (l : List UInt8) (err : Int) (e : Ending) (w' : World) : Prop :=
  ∃ (a : Option Addr) (cap : Nat), e = .returned (.tuple #[.slice a l.length cap, .int .i64 err]) ∧ Hid (w'.ownsRow w.heap.size 5 1 (.slice a l.length cap) l.length (bvs l)) ∧ Below w.heap.size w w'

theorem ones_any (k : Nat) (w : World) (h1 : 1 ≤ k) (h8 : k ≤ 8) :
    Calls Tryd.prog 90 #[.int .i64 k] w fun e w' => e = .returned (.int .u8 ((2 ^ k - 1 : Nat) : Int)) ∧ w = w' := by
  have : k = 1 ∨ k = 2 ∨ k = 3 ∨ k = 4 ∨ k = 5 ∨ k = 6 ∨ k = 7 ∨ k = 8 := by omega
  rcases this with rfl | rfl | rfl | rfl | rfl | rfl | rfl | rfl <;>
  · go_enter Tryd.func90, Tryd.ntmps90
    go_wp2_with fail
    go_ret
    exact ⟨rfl, rfl⟩

theorem sized_any (k : Int) (w : World) :
    Calls Tryd.prog 89 #[.int .i64 k] w fun e w' => e = .returned (.bool (decide (1 ≤ k ∧ k ≤ 8))) ∧ w = w' := by
  by_cases h : 1 ≤ k
  · by_cases h' : k ≤ 8
    · rw [decide_eq_true ⟨h, h'⟩]
      go_enter Tryd.func89, Tryd.ntmps89
      go_wp2_with fail
      go_ret
      exact ⟨rfl, rfl⟩
    · rw [decide_eq_false (fun x => h' x.2)]
      go_enter Tryd.func89, Tryd.ntmps89
      go_wp2_with fail
      go_ret
      exact ⟨rfl, rfl⟩
  · rw [decide_eq_false (fun x => h x.1)]
    go_enter Tryd.func89, Tryd.ntmps89
    go_wp2_with fail
    go_ret
    exact ⟨rfl, rfl⟩

theorem u8_or_flag (f k m : Nat) (h : f % 2 ^ k = 0) (hm : m < 2 ^ k) (hf : f < 256) (h1 : 1 ≤ k) (h8 : k ≤ 8) : bits .or .u8 (f : Int) (m : Int) = ((UInt8.ofNat (f + m)).toNat : Int) := by
  have hb := flag_mod f k m h hm hf h1 h8
  have h2 := pow_bd k h1 h8
  rw [u8_or_nat f m hf (by omega), nat_join k f m h hm, UInt8.toNat_ofNat', Nat.mod_eq_of_lt (by omega)]
theorem u8_or_128 (m : Nat) (hm : m < 4294967296) : bits .or .u8 128 (bits .and .u32 (m : Int) 127 % 256) = ((UInt8.ofNat (m % 128 + 128)).toNat : Int) := by
  have h1 : bits .and .u32 (m : Int) 127 = ((m % 128 : Nat) : Int) := by
    have h := u32_and_nat m 127 hm (by decide)
    rw [nat_mask7] at h
    exact h
  have h2 : bits .and .u32 (m : Int) 127 % 256 = ((m % 128 : Nat) : Int) := by rw [h1]; omega
  have h3 := u8_or_nat 128 (m % 128) (by decide) (by omega)
  rw [nat_join 7 128 (m % 128) (by decide) (by omega)] at h3
  rw [h2]
  refine h3.trans ?_
  rw [UInt8.toNat_ofNat', Nat.mod_eq_of_lt (show m % 128 + 128 < 2 ^ 8 by omega), Nat.add_comm]

set_option maxHeartbeats 2000000 in
theorem number_any (f k n : Nat) (w : World) (hf : f < 256) (h1 : 1 ≤ k) (h8 : k ≤ 8) (hfk : f % 2 ^ k = 0) (hn : n < 4294967296) :
    Calls Tryd.prog 98 #[.int .u8 f, .int .i64 k, .int .u32 n] w (MadeB w (putI f k n)) := by
  obtain ⟨i0, hi, hz0, hz1, hz2⟩ := info_parts info_u8
  have HI := Lib.hid hi
  have HZ0 := Lib.hid hz0
  have HZ1 := Lib.hid hz1
  have HZ2 := Lib.hid hz2
  clear hi hz0 hz1 hz2
  have hpb := pow_bd k h1 h8
  have HON := Lib.hid (fun v => ones_any k v h1 h8)
  have HOr := Lib.hid (fun m (hm : m < 2 ^ k) => u8_or_flag f k m hfk hm hf h1 h8)
  have HP : Hid (putI f k n = if n < 2 ^ k - 1 then [UInt8.ofNat (f + n)] else UInt8.ofNat (f + (2 ^ k - 1)) :: tailF 4 (n - (2 ^ k - 1))) := rfl
  generalize putI f k n = R at HP ⊢
  obtain ⟨P, hP⟩ : ∃ P, 2 ^ k = P + 1 := ⟨2 ^ k - 1, by omega⟩
  rw [hP, Nat.add_sub_cancel] at HON HP 
  rw [hP] at HOr hpb
  clear hP hfk
  have hP1 : 1 ≤ P := by omega
  have hP2 : P ≤ 255 := by omega
  clear hpb
  go_enter Tryd.func98, Tryd.ntmps98
  go_wp2_with fail
  refine (HON.out _).mono ?_; rintro e w1 ⟨rfl, rfl⟩
  by_cases hlow : n < P
  · have hlow' : (n : Int) < P := by omega
    have HR : Hid (R = [UInt8.ofNat (f + n)]) := Lib.hid (by rw [HP.out, if_pos hlow])
    have HO2 := Lib.hid (HOr.out n (by omega))
    clear HP hlow HOr
    go_wp2_with fail
    go_ret
    refine ⟨some ⟨w.heap.size, 0, none⟩, 1, by rw [HR.out]; rfl, Lib.hid ?_, (Below.refl _ _).alloc (Nat.le_refl _) _⟩
    rw [HR.out]
    exact made_one w _ _ HO2.out
  · have hlow' : ¬ (n : Int) < P := by omega
    have HR : Hid ([UInt8.ofNat (f + P)] ++ tailF 4 (n - P) = R) := Lib.hid (by rw [HP.out, if_neg hlow]; rfl)
    have hown := made_one w _ _ (HOr.out P (by omega))
    have Hown := Lib.hid hown
    have hsub : (n : Int) - (P : Int) = ((n - P : Nat) : Int) := by omega
    have HSub := Lib.hid hsub
    have HBn : Hid (n - P < 128 ^ 5) := Lib.hid (by omega)
    clear HP HOr hown hsub
    go_wp2_with fail
    rw [HSub.out]
    generalize hm0 : n - P = m0 at HR HBn ⊢
    have hm32 : m0 < 4294967296 := by omega
    have Hb0 : ∀ o, Below w.heap.size w (w.alloc o) := fun o => (Below.refl _ _).alloc (Nat.le_refl _) _
    have HB0 := Lib.hid Hb0
    clear hm0 HSub Hb0
    go_loopw [2, 8] (fun vn vo wr => ∃ (g m : Nat) (ad : Option Addr) (cp : Nat) (E : List UInt8), g ≤ 4 ∧ m < 4294967296 ∧ vn = .int .u32 m ∧ vo = .slice ad E.length cp ∧ E.length + g ≤ 5 ∧ Hid (m < 128 ^ (g + 1)) ∧ Hid (E ++ tailF g m = R) ∧ Hid (wr.ownsRow w.heap.size 5 1 (.slice ad E.length cp) E.length (bvs E)) ∧ Below w.heap.size w wr) (fun vn _ _ => (intOf vn).toNat)
    case atStart => exact ⟨4, m0, _, 1, [UInt8.ofNat (f + P)], by omega, hm32, rfl, rfl, by simp, HBn, HR, Hown, HB0.out _⟩
    case round =>
      clear HR Hown HB0 HBn
      obtain ⟨g, m, ad, cp, E, hg, hm, rfl, rfl, hE, HB, HF, HO, hbel⟩ := hrel
      have HBs := Lib.hid hbel.size
      have HLn : Hid (E.length + 1 ≤ 140737488355328) := Lib.hid (by omega)
      by_cases hbig : 127 < m
      · have hbig' : (127 : Int) < m := by omega
        obtain ⟨g, rfl⟩ : ∃ x, g = x + 1 := by
          refine ⟨g - 1, ?_⟩
          rcases Nat.eq_zero_or_pos g with h | h
          · subst h; have := HB.out; omega
          · omega
        have HF2 : Hid ((E ++ [UInt8.ofNat (m % 128 + 128)]) ++ tailF g (m / 128) = R) := Lib.hid (by
          have h := HF.out
          rw [tailF, if_neg (by omega)] at h
          simpa using h)
        have HB2 : Hid (m / 128 < 128 ^ (g + 1)) := Lib.hid (by have h := HB.out; rw [Nat.pow_succ] at h; omega)
        have HU := Lib.hid (u8_or_128 m hm)
        clear HF HB
        go_wp2_with (at_builtin; refine append_byte Tryd.underlying24 HI.out HZ0.out HZ1.out HZ2.out rfl _ _ rfl w.heap.size (.slice ad E.length cp) E (UInt8.ofNat (m % 128 + 128)) _ HU.out rfl HO.out rfl HLn.out HBs.out ?_; intro v1 w4 hown4 hb4)
        go_roundw
        case rel =>
          obtain ⟨ad4, cap4, rfl⟩ := own_form hown4.out
          exact ⟨g, m / 128, ad4, cap4, E ++ [UInt8.ofNat (m % 128 + 128)], by omega, by omega, by go_num, by rw [List.length_append]; rfl, by rw [List.length_append]; simp; omega, HB2, HF2, Lib.hid (by rw [List.length_append]; exact hown4.out), hb4 _ _ hbel (Nat.le_refl _)⟩
        case measure => first | (simp [intOf]; done) | (simp [intOf]; omega)
      · have hbig' : ¬ (127 : Int) < m := by omega
        have hR : R = E ++ [UInt8.ofNat m] := by
          rw [← HF.out]
          cases g with
          | zero => rfl
          | succ g => rw [tailF, if_pos (by omega)]
        have HU : Hid ((m : Int) = ((UInt8.ofNat m).toNat : Int)) := Lib.hid (by rw [UInt8.toNat_ofNat']; omega)
        have HRR := Lib.hid hR
        have HL3 : Hid (R.length ≤ 140737488355328) := Lib.hid (by rw [hR, List.length_append]; simp; omega)
        clear HF HB hR
        go_wp2_with (at_builtin; refine append_byte3 Tryd.underlying24 HI.out HZ0.out HZ1.out HZ2.out rfl _ _ rfl w.heap.size (.slice ad E.length cp) E (UInt8.ofNat m) _ HU.out rfl HO.out rfl R HRR.out HL3.out HBs.out ?_; intro ad4 cp4 w4 hown4 hb4)
        go_ret
        exact ⟨ad4, cp4, rfl, hown4, hb4 _ _ hbel (Nat.le_refl _)⟩

theorem pputint_ok (f k n : Nat) (w : World) (hf : f < 256) (h1 : 1 ≤ k) (h8 : k ≤ 8) (hfk : f % 2 ^ k = 0) (hn : n < 4294967296) :
    Calls Tryd.prog 78 #[.int .u8 f, .int .i64 k, .int .u32 n] w (MadeE w (putI f k n) 0) := by
  have HN := Lib.hid (fun v => number_any f k n v hf h1 h8 hfk hn)
  have HON := Lib.hid (fun v => ones_any k v h1 h8)
  have HS : Hid (∀ v, Calls Tryd.prog 89 #[.int .i64 k] v fun e w' => e = .returned (.bool true) ∧ v = w') := Lib.hid (fun v => by
    have h := sized_any k v
    rwa [decide_eq_true ⟨by omega, by omega⟩] at h)
  have hA : bits .and .u8 (f : Int) ((2 ^ k - 1 : Nat) : Int) = 0 := by
    have hp := pow_bd k h1 h8
    rw [u8_and_nat f _ hf (by omega), Nat.and_two_pow_sub_one_eq_mod, hfk]; rfl
  generalize ((2 ^ k - 1 : Nat) : Int) = P at HON hA
  generalize putI f k n = R at HN ⊢
  clear hfk
  go_enter Tryd.func78, Tryd.ntmps78
  go_wp2_with fail
  refine (HS.out _).mono ?_; rintro e w1 ⟨rfl, rfl⟩
  go_wp2_with fail
  refine (HON.out _).mono ?_; rintro e w1 ⟨rfl, rfl⟩
  go_wp2_with fail
  refine (HN.out _).mono ?_; rintro e w1 ⟨ad, cp, rfl, hown, hb⟩
  go_wp2_with fail
  go_ret2
  exact ⟨ad, cp, rfl, hown, hb⟩

theorem pputint_bad (f : Nat) (k : Int) (n : Nat) (w : World) (hf : f < 256) (hn : n < 4294967296) (h : k < 1 ∨ 8 < k ∨ f % 2 ^ k.toNat ≠ 0) :
    Calls Tryd.prog 78 #[.int .u8 f, .int .i64 k, .int .u32 n] w (MadeE w [] 1) := by
  have hE : Hid ((w : World).ownsRow w.heap.size 5 1 (.slice none ([] : List UInt8).length 0) ([] : List UInt8).length (bvs [])) := Lib.hid ⟨rfl, Or.inl ⟨rfl, rfl⟩⟩
  by_cases hk : 1 ≤ k ∧ k ≤ 8
  · obtain ⟨k, rfl⟩ := Int.eq_ofNat_of_zero_le (show 0 ≤ k by omega)
    rw [Int.toNat_natCast] at h
    have hfk : f % 2 ^ k ≠ 0 := by
      rcases h with h | h | h
      · omega
      · omega
      · exact h
    have h1 : 1 ≤ k := by omega
    have h8 : k ≤ 8 := by omega
    have HON := Lib.hid (fun v => ones_any k v h1 h8)
    have HS : Hid (∀ v, Calls Tryd.prog 89 #[.int .i64 k] v fun e w' => e = .returned (.bool true) ∧ v = w') := Lib.hid (fun v => by
      have h := sized_any k v
      rwa [decide_eq_true ⟨by omega, by omega⟩] at h)
    have hA : (bits .and .u8 (f : Int) ((2 ^ k - 1 : Nat) : Int) != 0) = true := by
      have hp := pow_bd k h1 h8
      rw [u8_and_nat f _ hf (by omega), Nat.and_two_pow_sub_one_eq_mod]; simpa using (by omega : ¬ ((f % 2 ^ k : Nat) : Int) = 0)
    generalize ((2 ^ k - 1 : Nat) : Int) = P at HON hA
    clear hfk h hk
    go_enter Tryd.func78, Tryd.ntmps78
    go_wp2_with fail
    refine (HS.out _).mono ?_; rintro e w1 ⟨rfl, rfl⟩
    go_wp2_with fail
    refine (HON.out _).mono ?_; rintro e w1 ⟨rfl, rfl⟩
    go_wp2_with fail
    go_ret2
    exact ⟨none, 0, rfl, hE, Below.refl _ _⟩
  · have HS : Hid (∀ v, Calls Tryd.prog 89 #[.int .i64 k] v fun e w' => e = .returned (.bool false) ∧ v = w') := Lib.hid (fun v => by
      have h := sized_any k v
      rwa [decide_eq_false hk] at h)
    clear h hk
    go_enter Tryd.func78, Tryd.ntmps78
    go_wp2_with fail
    refine (HS.out _).mono ?_; rintro e w1 ⟨rfl, rfl⟩
    go_wp2_with fail
    go_ret2
    exact ⟨none, 0, rfl, hE, Below.refl _ _⟩

/-- What is above a full prefix, at the bytes from the i-th on. -/
def moF : Nat → List UInt8 → Nat → Nat → Nat × Nat × Nat
  | 0, _, _, _ => (0, 0, 11)
  | _ + 1, [], _, _ => (0, 0, 12)
  | f + 1, c :: r, i, n => if c.toNat < 128 then (n + c.toNat % 128 * 2 ^ (7 * i), i + 1, 0) else moF f r (i + 1) (n + c.toNat % 128 * 2 ^ (7 * i))
theorem moF_cons (f : Nat) (c : UInt8) (r : List UInt8) (i n : Nat) : moF (f + 1) (c :: r) i n = if c.toNat < 128 then (n + c.toNat % 128 * 2 ^ (7 * i), i + 1, 0) else moF f r (i + 1) (n + c.toNat % 128 * 2 ^ (7 * i)) := rfl
theorem moF_bd : ∀ (f : Nat) (r : List UInt8) (i n : Nat), i + f = 5 → n < 2 ^ (7 * i) → (moF f r i n).1 < 34359738368 ∧ (moF f r i n).2.1 ≤ 5 ∧ (moF f r i n).2.2 ≤ 12
  | 0, _, _, _, _, _ => by simp [moF]
  | f + 1, [], _, _, _, _ => by simp [moF]
  | f + 1, c :: r, i, n, h, hn => by
    have hp : 2 ^ (7 * (i + 1)) = 2 ^ (7 * i) * 128 := by rw [show 7 * (i + 1) = 7 * i + 7 from by omega, Nat.pow_add]
    have hm : c.toNat % 128 * 2 ^ (7 * i) ≤ 127 * 2 ^ (7 * i) := Nat.mul_le_mul_right _ (by omega)
    have hq : n + c.toNat % 128 * 2 ^ (7 * i) < 2 ^ (7 * (i + 1)) := by omega
    rw [moF_cons]
    split
    · have h5 : 2 ^ (7 * (i + 1)) ≤ 2 ^ 35 := Nat.pow_le_pow_right (by decide) (by omega)
      refine ⟨?_, ?_, ?_⟩
      · show _ < _; exact Nat.lt_of_lt_of_le hq h5
      · show i + 1 ≤ 5; omega
      · exact Nat.zero_le _
    · exact moF_bd f r (i + 1) _ (by omega) hq

/-- What the document adds up, out of what the program does. -/
theorem tkF_moF : ∀ (f : Nat) (r : List UInt8) (i q n : Nat),
    tkF f r (i + 1) (q + n) (2 ^ (7 * i)) = if (moF f r i n).2.2 ≠ 0 then (0, 0, (moF f r i n).2.2) else if 2147483647 < q + (moF f r i n).1 then (0, 0, 11) else (q + (moF f r i n).1, 1 + (moF f r i n).2.1, 0)
  | 0, _, _, _, _ => by simp [tkF, moF]
  | f + 1, [], _, _, _ => by simp [tkF, moF]
  | f + 1, c :: r, i, q, n => by
    have hp : 2 ^ (7 * (i + 1)) = 2 ^ (7 * i) * 128 := by rw [show 7 * (i + 1) = 7 * i + 7 from by omega, Nat.pow_add]
    have hc : 2 ^ (7 * i) * (c.toNat % 128) = c.toNat % 128 * 2 ^ (7 * i) := Nat.mul_comm _ _
    rw [moF_cons, tkF_cons, hc]
    split
    · simp only [ne_eq, not_true_eq_false, if_false]
      rw [show q + n + c.toNat % 128 * 2 ^ (7 * i) = q + (n + c.toNat % 128 * 2 ^ (7 * i)) from by omega, show i + 1 + 1 = 1 + (i + 1) from by omega]
    · rw [show q + n + c.toNat % 128 * 2 ^ (7 * i) = q + (n + c.toNat % 128 * 2 ^ (7 * i)) from by omega, ← hp]
      exact tkF_moF f r (i + 1) q _

theorem i64_or_nat (a b : Nat) (ha : a < 9223372036854775808) (hb : b < 9223372036854775808) : bits .or .i64 (a : Int) (b : Int) = ((a ||| b : Nat) : Int) := by
  have hx : a ||| b < 2 ^ 63 := Nat.or_lt_two_pow (by omega) (by omega)
  show IntKind.i64.wrap ((BitVec.ofInt 64 (a : Int) ||| BitVec.ofInt 64 (b : Int)).toNat : Int) = _
  rw [BitVec.toNat_or, ofInt_u64 a (by omega), ofInt_u64 b (by omega)]
  exact IntWalk.i64_in _ (by omega)
theorem or_more (n c i : Nat) (hi : i ≤ 4) (hn : n < 2 ^ (7 * i)) (hc : c < 256) : bits .or .i64 (n : Int) (wrap64 (wrap64 (bits .and .u8 (c : Int) 127) * 2 ^ (7 * i))) = ((n + c % 128 * 2 ^ (7 * i) : Nat) : Int) := by
  have h1 : bits .and .u8 (c : Int) 127 = ((c % 128 : Nat) : Int) := by
    have h := u8_and_nat c 127 hc (by decide)
    rw [nat_mask7] at h
    exact h
  have h5 : 2 ^ (7 * i) ≤ 2 ^ 28 := Nat.pow_le_pow_right (by decide) (by omega)
  have hm : c % 128 * 2 ^ (7 * i) ≤ 127 * 2 ^ (7 * i) := Nat.mul_le_mul_right _ (by omega)
  have h2 : bits .and .u8 (c : Int) 127 * 2 ^ (7 * i) = ((c % 128 * 2 ^ (7 * i) : Nat) : Int) := by rw [h1, Int.natCast_mul, Int.natCast_pow]; rfl
  have h3 : wrap64 (wrap64 (bits .and .u8 (c : Int) 127) * 2 ^ (7 * i)) = ((c % 128 * 2 ^ (7 * i) : Nat) : Int) := by
    rw [IntWalk.wrap64_in (bits .and .u8 (c : Int) 127) (by rw [h1]; omega), h2]; exact IntWalk.wrap64_in _ (by omega)
  rw [h3, i64_or_nat _ _ (by omega) (by omega), Nat.or_comm, nat_join (7 * i) _ _ (by rw [Nat.mul_mod_left]) hn, Nat.add_comm]
theorem and_128 (c : Nat) (hc : c < 256) : bits .and .u8 (c : Int) 128 = if c < 128 then 0 else 128 := by
  have h := u8_and_nat c 128 hc (by decide)
  refine h.trans ?_
  have h2 := nat_bit 7 c
  rw [show (2 ^ 7 : Nat) = 128 from rfl] at h2
  rw [h2]
  split <;> omega

set_option maxHeartbeats 2000000 in
theorem more_any (a : Option Addr) (r : List UInt8) (cap : Nat) (w : World) (hl : r.length ≤ 9223372036854775807) (hr : RB w a r) :
    Calls Tryd.prog 91 #[.slice a r.length cap] w fun e w' => e = .returned (.tuple #[.int .i64 (moF 5 r 0 0).1, .int .i64 (moF 5 r 0 0).2.1, .int .i64 (moF 5 r 0 0).2.2]) ∧ w = w' := by
  have HR : Hid (moF 5 (r.drop 0) 0 0 = moF 5 r 0 0) := rfl
  generalize moF 5 r 0 0 = R at HR ⊢
  have HRB := Lib.hid hr
  clear hr
  go_enter Tryd.func91, Tryd.ntmps91
  go_wp2_with fail
  go_loop [5, 7] (fun vn vi => ∃ (i f n : Nat), i + f = 5 ∧ i ≤ r.length ∧ vi = .int .i64 i ∧ vn = .int .i64 n ∧ n < 34359738368 ∧ Hid (n < 2 ^ (7 * i)) ∧ Hid (moF f (r.drop i) i n = R)) (fun _ vi => 5 - (intOf vi).toNat)
  case atStart => exact ⟨0, 5, 0, by omega, by omega, rfl, rfl, by omega, Lib.hid (by decide), HR⟩
  case round =>
    clear HR
    obtain ⟨i, f, n, hif, hil, rfl, rfl, hn, HN, HF⟩ := hrel
    by_cases hlt : i < 5
    · obtain ⟨f, rfl⟩ : ∃ x, f = x + 1 := ⟨f - 1, by omega⟩
      by_cases hend : i < r.length
      · have hend' : ((i : Int) == r.length) = false := beq_eq_false_iff_ne.mpr (by omega)
        obtain ⟨b, off, ha, hc⟩ : ∃ b off, a = some ⟨b, off, none⟩ ∧ ∀ i, (h : i < r.length) → w.cell? ⟨b, off + i, none⟩ = some (.int .u8 (r[i].toNat : Int)) := by
          rcases HRB.out with h | h
          · rw [h] at hend; simp at hend
          · exact h
        subst ha
        have hcell := hc i hend
        have hcb := r[i].toNat_lt
        have HF1 : Hid (moF (f + 1) (r[i] :: r.drop (i + 1)) i n = R) := Lib.hid (by rw [← List.drop_eq_getElem_cons hend]; exact HF.out)
        have HF2 := HF1
        rw [moF_cons] at HF2
        have HOr := Lib.hid (or_more n r[i].toNat i (by omega) HN.out hcb)
        have hq : n + r[i].toNat % 128 * 2 ^ (7 * i) < 2 ^ (7 * (i + 1)) := by
          have hp : 2 ^ (7 * (i + 1)) = 2 ^ (7 * i) * 128 := by rw [show 7 * (i + 1) = 7 * i + 7 from by omega, Nat.pow_add]
          have hm : r[i].toNat % 128 * 2 ^ (7 * i) ≤ 127 * 2 ^ (7 * i) := Nat.mul_le_mul_right _ (by omega)
          have hn := HN.out
          omega
        have hq2 : n + r[i].toNat % 128 * 2 ^ (7 * i) < 34359738368 := Nat.lt_of_lt_of_le hq (by
          have h5 : 2 ^ (7 * (i + 1)) ≤ 2 ^ 35 := Nat.pow_le_pow_right (by decide) (by omega)
          exact h5)
        have HQ := Lib.hid hq
        have hAnd := and_128 r[i].toNat hcb
        clear hq HF HF1 HN hc
        generalize r[i].toNat = c at *
        generalize n + c % 128 * 2 ^ (7 * i) = m at *
        by_cases hc : c < 128
        · rw [if_pos hc] at HF2 hAnd
          have hz : (bits .and .u8 (c : Int) 128 == 0) = true := by rw [hAnd]; rfl
          have hR : R = (m, i + 1, 0) := HF2.out.symm
          subst hR
          clear HF2 hAnd
          go_wp2_with fail
          go_ret3
          exact ⟨ret_int3 HOr.out (by omega) rfl, rfl⟩
        · rw [if_neg hc] at HF2 hAnd
          have hz : (bits .and .u8 (c : Int) 128 == 0) = false := by rw [hAnd]; rfl
          clear hAnd
          go_wp2_with fail
          go_round
          case rel => exact ⟨i + 1, f, m, by omega, by omega, by go_num, by rw [HOr.out], hq2, HQ, HF2⟩
          case measure => first | (simp [intOf]; done) | (simp [intOf]; omega)
      · have hie : i = r.length := by omega
        have hR : R = (0, 0, 12) := by rw [← HF.out, List.drop_of_length_le (by omega)]; rfl
        subst hR
        subst hie
        clear HF HN hend
        go_wp2_with fail
        go_ret3
        exact ⟨rfl, rfl⟩
    · have hlt' : ¬ (i : Int) < 5 := by omega
      have hR : R = (0, 0, 11) := by
        have hf0 : f = 0 := by omega
        rw [← HF.out, hf0]; rfl
      subst hR
      clear HF HN
      go_wp2_with fail
      go_ret3
      exact ⟨rfl, rfl⟩

end Go.Proofs.YtdkgachgohilcaaDoor
