/- The contracts of huff.Size and huff.Encode. -/
import Derived.Test.YtabpoejimnoamaaDoorRows
import Derived.Test.YtabpoejimnoamaaDoorHufTree
import Derived.Test.YtabpoejimnoamaaDoorMem
import Derived.Test.YtabpoejimnoamaaDoorHuf1
import Derived.Test.YtabpoejimnoamaaDoorGen
import Derived.WalkKit
import Derived.WalkSpells
import Derived.WalkLawsBesides
import Derived.Lib.Hide
import Derived.Outline
import Derived.Laws.BitsAllLaws
import Derived.RegionTactic
import Derived.IntWalk
import Derived.Deep.RegionLaw
import Derived.Deep.AppendLies
namespace Go.Proofs.YtabpoejimnoamaaDoor
open Go.RowKit
open Huf Mem Gen
set_option linter.unusedVariables false


set_option maxHeartbeats 1000000 in
theorem size_any (s : ByteArray) (w : World) (hs : s.size ≤ 140737488351232) (hg : GrpIs w) :
    Calls Tryd.prog 14 #[.string s] w fun e w' => e = .returned (.int .i64 (sizeV s.data.toList)) ∧ Below w.heap.size w w' := by
  have HG := Lib.hid hg
  clear hg
  generalize hR : blen s.data.toList = R
  have HR := Lib.hid hR
  have hRb : R ≤ 30 * s.size := by rw [← hR, ← list_len]; exact (blen_bd _).2
  have HV : Hid (sizeV s.data.toList = (R + 7) / 8) := Lib.hid (by rw [sizeV, hR])
  clear hR
  go_enter Tryd.func14, Tryd.ntmps14
  go_wp2_with fail
  go_loopw [3, 9] (fun v i wr => ∃ (k b : Nat), k ≤ s.size ∧ i = .int .i64 k ∧ v = .int .i64 b ∧ b ≤ R ∧ Hid (b + blen (s.data.toList.drop k) = R) ∧ Below w.heap.size w wr) (fun _ i _ => s.size - (intOf i).toNat)
  case atStart => exact ⟨0, 0, by omega, rfl, rfl, by omega, Lib.hid (by simpa using HR.out), Below.refl _ _⟩
  case round =>
    obtain ⟨k, b, hk, rfl, rfl, hb, HF, hbel⟩ := hrel
    by_cases hlt : k < s.size
    · have hbd := byte_bd s k hlt
      have HC := Lib.hid (code_any s[k].toNat wr (by omega) (HG.out.below hbel))
      have hl := len_all s[k].toNat (by omega)
      have HF' : Hid (b + len s[k].toNat + blen (s.data.toList.drop (k + 1)) = R) := Lib.hid (by
        have h := HF.out
        rw [drop_cons s k hlt, blen] at h; omega)
      have hb' : b + len s[k].toNat ≤ R := by have := HF'.out; omega
      clear HF
      go_wp2_with fail
      refine HC.out.mono ?_; rintro e w1 ⟨rfl, hb1⟩
      replace hb1 := below_step hbel hb1
      go_wp2_with fail
      go_roundw
      case rel => exact ⟨k + 1, b + len s[k].toNat, by omega, by go_num, by go_num, hb', HF', hb1⟩
      case measure => simp [intOf]; omega
    · have hbR : b = R := by
        have h := HF.out
        rw [drop_end s k (by omega), blen] at h; omega
      subst hbR
      clear HF HR
      go_wp2_with fail
      go_ret
      exact ⟨ret_int (by rw [HV.out]; omega), hbel⟩

theorem ff_shr : ∀ m : Nat, m < 9 → 0 < m → ((255 : Int) / 2 ^ m) = ((2 ^ (8 - m) - 1 : Nat) : Int) := by decide
theorem last_byte (v m q : Nat) (hm : 0 < m) (h : m + q = 8) : bits .or .u8 (IntKind.u8.wrap (IntKind.u64.wrap ((v : Int) * 2 ^ q))) (255 / 2 ^ m) = ((UInt8.ofNat (v % 2 ^ m * 2 ^ (8 - m) + (2 ^ (8 - m) - 1))).toNat : Int) := by
  have hq : 8 - m = q := by omega
  rw [hq]
  have h1 : IntKind.u8.wrap (IntKind.u64.wrap ((v : Int) * 2 ^ q)) = ((v % 2 ^ m * 2 ^ q : Nat) : Int) := by
    have h3 : v * 2 ^ q % 2 ^ 64 % 256 = v % 2 ^ m * 2 ^ q := by
      rw [Nat.mod_mod_of_dvd _ (by decide)]
      have := Nat.mul_mod_mul_right (2 ^ q) v (2 ^ m)
      rwa [← Nat.pow_add, h] at this
    rw [← h3, IntKind.wrap_u64, IntKind.wrap_u8', Int.natCast_emod, Int.natCast_emod, Int.natCast_mul, Int.natCast_pow]; rfl
  have h2 : (255 / 2 ^ m : Int) = ((2 ^ q - 1 : Nat) : Int) := by rw [ff_shr m (by omega) hm, hq]
  have h4 : v % 2 ^ m * 2 ^ q + 2 ^ q ≤ 256 := by
    have h5 : v % 2 ^ m < 2 ^ m := Nat.mod_lt _ (Nat.two_pow_pos _)
    have h6 : (v % 2 ^ m + 1) * 2 ^ q ≤ 2 ^ m * 2 ^ q := Nat.mul_le_mul_right _ h5
    rw [← Nat.pow_add, h, Nat.add_mul, Nat.one_mul] at h6
    exact h6
  have hp := Nat.two_pow_pos q
  have h7 : v % 2 ^ m * 2 ^ q + (2 ^ q - 1) < 256 := by omega
  rw [h1, h2, u8_or_nat _ _ (by omega) (by omega), nat_or_join _ _ _ (by omega), UInt8.toNat_ofNat', Nat.mod_eq_of_lt (show _ < 2 ^ 8 from h7)]
theorem or_join (v L c : Nat) (h : c < 2 ^ L) (hL : L ≤ 30) : bits .or .u64 (IntKind.u64.wrap ((v : Int) * 2 ^ L)) (c : Int) = (((v * 2 ^ L + c) % 2 ^ 64 : Nat) : Int) := by
  have hc : c < 2 ^ 64 := Nat.lt_of_lt_of_le h (Nat.pow_le_pow_right (by omega) (by omega))
  have h1 : IntKind.u64.wrap ((v : Int) * 2 ^ L) = ((v * 2 ^ L % 2 ^ 64 : Nat) : Int) := by
    rw [IntKind.wrap_u64, Int.natCast_emod, Int.natCast_mul, Int.natCast_pow]; rfl
  have h3 : v * 2 ^ L % 2 ^ 64 = v % 2 ^ (64 - L) * 2 ^ L := by
    have := Nat.mul_mod_mul_right (2 ^ L) v (2 ^ (64 - L))
    rwa [← Nat.pow_add, show 64 - L + L = 64 from by omega] at this
  rw [h1, u64_or_nat _ _ (Nat.mod_lt _ (by decide)) hc, h3, nat_or_join _ _ _ h]
  congr 1
  have h4 : v % 2 ^ (64 - L) * 2 ^ L + c < 2 ^ 64 := by
    have h5 : v % 2 ^ (64 - L) < 2 ^ (64 - L) := Nat.mod_lt _ (Nat.two_pow_pos _)
    have h6 : (v % 2 ^ (64 - L) + 1) * 2 ^ L ≤ 2 ^ (64 - L) * 2 ^ L := Nat.mul_le_mul_right _ h5
    rw [← Nat.pow_add, show 64 - L + L = 64 from by omega, Nat.add_mul, Nat.one_mul] at h6
    omega
  rw [← h3, Nat.add_mod, Nat.mod_eq_of_lt hc, h3, Nat.mod_eq_of_lt h4]

set_option maxHeartbeats 2000000 in
theorem encode_any (s : ByteArray) (w : World) (hs : s.size ≤ 1048576) (hg : GrpIs w) :
    Calls Tryd.prog 16 #[.string s] w (MadeB w (enc s.data.toList)) := by
  obtain ⟨i0, hi, hz0, hz1, hz2⟩ := info_parts info_u8
  have HG := Lib.hid hg
  have HI := Lib.hid hi
  have HZ0 := Lib.hid hz0
  have HZ1 := Lib.hid hz1
  have HZ2 := Lib.hid hz2
  clear hg hi hz0 hz1 hz2
  have hsz : sizeV s.data.toList ≤ 30 * s.size + 7 := by have := (blen_bd s.data.toList).2; rw [list_len] at this; unfold sizeV; omega
  generalize hR : enc s.data.toList = R
  have HR := Lib.hid hR
  have hRl : R.length ≤ 30 * s.size + 7 := by rw [← hR, enc_length]; exact hsz
  clear hR
  have HS := Lib.hid (size_any s w (by omega) HG.out)
  generalize sizeV s.data.toList = c at hsz HS
  go_enter Tryd.func16, Tryd.ntmps16
  go_wp2_with fail
  refine HS.out.mono ?_; rintro e w1 ⟨rfl, hb1⟩
  obtain ⟨w2, hmk, hown, hgrow⟩ := run_make_own (P := Tryd.prog) w1 w.heap.size 22 5 i0 (.int .u8 0) 1 Tryd.underlying22 HI.out HZ0.out HZ1.out .i64 .i64 c (by rw [HZ2.out]; omega) (by unfold maxLen; omega) hb1.size
  have Hown := Lib.hid hown
  have hb2 : Below w.heap.size w w2 := hb1.grown hgrow hb1.size (by simp)
  clear hown hgrow
  go_wp2_with fail
  go_loopw [3, 4, 5, 14] (fun b wt n i wr => ∃ (k wv m : Nat) (ad : Option Addr) (cap : Nat) (E : List UInt8), k ≤ s.size ∧ i = .int .i64 k ∧ wt = .int .u64 wv ∧ wv < 18446744073709551616 ∧ n = .int .i64 m ∧ m < 8 ∧ b = .slice ad E.length cap ∧ Hid (E ++ packF (bitsN wv m ++ bitsT (s.data.toList.drop k)) 0 0 = R) ∧ Hid (wr.ownsRow w.heap.size 5 1 (.slice ad E.length cap) E.length (bvs E)) ∧ Below w.heap.size w wr) (fun _ _ _ i _ => s.size - (intOf i).toNat)
  case atStart => exact ⟨0, 0, 0, _, c, [], by omega, rfl, rfl, by omega, rfl, by omega, rfl, Lib.hid (by simpa [bitsN, enc] using HR.out), Hown, hb2⟩
  case round =>
    obtain ⟨k, wv, m, ad, cap, E, hk, rfl, rfl, hwv, rfl, hm, rfl, HF, HO, hbel⟩ := hrel
    by_cases hlt : k < s.size
    · have hbd := byte_bd s k hlt
      have HC := Lib.hid (code_any s[k].toNat wr (by omega) (HG.out.below hbel))
      have hl := len_all s[k].toNat (by omega)
      have hc := (code_all s[k].toNat (by omega)).2
      have hc1 := Lib.hid (code_all s[k].toNat (by omega)).1
      have Hd := Lib.hid (drop_cons s k hlt)
      obtain ⟨W, hor, HW⟩ : ∃ W : Nat, bits .or .u64 (IntKind.u64.wrap ((wv : Int) * 2 ^ len s[k].toNat)) (code s[k].toNat : Int) = (W : Int) ∧ Hid (W < 18446744073709551616 ∧ bitsN W (m + len s[k].toNat) = bitsN wv m ++ cb s[k].toNat) :=
        ⟨_, or_join wv _ _ hc1.out hl.2, Lib.hid ⟨Nat.mod_lt _ (by decide), by rw [bitsN_mod _ _ _ (by omega), bitsN_join _ _ _ hc1.out, cb]⟩⟩
      have HF' : Hid (E ++ packF (bitsN W (m + len s[k].toNat) ++ bitsT (s.data.toList.drop (k + 1))) 0 0 = R) := Lib.hid (by
        rw [HW.out.2, List.append_assoc, ← bitsT_cons, ← Hd.out]; exact HF.out)
      have hW := HW.out.1
      clear HF HW
      go_wp2_with fail
      refine HC.out.mono ?_; rintro e w3 ⟨rfl, hb3⟩
      have HO3 : Hid (w3.ownsRow w.heap.size 5 1 (.slice ad E.length cap) E.length (bvs E)) := Lib.hid (own_below HO.out hb3)
      replace hb3 := below_step hbel hb3
      generalize len s[k].toNat = L at hl hc1 HF' hor
      go_wp2_with fail
      go_loopw [3, 5] (fun b n wx => ∃ (m : Nat) (ad : Option Addr) (cap : Nat) (E : List UInt8), n = .int .i64 m ∧ m ≤ 37 ∧ b = .slice ad E.length cap ∧ Hid (E ++ packF (bitsN W m ++ bitsT (s.data.toList.drop (k + 1))) 0 0 = R) ∧ Hid (wx.ownsRow w.heap.size 5 1 (.slice ad E.length cap) E.length (bvs E)) ∧ Below w.heap.size w wx) (fun _ n _ => (intOf n).toNat)
      case atStart => exact ⟨m + L, ad, cap, E, by go_num, by omega, rfl, HF', HO3, hb3⟩
      case round =>
        obtain ⟨m1, ad1, cap1, E1, rfl, hm1, rfl, HF1, HO1, hbel1⟩ := hrel
        by_cases h8 : 8 ≤ m1
        · have HU : Hid ((W : Int) / 2 ^ (m1 - 8) % 256 = ((UInt8.ofNat (W / 2 ^ (m1 - 8) % 256)).toNat : Int)) := Lib.hid (by rw [← byte_of, Int.natCast_emod, Int.natCast_ediv, Int.natCast_pow]; rfl)
          have HF2 : Hid ((E1 ++ [UInt8.ofNat (W / 2 ^ (m1 - 8) % 256)]) ++ packF (bitsN W (m1 - 8) ++ bitsT (s.data.toList.drop (k + 1))) 0 0 = R) := Lib.hid (by
            rw [← HF1.out, packF_eight _ _ _ h8]; simp)
          have HL : Hid (E1.length + 1 ≤ 140737488355328) := Lib.hid (by have := congrArg List.length HF1.out; rw [List.length_append] at this; omega)
          have HB := Lib.hid hbel1.size
          clear HF1
          go_wp2_with (at_builtin; refine append_byte Tryd.underlying22 HI.out HZ0.out HZ1.out HZ2.out rfl _ _ rfl w.heap.size (.slice ad1 E1.length cap1) E1 (UInt8.ofNat (W / 2 ^ (m1 - 8) % 256)) _ HU.out rfl HO1.out rfl HL.out HB.out ?_; intro v1 w4 hown4 hb4)
          go_roundw
          case rel =>
            obtain ⟨ad4, cap4, rfl⟩ := own_form hown4.out
            exact ⟨m1 - 8, ad4, cap4, E1 ++ [UInt8.ofNat (W / 2 ^ (m1 - 8) % 256)], by go_num, by omega, by rw [List.length_append]; rfl, HF2, Lib.hid (by rw [List.length_append]; exact hown4.out), hb4 _ _ hbel1 (Nat.le_refl _)⟩
          case measure => simp [intOf]; omega
        · go_wp2_with fail
          go_roundw
          case rel => exact ⟨k + 1, W, m1, ad1, cap1, E1, by omega, by go_num, rfl, hW, rfl, by omega, rfl, HF1, HO1, hbel1⟩
          case measure => simp [intOf]; omega
    · have hke : s.data.toList.drop k = [] := drop_end s k (by omega)
      have HF' : Hid (E ++ packF (bitsN wv m) 0 0 = R) := Lib.hid (by
        have h := HF.out
        rw [hke] at h
        simpa [bitsT] using h)
      clear HF hke
      by_cases hm0 : 0 < m
      · go_wp2_with fail
        obtain ⟨q, hq⟩ : ∃ q : Nat, (8 : Int) - m = q := ⟨8 - m, by omega⟩
        have hq1 : IntKind.i64.wrap (q : Int) = (q : Int) := IntWalk.i64_in _ (by omega)
        have hq2 : (0 : Int) ≤ q := by omega
        have hq3 : (0 : Int) ≤ m := by omega
        have HL : Hid (E.length + 1 ≤ 140737488355328) := Lib.hid (by have := congrArg List.length HF'.out; rw [List.length_append] at this; omega)
        have HV : Hid (bits .or .u8 (IntKind.u8.wrap (IntKind.u64.wrap ((wv : Int) * 2 ^ q))) (255 / 2 ^ m) = ((UInt8.ofNat (wv % 2 ^ m * 2 ^ (8 - m) + (2 ^ (8 - m) - 1))).toNat : Int)) := Lib.hid (last_byte wv m q hm0 (by omega))
        have HO5 : Hid (∀ x, ((wr.alloc (.cells #[.int .u8 x] 5)).drew).ownsRow w.heap.size 5 1 (.slice ad E.length cap) E.length (bvs E)) := Lib.hid (fun x => HO.out.alloc _)
        have HC5 : Hid (((wr.alloc (.cells #[.int .u8 (bits .or .u8 (IntKind.u8.wrap (IntKind.u64.wrap ((wv : Int) * 2 ^ q))) (255 / 2 ^ m))] 5)).drew).cell? ⟨wr.heap.size, 0, none⟩ = some (.int .u8 ((UInt8.ofNat (wv % 2 ^ m * 2 ^ (8 - m) + (2 ^ (8 - m) - 1))).toNat : Int))) := Lib.hid (by
          rw [HV.out]; exact cell_drew_alloc _ _ _)
        have HB5 : Hid (∀ o, w.heap.size ≤ ((wr.alloc o).drew).heap.size) := Lib.hid (fun o => by show _ ≤ (wr.heap.push o).size; rw [Array.size_push]; have := hbel.size; omega)
        have HBel5 : Hid (∀ o, Below w.heap.size w ((wr.alloc o).drew)) := Lib.hid (fun o => by have := hbel.alloc hbel.size o; exact ⟨this.os, this.tape, this.output, this.size, this.block⟩)
        go_region_law (refine step_append_byte Tryd.underlying22 HI.out HZ0.out HZ1.out HZ2.out rfl (.tmp 48) (.tmp 57) rfl w.heap.size (.slice ad E.length cap) E (UInt8.ofNat (wv % 2 ^ m * 2 ^ (8 - m) + (2 ^ (8 - m) - 1))) rfl wr.heap.size (HO5.out _) rfl HC5.out HL.out (HB5.out _) ?_; intro v1 w4 hown4 hb4)
        have hR : E ++ [UInt8.ofNat (wv % 2 ^ m * 2 ^ (8 - m) + (2 ^ (8 - m) - 1))] = R := by
          rw [← HF'.out, packF_rest _ _ hm hm0]
        have hLR : E.length + 1 = R.length := by rw [← hR, List.length_append]; rfl
        obtain ⟨ad4, cap4, rfl⟩ := own_form hown4.out
        have HR2 := Lib.hid hR
        have HLR := Lib.hid hLR
        clear hR hLR HF' HR
        go_wp2
        go_ret
        refine ⟨ad4, cap4, by rw [HLR.out]; rfl, ?_, hb4 _ _ (HBel5.out _) (Nat.le_refl _)⟩
        have h := hown4.out
        rw [HLR.out, HR2.out] at h
        exact Lib.hid h
      · have hm00 : m = 0 := by omega
        subst hm00
        have hE : E = R := by have h := HF'.out; simpa [bitsN, packF] using h
        subst hE
        clear HF' HR
        go_wp2_with fail
        go_ret
        exact ⟨ad, cap, rfl, HO, hbel⟩
end Go.Proofs.YtabpoejimnoamaaDoor
