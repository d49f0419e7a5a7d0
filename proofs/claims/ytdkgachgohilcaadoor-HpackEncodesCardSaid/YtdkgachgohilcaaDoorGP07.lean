/- The contracts of layer 2's codes: a symbol's place, the code at a place, the place of a code. The contracts of huff.Size and huff.Encode. The contract of huff.Decode. The contract of layer 3's program: TakeInt. -/
import Derived.Test.YtdkgachgohilcaaDoorRows
import Derived.Test.YtdkgachgohilcaaDoorShelf
import Derived.Test.YtdkgachgohilcaaDoorGP04
import Derived.Test.YtdkgachgohilcaaDoorGP01
import Derived.Test.YtdkgachgohilcaaDoorGP03
import Derived.WalkKit
import Derived.WalkSpells
import Derived.WalkLawsBesides
import Derived.Lib.Hide
import Derived.Outline
import Derived.Great.BuildSlice
import Derived.Laws.BitsAllLaws
import Derived.RegionTactic
import Derived.IntWalk
import Derived.Deep.RegionLaw
import Derived.Deep.AppendLies
import Derived.Test.YtdkgachgohilcaaDoorGP05
import Derived.Test.YtdkgachgohilcaaDoorGP02
import Derived.Test.YtdkgachgohilcaaDoorGP06
import Derived.Deep.QuietTactic
set_option linter.unusedVariables false
set_option linter.unusedSimpArgs false
namespace Go.Proofs.YtdkgachgohilcaaDoor
open Go.RowKit
open Huf Mem Gen
set_option linter.unusedVariables false

/-- What the table of groups holds, cell by cell. -/
def gcell (j : Nat) : Value := if j % 3 = 1 then .int .u32 (grpL.getD j 0 : Nat) else .int .i64 (grpL.getD j 0 : Nat)
def GrpIs (w : World) : Prop := ∀ j, j < 93 → w.cell? ⟨0, j, none⟩ = some (gcell j)
theorem GrpIs.below {w w' : World} (h : GrpIs w) (hb : Below w.heap.size w w') : GrpIs w' := fun j hj => below_cell hb (h j hj)
theorem GrpIs.at {w : World} (h : GrpIs w) (n : Nat) (hn : n < 31) :
    w.cell? ⟨0, n * 3, none⟩ = some (.int .i64 (gC n : Nat)) ∧ w.cell? ⟨0, n * 3 + 1, none⟩ = some (.int .u32 (gK n : Nat)) ∧ w.cell? ⟨0, n * 3 + 2, none⟩ = some (.int .i64 (gP n : Nat)) := by
  refine ⟨?_, ?_, ?_⟩
  · rw [h _ (by omega), gcell, if_neg (by omega), gC, Nat.mul_comm]
  · rw [h _ (by omega), gcell, if_pos (by omega), gK, Nat.mul_comm]
  · rw [h _ (by omega), gcell, if_neg (by omega), gP, Nat.mul_comm]

set_option maxHeartbeats 400000 in
theorem placeOf_end (w : World) :
    Calls Tryd.prog 110 #[.int .i64 256] w fun e w' => e = .returned (.int .i64 256) ∧ w = w' := by
  go_enter Tryd.func110, Tryd.ntmps110
  go_wp2
  go_ret
  exact ⟨rfl, rfl⟩

set_option maxRecDepth 100000 in
set_option maxHeartbeats 1000000 in
theorem placeOf_byte (c : Nat) (w : World) (hc : c < 256) :
    Calls Tryd.prog 110 #[.int .i64 c] w fun e w' => e = .returned (.int .i64 (plc c)) ∧ w = w' := by
  have hne : ((c : Int) == 256) = false := by simp; omega
  have h0 : (0 : Int) ≤ c := by omega
  have h1 : (c : Int) ≤ 255 := by omega
  have HP := Lib.hid (plc_eq c hc)
  go_enter Tryd.func110, Tryd.ntmps110
  go_wp2_with fail
  refine (Tryd.strings_IndexByte _ _ _).mono ?_; rintro e w' ⟨rfl, hw⟩; subst hw
  go_wp2_with fail
  go_ret
  exact ⟨ret_int HP.out, rfl⟩

theorem placeOf_any (c : Nat) (w : World) (hc : c < 257) :
    Calls Tryd.prog 110 #[.int .i64 c] w fun e w' => e = .returned (.int .i64 (plc c)) ∧ w = w' := by
  by_cases h : c = 256
  · subst h; exact placeOf_end w
  · exact placeOf_byte c w (by omega)

set_option maxRecDepth 100000 in
set_option maxHeartbeats 1000000 in
theorem codeAt_any (p : Nat) (w : World) (hp : p < 257) (hg : GrpIs w) :
    Calls Tryd.prog 109 #[.int .i64 p] w fun e w' => e = .returned (.tuple #[.int .u32 (caF 31 0 p).1, .int .i64 (caF 31 0 p).2]) ∧ Below w.heap.size w w' := by
  generalize hR : caF 31 0 p = R
  have HR := Lib.hid hR
  have HG := Lib.hid hg
  clear hR hg
  go_enter Tryd.func109, Tryd.ntmps109
  go_wp2
  go_loopw [4, 6] (fun _ i wr => ∃ k : Nat, k ≤ 31 ∧ i = .int .i64 k ∧ Hid (caF (31 - k) k p = R) ∧ Below w.heap.size w wr) (fun _ i _ => 31 - (intOf i).toNat)
  case atStart => exact ⟨0, by omega, rfl, HR, Below.refl _ _⟩
  case round =>
    obtain ⟨k, hk, rfl, HF, hbel⟩ := hrel
    by_cases hlt : k < 31
    · obtain ⟨c0, c1, c2⟩ := (HG.out.below hbel).at k hlt
      obtain ⟨b0, b1, b2⟩ := grp_bd k hlt
      have HY : Hid ((p : Int) < gP k + gC k → R = (((gK k : Int) + ((p : Int) - gP k)) % 4294967296, (k : Int))) := Lib.hid (fun h => by
        rw [← HF.out, show 31 - k = (31 - (k + 1)) + 1 from by omega, caF, if_pos h])
      have HN : Hid (¬ (p : Int) < gP k + gC k → caF (31 - (k + 1)) (k + 1) p = R) := Lib.hid (fun h => by
        rw [← HF.out, show 31 - k = (31 - (k + 1)) + 1 from by omega, caF, if_neg h])
      clear HF
      go_wp2_with fail
      · go_ret2
        have h : (p : Int) < gP k + gC k := by assumption
        refine ⟨?_, hbel.alloc hbel.size _⟩
        have hy := HY.out h
        exact ret_int2 (by rw [hy]) (by rw [hy])
      · go_roundw
        have h : ¬ (p : Int) < gP k + gC k := by omega
        case rel => exact ⟨k + 1, by omega, by go_num, Lib.hid (HN.out h), hbel.alloc hbel.size _⟩
        case measure => simp [intOf]; omega
    · have hr : R = (0, 0) := by
        rw [← HF.out, show 31 - k = 0 from by omega, caF]
      subst hr
      clear HF HR
      go_wp2_with fail
      go_ret2
      exact ⟨rfl, hbel⟩

set_option maxHeartbeats 1000000 in
theorem code_any (c : Nat) (w : World) (hc : c < 257) (hg : GrpIs w) :
    Calls Tryd.prog 108 #[.int .i64 c] w fun e w' => e = .returned (.tuple #[.int .u32 (code c), .int .i64 (len c)]) ∧ Below w.heap.size w w' := by
  have hC := codeAt_any (plc c) w (plc_bd c hc) hg
  rw [caF_code c hc] at hC
  have HC := Lib.hid hC
  have h0 : (0 : Int) ≤ c := by omega
  have h1 : (c : Int) ≤ 256 := by omega
  clear hC hg
  go_enter Tryd.func108, Tryd.ntmps108
  go_wp2_with fail
  refine (placeOf_any c _ hc).mono ?_; rintro e w' ⟨rfl, rfl⟩
  go_wp2_with fail
  refine HC.out.mono ?_; rintro e w1 ⟨rfl, hb⟩
  go_wp2_with fail
  go_ret2
  exact ⟨rfl, hb⟩

set_option maxHeartbeats 1000000 in
theorem code_none (c : Int) (w : World) (hc : c < 0 ∨ 256 < c) :
    Calls Tryd.prog 108 #[.int .i64 c] w fun e w' => e = .returned (.tuple #[.int .u32 0, .int .i64 0]) ∧ w = w' := by
  by_cases h : c < 0
  · clear hc
    go_enter Tryd.func108, Tryd.ntmps108
    go_wp2_with fail
    go_ret2
    exact ⟨rfl, rfl⟩
  · have h1 : 256 < c := by omega
    clear hc
    go_enter Tryd.func108, Tryd.ntmps108
    go_wp2_with fail
    go_ret2
    exact ⟨rfl, rfl⟩

theorem poc_some {v n p : Nat} (h : poc v n = some p) : gK n ≤ v ∧ v - gK n < gC n ∧ p = gP n + (v - gK n) := by
  rw [poc] at h
  split at h
  · simp only [Option.some.injEq] at h; exact ⟨by omega, by omega, h.symm⟩
  · cases h
theorem poc_none {v n : Nat} (h : poc v n = none) : v < gK n ∨ gC n ≤ v - gK n := by
  rw [poc] at h
  split at h
  · cases h
  · omega

set_option maxHeartbeats 1000000 in
theorem poc_yes (v n p : Nat) (w : World) (hn : n < 31) (hv : v < 1073741824) (hp : poc v n = some p) (hg : GrpIs w) :
    Calls Tryd.prog 104 #[.int .u32 v, .int .i64 n] w fun e w' => e = .returned (.tuple #[.int .i64 p, .bool true]) ∧ Below w.heap.size w w' := by
  obtain ⟨c0, c1, c2⟩ := hg.at n hn
  obtain ⟨b0, b1, b2⟩ := grp_bd n hn
  obtain ⟨h1, h2, h3⟩ := poc_some hp
  have H3 := Lib.hid h3
  have q0 : ¬ ((v : Int) - gK n < 0) := by omega
  have q1 : decide ((gC n : Int) ≤ (v : Int) - gK n) = false := by simp; omega
  clear hp hg h3
  go_enter Tryd.func104, Tryd.ntmps104
  go_wp2_with fail
  go_ret2
  exact ⟨ret_intv (by rw [H3.out]; omega), (Below.refl _ _).alloc (Nat.le_refl _) _⟩

set_option maxHeartbeats 1000000 in
theorem poc_no (v n : Nat) (w : World) (hn : n < 31) (hv : v < 1073741824) (hp : poc v n = none) (hg : GrpIs w) :
    Calls Tryd.prog 104 #[.int .u32 v, .int .i64 n] w fun e w' => e = .returned (.tuple #[.int .i64 0, .bool false]) ∧ Below w.heap.size w w' := by
  obtain ⟨c0, c1, c2⟩ := hg.at n hn
  obtain ⟨b0, b1, b2⟩ := grp_bd n hn
  have h := poc_none hp
  clear hp hg
  by_cases h0 : (v : Int) - gK n < 0
  · clear h
    go_enter Tryd.func104, Tryd.ntmps104
    go_wp2_with fail
    go_ret2
    exact ⟨rfl, (Below.refl _ _).alloc (Nat.le_refl _) _⟩
  · have h1 : decide ((gC n : Int) ≤ (v : Int) - gK n) = true := by simp; omega
    clear h
    go_enter Tryd.func104, Tryd.ntmps104
    go_wp2_with fail
    go_ret2
    exact ⟨rfl, (Below.refl _ _).alloc (Nat.le_refl _) _⟩
end Go.Proofs.YtdkgachgohilcaaDoor

namespace Go.Proofs.YtdkgachgohilcaaDoor
open Go.RowKit
open Huf Mem Gen
set_option linter.unusedVariables false
set_option maxRecDepth 100000


set_option maxHeartbeats 1000000 in
theorem size_any (s : ByteArray) (w : World) (hs : s.size ≤ 140737488351232) (hg : GrpIs w) :
    Calls Tryd.prog 106 #[.string s] w fun e w' => e = .returned (.int .i64 (sizeV s.data.toList)) ∧ Below w.heap.size w w' := by
  have HG := Lib.hid hg
  clear hg
  generalize hR : blen s.data.toList = R
  have HR := Lib.hid hR
  have hRb : R ≤ 30 * s.size := by rw [← hR, ← list_len]; exact (blen_bd _).2
  have HV : Hid (sizeV s.data.toList = (R + 7) / 8) := Lib.hid (by rw [sizeV, hR])
  clear hR
  go_enter Tryd.func106, Tryd.ntmps106
  go_wp2_with fail
  go_loopw [3, 9] (fun v i wr => ∃ (k b : Nat), k ≤ s.size ∧ i = .int .i64 k ∧ v = .int .i64 b ∧ b ≤ R ∧ Hid (b + blen (s.data.toList.drop k) = R) ∧ Below w.heap.size w wr) (fun _ i _ => s.size - (intOf i).toNat)
  case atStart => exact ⟨0, 0, by omega, rfl, rfl, by omega, Lib.hid (by simpa using HR.out), Below.refl _ _⟩
  case round =>
    obtain ⟨k, b, hk, rfl, rfl, hb, HF, hbel⟩ := hrel
    by_cases hlt : k < s.size
    · have hbd := byte_bd s k hlt
      have HC := Lib.hid (code_any s[k].toNat wr (by omega) (HG.out.below hbel))
      have hl := len_all s[k].toNat (by omega)
      have HF' : Hid (b + len s[k].toNat + blen (s.data.toList.drop (k + 1)) = R) := Lib.hid (by
        have h := HF.out
        rw [drop_cons s k hlt, blen] at h; omega)
      have hb' : b + len s[k].toNat ≤ R := by have := HF'.out; omega
      clear HF
      go_wp2_with fail
      refine HC.out.mono ?_; rintro e w1 ⟨rfl, hb1⟩
      replace hb1 := below_step hbel hb1
      go_wp2_with fail
      go_roundw
      case rel => exact ⟨k + 1, b + len s[k].toNat, by omega, by go_num, by go_num, hb', HF', hb1⟩
      case measure => simp [intOf]; omega
    · have hbR : b = R := by
        have h := HF.out
        rw [drop_end s k (by omega), blen] at h; omega
      subst hbR
      clear HF HR
      go_wp2_with fail
      go_ret
      exact ⟨ret_int (by rw [HV.out]; omega), hbel⟩

theorem ff_shr : ∀ m : Nat, m < 9 → 0 < m → ((255 : Int) / 2 ^ m) = ((2 ^ (8 - m) - 1 : Nat) : Int) := by decide
theorem last_byte (v m q : Nat) (hm : 0 < m) (h : m + q = 8) : bits .or .u8 (IntKind.u8.wrap (IntKind.u64.wrap ((v : Int) * 2 ^ q))) (255 / 2 ^ m) = ((UInt8.ofNat (v % 2 ^ m * 2 ^ (8 - m) + (2 ^ (8 - m) - 1))).toNat : Int) := by
  have hq : 8 - m = q := by omega
  rw [hq]
  have h1 : IntKind.u8.wrap (IntKind.u64.wrap ((v : Int) * 2 ^ q)) = ((v % 2 ^ m * 2 ^ q : Nat) : Int) := by
    have h3 : v * 2 ^ q % 2 ^ 64 % 256 = v % 2 ^ m * 2 ^ q := by
      rw [Nat.mod_mod_of_dvd _ (by decide)]
      have := Nat.mul_mod_mul_right (2 ^ q) v (2 ^ m)
      rwa [← Nat.pow_add, h] at this
    rw [← h3, IntKind.wrap_u64, IntKind.wrap_u8', Int.natCast_emod, Int.natCast_emod, Int.natCast_mul, Int.natCast_pow]; rfl
  have h2 : (255 / 2 ^ m : Int) = ((2 ^ q - 1 : Nat) : Int) := by rw [ff_shr m (by omega) hm, hq]
  have h4 : v % 2 ^ m * 2 ^ q + 2 ^ q ≤ 256 := by
    have h5 : v % 2 ^ m < 2 ^ m := Nat.mod_lt _ (Nat.two_pow_pos _)
    have h6 : (v % 2 ^ m + 1) * 2 ^ q ≤ 2 ^ m * 2 ^ q := Nat.mul_le_mul_right _ h5
    rw [← Nat.pow_add, h, Nat.add_mul, Nat.one_mul] at h6
    exact h6
  have hp := Nat.two_pow_pos q
  have h7 : v % 2 ^ m * 2 ^ q + (2 ^ q - 1) < 256 := by omega
  rw [h1, h2, u8_or_nat _ _ (by omega) (by omega), nat_or_join _ _ _ (by omega), UInt8.toNat_ofNat', Nat.mod_eq_of_lt (show _ < 2 ^ 8 from h7)]
theorem or_join (v L c : Nat) (h : c < 2 ^ L) (hL : L ≤ 30) : bits .or .u64 (IntKind.u64.wrap ((v : Int) * 2 ^ L)) (c : Int) = (((v * 2 ^ L + c) % 2 ^ 64 : Nat) : Int) := by
  have hc : c < 2 ^ 64 := Nat.lt_of_lt_of_le h (Nat.pow_le_pow_right (by omega) (by omega))
  have h1 : IntKind.u64.wrap ((v : Int) * 2 ^ L) = ((v * 2 ^ L % 2 ^ 64 : Nat) : Int) := by
    rw [IntKind.wrap_u64, Int.natCast_emod, Int.natCast_mul, Int.natCast_pow]; rfl
  have h3 : v * 2 ^ L % 2 ^ 64 = v % 2 ^ (64 - L) * 2 ^ L := by
    have := Nat.mul_mod_mul_right (2 ^ L) v (2 ^ (64 - L))
    rwa [← Nat.pow_add, show 64 - L + L = 64 from by omega] at this
  rw [h1, u64_or_nat _ _ (Nat.mod_lt _ (by decide)) hc, h3, nat_or_join _ _ _ h]
  congr 1
  have h4 : v % 2 ^ (64 - L) * 2 ^ L + c < 2 ^ 64 := by
    have h5 : v % 2 ^ (64 - L) < 2 ^ (64 - L) := Nat.mod_lt _ (Nat.two_pow_pos _)
    have h6 : (v % 2 ^ (64 - L) + 1) * 2 ^ L ≤ 2 ^ (64 - L) * 2 ^ L := Nat.mul_le_mul_right _ h5
    rw [← Nat.pow_add, show 64 - L + L = 64 from by omega, Nat.add_mul, Nat.one_mul] at h6
    omega
  rw [← h3, Nat.add_mod, Nat.mod_eq_of_lt hc, h3, Nat.mod_eq_of_lt h4]

set_option maxHeartbeats 2000000 in
theorem encode_any (s : ByteArray) (w : World) (hs : s.size ≤ 1048576) (hg : GrpIs w) :
    Calls Tryd.prog 107 #[.string s] w (MadeB w (enc s.data.toList)) := by
  obtain ⟨i0, hi, hz0, hz1, hz2⟩ := info_parts info_u8
  have HG := Lib.hid hg
  have HI := Lib.hid hi
  have HZ0 := Lib.hid hz0
  have HZ1 := Lib.hid hz1
  have HZ2 := Lib.hid hz2
  clear hg hi hz0 hz1 hz2
  have hsz : sizeV s.data.toList ≤ 30 * s.size + 7 := by have := (blen_bd s.data.toList).2; rw [list_len] at this; unfold sizeV; omega
  generalize hR : enc s.data.toList = R
  have HR := Lib.hid hR
  have hRl : R.length ≤ 30 * s.size + 7 := by rw [← hR, enc_length]; exact hsz
  clear hR
  have HS := Lib.hid (size_any s w (by omega) HG.out)
  generalize sizeV s.data.toList = c at hsz HS
  go_enter Tryd.func107, Tryd.ntmps107
  go_wp2_with fail
  refine HS.out.mono ?_; rintro e w1 ⟨rfl, hb1⟩
  obtain ⟨w2, hmk, hown, hgrow⟩ := run_make_own (P := Tryd.prog) w1 w.heap.size 24 5 i0 (.int .u8 0) 1 Tryd.underlying24 HI.out HZ0.out HZ1.out .i64 .i64 c (by rw [HZ2.out]; omega) (by unfold maxLen; omega) hb1.size
  have Hown := Lib.hid hown
  have hb2 : Below w.heap.size w w2 := hb1.grown hgrow hb1.size (by simp)
  clear hown hgrow
  go_wp2_with fail
  go_loopw [3, 4, 5, 14] (fun b wt n i wr => ∃ (k wv m : Nat) (ad : Option Addr) (cap : Nat) (E : List UInt8), k ≤ s.size ∧ i = .int .i64 k ∧ wt = .int .u64 wv ∧ wv < 18446744073709551616 ∧ n = .int .i64 m ∧ m < 8 ∧ b = .slice ad E.length cap ∧ Hid (E ++ packF (bitsN wv m ++ bitsT (s.data.toList.drop k)) 0 0 = R) ∧ Hid (wr.ownsRow w.heap.size 5 1 (.slice ad E.length cap) E.length (bvs E)) ∧ Below w.heap.size w wr) (fun _ _ _ i _ => s.size - (intOf i).toNat)
  case atStart => exact ⟨0, 0, 0, _, c, [], by omega, rfl, rfl, by omega, rfl, by omega, rfl, Lib.hid (by simpa [bitsN, enc] using HR.out), Hown, hb2⟩
  case round =>
    obtain ⟨k, wv, m, ad, cap, E, hk, rfl, rfl, hwv, rfl, hm, rfl, HF, HO, hbel⟩ := hrel
    by_cases hlt : k < s.size
    · have hbd := byte_bd s k hlt
      have HC := Lib.hid (code_any s[k].toNat wr (by omega) (HG.out.below hbel))
      have hl := len_all s[k].toNat (by omega)
      have hc := (code_all s[k].toNat (by omega)).2
      have hc1 := Lib.hid (code_all s[k].toNat (by omega)).1
      have Hd := Lib.hid (drop_cons s k hlt)
      obtain ⟨W, hor, HW⟩ : ∃ W : Nat, bits .or .u64 (IntKind.u64.wrap ((wv : Int) * 2 ^ len s[k].toNat)) (code s[k].toNat : Int) = (W : Int) ∧ Hid (W < 18446744073709551616 ∧ bitsN W (m + len s[k].toNat) = bitsN wv m ++ cb s[k].toNat) :=
        ⟨_, or_join wv _ _ hc1.out hl.2, Lib.hid ⟨Nat.mod_lt _ (by decide), by rw [bitsN_mod _ _ _ (by omega), bitsN_join _ _ _ hc1.out, cb]⟩⟩
      have HF' : Hid (E ++ packF (bitsN W (m + len s[k].toNat) ++ bitsT (s.data.toList.drop (k + 1))) 0 0 = R) := Lib.hid (by
        rw [HW.out.2, List.append_assoc, ← bitsT_cons, ← Hd.out]; exact HF.out)
      have hW := HW.out.1
      clear HF HW
      go_wp2_with fail
      refine HC.out.mono ?_; rintro e w3 ⟨rfl, hb3⟩
      have HO3 : Hid (w3.ownsRow w.heap.size 5 1 (.slice ad E.length cap) E.length (bvs E)) := Lib.hid (own_below HO.out hb3)
      replace hb3 := below_step hbel hb3
      generalize len s[k].toNat = L at hl hc1 HF' hor
      go_wp2_with fail
      go_loopw [3, 5] (fun b n wx => ∃ (m : Nat) (ad : Option Addr) (cap : Nat) (E : List UInt8), n = .int .i64 m ∧ m ≤ 37 ∧ b = .slice ad E.length cap ∧ Hid (E ++ packF (bitsN W m ++ bitsT (s.data.toList.drop (k + 1))) 0 0 = R) ∧ Hid (wx.ownsRow w.heap.size 5 1 (.slice ad E.length cap) E.length (bvs E)) ∧ Below w.heap.size w wx) (fun _ n _ => (intOf n).toNat)
      case atStart => exact ⟨m + L, ad, cap, E, by go_num, by omega, rfl, HF', HO3, hb3⟩
      case round =>
        obtain ⟨m1, ad1, cap1, E1, rfl, hm1, rfl, HF1, HO1, hbel1⟩ := hrel
        by_cases h8 : 8 ≤ m1
        · have HU : Hid ((W : Int) / 2 ^ (m1 - 8) % 256 = ((UInt8.ofNat (W / 2 ^ (m1 - 8) % 256)).toNat : Int)) := Lib.hid (by rw [← byte_of, Int.natCast_emod, Int.natCast_ediv, Int.natCast_pow]; rfl)
          have HF2 : Hid ((E1 ++ [UInt8.ofNat (W / 2 ^ (m1 - 8) % 256)]) ++ packF (bitsN W (m1 - 8) ++ bitsT (s.data.toList.drop (k + 1))) 0 0 = R) := Lib.hid (by
            rw [← HF1.out, packF_eight _ _ _ h8]; simp)
          have HL : Hid (E1.length + 1 ≤ 140737488355328) := Lib.hid (by have := congrArg List.length HF1.out; rw [List.length_append] at this; omega)
          have HB := Lib.hid hbel1.size
          clear HF1
          go_wp2_with (at_builtin; refine append_byte Tryd.underlying24 HI.out HZ0.out HZ1.out HZ2.out rfl _ _ rfl w.heap.size (.slice ad1 E1.length cap1) E1 (UInt8.ofNat (W / 2 ^ (m1 - 8) % 256)) _ HU.out rfl HO1.out rfl HL.out HB.out ?_; intro v1 w4 hown4 hb4)
          go_roundw
          case rel =>
            obtain ⟨ad4, cap4, rfl⟩ := own_form hown4.out
            exact ⟨m1 - 8, ad4, cap4, E1 ++ [UInt8.ofNat (W / 2 ^ (m1 - 8) % 256)], by go_num, by omega, by rw [List.length_append]; rfl, HF2, Lib.hid (by rw [List.length_append]; exact hown4.out), hb4 _ _ hbel1 (Nat.le_refl _)⟩
          case measure => simp [intOf]; omega
        · go_wp2_with fail
          go_roundw
          case rel => exact ⟨k + 1, W, m1, ad1, cap1, E1, by omega, by go_num, rfl, hW, rfl, by omega, rfl, HF1, HO1, hbel1⟩
          case measure => simp [intOf]; omega
    · have hke : s.data.toList.drop k = [] := drop_end s k (by omega)
      have HF' : Hid (E ++ packF (bitsN wv m) 0 0 = R) := Lib.hid (by
        have h := HF.out
        rw [hke] at h
        simpa [bitsT] using h)
      clear HF hke
      by_cases hm0 : 0 < m
      · go_wp2_with fail
        obtain ⟨q, hq⟩ : ∃ q : Nat, (8 : Int) - m = q := ⟨8 - m, by omega⟩
        have hq1 : IntKind.i64.wrap (q : Int) = (q : Int) := IntWalk.i64_in _ (by omega)
        have hq2 : (0 : Int) ≤ q := by omega
        have hq3 : (0 : Int) ≤ m := by omega
        have HL : Hid (E.length + 1 ≤ 140737488355328) := Lib.hid (by have := congrArg List.length HF'.out; rw [List.length_append] at this; omega)
        have HV : Hid (bits .or .u8 (IntKind.u8.wrap (IntKind.u64.wrap ((wv : Int) * 2 ^ q))) (255 / 2 ^ m) = ((UInt8.ofNat (wv % 2 ^ m * 2 ^ (8 - m) + (2 ^ (8 - m) - 1))).toNat : Int)) := Lib.hid (last_byte wv m q hm0 (by omega))
        have HO5 : Hid (∀ x, ((wr.alloc (.cells #[.int .u8 x] 5)).drew).ownsRow w.heap.size 5 1 (.slice ad E.length cap) E.length (bvs E)) := Lib.hid (fun x => HO.out.alloc _)
        have HC5 : Hid (((wr.alloc (.cells #[.int .u8 (bits .or .u8 (IntKind.u8.wrap (IntKind.u64.wrap ((wv : Int) * 2 ^ q))) (255 / 2 ^ m))] 5)).drew).cell? ⟨wr.heap.size, 0, none⟩ = some (.int .u8 ((UInt8.ofNat (wv % 2 ^ m * 2 ^ (8 - m) + (2 ^ (8 - m) - 1))).toNat : Int))) := Lib.hid (by
          rw [HV.out]; exact cell_drew_alloc _ _ _)
        have HB5 : Hid (∀ o, w.heap.size ≤ ((wr.alloc o).drew).heap.size) := Lib.hid (fun o => by show _ ≤ (wr.heap.push o).size; rw [Array.size_push]; have := hbel.size; omega)
        have HBel5 : Hid (∀ o, Below w.heap.size w ((wr.alloc o).drew)) := Lib.hid (fun o => by have := hbel.alloc hbel.size o; exact ⟨this.os, this.tape, this.output, this.size, this.block⟩)
        go_region_law (refine step_append_byte Tryd.underlying24 HI.out HZ0.out HZ1.out HZ2.out rfl (.tmp 48) (.tmp 57) rfl w.heap.size (.slice ad E.length cap) E (UInt8.ofNat (wv % 2 ^ m * 2 ^ (8 - m) + (2 ^ (8 - m) - 1))) rfl wr.heap.size (HO5.out _) rfl HC5.out HL.out (HB5.out _) ?_; intro v1 w4 hown4 hb4)
        have hR : E ++ [UInt8.ofNat (wv % 2 ^ m * 2 ^ (8 - m) + (2 ^ (8 - m) - 1))] = R := by
          rw [← HF'.out, packF_rest _ _ hm hm0]
        have hLR : E.length + 1 = R.length := by rw [← hR, List.length_append]; rfl
        obtain ⟨ad4, cap4, rfl⟩ := own_form hown4.out
        have HR2 := Lib.hid hR
        have HLR := Lib.hid hLR
        clear hR hLR HF' HR
        go_wp2
        go_ret
        refine ⟨ad4, cap4, by rw [HLR.out]; rfl, ?_, hb4 _ _ (HBel5.out _) (Nat.le_refl _)⟩
        have h := hown4.out
        rw [HLR.out, HR2.out] at h
        exact Lib.hid h
      · have hm00 : m = 0 := by omega
        subst hm00
        have hE : E = R := by have h := HF'.out; simpa [bitsN, packF] using h
        subst hE
        clear HF' HR
        go_wp2_with fail
        go_ret
        exact ⟨ad, cap, rfl, HO, hbel⟩
end Go.Proofs.YtdkgachgohilcaaDoor

namespace Go.Proofs.YtdkgachgohilcaaDoor
open Go.RowKit
open Huf Mem Gen
set_option linter.unusedVariables false
set_option maxRecDepth 100000

theorem pow_low : ∀ d, d < 8 → ((2 : Int) ^ d - 1) % 4294967296 = ((2 ^ d - 1 : Nat) : Int) := by decide

set_option maxRecDepth 100000 in
set_option maxHeartbeats 2000000 in
theorem decode_any (a : Option Addr) (l : List UInt8) (cap : Nat) (w : World) (hl : l.length ≤ 134217728) (hr : RB w a l) (hg : GrpIs w) :
    Calls Tryd.prog 101 #[.slice a l.length cap] w fun e w' => e = .returned (.tuple #[.string ⟨(decV l).toArray⟩, .int .i64 (decE l)]) ∧ Below w.heap.size w w' := by
  obtain ⟨i0, hi, hz0, hz1, hz2⟩ := info_parts info_u8
  have HG := Lib.hid hg
  have HI := Lib.hid hi
  have HZ0 := Lib.hid hz0
  have HZ1 := Lib.hid hz1
  have HZ2 := Lib.hid hz2
  have HRB := Lib.hid hr
  clear hg hi hz0 hz1 hz2 hr
  have HV : Hid (decV l = (dec l).getD []) := rfl
  have HE : Hid (decE l = if (dec l).isSome then 0 else 10) := rfl
  generalize decV l = V at HV ⊢
  generalize decE l = X at HE ⊢
  have HR : Hid (decK (bitsB l) 0 [] = dec l) := rfl
  generalize dec l = R at HV HE HR
  have Hbl := Lib.hid (bitsB_length l)
  go_enter Tryd.func101, Tryd.ntmps101
  go_wp2_with fail
  go_loopw [4, 5, 6, 13] (fun sv lv nv i wr => ∃ (k c : Nat) (ad : Option Addr) (cp : Nat) (E : List UInt8), k ≤ 8 * l.length ∧ i = .int .i64 k ∧ c < 513 ∧ Hid (sy c = 1023) ∧ lv = .int .u32 (va c) ∧ nv = .int .i64 (de c) ∧ sv = .slice ad E.length cp ∧ Hid (decK ((bitsB l).drop k) c E = R) ∧ E.length ≤ k ∧ Hid (wr.ownsRow w.heap.size 5 1 (.slice ad E.length cp) E.length (bvs E)) ∧ Below w.heap.size w wr) (fun _ _ _ i _ => 8 * l.length - (intOf i).toNat)
  case atStart => exact ⟨0, 0, none, 0, [], by omega, rfl, by omega, Lib.hid root_facts.1, by rw [root_facts.2.1]; rfl, by rw [root_facts.2.2]; rfl, rfl, Lib.hid (by simpa using HR.out), by simp, Lib.hid (World.ownsRow_nil _ _ _ _), Below.refl _ _⟩
  case round =>
    obtain ⟨k, c, ad, cp, E, hk, rfl, hc, HS, rfl, rfl, rfl, HF, hE, HO, hbel⟩ := hrel
    by_cases hlt : k < 8 * l.length
    · have hi : k / 8 < l.length := by omega
      obtain ⟨bb, off, ha, hcells⟩ : ∃ b off, a = some ⟨b, off, none⟩ ∧ ∀ i, (h : i < l.length) → wr.cell? ⟨b, off + i, none⟩ = some (.int .u8 (l[i].toNat : Int)) := by
        rcases HRB.out.below hbel with h | h
        · rw [h] at hi; simp at hi
        · exact h
      subst ha
      have hcell := hcells (k / 8) hi
      have hcb := l[k / 8].toNat_lt
      clear hcells
      have hbits := bitsB_drop l (k / 8) (k % 8) hi (by omega)
      rw [show 8 * (k / 8) + k % 8 = k from by omega] at hbits
      have hand := and_bit l[k / 8].toNat (7 - k % 8) (by omega)
      have hb2 : bN (l[k / 8].toNat.testBit (7 - k % 8)) < 2 := by have := bN_le (l[k / 8].toNat.testBit (7 - k % 8)); omega
      have HF' : Hid (decK (l[k / 8].toNat.testBit (7 - k % 8) :: (bitsB l).drop (k + 1)) c E = R) := Lib.hid (by rw [← hbits]; exact HF.out)
      clear hbits HF
      have hin := inner_bd c hc HS.out
      have hor := or_bit (va c) (bN (l[k / 8].toNat.testBit (7 - k % 8))) (by omega) hb2
      obtain ⟨n0, n1, n2, n3, n4, n5⟩ := node_facts c hc HS.out _ hb2
      have hlf := leaf_facts _ n1 n0
      rw [← n2] at hor
      rw [decK] at HF'
      generalize nx (bN (l[k / 8].toNat.testBit (7 - k % 8))) c = T at *
      generalize bN (l[k / 8].toNat.testBit (7 - k % 8)) = bv at *
      have hn : ((de T : Nat) : Int) = (de c : Int) + 1 := by omega
      have N3 := Lib.hid hn
      clear n2 n3 hn
      rcases hlf with ⟨s1, s2, s3⟩ | ⟨s1, s2⟩ | ⟨s1, ⟨p, p1, p2, p3⟩, _⟩
      · have HP : Hid (Calls Tryd.prog 104 #[.int .u32 (va T), .int .i64 ((de c : Int) + 1)] wr fun e w' => e = .returned (.tuple #[.int .i64 0, .bool false]) ∧ Below wr.heap.size wr w') := Lib.hid (by
          rw [← N3.out]; exact poc_no (va T) (de T) wr (by omega) n5 s2 (HG.out.below hbel))
        have HF2 : Hid (decK ((bitsB l).drop (k + 1)) T E = R) := Lib.hid (by
          have h := HF'.out
          rwa [if_pos s1] at h)
        have HS1 := Lib.hid s1
        clear s1 s2 HF'
        go_wp2_with fail
        refine HP.out.mono ?_; rintro e w1 ⟨rfl, hb1⟩
        have HO1 := Lib.hid (own_below HO.out hb1)
        replace hb1 := below_step hbel hb1
        go_wp2_with fail
        go_roundw
        case rel => exact ⟨k + 1, T, ad, cp, E, by omega, by go_num, n1, HS1, rfl, by rw [N3.out], rfl, HF2, by omega, HO1, hb1⟩
        case measure => simp [intOf]; omega
      · have HP : Hid (Calls Tryd.prog 104 #[.int .u32 (va T), .int .i64 ((de c : Int) + 1)] wr fun e w' => e = .returned (.tuple #[.int .i64 ((256 : Nat) : Int), .bool true]) ∧ Below wr.heap.size wr w') := Lib.hid (by
          rw [← N3.out]; exact poc_yes (va T) (de T) 256 wr (by omega) n5 s2 (HG.out.below hbel))
        have hRn : R = none := by
          rw [← HF'.out, if_neg (by omega), if_pos s1]
        have hV1 : V = [] := by rw [HV.out, hRn]; rfl
        have hX1 : X = 10 := by rw [HE.out, hRn]; rfl
        subst hV1 hX1
        clear HF' hRn HV HE HR
        go_wp2_with fail
        refine HP.out.mono ?_; rintro e w1 ⟨rfl, hb1⟩
        replace hb1 := below_step hbel hb1
        go_wp2_with fail
        go_ret2
        exact ⟨rfl, hb1⟩
      · have HP : Hid (Calls Tryd.prog 104 #[.int .u32 (va T), .int .i64 ((de c : Int) + 1)] wr fun e w' => e = .returned (.tuple #[.int .i64 (p : Int), .bool true]) ∧ Below wr.heap.size wr w') := Lib.hid (by
          rw [← N3.out]; exact poc_yes (va T) (de T) p wr (by omega) n5 p2 (HG.out.below hbel))
        have HF2 : Hid (decK ((bitsB l).drop (k + 1)) 0 (E ++ [UInt8.ofNat (sy T)]) = R) := Lib.hid (by
          have h := HF'.out
          rwa [if_neg (by omega), if_neg (by omega)] at h)
        have hne : ((p : Int) == 256) = false := by simp; omega
        have hp1 : (p : Int) < 256 := by omega
        have hp0 : (0 : Int) ≤ p := by omega
        have P3 := Lib.hid p3
        clear HF' s1 p2 p3
        go_wp2_with fail
        refine HP.out.mono ?_; rintro e w1 ⟨rfl, hb1⟩
        have HO1 := Lib.hid (own_below HO.out hb1)
        replace hb1 := below_step hbel hb1
        have HB := Lib.hid hb1.size
        have HL : Hid (E.length + 1 ≤ 140737488355328) := Lib.hid (by omega)
        have HX : Hid (∀ (s : ByteArray) (h : p < s.size), s.data.toList = ordL → ((s[p]'h).toNat : Int) = ((UInt8.ofNat (sy T)).toNat : Int)) := Lib.hid (by
          intro s h hs
          rw [← P3.out]
          have : s[p]'h = ordL.getD p 0 := by
            rw [← hs, List.getD_eq_getElem?_getD, List.getElem?_eq_getElem (by simpa using h)]; rfl
          rw [this])
        go_wp2_with (at_builtin; refine append_byte Tryd.underlying24 HI.out HZ0.out HZ1.out HZ2.out rfl _ _ rfl w.heap.size (.slice ad E.length cp) E (UInt8.ofNat (sy T)) _ (HX.out _ _ ?c1) rfl HO1.out rfl HL.out HB.out ?_; rotate_left; intro v1 w4 hown4 hb4)
        case c1 => kernel_rfl
        go_roundw
        case rel =>
          obtain ⟨ad4, cap4, rfl⟩ := own_form hown4.out
          exact ⟨k + 1, 0, ad4, cap4, E ++ [UInt8.ofNat (sy T)], by omega, by go_num, by omega, Lib.hid root_facts.1, by rw [root_facts.2.1]; rfl, by rw [root_facts.2.2]; rfl, by rw [List.length_append]; rfl, HF2, by rw [List.length_append]; simp; omega, Lib.hid (by rw [List.length_append]; exact hown4.out), hb4 _ _ hb1 (Nat.le_refl _)⟩
        case measure => simp [intOf]; omega
    · have hkl : k = 8 * l.length := by omega
      have hdr : (bitsB l).drop k = [] := List.drop_of_length_le (by rw [Hbl.out]; omega)
      have hin := inner_bd c hc HS.out
      have HF' : Hid ((if 8 ≤ de c ∨ va c ≠ 2 ^ de c - 1 then none else some E) = R) := Lib.hid (by
        have h := HF.out
        rwa [hdr, decK] at h)
      clear HF hdr HR
      by_cases h8 : 8 ≤ de c
      · have hRn : R = none := by rw [← HF'.out, if_pos (Or.inl h8)]
        have hV1 : V = [] := by rw [HV.out, hRn]; rfl
        have hX1 : X = 10 := by rw [HE.out, hRn]; rfl
        subst hV1 hX1
        clear HF' hRn HV HE
        go_wp2_with fail
        go_ret2
        exact ⟨rfl, hbel⟩
      · have q1 : ¬ (8 : Int) ≤ de c := by omega
        have hpl := pow_low (de c) (by omega)
        by_cases hv : va c = 2 ^ de c - 1
        · have hRn : R = some E := by rw [← HF'.out, if_neg (by simp [hv]; omega)]
          have hV1 : V = E := by rw [HV.out, hRn]; rfl
          have hX1 : X = 0 := by rw [HE.out, hRn]; rfl
          have ht : ((va c : Int) != ((2 : Int) ^ de c - 1) % 4294967296) = false := by rw [hpl, hv]; simp
          have hconv := run_conv_own (P := Tryd.prog) (src := 24) (e := 5) (dst := 9) Tryd.underlying24 Tryd.underlying5 Tryd.underlying9 HO.out
          subst hV1 hX1
          clear HF' hRn HV HE hv hpl HS HO
          go_wp2_with fail
          go_ret2
          exact ⟨rfl, hbel⟩
        · have hRn : R = none := by rw [← HF'.out, if_pos (Or.inr hv)]
          have hV1 : V = [] := by rw [HV.out, hRn]; rfl
          have hX1 : X = 10 := by rw [HE.out, hRn]; rfl
          have ht : ((va c : Int) != ((2 : Int) ^ de c - 1) % 4294967296) = true := by rw [hpl]; simp only [bne_iff_ne, ne_eq]; omega
          subst hV1 hX1
          clear HF' hRn HV HE hv hpl HS HO
          go_wp2_with fail
          go_ret2
          exact ⟨rfl, hbel⟩
end Go.Proofs.YtdkgachgohilcaaDoor

namespace Go.Proofs.YtdkgachgohilcaaDoor
open Go.RowKit
open Huf Pre Mem Gen
set_option linter.unusedVariables false

theorem RB.tail {w : World} {b off : Nat} {c : UInt8} {r : List UInt8} (h : ∀ i, (h : i < (c :: r).length) → w.cell? ⟨b, off + i, none⟩ = some (.int .u8 ((c :: r)[i].toNat : Int))) : RB w (some ⟨b, off + 1, none⟩) r :=
  Or.inr ⟨b, off + 1, rfl, fun i hi => by
    have := h (i + 1) (Nat.succ_lt_succ hi)
    rwa [show off + (i + 1) = off + 1 + i from by omega] at this⟩

set_option maxHeartbeats 4000000 in
theorem ptakeint_ok (b off : Nat) (c : UInt8) (r : List UInt8) (cap k : Nat) (w : World) (hl : (c :: r).length ≤ 9223372036854775807) (hcap : r.length + 1 ≤ cap) (hc1 : 1 < cap)
    (hc : ∀ i, (h : i < (c :: r).length) → w.cell? ⟨b, off + i, none⟩ = some (.int .u8 ((c :: r)[i].toNat : Int))) (h1 : 1 ≤ k) (h8 : k ≤ 8) :
    Calls Tryd.prog 70 #[.slice (some ⟨b, off, none⟩) (c :: r).length cap, .int .i64 k] w fun e w' => e = .returned (.tuple #[.int .i64 (takeN (c :: r) k).1, .int .i64 (takeN (c :: r) k).2.1, .int .i64 (takeN (c :: r) k).2.2]) ∧ Below w.heap.size w w' := by
  have hpb := pow_bd k h1 h8
  have HON := Lib.hid (fun v => ones_any k v h1 h8)
  have HS : Hid (∀ v, Calls Tryd.prog 89 #[.int .i64 k] v fun e w' => e = .returned (.bool true) ∧ v = w') := Lib.hid (fun v => by
    have h := sized_any k v
    rwa [decide_eq_true ⟨by omega, by omega⟩] at h)
  have hcb := c.toNat_lt
  have hc0 : w.cell? ⟨b, off, none⟩ = some (.int .u8 (c.toNat : Int)) := hc 0 (Nat.zero_lt_succ _)
  have HM : Hid (∀ v, Below w.heap.size w v → Calls Tryd.prog 91 #[.slice (some ⟨b, off + 1, none⟩) r.length (cap - 1)] v fun e w' => e = .returned (.tuple #[.int .i64 (moF 5 r 0 0).1, .int .i64 (moF 5 r 0 0).2.1, .int .i64 (moF 5 r 0 0).2.2]) ∧ v = w') :=
    Lib.hid (fun v hv => more_any (some ⟨b, off + 1, none⟩) r (cap - 1) v (by simp at hl; omega) ((RB.tail hc).below hv))
  have hmb := moF_bd 5 r 0 0 (by omega) (by decide)
  have HP : Hid (takeN (c :: r) k = if c.toNat % 2 ^ k < 2 ^ k - 1 then (c.toNat % 2 ^ k, 1, 0) else if (moF 5 r 0 0).2.2 ≠ 0 then (0, 0, (moF 5 r 0 0).2.2) else if 2147483647 < c.toNat % 2 ^ k + (moF 5 r 0 0).1 then (0, 0, 11) else (c.toNat % 2 ^ k + (moF 5 r 0 0).1, 1 + (moF 5 r 0 0).2.1, 0)) := Lib.hid (by
    rw [takeN_cons, ← tkF_moF]; rfl)
  have hA : bits .and .u8 (c.toNat : Int) ((2 ^ k - 1 : Nat) : Int) = ((c.toNat % 2 ^ k : Nat) : Int) := by
    rw [u8_and_nat _ _ hcb (by omega), Nat.and_two_pow_sub_one_eq_mod]
  have hqb : c.toNat % 2 ^ k < 2 ^ k := Nat.mod_lt _ (by omega)
  have HA := Lib.hid hA
  generalize takeN (c :: r) k = R at HP ⊢
  obtain ⟨P, hP⟩ : ∃ P, 2 ^ k = P + 1 := ⟨2 ^ k - 1, by omega⟩
  rw [hP, Nat.add_sub_cancel] at HON HP HA
  rw [hP] at hqb hpb
  generalize c.toNat % (P + 1) = q at *
  generalize moF 5 r 0 0 = M at *
  obtain ⟨m, s, e⟩ := M
  simp only at HP hmb HM
  have hlen : (c :: r).length = r.length + 1 := rfl
  rw [hlen] at hl ⊢
  generalize c.toNat = z at *
  clear hP hA hlen hc
  have hl0 : (((r.length : Int) + 1) == 0) = false := beq_eq_false_iff_ne.mpr (by omega)
  by_cases hq : q < P
  · have hq' : (q : Int) < P := by omega
    have hR : R = (q, 1, 0) := by rw [HP.out, if_pos hq]
    subst hR
    clear HP hq HM
    go_enter Tryd.func70, Tryd.ntmps70
    go_wp2_with fail
    refine (HS.out _).mono ?_; rintro e w1 ⟨rfl, rfl⟩
    go_wp2_with fail
    go_quiet ((go_at_call 90; exact quietL (HON.out _)))
    rw [HA.out]
    go_wp2_with fail
    refine (HON.out _).mono ?_; rintro e w1 ⟨rfl, rfl⟩
    go_wp2_with fail
    go_ret3
    exact ⟨rfl, below_drewN (Below.refl _ _) _⟩
  · have hq' : ¬ (q : Int) < P := by omega
    rw [if_neg hq] at HP
    clear hq
    by_cases he : e = 0
    · subst he
      by_cases hbig : 2147483647 < q + m
      · have hbig' : (2147483647 : Int) < (q : Int) + m := by omega
        have hR : R = (0, 0, 11) := by rw [HP.out, if_neg (by simp), if_pos hbig]
        subst hR
        clear HP
        go_enter Tryd.func70, Tryd.ntmps70
        go_wp2_with fail
        refine (HS.out _).mono ?_; rintro e w1 ⟨rfl, rfl⟩
        go_wp2_with fail
        go_quiet ((go_at_call 90; exact quietL (HON.out _)))
        rw [HA.out]
        go_wp2_with fail
        refine (HON.out _).mono ?_; rintro e w1 ⟨rfl, rfl⟩
        go_wp2_with fail
        refine (HM.out _ (below_drewN (Below.refl _ _) _)).mono ?_; rintro e w1 ⟨rfl, rfl⟩
        go_wp2_with fail
        go_ret3
        exact ⟨rfl, below_drewN (Below.refl _ _) _⟩
      · have hbig' : ¬ (2147483647 : Int) < (q : Int) + m := by omega
        have hR : R = (q + m, 1 + s, 0) := by rw [HP.out, if_neg (by simp), if_neg hbig]
        subst hR
        clear HP
        go_enter Tryd.func70, Tryd.ntmps70
        go_wp2_with fail
        refine (HS.out _).mono ?_; rintro e w1 ⟨rfl, rfl⟩
        go_wp2_with fail
        go_quiet ((go_at_call 90; exact quietL (HON.out _)))
        rw [HA.out]
        go_wp2_with fail
        refine (HON.out _).mono ?_; rintro e w1 ⟨rfl, rfl⟩
        go_wp2_with fail
        refine (HM.out _ (below_drewN (Below.refl _ _) _)).mono ?_; rintro e w1 ⟨rfl, rfl⟩
        go_wp2_with fail
        go_ret3
        exact ⟨ret_int3 (by omega) (by omega) rfl, below_drewN (Below.refl _ _) _⟩
    · have he' : ((e : Int) != 0) = true := by simp; omega
      have hR : R = (0, 0, e) := by rw [HP.out, if_pos he]
      subst hR
      clear HP he
      go_enter Tryd.func70, Tryd.ntmps70
      go_wp2_with fail
      refine (HS.out _).mono ?_; rintro e w1 ⟨rfl, rfl⟩
      go_wp2_with fail
      go_quiet ((go_at_call 90; exact quietL (HON.out _)))
      rw [HA.out]
      go_wp2_with fail
      refine (HON.out _).mono ?_; rintro e w1 ⟨rfl, rfl⟩
      go_wp2_with fail
      refine (HM.out _ (below_drewN (Below.refl _ _) _)).mono ?_; rintro e w1 ⟨rfl, rfl⟩
      go_wp2_with fail
      go_ret3
      exact ⟨rfl, below_drewN (Below.refl _ _) _⟩

set_option maxHeartbeats 4000000 in
theorem ptakeint_one (b off : Nat) (c : UInt8) (k : Nat) (w : World)
    (hc : ∀ i, (h : i < [c].length) → w.cell? ⟨b, off + i, none⟩ = some (.int .u8 ([c][i].toNat : Int))) (h1 : 1 ≤ k) (h8 : k ≤ 8) :
    Calls Tryd.prog 70 #[.slice (some ⟨b, off, none⟩) 1 1, .int .i64 k] w fun e w' => e = .returned (.tuple #[.int .i64 (takeN [c] k).1, .int .i64 (takeN [c] k).2.1, .int .i64 (takeN [c] k).2.2]) ∧ Below w.heap.size w w' := by
  have hpb := pow_bd k h1 h8
  have HON := Lib.hid (fun v => ones_any k v h1 h8)
  have HS : Hid (∀ v, Calls Tryd.prog 89 #[.int .i64 k] v fun e w' => e = .returned (.bool true) ∧ v = w') := Lib.hid (fun v => by
    have h := sized_any k v
    rwa [decide_eq_true ⟨by omega, by omega⟩] at h)
  have hcb := c.toNat_lt
  have hc0 : w.cell? ⟨b, off, none⟩ = some (.int .u8 (c.toNat : Int)) := hc 0 (Nat.zero_lt_succ _)
  have HM : Hid (∀ v, Calls Tryd.prog 91 #[.slice (some ⟨b, off, none⟩) 0 0] v fun e w' => e = .returned (.tuple #[.int .i64 0, .int .i64 0, .int .i64 12]) ∧ v = w') :=
    Lib.hid (fun v => more_any (some ⟨b, off, none⟩) [] 0 v (by simp) (Or.inl rfl))
  have HP : Hid (takeN [c] k = if c.toNat % 2 ^ k < 2 ^ k - 1 then (c.toNat % 2 ^ k, 1, 0) else (0, 0, 12)) := Lib.hid (by
    rw [takeN_cons]; rfl)
  have hA : bits .and .u8 (c.toNat : Int) ((2 ^ k - 1 : Nat) : Int) = ((c.toNat % 2 ^ k : Nat) : Int) := by
    rw [u8_and_nat _ _ hcb (by omega), Nat.and_two_pow_sub_one_eq_mod]
  have hqb : c.toNat % 2 ^ k < 2 ^ k := Nat.mod_lt _ (by omega)
  have HA := Lib.hid hA
  generalize takeN [c] k = R at HP ⊢
  obtain ⟨P, hP⟩ : ∃ P, 2 ^ k = P + 1 := ⟨2 ^ k - 1, by omega⟩
  rw [hP, Nat.add_sub_cancel] at HON HP HA
  rw [hP] at hqb hpb
  generalize c.toNat % (P + 1) = q at *
  generalize c.toNat = z at *
  clear hP hA hc
  by_cases hq : q < P
  · have hq' : (q : Int) < P := by omega
    have hR : R = (q, 1, 0) := by rw [HP.out, if_pos hq]
    subst hR
    clear HP hq HM
    go_enter Tryd.func70, Tryd.ntmps70
    go_wp2_with fail
    refine (HS.out _).mono ?_; rintro e w1 ⟨rfl, rfl⟩
    go_wp2_with fail
    go_quiet ((go_at_call 90; exact quietL (HON.out _)))
    rw [HA.out]
    go_wp2_with fail
    refine (HON.out _).mono ?_; rintro e w1 ⟨rfl, rfl⟩
    go_wp2_with fail
    go_ret3
    exact ⟨rfl, below_drewN (Below.refl _ _) _⟩
  · have hq' : ¬ (q : Int) < P := by omega
    have hR : R = (0, 0, 12) := by rw [HP.out, if_neg hq]
    subst hR
    clear HP hq
    go_enter Tryd.func70, Tryd.ntmps70
    go_wp2_with fail
    refine (HS.out _).mono ?_; rintro e w1 ⟨rfl, rfl⟩
    go_wp2_with fail
    go_quiet ((go_at_call 90; exact quietL (HON.out _)))
    rw [HA.out]
    go_wp2_with fail
    refine (HON.out _).mono ?_; rintro e w1 ⟨rfl, rfl⟩
    go_wp2_with fail
    refine (HM.out _).mono ?_; rintro e w1 ⟨rfl, rfl⟩
    go_wp2_with fail
    go_ret3
    exact ⟨rfl, below_drewN (Below.refl _ _) _⟩

theorem ptakeint_any (a : Option Addr) (l : List UInt8) (cap : Nat) (k : Int) (w : World) (hl : l.length ≤ 9223372036854775807) (hcap : l.length ≤ cap) (hr : RB w a l) :
    Calls Tryd.prog 70 #[.slice a l.length cap, .int .i64 k] w fun e w' => e = .returned (.tuple #[.int .i64 (takeI l k).1, .int .i64 (takeI l k).2.1, .int .i64 (takeI l k).2.2]) ∧ Below w.heap.size w w' := by
  by_cases h : k < 1 ∨ 8 < k
  · have HS : Hid (∀ v, Calls Tryd.prog 89 #[.int .i64 k] v fun e w' => e = .returned (.bool false) ∧ v = w') := Lib.hid (fun v => by
      have h' := sized_any k v
      rwa [decide_eq_false (by omega)] at h')
    have hT : takeI l k = (0, 0, 1) := by rw [takeI, if_pos h]
    rw [hT]
    clear hT h hr
    go_enter Tryd.func70, Tryd.ntmps70
    go_wp2_with fail
    refine (HS.out _).mono ?_; rintro e w1 ⟨rfl, rfl⟩
    go_wp2_with fail
    go_ret3
    exact ⟨rfl, Below.refl _ _⟩
  · obtain ⟨j, rfl⟩ := Int.eq_ofNat_of_zero_le (show 0 ≤ k by omega)
    have hT : takeI l j = takeN l j := by rw [takeI, if_neg h, Int.toNat_natCast]
    rw [hT]
    have h1 : 1 ≤ j := by omega
    have h8 : j ≤ 8 := by omega
    match l, hl, hcap, hr with
    | [], hl, hcap, hr =>
      have HS : Hid (∀ v, Calls Tryd.prog 89 #[.int .i64 j] v fun e w' => e = .returned (.bool true) ∧ v = w') := Lib.hid (fun v => by
        have h := sized_any j v
        rwa [decide_eq_true ⟨by omega, by omega⟩] at h)
      have hT : takeN [] j = (0, 0, 12) := rfl
      rw [hT]
      clear hT hr
      go_enter Tryd.func70, Tryd.ntmps70
      go_wp2_with fail
      refine (HS.out _).mono ?_; rintro e w1 ⟨rfl, rfl⟩
      go_wp2_with fail
      go_ret3
      exact ⟨rfl, Below.refl _ _⟩
    | c :: r, hl, hcap, hr =>
      rcases hr with h | ⟨b, off, rfl, hc⟩
      · cases h
      · by_cases hc1 : 1 < cap
        · exact ptakeint_ok b off c r cap j w hl hcap hc1 hc h1 h8
        · rw [List.length_cons] at hcap
          obtain rfl : r = [] := List.eq_nil_iff_length_eq_zero.mpr (by omega)
          obtain rfl : cap = 1 := by simp at hcap; omega
          exact ptakeint_one b off c j w hc h1 h8
end Go.Proofs.YtdkgachgohilcaaDoor
