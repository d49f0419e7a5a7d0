/-
  HuffJoins holds for every two texts: the bits of both together are those of both alone where the first one's need no ones, and with a byte of ones more there is no text; the table of groups starts as its text lays it.
-/
import Derived.Test.YtjoabjkibfcfmaaDoorRows
import Derived.WalkKit
import Derived.ProofKit
import Derived.OpenShut
import Derived.ShutString
import Derived.SizedLaws
import Derived.Deep.DeepHandedRow
import Derived.Lib.LaidTab
import Derived.Test.YtjoabjkibfcfmaaDoorLaid
import Derived.Test.YtjoabjkibfcfmaaDoorCards
import Derived.Test.YtjoabjkibfcfmaaDoorTie
import Derived.Test.YtjoabjkibfcfmaaDoorMem
import Derived.Test.YtjoabjkibfcfmaaDoorHufPure
import Derived.Test.YtjoabjkibfcfmaaDoorHufTree
import Derived.Test.YtjoabjkibfcfmaaDoorHuf1
import Derived.Test.YtjoabjkibfcfmaaDoorHuf2
import Derived.Test.YtjoabjkibfcfmaaDoorHuf3
import Derived.Test.YtjoabjkibfcfmaaDoorHuf4
import Derived.Test.YtjoabjkibfcfmaaDoorHuf5
import Derived.Test.YtjoabjkibfcfmaaDoorHufV
import Derived.Test.YtjoabjkibfcfmaaDoorMem2
namespace Go.Proofs.YtjoabjkibfcfmaaDoor.huffJoins
open Go.ChangeShapes Go.WideShapes Go.ChangeAt Go.RowKit
open Go.Proofs.YtjoabjkibfcfmaaDoor Huf Mem
open Go.ChangeMaps (open_string shut_string)
set_option linter.unusedVariables false

theorem own : ownKnob Tryd.prog.godebug = none := by kernel_rfl
theorem laidOut : laidOutB Tryd.prog = true := by kernel_rfl

set_option maxRecDepth 100000 in
set_option maxHeartbeats 2000000 in
theorem walk (a0 : ByteArray) (a1 : ByteArray) (w : World) (w0 : a0.size ≤ maxLen) (r0 : a0.size ≤ 140737488351232) (w1 : a1.size ≤ maxLen) (r1 : a1.size ≤ 140737488351232) (tab0 : GrpIs w) :
    Calls Tryd.prog 7 #[.string a0, .string a1] w fun e w' => e = .returned (.bool true) ∧ Below w.heap.size w w' := by
  have HG := Lib.hid tab0
  clear tab0
  by_cases hba : 32768 < a0.size
  · go_enter Tryd.func7, Tryd.ntmps7
    go_wp2_with fail
    refine (awake_any _ HG.out).mono ?_; rintro e v1 ⟨rfl, b1⟩
    go_wp2_with fail
    go_ret
    exact ⟨rfl, b1⟩
  · by_cases hbb : 32768 < a1.size
    · go_enter Tryd.func7, Tryd.ntmps7
      go_wp2_with fail
      refine (awake_any _ HG.out).mono ?_; rintro e v1 ⟨rfl, b1⟩
      go_wp2_with fail
      go_ret
      exact ⟨rfl, b1⟩
    · obtain ⟨i0, hi, hz0, hz1, hz2⟩ := info_parts info_u8
      have HI := Lib.hid hi
      have HZ0 := Lib.hid hz0
      have HZ1 := Lib.hid hz1
      have HZ2 := Lib.hid hz2
      have EA : Hid (∀ v, GrpIs v → Calls Tryd.prog 13 #[.string a0] v (MadeB v (enc a0.data.toList))) := Lib.hid (fun v hg => encode_any a0 v (by omega) hg)
      have EB : Hid (∀ v, GrpIs v → Calls Tryd.prog 13 #[.string a1] v (MadeB v (enc a1.data.toList))) := Lib.hid (fun v hg => encode_any a1 v (by omega) hg)
      have EC : Hid (∀ v, GrpIs v → Calls Tryd.prog 13 #[.string (a0 ++ a1)] v (MadeB v (enc (a0.data.toList ++ a1.data.toList)))) := Lib.hid (fun v hg => by
        have h := encode_any (a0 ++ a1) v (by rw [ByteArray.size_append]; omega) hg
        rwa [show (a0 ++ a1).data.toList = a0.data.toList ++ a1.data.toList from by simp [ByteArray.data_append]] at h)
      have la := (blen_bd a0.data.toList).2
      have lb := (blen_bd a1.data.toList).2
      have lc := enc_length a0.data.toList
      have ld := enc_length a1.data.toList
      rw [list_len] at la lb
      have HD : Hid (∀ v a c l, RB v a l → GrpIs v → l = enc a0.data.toList ++ [255] → Calls Tryd.prog 17 #[.slice a l.length c] v fun e w' => e = .returned (.tuple #[.string ⟨#[]⟩, .int .i64 10]) ∧ Below v.heap.size v w') := Lib.hid (fun v a c l hr hg hl => by
        have h := decode_any a l c v (by rw [hl, List.length_append]; simp; omega) hr hg
        have e1 : decV l = [] := by rw [decV, hl, dec_enc_more]; rfl
        have e2 : decE l = 10 := by rw [decE, hl, dec_enc_more]; rfl
        rwa [e1, e2] at h)
      have HJ := Lib.hid (enc_append a0.data.toList a1.data.toList)
      generalize hB : blen a0.data.toList = B at la lc HJ
      have HB := Lib.hid hB
      have hxl : (enc a0.data.toList).length ≤ 2000000 := by omega
      have hyl : (enc a1.data.toList).length ≤ 2000000 := by omega
      generalize enc a0.data.toList = X at EA HD HJ lc hxl
      generalize enc a1.data.toList = Y at EB HJ ld hyl
      generalize enc (a0.data.toList ++ a1.data.toList) = Z at EC HJ
      clear hi hz0 hz1 hz2 hB la lb ld lc w0 w1
      go_enter Tryd.func7, Tryd.ntmps7
      go_wp2_with fail
      refine (awake_any _ HG.out).mono ?_; rintro e v1 ⟨rfl, b1⟩
      go_wp2_with fail
      refine (lengths_any _).mono ?_; rintro e v2 ⟨g2, rfl, i2, b2⟩
      replace b2 := below_step b1 b2
      have I2 := Lib.hid i2
      clear i2
      go_wp2_with fail
      go_loop [6, 7] (fun n i => ∃ (k m : Nat), k ≤ a0.size ∧ m < 8 ∧ i = .int .i64 k ∧ n = .int .i64 m ∧ Hid ((m + blen (a0.data.toList.drop k)) % 8 = B % 8)) (fun _ i => a0.size - (intOf i).toNat)
      case atStart => exact ⟨0, 0, by omega, by omega, rfl, rfl, Lib.hid (by simpa using congrArg (· % 8) HB.out)⟩
      case round =>
        obtain ⟨k, m, hk, hm, rfl, rfl, HF⟩ := hrel
        by_cases hlt : k < a0.size
        · have hbd := byte_bd a0 k hlt
          have hcell := I2.out a0[k].toNat (by omega)
          have hll := len_all a0[k].toNat (by omega)
          have HF2 : Hid (((m + len a0[k].toNat) % 8 + blen (a0.data.toList.drop (k + 1))) % 8 = B % 8) := Lib.hid (by
            have h := HF.out
            rw [drop_cons a0 k hlt, blen] at h
            omega)
          have hi257 : (a0[k].toNat : Int) < 257 := by omega
          clear HF
          generalize len a0[k].toNat = L at *
          go_wp2_with fail
          go_round
          case rel => exact ⟨k + 1, (m + L) % 8, by omega, by omega, by go_num, by go_num, HF2⟩
          case measure => simp [intOf]; omega
        · have hmB : m = B % 8 := by
            have h := HF.out
            rw [drop_end a0 k (by omega), blen] at h
            omega
          have HM := Lib.hid hmB
          clear HF hmB
          go_wp2_with fail
          refine (EA.out _ (HG.out.below b2)).mono ?_; rintro e v3 ⟨ad3, cp3, rfl, hown3, b3⟩
          have R3 : Hid (RB v3 ad3 X) := Lib.hid (RB.of_own hown3.out)
          have N3 := Lib.hid (own_nil hown3.out)
          replace b3 := below_step b2 b3
          clear hown3
          by_cases hx0 : 0 < X.length
          · have hx1 : (0 : Int) < X.length := by omega
            go_wp2_with (at_builtin; refine append_rb3 Tryd.underlying31 HI.out HZ0.out HZ1.out HZ2.out rfl (.tmp 44) (.tmp 45) rfl v3.heap.size (some ⟨v3.heap.size, 0, none⟩) 0 [] rfl (own_empty1 v3 _) ad3 X cp3 rfl N3.out (R3.out.below ((Below.refl _ _).alloc (Nat.le_refl _) _)) X rfl (Nat.le_trans hxl (by decide)) (by simp) ?_)
            intro ad4 cp4 v4 hown4 hb4
            have b4 := below_step b3 (hb4 _ _ ((Below.refl _ _).alloc (Nat.le_refl _) _) (Nat.le_refl _))
            have R4 : Hid (RB v4 ad4 X) := Lib.hid (RB.of_own hown4.out)
            have N4 := Lib.hid (own_nil hown4.out)
            clear hown4 hb4
            go_wp2_with fail
            refine (EB.out _ (HG.out.below b4)).mono ?_; rintro e v5 ⟨ad5, cp5, rfl, hown5, b5⟩
            have R5 : Hid (RB v5 ad5 Y) := Lib.hid (RB.of_own hown5.out)
            have N5 := Lib.hid (own_nil hown5.out)
            have R4' : Hid (RB v5 ad4 X) := Lib.hid (R4.out.below b5)
            replace b5 := below_step b4 b5
            clear hown5
            go_wp2_with (at_builtin; refine append_rb3 Tryd.underlying31 HI.out HZ0.out HZ1.out HZ2.out rfl (.tmp 49) (.tmp 50) rfl v5.heap.size (some ⟨v5.heap.size, 0, none⟩) 0 [] rfl (own_empty1 v5 _) ad4 X cp4 rfl N4.out (R4'.out.below ((Below.refl _ _).alloc (Nat.le_refl _) _)) X rfl (Nat.le_trans hxl (by decide)) (by simp) ?_)
            intro ad6 cp6 v6 hown6 hb6
            have c6 : Below v5.heap.size v5 v6 := hb6 _ _ ((Below.refl _ _).alloc (Nat.le_refl _) _) (Nat.le_refl _)
            have b6 := below_step b5 c6
            have R5' : Hid (RB v6 ad5 Y) := Lib.hid (R5.out.below c6)
            obtain ⟨XY, hXY⟩ : ∃ l, l = X ++ Y := ⟨_, rfl⟩
            have HXY := Lib.hid hXY
            have hxy : Hid (XY.length ≤ 140737488355328) := Lib.hid (by rw [hXY, List.length_append]; omega)
            clear hXY hb6
            have s6 := Lib.hid c6.size
            go_wp2_with (at_builtin; refine append_rb3 Tryd.underlying31 HI.out HZ0.out HZ1.out HZ2.out rfl (.tmp 51) (.tmp 52) rfl v5.heap.size ad6 cp6 X rfl hown6.out ad5 Y cp5 rfl N5.out R5'.out XY HXY.out hxy.out s6.out ?_)
            intro ad7 cp7 v7 hown7 hb7
            have c7 : Below v5.heap.size v5 v7 := hb7 _ _ c6 (Nat.le_refl _)
            have b7 := below_step b5 c7
            have R7 : Hid (RB v7 ad7 XY) := Lib.hid (RB.of_own hown7.out)
            have R4'' : Hid (RB v7 ad4 X) := Lib.hid (R4'.out.below c7)
            clear hown7 hb7 hown6 c6 c7 b6 s6
            by_cases hn0 : m = 0
            · have hz : Hid (XY = Z) := Lib.hid (by rw [HXY.out, HJ.out (by have := HM.out; omega)])
              have hm0 : ((m : Int) == 0) = true := by simp [hn0]
              clear hn0
              go_wp2_with fail
              refine (EC.out _ (HG.out.below b7)).mono ?_; rintro e va ⟨ada, cpa, rfl, howna, ba⟩
              have Ta : Hid (Calls Tryd.prog 14 #[.slice ad7 XY.length cp7, .slice ada Z.length cpa] va fun e w' => e = .returned (.bool true) ∧ va = w') := Lib.hid (by
                have h := bytes_any ad7 ada XY Z cp7 cpa va (R7.out.below ba) (RB.of_own howna.out)
                rwa [decide_eq_true hz.out] at h)
              have RV : Hid (RB va ad4 X) := Lib.hid (R4''.out.below ba)
              have BV := below_step b7 ba
              clear howna ba
              go_wp2_with fail
              refine Ta.out.mono ?_; rintro e w' ⟨rfl, rfl⟩
              go_wp2_with (at_builtin; refine append_rb3 Tryd.underlying31 HI.out HZ0.out HZ1.out HZ2.out rfl (.tmp 66) (.tmp 67) rfl va.heap.size (some ⟨va.heap.size, 0, none⟩) 0 [] rfl (own_empty1 va _) ad4 X cp4 rfl N4.out (RV.out.below ((Below.refl _ _).alloc (Nat.le_refl _) _)) X rfl (Nat.le_trans hxl (by decide)) (by simp) ?_)
              intro ad8 cp8 v8 hown8 hb8
              have c8 : Below va.heap.size va v8 := hb8 _ _ ((Below.refl _ _).alloc (Nat.le_refl _) _) (Nat.le_refl _)
              obtain ⟨XO, hXO⟩ : ∃ l, l = X ++ [255] := ⟨_, rfl⟩
              have HXO := Lib.hid hXO
              have hxo : Hid (XO.length ≤ 140737488355328) := Lib.hid (by rw [hXO, List.length_append]; simp; omega)
              clear hXO hb8
              have s8 := Lib.hid c8.size
              go_wp2_with (at_builtin; refine append_byte3 Tryd.underlying31 HI.out HZ0.out HZ1.out HZ2.out rfl (.tmp 68) (.tmp 69) rfl va.heap.size (.slice ad8 X.length cp8) X 255 _ rfl rfl hown8.out rfl XO HXO.out hxo.out s8.out ?_)
              intro ad9 cp9 v9 hown9 hb9
              have c9 : Below va.heap.size va v9 := hb9 _ _ c8 (Nat.le_refl _)
              have b9 := below_step BV c9
              have R9 : Hid (RB v9 ad9 XO) := Lib.hid (RB.of_own hown9.out)
              clear hown8 hown9 hb9 c8 c9 s8
              go_wp2_with fail
              refine (HD.out _ _ _ _ R9.out (HG.out.below b9) HXO.out).mono ?_; rintro e v10 ⟨rfl, b10⟩
              replace b10 := below_step b9 b10
              go_wp2_with fail
              go_ret
              exact ⟨rfl, b10⟩
            · have hm0 : ((m : Int) == 0) = false := by simp; omega
              have RV := R4''
              have BV := b7
              clear hn0
              go_wp2_with (at_builtin; refine append_rb3 Tryd.underlying31 HI.out HZ0.out HZ1.out HZ2.out rfl (.tmp 66) (.tmp 67) rfl v7.heap.size (some ⟨v7.heap.size, 0, none⟩) 0 [] rfl (own_empty1 v7 _) ad4 X cp4 rfl N4.out (RV.out.below ((Below.refl _ _).alloc (Nat.le_refl _) _)) X rfl (Nat.le_trans hxl (by decide)) (by simp) ?_)
              intro ad8 cp8 v8 hown8 hb8
              have c8 : Below v7.heap.size v7 v8 := hb8 _ _ ((Below.refl _ _).alloc (Nat.le_refl _) _) (Nat.le_refl _)
              obtain ⟨XO, hXO⟩ : ∃ l, l = X ++ [255] := ⟨_, rfl⟩
              have HXO := Lib.hid hXO
              have hxo : Hid (XO.length ≤ 140737488355328) := Lib.hid (by rw [hXO, List.length_append]; simp; omega)
              clear hXO hb8
              have s8 := Lib.hid c8.size
              go_wp2_with (at_builtin; refine append_byte3 Tryd.underlying31 HI.out HZ0.out HZ1.out HZ2.out rfl (.tmp 68) (.tmp 69) rfl v7.heap.size (.slice ad8 X.length cp8) X 255 _ rfl rfl hown8.out rfl XO HXO.out hxo.out s8.out ?_)
              intro ad9 cp9 v9 hown9 hb9
              have c9 : Below v7.heap.size v7 v9 := hb9 _ _ c8 (Nat.le_refl _)
              have b9 := below_step BV c9
              have R9 : Hid (RB v9 ad9 XO) := Lib.hid (RB.of_own hown9.out)
              clear hown8 hown9 hb9 c8 c9 s8
              go_wp2_with fail
              refine (HD.out _ _ _ _ R9.out (HG.out.below b9) HXO.out).mono ?_; rintro e v10 ⟨rfl, b10⟩
              replace b10 := below_step b9 b10
              go_wp2_with fail
              go_ret
              exact ⟨rfl, b10⟩
          · have hx1 : ¬ (0 : Int) < X.length := by omega
            have R4 := R3
            have N4 := N3
            have b4 := b3
            go_wp2_with fail
            refine (EB.out _ (HG.out.below b4)).mono ?_; rintro e v5 ⟨ad5, cp5, rfl, hown5, b5⟩
            have R5 : Hid (RB v5 ad5 Y) := Lib.hid (RB.of_own hown5.out)
            have N5 := Lib.hid (own_nil hown5.out)
            have R4' : Hid (RB v5 ad3 X) := Lib.hid (R4.out.below b5)
            replace b5 := below_step b4 b5
            clear hown5
            go_wp2_with (at_builtin; refine append_rb3 Tryd.underlying31 HI.out HZ0.out HZ1.out HZ2.out rfl (.tmp 49) (.tmp 50) rfl v5.heap.size (some ⟨v5.heap.size, 0, none⟩) 0 [] rfl (own_empty1 v5 _) ad3 X cp3 rfl N4.out (R4'.out.below ((Below.refl _ _).alloc (Nat.le_refl _) _)) X rfl (Nat.le_trans hxl (by decide)) (by simp) ?_)
            intro ad6 cp6 v6 hown6 hb6
            have c6 : Below v5.heap.size v5 v6 := hb6 _ _ ((Below.refl _ _).alloc (Nat.le_refl _) _) (Nat.le_refl _)
            have b6 := below_step b5 c6
            have R5' : Hid (RB v6 ad5 Y) := Lib.hid (R5.out.below c6)
            obtain ⟨XY, hXY⟩ : ∃ l, l = X ++ Y := ⟨_, rfl⟩
            have HXY := Lib.hid hXY
            have hxy : Hid (XY.length ≤ 140737488355328) := Lib.hid (by rw [hXY, List.length_append]; omega)
            clear hXY hb6
            have s6 := Lib.hid c6.size
            go_wp2_with (at_builtin; refine append_rb3 Tryd.underlying31 HI.out HZ0.out HZ1.out HZ2.out rfl (.tmp 51) (.tmp 52) rfl v5.heap.size ad6 cp6 X rfl hown6.out ad5 Y cp5 rfl N5.out R5'.out XY HXY.out hxy.out s6.out ?_)
            intro ad7 cp7 v7 hown7 hb7
            have c7 : Below v5.heap.size v5 v7 := hb7 _ _ c6 (Nat.le_refl _)
            have b7 := below_step b5 c7
            have R7 : Hid (RB v7 ad7 XY) := Lib.hid (RB.of_own hown7.out)
            have R4'' : Hid (RB v7 ad3 X) := Lib.hid (R4'.out.below c7)
            clear hown7 hb7 hown6 c6 c7 b6 s6
            by_cases hn0 : m = 0
            · have hz : Hid (XY = Z) := Lib.hid (by rw [HXY.out, HJ.out (by have := HM.out; omega)])
              have hm0 : ((m : Int) == 0) = true := by simp [hn0]
              clear hn0
              go_wp2_with fail
              refine (EC.out _ (HG.out.below b7)).mono ?_; rintro e va ⟨ada, cpa, rfl, howna, ba⟩
              have Ta : Hid (Calls Tryd.prog 14 #[.slice ad7 XY.length cp7, .slice ada Z.length cpa] va fun e w' => e = .returned (.bool true) ∧ va = w') := Lib.hid (by
                have h := bytes_any ad7 ada XY Z cp7 cpa va (R7.out.below ba) (RB.of_own howna.out)
                rwa [decide_eq_true hz.out] at h)
              have RV : Hid (RB va ad3 X) := Lib.hid (R4''.out.below ba)
              have BV := below_step b7 ba
              clear howna ba
              go_wp2_with fail
              refine Ta.out.mono ?_; rintro e w' ⟨rfl, rfl⟩
              go_wp2_with (at_builtin; refine append_rb3 Tryd.underlying31 HI.out HZ0.out HZ1.out HZ2.out rfl (.tmp 66) (.tmp 67) rfl va.heap.size (some ⟨va.heap.size, 0, none⟩) 0 [] rfl (own_empty1 va _) ad3 X cp3 rfl N4.out (RV.out.below ((Below.refl _ _).alloc (Nat.le_refl _) _)) X rfl (Nat.le_trans hxl (by decide)) (by simp) ?_)
              intro ad8 cp8 v8 hown8 hb8
              have c8 : Below va.heap.size va v8 := hb8 _ _ ((Below.refl _ _).alloc (Nat.le_refl _) _) (Nat.le_refl _)
              obtain ⟨XO, hXO⟩ : ∃ l, l = X ++ [255] := ⟨_, rfl⟩
              have HXO := Lib.hid hXO
              have hxo : Hid (XO.length ≤ 140737488355328) := Lib.hid (by rw [hXO, List.length_append]; simp; omega)
              clear hXO hb8
              have s8 := Lib.hid c8.size
              go_wp2_with (at_builtin; refine append_byte3 Tryd.underlying31 HI.out HZ0.out HZ1.out HZ2.out rfl (.tmp 68) (.tmp 69) rfl va.heap.size (.slice ad8 X.length cp8) X 255 _ rfl rfl hown8.out rfl XO HXO.out hxo.out s8.out ?_)
              intro ad9 cp9 v9 hown9 hb9
              have c9 : Below va.heap.size va v9 := hb9 _ _ c8 (Nat.le_refl _)
              have b9 := below_step BV c9
              have R9 : Hid (RB v9 ad9 XO) := Lib.hid (RB.of_own hown9.out)
              clear hown8 hown9 hb9 c8 c9 s8
              go_wp2_with fail
              refine (HD.out _ _ _ _ R9.out (HG.out.below b9) HXO.out).mono ?_; rintro e v10 ⟨rfl, b10⟩
              replace b10 := below_step b9 b10
              go_wp2_with fail
              go_ret
              exact ⟨rfl, b10⟩
            · have hm0 : ((m : Int) == 0) = false := by simp; omega
              have RV := R4''
              have BV := b7
              clear hn0
              go_wp2_with (at_builtin; refine append_rb3 Tryd.underlying31 HI.out HZ0.out HZ1.out HZ2.out rfl (.tmp 66) (.tmp 67) rfl v7.heap.size (some ⟨v7.heap.size, 0, none⟩) 0 [] rfl (own_empty1 v7 _) ad3 X cp3 rfl N4.out (RV.out.below ((Below.refl _ _).alloc (Nat.le_refl _) _)) X rfl (Nat.le_trans hxl (by decide)) (by simp) ?_)
              intro ad8 cp8 v8 hown8 hb8
              have c8 : Below v7.heap.size v7 v8 := hb8 _ _ ((Below.refl _ _).alloc (Nat.le_refl _) _) (Nat.le_refl _)
              obtain ⟨XO, hXO⟩ : ∃ l, l = X ++ [255] := ⟨_, rfl⟩
              have HXO := Lib.hid hXO
              have hxo : Hid (XO.length ≤ 140737488355328) := Lib.hid (by rw [hXO, List.length_append]; simp; omega)
              clear hXO hb8
              have s8 := Lib.hid c8.size
              go_wp2_with (at_builtin; refine append_byte3 Tryd.underlying31 HI.out HZ0.out HZ1.out HZ2.out rfl (.tmp 68) (.tmp 69) rfl v7.heap.size (.slice ad8 X.length cp8) X 255 _ rfl rfl hown8.out rfl XO HXO.out hxo.out s8.out ?_)
              intro ad9 cp9 v9 hown9 hb9
              have c9 : Below v7.heap.size v7 v9 := hb9 _ _ c8 (Nat.le_refl _)
              have b9 := below_step BV c9
              have R9 : Hid (RB v9 ad9 XO) := Lib.hid (RB.of_own hown9.out)
              clear hown8 hown9 hb9 c8 c9 s8
              go_wp2_with fail
              refine (HD.out _ _ _ _ R9.out (HG.out.below b9) HXO.out).mono ?_; rintro e v10 ⟨rfl, b10⟩
              replace b10 := below_step b9 b10
              go_wp2_with fail
              go_ret
              exact ⟨rfl, b10⟩


noncomputable def laidWorld (os : Os) : World :=
  { World.holding Tryd.prog os ⟨#[], #[], []⟩ with heap := (((World.holding Tryd.prog os ⟨#[], #[], []⟩).heap).modify 0 fun
      | .cells _ t frozen => .cells #[.int .i64 0, .int .u32 0, .int .i64 0, .int .i64 0, .int .u32 0, .int .i64 0, .int .i64 0, .int .u32 0, .int .i64 0, .int .i64 0, .int .u32 0, .int .i64 0, .int .i64 0, .int .u32 0, .int .i64 0, .int .i64 10, .int .u32 0, .int .i64 0, .int .i64 26, .int .u32 20, .int .i64 10, .int .i64 32, .int .u32 92, .int .i64 36, .int .i64 6, .int .u32 248, .int .i64 68, .int .i64 0, .int .u32 0, .int .i64 0, .int .i64 5, .int .u32 1016, .int .i64 74, .int .i64 3, .int .u32 2042, .int .i64 79, .int .i64 2, .int .u32 4090, .int .i64 82, .int .i64 6, .int .u32 8184, .int .i64 84, .int .i64 2, .int .u32 16380, .int .i64 90, .int .i64 3, .int .u32 32764, .int .i64 92, .int .i64 0, .int .u32 0, .int .i64 0, .int .i64 0, .int .u32 0, .int .i64 0, .int .i64 0, .int .u32 0, .int .i64 0, .int .i64 3, .int .u32 524272, .int .i64 95, .int .i64 8, .int .u32 1048550, .int .i64 98, .int .i64 13, .int .u32 2097116, .int .i64 106, .int .i64 26, .int .u32 4194258, .int .i64 119, .int .i64 29, .int .u32 8388568, .int .i64 145, .int .i64 12, .int .u32 16777194, .int .i64 174, .int .i64 4, .int .u32 33554412, .int .i64 186, .int .i64 15, .int .u32 67108832, .int .i64 190, .int .i64 19, .int .u32 134217694, .int .i64 205, .int .i64 29, .int .u32 268435426, .int .i64 224, .int .i64 0, .int .u32 0, .int .i64 0, .int .i64 4, .int .u32 1073741820, .int .i64 253] t frozen
      | o => o) }
theorem laid_met (os : Os) : laidMet Tryd.prog Rows.huffJoinsRow.laid ((laidWorld os).forCall (fun _ _ => 0) ⟨#[], #[.string ByteArray.empty, .string ByteArray.empty], []⟩).memory :=
  laidMet_of_run' 8 (by kernel_rfl) (by kernel_rfl)
theorem reads (os : Os) {H : Type} (enc : TypeId × Value → H) : ∃ places, DataW.whole enc Tryd.prog ((laidWorld os).forCall (fun _ _ => 0) ⟨#[], #[.string ByteArray.empty, .string ByteArray.empty], []⟩).memory Tryd.f7.params.toList Rows.huffJoinsSpec.vars false (#[.string ByteArray.empty, .string ByteArray.empty] : Array Value).toList 8 = some ([.lit (.string []), .lit (.string [])], [], places) :=
  ⟨[], by kernel_rfl⟩

set_option maxRecDepth 100000 in
theorem lifted (os : Os) (started : os.Started) (H : Type) (enc : TypeId × Value → H) (F : Stop.Interp) :
    ReturnsInHanded {} Tryd.checked os 7 .any ((OpenSpec.ofChange Rows.huffJoinsSpec).preRow enc Tryd.prog Tryd.f7 Rows.huffJoinsRow.domain false Rows.huffJoinsRow.laid) (((OpenSpec.ofChange Rows.huffJoinsSpec).at F).post enc Tryd.prog Tryd.f7 false true false false) := by
  obtain ⟨places, hx⟩ := reads os enc
  refine returnsInHanded_of_row (C := Tryd.checked) (s := OpenSpec.ofChange Rows.huffJoinsSpec) own started (by kernel_rfl) Tryd.func7
    (witness_row_at (enc := enc) (C := Tryd.checked) false (laidWorld os) #[.string ByteArray.empty, .string ByteArray.empty] rfl (by kernel_rfl) (by kernel_rfl) (by kernel_rfl)
      (OpenSpec.preRow_of_cond 8 hx (by kernel_rfl) (fun k hk => by cases hk) (by kernel_rfl) (laid_met os))) ?_
  intro W base args ds gs before hval0 hW hcnd _ hsz0 hL _ _
  have hsz : (DataW.weightsEach Tryd.prog (Tryd.f7.params.toList ++ Rows.huffJoinsSpec.plain.varTypes Tryd.prog) (ds ++ gs)).all (· ≤ reachBytes) = true := hsz0
  have hval : ∀ (j : Nat) t v, Tryd.f7.params[j]? = some t → args[j]? = some v → Value.okWide Tryd.prog W .any base t v := hval0
  have hW' := hW
  obtain ⟨p, q, hA0, hV, rfl, hfz, hnd⟩ := hW
  have hA : DataW.TrodAll enc Tryd.prog W 0 (fun _ => true) true Tryd.f7.params.toList args.toList ds p := hA0
  rw [Tryd.params7] at hA hval hsz
  obtain ⟨v0, vs0, d0, ds0, p0, q0, hargs, rfl, rfl, h0, t0⟩ := trodAll_cons hA
  obtain ⟨v1, vs1, d1, ds1, p1, q1, rfl, rfl, rfl, h1, t1⟩ := trodAll_cons t0
  obtain ⟨rfl, rfl, rfl⟩ := trodAll_nil t1
  obtain rfl : args = #[v0, v1] := by cases args; simp_all
  obtain ⟨rfl, rfl⟩ := trodVars_none hV
  have k0 := h0
  have lt0 : ∀ x ∈ p0, x.block < W.heap.size := by obtain ⟨m, hm⟩ := k0; exact DataW.trod_lt m _ _ _ hm
  obtain ⟨a0, rfl, rfl, rfl, w0⟩ := open_string Tryd.underlying9 (hval 0 9 v0 rfl rfl) h0
  have r0 : a0.size ≤ 140737488351232 := by have := sized_string hsz (j := 0) (t := 9) rfl rfl; simpa [reachBytes] using this
  have k1 := h1
  have lt1 : ∀ x ∈ p1, x.block < W.heap.size := by obtain ⟨m, hm⟩ := k1; exact DataW.trod_lt m _ _ _ hm
  obtain ⟨a1, rfl, rfl, rfl, w1⟩ := open_string Tryd.underlying9 (hval 1 9 v1 rfl rfl) h1
  have r1 : a1.size ≤ 140737488351232 := by have := sized_string hsz (j := 1) (t := 9) rfl rfl; simpa [reachBytes] using this
  clear hA0 hval0 hsz0
  refine (walk a0 a1 W w0 r0 w1 r1 (grpIs_of (laid := Rows.huffJoinsRow.laid) hL 0 rfl)).mono fun e W' ⟨he, bel⟩ => ?_
  subst he
  exact ⟨_, rfl, _, _, _, [], _, [], hW', trodAll_mk1 (shut_bool Tryd.underlying4 _), (trodAll_cons_mk (Below.trod laidOut (by kernel_rfl) (of_decide_eq_true (by kernel_rfl)) k0 bel lt0) (trodAll_cons_mk (Below.trod laidOut (by kernel_rfl) (of_decide_eq_true (by kernel_rfl)) k1 bel lt1) trodAll_mk0)), rfl, bel.frame _, fun h => by cases h⟩

theorem over : Rows.huffJoinsRow.holds Tryd.pinned (OpenSpec.ofChange Rows.huffJoinsSpec) :=
  OpenClaim.holds_of_cond 7 Tryd.f7 rfl rfl rfl rfl rfl rfl rfl ⟨rfl, rfl, rfl, rfl, rfl⟩ rfl rfl rfl rfl rfl (by kernel_rfl) Tryd.func7 (by kernel_rfl)
    (of_decide_eq_true (by kernel_rfl)) (by unfold Func.isWrapper; first | (rw [if_pos (by decide +kernel)]; kernel_rfl) | (rw [if_neg (by decide +kernel)]; exact ⟨rfl, rfl⟩))
    (fun os started H enc _ F => by rw [OpenClaim.pre_eq_preRow]; exact lifted os started H enc F)

theorem plain (f : FuncId) (fn : Func) (hf : Tryd.pinned.checked.prog.funcNamed "drawbridge/drawbridgelaw02.HuffJoins" = some f) (hfn : Tryd.pinned.checked.prog.funcs[f]? = some fn) :
    false = Tryd.pinned.checked.prog.looks [] ∧ ∀ (j : Nat) t, fn.params[j]? = some t → Tryd.pinned.checked.prog.wantsStandIn t = false := by
  obtain rfl : f = 7 := Option.some.inj ((show Tryd.prog.funcNamed "drawbridge/drawbridgelaw02.HuffJoins" = some 7 by kernel_rfl).symm.trans hf) |>.symm
  obtain rfl : fn = Tryd.f7 := (Option.some.inj (Tryd.func7.symm.trans hfn)).symm
  refine ⟨by kernel_rfl, fun j t ht => ?_⟩
  rw [Tryd.params7] at ht
  have hm := Array.mem_of_getElem? ht
  simp only [List.mem_toArray, List.mem_cons, List.not_mem_nil, or_false] at hm
  rcases hm with rfl | rfl
  · exact (show Tryd.prog.wantsStandIn 9 = false by kernel_rfl)
  · exact (show Tryd.prog.wantsStandIn 9 = false by kernel_rfl)

theorem proved : Rows.HuffJoinsCardSaid :=
  Claim7.holds_tied_plain_at .later [] _ _ _ _ over (fun _ h => by cases h) (by kernel_rfl) (fun _ h => by cases h) huffJoins_row_tie rfl ⟨rfl, rfl⟩ (by kernel_rfl) rfl plain (by kernel_rfl)
end Go.Proofs.YtjoabjkibfcfmaaDoor.huffJoins
