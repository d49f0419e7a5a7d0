/- The contract of layer 3's program: PutText. -/
import Derived.Test.YtabpoejimnoamaaDoorRows
import Derived.Test.YtabpoejimnoamaaDoorPrePure
import Derived.Test.YtabpoejimnoamaaDoorMem
import Derived.Test.YtabpoejimnoamaaDoorMem2
import Derived.Test.YtabpoejimnoamaaDoorGen
import Derived.Test.YtabpoejimnoamaaDoorHuf2
import Derived.Test.YtabpoejimnoamaaDoorHuf3
import Derived.Test.YtabpoejimnoamaaDoorPreP
import Derived.Test.YtabpoejimnoamaaDoorPreQ
import Derived.Test.YtabpoejimnoamaaDoorPre1
import Derived.Test.YtabpoejimnoamaaDoorPre2
import Derived.WalkKit
import Derived.WalkSpells
import Derived.WalkLawsBesides
import Derived.Lib.Hide
import Derived.Outline
namespace Go.Proofs.YtabpoejimnoamaaDoor
open Go.RowKit
open Huf Pre Mem Gen
set_option linter.unusedVariables false

theorem pnumber_at (f n : Nat) (F : Int) (hF : F = (f : Int)) (v : World) (hf : f < 256) (hfk : f % 2 ^ 7 = 0) (hn : n < 4294967296) : Calls Tryd.prog 15 #[.int .u8 F, .int .i64 7, .int .u32 n] v (MadeB v (putI f 7 n)) := by
  subst hF
  exact number_any f 7 n v hf (by decide) (by decide) hfk hn
theorem pputtext_yes (s : ByteArray) (w : World) (hs : s.size ≤ 1048576) (hg : GrpIs w) (hlt : sizeV s.data.toList < s.size) :
    Calls Tryd.prog 6 #[.string s] w (MadeB w (putT s.data.toList)) := by
  obtain ⟨i0, hi, hz0, hz1, hz2⟩ := info_parts info_u8
  have HI := Lib.hid hi
  have HZ0 := Lib.hid hz0
  have HZ1 := Lib.hid hz1
  have HZ2 := Lib.hid hz2
  clear hi hz0 hz1 hz2
  have HG := Lib.hid hg
  have HS := Lib.hid (fun v hv => size_any s v (by omega) hv)
  have HEn := Lib.hid (fun v hv => encode_any s v hs hv)
  have hel : (enc s.data.toList).length = sizeV s.data.toList := by rw [enc_length]; rfl
  have hput := putI_len 128 7 (enc s.data.toList).length
  have HP : Hid (putT s.data.toList = putI 128 7 (enc s.data.toList).length ++ enc s.data.toList) := Lib.hid (by rw [putT, list_len, if_pos hlt])
  generalize putT s.data.toList = R at HP ⊢
  have hln : (enc s.data.toList).length ≤ 1048576 := by omega
  generalize sizeV s.data.toList = z at HS hel hlt
  generalize enc s.data.toList = X at HEn hel hput HP hln
  subst hel
  have HPut := Lib.hid (fun v => pnumber_at 128 X.length 128 rfl v (by decide) (by decide) (by omega))
  have HRl : Hid (R.length ≤ 140737488355328) := Lib.hid (by rw [HP.out, List.length_append]; omega)
  generalize putI 128 7 X.length = Y at hput HP HPut
  have hlt' : (X.length : Int) < s.size := by omega
  clear hput hg
  go_enter Tryd.func6, Tryd.ntmps6
  go_wp2_with fail
  refine (HS.out _ HG.out).mono ?_; rintro e w1 ⟨rfl, b1⟩
  have HG1 := Lib.hid (HG.out.below b1)
  go_wp2_with fail
  refine (HPut.out _).mono ?_; rintro e w2 ⟨ad3, cp3, rfl, hown3, b2⟩
  have HG2 := Lib.hid (HG1.out.below b2)
  have HB1 := Lib.hid b1.size
  go_wp2_with fail
  refine (HEn.out _ HG2.out).mono ?_; rintro e w3 ⟨ad2, cp2, rfl, hownX, b3⟩
  have N3 := Lib.hid (own_nil hownX.out)
  have R3 : Hid (RB w3 ad2 X) := Lib.hid (RB.of_own hownX.out)
  have HO3 : Hid (w3.ownsRow w1.heap.size 5 1 (.slice ad3 Y.length cp3) Y.length (bvs Y)) := Lib.hid (own_below hown3.out b3)
  replace b3 := below_step b2 b3
  have HBs := Lib.hid b3.size
  clear hown3 hownX
  go_wp2_with (at_builtin; refine append_rb3 Tryd.underlying22 HI.out HZ0.out HZ1.out HZ2.out rfl (.tmp 12) (.tmp 14) rfl w1.heap.size ad3 cp3 Y rfl HO3.out ad2 X cp2 rfl N3.out R3.out R HP.out HRl.out HBs.out ?_; intro ad4 cp4 w4 hown4 hb4)
  go_ret
  exact ⟨ad4, cp4, rfl, Lib.hid (own_base hown4.out HB1.out), below_step b1 (hb4 _ _ b3 (Nat.le_refl _))⟩

theorem pputtext_no (s : ByteArray) (w : World) (hs : s.size ≤ 1048576) (hg : GrpIs w) (hlt : ¬ sizeV s.data.toList < s.size) :
    Calls Tryd.prog 6 #[.string s] w (MadeB w (putT s.data.toList)) := by
  obtain ⟨i0, hi, hz0, hz1, hz2⟩ := info_parts info_u8
  have HI := Lib.hid hi
  have HZ0 := Lib.hid hz0
  have HZ1 := Lib.hid hz1
  have HZ2 := Lib.hid hz2
  clear hi hz0 hz1 hz2
  have HG := Lib.hid hg
  have HS := Lib.hid (fun v hv => size_any s v (by omega) hv)
  have hput := putI_len 0 7 s.size
  have HP : Hid (putT s.data.toList = putI 0 7 s.size ++ s.data.toList) := Lib.hid (by rw [putT, list_len, if_neg hlt])
  generalize putT s.data.toList = R at HP ⊢
  have HPut := Lib.hid (fun v => pnumber_at 0 s.size 0 rfl v (by decide) (by decide) (by omega))
  have HRl : Hid (R.length ≤ 140737488355328) := Lib.hid (by rw [HP.out, List.length_append, list_len]; omega)
  generalize sizeV s.data.toList = z at HS hlt
  generalize putI 0 7 s.size = Y at hput HP HPut
  have hlt' : ¬ (z : Int) < s.size := by omega
  clear hput hg
  go_enter Tryd.func6, Tryd.ntmps6
  go_wp2_with fail
  refine (HS.out _ HG.out).mono ?_; rintro e w1 ⟨rfl, b1⟩
  go_wp2_with fail
  refine (HPut.out _).mono ?_; rintro e w3 ⟨ad3, cp3, rfl, hown3, b3⟩
  have HBb := Lib.hid b1.size
  have HBs := Lib.hid b3.size
  have HO3 : Hid (w3.ownsRow w1.heap.size 5 1 (.slice ad3 Y.length cp3) Y.length (bvs Y)) := Lib.hid hown3.out
  clear hown3
  go_wp2_with (at_builtin; refine append_str3 Tryd.underlying22 Tryd.underlying9 HI.out HZ0.out HZ1.out HZ2.out rfl (.tmp 19) (.tmp 20) rfl w1.heap.size (.slice ad3 Y.length cp3) Y rfl HO3.out s rfl R HP.out HRl.out HBs.out ?_; intro ad4 cp4 w4 hown4 hb4)
  go_ret
  exact ⟨ad4, cp4, rfl, Lib.hid (own_base hown4.out HBb.out), below_step b1 (hb4 _ _ b3 (Nat.le_refl _))⟩

theorem pputtext_any (s : ByteArray) (w : World) (hs : s.size ≤ 1048576) (hg : GrpIs w) :
    Calls Tryd.prog 6 #[.string s] w (MadeB w (putT s.data.toList)) := by
  by_cases hlt : sizeV s.data.toList < s.size
  · exact pputtext_yes s w hs hg hlt
  · exact pputtext_no s w hs hg hlt
end Go.Proofs.YtabpoejimnoamaaDoor
