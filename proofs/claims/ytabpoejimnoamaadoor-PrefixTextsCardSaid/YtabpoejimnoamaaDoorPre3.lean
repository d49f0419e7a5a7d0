/- The contracts of the document's PutText and TakeText of layer 3. -/
import Derived.Test.YtabpoejimnoamaaDoorRows
import Derived.Test.YtabpoejimnoamaaDoorPrePure
import Derived.Test.YtabpoejimnoamaaDoorMem
import Derived.Test.YtabpoejimnoamaaDoorMem2
import Derived.Test.YtabpoejimnoamaaDoorGen
import Derived.Test.YtabpoejimnoamaaDoorHuf6
import Derived.Test.YtabpoejimnoamaaDoorHuf8
import Derived.Test.YtabpoejimnoamaaDoorPre1
import Derived.Test.YtabpoejimnoamaaDoorPre2
import Derived.WalkKit
import Derived.WalkSpells
import Derived.WalkLawsBesides
import Derived.Lib.Hide
import Derived.Outline
namespace Go.Proofs.YtabpoejimnoamaaDoor
open Go.RowKit
open Huf Pre Mem Gen
set_option linter.unusedVariables false

theorem rputint_at (f n : Nat) (F : Int) (hF : F = (f : Int)) (v : World) (hf : f < 256) (hn : n < 4294967296) : Calls Tryd.prog 19 #[.int .u8 F, .int .i64 7, .int .u32 n] v (MadeB v (putI f 7 n)) := by
  subst hF
  exact rputint_any f 7 n v hf (by decide) (by decide) hn
theorem rputtext_yes (s : ByteArray) (w : World) (hs : s.size ≤ 1048576) (hlt : sizeV s.data.toList < s.size) :
    Calls Tryd.prog 8 #[.string s] w (MadeB w (putT s.data.toList)) := by
  obtain ⟨i0, hi, hz0, hz1, hz2⟩ := info_parts info_u8
  have HI := Lib.hid hi
  have HZ0 := Lib.hid hz0
  have HZ1 := Lib.hid hz1
  have HZ2 := Lib.hid hz2
  clear hi hz0 hz1 hz2
  have HS := Lib.hid (fun v => rsize_any s v (by omega))
  have HEn := Lib.hid (fun v => rencode_any s v hs)
  have hel : (enc s.data.toList).length = sizeV s.data.toList := by rw [enc_length]; rfl
  have hput := putI_len 128 7 (enc s.data.toList).length
  have HP : Hid (putT s.data.toList = putI 128 7 (enc s.data.toList).length ++ enc s.data.toList) := Lib.hid (by rw [putT, list_len, if_pos hlt])
  generalize putT s.data.toList = R at HP ⊢
  have hln : (enc s.data.toList).length ≤ 1048576 := by omega
  generalize sizeV s.data.toList = z at HS hel hlt
  generalize enc s.data.toList = X at HEn hel hput HP hln
  subst hel
  have HPut := Lib.hid (fun v => rputint_at 128 X.length 128 rfl v (by decide) (by omega))
  have HRl : Hid (R.length ≤ 140737488355328) := Lib.hid (by rw [HP.out, List.length_append]; omega)
  generalize putI 128 7 X.length = Y at hput HP HPut
  have hlt' : (X.length : Int) < s.size := by omega
  clear hput
  go_enter Tryd.func8, Tryd.ntmps8
  go_wp2_with fail
  refine (HS.out _).mono ?_; rintro e w1 ⟨rfl, b1⟩
  go_wp2_with fail
  refine (HEn.out _).mono ?_; rintro e w2 ⟨ad2, cp2, rfl, hr2, N2, b2⟩
  have R2 := Lib.hid hr2
  replace b2 := below_step b1 b2
  clear hr2
  go_wp2_with fail
  refine (HPut.out _).mono ?_; rintro e w3 ⟨ad3, cp3, rfl, hown3, b3⟩
  have R3 : Hid (RB w3 ad2 X) := Lib.hid (R2.out.below b3)
  have HBb := Lib.hid b2.size
  have HBs := Lib.hid b3.size
  have HO3 : Hid (w3.ownsRow w2.heap.size 5 1 (.slice ad3 Y.length cp3) Y.length (bvs Y)) := Lib.hid hown3.out
  clear hown3
  go_wp2_with (at_builtin; refine append_rb3 Tryd.underlying22 HI.out HZ0.out HZ1.out HZ2.out rfl (.tmp 14) (.tmp 15) rfl w2.heap.size ad3 cp3 Y rfl HO3.out ad2 X cp2 rfl N2.out R3.out R HP.out HRl.out HBs.out ?_; intro ad4 cp4 w4 hown4 hb4)
  go_ret
  exact ⟨ad4, cp4, rfl, Lib.hid (own_base hown4.out HBb.out), below_step b2 (hb4 _ _ b3 (Nat.le_refl _))⟩

theorem rputtext_no (s : ByteArray) (w : World) (hs : s.size ≤ 1048576) (hlt : ¬ sizeV s.data.toList < s.size) :
    Calls Tryd.prog 8 #[.string s] w (MadeB w (putT s.data.toList)) := by
  obtain ⟨i0, hi, hz0, hz1, hz2⟩ := info_parts info_u8
  have HI := Lib.hid hi
  have HZ0 := Lib.hid hz0
  have HZ1 := Lib.hid hz1
  have HZ2 := Lib.hid hz2
  clear hi hz0 hz1 hz2
  have HS := Lib.hid (fun v => rsize_any s v (by omega))
  have hput := putI_len 0 7 s.size
  have HP : Hid (putT s.data.toList = putI 0 7 s.size ++ s.data.toList) := Lib.hid (by rw [putT, list_len, if_neg hlt])
  generalize putT s.data.toList = R at HP ⊢
  have HPut := Lib.hid (fun v => rputint_at 0 s.size 0 rfl v (by decide) (by omega))
  have HRl : Hid (R.length ≤ 140737488355328) := Lib.hid (by rw [HP.out, List.length_append, list_len]; omega)
  generalize sizeV s.data.toList = z at HS hlt
  generalize putI 0 7 s.size = Y at hput HP HPut
  have hlt' : ¬ (z : Int) < s.size := by omega
  clear hput
  go_enter Tryd.func8, Tryd.ntmps8
  go_wp2_with fail
  refine (HS.out _).mono ?_; rintro e w1 ⟨rfl, b1⟩
  go_wp2_with fail
  refine (HPut.out _).mono ?_; rintro e w3 ⟨ad3, cp3, rfl, hown3, b3⟩
  have HBb := Lib.hid b1.size
  have HBs := Lib.hid b3.size
  have HO3 : Hid (w3.ownsRow w1.heap.size 5 1 (.slice ad3 Y.length cp3) Y.length (bvs Y)) := Lib.hid hown3.out
  clear hown3
  go_wp2_with (at_builtin; refine append_str3 Tryd.underlying22 Tryd.underlying9 HI.out HZ0.out HZ1.out HZ2.out rfl (.tmp 20) (.tmp 21) rfl w1.heap.size (.slice ad3 Y.length cp3) Y rfl HO3.out s rfl R HP.out HRl.out HBs.out ?_; intro ad4 cp4 w4 hown4 hb4)
  go_ret
  exact ⟨ad4, cp4, rfl, Lib.hid (own_base hown4.out HBb.out), below_step b1 (hb4 _ _ b3 (Nat.le_refl _))⟩

theorem rputtext_any (s : ByteArray) (w : World) (hs : s.size ≤ 1048576) :
    Calls Tryd.prog 8 #[.string s] w (MadeB w (putT s.data.toList)) := by
  by_cases hlt : sizeV s.data.toList < s.size
  · exact rputtext_yes s w hs hlt
  · exact rputtext_no s w hs hlt
end Go.Proofs.YtabpoejimnoamaaDoor
