/- The contracts of layer 1's functions that make texts: small letters, trimmed texts; and Same. -/
import Derived.Test.YtfeggahlhfpfoaaRows
import Derived.Test.YtfeggahlhfpfoaaOctPure
import Derived.Test.YtfeggahlhfpfoaaMem
import Derived.Test.YtfeggahlhfpfoaaOct1
import Derived.Test.YtfeggahlhfpfoaaOct2
import Derived.WalkKit
import Derived.WalkSpells
import Derived.WalkLawsBesides
import Derived.Lib.Hide
namespace Go.Proofs.Ytfeggahlhfpfoaa
open Go.RowKit
open Oct Mem
set_option linter.unusedVariables false

theorem info_u8 : (Try.prog.info? 5).map (fun i => (i.zero, i.size, i.bytes)) = some (some (.int .u8 0), 1, 1) := by kernel_rfl

set_option maxHeartbeats 1000000 in
theorem lower_any (s : ByteArray) (w : World) (hs : s.size ≤ maxLen) (hr : s.size ≤ 281474976710656) :
    Calls Try.prog 12 #[.string s] w fun e w' => e = .returned (.string ⟨(lowL s.data.toList).toArray⟩) ∧ Below w.heap.size w w' := by
  have hs' := hs
  unfold maxLen at hs'
  obtain ⟨i0, hi, hz0, hz1, hz2⟩ := info_parts info_u8
  obtain ⟨w1, hmk, hown, hgrow⟩ := run_make_full (P := Try.prog) w w.heap.size 29 5 i0 (.int .u8 0) 1 Try.underlying29 hi hz0 hz1 .i64 .i64 s.size (by rw [hz2]; omega) hs (Nat.le_refl _)
  have hrow : (madeCells (Value.int .u8 0).cells (s.size * 1)).toList = bvs (List.replicate s.size 0) := by
    rw [Nat.mul_one]; unfold Value.cells; rw [toList_madeCells_one]; simp [bvs]
  rw [hrow] at hown
  have Hown := Lib.hid hown
  have hb1 : Below w.heap.size w w1 := (Below.refl _ _).grown hgrow (Nat.le_refl _) (by simp)
  clear hown hgrow hrow hi hz0 hz1 hz2
  go_enter Try.func12, Try.ntmps12
  go_wp2_with fail
  go_loopw [4, 10] (fun _ i wr => ∃ (k : Nat) (ys : List UInt8), k ≤ s.size ∧ i = .int .i64 k ∧ Hid (ys.length = s.size ∧ ys.take k = lowL (s.data.toList.take k)) ∧ Hid (wr.ownsRow w.heap.size 5 1 (.slice (some ⟨w.heap.size, 0, none⟩) s.size s.size) s.size (bvs ys)) ∧ Below w.heap.size w wr) (fun _ i _ => s.size - (intOf i).toNat)
  case atStart => exact ⟨0, _, Nat.zero_le _, rfl, Lib.hid ⟨by simp, by simp [lowL]⟩, Hown, hb1⟩
  case round =>
    obtain ⟨k, ys, hk, rfl, HY, HO, hbel⟩ := hrel
    by_cases hlt : k < s.size
    · have hbd := byte_bd s k hlt
      have hcell : ∃ q, wr.cell? ⟨w.heap.size, k, none⟩ = some q := by
        refine ⟨_, (HO.out.cellAt k (by omega)).trans (bvs_at ys k (by have := HY.out.1; omega))⟩
      obtain ⟨q, hcell⟩ := hcell
      have hfz := HO.out.frozenAt k
      go_wp2_with (go_at_call 30; refine (small_any _ _ (by omega) (by omega)).mono ?_; rintro e w' ⟨rfl, rfl⟩)
      go_roundw
      case rel =>
        refine ⟨k + 1, ys.set k (lowU s[k]), by omega, by go_num, Lib.hid ⟨by simpa using HY.out.1, ?_⟩, ?_, ?_⟩
        · rw [take_set_snoc _ _ _ (by have := HY.out.1; omega), HY.out.2, lowL_snoc s k hlt]
        · have h := (HO.out.stored k (.int .u8 ((lowU s[k]).toNat : Int))).1
          rw [bvs_set, lowU_val] at h
          exact Lib.hid h
        · exact hbel.setCell (Nat.le_refl _) _
      case measure => simp [intOf]; omega
    · have hks : k = s.size := by omega
      have hfin : ys = lowL s.data.toList := by
        have h := HY.out.2
        rw [hks, List.take_of_length_le (by have := HY.out.1; omega), List.take_of_length_le (by rw [list_len]; omega)] at h
        exact h
      have hlen : ys.length = s.size := HY.out.1
      have hconv := run_conv_own (P := Try.prog) (w := wr) (base := w.heap.size) (src := 29) (e := 5) (dst := 9) (l := ys) (v := .slice (some ⟨w.heap.size, 0, none⟩) s.size s.size) Try.underlying29 Try.underlying5 Try.underlying9 (by rw [hlen]; exact HO.out)
      rw [hfin] at hconv
      clear HY HO hfin hlen hks Hown
      go_wp2_with fail
      go_ret
      exact ⟨rfl, hbel⟩

def lenOf : Value → Nat | .string t => t.size | _ => 0

set_option maxHeartbeats 1000000 in
theorem trim_any (s : ByteArray) (w : World) (hs : s.size ≤ maxLen) :
    Calls Try.prog 13 #[.string s] w fun e w' => e = .returned (.string ⟨(trimL s.data.toList).toArray⟩) ∧ w = w' := by
  have hs' := hs
  unfold maxLen at hs'
  generalize hR : trimL s.data.toList = R
  have HR := Lib.hid hR
  clear hR
  go_enter Try.func13, Try.ntmps13
  go_wp2_with fail
  go_loop [0] (fun v => ∃ t : ByteArray, v = .string t ∧ t.size ≤ s.size ∧ Hid (trimL t.data.toList = R)) (fun v => lenOf v)
  case atStart => exact ⟨s, rfl, Nat.le_refl _, HR⟩
  case round =>
    obtain ⟨t, rfl, hts, HT⟩ := hrel
    by_cases hn : t.data.toList = []
    · have he := empty_yes hn
      have HU : Hid (tailL t.data.toList = R) := Lib.hid (by rw [← HT.out, hn]; rfl)
      clear hn HT HR
      go_wp2_with fail
      go_loop [0] (fun v => ∃ u : ByteArray, v = .string u ∧ u.size ≤ t.size ∧ Hid (tailL u.data.toList = R)) (fun v => lenOf v)
      case atStart => exact ⟨t, rfl, Nat.le_refl _, HU⟩
      case round =>
        obtain ⟨u, rfl, hus, HV⟩ := hrel
        clear HU
        by_cases hn2 : u.data.toList = []
        · have hfin : u = ⟨R.toArray⟩ := by rw [← HV.out, hn2]; exact Go.WideShapes.bytes_inj (by rw [hn2]; rfl)
          have he2 := empty_yes hn2
          have Hf := Lib.hid hfin
          clear hn2 HV hfin
          go_wp2_with fail
          go_ret
          exact ⟨by rw [← Hf.out]; rfl, rfl⟩
        · have he2 := empty_no hn2
          have hp2 := size_pos hn2
          have hbd2 := byte_bd u (u.size - 1) (by omega)
          by_cases hb2 : blankB u[u.size - 1].toNat = true
          · have HV' : Hid (tailL (u.extract 0 (u.size - 1)).data.toList = R) := Lib.hid (by
              rw [← HV.out]; conv => rhs; rw [ext2 u hp2]
              rw [tailL_blank _ _ hb2])
            have Hsz2 := Lib.hid (ext2_size u)
            clear hn2 HV
            go_wp2_with (go_at_call 27; refine (blank_any _ _ (by omega) (by omega)).mono ?_; rintro e w' ⟨rfl, rfl⟩)
            go_round
            case rel => exact ⟨_, rfl, by have := Hsz2.out; omega, HV'⟩
            case measure => have := Hsz2.out; simp [lenOf]; omega
          · have hb2' := Bool.not_eq_true _ |>.mp hb2
            have hfin : u = ⟨R.toArray⟩ := by
              apply Go.WideShapes.bytes_inj
              rw [← HV.out]; conv => rhs; rw [ext2 u hp2]
              rw [tailL_stop _ _ hb2', ← ext2 u hp2]
            have Hf := Lib.hid hfin
            clear hn2 HV hfin hb2
            go_wp2_with (go_at_call 27; refine (blank_any _ _ (by omega) (by omega)).mono ?_; rintro e w' ⟨rfl, rfl⟩)
            go_ret
            exact ⟨by rw [← Hf.out]; rfl, rfl⟩
    · have he := empty_no hn
      have hp := size_pos hn
      have hbd := byte_bd t 0 hp
      by_cases hb : blankB t[0].toNat = true
      · have HT' : Hid (trimL (t.extract 1 t.size).data.toList = R) := Lib.hid (by
          rw [← HT.out, ext1 t hp]; unfold trimL; rw [leadL_blank _ _ hb])
        have hsz := ext1_size t
        have Hsz := Lib.hid hsz
        clear hsz hn HT HR
        go_wp2_with (go_at_call 27; refine (blank_any _ _ (by omega) (by omega)).mono ?_; rintro e w' ⟨rfl, rfl⟩)
        go_round
        case rel => exact ⟨_, rfl, by have := Hsz.out; omega, HT'⟩
        case measure => have := Hsz.out; simp [lenOf]; omega
      · have hb' := Bool.not_eq_true _ |>.mp hb
        have HU : Hid (tailL t.data.toList = R) := Lib.hid (by
          rw [← HT.out, ext1 t hp]; unfold trimL; rw [leadL_stop _ _ hb'])
        clear hb hn HT HR
        go_wp2_with (go_at_call 27; refine (blank_any _ _ (by omega) (by omega)).mono ?_; rintro e w' ⟨rfl, rfl⟩)
        go_loop [0] (fun v => ∃ u : ByteArray, v = .string u ∧ u.size ≤ t.size ∧ Hid (tailL u.data.toList = R)) (fun v => lenOf v)
        case atStart => exact ⟨t, rfl, Nat.le_refl _, HU⟩
        case round =>
          obtain ⟨u, rfl, hus, HV⟩ := hrel
          clear HU
          by_cases hn2 : u.data.toList = []
          · have hfin : u = ⟨R.toArray⟩ := by rw [← HV.out, hn2]; exact Go.WideShapes.bytes_inj (by rw [hn2]; rfl)
            have he2 := empty_yes hn2
            have Hf := Lib.hid hfin
            clear hn2 HV hfin
            go_wp2_with fail
            go_ret
            exact ⟨by rw [← Hf.out]; rfl, rfl⟩
          · have he2 := empty_no hn2
            have hp2 := size_pos hn2
            have hbd2 := byte_bd u (u.size - 1) (by omega)
            by_cases hb2 : blankB u[u.size - 1].toNat = true
            · have HV' : Hid (tailL (u.extract 0 (u.size - 1)).data.toList = R) := Lib.hid (by
                rw [← HV.out]; conv => rhs; rw [ext2 u hp2]
                rw [tailL_blank _ _ hb2])
              have Hsz2 := Lib.hid (ext2_size u)
              clear hn2 HV
              go_wp2_with (go_at_call 27; refine (blank_any _ _ (by omega) (by omega)).mono ?_; rintro e w' ⟨rfl, rfl⟩)
              go_round
              case rel => exact ⟨_, rfl, by have := Hsz2.out; omega, HV'⟩
              case measure => have := Hsz2.out; simp [lenOf]; omega
            · have hb2' := Bool.not_eq_true _ |>.mp hb2
              have hfin : u = ⟨R.toArray⟩ := by
                apply Go.WideShapes.bytes_inj
                rw [← HV.out]; conv => rhs; rw [ext2 u hp2]
                rw [tailL_stop _ _ hb2', ← ext2 u hp2]
              have Hf := Lib.hid hfin
              clear hn2 HV hfin hb2
              go_wp2_with (go_at_call 27; refine (blank_any _ _ (by omega) (by omega)).mono ?_; rintro e w' ⟨rfl, rfl⟩)
              go_ret
              exact ⟨by rw [← Hf.out]; rfl, rfl⟩

set_option maxHeartbeats 1000000 in
theorem rtrim_any (s : ByteArray) (w : World) (hs : s.size ≤ maxLen) :
    Calls Try.prog 16 #[.string s] w fun e w' => e = .returned (.string ⟨(trimL s.data.toList).toArray⟩) ∧ w = w' := by
  have hs' := hs
  unfold maxLen at hs'
  generalize hR : trimL s.data.toList = R
  have HR := Lib.hid hR
  clear hR
  go_enter Try.func16, Try.ntmps16
  go_wp2_with fail
  go_loop [0] (fun v => ∃ t : ByteArray, v = .string t ∧ t.size ≤ s.size ∧ Hid (trimL t.data.toList = R)) (fun v => lenOf v)
  case atStart => exact ⟨s, rfl, Nat.le_refl _, HR⟩
  case round =>
    obtain ⟨t, rfl, hts, HT⟩ := hrel
    by_cases hn : t.data.toList = []
    · have he := size_nil hn; have he1 : ¬ 0 < t.size := (by omega)
      clear he
      have HU : Hid (tailL t.data.toList = R) := Lib.hid (by rw [← HT.out, hn]; rfl)
      clear hn HT HR
      go_wp2_with fail
      clear he1
      go_loop [0] (fun v => ∃ u : ByteArray, v = .string u ∧ u.size ≤ t.size ∧ Hid (tailL u.data.toList = R)) (fun v => lenOf v)
      case atStart => exact ⟨t, rfl, Nat.le_refl _, HU⟩
      case round =>
        obtain ⟨u, rfl, hus, HV⟩ := hrel
        clear HU
        by_cases hn2 : u.data.toList = []
        · have hfin : u = ⟨R.toArray⟩ := by rw [← HV.out, hn2]; exact Go.WideShapes.bytes_inj (by rw [hn2]; rfl)
          have he2 := size_nil hn2; have he21 : ¬ 0 < u.size := (by omega)
          clear he2
          have Hf := Lib.hid hfin
          clear hn2 HV hfin
          go_wp2_with fail
          go_ret
          exact ⟨by rw [← Hf.out]; rfl, rfl⟩
        · skip
          have hp2 := size_pos hn2
          have hbd2 := byte_bd u (u.size - 1) (by omega)
          by_cases hb2 : blankB u[u.size - 1].toNat = true
          · have HV' : Hid (tailL (u.extract 0 (u.size - 1)).data.toList = R) := Lib.hid (by
              rw [← HV.out]; conv => rhs; rw [ext2 u hp2]
              rw [tailL_blank _ _ hb2])
            have Hsz2 := Lib.hid (ext2_size u)
            clear hn2 HV
            go_wp2_with (go_at_call 29; refine (rblank_any _ _ (by omega) (by omega)).mono ?_; rintro e w' ⟨rfl, rfl⟩)
            go_round
            case rel => exact ⟨_, rfl, by have := Hsz2.out; omega, HV'⟩
            case measure => have := Hsz2.out; simp [lenOf]; omega
          · have hb2' := Bool.not_eq_true _ |>.mp hb2
            have hfin : u = ⟨R.toArray⟩ := by
              apply Go.WideShapes.bytes_inj
              rw [← HV.out]; conv => rhs; rw [ext2 u hp2]
              rw [tailL_stop _ _ hb2', ← ext2 u hp2]
            have Hf := Lib.hid hfin
            clear hn2 HV hfin hb2
            go_wp2_with (go_at_call 29; refine (rblank_any _ _ (by omega) (by omega)).mono ?_; rintro e w' ⟨rfl, rfl⟩)
            go_ret
            exact ⟨by rw [← Hf.out]; rfl, rfl⟩
    · skip
      have hp := size_pos hn
      have hbd := byte_bd t 0 hp
      by_cases hb : blankB t[0].toNat = true
      · have HT' : Hid (trimL (t.extract 1 t.size).data.toList = R) := Lib.hid (by
          rw [← HT.out, ext1 t hp]; unfold trimL; rw [leadL_blank _ _ hb])
        have hsz := ext1_size t
        have Hsz := Lib.hid hsz
        clear hsz hn HT HR
        go_wp2_with (go_at_call 29; refine (rblank_any _ _ (by omega) (by omega)).mono ?_; rintro e w' ⟨rfl, rfl⟩)
        go_round
        case rel => exact ⟨_, rfl, by have := Hsz.out; omega, HT'⟩
        case measure => have := Hsz.out; simp [lenOf]; omega
      · have hb' := Bool.not_eq_true _ |>.mp hb
        have HU : Hid (tailL t.data.toList = R) := Lib.hid (by
          rw [← HT.out, ext1 t hp]; unfold trimL; rw [leadL_stop _ _ hb'])
        clear hb hn HT HR
        go_wp2_with (go_at_call 29; refine (rblank_any _ _ (by omega) (by omega)).mono ?_; rintro e w' ⟨rfl, rfl⟩)
        go_loop [0] (fun v => ∃ u : ByteArray, v = .string u ∧ u.size ≤ t.size ∧ Hid (tailL u.data.toList = R)) (fun v => lenOf v)
        case atStart => exact ⟨t, rfl, Nat.le_refl _, HU⟩
        case round =>
          obtain ⟨u, rfl, hus, HV⟩ := hrel
          clear HU
          by_cases hn2 : u.data.toList = []
          · have hfin : u = ⟨R.toArray⟩ := by rw [← HV.out, hn2]; exact Go.WideShapes.bytes_inj (by rw [hn2]; rfl)
            have he2 := size_nil hn2; have he21 : ¬ 0 < u.size := (by omega)
            clear he2
            have Hf := Lib.hid hfin
            clear hn2 HV hfin
            go_wp2_with fail
            go_ret
            exact ⟨by rw [← Hf.out]; rfl, rfl⟩
          · skip
            have hp2 := size_pos hn2
            have hbd2 := byte_bd u (u.size - 1) (by omega)
            by_cases hb2 : blankB u[u.size - 1].toNat = true
            · have HV' : Hid (tailL (u.extract 0 (u.size - 1)).data.toList = R) := Lib.hid (by
                rw [← HV.out]; conv => rhs; rw [ext2 u hp2]
                rw [tailL_blank _ _ hb2])
              have Hsz2 := Lib.hid (ext2_size u)
              clear hn2 HV
              go_wp2_with (go_at_call 29; refine (rblank_any _ _ (by omega) (by omega)).mono ?_; rintro e w' ⟨rfl, rfl⟩)
              go_round
              case rel => exact ⟨_, rfl, by have := Hsz2.out; omega, HV'⟩
              case measure => have := Hsz2.out; simp [lenOf]; omega
            · have hb2' := Bool.not_eq_true _ |>.mp hb2
              have hfin : u = ⟨R.toArray⟩ := by
                apply Go.WideShapes.bytes_inj
                rw [← HV.out]; conv => rhs; rw [ext2 u hp2]
                rw [tailL_stop _ _ hb2', ← ext2 u hp2]
              have Hf := Lib.hid hfin
              clear hn2 HV hfin hb2
              go_wp2_with (go_at_call 29; refine (rblank_any _ _ (by omega) (by omega)).mono ?_; rintro e w' ⟨rfl, rfl⟩)
              go_ret
              exact ⟨by rw [← Hf.out]; rfl, rfl⟩
end Go.Proofs.Ytfeggahlhfpfoaa
