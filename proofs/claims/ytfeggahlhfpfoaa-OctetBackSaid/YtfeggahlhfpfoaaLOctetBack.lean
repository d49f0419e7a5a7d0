/-
  OctetBack holds for every number, every size, and whatever bytes stand ahead: what octet.Put makes octet.Take takes back; with a byte less it says ErrShort; no conditions.
-/
import Derived.Test.YtfeggahlhfpfoaaRows
import Derived.WalkKit
import Derived.ProofKit
import Derived.OpenShut
import Derived.ShutString
import Derived.SizedLaws
import Derived.Test.YtfeggahlhfpfoaaMem
import Derived.Test.YtfeggahlhfpfoaaOctPure
import Derived.Test.YtfeggahlhfpfoaaOct1
import Derived.Test.YtfeggahlhfpfoaaOct5
import Derived.Test.YtfeggahlhfpfoaaOct7
namespace Go.Proofs.Ytfeggahlhfpfoaa.octetBack
open Go.ChangeShapes Go.WideShapes Go.ChangeAt Go.RowKit
open Go.Proofs.Ytfeggahlhfpfoaa Oct Mem
open Go.ChangeMaps (open_string shut_string)
set_option linter.unusedVariables false

theorem own : ownKnob Try.prog.godebug = none := by kernel_rfl
theorem laidOut : laidOutB Try.prog = true := by kernel_rfl

set_option maxHeartbeats 1000000 in
theorem walk (a0 : Int) (a1 : Int) (a2 : Option Addr) (len2 cap2 : Nat) (z2 : List Int) (w : World) (w0 : (Lit.int .u32 a0).wf = true) (w1 : (Lit.int .u8 a1).wf = true) (w2 : Mem.IsRow .u8 w a2 len2 cap2 z2) (r2 : cap2 * 1 ≤ 140737488351232) :
    Calls Try.prog 7 #[.int .u32 a0, .int .u8 a1, .slice a2 len2 cap2] w fun e w' => e = .returned (.bool true) ∧ Below w.heap.size w w' := by
  have hx : 0 ≤ a0 ∧ a0 ≤ 4294967295 := by simpa [Lit.wf, IntKind.min, IntKind.max, IntKind.signed, IntKind.bits] using w0
  have hy : 0 ≤ a1 ∧ a1 ≤ 255 := by simpa [Lit.wf, IntKind.min, IntKind.max, IntKind.signed, IntKind.bits] using w1
  obtain ⟨hrb, hlen, hcap, hmax⟩ := w2.rb
  have hnil := w2.nil
  generalize u8s (z2.take len2) = l at hrb hlen
  subst hlen
  obtain ⟨i0, hi, hz0, hz1, hz2⟩ := info_parts info_u8
  clear w0 w1 w2 hmax
  obtain ⟨hx0, hx1⟩ := hx
  obtain ⟨hy0, hy1⟩ := hy
  have HN := Lib.hid hnil
  have HI := Lib.hid hi
  have HZ0 := Lib.hid hz0
  have HZ1 := Lib.hid hz1
  have HZ2 := Lib.hid hz2
  clear hnil hi hz0 hz1 hz2
  have hj : a1 % 4 = 0 ∨ a1 % 4 = 1 ∨ a1 % 4 = 2 ∨ a1 % 4 = 3 := by omega
  rcases hj with hj | hj | hj | hj
  · obtain ⟨bb, hbb⟩ : ∃ bb, bb = l ++ putL a0 1 := ⟨_, rfl⟩
    have hbl : bb.length = l.length + 1 := by rw [hbb, List.length_append, putL_length]
    have hne : ((bb.length : Int) != (l.length : Int) + 1) = false := by rw [bne_eq_false_iff_eq]; omega
    have hble : l.length + 1 ≤ bb.length ∧ bb.length ≤ l.length + 1 := by omega
    obtain ⟨hble1, hble2⟩ := hble
    have TO := Lib.hid (show takeV (l ++ putL a0 1) l.length 1 = a0 % 256 ^ 1 ∧ takeE (l ++ putL a0 1) l.length 1 = 0 from take_own l a0 hx0 (by omega) 1 (by omega))
    have TL := Lib.hid (show takeV (bb.take (bb.length - 1)) l.length 1 = 0 ∧ takeE (bb.take (bb.length - 1)) l.length 1 = 12 from take_less l (bb.take (bb.length - 1)) 1 (by rw [List.length_take]; omega) (by omega) (by omega))
    have hln := Lib.hid (show (bb.take (bb.length - 1)).length = bb.length - 1 by rw [List.length_take]; omega)
    have PV := Lib.hid (show putV a0 1 = putL a0 1 from by rw [putV, if_pos (by omega)]; rfl)
    have HB := Lib.hid hbb
    clear hbb hbl
    go_enter Try.func7, Try.ntmps7
    go_wp2_with fail
    refine (take_const _ _ (rb_const _)).mono ?_; rintro e w' ⟨rfl, rfl⟩
    go_wp2_with (at_builtin; refine append_rb Try.underlying29 HI.out HZ0.out HZ1.out HZ2.out rfl _ _ rfl (w.heap.size + 1) (some ⟨w.heap.size + 1, 0, none⟩) 0 [] rfl ?c0x1 a2 l cap2 rfl HN.out ?c1x1 ?c2x1 ?c3x1 ?_)
    case c0x1 => exact own_empty3 _ _ _
    case c1x1 => exact (hrb.below ((Below.refl _ _).alloc (Nat.le_refl _) _)).below ((Below.refl _ _).alloc (Nat.le_refl _) _)
    case c2x1 => simp; omega
    case c3x1 => simp
    intro ad2 cp2 u2 hown2 hb2
    have b2 := hb2 _ _ (((Below.refl w.heap.size w).alloc (Nat.le_refl _) _).alloc (by simp) _) (by omega)
    have b2' := (hb2 (w.heap.size + 1) _ (Below.refl _ _) (Nat.le_refl _)).size
    simp only [World.size_alloc] at b2'
    go_wp2_with fail
    refine (put_any _ _ _ hx0 (by omega)).mono ?_; rintro e u3 ⟨ad3, cap3, rfl, hown3, b3⟩
    have hown2' : Hid (u3.ownsRow (w.heap.size + 1) 5 1 (.slice ad2 l.length cp2) l.length (bvs l)) := by
      have h := hown2.out
      refine Lib.hid (h.kept (row := none) ⟨b3.os, b3.tape, b3.output, b3.size, fun k hk _ => b3.block k hk⟩ ?_)
      cases ad2 with
      | none => exact Or.inl rfl
      | some x => right; simp [Value.ownBlock]
    have b3s := b3.size
    have b3' := below_step b2 b3
    rw [PV.out] at hown3 ⊢
    have hrb3 := RB.of_own hown3.out
    have HD := Lib.hid (own_nil hown3.out)
    clear hown2 hb2 hown3
    go_wp2_with (at_builtin; refine append_rb Try.underlying29 HI.out HZ0.out HZ1.out HZ2.out rfl _ _ rfl (w.heap.size + 1) ad2 cp2 l rfl hown2'.out ad3 (putL a0 1) cap3 rfl ?d0x1 hrb3 ?d2x1 ?d3x1 ?_)
    case d0x1 => exact HD.out
    case d2x1 => rw [putL_length]; omega
    case d3x1 => omega
    intro ad5 cp5 u5 hown5 hb5
    have b5 := hb5 _ _ b3' (by omega)
    have hown6 : Hid (u5.ownsRow (w.heap.size + 1) 5 1 (.slice ad5 bb.length cp5) bb.length (bvs bb)) := Lib.hid (by
      have h := hown5.out
      rw [← List.length_append, ← HB.out] at h
      exact h)
    have hrb5 : RB u5 ad5 bb := RB.of_own hown6.out
    have T1 := take_any ad5 bb cp5 l.length 1 u5 (by unfold maxLen; omega) hrb5 (by omega) (by omega)
    have T2 := take_any ad5 (bb.take (bb.length - 1)) cp5 l.length 1 u5 (by rw [hln.out]; unfold maxLen; omega) (hrb5.take _) (by omega) (by omega)
    rw [hln.out, TL.out.1, TL.out.2] at T2
    have hTO := TO.out
    rw [← HB.out, show a0 % 256 ^ 1 = a0 % 256 from by omega] at hTO
    rw [hTO.1, hTO.2] at T1
    have HT1 := Lib.hid T1
    have HT2 := Lib.hid T2
    have hLL : l.length + (putL a0 1).length = bb.length := by rw [← List.length_append, ← HB.out]
    rw [hLL]
    have hcp := own_le hown6.out
    unfold maxLen at hcp
    obtain ⟨hcp1, hcp2⟩ := hcp
    clear T1 T2 hTO hLL hown5 hb5 hown6 hrb5 hrb3 hown2' TO TL HB PV hln hrb b3 b2
    go_wp2_with fail
    refine HT1.out.mono ?_; rintro e w' ⟨rfl, rfl⟩
    go_wp2_with fail
    refine HT2.out.mono ?_; rintro e w' ⟨rfl, rfl⟩
    go_wp2_with fail
    go_ret
    exact ⟨rfl, b5⟩
  · obtain ⟨bb, hbb⟩ : ∃ bb, bb = l ++ putL a0 2 := ⟨_, rfl⟩
    have hbl : bb.length = l.length + 2 := by rw [hbb, List.length_append, putL_length]
    have hne : ((bb.length : Int) != (l.length : Int) + 2) = false := by rw [bne_eq_false_iff_eq]; omega
    have hble : l.length + 2 ≤ bb.length ∧ bb.length ≤ l.length + 2 := by omega
    obtain ⟨hble1, hble2⟩ := hble
    have TO := Lib.hid (show takeV (l ++ putL a0 2) l.length 2 = a0 % 256 ^ 2 ∧ takeE (l ++ putL a0 2) l.length 2 = 0 from take_own l a0 hx0 (by omega) 2 (by omega))
    have TL := Lib.hid (show takeV (bb.take (bb.length - 1)) l.length 2 = 0 ∧ takeE (bb.take (bb.length - 1)) l.length 2 = 12 from take_less l (bb.take (bb.length - 1)) 2 (by rw [List.length_take]; omega) (by omega) (by omega))
    have hln := Lib.hid (show (bb.take (bb.length - 1)).length = bb.length - 1 by rw [List.length_take]; omega)
    have PV := Lib.hid (show putV a0 2 = putL a0 2 from by rw [putV, if_pos (by omega)]; rfl)
    have HB := Lib.hid hbb
    clear hbb hbl
    go_enter Try.func7, Try.ntmps7
    go_wp2_with fail
    refine (take_const _ _ (rb_const _)).mono ?_; rintro e w' ⟨rfl, rfl⟩
    go_wp2_with (at_builtin; refine append_rb Try.underlying29 HI.out HZ0.out HZ1.out HZ2.out rfl _ _ rfl (w.heap.size + 1) (some ⟨w.heap.size + 1, 0, none⟩) 0 [] rfl ?c0x2 a2 l cap2 rfl HN.out ?c1x2 ?c2x2 ?c3x2 ?_)
    case c0x2 => exact own_empty3 _ _ _
    case c1x2 => exact (hrb.below ((Below.refl _ _).alloc (Nat.le_refl _) _)).below ((Below.refl _ _).alloc (Nat.le_refl _) _)
    case c2x2 => simp; omega
    case c3x2 => simp
    intro ad2 cp2 u2 hown2 hb2
    have b2 := hb2 _ _ (((Below.refl w.heap.size w).alloc (Nat.le_refl _) _).alloc (by simp) _) (by omega)
    have b2' := (hb2 (w.heap.size + 1) _ (Below.refl _ _) (Nat.le_refl _)).size
    simp only [World.size_alloc] at b2'
    go_wp2_with fail
    refine (put_any _ _ _ hx0 (by omega)).mono ?_; rintro e u3 ⟨ad3, cap3, rfl, hown3, b3⟩
    have hown2' : Hid (u3.ownsRow (w.heap.size + 1) 5 1 (.slice ad2 l.length cp2) l.length (bvs l)) := by
      have h := hown2.out
      refine Lib.hid (h.kept (row := none) ⟨b3.os, b3.tape, b3.output, b3.size, fun k hk _ => b3.block k hk⟩ ?_)
      cases ad2 with
      | none => exact Or.inl rfl
      | some x => right; simp [Value.ownBlock]
    have b3s := b3.size
    have b3' := below_step b2 b3
    rw [PV.out] at hown3 ⊢
    have hrb3 := RB.of_own hown3.out
    have HD := Lib.hid (own_nil hown3.out)
    clear hown2 hb2 hown3
    go_wp2_with (at_builtin; refine append_rb Try.underlying29 HI.out HZ0.out HZ1.out HZ2.out rfl _ _ rfl (w.heap.size + 1) ad2 cp2 l rfl hown2'.out ad3 (putL a0 2) cap3 rfl ?d0x2 hrb3 ?d2x2 ?d3x2 ?_)
    case d0x2 => exact HD.out
    case d2x2 => rw [putL_length]; omega
    case d3x2 => omega
    intro ad5 cp5 u5 hown5 hb5
    have b5 := hb5 _ _ b3' (by omega)
    have hown6 : Hid (u5.ownsRow (w.heap.size + 1) 5 1 (.slice ad5 bb.length cp5) bb.length (bvs bb)) := Lib.hid (by
      have h := hown5.out
      rw [← List.length_append, ← HB.out] at h
      exact h)
    have hrb5 : RB u5 ad5 bb := RB.of_own hown6.out
    have T1 := take_any ad5 bb cp5 l.length 2 u5 (by unfold maxLen; omega) hrb5 (by omega) (by omega)
    have T2 := take_any ad5 (bb.take (bb.length - 1)) cp5 l.length 2 u5 (by rw [hln.out]; unfold maxLen; omega) (hrb5.take _) (by omega) (by omega)
    rw [hln.out, TL.out.1, TL.out.2] at T2
    have hTO := TO.out
    rw [← HB.out, show a0 % 256 ^ 2 = a0 % 65536 from by omega] at hTO
    rw [hTO.1, hTO.2] at T1
    have HT1 := Lib.hid T1
    have HT2 := Lib.hid T2
    have hLL : l.length + (putL a0 2).length = bb.length := by rw [← List.length_append, ← HB.out]
    rw [hLL]
    have hcp := own_le hown6.out
    unfold maxLen at hcp
    obtain ⟨hcp1, hcp2⟩ := hcp
    clear T1 T2 hTO hLL hown5 hb5 hown6 hrb5 hrb3 hown2' TO TL HB PV hln hrb b3 b2
    go_wp2_with fail
    refine HT1.out.mono ?_; rintro e w' ⟨rfl, rfl⟩
    go_wp2_with fail
    refine HT2.out.mono ?_; rintro e w' ⟨rfl, rfl⟩
    go_wp2_with fail
    go_ret
    exact ⟨rfl, b5⟩
  · obtain ⟨bb, hbb⟩ : ∃ bb, bb = l ++ putL a0 3 := ⟨_, rfl⟩
    have hbl : bb.length = l.length + 3 := by rw [hbb, List.length_append, putL_length]
    have hne : ((bb.length : Int) != (l.length : Int) + 3) = false := by rw [bne_eq_false_iff_eq]; omega
    have hble : l.length + 3 ≤ bb.length ∧ bb.length ≤ l.length + 3 := by omega
    obtain ⟨hble1, hble2⟩ := hble
    have TO := Lib.hid (show takeV (l ++ putL a0 3) l.length 3 = a0 % 256 ^ 3 ∧ takeE (l ++ putL a0 3) l.length 3 = 0 from take_own l a0 hx0 (by omega) 3 (by omega))
    have TL := Lib.hid (show takeV (bb.take (bb.length - 1)) l.length 3 = 0 ∧ takeE (bb.take (bb.length - 1)) l.length 3 = 12 from take_less l (bb.take (bb.length - 1)) 3 (by rw [List.length_take]; omega) (by omega) (by omega))
    have hln := Lib.hid (show (bb.take (bb.length - 1)).length = bb.length - 1 by rw [List.length_take]; omega)
    have PV := Lib.hid (show putV a0 3 = putL a0 3 from by rw [putV, if_pos (by omega)]; rfl)
    have HB := Lib.hid hbb
    clear hbb hbl
    go_enter Try.func7, Try.ntmps7
    go_wp2_with fail
    refine (take_const _ _ (rb_const _)).mono ?_; rintro e w' ⟨rfl, rfl⟩
    go_wp2_with (at_builtin; refine append_rb Try.underlying29 HI.out HZ0.out HZ1.out HZ2.out rfl _ _ rfl (w.heap.size + 1) (some ⟨w.heap.size + 1, 0, none⟩) 0 [] rfl ?c0x3 a2 l cap2 rfl HN.out ?c1x3 ?c2x3 ?c3x3 ?_)
    case c0x3 => exact own_empty3 _ _ _
    case c1x3 => exact (hrb.below ((Below.refl _ _).alloc (Nat.le_refl _) _)).below ((Below.refl _ _).alloc (Nat.le_refl _) _)
    case c2x3 => simp; omega
    case c3x3 => simp
    intro ad2 cp2 u2 hown2 hb2
    have b2 := hb2 _ _ (((Below.refl w.heap.size w).alloc (Nat.le_refl _) _).alloc (by simp) _) (by omega)
    have b2' := (hb2 (w.heap.size + 1) _ (Below.refl _ _) (Nat.le_refl _)).size
    simp only [World.size_alloc] at b2'
    go_wp2_with fail
    refine (put_any _ _ _ hx0 (by omega)).mono ?_; rintro e u3 ⟨ad3, cap3, rfl, hown3, b3⟩
    have hown2' : Hid (u3.ownsRow (w.heap.size + 1) 5 1 (.slice ad2 l.length cp2) l.length (bvs l)) := by
      have h := hown2.out
      refine Lib.hid (h.kept (row := none) ⟨b3.os, b3.tape, b3.output, b3.size, fun k hk _ => b3.block k hk⟩ ?_)
      cases ad2 with
      | none => exact Or.inl rfl
      | some x => right; simp [Value.ownBlock]
    have b3s := b3.size
    have b3' := below_step b2 b3
    rw [PV.out] at hown3 ⊢
    have hrb3 := RB.of_own hown3.out
    have HD := Lib.hid (own_nil hown3.out)
    clear hown2 hb2 hown3
    go_wp2_with (at_builtin; refine append_rb Try.underlying29 HI.out HZ0.out HZ1.out HZ2.out rfl _ _ rfl (w.heap.size + 1) ad2 cp2 l rfl hown2'.out ad3 (putL a0 3) cap3 rfl ?d0x3 hrb3 ?d2x3 ?d3x3 ?_)
    case d0x3 => exact HD.out
    case d2x3 => rw [putL_length]; omega
    case d3x3 => omega
    intro ad5 cp5 u5 hown5 hb5
    have b5 := hb5 _ _ b3' (by omega)
    have hown6 : Hid (u5.ownsRow (w.heap.size + 1) 5 1 (.slice ad5 bb.length cp5) bb.length (bvs bb)) := Lib.hid (by
      have h := hown5.out
      rw [← List.length_append, ← HB.out] at h
      exact h)
    have hrb5 : RB u5 ad5 bb := RB.of_own hown6.out
    have T1 := take_any ad5 bb cp5 l.length 3 u5 (by unfold maxLen; omega) hrb5 (by omega) (by omega)
    have T2 := take_any ad5 (bb.take (bb.length - 1)) cp5 l.length 3 u5 (by rw [hln.out]; unfold maxLen; omega) (hrb5.take _) (by omega) (by omega)
    rw [hln.out, TL.out.1, TL.out.2] at T2
    have hTO := TO.out
    rw [← HB.out, show a0 % 256 ^ 3 = a0 % 16777216 from by omega] at hTO
    rw [hTO.1, hTO.2] at T1
    have HT1 := Lib.hid T1
    have HT2 := Lib.hid T2
    have hLL : l.length + (putL a0 3).length = bb.length := by rw [← List.length_append, ← HB.out]
    rw [hLL]
    have hcp := own_le hown6.out
    unfold maxLen at hcp
    obtain ⟨hcp1, hcp2⟩ := hcp
    clear T1 T2 hTO hLL hown5 hb5 hown6 hrb5 hrb3 hown2' TO TL HB PV hln hrb b3 b2
    go_wp2_with fail
    refine HT1.out.mono ?_; rintro e w' ⟨rfl, rfl⟩
    go_wp2_with fail
    refine HT2.out.mono ?_; rintro e w' ⟨rfl, rfl⟩
    go_wp2_with fail
    go_ret
    exact ⟨rfl, b5⟩
  · obtain ⟨bb, hbb⟩ : ∃ bb, bb = l ++ putL a0 4 := ⟨_, rfl⟩
    have hbl : bb.length = l.length + 4 := by rw [hbb, List.length_append, putL_length]
    have hne : ((bb.length : Int) != (l.length : Int) + 4) = false := by rw [bne_eq_false_iff_eq]; omega
    have hble : l.length + 4 ≤ bb.length ∧ bb.length ≤ l.length + 4 := by omega
    obtain ⟨hble1, hble2⟩ := hble
    have TO := Lib.hid (show takeV (l ++ putL a0 4) l.length 4 = a0 % 256 ^ 4 ∧ takeE (l ++ putL a0 4) l.length 4 = 0 from take_own l a0 hx0 (by omega) 4 (by omega))
    have TL := Lib.hid (show takeV (bb.take (bb.length - 1)) l.length 4 = 0 ∧ takeE (bb.take (bb.length - 1)) l.length 4 = 12 from take_less l (bb.take (bb.length - 1)) 4 (by rw [List.length_take]; omega) (by omega) (by omega))
    have hln := Lib.hid (show (bb.take (bb.length - 1)).length = bb.length - 1 by rw [List.length_take]; omega)
    have PV := Lib.hid (show putV a0 4 = putL a0 4 from by rw [putV, if_pos (by omega)]; rfl)
    have HB := Lib.hid hbb
    clear hbb hbl
    go_enter Try.func7, Try.ntmps7
    go_wp2_with fail
    refine (take_const _ _ (rb_const _)).mono ?_; rintro e w' ⟨rfl, rfl⟩
    go_wp2_with (at_builtin; refine append_rb Try.underlying29 HI.out HZ0.out HZ1.out HZ2.out rfl _ _ rfl (w.heap.size + 1) (some ⟨w.heap.size + 1, 0, none⟩) 0 [] rfl ?c0x4 a2 l cap2 rfl HN.out ?c1x4 ?c2x4 ?c3x4 ?_)
    case c0x4 => exact own_empty3 _ _ _
    case c1x4 => exact (hrb.below ((Below.refl _ _).alloc (Nat.le_refl _) _)).below ((Below.refl _ _).alloc (Nat.le_refl _) _)
    case c2x4 => simp; omega
    case c3x4 => simp
    intro ad2 cp2 u2 hown2 hb2
    have b2 := hb2 _ _ (((Below.refl w.heap.size w).alloc (Nat.le_refl _) _).alloc (by simp) _) (by omega)
    have b2' := (hb2 (w.heap.size + 1) _ (Below.refl _ _) (Nat.le_refl _)).size
    simp only [World.size_alloc] at b2'
    go_wp2_with fail
    refine (put_any _ _ _ hx0 (by omega)).mono ?_; rintro e u3 ⟨ad3, cap3, rfl, hown3, b3⟩
    have hown2' : Hid (u3.ownsRow (w.heap.size + 1) 5 1 (.slice ad2 l.length cp2) l.length (bvs l)) := by
      have h := hown2.out
      refine Lib.hid (h.kept (row := none) ⟨b3.os, b3.tape, b3.output, b3.size, fun k hk _ => b3.block k hk⟩ ?_)
      cases ad2 with
      | none => exact Or.inl rfl
      | some x => right; simp [Value.ownBlock]
    have b3s := b3.size
    have b3' := below_step b2 b3
    rw [PV.out] at hown3 ⊢
    have hrb3 := RB.of_own hown3.out
    have HD := Lib.hid (own_nil hown3.out)
    clear hown2 hb2 hown3
    go_wp2_with (at_builtin; refine append_rb Try.underlying29 HI.out HZ0.out HZ1.out HZ2.out rfl _ _ rfl (w.heap.size + 1) ad2 cp2 l rfl hown2'.out ad3 (putL a0 4) cap3 rfl ?d0x4 hrb3 ?d2x4 ?d3x4 ?_)
    case d0x4 => exact HD.out
    case d2x4 => rw [putL_length]; omega
    case d3x4 => omega
    intro ad5 cp5 u5 hown5 hb5
    have b5 := hb5 _ _ b3' (by omega)
    have hown6 : Hid (u5.ownsRow (w.heap.size + 1) 5 1 (.slice ad5 bb.length cp5) bb.length (bvs bb)) := Lib.hid (by
      have h := hown5.out
      rw [← List.length_append, ← HB.out] at h
      exact h)
    have hrb5 : RB u5 ad5 bb := RB.of_own hown6.out
    have T1 := take_any ad5 bb cp5 l.length 4 u5 (by unfold maxLen; omega) hrb5 (by omega) (by omega)
    have T2 := take_any ad5 (bb.take (bb.length - 1)) cp5 l.length 4 u5 (by rw [hln.out]; unfold maxLen; omega) (hrb5.take _) (by omega) (by omega)
    rw [hln.out, TL.out.1, TL.out.2] at T2
    have hTO := TO.out
    rw [← HB.out, show a0 % 256 ^ 4 = a0 from by omega] at hTO
    rw [hTO.1, hTO.2] at T1
    have HT1 := Lib.hid T1
    have HT2 := Lib.hid T2
    have hLL : l.length + (putL a0 4).length = bb.length := by rw [← List.length_append, ← HB.out]
    rw [hLL]
    have hcp := own_le hown6.out
    unfold maxLen at hcp
    obtain ⟨hcp1, hcp2⟩ := hcp
    clear T1 T2 hTO hLL hown5 hb5 hown6 hrb5 hrb3 hown2' TO TL HB PV hln hrb b3 b2
    go_wp2_with fail
    refine HT1.out.mono ?_; rintro e w' ⟨rfl, rfl⟩
    go_wp2_with fail
    refine HT2.out.mono ?_; rintro e w' ⟨rfl, rfl⟩
    go_wp2_with fail
    go_ret
    exact ⟨rfl, b5⟩

set_option maxRecDepth 100000 in
theorem lifted (os : Os) (started : os.Started) (H : Type) (enc : TypeId × Value → H) :
    ReturnsInHanded {} Try.checked os 7 .any (Rows.octetBackSpec.pre6 enc Try.prog Try.f7 Rows.octetBackRow.domain false) (Rows.octetBackSpec.post enc Try.prog Try.f7 false true false false) := by
  refine returnsInHanded_of_change_sized (C := Try.checked) own started (by kernel_rfl) Try.func7
    (ChangeSpec.witness6 (enc := enc) (C := Try.checked) false ⟨#[], #[.int .u32 0, .int .u8 0, .slice none 0 0], []⟩ 8 (by kernel_rfl) (by kernel_rfl) (by kernel_rfl) (by kernel_rfl)) ?_
  intro W base args ds gs before hval0 hW hcnd hsz0 _
  have hsz : (DataW.weightsEach Try.prog (Try.f7.params.toList ++ Rows.octetBackSpec.plain.varTypes Try.prog) (ds ++ gs)).all (· ≤ reachBytes) = true := hsz0
  have hval : ∀ (j : Nat) t v, Try.f7.params[j]? = some t → args[j]? = some v → Value.okWide Try.prog W .any base t v := hval0
  have hW' := hW
  obtain ⟨p, q, hA0, hV, rfl, hfz, hnd⟩ := hW
  have hA : DataW.TrodAll enc Try.prog W 0 (fun _ => true) true Try.f7.params.toList args.toList ds p := hA0
  rw [Try.params7] at hA hval hsz
  obtain ⟨v0, vs0, d0, ds0, p0, q0, hargs, rfl, rfl, h0, t0⟩ := trodAll_cons hA
  obtain ⟨v1, vs1, d1, ds1, p1, q1, rfl, rfl, rfl, h1, t1⟩ := trodAll_cons t0
  obtain ⟨v2, vs2, d2, ds2, p2, q2, rfl, rfl, rfl, h2, t2⟩ := trodAll_cons t1
  obtain ⟨rfl, rfl, rfl⟩ := trodAll_nil t2
  obtain rfl : args = #[v0, v1, v2] := by cases args; simp_all
  obtain ⟨rfl, rfl⟩ := trodVars_none hV
  have k0 := h0
  have lt0 : ∀ x ∈ p0, x.block < W.heap.size := by obtain ⟨m, hm⟩ := k0; exact DataW.trod_lt m _ _ _ hm
  obtain ⟨a0, rfl, rfl, rfl, w0⟩ := open_int Try.underlying28 (hval 0 28 v0 rfl rfl) h0
  have k1 := h1
  have lt1 : ∀ x ∈ p1, x.block < W.heap.size := by obtain ⟨m, hm⟩ := k1; exact DataW.trod_lt m _ _ _ hm
  obtain ⟨a1, rfl, rfl, rfl, w1⟩ := open_int Try.underlying5 (hval 1 5 v1 rfl rfl) h1
  have k2 := h2
  have lt2 : ∀ x ∈ p2, x.block < W.heap.size := by obtain ⟨m, hm⟩ := k2; exact DataW.trod_lt m _ _ _ hm
  obtain ⟨a2, len2, cap2, rfl⟩ := okWide_slice Try.underlying29 (hval 2 29 v2 rfl rfl)
  obtain ⟨z2, w2, r2⟩ : ∃ zs, Mem.IsRow .u8 W a2 len2 cap2 zs ∧ cap2 * 1 ≤ 140737488351232 := by
    obtain ⟨fuel, hf⟩ := h2
    rcases open_ints Try.underlying29 Try.underlying5 (by kernel_rfl) hf with ⟨hcs, _⟩ | ⟨x, l, c, zs, hcs, _, hl, hm, hz, hx, hcell, hwz⟩
    · simp [Value.cells] at hcs
      obtain ⟨rfl, rfl, rfl⟩ := hcs
      exact ⟨[], .inl ⟨rfl, rfl, rfl, rfl⟩, by omega⟩
    · simp [Value.cells] at hcs
      obtain ⟨rfl, rfl, rfl⟩ := hcs
      have hx1 := congrArg Prod.fst hx
      simp only at hx1
      have hby : Try.prog.bytesOf 5 = 1 := by kernel_rfl
      have hs := sized_slice hsz (j := 2) (t := 29) (e := 5) rfl (by rw [← hx1]; rfl) Try.underlying29
      rw [hby] at hs
      refine ⟨zs, .inr ⟨_, rfl, hl, hm, by simpa using hz, hcell, hwz⟩, ?_⟩
      have hz' : zs.length = cap2 := by simpa using hz
      simp only [lits, List.length_map, List.length_take, List.length_drop, reachBytes] at hs
      have hmn : min len2 zs.length + (zs.length - len2) = cap2 := by omega
      rw [hmn] at hs
      exact hs
  clear hA0 hval0 hsz0
  refine (walk a0 a1 a2 len2 cap2 z2 W w0 w1 w2 r2).mono fun e W' ⟨he, bel⟩ => ?_
  subst he
  exact ⟨_, rfl, _, _, _, [], _, [], hW', trodAll_mk1 (shut_bool Try.underlying4 _), (trodAll_cons_mk (Below.trod laidOut (by kernel_rfl) (of_decide_eq_true (by kernel_rfl)) k0 bel lt0) (trodAll_cons_mk (Below.trod laidOut (by kernel_rfl) (of_decide_eq_true (by kernel_rfl)) k1 bel lt1) (trodAll_cons_mk (Below.trod laidOut (by kernel_rfl) (of_decide_eq_true (by kernel_rfl)) k2 bel lt2) trodAll_mk0))), rfl, bel.frame _, fun h => by cases h⟩

theorem over : Rows.octetBackRow.holds Try.pinned (OpenSpec.ofChange Rows.octetBackSpec) :=
  OpenClaim.holds_of_wide 7 Try.f7 rfl rfl rfl rfl rfl rfl rfl ⟨rfl, rfl, rfl, rfl, rfl⟩ rfl rfl rfl rfl rfl (by kernel_rfl) Try.func7 (by kernel_rfl)
    (of_decide_eq_true (by kernel_rfl)) (by unfold Func.isWrapper; first | (rw [if_pos (by decide +kernel)]; kernel_rfl) | (rw [if_neg (by decide +kernel)]; exact ⟨rfl, rfl⟩))
    (fun os started H enc _ => lifted os started H enc)

theorem proved : Rows.OctetBackSaid := over
end Go.Proofs.Ytfeggahlhfpfoaa.octetBack
