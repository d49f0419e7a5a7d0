/- The contracts of layer 1's functions on numbers as bytes. -/
import Derived.Test.YtfeggahlhfpfoaaRows
import Derived.Test.YtfeggahlhfpfoaaOctPure
import Derived.Test.YtfeggahlhfpfoaaMem
import Derived.Test.YtfeggahlhfpfoaaOct1
import Derived.Test.YtfeggahlhfpfoaaOct5
import Derived.WalkKit
import Derived.WalkSpells
import Derived.WalkLawsBesides
import Derived.Lib.Hide
namespace Go.Proofs.Ytfeggahlhfpfoaa
open Go.RowKit
open Oct Mem
set_option linter.unusedVariables false

set_option maxHeartbeats 400000 in
theorem sized_yes (n : Int) (w : World) (h1 : 1 ≤ n) (h4 : n ≤ 4) :
    Calls Try.prog 33 #[.int .i64 n] w fun e w' => e = .returned (.bool true) ∧ w = w' := by
  go_enter Try.func33, Try.ntmps33
  go_wp2
  go_ret
  exact ⟨by simp, rfl⟩

set_option maxHeartbeats 400000 in
theorem sized_no (n : Int) (w : World) (h : n < 1 ∨ 4 < n) :
    Calls Try.prog 33 #[.int .i64 n] w fun e w' => e = .returned (.bool false) ∧ w = w' := by
  by_cases h1 : 1 ≤ n
  · have h4 : 4 < n := by omega
    clear h
    go_enter Try.func33, Try.ntmps33
    go_wp2
    go_ret
    exact ⟨by simp; omega, rfl⟩
  · have h2 : decide (1 ≤ n) = false := by simpa using h1
    clear h
    go_enter Try.func33, Try.ntmps33
    go_wp2
    go_ret
    exact ⟨rfl, rfl⟩

/-- What a call that makes a row of bytes leaves. -/
def MadeB (w : World) (l : List UInt8) (e : Ending) (w' : World) : Prop :=
  ∃ (a : Option Addr) (cap : Nat), e = .returned (.slice a l.length cap) ∧ Hid (w'.ownsRow w.heap.size 5 1 (.slice a l.length cap) l.length (bvs l)) ∧ Below w.heap.size w w'

def putV (n s : Int) : List UInt8 := if 1 ≤ s ∧ s ≤ 4 then putL n s.toNat else []

set_option maxHeartbeats 1000000 in
theorem put_yes (n : Int) (s : Nat) (w : World) (hn0 : 0 ≤ n) (hn1 : n < 4294967296) (h1 : 1 ≤ s) (h4 : s ≤ 4) :
    Calls Try.prog 21 #[.int .u32 n, .int .i64 s] w (MadeB w (putL n s)) := by
  obtain ⟨i0, hi, hz0, hz1, hz2⟩ := info_parts info_u8
  obtain ⟨w1, hmk, hown, hgrow⟩ := run_make_full (P := Try.prog) w w.heap.size 29 5 i0 (.int .u8 0) 1 Try.underlying29 hi hz0 hz1 .i64 .i64 s (by rw [hz2]; omega) (by unfold maxLen; omega) (Nat.le_refl _)
  have hrow : (madeCells (Value.int .u8 0).cells (s * 1)).toList = bvs (List.replicate s 0) := by
    rw [Nat.mul_one]; unfold Value.cells; rw [toList_madeCells_one]; simp [bvs]
  rw [hrow] at hown
  have Hown := Lib.hid hown
  have hb1 : Below w.heap.size w w1 := (Below.refl _ _).grown hgrow (Nat.le_refl _) (by simp)
  clear hown hgrow hrow hi hz0 hz1 hz2
  have hs4 : (s : Int) ≤ 4 := by omega
  go_enter Try.func21, Try.ntmps21
  go_wp2_with (go_at_call 33; refine (sized_yes _ _ (by omega) (by omega)).mono ?_; rintro e w' ⟨rfl, rfl⟩)
  go_loopw [6, 13] (fun _ i wr => ∃ (k : Nat) (ys : List UInt8), k ≤ s ∧ i = .int .i64 k ∧ Hid (ys.length = s ∧ ys.drop (s - k) = (putL n s).drop (s - k)) ∧ Hid (wr.ownsRow w.heap.size 5 1 (.slice (some ⟨w.heap.size, 0, none⟩) s s) s (bvs ys)) ∧ Below w.heap.size w wr) (fun _ i _ => s - (intOf i).toNat)
  case atStart => exact ⟨0, _, Nat.zero_le _, rfl, Lib.hid ⟨by simp, by rw [List.drop_of_length_le (by simp), List.drop_of_length_le (by rw [putL_length]; omega)]⟩, Hown, hb1⟩
  case round =>
    obtain ⟨k, ys, hk, rfl, HY, HO, hbel⟩ := hrel
    by_cases hlt : k < s
    · have hcell : ∃ q, wr.cell? ⟨w.heap.size, s - 1 - k, none⟩ = some q := by
        refine ⟨_, (HO.out.cellAt (s - 1 - k) (by omega)).trans (bvs_at ys (s - 1 - k) (by have := HY.out.1; omega))⟩
      obtain ⟨q, hcell⟩ := hcell
      have hfz := HO.out.frozenAt (s - 1 - k)
      go_wp2_with fail
      go_roundw
      case rel =>
        refine ⟨k + 1, ys.set (s - 1 - k) (byteAt n k), by omega, by go_num, Lib.hid ⟨by simpa using HY.out.1, ?_⟩, ?_, ?_⟩
        · have hl := HY.out.1
          rw [show s - (k + 1) = s - 1 - k from by omega, drop_set_here _ _ _ (by omega), putL_drop n s k hlt, show s - 1 - k + 1 = s - k from by omega, HY.out.2]
        · have h := (HO.out.stored (s - 1 - k) (.int .u8 ((byteAt n k).toNat : Int))).1
          rw [bvs_set, byteAt_val] at h
          exact Lib.hid h
        · exact hbel.setCell (Nat.le_refl _) _
      case measure => simp [intOf]; omega
    · have hks : s - k = 0 := by omega
      have hfin : ys = putL n s := by
        have h := HY.out.2
        rwa [hks, List.drop_zero, List.drop_zero] at h
      have HR := Lib.hid hfin
      clear HY hfin hks
      go_wp2_with fail
      go_ret
      refine ⟨some ⟨w.heap.size, 0, none⟩, s, by rw [putL_length]; rfl, ?_, hbel⟩
      have h := HO.out
      rw [HR.out] at h
      rw [putL_length]; exact Lib.hid h
set_option maxHeartbeats 400000 in
theorem put_no (n s : Int) (w : World) (h : s < 1 ∨ 4 < s) :
    Calls Try.prog 21 #[.int .u32 n, .int .i64 s] w (MadeB w []) := by
  have H := Lib.hid h
  clear h
  go_enter Try.func21, Try.ntmps21
  go_wp2_with (go_at_call 33; refine (sized_no _ _ H.out).mono ?_; rintro e w' ⟨rfl, rfl⟩)
  go_ret
  exact ⟨none, 0, rfl, Lib.hid (World.ownsRow_nil _ _ _ _), Below.refl _ _⟩

set_option maxHeartbeats 400000 in
theorem rput_no (n s : Int) (w : World) (h : s < 1 ∨ 4 < s) :
    Calls Try.prog 25 #[.int .u32 n, .int .i64 s] w (MadeB w []) := by
  rcases h with h | h
  · go_enter Try.func25, Try.ntmps25
    go_wp2_with fail
    go_ret
    exact ⟨none, 0, rfl, Lib.hid (World.ownsRow_nil _ _ _ _), Below.refl _ _⟩
  · have h0 : ¬ s < 1 := by omega
    go_enter Try.func25, Try.ntmps25
    go_wp2_with fail
    go_ret
    exact ⟨none, 0, rfl, Lib.hid (World.ownsRow_nil _ _ _ _), Below.refl _ _⟩

set_option maxHeartbeats 1000000 in
theorem rput_yes (n : Int) (s : Nat) (w : World) (hn0 : 0 ≤ n) (hn1 : n < 4294967296) (h1 : 1 ≤ s) (h4 : s ≤ 4) :
    Calls Try.prog 25 #[.int .u32 n, .int .i64 s] w (MadeB w (putL n s)) := by
  obtain ⟨i0, hi, hz0, hz1, hz2⟩ := info_parts info_u8
  have hs4 : (s : Int) ≤ 4 := by omega
  go_enter Try.func25, Try.ntmps25
  go_wp2_with (at_builtin; refine append_bytes Try.underlying29 hi hz0 hz1 hz2 rfl _ _ rfl w.heap.size (.slice (some ⟨w.heap.size + 1, 0, none⟩) 0 0) [] rfl ?c0 w.heap.size (4 - s) (4 - (4 - s)) (4 - (4 - s)) (putL n s) ?c1 rfl ?c2 ?c3 ?c4 ?_)
  case c0 => exact own_empty2 _ _ _
  case c1 => rw [putL_length]; omega
  case c2 =>
    intro i hi
    rw [putL_at, cell_first_of_two]
    rw [putL_length] at hi
    have h := byteAt_four n (s - 1 - i) hn0 hn1 (by omega)
    rw [show 3 - (s - 1 - i) = 4 - s + i from by omega] at h
    have h2 := congrArg (Option.map (Value.int .u8)) h
    rw [← List.getElem?_map] at h2
    simpa using h2
  case c3 => rw [putL_length]; simp; omega
  case c4 => simp; omega
  intro ad1 cap1 w1 hown1 hb1
  go_wp2_with fail
  go_ret
  refine ⟨ad1, cap1, ?_, ?_, ?_⟩
  · simp [putL_length]
  · have h := hown1.out
    exact Lib.hid h
  · exact hb1 _ _ (((Below.refl _ _).alloc (Nat.le_refl _) _).alloc (by simp) _) (Nat.le_refl _)

set_option maxHeartbeats 400000 in
theorem bytes_any (a b : Option Addr) (l m : List UInt8) (c d : Nat) (w : World) (ha : RB w a l) (hb : RB w b m) :
    Calls Try.prog 24 #[.slice a l.length c, .slice b m.length d] w fun e w' => e = .returned (.bool (decide (l = m))) ∧ w = w' := by
  have h1 := ha.conv (cap := c) (dst := 9) Try.underlying29 Try.underlying5 Try.underlying9
  have h2 := hb.conv (cap := d) (dst := 9) Try.underlying29 Try.underlying5 Try.underlying9
  clear ha hb
  go_enter Try.func24, Try.ntmps24
  go_wp2_with fail
  go_ret
  exact ⟨congrArg (fun b => Ending.returned (.bool b)) (by rw [Bool.eq_iff_iff]; simp), rfl⟩

theorem or8 (n c : Int) (h0 : 0 ≤ n) (h1 : n < 16777216) (c0 : 0 ≤ c) (c1 : c < 256) : bits .or .u32 (n * 256) c = n * 256 + c := by
  rw [u32_or _ _ (by omega) (by omega) c0 (by omega), nat_join 8 _ _ (by omega) (by omega)]
  omega

theorem beI_small (l : List UInt8) (h : l.length ≤ 3) : 0 ≤ beI l ∧ beI l < 16777216 := by
  have hb := beI_bd l
  have : l.length = 0 ∨ l.length = 1 ∨ l.length = 2 ∨ l.length = 3 := by omega
  rcases this with h | h | h | h <;> rw [h] at hb <;> exact ⟨hb.1, Int.lt_of_lt_of_le hb.2 (by decide)⟩

theorem beI_four (l : List UInt8) (h : l.length ≤ 4) : 0 ≤ beI l ∧ beI l < 4294967296 := by
  have hb := beI_bd l
  have : l.length = 0 ∨ l.length = 1 ∨ l.length = 2 ∨ l.length = 3 ∨ l.length = 4 := by omega
  rcases this with h | h | h | h | h <;> rw [h] at hb <;> exact ⟨hb.1, Int.lt_of_lt_of_le hb.2 (by decide)⟩

set_option maxHeartbeats 1000000 in
theorem take_any (a : Option Addr) (l : List UInt8) (cap : Nat) (p s : Int) (w : World) (hl : l.length ≤ maxLen) (hr : RB w a l) (hp0 : -9223372036854775808 ≤ p) (hp1 : p ≤ 9223372036854775807) :
    Calls Try.prog 22 #[.slice a l.length cap, .int .i64 p, .int .i64 s] w fun e w' => e = .returned (.tuple #[.int .u32 (takeV l p s), .int .i64 (takeE l p s)]) ∧ w = w' := by
  unfold maxLen at hl
  by_cases hs : s < 1 ∨ 4 < s
  · have hv : takeV l p s = 0 := by rw [takeV, if_pos (by omega)]
    have he : takeE l p s = 1 := by rw [takeE, if_pos (by omega)]
    rw [hv, he]
    clear hv he hr
    have H := Lib.hid hs
    clear hs
    go_enter Try.func22, Try.ntmps22
    go_wp2_with (go_at_call 33; refine (sized_no _ _ H.out).mono ?_; rintro e w' ⟨rfl, rfl⟩)
    go_ret2
    exact ⟨rfl, rfl⟩
  · have hs1 : 1 ≤ s := by omega
    have hs4 : s ≤ 4 := by omega
    by_cases hp : p < 0
    · have hv : takeV l p s = 0 := by rw [takeV, if_pos (by omega)]
      have he : takeE l p s = 1 := by rw [takeE, if_pos (by omega)]
      rw [hv, he]
      clear hv he hr hs
      go_enter Try.func22, Try.ntmps22
      go_wp2_with (go_at_call 33; refine (sized_yes _ _ (by omega) (by omega)).mono ?_; rintro e w' ⟨rfl, rfl⟩)
      go_ret2
      exact ⟨rfl, rfl⟩
    · obtain ⟨q, rfl⟩ := Int.eq_ofNat_of_zero_le (show 0 ≤ p by omega)
      obtain ⟨t, rfl⟩ := Int.eq_ofNat_of_zero_le (show 0 ≤ s by omega)
      have hp' : (0 : Int) ≤ (q : Int) := by omega
      by_cases hsh : (l.length : Int) - q < t
      · have hv : takeV l q t = 0 := by rw [takeV, if_neg (by omega), if_pos hsh]
        have he : takeE l q t = 12 := by rw [takeE, if_neg (by omega), if_pos hsh]
        rw [hv, he]
        clear hv he hr hs hp
        go_enter Try.func22, Try.ntmps22
        go_wp2_with (go_at_call 33; refine (sized_yes _ _ (by omega) (by omega)).mono ?_; rintro e w' ⟨rfl, rfl⟩)
        go_ret2
        exact ⟨rfl, rfl⟩
      · have hv : takeV l q t = beI ((l.drop q).take t) := by rw [takeV, if_neg (by omega), if_neg hsh]; simp
        have he : takeE l q t = 0 := by rw [takeE, if_neg (by omega), if_neg hsh]
        rw [hv, he]
        rcases hr with rfl | ⟨b, off, rfl, hc⟩
        · exact absurd (show ((([] : List UInt8).length : Int) - q < t) by simp; omega) hsh
        have HC := Lib.hid hc
        have hlen : (q : Int) + t ≤ l.length := by omega
        clear hv he hs hp hsh hc
        go_enter Try.func22, Try.ntmps22
        go_wp2_with (go_at_call 33; refine (sized_yes _ _ (by omega) (by omega)).mono ?_; rintro e w' ⟨rfl, rfl⟩)
        go_loop [8, 9, 24] (fun n _ i => ∃ (k : Nat), k ≤ t ∧ i = .int .i64 k ∧ n = .int .u32 (beI ((l.drop q).take k))) (fun _ _ i => t - (intOf i).toNat)
        case atStart => exact ⟨0, Nat.zero_le _, rfl, by simp [beI]⟩
        case round =>
          obtain ⟨k, hk, rfl, rfl⟩ := hrel
          by_cases hlt : k < t
          · have hi : q + k < l.length := by omega
            have hcell := HC.out (q + k) hi
            have hcb := l[q + k].toNat_lt
            have hb := beI_small ((l.drop q).take k) (by simp; omega)
            have hsn : Hid (beI ((l.drop q).take (k + 1)) = beI ((l.drop q).take k) * 256 + l[q + k].toNat) := Lib.hid (by rw [take_drop_snoc l q k hi, beI_snoc])
            have hor := Lib.hid (or8 (beI ((l.drop q).take k)) l[q + k].toNat hb.1 hb.2 (by omega) (by omega))
            go_wp2_with fail
            go_round
            case rel => exact ⟨k + 1, by omega, by go_num, by rw [hor.out, hsn.out]⟩
            case measure => simp [intOf]; omega
          · have hkt : k = t := by omega
            subst hkt
            go_wp2_with fail
            go_ret2
            exact ⟨rfl, rfl⟩

set_option maxHeartbeats 1000000 in
theorem rtake_any (a : Option Addr) (l : List UInt8) (cap : Nat) (p s : Int) (w : World) (hl : l.length ≤ maxLen) (hr : RB w a l) (hp0 : -9223372036854775808 ≤ p) (hp1 : p ≤ 9223372036854775807) :
    Calls Try.prog 23 #[.slice a l.length cap, .int .i64 p, .int .i64 s] w fun e w' => e = .returned (.tuple #[.int .u32 (takeV l p s), .int .i64 (takeE l p s)]) ∧ w = w' := by
  unfold maxLen at hl
  by_cases hs : s < 1 ∨ 4 < s
  · have hv : takeV l p s = 0 := by rw [takeV, if_pos (by omega)]
    have he : takeE l p s = 1 := by rw [takeE, if_pos (by omega)]
    rw [hv, he]
    clear hv he hr
    rcases hs with h | h
    · go_enter Try.func23, Try.ntmps23
      go_wp2_with fail
      go_ret2
      exact ⟨rfl, rfl⟩
    · have h0 : ¬ s < 1 := by omega
      go_enter Try.func23, Try.ntmps23
      go_wp2_with fail
      go_ret2
      exact ⟨rfl, rfl⟩
  · have hs1 : 1 ≤ s := by omega
    have hs4 : s ≤ 4 := by omega
    by_cases hp : p < 0
    · have hv : takeV l p s = 0 := by rw [takeV, if_pos (by omega)]
      have he : takeE l p s = 1 := by rw [takeE, if_pos (by omega)]
      rw [hv, he]
      clear hv he hr hs
      go_enter Try.func23, Try.ntmps23
      go_wp2_with fail
      go_ret2
      exact ⟨rfl, rfl⟩
    · obtain ⟨q, rfl⟩ := Int.eq_ofNat_of_zero_le (show 0 ≤ p by omega)
      obtain ⟨t, rfl⟩ := Int.eq_ofNat_of_zero_le (show 0 ≤ s by omega)
      have hp' : (0 : Int) ≤ (q : Int) := by omega
      have HV : Hid (takeV l q t = if (l.length : Int) - q < t then 0 else beI ((l.drop q).take t)) := Lib.hid (by rw [takeV, if_neg (by omega)]; simp)
      have HE : Hid (takeE l q t = if (l.length : Int) - q < t then 12 else 0) := Lib.hid (by rw [takeE, if_neg (by omega)])
      rcases hr with rfl | ⟨b, off, rfl, hc⟩
      · have hv : takeV [] q t = 0 := by rw [HV.out, if_pos (by simp; omega)]
        have he : takeE [] q t = 12 := by rw [HE.out, if_pos (by simp; omega)]
        rw [hv, he]
        clear hv he HV HE hs hp
        go_enter Try.func23, Try.ntmps23
        go_wp2_with fail
        go_loop [8, 9] (fun n i => i = .int .i64 0 ∧ n = .int .u32 0) (fun _ i => 0)
        case atStart => exact ⟨rfl, rfl⟩
        case round =>
          obtain ⟨rfl, rfl⟩ := hrel
          go_wp2_with fail
          go_ret2
          exact ⟨rfl, rfl⟩
      · generalize takeV l q t = V at HV ⊢
        generalize takeE l q t = E at HE ⊢
        have HC := Lib.hid hc
        clear hs hp hc
        go_enter Try.func23, Try.ntmps23
        go_wp2_with fail
        go_loop [8, 9] (fun n i => ∃ (k : Nat), k ≤ t ∧ Hid (k = 0 ∨ q + k ≤ l.length) ∧ i = .int .i64 k ∧ n = .int .u32 (beI ((l.drop q).take k))) (fun _ i => t - (intOf i).toNat)
        case atStart => exact ⟨0, Nat.zero_le _, Or.inl rfl, rfl, by simp [beI]⟩
        case round =>
          obtain ⟨k, hk, HK, rfl, rfl⟩ := hrel
          by_cases hlt : k < t
          · by_cases hi : q + k < l.length
            · have hcell := HC.out (q + k) hi
              have hcb := l[q + k].toNat_lt
              have hb := beI_small ((l.drop q).take k) (by simp; omega)
              have hsn : Hid (beI ((l.drop q).take (k + 1)) = beI ((l.drop q).take k) * 256 + l[q + k].toNat) := Lib.hid (by rw [take_drop_snoc l q k hi, beI_snoc])
              go_wp2_with fail
              go_round
              case rel => exact ⟨k + 1, by omega, Or.inr (by omega), by go_num, by rw [hsn.out]⟩
              case measure => simp [intOf]; omega
            · have hv : V = 0 := by rw [HV.out, if_pos (by omega)]
              have he : E = 12 := by rw [HE.out, if_pos (by omega)]
              subst hv he
              clear HV HE HK
              go_wp2_with fail
              go_ret2
              exact ⟨rfl, rfl⟩
          · have hkt : k = t := by omega
            subst hkt
            have hle : q + k ≤ l.length := by rcases HK.out with h | h; omega; exact h
            have hv : V = beI ((l.drop q).take k) := by rw [HV.out, if_neg (by omega)]
            have he : E = 0 := by rw [HE.out, if_neg (by omega)]
            subst hv he
            clear HV HE HK
            go_wp2_with fail
            go_ret2
            exact ⟨rfl, rfl⟩

theorem put_any (n s : Int) (w : World) (hn0 : 0 ≤ n) (hn1 : n < 4294967296) :
    Calls Try.prog 21 #[.int .u32 n, .int .i64 s] w (MadeB w (putV n s)) := by
  by_cases h : 1 ≤ s ∧ s ≤ 4
  · obtain ⟨t, rfl⟩ := Int.eq_ofNat_of_zero_le (show 0 ≤ s by omega)
    rw [putV, if_pos h, Int.toNat_natCast]
    exact put_yes n t w hn0 hn1 (by omega) (by omega)
  · rw [putV, if_neg h]
    exact put_no n s w (by omega)
theorem rput_any (n s : Int) (w : World) (hn0 : 0 ≤ n) (hn1 : n < 4294967296) :
    Calls Try.prog 25 #[.int .u32 n, .int .i64 s] w (MadeB w (putV n s)) := by
  by_cases h : 1 ≤ s ∧ s ≤ 4
  · obtain ⟨t, rfl⟩ := Int.eq_ofNat_of_zero_le (show 0 ≤ s by omega)
    rw [putV, if_pos h, Int.toNat_natCast]
    exact rput_yes n t w hn0 hn1 (by omega) (by omega)
  · rw [putV, if_neg h]
    exact rput_no n s w (by omega)

theorem put_const (w : World) :
    Calls Try.prog 21 #[.int .u32 258, .int .i64 3] w fun e w' => ∃ g cap, e = .returned (.slice (some ⟨g, 0, none⟩) 3 cap) ∧ w'.cell? ⟨g, 1, none⟩ = some (.int .u8 1) ∧ Below w.heap.size w w' := by
  refine (put_any 258 3 w (by decide) (by decide)).mono ?_
  rintro e w' ⟨a, cap, he, hown, hb⟩
  rw [show putV 258 3 = [0, 1, 2] from by decide +kernel] at he hown
  rcases hown.out.2 with ⟨h1, h2⟩ | ⟨g, cap', cur, h1, _⟩
  · simp at h2
  · have h' := hown.out
    simp only [Value.slice.injEq] at h1
    obtain ⟨rfl, _, rfl⟩ := h1
    refine ⟨g, cap, he, ?_, hb⟩
    rw [h'.cellAt 1 (by simp), bvs_at _ 1 (by simp)]
    rfl

theorem take_const (w : World) (g : Nat) (h : RB w (some ⟨g, 0, none⟩) [0, 1, 2]) :
    Calls Try.prog 22 #[.slice (some ⟨g, 0, none⟩) 3 3, .int .i64 1, .int .i64 2] w fun e w' => e = .returned (.tuple #[.int .u32 258, .int .i64 0]) ∧ w = w' := by
  have t := take_any (some ⟨g, 0, none⟩) [0, 1, 2] 3 1 2 w (by unfold maxLen; decide) h (by decide) (by decide)
  rw [show takeV [0, 1, 2] 1 2 = 258 from by decide +kernel, show takeE [0, 1, 2] 1 2 = 0 from by decide +kernel] at t
  exact t
theorem rb_const (w : World) : RB (w.alloc (.cells #[.int .u8 0, .int .u8 1, .int .u8 2] 5)) (some ⟨w.heap.size, 0, none⟩) [0, 1, 2] := by
  refine Or.inr ⟨w.heap.size, 0, rfl, fun i hi => ?_⟩
  rw [cell_of_row _ w.heap.size (0 + i) _ _ (0, 0) (heap_alloc_new w _)]
  simp at hi
  have : i = 0 ∨ i = 1 ∨ i = 2 := by omega
  rcases this with rfl | rfl | rfl <;> rfl

theorem beI_putL (n : Int) (h0 : 0 ≤ n) (h1 : n < 4294967296) (s : Nat) (hs : s = 1 ∨ s = 2 ∨ s = 3 ∨ s = 4) : beI (putL n s) = n % 256 ^ s := by
  rcases hs with rfl | rfl | rfl | rfl <;> simp [putL, List.range, List.range.loop, beI, byteAt_val] <;> omega

theorem take_own (l : List UInt8) (n : Int) (h0 : 0 ≤ n) (h1 : n < 4294967296) (s : Nat) (hs : s = 1 ∨ s = 2 ∨ s = 3 ∨ s = 4) :
    takeV (l ++ putL n s) l.length s = n % 256 ^ s ∧ takeE (l ++ putL n s) l.length s = 0 := by
  have hl : (l ++ putL n s).length = l.length + s := by rw [List.length_append, putL_length]
  constructor
  · rw [takeV, if_neg (by omega), if_neg (by omega), Int.toNat_natCast, Int.toNat_natCast, List.drop_left, List.take_of_length_le (by rw [putL_length]; omega), beI_putL n h0 h1 s hs]
  · rw [takeE, if_neg (by omega), if_neg (by omega)]
theorem take_less (l b : List UInt8) (s : Nat) (h : b.length + 1 = l.length + s) (hs : 1 ≤ s) (hs4 : s ≤ 4) :
    takeV b l.length s = 0 ∧ takeE b l.length s = 12 := by
  constructor
  · rw [takeV, if_neg (by omega), if_pos (by omega)]
  · rw [takeE, if_neg (by omega), if_pos (by omega)]
end Go.Proofs.Ytfeggahlhfpfoaa
