/- Digits of a number, in a base: what they say again, and the document's function. -/
import Derived.Test.YtfeggahlhfpfoaaDoorRows
import Derived.Test.YtfeggahlhfpfoaaDoorOctPure
import Derived.Test.YtfeggahlhfpfoaaDoorMem
import Derived.Test.YtfeggahlhfpfoaaDoorOct1
import Derived.Test.YtfeggahlhfpfoaaDoorOctG
import Derived.Test.YtfeggahlhfpfoaaDoorOctH
import Derived.WalkKit
import Derived.WalkSpells
import Derived.WalkLawsBesides
import Derived.Lib.Hide
namespace Go.Proofs.YtfeggahlhfpfoaaDoor
open Go.RowKit
open Oct Mem

def lenOf : Value → Nat | .string t => t.size | _ => 0

def digT (base : Nat) : Nat → Nat → List UInt8 → List UInt8
  | 0, _, acc => acc
  | f + 1, u, acc => if u < base then hexU u :: acc else digT base f (u / base) (hexU (u % base) :: acc)

theorem hexT_dig : ∀ (f u : Nat) (acc : List UInt8), hexT f u acc = digT 16 f u acc
  | 0, _, _ => rfl
  | f + 1, u, acc => by rw [hexT, digT, hexT_dig f]

theorem digT_acc (base : Nat) : ∀ (f u : Nat) (acc : List UInt8), digT base f u acc = digT base f u [] ++ acc
  | 0, _, acc => rfl
  | f + 1, u, acc => by
    rw [digT, digT]
    split
    · rfl
    · rw [digT_acc base f _ (_ :: acc), digT_acc base f _ [_], List.append_assoc]; rfl

theorem digT_more (base : Nat) (hb : 2 ≤ base) : ∀ (f u : Nat) (acc : List UInt8), u < base ^ f → 1 ≤ f → digT base (f + 1) u acc = digT base f u acc
  | 0, u, acc, h, h1 => by omega
  | f + 1, u, acc, h, _ => by
    rw [digT]
    conv => rhs; rw [digT]
    split
    · rfl
    · rcases Nat.eq_zero_or_pos f with h0 | h0
      · subst h0; rw [Nat.pow_one] at h; omega
      · exact digT_more base hb f _ _ (by rw [Nat.pow_succ] at h; exact Nat.div_lt_of_lt_mul (by rw [Nat.mul_comm]; exact h)) h0

theorem digT_dec : ∀ (f u : Nat), u < 10 ^ f → 1 ≤ f → Lib.decDigits u = digT 10 f u []
  | 0, u, h, h1 => by omega
  | f + 1, u, h, _ => by
    rw [Lib.decDigits, digT]
    split
    · rename_i hu
      simp [hexU, hu]
    · rename_i hu
      rcases Nat.eq_zero_or_pos f with h0 | h0
      · subst h0; omega
      · rw [digT_dec f (u / 10) (by rw [Nat.pow_succ] at h; omega) h0, digT_acc 10 f _ [_]]
        congr 2
        simp [hexU, show u % 10 < 10 from by omega]

theorem worth_hexU : ∀ d, d < 16 → worthI (hexU d).toNat = d := by decide +kernel

theorem numF_dig (base : Nat) (hb : 2 ≤ base) (hb2 : base ≤ 16) : ∀ (f u : Nat), u < base ^ f → 1 ≤ f → numF base (digT base f u []) 0 = min (u : Int) 1099511627777
  | 0, u, h, h1 => by omega
  | f + 1, u, h, _ => by
    rw [digT]
    split
    · rename_i hu
      rw [numF, numF, worth_hexU u (by omega), if_neg (by omega)]
      simp; omega
    · rename_i hu
      have hm : u % base < base := Nat.mod_lt _ (by omega)
      rcases Nat.eq_zero_or_pos f with h0 | h0
      · subst h0; rw [Nat.zero_add, Nat.pow_one] at h; omega
      · have ih := numF_dig base hb hb2 f (u / base) (by rw [Nat.pow_succ] at h; exact Nat.div_lt_of_lt_mul (by rw [Nat.mul_comm]; exact h)) h0
        have hd := Nat.div_add_mod u base
        rw [Nat.mul_comm] at hd
        generalize u / base = q at hd ih ⊢
        generalize u % base = r at hd hm ⊢
        rw [digT_acc, numF_append base (by omega) _ _ 0 (by omega) (by omega), ih, if_neg (by omega), numF, numF, worth_hexU r (by omega), if_neg (by omega)]
        have hq : (q : Int) * base + r = u := by exact_mod_cast hd
        rcases Int.lt_or_le (q : Int) 1099511627777 with hlt | hge
        · rw [show min (q : Int) 1099511627777 = q from by omega, hq]; split <;> omega
        · rw [show min (q : Int) 1099511627777 = 1099511627777 from by omega]
          have h1 : (1099511627777 : Int) * 1 ≤ 1099511627777 * base := Int.mul_le_mul_of_nonneg_left (by omega) (by omega)
          have h2 : (1099511627777 : Int) * base ≤ q * base := Int.mul_le_mul_of_nonneg_right hge (by omega)
          split <;> omega

theorem hexU_lt (d : Nat) (h : d < 10) : ((hexU d).toNat : Int) = d + 48 := by
  rw [hexU, if_pos h, UInt8.toNat_ofNat']; omega
theorem hexU_ge (d : Nat) (h : 10 ≤ d) (h2 : d < 16) : ((hexU d).toNat : Int) = d + 87 := by
  rw [hexU, if_neg (by omega), UInt8.toNat_ofNat']; omega

def DigRel (base : Nat) (R : List UInt8) (v : Nat) (acc : List UInt8) (f : Nat) : Prop :=
  (v = 0 ∧ acc = R ∧ R ≠ []) ∨ ((0 < v ∨ acc = []) ∧ digT base f v acc = R ∧ v < base ^ f ∧ 1 ≤ f)

theorem rb_one (w : World) (c : Int) (u : UInt8) (h : c = (u.toNat : Int)) : RB (w.alloc (.cells #[.int .u8 c] 5)) (some ⟨w.heap.size, 0, none⟩) [u] := by
  subst h
  refine Or.inr ⟨w.heap.size, 0, rfl, fun i hi => ?_⟩
  rw [cell_of_row _ w.heap.size (0 + i) _ _ (0, 0) (heap_alloc_new w _)]
  simp at hi
  subst hi
  rfl

theorem DigRel.next {base : Nat} (hb : 2 ≤ base) {R acc : List UInt8} {v f : Nat} (hdig : digT base f v acc = R) (hvb : v < base ^ f) (hf : 1 ≤ f) :
    DigRel base R (v / base) (hexU (v % base) :: acc) (f - 1) := by
  obtain ⟨f', rfl⟩ : ∃ f', f = f' + 1 := ⟨f - 1, by omega⟩
  rw [digT] at hdig
  by_cases h10 : v < base
  · rw [if_pos h10] at hdig
    refine Or.inl ⟨Nat.div_eq_of_lt h10, ?_, ?_⟩
    · rw [← hdig, Nat.mod_eq_of_lt h10]
    · rw [← hdig]; simp
  · rw [if_neg h10] at hdig
    have hq : 1 ≤ v / base := (Nat.le_div_iff_mul_le (by omega)).mpr (by omega)
    have hvq : v / base < base ^ f' := by rw [Nat.pow_succ] at hvb; exact Nat.div_lt_of_lt_mul (by rw [Nat.mul_comm]; exact hvb)
    refine Or.inr ⟨Or.inl (by omega), hdig, hvq, ?_⟩
    rcases Nat.eq_zero_or_pos f' with h | h
    · subst h; rw [Nat.pow_zero] at hvq; omega
    · show 1 ≤ f' + 1 - 1; omega

theorem cat_data (c : UInt8) (acc : ByteArray) : ((⟨#[c]⟩ : ByteArray) ++ acc).data.toList = c :: acc.data.toList := by simp [ByteArray.data_append]
theorem cat_size (c : UInt8) (acc : ByteArray) : ((⟨#[c]⟩ : ByteArray) ++ acc).size = acc.size + 1 := by
  rw [ByteArray.size_append]; have : (ByteArray.mk #[c]).size = 1 := rfl; omega

set_option maxHeartbeats 1000000 in
theorem rdigits10 (n : Nat) (hn : n < 9223372036854775808) (w : World) :
    Calls Tryd.prog 7 #[.int .i64 n, .int .i64 10] w fun e w' => e = .returned (.string ⟨(digT 10 19 n []).toArray⟩) ∧ Below w.heap.size w w' := by
  generalize hR : digT 10 19 n [] = R
  have h0 : Hid (DigRel 10 R n [] 19) := Lib.hid (Or.inr ⟨Or.inr rfl, hR, by omega, by omega⟩)
  clear hR
  go_enter Tryd.func7, Tryd.ntmps7
  go_wp2_with fail
  go_loopw [0, 5, 6] (fun vn vs _ wr => ∃ (v f : Nat) (acc : ByteArray), vn = .int .i64 v ∧ vs = .string acc ∧ v < 9223372036854775808 ∧ acc.size + f ≤ 19 ∧ Hid (DigRel 10 R v acc.data.toList f) ∧ Below w.heap.size w wr) (fun vn vs _ _ => 2 * (intOf vn).toNat + (if lenOf vs = 0 then 1 else 0))
  case atStart => exact ⟨n, 19, ⟨#[]⟩, rfl, rfl, hn, by decide, h0, Below.refl _ _⟩
  case round =>
    obtain ⟨v, f, acc, rfl, rfl, hv, hsz, HD, hbel⟩ := hrel
    rcases HD.out with ⟨hv0, hacc, hne⟩ | ⟨hor, hdig, hvb, hf⟩
    · subst hv0
      have he := empty_no (show acc.data.toList ≠ [] by rw [hacc]; exact hne)
      have hfin : acc = ⟨R.toArray⟩ := Go.WideShapes.bytes_inj hacc
      have Hf := Lib.hid hfin
      clear hfin hacc hne HD
      go_wp2_with fail
      go_ret
      exact ⟨by rw [← Hf.out]; rfl, hbel⟩
    · have HD' := Lib.hid (DigRel.next (by omega) hdig hvb hf)
      have hsp : Hid ((0 < v) ∨ (v = 0 ∧ acc.data.toList = [])) := Lib.hid (by
        rcases hor with h | h
        · exact Or.inl h
        · rcases Nat.eq_zero_or_pos v with h1 | h1
          · exact Or.inr ⟨h1, h⟩
          · exact Or.inl h1)
      clear hor hdig hvb HD
      have hm : v % 10 < 10 := by omega
      rcases hsp.out with hpos | ⟨hz, hem⟩
      · have hpos2 : (0 : Int) < v := by omega
        have hu : (v : Int) % 10 + 48 = ((hexU (v % 10)).toNat : Int) := by rw [hexU_lt _ (by omega)]; omega
        have hcv := (rb_one wr _ _ hu).conv (cap := 1) (src := 30) (dst := 9) Tryd.underlying30 Tryd.underlying5 Tryd.underlying9
        rw [List.length_singleton] at hcv
        clear hu
        go_wp2_with fail
        go_roundw
        case rel => exact ⟨v / 10, f - 1, _, by go_num, rfl, by omega, by rw [cat_size]; omega, by rw [cat_data]; exact HD', hbel.alloc (by have := hbel.size; omega) _⟩
        case measure =>
          have hs := cat_size (hexU (v % 10)) acc
          simp only [intOf, lenOf, hs]
          (repeat' split) <;> omega
      · have he := empty_yes hem
        have has := size_nil hem
        have HS := Lib.hid has
        subst hz
        have hcv := (rb_one wr 48 (hexU 0) rfl).conv (cap := 1) (src := 30) (dst := 9) Tryd.underlying30 Tryd.underlying5 Tryd.underlying9
        rw [List.length_singleton] at hcv
        clear has hem
        go_wp2_with fail
        go_roundw
        case rel => exact ⟨0, f - 1, _, by go_num, rfl, by omega, by rw [cat_size]; omega, by rw [cat_data]; exact HD', hbel.alloc (by have := hbel.size; omega) _⟩
        case measure =>
          have hs := cat_size (hexU 0) acc
          have q1 := HS.out
          simp only [intOf, lenOf, hs]
          simp [q1]

set_option maxHeartbeats 1000000 in
theorem rdigits16 (n : Nat) (hn : n < 9223372036854775808) (w : World) :
    Calls Tryd.prog 7 #[.int .i64 n, .int .i64 16] w fun e w' => e = .returned (.string ⟨(digT 16 16 n []).toArray⟩) ∧ Below w.heap.size w w' := by
  generalize hR : digT 16 16 n [] = R
  have h0 : Hid (DigRel 16 R n [] 16) := Lib.hid (Or.inr ⟨Or.inr rfl, hR, by omega, by omega⟩)
  clear hR
  go_enter Tryd.func7, Tryd.ntmps7
  go_wp2_with fail
  go_loopw [0, 5, 6] (fun vn vs _ wr => ∃ (v f : Nat) (acc : ByteArray), vn = .int .i64 v ∧ vs = .string acc ∧ v < 9223372036854775808 ∧ acc.size + f ≤ 16 ∧ Hid (DigRel 16 R v acc.data.toList f) ∧ Below w.heap.size w wr) (fun vn vs _ _ => 2 * (intOf vn).toNat + (if lenOf vs = 0 then 1 else 0))
  case atStart => exact ⟨n, 16, ⟨#[]⟩, rfl, rfl, hn, by decide, h0, Below.refl _ _⟩
  case round =>
    obtain ⟨v, f, acc, rfl, rfl, hv, hsz, HD, hbel⟩ := hrel
    rcases HD.out with ⟨hv0, hacc, hne⟩ | ⟨hor, hdig, hvb, hf⟩
    · subst hv0
      have he := empty_no (show acc.data.toList ≠ [] by rw [hacc]; exact hne)
      have hfin : acc = ⟨R.toArray⟩ := Go.WideShapes.bytes_inj hacc
      have Hf := Lib.hid hfin
      clear hfin hacc hne HD
      go_wp2_with fail
      go_ret
      exact ⟨by rw [← Hf.out]; rfl, hbel⟩
    · have HD' := Lib.hid (DigRel.next (by omega) hdig hvb hf)
      have hsp : Hid ((0 < v) ∨ (v = 0 ∧ acc.data.toList = [])) := Lib.hid (by
        rcases hor with h | h
        · exact Or.inl h
        · rcases Nat.eq_zero_or_pos v with h1 | h1
          · exact Or.inr ⟨h1, h⟩
          · exact Or.inl h1)
      clear hor hdig hvb HD
      have hm : v % 16 < 16 := by omega
      rcases hsp.out with hpos | ⟨hz, hem⟩
      · have hpos2 : (0 : Int) < v := by omega
        by_cases hlt : v % 16 < 10
        · have hlt2 : (v : Int) % 16 < 10 := by omega
          have hu : (v : Int) % 16 + 48 = ((hexU (v % 16)).toNat : Int) := by rw [hexU_lt _ (by omega)]; omega
          have hcv := (rb_one wr _ _ hu).conv (cap := 1) (src := 30) (dst := 9) Tryd.underlying30 Tryd.underlying5 Tryd.underlying9
          rw [List.length_singleton] at hcv
          clear hu
          go_wp2_with fail
          go_roundw
          case rel => exact ⟨v / 16, f - 1, _, by go_num, rfl, by omega, by rw [cat_size]; omega, by rw [cat_data]; exact HD', hbel.alloc (by have := hbel.size; omega) _⟩
          case measure =>
            have hs := cat_size (hexU (v % 16)) acc
            simp only [intOf, lenOf, hs]
            (repeat' split) <;> omega
        · have hlt2 : ¬ (v : Int) % 16 < 10 := by omega
          have hu : (v : Int) % 16 + 87 = ((hexU (v % 16)).toNat : Int) := by rw [hexU_ge _ (by omega) (by omega)]; omega
          have hcv := (rb_one wr _ _ hu).conv (cap := 1) (src := 30) (dst := 9) Tryd.underlying30 Tryd.underlying5 Tryd.underlying9
          rw [List.length_singleton] at hcv
          clear hu
          go_wp2_with fail
          go_roundw
          case rel => exact ⟨v / 16, f - 1, _, by go_num, rfl, by omega, by rw [cat_size]; omega, by rw [cat_data]; exact HD', hbel.alloc (by have := hbel.size; omega) _⟩
          case measure =>
            have hs := cat_size (hexU (v % 16)) acc
            simp only [intOf, lenOf, hs]
            (repeat' split) <;> omega
      · have he := empty_yes hem
        have has := size_nil hem
        have HS := Lib.hid has
        subst hz
        have hcv := (rb_one wr 48 (hexU 0) rfl).conv (cap := 1) (src := 30) (dst := 9) Tryd.underlying30 Tryd.underlying5 Tryd.underlying9
        rw [List.length_singleton] at hcv
        clear has hem
        go_wp2_with fail
        go_roundw
        case rel => exact ⟨0, f - 1, _, by go_num, rfl, by omega, by rw [cat_size]; omega, by rw [cat_data]; exact HD', hbel.alloc (by have := hbel.size; omega) _⟩
        case measure =>
          have hs := cat_size (hexU 0) acc
          have q1 := HS.out
          simp only [intOf, lenOf, hs]
          simp [q1]

set_option maxHeartbeats 400000 in
theorem rdigits_neg (n b : Int) (hn : n < 0) (w : World) :
    Calls Tryd.prog 7 #[.int .i64 n, .int .i64 b] w fun e w' => e = .returned (.string ⟨#[]⟩) ∧ w = w' := by
  go_enter Tryd.func7, Tryd.ntmps7
  go_wp2_with fail
  go_ret
  exact ⟨rfl, rfl⟩
set_option maxHeartbeats 400000 in
theorem text_neg (n b : Int) (hn : n < 0) (w : World) :
    Calls Tryd.prog 10 #[.int .i64 n, .int .i64 b] w fun e w' => e = .returned (.string ⟨#[]⟩) ∧ w = w' := by
  go_enter Tryd.func10, Tryd.ntmps10
  go_wp2_with fail
  go_ret
  exact ⟨rfl, rfl⟩
set_option maxHeartbeats 400000 in
theorem digits_neg (n : Int) (hn : n < 0) (w : World) :
    Calls Tryd.prog 5 #[.int .i64 n] w fun e w' => e = .returned (.string ⟨#[]⟩) ∧ w = w' := by
  go_enter Tryd.func5, Tryd.ntmps5
  go_wp2_with (go_at_call 10; refine (text_neg _ _ hn _).mono ?_; rintro e w' ⟨rfl, rfl⟩)
  go_ret
  exact ⟨rfl, rfl⟩
set_option maxHeartbeats 400000 in
theorem hexdigits_neg (n : Int) (hn : n < 0) (w : World) :
    Calls Tryd.prog 6 #[.int .i64 n] w fun e w' => e = .returned (.string ⟨#[]⟩) ∧ w = w' := by
  go_enter Tryd.func6, Tryd.ntmps6
  go_wp2_with (go_at_call 10; refine (text_neg _ _ hn _).mono ?_; rintro e w' ⟨rfl, rfl⟩)
  go_ret
  exact ⟨rfl, rfl⟩

theorem digT_ne (base f u : Nat) (h : 1 ≤ f) : digT base f u [] ≠ [] := by
  obtain ⟨f', rfl⟩ : ∃ f', f = f' + 1 := ⟨f - 1, by omega⟩
  rw [digT]; split
  · simp
  · rw [digT_acc]; simp

theorem digT_len (base : Nat) : ∀ (f u : Nat), (digT base f u []).length ≤ f
  | 0, _ => Nat.le_refl _
  | f + 1, u => by
    rw [digT]; split
    · simp
    · rw [digT_acc, List.length_append, List.length_singleton]
      exact Nat.succ_le_succ (digT_len base f _)
/-- What the digits of a number say again. -/
theorem back_dig (base : Nat) (hb : 2 ≤ base) (hb2 : base ≤ 16) (f u : Nat) (h : u < base ^ f) (h1 : 1 ≤ f) :
    numV base (digT base f u []) = (if 1099511627776 < (u : Int) then 0 else (u : Int)) ∧ numE base (digT base f u []) = (if 1099511627776 < (u : Int) then 11 else 0) := by
  have hF := numF_dig base hb hb2 f u h h1
  have hne := digT_ne base f u h1
  constructor
  · rw [numV, if_neg hne, hF, if_neg (by omega)]
    by_cases hg : 1099511627776 < (u : Int)
    · rw [if_pos (by omega), if_pos hg]
    · rw [if_neg (by omega), if_neg hg]; omega
  · rw [numE, if_neg hne, hF, if_neg (by omega)]
    by_cases hg : 1099511627776 < (u : Int)
    · rw [if_pos (by omega), if_pos hg]
    · rw [if_neg (by omega), if_neg hg]
theorem back_hex0 (f u : Nat) (h : u < 16 ^ f) (h1 : 1 ≤ f) :
    numV 16 (48 :: digT 16 f u []) = (if 1099511627776 < (u : Int) then 0 else (u : Int)) ∧ numE 16 (48 :: digT 16 f u []) = (if 1099511627776 < (u : Int) then 11 else 0) := by
  have hF := numF_dig 16 (by omega) (by omega) f u h h1
  have h48 : numF 16 (48 :: digT 16 f u []) 0 = min (u : Int) 1099511627777 := by
    rw [numF, show worthI ((48 : UInt8).toNat : Int) = 0 from by decide, if_neg (by omega)]
    simpa using hF
  constructor
  · rw [numV, if_neg (by simp), h48, if_neg (by omega)]
    by_cases hg : 1099511627776 < (u : Int)
    · rw [if_pos (by omega), if_pos hg]
    · rw [if_neg (by omega), if_neg hg]; omega
  · rw [numE, if_neg (by simp), h48, if_neg (by omega)]
    by_cases hg : 1099511627776 < (u : Int)
    · rw [if_pos (by omega), if_pos hg]
    · rw [if_neg (by omega), if_neg hg]
end Go.Proofs.YtfeggahlhfpfoaaDoor
