/- Plain functions on bytes and lists for layer 1: what its calls compute. -/
import Derived.WalkKit
namespace Go.Proofs.YtfeggahlhfpfoaaDoor
namespace Oct

def smallI (c : Int) : Int := if 65 ≤ c ∧ c ≤ 90 then c + 32 else c

theorem smallI_bd (c : Int) (h0 : 0 ≤ c) (h1 : c ≤ 255) : 0 ≤ smallI c ∧ smallI c ≤ 255 := by
  unfold smallI; split <;> omega

def worthI (c : Int) : Int :=
  if 48 ≤ c ∧ c ≤ 57 then c - 48 else if 97 ≤ c ∧ c ≤ 102 then c - 87 else if 65 ≤ c ∧ c ≤ 70 then c - 55 else 99

theorem worthI_bd (c : Int) : 0 ≤ worthI c ∧ worthI c ≤ 99 := by
  unfold worthI; (repeat' split) <;> omega

def numF (base : Int) : List UInt8 → Int → Int
  | [], n => n
  | c :: r, n => if base ≤ worthI c.toNat then -1 else numF base r (if 1099511627777 < n * base + worthI c.toNat then 1099511627777 else n * base + worthI c.toNat)

def numV (base : Int) (l : List UInt8) : Int :=
  if l = [] then 0 else if numF base l 0 = -1 then 0 else if 1099511627776 < numF base l 0 then 0 else numF base l 0

def numE (base : Int) (l : List UInt8) : Int :=
  if l = [] then 10 else if numF base l 0 = -1 then 10 else if 1099511627776 < numF base l 0 then 11 else 0

theorem drop_at (s : ByteArray) (k : Nat) (h : k < s.size) : s.data.toList.drop k = s[k] :: s.data.toList.drop (k + 1) := by
  rw [List.drop_eq_getElem_cons (by simpa using h)]; rfl

theorem drop_end (s : ByteArray) (k : Nat) (h : s.size ≤ k) : s.data.toList.drop k = [] := by
  rw [List.drop_eq_nil_iff]; simpa using h

theorem numF_stop (base : Int) (s : ByteArray) (k : Nat) (n : Int) (h : k < s.size) (hw : base ≤ worthI s[k].toNat) :
    numF base (s.data.toList.drop k) n = -1 := by
  rw [drop_at s k h, numF, if_pos hw]

theorem numF_go (base : Int) (s : ByteArray) (k : Nat) (n : Int) (h : k < s.size) (hw : ¬ base ≤ worthI s[k].toNat) :
    numF base (s.data.toList.drop k) n = numF base (s.data.toList.drop (k + 1)) (if 1099511627777 < n * base + worthI s[k].toNat then 1099511627777 else n * base + worthI s[k].toNat) := by
  rw [drop_at s k h, numF, if_neg hw]

theorem numF_end (base : Int) (s : ByteArray) (k : Nat) (n : Int) (h : s.size ≤ k) : numF base (s.data.toList.drop k) n = n := by
  rw [drop_end s k h, numF]

def signB (c : Int) : Bool := decide (c = 33 ∨ (35 ≤ c ∧ c ≤ 39) ∨ c = 42 ∨ c = 43 ∨ c = 45 ∨ c = 46 ∨ c = 94 ∨ c = 95 ∨ c = 96 ∨ c = 124 ∨ c = 126)
def tokB (c : Int) : Bool := decide ((48 ≤ c ∧ c ≤ 57) ∨ (65 ≤ c ∧ c ≤ 90) ∨ (97 ≤ c ∧ c ≤ 122) ∨ c = 33 ∨ (35 ≤ c ∧ c ≤ 39) ∨ c = 42 ∨ c = 43 ∨ c = 45 ∨ c = 46 ∨ c = 94 ∨ c = 95 ∨ c = 96 ∨ c = 124 ∨ c = 126)
def blankB (c : Int) : Bool := decide (c = 32 ∨ c = 9)
def valB (c : Int) : Bool := decide (c = 32 ∨ c = 9 ∨ (33 ≤ c ∧ c ≤ 126) ∨ 128 ≤ c)

theorem tok_val (c : Int) (h : tokB c = true) : valB c = true := by
  unfold tokB at h; unfold valB; simp at *; omega

def tokF : List UInt8 → Bool
  | [] => true
  | c :: r => tokB c.toNat && tokF r
def valF : List UInt8 → Bool
  | [] => true
  | c :: r => valB c.toNat && valF r

theorem tokF_go (s : ByteArray) (k : Nat) (h : k < s.size) : tokF (s.data.toList.drop k) = (tokB s[k].toNat && tokF (s.data.toList.drop (k + 1))) := by
  rw [drop_at s k h, tokF]
theorem valF_go (s : ByteArray) (k : Nat) (h : k < s.size) : valF (s.data.toList.drop k) = (valB s[k].toNat && valF (s.data.toList.drop (k + 1))) := by
  rw [drop_at s k h, valF]
theorem tokF_end (s : ByteArray) (k : Nat) (h : s.size ≤ k) : tokF (s.data.toList.drop k) = true := by rw [drop_end s k h, tokF]
theorem valF_end (s : ByteArray) (k : Nat) (h : s.size ≤ k) : valF (s.data.toList.drop k) = true := by rw [drop_end s k h, valF]

/-- Token(s). -/
def tokenV (l : List UInt8) : Bool := !l.isEmpty && tokF l
/-- Value(s). -/
def valueV (l : List UInt8) : Bool :=
  valF l && (!blankB (l.getD 0 0).toNat && !blankB (l.getD (l.length - 1) 0).toNat)

theorem at_getD (s : ByteArray) (k : Nat) (h : k < s.size) : s.data.toList.getD k 0 = s[k] := by
  rw [List.getD_eq_getElem?_getD, List.getElem?_eq_getElem (by simpa using h)]; rfl
theorem list_len (s : ByteArray) : s.data.toList.length = s.size := by simp
theorem size_pos {s : ByteArray} (h : s.data.toList ≠ []) : 0 < s.size := by
  rw [← list_len]; exact List.length_pos_iff.mpr h
theorem size_nil {s : ByteArray} (h : s.data.toList = []) : s.size = 0 := by rw [← list_len, h]; rfl

def clsI (c : Int) : Int := if tokB c = true then 3 else if valB c = true then 1 else 0

theorem tok_iff (c : Int) : tokB c = true ↔ ((48 ≤ c ∧ c ≤ 57) ∨ (97 ≤ smallI c ∧ smallI c ≤ 122) ∨ signB c = true) := by
  unfold tokB signB smallI; simp only [decide_eq_true_eq]; split <;> omega

theorem val_iff (c : Int) : valB c = true ↔ ((33 ≤ c ∧ c ≤ 126) ∨ 128 ≤ c ∨ blankB c = true) := by
  unfold valB blankB; simp only [decide_eq_true_eq]; omega

theorem cls3 (c : Int) (h : tokB c = true) : clsI c = 3 := by rw [clsI, if_pos h]
theorem cls1 (c : Int) (h : ¬ tokB c = true) (h' : valB c = true) : clsI c = 1 := by rw [clsI, if_neg h, if_pos h']
theorem cls0 (c : Int) (h : ¬ tokB c = true) (h' : ¬ valB c = true) : clsI c = 0 := by rw [clsI, if_neg h, if_neg h']

def lowU (c : UInt8) : UInt8 := UInt8.ofNat (smallI c.toNat).toNat
theorem lowU_val (c : UInt8) : ((lowU c).toNat : Int) = smallI c.toNat := by
  have h := smallI_bd c.toNat (by omega) (by have := c.toNat_lt; omega)
  unfold lowU
  rw [UInt8.toNat_ofNat']
  omega
def lowL (l : List UInt8) : List UInt8 := l.map lowU
theorem lowL_snoc (s : ByteArray) (k : Nat) (h : k < s.size) : lowL (s.data.toList.take (k + 1)) = lowL (s.data.toList.take k) ++ [lowU s[k]] := by
  rw [List.take_succ_eq_append_getElem (by simpa using h)]; simp [lowL]; rfl

def blankU (c : UInt8) : Bool := blankB c.toNat
def leadL (l : List UInt8) : List UInt8 := l.dropWhile blankU
def tailL (l : List UInt8) : List UInt8 := (l.reverse.dropWhile blankU).reverse
/-- Trim(s). -/
def trimL (l : List UInt8) : List UInt8 := tailL (leadL l)

theorem ext1 (t : ByteArray) (h : 0 < t.size) : t.data.toList = t[0] :: (t.extract 1 t.size).data.toList := by
  have hd := drop_at t 0 h
  rw [List.drop_zero] at hd
  have he : (t.extract 1 t.size).data.toList = t.data.toList.drop 1 := by
    rw [ByteArray.data_extract, Array.toList_extract, List.extract, List.take_of_length_le (by simp)]
  rw [he]; exact hd
theorem ext1_size (t : ByteArray) : (t.extract 1 t.size).size = t.size - 1 := by simp
theorem ext2 (t : ByteArray) (h : 0 < t.size) : t.data.toList = (t.extract 0 (t.size - 1)).data.toList ++ [t[t.size - 1]] := by
  rw [ByteArray.data_extract, Array.toList_extract]
  have hd := drop_at t (t.size - 1) (by omega)
  rw [show t.size - 1 + 1 = t.size from by omega, drop_end t t.size (Nat.le_refl _)] at hd
  rw [← hd]
  simp [List.extract]
theorem ext2_size (t : ByteArray) : (t.extract 0 (t.size - 1)).size = t.size - 1 := by simp

theorem leadL_blank (c : UInt8) (r : List UInt8) (h : blankU c = true) : leadL (c :: r) = leadL r := by simp [leadL, h]
theorem leadL_stop (c : UInt8) (r : List UInt8) (h : blankU c = false) : leadL (c :: r) = c :: r := by simp [leadL, h]
theorem tailL_blank (c : UInt8) (r : List UInt8) (h : blankU c = true) : tailL (r ++ [c]) = tailL r := by simp [tailL, h]
theorem tailL_stop (c : UInt8) (r : List UInt8) (h : blankU c = false) : tailL (r ++ [c]) = r ++ [c] := by simp [tailL, h]

theorem lowL_step (s t : ByteArray) (k : Nat) (h : k < s.size) (h' : k < t.size) :
    decide (lowL (s.data.toList.drop k) = lowL (t.data.toList.drop k)) = (decide (smallI s[k].toNat = smallI t[k].toNat) && decide (lowL (s.data.toList.drop (k + 1)) = lowL (t.data.toList.drop (k + 1)))) := by
  rw [drop_at s k h, drop_at t k h']
  unfold lowL
  rw [List.map_cons, List.map_cons, Bool.eq_iff_iff]
  simp only [decide_eq_true_eq, Bool.and_eq_true, List.cons.injEq]
  rw [← lowU_val, ← lowU_val]
  constructor
  · rintro ⟨a, b⟩; exact ⟨by rw [a], b⟩
  · rintro ⟨a, b⟩; exact ⟨UInt8.toNat_inj.mp (by omega), b⟩
theorem lowL_length (l : List UInt8) : (lowL l).length = l.length := by simp [lowL]

theorem smallI_idem (c : Int) : smallI (smallI c) = smallI c := by unfold smallI; (repeat' split) <;> omega
theorem lowU_idem (c : UInt8) : lowU (lowU c) = lowU c := by
  apply UInt8.toNat_inj.mp
  have h1 := lowU_val (lowU c)
  have h2 := lowU_val c
  rw [h2, smallI_idem] at h1
  omega
theorem lowL_idem (l : List UInt8) : lowL (lowL l) = lowL l := by simp [lowL, lowU_idem]

/-- Byte k of a number, from the lowest on. -/
def byteAt (n : Int) (k : Nat) : UInt8 := UInt8.ofNat (n / 2 ^ (8 * k) % 256).toNat
theorem byteAt_val (n : Int) (k : Nat) : ((byteAt n k).toNat : Int) = n / 2 ^ (8 * k) % 256 := by
  have h0 : 0 ≤ n / 2 ^ (8 * k) % 256 := Int.emod_nonneg _ (by decide)
  have h1 : n / 2 ^ (8 * k) % 256 < 256 := Int.emod_lt_of_pos _ (by decide)
  unfold byteAt
  rw [UInt8.toNat_ofNat']
  omega
def putL (n : Int) (s : Nat) : List UInt8 := (List.range s).map fun j => byteAt n (s - 1 - j)
theorem putL_length (n : Int) (s : Nat) : (putL n s).length = s := by simp [putL]
theorem putL_drop (n : Int) (s k : Nat) (h : k < s) : (putL n s).drop (s - 1 - k) = byteAt n k :: (putL n s).drop (s - k) := by
  have hl := putL_length n s
  rw [List.drop_eq_getElem_cons (by omega), show s - 1 - k + 1 = s - k from by omega]
  congr 1
  simp [putL]
  congr 1; omega
theorem putL_at (n : Int) (s i : Nat) (h : i < (putL n s).length) : (putL n s)[i] = byteAt n (s - 1 - i) := by simp [putL]
theorem byteAt_four (n : Int) (k : Nat) (hn0 : 0 ≤ n) (hn1 : n < 4294967296) (h : k < 4) :
    [n / 16777216, n / 65536 % 256, n / 256 % 256, n % 256][3 - k]? = some ((byteAt n k).toNat : Int) := by
  rw [byteAt_val]
  have : k = 0 ∨ k = 1 ∨ k = 2 ∨ k = 3 := by omega
  rcases this with rfl | rfl | rfl | rfl
  · simp
  · simp
  · simp
  · simp
    omega
theorem drop_set_here (ys : List UInt8) (j : Nat) (c : UInt8) (h : j < ys.length) : (ys.set j c).drop j = c :: ys.drop (j + 1) := by
  rw [List.drop_eq_getElem_cons (by simpa using h), List.drop_set_of_lt (by omega)]
  simp
/-- The number that bytes say, the highest first. -/
def beI (l : List UInt8) : Int := l.foldl (fun n c => n * 256 + (c.toNat : Int)) 0
theorem beI_snoc (l : List UInt8) (c : UInt8) : beI (l ++ [c]) = beI l * 256 + c.toNat := by simp [beI]
theorem beI_from (l : List UInt8) : ∀ n : Int, 0 ≤ n → 0 ≤ l.foldl (fun n c => n * 256 + (c.toNat : Int)) n ∧ l.foldl (fun n c => n * 256 + (c.toNat : Int)) n < (n + 1) * 256 ^ l.length := by
  induction l with
  | nil => intro n h; simp; omega
  | cons c r ih =>
    intro n h
    have hc := c.toNat_lt
    obtain ⟨h1, h2⟩ := ih (n * 256 + c.toNat) (by omega)
    refine ⟨h1, Int.lt_of_lt_of_le h2 ?_⟩
    rw [List.length_cons, Int.pow_succ, Int.mul_comm (256 ^ r.length) 256, ← Int.mul_assoc]
    exact Int.mul_le_mul_of_nonneg_right (by omega) (Int.pow_nonneg (by decide))
theorem beI_bd (l : List UInt8) : 0 ≤ beI l ∧ beI l < 256 ^ l.length := by
  have h := beI_from l 0 (by decide)
  refine ⟨h.1, ?_⟩
  have h2 := h.2
  rw [Int.zero_add, Int.one_mul] at h2
  exact h2
def takeV (l : List UInt8) (at' size : Int) : Int :=
  if size < 1 ∨ 4 < size ∨ at' < 0 then 0 else if (l.length : Int) - at' < size then 0 else beI ((l.drop at'.toNat).take size.toNat)
def takeE (l : List UInt8) (at' size : Int) : Int :=
  if size < 1 ∨ 4 < size ∨ at' < 0 then 1 else if (l.length : Int) - at' < size then 12 else 0
theorem take_drop_snoc (l : List UInt8) (a k : Nat) (h : a + k < l.length) : (l.drop a).take (k + 1) = (l.drop a).take k ++ [l[a + k]] := by
  rw [List.take_succ_eq_append_getElem (by rw [List.length_drop]; omega)]
  simp
end Oct
end Go.Proofs.YtfeggahlhfpfoaaDoor
