/- Plain functions on bytes and lists for layer 1: what its calls compute. Layer 6 without the program: frames as bytes, and what is wrong with bytes that come as frames. Layer 6 without the program: what is written is taken as it was; what stands behind changes nothing; no beginning is a frame. Layer 6 without the program: a frame that may be written is read as it was. Layer 6 without the program: the highest bits that aren't looked at. Layer 7 without the program: items of bytes that come, and of bytes that come in pieces. -/
import Derived.WalkKit
set_option linter.unusedVariables false
set_option linter.unusedSimpArgs false
namespace Go.Proofs.YtglhdlkmgmbgeaaDoor
namespace Oct

def smallI (c : Int) : Int := if 65 ≤ c ∧ c ≤ 90 then c + 32 else c

theorem smallI_bd (c : Int) (h0 : 0 ≤ c) (h1 : c ≤ 255) : 0 ≤ smallI c ∧ smallI c ≤ 255 := by
  unfold smallI; split <;> omega

def worthI (c : Int) : Int :=
  if 48 ≤ c ∧ c ≤ 57 then c - 48 else if 97 ≤ c ∧ c ≤ 102 then c - 87 else if 65 ≤ c ∧ c ≤ 70 then c - 55 else 99

theorem worthI_bd (c : Int) : 0 ≤ worthI c ∧ worthI c ≤ 99 := by
  unfold worthI; (repeat' split) <;> omega

def numF (base : Int) : List UInt8 → Int → Int
  | [], n => n
  | c :: r, n => if base ≤ worthI c.toNat then -1 else numF base r (if 1099511627777 < n * base + worthI c.toNat then 1099511627777 else n * base + worthI c.toNat)

def numV (base : Int) (l : List UInt8) : Int :=
  if l = [] then 0 else if numF base l 0 = -1 then 0 else if 1099511627776 < numF base l 0 then 0 else numF base l 0

def numE (base : Int) (l : List UInt8) : Int :=
  if l = [] then 10 else if numF base l 0 = -1 then 10 else if 1099511627776 < numF base l 0 then 11 else 0

theorem drop_at (s : ByteArray) (k : Nat) (h : k < s.size) : s.data.toList.drop k = s[k] :: s.data.toList.drop (k + 1) := by
  rw [List.drop_eq_getElem_cons (by simpa using h)]; rfl

theorem drop_end (s : ByteArray) (k : Nat) (h : s.size ≤ k) : s.data.toList.drop k = [] := by
  rw [List.drop_eq_nil_iff]; simpa using h

theorem numF_stop (base : Int) (s : ByteArray) (k : Nat) (n : Int) (h : k < s.size) (hw : base ≤ worthI s[k].toNat) :
    numF base (s.data.toList.drop k) n = -1 := by
  rw [drop_at s k h, numF, if_pos hw]

theorem numF_go (base : Int) (s : ByteArray) (k : Nat) (n : Int) (h : k < s.size) (hw : ¬ base ≤ worthI s[k].toNat) :
    numF base (s.data.toList.drop k) n = numF base (s.data.toList.drop (k + 1)) (if 1099511627777 < n * base + worthI s[k].toNat then 1099511627777 else n * base + worthI s[k].toNat) := by
  rw [drop_at s k h, numF, if_neg hw]

theorem numF_end (base : Int) (s : ByteArray) (k : Nat) (n : Int) (h : s.size ≤ k) : numF base (s.data.toList.drop k) n = n := by
  rw [drop_end s k h, numF]

def signB (c : Int) : Bool := decide (c = 33 ∨ (35 ≤ c ∧ c ≤ 39) ∨ c = 42 ∨ c = 43 ∨ c = 45 ∨ c = 46 ∨ c = 94 ∨ c = 95 ∨ c = 96 ∨ c = 124 ∨ c = 126)
def tokB (c : Int) : Bool := decide ((48 ≤ c ∧ c ≤ 57) ∨ (65 ≤ c ∧ c ≤ 90) ∨ (97 ≤ c ∧ c ≤ 122) ∨ c = 33 ∨ (35 ≤ c ∧ c ≤ 39) ∨ c = 42 ∨ c = 43 ∨ c = 45 ∨ c = 46 ∨ c = 94 ∨ c = 95 ∨ c = 96 ∨ c = 124 ∨ c = 126)
def blankB (c : Int) : Bool := decide (c = 32 ∨ c = 9)
def valB (c : Int) : Bool := decide (c = 32 ∨ c = 9 ∨ (33 ≤ c ∧ c ≤ 126) ∨ 128 ≤ c)

theorem tok_val (c : Int) (h : tokB c = true) : valB c = true := by
  unfold tokB at h; unfold valB; simp at *; omega

def tokF : List UInt8 → Bool
  | [] => true
  | c :: r => tokB c.toNat && tokF r
def valF : List UInt8 → Bool
  | [] => true
  | c :: r => valB c.toNat && valF r

theorem tokF_go (s : ByteArray) (k : Nat) (h : k < s.size) : tokF (s.data.toList.drop k) = (tokB s[k].toNat && tokF (s.data.toList.drop (k + 1))) := by
  rw [drop_at s k h, tokF]
theorem valF_go (s : ByteArray) (k : Nat) (h : k < s.size) : valF (s.data.toList.drop k) = (valB s[k].toNat && valF (s.data.toList.drop (k + 1))) := by
  rw [drop_at s k h, valF]
theorem tokF_end (s : ByteArray) (k : Nat) (h : s.size ≤ k) : tokF (s.data.toList.drop k) = true := by rw [drop_end s k h, tokF]
theorem valF_end (s : ByteArray) (k : Nat) (h : s.size ≤ k) : valF (s.data.toList.drop k) = true := by rw [drop_end s k h, valF]

/-- Token(s). -/
def tokenV (l : List UInt8) : Bool := !l.isEmpty && tokF l
/-- Value(s). -/
def valueV (l : List UInt8) : Bool :=
  valF l && (!blankB (l.getD 0 0).toNat && !blankB (l.getD (l.length - 1) 0).toNat)

theorem at_getD (s : ByteArray) (k : Nat) (h : k < s.size) : s.data.toList.getD k 0 = s[k] := by
  rw [List.getD_eq_getElem?_getD, List.getElem?_eq_getElem (by simpa using h)]; rfl
theorem list_len (s : ByteArray) : s.data.toList.length = s.size := by simp
theorem size_pos {s : ByteArray} (h : s.data.toList ≠ []) : 0 < s.size := by
  rw [← list_len]; exact List.length_pos_iff.mpr h
theorem size_nil {s : ByteArray} (h : s.data.toList = []) : s.size = 0 := by rw [← list_len, h]; rfl

def clsI (c : Int) : Int := if tokB c = true then 3 else if valB c = true then 1 else 0

theorem tok_iff (c : Int) : tokB c = true ↔ ((48 ≤ c ∧ c ≤ 57) ∨ (97 ≤ smallI c ∧ smallI c ≤ 122) ∨ signB c = true) := by
  unfold tokB signB smallI; simp only [decide_eq_true_eq]; split <;> omega

theorem val_iff (c : Int) : valB c = true ↔ ((33 ≤ c ∧ c ≤ 126) ∨ 128 ≤ c ∨ blankB c = true) := by
  unfold valB blankB; simp only [decide_eq_true_eq]; omega

theorem cls3 (c : Int) (h : tokB c = true) : clsI c = 3 := by rw [clsI, if_pos h]
theorem cls1 (c : Int) (h : ¬ tokB c = true) (h' : valB c = true) : clsI c = 1 := by rw [clsI, if_neg h, if_pos h']
theorem cls0 (c : Int) (h : ¬ tokB c = true) (h' : ¬ valB c = true) : clsI c = 0 := by rw [clsI, if_neg h, if_neg h']

def lowU (c : UInt8) : UInt8 := UInt8.ofNat (smallI c.toNat).toNat
theorem lowU_val (c : UInt8) : ((lowU c).toNat : Int) = smallI c.toNat := by
  have h := smallI_bd c.toNat (by omega) (by have := c.toNat_lt; omega)
  unfold lowU
  rw [UInt8.toNat_ofNat']
  omega
def lowL (l : List UInt8) : List UInt8 := l.map lowU
theorem lowL_snoc (s : ByteArray) (k : Nat) (h : k < s.size) : lowL (s.data.toList.take (k + 1)) = lowL (s.data.toList.take k) ++ [lowU s[k]] := by
  rw [List.take_succ_eq_append_getElem (by simpa using h)]; simp [lowL]; rfl

def blankU (c : UInt8) : Bool := blankB c.toNat
def leadL (l : List UInt8) : List UInt8 := l.dropWhile blankU
def tailL (l : List UInt8) : List UInt8 := (l.reverse.dropWhile blankU).reverse
/-- Trim(s). -/
def trimL (l : List UInt8) : List UInt8 := tailL (leadL l)

theorem ext1 (t : ByteArray) (h : 0 < t.size) : t.data.toList = t[0] :: (t.extract 1 t.size).data.toList := by
  have hd := drop_at t 0 h
  rw [List.drop_zero] at hd
  have he : (t.extract 1 t.size).data.toList = t.data.toList.drop 1 := by
    rw [ByteArray.data_extract, Array.toList_extract, List.extract, List.take_of_length_le (by simp)]
  rw [he]; exact hd
theorem ext1_size (t : ByteArray) : (t.extract 1 t.size).size = t.size - 1 := by simp
theorem ext2 (t : ByteArray) (h : 0 < t.size) : t.data.toList = (t.extract 0 (t.size - 1)).data.toList ++ [t[t.size - 1]] := by
  rw [ByteArray.data_extract, Array.toList_extract]
  have hd := drop_at t (t.size - 1) (by omega)
  rw [show t.size - 1 + 1 = t.size from by omega, drop_end t t.size (Nat.le_refl _)] at hd
  rw [← hd]
  simp [List.extract]
theorem ext2_size (t : ByteArray) : (t.extract 0 (t.size - 1)).size = t.size - 1 := by simp

theorem leadL_blank (c : UInt8) (r : List UInt8) (h : blankU c = true) : leadL (c :: r) = leadL r := by simp [leadL, h]
theorem leadL_stop (c : UInt8) (r : List UInt8) (h : blankU c = false) : leadL (c :: r) = c :: r := by simp [leadL, h]
theorem tailL_blank (c : UInt8) (r : List UInt8) (h : blankU c = true) : tailL (r ++ [c]) = tailL r := by simp [tailL, h]
theorem tailL_stop (c : UInt8) (r : List UInt8) (h : blankU c = false) : tailL (r ++ [c]) = r ++ [c] := by simp [tailL, h]

theorem lowL_step (s t : ByteArray) (k : Nat) (h : k < s.size) (h' : k < t.size) :
    decide (lowL (s.data.toList.drop k) = lowL (t.data.toList.drop k)) = (decide (smallI s[k].toNat = smallI t[k].toNat) && decide (lowL (s.data.toList.drop (k + 1)) = lowL (t.data.toList.drop (k + 1)))) := by
  rw [drop_at s k h, drop_at t k h']
  unfold lowL
  rw [List.map_cons, List.map_cons, Bool.eq_iff_iff]
  simp only [decide_eq_true_eq, Bool.and_eq_true, List.cons.injEq]
  rw [← lowU_val, ← lowU_val]
  constructor
  · rintro ⟨a, b⟩; exact ⟨by rw [a], b⟩
  · rintro ⟨a, b⟩; exact ⟨UInt8.toNat_inj.mp (by omega), b⟩
theorem lowL_length (l : List UInt8) : (lowL l).length = l.length := by simp [lowL]

theorem smallI_idem (c : Int) : smallI (smallI c) = smallI c := by unfold smallI; (repeat' split) <;> omega
theorem lowU_idem (c : UInt8) : lowU (lowU c) = lowU c := by
  apply UInt8.toNat_inj.mp
  have h1 := lowU_val (lowU c)
  have h2 := lowU_val c
  rw [h2, smallI_idem] at h1
  omega
theorem lowL_idem (l : List UInt8) : lowL (lowL l) = lowL l := by simp [lowL, lowU_idem]

/-- Byte k of a number, from the lowest on. -/
def byteAt (n : Int) (k : Nat) : UInt8 := UInt8.ofNat (n / 2 ^ (8 * k) % 256).toNat
theorem byteAt_val (n : Int) (k : Nat) : ((byteAt n k).toNat : Int) = n / 2 ^ (8 * k) % 256 := by
  have h0 : 0 ≤ n / 2 ^ (8 * k) % 256 := Int.emod_nonneg _ (by decide)
  have h1 : n / 2 ^ (8 * k) % 256 < 256 := Int.emod_lt_of_pos _ (by decide)
  unfold byteAt
  rw [UInt8.toNat_ofNat']
  omega
def putL (n : Int) (s : Nat) : List UInt8 := (List.range s).map fun j => byteAt n (s - 1 - j)
theorem putL_length (n : Int) (s : Nat) : (putL n s).length = s := by simp [putL]
theorem putL_drop (n : Int) (s k : Nat) (h : k < s) : (putL n s).drop (s - 1 - k) = byteAt n k :: (putL n s).drop (s - k) := by
  have hl := putL_length n s
  rw [List.drop_eq_getElem_cons (by omega), show s - 1 - k + 1 = s - k from by omega]
  congr 1
  simp [putL]
  congr 1; omega
theorem putL_at (n : Int) (s i : Nat) (h : i < (putL n s).length) : (putL n s)[i] = byteAt n (s - 1 - i) := by simp [putL]
theorem byteAt_four (n : Int) (k : Nat) (hn0 : 0 ≤ n) (hn1 : n < 4294967296) (h : k < 4) :
    [n / 16777216, n / 65536 % 256, n / 256 % 256, n % 256][3 - k]? = some ((byteAt n k).toNat : Int) := by
  rw [byteAt_val]
  have : k = 0 ∨ k = 1 ∨ k = 2 ∨ k = 3 := by omega
  rcases this with rfl | rfl | rfl | rfl
  · simp
  · simp
  · simp
  · simp
    omega
theorem drop_set_here (ys : List UInt8) (j : Nat) (c : UInt8) (h : j < ys.length) : (ys.set j c).drop j = c :: ys.drop (j + 1) := by
  rw [List.drop_eq_getElem_cons (by simpa using h), List.drop_set_of_lt (by omega)]
  simp
/-- The number that bytes say, the highest first. -/
def beI (l : List UInt8) : Int := l.foldl (fun n c => n * 256 + (c.toNat : Int)) 0
theorem beI_snoc (l : List UInt8) (c : UInt8) : beI (l ++ [c]) = beI l * 256 + c.toNat := by simp [beI]
theorem beI_from (l : List UInt8) : ∀ n : Int, 0 ≤ n → 0 ≤ l.foldl (fun n c => n * 256 + (c.toNat : Int)) n ∧ l.foldl (fun n c => n * 256 + (c.toNat : Int)) n < (n + 1) * 256 ^ l.length := by
  induction l with
  | nil => intro n h; simp; omega
  | cons c r ih =>
    intro n h
    have hc := c.toNat_lt
    obtain ⟨h1, h2⟩ := ih (n * 256 + c.toNat) (by omega)
    refine ⟨h1, Int.lt_of_lt_of_le h2 ?_⟩
    rw [List.length_cons, Int.pow_succ, Int.mul_comm (256 ^ r.length) 256, ← Int.mul_assoc]
    exact Int.mul_le_mul_of_nonneg_right (by omega) (Int.pow_nonneg (by decide))
theorem beI_bd (l : List UInt8) : 0 ≤ beI l ∧ beI l < 256 ^ l.length := by
  have h := beI_from l 0 (by decide)
  refine ⟨h.1, ?_⟩
  have h2 := h.2
  rw [Int.zero_add, Int.one_mul] at h2
  exact h2
def takeV (l : List UInt8) (at' size : Int) : Int :=
  if size < 1 ∨ 4 < size ∨ at' < 0 then 0 else if (l.length : Int) - at' < size then 0 else beI ((l.drop at'.toNat).take size.toNat)
def takeE (l : List UInt8) (at' size : Int) : Int :=
  if size < 1 ∨ 4 < size ∨ at' < 0 then 1 else if (l.length : Int) - at' < size then 12 else 0
theorem take_drop_snoc (l : List UInt8) (a k : Nat) (h : a + k < l.length) : (l.drop a).take (k + 1) = (l.drop a).take k ++ [l[a + k]] := by
  rw [List.take_succ_eq_append_getElem (by rw [List.length_drop]; omega)]
  simp
end Oct
end Go.Proofs.YtglhdlkmgmbgeaaDoor

namespace Go.Proofs.YtglhdlkmgmbgeaaDoor
namespace Fra
open Oct
set_option linter.unusedVariables false

structure StM where
  id : Int
  val : Int
deriving DecidableEq
structure FrM where
  type : Int
  flags : Int
  stream : Int
  data : ByteArray
  pad : Int
  sets : List StM
  code : Int
  last : Int
  inc : Int
  dep : Int
  weight : Int
  sole : Bool
deriving DecidableEq
structure FaM where
  is : Bool
  code : Int
  stream : Int
deriving DecidableEq

def noFr : FrM := ⟨0, 0, 0, ByteArray.empty, 0, [], 0, 0, 0, 0, 0, false⟩
def noFa : FaM := ⟨false, 0, 0⟩
def ofC (c : Int) : FaM := ⟨true, c, 0⟩

def hasF (flags flag : Int) : Bool := decide (flags / flag % 2 = 1)
def setOk (s : StM) : Bool := decide (0 ≤ s.id ∧ s.id ≤ 65535 ∧ 0 ≤ s.val ∧ s.val ≤ 4294967295)
def rangesB (f : FrM) : Bool :=
  decide (0 ≤ f.type ∧ f.type ≤ 255 ∧ 0 ≤ f.flags ∧ f.flags ≤ 255 ∧ 0 ≤ f.pad ∧ f.pad ≤ 255 ∧ 0 ≤ f.weight ∧ f.weight ≤ 255 ∧ 0 ≤ f.stream ∧ f.stream ≤ 2147483647 ∧ 0 ≤ f.last ∧ f.last ≤ 2147483647 ∧
    0 ≤ f.dep ∧ f.dep ≤ 2147483647 ∧ 0 ≤ f.inc ∧ f.inc ≤ 2147483647 ∧ 0 ≤ f.code ∧ f.code ≤ 4294967295) && f.sets.all setOk
def paddedB (f : FrM) : Bool := decide (f.type ≤ 1) && hasF f.flags 8
def placedB (f : FrM) : Bool := decide (f.type = 2) || (decide (f.type = 1) && hasF f.flags 32)
/-- May a frame be written? -/
def mayB (f : FrM) : Bool :=
  rangesB f && !(decide (f.pad ≠ 0) && !paddedB f) && !(decide (f.dep ≠ 0 ∨ f.weight ≠ 0 ∨ f.sole = true) && !placedB f) &&
    !(decide (f.data ≠ ByteArray.empty) && decide (f.type = 2 ∨ f.type = 3 ∨ f.type = 4 ∨ f.type = 8)) &&
    (f.sets.isEmpty || decide (f.type = 4)) && decide (f.code = 0 ∨ f.type = 3 ∨ f.type = 7) && decide (f.last = 0 ∨ f.type = 7) && decide (f.inc = 0 ∨ f.type = 8)

def setL (l : List StM) : List UInt8 := l.flatMap fun s => putL s.id 2 ++ putL s.val 4
def bt (n : Int) : UInt8 := UInt8.ofNat n.toNat
def placeL (f : FrM) : List UInt8 := putL (f.dep + (if f.sole then 2147483648 else 0)) 4 ++ [bt f.weight]
def dataL (f : FrM) : List UInt8 := f.data.data.toList
/-- A payload. -/
def payL (f : FrM) : List UInt8 :=
  (if paddedB f then [bt f.pad] else []) ++ ((if placedB f then placeL f else []) ++ (setL f.sets ++ ((if f.type = 7 then putL f.last 4 else []) ++ ((if f.type = 7 ∨ f.type = 3 then putL f.code 4 else []) ++
    ((if f.type = 8 then putL f.inc 4 else []) ++ (dataL f ++ List.replicate f.pad.toNat 0))))))
def wholeL (f : FrM) : List UInt8 := putL (payL f).length 3 ++ (bt f.type :: bt f.flags :: (putL f.stream 4 ++ payL f))
def putF (f : FrM) : List UInt8 × Nat :=
  if mayB f = false then ([], 1) else if 16777215 < (payL f).length then ([], 2) else (wholeL f, 0)

/-- The number that bytes say at a place. -/
def at' (b : List UInt8) (p s : Nat) : Int := beI ((b.drop p).take s)
def needN (t flags : Int) : Nat := (if hasF flags 8 then 1 else 0) + (if t = 1 ∧ hasF flags 32 = true then 5 else 0)
/-- Is a payload's length one that its type has? -/
def sizedB (t flags : Int) (n : Nat) : Bool :=
  if t = 0 ∨ t = 1 then decide (needN t flags ≤ n)
  else if t = 2 then decide (n = 5)
  else if t = 3 ∨ t = 8 then decide (n = 4)
  else if t = 4 then decide (n % 6 = 0) && (decide (n = 0) || !hasF flags 1)
  else if t = 6 then decide (n = 8)
  else if t = 7 then decide (8 ≤ n)
  else true
def setsF : Nat → List UInt8 → List StM
  | 0, _ => []
  | F + 1, p => if p = [] then [] else ⟨at' p 0 2, at' p 2 4⟩ :: setsF F (p.drop 6)
/-- What a payload of a right length says. -/
def fieldsF (t flags stream : Int) (p : List UInt8) : FrM × Bool :=
  let pd := decide (t ≤ 1) && hasF flags 8
  let pad : Int := if pd then (p.headD 0).toNat else 0
  let p1 := if pd then p.drop 1 else p
  let pl := decide (t = 2) || (decide (t = 1) && hasF flags 32)
  let sole := if pl then decide (128 ≤ (p1.headD 0).toNat) else false
  let dep : Int := if pl then at' p1 0 4 % 2147483648 else 0
  let weight : Int := if pl then ((p1.drop 4).headD 0).toNat else 0
  let p2 := if pl then p1.drop 5 else p1
  let last : Int := if t = 7 then at' p2 0 4 % 2147483648 else 0
  let code : Int := if t = 7 then at' p2 4 4 else if t = 3 then at' p2 0 4 else 0
  let inc : Int := if t = 8 then at' p2 0 4 % 2147483648 else 0
  let sets := if t = 4 then setsF p2.length p2 else []
  let p3 := if t = 7 then p2.drop 8 else if t = 3 ∨ t = 4 ∨ t = 8 then [] else p2
  if p3.length < pad then (⟨t, flags, stream, ByteArray.empty, pad, sets, code, last, inc, dep, weight, sole⟩, false)
  else (⟨t, flags, stream, ⟨(p3.take (p3.length - pad.toNat)).toArray⟩, pad, sets, code, last, inc, dep, weight, sole⟩, true)
/-- A setting's fault: 0: none. -/
def setFault (s : StM) : Int :=
  if (s.id = 2 ∧ 1 < s.val) ∨ (s.id = 5 ∧ (s.val < 16384 ∨ 16777215 < s.val)) then 1 else if s.id = 4 ∧ 2147483647 < s.val then 3 else 0
def setsFault : List StM → Int
  | [] => 0
  | s :: r => if setFault s ≠ 0 then setFault s else setsFault r
/-- The frame at the beginning of bytes, behind its length, n: its nine bytes and its payload are there. -/
def bodyF (b : List UInt8) (n : Nat) : FrM × Nat × FaM :=
  let t : Int := (b.getD 3 0).toNat
  let fl : Int := (b.getD 4 0).toNat
  let st := at' b 5 4 % 2147483648
  if ((t = 0 ∨ t = 1 ∨ t = 2 ∨ t = 3 ∨ t = 9) ∧ st = 0) ∨ ((t = 4 ∨ t = 6 ∨ t = 7) ∧ st ≠ 0) ∨ t = 5 then (noFr, 0, ofC 1)
  else if sizedB t fl n = false then (if t = 2 then (noFr, 9 + n, ⟨true, 6, st⟩) else (noFr, 0, ofC 6))
  else match fieldsF t fl st ((b.drop 9).take n) with
    | (f, ok) =>
      if ok = false then (noFr, 0, ofC 1)
      else if t = 8 ∧ f.inc = 0 then (if st = 0 then (noFr, 0, ofC 1) else (noFr, 9 + n, ⟨true, 1, st⟩))
      else if setsFault f.sets ≠ 0 then (noFr, 0, ofC (setsFault f.sets))
      else (f, 9 + n, noFa)
def lenN (b : List UInt8) : Nat := (at' b 0 3).toNat
def takeF (b : List UInt8) (most : Int) : FrM × Nat × FaM :=
  if b.length < 9 then (noFr, 0, noFa)
  else if most < lenN b then (noFr, 0, ofC 6)
  else if b.length < 9 + lenN b then (noFr, 0, noFa)
  else bodyF b (lenN b)
end Fra
end Go.Proofs.YtglhdlkmgmbgeaaDoor

namespace Go.Proofs.YtglhdlkmgmbgeaaDoor
namespace Fra
open Oct
set_option linter.unusedVariables false
set_option linter.unusedSimpArgs false

theorem at_join (b x : List UInt8) (p s : Nat) (h : p + s ≤ b.length) : at' (b ++ x) p s = at' b p s := by
  rw [at', at', List.drop_append_of_le_length (by omega), List.take_append_of_le_length (by rw [List.length_drop]; omega)]
theorem getD_join (b x : List UInt8) (i : Nat) (h : i < b.length) : (b ++ x).getD i 0 = b.getD i 0 := by
  simp [List.getD, List.getElem?_append_left h]
theorem len_join (b x : List UInt8) (h : 3 ≤ b.length) : lenN (b ++ x) = lenN b := by rw [lenN, lenN, at_join _ _ _ _ (by omega)]
theorem body_join (b x : List UInt8) (n : Nat) (h : 9 + n ≤ b.length) : bodyF (b ++ x) n = bodyF b n := by
  rw [bodyF, bodyF, getD_join _ _ _ (by omega), getD_join _ _ _ (by omega), at_join _ _ _ _ (by omega), List.drop_append_of_le_length (by omega), List.take_append_of_le_length (by rw [List.length_drop]; omega)]
/-- What stands behind a frame changes nothing. -/
theorem take_join (b x : List UInt8) (most : Int) (h : b.length = 9 + lenN b) : takeF (b ++ x) most = takeF b most := by
  have hl := len_join b x (by omega)
  have h9 : ¬ (b ++ x).length < 9 := by rw [List.length_append]; omega
  have hn : ¬ (b ++ x).length < 9 + lenN b := by rw [List.length_append]; omega
  rw [takeF, takeF, if_neg h9, if_neg (show ¬ b.length < 9 by omega), hl, if_neg hn, if_neg (show ¬ b.length < 9 + lenN b by omega), body_join _ _ _ (by omega)]
/-- A beginning is no frame. -/
theorem take_cut (b : List UInt8) (k : Nat) (most : Int) (h : b.length = 9 + lenN b) (hm : (lenN b : Int) ≤ most) (hk : k < b.length) : takeF (b.take k) most = (noFr, 0, noFa) := by
  have hl : (b.take k).length = k := by rw [List.length_take]; omega
  rw [takeF, hl]
  by_cases h9 : k < 9
  · rw [if_pos h9]
  · have hn : lenN (b.take k) = lenN b := by
      have h1 := len_join (b.take k) (b.drop k) (by omega)
      rw [List.take_append_drop] at h1
      exact h1.symm
    rw [if_neg h9, hn, if_neg (by omega), if_pos (by omega)]

theorem bt_val (n : Int) (h0 : 0 ≤ n) (h1 : n ≤ 255) : ((bt n).toNat : Int) = n := by
  rw [bt, UInt8.toNat_ofNat_of_lt' (by show n.toNat < 256; omega)]; omega
theorem beI_put (n : Int) (h0 : 0 ≤ n) (h1 : n < 4294967296) (s : Nat) (hs : s = 1 ∨ s = 2 ∨ s = 3 ∨ s = 4) : beI (putL n s) = n % 256 ^ s := by
  rcases hs with rfl | rfl | rfl | rfl <;> simp [putL, List.range, List.range.loop, beI, byteAt_val] <;> omega
theorem at_put (n : Int) (h0 : 0 ≤ n) (h1 : n < 4294967296) (s : Nat) (hs : s = 1 ∨ s = 2 ∨ s = 3 ∨ s = 4) (r : List UInt8) : at' (putL n s ++ r) 0 s = n % 256 ^ s := by
  rw [at', List.drop_zero, List.take_append_of_le_length (by rw [putL_length]; omega), List.take_of_length_le (by rw [putL_length]; omega), beI_put n h0 h1 s hs]
theorem at_skip (a r : List UInt8) (s : Nat) : at' (a ++ r) a.length s = at' r 0 s := by rw [at', at', List.drop_left, List.drop_zero]
theorem putL_drop (n : Int) (s : Nat) (r : List UInt8) : (putL n s ++ r).drop s = r := by
  have := putL_length n s
  conv => lhs; rw [← this]
  rw [putL_length, List.drop_append_of_le_length (by omega), List.drop_of_length_le (by omega), List.nil_append]
theorem putL_ne (n : Int) (s : Nat) (h : 0 < s) (r : List UInt8) : putL n s ++ r ≠ [] := fun e => by
  have := congrArg List.length e
  rw [List.length_append, putL_length] at this
  simp at this; omega
theorem sets_back (l : List StM) : ∀ F, l.length ≤ F → (∀ s ∈ l, setOk s = true) → setsF F (setL l) = l := by
  induction l with
  | nil => intro F _ _; cases F <;> simp [setsF, setL]
  | cons s r ih =>
    intro F hF hok
    obtain ⟨G, rfl⟩ : ∃ G, F = G + 1 := ⟨F - 1, by simp at hF; omega⟩
    have hs := hok s (List.mem_cons_self ..)
    simp only [setOk, decide_eq_true_eq] at hs
    have h1 : setL (s :: r) = putL s.id 2 ++ (putL s.val 4 ++ setL r) := by simp [setL]
    rw [setsF, h1, if_neg (putL_ne _ _ (by omega) _), at_put _ hs.1 (by omega) 2 (by omega)]
    have h2 : at' (putL s.id 2 ++ (putL s.val 4 ++ setL r)) 2 4 = s.val := by
      have := at_skip (putL s.id 2) (putL s.val 4 ++ setL r) 4
      rw [putL_length] at this
      rw [this, at_put _ hs.2.2.1 (by omega) 4 (by omega)]
      omega
    have h3 : (putL s.id 2 ++ (putL s.val 4 ++ setL r)).drop 6 = setL r := by
      rw [show 6 = 2 + 4 from rfl, ← List.drop_drop, putL_drop, putL_drop]
    rw [h2, h3, ih G (by simpa using hF) (fun x hx => hok x (List.mem_cons_of_mem _ hx))]
    have h4 : s.id % 256 ^ 2 = s.id := by omega
    rw [h4]
theorem setL_len (l : List StM) : (setL l).length = 6 * l.length := by
  induction l with
  | nil => rfl
  | cons s r ih =>
    have h1 : setL (s :: r) = putL s.id 2 ++ (putL s.val 4 ++ setL r) := by simp [setL]
    rw [h1, List.length_append, List.length_append, putL_length, putL_length, ih, List.length_cons]; omega
theorem place_len (f : FrM) : (placeL f).length = 5 := by rw [placeL, List.length_append, putL_length]; rfl

structure May (f : FrM) : Prop where
  rng : 0 ≤ f.type ∧ f.type ≤ 255 ∧ 0 ≤ f.flags ∧ f.flags ≤ 255 ∧ 0 ≤ f.pad ∧ f.pad ≤ 255 ∧ 0 ≤ f.weight ∧ f.weight ≤ 255 ∧ 0 ≤ f.stream ∧ f.stream ≤ 2147483647 ∧ 0 ≤ f.last ∧ f.last ≤ 2147483647 ∧
    0 ≤ f.dep ∧ f.dep ≤ 2147483647 ∧ 0 ≤ f.inc ∧ f.inc ≤ 2147483647 ∧ 0 ≤ f.code ∧ f.code ≤ 4294967295
  sets : ∀ s ∈ f.sets, setOk s = true
  pad : paddedB f = false → f.pad = 0
  place : placedB f = false → f.dep = 0 ∧ f.weight = 0 ∧ f.sole = false
  data : f.type = 2 ∨ f.type = 3 ∨ f.type = 4 ∨ f.type = 8 → f.data = ByteArray.empty
  set : f.type ≠ 4 → f.sets = []
  code : ¬ (f.type = 3 ∨ f.type = 7) → f.code = 0
  last : f.type ≠ 7 → f.last = 0
  inc : f.type ≠ 8 → f.inc = 0
theorem may_of (f : FrM) (h : mayB f = true) : May f := by
  simp only [mayB, rangesB, Bool.and_eq_true, Bool.not_eq_true', Bool.and_eq_false_iff, Bool.or_eq_true, decide_eq_true_eq, decide_eq_false_iff_not, List.all_eq_true, List.isEmpty_iff, Bool.not_eq_false'] at h
  obtain ⟨⟨⟨⟨⟨⟨⟨⟨h1, h2⟩, h3⟩, h4⟩, h5⟩, h6⟩, h7⟩, h8⟩, h9⟩ := h
  refine ⟨h1, h2, fun hp => ?_, fun hp => ?_, fun ht => ?_, fun ht => ?_, fun ht => ?_, fun ht => ?_, fun ht => ?_⟩
  · rcases h3 with h | h
    · exact Decidable.not_not.mp h
    · rw [h] at hp; cases hp
  · rcases h4 with h | h
    · simp only [not_or, Decidable.not_not, Bool.not_eq_true] at h; exact ⟨h.1, h.2.1, h.2.2⟩
    · rw [h] at hp; cases hp
  · rcases h5 with h | h
    · exact Decidable.not_not.mp h
    · exact absurd ht h
  · rcases h6 with h | h
    · exact h
    · exact absurd h ht
  · rcases h7 with h | h
    · exact h
    · exact absurd h ht
  · rcases h8 with h | h
    · exact h
    · exact absurd h ht
  · rcases h9 with h | h
    · exact h
    · exact absurd h ht
end Fra
end Go.Proofs.YtglhdlkmgmbgeaaDoor

namespace Go.Proofs.YtglhdlkmgmbgeaaDoor
namespace Fra
open Oct
set_option linter.unusedVariables false
set_option linter.unusedSimpArgs false

theorem data_back (data : ByteArray) (pad : Int) (h0 : 0 ≤ pad) : ¬ ((data.data.toList ++ List.replicate pad.toNat (0 : UInt8)).length : Int) < pad ∧
    (⟨((data.data.toList ++ List.replicate pad.toNat (0 : UInt8)).take ((data.data.toList ++ List.replicate pad.toNat (0 : UInt8)).length - pad.toNat)).toArray⟩ : ByteArray) = data := by
  rw [List.length_append, List.length_replicate]
  refine ⟨by omega, ?_⟩
  rw [Nat.add_sub_cancel, List.take_left]
theorem data_back0 (data : ByteArray) : (⟨(data.data.toList.take (data.data.toList.length - (0 : Int).toNat)).toArray⟩ : ByteArray) = data := by
  rw [List.take_of_length_le (by omega)]
theorem place_at (dep weight : Int) (sole : Bool) (hd0 : 0 ≤ dep) (hd1 : dep ≤ 2147483647) (hw0 : 0 ≤ weight) (hw1 : weight ≤ 255) (r : List UInt8) (n : Int) (hn : n = dep + (if sole then 2147483648 else 0)) :
    at' (putL n 4 ++ (bt weight :: r)) 0 4 % 2147483648 = dep ∧ decide (128 ≤ ((putL n 4 ++ (bt weight :: r)).headD 0).toNat) = sole ∧ ((((putL n 4 ++ (bt weight :: r)).drop 4).headD 0).toNat : Int) = weight ∧ (putL n 4 ++ (bt weight :: r)).drop 5 = r := by
  have hn0 : 0 ≤ n := by cases sole <;> simp at hn <;> omega
  have hn1 : n < 4294967296 := by cases sole <;> simp at hn <;> omega
  refine ⟨?_, ?_, ?_, ?_⟩
  · rw [at_put n hn0 hn1 4 (by omega)]
    cases sole <;> simp at hn <;> omega
  · have hb := byteAt_val n 3
    have hh : (putL n 4 ++ (bt weight :: r)).headD 0 = byteAt n 3 := by simp [putL, List.range, List.range.loop]
    rw [hh]
    cases sole
    · simp at hn
      rw [decide_eq_false_iff_not]
      have : (2 : Int) ^ (8 * 3) = 16777216 := by decide
      rw [this] at hb; omega
    · simp at hn
      rw [decide_eq_true_eq]
      have : (2 : Int) ^ (8 * 3) = 16777216 := by decide
      rw [this] at hb; omega
  · rw [putL_drop]; exact bt_val weight hw0 hw1
  · rw [show 5 = 4 + 1 from rfl, ← List.drop_drop, putL_drop]; rfl

theorem fields_back (f : FrM) (h : May f) : fieldsF f.type f.flags f.stream (payL f) = (f, true) := by
  obtain ⟨⟨t0, t1, fl0, fl1, p0, p1, w0, w1, s0, s1, l0, l1, d0, d1, i0, i1, c0, c1⟩, hs, hpad, hpl, hda, hst, hco, hla, hin⟩ := h
  obtain ⟨t, fl, st, data, pad, sets, code, last, inc, dep, weight, sole⟩ := f
  simp only [paddedB, placedB] at *
  have hdb := data_back data pad p0
  have hdb0 := data_back0 data
  have hpv := bt_val pad p0 p1
  have hplc := fun r => place_at dep weight sole d0 d1 w0 w1 r _ rfl
  by_cases ht2 : t = 2
  · subst ht2
    have e1 := hda (.inl rfl)
    have e2 := hst (by decide)
    have e3 := hco (by decide)
    have e4 := hla (by decide)
    have e5 := hin (by decide)
    have e6 := hpad (by simp)
    subst e1 e2 e3 e4 e5 e6
    obtain ⟨q1, q2, q3, q4⟩ := hplc []
    have hpay : payL ⟨2, fl, st, ByteArray.empty, 0, [], 0, 0, 0, dep, weight, sole⟩ = putL (dep + if sole = true then 2147483648 else 0) 4 ++ [bt weight] := by
      simp [payL, paddedB, placedB, placeL, dataL, setL]
    rw [hpay]
    generalize putL (dep + if sole = true then 2147483648 else 0) 4 ++ [bt weight] = X at *
    simp [fieldsF, q1, q2, q3, q4, -List.headD_eq_head?_getD, -List.head?_drop, -List.length_drop]
    rfl
  · by_cases ht3 : t = 3
    · subst ht3
      have e1 := hda (.inr (.inl rfl))
      have e2 := hst (by decide)
      have e4 := hla (by decide)
      have e5 := hin (by decide)
      have e6 := hpad (by simp)
      obtain ⟨e7, e8, e9⟩ := hpl (by simp)
      subst e1 e2 e4 e5 e6 e7 e8 e9
      have hpay : payL ⟨3, fl, st, ByteArray.empty, 0, [], code, 0, 0, 0, 0, false⟩ = putL code 4 ++ [] := by
        simp [payL, paddedB, placedB, placeL, dataL, setL]
      have q := at_put code c0 (by omega) 4 (by omega) []
      rw [hpay]
      generalize putL code 4 ++ [] = X at *
      simp [fieldsF, q]
      exact ⟨rfl, by omega⟩
    · by_cases ht8 : t = 8
      · subst ht8
        have e1 := hda (.inr (.inr (.inr rfl)))
        have e2 := hst (by decide)
        have e3 := hco (by decide)
        have e4 := hla (by decide)
        have e6 := hpad (by simp)
        obtain ⟨e7, e8, e9⟩ := hpl (by simp)
        subst e1 e2 e3 e4 e6 e7 e8 e9
        have hpay : payL ⟨8, fl, st, ByteArray.empty, 0, [], 0, 0, inc, 0, 0, false⟩ = putL inc 4 ++ [] := by
          simp [payL, paddedB, placedB, placeL, dataL, setL]
        have q := at_put inc i0 (by omega) 4 (by omega) []
        rw [hpay]
        generalize putL inc 4 ++ [] = X at *
        simp [fieldsF, q]
        exact ⟨rfl, by omega⟩
      · by_cases ht4 : t = 4
        · subst ht4
          have e1 := hda (.inr (.inr (.inl rfl)))
          have e3 := hco (by decide)
          have e4 := hla (by decide)
          have e5 := hin (by decide)
          have e6 := hpad (by simp)
          obtain ⟨e7, e8, e9⟩ := hpl (by simp)
          subst e1 e3 e4 e5 e6 e7 e8 e9
          have hpay : payL ⟨4, fl, st, ByteArray.empty, 0, sets, 0, 0, 0, 0, 0, false⟩ = setL sets := by
            simp [payL, paddedB, placedB, placeL, dataL]
          have q := sets_back sets (setL sets).length (by rw [setL_len]; omega) hs
          rw [hpay]
          simp [fieldsF, q]
          rfl
        · have e2 := hst ht4
          have e5 := hin ht8
          by_cases ht7 : t = 7
          · subst ht7
            have e6 := hpad (by simp)
            obtain ⟨e7, e8, e9⟩ := hpl (by simp)
            subst e2 e5 e6 e7 e8 e9
            have hpay : payL ⟨7, fl, st, data, 0, [], code, last, 0, 0, 0, false⟩ = putL last 4 ++ (putL code 4 ++ data.data.toList) := by
              simp [payL, paddedB, placedB, placeL, dataL, setL]
            have q1 := at_put last l0 (by omega) 4 (by omega) (putL code 4 ++ data.data.toList)
            have q2 : at' (putL last 4 ++ (putL code 4 ++ data.data.toList)) 4 4 = code := by
              have := at_skip (putL last 4) (putL code 4 ++ data.data.toList) 4
              rw [putL_length] at this
              rw [this, at_put _ c0 (by omega) 4 (by omega)]; omega
            have q3 : (putL last 4 ++ (putL code 4 ++ data.data.toList)).drop 8 = data.data.toList := by
              rw [show 8 = 4 + 4 from rfl, ← List.drop_drop, putL_drop, putL_drop]
            rw [hpay]
            generalize putL last 4 ++ (putL code 4 ++ data.data.toList) = X at *
            have q4 : last % 256 ^ 4 % 2147483648 = last := by omega
            simp [fieldsF, q1, q2, q3, -List.length_drop]
            simp at hdb0
            rw [if_neg (by omega), hdb0, show last % 2147483648 = last by omega]
          · have e3 := hco (by omega)
            have e4 := hla ht7
            by_cases ht1 : t ≤ 1
            · by_cases hp : hasF fl 8 = true
              · by_cases hq : t = 1 ∧ hasF fl 32 = true
                · obtain ⟨rfl, hq⟩ := hq
                  subst e2 e3 e4 e5
                  obtain ⟨q1, q2, q3, q4⟩ := hplc (data.data.toList ++ List.replicate pad.toNat 0)
                  have hpay : payL ⟨1, fl, st, data, pad, [], 0, 0, 0, dep, weight, sole⟩ = bt pad :: (putL (dep + if sole = true then 2147483648 else 0) 4 ++ (bt weight :: (data.data.toList ++ List.replicate pad.toNat 0))) := by
                    simp [payL, paddedB, placedB, placeL, dataL, setL, hp, hq]
                  rw [hpay]
                  generalize putL (dep + if sole = true then 2147483648 else 0) 4 ++ (bt weight :: (data.data.toList ++ List.replicate pad.toNat 0)) = X at *
                  generalize data.data.toList ++ List.replicate pad.toNat 0 = Y at *
                  have hd : (bt pad :: X).headD 0 = bt pad := rfl
                  simp [fieldsF, hp, hq, hd, hpv, q1, q2, q3, q4, hdb.1, hdb.2, -List.headD_eq_head?_getD, -List.head?_drop, -List.length_drop]
                · have e7 : (decide (t = 2) || decide (t = 1) && hasF fl 32) = false := by
                    simp [ht2]; intro h1; simpa [h1] using hq
                  obtain ⟨e8, e9, e10⟩ := hpl e7
                  subst e2 e3 e4 e5 e8 e9 e10
                  have hpay : payL ⟨t, fl, st, data, pad, [], 0, 0, 0, 0, 0, false⟩ = bt pad :: (data.data.toList ++ List.replicate pad.toNat 0) := by
                    simp only [payL, paddedB, placedB, e7, dataL, setL, hp, ht1]
                    simp [ht7, ht3, ht8]
                  rw [hpay]
                  generalize data.data.toList ++ List.replicate pad.toNat 0 = Y at *
                  have hd : (bt pad :: Y).headD 0 = bt pad := rfl
                  simp only [fieldsF, e7]
                  simp [hp, ht1, hd, hpv, hdb.1, hdb.2, ht7, ht3, ht8, ht4, -List.headD_eq_head?_getD, -List.head?_drop, -List.length_drop]
              · have hp' : hasF fl 8 = false := by simpa using hp
                have e6 := hpad (by simp [hp'])
                subst e6
                by_cases hq : t = 1 ∧ hasF fl 32 = true
                · obtain ⟨rfl, hq⟩ := hq
                  subst e2 e3 e4 e5
                  obtain ⟨q1, q2, q3, q4⟩ := hplc data.data.toList
                  have hpay : payL ⟨1, fl, st, data, 0, [], 0, 0, 0, dep, weight, sole⟩ = putL (dep + if sole = true then 2147483648 else 0) 4 ++ (bt weight :: data.data.toList) := by
                    simp [payL, paddedB, placedB, placeL, dataL, setL, hp', hq]
                  rw [hpay]
                  generalize putL (dep + if sole = true then 2147483648 else 0) 4 ++ (bt weight :: data.data.toList) = X at *
                  simp [fieldsF, hp', hq, q1, q2, q3, q4, -List.headD_eq_head?_getD, -List.head?_drop, -List.length_drop]
                  simp at hdb0
                  rw [if_neg (by omega), hdb0]
                · have e7 : (decide (t = 2) || decide (t = 1) && hasF fl 32) = false := by
                    simp [ht2]; intro h1; simpa [h1] using hq
                  obtain ⟨e8, e9, e10⟩ := hpl e7
                  subst e2 e3 e4 e5 e8 e9 e10
                  have hpay : payL ⟨t, fl, st, data, 0, [], 0, 0, 0, 0, 0, false⟩ = data.data.toList := by
                    simp only [payL, paddedB, placedB, e7, dataL, setL, hp']
                    simp [ht7, ht3, ht8]
                  rw [hpay]
                  simp only [fieldsF, e7, hp']
                  simp [ht7, ht3, ht8, ht4]
                  simp at hdb0
                  rw [if_neg (by omega), hdb0]
            · have e6 := hpad (by simp [ht1])
              have e7 : (decide (t = 2) || decide (t = 1) && hasF fl 32) = false := by
                have : ¬ t = 1 := by omega
                simp [ht2, this]
              obtain ⟨e8, e9, e10⟩ := hpl e7
              subst e2 e3 e4 e5 e6 e8 e9 e10
              have hpay : payL ⟨t, fl, st, data, 0, [], 0, 0, 0, 0, 0, false⟩ = data.data.toList := by
                simp only [payL, paddedB, placedB, e7, dataL, setL]
                simp [ht7, ht3, ht8, ht1]
              rw [hpay]
              simp only [fieldsF, e7]
              simp [ht7, ht3, ht8, ht4, ht1]
              simp at hdb0
              rw [if_neg (by omega), hdb0]

theorem whole_len (f : FrM) : (wholeL f).length = 9 + (payL f).length := by
  rw [wholeL, List.length_append, List.length_cons, List.length_cons, List.length_append, putL_length, putL_length]; omega
theorem whole_n (f : FrM) (hl : (payL f).length ≤ 16777215) : lenN (wholeL f) = (payL f).length := by
  rw [lenN, wholeL, at_put _ (by omega) (by omega) 3 (by omega)]; omega
theorem whole_parts (f : FrM) (h : May f) : (((wholeL f).getD 3 0).toNat : Int) = f.type ∧ (((wholeL f).getD 4 0).toNat : Int) = f.flags ∧ at' (wholeL f) 5 4 % 2147483648 = f.stream ∧ ((wholeL f).drop 9).take (payL f).length = payL f := by
  have h1 := h.rng
  have hd : ∀ n : Int, ∀ r : List UInt8, (putL n 3 ++ r).drop 3 = r := fun n r => putL_drop n 3 r
  have hg : ∀ i, (wholeL f).getD (3 + i) 0 = (bt f.type :: bt f.flags :: (putL f.stream 4 ++ payL f)).getD i 0 := fun i => by
    rw [wholeL, List.getD, List.getElem?_append_right (by rw [putL_length]; omega), putL_length, Nat.add_sub_cancel_left]; rfl
  refine ⟨?_, ?_, ?_, ?_⟩
  · rw [show 3 = 3 + 0 from rfl, hg 0]; exact bt_val _ h1.1 h1.2.1
  · rw [show 4 = 3 + 1 from rfl, hg 1]; exact bt_val _ h1.2.2.1 h1.2.2.2.1
  · have h5 : at' (wholeL f) 5 4 = at' (putL f.stream 4 ++ payL f) 0 4 := by
      rw [at', at', List.drop_zero, wholeL, show 5 = 3 + 2 from rfl, ← List.drop_drop, putL_drop]; rfl
    rw [h5, at_put _ (by omega) (by omega) 4 (by omega)]; omega
  · have h9 : (wholeL f).drop 9 = payL f := by
      rw [wholeL, show 9 = 3 + 6 from rfl, ← List.drop_drop, putL_drop, show 6 = 2 + 4 from rfl, ← List.drop_drop]
      show (putL f.stream 4 ++ payL f).drop 4 = payL f
      rw [putL_drop]
    rw [h9, List.take_length]
/-- A frame that may be written, and has no fault, is read as it was. -/
theorem body_back (f : FrM) (h : May f) (hf : (bodyF (wholeL f) (payL f).length).2.2.is = false) : bodyF (wholeL f) (payL f).length = (f, 9 + (payL f).length, noFa) := by
  obtain ⟨h1, h2, h3, h4⟩ := whole_parts f h
  have hb := fields_back f h
  rw [bodyF] at hf ⊢
  simp only [h1, h2, h3, h4, hb] at hf ⊢
  split
  · rename_i hc; rw [if_pos hc] at hf; exact absurd hf (by simp [ofC])
  · rename_i hc
    rw [if_neg hc] at hf
    split
    · rename_i hs
      rw [if_pos hs] at hf
      split at hf <;> exact absurd hf (by simp [ofC])
    · rename_i hs
      rw [if_neg hs] at hf
      rw [if_neg (by decide)] at hf ⊢
      split
      · rename_i hi
        rw [if_pos hi] at hf
        split at hf <;> exact absurd hf (by simp [ofC])
      · rename_i hi
        rw [if_neg hi] at hf
        split
        · rename_i hx
          rw [if_pos hx] at hf; exact absurd hf (by simp [ofC])
        · rfl
/-- A fault answers no frame. -/
theorem body_bad (b : List UInt8) (n : Nat) (hf : (bodyF b n).2.2.is = true) : (bodyF b n).1 = noFr := by
  rw [bodyF] at hf ⊢
  simp only at hf ⊢
  split
  · rfl
  · rename_i hc
    rw [if_neg hc] at hf
    split
    · split <;> rfl
    · rename_i hs
      rw [if_neg hs] at hf
      generalize fieldsF _ _ _ _ = X at hf ⊢
      obtain ⟨g, ok⟩ := X
      simp only at hf ⊢
      split
      · rfl
      · rename_i ho
        rw [if_neg ho] at hf
        split
        · split <;> rfl
        · rename_i hi
          rw [if_neg hi] at hf
          split
          · rfl
          · rename_i hx
            rw [if_neg hx] at hf
            exact absurd hf (by simp [noFa])
end Fra
end Go.Proofs.YtglhdlkmgmbgeaaDoor

namespace Go.Proofs.YtglhdlkmgmbgeaaDoor
namespace Fra
open Oct
set_option linter.unusedVariables false
set_option linter.unusedSimpArgs false

theorem or128 (c : UInt8) (h : c.toNat < 128) : (c ||| 128).toNat = c.toNat + 128 := by
  have hk : ∀ n : Fin 128, (n.val ||| 128) = n.val + 128 := by decide +kernel
  have := hk ⟨c.toNat, h⟩
  simpa using this
theorem putL_high (n : Int) (h0 : 0 ≤ n) (h1 : n ≤ 2147483647) (r : List UInt8) : (putL n 4 ++ r).set 0 ((putL n 4 ++ r).getD 0 0 ||| 128) = putL (n + 2147483648) 4 ++ r := by
  have e : ∀ m : Int, putL m 4 = [byteAt m 3, byteAt m 2, byteAt m 1, byteAt m 0] := fun m => by simp [putL, List.range, List.range.loop]
  rw [e, e]
  have hb : ∀ k, k < 3 → byteAt (n + 2147483648) k = byteAt n k := fun k hk => by
    apply UInt8.toNat.inj
    have q1 := byteAt_val n k
    have q2 := byteAt_val (n + 2147483648) k
    rcases (show k = 0 ∨ k = 1 ∨ k = 2 by omega) with rfl | rfl | rfl
    · have : (2 : Int) ^ (8 * 0) = 1 := by decide
      rw [this] at q1 q2; omega
    · have : (2 : Int) ^ (8 * 1) = 256 := by decide
      rw [this] at q1 q2; omega
    · have : (2 : Int) ^ (8 * 2) = 65536 := by decide
      rw [this] at q1 q2; omega
  have h3 : byteAt n 3 ||| 128 = byteAt (n + 2147483648) 3 := by
    apply UInt8.toNat.inj
    have q1 := byteAt_val n 3
    have q2 := byteAt_val (n + 2147483648) 3
    have : (2 : Int) ^ (8 * 3) = 16777216 := by decide
    rw [this] at q1 q2
    rw [or128 _ (by omega)]
    omega
  rw [hb 0 (by omega), hb 1 (by omega), hb 2 (by omega), ← h3]
  rfl

/-- The bytes of a frame with the highest bits. -/
def highL (f : FrM) : List UInt8 :=
  putL (payL f).length 3 ++ (bt f.type :: bt f.flags :: (putL (f.stream + 2147483648) 4 ++
    (if f.type = 7 then putL (f.last + 2147483648) 4 ++ (payL f).drop 4 else if f.type = 8 then putL (f.inc + 2147483648) 4 ++ (payL f).drop 4 else payL f)))
theorem set_skip (a b : List UInt8) (i : Nat) (c : UInt8) : (a ++ b).set (a.length + i) c = a ++ b.set i c := by
  rw [List.set_append, if_neg (by omega), Nat.add_sub_cancel_left]
theorem getD_skip (a b : List UInt8) (i : Nat) : (a ++ b).getD (a.length + i) 0 = b.getD i 0 := by
  rw [List.getD, List.getElem?_append_right (by omega), Nat.add_sub_cancel_left]; rfl
theorem pay_7 (f : FrM) (h : May f) (ht : f.type = 7) : payL f = putL f.last 4 ++ (payL f).drop 4 := by
  have hp : paddedB f = false := by simp [paddedB, ht]
  have hq : placedB f = false := by simp [placedB, ht]
  have hs := h.set (by omega)
  have : payL f = putL f.last 4 ++ (putL f.code 4 ++ (dataL f ++ List.replicate f.pad.toNat 0)) := by
    rw [payL]; simp [hp, hq, hs, ht, setL]
  rw [this, putL_drop]
theorem pay_8 (f : FrM) (h : May f) (ht : f.type = 8) : payL f = putL f.inc 4 ++ (payL f).drop 4 := by
  have hp : paddedB f = false := by simp [paddedB, ht]
  have hq : placedB f = false := by simp [placedB, ht]
  have hs := h.set (by omega)
  have : payL f = putL f.inc 4 ++ (dataL f ++ List.replicate f.pad.toNat 0) := by
    rw [payL]; simp [hp, hq, hs, ht, setL]
  rw [this, putL_drop]
/-- What the law writes over the frame's bytes. -/
theorem high_set (f : FrM) (h : May f) : highL f = (let b := (wholeL f).set 5 ((wholeL f).getD 5 0 ||| 128); if f.type = 7 ∨ f.type = 8 then b.set 9 (b.getD 9 0 ||| 128) else b) := by
  have hr := h.rng
  have hw : ∀ X : List UInt8, putL (payL f).length 3 ++ (bt f.type :: bt f.flags :: X) = (putL (payL f).length 3 ++ [bt f.type, bt f.flags]) ++ X := fun X => by simp
  have hl5 : (putL (payL f).length 3 ++ [bt f.type, bt f.flags]).length = 5 := by rw [List.length_append, putL_length]; rfl
  have h5 : (wholeL f).set 5 ((wholeL f).getD 5 0 ||| 128) = (putL (payL f).length 3 ++ [bt f.type, bt f.flags]) ++ (putL (f.stream + 2147483648) 4 ++ payL f) := by
    rw [wholeL, hw]
    have a := set_skip (putL (payL f).length 3 ++ [bt f.type, bt f.flags]) (putL f.stream 4 ++ payL f) 0
    have b := getD_skip (putL (payL f).length 3 ++ [bt f.type, bt f.flags]) (putL f.stream 4 ++ payL f) 0
    rw [hl5] at a b
    rw [a, b, putL_high _ (by omega) (by omega)]
  simp only [h5]
  have hw9 : ∀ X : List UInt8, (putL (payL f).length 3 ++ [bt f.type, bt f.flags]) ++ (putL (f.stream + 2147483648) 4 ++ X) = ((putL (payL f).length 3 ++ [bt f.type, bt f.flags]) ++ putL (f.stream + 2147483648) 4) ++ X := fun X => by simp
  have hl9 : ((putL (payL f).length 3 ++ [bt f.type, bt f.flags]) ++ putL (f.stream + 2147483648) 4).length = 9 := by rw [List.length_append, hl5, putL_length]
  by_cases h7 : f.type = 7
  · rw [highL, if_pos h7, if_pos (.inl h7), hw, hw9, hw9]
    have a := set_skip ((putL (payL f).length 3 ++ [bt f.type, bt f.flags]) ++ putL (f.stream + 2147483648) 4) (payL f) 0
    have b := getD_skip ((putL (payL f).length 3 ++ [bt f.type, bt f.flags]) ++ putL (f.stream + 2147483648) 4) (payL f) 0
    rw [hl9] at a b
    rw [a, b]
    have hx : (payL f).set 0 ((payL f).getD 0 0 ||| 128) = putL (f.last + 2147483648) 4 ++ (payL f).drop 4 := by
      have e := pay_7 f h h7
      generalize (payL f).drop 4 = Y at e ⊢
      rw [e, putL_high _ (by omega) (by omega)]
    rw [hx]
  · by_cases h8 : f.type = 8
    · rw [highL, if_neg h7, if_pos h8, if_pos (.inr h8), hw, hw9, hw9]
      have a := set_skip ((putL (payL f).length 3 ++ [bt f.type, bt f.flags]) ++ putL (f.stream + 2147483648) 4) (payL f) 0
      have b := getD_skip ((putL (payL f).length 3 ++ [bt f.type, bt f.flags]) ++ putL (f.stream + 2147483648) 4) (payL f) 0
      rw [hl9] at a b
      rw [a, b]
      have hx : (payL f).set 0 ((payL f).getD 0 0 ||| 128) = putL (f.inc + 2147483648) 4 ++ (payL f).drop 4 := by
        have e := pay_8 f h h8
        generalize (payL f).drop 4 = Y at e ⊢
        rw [e, putL_high _ (by omega) (by omega)]
      rw [hx]
    · rw [highL, if_neg h7, if_neg h8, if_neg (by omega), hw]

theorem at_high (n : Int) (h0 : 0 ≤ n) (h1 : n ≤ 2147483647) (r : List UInt8) : at' (putL (n + 2147483648) 4 ++ r) 0 4 % 2147483648 = at' (putL n 4 ++ r) 0 4 % 2147483648 := by
  rw [at_put _ (by omega) (by omega) 4 (by omega), at_put _ (by omega) (by omega) 4 (by omega)]; omega
theorem fields_high (t fl st n : Int) (ht : t = 7 ∨ t = 8) (h0 : 0 ≤ n) (h1 : n ≤ 2147483647) (r : List UInt8) : fieldsF t fl st (putL (n + 2147483648) 4 ++ r) = fieldsF t fl st (putL n 4 ++ r) := by
  have e1 := at_high n h0 h1 r
  have e2 : ∀ m : Int, at' (putL m 4 ++ r) 4 4 = at' r 0 4 := fun m => by
    have := at_skip (putL m 4) r 4
    rwa [putL_length] at this
  have e3 : ∀ m : Int, (putL m 4 ++ r).drop 8 = r.drop 4 := fun m => by rw [show 8 = 4 + 4 from rfl, ← List.drop_drop, putL_drop]
  have e4 := e2 n
  have e5 := e2 (n + 2147483648)
  have e6 := e3 n
  have e7 := e3 (n + 2147483648)
  generalize putL (n + 2147483648) 4 ++ r = X at *
  generalize putL n 4 ++ r = Y at *
  rcases ht with rfl | rfl
  · simp [fieldsF, e1, e4, e5, e6, e7, -List.length_drop]
  · simp [fieldsF, e1]
theorem high_pay (f : FrM) (h : May f) : ∃ p, highL f = putL (payL f).length 3 ++ (bt f.type :: bt f.flags :: (putL (f.stream + 2147483648) 4 ++ p)) ∧ p.length = (payL f).length ∧ fieldsF f.type f.flags f.stream p = fieldsF f.type f.flags f.stream (payL f) := by
  have hr := h.rng
  refine ⟨_, rfl, ?_, ?_⟩
  · by_cases h7 : f.type = 7
    · rw [if_pos h7, List.length_append, putL_length]
      have := congrArg List.length (pay_7 f h h7)
      rw [List.length_append, putL_length] at this
      exact this.symm
    · rw [if_neg h7]
      by_cases h8 : f.type = 8
      · rw [if_pos h8, List.length_append, putL_length]
        have := congrArg List.length (pay_8 f h h8)
        rw [List.length_append, putL_length] at this
        exact this.symm
      · rw [if_neg h8]
  · by_cases h7 : f.type = 7
    · rw [if_pos h7, fields_high _ _ _ _ (.inl h7) (by omega) (by omega), ← pay_7 f h h7]
    · rw [if_neg h7]
      by_cases h8 : f.type = 8
      · rw [if_pos h8, fields_high _ _ _ _ (.inr h8) (by omega) (by omega), ← pay_8 f h h8]
      · rw [if_neg h8]
/-- The highest bits aren't looked at. -/
theorem body_high (f : FrM) (h : May f) : bodyF (highL f) (payL f).length = bodyF (wholeL f) (payL f).length := by
  have hr := h.rng
  obtain ⟨h1, h2, h3, h4⟩ := whole_parts f h
  obtain ⟨p, hp, hpl, hpf⟩ := high_pay f h
  have hg : ∀ i, (highL f).getD (3 + i) 0 = (bt f.type :: bt f.flags :: (putL (f.stream + 2147483648) 4 ++ p)).getD i 0 := fun i => by
    rw [hp, List.getD, List.getElem?_append_right (by rw [putL_length]; omega), putL_length, Nat.add_sub_cancel_left]; rfl
  have q1 : (((highL f).getD 3 0).toNat : Int) = f.type := by rw [show 3 = 3 + 0 from rfl, hg 0]; exact bt_val _ hr.1 hr.2.1
  have q2 : (((highL f).getD 4 0).toNat : Int) = f.flags := by rw [show 4 = 3 + 1 from rfl, hg 1]; exact bt_val _ hr.2.2.1 hr.2.2.2.1
  have q3 : at' (highL f) 5 4 % 2147483648 = f.stream := by
    have h5 : at' (highL f) 5 4 = at' (putL (f.stream + 2147483648) 4 ++ p) 0 4 := by
      rw [at', at', List.drop_zero, hp, show 5 = 3 + 2 from rfl, ← List.drop_drop, putL_drop]; rfl
    rw [h5, at_put _ (by omega) (by omega) 4 (by omega)]; omega
  have q4 : ((highL f).drop 9).take (payL f).length = p := by
    have h9 : (highL f).drop 9 = p := by
      rw [hp, show 9 = 3 + 6 from rfl, ← List.drop_drop, putL_drop, show 6 = 2 + 4 from rfl, ← List.drop_drop]
      show (putL (f.stream + 2147483648) 4 ++ p).drop 4 = p
      rw [putL_drop]
    rw [h9, ← hpl, List.take_length]
  rw [bodyF, bodyF]
  simp only [h1, h2, h3, h4, q1, q2, q3, q4, hpf]
theorem high_len (f : FrM) (h : May f) : (highL f).length = 9 + (payL f).length := by
  obtain ⟨p, hp, hpl, _⟩ := high_pay f h
  rw [hp, List.length_append, List.length_cons, List.length_cons, List.length_append, putL_length, putL_length, hpl]; omega
theorem high_n (f : FrM) (hl : (payL f).length ≤ 16777215) : lenN (highL f) = (payL f).length := by
  rw [lenN, highL, at_put _ (by omega) (by omega) 3 (by omega)]; omega

/-- Of a frame that is put: what it is taken as. -/
theorem take_whole (f : FrM) (most : Int) (hl : (payL f).length ≤ 16777215) (hm : ((payL f).length : Int) ≤ most) : takeF (wholeL f) most = bodyF (wholeL f) (payL f).length := by
  rw [takeF, whole_len, whole_n f hl, if_neg (by omega), if_neg (by omega), if_neg (by omega)]
theorem take_high (f : FrM) (most : Int) (h : May f) (hl : (payL f).length ≤ 16777215) (hm : ((payL f).length : Int) ≤ most) : takeF (highL f) most = takeF (wholeL f) most := by
  rw [take_whole f most hl hm, takeF, high_len f h, high_n f hl, if_neg (by omega), if_neg (by omega), if_neg (by omega), body_high f h]
end Fra
end Go.Proofs.YtglhdlkmgmbgeaaDoor

namespace Go.Proofs.YtglhdlkmgmbgeaaDoor
namespace Cho
open Fra Oct
set_option linter.unusedVariables false

structure ItM where
  f : FrM
  x : FaM
deriving DecidableEq
/-- The items of bytes (without the preface), what is left, and whether it is over. -/
def stepsF : Nat → List UInt8 → Int → List ItM × List UInt8 × Bool
  | 0, b, _ => ([], b, false)
  | F + 1, b, most =>
    if (takeF b most).2.1 = 0 ∧ (takeF b most).2.2.is = false then ([], b, false)
    else if (takeF b most).2.1 = 0 then ([⟨(takeF b most).1, (takeF b most).2.2⟩], [], true)
    else (⟨(takeF b most).1, (takeF b most).2.2⟩ :: (stepsF F (b.drop (takeF b most).2.1) most).1, (stepsF F (b.drop (takeF b most).2.1) most).2)
def steps (b : List UInt8) (most : Int) : List ItM × List UInt8 × Bool := stepsF (b.length + 1) b most

/-- Is nothing told? -/
def none' (b : List UInt8) (most : Int) : Prop := (takeF b most).2.1 = 0 ∧ (takeF b most).2.2.is = false
theorem body_told (b : List UInt8) (n : Nat) : ¬ ((bodyF b n).2.1 = 0 ∧ (bodyF b n).2.2.is = false) := by
  rw [bodyF]
  simp only
  split
  · simp [ofC]
  · split
    · split <;> simp [ofC]
    · generalize fieldsF _ _ _ _ = R
      obtain ⟨f, ok⟩ := R
      simp only
      split
      · simp [ofC]
      · split
        · split <;> simp [ofC]
        · split <;> simp [ofC]
theorem body_n (b : List UInt8) (n : Nat) : (bodyF b n).2.1 = 0 ∨ (bodyF b n).2.1 = 9 + n := by
  rw [bodyF]
  simp only
  split
  · exact .inl rfl
  · split
    · split
      · exact .inr rfl
      · exact .inl rfl
    · generalize fieldsF _ _ _ _ = R
      obtain ⟨f, ok⟩ := R
      simp only
      split
      · exact .inl rfl
      · split
        · split
          · exact .inl rfl
          · exact .inr rfl
        · split
          · exact .inl rfl
          · exact .inr rfl
/-- A frame's bytes: nine and as many as there are at most. -/
theorem take_n (b : List UInt8) (most : Int) (h : (takeF b most).2.1 ≠ 0) : 9 ≤ (takeF b most).2.1 ∧ (takeF b most).2.1 ≤ b.length := by
  rw [takeF] at h ⊢
  split at h
  · exact absurd rfl h
  · split at h
    · exact absurd rfl h
    · split at h
      · exact absurd rfl h
      · rename_i h1 h2 h3
        rw [if_neg h1, if_neg h2, if_neg h3]
        rcases body_n b (lenN b) with e | e
        · exact absurd e h
        · omega
/-- What is told isn't turned by what comes behind. -/
theorem told_join (b c : List UInt8) (most : Int) (h : ¬ none' b most) : takeF (b ++ c) most = takeF b most := by
  unfold none' at h
  by_cases h9 : b.length < 9
  · exact absurd (by rw [takeF, if_pos h9]; exact ⟨rfl, rfl⟩) h
  · have hl := len_join b c (by omega)
    have h9' : ¬ (b ++ c).length < 9 := by rw [List.length_append]; omega
    rw [takeF, takeF, if_neg h9, if_neg h9', hl]
    by_cases hm : most < lenN b
    · rw [if_pos hm, if_pos hm]
    · rw [if_neg hm, if_neg hm]
      by_cases hs : b.length < 9 + lenN b
      · exact absurd (by rw [takeF, if_neg h9, if_neg hm, if_pos hs]; exact ⟨rfl, rfl⟩) h
      · have hs' : ¬ (b ++ c).length < 9 + lenN b := by rw [List.length_append]; omega
        rw [if_neg hs, if_neg hs', body_join _ _ _ (by omega)]
/-- Nothing told: fewer bytes are left than a frame at the limit has. -/
theorem none_len (b : List UInt8) (most : Int) (h : none' b most) : (b.length : Int) < 9 ∨ (b.length : Int) < 9 + most := by
  unfold none' at h
  by_cases h9 : b.length < 9
  · exact .inl (by omega)
  · rw [takeF, if_neg h9] at h
    by_cases hm : most < lenN b
    · rw [if_pos hm] at h; exact absurd h.2 (by simp [ofC])
    · rw [if_neg hm] at h
      by_cases hs : b.length < 9 + lenN b
      · exact .inr (by omega)
      · rw [if_neg hs] at h
        exact absurd h (body_told b (lenN b))
/-- Enough fuel is enough. -/
theorem steps_fuel (most : Int) : ∀ (F G : Nat) (b : List UInt8), b.length < F → b.length < G → stepsF F b most = stepsF G b most := by
  intro F
  induction F with
  | zero => intro G b h; omega
  | succ F ih =>
    intro G b hF hG
    obtain ⟨G, rfl⟩ : ∃ G', G = G' + 1 := ⟨G - 1, by omega⟩
    simp only [stepsF]
    split
    · rfl
    · split
      · rfl
      · rename_i h1 h2
        have hn := take_n b most h2
        have hd : (b.drop (takeF b most).2.1).length = b.length - (takeF b most).2.1 := List.length_drop
        rw [ih G _ (by omega) (by omega)]
theorem steps_eq (b : List UInt8) (most : Int) : steps b most =
    if (takeF b most).2.1 = 0 ∧ (takeF b most).2.2.is = false then ([], b, false)
    else if (takeF b most).2.1 = 0 then ([⟨(takeF b most).1, (takeF b most).2.2⟩], [], true)
    else (⟨(takeF b most).1, (takeF b most).2.2⟩ :: (steps (b.drop (takeF b most).2.1) most).1, (steps (b.drop (takeF b most).2.1) most).2) := by
  rw [steps, stepsF]
  split
  · rfl
  · split
    · rfl
    · rename_i h1 h2
      have hn := take_n b most h2
      have hd : (b.drop (takeF b most).2.1).length = b.length - (takeF b most).2.1 := List.length_drop
      rw [steps, steps_fuel most b.length ((b.drop (takeF b most).2.1).length + 1) _ (by omega) (by omega)]
/-- What is left is told of no more. -/
theorem steps_left (most : Int) : ∀ (n : Nat) (b : List UInt8), b.length ≤ n → (steps b most).2.2 = false → none' (steps b most).2.1 most := by
  intro n
  induction n with
  | zero =>
    intro b hb h
    have : b = [] := List.eq_nil_of_length_eq_zero (by omega)
    subst this
    rw [steps_eq, if_pos ⟨rfl, rfl⟩]
    exact ⟨rfl, rfl⟩
  | succ n ih =>
    intro b hb h
    rw [steps_eq] at h ⊢
    split at h
    · rename_i h1; rw [if_pos h1]; exact h1
    · rename_i h1
      rw [if_neg h1]
      split at h
      · exact absurd h (by simp)
      · rename_i h2
        rw [if_neg h2]
        have hn := take_n b most h2
        exact ih _ (by rw [List.length_drop]; omega) h
theorem steps_over (most : Int) : ∀ (n : Nat) (b : List UInt8), b.length ≤ n → (steps b most).2.2 = true → (steps b most).2.1 = [] := by
  intro n
  induction n with
  | zero =>
    intro b hb h
    have : b = [] := List.eq_nil_of_length_eq_zero (by omega)
    subst this
    rw [steps_eq, if_pos ⟨rfl, rfl⟩] at h
    exact absurd h (by simp)
  | succ n ih =>
    intro b hb h
    rw [steps_eq] at h ⊢
    split at h
    · exact absurd h (by simp)
    · rename_i h1
      rw [if_neg h1]
      split at h
      · rename_i h2; rw [if_pos h2]
      · rename_i h2
        rw [if_neg h2]
        have hn := take_n b most h2
        exact ih _ (by rw [List.length_drop]; omega) h
/-- Bytes that come behind: what was told stays, what was left goes on. -/
theorem steps_join (most : Int) (c : List UInt8) : ∀ (n : Nat) (b : List UInt8), b.length ≤ n →
    steps (b ++ c) most = if (steps b most).2.2 = true then steps b most else ((steps b most).1 ++ (steps ((steps b most).2.1 ++ c) most).1, (steps ((steps b most).2.1 ++ c) most).2) := by
  intro n
  induction n with
  | zero =>
    intro b hb
    have : b = [] := List.eq_nil_of_length_eq_zero (by omega)
    subst this
    have h0 : steps [] most = ([], [], false) := by rw [steps_eq, if_pos ⟨rfl, rfl⟩]
    rw [h0]
    simp
  | succ n ih =>
    intro b hb
    by_cases h1 : (takeF b most).2.1 = 0 ∧ (takeF b most).2.2.is = false
    · have e : steps b most = ([], b, false) := by rw [steps_eq, if_pos h1]
      rw [e]; simp
    · have hj := told_join b c most h1
      by_cases h2 : (takeF b most).2.1 = 0
      · have e : steps b most = ([⟨(takeF b most).1, (takeF b most).2.2⟩], [], true) := by rw [steps_eq, if_neg h1, if_pos h2]
        rw [e, if_pos rfl, steps_eq, hj, if_neg h1, if_pos h2]
      · have hn := take_n b most h2
        have e : steps b most = (⟨(takeF b most).1, (takeF b most).2.2⟩ :: (steps (b.drop (takeF b most).2.1) most).1, (steps (b.drop (takeF b most).2.1) most).2) := by
          conv => lhs; rw [steps_eq, if_neg h1, if_neg h2]
        have e2 : steps (b ++ c) most = (⟨(takeF b most).1, (takeF b most).2.2⟩ :: (steps (b.drop (takeF b most).2.1 ++ c) most).1, (steps (b.drop (takeF b most).2.1 ++ c) most).2) := by
          conv => lhs; rw [steps_eq, hj, if_neg h1, if_neg h2, List.drop_append_of_le_length hn.2]
        rw [e2, e, ih (b.drop (takeF b most).2.1) (by rw [List.length_drop]; omega)]
        simp only
        generalize steps (b.drop (takeF b most).2.1) most = R
        obtain ⟨i, r, o⟩ := R
        cases o <;> simp

def prefL : List UInt8 := [80, 82, 73, 32, 42, 32, 72, 84, 84, 80, 47, 50, 46, 48, 13, 10, 13, 10, 83, 77, 13, 10, 13, 10]
/-- The document's All. -/
def allF (b : List UInt8) (most : Int) (aw : Bool) : List ItM × List UInt8 × Bool :=
  if aw = true then
    if b.take 24 ≠ prefL.take b.length then ([⟨noFr, ofC 1⟩], [], true)
    else if b.length < 24 then ([], b, false)
    else steps (b.drop 24) most
  else steps b most
/-- A feed: what is left of what came, whether the preface is awaited, whether it is over. -/
structure FeM where
  rest : List UInt8
  aw : Bool
  over : Bool
deriving DecidableEq
def feedF (most : Int) (s : FeM) (c : List UInt8) : List ItM × FeM :=
  if s.over = true then ([], s)
  else ((allF (s.rest ++ c) most s.aw).1, ⟨(allF (s.rest ++ c) most s.aw).2.1, s.aw && decide ((s.rest ++ c).length < 24), (allF (s.rest ++ c) most s.aw).2.2⟩)
theorem pref_len : prefL.length = 24 := rfl
theorem pref_bad (b c : List UInt8) (h : b.take 24 ≠ prefL.take b.length) : (b ++ c).take 24 ≠ prefL.take (b ++ c).length := fun e => h (by
  have e2 := congrArg (List.take b.length) e
  rw [List.take_take, List.take_take, List.length_append, Nat.min_eq_left (show b.length ≤ b.length + c.length by omega)] at e2
  by_cases hb : b.length ≤ 24
  · rw [Nat.min_eq_left hb, List.take_left] at e2
    rw [List.take_of_length_le hb]; exact e2
  · rw [Nat.min_eq_right (by omega), List.take_append_of_le_length (by omega)] at e2
    exact e2)
/-- Bytes that come behind: what was told stays. -/
theorem all_join (most : Int) (aw : Bool) (b c : List UInt8) : allF (b ++ c) most aw =
    if (allF b most aw).2.2 = true then allF b most aw
    else ((allF b most aw).1 ++ (allF ((allF b most aw).2.1 ++ c) most (aw && decide (b.length < 24))).1, (allF ((allF b most aw).2.1 ++ c) most (aw && decide (b.length < 24))).2) := by
  cases aw with
  | false =>
    have e : ∀ x, allF x most false = steps x most := fun x => rfl
    simp only [Bool.false_and, e]
    exact steps_join most c b.length b (Nat.le_refl _)
  | true =>
    by_cases hb : b.take 24 ≠ prefL.take b.length
    · have e1 : allF b most true = ([⟨noFr, ofC 1⟩], [], true) := by rw [allF, if_pos rfl, if_pos hb]
      have e2 : allF (b ++ c) most true = ([⟨noFr, ofC 1⟩], [], true) := by rw [allF, if_pos rfl, if_pos (pref_bad b c hb)]
      rw [e1, e2, if_pos rfl]
    · by_cases hl : b.length < 24
      · have e1 : allF b most true = ([], b, false) := by rw [allF, if_pos rfl, if_neg hb, if_pos hl]
        rw [e1]
        simp [hl]
      · have e1 : allF b most true = steps (b.drop 24) most := by rw [allF, if_pos rfl, if_neg hb, if_neg hl]
        have h2 : ¬ (b ++ c).take 24 ≠ prefL.take (b ++ c).length := by
          have hb' : b.take 24 = prefL.take b.length := Classical.byContradiction hb
          rw [List.take_append_of_le_length (by omega), hb', List.take_of_length_le (by rw [pref_len]; omega), List.take_of_length_le (by rw [pref_len, List.length_append]; omega)]
          simp
        have e2 : allF (b ++ c) most true = steps (b.drop 24 ++ c) most := by
          rw [allF, if_pos rfl, if_neg h2, if_neg (by rw [List.length_append]; omega), List.drop_append_of_le_length (by omega)]
        rw [e1, e2, decide_eq_false hl, Bool.and_false]
        have e : ∀ x, allF x most false = steps x most := fun x => rfl
        simp only [e]
        exact steps_join most c _ (b.drop 24) (Nat.le_refl _)
/-- A feed's state behind bytes that came. -/
def stF (most : Int) (aw : Bool) (all : List UInt8) : FeM := ⟨(allF all most aw).2.1, aw && decide (all.length < 24), (allF all most aw).2.2⟩
theorem rest_len (most : Int) (aw : Bool) (b c : List UInt8) (h : (allF b most aw).2.2 = false) : (aw && decide (b.length < 24) && decide (((allF b most aw).2.1 ++ c).length < 24)) = (aw && decide ((b ++ c).length < 24)) := by
  cases aw with
  | false => rfl
  | true =>
    by_cases hl : b.length < 24
    · have hb : ¬ b.take 24 ≠ prefL.take b.length := fun e => by rw [allF, if_pos rfl, if_pos e] at h; cases h
      have e1 : allF b most true = ([], b, false) := by rw [allF, if_pos rfl, if_neg hb, if_pos hl]
      rw [e1, decide_eq_true hl]; rfl
    · have h2 : ¬ (b ++ c).length < 24 := by rw [List.length_append]; omega
      rw [decide_eq_false hl, decide_eq_false h2]; rfl
/-- A piece more. -/
theorem feed_step (most : Int) (aw : Bool) (b c : List UInt8) :
    (allF (b ++ c) most aw).1 = (allF b most aw).1 ++ (feedF most (stF most aw b) c).1 ∧ ((allF b most aw).2.2 = false → (feedF most (stF most aw b) c).2 = stF most aw (b ++ c)) ∧
      ((allF b most aw).2.2 = true → allF (b ++ c) most aw = allF b most aw ∧ (feedF most (stF most aw b) c).2.over = true ∧ (feedF most (stF most aw b) c).2.rest = (stF most aw b).rest) := by
  have hj := all_join most aw b c
  cases ho : (allF b most aw).2.2 with
  | true =>
    rw [ho, if_pos rfl] at hj
    have hf : feedF most (stF most aw b) c = ([], stF most aw b) := by rw [feedF, if_pos (by simp [stF, ho])]
    rw [hf, hj]
    exact ⟨by simp, fun h => (by cases h), fun _ => ⟨rfl, by simp [stF, ho], rfl⟩⟩
  | false =>
    rw [ho, if_neg (by decide)] at hj
    have hf : feedF most (stF most aw b) c = ((allF ((allF b most aw).2.1 ++ c) most (aw && decide (b.length < 24))).1, ⟨(allF ((allF b most aw).2.1 ++ c) most (aw && decide (b.length < 24))).2.1, aw && decide (b.length < 24) && decide (((allF b most aw).2.1 ++ c).length < 24), (allF ((allF b most aw).2.1 ++ c) most (aw && decide (b.length < 24))).2.2⟩) := by
      rw [feedF, if_neg (by simp [stF, ho])]; rfl
    rw [hf]
    refine ⟨by rw [hj], fun _ => ?_, fun h => (by cases h)⟩
    rw [stF, hj, rest_len most aw b c ho]
end Cho
end Go.Proofs.YtglhdlkmgmbgeaaDoor
