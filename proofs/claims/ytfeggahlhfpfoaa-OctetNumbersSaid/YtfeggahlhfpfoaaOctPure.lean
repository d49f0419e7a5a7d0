/- Plain functions on bytes and lists for layer 1: what its calls compute. -/
import Derived.WalkKit
namespace Go.Proofs.Ytfeggahlhfpfoaa
namespace Oct

def smallI (c : Int) : Int := if 65 ≤ c ∧ c ≤ 90 then c + 32 else c

theorem smallI_bd (c : Int) (h0 : 0 ≤ c) (h1 : c ≤ 255) : 0 ≤ smallI c ∧ smallI c ≤ 255 := by
  unfold smallI; split <;> omega

def worthI (c : Int) : Int :=
  if 48 ≤ c ∧ c ≤ 57 then c - 48 else if 97 ≤ c ∧ c ≤ 102 then c - 87 else if 65 ≤ c ∧ c ≤ 70 then c - 55 else 99

theorem worthI_bd (c : Int) : 0 ≤ worthI c ∧ worthI c ≤ 99 := by
  unfold worthI; (repeat' split) <;> omega

def numF (base : Int) : List UInt8 → Int → Int
  | [], n => n
  | c :: r, n => if base ≤ worthI c.toNat then -1 else numF base r (if 1099511627777 < n * base + worthI c.toNat then 1099511627777 else n * base + worthI c.toNat)

def numV (base : Int) (l : List UInt8) : Int :=
  if l = [] then 0 else if numF base l 0 = -1 then 0 else if 1099511627776 < numF base l 0 then 0 else numF base l 0

def numE (base : Int) (l : List UInt8) : Int :=
  if l = [] then 10 else if numF base l 0 = -1 then 10 else if 1099511627776 < numF base l 0 then 11 else 0

theorem drop_at (s : ByteArray) (k : Nat) (h : k < s.size) : s.data.toList.drop k = s[k] :: s.data.toList.drop (k + 1) := by
  rw [List.drop_eq_getElem_cons (by simpa using h)]; rfl

theorem drop_end (s : ByteArray) (k : Nat) (h : s.size ≤ k) : s.data.toList.drop k = [] := by
  rw [List.drop_eq_nil_iff]; simpa using h

theorem numF_stop (base : Int) (s : ByteArray) (k : Nat) (n : Int) (h : k < s.size) (hw : base ≤ worthI s[k].toNat) :
    numF base (s.data.toList.drop k) n = -1 := by
  rw [drop_at s k h, numF, if_pos hw]

theorem numF_go (base : Int) (s : ByteArray) (k : Nat) (n : Int) (h : k < s.size) (hw : ¬ base ≤ worthI s[k].toNat) :
    numF base (s.data.toList.drop k) n = numF base (s.data.toList.drop (k + 1)) (if 1099511627777 < n * base + worthI s[k].toNat then 1099511627777 else n * base + worthI s[k].toNat) := by
  rw [drop_at s k h, numF, if_neg hw]

theorem numF_end (base : Int) (s : ByteArray) (k : Nat) (n : Int) (h : s.size ≤ k) : numF base (s.data.toList.drop k) n = n := by
  rw [drop_end s k h, numF]
end Oct
end Go.Proofs.Ytfeggahlhfpfoaa
