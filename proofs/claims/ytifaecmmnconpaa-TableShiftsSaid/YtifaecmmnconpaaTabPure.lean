/- Layer 4 without the program: fields, rows that never change, a table of rows that came. -/
import Derived.WalkKit
import Derived.Test.YtifaecmmnconpaaArg
import Derived.Test.YtifaecmmnconpaaRowE
namespace Go.Proofs.Ytifaecmmnconpaa
open Go.RowKit
namespace Tab

/-- A field. -/
structure FdM where
  name : ByteArray
  value : ByteArray
  never : Bool
deriving DecidableEq

/-- How it lies in cells. -/
def EFd : Rw.Enc FdM where
  enc f := [.string f.name, .string f.value, .bool f.never]
  k := 3
  pos := by decide
  len _ := rfl
  one x v h := by
    simp only [List.mem_cons, List.not_mem_nil, or_false] at h
    rcases h with rfl | rfl | rfl <;> rfl
theorem CE_fd {w : World} {b o : Nat} {f : FdM} (h : Rw.CE EFd w b o f) : w.cell? ⟨b, o, none⟩ = some (.string f.name) ∧ w.cell? ⟨b, o + 1, none⟩ = some (.string f.value) ∧ w.cell? ⟨b, o + 2, none⟩ = some (.bool f.never) :=
  ⟨h 0 _ rfl, h 1 _ rfl, h 2 _ rfl⟩

/-- The rows that never change. -/
def statics : List FdM := [
  ⟨⟨#[58, 97, 117, 116, 104, 111, 114, 105, 116, 121]⟩, ⟨#[]⟩, false⟩,
  ⟨⟨#[58, 109, 101, 116, 104, 111, 100]⟩, ⟨#[71, 69, 84]⟩, false⟩,
  ⟨⟨#[58, 109, 101, 116, 104, 111, 100]⟩, ⟨#[80, 79, 83, 84]⟩, false⟩,
  ⟨⟨#[58, 112, 97, 116, 104]⟩, ⟨#[47]⟩, false⟩,
  ⟨⟨#[58, 112, 97, 116, 104]⟩, ⟨#[47, 105, 110, 100, 101, 120, 46, 104, 116, 109, 108]⟩, false⟩,
  ⟨⟨#[58, 115, 99, 104, 101, 109, 101]⟩, ⟨#[104, 116, 116, 112]⟩, false⟩,
  ⟨⟨#[58, 115, 99, 104, 101, 109, 101]⟩, ⟨#[104, 116, 116, 112, 115]⟩, false⟩,
  ⟨⟨#[58, 115, 116, 97, 116, 117, 115]⟩, ⟨#[50, 48, 48]⟩, false⟩,
  ⟨⟨#[58, 115, 116, 97, 116, 117, 115]⟩, ⟨#[50, 48, 52]⟩, false⟩,
  ⟨⟨#[58, 115, 116, 97, 116, 117, 115]⟩, ⟨#[50, 48, 54]⟩, false⟩,
  ⟨⟨#[58, 115, 116, 97, 116, 117, 115]⟩, ⟨#[51, 48, 52]⟩, false⟩,
  ⟨⟨#[58, 115, 116, 97, 116, 117, 115]⟩, ⟨#[52, 48, 48]⟩, false⟩,
  ⟨⟨#[58, 115, 116, 97, 116, 117, 115]⟩, ⟨#[52, 48, 52]⟩, false⟩,
  ⟨⟨#[58, 115, 116, 97, 116, 117, 115]⟩, ⟨#[53, 48, 48]⟩, false⟩,
  ⟨⟨#[97, 99, 99, 101, 112, 116, 45, 99, 104, 97, 114, 115, 101, 116]⟩, ⟨#[]⟩, false⟩,
  ⟨⟨#[97, 99, 99, 101, 112, 116, 45, 101, 110, 99, 111, 100, 105, 110, 103]⟩, ⟨#[103, 122, 105, 112, 44, 32, 100, 101, 102, 108, 97, 116, 101]⟩, false⟩,
  ⟨⟨#[97, 99, 99, 101, 112, 116, 45, 108, 97, 110, 103, 117, 97, 103, 101]⟩, ⟨#[]⟩, false⟩,
  ⟨⟨#[97, 99, 99, 101, 112, 116, 45, 114, 97, 110, 103, 101, 115]⟩, ⟨#[]⟩, false⟩,
  ⟨⟨#[97, 99, 99, 101, 112, 116]⟩, ⟨#[]⟩, false⟩,
  ⟨⟨#[97, 99, 99, 101, 115, 115, 45, 99, 111, 110, 116, 114, 111, 108, 45, 97, 108, 108, 111, 119, 45, 111, 114, 105, 103, 105, 110]⟩, ⟨#[]⟩, false⟩,
  ⟨⟨#[97, 103, 101]⟩, ⟨#[]⟩, false⟩,
  ⟨⟨#[97, 108, 108, 111, 119]⟩, ⟨#[]⟩, false⟩,
  ⟨⟨#[97, 117, 116, 104, 111, 114, 105, 122, 97, 116, 105, 111, 110]⟩, ⟨#[]⟩, false⟩,
  ⟨⟨#[99, 97, 99, 104, 101, 45, 99, 111, 110, 116, 114, 111, 108]⟩, ⟨#[]⟩, false⟩,
  ⟨⟨#[99, 111, 110, 116, 101, 110, 116, 45, 100, 105, 115, 112, 111, 115, 105, 116, 105, 111, 110]⟩, ⟨#[]⟩, false⟩,
  ⟨⟨#[99, 111, 110, 116, 101, 110, 116, 45, 101, 110, 99, 111, 100, 105, 110, 103]⟩, ⟨#[]⟩, false⟩,
  ⟨⟨#[99, 111, 110, 116, 101, 110, 116, 45, 108, 97, 110, 103, 117, 97, 103, 101]⟩, ⟨#[]⟩, false⟩,
  ⟨⟨#[99, 111, 110, 116, 101, 110, 116, 45, 108, 101, 110, 103, 116, 104]⟩, ⟨#[]⟩, false⟩,
  ⟨⟨#[99, 111, 110, 116, 101, 110, 116, 45, 108, 111, 99, 97, 116, 105, 111, 110]⟩, ⟨#[]⟩, false⟩,
  ⟨⟨#[99, 111, 110, 116, 101, 110, 116, 45, 114, 97, 110, 103, 101]⟩, ⟨#[]⟩, false⟩,
  ⟨⟨#[99, 111, 110, 116, 101, 110, 116, 45, 116, 121, 112, 101]⟩, ⟨#[]⟩, false⟩,
  ⟨⟨#[99, 111, 111, 107, 105, 101]⟩, ⟨#[]⟩, false⟩,
  ⟨⟨#[100, 97, 116, 101]⟩, ⟨#[]⟩, false⟩,
  ⟨⟨#[101, 116, 97, 103]⟩, ⟨#[]⟩, false⟩,
  ⟨⟨#[101, 120, 112, 101, 99, 116]⟩, ⟨#[]⟩, false⟩,
  ⟨⟨#[101, 120, 112, 105, 114, 101, 115]⟩, ⟨#[]⟩, false⟩,
  ⟨⟨#[102, 114, 111, 109]⟩, ⟨#[]⟩, false⟩,
  ⟨⟨#[104, 111, 115, 116]⟩, ⟨#[]⟩, false⟩,
  ⟨⟨#[105, 102, 45, 109, 97, 116, 99, 104]⟩, ⟨#[]⟩, false⟩,
  ⟨⟨#[105, 102, 45, 109, 111, 100, 105, 102, 105, 101, 100, 45, 115, 105, 110, 99, 101]⟩, ⟨#[]⟩, false⟩,
  ⟨⟨#[105, 102, 45, 110, 111, 110, 101, 45, 109, 97, 116, 99, 104]⟩, ⟨#[]⟩, false⟩,
  ⟨⟨#[105, 102, 45, 114, 97, 110, 103, 101]⟩, ⟨#[]⟩, false⟩,
  ⟨⟨#[105, 102, 45, 117, 110, 109, 111, 100, 105, 102, 105, 101, 100, 45, 115, 105, 110, 99, 101]⟩, ⟨#[]⟩, false⟩,
  ⟨⟨#[108, 97, 115, 116, 45, 109, 111, 100, 105, 102, 105, 101, 100]⟩, ⟨#[]⟩, false⟩,
  ⟨⟨#[108, 105, 110, 107]⟩, ⟨#[]⟩, false⟩,
  ⟨⟨#[108, 111, 99, 97, 116, 105, 111, 110]⟩, ⟨#[]⟩, false⟩,
  ⟨⟨#[109, 97, 120, 45, 102, 111, 114, 119, 97, 114, 100, 115]⟩, ⟨#[]⟩, false⟩,
  ⟨⟨#[112, 114, 111, 120, 121, 45, 97, 117, 116, 104, 101, 110, 116, 105, 99, 97, 116, 101]⟩, ⟨#[]⟩, false⟩,
  ⟨⟨#[112, 114, 111, 120, 121, 45, 97, 117, 116, 104, 111, 114, 105, 122, 97, 116, 105, 111, 110]⟩, ⟨#[]⟩, false⟩,
  ⟨⟨#[114, 97, 110, 103, 101]⟩, ⟨#[]⟩, false⟩,
  ⟨⟨#[114, 101, 102, 101, 114, 101, 114]⟩, ⟨#[]⟩, false⟩,
  ⟨⟨#[114, 101, 102, 114, 101, 115, 104]⟩, ⟨#[]⟩, false⟩,
  ⟨⟨#[114, 101, 116, 114, 121, 45, 97, 102, 116, 101, 114]⟩, ⟨#[]⟩, false⟩,
  ⟨⟨#[115, 101, 114, 118, 101, 114]⟩, ⟨#[]⟩, false⟩,
  ⟨⟨#[115, 101, 116, 45, 99, 111, 111, 107, 105, 101]⟩, ⟨#[]⟩, false⟩,
  ⟨⟨#[115, 116, 114, 105, 99, 116, 45, 116, 114, 97, 110, 115, 112, 111, 114, 116, 45, 115, 101, 99, 117, 114, 105, 116, 121]⟩, ⟨#[]⟩, false⟩,
  ⟨⟨#[116, 114, 97, 110, 115, 102, 101, 114, 45, 101, 110, 99, 111, 100, 105, 110, 103]⟩, ⟨#[]⟩, false⟩,
  ⟨⟨#[117, 115, 101, 114, 45, 97, 103, 101, 110, 116]⟩, ⟨#[]⟩, false⟩,
  ⟨⟨#[118, 97, 114, 121]⟩, ⟨#[]⟩, false⟩,
  ⟨⟨#[118, 105, 97]⟩, ⟨#[]⟩, false⟩,
  ⟨⟨#[119, 119, 119, 45, 97, 117, 116, 104, 101, 110, 116, 105, 99, 97, 116, 101]⟩, ⟨#[]⟩, false⟩]
theorem statics_len : statics.length = 61 := rfl

def cost (f : FdM) : Nat := f.name.size + f.value.size + 32
def csum : List FdM → Nat
  | [] => 0
  | f :: r => cost f + csum r
theorem csum_append (a b : List FdM) : csum (a ++ b) = csum a + csum b := by
  induction a with
  | nil => simp [csum]
  | cons f r ih => simp [csum, ih]; omega
theorem csum_len (l : List FdM) : 32 * l.length ≤ csum l := by
  induction l with
  | nil => simp [csum]
  | cons f r ih => simp [csum, cost]; omega
theorem csum_mem {l : List FdM} {f : FdM} (h : f ∈ l) : cost f ≤ csum l := by
  induction l with
  | nil => cases h
  | cons g r ih =>
    rcases List.mem_cons.mp h with rfl | h
    · simp [csum]
    · have := ih h; simp [csum]; omega
theorem csum_dropLast : ∀ l : List FdM, csum l.dropLast ≤ csum l
  | [] => Nat.le_refl _
  | [f] => by simp [csum]
  | f :: g :: r => by
    have := csum_dropLast (g :: r)
    rw [List.dropLast_cons_of_ne_nil (by simp)]
    simp only [csum] at this ⊢; omega
/-- The youngest first: the longest beginning that has room. -/
def fit (m : Nat) : List FdM → List FdM
  | [] => []
  | f :: r => if cost f ≤ m then f :: fit (m - cost f) r else []
theorem fit_sum : ∀ (l : List FdM) (m : Nat), csum (fit m l) ≤ m
  | [], _ => Nat.zero_le _
  | f :: r, m => by
    rw [fit]; split
    · have := fit_sum r (m - cost f); simp [csum]; omega
    · simp [csum]
theorem fit_all : ∀ (l : List FdM) (m : Nat), csum l ≤ m → fit m l = l
  | [], _, _ => rfl
  | f :: r, m, h => by
    simp only [csum] at h
    rw [fit, if_pos (by omega), fit_all r _ (by omega)]
theorem fit_cons (m : Nat) (f : FdM) (r : List FdM) : fit m (f :: r) = if cost f ≤ m then f :: fit (m - cost f) r else [] := rfl
/-- The oldest goes, as long as there is no room. -/
theorem fit_drop : ∀ (l : List FdM) (m : Nat), m < csum l → fit m l = fit m l.dropLast
  | [], _, h => by simp [csum] at h
  | [f], m, h => by simp [csum] at h; rw [fit, if_neg (by omega)]; rfl
  | f :: g :: r, m, h => by
    rw [List.dropLast_cons_of_ne_nil (by simp), fit_cons m f (g :: r), fit_cons m f (g :: r).dropLast]
    split
    · rw [fit_drop (g :: r) (m - cost f) (by simp only [csum] at h ⊢; omega)]
    · rfl
/-- A row comes. -/
def addT (m : Nat) (l : List FdM) (f : FdM) : List FdM := if m < cost f then [] else ⟨f.name, f.value, false⟩ :: fit (m - cost f) l
theorem addT_sum (m : Nat) (l : List FdM) (f : FdM) : csum (addT m l f) ≤ m := by
  rw [addT]; split
  · simp [csum]
  · have := fit_sum l (m - cost f)
    have h : cost ⟨f.name, f.value, false⟩ = cost f := rfl
    simp only [csum, h]; omega
/-- The row with a number, and why there is none. -/
def atT (rows : List FdM) (n : Int) : FdM × Nat :=
  if 1 ≤ n ∧ n ≤ 61 then (statics.getD (n.toNat - 1) ⟨ByteArray.empty, ByteArray.empty, false⟩, 0)
  else if n ≤ 61 ∨ rows.length < n - 61 then (⟨ByteArray.empty, ByteArray.empty, false⟩, 40)
  else (rows.getD (n.toNat - 62) ⟨ByteArray.empty, ByteArray.empty, false⟩, 0)
/-- The least number of a row like it, or of its name. -/
def findF (f : FdM) : List FdM → Nat → Nat → Nat × Bool
  | [], _, near => (near, false)
  | x :: r, i, near => if x.name = f.name then (if x.value = f.value then (i + 1, true) else findF f r (i + 1) (if near = 0 then i + 1 else near)) else findF f r (i + 1) near
theorem findF_cons (f x : FdM) (r : List FdM) (i near : Nat) : findF f (x :: r) i near = if x.name = f.name then (if x.value = f.value then (i + 1, true) else findF f r (i + 1) (if near = 0 then i + 1 else near)) else findF f r (i + 1) near := rfl
def findT (rows : List FdM) (f : FdM) : Nat × Bool := findF f (statics ++ rows) 0 0
theorem statics_never : ∀ x ∈ statics, x.never = false := by decide
/-- What findF comes to, from a place on: near is the least number of a row of that name so far, none of them is like it. -/
theorem findF_spec (f : FdM) (al : List FdM) : ∀ (r : List FdM) (i near : Nat), r = al.drop i → (near = 0 ∨ (near ≤ i ∧ ∃ x, al[near - 1]? = some x ∧ x.name = f.name ∧ x.value ≠ f.value)) → i ≤ al.length →
    ((findF f r i near).1 = 0 ∧ (findF f r i near).2 = false) ∨ (1 ≤ (findF f r i near).1 ∧ (findF f r i near).1 ≤ al.length ∧ ∃ x, al[(findF f r i near).1 - 1]? = some x ∧ x.name = f.name ∧ (x.value = f.value ↔ (findF f r i near).2 = true))
  | [], i, near, hr, hn, hi => by
    simp only [findF]
    rcases hn with h | ⟨h, x, hx, hx1, hx2⟩
    · exact .inl ⟨h, trivial⟩
    · rcases Nat.eq_zero_or_pos near with h0 | h0
      · exact .inl ⟨h0, trivial⟩
      · refine .inr ⟨h0, by omega, x, hx, hx1, ?_⟩
        simp [hx2]
  | y :: r, i, near, hr, hn, hi => by
    have hlt : i < al.length := by
      rcases Nat.lt_or_ge i al.length with h | h
      · exact h
      · rw [List.drop_of_length_le h] at hr; cases hr
    rw [List.drop_eq_getElem_cons hlt] at hr
    simp only [List.cons.injEq] at hr
    obtain ⟨hy, hr'⟩ := hr
    have hy2 : al[i]? = some y := by rw [List.getElem?_eq_getElem hlt, hy]
    rw [findF_cons]
    split
    · rename_i hnm
      split
      · rename_i hv
        refine .inr ⟨by simp, by simp; omega, y, by simpa using hy2, hnm, ?_⟩
        simp [hv]
      · rename_i hv
        refine findF_spec f al r (i + 1) _ hr' ?_ hlt
        split
        · exact .inr ⟨Nat.le_refl _, y, by simpa using hy2, hnm, hv⟩
        · rename_i h0
          rcases hn with h | ⟨h, x, hx⟩
          · exact absurd h h0
          · exact .inr ⟨by omega, x, hx⟩
    · refine findF_spec f al r (i + 1) near hr' ?_ hlt
      rcases hn with h | ⟨h, x, hx⟩
      · exact .inl h
      · exact .inr ⟨by omega, x, hx⟩
theorem atT_all (rows : List FdM) (n : Nat) (x : FdM) (h1 : 1 ≤ n) (hx : (statics ++ rows)[n - 1]? = some x) : atT rows n = (x, 0) := by
  by_cases h : n ≤ 61
  · rw [List.getElem?_append_left (by rw [statics_len]; omega)] at hx
    rw [atT, if_pos (by omega), Int.toNat_natCast, List.getD_eq_getElem?_getD, hx]; rfl
  · rw [List.getElem?_append_right (by rw [statics_len]; omega), statics_len] at hx
    have hlt := (List.getElem?_eq_some_iff.1 hx).1
    rw [atT, if_neg (by omega), if_neg (by omega), Int.toNat_natCast, List.getD_eq_getElem?_getD, show n - 62 = n - 1 - 61 from by omega, hx]; rfl
theorem find_spec (rows : List FdM) (f : FdM) (hnev : ∀ x ∈ rows, x.never = false) :
    ((findT rows f).1 = 0 ∧ (findT rows f).2 = false) ∨ (1 ≤ (findT rows f).1 ∧ (findT rows f).1 ≤ 61 + rows.length ∧ ∃ x, atT rows (findT rows f).1 = (x, 0) ∧ x.name = f.name ∧ x.never = false ∧ (x.value = f.value ↔ (findT rows f).2 = true)) := by
  have h := findF_spec f (statics ++ rows) (statics ++ rows) 0 0 rfl (.inl rfl) (Nat.zero_le _)
  rcases h with h | ⟨h1, h2, x, hx, hn, hv⟩
  · exact .inl h
  · refine .inr ⟨h1, by rw [List.length_append, statics_len] at h2; exact h2, x, atT_all rows _ x h1 hx, hn, ?_, hv⟩
    have := List.mem_of_getElem? hx
    rcases List.mem_append.mp this with h | h
    · exact statics_never x h
    · exact hnev x h
theorem fit_mem : ∀ {l : List FdM} {m : Nat} {x : FdM}, x ∈ fit m l → x ∈ l
  | f :: r, m, x, h => by
    rw [fit] at h
    split at h
    · rcases List.mem_cons.mp h with rfl | h
      · exact List.mem_cons_self ..
      · exact List.mem_cons_of_mem _ (fit_mem h)
    · cases h
theorem addT_never {m : Nat} {l : List FdM} {f : FdM} (h : ∀ x ∈ l, x.never = false) : ∀ x ∈ addT m l f, x.never = false := fun x hx => by
  rw [addT] at hx
  split at hx
  · cases hx
  · rcases List.mem_cons.mp hx with rfl | hx
    · rfl
    · exact h x (fit_mem hx)
end Tab
end Go.Proofs.Ytifaecmmnconpaa
