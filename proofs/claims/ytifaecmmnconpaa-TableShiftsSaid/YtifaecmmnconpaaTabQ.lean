/- Layer 4 without the program: places of rows (how many came ahead), and what is found by them. -/
import Derived.WalkKit
import Derived.Test.YtifaecmmnconpaaTabPure
namespace Go.Proofs.Ytifaecmmnconpaa
open Go.RowKit
namespace Tab
section
variable {κ : Type} [DecidableEq κ]
/-- The place of the youngest row with a key; the youngest of all has the place c. -/
def plc (key : FdM → κ) (x : κ) : List FdM → Nat → Option Nat
  | [], _ => none
  | f :: r, c => if key f = x then some c else plc key x r (c - 1)
theorem plc_cons (key : FdM → κ) (x : κ) (f : FdM) (r : List FdM) (c : Nat) : plc key x (f :: r) c = if key f = x then some c else plc key x r (c - 1) := rfl
theorem plc_push (key : FdM → κ) (x : κ) (f : FdM) (r : List FdM) (c : Nat) : plc key x (f :: r) (c + 1) = if key f = x then some (c + 1) else plc key x r c := rfl
theorem plc_range (key : FdM → κ) (x : κ) : ∀ (r : List FdM) (c k : Nat), r.length ≤ c → plc key x r c = some k → c < k + r.length ∧ k ≤ c
  | [], _, _, _, h => by cases h
  | f :: r, c, k, hl, h => by
    rw [plc_cons] at h
    simp only [List.length_cons] at hl ⊢
    split at h
    · simp only [Option.some.injEq] at h; omega
    · have := plc_range key x r (c - 1) k (by omega) h; omega
/-- The oldest row behind the others. -/
theorem plc_snoc (key : FdM → κ) (x : κ) (g : FdM) : ∀ (r : List FdM) (c : Nat), plc key x (r ++ [g]) c = match plc key x r c with | some k => some k | none => if key g = x then some (c - r.length) else none
  | [], c => by simp [plc]
  | f :: r, c => by
    rw [List.cons_append, plc_cons, plc_cons]
    split
    · rfl
    · rw [plc_snoc key x g r (c - 1)]
      simp only [List.length_cons, Nat.sub_sub, Nat.add_comm]
/-- The oldest row goes: the map's entry goes just if it is that row's. -/
theorem plc_drop (key : FdM → κ) (g : FdM) (r : List FdM) (c : Nat) (hl : r.length + 1 ≤ c) (x : κ) :
    plc key x r c = if plc key (key g) (r ++ [g]) c = some (c - r.length) then (if x = key g then none else plc key x (r ++ [g]) c) else plc key x (r ++ [g]) c := by
  have h1 := plc_snoc key (key g) g r c
  have h2 := plc_snoc key x g r c
  cases hp : plc key (key g) r c with
  | some k =>
    have := plc_range key (key g) r c k (by omega) hp
    rw [hp] at h1
    simp only at h1
    rw [h1, if_neg (by simp; omega), h2]
    cases hx : plc key x r c with
    | some j => rfl
    | none =>
      simp only
      rw [if_neg]
      intro e
      subst e
      rw [hp] at hx; cases hx
  | none =>
    rw [hp] at h1
    simp only [if_true] at h1
    rw [h1, if_pos rfl, h2]
    split
    · rename_i e; subst e; exact hp
    · rename_i e
      cases hx : plc key x r c with
      | some j => rfl
      | none => simp only; rw [if_neg (fun h => e h.symm)]
end

/-- The number of the first row that is so; 0: none. -/
def fstN (p : FdM → Bool) : List FdM → Nat → Nat
  | [], _ => 0
  | f :: r, i => if p f then i + 1 else fstN p r (i + 1)
theorem fstN_cons (p : FdM → Bool) (f : FdM) (r : List FdM) (i : Nat) : fstN p (f :: r) i = if p f then i + 1 else fstN p r (i + 1) := rfl
theorem fstN_append (p : FdM → Bool) : ∀ (a b : List FdM) (i : Nat), fstN p (a ++ b) i = if fstN p a i = 0 then fstN p b (i + a.length) else fstN p a i
  | [], b, i => rfl
  | f :: r, b, i => by
    rw [List.cons_append, fstN_cons, fstN_cons]
    split
    · simp
    · rw [fstN_append p r b (i + 1)]
      simp only [List.length_cons, Nat.add_assoc, Nat.add_comm 1]
theorem fstN_plc {κ : Type} [DecidableEq κ] (key : FdM → κ) (x : κ) : ∀ (r : List FdM) (c i : Nat), r.length ≤ c → fstN (fun f => decide (key f = x)) r i = match plc key x r c with | some k => i + 1 + c - k | none => 0
  | [], _, _, _ => rfl
  | f :: r, c, i, hl => by
    rw [fstN_cons, plc_cons]
    simp only [List.length_cons] at hl
    by_cases h : key f = x
    · simp [h]
    · simp only [h, decide_false, Bool.false_eq_true, if_false]
      rw [fstN_plc key x r (c - 1) (i + 1) (by omega)]
      cases hp : plc key x r (c - 1) with
      | none => rfl
      | some k =>
        have := plc_range key x r (c - 1) k (by omega) hp
        simp only; omega

def nmV (f : FdM) : ByteArray × ByteArray := (f.name, f.value)
theorem findF_fst (f : FdM) : ∀ (l : List FdM) (i near : Nat), findF f l i near = if fstN (fun g => decide (nmV g = nmV f)) l i ≠ 0 then (fstN (fun g => decide (nmV g = nmV f)) l i, true) else (if near = 0 then fstN (fun g => decide (g.name = f.name)) l i else near, false)
  | [], i, near => by
    simp only [findF, fstN, ne_eq, not_true, if_false]
    split <;> simp_all
  | g :: r, i, near => by
    rw [findF_cons, fstN_cons, fstN_cons]
    by_cases h1 : g.name = f.name
    · by_cases h2 : g.value = f.value
      · simp [h1, h2, nmV]
      · simp only [h1, if_true, h2, if_false, nmV, Prod.mk.injEq, and_false, decide_false, Bool.false_eq_true, decide_true]
        rw [findF_fst f r (i + 1)]
        simp only [nmV, Prod.mk.injEq]
        by_cases h0 : near = 0
        · simp [h0]
        · simp [h0]
    · simp only [h1, if_false, nmV, Prod.mk.injEq, false_and, decide_false, Bool.false_eq_true]
      rw [findF_fst f r (i + 1) near]
      simp only [nmV, Prod.mk.injEq]
/-- What the program's Find puts together. -/
theorem findT_parts (rows : List FdM) (f : FdM) (c : Nat) (hl : rows.length ≤ c) (same named cs cn : Nat)
    (h1 : same = fstN (fun g => decide (nmV g = nmV f)) statics 0) (h2 : same = 0 → named = fstN (fun g => decide (g.name = f.name)) statics 0)
    (h3 : cs = match plc nmV (nmV f) rows c with | some k => 62 + c - k | none => 0) (h4 : cn = match plc (·.name) f.name rows c with | some k => 62 + c - k | none => 0) :
    findT rows f = if (if same ≠ 0 then same else cs) ≠ 0 then ((if same ≠ 0 then same else cs), true) else ((if named ≠ 0 then named else cn), false) := by
  have e3 := fstN_plc nmV (nmV f) rows c 61 hl
  have e4 := fstN_plc (fun g : FdM => g.name) f.name rows c 61 hl
  rw [← h3] at e3
  rw [← h4] at e4
  rw [findT, findF_fst, fstN_append, fstN_append, ← h1, statics_len]
  simp only [Nat.zero_add, e3, e4, if_true]
  by_cases hs : same = 0
  · rw [← h2 hs]
    by_cases hn : named = 0 <;> simp [hs, hn]
  · simp [hs]
/-- What findFixed goes through: the numbers of the row that is so, and of the first with its name. -/
def fixF (f : FdM) : List FdM → Nat → Nat → Nat × Nat
  | [], _, near => (0, near)
  | x :: r, i, near => if x.name = f.name then (if x.value = f.value then (i + 1, if near = 0 then i + 1 else near) else fixF f r (i + 1) (if near = 0 then i + 1 else near)) else fixF f r (i + 1) near
theorem fixF_cons (f x : FdM) (r : List FdM) (i near : Nat) : fixF f (x :: r) i near = if x.name = f.name then (if x.value = f.value then (i + 1, if near = 0 then i + 1 else near) else fixF f r (i + 1) (if near = 0 then i + 1 else near)) else fixF f r (i + 1) near := rfl
theorem fixF_fst (f : FdM) : ∀ (l : List FdM) (i near : Nat), (fixF f l i near).1 = fstN (fun g => decide (nmV g = nmV f)) l i ∧ ((fixF f l i near).1 = 0 → (fixF f l i near).2 = if near = 0 then fstN (fun g => decide (g.name = f.name)) l i else near)
  | [], i, near => by
    simp only [fixF, fstN, true_and]
    intro _; split <;> simp_all
  | g :: r, i, near => by
    rw [fixF_cons, fstN_cons, fstN_cons]
    by_cases h1 : g.name = f.name
    · by_cases h2 : g.value = f.value
      · simp [h1, h2, nmV]
      · simp only [h1, if_true, h2, if_false, nmV, Prod.mk.injEq, and_false, decide_false, Bool.false_eq_true, decide_true]
        have ih := fixF_fst f r (i + 1) (if near = 0 then i + 1 else near)
        simp only [nmV, Prod.mk.injEq] at ih
        refine ⟨ih.1, fun h => ?_⟩
        rw [ih.2 h]
        by_cases h0 : near = 0
        · simp [h0]
        · simp [h0]
    · simp only [h1, if_false, nmV, Prod.mk.injEq, false_and, decide_false, Bool.false_eq_true]
      have ih := fixF_fst f r (i + 1) near
      simp only [nmV, Prod.mk.injEq] at ih
      exact ih
end Tab
end Go.Proofs.Ytifaecmmnconpaa
