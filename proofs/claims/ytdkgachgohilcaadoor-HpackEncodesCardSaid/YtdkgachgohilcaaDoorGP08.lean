/- The contract of layer 3's program: PutText. Layer 4 without the program: places of rows (how many came ahead), and what is found by them. Maps as functions: what stands at a key, whatever the keys' and the elements' types. Layer 4: what the program's table keeps in memory; New, Most, Len, Size. -/
import Derived.Test.YtdkgachgohilcaaDoorRows
import Derived.Test.YtdkgachgohilcaaDoorGP04
import Derived.Test.YtdkgachgohilcaaDoorGP01
import Derived.Test.YtdkgachgohilcaaDoorGP02
import Derived.Test.YtdkgachgohilcaaDoorGP03
import Derived.Test.YtdkgachgohilcaaDoorGP07
import Derived.Test.YtdkgachgohilcaaDoorGP06
import Derived.WalkKit
import Derived.WalkSpells
import Derived.WalkLawsBesides
import Derived.Lib.Hide
import Derived.Outline
import Derived.Test.YtdkgachgohilcaaDoorGP05
import Derived.Maps.OwnSet
import Derived.DeepKeys4
import Derived.StringKeys
set_option linter.unusedVariables false
set_option linter.unusedSimpArgs false
namespace Go.Proofs.YtdkgachgohilcaaDoor
open Go.RowKit
open Huf Pre Mem Gen
set_option linter.unusedVariables false
set_option maxRecDepth 100000

theorem pnumber_at (f n : Nat) (F : Int) (hF : F = (f : Int)) (v : World) (hf : f < 256) (hfk : f % 2 ^ 7 = 0) (hn : n < 4294967296) : Calls Tryd.prog 98 #[.int .u8 F, .int .i64 7, .int .u32 n] v (MadeB v (putI f 7 n)) := by
  subst hF
  exact number_any f 7 n v hf (by decide) (by decide) hfk hn
theorem pputtext_yes (s : ByteArray) (w : World) (hs : s.size ≤ 1048576) (hg : GrpIs w) (hlt : sizeV s.data.toList < s.size) :
    Calls Tryd.prog 105 #[.string s] w (MadeB w (putT s.data.toList)) := by
  obtain ⟨i0, hi, hz0, hz1, hz2⟩ := info_parts info_u8
  have HI := Lib.hid hi
  have HZ0 := Lib.hid hz0
  have HZ1 := Lib.hid hz1
  have HZ2 := Lib.hid hz2
  clear hi hz0 hz1 hz2
  have HG := Lib.hid hg
  have HS := Lib.hid (fun v hv => size_any s v (by omega) hv)
  have HEn := Lib.hid (fun v hv => encode_any s v hs hv)
  have hel : (enc s.data.toList).length = sizeV s.data.toList := by rw [enc_length]; rfl
  have hput := putI_len 128 7 (enc s.data.toList).length
  have HP : Hid (putT s.data.toList = putI 128 7 (enc s.data.toList).length ++ enc s.data.toList) := Lib.hid (by rw [putT, list_len, if_pos hlt])
  generalize putT s.data.toList = R at HP ⊢
  have hln : (enc s.data.toList).length ≤ 1048576 := by omega
  generalize sizeV s.data.toList = z at HS hel hlt
  generalize enc s.data.toList = X at HEn hel hput HP hln
  subst hel
  have HPut := Lib.hid (fun v => pnumber_at 128 X.length 128 rfl v (by decide) (by decide) (by omega))
  have HRl : Hid (R.length ≤ 140737488355328) := Lib.hid (by rw [HP.out, List.length_append]; omega)
  generalize putI 128 7 X.length = Y at hput HP HPut
  have hlt' : (X.length : Int) < s.size := by omega
  clear hput hg
  go_enter Tryd.func105, Tryd.ntmps105
  go_wp2_with fail
  refine (HS.out _ HG.out).mono ?_; rintro e w1 ⟨rfl, b1⟩
  have HG1 := Lib.hid (HG.out.below b1)
  go_wp2_with fail
  refine (HPut.out _).mono ?_; rintro e w2 ⟨ad3, cp3, rfl, hown3, b2⟩
  have HG2 := Lib.hid (HG1.out.below b2)
  have HB1 := Lib.hid b1.size
  go_wp2_with fail
  refine (HEn.out _ HG2.out).mono ?_; rintro e w3 ⟨ad2, cp2, rfl, hownX, b3⟩
  have N3 := Lib.hid (own_nil hownX.out)
  have R3 : Hid (RB w3 ad2 X) := Lib.hid (RB.of_own hownX.out)
  have HO3 : Hid (w3.ownsRow w1.heap.size 5 1 (.slice ad3 Y.length cp3) Y.length (bvs Y)) := Lib.hid (own_below hown3.out b3)
  replace b3 := below_step b2 b3
  have HBs := Lib.hid b3.size
  clear hown3 hownX
  go_wp2_with (at_builtin; refine append_rb3 Tryd.underlying24 HI.out HZ0.out HZ1.out HZ2.out rfl (.tmp 12) (.tmp 14) rfl w1.heap.size ad3 cp3 Y rfl HO3.out ad2 X cp2 rfl N3.out R3.out R HP.out HRl.out HBs.out ?_; intro ad4 cp4 w4 hown4 hb4)
  go_ret
  exact ⟨ad4, cp4, rfl, Lib.hid (own_base hown4.out HB1.out), below_step b1 (hb4 _ _ b3 (Nat.le_refl _))⟩

theorem pputtext_no (s : ByteArray) (w : World) (hs : s.size ≤ 1048576) (hg : GrpIs w) (hlt : ¬ sizeV s.data.toList < s.size) :
    Calls Tryd.prog 105 #[.string s] w (MadeB w (putT s.data.toList)) := by
  obtain ⟨i0, hi, hz0, hz1, hz2⟩ := info_parts info_u8
  have HI := Lib.hid hi
  have HZ0 := Lib.hid hz0
  have HZ1 := Lib.hid hz1
  have HZ2 := Lib.hid hz2
  clear hi hz0 hz1 hz2
  have HG := Lib.hid hg
  have HS := Lib.hid (fun v hv => size_any s v (by omega) hv)
  have hput := putI_len 0 7 s.size
  have HP : Hid (putT s.data.toList = putI 0 7 s.size ++ s.data.toList) := Lib.hid (by rw [putT, list_len, if_neg hlt])
  generalize putT s.data.toList = R at HP ⊢
  have HPut := Lib.hid (fun v => pnumber_at 0 s.size 0 rfl v (by decide) (by decide) (by omega))
  have HRl : Hid (R.length ≤ 140737488355328) := Lib.hid (by rw [HP.out, List.length_append, list_len]; omega)
  generalize sizeV s.data.toList = z at HS hlt
  generalize putI 0 7 s.size = Y at hput HP HPut
  have hlt' : ¬ (z : Int) < s.size := by omega
  clear hput hg
  go_enter Tryd.func105, Tryd.ntmps105
  go_wp2_with fail
  refine (HS.out _ HG.out).mono ?_; rintro e w1 ⟨rfl, b1⟩
  go_wp2_with fail
  refine (HPut.out _).mono ?_; rintro e w3 ⟨ad3, cp3, rfl, hown3, b3⟩
  have HBb := Lib.hid b1.size
  have HBs := Lib.hid b3.size
  have HO3 : Hid (w3.ownsRow w1.heap.size 5 1 (.slice ad3 Y.length cp3) Y.length (bvs Y)) := Lib.hid hown3.out
  clear hown3
  go_wp2_with (at_builtin; refine append_str3 Tryd.underlying24 Tryd.underlying9 HI.out HZ0.out HZ1.out HZ2.out rfl (.tmp 19) (.tmp 20) rfl w1.heap.size (.slice ad3 Y.length cp3) Y rfl HO3.out s rfl R HP.out HRl.out HBs.out ?_; intro ad4 cp4 w4 hown4 hb4)
  go_ret
  exact ⟨ad4, cp4, rfl, Lib.hid (own_base hown4.out HBb.out), below_step b1 (hb4 _ _ b3 (Nat.le_refl _))⟩

theorem pputtext_any (s : ByteArray) (w : World) (hs : s.size ≤ 1048576) (hg : GrpIs w) :
    Calls Tryd.prog 105 #[.string s] w (MadeB w (putT s.data.toList)) := by
  by_cases hlt : sizeV s.data.toList < s.size
  · exact pputtext_yes s w hs hg hlt
  · exact pputtext_no s w hs hg hlt
end Go.Proofs.YtdkgachgohilcaaDoor

namespace Go.Proofs.YtdkgachgohilcaaDoor
open Go.RowKit
namespace Tab
section
variable {κ : Type} [DecidableEq κ]
/-- The place of the youngest row with a key; the youngest of all has the place c. -/
def plc (key : FdM → κ) (x : κ) : List FdM → Nat → Option Nat
  | [], _ => none
  | f :: r, c => if key f = x then some c else plc key x r (c - 1)
theorem plc_cons (key : FdM → κ) (x : κ) (f : FdM) (r : List FdM) (c : Nat) : plc key x (f :: r) c = if key f = x then some c else plc key x r (c - 1) := rfl
theorem plc_push (key : FdM → κ) (x : κ) (f : FdM) (r : List FdM) (c : Nat) : plc key x (f :: r) (c + 1) = if key f = x then some (c + 1) else plc key x r c := rfl
theorem plc_range (key : FdM → κ) (x : κ) : ∀ (r : List FdM) (c k : Nat), r.length ≤ c → plc key x r c = some k → c < k + r.length ∧ k ≤ c
  | [], _, _, _, h => by cases h
  | f :: r, c, k, hl, h => by
    rw [plc_cons] at h
    simp only [List.length_cons] at hl ⊢
    split at h
    · simp only [Option.some.injEq] at h; omega
    · have := plc_range key x r (c - 1) k (by omega) h; omega
/-- The oldest row behind the others. -/
theorem plc_snoc (key : FdM → κ) (x : κ) (g : FdM) : ∀ (r : List FdM) (c : Nat), plc key x (r ++ [g]) c = match plc key x r c with | some k => some k | none => if key g = x then some (c - r.length) else none
  | [], c => by simp [plc]
  | f :: r, c => by
    rw [List.cons_append, plc_cons, plc_cons]
    split
    · rfl
    · rw [plc_snoc key x g r (c - 1)]
      simp only [List.length_cons, Nat.sub_sub, Nat.add_comm]
/-- The oldest row goes: the map's entry goes just if it is that row's. -/
theorem plc_drop (key : FdM → κ) (g : FdM) (r : List FdM) (c : Nat) (hl : r.length + 1 ≤ c) (x : κ) :
    plc key x r c = if plc key (key g) (r ++ [g]) c = some (c - r.length) then (if x = key g then none else plc key x (r ++ [g]) c) else plc key x (r ++ [g]) c := by
  have h1 := plc_snoc key (key g) g r c
  have h2 := plc_snoc key x g r c
  cases hp : plc key (key g) r c with
  | some k =>
    have := plc_range key (key g) r c k (by omega) hp
    rw [hp] at h1
    simp only at h1
    rw [h1, if_neg (by simp; omega), h2]
    cases hx : plc key x r c with
    | some j => rfl
    | none =>
      simp only
      rw [if_neg]
      intro e
      subst e
      rw [hp] at hx; cases hx
  | none =>
    rw [hp] at h1
    simp only [if_true] at h1
    rw [h1, if_pos rfl, h2]
    split
    · rename_i e; subst e; exact hp
    · rename_i e
      cases hx : plc key x r c with
      | some j => rfl
      | none => simp only; rw [if_neg (fun h => e h.symm)]
end

/-- The number of the first row that is so; 0: none. -/
def fstN (p : FdM → Bool) : List FdM → Nat → Nat
  | [], _ => 0
  | f :: r, i => if p f then i + 1 else fstN p r (i + 1)
theorem fstN_cons (p : FdM → Bool) (f : FdM) (r : List FdM) (i : Nat) : fstN p (f :: r) i = if p f then i + 1 else fstN p r (i + 1) := rfl
theorem fstN_append (p : FdM → Bool) : ∀ (a b : List FdM) (i : Nat), fstN p (a ++ b) i = if fstN p a i = 0 then fstN p b (i + a.length) else fstN p a i
  | [], b, i => rfl
  | f :: r, b, i => by
    rw [List.cons_append, fstN_cons, fstN_cons]
    split
    · simp
    · rw [fstN_append p r b (i + 1)]
      simp only [List.length_cons, Nat.add_assoc, Nat.add_comm 1]
theorem fstN_plc {κ : Type} [DecidableEq κ] (key : FdM → κ) (x : κ) : ∀ (r : List FdM) (c i : Nat), r.length ≤ c → fstN (fun f => decide (key f = x)) r i = match plc key x r c with | some k => i + 1 + c - k | none => 0
  | [], _, _, _ => rfl
  | f :: r, c, i, hl => by
    rw [fstN_cons, plc_cons]
    simp only [List.length_cons] at hl
    by_cases h : key f = x
    · simp [h]
    · simp only [h, decide_false, Bool.false_eq_true, if_false]
      rw [fstN_plc key x r (c - 1) (i + 1) (by omega)]
      cases hp : plc key x r (c - 1) with
      | none => rfl
      | some k =>
        have := plc_range key x r (c - 1) k (by omega) hp
        simp only; omega

def nmV (f : FdM) : ByteArray × ByteArray := (f.name, f.value)
theorem findF_fst (f : FdM) : ∀ (l : List FdM) (i near : Nat), findF f l i near = if fstN (fun g => decide (nmV g = nmV f)) l i ≠ 0 then (fstN (fun g => decide (nmV g = nmV f)) l i, true) else (if near = 0 then fstN (fun g => decide (g.name = f.name)) l i else near, false)
  | [], i, near => by
    simp only [findF, fstN, ne_eq, not_true, if_false]
    split <;> simp_all
  | g :: r, i, near => by
    rw [findF_cons, fstN_cons, fstN_cons]
    by_cases h1 : g.name = f.name
    · by_cases h2 : g.value = f.value
      · simp [h1, h2, nmV]
      · simp only [h1, if_true, h2, if_false, nmV, Prod.mk.injEq, and_false, decide_false, Bool.false_eq_true, decide_true]
        rw [findF_fst f r (i + 1)]
        simp only [nmV, Prod.mk.injEq]
        by_cases h0 : near = 0
        · simp [h0]
        · simp [h0]
    · simp only [h1, if_false, nmV, Prod.mk.injEq, false_and, decide_false, Bool.false_eq_true]
      rw [findF_fst f r (i + 1) near]
      simp only [nmV, Prod.mk.injEq]
/-- What the program's Find puts together. -/
theorem findT_parts (rows : List FdM) (f : FdM) (c : Nat) (hl : rows.length ≤ c) (same named cs cn : Nat)
    (h1 : same = fstN (fun g => decide (nmV g = nmV f)) statics 0) (h2 : same = 0 → named = fstN (fun g => decide (g.name = f.name)) statics 0)
    (h3 : cs = match plc nmV (nmV f) rows c with | some k => 62 + c - k | none => 0) (h4 : cn = match plc (·.name) f.name rows c with | some k => 62 + c - k | none => 0) :
    findT rows f = if (if same ≠ 0 then same else cs) ≠ 0 then ((if same ≠ 0 then same else cs), true) else ((if named ≠ 0 then named else cn), false) := by
  have e3 := fstN_plc nmV (nmV f) rows c 61 hl
  have e4 := fstN_plc (fun g : FdM => g.name) f.name rows c 61 hl
  rw [← h3] at e3
  rw [← h4] at e4
  rw [findT, findF_fst, fstN_append, fstN_append, ← h1, statics_len]
  simp only [Nat.zero_add, e3, e4, if_true]
  by_cases hs : same = 0
  · rw [← h2 hs]
    by_cases hn : named = 0 <;> simp [hs, hn]
  · simp [hs]
/-- What findFixed goes through: the numbers of the row that is so, and of the first with its name. -/
def fixF (f : FdM) : List FdM → Nat → Nat → Nat × Nat
  | [], _, near => (0, near)
  | x :: r, i, near => if x.name = f.name then (if x.value = f.value then (i + 1, if near = 0 then i + 1 else near) else fixF f r (i + 1) (if near = 0 then i + 1 else near)) else fixF f r (i + 1) near
theorem fixF_cons (f x : FdM) (r : List FdM) (i near : Nat) : fixF f (x :: r) i near = if x.name = f.name then (if x.value = f.value then (i + 1, if near = 0 then i + 1 else near) else fixF f r (i + 1) (if near = 0 then i + 1 else near)) else fixF f r (i + 1) near := rfl
theorem fixF_fst (f : FdM) : ∀ (l : List FdM) (i near : Nat), (fixF f l i near).1 = fstN (fun g => decide (nmV g = nmV f)) l i ∧ ((fixF f l i near).1 = 0 → (fixF f l i near).2 = if near = 0 then fstN (fun g => decide (g.name = f.name)) l i else near)
  | [], i, near => by
    simp only [fixF, fstN, true_and]
    intro _; split <;> simp_all
  | g :: r, i, near => by
    rw [fixF_cons, fstN_cons, fstN_cons]
    by_cases h1 : g.name = f.name
    · by_cases h2 : g.value = f.value
      · simp [h1, h2, nmV]
      · simp only [h1, if_true, h2, if_false, nmV, Prod.mk.injEq, and_false, decide_false, Bool.false_eq_true, decide_true]
        have ih := fixF_fst f r (i + 1) (if near = 0 then i + 1 else near)
        simp only [nmV, Prod.mk.injEq] at ih
        refine ⟨ih.1, fun h => ?_⟩
        rw [ih.2 h]
        by_cases h0 : near = 0
        · simp [h0]
        · simp [h0]
    · simp only [h1, if_false, nmV, Prod.mk.injEq, false_and, decide_false, Bool.false_eq_true]
      have ih := fixF_fst f r (i + 1) near
      simp only [nmV, Prod.mk.injEq] at ih
      exact ih
end Tab
end Go.Proofs.YtdkgachgohilcaaDoor

namespace Go.Proofs.YtdkgachgohilcaaDoor
open Go.RowKit
set_option linter.unusedVariables false
namespace Mp
open Go.Maps

/-- An element is its own reading. -/
def Rv (v : Value) : Option (DataW Value × List MemPlace) := some (.held v, [])

/-- How keys lie in values. -/
structure Keys (P : Program) (k : TypeId) {α : Type} (enc : α → Value) (ok : α → Prop) : Prop where
  keyed : Keyed P k
  key : ∀ x, ok x → ∃ kl, keyOf P k (enc x) = some kl
  inj : ∀ x y, enc x = enc y → x = y

/-- Block b is a map of at most n entries: at each key that is ok stands what f says. -/
def MapF (P : Program) (k : TypeId) {α : Type} (enc : α → Value) (ok : α → Prop) (w : World) (b n : Nat) (f : α → Option Value) : Prop :=
  ∃ D : DataW Value, w.ownsMap P k Rv b n D ∧ ∀ x, ok x → ∀ kl, keyOf P k (enc x) = some kl → Maps.has D kl = (f x).isSome ∧ ∀ z, D.atKey kl (.held z) = .held ((f x).getD z)

section
variable {P : Program} {k : TypeId} {α : Type} {enc : α → Value} {ok : α → Prop} {w : World} {b n : Nat} {f : α → Option Value}

theorem MapF.made (w : World) : MapF P k enc ok (w.alloc (.map #[] 0)) w.heap.size 0 (fun _ => none) :=
  ⟨.map [], World.ownsMap_made w P k Rv, fun x _ kl _ => ⟨rfl, fun z => rfl⟩⟩
theorem MapF.lt (h : MapF P k enc ok w b n f) : b < w.heap.size := by obtain ⟨D, ho, _⟩ := h; exact ho.lt
theorem MapF.block {w' : World} (h : MapF P k enc ok w b n f) (hb : w'.heap[b]? = w.heap[b]?) : MapF P k enc ok w' b n f := by
  obtain ⟨D, ⟨es, clock, h1, h2⟩, hf⟩ := h
  exact ⟨D, ⟨es, clock, hb.trans h1, h2⟩, hf⟩
theorem MapF.below {w' : World} (h : MapF P k enc ok w b n f) (hb : Below w.heap.size w w') : MapF P k enc ok w' b n f := h.block (hb.block b h.lt)
theorem MapF.mono {n' : Nat} (h : MapF P k enc ok w b n f) (hn : n ≤ n') : MapF P k enc ok w b n' f := by
  obtain ⟨D, ho, hf⟩ := h; exact ⟨D, ho.mono hn, hf⟩
theorem MapF.congr {f' : α → Option Value} (h : MapF P k enc ok w b n f) (hf : ∀ x, ok x → f' x = f x) : MapF P k enc ok w b n f' := by
  obtain ⟨D, ho, h⟩ := h; exact ⟨D, ho, fun x hx => by rw [hf x hx]; exact h x hx⟩

theorem MapF.look (h : MapF P k enc ok w b n f) (K : Keys P k enc ok) {t e : TypeId} (ht : P.underlying t = some (.map k e)) {z : Value} (hz : (zeroValue e).run P w = .ok z w) {x : α} (hx : ok x) :
    (Instr.lookup t (.map (some b)) (enc x) false).run P w = .ok ((f x).getD z) w := by
  obtain ⟨D, ho, hf⟩ := h
  obtain ⟨kl, hk⟩ := K.key x hx
  obtain ⟨v, ps, hrun, hv⟩ := ho.lookup K.keyed ht hz (zd := .held z) (zp := []) rfl hk
  rw [(hf x hx kl hk).2 z] at hv
  simp only [Rv, Option.some.injEq, Prod.mk.injEq, DataW.held.injEq] at hv
  rw [hrun, hv.1]
theorem MapF.lookOk (h : MapF P k enc ok w b n f) (K : Keys P k enc ok) {t e : TypeId} (ht : P.underlying t = some (.map k e)) {z : Value} (hz : (zeroValue e).run P w = .ok z w) {x : α} (hx : ok x) :
    (Instr.lookup t (.map (some b)) (enc x) true).run P w = .ok (.tuple #[(f x).getD z, .bool (f x).isSome]) w := by
  obtain ⟨D, ho, hf⟩ := h
  obtain ⟨kl, hk⟩ := K.key x hx
  obtain ⟨v, ps, hrun, hv⟩ := ho.look_ok K.keyed ht hz (zd := .held z) (zp := []) rfl hk
  rw [(hf x hx kl hk).2 z] at hv
  simp only [Rv, Option.some.injEq, Prod.mk.injEq, DataW.held.injEq] at hv
  rw [hrun, hv.1, (hf x hx kl hk).1]

theorem key_ne (K : Keys P k enc ok) {x y : α} {kl kl' : Lit} (h : keyOf P k (enc x) = some kl) (h' : keyOf P k (enc y) = some kl') (hne : y ≠ x) : kl' ≠ kl := fun e => by
  subst e
  exact hne (K.inj _ _ (K.keyed.inj h' h))
theorem MapF.store [DecidableEq α] (h : MapF P k enc ok w b n f) (K : Keys P k enc ok) {t e : TypeId} (ht : P.underlying t = some (.map k e)) (hn : n < maxLen) {x : α} (hx : ok x) (v : Value) :
    ∃ w', (Instr.mapUpdate t (.map (some b)) (enc x) v).run P w = .ok () w' ∧ MapF P k enc ok w' b (n + 1) (fun y => if y = x then some v else f y) ∧ w.mapTurned w' b := by
  obtain ⟨D, ho, hf⟩ := h
  obtain ⟨kl, hk⟩ := K.key x hx
  obtain ⟨w', hrun, ho', ht'⟩ := ho.store K.keyed ht hn hk (d := .held v) (ps := []) rfl
  refine ⟨w', hrun, ⟨_, ho', fun y hy kl' hk' => ?_⟩, ht'⟩
  by_cases e : y = x
  · subst e
    rw [hk] at hk'
    simp only [Option.some.injEq] at hk'
    subst hk'
    simp only [if_pos]
    exact ⟨has_put_same ho.isMap (K.keyed.key hk) _, fun z => atKey_put_same ho.isMap (K.keyed.key hk) _ _⟩
  · simp only [if_neg e]
    have hne := key_ne K hk hk' e
    rw [has_put_other hne]
    exact ⟨(hf y hy kl' hk').1, fun z => by rw [atKey_put_other hne]; exact (hf y hy kl' hk').2 z⟩
theorem MapF.drop [DecidableEq α] (h : MapF P k enc ok w b n f) (K : Keys P k enc ok) {t e : TypeId} (ht : P.underlying t = some (.map k e)) {x : α} (hx : ok x) (ty : TypeId) :
    ∃ w', (Builtin.delete_ #[t, k] ty #[.map (some b), enc x]).run P w = .ok (.tuple #[]) w' ∧ MapF P k enc ok w' b n (fun y => if y = x then none else f y) ∧ w.mapTurned w' b := by
  obtain ⟨D, ho, hf⟩ := h
  obtain ⟨kl, hk⟩ := K.key x hx
  obtain ⟨w', hrun, ho', ht'⟩ := ho.drop K.keyed ht hk ty
  refine ⟨w', hrun, ⟨_, ho', fun y hy kl' hk' => ?_⟩, ht'⟩
  by_cases e : y = x
  · subst e
    rw [hk] at hk'
    simp only [Option.some.injEq] at hk'
    subst hk'
    simp only [if_pos]
    exact ⟨has_del_same, fun z => atKey_del_same _⟩
  · simp only [if_neg e]
    have hne := key_ne K hk hk' e
    rw [has_del_other hne]
    exact ⟨(hf y hy kl' hk').1, fun z => by rw [atKey_del_other hne]; exact (hf y hy kl' hk').2 z⟩
end

/-! ### whose keys -/
/-- Texts. -/
theorem keys_string {P : Program} {k : TypeId} (hk : P.underlying k = some .string) : Keys P k (fun s : ByteArray => Value.string s) (fun s => s.size ≤ maxLen) where
  keyed := string_keyed hk
  key x hx := ⟨_, WideMaps.keyOf_string_mk hk hx⟩
  inj x y h := by simpa using h
/-- Two texts. -/
theorem keys_two {P : Program} {k s : TypeId} (hl : laidOutB P = true) {m : Nat} (hm : m + 1 ≤ 10000) (hrow : k < P.types.size) (hk : P.keyTypeAt m k = true) (hk2 : P.keyType k = true) {fs : Array Field} (hu : P.underlying k = some (.struct fs)) (hc : P.cellsOf k = 2) (hs : P.underlying s = some .string) (hcs : P.cellsOf s = 1)
    (hn : fs.all (·.name != "_") = true) (hfs : fs.toList.map (fun f => (f.type, f.offset)) = [(s, 0), (s, 1)]) (hsz : 0 < P.types.size) :
    Keys P k (fun p : ByteArray × ByteArray => Value.agg #[.string p.1, .string p.2]) (fun p => p.1.size ≤ maxLen ∧ p.2.size ≤ maxLen) where
  keyed := Keyed.of_law (deep_law_laid hl hm hrow hk (by simp [hu]))
  key := by
    rintro ⟨a, b⟩ ⟨ha, hb⟩
    simp only at ha hb
    have hf : (Value.agg #[.string a, .string b]).formed P k = true := by simp [Value.formed, hu, hc]
    obtain ⟨d, hd⟩ : ∃ d, P.types.size = d + 1 := ⟨P.types.size - 1, by omega⟩
    have hlits : P.keyLits (P.types.size + 1) k (Value.agg #[.string a, .string b]).cells.toList = some [.string a.data.toList, .string b.data.toList] := by
      have hcells : (Value.agg #[.string a, .string b]).cells.toList = [.string a, .string b] := rfl
      rw [hcells]
      unfold Program.keyLits
      simp only [hu, hc, List.length_cons, List.length_nil, hn, and_self, if_true]
      have e : fs.toList.mapM (fun f => P.keyLits P.types.size f.type (([Value.string a, .string b].drop f.offset).take (P.cellsOf f.type)))
          = (fs.toList.map (fun f => (f.type, f.offset))).mapM (fun q => P.keyLits P.types.size q.1 (([Value.string a, .string b].drop q.2).take (P.cellsOf q.1))) := by
        rw [List.mapM_map]; rfl
      rw [e, hfs, hd]
      simp [hcs, Program.keyLits, hs, ha, hb]
    refine ⟨.string (keyBytes [.string a.data.toList, .string b.data.toList]), ?_⟩
    unfold keyOf
    rw [hu]
    simp only [hk2, hf, Bool.and_self, if_true, hlits, Option.map_some]
  inj := by
    rintro ⟨a, b⟩ ⟨c, d⟩ h
    simpa using h

/-- The world behind a map's turn. -/
theorem turned_kept {L : List Nat} {a w w' : World} {b : Nat} (h : Obj.Kept L a w) (ht : w.mapTurned w' b) (hb : b ∈ L ∨ a.heap.size ≤ b) : Obj.Kept L a w' :=
  h.grown ht.grown (fun k hk => by simp only [Option.some.injEq] at hk; subst hk; exact hb)
theorem turned_block {w w' : World} {b k : Nat} (ht : w.mapTurned w' b) (hk : k < w.heap.size) (hne : k ≠ b) : w'.heap[k]? = w.heap[k]? :=
  ht.grown.block k hk (fun e => hne (by simpa using e))
/-- 'delete(m, k)' whose run is known, as a step of a region that draws its order. -/
theorem step_delete {P : Program} {ops : Array Oper} {o : Oper} {a : Act} {w w' : World} {K : Act → World → Prop} {Q : Exit → Act → World → Prop} {E : Prop}
    (hg : o.guard = none) (m x : Operand) (t k : TypeId) (hop : o.op = Op.call { callee := Callee.builtin Builtin.delete, args := #[m, x], argTypes := #[t, k] })
    (mv xv r : Value) (hm : a.eval m = mv) (hx : a.eval x = xv) (hrun : (Builtin.delete_ #[t, k] o.type #[mv, xv]).run P w = .ok r w') (hK : K (a.put o.dst r) w') :
    if Region.wanted o (yielded ops a.tmps) = true then Oper.wp P o a w K Q else E := by
  have hw : Region.wanted o (yielded ops a.tmps) = true := by simp [Region.wanted, hg]
  rw [if_pos hw]
  unfold Oper.wp
  simp [execOp, hop, resolve, invoke, builtin, hm, hx, hrun, Result.andThen]
  exact hK
end Mp
end Go.Proofs.YtdkgachgohilcaaDoor

namespace Go.Proofs.YtdkgachgohilcaaDoor
open Go.RowKit
open Arg Tab Mem Go.Proofs.YtdkgachgohilcaaDoor.Obj
set_option linter.unusedVariables false

/-- How a row lies in the program's cells. -/
def EPr : Rw.Enc FdM where
  enc f := [.string f.name, .string f.value]
  k := 2
  pos := by decide
  len _ := rfl
  one x v h := by
    simp only [List.mem_cons, List.not_mem_nil, or_false] at h
    rcases h with rfl | rfl <;> rfl
theorem CE_pr {w : World} {b o : Nat} {f : FdM} (h : Rw.CE EPr w b o f) : w.cell? ⟨b, o, none⟩ = some (.string f.name) ∧ w.cell? ⟨b, o + 1, none⟩ = some (.string f.value) :=
  ⟨h 0 _ rfl, h 1 _ rfl⟩

def ecRow (p : ByteArray × ByteArray) : Value := .agg #[.string p.1, .string p.2]
def okRow (p : ByteArray × ByteArray) : Prop := p.1.size ≤ maxLen ∧ p.2.size ≤ maxLen
def ecNam (s : ByteArray) : Value := .string s
def okNam (s : ByteArray) : Prop := s.size ≤ maxLen
theorem laid_out : laidOutB Tryd.prog = true := by kernel_rfl
theorem row_is : (118 : TypeId) < Tryd.prog.types.size := of_decide_eq_true (by kernel_rfl)
theorem keysRow : Mp.Keys Tryd.prog 118 ecRow okRow :=
  Mp.keys_two (s := 9) laid_out (m := 2) (by omega) row_is (by kernel_rfl) (by kernel_rfl) Tryd.underlying118 (by kernel_rfl) Tryd.underlying9 (by kernel_rfl) (by kernel_rfl) (by kernel_rfl) (Nat.lt_of_le_of_lt (Nat.zero_le _) row_is)
theorem keysNam : Mp.Keys Tryd.prog 9 ecNam okNam := Mp.keys_string Tryd.underlying9
theorem zero_int (w : World) : (zeroValue 3).run Tryd.prog w = .ok (.int .i64 0) w := by kernel_rfl

/-- The numbers that the maps hold. -/
def inV {κ : Type} (h : κ → Option Nat) (x : κ) : Option Value := (h x).map (fun (k : Nat) => Value.int .i64 (k : Int))
/-- The map of rows, the map of names. -/
def MRow (w : World) (b n : Nat) (h : ByteArray × ByteArray → Option Nat) : Prop := Mp.MapF Tryd.prog 118 ecRow okRow w b n (inV h)
def MNam (w : World) (b n : Nat) (h : ByteArray → Option Nat) : Prop := Mp.MapF Tryd.prog 9 ecNam okNam w b n (inV h)

/-- The program's table in memory: its blocks L, its own block g, its most, its size s as it is told, its rows (the youngest first), how many came (c0), the maps' blocks. -/
def PTa (w : World) (L : List Nat) (g m s : Nat) (rows : List FdM) (c0 : Nat) (ad : Option Addr) (cap b1 b2 n1 n2 : Nat) : Prop :=
  (g ∈ L ∧ b1 ∈ L ∧ b2 ∈ L ∧ g ≠ b1 ∧ g ≠ b2 ∧ b1 ≠ b2 ∧ (∀ k ∈ L, k < w.heap.size) ∧ ∀ b o s, ad = some ⟨b, o, s⟩ → b ∈ L ∧ b ≠ g ∧ b ≠ b1 ∧ b ≠ b2) ∧
  w.heap[g]? = some (.cells #[.int .i64 m, .int .i64 s, .slice ad rows.length cap, .int .i64 c0, .map (some b1), .map (some b2)] 98 (0, 0)) ∧
  Rw.QRow EPr w ad cap rows.reverse ∧ MRow w b1 n1 (fun x => plc nmV x rows c0) ∧ MNam w b2 n2 (fun x => plc (·.name) x rows c0) ∧
  rows.length ≤ c0 ∧ c0 ≤ 1000000 ∧ ∀ x ∈ rows, x.never = false ∧ cost x ≤ 65536

theorem PTa.kept {w w' : World} {L : List Nat} {g m s c0 cap b1 b2 n1 n2 : Nat} {rows : List FdM} {ad : Option Addr} (h : PTa w L g m s rows c0 ad cap b1 b2 n1 n2) (hs : w.heap.size ≤ w'.heap.size) (hb : ∀ k ∈ L, w'.heap[k]? = w.heap[k]?) : PTa w' L g m s rows c0 ad cap b1 b2 n1 n2 := by
  obtain ⟨⟨hg, h1, h2, h3, h4, h5, h6, h7⟩, hh, hq, hm1, hm2, hr⟩ := h
  exact ⟨⟨hg, h1, h2, h3, h4, h5, fun k hk => Nat.lt_of_lt_of_le (h6 k hk) hs, h7⟩, (hb g hg).trans hh, hq.block hs (fun b o s e => hb b (h7 b o s e).1), hm1.block (hb b1 h1), hm2.block (hb b2 h2), hr⟩
theorem PTa.below {w w' : World} {L : List Nat} {g m s c0 cap b1 b2 n1 n2 : Nat} {rows : List FdM} {ad : Option Addr} (h : PTa w L g m s rows c0 ad cap b1 b2 n1 n2) (hb : Below w.heap.size w w') : PTa w' L g m s rows c0 ad cap b1 b2 n1 n2 :=
  h.kept hb.size (fun k hk => hb.block k (h.1.2.2.2.2.2.2.1 k hk))

/-- The table, whatever lies where; its size may be above its most. -/
def PTs (w : World) (L : List Nat) (g m : Nat) (rows : List FdM) (c : Nat) : Prop :=
  ∃ c0 ad cap b1 b2 n1 n2, PTa w L g m (csum rows) rows c0 ad cap b1 b2 n1 n2 ∧ c0 ≤ c ∧ n1 ≤ c ∧ n2 ≤ c ∧ m ≤ 65536 ∧ csum rows ≤ 65536
theorem PTs.below {w w' : World} {L : List Nat} {g m c : Nat} {rows : List FdM} (h : PTs w L g m rows c) (hb : Below w.heap.size w w') : PTs w' L g m rows c := by
  obtain ⟨c0, ad, cap, b1, b2, n1, n2, h, hr⟩ := h; exact ⟨c0, ad, cap, b1, b2, n1, n2, h.below hb, hr⟩
theorem PTs.kept {w w' : World} {L : List Nat} {g m c : Nat} {rows : List FdM} (h : PTs w L g m rows c) (hs : w.heap.size ≤ w'.heap.size) (hb : ∀ k ∈ L, w'.heap[k]? = w.heap[k]?) : PTs w' L g m rows c := by
  obtain ⟨c0, ad, cap, b1, b2, n1, n2, h, hr⟩ := h; exact ⟨c0, ad, cap, b1, b2, n1, n2, h.kept hs hb, hr⟩
theorem PTs.own {w : World} {L : List Nat} {g m c : Nat} {rows : List FdM} (h : PTs w L g m rows c) : g ∈ L := by
  obtain ⟨c0, ad, cap, b1, b2, n1, n2, h, hr⟩ := h; exact h.1.1
/-- The program's table: its rows (the youngest first) cost no more than its most; c: how many came at most. -/
def PTab (w : World) (L : List Nat) (g : Nat) (m : Nat) (rows : List FdM) (c : Nat) : Prop := PTs w L g m rows c ∧ csum rows ≤ m
theorem PTab.blocks {w : World} {L : List Nat} {g m c : Nat} {rows : List FdM} (h : PTab w L g m rows c) : ∀ k ∈ L, k < w.heap.size := by
  obtain ⟨⟨c0, ad, cap, b1, b2, n1, n2, h, hr⟩, _⟩ := h; exact h.1.2.2.2.2.2.2.1
theorem PTab.sum {w : World} {L : List Nat} {g m c : Nat} {rows : List FdM} (h : PTab w L g m rows c) : csum rows ≤ m ∧ m ≤ 65536 := by
  obtain ⟨⟨c0, ad, cap, b1, b2, n1, n2, h, _, _, _, hm, _⟩, hs⟩ := h; exact ⟨hs, hm⟩
theorem PTab.kept {w w' : World} {L : List Nat} {g m c : Nat} {rows : List FdM} (h : PTab w L g m rows c) (hs : w.heap.size ≤ w'.heap.size) (hb : ∀ k ∈ L, w'.heap[k]? = w.heap[k]?) : PTab w' L g m rows c :=
  ⟨h.1.kept hs hb, h.2⟩
theorem PTab.below {w w' : World} {L : List Nat} {g m c : Nat} {rows : List FdM} (h : PTab w L g m rows c) (hb : Below w.heap.size w w') : PTab w' L g m rows c := ⟨h.1.below hb, h.2⟩

theorem tsized_any (n : Int) (w : World) :
    Calls Tryd.prog 48 #[.int .i64 n] w fun e w' => e = .returned (.bool (decide (0 ≤ n ∧ n ≤ 65536))) ∧ Below w.heap.size w w' := by
  go_enter Tryd.func48, Tryd.ntmps48
  by_cases h0 : (0 : Int) ≤ n
  · by_cases h1 : n ≤ 65536
    · go_wp2_with fail
      go_ret
      exact ⟨by simp [h0, h1], Below.refl _ _⟩
    · go_wp2_with fail
      go_ret
      exact ⟨by simp [h0, h1], Below.refl _ _⟩
  · have h0' : decide ((0 : Int) ≤ n) = false := by simp; omega
    go_wp2_with fail
    go_ret
    exact ⟨by simp [h0], Below.refl _ _⟩

theorem pnew_bad (m : Int) (w : World) (hm : m < 0 ∨ 65536 < m) :
    Calls Tryd.prog 28 #[.int .i64 m] w fun e w' => e = .returned (.tuple #[.pointer none, .int .i64 1]) ∧ Below w.heap.size w w' := by
  have HS := Lib.hid (fun v => tsized_any m v)
  rw [show decide (0 ≤ m ∧ m ≤ 65536) = false by simp; omega] at HS
  go_enter Tryd.func28, Tryd.ntmps28
  go_wp2_with fail
  refine (HS.out _).mono ?_; rintro e w1 ⟨rfl, b1⟩
  go_wp2_with fail
  go_ret2
  exact ⟨rfl, b1⟩

theorem ptab_new (m : Nat) (w : World) (hm : m ≤ 65536) :
    PTab (((w.alloc (.map #[] 0)).alloc (.map #[] 0)).alloc (.cells #[.int .i64 m, .int .i64 0, .slice none 0 0, .int .i64 0, .map (some w.heap.size), .map (some (w.heap.size + 1))] 98)) [w.heap.size + 1 + 1, w.heap.size, w.heap.size + 1] (w.heap.size + 1 + 1) m [] 0 := by
  have s1 : (w.alloc (.map #[] 0)).heap.size = w.heap.size + 1 := by simp
  have s2 : ((w.alloc (.map #[] 0)).alloc (.map #[] 0)).heap.size = w.heap.size + 1 + 1 := by simp
  have B : ∀ (v : World) (o : Obj), Below v.heap.size v (v.alloc o) := fun v o => (Below.refl _ _).alloc (Nat.le_refl _) o
  have h1 : MRow (w.alloc (.map #[] 0)) w.heap.size 0 (fun _ => none) := Mp.MapF.made w
  have h2 : MNam ((w.alloc (.map #[] 0)).alloc (.map #[] 0)) (w.alloc (.map #[] 0)).heap.size 0 (fun _ => none) := Mp.MapF.made _
  rw [s1] at h2
  generalize ho : Obj.cells #[.int .i64 m, .int .i64 0, .slice none 0 0, .int .i64 0, .map (some w.heap.size), .map (some (w.heap.size + 1))] 98 = o
  have hg := heap_alloc_new ((w.alloc (.map #[] 0)).alloc (.map #[] 0)) o
  rw [s2] at hg
  have h1' : MRow (((w.alloc (.map #[] 0)).alloc (.map #[] 0)).alloc o) w.heap.size 0 (fun _ => none) := (Mp.MapF.below h1 (B _ _)).below (B _ _)
  have h2' : MNam (((w.alloc (.map #[] 0)).alloc (.map #[] 0)).alloc o) (w.heap.size + 1) 0 (fun _ => none) := Mp.MapF.below h2 (B _ _)
  have s3 : (((w.alloc (.map #[] 0)).alloc (.map #[] 0)).alloc o).heap.size = w.heap.size + 1 + 1 + 1 := by simp
  generalize (((w.alloc (.map #[] 0)).alloc (.map #[] 0)).alloc o) = y at *
  subst ho
  refine ⟨⟨0, none, 0, w.heap.size, w.heap.size + 1, 0, 0, ⟨⟨by simp, by simp, by simp, by omega, by omega, by omega, fun k hk => ?_, (fun b o s e => by cases e)⟩, hg, Rw.QRow.bare EPr y, h1', h2', Nat.le_refl _, Nat.zero_le _, fun x hx => by cases hx⟩, Nat.le_refl _, Nat.le_refl _, Nat.le_refl _, hm, Nat.zero_le _⟩, Nat.zero_le _⟩
  simp only [List.mem_cons, List.not_mem_nil, or_false] at hk
  omega

theorem pnew_ok (m : Nat) (w : World) (hm : m ≤ 65536) :
    Calls Tryd.prog 28 #[.int .i64 m] w fun e w' => ∃ g L, e = .returned (.tuple #[.pointer (some ⟨g, 0, none⟩), .int .i64 0]) ∧ PTab w' L g m [] 0 ∧ Below w.heap.size w w' ∧ ∀ k ∈ L, w.heap.size ≤ k := by
  have HS := Lib.hid (fun v => tsized_any m v)
  rw [show decide ((0 : Int) ≤ m ∧ (m : Int) ≤ 65536) = true by simp; omega] at HS
  have hmm := @run_makeMap Tryd.prog
  go_enter Tryd.func28, Tryd.ntmps28
  go_wp2_with fail
  refine (HS.out _).mono ?_; rintro e w1 ⟨rfl, b1⟩
  go_wp2_with fail
  go_ret2
  refine ⟨_, _, rfl, ptab_new m w1 hm, ((b1.alloc b1.size _).alloc (by simp; exact Nat.le_succ_of_le b1.size) _).alloc (by simp; exact Nat.le_succ_of_le (Nat.le_succ_of_le b1.size)) _, fun k hk => ?_⟩
  have := b1.size
  simp only [List.mem_cons, List.not_mem_nil, or_false] at hk
  omega

theorem pmost_any (L : List Nat) (g m c : Nat) (rows : List FdM) (w : World) (h : PTab w L g m rows c) :
    Calls Tryd.prog 61 #[.pointer (some ⟨g, 0, none⟩)] w fun e w' => e = .returned (.int .i64 m) ∧ Below w.heap.size w w' := by
  obtain ⟨⟨c0, ad, cap, b1, b2, n1, n2, ⟨_, hh, _⟩, _⟩, _⟩ := h
  have c0 := cell_at hh 0
  clear hh
  go_enter Tryd.func61, Tryd.ntmps61
  go_wp2_with fail
  go_ret
  exact ⟨rfl, Below.refl _ _⟩
theorem psize_any (L : List Nat) (g m c : Nat) (rows : List FdM) (w : World) (h : PTab w L g m rows c) :
    Calls Tryd.prog 93 #[.pointer (some ⟨g, 0, none⟩)] w fun e w' => e = .returned (.int .i64 (csum rows)) ∧ Below w.heap.size w w' := by
  obtain ⟨⟨c0, ad, cap, b1, b2, n1, n2, ⟨_, hh, _⟩, _⟩, _⟩ := h
  have c0 := cell_at hh 1
  clear hh
  generalize csum rows = s at *
  go_enter Tryd.func93, Tryd.ntmps93
  go_wp2_with fail
  go_ret
  exact ⟨rfl, Below.refl _ _⟩
theorem plen_any (L : List Nat) (g m c : Nat) (rows : List FdM) (w : World) (h : PTab w L g m rows c) :
    Calls Tryd.prog 29 #[.pointer (some ⟨g, 0, none⟩)] w fun e w' => e = .returned (.int .i64 rows.length) ∧ Below w.heap.size w w' := by
  obtain ⟨⟨c0, ad, cap, b1, b2, n1, n2, ⟨_, hh, _⟩, _⟩, _⟩ := h
  have c0 := cell_at hh 2
  clear hh
  generalize rows.length = s at *
  go_enter Tryd.func29, Tryd.ntmps29
  go_wp2_with fail
  go_ret
  exact ⟨rfl, Below.refl _ _⟩
theorem pmost_nil (w : World) : Calls Tryd.prog 61 #[.pointer none] w fun e w' => e = .returned (.int .i64 0) ∧ Below w.heap.size w w' := by
  go_enter Tryd.func61, Tryd.ntmps61
  go_wp2_with fail
  go_ret
  exact ⟨rfl, Below.refl _ _⟩
theorem psize_nil (w : World) : Calls Tryd.prog 93 #[.pointer none] w fun e w' => e = .returned (.int .i64 0) ∧ Below w.heap.size w w' := by
  go_enter Tryd.func93, Tryd.ntmps93
  go_wp2_with fail
  go_ret
  exact ⟨rfl, Below.refl _ _⟩
theorem plen_nil (w : World) : Calls Tryd.prog 29 #[.pointer none] w fun e w' => e = .returned (.int .i64 0) ∧ Below w.heap.size w w' := by
  go_enter Tryd.func29, Tryd.ntmps29
  go_wp2_with fail
  go_ret
  exact ⟨rfl, Below.refl _ _⟩
/-- What a row costs. -/
theorem pcost_any (n v : ByteArray) (w : World) (hn : n.size ≤ 140737488351232) (hv : v.size ≤ 140737488351232) :
    Calls Tryd.prog 94 #[.agg #[.string n, .string v]] w fun e w' => e = .returned (.int .i64 (n.size + v.size + 32 : Nat)) ∧ Below w.heap.size w w' := by
  go_enter Tryd.func94, Tryd.ntmps94
  go_wp2_with fail
  go_ret
  exact ⟨by simp, (Below.refl _ _).alloc (Nat.le_refl _) _⟩
theorem pnumber_any (g c0 p : Nat) (w : World) (h : w.cell? ⟨g, 3, none⟩ = some (.int .i64 c0)) (hc : c0 ≤ 1000000) (hp : p ≤ c0) :
    Calls Tryd.prog 99 #[.pointer (some ⟨g, 0, none⟩), .int .i64 p] w fun e w' => e = .returned (.int .i64 (if p = 0 then 0 else 62 + c0 - p : Nat)) ∧ Below w.heap.size w w' := by
  go_enter Tryd.func99, Tryd.ntmps99
  by_cases h0 : p = 0
  · subst h0
    go_wp2_with fail
    go_ret
    exact ⟨rfl, Below.refl _ _⟩
  · have h0' : ¬ (p : Int) = 0 := by omega
    go_wp2_with fail
    go_ret
    exact ⟨by rw [show ((62 + c0 - p : Nat) : Int) = 62 + c0 - p by omega]; rfl, Below.refl _ _⟩
end Go.Proofs.YtdkgachgohilcaaDoor
