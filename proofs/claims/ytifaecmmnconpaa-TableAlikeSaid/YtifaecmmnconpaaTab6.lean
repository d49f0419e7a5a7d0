/- Layer 4: the document's Add at any row; the laws' scripts, and whether they are little enough. -/
import Derived.Test.YtifaecmmnconpaaRows
import Derived.Test.YtifaecmmnconpaaTabPure
import Derived.Test.YtifaecmmnconpaaObj
import Derived.Test.YtifaecmmnconpaaRowE
import Derived.Test.YtifaecmmnconpaaTab1
import Derived.Test.YtifaecmmnconpaaTab2
import Derived.Test.YtifaecmmnconpaaTab3
import Derived.WalkKit
import Derived.WalkSpells
import Derived.WalkLawsBesides
import Derived.Lib.Hide
import Derived.Outline
import Derived.RegionTactic
import Derived.IntWalk
import Derived.BigQuiet
import Derived.Deep.QuietTactic
namespace Go.Proofs.Ytifaecmmnconpaa
open Go.RowKit
open Arg Tab Mem Go.Proofs.Ytifaecmmnconpaa.Obj
set_option linter.unusedVariables false

theorem radd_any (g m : Nat) (rows : List FdM) (f : FdM) (L : List Nat) (w : World) (h : RTab w L g m rows) (hs : csum rows ≤ 65536) (hm : m ≤ 65536) (hn : f.name.size ≤ 140737488351232) (hv : f.value.size ≤ 140737488351232) :
    Calls Try.prog 24 #[.pointer (some ⟨g, 0, none⟩), .agg #[.string f.name, .string f.value, .bool f.never]] w fun e w' => e = .returned (.tuple #[]) ∧ ∃ L', RTab w' L' g m (addT m rows f) ∧ Kept L w w' ∧ ∀ k ∈ L', k ∈ L ∨ w.heap.size ≤ k := by
  by_cases hgr : m < cost f
  · exact radd_great g m rows f L w h hm hn hv hgr
  · exact radd_fits g m rows f L w h hs hm (by omega)

/-- A step of a script. -/
structure DoM where
  kind : Int
  f : FdM
  n : Int
def EDo : Rw.Enc DoM where
  enc d := [.int .i64 d.kind, .string d.f.name, .string d.f.value, .bool d.f.never, .int .i64 d.n]
  k := 5
  pos := by decide
  len _ := rfl
  one x v h := by
    simp only [List.mem_cons, List.not_mem_nil, or_false] at h
    rcases h with rfl | rfl | rfl | rfl | rfl <;> rfl
theorem CE_do {w : World} {b o : Nat} {d : DoM} (h : Rw.CE EDo w b o d) : w.cell? ⟨b, o, none⟩ = some (.int .i64 d.kind) ∧ w.cell? ⟨b, o + 1, none⟩ = some (.string d.f.name) ∧ w.cell? ⟨b, o + 2, none⟩ = some (.string d.f.value) ∧
    w.cell? ⟨b, o + 3, none⟩ = some (.bool d.f.never) ∧ w.cell? ⟨b, o + 4, none⟩ = some (.int .i64 d.n) :=
  ⟨h 0 _ rfl, h 1 _ rfl, h 2 _ rfl, h 3 _ rfl, h 4 _ rfl⟩
/-- A step's numbers and texts are such as there are. -/
def DoM.ok (d : DoM) : Prop := (Lit.int .i64 d.kind).wf = true ∧ (Lit.int .i64 d.n).wf = true ∧ d.f.name.size ≤ 140737488351232 ∧ d.f.value.size ≤ 140737488351232

/-- The script that came in. -/
theorem script_of {w : World} {ad : Option Addr} {len cap : Nat} (h : Slc w [.int .i64, .str, .str, .bool, .int .i64] ad len cap) :
    ∃ l : List DoM, l.length = len ∧ Rw.RowE EDo w ad l ∧ (∀ d ∈ l, d.ok) ∧ len ≤ cap ∧ cap ≤ maxLen := by
  obtain ⟨l, hl, hr⟩ := Slc.row (C := fun w b o d => Rw.CE EDo w b o d ∧ DoM.ok d) h (fun b o hc => by
    obtain ⟨⟨v0, c0, l0⟩, ⟨v1, c1, l1⟩, ⟨v2, c2, l2⟩, ⟨v3, c3, l3⟩, ⟨v4, c4, l4⟩, _⟩ := hc
    obtain ⟨z0, rfl, w0⟩ := l0.int
    obtain ⟨s1, rfl, w1⟩ := l1.str
    obtain ⟨s2, rfl, w2⟩ := l2.str
    obtain ⟨b3, rfl⟩ := l3.bool
    obtain ⟨z4, rfl, w4⟩ := l4.int
    refine ⟨⟨z0, ⟨s1, s2, b3⟩, z4⟩, fun r v hv => ?_, w0, w4, w1, w2⟩
    match r, hv with
    | 0, hv => simp [EDo] at hv; subst hv; exact c0
    | 1, hv => simp [EDo] at hv; subst hv; exact c1
    | 2, hv => simp [EDo] at hv; subst hv; exact c2
    | 3, hv => simp [EDo] at hv; subst hv; exact c3
    | 4, hv => simp [EDo] at hv; subst hv; exact c4
    | r + 5, hv => simp [EDo] at hv)
  refine ⟨l, hl, ?_, ?_, h.1, h.2.1⟩
  · rcases hr with hr | ⟨b, off, e, hc⟩
    · exact .inl hr
    · exact .inr ⟨b, off, e, fun i hi => (hc i hi).1⟩
  · rcases hr with rfl | ⟨b, off, e, hc⟩
    · intro d hd; cases hd
    · intro d hd
      obtain ⟨i, hi, rfl⟩ := List.getElem_of_mem hd
      exact (hc i hi).2

def fewF : List DoM → Nat → Bool
  | [], n => decide (n < 1048576)
  | d :: r, n => if 100000 < d.f.name.size ∨ 100000 < d.f.value.size then false else fewF r (n + d.f.name.size + d.f.value.size)
theorem fewF_mem : ∀ {l : List DoM} {n : Nat}, fewF l n = true → ∀ d ∈ l, d.f.name.size ≤ 100000 ∧ d.f.value.size ≤ 100000
  | d :: r, n, h, x, hx => by
    rw [fewF] at h
    split at h
    · cases h
    · rcases List.mem_cons.mp hx with rfl | hx
      · omega
      · exact fewF_mem h x hx

set_option maxRecDepth 100000 in
set_option maxHeartbeats 4000000 in
theorem few_any (ad : Option Addr) (len cap : Nat) (l : List DoM) (w : World) (hl : l.length = len) (hlc : len ≤ cap) (hc : cap ≤ maxLen) (hr : Rw.RowE EDo w ad l) (hok : ∀ d ∈ l, d.ok) :
    Calls Try.prog 9 #[.slice ad len cap] w fun e w' => e = .returned (.bool (fewF (l.take 120) 0)) ∧ Below w.heap.size w w' := by
  unfold maxLen at hc
  have HR : Hid (fewF ((l.take 120).drop 0) 0 = fewF (l.take 120) 0) := rfl
  generalize fewF (l.take 120) 0 = R at HR ⊢
  have HRw := Lib.hid hr
  have HOk := Lib.hid hok
  have HL := Lib.hid hl
  clear hr hok hl
  go_enter Try.func9, Try.ntmps9
  go_wp2_with fail
  go_loopw [3, 4] (fun vn vi wr => ∃ (k n : Nat), k ≤ 120 ∧ k ≤ len ∧ n ≤ 200000 * k ∧ vi = .int .i64 k ∧ vn = .int .i64 n ∧ Hid (fewF ((l.take 120).drop k) n = R) ∧ Below w.heap.size w wr) (fun _ vi _ => len - (intOf vi).toNat)
  case atStart => exact ⟨0, 0, by omega, by omega, by omega, rfl, rfl, HR, Below.refl _ _⟩
  case round =>
    clear HR
    obtain ⟨k, n, hk, hkl, hn, rfl, rfl, HF, hbel⟩ := hrel
    by_cases hlt : k < len
    · have hlt' : (k : Int) < len := by omega
      by_cases h120 : k < 120
      · have h120' : (k : Int) < 120 := by omega
        have hlr : k < l.length := by rw [HL.out]; exact hlt
        have hlt2 : k < (l.take 120).length := by rw [List.length_take]; omega
        obtain ⟨bl, off, rfl, hcs⟩ : ∃ b off, ad = some ⟨b, off, none⟩ ∧ ∀ i, (h : i < l.length) → Rw.CE EDo w b (off + i * 5) l[i] := by
          rcases HRw.out with h | h
          · rw [h] at hlr; simp at hlr
          · exact h
        obtain ⟨_, d1, d2, _, _⟩ := CE_do (hcs k hlr)
        have x1 := below_cell hbel d1
        have x2 := below_cell hbel d2
        have hsz := HOk.out l[k] (List.getElem_mem hlr)
        have HF1 : Hid (fewF (l[k] :: (l.take 120).drop (k + 1)) n = R) := Lib.hid (by
          have h := HF.out
          rw [List.drop_eq_getElem_cons hlt2, List.getElem_take] at h
          exact h)
        clear d1 d2 hcs HF
        generalize l[k] = d at *
        obtain ⟨dk, ⟨fn, fv, fb⟩, dn⟩ := d
        simp only at x1 x2
        obtain ⟨_, _, hs1, hs2⟩ := hsz
        simp only at hs1 hs2
        have HF2 : Hid ((if 100000 < fn.size ∨ 100000 < fv.size then false else fewF ((l.take 120).drop (k + 1)) (n + fn.size + fv.size)) = R) := HF1
        clear HF1
        have hk0 : (0 : Int) ≤ k := by omega
        by_cases hb1 : 100000 < fn.size
        · have hb1' : decide ((100000 : Int) < fn.size) = true := by simp; omega
          have hR : R = false := by rw [← HF2.out, if_pos (.inl hb1)]
          subst hR
          clear HF2
          go_wp2_with fail
          go_ret
          exact ⟨rfl, hbel⟩
        · have hb1' : decide ((100000 : Int) < fn.size) = false := by simp; omega
          by_cases hb2 : 100000 < fv.size
          · have hb2' : decide ((100000 : Int) < fv.size) = true := by simp; omega
            have hR : R = false := by rw [← HF2.out, if_pos (.inr hb2)]
            subst hR
            clear HF2
            go_wp2_with fail
            go_ret
            exact ⟨rfl, hbel⟩
          · have hb2' : decide ((100000 : Int) < fv.size) = false := by simp; omega
            have HF3 : Hid (fewF ((l.take 120).drop (k + 1)) (n + fn.size + fv.size) = R) := Lib.hid (by rw [← HF2.out, if_neg (by omega)])
            have q1 : IntKind.i64.wrap ((n : Int) + fn.size) = (n : Int) + fn.size := IntWalk.i64_in _ (by omega)
            have q2 : IntKind.i64.wrap ((n : Int) + fn.size + fv.size) = (n : Int) + fn.size + fv.size := IntWalk.i64_in _ (by omega)
            clear HF2
            go_wp2_with fail
            go_quiet (fail)
            go_wp2_with fail
            go_roundw
            case rel => exact ⟨k + 1, n + fn.size + fv.size, by omega, by omega, by omega, by go_num, by go_num, HF3, below_drewN hbel _⟩
            case measure => simp [intOf]; omega
      · have h120' : ¬ (k : Int) < 120 := by omega
        have hR : R = decide (n < 1048576) := by rw [← HF.out, List.drop_of_length_le (by rw [List.length_take]; omega)]; rfl
        subst hR
        clear HF
        go_wp2_with fail
        go_ret
        exact ⟨by simp; omega, hbel⟩
    · have hlt' : ¬ (k : Int) < len := by omega
      have hR : R = decide (n < 1048576) := by rw [← HF.out, List.drop_of_length_le (by rw [List.length_take, HL.out]; omega)]; rfl
      subst hR
      clear HF
      go_wp2_with fail
      go_ret
      exact ⟨by simp; omega, hbel⟩
end Go.Proofs.Ytifaecmmnconpaa
