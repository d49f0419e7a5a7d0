/- Layer 4: what the program's table keeps in memory; New, Most, Len, Size. -/
import Derived.Test.YtifaecmmnconpaaRows
import Derived.Test.YtifaecmmnconpaaTabPure
import Derived.Test.YtifaecmmnconpaaTabQ
import Derived.Test.YtifaecmmnconpaaObj
import Derived.Test.YtifaecmmnconpaaRowE
import Derived.Test.YtifaecmmnconpaaQue
import Derived.Test.YtifaecmmnconpaaMapF
import Derived.WalkKit
import Derived.WalkSpells
import Derived.WalkLawsBesides
import Derived.Lib.Hide
import Derived.Outline
namespace Go.Proofs.Ytifaecmmnconpaa
open Go.RowKit
open Arg Tab Mem Go.Proofs.Ytifaecmmnconpaa.Obj
set_option linter.unusedVariables false

/-- How a row lies in the program's cells. -/
def EPr : Rw.Enc FdM where
  enc f := [.string f.name, .string f.value]
  k := 2
  pos := by decide
  len _ := rfl
  one x v h := by
    simp only [List.mem_cons, List.not_mem_nil, or_false] at h
    rcases h with rfl | rfl <;> rfl
theorem CE_pr {w : World} {b o : Nat} {f : FdM} (h : Rw.CE EPr w b o f) : w.cell? ⟨b, o, none⟩ = some (.string f.name) ∧ w.cell? ⟨b, o + 1, none⟩ = some (.string f.value) :=
  ⟨h 0 _ rfl, h 1 _ rfl⟩

def ecRow (p : ByteArray × ByteArray) : Value := .agg #[.string p.1, .string p.2]
def okRow (p : ByteArray × ByteArray) : Prop := p.1.size ≤ maxLen ∧ p.2.size ≤ maxLen
def ecNam (s : ByteArray) : Value := .string s
def okNam (s : ByteArray) : Prop := s.size ≤ maxLen
theorem laid_out : laidOutB Try.prog = true := by kernel_rfl
theorem row_is : (58 : TypeId) < Try.prog.types.size := of_decide_eq_true (by kernel_rfl)
theorem keysRow : Mp.Keys Try.prog 58 ecRow okRow :=
  Mp.keys_two (s := 9) laid_out (m := 2) (by omega) row_is (by kernel_rfl) (by kernel_rfl) Try.underlying58 (by kernel_rfl) Try.underlying9 (by kernel_rfl) (by kernel_rfl) (by kernel_rfl) (Nat.lt_of_le_of_lt (Nat.zero_le _) row_is)
theorem keysNam : Mp.Keys Try.prog 9 ecNam okNam := Mp.keys_string Try.underlying9
theorem zero_int (w : World) : (zeroValue 3).run Try.prog w = .ok (.int .i64 0) w := by kernel_rfl

/-- The numbers that the maps hold. -/
def inV {κ : Type} (h : κ → Option Nat) (x : κ) : Option Value := (h x).map (fun (k : Nat) => Value.int .i64 (k : Int))
/-- The map of rows, the map of names. -/
def MRow (w : World) (b n : Nat) (h : ByteArray × ByteArray → Option Nat) : Prop := Mp.MapF Try.prog 58 ecRow okRow w b n (inV h)
def MNam (w : World) (b n : Nat) (h : ByteArray → Option Nat) : Prop := Mp.MapF Try.prog 9 ecNam okNam w b n (inV h)

/-- The program's table in memory: its blocks L, its own block g, its most, its size s as it is told, its rows (the youngest first), how many came (c0), the maps' blocks. -/
def PTa (w : World) (L : List Nat) (g m s : Nat) (rows : List FdM) (c0 : Nat) (ad : Option Addr) (cap b1 b2 n1 n2 : Nat) : Prop :=
  (g ∈ L ∧ b1 ∈ L ∧ b2 ∈ L ∧ g ≠ b1 ∧ g ≠ b2 ∧ b1 ≠ b2 ∧ (∀ k ∈ L, k < w.heap.size) ∧ ∀ b o s, ad = some ⟨b, o, s⟩ → b ∈ L ∧ b ≠ g ∧ b ≠ b1 ∧ b ≠ b2) ∧
  w.heap[g]? = some (.cells #[.int .i64 m, .int .i64 s, .slice ad rows.length cap, .int .i64 c0, .map (some b1), .map (some b2)] 55 (0, 0)) ∧
  Rw.QRow EPr w ad cap rows.reverse ∧ MRow w b1 n1 (fun x => plc nmV x rows c0) ∧ MNam w b2 n2 (fun x => plc (·.name) x rows c0) ∧
  rows.length ≤ c0 ∧ c0 ≤ 1000000 ∧ ∀ x ∈ rows, x.never = false ∧ cost x ≤ 65536

theorem PTa.kept {w w' : World} {L : List Nat} {g m s c0 cap b1 b2 n1 n2 : Nat} {rows : List FdM} {ad : Option Addr} (h : PTa w L g m s rows c0 ad cap b1 b2 n1 n2) (hs : w.heap.size ≤ w'.heap.size) (hb : ∀ k ∈ L, w'.heap[k]? = w.heap[k]?) : PTa w' L g m s rows c0 ad cap b1 b2 n1 n2 := by
  obtain ⟨⟨hg, h1, h2, h3, h4, h5, h6, h7⟩, hh, hq, hm1, hm2, hr⟩ := h
  exact ⟨⟨hg, h1, h2, h3, h4, h5, fun k hk => Nat.lt_of_lt_of_le (h6 k hk) hs, h7⟩, (hb g hg).trans hh, hq.block hs (fun b o s e => hb b (h7 b o s e).1), hm1.block (hb b1 h1), hm2.block (hb b2 h2), hr⟩
theorem PTa.below {w w' : World} {L : List Nat} {g m s c0 cap b1 b2 n1 n2 : Nat} {rows : List FdM} {ad : Option Addr} (h : PTa w L g m s rows c0 ad cap b1 b2 n1 n2) (hb : Below w.heap.size w w') : PTa w' L g m s rows c0 ad cap b1 b2 n1 n2 :=
  h.kept hb.size (fun k hk => hb.block k (h.1.2.2.2.2.2.2.1 k hk))

/-- The table, whatever lies where; its size may be above its most. -/
def PTs (w : World) (L : List Nat) (g m : Nat) (rows : List FdM) (c : Nat) : Prop :=
  ∃ c0 ad cap b1 b2 n1 n2, PTa w L g m (csum rows) rows c0 ad cap b1 b2 n1 n2 ∧ c0 ≤ c ∧ n1 ≤ c ∧ n2 ≤ c ∧ m ≤ 65536 ∧ csum rows ≤ 65536
theorem PTs.below {w w' : World} {L : List Nat} {g m c : Nat} {rows : List FdM} (h : PTs w L g m rows c) (hb : Below w.heap.size w w') : PTs w' L g m rows c := by
  obtain ⟨c0, ad, cap, b1, b2, n1, n2, h, hr⟩ := h; exact ⟨c0, ad, cap, b1, b2, n1, n2, h.below hb, hr⟩
theorem PTs.kept {w w' : World} {L : List Nat} {g m c : Nat} {rows : List FdM} (h : PTs w L g m rows c) (hs : w.heap.size ≤ w'.heap.size) (hb : ∀ k ∈ L, w'.heap[k]? = w.heap[k]?) : PTs w' L g m rows c := by
  obtain ⟨c0, ad, cap, b1, b2, n1, n2, h, hr⟩ := h; exact ⟨c0, ad, cap, b1, b2, n1, n2, h.kept hs hb, hr⟩
theorem PTs.own {w : World} {L : List Nat} {g m c : Nat} {rows : List FdM} (h : PTs w L g m rows c) : g ∈ L := by
  obtain ⟨c0, ad, cap, b1, b2, n1, n2, h, hr⟩ := h; exact h.1.1
/-- The program's table: its rows (the youngest first) cost no more than its most; c: how many came at most. -/
def PTab (w : World) (L : List Nat) (g : Nat) (m : Nat) (rows : List FdM) (c : Nat) : Prop := PTs w L g m rows c ∧ csum rows ≤ m
theorem PTab.blocks {w : World} {L : List Nat} {g m c : Nat} {rows : List FdM} (h : PTab w L g m rows c) : ∀ k ∈ L, k < w.heap.size := by
  obtain ⟨⟨c0, ad, cap, b1, b2, n1, n2, h, hr⟩, _⟩ := h; exact h.1.2.2.2.2.2.2.1
theorem PTab.sum {w : World} {L : List Nat} {g m c : Nat} {rows : List FdM} (h : PTab w L g m rows c) : csum rows ≤ m ∧ m ≤ 65536 := by
  obtain ⟨⟨c0, ad, cap, b1, b2, n1, n2, h, _, _, _, hm, _⟩, hs⟩ := h; exact ⟨hs, hm⟩
theorem PTab.kept {w w' : World} {L : List Nat} {g m c : Nat} {rows : List FdM} (h : PTab w L g m rows c) (hs : w.heap.size ≤ w'.heap.size) (hb : ∀ k ∈ L, w'.heap[k]? = w.heap[k]?) : PTab w' L g m rows c :=
  ⟨h.1.kept hs hb, h.2⟩
theorem PTab.below {w w' : World} {L : List Nat} {g m c : Nat} {rows : List FdM} (h : PTab w L g m rows c) (hb : Below w.heap.size w w') : PTab w' L g m rows c := ⟨h.1.below hb, h.2⟩

theorem sized_any (n : Int) (w : World) :
    Calls Try.prog 23 #[.int .i64 n] w fun e w' => e = .returned (.bool (decide (0 ≤ n ∧ n ≤ 65536))) ∧ Below w.heap.size w w' := by
  go_enter Try.func23, Try.ntmps23
  by_cases h0 : (0 : Int) ≤ n
  · by_cases h1 : n ≤ 65536
    · go_wp2_with fail
      go_ret
      exact ⟨by simp [h0, h1], Below.refl _ _⟩
    · go_wp2_with fail
      go_ret
      exact ⟨by simp [h0, h1], Below.refl _ _⟩
  · have h0' : decide ((0 : Int) ≤ n) = false := by simp; omega
    go_wp2_with fail
    go_ret
    exact ⟨by simp [h0], Below.refl _ _⟩

theorem pnew_bad (m : Int) (w : World) (hm : m < 0 ∨ 65536 < m) :
    Calls Try.prog 10 #[.int .i64 m] w fun e w' => e = .returned (.tuple #[.pointer none, .int .i64 1]) ∧ Below w.heap.size w w' := by
  have HS := Lib.hid (fun v => sized_any m v)
  rw [show decide (0 ≤ m ∧ m ≤ 65536) = false by simp; omega] at HS
  go_enter Try.func10, Try.ntmps10
  go_wp2_with fail
  refine (HS.out _).mono ?_; rintro e w1 ⟨rfl, b1⟩
  go_wp2_with fail
  go_ret2
  exact ⟨rfl, b1⟩

theorem ptab_new (m : Nat) (w : World) (hm : m ≤ 65536) :
    PTab (((w.alloc (.map #[] 0)).alloc (.map #[] 0)).alloc (.cells #[.int .i64 m, .int .i64 0, .slice none 0 0, .int .i64 0, .map (some w.heap.size), .map (some (w.heap.size + 1))] 55)) [w.heap.size + 1 + 1, w.heap.size, w.heap.size + 1] (w.heap.size + 1 + 1) m [] 0 := by
  have s1 : (w.alloc (.map #[] 0)).heap.size = w.heap.size + 1 := by simp
  have s2 : ((w.alloc (.map #[] 0)).alloc (.map #[] 0)).heap.size = w.heap.size + 1 + 1 := by simp
  have B : ∀ (v : World) (o : Obj), Below v.heap.size v (v.alloc o) := fun v o => (Below.refl _ _).alloc (Nat.le_refl _) o
  have h1 : MRow (w.alloc (.map #[] 0)) w.heap.size 0 (fun _ => none) := Mp.MapF.made w
  have h2 : MNam ((w.alloc (.map #[] 0)).alloc (.map #[] 0)) (w.alloc (.map #[] 0)).heap.size 0 (fun _ => none) := Mp.MapF.made _
  rw [s1] at h2
  generalize ho : Obj.cells #[.int .i64 m, .int .i64 0, .slice none 0 0, .int .i64 0, .map (some w.heap.size), .map (some (w.heap.size + 1))] 55 = o
  have hg := heap_alloc_new ((w.alloc (.map #[] 0)).alloc (.map #[] 0)) o
  rw [s2] at hg
  have h1' : MRow (((w.alloc (.map #[] 0)).alloc (.map #[] 0)).alloc o) w.heap.size 0 (fun _ => none) := (Mp.MapF.below h1 (B _ _)).below (B _ _)
  have h2' : MNam (((w.alloc (.map #[] 0)).alloc (.map #[] 0)).alloc o) (w.heap.size + 1) 0 (fun _ => none) := Mp.MapF.below h2 (B _ _)
  have s3 : (((w.alloc (.map #[] 0)).alloc (.map #[] 0)).alloc o).heap.size = w.heap.size + 1 + 1 + 1 := by simp
  generalize (((w.alloc (.map #[] 0)).alloc (.map #[] 0)).alloc o) = y at *
  subst ho
  refine ⟨⟨0, none, 0, w.heap.size, w.heap.size + 1, 0, 0, ⟨⟨by simp, by simp, by simp, by omega, by omega, by omega, fun k hk => ?_, (fun b o s e => by cases e)⟩, hg, Rw.QRow.bare EPr y, h1', h2', Nat.le_refl _, Nat.zero_le _, fun x hx => by cases hx⟩, Nat.le_refl _, Nat.le_refl _, Nat.le_refl _, hm, Nat.zero_le _⟩, Nat.zero_le _⟩
  simp only [List.mem_cons, List.not_mem_nil, or_false] at hk
  omega

theorem pnew_ok (m : Nat) (w : World) (hm : m ≤ 65536) :
    Calls Try.prog 10 #[.int .i64 m] w fun e w' => ∃ g L, e = .returned (.tuple #[.pointer (some ⟨g, 0, none⟩), .int .i64 0]) ∧ PTab w' L g m [] 0 ∧ Below w.heap.size w w' ∧ ∀ k ∈ L, w.heap.size ≤ k := by
  have HS := Lib.hid (fun v => sized_any m v)
  rw [show decide ((0 : Int) ≤ m ∧ (m : Int) ≤ 65536) = true by simp; omega] at HS
  have hmm := @run_makeMap Try.prog
  go_enter Try.func10, Try.ntmps10
  go_wp2_with fail
  refine (HS.out _).mono ?_; rintro e w1 ⟨rfl, b1⟩
  go_wp2_with fail
  go_ret2
  refine ⟨_, _, rfl, ptab_new m w1 hm, ((b1.alloc b1.size _).alloc (by simp; exact Nat.le_succ_of_le b1.size) _).alloc (by simp; exact Nat.le_succ_of_le (Nat.le_succ_of_le b1.size)) _, fun k hk => ?_⟩
  have := b1.size
  simp only [List.mem_cons, List.not_mem_nil, or_false] at hk
  omega

theorem pmost_any (L : List Nat) (g m c : Nat) (rows : List FdM) (w : World) (h : PTab w L g m rows c) :
    Calls Try.prog 12 #[.pointer (some ⟨g, 0, none⟩)] w fun e w' => e = .returned (.int .i64 m) ∧ Below w.heap.size w w' := by
  obtain ⟨⟨c0, ad, cap, b1, b2, n1, n2, ⟨_, hh, _⟩, _⟩, _⟩ := h
  have c0 := cell_at hh 0
  clear hh
  go_enter Try.func12, Try.ntmps12
  go_wp2_with fail
  go_ret
  exact ⟨rfl, Below.refl _ _⟩
theorem psize_any (L : List Nat) (g m c : Nat) (rows : List FdM) (w : World) (h : PTab w L g m rows c) :
    Calls Try.prog 13 #[.pointer (some ⟨g, 0, none⟩)] w fun e w' => e = .returned (.int .i64 (csum rows)) ∧ Below w.heap.size w w' := by
  obtain ⟨⟨c0, ad, cap, b1, b2, n1, n2, ⟨_, hh, _⟩, _⟩, _⟩ := h
  have c0 := cell_at hh 1
  clear hh
  generalize csum rows = s at *
  go_enter Try.func13, Try.ntmps13
  go_wp2_with fail
  go_ret
  exact ⟨rfl, Below.refl _ _⟩
theorem plen_any (L : List Nat) (g m c : Nat) (rows : List FdM) (w : World) (h : PTab w L g m rows c) :
    Calls Try.prog 15 #[.pointer (some ⟨g, 0, none⟩)] w fun e w' => e = .returned (.int .i64 rows.length) ∧ Below w.heap.size w w' := by
  obtain ⟨⟨c0, ad, cap, b1, b2, n1, n2, ⟨_, hh, _⟩, _⟩, _⟩ := h
  have c0 := cell_at hh 2
  clear hh
  generalize rows.length = s at *
  go_enter Try.func15, Try.ntmps15
  go_wp2_with fail
  go_ret
  exact ⟨rfl, Below.refl _ _⟩
theorem pmost_nil (w : World) : Calls Try.prog 12 #[.pointer none] w fun e w' => e = .returned (.int .i64 0) ∧ Below w.heap.size w w' := by
  go_enter Try.func12, Try.ntmps12
  go_wp2_with fail
  go_ret
  exact ⟨rfl, Below.refl _ _⟩
theorem psize_nil (w : World) : Calls Try.prog 13 #[.pointer none] w fun e w' => e = .returned (.int .i64 0) ∧ Below w.heap.size w w' := by
  go_enter Try.func13, Try.ntmps13
  go_wp2_with fail
  go_ret
  exact ⟨rfl, Below.refl _ _⟩
theorem plen_nil (w : World) : Calls Try.prog 15 #[.pointer none] w fun e w' => e = .returned (.int .i64 0) ∧ Below w.heap.size w w' := by
  go_enter Try.func15, Try.ntmps15
  go_wp2_with fail
  go_ret
  exact ⟨rfl, Below.refl _ _⟩
/-- What a row costs. -/
theorem pcost_any (n v : ByteArray) (w : World) (hn : n.size ≤ 140737488351232) (hv : v.size ≤ 140737488351232) :
    Calls Try.prog 30 #[.agg #[.string n, .string v]] w fun e w' => e = .returned (.int .i64 (n.size + v.size + 32 : Nat)) ∧ Below w.heap.size w w' := by
  go_enter Try.func30, Try.ntmps30
  go_wp2_with fail
  go_ret
  exact ⟨by simp, (Below.refl _ _).alloc (Nat.le_refl _) _⟩
theorem pnumber_any (g c0 p : Nat) (w : World) (h : w.cell? ⟨g, 3, none⟩ = some (.int .i64 c0)) (hc : c0 ≤ 1000000) (hp : p ≤ c0) :
    Calls Try.prog 38 #[.pointer (some ⟨g, 0, none⟩), .int .i64 p] w fun e w' => e = .returned (.int .i64 (if p = 0 then 0 else 62 + c0 - p : Nat)) ∧ Below w.heap.size w w' := by
  go_enter Try.func38, Try.ntmps38
  by_cases h0 : p = 0
  · subst h0
    go_wp2_with fail
    go_ret
    exact ⟨rfl, Below.refl _ _⟩
  · have h0' : ¬ (p : Int) = 0 := by omega
    go_wp2_with fail
    go_ret
    exact ⟨by rw [show ((62 + c0 - p : Nat) : Int) = 62 + c0 - p by omega]; rfl, Below.refl _ _⟩
end Go.Proofs.Ytifaecmmnconpaa
