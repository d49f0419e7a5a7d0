/- Layer 3: the document's TakeInt at every prefix. A table at any place: the document's Size. A table at any place: the document's Resize. A table at any place: the document's Add. -/
import Derived.Test.YtdkgachgohilcaaDoorRows
import Derived.Test.YtdkgachgohilcaaDoorGP05
import Derived.Test.YtdkgachgohilcaaDoorGP01
import Derived.Test.YtdkgachgohilcaaDoorGP02
import Derived.Test.YtdkgachgohilcaaDoorGP03
import Derived.Test.YtdkgachgohilcaaDoorGP06
import Derived.WalkKit
import Derived.WalkSpells
import Derived.WalkLawsBesides
import Derived.Lib.Hide
import Derived.Outline
import Derived.Test.YtdkgachgohilcaaDoorGP12
import Derived.Test.YtdkgachgohilcaaDoorGP11
import Derived.Deep.Cut
import Derived.RegionTactic
import Derived.IntWalk
import Derived.Deep.RegionLaw
import Derived.Deep.LoopGhost
import Derived.Deep.RegionWith
import Derived.Deep.RegionHeld3
set_option linter.unusedVariables false
set_option linter.unusedSimpArgs false
namespace Go.Proofs.YtdkgachgohilcaaDoor
open Go.RowKit
open Huf Pre Mem Gen
set_option linter.unusedVariables false

theorem rtakeint_any (a : Option Addr) (l : List UInt8) (cap : Nat) (k : Int) (w : World) (hl : l.length ≤ 9223372036854775807) (hr : RB w a l) :
    Calls Tryd.prog 33 #[.slice a l.length cap, .int .i64 k] w fun e w' => e = .returned (.tuple #[.int .i64 (takeI l k).1, .int .i64 (takeI l k).2.1, .int .i64 (takeI l k).2.2]) ∧ w = w' := by
  by_cases h : k < 1 ∨ 8 < k
  · have hT : takeI l k = (0, 0, 1) := by rw [takeI, if_pos h]
    rw [hT]
    exact rtakeint_bad a _ cap k w h
  · obtain ⟨j, rfl⟩ := Int.eq_ofNat_of_zero_le (show 0 ≤ k by omega)
    have hT : takeI l j = takeN l j := by rw [takeI, if_neg h, Int.toNat_natCast]
    rw [hT]
    exact rtakeint_ok a l cap j w hl hr (by omega) (by omega)

end Go.Proofs.YtdkgachgohilcaaDoor

namespace Go.Proofs.YtdkgachgohilcaaDoor
open Go.RowKit
open Arg Tab Run Mem Go.Proofs.YtdkgachgohilcaaDoor.Obj
set_option linter.unusedVariables false
set_option maxRecDepth 100000

set_option maxHeartbeats 1000000 in
theorem rsizeG_at (g o n cap : Nat) (ad : Option Addr) (rows : List FdM) (m : Int) (w : World) (hn : n = rows.length) (h0 : w.cell? ⟨g, o, none⟩ = some (.int .i64 m)) (h1 : w.cell? ⟨g, o + 1, none⟩ = some (.slice ad n cap)) (hcap : n ≤ cap) (hmax : cap ≤ maxLen)
    (hr : Rw.RowE EFd w ad rows) (hs : csum rows ≤ 1000000) :
    Calls Tryd.prog 56 #[.pointer (some ⟨g, o, none⟩)] w fun e w' => e = .returned (.int .i64 (csum rows)) ∧ Below w.heap.size w w' := by
  unfold maxLen at hmax
  have H0 := Lib.hid h0
  have H1 := Lib.hid h1
  have HR := Lib.hid hr
  have HL := Lib.hid hn
  generalize hC : csum rows = C at hs
  have HC := Lib.hid hC
  have hn32 : 32 * n ≤ C := by rw [← hC, hn]; exact csum_len rows
  clear h0 h1 hr hn hC
  go_enter Tryd.func56, Tryd.ntmps56
  go_wp2_with fail
  go_loopw [3, 4] (fun v i wr => ∃ (k b : Nat), k ≤ n ∧ i = .int .i64 k ∧ v = .int .i64 b ∧ b ≤ C ∧ Hid (b + csum (rows.drop k) = C) ∧ Below w.heap.size w wr) (fun _ i _ => n - (intOf i).toNat)
  case atStart => exact ⟨0, 0, by omega, rfl, rfl, by omega, Lib.hid (by rw [List.drop_zero, HC.out]; omega), Below.refl _ _⟩
  case round =>
    obtain ⟨k, b, hk, rfl, rfl, hb, HF, hbel⟩ := hrel
    have c1 : wr.cell? ⟨g, o + 1, none⟩ = some (.slice ad n cap) := below_cell hbel H1.out
    by_cases hlt : k < n
    · have hlt' : (k : Int) < n := by omega
      have hlr : k < rows.length := by rw [← HL.out]; exact hlt
      obtain ⟨bl, off, rfl, hc⟩ : ∃ b off, ad = some ⟨b, off, none⟩ ∧ ∀ i, (h : i < rows.length) → Rw.CE EFd w b (off + i * 3) rows[i] := by
        rcases HR.out with h | h
        · rw [h] at hlr; simp at hlr
        · exact h
      obtain ⟨d0, d1, d2⟩ := CE_fd (hc k hlr)
      have e0 := below_cell hbel d0
      have e1 := below_cell hbel d1
      have e2 := below_cell hbel d2
      have HF1 : Hid (b + (cost rows[k] + csum (rows.drop (k + 1))) = C) := Lib.hid (by
        have h := HF.out
        rw [List.drop_eq_getElem_cons hlr, csum] at h
        exact h)
      have hcs : cost rows[k] ≤ 1000000 := by have := HF1.out; omega
      have hb2 : b + cost rows[k] ≤ C := by have := HF1.out; omega
      have HF2 : Hid (b + cost rows[k] + csum (rows.drop (k + 1)) = C) := Lib.hid (by have := HF1.out; omega)
      have HCo := Lib.hid (fun v => cost_any rows[k] v (by unfold cost at hcs; omega) (by unfold cost at hcs; omega))
      clear d0 d1 d2 hc HF HF1
      generalize rows[k] = f at *
      obtain ⟨fn, fv, fb⟩ := f
      simp only at e0 e1 e2 HCo
      generalize cost ⟨fn, fv, fb⟩ = c at *
      go_wp2_with fail
      refine (HCo.out _).mono ?_; rintro e w1 ⟨rfl, hb1⟩
      replace hb1 := below_step hbel hb1
      go_wp2_with fail
      go_roundw
      case rel => exact ⟨k + 1, b + c, by omega, by go_num, by go_num, hb2, HF2, hb1⟩
      case measure => simp [intOf]; omega
    · have hlt' : ¬ (k : Int) < n := by omega
      have hbC : b = C := by
        have h := HF.out
        rw [List.drop_of_length_le (by rw [← HL.out]; omega), csum] at h; omega
      subst hbC
      clear HF HC
      go_wp2_with fail
      go_ret
      exact ⟨rfl, hbel⟩

/-- The two cells of a table, within a block of any size. -/
def put2 (cs : Array Value) (o : Nat) (a b : Value) : Array Value := (cs.setIfInBounds o a).setIfInBounds (o + 1) b
theorem put2_0 {cs : Array Value} {o : Nat} (h : o + 1 < cs.size) (a b : Value) : (put2 cs o a b)[o]? = some a := by
  rw [put2, Array.getElem?_setIfInBounds_ne (by omega), Array.getElem?_setIfInBounds_self_of_lt (by omega)]
theorem put2_1 {cs : Array Value} {o : Nat} (h : o + 1 < cs.size) (a b : Value) : (put2 cs o a b)[o + 1]? = some b := by
  rw [put2, Array.getElem?_setIfInBounds_self_of_lt (by simpa using h)]
theorem put2_else {cs : Array Value} {o i : Nat} (h0 : i ≠ o) (h1 : i ≠ o + 1) (a b : Value) : (put2 cs o a b)[i]? = cs[i]? := by
  rw [put2, Array.getElem?_setIfInBounds_ne (by omega), Array.getElem?_setIfInBounds_ne (by omega)]
theorem put2_set0 (cs : Array Value) (o : Nat) (a b a2 : Value) : (put2 cs o a b).setIfInBounds o a2 = put2 cs o a2 b := by
  rw [put2, put2, Array.setIfInBounds_comm _ _ (by omega), Array.setIfInBounds_setIfInBounds]
theorem put2_set1 (cs : Array Value) (o : Nat) (a b b2 : Value) : (put2 cs o a b).setIfInBounds (o + 1) b2 = put2 cs o a b2 := by
  rw [put2, put2, Array.setIfInBounds_setIfInBounds]

/-- A table at cells o and o + 1 of block g, whose other cells are those of cs. -/
def GTab (w : World) (L : List Nat) (g : Nat) (t : TypeId) (cs : Array Value) (o : Nat) (m : Nat) (rows : List FdM) : Prop :=
  ∃ ad cap, g ∈ L ∧ w.heap[g]? = some (.cells (put2 cs o (.int .i64 m) (.slice ad rows.length cap)) t (0, 0)) ∧ rows.length ≤ cap ∧ cap ≤ maxLen ∧ (ad = none → cap = 0) ∧ (∀ b o s, ad = some ⟨b, o, s⟩ → b ∈ L ∧ b ≠ g) ∧
    Rw.RowE EFd w ad rows ∧ (∀ k ∈ L, k < w.heap.size)
theorem RTab.gen {w : World} {L : List Nat} {g m : Nat} {rows : List FdM} (h : RTab w L g m rows) : GTab w L g 37 #[.int .i64 0, .int .i64 0] 0 m rows := h
theorem GTab.flat {w : World} {L : List Nat} {g m : Nat} {rows : List FdM} (h : GTab w L g 37 #[.int .i64 0, .int .i64 0] 0 m rows) : RTab w L g m rows := h
theorem GTab.blocks {w : World} {L : List Nat} {g : Nat} {t : TypeId} {cs : Array Value} {o m : Nat} {rows : List FdM} (h : GTab w L g t cs o m rows) : ∀ k ∈ L, k < w.heap.size := by
  obtain ⟨ad, cap, hg, hh, hl, hm, hz, ha, hr, hk⟩ := h; exact hk
theorem GTab.kept {w w' : World} {L : List Nat} {g : Nat} {t : TypeId} {cs : Array Value} {o m : Nat} {rows : List FdM} (h : GTab w L g t cs o m rows) (hs : w.heap.size ≤ w'.heap.size) (hb : ∀ k ∈ L, w'.heap[k]? = w.heap[k]?) : GTab w' L g t cs o m rows := by
  obtain ⟨ad, cap, hg, hh, hl, hm, hz, ha, hr, hk⟩ := h
  exact ⟨ad, cap, hg, (hb g hg).trans hh, hl, hm, hz, ha, hr.block (fun b o e => hb b (ha b o none e).1), fun k hkL => Nat.lt_of_lt_of_le (hk k hkL) hs⟩
theorem GTab.below {w w' : World} {L : List Nat} {g : Nat} {t : TypeId} {cs : Array Value} {o m : Nat} {rows : List FdM} (h : GTab w L g t cs o m rows) (hb : Below w.heap.size w w') : GTab w' L g t cs o m rows :=
  h.kept hb.size (fun k hkL => hb.block k (h.blocks k hkL))
/-- Another cell of the block is written. -/
theorem GTab.other {w : World} {L : List Nat} {g : Nat} {t : TypeId} {cs : Array Value} {o m : Nat} {rows : List FdM} (h : GTab w L g t cs o m rows) (i : Nat) (v : Value) (h0 : i ≠ o) (h1 : i ≠ o + 1) : GTab (w.setCell ⟨g, i, none⟩ v) L g t (cs.setIfInBounds i v) o m rows := by
  obtain ⟨ad, cap, hg, hh, hl, hm, hz, ha, hr, hk⟩ := h
  have hset := heap_setCell_same w g i _ _ v hh
  refine ⟨ad, cap, hg, hset.trans ?_, hl, hm, hz, ha, hr.block (fun b o e => Below.heap_setCell _ _ _ _ (ha b o none e).2), fun k hkL => by have := hk k hkL; simpa [World.setCell] using this⟩
  rw [put2, put2, Array.setIfInBounds_comm _ _ (show o + 1 ≠ i by omega), Array.setIfInBounds_comm _ _ (show o ≠ i by omega)]
end Go.Proofs.YtdkgachgohilcaaDoor

namespace Go.Proofs.YtdkgachgohilcaaDoor
open Go.RowKit
open Arg Tab Mem Go.Proofs.YtdkgachgohilcaaDoor.Obj
set_option linter.unusedVariables false

/-- New rows are put into the table. -/
theorem gtab_put {y : World} {g o m base n cap : Nat} {t : TypeId} {cs : Array Value} (hb0 : o + 1 < cs.size) {ad : Option Addr} {v0 : Value} {rows : List FdM} (hy : y.heap[g]? = some (.cells (put2 cs o (.int .i64 m) v0) t (0, 0)))
    (ho : y.ownsRow base 59 3 (.slice ad n cap) n (Rw.flat EFd rows)) (hn : n = rows.length) (hg : g < base) :
    GTab (y.setCell ⟨g, o + 1, none⟩ (.slice ad n cap)) (g :: adBlk ad) g t cs o m rows ∧ ∀ k ∈ g :: adBlk ad, k = g ∨ base ≤ k := by
  subst hn
  obtain ⟨_, h1, h2, h3⟩ := Rw.own_len ho
  have hb := Rw.own_blk ho
  have hset := heap_setCell_same y g (o + 1) _ _ (.slice ad rows.length cap) hy
  rw [put2_set1] at hset
  have hgs := (Array.getElem?_eq_some_iff.1 hy).1
  have hsz : (y.setCell ⟨g, o + 1, none⟩ (.slice ad rows.length cap)).heap.size = y.heap.size := by simp [World.setCell]
  refine ⟨⟨ad, cap, List.mem_cons_self .., hset, h1, h2, h3, ?_, ?_, ?_⟩, ?_⟩
  · intro b o' s e
    have := hb b o' s e
    refine ⟨?_, by omega⟩
    subst e
    simp [adBlk]
  · refine (Rw.RowE.of_own ho).block fun b o' e => Below.heap_setCell _ _ _ _ ?_
    have := hb b o' none e
    show b ≠ g
    omega
  · intro k hk
    rw [hsz]
    rcases List.mem_cons.mp hk with rfl | hk
    · exact hgs
    · cases ad with
      | none => cases hk
      | some a =>
        simp only [adBlk, List.mem_singleton] at hk
        subst hk
        exact (hb a.block a.off a.spot rfl).2
  · intro k hk
    rcases List.mem_cons.mp hk with rfl | hk
    · exact .inl rfl
    · cases ad with
      | none => cases hk
      | some a =>
        simp only [adBlk, List.mem_singleton] at hk
        subst hk
        exact .inr (hb a.block a.off a.spot rfl).1

set_option maxHeartbeats 2000000 in
theorem gresize_any (t : TypeId) (cs : Array Value) (g o m m2 : Nat) (rows : List FdM) (L : List Nat) (w : World) (hb0 : o + 1 < cs.size) (h : GTab w L g t cs o m rows) (hs : csum rows ≤ 65536) (hm2 : m2 ≤ 65536) :
    Calls Tryd.prog 35 #[.pointer (some ⟨g, o, none⟩), .int .i64 m2] w fun e w' => e = .returned (.tuple #[]) ∧ ∃ L', GTab w' L' g t cs o m2 (fit m2 rows) ∧ Kept L w w' ∧ ∀ k ∈ L', k ∈ L ∨ w.heap.size ≤ k := by
  obtain ⟨i0, hi, hz0, hz1, hz2⟩ := info_parts info_fd
  have HI := Lib.hid hi
  have HZ0 := Lib.hid hz0
  have HZ1 := Lib.hid hz1
  have HZ2 := Lib.hid hz2
  obtain ⟨ad, cap, hg, hh, hl, hm, hz, ha, hr, hk⟩ := h
  have c0 := (cell_at hh o).trans (put2_0 hb0 _ _)
  have f0 : w.frozen? ⟨g, o, none⟩ = false := by simp [World.frozen?, hh]
  have HH := Lib.hid hh
  have HR := Lib.hid hr
  have HA := Lib.hid ha
  have HK := Lib.hid hk
  have HG := Lib.hid hg
  clear hi hz0 hz1 hz2 hh hr ha hk hg
  generalize hF : fit m2 rows = R
  have HF := Lib.hid hF
  clear hF
  go_enter Tryd.func35, Tryd.ntmps35
  go_wp2_with fail
  have hset := heap_setCell_same w g o _ _ (.int .i64 m2) HH.out
  rw [put2_set0] at hset
  have HW : Hid (GTab (w.setCell ⟨g, o, none⟩ (.int .i64 m2)) L g t cs o m2 rows) := Lib.hid ⟨ad, cap, HG.out, hset, hl, hm, hz, HA.out, HR.out.block (fun b o e => Below.heap_setCell _ _ _ _ (HA.out b o none e).2), fun k hk => by
    have := HK.out k hk
    simpa [World.setCell] using this⟩
  have HKe : Hid (Kept L w (w.setCell ⟨g, o, none⟩ (.int .i64 m2))) := Lib.hid ((Kept.refl L w).setCell (.inl HG.out) _)
  clear hset HH HR HA HK HG c0 f0
  go_loopg [] rows.length (fun k wr => ∃ (rows' : List FdM) (L' : List Nat), k = rows'.length ∧ Hid (GTab wr L' g t cs o m2 rows') ∧ Hid (fit m2 rows' = R) ∧ csum rows' ≤ 65536 ∧ Hid (Kept L w wr) ∧ Hid (∀ k ∈ L', k ∈ L ∨ w.heap.size ≤ k))
  case atStart => exact ⟨rows, L, rfl, HW, HF, hs, HKe, Lib.hid (fun k hk => .inl hk)⟩
  case round =>
    clear HW HF HKe
    obtain ⟨rows', L', rfl, HT, HF, hs', HKe, HN⟩ := hrel
    obtain ⟨ad', cap', hg', hh', hl', hm', hz', ha', hr', hk'⟩ := HT.out
    have HS := Lib.hid (rsizeG_at g o rows'.length cap' ad' rows' m2 wr rfl ((cell_at hh' o).trans (put2_0 hb0 _ _)) ((cell_at hh' (o + 1)).trans (put2_1 hb0 _ _)) hl' hm' hr' (by omega))
    have h32 := csum_len rows'
    by_cases hbig : m2 < csum rows'
    · have hbig' : (m2 : Int) < csum rows' := by omega
      have hpos : 0 < rows'.length := by
        rcases Nat.eq_zero_or_pos rows'.length with h0 | h0
        · rw [List.eq_nil_iff_length_eq_zero.mpr h0] at hbig; simp [csum] at hbig
        · exact h0
      have HFd : Hid (fit m2 rows'.dropLast = R) := Lib.hid (by rw [← fit_drop rows' m2 hbig]; exact HF.out)
      have hdl : rows'.dropLast.length = rows'.length - 1 := List.length_dropLast
      have HDl := Lib.hid hdl
      have hds : csum rows'.dropLast ≤ 65536 := Nat.le_trans (csum_dropLast rows') hs'
      obtain ⟨bl, off, rfl⟩ : ∃ b off, ad' = some ⟨b, off, none⟩ := by
        rcases hr' with h | ⟨b, off, h, _⟩
        · rw [h] at hpos; simp at hpos
        · exact ⟨b, off, h⟩
      have HH := Lib.hid hh'
      have HR := Lib.hid (hr'.take (rows'.length - 1))
      rw [← List.dropLast_eq_take] at HR
      have HA : Hid (∀ b o s, some (⟨bl, off, none⟩ : Addr) = some ⟨b, o, s⟩ → b ∈ L' ∧ b ≠ g) := Lib.hid ha'
      have HG := Lib.hid hg'
      have HK := Lib.hid hk'
      have hgl := hk' g hg'
      have HGl := Lib.hid hgl
      clear hdl hh' hr' ha' hg' hk' hgl HF
      generalize hnn : rows'.length = nn at *
      generalize hcc : csum rows' = cc at *
      have HNn := Lib.hid hnn
      clear hnn hcc
      go_wp2_with fail
      refine HS.out.mono ?_; rintro e w1 ⟨rfl, b1⟩
      have hh1 := block_below b1 HH.out
      have c1 : w1.cell? ⟨g, o + 1, none⟩ = some (.slice (some ⟨bl, off, none⟩) nn cap') := (cell_at hh1 (o + 1)).trans (put2_1 hb0 _ _)
      have c1a : (w1.alloc (.cells #[] 59)).cell? ⟨g, o + 1, none⟩ = some (.slice (some ⟨bl, off, none⟩) nn cap') := (cell_at (alloc_at hh1) (o + 1)).trans (put2_1 hb0 _ _)
      have hm2' : (nn : Int) - 1 ≤ cap' := by omega
      go_wp2_with fail
      have hn1 : IntKind.i64.wrap ((nn : Int) - 1) = (nn : Int) - 1 := IntWalk.i64_in _ (by omega)
      have hn2 : (0 : Int) ≤ (nn : Int) - 1 := by omega
      have hn4 : (1 : Int) ≤ nn := by omega
      have hn3 : ((nn : Int) - 1).toNat = nn - 1 := by omega
      have HOw : Hid (∀ x : World, x.heap = (w1.alloc (.cells #[] 59)).heap → x.ownsRow w1.heap.size 59 3 (.slice (some ⟨w1.heap.size, 0, none⟩) 0 0) 0 (Rw.flat EFd [])) := Lib.hid (fun x hx => by
        have h := own_new w1 59 3
        unfold World.ownsRow at h ⊢
        rw [hx]; exact h)
      have HRw : Hid (∀ x : World, x.heap = (w1.alloc (.cells #[] 59)).heap → Rw.RowE EFd x (some ⟨bl, off, none⟩) rows'.dropLast) := Lib.hid (fun x hx => (HR.out.below b1).block (fun b o e => by
        simp only [Option.some.injEq, Addr.mk.injEq] at e
        obtain ⟨rfl, _⟩ := e
        rw [hx]
        exact Below.heap_alloc _ _ _ (by have := HK.out bl (HA.out bl off none rfl).1; have := b1.size; omega)))
      have HBa : Hid (∀ x : World, x.heap = (w1.alloc (.cells #[] 59)).heap → w1.heap.size ≤ x.heap.size) := Lib.hid (fun x hx => by rw [hx]; simp)
      have HLe : Hid (0 + (nn - 1) ≤ maxLen) := Lib.hid (by unfold maxLen; omega)
      have HBy : Hid ((0 + (nn - 1)) * 40 ≤ 140737488355328) := Lib.hid (by omega)
      have HAt : Hid (∀ x y : World, x.heap = (w1.alloc (.cells #[] 59)).heap → x.grownBy y (some w1.heap.size) → y.heap[g]? = some (.cells (put2 cs o (.int .i64 m2) (.slice (some ⟨bl, off, none⟩) nn cap')) t (0, 0))) := Lib.hid (fun x y hx hy =>
        grown_at hy (by rw [hx]; exact alloc_at hh1) (by have h1 := b1.size; have h2 := HGl.out; intro e; simp only [Option.some.injEq] at e; omega))
      have HFin : Hid (∀ (y : World) (ad4 : Option Addr) (cap4 : Nat), y.ownsRow w1.heap.size 59 3 (.slice ad4 (0 + (nn - 1)) cap4) (0 + (nn - 1)) (Rw.flat EFd ([] ++ rows'.dropLast)) → (w1.alloc (.cells #[] 59)).drew.grownBy y (some w1.heap.size) →
          ∃ (rows2 : List FdM) (L2 : List Nat), nn - 1 = rows2.length ∧ Hid (GTab (y.setCell ⟨g, o + 1, none⟩ (.slice ad4 (nn - 1) cap4)) L2 g t cs o m2 rows2) ∧ Hid (fit m2 rows2 = R) ∧ csum rows2 ≤ 65536 ∧ Hid (Kept L w (y.setCell ⟨g, o + 1, none⟩ (.slice ad4 (nn - 1) cap4))) ∧ Hid (∀ k ∈ L2, k ∈ L ∨ w.heap.size ≤ k)) := Lib.hid (fun y ad4 cap4 ho hgr => by
        rw [Nat.zero_add, List.nil_append] at ho
        have hy := HAt.out (w1.alloc (.cells #[] 59)).drew y rfl hgr
        have hws := HKe.out.size
        have h1s := b1.size
        have hgl := HGl.out
        obtain ⟨hT, hL⟩ := gtab_put hb0 hy ho HDl.out.symm (by omega)
        refine ⟨rows'.dropLast, _, HDl.out.symm, Lib.hid hT, HFd, hds, Lib.hid ((((HKe.out.then b1).alloc _).drew.grown hgr (fun k hk => by simp only [Option.some.injEq] at hk; subst hk; exact .inr (by omega))).setCell (HN.out g HG.out) _), Lib.hid fun k hk => ?_⟩
        rcases hL k hk with rfl | h
        · exact HN.out _ HG.out
        · exact .inr (by omega))
      go_region_law ((refine Rw.step_append_rows EFd Tryd.underlying31 HI.out HZ0.out HZ1.out HZ2.out rfl rfl (.tmp 13) (.tmp 24) rfl w1.heap.size (.slice (some ⟨w1.heap.size, 0, none⟩) 0 0) 0 [] rfl rfl (HOw.out _ rfl) (some ⟨bl, off, none⟩) (nn - 1) rows'.dropLast cap' rfl HDl.out.symm (by intro h; cases h) (HRw.out _ rfl) HLe.out HBy.out (HBa.out _ rfl) ?_; intro ad4 cap4 w4 hown4 hg4; have hh4 := HAt.out _ w4 (by rfl) hg4.out; have c4 := (cell_at hh4 (o + 1)).trans (put2_1 hb0 _ _); have f4 := frozen_of_row _ _ (o + 1) _ _ hh4))
      all_goals
        have HF2 := Lib.hid (HFin.out w4 ad4 cap4 hown4.out hg4.out)
        clear HFin HAt HBy HLe HBa HRw HOw hown4 hg4
        go_wp2_with fail
        go_roundg (nn - 1)
        case measure => omega
        case rel => exact HF2.out
    · have hbig' : ¬ (m2 : Int) < csum rows' := by omega
      have hR : R = rows' := by rw [← HF.out, fit_all _ _ (by omega)]
      subst hR
      clear HF hg' hh' ha' hr' hk'
      go_wp2_with fail
      refine HS.out.mono ?_; rintro e w1 ⟨rfl, b1⟩
      have HT1 := Lib.hid (HT.out.below b1)
      have HK1 := Lib.hid (HKe.out.then b1)
      go_wp2_with fail
      go_end0
      exact ⟨rfl, L', HT1.out, HK1.out, HN.out⟩
end Go.Proofs.YtdkgachgohilcaaDoor

namespace Go.Proofs.YtdkgachgohilcaaDoor
open Go.RowKit
open Arg Tab Mem Go.Proofs.YtdkgachgohilcaaDoor.Obj
set_option linter.unusedVariables false

/-- No rows any more. -/
theorem gtab_nil {y : World} {g o m : Nat} {t : TypeId} {cs : Array Value} {v0 : Value} (hy : y.heap[g]? = some (.cells (put2 cs o (.int .i64 m) v0) t (0, 0))) :
    GTab (y.setCell ⟨g, o + 1, none⟩ (.slice none 0 0)) [g] g t cs o m [] := by
  have hset := heap_setCell_same y g (o + 1) _ _ (.slice none 0 0) hy
  rw [put2_set1] at hset
  have hgs := (Array.getElem?_eq_some_iff.1 hy).1
  refine ⟨none, 0, List.mem_cons_self .., hset, Nat.le_refl _, by unfold maxLen; omega, (fun _ => rfl), (fun b o s e => by cases e), .inl rfl, ?_⟩
  intro k hk
  simp only [List.mem_singleton] at hk
  subst hk
  simpa [World.setCell] using hgs

set_option maxHeartbeats 2000000 in
theorem gadd_great (t : TypeId) (cs : Array Value) (g o m : Nat) (rows : List FdM) (f : FdM) (L : List Nat) (w : World) (hb0 : o + 1 < cs.size) (h : GTab w L g t cs o m rows) (hm : m ≤ 65536) (hn : f.name.size ≤ 140737488351232) (hv : f.value.size ≤ 140737488351232) (hgr : m < cost f) :
    Calls Tryd.prog 38 #[.pointer (some ⟨g, o, none⟩), .agg #[.string f.name, .string f.value, .bool f.never]] w fun e w' => e = .returned (.tuple #[]) ∧ ∃ L', GTab w' L' g t cs o m (addT m rows f) ∧ Kept L w w' ∧ ∀ k ∈ L', k ∈ L ∨ w.heap.size ≤ k := by
  have hT : addT m rows f = [] := by rw [addT, if_pos hgr]
  rw [hT]
  have HCo := Lib.hid (fun v => cost_any f v hn hv)
  obtain ⟨ad, cap, hg, hh, hl, hmx, hz, ha, hr, hk⟩ := h
  have hgl := hk g hg
  have HG := Lib.hid hg
  have HH := Lib.hid hh
  have hgr' : (m : Int) < cost f := by omega
  obtain ⟨fn, fv, fb⟩ := f
  simp only at hn hv HCo hgr hgr' ⊢
  generalize cost ⟨fn, fv, fb⟩ = c at *
  clear hT hh hr ha hk hg
  go_enter Tryd.func38, Tryd.ntmps38
  go_wp2_with fail
  generalize hwb : w.alloc (.cells #[.string fn, .string fv, .bool fb] 59) = wb
  have hb : Below w.heap.size w wb := by rw [← hwb]; exact (Below.refl _ _).alloc (Nat.le_refl _) _
  have hbx : wb.heap[w.heap.size]? = some (.cells #[.string fn, .string fv, .bool fb] 59 (0, 0)) := by rw [← hwb]; exact heap_alloc_new w _
  have hhb := block_below hb HH.out
  have HB := Lib.hid hb
  generalize hbn : w.heap.size = bx at hbx ⊢
  have HBn := Lib.hid hbn
  have e0 : wb.cell? ⟨bx, 0, none⟩ = some (.string fn) := cell_at hbx 0
  have e1 : wb.cell? ⟨bx, 1, none⟩ = some (.string fv) := cell_at hbx 1
  have e2 : wb.cell? ⟨bx, 2, none⟩ = some (.bool fb) := cell_at hbx 2
  have c0 : wb.cell? ⟨g, o, none⟩ = some (.int .i64 m) := (cell_at hhb o).trans (put2_0 hb0 _ _)
  have HHb := Lib.hid hhb
  clear hwb hbn hb hbx hhb
  go_region_with ((go_at_call 39; refine (HCo.out _).mono ?_; rintro e w2 ⟨rfl, b2⟩; have c0' := below_cell b2 c0))
  all_goals
    have hh2 := block_below b2 HHb.out
    have f1 : w2.frozen? ⟨g, o + 1, none⟩ = false := frozen_of_row _ _ (o + 1) _ _ hh2
    have c1 := (cell_at hh2 (o + 1)).trans (put2_1 hb0 _ _)
    have HT2 := Lib.hid (gtab_nil hh2)
    have HK2 := Lib.hid (((((Kept.refl L w).then HB.out).drew.then b2).setCell (p := ⟨g, o + 1, none⟩) (.inl HG.out) (.slice none 0 0)))
    clear hh2
    go_wp2_with fail
    refine bodyPost_ret (results_none rfl _ _ _) rfl ?_
    exact ⟨rfl, [g], HT2.out, HK2.out, fun k hk => .inl (by simp only [List.mem_singleton] at hk; subst hk; exact HG.out)⟩


/-- What is at hand where the oldest row goes: 'append([]api.Field{}, t.Rows[:len(t.Rows)-1]...)'. -/
theorem gtab_cut {w1 : World} {L : List Nat} {g o m : Nat} {t : TypeId} {cs : Array Value} {rows : List FdM} (hb0 : o + 1 < cs.size) (h : GTab w1 L g t cs o m rows) (hpos : 0 < rows.length) (hs : rows.length ≤ 100000) :
    ∃ bl off cap, Hid (w1.heap[g]? = some (.cells (put2 cs o (.int .i64 m) (.slice (some ⟨bl, off, none⟩) rows.length cap)) t (0, 0))) ∧ rows.length ≤ cap ∧ cap ≤ maxLen ∧
      Hid (∀ x : World, x.heap = (w1.alloc (.cells #[] 59)).heap → x.ownsRow w1.heap.size 59 3 (.slice (some ⟨w1.heap.size, 0, none⟩) 0 0) 0 (Rw.flat EFd []) ∧ Rw.RowE EFd x (some ⟨bl, off, none⟩) rows.dropLast ∧ w1.heap.size ≤ x.heap.size) ∧
      Hid (rows.length - 1 = rows.dropLast.length ∧ 0 + (rows.length - 1) ≤ maxLen ∧ (0 + (rows.length - 1)) * 40 ≤ 140737488355328) ∧
      Hid (∀ x y : World, x.heap = (w1.alloc (.cells #[] 59)).heap → x.grownBy y (some w1.heap.size) → (∀ k, k < w1.heap.size → y.heap[k]? = w1.heap[k]?) ∧ y.heap[g]? = some (.cells (put2 cs o (.int .i64 m) (.slice (some ⟨bl, off, none⟩) rows.length cap)) t (0, 0))) ∧
      Hid (∀ (x y : World) (ad4 : Option Addr) (cap4 : Nat), x.heap = (w1.alloc (.cells #[] 59)).heap → x.grownBy y (some w1.heap.size) → y.ownsRow w1.heap.size 59 3 (.slice ad4 (0 + (rows.length - 1)) cap4) (0 + (rows.length - 1)) (Rw.flat EFd ([] ++ rows.dropLast)) →
        GTab (y.setCell ⟨g, o + 1, none⟩ (.slice ad4 (rows.length - 1) cap4)) (g :: adBlk ad4) g t cs o m rows.dropLast ∧ ∀ k ∈ g :: adBlk ad4, k = g ∨ w1.heap.size ≤ k) := by
  obtain ⟨ad, cap, hg, hh, hl, hm, hz, ha, hr, hk⟩ := h
  obtain ⟨bl, off, rfl, _⟩ : ∃ b off, ad = some ⟨b, off, none⟩ ∧ True := by
    rcases hr with h | ⟨b, off, h, _⟩
    · rw [h] at hpos; simp at hpos
    · exact ⟨b, off, h, trivial⟩
  have hbl := ha bl off none rfl
  have hdl : rows.dropLast.length = rows.length - 1 := List.length_dropLast
  have hold : ∀ x y : World, x.heap = (w1.alloc (.cells #[] 59)).heap → x.grownBy y (some w1.heap.size) → ∀ k, k < w1.heap.size → y.heap[k]? = w1.heap[k]? := fun x y hx hy k hk' => by
    rw [hy.block k (by rw [hx]; simp; omega) (by intro e; simp only [Option.some.injEq] at e; omega), hx]
    exact Below.heap_alloc _ _ _ hk'
  refine ⟨bl, off, cap, Lib.hid hh, hl, hm, Lib.hid (fun x hx => ⟨?_, ?_, ?_⟩), Lib.hid ⟨hdl.symm, by unfold maxLen; omega, by omega⟩, Lib.hid (fun x y hx hy => ⟨hold x y hx hy, (hold x y hx hy g (hk g hg)).trans hh⟩), Lib.hid (fun x y ad4 cap4 hx hy ho => ?_)⟩
  · have h := own_new w1 59 3
    unfold World.ownsRow at h ⊢
    rw [hx]; exact h
  · have hr' := Rw.RowE.take hr (rows.length - 1)
    rw [← List.dropLast_eq_take] at hr'
    refine hr'.block fun b o e => ?_
    simp only [Option.some.injEq, Addr.mk.injEq] at e
    obtain ⟨rfl, _⟩ := e
    rw [hx]
    exact Below.heap_alloc _ _ _ (hk bl hbl.1)
  · rw [hx]; simp
  · rw [Nat.zero_add, List.nil_append] at ho
    exact gtab_put hb0 ((hold x y hx hy g (hk g hg)).trans hh) ho hdl.symm (hk g hg)

set_option maxHeartbeats 4000000 in
theorem gadd_fits (t : TypeId) (cs : Array Value) (g o m : Nat) (rows : List FdM) (f : FdM) (L : List Nat) (w : World) (hb0 : o + 1 < cs.size) (h : GTab w L g t cs o m rows) (hs : csum rows ≤ 65536) (hm : m ≤ 65536) (hgr : cost f ≤ m) :
    Calls Tryd.prog 38 #[.pointer (some ⟨g, o, none⟩), .agg #[.string f.name, .string f.value, .bool f.never]] w fun e w' => e = .returned (.tuple #[]) ∧ ∃ L', GTab w' L' g t cs o m (addT m rows f) ∧ Kept L w w' ∧ ∀ k ∈ L', k ∈ L ∨ w.heap.size ≤ k := by
  obtain ⟨i0, hi, hz0, hz1, hz2⟩ := info_parts info_fd
  have HI := Lib.hid hi
  have HZ0 := Lib.hid hz0
  have HZ1 := Lib.hid hz1
  have HZ2 := Lib.hid hz2
  have hT : addT m rows f = ⟨f.name, f.value, false⟩ :: fit (m - cost f) rows := by rw [addT, if_neg (by omega)]
  rw [hT]
  have hcf : cost f = f.name.size + f.value.size + 32 := rfl
  have hn : f.name.size ≤ 140737488351232 := by omega
  have hv : f.value.size ≤ 140737488351232 := by omega
  have HCo := Lib.hid (fun v => cost_any f v hn hv)
  obtain ⟨fn, fv, fb⟩ := f
  simp only at hn hv HCo hgr ⊢
  generalize cost ⟨fn, fv, fb⟩ = c at *
  have hgr' : (c : Int) ≤ m := by omega
  obtain ⟨d, hd⟩ : ∃ d, d = m - c := ⟨_, rfl⟩
  have hdm : c + d = m := by omega
  have HDm := Lib.hid hdm
  rw [← hd]
  have HT0 := Lib.hid h
  have hkb := h.blocks
  have hgl : g ∈ L := by obtain ⟨ad, cap, hg, _⟩ := h; exact hg
  have HGl := Lib.hid (hkb g hgl)
  have hgne : Hid (g ≠ w.heap.size) := Lib.hid (by have := hkb g hgl; omega)
  have HG0 := Lib.hid hgl
  clear hi hz0 hz1 hz2 hT hcf hd hdm h hkb hgl
  generalize hF : fit d rows = R
  have HF := Lib.hid hF
  clear hF
  go_enter Tryd.func38, Tryd.ntmps38
  go_wp2_with fail
  generalize hwb : w.alloc (.cells #[.string fn, .string fv, .bool fb] 59) = wb
  have hb : Below w.heap.size w wb := by rw [← hwb]; exact (Below.refl _ _).alloc (Nat.le_refl _) _
  have hbx : wb.heap[w.heap.size]? = some (.cells #[.string fn, .string fv, .bool fb] 59 (0, 0)) := by rw [← hwb]; exact heap_alloc_new w _
  have HT := Lib.hid (HT0.out.below hb)
  have hK0 : Kept L w wb := (Kept.refl L w).then hb
  have hws := hb.size
  generalize hbn : w.heap.size = bx at hbx hgne ⊢
  have HBn := Lib.hid hbn
  obtain ⟨ad, cap, hg, hh, hl, hmx, hz, ha, hr, hk⟩ := HT.out
  have e0 : wb.cell? ⟨bx, 0, none⟩ = some (.string fn) := cell_at hbx 0
  have e1 : wb.cell? ⟨bx, 1, none⟩ = some (.string fv) := cell_at hbx 1
  have e2 : wb.cell? ⟨bx, 2, none⟩ = some (.bool fb) := cell_at hbx 2
  have c0 : wb.cell? ⟨g, o, none⟩ = some (.int .i64 m) := (cell_at hh o).trans (put2_0 hb0 _ _)
  have HK0 := Lib.hid hK0
  have HBx := Lib.hid hbx
  clear hwb hbn hb hbx hh hr ha hk hg hK0 HT0
  have hnot : decide (m < c) = false := by simp; omega
  go_region_held3 (fun w' => w'.cell? ⟨bx, 0, none⟩ = some (.string fn) ∧ w'.cell? ⟨bx, 1, none⟩ = some (.string fv) ∧ w'.cell? ⟨bx, 2, none⟩ = some (.bool fb) ∧ w'.cell? ⟨g, o, none⟩ = some (.int .i64 m))
    (first | go_keep | exact ⟨below_cell b2 e0, below_cell b2 e1, below_cell b2 e2, below_cell b2 c0⟩)
    ((go_at_call 39; refine (HCo.out _).mono ?_; rintro e w2 ⟨rfl, b2⟩))
  have HT2 := Lib.hid (GTab.below (w := wb.drew) HT.out b2)
  have HK2 := Lib.hid (HK0.out.drew.then b2)
  have HBx2 := Lib.hid (block_below (w := wb.drew) b2 HBx.out)
  clear b2 c0 e0 e1 e2 HT HK0 HBx
  go_wp2_with fail
  go_loopg [] rows.length (fun k wr => ∃ (rows' : List FdM) (L' : List Nat), k = rows'.length ∧ Hid (GTab wr L' g t cs o m rows') ∧ Hid (fit d rows' = R) ∧ csum rows' ≤ 65536 ∧ Hid (Kept L w wr) ∧ Hid (∀ k ∈ L', k ∈ L ∨ w.heap.size ≤ k) ∧ Hid (wr.heap[bx]? = some (.cells #[.string fn, .string fv, .bool fb] 59 (0, 0))))
  case atStart => exact ⟨rows, L, rfl, HT2, HF, hs, HK2, Lib.hid (fun k hk => .inl hk), HBx2⟩
  case round =>
    clear HT2 HF HK2 HBx2
    obtain ⟨rows', L', rfl, HT, HF, hs', HKe, HN, HBx⟩ := hrel
    have h32 := csum_len rows'
    obtain ⟨ad', cap', hg', hh', hl', hm', hz', ha', hr', hk'⟩ := HT.out
    have HS : Hid (∀ v, Below wr.heap.size wr v → Calls Tryd.prog 56 #[.pointer (some ⟨g, o, none⟩)] v fun e w' => e = .returned (.int .i64 (csum rows')) ∧ Below v.heap.size v w') := Lib.hid (fun v hv =>
      rsizeG_at g o rows'.length cap' ad' rows' m v rfl ((cell_at (block_below hv hh') o).trans (put2_0 hb0 _ _)) ((cell_at (block_below hv hh') (o + 1)).trans (put2_1 hb0 _ _)) hl' hm' (hr'.below hv) (by omega))
    have e0 : wr.cell? ⟨bx, 0, none⟩ = some (.string fn) := cell_at HBx.out 0
    have e1 : wr.cell? ⟨bx, 1, none⟩ = some (.string fv) := cell_at HBx.out 1
    have e2 : wr.cell? ⟨bx, 2, none⟩ = some (.bool fb) := cell_at HBx.out 2
    have c0 : wr.cell? ⟨g, o, none⟩ = some (.int .i64 m) := (cell_at hh' o).trans (put2_0 hb0 _ _)
    have hsum : IntKind.i64.wrap ((csum rows' : Int) + c) = (csum rows' : Int) + c := IntWalk.i64_in _ (by omega)
    clear hg' hh' ha' hr' hk'
    by_cases hbig : d < csum rows'
    · have hdec : decide ((m : Int) < (csum rows' : Int) + c) = true := by have := HDm.out; simp; omega
      have hpos : 0 < rows'.length := by
        rcases Nat.eq_zero_or_pos rows'.length with h0 | h0
        · rw [List.eq_nil_iff_length_eq_zero.mpr h0] at hbig; simp [csum] at hbig
        · exact h0
      go_wp2_with fail
      go_region_held3 (fun w' => w'.cell? ⟨bx, 0, none⟩ = some (.string fn) ∧ w'.cell? ⟨bx, 1, none⟩ = some (.string fv) ∧ w'.cell? ⟨bx, 2, none⟩ = some (.bool fb) ∧ w'.cell? ⟨g, o, none⟩ = some (.int .i64 m))
        (first | go_keep | exact ⟨below_cell b2 e0, below_cell b2 e1, below_cell b2 e2, below_cell b2 c0⟩ | exact ⟨below_cell b3 (below_cell b2 e0), below_cell b3 (below_cell b2 e1), below_cell b3 (below_cell b2 e2), below_cell b3 (below_cell b2 c0)⟩)
        ((first | (go_at_call 39; refine (HCo.out _).mono ?_; rintro e w3 ⟨rfl, b3⟩) | (go_at_call 56; refine (HS.out _ (Below.refl _ _).drew).mono ?_; rintro e w2 ⟨rfl, b2⟩)))
      have hb3 : Below wr.heap.size wr w3 := below_step (((Below.refl _ wr).drew).trans b2) b3
      have HT3 := Lib.hid (HT.out.below hb3)
      have HK3 := Lib.hid (HKe.out.then hb3)
      have HBx3 := Lib.hid (block_below hb3 HBx.out)
      have HS3 := Lib.hid (Nat.le_trans HKe.out.size hb3.size)
      clear hb3 b2 b3 HT HKe HBx e0 e1 e2 c0 HS
      try clear hHeld
      go_wp2_with fail
      obtain ⟨bl, off, cap3, HH, hc1, hc2, HA, HB, HC, HD⟩ := gtab_cut hb0 HT3.out hpos (by omega)
      have hds : csum rows'.dropLast ≤ 65536 := Nat.le_trans (csum_dropLast rows') hs'
      have HFd : Hid (fit d rows'.dropLast = R) := Lib.hid (by rw [← fit_drop rows' d hbig]; exact HF.out)
      have hgl3 := HT3.out.blocks
      have HFin : Hid (∀ (y : World) (ad4 : Option Addr) (cap4 : Nat), y.ownsRow w3.heap.size 59 3 (.slice ad4 (0 + (rows'.length - 1)) cap4) (0 + (rows'.length - 1)) (Rw.flat EFd ([] ++ rows'.dropLast)) → (w3.alloc (.cells #[] 59)).drew.grownBy y (some w3.heap.size) →
          ∃ (rows2 : List FdM) (L2 : List Nat), rows'.length - 1 = rows2.length ∧ Hid (GTab (y.setCell ⟨g, o + 1, none⟩ (.slice ad4 (rows'.length - 1) cap4)) L2 g t cs o m rows2) ∧ Hid (fit d rows2 = R) ∧ csum rows2 ≤ 65536 ∧ Hid (Kept L w (y.setCell ⟨g, o + 1, none⟩ (.slice ad4 (rows'.length - 1) cap4))) ∧ Hid (∀ k ∈ L2, k ∈ L ∨ w.heap.size ≤ k) ∧
          Hid ((y.setCell ⟨g, o + 1, none⟩ (.slice ad4 (rows'.length - 1) cap4)).heap[bx]? = some (.cells #[.string fn, .string fv, .bool fb] 59 (0, 0)))) := Lib.hid (fun y ad4 cap4 ho hgr => by
        obtain ⟨hT, hL⟩ := HD.out (w3.alloc (.cells #[] 59)).drew y ad4 cap4 rfl hgr ho
        have hws := HS3.out
        have hkeep := (HC.out (w3.alloc (.cells #[] 59)).drew y rfl hgr).1
        refine ⟨rows'.dropLast, _, HB.out.1, Lib.hid hT, HFd, hds, Lib.hid (((HK3.out.alloc _).drew.grown hgr (fun k hk => by simp only [Option.some.injEq] at hk; subst hk; exact .inr hws)).setCell (.inl HG0.out) _), Lib.hid (fun k hk => ?_), Lib.hid ?_⟩
        · rcases hL k hk with rfl | h
          · exact .inl HG0.out
          · exact .inr (by omega)
        · rw [Below.heap_setCell _ _ _ _ (show bx ≠ g from fun e => hgne.out e.symm), hkeep bx (Array.getElem?_eq_some_iff.1 HBx3.out).1]
          exact HBx3.out)
      have hh1 := HH.out
      have c1 : w3.cell? ⟨g, o + 1, none⟩ = some (.slice (some ⟨bl, off, none⟩) rows'.length cap3) := (cell_at hh1 (o + 1)).trans (put2_1 hb0 _ _)
      have c1a : (w3.alloc (.cells #[] 59)).cell? ⟨g, o + 1, none⟩ = some (.slice (some ⟨bl, off, none⟩) rows'.length cap3) := (cell_at (alloc_at hh1) (o + 1)).trans (put2_1 hb0 _ _)
      clear hh1 hgl3 HT3 HK3 HBx3 HF
      generalize hnn : rows'.length = nn at *
      have HNn := Lib.hid hnn
      have hm2' : (nn : Int) - 1 ≤ cap3 := by omega
      have hn2 : (0 : Int) ≤ (nn : Int) - 1 := by omega
      have hn4 : (1 : Int) ≤ nn := by omega
      have hn1 : IntKind.i64.wrap ((nn : Int) - 1) = (nn : Int) - 1 := IntWalk.i64_in _ (by omega)
      have hn3 : ((nn : Int) - 1).toNat = nn - 1 := by omega
      clear hnn
      go_region_law ((refine Rw.step_append_rows EFd Tryd.underlying31 HI.out HZ0.out HZ1.out HZ2.out rfl rfl (.tmp 25) (.tmp 36) rfl w3.heap.size (.slice (some ⟨w3.heap.size, 0, none⟩) 0 0) 0 [] rfl rfl (HA.out _ rfl).1 (some ⟨bl, off, none⟩) (nn - 1) rows'.dropLast cap3 rfl HB.out.1 (by intro h; cases h) (HA.out _ rfl).2.1 HB.out.2.1 HB.out.2.2 (HA.out _ rfl).2.2 ?_; intro ad4 cap4 w4 hown4 hg4; have hh4 := (HC.out _ w4 (by rfl) hg4.out).2; have c4 := (cell_at hh4 (o + 1)).trans (put2_1 hb0 _ _); have f4 := frozen_of_row _ _ (o + 1) _ _ hh4))
      all_goals
        have HF2 := Lib.hid (HFin.out w4 ad4 cap4 hown4.out hg4.out)
        clear HFin HA HB HC HD hown4 hg4
        go_wp2_with fail
        go_roundg (nn - 1)
        case measure => omega
        case rel => exact HF2.out
    · have hdec : decide ((m : Int) < (csum rows' : Int) + c) = false := by have := HDm.out; simp; omega
      go_wp2_with fail
      go_region_held3 (fun w' => w'.cell? ⟨bx, 0, none⟩ = some (.string fn) ∧ w'.cell? ⟨bx, 1, none⟩ = some (.string fv) ∧ w'.cell? ⟨bx, 2, none⟩ = some (.bool fb) ∧ w'.cell? ⟨g, o, none⟩ = some (.int .i64 m))
        (first | go_keep | exact ⟨below_cell b2 e0, below_cell b2 e1, below_cell b2 e2, below_cell b2 c0⟩ | exact ⟨below_cell b3 (below_cell b2 e0), below_cell b3 (below_cell b2 e1), below_cell b3 (below_cell b2 e2), below_cell b3 (below_cell b2 c0)⟩)
        ((first | (go_at_call 39; refine (HCo.out _).mono ?_; rintro e w3 ⟨rfl, b3⟩) | (go_at_call 56; refine (HS.out _ (Below.refl _ _).drew).mono ?_; rintro e w2 ⟨rfl, b2⟩)))
      have hb3 : Below wr.heap.size wr w3 := below_step (((Below.refl _ wr).drew).trans b2) b3
      have HT3 := Lib.hid (HT.out.below hb3)
      have HK3 := Lib.hid (HKe.out.then hb3)
      have HBx3 := Lib.hid (block_below hb3 HBx.out)
      have HS3 := Lib.hid (Nat.le_trans HKe.out.size hb3.size)
      clear hb3 b2 b3 HT HKe HBx e0 e1 e2 c0 HS
      try clear hHeld
      go_wp2_with fail
      have hR : R = rows' := by rw [← HF.out, fit_all _ _ (by omega)]
      subst hR
      clear HF
      obtain ⟨ad3, cap3, hg3, hh3, hl3, hm3, hz3, ha3, hr3, hk3⟩ := HT3.out
      have e0 : w3.cell? ⟨bx, 0, none⟩ = some (.string fn) := cell_at HBx3.out 0
      have e1 : w3.cell? ⟨bx, 1, none⟩ = some (.string fv) := cell_at HBx3.out 1
      have c1 : w3.cell? ⟨g, o + 1, none⟩ = some (.slice ad3 R.length cap3) := (cell_at hh3 (o + 1)).trans (put2_1 hb0 _ _)
      have c1a : (w3.alloc (.cells #[.string fn, .string fv, .bool false] 59)).cell? ⟨g, o + 1, none⟩ = some (.slice ad3 R.length cap3) := (cell_at (alloc_at hh3) (o + 1)).trans (put2_1 hb0 _ _)
      have hkeep : ∀ x y : World, x.heap = (w3.alloc (.cells #[.string fn, .string fv, .bool false] 59)).heap → x.grownBy y (some w3.heap.size) → ∀ k, k < w3.heap.size → y.heap[k]? = w3.heap[k]? := fun x y hx hy k hk' => by
        rw [hy.block k (by rw [hx]; simp; omega) (by intro e; simp only [Option.some.injEq] at e; omega), hx]
        exact Below.heap_alloc _ _ _ hk'
      have HA : Hid (∀ x : World, x.heap = (w3.alloc (.cells #[.string fn, .string fv, .bool false] 59)).heap → x.ownsRow w3.heap.size 59 3 (.slice (some ⟨w3.heap.size, 0, none⟩) 1 1) 1 (Rw.flat EFd [⟨fn, fv, false⟩]) ∧ Rw.RowE EFd x ad3 R ∧ w3.heap.size ≤ x.heap.size) := Lib.hid (fun x hx => by
        refine ⟨?_, hr3.block fun b o e => ?_, by rw [hx]; simp⟩
        · have h := World.ownsRow_lit (base := w3.heap.size) (e := 59) (size := 3) w3 #[.string fn, .string fv, .bool false] 1 (Nat.le_refl _) (by unfold maxLen; omega) rfl
          unfold World.ownsRow at h ⊢
          rw [hx]; exact h
        · rw [hx]; exact Below.heap_alloc _ _ _ (hk3 b (ha3 b o none e).1))
      have HB : Hid (1 + R.length ≤ maxLen ∧ (1 + R.length) * 40 ≤ 140737488355328 ∧ (ad3 = none → cap3 = 0 ∧ R.length = 0)) := Lib.hid ⟨by unfold maxLen; omega, by omega, fun h => ⟨hz3 h, by have := hz3 h; omega⟩⟩
      have HC : Hid (∀ x y : World, x.heap = (w3.alloc (.cells #[.string fn, .string fv, .bool false] 59)).heap → x.grownBy y (some w3.heap.size) → y.heap[g]? = some (.cells (put2 cs o (.int .i64 m) (.slice ad3 R.length cap3)) t (0, 0))) := Lib.hid (fun x y hx hy => (hkeep x y hx hy g (hk3 g hg3)).trans hh3)
      have HFin : Hid (∀ (y : World) (ad4 : Option Addr) (cap4 : Nat), y.ownsRow w3.heap.size 59 3 (.slice ad4 (1 + R.length) cap4) (1 + R.length) (Rw.flat EFd ([⟨fn, fv, false⟩] ++ R)) → (w3.alloc (.cells #[.string fn, .string fv, .bool false] 59)).drew.grownBy y (some w3.heap.size) →
          ∃ L2 : List Nat, GTab (y.setCell ⟨g, o + 1, none⟩ (.slice ad4 (1 + R.length) cap4)) L2 g t cs o m (⟨fn, fv, false⟩ :: R) ∧ Kept L w (y.setCell ⟨g, o + 1, none⟩ (.slice ad4 (1 + R.length) cap4)) ∧ ∀ k ∈ L2, k ∈ L ∨ w.heap.size ≤ k) := Lib.hid (fun y ad4 cap4 ho hgr => by
        obtain ⟨hT, hL⟩ := gtab_put hb0 (HC.out (w3.alloc (.cells #[.string fn, .string fv, .bool false] 59)).drew y rfl hgr) ho (by simp; omega) (hk3 g hg3)
        have hws := HS3.out
        refine ⟨_, hT, ((HK3.out.alloc _).drew.grown hgr (fun k hk => by simp only [Option.some.injEq] at hk; subst hk; exact .inr hws)).setCell (.inl HG0.out) _, fun k hk => ?_⟩
        rcases hL k hk with rfl | h
        · exact .inl HG0.out
        · exact .inr (by omega))
      clear hh3 hr3 ha3 hk3 hg3 hkeep HT3 HK3 HBx3 hz3
      go_region_law ((refine Rw.step_append_rows EFd Tryd.underlying31 HI.out HZ0.out HZ1.out HZ2.out rfl rfl (.tmp 46) (.tmp 50) rfl w3.heap.size (.slice (some ⟨w3.heap.size, 0, none⟩) 1 1) 1 [⟨fn, fv, false⟩] rfl rfl (HA.out _ rfl).1 ad3 R.length R cap3 rfl rfl HB.out.2.2 (HA.out _ rfl).2.1 HB.out.1 HB.out.2.1 (HA.out _ rfl).2.2 ?_; intro ad4 cap4 w4 hown4 hg4; have hh4 := HC.out _ w4 (by rfl) hg4.out; have c4 := (cell_at hh4 (o + 1)).trans (put2_1 hb0 _ _); have f4 := frozen_of_row _ _ (o + 1) _ _ hh4))
      all_goals
        have HF2 := Lib.hid (HFin.out w4 ad4 cap4 hown4.out hg4.out)
        clear HFin HA HB HC hown4 hg4
        go_wp2_with fail
        go_end0
        exact ⟨rfl, HF2.out⟩
end Go.Proofs.YtdkgachgohilcaaDoor
