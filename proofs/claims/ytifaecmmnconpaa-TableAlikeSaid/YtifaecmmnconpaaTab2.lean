/- Layer 4: the document's Resize and Add. -/
import Derived.Test.YtifaecmmnconpaaRows
import Derived.Test.YtifaecmmnconpaaTabPure
import Derived.Test.YtifaecmmnconpaaObj
import Derived.Test.YtifaecmmnconpaaRowE
import Derived.Test.YtifaecmmnconpaaTab1
import Derived.WalkKit
import Derived.WalkSpells
import Derived.WalkLawsBesides
import Derived.Lib.Hide
import Derived.Outline
import Derived.RegionTactic
import Derived.IntWalk
import Derived.Deep.RegionLaw
import Derived.Deep.LoopGhost
namespace Go.Proofs.Ytifaecmmnconpaa
open Go.RowKit
open Arg Tab Mem Go.Proofs.Ytifaecmmnconpaa.Obj
set_option linter.unusedVariables false

theorem info_fd : (Try.prog.info? 36).map (fun i => (i.zero, i.size, i.bytes)) = some (some (.agg #[.string ByteArray.empty, .string ByteArray.empty, .bool false]), 3, 40) := by kernel_rfl

/-- The block of a row. -/
def adBlk : Option Addr → List Nat
  | none => []
  | some a => [a.block]
/-- New rows are put into the table. -/
theorem rtab_put {y : World} {g m base n cap : Nat} {ad : Option Addr} {v0 : Value} {rows : List FdM} (hy : y.heap[g]? = some (.cells #[.int .i64 m, v0] 32 (0, 0)))
    (ho : y.ownsRow base 36 3 (.slice ad n cap) n (Rw.flat EFd rows)) (hn : n = rows.length) (hg : g < base) :
    RTab (y.setCell ⟨g, 1, none⟩ (.slice ad n cap)) (g :: adBlk ad) g m rows ∧ ∀ k ∈ g :: adBlk ad, k = g ∨ base ≤ k := by
  subst hn
  obtain ⟨_, h1, h2, h3⟩ := Rw.own_len ho
  have hb := Rw.own_blk ho
  have hset := heap_setCell_same y g 1 _ _ (.slice ad rows.length cap) hy
  have hgs := (Array.getElem?_eq_some_iff.1 hy).1
  have hsz : (y.setCell ⟨g, 1, none⟩ (.slice ad rows.length cap)).heap.size = y.heap.size := by simp [World.setCell]
  refine ⟨⟨ad, cap, List.mem_cons_self .., hset, h1, h2, h3, ?_, ?_, ?_⟩, ?_⟩
  · intro b o s e
    have := hb b o s e
    refine ⟨?_, by omega⟩
    subst e
    simp [adBlk]
  · refine (Rw.RowE.of_own ho).block fun b o e => Below.heap_setCell _ _ _ _ ?_
    have := hb b o none e
    show b ≠ g
    omega
  · intro k hk
    rw [hsz]
    rcases List.mem_cons.mp hk with rfl | hk
    · exact hgs
    · cases ad with
      | none => cases hk
      | some a =>
        simp only [adBlk, List.mem_singleton] at hk
        subst hk
        exact (hb a.block a.off a.spot rfl).2
  · intro k hk
    rcases List.mem_cons.mp hk with rfl | hk
    · exact .inl rfl
    · cases ad with
      | none => cases hk
      | some a =>
        simp only [adBlk, List.mem_singleton] at hk
        subst hk
        exact .inr (hb a.block a.off a.spot rfl).1

set_option maxHeartbeats 2000000 in
theorem rresize_any (g m m2 : Nat) (rows : List FdM) (L : List Nat) (w : World) (h : RTab w L g m rows) (hs : csum rows ≤ 65536) (hm2 : m2 ≤ 65536) :
    Calls Try.prog 25 #[.pointer (some ⟨g, 0, none⟩), .int .i64 m2] w fun e w' => e = .returned (.tuple #[]) ∧ ∃ L', RTab w' L' g m2 (fit m2 rows) ∧ Kept L w w' ∧ ∀ k ∈ L', k ∈ L ∨ w.heap.size ≤ k := by
  obtain ⟨i0, hi, hz0, hz1, hz2⟩ := info_parts info_fd
  have HI := Lib.hid hi
  have HZ0 := Lib.hid hz0
  have HZ1 := Lib.hid hz1
  have HZ2 := Lib.hid hz2
  obtain ⟨ad, cap, hg, hh, hl, hm, hz, ha, hr, hk⟩ := h
  have c0 := cell_at hh 0
  have f0 : w.frozen? ⟨g, 0, none⟩ = false := by simp [World.frozen?, hh]
  have HH := Lib.hid hh
  have HR := Lib.hid hr
  have HA := Lib.hid ha
  have HK := Lib.hid hk
  have HG := Lib.hid hg
  clear hi hz0 hz1 hz2 hh hr ha hk hg
  generalize hF : fit m2 rows = R
  have HF := Lib.hid hF
  clear hF
  go_enter Try.func25, Try.ntmps25
  go_wp2_with fail
  have hset := heap_setCell_same w g 0 _ _ (.int .i64 m2) HH.out
  have HW : Hid (RTab (w.setCell ⟨g, 0, none⟩ (.int .i64 m2)) L g m2 rows) := Lib.hid ⟨ad, cap, HG.out, hset, hl, hm, hz, HA.out, HR.out.block (fun b o e => Below.heap_setCell _ _ _ _ (HA.out b o none e).2), fun k hk => by
    have := HK.out k hk
    simpa [World.setCell] using this⟩
  have HKe : Hid (Kept L w (w.setCell ⟨g, 0, none⟩ (.int .i64 m2))) := Lib.hid ((Kept.refl L w).setCell (.inl HG.out) _)
  clear hset HH HR HA HK HG c0 f0
  go_loopg [] rows.length (fun k wr => ∃ (rows' : List FdM) (L' : List Nat), k = rows'.length ∧ Hid (RTab wr L' g m2 rows') ∧ Hid (fit m2 rows' = R) ∧ csum rows' ≤ 65536 ∧ Hid (Kept L w wr) ∧ Hid (∀ k ∈ L', k ∈ L ∨ w.heap.size ≤ k))
  case atStart => exact ⟨rows, L, rfl, HW, HF, hs, HKe, Lib.hid (fun k hk => .inl hk)⟩
  case round =>
    clear HW HF HKe
    obtain ⟨rows', L', rfl, HT, HF, hs', HKe, HN⟩ := hrel
    obtain ⟨ad', cap', hg', hh', hl', hm', hz', ha', hr', hk'⟩ := HT.out
    have HS := Lib.hid (rsize_at g rows'.length cap' ad' rows' m2 wr rfl (cell_at hh' 0) (cell_at hh' 1) hl' hm' hr' (by omega))
    have h32 := csum_len rows'
    by_cases hbig : m2 < csum rows'
    · have hbig' : (m2 : Int) < csum rows' := by omega
      have hpos : 0 < rows'.length := by
        rcases Nat.eq_zero_or_pos rows'.length with h0 | h0
        · rw [List.eq_nil_iff_length_eq_zero.mpr h0] at hbig; simp [csum] at hbig
        · exact h0
      have HFd : Hid (fit m2 rows'.dropLast = R) := Lib.hid (by rw [← fit_drop rows' m2 hbig]; exact HF.out)
      have hdl : rows'.dropLast.length = rows'.length - 1 := List.length_dropLast
      have HDl := Lib.hid hdl
      have hds : csum rows'.dropLast ≤ 65536 := Nat.le_trans (csum_dropLast rows') hs'
      obtain ⟨bl, off, rfl⟩ : ∃ b off, ad' = some ⟨b, off, none⟩ := by
        rcases hr' with h | ⟨b, off, h, _⟩
        · rw [h] at hpos; simp at hpos
        · exact ⟨b, off, h⟩
      have HH := Lib.hid hh'
      have HR := Lib.hid (hr'.take (rows'.length - 1))
      rw [← List.dropLast_eq_take] at HR
      have HA : Hid (∀ b o s, some (⟨bl, off, none⟩ : Addr) = some ⟨b, o, s⟩ → b ∈ L' ∧ b ≠ g) := Lib.hid ha'
      have HG := Lib.hid hg'
      have HK := Lib.hid hk'
      have hgl := hk' g hg'
      have HGl := Lib.hid hgl
      clear hdl hh' hr' ha' hg' hk' hgl HF
      generalize hnn : rows'.length = nn at *
      generalize hcc : csum rows' = cc at *
      have HNn := Lib.hid hnn
      clear hnn hcc
      go_wp2_with fail
      refine HS.out.mono ?_; rintro e w1 ⟨rfl, b1⟩
      have hh1 := block_below b1 HH.out
      have c1 : w1.cell? ⟨g, 1, none⟩ = some (.slice (some ⟨bl, off, none⟩) nn cap') := cell_at hh1 1
      have c1a : (w1.alloc (.cells #[] 36)).cell? ⟨g, 1, none⟩ = some (.slice (some ⟨bl, off, none⟩) nn cap') := cell_at (alloc_at hh1) 1
      have hm2' : (nn : Int) - 1 ≤ cap' := by omega
      go_wp2_with fail
      have hn1 : IntKind.i64.wrap ((nn : Int) - 1) = (nn : Int) - 1 := IntWalk.i64_in _ (by omega)
      have hn2 : (0 : Int) ≤ (nn : Int) - 1 := by omega
      have hn4 : (1 : Int) ≤ nn := by omega
      have hn3 : ((nn : Int) - 1).toNat = nn - 1 := by omega
      have HOw : Hid (∀ x : World, x.heap = (w1.alloc (.cells #[] 36)).heap → x.ownsRow w1.heap.size 36 3 (.slice (some ⟨w1.heap.size, 0, none⟩) 0 0) 0 (Rw.flat EFd [])) := Lib.hid (fun x hx => by
        have h := own_new w1 36 3
        unfold World.ownsRow at h ⊢
        rw [hx]; exact h)
      have HRw : Hid (∀ x : World, x.heap = (w1.alloc (.cells #[] 36)).heap → Rw.RowE EFd x (some ⟨bl, off, none⟩) rows'.dropLast) := Lib.hid (fun x hx => (HR.out.below b1).block (fun b o e => by
        simp only [Option.some.injEq, Addr.mk.injEq] at e
        obtain ⟨rfl, _⟩ := e
        rw [hx]
        exact Below.heap_alloc _ _ _ (by have := HK.out bl (HA.out bl off none rfl).1; have := b1.size; omega)))
      have HBa : Hid (∀ x : World, x.heap = (w1.alloc (.cells #[] 36)).heap → w1.heap.size ≤ x.heap.size) := Lib.hid (fun x hx => by rw [hx]; simp)
      have HLe : Hid (0 + (nn - 1) ≤ maxLen) := Lib.hid (by unfold maxLen; omega)
      have HBy : Hid ((0 + (nn - 1)) * 40 ≤ 140737488355328) := Lib.hid (by omega)
      have HAt : Hid (∀ x y : World, x.heap = (w1.alloc (.cells #[] 36)).heap → x.grownBy y (some w1.heap.size) → y.heap[g]? = some (.cells #[.int .i64 m2, .slice (some ⟨bl, off, none⟩) nn cap'] 32 (0, 0))) := Lib.hid (fun x y hx hy =>
        grown_at hy (by rw [hx]; exact alloc_at hh1) (by have h1 := b1.size; have h2 := HGl.out; intro e; simp only [Option.some.injEq] at e; omega))
      have HFin : Hid (∀ (y : World) (ad4 : Option Addr) (cap4 : Nat), y.ownsRow w1.heap.size 36 3 (.slice ad4 (0 + (nn - 1)) cap4) (0 + (nn - 1)) (Rw.flat EFd ([] ++ rows'.dropLast)) → (w1.alloc (.cells #[] 36)).drew.grownBy y (some w1.heap.size) →
          ∃ (rows2 : List FdM) (L2 : List Nat), nn - 1 = rows2.length ∧ Hid (RTab (y.setCell ⟨g, 1, none⟩ (.slice ad4 (nn - 1) cap4)) L2 g m2 rows2) ∧ Hid (fit m2 rows2 = R) ∧ csum rows2 ≤ 65536 ∧ Hid (Kept L w (y.setCell ⟨g, 1, none⟩ (.slice ad4 (nn - 1) cap4))) ∧ Hid (∀ k ∈ L2, k ∈ L ∨ w.heap.size ≤ k)) := Lib.hid (fun y ad4 cap4 ho hgr => by
        rw [Nat.zero_add, List.nil_append] at ho
        have hy := HAt.out (w1.alloc (.cells #[] 36)).drew y rfl hgr
        have hws := HKe.out.size
        have h1s := b1.size
        have hgl := HGl.out
        obtain ⟨hT, hL⟩ := rtab_put hy ho HDl.out.symm (by omega)
        refine ⟨rows'.dropLast, _, HDl.out.symm, Lib.hid hT, HFd, hds, Lib.hid ((((HKe.out.then b1).alloc _).drew.grown hgr (fun k hk => by simp only [Option.some.injEq] at hk; subst hk; exact .inr (by omega))).setCell (HN.out g HG.out) _), Lib.hid fun k hk => ?_⟩
        rcases hL k hk with rfl | h
        · exact HN.out _ HG.out
        · exact .inr (by omega))
      go_region_law ((refine Rw.step_append_rows EFd Try.underlying30 HI.out HZ0.out HZ1.out HZ2.out rfl rfl (.tmp 13) (.tmp 24) rfl w1.heap.size (.slice (some ⟨w1.heap.size, 0, none⟩) 0 0) 0 [] rfl rfl (HOw.out _ rfl) (some ⟨bl, off, none⟩) (nn - 1) rows'.dropLast cap' rfl HDl.out.symm (by intro h; cases h) (HRw.out _ rfl) HLe.out HBy.out (HBa.out _ rfl) ?_; intro ad4 cap4 w4 hown4 hg4; have hh4 := HAt.out _ w4 (by rfl) hg4.out; have c4 := cell_at hh4 1; have f4 := frozen_of_row _ _ 1 _ _ hh4))
      all_goals
        have HF2 := Lib.hid (HFin.out w4 ad4 cap4 hown4.out hg4.out)
        clear HFin HAt HBy HLe HBa HRw HOw hown4 hg4
        go_wp2_with fail
        go_roundg (nn - 1)
        case measure => omega
        case rel => exact HF2.out
    · have hbig' : ¬ (m2 : Int) < csum rows' := by omega
      have hR : R = rows' := by rw [← HF.out, fit_all _ _ (by omega)]
      subst hR
      clear HF hg' hh' ha' hr' hk'
      go_wp2_with fail
      refine HS.out.mono ?_; rintro e w1 ⟨rfl, b1⟩
      have HT1 := Lib.hid (HT.out.below b1)
      have HK1 := Lib.hid (HKe.out.then b1)
      go_wp2_with fail
      go_end0
      exact ⟨rfl, L', HT1.out, HK1.out, HN.out⟩
end Go.Proofs.Ytifaecmmnconpaa
