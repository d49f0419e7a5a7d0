/- Layer 4: the document's Add. -/
import Derived.Test.YtifaecmmnconpaaRows
import Derived.Test.YtifaecmmnconpaaTabPure
import Derived.Test.YtifaecmmnconpaaObj
import Derived.Test.YtifaecmmnconpaaRowE
import Derived.Test.YtifaecmmnconpaaTab1
import Derived.Test.YtifaecmmnconpaaTab2
import Derived.WalkKit
import Derived.WalkSpells
import Derived.WalkLawsBesides
import Derived.Lib.Hide
import Derived.Outline
import Derived.RegionTactic
import Derived.IntWalk
import Derived.Deep.RegionLaw
import Derived.Deep.RegionWith
import Derived.Deep.LoopGhost
import Derived.Deep.RegionHeld3
namespace Go.Proofs.Ytifaecmmnconpaa
open Go.RowKit
open Arg Tab Mem Go.Proofs.Ytifaecmmnconpaa.Obj
set_option linter.unusedVariables false

/-- No rows any more. -/
theorem rtab_nil {y : World} {g m : Nat} {v0 : Value} (hy : y.heap[g]? = some (.cells #[.int .i64 m, v0] 32 (0, 0))) :
    RTab (y.setCell ⟨g, 1, none⟩ (.slice none 0 0)) [g] g m [] := by
  have hset := heap_setCell_same y g 1 _ _ (.slice none 0 0) hy
  have hgs := (Array.getElem?_eq_some_iff.1 hy).1
  refine ⟨none, 0, List.mem_cons_self .., hset, Nat.le_refl _, by unfold maxLen; omega, (fun _ => rfl), (fun b o s e => by cases e), .inl rfl, ?_⟩
  intro k hk
  simp only [List.mem_singleton] at hk
  subst hk
  simpa [World.setCell] using hgs

set_option maxHeartbeats 2000000 in
theorem radd_great (g m : Nat) (rows : List FdM) (f : FdM) (L : List Nat) (w : World) (h : RTab w L g m rows) (hm : m ≤ 65536) (hn : f.name.size ≤ 140737488351232) (hv : f.value.size ≤ 140737488351232) (hgr : m < cost f) :
    Calls Try.prog 24 #[.pointer (some ⟨g, 0, none⟩), .agg #[.string f.name, .string f.value, .bool f.never]] w fun e w' => e = .returned (.tuple #[]) ∧ ∃ L', RTab w' L' g m (addT m rows f) ∧ Kept L w w' ∧ ∀ k ∈ L', k ∈ L ∨ w.heap.size ≤ k := by
  have hT : addT m rows f = [] := by rw [addT, if_pos hgr]
  rw [hT]
  have HCo := Lib.hid (fun v => cost_any f v hn hv)
  obtain ⟨ad, cap, hg, hh, hl, hmx, hz, ha, hr, hk⟩ := h
  have hgl := hk g hg
  have HG := Lib.hid hg
  have HH := Lib.hid hh
  have hgr' : (m : Int) < cost f := by omega
  obtain ⟨fn, fv, fb⟩ := f
  simp only at hn hv HCo hgr hgr' ⊢
  generalize cost ⟨fn, fv, fb⟩ = c at *
  clear hT hh hr ha hk hg
  go_enter Try.func24, Try.ntmps24
  go_wp2_with fail
  generalize hwb : w.alloc (.cells #[.string fn, .string fv, .bool fb] 36) = wb
  have hb : Below w.heap.size w wb := by rw [← hwb]; exact (Below.refl _ _).alloc (Nat.le_refl _) _
  have hbx : wb.heap[w.heap.size]? = some (.cells #[.string fn, .string fv, .bool fb] 36 (0, 0)) := by rw [← hwb]; exact heap_alloc_new w _
  have hhb := block_below hb HH.out
  have HB := Lib.hid hb
  generalize hbn : w.heap.size = bx at hbx ⊢
  have HBn := Lib.hid hbn
  have e0 : wb.cell? ⟨bx, 0, none⟩ = some (.string fn) := cell_at hbx 0
  have e1 : wb.cell? ⟨bx, 1, none⟩ = some (.string fv) := cell_at hbx 1
  have e2 : wb.cell? ⟨bx, 2, none⟩ = some (.bool fb) := cell_at hbx 2
  have c0 : wb.cell? ⟨g, 0, none⟩ = some (.int .i64 m) := cell_at hhb 0
  have HHb := Lib.hid hhb
  clear hwb hbn hb hbx hhb
  go_region_with ((go_at_call 22; refine (HCo.out _).mono ?_; rintro e w2 ⟨rfl, b2⟩; have c0' := below_cell b2 c0))
  all_goals
    have hh2 := block_below b2 HHb.out
    have f1 : w2.frozen? ⟨g, 1, none⟩ = false := frozen_of_row _ _ 1 _ _ hh2
    have c1 := cell_at hh2 1
    have HT2 := Lib.hid (rtab_nil hh2)
    have HK2 := Lib.hid (((((Kept.refl L w).then HB.out).drew.then b2).setCell (p := ⟨g, 1, none⟩) (.inl HG.out) (.slice none 0 0)))
    clear hh2
    go_wp2_with fail
    refine bodyPost_ret (results_none rfl _ _ _) rfl ?_
    exact ⟨rfl, [g], HT2.out, HK2.out, fun k hk => .inl (by simp only [List.mem_singleton] at hk; subst hk; exact HG.out)⟩


/-- What is at hand where the oldest row goes: 'append([]api.Field{}, t.Rows[:len(t.Rows)-1]...)'. -/
theorem rtab_cut {w1 : World} {L : List Nat} {g m : Nat} {rows : List FdM} (h : RTab w1 L g m rows) (hpos : 0 < rows.length) (hs : rows.length ≤ 100000) :
    ∃ bl off cap, Hid (w1.heap[g]? = some (.cells #[.int .i64 m, .slice (some ⟨bl, off, none⟩) rows.length cap] 32 (0, 0))) ∧ rows.length ≤ cap ∧ cap ≤ maxLen ∧
      Hid (∀ x : World, x.heap = (w1.alloc (.cells #[] 36)).heap → x.ownsRow w1.heap.size 36 3 (.slice (some ⟨w1.heap.size, 0, none⟩) 0 0) 0 (Rw.flat EFd []) ∧ Rw.RowE EFd x (some ⟨bl, off, none⟩) rows.dropLast ∧ w1.heap.size ≤ x.heap.size) ∧
      Hid (rows.length - 1 = rows.dropLast.length ∧ 0 + (rows.length - 1) ≤ maxLen ∧ (0 + (rows.length - 1)) * 40 ≤ 140737488355328) ∧
      Hid (∀ x y : World, x.heap = (w1.alloc (.cells #[] 36)).heap → x.grownBy y (some w1.heap.size) → (∀ k, k < w1.heap.size → y.heap[k]? = w1.heap[k]?) ∧ y.heap[g]? = some (.cells #[.int .i64 m, .slice (some ⟨bl, off, none⟩) rows.length cap] 32 (0, 0))) ∧
      Hid (∀ (x y : World) (ad4 : Option Addr) (cap4 : Nat), x.heap = (w1.alloc (.cells #[] 36)).heap → x.grownBy y (some w1.heap.size) → y.ownsRow w1.heap.size 36 3 (.slice ad4 (0 + (rows.length - 1)) cap4) (0 + (rows.length - 1)) (Rw.flat EFd ([] ++ rows.dropLast)) →
        RTab (y.setCell ⟨g, 1, none⟩ (.slice ad4 (rows.length - 1) cap4)) (g :: adBlk ad4) g m rows.dropLast ∧ ∀ k ∈ g :: adBlk ad4, k = g ∨ w1.heap.size ≤ k) := by
  obtain ⟨ad, cap, hg, hh, hl, hm, hz, ha, hr, hk⟩ := h
  obtain ⟨bl, off, rfl, _⟩ : ∃ b off, ad = some ⟨b, off, none⟩ ∧ True := by
    rcases hr with h | ⟨b, off, h, _⟩
    · rw [h] at hpos; simp at hpos
    · exact ⟨b, off, h, trivial⟩
  have hbl := ha bl off none rfl
  have hdl : rows.dropLast.length = rows.length - 1 := List.length_dropLast
  have hold : ∀ x y : World, x.heap = (w1.alloc (.cells #[] 36)).heap → x.grownBy y (some w1.heap.size) → ∀ k, k < w1.heap.size → y.heap[k]? = w1.heap[k]? := fun x y hx hy k hk' => by
    rw [hy.block k (by rw [hx]; simp; omega) (by intro e; simp only [Option.some.injEq] at e; omega), hx]
    exact Below.heap_alloc _ _ _ hk'
  refine ⟨bl, off, cap, Lib.hid hh, hl, hm, Lib.hid (fun x hx => ⟨?_, ?_, ?_⟩), Lib.hid ⟨hdl.symm, by unfold maxLen; omega, by omega⟩, Lib.hid (fun x y hx hy => ⟨hold x y hx hy, (hold x y hx hy g (hk g hg)).trans hh⟩), Lib.hid (fun x y ad4 cap4 hx hy ho => ?_)⟩
  · have h := own_new w1 36 3
    unfold World.ownsRow at h ⊢
    rw [hx]; exact h
  · have hr' := Rw.RowE.take hr (rows.length - 1)
    rw [← List.dropLast_eq_take] at hr'
    refine hr'.block fun b o e => ?_
    simp only [Option.some.injEq, Addr.mk.injEq] at e
    obtain ⟨rfl, _⟩ := e
    rw [hx]
    exact Below.heap_alloc _ _ _ (hk bl hbl.1)
  · rw [hx]; simp
  · rw [Nat.zero_add, List.nil_append] at ho
    exact rtab_put ((hold x y hx hy g (hk g hg)).trans hh) ho hdl.symm (hk g hg)

set_option maxHeartbeats 4000000 in
theorem radd_fits (g m : Nat) (rows : List FdM) (f : FdM) (L : List Nat) (w : World) (h : RTab w L g m rows) (hs : csum rows ≤ 65536) (hm : m ≤ 65536) (hgr : cost f ≤ m) :
    Calls Try.prog 24 #[.pointer (some ⟨g, 0, none⟩), .agg #[.string f.name, .string f.value, .bool f.never]] w fun e w' => e = .returned (.tuple #[]) ∧ ∃ L', RTab w' L' g m (addT m rows f) ∧ Kept L w w' ∧ ∀ k ∈ L', k ∈ L ∨ w.heap.size ≤ k := by
  obtain ⟨i0, hi, hz0, hz1, hz2⟩ := info_parts info_fd
  have HI := Lib.hid hi
  have HZ0 := Lib.hid hz0
  have HZ1 := Lib.hid hz1
  have HZ2 := Lib.hid hz2
  have hT : addT m rows f = ⟨f.name, f.value, false⟩ :: fit (m - cost f) rows := by rw [addT, if_neg (by omega)]
  rw [hT]
  have hcf : cost f = f.name.size + f.value.size + 32 := rfl
  have hn : f.name.size ≤ 140737488351232 := by omega
  have hv : f.value.size ≤ 140737488351232 := by omega
  have HCo := Lib.hid (fun v => cost_any f v hn hv)
  obtain ⟨fn, fv, fb⟩ := f
  simp only at hn hv HCo hgr ⊢
  generalize cost ⟨fn, fv, fb⟩ = c at *
  have hgr' : (c : Int) ≤ m := by omega
  obtain ⟨d, hd⟩ : ∃ d, d = m - c := ⟨_, rfl⟩
  have hdm : c + d = m := by omega
  have HDm := Lib.hid hdm
  rw [← hd]
  have HT0 := Lib.hid h
  have hkb := h.blocks
  have hgl : g ∈ L := by obtain ⟨ad, cap, hg, _⟩ := h; exact hg
  have HGl := Lib.hid (hkb g hgl)
  have hgne : Hid (g ≠ w.heap.size) := Lib.hid (by have := hkb g hgl; omega)
  have HG0 := Lib.hid hgl
  clear hi hz0 hz1 hz2 hT hcf hd hdm h hkb hgl
  generalize hF : fit d rows = R
  have HF := Lib.hid hF
  clear hF
  go_enter Try.func24, Try.ntmps24
  go_wp2_with fail
  generalize hwb : w.alloc (.cells #[.string fn, .string fv, .bool fb] 36) = wb
  have hb : Below w.heap.size w wb := by rw [← hwb]; exact (Below.refl _ _).alloc (Nat.le_refl _) _
  have hbx : wb.heap[w.heap.size]? = some (.cells #[.string fn, .string fv, .bool fb] 36 (0, 0)) := by rw [← hwb]; exact heap_alloc_new w _
  have HT := Lib.hid (HT0.out.below hb)
  have hK0 : Kept L w wb := (Kept.refl L w).then hb
  have hws := hb.size
  generalize hbn : w.heap.size = bx at hbx hgne ⊢
  have HBn := Lib.hid hbn
  obtain ⟨ad, cap, hg, hh, hl, hmx, hz, ha, hr, hk⟩ := HT.out
  have e0 : wb.cell? ⟨bx, 0, none⟩ = some (.string fn) := cell_at hbx 0
  have e1 : wb.cell? ⟨bx, 1, none⟩ = some (.string fv) := cell_at hbx 1
  have e2 : wb.cell? ⟨bx, 2, none⟩ = some (.bool fb) := cell_at hbx 2
  have c0 : wb.cell? ⟨g, 0, none⟩ = some (.int .i64 m) := cell_at hh 0
  have HK0 := Lib.hid hK0
  have HBx := Lib.hid hbx
  clear hwb hbn hb hbx hh hr ha hk hg hK0 HT0
  have hnot : decide (m < c) = false := by simp; omega
  go_region_held3 (fun w' => w'.cell? ⟨bx, 0, none⟩ = some (.string fn) ∧ w'.cell? ⟨bx, 1, none⟩ = some (.string fv) ∧ w'.cell? ⟨bx, 2, none⟩ = some (.bool fb) ∧ w'.cell? ⟨g, 0, none⟩ = some (.int .i64 m))
    (first | go_keep | exact ⟨below_cell b2 e0, below_cell b2 e1, below_cell b2 e2, below_cell b2 c0⟩)
    ((go_at_call 22; refine (HCo.out _).mono ?_; rintro e w2 ⟨rfl, b2⟩))
  have HT2 := Lib.hid (RTab.below (w := wb.drew) HT.out b2)
  have HK2 := Lib.hid (HK0.out.drew.then b2)
  have HBx2 := Lib.hid (block_below (w := wb.drew) b2 HBx.out)
  clear b2 c0 e0 e1 e2 HT HK0 HBx
  go_wp2_with fail
  go_loopg [] rows.length (fun k wr => ∃ (rows' : List FdM) (L' : List Nat), k = rows'.length ∧ Hid (RTab wr L' g m rows') ∧ Hid (fit d rows' = R) ∧ csum rows' ≤ 65536 ∧ Hid (Kept L w wr) ∧ Hid (∀ k ∈ L', k ∈ L ∨ w.heap.size ≤ k) ∧ Hid (wr.heap[bx]? = some (.cells #[.string fn, .string fv, .bool fb] 36 (0, 0))))
  case atStart => exact ⟨rows, L, rfl, HT2, HF, hs, HK2, Lib.hid (fun k hk => .inl hk), HBx2⟩
  case round =>
    clear HT2 HF HK2 HBx2
    obtain ⟨rows', L', rfl, HT, HF, hs', HKe, HN, HBx⟩ := hrel
    have h32 := csum_len rows'
    obtain ⟨ad', cap', hg', hh', hl', hm', hz', ha', hr', hk'⟩ := HT.out
    have HS : Hid (∀ v, Below wr.heap.size wr v → Calls Try.prog 14 #[.pointer (some ⟨g, 0, none⟩)] v fun e w' => e = .returned (.int .i64 (csum rows')) ∧ Below v.heap.size v w') := Lib.hid (fun v hv =>
      rsize_at g rows'.length cap' ad' rows' m v rfl (cell_at (block_below hv hh') 0) (cell_at (block_below hv hh') 1) hl' hm' (hr'.below hv) (by omega))
    have e0 : wr.cell? ⟨bx, 0, none⟩ = some (.string fn) := cell_at HBx.out 0
    have e1 : wr.cell? ⟨bx, 1, none⟩ = some (.string fv) := cell_at HBx.out 1
    have e2 : wr.cell? ⟨bx, 2, none⟩ = some (.bool fb) := cell_at HBx.out 2
    have c0 : wr.cell? ⟨g, 0, none⟩ = some (.int .i64 m) := cell_at hh' 0
    have hsum : IntKind.i64.wrap ((csum rows' : Int) + c) = (csum rows' : Int) + c := IntWalk.i64_in _ (by omega)
    clear hg' hh' ha' hr' hk'
    by_cases hbig : d < csum rows'
    · have hdec : decide ((m : Int) < (csum rows' : Int) + c) = true := by have := HDm.out; simp; omega
      have hpos : 0 < rows'.length := by
        rcases Nat.eq_zero_or_pos rows'.length with h0 | h0
        · rw [List.eq_nil_iff_length_eq_zero.mpr h0] at hbig; simp [csum] at hbig
        · exact h0
      go_wp2_with fail
      go_region_held3 (fun w' => w'.cell? ⟨bx, 0, none⟩ = some (.string fn) ∧ w'.cell? ⟨bx, 1, none⟩ = some (.string fv) ∧ w'.cell? ⟨bx, 2, none⟩ = some (.bool fb) ∧ w'.cell? ⟨g, 0, none⟩ = some (.int .i64 m))
        (first | go_keep | exact ⟨below_cell b2 e0, below_cell b2 e1, below_cell b2 e2, below_cell b2 c0⟩ | exact ⟨below_cell b3 (below_cell b2 e0), below_cell b3 (below_cell b2 e1), below_cell b3 (below_cell b2 e2), below_cell b3 (below_cell b2 c0)⟩)
        ((first | (go_at_call 22; refine (HCo.out _).mono ?_; rintro e w3 ⟨rfl, b3⟩) | (go_at_call 14; refine (HS.out _ (Below.refl _ _).drew).mono ?_; rintro e w2 ⟨rfl, b2⟩)))
      have hb3 : Below wr.heap.size wr w3 := below_step (((Below.refl _ wr).drew).trans b2) b3
      have HT3 := Lib.hid (HT.out.below hb3)
      have HK3 := Lib.hid (HKe.out.then hb3)
      have HBx3 := Lib.hid (block_below hb3 HBx.out)
      have HS3 := Lib.hid (Nat.le_trans HKe.out.size hb3.size)
      clear hb3 b2 b3 HT HKe HBx e0 e1 e2 c0 HS
      try clear hHeld
      go_wp2_with fail
      obtain ⟨bl, off, cap3, HH, hc1, hc2, HA, HB, HC, HD⟩ := rtab_cut HT3.out hpos (by omega)
      have hds : csum rows'.dropLast ≤ 65536 := Nat.le_trans (csum_dropLast rows') hs'
      have HFd : Hid (fit d rows'.dropLast = R) := Lib.hid (by rw [← fit_drop rows' d hbig]; exact HF.out)
      have hgl3 := HT3.out.blocks
      have HFin : Hid (∀ (y : World) (ad4 : Option Addr) (cap4 : Nat), y.ownsRow w3.heap.size 36 3 (.slice ad4 (0 + (rows'.length - 1)) cap4) (0 + (rows'.length - 1)) (Rw.flat EFd ([] ++ rows'.dropLast)) → (w3.alloc (.cells #[] 36)).drew.grownBy y (some w3.heap.size) →
          ∃ (rows2 : List FdM) (L2 : List Nat), rows'.length - 1 = rows2.length ∧ Hid (RTab (y.setCell ⟨g, 1, none⟩ (.slice ad4 (rows'.length - 1) cap4)) L2 g m rows2) ∧ Hid (fit d rows2 = R) ∧ csum rows2 ≤ 65536 ∧ Hid (Kept L w (y.setCell ⟨g, 1, none⟩ (.slice ad4 (rows'.length - 1) cap4))) ∧ Hid (∀ k ∈ L2, k ∈ L ∨ w.heap.size ≤ k) ∧
          Hid ((y.setCell ⟨g, 1, none⟩ (.slice ad4 (rows'.length - 1) cap4)).heap[bx]? = some (.cells #[.string fn, .string fv, .bool fb] 36 (0, 0)))) := Lib.hid (fun y ad4 cap4 ho hgr => by
        obtain ⟨hT, hL⟩ := HD.out (w3.alloc (.cells #[] 36)).drew y ad4 cap4 rfl hgr ho
        have hws := HS3.out
        have hkeep := (HC.out (w3.alloc (.cells #[] 36)).drew y rfl hgr).1
        refine ⟨rows'.dropLast, _, HB.out.1, Lib.hid hT, HFd, hds, Lib.hid (((HK3.out.alloc _).drew.grown hgr (fun k hk => by simp only [Option.some.injEq] at hk; subst hk; exact .inr hws)).setCell (.inl HG0.out) _), Lib.hid (fun k hk => ?_), Lib.hid ?_⟩
        · rcases hL k hk with rfl | h
          · exact .inl HG0.out
          · exact .inr (by omega)
        · rw [Below.heap_setCell _ _ _ _ (show bx ≠ g from fun e => hgne.out e.symm), hkeep bx (Array.getElem?_eq_some_iff.1 HBx3.out).1]
          exact HBx3.out)
      have hh1 := HH.out
      have c1 : w3.cell? ⟨g, 1, none⟩ = some (.slice (some ⟨bl, off, none⟩) rows'.length cap3) := cell_at hh1 1
      have c1a : (w3.alloc (.cells #[] 36)).cell? ⟨g, 1, none⟩ = some (.slice (some ⟨bl, off, none⟩) rows'.length cap3) := cell_at (alloc_at hh1) 1
      clear hh1 hgl3 HT3 HK3 HBx3 HF
      generalize hnn : rows'.length = nn at *
      have HNn := Lib.hid hnn
      have hm2' : (nn : Int) - 1 ≤ cap3 := by omega
      have hn2 : (0 : Int) ≤ (nn : Int) - 1 := by omega
      have hn4 : (1 : Int) ≤ nn := by omega
      have hn1 : IntKind.i64.wrap ((nn : Int) - 1) = (nn : Int) - 1 := IntWalk.i64_in _ (by omega)
      have hn3 : ((nn : Int) - 1).toNat = nn - 1 := by omega
      clear hnn
      go_region_law ((refine Rw.step_append_rows EFd Try.underlying30 HI.out HZ0.out HZ1.out HZ2.out rfl rfl (.tmp 25) (.tmp 36) rfl w3.heap.size (.slice (some ⟨w3.heap.size, 0, none⟩) 0 0) 0 [] rfl rfl (HA.out _ rfl).1 (some ⟨bl, off, none⟩) (nn - 1) rows'.dropLast cap3 rfl HB.out.1 (by intro h; cases h) (HA.out _ rfl).2.1 HB.out.2.1 HB.out.2.2 (HA.out _ rfl).2.2 ?_; intro ad4 cap4 w4 hown4 hg4; have hh4 := (HC.out _ w4 (by rfl) hg4.out).2; have c4 := cell_at hh4 1; have f4 := frozen_of_row _ _ 1 _ _ hh4))
      all_goals
        have HF2 := Lib.hid (HFin.out w4 ad4 cap4 hown4.out hg4.out)
        clear HFin HA HB HC HD hown4 hg4
        go_wp2_with fail
        go_roundg (nn - 1)
        case measure => omega
        case rel => exact HF2.out
    · have hdec : decide ((m : Int) < (csum rows' : Int) + c) = false := by have := HDm.out; simp; omega
      go_wp2_with fail
      go_region_held3 (fun w' => w'.cell? ⟨bx, 0, none⟩ = some (.string fn) ∧ w'.cell? ⟨bx, 1, none⟩ = some (.string fv) ∧ w'.cell? ⟨bx, 2, none⟩ = some (.bool fb) ∧ w'.cell? ⟨g, 0, none⟩ = some (.int .i64 m))
        (first | go_keep | exact ⟨below_cell b2 e0, below_cell b2 e1, below_cell b2 e2, below_cell b2 c0⟩ | exact ⟨below_cell b3 (below_cell b2 e0), below_cell b3 (below_cell b2 e1), below_cell b3 (below_cell b2 e2), below_cell b3 (below_cell b2 c0)⟩)
        ((first | (go_at_call 22; refine (HCo.out _).mono ?_; rintro e w3 ⟨rfl, b3⟩) | (go_at_call 14; refine (HS.out _ (Below.refl _ _).drew).mono ?_; rintro e w2 ⟨rfl, b2⟩)))
      have hb3 : Below wr.heap.size wr w3 := below_step (((Below.refl _ wr).drew).trans b2) b3
      have HT3 := Lib.hid (HT.out.below hb3)
      have HK3 := Lib.hid (HKe.out.then hb3)
      have HBx3 := Lib.hid (block_below hb3 HBx.out)
      have HS3 := Lib.hid (Nat.le_trans HKe.out.size hb3.size)
      clear hb3 b2 b3 HT HKe HBx e0 e1 e2 c0 HS
      try clear hHeld
      go_wp2_with fail
      have hR : R = rows' := by rw [← HF.out, fit_all _ _ (by omega)]
      subst hR
      clear HF
      obtain ⟨ad3, cap3, hg3, hh3, hl3, hm3, hz3, ha3, hr3, hk3⟩ := HT3.out
      have e0 : w3.cell? ⟨bx, 0, none⟩ = some (.string fn) := cell_at HBx3.out 0
      have e1 : w3.cell? ⟨bx, 1, none⟩ = some (.string fv) := cell_at HBx3.out 1
      have c1 : w3.cell? ⟨g, 1, none⟩ = some (.slice ad3 R.length cap3) := cell_at hh3 1
      have c1a : (w3.alloc (.cells #[.string fn, .string fv, .bool false] 36)).cell? ⟨g, 1, none⟩ = some (.slice ad3 R.length cap3) := cell_at (alloc_at hh3) 1
      have hkeep : ∀ x y : World, x.heap = (w3.alloc (.cells #[.string fn, .string fv, .bool false] 36)).heap → x.grownBy y (some w3.heap.size) → ∀ k, k < w3.heap.size → y.heap[k]? = w3.heap[k]? := fun x y hx hy k hk' => by
        rw [hy.block k (by rw [hx]; simp; omega) (by intro e; simp only [Option.some.injEq] at e; omega), hx]
        exact Below.heap_alloc _ _ _ hk'
      have HA : Hid (∀ x : World, x.heap = (w3.alloc (.cells #[.string fn, .string fv, .bool false] 36)).heap → x.ownsRow w3.heap.size 36 3 (.slice (some ⟨w3.heap.size, 0, none⟩) 1 1) 1 (Rw.flat EFd [⟨fn, fv, false⟩]) ∧ Rw.RowE EFd x ad3 R ∧ w3.heap.size ≤ x.heap.size) := Lib.hid (fun x hx => by
        refine ⟨?_, hr3.block fun b o e => ?_, by rw [hx]; simp⟩
        · have h := World.ownsRow_lit (base := w3.heap.size) (e := 36) (size := 3) w3 #[.string fn, .string fv, .bool false] 1 (Nat.le_refl _) (by unfold maxLen; omega) rfl
          unfold World.ownsRow at h ⊢
          rw [hx]; exact h
        · rw [hx]; exact Below.heap_alloc _ _ _ (hk3 b (ha3 b o none e).1))
      have HB : Hid (1 + R.length ≤ maxLen ∧ (1 + R.length) * 40 ≤ 140737488355328 ∧ (ad3 = none → cap3 = 0 ∧ R.length = 0)) := Lib.hid ⟨by unfold maxLen; omega, by omega, fun h => ⟨hz3 h, by have := hz3 h; omega⟩⟩
      have HC : Hid (∀ x y : World, x.heap = (w3.alloc (.cells #[.string fn, .string fv, .bool false] 36)).heap → x.grownBy y (some w3.heap.size) → y.heap[g]? = some (.cells #[.int .i64 m, .slice ad3 R.length cap3] 32 (0, 0))) := Lib.hid (fun x y hx hy => (hkeep x y hx hy g (hk3 g hg3)).trans hh3)
      have HFin : Hid (∀ (y : World) (ad4 : Option Addr) (cap4 : Nat), y.ownsRow w3.heap.size 36 3 (.slice ad4 (1 + R.length) cap4) (1 + R.length) (Rw.flat EFd ([⟨fn, fv, false⟩] ++ R)) → (w3.alloc (.cells #[.string fn, .string fv, .bool false] 36)).drew.grownBy y (some w3.heap.size) →
          ∃ L2 : List Nat, RTab (y.setCell ⟨g, 1, none⟩ (.slice ad4 (1 + R.length) cap4)) L2 g m (⟨fn, fv, false⟩ :: R) ∧ Kept L w (y.setCell ⟨g, 1, none⟩ (.slice ad4 (1 + R.length) cap4)) ∧ ∀ k ∈ L2, k ∈ L ∨ w.heap.size ≤ k) := Lib.hid (fun y ad4 cap4 ho hgr => by
        obtain ⟨hT, hL⟩ := rtab_put (HC.out (w3.alloc (.cells #[.string fn, .string fv, .bool false] 36)).drew y rfl hgr) ho (by simp; omega) (hk3 g hg3)
        have hws := HS3.out
        refine ⟨_, hT, ((HK3.out.alloc _).drew.grown hgr (fun k hk => by simp only [Option.some.injEq] at hk; subst hk; exact .inr hws)).setCell (.inl HG0.out) _, fun k hk => ?_⟩
        rcases hL k hk with rfl | h
        · exact .inl HG0.out
        · exact .inr (by omega))
      clear hh3 hr3 ha3 hk3 hg3 hkeep HT3 HK3 HBx3 hz3
      go_region_law ((refine Rw.step_append_rows EFd Try.underlying30 HI.out HZ0.out HZ1.out HZ2.out rfl rfl (.tmp 46) (.tmp 50) rfl w3.heap.size (.slice (some ⟨w3.heap.size, 0, none⟩) 1 1) 1 [⟨fn, fv, false⟩] rfl rfl (HA.out _ rfl).1 ad3 R.length R cap3 rfl rfl HB.out.2.2 (HA.out _ rfl).2.1 HB.out.1 HB.out.2.1 (HA.out _ rfl).2.2 ?_; intro ad4 cap4 w4 hown4 hg4; have hh4 := HC.out _ w4 (by rfl) hg4.out; have c4 := cell_at hh4 1; have f4 := frozen_of_row _ _ 1 _ _ hh4))
      all_goals
        have HF2 := Lib.hid (HFin.out w4 ad4 cap4 hown4.out hg4.out)
        clear HFin HA HB HC hown4 hg4
        go_wp2_with fail
        go_end0
        exact ⟨rfl, HF2.out⟩
end Go.Proofs.Ytifaecmmnconpaa
