/- Layer 4: what the document fixes (awake); a script played on both tables. -/
import Derived.Test.YtifaecmmnconpaaRows
import Derived.Test.YtifaecmmnconpaaTabPure
import Derived.Test.YtifaecmmnconpaaObj
import Derived.Test.YtifaecmmnconpaaRowE
import Derived.Test.YtifaecmmnconpaaTab1
import Derived.Test.YtifaecmmnconpaaTab2
import Derived.Test.YtifaecmmnconpaaTab4
import Derived.Test.YtifaecmmnconpaaTab5
import Derived.Test.YtifaecmmnconpaaTab6
import Derived.Test.YtifaecmmnconpaaTabP
import Derived.WalkKit
import Derived.WalkSpells
import Derived.WalkLawsBesides
import Derived.Lib.Hide
import Derived.Outline
import Derived.IntWalk
namespace Go.Proofs.Ytifaecmmnconpaa
open Go.RowKit
open Arg Tab Mem Go.Proofs.Ytifaecmmnconpaa.Obj
set_option linter.unusedVariables false

def rowAB : List FdM := [⟨⟨#[97]⟩, ⟨#[98]⟩, false⟩]
def rowCD : List FdM := [⟨⟨#[99]⟩, ⟨#[100]⟩, false⟩, ⟨⟨#[97]⟩, ⟨#[98]⟩, false⟩]
theorem awake_1 : addT 100 [] ⟨⟨#[97]⟩, ⟨#[98]⟩, false⟩ = rowAB := rfl
theorem awake_2 : addT 100 rowAB ⟨⟨#[99]⟩, ⟨#[100]⟩, false⟩ = rowCD := rfl
theorem awake_3 : atT rowCD 63 = (⟨⟨#[97]⟩, ⟨#[98]⟩, false⟩, 0) := by decide +kernel
theorem awake_4 : findT rowCD ⟨⟨#[58, 112, 97, 116, 104]⟩, ⟨#[47]⟩, false⟩ = (4, true) := by decide +kernel
theorem awake_5 : csum rowCD = 68 := rfl

set_option maxRecDepth 100000 in
set_option maxHeartbeats 2000000 in
theorem awake_any (w : World) : Calls Try.prog 8 #[] w fun e w' => e = .returned (.bool true) ∧ Below w.heap.size w w' := by
  go_enter Try.func8, Try.ntmps8
  go_wp2_with fail
  refine (pnew_ok 100 _ (by decide)).mono ?_; rintro e w1 ⟨g, L1, rfl, T1, b1, l1⟩
  have H1 := Lib.hid T1
  have HL1 := Lib.hid l1
  clear T1 l1
  go_wp2_with fail
  refine (padd_any L1 g 100 0 [] ⟨⟨#[97]⟩, ⟨#[98]⟩, false⟩ _ H1.out (by decide) (by decide) (by decide)).mono ?_; rintro e w2 ⟨rfl, L2, T2, k2, l2⟩
  rw [awake_1] at T2
  have H2 := Lib.hid T2
  have c2 : Below w.heap.size w w2 := Kept.below b1 k2 HL1.out b1.size
  have HL2 : Hid (∀ k ∈ L2, w.heap.size ≤ k) := Lib.hid (fun k hk => by rcases l2 k hk with h | h; exact HL1.out k h; exact Nat.le_trans b1.size h)
  clear T2 k2 l2 b1 H1 HL1
  go_wp2_with fail
  refine (padd_any L2 g 100 1 rowAB ⟨⟨#[99]⟩, ⟨#[100]⟩, false⟩ _ H2.out (by decide) (by decide) (by decide)).mono ?_; rintro e w3 ⟨rfl, L3, T3, k3, l3⟩
  rw [awake_2] at T3
  have H3 := Lib.hid T3
  have c3 : Below w.heap.size w w3 := Kept.below c2 k3 HL2.out c2.size
  clear T3 k3 l3 c2 H2 HL2
  go_wp2_with fail
  have hat := pat_any L3 g 100 2 rowCD 63 w3 H3.out (by decide)
  rw [awake_3] at hat
  refine hat.mono ?_; rintro e w4 ⟨rfl, b4⟩
  have H4 := Lib.hid (H3.out.kept b4.size (fun k hk => b4.block k (H3.out.blocks k hk)))
  have c4 := below_step c3 b4
  clear hat c3 b4
  go_wp2_with fail
  have hbx := heap_alloc_new w4 (.cells #[.string ⟨#[97]⟩, .string ⟨#[98]⟩, .bool false] 36)
  have hb5 : Below w4.heap.size w4 (w4.alloc (.cells #[.string ⟨#[97]⟩, .string ⟨#[98]⟩, .bool false] 36)) := (Below.refl _ _).alloc (Nat.le_refl _) _
  generalize w4.alloc (.cells #[.string ⟨#[97]⟩, .string ⟨#[98]⟩, .bool false] 36) = w5 at hbx hb5 ⊢
  have H5 := Lib.hid (H4.out.kept hb5.size (fun k hk => hb5.block k (H4.out.blocks k hk)))
  have c5 := below_step c4 hb5
  generalize w4.heap.size = bx at hbx ⊢
  have HBx := Lib.hid hbx
  clear c4 hb5 hbx H4
  have hfi := pfind_any L3 g 100 2 rowCD ⟨⟨#[58, 112, 97, 116, 104]⟩, ⟨#[47]⟩, false⟩ w5 H5.out (by decide) (by decide)
  rw [awake_4] at hfi
  refine hfi.mono ?_; rintro e w6 ⟨rfl, b6⟩
  have H6 := Lib.hid (H5.out.kept b6.size (fun k hk => b6.block k (H5.out.blocks k hk)))
  have c6 := below_step c5 b6
  have d0 : w6.cell? ⟨bx, 0, none⟩ = some (.string ⟨#[97]⟩) := cell_at (block_below b6 HBx.out) 0
  clear hfi c5 b6 H5 HBx
  go_wp2_with fail
  have hsi := psize_any L3 g 100 2 rowCD w6 H6.out
  rw [awake_5] at hsi
  refine hsi.mono ?_; rintro e w7 ⟨rfl, b7⟩
  have c7 := below_step c6 b7
  clear hsi c6 b7 d0 H6
  go_wp2_with fail
  go_ret
  exact ⟨rfl, c7⟩

/-- Both tables say the same, and lie apart. -/
def Two (w : World) (B gt gr m : Nat) (rows : List FdM) (c : Nat) : Prop :=
  ∃ Lt Lr, PTab w Lt gt m rows c ∧ RTab w Lr gr m rows ∧ (∀ k ∈ Lt, k ∉ Lr) ∧ (∀ k ∈ Lt, B ≤ k) ∧ (∀ k ∈ Lr, B ≤ k)
theorem Two.below {w w' : World} {B gt gr m c : Nat} {rows : List FdM} (h : Two w B gt gr m rows c) (hb : Below w.heap.size w w') : Two w' B gt gr m rows c := by
  obtain ⟨Lt, Lr, ht, hr, h1, h2, h3⟩ := h
  exact ⟨Lt, Lr, ht.kept hb.size (fun k hk => hb.block k (ht.blocks k hk)), hr.kept hb.size (fun k hk => hb.block k (hr.blocks k hk)), h1, h2, h3⟩

def stepM (s : Nat × List FdM) (d : DoM) : Nat × List FdM :=
  if d.kind = 0 then (s.1, addT s.1 s.2 d.f) else if 0 ≤ d.n ∧ d.n ≤ 65536 then (d.n.toNat, fit d.n.toNat s.2) else s
def playM : List DoM → Nat × List FdM → Nat × List FdM
  | [], s => s
  | d :: r, s => playM r (stepM s d)

theorem stepM_never {s : Nat × List FdM} {d : DoM} (h : ∀ x ∈ s.2, x.never = false) : ∀ x ∈ (stepM s d).2, x.never = false := by
  rw [stepM]
  split
  · exact addT_never h
  · split
    · exact fun x hx => h x (fit_mem hx)
    · exact h
theorem playM_never : ∀ (l : List DoM) (s : Nat × List FdM), (∀ x ∈ s.2, x.never = false) → ∀ x ∈ (playM l s).2, x.never = false
  | [], _, h => h
  | d :: r, s, h => playM_never r (stepM s d) (stepM_never h)

/-- A step on the one table, then the same on the other. -/
theorem two_step {w w1 w2 : World} {B gt gr m m2 c c2 : Nat} {rows rows2 : List FdM} {Lt Lt' Lr Lr' : List Nat} (ht : PTab w Lt gt m rows c) (hr : RTab w Lr gr m rows) (h1 : ∀ k ∈ Lt, k ∉ Lr) (h2 : ∀ k ∈ Lt, B ≤ k) (h3 : ∀ k ∈ Lr, B ≤ k) (hB : B ≤ w.heap.size)
    (t1 : PTab w1 Lt' gt m2 rows2 c2) (k1 : Kept Lt w w1) (n1 : ∀ k ∈ Lt', k ∈ Lt ∨ w.heap.size ≤ k)
    (t2 : RTab w2 Lr' gr m2 rows2) (k2 : Kept Lr w1 w2) (n2 : ∀ k ∈ Lr', k ∈ Lr ∨ w1.heap.size ≤ k) : Two w2 B gt gr m2 rows2 c2 ∧ Below B w w2 := by
  have b1 := k1.size
  have hb1 := t1.blocks
  have hbr := hr.blocks
  have hd : ∀ k ∈ Lt', k ∉ Lr := fun k hk hkr => by
    rcases n1 k hk with h | h
    · exact h1 k h hkr
    · have := hbr k hkr; omega
  refine ⟨⟨Lt', Lr', t1.kept k2.size (fun k hk => k2.block k (hb1 k hk) (hd k hk)), t2, fun k hk hkr => ?_, fun k hk => ?_, fun k hk => ?_⟩, Kept.below (Kept.below (Below.refl _ _) k1 h2 hB) k2 h3 (by omega)⟩
  · rcases n2 k hkr with h | h
    · exact hd k hk h
    · have := hb1 k hk; omega
  · rcases n1 k hk with h | h
    · exact h2 k h
    · omega
  · rcases n2 k hk with h | h
    · exact h3 k h
    · omega

set_option maxRecDepth 100000 in
set_option maxHeartbeats 4000000 in
theorem play_any (B gt gr m c : Nat) (rows : List FdM) (ad : Option Addr) (len cap : Nat) (l : List DoM) (w : World) (hB : B ≤ w.heap.size) (h : Two w B gt gr m rows c) (hc : c ≤ 1000) (hl : l.length = len) (hlc : len ≤ cap) (hcm : cap ≤ maxLen)
    (hsc : ∀ v, Below B w v → Rw.RowE EDo v ad l) (hok : ∀ d ∈ l, d.ok) :
    Calls Try.prog 11 #[.pointer (some ⟨gt, 0, none⟩), .pointer (some ⟨gr, 0, none⟩), .slice ad len cap] w fun e w' => e = .returned (.bool true) ∧ (∃ c', c' ≤ c + 120 ∧ Two w' B gt gr (playM (l.take 120) (m, rows)).1 (playM (l.take 120) (m, rows)).2 c') ∧ Below B w w' := by
  unfold maxLen at hcm
  have HR : Hid (playM ((l.take 120).drop 0) (m, rows) = playM (l.take 120) (m, rows)) := rfl
  generalize playM (l.take 120) (m, rows) = R at HR ⊢
  have HSc := Lib.hid hsc
  have HOk := Lib.hid hok
  have HL := Lib.hid hl
  have HT0 := Lib.hid h
  have HB := Lib.hid hB
  clear hsc hok hl h hB
  go_enter Try.func11, Try.ntmps11
  go_wp2_with fail
  go_loopw [7] (fun vi wr => ∃ (k c' m' : Nat) (rows' : List FdM), k ≤ 120 ∧ k ≤ len ∧ c' ≤ c + k ∧ vi = .int .i64 k ∧ Hid (Two wr B gt gr m' rows' c') ∧ Hid (playM ((l.take 120).drop k) (m', rows') = R) ∧ Below B w wr) (fun vi _ => len - (intOf vi).toNat)
  case atStart => exact ⟨0, c, m, rows, by omega, by omega, by omega, rfl, HT0, HR, Below.refl _ _⟩
  case round =>
    clear HR HT0
    obtain ⟨k, c', m', rows', hk, hkl, hc', rfl, HT, HF, hbel⟩ := hrel
    by_cases hlt : k < len ∧ k < 120
    · obtain ⟨hlt, h120⟩ := hlt
      have hlt' : (k : Int) < len := by omega
      have h120' : (k : Int) < 120 := by omega
      have hlr : k < l.length := by rw [HL.out]; exact hlt
      have hlt2 : k < (l.take 120).length := by rw [List.length_take]; omega
      obtain ⟨bl, off, rfl, hcs⟩ : ∃ b off, ad = some ⟨b, off, none⟩ ∧ ∀ i, (h : i < l.length) → Rw.CE EDo wr b (off + i * 5) l[i] := by
        rcases HSc.out wr hbel with h | h
        · rw [h] at hlr; simp at hlr
        · exact h
      obtain ⟨x0, x1, x2, x3, x4⟩ := CE_do (hcs k hlr)
      have hsz := HOk.out l[k] (List.getElem_mem hlr)
      have HF1 : Hid (playM (l[k] :: (l.take 120).drop (k + 1)) (m', rows') = R) := Lib.hid (by
        have h := HF.out
        rw [List.drop_eq_getElem_cons hlt2, List.getElem_take] at h
        exact h)
      clear hcs HF
      generalize l[k] = d at *
      obtain ⟨dk, ⟨fn, fv, fb⟩, dn⟩ := d
      simp only at x0 x1 x2 x3 x4
      obtain ⟨hz1, hz2, hs1, hs2⟩ := hsz
      simp only at hz1 hz2 hs1 hs2
      have HF2 : Hid (playM ((l.take 120).drop (k + 1)) (stepM (m', rows') ⟨dk, ⟨fn, fv, fb⟩, dn⟩) = R) := HF1
      have hbw := hbel.size
      have hBr : B ≤ wr.heap.size := by have := HB.out; omega
      have HBr := Lib.hid hBr
      clear HF1 hBr
      have hk0 : (0 : Int) ≤ k := by omega
      by_cases hd0 : dk = 0
      · subst hd0
        have HF3 : Hid (playM ((l.take 120).drop (k + 1)) (m', addT m' rows' ⟨fn, fv, fb⟩) = R) := HF2
        clear HF2
        go_wp2_with fail
        have hbx := heap_alloc_new wr (.cells #[.int .i64 0, .string fn, .string fv, .bool fb, .int .i64 dn] 47)
        have hb5 : Below wr.heap.size wr (wr.alloc (.cells #[.int .i64 0, .string fn, .string fv, .bool fb, .int .i64 dn] 47)) := (Below.refl _ _).alloc (Nat.le_refl _) _
        generalize wr.alloc (.cells #[.int .i64 0, .string fn, .string fv, .bool fb, .int .i64 dn] 47) = wb at hbx hb5 ⊢
        obtain ⟨Lt, Lr, ht, hr, hd1, hd2, hd3⟩ := HT.out
        have hbxt : wr.heap.size ∉ Lt := fun hm => by have := ht.blocks _ hm; omega
        have htb := ht.kept hb5.size (fun k hk => hb5.block k (ht.blocks k hk))
        have hrb := hr.kept hb5.size (fun k hk => hb5.block k (hr.blocks k hk))
        have hbsz : B ≤ wb.heap.size := Nat.le_trans HBr.out hb5.size
        have hbB : Below B wr wb := hb5.mono HBr.out
        generalize wr.heap.size = bx at hbx hbxt ⊢
        have HBx := Lib.hid hbx
        have HBxt := Lib.hid hbxt
        have HTb := Lib.hid htb
        have HRb := Lib.hid hrb
        have HD1 := Lib.hid hd1
        have HD2 := Lib.hid hd2
        have HD3 := Lib.hid hd3
        have HBs := Lib.hid hbsz
        have HBB := Lib.hid (hbel.trans hbB)
        have hsm := ht.sum
        clear hbx hb5 ht hr hd1 hd2 hd3 hbxt htb hrb hbsz hbB x0 x1 x2 x3 x4 hbel HT
        refine (padd_any Lt gt m' c' rows' ⟨fn, fv, fb⟩ wb HTb.out (by omega) hs1 hs2).mono ?_; rintro e w1 ⟨rfl, Lt', T1, k1, n1⟩
        have HT1 := Lib.hid T1
        have HK1 := Lib.hid k1
        have HN1 := Lib.hid n1
        have hx1 := k1.at HBx.out HBxt.out
        have HR1 := Lib.hid (HRb.out.kept k1.size (fun k hk => k1.block k (HRb.out.blocks k hk) (fun hm => HD1.out k hm hk)))
        have y1 : w1.cell? ⟨bx, 1, none⟩ = some (.string fn) := cell_at hx1 1
        have y2 : w1.cell? ⟨bx, 2, none⟩ = some (.string fv) := cell_at hx1 2
        have y3 : w1.cell? ⟨bx, 3, none⟩ = some (.bool fb) := cell_at hx1 3
        clear T1 k1 n1 hx1 HBx
        go_wp2_with fail
        refine (radd_any gr m' rows' ⟨fn, fv, fb⟩ Lr w1 HR1.out (by omega) hsm.2 hs1 hs2).mono ?_; rintro e w2 ⟨rfl, Lr', T2, k2, n2⟩
        have h2 := two_step HTb.out HRb.out HD1.out HD2.out HD3.out HBs.out HT1.out HK1.out HN1.out T2 k2 n2
        have HTw := Lib.hid h2.1
        have hBw := HBB.out.trans h2.2
        clear y1 y2 y3 T2 k2 n2 h2
        go_wp2_with fail
        go_roundw
        case rel => exact ⟨k + 1, c' + 1, m', addT m' rows' ⟨fn, fv, fb⟩, by omega, by omega, by omega, by go_num, HTw, HF3, hBw⟩
        case measure => simp [intOf]; omega
      · have hdb : (dk == 0) = false := by rw [beq_eq_false_iff_ne]; exact hd0
        by_cases hrg : 0 ≤ dn ∧ dn ≤ 65536
        · obtain ⟨hr1, hr2⟩ := hrg
          obtain ⟨z, rfl⟩ := Int.eq_ofNat_of_zero_le hr1
          have hz65 : z ≤ 65536 := by omega
          have HF3 : Hid (playM ((l.take 120).drop (k + 1)) (z, fit z rows') = R) := Lib.hid (by
            have h := HF2.out
            rw [stepM, if_neg hd0, if_pos ⟨hr1, hr2⟩, Int.toNat_natCast] at h
            exact h)
          have hn1 : ¬ (z : Int) < 0 := by omega
          have hn2 : ¬ (65536 : Int) < z := by omega
          clear HF2 hd0
          go_wp2_with fail
          have hbx := heap_alloc_new wr (.cells #[.int .i64 dk, .string fn, .string fv, .bool fb, .int .i64 z] 47)
          have hb5 : Below wr.heap.size wr (wr.alloc (.cells #[.int .i64 dk, .string fn, .string fv, .bool fb, .int .i64 z] 47)) := (Below.refl _ _).alloc (Nat.le_refl _) _
          generalize wr.alloc (.cells #[.int .i64 dk, .string fn, .string fv, .bool fb, .int .i64 z] 47) = wb at hbx hb5 ⊢
          obtain ⟨Lt, Lr, ht, hr, hd1, hd2, hd3⟩ := HT.out
          have hbxt : wr.heap.size ∉ Lt := fun hm => by have := ht.blocks _ hm; omega
          have htb := ht.kept hb5.size (fun k hk => hb5.block k (ht.blocks k hk))
          have hrb := hr.kept hb5.size (fun k hk => hb5.block k (hr.blocks k hk))
          have hbsz : B ≤ wb.heap.size := Nat.le_trans HBr.out hb5.size
          have hbB : Below B wr wb := hb5.mono HBr.out
          generalize wr.heap.size = bx at hbx hbxt ⊢
          have HBx := Lib.hid hbx
          have HBxt := Lib.hid hbxt
          have HTb := Lib.hid htb
          have HRb := Lib.hid hrb
          have HD1 := Lib.hid hd1
          have HD2 := Lib.hid hd2
          have HD3 := Lib.hid hd3
          have HBs := Lib.hid hbsz
          have HBB := Lib.hid (hbel.trans hbB)
          have hsm := ht.sum
          clear hbx hb5 ht hr hd1 hd2 hd3 hbxt htb hrb hbsz hbB x0 x1 x2 x3 x4 hbel HT
          refine (presize_ok Lt gt m' z c' rows' wb HTb.out hz65).mono ?_; rintro e w1 ⟨rfl, Lt', T1, k1, n1⟩
          have HT1 := Lib.hid T1
          have HK1 := Lib.hid k1
          have HN1 := Lib.hid n1
          have hx1 := k1.at HBx.out HBxt.out
          have HR1 := Lib.hid (HRb.out.kept k1.size (fun k hk => k1.block k (HRb.out.blocks k hk) (fun hm => HD1.out k hm hk)))
          have y4 : w1.cell? ⟨bx, 4, none⟩ = some (.int .i64 z) := cell_at hx1 4
          clear T1 k1 n1 hx1 HBx
          go_wp2_with fail
          refine (rresize_any gr m' z rows' Lr w1 HR1.out (by omega) hz65).mono ?_; rintro e w2 ⟨rfl, Lr', T2, k2, n2⟩
          have h2 := two_step HTb.out HRb.out HD1.out HD2.out HD3.out HBs.out HT1.out HK1.out HN1.out T2 k2 n2
          have HTw := Lib.hid h2.1
          have hBw := HBB.out.trans h2.2
          clear y4 T2 k2 n2 h2
          go_wp2_with fail
          go_roundw
          case rel => exact ⟨k + 1, c', z, fit z rows', by omega, by omega, by omega, by go_num, HTw, HF3, hBw⟩
          case measure => simp [intOf]; omega
        · have HF3 : Hid (playM ((l.take 120).drop (k + 1)) (m', rows') = R) := Lib.hid (by
            have h := HF2.out
            rw [stepM, if_neg hd0, if_neg hrg] at h
            exact h)
          have HTk := HT
          have hbk := Lib.hid hbel
          clear HF2 hd0
          go_wp2_with fail
          have hbx := heap_alloc_new wr (.cells #[.int .i64 dk, .string fn, .string fv, .bool fb, .int .i64 dn] 47)
          have hb5 : Below wr.heap.size wr (wr.alloc (.cells #[.int .i64 dk, .string fn, .string fv, .bool fb, .int .i64 dn] 47)) := (Below.refl _ _).alloc (Nat.le_refl _) _
          generalize wr.alloc (.cells #[.int .i64 dk, .string fn, .string fv, .bool fb, .int .i64 dn] 47) = wb at hbx hb5 ⊢
          obtain ⟨Lt, Lr, ht, hr, hd1, hd2, hd3⟩ := HT.out
          have hbxt : wr.heap.size ∉ Lt := fun hm => by have := ht.blocks _ hm; omega
          have htb := ht.kept hb5.size (fun k hk => hb5.block k (ht.blocks k hk))
          have hrb := hr.kept hb5.size (fun k hk => hb5.block k (hr.blocks k hk))
          have hbsz : B ≤ wb.heap.size := Nat.le_trans HBr.out hb5.size
          have hbB : Below B wr wb := hb5.mono HBr.out
          generalize wr.heap.size = bx at hbx hbxt ⊢
          have HBx := Lib.hid hbx
          have HBxt := Lib.hid hbxt
          have HTb := Lib.hid htb
          have HRb := Lib.hid hrb
          have HD1 := Lib.hid hd1
          have HD2 := Lib.hid hd2
          have HD3 := Lib.hid hd3
          have HBs := Lib.hid hbsz
          have HT5 := Lib.hid (HTk.out.below hb5)
          have HBB := Lib.hid (hbel.trans hbB)
          have hsm := ht.sum
          clear hbx hb5 ht hr hd1 hd2 hd3 hbxt htb hrb hbsz hbB x0 x1 x2 x3 x4 hbel HT
          refine (presize_bad Lt gt m' c' dn rows' wb HTb.out (by omega)).mono ?_; rintro e w1 ⟨rfl, b1⟩
          have y4 : w1.cell? ⟨bx, 4, none⟩ = some (.int .i64 dn) := cell_at (block_below b1 HBx.out) 4
          have HTw := Lib.hid (HT5.out.below b1)
          have hBw := HBB.out.trans (b1.mono HBs.out)
          clear b1 HBx
          by_cases hneg : dn < 0
          · clear hrg
            go_wp2_with fail
            go_roundw
            case rel => exact ⟨k + 1, c', m', rows', by omega, by omega, by omega, by go_num, HTw, HF3, hBw⟩
            case measure => simp [intOf]; omega
          · have hn1 : ¬ dn < 0 := hneg
            have hbg : 65536 < dn := by omega
            clear hrg hneg
            go_wp2_with fail
            go_roundw
            case rel => exact ⟨k + 1, c', m', rows', by omega, by omega, by omega, by go_num, HTw, HF3, hBw⟩
            case measure => simp [intOf]; omega
    · have hR : R = (m', rows') := by rw [← HF.out, List.drop_of_length_le (by rw [List.length_take, HL.out]; omega)]; rfl
      subst hR
      clear HF
      by_cases h1 : k < len
      · have hlt' : (k : Int) < len := by omega
        have h120' : ¬ (k : Int) < 120 := by omega
        clear hlt
        go_wp2_with fail
        go_ret
        exact ⟨rfl, ⟨c', by omega, HT.out⟩, hbel⟩
      · have hlt' : ¬ (k : Int) < len := by omega
        clear hlt
        go_wp2_with fail
        go_ret
        exact ⟨rfl, ⟨c', by omega, HT.out⟩, hbel⟩
end Go.Proofs.Ytifaecmmnconpaa
