/- Layer 5: the program's NewDecoder; its rows. Layer 5: the laws' helpers: the document's Fields and Bytes. Layer 5: the laws' helpers: the document's Bytes. Layer 5: the laws' helpers: short. Layer 5: the laws' arguments: lists of fields, rows of blocks, scripts of lists; the law's few. Several things in memory, each with the blocks that it lies in, apart from each other and from all that was there at first. -/
import Derived.Test.YtdkgachgohilcaaDoorGP23
import Derived.Test.YtdkgachgohilcaaDoorGP16
import Derived.WalkKit
import Derived.WalkSpells
import Derived.LoopTactic
import Derived.Test.YtdkgachgohilcaaDoorGP02
set_option linter.unusedVariables false
set_option linter.unusedSimpArgs false
namespace Go.Proofs.YtdkgachgohilcaaDoor
open Go.RowKit
open Huf Pre Tab Hpk Arg Mem Gen Wr Go.Proofs.YtdkgachgohilcaaDoor.Obj
set_option linter.unusedVariables false
variable {w : World} {L : List Nat} {g md ld t m c : Nat} {rows : List FdM} {lf : Value}

set_option maxRecDepth 100000 in
set_option maxHeartbeats 1000000 in
theorem pnewdec_bad (md ld : Int) (w : World) (h : md < 0 ∨ 65536 < md ∨ ld < 0) :
    Calls Tryd.prog 10 #[.int .i64 md, .int .i64 ld] w fun e w' => e = .returned (.tuple #[.pointer none, .int .i64 1]) ∧ Below w.heap.size w w' := by
  have HS := Lib.hid (fun v => hsized_any md v)
  by_cases hs : 0 ≤ md ∧ md ≤ 65536
  · have hl : ld < 0 := by omega
    rw [show decide (0 ≤ md ∧ md ≤ 65536) = true by simp; omega] at HS
    go_enter Tryd.func10, Tryd.ntmps10
    go_wp2_with fail
    refine (HS.out _).mono ?_; rintro e w1 ⟨rfl, b1⟩
    go_wp2_with fail
    go_ret2
    exact ⟨rfl, b1⟩
  · rw [show decide (0 ≤ md ∧ md ≤ 65536) = false by simp; omega] at HS
    clear hs h
    go_enter Tryd.func10, Tryd.ntmps10
    go_wp2_with fail
    refine (HS.out _).mono ?_; rintro e w1 ⟨rfl, b1⟩
    go_wp2_with fail
    go_ret2
    exact ⟨rfl, b1⟩

set_option maxRecDepth 100000 in
set_option maxHeartbeats 1000000 in
theorem pnewdec_ok (md ld : Nat) (w : World) (h : md ≤ 65536) :
    Calls Tryd.prog 10 #[.int .i64 md, .int .i64 ld] w fun e w' => ∃ g t L, e = .returned (.tuple #[.pointer (some ⟨g, 0, none⟩), .int .i64 0]) ∧ PDec w' L g md ld t (min md 4096) [] 0 (.slice none 0 0) ∧ Below w.heap.size w w' ∧ w.heap.size ≤ g ∧ ∀ k ∈ L, w.heap.size ≤ k := by
  have HS := Lib.hid (fun v => hsized_any md v)
  rw [show decide ((0 : Int) ≤ md ∧ (md : Int) ≤ 65536) = true by simp; omega] at HS
  have HN := Lib.hid (fun v => pnew_ok (min md 4096) v (by omega))
  obtain ⟨mm, hmm⟩ : ∃ x, x = min md 4096 := ⟨_, rfl⟩
  rw [← hmm] at HN ⊢
  have HEnd : Hid (∀ (v : World) (t : Nat) (L : List Nat), Below w.heap.size w v → PTab v L t mm [] 0 → (∀ k ∈ L, w.heap.size ≤ k) →
      PDec (v.alloc (.cells #[.int .i64 md, .int .i64 ld, .pointer (some ⟨t, 0, none⟩), .slice none 0 0] 67)) L v.heap.size md ld t mm [] 0 (.slice none 0 0) ∧ Below w.heap.size w (v.alloc (.cells #[.int .i64 md, .int .i64 ld, .pointer (some ⟨t, 0, none⟩), .slice none 0 0] 67)) ∧ w.heap.size ≤ v.heap.size) := Lib.hid (fun v t L hb ht hL =>
    ⟨⟨heap_alloc_new v _, ht.below (below_alloc v _), fun hm => by have := ht.blocks _ hm; omega⟩, hb.alloc hb.size _, hb.size⟩)
  go_enter Tryd.func10, Tryd.ntmps10
  have hmin : min (md : Int) 4096 = mm := by omega
  have hld : ¬ (ld : Int) < 0 := by omega
  clear hmm
  go_wp2_with fail
  refine (HS.out _).mono ?_; rintro e w1 ⟨rfl, b1⟩
  go_wp2_with fail
  refine (HN.out _).mono ?_; rintro e w2 ⟨t, L, rfl, hT, b2, hL⟩
  have HE := Lib.hid (HEnd.out w2 t L (below_step b1 b2) hT (fun k hk => Nat.le_trans b1.size (hL k hk)))
  have HL := Lib.hid (fun k hk => Nat.le_trans b1.size (hL k hk))
  clear hT hL b2
  go_wp2_with fail
  go_ret2
  exact ⟨_, t, L, rfl, HE.out.1, HE.out.2.1, HE.out.2.2, HL.out⟩

set_option maxRecDepth 100000 in
set_option maxHeartbeats 1000000 in
theorem pdrows_any (h : PDec w L g md ld t m rows c lf) :
    Calls Tryd.prog 16 #[.pointer (some ⟨g, 0, none⟩)] w fun e w' => ∃ b, e = .returned (.slice (some ⟨b, 0, none⟩) rows.length rows.length) ∧ w.heap.size ≤ b ∧ Rw.QRow EFd w' (some ⟨b, 0, none⟩) rows.length rows ∧ Below w.heap.size w w' := by
  have c2 := cell_at h.blk 2
  have HR := Lib.hid (prowsof_any L t m c rows w h.tab)
  clear h
  go_enter Tryd.func16, Tryd.ntmps16
  go_wp2_with fail
  refine HR.out.mono ?_; rintro e w1 ⟨b, rfl, h1, h2, h3, _⟩
  have HQ := Lib.hid (⟨h1, h2, h3⟩ : _ ∧ _ ∧ _)
  clear h1 h2 h3
  go_wp2_with fail
  go_ret
  exact ⟨b, rfl, HQ.out⟩
end Go.Proofs.YtdkgachgohilcaaDoor

namespace Go.Proofs.YtdkgachgohilcaaDoor
open Go.RowKit
open Huf Pre Tab Hpk Arg Mem Gen Wr Go.Proofs.YtdkgachgohilcaaDoor.Obj
set_option linter.unusedVariables false

theorem drop_eq_iff (a b : List FdM) (h : a.length = b.length) (i : Nat) (hi : i < a.length) : a.drop i = b.drop i ↔ (a[i] = b[i] ∧ a.drop (i + 1) = b.drop (i + 1)) := by
  rw [List.drop_eq_getElem_cons hi, List.drop_eq_getElem_cons (by omega : i < b.length), List.cons.injEq]
theorem row_at {w : World} {aa : Option Addr} {a : List FdM} (h : Rw.RowE EFd w aa a) (i : Nat) (hi : i < a.length) : ∃ b off, aa = some ⟨b, off, none⟩ ∧ w.cell? ⟨b, off + i * 3, none⟩ = some (.string a[i].name) ∧ w.cell? ⟨b, off + i * 3 + 1, none⟩ = some (.string a[i].value) ∧ w.cell? ⟨b, off + i * 3 + 2, none⟩ = some (.bool a[i].never) := by
  rcases h with h | ⟨b, off, e, hc⟩
  · rw [h] at hi; simp at hi
  · exact ⟨b, off, e, CE_fd (hc i hi)⟩

theorem str_inj {x y : ByteArray} (h : x.toList = y.toList) : x = y := by
  have := (tl_iff x y.toList y.data (by rw [ByteArray.toList_eq])).mp h
  exact this

set_option maxRecDepth 100000 in
set_option maxHeartbeats 2000000 in
theorem rfields_any (aa ba : Option Addr) (a b : List FdM) (acap bcap : Nat) (w : World) (ha : Rw.RowE EFd w aa a) (hb : Rw.RowE EFd w ba b) (hac : a.length ≤ acap) (hbc : b.length ≤ bcap) (hl : a.length ≤ 4000000000000) (hl2 : b.length ≤ 4000000000000) :
    Calls Tryd.prog 14 #[.slice aa a.length acap, .slice ba b.length bcap] w fun e w' => e = .returned (.bool (decide (a = b))) ∧ Below w.heap.size w w' := by
  by_cases hlen : a.length = b.length
  · obtain ⟨n, hn⟩ : ∃ n, n = a.length := ⟨_, rfl⟩
    have hn2 : n = b.length := hn.trans hlen
    rw [← hlen, ← hn]
    rw [← hn] at hl hac
    rw [← hn2] at hbc
    have HN := Lib.hid (show n = a.length ∧ n = b.length from ⟨hn, hn2⟩)
    have HAB := Lib.hid (show Rw.RowE EFd w aa a ∧ Rw.RowE EFd w ba b from ⟨ha, hb⟩)
    obtain ⟨R, hR⟩ : ∃ x, x = decide (a = b) := ⟨_, rfl⟩
    rw [← hR]
    have HR := Lib.hid hR
    clear hn hn2 hlen ha hb hR hl2
    go_enter Tryd.func14, Tryd.ntmps14
    go_wp2_with fail
    go_loopw [5] (fun i wr => ∃ k : Nat, i = .int .i64 k ∧ k ≤ n ∧ Hid (Below w.heap.size w wr) ∧ Hid (decide (a.drop k = b.drop k) = R)) (fun i _ => n - (intOf i).toNat)
    case atStart => exact ⟨0, by rfl, Nat.zero_le _, Lib.hid (Below.refl _ _), Lib.hid (by rw [HR.out]; simp)⟩
    case round =>
      obtain ⟨k, rfl, hk, HB, HD⟩ := hrel
      by_cases hlt : k < n
      · have hlt' : (k : Int) < n := by omega
        have hka : k < a.length := by rw [← HN.out.1]; exact hlt
        have hkb : k < b.length := by rw [← HN.out.2]; exact hlt
        obtain ⟨b1, o1, rfl, p0, p1, p2⟩ := row_at HAB.out.1 k hka
        obtain ⟨b2, o2, rfl, q0, q1, q2⟩ := row_at HAB.out.2 k hkb
        have p0 := below_cell HB.out p0
        have p1 := below_cell HB.out p1
        have p2 := below_cell HB.out p2
        have q0 := below_cell HB.out q0
        have q1 := below_cell HB.out q1
        have q2 := below_cell HB.out q2
        have HS := Lib.hid (drop_eq_iff a b (by rw [← HN.out.1, ← HN.out.2]) k hka)
        generalize a[k] = x at p0 p1 p2 HS
        generalize b[k] = y at q0 q1 q2 HS
        obtain ⟨xn, xv, xb⟩ := x
        obtain ⟨yn, yv, yb⟩ := y
        simp only at p0 p1 p2 q0 q1 q2
        by_cases h1 : xn = yn
        · subst h1
          by_cases h2 : xv = yv
          · subst h2
            by_cases h3 : xb = yb
            · subst h3
              go_wp2_with fail
              refine wp_region_noPanic ?_; go_quiet (fail)
              dsimp only [NoPanic, Exit.then, Exit.inBlock]
              have HB2 : Hid (Below w.heap.size w (wr.drewN nq)) := Lib.hid ⟨HB.out.os, HB.out.tape, HB.out.output, HB.out.size, HB.out.block⟩
              go_wp2_with fail
              go_roundw
              case rel => exact ⟨k + 1, by go_num, by omega, HB2, Lib.hid (by rw [← HD.out]; exact decide_eq_decide.mpr ⟨fun h => HS.out.mpr ⟨by trivial, h⟩, fun h => (HS.out.mp h).2⟩)⟩
              case measure => simp [intOf]; omega
            · have e3 : (xb == yb) = false := beq_eq_false_iff_ne.mpr h3
              go_wp2_with fail
              refine wp_region_noPanic ?_; go_quiet (fail)
              dsimp only [NoPanic, Exit.then, Exit.inBlock]
              have HB2 : Hid (Below w.heap.size w (wr.drewN nq)) := Lib.hid ⟨HB.out.os, HB.out.tape, HB.out.output, HB.out.size, HB.out.block⟩
              have hRf : Hid (R = false) := Lib.hid <| by
                rw [← HD.out]
                exact decide_eq_false (fun h => by
                  have := (HS.out.mp h).1
                  simp only [FdM.mk.injEq] at this
                  exact h3 this.2.2)
              go_wp2_with fail
              go_ret
              exact ⟨by rw [hRf.out]; rfl, HB2.out⟩
          · have e2 : ¬ xv.toList = yv.toList := fun e => h2 (str_inj e)
            have e2' : (xv.toList == yv.toList) = false := beq_eq_false_iff_ne.mpr e2
            go_wp2_with fail
            refine wp_region_noPanic ?_; go_quiet (fail)
            dsimp only [NoPanic, Exit.then, Exit.inBlock]
            have HB2 : Hid (Below w.heap.size w (wr.drewN nq)) := Lib.hid ⟨HB.out.os, HB.out.tape, HB.out.output, HB.out.size, HB.out.block⟩
            have hRf : Hid (R = false) := Lib.hid <| by
              rw [← HD.out]
              exact decide_eq_false (fun h => by
                have := (HS.out.mp h).1
                simp only [FdM.mk.injEq] at this
                exact h2 this.2.1)
            go_wp2_with fail
            go_ret
            exact ⟨by rw [hRf.out]; rfl, HB2.out⟩
        · have e1 : ¬ xn.toList = yn.toList := fun e => h1 (str_inj e)
          have e1' : (xn.toList == yn.toList) = false := beq_eq_false_iff_ne.mpr e1
          go_wp2_with fail
          refine wp_region_noPanic ?_; go_quiet (fail)
          dsimp only [NoPanic, Exit.then, Exit.inBlock]
          have HB2 : Hid (Below w.heap.size w (wr.drewN nq)) := Lib.hid ⟨HB.out.os, HB.out.tape, HB.out.output, HB.out.size, HB.out.block⟩
          have hRf : Hid (R = false) := Lib.hid <| by
            rw [← HD.out]
            exact decide_eq_false (fun h => by
              have := (HS.out.mp h).1
              simp only [FdM.mk.injEq] at this
              exact h1 this.1)
          go_wp2_with fail
          go_ret
          exact ⟨by rw [hRf.out]; rfl, HB2.out⟩
      · have hlt' : ¬ (k : Int) < n := by omega
        have hRt : R = true := by
          rw [← HD.out, List.drop_eq_nil_of_le (by rw [← HN.out.1]; omega), List.drop_eq_nil_of_le (by rw [← HN.out.2]; omega)]
          rfl
        have hRt := Lib.hid hRt
        go_wp2_with fail
        go_ret
        exact ⟨by first | rfl | (rw [hRt.out]; rfl), HB.out⟩
  · have hne : ¬ a = b := fun e => hlen (by rw [e])
    rw [decide_eq_false hne]
    have e1 : ((a.length : Int) != b.length) = true := by simp; omega
    have e2 : ¬ (a.length : Int) = b.length := by omega
    clear hne ha hb
    generalize a.length = la at *
    generalize b.length = lb at *
    go_enter Tryd.func14, Tryd.ntmps14
    go_wp2_with fail
    go_ret
    exact ⟨rfl, Below.refl _ _⟩
end Go.Proofs.YtdkgachgohilcaaDoor

namespace Go.Proofs.YtdkgachgohilcaaDoor
open Go.RowKit
open Huf Pre Tab Hpk Arg Mem Gen Wr Go.Proofs.YtdkgachgohilcaaDoor.Obj
set_option linter.unusedVariables false

/-- The bytes of a list, while they are few. -/
def bytF : List FdM → Nat → Nat
  | [], n => n
  | f :: r, n => bytF r (if n < 1073741824 then n + f.name.size + f.value.size + 32 else n)
theorem bytF_big (l : List FdM) (n : Nat) (h : 1073741824 ≤ n) : bytF l n = n := by
  induction l with
  | nil => rfl
  | cons f r ih => rw [bytF, if_neg (by omega)]; exact ih
theorem bytF_sum (l : List FdM) : ∀ n, (bytF l n < 1073741824 → bytF l n = n + csum l) ∧ (n + csum l < 1073741824 → bytF l n = n + csum l) := by
  induction l with
  | nil => intro n; exact ⟨fun _ => by simp [bytF, csum], fun _ => by simp [bytF, csum]⟩
  | cons f r ih =>
    intro n
    have hc : csum (f :: r) = cost f + csum r := rfl
    have hf : cost f = f.name.size + f.value.size + 32 := rfl
    by_cases h : n < 1073741824
    · have := ih (n + f.name.size + f.value.size + 32)
      rw [bytF, if_pos h, hc, hf]
      exact ⟨fun h1 => by have := this.1 h1; omega, fun h1 => by have := this.2 (by omega); omega⟩
    · rw [bytF_big _ _ (by omega)]
      exact ⟨fun h1 => by omega, fun h1 => by omega⟩

set_option maxRecDepth 100000 in
set_option maxHeartbeats 2000000 in
theorem rbytes_any (aa : Option Addr) (a : List FdM) (acap : Nat) (w : World) (ha : Rw.RowE EFd w aa a) (hac : a.length ≤ acap) (hl : a.length ≤ 4000000000000) (hsz : ∀ f ∈ a, f.name.size ≤ 1000000000000000 ∧ f.value.size ≤ 1000000000000000) :
    Calls Tryd.prog 26 #[.slice aa a.length acap] w fun e w' => e = .returned (.int .i64 (bytF a 0)) ∧ Below w.heap.size w w' := by
  obtain ⟨n, hn⟩ : ∃ n, n = a.length := ⟨_, rfl⟩
  rw [← hn] at hl hac ⊢
  have HN := Lib.hid hn
  have HA := Lib.hid ha
  have HSz := Lib.hid hsz
  obtain ⟨R, hR⟩ : ∃ x, x = bytF a 0 := ⟨_, rfl⟩
  rw [← hR]
  have HR := Lib.hid hR
  clear hn ha hR hsz
  go_enter Tryd.func26, Tryd.ntmps26
  go_wp2_with fail
  go_loopw [3, 4] (fun s i wr => ∃ k t : Nat, i = .int .i64 k ∧ s = .int .i64 t ∧ k ≤ n ∧ t ≤ 2500000000000000 ∧ Hid (Below w.heap.size w wr) ∧ Hid (bytF (a.drop k) t = R)) (fun _ i _ => n - (intOf i).toNat)
  case atStart => exact ⟨0, 0, by rfl, by rfl, Nat.zero_le _, Nat.zero_le _, Lib.hid (Below.refl _ _), Lib.hid (by rw [HR.out]; simp)⟩
  case round =>
    obtain ⟨k, t, rfl, rfl, hk, ht, HB, HD⟩ := hrel
    by_cases hlt : k < n
    · have hlt' : (k : Int) < n := by omega
      have hka : k < a.length := by rw [← HN.out]; exact hlt
      obtain ⟨b1, o1, rfl, p0, p1, p2⟩ := row_at HA.out k hka
      have p0 := below_cell HB.out p0
      have p1 := below_cell HB.out p1
      have hfs := HSz.out a[k] (List.getElem_mem hka)
      have HS := Lib.hid (show bytF (a.drop k) t = bytF (a.drop (k + 1)) (if t < 1073741824 then t + a[k].name.size + a[k].value.size + 32 else t) by rw [List.drop_eq_getElem_cons hka, bytF])
      generalize a[k] = x at p0 p1 p2 HS hfs
      obtain ⟨xn, xv, xb⟩ := x
      simp only at p0 p1 p2 hfs
      clear p2
      by_cases hbig : t < 1073741824
      · have hbig' : (t : Int) < 1073741824 := by omega
        go_wp2_with fail
        refine wp_region_noPanic ?_; go_quiet (fail)
        dsimp only [NoPanic, Exit.then, Exit.inBlock]
        have HB2 : Hid (Below w.heap.size w (wr.drewN nq)) := Lib.hid ⟨HB.out.os, HB.out.tape, HB.out.output, HB.out.size, HB.out.block⟩
        go_wp2_with fail
        go_roundw
        case rel => exact ⟨k + 1, t + xn.size + xv.size + 32, by go_num, by go_num, by omega, by omega, HB2, Lib.hid (by rw [← HD.out, HS.out, if_pos hbig])⟩
        case measure => simp [intOf]; omega
      · have hbig' : ¬ (t : Int) < 1073741824 := by omega
        go_wp2_with fail
        go_roundw
        case rel => exact ⟨k + 1, t, by go_num, by rfl, by omega, by omega, HB, Lib.hid (by rw [← HD.out, HS.out, if_neg hbig])⟩
        case measure => simp [intOf]; omega
    · have hlt' : ¬ (k : Int) < n := by omega
      have HRt := Lib.hid (show t = R by rw [← HD.out, List.drop_eq_nil_of_le (by rw [← HN.out]; omega), bytF])
      go_wp2_with fail
      go_ret
      exact ⟨by rw [← HRt.out]; rfl, HB.out⟩
end Go.Proofs.YtdkgachgohilcaaDoor

namespace Go.Proofs.YtdkgachgohilcaaDoor
open Go.RowKit
open Huf Pre Tab Hpk Arg Mem Gen Wr Go.Proofs.YtdkgachgohilcaaDoor.Obj
set_option linter.unusedVariables false

/-- May a list's texts be read? -/
def shortB (l : List FdM) : Bool := decide (∀ f ∈ l, f.name.size ≤ 4096 ∧ f.value.size ≤ 4096)

theorem shortB_cons (f : FdM) (r : List FdM) : shortB (f :: r) = (decide (f.name.size ≤ 4096 ∧ f.value.size ≤ 4096) && shortB r) := by simp [shortB]

set_option maxRecDepth 100000 in
set_option maxHeartbeats 2000000 in
theorem short_any (aa : Option Addr) (a : List FdM) (acap : Nat) (w : World) (ha : Rw.RowE EFd w aa a) (hac : a.length ≤ acap) (hl : a.length ≤ 4000000000000) :
    Calls Tryd.prog 25 #[.slice aa a.length acap] w fun e w' => e = .returned (.bool (shortB a)) ∧ Below w.heap.size w w' := by
  obtain ⟨n, hn⟩ : ∃ n, n = a.length := ⟨_, rfl⟩
  rw [← hn] at hl hac ⊢
  have HN := Lib.hid hn
  have HA := Lib.hid ha
  obtain ⟨R, hR⟩ : ∃ x, x = shortB a := ⟨_, rfl⟩
  rw [← hR]
  have HR := Lib.hid hR
  clear hn ha hR
  go_enter Tryd.func25, Tryd.ntmps25
  go_wp2_with fail
  go_loopw [3] (fun i wr => ∃ k : Nat, i = .int .i64 k ∧ k ≤ n ∧ Hid (Below w.heap.size w wr) ∧ Hid (shortB (a.drop k) = R)) (fun i _ => n - (intOf i).toNat)
  case atStart => exact ⟨0, by rfl, Nat.zero_le _, Lib.hid (Below.refl _ _), Lib.hid (by rw [HR.out]; simp)⟩
  case round =>
    obtain ⟨k, rfl, hk, HB, HD⟩ := hrel
    by_cases hlt : k < n
    · have hlt' : (k : Int) < n := by omega
      have hka : k < a.length := by rw [← HN.out]; exact hlt
      obtain ⟨b1, o1, rfl, p0, p1, p2⟩ := row_at HA.out k hka
      have p0 := below_cell HB.out p0
      have p1 := below_cell HB.out p1
      have HS := Lib.hid (show shortB (a.drop k) = (decide (a[k].name.size ≤ 4096 ∧ a[k].value.size ≤ 4096) && shortB (a.drop (k + 1))) by rw [List.drop_eq_getElem_cons hka, shortB_cons])
      generalize a[k] = x at p0 p1 p2 HS
      obtain ⟨xn, xv, xb⟩ := x
      simp only at p0 p1 p2
      clear p2
      by_cases h1 : 4096 < xn.size
      · have h1' : (xn.size : Int) > 4096 := by omega
        have HRf := Lib.hid (show R = false by rw [← HD.out, HS.out, decide_eq_false (by simp only; omega), Bool.false_and])
        go_wp2_with fail
        go_ret
        exact ⟨by rw [HRf.out]; rfl, HB.out⟩
      · have h1' : ¬ (xn.size : Int) > 4096 := by omega
        by_cases h2 : 4096 < xv.size
        · have h2' : (xv.size : Int) > 4096 := by omega
          have HRf := Lib.hid (show R = false by rw [← HD.out, HS.out, decide_eq_false (by simp only; omega), Bool.false_and])
          go_wp2_with fail
          go_ret
          exact ⟨by rw [HRf.out]; rfl, HB.out⟩
        · have h2' : ¬ (xv.size : Int) > 4096 := by omega
          have HRk := Lib.hid (show shortB (a.drop (k + 1)) = R by rw [← HD.out, HS.out, decide_eq_true (by simp only; omega), Bool.true_and])
          go_wp2_with fail
          go_roundw
          case rel => exact ⟨k + 1, by go_num, by omega, HB, HRk⟩
          case measure => simp [intOf]; omega
    · have hlt' : ¬ (k : Int) < n := by omega
      have HRt := Lib.hid (show R = true by rw [← HD.out, List.drop_eq_nil_of_le (by rw [← HN.out]; omega)]; simp [shortB])
      go_wp2_with fail
      go_ret
      exact ⟨by rw [HRt.out]; rfl, HB.out⟩
end Go.Proofs.YtdkgachgohilcaaDoor

namespace Go.Proofs.YtdkgachgohilcaaDoor
open Go.RowKit
open Huf Pre Tab Hpk Arg Mem Gen Wr Go.Proofs.YtdkgachgohilcaaDoor.Obj
set_option linter.unusedVariables false

/-- A field's texts are such as there are. -/
def FOk (f : FdM) : Prop := f.name.size ≤ 140737488351232 ∧ f.value.size ≤ 140737488351232

/-- A list of fields that came in. -/
theorem list_in {w : World} {ad : Option Addr} {len cap : Nat} (h : Slc w [.str, .str, .bool] ad len cap) :
    ∃ l : List FdM, l.length = len ∧ Rw.RowE EFd w ad l ∧ (∀ f ∈ l, FOk f) ∧ len ≤ cap ∧ cap ≤ maxLen := by
  obtain ⟨l, hl, hr⟩ := Slc.row (C := fun w b o d => Rw.CE EFd w b o d ∧ FOk d) h (fun b o hc => by
    obtain ⟨⟨v1, c1, l1⟩, ⟨v2, c2, l2⟩, ⟨v3, c3, l3⟩, _⟩ := hc
    obtain ⟨s1, rfl, w1⟩ := l1.str
    obtain ⟨s2, rfl, w2⟩ := l2.str
    obtain ⟨b3, rfl⟩ := l3.bool
    refine ⟨⟨s1, s2, b3⟩, fun r v hv => ?_, w1, w2⟩
    match r, hv with
    | 0, hv => simp [EFd] at hv; subst hv; exact c1
    | 1, hv => simp [EFd] at hv; subst hv; exact c2
    | 2, hv => simp [EFd] at hv; subst hv; exact c3
    | r + 3, hv => simp [EFd] at hv)
  refine ⟨l, hl, ?_, ?_, h.1, h.2.1⟩
  · rcases hr with hr | ⟨b, off, e, hc⟩
    · exact .inl hr
    · exact .inr ⟨b, off, e, fun i hi => (hc i hi).1⟩
  · rcases hr with rfl | ⟨b, off, e, hc⟩
    · intro d hd; cases hd
    · intro d hd
      obtain ⟨i, hi, rfl⟩ := List.getElem_of_mem hd
      exact (hc i hi).2

/-- A row of bytes that came in. -/
theorem bytes_in {w : World} {ad : Option Addr} {len cap : Nat} (h : Slc w [.int .u8] ad len cap) :
    ∃ l : List UInt8, l.length = len ∧ RB w ad l ∧ len ≤ cap ∧ cap ≤ maxLen := by
  obtain ⟨l, hl, hr⟩ := Slc.row (C := fun w b o (d : UInt8) => Rw.CE EBy w b o d) h (fun b o hc => by
    obtain ⟨⟨v1, c1, l1⟩, _⟩ := hc
    obtain ⟨z, rfl, w1⟩ := l1.int
    have hzz := u8_back w1
    refine ⟨UInt8.ofNat z.toNat, fun r v hv => ?_⟩
    match r, hv with
    | 0, hv => simp only [EBy, List.getElem?_cons_zero, Option.some.injEq] at hv; subst hv; rw [hzz]; exact c1
    | r + 1, hv => simp [EBy] at hv)
  refine ⟨l, hl, rb_of_q ?_, h.1, h.2.1⟩
  rcases hr with hr | ⟨b, off, e, hc⟩
  · exact .inl hr
  · exact .inr ⟨b, off, e, fun i hi => hc i hi⟩

/-- A block in a row of blocks. -/
structure BlM where
  ad : Option Addr
  cap : Nat
  l : List UInt8
def EBl : Rw.Enc BlM where
  enc d := [.slice d.ad d.l.length d.cap]
  k := 1
  pos := by decide
  len _ := rfl
  one x v h := by
    simp only [List.mem_cons, List.not_mem_nil, or_false] at h
    subst h; rfl
def BlM.ok (w : World) (d : BlM) : Prop := RB w d.ad d.l ∧ d.l.length ≤ d.cap ∧ d.cap ≤ 140737488351232 ∧ (d.ad = none → d.cap = 0)
theorem blocks_in {w : World} {ad : Option Addr} {len cap : Nat} (h : Slc w [.slc 1 [.int .u8]] ad len cap) :
    ∃ l : List BlM, l.length = len ∧ Rw.RowE EBl w ad l ∧ (∀ d ∈ l, d.ok w) ∧ len ≤ cap ∧ cap ≤ maxLen := by
  obtain ⟨l, hl, hr⟩ := Slc.row (C := fun w b o d => Rw.CE EBl w b o d ∧ BlM.ok w d) h (fun b o hc => by
    obtain ⟨⟨v1, c1, l1⟩, _⟩ := hc
    obtain ⟨ad1, len1, cap1, rfl, hc1, hs⟩ := l1.slc
    obtain ⟨q, hq, hrb, hlc, hcm⟩ := bytes_in hs
    refine ⟨⟨ad1, cap1, q⟩, fun r v hv => ?_, hrb, by simp only; omega, by simp only; omega, hs.2.2.1⟩
    match r, hv with
    | 0, hv => simp only [EBl, List.getElem?_cons_zero, Option.some.injEq] at hv; subst hv; rw [hq]; exact c1
    | r + 1, hv => simp [EBl] at hv)
  refine ⟨l, hl, ?_, ?_, h.1, h.2.1⟩
  · rcases hr with hr | ⟨b, off, e, hc⟩
    · exact .inl hr
    · exact .inr ⟨b, off, e, fun i hi => (hc i hi).1⟩
  · rcases hr with rfl | ⟨b, off, e, hc⟩
    · intro d hd; cases hd
    · intro d hd
      obtain ⟨i, hi, rfl⟩ := List.getElem_of_mem hd
      exact (hc i hi).2
theorem CE_bl {w : World} {b o : Nat} {d : BlM} (h : Rw.CE EBl w b o d) : w.cell? ⟨b, o, none⟩ = some (.slice d.ad d.l.length d.cap) := h 0 _ rfl

/-- A step of a script. -/
structure DoH where
  set : Bool
  n : Int
  ad : Option Addr
  cap : Nat
  l : List FdM
def EDh : Rw.Enc DoH where
  enc d := [.bool d.set, .int .i64 d.n, .slice d.ad d.l.length d.cap]
  k := 3
  pos := by decide
  len _ := rfl
  one x v h := by
    simp only [List.mem_cons, List.not_mem_nil, or_false] at h
    rcases h with rfl | rfl | rfl <;> rfl
def DoH.ok (w : World) (d : DoH) : Prop := (Lit.int .i64 d.n).wf = true ∧ Rw.RowE EFd w d.ad d.l ∧ (∀ f ∈ d.l, FOk f) ∧ d.l.length ≤ d.cap ∧ d.cap ≤ 3518437208780 ∧ (d.ad = none → d.cap = 0)
theorem script_in {w : World} {ad : Option Addr} {len cap : Nat} (h : Slc w [.bool, .int .i64, .slc 40 [.str, .str, .bool]] ad len cap) :
    ∃ l : List DoH, l.length = len ∧ Rw.RowE EDh w ad l ∧ (∀ d ∈ l, d.ok w) ∧ len ≤ cap ∧ cap ≤ maxLen := by
  obtain ⟨l, hl, hr⟩ := Slc.row (C := fun w b o d => Rw.CE EDh w b o d ∧ DoH.ok w d) h (fun b o hc => by
    obtain ⟨⟨v0, c0, l0⟩, ⟨v1, c1, l1⟩, ⟨v2, c2, l2⟩, _⟩ := hc
    obtain ⟨b0, rfl⟩ := l0.bool
    obtain ⟨z1, rfl, w1⟩ := l1.int
    obtain ⟨ad1, len1, cap1, rfl, hcb, hs⟩ := l2.slc
    obtain ⟨q, hq, hrb, hok, hlc, hcm⟩ := list_in hs
    refine ⟨⟨b0, z1, ad1, cap1, q⟩, fun r v hv => ?_, w1, hrb, hok, by simp only; omega, by simp only; omega, hs.2.2.1⟩
    match r, hv with
    | 0, hv => simp [EDh] at hv; subst hv; exact c0
    | 1, hv => simp [EDh] at hv; subst hv; exact c1
    | 2, hv => simp only [EDh, List.getElem?_cons_succ, List.getElem?_cons_zero, Option.some.injEq] at hv; subst hv; rw [hq]; exact c2
    | r + 3, hv => simp [EDh] at hv)
  refine ⟨l, hl, ?_, ?_, h.1, h.2.1⟩
  · rcases hr with hr | ⟨b, off, e, hc⟩
    · exact .inl hr
    · exact .inr ⟨b, off, e, fun i hi => (hc i hi).1⟩
  · rcases hr with rfl | ⟨b, off, e, hc⟩
    · intro d hd; cases hd
    · intro d hd
      obtain ⟨i, hi, rfl⟩ := List.getElem_of_mem hd
      exact (hc i hi).2
theorem CE_dh {w : World} {b o : Nat} {d : DoH} (h : Rw.CE EDh w b o d) : w.cell? ⟨b, o, none⟩ = some (.bool d.set) ∧ w.cell? ⟨b, o + 1, none⟩ = some (.int .i64 d.n) ∧ w.cell? ⟨b, o + 2, none⟩ = some (.slice d.ad d.l.length d.cap) :=
  ⟨h 0 _ rfl, h 1 _ rfl, h 2 _ rfl⟩

/-- Are a script's lists small enough? -/
def fewH : List DoH → Nat → Bool
  | [], _ => true
  | d :: r, n => if 1048576 < n + bytF d.l 0 then false else fewH r (n + bytF d.l 0)
def totH : List DoH → Nat
  | [] => 0
  | d :: r => csum d.l + totH r
theorem fewH_tot : ∀ (s : List DoH) (n : Nat), n ≤ 1048576 → fewH s n = true → n + totH s ≤ 1048576
  | [], n, hn, _ => by simpa [totH] using hn
  | d :: r, n, hn, h => by
    rw [fewH] at h
    split at h
    · cases h
    · rename_i hb
      have := fewH_tot r _ (by omega) h
      have hs := (bytF_sum d.l 0).1 (by omega)
      rw [totH]; omega
theorem csum_mem {l : List FdM} {f : FdM} (h : f ∈ l) : f.name.size + f.value.size + 32 ≤ csum l := by
  induction l with
  | nil => cases h
  | cons x r ih =>
    have hc : csum (x :: r) = cost x + csum r := rfl
    have hf : cost x = x.name.size + x.value.size + 32 := rfl
    rcases List.mem_cons.mp h with rfl | h
    · omega
    · have := ih h; omega
theorem bytF_le (l : List FdM) (h : ∀ f ∈ l, FOk f) : ∀ n, n ≤ 400000000000000 → bytF l n ≤ 400000000000000 := by
  induction l with
  | nil => intro n hn; exact hn
  | cons f r ih =>
    intro n hn
    have hf := h f (List.mem_cons_self ..)
    rw [bytF]
    refine ih (fun g hg => h g (List.mem_cons_of_mem _ hg)) _ ?_
    split
    · have h1 := hf.1; have h2 := hf.2; omega
    · exact hn

set_option maxRecDepth 100000 in
set_option maxHeartbeats 4000000 in
theorem few_any (ad : Option Addr) (len cap : Nat) (l : List DoH) (w : World) (hl : l.length = len) (hlc : len ≤ cap) (hc : cap ≤ maxLen) (hr : Rw.RowE EDh w ad l) (hok : ∀ d ∈ l, d.ok w) :
    Calls Tryd.prog 17 #[.slice ad len cap] w fun e w' => e = .returned (.bool (fewH (l.take 30) 0)) ∧ Below w.heap.size w w' := by
  unfold maxLen at hc
  have HR : Hid (fewH ((l.take 30).drop 0) 0 = fewH (l.take 30) 0) := rfl
  generalize fewH (l.take 30) 0 = R at HR ⊢
  have HRw := Lib.hid hr
  have HOk := Lib.hid hok
  have HL := Lib.hid hl
  clear hr hok hl
  go_enter Tryd.func17, Tryd.ntmps17
  go_wp2_with fail
  go_loopw [3, 4] (fun vn vi wr => ∃ (k n : Nat), k ≤ 30 ∧ k ≤ len ∧ n ≤ 1048576 ∧ vi = .int .i64 k ∧ vn = .int .i64 n ∧ Hid (fewH ((l.take 30).drop k) n = R) ∧ Below w.heap.size w wr) (fun _ vi _ => len - (intOf vi).toNat)
  case atStart => exact ⟨0, 0, by omega, by omega, by omega, rfl, rfl, HR, Below.refl _ _⟩
  case round =>
    clear HR
    obtain ⟨k, n, hk, hkl, hn, rfl, rfl, HF, hbel⟩ := hrel
    by_cases hlt : k < len
    · have hlt' : (k : Int) < len := by omega
      by_cases h30 : k < 30
      · have h30' : (k : Int) < 30 := by omega
        have hlr : k < l.length := by rw [HL.out]; exact hlt
        have hlt2 : k < (l.take 30).length := by rw [List.length_take]; omega
        obtain ⟨bl, off, rfl, hcs⟩ : ∃ b off, ad = some ⟨b, off, none⟩ ∧ ∀ i, (h : i < l.length) → Rw.CE EDh w b (off + i * 3) l[i] := by
          rcases HRw.out with h | h
          · rw [h] at hlr; simp at hlr
          · exact h
        obtain ⟨_, _, d2⟩ := CE_dh (hcs k hlr)
        have x2 := below_cell hbel d2
        have hdk := HOk.out l[k] (List.getElem_mem hlr)
        have HF1 : Hid (fewH (l[k] :: (l.take 30).drop (k + 1)) n = R) := Lib.hid (by
          have h := HF.out
          rw [List.drop_eq_getElem_cons hlt2, List.getElem_take] at h
          exact h)
        clear d2 hcs HF
        generalize l[k] = d at *
        obtain ⟨ds, dn, da, dc, dl⟩ := d
        simp only at x2
        obtain ⟨_, hd1, hd2, hd3, hd4, hd5⟩ := hdk
        simp only at hd1 hd2 hd3 hd4 hd5
        have HB := Lib.hid (rbytes_any da dl dc wr (hd1.below hbel) hd3 (by omega) (fun f hf => ⟨by have := (hd2 f hf).1; omega, by have := (hd2 f hf).2; omega⟩))
        have hbf := bytF_le dl hd2 0 (by omega)
        have HF2 : Hid ((if 1048576 < n + bytF dl 0 then false else fewH ((l.take 30).drop (k + 1)) (n + bytF dl 0)) = R) := HF1
        generalize bytF dl 0 = t at HB hbf HF2
        clear HF1 hd1 hd2
        have hk0 : (0 : Int) ≤ k := by omega
        go_wp2_with fail
        refine (HB.out).mono ?_; rintro e v1 ⟨rfl, b1⟩
        have hb2 := hbel.trans (b1.mono hbel.size)
        clear b1 HB x2
        by_cases hbg : 1048576 < n + t
        · have hbg' : (n : Int) + t > 1048576 := by omega
          have hR : R = false := by rw [← HF2.out, if_pos hbg]
          have HRf := Lib.hid hR
          clear hR HF2
          go_wp2_with fail
          go_ret
          exact ⟨by rw [HRf.out]; rfl, hb2⟩
        · have hbg' : ¬ (n : Int) + t > 1048576 := by omega
          have HF3 := Lib.hid (show fewH ((l.take 30).drop (k + 1)) (n + t) = R by rw [← HF2.out, if_neg hbg])
          clear HF2
          go_wp2_with fail
          go_roundw
          case rel => exact ⟨k + 1, n + t, by omega, by omega, by omega, by go_num, by go_num, HF3, hb2⟩
          case measure => simp [intOf]; omega
      · have h30' : ¬ (k : Int) < 30 := by omega
        have HRt := Lib.hid (show R = true by rw [← HF.out, List.drop_eq_nil_of_le (by rw [List.length_take]; omega), fewH])
        go_wp2_with fail
        go_ret
        exact ⟨by rw [HRt.out]; rfl, hbel⟩
    · have hlt' : ¬ (k : Int) < len := by omega
      have HRt := Lib.hid (show R = true by rw [← HF.out, List.drop_eq_nil_of_le (by rw [List.length_take, HL.out]; omega), fewH])
      go_wp2_with fail
      go_ret
      exact ⟨by rw [HRt.out]; rfl, hbel⟩
end Go.Proofs.YtdkgachgohilcaaDoor

namespace Go.Proofs.YtdkgachgohilcaaDoor
open Go.RowKit
set_option linter.unusedVariables false
namespace Sx
open Go.Proofs.YtdkgachgohilcaaDoor.Obj

/-- What is said of a world depends on the blocks F alone. -/
def Stable (F : List Nat) (P : World → Prop) : Prop := ∀ a b : World, a.heap.size ≤ b.heap.size → (∀ k ∈ F, b.heap[k]? = a.heap[k]?) → P a → P b
abbrev Th := List Nat × (World → Prop)
structure Ob (W w : World) (o : Th) : Prop where
  is : o.2 w
  lo : ∀ k ∈ o.1, W.heap.size ≤ k ∧ k < w.heap.size
  st : Stable o.1 o.2
def Ap (a b : Th) : Prop := ∀ k ∈ a.1, k ∉ b.1
/-- From the world W on there are these things. -/
structure Sts (W w : World) (obs : List Th) : Prop where
  bel : Below W.heap.size W w
  all : ∀ (i : Nat) (o : Th), obs[i]? = some o → Ob W w o
  ap : ∀ (i j : Nat) (x y : Th), i ≠ j → obs[i]? = some x → obs[j]? = some y → Ap x y

theorem Sts.nil (W : World) : Sts W W [] := ⟨Below.refl _ _, fun i o h => by simp at h, fun i j x y _ h => by simp at h⟩
theorem Sts.of_below {W w : World} (h : Below W.heap.size W w) : Sts W w [] := ⟨h, fun i o h => by simp at h, fun i j x y _ h => by simp at h⟩
theorem Sts.le {W w : World} {obs : List Th} (h : Sts W w obs) : W.heap.size ≤ w.heap.size := h.bel.size
theorem Sts.below {W w w' : World} {obs : List Th} (h : Sts W w obs) (hb : Below w.heap.size w w') : Sts W w' obs :=
  ⟨h.bel.trans (hb.mono h.bel.size), fun i o hi => by
    have ho := h.all i o hi
    exact ⟨ho.st w w' hb.size (fun k hk => hb.block k (ho.lo k hk).2) ho.is, fun k hk => ⟨(ho.lo k hk).1, Nat.lt_of_lt_of_le (ho.lo k hk).2 hb.size⟩, ho.st⟩, h.ap⟩
theorem Sts.tail {W w : World} {o : Th} {obs : List Th} (h : Sts W w (o :: obs)) : Sts W w obs :=
  ⟨h.bel, fun i o hi => h.all (i + 1) o (by simpa using hi), fun i j x y hn hi hj => h.ap (i + 1) (j + 1) x y (by omega) (by simpa using hi) (by simpa using hj)⟩
theorem Sts.is {W w : World} {obs : List Th} (h : Sts W w obs) (i : Nat) {F : List Nat} {P : World → Prop} (hi : obs[i]? = some (F, P)) : P w := (h.all i _ hi).is
/-- A thing of the list isn't in what a block below W is. -/
theorem Sts.low {W w : World} {obs : List Th} (h : Sts W w obs) {i : Nat} {F : List Nat} {P : World → Prop} (hi : obs[i]? = some (F, P)) {b : Nat} (hb : b < W.heap.size) : b ∉ F := fun hm => by
  have := ((h.all i _ hi).lo b hm).1; omega
/-- A new thing. -/
theorem Sts.add {W w w' : World} {obs : List Th} (h : Sts W w obs) (hb : Below w.heap.size w w') {F : List Nat} {P : World → Prop} (hF : ∀ k ∈ F, w.heap.size ≤ k ∧ k < w'.heap.size) (hs : Stable F P) (hp : P w') : Sts W w' ((F, P) :: obs) := by
  have h' := h.below hb
  refine ⟨h'.bel, fun i o hi => ?_, fun i j x y hn hi hj => ?_⟩
  · cases i with
    | zero =>
      simp only [List.getElem?_cons_zero, Option.some.injEq] at hi
      subst hi
      exact ⟨hp, fun k hk => ⟨Nat.le_trans h.le (hF k hk).1, (hF k hk).2⟩, hs⟩
    | succ i => exact h'.all i o (by simpa using hi)
  · cases i with
    | zero =>
      simp only [List.getElem?_cons_zero, Option.some.injEq] at hi
      subst hi
      cases j with
      | zero => exact absurd rfl hn
      | succ j =>
        intro k hk hm
        have h1 := (hF k hk).1
        have h2 := ((h.all j y (by simpa using hj)).lo k hm).2
        omega
    | succ i =>
      cases j with
      | zero =>
        simp only [List.getElem?_cons_zero, Option.some.injEq] at hj
        subst hj
        intro k hk hm
        have h1 := (hF k hm).1
        have h2 := ((h.all i x (by simpa using hi)).lo k hk).2
        omega
      | succ j => exact h'.ap i j x y (by omega) (by simpa using hi) (by simpa using hj)
/-- A thing becomes another one, and beside it there is one more. -/
theorem Sts.turnAdd {W w w' : World} {obs : List Th} (h : Sts W w obs) {i : Nat} {F F' G : List Nat} {P P' Q : World → Prop} (hi : obs[i]? = some (F, P)) (hk : Kept F w w')
    (hn : ∀ k ∈ F', k ∈ F ∨ w.heap.size ≤ k) (hl : ∀ k ∈ F', k < w'.heap.size) (hs : Stable F' P') (hp : P' w')
    (hG : ∀ k ∈ G, (k ∈ F ∨ w.heap.size ≤ k) ∧ k ∉ F' ∧ k < w'.heap.size) (hsQ : Stable G Q) (hq : Q w') : Sts W w' ((G, Q) :: obs.set i (F', P')) := by
  have hF := (h.all i _ hi).lo
  have hbel : Below W.heap.size W w' := Kept.below h.bel hk (fun k hkF => (hF k hkF).1) h.le
  have new : ∀ {k : Nat}, k ∈ F ∨ w.heap.size ≤ k → W.heap.size ≤ k := fun {k} hk => by
    rcases hk with h1 | h1
    · exact (hF k h1).1
    · exact Nat.le_trans h.le h1
  have apart : ∀ {j : Nat} {y : Th} {k : Nat}, i ≠ j → obs[j]? = some y → (k ∈ F ∨ w.heap.size ≤ k) → k ∉ y.1 := fun {j y k} hj hy hk hm => by
    rcases hk with h1 | h1
    · exact h.ap i j _ y hj hi hy k h1 hm
    · have := ((h.all j y hy).lo k hm).2; omega
  have get : ∀ {j : Nat} {y : Th}, (obs.set i (F', P'))[j]? = some y → (i = j ∧ y = (F', P')) ∨ (i ≠ j ∧ obs[j]? = some y) := fun {j y} hy => by
    by_cases hij : i = j
    · subst hij
      rw [List.getElem?_set_self (List.getElem?_eq_some_iff.1 hi).1] at hy
      exact .inl ⟨rfl, (Option.some.inj hy).symm⟩
    · rw [List.getElem?_set_ne hij] at hy
      exact .inr ⟨hij, hy⟩
  refine ⟨hbel, fun j o hj => ?_, fun a b x y hn' ha hb => ?_⟩
  · cases j with
    | zero =>
      simp only [List.getElem?_cons_zero, Option.some.injEq] at hj
      subst hj
      exact ⟨hq, fun k hk => ⟨new (hG k hk).1, (hG k hk).2.2⟩, hsQ⟩
    | succ j =>
      rcases get (by simpa using hj) with ⟨rfl, rfl⟩ | ⟨hij, hj'⟩
      · exact ⟨hp, fun k hk => ⟨new (hn k hk), hl k hk⟩, hs⟩
      · have ho := h.all j o hj'
        exact ⟨ho.st w w' hk.size (fun k hko => hk.block k (ho.lo k hko).2 (fun hm => h.ap i j _ o hij hi hj' k hm hko)) ho.is, fun k hko => ⟨(ho.lo k hko).1, Nat.lt_of_lt_of_le (ho.lo k hko).2 hk.size⟩, ho.st⟩
  · cases a with
    | zero =>
      simp only [List.getElem?_cons_zero, Option.some.injEq] at ha
      subst ha
      cases b with
      | zero => exact absurd rfl hn'
      | succ b =>
        rcases get (by simpa using hb) with ⟨rfl, rfl⟩ | ⟨hij, hj'⟩
        · exact fun k hk => (hG k hk).2.1
        · exact fun k hk => apart hij hj' (hG k hk).1
    | succ a =>
      cases b with
      | zero =>
        simp only [List.getElem?_cons_zero, Option.some.injEq] at hb
        subst hb
        rcases get (by simpa using ha) with ⟨rfl, rfl⟩ | ⟨hij, hj'⟩
        · exact fun k hk hm => (hG k hm).2.1 hk
        · exact fun k hk hm => apart hij hj' (hG k hm).1 hk
      | succ b =>
        rcases get (by simpa using ha) with ⟨rfl, rfl⟩ | ⟨hia, ha'⟩
        · rcases get (by simpa using hb) with ⟨rfl, rfl⟩ | ⟨hij, hj'⟩
          · exact absurd rfl hn'
          · exact fun k hk => apart hij hj' (hn k hk)
        · rcases get (by simpa using hb) with ⟨rfl, rfl⟩ | ⟨hij, hj'⟩
          · exact fun k hk hm => apart hia ha' (hn k hm) hk
          · exact h.ap a b x y (by omega) ha' hj'
/-- A thing becomes another one. -/
theorem Sts.turn {W w w' : World} {obs : List Th} (h : Sts W w obs) {i : Nat} {F F' : List Nat} {P P' : World → Prop} (hi : obs[i]? = some (F, P)) (hk : Kept F w w')
    (hn : ∀ k ∈ F', k ∈ F ∨ w.heap.size ≤ k) (hl : ∀ k ∈ F', k < w'.heap.size) (hs : Stable F' P') (hp : P' w') : Sts W w' (obs.set i (F', P')) :=
  (h.turnAdd (G := []) (Q := fun _ => True) hi hk hn hl hs hp (fun k hk => by cases hk) (fun _ _ _ _ h => h) trivial).tail
/-- The block of a slice's row. -/
def blk : Option Addr → List Nat
  | none => []
  | some a => [a.block]
theorem mem_blk {ad : Option Addr} {k : Nat} (h : k ∈ blk ad) : ∃ o s, ad = some ⟨k, o, s⟩ := by
  cases ad with
  | none => cases h
  | some a =>
    simp only [blk, List.mem_singleton] at h
    subst h
    exact ⟨a.off, a.spot, rfl⟩
/-- Two things apart: a block of the one isn't the other's. -/
theorem Sts.apart {W w : World} {obs : List Th} (h : Sts W w obs) (i j : Nat) {F G : List Nat} {P Q : World → Prop} (hi : obs[i]? = some (F, P)) (hj : obs[j]? = some (G, Q)) (hij : i ≠ j) : ∀ k ∈ F, k ∉ G := h.ap i j _ _ hij hi hj
end Sx
end Go.Proofs.YtdkgachgohilcaaDoor
