/- Layer 6: the document's ranges. Layer 6: the document's May, region by region. Layer 6: the document's May: its last region; the whole. Layer 6: a frame's block, cell by cell. Layer 6: the document's sized. -/
import Derived.Test.YtglhdlkmgmbgeaaDoorGP04
import Derived.LoopTactic
import Derived.BigGuardPart
import Derived.Laws.Closers25
import Derived.Test.YtglhdlkmgmbgeaaDoorGP07
import Derived.Test.YtglhdlkmgmbgeaaDoorGP03
import Derived.WalkKit
import Derived.Deep.RegionHeld3
import Derived.Test.YtglhdlkmgmbgeaaDoorGP05
set_option linter.unusedVariables false
set_option linter.unusedSimpArgs false
namespace Go.Proofs.YtglhdlkmgmbgeaaDoor
open Go.RowKit
open Fra Oct Mem Gen Go.Proofs.YtglhdlkmgmbgeaaDoor.Obj
set_option linter.unusedVariables false
set_option linter.unusedSimpArgs false

def numsB (f : FrM) : Bool :=
  decide (0 ≤ f.type ∧ f.type ≤ 255 ∧ 0 ≤ f.flags ∧ f.flags ≤ 255 ∧ 0 ≤ f.pad ∧ f.pad ≤ 255 ∧ 0 ≤ f.weight ∧ f.weight ≤ 255 ∧ 0 ≤ f.stream ∧ f.stream ≤ 2147483647 ∧ 0 ≤ f.last ∧ f.last ≤ 2147483647 ∧
    0 ≤ f.dep ∧ f.dep ≤ 2147483647 ∧ 0 ≤ f.inc ∧ f.inc ≤ 2147483647)
theorem ranges_parts (f : FrM) : rangesB f = (numsB f && (f.sets.all setOk && decide (0 ≤ f.code ∧ f.code ≤ 4294967295))) := by
  rw [Bool.eq_iff_iff]
  simp only [rangesB, numsB, Bool.and_eq_true, decide_eq_true_eq]
  constructor
  · rintro ⟨h1, h2⟩; exact ⟨by omega, h2, by omega⟩
  · rintro ⟨h1, h2, h3⟩; exact ⟨by omega, h2⟩

set_option maxRecDepth 100000 in
set_option maxHeartbeats 2000000 in
theorem rranges_any (f : FrM) (sa : Option Addr) (sc : Nat) (w : World) (hok : FrOk f sa sc w) :
    Calls Tryd.prog 29 #[frV f sa sc] w fun e w' => e = .returned (.bool (rangesB f)) ∧ Below w.heap.size w w' := by
  have hrp := ranges_parts f
  obtain ⟨hrow, hlen, hcap⟩ := hok
  unfold maxLen at hcap
  have HRow := Lib.hid hrow
  obtain ⟨t, fl, st, data, pad, sets, code, last, inc, dep, weight, sole⟩ := f
  simp only at *
  rw [hrp]
  unfold frV frC
  simp only [numsB]
  clear hrp hrow
  obtain ⟨n, hn⟩ : ∃ n, n = sets.length := ⟨_, rfl⟩
  rw [← hn] at hlen ⊢
  have HN := Lib.hid hn
  clear hn
  by_cases hnum : 0 ≤ t ∧ t ≤ 255 ∧ 0 ≤ fl ∧ fl ≤ 255 ∧ 0 ≤ pad ∧ pad ≤ 255 ∧ 0 ≤ weight ∧ weight ≤ 255 ∧ 0 ≤ st ∧ st ≤ 2147483647 ∧ 0 ≤ last ∧ last ≤ 2147483647 ∧ 0 ≤ dep ∧ dep ≤ 2147483647 ∧ 0 ≤ inc ∧ inc ≤ 2147483647
  · rw [decide_eq_true hnum, Bool.true_and]
    obtain ⟨a1, a2, a3, a4, a5, a6, a7, a8, a9, a10, a11, a12, a13, a14, a15, a16⟩ := hnum
    have b1 : ¬ t < 0 := by omega
    have b2 : ¬ t > 255 := by omega
    have b3 : ¬ fl < 0 := by omega
    have b4 : ¬ fl > 255 := by omega
    have b5 : ¬ pad < 0 := by omega
    have b6 : ¬ pad > 255 := by omega
    have b7 : ¬ weight < 0 := by omega
    have b8 : ¬ weight > 255 := by omega
    have b9 : ¬ st < 0 := by omega
    have b10 : ¬ st > 2147483647 := by omega
    have b11 : ¬ last < 0 := by omega
    have b12 : ¬ last > 2147483647 := by omega
    have b13 : ¬ dep < 0 := by omega
    have b14 : ¬ dep > 2147483647 := by omega
    have b15 : ¬ inc < 0 := by omega
    have b16 : ¬ inc > 2147483647 := by omega
    clear a1 a2 a3 a4 a5 a6 a7 a8 a9 a10 a11 a12 a13 a14 a15 a16
    obtain ⟨R, hR⟩ : ∃ x, x = (sets.all setOk && decide (0 ≤ code ∧ code ≤ 4294967295)) := ⟨_, rfl⟩
    rw [← hR]
    have HR := Lib.hid hR
    clear hR
    go_enter Tryd.func29, Tryd.ntmps29
    go_wp2_with fail
    have hbx := heap_alloc_new w (.cells #[.int .i64 t, .int .i64 fl, .int .i64 st, .string data, .int .i64 pad, .slice sa n sc, .int .i64 code, .int .i64 last, .int .i64 inc, .int .i64 dep, .int .i64 weight, .bool sole] 40)
    have hbb : Below w.heap.size w (w.alloc (.cells #[.int .i64 t, .int .i64 fl, .int .i64 st, .string data, .int .i64 pad, .slice sa n sc, .int .i64 code, .int .i64 last, .int .i64 inc, .int .i64 dep, .int .i64 weight, .bool sole] 40)) := (Below.refl _ _).alloc (Nat.le_refl _) _
    generalize w.alloc (.cells #[.int .i64 t, .int .i64 fl, .int .i64 st, .string data, .int .i64 pad, .slice sa n sc, .int .i64 code, .int .i64 last, .int .i64 inc, .int .i64 dep, .int .i64 weight, .bool sole] 40) = w1 at hbx hbb ⊢
    have HRow1 := Lib.hid (HRow.out.below hbb)
    have HBB := Lib.hid hbb
    generalize w.heap.size = bx at hbx ⊢
    have HBx := Lib.hid hbx
    clear hbx hbb HRow
    go_loopw [3] (fun i wr => ∃ k : Nat, i = .int .i64 k ∧ k ≤ n ∧ Hid (Below w1.heap.size w1 wr) ∧ Hid (((sets.drop k).all setOk && decide (0 ≤ code ∧ code ≤ 4294967295)) = R)) (fun i _ => n - (intOf i).toNat)
    case atStart => exact ⟨0, by rfl, Nat.zero_le _, Lib.hid (Below.refl _ _), Lib.hid (by rw [HR.out]; simp)⟩
    case round =>
      obtain ⟨k, rfl, hk, HB, HD⟩ := hrel
      have x5 : wr.cell? ⟨bx, 5, none⟩ = some (.slice sa n sc) := cell_at (block_below HB.out HBx.out) 5
      have x6 : wr.cell? ⟨bx, 6, none⟩ = some (.int .i64 code) := cell_at (block_below HB.out HBx.out) 6
      by_cases hlt : k < n
      · have hlt' : (k : Int) < n := by omega
        have hka : k < sets.length := by rw [← HN.out]; exact hlt
        obtain ⟨b1, o1, rfl, hc⟩ : ∃ b off, sa = some ⟨b, off, none⟩ ∧ ∀ i, (h : i < sets.length) → Rw.CE ESt w1 b (off + i * 2) sets[i] := by
          rcases HRow1.out with h | h
          · rw [h] at hka; simp at hka
          · exact h
        obtain ⟨c0, c1⟩ := CE_st (hc k hka)
        have c0 := below_cell HB.out c0
        have c1 := below_cell HB.out c1
        have HS := Lib.hid (show (sets.drop k).all setOk = (setOk sets[k] && (sets.drop (k + 1)).all setOk) by rw [List.drop_eq_getElem_cons hka, List.all_cons])
        generalize sets[k] = s at c0 c1 HS
        obtain ⟨id, val⟩ := s
        simp only at c0 c1
        clear hc
        by_cases hs : 0 ≤ id ∧ id ≤ 65535 ∧ 0 ≤ val ∧ val ≤ 4294967295
        · have HRk := Lib.hid (show ((sets.drop (k + 1)).all setOk && decide (0 ≤ code ∧ code ≤ 4294967295)) = R by rw [← HD.out, HS.out, setOk, decide_eq_true hs, Bool.true_and])
          obtain ⟨d1, d2, d3, d4⟩ := hs
          have e1 : ¬ id < 0 := by omega
          have e2 : ¬ id > 65535 := by omega
          have e3 : ¬ val < 0 := by omega
          have e4 : ¬ val > 4294967295 := by omega
          clear d1 d2 d3 d4 HD HS
          go_wp2_with fail
          go_roundw
          case rel => exact ⟨k + 1, by go_num, by omega, Lib.hid (HB.out.alloc HB.out.size _), HRk⟩
          case measure => simp [intOf]; omega
        · have HRf := Lib.hid (show R = false by rw [← HD.out, HS.out, setOk, decide_eq_false hs, Bool.false_and, Bool.false_and])
          clear HD HS
          go_wp2_with fail
          all_goals first
            | (go_ret; exact ⟨by rw [HRf.out]; rfl, HBB.out.trans (((HB.out.alloc HB.out.size _)).mono HBB.out.size)⟩)
            | (exfalso; omega)
      · have hlt' : ¬ (k : Int) < n := by omega
        have hV : R = decide (0 ≤ code ∧ code ≤ 4294967295) := by rw [← HD.out, List.drop_eq_nil_of_le (by rw [← HN.out]; omega)]; rfl
        clear HD
        by_cases hcd : 0 ≤ code ∧ code ≤ 4294967295
        · have hRt : R = true := by rw [hV, decide_eq_true hcd]
          have HRt := Lib.hid hRt
          obtain ⟨d1, d2⟩ := hcd
          clear hV hRt
          go_wp2_with fail
          go_ret
          exact ⟨by rw [HRt.out]; simp [d1, d2], HBB.out.trans (HB.out.mono HBB.out.size)⟩
        · have hRf : R = false := by rw [hV, decide_eq_false hcd]
          have HRf := Lib.hid hRf
          clear hV hRf
          have hcd2 : code < 0 ∨ 4294967295 < code := by omega
          rcases hcd2 with h1 | h1
          · have h2 : ¬ code ≥ 0 := by omega
            go_wp2_with fail
            go_ret
            exact ⟨by rw [HRf.out]; rfl, HBB.out.trans (HB.out.mono HBB.out.size)⟩
          · have h2 : code ≥ 0 := by omega
            have h3 : ¬ code ≤ 4294967295 := by omega
            go_wp2_with fail
            go_ret
            exact ⟨by rw [HRf.out]; simp <;> omega, HBB.out.trans (HB.out.mono HBB.out.size)⟩
  · rw [decide_eq_false hnum, Bool.false_and]
    clear HRow
    go_enter Tryd.func29, Tryd.ntmps29
    go_wp2_with fail
    all_goals first
      | (go_ret; exact ⟨rfl, (Below.refl _ _).alloc (Nat.le_refl _) _⟩)
      | (exfalso; omega)
end Go.Proofs.YtglhdlkmgmbgeaaDoor

namespace Go.Proofs.YtglhdlkmgmbgeaaDoor
open Go.RowKit
open Fra Oct Mem Gen Go.Proofs.YtglhdlkmgmbgeaaDoor.Obj
set_option linter.unusedVariables false
set_option linter.unusedSimpArgs false


set_option maxRecDepth 100000 in
set_option maxHeartbeats 2000000 in
theorem may_r3 {Q : Exit → Act → World → Prop} {bx : Nat} {t : Int} (a : Act) (w : World) (c0 : w.cell? ⟨bx, 0, none⟩ = some (.int .i64 t))
    (ha : Fr.Is 117 [(1, .pointer (some ⟨bx, 0, none⟩))] a)
    (hQ : Hid (∀ a' , Fr.Is 117 [(1, .pointer (some ⟨bx, 0, none⟩)), (3, .int .i64 t)] a' → Q .normal a' w)) :
    (Fr.reg Tryd.f20 3).wp Tryd.prog Q a w := by
  obtain ⟨fr, rfl, hfr⟩ := ha.lit
  simp only [List.map_cons, List.map_nil, List.cons.injEq, and_true] at hfr
  conv => arg 2; whnf
  simp only [List.range, List.range.loop, List.map_cons, List.map_nil, hfr]
  clear hfr ha
  go_wp2_with fail
  exact hQ.out _ (Fr.Is.mk rfl rfl)

set_option maxRecDepth 100000 in
set_option maxHeartbeats 2000000 in
theorem may_r4 {Q : Exit → Act → World → Prop} {bx : Nat} {t fl : Int} (a : Act) (w : World) (c1 : w.cell? ⟨bx, 1, none⟩ = some (.int .i64 fl)) (h0 : 0 ≤ fl) (h1 : fl ≤ 255)
    (ha : Fr.Is 117 [(1, .pointer (some ⟨bx, 0, none⟩)), (3, .int .i64 t)] a)
    (hQ : Hid (∀ a' , Fr.Is 117 [(1, .pointer (some ⟨bx, 0, none⟩)), (3, .int .i64 t), (4, .bool ((decide (t = 0) && hasF fl 8) || (decide (t = 1) && hasF fl 8)))] a' → Q .normal a' w)) :
    (Fr.reg Tryd.f20 4).wp Tryd.prog Q a w := by
  obtain ⟨fr, rfl, hfr⟩ := ha.lit
  simp only [List.map_cons, List.map_nil, List.cons.injEq, and_true] at hfr
  conv => arg 2; whnf
  simp only [List.range, List.range.loop, List.map_cons, List.map_nil, hfr]
  clear hfr ha
  have HA := Lib.hid (fun v => rhas_any t fl 0 8 v h0 h1 (by decide) (by decide))
  have HB := Lib.hid (fun v => rhas_any t fl 1 8 v h0 h1 (by decide) (by decide))
  generalize (decide (t = 0) && hasF fl 8) = p at HA hQ
  generalize (decide (t = 1) && hasF fl 8) = q at HB hQ
  cases p
  · go_wp2_with fail
    refine (HA.out _).mono ?_; rintro e w2 ⟨rfl, rfl⟩
    go_wp2_with fail
    refine (HB.out _).mono ?_; rintro e w2 ⟨rfl, rfl⟩
    go_wp2_with fail
    exact hQ.out _ (Fr.Is.mk rfl rfl)
  · go_wp2_with fail
    refine (HA.out _).mono ?_; rintro e w2 ⟨rfl, rfl⟩
    go_wp2_with fail
    exact hQ.out _ (Fr.Is.mk rfl rfl)

set_option maxRecDepth 100000 in
set_option maxHeartbeats 2000000 in
theorem may_r5 {Q : Exit → Act → World → Prop} {bx : Nat} {t fl : Int} {b4 : Bool} (a : Act) (w : World) (c1 : w.cell? ⟨bx, 1, none⟩ = some (.int .i64 fl)) (h0 : 0 ≤ fl) (h1 : fl ≤ 255)
    (ha : Fr.Is 117 [(1, .pointer (some ⟨bx, 0, none⟩)), (3, .int .i64 t), (4, .bool b4)] a)
    (hQ : Hid (∀ a' , Fr.Is 117 [(1, .pointer (some ⟨bx, 0, none⟩)), (3, .int .i64 t), (4, .bool b4), (5, .bool (decide (t = 2) || (decide (t = 1) && hasF fl 32)))] a' → Q .normal a' w)) :
    (Fr.reg Tryd.f20 5).wp Tryd.prog Q a w := by
  obtain ⟨fr, rfl, hfr⟩ := ha.lit
  simp only [List.map_cons, List.map_nil, List.cons.injEq, and_true] at hfr
  conv => arg 2; whnf
  simp only [List.range, List.range.loop, List.map_cons, List.map_nil, hfr]
  clear hfr ha
  have HA := Lib.hid (fun v => rhas_any t fl 1 32 v h0 h1 (by decide) (by decide))
  generalize (decide (t = 1) && hasF fl 32) = p at HA hQ
  by_cases ht : t = 2
  · subst ht
    go_wp2_with fail
    exact hQ.out _ (Fr.Is.mk rfl rfl)
  · rw [decide_eq_false ht] at hQ
    have ht' : (t == 2) = false := by simp [ht]
    go_wp2_with fail
    refine (HA.out _).mono ?_; rintro e w2 ⟨rfl, rfl⟩
    go_wp2_with fail
    exact hQ.out _ (Fr.Is.mk rfl (by simp))

set_option maxRecDepth 100000 in
set_option maxHeartbeats 2000000 in
theorem may_r6 {Q : Exit → Act → World → Prop} {bx : Nat} {t : Int} {b4 b5 : Bool} (a : Act) (w : World) 
    (ha : Fr.Is 117 [(1, .pointer (some ⟨bx, 0, none⟩)), (3, .int .i64 t), (4, .bool b4), (5, .bool b5)] a)
    (hQ : Hid (∀ a' , Fr.Is 117 [(1, .pointer (some ⟨bx, 0, none⟩)), (3, .int .i64 t), (4, .bool b4), (5, .bool b5), (6, .bool (!decide (t = 2 ∨ t = 3 ∨ t = 4 ∨ t = 8)))] a' → Q .normal a' w)) :
    (Fr.reg Tryd.f20 6).wp Tryd.prog Q a w := by
  obtain ⟨fr, rfl, hfr⟩ := ha.lit
  simp only [List.map_cons, List.map_nil, List.cons.injEq, and_true] at hfr
  conv => arg 2; whnf
  simp only [List.range, List.range.loop, List.map_cons, List.map_nil, hfr]
  clear hfr ha
  by_cases h : t = 2 ∨ t = 3 ∨ t = 4 ∨ t = 8
  · rw [decide_eq_true h] at hQ
    rcases h with rfl | rfl | rfl | rfl
    all_goals
      go_wp2_with fail
      exact hQ.out _ (Fr.Is.mk rfl rfl)
  · rw [decide_eq_false h] at hQ
    have h2 : ¬ t = 2 ∧ ¬ t = 3 ∧ ¬ t = 4 ∧ ¬ t = 8 := by omega
    obtain ⟨a2, a3, a4, a8⟩ := h2
    have b2 : (t == 2) = false := by simp [a2]
    have b3 : (t == 3) = false := by simp [a3]
    have b4' : (t == 4) = false := by simp [a4]
    have b8 : (t == 8) = false := by simp [a8]
    clear h
    go_wp2_with fail
    exact hQ.out _ (Fr.Is.mk rfl (by simp [a2, a3, a4, a8]))

set_option maxRecDepth 100000 in
set_option maxHeartbeats 4000000 in
theorem may_r7 {Q : Exit → Act → World → Prop} {bx : Nat} {pad dep weight : Int} {sole b4 b5 b6 kd : Bool} {data : ByteArray} {t : Int} (a : Act) (w : World) (c4 : w.cell? ⟨bx, 4, none⟩ = some (.int .i64 pad)) (c9 : w.cell? ⟨bx, 9, none⟩ = some (.int .i64 dep)) (c10 : w.cell? ⟨bx, 10, none⟩ = some (.int .i64 weight)) (c11 : w.cell? ⟨bx, 11, none⟩ = some (.bool sole)) (c3 : w.cell? ⟨bx, 3, none⟩ = some (.string data)) (hkd : (data.toList == []) = kd)
    (ha : Fr.Is 117 [(1, .pointer (some ⟨bx, 0, none⟩)), (3, .int .i64 t), (4, .bool b4), (5, .bool b5), (6, .bool b6)] a)
    (hQ : Hid (∀ a' v, Fr.Is 117 [(1, .pointer (some ⟨bx, 0, none⟩)), (3, .int .i64 t), (4, .bool b4), (5, .bool b5), (6, .bool b6), (77, .bool v)] a' → v = ((!decide (pad = 0) && !b4) || ((!decide (dep = 0) || (!decide (weight = 0) || sole)) && !b5) || (!kd && !b6)) → Q .normal a' w)) :
    (Fr.reg Tryd.f20 7).wp Tryd.prog Q a w := by
  obtain ⟨fr, rfl, hfr⟩ := ha.lit
  simp only [List.map_cons, List.map_nil, List.cons.injEq, and_true] at hfr
  conv => arg 2; whnf
  simp only [List.range, List.range.loop, List.map_cons, List.map_nil, hfr]
  clear hfr ha
  cases kd
  · skip
    try simp only [List.append_eq, List.cons_append, List.nil_append]
    by_cases hpad : pad = 0
    · have kpad : (pad == 0) = true := by simp [hpad]
      by_cases hdep : dep = 0
      · have kdep : (dep == 0) = true := by simp [hdep]
        by_cases hweight : weight = 0
        · have kweight : (weight == 0) = true := by simp [hweight]
          cases sole
          · skip
            cases b6
            · skip
              go_wp2_with fail
              exact hQ.out _ _ (Fr.Is.mk rfl rfl) (by simp [*])
            · skip
              go_wp2_with fail
              exact hQ.out _ _ (Fr.Is.mk rfl rfl) (by simp [*])
          · skip
            cases b5
            · skip
              go_wp2_with fail
              exact hQ.out _ _ (Fr.Is.mk rfl rfl) (by simp [*])
            · skip
              cases b6
              · skip
                go_wp2_with fail
                exact hQ.out _ _ (Fr.Is.mk rfl rfl) (by simp [*])
              · skip
                go_wp2_with fail
                exact hQ.out _ _ (Fr.Is.mk rfl rfl) (by simp [*])
        · have kweight : (weight == 0) = false := by simp [hweight]
          cases b5
          · skip
            go_wp2_with fail
            exact hQ.out _ _ (Fr.Is.mk rfl rfl) (by simp [*])
          · skip
            cases b6
            · skip
              go_wp2_with fail
              exact hQ.out _ _ (Fr.Is.mk rfl rfl) (by simp [*])
            · skip
              go_wp2_with fail
              exact hQ.out _ _ (Fr.Is.mk rfl rfl) (by simp [*])
      · have kdep : (dep == 0) = false := by simp [hdep]
        cases b5
        · skip
          go_wp2_with fail
          exact hQ.out _ _ (Fr.Is.mk rfl rfl) (by simp [*])
        · skip
          cases b6
          · skip
            go_wp2_with fail
            exact hQ.out _ _ (Fr.Is.mk rfl rfl) (by simp [*])
          · skip
            go_wp2_with fail
            exact hQ.out _ _ (Fr.Is.mk rfl rfl) (by simp [*])
    · have kpad : (pad == 0) = false := by simp [hpad]
      cases b4
      · skip
        go_wp2_with fail
        exact hQ.out _ _ (Fr.Is.mk rfl rfl) (by simp [*])
      · skip
        by_cases hdep : dep = 0
        · have kdep : (dep == 0) = true := by simp [hdep]
          by_cases hweight : weight = 0
          · have kweight : (weight == 0) = true := by simp [hweight]
            cases sole
            · skip
              cases b6
              · skip
                go_wp2_with fail
                exact hQ.out _ _ (Fr.Is.mk rfl rfl) (by simp [*])
              · skip
                go_wp2_with fail
                exact hQ.out _ _ (Fr.Is.mk rfl rfl) (by simp [*])
            · skip
              cases b5
              · skip
                go_wp2_with fail
                exact hQ.out _ _ (Fr.Is.mk rfl rfl) (by simp [*])
              · skip
                cases b6
                · skip
                  go_wp2_with fail
                  exact hQ.out _ _ (Fr.Is.mk rfl rfl) (by simp [*])
                · skip
                  go_wp2_with fail
                  exact hQ.out _ _ (Fr.Is.mk rfl rfl) (by simp [*])
          · have kweight : (weight == 0) = false := by simp [hweight]
            cases b5
            · skip
              go_wp2_with fail
              exact hQ.out _ _ (Fr.Is.mk rfl rfl) (by simp [*])
            · skip
              cases b6
              · skip
                go_wp2_with fail
                exact hQ.out _ _ (Fr.Is.mk rfl rfl) (by simp [*])
              · skip
                go_wp2_with fail
                exact hQ.out _ _ (Fr.Is.mk rfl rfl) (by simp [*])
        · have kdep : (dep == 0) = false := by simp [hdep]
          cases b5
          · skip
            go_wp2_with fail
            exact hQ.out _ _ (Fr.Is.mk rfl rfl) (by simp [*])
          · skip
            cases b6
            · skip
              go_wp2_with fail
              exact hQ.out _ _ (Fr.Is.mk rfl rfl) (by simp [*])
            · skip
              go_wp2_with fail
              exact hQ.out _ _ (Fr.Is.mk rfl rfl) (by simp [*])
  · skip
    try simp only [List.append_eq, List.cons_append, List.nil_append]
    by_cases hpad : pad = 0
    · have kpad : (pad == 0) = true := by simp [hpad]
      by_cases hdep : dep = 0
      · have kdep : (dep == 0) = true := by simp [hdep]
        by_cases hweight : weight = 0
        · have kweight : (weight == 0) = true := by simp [hweight]
          cases sole
          · skip
            cases b6
            · skip
              go_wp2_with fail
              exact hQ.out _ _ (Fr.Is.mk rfl rfl) (by simp [*])
            · skip
              go_wp2_with fail
              exact hQ.out _ _ (Fr.Is.mk rfl rfl) (by simp [*])
          · skip
            cases b5
            · skip
              go_wp2_with fail
              exact hQ.out _ _ (Fr.Is.mk rfl rfl) (by simp [*])
            · skip
              cases b6
              · skip
                go_wp2_with fail
                exact hQ.out _ _ (Fr.Is.mk rfl rfl) (by simp [*])
              · skip
                go_wp2_with fail
                exact hQ.out _ _ (Fr.Is.mk rfl rfl) (by simp [*])
        · have kweight : (weight == 0) = false := by simp [hweight]
          cases b5
          · skip
            go_wp2_with fail
            exact hQ.out _ _ (Fr.Is.mk rfl rfl) (by simp [*])
          · skip
            cases b6
            · skip
              go_wp2_with fail
              exact hQ.out _ _ (Fr.Is.mk rfl rfl) (by simp [*])
            · skip
              go_wp2_with fail
              exact hQ.out _ _ (Fr.Is.mk rfl rfl) (by simp [*])
      · have kdep : (dep == 0) = false := by simp [hdep]
        cases b5
        · skip
          go_wp2_with fail
          exact hQ.out _ _ (Fr.Is.mk rfl rfl) (by simp [*])
        · skip
          cases b6
          · skip
            go_wp2_with fail
            exact hQ.out _ _ (Fr.Is.mk rfl rfl) (by simp [*])
          · skip
            go_wp2_with fail
            exact hQ.out _ _ (Fr.Is.mk rfl rfl) (by simp [*])
    · have kpad : (pad == 0) = false := by simp [hpad]
      cases b4
      · skip
        go_wp2_with fail
        exact hQ.out _ _ (Fr.Is.mk rfl rfl) (by simp [*])
      · skip
        by_cases hdep : dep = 0
        · have kdep : (dep == 0) = true := by simp [hdep]
          by_cases hweight : weight = 0
          · have kweight : (weight == 0) = true := by simp [hweight]
            cases sole
            · skip
              cases b6
              · skip
                go_wp2_with fail
                exact hQ.out _ _ (Fr.Is.mk rfl rfl) (by simp [*])
              · skip
                go_wp2_with fail
                exact hQ.out _ _ (Fr.Is.mk rfl rfl) (by simp [*])
            · skip
              cases b5
              · skip
                go_wp2_with fail
                exact hQ.out _ _ (Fr.Is.mk rfl rfl) (by simp [*])
              · skip
                cases b6
                · skip
                  go_wp2_with fail
                  exact hQ.out _ _ (Fr.Is.mk rfl rfl) (by simp [*])
                · skip
                  go_wp2_with fail
                  exact hQ.out _ _ (Fr.Is.mk rfl rfl) (by simp [*])
          · have kweight : (weight == 0) = false := by simp [hweight]
            cases b5
            · skip
              go_wp2_with fail
              exact hQ.out _ _ (Fr.Is.mk rfl rfl) (by simp [*])
            · skip
              cases b6
              · skip
                go_wp2_with fail
                exact hQ.out _ _ (Fr.Is.mk rfl rfl) (by simp [*])
              · skip
                go_wp2_with fail
                exact hQ.out _ _ (Fr.Is.mk rfl rfl) (by simp [*])
        · have kdep : (dep == 0) = false := by simp [hdep]
          cases b5
          · skip
            go_wp2_with fail
            exact hQ.out _ _ (Fr.Is.mk rfl rfl) (by simp [*])
          · skip
            cases b6
            · skip
              go_wp2_with fail
              exact hQ.out _ _ (Fr.Is.mk rfl rfl) (by simp [*])
            · skip
              go_wp2_with fail
              exact hQ.out _ _ (Fr.Is.mk rfl rfl) (by simp [*])
end Go.Proofs.YtglhdlkmgmbgeaaDoor

namespace Go.Proofs.YtglhdlkmgmbgeaaDoor
open Go.RowKit
open Fra Oct Mem Gen Go.Proofs.YtglhdlkmgmbgeaaDoor.Obj
set_option linter.unusedVariables false
set_option linter.unusedSimpArgs false


set_option maxRecDepth 100000 in
set_option maxHeartbeats 4000000 in
theorem may_r9 {Q : Exit → Act → World → Prop} {bx : Nat} {code last inc : Int} {n sc : Nat} {sa : Option Addr} {t : Int} (a : Act) (w : World) (c5 : w.cell? ⟨bx, 5, none⟩ = some (.slice sa n sc)) (c6 : w.cell? ⟨bx, 6, none⟩ = some (.int .i64 code)) (c7 : w.cell? ⟨bx, 7, none⟩ = some (.int .i64 last)) (c8 : w.cell? ⟨bx, 8, none⟩ = some (.int .i64 inc))
    (ha : Fr.Is 117 [(1, .pointer (some ⟨bx, 0, none⟩)), (3, .int .i64 t)] a)
    (hQ : Hid (∀ a' v, Fr.Is 117 [(2, .bool v)] a' → v = ((decide (n = 0) || decide (t = 4)) && ((decide (code = 0) || (decide (t = 3) || decide (t = 7))) && ((decide (last = 0) || decide (t = 7)) && (decide (inc = 0) || decide (t = 8))))) → Q .normal a' w)) :
    (Fr.reg Tryd.f20 9).wp Tryd.prog Q a w := by
  obtain ⟨fr, rfl, hfr⟩ := ha.lit
  simp only [List.map_cons, List.map_nil, List.cons.injEq, and_true] at hfr
  conv => arg 2; whnf
  simp only [List.range, List.range.loop, List.map_cons, List.map_nil, hfr]
  clear hfr ha
  try simp only [List.append_eq, List.cons_append, List.nil_append]
  by_cases ht4 : t = 4
  · subst t
    by_cases hn : n = 0
    · have kn : ((n : Int) == 0) = true := by simp [hn]
      by_cases hcode : code = 0
      · have kcode : (code == 0) = true := by simp [hcode]
        by_cases hlast : last = 0
        · have klast : (last == 0) = true := by simp [hlast]
          by_cases hinc : inc = 0
          · have kinc : (inc == 0) = true := by simp [hinc]
            go_wp2_with fail
            exact hQ.out _ _ (Fr.Is.mk rfl rfl) (by simp [*])
          · have kinc : (inc == 0) = false := by simp [hinc]
            go_wp2_with fail
            exact hQ.out _ _ (Fr.Is.mk rfl rfl) (by simp [*])
        · have klast : (last == 0) = false := by simp [hlast]
          go_wp2_with fail
          exact hQ.out _ _ (Fr.Is.mk rfl rfl) (by simp [*])
      · have kcode : (code == 0) = false := by simp [hcode]
        go_wp2_with fail
        exact hQ.out _ _ (Fr.Is.mk rfl rfl) (by simp [*])
    · have kn : ((n : Int) == 0) = false := by simp [hn]
      by_cases hcode : code = 0
      · have kcode : (code == 0) = true := by simp [hcode]
        by_cases hlast : last = 0
        · have klast : (last == 0) = true := by simp [hlast]
          by_cases hinc : inc = 0
          · have kinc : (inc == 0) = true := by simp [hinc]
            go_wp2_with fail
            exact hQ.out _ _ (Fr.Is.mk rfl rfl) (by simp [*])
          · have kinc : (inc == 0) = false := by simp [hinc]
            go_wp2_with fail
            exact hQ.out _ _ (Fr.Is.mk rfl rfl) (by simp [*])
        · have klast : (last == 0) = false := by simp [hlast]
          go_wp2_with fail
          exact hQ.out _ _ (Fr.Is.mk rfl rfl) (by simp [*])
      · have kcode : (code == 0) = false := by simp [hcode]
        go_wp2_with fail
        exact hQ.out _ _ (Fr.Is.mk rfl rfl) (by simp [*])
  · have kt4 : (t == 4) = false := by simp [ht4]
    by_cases ht3 : t = 3
    · subst t
      by_cases hn : n = 0
      · have kn : ((n : Int) == 0) = true := by simp [hn]
        by_cases hcode : code = 0
        · have kcode : (code == 0) = true := by simp [hcode]
          by_cases hlast : last = 0
          · have klast : (last == 0) = true := by simp [hlast]
            by_cases hinc : inc = 0
            · have kinc : (inc == 0) = true := by simp [hinc]
              go_wp2_with fail
              exact hQ.out _ _ (Fr.Is.mk rfl rfl) (by simp [*])
            · have kinc : (inc == 0) = false := by simp [hinc]
              go_wp2_with fail
              exact hQ.out _ _ (Fr.Is.mk rfl rfl) (by simp [*])
          · have klast : (last == 0) = false := by simp [hlast]
            go_wp2_with fail
            exact hQ.out _ _ (Fr.Is.mk rfl rfl) (by simp [*])
        · have kcode : (code == 0) = false := by simp [hcode]
          by_cases hlast : last = 0
          · have klast : (last == 0) = true := by simp [hlast]
            by_cases hinc : inc = 0
            · have kinc : (inc == 0) = true := by simp [hinc]
              go_wp2_with fail
              exact hQ.out _ _ (Fr.Is.mk rfl rfl) (by simp [*])
            · have kinc : (inc == 0) = false := by simp [hinc]
              go_wp2_with fail
              exact hQ.out _ _ (Fr.Is.mk rfl rfl) (by simp [*])
          · have klast : (last == 0) = false := by simp [hlast]
            go_wp2_with fail
            exact hQ.out _ _ (Fr.Is.mk rfl rfl) (by simp [*])
      · have kn : ((n : Int) == 0) = false := by simp [hn]
        go_wp2_with fail
        exact hQ.out _ _ (Fr.Is.mk rfl rfl) (by simp [*])
    · have kt3 : (t == 3) = false := by simp [ht3]
      by_cases ht7 : t = 7
      · subst t
        by_cases hn : n = 0
        · have kn : ((n : Int) == 0) = true := by simp [hn]
          by_cases hcode : code = 0
          · have kcode : (code == 0) = true := by simp [hcode]
            by_cases hlast : last = 0
            · have klast : (last == 0) = true := by simp [hlast]
              by_cases hinc : inc = 0
              · have kinc : (inc == 0) = true := by simp [hinc]
                go_wp2_with fail
                exact hQ.out _ _ (Fr.Is.mk rfl rfl) (by simp [*])
              · have kinc : (inc == 0) = false := by simp [hinc]
                go_wp2_with fail
                exact hQ.out _ _ (Fr.Is.mk rfl rfl) (by simp [*])
            · have klast : (last == 0) = false := by simp [hlast]
              by_cases hinc : inc = 0
              · have kinc : (inc == 0) = true := by simp [hinc]
                go_wp2_with fail
                exact hQ.out _ _ (Fr.Is.mk rfl rfl) (by simp [*])
              · have kinc : (inc == 0) = false := by simp [hinc]
                go_wp2_with fail
                exact hQ.out _ _ (Fr.Is.mk rfl rfl) (by simp [*])
          · have kcode : (code == 0) = false := by simp [hcode]
            by_cases hlast : last = 0
            · have klast : (last == 0) = true := by simp [hlast]
              by_cases hinc : inc = 0
              · have kinc : (inc == 0) = true := by simp [hinc]
                go_wp2_with fail
                exact hQ.out _ _ (Fr.Is.mk rfl rfl) (by simp [*])
              · have kinc : (inc == 0) = false := by simp [hinc]
                go_wp2_with fail
                exact hQ.out _ _ (Fr.Is.mk rfl rfl) (by simp [*])
            · have klast : (last == 0) = false := by simp [hlast]
              by_cases hinc : inc = 0
              · have kinc : (inc == 0) = true := by simp [hinc]
                go_wp2_with fail
                exact hQ.out _ _ (Fr.Is.mk rfl rfl) (by simp [*])
              · have kinc : (inc == 0) = false := by simp [hinc]
                go_wp2_with fail
                exact hQ.out _ _ (Fr.Is.mk rfl rfl) (by simp [*])
        · have kn : ((n : Int) == 0) = false := by simp [hn]
          go_wp2_with fail
          exact hQ.out _ _ (Fr.Is.mk rfl rfl) (by simp [*])
      · have kt7 : (t == 7) = false := by simp [ht7]
        by_cases ht8 : t = 8
        · subst t
          by_cases hn : n = 0
          · have kn : ((n : Int) == 0) = true := by simp [hn]
            by_cases hcode : code = 0
            · have kcode : (code == 0) = true := by simp [hcode]
              by_cases hlast : last = 0
              · have klast : (last == 0) = true := by simp [hlast]
                by_cases hinc : inc = 0
                · have kinc : (inc == 0) = true := by simp [hinc]
                  go_wp2_with fail
                  exact hQ.out _ _ (Fr.Is.mk rfl rfl) (by simp [*])
                · have kinc : (inc == 0) = false := by simp [hinc]
                  go_wp2_with fail
                  exact hQ.out _ _ (Fr.Is.mk rfl rfl) (by simp [*])
              · have klast : (last == 0) = false := by simp [hlast]
                go_wp2_with fail
                exact hQ.out _ _ (Fr.Is.mk rfl rfl) (by simp [*])
            · have kcode : (code == 0) = false := by simp [hcode]
              go_wp2_with fail
              exact hQ.out _ _ (Fr.Is.mk rfl rfl) (by simp [*])
          · have kn : ((n : Int) == 0) = false := by simp [hn]
            go_wp2_with fail
            exact hQ.out _ _ (Fr.Is.mk rfl rfl) (by simp [*])
        · have kt8 : (t == 8) = false := by simp [ht8]
          by_cases hn : n = 0
          · have kn : ((n : Int) == 0) = true := by simp [hn]
            by_cases hcode : code = 0
            · have kcode : (code == 0) = true := by simp [hcode]
              by_cases hlast : last = 0
              · have klast : (last == 0) = true := by simp [hlast]
                by_cases hinc : inc = 0
                · have kinc : (inc == 0) = true := by simp [hinc]
                  go_wp2_with fail
                  exact hQ.out _ _ (Fr.Is.mk rfl rfl) (by simp [*])
                · have kinc : (inc == 0) = false := by simp [hinc]
                  go_wp2_with fail
                  exact hQ.out _ _ (Fr.Is.mk rfl rfl) (by simp [*])
              · have klast : (last == 0) = false := by simp [hlast]
                go_wp2_with fail
                exact hQ.out _ _ (Fr.Is.mk rfl rfl) (by simp [*])
            · have kcode : (code == 0) = false := by simp [hcode]
              go_wp2_with fail
              exact hQ.out _ _ (Fr.Is.mk rfl rfl) (by simp [*])
          · have kn : ((n : Int) == 0) = false := by simp [hn]
            go_wp2_with fail
            exact hQ.out _ _ (Fr.Is.mk rfl rfl) (by simp [*])

set_option maxRecDepth 100000 in
set_option maxHeartbeats 2000000 in
theorem may_r0 {Q : Exit → Act → World → Prop} {cs : Array Value} (a : Act) (w : World) 
    (ha : Fr.Is 117 [(0, .agg cs)] a)
    (hQ : Hid (∀ a' , Fr.Is 117 [(1, .pointer (some ⟨w.heap.size, 0, none⟩))] a' → Q .normal a' (w.alloc (.cells cs 40)))) :
    (Fr.reg Tryd.f20 0).wp Tryd.prog Q a w := by
  obtain ⟨fr, rfl, hfr⟩ := ha.lit
  simp only [List.map_cons, List.map_nil, List.cons.injEq, and_true] at hfr
  conv => arg 2; whnf
  simp only [List.range, List.range.loop, List.map_cons, List.map_nil, hfr]
  clear hfr ha
  go_wp2_with fail
  exact hQ.out _ (Fr.Is.mk rfl rfl)

set_option maxRecDepth 100000 in
set_option maxHeartbeats 2000000 in
theorem may_r1 {Q : Exit → Act → World → Prop} {bx : Nat} {f : FrM} {sa : Option Addr} {sc : Nat} (a : Act) (w : World) (V : Fb bx f sa sc w) (hok : FrOk f sa sc w)
    (ha : Fr.Is 117 [(1, .pointer (some ⟨bx, 0, none⟩))] a)
    (hQ : Hid (∀ a' w', Fr.Is 117 [(1, .pointer (some ⟨bx, 0, none⟩)), (9, .bool (!rangesB f))] a' → Below w.heap.size w w' → Q .normal a' w')) :
    (Fr.reg Tryd.f20 1).wp Tryd.prog Q a w := by
  obtain ⟨fr, rfl, hfr⟩ := ha.lit
  simp only [List.map_cons, List.map_nil, List.cons.injEq, and_true] at hfr
  conv => arg 2; whnf
  simp only [List.range, List.range.loop, List.map_cons, List.map_nil, hfr]
  clear hfr ha
  obtain ⟨c0, c1, c2, c3, c4, c5, c6, c7, c8, c9, c10, c11⟩ := fr_cells V
  have HR := Lib.hid (rranges_any f sa sc w hok)
  clear V
  unfold frV frC at HR
  generalize rangesB f = b at HR hQ
  go_wp2_with fail
  refine HR.out.mono ?_; rintro e w2 ⟨rfl, hb⟩
  have HB := Lib.hid hb
  clear hb c0 c1 c2 c3 c4 c5 c6 c7 c8 c9 c10 c11
  go_wp2_with fail
  exact hQ.out _ _ (Fr.Is.mk rfl rfl) HB.out

set_option maxRecDepth 100000 in
set_option maxHeartbeats 2000000 in
theorem may_r2 {Q : Exit → Act → World → Prop} {bx : Nat}  (a : Act) (w : World) 
    (ha : Fr.Is 117 [(1, .pointer (some ⟨bx, 0, none⟩))] a)
    (hQ : Hid (∀ a' , Fr.Is 117 [(2, .bool false)] a' → Q .normal a' w)) :
    (Fr.reg Tryd.f20 2).wp Tryd.prog Q a w := by
  obtain ⟨fr, rfl, hfr⟩ := ha.lit
  simp only [List.map_cons, List.map_nil, List.cons.injEq, and_true] at hfr
  conv => arg 2; whnf
  simp only [List.range, List.range.loop, List.map_cons, List.map_nil, hfr]
  clear hfr ha
  go_wp2_with fail
  exact hQ.out _ (Fr.Is.mk rfl rfl)

set_option maxRecDepth 100000 in
set_option maxHeartbeats 2000000 in
theorem may_r8 {Q : Exit → Act → World → Prop} {bx : Nat}  (a : Act) (w : World) 
    (ha : Fr.Is 117 [(1, .pointer (some ⟨bx, 0, none⟩))] a)
    (hQ : Hid (∀ a' , Fr.Is 117 [(2, .bool false)] a' → Q .normal a' w)) :
    (Fr.reg Tryd.f20 8).wp Tryd.prog Q a w := by
  obtain ⟨fr, rfl, hfr⟩ := ha.lit
  simp only [List.map_cons, List.map_nil, List.cons.injEq, and_true] at hfr
  conv => arg 2; whnf
  simp only [List.range, List.range.loop, List.map_cons, List.map_nil, hfr]
  clear hfr ha
  go_wp2_with fail
  exact hQ.out _ (Fr.Is.mk rfl rfl)

theorem may_ret {R : Ending → World → Prop} {b : Bool} {a : Act} {w' : World} (ha : Fr.Is 117 [(2, .bool b)] a) (hR : R (.returned (.bool b)) w') : bodyPost Tryd.prog Tryd.f20 R .ret a w' := by
  obtain ⟨fr, rfl, hfr⟩ := ha.lit
  simp only [List.map_cons, List.map_nil, List.cons.injEq, and_true] at hfr
  refine bodyPost_ret (v := .bool b) ?_ rfl hR
  simp [results, Tryd.results20, go_sem, hfr]

theorem toList_nil (d : ByteArray) : (d.toList == []) = decide (d = ByteArray.empty) := by
  rw [Bool.eq_iff_iff, beq_iff_eq, decide_eq_true_eq]
  constructor
  · intro e; rcases d with ⟨⟨l⟩⟩; simp [ByteArray.toList_eq] at e; subst e; rfl
  · rintro rfl; simp [ByteArray.toList_eq]
theorem or_same (a b c : Bool) : ((a && c) || (b && c)) = ((a || b) && c) := by cases a <;> cases b <;> cases c <;> rfl
theorem may_pure (f : FrM) (hr : rangesB f = true) :
    mayB f = (!((!decide (f.pad = 0) && !((decide (f.type = 0) && hasF f.flags 8) || (decide (f.type = 1) && hasF f.flags 8))) || ((!decide (f.dep = 0) || (!decide (f.weight = 0) || f.sole)) && !(decide (f.type = 2) || (decide (f.type = 1) && hasF f.flags 32))) || (!(f.data.toList == []) && !(!decide (f.type = 2 ∨ f.type = 3 ∨ f.type = 4 ∨ f.type = 8)))) &&
      ((decide (f.sets.length = 0) || decide (f.type = 4)) && ((decide (f.code = 0) || (decide (f.type = 3) || decide (f.type = 7))) && ((decide (f.last = 0) || decide (f.type = 7)) && (decide (f.inc = 0) || decide (f.type = 8)))))) := by
  have h0 : 0 ≤ f.type := by
    simp only [rangesB, Bool.and_eq_true, decide_eq_true_eq] at hr; exact hr.1.1
  have hp : decide (f.type ≤ 1) = (decide (f.type = 0) || decide (f.type = 1)) := by
    rw [Bool.eq_iff_iff]; simp only [Bool.or_eq_true, decide_eq_true_eq]; omega
  rw [mayB, hr, toList_nil, or_same, ← hp, paddedB, placedB]
  have he : f.sets.isEmpty = decide (f.sets.length = 0) := by
    cases f.sets <;> simp
  rw [he]
  simp only [ne_eq, decide_not, Bool.decide_or, Bool.true_and, Bool.not_or, Bool.not_and, Bool.not_not, Bool.decide_eq_true]
  generalize (decide (f.type ≤ 1) && hasF f.flags 8) = x1
  generalize (decide (f.type = 1) && hasF f.flags 32) = x2
  generalize decide (f.pad = 0) = x3
  generalize decide (f.dep = 0) = x4
  generalize decide (f.weight = 0) = x5
  generalize decide (f.data = ByteArray.empty) = x6
  generalize decide (f.sets.length = 0) = x7
  generalize decide (f.code = 0) = x8
  generalize decide (f.last = 0) = x9
  generalize decide (f.inc = 0) = x10
  simp only [Bool.and_assoc, Bool.or_assoc]

set_option maxRecDepth 100000 in
set_option maxHeartbeats 2000000 in
theorem rmay_any (f : FrM) (sa : Option Addr) (sc : Nat) (w : World) (hok : FrOk f sa sc w) :
    Calls Tryd.prog 20 #[frV f sa sc] w fun e w' => e = .returned (.bool (mayB f)) ∧ Below w.heap.size w w' := by
  unfold frV
  go_enter Tryd.func20, Tryd.ntmps20
  refine wp_seq ?_
  refine may_r0 (cs := frC f sa sc) _ w (Fr.Is.mk rfl rfl) (Lib.hid (fun a1 h1 => ?_))
  have V1 : Fb w.heap.size f sa sc (w.alloc (.cells (frC f sa sc) 40)) := heap_alloc_new w _
  have b1 : Below w.heap.size w (w.alloc (.cells (frC f sa sc) 40)) := (Below.refl _ _).alloc (Nat.le_refl _) _
  generalize w.alloc (.cells (frC f sa sc) 40) = w1 at V1 b1 ⊢

  refine wp_seq (wp_seq ?_)
  refine may_r1 a1 w1 V1 (hok.below b1) h1 (Lib.hid (fun a2 w2 h2 b2 => ?_))
  have V2 : Fb w.heap.size f sa sc w2 := block_below b2 V1
  have B2 := below_step b1 b2
  clear V1 b1 b2 h1
  cases hr : rangesB f with
  | false =>
    rw [hr] at h2
    have hm : mayB f = false := by simp [mayB, hr]
    rw [hm]
    refine wp_cond_true (h2.get (i := 9) (v := .bool true) (by simp)) ?_
    refine wp_seq ?_
    refine may_r2 (bx := w.heap.size) a2 w2 (h2.less (by simp)) (Lib.hid (fun a3 h3 => ?_))
    refine wp_ret ?_
    try dsimp only [Exit.then]
    exact may_ret h3 ⟨rfl, B2⟩
  | true =>
    rw [hr] at h2
    refine wp_cond_false (h2.get (i := 9) (v := .bool false) (by simp)) ?_
    refine wp_skip ?_
    have hfl : 0 ≤ f.flags ∧ f.flags ≤ 255 := by
      simp only [rangesB, Bool.and_eq_true, decide_eq_true_eq] at hr; omega
    obtain ⟨c0, c1, c2, c3, c4, c5, c6, c7, c8, c9, c10, c11⟩ := fr_cells V2
    rw [may_pure f hr]
    refine wp_seq ?_
    refine may_r3 a2 w2 c0 (h2.less (by simp)) (Lib.hid (fun a3 h3 => ?_))
    refine wp_seq ?_
    refine may_r4 a3 w2 c1 hfl.1 hfl.2 h3 (Lib.hid (fun a4 h4 => ?_))
    refine wp_seq ?_
    refine may_r5 a4 w2 c1 hfl.1 hfl.2 h4 (Lib.hid (fun a5 h5 => ?_))
    refine wp_seq ?_
    refine may_r6 a5 w2 h5 (Lib.hid (fun a6 h6 => ?_))
    refine wp_seq (wp_seq ?_)
    refine may_r7 a6 w2 c4 c9 c10 c11 c3 rfl h6 (Lib.hid (fun a7 v h7 hv => ?_))
    rw [← hv]
    clear hv
    cases v with
    | true =>
      refine wp_cond_true (h7.get (i := 77) (v := .bool true) (by simp)) ?_
      refine wp_seq ?_
      refine may_r8 (bx := w.heap.size) a7 w2 (h7.less (by simp)) (Lib.hid (fun a8 h8 => ?_))
      refine wp_ret ?_
      try dsimp only [Exit.then]
      exact may_ret h8 ⟨rfl, B2⟩
    | false =>
      refine wp_cond_false (h7.get (i := 77) (v := .bool false) (by simp)) ?_
      refine wp_skip ?_
      refine wp_seq ?_
      refine may_r9 (t := f.type) (bx := w.heap.size) a7 w2 c5 c6 c7 c8 (h7.less (by simp)) (Lib.hid (fun a8 v h8 hv => ?_))
      refine wp_ret ?_
      try dsimp only [Exit.then]
      refine may_ret h8 ⟨?_, B2⟩
      rw [hv]; rfl
end Go.Proofs.YtglhdlkmgmbgeaaDoor

namespace Go.Proofs.YtglhdlkmgmbgeaaDoor
open Go.RowKit
open Fra Oct Arg Mem Go.Proofs.YtglhdlkmgmbgeaaDoor.Obj
set_option linter.unusedVariables false

theorem bel_alloc (w : World) (o : Obj) : Below w.heap.size w (w.alloc o) := (Below.refl _ _).alloc (Nat.le_refl _) o
theorem cells12 {w : World} {bx : Nat} {f : FrM} {sa : Option Addr} {sc : Nat} (h : w.heap[bx]? = some (.cells (frC f sa sc) 40 (0, 0))) :
    w.cell? ⟨bx, 0, none⟩ = some (.int .i64 f.type) ∧ w.cell? ⟨bx, 1, none⟩ = some (.int .i64 f.flags) ∧ w.cell? ⟨bx, 2, none⟩ = some (.int .i64 f.stream) ∧ w.cell? ⟨bx, 3, none⟩ = some (.string f.data) ∧ w.cell? ⟨bx, 4, none⟩ = some (.int .i64 f.pad) ∧ w.cell? ⟨bx, 5, none⟩ = some (.slice sa f.sets.length sc) ∧
    w.cell? ⟨bx, 6, none⟩ = some (.int .i64 f.code) ∧ w.cell? ⟨bx, 7, none⟩ = some (.int .i64 f.last) ∧ w.cell? ⟨bx, 8, none⟩ = some (.int .i64 f.inc) ∧ w.cell? ⟨bx, 9, none⟩ = some (.int .i64 f.dep) ∧ w.cell? ⟨bx, 10, none⟩ = some (.int .i64 f.weight) ∧ w.cell? ⟨bx, 11, none⟩ = some (.bool f.sole) :=
  ⟨cell_at h 0, cell_at h 1, cell_at h 2, cell_at h 3, cell_at h 4, cell_at h 5, cell_at h 6, cell_at h 7, cell_at h 8, cell_at h 9, cell_at h 10, cell_at h 11⟩

end Go.Proofs.YtglhdlkmgmbgeaaDoor

namespace Go.Proofs.YtglhdlkmgmbgeaaDoor
open Go.RowKit
open Fra Oct Arg Mem Gen Go.Proofs.YtglhdlkmgmbgeaaDoor.Obj
set_option linter.unusedVariables false
set_option linter.unusedSimpArgs false

theorem cells12t {w : World} {bx : Nat} {f : FrM} {sa : Option Addr} {sc : Nat} {t : Int} (h : w.heap[bx]? = some (.cells (frC f sa sc) 40 (0, 0))) (ht : f.type = t) :
    w.cell? ⟨bx, 0, none⟩ = some (.int .i64 t) ∧ w.cell? ⟨bx, 1, none⟩ = some (.int .i64 f.flags) ∧ w.cell? ⟨bx, 2, none⟩ = some (.int .i64 f.stream) ∧ w.cell? ⟨bx, 3, none⟩ = some (.string f.data) ∧ w.cell? ⟨bx, 4, none⟩ = some (.int .i64 f.pad) ∧ w.cell? ⟨bx, 5, none⟩ = some (.slice sa f.sets.length sc) ∧
    w.cell? ⟨bx, 6, none⟩ = some (.int .i64 f.code) ∧ w.cell? ⟨bx, 7, none⟩ = some (.int .i64 f.last) ∧ w.cell? ⟨bx, 8, none⟩ = some (.int .i64 f.inc) ∧ w.cell? ⟨bx, 9, none⟩ = some (.int .i64 f.dep) ∧ w.cell? ⟨bx, 10, none⟩ = some (.int .i64 f.weight) ∧ w.cell? ⟨bx, 11, none⟩ = some (.bool f.sole) := by
  subst ht; exact cells12 h


set_option maxRecDepth 100000 in
set_option maxHeartbeats 2000000 in
theorem sized_2 (f : FrM) (sa : Option Addr) (sc n : Nat) (w : World) (ht : f.type = 2) (f0 : 0 ≤ f.flags) (f1 : f.flags ≤ 255) (hn : n ≤ 1000000000) :
    Calls Tryd.prog 26 #[frV f sa sc, .int .i64 n] w fun e w' => e = .returned (.bool (decide (n = 5))) ∧ Below w.heap.size w w' := by
  have HH := Lib.hid (fun g v h1 h2 => rHas_any f sa sc g v f0 f1 h1 h2)
  have HB := Lib.hid (bel_alloc w (.cells (frC f sa sc) 40))
  have HX := Lib.hid (heap_alloc_new w (.cells (frC f sa sc) 40))
  have HC := Lib.hid (fun (v : World) (h : v.heap[w.heap.size]? = some (.cells (frC f sa sc) 40 (0, 0))) => cells12t h ht)
  unfold frV frC at *
  rw [ht] at *
  by_cases hc : n = 5
  · rw [decide_eq_true hc]
    have hc' : (n : Int) = 5 := by omega
    go_enter Tryd.func26, Tryd.ntmps26
    go_wp2_with fail
    all_goals first | (go_ret; exact ⟨rfl, HB.out⟩) | (exfalso; omega)
  · rw [decide_eq_false hc]
    have hc' : ¬ (n : Int) = 5 := by omega
    go_enter Tryd.func26, Tryd.ntmps26
    go_wp2_with fail
    all_goals first | (go_ret; exact ⟨by rfl, HB.out⟩) | (go_ret; exact ⟨by simp; omega, HB.out⟩) | (exfalso; omega)

set_option maxRecDepth 100000 in
set_option maxHeartbeats 2000000 in
theorem sized_3 (f : FrM) (sa : Option Addr) (sc n : Nat) (w : World) (ht : f.type = 3) (f0 : 0 ≤ f.flags) (f1 : f.flags ≤ 255) (hn : n ≤ 1000000000) :
    Calls Tryd.prog 26 #[frV f sa sc, .int .i64 n] w fun e w' => e = .returned (.bool (decide (n = 4))) ∧ Below w.heap.size w w' := by
  have HH := Lib.hid (fun g v h1 h2 => rHas_any f sa sc g v f0 f1 h1 h2)
  have HB := Lib.hid (bel_alloc w (.cells (frC f sa sc) 40))
  have HX := Lib.hid (heap_alloc_new w (.cells (frC f sa sc) 40))
  have HC := Lib.hid (fun (v : World) (h : v.heap[w.heap.size]? = some (.cells (frC f sa sc) 40 (0, 0))) => cells12t h ht)
  unfold frV frC at *
  rw [ht] at *
  by_cases hc : n = 4
  · rw [decide_eq_true hc]
    have hc' : (n : Int) = 4 := by omega
    go_enter Tryd.func26, Tryd.ntmps26
    go_wp2_with fail
    all_goals first | (go_ret; exact ⟨rfl, HB.out⟩) | (exfalso; omega)
  · rw [decide_eq_false hc]
    have hc' : ¬ (n : Int) = 4 := by omega
    go_enter Tryd.func26, Tryd.ntmps26
    go_wp2_with fail
    all_goals first | (go_ret; exact ⟨by rfl, HB.out⟩) | (go_ret; exact ⟨by simp; omega, HB.out⟩) | (exfalso; omega)

set_option maxRecDepth 100000 in
set_option maxHeartbeats 2000000 in
theorem sized_8 (f : FrM) (sa : Option Addr) (sc n : Nat) (w : World) (ht : f.type = 8) (f0 : 0 ≤ f.flags) (f1 : f.flags ≤ 255) (hn : n ≤ 1000000000) :
    Calls Tryd.prog 26 #[frV f sa sc, .int .i64 n] w fun e w' => e = .returned (.bool (decide (n = 4))) ∧ Below w.heap.size w w' := by
  have HH := Lib.hid (fun g v h1 h2 => rHas_any f sa sc g v f0 f1 h1 h2)
  have HB := Lib.hid (bel_alloc w (.cells (frC f sa sc) 40))
  have HX := Lib.hid (heap_alloc_new w (.cells (frC f sa sc) 40))
  have HC := Lib.hid (fun (v : World) (h : v.heap[w.heap.size]? = some (.cells (frC f sa sc) 40 (0, 0))) => cells12t h ht)
  unfold frV frC at *
  rw [ht] at *
  by_cases hc : n = 4
  · rw [decide_eq_true hc]
    have hc' : (n : Int) = 4 := by omega
    go_enter Tryd.func26, Tryd.ntmps26
    go_wp2_with fail
    all_goals first | (go_ret; exact ⟨rfl, HB.out⟩) | (exfalso; omega)
  · rw [decide_eq_false hc]
    have hc' : ¬ (n : Int) = 4 := by omega
    go_enter Tryd.func26, Tryd.ntmps26
    go_wp2_with fail
    all_goals first | (go_ret; exact ⟨by rfl, HB.out⟩) | (go_ret; exact ⟨by simp; omega, HB.out⟩) | (exfalso; omega)

set_option maxRecDepth 100000 in
set_option maxHeartbeats 2000000 in
theorem sized_6 (f : FrM) (sa : Option Addr) (sc n : Nat) (w : World) (ht : f.type = 6) (f0 : 0 ≤ f.flags) (f1 : f.flags ≤ 255) (hn : n ≤ 1000000000) :
    Calls Tryd.prog 26 #[frV f sa sc, .int .i64 n] w fun e w' => e = .returned (.bool (decide (n = 8))) ∧ Below w.heap.size w w' := by
  have HH := Lib.hid (fun g v h1 h2 => rHas_any f sa sc g v f0 f1 h1 h2)
  have HB := Lib.hid (bel_alloc w (.cells (frC f sa sc) 40))
  have HX := Lib.hid (heap_alloc_new w (.cells (frC f sa sc) 40))
  have HC := Lib.hid (fun (v : World) (h : v.heap[w.heap.size]? = some (.cells (frC f sa sc) 40 (0, 0))) => cells12t h ht)
  unfold frV frC at *
  rw [ht] at *
  by_cases hc : n = 8
  · rw [decide_eq_true hc]
    have hc' : (n : Int) = 8 := by omega
    go_enter Tryd.func26, Tryd.ntmps26
    go_wp2_with fail
    all_goals first | (go_ret; exact ⟨rfl, HB.out⟩) | (exfalso; omega)
  · rw [decide_eq_false hc]
    have hc' : ¬ (n : Int) = 8 := by omega
    go_enter Tryd.func26, Tryd.ntmps26
    go_wp2_with fail
    all_goals first | (go_ret; exact ⟨by rfl, HB.out⟩) | (go_ret; exact ⟨by simp; omega, HB.out⟩) | (exfalso; omega)

set_option maxRecDepth 100000 in
set_option maxHeartbeats 2000000 in
theorem sized_7 (f : FrM) (sa : Option Addr) (sc n : Nat) (w : World) (ht : f.type = 7) (f0 : 0 ≤ f.flags) (f1 : f.flags ≤ 255) (hn : n ≤ 1000000000) :
    Calls Tryd.prog 26 #[frV f sa sc, .int .i64 n] w fun e w' => e = .returned (.bool (decide (n ≥ 8))) ∧ Below w.heap.size w w' := by
  have HH := Lib.hid (fun g v h1 h2 => rHas_any f sa sc g v f0 f1 h1 h2)
  have HB := Lib.hid (bel_alloc w (.cells (frC f sa sc) 40))
  have HX := Lib.hid (heap_alloc_new w (.cells (frC f sa sc) 40))
  have HC := Lib.hid (fun (v : World) (h : v.heap[w.heap.size]? = some (.cells (frC f sa sc) 40 (0, 0))) => cells12t h ht)
  unfold frV frC at *
  rw [ht] at *
  by_cases hc : n ≥ 8
  · rw [decide_eq_true hc]
    have hc' : (n : Int) ≥ 8 := by omega
    go_enter Tryd.func26, Tryd.ntmps26
    go_wp2_with fail
    all_goals first | (go_ret; exact ⟨rfl, HB.out⟩) | (exfalso; omega)
  · rw [decide_eq_false hc]
    have hc' : ¬ (n : Int) ≥ 8 := by omega
    go_enter Tryd.func26, Tryd.ntmps26
    go_wp2_with fail
    all_goals first | (go_ret; exact ⟨by rfl, HB.out⟩) | (go_ret; exact ⟨by simp; omega, HB.out⟩) | (exfalso; omega)

set_option maxRecDepth 100000 in
set_option maxHeartbeats 2000000 in
theorem sized_0 (f : FrM) (sa : Option Addr) (sc n : Nat) (w : World) (ht : f.type = 0) (f0 : 0 ≤ f.flags) (f1 : f.flags ≤ 255) (hn : n ≤ 1000000000) :
    Calls Tryd.prog 26 #[frV f sa sc, .int .i64 n] w fun e w' => e = .returned (.bool (decide ((if hasF f.flags 8 then 1 else 0) ≤ n))) ∧ Below w.heap.size w w' := by
  have HH := Lib.hid (fun g v h1 h2 => rHas_any f sa sc g v f0 f1 h1 h2)
  have HB := Lib.hid (bel_alloc w (.cells (frC f sa sc) 40))
  have HX := Lib.hid (heap_alloc_new w (.cells (frC f sa sc) 40))
  have HC := Lib.hid (fun (v : World) (h : v.heap[w.heap.size]? = some (.cells (frC f sa sc) 40 (0, 0))) => cells12t h ht)
  unfold frV frC at *
  rw [ht] at *
  have H8 := Lib.hid (fun v => HH.out 8 v (by decide) (by decide))
  generalize hasF f.flags 8 = h8 at H8 ⊢
  cases h8
  · skip
    go_enter Tryd.func26, Tryd.ntmps26
    go_wp2_with fail
    generalize w.alloc (.cells #[.int .i64 0, .int .i64 f.flags, .int .i64 f.stream, .string f.data, .int .i64 f.pad, .slice sa f.sets.length sc, .int .i64 f.code, .int .i64 f.last, .int .i64 f.inc, .int .i64 f.dep, .int .i64 f.weight, .bool f.sole] 40) = w1 at HX HB ⊢
    obtain ⟨x0, x1, x2, x3, x4, x5, x6, x7, x8, x9, x10, x11⟩ := HC.out _ HX.out
    refine (H8.out w1).mono ?_
    rintro e w2 ⟨rfl, b2⟩
    have HXw2 := Lib.hid (block_below b2 HX.out)
    have HBw2 := Lib.hid (below_step HB.out b2)
    clear b2 x0 x1 x2 x3 x4 x5 x6 x7 x8 x9 x10 x11
    obtain ⟨x0, x1, x2, x3, x4, x5, x6, x7, x8, x9, x10, x11⟩ := HC.out _ HXw2.out
    by_cases hc : 0 ≤ n
    · have hc' : (n : Int) ≥ 0 := by omega
      go_wp2_with fail
      go_ret
      exact ⟨by simp [hc], HBw2.out⟩
    · exfalso; omega
  · skip
    go_enter Tryd.func26, Tryd.ntmps26
    go_wp2_with fail
    generalize w.alloc (.cells #[.int .i64 0, .int .i64 f.flags, .int .i64 f.stream, .string f.data, .int .i64 f.pad, .slice sa f.sets.length sc, .int .i64 f.code, .int .i64 f.last, .int .i64 f.inc, .int .i64 f.dep, .int .i64 f.weight, .bool f.sole] 40) = w1 at HX HB ⊢
    obtain ⟨x0, x1, x2, x3, x4, x5, x6, x7, x8, x9, x10, x11⟩ := HC.out _ HX.out
    refine (H8.out w1).mono ?_
    rintro e w2 ⟨rfl, b2⟩
    have HXw2 := Lib.hid (block_below b2 HX.out)
    have HBw2 := Lib.hid (below_step HB.out b2)
    clear b2 x0 x1 x2 x3 x4 x5 x6 x7 x8 x9 x10 x11
    obtain ⟨x0, x1, x2, x3, x4, x5, x6, x7, x8, x9, x10, x11⟩ := HC.out _ HXw2.out
    by_cases hc : 1 ≤ n
    · have hc' : (n : Int) ≥ 1 := by omega
      go_wp2_with fail
      go_ret
      exact ⟨by simp [hc], HBw2.out⟩
    · have hc' : ¬ (n : Int) ≥ 1 := by omega
      go_wp2_with fail
      go_ret
      exact ⟨by simp; omega, HBw2.out⟩

set_option maxRecDepth 100000 in
set_option maxHeartbeats 2000000 in
theorem sized_1 (f : FrM) (sa : Option Addr) (sc n : Nat) (w : World) (ht : f.type = 1) (f0 : 0 ≤ f.flags) (f1 : f.flags ≤ 255) (hn : n ≤ 1000000000) :
    Calls Tryd.prog 26 #[frV f sa sc, .int .i64 n] w fun e w' => e = .returned (.bool (decide ((if hasF f.flags 8 then 1 else 0) + (if hasF f.flags 32 then 5 else 0) ≤ n))) ∧ Below w.heap.size w w' := by
  have HH := Lib.hid (fun g v h1 h2 => rHas_any f sa sc g v f0 f1 h1 h2)
  have HB := Lib.hid (bel_alloc w (.cells (frC f sa sc) 40))
  have HX := Lib.hid (heap_alloc_new w (.cells (frC f sa sc) 40))
  have HC := Lib.hid (fun (v : World) (h : v.heap[w.heap.size]? = some (.cells (frC f sa sc) 40 (0, 0))) => cells12t h ht)
  unfold frV frC at *
  rw [ht] at *
  have H8 := Lib.hid (fun v => HH.out 8 v (by decide) (by decide))
  have H32 := Lib.hid (fun v => HH.out 32 v (by decide) (by decide))
  generalize hasF f.flags 8 = h8 at H8 ⊢
  generalize hasF f.flags 32 = h32 at H32 ⊢
  cases h8 <;> cases h32
  · skip
    go_enter Tryd.func26, Tryd.ntmps26
    go_wp2_with fail
    generalize w.alloc (.cells #[.int .i64 1, .int .i64 f.flags, .int .i64 f.stream, .string f.data, .int .i64 f.pad, .slice sa f.sets.length sc, .int .i64 f.code, .int .i64 f.last, .int .i64 f.inc, .int .i64 f.dep, .int .i64 f.weight, .bool f.sole] 40) = w1 at HX HB ⊢
    obtain ⟨x0, x1, x2, x3, x4, x5, x6, x7, x8, x9, x10, x11⟩ := HC.out _ HX.out
    refine (H8.out w1).mono ?_
    rintro e w2 ⟨rfl, b2⟩
    have HXw2 := Lib.hid (block_below b2 HX.out)
    have HBw2 := Lib.hid (below_step HB.out b2)
    clear b2 x0 x1 x2 x3 x4 x5 x6 x7 x8 x9 x10 x11
    obtain ⟨x0, x1, x2, x3, x4, x5, x6, x7, x8, x9, x10, x11⟩ := HC.out _ HXw2.out
    go_wp2_with fail
    refine (H32.out w2).mono ?_
    rintro e w3 ⟨rfl, b2⟩
    have HXw3 := Lib.hid (block_below b2 HXw2.out)
    have HBw3 := Lib.hid (below_step HBw2.out b2)
    clear b2 x0 x1 x2 x3 x4 x5 x6 x7 x8 x9 x10 x11
    obtain ⟨x0, x1, x2, x3, x4, x5, x6, x7, x8, x9, x10, x11⟩ := HC.out _ HXw3.out
    by_cases hc : 0 ≤ n
    · have hc' : (n : Int) ≥ 0 := by omega
      go_wp2_with fail
      go_ret
      exact ⟨by simp [hc], HBw3.out⟩
    · exfalso; omega
  · skip
    go_enter Tryd.func26, Tryd.ntmps26
    go_wp2_with fail
    generalize w.alloc (.cells #[.int .i64 1, .int .i64 f.flags, .int .i64 f.stream, .string f.data, .int .i64 f.pad, .slice sa f.sets.length sc, .int .i64 f.code, .int .i64 f.last, .int .i64 f.inc, .int .i64 f.dep, .int .i64 f.weight, .bool f.sole] 40) = w1 at HX HB ⊢
    obtain ⟨x0, x1, x2, x3, x4, x5, x6, x7, x8, x9, x10, x11⟩ := HC.out _ HX.out
    refine (H8.out w1).mono ?_
    rintro e w2 ⟨rfl, b2⟩
    have HXw2 := Lib.hid (block_below b2 HX.out)
    have HBw2 := Lib.hid (below_step HB.out b2)
    clear b2 x0 x1 x2 x3 x4 x5 x6 x7 x8 x9 x10 x11
    obtain ⟨x0, x1, x2, x3, x4, x5, x6, x7, x8, x9, x10, x11⟩ := HC.out _ HXw2.out
    go_wp2_with fail
    refine (H32.out w2).mono ?_
    rintro e w3 ⟨rfl, b2⟩
    have HXw3 := Lib.hid (block_below b2 HXw2.out)
    have HBw3 := Lib.hid (below_step HBw2.out b2)
    clear b2 x0 x1 x2 x3 x4 x5 x6 x7 x8 x9 x10 x11
    obtain ⟨x0, x1, x2, x3, x4, x5, x6, x7, x8, x9, x10, x11⟩ := HC.out _ HXw3.out
    by_cases hc : 5 ≤ n
    · have hc' : (n : Int) ≥ 5 := by omega
      go_wp2_with fail
      go_ret
      exact ⟨by simp [hc], HBw3.out⟩
    · have hc' : ¬ (n : Int) ≥ 5 := by omega
      go_wp2_with fail
      go_ret
      exact ⟨by simp; omega, HBw3.out⟩
  · skip
    go_enter Tryd.func26, Tryd.ntmps26
    go_wp2_with fail
    generalize w.alloc (.cells #[.int .i64 1, .int .i64 f.flags, .int .i64 f.stream, .string f.data, .int .i64 f.pad, .slice sa f.sets.length sc, .int .i64 f.code, .int .i64 f.last, .int .i64 f.inc, .int .i64 f.dep, .int .i64 f.weight, .bool f.sole] 40) = w1 at HX HB ⊢
    obtain ⟨x0, x1, x2, x3, x4, x5, x6, x7, x8, x9, x10, x11⟩ := HC.out _ HX.out
    refine (H8.out w1).mono ?_
    rintro e w2 ⟨rfl, b2⟩
    have HXw2 := Lib.hid (block_below b2 HX.out)
    have HBw2 := Lib.hid (below_step HB.out b2)
    clear b2 x0 x1 x2 x3 x4 x5 x6 x7 x8 x9 x10 x11
    obtain ⟨x0, x1, x2, x3, x4, x5, x6, x7, x8, x9, x10, x11⟩ := HC.out _ HXw2.out
    go_wp2_with fail
    refine (H32.out w2).mono ?_
    rintro e w3 ⟨rfl, b2⟩
    have HXw3 := Lib.hid (block_below b2 HXw2.out)
    have HBw3 := Lib.hid (below_step HBw2.out b2)
    clear b2 x0 x1 x2 x3 x4 x5 x6 x7 x8 x9 x10 x11
    obtain ⟨x0, x1, x2, x3, x4, x5, x6, x7, x8, x9, x10, x11⟩ := HC.out _ HXw3.out
    by_cases hc : 1 ≤ n
    · have hc' : (n : Int) ≥ 1 := by omega
      go_wp2_with fail
      go_ret
      exact ⟨by simp [hc], HBw3.out⟩
    · have hc' : ¬ (n : Int) ≥ 1 := by omega
      go_wp2_with fail
      go_ret
      exact ⟨by simp; omega, HBw3.out⟩
  · skip
    go_enter Tryd.func26, Tryd.ntmps26
    go_wp2_with fail
    generalize w.alloc (.cells #[.int .i64 1, .int .i64 f.flags, .int .i64 f.stream, .string f.data, .int .i64 f.pad, .slice sa f.sets.length sc, .int .i64 f.code, .int .i64 f.last, .int .i64 f.inc, .int .i64 f.dep, .int .i64 f.weight, .bool f.sole] 40) = w1 at HX HB ⊢
    obtain ⟨x0, x1, x2, x3, x4, x5, x6, x7, x8, x9, x10, x11⟩ := HC.out _ HX.out
    refine (H8.out w1).mono ?_
    rintro e w2 ⟨rfl, b2⟩
    have HXw2 := Lib.hid (block_below b2 HX.out)
    have HBw2 := Lib.hid (below_step HB.out b2)
    clear b2 x0 x1 x2 x3 x4 x5 x6 x7 x8 x9 x10 x11
    obtain ⟨x0, x1, x2, x3, x4, x5, x6, x7, x8, x9, x10, x11⟩ := HC.out _ HXw2.out
    go_wp2_with fail
    refine (H32.out w2).mono ?_
    rintro e w3 ⟨rfl, b2⟩
    have HXw3 := Lib.hid (block_below b2 HXw2.out)
    have HBw3 := Lib.hid (below_step HBw2.out b2)
    clear b2 x0 x1 x2 x3 x4 x5 x6 x7 x8 x9 x10 x11
    obtain ⟨x0, x1, x2, x3, x4, x5, x6, x7, x8, x9, x10, x11⟩ := HC.out _ HXw3.out
    by_cases hc : 6 ≤ n
    · have hc' : (n : Int) ≥ 6 := by omega
      go_wp2_with fail
      go_ret
      exact ⟨by simp [hc], HBw3.out⟩
    · have hc' : ¬ (n : Int) ≥ 6 := by omega
      go_wp2_with fail
      go_ret
      exact ⟨by simp; omega, HBw3.out⟩

set_option maxRecDepth 100000 in
set_option maxHeartbeats 2000000 in
theorem sized_4 (f : FrM) (sa : Option Addr) (sc n : Nat) (w : World) (ht : f.type = 4) (f0 : 0 ≤ f.flags) (f1 : f.flags ≤ 255) (hn : n ≤ 1000000000) :
    Calls Tryd.prog 26 #[frV f sa sc, .int .i64 n] w fun e w' => e = .returned (.bool (decide (n % 6 = 0) && (decide (n = 0) || !hasF f.flags 1))) ∧ Below w.heap.size w w' := by
  have HH := Lib.hid (fun g v h1 h2 => rHas_any f sa sc g v f0 f1 h1 h2)
  have HB := Lib.hid (bel_alloc w (.cells (frC f sa sc) 40))
  have HX := Lib.hid (heap_alloc_new w (.cells (frC f sa sc) 40))
  have HC := Lib.hid (fun (v : World) (h : v.heap[w.heap.size]? = some (.cells (frC f sa sc) 40 (0, 0))) => cells12t h ht)
  unfold frV frC at *
  rw [ht] at *
  have H1 := Lib.hid (fun v => HH.out 1 v (by decide) (by decide))
  generalize hasF f.flags 1 = h1 at H1 ⊢
  have hm := tmod_nn (n : Int) 6 (by omega)
  by_cases hc : n % 6 = 0
  · have hc' : (n : Int) % 6 = 0 := by omega
    by_cases h0 : n = 0
    · subst h0
      go_enter Tryd.func26, Tryd.ntmps26
      go_wp2_with fail
      go_ret
      exact ⟨by simp, HB.out⟩
    · have h0' : ¬ (n : Int) = 0 := by omega
      go_enter Tryd.func26, Tryd.ntmps26
      go_wp2_with fail
      generalize w.alloc (.cells #[.int .i64 4, .int .i64 f.flags, .int .i64 f.stream, .string f.data, .int .i64 f.pad, .slice sa f.sets.length sc, .int .i64 f.code, .int .i64 f.last, .int .i64 f.inc, .int .i64 f.dep, .int .i64 f.weight, .bool f.sole] 40) = w1 at HX HB ⊢
      obtain ⟨x0, x1, x2, x3, x4, x5, x6, x7, x8, x9, x10, x11⟩ := HC.out _ HX.out
      refine (H1.out w1).mono ?_
      rintro e w2 ⟨rfl, b2⟩
      have HXw2 := Lib.hid (block_below b2 HX.out)
      have HBw2 := Lib.hid (below_step HB.out b2)
      clear b2 x0 x1 x2 x3 x4 x5 x6 x7 x8 x9 x10 x11
      obtain ⟨x0, x1, x2, x3, x4, x5, x6, x7, x8, x9, x10, x11⟩ := HC.out _ HXw2.out
      go_wp2_with fail
      go_ret
      exact ⟨by simp [hc, h0], HBw2.out⟩
  · have hc' : ¬ (n : Int) % 6 = 0 := by omega
    go_enter Tryd.func26, Tryd.ntmps26
    go_wp2_with fail
    go_ret
    exact ⟨by simp [hc], HB.out⟩

set_option maxRecDepth 100000 in
set_option maxHeartbeats 2000000 in
theorem sized_x (f : FrM) (sa : Option Addr) (sc n : Nat) (w : World) (t : Int) (ht : f.type = t) (h0 : (t == 0) = false) (h1 : (t == 1) = false) (h2 : (t == 2) = false) (h3 : (t == 3) = false) (h4 : (t == 4) = false) (h6 : (t == 6) = false) (h7 : (t == 7) = false) (h8 : (t == 8) = false) (f0 : 0 ≤ f.flags) (f1 : f.flags ≤ 255) (hn : n ≤ 1000000000) :
    Calls Tryd.prog 26 #[frV f sa sc, .int .i64 n] w fun e w' => e = .returned (.bool (true)) ∧ Below w.heap.size w w' := by
  have HH := Lib.hid (fun g v h1 h2 => rHas_any f sa sc g v f0 f1 h1 h2)
  have HB := Lib.hid (bel_alloc w (.cells (frC f sa sc) 40))
  have HX := Lib.hid (heap_alloc_new w (.cells (frC f sa sc) 40))
  have HC := Lib.hid (fun (v : World) (h : v.heap[w.heap.size]? = some (.cells (frC f sa sc) 40 (0, 0))) => cells12t h ht)
  unfold frV frC at *
  rw [ht] at *
  go_enter Tryd.func26, Tryd.ntmps26
  go_wp2_with fail
  go_ret
  exact ⟨rfl, HB.out⟩

theorem rsized_any (f : FrM) (sa : Option Addr) (sc n : Nat) (w : World) (f0 : 0 ≤ f.flags) (f1 : f.flags ≤ 255) (hn : n ≤ 1000000000) :
    Calls Tryd.prog 26 #[frV f sa sc, .int .i64 n] w fun e w' => e = .returned (.bool (sizedB f.type f.flags n)) ∧ Below w.heap.size w w' := by
  unfold sizedB needN
  by_cases h0 : f.type = 0
  · refine (sized_0 f sa sc n w h0 f0 f1 hn).mono ?_
    rintro e w' ⟨rfl, hb⟩
    refine ⟨?_, hb⟩
    simp [h0]
  · by_cases h1 : f.type = 1
    · refine (sized_1 f sa sc n w h1 f0 f1 hn).mono ?_
      rintro e w' ⟨rfl, hb⟩
      refine ⟨?_, hb⟩
      simp [h1]
    · rw [if_neg (by omega)]
      by_cases h2 : f.type = 2
      · rw [if_pos h2]; exact sized_2 f sa sc n w h2 f0 f1 hn
      · rw [if_neg h2]
        by_cases h3 : f.type = 3
        · rw [if_pos (by omega)]; exact sized_3 f sa sc n w h3 f0 f1 hn
        · by_cases h8 : f.type = 8
          · rw [if_pos (by omega)]; exact sized_8 f sa sc n w h8 f0 f1 hn
          · rw [if_neg (by omega)]
            by_cases h4 : f.type = 4
            · rw [if_pos h4]; exact sized_4 f sa sc n w h4 f0 f1 hn
            · rw [if_neg h4]
              by_cases h6 : f.type = 6
              · rw [if_pos h6]; exact sized_6 f sa sc n w h6 f0 f1 hn
              · rw [if_neg h6]
                by_cases h7 : f.type = 7
                · rw [if_pos h7]; exact sized_7 f sa sc n w h7 f0 f1 hn
                · rw [if_neg h7]
                  exact sized_x f sa sc n w f.type rfl (by simp [h0]) (by simp [h1]) (by simp [h2]) (by simp [h3]) (by simp [h4]) (by simp [h6]) (by simp [h7]) (by simp [h8]) f0 f1 hn
end Go.Proofs.YtglhdlkmgmbgeaaDoor
