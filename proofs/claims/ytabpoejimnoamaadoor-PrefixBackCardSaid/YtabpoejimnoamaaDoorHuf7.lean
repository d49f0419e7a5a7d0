/- The contract of the document's Tree of layer 2. -/
import Derived.Test.YtabpoejimnoamaaDoorRows
import Derived.Test.YtabpoejimnoamaaDoorHufTree
import Derived.Test.YtabpoejimnoamaaDoorHufT
import Derived.Test.YtabpoejimnoamaaDoorMem
import Derived.Test.YtabpoejimnoamaaDoorHuf5
import Derived.Test.YtabpoejimnoamaaDoorHuf6
import Derived.Test.YtabpoejimnoamaaDoorGen
import Derived.WalkKit
import Derived.WalkSpells
import Derived.WalkLawsBesides
import Derived.Lib.Hide
import Derived.Outline
import Derived.Laws.BitsAllLaws
import Derived.Deep.AppendLies
namespace Go.Proofs.YtabpoejimnoamaaDoor
open Go.RowKit
open Huf Mem Gen
set_option linter.unusedVariables false

theorem info_step : (Tryd.prog.info? 58).map (fun i => (i.zero, i.size, i.bytes)) = some (some (.agg #[.int .i64 0, .int .i64 0, .int .i64 0]), 3, 24) := by kernel_rfl

/-- A row of steps of the call's own. -/
def Tr (w : World) (base g m cap s : Nat) : Prop := w.ownsRow base 58 3 (.slice (some ⟨g, 0, none⟩) m cap) m (rowsT m s)
theorem Tr.at {w : World} {base g m cap s : Nat} (h : Tr w base g m cap s) (j : Nat) (hj : j < 3 * m) : w.cell? ⟨g, j, none⟩ = some (.int .i64 (cellT m s j)) :=
  (h.cellAt j (by omega)).trans (rowsT_at m s j hj)

theorem rows_first : rowsT 1 0 = [.int .i64 0, .int .i64 0, .int .i64 (-1)] := by kernel_rfl
theorem tr_first (w : World) (base : Nat) (hb : base ≤ w.heap.size) : Tr (w.alloc (.cells #[.int .i64 0, .int .i64 0, .int .i64 (-1)] 58)) base w.heap.size 1 1 0 := by
  have h := World.ownsRow_lit (base := base) (e := 58) (size := 3) w #[.int .i64 0, .int .i64 0, .int .i64 (-1)] 1 hb (by unfold maxLen; omega) rfl
  rw [Tr, rows_first]
  exact h

set_option maxRecDepth 100000 in
set_option maxHeartbeats 4000000 in
theorem tree_any (w : World) :
    Calls Tryd.prog 30 #[] w fun e w' => ∃ g cap, e = .returned (.slice (some ⟨g, 0, none⟩) 513 cap) ∧ (∀ j, j < 1539 → w'.cell? ⟨g, j, none⟩ = some (.int .i64 (cellT 513 257 j))) ∧ 513 ≤ cap ∧ cap ≤ maxLen ∧ Below w.heap.size w w' := by
  obtain ⟨i0, hi, hz0, hz1, hz2⟩ := info_parts info_step
  have HI := Lib.hid hi
  have HZ0 := Lib.hid hz0
  have HZ1 := Lib.hid hz1
  have HZ2 := Lib.hid hz2
  clear hi hz0 hz1 hz2
  obtain ⟨R, hR⟩ : ∃ R, (some 513 : Option Nat) = R := ⟨_, rfl⟩
  have HR := Lib.hid hR
  have hstart : Hid (allF 257 0 1 = R) := Lib.hid (by rw [← hR]; exact all_codes)
  clear hR
  go_enter Tryd.func30, Tryd.ntmps30
  go_wp2_with fail
  refine (lengths_any _).mono ?_; rintro e w1 ⟨gl, rfl, i1, b1⟩
  go_wp2_with fail
  refine (codes_any _).mono ?_; rintro e w2 ⟨gc, rfl, i2, b2⟩
  have I1 := Lib.hid (i1.below b2)
  have I2 := Lib.hid i2
  replace b2 := below_step b1 b2
  clear i1 i2
  go_wp2_with fail
  have Htr := Lib.hid (tr_first w2 w2.heap.size (Nat.le_refl _))
  have Hb3 : Below w2.heap.size w2 (w2.alloc (.cells #[.int .i64 0, .int .i64 0, .int .i64 (-1)] 58)) := (Below.refl _ _).alloc (Nat.le_refl _) _
  go_loopw [3, 4] (fun vt vs wr => ∃ (s m g cap : Nat), s ≤ 257 ∧ 1 ≤ m ∧ vs = .int .i64 s ∧ vt = .slice (some ⟨g, 0, none⟩) m cap ∧ Hid (allF (257 - s) s m = R) ∧ Hid (Tr wr w2.heap.size g m cap s) ∧ Below w2.heap.size w2 wr) (fun _ s _ => 257 - (intOf s).toNat)
  case atStart => exact ⟨0, 1, _, _, by omega, by omega, rfl, rfl, hstart, Htr, Hb3⟩
  case round =>
    clear hstart Htr Hb3
    obtain ⟨s, m, g, cap, hs, hm, rfl, rfl, HA, HT, hbel⟩ := hrel
    by_cases hlt : s < 257
    · have hs0 : (s : Int) < 257 := by omega
      have hcell1 := I1.out.below hbel s hlt
      have hll := len_all s hlt
      have hcc := (code_all s hlt).2
      have I2k : Hid (∀ v, Below w2.heap.size w2 v → v.cell? ⟨gc, s, none⟩ = some (.int .u32 (code s))) := Lib.hid (fun v hv => I2.out.below hv s hlt)
      have HRS : Hid (RestT s (len s) 0 m) := Lib.hid (rest_start s m hlt (by rw [HA.out, HR.out]))
      have HEnd : Hid (∀ a m', RestT s 0 a m' → sy a = s ∧ allF (257 - (s + 1)) (s + 1) m' = R) := Lib.hid (fun a m' h => by
        have h2 := rest_end s a m' h
        exact ⟨h2.1, by rw [show 257 - (s + 1) = 256 - s from by omega, h2.2, HR.out]⟩)
      have HSt : Hid (∀ j a m', RestT s (j + 1) a m' → (nx (bN ((code s).testBit j)) a = m' ∧ m' < 513 ∧ ¬ sy m' < s ∧ RestT s j m' (m' + 1)) ∨ (nx (bN ((code s).testBit j)) a ≠ 0 ∧ nx (bN ((code s).testBit j)) a < m' ∧ RestT s j (nx (bN ((code s).testBit j)) a) m')) := Lib.hid (rest_step s)
      clear HA
      generalize len s = L at *
      generalize code s = C at *
      go_wp2_with fail
      obtain ⟨wo, hwo⟩ : ∃ wo : World, wo = wr := ⟨_, rfl⟩
      subst hwo
      go_loopw [3, 5, 6] (fun vt va vj wx => ∃ (j a m g cap : Nat), j ≤ L ∧ a < m ∧ vj = .int .i64 ((j : Int) - 1) ∧ va = .int .i64 a ∧ vt = .slice (some ⟨g, 0, none⟩) m cap ∧ Hid (RestT s j a m) ∧ Hid (Tr wx w2.heap.size g m cap s) ∧ Below w2.heap.size w2 wx) (fun _ _ j _ => (intOf j + 1).toNat)
      case atStart => exact ⟨L, 0, m, g, cap, by omega, by omega, rfl, rfl, rfl, HRS, HT, hbel⟩
      case round =>
        clear HRS HT
        obtain ⟨j, a, m, g, cap, hj, ha, rfl, rfl, rfl, HRS, HT, hbel1⟩ := hrel
        by_cases hj0 : j = 0
        · subst hj0
          have hneg : ¬ (0 : Int) ≤ ((0 : Nat) : Int) - 1 := by omega
          have he := HEnd.out a m HRS.out
          have HE := Lib.hid he.2
          have hm513 := rest_le s 0 a m HRS.out
          have hleaf := Lib.hid (rowsT_leaf m s a ha hm513 hlt he.1)
          have hcq : ∃ x, wr.cell? ⟨g, a * 3 + 2, none⟩ = some x := ⟨_, HT.out.at (a * 3 + 2) (by omega)⟩
          obtain ⟨x, hcq⟩ := hcq
          have hfz := World.ownsRow.frozenAt HT.out (a * 3 + 2)
          have HT2 := Lib.hid (World.ownsRow.stored HT.out (a * 3 + 2) (.int .i64 (s : Int))).1
          clear he
          go_wp2_with fail
          go_roundw
          case rel =>
            refine ⟨s + 1, m, g, cap, by omega, by omega, by go_num, rfl, HE, Lib.hid ?_, hbel1.setCell ?_ _⟩
            · have h := HT2.out
              rw [Nat.mul_comm a 3, hleaf.out] at h
              rw [Nat.mul_comm a 3]
              exact h
            · exact (HT.out.lt g rfl).1
          case measure => first | (simp [intOf]; done) | (simp [intOf]; omega)
        · obtain ⟨i, rfl⟩ : ∃ i, j = i + 1 := ⟨j - 1, by omega⟩
          have hcell2 := I2k.out wr hbel1
          have hbit := and_bit32 C i (by omega)
          have hB2 : bN (C.testBit i) < 2 := by have := bN_le (C.testBit i); omega
          have hst := HSt.out i a m HRS.out
          have HN : Hid (∀ s, cellT m s (3 * a + bN (C.testBit i)) = if nx (bN (C.testBit i)) a < m then (nx (bN (C.testBit i)) a : Int) else 0) := Lib.hid (fun s => cellT_next m s a _ hB2)
          have hgr := Lib.hid (rowsT_grow m s a (bN (C.testBit i)) hB2 ha)
          clear hj0
          generalize bN (C.testBit i) = B at *
          have hi0 : (0 : Int) ≤ i := by omega
          have hi1 : (i : Int) < 64 := by omega
          have hB0 : (0 : Int) ≤ B := by omega
          have hB1 : (B : Int) < 2 := by omega
          rcases hst with ⟨n1, n2, n3, n4⟩ | ⟨n1, n2, n3⟩
          · have hc3 : wr.cell? ⟨g, a * 3 + B, none⟩ = some (.int .i64 0) := by
              rw [HT.out.at (a * 3 + B) (by omega), Nat.mul_comm a 3, HN.out, if_neg (by omega)]
            have HN1 : Hid (∀ j u, [Value.int .i64 0, Value.int .i64 0, Value.int .i64 (-1)][j]? = some u → (wr.alloc (.cells #[.int .i64 0, .int .i64 0, .int .i64 (-1)] 58)).cell? ((⟨wr.heap.size, 0, none⟩ : Addr).add j) = some u) := Lib.hid (World.news_of_block (heap_alloc_new wr _))
            have HN2 : Hid (∀ u ∈ [Value.int .i64 0, Value.int .i64 0, Value.int .i64 (-1)], u.oneCell' = true) := Lib.hid (by
              intro u hu
              simp at hu
              rcases hu with rfl | rfl <;> rfl)
            have HN3 : Hid (m + 1 ≤ maxLen) := Lib.hid (by unfold maxLen; omega)
            have HN4 : Hid ((m + 1) * 24 ≤ 140737488355328) := Lib.hid (by omega)
            have HN5 : Hid (w2.heap.size ≤ (wr.alloc (.cells #[.int .i64 0, .int .i64 0, .int .i64 (-1)] 58)).heap.size) := Lib.hid (by rw [World.size_alloc]; have := hbel1.size; omega)
            have HT1 := Lib.hid (World.ownsRow.alloc HT.out (.cells #[.int .i64 0, .int .i64 0, .int .i64 (-1)] 58))
            have HG5 : Hid (∀ w5, (wr.alloc (.cells #[.int .i64 0, .int .i64 0, .int .i64 (-1)] 58)).grownBy w5 (Value.ownBlock (.slice (some ⟨g, 0, none⟩) m cap)) → Below w2.heap.size w2 w5) := Lib.hid (fun w5 h => (hbel1.alloc hbel1.size _).grown h (by rw [World.size_alloc]; have := hbel1.size; omega) (fun k hk => (HT.out.lt k hk).1))
            have HGr := Lib.hid (hgr.out n2 n1 n3)
            have N4 := Lib.hid n4
            clear n1 n3 n4 hgr HSt HEnd HRS
            go_wp2_with (at_builtin; refine wpList_append_own _ rfl (.tmp 42) (.tmp 44) 54 rfl w2.heap.size 58 i0 _ 3 24 Tryd.underlying54 HI.out HZ0.out HZ1.out HZ2.out rfl (by decide) (.slice (some ⟨g, 0, none⟩) m cap) m (rowsT m s) rfl HT1.out ⟨wr.heap.size, 0, none⟩ 1 1 [Value.int .i64 0, Value.int .i64 0, Value.int .i64 (-1)] rfl rfl HN1.out HN2.out HN3.out HN4.out HN5.out ?_; intro v5 w5 hown5 hgrow5 hz5; clear hz5)
            obtain ⟨g5, cap5, rfl⟩ : ∃ g5 cap5, v5 = .slice (some ⟨g5, 0, none⟩) (m + 1) cap5 := by
              rcases hown5.2 with ⟨_, h⟩ | ⟨g5, cap5, cur, h, _⟩
              · omega
              · exact ⟨g5, cap5, h⟩
            have hb5 := HG5.out w5 hgrow5
            have hcq : ∃ x, w5.cell? ⟨g5, a * 3 + B, none⟩ = some x := by
              have hl : (rowsT m s ++ [Value.int .i64 0, Value.int .i64 0, Value.int .i64 (-1)]).length = 3 * m + 3 := by rw [List.length_append, rowsT_length]; rfl
              exact ⟨_, (World.ownsRow.cellAt hown5 (a * 3 + B) (by omega)).trans (List.getElem?_eq_getElem (by omega))⟩
            obtain ⟨x, hcq⟩ := hcq
            have hfz := World.ownsRow.frozenAt hown5 (a * 3 + B)
            have HT5 : Hid (Tr (w5.setCell ⟨g5, a * 3 + B, none⟩ (.int .i64 (m : Int))) w2.heap.size g5 (m + 1) cap5 s) := Lib.hid (by
              have h := (World.ownsRow.stored hown5 (a * 3 + B) (.int .i64 (m : Int))).1
              rw [Nat.mul_comm a 3, HGr.out] at h
              rw [Tr, Nat.mul_comm a 3]
              exact h)
            have hge : w2.heap.size ≤ g5 := (hown5.lt g5 rfl).1
            clear hown5 hgrow5
            obtain ⟨m1, hm1⟩ : ∃ m1, m1 = m + 1 := ⟨_, rfl⟩
            rw [← hm1] at HT5 N4 ⊢
            have hm2 : (m1 : Int) - 1 = (m : Int) := by omega
            have hm3 : m1 ≤ 600 := by omega
            have hm4 : m < m1 := by omega
            have hm5 : a < m1 := by omega
            clear hm1
            go_wp2_with fail
            go_simp
            go_wp2_with fail
            go_roundw
            case rel => exact ⟨i, m, m1, g5, cap5, by omega, hm4, rfl, rfl, rfl, N4, HT5, hb5.setCell hge _⟩
            case measure => first | (simp [intOf]; done) | (simp [intOf]; omega)
          · have hc3 : wr.cell? ⟨g, a * 3 + B, none⟩ = some (.int .i64 (nx B a)) := by
              rw [HT.out.at (a * 3 + B) (by omega), Nat.mul_comm a 3, HN.out, if_pos n2]
            have hne : ((nx B a : Int) == 0) = false := by simp; omega
            have N3 := Lib.hid n3
            clear n1 n3 hgr
            generalize nx B a = c at *
            go_wp2_with fail
            go_roundw
            case rel => exact ⟨i, c, m, g, cap, by omega, n2, rfl, rfl, rfl, N3, HT, hbel1⟩
            case measure => first | (simp [intOf]; done) | (simp [intOf]; omega)
    · have hs7 : s = 257 := by omega
      subst hs7
      have hm513 : m = 513 := by
        have h := HA.out
        rw [show 257 - 257 = 0 from rfl, allF, ← HR.out] at h
        simpa using h
      subst hm513
      have hcells : Hid (∀ j, j < 1539 → wr.cell? ⟨g, j, none⟩ = some (.int .i64 (cellT 513 257 j))) := Lib.hid (fun j hj => HT.out.at j (by omega))
      have hle := own_le HT.out
      clear HA HT
      go_wp2_with fail
      go_ret
      exact ⟨g, cap, rfl, hcells.out, hle.1, hle.2, below_step b2 hbel⟩
end Go.Proofs.YtabpoejimnoamaaDoor
