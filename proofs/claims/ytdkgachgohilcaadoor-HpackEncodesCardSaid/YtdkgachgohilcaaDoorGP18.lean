/- The contract of the document's Tree of layer 2. The contract of the document's Decode of layer 2. The contract of the document's TakeText of layer 3. -/
import Derived.Test.YtdkgachgohilcaaDoorRows
import Derived.Test.YtdkgachgohilcaaDoorGP04
import Derived.Test.YtdkgachgohilcaaDoorGP16
import Derived.Test.YtdkgachgohilcaaDoorGP01
import Derived.Test.YtdkgachgohilcaaDoorGP17
import Derived.Test.YtdkgachgohilcaaDoorGP03
import Derived.WalkKit
import Derived.WalkSpells
import Derived.WalkLawsBesides
import Derived.Lib.Hide
import Derived.Outline
import Derived.Laws.BitsAllLaws
import Derived.Deep.AppendLies
import Derived.Test.YtdkgachgohilcaaDoorGP02
import Derived.Test.YtdkgachgohilcaaDoorGP06
set_option linter.unusedVariables false
set_option linter.unusedSimpArgs false
namespace Go.Proofs.YtdkgachgohilcaaDoor
open Go.RowKit
open Huf Mem Gen
set_option linter.unusedVariables false

theorem info_step : (Tryd.prog.info? 140).map (fun i => (i.zero, i.size, i.bytes)) = some (some (.agg #[.int .i64 0, .int .i64 0, .int .i64 0]), 3, 24) := by kernel_rfl

/-- A row of steps of the call's own. -/
def Tr (w : World) (base g m cap s : Nat) : Prop := w.ownsRow base 140 3 (.slice (some ⟨g, 0, none⟩) m cap) m (rowsT m s)
theorem Tr.at {w : World} {base g m cap s : Nat} (h : Tr w base g m cap s) (j : Nat) (hj : j < 3 * m) : w.cell? ⟨g, j, none⟩ = some (.int .i64 (cellT m s j)) :=
  (h.cellAt j (by omega)).trans (rowsT_at m s j hj)

theorem rows_first : rowsT 1 0 = [.int .i64 0, .int .i64 0, .int .i64 (-1)] := by kernel_rfl
theorem tr_first (w : World) (base : Nat) (hb : base ≤ w.heap.size) : Tr (w.alloc (.cells #[.int .i64 0, .int .i64 0, .int .i64 (-1)] 140)) base w.heap.size 1 1 0 := by
  have h := World.ownsRow_lit (base := base) (e := 140) (size := 3) w #[.int .i64 0, .int .i64 0, .int .i64 (-1)] 1 hb (by unfold maxLen; omega) rfl
  rw [Tr, rows_first]
  exact h

set_option maxRecDepth 100000 in
set_option maxHeartbeats 4000000 in
theorem tree_any (w : World) :
    Calls Tryd.prog 97 #[] w fun e w' => ∃ g cap, e = .returned (.slice (some ⟨g, 0, none⟩) 513 cap) ∧ (∀ j, j < 1539 → w'.cell? ⟨g, j, none⟩ = some (.int .i64 (cellT 513 257 j))) ∧ 513 ≤ cap ∧ cap ≤ maxLen ∧ Below w.heap.size w w' := by
  obtain ⟨i0, hi, hz0, hz1, hz2⟩ := info_parts info_step
  have HI := Lib.hid hi
  have HZ0 := Lib.hid hz0
  have HZ1 := Lib.hid hz1
  have HZ2 := Lib.hid hz2
  clear hi hz0 hz1 hz2
  obtain ⟨R, hR⟩ : ∃ R, (some 513 : Option Nat) = R := ⟨_, rfl⟩
  have HR := Lib.hid hR
  have hstart : Hid (allF 257 0 1 = R) := Lib.hid (by rw [← hR]; exact all_codes)
  clear hR
  go_enter Tryd.func97, Tryd.ntmps97
  go_wp2_with fail
  refine (lengths_any _).mono ?_; rintro e w1 ⟨gl, rfl, i1, b1⟩
  go_wp2_with fail
  refine (codes_any _).mono ?_; rintro e w2 ⟨gc, rfl, i2, b2⟩
  have I1 := Lib.hid (i1.below b2)
  have I2 := Lib.hid i2
  replace b2 := below_step b1 b2
  clear i1 i2
  go_wp2_with fail
  have Htr := Lib.hid (tr_first w2 w2.heap.size (Nat.le_refl _))
  have Hb3 : Below w2.heap.size w2 (w2.alloc (.cells #[.int .i64 0, .int .i64 0, .int .i64 (-1)] 140)) := (Below.refl _ _).alloc (Nat.le_refl _) _
  go_loopw [3, 4] (fun vt vs wr => ∃ (s m g cap : Nat), s ≤ 257 ∧ 1 ≤ m ∧ vs = .int .i64 s ∧ vt = .slice (some ⟨g, 0, none⟩) m cap ∧ Hid (allF (257 - s) s m = R) ∧ Hid (Tr wr w2.heap.size g m cap s) ∧ Below w2.heap.size w2 wr) (fun _ s _ => 257 - (intOf s).toNat)
  case atStart => exact ⟨0, 1, _, _, by omega, by omega, rfl, rfl, hstart, Htr, Hb3⟩
  case round =>
    clear hstart Htr Hb3
    obtain ⟨s, m, g, cap, hs, hm, rfl, rfl, HA, HT, hbel⟩ := hrel
    by_cases hlt : s < 257
    · have hs0 : (s : Int) < 257 := by omega
      have hcell1 := I1.out.below hbel s hlt
      have hll := len_all s hlt
      have hcc := (code_all s hlt).2
      have I2k : Hid (∀ v, Below w2.heap.size w2 v → v.cell? ⟨gc, s, none⟩ = some (.int .u32 (code s))) := Lib.hid (fun v hv => I2.out.below hv s hlt)
      have HRS : Hid (RestT s (len s) 0 m) := Lib.hid (rest_start s m hlt (by rw [HA.out, HR.out]))
      have HEnd : Hid (∀ a m', RestT s 0 a m' → sy a = s ∧ allF (257 - (s + 1)) (s + 1) m' = R) := Lib.hid (fun a m' h => by
        have h2 := rest_end s a m' h
        exact ⟨h2.1, by rw [show 257 - (s + 1) = 256 - s from by omega, h2.2, HR.out]⟩)
      have HSt : Hid (∀ j a m', RestT s (j + 1) a m' → (nx (bN ((code s).testBit j)) a = m' ∧ m' < 513 ∧ ¬ sy m' < s ∧ RestT s j m' (m' + 1)) ∨ (nx (bN ((code s).testBit j)) a ≠ 0 ∧ nx (bN ((code s).testBit j)) a < m' ∧ RestT s j (nx (bN ((code s).testBit j)) a) m')) := Lib.hid (rest_step s)
      clear HA
      generalize len s = L at *
      generalize code s = C at *
      go_wp2_with fail
      obtain ⟨wo, hwo⟩ : ∃ wo : World, wo = wr := ⟨_, rfl⟩
      subst hwo
      go_loopw [3, 5, 6] (fun vt va vj wx => ∃ (j a m g cap : Nat), j ≤ L ∧ a < m ∧ vj = .int .i64 ((j : Int) - 1) ∧ va = .int .i64 a ∧ vt = .slice (some ⟨g, 0, none⟩) m cap ∧ Hid (RestT s j a m) ∧ Hid (Tr wx w2.heap.size g m cap s) ∧ Below w2.heap.size w2 wx) (fun _ _ j _ => (intOf j + 1).toNat)
      case atStart => exact ⟨L, 0, m, g, cap, by omega, by omega, rfl, rfl, rfl, HRS, HT, hbel⟩
      case round =>
        clear HRS HT
        obtain ⟨j, a, m, g, cap, hj, ha, rfl, rfl, rfl, HRS, HT, hbel1⟩ := hrel
        by_cases hj0 : j = 0
        · subst hj0
          have hneg : ¬ (0 : Int) ≤ ((0 : Nat) : Int) - 1 := by omega
          have he := HEnd.out a m HRS.out
          have HE := Lib.hid he.2
          have hm513 := rest_le s 0 a m HRS.out
          have hleaf := Lib.hid (rowsT_leaf m s a ha hm513 hlt he.1)
          have hcq : ∃ x, wr.cell? ⟨g, a * 3 + 2, none⟩ = some x := ⟨_, HT.out.at (a * 3 + 2) (by omega)⟩
          obtain ⟨x, hcq⟩ := hcq
          have hfz := World.ownsRow.frozenAt HT.out (a * 3 + 2)
          have HT2 := Lib.hid (World.ownsRow.stored HT.out (a * 3 + 2) (.int .i64 (s : Int))).1
          clear he
          go_wp2_with fail
          go_roundw
          case rel =>
            refine ⟨s + 1, m, g, cap, by omega, by omega, by go_num, rfl, HE, Lib.hid ?_, hbel1.setCell ?_ _⟩
            · have h := HT2.out
              rw [Nat.mul_comm a 3, hleaf.out] at h
              rw [Nat.mul_comm a 3]
              exact h
            · exact (HT.out.lt g rfl).1
          case measure => first | (simp [intOf]; done) | (simp [intOf]; omega)
        · obtain ⟨i, rfl⟩ : ∃ i, j = i + 1 := ⟨j - 1, by omega⟩
          have hcell2 := I2k.out wr hbel1
          have hbit := and_bit32 C i (by omega)
          have hB2 : bN (C.testBit i) < 2 := by have := bN_le (C.testBit i); omega
          have hst := HSt.out i a m HRS.out
          have HN : Hid (∀ s, cellT m s (3 * a + bN (C.testBit i)) = if nx (bN (C.testBit i)) a < m then (nx (bN (C.testBit i)) a : Int) else 0) := Lib.hid (fun s => cellT_next m s a _ hB2)
          have hgr := Lib.hid (rowsT_grow m s a (bN (C.testBit i)) hB2 ha)
          clear hj0
          generalize bN (C.testBit i) = B at *
          have hi0 : (0 : Int) ≤ i := by omega
          have hi1 : (i : Int) < 64 := by omega
          have hB0 : (0 : Int) ≤ B := by omega
          have hB1 : (B : Int) < 2 := by omega
          rcases hst with ⟨n1, n2, n3, n4⟩ | ⟨n1, n2, n3⟩
          · have hc3 : wr.cell? ⟨g, a * 3 + B, none⟩ = some (.int .i64 0) := by
              rw [HT.out.at (a * 3 + B) (by omega), Nat.mul_comm a 3, HN.out, if_neg (by omega)]
            have HN1 : Hid (∀ j u, [Value.int .i64 0, Value.int .i64 0, Value.int .i64 (-1)][j]? = some u → (wr.alloc (.cells #[.int .i64 0, .int .i64 0, .int .i64 (-1)] 140)).cell? ((⟨wr.heap.size, 0, none⟩ : Addr).add j) = some u) := Lib.hid (World.news_of_block (heap_alloc_new wr _))
            have HN2 : Hid (∀ u ∈ [Value.int .i64 0, Value.int .i64 0, Value.int .i64 (-1)], u.oneCell' = true) := Lib.hid (by
              intro u hu
              simp at hu
              rcases hu with rfl | rfl <;> rfl)
            have HN3 : Hid (m + 1 ≤ maxLen) := Lib.hid (by unfold maxLen; omega)
            have HN4 : Hid ((m + 1) * 24 ≤ 140737488355328) := Lib.hid (by omega)
            have HN5 : Hid (w2.heap.size ≤ (wr.alloc (.cells #[.int .i64 0, .int .i64 0, .int .i64 (-1)] 140)).heap.size) := Lib.hid (by rw [World.size_alloc]; have := hbel1.size; omega)
            have HT1 := Lib.hid (World.ownsRow.alloc HT.out (.cells #[.int .i64 0, .int .i64 0, .int .i64 (-1)] 140))
            have HG5 : Hid (∀ w5, (wr.alloc (.cells #[.int .i64 0, .int .i64 0, .int .i64 (-1)] 140)).grownBy w5 (Value.ownBlock (.slice (some ⟨g, 0, none⟩) m cap)) → Below w2.heap.size w2 w5) := Lib.hid (fun w5 h => (hbel1.alloc hbel1.size _).grown h (by rw [World.size_alloc]; have := hbel1.size; omega) (fun k hk => (HT.out.lt k hk).1))
            have HGr := Lib.hid (hgr.out n2 n1 n3)
            have N4 := Lib.hid n4
            clear n1 n3 n4 hgr HSt HEnd HRS
            go_wp2_with (at_builtin; refine wpList_append_own _ rfl (.tmp 42) (.tmp 44) 136 rfl w2.heap.size 140 i0 _ 3 24 Tryd.underlying136 HI.out HZ0.out HZ1.out HZ2.out rfl (by decide) (.slice (some ⟨g, 0, none⟩) m cap) m (rowsT m s) rfl HT1.out ⟨wr.heap.size, 0, none⟩ 1 1 [Value.int .i64 0, Value.int .i64 0, Value.int .i64 (-1)] rfl rfl HN1.out HN2.out HN3.out HN4.out HN5.out ?_; intro v5 w5 hown5 hgrow5 hz5; clear hz5)
            obtain ⟨g5, cap5, rfl⟩ : ∃ g5 cap5, v5 = .slice (some ⟨g5, 0, none⟩) (m + 1) cap5 := by
              rcases hown5.2 with ⟨_, h⟩ | ⟨g5, cap5, cur, h, _⟩
              · omega
              · exact ⟨g5, cap5, h⟩
            have hb5 := HG5.out w5 hgrow5
            have hcq : ∃ x, w5.cell? ⟨g5, a * 3 + B, none⟩ = some x := by
              have hl : (rowsT m s ++ [Value.int .i64 0, Value.int .i64 0, Value.int .i64 (-1)]).length = 3 * m + 3 := by rw [List.length_append, rowsT_length]; rfl
              exact ⟨_, (World.ownsRow.cellAt hown5 (a * 3 + B) (by omega)).trans (List.getElem?_eq_getElem (by omega))⟩
            obtain ⟨x, hcq⟩ := hcq
            have hfz := World.ownsRow.frozenAt hown5 (a * 3 + B)
            have HT5 : Hid (Tr (w5.setCell ⟨g5, a * 3 + B, none⟩ (.int .i64 (m : Int))) w2.heap.size g5 (m + 1) cap5 s) := Lib.hid (by
              have h := (World.ownsRow.stored hown5 (a * 3 + B) (.int .i64 (m : Int))).1
              rw [Nat.mul_comm a 3, HGr.out] at h
              rw [Tr, Nat.mul_comm a 3]
              exact h)
            have hge : w2.heap.size ≤ g5 := (hown5.lt g5 rfl).1
            clear hown5 hgrow5
            obtain ⟨m1, hm1⟩ : ∃ m1, m1 = m + 1 := ⟨_, rfl⟩
            rw [← hm1] at HT5 N4 ⊢
            have hm2 : (m1 : Int) - 1 = (m : Int) := by omega
            have hm3 : m1 ≤ 600 := by omega
            have hm4 : m < m1 := by omega
            have hm5 : a < m1 := by omega
            clear hm1
            go_wp2_with fail
            go_simp
            go_wp2_with fail
            go_roundw
            case rel => exact ⟨i, m, m1, g5, cap5, by omega, hm4, rfl, rfl, rfl, N4, HT5, hb5.setCell hge _⟩
            case measure => first | (simp [intOf]; done) | (simp [intOf]; omega)
          · have hc3 : wr.cell? ⟨g, a * 3 + B, none⟩ = some (.int .i64 (nx B a)) := by
              rw [HT.out.at (a * 3 + B) (by omega), Nat.mul_comm a 3, HN.out, if_pos n2]
            have hne : ((nx B a : Int) == 0) = false := by simp; omega
            have N3 := Lib.hid n3
            clear n1 n3 hgr
            generalize nx B a = c at *
            go_wp2_with fail
            go_roundw
            case rel => exact ⟨i, c, m, g, cap, by omega, n2, rfl, rfl, rfl, N3, HT, hbel1⟩
            case measure => first | (simp [intOf]; done) | (simp [intOf]; omega)
    · have hs7 : s = 257 := by omega
      subst hs7
      have hm513 : m = 513 := by
        have h := HA.out
        rw [show 257 - 257 = 0 from rfl, allF, ← HR.out] at h
        simpa using h
      subst hm513
      have hcells : Hid (∀ j, j < 1539 → wr.cell? ⟨g, j, none⟩ = some (.int .i64 (cellT 513 257 j))) := Lib.hid (fun j hj => HT.out.at j (by omega))
      have hle := own_le HT.out
      clear HA HT
      go_wp2_with fail
      go_ret
      exact ⟨g, cap, rfl, hcells.out, hle.1, hle.2, below_step b2 hbel⟩
end Go.Proofs.YtdkgachgohilcaaDoor

namespace Go.Proofs.YtdkgachgohilcaaDoor
open Go.RowKit
open Huf Mem Gen
set_option linter.unusedVariables false

/-- A 0 is among the bits that lead to a place. -/
def nv (k : Nat) : Bool := !(va k == 2 ^ de k - 1)
theorem nv_next : ∀ k, k < 513 → sy k = 1023 → ∀ b, b < 2 → nv (nx b k) = (nv k || b == 0) := by decide +kernel
theorem nv_root : nv 0 = false := by decide +kernel
theorem nv_iff (k : Nat) : nv k = true ↔ va k ≠ 2 ^ de k - 1 := by simp [nv]

/-- A block that holds the whole tree. -/
def TreeIs (w : World) (g : Nat) : Prop := ∀ j, j < 1539 → w.cell? ⟨g, j, none⟩ = some (.int .i64 (cellT 513 257 j))
theorem TreeIs.below {w w' : World} {g : Nat} (h : TreeIs w g) (hb : Below w.heap.size w w') : TreeIs w' g := fun j hj => below_cell hb (h j hj)
theorem TreeIs.next {w : World} {g : Nat} (h : TreeIs w g) (k b : Nat) (hk : k < 513) (hb : b < 2) (hn : nx b k < 513) : w.cell? ⟨g, k * 3 + b, none⟩ = some (.int .i64 (nx b k)) := by
  rw [h _ (by omega), Nat.mul_comm k 3, cellT_next 513 257 k b hb, if_pos hn]
theorem TreeIs.sym {w : World} {g : Nat} (h : TreeIs w g) (k : Nat) (hk : k < 513) : w.cell? ⟨g, k * 3 + 2, none⟩ = some (.int .i64 (if sy k < 257 then (sy k : Int) else -1)) := by
  rw [h _ (by omega), Nat.mul_comm k 3, cellT_sym 513 257 k]

set_option maxRecDepth 100000 in
set_option maxHeartbeats 4000000 in
theorem rdecode_any (a : Option Addr) (l : List UInt8) (cap : Nat) (w : World) (hl : l.length ≤ 134217728) (hr : RB w a l) :
    Calls Tryd.prog 74 #[.slice a l.length cap] w fun e w' => e = .returned (.tuple #[.string ⟨(decV l).toArray⟩, .int .i64 (decE l)]) ∧ Below w.heap.size w w' := by
  obtain ⟨i0, hi, hz0, hz1, hz2⟩ := info_parts info_u8
  have HI := Lib.hid hi
  have HZ0 := Lib.hid hz0
  have HZ1 := Lib.hid hz1
  have HZ2 := Lib.hid hz2
  have HRB := Lib.hid hr
  clear hi hz0 hz1 hz2 hr
  have HV : Hid (decV l = (dec l).getD []) := rfl
  have HE : Hid (decE l = if (dec l).isSome then 0 else 10) := rfl
  generalize decV l = V at HV ⊢
  generalize decE l = X at HE ⊢
  have HR : Hid (decK (bitsB l) 0 [] = dec l) := rfl
  generalize dec l = R at HV HE HR
  have Hbl := Lib.hid (bitsB_length l)
  go_enter Tryd.func74, Tryd.ntmps74
  go_wp2_with fail
  refine (tree_any _).mono ?_; rintro e w1 ⟨gt, capt, rfl, ht, hc1, hc2, b1⟩
  have HT : Hid (TreeIs w1 gt) := Lib.hid ht
  have HRB1 := Lib.hid (HRB.out.below b1)
  unfold maxLen at hc2
  clear ht
  have Hown := Lib.hid (own_empty1 w1 5)
  have hb2 : Below w1.heap.size w1 (w1.alloc (.cells #[] 5)) := (Below.refl _ _).alloc (Nat.le_refl _) _
  have hstart : Hid (decK ((bitsB l).drop (8 * 0)) 0 [] = R) := Lib.hid (by simpa using HR.out)
  have S0 : Hid (sy 0 = 1023) := Lib.hid root_facts.1
  have D0 : Hid (((de 0 : Nat) : Int) = 0) := Lib.hid (by rw [root_facts.2.2]; rfl)
  have V0 : Hid (nv 0 = false) := Lib.hid nv_root
  clear HR
  go_wp2_with fail
  go_loopw [5, 6, 7, 8, 9] (fun vo vk vl vn vi wr => ∃ (i k : Nat) (ad : Option Addr) (cp : Nat) (E : List UInt8), i ≤ l.length ∧ vi = .int .i64 i ∧ k < 513 ∧ Hid (sy k = 1023) ∧ vk = .int .i64 k ∧ vl = .int .i64 (de k) ∧ vn = .bool (nv k) ∧ vo = .slice ad E.length cp ∧ Hid (decK ((bitsB l).drop (8 * i)) k E = R) ∧ E.length ≤ 8 * i ∧ Hid (wr.ownsRow w1.heap.size 5 1 (.slice ad E.length cp) E.length (bvs E)) ∧ Below w1.heap.size w1 wr) (fun _ _ _ _ i _ => l.length - (intOf i).toNat)
  case atStart => exact ⟨0, 0, _, 0, [], by omega, rfl, by omega, S0, rfl, by rw [D0.out], by rw [V0.out], rfl, hstart, by simp, Hown, hb2⟩
  case round =>
    clear hstart Hown hb2
    obtain ⟨i, k, ad, cp, E, hi, rfl, hk, HS, rfl, rfl, rfl, rfl, HF, hE, HO, hbel⟩ := hrel
    by_cases hlt : i < l.length
    · have hcb := l[i].toNat_lt
      obtain ⟨bb, off, ha, hcells⟩ : ∃ b off, a = some ⟨b, off, none⟩ ∧ ∀ v, Below w1.heap.size w1 v → v.cell? ⟨b, off + i, none⟩ = some (.int .u8 (l[i].toNat : Int)) := by
        rcases HRB1.out with h | ⟨b, off, h, hc⟩
        · rw [h] at hlt; simp at hlt
        · exact ⟨b, off, h, fun v hv => below_cell hv (hc i hlt)⟩
      subst ha
      have HCell := Lib.hid hcells
      have HBit : Hid (∀ j, j < 8 → (bitsB l).drop (8 * i + (8 - (j + 1))) = l[i].toNat.testBit j :: (bitsB l).drop (8 * i + (8 - j))) := Lib.hid (fun j hj => by
        have h := bitsB_drop l i (8 - (j + 1)) hlt (by omega)
        rw [show 7 - (8 - (j + 1)) = j from by omega, show 8 * i + (8 - (j + 1)) + 1 = 8 * i + (8 - j) from by omega] at h
        exact h)
      have hden := inner_bd k hk HS.out
      clear hcells
      generalize hbyte : l[i].toNat = byt at *
      clear hbyte
      have HF1 : Hid (decK ((bitsB l).drop (8 * i + (8 - 8))) k E = R) := Lib.hid HF.out
      clear HF
      go_wp2_with fail
      obtain ⟨wo, hwo⟩ : ∃ wo : World, wo = wr := ⟨_, rfl⟩
      subst hwo
      go_loopw [5, 6, 7, 8, 10] (fun vo vk vl vn vj wx => ∃ (j k : Nat) (ad : Option Addr) (cp : Nat) (E : List UInt8), j ≤ 8 ∧ vj = .int .i64 ((j : Int) - 1) ∧ k < 513 ∧ Hid (sy k = 1023) ∧ vk = .int .i64 k ∧ vl = .int .i64 (de k) ∧ vn = .bool (nv k) ∧ vo = .slice ad E.length cp ∧ Hid (decK ((bitsB l).drop (8 * i + (8 - j))) k E = R) ∧ E.length + j ≤ 8 * i + 8 ∧ Hid (wx.ownsRow w1.heap.size 5 1 (.slice ad E.length cp) E.length (bvs E)) ∧ Below w1.heap.size w1 wx) (fun _ _ _ _ j _ => (intOf j + 1).toNat)
      case atStart => exact ⟨8, k, ad, cp, E, by omega, rfl, hk, HS, rfl, rfl, rfl, rfl, HF1, by omega, HO, hbel⟩
      case round =>
        clear HF1 HO HS hden
        obtain ⟨j, k, ad, cp, E, hj, rfl, hk, HS, rfl, rfl, rfl, rfl, HF, hE, HO, hbel1⟩ := hrel
        have hden := inner_bd k hk HS.out
        by_cases hj0 : j = 0
        · subst hj0
          have hneg : ¬ (0 : Int) ≤ ((0 : Nat) : Int) - 1 := by omega
          have HF2 : Hid (decK ((bitsB l).drop (8 * (i + 1))) k E = R) := Lib.hid HF.out
          clear HF
          go_wp2_with fail
          go_roundw
          case rel => exact ⟨i + 1, k, ad, cp, E, by omega, by go_num, hk, HS, rfl, rfl, rfl, rfl, HF2, by omega, HO, hbel1⟩
          case measure => first | (simp [intOf]; done) | (simp [intOf]; omega)
        · obtain ⟨j, rfl⟩ : ∃ m, j = m + 1 := ⟨j - 1, by omega⟩
          have hcell := HCell.out wr hbel1
          have hbits := HBit.out j (by omega)
          have HF' : Hid (decK (byt.testBit j :: (bitsB l).drop (8 * i + (8 - j))) k E = R) := Lib.hid (by rw [← hbits]; exact HF.out)
          have hand := and_bit byt j (by omega)
          have hB2 : bN (byt.testBit j) < 2 := by have := bN_le (byt.testBit j); omega
          clear HF hbits hj0
          obtain ⟨n0, n1, n2, n3, n4, n5⟩ := node_facts k hk HS.out _ hB2
          have hnx := HT.out.below hbel1 |>.next k _ hk hB2 n1
          have hnv := nv_next k hk HS.out _ hB2
          have hlf := leaf_facts _ n1 n0
          have HTs : Hid (∀ v, Below w1.heap.size w1 v → v.cell? ⟨gt, nx (bN (byt.testBit j)) k * 3 + 2, none⟩ = some (.int .i64 (if sy (nx (bN (byt.testBit j)) k) < 257 then (sy (nx (bN (byt.testBit j)) k) : Int) else -1))) := Lib.hid (fun v hv => (HT.out.below hv).sym _ n1)
          rw [decK] at HF'
          generalize nx (bN (byt.testBit j)) k = T at *
          generalize bN (byt.testBit j) = B at *
          have HNv := Lib.hid hnv
          have HN3 : Hid ((de T : Int) = (de k : Int) + 1) := Lib.hid (by omega)
          have hj1 : (0 : Int) ≤ j := by omega
          have hj2 : (j : Int) < 8 := by omega
          have hB0 : (0 : Int) ≤ B := by omega
          have hB1 : (B : Int) < 2 := by omega
          clear n2 n3 n5 hnv hB2
          rcases Bool.eq_false_or_eq_true (nv k) with hnk | hnk
          · rw [hnk]
            have hq : Hid (nv T = true) := Lib.hid (by rw [HNv.out, hnk]; rfl)
            clear hnk HNv
            rcases hlf with ⟨s1, _, _⟩ | ⟨s1, _⟩ | ⟨s1, _, _⟩
            · have hsym := HTs.out wr hbel1
              rw [if_neg (by omega)] at hsym
              have HF2 : Hid (decK ((bitsB l).drop (8 * i + (8 - j))) T E = R) := Lib.hid (by
                have h := HF'.out
                rwa [if_pos s1] at h)
              have HS1 := Lib.hid s1
              clear s1 HF'
              go_wp2_with fail
              go_roundw
              case rel => exact ⟨j, T, ad, cp, E, by omega, rfl, n1, HS1, rfl, by rw [HN3.out], by rw [hq.out], rfl, HF2, by omega, HO, hbel1⟩
              case measure => first | (simp [intOf]; done) | (simp [intOf]; omega)
            · have hsym := HTs.out wr hbel1
              rw [s1, if_pos (by omega)] at hsym
              have hRn : R = none := by rw [← HF'.out, if_neg (by omega), if_pos s1]
              have hV1 : V = [] := by rw [HV.out, hRn]; rfl
              have hX1 : X = 10 := by rw [HE.out, hRn]; rfl
              subst hV1 hX1
              clear HF' hRn HV HE s1
              go_wp2_with fail
              go_ret2
              exact ⟨rfl, below_step b1 hbel1⟩
            · have hsym := HTs.out wr hbel1
              rw [if_pos (by omega)] at hsym
              have HF2 : Hid (decK ((bitsB l).drop (8 * i + (8 - j))) 0 (E ++ [UInt8.ofNat (sy T)]) = R) := Lib.hid (by
                have h := HF'.out
                rwa [if_neg (by omega), if_neg (by omega)] at h)
              have HU : Hid ((sy T : Int) = ((UInt8.ofNat (sy T)).toNat : Int)) := Lib.hid (by rw [UInt8.toNat_ofNat', Nat.mod_eq_of_lt (by omega)])
              have hs0 : ¬ (sy T : Int) < 0 := by omega
              have hs1 : ((sy T : Int) == 256) = false := by simp; omega
              have hs2 : (sy T : Int) < 256 := by omega
              have hs3 : (0 : Int) ≤ sy T := by omega
              have HL : Hid (E.length + 1 ≤ 140737488355328) := Lib.hid (by omega)
              have HB := Lib.hid hbel1.size
              generalize hu : UInt8.ofNat (sy T) = u at *
              generalize sy T = y at *
              clear HF' s1 hu
              go_wp2_with (at_builtin; refine append_byte Tryd.underlying24 HI.out HZ0.out HZ1.out HZ2.out rfl _ _ rfl w1.heap.size (.slice ad E.length cp) E u _ HU.out rfl HO.out rfl HL.out HB.out ?_; intro v1 w4 hown4 hb4)
              go_roundw
              case rel =>
                obtain ⟨ad4, cap4, rfl⟩ := own_form hown4.out
                exact ⟨j, 0, ad4, cap4, E ++ [u], by omega, rfl, by omega, S0, rfl, by rw [D0.out], by rw [V0.out], by rw [List.length_append]; rfl, HF2, by rw [List.length_append]; simp; omega, Lib.hid (by rw [List.length_append]; exact hown4.out), hb4 _ _ hbel1 (Nat.le_refl _)⟩
              case measure => first | (simp [intOf]; done) | (simp [intOf]; omega)
          · rw [hnk]
            have hq : Hid (((B : Int) == 0) = nv T) := Lib.hid (by rw [HNv.out, hnk, Bool.false_or, Bool.eq_iff_iff]; simp)
            clear hnk HNv
            rcases hlf with ⟨s1, _, _⟩ | ⟨s1, _⟩ | ⟨s1, _, _⟩
            · have hsym := HTs.out wr hbel1
              rw [if_neg (by omega)] at hsym
              have HF2 : Hid (decK ((bitsB l).drop (8 * i + (8 - j))) T E = R) := Lib.hid (by
                have h := HF'.out
                rwa [if_pos s1] at h)
              have HS1 := Lib.hid s1
              clear s1 HF'
              go_wp2_with fail
              go_roundw
              case rel => exact ⟨j, T, ad, cp, E, by omega, rfl, n1, HS1, rfl, by rw [HN3.out], by rw [hq.out], rfl, HF2, by omega, HO, hbel1⟩
              case measure => first | (simp [intOf]; done) | (simp [intOf]; omega)
            · have hsym := HTs.out wr hbel1
              rw [s1, if_pos (by omega)] at hsym
              have hRn : R = none := by rw [← HF'.out, if_neg (by omega), if_pos s1]
              have hV1 : V = [] := by rw [HV.out, hRn]; rfl
              have hX1 : X = 10 := by rw [HE.out, hRn]; rfl
              subst hV1 hX1
              clear HF' hRn HV HE s1
              go_wp2_with fail
              go_ret2
              exact ⟨rfl, below_step b1 hbel1⟩
            · have hsym := HTs.out wr hbel1
              rw [if_pos (by omega)] at hsym
              have HF2 : Hid (decK ((bitsB l).drop (8 * i + (8 - j))) 0 (E ++ [UInt8.ofNat (sy T)]) = R) := Lib.hid (by
                have h := HF'.out
                rwa [if_neg (by omega), if_neg (by omega)] at h)
              have HU : Hid ((sy T : Int) = ((UInt8.ofNat (sy T)).toNat : Int)) := Lib.hid (by rw [UInt8.toNat_ofNat', Nat.mod_eq_of_lt (by omega)])
              have hs0 : ¬ (sy T : Int) < 0 := by omega
              have hs1 : ((sy T : Int) == 256) = false := by simp; omega
              have hs2 : (sy T : Int) < 256 := by omega
              have hs3 : (0 : Int) ≤ sy T := by omega
              have HL : Hid (E.length + 1 ≤ 140737488355328) := Lib.hid (by omega)
              have HB := Lib.hid hbel1.size
              generalize hu : UInt8.ofNat (sy T) = u at *
              generalize sy T = y at *
              clear HF' s1 hu
              go_wp2_with (at_builtin; refine append_byte Tryd.underlying24 HI.out HZ0.out HZ1.out HZ2.out rfl _ _ rfl w1.heap.size (.slice ad E.length cp) E u _ HU.out rfl HO.out rfl HL.out HB.out ?_; intro v1 w4 hown4 hb4)
              go_roundw
              case rel =>
                obtain ⟨ad4, cap4, rfl⟩ := own_form hown4.out
                exact ⟨j, 0, ad4, cap4, E ++ [u], by omega, rfl, by omega, S0, rfl, by rw [D0.out], by rw [V0.out], by rw [List.length_append]; rfl, HF2, by rw [List.length_append]; simp; omega, Lib.hid (by rw [List.length_append]; exact hown4.out), hb4 _ _ hbel1 (Nat.le_refl _)⟩
              case measure => first | (simp [intOf]; done) | (simp [intOf]; omega)
    · have hil : i = l.length := by omega
      have hdr : (bitsB l).drop (8 * i) = [] := List.drop_of_length_le (by rw [Hbl.out]; omega)
      have hin := inner_bd k hk HS.out
      have HF' : Hid ((if 8 ≤ de k ∨ va k ≠ 2 ^ de k - 1 then none else some E) = R) := Lib.hid (by
        have h := HF.out
        rwa [hdr, decK] at h)
      clear HF hdr
      by_cases h8 : 8 ≤ de k
      · have hRn : R = none := by rw [← HF'.out, if_pos (Or.inl h8)]
        have hV1 : V = [] := by rw [HV.out, hRn]; rfl
        have hX1 : X = 10 := by rw [HE.out, hRn]; rfl
        have h8' : (7 : Int) < de k := by omega
        subst hV1 hX1
        clear HF' hRn HV HE
        go_wp2_with fail
        go_ret2
        exact ⟨rfl, below_step b1 hbel⟩
      · have q1 : ¬ (7 : Int) < de k := by omega
        rcases Bool.eq_false_or_eq_true (nv k) with hnk | hnk
        · have hRn : R = none := by rw [← HF'.out, if_pos (Or.inr ((nv_iff k).mp hnk))]
          have hV1 : V = [] := by rw [HV.out, hRn]; rfl
          have hX1 : X = 10 := by rw [HE.out, hRn]; rfl
          subst hV1 hX1
          clear HF' hRn HV HE
          rw [hnk]
          clear hnk
          go_wp2_with fail
          go_ret2
          exact ⟨rfl, below_step b1 hbel⟩
        · have hva : va k = 2 ^ de k - 1 := by
            rcases Nat.decEq (va k) (2 ^ de k - 1) with h | h
            · exact absurd ((nv_iff k).mpr h) (by rw [hnk]; decide)
            · exact h
          have hRn : R = some E := by
            rw [← HF'.out, if_neg]
            intro h
            rcases h with h | h
            · exact h8 h
            · exact h hva
          have hV1 : V = E := by rw [HV.out, hRn]; rfl
          have hX1 : X = 0 := by rw [HE.out, hRn]; rfl
          have hconv := run_conv_own (P := Tryd.prog) (src := 24) (e := 5) (dst := 9) Tryd.underlying24 Tryd.underlying5 Tryd.underlying9 HO.out
          subst hV1 hX1
          rw [hnk]
          clear HF' hRn HV HE hva hnk HO HS
          go_wp2_with fail
          go_ret2
          exact ⟨rfl, below_step b1 hbel⟩
end Go.Proofs.YtdkgachgohilcaaDoor

namespace Go.Proofs.YtdkgachgohilcaaDoor
open Go.RowKit
open Huf Pre Mem Gen
set_option linter.unusedVariables false

theorem RB.cut {w : World} {b off : Nat} {l : List UInt8} (h : ∀ i, (h : i < l.length) → w.cell? ⟨b, off + i, none⟩ = some (.int .u8 (l[i].toNat : Int))) (k n : Nat) : RB w (some ⟨b, off + k, none⟩) ((l.drop k).take n) := by
  refine Or.inr ⟨b, off + k, rfl, fun i hi => ?_⟩
  rw [List.length_take, List.length_drop] at hi
  have := h (k + i) (by omega)
  rw [show off + k + i = off + (k + i) from by omega, this, List.getElem_take, List.getElem_drop]

theorem ret_text {a : List UInt8} {b : List UInt8} {k k' : IntKind} {c d e f : Int} (h : a = b) (h' : c = d) (h'' : e = f) : Ending.returned (.tuple #[.string ⟨a.toArray⟩, .int k c, .int k' e]) = .returned (.tuple #[.string ⟨b.toArray⟩, .int k d, .int k' f]) := by rw [h, h', h'']

set_option maxHeartbeats 1000000 in
set_option maxRecDepth 100000 in
theorem rtaketext_any (a : Option Addr) (l : List UInt8) (cap : Nat) (w : World) (hl : l.length ≤ 134217728) (hcap : l.length ≤ cap) (hmax : cap ≤ maxLen) (hr : RB w a l) :
    Calls Tryd.prog 58 #[.slice a l.length cap] w fun e w' => e = .returned (.tuple #[.string ⟨(takeT l).1.toArray⟩, .int .i64 (takeT l).2.1, .int .i64 (takeT l).2.2]) ∧ Below w.heap.size w w' := by
  unfold maxLen at hmax
  have HT : Hid (∀ v : World, RB v a l → Calls Tryd.prog 33 #[.slice a l.length cap, .int .i64 7] v fun e w' => e = .returned (.tuple #[.int .i64 (takeN l 7).1, .int .i64 (takeN l 7).2.1, .int .i64 (takeN l 7).2.2]) ∧ v = w') := Lib.hid (fun v hv => rtakeint_ok a l cap 7 v (by omega) hv (by decide) (by decide))
  have hbd := takeN_bd l 7 (by decide)
  have HR : Hid (takeT l = if (takeN l 7).2.2 ≠ 0 then ([], 0, (takeN l 7).2.2)
    else if 4096 < (takeN l 7).1 then ([], 0, 2)
    else if (l.length : Int) - (takeN l 7).2.1 < (takeN l 7).1 then ([], 0, 12)
    else if 127 < (l.headD 0).toNat then
      match dec ((l.drop (takeN l 7).2.1).take (takeN l 7).1) with
      | none => ([], 0, 10)
      | some u => if 4096 < u.length then ([], 0, 2) else (u, (takeN l 7).2.1 + (takeN l 7).1, 0)
    else ((l.drop (takeN l 7).2.1).take (takeN l 7).1, (takeN l 7).2.1 + (takeN l 7).1, 0)) := rfl
  generalize takeT l = R at HR ⊢
  generalize takeN l 7 = N at HT hbd HR
  obtain ⟨n, p, e⟩ := N
  simp only at HT hbd HR
  obtain ⟨hn, _, hb0, he12⟩ := hbd
  have HRB := Lib.hid hr
  by_cases he : e = 0
  · obtain ⟨hp1, hpl, hp6⟩ := hb0 he
    subst he
    clear hb0 he12
    have HR2 : Hid (R = if 4096 < n then ([], 0, 2)
      else if (l.length : Int) - p < n then ([], 0, 12)
      else if 127 < (l.headD 0).toNat then
        match dec ((l.drop p).take n) with
        | none => ([], 0, 10)
        | some u => if 4096 < u.length then ([], 0, 2) else (u, p + n, 0)
      else ((l.drop p).take n, p + n, 0)) := Lib.hid (by rw [HR.out]; rfl)
    clear HR
    by_cases hlong : 4096 < n
    · have hlong' : (4096 : Int) < n := by omega
      have hR : R = ([], 0, 2) := by rw [HR2.out, if_pos hlong]
      subst hR
      clear HR2 hr
      go_enter Tryd.func58, Tryd.ntmps58
      go_wp2_with fail
      refine (HT.out _ HRB.out).mono ?_; rintro e w1 ⟨rfl, rfl⟩
      go_wp2_with fail
      go_ret3
      exact ⟨rfl, Below.refl _ _⟩
    · have hlong' : ¬ (4096 : Int) < n := by omega
      by_cases hsh : (l.length : Int) - p < n
      · have hR : R = ([], 0, 12) := by rw [HR2.out, if_neg hlong, if_pos hsh]
        subst hR
        clear HR2 hr
        go_enter Tryd.func58, Tryd.ntmps58
        go_wp2_with fail
        refine (HT.out _ HRB.out).mono ?_; rintro e w1 ⟨rfl, rfl⟩
        go_wp2_with fail
        go_ret3
        exact ⟨rfl, Below.refl _ _⟩
      · obtain ⟨b, off, ha, hc⟩ : ∃ b off, a = some ⟨b, off, none⟩ ∧ ∀ i, (h : i < l.length) → w.cell? ⟨b, off + i, none⟩ = some (.int .u8 (l[i].toNat : Int)) := by
          rcases hr with h | h
          · rw [h] at hpl; simp at hpl; omega
          · exact h
        subst ha
        have hc0 : w.cell? ⟨b, off, none⟩ = some (.int .u8 ((l.headD 0).toNat : Int)) := by
          have h := hc 0 (by omega)
          rw [Nat.add_zero] at h
          rw [h]
          cases l with
          | nil => simp at hpl; omega
          | cons c r => rfl
        have hzb : (l.headD 0).toNat < 256 := (l.headD 0).toNat_lt
        have hol : ((l.drop p).take n).length = n := by rw [List.length_take, List.length_drop]; omega
        have HR3 : Hid (R = if 127 < (l.headD 0).toNat then
          match dec ((l.drop p).take n) with
          | none => ([], 0, 10)
          | some u => if 4096 < u.length then ([], 0, 2) else (u, p + n, 0)
          else ((l.drop p).take n, p + n, 0)) := Lib.hid (by rw [HR2.out, if_neg hlong, if_neg hsh])
        generalize (l.headD 0).toNat = z at *
        clear HR2 hr
        by_cases hpc : cap = p
        · have hn0 : n = 0 := by omega
          subst hn0
          subst hpc
          rw [List.take_zero] at HR3
          have hconv := (show RB w (some ⟨b, off, none⟩) [] from Or.inl rfl).conv (P := Tryd.prog) (cap := 0) (src := 24) (dst := 9) Tryd.underlying24 Tryd.underlying5 Tryd.underlying9
          rw [List.length_nil] at hconv
          have hd0 : dec [] = some [] := by decide +kernel
          by_cases hz : 127 < z
          · have hz' : (127 : Int) < z := by omega
            have HDc : Hid (Calls Tryd.prog 74 #[.slice (some ⟨b, off, none⟩) 0 0] w fun e w' => e = .returned (.tuple #[.string ⟨#[]⟩, .int .i64 0]) ∧ Below w.heap.size w w') := Lib.hid (by
              have h := rdecode_any (some ⟨b, off, none⟩) [] 0 w (by decide) (Or.inl rfl)
              rwa [show decV [] = [] from by rw [decV, hd0]; rfl, show decE [] = 0 from by rw [decE, hd0]; rfl] at h)
            have hR : R = ([], cap, 0) := by rw [HR3.out, if_pos hz, hd0]; rfl
            subst hR
            clear HR3 hz hd0
            go_enter Tryd.func58, Tryd.ntmps58
            go_wp2_with fail
            refine (HT.out _ HRB.out).mono ?_; rintro e w1 ⟨rfl, rfl⟩
            go_wp2_with fail
            refine HDc.out.mono ?_; rintro e w1 ⟨rfl, hb1⟩
            go_wp2_with fail
            go_ret3
            exact ⟨rfl, hb1⟩
          · have hz' : ¬ (127 : Int) < z := by omega
            have hR : R = ([], cap, 0) := by rw [HR3.out, if_neg hz]; rfl
            subst hR
            clear HR3 hz hd0
            go_enter Tryd.func58, Tryd.ntmps58
            go_wp2_with fail
            refine (HT.out _ HRB.out).mono ?_; rintro e w1 ⟨rfl, rfl⟩
            go_wp2_with fail
            go_ret3
            exact ⟨rfl, Below.refl _ _⟩
        · have HO : Hid (RB w (some ⟨b, off + p, none⟩) ((l.drop p).take n)) := Lib.hid (RB.cut hc p n)
          have HHol := Lib.hid hol
          have hconv := HO.out.conv (P := Tryd.prog) (cap := cap - p) (src := 24) (dst := 9) Tryd.underlying24 Tryd.underlying5 Tryd.underlying9
          rw [hol] at hconv
          generalize (l.drop p).take n = O at *
          have hol4 : (O.length : Int) ≤ 4096 := by omega
          clear hc hol
          by_cases hz : 127 < z
          · have hz' : (127 : Int) < z := by omega
            have HDc : Hid (Calls Tryd.prog 74 #[.slice (some ⟨b, off + p, none⟩) n (cap - p)] w fun e w' => e = .returned (.tuple #[.string ⟨(decV O).toArray⟩, .int .i64 (decE O)]) ∧ Below w.heap.size w w') := Lib.hid (by
              have h := rdecode_any (some ⟨b, off + p, none⟩) O (cap - p) w (by rw [HHol.out]; omega) HO.out
              rwa [HHol.out] at h)
            cases hd : dec O with
            | none =>
              have e1 : decV O = [] := by rw [decV, hd]; rfl
              have e2 : decE O = 10 := by rw [decE, hd]; rfl
              have hR : R = ([], 0, 10) := by rw [HR3.out, if_pos hz, hd]
              rw [e1, e2] at HDc
              subst hR
              clear HR3 hz hd e1 e2
              go_enter Tryd.func58, Tryd.ntmps58
              go_wp2_with fail
              refine (HT.out _ HRB.out).mono ?_; rintro e w1 ⟨rfl, rfl⟩
              go_wp2_with fail
              refine HDc.out.mono ?_; rintro e w1 ⟨rfl, hb1⟩
              go_wp2_with fail
              go_ret3
              exact ⟨rfl, hb1⟩
            | some u =>
              have e1 : decV O = u := by rw [decV, hd]; rfl
              have e2 : decE O = 0 := by rw [decE, hd]; rfl
              have hub : u.length ≤ 4096 * 8 := by
                have h1 := enc_dec O u hd
                have h2 := enc_length u
                have h3 := (blen_bd u).1
                have h4 := HHol.out
                rw [h1, h4] at h2; omega
              by_cases hu : 4096 < u.length
              · have hu' : (4096 : Int) < u.length := by omega
                have hR : R = ([], 0, 2) := by rw [HR3.out, if_pos hz, hd]; simp [hu]
                rw [e1, e2] at HDc
                subst hR
                clear HR3 hz hd e1 e2 hu
                go_enter Tryd.func58, Tryd.ntmps58
                go_wp2_with fail
                refine (HT.out _ HRB.out).mono ?_; rintro e w1 ⟨rfl, rfl⟩
                go_wp2_with fail
                refine HDc.out.mono ?_; rintro e w1 ⟨rfl, hb1⟩
                go_wp2_with fail
                go_ret3
                exact ⟨rfl, hb1⟩
              · have hu' : ¬ (4096 : Int) < u.length := by omega
                have hR : R = (u, p + n, 0) := by rw [HR3.out, if_pos hz, hd]; simp [hu]
                rw [e1, e2] at HDc
                subst hR
                clear HR3 hz hd e1 e2 hu
                go_enter Tryd.func58, Tryd.ntmps58
                go_wp2_with fail
                refine (HT.out _ HRB.out).mono ?_; rintro e w1 ⟨rfl, rfl⟩
                go_wp2_with fail
                refine HDc.out.mono ?_; rintro e w1 ⟨rfl, hb1⟩
                go_wp2_with fail
                go_ret3
                exact ⟨ret_text rfl (by omega) rfl, hb1⟩
          · have hz' : ¬ (127 : Int) < z := by omega
            have hR : R = (O, p + n, 0) := by rw [HR3.out, if_neg hz]
            subst hR
            clear HR3 hz
            go_enter Tryd.func58, Tryd.ntmps58
            go_wp2_with fail
            refine (HT.out _ HRB.out).mono ?_; rintro e w1 ⟨rfl, rfl⟩
            go_wp2_with fail
            go_ret3
            exact ⟨ret_text rfl (by omega) rfl, Below.refl _ _⟩
  · have he' : ((e : Int) != 0) = true := by simp; omega
    have hR : R = ([], 0, e) := by rw [HR.out, if_pos he]
    subst hR
    clear HR hb0 hr he
    go_enter Tryd.func58, Tryd.ntmps58
    go_wp2_with fail
    refine (HT.out _ HRB.out).mono ?_; rintro e w1 ⟨rfl, rfl⟩
    go_wp2_with fail
    go_ret3
    exact ⟨rfl, Below.refl _ _⟩
end Go.Proofs.YtdkgachgohilcaaDoor
