/- Layer 5: the document's literal, put together. Layer 5: the document's Decode, region by region. -/
import Derived.Test.YtdkgachgohilcaaDoorRows
import Derived.Test.YtdkgachgohilcaaDoorGD02
import Derived.WalkKit
import Derived.Lib.Hide
import Derived.Test.YtdkgachgohilcaaDoorGP14
import Derived.Test.YtdkgachgohilcaaDoorGP19
import Derived.WalkSpells
import Derived.WalkLawsBesides
import Derived.Outline
import Derived.RegionTactic
import Derived.BigRegion
import Derived.IntWalk
import Derived.Deep.RegionHeld3
import Derived.Deep.RegionWith
import Derived.OwnWalk
import Derived.Test.YtdkgachgohilcaaDoorGP03
import Derived.Test.YtdkgachgohilcaaDoorGP12
set_option linter.unusedVariables false
set_option linter.unusedSimpArgs false
namespace Go.Proofs.YtdkgachgohilcaaDoor
open Go.RowKit
open Huf Pre Tab Hpk Arg Mem Gen Go.Proofs.YtdkgachgohilcaaDoor.Obj
set_option linter.unusedVariables false

theorem rliteral_any (L : List Nat) (g md ld m : Nat) (br : Bool) (rows : List FdM) (a : Option Addr) (l : List UInt8) (cap k n : Nat) (w : World) (h : RDec w L g md ld br m rows) (hs : csum rows ≤ 65536) (hr : RB w a l) (hl : l.length ≤ 134217728) (hcap : l.length ≤ cap) (hmax : cap ≤ maxLen) (hk : k ≤ l.length) (hn : n ≤ 4294967295) :
    Calls Tryd.prog 37 #[.pointer (some ⟨g, 0, none⟩), .slice a l.length cap, .int .i64 k, .int .i64 n] w fun e w' => ∃ (f : FdM) (k2 : Nat), e = .returned (.tuple #[.agg #[.string f.name, .string f.value, .bool f.never], .int .i64 k2, .int .i64 (litM rows (l.drop k) n).1]) ∧ Below w.heap.size w w' ∧
      ((litM rows (l.drop k) n).1 = 0 → f = (litM rows (l.drop k) n).2.1 ∧ k2 ≤ l.length ∧ (litM rows (l.drop k) n).2.2 = l.drop k2) := by
  have h32 := csum_len rows
  have hB0 : Below w.heap.size w (w.alloc (.cells #[.string ⟨#[]⟩, .string ⟨#[]⟩, .bool false] 59)) := (Below.refl _ _).alloc (Nat.le_refl _) _
  have hrc0 := heap_alloc_new w (.cells #[.string ⟨#[]⟩, .string ⟨#[]⟩, .bool false] 59)
  have hsz : (w.alloc (.cells #[.string ⟨#[]⟩, .string ⟨#[]⟩, .bool false] 59)).heap.size = w.heap.size + 1 := by simp
  go_enter Tryd.func37, Tryd.ntmps37
  refine wp_seq ?_
  refine lit_r0 (g := g) (blen := l.length) (bcap := cap) (k := k) (n := n) (ba := a) _ w (Fr.Is.mk rfl rfl) (Lib.hid (fun a1 h1 => ?_))
  generalize (w.alloc (.cells #[.string ⟨#[]⟩, .string ⟨#[]⟩, .bool false] 59)) = w1 at hB0 hrc0 hsz ⊢
  refine wp_seq ?_
  refine lit_r1 (g := g) (blen := l.length) (bcap := cap) (k := k) (n := n) (ba := a) a1 w1 h1 (Lib.hid (fun a2 h2 => ?_))
  have hB1 : Below w.heap.size w (w1.alloc (.cells #[.string ⟨#[]⟩, .string ⟨#[]⟩, .bool false] 59)) := hB0.alloc (by omega) _
  have hfb := heap_alloc_new w1 (.cells #[.string ⟨#[]⟩, .string ⟨#[]⟩, .bool false] 59)
  have hrc := alloc_at (p := .cells #[.string ⟨#[]⟩, .string ⟨#[]⟩, .bool false] 59) hrc0
  generalize (w1.alloc (.cells #[.string ⟨#[]⟩, .string ⟨#[]⟩, .bool false] 59)) = x at hB1 hfb hrc ⊢
  rw [hsz] at h2 hfb
  have hxs : w.heap.size + 1 < x.heap.size := (Array.getElem?_eq_some_iff.1 hfb).1
  have hRB : ∀ y, Below w.heap.size w y → RB y a l := fun y hy => hr.below hy
  have hlast : ∀ (nm : ByteArray) (k2 : Nat) (y : World) (a3 : Act), k2 ≤ l.length → Below w.heap.size w y → y.heap[w.heap.size + 1]? = some (.cells #[.string nm, .string ⟨#[]⟩, .bool false] 59 (0, 0)) → y.heap[w.heap.size]? = some (.cells #[.string ⟨#[]⟩, .string ⟨#[]⟩, .bool false] 59 (0, 0)) →
      litM rows (l.drop k) n = litV (l.drop k2) nm →
      Fr.Is 72 [(0, .pointer (some ⟨g, 0, none⟩)), (1, .slice a l.length cap), (2, .int .i64 k2), (8, .pointer (some ⟨w.heap.size, 0, none⟩)), (11, .pointer (some ⟨w.heap.size + 1, 0, none⟩))] a3 →
      (Fr.tail Tryd.f37 3).wp Tryd.prog (bodyPost Tryd.prog Tryd.f37 (fun e w' => ∃ (f : FdM) (k2 : Nat), e = .returned (.tuple #[.agg #[.string f.name, .string f.value, .bool f.never], .int .i64 k2, .int .i64 (litM rows (l.drop k) n).1]) ∧ Below w.heap.size w w' ∧
        ((litM rows (l.drop k) n).1 = 0 → f = (litM rows (l.drop k) n).2.1 ∧ k2 ≤ l.length ∧ (litM rows (l.drop k) n).2.2 = l.drop k2))) a3 y := by
    intro nm k2 y a3 hk2 hy hf2 hr2 hT h3
    have hbd := takeT_bd (l.drop k2)
    rw [List.length_drop] at hbd
    refine lit_tail g w.heap.size (w.heap.size + 1) a l cap k2 nm w.heap.size y (hRB y hy) hl hcap hmax hk2 hf2 hr2 (by omega) (Nat.le_refl _) (by omega) hy.size a3 h3 (Lib.hid (fun w' hw' => ?_))
    rw [hT]
    exact ⟨⟨nm, ofT (takeT (l.drop k2)).1, false⟩, k2 + (takeT (l.drop k2)).2.1, rfl, hy.trans hw', fun h0 => ⟨rfl, by omega, by rw [litV, List.drop_drop]⟩⟩
  refine wp_seq ?_
  by_cases hn0 : 0 < n
  · have hAt := gat_any 39 _ g 2 m rows L n x (by simp) (GTab.below h hB1) (by omega) (by omega)
    by_cases hte : (atT rows n).2 = 0
    · have hT : litM rows (l.drop k) n = litV (l.drop k) (atT rows n).1.name := by rw [litM, if_pos hn0, if_neg (by simpa using hte)]
      rw [hte] at hAt
      refine lit_mid_row (rc := w.heap.size) (fb := w.heap.size + 1) a2 x hfb hrc (by omega) hn0 (Lib.hid hAt) (Lib.hid (fun a3 y h3 hf2 hr2 hy => ?_)) h2
      exact hlast _ k y a3 hk (hB1.trans (hy w.heap.size (by omega) (by omega))) hf2 hr2 hT h3
    · have hT : litM rows (l.drop k) n = ((atT rows n).2, noF, l.drop k) := by rw [litM, if_pos hn0, if_pos (by simpa using hte)]
      refine lit_mid_bad (rc := w.heap.size) (fb := w.heap.size + 1) a2 x hfb hrc (by omega) hn0 hte (Lib.hid hAt) (Lib.hid (fun w' hw' => ?_)) h2
      rw [hT]
      exact ⟨noF, k, rfl, hB1.trans (hw' w.heap.size (Nat.le_refl _) (by omega)), fun h0 => absurd h0 hte⟩
  · have hn00 : n = 0 := by omega
    have hTx := text_from a l cap k x hl hcap hmax (hRB x hB1) hk
    have hbd := takeT_bd (l.drop k)
    rw [List.length_drop] at hbd
    by_cases hte : (takeT (l.drop k)).2.2 = 0
    · have hT : litM rows (l.drop k) n = litV ((l.drop k).drop (takeT (l.drop k)).2.1) (ofT (takeT (l.drop k)).1) := by rw [litM, if_neg hn0, if_neg (by simpa using hte)]
      rw [hte] at hTx
      rw [List.drop_drop] at hT
      refine lit_mid_text (rc := w.heap.size) (fb := w.heap.size + 1) a2 x hfb hrc (by omega) hn00 (by omega) (Lib.hid hTx) hk hcap (Lib.hid (fun a3 y h3 hf2 hr2 hy => ?_)) h2
      exact hlast _ _ y a3 (by omega) (hB1.trans (hy w.heap.size (by omega) (by omega))) hf2 hr2 hT h3
    · have hT : litM rows (l.drop k) n = ((takeT (l.drop k)).2.2, noF, l.drop k) := by rw [litM, if_neg hn0, if_pos (by simpa using hte)]
      refine lit_mid_short (rc := w.heap.size) (fb := w.heap.size + 1) a2 x hfb hrc (by omega) hn00 hte (Lib.hid hTx) hk hcap (Lib.hid (fun w' hw' => ?_)) h2
      rw [hT]
      exact ⟨noF, k, rfl, hB1.trans (hw' w.heap.size (Nat.le_refl _) (by omega)), fun h0 => absurd h0 hte⟩
end Go.Proofs.YtdkgachgohilcaaDoor

namespace Go.Proofs.YtdkgachgohilcaaDoor
open Go.RowKit
open Huf Pre Tab Hpk Arg Mem Gen Go.Proofs.YtdkgachgohilcaaDoor.Obj
set_option linter.unusedVariables false

/-- 'append' whose run is known. -/
theorem wpList_run_append {P : Program} {w w' : World} {ops : Array Oper} {rest : List Oper} {o : Oper} {a : Act} {Q : Exit → Act → World → Prop} (hgd : o.guard = none) (s x : Operand) (t : TypeId)
    (ho : o.op = .call { callee := .builtin .append, args := #[s, x], argTypes := #[t, t] }) (sv xv r : Value) (hs : a.eval s = sv) (hx : a.eval x = xv) (hrun : (Builtin.append_ #[t, t] o.type #[sv, xv]).run P w = .ok r w')
    (h : wpList P ops Q rest (a.put o.dst r) w') : wpList P ops Q (o :: rest) a w := by
  refine wpList_plain hgd fun K hK => ?_
  unfold Oper.wp
  simp [execOp, ho, resolve, invoke, builtin, hs, hx, hrun, Result.andThen]
  exact hK _ _ h

set_option maxRecDepth 100000 in
set_option maxHeartbeats 1000000 in
theorem dec_r7 {Q : Exit → Act → World → Prop} {g blen bcap on oc cst sizes pos : Nat} {ba oa : Option Addr} (a : Act) (w : World) 
    (ha : Fr.Is 131 [(0, .pointer (some ⟨g, 0, none⟩)), (1, .slice ba blen bcap), (6, .slice oa on oc), (7, .int .i64 cst), (8, .int .i64 sizes), (9, .int .i64 pos)] a)
    (hQ : Hid (∀ a', Fr.Is 131 [(0, .pointer (some ⟨g, 0, none⟩)), (1, .slice ba blen bcap), (6, .slice oa on oc), (7, .int .i64 cst), (8, .int .i64 sizes), (9, .int .i64 pos), (23, .bool (decide (pos < blen)))] a' → Q .normal a' w)) :
    (Fr.reg Tryd.f13 7).wp Tryd.prog Q a w := by
  obtain ⟨fr, rfl, hfr⟩ := ha.lit
  simp only [List.map_cons, List.map_nil, List.cons.injEq, and_true] at hfr
  conv => arg 2; whnf
  simp only [List.range, List.range.loop, List.map_cons, List.map_nil, hfr]
  clear hfr ha
  have h : decide ((pos : Int) < blen) = decide (pos < blen) := by simp
  go_wp2_with fail
  first | exact hQ.out _ (Fr.Is.mk rfl rfl) | (rw [h]; exact hQ.out _ (Fr.Is.mk rfl rfl)) | exact hQ.out _ (Fr.Is.mk rfl (by simp))

set_option maxRecDepth 100000 in
set_option maxHeartbeats 1000000 in
theorem dec_r8 {Q : Exit → Act → World → Prop} {g blen bcap on oc cst sizes pos : Nat} {ba oa : Option Addr} {c b off : Nat} (a : Act) (w : World) (hp : pos < blen) (hba : ba = some ⟨b, off, none⟩) (c0 : w.cell? ⟨b, off + pos, none⟩ = some (.int .u8 c))
    (ha : Fr.Is 131 [(0, .pointer (some ⟨g, 0, none⟩)), (1, .slice ba blen bcap), (6, .slice oa on oc), (7, .int .i64 cst), (8, .int .i64 sizes), (9, .int .i64 pos)] a)
    (hQ : Hid (∀ a', Fr.Is 131 [(0, .pointer (some ⟨g, 0, none⟩)), (1, .slice ba blen bcap), (6, .slice oa on oc), (7, .int .i64 cst), (8, .int .i64 sizes), (9, .int .i64 pos), (10, .int .u8 c)] a' → Q .normal a' w)) :
    (Fr.reg Tryd.f13 8).wp Tryd.prog Q a w := by
  obtain ⟨fr, rfl, hfr⟩ := ha.lit
  simp only [List.map_cons, List.map_nil, List.cons.injEq, and_true] at hfr
  conv => arg 2; whnf
  simp only [List.range, List.range.loop, List.map_cons, List.map_nil, hfr]
  clear hfr ha
  subst hba
  have hp' : (pos : Int) < blen := by omega
  have hp0 : (0 : Int) ≤ pos := by omega
  go_wp2_with fail
  exact hQ.out _ (Fr.Is.mk rfl rfl)

set_option maxRecDepth 100000 in
set_option maxHeartbeats 1000000 in
theorem dec_r9 {Q : Exit → Act → World → Prop} {g blen bcap on oc cst sizes pos : Nat} {ba oa : Option Addr} {c n k er : Nat} (a : Act) (w : World) (hc : c < 256) (hp : pos ≤ blen) (hcap : blen ≤ bcap) (hmax : bcap ≤ 9223372036854775807)
    (HT : Hid (Calls Tryd.prog 33 #[.slice (Sl.adOf ba bcap pos 1) (blen - pos) (bcap - pos), .int .i64 (bitsOf c)] w.drew fun e w' => e = .returned (.tuple #[.int .i64 n, .int .i64 k, .int .i64 er]) ∧ w.drew = w'))
    (ha : Fr.Is 131 [(0, .pointer (some ⟨g, 0, none⟩)), (1, .slice ba blen bcap), (6, .slice oa on oc), (7, .int .i64 cst), (8, .int .i64 sizes), (9, .int .i64 pos), (10, .int .u8 c)] a)
    (hQ : Hid (∀ a', Fr.Is 131 [(0, .pointer (some ⟨g, 0, none⟩)), (1, .slice ba blen bcap), (6, .slice oa on oc), (7, .int .i64 cst), (8, .int .i64 sizes), (9, .int .i64 pos), (10, .int .u8 c), (11, .int .i64 n), (12, .int .i64 k), (13, .int .i64 er)] a' → Q .normal a' w.drew)) :
    (Fr.reg Tryd.f13 9).wp Tryd.prog Q a w := by
  obtain ⟨fr, rfl, hfr⟩ := ha.lit
  simp only [List.map_cons, List.map_nil, List.cons.injEq, and_true] at hfr
  conv => arg 2; whnf
  simp only [List.range, List.range.loop, List.map_cons, List.map_nil, hfr]
  clear hfr ha
  have hsl := fun (v : World) => Sl.run_from (P := Tryd.prog) (t := 24) Tryd.underlying24 (size := 1) size_u8 ba blen bcap pos hp hcap v
  have HB := Lib.hid (bitsof_any c w.drew hc)
  generalize bitsOf c = bc at HT HB
  go_region_held3 (fun _ => True) (trivial)
    ((first | (go_at_call 34; refine HB.out.mono ?_; rintro e w1 ⟨rfl, rfl⟩) | (go_at_call 33; refine HT.out.mono ?_; rintro e w1 ⟨rfl, rfl⟩)))
  all_goals exact hQ.out _ (Fr.Is.mk rfl rfl)

set_option maxRecDepth 100000 in
set_option maxHeartbeats 1000000 in
theorem dec_r10 {Q : Exit → Act → World → Prop} {g blen bcap on oc cst sizes pos : Nat} {ba oa : Option Addr} {c n k er : Nat} (a : Act) (w : World) 
    (ha : Fr.Is 131 [(0, .pointer (some ⟨g, 0, none⟩)), (1, .slice ba blen bcap), (6, .slice oa on oc), (7, .int .i64 cst), (8, .int .i64 sizes), (9, .int .i64 pos), (10, .int .u8 c), (11, .int .i64 n), (12, .int .i64 k), (13, .int .i64 er)] a)
    (hQ : Hid (∀ a', Fr.Is 131 [(0, .pointer (some ⟨g, 0, none⟩)), (1, .slice ba blen bcap), (6, .slice oa on oc), (7, .int .i64 cst), (8, .int .i64 sizes), (9, .int .i64 pos), (10, .int .u8 c), (12, .int .i64 k), (13, .int .i64 er), (14, .int .i64 n)] a' → Q .normal a' w)) :
    (Fr.reg Tryd.f13 10).wp Tryd.prog Q a w := by
  obtain ⟨fr, rfl, hfr⟩ := ha.lit
  simp only [List.map_cons, List.map_nil, List.cons.injEq, and_true] at hfr
  conv => arg 2; whnf
  simp only [List.range, List.range.loop, List.map_cons, List.map_nil, hfr]
  clear hfr ha
  go_wp2_with fail
  exact hQ.out _ (Fr.Is.mk rfl rfl)

set_option maxRecDepth 100000 in
set_option maxHeartbeats 1000000 in
theorem dec_r11 {Q : Exit → Act → World → Prop} {g blen bcap on oc cst sizes pos : Nat} {ba oa : Option Addr} {c n k er : Nat} (a : Act) (w : World) (hb : pos + k ≤ 1000000000)
    (ha : Fr.Is 131 [(0, .pointer (some ⟨g, 0, none⟩)), (1, .slice ba blen bcap), (6, .slice oa on oc), (7, .int .i64 cst), (8, .int .i64 sizes), (9, .int .i64 pos), (10, .int .u8 c), (12, .int .i64 k), (13, .int .i64 er), (14, .int .i64 n)] a)
    (hQ : Hid (∀ a', Fr.Is 131 [(0, .pointer (some ⟨g, 0, none⟩)), (1, .slice ba blen bcap), (6, .slice oa on oc), (7, .int .i64 cst), (8, .int .i64 sizes), (9, .int .i64 (pos + k : Nat)), (10, .int .u8 c), (13, .int .i64 er), (14, .int .i64 n)] a' → Q .normal a' w)) :
    (Fr.reg Tryd.f13 11).wp Tryd.prog Q a w := by
  obtain ⟨fr, rfl, hfr⟩ := ha.lit
  simp only [List.map_cons, List.map_nil, List.cons.injEq, and_true] at hfr
  conv => arg 2; whnf
  simp only [List.range, List.range.loop, List.map_cons, List.map_nil, hfr]
  clear hfr ha
  have hk : k ≤ 1000000000 := by omega
  have hp : pos ≤ 1000000000 := by omega
  go_wp2_with fail
  exact hQ.out _ (Fr.Is.mk rfl rfl)

set_option maxRecDepth 100000 in
set_option maxHeartbeats 1000000 in
theorem dec_r12 {Q : Exit → Act → World → Prop} {g blen bcap on oc cst sizes pos : Nat} {ba oa : Option Addr} {c n er : Nat} (a : Act) (w : World) 
    (ha : Fr.Is 131 [(0, .pointer (some ⟨g, 0, none⟩)), (1, .slice ba blen bcap), (6, .slice oa on oc), (7, .int .i64 cst), (8, .int .i64 sizes), (9, .int .i64 pos), (10, .int .u8 c), (13, .int .i64 er), (14, .int .i64 n)] a)
    (hQ : Hid (∀ a', Fr.Is 131 [(0, .pointer (some ⟨g, 0, none⟩)), (1, .slice ba blen bcap), (6, .slice oa on oc), (7, .int .i64 cst), (8, .int .i64 sizes), (9, .int .i64 pos), (10, .int .u8 c), (13, .int .i64 er), (14, .int .i64 n), (15, .pointer (some ⟨w.heap.size, 0, none⟩))] a' → Q .normal a' (w.alloc (.cells #[.string ⟨#[]⟩, .string ⟨#[]⟩, .bool false] 59)))) :
    (Fr.reg Tryd.f13 12).wp Tryd.prog Q a w := by
  obtain ⟨fr, rfl, hfr⟩ := ha.lit
  simp only [List.map_cons, List.map_nil, List.cons.injEq, and_true] at hfr
  conv => arg 2; whnf
  simp only [List.range, List.range.loop, List.map_cons, List.map_nil, hfr]
  clear hfr ha
  go_wp2_with fail
  exact hQ.out _ (Fr.Is.mk rfl rfl)

set_option maxRecDepth 100000 in
set_option maxHeartbeats 1000000 in
theorem dec_r13 {Q : Exit → Act → World → Prop} {g blen bcap on oc cst sizes pos : Nat} {ba oa : Option Addr} {c n er bx : Nat} (a : Act) (w : World) (hc : c < 256) (bo : Bool) (hbo : bo = true ↔ er = 0 ∧ bitsOf c = 5)
    (ha : Fr.Is 131 [(0, .pointer (some ⟨g, 0, none⟩)), (1, .slice ba blen bcap), (6, .slice oa on oc), (7, .int .i64 cst), (8, .int .i64 sizes), (9, .int .i64 pos), (10, .int .u8 c), (13, .int .i64 er), (14, .int .i64 n), (15, .pointer (some ⟨bx, 0, none⟩))] a)
    (hQ : Hid (∀ a', Fr.Is 131 [(0, .pointer (some ⟨g, 0, none⟩)), (1, .slice ba blen bcap), (6, .slice oa on oc), (7, .int .i64 cst), (8, .int .i64 sizes), (9, .int .i64 pos), (10, .int .u8 c), (13, .int .i64 er), (14, .int .i64 n), (15, .pointer (some ⟨bx, 0, none⟩)), (49, .bool bo)] a' → Q .normal a' w)) :
    (Fr.reg Tryd.f13 13).wp Tryd.prog Q a w := by
  obtain ⟨fr, rfl, hfr⟩ := ha.lit
  simp only [List.map_cons, List.map_nil, List.cons.injEq, and_true] at hfr
  conv => arg 2; whnf
  simp only [List.range, List.range.loop, List.map_cons, List.map_nil, hfr]
  clear hfr ha
  have HB := Lib.hid (bitsof_any c w hc)
  by_cases he : er = 0
  · subst he
    by_cases hb : bitsOf c = 5
    · obtain rfl : bo = true := hbo.mpr ⟨rfl, hb⟩
      rw [hb] at HB
      go_wp2_with fail
      refine HB.out.mono ?_; rintro e w1 ⟨rfl, rfl⟩
      go_wp2_with fail
      exact hQ.out _ (Fr.Is.mk rfl rfl)
    · obtain rfl : bo = false := by cases bo with | true => exact absurd (hbo.mp rfl).2 hb | false => rfl
      have hb' : ((bitsOf c : Int) == 5) = false := by rw [beq_eq_false_iff_ne]; omega
      generalize bitsOf c = bc at HB hb'
      go_wp2_with fail
      refine HB.out.mono ?_; rintro e w1 ⟨rfl, rfl⟩
      go_wp2_with fail
      exact hQ.out _ (Fr.Is.mk rfl rfl)
  · obtain rfl : bo = false := by cases bo with | true => exact absurd (hbo.mp rfl).1 he | false => rfl
    have he' : ((er : Int) == 0) = false := by rw [beq_eq_false_iff_ne]; omega
    go_wp2_with fail
    exact hQ.out _ (Fr.Is.mk rfl rfl)

set_option maxRecDepth 100000 in
set_option maxHeartbeats 1000000 in
theorem dec_r18 {Q : Exit → Act → World → Prop} {g blen bcap on oc cst sizes pos : Nat} {ba oa : Option Addr} {c n er bx : Nat} (a : Act) (w : World) (hc : c < 256) (bo : Bool) (hbo : bo = true ↔ er = 0 ∧ bitsOf c = 7)
    (ha : Fr.Is 131 [(0, .pointer (some ⟨g, 0, none⟩)), (1, .slice ba blen bcap), (6, .slice oa on oc), (7, .int .i64 cst), (8, .int .i64 sizes), (9, .int .i64 pos), (10, .int .u8 c), (13, .int .i64 er), (14, .int .i64 n), (15, .pointer (some ⟨bx, 0, none⟩))] a)
    (hQ : Hid (∀ a', Fr.Is 131 [(0, .pointer (some ⟨g, 0, none⟩)), (1, .slice ba blen bcap), (6, .slice oa on oc), (7, .int .i64 cst), (8, .int .i64 sizes), (9, .int .i64 pos), (10, .int .u8 c), (13, .int .i64 er), (14, .int .i64 n), (15, .pointer (some ⟨bx, 0, none⟩)), (78, .bool bo)] a' → Q .normal a' w)) :
    (Fr.reg Tryd.f13 18).wp Tryd.prog Q a w := by
  obtain ⟨fr, rfl, hfr⟩ := ha.lit
  simp only [List.map_cons, List.map_nil, List.cons.injEq, and_true] at hfr
  conv => arg 2; whnf
  simp only [List.range, List.range.loop, List.map_cons, List.map_nil, hfr]
  clear hfr ha
  have HB := Lib.hid (bitsof_any c w hc)
  by_cases he : er = 0
  · subst he
    by_cases hb : bitsOf c = 7
    · obtain rfl : bo = true := hbo.mpr ⟨rfl, hb⟩
      rw [hb] at HB
      go_wp2_with fail
      refine HB.out.mono ?_; rintro e w1 ⟨rfl, rfl⟩
      go_wp2_with fail
      exact hQ.out _ (Fr.Is.mk rfl rfl)
    · obtain rfl : bo = false := by cases bo with | true => exact absurd (hbo.mp rfl).2 hb | false => rfl
      have hb' : ((bitsOf c : Int) == 7) = false := by rw [beq_eq_false_iff_ne]; omega
      generalize bitsOf c = bc at HB hb'
      go_wp2_with fail
      refine HB.out.mono ?_; rintro e w1 ⟨rfl, rfl⟩
      go_wp2_with fail
      exact hQ.out _ (Fr.Is.mk rfl rfl)
  · obtain rfl : bo = false := by cases bo with | true => exact absurd (hbo.mp rfl).1 he | false => rfl
    have he' : ((er : Int) == 0) = false := by rw [beq_eq_false_iff_ne]; omega
    go_wp2_with fail
    exact hQ.out _ (Fr.Is.mk rfl rfl)

set_option maxRecDepth 100000 in
set_option maxHeartbeats 1000000 in
theorem dec_r14 {Q : Exit → Act → World → Prop} {g blen bcap on oc cst sizes pos : Nat} {ba oa : Option Addr} {c n er bx : Nat} (a : Act) (w : World) (hz : sizes ≤ 1000000000)
    (ha : Fr.Is 131 [(0, .pointer (some ⟨g, 0, none⟩)), (1, .slice ba blen bcap), (6, .slice oa on oc), (7, .int .i64 cst), (8, .int .i64 sizes), (9, .int .i64 pos), (10, .int .u8 c), (13, .int .i64 er), (14, .int .i64 n), (15, .pointer (some ⟨bx, 0, none⟩))] a)
    (hQ : Hid (∀ a', Fr.Is 131 [(0, .pointer (some ⟨g, 0, none⟩)), (1, .slice ba blen bcap), (6, .slice oa on oc), (7, .int .i64 cst), (8, .int .i64 (sizes + 1 : Nat)), (9, .int .i64 pos), (10, .int .u8 c), (13, .int .i64 er), (14, .int .i64 n), (15, .pointer (some ⟨bx, 0, none⟩))] a' → Q .normal a' w)) :
    (Fr.reg Tryd.f13 14).wp Tryd.prog Q a w := by
  obtain ⟨fr, rfl, hfr⟩ := ha.lit
  simp only [List.map_cons, List.map_nil, List.cons.injEq, and_true] at hfr
  conv => arg 2; whnf
  simp only [List.range, List.range.loop, List.map_cons, List.map_nil, hfr]
  clear hfr ha
  go_wp2_with fail
  exact hQ.out _ (Fr.Is.mk rfl rfl)

set_option maxRecDepth 100000 in
set_option maxHeartbeats 1000000 in
theorem dec_r15 {Q : Exit → Act → World → Prop} {g blen bcap on oc cst sizes pos : Nat} {ba oa : Option Addr} {c n er bx : Nat} {md : Nat} (a : Act) (w : World) (q0 : w.cell? ⟨g, 0, none⟩ = some (.int .i64 md)) (bo : Bool) (hbo : bo = true ↔ 0 < on ∨ 2 < sizes ∨ md < n)
    (ha : Fr.Is 131 [(0, .pointer (some ⟨g, 0, none⟩)), (1, .slice ba blen bcap), (6, .slice oa on oc), (7, .int .i64 cst), (8, .int .i64 sizes), (9, .int .i64 pos), (10, .int .u8 c), (13, .int .i64 er), (14, .int .i64 n), (15, .pointer (some ⟨bx, 0, none⟩))] a)
    (hQ : Hid (∀ a', Fr.Is 131 [(0, .pointer (some ⟨g, 0, none⟩)), (1, .slice ba blen bcap), (6, .slice oa on oc), (7, .int .i64 cst), (8, .int .i64 sizes), (9, .int .i64 pos), (10, .int .u8 c), (13, .int .i64 er), (14, .int .i64 n), (15, .pointer (some ⟨bx, 0, none⟩)), (66, .bool bo)] a' → Q .normal a' w)) :
    (Fr.reg Tryd.f13 15).wp Tryd.prog Q a w := by
  obtain ⟨fr, rfl, hfr⟩ := ha.lit
  simp only [List.map_cons, List.map_nil, List.cons.injEq, and_true] at hfr
  conv => arg 2; whnf
  simp only [List.range, List.range.loop, List.map_cons, List.map_nil, hfr]
  clear hfr ha
  by_cases h1 : 0 < on
  · have h1' : (0 : Int) < on := by omega
    obtain rfl : bo = true := hbo.mpr (.inl h1)
    go_wp2_with fail
    exact hQ.out _ (Fr.Is.mk rfl rfl)
  · have h1' : decide ((0 : Int) < on) = false := by simp; omega
    by_cases h2 : 2 < sizes
    · have h2' : (2 : Int) < sizes := by omega
      obtain rfl : bo = true := hbo.mpr (.inr (.inl h2))
      go_wp2_with fail
      exact hQ.out _ (Fr.Is.mk rfl rfl)
    · have h2' : decide ((2 : Int) < sizes) = false := by simp; omega
      by_cases h3 : md < n
      · have h3' : (md : Int) < n := by omega
        obtain rfl : bo = true := hbo.mpr (.inr (.inr h3))
        go_wp2_with fail
        exact hQ.out _ (Fr.Is.mk rfl rfl)
      · have h3' : decide ((md : Int) < n) = false := by simp; omega
        obtain rfl : bo = false := by cases bo with | true => exact absurd (hbo.mp rfl) (by omega) | false => rfl
        go_wp2_with fail
        exact hQ.out _ (Fr.Is.mk rfl rfl)

set_option maxRecDepth 100000 in
set_option maxHeartbeats 1000000 in
theorem dec_r16 {Q : Exit → Act → World → Prop} {g blen bcap on oc cst sizes pos : Nat} {ba oa : Option Addr} {c n er bx : Nat} (a : Act) (w : World) 
    (ha : Fr.Is 131 [(0, .pointer (some ⟨g, 0, none⟩)), (1, .slice ba blen bcap), (6, .slice oa on oc), (7, .int .i64 cst), (8, .int .i64 sizes), (9, .int .i64 pos), (10, .int .u8 c), (13, .int .i64 er), (14, .int .i64 n), (15, .pointer (some ⟨bx, 0, none⟩))] a)
    (hQ : Hid (∀ a', Fr.Is 131 [(0, .pointer (some ⟨g, 0, none⟩)), (1, .slice ba blen bcap), (6, .slice oa on oc), (7, .int .i64 cst), (8, .int .i64 sizes), (9, .int .i64 pos), (10, .int .u8 c), (13, .int .i64 50), (14, .int .i64 n), (15, .pointer (some ⟨bx, 0, none⟩))] a' → Q .normal a' w)) :
    (Fr.reg Tryd.f13 16).wp Tryd.prog Q a w := by
  obtain ⟨fr, rfl, hfr⟩ := ha.lit
  simp only [List.map_cons, List.map_nil, List.cons.injEq, and_true] at hfr
  conv => arg 2; whnf
  simp only [List.range, List.range.loop, List.map_cons, List.map_nil, hfr]
  clear hfr ha
  go_wp2_with fail
  exact hQ.out _ (Fr.Is.mk rfl rfl)

set_option maxRecDepth 100000 in
set_option maxHeartbeats 1000000 in
theorem dec_r17 {Q : Exit → Act → World → Prop} {g blen bcap on oc cst sizes pos : Nat} {ba oa : Option Addr} {c n er bx : Nat} {S : World → Prop} (a : Act) (w : World) (HC : Hid (Calls Tryd.prog 35 #[.pointer (some ⟨g, 2, none⟩), .int .i64 n] w fun e w' => e = .returned (.tuple #[]) ∧ S w'))
    (ha : Fr.Is 131 [(0, .pointer (some ⟨g, 0, none⟩)), (1, .slice ba blen bcap), (6, .slice oa on oc), (7, .int .i64 cst), (8, .int .i64 sizes), (9, .int .i64 pos), (10, .int .u8 c), (13, .int .i64 er), (14, .int .i64 n), (15, .pointer (some ⟨bx, 0, none⟩))] a)
    (hQ : Hid (∀ a', Fr.Is 131 [(0, .pointer (some ⟨g, 0, none⟩)), (1, .slice ba blen bcap), (6, .slice oa on oc), (7, .int .i64 cst), (8, .int .i64 sizes), (9, .int .i64 pos)] a' → ∀ w', S w' → Q .normal a' w')) :
    (Fr.reg Tryd.f13 17).wp Tryd.prog Q a w := by
  obtain ⟨fr, rfl, hfr⟩ := ha.lit
  simp only [List.map_cons, List.map_nil, List.cons.injEq, and_true] at hfr
  conv => arg 2; whnf
  simp only [List.range, List.range.loop, List.map_cons, List.map_nil, hfr]
  clear hfr ha
  go_wp2_with fail
  refine HC.out.mono ?_; rintro e w1 ⟨rfl, hS⟩
  go_wp2_with fail
  exact hQ.out _ (Fr.Is.mk rfl rfl) _ hS

set_option maxRecDepth 100000 in
set_option maxHeartbeats 1000000 in
theorem dec_r19 {Q : Exit → Act → World → Prop} {g blen bcap on oc cst sizes pos : Nat} {ba oa : Option Addr} {c n er bx : Nat} {fn fv xn xv : ByteArray} {fb xb : Bool} {e2 : Nat} (a : Act) (w : World) (hbx : w.heap[bx]? = some (.cells #[.string fn, .string fv, .bool fb] 59 (0, 0))) (HC : Hid (Calls Tryd.prog 36 #[.pointer (some ⟨g, 2, none⟩), .int .i64 n] w fun e w' => e = .returned (.tuple #[.agg #[.string xn, .string xv, .bool xb], .int .i64 e2]) ∧ Below w.heap.size w w'))
    (ha : Fr.Is 131 [(0, .pointer (some ⟨g, 0, none⟩)), (1, .slice ba blen bcap), (6, .slice oa on oc), (7, .int .i64 cst), (8, .int .i64 sizes), (9, .int .i64 pos), (10, .int .u8 c), (13, .int .i64 er), (14, .int .i64 n), (15, .pointer (some ⟨bx, 0, none⟩))] a)
    (hQ : Hid (∀ a', Fr.Is 131 [(0, .pointer (some ⟨g, 0, none⟩)), (1, .slice ba blen bcap), (6, .slice oa on oc), (7, .int .i64 cst), (8, .int .i64 sizes), (9, .int .i64 pos), (10, .int .u8 c), (13, .int .i64 e2), (14, .int .i64 n), (15, .pointer (some ⟨bx, 0, none⟩))] a' → ∀ w1, Below w.heap.size w w1 → (((w1.setCell ⟨bx, 0, none⟩ (.string xn)).setCell ⟨bx, 1, none⟩ (.string xv)).setCell ⟨bx, 2, none⟩ (.bool xb)).heap[bx]? = some (.cells #[.string xn, .string xv, .bool xb] 59 (0, 0)) → Q .normal a' (((w1.setCell ⟨bx, 0, none⟩ (.string xn)).setCell ⟨bx, 1, none⟩ (.string xv)).setCell ⟨bx, 2, none⟩ (.bool xb)))) :
    (Fr.reg Tryd.f13 19).wp Tryd.prog Q a w := by
  obtain ⟨fr, rfl, hfr⟩ := ha.lit
  simp only [List.map_cons, List.map_nil, List.cons.injEq, and_true] at hfr
  conv => arg 2; whnf
  simp only [List.range, List.range.loop, List.map_cons, List.map_nil, hfr]
  clear hfr ha
  go_wp2_with fail
  refine HC.out.mono ?_; rintro e w1 ⟨rfl, b1⟩
  have hb1 := block_below b1 hbx
  have q0 := cell_at hb1 0
  have q1 := cell_at hb1 1
  have q2 := cell_at hb1 2
  have z0 := frozen_of_row _ _ 0 _ _ hb1
  have z1 := frozen_of_row _ _ 1 _ _ hb1
  have z2 := frozen_of_row _ _ 2 _ _ hb1
  have HF3 := Lib.hid (heap_set3 (x := .string xn) (y := .string xv) (z := .bool xb) hb1)
  clear hb1
  go_wp2_with fail
  exact hQ.out _ (Fr.Is.mk rfl rfl) w1 b1 HF3.out

set_option maxRecDepth 100000 in
set_option maxHeartbeats 1000000 in
theorem dec_r20 {Q : Exit → Act → World → Prop} {g blen bcap on oc cst sizes pos : Nat} {ba oa : Option Addr} {c n er bx : Nat} (a : Act) (w : World) (bo : Bool) (hbo : bo = true ↔ er = 0)
    (ha : Fr.Is 131 [(0, .pointer (some ⟨g, 0, none⟩)), (1, .slice ba blen bcap), (6, .slice oa on oc), (7, .int .i64 cst), (8, .int .i64 sizes), (9, .int .i64 pos), (10, .int .u8 c), (13, .int .i64 er), (14, .int .i64 n), (15, .pointer (some ⟨bx, 0, none⟩))] a)
    (hQ : Hid (∀ a', Fr.Is 131 [(0, .pointer (some ⟨g, 0, none⟩)), (1, .slice ba blen bcap), (6, .slice oa on oc), (7, .int .i64 cst), (8, .int .i64 sizes), (9, .int .i64 pos), (10, .int .u8 c), (13, .int .i64 er), (14, .int .i64 n), (15, .pointer (some ⟨bx, 0, none⟩)), (88, .bool bo)] a' → Q .normal a' w)) :
    (Fr.reg Tryd.f13 20).wp Tryd.prog Q a w := by
  obtain ⟨fr, rfl, hfr⟩ := ha.lit
  simp only [List.map_cons, List.map_nil, List.cons.injEq, and_true] at hfr
  conv => arg 2; whnf
  simp only [List.range, List.range.loop, List.map_cons, List.map_nil, hfr]
  clear hfr ha
  by_cases he : er = 0
  · subst he
    obtain rfl : bo = true := hbo.mpr rfl
    go_wp2_with fail
    exact hQ.out _ (Fr.Is.mk rfl rfl)
  · obtain rfl : bo = false := by cases bo with | true => exact absurd (hbo.mp rfl) he | false => rfl
    have he' : ((er : Int) == 0) = false := by rw [beq_eq_false_iff_ne]; omega
    have he2 : ¬ (er : Int) = 0 := by omega
    go_wp2_with fail
    first | exact hQ.out _ (Fr.Is.mk rfl rfl) | exact hQ.out _ (Fr.Is.mk rfl (by simp; omega))

set_option maxRecDepth 100000 in
set_option maxHeartbeats 1000000 in
theorem dec_r23 {Q : Exit → Act → World → Prop} {g blen bcap on oc cst sizes pos : Nat} {ba oa : Option Addr} {c n er bx : Nat} (a : Act) (w : World) (bo : Bool) (hbo : bo = true ↔ er = 0)
    (ha : Fr.Is 131 [(0, .pointer (some ⟨g, 0, none⟩)), (1, .slice ba blen bcap), (6, .slice oa on oc), (7, .int .i64 cst), (8, .int .i64 sizes), (9, .int .i64 pos), (10, .int .u8 c), (13, .int .i64 er), (14, .int .i64 n), (15, .pointer (some ⟨bx, 0, none⟩))] a)
    (hQ : Hid (∀ a', Fr.Is 131 [(0, .pointer (some ⟨g, 0, none⟩)), (1, .slice ba blen bcap), (6, .slice oa on oc), (7, .int .i64 cst), (8, .int .i64 sizes), (9, .int .i64 pos), (10, .int .u8 c), (13, .int .i64 er), (14, .int .i64 n), (15, .pointer (some ⟨bx, 0, none⟩)), (103, .bool (!bo))] a' → Q .normal a' w)) :
    (Fr.reg Tryd.f13 23).wp Tryd.prog Q a w := by
  obtain ⟨fr, rfl, hfr⟩ := ha.lit
  simp only [List.map_cons, List.map_nil, List.cons.injEq, and_true] at hfr
  conv => arg 2; whnf
  simp only [List.range, List.range.loop, List.map_cons, List.map_nil, hfr]
  clear hfr ha
  by_cases he : er = 0
  · subst he
    obtain rfl : bo = true := hbo.mpr rfl
    go_wp2_with fail
    exact hQ.out _ (Fr.Is.mk rfl rfl)
  · obtain rfl : bo = false := by cases bo with | true => exact absurd (hbo.mp rfl) he | false => rfl
    have he' : ((er : Int) == 0) = false := by rw [beq_eq_false_iff_ne]; omega
    have he2 : ¬ (er : Int) = 0 := by omega
    go_wp2_with fail
    first | exact hQ.out _ (Fr.Is.mk rfl rfl) | exact hQ.out _ (Fr.Is.mk rfl (by simp; omega))

set_option maxRecDepth 100000 in
set_option maxHeartbeats 1000000 in
theorem dec_r21 {Q : Exit → Act → World → Prop} {g blen bcap on oc cst sizes pos : Nat} {ba oa : Option Addr} {c n er bx : Nat} {fn fv : ByteArray} {fb : Bool} {e2 : Nat} {T : FdM → Nat → Prop} (a : Act) (w : World) (hbx : w.heap[bx]? = some (.cells #[.string fn, .string fv, .bool fb] 59 (0, 0))) (HC : Hid (Calls Tryd.prog 37 #[.pointer (some ⟨g, 0, none⟩), .slice ba blen bcap, .int .i64 pos, .int .i64 n] w fun e w' => ∃ (f : FdM) (k2 : Nat), e = .returned (.tuple #[.agg #[.string f.name, .string f.value, .bool f.never], .int .i64 k2, .int .i64 e2]) ∧ Below w.heap.size w w' ∧ T f k2))
    (ha : Fr.Is 131 [(0, .pointer (some ⟨g, 0, none⟩)), (1, .slice ba blen bcap), (6, .slice oa on oc), (7, .int .i64 cst), (8, .int .i64 sizes), (9, .int .i64 pos), (10, .int .u8 c), (13, .int .i64 er), (14, .int .i64 n), (15, .pointer (some ⟨bx, 0, none⟩))] a)
    (hQ : Hid (∀ (f : FdM) (k2 : Nat) a', Fr.Is 131 [(0, .pointer (some ⟨g, 0, none⟩)), (1, .slice ba blen bcap), (6, .slice oa on oc), (7, .int .i64 cst), (8, .int .i64 sizes), (9, .int .i64 k2), (10, .int .u8 c), (13, .int .i64 e2), (14, .int .i64 n), (15, .pointer (some ⟨bx, 0, none⟩))] a' → ∀ w1, T f k2 → Below w.heap.size w w1 → (((w1.setCell ⟨bx, 0, none⟩ (.string f.name)).setCell ⟨bx, 1, none⟩ (.string f.value)).setCell ⟨bx, 2, none⟩ (.bool f.never)).heap[bx]? = some (.cells #[.string f.name, .string f.value, .bool f.never] 59 (0, 0)) → Q .normal a' (((w1.setCell ⟨bx, 0, none⟩ (.string f.name)).setCell ⟨bx, 1, none⟩ (.string f.value)).setCell ⟨bx, 2, none⟩ (.bool f.never)))) :
    (Fr.reg Tryd.f13 21).wp Tryd.prog Q a w := by
  obtain ⟨fr, rfl, hfr⟩ := ha.lit
  simp only [List.map_cons, List.map_nil, List.cons.injEq, and_true] at hfr
  conv => arg 2; whnf
  simp only [List.range, List.range.loop, List.map_cons, List.map_nil, hfr]
  clear hfr ha
  go_wp2_with fail
  refine HC.out.mono ?_; rintro e w1 ⟨f, k2, rfl, b1, hT⟩
  have hb1 := block_below b1 hbx
  have q0 := cell_at hb1 0
  have q1 := cell_at hb1 1
  have q2 := cell_at hb1 2
  have z0 := frozen_of_row _ _ 0 _ _ hb1
  have z1 := frozen_of_row _ _ 1 _ _ hb1
  have z2 := frozen_of_row _ _ 2 _ _ hb1
  have HF3 := Lib.hid (heap_set3 (x := .string f.name) (y := .string f.value) (z := .bool f.never) hb1)
  clear hb1
  obtain ⟨f1, f2, f3⟩ := f
  simp only at HF3 ⊢
  go_wp2_with fail
  exact hQ.out ⟨f1, f2, f3⟩ k2 _ (Fr.Is.mk rfl rfl) w1 hT b1 HF3.out

set_option maxRecDepth 100000 in
set_option maxHeartbeats 1000000 in
theorem dec_r22 {Q : Exit → Act → World → Prop} {g blen bcap on oc cst sizes pos : Nat} {ba oa : Option Addr} {c n er bx : Nat} {fn fv : ByteArray} {fb : Bool} (a : Act) (w : World) (hc : c < 256) (hbx : w.heap[bx]? = some (.cells #[.string fn, .string fv, .bool fb] 59 (0, 0))) (bo : Bool) (hbo : bo = decide (c / 16 = 1))
    (ha : Fr.Is 131 [(0, .pointer (some ⟨g, 0, none⟩)), (1, .slice ba blen bcap), (6, .slice oa on oc), (7, .int .i64 cst), (8, .int .i64 sizes), (9, .int .i64 pos), (10, .int .u8 c), (13, .int .i64 er), (14, .int .i64 n), (15, .pointer (some ⟨bx, 0, none⟩))] a)
    (hQ : Hid (∀ a', Fr.Is 131 [(0, .pointer (some ⟨g, 0, none⟩)), (1, .slice ba blen bcap), (6, .slice oa on oc), (7, .int .i64 cst), (8, .int .i64 sizes), (9, .int .i64 pos), (10, .int .u8 c), (13, .int .i64 er), (14, .int .i64 n), (15, .pointer (some ⟨bx, 0, none⟩))] a' → (w.setCell ⟨bx, 2, none⟩ (.bool bo)).heap[bx]? = some (.cells #[.string fn, .string fv, .bool bo] 59 (0, 0)) → Q .normal a' (w.setCell ⟨bx, 2, none⟩ (.bool bo)))) :
    (Fr.reg Tryd.f13 22).wp Tryd.prog Q a w := by
  obtain ⟨fr, rfl, hfr⟩ := ha.lit
  simp only [List.map_cons, List.map_nil, List.cons.injEq, and_true] at hfr
  conv => arg 2; whnf
  simp only [List.range, List.range.loop, List.map_cons, List.map_nil, hfr]
  clear hfr ha
  have q2 := cell_at hbx 2
  have z2 := frozen_of_row _ _ 2 _ _ hbx
  have HS := Lib.hid (heap_setCell_same w bx 2 _ _ (.bool bo) hbx)
  by_cases h16 : c / 16 = 1
  · obtain rfl : bo = true := by rw [hbo]; simp [h16]
    have hq : ((c : Int).tdiv 16) = 1 := by rw [Int.tdiv_eq_ediv_of_nonneg (by omega)]; omega
    have hq2 : ((c : Int) / 16) = 1 := by omega
    clear hbo hbx
    go_wp2_with fail
    exact hQ.out _ (Fr.Is.mk rfl rfl) HS.out
  · obtain rfl : bo = false := by rw [hbo]; simp [h16]
    have hq : ¬ ((c : Int).tdiv 16) = 1 := by rw [Int.tdiv_eq_ediv_of_nonneg (by omega)]; omega
    have hq2 : ((c : Int) / 16 == 1) = false := by rw [beq_eq_false_iff_ne]; omega
    have hq3 : ((c : Int).tdiv 16 == 1) = false := by rw [beq_eq_false_iff_ne]; exact hq
    clear hbo hbx
    go_wp2_with fail
    exact hQ.out _ (Fr.Is.mk rfl rfl) HS.out

set_option maxRecDepth 100000 in
set_option maxHeartbeats 1000000 in
theorem dec_r24 {Q : Exit → Act → World → Prop} {g blen bcap on oc cst sizes pos : Nat} {ba oa : Option Addr} {c n er bx : Nat} (a : Act) (w : World) (q4 : ∃ v, w.cell? ⟨g, 4, none⟩ = some v) (z4 : w.frozen? ⟨g, 4, none⟩ = false)
    (ha : Fr.Is 131 [(0, .pointer (some ⟨g, 0, none⟩)), (1, .slice ba blen bcap), (6, .slice oa on oc), (7, .int .i64 cst), (8, .int .i64 sizes), (9, .int .i64 pos), (10, .int .u8 c), (13, .int .i64 er), (14, .int .i64 n), (15, .pointer (some ⟨bx, 0, none⟩))] a)
    (hQ : Hid (∀ a', Fr.Is 131 [(13, .int .i64 er)] a' → Q .normal a' (w.setCell ⟨g, 4, none⟩ (.bool true)))) :
    (Fr.reg Tryd.f13 24).wp Tryd.prog Q a w := by
  obtain ⟨fr, rfl, hfr⟩ := ha.lit
  simp only [List.map_cons, List.map_nil, List.cons.injEq, and_true] at hfr
  conv => arg 2; whnf
  simp only [List.range, List.range.loop, List.map_cons, List.map_nil, hfr]
  clear hfr ha
  obtain ⟨v4, q4⟩ := q4
  go_wp2_with fail
  exact hQ.out _ (Fr.Is.mk rfl rfl)

set_option maxRecDepth 100000 in
set_option maxHeartbeats 1000000 in
theorem dec_r25 {Q : Exit → Act → World → Prop} {er : Nat} (a : Act) (w : World) 
    (ha : Fr.Is 131 [(13, .int .i64 er)] a)
    (hQ : Hid (∀ a', Fr.Is 131 [(4, .slice none 0 0), (5, .int .i64 er)] a' → Q .normal a' w)) :
    (Fr.reg Tryd.f13 25).wp Tryd.prog Q a w := by
  obtain ⟨fr, rfl, hfr⟩ := ha.lit
  simp only [List.map_cons, List.map_nil, List.cons.injEq, and_true] at hfr
  conv => arg 2; whnf
  simp only [List.range, List.range.loop, List.map_cons, List.map_nil, hfr]
  clear hfr ha
  go_wp2_with fail
  exact hQ.out _ (Fr.Is.mk rfl rfl)

set_option maxRecDepth 100000 in
set_option maxHeartbeats 1000000 in
theorem dec_r26 {Q : Exit → Act → World → Prop} {g blen bcap on oc cst sizes pos : Nat} {ba oa : Option Addr} {c n er bx : Nat} (a : Act) (w : World) (hc : c < 256) (bo : Bool) (hbo : bo = true ↔ bitsOf c = 6)
    (ha : Fr.Is 131 [(0, .pointer (some ⟨g, 0, none⟩)), (1, .slice ba blen bcap), (6, .slice oa on oc), (7, .int .i64 cst), (8, .int .i64 sizes), (9, .int .i64 pos), (10, .int .u8 c), (13, .int .i64 er), (14, .int .i64 n), (15, .pointer (some ⟨bx, 0, none⟩))] a)
    (hQ : Hid (∀ a', Fr.Is 131 [(0, .pointer (some ⟨g, 0, none⟩)), (1, .slice ba blen bcap), (6, .slice oa on oc), (7, .int .i64 cst), (8, .int .i64 sizes), (9, .int .i64 pos), (10, .int .u8 c), (13, .int .i64 er), (14, .int .i64 n), (15, .pointer (some ⟨bx, 0, none⟩)), (110, .bool bo)] a' → Q .normal a' w)) :
    (Fr.reg Tryd.f13 26).wp Tryd.prog Q a w := by
  obtain ⟨fr, rfl, hfr⟩ := ha.lit
  simp only [List.map_cons, List.map_nil, List.cons.injEq, and_true] at hfr
  conv => arg 2; whnf
  simp only [List.range, List.range.loop, List.map_cons, List.map_nil, hfr]
  clear hfr ha
  have HB := Lib.hid (bitsof_any c w hc)
  by_cases hb : bitsOf c = 6
  · obtain rfl : bo = true := hbo.mpr hb
    rw [hb] at HB
    go_wp2_with fail
    refine HB.out.mono ?_; rintro e w1 ⟨rfl, rfl⟩
    go_wp2_with fail
    exact hQ.out _ (Fr.Is.mk rfl rfl)
  · obtain rfl : bo = false := by cases bo with | true => exact absurd (hbo.mp rfl) hb | false => rfl
    have hb' : ((bitsOf c : Int) == 6) = false := by rw [beq_eq_false_iff_ne]; omega
    have hb2 : ¬ bitsOf c = 6 := hb
    generalize bitsOf c = bc at HB hb' hb2
    go_wp2_with fail
    refine HB.out.mono ?_; rintro e w1 ⟨rfl, rfl⟩
    go_wp2_with fail
    first | exact hQ.out _ (Fr.Is.mk rfl rfl) | exact hQ.out _ (Fr.Is.mk rfl (by simp; omega))

set_option maxRecDepth 100000 in
set_option maxHeartbeats 1000000 in
theorem dec_r27 {Q : Exit → Act → World → Prop} {g blen bcap on oc cst sizes pos : Nat} {ba oa : Option Addr} {c n er bx : Nat} {fn fv : ByteArray} {fb : Bool} {S : World → Prop} (a : Act) (w : World) (hbx : w.heap[bx]? = some (.cells #[.string fn, .string fv, .bool fb] 59 (0, 0))) (HC : Hid (Calls Tryd.prog 38 #[.pointer (some ⟨g, 2, none⟩), .agg #[.string fn, .string fv, .bool fb]] w.drew fun e w' => e = .returned (.tuple #[]) ∧ S w'))
    (ha : Fr.Is 131 [(0, .pointer (some ⟨g, 0, none⟩)), (1, .slice ba blen bcap), (6, .slice oa on oc), (7, .int .i64 cst), (8, .int .i64 sizes), (9, .int .i64 pos), (10, .int .u8 c), (13, .int .i64 er), (14, .int .i64 n), (15, .pointer (some ⟨bx, 0, none⟩))] a)
    (hQ : Hid (∀ a', Fr.Is 131 [(0, .pointer (some ⟨g, 0, none⟩)), (1, .slice ba blen bcap), (6, .slice oa on oc), (7, .int .i64 cst), (8, .int .i64 sizes), (9, .int .i64 pos), (10, .int .u8 c), (13, .int .i64 er), (14, .int .i64 n), (15, .pointer (some ⟨bx, 0, none⟩))] a' → ∀ w', S w' → Q .normal a' w')) :
    (Fr.reg Tryd.f13 27).wp Tryd.prog Q a w := by
  obtain ⟨fr, rfl, hfr⟩ := ha.lit
  simp only [List.map_cons, List.map_nil, List.cons.injEq, and_true] at hfr
  conv => arg 2; whnf
  simp only [List.range, List.range.loop, List.map_cons, List.map_nil, hfr]
  clear hfr ha
  have q0 := cell_at hbx 0
  have q1 := cell_at hbx 1
  have q2 := cell_at hbx 2
  clear hbx
  refine wp_region_noPanic ?_
  go_region_with ((go_at_call 38; refine HC.out.mono ?_; rintro e w1 ⟨rfl, hS⟩))
  all_goals exact hQ.out _ (Fr.Is.mk rfl rfl) _ hS

set_option maxRecDepth 100000 in
set_option maxHeartbeats 1000000 in
theorem dec_r28 {Q : Exit → Act → World → Prop} {g blen bcap on oc cst sizes pos : Nat} {ba oa : Option Addr} {c n er bx : Nat} {fn fv : ByteArray} {fb : Bool} (a : Act) (w : World) (hbx : w.heap[bx]? = some (.cells #[.string fn, .string fv, .bool fb] 59 (0, 0))) (hn : fn.size ≤ 140737488351232) (hv : fv.size ≤ 140737488351232) (hcs : cst ≤ 100000000000000)
    (ha : Fr.Is 131 [(0, .pointer (some ⟨g, 0, none⟩)), (1, .slice ba blen bcap), (6, .slice oa on oc), (7, .int .i64 cst), (8, .int .i64 sizes), (9, .int .i64 pos), (10, .int .u8 c), (13, .int .i64 er), (14, .int .i64 n), (15, .pointer (some ⟨bx, 0, none⟩))] a)
    (hQ : Hid (∀ a', Fr.Is 131 [(0, .pointer (some ⟨g, 0, none⟩)), (1, .slice ba blen bcap), (6, .slice oa on oc), (7, .int .i64 (cst + cost ⟨fn, fv, fb⟩ : Nat)), (8, .int .i64 sizes), (9, .int .i64 pos), (10, .int .u8 c), (13, .int .i64 er), (14, .int .i64 n), (15, .pointer (some ⟨bx, 0, none⟩))] a' → ∀ w', Below w.heap.size w w' → Q .normal a' w')) :
    (Fr.reg Tryd.f13 28).wp Tryd.prog Q a w := by
  obtain ⟨fr, rfl, hfr⟩ := ha.lit
  simp only [List.map_cons, List.map_nil, List.cons.injEq, and_true] at hfr
  conv => arg 2; whnf
  simp only [List.range, List.range.loop, List.map_cons, List.map_nil, hfr]
  clear hfr ha
  have q0 := cell_at hbx 0
  have q1 := cell_at hbx 1
  have q2 := cell_at hbx 2
  have HC := Lib.hid (cost_any ⟨fn, fv, fb⟩ w hn hv)
  have hcb : cost ⟨fn, fv, fb⟩ ≤ 281474976710656 := by show fn.size + fv.size + 32 ≤ _; omega
  generalize cost ⟨fn, fv, fb⟩ = cc at HC hQ hcb
  simp only at HC
  clear hbx
  go_wp2_with fail
  refine HC.out.mono ?_; rintro e w1 ⟨rfl, b1⟩
  go_wp2_with fail
  exact hQ.out _ (Fr.Is.mk rfl rfl) w1 b1

set_option maxRecDepth 100000 in
set_option maxHeartbeats 1000000 in
theorem dec_r30 {Q : Exit → Act → World → Prop} {g blen bcap on oc cst sizes pos : Nat} {ba oa : Option Addr} {ld : Nat} (a : Act) (w : World) (q1 : w.cell? ⟨g, 1, none⟩ = some (.int .i64 ld)) (bo : Bool) (hbo : bo = true ↔ ld < cst)
    (ha : Fr.Is 131 [(0, .pointer (some ⟨g, 0, none⟩)), (1, .slice ba blen bcap), (6, .slice oa on oc), (7, .int .i64 cst), (8, .int .i64 sizes), (9, .int .i64 pos)] a)
    (hQ : Hid (∀ a', Fr.Is 131 [(6, .slice oa on oc), (129, .bool bo)] a' → Q .normal a' w)) :
    (Fr.reg Tryd.f13 30).wp Tryd.prog Q a w := by
  obtain ⟨fr, rfl, hfr⟩ := ha.lit
  simp only [List.map_cons, List.map_nil, List.cons.injEq, and_true] at hfr
  conv => arg 2; whnf
  simp only [List.range, List.range.loop, List.map_cons, List.map_nil, hfr]
  clear hfr ha
  by_cases h : ld < cst
  · obtain rfl : bo = true := hbo.mpr h
    have h' : (ld : Int) < cst := by omega
    go_wp2_with fail
    first | exact hQ.out _ (Fr.Is.mk rfl rfl) | exact hQ.out _ (Fr.Is.mk rfl (by simp; omega))
  · obtain rfl : bo = false := by cases bo with | true => exact absurd (hbo.mp rfl) h | false => rfl
    have h' : decide ((ld : Int) < cst) = false := by simp; omega
    go_wp2_with fail
    first | exact hQ.out _ (Fr.Is.mk rfl rfl) | exact hQ.out _ (Fr.Is.mk rfl (by simp; omega))

set_option maxRecDepth 100000 in
set_option maxHeartbeats 1000000 in
theorem dec_r31 {Q : Exit → Act → World → Prop} {on oc : Nat} {oa : Option Addr} (a : Act) (w : World) 
    (ha : Fr.Is 131 [(6, .slice oa on oc)] a)
    (hQ : Hid (∀ a', Fr.Is 131 [(4, .slice none 0 0), (5, .int .i64 51)] a' → Q .normal a' w)) :
    (Fr.reg Tryd.f13 31).wp Tryd.prog Q a w := by
  obtain ⟨fr, rfl, hfr⟩ := ha.lit
  simp only [List.map_cons, List.map_nil, List.cons.injEq, and_true] at hfr
  conv => arg 2; whnf
  simp only [List.range, List.range.loop, List.map_cons, List.map_nil, hfr]
  clear hfr ha
  go_wp2_with fail
  exact hQ.out _ (Fr.Is.mk rfl rfl)

set_option maxRecDepth 100000 in
set_option maxHeartbeats 1000000 in
theorem dec_r32 {Q : Exit → Act → World → Prop} {on oc : Nat} {oa : Option Addr} (a : Act) (w : World) 
    (ha : Fr.Is 131 [(6, .slice oa on oc)] a)
    (hQ : Hid (∀ a', Fr.Is 131 [(4, .slice oa on oc), (5, .int .i64 0)] a' → Q .normal a' w)) :
    (Fr.reg Tryd.f13 32).wp Tryd.prog Q a w := by
  obtain ⟨fr, rfl, hfr⟩ := ha.lit
  simp only [List.map_cons, List.map_nil, List.cons.injEq, and_true] at hfr
  conv => arg 2; whnf
  simp only [List.range, List.range.loop, List.map_cons, List.map_nil, hfr]
  clear hfr ha
  go_wp2_with fail
  exact hQ.out _ (Fr.Is.mk rfl rfl)

set_option maxRecDepth 100000 in
set_option maxHeartbeats 1000000 in
theorem dec_r29 {Q : Exit → Act → World → Prop} {g blen bcap on oc cst sizes pos : Nat} {ba oa : Option Addr} {c n er bx : Nat} {fn fv : ByteArray} {fb : Bool} {out : List FdM} (a : Act) (w : World) (hbx : w.heap[bx]? = some (.cells #[.string fn, .string fv, .bool fb] 59 (0, 0))) (hon : on = out.length) (hq : Rw.QRow EFd w oa oc out) (hlen : on + 1 ≤ 1000000000)
    (ha : Fr.Is 131 [(0, .pointer (some ⟨g, 0, none⟩)), (1, .slice ba blen bcap), (6, .slice oa on oc), (7, .int .i64 cst), (8, .int .i64 sizes), (9, .int .i64 pos), (10, .int .u8 c), (13, .int .i64 er), (14, .int .i64 n), (15, .pointer (some ⟨bx, 0, none⟩))] a)
    (hQ : Hid (∀ a', Fr.Is 131 [(0, .pointer (some ⟨g, 0, none⟩)), (1, .slice ba blen bcap), (7, .int .i64 cst), (8, .int .i64 sizes), (9, .int .i64 pos)] a' → ∀ oa2 oc2 w', Fr.Is 131 [(6, .slice oa2 (on + 1) oc2)] a' → Rw.QRow EFd w' oa2 oc2 (out ++ [⟨fn, fv, fb⟩]) → (w.alloc (.cells #[.string fn, .string fv, .bool fb] 59)).grownBy w' (oa.map (·.block)) → (∀ b o s, oa2 = some ⟨b, o, s⟩ → (∃ o', oa = some ⟨b, o', none⟩) ∨ w.heap.size + 1 ≤ b) → Q .normal a' w')) :
    (Fr.reg Tryd.f13 29).wp Tryd.prog Q a w := by
  obtain ⟨fr, rfl, hfr⟩ := ha.lit
  simp only [List.map_cons, List.map_nil, List.cons.injEq, and_true] at hfr
  conv => arg 2; whnf
  simp only [List.range, List.range.loop, List.map_cons, List.map_nil, hfr]
  clear hfr ha
  subst hon
  have q0 := cell_at hbx 0
  have q1 := cell_at hbx 1
  have q2 := cell_at hbx 2
  obtain ⟨i0, hi, hz0, hz1, hz2⟩ := info_parts info_fd
  have hh := heap_alloc_new w (.cells #[.string fn, .string fv, .bool fb] 59)
  have hnew : Rw.RowE EFd (w.alloc (.cells #[.string fn, .string fv, .bool fb] 59)) (some ⟨w.heap.size, 0, none⟩) [(⟨fn, fv, fb⟩ : FdM)] := .inr ⟨_, _, rfl, fun i hi r u hu => by
    have h0 : i = 0 := by simp at hi; omega
    subst h0
    rw [cell_at hh]
    simpa [EFd] using hu⟩
  have hq1 := hq.below ((Below.refl w.heap.size w).alloc (Nat.le_refl _) (.cells #[.string fn, .string fv, .bool fb] 59))
  obtain ⟨oa2, oc2, w2, hrun, h1, h2, h3⟩ := Rw.run_append_que EFd (w.alloc (.cells #[.string fn, .string fv, .bool fb] 59)) 31 Tryd.underlying31 hi hz0 hz1 hz2 rfl oa oc out hq1 ⟨w.heap.size, 0, none⟩ 1 [⟨fn, fv, fb⟩] hnew (by unfold maxLen; simp; omega) (by simp; omega)
  rw [show (w.alloc (.cells #[.string fn, .string fv, .bool fb] 59)).heap.size = w.heap.size + 1 by simp] at h3
  have H1 := Lib.hid h1
  have H2 := Lib.hid h2
  have H3 := Lib.hid h3
  simp only [List.length_cons, List.length_nil, Nat.zero_add] at hrun
  clear h1 h2 h3 hq hq1 hnew hh hbx hi hz0 hz1 hz2
  go_wp2_with (first | (at_builtin; refine wpList_run_append rfl (.tmp 120) (.tmp 122) 31 rfl _ _ _ rfl rfl hrun ?_) | go_in)
  exact hQ.out _ (Fr.Is.mk rfl rfl) oa2 oc2 w2 (Fr.Is.mk rfl rfl) H1.out H2.out H3.out
end Go.Proofs.YtdkgachgohilcaaDoor
