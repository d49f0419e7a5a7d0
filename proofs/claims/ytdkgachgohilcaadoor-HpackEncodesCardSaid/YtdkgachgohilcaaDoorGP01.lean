/- Small laws on rows of bytes that a call makes for itself, and on texts made of them. Arguments of any shape that holds numbers, bools, texts, structs and slices of such: what their cells hold, told by a list of leaves. -/
import Derived.WalkKit
import Derived.WalkSmall
import Derived.Laws.AppendOwnNone
import Derived.ProofKit
import Derived.OpenShut
import Derived.Deep.QuietTactic
import Derived.Lib.Hide
import Derived.SizedLaws
import Derived.ChangeArms
import Derived.Deep.Slices
set_option linter.unusedVariables false
set_option linter.unusedSimpArgs false
namespace Go.Proofs.YtdkgachgohilcaaDoor
open Go.RowKit
namespace Mem

/-- Bytes as cells. -/
def bvs (l : List UInt8) : List Value := l.map fun c => Value.int .u8 (c.toNat : Int)
theorem bvs_length (l : List UInt8) : (bvs l).length = l.length := by simp [bvs]
theorem bvs_append (a b : List UInt8) : bvs (a ++ b) = bvs a ++ bvs b := by simp [bvs]
theorem bvs_set (l : List UInt8) (k : Nat) (c : UInt8) : (bvs l).set k (.int .u8 (c.toNat : Int)) = bvs (l.set k c) := by
  simp [bvs, List.map_set]
theorem bvs_at (l : List UInt8) (k : Nat) (h : k < l.length) : (bvs l)[k]? = some (.int .u8 (l[k].toNat : Int)) := by
  simp [bvs, List.getElem?_map, List.getElem?_eq_getElem h]

theorem run_conv_own {P : Program} {w : World} {base : Nat} {src e dst : TypeId} {v : Value} {l : List UInt8}
    (hs : P.underlying src = some (.slice e)) (he : P.underlying e = some (.int .u8)) (hd : P.underlying dst = some .string)
    (h : w.ownsRow base e 1 v l.length (bvs l)) : (convert src dst v).run P w = .ok (.string ⟨l.toArray⟩) w := by
  rcases h.2 with ⟨rfl, hn⟩ | ⟨g, cap, cur, rfl, _, _⟩
  · have : l = [] := List.eq_nil_iff_length_eq_zero.mpr hn
    subst this
    exact run_convert_bytes_nil w src e hs he 0 0 dst hd
  · have hx := run_convert_bytes_arg w src e hs he g 0 l.length cap (l.map fun c => (c.toNat : Int)) (by simp) (fun i hi => by
      rw [show (0 + i) = i from by omega, h.cellAt i (by omega), bvs_at l i hi]
      simp [List.getD, List.getElem?_map, List.getElem?_eq_getElem hi]) dst hd
    rw [hx]
    congr 3
    simp [strOfNums, List.map_map, Function.comp_def]

theorem take_set_snoc (ys : List UInt8) (k : Nat) (c : UInt8) (h : k < ys.length) : (ys.set k c).take (k + 1) = ys.take k ++ [c] := by
  rw [List.take_succ_eq_append_getElem (by simpa using h), List.take_set_of_le (Nat.le_refl k)]
  simp

theorem below_cell {w w' : World} (hb : Below w.heap.size w w') {a : Addr} {v : Value} (h : w.cell? a = some v) : w'.cell? a = some v :=
  (hb.cell (World.block_lt_of_cell? w a h)).trans h

/-- A callee that leaves the world alone, in a quiet region. -/
theorem quietL {P : Program} {f : FuncId} {args : Array Value} {w : World} {n : Nat} {v : Value}
    (h : Calls P f args (w.drewN n) fun e w' => e = .returned v ∧ w.drewN n = w') : Calls P f args (w.drewN n) fun e w'' => e = .returned v ∧ ∃ m, w'' = w.drewN m :=
  h.mono fun _ _ ⟨he, hm⟩ => ⟨he, n, hm.symm⟩
theorem quietA {P : Program} {f : FuncId} {args : Array Value} {w : World} {a n : Nat} {v : Value}
    (h : Calls P f args (w.drewN (a + n)) fun e w' => e = .returned v ∧ w.drewN (a + n) = w') : Calls P f args (w.drewN (a + n)) fun e w'' => e = .returned v ∧ ∃ m, w'' = w.drewN (a + m) :=
  h.mono fun _ _ ⟨he, hm⟩ => ⟨he, n, hm.symm⟩

/-- 'out = append(out, c)', out nil or the call's own row of bytes. -/
theorem append_byte {P : Program} {w : World} {ops : Array Oper} {rest : List Oper} {o : Oper} {a : Act} {Q : Exit → Act → World → Prop} {t e : TypeId} {i : TypeInfo}
    (ht : P.underlying t = some (.slice e)) (hi : P.info? e = some i) (hz : i.zero = some (.int .u8 0)) (hsize : i.size = 1) (hby : i.bytes = 1)
    (hgd : o.guard = none) (s x : Operand) (ho : o.op = .call { callee := .builtin .append, args := #[s, x], argTypes := #[t, t] })
    (base : Nat) (v : Value) (l : List UInt8) (u : UInt8) (c : Int) (hc : c = (u.toNat : Int)) (hs : a.eval s = v) (hown : w.ownsRow base e 1 v l.length (bvs l))
    (hx : a.eval x = .slice (some ⟨w.heap.size, 0, none⟩) 1 1) (hlen : l.length + 1 ≤ 140737488355328) (hbase : base ≤ w.heap.size)
    (h : ∀ v' w', Hid (w'.ownsRow base e 1 v' (l.length + 1) (bvs (l ++ [u]))) → (∀ B wb, Below B wb w → B ≤ base → Below B wb w') → wpList P ops Q rest (a.put o.dst v') w') :
    wpList P ops Q (o :: rest) a (w.alloc (.cells #[.int .u8 c] e)) := by
  subst hc
  refine wpList_append_own _ hgd s x t ho base e i (.int .u8 0) 1 1 ht hi hz hsize hby rfl (by decide) v l.length (bvs l) hs (hown.alloc _) ⟨w.heap.size, 0, none⟩ 1 1 [.int .u8 (u.toNat : Int)] hx rfl ?_ ?_ ?_ ?_ ?_ ?_
  · intro j u' hj
    match j, hj with
    | 0, hj => simp at hj; subst hj; simp [Addr.add]
  · intro u' hu; simp at hu; subst hu; rfl
  · unfold maxLen; omega
  · omega
  · simp; omega
  · intro v' w' h2 h3 _
    refine h v' w' (Lib.hid ?_) ?_
    · rw [bvs_append]; exact h2
    · intro B wb hb hB
      exact (hb.alloc (by omega) _).grown h3 (by simp; omega) (fun k hk => by have := (hown.lt k hk).1; omega)

/-- A slice of integers that came in: nil, or a row of 'cap' cells. -/
def IsRow (k : IntKind) (w : World) (a : Option Addr) (len cap : Nat) (zs : List Int) : Prop :=
  (a = none ∧ len = 0 ∧ cap = 0 ∧ zs = []) ∨
  ∃ x, a = some x ∧ len ≤ cap ∧ cap ≤ maxLen ∧ zs.length = cap ∧ (∀ i, i < zs.length → w.cell? (x.add i) = some (.int k (zs.getD i 0))) ∧ ∀ n ∈ zs, (Lit.int k n).wf = true

theorem ints_of (k : IntKind) : ∀ l : List Value, (∀ i, i < l.length → ∃ z, l[i]? = some (.int k z) ∧ (Lit.int k z).wf = true) →
    ∃ zs : List Int, zs.length = l.length ∧ (∀ x ∈ zs, (Lit.int k x).wf = true) ∧ l = zs.map (Value.int k)
  | [], _ => ⟨[], rfl, by simp, rfl⟩
  | v :: r, h => by
    obtain ⟨z, hz, hw⟩ := h 0 (by simp)
    obtain ⟨zs, h1, h2, h3⟩ := ints_of k r (fun i hi => by simpa using h (i + 1) (by simpa using hi))
    refine ⟨z :: zs, by simp [h1], ?_, ?_⟩
    · intro x hx
      rcases List.mem_cons.mp hx with rfl | hx
      · exact hw
      · exact h2 x hx
    · simp at hz; rw [hz, h3]; rfl

/-- An array of integers by value. -/
theorem open_arr_int {H : Type} {enc : TypeId × Value → H} {P : Program} {w : World} {b0 base : Nat} {spare : Nat → Bool} {held : Bool} {n : Nat} {k : IntKind} {r : Reach} {t e : TypeId} {v : Value} {d : DataW H} {p : List MemPlace}
    (ht : P.underlying t = some (.array n e)) (he : P.underlying e = some (.int k)) (hce : P.cellsOf e = 1) (hct : P.cellsOf t = n)
    (hv : Value.okWide P w r b0 t v) (h : DataW.Trod enc P w base spare held t v d p) :
    ∃ zs : List Int, (zs.length = n ∧ ∀ x ∈ zs, (Lit.int k x).wf = true) ∧ v = .agg (zs.map (Value.int k)).toArray := by
  unfold Value.okWide at hv
  rw [ht] at hv
  obtain ⟨cs, rfl, hsz, _⟩ := hv
  obtain ⟨fuel, hf⟩ := h
  obtain ⟨xs, m, _, _, hcl, hxl, hel⟩ := DataW.trod_array ht hf
  have hcells : (Value.agg cs).cells.toList = cs.toList := rfl
  rw [hcells] at hcl hel
  rw [hct] at hcl
  have key : ∀ i, i < n → ∃ z, cs.toList[i]? = some (.int k z) ∧ (Lit.int k z).wf = true := by
    intro i hi
    have h1 := hel i hi
    rw [hce, Nat.mul_one, List.drop_eq_getElem_cons (by omega), List.take_succ_cons, List.take_zero] at h1
    have : ∃ y, xs[i]? = some y := ⟨xs[i], List.getElem?_eq_getElem (by omega)⟩
    obtain ⟨y, hy⟩ := this
    rw [hy] at h1
    obtain ⟨z, hz, _, hwf⟩ := DataW.trod_int he h1
    refine ⟨z, ?_, hwf⟩
    rw [List.getElem?_eq_getElem (by omega)]
    simpa using hz
  obtain ⟨zs, h1, h2, h3⟩ := ints_of k cs.toList (fun i hi => key i (by omega))
  refine ⟨zs, ⟨by omega, h2⟩, ?_⟩
  rw [← h3]

theorem below_step {w a b : World} (h : Below w.heap.size w a) (k : Below a.heap.size a b) : Below w.heap.size w b :=
  h.trans (k.mono h.size)

/-- A slice value leads to these bytes. -/
def RB (w : World) (a : Option Addr) (l : List UInt8) : Prop :=
  l = [] ∨ ∃ b off, a = some ⟨b, off, none⟩ ∧ ∀ i, (h : i < l.length) → w.cell? ⟨b, off + i, none⟩ = some (.int .u8 (l[i].toNat : Int))

theorem RB.conv {P : Program} {w : World} {src e dst : TypeId} {a : Option Addr} {l : List UInt8} {cap : Nat}
    (hs : P.underlying src = some (.slice e)) (he : P.underlying e = some (.int .u8)) (hd : P.underlying dst = some .string)
    (h : RB w a l) : (convert src dst (.slice a l.length cap)).run P w = .ok (.string ⟨l.toArray⟩) w := by
  rcases h with rfl | ⟨b, off, rfl, hc⟩
  · cases a with
    | none => exact run_convert_bytes_nil w src e hs he _ _ dst hd
    | some a =>
      rw [run_convert_bytes_string w src dst e _ _ cap hs he hd, List.length_nil, run_bytesToString w a 0 cap [] (run_loadCells_list (P := P) w a [] (by simp))]
      rfl
  · have hx := run_convert_bytes_arg w src e hs he b off l.length cap (l.map fun c => (c.toNat : Int)) (by simp) (fun i hi => by
      rw [hc i hi]
      simp [List.getD, List.getElem?_map, List.getElem?_eq_getElem hi]) dst hd
    rw [hx]
    congr 3
    simp [strOfNums, List.map_map, Function.comp_def]

theorem RB.of_own {w : World} {base : Nat} {e : TypeId} {a : Option Addr} {len cap : Nat} {l : List UInt8} (h : w.ownsRow base e 1 (.slice a len cap) l.length (bvs l)) : RB w a l := by
  rcases h.2 with ⟨h1, h2⟩ | ⟨g, cap', cur, h1, _⟩
  · exact Or.inl (List.eq_nil_iff_length_eq_zero.mpr h2)
  · have h' := h
    simp only [Value.slice.injEq] at h1
    obtain ⟨rfl, rfl, rfl⟩ := h1
    refine Or.inr ⟨g, 0, rfl, fun i hi => ?_⟩
    rw [show (0 + i) = i from by omega, h'.cellAt i (by omega), bvs_at l i hi]

theorem RB.below {w w' : World} (hb : Below w.heap.size w w') {a : Option Addr} {l : List UInt8} (h : RB w a l) : RB w' a l := by
  rcases h with rfl | ⟨b, off, rfl, hc⟩
  · exact Or.inl rfl
  · exact Or.inr ⟨b, off, rfl, fun i hi => below_cell hb (hc i hi)⟩

def u8s (zs : List Int) : List UInt8 := zs.map fun z => UInt8.ofNat z.toNat
theorem u8_back {z : Int} (h : (Lit.int .u8 z).wf = true) : ((UInt8.ofNat z.toNat).toNat : Int) = z := by
  have hx : 0 ≤ z ∧ z ≤ 255 := by simpa [Lit.wf, IntKind.min, IntKind.max, IntKind.signed, IntKind.bits] using h
  rw [UInt8.toNat_ofNat']
  omega

theorem IsRow.nil {k : IntKind} {w : World} {a : Option Addr} {len cap : Nat} {zs : List Int} (h : IsRow k w a len cap zs) : a = none → cap = 0 := by
  rcases h with ⟨_, _, h, _⟩ | ⟨x, rfl, _⟩
  · exact fun _ => h
  · intro h; cases h
/-- The bytes of a slice that came in. -/
theorem IsRow.rb {w : World} {a : Option Addr} {len cap : Nat} {zs : List Int} (h : IsRow .u8 w a len cap zs) :
    RB w a (u8s (zs.take len)) ∧ (u8s (zs.take len)).length = len ∧ len ≤ cap ∧ cap ≤ maxLen := by
  rcases h with ⟨rfl, rfl, rfl, rfl⟩ | ⟨x, rfl, hl, hm, hz, hc, hw⟩
  · exact ⟨Or.inl rfl, rfl, Nat.le_refl _, by unfold maxLen; omega⟩
  · have hlen : (u8s (zs.take len)).length = len := by simp [u8s]; omega
    refine ⟨?_, hlen, hl, hm⟩
    by_cases h0 : len = 0
    · exact Or.inl (List.eq_nil_iff_length_eq_zero.mpr (by omega))
    · obtain ⟨b, off, rfl, hcc⟩ := ints_at hc (by omega)
      refine Or.inr ⟨b, off, rfl, fun i hi => ?_⟩
      have hi' : i < zs.length := by omega
      rw [hcc i hi']
      simp only [u8s, List.getElem_map, List.getElem_take]
      rw [u8_back (hw _ (List.getElem_mem hi'))]
      simp [List.getD, List.getElem?_eq_getElem hi']

/-- 'out = append(out, src...)', out nil or the call's own row of bytes, src a row of bytes. -/
theorem append_bytes {P : Program} {w : World} {ops : Array Oper} {rest : List Oper} {o : Oper} {a : Act} {Q : Exit → Act → World → Prop} {t e : TypeId} {i : TypeInfo}
    (ht : P.underlying t = some (.slice e)) (hi : P.info? e = some i) (hz : i.zero = some (.int .u8 0)) (hsize : i.size = 1) (hby : i.bytes = 1)
    (hgd : o.guard = none) (s x : Operand) (ho : o.op = .call { callee := .builtin .append, args := #[s, x], argTypes := #[t, t] })
    (base : Nat) (v : Value) (l : List UInt8) (hs : a.eval s = v) (hown : w.ownsRow base e 1 v l.length (bvs l))
    (b off m c : Nat) (l2 : List UInt8) (hm : m = l2.length) (hx : a.eval x = .slice (some ⟨b, off, none⟩) m c)
    (hcell : ∀ i, (h : i < l2.length) → w.cell? ⟨b, off + i, none⟩ = some (.int .u8 (l2[i].toNat : Int)))
    (hlen : l.length + l2.length ≤ 140737488355328) (hbase : base ≤ w.heap.size)
    (h : ∀ (ad' : Option Addr) (cap' : Nat) w', Hid (w'.ownsRow base e 1 (.slice ad' (l.length + l2.length) cap') (l.length + l2.length) (bvs (l ++ l2))) → (∀ B wb, Below B wb w → B ≤ base → Below B wb w') →
      wpList P ops Q rest (a.put o.dst (.slice ad' (l.length + l2.length) cap')) w') :
    wpList P ops Q (o :: rest) a w := by
  subst hm
  refine wpList_append_own _ hgd s x t ho base e i (.int .u8 0) 1 1 ht hi hz hsize hby rfl (by decide) v l.length (bvs l) hs hown ⟨b, off, none⟩ l2.length c (bvs l2) hx (by rw [bvs_length]; omega) ?_ ?_ ?_ ?_ hbase ?_
  · intro j u hj
    have hj' : j < l2.length := by
      rcases Nat.lt_or_ge j l2.length with h | h
      · exact h
      · rw [List.getElem?_eq_none (by rw [bvs_length]; omega)] at hj; cases hj
    rw [bvs_at l2 j hj'] at hj
    have : (⟨b, off, none⟩ : Addr).add j = ⟨b, off + j, none⟩ := by unfold Addr.add; split <;> simp_all
    rw [this, hcell j hj', hj]
  · intro u hu
    simp only [bvs, List.mem_map] at hu
    obtain ⟨c, _, rfl⟩ := hu
    rfl
  · unfold maxLen; omega
  · omega
  · intro v' w' h2 h3 _
    have hv : ∃ ad' cap', v' = .slice ad' (l.length + l2.length) cap' := by
      rcases h2.2 with ⟨rfl, hn⟩ | ⟨g, cap, cur, rfl, _⟩
      · exact ⟨none, 0, by rw [hn]⟩
      · exact ⟨_, _, rfl⟩
    obtain ⟨ad', cap', rfl⟩ := hv
    refine h ad' cap' w' (Lib.hid ?_) ?_
    · rw [bvs_append]; exact h2
    · intro B wb hb hB
      exact hb.grown h3 (by omega) (fun k hk => by have := (hown.lt k hk).1; omega)

theorem cell_first_of_two (w : World) (cs : Array Value) (e : TypeId) (o : Obj) (j : Nat) : ((w.alloc (.cells cs e)).alloc o).cell? ⟨w.heap.size, j, none⟩ = cs[j]? := by
  refine cell_of_row _ w.heap.size j cs e (0, 0) ?_
  rw [Below.heap_alloc _ _ _ (by simp)]
  exact heap_alloc_new w _

theorem own_empty2 (w : World) (o : Obj) (e : TypeId) : ((w.alloc o).alloc (.cells #[] e)).ownsRow w.heap.size e 1 (.slice (some ⟨w.heap.size + 1, 0, none⟩) 0 0) ([] : List UInt8).length (bvs []) := by
  have h := World.ownsRow_lit (base := w.heap.size) (e := e) (size := 1) (w.alloc o) #[] 0 (by simp) (by unfold maxLen; omega) rfl
  rw [World.size_alloc] at h
  exact h
theorem own_empty1 (w : World) (e : TypeId) : (w.alloc (.cells #[] e)).ownsRow w.heap.size e 1 (.slice (some ⟨w.heap.size, 0, none⟩) 0 0) ([] : List UInt8).length (bvs []) :=
  World.ownsRow_lit (base := w.heap.size) (e := e) (size := 1) w #[] 0 (Nat.le_refl _) (by unfold maxLen; omega) rfl

theorem append_rb {P : Program} {w : World} {ops : Array Oper} {rest : List Oper} {o : Oper} {a : Act} {Q : Exit → Act → World → Prop} {t e : TypeId} {i : TypeInfo}
    (ht : P.underlying t = some (.slice e)) (hi : P.info? e = some i) (hz : i.zero = some (.int .u8 0)) (hsize : i.size = 1) (hby : i.bytes = 1)
    (hgd : o.guard = none) (s x : Operand) (ho : o.op = .call { callee := .builtin .append, args := #[s, x], argTypes := #[t, t] })
    (base : Nat) (ad0 : Option Addr) (cap0 : Nat) (l : List UInt8) (hs : a.eval s = .slice ad0 l.length cap0) (hown : w.ownsRow base e 1 (.slice ad0 l.length cap0) l.length (bvs l))
    (a2 : Option Addr) (l2 : List UInt8) (c : Nat) (hx : a.eval x = .slice a2 l2.length c) (hnil : a2 = none → c = 0) (hrb : RB w a2 l2)
    (hlen : l.length + l2.length ≤ 140737488355328) (hbase : base ≤ w.heap.size)
    (h : ∀ (ad' : Option Addr) (cap' : Nat) w', Hid (w'.ownsRow base e 1 (.slice ad' (l ++ l2).length cap') (l ++ l2).length (bvs (l ++ l2))) → (∀ B wb, Below B wb w → B ≤ base → Below B wb w') →
      wpList P ops Q rest (a.put o.dst (.slice ad' (l ++ l2).length cap')) w') :
    wpList P ops Q (o :: rest) a w := by
  cases a2 with
  | none =>
    have hl2 : l2 = [] := by
      rcases hrb with h | ⟨b, off, h, _⟩
      · exact h
      · cases h
    subst hl2
    have hc := hnil rfl
    subst hc
    refine wpList_append_own_none hgd s x t ho base e i 1 ht hi _ l.length (bvs l) hs hown hx ?_
    have h' := h ad0 cap0 w
    rw [List.append_nil] at h'
    exact h' hown (fun B wb hb _ => hb)
  | some ad =>
    refine wpList_append_own _ hgd s x t ho base e i (.int .u8 0) 1 1 ht hi hz hsize hby rfl (by decide) _ l.length (bvs l) hs hown ad l2.length c (bvs l2) hx (by rw [bvs_length]; omega) ?_ ?_ ?_ ?_ hbase ?_
    · intro j u hj
      have hj' : j < l2.length := by
        rcases Nat.lt_or_ge j l2.length with h | h
        · exact h
        · rw [List.getElem?_eq_none (by rw [bvs_length]; omega)] at hj; cases hj
      rw [bvs_at l2 j hj'] at hj
      rcases hrb with h | ⟨b, off, had, hcell⟩
      · rw [h] at hj'; cases hj'
      · cases had
        have : (⟨b, off, none⟩ : Addr).add j = ⟨b, off + j, none⟩ := by unfold Addr.add; split <;> simp_all
        rw [this, hcell j hj', hj]
    · intro u hu
      simp only [bvs, List.mem_map] at hu
      obtain ⟨c, _, rfl⟩ := hu
      rfl
    · unfold maxLen; omega
    · omega
    · intro v' w' h2 h3 _
      have hv : ∃ ad' cap', v' = .slice ad' (l.length + l2.length) cap' := by
        rcases h2.2 with ⟨rfl, hn⟩ | ⟨g, cap, cur, rfl, _⟩
        · exact ⟨none, 0, by rw [hn]⟩
        · exact ⟨_, _, rfl⟩
      obtain ⟨ad', cap', rfl⟩ := hv
      have hl : (l ++ l2).length = l.length + l2.length := List.length_append
      rw [← hl] at h2 ⊢
      refine h ad' cap' w' (Lib.hid ?_) ?_
      · rw [bvs_append]; exact h2
      · intro B wb hb hB
        exact hb.grown h3 (by omega) (fun k hk => by have := (hown.lt k hk).1; omega)

theorem own_empty3 (w : World) (o : Obj) (e : TypeId) : ((w.alloc o).alloc (.cells #[] e)).ownsRow (w.heap.size + 1) e 1 (.slice (some ⟨w.heap.size + 1, 0, none⟩) ([] : List UInt8).length 0) ([] : List UInt8).length (bvs []) := by
  have h := own_empty1 (w.alloc o) e
  rw [World.size_alloc] at h
  exact h
theorem RB.take {w : World} {a : Option Addr} {l : List UInt8} (n : Nat) (h : RB w a l) : RB w a (l.take n) := by
  rcases h with rfl | ⟨b, off, rfl, hc⟩
  · exact Or.inl (by simp)
  · refine Or.inr ⟨b, off, rfl, fun i hi => ?_⟩
    rw [hc i (by rw [List.length_take] at hi; omega)]
    simp

theorem own_nil {w : World} {base : Nat} {e : TypeId} {a : Option Addr} {n cap : Nat} {size : Nat} {xs : List Value} (h : w.ownsRow base e size (.slice a n cap) n xs) : a = none → cap = 0 := by
  rcases h.2 with ⟨h1, _⟩ | ⟨g, cap', cur, h1, _⟩
  · simp only [Value.slice.injEq] at h1
    exact fun _ => h1.2.2
  · simp only [Value.slice.injEq] at h1
    intro h; rw [h] at h1; simp at h1

theorem own_le {w : World} {base : Nat} {e : TypeId} {a : Option Addr} {n cap : Nat} {size : Nat} {xs : List Value} (h : w.ownsRow base e size (.slice a n cap) n xs) : n ≤ cap ∧ cap ≤ maxLen := by
  rcases h.2 with ⟨h1, h2⟩ | ⟨g, cap', cur, h1, _, _, h2, h3, _⟩
  · simp only [Value.slice.injEq] at h1
    exact ⟨by omega, by unfold maxLen; omega⟩
  · simp only [Value.slice.injEq] at h1
    obtain ⟨_, _, rfl⟩ := h1
    exact ⟨h2, h3⟩
end Mem
end Go.Proofs.YtdkgachgohilcaaDoor

namespace Go.Proofs.YtdkgachgohilcaaDoor
open Go.RowKit
namespace Arg

/-- What one cell may hold. -/
inductive Sh where
  | int (k : IntKind)
  | bool
  | str
  | slc (bytes : Nat) (es : List Sh)

mutual
/-- A value of one cell is of this shape; a slice's cells, spare ones too, are there. -/
def LeafOk (w : World) : Sh → Value → Prop
  | .int k, v => ∃ z, v = .int k z ∧ (Lit.int k z).wf = true
  | .bool, v => ∃ b, v = .bool b
  | .str, v => ∃ s, v = .string s ∧ s.size ≤ 140737488351232
  | .slc by' es, v => v = .slice none 0 0 ∨ ∃ a len cap, v = .slice (some a) len cap ∧ len ≤ cap ∧ cap ≤ maxLen ∧ cap * by' ≤ 140737488351232 ∧ ∀ i, i < cap → RowOk w es a (i * es.length)
/-- The cells from a place on. -/
def RowOk (w : World) : List Sh → Addr → Nat → Prop
  | [], _, _ => True
  | s :: r, a, o => (∃ v, w.cell? (a.add o) = some v ∧ LeafOk w s v) ∧ RowOk w r a (o + 1)
end

/-- Values, one by one. -/
def AllOk (w : World) : List Sh → List Value → Prop
  | [], [] => True
  | s :: r, v :: q => LeafOk w s v ∧ AllOk w r q
  | _, _ => False

theorem AllOk.len {w : World} : ∀ {ls : List Sh} {cs : List Value}, AllOk w ls cs → cs.length = ls.length
  | [], [], _ => rfl
  | _ :: _, _ :: _, h => by rw [List.length_cons, List.length_cons, AllOk.len h.2]
  | [], _ :: _, h => h.elim
  | _ :: _, [], h => h.elim
theorem AllOk.append {w : World} : ∀ {a : List Sh} {x : List Value} {b : List Sh} {y : List Value}, AllOk w a x → AllOk w b y → AllOk w (a ++ b) (x ++ y)
  | [], [], _, _, _, h => h
  | _ :: _, _ :: _, _, _, h, h' => ⟨h.1, AllOk.append h.2 h'⟩
  | [], _ :: _, _, _, h, _ => h.elim
  | _ :: _, [], _, _, h, _ => h.elim
theorem AllOk.row {w : World} (a : Addr) : ∀ {ls : List Sh} {cs : List Value} (o : Nat), AllOk w ls cs → (∀ i, i < cs.length → w.cell? (a.add (o + i)) = cs[i]?) → RowOk w ls a o
  | [], _, _, _, _ => by rw [RowOk]; trivial
  | s :: r, v :: q, o, h, hc => by
    rw [RowOk]
    refine ⟨⟨v, (hc 0 (by simp)).trans rfl, h.1⟩, AllOk.row a (o + 1) h.2 fun i hi => ?_⟩
    have := hc (i + 1) (by simpa using hi)
    rwa [show o + (i + 1) = o + 1 + i from by omega] at this
  | _ :: _, [], _, h, _ => h.elim

def fieldsL (P : Program) (L : TypeId → Option (List Sh)) : List Field → Nat → Option (List Sh)
  | [], _ => some []
  | f :: r, o => match L f.type with
    | none => none
    | some a => if f.offset = o ∧ P.cellsOf f.type = a.length then (fieldsL P L r (o + a.length)).map (a ++ ·) else none
/-- A type's leaves. -/
def leaves (P : Program) : Nat → TypeId → Option (List Sh)
  | 0, _ => none
  | n + 1, t => match P.underlying t with
    | some (.int k) => some [.int k]
    | some .bool => some [.bool]
    | some .string => some [.str]
    | some (.slice e) => match leaves P n e with
      | none => none
      | some es => if P.cellsOf e = es.length then some [.slc (P.bytesOf e) es] else none
    | some (.struct fs) => match fieldsL P (leaves P n) fs.toList 0 with
      | none => none
      | some ls => if P.cellsOf t = ls.length then some ls else none
    | _ => none

theorem weights_mem_all {H : Type} {P : Program} {e : TypeId} : ∀ {l : List (DataW H)} {d : DataW H}, d ∈ l → ∀ n ∈ d.weights P e, n ∈ DataW.weightsAll P e l
  | x :: r, d, hd, n, hn => by
    rw [DataW.weightsAll, List.mem_append]
    rcases List.mem_cons.mp hd with rfl | h
    · exact .inl hn
    · exact .inr (weights_mem_all h n hn)

section
variable {H : Type} {enc : TypeId × Value → H} {P : Program} {w : World} {base : Nat} {held : Bool}

theorem fields_ok {L : TypeId → Option (List Sh)} {cs : List Value} : ∀ {fs : List Field} {o : Nat} {ls : List Sh}, fieldsL P L fs o = some ls →
    (∀ f ∈ fs, ∀ a, L f.type = some a → AllOk w a ((cs.drop f.offset).take (P.cellsOf f.type))) → cs.length = o + ls.length → AllOk w ls (cs.drop o)
  | [], o, ls, h, _, hl => by
    simp only [fieldsL, Option.some.injEq] at h
    subst h
    rw [List.drop_of_length_le (by simp at hl; omega)]; exact trivial
  | f :: r, o, ls, h, hf, hl => by
    unfold fieldsL at h
    split at h
    · cases h
    · rename_i a ha
      split at h
      · rename_i hoc
        simp only [Option.map_eq_some_iff] at h
        obtain ⟨b, hb, rfl⟩ := h
        have h1 := hf f (List.mem_cons_self ..) a ha
        rw [hoc.1, hoc.2] at h1
        have h2 := fields_ok hb (fun g hg => hf g (List.mem_cons_of_mem _ hg)) (by rw [List.length_append] at hl; omega)
        have h3 := h1.append h2
        rwa [← List.drop_drop, List.take_append_drop] at h3
      · cases h

theorem trod_leaves : ∀ (n : Nat) (t : TypeId) (ls : List Sh), leaves P n t = some ls → ∀ {fuel : Nat} {cs : List Value} {x : DataW H × List MemPlace},
    DataW.trod enc P w base (fun _ => true) held fuel t cs = some x → (∀ q ∈ x.1.weights P t, q ≤ reachBytes) → AllOk w ls cs
  | 0, _, _, h, _, _, _, _, _ => by simp [leaves] at h
  | n + 1, t, ls, h, fuel, cs, x, ht, hw => by
    unfold leaves at h
    split at h
    · rename_i k hu
      simp only [Option.some.injEq] at h; subst h
      obtain ⟨z, rfl, _, hz⟩ := DataW.trod_int hu ht
      refine ⟨?_, trivial⟩
      rw [LeafOk]; exact ⟨z, rfl, hz⟩
    · rename_i hu
      simp only [Option.some.injEq] at h; subst h
      obtain ⟨z, rfl, _⟩ := DataW.trod_bool hu ht
      refine ⟨?_, trivial⟩
      rw [LeafOk]; exact ⟨z, rfl⟩
    · rename_i hu
      simp only [Option.some.injEq] at h; subst h
      obtain ⟨s, rfl, rfl, _⟩ := DataW.trod_string hu ht
      refine ⟨?_, trivial⟩
      rw [LeafOk]
      refine ⟨s, rfl, ?_⟩
      have := hw s.data.toList.length (by simp [DataW.weights])
      simpa [reachBytes] using this
    · rename_i e hu
      split at h
      · cases h
      · rename_i es hes
        split at h
        · rename_i hce
          simp only [Option.some.injEq] at h; subst h
          rcases Go.Deep.open_slice hu ht with ⟨rfl, _⟩ | ⟨a, len, cap, m, n', D, Pl, rfl, _, hl, hm, hmm, rfl, hi⟩
          · refine ⟨?_, trivial⟩
            rw [LeafOk]; exact .inl rfl
          · refine ⟨?_, trivial⟩
            rw [LeafOk]
            simp only [if_true] at hmm
            subst hmm
            refine .inr ⟨a, len, m, rfl, hl, hm, ?_, fun i hi' => ?_⟩
            · have := hw ((len + (m - len)) * P.bytesOf e) (by simp [DataW.weights, hu])
              rw [show len + (m - len) = m from by omega] at this
              simpa [reachBytes] using this
            · obtain ⟨cs', hc, ht'⟩ := hi i hi'
              obtain ⟨_, hcl, hat⟩ := World.cells?_some hc
              have hok := trod_leaves n e es hes ht' (fun q hq => hw q (by
                have hD : D i ∈ (List.range len).map D ∨ D i ∈ (List.range (m - len)).map (fun j => D (len + j)) := by
                  by_cases hil : i < len
                  · exact .inl (List.mem_map.mpr ⟨i, List.mem_range.mpr hil, rfl⟩)
                  · exact .inr (List.mem_map.mpr ⟨i - len, List.mem_range.mpr (by omega), by rw [show len + (i - len) = i from by omega]⟩)
                simp only [DataW.weights, hu, List.mem_cons, List.mem_append]
                rcases hD with hD | hD
                · exact .inr (.inl (weights_mem_all hD q hq))
                · exact .inr (.inr (weights_mem_all hD q hq))))
              refine hok.row a _ fun j hj => ?_
              rw [← hce, ← Go.Deep.add_add]
              exact hat j (by omega)
        · cases h
    · rename_i fs hu
      split at h
      · cases h
      · rename_i ls' hls
        split at h
        · rename_i hct
          simp only [Option.some.injEq] at h; subst h
          obtain ⟨xs, n', _, rfl, hcl, hxl, hg⟩ := DataW.trod_struct hu ht
          have h0 := fields_ok (w := w) (cs := cs) hls (fun f hf a ha => by
            obtain ⟨i, hi, hfi⟩ := List.getElem_of_mem hf
            have hi' : fs[i]? = some f := by
              rw [Array.getElem?_eq_getElem (by simpa using hi)]
              simpa using hfi
            have h1 := hg i f hi'
            have hxi : i < xs.length := by rw [hxl]; simpa using hi
            rw [List.getElem?_eq_getElem hxi] at h1
            refine trod_leaves n f.type a ha h1 (fun q hq => hw q ?_)
            simp only [DataW.weights, hu]
            refine DataW.weights_mem_each (j := i) (t := f.type) (d := xs[i].1) ?_ ?_ q hq
            · rw [List.getElem?_map, Array.getElem?_toList, hi']; rfl
            · rw [List.getElem?_map, List.getElem?_eq_getElem hxi]; rfl) (by omega)
          rwa [List.drop_zero] at h0
        · cases h
    · cases h
end

theorem sized {H : Type} {P : Program} {ts : List TypeId} {ds : List (DataW H)} (h : (DataW.weightsEach P ts ds).all (· ≤ reachBytes) = true) {j : Nat} {t : TypeId} {d : DataW H} (ht : ts[j]? = some t) (hd : ds[j]? = some d) : ∀ q ∈ d.weights P t, q ≤ reachBytes := fun q hq => by
  have := List.all_eq_true.1 h q (DataW.weights_mem_each ht hd q hq)
  simpa using this
theorem AllOk.cons {w : World} {s : Sh} {r : List Sh} {l : List Value} (h : AllOk w (s :: r) l) : ∃ v q, l = v :: q ∧ LeafOk w s v ∧ AllOk w r q := by
  cases l with
  | nil => exact h.elim
  | cons v q => exact ⟨v, q, rfl, h.1, h.2⟩
theorem AllOk.nil {w : World} {l : List Value} (h : AllOk w [] l) : l = [] := by
  cases l with
  | nil => rfl
  | cons v q => exact h.elim

/-- Of each of so many there is one: a list of them. -/
theorem list_of {α : Type} {Q : Nat → α → Prop} : ∀ n : Nat, (∀ i, i < n → ∃ x, Q i x) → ∃ l : List α, l.length = n ∧ ∀ i, (h : i < l.length) → Q i l[i]
  | 0, _ => ⟨[], rfl, fun i h => by simp at h⟩
  | n + 1, h => by
    obtain ⟨l, hl, hq⟩ := list_of n (fun i hi => h i (by omega))
    obtain ⟨x, hx⟩ := h n (by omega)
    refine ⟨l ++ [x], by simp [hl], fun i hi => ?_⟩
    rw [List.getElem_append]
    split
    · rename_i h'; exact hq i h'
    · rename_i h'
      have : i = n := by simp at hi; omega
      subst this
      simpa using hx
theorem add_none (b off i : Nat) : (⟨b, off, none⟩ : Addr).add i = ⟨b, off + i, none⟩ := by unfold Addr.add; split <;> simp_all

/-- The cells from a place of a block on. -/
def CellsOk (w : World) : List Sh → Nat → Nat → Prop
  | [], _, _ => True
  | s :: r, b, o => (∃ v, w.cell? ⟨b, o, none⟩ = some v ∧ LeafOk w s v) ∧ CellsOk w r b (o + 1)
theorem RowOk.cells {w : World} {b off : Nat} : ∀ {ls : List Sh} {o : Nat}, RowOk w ls ⟨b, off, none⟩ o → CellsOk w ls b (off + o)
  | [], _, _ => trivial
  | s :: r, o, h => by
    rw [RowOk, add_none] at h
    exact ⟨h.1, RowOk.cells (o := o + 1) h.2⟩

/-- A slice that came in, of whatever elements. -/
def Slc (w : World) (es : List Sh) (ad : Option Addr) (len cap : Nat) : Prop :=
  len ≤ cap ∧ cap ≤ maxLen ∧ (ad = none → cap = 0) ∧ (0 < cap → ∃ b off, ad = some ⟨b, off, none⟩ ∧ ∀ i, i < cap → CellsOk w es b (off + i * es.length))
theorem LeafOk.slc {w : World} {by' : Nat} {s : Sh} {es : List Sh} {v : Value} (h : LeafOk w (.slc by' (s :: es)) v) : ∃ ad len cap, v = .slice ad len cap ∧ cap * by' ≤ 140737488351232 ∧ Slc w (s :: es) ad len cap := by
  rw [LeafOk] at h
  rcases h with rfl | ⟨a, len, cap, rfl, hl, hm, hr, hc⟩
  · exact ⟨none, 0, 0, rfl, by omega, Nat.le_refl _, by unfold maxLen; omega, fun _ => rfl, fun h => absurd h (Nat.lt_irrefl _)⟩
  · refine ⟨some a, len, cap, rfl, hr, hl, hm, (fun h => by cases h), fun h0 => ?_⟩
    have h := hc 0 h0
    rw [RowOk, Nat.zero_mul] at h
    obtain ⟨⟨v, hv, _⟩, _⟩ := h
    have hs := World.cell?_spot hv
    obtain ⟨b, off, spot⟩ := a
    have hs' : spot = none := hs
    subst hs'
    exact ⟨b, off, rfl, fun i hi => (hc i hi).cells⟩
theorem LeafOk.int {w : World} {k : IntKind} {v : Value} (h : LeafOk w (.int k) v) : ∃ z, v = .int k z ∧ (Lit.int k z).wf = true := by rwa [LeafOk] at h
theorem LeafOk.bool {w : World} {v : Value} (h : LeafOk w .bool v) : ∃ b, v = .bool b := by rwa [LeafOk] at h
theorem LeafOk.str {w : World} {v : Value} (h : LeafOk w .str v) : ∃ s, v = .string s ∧ s.size ≤ 140737488351232 := by rwa [LeafOk] at h

/-- A row of elements, each told by its cells (k of them). -/
def RowL {α : Type} (k : Nat) (C : World → Nat → Nat → α → Prop) (w : World) (ad : Option Addr) (l : List α) : Prop :=
  l = [] ∨ ∃ b off, ad = some ⟨b, off, none⟩ ∧ ∀ i, (h : i < l.length) → C w b (off + i * k) l[i]
theorem Slc.row {α : Type} {C : World → Nat → Nat → α → Prop} {w : World} {s : Sh} {es : List Sh} {ad : Option Addr} {len cap : Nat} (h : Slc w (s :: es) ad len cap) (hC : ∀ b o, CellsOk w (s :: es) b o → ∃ x, C w b o x) :
    ∃ l : List α, l.length = len ∧ RowL (es.length + 1) C w ad l := by
  obtain ⟨hl, _, _, hc⟩ := h
  rcases Nat.eq_zero_or_pos cap with h0 | h0
  · exact ⟨[], by simp; omega, .inl rfl⟩
  · obtain ⟨b, off, rfl, hi⟩ := hc h0
    obtain ⟨l, hll, hq⟩ := list_of (Q := fun i x => C w b (off + i * (es.length + 1)) x) len (fun i hi' => hC b _ (hi i (by omega)))
    exact ⟨l, hll, .inr ⟨b, off, rfl, hq⟩⟩
/-- What the cells tell stands as long as their block does. -/
def Local {α : Type} (C : World → Nat → Nat → α → Prop) : Prop := ∀ w w' b o x, w'.heap[b]? = w.heap[b]? → C w b o x → C w' b o x
theorem RowL.kept {α : Type} {k : Nat} {C : World → Nat → Nat → α → Prop} (hC : Local C) {w w' : World} {ad : Option Addr} {l : List α} (h : RowL k C w ad l) (hb : ∀ b off, ad = some ⟨b, off, none⟩ → w'.heap[b]? = w.heap[b]?) : RowL k C w' ad l := by
  rcases h with h | ⟨b, off, rfl, hc⟩
  · exact .inl h
  · exact .inr ⟨b, off, rfl, fun i hi => hC w w' b _ _ (hb b off rfl) (hc i hi)⟩
end Arg
end Go.Proofs.YtdkgachgohilcaaDoor
