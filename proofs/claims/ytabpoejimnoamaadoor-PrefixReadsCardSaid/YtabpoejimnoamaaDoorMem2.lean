/- Appending to a row of bytes of the call's own, the new row under one name. -/
import Derived.Test.YtabpoejimnoamaaDoorRows
import Derived.Test.YtabpoejimnoamaaDoorMem
import Derived.Lib.AppendStr
namespace Go.Proofs.YtabpoejimnoamaaDoor
open Go.RowKit
namespace Mem

theorem append_rb3 {P : Program} {w : World} {ops : Array Oper} {rest : List Oper} {o : Oper} {a : Act} {Q : Exit → Act → World → Prop} {t e : TypeId} {i : TypeInfo}
    (ht : P.underlying t = some (.slice e)) (hi : P.info? e = some i) (hz : i.zero = some (.int .u8 0)) (hsize : i.size = 1) (hby : i.bytes = 1)
    (hgd : o.guard = none) (s x : Operand) (ho : o.op = .call { callee := .builtin .append, args := #[s, x], argTypes := #[t, t] })
    (base : Nat) (ad0 : Option Addr) (cap0 : Nat) (l : List UInt8) (hs : a.eval s = .slice ad0 l.length cap0) (hown : w.ownsRow base e 1 (.slice ad0 l.length cap0) l.length (bvs l))
    (a2 : Option Addr) (l2 : List UInt8) (c : Nat) (hx : a.eval x = .slice a2 l2.length c) (hnil : a2 = none → c = 0) (hrb : RB w a2 l2)
    (l3 : List UInt8) (hl3 : l3 = l ++ l2) (hlen : l3.length ≤ 140737488355328) (hbase : base ≤ w.heap.size)
    (h : ∀ (ad' : Option Addr) (cap' : Nat) w', Hid (w'.ownsRow base e 1 (.slice ad' l3.length cap') l3.length (bvs l3)) → (∀ B wb, Below B wb w → B ≤ base → Below B wb w') →
      wpList P ops Q rest (a.put o.dst (.slice ad' l3.length cap')) w') :
    wpList P ops Q (o :: rest) a w := by
  subst hl3
  exact append_rb ht hi hz hsize hby hgd s x ho base ad0 cap0 l hs hown a2 l2 c hx hnil hrb (by rw [← List.length_append]; exact hlen) hbase h

theorem append_byte3 {P : Program} {w : World} {ops : Array Oper} {rest : List Oper} {o : Oper} {a : Act} {Q : Exit → Act → World → Prop} {t e : TypeId} {i : TypeInfo}
    (ht : P.underlying t = some (.slice e)) (hi : P.info? e = some i) (hz : i.zero = some (.int .u8 0)) (hsize : i.size = 1) (hby : i.bytes = 1)
    (hgd : o.guard = none) (s x : Operand) (ho : o.op = .call { callee := .builtin .append, args := #[s, x], argTypes := #[t, t] })
    (base : Nat) (v : Value) (l : List UInt8) (u : UInt8) (c : Int) (hc : c = (u.toNat : Int)) (hs : a.eval s = v) (hown : w.ownsRow base e 1 v l.length (bvs l))
    (hx : a.eval x = .slice (some ⟨w.heap.size, 0, none⟩) 1 1) (l3 : List UInt8) (hl3 : l3 = l ++ [u]) (hlen : l3.length ≤ 140737488355328) (hbase : base ≤ w.heap.size)
    (h : ∀ (ad' : Option Addr) (cap' : Nat) w', Hid (w'.ownsRow base e 1 (.slice ad' l3.length cap') l3.length (bvs l3)) → (∀ B wb, Below B wb w → B ≤ base → Below B wb w') → wpList P ops Q rest (a.put o.dst (.slice ad' l3.length cap')) w') :
    wpList P ops Q (o :: rest) a (w.alloc (.cells #[.int .u8 c] e)) := by
  subst hl3
  have hl : (l ++ [u]).length = l.length + 1 := by rw [List.length_append]; rfl
  refine append_byte ht hi hz hsize hby hgd s x ho base v l u c hc hs hown hx (by rw [← hl]; exact hlen) hbase fun v' w' ho' hb' => ?_
  have hv : ∃ ad cap, v' = .slice ad (l.length + 1) cap := by
    rcases ho'.out.2 with ⟨rfl, hn⟩ | ⟨g, cap, cur, rfl, _⟩
    · exact ⟨none, 0, by rw [hn]⟩
    · exact ⟨_, _, rfl⟩
  obtain ⟨ad, cap, rfl⟩ := hv
  have h' := h ad cap w'
  rw [hl] at h'
  exact h' ho' hb'

/-- A row of the call's own is one from a lower base on. -/
theorem own_base {w : World} {b b' : Nat} {e : TypeId} {size : Nat} {v : Value} {n : Nat} {xs : List Value} (h : w.ownsRow b e size v n xs) (hb : b' ≤ b) : w.ownsRow b' e size v n xs := by
  obtain ⟨hl, h | ⟨g, cap, cur, hv, hg, hr⟩⟩ := h
  · exact ⟨hl, .inl h⟩
  · exact ⟨hl, .inr ⟨g, cap, cur, hv, Nat.le_trans hb hg, hr⟩⟩

theorem strCells_bvs (s : ByteArray) : Lib.strCells s = bvs s.data.toList := rfl

/-- 'out = append(out, s...)', s a text. -/
theorem append_str3 {P : Program} {w : World} {ops : Array Oper} {rest : List Oper} {o : Oper} {a : Act} {Q : Exit → Act → World → Prop} {t u e : TypeId} {i : TypeInfo}
    (ht : P.underlying t = some (.slice e)) (hu : P.underlying u = some .string) (hi : P.info? e = some i) (hz : i.zero = some (.int .u8 0)) (hsize : i.size = 1) (hby : i.bytes = 1)
    (hgd : o.guard = none) (sl x : Operand) (ho : o.op = .call { callee := .builtin .append, args := #[sl, x], argTypes := #[t, u] })
    (base : Nat) (v : Value) (l : List UInt8) (hs : a.eval sl = v) (hown : w.ownsRow base e 1 v l.length (bvs l))
    (s : ByteArray) (hx : a.eval x = .string s) (l3 : List UInt8) (hl3 : l3 = l ++ s.data.toList) (hlen : l3.length ≤ 140737488355328) (hbase : base ≤ w.heap.size)
    (h : ∀ (ad' : Option Addr) (cap' : Nat) w', Hid (w'.ownsRow base e 1 (.slice ad' l3.length cap') l3.length (bvs l3)) → (∀ B wb, Below B wb w → B ≤ base → Below B wb w') → wpList P ops Q rest (a.put o.dst (.slice ad' l3.length cap')) w') :
    wpList P ops Q (o :: rest) a w := by
  subst hl3
  have hl : (l ++ s.data.toList).length = l.length + s.size := by simp
  rw [hl] at hlen
  refine Lib.wpList_append_own_string w hgd sl x t u ho base e i ht hu hi hz hsize hby v l.length (bvs l) hs hown s hx (by unfold maxLen; omega) hlen hbase fun v' w' ho' hg' _ => ?_
  have hv : ∃ ad cap, v' = .slice ad (l.length + s.size) cap := by
    rcases ho'.2 with ⟨rfl, hn⟩ | ⟨g, cap, cur, rfl, _⟩
    · exact ⟨none, 0, by rw [hn]⟩
    · exact ⟨_, _, rfl⟩
  obtain ⟨ad, cap, rfl⟩ := hv
  have h' := h ad cap w'
  rw [hl] at h'
  refine h' (Lib.hid ?_) (fun B wb hb hB => hb.grown hg' (by omega) (fun k hk => by have := (hown.lt k hk).1; omega))
  rw [bvs_append, ← strCells_bvs]
  exact ho'
end Mem
end Go.Proofs.YtabpoejimnoamaaDoor
