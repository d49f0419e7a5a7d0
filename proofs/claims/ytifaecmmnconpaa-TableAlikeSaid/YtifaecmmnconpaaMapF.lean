/- Maps as functions: what stands at a key, whatever the keys' and the elements' types. -/
import Derived.Maps.OwnSet
import Derived.DeepKeys4
import Derived.StringKeys
import Derived.WalkKit
import Derived.Lib.Hide
import Derived.Test.YtifaecmmnconpaaObj
namespace Go.Proofs.Ytifaecmmnconpaa
open Go.RowKit
set_option linter.unusedVariables false
namespace Mp
open Go.Maps

/-- An element is its own reading. -/
def Rv (v : Value) : Option (DataW Value × List MemPlace) := some (.held v, [])

/-- How keys lie in values. -/
structure Keys (P : Program) (k : TypeId) {α : Type} (enc : α → Value) (ok : α → Prop) : Prop where
  keyed : Keyed P k
  key : ∀ x, ok x → ∃ kl, keyOf P k (enc x) = some kl
  inj : ∀ x y, enc x = enc y → x = y

/-- Block b is a map of at most n entries: at each key that is ok stands what f says. -/
def MapF (P : Program) (k : TypeId) {α : Type} (enc : α → Value) (ok : α → Prop) (w : World) (b n : Nat) (f : α → Option Value) : Prop :=
  ∃ D : DataW Value, w.ownsMap P k Rv b n D ∧ ∀ x, ok x → ∀ kl, keyOf P k (enc x) = some kl → Maps.has D kl = (f x).isSome ∧ ∀ z, D.atKey kl (.held z) = .held ((f x).getD z)

section
variable {P : Program} {k : TypeId} {α : Type} {enc : α → Value} {ok : α → Prop} {w : World} {b n : Nat} {f : α → Option Value}

theorem MapF.made (w : World) : MapF P k enc ok (w.alloc (.map #[] 0)) w.heap.size 0 (fun _ => none) :=
  ⟨.map [], World.ownsMap_made w P k Rv, fun x _ kl _ => ⟨rfl, fun z => rfl⟩⟩
theorem MapF.lt (h : MapF P k enc ok w b n f) : b < w.heap.size := by obtain ⟨D, ho, _⟩ := h; exact ho.lt
theorem MapF.block {w' : World} (h : MapF P k enc ok w b n f) (hb : w'.heap[b]? = w.heap[b]?) : MapF P k enc ok w' b n f := by
  obtain ⟨D, ⟨es, clock, h1, h2⟩, hf⟩ := h
  exact ⟨D, ⟨es, clock, hb.trans h1, h2⟩, hf⟩
theorem MapF.below {w' : World} (h : MapF P k enc ok w b n f) (hb : Below w.heap.size w w') : MapF P k enc ok w' b n f := h.block (hb.block b h.lt)
theorem MapF.mono {n' : Nat} (h : MapF P k enc ok w b n f) (hn : n ≤ n') : MapF P k enc ok w b n' f := by
  obtain ⟨D, ho, hf⟩ := h; exact ⟨D, ho.mono hn, hf⟩
theorem MapF.congr {f' : α → Option Value} (h : MapF P k enc ok w b n f) (hf : ∀ x, ok x → f' x = f x) : MapF P k enc ok w b n f' := by
  obtain ⟨D, ho, h⟩ := h; exact ⟨D, ho, fun x hx => by rw [hf x hx]; exact h x hx⟩

theorem MapF.look (h : MapF P k enc ok w b n f) (K : Keys P k enc ok) {t e : TypeId} (ht : P.underlying t = some (.map k e)) {z : Value} (hz : (zeroValue e).run P w = .ok z w) {x : α} (hx : ok x) :
    (Instr.lookup t (.map (some b)) (enc x) false).run P w = .ok ((f x).getD z) w := by
  obtain ⟨D, ho, hf⟩ := h
  obtain ⟨kl, hk⟩ := K.key x hx
  obtain ⟨v, ps, hrun, hv⟩ := ho.lookup K.keyed ht hz (zd := .held z) (zp := []) rfl hk
  rw [(hf x hx kl hk).2 z] at hv
  simp only [Rv, Option.some.injEq, Prod.mk.injEq, DataW.held.injEq] at hv
  rw [hrun, hv.1]
theorem MapF.lookOk (h : MapF P k enc ok w b n f) (K : Keys P k enc ok) {t e : TypeId} (ht : P.underlying t = some (.map k e)) {z : Value} (hz : (zeroValue e).run P w = .ok z w) {x : α} (hx : ok x) :
    (Instr.lookup t (.map (some b)) (enc x) true).run P w = .ok (.tuple #[(f x).getD z, .bool (f x).isSome]) w := by
  obtain ⟨D, ho, hf⟩ := h
  obtain ⟨kl, hk⟩ := K.key x hx
  obtain ⟨v, ps, hrun, hv⟩ := ho.look_ok K.keyed ht hz (zd := .held z) (zp := []) rfl hk
  rw [(hf x hx kl hk).2 z] at hv
  simp only [Rv, Option.some.injEq, Prod.mk.injEq, DataW.held.injEq] at hv
  rw [hrun, hv.1, (hf x hx kl hk).1]

theorem key_ne (K : Keys P k enc ok) {x y : α} {kl kl' : Lit} (h : keyOf P k (enc x) = some kl) (h' : keyOf P k (enc y) = some kl') (hne : y ≠ x) : kl' ≠ kl := fun e => by
  subst e
  exact hne (K.inj _ _ (K.keyed.inj h' h))
theorem MapF.store [DecidableEq α] (h : MapF P k enc ok w b n f) (K : Keys P k enc ok) {t e : TypeId} (ht : P.underlying t = some (.map k e)) (hn : n < maxLen) {x : α} (hx : ok x) (v : Value) :
    ∃ w', (Instr.mapUpdate t (.map (some b)) (enc x) v).run P w = .ok () w' ∧ MapF P k enc ok w' b (n + 1) (fun y => if y = x then some v else f y) ∧ w.mapTurned w' b := by
  obtain ⟨D, ho, hf⟩ := h
  obtain ⟨kl, hk⟩ := K.key x hx
  obtain ⟨w', hrun, ho', ht'⟩ := ho.store K.keyed ht hn hk (d := .held v) (ps := []) rfl
  refine ⟨w', hrun, ⟨_, ho', fun y hy kl' hk' => ?_⟩, ht'⟩
  by_cases e : y = x
  · subst e
    rw [hk] at hk'
    simp only [Option.some.injEq] at hk'
    subst hk'
    simp only [if_pos]
    exact ⟨has_put_same ho.isMap (K.keyed.key hk) _, fun z => atKey_put_same ho.isMap (K.keyed.key hk) _ _⟩
  · simp only [if_neg e]
    have hne := key_ne K hk hk' e
    rw [has_put_other hne]
    exact ⟨(hf y hy kl' hk').1, fun z => by rw [atKey_put_other hne]; exact (hf y hy kl' hk').2 z⟩
theorem MapF.drop [DecidableEq α] (h : MapF P k enc ok w b n f) (K : Keys P k enc ok) {t e : TypeId} (ht : P.underlying t = some (.map k e)) {x : α} (hx : ok x) (ty : TypeId) :
    ∃ w', (Builtin.delete_ #[t, k] ty #[.map (some b), enc x]).run P w = .ok (.tuple #[]) w' ∧ MapF P k enc ok w' b n (fun y => if y = x then none else f y) ∧ w.mapTurned w' b := by
  obtain ⟨D, ho, hf⟩ := h
  obtain ⟨kl, hk⟩ := K.key x hx
  obtain ⟨w', hrun, ho', ht'⟩ := ho.drop K.keyed ht hk ty
  refine ⟨w', hrun, ⟨_, ho', fun y hy kl' hk' => ?_⟩, ht'⟩
  by_cases e : y = x
  · subst e
    rw [hk] at hk'
    simp only [Option.some.injEq] at hk'
    subst hk'
    simp only [if_pos]
    exact ⟨has_del_same, fun z => atKey_del_same _⟩
  · simp only [if_neg e]
    have hne := key_ne K hk hk' e
    rw [has_del_other hne]
    exact ⟨(hf y hy kl' hk').1, fun z => by rw [atKey_del_other hne]; exact (hf y hy kl' hk').2 z⟩
end

/-! ### whose keys -/
/-- Texts. -/
theorem keys_string {P : Program} {k : TypeId} (hk : P.underlying k = some .string) : Keys P k (fun s : ByteArray => Value.string s) (fun s => s.size ≤ maxLen) where
  keyed := string_keyed hk
  key x hx := ⟨_, WideMaps.keyOf_string_mk hk hx⟩
  inj x y h := by simpa using h
/-- Two texts. -/
theorem keys_two {P : Program} {k s : TypeId} (hl : laidOutB P = true) {m : Nat} (hm : m + 1 ≤ 10000) (hrow : k < P.types.size) (hk : P.keyTypeAt m k = true) (hk2 : P.keyType k = true) {fs : Array Field} (hu : P.underlying k = some (.struct fs)) (hc : P.cellsOf k = 2) (hs : P.underlying s = some .string) (hcs : P.cellsOf s = 1)
    (hn : fs.all (·.name != "_") = true) (hfs : fs.toList.map (fun f => (f.type, f.offset)) = [(s, 0), (s, 1)]) (hsz : 0 < P.types.size) :
    Keys P k (fun p : ByteArray × ByteArray => Value.agg #[.string p.1, .string p.2]) (fun p => p.1.size ≤ maxLen ∧ p.2.size ≤ maxLen) where
  keyed := Keyed.of_law (deep_law_laid hl hm hrow hk (by simp [hu]))
  key := by
    rintro ⟨a, b⟩ ⟨ha, hb⟩
    simp only at ha hb
    have hf : (Value.agg #[.string a, .string b]).formed P k = true := by simp [Value.formed, hu, hc]
    obtain ⟨d, hd⟩ : ∃ d, P.types.size = d + 1 := ⟨P.types.size - 1, by omega⟩
    have hlits : P.keyLits (P.types.size + 1) k (Value.agg #[.string a, .string b]).cells.toList = some [.string a.data.toList, .string b.data.toList] := by
      have hcells : (Value.agg #[.string a, .string b]).cells.toList = [.string a, .string b] := rfl
      rw [hcells]
      unfold Program.keyLits
      simp only [hu, hc, List.length_cons, List.length_nil, hn, and_self, if_true]
      have e : fs.toList.mapM (fun f => P.keyLits P.types.size f.type (([Value.string a, .string b].drop f.offset).take (P.cellsOf f.type)))
          = (fs.toList.map (fun f => (f.type, f.offset))).mapM (fun q => P.keyLits P.types.size q.1 (([Value.string a, .string b].drop q.2).take (P.cellsOf q.1))) := by
        rw [List.mapM_map]; rfl
      rw [e, hfs, hd]
      simp [hcs, Program.keyLits, hs, ha, hb]
    refine ⟨.string (keyBytes [.string a.data.toList, .string b.data.toList]), ?_⟩
    unfold keyOf
    rw [hu]
    simp only [hk2, hf, Bool.and_self, if_true, hlits, Option.map_some]
  inj := by
    rintro ⟨a, b⟩ ⟨c, d⟩ h
    simpa using h

/-- The world behind a map's turn. -/
theorem turned_kept {L : List Nat} {a w w' : World} {b : Nat} (h : Obj.Kept L a w) (ht : w.mapTurned w' b) (hb : b ∈ L ∨ a.heap.size ≤ b) : Obj.Kept L a w' :=
  h.grown ht.grown (fun k hk => by simp only [Option.some.injEq] at hk; subst hk; exact hb)
theorem turned_block {w w' : World} {b k : Nat} (ht : w.mapTurned w' b) (hk : k < w.heap.size) (hne : k ≠ b) : w'.heap[k]? = w.heap[k]? :=
  ht.grown.block k hk (fun e => hne (by simpa using e))
/-- 'delete(m, k)' whose run is known, as a step of a region that draws its order. -/
theorem step_delete {P : Program} {ops : Array Oper} {o : Oper} {a : Act} {w w' : World} {K : Act → World → Prop} {Q : Exit → Act → World → Prop} {E : Prop}
    (hg : o.guard = none) (m x : Operand) (t k : TypeId) (hop : o.op = Op.call { callee := Callee.builtin Builtin.delete, args := #[m, x], argTypes := #[t, k] })
    (mv xv r : Value) (hm : a.eval m = mv) (hx : a.eval x = xv) (hrun : (Builtin.delete_ #[t, k] o.type #[mv, xv]).run P w = .ok r w') (hK : K (a.put o.dst r) w') :
    if Region.wanted o (yielded ops a.tmps) = true then Oper.wp P o a w K Q else E := by
  have hw : Region.wanted o (yielded ops a.tmps) = true := by simp [Region.wanted, hg]
  rw [if_pos hw]
  unfold Oper.wp
  simp [execOp, hop, resolve, invoke, builtin, hm, hx, hrun, Result.andThen]
  exact hK
end Mp
end Go.Proofs.Ytifaecmmnconpaa
