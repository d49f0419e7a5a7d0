/- The contracts of layer 4's program, under one roof. Layer 5: the program's writing: numbers and texts. Layer 5: the program's writing: fields, each in its way. A function walked statement by statement: each region a declaration of its own, over whatever frame; put together by the laws of control. -/
import Derived.Test.YtdkgachgohilcaaDoorGP08
import Derived.Test.YtdkgachgohilcaaDoorGP10
import Derived.Test.YtdkgachgohilcaaDoorGP11
import Derived.Test.YtdkgachgohilcaaDoorGP12
import Derived.Test.YtdkgachgohilcaaDoorGP13
import Derived.Test.YtdkgachgohilcaaDoorGP04
import Derived.Test.YtdkgachgohilcaaDoorGP06
import Derived.WalkKit
import Derived.WalkSpells
import Derived.WalkLawsBesides
import Derived.Lib.Hide
import Derived.IntWalk
import Derived.Deep.RegionHeld3
set_option linter.unusedVariables false
set_option linter.unusedSimpArgs false


namespace Go.Proofs.YtdkgachgohilcaaDoor
open Go.RowKit
open Huf Pre Tab Hpk Arg Mem Gen Wr Go.Proofs.YtdkgachgohilcaaDoor.Obj
set_option linter.unusedVariables false

theorem putT_len (s : List UInt8) : (putT s).length ≤ s.length + 6 := by
  rw [putT]
  split
  · rename_i h
    have h1 := putI_len 128 7 (enc s).length
    have h2 : (enc s).length = sizeV s := by rw [enc_length]; rfl
    simp only [List.length_append]; omega
  · have h1 := putI_len 0 7 s.length
    simp only [List.length_append]; omega
theorem putT_ne (s : List UInt8) : putT s ≠ [] := fun h => by have := putT_pos s; rw [h] at this; simp at this
theorem putI_ne (f k n : Nat) : putI f k n ≠ [] := fun h => by have := (putI_len f k n).1; rw [h] at this; simp at this

/-- The program's block that is being written: its table, its bytes in a row of the call's own. -/
structure WSt (B : Nat) (L : List Nat) (wb t : Nat) (out : List UInt8) (w : World) : Prop where
  ex : ∃ oa oc, w.heap[wb]? = some (.cells #[.pointer (some ⟨t, 0, none⟩), .slice oa out.length oc] 86 (0, 0)) ∧ OutB B L oa oc out w ∧ ∀ o s, oa ≠ some ⟨wb, o, s⟩
  lo : B ≤ wb
  no : wb ∉ L
theorem WSt.lt {B wb t : Nat} {L : List Nat} {out : List UInt8} {w : World} (h : WSt B L wb t out w) : wb < w.heap.size := by
  obtain ⟨oa, oc, hh, _⟩ := h.ex; exact (Array.getElem?_eq_some_iff.1 hh).1
theorem WSt.stand {B wb t : Nat} {L L' : List Nat} {out : List UInt8} {w w' : World} (h : WSt B L wb t out w) (hk : Kept L w w') (hL : ∀ k ∈ L', k ∈ L ∨ w.heap.size ≤ k) : WSt B L' wb t out w' := by
  have hlt := h.lt
  obtain ⟨⟨oa, oc, hh, ho, hne⟩, h1, h2⟩ := h
  refine ⟨⟨oa, oc, hk.at hh h2, ho.kept hk hL, hne⟩, h1, fun hm => ?_⟩
  rcases hL wb hm with h3 | h3
  · exact h2 h3
  · omega
theorem WSt.below {B wb t : Nat} {L : List Nat} {out : List UInt8} {w w' : World} (h : WSt B L wb t out w) (hb : Below w.heap.size w w') : WSt B L wb t out w' :=
  h.stand (Kept.of_below hb) (fun k hk => .inl hk)
theorem WSt.cell4 {B wb t : Nat} {L : List Nat} {out l3 : List UInt8} {w w' : World} {oa oa' : Option Addr} {oc oc' : Nat} (hh : w.heap[wb]? = some (.cells #[.pointer (some ⟨t, 0, none⟩), .slice oa out.length oc] 86 (0, 0))) (hne : ∀ o s, oa ≠ some ⟨wb, o, s⟩) (hG : Grew B L w oa oa' oc' l3 w') :
    w'.cell? ⟨wb, 1, none⟩ = some (.slice oa out.length oc) ∧ w'.frozen? ⟨wb, 1, none⟩ = false := by
  have hh' : w'.heap[wb]? = _ := (hG.blk wb (Array.getElem?_eq_some_iff.1 hh).1 hne).trans hh
  exact ⟨cell_at hh' 1, frozen_of_row _ _ 1 _ _ hh'⟩
/-- The bytes have grown, and are stored. -/
theorem WSt.stored {B wb t : Nat} {L : List Nat} {out l3 : List UInt8} {w w' : World} {oa oa' : Option Addr} {oc oc' : Nat} (hh : w.heap[wb]? = some (.cells #[.pointer (some ⟨t, 0, none⟩), .slice oa out.length oc] 86 (0, 0))) (hne : ∀ o s, oa ≠ some ⟨wb, o, s⟩) (h1 : B ≤ wb) (h2 : wb ∉ L) (hG : Grew B L w oa oa' oc' l3 w') :
    WSt B L wb t l3 (w'.setCell ⟨wb, 1, none⟩ (.slice oa' l3.length oc')) ∧ Std B L w (w'.setCell ⟨wb, 1, none⟩ (.slice oa' l3.length oc')) := by
  have hlt := (Array.getElem?_eq_some_iff.1 hh).1
  have hh' : w'.heap[wb]? = _ := (hG.blk wb hlt hne).trans hh
  have hne' : ∀ o s, oa' ≠ some ⟨wb, o, s⟩ := fun o s e => by
    rcases hG.new wb o s e with ⟨o', e'⟩ | h3
    · exact hne o' none e'
    · omega
  have hset := heap_setCell_same w' wb 1 _ _ (.slice oa' l3.length oc') hh'
  refine ⟨⟨⟨oa', oc', hset, hG.out.stand (by simp [World.setCell]) (fun b o s e => Below.heap_setCell _ _ _ _ (fun e2 => hne' o s (by simp only at e2; subst e2; exact e))) (fun k hk => .inl hk), hne'⟩, h1, h2⟩, hG.std.setCell h1 h2 _⟩

set_option maxRecDepth 100000 in
set_option maxHeartbeats 1000000 in
theorem pwnum_any (B : Nat) (L : List Nat) (wb t : Nat) (out : List UInt8) (fl k n : Nat) (w : World) (h : WSt B L wb t out w) (hB : B ≤ w.heap.size) (hL : ∀ k ∈ L, k < w.heap.size) (hf : fl < 256) (h1 : 1 ≤ k) (h8 : k ≤ 8) (hfk : fl % 2 ^ k = 0) (hn : n < 4294967296) (hlen : out.length ≤ 1000000000) :
    Calls Tryd.prog 62 #[.pointer (some ⟨wb, 0, none⟩), .int .u8 fl, .int .i64 k, .int .i64 n] w fun e w' => e = .returned (.tuple #[]) ∧ WSt B L wb t (out ++ putI fl k n) w' ∧ Std B L w w' := by
  have HP := Lib.hid (fun v => pputint_ok fl k n v hf h1 h8 hfk hn)
  have hpl := putI_len fl k n
  have HNe := Lib.hid (putI_ne fl k n)
  generalize putI fl k n = Y at HP hpl HNe
  have HH := Lib.hid h
  have HLt := Lib.hid hL
  have hu0 : IntKind.u32.wrap (n : Int) = (n : Int) % 4294967296 := rfl
  have hu : IntKind.u32.wrap (n : Int) = n := by rw [hu0]; omega
  clear hu0
  clear h hL
  go_enter Tryd.func62, Tryd.ntmps62
  go_wp2_with fail
  refine (HP.out _).mono ?_; rintro e w1 ⟨ad, cp, rfl, hown, b1⟩
  have HR : Hid (RB w1 ad Y) := Lib.hid (RB.of_own hown.out)
  have h2 := HH.out.below b1
  obtain ⟨⟨oa, oc, hh, ho, hne⟩, hlo, hno⟩ := h2
  have c1 := cell_at hh 1
  have z1 := frozen_of_row _ _ 1 _ _ hh
  have HX := Lib.hid (⟨hh, ho, hne, hlo, hno⟩ : _ ∧ _ ∧ _ ∧ _ ∧ _)
  have HBs : Hid (B ≤ w1.heap.size ∧ ∀ k ∈ L, k < w1.heap.size) := Lib.hid ⟨Nat.le_trans hB b1.size, fun k hk => Nat.lt_of_lt_of_le (HLt.out k hk) b1.size⟩
  have HB1 := Lib.hid b1
  obtain ⟨Z, hZ⟩ : ∃ Z, Z = out ++ Y := ⟨_, rfl⟩
  have hZl : Z.length ≤ 140737488355328 := by rw [hZ, List.length_append]; omega
  have HZ := Lib.hid hZ
  have hinfo := Lib.hid info_u8
  clear hh ho hne hown b1 hZ
  go_wp2_with (at_builtin; refine wl_bytes Tryd.underlying24 hinfo.out rfl (.tmp 22) (.tmp 23) rfl rfl rfl HX.out.2.1 HBs.out.1 HBs.out.2 rfl rfl HNe.out HR.out Z HZ.out hZl ?_; intro oa' oc' w4 hG; obtain ⟨q1, y1⟩ := WSt.cell4 HX.out.1 HX.out.2.2.1 hG.out; clear c1 z1)
  go_end0
  obtain ⟨r1, r2⟩ := WSt.stored HX.out.1 HX.out.2.2.1 hlo hno hG.out
  rw [← HZ.out]
  exact ⟨rfl, r1, (Std.of_below HB1.out).trans r2⟩

set_option maxRecDepth 100000 in
set_option maxHeartbeats 1000000 in
theorem pwtext_any (B : Nat) (L : List Nat) (wb t : Nat) (out : List UInt8) (s : ByteArray) (w : World) (h : WSt B L wb t out w) (hB : B ≤ w.heap.size) (hL : ∀ k ∈ L, k < w.heap.size) (hs : s.size ≤ 1048576) (hg : GrpIs w) (hlen : out.length ≤ 1000000000) :
    Calls Tryd.prog 103 #[.pointer (some ⟨wb, 0, none⟩), .string s] w fun e w' => e = .returned (.tuple #[]) ∧ WSt B L wb t (out ++ putT (txt s)) w' ∧ Std B L w w' := by
  have HP := Lib.hid (fun v (hv : Below w.heap.size w v) => pputtext_any s v hs (hg.below hv))
  have hpl := putT_len (txt s)
  have hts : (txt s).length = s.size := rfl
  have HNe := Lib.hid (putT_ne (txt s))
  change Hid (∀ v, Below w.heap.size w v → Calls Tryd.prog 105 #[.string s] v (MadeB v (putT (txt s)))) at HP
  generalize putT (txt s) = Y at HP hpl HNe
  have HH := Lib.hid h
  have HLt := Lib.hid (fun v (hv : Below w.heap.size w v) => (⟨Nat.le_trans hB hv.size, fun k hk => Nat.lt_of_lt_of_le (hL k hk) hv.size⟩ : B ≤ v.heap.size ∧ ∀ k ∈ L, k < v.heap.size))
  have hinfo := Lib.hid info_u8
  obtain ⟨Z, hZ⟩ : ∃ Z, Z = out ++ Y := ⟨_, rfl⟩
  have hZl : Z.length ≤ 140737488355328 := by rw [hZ, List.length_append]; omega
  have HZ := Lib.hid hZ
  rw [← hZ]
  obtain ⟨⟨oa, oc, hh, ho, hne⟩, hlo, hno⟩ := h
  have HX := Lib.hid (⟨hh, ho, hne⟩ : _ ∧ _ ∧ _)
  have c1 := cell_at hh 1
  have c1' : w.drew.cell? ⟨wb, 1, none⟩ = some (.slice oa out.length oc) := c1
  have HFin : Hid (∀ v oa' oc' v4, Below w.heap.size w v → Grew B L v oa oa' oc' Z v4 → WSt B L wb t Z (v4.setCell ⟨wb, 1, none⟩ (.slice oa' Z.length oc')) ∧ Std B L w (v4.setCell ⟨wb, 1, none⟩ (.slice oa' Z.length oc'))) := Lib.hid (fun v oa' oc' v4 hv hG => by
    have hh' := block_below hv hh
    obtain ⟨r1, r2⟩ := WSt.stored hh' hne hlo hno hG
    exact ⟨r1, (Std.of_below hv).trans r2⟩)
  have HC4 : Hid (∀ v oa' oc' v4, Below w.heap.size w v → Grew B L v oa oa' oc' Z v4 → v4.cell? ⟨wb, 1, none⟩ = some (.slice oa out.length oc) ∧ v4.frozen? ⟨wb, 1, none⟩ = false) := Lib.hid (fun v oa' oc' v4 hv hG => WSt.cell4 (block_below hv hh) hne hG)
  have HOut : Hid (∀ v, Below w.heap.size w v → OutB B L oa oc out v) := Lib.hid (fun v hv => ho.below hv)
  have hb : Below w.heap.size w w.drew := (Below.refl _ _).drew
  have HI : Hid (∀ v, (callFunc 105 #[.string s]).run Tryd.prog v = .ok (.enter 105 #[.string s]) v) := Lib.hid (fun v => by simp [go_sem])
  clear HX HH hh ho hne hZ hL hg
  go_enter Tryd.func103, Tryd.ntmps103
  go_region_law (first
    | (refine step_bytes Tryd.underlying24 hinfo.out rfl (.tmp 8) (.tmp 10) rfl rfl rfl (HOut.out _ hb1) (HLt.out _ hb1).1 (HLt.out _ hb1).2 rfl rfl HNe.out HR.out Z HZ.out hZl ?_; intro oa' oc' w4 hG; obtain ⟨q1, y1⟩ := HC4.out _ _ _ _ hb1 hG.out)
    | (refine step_call rfl 105 [.tmp 9] _ rfl [.string s] rfl HI.out (HP.out _ hb) ?_; rintro e w1 ⟨ad, cp, rfl, hown, b1⟩; refine ⟨_, rfl, ?_⟩; have hb1 := below_step hb b1; have c2 := below_cell b1 c1'; have HR : Hid (RB w1 ad Y) := Lib.hid (RB.of_own hown.out); clear hown))
  all_goals
    go_end0
    exact ⟨rfl, HFin.out _ _ _ _ hb1 hG.out⟩
end Go.Proofs.YtdkgachgohilcaaDoor

namespace Go.Proofs.YtdkgachgohilcaaDoor
open Go.RowKit
open Huf Pre Tab Hpk Arg Mem Gen Wr Go.Proofs.YtdkgachgohilcaaDoor.Obj
set_option linter.unusedVariables false

theorem WSt.boxed {B wb t : Nat} {L : List Nat} {out : List UInt8} {w : World} (h : WSt B L wb t out w) (o : Obj) : WSt B (w.heap.size :: L) wb t out (w.alloc o) :=
  h.stand ((Kept.refl L w).alloc o) (fun k hk => by rcases List.mem_cons.mp hk with rfl | hk
                                                    · exact .inr (Nat.le_refl _)
                                                    · exact .inl hk)
theorem WSt.unbox {B wb t b : Nat} {L : List Nat} {out : List UInt8} {w : World} (h : WSt B (b :: L) wb t out w) : WSt B L wb t out w :=
  h.stand (Kept.refl _ w) (fun k hk => .inl (List.mem_cons_of_mem _ hk))
theorem Wr.Std.unbox {B b : Nat} {L : List Nat} {w w' : World} (h : Std B (b :: L) w w') : Std B L w w' := h.less (fun k hk _ => .inr (List.mem_cons_of_mem _ hk))
theorem Wr.Std.at {B : Nat} {L : List Nat} {w w' : World} (h : Std B L w w') {k : Nat} {o : Obj} (hk : w.heap[k]? = some o) (hL : k ∈ L) : w'.heap[k]? = some o :=
  (h.block k (Array.getElem?_eq_some_iff.1 hk).1 (.inr hL)).trans hk
theorem below_alloc (w : World) (o : Obj) : Below w.heap.size w (w.alloc o) := (Below.refl _ _).alloc (Nat.le_refl _) o
theorem fd_box (w : World) (f : FdM) : (w.alloc (.cells #[.string f.name, .string f.value, .bool f.never] 59)).heap[w.heap.size]? = some (.cells #[.string f.name, .string f.value, .bool f.never] 59 (0, 0)) := heap_alloc_new w _
theorem box_cells {w : World} {b : Nat} {f : FdM} (h : w.heap[b]? = some (.cells #[.string f.name, .string f.value, .bool f.never] 59 (0, 0))) :
    w.cell? ⟨b, 0, none⟩ = some (.string f.name) ∧ w.cell? ⟨b, 1, none⟩ = some (.string f.value) ∧ w.cell? ⟨b, 2, none⟩ = some (.bool f.never) := ⟨cell_at h 0, cell_at h 1, cell_at h 2⟩

/-- The table of groups stands. -/
def gBk : Nat := 0
theorem GrpIs.block {w w' : World} (h : GrpIs w) (hb : w'.heap[gBk]? = w.heap[gBk]?) : GrpIs w' := fun j hj => (World.cell?_of_block (a := ⟨gBk, j, none⟩) hb).trans (h j hj)
theorem GrpIs.lt {w : World} (h : GrpIs w) : gBk < w.heap.size := World.block_lt_of_cell? w _ (h 0 (by decide))
theorem GrpIs.std {B : Nat} {L : List Nat} {w w' : World} (h : GrpIs w) (hs : Std B L w w') (hB : gBk < B) : GrpIs w' := h.block (hs.block _ h.lt (.inl hB))
/-- What a field is written as, out of the row. -/
def litB (fl k n : Nat) (f : FdM) : List UInt8 := putI fl k n ++ ((if n = 0 then putT (txt f.name) else []) ++ putT (txt f.value))
theorem litB_len (fl k n : Nat) (f : FdM) : (litB fl k n f).length ≤ f.name.size + f.value.size + 18 := by
  have h1 := putI_len fl k n
  have h2 := putT_len (txt f.name)
  have h3 := putT_len (txt f.value)
  have e1 : (txt f.name).length = f.name.size := rfl
  have e2 : (txt f.value).length = f.value.size := rfl
  rw [litB, List.length_append, List.length_append]
  split
  · omega
  · simp only [List.length_nil]; omega

set_option maxRecDepth 100000 in
set_option maxHeartbeats 1000000 in
theorem pwlit_any (B : Nat) (L : List Nat) (wb t : Nat) (out : List UInt8) (fl k n : Nat) (f : FdM) (w : World) (h : WSt B L wb t out w) (hB : B ≤ w.heap.size) (hL : ∀ k ∈ L, k < w.heap.size) (hf : fl < 256) (h1 : 1 ≤ k) (h8 : k ≤ 8) (hfk : fl % 2 ^ k = 0) (hn : n < 4294967296)
    (hs1 : f.name.size ≤ 1048576) (hs2 : f.value.size ≤ 1048576) (hg : GrpIs w) (hgB : gBk < B) (hlen : out.length ≤ 900000000) :
    Calls Tryd.prog 100 #[.pointer (some ⟨wb, 0, none⟩), .int .u8 fl, .int .i64 k, .agg #[.string f.name, .string f.value, .bool f.never], .int .i64 n] w fun e w' => e = .returned (.tuple #[]) ∧ WSt B L wb t (out ++ litB fl k n f) w' ∧ Std B L w w' := by
  have hbx := fd_box w f
  have hw1 := h.boxed (.cells #[.string f.name, .string f.value, .bool f.never] 59)
  have hb1 := below_alloc w (.cells #[.string f.name, .string f.value, .bool f.never] 59)
  have hg1 : GrpIs (w.alloc (.cells #[.string f.name, .string f.value, .bool f.never] 59)) := hg.below hb1
  have hl1 := putI_len fl k n
  have hl2 := putT_len (txt f.name)
  have e1 : (txt f.name).length = f.name.size := rfl
  have hLs : ∀ k ∈ w.heap.size :: L, k < (w.alloc (.cells #[.string f.name, .string f.value, .bool f.never] 59)).heap.size := fun k hk => by
    have hsz : (w.alloc (.cells #[.string f.name, .string f.value, .bool f.never] 59)).heap.size = w.heap.size + 1 := by simp
    rw [hsz]
    rcases List.mem_cons.mp hk with rfl | hk
    · omega
    · have := hL k hk; omega
  generalize hwn : (w.alloc (.cells #[.string f.name, .string f.value, .bool f.never] 59)) = w1 at hbx hw1 hb1 hg1 hLs
  generalize hbn : w.heap.size = b at *
  have HN := Lib.hid (pwnum_any B (b :: L) wb t out fl k n w1 hw1 (by have := hb1.size; omega) hLs hf h1 h8 hfk hn (by omega))
  have HT := Lib.hid (fun v (o2 : List UInt8) (s : ByteArray) (hv : WSt B (b :: L) wb t o2 v) (hs : Std B (b :: L) w1 v) (hss : s.size ≤ 1048576) (hl : o2.length ≤ 1000000000) =>
    pwtext_any B (b :: L) wb t o2 s v hv (by have := hb1.size; have := hs.size; omega) (fun k hk => Nat.lt_of_lt_of_le (hLs k hk) hs.size) hss (hg1.std hs hgB) hl)
  have HBx : Hid (∀ v, Std B (b :: L) w1 v → v.cell? ⟨b, 0, none⟩ = some (.string f.name) ∧ v.cell? ⟨b, 1, none⟩ = some (.string f.value)) := Lib.hid (fun v hs => by
    have := box_cells (hs.at hbx (List.mem_cons_self ..)); exact ⟨this.1, this.2.1⟩)
  have HW1 := Lib.hid (show Std B L w w1 from by rw [← hbn] at hb1; exact Std.of_below hb1)
  have hlit : out ++ litB fl k n f = (out ++ putI fl k n ++ (if n = 0 then putT (txt f.name) else [])) ++ putT (txt f.value) := by rw [litB, List.append_assoc, List.append_assoc]
  rw [hlit]
  have HFin : Hid (∀ v o2, WSt B (b :: L) wb t o2 v → Std B (b :: L) w1 v → WSt B L wb t o2 v ∧ Std B L w v) := Lib.hid (fun v o2 hv hs => ⟨hv.unbox, HW1.out.trans hs.unbox⟩)
  have HWN := Lib.hid hwn
  have HBN := Lib.hid hbn
  have hlO : out.length + (putI fl k n).length + (putT (txt f.name)).length ≤ 1000000000 := by omega
  generalize putI fl k n = Y at HN hlO ⊢
  clear hbx hw1 hg1 hLs hl1 hl2 e1 hlit hwn hbn h hL hg hb1
  by_cases h0 : n = 0
  · subst h0
    rw [if_pos rfl]
    go_enter Tryd.func100, Tryd.ntmps100
    go_wp2_with fail
    simp only [HWN.out, HBN.out]
    refine HN.out.mono ?_; rintro e w2 ⟨rfl, v2, s2⟩
    have q2 := HBx.out _ s2
    obtain ⟨q20, q21⟩ := q2
    go_wp2_with fail
    refine (HT.out w2 _ f.name v2 s2 hs1 (by rw [List.length_append]; omega)).mono ?_; rintro e w3 ⟨rfl, v3, s3⟩
    replace s3 := s2.trans s3
    obtain ⟨q30, q31⟩ := HBx.out _ s3
    clear q20 q21
    go_wp2_with fail
    refine (HT.out w3 _ f.value v3 s3 hs2 (by rw [List.length_append, List.length_append]; omega)).mono ?_; rintro e w4 ⟨rfl, v4, s4⟩
    go_wp2_with fail
    go_end0
    exact ⟨rfl, HFin.out _ _ v4 (s3.trans s4)⟩
  · rw [if_neg h0]
    have h0' : ¬ ((n : Int) = 0) := by omega
    go_enter Tryd.func100, Tryd.ntmps100
    go_wp2_with fail
    simp only [HWN.out, HBN.out]
    refine HN.out.mono ?_; rintro e w2 ⟨rfl, v2, s2⟩
    obtain ⟨q20, q21⟩ := HBx.out _ s2
    go_wp2_with fail
    refine (HT.out w2 _ f.value v2 s2 hs2 (by rw [List.length_append]; omega)).mono ?_; rintro e w4 ⟨rfl, v4, s4⟩
    go_wp2_with fail
    go_end0
    rw [List.append_nil]
    exact ⟨rfl, HFin.out _ _ v4 (s2.trans s4)⟩

/-- The blocks below B but those of L stand. -/
structure Trn (B : Nat) (L : List Nat) (w w' : World) : Prop where
  os : w'.os = w.os
  tape : w'.tape = w.tape
  output : w'.output = w.output
  size : w.heap.size ≤ w'.heap.size
  block : ∀ k, k < w.heap.size → k < B → k ∉ L → w'.heap[k]? = w.heap[k]?
theorem Trn.refl (B : Nat) (L : List Nat) (w : World) : Trn B L w w := ⟨rfl, rfl, rfl, Nat.le_refl _, fun _ _ _ _ => rfl⟩
theorem Trn.trans {B : Nat} {L L' : List Nat} {a b c : World} (h : Trn B L a b) (k : Trn B L' b c) (hL : ∀ i ∈ L', i ∈ L ∨ B ≤ i) : Trn B L a c :=
  ⟨k.os.trans h.os, k.tape.trans h.tape, k.output.trans h.output, Nat.le_trans h.size k.size, fun i hi hB hn => (k.block i (Nat.lt_of_lt_of_le hi h.size) hB (fun hm => by
    rcases hL i hm with h1 | h1
    · exact hn h1
    · omega)).trans (h.block i hi hB hn)⟩
theorem Trn.of_std {B : Nat} {L L' : List Nat} {w w' : World} (h : Std B L w w') : Trn B L' w w' := ⟨h.os, h.tape, h.output, h.size, fun k hk hB _ => h.block k hk (.inl hB)⟩
theorem Trn.of_kept {B : Nat} {L : List Nat} {w w' : World} (h : Kept L w w') : Trn B L w w' := ⟨h.os, h.tape, h.output, h.size, fun k hk _ hn => h.block k hk hn⟩
theorem Trn.std {B : Nat} {L L' : List Nat} {a b c : World} (h : Trn B L a b) (k : Std B L' b c) : Trn B L a c := h.trans (Trn.of_std (L' := []) k) (fun i hi => by cases hi)
theorem Trn.then {B : Nat} {L : List Nat} {a b c : World} (h : Trn B L a b) (k : Below b.heap.size b c) : Trn B L a c := h.std (Std.of_below (L := []) k)
theorem Trn.kept {L : List Nat} {w w' : World} (h : Trn w.heap.size L w w') : Kept L w w' := ⟨h.os, h.tape, h.output, h.size, fun k hk hn => h.block k hk hk hn⟩
theorem GrpIs.trn {B : Nat} {L : List Nat} {w w' : World} (h : GrpIs w) (hs : Trn B L w w') (hB : gBk < B) (hL : gBk ∉ L) : GrpIs w' := h.block (hs.block _ h.lt hB hL)

/-- A list is being written: its table, its bytes. -/
structure ESt (B : Nat) (w0 : World) (L0 L : List Nat) (wb t m c : Nat) (rows : List FdM) (out : List UInt8) (w : World) : Prop where
  lo : B ≤ w0.heap.size
  trn : Trn B L0 w0 w
  tab : PTab w L t m rows c
  new : ∀ k ∈ L, k ∈ L0 ∨ B ≤ k
  wr : WSt B L wb t out w
  grp : GrpIs w0
  gb : gBk < B ∧ gBk ∉ L0
variable {B : Nat} {w0 w : World} {L0 L : List Nat} {wb t m c : Nat} {rows : List FdM} {out : List UInt8}
theorem ESt.groups (h : ESt B w0 L0 L wb t m c rows out w) : GrpIs w := h.grp.trn h.trn h.gb.1 h.gb.2
theorem ESt.below (h : ESt B w0 L0 L wb t m c rows out w) {w' : World} (hb : Below w.heap.size w w') : ESt B w0 L0 L wb t m c rows out w' :=
  ⟨h.lo, h.trn.then hb, h.tab.below hb, h.new, h.wr.below hb, h.grp, h.gb⟩
theorem ESt.size (h : ESt B w0 L0 L wb t m c rows out w) : B ≤ w.heap.size := Nat.le_trans h.lo h.trn.size
/-- Bytes have been written. -/
theorem ESt.wrote (h : ESt B w0 L0 L wb t m c rows out w) {w' : World} {out2 : List UInt8} (hw : WSt B L wb t out2 w') (hs : Std B L w w') : ESt B w0 L0 L wb t m c rows out2 w' :=
  ⟨h.lo, h.trn.std hs, h.tab.kept hs.size (fun k hk => hs.block k (h.tab.blocks k hk) (.inr hk)), h.new, hw, h.grp, h.gb⟩
/-- The table has turned. -/
theorem ESt.turned (h : ESt B w0 L0 L wb t m c rows out w) {w' : World} {L' : List Nat} {m' c' : Nat} {rows' : List FdM} (ht : PTab w' L' t m' rows' c') (hk : Kept L w w') (hL : ∀ k ∈ L', k ∈ L ∨ w.heap.size ≤ k) : ESt B w0 L0 L' wb t m' c' rows' out w' :=
  ⟨h.lo, h.trn.trans (Trn.of_kept hk) (fun i hi => h.new i hi), ht, fun k hk2 => by
    rcases hL k hk2 with h1 | h1
    · exact h.new k h1
    · exact .inr (Nat.le_trans h.size h1), h.wr.stand hk hL, h.grp, h.gb⟩

/-- What a way of writing a field leaves. -/
def Wrote (B : Nat) (w0 : World) (L0 : List Nat) (wb t m : Nat) (rows : List FdM) (c : Nat) (out : List UInt8) (e : Ending) (w : World) : Prop :=
  e = .returned (.tuple #[]) ∧ ∃ L' c', c' ≤ c + 1 ∧ ESt B w0 L0 L' wb t m c' rows out w

set_option maxRecDepth 100000 in
set_option maxHeartbeats 1000000 in
theorem pwrow_any (n : Nat) (f : FdM) (h : ESt B w0 L0 L wb t m c rows out w) (hn : n < 4294967296) (hlen : out.length ≤ 900000000) :
    Calls Tryd.prog 84 #[.pointer (some ⟨wb, 0, none⟩), .agg #[.string f.name, .string f.value, .bool f.never], .int .i64 n] w (Wrote B w0 L0 wb t m rows c (out ++ putI 128 7 n)) := by
  have h1 := h.below (below_alloc w (.cells #[.string f.name, .string f.value, .bool f.never] 59))
  generalize hwn : (w.alloc (.cells #[.string f.name, .string f.value, .bool f.never] 59)) = w1 at h1
  have HN := Lib.hid (pwnum_any B L wb t out 128 7 n w1 h1.wr h1.size h1.tab.blocks (by decide) (by decide) (by decide) (by decide) hn (by omega))
  have HH := Lib.hid h1
  have HWN := Lib.hid hwn
  clear h h1 hwn
  go_enter Tryd.func84, Tryd.ntmps84
  go_wp2_with fail
  simp only [HWN.out]
  refine HN.out.mono ?_; rintro e w2 ⟨rfl, v2, s2⟩
  go_wp2_with fail
  go_end0
  exact ⟨rfl, L, c, by omega, HH.out.wrote v2 s2⟩

set_option maxRecDepth 100000 in
set_option maxHeartbeats 1000000 in
theorem pwnever_any (n : Nat) (f : FdM) (h : ESt B w0 L0 L wb t m c rows out w) (hn : n < 4294967296) (hs1 : f.name.size ≤ 1048576) (hs2 : f.value.size ≤ 1048576) (hlen : out.length ≤ 900000000) :
    Calls Tryd.prog 83 #[.pointer (some ⟨wb, 0, none⟩), .agg #[.string f.name, .string f.value, .bool f.never], .int .i64 n] w (Wrote B w0 L0 wb t m rows c (out ++ litB 16 4 n f)) := by
  have h1 := h.below (below_alloc w (.cells #[.string f.name, .string f.value, .bool f.never] 59))
  have hbx := fd_box w f
  generalize hwn : (w.alloc (.cells #[.string f.name, .string f.value, .bool f.never] 59)) = w1 at h1 hbx
  generalize hbn : w.heap.size = b at *
  have HN := Lib.hid (pwlit_any B L wb t out 16 4 n f w1 h1.wr h1.size h1.tab.blocks (by decide) (by decide) (by decide) (by decide) hn hs1 hs2 h1.groups h1.gb.1 hlen)
  have HH := Lib.hid h1
  have HWN := Lib.hid hwn
  have HBN := Lib.hid hbn
  obtain ⟨q0, q1, q2⟩ := box_cells hbx
  clear h h1 hwn hbx hbn
  go_enter Tryd.func83, Tryd.ntmps83
  go_wp2_with fail
  simp only [HWN.out, HBN.out]
  go_wp2_with fail
  refine HN.out.mono ?_; rintro e w2 ⟨rfl, v2, s2⟩
  go_wp2_with fail
  go_end0
  exact ⟨rfl, L, c, by omega, HH.out.wrote v2 s2⟩

set_option maxRecDepth 100000 in
set_option maxHeartbeats 1000000 in
theorem pwplain_any (n : Nat) (f : FdM) (h : ESt B w0 L0 L wb t m c rows out w) (hn : n < 4294967296) (hs1 : f.name.size ≤ 1048576) (hs2 : f.value.size ≤ 1048576) (hlen : out.length ≤ 900000000) :
    Calls Tryd.prog 85 #[.pointer (some ⟨wb, 0, none⟩), .agg #[.string f.name, .string f.value, .bool f.never], .int .i64 n] w (Wrote B w0 L0 wb t m rows c (out ++ litB 0 4 n f)) := by
  have h1 := h.below (below_alloc w (.cells #[.string f.name, .string f.value, .bool f.never] 59))
  have hbx := fd_box w f
  generalize hwn : (w.alloc (.cells #[.string f.name, .string f.value, .bool f.never] 59)) = w1 at h1 hbx
  generalize hbn : w.heap.size = b at *
  have HN := Lib.hid (pwlit_any B L wb t out 0 4 n f w1 h1.wr h1.size h1.tab.blocks (by decide) (by decide) (by decide) (by decide) hn hs1 hs2 h1.groups h1.gb.1 hlen)
  have HH := Lib.hid h1
  have HWN := Lib.hid hwn
  have HBN := Lib.hid hbn
  obtain ⟨q0, q1, q2⟩ := box_cells hbx
  clear h h1 hwn hbx hbn
  go_enter Tryd.func85, Tryd.ntmps85
  go_wp2_with fail
  simp only [HWN.out, HBN.out]
  go_wp2_with fail
  refine HN.out.mono ?_; rintro e w2 ⟨rfl, v2, s2⟩
  go_wp2_with fail
  go_end0
  exact ⟨rfl, L, c, by omega, HH.out.wrote v2 s2⟩

set_option maxRecDepth 100000 in
set_option maxHeartbeats 1000000 in
theorem pwadded_any (n : Nat) (f : FdM) (h : ESt B w0 L0 L wb t m c rows out w) (hn : n < 4294967296) (hs1 : f.name.size ≤ 1048576) (hs2 : f.value.size ≤ 1048576) (hlen : out.length ≤ 900000000) (hc : c < 1000000) :
    Calls Tryd.prog 86 #[.pointer (some ⟨wb, 0, none⟩), .agg #[.string f.name, .string f.value, .bool f.never], .int .i64 n] w (Wrote B w0 L0 wb t m (addT m rows f) c (out ++ litB 64 6 n f)) := by
  have h1 := h.below (below_alloc w (.cells #[.string f.name, .string f.value, .bool f.never] 59))
  have hbx := fd_box w f
  have hbl : ∀ k ∈ L, k ≠ w.heap.size := fun k hk e => by have := h.tab.blocks k hk; omega
  have hbw : wb ≠ w.heap.size := fun e => by have := h.wr.lt; omega
  have hsz : (w.alloc (.cells #[.string f.name, .string f.value, .bool f.never] 59)).heap.size = w.heap.size + 1 := by simp
  generalize hwn : (w.alloc (.cells #[.string f.name, .string f.value, .bool f.never] 59)) = w1 at h1 hbx hsz
  generalize hbn : w.heap.size = b at *
  have HN := Lib.hid (pwlit_any B (b :: L) wb t out 64 6 n f w1 (by rw [← hwn, ← hbn]; exact h.wr.boxed _) h1.size (fun k hk => by
    rcases List.mem_cons.mp hk with rfl | hk
    · omega
    · exact h1.tab.blocks k hk) (by decide) (by decide) (by decide) (by decide) hn hs1 hs2 h1.groups h1.gb.1 hlen)
  have HH := Lib.hid h1
  have HWN := Lib.hid hwn
  have HBN := Lib.hid hbn
  have HBX := Lib.hid hbx
  have HBl := Lib.hid hbl
  obtain ⟨q0, q1, q2⟩ := box_cells hbx
  clear h h1 hwn hbx hbn hbl hsz
  go_enter Tryd.func86, Tryd.ntmps86
  go_wp2_with fail
  simp only [HWN.out, HBN.out]
  go_wp2_with fail
  refine HN.out.mono ?_; rintro e w2 ⟨rfl, v2, s2⟩
  have hx2 := s2.at HBX.out (List.mem_cons_self ..)
  have h2 := HH.out.wrote v2.unbox s2.unbox
  obtain ⟨p0, p1, p2⟩ := box_cells hx2
  obtain ⟨oa, oc, hw2, _⟩ := h2.wr.ex
  have pw := cell_at hw2 0
  have HH2 := Lib.hid h2
  have HA := Lib.hid (fun v (hv : Below w2.heap.size w2 v) => padd_any L t m c rows f v (h2.tab.below hv) hc (by omega) (by omega))
  have hb : Below w2.heap.size w2 w2.drew := (Below.refl _ _).drew
  clear q0 q1 q2 hw2 h2 hx2 v2
  go_wp2_with fail
  go_region_with ((go_at_call 73; refine (HA.out _ hb).mono ?_; rintro e w3 ⟨rfl, L', ht, hk, hL'⟩))
  all_goals
    go_end0
    exact ⟨rfl, L', c + 1, Nat.le_refl _, (HH2.out.below hb).turned ht hk hL'⟩
end Go.Proofs.YtdkgachgohilcaaDoor

namespace Go.Proofs.YtdkgachgohilcaaDoor
open Go.RowKit
set_option linter.unusedVariables false
namespace Fr

/-- A frame of n slots, of which these hold these values. -/
def Is (n : Nat) (ks : List (Nat × Value)) (a : Act) : Prop := a.defers = [] ∧ a.tmps.size = n ∧ ∀ p ∈ ks, a.tmps.getD p.1 undef = p.2

/-- Written out: what isn't known is told by a letter and the slot's number. -/
theorem Is.lit {n : Nat} {ks : List (Nat × Value)} {a : Act} (h : Is n ks a) : ∃ f : Nat → Value, a = ⟨((List.range n).map f).toArray, []⟩ ∧ ks.map (fun p => f p.1) = ks.map (·.2) := by
  obtain ⟨hd, hs, hk⟩ := h
  refine ⟨fun i => a.tmps.getD i undef, ?_, List.map_congr_left (fun p hp => hk p hp)⟩
  obtain ⟨tm, df⟩ := a
  simp only at hd hs hk ⊢
  subst hd
  congr 1
  apply Array.ext
  · simp [hs]
  · intro i h1 h2
    simp [Array.getD, h1]
theorem Is.mk {n : Nat} {ks : List (Nat × Value)} {l : List Value} (h1 : l.length = n) (h2 : ks.map (fun p => l.getD p.1 undef) = ks.map (·.2)) : Is n ks ⟨l.toArray, []⟩ := by
  refine ⟨rfl, by simpa using h1, fun p hp => ?_⟩
  have : ∀ (ks : List (Nat × Value)), ks.map (fun p => l.getD p.1 undef) = ks.map (·.2) → ∀ p ∈ ks, l.getD p.1 undef = p.2 := by
    intro ks
    induction ks with
    | nil => intro _ p hp; cases hp
    | cons q r ih =>
      intro h p hp
      simp only [List.map_cons, List.cons.injEq] at h
      rcases List.mem_cons.mp hp with rfl | hp
      · exact h.1
      · exact ih h.2 p hp
  have h := this ks h2 p hp
  rw [← h]
  simp [Array.getD, List.getD]
  split
  · rename_i hlt; rw [List.getElem?_eq_getElem hlt]; rfl
  · rename_i hlt; rw [List.getElem?_eq_none (by omega)]; rfl
/-- Less is known. -/
theorem Is.less {n : Nat} {ks ks' : List (Nat × Value)} {a : Act} (h : Is n ks a) (hs : ∀ p ∈ ks', p ∈ ks) : Is n ks' a := ⟨h.1, h.2.1, fun p hp => h.2.2 p (hs p hp)⟩
theorem Is.get {n : Nat} {ks : List (Nat × Value)} {a : Act} (h : Is n ks a) {i : Nat} {v : Value} (hm : (i, v) ∈ ks) : a.eval (.tmp i) = v := h.2.2 _ hm
/-- The beginning of a call. -/
theorem Is.enter (args : List Value) (n : Nat) : Is (args.length + n) ((List.range args.length).map (fun i => (i, args.getD i undef))) ⟨args.toArray ++ Array.replicate n undef, []⟩ := by
  refine ⟨rfl, by simp, fun p hp => ?_⟩
  simp only [List.mem_map, List.mem_range] at hp
  obtain ⟨i, hi, rfl⟩ := hp
  simp only [Array.getD, Array.size_append, List.size_toArray, Array.size_replicate]
  rw [dif_pos (by omega)]
  have h := Array.getElem_append_left (xs := args.toArray) (ys := Array.replicate n undef) (i := i) (h := by simp; omega) (by simpa using hi)
  show (args.toArray ++ Array.replicate n undef)[i]'_ = _
  rw [h]
  simp [List.getD, List.getElem?_eq_getElem hi]

/-- A region by its number. -/
def find (id : Nat) : Code → Option Code
  | .region i ops b => if i = id then some (.region i ops b) else none
  | .seq a b => (find id a).or (find id b)
  | .cond _ a b => (find id a).or (find id b)
  | .block _ c => find id c
  | .loop c => find id c
  | .scope c => find id c
  | _ => none
def reg (f : Func) (id : Nat) : Code := (f.body.bind (find id)).getD .skip
/-- What follows behind the first k statements of a row. -/
def navR : Nat → Code → Code
  | 0, c => c
  | k + 1, .seq _ b => navR k b
  | _, _ => .skip
def navL : Code → Code
  | .seq a _ => a
  | _ => .skip
/-- A block's body by its number; a loop's body. -/
def findB (id : Nat) : Code → Option Code
  | .seq a b => (findB id a).or (findB id b)
  | .cond _ a b => (findB id a).or (findB id b)
  | .block i c => if i = id then some c else findB id c
  | .loop c => findB id c
  | .scope c => findB id c
  | _ => none
def findL : Code → Option Code
  | .seq a b => (findL a).or (findL b)
  | .cond _ a b => (findL a).or (findL b)
  | .block _ c => findL c
  | .loop c => some c
  | .scope c => findL c
  | _ => none
def blk (f : Func) (id k : Nat) : Code := navR k ((f.body.bind (findB id)).getD .skip)
def loopB (f : Func) : Code := (f.body.bind findL).getD .skip
def tail (f : Func) (k : Nat) : Code := navR k (f.body.getD .skip)
/-- The end of a call whose results lie in slots. -/
theorem ret_post {P : Program} {fn : Func} {R : Ending → World → Prop} {a : Act} {w : World} {v : Value} (hd : a.defers = []) (hr : (results fn a.tmps).run P w = .ok v w) (h : R (.returned v) w) : bodyPost P fn R .ret a w := ⟨hd, v, hr, h⟩
end Fr
end Go.Proofs.YtdkgachgohilcaaDoor
