/- Layer 5: the program's Encode, NewEncoder, Limit. Layer 5: the program's Rows. Layer 5: the program's NewEncoder, Limit, Rows; what there is of no encoder. The document's tree of codes as it grows, without the program. -/
import Derived.Test.YtdkgachgohilcaaDoorGP15
import Derived.Test.YtdkgachgohilcaaDoorGP04
set_option linter.unusedVariables false
set_option linter.unusedSimpArgs false
namespace Go.Proofs.YtdkgachgohilcaaDoor
open Go.RowKit
open Huf Pre Tab Hpk Arg Mem Gen Wr Go.Proofs.YtdkgachgohilcaaDoor.Obj
set_option linter.unusedVariables false
variable {B : Nat} {w0 w : World} {L0 L : List Nat} {wb t m c g own told least : Nat} {rows : List FdM} {out : List UInt8}

theorem RowE.keptX {α : Type} {E : Rw.Enc α} {w w' : World} {ad : Option Addr} {l : List α} (h : Rw.RowE E w ad l) (hn : ∀ b o s, ad = some ⟨b, o, s⟩ → b < w.heap.size → w'.heap[b]? = w.heap[b]?) : Rw.RowE E w' ad l := by
  rcases h with h | ⟨b, off, rfl, hc⟩
  · exact .inl h
  · cases l with
    | nil => exact .inl rfl
    | cons x r =>
      have hpos : 0 < (E.enc x).length := by rw [E.len]; exact E.pos
      have h0 : (E.enc x)[0]? = some (E.enc x)[0] := List.getElem?_eq_getElem hpos
      have hlt := World.block_lt_of_cell? w _ (hc 0 (by simp) 0 _ h0)
      exact Rw.RowE.block (.inr ⟨b, off, rfl, hc⟩) (fun b2 off2 e => by
        simp only [Option.some.injEq, Addr.mk.injEq, and_true] at e
        obtain ⟨rfl, rfl⟩ := e
        exact hn b off none rfl hlt)
theorem WSt.setLow {B wb t : Nat} {L : List Nat} {out : List UInt8} {w : World} (h : WSt B L wb t out w) (p : Addr) (hp : p.block < B) (v : Value) : WSt B L wb t out (w.setCell p v) := by
  obtain ⟨⟨oa, oc, hh, ho, hne⟩, h1, h2⟩ := h
  exact ⟨⟨oa, oc, (Below.heap_setCell _ _ _ _ (by omega)).trans hh, ho.stand (by simp [World.setCell]) (fun b o s e => Below.heap_setCell _ _ _ _ (by have := (ho.apart b o s e).1; omega)) (fun k hk => .inl hk), hne⟩, h1, h2⟩
/-- Behind tell a list may be written. -/
theorem tell_end {w w1 w2 : World} (h : PEnc w L g own told least t m rows c) (hb : Below w.heap.size w w1) {H : List UInt8} (hs : Std w.heap.size L w1 w2) (hW : WSt w.heap.size L wb t H w2) (hG : GrpIs w) (hgb : gBk ≠ g ∧ gBk ∉ L) {la : Option Addr} {list : List FdM} (hl : Rw.RowE EFd w la list) (hla : ∀ b o s, la = some ⟨b, o, s⟩ → list ≠ [] → b ≠ g ∧ b ∉ L) :
    ∃ w3, (w2.setCell ⟨g, 2, none⟩ (.int .i64 m)).setCell ⟨g, 3, none⟩ (.int .i64 m) = w3 ∧ Hid (ESt w.heap.size w3 L L wb t m c rows H w3) ∧ w3.heap[g]? = some (.cells #[.int .i64 own, .pointer (some ⟨t, 0, none⟩), .int .i64 m, .int .i64 m] 84 (0, 0)) ∧ Kept (g :: L) w w3 ∧ Hid (∀ wr, Trn w.heap.size L w3 wr → Rw.RowE EFd wr la list) := by
  refine ⟨_, rfl, ?_⟩
  have hlt := h.lt
  have hkb := h.tab.blocks
  have hs2 : Std w.heap.size L w w2 := (Std.of_below hb).trans hs
  have hh2 : w2.heap[g]? = _ := (hs2.block g hlt (.inl hlt)).trans h.blk
  have hset := heap_setCell_same w2 g 2 _ _ (.int .i64 m) hh2
  have hset2 := heap_setCell_same _ g 3 _ _ (.int .i64 m) hset
  have hK : Kept (g :: L) w ((w2.setCell ⟨g, 2, none⟩ (.int .i64 m)).setCell ⟨g, 3, none⟩ (.int .i64 m)) :=
    (((hs2.kept (Kept.refl (g :: L) w) rfl).setCell (p := ⟨g, 2, none⟩) (.inl (List.mem_cons_self ..)) _).setCell (p := ⟨g, 3, none⟩) (.inl (List.mem_cons_self ..)) _)
  have hst : ∀ k, k ≠ g → ((w2.setCell ⟨g, 2, none⟩ (.int .i64 m)).setCell ⟨g, 3, none⟩ (.int .i64 m)).heap[k]? = w2.heap[k]? := fun k hk => (Below.heap_setCell _ _ _ _ hk).trans (Below.heap_setCell _ _ _ _ hk)
  have hsz : ((w2.setCell ⟨g, 2, none⟩ (.int .i64 m)).setCell ⟨g, 3, none⟩ (.int .i64 m)).heap.size = w2.heap.size := by simp [World.setCell]
  have hT2 : PTab w2 L t m rows c := h.tab.kept hs2.size (fun k hk => hs2.block k (hkb k hk) (.inr hk))
  refine ⟨Lib.hid ⟨hK.size, Trn.refl _ _ _, hT2.kept (by rw [hsz]; exact Nat.le_refl _) (fun k hk => hst k (fun e => h.no (e ▸ hk))), fun k hk => .inl hk, (hW.setLow _ hlt _).setLow _ hlt _, hG.block (hK.block _ hG.lt (by simp [hgb.1, hgb.2])), hG.lt, hgb.2⟩, hset2, hK, Lib.hid (fun wr hr => (Classical.em (list = [])).elim .inl fun hne => RowE.keptX hl (fun b o s e hb => by
    have h2 := hla b o s e hne
    exact (hr.block b (Nat.lt_of_lt_of_le hb hK.size) hb h2.2).trans (hK.block b hb (by simp [h2.1, h2.2]))))⟩

/-- What Encode answers, and what the encoder is then. -/
def PEncEnd (w : World) (L : List Nat) (g own t m c : Nat) (R : List UInt8 × List FdM) (n : Nat) (e : Ending) (w' : World) : Prop :=
  ∃ (oa : Option Addr) (oc : Nat) (L' : List Nat) (c' : Nat), e = .returned (.slice oa R.1.length oc) ∧ PEnc w' L' g own m m t m R.2 c' ∧ Kept (g :: L) w w' ∧ (∀ k ∈ L', k ∈ L ∨ w.heap.size ≤ k) ∧ Rw.QRow EBy w' oa oc R.1 ∧ (∀ b o s, oa = some ⟨b, o, s⟩ → w.heap.size ≤ b ∧ b ∉ L') ∧ c' ≤ c + n

set_option maxRecDepth 100000 in
set_option maxHeartbeats 2000000 in
theorem pencode_any (h : PEnc w L g own told least t m rows c) (la : Option Addr) (list : List FdM) (lcap : Nat) (hl : Rw.RowE EFd w la list) (hla : ∀ b o s, la = some ⟨b, o, s⟩ → list ≠ [] → b ≠ g ∧ b ∉ L) (hlc : list.length ≤ lcap) (hlm : lcap ≤ maxLen)
    (ht : told ≤ 65536) (hle : least ≤ 65536) (hsz : ∀ f ∈ list, f.name.size ≤ 1048576 ∧ f.value.size ≤ 1048576) (hsum : csum list ≤ 100000000) (hc : c + list.length < 1000000) (hG : GrpIs w) (hgb : gBk ≠ g ∧ gBk ∉ L) :
    Calls Tryd.prog 22 #[.pointer (some ⟨g, 0, none⟩), .slice la list.length lcap] w (PEncEnd w L g own t m c (hdr told least m ++ (encList m list rows).1, (encList m list rows).2) list.length) := by
  have c1 := cell_at h.blk 1
  have hbx : (w.alloc (.cells #[.pointer (some ⟨t, 0, none⟩), .slice none 0 0] 86)).heap[w.heap.size]? = some (.cells #[.pointer (some ⟨t, 0, none⟩), .slice none 0 0] 86 (0, 0)) := heap_alloc_new w _
  have hb1 := below_alloc w (.cells #[.pointer (some ⟨t, 0, none⟩), .slice none 0 0] 86)
  have hkb := h.tab.blocks
  have hgl := h.lt
  generalize hwn : (w.alloc (.cells #[.pointer (some ⟨t, 0, none⟩), .slice none 0 0] 86)) = w1 at hbx hb1
  have hs1 := hb1.size
  have hW : WSt w.heap.size L w.heap.size t [] w1 := ⟨⟨none, 0, hbx, OutB.bare _ _ _, fun o s e => by cases e⟩, Nat.le_refl _, fun hm => by have := hkb _ hm; omega⟩
  have HT := Lib.hid (ptell_any (B := w.heap.size) (h.below hb1) hW hs1 hgl ht hle)
  have HE := Lib.hid (fun w2 (H : List UInt8) (hs : Std w.heap.size L w1 w2) (hW : WSt w.heap.size L w.heap.size t H w2) => tell_end h hb1 hs hW hG hgb hl hla)
  have HWN := Lib.hid hwn
  have HNo := Lib.hid h.no
  have hhl := hdr_len told least m
  obtain ⟨OUT, hOUT⟩ : ∃ x, x = hdr told least m ++ (encList m list rows).1 := ⟨_, rfl⟩
  obtain ⟨ROWS, hROWS⟩ : ∃ x, x = (encList m list rows).2 := ⟨_, rfl⟩
  rw [← hOUT, ← hROWS]
  obtain ⟨H, hH⟩ : ∃ x, x = hdr told least m := ⟨_, rfl⟩
  rw [← hH] at HT hOUT hhl
  have HO := Lib.hid hOUT
  have HR := Lib.hid hROWS
  have HSz := Lib.hid hsz
  have hcl := csum_len list
  clear h hl hla hW hG hgb hOUT hROWS hsz hbx hb1 hkb hwn hH
  obtain ⟨nn, hnn⟩ : ∃ x, x = list.length := ⟨_, rfl⟩
  have HN := Lib.hid hnn
  obtain ⟨CS, hCS⟩ : ∃ x, x = csum list := ⟨_, rfl⟩
  have HCS := Lib.hid hCS
  rw [← hnn] at hlc hc hcl ⊢
  rw [← hCS] at hsum hcl
  clear hnn hCS
  go_enter Tryd.func22, Tryd.ntmps22
  go_wp2_with fail
  simp only [HWN.out]
  refine HT.out.mono ?_; rintro e w3 ⟨rfl, w2, hs2, hW2, rfl⟩
  obtain ⟨w3, hw3, hE, hg3, hk3, hl3⟩ := HE.out _ _ hs2 hW2
  simp only [hw3]
  clear hw3 hs2 hW2 c1
  have HG3 := Lib.hid hg3
  have HK3 := Lib.hid hk3
  clear hg3 hk3
  go_wp2_with fail
  go_loopw [19] (fun i wr => ∃ (k c2 : Nat) (L2 : List Nat) (rows2 : List FdM) (out2 : List UInt8), i = .int .i64 k ∧ k ≤ nn ∧ c2 ≤ c + k ∧ out2.length ≤ 12 + CS ∧ Hid (out2.length + csum (list.drop k) ≤ 12 + CS) ∧ Hid (ESt w.heap.size w3 L L2 w.heap.size t m c2 rows2 out2 wr) ∧ Hid (out2 ++ (encList m (list.drop k) rows2).1 = OUT ∧ (encList m (list.drop k) rows2).2 = ROWS)) (fun i _ => nn - (intOf i).toNat)
  case atStart => exact ⟨0, c, L, rows, H, by rfl, by omega, by omega, by omega, Lib.hid (by rw [List.drop_zero, ← HCS.out]; omega), hE, Lib.hid (by rw [List.drop_zero]; exact ⟨HO.out.symm, HR.out.symm⟩)⟩
  case round =>
    obtain ⟨k, c2, L2, rows2, out2, rfl, hk, hc2, ho2, HO2, HE2, HR2⟩ := hrel
    by_cases hlt : k < nn
    · have hlt' : (k : Int) < nn := by omega
      have hlr : k < list.length := by rw [← HN.out]; exact hlt
      have hrow := hl3.out wr HE2.out.trn
      obtain ⟨bl, off, rfl, hc⟩ : ∃ b off, la = some ⟨b, off, none⟩ ∧ ∀ i, (h : i < list.length) → Rw.CE EFd wr b (off + i * 3) list[i] := by
        rcases hrow with h | h
        · rw [h] at hlr; simp at hlr
        · exact h
      obtain ⟨d0, d1, d2⟩ := CE_fd (hc k hlr)
      have hfs := HSz.out list[k] (List.getElem_mem hlr)
      have HR3 := HR2.out
      have HO3 := HO2.out
      rw [List.drop_eq_getElem_cons hlr] at HR3 HO3
      rw [encList] at HR3
      rw [csum] at HO3
      have hfl := encField_len m rows2 list[k]
      clear hc hrow
      generalize list[k] = f at *
      have hbx := fd_box wr f
      have hE3 := HE2.out.below (below_alloc wr (.cells #[.string f.name, .string f.value, .bool f.never] 59))
      generalize hwn : (wr.alloc (.cells #[.string f.name, .string f.value, .bool f.never] 59)) = w4 at hbx hE3
      have HWN4 := Lib.hid hwn
      obtain ⟨q0, q1, q2⟩ := box_cells hbx
      have HF := Lib.hid (pwfield_any f hE3 hfs.1 hfs.2 (by omega) (by omega))
      have HR4 := Lib.hid HR3
      have HO4 : Hid ((out2 ++ (encField m rows2 f).1).length + csum (list.drop (k + 1)) ≤ 12 + CS) := Lib.hid (by rw [List.length_append]; omega)
      have ho4 : (out2 ++ (encField m rows2 f).1).length ≤ 12 + CS := by have := HO4.out; omega
      clear hwn hbx hE3 hfl HR3 HO3
      generalize encField m rows2 f = X at *
      go_wp2_with fail
      simp only [HWN4.out]
      go_wp2_with fail
      refine HF.out.mono ?_; rintro e w5 ⟨rfl, L5, c5, hc5, hE5⟩
      go_wp2_with fail
      go_roundw
      case rel => exact ⟨k + 1, c5, L5, X.2, out2 ++ X.1, by go_num, by omega, by omega, ho4, HO4, Lib.hid hE5, Lib.hid (by rw [List.append_assoc]; exact HR4.out)⟩
      case measure => simp [intOf]; omega
    · have hlt' : ¬ (k : Int) < nn := by omega
      have hnil : list.drop k = [] := List.drop_of_length_le (by rw [← HN.out]; omega)
      have hR := HR2.out
      rw [hnil, encList, List.append_nil] at hR
      obtain ⟨rfl, rfl⟩ := hR
      obtain ⟨oa, oc, hw5, ho5, hne5⟩ := HE2.out.wr.ex
      have p1 := cell_at hw5 1
      have HQ : Hid (PEncEnd w L g own t m c (out2, rows2) nn (.returned (.slice oa out2.length oc)) wr) := Lib.hid (by
        have hE := HE2.out
        have hT := hE.trn
        have hk3 := HK3.out
        refine ⟨oa, oc, L2, c2, rfl, ⟨(hT.block g (Nat.lt_of_lt_of_le hgl hk3.size) hgl HNo.out).trans HG3.out, hE.tab, fun hm => ?_⟩, ?_, hE.new, ho5.row, fun b o s e => ho5.apart b o s e, by omega⟩
        · rcases hE.new g hm with h1 | h1
          · exact HNo.out h1
          · omega
        · exact ⟨hT.os.trans hk3.os, hT.tape.trans hk3.tape, hT.output.trans hk3.output, Nat.le_trans hk3.size hT.size, fun i hi hn => (hT.block i (Nat.lt_of_lt_of_le hi hk3.size) hi (fun h => hn (List.mem_cons_of_mem _ h))).trans (hk3.block i hi hn)⟩)
      clear hw5 ho5 hne5 hnil HR2 HE2 HO2 HK3 HG3 hl3 hE HE HT
      go_wp2_with fail
      go_ret
      exact HQ.out
end Go.Proofs.YtdkgachgohilcaaDoor

namespace Go.Proofs.YtdkgachgohilcaaDoor
open Go.RowKit
open Huf Pre Tab Hpk Arg Mem Gen Wr Go.Proofs.YtdkgachgohilcaaDoor.Obj
set_option linter.unusedVariables false

/-- A row of fields that is filled, from the front. -/
structure Fill (w : World) (b n : Nat) (rows : List FdM) (k : Nat) : Prop where
  ex : ∃ cs, w.heap[b]? = some (.cells cs 59 (0, 0)) ∧ cs.size = n * 3 ∧ ∀ i r v, i < k → ∀ h : i < rows.length, (EFd.enc rows[i])[r]? = some v → cs[i * 3 + r]? = some v
theorem Fill.below {w w' : World} {b n k : Nat} {rows : List FdM} (h : Fill w b n rows k) (hb : Below w.heap.size w w') : Fill w' b n rows k := by
  obtain ⟨cs, hh, h1, h2⟩ := h.ex
  exact ⟨cs, block_below hb hh, h1, h2⟩
theorem Fill.cell {w : World} {b n k : Nat} {rows : List FdM} (h : Fill w b n rows k) (j : Nat) (hj : j < n * 3) : (∃ v, w.cell? ⟨b, j, none⟩ = some v) ∧ w.frozen? ⟨b, j, none⟩ = false := by
  obtain ⟨cs, hh, h1, h2⟩ := h.ex
  exact ⟨⟨cs[j], (cell_at hh j).trans (Array.getElem?_eq_getElem (by omega))⟩, frozen_of_row _ _ _ _ _ hh⟩
theorem Fill.put {w : World} {b n k : Nat} {rows : List FdM} (h : Fill w b n rows k) (hk : k < rows.length) (hn : k < n) :
    Fill (((w.setCell ⟨b, k * 3, none⟩ (.string rows[k].name)).setCell ⟨b, k * 3 + 1, none⟩ (.string rows[k].value)).setCell ⟨b, k * 3 + 2, none⟩ (.bool rows[k].never)) b n rows (k + 1) := by
  obtain ⟨cs, hh, h1, h2⟩ := h.ex
  refine ⟨_, heap_setCell_same _ b _ _ _ _ (heap_setCell_same _ b _ _ _ _ (heap_setCell_same _ b _ _ _ _ hh)), by simp [h1], fun i r v hi hr he => ?_⟩
  have hr3 : r < 3 := by
    have := (List.getElem?_eq_some_iff.1 he).1
    rwa [EFd.len] at this
  by_cases hik : i = k
  · subst hik
    match r, hr3 with
    | 0, _ => simp [EFd] at he; subst he; rw [Array.getElem?_setIfInBounds_ne (by omega), Array.getElem?_setIfInBounds_ne (by omega), Nat.add_zero, Array.getElem?_setIfInBounds_self_of_lt (by omega)]
    | 1, _ => simp [EFd] at he; subst he; rw [Array.getElem?_setIfInBounds_ne (by omega), Array.getElem?_setIfInBounds_self_of_lt (by simp; omega)]
    | 2, _ => simp [EFd] at he; subst he; rw [Array.getElem?_setIfInBounds_self_of_lt (by simp; omega)]
  · rw [Array.getElem?_setIfInBounds_ne (by omega), Array.getElem?_setIfInBounds_ne (by omega), Array.getElem?_setIfInBounds_ne (by omega)]
    exact h2 i r v (by omega) hr he
theorem Fill.row {w : World} {b n : Nat} {rows : List FdM} (h : Fill w b n rows n) (hn : n = rows.length) (hm : n ≤ maxLen) : Rw.QRow EFd w (some ⟨b, 0, none⟩) n rows := by
  obtain ⟨cs, hh, h1, h2⟩ := h.ex
  refine ⟨by omega, hm, (fun e => by cases e), fun a e => ?_⟩
  simp only [Option.some.injEq] at e
  subst e
  refine ⟨b, 0, rfl, (Array.getElem?_eq_some_iff.1 hh).1, fun i hi r v hv => ?_, fun j hj => ?_⟩
  · rw [Nat.zero_add, cell_at hh]; exact h2 i r v (by omega) hi hv
  · have hj' : j < n * 3 := hj
    rw [Nat.zero_add]
    exact ⟨by rw [cell_at hh, Array.getElem?_eq_getElem (by omega)]; rfl, frozen_of_row _ _ _ _ _ hh⟩

theorem wf_i64 (n : Int) (h : -9223372036854775808 ≤ n ∧ n ≤ 9223372036854775807) : (Lit.int .i64 n).wf = true := by
  simp only [Lit.wf, IntKind.min, IntKind.max, IntKind.bits, IntKind.signed]
  simp; omega
set_option maxRecDepth 100000 in
set_option maxHeartbeats 2000000 in
theorem prowsof_any (L : List Nat) (g m c : Nat) (rows : List FdM) (w : World) (h : PTab w L g m rows c) :
    Calls Tryd.prog 41 #[.pointer (some ⟨g, 0, none⟩)] w fun e w' => ∃ b, e = .returned (.slice (some ⟨b, 0, none⟩) rows.length rows.length) ∧ w.heap.size ≤ b ∧ Rw.QRow EFd w' (some ⟨b, 0, none⟩) rows.length rows ∧ Below w.heap.size w w' ∧ ∃ cs, w'.heap[b]? = some (.cells cs 59 (0, 0)) := by
  have hsum := h.sum
  have h32 := csum_len rows
  obtain ⟨i0, hi, hz0, hz1, hz2⟩ := info_parts info_fd
  have HLen := Lib.hid (plen_any L g m c rows w h)
  have HAt := Lib.hid (fun v (hv : Below w.heap.size w v) k (hk : k < rows.length) => by
    have := pat_any L g m c rows (62 + k : Nat) v (h.below hv) (wf_i64 _ (by omega))
    have hx := atT_all rows (62 + k) rows[k] (by omega) (by rw [List.getElem?_append_right (by rw [statics_len]; omega), statics_len, show 62 + k - 1 - 61 = k from by omega, List.getElem?_eq_getElem hk])
    rw [hx] at this
    exact this)
  obtain ⟨nn, hnn⟩ : ∃ x, x = rows.length := ⟨_, rfl⟩
  have HN := Lib.hid hnn
  rw [← hnn] at HLen h32 ⊢
  have hmk := fun (v : World) => run_make (P := Tryd.prog) v 31 59 i0 (.agg #[.string ByteArray.empty, .string ByteArray.empty, .bool false]) Tryd.underlying31 hi hz0 .i64 .i64 nn nn (by omega) (by omega) (by rw [hz2]; omega) (by omega)
  simp only [Int.toNat_natCast, hz1] at hmk
  have hcs := size_madeCells (Value.agg #[.string ByteArray.empty, .string ByteArray.empty, .bool false]).cells (nn * 3)
  generalize madeCells (Value.agg #[.string ByteArray.empty, .string ByteArray.empty, .bool false]).cells (nn * 3) = cs at hmk hcs
  clear hnn h hi hz0 hz1 hz2
  go_enter Tryd.func41, Tryd.ntmps41
  go_wp2_with fail
  refine HLen.out.mono ?_; rintro e w1 ⟨rfl, b1⟩
  go_wp2_with fail
  have hbx := heap_alloc_new w1 (.cells cs 59)
  have hb2 : Below w.heap.size w (w1.alloc (.cells cs 59)) := b1.alloc b1.size _
  have hF : Fill (w1.alloc (.cells cs 59)) w1.heap.size nn rows 0 := ⟨cs, hbx, hcs, fun i r v hi => by omega⟩
  have hlo := b1.size
  generalize (w1.alloc (.cells cs 59)) = w2 at hbx hb2 hF ⊢
  generalize w1.heap.size = b at hbx hF hlo ⊢
  clear hbx hmk hcs
  go_loopw [10] (fun i wr => ∃ k : Nat, i = .int .i64 k ∧ k ≤ nn ∧ Hid (Fill wr b nn rows k) ∧ Below w.heap.size w wr) (fun i _ => nn - (intOf i).toNat)
  case atStart => exact ⟨0, by rfl, by omega, Lib.hid hF, hb2⟩
  case round =>
    obtain ⟨k, rfl, hk, HF, hbel⟩ := hrel
    by_cases hlt : k < nn
    · have hlt' : (k : Int) < nn := by omega
      have hlr : k < rows.length := by rw [← HN.out]; exact hlt
      have HA := Lib.hid (HAt.out wr hbel k hlr)
      have HP := Lib.hid (fun v (hv : Fill v b nn rows k) => hv.put hlr hlt)
      generalize rows[k] = f at HA HP
      have hadd : wrap64 (62 + (k : Int)) = 62 + (k : Int) := IntWalk.wrap64_in _ (by omega)
      rw [show ((62 + k : Nat) : Int) = 62 + (k : Int) from by omega] at HA
      have hk0 : (0 : Int) ≤ (k : Int) := by omega
      go_wp2_with fail
      refine HA.out.mono ?_; rintro e w3 ⟨rfl, b3⟩
      have hF3 := HF.out.below b3
      replace b3 := below_step hbel b3
      obtain ⟨⟨v0, y0⟩, z0⟩ := hF3.cell (k * 3) (by omega)
      obtain ⟨⟨v1, y1⟩, z1⟩ := hF3.cell (k * 3 + 1) (by omega)
      obtain ⟨⟨v2, y2⟩, z2⟩ := hF3.cell (k * 3 + 2) (by omega)
      have HF4 := Lib.hid (HP.out _ hF3)
      have HB4 := Lib.hid (((b3.setCell (p := ⟨b, k * 3, none⟩) hlo (.string f.name)).setCell (p := ⟨b, k * 3 + 1, none⟩) hlo (.string f.value)).setCell (p := ⟨b, k * 3 + 2, none⟩) hlo (.bool f.never))
      clear hF3 HP
      go_wp2_with fail
      go_roundw
      case rel => exact ⟨k + 1, by go_num, by omega, HF4, HB4.out⟩
      case measure => simp [intOf]; omega
    · have hlt' : ¬ (k : Int) < nn := by omega
      obtain rfl : k = nn := by omega
      go_wp2_with fail
      go_ret
      exact ⟨b, rfl, hlo, HF.out.row HN.out (by unfold maxLen; omega), hbel, HF.out.ex.choose, HF.out.ex.choose_spec.1⟩
end Go.Proofs.YtdkgachgohilcaaDoor

namespace Go.Proofs.YtdkgachgohilcaaDoor
open Go.RowKit
open Huf Pre Tab Hpk Arg Mem Gen Wr Go.Proofs.YtdkgachgohilcaaDoor.Obj
set_option linter.unusedVariables false
variable {w : World} {L : List Nat} {t m c g own told least : Nat} {rows : List FdM}

theorem hsized_any (n : Int) (w : World) :
    Calls Tryd.prog 27 #[.int .i64 n] w fun e w' => e = .returned (.bool (decide (0 ≤ n ∧ n ≤ 65536))) ∧ Below w.heap.size w w' := by
  go_enter Tryd.func27, Tryd.ntmps27
  by_cases h0 : (0 : Int) ≤ n
  · by_cases h1 : n ≤ 65536
    · go_wp2_with fail
      go_ret
      exact ⟨by simp [h0, h1], Below.refl _ _⟩
    · go_wp2_with fail
      go_ret
      exact ⟨by simp [h0, h1], Below.refl _ _⟩
  · have h0' : decide ((0 : Int) ≤ n) = false := by simp; omega
    go_wp2_with fail
    go_ret
    exact ⟨by simp [h0], Below.refl _ _⟩

set_option maxRecDepth 100000 in
set_option maxHeartbeats 1000000 in
theorem pnewenc_bad (own : Int) (w : World) (h : own < 0 ∨ 65536 < own) :
    Calls Tryd.prog 18 #[.int .i64 own] w fun e w' => e = .returned (.tuple #[.pointer none, .int .i64 1]) ∧ Below w.heap.size w w' := by
  have HS := Lib.hid (fun v => hsized_any own v)
  rw [show decide (0 ≤ own ∧ own ≤ 65536) = false by simp; omega] at HS
  go_enter Tryd.func18, Tryd.ntmps18
  go_wp2_with fail
  refine (HS.out _).mono ?_; rintro e w1 ⟨rfl, b1⟩
  go_wp2_with fail
  go_ret2
  exact ⟨rfl, b1⟩

set_option maxRecDepth 100000 in
set_option maxHeartbeats 1000000 in
theorem pnewenc_ok (own : Nat) (w : World) (h : own ≤ 65536) :
    Calls Tryd.prog 18 #[.int .i64 own] w fun e w' => ∃ g t L, e = .returned (.tuple #[.pointer (some ⟨g, 0, none⟩), .int .i64 0]) ∧ PEnc w' L g own 4096 (min own 4096) t (min own 4096) [] 0 ∧ Below w.heap.size w w' ∧ w.heap.size ≤ g ∧ ∀ k ∈ L, w.heap.size ≤ k := by
  have HS := Lib.hid (fun v => hsized_any own v)
  rw [show decide ((0 : Int) ≤ own ∧ (own : Int) ≤ 65536) = true by simp; omega] at HS
  have HN := Lib.hid (fun v => pnew_ok (min own 4096) v (by omega))
  obtain ⟨mm, hmm⟩ : ∃ x, x = min own 4096 := ⟨_, rfl⟩
  rw [← hmm] at HN ⊢
  have HEnd : Hid (∀ (v : World) (t : Nat) (L : List Nat), Below w.heap.size w v → PTab v L t mm [] 0 → (∀ k ∈ L, w.heap.size ≤ k) →
      PEnc (v.alloc (.cells #[.int .i64 own, .pointer (some ⟨t, 0, none⟩), .int .i64 4096, .int .i64 mm] 84)) L v.heap.size own 4096 mm t mm [] 0 ∧ Below w.heap.size w (v.alloc (.cells #[.int .i64 own, .pointer (some ⟨t, 0, none⟩), .int .i64 4096, .int .i64 mm] 84)) ∧ w.heap.size ≤ v.heap.size) := Lib.hid (fun v t L hb ht hL =>
    ⟨⟨heap_alloc_new v _, ht.below (below_alloc v _), fun hm => by have := ht.blocks _ hm; omega⟩, hb.alloc hb.size _, hb.size⟩)
  go_enter Tryd.func18, Tryd.ntmps18
  have hmin : min (own : Int) 4096 = mm := by omega
  clear hmm
  go_wp2_with fail
  refine (HS.out _).mono ?_; rintro e w1 ⟨rfl, b1⟩
  go_wp2_with fail
  refine (HN.out _).mono ?_; rintro e w2 ⟨t, L, rfl, hT, b2, hL⟩
  have HE := Lib.hid (HEnd.out w2 t L (below_step b1 b2) hT (fun k hk => Nat.le_trans b1.size (hL k hk)))
  have HL := Lib.hid (fun k hk => Nat.le_trans b1.size (hL k hk))
  clear hT hL b2
  go_wp2_with fail
  go_ret2
  exact ⟨_, t, L, rfl, HE.out.1, HE.out.2.1, HE.out.2.2, HL.out⟩

set_option maxRecDepth 100000 in
set_option maxHeartbeats 1000000 in
theorem plimit_nil (n : Int) (w : World) : Calls Tryd.prog 20 #[.pointer none, .int .i64 n] w fun e w' => e = .returned (.int .i64 1) ∧ Below w.heap.size w w' := by
  go_enter Tryd.func20, Tryd.ntmps20
  go_wp2_with fail
  go_ret
  exact ⟨rfl, Below.refl _ _⟩
set_option maxRecDepth 100000 in
set_option maxHeartbeats 1000000 in
theorem plimit_bad (p : Addr) (n : Int) (w : World) (hn : n < 0) : Calls Tryd.prog 20 #[.pointer (some p), .int .i64 n] w fun e w' => e = .returned (.int .i64 1) ∧ Below w.heap.size w w' := by
  go_enter Tryd.func20, Tryd.ntmps20
  go_wp2_with fail
  go_ret
  exact ⟨rfl, Below.refl _ _⟩
set_option maxRecDepth 100000 in
set_option maxHeartbeats 1000000 in
theorem pencode_nil (v : Value) (w : World) : Calls Tryd.prog 22 #[.pointer none, v] w fun e w' => e = .returned (.slice none 0 0) ∧ Below w.heap.size w w' := by
  go_enter Tryd.func22, Tryd.ntmps22
  go_wp2_with fail
  go_ret
  exact ⟨rfl, Below.refl _ _⟩
set_option maxRecDepth 100000 in
set_option maxHeartbeats 1000000 in
theorem perows_nil (w : World) : Calls Tryd.prog 24 #[.pointer none] w fun e w' => e = .returned (.slice none 0 0) ∧ Below w.heap.size w w' := by
  go_enter Tryd.func24, Tryd.ntmps24
  go_wp2_with fail
  go_ret
  exact ⟨rfl, Below.refl _ _⟩
set_option maxRecDepth 100000 in
set_option maxHeartbeats 1000000 in
theorem pdrows_nil (w : World) : Calls Tryd.prog 16 #[.pointer none] w fun e w' => e = .returned (.slice none 0 0) ∧ Below w.heap.size w w' := by
  go_enter Tryd.func16, Tryd.ntmps16
  go_wp2_with fail
  go_ret
  exact ⟨rfl, Below.refl _ _⟩
set_option maxRecDepth 100000 in
set_option maxHeartbeats 1000000 in
theorem perows_any (h : PEnc w L g own told least t m rows c) :
    Calls Tryd.prog 24 #[.pointer (some ⟨g, 0, none⟩)] w fun e w' => ∃ b, e = .returned (.slice (some ⟨b, 0, none⟩) rows.length rows.length) ∧ w.heap.size ≤ b ∧ Rw.QRow EFd w' (some ⟨b, 0, none⟩) rows.length rows ∧ Below w.heap.size w w' := by
  have c1 := cell_at h.blk 1
  have HR := Lib.hid (prowsof_any L t m c rows w h.tab)
  clear h
  go_enter Tryd.func24, Tryd.ntmps24
  go_wp2_with fail
  refine HR.out.mono ?_; rintro e w1 ⟨b, rfl, h1, h2, h3, _⟩
  have HQ := Lib.hid (⟨h1, h2, h3⟩ : _ ∧ _ ∧ _)
  clear h1 h2 h3
  go_wp2_with fail
  go_ret
  exact ⟨b, rfl, HQ.out⟩

set_option maxRecDepth 100000 in
set_option maxHeartbeats 1000000 in
theorem plimit_ok (n : Nat) (h : PEnc w L g own told least t m rows c) (hown : own ≤ 65536) :
    Calls Tryd.prog 20 #[.pointer (some ⟨g, 0, none⟩), .int .i64 n] w fun e w' => e = .returned (.int .i64 0) ∧ ∃ L', PEnc w' L' g own told (min least (min own n)) t (min own n) (fit (min own n) rows) c ∧ Kept (g :: L) w w' ∧ ∀ k ∈ L', k ∈ L ∨ w.heap.size ≤ k := by
  have c0 := cell_at h.blk 0
  have c3 := cell_at h.blk 3
  have z3 := frozen_of_row _ _ 3 _ _ h.blk
  have hset := heap_setCell_same w g 3 _ _ (.int .i64 (min least (min own n) : Nat)) h.blk
  have c1 := cell_at h.blk 1
  have hgl := h.lt
  have hT : PTab (w.setCell ⟨g, 3, none⟩ (.int .i64 (min least (min own n) : Nat))) L t m rows c := h.tab.kept (by simp [World.setCell]) (fun k hk => Below.heap_setCell _ _ _ _ (fun e => h.no (by simp only at e; subst e; exact hk)))
  have hK1 : Kept (g :: L) w (w.setCell ⟨g, 3, none⟩ (.int .i64 (min least (min own n) : Nat))) := (Kept.refl (g :: L) w).setCell (p := ⟨g, 3, none⟩) (.inl (List.mem_cons_self ..)) _
  have hss : (w.setCell ⟨g, 3, none⟩ (.int .i64 (min least (min own n) : Nat))).heap.size = w.heap.size := by simp [World.setCell]
  have hn1 := h.no
  generalize hw1 : (w.setCell ⟨g, 3, none⟩ (.int .i64 (min least (min own n) : Nat))) = w1 at *
  have HR := Lib.hid (presize_ok L t m (min own n) c rows w1 hT (by omega))
  have HFin : Hid (∀ w2 L', PTab w2 L' t (min own n) (fit (min own n) rows) c → Kept L w1 w2 → (∀ k ∈ L', k ∈ L ∨ w1.heap.size ≤ k) → PEnc w2 L' g own told (min least (min own n)) t (min own n) (fit (min own n) rows) c ∧ Kept (g :: L) w w2 ∧ ∀ k ∈ L', k ∈ L ∨ w.heap.size ≤ k) := Lib.hid (fun w2 L' ht hk hL =>
    ⟨⟨hk.at hset hn1, ht, fun hm => by
      rcases hL g hm with h1 | h1
      · exact hn1 h1
      · omega⟩, hK1.trans hk (fun i hi => .inl (List.mem_cons_of_mem _ hi)), fun k hk2 => by
      rcases hL k hk2 with h1 | h1
      · exact .inl h1
      · right; omega⟩)
  clear hset hT hK1 hss hn1 h
  obtain ⟨mm, hmm⟩ : ∃ x, x = min own n := ⟨_, rfl⟩
  rw [← hmm] at hw1 HR HFin ⊢
  obtain ⟨ll, hll⟩ : ∃ x, x = min least mm := ⟨_, rfl⟩
  rw [← hll] at hw1 HFin ⊢
  have HW1 := Lib.hid hw1
  clear hw1
  go_enter Tryd.func20, Tryd.ntmps20
  have hn0 : ¬ (n : Int) < 0 := by omega
  have hmin : min (own : Int) n = mm := by omega
  have hmin2 : min (least : Int) mm = ll := by omega
  clear hmm hll
  go_wp2_with fail
  simp only [HW1.out]
  refine HR.out.mono ?_; rintro e w2 ⟨rfl, L', ht, hk, hL⟩
  have HE := Lib.hid (HFin.out w2 L' ht hk hL)
  clear ht hk hL
  go_wp2_with fail
  go_ret
  exact ⟨rfl, L', HE.out⟩
end Go.Proofs.YtdkgachgohilcaaDoor

namespace Go.Proofs.YtdkgachgohilcaaDoor
namespace Huf

/-- Cell j of a tree of m places in which the symbols below s end. -/
def cellT (m s j : Nat) : Int := if j % 3 < 2 then (if nx (j % 3) (j / 3) < m then (nx (j % 3) (j / 3) : Int) else 0) else (if sy (j / 3) < s then (sy (j / 3) : Int) else -1)
def rowsT (m s : Nat) : List Value := (List.range (3 * m)).map fun j => .int .i64 (cellT m s j)
theorem rowsT_length (m s : Nat) : (rowsT m s).length = 3 * m := by simp [rowsT]
theorem rowsT_at (m s j : Nat) (h : j < 3 * m) : (rowsT m s)[j]? = some (.int .i64 (cellT m s j)) := by
  rw [rowsT, List.getElem?_map, List.getElem?_range h]; rfl

theorem later : ∀ i, i < 513 → ∀ b, b < 2 → nx b i = 0 ∨ i < nx b i := by decide +kernel
theorem parent : ∀ i, i < 513 → ∀ b, b < 2 → nx b i = 0 ∨ pa (nx b i) = 3 * i + b := by decide +kernel
theorem leaves : ∀ i, i < 513 → sy i < 257 → lf (sy i) = i := by decide +kernel

/-- One place more, and the way to it. -/
theorem rowsT_grow (m s a b : Nat) (hb : b < 2) (ha : a < m) (hm : m < 513) (hn : nx b a = m) (hs : ¬ sy m < s) :
    (rowsT m s ++ [Value.int .i64 0, Value.int .i64 0, Value.int .i64 (-1)]).set (3 * a + b) (Value.int .i64 m) = rowsT (m + 1) s := by
  apply List.ext_getElem?
  intro j
  have hl := rowsT_length m s
  by_cases hj : j < 3 * (m + 1)
  · rw [rowsT_at (m + 1) s j hj]
    by_cases he : 3 * a + b = j
    · subst he
      rw [List.getElem?_set_self (by rw [List.length_append, hl]; simp; omega)]
      have h1 : (3 * a + b) % 3 = b := by omega
      have h2 : (3 * a + b) / 3 = a := by omega
      rw [cellT, h1, h2, if_pos hb, hn, if_pos (by omega)]
    · rw [List.getElem?_set_ne he]
      by_cases hj2 : j < 3 * m
      · rw [List.getElem?_append_left (by omega), rowsT_at m s j hj2]
        congr 2
        rw [cellT, cellT]
        by_cases hf : j % 3 < 2
        · rw [if_pos hf, if_pos hf]
          have hne : nx (j % 3) (j / 3) ≠ m := by
            intro h
            rcases parent (j / 3) (by omega) (j % 3) hf with h3 | h3
            · omega
            · rcases parent a (by omega) b hb with h4 | h4
              · omega
              · rw [h] at h3; rw [hn] at h4; omega
          by_cases h5 : nx (j % 3) (j / 3) < m
          · rw [if_pos h5, if_pos (by omega)]
          · rw [if_neg h5, if_neg (by omega)]
        · rw [if_neg hf, if_neg hf]
      · rw [List.getElem?_append_right (by omega), hl]
        have h6 : j / 3 = m := by omega
        rw [cellT, h6]
        have h7 : j % 3 = 0 ∨ j % 3 = 1 ∨ j % 3 = 2 := by omega
        rcases h7 with h7 | h7 | h7
        · rw [h7, if_pos (by omega), show j - 3 * m = 0 from by omega]
          rcases later m hm 0 (by omega) with h8 | h8
          · rw [h8, if_pos (by omega)]; rfl
          · rw [if_neg (by omega)]; rfl
        · rw [h7, if_pos (by omega), show j - 3 * m = 1 from by omega]
          rcases later m hm 1 (by omega) with h8 | h8
          · rw [h8, if_pos (by omega)]; rfl
          · rw [if_neg (by omega)]; rfl
        · rw [h7, if_neg (by omega), if_neg hs, show j - 3 * m = 2 from by omega]; rfl
  · rw [List.getElem?_eq_none (by rw [List.length_set, List.length_append, hl]; simp; omega), List.getElem?_eq_none (by rw [rowsT_length]; omega)]

/-- A symbol ends. -/
theorem rowsT_leaf (m s a : Nat) (ha : a < m) (hm : m ≤ 513) (hs : s < 257) (h : sy a = s) : (rowsT m s).set (3 * a + 2) (Value.int .i64 s) = rowsT m (s + 1) := by
  apply List.ext_getElem?
  intro j
  have hl := rowsT_length m s
  by_cases hj : j < 3 * m
  · rw [rowsT_at m (s + 1) j hj]
    by_cases he : 3 * a + 2 = j
    · subst he
      rw [List.getElem?_set_self (by omega)]
      have h1 : (3 * a + 2) % 3 = 2 := by omega
      have h2 : (3 * a + 2) / 3 = a := by omega
      rw [cellT, h1, h2, if_neg (by omega), h, if_pos (by omega)]
    · rw [List.getElem?_set_ne he, rowsT_at m s j hj]
      congr 2
      rw [cellT, cellT]
      by_cases hf : j % 3 < 2
      · rw [if_pos hf, if_pos hf]
      · rw [if_neg hf, if_neg hf]
        have hne : sy (j / 3) ≠ s := by
          intro h3
          have h4 := leaves (j / 3) (by omega) (by omega)
          have h5 := leaves a (by omega) (by omega)
          rw [h3] at h4; rw [h] at h5
          omega
        by_cases h6 : sy (j / 3) < s
        · rw [if_pos h6, if_pos (by omega)]
        · rw [if_neg h6, if_neg (by omega)]
  · rw [List.getElem?_eq_none (by rw [List.length_set, hl]; omega), List.getElem?_eq_none (by rw [rowsT_length]; omega)]

/-- The way of a code in a tree of m places, the new places one behind the other. -/
def chkF (s : Nat) : List Bool → Nat → Nat → Option (Nat × Nat)
  | [], a, m => some (a, m)
  | b :: r, a, m => if nx (bN b) a = m then (if sy m < s then none else chkF s r m (m + 1)) else if nx (bN b) a = 0 then none else if nx (bN b) a < m then chkF s r (nx (bN b) a) m else none
def endF (s : Nat) : Option (Nat × Nat) → Option Nat
  | some (a, m) => if sy a = s then some m else none
  | none => none
def allF : Nat → Nat → Nat → Option Nat
  | 0, _, m => some m
  | f + 1, s, m => match endF s (chkF s (cb s) 0 m) with
    | some m' => allF f (s + 1) m'
    | none => none
theorem all_codes : allF 257 0 1 = some 513 := by decide +kernel

theorem chkF_le (s : Nat) : ∀ (l : List Bool) (a m a' m' : Nat), chkF s l a m = some (a', m') → m ≤ m'
  | [], a, m, a', m', h => by simp only [chkF, Option.some.injEq, Prod.mk.injEq] at h; omega
  | b :: r, a, m, a', m', h => by
    rw [chkF] at h
    split at h
    · split at h
      · cases h
      · have := chkF_le s r _ _ _ _ h; omega
    · split at h
      · cases h
      · split at h
        · exact chkF_le s r _ _ _ _ h
        · cases h
theorem endF_some {s : Nat} {x : Option (Nat × Nat)} {m : Nat} (h : endF s x = some m) : ∃ a, x = some (a, m) ∧ sy a = s := by
  match x, h with
  | some (a, m'), h =>
    rw [endF] at h
    split at h
    · rename_i h1
      simp only [Option.some.injEq] at h
      exact ⟨a, by rw [h], h1⟩
    · cases h
theorem allF_le : ∀ (f s m r : Nat), allF f s m = some r → m ≤ r
  | 0, s, m, r, h => by simp only [allF, Option.some.injEq] at h; omega
  | f + 1, s, m, r, h => by
    rw [allF] at h
    split at h
    · rename_i m' h1
      obtain ⟨a, h2, _⟩ := endF_some h1
      have h3 := chkF_le s _ _ _ _ _ h2
      have h4 := allF_le f _ _ _ h
      omega
    · cases h

/-- What is left of symbol s, j bits before its code's end. -/
def RestT (s j a m : Nat) : Prop := ∃ a' m', chkF s (bitsN (code s) j) a m = some (a', m') ∧ sy a' = s ∧ allF (256 - s) (s + 1) m' = some 513
theorem rest_start (s m : Nat) (hs : s < 257) (h : allF (257 - s) s m = some 513) : RestT s (len s) 0 m := by
  rw [show 257 - s = (256 - s) + 1 from by omega, allF] at h
  split at h
  · rename_i m' h1
    obtain ⟨a, h2, h3⟩ := endF_some h1
    exact ⟨a, m', h2, h3, h⟩
  · cases h
theorem rest_end (s a m : Nat) (h : RestT s 0 a m) : sy a = s ∧ allF (256 - s) (s + 1) m = some 513 := by
  obtain ⟨a', m', h1, h2, h3⟩ := h
  simp only [bitsN, chkF, Option.some.injEq, Prod.mk.injEq] at h1
  obtain ⟨rfl, rfl⟩ := h1
  exact ⟨h2, h3⟩
theorem rest_le (s j a m : Nat) (h : RestT s j a m) : m ≤ 513 := by
  obtain ⟨a', m', h1, h2, h3⟩ := h
  have := chkF_le s _ _ _ _ _ h1
  have := allF_le _ _ _ _ h3
  omega
/-- A bit more: there is a place behind it, or it is the next new one. -/
theorem rest_step (s j a m : Nat) (h : RestT s (j + 1) a m) :
    (nx (bN ((code s).testBit j)) a = m ∧ m < 513 ∧ ¬ sy m < s ∧ RestT s j m (m + 1)) ∨
    (nx (bN ((code s).testBit j)) a ≠ 0 ∧ nx (bN ((code s).testBit j)) a < m ∧ RestT s j (nx (bN ((code s).testBit j)) a) m) := by
  have hle := rest_le s _ _ _ h
  obtain ⟨a', m', h1, h2, h3⟩ := h
  rw [bitsN_succ, chkF] at h1
  split at h1
  · rename_i h4
    split at h1
    · cases h1
    · rename_i h5
      have hr : RestT s j m (m + 1) := ⟨a', m', h1, h2, h3⟩
      exact .inl ⟨h4, by have := rest_le _ _ _ _ hr; omega, h5, hr⟩
  · split at h1
    · cases h1
    · rename_i h5
      split at h1
      · rename_i h6
        exact .inr ⟨h5, h6, a', m', h1, h2, h3⟩
      · cases h1
theorem cellT_next (m s a b : Nat) (hb : b < 2) : cellT m s (3 * a + b) = if nx b a < m then (nx b a : Int) else 0 := by
  rw [cellT, show (3 * a + b) % 3 = b from by omega, show (3 * a + b) / 3 = a from by omega, if_pos hb]
theorem cellT_sym (m s a : Nat) : cellT m s (3 * a + 2) = if sy a < s then (sy a : Int) else -1 := by
  rw [cellT, show (3 * a + 2) % 3 = 2 from by omega, show (3 * a + 2) / 3 = a from by omega, if_neg (by omega)]
end Huf
end Go.Proofs.YtdkgachgohilcaaDoor
