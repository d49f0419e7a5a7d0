/- The contracts of the document's PutText and TakeText of layer 3. Layer 5: the document's Encode: its state along a list; one round. Layer 5: the document's Encode: one field; the whole. Layer 5: the document's Encode as a whole. -/
import Derived.Test.YtdkgachgohilcaaDoorRows
import Derived.Test.YtdkgachgohilcaaDoorGP04
import Derived.Test.YtdkgachgohilcaaDoorGP01
import Derived.Test.YtdkgachgohilcaaDoorGP02
import Derived.Test.YtdkgachgohilcaaDoorGP03
import Derived.Test.YtdkgachgohilcaaDoorGP17
import Derived.Test.YtdkgachgohilcaaDoorGP18
import Derived.Test.YtdkgachgohilcaaDoorGP06
import Derived.WalkKit
import Derived.WalkSpells
import Derived.WalkLawsBesides
import Derived.Lib.Hide
import Derived.Outline
import Derived.Test.YtdkgachgohilcaaDoorGE01
import Derived.Test.YtdkgachgohilcaaDoorGD05
import Derived.Deep.LoopGhost
import Derived.Test.YtdkgachgohilcaaDoorGP15
set_option linter.unusedVariables false
set_option linter.unusedSimpArgs false
namespace Go.Proofs.YtdkgachgohilcaaDoor
open Go.RowKit
open Huf Pre Mem Gen
set_option linter.unusedVariables false

theorem rputint_at (f n : Nat) (F : Int) (hF : F = (f : Int)) (v : World) (hf : f < 256) (hn : n < 4294967296) : Calls Tryd.prog 45 #[.int .u8 F, .int .i64 7, .int .u32 n] v (MadeB v (putI f 7 n)) := by
  subst hF
  exact rputint_any f 7 n v hf (by decide) (by decide) hn
theorem rputtext_yes (s : ByteArray) (w : World) (hs : s.size ≤ 1048576) (hlt : sizeV s.data.toList < s.size) :
    Calls Tryd.prog 47 #[.string s] w (MadeB w (putT s.data.toList)) := by
  obtain ⟨i0, hi, hz0, hz1, hz2⟩ := info_parts info_u8
  have HI := Lib.hid hi
  have HZ0 := Lib.hid hz0
  have HZ1 := Lib.hid hz1
  have HZ2 := Lib.hid hz2
  clear hi hz0 hz1 hz2
  have HS := Lib.hid (fun v => rsize_any s v (by omega))
  have HEn := Lib.hid (fun v => rencode_any s v hs)
  have hel : (enc s.data.toList).length = sizeV s.data.toList := by rw [enc_length]; rfl
  have hput := putI_len 128 7 (enc s.data.toList).length
  have HP : Hid (putT s.data.toList = putI 128 7 (enc s.data.toList).length ++ enc s.data.toList) := Lib.hid (by rw [putT, list_len, if_pos hlt])
  generalize putT s.data.toList = R at HP ⊢
  have hln : (enc s.data.toList).length ≤ 1048576 := by omega
  generalize sizeV s.data.toList = z at HS hel hlt
  generalize enc s.data.toList = X at HEn hel hput HP hln
  subst hel
  have HPut := Lib.hid (fun v => rputint_at 128 X.length 128 rfl v (by decide) (by omega))
  have HRl : Hid (R.length ≤ 140737488355328) := Lib.hid (by rw [HP.out, List.length_append]; omega)
  generalize putI 128 7 X.length = Y at hput HP HPut
  have hlt' : (X.length : Int) < s.size := by omega
  clear hput
  go_enter Tryd.func47, Tryd.ntmps47
  go_wp2_with fail
  refine (HS.out _).mono ?_; rintro e w1 ⟨rfl, b1⟩
  go_wp2_with fail
  refine (HEn.out _).mono ?_; rintro e w2 ⟨ad2, cp2, rfl, hr2, N2, b2⟩
  have R2 := Lib.hid hr2
  replace b2 := below_step b1 b2
  clear hr2
  go_wp2_with fail
  refine (HPut.out _).mono ?_; rintro e w3 ⟨ad3, cp3, rfl, hown3, b3⟩
  have R3 : Hid (RB w3 ad2 X) := Lib.hid (R2.out.below b3)
  have HBb := Lib.hid b2.size
  have HBs := Lib.hid b3.size
  have HO3 : Hid (w3.ownsRow w2.heap.size 5 1 (.slice ad3 Y.length cp3) Y.length (bvs Y)) := Lib.hid hown3.out
  clear hown3
  go_wp2_with (at_builtin; refine append_rb3 Tryd.underlying24 HI.out HZ0.out HZ1.out HZ2.out rfl (.tmp 14) (.tmp 15) rfl w2.heap.size ad3 cp3 Y rfl HO3.out ad2 X cp2 rfl N2.out R3.out R HP.out HRl.out HBs.out ?_; intro ad4 cp4 w4 hown4 hb4)
  go_ret
  exact ⟨ad4, cp4, rfl, Lib.hid (own_base hown4.out HBb.out), below_step b2 (hb4 _ _ b3 (Nat.le_refl _))⟩

theorem rputtext_no (s : ByteArray) (w : World) (hs : s.size ≤ 1048576) (hlt : ¬ sizeV s.data.toList < s.size) :
    Calls Tryd.prog 47 #[.string s] w (MadeB w (putT s.data.toList)) := by
  obtain ⟨i0, hi, hz0, hz1, hz2⟩ := info_parts info_u8
  have HI := Lib.hid hi
  have HZ0 := Lib.hid hz0
  have HZ1 := Lib.hid hz1
  have HZ2 := Lib.hid hz2
  clear hi hz0 hz1 hz2
  have HS := Lib.hid (fun v => rsize_any s v (by omega))
  have hput := putI_len 0 7 s.size
  have HP : Hid (putT s.data.toList = putI 0 7 s.size ++ s.data.toList) := Lib.hid (by rw [putT, list_len, if_neg hlt])
  generalize putT s.data.toList = R at HP ⊢
  have HPut := Lib.hid (fun v => rputint_at 0 s.size 0 rfl v (by decide) (by omega))
  have HRl : Hid (R.length ≤ 140737488355328) := Lib.hid (by rw [HP.out, List.length_append, list_len]; omega)
  generalize sizeV s.data.toList = z at HS hlt
  generalize putI 0 7 s.size = Y at hput HP HPut
  have hlt' : ¬ (z : Int) < s.size := by omega
  clear hput
  go_enter Tryd.func47, Tryd.ntmps47
  go_wp2_with fail
  refine (HS.out _).mono ?_; rintro e w1 ⟨rfl, b1⟩
  go_wp2_with fail
  refine (HPut.out _).mono ?_; rintro e w3 ⟨ad3, cp3, rfl, hown3, b3⟩
  have HBb := Lib.hid b1.size
  have HBs := Lib.hid b3.size
  have HO3 : Hid (w3.ownsRow w1.heap.size 5 1 (.slice ad3 Y.length cp3) Y.length (bvs Y)) := Lib.hid hown3.out
  clear hown3
  go_wp2_with (at_builtin; refine append_str3 Tryd.underlying24 Tryd.underlying9 HI.out HZ0.out HZ1.out HZ2.out rfl (.tmp 20) (.tmp 21) rfl w1.heap.size (.slice ad3 Y.length cp3) Y rfl HO3.out s rfl R HP.out HRl.out HBs.out ?_; intro ad4 cp4 w4 hown4 hb4)
  go_ret
  exact ⟨ad4, cp4, rfl, Lib.hid (own_base hown4.out HBb.out), below_step b1 (hb4 _ _ b3 (Nat.le_refl _))⟩

theorem rputtext_any (s : ByteArray) (w : World) (hs : s.size ≤ 1048576) :
    Calls Tryd.prog 47 #[.string s] w (MadeB w (putT s.data.toList)) := by
  by_cases hlt : sizeV s.data.toList < s.size
  · exact rputtext_yes s w hs hlt
  · exact rputtext_no s w hs hlt
end Go.Proofs.YtdkgachgohilcaaDoor

namespace Go.Proofs.YtdkgachgohilcaaDoor
open Go.RowKit
open Huf Pre Tab Hpk Arg Mem Gen Wr Go.Proofs.YtdkgachgohilcaaDoor.Obj
set_option linter.unusedVariables false

/-- Along Encode: the encoder, and the bytes so far. -/
structure EDs (w0 : World) (L0 : List Nat) (g own told least : Nat) (L : List Nat) (m : Nat) (rows : List FdM) (oa : Option Addr) (oc : Nat) (out : List UInt8) (w : World) : Prop where
  kept : Kept L0 w0 w
  enc : REnc w L g own told least m rows
  new : ∀ k ∈ L, k ∈ L0 ∨ w0.heap.size ≤ k
  old : g ∈ L0 ∧ ∀ k ∈ L0, k < w0.heap.size
  sum : csum rows ≤ m ∧ m ≤ 65536
  out : OutB w0.heap.size L oa oc out w
section
variable {w0 w w' : World} {L0 L : List Nat} {g own told least m oc oc' bx : Nat} {rows : List FdM} {oa oa' : Option Addr} {out Z : List UInt8} {fn fv : ByteArray} {fb : Bool}
theorem EDs.bs (h : EDs w0 L0 g own told least L m rows oa oc out w) : w0.heap.size ≤ w.heap.size ∧ ∀ k ∈ L, k < w.heap.size := ⟨h.kept.size, GTab.blocks h.enc⟩
theorem EDs.below (h : EDs w0 L0 g own told least L m rows oa oc out w) (hb : Below w.heap.size w w') : EDs w0 L0 g own told least L m rows oa oc out w' :=
  ⟨h.kept.then hb, GTab.below h.enc hb, h.new, h.old, h.sum, h.out.below hb⟩
theorem EDs.grew (h : EDs w0 L0 g own told least L m rows oa oc out w) (hG : Grew w0.heap.size L w oa oa' oc' Z w') : EDs w0 L0 g own told least L m rows oa' oc' Z w' :=
  ⟨hG.std.kept h.kept rfl, GTab.kept h.enc hG.std.size (fun k hk => hG.std.block k (h.bs.2 k hk) (.inr hk)), h.new, h.old, h.sum, hG.out⟩
theorem EDs.turn {m2 : Nat} {rows2 : List FdM} {L2 : List Nat} (h : EDs w0 L0 g own told least L m rows oa oc out w) (hk : Kept L w w') (hd : REnc w' L2 g own told least m2 rows2) (hn : ∀ k ∈ L2, k ∈ L ∨ w.heap.size ≤ k) (hs : csum rows2 ≤ m2 ∧ m2 ≤ 65536) : EDs w0 L0 g own told least L2 m2 rows2 oa oc out w' := by
  have hks := h.kept.size
  refine ⟨h.kept.trans hk h.new, hd, fun k hk2 => ?_, h.old, hs, h.out.kept hk hn⟩
  rcases hn k hk2 with h1 | h1
  · exact h.new k h1
  · exact .inr (by omega)
theorem REnc.gL (h : REnc w L g own told least m rows) : g ∈ L := by obtain ⟨_, _, hg, _⟩ := h; exact hg
theorem EDs.set (h : EDs w0 L0 g own told least L m rows oa oc out w) (i : Nat) (v : Value) {own2 told2 least2 : Nat} (he : REnc (w.setCell ⟨g, i, none⟩ v) L g own2 told2 least2 m rows) : EDs w0 L0 g own2 told2 least2 L m rows oa oc out (w.setCell ⟨g, i, none⟩ v) := by
  have hg := h.enc.gL
  refine ⟨h.kept.setCell (p := ⟨g, i, none⟩) (.inl h.old.1) v, he, h.new, h.old, h.sum, h.out.stand (by simp [World.setCell]) (fun b o s e => Below.heap_setCell _ _ _ _ (fun e2 => (h.out.apart b o s e).2 (by simp only at e2; rw [e2]; exact hg))) (fun k hk => .inl hk)⟩
theorem Box.grew (h : Box w0 L oa bx fn fv fb w) (hG : Grew w0.heap.size L w oa oa' oc' Z w') : Box w0 L oa' bx fn fv fb w' := by
  have hlt := (Array.getElem?_eq_some_iff.1 h.cells).1
  refine ⟨(hG.blk bx hlt (fun o s e => h.other bx o s e rfl)).trans h.cells, h.new, fun b o s e e2 => ?_⟩
  subst e2
  rcases hG.new b o s e with ⟨o', e'⟩ | h1
  · exact h.other b o' none e' rfl
  · omega
theorem Box.cs (h : Box w0 L oa bx fn fv fb w) : w.cell? ⟨bx, 0, none⟩ = some (.string fn) ∧ w.cell? ⟨bx, 1, none⟩ = some (.string fv) ∧ w.cell? ⟨bx, 2, none⟩ = some (.bool fb) := ⟨cell_at h.cells 0, cell_at h.cells 1, cell_at h.cells 2⟩
end

/-- From the value on. -/
theorem enc_t26 {Q : Exit → Act → World → Prop} {w0 : World} {L0 L : List Nat} {g own told least m : Nat} {rows : List FdM} {oa la : Option Addr} {oc ln lcap i k bx : Nat} {out : List UInt8} {bo nv cm : Bool} {fn fv : ByteArray} {fb : Bool} (a : Act) (w : World)
    (hS : EDs w0 L0 g own told least L m rows oa oc out w) (hX : Box w0 L oa bx fn fv fb w) (hn : fn.size ≤ 1048576) (hv : fv.size ≤ 1048576) (hlen : out.length ≤ 1000000000)
    (ha : Fr.Is 155 [(0, .pointer (some ⟨g, 0, none⟩)), (1, .slice la ln lcap), (5, .slice oa out.length oc), (6, .int .i64 m), (7, .int .i64 i), (8, .pointer (some ⟨bx, 0, none⟩)), (9, .int .i64 k), (10, .bool bo), (11, .bool nv), (12, .bool cm)] a)
    (hQ : ∀ a' w' L2 oa2 oc2 out2 rows2, out2 = out ++ putT (txt fv) → rows2 = (if cm = true then addT m rows ⟨fn, fv, fb⟩ else rows) → EDs w0 L0 g own told least L2 m rows2 oa2 oc2 out2 w' →
      Fr.Is 155 [(0, .pointer (some ⟨g, 0, none⟩)), (1, .slice la ln lcap), (5, .slice oa2 out2.length oc2), (6, .int .i64 m), (7, .int .i64 i)] a' → Q .normal a' w') :
    (Fr.blk Tryd.f23 1 7).wp Tryd.prog Q a w := by
  conv => arg 2; whnf
  have hpl := putT_len (txt fv)
  have htl : (txt fv).length = fv.size := by simp [txt]
  refine wp_seq ?_
  refine enc_r26 (Y := putT (txt fv)) (Z := out ++ putT (txt fv)) (B := w0.heap.size) (L := L) a w (Lib.hid (fun v => rputtext_any fv v hv)) (Lib.hid (putT_ne _)) (Lib.hid hS.out) (Lib.hid hS.bs) (Lib.hid rfl) (Lib.hid (by rw [List.length_append]; omega)) (Lib.hid rfl) hX.cs.2.1 ha (Lib.hid (fun oa' oc' w1 a1 h1 hG => ?_))
  have hS1 := hS.grew hG
  have hX1 := hX.grew hG
  refine wp_seq ?_
  refine enc_r27 a1 w1 h1 (Lib.hid (fun a2 h2 => ?_))
  cases cm with
  | false =>
    refine wp_cond_false (h2.get (by simp)) ?_
    refine wp_skip ?_
    exact hQ _ _ _ _ _ _ _ rfl rfl hS1 (h2.less (by simp))
  | true =>
    refine wp_cond_true (h2.get (by simp)) ?_
    have hsum := hS.sum
    have hA := fun v (hb : Below w1.heap.size w1 v) => gadd_any 55 #[.int .i64 own, .int .i64 told, .int .i64 least, .int .i64 0, .slice none 0 0] g 3 m rows ⟨fn, fv, fb⟩ L v (show 3 + 1 < 5 from by decide) (GTab.below hS1.enc hb) (by omega) hsum.2 (by simp only; omega) (by simp only; omega)
    refine enc_r28 (la := la) (ln := ln) (lcap := lcap) (on := (out ++ putT (txt fv)).length) (oc := oc') (oa := oa') (m := m) (i := i) (bx := bx) (fn := fn) (fv := fv) (fb := fb) (S := fun w' => ∃ L2, EDs w0 L0 g own told least L2 m (addT m rows ⟨fn, fv, fb⟩) oa' oc' (out ++ putT (txt fv)) w') a2 w1 hX1.cs.1 hX1.cs.2.1 hX1.cs.2.2 (Lib.hid (fun v hb => (hA v hb).mono (fun e w' hw => ?_))) (h2.less (by simp)) (Lib.hid (fun w2 a3 h3 hS2 => ?_))
    · obtain ⟨rfl, L', hT, hK, hL⟩ := hw
      have hXv := hX1.below hb
      have hlt := (Array.getElem?_eq_some_iff.1 hXv.cells).1
      have hbx' : w'.heap[bx]? = _ := (hK.block bx hlt hXv.new.2).trans hXv.cells
      exact ⟨rfl, ⟨L', (hS1.below hb).turn hK hT hL ⟨addT_sum m rows _, hsum.2⟩⟩, cell_at hbx' 0, cell_at hbx' 1, cell_at hbx' 2⟩
    · obtain ⟨L2, hS2⟩ := hS2
      exact hQ _ _ _ _ _ _ _ rfl rfl hS2 (h3.less (by simp))

/-- The texts of a field. -/
def txT (k : Nat) (fn fv : ByteArray) : List UInt8 := (if k = 0 then putT (txt fn) else []) ++ putT (txt fv)
/-- From the test of the name's number on. -/
theorem enc_t24 {Q : Exit → Act → World → Prop} {w0 : World} {L0 L : List Nat} {g own told least m : Nat} {rows : List FdM} {oa la : Option Addr} {oc ln lcap i k bx : Nat} {out : List UInt8} {bo nv cm : Bool} {fn fv : ByteArray} {fb : Bool} (a : Act) (w : World)
    (hS : EDs w0 L0 g own told least L m rows oa oc out w) (hX : Box w0 L oa bx fn fv fb w) (hn : fn.size ≤ 1048576) (hv : fv.size ≤ 1048576) (hlen : out.length ≤ 900000000)
    (ha : Fr.Is 155 [(0, .pointer (some ⟨g, 0, none⟩)), (1, .slice la ln lcap), (5, .slice oa out.length oc), (6, .int .i64 m), (7, .int .i64 i), (8, .pointer (some ⟨bx, 0, none⟩)), (9, .int .i64 k), (10, .bool bo), (11, .bool nv), (12, .bool cm)] a)
    (hQ : ∀ a' w' L2 oa2 oc2 out2 rows2, out2 = out ++ txT k fn fv → rows2 = (if cm = true then addT m rows ⟨fn, fv, fb⟩ else rows) → EDs w0 L0 g own told least L2 m rows2 oa2 oc2 out2 w' →
      Fr.Is 155 [(0, .pointer (some ⟨g, 0, none⟩)), (1, .slice la ln lcap), (5, .slice oa2 out2.length oc2), (6, .int .i64 m), (7, .int .i64 i)] a' → Q .normal a' w') :
    (Fr.blk Tryd.f23 1 6).wp Tryd.prog Q a w := by
  conv => arg 2; whnf
  have hpl := putT_len (txt fn)
  have htl : (txt fn).length = fn.size := by simp [txt]
  refine wp_seq (wp_seq ?_)
  refine enc_r24 a w (decide (k = 0)) (by simp) ha (Lib.hid (fun a1 h1 => ?_))
  by_cases hk : k = 0
  · refine wp_cond_true (h1.get (i := 137) (v := .bool true) (by simp [hk])) ?_
    refine enc_r25 (g := g) (ln := ln) (lcap := lcap) (la := la) (on := out.length) (oc := oc) (oa := oa) (m := m) (i := i) (k := k) (bx := bx) (bo := bo) (nv := nv) (cm := cm) (s := fn) (Y := putT (txt fn)) (Z := out ++ putT (txt fn)) (B := w0.heap.size) (L := L) a1 w (Lib.hid (fun v => rputtext_any fn v hn)) (Lib.hid (putT_ne _)) (Lib.hid hS.out) (Lib.hid hS.bs) (Lib.hid rfl) (Lib.hid (by rw [List.length_append]; omega)) (Lib.hid rfl) hX.cs.1 (h1.less (by simp)) (Lib.hid (fun oa' oc' w1 a2 h2 hG => ?_))
    refine enc_t26 a2 w1 (hS.grew hG) (hX.grew hG) hn hv (by rw [List.length_append]; omega) h2 (fun a' w' L2 oa2 oc2 out2 rows2 e1 e2 hS2 hf => hQ a' w' L2 oa2 oc2 out2 rows2 ?_ e2 hS2 hf)
    rw [e1, txT, if_pos hk, List.append_assoc]
  · refine wp_cond_false (h1.get (i := 137) (v := .bool false) (by simp [hk])) ?_
    refine wp_skip ?_
    refine enc_t26 (ln := ln) (lcap := lcap) (la := la) (i := i) (k := k) (bo := bo) (nv := nv) (cm := cm) a1 w hS hX hn hv (by omega) (h1.less (by simp)) (fun a' w' L2 oa2 oc2 out2 rows2 e1 e2 hS2 hf => hQ a' w' L2 oa2 oc2 out2 rows2 ?_ e2 hS2 hf)
    rw [e1, txT, if_neg hk, List.nil_append]
/-- The number of the name, by the way that is taken. -/
theorem enc_t19 {Q : Exit → Act → World → Prop} {w0 : World} {L0 L : List Nat} {g own told least m : Nat} {rows : List FdM} {oa la : Option Addr} {oc ln lcap i k bx : Nat} {out : List UInt8} {bo nv cm : Bool} {fn fv : ByteArray} {fb : Bool} (a : Act) (w : World)
    (hS : EDs w0 L0 g own told least L m rows oa oc out w) (hX : Box w0 L oa bx fn fv fb w) (hn : fn.size ≤ 1048576) (hv : fv.size ≤ 1048576) (hlen : out.length ≤ 800000000) (hk : k < 4294967296)
    (ha : Fr.Is 155 [(0, .pointer (some ⟨g, 0, none⟩)), (1, .slice la ln lcap), (5, .slice oa out.length oc), (6, .int .i64 m), (7, .int .i64 i), (8, .pointer (some ⟨bx, 0, none⟩)), (9, .int .i64 k), (10, .bool bo), (11, .bool nv), (12, .bool cm)] a)
    (hQ : ∀ a' w' L2 oa2 oc2 out2 rows2, out2 = out ++ (putI (if cm = true then 64 else if nv = true then 16 else 0) (if cm = true then 6 else 4) k ++ txT k fn fv) → rows2 = (if cm = true then addT m rows ⟨fn, fv, fb⟩ else rows) → EDs w0 L0 g own told least L2 m rows2 oa2 oc2 out2 w' →
      Fr.Is 155 [(0, .pointer (some ⟨g, 0, none⟩)), (1, .slice la ln lcap), (5, .slice oa2 out2.length oc2), (6, .int .i64 m), (7, .int .i64 i)] a' → Q .normal a' w') :
    (Fr.blk Tryd.f23 1 5).wp Tryd.prog Q a w := by
  conv => arg 2; whnf
  have hu : IntKind.u32.wrap (k : Int) = k := by
    have hu0 : IntKind.u32.wrap (k : Int) = (k : Int) % 4294967296 := rfl
    rw [hu0]; omega
  refine wp_seq (wp_seq ?_)
  refine enc_r19 a w ha (Lib.hid (fun a1 h1 => ?_))
  cases cm with
  | true =>
    have hpl := putI_len 64 6 k
    refine wp_cond_true (h1.get (by simp)) ?_
    refine enc_r20 (g := g) (ln := ln) (lcap := lcap) (la := la) (on := out.length) (oc := oc) (oa := oa) (m := m) (i := i) (k := k) (bx := bx) (bo := bo) (nv := nv) (cm := true) (Y := putI 64 6 k) (Z := out ++ putI 64 6 k) (B := w0.heap.size) (L := L) a1 w (Lib.hid (fun v => rputint_any 64 6 k v (by decide) (by decide) (by decide) hk)) (Lib.hid (putI_ne _ _ _)) (Lib.hid hS.out) (Lib.hid hS.bs) (Lib.hid rfl) (Lib.hid (by rw [List.length_append]; omega)) (Lib.hid rfl) hu (h1.less (by simp)) (Lib.hid (fun oa' oc' w1 a2 h2 hG => ?_))
    refine enc_t24 a2 w1 (hS.grew hG) (hX.grew hG) hn hv (by rw [List.length_append]; omega) h2 (fun a' w' L2 oa2 oc2 out2 rows2 e1 e2 hS2 hf => hQ a' w' L2 oa2 oc2 out2 rows2 ?_ e2 hS2 hf)
    rw [e1, List.append_assoc]; rfl
  | false =>
    refine wp_cond_false (h1.get (by simp)) ?_
    refine wp_seq ?_
    refine enc_r21 (g := g) (ln := ln) (lcap := lcap) (la := la) (on := out.length) (oc := oc) (oa := oa) (m := m) (i := i) (k := k) (bx := bx) (bo := bo) (nv := nv) (cm := false) a1 w (h1.less (by simp)) (Lib.hid (fun a2 h2 => ?_))
    cases nv with
    | true =>
      have hpl := putI_len 16 4 k
      refine wp_cond_true (h2.get (by simp)) ?_
      refine enc_r22 (g := g) (ln := ln) (lcap := lcap) (la := la) (on := out.length) (oc := oc) (oa := oa) (m := m) (i := i) (k := k) (bx := bx) (bo := bo) (nv := true) (cm := false) (Y := putI 16 4 k) (Z := out ++ putI 16 4 k) (B := w0.heap.size) (L := L) a2 w (Lib.hid (fun v => rputint_any 16 4 k v (by decide) (by decide) (by decide) hk)) (Lib.hid (putI_ne _ _ _)) (Lib.hid hS.out) (Lib.hid hS.bs) (Lib.hid rfl) (Lib.hid (by rw [List.length_append]; omega)) (Lib.hid rfl) hu (h2.less (by simp)) (Lib.hid (fun oa' oc' w1 a3 h3 hG => ?_))
      refine enc_t24 a3 w1 (hS.grew hG) (hX.grew hG) hn hv (by rw [List.length_append]; omega) h3 (fun a' w' L2 oa2 oc2 out2 rows2 e1 e2 hS2 hf => hQ a' w' L2 oa2 oc2 out2 rows2 ?_ e2 hS2 hf)
      rw [e1, List.append_assoc]; rfl
    | false =>
      have hpl := putI_len 0 4 k
      refine wp_cond_false (h2.get (by simp)) ?_
      refine enc_r23 (g := g) (ln := ln) (lcap := lcap) (la := la) (on := out.length) (oc := oc) (oa := oa) (m := m) (i := i) (k := k) (bx := bx) (bo := bo) (nv := false) (cm := false) (Y := putI 0 4 k) (Z := out ++ putI 0 4 k) (B := w0.heap.size) (L := L) a2 w (Lib.hid (fun v => rputint_any 0 4 k v (by decide) (by decide) (by decide) hk)) (Lib.hid (putI_ne _ _ _)) (Lib.hid hS.out) (Lib.hid hS.bs) (Lib.hid rfl) (Lib.hid (by rw [List.length_append]; omega)) (Lib.hid rfl) hu (h2.less (by simp)) (Lib.hid (fun oa' oc' w1 a3 h3 hG => ?_))
      refine enc_t24 a3 w1 (hS.grew hG) (hX.grew hG) hn hv (by rw [List.length_append]; omega) h3 (fun a' w' L2 oa2 oc2 out2 rows2 e1 e2 hS2 hf => hQ a' w' L2 oa2 oc2 out2 rows2 ?_ e2 hS2 hf)
      rw [e1, List.append_assoc]; rfl
end Go.Proofs.YtdkgachgohilcaaDoor

namespace Go.Proofs.YtdkgachgohilcaaDoor
open Go.RowKit
open Huf Pre Tab Hpk Arg Mem Gen Wr Go.Proofs.YtdkgachgohilcaaDoor.Obj
set_option linter.unusedVariables false

set_option maxHeartbeats 1000000 in
theorem enc_round {Q : Exit → Act → World → Prop} {w0 : World} {L0 L : List Nat} {g own told least m : Nat} {rows : List FdM} {oa : Option Addr} {oc ln lcap i lb off : Nat} {out : List UInt8} {f : FdM} (a : Act) (w : World)
    (hS : EDs w0 L0 g own told least L m rows oa oc out w) (hi : i < ln) (hf : Rw.CE EFd w lb (off + i * 3) f) (hn : f.name.size ≤ 1048576) (hv : f.value.size ≤ 1048576) (hlen : out.length ≤ 800000000)
    (ha : Fr.Is 155 [(0, .pointer (some ⟨g, 0, none⟩)), (1, .slice (some ⟨lb, off, none⟩) ln lcap), (5, .slice oa out.length oc), (6, .int .i64 m), (7, .int .i64 i)] a)
    (hQ : ∀ e a' w' L2 oa2 oc2 out2 rows2, e = .normal ∨ e = .exit 1 → out2 = out ++ (encField m rows f).1 → rows2 = (encField m rows f).2 → EDs w0 L0 g own told least L2 m rows2 oa2 oc2 out2 w' →
      Fr.Is 155 [(0, .pointer (some ⟨g, 0, none⟩)), (1, .slice (some ⟨lb, off, none⟩) ln lcap), (5, .slice oa2 out2.length oc2), (6, .int .i64 m), (7, .int .i64 i)] a' → Q e a' w') :
    (Fr.blk Tryd.f23 1 0).wp Tryd.prog Q a w := by
  conv => arg 2; whnf
  have hsum := hS.sum
  have hrl := csum_len rows
  obtain ⟨d0, d1, d2⟩ := CE_fd hf
  have hns := nevF_sec f
  have hEF : encField m rows f = if (findT rows f).2 = true ∧ nevF f = false then (putI 128 7 (findT rows f).1, rows)
      else if nevF f = false ∧ cost f ≤ m then (putI 64 6 (findT rows f).1 ++ txT (findT rows f).1 f.name f.value, addT m rows f)
      else (putI (if nevF f then 16 else 0) 4 (findT rows f).1 ++ txT (findT rows f).1 f.name f.value, rows) := rfl
  have hk : (findT rows f).1 < 4294967296 := by
    have hsl : (statics ++ rows).length = 61 + rows.length := by rw [List.length_append, statics_len]
    rw [findT]
    rcases findF_spec f (statics ++ rows) (statics ++ rows) 0 0 rfl (.inl rfl) (Nat.zero_le _) with ⟨h0, _⟩ | ⟨_, h2, _⟩ <;> omega
  have hfind := fun (L : List Nat) (w : World) => gfind_any 55 #[.int .i64 own, .int .i64 told, .int .i64 least, .int .i64 0, .slice none 0 0] g 3 m rows f L w (show 3 + 1 < 5 from by decide)
  have hcost := fun v => cost_any f v (by omega) (by omega)
  generalize findT rows f = T at hEF hk hfind
  obtain ⟨k, bo⟩ := T
  simp only at hEF hk hfind
  generalize hnv : nevF f = nv at hns hEF
  obtain ⟨fn, fv, fb⟩ := f
  simp only at d0 d1 d2 hn hv hns hEF hfind hcost
  rw [hEF] at hQ
  have hu : IntKind.u32.wrap (k : Int) = k := by
    have hu0 : IntKind.u32.wrap (k : Int) = (k : Int) % 4294967296 := rfl
    rw [hu0]; omega
  refine wp_seq ?_
  refine enc_r13 (g := g) (la := none) (fn := fn) (fv := fv) (fb := fb) a w hi d0 d1 d2 ha (Lib.hid (fun a1 h1 => ?_))
  have hS1 := hS.below (below_alloc w (.cells #[.string fn, .string fv, .bool fb] 59))
  have hX1 : Box w0 L oa w.heap.size fn fv fb (w.alloc (.cells #[.string fn, .string fv, .bool fb] 59)) := ⟨heap_alloc_new w _, ⟨hS.kept.size, fun hm => by have := hS.bs.2 _ hm; omega⟩, fun b o s e => by have := hS.out.lt b o s e; omega⟩
  generalize w.alloc (.cells #[.string fn, .string fv, .bool fb] 59) = w1 at hS1 hX1 ⊢
  generalize w.heap.size = bx at h1 hX1
  obtain ⟨c0, c1, c2⟩ := hX1.cs
  refine wp_seq ?_
  refine enc_r14 (g := g) (ln := ln) (lcap := lcap) (on := out.length) (oc := oc) (oa := oa) (m := m) (i := i) (k := k) (bo := bo) a1 w1 c0 c1 c2 (Lib.hid (fun v hb => hfind L v (GTab.below hS1.enc hb) (by omega))) h1 (Lib.hid (fun w2 a2 h2 hb2 => ?_))
  have hS2 := hS1.below hb2
  have hX2 := hX1.below hb2
  obtain ⟨c0, c1, c2⟩ := hX2.cs
  refine wp_seq ?_
  refine enc_r15 a2 w2 c0 c1 c2 nv hns h2 (Lib.hid (fun a3 h3 => ?_))
  refine wp_seq (wp_seq ?_)
  refine enc_r16 a3 w2 h3 (Lib.hid (fun a4 h4 => ?_))
  by_cases hw : bo = true ∧ nv = false
  · obtain ⟨rfl, rfl⟩ := hw
    have hpl := putI_len 128 7 k
    refine wp_cond_true (h4.get (i := 101) (v := .bool true) (by simp)) ?_
    refine wp_seq ?_
    refine enc_r17 (g := g) (ln := ln) (lcap := lcap) (la := some ⟨lb, off, none⟩) (on := out.length) (oc := oc) (oa := oa) (m := m) (i := i) (k := k) (bx := bx) (bo := true) (nv := false) (Y := putI 128 7 k) (Z := out ++ putI 128 7 k) (B := w0.heap.size) (L := L) a4 w2 (Lib.hid (fun v => rputint_any 128 7 k v (by decide) (by decide) (by decide) hk)) (Lib.hid (putI_ne _ _ _)) (Lib.hid hS2.out) (Lib.hid hS2.bs) (Lib.hid rfl) (Lib.hid (by rw [List.length_append]; omega)) (Lib.hid rfl) hu (h4.less (by simp)) (Lib.hid (fun oa' oc' w3 a5 h5 hG => ?_))
    refine wp_exit ?_
    exact hQ _ _ _ _ _ _ _ _ (.inr rfl) (by simp) (by simp) (hS2.grew hG) (h5.less (by simp))
  · refine wp_cond_false (h4.get (i := 101) (v := .bool false) (by cases bo <;> cases nv <;> simp_all)) ?_
    refine wp_skip ?_
    rw [if_neg hw] at hQ
    refine wp_seq ?_
    cases nv with
    | true =>
      refine enc_r18n (g := g) (ln := ln) (lcap := lcap) (la := some ⟨lb, off, none⟩) (on := out.length) (oc := oc) (oa := oa) (m := m) (i := i) (k := k) (bx := bx) (bo := bo) a4 w2 (h4.less (by simp)) (Lib.hid (fun nq a5 h5 => ?_))
      have hbq : Below w2.heap.size w2 (w2.drewN nq) := ⟨rfl, rfl, rfl, Nat.le_refl _, fun _ _ => rfl⟩
      refine enc_t19 (ln := ln) (lcap := lcap) (la := some ⟨lb, off, none⟩) (i := i) (k := k) (bo := bo) (nv := true) (cm := false) a5 (w2.drewN nq) (hS2.below hbq) (hX2.below hbq) hn hv hlen hk h5 (fun a' w' L2 oa2 oc2 out2 rows2 e1 e2 hS3 hf3 => hQ _ a' w' L2 oa2 oc2 out2 rows2 (.inl rfl) ?_ ?_ hS3 hf3)
      · rw [e1]; simp
      · rw [e2]; simp
    | false =>
      refine enc_r18y (g := g) (ln := ln) (lcap := lcap) (la := some ⟨lb, off, none⟩) (on := out.length) (oc := oc) (oa := oa) (m := m) (i := i) (k := k) (bx := bx) (bo := bo) (cf := cost ⟨fn, fv, fb⟩) a4 w2 c0 c1 c2 hS2.enc.cells.2.2.2.1 (Lib.hid hcost) (decide (cost ⟨fn, fv, fb⟩ ≤ m)) (by simp) (h4.less (by simp)) (Lib.hid (fun w3 a5 h5 hb3 => ?_))
      refine enc_t19 (ln := ln) (lcap := lcap) (la := some ⟨lb, off, none⟩) (i := i) (k := k) (bo := bo) (nv := false) (cm := decide (cost ⟨fn, fv, fb⟩ ≤ m)) a5 w3 (hS2.below hb3) (hX2.below hb3) hn hv hlen hk h5 (fun a' w' L2 oa2 oc2 out2 rows2 e1 e2 hS3 hf3 => hQ _ a' w' L2 oa2 oc2 out2 rows2 (.inl rfl) ?_ ?_ hS3 hf3)
      · rw [e1]; by_cases hc : cost ⟨fn, fv, fb⟩ ≤ m <;> simp [hc]
      · rw [e2]; by_cases hc : cost ⟨fn, fv, fb⟩ ≤ m <;> simp [hc]
end Go.Proofs.YtdkgachgohilcaaDoor

namespace Go.Proofs.YtdkgachgohilcaaDoor
open Go.RowKit
open Huf Pre Tab Hpk Arg Mem Gen Wr Go.Proofs.YtdkgachgohilcaaDoor.Obj
set_option linter.unusedVariables false

/-- What the document's Encode leaves. -/
def REncEnd (w : World) (L : List Nat) (g own m : Nat) (R : List UInt8 × List FdM) (e : Ending) (w' : World) : Prop :=
  ∃ L' oa oc, e = .returned (.slice oa R.1.length oc) ∧ EDs w L g own m m L' m R.2 oa oc R.1 w'

theorem renc_ret {R : Ending → World → Prop} {a : Act} {w : World} {v1 : Value} (h : Fr.Is 155 [(4, v1)] a) (hR : R (.returned v1) w) : bodyPost Tryd.prog Tryd.f23 R .ret a w := by
  have h4 : a.tmps.getD 4 undef = v1 := h.2.2 (4, v1) (by simp)
  rw [Array.getD_eq_getD_getElem?] at h4
  exact bodyPost_ret (v := v1) (by simp [results, Tryd.results23, go_sem, h4]) h.1 hR

set_option maxHeartbeats 1000000 in
theorem enc_tail {w0 : World} {L0 L : List Nat} {g own told least m : Nat} {rows : List FdM} {oa la : Option Addr} {oc lcap : Nat} {out : List UInt8} {list : List FdM} (R : List UInt8 × List FdM) (a : Act) (w : World)
    (hS : EDs w0 L0 g own told least L m rows oa oc out w) (hl : Rw.RowE EFd w0 la list) (hla : ∀ b o s, la = some ⟨b, o, s⟩ → list ≠ [] → b ∉ L0) (hsz : ∀ f ∈ list, f.name.size ≤ 1048576 ∧ f.value.size ≤ 1048576) (hsum : csum list ≤ 100000000) (hout : out.length ≤ 12) (hlen : list.length ≤ 1000000000)
    (hR : R = (out ++ (encList m list rows).1, (encList m list rows).2))
    (ha : Fr.Is 155 [(0, .pointer (some ⟨g, 0, none⟩)), (1, .slice la list.length lcap), (5, .slice oa out.length oc), (6, .int .i64 m)] a) :
    (Fr.tail Tryd.f23 4).wp Tryd.prog (bodyPost Tryd.prog Tryd.f23 (REncEnd w0 L0 g own m R)) a w := by
  conv => arg 2; whnf
  obtain ⟨_, c1, c2, _, z1, z2⟩ := hS.enc.cells
  refine wp_seq ?_
  refine enc_r8 (g := g) (blen := list.length) (bcap := lcap) (ba := la) (on := out.length) (oc := oc) (oa := oa) (m := m) (told := told) (least := least) a w ⟨_, c1⟩ z1 ha (Lib.hid (fun a1 h1 => ?_))
  have hS1 := hS.set 1 (.int .i64 m) (hS.enc.told_set m)
  generalize w.setCell ⟨g, 1, none⟩ (.int .i64 m) = w1 at hS1 ⊢
  obtain ⟨_, c1, c2, _, z1, z2⟩ := hS1.enc.cells
  refine wp_seq ?_
  refine enc_r9 (g := g) (blen := list.length) (bcap := lcap) (ba := la) (on := out.length) (oc := oc) (oa := oa) (m := m) (told := m) (least := least) a1 w1 ⟨_, c2⟩ z2 h1 (Lib.hid (fun a2 h2 => ?_))
  have hS2 := hS1.set 2 (.int .i64 m) (hS1.enc.least_set m)
  generalize w1.setCell ⟨g, 2, none⟩ (.int .i64 m) = w2 at hS2 ⊢
  refine wp_seq (wp_seq ?_)
  refine enc_r10 a2 w2 h2 (Lib.hid (fun a3 h3 => ?_))
  refine wp_block ?_
  have hI0 : ∃ (k : Nat) (L2 : List Nat) (rows2 : List FdM) (oa2 : Option Addr) (oc2 : Nat) (out2 : List UInt8), list.length = list.length - k ∧ k ≤ list.length ∧ EDs w0 L0 g own m m L2 m rows2 oa2 oc2 out2 w2 ∧ R = (out2 ++ (encList m (list.drop k) rows2).1, (encList m (list.drop k) rows2).2) ∧ out2.length + csum (list.drop k) ≤ 12 + csum list ∧
      Fr.Is 155 [(0, .pointer (some ⟨g, 0, none⟩)), (1, .slice la list.length lcap), (5, .slice oa2 out2.length oc2), (6, .int .i64 m), (7, .int .i64 k)] a3 :=
    ⟨0, L, rows, oa, oc, out, rfl, Nat.zero_le _, hS2, hR, by rw [List.drop_zero]; omega, h3⟩
  refine wp_loop_ghost (fun n a' w' => ∃ (k : Nat) (L2 : List Nat) (rows2 : List FdM) (oa2 : Option Addr) (oc2 : Nat) (out2 : List UInt8), n = list.length - k ∧ k ≤ list.length ∧ EDs w0 L0 g own m m L2 m rows2 oa2 oc2 out2 w' ∧ R = (out2 ++ (encList m (list.drop k) rows2).1, (encList m (list.drop k) rows2).2) ∧ out2.length + csum (list.drop k) ≤ 12 + csum list ∧
      Fr.Is 155 [(0, .pointer (some ⟨g, 0, none⟩)), (1, .slice la list.length lcap), (5, .slice oa2 out2.length oc2), (6, .int .i64 m), (7, .int .i64 k)] a') list.length hI0 ?_
  clear hI0 hS hS1 hS2 ha h1 h2 h3 hR
  rintro n a7 w7 ⟨k, L2, rows2, oa2, oc2, out2, rfl, hk, hS7, hR7, hb7, h7⟩
  refine wp_seq (wp_seq ?_)
  refine enc_r11 a7 w7 (decide (k < list.length)) (by simp) h7 (Lib.hid (fun a8 h8 => ?_))
  by_cases hlt : k < list.length
  · refine wp_cond_true (h8.get (i := 70) (v := .bool true) (by simp [hlt])) ?_
    refine wp_skip ?_
    refine wp_seq (wp_block ?_)
    obtain ⟨lb, off, rfl, hc⟩ : ∃ b off, la = some ⟨b, off, none⟩ ∧ ∀ i, (h : i < list.length) → Rw.CE EFd w0 b (off + i * 3) list[i] := by
      rcases hl with h | h
      · rw [h] at hlt; simp at hlt
      · exact h
    have hc0 := hc k hlt
    have hlb := World.block_lt_of_cell? w0 _ (CE_fd hc0).1
    have hcw := Rw.CE_local EFd w0 w7 lb _ _ (hS7.kept.block lb hlb (hla lb off none rfl (fun e => by rw [e] at hlt; simp at hlt))) hc0
    have hfs := hsz list[k] (List.getElem_mem hlt)
    rw [List.drop_eq_getElem_cons hlt, encList] at hR7
    rw [List.drop_eq_getElem_cons hlt, csum] at hb7
    have hfl := encField_len m rows2 list[k]
    refine enc_round (lcap := lcap) (ln := list.length) (i := k) (lb := lb) (off := off) a8 w7 hS7 hlt hcw hfs.1 hfs.2 (by omega) (h8.less (by simp)) (fun e a' w' L3 oa3 oc3 out3 rows3 he e1 e2 hS3 hf3 => ?_)
    have hI : ∀ a9, Fr.Is 155 [(0, .pointer (some ⟨g, 0, none⟩)), (1, .slice (some ⟨lb, off, none⟩) list.length lcap), (5, .slice oa3 out3.length oc3), (6, .int .i64 m), (7, .int .i64 ((k : Int) + 1))] a9 → ∃ n', n' < list.length - k ∧ ∃ (k : Nat) (L2 : List Nat) (rows2 : List FdM) (oa2 : Option Addr) (oc2 : Nat) (out2 : List UInt8), n' = list.length - k ∧ k ≤ list.length ∧ EDs w0 L0 g own m m L2 m rows2 oa2 oc2 out2 w' ∧ R = (out2 ++ (encList m (list.drop k) rows2).1, (encList m (list.drop k) rows2).2) ∧ out2.length + csum (list.drop k) ≤ 12 + csum list ∧
      Fr.Is 155 [(0, .pointer (some ⟨g, 0, none⟩)), (1, .slice (some ⟨lb, off, none⟩) list.length lcap), (5, .slice oa2 out2.length oc2), (6, .int .i64 m), (7, .int .i64 k)] a9 := fun a9 h9 =>
      ⟨list.length - (k + 1), by omega, k + 1, L3, rows3, oa3, oc3, out3, rfl, hlt, hS3, by rw [hR7, e1, e2, List.append_assoc], by rw [e1, List.length_append]; omega, h9⟩
    rcases he with rfl | rfl
    · refine enc_r12 (g := g) (ln := list.length) (lcap := lcap) (la := some ⟨lb, off, none⟩) (on := out3.length) (oc := oc3) (oa := oa3) (m := m) (i := k) a' w' (by omega) hf3 (Lib.hid (fun a9 h9 => ?_))
      exact hI a9 h9
    · refine enc_r12 (g := g) (ln := list.length) (lcap := lcap) (la := some ⟨lb, off, none⟩) (on := out3.length) (oc := oc3) (oa := oa3) (m := m) (i := k) a' w' (by omega) hf3 (Lib.hid (fun a9 h9 => ?_))
      exact hI a9 h9
  · refine wp_cond_false (h8.get (i := 70) (v := .bool false) (by simp [hlt])) ?_
    refine wp_exit ?_
    have hnil : list.drop k = [] := List.drop_eq_nil_of_le (by omega)
    rw [hnil, encList, List.append_nil] at hR7
    refine wp_seq ?_
    refine enc_r29 (g := g) (ln := list.length) (lcap := lcap) (la := la) (on := out2.length) (oc := oc2) (oa := oa2) (m := m) a8 w7 (h8.less (by simp)) (Lib.hid (fun a9 h9 => ?_))
    refine wp_ret ?_
    refine renc_ret h9 ?_
    subst hR7
    exact ⟨L2, oa2, oc2, rfl, hS7⟩

set_option maxHeartbeats 1000000 in
theorem rhencode_any {L : List Nat} {g own told least m : Nat} {rows : List FdM} {w : World} (h : REnc w L g own told least m rows) (hs : csum rows ≤ m ∧ m ≤ 65536) (htold : told ≤ 65536) (hleast : least ≤ 65536) (la : Option Addr) (list : List FdM) (lcap : Nat) (hl : Rw.RowE EFd w la list) (hla : ∀ b o s, la = some ⟨b, o, s⟩ → list ≠ [] → b ∉ L) (hsz : ∀ f ∈ list, f.name.size ≤ 1048576 ∧ f.value.size ≤ 1048576) (hsum : csum list ≤ 100000000) :
    Calls Tryd.prog 23 #[.pointer (some ⟨g, 0, none⟩), .slice la list.length lcap] w (REncEnd w L g own m (hdr told least m ++ (encList m list rows).1, (encList m list rows).2)) := by
  have hgL := h.gL
  have hbl := GTab.blocks h
  obtain ⟨_, c1, c2, c3, _, _⟩ := h.cells
  have hln := csum_len list
  have hhl := hdr_len told least m
  have hS : EDs w L g own told least L m rows none 0 [] w := ⟨Kept.refl _ _, h, fun k hk => .inl hk, ⟨hgL, hbl⟩, hs, OutB.bare _ _ _⟩
  have u0 : ∀ x : Nat, x ≤ 65536 → IntKind.u32.wrap (x : Int) = x := fun x hx => by
    have hu0 : IntKind.u32.wrap (x : Int) = (x : Int) % 4294967296 := rfl
    rw [hu0]; omega
  have hp1 := putI_len 32 5 least
  have hp2 := putI_len 32 5 m
  go_enter Tryd.func23, Tryd.ntmps23
  refine wp_seq ?_
  refine enc_r0 (g := g) (blen := list.length) (bcap := lcap) (ba := la) _ w (Fr.Is.mk rfl rfl) (Lib.hid (fun a1 h1 => ?_))
  refine wp_seq ?_
  refine enc_r1 a1 w h1 (Lib.hid (fun a2 h2 => ?_))
  refine wp_seq ?_
  refine enc_r2 a2 w c3 h2 (Lib.hid (fun a3 h3 => ?_))
  refine wp_seq (wp_seq ?_)
  refine enc_r3 (on := 0) (oc := 0) (oa := none) (told := told) (least := least) a3 w c1 c2 (decide (least < told ∧ least < m)) (by simp) h3 (Lib.hid (fun nq a4 h4 => ?_))
  have hbq : Below w.heap.size w (w.drewN nq) := ⟨rfl, rfl, rfl, Nat.le_refl _, fun _ _ => rfl⟩
  have hSq := hS.below hbq
  generalize w.drewN nq = wq at hSq ⊢
  obtain ⟨_, d1, d2, d3, _, _⟩ := hSq.enc.cells
  by_cases hb : least < told ∧ least < m
  · have hh : hdr told least m = putI 32 5 least ++ putI 32 5 m := by rw [hdr, if_pos hb]
    rw [hh]
    refine wp_cond_true (h4.get (i := 34) (v := .bool true) (by simp [hb])) ?_
    refine wp_seq ?_
    refine enc_r4 (g := g) (ln := list.length) (lcap := lcap) (la := la) (on := 0) (oc := 0) (oa := none) (m := m) (least := least) (Y := putI 32 5 least) (out := []) (Z := putI 32 5 least) (B := w.heap.size) (L := L) a4 wq (Lib.hid (fun v => rputint_any 32 5 least v (by decide) (by decide) (by decide) (by omega))) (Lib.hid (putI_ne _ _ _)) (Lib.hid hSq.out) (Lib.hid hSq.bs) (Lib.hid rfl) (Lib.hid (by omega)) (Lib.hid rfl) d2 (u0 least hleast) (h4.less (by simp)) (Lib.hid (fun oa' oc' w1 a5 h5 hG => ?_))
    have hS1 := hSq.grew hG
    refine enc_r5 (g := g) (ln := list.length) (lcap := lcap) (la := la) (on := (putI 32 5 least).length) (oc := oc') (oa := oa') (m := m) (Y := putI 32 5 m) (out := putI 32 5 least) (Z := putI 32 5 least ++ putI 32 5 m) (B := w.heap.size) (L := L) a5 w1 (Lib.hid (fun v => rputint_any 32 5 m v (by decide) (by decide) (by decide) (by omega))) (Lib.hid (putI_ne _ _ _)) (Lib.hid hS1.out) (Lib.hid hS1.bs) (Lib.hid rfl) (Lib.hid (by rw [List.length_append]; omega)) (Lib.hid rfl) (u0 m hs.2) h5 (Lib.hid (fun oa2 oc2 w2 a6 h6 hG2 => ?_))
    exact enc_tail (lcap := lcap) _ a6 w2 (hS1.grew hG2) hl hla hsz hsum (by rw [List.length_append]; omega) (by omega) rfl h6
  · refine wp_cond_false (h4.get (i := 34) (v := .bool false) (by simp only [hb]; simp)) ?_
    refine wp_seq ?_
    refine enc_r6 (g := g) (blen := list.length) (bcap := lcap) (ba := la) (on := 0) (oc := 0) (oa := none) (m := m) (told := told) (least := least) a4 wq d1 (decide (m ≠ told)) (by simp) (h4.less (by simp)) (Lib.hid (fun a5 h5 => ?_))
    by_cases hm : m = told
    · have hh : hdr told least m = [] := by rw [hdr, if_neg hb, if_neg (fun hx => hx hm)]
      rw [hh]
      refine wp_cond_false (h5.get (i := 53) (v := .bool false) (by simp [hm])) ?_
      refine wp_skip ?_
      exact enc_tail (lcap := lcap) (oa := none) (oc := 0) (out := []) _ a5 wq hSq hl hla hsz hsum (by simp) (by omega) rfl (h5.less (by simp))
    · have hh : hdr told least m = putI 32 5 m := by rw [hdr, if_neg hb, if_pos hm]
      rw [hh]
      refine wp_cond_true (h5.get (i := 53) (v := .bool true) (by simp [hm])) ?_
      refine enc_r7 (g := g) (ln := list.length) (lcap := lcap) (la := la) (on := 0) (oc := 0) (oa := none) (m := m) (Y := putI 32 5 m) (out := []) (Z := putI 32 5 m) (B := w.heap.size) (L := L) a5 wq (Lib.hid (fun v => rputint_any 32 5 m v (by decide) (by decide) (by decide) (by omega))) (Lib.hid (putI_ne _ _ _)) (Lib.hid hSq.out) (Lib.hid hSq.bs) (Lib.hid rfl) (Lib.hid (by omega)) (Lib.hid rfl) (u0 m hs.2) (h5.less (by simp)) (Lib.hid (fun oa2 oc2 w2 a6 h6 hG2 => ?_))
      exact enc_tail (lcap := lcap) _ a6 w2 (hSq.grew hG2) hl hla hsz hsum (by omega) (by omega) rfl h6
end Go.Proofs.YtdkgachgohilcaaDoor
