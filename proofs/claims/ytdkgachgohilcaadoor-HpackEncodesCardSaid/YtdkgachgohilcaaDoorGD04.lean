/- Layer 5: the document's Decode, put together. Layer 5: the document's Decode: one round, and its loop. -/
import Derived.Test.YtdkgachgohilcaaDoorRows
import Derived.Test.YtdkgachgohilcaaDoorGD03
import Derived.Test.YtdkgachgohilcaaDoorGD02
import Derived.WalkKit
import Derived.Lib.Hide
set_option linter.unusedVariables false
set_option linter.unusedSimpArgs false
namespace Go.Proofs.YtdkgachgohilcaaDoor
open Go.RowKit
open Huf Pre Tab Hpk Arg Mem Gen Go.Proofs.YtdkgachgohilcaaDoor.Obj
set_option linter.unusedVariables false

/-- In the midst of the document's Decode: its table, and what has come out so far. -/
structure DSt (w0 : World) (L0 : List Nat) (g md ld : Nat) (L : List Nat) (m : Nat) (rows : List FdM) (oa : Option Addr) (oc : Nat) (out : List FdM) (w : World) : Prop where
  kept : Kept L0 w0 w
  dec : RDec w L g md ld false m rows
  new : ∀ k ∈ L, k ∈ L0 ∨ w0.heap.size ≤ k
  old : g ∈ L0 ∧ ∀ k ∈ L0, k < w0.heap.size
  sum : csum rows ≤ m ∧ m ≤ 65536
  row : Rw.QRow EFd w oa oc out
  blk : ∀ b o s, oa = some ⟨b, o, s⟩ → w0.heap.size ≤ b ∧ b ∉ L
section
variable {w0 w w' : World} {L0 L : List Nat} {g md ld m oc : Nat} {rows out : List FdM} {oa : Option Addr}
theorem DSt.below (h : DSt w0 L0 g md ld L m rows oa oc out w) (hb : Below w.heap.size w w') : DSt w0 L0 g md ld L m rows oa oc out w' :=
  ⟨h.kept.then hb, GTab.below h.dec hb, h.new, h.old, h.sum, h.row.below hb, h.blk⟩
/-- The field that is read lies in a box of the call's own. -/
structure Box (w0 : World) (L : List Nat) (oa : Option Addr) (bx : Nat) (fn fv : ByteArray) (fb : Bool) (w : World) : Prop where
  cells : w.heap[bx]? = some (.cells #[.string fn, .string fv, .bool fb] 59 (0, 0))
  new : w0.heap.size ≤ bx ∧ bx ∉ L
  other : ∀ b o s, oa = some ⟨b, o, s⟩ → b ≠ bx
theorem Box.below {bx : Nat} {fn fv : ByteArray} {fb : Bool} (h : Box w0 L oa bx fn fv fb w) (hb : Below w.heap.size w w') : Box w0 L oa bx fn fv fb w' := ⟨block_below hb h.cells, h.new, h.other⟩
/-- The box is written. -/
theorem DSt.box {bx : Nat} {fn fv : ByteArray} {fb : Bool} (h : DSt w0 L0 g md ld L m rows oa oc out w) (hx : Box w0 L oa bx fn fv fb w) (hs : w'.heap.size = w.heap.size) (hos : w'.os = w.os) (ht : w'.tape = w.tape) (ho : w'.output = w.output) (hb : ∀ k, k ≠ bx → w'.heap[k]? = w.heap[k]?) : DSt w0 L0 g md ld L m rows oa oc out w' := by
  have hbl := hx.new
  refine ⟨⟨hos.trans h.kept.os, ht.trans h.kept.tape, ho.trans h.kept.output, by rw [hs]; exact h.kept.size, fun k hk hn => (hb k (by omega)).trans (h.kept.block k hk hn)⟩,
    GTab.kept h.dec (by rw [hs]; exact Nat.le_refl _) (fun k hk => hb k (fun e => hbl.2 (e ▸ hk))), h.new, h.old, h.sum, h.row.block (by rw [hs]; exact Nat.le_refl _) (fun b o s e => hb b (hx.other b o s e)), h.blk⟩
/-- The table turns. -/
theorem DSt.turn {m2 : Nat} {rows2 : List FdM} (h : DSt w0 L0 g md ld L m rows oa oc out w) (hk : Kept L w w') {L2 : List Nat} (hd : RDec w' L2 g md ld false m2 rows2) (hn : ∀ k ∈ L2, k ∈ L ∨ w.heap.size ≤ k) (hs : csum rows2 ≤ m2 ∧ m2 ≤ 65536) : DSt w0 L0 g md ld L2 m2 rows2 oa oc out w' := by
  have hks := h.kept.size
  refine ⟨h.kept.trans hk h.new, hd, fun k hk2 => ?_, h.old, hs, h.row.block hk.size (fun b o s e => ?_), fun b o s e => ⟨(h.blk b o s e).1, fun hm => ?_⟩⟩
  · rcases hn k hk2 with h1 | h1
    · exact h.new k h1
    · exact .inr (by omega)
  · obtain ⟨b', o', e', hlt, _⟩ := h.row.lies _ e
    simp only [Addr.mk.injEq] at e'
    obtain ⟨rfl, _⟩ := e'
    exact hk.block b hlt (h.blk b o s e).2
  · obtain ⟨b', o', e', hlt, _⟩ := h.row.lies _ e
    simp only [Addr.mk.injEq] at e'
    obtain ⟨rfl, _⟩ := e'
    rcases hn b hm with h1 | h1
    · exact (h.blk b o s e).2 h1
    · omega
end

/-- From the test on: comes the field into the table; its cost; it is told. -/
theorem dec_t8 {Q : Exit → Act → World → Prop} {w0 : World} {L0 L : List Nat} {g md ld m : Nat} {rows out : List FdM} {oa : Option Addr} {blen bcap oc cst sizes pos c n er bx : Nat} {ba : Option Addr} {fn fv : ByteArray} {fb : Bool} (a : Act) (w : World)
    (hS : DSt w0 L0 g md ld L m rows oa oc out w) (hX : Box w0 L oa bx fn fv fb w) (hc : c < 256) (hn : fn.size ≤ 140737488351232) (hv : fv.size ≤ 140737488351232) (hcs : cst ≤ 100000000000000) (hlen : out.length + 1 ≤ 1000000000)
    (ha : Fr.Is 131 [(0, .pointer (some ⟨g, 0, none⟩)), (1, .slice ba blen bcap), (6, .slice oa out.length oc), (7, .int .i64 cst), (8, .int .i64 sizes), (9, .int .i64 pos), (10, .int .u8 c), (13, .int .i64 er), (14, .int .i64 n), (15, .pointer (some ⟨bx, 0, none⟩))] a)
    (hQ : ∀ a' w' L2 rows2 oa2 oc2, rows2 = (if bitsOf c = 6 then addT m rows ⟨fn, fv, fb⟩ else rows) → DSt w0 L0 g md ld L2 m rows2 oa2 oc2 (out ++ [⟨fn, fv, fb⟩]) w' →
      Fr.Is 131 [(0, .pointer (some ⟨g, 0, none⟩)), (1, .slice ba blen bcap), (6, .slice oa2 (out ++ [(⟨fn, fv, fb⟩ : FdM)]).length oc2), (7, .int .i64 (cst + cost ⟨fn, fv, fb⟩ : Nat)), (8, .int .i64 sizes), (9, .int .i64 pos)] a' → Q .normal a' w') :
    (Fr.blk Tryd.f13 1 8).wp Tryd.prog Q a w := by
  conv => arg 2; whnf
  have hsum := hS.sum
  -- behind the table's turn
  have hrest : ∀ (a' : Act) (w' : World) (L2 : List Nat) (rows2 : List FdM), rows2 = (if bitsOf c = 6 then addT m rows ⟨fn, fv, fb⟩ else rows) → DSt w0 L0 g md ld L2 m rows2 oa oc out w' → Box w0 L2 oa bx fn fv fb w' →
      Fr.Is 131 [(0, .pointer (some ⟨g, 0, none⟩)), (1, .slice ba blen bcap), (6, .slice oa out.length oc), (7, .int .i64 cst), (8, .int .i64 sizes), (9, .int .i64 pos), (10, .int .u8 c), (13, .int .i64 er), (14, .int .i64 n), (15, .pointer (some ⟨bx, 0, none⟩))] a' →
      (Fr.blk Tryd.f13 1 9).wp Tryd.prog Q a' w' := by
    intro a1 w1 L2 rows2 hr hS1 hX1 h1
    conv => arg 2; whnf
    refine wp_seq ?_
    refine dec_r28 a1 w1 hX1.cells hn hv hcs h1 (Lib.hid (fun a2 h2 w2 b2 => ?_))
    have hS2 := hS1.below b2
    have hX2 := hX1.below b2
    refine dec_r29 a2 w2 hX2.cells rfl hS2.row hlen h2 (Lib.hid (fun a3 h3 oa2 oc2 w3 h3b hq hg hb => ?_))
    have hS2a := hS2.below ((Below.refl w2.heap.size w2).alloc (Nat.le_refl _) (.cells #[.string fn, .string fv, .bool fb] 59))
    have hsz : (w2.alloc (.cells #[.string fn, .string fv, .bool fb] 59)).heap.size = w2.heap.size + 1 := by simp
    have hkept : ∀ k ∈ L2, w3.heap[k]? = (w2.alloc (.cells #[.string fn, .string fv, .bool fb] 59)).heap[k]? := fun k hk => hg.block k (GTab.blocks hS2a.dec k hk) (fun e => by
      cases oa with
      | none => cases e
      | some x =>
        simp only [Option.map_some, Option.some.injEq] at e
        exact (hS2.blk x.block x.off x.spot rfl).2 (e ▸ hk))
    refine hQ a3 w3 L2 rows2 oa2 oc2 hr ⟨hS2a.kept.grown hg (fun k hk => ?_), GTab.kept hS2a.dec hg.size hkept, hS2a.new, hS2a.old, hS2a.sum, hq, fun b o s e => ?_⟩ ⟨h3.1, h3.2.1, fun p hp => ?_⟩
    · cases oa with
      | none => cases hk
      | some x =>
        simp only [Option.map_some, Option.some.injEq] at hk
        exact .inr (hk ▸ (hS2.blk x.block x.off x.spot rfl).1)
    · have hks := hS2.kept.size
      rcases hb b o s e with ⟨o', e'⟩ | hbn
      · exact hS2.blk b o' _ e'
      · refine ⟨by omega, fun hm => ?_⟩
        have := GTab.blocks hS2.dec b hm
        omega
    · simp only [List.mem_cons, List.not_mem_nil, or_false] at hp
      have h6 := h3b.2.2 (6, _) (List.mem_cons_self ..)
      rcases hp with rfl | rfl | rfl | rfl | rfl | rfl
      · exact h3.2.2 (0, _) (by simp)
      · exact h3.2.2 (1, _) (by simp)
      · simpa using h6
      · exact h3.2.2 (7, _) (by simp)
      · exact h3.2.2 (8, _) (by simp)
      · exact h3.2.2 (9, _) (by simp)
  refine wp_seq (wp_seq ?_)
  by_cases h6 : bitsOf c = 6
  · refine dec_r26 a w hc true (by simp [h6]) ha (Lib.hid (fun a1 h1 => ?_))
    refine wp_cond_true (h1.get (by simp)) ?_
    have hAdd := gadd_any 39 _ g 2 m rows ⟨fn, fv, fb⟩ L w.drew (by simp) (GTab.below hS.dec (Below.refl _ _).drew) (by omega) (by omega) hn hv
    refine dec_r27 (g := g) (blen := blen) (bcap := bcap) (on := out.length) (oc := oc) (cst := cst) (sizes := sizes) (pos := pos) (ba := ba) (oa := oa) (c := c) (n := n) (er := er) (S := fun w' => ∃ L', RDec w' L' g md ld false m (addT m rows ⟨fn, fv, fb⟩) ∧ Kept L w.drew w' ∧ ∀ k ∈ L', k ∈ L ∨ w.drew.heap.size ≤ k) a1 w hX.cells (Lib.hid hAdd) (h1.less (by simp)) (Lib.hid (fun a2 h2 w2 hS2 => ?_))
    obtain ⟨L2, hd, hk, hnw⟩ := hS2
    have hlt := (Array.getElem?_eq_some_iff.1 hX.cells).1
    refine hrest a2 w2 L2 _ rfl (by rw [if_pos h6]; exact (hS.below (Below.refl _ _).drew).turn hk hd hnw ⟨addT_sum m rows _, hsum.2⟩) ⟨(hk.block bx hlt hX.new.2).trans hX.cells, ⟨hX.new.1, fun hm => ?_⟩, hX.other⟩ h2
    rcases hnw bx hm with h | h
    · exact hX.new.2 h
    · have : w.drew.heap.size = w.heap.size := rfl
      omega
  · refine dec_r26 a w hc false (by simp [h6]) ha (Lib.hid (fun a1 h1 => ?_))
    refine wp_cond_false (h1.get (by simp)) ?_
    refine wp_skip ?_
    exact hrest a1 w L rows (by rw [if_neg h6]) hS hX (h1.less (by simp))

/-- Behind a part that can't be read. -/
structure DErr (w0 : World) (L0 : List Nat) (g md ld : Nat) (L : List Nat) (m : Nat) (rows : List FdM) (w : World) : Prop where
  kept : Kept L0 w0 w
  dec : RDec w L g md ld true m rows
  new : ∀ k ∈ L, k ∈ L0 ∨ w0.heap.size ≤ k

/-- From the test on: could it be read. -/
theorem dec_t7 {Q : Exit → Act → World → Prop} {w0 : World} {L0 L : List Nat} {g md ld m : Nat} {rows out : List FdM} {oa : Option Addr} {blen bcap oc cst sizes pos c n er bx : Nat} {ba : Option Addr} {fn fv : ByteArray} {fb : Bool} (a : Act) (w : World)
    (hS : DSt w0 L0 g md ld L m rows oa oc out w) (hX : Box w0 L oa bx fn fv fb w) (hc : c < 256) (hn : er = 0 → fn.size ≤ 140737488351232) (hv : er = 0 → fv.size ≤ 140737488351232) (hcs : cst ≤ 100000000000000) (hlen : out.length + 1 ≤ 1000000000)
    (ha : Fr.Is 131 [(0, .pointer (some ⟨g, 0, none⟩)), (1, .slice ba blen bcap), (6, .slice oa out.length oc), (7, .int .i64 cst), (8, .int .i64 sizes), (9, .int .i64 pos), (10, .int .u8 c), (13, .int .i64 er), (14, .int .i64 n), (15, .pointer (some ⟨bx, 0, none⟩))] a)
    (hQ : ∀ a' w' L2 rows2 oa2 oc2 (f : FdM) (p2 : Nat), er = 0 ∧ f = ⟨fn, fv, fb⟩ ∧ p2 = pos → rows2 = (if bitsOf c = 6 then addT m rows f else rows) → DSt w0 L0 g md ld L2 m rows2 oa2 oc2 (out ++ [f]) w' →
      Fr.Is 131 [(0, .pointer (some ⟨g, 0, none⟩)), (1, .slice ba blen bcap), (6, .slice oa2 (out ++ [f]).length oc2), (7, .int .i64 (cst + cost f : Nat)), (8, .int .i64 sizes), (9, .int .i64 p2)] a' → Q .normal a' w')
    (hR : ∀ a' w' (e2 : Nat), er ≠ 0 ∧ e2 = er → Fr.Is 131 [(4, .slice none 0 0), (5, .int .i64 e2)] a' → DErr w0 L0 g md ld L m rows w' → Q .ret a' w') :
    (Fr.blk Tryd.f13 1 7).wp Tryd.prog Q a w := by
  conv => arg 2; whnf
  refine wp_seq (wp_seq ?_)
  by_cases he : er = 0
  · refine dec_r23 a w true (by simp [he]) ha (Lib.hid (fun a1 h1 => ?_))
    refine wp_cond_false (h1.get (i := 103) (v := .bool (!true)) (by simp)) ?_
    refine wp_skip ?_
    exact dec_t8 (er := er) (n := n) a1 w hS hX hc (hn he) (hv he) hcs hlen (h1.less (by simp)) (fun a' w' L2 rows2 oa2 oc2 hr hD hF => hQ a' w' L2 rows2 oa2 oc2 _ pos ⟨he, rfl, rfl⟩ hr hD hF)
  · refine dec_r23 a w false (by simp [he]) ha (Lib.hid (fun a1 h1 => ?_))
    refine wp_cond_true (h1.get (i := 103) (v := .bool (!false)) (by simp)) ?_
    refine wp_seq ?_
    obtain ⟨_, _, c4, f4⟩ := hS.dec.cells
    refine dec_r24 (g := g) (blen := blen) (bcap := bcap) (on := out.length) (oc := oc) (cst := cst) (sizes := sizes) (pos := pos) (ba := ba) (oa := oa) (c := c) (n := n) (er := er) (bx := bx) a1 w ⟨_, c4⟩ f4 (h1.less (by simp)) (Lib.hid (fun a2 h2 => ?_))
    refine wp_seq ?_
    refine dec_r25 a2 _ h2 (Lib.hid (fun a3 h3 => ?_))
    refine wp_ret ?_
    exact hR a3 _ er ⟨he, rfl⟩ h3 ⟨hS.kept.setCell (.inl hS.old.1) _, hS.dec.broken true, hS.new⟩

/-- From the test on: is it a row's number, or a field that is written out. -/
theorem dec_t6 {Q : Exit → Act → World → Prop} {w0 : World} {L0 L : List Nat} {g md ld m : Nat} {rows out : List FdM} {oa : Option Addr} {blen bcap oc cst sizes pos c n er bx : Nat} {ba : Option Addr} {l : List UInt8} (a : Act) (w : World)
    (hS : DSt w0 L0 g md ld L m rows oa oc out w) (hX : Box w0 L oa bx ⟨#[]⟩ ⟨#[]⟩ false w) (hc : c < 256) (hcs : cst ≤ 100000000000000) (hlen : out.length + 1 ≤ 1000000000) (h5 : er = 0 → bitsOf c ≠ 5) (hn : n ≤ 2147483647)
    (hbl : blen = l.length) (hrb : RB w ba l) (hl : l.length ≤ 134217728) (hcap : l.length ≤ bcap) (hmax : bcap ≤ maxLen) (hp : pos ≤ l.length)
    (ha : Fr.Is 131 [(0, .pointer (some ⟨g, 0, none⟩)), (1, .slice ba blen bcap), (6, .slice oa out.length oc), (7, .int .i64 cst), (8, .int .i64 sizes), (9, .int .i64 pos), (10, .int .u8 c), (13, .int .i64 er), (14, .int .i64 n), (15, .pointer (some ⟨bx, 0, none⟩))] a)
    (hQ : ∀ a' w' L2 rows2 oa2 oc2 (f : FdM) (p2 : Nat), er = 0 ∧ ((bitsOf c = 7 ∧ (atT rows n).2 = 0 ∧ f = (atT rows n).1 ∧ p2 = pos) ∨ (bitsOf c ≠ 7 ∧ (litM rows (l.drop pos) n).1 = 0 ∧ f = ⟨(litM rows (l.drop pos) n).2.1.name, (litM rows (l.drop pos) n).2.1.value, decide (c / 16 = 1)⟩ ∧ p2 ≤ l.length ∧ (litM rows (l.drop pos) n).2.2 = l.drop p2)) → rows2 = (if bitsOf c = 6 then addT m rows f else rows) → DSt w0 L0 g md ld L2 m rows2 oa2 oc2 (out ++ [f]) w' →
      Fr.Is 131 [(0, .pointer (some ⟨g, 0, none⟩)), (1, .slice ba blen bcap), (6, .slice oa2 (out ++ [f]).length oc2), (7, .int .i64 (cst + cost f : Nat)), (8, .int .i64 sizes), (9, .int .i64 p2)] a' → Q .normal a' w')
    (hR : ∀ a' w' (e2 : Nat), (er ≠ 0 ∧ e2 = er) ∨ (er = 0 ∧ bitsOf c = 7 ∧ (atT rows n).2 ≠ 0 ∧ e2 = (atT rows n).2) ∨ (er = 0 ∧ bitsOf c ≠ 7 ∧ (litM rows (l.drop pos) n).1 ≠ 0 ∧ e2 = (litM rows (l.drop pos) n).1) → Fr.Is 131 [(4, .slice none 0 0), (5, .int .i64 e2)] a' → DErr w0 L0 g md ld L m rows w' → Q .ret a' w') :
    (Fr.blk Tryd.f13 1 6).wp Tryd.prog Q a w := by
  conv => arg 2; whnf
  subst hbl
  have hsum := hS.sum
  have h32 := csum_len rows
  refine wp_seq (wp_seq ?_)
  have hset : ∀ (w1 : World) (xn xv : ByteArray) (xb : Bool), DSt w0 L0 g md ld L m rows oa oc out w1 → Box w0 L oa bx ⟨#[]⟩ ⟨#[]⟩ false w1 → DSt w0 L0 g md ld L m rows oa oc out (((w1.setCell ⟨bx, 0, none⟩ (.string xn)).setCell ⟨bx, 1, none⟩ (.string xv)).setCell ⟨bx, 2, none⟩ (.bool xb)) := fun w1 xn xv xb h1 h2 =>
    h1.box h2 (by simp [World.setCell]) rfl rfl rfl (fun k hk => by rw [Below.heap_setCell _ _ _ _ hk, Below.heap_setCell _ _ _ _ hk, Below.heap_setCell _ _ _ _ hk])
  by_cases h7 : er = 0 ∧ bitsOf c = 7
  · refine dec_r18 a w hc true (by simp [h7]) ha (Lib.hid (fun a1 h1 => ?_))
    refine wp_cond_true (h1.get (by simp)) ?_
    have hAt := gat_any 39 _ g 2 m rows L n w (by simp) hS.dec (by omega) (by omega)
    have hsz := atT_size rows n 65536 (by omega) (by decide)
    have hszv : (atT rows n).1.value.size ≤ 65536 := by
      rw [atT]
      split
      · rename_i h1
        have hk : (n : Int).toNat - 1 < statics.length := by rw [statics_len]; omega
        rw [List.getD_eq_getElem?_getD, List.getElem?_eq_getElem hk, Option.getD_some]
        have : ∀ x ∈ statics, x.value.size ≤ 100 := by decide +kernel
        exact Nat.le_trans (this _ (List.getElem_mem hk)) (by decide)
      · split
        · exact Nat.zero_le _
        · rename_i h1 h2
          have hk : (n : Int).toNat - 62 < rows.length := by omega
          rw [List.getD_eq_getElem?_getD, List.getElem?_eq_getElem hk, Option.getD_some]
          have := csum_mem (List.getElem_mem hk)
          unfold cost at this
          simp only
          omega
    refine dec_r19 (g := g) (blen := l.length) (bcap := bcap) (on := out.length) (oc := oc) (cst := cst) (sizes := sizes) (pos := pos) (ba := ba) (oa := oa) (c := c) (n := n) (er := er) (bx := bx) a1 w hX.cells (Lib.hid hAt) (h1.less (by simp)) (Lib.hid (fun a2 h2 w1 b1 hb3 => ?_))
    refine dec_t7 a2 _ (hset w1 _ _ _ (hS.below b1) (hX.below b1)) ⟨hb3, hX.new, hX.other⟩ hc (fun _ => by omega) (fun _ => by omega) hcs hlen h2 (fun a' w' L2 rows2 oa2 oc2 f p2 hf hr hD hF => ?_) (fun a' w' e2 he hF hD => hR a' w' e2 (.inr (.inl ⟨h7.1, h7.2, he.1, he.2⟩)) hF hD)
    exact hQ a' w' L2 rows2 oa2 oc2 f p2 ⟨h7.1, .inl ⟨h7.2, hf.1, hf.2.1, hf.2.2⟩⟩ hr hD hF
  · refine dec_r18 a w hc false (by simp; omega) ha (Lib.hid (fun a1 h1 => ?_))
    refine wp_cond_false (h1.get (by simp)) ?_
    refine wp_seq ?_
    by_cases he : er = 0
    · have hb7 : bitsOf c ≠ 7 := fun h => h7 ⟨he, h⟩
      refine dec_r20 (g := g) (blen := l.length) (bcap := bcap) (on := out.length) (oc := oc) (cst := cst) (sizes := sizes) (pos := pos) (ba := ba) (oa := oa) (c := c) (n := n) (er := er) (bx := bx) a1 w true (by simp [he]) (h1.less (by simp)) (Lib.hid (fun a2 h2 => ?_))
      refine wp_cond_true (h2.get (by simp)) ?_
      refine wp_seq ?_
      have hlit := rliteral_any L g md ld m false rows ba l bcap pos n w hS.dec (by omega) hrb hl hcap hmax hp (by omega)
      obtain ⟨hb1, hb2, hb3⟩ := litM_bd rows (l.drop pos) n (by omega)
      generalize hM : litM rows (l.drop pos) n = M at hlit hb1 hb2 hb3 hQ hR
      refine dec_r21 (g := g) (blen := l.length) (bcap := bcap) (on := out.length) (oc := oc) (cst := cst) (sizes := sizes) (pos := pos) (ba := ba) (oa := oa) (c := c) (n := n) (er := er) (bx := bx) (e2 := M.1) (T := fun f k2 => M.1 = 0 → f = M.2.1 ∧ k2 ≤ l.length ∧ M.2.2 = l.drop k2) a2 w hX.cells (Lib.hid hlit) (h2.less (by simp)) (Lib.hid (fun f k2 a3 h3 w1 hT b1 hb3' => ?_))
      have hS1 := hset w1 f.name f.value f.never (hS.below b1) (hX.below b1)
      have hX1 : Box w0 L oa bx f.name f.value f.never _ := ⟨hb3', hX.new, hX.other⟩
      have hfin := hS1.box hX1 (w' := (((w1.setCell ⟨bx, 0, none⟩ (.string f.name)).setCell ⟨bx, 1, none⟩ (.string f.value)).setCell ⟨bx, 2, none⟩ (.bool f.never)).setCell ⟨bx, 2, none⟩ (.bool (decide (c / 16 = 1)))) (by simp [World.setCell]) rfl rfl rfl (fun k hk => Below.heap_setCell _ _ _ _ hk)
      refine dec_r22 (g := g) (blen := l.length) (bcap := bcap) (on := out.length) (oc := oc) (cst := cst) (sizes := sizes) (pos := k2) (ba := ba) (oa := oa) (c := c) (n := n) (er := M.1) (bx := bx) a3 _ hc hb3' _ rfl h3 (Lib.hid (fun a4 h4 hb4 => ?_))
      by_cases hM0 : M.1 = 0
      · obtain ⟨hf, hk2, hre⟩ := hT hM0
        subst hf
        refine dec_t7 (er := M.1) (n := n) a4 _ hfin ⟨hb4, hX.new, hX.other⟩ hc (fun _ => by omega) (fun _ => by omega) hcs hlen h4 (fun a' w' L2 rows2 oa2 oc2 f p2 hf hr hD hF => ?_) (fun a' w' e2 he2 hF hD => absurd hM0 he2.1)
        exact hQ a' w' L2 rows2 oa2 oc2 f p2 ⟨he, .inr ⟨hb7, hM0, hf.2.1, by rw [hf.2.2]; exact hk2, by rw [hf.2.2]; exact hre⟩⟩ hr hD hF
      · exact dec_t7 (er := M.1) (n := n) a4 _ hfin ⟨hb4, hX.new, hX.other⟩ hc (fun h => absurd h hM0) (fun h => absurd h hM0) hcs hlen h4 (fun a' w' L2 rows2 oa2 oc2 f p2 hf hr hD hF => absurd hf.1 hM0) (fun a' w' e2 he2 hF hD => hR a' w' e2 (.inr (.inr ⟨he, hb7, hM0, he2.2⟩)) hF hD)
    · refine dec_r20 (g := g) (blen := l.length) (bcap := bcap) (on := out.length) (oc := oc) (cst := cst) (sizes := sizes) (pos := pos) (ba := ba) (oa := oa) (c := c) (n := n) (er := er) (bx := bx) a1 w false (by simp [he]) (h1.less (by simp)) (Lib.hid (fun a2 h2 => ?_))
      refine wp_cond_false (h2.get (by simp)) ?_
      refine wp_skip ?_
      refine dec_t7 (g := g) (blen := l.length) (bcap := bcap) (cst := cst) (sizes := sizes) (pos := pos) (ba := ba) (c := c) (n := n) (er := er) (bx := bx) a2 w hS hX hc (fun h => absurd h he) (fun h => absurd h he) hcs hlen (h2.less (by simp)) (fun a' w' L2 rows2 oa2 oc2 f p2 hf hr hD hF => absurd hf.1 he) (fun a' w' e2 he2 hF hD => hR a' w' e2 (.inl he2) hF hD)
end Go.Proofs.YtdkgachgohilcaaDoor

namespace Go.Proofs.YtdkgachgohilcaaDoor
open Go.RowKit
open Huf Pre Tab Hpk Arg Mem Gen Go.Proofs.YtdkgachgohilcaaDoor.Obj
set_option linter.unusedVariables false

/-- From the change of size on. -/
theorem dec_t5 {Q : Exit → Act → World → Prop} {w0 : World} {L0 L : List Nat} {g md ld m : Nat} {rows out : List FdM} {oa : Option Addr} {blen bcap oc cst sizes pos c n er bx : Nat} {ba : Option Addr} {l : List UInt8} (a : Act) (w : World)
    (hS : DSt w0 L0 g md ld L m rows oa oc out w) (hX : Box w0 L oa bx ⟨#[]⟩ ⟨#[]⟩ false w) (hc : c < 256) (hcs : cst ≤ 100000000000000) (hlen : out.length + 1 ≤ 1000000000) (hn : n ≤ 2147483647) (hmd : md ≤ 65536) (hz : sizes ≤ 1000000000)
    (hbl : blen = l.length) (hrb : RB w ba l) (hl : l.length ≤ 134217728) (hcap : l.length ≤ bcap) (hmax : bcap ≤ maxLen) (hp : pos ≤ l.length)
    (ha : Fr.Is 131 [(0, .pointer (some ⟨g, 0, none⟩)), (1, .slice ba blen bcap), (6, .slice oa out.length oc), (7, .int .i64 cst), (8, .int .i64 sizes), (9, .int .i64 pos), (10, .int .u8 c), (13, .int .i64 er), (14, .int .i64 n), (15, .pointer (some ⟨bx, 0, none⟩))] a)
    (hE : ∀ a' w' L2, er = 0 → bitsOf c = 5 → ¬ (0 < out.length ∨ 2 < sizes + 1 ∨ md < n) → DSt w0 L0 g md ld L2 n (fit n rows) oa oc out w' →
      Fr.Is 131 [(0, .pointer (some ⟨g, 0, none⟩)), (1, .slice ba blen bcap), (6, .slice oa out.length oc), (7, .int .i64 cst), (8, .int .i64 (sizes + 1 : Nat)), (9, .int .i64 pos)] a' → Q (.exit 1) a' w')
    (hQ : ∀ a' w' L2 rows2 oa2 oc2 (f : FdM) (p2 : Nat), er = 0 ∧ bitsOf c ≠ 5 ∧ ((bitsOf c = 7 ∧ (atT rows n).2 = 0 ∧ f = (atT rows n).1 ∧ p2 = pos) ∨ (bitsOf c ≠ 7 ∧ (litM rows (l.drop pos) n).1 = 0 ∧ f = ⟨(litM rows (l.drop pos) n).2.1.name, (litM rows (l.drop pos) n).2.1.value, decide (c / 16 = 1)⟩ ∧ p2 ≤ l.length ∧ (litM rows (l.drop pos) n).2.2 = l.drop p2)) → rows2 = (if bitsOf c = 6 then addT m rows f else rows) → DSt w0 L0 g md ld L2 m rows2 oa2 oc2 (out ++ [f]) w' →
      Fr.Is 131 [(0, .pointer (some ⟨g, 0, none⟩)), (1, .slice ba blen bcap), (6, .slice oa2 (out ++ [f]).length oc2), (7, .int .i64 (cst + cost f : Nat)), (8, .int .i64 sizes), (9, .int .i64 p2)] a' → Q .normal a' w')
    (hR : ∀ a' w' (e2 : Nat), (er ≠ 0 ∧ e2 = er) ∨ (er = 0 ∧ bitsOf c = 5 ∧ (0 < out.length ∨ 2 < sizes + 1 ∨ md < n) ∧ e2 = 50) ∨ (er = 0 ∧ bitsOf c = 7 ∧ (atT rows n).2 ≠ 0 ∧ e2 = (atT rows n).2) ∨ (er = 0 ∧ bitsOf c ≠ 5 ∧ bitsOf c ≠ 7 ∧ (litM rows (l.drop pos) n).1 ≠ 0 ∧ e2 = (litM rows (l.drop pos) n).1) → Fr.Is 131 [(4, .slice none 0 0), (5, .int .i64 e2)] a' → DErr w0 L0 g md ld L m rows w' → Q .ret a' w') :
    (Fr.blk Tryd.f13 1 5).wp Tryd.prog Q a w := by
  conv => arg 2; whnf
  have hsum := hS.sum
  refine wp_seq (wp_seq ?_)
  by_cases h5 : er = 0 ∧ bitsOf c = 5
  · refine dec_r13 a w hc true (by simp [h5]) ha (Lib.hid (fun a1 h1 => ?_))
    refine wp_cond_true (h1.get (by simp)) ?_
    refine wp_seq ?_
    refine dec_r14 (g := g) (blen := blen) (bcap := bcap) (on := out.length) (oc := oc) (cst := cst) (sizes := sizes) (pos := pos) (ba := ba) (oa := oa) (c := c) (n := n) (er := er) (bx := bx) a1 w hz (h1.less (by simp)) (Lib.hid (fun a2 h2 => ?_))
    refine wp_seq ?_
    refine dec_r15 a2 w hS.dec.cells.1 (decide (0 < out.length ∨ 2 < sizes + 1 ∨ md < n)) (by simp) h2 (Lib.hid (fun a3 h3 => ?_))
    by_cases hbad : 0 < out.length ∨ 2 < sizes + 1 ∨ md < n
    · refine wp_cond_true (h3.get (i := 66) (v := .bool true) (by simp [hbad])) ?_
      refine dec_r16 (g := g) (blen := blen) (bcap := bcap) (on := out.length) (oc := oc) (cst := cst) (sizes := sizes + 1) (pos := pos) (ba := ba) (oa := oa) (c := c) (n := n) (er := er) (bx := bx) a3 w (h3.less (by simp)) (Lib.hid (fun a4 h4 => ?_))
      exact dec_t6 (er := 50) (sizes := sizes + 1) (l := l) a4 w hS hX hc hcs hlen (fun h => by omega) hn hbl hrb hl hcap hmax hp h4 (fun a' w' L2 rows2 oa2 oc2 f p2 hf hr hD hF => by omega) (fun a' w' e2 he2 hF hD => hR a' w' e2 (by omega) hF hD)
    · refine wp_cond_false (h3.get (i := 66) (v := .bool false) (by simp [hbad])) ?_
      refine wp_seq ?_
      have hres := gresize_any 39 _ g 2 m n rows L w (by simp) hS.dec (by omega) (by omega)
      refine dec_r17 (g := g) (blen := blen) (bcap := bcap) (on := out.length) (oc := oc) (cst := cst) (sizes := sizes + 1) (pos := pos) (ba := ba) (oa := oa) (c := c) (n := n) (er := er) (bx := bx) a3 w (Lib.hid hres) (h3.less (by simp)) (Lib.hid (fun a4 h4 w1 hW => ?_))
      obtain ⟨L2, hT, hk, hnew⟩ := hW
      refine wp_exit ?_
      exact hE a4 w1 L2 h5.1 h5.2 hbad (hS.turn hk hT hnew ⟨fit_sum _ _, by omega⟩) h4
  · refine dec_r13 a w hc false (by simp; omega) ha (Lib.hid (fun a1 h1 => ?_))
    refine wp_cond_false (h1.get (by simp)) ?_
    refine wp_skip ?_
    exact dec_t6 (l := l) a1 w hS hX hc hcs hlen (fun h => by omega) hn hbl hrb hl hcap hmax hp (h1.less (by simp)) (fun a' w' L2 rows2 oa2 oc2 f p2 hf hr hD hF => hQ a' w' L2 rows2 oa2 oc2 f p2 ⟨hf.1, by omega, hf.2⟩ hr hD hF) (fun a' w' e2 he2 hF hD => hR a' w' e2 (by omega) hF hD)
theorem bitsOf_bd (c : Nat) : 4 ≤ bitsOf c ∧ bitsOf c ≤ 7 := by
  unfold bitsOf; split
  · omega
  · split
    · omega
    · split <;> omega
theorem atT_cost (rows : List FdM) (n : Int) (h : csum rows ≤ 65536) : cost (atT rows n).1 ≤ 65536 := by
  rw [atT]
  split
  · have hk : n.toNat - 1 < statics.length := by rw [statics_len]; omega
    rw [List.getD_eq_getElem?_getD, List.getElem?_eq_getElem hk, Option.getD_some]
    have : ∀ x ∈ statics, cost x ≤ 65536 := by decide +kernel
    exact this _ (List.getElem_mem hk)
  · split
    · decide
    · rename_i h1 h2
      have hk : n.toNat - 62 < rows.length := by omega
      rw [List.getD_eq_getElem?_getD, List.getElem?_eq_getElem hk, Option.getD_some]
      exact Nat.le_trans (csum_mem (List.getElem_mem hk)) h

set_option maxRecDepth 100000 in
set_option maxHeartbeats 1000000 in
/-- One round: what is left is told by decF of what is left. -/
theorem dec_round {Q : Exit → Act → World → Prop} {w0 : World} {L0 L : List Nat} {g md ld m : Nat} {rows out : List FdM} {oa : Option Addr} {bcap oc cst sizes pos F : Nat} {ba : Option Addr} {l : List UInt8} {R : (Nat × List FdM) × (Nat × List FdM) × Bool} (a : Act) (w : World)
    (hS : DSt w0 L0 g md ld L m rows oa oc out w) (hmd : md ≤ 65536)
    (hrb : RB w ba l) (hl : l.length ≤ 134217728) (hcap : l.length ≤ bcap) (hmax : bcap ≤ maxLen) (hp : pos < l.length) (hF : l.length - pos < F) (hcs : cst ≤ pos * 200000) (hol : out.length ≤ pos) (hz : sizes ≤ pos)
    (hD : decF md ld F (l.drop pos) out cst sizes m rows = R)
    (ha : Fr.Is 131 [(0, .pointer (some ⟨g, 0, none⟩)), (1, .slice ba l.length bcap), (6, .slice oa out.length oc), (7, .int .i64 cst), (8, .int .i64 sizes), (9, .int .i64 pos)] a)
    (hQ : ∀ e a' w' L2 m2 rows2 oa2 oc2 out2 cst2 sizes2 p2 F2, e = .normal ∨ e = .exit 1 → pos < p2 → p2 ≤ l.length → l.length - p2 < F2 → cst2 ≤ p2 * 200000 → out2.length ≤ p2 → sizes2 ≤ p2 → DSt w0 L0 g md ld L2 m2 rows2 oa2 oc2 out2 w' →
      decF md ld F2 (l.drop p2) out2 cst2 sizes2 m2 rows2 = R →
      Fr.Is 131 [(0, .pointer (some ⟨g, 0, none⟩)), (1, .slice ba l.length bcap), (6, .slice oa2 out2.length oc2), (7, .int .i64 cst2), (8, .int .i64 sizes2), (9, .int .i64 p2)] a' → Q e a' w')
    (hR : ∀ a' w' (e2 : Nat), R = ((e2, []), (m, rows), true) → Fr.Is 131 [(4, .slice none 0 0), (5, .int .i64 e2)] a' → DErr w0 L0 g md ld L m rows w' → Q .ret a' w') :
    (Fr.blk Tryd.f13 1 0).wp Tryd.prog Q a w := by
  conv => arg 2; whnf
  have hsum := hS.sum
  have hdrop : l.drop pos = l[pos] :: l.drop (pos + 1) := List.drop_eq_getElem_cons hp
  obtain ⟨F, rfl⟩ : ∃ F', F = F' + 1 := ⟨F - 1, by omega⟩
  rw [hdrop, decF, ← hdrop] at hD
  have hcell : ∃ b off, ba = some ⟨b, off, none⟩ ∧ w.cell? ⟨b, off + pos, none⟩ = some (.int .u8 (l[pos].toNat : Int)) := by
    rcases hrb with h | ⟨b, off, h1, h2⟩
    · subst h; simp at hp
    · exact ⟨b, off, h1, h2 pos hp⟩
  obtain ⟨b, off, hba, hc0⟩ := hcell
  have hc : l[pos].toNat < 256 := l[pos].toNat_lt
  generalize l[pos].toNat = c at hD hc0 hc
  have hb48 := bitsOf_bd c
  have hlen : (l.drop pos).length = l.length - pos := List.length_drop
  have hT := rtakeint_any (Sl.adOf ba bcap pos 1) (l.drop pos) (bcap - pos) (bitsOf c) w.drew (by omega) (Sl.rb_from (RB.below (Below.refl w.heap.size w).drew hrb) pos hcap)
  have hti : takeI (l.drop pos) (bitsOf c : Int) = takeN (l.drop pos) (bitsOf c) := by rw [takeI, if_neg (by omega)]; rfl
  rw [hti, hlen] at hT
  have hbd := takeN_bd (l.drop pos) (bitsOf c) (by omega)
  generalize takeN (l.drop pos) (bitsOf c) = T at hD hT hbd
  obtain ⟨n, k, er⟩ := T
  simp only [hlen] at hD hT hbd
  obtain ⟨hn, hbe, hb0, hb12⟩ := hbd
  rw [List.drop_drop] at hD
  refine wp_seq ?_
  refine dec_r8 (g := g) (blen := l.length) (bcap := bcap) (on := out.length) (oc := oc) (cst := cst) (sizes := sizes) (pos := pos) (ba := ba) (oa := oa) (c := c) a w hp hba hc0 ha (Lib.hid (fun a1 h1 => ?_))
  refine wp_seq ?_
  refine dec_r9 (n := n) (k := k) (er := er) a1 w hc (by omega) hcap hmax (Lib.hid hT) h1 (Lib.hid (fun a2 h2 => ?_))
  refine wp_seq ?_
  refine dec_r10 a2 w.drew h2 (Lib.hid (fun a3 h3 => ?_))
  refine wp_seq ?_
  refine dec_r11 a3 w.drew (by by_cases he : er = 0 <;> omega) h3 (Lib.hid (fun a4 h4 => ?_))
  refine wp_seq ?_
  refine dec_r12 a4 w.drew h4 (Lib.hid (fun a5 h5 => ?_))
  have hB : Below w.heap.size w (w.drew.alloc (.cells #[.string ⟨#[]⟩, .string ⟨#[]⟩, .bool false] 59)) := (Below.refl w.heap.size w).drew.alloc (Nat.le_refl _) _
  have hbx := heap_alloc_new w.drew (.cells #[.string ⟨#[]⟩, .string ⟨#[]⟩, .bool false] 59)
  have hds : w.drew.heap.size = w.heap.size := rfl
  rw [hds] at h5 hbx
  generalize (w.drew.alloc (.cells #[.string ⟨#[]⟩, .string ⟨#[]⟩, .bool false] 59)) = w1 at hB hbx ⊢
  have hX : Box w0 L oa w.heap.size ⟨#[]⟩ ⟨#[]⟩ false w1 := by
    refine ⟨hbx, ⟨hS.kept.size, fun hm => ?_⟩, fun b o s e => ?_⟩
    · have := GTab.blocks hS.dec _ hm; omega
    · obtain ⟨b', o', e', hlt, _⟩ := hS.row.lies _ e
      simp only [Addr.mk.injEq] at e'
      omega
  have hpk : pos + k ≤ l.length := by by_cases he : er = 0 <;> omega
  refine dec_t5 (er := er) (n := n) (pos := pos + k) (l := l) a5 w1 (hS.below hB) hX hc (by omega) (by omega) hn hmd (by omega) rfl (hrb.below hB) hl hcap hmax hpk h5 ?_ ?_ ?_
  · intro a' w' L2 he h5 hok hS2 hf
    have h1 := hb0 he
    rw [if_neg (by omega), if_pos h5, if_neg hok] at hD
    exact hQ _ a' w' L2 n _ oa oc out cst (sizes + 1) (pos + k) F (.inr rfl) (by omega) hpk (by omega) (Nat.le_trans hcs (Nat.mul_le_mul_right _ (Nat.le_add_right _ _))) (by omega) (by omega) hS2 hD hf
  · intro a' w' L2 rows2 oa2 oc2 f p2 hf hr hS2 hfr
    obtain ⟨he, h5, hf⟩ := hf
    have h1 := hb0 he
    rw [if_neg (by omega), if_neg h5] at hD
    rcases hf with ⟨h7, hz2, rfl, rfl⟩ | ⟨h7, hz2, rfl, hp2, hrest⟩
    · rw [if_pos h7, if_neg (by omega)] at hD
      rw [if_neg (by omega)] at hr
      rw [hr] at hS2
      have hcst := atT_cost rows n (by omega)
      exact hQ _ a' w' L2 m _ oa2 oc2 _ _ sizes (pos + k) F (.inl rfl) (by omega) hpk (by omega) (by omega) (by rw [List.length_append, List.length_singleton]; omega) (by omega) hS2 hD hfr
    · have hbl := litM_bd rows (l.drop (pos + k)) n (by omega)
      rw [if_neg h7] at hD
      generalize litM rows (l.drop (pos + k)) n = M at hD hz2 hrest hbl hr hS2 hfr
      obtain ⟨e, f, rest⟩ := M
      simp only at hD hz2 hrest hbl hr hS2 hfr
      rw [if_neg (by omega)] at hD
      subst hrest
      obtain ⟨hb1, hb2, hb3⟩ := hbl
      rw [List.length_drop, List.length_drop] at hb3
      rw [← hr] at hD
      refine hQ _ a' w' L2 m _ oa2 oc2 _ _ sizes p2 F (.inl rfl) (by omega) hp2 (by omega) ?_ (by rw [List.length_append, List.length_singleton]; omega) (by omega) hS2 hD hfr
      unfold cost; omega
  · intro a' w' e2 he hfr hE
    refine hR a' w' e2 ?_ hfr hE
    rw [← hD]
    rcases he with ⟨he, rfl⟩ | ⟨he, h5, hb, rfl⟩ | ⟨he, h7, hb, rfl⟩ | ⟨he, h5, h7, hb, rfl⟩
    · rw [if_pos he]
    · rw [if_neg (by omega), if_pos h5, if_pos hb]
    · rw [if_neg (by omega), if_neg (by omega), if_pos h7, if_pos hb]
    · rw [if_neg (by omega), if_neg h5, if_neg h7]
      generalize litM rows (l.drop (pos + k)) n = M at hb ⊢
      obtain ⟨e, f, rest⟩ := M
      simp only at hb ⊢
      rw [if_pos hb]
end Go.Proofs.YtdkgachgohilcaaDoor
