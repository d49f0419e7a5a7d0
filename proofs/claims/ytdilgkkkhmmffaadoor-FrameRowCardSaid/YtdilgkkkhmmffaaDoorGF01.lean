/- Layer 6: rows of frames. Layer 6: the law FrameRow. -/
import Derived.Test.YtdilgkkkhmmffaaDoorGE02
import Derived.Test.YtdilgkkkhmmffaaDoorGE01
import Derived.Test.YtdilgkkkhmmffaaDoorGP03
import Derived.Test.YtdilgkkkhmmffaaDoorGP06
import Derived.LoopTactic
import Derived.BigQuiet
import Derived.Laws.StructEq
set_option linter.unusedVariables false
set_option linter.unusedSimpArgs false
namespace Go.Proofs.YtdilgkkkhmmffaaDoor
open Go.RowKit
open Fra Oct Arg Mem Gen Wr Sx Go.Proofs.YtdilgkkkhmmffaaDoor.Obj
set_option linter.unusedVariables false
set_option linter.unusedSimpArgs false

/-- A frame as it lies: with the place of its settings. -/
abbrev FrX := FrM × Option Addr × Nat
def EFr : Rw.Enc FrX where
  enc x := (frC x.1 x.2.1 x.2.2).toList
  k := 12
  pos := by decide
  len _ := rfl
  one x v h := by
    simp only [frC, List.mem_cons, List.not_mem_nil, or_false] at h
    rcases h with rfl | rfl | rfl | rfl | rfl | rfl | rfl | rfl | rfl | rfl | rfl | rfl <;> rfl
theorem CE_fr {w : World} {b o : Nat} {x : FrX} (h : Rw.CE EFr w b o x) :
    w.cell? ⟨b, o, none⟩ = some (.int .i64 x.1.type) ∧ w.cell? ⟨b, o + 1, none⟩ = some (.int .i64 x.1.flags) ∧ w.cell? ⟨b, o + 2, none⟩ = some (.int .i64 x.1.stream) ∧ w.cell? ⟨b, o + 3, none⟩ = some (.string x.1.data) ∧ w.cell? ⟨b, o + 4, none⟩ = some (.int .i64 x.1.pad) ∧ w.cell? ⟨b, o + 5, none⟩ = some (.slice x.2.1 x.1.sets.length x.2.2) ∧
    w.cell? ⟨b, o + 6, none⟩ = some (.int .i64 x.1.code) ∧ w.cell? ⟨b, o + 7, none⟩ = some (.int .i64 x.1.last) ∧ w.cell? ⟨b, o + 8, none⟩ = some (.int .i64 x.1.inc) ∧ w.cell? ⟨b, o + 9, none⟩ = some (.int .i64 x.1.dep) ∧ w.cell? ⟨b, o + 10, none⟩ = some (.int .i64 x.1.weight) ∧ w.cell? ⟨b, o + 11, none⟩ = some (.bool x.1.sole) :=
  ⟨h 0 _ rfl, h 1 _ rfl, h 2 _ rfl, h 3 _ rfl, h 4 _ rfl, h 5 _ rfl, h 6 _ rfl, h 7 _ rfl, h 8 _ rfl, h 9 _ rfl, h 10 _ rfl, h 11 _ rfl⟩
theorem info_fr : (Tryd.prog.info? 24).map (fun i => (i.zero, i.size, i.bytes)) = some (some (.agg #[.int .i64 0, .int .i64 0, .int .i64 0, .string ⟨#[]⟩, .int .i64 0, .slice none 0 0, .int .i64 0, .int .i64 0, .int .i64 0, .int .i64 0, .int .i64 0, .bool false]), 12, 120) := by kernel_rfl
theorem fr_new (w : World) (x : FrX) : Rw.RowE EFr (w.alloc (.cells (frC x.1 x.2.1 x.2.2) 24)) (some ⟨w.heap.size, 0, none⟩) [x] := .inr ⟨_, _, rfl, fun i hi r u hu => by
  have h0 : i = 0 := by simp at hi; omega
  subst h0
  have hh := heap_alloc_new w (.cells (frC x.1 x.2.1 x.2.2) 24)
  rw [cell_at hh]
  simpa [EFr] using hu⟩
/-- A list of frames that came in. -/
theorem frames_in {w : World} {ad : Option Addr} {len cap : Nat} (h : Slc w [.int .i64, .int .i64, .int .i64, .str, .int .i64, .slc 16 [.int .i64, .int .i64], .int .i64, .int .i64, .int .i64, .int .i64, .int .i64, .bool] ad len cap) :
    ∃ l : List FrX, l.length = len ∧ Rw.RowE EFr w ad l ∧ (∀ x ∈ l, FrOk x.1 x.2.1 x.2.2 w) ∧ len ≤ cap ∧ cap ≤ maxLen := by
  obtain ⟨l, hl, hr⟩ := Slc.row (C := fun w b o (d : FrX) => Rw.CE EFr w b o d ∧ FrOk d.1 d.2.1 d.2.2 w) h (fun b o hc => by
    obtain ⟨⟨v1, c1, l1⟩, ⟨v2, c2, l2⟩, ⟨v3, c3, l3⟩, ⟨v4, c4, l4⟩, ⟨v5, c5, l5⟩, ⟨v6, c6, l6⟩, ⟨v7, c7, l7⟩, ⟨v8, c8, l8⟩, ⟨v9, c9, l9⟩, ⟨v10, c10, l10⟩, ⟨v11, c11, l11⟩, ⟨v12, c12, l12⟩, _⟩ := hc
    obtain ⟨s1, rfl, _⟩ := l1.int
    obtain ⟨s2, rfl, _⟩ := l2.int
    obtain ⟨s3, rfl, _⟩ := l3.int
    obtain ⟨s4, rfl, _⟩ := l4.str
    obtain ⟨s5, rfl, _⟩ := l5.int
    obtain ⟨sa, sl, sc, rfl, _, hs⟩ := l6.slc
    obtain ⟨s7, rfl, _⟩ := l7.int
    obtain ⟨s8, rfl, _⟩ := l8.int
    obtain ⟨s9, rfl, _⟩ := l9.int
    obtain ⟨s10, rfl, _⟩ := l10.int
    obtain ⟨s11, rfl, _⟩ := l11.int
    obtain ⟨s12, rfl⟩ := l12.bool
    obtain ⟨sets, hsl, hsr, _, hsc, hsm⟩ := sets_in hs
    subst hsl
    refine ⟨(⟨s1, s2, s3, s4, s5, sets, s7, s8, s9, s10, s11, s12⟩, sa, sc), fun r v hv => ?_, ⟨hsr, hsc, hsm⟩⟩
    match r, hv with
    | 0, hv => simp [EFr, frC] at hv; subst hv; exact c1
    | 1, hv => simp [EFr, frC] at hv; subst hv; exact c2
    | 2, hv => simp [EFr, frC] at hv; subst hv; exact c3
    | 3, hv => simp [EFr, frC] at hv; subst hv; exact c4
    | 4, hv => simp [EFr, frC] at hv; subst hv; exact c5
    | 5, hv => simp [EFr, frC] at hv; subst hv; exact c6
    | 6, hv => simp [EFr, frC] at hv; subst hv; exact c7
    | 7, hv => simp [EFr, frC] at hv; subst hv; exact c8
    | 8, hv => simp [EFr, frC] at hv; subst hv; exact c9
    | 9, hv => simp [EFr, frC] at hv; subst hv; exact c10
    | 10, hv => simp [EFr, frC] at hv; subst hv; exact c11
    | 11, hv => simp [EFr, frC] at hv; subst hv; exact c12
    | r + 12, hv => simp [EFr, frC] at hv)
  refine ⟨l, hl, ?_, ?_, h.1, h.2.1⟩
  · rcases hr with hr | ⟨b, off, e, hc⟩
    · exact .inl hr
    · exact .inr ⟨b, off, e, fun i hi => (hc i hi).1⟩
  · rcases hr with rfl | ⟨b, off, e, hc⟩
    · intro d hd; cases hd
    · intro d hd
      obtain ⟨i, hi, rfl⟩ := List.getElem_of_mem hd
      exact (hc i hi).2

def RowQ {α : Type} (E : Rw.Enc α) (ad : Option Addr) (cap : Nat) (l : List α) : World → Prop := fun w => Rw.QRow E w ad cap l
theorem RowQ.st {α : Type} {E : Rw.Enc α} {ad : Option Addr} {cap : Nat} {l : List α} : Stable (blk ad) (RowQ E ad cap l) := fun a b hs hb h =>
  Rw.QRow.block h hs (fun bk o s e => hb bk (by subst e; exact List.mem_singleton.mpr rfl))
theorem qr_lt {α : Type} {E : Rw.Enc α} {w : World} {ad : Option Addr} {cap : Nat} {l : List α} (h : Rw.QRow E w ad cap l) : ∀ k ∈ blk ad, k < w.heap.size := fun k hk => by
  obtain ⟨o, s, e⟩ := mem_blk hk
  obtain ⟨b, off, e', h1, _⟩ := h.lies _ e
  simp only [Addr.mk.injEq] at e'
  obtain ⟨rfl, _⟩ := e'
  exact h1
/-- A row of the state is appended to. -/
theorem stsApp {W v w' : World} {obs : List Th} {α : Type} {E : Rw.Enc α} {ad ad' : Option Addr} {cap cap' : Nat} {l l' : List α} (hS : Sts W v obs) (i : Nat) (hi : obs[i]? = some (blk ad, RowQ E ad cap l)) (hg : v.grownBy w' (ad.map (·.block)))
    (hq : Rw.QRow E w' ad' cap' l') (hn : ∀ b o s, ad' = some ⟨b, o, s⟩ → (∃ o', ad = some ⟨b, o', none⟩) ∨ v.heap.size ≤ b) : Sts W w' (obs.set i (blk ad', RowQ E ad' cap' l')) := by
  refine hS.turn hi ((Kept.refl _ _).grown hg (fun k hk => ?_)) (fun k hk => ?_) (qr_lt hq) RowQ.st hq
  · rw [Option.map_eq_some_iff] at hk
    obtain ⟨a, rfl, rfl⟩ := hk
    exact .inl (List.mem_singleton.mpr rfl)
  · obtain ⟨o, s, e⟩ := mem_blk hk
    rcases hn k o s e with ⟨o', h⟩ | h
    · subst h; exact .inl (List.mem_singleton.mpr rfl)
    · exact .inr h
section
open Rw
variable {P : Program} {t e : TypeId} {i : TypeInfo} {z : Value} {by' : Nat}
variable {w : World} {ops : Array Oper} {o : Oper} {a : Act} {Q : Exit → Act → World → Prop}
/-- An append of a row as a step of a walk. -/
theorem wl_que {α : Type} (E : Enc α) {rest : List Oper} (ht : P.underlying t = some (.slice e)) (hi : P.info? e = some i) (hz : i.zero = some z) (hsize : i.size = E.k) (hby : i.bytes = by') (hzs : z.cells.size = E.k)
    (hgd : o.guard = none) (s x : Operand) (ho : o.op = .call { callee := .builtin .append, args := #[s, x], argTypes := #[t, t] })
    (ad : Option Addr) (n cap : Nat) (l : List α) (hs : a.eval s = .slice ad n cap) (hn : n = l.length) (h : QRow E w ad cap l)
    (a2 : Addr) (m : Nat) (l2 : List α) (c : Nat) (hx : a.eval x = .slice (some a2) m c) (hm : m = l2.length) (hr : RowE E w (some a2) l2)
    (hlen : n + m ≤ maxLen) (hbytes : (n + m) * by' ≤ 140737488355328)
    (hK : ∀ (ad' : Option Addr) (cap' : Nat) w', Hid (QRow E w' ad' cap' (l ++ l2)) → Hid (w.grownBy w' (ad.map (·.block))) → Hid (∀ b o s, ad' = some ⟨b, o, s⟩ → (∃ o', ad = some ⟨b, o', .none⟩) ∨ w.heap.size ≤ b) → wpList P ops Q rest (a.put o.dst (.slice ad' (n + m) cap')) w') :
    wpList P ops Q (o :: rest) a w := by
  subst hn hm
  obtain ⟨ad', cap', w', hrun, h1, h2, h3⟩ := run_append_que E w o.type ht hi hz hsize hby hzs ad cap l h a2 c l2 hr hlen hbytes
  refine wpList_step fun K hK2 => ?_
  have hw : Region.wanted o (yielded ops a.tmps) = true := by simp [Region.wanted, hgd]
  rw [if_pos hw]
  unfold Oper.wp
  simp [execOp, ho, resolve, invoke, builtin, hs, hx, hrun, Result.andThen]
  exact hK2 _ _ (hK _ _ _ (Lib.hid h1) (Lib.hid h2) (Lib.hid h3))
end

/-- The frames of a row, as bytes. -/
def cat (ws : List FrX) : List UInt8 := (ws.map fun x => wholeL x.1).flatten
theorem cat_app (ws : List FrX) (x : FrX) : cat (ws ++ [x]) = cat ws ++ wholeL x.1 := by simp [cat]
theorem cat_cons (ws : List FrX) (x : FrX) : cat (x :: ws) = wholeL x.1 ++ cat ws := by simp [cat]
def GoodX (x : FrX) : Prop := smallB x.1 = true ∧ mayB x.1 = true ∧ (takeF (wholeL x.1) 16777215).2.2.is = false
theorem good_take (x : FrX) (h : GoodX x) (r : List UInt8) : takeF (wholeL x.1 ++ r) 16777215 = (x.1, (wholeL x.1).length, noFa) := by
  rw [wl_join x.1 h.1 h.2.1, wl_ok x.1 h.1 h.2.1 h.2.2]
end Go.Proofs.YtdilgkkkhmmffaaDoor

namespace Go.Proofs.YtdilgkkkhmmffaaDoor
open Go.RowKit
open Fra Oct Arg Mem Gen Wr Sx Qu Go.Proofs.YtdilgkkkhmmffaaDoor.Obj
set_option linter.unusedVariables false
set_option linter.unusedSimpArgs false

theorem cat_len (ws : List FrX) (h : ∀ x ∈ ws, GoodX x) : (cat ws).length ≤ 100000 * ws.length := by
  induction ws with
  | nil => simp [cat]
  | cons x r ih =>
    have h1 := ih (fun y hy => h y (List.mem_cons_of_mem _ hy))
    have hx := h x (List.mem_cons_self ..)
    have h2 := wl_len x.1 hx.1 hx.2.1
    rw [cat_cons, List.length_append, List.length_cons]
    omega

set_option maxRecDepth 100000 in
set_option maxHeartbeats 8000000 in
theorem law_row (l : List FrX) (ad : Option Addr) (cap : Nat) (w : World) (hr : Rw.RowE EFr w ad l) (hoks : ∀ x ∈ l, FrOk x.1 x.2.1 x.2.2 w) (hc : l.length ≤ cap) (hm : cap ≤ maxLen) (hs : SpIs w) :
    Calls Tryd.prog 7 #[.slice ad l.length cap] w fun e w' => e = .returned (.bool true) ∧ Below w.heap.size w w' := by
  have HA := Lib.hid (awake_any w hs)
  have HS := Lib.hid hs
  have HRw := Lib.hid hr
  have HOks := Lib.hid hoks
  obtain ⟨i0, hi, hz0, hz1, hz2⟩ := info_parts info_fr
  have HI8 := Lib.hid hi
  have HZ0 := Lib.hid hz0
  have HZ1 := Lib.hid hz1
  have HZ2 := Lib.hid hz2
  clear hi hz0 hz1 hz2
  obtain ⟨j0, hi, hz0, hz1, hz2⟩ := info_parts info_u8
  have BI8 := Lib.hid hi
  have BZ0 := Lib.hid hz0
  have BZ1 := Lib.hid hz1
  have BZ2 := Lib.hid hz2
  clear hi hz0 hz1 hz2
  obtain ⟨n, hn⟩ : ∃ n, n = l.length := ⟨_, rfl⟩
  rw [← hn] at hc ⊢
  have HN := Lib.hid hn
  unfold maxLen at hm
  clear hn hr hoks hs
  go_enter Tryd.func7, Tryd.ntmps7
  go_wp2_with fail
  refine HA.out.mono ?_
  rintro e w1 ⟨rfl, b1⟩
  have H0 := Lib.hid (((Sts.of_below b1).add (F := blk none) (P := RowQ EFr none 0 []) (Below.refl _ _) (fun k hk => by cases hk) RowQ.st (Rw.QRow.bare _ _)).add (F := blk none) (P := RowQ EBy none 0 []) (Below.refl _ _) (fun k hk => by cases hk) RowQ.st (Rw.QRow.bare _ _))
  clear b1 HA
  go_wp2_with fail
  go_loopw [3, 4, 5] (fun vb vw vi wr => ∃ (k : Nat) (ba : Option Addr) (bc : Nat) (wa : Option Addr) (wc : Nat) (B : List UInt8) (ws : List FrX), k ≤ n ∧ k ≤ 50 ∧ vi = .int .i64 k ∧ vb = .slice ba B.length bc ∧ vw = .slice wa ws.length wc ∧ Hid (Sts w wr [(blk ba, RowQ EBy ba bc B), (blk wa, RowQ EFr wa wc ws)]) ∧ Hid (B = cat ws ∧ (∀ x ∈ ws, GoodX x ∧ FrOk x.1 x.2.1 x.2.2 w) ∧ ws.length ≤ k ∧ B.length ≤ 360000)) (fun _ _ vi _ => 50 - (intOf vi).toNat)
  case atStart => exact ⟨0, none, 0, none, 0, [], [], Nat.zero_le _, by omega, rfl, rfl, rfl, H0, Lib.hid ⟨rfl, (fun x hx => by cases hx), Nat.le_refl _, by simp⟩⟩
  case round =>
    clear H0
    obtain ⟨k, ba, bc, wa, wc, B, ws, hkn, hk50, rfl, rfl, rfl, HSt, HInv⟩ := hrel
    by_cases hlt : k < n ∧ k < 50
    · obtain ⟨hlt1, hlt2⟩ := hlt
      have hlt1' : (k : Int) < n := by omega
      have hlt2' : (k : Int) < 50 := by omega
      have hlr : k < l.length := by rw [← HN.out]; exact hlt1
      obtain ⟨bl, off, rfl, hce⟩ : ∃ b off, ad = some ⟨b, off, none⟩ ∧ ∀ i, (h : i < l.length) → Rw.CE EFr w b (off + i * 12) l[i] := by
        rcases HRw.out with h | h
        · rw [h] at hlr; simp at hlr
        · exact h
      have HOkx := Lib.hid (fun v (hv : Below w.heap.size w v) => (HOks.out l[k] (List.getElem_mem hlr)).below hv)
      have hcx := CE_fr (hce k hlr)
      generalize l[k] = x at hcx HOkx
      have HCx : Hid (∀ v, Below w.heap.size w v → v.cell? ⟨bl, off + k * 12, none⟩ = some (.int .i64 x.1.type) ∧ v.cell? ⟨bl, off + k * 12 + 1, none⟩ = some (.int .i64 x.1.flags) ∧ v.cell? ⟨bl, off + k * 12 + 2, none⟩ = some (.int .i64 x.1.stream) ∧ v.cell? ⟨bl, off + k * 12 + 3, none⟩ = some (.string x.1.data) ∧ v.cell? ⟨bl, off + k * 12 + 4, none⟩ = some (.int .i64 x.1.pad) ∧ v.cell? ⟨bl, off + k * 12 + 5, none⟩ = some (.slice x.2.1 x.1.sets.length x.2.2) ∧ v.cell? ⟨bl, off + k * 12 + 6, none⟩ = some (.int .i64 x.1.code) ∧ v.cell? ⟨bl, off + k * 12 + 7, none⟩ = some (.int .i64 x.1.last) ∧ v.cell? ⟨bl, off + k * 12 + 8, none⟩ = some (.int .i64 x.1.inc) ∧ v.cell? ⟨bl, off + k * 12 + 9, none⟩ = some (.int .i64 x.1.dep) ∧ v.cell? ⟨bl, off + k * 12 + 10, none⟩ = some (.int .i64 x.1.weight) ∧ v.cell? ⟨bl, off + k * 12 + 11, none⟩ = some (.bool x.1.sole)) := Lib.hid (fun v hv => ⟨below_cell hv hcx.1, below_cell hv hcx.2.1, below_cell hv hcx.2.2.1, below_cell hv hcx.2.2.2.1, below_cell hv hcx.2.2.2.2.1, below_cell hv hcx.2.2.2.2.2.1, below_cell hv hcx.2.2.2.2.2.2.1, below_cell hv hcx.2.2.2.2.2.2.2.1, below_cell hv hcx.2.2.2.2.2.2.2.2.1, below_cell hv hcx.2.2.2.2.2.2.2.2.2.1, below_cell hv hcx.2.2.2.2.2.2.2.2.2.2.1, below_cell hv hcx.2.2.2.2.2.2.2.2.2.2.2⟩)
      obtain ⟨y0, y1, y2, y3, y4, y5, y6, y7, y8, y9, y10, y11⟩ := HCx.out _ HSt.out.bel
      have HMs := Lib.hid (fun v => small_any x.1 x.2.1 x.2.2 v)
      unfold frV frC at HMs
      clear hcx hce
      cases hsm : smallB x.1 with
      | false =>
        rw [hsm] at HMs
        go_wp2_with fail
        refine (HMs.out _).mono ?_
        rintro e w2 ⟨rfl, b2⟩
        have hB2 := below_step HSt.out.bel b2
        go_wp2_with fail
        go_ret
        exact ⟨rfl, hB2⟩
      | true =>
        rw [hsm] at HMs
        by_cases hbig : B.length > 262144
        · have hbig' : (B.length : Int) > 262144 := by omega
          go_wp2_with fail
          refine (HMs.out _).mono ?_
          rintro e w2 ⟨rfl, b2⟩
          have hB2 := below_step HSt.out.bel b2
          go_wp2_with fail
          go_ret
          exact ⟨rfl, hB2⟩
        · have hbig' : ¬ (B.length : Int) > 262144 := by omega
          have hsz : x.1.data.size ≤ 1000000 ∧ x.1.sets.length ≤ 1000000 := by
            simp only [smallB, Bool.and_eq_true, decide_eq_true_eq] at hsm
            omega
          have HP := Lib.hid (fun v (hv : Below w.heap.size w v) => pput_any x.1 x.2.1 x.2.2 v (HOkx.out v hv) hsz.1 hsz.2)
          cases hmb : mayB x.1 with
          | false =>
            rw [wput_no x.1 hmb] at HP
            have HRT := Lib.hid (fun (v : World) (oa : Option Addr) (oc : Nat) (h2 : oc ≤ maxLen) => rtake06_any [] oa oc 16777215 v (.inl rfl) (Nat.zero_le _) h2)
            rw [take_nil] at HRT
            unfold TkEnd at HRT
            unfold frV frC at HP
            unfold frV frC faV noFa at HRT
            simp only at HRT
            clear hsz hsm hmb
            go_wp2_with fail
            refine (HMs.out _).mono ?_
            rintro e w2 ⟨rfl, b2⟩
            have HS2 := Lib.hid (HSt.out.below b2)
            clear b2 y0 y1 y2 y3 y4 y5 y6 y7 y8 y9 y10 y11
            obtain ⟨y0, y1, y2, y3, y4, y5, y6, y7, y8, y9, y10, y11⟩ := HCx.out _ HS2.out.bel
            go_wp2_with fail
            refine (HP.out _ HS2.out.bel).mono ?_
            rintro e w3 ⟨oa, oc, rfl, ho, b3⟩
            have HS3 := Lib.hid (HS2.out.below b3)
            have HO3 := Lib.hid ho
            clear b3 ho y0 y1 y2 y3 y4 y5 y6 y7 y8 y9 y10 y11
            go_wp2_with fail
            refine (HRT.out w3 oa oc HO3.out.row.max).mono ?_
            rintro e w4 ⟨ra, rc, rfl, _, b4⟩
            have HS4 := Lib.hid ((HS3.out.below b4).below (bel2 w4 (Obj.cells (frC noFr ra rc) 24) (Obj.cells #[.bool false, .int .i64 0, .int .i64 0] 33)))
            clear b4
            go_wp2_with fail
            go_roundw
            case rel => exact ⟨k + 1, ba, bc, wa, wc, B, ws, by omega, by omega, by go_num, rfl, rfl, HS4, Lib.hid ⟨HInv.out.1, HInv.out.2.1, by have := HInv.out.2.2.1; omega, HInv.out.2.2.2⟩⟩
            case measure => simp [intOf]; omega
          | true =>
            have hpy := wput_yes x.1 hsm hmb
            rw [hpy] at HP
            have hln := wl_len x.1 hsm hmb
            have HRT := Lib.hid (fun (v : World) (oa : Option Addr) (oc : Nat) (ho : RB v oa (wholeL x.1)) (h1 : (wholeL x.1).length ≤ oc) (h2 : oc ≤ maxLen) => rtake06_any (wholeL x.1) oa oc 16777215 v ho h1 h2)
            unfold TkEnd at HRT
            have HG := Lib.hid (fun (h : (takeF (wholeL x.1) 16777215).2.2.is = false) => show GoodX x from ⟨hsm, hmb, h⟩)
            have hLn : 9 ≤ (wholeL x.1).length ∧ (wholeL x.1).length ≤ 90009 := by omega
            obtain ⟨L, hL⟩ : ∃ L, L = wholeL x.1 := ⟨_, rfl⟩
            rw [← hL] at HP hLn HG
            simp only [← hL] at HRT
            have HL := Lib.hid hL
            generalize takeF L 16777215 = R at HRT HG
            obtain ⟨F, N, X⟩ := R
            obtain ⟨Xi, Xc, Xs⟩ := X
            simp only at HRT HG
            unfold frV frC at HP
            unfold frV frC faV at HRT
            simp only at HRT
            clear hsz hsm hmb hln hpy hL
            go_wp2_with fail
            refine (HMs.out _).mono ?_
            rintro e w2 ⟨rfl, b2⟩
            have HS2 := Lib.hid (HSt.out.below b2)
            clear b2 y0 y1 y2 y3 y4 y5 y6 y7 y8 y9 y10 y11
            obtain ⟨y0, y1, y2, y3, y4, y5, y6, y7, y8, y9, y10, y11⟩ := HCx.out _ HS2.out.bel
            go_wp2_with fail
            refine (HP.out _ HS2.out.bel).mono ?_
            rintro e w3 ⟨oa, oc, rfl, ho, b3⟩
            have HS3 := Lib.hid (HS2.out.below b3)
            have HO3 := Lib.hid ho
            clear b3 ho y0 y1 y2 y3 y4 y5 y6 y7 y8 y9 y10 y11
            go_wp2_with fail
            refine (HRT.out w3 oa oc HO3.out.rb HO3.out.row.le HO3.out.row.max).mono ?_
            rintro e w4 ⟨ra, rc, rfl, _, b4⟩
            have HB34 := Lib.hid (below_step b4 (bel2 w4 (Obj.cells (frC F ra rc) 24) (Obj.cells #[.bool Xi, .int .i64 Xc, .int .i64 Xs] 33)))
            have HS4 := Lib.hid (HS3.out.below HB34.out)
            clear b4
            cases Xi with
            | true =>
              go_wp2_with fail
              go_roundw
              case rel => exact ⟨k + 1, ba, bc, wa, wc, B, ws, by omega, by omega, by go_num, rfl, rfl, HS4, Lib.hid ⟨HInv.out.1, HInv.out.2.1, by have := HInv.out.2.2.1; omega, HInv.out.2.2.2⟩⟩
              case measure => simp [intOf]; omega
            | false =>
              have HGx := Lib.hid (HG.out rfl)
              obtain ⟨pb, po, rfl, hcl⟩ : ∃ b off, oa = some ⟨b, off, none⟩ ∧ ∀ i, (h : i < L.length) → w3.cell? ⟨b, off + i, none⟩ = some (.int .u8 (L[i].toNat : Int)) := by
                rcases HO3.out.rb with h | h
                · have := hLn.1; rw [h] at this; simp at this
                · exact h
              have HRp := Lib.hid (q_of_rb ((show RB w3 (some ⟨pb, po, none⟩) L from .inr ⟨pb, po, rfl, hcl⟩).below HB34.out))
              have HQb : Hid (Rw.QRow EBy _ ba bc B) := Lib.hid (HS4.out.is 0 rfl)
              have HIb := HInv.out.2.2
              have hws : ws.length ≤ 50 := by omega
              have HLb : Hid (B.length + L.length ≤ maxLen ∧ (B.length + L.length) * 1 ≤ 140737488355328) := Lib.hid (by unfold maxLen; omega)
              have HLw : Hid (ws.length + 1 ≤ maxLen ∧ (ws.length + 1) * 120 ≤ 140737488355328) := Lib.hid (by unfold maxLen; omega)
              clear hcl HIb
              go_wp2_with (first
                | (at_builtin; refine wl_que EBy Tryd.underlying27 BI8.out BZ0.out BZ1.out BZ2.out rfl rfl (.tmp 59) (.tmp 60) rfl ba B.length bc B rfl rfl HQb.out ⟨pb, po, none⟩ L.length L oc rfl rfl HRp.out HLb.out.1 HLb.out.2 ?_; intro ba2 bc2 w5 hq5 hg5 hn5; have HS5 := Lib.hid (stsApp HS4.out 0 rfl hg5.out hq5.out hn5.out); obtain ⟨y0, y1, y2, y3, y4, y5, y6, y7, y8, y9, y10, y11⟩ := HCx.out _ HS5.out.bel; have HS6 := Lib.hid (HS5.out.below (bel_al w5 (.cells (frC x.1 x.2.1 x.2.2) 24))); have HQw : Hid (Rw.QRow EFr (w5.alloc (.cells (frC x.1 x.2.1 x.2.2) 24)) wa wc ws) := Lib.hid (HS6.out.is 1 rfl); have HNw := Lib.hid (fr_new w5 x); clear hq5 hg5 hn5)
                | (at_builtin; refine wl_que EFr Tryd.underlying40 HI8.out HZ0.out HZ1.out HZ2.out rfl rfl (.tmp 62) (.tmp 67) rfl wa ws.length wc ws rfl rfl HQw.out ⟨w5.heap.size, 0, none⟩ 1 [x] 1 rfl rfl HNw.out HLw.out.1 HLw.out.2 ?_; intro wa2 wc2 w7 hq7 hg7 hn7; have HS7 := Lib.hid (stsApp HS6.out 1 rfl hg7.out hq7.out hn7.out); clear hq7 hg7 hn7))
              go_roundw
              case rel =>
                refine ⟨k + 1, ba2, bc2, wa2, wc2, B ++ L, ws ++ [x], by omega, by omega, by go_num, by rw [List.length_append], by rw [List.length_append]; rfl, HS7, Lib.hid ⟨?_, ?_, ?_, ?_⟩⟩
                · rw [cat_app, ← HL.out, HInv.out.1]
                · intro y hy
                  rcases List.mem_append.mp hy with h | h
                  · exact HInv.out.2.1 y h
                  · simp only [List.mem_singleton] at h
                    subst h
                    exact ⟨HGx.out, HOkx.out w (Below.refl _ _)⟩
                · rw [List.length_append]; have := HInv.out.2.2.1; simp; omega
                · rw [List.length_append]; omega
              case measure => simp [intOf]; omega
    · have hcond : ¬ (k : Int) < n ∨ ((k : Int) < n ∧ ¬ (k : Int) < 50) := by omega
      obtain ⟨wL, rfl⟩ : ∃ x, x = wr := ⟨_, rfl⟩
      have HEnd := HInv.out
      obtain ⟨hB, hgood, hwsl, _⟩ := HEnd
      have HRb := Lib.hid (rb_of_q ((show Rw.QRow EBy wL ba bc B from HSt.out.is 0 rfl).row))
      have hbl := (show Rw.QRow EBy wL ba bc B from HSt.out.is 0 rfl).le
      have hbm := (show Rw.QRow EBy wL ba bc B from HSt.out.is 0 rfl).max
      have HRws := Lib.hid ((show Rw.QRow EFr wL wa wc ws from HSt.out.is 1 rfl).row)
      have HBel := Lib.hid HSt.out.bel
      have HGood := Lib.hid hgood
      have HBc := Lib.hid hB
      have hBl := HInv.out.2.2.2
      obtain ⟨m, hm2⟩ : ∃ m, m = ws.length := ⟨_, rfl⟩
      have hm50 : m ≤ 50 := by omega
      rw [← hm2]
      have HM := Lib.hid hm2
      clear hB hgood hwsl hm2 HSt HInv
      rcases hcond with hcn | ⟨hcn, hck⟩
      · go_wp2_with fail
        go_loopw [3, 11] (fun vb vi wq => ∃ (j : Nat) (pa : Option Addr) (pc : Nat) (P : List UInt8), j ≤ m ∧ vi = .int .i64 j ∧ vb = .slice pa P.length pc ∧ Hid (P = cat (ws.drop j)) ∧ Hid (Below wL.heap.size wL wq) ∧ Hid (RB wL pa P ∧ P.length ≤ pc ∧ pc ≤ maxLen)) (fun _ vi _ => m - (intOf vi).toNat)
        case atStart => exact ⟨0, ba, bc, B, by omega, rfl, rfl, Lib.hid (by rw [HBc.out]; rfl), Lib.hid (Below.refl _ _), Lib.hid ⟨HRb.out, hbl, hbm⟩⟩
        case round =>
          clear hcn hbl hbm hBl
          obtain ⟨j, pa, pc, P, hj, rfl, rfl, HP, HBq, HZ⟩ := hrel
          by_cases hjl : j < m
          · have hjl' : (j : Int) < m := by omega
            have hjw : j < ws.length := by rw [← HM.out]; exact hjl
            obtain ⟨gl, goff, rfl, hce⟩ : ∃ b off, wa = some ⟨b, off, none⟩ ∧ ∀ i, (h : i < ws.length) → Rw.CE EFr wL b (off + i * 12) ws[i] := by
              rcases HRws.out with h | h
              · rw [h] at hjw; simp at hjw
              · exact h
            have hgd := HGood.out _ (List.getElem_mem hjw)
            have hdr : ws.drop j = ws[j] :: ws.drop (j + 1) := List.drop_eq_getElem_cons hjw
            have hPe : P = wholeL ws[j].1 ++ cat (ws.drop (j + 1)) := by rw [HP.out, hdr, cat_cons]
            have hcx := CE_fr (hce j hjw)
            clear hce hdr
            generalize ws[j] = x at hgd hPe hcx
            obtain ⟨Rs, hRs⟩ : ∃ R, R = cat (ws.drop (j + 1)) := ⟨_, rfl⟩
            rw [← hRs] at hPe
            have hln := wl_len x.1 hgd.1.1 hgd.1.2.1
            obtain ⟨hz1, hz2, hz3⟩ := HZ.out
            have HTK := Lib.hid (ptake_any P pa pc 16777215 wr (hz1.below HBq.out) hz2 hz3 (HS.out.below (below_step HBel.out HBq.out)))
            have htk : takeF P 16777215 = (x.1, (wholeL x.1).length, noFa) := by rw [hPe]; exact good_take x hgd.1 Rs
            rw [htk] at HTK
            obtain ⟨L, hL⟩ : ∃ L, L = wholeL x.1 := ⟨_, rfl⟩
            rw [← hL] at HTK hln hPe
            have hLP : P.length = L.length + Rs.length := by rw [hPe, List.length_append]
            have h9 : ¬ ((L.length : Int) < 9) := by omega
            have hgt : ¬ ((L.length : Int) > (P.length : Int)) := by omega
            have kd9 : decide ((L.length : Int) < 9) = false := decide_eq_false h9
            have kgt : decide ((P.length : Int) < (L.length : Int)) = false := decide_eq_false (by omega)
            have hgt2 : ¬ (P.length < L.length) := by omega
            have hgt3 : L.length ≤ P.length := by omega
            have HRs := Lib.hid hRs
            have hrl : P.length - L.length = Rs.length := by omega
            have hsl : ∀ v, (Instr.slice 27 (.slice pa P.length pc) (some (.int .i64 (L.length : Int))) none none).run Tryd.prog v = .ok (.slice (Sl.adOf pa pc L.length 1) (P.length - L.length) (pc - L.length)) v := fun v => Sl.run_from (P := Tryd.prog) Tryd.underlying27 (size := 1) size_by pa P.length pc L.length (by omega) hz2 v
            rw [hrl] at hsl
            have HZ2 : Hid (RB wL (Sl.adOf pa pc L.length 1) Rs ∧ Rs.length ≤ pc - L.length ∧ pc - L.length ≤ maxLen) := Lib.hid ⟨by
              have h := Sl.rb_from hz1 L.length hz2
              rw [hPe, List.drop_left] at h
              exact h, by omega, by omega⟩
            have HSm := Lib.hid (fun (v : World) sa sb sc sd h1 h2 => rsame_any x.1 x.1 sa sb sc sd v h1 h2)
            rw [decide_eq_true rfl] at HSm
            have HOkx := Lib.hid (fun v (hv : Below w.heap.size w v) => hgd.2.below hv)
            have hL9 : 9 ≤ L.length := by omega
            unfold frV frC faV noFa at HTK
            unfold frV frC at HSm
            simp only at HTK
            clear hgd hPe hRs hln htk hL hLP hrl hz1 hz2 hz3
            go_wp2_with fail
            refine HTK.out.mono ?_
            rintro e w3 ⟨ta, tc, rfl, ok3, b3⟩
            have HOk3 := Lib.hid ok3
            have HB3 := Lib.hid (below_step HBq.out b3)
            clear b3 ok3
            obtain ⟨t1, t2, t3⟩ := two_boxes w3 x.1 ta tc (⟨false, 0, 0⟩ : FaM)
            unfold frC at t1 t2 t3
            go_wp2_with fail
            skip
            generalize (w3.alloc (.cells #[.int .i64 x.1.type, .int .i64 x.1.flags, .int .i64 x.1.stream, .string x.1.data, .int .i64 x.1.pad, .slice ta x.1.sets.length tc, .int .i64 x.1.code, .int .i64 x.1.last, .int .i64 x.1.inc, .int .i64 x.1.dep, .int .i64 x.1.weight, .bool x.1.sole] 24)).alloc (.cells #[.bool false, .int .i64 0, .int .i64 0] 33) = w4 at t1 t2 t3 ⊢
            obtain ⟨g1, hg1⟩ : ∃ g, g = w3.heap.size := ⟨_, rfl⟩
            rw [← hg1] at t1 t2 ⊢
            have HF4 : Hid (Fb g1 x.1 ta tc w4) := Lib.hid t1
            have HX4 := Lib.hid t2
            have HT4 := Lib.hid t3
            clear t1 t2 t3 hg1
            have HB4 := Lib.hid (below_step HB3.out HT4.out)
            have HOk4 := Lib.hid (HOk3.out.below HT4.out)
            have HOkx4 := Lib.hid (HOkx.out w4 (below_step HBel.out HB4.out))
            have hb0 : Below w4.heap.size w4 w4.drew := (Below.refl _ _).drew
            have : Nonempty (Cw (fun v => Below w4.heap.size w4 v)) := ⟨⟨_, hb0⟩⟩
            have za0 : ∀ nn : Cw (fun v => Below w4.heap.size w4 v), nn.v.cell? ⟨g1, 0, none⟩ = some (.int .i64 x.1.type) := fun nn => Fb.cellz (show Fb g1 x.1 ta tc nn.v from block_below nn.h HF4.out) 0
            have za1 : ∀ nn : Cw (fun v => Below w4.heap.size w4 v), nn.v.cell? ⟨g1, 1, none⟩ = some (.int .i64 x.1.flags) := fun nn => Fb.cellz (show Fb g1 x.1 ta tc nn.v from block_below nn.h HF4.out) 1
            have za2 : ∀ nn : Cw (fun v => Below w4.heap.size w4 v), nn.v.cell? ⟨g1, 2, none⟩ = some (.int .i64 x.1.stream) := fun nn => Fb.cellz (show Fb g1 x.1 ta tc nn.v from block_below nn.h HF4.out) 2
            have za3 : ∀ nn : Cw (fun v => Below w4.heap.size w4 v), nn.v.cell? ⟨g1, 3, none⟩ = some (.string x.1.data) := fun nn => Fb.cellz (show Fb g1 x.1 ta tc nn.v from block_below nn.h HF4.out) 3
            have za4 : ∀ nn : Cw (fun v => Below w4.heap.size w4 v), nn.v.cell? ⟨g1, 4, none⟩ = some (.int .i64 x.1.pad) := fun nn => Fb.cellz (show Fb g1 x.1 ta tc nn.v from block_below nn.h HF4.out) 4
            have za5 : ∀ nn : Cw (fun v => Below w4.heap.size w4 v), nn.v.cell? ⟨g1, 5, none⟩ = some (.slice ta x.1.sets.length tc) := fun nn => Fb.cellz (show Fb g1 x.1 ta tc nn.v from block_below nn.h HF4.out) 5
            have za6 : ∀ nn : Cw (fun v => Below w4.heap.size w4 v), nn.v.cell? ⟨g1, 6, none⟩ = some (.int .i64 x.1.code) := fun nn => Fb.cellz (show Fb g1 x.1 ta tc nn.v from block_below nn.h HF4.out) 6
            have za7 : ∀ nn : Cw (fun v => Below w4.heap.size w4 v), nn.v.cell? ⟨g1, 7, none⟩ = some (.int .i64 x.1.last) := fun nn => Fb.cellz (show Fb g1 x.1 ta tc nn.v from block_below nn.h HF4.out) 7
            have za8 : ∀ nn : Cw (fun v => Below w4.heap.size w4 v), nn.v.cell? ⟨g1, 8, none⟩ = some (.int .i64 x.1.inc) := fun nn => Fb.cellz (show Fb g1 x.1 ta tc nn.v from block_below nn.h HF4.out) 8
            have za9 : ∀ nn : Cw (fun v => Below w4.heap.size w4 v), nn.v.cell? ⟨g1, 9, none⟩ = some (.int .i64 x.1.dep) := fun nn => Fb.cellz (show Fb g1 x.1 ta tc nn.v from block_below nn.h HF4.out) 9
            have za10 : ∀ nn : Cw (fun v => Below w4.heap.size w4 v), nn.v.cell? ⟨g1, 10, none⟩ = some (.int .i64 x.1.weight) := fun nn => Fb.cellz (show Fb g1 x.1 ta tc nn.v from block_below nn.h HF4.out) 10
            have za11 : ∀ nn : Cw (fun v => Below w4.heap.size w4 v), nn.v.cell? ⟨g1, 11, none⟩ = some (.bool x.1.sole) := fun nn => Fb.cellz (show Fb g1 x.1 ta tc nn.v from block_below nn.h HF4.out) 11
            have zf : ∀ nn : Cw (fun v => Below w4.heap.size w4 v), nn.v.cell? ⟨g1 + 1, 0, none⟩ = some (.bool false) := fun nn => cell_at (block_below nn.h HX4.out) 0
            have zb0 : ∀ nn : Cw (fun v => Below w4.heap.size w4 v), nn.v.cell? ⟨gl, goff + j * 12, none⟩ = some (.int .i64 x.1.type) := fun nn => below_cell (below_step HB4.out nn.h) hcx.1
            have zb1 : ∀ nn : Cw (fun v => Below w4.heap.size w4 v), nn.v.cell? ⟨gl, goff + j * 12 + 1, none⟩ = some (.int .i64 x.1.flags) := fun nn => below_cell (below_step HB4.out nn.h) hcx.2.1
            have zb2 : ∀ nn : Cw (fun v => Below w4.heap.size w4 v), nn.v.cell? ⟨gl, goff + j * 12 + 2, none⟩ = some (.int .i64 x.1.stream) := fun nn => below_cell (below_step HB4.out nn.h) hcx.2.2.1
            have zb3 : ∀ nn : Cw (fun v => Below w4.heap.size w4 v), nn.v.cell? ⟨gl, goff + j * 12 + 3, none⟩ = some (.string x.1.data) := fun nn => below_cell (below_step HB4.out nn.h) hcx.2.2.2.1
            have zb4 : ∀ nn : Cw (fun v => Below w4.heap.size w4 v), nn.v.cell? ⟨gl, goff + j * 12 + 4, none⟩ = some (.int .i64 x.1.pad) := fun nn => below_cell (below_step HB4.out nn.h) hcx.2.2.2.2.1
            have zb5 : ∀ nn : Cw (fun v => Below w4.heap.size w4 v), nn.v.cell? ⟨gl, goff + j * 12 + 5, none⟩ = some (.slice x.2.1 x.1.sets.length x.2.2) := fun nn => below_cell (below_step HB4.out nn.h) hcx.2.2.2.2.2.1
            have zb6 : ∀ nn : Cw (fun v => Below w4.heap.size w4 v), nn.v.cell? ⟨gl, goff + j * 12 + 6, none⟩ = some (.int .i64 x.1.code) := fun nn => below_cell (below_step HB4.out nn.h) hcx.2.2.2.2.2.2.1
            have zb7 : ∀ nn : Cw (fun v => Below w4.heap.size w4 v), nn.v.cell? ⟨gl, goff + j * 12 + 7, none⟩ = some (.int .i64 x.1.last) := fun nn => below_cell (below_step HB4.out nn.h) hcx.2.2.2.2.2.2.2.1
            have zb8 : ∀ nn : Cw (fun v => Below w4.heap.size w4 v), nn.v.cell? ⟨gl, goff + j * 12 + 8, none⟩ = some (.int .i64 x.1.inc) := fun nn => below_cell (below_step HB4.out nn.h) hcx.2.2.2.2.2.2.2.2.1
            have zb9 : ∀ nn : Cw (fun v => Below w4.heap.size w4 v), nn.v.cell? ⟨gl, goff + j * 12 + 9, none⟩ = some (.int .i64 x.1.dep) := fun nn => below_cell (below_step HB4.out nn.h) hcx.2.2.2.2.2.2.2.2.2.1
            have zb10 : ∀ nn : Cw (fun v => Below w4.heap.size w4 v), nn.v.cell? ⟨gl, goff + j * 12 + 10, none⟩ = some (.int .i64 x.1.weight) := fun nn => below_cell (below_step HB4.out nn.h) hcx.2.2.2.2.2.2.2.2.2.2.1
            have zb11 : ∀ nn : Cw (fun v => Below w4.heap.size w4 v), nn.v.cell? ⟨gl, goff + j * 12 + 11, none⟩ = some (.bool x.1.sole) := fun nn => below_cell (below_step HB4.out nn.h) hcx.2.2.2.2.2.2.2.2.2.2.2
            clear hcx
            refine reg_quietB (fun v => Below w4.heap.size w4 v) (by kernel_rfl) (by kernel_rfl) hb0 ?_
            repeat (go_big_quiet_step ((go_at_call 16; exact (HSm.out _ ta x.2.1 tc x.2.2 (HOk4.out.below (Cw.h _)) (HOkx4.out.below (Cw.h _))).mono (fun e w' h => ⟨h.1, ⟨⟨w', below_step (Cw.h _) h.2⟩, rfl⟩⟩))))
            refine wpQuiet_nil ?_
            rintro w5 ⟨⟨_, hb1⟩, rfl⟩
            have HB5 := Lib.hid (below_step HB4.out hb1)
            clear za0 zb0 za1 zb1 za2 zb2 za3 zb3 za4 zb4 za5 zb5 za6 zb6 za7 zb7 za8 zb8 za9 zb9 za10 zb10 za11 zb11 zf hb0
            go_wp2_with fail
            go_roundw
            case rel => exact ⟨j + 1, _, _, Rs, by omega, by go_num, rfl, HRs, HB5, HZ2⟩
            case measure => simp [intOf]; omega
          · have hje : j = m := by omega
            subst hje
            have hjl' : ¬ (j : Int) < j := by omega
            have hP0 : P = [] := by rw [HP.out, List.drop_eq_nil_of_le (by rw [← HM.out]; exact Nat.le_refl _)]; rfl
            subst hP0
            go_wp2_with fail
            go_ret
            exact ⟨rfl, below_step HBel.out HBq.out⟩
      · go_wp2_with fail
        go_loopw [3, 11] (fun vb vi wq => ∃ (j : Nat) (pa : Option Addr) (pc : Nat) (P : List UInt8), j ≤ m ∧ vi = .int .i64 j ∧ vb = .slice pa P.length pc ∧ Hid (P = cat (ws.drop j)) ∧ Hid (Below wL.heap.size wL wq) ∧ Hid (RB wL pa P ∧ P.length ≤ pc ∧ pc ≤ maxLen)) (fun _ vi _ => m - (intOf vi).toNat)
        case atStart => exact ⟨0, ba, bc, B, by omega, rfl, rfl, Lib.hid (by rw [HBc.out]; rfl), Lib.hid (Below.refl _ _), Lib.hid ⟨HRb.out, hbl, hbm⟩⟩
        case round =>
          clear hcn hbl hbm hBl
          obtain ⟨j, pa, pc, P, hj, rfl, rfl, HP, HBq, HZ⟩ := hrel
          by_cases hjl : j < m
          · have hjl' : (j : Int) < m := by omega
            have hjw : j < ws.length := by rw [← HM.out]; exact hjl
            obtain ⟨gl, goff, rfl, hce⟩ : ∃ b off, wa = some ⟨b, off, none⟩ ∧ ∀ i, (h : i < ws.length) → Rw.CE EFr wL b (off + i * 12) ws[i] := by
              rcases HRws.out with h | h
              · rw [h] at hjw; simp at hjw
              · exact h
            have hgd := HGood.out _ (List.getElem_mem hjw)
            have hdr : ws.drop j = ws[j] :: ws.drop (j + 1) := List.drop_eq_getElem_cons hjw
            have hPe : P = wholeL ws[j].1 ++ cat (ws.drop (j + 1)) := by rw [HP.out, hdr, cat_cons]
            have hcx := CE_fr (hce j hjw)
            clear hce hdr
            generalize ws[j] = x at hgd hPe hcx
            obtain ⟨Rs, hRs⟩ : ∃ R, R = cat (ws.drop (j + 1)) := ⟨_, rfl⟩
            rw [← hRs] at hPe
            have hln := wl_len x.1 hgd.1.1 hgd.1.2.1
            obtain ⟨hz1, hz2, hz3⟩ := HZ.out
            have HTK := Lib.hid (ptake_any P pa pc 16777215 wr (hz1.below HBq.out) hz2 hz3 (HS.out.below (below_step HBel.out HBq.out)))
            have htk : takeF P 16777215 = (x.1, (wholeL x.1).length, noFa) := by rw [hPe]; exact good_take x hgd.1 Rs
            rw [htk] at HTK
            obtain ⟨L, hL⟩ : ∃ L, L = wholeL x.1 := ⟨_, rfl⟩
            rw [← hL] at HTK hln hPe
            have hLP : P.length = L.length + Rs.length := by rw [hPe, List.length_append]
            have h9 : ¬ ((L.length : Int) < 9) := by omega
            have hgt : ¬ ((L.length : Int) > (P.length : Int)) := by omega
            have kd9 : decide ((L.length : Int) < 9) = false := decide_eq_false h9
            have kgt : decide ((P.length : Int) < (L.length : Int)) = false := decide_eq_false (by omega)
            have hgt2 : ¬ (P.length < L.length) := by omega
            have hgt3 : L.length ≤ P.length := by omega
            have HRs := Lib.hid hRs
            have hrl : P.length - L.length = Rs.length := by omega
            have hsl : ∀ v, (Instr.slice 27 (.slice pa P.length pc) (some (.int .i64 (L.length : Int))) none none).run Tryd.prog v = .ok (.slice (Sl.adOf pa pc L.length 1) (P.length - L.length) (pc - L.length)) v := fun v => Sl.run_from (P := Tryd.prog) Tryd.underlying27 (size := 1) size_by pa P.length pc L.length (by omega) hz2 v
            rw [hrl] at hsl
            have HZ2 : Hid (RB wL (Sl.adOf pa pc L.length 1) Rs ∧ Rs.length ≤ pc - L.length ∧ pc - L.length ≤ maxLen) := Lib.hid ⟨by
              have h := Sl.rb_from hz1 L.length hz2
              rw [hPe, List.drop_left] at h
              exact h, by omega, by omega⟩
            have HSm := Lib.hid (fun (v : World) sa sb sc sd h1 h2 => rsame_any x.1 x.1 sa sb sc sd v h1 h2)
            rw [decide_eq_true rfl] at HSm
            have HOkx := Lib.hid (fun v (hv : Below w.heap.size w v) => hgd.2.below hv)
            have hL9 : 9 ≤ L.length := by omega
            unfold frV frC faV noFa at HTK
            unfold frV frC at HSm
            simp only at HTK
            clear hgd hPe hRs hln htk hL hLP hrl hz1 hz2 hz3
            go_wp2_with fail
            refine HTK.out.mono ?_
            rintro e w3 ⟨ta, tc, rfl, ok3, b3⟩
            have HOk3 := Lib.hid ok3
            have HB3 := Lib.hid (below_step HBq.out b3)
            clear b3 ok3
            obtain ⟨t1, t2, t3⟩ := two_boxes w3 x.1 ta tc (⟨false, 0, 0⟩ : FaM)
            unfold frC at t1 t2 t3
            go_wp2_with fail
            skip
            generalize (w3.alloc (.cells #[.int .i64 x.1.type, .int .i64 x.1.flags, .int .i64 x.1.stream, .string x.1.data, .int .i64 x.1.pad, .slice ta x.1.sets.length tc, .int .i64 x.1.code, .int .i64 x.1.last, .int .i64 x.1.inc, .int .i64 x.1.dep, .int .i64 x.1.weight, .bool x.1.sole] 24)).alloc (.cells #[.bool false, .int .i64 0, .int .i64 0] 33) = w4 at t1 t2 t3 ⊢
            obtain ⟨g1, hg1⟩ : ∃ g, g = w3.heap.size := ⟨_, rfl⟩
            rw [← hg1] at t1 t2 ⊢
            have HF4 : Hid (Fb g1 x.1 ta tc w4) := Lib.hid t1
            have HX4 := Lib.hid t2
            have HT4 := Lib.hid t3
            clear t1 t2 t3 hg1
            have HB4 := Lib.hid (below_step HB3.out HT4.out)
            have HOk4 := Lib.hid (HOk3.out.below HT4.out)
            have HOkx4 := Lib.hid (HOkx.out w4 (below_step HBel.out HB4.out))
            have hb0 : Below w4.heap.size w4 w4.drew := (Below.refl _ _).drew
            have : Nonempty (Cw (fun v => Below w4.heap.size w4 v)) := ⟨⟨_, hb0⟩⟩
            have za0 : ∀ nn : Cw (fun v => Below w4.heap.size w4 v), nn.v.cell? ⟨g1, 0, none⟩ = some (.int .i64 x.1.type) := fun nn => Fb.cellz (show Fb g1 x.1 ta tc nn.v from block_below nn.h HF4.out) 0
            have za1 : ∀ nn : Cw (fun v => Below w4.heap.size w4 v), nn.v.cell? ⟨g1, 1, none⟩ = some (.int .i64 x.1.flags) := fun nn => Fb.cellz (show Fb g1 x.1 ta tc nn.v from block_below nn.h HF4.out) 1
            have za2 : ∀ nn : Cw (fun v => Below w4.heap.size w4 v), nn.v.cell? ⟨g1, 2, none⟩ = some (.int .i64 x.1.stream) := fun nn => Fb.cellz (show Fb g1 x.1 ta tc nn.v from block_below nn.h HF4.out) 2
            have za3 : ∀ nn : Cw (fun v => Below w4.heap.size w4 v), nn.v.cell? ⟨g1, 3, none⟩ = some (.string x.1.data) := fun nn => Fb.cellz (show Fb g1 x.1 ta tc nn.v from block_below nn.h HF4.out) 3
            have za4 : ∀ nn : Cw (fun v => Below w4.heap.size w4 v), nn.v.cell? ⟨g1, 4, none⟩ = some (.int .i64 x.1.pad) := fun nn => Fb.cellz (show Fb g1 x.1 ta tc nn.v from block_below nn.h HF4.out) 4
            have za5 : ∀ nn : Cw (fun v => Below w4.heap.size w4 v), nn.v.cell? ⟨g1, 5, none⟩ = some (.slice ta x.1.sets.length tc) := fun nn => Fb.cellz (show Fb g1 x.1 ta tc nn.v from block_below nn.h HF4.out) 5
            have za6 : ∀ nn : Cw (fun v => Below w4.heap.size w4 v), nn.v.cell? ⟨g1, 6, none⟩ = some (.int .i64 x.1.code) := fun nn => Fb.cellz (show Fb g1 x.1 ta tc nn.v from block_below nn.h HF4.out) 6
            have za7 : ∀ nn : Cw (fun v => Below w4.heap.size w4 v), nn.v.cell? ⟨g1, 7, none⟩ = some (.int .i64 x.1.last) := fun nn => Fb.cellz (show Fb g1 x.1 ta tc nn.v from block_below nn.h HF4.out) 7
            have za8 : ∀ nn : Cw (fun v => Below w4.heap.size w4 v), nn.v.cell? ⟨g1, 8, none⟩ = some (.int .i64 x.1.inc) := fun nn => Fb.cellz (show Fb g1 x.1 ta tc nn.v from block_below nn.h HF4.out) 8
            have za9 : ∀ nn : Cw (fun v => Below w4.heap.size w4 v), nn.v.cell? ⟨g1, 9, none⟩ = some (.int .i64 x.1.dep) := fun nn => Fb.cellz (show Fb g1 x.1 ta tc nn.v from block_below nn.h HF4.out) 9
            have za10 : ∀ nn : Cw (fun v => Below w4.heap.size w4 v), nn.v.cell? ⟨g1, 10, none⟩ = some (.int .i64 x.1.weight) := fun nn => Fb.cellz (show Fb g1 x.1 ta tc nn.v from block_below nn.h HF4.out) 10
            have za11 : ∀ nn : Cw (fun v => Below w4.heap.size w4 v), nn.v.cell? ⟨g1, 11, none⟩ = some (.bool x.1.sole) := fun nn => Fb.cellz (show Fb g1 x.1 ta tc nn.v from block_below nn.h HF4.out) 11
            have zf : ∀ nn : Cw (fun v => Below w4.heap.size w4 v), nn.v.cell? ⟨g1 + 1, 0, none⟩ = some (.bool false) := fun nn => cell_at (block_below nn.h HX4.out) 0
            have zb0 : ∀ nn : Cw (fun v => Below w4.heap.size w4 v), nn.v.cell? ⟨gl, goff + j * 12, none⟩ = some (.int .i64 x.1.type) := fun nn => below_cell (below_step HB4.out nn.h) hcx.1
            have zb1 : ∀ nn : Cw (fun v => Below w4.heap.size w4 v), nn.v.cell? ⟨gl, goff + j * 12 + 1, none⟩ = some (.int .i64 x.1.flags) := fun nn => below_cell (below_step HB4.out nn.h) hcx.2.1
            have zb2 : ∀ nn : Cw (fun v => Below w4.heap.size w4 v), nn.v.cell? ⟨gl, goff + j * 12 + 2, none⟩ = some (.int .i64 x.1.stream) := fun nn => below_cell (below_step HB4.out nn.h) hcx.2.2.1
            have zb3 : ∀ nn : Cw (fun v => Below w4.heap.size w4 v), nn.v.cell? ⟨gl, goff + j * 12 + 3, none⟩ = some (.string x.1.data) := fun nn => below_cell (below_step HB4.out nn.h) hcx.2.2.2.1
            have zb4 : ∀ nn : Cw (fun v => Below w4.heap.size w4 v), nn.v.cell? ⟨gl, goff + j * 12 + 4, none⟩ = some (.int .i64 x.1.pad) := fun nn => below_cell (below_step HB4.out nn.h) hcx.2.2.2.2.1
            have zb5 : ∀ nn : Cw (fun v => Below w4.heap.size w4 v), nn.v.cell? ⟨gl, goff + j * 12 + 5, none⟩ = some (.slice x.2.1 x.1.sets.length x.2.2) := fun nn => below_cell (below_step HB4.out nn.h) hcx.2.2.2.2.2.1
            have zb6 : ∀ nn : Cw (fun v => Below w4.heap.size w4 v), nn.v.cell? ⟨gl, goff + j * 12 + 6, none⟩ = some (.int .i64 x.1.code) := fun nn => below_cell (below_step HB4.out nn.h) hcx.2.2.2.2.2.2.1
            have zb7 : ∀ nn : Cw (fun v => Below w4.heap.size w4 v), nn.v.cell? ⟨gl, goff + j * 12 + 7, none⟩ = some (.int .i64 x.1.last) := fun nn => below_cell (below_step HB4.out nn.h) hcx.2.2.2.2.2.2.2.1
            have zb8 : ∀ nn : Cw (fun v => Below w4.heap.size w4 v), nn.v.cell? ⟨gl, goff + j * 12 + 8, none⟩ = some (.int .i64 x.1.inc) := fun nn => below_cell (below_step HB4.out nn.h) hcx.2.2.2.2.2.2.2.2.1
            have zb9 : ∀ nn : Cw (fun v => Below w4.heap.size w4 v), nn.v.cell? ⟨gl, goff + j * 12 + 9, none⟩ = some (.int .i64 x.1.dep) := fun nn => below_cell (below_step HB4.out nn.h) hcx.2.2.2.2.2.2.2.2.2.1
            have zb10 : ∀ nn : Cw (fun v => Below w4.heap.size w4 v), nn.v.cell? ⟨gl, goff + j * 12 + 10, none⟩ = some (.int .i64 x.1.weight) := fun nn => below_cell (below_step HB4.out nn.h) hcx.2.2.2.2.2.2.2.2.2.2.1
            have zb11 : ∀ nn : Cw (fun v => Below w4.heap.size w4 v), nn.v.cell? ⟨gl, goff + j * 12 + 11, none⟩ = some (.bool x.1.sole) := fun nn => below_cell (below_step HB4.out nn.h) hcx.2.2.2.2.2.2.2.2.2.2.2
            clear hcx
            refine reg_quietB (fun v => Below w4.heap.size w4 v) (by kernel_rfl) (by kernel_rfl) hb0 ?_
            repeat (go_big_quiet_step ((go_at_call 16; exact (HSm.out _ ta x.2.1 tc x.2.2 (HOk4.out.below (Cw.h _)) (HOkx4.out.below (Cw.h _))).mono (fun e w' h => ⟨h.1, ⟨⟨w', below_step (Cw.h _) h.2⟩, rfl⟩⟩))))
            refine wpQuiet_nil ?_
            rintro w5 ⟨⟨_, hb1⟩, rfl⟩
            have HB5 := Lib.hid (below_step HB4.out hb1)
            clear za0 zb0 za1 zb1 za2 zb2 za3 zb3 za4 zb4 za5 zb5 za6 zb6 za7 zb7 za8 zb8 za9 zb9 za10 zb10 za11 zb11 zf hb0
            go_wp2_with fail
            go_roundw
            case rel => exact ⟨j + 1, _, _, Rs, by omega, by go_num, rfl, HRs, HB5, HZ2⟩
            case measure => simp [intOf]; omega
          · have hje : j = m := by omega
            subst hje
            have hjl' : ¬ (j : Int) < j := by omega
            have hP0 : P = [] := by rw [HP.out, List.drop_eq_nil_of_le (by rw [← HM.out]; exact Nat.le_refl _)]; rfl
            subst hP0
            go_wp2_with fail
            go_ret
            exact ⟨rfl, below_step HBel.out HBq.out⟩
end Go.Proofs.YtdilgkkkhmmffaaDoor
