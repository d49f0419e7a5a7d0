/- Layer 5: what a decoder answers, one of no use too. Layer 5: what the law's calls do to a state of several things: encoders and decoders of both sides, rows that they answer. Layer 5: what the document fixes (awake). Layer 5: what a block's errors may be: never the one of a decoder that is of no use; without one the decoder goes on; with one, but for a list that is too great, it doesn't. Layer 5: fuel doesn't matter; fields that never come into a table; a state's row is appended to. -/
import Derived.Test.YtdkgachgohilcaaDoorGP05
import Derived.Test.YtdkgachgohilcaaDoorGP24
set_option linter.unusedVariables false
set_option linter.unusedSimpArgs false
namespace Go.Proofs.YtdkgachgohilcaaDoor
open Go.RowKit
open Huf Pre Tab Hpk

/-- What a decoder answers, and what it is then. -/
def decR (br : Bool) (md ld : Nat) (l : List UInt8) (m : Nat) (rows : List FdM) : (Nat × List FdM) × (Nat × List FdM) × Bool :=
  if br then ((5, []), (m, rows), true) else decF md ld (l.length + 1) l [] 0 0 m rows

end Go.Proofs.YtdkgachgohilcaaDoor

namespace Go.Proofs.YtdkgachgohilcaaDoor
open Go.RowKit
open Huf Pre Tab Hpk Arg Mem Gen Wr Go.Proofs.YtdkgachgohilcaaDoor.Obj Sx
set_option linter.unusedVariables false

/-- A row of elements that was answered. -/
def RowP {α : Type} (E : Rw.Enc α) (ad : Option Addr) (cap : Nat) (l : List α) : World → Prop := fun w => Rw.QRow E w ad cap l
theorem RowP.st {α : Type} {E : Rw.Enc α} {ad : Option Addr} {cap : Nat} {l : List α} : Stable (blk ad) (RowP E ad cap l) := fun a b hs hb h =>
  h.block hs (fun bk o s e => hb bk (by subst e; exact List.mem_singleton.mpr rfl))
theorem q_lt {α : Type} {E : Rw.Enc α} {w : World} {ad : Option Addr} {cap : Nat} {l : List α} (h : Rw.QRow E w ad cap l) : ∀ k ∈ blk ad, k < w.heap.size := fun k hk => by
  obtain ⟨o, s, e⟩ := mem_blk hk
  obtain ⟨b, off, e', h1, _⟩ := h.lies _ e
  simp only [Addr.mk.injEq] at e'
  obtain ⟨rfl, _⟩ := e'
  exact h1

/-- The program's encoder. -/
def EncP (F : List Nat) (g own told least m : Nat) (rows : List FdM) (K : Nat) : World → Prop := fun w =>
  ∃ t L c, F = g :: L ∧ PEnc w L g own told least t m rows c ∧ c ≤ K ∧ own ≤ 65536 ∧ told ≤ 65536 ∧ least ≤ 65536
theorem EncP.st {F : List Nat} {g own told least m : Nat} {rows : List FdM} {K : Nat} : Stable F (EncP F g own told least m rows K) := fun a b hs hb ⟨t, L, c, e, h, h1⟩ =>
  ⟨t, L, c, e, h.kept hs (fun k hk => hb k (by subst e; rcases hk with rfl | hk; exact List.mem_cons_self ..; exact List.mem_cons_of_mem _ hk)), h1⟩
/-- The program's decoder. -/
def DecP (F : List Nat) (g md ld : Nat) (br : Bool) (m : Nat) (rows : List FdM) (K : Nat) : World → Prop := fun w =>
  md ≤ 65536 ∧ ((br = true ∧ F = [g] ∧ PBrk w g md ld) ∨ (br = false ∧ ∃ t L c lf, F = g :: L ∧ PDec w L g md ld t m rows c lf ∧ 2 * c ≤ K))
theorem DecP.st {F : List Nat} {g md ld : Nat} {br : Bool} {m : Nat} {rows : List FdM} {K : Nat} : Stable F (DecP F g md ld br m rows K) := fun a b hs hb ⟨h0, h⟩ => by
  refine ⟨h0, ?_⟩
  rcases h with ⟨h1, rfl, v, hv⟩ | ⟨h1, t, L, c, lf, rfl, h2, h3⟩
  · exact .inl ⟨h1, rfl, v, (hb g (List.mem_cons_self ..)).trans hv⟩
  · exact .inr ⟨h1, t, L, c, lf, rfl, h2.kept hs (fun k hk => hb k (by rcases hk with rfl | hk; exact List.mem_cons_self ..; exact List.mem_cons_of_mem _ hk)), h3⟩
section
variable {W w : World} {obs : List Th} {F : List Nat} {g own told least m md ld : Nat} {br : Bool} {rows : List FdM} {K : Nat}

theorem st_newenc (hS : Sts W w obs) (h : own ≤ 65536) :
    Calls Tryd.prog 18 #[.int .i64 own] w fun e w' => ∃ g F, e = .returned (.tuple #[.pointer (some ⟨g, 0, none⟩), .int .i64 0]) ∧ Sts W w' ((F, EncP F g own 4096 (min own 4096) (min own 4096) [] 0) :: obs) := by
  refine (pnewenc_ok own w h).mono ?_; rintro e w' ⟨g, t, L, rfl, hE, hb, hg, hL⟩
  refine ⟨g, g :: L, rfl, hS.add hb (fun k hk => ?_) EncP.st ⟨t, L, 0, rfl, hE, Nat.le_refl _, h, by omega, by omega⟩⟩
  rcases List.mem_cons.mp hk with rfl | hk
  · exact ⟨hg, hE.lt⟩
  · exact ⟨hL k hk, hE.tab.blocks k hk⟩
theorem st_newdec (hS : Sts W w obs) (h : md ≤ 65536) :
    Calls Tryd.prog 10 #[.int .i64 md, .int .i64 ld] w fun e w' => ∃ g F, e = .returned (.tuple #[.pointer (some ⟨g, 0, none⟩), .int .i64 0]) ∧ Sts W w' ((F, DecP F g md ld false (min md 4096) [] 0) :: obs) := by
  refine (pnewdec_ok md ld w h).mono ?_; rintro e w' ⟨g, t, L, rfl, hE, hb, hg, hL⟩
  refine ⟨g, g :: L, rfl, hS.add hb (fun k hk => ?_) DecP.st ⟨h, .inr ⟨rfl, t, L, 0, _, rfl, hE, Nat.le_refl _⟩⟩⟩
  rcases List.mem_cons.mp hk with rfl | hk
  · exact ⟨hg, hE.lt⟩
  · exact ⟨hL k hk, hE.tab.blocks k hk⟩
theorem st_limit (hS : Sts W w obs) (i : Nat) (hi : obs[i]? = some (F, EncP F g own told least m rows K)) (n : Nat) :
    Calls Tryd.prog 20 #[.pointer (some ⟨g, 0, none⟩), .int .i64 n] w fun e w' => e = .returned (.int .i64 0) ∧ ∃ F', Sts W w' (obs.set i (F', EncP F' g own told (min least (min own n)) (min own n) (fit (min own n) rows) K)) := by
  obtain ⟨t, L, c, rfl, hE, hc, h1, h2, h3⟩ := hS.is i hi
  refine (plimit_ok n hE h1).mono ?_; rintro e w' ⟨rfl, L', hE', hk, hn⟩
  refine ⟨rfl, g :: L', hS.turn hi hk (fun k hk' => ?_) (fun k hk' => ?_) EncP.st ⟨t, L', c, rfl, hE', hc, h1, h2, by omega⟩⟩
  · rcases List.mem_cons.mp hk' with rfl | hk'
    · exact .inl (List.mem_cons_self ..)
    · rcases hn k hk' with h | h
      · exact .inl (List.mem_cons_of_mem _ h)
      · exact .inr h
  · rcases List.mem_cons.mp hk' with rfl | hk'
    · exact hE'.lt
    · exact hE'.tab.blocks k hk'
theorem st_encode (hS : Sts W w obs) (i : Nat) (hi : obs[i]? = some (F, EncP F g own told least m rows K)) (hG : GrpIs W) (la : Option Addr) (list : List FdM) (lcap : Nat) (hl : Rw.RowE EFd w la list) (hla : list ≠ [] → ∀ b o s, la = some ⟨b, o, s⟩ → b ∉ F) (hlc : list.length ≤ lcap) (hlm : lcap ≤ maxLen)
    (hsum : csum list ≤ 1048576) (hc : K + list.length < 1000000) :
    Calls Tryd.prog 22 #[.pointer (some ⟨g, 0, none⟩), .slice la list.length lcap] w fun e w' => ∃ oa oc F', e = .returned (.slice oa (hdr told least m ++ (encList m list rows).1).length oc) ∧
      Sts W w' ((blk oa, RowP EBy oa oc (hdr told least m ++ (encList m list rows).1)) :: obs.set i (F', EncP F' g own m m m (encList m list rows).2 (K + list.length))) := by
  have hF := (hS.all i _ hi).lo
  have hlo := hS.low hi hG.lt
  obtain ⟨t, L, c, rfl, hE, hcK, h1, h2, h3⟩ := hS.is i hi
  have hms := hE.tab.sum.2
  refine (pencode_any hE la list lcap hl (fun b o s e hne => ⟨fun eq => hla hne b o s e (by rw [eq]; exact List.mem_cons_self ..), fun hm => hla hne b o s e (List.mem_cons_of_mem _ hm)⟩) hlc hlm h2 h3 (fun f hf => ?_) (by omega) (by omega) (hG.below hS.bel)
    ⟨fun e => hlo (by rw [e]; exact List.mem_cons_self ..), fun hm => hlo (List.mem_cons_of_mem _ hm)⟩).mono ?_
  · have := csum_mem hf; omega
  rintro e w' ⟨oa, oc, L', c', rfl, hE', hk, hn, hq, hob, hc'⟩
  refine ⟨oa, oc, g :: L', rfl, hS.turnAdd hi hk (fun k hk' => ?_) (fun k hk' => ?_) EncP.st ⟨t, L', c', rfl, hE', by omega, h1, hms, hms⟩ (fun k hk' => ?_) RowP.st hq⟩
  · rcases List.mem_cons.mp hk' with rfl | hk'
    · exact .inl (List.mem_cons_self ..)
    · rcases hn k hk' with h | h
      · exact .inl (List.mem_cons_of_mem _ h)
      · exact .inr h
  · rcases List.mem_cons.mp hk' with rfl | hk'
    · exact hE'.lt
    · exact hE'.tab.blocks k hk'
  · obtain ⟨o, s, e⟩ := mem_blk hk'
    have h5 := hob k o s e
    refine ⟨.inr h5.1, fun hm => ?_, q_lt hq k hk'⟩
    rcases List.mem_cons.mp hm with rfl | hm
    · have := hE.lt; omega
    · exact h5.2 hm
theorem st_decode (hS : Sts W w obs) (i : Nat) (hi : obs[i]? = some (F, DecP F g md ld br m rows K)) (hG : GrpIs W) (ba : Option Addr) (l : List UInt8) (bcap : Nat) (hrb : RB w ba l) (hba : l ≠ [] → ∀ b o s, ba = some ⟨b, o, s⟩ → b ∉ F) (hcap : l.length ≤ bcap) (hmax : bcap ≤ maxLen) (hl : l.length ≤ 100000000) (hc : K + l.length ≤ 1999990) :
    Calls Tryd.prog 12 #[.pointer (some ⟨g, 0, none⟩), .slice ba l.length bcap] w fun e w' => ∃ oa oc F', e = .returned (.tuple #[.slice oa (decR br md ld l m rows).1.2.length oc, .int .i64 (decR br md ld l m rows).1.1]) ∧
      Sts W w' ((blk oa, RowP EFd oa oc (decR br md ld l m rows).1.2) :: obs.set i (F', DecP F' g md ld (decR br md ld l m rows).2.2 (decR br md ld l m rows).2.1.1 (decR br md ld l m rows).2.1.2 (K + l.length))) := by
  have hF := (hS.all i _ hi).lo
  have hlo := hS.low hi hG.lt
  obtain ⟨hmd, hd⟩ := hS.is i hi
  rcases hd with ⟨rfl, rfl, hB⟩ | ⟨rfl, t, L, c, lf, rfl, hD, hc2⟩
  · refine (pdecode_brk (.slice ba l.length bcap) w hB).mono ?_; rintro e w' ⟨rfl, hb⟩
    obtain ⟨v, hv⟩ := hB
    refine ⟨none, 0, [g], rfl, ?_⟩
    have hS' := hS.below hb
    refine hS.turnAdd hi (Kept.of_below hb) (fun k hk => .inl hk) (fun k hk => Nat.lt_of_lt_of_le (hF k hk).2 hb.size) DecP.st ⟨hmd, .inl ⟨rfl, rfl, v, block_below hb hv⟩⟩ (fun k hk => by cases hk) RowP.st (Rw.QRow.bare _ _)
  · have hdec : decR false md ld l m rows = decF md ld (l.length + 1) l [] 0 0 m rows := rfl
    refine (pdecode_any hD ba l bcap hrb hcap hmax hl hmd (by omega) (fun hne => ?_) (hG.below hS.bel) ⟨fun e => hlo (by rw [e]; exact List.mem_cons_self ..), fun hm => hlo (List.mem_cons_of_mem _ hm)⟩).mono ?_
    · rcases hrb with h | ⟨b, o, h, _⟩
      · exact absurd h hne
      · exact ⟨b, o, h, fun e => hba hne b o none h (by rw [e]; exact List.mem_cons_self ..), fun hm => hba hne b o none h (List.mem_cons_of_mem _ hm)⟩
    rw [← hdec]
    generalize decR false md ld l m rows = R
    rintro e w' ⟨oa, oc, rfl, hq, hob, hk, hbr, hok⟩
    have hgw := hk.size
    have hglt := hD.lt
    cases hR : R.2.2 with
    | true =>
      refine ⟨oa, oc, [g], rfl, hS.turnAdd hi hk (fun k hk' => ?_) (fun k hk' => ?_) DecP.st ⟨hmd, .inl ⟨rfl, rfl, hbr hR⟩⟩ (fun k hk' => ?_) RowP.st hq⟩
      · simp only [List.mem_singleton] at hk'; subst hk'; exact .inl (List.mem_cons_self ..)
      · simp only [List.mem_singleton] at hk'; subst hk'; omega
      · obtain ⟨o, s, e⟩ := mem_blk hk'
        have h5 := hob k o s e
        refine ⟨?_, fun hm => h5.2 (List.mem_singleton.mp hm), q_lt hq k hk'⟩
        rcases h5.1 with h | h
        · exact .inl (List.mem_cons_of_mem _ h)
        · exact .inr h
    | false =>
      obtain ⟨L', c', hD', hn, hc', hoL⟩ := hok hR
      refine ⟨oa, oc, g :: L', rfl, hS.turnAdd hi hk (fun k hk' => ?_) (fun k hk' => ?_) DecP.st ⟨hmd, .inr ⟨rfl, t, L', c', lf, rfl, hD', by omega⟩⟩ (fun k hk' => ?_) RowP.st hq⟩
      · rcases List.mem_cons.mp hk' with rfl | hk'
        · exact .inl (List.mem_cons_self ..)
        · rcases hn k hk' with h | h
          · exact .inl (List.mem_cons_of_mem _ h)
          · exact .inr h
      · rcases List.mem_cons.mp hk' with rfl | hk'
        · exact hD'.lt
        · exact hD'.tab.blocks k hk'
      · obtain ⟨o, s, e⟩ := mem_blk hk'
        have h5 := hob k o s e
        refine ⟨?_, fun hm => ?_, q_lt hq k hk'⟩
        · rcases h5.1 with h | h
          · exact .inl (List.mem_cons_of_mem _ h)
          · exact .inr h
        · rcases List.mem_cons.mp hm with rfl | hm
          · exact h5.2 rfl
          · exact hoL k o s e hm
theorem st_rows {P : World → Prop} (hS : Sts W w obs) {fn : Nat} {v : Value} (h : Calls Tryd.prog fn #[v] w fun e w' => ∃ b, e = .returned (.slice (some ⟨b, 0, none⟩) rows.length rows.length) ∧ w.heap.size ≤ b ∧ Rw.QRow EFd w' (some ⟨b, 0, none⟩) rows.length rows ∧ Below w.heap.size w w') :
    Calls Tryd.prog fn #[v] w fun e w' => ∃ b, e = .returned (.slice (some ⟨b, 0, none⟩) rows.length rows.length) ∧ Sts W w' (([b], RowP EFd (some ⟨b, 0, none⟩) rows.length rows) :: obs) := by
  refine h.mono ?_; rintro e w' ⟨b, rfl, hb, hq, hbel⟩
  refine ⟨b, rfl, hS.add hbel (fun k hk => ?_) (RowP.st (ad := some ⟨b, 0, none⟩)) hq⟩
  have := q_lt hq k hk
  simp only [List.mem_singleton] at hk
  omega
theorem st_erows (hS : Sts W w obs) (i : Nat) (hi : obs[i]? = some (F, EncP F g own told least m rows K)) :
    Calls Tryd.prog 24 #[.pointer (some ⟨g, 0, none⟩)] w fun e w' => ∃ b, e = .returned (.slice (some ⟨b, 0, none⟩) rows.length rows.length) ∧ Sts W w' (([b], RowP EFd (some ⟨b, 0, none⟩) rows.length rows) :: obs) := by
  obtain ⟨t, L, c, rfl, hE, _⟩ := hS.is i hi
  exact st_rows (P := fun _ => True) hS (perows_any hE)
theorem st_drows (hS : Sts W w obs) (i : Nat) (hi : obs[i]? = some (F, DecP F g md ld false m rows K)) :
    Calls Tryd.prog 16 #[.pointer (some ⟨g, 0, none⟩)] w fun e w' => ∃ b, e = .returned (.slice (some ⟨b, 0, none⟩) rows.length rows.length) ∧ Sts W w' (([b], RowP EFd (some ⟨b, 0, none⟩) rows.length rows) :: obs) := by
  obtain ⟨_, ⟨h, _⟩ | ⟨_, t, L, c, lf, rfl, hD, _⟩⟩ := hS.is i hi
  · cases h
  · exact st_rows (P := fun _ => True) hS (pdrows_any hD)
theorem st_fields (hS : Sts W w obs) (aa ba : Option Addr) (a b : List FdM) (acap bcap : Nat) (ha : Rw.RowE EFd w aa a) (hb : Rw.RowE EFd w ba b) (hac : a.length ≤ acap) (hbc : b.length ≤ bcap) (hl : a.length ≤ 4000000000000) (hl2 : b.length ≤ 4000000000000) :
    Calls Tryd.prog 14 #[.slice aa a.length acap, .slice ba b.length bcap] w fun e w' => e = .returned (.bool (decide (a = b))) ∧ Sts W w' obs :=
  (rfields_any aa ba a b acap bcap w ha hb hac hbc hl hl2).mono fun e w' ⟨h, hb⟩ => ⟨h, hS.below hb⟩
end
end Go.Proofs.YtdkgachgohilcaaDoor

namespace Go.Proofs.YtdkgachgohilcaaDoor
open Go.RowKit
open Huf Pre Tab Hpk Arg Mem Gen Wr Go.Proofs.YtdkgachgohilcaaDoor.Obj Sx
set_option linter.unusedVariables false

def aList : List FdM := [⟨⟨#[58, 109, 101, 116, 104, 111, 100]⟩, ⟨#[71, 69, 84]⟩, false⟩, ⟨⟨#[97]⟩, ⟨#[98]⟩, false⟩]
def aRows : List FdM := [⟨⟨#[97]⟩, ⟨#[98]⟩, false⟩]
def aBytes : List UInt8 := [130, 64, 1, 97, 1, 98]
set_option maxRecDepth 100000 in
theorem aw_1 : hdr 4096 (min 4096 4096) (min 4096 4096) ++ (encList (min 4096 4096) aList []).1 = aBytes := by decide +kernel
set_option maxRecDepth 100000 in
theorem aw_2 : (encList (min 4096 4096) aList []).2 = aRows := by decide +kernel
set_option maxRecDepth 100000 in
theorem aw_3 : decR false 4096 1000 aBytes (min 4096 4096) [] = ((0, aList), (4096, aRows), false) := by decide +kernel

/-- A row of two fields that was just made. -/
theorem row2 (w : World) (a b c d : ByteArray) (p q : Bool) (t : TypeId) : Rw.RowE EFd (w.alloc (.cells #[.string a, .string b, .bool p, .string c, .string d, .bool q] t)) (some ⟨w.heap.size, 0, none⟩) [⟨a, b, p⟩, ⟨c, d, q⟩] := by
  have h := heap_alloc_new w (.cells #[.string a, .string b, .bool p, .string c, .string d, .bool q] t)
  refine .inr ⟨w.heap.size, 0, rfl, fun i hi r v hv => ?_⟩
  have hi2 : i < 2 := hi
  rcases (show i = 0 ∨ i = 1 by omega) with rfl | rfl
  · match r, hv with
    | 0, hv => simp [EFd] at hv; subst hv; exact (cell_at h 0).trans rfl
    | 1, hv => simp [EFd] at hv; subst hv; exact (cell_at h 1).trans rfl
    | 2, hv => simp [EFd] at hv; subst hv; exact (cell_at h 2).trans rfl
    | r + 3, hv => simp [EFd] at hv
  · match r, hv with
    | 0, hv => simp [EFd] at hv; subst hv; exact (cell_at h 3).trans rfl
    | 1, hv => simp [EFd] at hv; subst hv; exact (cell_at h 4).trans rfl
    | 2, hv => simp [EFd] at hv; subst hv; exact (cell_at h 5).trans rfl
    | r + 3, hv => simp [EFd] at hv

set_option maxRecDepth 100000 in
set_option maxHeartbeats 2000000 in
theorem awake_any (w : World) (hG : GrpIs w) : Calls Tryd.prog 9 #[] w fun e w' => e = .returned (.bool true) ∧ Below w.heap.size w w' := by
  have HG := Lib.hid hG
  clear hG
  go_enter Tryd.func9, Tryd.ntmps9
  go_wp2_with fail
  refine (st_newenc (own := 4096) (Sts.nil w) (by decide)).mono ?_; rintro e w1 ⟨g1, F1, rfl, S1⟩
  have H1 := Lib.hid S1
  clear S1
  go_wp2_with fail
  refine (st_newdec (md := 4096) (ld := 1000) H1.out (by decide)).mono ?_; rintro e w2 ⟨g2, F2, rfl, S2⟩
  have H2 := Lib.hid S2
  clear S2 H1
  go_wp2_with fail
  have hbx := below_alloc w2 (.cells #[.string ⟨#[58, 109, 101, 116, 104, 111, 100]⟩, .string ⟨#[71, 69, 84]⟩, .bool false, .string ⟨#[97]⟩, .string ⟨#[98]⟩, .bool false] 59)
  have hrw := row2 w2 ⟨#[58, 109, 101, 116, 104, 111, 100]⟩ ⟨#[71, 69, 84]⟩ ⟨#[97]⟩ ⟨#[98]⟩ false false 59
  have hno : w2.heap.size ∉ F1 := fun hm => by have := ((H2.out.all 1 _ rfl).lo _ hm).2; omega
  generalize w2.alloc (.cells #[.string ⟨#[58, 109, 101, 116, 104, 111, 100]⟩, .string ⟨#[71, 69, 84]⟩, .bool false, .string ⟨#[97]⟩, .string ⟨#[98]⟩, .bool false] 59) = w3 at hbx hrw
  generalize w2.heap.size = bx at hrw hno
  have H3 := Lib.hid (H2.out.below hbx)
  clear hbx H2
  have hen := st_encode H3.out 1 rfl HG.out (some ⟨bx, 0, none⟩) aList 2 hrw (fun _ b o s e => by simp only [Option.some.injEq, Addr.mk.injEq] at e; obtain ⟨rfl, _⟩ := e; exact hno) (by decide) (by decide) (by decide) (by decide)
  rw [aw_1, aw_2] at hen
  refine hen.mono ?_; rintro e w4 ⟨oa, oc, F3, rfl, S4⟩
  have H4 := Lib.hid S4
  clear hen hrw hno S4 H3
  go_wp2_with fail
  have hq : RowP EBy oa oc aBytes w4 := H4.out.is 0 rfl
  have hde := st_decode H4.out 1 rfl HG.out oa aBytes oc (rb_of_q hq.row) (fun _ b o s e hm => H4.out.apart 0 1 rfl rfl (by decide) b (by subst e; exact List.mem_singleton.mpr rfl) hm) hq.le hq.max (by decide) (by decide)
  rw [aw_3] at hde
  refine hde.mono ?_; rintro e w5 ⟨pa, pc, F4, rfl, S5⟩
  have H5 := Lib.hid S5
  clear hde hq S5 H4
  have hq0 : RowP EBy oa oc aBytes w5 := H5.out.is 1 rfl
  have hq1 : RowP EFd pa pc aList w5 := H5.out.is 0 rfl
  have hb5 := H5.out.bel
  obtain ⟨b0, o0, rfl, c0⟩ := hq0.row.resolve_left (by decide)
  obtain ⟨b1, o1, rfl, c1⟩ := hq1.row.resolve_left (by decide)
  have x0 : w5.cell? ⟨b0, o0, none⟩ = some (.int .u8 130) := c0 0 (by decide) 0 _ rfl
  have x1 : w5.cell? ⟨b0, o0 + 1, none⟩ = some (.int .u8 64) := c0 1 (by decide) 0 _ rfl
  have x2 : w5.cell? ⟨b1, o1 + 3 + 1, none⟩ = some (.string ⟨#[98]⟩) := c1 1 (by decide) 1 _ rfl
  clear c0 c1 hq0 hq1 H5
  go_wp2_with fail
  go_ret
  exact ⟨rfl, hb5⟩
end Go.Proofs.YtdkgachgohilcaaDoor

namespace Go.Proofs.YtdkgachgohilcaaDoor
open Go.RowKit
open Huf Pre Tab Hpk
set_option linter.unusedVariables false
namespace Hpk

theorem tkF_err : ∀ (f : Nat) (r : List UInt8) (at' n t : Nat), (tkF f r at' n t).2.2 = 0 ∨ (tkF f r at' n t).2.2 = 11 ∨ (tkF f r at' n t).2.2 = 12
  | 0, _, _, _, _ => .inr (.inl rfl)
  | f + 1, [], _, _, _ => .inr (.inr rfl)
  | f + 1, c :: r, at', n, t => by
    rw [tkF_cons]
    split
    · split
      · exact .inr (.inl rfl)
      · exact .inl rfl
    · exact tkF_err f r _ _ _
theorem takeN_err (l : List UInt8) (k : Nat) : (takeN l k).2.2 = 0 ∨ (takeN l k).2.2 = 11 ∨ (takeN l k).2.2 = 12 := by
  cases l with
  | nil => exact .inr (.inr rfl)
  | cons c r =>
    rw [takeN_cons]
    split
    · exact .inl rfl
    · exact tkF_err ..
/-- No error of a text or a row is 5 or 51. -/
def Mild (e : Nat) : Prop := e ≠ 5 ∧ e ≠ 51
theorem takeT_mild (l : List UInt8) : Mild (takeT l).2.2 := by
  have h := takeN_err l 7
  rw [takeT]
  split
  · unfold Mild; simp only; omega
  · split
    · simp [Mild]
    · split
      · simp [Mild]
      · split
        · split
          · simp [Mild]
          · split <;> simp [Mild]
        · simp [Mild]
theorem atT_mild (rows : List FdM) (n : Int) : Mild (atT rows n).2 := by
  rw [atT]
  split
  · simp [Mild]
  · split <;> simp [Mild]
theorem litV_mild (b : List UInt8) (n : ByteArray) : Mild (litV b n).1 := takeT_mild b
theorem litM_mild (rows : List FdM) (b : List UInt8) (n : Nat) : Mild (litM rows b n).1 := by
  rw [litM]
  split
  · split
    · exact atT_mild ..
    · exact litV_mild ..
  · split
    · exact takeT_mild ..
    · exact litV_mild ..
theorem decF_err (md ld : Nat) (hmd : md ≤ 65536) : ∀ (F : Nat) (l : List UInt8) (out : List FdM) (cst sizes m : Nat) (rows : List FdM), l.length < F → csum rows ≤ m → m ≤ 65536 →
    (decF md ld F l out cst sizes m rows).1.1 ≠ 5 ∧ ((decF md ld F l out cst sizes m rows).1.1 = 0 → (decF md ld F l out cst sizes m rows).2.2 = false) ∧
    (cst + 200000 * l.length ≤ ld → (decF md ld F l out cst sizes m rows).1.1 ≠ 0 → (decF md ld F l out cst sizes m rows).2.2 = true)
  | 0, l, _, _, _, _, _, h, _, _ => absurd h (Nat.not_lt_zero _)
  | F + 1, [], out, cst, sizes, m, rows, _, _, _ => by
    rw [decF]
    split
    · refine ⟨by simp, by simp, fun h => ?_⟩
      simp only [List.length_nil] at h
      omega
    · exact ⟨by simp, by simp, by simp⟩
  | F + 1, c :: r, out, cst, sizes, m, rows, hF, hc, hm => by
    have hbd := takeN_bd (c :: r) (bitsOf c.toNat) (by unfold bitsOf; (repeat' split) <;> omega)
    have her := takeN_err (c :: r) (bitsOf c.toNat)
    have hlen : (c :: r).length = r.length + 1 := rfl
    rw [hlen] at hF
    rw [decF]
    generalize takeN (c :: r) (bitsOf c.toNat) = T at hbd her ⊢
    obtain ⟨n, k, e⟩ := T
    simp only at hbd her ⊢
    by_cases he : e ≠ 0
    · rw [if_pos he]
      exact ⟨by simp only; omega, fun h => absurd h he, fun _ _ => rfl⟩
    · rw [if_neg he]
      have h1 := hbd.2.2.1 (by omega)
      have hd : ((c :: r).drop k).length = r.length + 1 - k := by rw [List.length_drop, hlen]
      by_cases h5 : bitsOf c.toNat = 5
      · rw [if_pos h5]
        split
        · exact ⟨by simp, by simp, fun _ _ => rfl⟩
        · have hn : n ≤ 65536 := by omega
          have ih := decF_err md ld hmd F ((c :: r).drop k) out cst (sizes + 1) n (fit n rows) (by rw [hd]; omega) (fit_sum _ _) hn
          refine ⟨ih.1, ih.2.1, fun h => ih.2.2 ?_⟩
          rw [hd]; rw [hlen] at h
          have : 200000 * (r.length + 1 - k) ≤ 200000 * (r.length + 1) := Nat.mul_le_mul_left _ (by omega)
          omega
      · rw [if_neg h5]
        by_cases h7 : bitsOf c.toNat = 7
        · rw [if_pos h7]
          have ha := atT_mild rows n
          have hac := atT_cost2 rows n (by omega)
          generalize atT rows n = A at ha hac ⊢
          obtain ⟨f, ea⟩ := A
          simp only at ha hac ⊢
          split
          · exact ⟨ha.1, fun h => absurd h (by assumption), fun _ _ => rfl⟩
          · have ih := decF_err md ld hmd F ((c :: r).drop k) (out ++ [f]) (cst + cost f) sizes m rows (by rw [hd]; omega) hc hm
            refine ⟨ih.1, ih.2.1, fun h => ih.2.2 ?_⟩
            rw [hd]; rw [hlen] at h
            have : 200000 * (r.length + 1 - k) ≤ 200000 * r.length := Nat.mul_le_mul_left _ (by omega)
            omega
        · rw [if_neg h7]
          have hl := litM_mild rows ((c :: r).drop k) n
          have hb := litM_bd rows ((c :: r).drop k) n (by omega)
          generalize litM rows ((c :: r).drop k) n = X at hl hb ⊢
          obtain ⟨e2, f, rest⟩ := X
          simp only at hl hb ⊢
          split
          · exact ⟨hl.1, fun h => absurd h (by assumption), fun _ _ => rfl⟩
          · have hcf : cost f = f.name.size + f.value.size + 32 := rfl
            have hrows : csum (if bitsOf c.toNat = 6 then addT m rows ⟨f.name, f.value, decide (c.toNat / 16 = 1)⟩ else rows) ≤ m := by
              split
              · exact addT_sum _ _ _
              · exact hc
            have ih := decF_err md ld hmd F rest (out ++ [⟨f.name, f.value, decide (c.toNat / 16 = 1)⟩]) (cst + cost f) sizes m _ (by rw [hd] at hb; omega) hrows hm
            refine ⟨ih.1, ih.2.1, fun h => ih.2.2 ?_⟩
            rw [hlen] at h
            rw [hd] at hb
            have : 200000 * rest.length ≤ 200000 * r.length := Nat.mul_le_mul_left _ (by omega)
            omega
end Hpk
end Go.Proofs.YtdkgachgohilcaaDoor

namespace Go.Proofs.YtdkgachgohilcaaDoor
open Go.RowKit
open Huf Pre Tab Hpk Arg Mem Gen Wr Go.Proofs.YtdkgachgohilcaaDoor.Obj Sx
set_option linter.unusedVariables false
namespace Hpk

theorem bits8 (c : Nat) : bitsOf c ≤ 8 := by unfold bitsOf; (repeat' split) <;> omega
theorem decF_fuel (md ld : Nat) (hmd : md ≤ 65536) : ∀ (F G : Nat) (l : List UInt8) (out : List FdM) (cst sizes m : Nat) (rows : List FdM), l.length < F → l.length < G → csum rows ≤ m → m ≤ 65536 →
    decF md ld F l out cst sizes m rows = decF md ld G l out cst sizes m rows
  | 0, _, l, _, _, _, _, _, h, _, _, _ => absurd h (Nat.not_lt_zero _)
  | F + 1, 0, l, _, _, _, _, _, _, h, _, _ => absurd h (Nat.not_lt_zero _)
  | F + 1, G + 1, [], out, cst, sizes, m, rows, _, _, _, _ => by rw [decF, decF]
  | F + 1, G + 1, c :: r, out, cst, sizes, m, rows, hF, hG, hc, hm => by
    have hbd := takeN_bd (c :: r) (bitsOf c.toNat) (bits8 _)
    have hlen : (c :: r).length = r.length + 1 := rfl
    rw [hlen] at hF hG
    rw [decF, decF]
    generalize takeN (c :: r) (bitsOf c.toNat) = T at hbd ⊢
    obtain ⟨n, k, e⟩ := T
    simp only at hbd ⊢
    by_cases he : e ≠ 0
    · rw [if_pos he, if_pos he]
    · rw [if_neg he, if_neg he]
      have h1 := hbd.2.2.1 (by omega)
      have hd : ((c :: r).drop k).length = r.length + 1 - k := by rw [List.length_drop, hlen]
      by_cases h5 : bitsOf c.toNat = 5
      · rw [if_pos h5, if_pos h5]
        split
        · rfl
        · exact decF_fuel md ld hmd F G _ _ _ _ _ _ (by rw [hd]; omega) (by rw [hd]; omega) (fit_sum _ _) (by omega)
      · rw [if_neg h5, if_neg h5]
        by_cases h7 : bitsOf c.toNat = 7
        · rw [if_pos h7, if_pos h7]
          split
          · rfl
          · exact decF_fuel md ld hmd F G _ _ _ _ _ _ (by rw [hd]; omega) (by rw [hd]; omega) hc hm
        · rw [if_neg h7, if_neg h7]
          have hb := litM_bd rows ((c :: r).drop k) n (by omega)
          generalize litM rows ((c :: r).drop k) n = X at hb ⊢
          obtain ⟨e2, f, rest⟩ := X
          simp only at hb ⊢
          split
          · rfl
          · rw [hd] at hb
            refine decF_fuel md ld hmd F G _ _ _ _ _ _ (by omega) (by omega) ?_ hm
            split
            · exact addT_sum _ _ _
            · exact hc

/-- What was written is read, by a decoder whose table is the encoder's. -/
theorem block_back2 (md ld told least now : Nat) (l rowsD rowsE : List FdM) (hD : csum rowsD ≤ told) (h1 : least ≤ told) (h2 : least ≤ now) (hE : rowsE = fit least rowsD) (hnow : now ≤ md) (hm : md ≤ 65536) (ht : told ≤ 65536)
    (hl : ∀ f ∈ l, f.name.size ≤ 4096 ∧ f.value.size ≤ 4096) (hnev : ∀ x ∈ rowsD, x.never = false) :
    decR false md ld (hdr told least now ++ (encList now l rowsE).1) told rowsD = (if ld < csum l then ((51, []), (now, (encList now l rowsE).2), false) else ((0, l.map normF), (now, (encList now l rowsE).2), false)) := by
  rw [← block_back md ld told least now l rowsD rowsE (l.length + 3 + (hdr told least now ++ (encList now l rowsE).1).length) (by omega) hD h1 h2 hE hnow hm hl hnev]
  exact decF_fuel md ld hm _ _ _ _ _ _ _ _ (by omega) (by omega) hD ht

def nevL (l : List FdM) : List FdM := l.map (fun f => ⟨f.name, f.value, true⟩)
theorem nevL_len (l : List FdM) : (nevL l).length = l.length := by simp [nevL]
theorem nevL_sum : ∀ l : List FdM, csum (nevL l) = csum l
  | [] => rfl
  | f :: r => by
    show cost ⟨f.name, f.value, true⟩ + csum (nevL r) = cost f + csum r
    rw [nevL_sum r]; rfl
theorem nevF_nev (f : FdM) : nevF ⟨f.name, f.value, true⟩ = true := by simp [nevF]
theorem nevL_norm (l : List FdM) : (nevL l).map normF = nevL l := by
  simp only [nevL, List.map_map]
  refine List.map_congr_left fun f _ => ?_
  simp [normF, nevF]
theorem encList_nev (m : Nat) : ∀ (l rows : List FdM), (encList m (nevL l) rows).2 = rows
  | [], rows => rfl
  | f :: r, rows => by
    have h : (encField m rows ⟨f.name, f.value, true⟩).2 = rows := by
      rw [encField, if_neg (fun h => by rw [nevF_nev] at h; exact absurd h.2 (by decide)), if_neg (fun h => by rw [nevF_nev] at h; exact absurd h.1 (by decide))]
    show (encList m (nevL r) (encField m rows ⟨f.name, f.value, true⟩).2).2 = rows
    rw [h]; exact encList_nev m r rows
theorem never_back (l : List FdM) (hl : ∀ f ∈ l, f.name.size ≤ 4096 ∧ f.value.size ≤ 4096) (hs : csum l ≤ 131072) :
    decR false 4096 1073741824 (hdr 4096 4096 4096 ++ (encList 4096 (nevL l) []).1) 4096 [] = ((0, nevL l), (4096, []), false) := by
  rw [block_back2 4096 1073741824 4096 4096 4096 (nevL l) [] [] (by simp [csum]) (by omega) (by omega) rfl (by omega) (by omega) (by omega) (fun f hf => by
    obtain ⟨x, hx, rfl⟩ := List.mem_map.mp hf
    exact hl x hx) (fun x hx => by cases hx), if_neg (by rw [nevL_sum]; omega), nevL_norm, encList_nev]
end Hpk
theorem encList_len (m : Nat) : ∀ (l rows : List FdM), (encList m l rows).1.length ≤ csum l
  | [], rows => Nat.le_refl _
  | f :: r, rows => by
    have h1 := encField_len m rows f
    have h2 := encList_len m r (encField m rows f).2
    show ((encField m rows f).1 ++ (encList m r (encField m rows f).2).1).length ≤ cost f + csum r
    rw [List.length_append]; omega
theorem block_len (told least now m : Nat) (l rows : List FdM) : (hdr told least now ++ (encList m l rows).1).length ≤ 12 + csum l := by
  have h1 := hdr_len told least now
  have h2 := encList_len m l rows
  rw [List.length_append]; omega

/-- A row that was there at first is no thing's. -/
theorem st_old {W w : World} {obs : List Th} {F : List Nat} {P : World → Prop} (hS : Sts W w obs) (i : Nat) (hi : obs[i]? = some (F, P)) {α : Type} {E : Rw.Enc α} {a : Option Addr} {l : List α} (hr : Rw.RowE E W a l) (hp : ∀ x : α, ∃ v, (E.enc x)[0]? = some v) : l ≠ [] → ∀ b o s, a = some ⟨b, o, s⟩ → b ∉ F := fun hne b o s e hm => by
  rcases hr with h | ⟨b', o', h, hc⟩
  · exact hne h
  · rw [h] at e
    simp only [Option.some.injEq, Addr.mk.injEq] at e
    obtain ⟨rfl, _⟩ := e
    have h0 := List.length_pos_iff.mpr hne
    obtain ⟨v, hv⟩ := hp l[0]
    have hlt := World.block_lt_of_cell? W _ (hc 0 h0 0 v hv)
    exact hS.low hi hlt hm
theorem fd_some (x : FdM) : ∃ v, (EFd.enc x)[0]? = some v := ⟨_, rfl⟩
theorem by_some (x : UInt8) : ∃ v, (EBy.enc x)[0]? = some v := ⟨_, rfl⟩
/-- A block, read with a list limit: which error, which list. -/
theorem back_two (ld : Nat) (l rows : List FdM) (now : Nat) (D : (Nat × List FdM) × (Nat × List FdM) × Bool) (h : D = (if ld < csum l then ((51, []), (now, rows), false) else ((0, l.map normF), (now, rows), false))) :
    ∃ jj yy, D = ((jj, yy), (now, rows), false) ∧ (ld < csum l → jj = 51 ∧ yy = []) ∧ (¬ ld < csum l → jj = 0 ∧ yy = l.map normF) := by
  by_cases hc : ld < csum l
  · rw [if_pos hc] at h
    exact ⟨51, [], h, fun _ => ⟨rfl, rfl⟩, fun h => absurd hc h⟩
  · rw [if_neg hc] at h
    exact ⟨0, _, h, fun h => absurd h hc, fun _ => ⟨rfl, rfl⟩⟩

/-- A row of the state is appended to. -/
theorem _root_.Go.Proofs.YtdkgachgohilcaaDoor.Sx.Sts.append {W w v w' : World} {obs : List Th} {α : Type} {E : Rw.Enc α} {ad ad' : Option Addr} {cap cap' : Nat} {l l' : List α} (hS : Sts W w obs) (i : Nat) (hi : obs[i]? = some (blk ad, RowP E ad cap l)) (hb : Below w.heap.size w v) (hg : v.grownBy w' (ad.map (·.block)))
    (hq : Rw.QRow E w' ad' cap' l') (hn : ∀ b o s, ad' = some ⟨b, o, s⟩ → (∃ o', ad = some ⟨b, o', none⟩) ∨ v.heap.size ≤ b) : Sts W w' (obs.set i (blk ad', RowP E ad' cap' l')) := by
  have hS' := hS.below hb
  refine hS'.turn hi ((Kept.refl _ _).grown hg (fun k hk => ?_)) (fun k hk => ?_) (q_lt hq) RowP.st hq
  · rw [Option.map_eq_some_iff] at hk
    obtain ⟨a, rfl, rfl⟩ := hk
    exact .inl (List.mem_singleton.mpr rfl)
  · obtain ⟨o, s, e⟩ := mem_blk hk
    rcases hn k o s e with ⟨o', h⟩ | h
    · subst h; exact .inl (List.mem_singleton.mpr rfl)
    · exact .inr h
end Go.Proofs.YtdkgachgohilcaaDoor
