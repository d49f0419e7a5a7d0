/- The contract of layer 3's program: TakeText. 'b[at:]', without parting on whether anything is left of the capacity. Layer 5: the program's block that is being read: its parts in memory; numbers and texts. -/
import Derived.Test.YtdkgachgohilcaaDoorRows
import Derived.Test.YtdkgachgohilcaaDoorGP04
import Derived.Test.YtdkgachgohilcaaDoorGP01
import Derived.Test.YtdkgachgohilcaaDoorGP02
import Derived.Test.YtdkgachgohilcaaDoorGP03
import Derived.Test.YtdkgachgohilcaaDoorGP07
import Derived.Test.YtdkgachgohilcaaDoorGP06
import Derived.Test.YtdkgachgohilcaaDoorGP18
import Derived.WalkKit
import Derived.WalkSpells
import Derived.WalkLawsBesides
import Derived.Lib.Hide
import Derived.Outline
import Derived.Test.YtdkgachgohilcaaDoorGP16
set_option linter.unusedVariables false
set_option linter.unusedSimpArgs false
namespace Go.Proofs.YtdkgachgohilcaaDoor
open Go.RowKit
open Huf Pre Mem Gen
set_option linter.unusedVariables false
set_option maxRecDepth 100000

set_option maxHeartbeats 1000000 in
theorem ptaketext_any (a : Option Addr) (l : List UInt8) (cap : Nat) (w : World) (hl : l.length ≤ 134217728) (hcap : l.length ≤ cap) (hmax : cap ≤ maxLen) (hr : RB w a l) (hg : GrpIs w) :
    Calls Tryd.prog 92 #[.slice a l.length cap] w fun e w' => e = .returned (.tuple #[.string ⟨(takeT l).1.toArray⟩, .int .i64 (takeT l).2.1, .int .i64 (takeT l).2.2]) ∧ Below w.heap.size w w' := by
  unfold maxLen at hmax
  have HT : Hid (∀ v : World, RB v a l → Calls Tryd.prog 70 #[.slice a l.length cap, .int .i64 7] v fun e w' => e = .returned (.tuple #[.int .i64 (takeN l 7).1, .int .i64 (takeN l 7).2.1, .int .i64 (takeN l 7).2.2]) ∧ Below v.heap.size v w') := Lib.hid (fun v hv => by
    have h := ptakeint_any a l cap 7 v (by omega) hcap hv
    exact h)
  have HG := Lib.hid hg
  clear hg
  have hbd := takeN_bd l 7 (by decide)
  have HR : Hid (takeT l = if (takeN l 7).2.2 ≠ 0 then ([], 0, (takeN l 7).2.2)
    else if 4096 < (takeN l 7).1 then ([], 0, 2)
    else if (l.length : Int) - (takeN l 7).2.1 < (takeN l 7).1 then ([], 0, 12)
    else if 127 < (l.headD 0).toNat then
      match dec ((l.drop (takeN l 7).2.1).take (takeN l 7).1) with
      | none => ([], 0, 10)
      | some u => if 4096 < u.length then ([], 0, 2) else (u, (takeN l 7).2.1 + (takeN l 7).1, 0)
    else ((l.drop (takeN l 7).2.1).take (takeN l 7).1, (takeN l 7).2.1 + (takeN l 7).1, 0)) := rfl
  generalize takeT l = R at HR ⊢
  generalize takeN l 7 = N at HT hbd HR
  obtain ⟨n, p, e⟩ := N
  simp only at HT hbd HR
  obtain ⟨hn, _, hb0, he12⟩ := hbd
  have HRB := Lib.hid hr
  by_cases he : e = 0
  · obtain ⟨hp1, hpl, hp6⟩ := hb0 he
    subst he
    clear hb0 he12
    have HR2 : Hid (R = if 4096 < n then ([], 0, 2)
      else if (l.length : Int) - p < n then ([], 0, 12)
      else if 127 < (l.headD 0).toNat then
        match dec ((l.drop p).take n) with
        | none => ([], 0, 10)
        | some u => if 4096 < u.length then ([], 0, 2) else (u, p + n, 0)
      else ((l.drop p).take n, p + n, 0)) := Lib.hid (by rw [HR.out]; rfl)
    clear HR
    by_cases hlong : 4096 < n
    · have hlong' : (4096 : Int) < n := by omega
      have hR : R = ([], 0, 2) := by rw [HR2.out, if_pos hlong]
      subst hR
      clear HR2 hr
      go_enter Tryd.func92, Tryd.ntmps92
      go_wp2_with fail
      refine (HT.out _ HRB.out).mono ?_; rintro e w1 ⟨rfl, b1⟩
      go_wp2_with fail
      go_ret3
      exact ⟨rfl, b1⟩
    · have hlong' : ¬ (4096 : Int) < n := by omega
      by_cases hsh : (l.length : Int) - p < n
      · have hsh' : (l.length : Int) < (p : Int) + n := by omega
        have hR : R = ([], 0, 12) := by rw [HR2.out, if_neg hlong, if_pos hsh]
        subst hR
        clear HR2 hr
        go_enter Tryd.func92, Tryd.ntmps92
        go_wp2_with fail
        refine (HT.out _ HRB.out).mono ?_; rintro e w1 ⟨rfl, b1⟩
        go_wp2_with fail
        go_ret3
        exact ⟨rfl, b1⟩
      · obtain ⟨b, off, ha, hc⟩ : ∃ b off, a = some ⟨b, off, none⟩ ∧ ∀ i, (h : i < l.length) → w.cell? ⟨b, off + i, none⟩ = some (.int .u8 (l[i].toNat : Int)) := by
          rcases hr with h | h
          · rw [h] at hpl; simp at hpl; omega
          · exact h
        subst ha
        have hc0 : w.cell? ⟨b, off, none⟩ = some (.int .u8 ((l.headD 0).toNat : Int)) := by
          have h := hc 0 (by omega)
          rw [Nat.add_zero] at h
          rw [h]
          cases l with
          | nil => simp at hpl; omega
          | cons c r => rfl
        have hzb : (l.headD 0).toNat < 256 := (l.headD 0).toNat_lt
        have hol : ((l.drop p).take n).length = n := by rw [List.length_take, List.length_drop]; omega
        have HR3 : Hid (R = if 127 < (l.headD 0).toNat then
          match dec ((l.drop p).take n) with
          | none => ([], 0, 10)
          | some u => if 4096 < u.length then ([], 0, 2) else (u, p + n, 0)
          else ((l.drop p).take n, p + n, 0)) := Lib.hid (by rw [HR2.out, if_neg hlong, if_neg hsh])
        have hzb2 := hzb
        generalize (l.headD 0).toNat = z at *
        clear HR2 hr
        have hAnd := and_128 z hzb
        have hsh' : ¬ (l.length : Int) < (p : Int) + n := by omega
        by_cases hpc : cap = p
        · have hn0 : n = 0 := by omega
          subst hn0
          subst hpc
          rw [List.take_zero] at HR3
          have HCv : Hid (∀ v : World, (convert 24 9 (.slice (some ⟨b, off, none⟩) 0 0)).run Tryd.prog v = .ok (.string ⟨#[]⟩) v) := Lib.hid (fun v => by
            have h := (show RB v (some ⟨b, off, none⟩) [] from Or.inl rfl).conv (P := Tryd.prog) (cap := 0) (src := 24) (dst := 9) Tryd.underlying24 Tryd.underlying5 Tryd.underlying9
            exact h)
          have hd0 : dec [] = some [] := by decide +kernel
          by_cases hz : 127 < z
          · rw [if_neg (by omega)] at hAnd
            have hz' : (bits .and .u8 (z : Int) 128 == 0) = false := by rw [hAnd]; rfl
            have HDc : Hid (∀ v, GrpIs v → Calls Tryd.prog 101 #[.slice (some ⟨b, off, none⟩) 0 0] v fun e w' => e = .returned (.tuple #[.string ⟨#[]⟩, .int .i64 0]) ∧ Below v.heap.size v w') := Lib.hid (fun v hv => by
              have h := decode_any (some ⟨b, off, none⟩) [] 0 v (by decide) (Or.inl rfl) hv
              rwa [show decV [] = [] from by rw [decV, hd0]; rfl, show decE [] = 0 from by rw [decE, hd0]; rfl] at h)
            have hR : R = ([], cap, 0) := by rw [HR3.out, if_pos hz, hd0]; rfl
            subst hR
            clear HR3 hz hd0 hAnd
            go_enter Tryd.func92, Tryd.ntmps92
            go_wp2_with fail
            refine (HT.out _ HRB.out).mono ?_; rintro e w1 ⟨rfl, b1⟩
            replace hc0 := below_cell b1 hc0
            have HG1 := Lib.hid (HG.out.below b1)
            go_wp2_with fail
            refine (HDc.out _ HG1.out).mono ?_; rintro e w2 ⟨rfl, hb1⟩
            go_wp2_with fail
            go_ret3
            exact ⟨rfl, below_step b1 hb1⟩
          · rw [if_pos (by omega)] at hAnd
            have hz' : (bits .and .u8 (z : Int) 128 == 0) = true := by rw [hAnd]; rfl
            have hR : R = ([], cap, 0) := by rw [HR3.out, if_neg hz]; rfl
            subst hR
            clear HR3 hz hd0 hAnd
            go_enter Tryd.func92, Tryd.ntmps92
            go_wp2_with fail
            refine (HT.out _ HRB.out).mono ?_; rintro e w1 ⟨rfl, b1⟩
            replace hc0 := below_cell b1 hc0
            have hconv := HCv.out w1
            go_wp2_with fail
            go_ret3
            exact ⟨rfl, b1⟩
        · have HO : Hid (∀ v, Below w.heap.size w v → RB v (some ⟨b, off + p, none⟩) ((l.drop p).take n)) := Lib.hid (fun v hv => (RB.cut hc p n).below hv)
          have HHol := Lib.hid hol
          generalize (l.drop p).take n = O at *
          have HCv : Hid (∀ v : World, RB v (some ⟨b, off + p, none⟩) O → (convert 24 9 (.slice (some ⟨b, off + p, none⟩) n (cap - p))).run Tryd.prog v = .ok (.string ⟨O.toArray⟩) v) := Lib.hid (fun v hv => by
            have h := hv.conv (P := Tryd.prog) (cap := cap - p) (src := 24) (dst := 9) Tryd.underlying24 Tryd.underlying5 Tryd.underlying9
            rwa [HHol.out] at h)
          have hol4 : (O.length : Int) ≤ 4096 := by omega
          clear hc hol
          by_cases hz : 127 < z
          · rw [if_neg (by omega)] at hAnd
            have hz' : (bits .and .u8 (z : Int) 128 == 0) = false := by rw [hAnd]; rfl
            have HDc : Hid (∀ v, Below w.heap.size w v → Calls Tryd.prog 101 #[.slice (some ⟨b, off + p, none⟩) n (cap - p)] v fun e w' => e = .returned (.tuple #[.string ⟨(decV O).toArray⟩, .int .i64 (decE O)]) ∧ Below v.heap.size v w') := Lib.hid (fun v hv => by
              have h := decode_any (some ⟨b, off + p, none⟩) O (cap - p) v (by rw [HHol.out]; omega) (HO.out v hv) (HG.out.below hv)
              rwa [HHol.out] at h)
            cases hd : dec O with
            | none =>
              have e1 : decV O = [] := by rw [decV, hd]; rfl
              have e2 : decE O = 10 := by rw [decE, hd]; rfl
              have hR : R = ([], 0, 10) := by rw [HR3.out, if_pos hz, hd]
              rw [e1, e2] at HDc
              subst hR
              clear HR3 hz hd e1 e2 hAnd
              go_enter Tryd.func92, Tryd.ntmps92
              go_wp2_with fail
              refine (HT.out _ HRB.out).mono ?_; rintro e w1 ⟨rfl, b1⟩
              replace hc0 := below_cell b1 hc0
              go_wp2_with fail
              refine (HDc.out _ b1).mono ?_; rintro e w2 ⟨rfl, hb1⟩
              go_wp2_with fail
              go_ret3
              exact ⟨rfl, below_step b1 hb1⟩
            | some u =>
              have e1 : decV O = u := by rw [decV, hd]; rfl
              have e2 : decE O = 0 := by rw [decE, hd]; rfl
              have hub : u.length ≤ 4096 * 8 := by
                have h1 := enc_dec O u hd
                have h2 := enc_length u
                have h3 := (blen_bd u).1
                have h4 := HHol.out
                rw [h1, h4] at h2; omega
              by_cases hu : 4096 < u.length
              · have hu' : (4096 : Int) < u.length := by omega
                have hR : R = ([], 0, 2) := by rw [HR3.out, if_pos hz, hd]; simp [hu]
                rw [e1, e2] at HDc
                subst hR
                clear HR3 hz hd e1 e2 hu hAnd
                go_enter Tryd.func92, Tryd.ntmps92
                go_wp2_with fail
                refine (HT.out _ HRB.out).mono ?_; rintro e w1 ⟨rfl, b1⟩
                replace hc0 := below_cell b1 hc0
                go_wp2_with fail
                refine (HDc.out _ b1).mono ?_; rintro e w2 ⟨rfl, hb1⟩
                go_wp2_with fail
                go_ret3
                exact ⟨rfl, below_step b1 hb1⟩
              · have hu' : ¬ (4096 : Int) < u.length := by omega
                have hR : R = (u, p + n, 0) := by rw [HR3.out, if_pos hz, hd]; simp [hu]
                rw [e1, e2] at HDc
                subst hR
                clear HR3 hz hd e1 e2 hu hAnd
                go_enter Tryd.func92, Tryd.ntmps92
                go_wp2_with fail
                refine (HT.out _ HRB.out).mono ?_; rintro e w1 ⟨rfl, b1⟩
                replace hc0 := below_cell b1 hc0
                go_wp2_with fail
                refine (HDc.out _ b1).mono ?_; rintro e w2 ⟨rfl, hb1⟩
                go_wp2_with fail
                go_ret3
                exact ⟨ret_text rfl (by omega) rfl, below_step b1 hb1⟩
          · rw [if_pos (by omega)] at hAnd
            have hz' : (bits .and .u8 (z : Int) 128 == 0) = true := by rw [hAnd]; rfl
            have hR : R = (O, p + n, 0) := by rw [HR3.out, if_neg hz]
            subst hR
            clear HR3 hz hAnd
            go_enter Tryd.func92, Tryd.ntmps92
            go_wp2_with fail
            refine (HT.out _ HRB.out).mono ?_; rintro e w1 ⟨rfl, b1⟩
            replace hc0 := below_cell b1 hc0
            have hconv := HCv.out w1 (HO.out _ b1)
            go_wp2_with fail
            go_ret3
            exact ⟨ret_text rfl (by omega) rfl, b1⟩
  · have he' : ((e : Int) != 0) = true := by simp; omega
    have hR : R = ([], 0, e) := by rw [HR.out, if_pos he]
    subst hR
    clear HR hb0 hr he
    go_enter Tryd.func92, Tryd.ntmps92
    go_wp2_with fail
    refine (HT.out _ HRB.out).mono ?_; rintro e w1 ⟨rfl, b1⟩
    go_wp2_with fail
    go_ret3
    exact ⟨rfl, b1⟩
end Go.Proofs.YtdkgachgohilcaaDoor

namespace Go.Proofs.YtdkgachgohilcaaDoor
open Go.RowKit
set_option linter.unusedVariables false
namespace Sl
open Mem Arg

/-- Where 'b[at:]' begins: where nothing is left of the capacity, at the old place. -/
def adOf (a : Option Addr) (cap k size : Nat) : Option Addr := if cap = k then a else a.map (·.add (k * size))
theorem run_from {P : Program} {t e : TypeId} (ht : P.underlying t = some (.slice e)) {size : Nat} (hs : ∀ w, (sizeOf e).run P w = .ok size w) (a : Option Addr) (len cap k : Nat) (h1 : k ≤ len) (h2 : len ≤ cap) (w : World) :
    (Instr.slice t (.slice a len cap) (some (.int .i64 k)) none none).run P w = .ok (.slice (adOf a cap k size) (len - k) (cap - k)) w := by
  have h3 : (k : Int) ≤ len := by omega
  simp [Instr.slice, Instr.sliceBounds, Instr.sliceBound, asIntOf, run_underlying ht, hs, Result.andThen, h1, adOf]
theorem adOf_some {b off cap k size : Nat} (h : k < cap) : adOf (some ⟨b, off, none⟩) cap k size = some ⟨b, off + k * size, none⟩ := by
  rw [adOf, if_neg (by omega)]; simp [add_none]
/-- Bytes. -/
theorem rb_from {w : World} {a : Option Addr} {l : List UInt8} {cap : Nat} (h : RB w a l) (k : Nat) (hc : l.length ≤ cap) : RB w (adOf a cap k 1) (l.drop k) := by
  by_cases hk : k < l.length
  · rcases h with h | ⟨b, off, rfl, hb⟩
    · rw [h] at hk; simp at hk
    · rw [adOf_some (by omega)]
      refine .inr ⟨b, _, rfl, fun i hi => ?_⟩
      rw [List.length_drop] at hi
      have := hb (k + i) (by omega)
      rw [List.getElem_drop, ← this]
      congr 2
      omega
  · exact .inl (List.drop_of_length_le (by omega))
end Sl
end Go.Proofs.YtdkgachgohilcaaDoor

namespace Go.Proofs.YtdkgachgohilcaaDoor
open Go.RowKit
open Huf Pre Tab Hpk Arg Mem Gen Wr Go.Proofs.YtdkgachgohilcaaDoor.Obj
set_option linter.unusedVariables false

/-- What a block that is being read says. -/
structure RD where
  bk : Nat
  t : Nat
  md : Nat
  ld : Nat
  rest : List UInt8
  sizes : Nat
  cst : Nat
  out : List FdM
  had : Nat
  m : Nat
  c : Nat
  rows : List FdM
  k : Nat
  gn : Nat
/-- The bytes that are left, in block bk. -/
structure RestB (bk : Nat) (ra : Option Addr) (rc : Nat) (rest : List UInt8) (w : World) : Prop where
  rb : RB w ra rest
  le : rest.length ≤ rc
  mx : rc ≤ maxLen
  ap : rest ≠ [] → ∃ o, ra = some ⟨bk, o, none⟩
theorem RestB.stand {bk : Nat} {ra : Option Addr} {rc : Nat} {rest : List UInt8} {w w' : World} (h : RestB bk ra rc rest w) (hb : bk < w.heap.size → w'.heap[bk]? = w.heap[bk]?) : RestB bk ra rc rest w' := by
  refine ⟨?_, h.le, h.mx, h.ap⟩
  rcases h.rb with h0 | ⟨b, off, e, hc⟩
  · exact .inl h0
  · by_cases hn : rest = []
    · exact .inl hn
    · have hpos : 0 < rest.length := List.length_pos_iff.mpr hn
      have hlt := World.block_lt_of_cell? w _ (hc 0 hpos)
      obtain ⟨o, e1⟩ := h.ap hn
      rw [e] at e1
      simp only [Option.some.injEq, Addr.mk.injEq] at e1
      obtain ⟨rfl, _⟩ := e1
      exact .inr ⟨b, off, e, fun i hi => (World.cell?_of_block (a := ⟨b, off + i, none⟩) (hb hlt)).trans (hc i hi)⟩
theorem RestB.drop {bk : Nat} {ra : Option Addr} {rc : Nat} {rest : List UInt8} {w : World} (h : RestB bk ra rc rest w) (k : Nat) (hk : k ≤ rest.length) : RestB bk (Sl.adOf ra rc k 1) (rc - k) (rest.drop k) w := by
  have hle := h.le
  have hmx := h.mx
  refine ⟨Sl.rb_from h.rb k h.le, by rw [List.length_drop]; omega, by omega, fun hn => ?_⟩
  have hn0 : rest ≠ [] := fun e0 => hn (by rw [e0, List.drop_nil])
  obtain ⟨o, e⟩ := h.ap hn0
  rw [Sl.adOf]
  split
  · exact ⟨o, e⟩
  · rw [e]; exact ⟨o + k * 1, by simp [Addr.add]⟩
/-- A row of fields of the call's own. -/
structure FRow (B : Nat) (L0 L : List Nat) (r : Nat) (fa : Option Addr) (fc : Nat) (fl : List FdM) (w : World) : Prop where
  row : Rw.QRow EFd w fa fc fl
  ap : ∀ b o s, fa = some ⟨b, o, s⟩ → (b ∈ L0 ∨ B ≤ b) ∧ b ∉ L ∧ b ≠ r
theorem FRow.lt {B : Nat} {L0 L : List Nat} {r : Nat} {fa : Option Addr} {fc : Nat} {fl : List FdM} {w : World} (h : FRow B L0 L r fa fc fl w) : ∀ b o s, fa = some ⟨b, o, s⟩ → b < w.heap.size := fun b o s e => by
  obtain ⟨b', off, e', h1, _⟩ := h.row.lies _ e
  simp only [Addr.mk.injEq] at e'
  omega
theorem FRow.stand {B : Nat} {L0 L L' : List Nat} {r : Nat} {fa : Option Addr} {fc : Nat} {fl : List FdM} {w w' : World} (h : FRow B L0 L r fa fc fl w) (hs : w.heap.size ≤ w'.heap.size) (hb : ∀ b o s, fa = some ⟨b, o, s⟩ → w'.heap[b]? = w.heap[b]?) (hL : ∀ k ∈ L', k ∈ L ∨ w.heap.size ≤ k) : FRow B L0 L' r fa fc fl w' :=
  ⟨h.row.block hs hb, fun b o s e => ⟨(h.ap b o s e).1, fun hm => by
    rcases hL b hm with h1 | h1
    · exact (h.ap b o s e).2.1 h1
    · have := h.lt b o s e; omega, (h.ap b o s e).2.2⟩⟩

/-- The parts beside the block's own cells. -/
structure RP (B : Nat) (w0 : World) (L0 L : List Nat) (r bk t m c : Nat) (rows : List FdM) (ra : Option Addr) (rc : Nat) (rest : List UInt8) (fa : Option Addr) (fc : Nat) (fl : List FdM) (ga : Option Addr) (gc : Nat) (gl : List FdM) (w : World) : Prop where
  lo : B ≤ w0.heap.size
  trn : Trn B L0 w0 w
  tab : PTab w L t m rows c
  new : ∀ k ∈ L, k ∈ L0 ∨ B ≤ k
  rno : r ∉ L
  rB : r ∈ L0 ∨ B ≤ r
  rlt : r < w.heap.size
  bkp : bk < B ∧ bk ∉ L0
  rst : RestB bk ra rc rest w
  f : FRow B L0 L r fa fc fl w
  g : FRow B L0 L r ga gc gl w
  apart : ∀ b o s, fa = some ⟨b, o, s⟩ → ∀ o' s', ga ≠ some ⟨b, o', s'⟩
  grp : GrpIs w0
  gb : gBk < B ∧ gBk ∉ L0
variable {B : Nat} {w0 w : World} {L0 L : List Nat} {r bk t m c : Nat} {rows : List FdM} {ra : Option Addr} {rc : Nat} {rest : List UInt8} {fa : Option Addr} {fc : Nat} {fl : List FdM} {ga : Option Addr} {gc : Nat} {gl : List FdM} {d : RD}
theorem RP.groups (h : RP B w0 L0 L r bk t m c rows ra rc rest fa fc fl ga gc gl w) : GrpIs w := h.grp.trn h.trn h.gb.1 h.gb.2
theorem RP.size (h : RP B w0 L0 L r bk t m c rows ra rc rest fa fc fl ga gc gl w) : B ≤ w.heap.size := Nat.le_trans h.lo h.trn.size
theorem RP.below (h : RP B w0 L0 L r bk t m c rows ra rc rest fa fc fl ga gc gl w) {w' : World} (hb : Below w.heap.size w w') : RP B w0 L0 L r bk t m c rows ra rc rest fa fc fl ga gc gl w' :=
  ⟨h.lo, h.trn.then hb, h.tab.below hb, h.new, h.rno, h.rB, Nat.lt_of_lt_of_le h.rlt hb.size, h.bkp, h.rst.stand (fun hk => hb.block _ hk), h.f.stand hb.size (fun b o s e => hb.block b (h.f.lt b o s e)) (fun k hk => .inl hk), h.g.stand hb.size (fun b o s e => hb.block b (h.g.lt b o s e)) (fun k hk => .inl hk), h.apart, h.grp, h.gb⟩
/-- One block is written, that is of L0 or new. -/
theorem Trn.one {B : Nat} {L0 : List Nat} {w0 w w' : World} (h : Trn B L0 w0 w) (k : Nat) (hk : k ∈ L0 ∨ B ≤ k) (ho : w'.os = w.os) (ht : w'.tape = w.tape) (hu : w'.output = w.output) (hs : w.heap.size ≤ w'.heap.size) (hb : ∀ i, i < w.heap.size → i ≠ k → w'.heap[i]? = w.heap[i]?) : Trn B L0 w0 w' :=
  ⟨ho.trans h.os, ht.trans h.tape, hu.trans h.output, Nat.le_trans h.size hs, fun i hi hB hn => (hb i (Nat.lt_of_lt_of_le hi h.size) (fun e => by
    subst e
    rcases hk with h1 | h1
    · exact hn h1
    · omega)).trans (h.block i hi hB hn)⟩
/-- A cell of the block itself is written. -/
theorem RP.set (h : RP B w0 L0 L r bk t m c rows ra rc rest fa fc fl ga gc gl w) (i : Nat) (v : Value) : RP B w0 L0 L r bk t m c rows ra rc rest fa fc fl ga gc gl (w.setCell ⟨r, i, none⟩ v) := by
  have hs : (w.setCell ⟨r, i, none⟩ v).heap.size = w.heap.size := by simp [World.setCell]
  have hb : ∀ k, k ≠ r → (w.setCell ⟨r, i, none⟩ v).heap[k]? = w.heap[k]? := fun k hk => Below.heap_setCell _ _ _ _ hk
  refine ⟨h.lo, h.trn.one r h.rB rfl rfl rfl (by omega) (fun i _ hi => hb i hi), h.tab.kept (by omega) (fun k hk => hb k (fun e => h.rno (e ▸ hk))), h.new, h.rno, h.rB, by rw [hs]; exact h.rlt, h.bkp, h.rst.stand (fun _ => hb bk (fun e => ?_)), h.f.stand (by omega) (fun b o s e => hb b (h.f.ap b o s e).2.2) (fun k hk => .inl hk), h.g.stand (by omega) (fun b o s e => hb b (h.g.ap b o s e).2.2) (fun k hk => .inl hk), h.apart, h.grp, h.gb⟩
  have h1 := h.bkp
  subst e
  rcases h.rB with h2 | h2
  · exact h1.2 h2
  · omega
/-- The table has turned. -/
theorem RP.turned (h : RP B w0 L0 L r bk t m c rows ra rc rest fa fc fl ga gc gl w) {w' : World} {L' : List Nat} {m' c' : Nat} {rows' : List FdM} (ht : PTab w' L' t m' rows' c') (hk : Kept L w w') (hL : ∀ k ∈ L', k ∈ L ∨ w.heap.size ≤ k) : RP B w0 L0 L' r bk t m' c' rows' ra rc rest fa fc fl ga gc gl w' := by
  have hsz := h.size
  have hrl := h.rlt
  have hbk := h.bkp
  refine ⟨h.lo, h.trn.trans (Trn.of_kept hk) (fun i hi => h.new i hi), ht, fun k hk2 => ?_, fun hm => ?_, h.rB, Nat.lt_of_lt_of_le h.rlt hk.size, h.bkp, h.rst.stand (fun hk1 => hk.block bk hk1 (fun hm => ?_)), h.f.stand hk.size (fun b o s e => hk.block b (h.f.lt b o s e) (h.f.ap b o s e).2.1) hL, h.g.stand hk.size (fun b o s e => hk.block b (h.g.lt b o s e) (h.g.ap b o s e).2.1) hL, h.apart, h.grp, h.gb⟩
  · rcases hL k hk2 with h1 | h1
    · exact h.new k h1
    · right; omega
  · rcases hL r hm with h1 | h1
    · exact h.rno h1
    · omega
  · rcases h.new bk hm with h1 | h1
    · exact hbk.2 h1
    · omega
/-- The list of fields has grown. -/
theorem RP.fgrow (h : RP B w0 L0 L r bk t m c rows ra rc rest fa fc fl ga gc gl w) {w' : World} {fa' : Option Addr} {fc' : Nat} {fl' : List FdM} (hg : w.grownBy w' (fa.map (·.block))) (hq : Rw.QRow EFd w' fa' fc' fl') (hn : ∀ b o s, fa' = some ⟨b, o, s⟩ → (∃ o', fa = some ⟨b, o', none⟩) ∨ w.heap.size ≤ b) :
    RP B w0 L0 L r bk t m c rows ra rc rest fa' fc' fl' ga gc gl w' ∧ ∀ k, k < w.heap.size → (∀ o s, fa ≠ some ⟨k, o, s⟩) → w'.heap[k]? = w.heap[k]? := by
  have hsz := h.size
  have hrl := h.rlt
  have hbk1 := h.bkp
  have hbk : ∀ k, k < w.heap.size → (∀ o s, fa ≠ some ⟨k, o, s⟩) → w'.heap[k]? = w.heap[k]? := fun k hk hne => hg.block k hk (fun e => by
    symm at e
    rw [Option.map_eq_some_iff] at e
    obtain ⟨⟨b, o, s⟩, e, rfl⟩ := e
    exact hne o s e)
  have hlo : ∀ k, k < B → k ∉ L0 → ∀ o s, fa ≠ some ⟨k, o, s⟩ := fun k hB hn o s e => by
    rcases (h.f.ap k o s e).1 with h1 | h1
    · exact hn h1
    · omega
  refine ⟨⟨h.lo, ⟨hg.os.trans h.trn.os, hg.tape.trans h.trn.tape, hg.output.trans h.trn.output, Nat.le_trans h.trn.size hg.size, fun i hi hB hn => (hbk i (Nat.lt_of_lt_of_le hi h.trn.size) (hlo i hB hn)).trans (h.trn.block i hi hB hn)⟩, h.tab.kept hg.size (fun k hk => hbk k (h.tab.blocks k hk) (fun o s e => (h.f.ap k o s e).2.1 hk)), h.new, h.rno, h.rB, Nat.lt_of_lt_of_le h.rlt hg.size, h.bkp, h.rst.stand (fun hk => hbk bk hk (hlo bk hbk1.1 hbk1.2)), ⟨hq, fun b o s e => ?_⟩, h.g.stand hg.size (fun b o s e => hbk b (h.g.lt b o s e) (fun o' s' e' => h.apart b o' s' e' o s e)) (fun k hk => .inl hk), fun b o s e => ?_, h.grp, h.gb⟩, hbk⟩
  · rcases hn b o s e with ⟨o', e'⟩ | h1
    · exact h.f.ap b o' none e'
    · exact ⟨.inr (by omega), fun hm => by have := h.tab.blocks b hm; omega, by omega⟩
  · rcases hn b o s e with ⟨o', e'⟩ | h1
    · exact h.apart b o' none e'
    · intro o2 s2 e2; have := h.g.lt b o2 s2 e2; omega
theorem RP.swap (h : RP B w0 L0 L r bk t m c rows ra rc rest fa fc fl ga gc gl w) : RP B w0 L0 L r bk t m c rows ra rc rest ga gc gl fa fc fl w :=
  ⟨h.lo, h.trn, h.tab, h.new, h.rno, h.rB, h.rlt, h.bkp, h.rst, h.g, h.f, fun b o s e o' s' e' => h.apart b o' s' e' o s e, h.grp, h.gb⟩

def rCells (t md ld : Nat) (ra : Option Addr) (rn rc sizes cst : Nat) (fa : Option Addr) (fn fc had : Nat) (ga : Option Addr) (gn gc : Nat) : Array Value :=
  #[.pointer (some ⟨t, 0, none⟩), .int .i64 md, .int .i64 ld, .slice ra rn rc, .int .i64 sizes, .int .i64 cst, .slice fa fn fc, .int .i64 had, .slice ga gn gc]
/-- A block that is being read. -/
def RIn (B : Nat) (w0 : World) (L0 : List Nat) (r : Nat) (d : RD) (w : World) : Prop :=
  ∃ L ra rc fa fc fl ga gc gl, w.heap[r]? = some (.cells (rCells d.t d.md d.ld ra d.rest.length rc d.sizes d.cst fa fl.length fc d.had ga gl.length gc) 70 (0, 0)) ∧ RP B w0 L0 L r d.bk d.t d.m d.c d.rows ra rc d.rest fa fc fl ga gc gl w ∧
    (d.cst ≤ d.ld → fl = d.out) ∧ fl.length ≤ d.out.length ∧ gl.length = d.gn ∧ d.gn ≤ d.had ∧ d.had ≤ d.k + d.gn ∧ d.k ≤ d.rows.length
theorem RIn.below (h : RIn B w0 L0 r d w) {w' : World} (hb : Below w.heap.size w w') : RIn B w0 L0 r d w' := by
  obtain ⟨L, ra, rc, fa, fc, fl, ga, gc, gl, hh, hp, hr⟩ := h
  exact ⟨L, ra, rc, fa, fc, fl, ga, gc, gl, block_below hb hh, hp.below hb, hr⟩

/-- Seen from now on: what it owns may be written. -/
theorem RIn.rebase (h : RIn B w0 L0 r d w) : ∃ L1, RIn w.heap.size w L1 r d w ∧ ∀ k ∈ L1, (k ∈ L0 ∨ B ≤ k) ∧ k < w.heap.size := by
  obtain ⟨L, ra, rc, fa, fc, fl, ga, gc, gl, hh, hp, hr⟩ := h
  have hsz := hp.size
  have hbk := hp.bkp
  have hgb := hp.gb
  have hL1 : ∀ k ∈ r :: (L ++ ((fa.map (·.block)).toList ++ (ga.map (·.block)).toList)), (k ∈ L0 ∨ B ≤ k) ∧ k < w.heap.size := fun k hk => by
    simp only [List.mem_cons, List.mem_append, Option.mem_toList, Option.map_eq_some_iff] at hk
    rcases hk with rfl | hk | ⟨⟨b, o, s⟩, e, rfl⟩ | ⟨⟨b, o, s⟩, e, rfl⟩
    · exact ⟨hp.rB, hp.rlt⟩
    · exact ⟨hp.new k hk, hp.tab.blocks k hk⟩
    · exact ⟨(hp.f.ap b o s e).1, hp.f.lt b o s e⟩
    · exact ⟨(hp.g.ap b o s e).1, hp.g.lt b o s e⟩
  have hno : ∀ k, k < B → k ∉ L0 → k ∉ r :: (L ++ ((fa.map (·.block)).toList ++ (ga.map (·.block)).toList)) := fun k hB hn hm => by
    rcases (hL1 k hm).1 with h1 | h1
    · exact hn h1
    · omega
  refine ⟨_, ⟨L, ra, rc, fa, fc, fl, ga, gc, gl, hh, ⟨Nat.le_refl _, Trn.refl _ _ _, hp.tab, fun k hk => .inl ?_, hp.rno, .inl (List.mem_cons_self ..), hp.rlt, ⟨by omega, hno _ hbk.1 hbk.2⟩, hp.rst, ⟨hp.f.row, fun b o s e => ⟨.inl ?_, (hp.f.ap b o s e).2⟩⟩, ⟨hp.g.row, fun b o s e => ⟨.inl ?_, (hp.g.ap b o s e).2⟩⟩, hp.apart, hp.groups, ⟨by omega, hno _ hgb.1 hgb.2⟩⟩, hr⟩, hL1⟩
  · simp [hk]
  · simp only [List.mem_cons, List.mem_append, Option.mem_toList, Option.map_eq_some_iff]
    exact .inr (.inr (.inl ⟨_, e, rfl⟩))
  · simp only [List.mem_cons, List.mem_append, Option.mem_toList, Option.map_eq_some_iff]
    exact .inr (.inr (.inr ⟨_, e, rfl⟩))
/-- And back. -/
theorem RIn.home {B1 : Nat} {w1 : World} {L1 : List Nat} (h : RIn B1 w1 L1 r d w) (hB : B ≤ w0.heap.size) (ht : Trn B L0 w0 w1) (hB1 : B ≤ B1) (hL : ∀ k ∈ L1, k ∈ L0 ∨ B ≤ k) (hbk : d.bk < B ∧ d.bk ∉ L0) (hg : GrpIs w0) (hgb : gBk < B ∧ gBk ∉ L0) : RIn B w0 L0 r d w := by
  obtain ⟨L, ra, rc, fa, fc, fl, ga, gc, gl, hh, hp, hr⟩ := h
  have key : ∀ k, k ∈ L1 ∨ B1 ≤ k → k ∈ L0 ∨ B ≤ k := fun k hk => by
    rcases hk with h1 | h1
    · exact hL k h1
    · right; omega
  exact ⟨L, ra, rc, fa, fc, fl, ga, gc, gl, hh, ⟨hB, ⟨hp.trn.os.trans ht.os, hp.trn.tape.trans ht.tape, hp.trn.output.trans ht.output, Nat.le_trans ht.size hp.trn.size, fun i hi hBi hn => (hp.trn.block i (Nat.lt_of_lt_of_le hi ht.size) (by omega) (fun hm => by
    rcases hL i hm with h1 | h1
    · exact hn h1
    · omega)).trans (ht.block i hi hBi hn)⟩, hp.tab, fun k hk => key k (hp.new k hk), hp.rno, key r hp.rB, hp.rlt, hbk, hp.rst, ⟨hp.f.row, fun b o s e => ⟨key b (hp.f.ap b o s e).1, (hp.f.ap b o s e).2⟩⟩, ⟨hp.g.row, fun b o s e => ⟨key b (hp.g.ap b o s e).1, (hp.g.ap b o s e).2⟩⟩, hp.apart, hg, hgb⟩, hr⟩
theorem RIn.facts (h : RIn B w0 L0 r d w) : B ≤ w0.heap.size ∧ Trn B L0 w0 w ∧ (d.bk < B ∧ d.bk ∉ L0) ∧ GrpIs w0 ∧ (gBk < B ∧ gBk ∉ L0) := by
  obtain ⟨L, ra, rc, fa, fc, fl, ga, gc, gl, hh, hp, hr⟩ := h
  exact ⟨hp.lo, hp.trn, hp.bkp, hp.grp, hp.gb⟩
/-- Another block is written: it is seen from there on. -/
theorem RIn.other (h : RIn w.heap.size w L0 r d w) (hL : ∀ k ∈ L0, k < w.heap.size) {w' : World} (ho : w'.os = w.os) (ht : w'.tape = w.tape) (hu : w'.output = w.output) (hs : w.heap.size ≤ w'.heap.size) (b : Nat) (hb : ∀ i, i < w.heap.size → i ≠ b → w'.heap[i]? = w.heap[i]?) (hn : b ∉ L0) (hn2 : b ≠ d.bk) (hn3 : b ≠ gBk) : RIn w'.heap.size w' L0 r d w' := by
  obtain ⟨L, ra, rc, fa, fc, fl, ga, gc, gl, hh, hp, hr⟩ := h
  have hin : ∀ k, (k ∈ L0 ∨ w.heap.size ≤ k) → k < w.heap.size → w'.heap[k]? = w.heap[k]? := fun k hk hlt => hb k hlt (fun e => by
    subst e
    rcases hk with h1 | h1
    · exact hn h1
    · omega)
  have up : ∀ k, (k ∈ L0 ∨ w.heap.size ≤ k) → k < w.heap.size → (k ∈ L0 ∨ w'.heap.size ≤ k) := fun k hk hlt => by
    rcases hk with h1 | h1
    · exact .inl h1
    · omega
  refine ⟨L, ra, rc, fa, fc, fl, ga, gc, gl, (hin r hp.rB hp.rlt).trans hh, ⟨Nat.le_refl _, Trn.refl _ _ _, hp.tab.kept hs (fun k hk => hin k (hp.new k hk) (hp.tab.blocks k hk)), fun k hk => up k (hp.new k hk) (hp.tab.blocks k hk), hp.rno, up r hp.rB hp.rlt, Nat.lt_of_lt_of_le hp.rlt hs, ⟨Nat.lt_of_lt_of_le hp.bkp.1 hs, hp.bkp.2⟩, hp.rst.stand (fun hk => hb _ hk (fun e => hn2 e.symm)), ?_, ?_, hp.apart, hp.grp.block (hb _ hp.gb.1 (fun e => hn3 e.symm)), ⟨Nat.lt_of_lt_of_le hp.gb.1 hs, hp.gb.2⟩⟩, hr⟩
  · have hf := hp.f.stand (w' := w') (L' := L) hs (fun b o s e => hin b (hp.f.ap b o s e).1 (hp.f.lt b o s e)) (fun k hk => .inl hk)
    exact ⟨hf.row, fun b o s e => ⟨up b (hp.f.ap b o s e).1 (hp.f.lt b o s e), (hp.f.ap b o s e).2⟩⟩
  · have hf := hp.g.stand (w' := w') (L' := L) hs (fun b o s e => hin b (hp.g.ap b o s e).1 (hp.g.lt b o s e)) (fun k hk => .inl hk)
    exact ⟨hf.row, fun b o s e => ⟨up b (hp.g.ap b o s e).1 (hp.g.lt b o s e), (hp.g.ap b o s e).2⟩⟩

/-- The error that is given up with. -/
def panE (er : Nat) : List PanicEntry := [{ v := .iface 26 (.int .i64 er), recovered := false }]
/-- A part is got, or given up. -/
def Got (B : Nat) (w0 : World) (L0 : List Nat) (r : Nat) (er : Nat) (v : Value) (d : RD) (e : Ending) (w : World) : Prop :=
  (er = 0 ∧ e = .returned v ∧ RIn B w0 L0 r d w) ∨ (er ≠ 0 ∧ e = .panicked (panE er) ∧ ∃ d2 : RD, (d2.bk, d2.had) = (d.bk, d.had) ∧ RIn B w0 L0 r d2 w)

set_option maxRecDepth 100000 in
theorem pmust_ok (w : World) : Calls Tryd.prog 69 #[.int .i64 0] w fun e w' => e = .returned (.tuple #[]) ∧ w = w' := by
  go_enter Tryd.func69, Tryd.ntmps69
  go_wp2_with fail
  go_end0
  exact ⟨rfl, rfl⟩
set_option maxRecDepth 100000 in
theorem pmust_bad (er : Nat) (w : World) (h : er ≠ 0) : Calls Tryd.prog 69 #[.int .i64 er] w fun e w' => e = .panicked (panE er) ∧ w = w' := by
  have h1 : ((er : Int) != 0) = true := by simp; omega
  have h2 : ¬ (er : Int) = 0 := by omega
  go_enter Tryd.func69, Tryd.ntmps69
  go_wp2_with fail
  exact ⟨rfl, rfl, rfl⟩
theorem size_u8r (w : World) : (sizeOf 5).run Tryd.prog w = .ok 1 w := by kernel_rfl
/-- The bytes behind a part. -/
theorem RIn.dropped {L : List Nat} {ra : Option Addr} {rc : Nat} {fa : Option Addr} {fc : Nat} {fl : List FdM} {ga : Option Addr} {gc : Nat} {gl : List FdM}
    (hh : w.heap[r]? = some (.cells (rCells d.t d.md d.ld ra d.rest.length rc d.sizes d.cst fa fl.length fc d.had ga gl.length gc) 70 (0, 0))) (hp : RP B w0 L0 L r d.bk d.t d.m d.c d.rows ra rc d.rest fa fc fl ga gc gl w)
    (hr : (d.cst ≤ d.ld → fl = d.out) ∧ fl.length ≤ d.out.length ∧ gl.length = d.gn ∧ d.gn ≤ d.had ∧ d.had ≤ d.k + d.gn ∧ d.k ≤ d.rows.length) (k : Nat) (hk : k ≤ d.rest.length) :
    RIn B w0 L0 r { d with rest := d.rest.drop k } (w.setCell ⟨r, 3, none⟩ (.slice (Sl.adOf ra rc k 1) (d.rest.length - k) (rc - k))) := by
  refine ⟨L, Sl.adOf ra rc k 1, rc - k, fa, fc, fl, ga, gc, gl, ?_, ?_, hr⟩
  · rw [List.length_drop]; exact heap_setCell_same w r 3 _ _ _ hh
  · have hs := hp.set 3 (.slice (Sl.adOf ra rc k 1) (d.rest.length - k) (rc - k))
    exact ⟨hs.lo, hs.trn, hs.tab, hs.new, hs.rno, hs.rB, hs.rlt, hs.bkp, hs.rst.drop k hk, hs.f, hs.g, hs.apart, hs.grp, hs.gb⟩

set_option maxRecDepth 100000 in
set_option maxHeartbeats 2000000 in
theorem pnum_any (k : Nat) (h1 : 1 ≤ k) (h8 : k ≤ 8) (h : RIn B w0 L0 r d w) (hl : d.rest.length ≤ 134217728) :
    Calls Tryd.prog 52 #[.pointer (some ⟨r, 0, none⟩), .int .i64 k] w (Got B w0 L0 r (takeN d.rest k).2.2 (.int .i64 (takeN d.rest k).1) { d with rest := d.rest.drop (takeN d.rest k).2.1 }) := by
  have HH := Lib.hid h
  obtain ⟨L, ra, rc, fa, fc, fl, ga, gc, gl, hh, hp, hr⟩ := h
  have c3 : w.cell? ⟨r, 3, none⟩ = some (.slice ra d.rest.length rc) := cell_at hh 3
  have hle := hp.rst.le
  have hmx := hp.rst.mx
  have HT := ptakeint_any ra d.rest rc k w (by omega) hle hp.rst.rb
  rw [takeI, if_neg (by omega), Int.toNat_natCast] at HT
  replace HT := Lib.hid HT
  have HD := Lib.hid (fun v (hv : Below w.heap.size w v) k2 (hk2 : k2 ≤ d.rest.length) => RIn.dropped (block_below hv hh) (hp.below hv) hr k2 hk2)
  have hbd := takeN_bd d.rest k h8
  generalize takeN d.rest k = T at HT hbd ⊢
  obtain ⟨n, sz, er⟩ := T
  simp only at HT hbd ⊢
  obtain ⟨hn, hbe, hb0, hb12⟩ := hbd
  have HHr := Lib.hid hh
  clear hh hp hr
  by_cases he : er = 0
  · subst he
    obtain ⟨hs1, hs2, _⟩ := hb0 rfl
    have hsl := fun (v : World) => Sl.run_from (P := Tryd.prog) (t := 24) Tryd.underlying24 (size := 1) size_u8r ra d.rest.length rc sz hs2 hle v
    have hMo := fun v => pmust_ok v
    have HMo := Lib.hid hMo
    clear hMo hbe hb0
    go_enter Tryd.func52, Tryd.ntmps52
    go_wp2_with fail
    refine HT.out.mono ?_; rintro e w1 ⟨rfl, b1⟩
    have c31 : w1.cell? ⟨r, 3, none⟩ = some (.slice ra d.rest.length rc) := cell_at (block_below b1 HHr.out) 3
    have z31 := frozen_of_row _ _ 3 _ _ (block_below b1 HHr.out)
    have HD1 := Lib.hid (HD.out w1 b1 sz hs2)
    go_wp2_with fail
    refine (HMo.out _).mono ?_; rintro e w2 ⟨rfl, rfl⟩
    clear c3 b1
    go_wp2_with fail
    go_ret
    exact .inl ⟨rfl, rfl, HD1.out⟩
  · have HMb := Lib.hid (fun v => pmust_bad er v he)
    go_enter Tryd.func52, Tryd.ntmps52
    go_wp2_with fail
    refine HT.out.mono ?_; rintro e w1 ⟨rfl, b1⟩
    go_wp2_with fail
    refine (HMb.out _).mono ?_; rintro e w2 ⟨rfl, rfl⟩
    exact ⟨rfl, .inr ⟨he, rfl, d, rfl, HH.out.below b1⟩⟩

set_option maxRecDepth 100000 in
set_option maxHeartbeats 2000000 in
theorem ptext_any (h : RIn B w0 L0 r d w) (hl : d.rest.length ≤ 134217728) :
    Calls Tryd.prog 71 #[.pointer (some ⟨r, 0, none⟩)] w (Got B w0 L0 r (takeT d.rest).2.2 (.string (ofT (takeT d.rest).1)) { d with rest := d.rest.drop (takeT d.rest).2.1 }) := by
  have HH := Lib.hid h
  obtain ⟨L, ra, rc, fa, fc, fl, ga, gc, gl, hh, hp, hr⟩ := h
  have c3 : w.cell? ⟨r, 3, none⟩ = some (.slice ra d.rest.length rc) := cell_at hh 3
  have hle := hp.rst.le
  have hmx := hp.rst.mx
  have HT := Lib.hid (ptaketext_any ra d.rest rc w hl hle hmx hp.rst.rb hp.groups)
  have HD := Lib.hid (fun v (hv : Below w.heap.size w v) k2 (hk2 : k2 ≤ d.rest.length) => RIn.dropped (block_below hv hh) (hp.below hv) hr k2 hk2)
  have hbd := takeT_bd d.rest
  change Hid (Calls _ _ _ _ fun e w' => e = .returned (.tuple #[.string (ofT (takeT d.rest).1), .int .i64 (takeT d.rest).2.1, .int .i64 (takeT d.rest).2.2]) ∧ Below w.heap.size w w') at HT
  generalize takeT d.rest = T at HT hbd ⊢
  obtain ⟨n, sz, er⟩ := T
  simp only at HT hbd ⊢
  generalize ofT n = s at HT ⊢
  obtain ⟨_, hs2, _, hb12⟩ := hbd
  have HHr := Lib.hid hh
  clear hh hp hr
  by_cases he : er = 0
  · subst he
    have hsl := fun (v : World) => Sl.run_from (P := Tryd.prog) (t := 24) Tryd.underlying24 (size := 1) size_u8r ra d.rest.length rc sz hs2 hle v
    have hMo := fun v => pmust_ok v
    have HMo := Lib.hid hMo
    clear hMo
    go_enter Tryd.func71, Tryd.ntmps71
    go_wp2_with fail
    refine HT.out.mono ?_; rintro e w1 ⟨rfl, b1⟩
    have c31 : w1.cell? ⟨r, 3, none⟩ = some (.slice ra d.rest.length rc) := cell_at (block_below b1 HHr.out) 3
    have z31 := frozen_of_row _ _ 3 _ _ (block_below b1 HHr.out)
    have HD1 := Lib.hid (HD.out w1 b1 sz hs2)
    go_wp2_with fail
    refine (HMo.out _).mono ?_; rintro e w2 ⟨rfl, rfl⟩
    clear c3 b1
    go_wp2_with fail
    go_ret
    exact .inl ⟨rfl, rfl, HD1.out⟩
  · have HMb := Lib.hid (fun v => pmust_bad er v he)
    go_enter Tryd.func71, Tryd.ntmps71
    go_wp2_with fail
    refine HT.out.mono ?_; rintro e w1 ⟨rfl, b1⟩
    go_wp2_with fail
    refine (HMb.out _).mono ?_; rintro e w2 ⟨rfl, rfl⟩
    exact ⟨rfl, .inr ⟨he, rfl, d, rfl, HH.out.below b1⟩⟩

set_option maxRecDepth 100000 in
set_option maxHeartbeats 2000000 in
theorem prow_any (n : Nat) (hn : n ≤ 9223372036854775807) (h : RIn B w0 L0 r d w) :
    Calls Tryd.prog 51 #[.pointer (some ⟨r, 0, none⟩), .int .i64 n] w (Got B w0 L0 r (atT d.rows n).2 (.agg #[.string (atT d.rows n).1.name, .string (atT d.rows n).1.value, .bool (atT d.rows n).1.never]) d) := by
  have hb0 := below_alloc w (.cells #[.string ⟨#[]⟩, .string ⟨#[]⟩, .bool false] 59)
  have hbx := heap_alloc_new w (.cells #[.string ⟨#[]⟩, .string ⟨#[]⟩, .bool false] 59)
  have cA : ∀ o : Obj, (w.alloc o).cell? ⟨r, 0, none⟩ = some (.pointer (some ⟨d.t, 0, none⟩)) := fun o => by
    obtain ⟨L, ra, rc, fa, fc, fl, ga, gc, gl, hh, _⟩ := h
    exact cell_at (alloc_at hh) 0
  generalize hwn : (w.alloc (.cells #[.string ⟨#[]⟩, .string ⟨#[]⟩, .bool false] 59)) = w1 at hb0 hbx
  generalize hbn : w.heap.size = b at *
  have h1 : RIn B w0 L0 r d w1 := h.below (by rw [hbn]; exact hb0)
  have HH := Lib.hid h1
  have H0 := Lib.hid (fun v (hv : Below b w v) => (h.below (by rw [hbn]; exact hv) : RIn B w0 L0 r d v))
  have HB0 := Lib.hid hb0
  have hbs : b ≤ w1.heap.size := by have := hb0.size; omega
  obtain ⟨L, ra, rc, fa, fc, fl, ga, gc, gl, hh, hp, hr⟩ := h1
  have c0 : w1.cell? ⟨r, 0, none⟩ = some (.pointer (some ⟨d.t, 0, none⟩)) := cell_at hh 0
  have HA := Lib.hid (pat_any L d.t d.m d.c d.rows n w1 hp.tab (wf_i64 _ (by omega)))
  have HWN := Lib.hid hwn
  have HBN := Lib.hid hbn
  have HBX := Lib.hid hbx
  clear hh hp hr hwn hbn hbx h hb0
  generalize atT d.rows n = A at HA ⊢
  obtain ⟨⟨fn, fv, fb⟩, er⟩ := A
  simp only at HA ⊢
  by_cases he : er = 0
  · subst he
    have HMo := Lib.hid (fun v => pmust_ok v)
    go_enter Tryd.func51, Tryd.ntmps51
    go_wp2_with fail
    simp only [HWN.out, HBN.out]
    go_wp2_with fail
    refine HA.out.mono ?_; rintro e w2 ⟨rfl, b2⟩
    have hbx3 := heap_alloc_new w2 (.cells #[.string fn, .string fv, .bool fb] 59)
    have hx2 : (w2.alloc (.cells #[.string fn, .string fv, .bool fb] 59)).heap[b]? = _ := alloc_at (block_below b2 HBX.out)
    have h3 := HH.out.below (below_step b2 (below_alloc w2 (.cells #[.string fn, .string fv, .bool fb] 59)))
    have hne : w2.heap.size ≠ b := fun e => by have := (Array.getElem?_eq_some_iff.1 (block_below b2 HBX.out)).1; omega
    generalize hwn3 : (w2.alloc (.cells #[.string fn, .string fv, .bool fb] 59)) = w3 at hbx3 hx2 h3
    generalize hbn3 : w2.heap.size = b3 at *
    have HWN3 := Lib.hid hwn3
    have HBN3 := Lib.hid hbn3
    have HH3 := Lib.hid h3
    have hset := heap_set3 (x := .string fn) (y := .string fv) (z := .bool fb) hx2
    have hBe : Below b w3 (((w3.setCell ⟨b, 0, none⟩ (.string fn)).setCell ⟨b, 1, none⟩ (.string fv)).setCell ⟨b, 2, none⟩ (.bool fb)) := (((Below.refl b w3).setCell (p := ⟨b, 0, none⟩) (Nat.le_refl _) _).setCell (p := ⟨b, 1, none⟩) (Nat.le_refl _) _).setCell (p := ⟨b, 2, none⟩) (Nat.le_refl _) _
    have HS := Lib.hid hset
    have HE := Lib.hid (H0.out _ ((HB0.out.trans ((b2.mono hbs).trans (by have := b2.size; rw [← hwn3]; exact (Below.refl _ _).alloc (by omega) _))).trans hBe))
    have q0 := cell_at hbx3 0
    have q1 := cell_at hbx3 1
    have q2 := cell_at hbx3 2
    have p0 := cell_at hx2 0
    have p1 := cell_at hx2 1
    have p2 := cell_at hx2 2
    have z0 := frozen_of_row _ _ 0 _ _ hx2
    have z1 := frozen_of_row _ _ 1 _ _ hx2
    have z2 := frozen_of_row _ _ 2 _ _ hx2
    clear hbx3 hx2 h3 hset hwn3 hbn3 cA b2
    go_wp2_with fail
    simp only [HWN3.out, HBN3.out]
    refine (HMo.out _).mono ?_; rintro e w4 ⟨rfl, rfl⟩
    go_wp2_with fail
    have s0 := cell_at HS.out 0
    have s1 := cell_at HS.out 1
    have s2 := cell_at HS.out 2
    clear q0 q1 q2 p0 p1 p2
    refine bodyPost_ret (v := .agg #[.string fn, .string fv, .bool fb]) ?_ rfl (.inl ⟨rfl, rfl, HE.out⟩)
    simp [results, Tryd.results51, go_sem, s0, s1, s2]
  · have HMb := Lib.hid (fun v => pmust_bad er v he)
    go_enter Tryd.func51, Tryd.ntmps51
    go_wp2_with fail
    simp only [HWN.out, HBN.out]
    go_wp2_with fail
    refine HA.out.mono ?_; rintro e w2 ⟨rfl, b2⟩
    have HE := Lib.hid (HH.out.below (below_step b2 (below_alloc w2 (.cells #[.string fn, .string fv, .bool fb] 59))))
    clear cA b2
    go_wp2_with fail
    refine (HMb.out _).mono ?_; rintro e w4 ⟨rfl, rfl⟩
    exact ⟨rfl, .inr ⟨he, rfl, d, rfl, HE.out⟩⟩
end Go.Proofs.YtdkgachgohilcaaDoor
