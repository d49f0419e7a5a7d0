/- Layer 6: the program's fill: its other regions. Layer 6: the program's fill. Layer 6: the program's head. Layer 6: the program's Take, region by region. -/
import Derived.Test.YtdilgkkkhmmffaaDoorGP07
import Derived.BigGuardPart
set_option linter.unusedVariables false
set_option linter.unusedSimpArgs false
namespace Go.Proofs.YtdilgkkkhmmffaaDoor
open Go.RowKit
open Fra Oct Arg Mem Gen Qu Go.Proofs.YtdilgkkkhmmffaaDoor.Obj
set_option linter.unusedVariables false
set_option linter.unusedSimpArgs false

theorem rb_take {w : World} {a : Option Addr} {l : List UInt8} (h : RB w a l) (k : Nat) : RB w a (l.take k) := by
  rcases h with h | ⟨b, off, h, hc⟩
  · subst h; exact .inl (by simp)
  · exact .inr ⟨b, off, h, fun i hi => by rw [List.length_take] at hi; rw [List.getElem_take]; exact hc i (by omega)⟩

set_option maxRecDepth 100000 in
set_option maxHeartbeats 1000000 in
theorem fill_r2 {Q : Exit → Act → World → Prop} {fb rv rb pb n cap : Nat} {ad : Option Addr} {u0 u1 u2 : Value}  (a : Act) (w : World) (hres : w.heap[rv]? = some (Obj.cells #[u0, u1, u2] 33 (0, 0))) 
    (ha : Fr.Is 83 [(0, .pointer (some ⟨fb, 0, none⟩)), (1, .slice ad n cap), (4, .pointer (some ⟨rv, 0, none⟩))] a)
    (hQ : Hid (∀ a' w' w1, Fr.Is 83 [(0, .pointer (some ⟨fb, 0, none⟩)), (1, .slice ad n cap), (4, .pointer (some ⟨rv, 0, none⟩))] a' → w1.heap[rv]? = some (Obj.cells #[u0, u1, u2] 33 (0, 0)) → Below w.heap.size w w1 → w' = ((w1.setCell ⟨rv, 0, none⟩ (.bool ((⟨true, 1, 0⟩ : FaM)).is)).setCell ⟨rv, 1, none⟩ (.int .i64 ((⟨true, 1, 0⟩ : FaM)).code)).setCell ⟨rv, 2, none⟩ (.int .i64 ((⟨true, 1, 0⟩ : FaM)).stream) → Q .normal a' w')) :
    (Fr.reg Tryd.f27 2).wp Tryd.prog Q a w := by
  obtain ⟨fr, rfl, hfr⟩ := ha.lit
  simp only [List.map_cons, List.map_nil, List.cons.injEq, and_true] at hfr
  conv => arg 2; whnf
  simp only [List.range, List.range.loop, List.map_cons, List.map_nil, hfr]
  clear hfr ha
  have HP := Lib.hid (pfault_any 1 0 w)
  have HR := Lib.hid hres
  generalize (⟨true, 1, 0⟩ : FaM) = x at HP hQ
  unfold faV at HP
  clear hres
  go_wp2_with (go_at_call 26; refine HP.out.mono ?_; rintro e w1 ⟨rfl, b1⟩; have hr1 := block_below b1 HR.out; obtain ⟨y0, y1, y2⟩ := fa_cells hr1; have z0 := frozen_of_row _ _ 0 _ _ hr1; have z1 := frozen_of_row _ _ 1 _ _ hr1; have z2 := frozen_of_row _ _ 2 _ _ hr1)
  exact hQ.out _ _ w1 (Fr.Is.mk rfl rfl) hr1 b1 rfl

set_option maxRecDepth 100000 in
set_option maxHeartbeats 1000000 in
theorem fill_r8 {Q : Exit → Act → World → Prop} {fb rv rb pb n cap : Nat} {ad : Option Addr} {u0 u1 u2 : Value}  (a : Act) (w : World) (hres : w.heap[rv]? = some (Obj.cells #[u0, u1, u2] 33 (0, 0))) 
    (ha : Fr.Is 83 [(0, .pointer (some ⟨fb, 0, none⟩)), (1, .slice ad n cap), (4, .pointer (some ⟨rv, 0, none⟩))] a)
    (hQ : Hid (∀ a' w' w1, Fr.Is 83 [(0, .pointer (some ⟨fb, 0, none⟩)), (1, .slice ad n cap), (4, .pointer (some ⟨rv, 0, none⟩))] a' → w1.heap[rv]? = some (Obj.cells #[u0, u1, u2] 33 (0, 0)) → Below w.heap.size w w1 → w' = ((w1.setCell ⟨rv, 0, none⟩ (.bool ((⟨true, 1, 0⟩ : FaM)).is)).setCell ⟨rv, 1, none⟩ (.int .i64 ((⟨true, 1, 0⟩ : FaM)).code)).setCell ⟨rv, 2, none⟩ (.int .i64 ((⟨true, 1, 0⟩ : FaM)).stream) → Q .normal a' w')) :
    (Fr.reg Tryd.f27 8).wp Tryd.prog Q a w := by
  obtain ⟨fr, rfl, hfr⟩ := ha.lit
  simp only [List.map_cons, List.map_nil, List.cons.injEq, and_true] at hfr
  conv => arg 2; whnf
  simp only [List.range, List.range.loop, List.map_cons, List.map_nil, hfr]
  clear hfr ha
  have HP := Lib.hid (pfault_any 1 0 w)
  have HR := Lib.hid hres
  generalize (⟨true, 1, 0⟩ : FaM) = x at HP hQ
  unfold faV at HP
  clear hres
  go_wp2_with (go_at_call 26; refine HP.out.mono ?_; rintro e w1 ⟨rfl, b1⟩; have hr1 := block_below b1 HR.out; obtain ⟨y0, y1, y2⟩ := fa_cells hr1; have z0 := frozen_of_row _ _ 0 _ _ hr1; have z1 := frozen_of_row _ _ 1 _ _ hr1; have z2 := frozen_of_row _ _ 2 _ _ hr1)
  exact hQ.out _ _ w1 (Fr.Is.mk rfl rfl) hr1 b1 rfl

set_option maxRecDepth 100000 in
set_option maxHeartbeats 1000000 in
theorem fill_r4 {Q : Exit → Act → World → Prop} {fb rv rb pb n cap : Nat} {ad : Option Addr} {u0 u1 u2 : Value} {f : FrM} {sa : Option Addr} {sc : Nat} (a : Act) (w : World) (hres : w.heap[rv]? = some (Obj.cells #[u0, u1, u2] 33 (0, 0))) (hF : Fb fb f sa sc w)
    (ha : Fr.Is 83 [(0, .pointer (some ⟨fb, 0, none⟩)), (1, .slice ad n cap), (4, .pointer (some ⟨rv, 0, none⟩))] a)
    (hQ : Hid (∀ a' w' w1, Fr.Is 83 [(0, .pointer (some ⟨fb, 0, none⟩)), (1, .slice ad n cap), (4, .pointer (some ⟨rv, 0, none⟩))] a' → w1.heap[rv]? = some (Obj.cells #[u0, u1, u2] 33 (0, 0)) → Below w.heap.size w w1 → w' = ((w1.setCell ⟨rv, 0, none⟩ (.bool ((if f.type = 2 then ⟨true, 6, f.stream⟩ else ofC 6)).is)).setCell ⟨rv, 1, none⟩ (.int .i64 ((if f.type = 2 then ⟨true, 6, f.stream⟩ else ofC 6)).code)).setCell ⟨rv, 2, none⟩ (.int .i64 ((if f.type = 2 then ⟨true, 6, f.stream⟩ else ofC 6)).stream) → Q .normal a' w')) :
    (Fr.reg Tryd.f27 4).wp Tryd.prog Q a w := by
  obtain ⟨fr, rfl, hfr⟩ := ha.lit
  simp only [List.map_cons, List.map_nil, List.cons.injEq, and_true] at hfr
  conv => arg 2; whnf
  simp only [List.range, List.range.loop, List.map_cons, List.map_nil, hfr]
  clear hfr ha
  have HP := Lib.hid (pwrongsize_any fb f sa sc w hF)
  have HR := Lib.hid hres
  generalize (if f.type = 2 then ⟨true, 6, f.stream⟩ else ofC 6) = x at HP hQ
  unfold faV at HP
  clear hres
  go_wp2_with (go_at_call 47; refine HP.out.mono ?_; rintro e w1 ⟨rfl, b1⟩; have hr1 := block_below b1 HR.out; obtain ⟨y0, y1, y2⟩ := fa_cells hr1; have z0 := frozen_of_row _ _ 0 _ _ hr1; have z1 := frozen_of_row _ _ 1 _ _ hr1; have z2 := frozen_of_row _ _ 2 _ _ hr1)
  exact hQ.out _ _ w1 (Fr.Is.mk rfl rfl) hr1 b1 rfl

set_option maxRecDepth 100000 in
set_option maxHeartbeats 1000000 in
theorem fill_r14 {Q : Exit → Act → World → Prop} {fb rv rb pb n cap : Nat} {ad : Option Addr} {u0 u1 u2 : Value} {f : FrM} {sa : Option Addr} {sc : Nat} (a : Act) (w : World) (hres : w.heap[rv]? = some (Obj.cells #[u0, u1, u2] 33 (0, 0))) (hF : Fb fb f sa sc w) (hok : FrOk f sa sc w)
    (ha : Fr.Is 83 [(0, .pointer (some ⟨fb, 0, none⟩)), (1, .slice ad n cap), (4, .pointer (some ⟨rv, 0, none⟩))] a)
    (hQ : Hid (∀ a' w' w1, Fr.Is 83 [(0, .pointer (some ⟨fb, 0, none⟩)), (1, .slice ad n cap), (4, .pointer (some ⟨rv, 0, none⟩))] a' → w1.heap[rv]? = some (Obj.cells #[u0, u1, u2] 33 (0, 0)) → Below w.heap.size w w1 → w' = ((w1.setCell ⟨rv, 0, none⟩ (.bool ((valF f)).is)).setCell ⟨rv, 1, none⟩ (.int .i64 ((valF f)).code)).setCell ⟨rv, 2, none⟩ (.int .i64 ((valF f)).stream) → Q .normal a' w')) :
    (Fr.reg Tryd.f27 14).wp Tryd.prog Q a w := by
  obtain ⟨fr, rfl, hfr⟩ := ha.lit
  simp only [List.map_cons, List.map_nil, List.cons.injEq, and_true] at hfr
  conv => arg 2; whnf
  simp only [List.range, List.range.loop, List.map_cons, List.map_nil, hfr]
  clear hfr ha
  have HP := Lib.hid (pwrongval_any fb f sa sc w hF hok)
  have HR := Lib.hid hres
  generalize (valF f) = x at HP hQ
  unfold faV at HP
  clear hres
  go_wp2_with (go_at_call 50; refine HP.out.mono ?_; rintro e w1 ⟨rfl, b1⟩; have hr1 := block_below b1 HR.out; obtain ⟨y0, y1, y2⟩ := fa_cells hr1; have z0 := frozen_of_row _ _ 0 _ _ hr1; have z1 := frozen_of_row _ _ 1 _ _ hr1; have z2 := frozen_of_row _ _ 2 _ _ hr1)
  exact hQ.out _ _ w1 (Fr.Is.mk rfl rfl) hr1 b1 rfl

set_option maxRecDepth 100000 in
set_option maxHeartbeats 1000000 in
theorem fill_r6 {Q : Exit → Act → World → Prop} {fb rv rb pb n cap : Nat} {ad : Option Addr} {W : World} {p : PtM} {l : List UInt8} {f : FrM} {sa : Option Addr} {sc : Nat} (a : Act) (w : World) (hR : Rd W rb l w) (hF : Fb fb f sa sc w) (hlo : W.heap.size ≤ fb) (hne : fb ≠ rb) (hn : aheadN p ≤ l.length) (hp : w.heap[pb]? = some (.cells (ptC p) 64 (0, 0)))
    (ha : Fr.Is 83 [(0, .pointer (some ⟨fb, 0, none⟩)), (1, .slice ad n cap), (4, .pointer (some ⟨rv, 0, none⟩)), (5, .pointer (some ⟨rb, 0, none⟩)), (6, .pointer (some ⟨pb, 0, none⟩))] a)
    (hQ : Hid (∀ a' w', Fr.Is 83 [(0, .pointer (some ⟨fb, 0, none⟩)), (1, .slice ad n cap), (4, .pointer (some ⟨rv, 0, none⟩)), (5, .pointer (some ⟨rb, 0, none⟩)), (6, .pointer (some ⟨pb, 0, none⟩))] a' → Rd W rb (numF p (f, l)).2 w' → Fb fb (numF p (f, l)).1 sa sc w' → Kept [rb, fb] w w' → Q .normal a' w')) :
    (Fr.reg Tryd.f27 6).wp Tryd.prog Q a w := by
  obtain ⟨fr, rfl, hfr⟩ := ha.lit
  simp only [List.map_cons, List.map_nil, List.cons.injEq, and_true] at hfr
  conv => arg 2; whnf
  simp only [List.range, List.range.loop, List.map_cons, List.map_nil, hfr]
  clear hfr ha
  have HN := Lib.hid (rnumbers_any f l w hR hF hlo hne hn)
  unfold ptC at HN hp
  have q0 := cell_at hp 0
  have q1 := cell_at hp 1
  have q2 := cell_at hp 2
  have q3 := cell_at hp 3
  have q4 := cell_at hp 4
  have q5 := cell_at hp 5
  have q6 := cell_at hp 6
  simp only [List.getElem?_toArray, List.getElem?_cons_zero, List.getElem?_cons_succ] at q0 q1 q2 q3 q4 q5 q6
  clear hR hF hp
  go_wp2_with (go_at_call 48; refine HN.out.mono ?_; rintro e w1 ⟨rfl, r1, f1, k1⟩)
  exact hQ.out _ _ (Fr.Is.mk rfl rfl) r1 f1 k1

set_option maxRecDepth 100000 in
set_option maxHeartbeats 1000000 in
theorem fill_r7 {Q : Exit → Act → World → Prop} {fb rv rb pb n cap : Nat} {ad : Option Addr} {pad : Int} {ad2 : Option Addr} {m cap2 : Nat} (a : Act) (w : World) (c4 : w.cell? ⟨fb, 4, none⟩ = some (.int .i64 pad)) (cr : w.cell? ⟨rb, 0, none⟩ = some (.slice ad2 m cap2))
    (ha : Fr.Is 83 [(0, .pointer (some ⟨fb, 0, none⟩)), (1, .slice ad n cap), (4, .pointer (some ⟨rv, 0, none⟩)), (5, .pointer (some ⟨rb, 0, none⟩)), (6, .pointer (some ⟨pb, 0, none⟩))] a)
    (hQ : Hid (∀ a' w', Fr.Is 83 [(0, .pointer (some ⟨fb, 0, none⟩)), (1, .slice ad n cap), (4, .pointer (some ⟨rv, 0, none⟩)), (5, .pointer (some ⟨rb, 0, none⟩)), (6, .pointer (some ⟨pb, 0, none⟩)), (53, .bool (decide (pad > (m : Int))))] a' → Below w.heap.size w w' → Q .normal a' w')) :
    (Fr.reg Tryd.f27 7).wp Tryd.prog Q a w := by
  obtain ⟨fr, rfl, hfr⟩ := ha.lit
  simp only [List.map_cons, List.map_nil, List.cons.injEq, and_true] at hfr
  conv => arg 2; whnf
  simp only [List.range, List.range.loop, List.map_cons, List.map_nil, hfr]
  clear hfr ha
  have hb0 : Below w.heap.size w w.drew := (Below.refl _ _).drew
  have : Nonempty (Cw (fun v => Below w.heap.size w v)) := ⟨⟨_, hb0⟩⟩
  have z4 : ∀ nn : Cw (fun v => Below w.heap.size w v), nn.v.cell? ⟨fb, 4, none⟩ = some (.int .i64 pad) := fun nn => below_cell nn.h c4
  have zr : ∀ nn : Cw (fun v => Below w.heap.size w v), nn.v.cell? ⟨rb, 0, none⟩ = some (.slice ad2 m cap2) := fun nn => below_cell nn.h cr
  refine reg_quietB (fun v => Below w.heap.size w v) (by kernel_rfl) (by kernel_rfl) hb0 ?_
  repeat (go_big_quiet_step (fail))
  refine wpQuiet_nil ?_
  rintro w2 ⟨⟨_, hb1⟩, rfl⟩
  exact hQ.out _ _ (Fr.Is.mk rfl rfl) hb1

set_option maxRecDepth 100000 in
set_option maxHeartbeats 1000000 in
theorem fill_r9 {Q : Exit → Act → World → Prop} {fb rv rb pb n cap : Nat} {ad : Option Addr} {W : World} {pad : Int} {l : List UInt8} (a : Act) (w : World) (c4 : w.cell? ⟨fb, 4, none⟩ = some (.int .i64 pad)) (hR : Rd W rb l w) (h0 : 0 ≤ pad) (h1 : pad ≤ l.length) (hl : l.length ≤ 1000000000)
    (ha : Fr.Is 83 [(0, .pointer (some ⟨fb, 0, none⟩)), (1, .slice ad n cap), (4, .pointer (some ⟨rv, 0, none⟩)), (5, .pointer (some ⟨rb, 0, none⟩)), (6, .pointer (some ⟨pb, 0, none⟩))] a)
    (hQ : Hid (∀ a' w', Fr.Is 83 [(0, .pointer (some ⟨fb, 0, none⟩)), (1, .slice ad n cap), (4, .pointer (some ⟨rv, 0, none⟩)), (5, .pointer (some ⟨rb, 0, none⟩)), (6, .pointer (some ⟨pb, 0, none⟩))] a' → Rd W rb (l.take (l.length - pad.toNat)) w' → Kept [rb] w w' → Q .normal a' w')) :
    (Fr.reg Tryd.f27 9).wp Tryd.prog Q a w := by
  obtain ⟨fr, rfl, hfr⟩ := ha.lit
  simp only [List.map_cons, List.map_nil, List.cons.injEq, and_true] at hfr
  conv => arg 2; whnf
  simp only [List.range, List.range.loop, List.map_cons, List.map_nil, hfr]
  clear hfr ha
  obtain ⟨k, hk⟩ : ∃ k, k = l.length - pad.toNat := ⟨_, rfl⟩
  rw [← hk] at hQ
  obtain ⟨⟨ad2, cap2, hh, hr, hc, hm⟩, hbel, hlo⟩ := hR
  have cr : w.drew.cell? ⟨rb, 0, none⟩ = some (.slice ad2 l.length cap2) := cell_at hh 0
  have zr : w.drew.frozen? ⟨rb, 0, none⟩ = false := frozen_of_row _ _ 0 _ _ hh
  have c4' : w.drew.cell? ⟨fb, 4, none⟩ = some (.int .i64 pad) := c4
  have hkl : k ≤ l.length := by omega
  have hsub : IntKind.i64.wrap ((l.length : Int) - pad) = (k : Int) := by rw [IntWalk.i64_in _ (by omega)]; omega
  have HK : Hid (Kept [rb] w (w.drew.setCell ⟨rb, 0, none⟩ (.slice ad2 k cap2))) := Lib.hid (((Kept.refl [rb] w).drew).setCell (p := ⟨rb, 0, none⟩) (.inl (by simp)) _)
  have HRd : Hid (Rd W rb (l.take k) (w.drew.setCell ⟨rb, 0, none⟩ (.slice ad2 k cap2))) := Lib.hid (by
    have hd : (l.take k).length = k := by rw [List.length_take]; omega
    have hset := heap_setCell_same w.drew rb 0 _ _ (.slice ad2 k cap2) hh
    refine ⟨⟨ad2, cap2, by rw [hd]; exact hset, rb_take hr k, by omega, hm⟩, Kept.below hbel HK.out (fun i hi => by simp at hi; omega) hbel.size, hlo⟩)
  have hkc : k ≤ cap2 := by omega
  generalize l.length = n2 at *
  clear hh hr hc hm hbel hlo c4 hk h0 h1 hl
  refine wp_region_noPanic ?_
  go_region
  all_goals exact hQ.out _ _ (Fr.Is.mk rfl rfl) HRd.out HK.out

set_option maxRecDepth 100000 in
set_option maxHeartbeats 1000000 in
theorem fill_sets {Q : Exit → Act → World → Prop} {fb rv rb pb n cap : Nat} {ad : Option Addr} {W : World} {p : PtM} {l : List UInt8} {f : FrM} (a : Act) (w : World) (hR : Rd W rb l w) (hF : Fb fb f none 0 w) (hne : fb ≠ rb) (hlo : W.heap.size ≤ fb) (hp : w.heap[pb]? = some (.cells (ptC p) 64 (0, 0))) (m : Nat) (hm : p.sets = true → l.length = 6 * m) (hl : l.length ≤ 1000000000) (hfs : f.sets = [])
    (ha : Fr.Is 83 [(0, .pointer (some ⟨fb, 0, none⟩)), (1, .slice ad n cap), (4, .pointer (some ⟨rv, 0, none⟩)), (5, .pointer (some ⟨rb, 0, none⟩)), (6, .pointer (some ⟨pb, 0, none⟩))] a)
    (hQ : Hid (∀ a' w' sa sc, Fr.Is 83 [(0, .pointer (some ⟨fb, 0, none⟩)), (1, .slice ad n cap), (4, .pointer (some ⟨rv, 0, none⟩)), (5, .pointer (some ⟨rb, 0, none⟩)), (6, .pointer (some ⟨pb, 0, none⟩))] a' → Rd W rb (if p.sets then [] else l) w' → Fb fb { f with sets := if p.sets then setsF l.length l else [] } sa sc w' → FrOk { f with sets := if p.sets then setsF l.length l else [] } sa sc w' → Kept [rb, fb] w w' → (∀ b o s, sa = some ⟨b, o, s⟩ → w.heap.size ≤ b) → Q .normal a' w')) :
    (Fr.navL (Fr.tail Tryd.f27 7)).wp Tryd.prog Q a w := by
  obtain ⟨fr, rfl, hfr⟩ := ha.lit
  simp only [List.map_cons, List.map_nil, List.cons.injEq, and_true] at hfr
  conv => arg 2; whnf
  simp only [List.range, List.range.loop, List.map_cons, List.map_nil, hfr]
  clear hfr ha
  have c1 := cell_at hp 5
  simp only [ptC, List.getElem?_toArray, List.getElem?_cons_zero, List.getElem?_cons_succ] at c1
  have HR := Lib.hid hR
  have HF := Lib.hid hF
  have hfe : ({ f with sets := [] } : FrM) = f := by rw [← hfs]
  clear hR hF hp
  cases hs : p.sets
  · rw [hs] at c1 hQ
    have HE := Lib.hid hfe
    go_wp2_with fail
    refine hQ.out _ _ none 0 (Fr.Is.mk rfl rfl) (by simpa using HR.out) ?_ ⟨.inl rfl, Nat.le_refl _, by unfold maxLen; omega⟩ (Kept.refl _ _) (fun b o s e => by cases e)
    have := HF.out; rw [← HE.out] at this; exact this
  · rw [hs] at c1 hQ
    have HN := Lib.hid (rsettings_any l m w HR.out (hm hs) hl)
    have HE := Lib.hid hfe
    generalize setsF l.length l = T at HN hQ
    clear hfe hm
    go_wp2_with fail
    refine HN.out.mono ?_
    rintro e w1 ⟨ad2, cap2, rfl, ok1, hbk, r1, k1⟩
    have F1 := Lib.hid (HF.out.kept k1 (by simp; omega))
    have z5 := F1.out.thaw 5
    have y5 : w1.cell? ⟨fb, 5, none⟩ = some (.slice none f.sets.length 0) := F1.out.cellz 5
    have R1 := Lib.hid r1
    have K1 := Lib.hid k1
    have HBk := Lib.hid hbk
    have K4 := Lib.hid ((Kept.refl [fb] w1).setCell (p := ⟨fb, 5, none⟩) (.inl (by simp)) (.slice ad2 T.length cap2))
    have F4 := Lib.hid (F1.out.set (f' := { f with sets := T }) (sa' := ad2) (sc' := cap2) 5 (.slice ad2 T.length cap2) rfl)
    have hfl : fb < w.heap.size := (Array.getElem?_eq_some_iff.1 HF.out).1
    have OK := Lib.hid (show FrOk { f with sets := T } ad2 cap2 (w1.setCell ⟨fb, 5, none⟩ (.slice ad2 T.length cap2)) from ⟨ok1.row.block (fun b off e => Below.heap_setCell _ _ _ _ (fun e2 => by have := hbk b off _ e; simp only at e2; omega)), ok1.len, ok1.cap⟩)
    clear r1 k1 ok1 c1
    go_wp2_with fail
    exact hQ.out _ _ ad2 cap2 (Fr.Is.mk rfl rfl) (by simpa using R1.out.kept K4.out (by simp; omega)) F4.out OK.out ((K1.out.wide (L' := [rb, fb]) (by simp)).trans K4.out (by simp)) HBk.out

set_option maxRecDepth 100000 in
set_option maxHeartbeats 1000000 in
theorem fill_data {Q : Exit → Act → World → Prop} {fb rv rb pb n cap : Nat} {ad : Option Addr} {W : World} {p : PtM} {l : List UInt8} {f : FrM} {sa : Option Addr} {sc : Nat} (a : Act) (w : World) (hR : Rd W rb l w) (hF : Fb fb f sa sc w) (hok : FrOk f sa sc w) (hne : fb ≠ rb) (hlo : W.heap.size ≤ fb) (hp : w.heap[pb]? = some (.cells (ptC p) 64 (0, 0))) (hl : l.length ≤ 1000000000) (hsb : ∀ b o s, sa = some ⟨b, o, s⟩ → b ≠ fb)
    (ha : Fr.Is 83 [(0, .pointer (some ⟨fb, 0, none⟩)), (1, .slice ad n cap), (4, .pointer (some ⟨rv, 0, none⟩)), (5, .pointer (some ⟨rb, 0, none⟩)), (6, .pointer (some ⟨pb, 0, none⟩))] a)
    (hQ : Hid (∀ a' w', Fr.Is 83 [(0, .pointer (some ⟨fb, 0, none⟩)), (1, .slice ad n cap), (4, .pointer (some ⟨rv, 0, none⟩)), (5, .pointer (some ⟨rb, 0, none⟩)), (6, .pointer (some ⟨pb, 0, none⟩))] a' → Fb fb { f with data := if p.data then ⟨l.toArray⟩ else f.data } sa sc w' → FrOk f sa sc w' → Kept [fb] w w' → Q .normal a' w')) :
    (Fr.navL (Fr.tail Tryd.f27 8)).wp Tryd.prog Q a w := by
  obtain ⟨fr, rfl, hfr⟩ := ha.lit
  simp only [List.map_cons, List.map_nil, List.cons.injEq, and_true] at hfr
  conv => arg 2; whnf
  simp only [List.range, List.range.loop, List.map_cons, List.map_nil, hfr]
  clear hfr ha
  have c1 := cell_at hp 6
  simp only [ptC, List.getElem?_toArray, List.getElem?_cons_zero, List.getElem?_cons_succ] at c1
  have HF := Lib.hid hF
  obtain ⟨⟨ad2, cap2, hh, hr, hc, hm⟩, hbel, hlo2⟩ := hR
  have cr : w.cell? ⟨rb, 0, none⟩ = some (.slice ad2 l.length cap2) := cell_at hh 0
  have z3 := HF.out.thaw 3
  have y3 : w.cell? ⟨fb, 3, none⟩ = some (.string f.data) := HF.out.cellz 3
  have hcv : (convert 27 9 (.slice ad2 l.length cap2)).run Tryd.prog w = .ok (.string ⟨l.toArray⟩) w := (hr.below hbel).conv Tryd.underlying27 Tryd.underlying5 Tryd.underlying9
  have HO := Lib.hid hok
  have HS := Lib.hid hsb
  clear hF hp hh hr hc hm hbel hlo2 hok hsb
  cases hs : p.data
  · rw [hs] at c1 hQ
    go_wp2_with fail
    exact hQ.out _ _ (Fr.Is.mk rfl rfl) HF.out HO.out (Kept.refl _ _)
  · rw [hs] at c1 hQ
    have K4 := Lib.hid ((Kept.refl [fb] w).setCell (p := ⟨fb, 3, none⟩) (.inl (by simp)) (.string ⟨l.toArray⟩))
    have F4 := Lib.hid (HF.out.set (f' := { f with data := ⟨l.toArray⟩ }) 3 (.string ⟨l.toArray⟩) rfl)
    have O4 := Lib.hid (show FrOk f sa sc (w.setCell ⟨fb, 3, none⟩ (.string ⟨l.toArray⟩)) from ⟨HO.out.row.block (fun b off e => Below.heap_setCell _ _ _ _ (fun e2 => HS.out b off _ e e2)), HO.out.len, HO.out.cap⟩)
    generalize (⟨l.toArray⟩ : ByteArray) = d at *
    go_wp2_with fail
    exact hQ.out _ _ (Fr.Is.mk rfl rfl) F4.out O4.out K4.out
end Go.Proofs.YtdilgkkkhmmffaaDoor

namespace Go.Proofs.YtdilgkkkhmmffaaDoor
open Go.RowKit
open Fra Oct Arg Mem Gen Qu Go.Proofs.YtdilgkkkhmmffaaDoor.Obj
set_option linter.unusedVariables false
set_option linter.unusedSimpArgs false

def hdrF (t fl st : Int) : FrM := { noFr with type := t, flags := fl, stream := st }
/-- What is left behind the padding. -/
def restF (x : FrM × List UInt8) : List UInt8 := x.2.take (x.2.length - x.1.pad.toNat)
def withS (p : PtM) (f : FrM) (r : List UInt8) : FrM := { f with sets := if p.sets then setsF r.length r else [] }
def withD (p : PtM) (f : FrM) (r : List UInt8) : FrM := { f with data := if p.data then ⟨r.toArray⟩ else f.data }
def fullF (t fl st : Int) (l : List UInt8) : FrM :=
  withD (partsM t fl) (withS (partsM t fl) (numF (partsM t fl) (hdrF t fl st, l)).1 (restF (numF (partsM t fl) (hdrF t fl st, l)))) (if (partsM t fl).sets then [] else restF (numF (partsM t fl) (hdrF t fl st, l)))
def fillX (t fl st : Int) (l : List UInt8) : FaM :=
  if placeOk t st = false then ⟨true, 1, 0⟩
  else if fitsB t fl l.length = false then (if t = 2 then ⟨true, 6, st⟩ else ofC 6)
  else if ((numF (partsM t fl) (hdrF t fl st, l)).2.length : Int) < (numF (partsM t fl) (hdrF t fl st, l)).1.pad then ⟨true, 1, 0⟩
  else valF (fullF t fl st l)

theorem num_keep (p : PtM) (x : FrM × List UInt8) : (numF p x).1.type = x.1.type ∧ (numF p x).1.stream = x.1.stream ∧ (numF p x).1.sets = x.1.sets ∧ (numF p x).1.pad = if p.pad then at' x.2 0 1 else x.1.pad := by
  obtain ⟨f, l⟩ := x
  obtain ⟨pad, order, last, code, inc, sets, data⟩ := p
  cases pad <;> cases order <;> cases last <;> cases code <;> cases inc <;> simp [numF, sPad, sOrd, sLast, sCode, sInc, orderF]
theorem num_len (p : PtM) (x : FrM × List UInt8) : (numF p x).2.length ≤ x.2.length := by
  obtain ⟨f, l⟩ := x
  obtain ⟨pad, order, last, code, inc, sets, data⟩ := p
  cases pad <;> cases order <;> cases last <;> cases code <;> cases inc <;> simp [numF, sPad, sOrd, sLast, sCode, sInc, orderF] <;> omega
theorem fits_ahead (t fl : Int) (n : Nat) (h0 : 0 ≤ t) (h : fitsB t fl n = true) : aheadN (partsM t fl) ≤ n ∧ (t = 4 → ∃ m, n = 6 * m) := by
  unfold fitsB at h
  by_cases h10 : 10 ≤ t
  · have hp : partsM t fl = ⟨false, false, false, false, false, false, true⟩ := by
      unfold partsM
      rw [if_neg (by omega), if_neg (by omega), if_neg (by omega), if_neg (by omega), if_neg (by omega), if_neg (by omega), if_neg (by omega)]
    rw [hp]; exact ⟨by simp [aheadN], fun h4 => by omega⟩
  rw [if_neg h10] at h
  by_cases hk4 : t = 4 ∧ hasF fl 1 = true
  · rw [if_pos hk4, decide_eq_true_eq] at h
    obtain ⟨rfl, _⟩ := hk4
    exact ⟨by simp [partsM, aheadN], fun _ => ⟨0, by omega⟩⟩
  rw [if_neg hk4] at h
  obtain ⟨j, rfl⟩ := Int.eq_ofNat_of_zero_le h0
  rw [Int.toNat_natCast] at h
  split at h
  · rename_i lo mx st hsp
    simp only [Bool.and_eq_true, decide_eq_true_eq] at h
    refine ⟨by omega, fun h4 => ?_⟩
    have hj : j = 4 := by omega
    subst hj
    have : st = 6 := by simp [spanT] at hsp; omega
    subst this
    exact ⟨n / 6, by omega⟩
  · cases h
theorem at_one (l : List UInt8) (h : 1 ≤ l.length) : 0 ≤ at' l 0 1 ∧ at' l 0 1 ≤ 255 := by
  cases l with
  | nil => simp at h
  | cons c r =>
    have hc := c.toNat_lt
    have he : at' (c :: r) 0 1 = c.toNat := by simp [at', beI]
    rw [he]; omega

theorem fill_ret {R : Ending → World → Prop} {fb rv n cap : Nat} {ad : Option Addr} {u0 u1 u2 : Value} {a : Act} {w w1 w' : World} {x : FaM}
    (ha : Fr.Is 83 [(0, .pointer (some ⟨fb, 0, none⟩)), (1, .slice ad n cap), (4, .pointer (some ⟨rv, 0, none⟩))] a)
    (h : w1.heap[rv]? = some (Obj.cells #[u0, u1, u2] 33 (0, 0))) (hb : Below w.heap.size w w1) (hw : w' = ((w1.setCell ⟨rv, 0, none⟩ (.bool x.is)).setCell ⟨rv, 1, none⟩ (.int .i64 x.code)).setCell ⟨rv, 2, none⟩ (.int .i64 x.stream))
    (hR : R (.returned (faV x)) w') : bodyPost Tryd.prog Tryd.f27 R .ret a w' := by
  obtain ⟨fr, rfl, hfr⟩ := ha.lit
  simp only [List.map_cons, List.map_nil, List.cons.injEq, and_true] at hfr
  have h1 := heap_setCell_same w1 rv 0 _ _ (.bool x.is) h
  have h2 := heap_setCell_same _ rv 1 _ _ (.int .i64 x.code) h1
  have h3 := heap_setCell_same _ rv 2 _ _ (.int .i64 x.stream) h2
  rw [← hw] at h3
  have x0 : w'.cell? ⟨rv, 0, none⟩ = some (.bool x.is) := cell_at h3 0
  have x1 : w'.cell? ⟨rv, 1, none⟩ = some (.int .i64 x.code) := cell_at h3 1
  have x2 : w'.cell? ⟨rv, 2, none⟩ = some (.int .i64 x.stream) := cell_at h3 2
  have hf4 : fr 4 = .pointer (some ⟨rv, 0, none⟩) := hfr.2.2
  clear h1 h2 h3 hw h hb
  refine bodyPost_ret (v := faV x) ?_ rfl hR
  simp [results, Tryd.results27, go_sem, faV, hf4, x0, x1, x2]

theorem kept_store {w0 w w1 w' : World} {fb rv : Nat} {x y z : Value} (hk : Kept [fb] w0 w) (hb : Below w.heap.size w w1) (hw : w' = ((w1.setCell ⟨rv, 0, none⟩ x).setCell ⟨rv, 1, none⟩ y).setCell ⟨rv, 2, none⟩ z) (hl : w0.heap.size ≤ rv) : Kept [fb] w0 w' := by
  subst hw
  exact (((hk.then hb).setCell (p := ⟨rv, 0, none⟩) (.inr hl) x).setCell (p := ⟨rv, 1, none⟩) (.inr hl) y).setCell (p := ⟨rv, 2, none⟩) (.inr hl) z
theorem kept_rv {w w1 w' : World} {rv : Nat} {x y z : Value} (hb : Below w.heap.size w w1) (hw : w' = ((w1.setCell ⟨rv, 0, none⟩ x).setCell ⟨rv, 1, none⟩ y).setCell ⟨rv, 2, none⟩ z) : Kept [rv] w w' := by
  subst hw
  exact ((((Kept.of_below hb).setCell (p := ⟨rv, 0, none⟩) (.inl (by simp)) x).setCell (p := ⟨rv, 1, none⟩) (.inl (by simp)) y).setCell (p := ⟨rv, 2, none⟩) (.inl (by simp)) z)

theorem row_kept {w w' : World} {ad : Option Addr} {l : List StM} {L : List Nat} (h : Rw.RowE ESt w ad l) (hk : Kept L w w') (hL : ∀ b o s, ad = some ⟨b, o, s⟩ → b ∉ L) : Rw.RowE ESt w' ad l := by
  rcases h with h | ⟨b, off, e, hc⟩
  · exact .inl h
  · cases l with
    | nil => exact .inl rfl
    | cons s r =>
      have hb : b < w.heap.size := World.block_lt_of_cell? w _ (hc 0 (by simp) 0 _ rfl)
      have hbb := hk.block b hb (hL b off _ e)
      exact .inr ⟨b, off, e, fun i hi => Rw.CE_local ESt w w' b _ _ hbb (hc i hi)⟩

set_option maxRecDepth 100000 in
set_option maxHeartbeats 2000000 in
theorem pfill_any {W : World} {fb : Nat} (t fl st : Int) (l : List UInt8) (ad : Option Addr) (cap : Nat) (w : World) (hF : Fb fb (hdrF t fl st) none 0 w) (hbel : Below W.heap.size W w) (hlo : W.heap.size ≤ fb) (hr : RB W ad l) (hc : l.length ≤ cap) (hm : cap ≤ maxLen)
    (hs : SpIs W) (ht0 : 0 ≤ t) (h0 : 0 ≤ fl) (h1 : fl ≤ 255) (hl : l.length ≤ 16777215) :
    Calls Tryd.prog 27 #[.pointer (some ⟨fb, 0, none⟩), .slice ad l.length cap] w fun e w' => ∃ sa sc, e = .returned (faV (fillX t fl st l)) ∧ Kept [fb] w w' ∧ ((fillX t fl st l).is = false → Fb fb (fullF t fl st l) sa sc w' ∧ FrOk (fullF t fl st l) sa sc w' ∧ ∀ b o s, sa = some ⟨b, o, s⟩ → w.heap.size ≤ b) := by
  have hfl : fb < w.heap.size := (Array.getElem?_eq_some_iff.1 hF).1
  go_enter Tryd.func27, Tryd.ntmps27
  refine wp_seq ?_
  refine fill_r0 (rv := 0) (rb := 0) (pb := 0) (fb := fb) (n := l.length) (cap := cap) (ad := ad) _ w (Fr.Is.mk rfl rfl) (Lib.hid (fun a1 g1 => ?_))
  have B1 := bel_al w (.cells #[.bool false, .int .i64 0, .int .i64 0] 33)
  have res1 := heap_alloc_new w (.cells #[.bool false, .int .i64 0, .int .i64 0] 33)
  generalize w.alloc (.cells #[.bool false, .int .i64 0, .int .i64 0] 33) = w1 at B1 res1 ⊢
  obtain ⟨rv, hrv⟩ : ∃ rv, rv = w.heap.size := ⟨_, rfl⟩
  rw [← hrv] at res1 g1
  have K1 : Kept [fb] w w1 := Kept.of_below B1
  have F1 : Fb fb (hdrF t fl st) none 0 w1 := block_below B1 hF
  refine wp_seq (wp_seq ?_)
  refine fill_r1 (rb := 0) (pb := 0) (t := t) (st := st) a1 w1 (F1.cellz 0) (F1.cellz 2) g1 (Lib.hid (fun a2 w2 g2 b2 => ?_))
  have K2 := K1.then b2
  have F2 : Fb fb (hdrF t fl st) none 0 w2 := block_below b2 F1
  have res2 := block_below b2 res1
  cases hp : placeOk t st with
  | false =>
    have hx : fillX t fl st l = ⟨true, 1, 0⟩ := by rw [fillX, if_pos hp]
    rw [hx]
    refine wp_cond_true (g2.get (i := 16) (v := .bool true) (by simp [hp])) ?_
    refine wp_seq ?_
    refine fill_r2 (rb := 0) (pb := 0) (fb := fb) (ad := ad) (n := l.length) (cap := cap) a2 w2 res2 (g2.less (by simp)) (Lib.hid (fun a3 w' w3 g3 r3 b3 hw => ?_))
    refine wp_ret ?_
    try dsimp only [Exit.then]
    refine fill_ret g3 r3 b3 hw ?_
    exact ⟨none, 0, rfl, kept_store K2 b3 hw (by omega), fun h => by cases h⟩
  | true =>
    refine wp_cond_false (g2.get (i := 16) (v := .bool false) (by simp [hp])) ?_
    refine wp_skip ?_
    have g2' := g2.less (ks' := [(0, .pointer (some ⟨fb, 0, none⟩)), (1, .slice ad l.length cap), (4, .pointer (some ⟨rv, 0, none⟩))]) (by simp)
    have BW2 : Below W.heap.size W w2 := below_step (below_step hbel B1) b2
    refine wp_seq (wp_seq ?_)
    refine fill_r3 (rb := 0) (pb := 0) (t := t) (fl := fl) a2 w2 (F2.cellz 0) (F2.cellz 1) (hs.below BW2) ht0 h0 h1 (by omega) g2' (Lib.hid (fun a3 w3 g3 b3 => ?_))
    have K3 := K2.then b3
    have F3 : Fb fb (hdrF t fl st) none 0 w3 := block_below b3 F2
    have res3 := block_below b3 res2
    have g3' := g3.less (ks' := [(0, .pointer (some ⟨fb, 0, none⟩)), (1, .slice ad l.length cap), (4, .pointer (some ⟨rv, 0, none⟩))]) (by simp)
    cases hf : fitsB t fl l.length with
    | false =>
      have hx : fillX t fl st l = (if t = 2 then (⟨true, 6, st⟩ : FaM) else ofC 6) := by rw [fillX, if_neg (by rw [hp]; simp), if_pos hf]
      rw [hx]
      refine wp_cond_true (g3.get (i := 29) (v := .bool true) (by simp [hf])) ?_
      refine wp_seq ?_
      refine fill_r4 (rb := 0) (pb := 0) a3 w3 res3 F3 g3' (Lib.hid (fun a4 w' w4 g4 r4 b4 hw => ?_))
      refine wp_ret ?_
      try dsimp only [Exit.then]
      refine fill_ret (x := if t = 2 then (⟨true, 6, st⟩ : FaM) else ofC 6) g4 r4 b4 hw ?_
      exact ⟨none, 0, rfl, kept_store K3 b4 hw (by omega), fun h => by split at h <;> cases h⟩
    | true =>
      obtain ⟨hah, h6⟩ := fits_ahead t fl l.length ht0 hf
      refine wp_cond_false (g3.get (i := 29) (v := .bool false) (by simp [hf])) ?_
      refine wp_skip ?_
      have BW3 : Below W.heap.size W w3 := below_step BW2 b3
      have hs3 := K3.size
      refine wp_seq ?_
      refine fill_r5 (rb := 0) (pb := 0) (t := t) (fl := fl) a3 w3 (F3.cellz 0) (F3.cellz 1) h0 h1 g3' (Lib.hid (fun a4 w4 rb pb g4 b4 hne hl1 hl2 hh1 hh2 => ?_))
      have K4 := K3.then b4
      have F4 : Fb fb (hdrF t fl st) none 0 w4 := block_below b4 F3
      have res4 := block_below b4 res3
      have BW4 : Below W.heap.size W w4 := below_step BW3 b4
      have hW3 := BW3.size
      have hrv3 : rv < w3.heap.size := (Array.getElem?_eq_some_iff.1 res3).1
      have R4 : Rd W rb l w4 := ⟨⟨ad, cap, hh1, hr, hc, hm⟩, BW4, by omega⟩
      have hfr : fb ≠ rb := by omega
      refine wp_seq ?_
      refine fill_r6 (W := W) (l := l) a4 w4 R4 F4 hlo hfr hah hh2 g4 (Lib.hid (fun a5 w5 g5 R5 F5 k5 => ?_))
      have K5 : Kept [fb] w w5 := K4.trans k5 (fun i hi => by
        simp only [List.mem_cons, List.not_mem_nil, or_false] at hi
        rcases hi with rfl | rfl
        · right; omega
        · left; simp)
      have res5 := k5.at res4 (by simp; omega)
      have hp5 := k5.at hh2 (by simp; omega)
      obtain ⟨n1, n2, n3, n4⟩ := num_keep (partsM t fl) (hdrF t fl st, l)
      have nl := num_len (partsM t fl) (hdrF t fl st, l)
      generalize hx : numF (partsM t fl) (hdrF t fl st, l) = x at R5 F5 n1 n2 n3 n4 nl
      have hpad : 0 ≤ x.1.pad ∧ x.1.pad ≤ 255 := by
        rw [n4]
        cases hpd : (partsM t fl).pad with
        | false => simp [hdrF, noFr]
        | true =>
          have : 1 ≤ l.length := by
            have h9 := hah
            unfold aheadN at h9
            rw [hpd] at h9; simp at h9; omega
          simpa using at_one l this
      simp only at nl
      obtain ⟨ad5, cap5, hh5, _⟩ := R5.ex
      refine wp_seq (wp_seq ?_)
      refine fill_r7 a5 w5 (F5.cellz 4) (cell_at hh5 0) g5 (Lib.hid (fun a6 w6 g6 b6 => ?_))
      have K6 := K5.then b6
      have F6 := F5.kept (Kept.of_below b6 (L := [])) (by simp)
      have res6 := block_below b6 res5
      have hp6 := block_below b6 hp5
      have R6 := R5.kept (Kept.of_below b6 (L := [])) (by simp)
      by_cases hpl : (x.2.length : Int) < x.1.pad
      · have hxx : fillX t fl st l = ⟨true, 1, 0⟩ := by rw [fillX, if_neg (by rw [hp]; simp), if_neg (by rw [hf]; simp), hx, if_pos hpl]
        rw [hxx]
        refine wp_cond_true (g6.get (i := 53) (v := .bool true) (by simp [hpl])) ?_
        refine wp_seq ?_
        refine fill_r8 (rb := 0) (pb := 0) (fb := fb) (ad := ad) (n := l.length) (cap := cap) a6 w6 res6 (g6.less (by simp)) (Lib.hid (fun a7 w' w7 g7 r7 b7 hw => ?_))
        refine wp_ret ?_
        try dsimp only [Exit.then]
        refine fill_ret g7 r7 b7 hw ?_
        exact ⟨none, 0, rfl, kept_store K6 b7 hw (by omega), fun h => by cases h⟩
      · have hxx : fillX t fl st l = valF (fullF t fl st l) := by rw [fillX, if_neg (by rw [hp]; simp), if_neg (by rw [hf]; simp), hx, if_neg hpl]
        rw [hxx]
        have hfull : fullF t fl st l = withD (partsM t fl) (withS (partsM t fl) x.1 (restF x)) (if (partsM t fl).sets then [] else restF x) := by rw [fullF, hx]
        refine wp_cond_false (g6.get (i := 53) (v := .bool false) (by simp only [gt_iff_lt, hpl]; simp)) ?_
        refine wp_skip ?_
        have g6' := g6.less (ks' := [(0, .pointer (some ⟨fb, 0, none⟩)), (1, .slice ad l.length cap), (4, .pointer (some ⟨rv, 0, none⟩)), (5, .pointer (some ⟨rb, 0, none⟩)), (6, .pointer (some ⟨pb, 0, none⟩))]) (by simp)
        refine wp_seq ?_
        refine fill_r9 a6 w6 (F6.cellz 4) R6 hpad.1 (by omega) (by omega) g6' (Lib.hid (fun a7 w7 g7 R7 k7 => ?_))
        have K7 : Kept [fb] w w7 := K6.trans k7 (fun i hi => by simp at hi; right; omega)
        have F7 := F6.kept k7 (by simp; omega)
        have res7 := k7.at res6 (by simp; omega)
        have hp7 := k7.at hp6 (by simp; omega)
        change Rd W rb (restF x) w7 at R7
        have hxs : x.1.sets = [] := n3
        have hrl : (restF x).length ≤ l.length := by rw [restF, List.length_take]; omega
        have hsix : (partsM t fl).sets = true → ∃ m, (restF x).length = 6 * m := fun hps => by
          have ht4 : t = 4 := by
            unfold partsM at hps
            repeat' split at hps
            all_goals first | omega | (simp at hps)
          subst ht4
          obtain ⟨m, hm6⟩ := h6 rfl
          have hx4 : x = (hdrF 4 fl st, l) := by rw [← hx]; simp [partsM, numF, sPad, sOrd, sLast, sCode, sInc]
          exact ⟨m, by rw [hx4, restF]; simp [hdrF, noFr, hm6]⟩
        obtain ⟨m, hm6⟩ : ∃ m, (partsM t fl).sets = true → (restF x).length = 6 * m := by
          by_cases hps : (partsM t fl).sets = true
          · obtain ⟨m, h⟩ := hsix hps; exact ⟨m, fun _ => h⟩
          · exact ⟨0, fun h => absurd h hps⟩
        refine wp_seq ?_
        refine fill_sets a7 w7 R7 F7 hfr hlo hp7 m hm6 (by omega) hxs g7 (Lib.hid (fun a8 w8 sa sc g8 R8 F8 ok8 k8 hbk => ?_))
        have K8 : Kept [fb] w w8 := K7.trans k8 (fun i hi => by
          simp only [List.mem_cons, List.not_mem_nil, or_false] at hi
          rcases hi with rfl | rfl
          · right; omega
          · left; simp)
        have res8 := k8.at res7 (by simp; omega)
        have hp8 := k8.at hp7 (by simp; omega)
        have hs7 := K7.size
        have hrv7 : rv < w7.heap.size := (Array.getElem?_eq_some_iff.1 res7).1
        change Fb fb (withS (partsM t fl) x.1 (restF x)) sa sc w8 at F8
        change FrOk (withS (partsM t fl) x.1 (restF x)) sa sc w8 at ok8
        refine wp_seq ?_
        refine fill_data a8 w8 R8 F8 ok8 hfr hlo hp8 (by split <;> first | omega | simp) (fun b o s e => by have := hbk b o s e; omega) g8 (Lib.hid (fun a9 w9 g9 F9 ok9 k9 => ?_))
        have K9 : Kept [fb] w w9 := K8.trans k9 (fun i hi => .inl hi)
        have res9 := k9.at res8 (by simp; omega)
        have F9 : Fb fb (fullF t fl st l) sa sc w9 := by rw [hfull]; exact F9
        have ok9' : FrOk (fullF t fl st l) sa sc w9 := by rw [hfull]; exact ⟨ok9.row, ok9.len, ok9.cap⟩
        refine wp_seq ?_
        refine fill_r14 (rb := 0) (pb := 0) (ad := ad) (n := l.length) (cap := cap) a9 w9 res9 F9 ok9' (g9.less (by simp)) (Lib.hid (fun a10 w' w10 g10 r10 b10 hw => ?_))
        refine wp_ret ?_
        have kv := kept_rv b10 hw
        try dsimp only [Exit.then]
        refine fill_ret g10 r10 b10 hw ?_
        exact ⟨sa, sc, rfl, kept_store K9 b10 hw (by omega), fun _ => ⟨F9.kept kv (by simp; omega), ⟨row_kept ok9'.row kv (fun b o s e => by have := hbk b o s e; simp; omega), ok9'.len, ok9'.cap⟩, fun b o s e => by have := hbk b o s e; omega⟩⟩
end Go.Proofs.YtdilgkkkhmmffaaDoor

namespace Go.Proofs.YtdilgkkkhmmffaaDoor
open Go.RowKit
open Fra Oct Arg Mem Gen Qu Go.Proofs.YtdilgkkkhmmffaaDoor.Obj
set_option linter.unusedVariables false
set_option linter.unusedSimpArgs false

set_option maxHeartbeats 4000000 in
/-- A whole frame is stored. -/
theorem fr_ret {B : Nat} {w0 w : World} {rv : Nat} {u0 u1 u2 u3 u4 u5 u6 u7 u8 u9 u10 u11 : Value} (hB : Below B w0 w) (hle : B ≤ rv) (h : w.heap[rv]? = some (.cells #[u0, u1, u2, u3, u4, u5, u6, u7, u8, u9, u10, u11] 24 (0, 0))) (f : FrM) (sa : Option Addr) (sc : Nat) :
    ∃ w', ((((((((((((w).setCell ⟨rv, 0, none⟩ (.int .i64 f.type)).setCell ⟨rv, 1, none⟩ (.int .i64 f.flags)).setCell ⟨rv, 2, none⟩ (.int .i64 f.stream)).setCell ⟨rv, 3, none⟩ (.string f.data)).setCell ⟨rv, 4, none⟩ (.int .i64 f.pad)).setCell ⟨rv, 5, none⟩ (.slice sa f.sets.length sc)).setCell ⟨rv, 6, none⟩ (.int .i64 f.code)).setCell ⟨rv, 7, none⟩ (.int .i64 f.last)).setCell ⟨rv, 8, none⟩ (.int .i64 f.inc)).setCell ⟨rv, 9, none⟩ (.int .i64 f.dep)).setCell ⟨rv, 10, none⟩ (.int .i64 f.weight)).setCell ⟨rv, 11, none⟩ (.bool f.sole) = w' ∧ Fb rv f sa sc w' ∧ Below B w0 w' ∧ ∀ k, k ≠ rv → w'.heap[k]? = w.heap[k]? := by
  obtain ⟨w1, hw1⟩ : ∃ x, x = w.setCell ⟨rv, 0, none⟩ (.int .i64 f.type) := ⟨_, rfl⟩
  have k0 : w1.heap[rv]? = some (Obj.cells #[.int .i64 f.type, u1, u2, u3, u4, u5, u6, u7, u8, u9, u10, u11] 24 (0, 0)) := by rw [hw1]; exact heap_setCell_same w rv 0 _ _ (.int .i64 f.type) h
  have b0 : Below B w0 w1 := by rw [hw1]; exact hB.setCell (p := ⟨rv, 0, none⟩) hle _
  have o0 : ∀ k, k ≠ rv → w1.heap[k]? = w.heap[k]? := fun k hk => by rw [hw1]; exact (Below.heap_setCell w ⟨rv, 0, none⟩ _ k hk)
  obtain ⟨w2, hw2⟩ : ∃ x, x = w1.setCell ⟨rv, 1, none⟩ (.int .i64 f.flags) := ⟨_, rfl⟩
  have k1 : w2.heap[rv]? = some (Obj.cells #[.int .i64 f.type, .int .i64 f.flags, u2, u3, u4, u5, u6, u7, u8, u9, u10, u11] 24 (0, 0)) := by rw [hw2]; exact heap_setCell_same w1 rv 1 _ _ (.int .i64 f.flags) k0
  have b1 : Below B w0 w2 := by rw [hw2]; exact b0.setCell (p := ⟨rv, 1, none⟩) hle _
  have o1 : ∀ k, k ≠ rv → w2.heap[k]? = w.heap[k]? := fun k hk => by rw [hw2]; exact (Below.heap_setCell w1 ⟨rv, 1, none⟩ _ k hk).trans (o0 k hk)
  obtain ⟨w3, hw3⟩ : ∃ x, x = w2.setCell ⟨rv, 2, none⟩ (.int .i64 f.stream) := ⟨_, rfl⟩
  have k2 : w3.heap[rv]? = some (Obj.cells #[.int .i64 f.type, .int .i64 f.flags, .int .i64 f.stream, u3, u4, u5, u6, u7, u8, u9, u10, u11] 24 (0, 0)) := by rw [hw3]; exact heap_setCell_same w2 rv 2 _ _ (.int .i64 f.stream) k1
  have b2 : Below B w0 w3 := by rw [hw3]; exact b1.setCell (p := ⟨rv, 2, none⟩) hle _
  have o2 : ∀ k, k ≠ rv → w3.heap[k]? = w.heap[k]? := fun k hk => by rw [hw3]; exact (Below.heap_setCell w2 ⟨rv, 2, none⟩ _ k hk).trans (o1 k hk)
  obtain ⟨w4, hw4⟩ : ∃ x, x = w3.setCell ⟨rv, 3, none⟩ (.string f.data) := ⟨_, rfl⟩
  have k3 : w4.heap[rv]? = some (Obj.cells #[.int .i64 f.type, .int .i64 f.flags, .int .i64 f.stream, .string f.data, u4, u5, u6, u7, u8, u9, u10, u11] 24 (0, 0)) := by rw [hw4]; exact heap_setCell_same w3 rv 3 _ _ (.string f.data) k2
  have b3 : Below B w0 w4 := by rw [hw4]; exact b2.setCell (p := ⟨rv, 3, none⟩) hle _
  have o3 : ∀ k, k ≠ rv → w4.heap[k]? = w.heap[k]? := fun k hk => by rw [hw4]; exact (Below.heap_setCell w3 ⟨rv, 3, none⟩ _ k hk).trans (o2 k hk)
  obtain ⟨w5, hw5⟩ : ∃ x, x = w4.setCell ⟨rv, 4, none⟩ (.int .i64 f.pad) := ⟨_, rfl⟩
  have k4 : w5.heap[rv]? = some (Obj.cells #[.int .i64 f.type, .int .i64 f.flags, .int .i64 f.stream, .string f.data, .int .i64 f.pad, u5, u6, u7, u8, u9, u10, u11] 24 (0, 0)) := by rw [hw5]; exact heap_setCell_same w4 rv 4 _ _ (.int .i64 f.pad) k3
  have b4 : Below B w0 w5 := by rw [hw5]; exact b3.setCell (p := ⟨rv, 4, none⟩) hle _
  have o4 : ∀ k, k ≠ rv → w5.heap[k]? = w.heap[k]? := fun k hk => by rw [hw5]; exact (Below.heap_setCell w4 ⟨rv, 4, none⟩ _ k hk).trans (o3 k hk)
  obtain ⟨w6, hw6⟩ : ∃ x, x = w5.setCell ⟨rv, 5, none⟩ (.slice sa f.sets.length sc) := ⟨_, rfl⟩
  have k5 : w6.heap[rv]? = some (Obj.cells #[.int .i64 f.type, .int .i64 f.flags, .int .i64 f.stream, .string f.data, .int .i64 f.pad, .slice sa f.sets.length sc, u6, u7, u8, u9, u10, u11] 24 (0, 0)) := by rw [hw6]; exact heap_setCell_same w5 rv 5 _ _ (.slice sa f.sets.length sc) k4
  have b5 : Below B w0 w6 := by rw [hw6]; exact b4.setCell (p := ⟨rv, 5, none⟩) hle _
  have o5 : ∀ k, k ≠ rv → w6.heap[k]? = w.heap[k]? := fun k hk => by rw [hw6]; exact (Below.heap_setCell w5 ⟨rv, 5, none⟩ _ k hk).trans (o4 k hk)
  obtain ⟨w7, hw7⟩ : ∃ x, x = w6.setCell ⟨rv, 6, none⟩ (.int .i64 f.code) := ⟨_, rfl⟩
  have k6 : w7.heap[rv]? = some (Obj.cells #[.int .i64 f.type, .int .i64 f.flags, .int .i64 f.stream, .string f.data, .int .i64 f.pad, .slice sa f.sets.length sc, .int .i64 f.code, u7, u8, u9, u10, u11] 24 (0, 0)) := by rw [hw7]; exact heap_setCell_same w6 rv 6 _ _ (.int .i64 f.code) k5
  have b6 : Below B w0 w7 := by rw [hw7]; exact b5.setCell (p := ⟨rv, 6, none⟩) hle _
  have o6 : ∀ k, k ≠ rv → w7.heap[k]? = w.heap[k]? := fun k hk => by rw [hw7]; exact (Below.heap_setCell w6 ⟨rv, 6, none⟩ _ k hk).trans (o5 k hk)
  obtain ⟨w8, hw8⟩ : ∃ x, x = w7.setCell ⟨rv, 7, none⟩ (.int .i64 f.last) := ⟨_, rfl⟩
  have k7 : w8.heap[rv]? = some (Obj.cells #[.int .i64 f.type, .int .i64 f.flags, .int .i64 f.stream, .string f.data, .int .i64 f.pad, .slice sa f.sets.length sc, .int .i64 f.code, .int .i64 f.last, u8, u9, u10, u11] 24 (0, 0)) := by rw [hw8]; exact heap_setCell_same w7 rv 7 _ _ (.int .i64 f.last) k6
  have b7 : Below B w0 w8 := by rw [hw8]; exact b6.setCell (p := ⟨rv, 7, none⟩) hle _
  have o7 : ∀ k, k ≠ rv → w8.heap[k]? = w.heap[k]? := fun k hk => by rw [hw8]; exact (Below.heap_setCell w7 ⟨rv, 7, none⟩ _ k hk).trans (o6 k hk)
  obtain ⟨w9, hw9⟩ : ∃ x, x = w8.setCell ⟨rv, 8, none⟩ (.int .i64 f.inc) := ⟨_, rfl⟩
  have k8 : w9.heap[rv]? = some (Obj.cells #[.int .i64 f.type, .int .i64 f.flags, .int .i64 f.stream, .string f.data, .int .i64 f.pad, .slice sa f.sets.length sc, .int .i64 f.code, .int .i64 f.last, .int .i64 f.inc, u9, u10, u11] 24 (0, 0)) := by rw [hw9]; exact heap_setCell_same w8 rv 8 _ _ (.int .i64 f.inc) k7
  have b8 : Below B w0 w9 := by rw [hw9]; exact b7.setCell (p := ⟨rv, 8, none⟩) hle _
  have o8 : ∀ k, k ≠ rv → w9.heap[k]? = w.heap[k]? := fun k hk => by rw [hw9]; exact (Below.heap_setCell w8 ⟨rv, 8, none⟩ _ k hk).trans (o7 k hk)
  obtain ⟨w10, hw10⟩ : ∃ x, x = w9.setCell ⟨rv, 9, none⟩ (.int .i64 f.dep) := ⟨_, rfl⟩
  have k9 : w10.heap[rv]? = some (Obj.cells #[.int .i64 f.type, .int .i64 f.flags, .int .i64 f.stream, .string f.data, .int .i64 f.pad, .slice sa f.sets.length sc, .int .i64 f.code, .int .i64 f.last, .int .i64 f.inc, .int .i64 f.dep, u10, u11] 24 (0, 0)) := by rw [hw10]; exact heap_setCell_same w9 rv 9 _ _ (.int .i64 f.dep) k8
  have b9 : Below B w0 w10 := by rw [hw10]; exact b8.setCell (p := ⟨rv, 9, none⟩) hle _
  have o9 : ∀ k, k ≠ rv → w10.heap[k]? = w.heap[k]? := fun k hk => by rw [hw10]; exact (Below.heap_setCell w9 ⟨rv, 9, none⟩ _ k hk).trans (o8 k hk)
  obtain ⟨w11, hw11⟩ : ∃ x, x = w10.setCell ⟨rv, 10, none⟩ (.int .i64 f.weight) := ⟨_, rfl⟩
  have k10 : w11.heap[rv]? = some (Obj.cells #[.int .i64 f.type, .int .i64 f.flags, .int .i64 f.stream, .string f.data, .int .i64 f.pad, .slice sa f.sets.length sc, .int .i64 f.code, .int .i64 f.last, .int .i64 f.inc, .int .i64 f.dep, .int .i64 f.weight, u11] 24 (0, 0)) := by rw [hw11]; exact heap_setCell_same w10 rv 10 _ _ (.int .i64 f.weight) k9
  have b10 : Below B w0 w11 := by rw [hw11]; exact b9.setCell (p := ⟨rv, 10, none⟩) hle _
  have o10 : ∀ k, k ≠ rv → w11.heap[k]? = w.heap[k]? := fun k hk => by rw [hw11]; exact (Below.heap_setCell w10 ⟨rv, 10, none⟩ _ k hk).trans (o9 k hk)
  obtain ⟨w12, hw12⟩ : ∃ x, x = w11.setCell ⟨rv, 11, none⟩ (.bool f.sole) := ⟨_, rfl⟩
  have k11 : w12.heap[rv]? = some (Obj.cells #[.int .i64 f.type, .int .i64 f.flags, .int .i64 f.stream, .string f.data, .int .i64 f.pad, .slice sa f.sets.length sc, .int .i64 f.code, .int .i64 f.last, .int .i64 f.inc, .int .i64 f.dep, .int .i64 f.weight, .bool f.sole] 24 (0, 0)) := by rw [hw12]; exact heap_setCell_same w11 rv 11 _ _ (.bool f.sole) k10
  have b11 : Below B w0 w12 := by rw [hw12]; exact b10.setCell (p := ⟨rv, 11, none⟩) hle _
  have o11 : ∀ k, k ≠ rv → w12.heap[k]? = w.heap[k]? := fun k hk => by rw [hw12]; exact (Below.heap_setCell w11 ⟨rv, 11, none⟩ _ k hk).trans (o10 k hk)
  refine ⟨w12, ?_, k11, b11, o11⟩
  rw [hw12, hw11, hw10, hw9, hw8, hw7, hw6, hw5, hw4, hw3, hw2, hw1]
theorem fr_cells {w : World} {rv : Nat} {f : FrM} {sa : Option Addr} {sc : Nat} (h : Fb rv f sa sc w) :
    w.cell? ⟨rv, 0, none⟩ = some (.int .i64 f.type) ∧ w.cell? ⟨rv, 1, none⟩ = some (.int .i64 f.flags) ∧ w.cell? ⟨rv, 2, none⟩ = some (.int .i64 f.stream) ∧ w.cell? ⟨rv, 3, none⟩ = some (.string f.data) ∧ w.cell? ⟨rv, 4, none⟩ = some (.int .i64 f.pad) ∧ w.cell? ⟨rv, 5, none⟩ = some (.slice sa f.sets.length sc) ∧ w.cell? ⟨rv, 6, none⟩ = some (.int .i64 f.code) ∧ w.cell? ⟨rv, 7, none⟩ = some (.int .i64 f.last) ∧ w.cell? ⟨rv, 8, none⟩ = some (.int .i64 f.inc) ∧ w.cell? ⟨rv, 9, none⟩ = some (.int .i64 f.dep) ∧ w.cell? ⟨rv, 10, none⟩ = some (.int .i64 f.weight) ∧ w.cell? ⟨rv, 11, none⟩ = some (.bool f.sole) :=
  ⟨h.cellz 0, h.cellz 1, h.cellz 2, h.cellz 3, h.cellz 4, h.cellz 5, h.cellz 6, h.cellz 7, h.cellz 8, h.cellz 9, h.cellz 10, h.cellz 11⟩

set_option maxRecDepth 100000 in
set_option maxHeartbeats 4000000 in
theorem phd_any {W : World} (l : List UInt8) (ad : Option Addr) (cap : Nat) (w : World) (hbel : Below W.heap.size W w) (hr : RB W ad l) (hc : l.length ≤ cap) (hm : cap ≤ maxLen) (h9 : 9 ≤ l.length) :
    Calls Tryd.prog 25 #[.slice ad l.length cap] w fun e w' => e = .returned (.tuple #[frV (hdrF (at' (l.drop 3) 0 1) (at' (l.drop 4) 0 1) (at' (l.drop 5) 0 4 % 2147483648)) none 0, .int .i64 (at' l 0 3)]) ∧ Below w.heap.size w w' := by
  have B1 := bel_al w (.cells #[.int .i64 0, .int .i64 0, .int .i64 0, .string ⟨#[]⟩, .int .i64 0, .slice none 0 0, .int .i64 0, .int .i64 0, .int .i64 0, .int .i64 0, .int .i64 0, .bool false] 24)
  have res1 := heap_alloc_new w (.cells #[.int .i64 0, .int .i64 0, .int .i64 0, .string ⟨#[]⟩, .int .i64 0, .slice none 0 0, .int .i64 0, .int .i64 0, .int .i64 0, .int .i64 0, .int .i64 0, .bool false] 24)
  have hs1 : (w.alloc (.cells #[.int .i64 0, .int .i64 0, .int .i64 0, .string ⟨#[]⟩, .int .i64 0, .slice none 0 0, .int .i64 0, .int .i64 0, .int .i64 0, .int .i64 0, .int .i64 0, .bool false] 24)).heap.size = w.heap.size + 1 := by simp
  have R2 := Rd.start (below_step hbel B1) hr hc hm
  rw [hs1] at R2
  have B2 := bel_al (w.alloc (.cells #[.int .i64 0, .int .i64 0, .int .i64 0, .string ⟨#[]⟩, .int .i64 0, .slice none 0 0, .int .i64 0, .int .i64 0, .int .i64 0, .int .i64 0, .int .i64 0, .bool false] 24)) (.cells #[.slice ad l.length cap] 73)
  have res2 := block_below B2 res1
  have HB2 := Lib.hid (below_step B1 B2)
  have HR2 := Lib.hid R2
  have Hres2 := Lib.hid res2
  have HN3 := Lib.hid (fun v (hv : Rd W (w.heap.size + 1) l v) => rnum_any 3 v hv (by decide) (by decide) (by omega))
  have HN1 := Lib.hid (fun v (hv : Rd W (w.heap.size + 1) (l.drop 3) v) => rnum_any 1 v hv (by decide) (by decide) (by simp; omega))
  have HN2 := Lib.hid (fun v (hv : Rd W (w.heap.size + 1) (l.drop 4) v) => rnum_any 1 v hv (by decide) (by decide) (by simp; omega))
  have HN4 := Lib.hid (fun v (hv : Rd W (w.heap.size + 1) (l.drop 5) v) => rlow_any v hv (by simp; omega))
  have e1 := at_bd l 0 3 (by decide)
  have e2 := at_bd (l.drop 3) 0 1 (by decide)
  have e3 := at_bd (l.drop 4) 0 1 (by decide)
  rw [show (l.drop 3).drop 1 = l.drop 4 from by rw [List.drop_drop]] at HN1
  rw [show (l.drop 4).drop 1 = l.drop 5 from by rw [List.drop_drop]] at HN2
  generalize at' l 0 3 = N at *
  generalize at' (l.drop 3) 0 1 = T at *
  generalize at' (l.drop 4) 0 1 = FL at *
  generalize at' (l.drop 5) 0 4 % 2147483648 = ST at *
  generalize l.length = n at *
  clear hbel hr hc hm B1 res1 hs1 R2 B2 res2
  go_enter Tryd.func25, Tryd.ntmps25
  go_wp2_with fail
  generalize (w.alloc (.cells #[.int .i64 0, .int .i64 0, .int .i64 0, .string ⟨#[]⟩, .int .i64 0, .slice none 0 0, .int .i64 0, .int .i64 0, .int .i64 0, .int .i64 0, .int .i64 0, .bool false] 24)).alloc (.cells #[.slice ad n cap] 73) = w2 at HB2 HR2 Hres2 ⊢
  obtain ⟨rv, hrv⟩ : ∃ rv, rv = w.heap.size := ⟨_, rfl⟩
  have HRv := Lib.hid hrv
  rw [← hrv] at HR2 Hres2 HN3 HN1 HN2 HN4 ⊢
  have Q2 : Hid (Kept [] w w2) := Lib.hid (Kept.of_below HB2.out)
  have V2 : Hid (Fb rv noFr none 0 w2) := Lib.hid Hres2.out
  clear hrv Hres2
  refine (HN3.out w2 HR2.out).mono ?_
  rintro e w3 ⟨rfl, r3, k3⟩
  have R3 := Lib.hid r3
  have V3 := Lib.hid (V2.out.kept k3 (by simp))
  have Q3 := Lib.hid (Q2.out.trans k3 (fun i hi => by have := HRv.out; simp at hi; right; omega))
  have hrb3 : rv + 1 < w3.heap.size := r3.lt
  have F4 : Hid (Fb w3.heap.size noFr none 0 (w3.alloc (.cells #[.int .i64 0, .int .i64 0, .int .i64 0, .string ⟨#[]⟩, .int .i64 0, .slice none 0 0, .int .i64 0, .int .i64 0, .int .i64 0, .int .i64 0, .int .i64 0, .bool false] 24))) := Lib.hid (heap_alloc_new w3 _)
  have R4 := Lib.hid (R3.out.kept (Kept.of_below (bel_al w3 (.cells #[.int .i64 0, .int .i64 0, .int .i64 0, .string ⟨#[]⟩, .int .i64 0, .slice none 0 0, .int .i64 0, .int .i64 0, .int .i64 0, .int .i64 0, .int .i64 0, .bool false] 24)) (L := [])) (by simp))
  have V4 := Lib.hid (V3.out.kept (Kept.of_below (bel_al w3 (.cells #[.int .i64 0, .int .i64 0, .int .i64 0, .string ⟨#[]⟩, .int .i64 0, .slice none 0 0, .int .i64 0, .int .i64 0, .int .i64 0, .int .i64 0, .int .i64 0, .bool false] 24)) (L := [])) (by simp))
  have Q4 := Lib.hid (Q3.out.alloc (.cells #[.int .i64 0, .int .i64 0, .int .i64 0, .string ⟨#[]⟩, .int .i64 0, .slice none 0 0, .int .i64 0, .int .i64 0, .int .i64 0, .int .i64 0, .int .i64 0, .bool false] 24))
  have hw3 := Q3.out.size
  clear r3 k3
  go_wp2_with fail
  generalize w3.alloc (.cells #[.int .i64 0, .int .i64 0, .int .i64 0, .string ⟨#[]⟩, .int .i64 0, .slice none 0 0, .int .i64 0, .int .i64 0, .int .i64 0, .int .i64 0, .int .i64 0, .bool false] 24) = w4 at F4 R4 V4 Q4 ⊢
  obtain ⟨fb, hfb⟩ : ∃ fb, fb = w3.heap.size := ⟨_, rfl⟩
  rw [← hfb] at F4 hrb3 hw3 ⊢
  clear hfb
  refine (HN1.out w4 R4.out).mono ?_
  rintro e w5 ⟨rfl, r5, k5⟩
  have F5 := Lib.hid (F4.out.kept k5 (by simp; omega))
  have V5 := Lib.hid (V4.out.kept k5 (by simp))
  have Q5 := Lib.hid (Q4.out.trans k5 (fun i hi => by have := HRv.out; simp at hi; right; omega))
  have z0 := F5.out.thaw 0
  have y0 : w5.cell? ⟨fb, 0, none⟩ = some (.int .i64 0) := F5.out.cellz 0
  have k6 := (Kept.refl [fb] w5).setCell (p := ⟨fb, 0, none⟩) (.inl (by simp)) (.int .i64 T)
  have F6 := Lib.hid (F5.out.set (f' := { noFr with type := T }) 0 (.int .i64 T) rfl)
  have R6 := Lib.hid (r5.kept k6 (by have := HRv.out; have := hw3; have := R3.out.lo; have := R3.out.bel.size; simp; omega))
  have V6 := Lib.hid (V5.out.kept k6 (by simp; omega))
  have Q6 := Lib.hid (Q5.out.trans k6 (fun i hi => by simp at hi; right; omega))
  clear r5 k5 k6
  go_wp2_with fail
  generalize w5.setCell ⟨fb, 0, none⟩ (.int .i64 T) = w6 at F6 R6 V6 Q6 ⊢
  refine (HN2.out w6 R6.out).mono ?_
  rintro e w7 ⟨rfl, r7, k7⟩
  have F7 := Lib.hid (F6.out.kept k7 (by simp; omega))
  have V7 := Lib.hid (V6.out.kept k7 (by simp))
  have Q7 := Lib.hid (Q6.out.trans k7 (fun i hi => by have := HRv.out; simp at hi; right; omega))
  have z1 := F7.out.thaw 1
  have y1 : w7.cell? ⟨fb, 1, none⟩ = some (.int .i64 0) := F7.out.cellz 1
  have k8 := (Kept.refl [fb] w7).setCell (p := ⟨fb, 1, none⟩) (.inl (by simp)) (.int .i64 FL)
  have F8 := Lib.hid (F7.out.set (f' := { noFr with type := T, flags := FL }) 1 (.int .i64 FL) rfl)
  have R8 := Lib.hid (r7.kept k8 (by have := HRv.out; have := hw3; have := R3.out.lo; have := R3.out.bel.size; simp; omega))
  have V8 := Lib.hid (V7.out.kept k8 (by simp; omega))
  have Q8 := Lib.hid (Q7.out.trans k8 (fun i hi => by simp at hi; right; omega))
  clear r7 k7 k8 z0 y0
  go_wp2_with fail
  generalize w7.setCell ⟨fb, 1, none⟩ (.int .i64 FL) = w8 at F8 R8 V8 Q8 ⊢
  refine (HN4.out w8 R8.out).mono ?_
  rintro e w9 ⟨rfl, r9, k9⟩
  have F9 := Lib.hid (F8.out.kept k9 (by simp; omega))
  have V9 := Lib.hid (V8.out.kept k9 (by simp))
  have Q9 := Lib.hid (Q8.out.trans k9 (fun i hi => by have := HRv.out; simp at hi; right; omega))
  have z2 := F9.out.thaw 2
  have y2 : w9.cell? ⟨fb, 2, none⟩ = some (.int .i64 0) := F9.out.cellz 2
  have k10 := (Kept.refl [fb] w9).setCell (p := ⟨fb, 2, none⟩) (.inl (by simp)) (.int .i64 ST)
  have F10 := Lib.hid (F9.out.set (f' := hdrF T FL ST) 2 (.int .i64 ST) rfl)
  have V10 := Lib.hid (V9.out.kept k10 (by simp; omega))
  have Q10 := Lib.hid (Q9.out.trans k10 (fun i hi => by simp at hi; right; omega))
  have B10 : Hid (Below w.heap.size w (w9.setCell ⟨fb, 2, none⟩ (.int .i64 ST))) := Lib.hid (Kept.below (Below.refl _ w) Q10.out (by simp) (Nat.le_refl _))
  obtain ⟨a0, a1, a2, a3, a4, a5, a6, a7, a8, a9, a10, a11⟩ := fr_cells F10.out
  obtain ⟨c0, c1, c2, c3, c4, c5, c6, c7, c8, c9, c10, c11⟩ := fr_cells V10.out
  have t0 := V10.out.thaw 0
  have t1 := V10.out.thaw 1
  have t2 := V10.out.thaw 2
  have t3 := V10.out.thaw 3
  have t4 := V10.out.thaw 4
  have t5 := V10.out.thaw 5
  have t6 := V10.out.thaw 6
  have t7 := V10.out.thaw 7
  have t8 := V10.out.thaw 8
  have t9 := V10.out.thaw 9
  have t10 := V10.out.thaw 10
  have t11 := V10.out.thaw 11
  obtain ⟨w11, hw11, F11, B11, _⟩ := fr_ret B10.out (by have := HRv.out; omega) V10.out (hdrF T FL ST) none 0
  have HW11 := Lib.hid hw11
  have HF11 := Lib.hid F11
  have HB11 := Lib.hid B11
  clear r9 k9 k10 z1 y1 hw11 F11 B11
  go_wp2_with fail
  rw [HW11.out]
  obtain ⟨x0, x1, x2, x3, x4, x5, x6, x7, x8, x9, x10, x11⟩ := fr_cells HF11.out
  clear a0 a1 a2 a3 a4 a5 a6 a7 a8 a9 a10 a11 c0 c1 c2 c3 c4 c5 c6 c7 c8 c9 c10 c11 t0 t1 t2 t3 t4 t5 t6 t7 t8 t9 t10 t11
  refine bodyPost_ret (v := .tuple #[frV (hdrF T FL ST) none 0, .int .i64 N]) ?_ rfl ?_
  · simp [results, Tryd.results25, go_sem, frV, frC, x0, x1, x2, x3, x4, x5, x6, x7, x8, x9, x10, x11]
  · exact ⟨rfl, HB11.out⟩
end Go.Proofs.YtdilgkkkhmmffaaDoor

namespace Go.Proofs.YtdilgkkkhmmffaaDoor
open Go.RowKit
open Fra Oct Arg Mem Gen Qu Go.Proofs.YtdilgkkkhmmffaaDoor.Obj
set_option linter.unusedVariables false
set_option linter.unusedSimpArgs false

set_option maxHeartbeats 4000000 in
theorem two_ret {B : Nat} {w0 w : World} {rv rx : Nat} {f0 : FrM} {sa0 : Option Addr} {sc0 : Nat} {u0 u1 u2 : Value} (hB : Below B w0 w) (hv : B ≤ rv) (hx : B ≤ rx) (V : Fb rv f0 sa0 sc0 w) (X : w.heap[rx]? = some (.cells #[u0, u1, u2] 33 (0, 0))) (hne : rx ≠ rv) (f : FrM) (sa : Option Addr) (sc : Nat) (x : FaM) :
    ∃ w2, ((((((((((((w).setCell ⟨rv, 0, none⟩ (.int .i64 f.type)).setCell ⟨rv, 1, none⟩ (.int .i64 f.flags)).setCell ⟨rv, 2, none⟩ (.int .i64 f.stream)).setCell ⟨rv, 3, none⟩ (.string f.data)).setCell ⟨rv, 4, none⟩ (.int .i64 f.pad)).setCell ⟨rv, 5, none⟩ (.slice sa f.sets.length sc)).setCell ⟨rv, 6, none⟩ (.int .i64 f.code)).setCell ⟨rv, 7, none⟩ (.int .i64 f.last)).setCell ⟨rv, 8, none⟩ (.int .i64 f.inc)).setCell ⟨rv, 9, none⟩ (.int .i64 f.dep)).setCell ⟨rv, 10, none⟩ (.int .i64 f.weight)).setCell ⟨rv, 11, none⟩ (.bool f.sole) = w2 ∧ (w2.cell? ⟨rx, 0, none⟩ = some u0 ∧ w2.frozen? ⟨rx, 0, none⟩ = false ∧ w2.cell? ⟨rx, 1, none⟩ = some u1 ∧ w2.frozen? ⟨rx, 1, none⟩ = false ∧ w2.cell? ⟨rx, 2, none⟩ = some u2 ∧ w2.frozen? ⟨rx, 2, none⟩ = false) ∧
    ∃ w', ((w2.setCell ⟨rx, 0, none⟩ (.bool x.is)).setCell ⟨rx, 1, none⟩ (.int .i64 x.code)).setCell ⟨rx, 2, none⟩ (.int .i64 x.stream) = w' ∧ Fb rv f sa sc w' ∧ w'.heap[rx]? = some (.cells #[.bool x.is, .int .i64 x.code, .int .i64 x.stream] 33 (0, 0)) ∧ Below B w0 w' ∧ ∀ k, k ≠ rv → k ≠ rx → w'.heap[k]? = w.heap[k]? := by
  obtain ⟨w2, h2, F2, B2, o2⟩ := fr_ret hB hv V f sa sc
  have X2 := (o2 rx hne).trans X
  obtain ⟨w3, h3, X3, B3⟩ := fa_ret B2 hx X2 (.bool x.is) (.int .i64 x.code) (.int .i64 x.stream)
  have o3 : ∀ k, k ≠ rx → w3.heap[k]? = w2.heap[k]? := fun k hk => by
    rw [← h3]
    exact (Below.heap_setCell _ ⟨rx, 2, none⟩ _ k hk).trans ((Below.heap_setCell _ ⟨rx, 1, none⟩ _ k hk).trans (Below.heap_setCell _ ⟨rx, 0, none⟩ _ k hk))
  exact ⟨w2, h2, ⟨cell_at X2 0, frozen_of_row _ _ 0 _ _ X2, cell_at X2 1, frozen_of_row _ _ 1 _ _ X2, cell_at X2 2, frozen_of_row _ _ 2 _ _ X2⟩, w3, h3, (o3 rv (fun e => hne e.symm)).trans F2, X3, B3, fun k h1 h2 => (o3 k h2).trans (o2 k h1)⟩

set_option maxRecDepth 100000 in
set_option maxHeartbeats 2000000 in
theorem take_r0 {Q : Exit → Act → World → Prop} {n cap : Nat} {ad : Option Addr} {most : Int}  (a : Act) (w : World) 
    (ha : Fr.Is 53 [(0, .slice ad n cap), (1, .int .i64 most)] a)
    (hQ : Hid (∀ a' , Fr.Is 53 [(0, .slice ad n cap), (1, .int .i64 most), (4, .pointer (some ⟨w.heap.size, 0, none⟩)), (6, .pointer (some ⟨w.heap.size + 1, 0, none⟩))] a' → Q .normal a' ((w.alloc (.cells #[.int .i64 0, .int .i64 0, .int .i64 0, .string ⟨#[]⟩, .int .i64 0, .slice none 0 0, .int .i64 0, .int .i64 0, .int .i64 0, .int .i64 0, .int .i64 0, .bool false] 24)).alloc (.cells #[.bool false, .int .i64 0, .int .i64 0] 33)))) :
    (Fr.reg Tryd.f14 0).wp Tryd.prog Q a w := by
  obtain ⟨fr, rfl, hfr⟩ := ha.lit
  simp only [List.map_cons, List.map_nil, List.cons.injEq, and_true] at hfr
  conv => arg 2; whnf
  simp only [List.range, List.range.loop, List.map_cons, List.map_nil, hfr]
  clear hfr ha
  go_wp2_with fail
  exact hQ.out _ (Fr.Is.mk rfl rfl)

set_option maxRecDepth 100000 in
set_option maxHeartbeats 2000000 in
theorem take_r1 {Q : Exit → Act → World → Prop} {rv rx n cap : Nat} {ad : Option Addr} {most : Int}  (a : Act) (w : World) 
    (ha : Fr.Is 53 [(0, .slice ad n cap), (1, .int .i64 most), (4, .pointer (some ⟨rv, 0, none⟩)), (6, .pointer (some ⟨rx, 0, none⟩))] a)
    (hQ : Hid (∀ a' , Fr.Is 53 [(0, .slice ad n cap), (1, .int .i64 most), (4, .pointer (some ⟨rv, 0, none⟩)), (6, .pointer (some ⟨rx, 0, none⟩)), (12, .bool (decide ((n : Int) < 9)))] a' → Q .normal a' w)) :
    (Fr.reg Tryd.f14 1).wp Tryd.prog Q a w := by
  obtain ⟨fr, rfl, hfr⟩ := ha.lit
  simp only [List.map_cons, List.map_nil, List.cons.injEq, and_true] at hfr
  conv => arg 2; whnf
  simp only [List.range, List.range.loop, List.map_cons, List.map_nil, hfr]
  clear hfr ha
  go_wp2_with fail
  exact hQ.out _ (Fr.Is.mk rfl rfl)

set_option maxRecDepth 100000 in
set_option maxHeartbeats 2000000 in
theorem take_r4 {Q : Exit → Act → World → Prop} {rv rx n cap fb : Nat} {ad : Option Addr} {most : Int} {N : Int} (a : Act) (w : World) 
    (ha : Fr.Is 53 [(0, .slice ad n cap), (1, .int .i64 most), (4, .pointer (some ⟨rv, 0, none⟩)), (6, .pointer (some ⟨rx, 0, none⟩)), (7, .pointer (some ⟨fb, 0, none⟩)), (8, .int .i64 N)] a)
    (hQ : Hid (∀ a' , Fr.Is 53 [(0, .slice ad n cap), (1, .int .i64 most), (4, .pointer (some ⟨rv, 0, none⟩)), (6, .pointer (some ⟨rx, 0, none⟩)), (7, .pointer (some ⟨fb, 0, none⟩)), (8, .int .i64 N), (22, .bool (decide (N > most)))] a' → Q .normal a' w)) :
    (Fr.reg Tryd.f14 4).wp Tryd.prog Q a w := by
  obtain ⟨fr, rfl, hfr⟩ := ha.lit
  simp only [List.map_cons, List.map_nil, List.cons.injEq, and_true] at hfr
  conv => arg 2; whnf
  simp only [List.range, List.range.loop, List.map_cons, List.map_nil, hfr]
  clear hfr ha
  go_wp2_with fail
  exact hQ.out _ (Fr.Is.mk rfl rfl)

set_option maxRecDepth 100000 in
set_option maxHeartbeats 2000000 in
theorem take_r6 {Q : Exit → Act → World → Prop} {rv rx n cap fb : Nat} {ad : Option Addr} {most : Int} {N : Int} (a : Act) (w : World) (h0 : 0 ≤ N) (h1 : N ≤ 16777215)
    (ha : Fr.Is 53 [(0, .slice ad n cap), (1, .int .i64 most), (4, .pointer (some ⟨rv, 0, none⟩)), (6, .pointer (some ⟨rx, 0, none⟩)), (7, .pointer (some ⟨fb, 0, none⟩)), (8, .int .i64 N)] a)
    (hQ : Hid (∀ a' , Fr.Is 53 [(0, .slice ad n cap), (1, .int .i64 most), (4, .pointer (some ⟨rv, 0, none⟩)), (6, .pointer (some ⟨rx, 0, none⟩)), (7, .pointer (some ⟨fb, 0, none⟩)), (8, .int .i64 (9 + N))] a' → Q .normal a' w)) :
    (Fr.reg Tryd.f14 6).wp Tryd.prog Q a w := by
  obtain ⟨fr, rfl, hfr⟩ := ha.lit
  simp only [List.map_cons, List.map_nil, List.cons.injEq, and_true] at hfr
  conv => arg 2; whnf
  simp only [List.range, List.range.loop, List.map_cons, List.map_nil, hfr]
  clear hfr ha
  have hw : IntKind.i64.wrap (N + 9) = 9 + N := by rw [IntWalk.i64_in _ (by omega)]; omega
  go_wp2_with fail
  exact hQ.out _ (Fr.Is.mk rfl (by simp [Int.add_comm]))

set_option maxRecDepth 100000 in
set_option maxHeartbeats 2000000 in
theorem take_r7 {Q : Exit → Act → World → Prop} {rv rx n cap fb : Nat} {ad : Option Addr} {most : Int} {N : Int} (a : Act) (w : World) 
    (ha : Fr.Is 53 [(0, .slice ad n cap), (1, .int .i64 most), (4, .pointer (some ⟨rv, 0, none⟩)), (6, .pointer (some ⟨rx, 0, none⟩)), (7, .pointer (some ⟨fb, 0, none⟩)), (8, .int .i64 (9 + N))] a)
    (hQ : Hid (∀ a' , Fr.Is 53 [(0, .slice ad n cap), (1, .int .i64 most), (4, .pointer (some ⟨rv, 0, none⟩)), (6, .pointer (some ⟨rx, 0, none⟩)), (7, .pointer (some ⟨fb, 0, none⟩)), (8, .int .i64 (9 + N)), (30, .bool (decide (9 + N > (n : Int))))] a' → Q .normal a' w)) :
    (Fr.reg Tryd.f14 7).wp Tryd.prog Q a w := by
  obtain ⟨fr, rfl, hfr⟩ := ha.lit
  simp only [List.map_cons, List.map_nil, List.cons.injEq, and_true] at hfr
  conv => arg 2; whnf
  simp only [List.range, List.range.loop, List.map_cons, List.map_nil, hfr]
  clear hfr ha
  go_wp2_with fail
  exact hQ.out _ (Fr.Is.mk rfl rfl)

set_option maxRecDepth 100000 in
set_option maxHeartbeats 4000000 in
theorem take_r2 {Q : Exit → Act → World → Prop} {rv rx n cap : Nat} {ad : Option Addr} {most : Int} {w0 : World} {B : Nat}  (a : Act) (w : World) (hB : Below B w0 w) (hv : B ≤ rv) (hx : B ≤ rx) (V : Fb rv noFr none 0 w) (X : w.heap[rx]? = some (Obj.cells #[.bool false, .int .i64 0, .int .i64 0] 33 (0, 0))) (hne : rx ≠ rv) 
    (ha : Fr.Is 53 [(0, .slice ad n cap), (1, .int .i64 most), (4, .pointer (some ⟨rv, 0, none⟩)), (6, .pointer (some ⟨rx, 0, none⟩))] a)
    (hQ : Hid (∀ a' w', Fr.Is 53 [(4, .pointer (some ⟨rv, 0, none⟩)), (5, .int .i64 0), (6, .pointer (some ⟨rx, 0, none⟩))] a' → Fb rv noFr none 0 w' → w'.heap[rx]? = some (Obj.cells #[.bool noFa.is, .int .i64 noFa.code, .int .i64 noFa.stream] 33 (0, 0)) → Below B w0 w' → (∀ k, k ≠ rv → k ≠ rx → w'.heap[k]? = w.heap[k]?) → Q .normal a' w')) :
    (Fr.reg Tryd.f14 2).wp Tryd.prog Q a w := by
  obtain ⟨fr, rfl, hfr⟩ := ha.lit
  simp only [List.map_cons, List.map_nil, List.cons.injEq, and_true] at hfr
  conv => arg 2; whnf
  simp only [List.range, List.range.loop, List.map_cons, List.map_nil, hfr]
  clear hfr ha
  obtain ⟨w2, h2, _, w3, h3, F3, X3, B3, o3⟩ := two_ret hB hv hx V X hne noFr none 0 noFa
  obtain ⟨c0, c1, c2, c3, c4, c5, c6, c7, c8, c9, c10, c11⟩ := fr_cells V
  have t0 := V.thaw 0
  have t1 := V.thaw 1
  have t2 := V.thaw 2
  have t3 := V.thaw 3
  have t4 := V.thaw 4
  have t5 := V.thaw 5
  have t6 := V.thaw 6
  have t7 := V.thaw 7
  have t8 := V.thaw 8
  have t9 := V.thaw 9
  have t10 := V.thaw 10
  have t11 := V.thaw 11
  subst h2
  subst h3
  have HE := Lib.hid (And.intro F3 (And.intro X3 (And.intro B3 o3)))
  obtain ⟨d0, d1, d2⟩ := fa_cells X
  have s0 := frozen_of_row _ _ 0 _ _ X
  have s1 := frozen_of_row _ _ 1 _ _ X
  have s2 := frozen_of_row _ _ 2 _ _ X
  have hne2 : rv ≠ rx := fun e => hne e.symm
  clear F3 X3 B3 o3 V X hB
  go_wp2_with fail
  exact hQ.out _ _ (Fr.Is.mk rfl rfl) HE.out.1 HE.out.2.1 HE.out.2.2.1 HE.out.2.2.2

set_option maxRecDepth 100000 in
set_option maxHeartbeats 4000000 in
theorem take_r8 {Q : Exit → Act → World → Prop} {rv rx n cap : Nat} {ad : Option Addr} {most : Int} {w0 : World} {B : Nat}  (a : Act) (w : World) (hB : Below B w0 w) (hv : B ≤ rv) (hx : B ≤ rx) (V : Fb rv noFr none 0 w) (X : w.heap[rx]? = some (Obj.cells #[.bool false, .int .i64 0, .int .i64 0] 33 (0, 0))) (hne : rx ≠ rv) 
    (ha : Fr.Is 53 [(0, .slice ad n cap), (1, .int .i64 most), (4, .pointer (some ⟨rv, 0, none⟩)), (6, .pointer (some ⟨rx, 0, none⟩))] a)
    (hQ : Hid (∀ a' w', Fr.Is 53 [(4, .pointer (some ⟨rv, 0, none⟩)), (5, .int .i64 0), (6, .pointer (some ⟨rx, 0, none⟩))] a' → Fb rv noFr none 0 w' → w'.heap[rx]? = some (Obj.cells #[.bool noFa.is, .int .i64 noFa.code, .int .i64 noFa.stream] 33 (0, 0)) → Below B w0 w' → (∀ k, k ≠ rv → k ≠ rx → w'.heap[k]? = w.heap[k]?) → Q .normal a' w')) :
    (Fr.reg Tryd.f14 8).wp Tryd.prog Q a w := by
  obtain ⟨fr, rfl, hfr⟩ := ha.lit
  simp only [List.map_cons, List.map_nil, List.cons.injEq, and_true] at hfr
  conv => arg 2; whnf
  simp only [List.range, List.range.loop, List.map_cons, List.map_nil, hfr]
  clear hfr ha
  obtain ⟨w2, h2, _, w3, h3, F3, X3, B3, o3⟩ := two_ret hB hv hx V X hne noFr none 0 noFa
  obtain ⟨c0, c1, c2, c3, c4, c5, c6, c7, c8, c9, c10, c11⟩ := fr_cells V
  have t0 := V.thaw 0
  have t1 := V.thaw 1
  have t2 := V.thaw 2
  have t3 := V.thaw 3
  have t4 := V.thaw 4
  have t5 := V.thaw 5
  have t6 := V.thaw 6
  have t7 := V.thaw 7
  have t8 := V.thaw 8
  have t9 := V.thaw 9
  have t10 := V.thaw 10
  have t11 := V.thaw 11
  subst h2
  subst h3
  have HE := Lib.hid (And.intro F3 (And.intro X3 (And.intro B3 o3)))
  obtain ⟨d0, d1, d2⟩ := fa_cells X
  have s0 := frozen_of_row _ _ 0 _ _ X
  have s1 := frozen_of_row _ _ 1 _ _ X
  have s2 := frozen_of_row _ _ 2 _ _ X
  have hne2 : rv ≠ rx := fun e => hne e.symm
  clear F3 X3 B3 o3 V X hB
  go_wp2_with fail
  exact hQ.out _ _ (Fr.Is.mk rfl rfl) HE.out.1 HE.out.2.1 HE.out.2.2.1 HE.out.2.2.2

end Go.Proofs.YtdilgkkkhmmffaaDoor
