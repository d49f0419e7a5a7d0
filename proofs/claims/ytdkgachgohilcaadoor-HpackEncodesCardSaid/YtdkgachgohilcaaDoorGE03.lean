/- Layer 5: what the law's calls do to a state of several things: the document's encoder. Layer 5: the round of HpackEncodes, where both encoders write and their rows are held against each other: over a frame of letters. -/
import Derived.Test.YtdkgachgohilcaaDoorGP25
import Derived.Test.YtdkgachgohilcaaDoorGE01
import Derived.Test.YtdkgachgohilcaaDoorGE02
import Derived.Test.YtdkgachgohilcaaDoorGP26
import Derived.RegionTactic
import Derived.IntWalk
import Derived.Deep.RegionHeld3
import Derived.Deep.RegionWith
set_option linter.unusedVariables false
set_option linter.unusedSimpArgs false
namespace Go.Proofs.YtdkgachgohilcaaDoor
open Go.RowKit
open Huf Pre Tab Hpk Arg Mem Gen Wr Go.Proofs.YtdkgachgohilcaaDoor.Obj Sx
set_option linter.unusedVariables false

/-- The document's encoder. -/
def REncP (F : List Nat) (g own told least m : Nat) (rows : List FdM) : World → Prop := fun w =>
  REnc w F g own told least m rows ∧ csum rows ≤ m ∧ m ≤ 65536 ∧ own ≤ 65536 ∧ told ≤ 65536 ∧ least ≤ 65536
theorem REncP.st {F : List Nat} {g own told least m : Nat} {rows : List FdM} : Stable F (REncP F g own told least m rows) := fun a b hs hb ⟨h, h1⟩ => ⟨GTab.kept h hs hb, h1⟩
section
variable {W w : World} {obs : List Th} {F : List Nat} {g own told least m md ld : Nat} {br : Bool} {rows : List FdM} {K : Nat}

theorem st_rnewenc (hS : Sts W w obs) (h : own ≤ 65536) :
    Calls Tryd.prog 19 #[.int .i64 own] w fun e w' => ∃ g F, e = .returned (.pointer (some ⟨g, 0, none⟩)) ∧ Sts W w' ((F, REncP F g own 4096 (min own 4096) (min own 4096) []) :: obs) := by
  refine (rnewenc_any own w).mono ?_; rintro e w' ⟨rfl, hE, hb⟩
  refine ⟨_, [w.heap.size], rfl, hS.add hb (fun k hk => ?_) REncP.st ⟨hE, by simp [csum], by omega, h, by omega, by omega⟩⟩
  have := GTab.blocks hE k hk
  simp only [List.mem_singleton] at hk
  omega
theorem st_rlimit (hS : Sts W w obs) (i : Nat) (hi : obs[i]? = some (F, REncP F g own told least m rows)) (n : Nat) :
    Calls Tryd.prog 21 #[.pointer (some ⟨g, 0, none⟩), .int .i64 n] w fun e w' => e = .returned (.tuple #[]) ∧ ∃ F', Sts W w' (obs.set i (F', REncP F' g own told (min least (min own n)) (min own n) (fit (min own n) rows))) := by
  obtain ⟨hE, h0, h1, h2, h3, h4⟩ := hS.is i hi
  refine (rlimit_any F g own told least m n rows w hE (by omega) (by omega)).mono ?_; rintro e w' ⟨rfl, L', hE', hk, hn⟩
  exact ⟨rfl, L', hS.turn hi hk hn (GTab.blocks hE') REncP.st ⟨hE', fit_sum _ _, by omega, h2, h3, by omega⟩⟩

theorem st_rencode (hS : Sts W w obs) (i : Nat) (hi : obs[i]? = some (F, REncP F g own told least m rows)) (la : Option Addr) (list : List FdM) (lcap : Nat) (hl : Rw.RowE EFd w la list) (hla : list ≠ [] → ∀ b o s, la = some ⟨b, o, s⟩ → b ∉ F) (hsum : csum list ≤ 1048576) :
    Calls Tryd.prog 23 #[.pointer (some ⟨g, 0, none⟩), .slice la list.length lcap] w fun e w' => ∃ oa oc F', e = .returned (.slice oa (hdr told least m ++ (encList m list rows).1).length oc) ∧
      Sts W w' ((blk oa, RowP EBy oa oc (hdr told least m ++ (encList m list rows).1)) :: obs.set i (F', REncP F' g own m m m (encList m list rows).2)) := by
  obtain ⟨hE, h0, h1, h2, h3, h4⟩ := hS.is i hi
  refine (rhencode_any hE ⟨h0, h1⟩ h3 h4 la list lcap hl (fun b o s e hne => hla hne b o s e) (fun f hf => ?_) (by omega)).mono ?_
  · have := csum_mem hf; omega
  rintro e w' ⟨L', oa, oc, rfl, hD⟩
  refine ⟨oa, oc, L', rfl, hS.turnAdd hi hD.kept hD.new (GTab.blocks hD.enc) REncP.st ⟨hD.enc, hD.sum.1, hD.sum.2, h2, h1, h1⟩ (fun k hk' => ?_) RowP.st hD.out.row⟩
  obtain ⟨o, s, e⟩ := mem_blk hk'
  have h5 := hD.out.apart k o s e
  exact ⟨.inr h5.1, h5.2, hD.out.lt k o s e⟩

end

/-- The rows of the document's encoder. -/
theorem renc_rows {w : World} {F : List Nat} {g own told least m : Nat} {rows : List FdM} (h : REncP F g own told least m rows w) :
    ∃ adr capr, w.cell? ⟨g, 4, none⟩ = some (.slice adr rows.length capr) ∧ rows.length ≤ capr ∧ Rw.RowE EFd w adr rows ∧ rows.length ≤ 2048 := by
  obtain ⟨adr, capr, _, hh, hl1, _, _, _, hr1, _⟩ := h.1
  have h32 := csum_len rows
  have h1 := h.2.1
  have h2 := h.2.2.1
  exact ⟨adr, capr, (cell_at hh 4).trans (put2_1 (by simp) _ _), hl1, hr1, by omega⟩
end Go.Proofs.YtdkgachgohilcaaDoor

namespace Go.Proofs.YtdkgachgohilcaaDoor
open Go.RowKit
open Huf Pre Tab Hpk Arg Mem Gen Wr Go.Proofs.YtdkgachgohilcaaDoor.Obj Sx
set_option linter.unusedVariables false

/-- What is held may be more from here on. -/
theorem anyH_mono {P : Program} {md : Region.Mode} {ops : Array Oper} {Q : Exit → Act → World → Prop} {S S2 : World → Prop} (h : ∀ w, S2 w → S w) : ∀ (fuel : Nat) (listed : Array Bool) (a : Act) (w : World), wpAnyH P md ops Q S2 fuel listed a w → wpAnyH P md ops Q S fuel listed a w
  | 0, _, _, _, hh => hh
  | fuel + 1, _, _, _, hh => ⟨hh.1, fun i hi => wpOp_mono (fun a' w' h' => ⟨h w' h'.1, anyH_mono h fuel _ a' w' h'.2⟩) (hh.2 i hi)⟩

set_option maxRecDepth 100000 in
set_option maxHeartbeats 4000000 in
theorem law_r19 {Q : Exit → Act → World → Prop} {W : World} {ge gr bx own told least m K dc : Nat} {ds : Bool} {dn : Int} {da : Option Addr} {dl rows : List FdM} {FR FE : List Nat} {x0 x1 x2 x3 x4 x6 x8 x10 x11 x12 x13 x14 x15 x16 x17 x18 x19 x20 x21 x22 x23 x24 x25 x26 x27 x28 x29 x30 x31 x32 x33 x34 x35 x36 x37 x38 x39 x40 x41 x42 x43 x44 x45 x46 x47 x48 x49 x50 x51 x52 x53 x54 x55 x56 x57 x58 x59 x60 x61 x62 x63 x64 x65 x66 x67 x68 x69 x70 x71 x72 x73 x74 x75 x76 x77 x78 x79 x80 x81 x82 x83 x84 x85 x86 x87 x88 x89 x90 x91 x92 x93 x94 x95 x96 x97 : Value} (v : World) (HG : Hid (GrpIs W))
    (hs0 : Sts W v [([bx], BlkP bx (.cells #[.bool ds, .int .i64 dn, .slice da dl.length dc] 50 (0, 0))), (FR, REncP FR gr own told least m rows), (FE, EncP FE ge own told least m rows K)])
    (HRl : Hid (Rw.RowE EFd W da dl)) (hd3 : dl.length ≤ dc) (hd4 : dc ≤ 3518437208780) (hcs1 : csum dl ≤ 1048576) (hKb : K + dl.length < 1000000)
    (hQ : Hid (∀ (u77 u78 u79 u80 u81 u82 u83 u84 u85 u86 u87 u88 u89 u90 u91 u92 u93 u94 u95 u96 : Value) (v' : World) (Fr2 Fe2 : List Nat), Sts W v' [(Fr2, REncP Fr2 gr own m m m (encList m dl rows).2), (Fe2, EncP Fe2 ge own m m m (encList m dl rows).2 (K + dl.length))] → Q .normal ⟨(x0 :: x1 :: x2 :: x3 :: x4 :: (.pointer (some ⟨ge, 0, none⟩) : Value) :: x6 :: (.pointer (some ⟨gr, 0, none⟩) : Value) :: x8 :: (.pointer (some ⟨bx, 0, none⟩) : Value) :: x10 :: x11 :: x12 :: x13 :: x14 :: x15 :: x16 :: x17 :: x18 :: x19 :: x20 :: x21 :: x22 :: x23 :: x24 :: x25 :: x26 :: x27 :: x28 :: x29 :: x30 :: x31 :: x32 :: x33 :: x34 :: x35 :: x36 :: x37 :: x38 :: x39 :: x40 :: x41 :: x42 :: x43 :: x44 :: x45 :: x46 :: x47 :: x48 :: x49 :: x50 :: x51 :: x52 :: x53 :: x54 :: x55 :: x56 :: x57 :: x58 :: x59 :: x60 :: x61 :: x62 :: x63 :: x64 :: x65 :: x66 :: x67 :: x68 :: x69 :: x70 :: x71 :: x72 :: x73 :: x74 :: x75 :: x76 :: (u77 : Value) :: (u78 : Value) :: (u79 : Value) :: (u80 : Value) :: (u81 : Value) :: (u82 : Value) :: (u83 : Value) :: (u84 : Value) :: (u85 : Value) :: (u86 : Value) :: (u87 : Value) :: (u88 : Value) :: (u89 : Value) :: (u90 : Value) :: (u91 : Value) :: (u92 : Value) :: (u93 : Value) :: (u94 : Value) :: (u95 : Value) :: (u96 : Value) :: (.bool false : Value) :: []).toArray, []⟩ v')) :
    (Fr.reg Tryd.f4 19).wp Tryd.prog Q ⟨(x0 :: x1 :: x2 :: x3 :: x4 :: (.pointer (some ⟨ge, 0, none⟩) : Value) :: x6 :: (.pointer (some ⟨gr, 0, none⟩) : Value) :: x8 :: (.pointer (some ⟨bx, 0, none⟩) : Value) :: x10 :: x11 :: x12 :: x13 :: x14 :: x15 :: x16 :: x17 :: x18 :: x19 :: x20 :: x21 :: x22 :: x23 :: x24 :: x25 :: x26 :: x27 :: x28 :: x29 :: x30 :: x31 :: x32 :: x33 :: x34 :: x35 :: x36 :: x37 :: x38 :: x39 :: x40 :: x41 :: x42 :: x43 :: x44 :: x45 :: x46 :: x47 :: x48 :: x49 :: x50 :: x51 :: x52 :: x53 :: x54 :: x55 :: x56 :: x57 :: x58 :: x59 :: x60 :: x61 :: x62 :: x63 :: x64 :: x65 :: x66 :: x67 :: x68 :: x69 :: x70 :: x71 :: x72 :: x73 :: x74 :: x75 :: x76 :: x77 :: x78 :: x79 :: x80 :: x81 :: x82 :: x83 :: x84 :: x85 :: x86 :: x87 :: x88 :: x89 :: x90 :: x91 :: x92 :: x93 :: x94 :: x95 :: x96 :: x97 :: []).toArray, []⟩ v := by
  conv => arg 2; whnf
  refine wp_region_noPanic ?_
  obtain ⟨B, hB⟩ : ∃ B, B = hdr told least m ++ (encList m dl rows).1 := ⟨_, rfl⟩
  obtain ⟨rows2, hrows2⟩ : ∃ x, x = (encList m dl rows).2 := ⟨_, rfl⟩
  have HEn : Hid (∀ v, Sts W v [([bx], BlkP bx (.cells #[.bool ds, .int .i64 dn, .slice da dl.length dc] 50 (0, 0))), (FR, REncP FR gr own told least m rows), (FE, EncP FE ge own told least m rows K)] → Calls Tryd.prog 22 #[.pointer (some ⟨ge, 0, none⟩), .slice da dl.length dc] v fun e w' => ∃ oa oc F', e = .returned (.slice oa B.length oc) ∧ Sts W w' [(blk oa, RowP EBy oa oc B), ([bx], BlkP bx (.cells #[.bool ds, .int .i64 dn, .slice da dl.length dc] 50 (0, 0))), (FR, REncP FR gr own told least m rows), (F', EncP F' ge own m m m rows2 (K + dl.length))]) := Lib.hid (fun v hv => by
    have h := st_encode hv 2 rfl HG.out da dl dc (HRl.out.below hv.bel) (st_old hv 2 rfl HRl.out fd_some) hd3 (by unfold maxLen; omega) hcs1 hKb
    rw [← hB, ← hrows2] at h
    exact h)
  have HRe : Hid (∀ v oa oc F', Sts W v [(blk oa, RowP EBy oa oc B), ([bx], BlkP bx (.cells #[.bool ds, .int .i64 dn, .slice da dl.length dc] 50 (0, 0))), (FR, REncP FR gr own told least m rows), (F', EncP F' ge own m m m rows2 (K + dl.length))] → Calls Tryd.prog 23 #[.pointer (some ⟨gr, 0, none⟩), .slice da dl.length dc] v fun e w' => ∃ ob oc2 F2, e = .returned (.slice ob B.length oc2) ∧ Sts W w' [(blk ob, RowP EBy ob oc2 B), (blk oa, RowP EBy oa oc B), ([bx], BlkP bx (.cells #[.bool ds, .int .i64 dn, .slice da dl.length dc] 50 (0, 0))), (F2, REncP F2 gr own m m m rows2), (F', EncP F' ge own m m m rows2 (K + dl.length))]) := Lib.hid (fun v oa oc F' hv => by
    have h := st_rencode hv 2 rfl da dl dc (HRl.out.below hv.bel) (st_old hv 2 rfl HRl.out fd_some) hcs1
    rw [← hB, ← hrows2] at h
    exact h)
  have HBb : Hid (∀ v oa oc ob oc2, Rw.QRow EBy v oa oc B → Rw.QRow EBy v ob oc2 B → Calls Tryd.prog 15 #[.slice oa B.length oc, .slice ob B.length oc2] v fun e w' => e = .returned (.bool true) ∧ v = w') := Lib.hid (fun v oa oc ob oc2 h1 h2 => by
    have h := bytes_any oa ob B B oc oc2 v (rb_of_q h1.row) (rb_of_q h2.row)
    rwa [decide_eq_true rfl] at h)
  have HEr : Hid (∀ v F', EncP F' ge own m m m rows2 (K + dl.length) v → Calls Tryd.prog 24 #[.pointer (some ⟨ge, 0, none⟩)] v fun e w' => ∃ b, e = .returned (.slice (some ⟨b, 0, none⟩) rows2.length rows2.length) ∧ Rw.RowE EFd w' (some ⟨b, 0, none⟩) rows2 ∧ Below v.heap.size v w') := Lib.hid (fun v F' hv => by
    obtain ⟨t, L, c, _, hE, _⟩ := hv
    exact (perows_any hE).mono fun e w' ⟨b, h1, _, h2, h3⟩ => ⟨b, h1, h2.row, h3⟩)
  have HFo : Hid (∀ v b adr capr, rows2.length ≤ capr → rows2.length ≤ 2048 → Rw.RowE EFd v (some ⟨b, 0, none⟩) rows2 → Rw.RowE EFd v adr rows2 → Calls Tryd.prog 14 #[.slice (some ⟨b, 0, none⟩) rows2.length rows2.length, .slice adr rows2.length capr] v fun e w' => e = .returned (.bool true) ∧ Below v.heap.size v w') := Lib.hid (fun v b adr capr h1 h2 h3 h4 => by
    have h := rfields_any (some ⟨b, 0, none⟩) adr rows2 rows2 rows2.length capr v h3 h4 (Nat.le_refl _) h1 (by omega) (by omega)
    rwa [decide_eq_true rfl] at h)
  rw [← hrows2] at hQ
  clear hB hrows2 HRl hcs1 hKb hd3 hd4
  have hs : Sts W v.drew [([bx], BlkP bx (.cells #[.bool ds, .int .i64 dn, .slice da dl.length dc] 50 (0, 0))), (FR, REncP FR gr own told least m rows), (FE, EncP FE ge own told least m rows K)] := hs0.below (Below.refl _ _).drew
  have x2 : v.drew.cell? ⟨bx, 2, none⟩ = some (.slice da dl.length dc) := cell_at (hs.is 0 rfl : BlkP _ _ _) 2
  clear hs0
  refine wp_region_held_drew (S := fun w' => w'.cell? ⟨bx, 2, none⟩ = some (.slice da dl.length dc)) (by kernel_rfl) x2 (fun hHeld => ?_)
  refine wpAnyH_take (i := 0) (oi := _) (v := ?_) rfl (by kernel_rfl) (by kernel_rfl) (by kernel_rfl) (fun _ _ _ h => h) (Or.inl ⟨by rfl, ?_⟩) (by assumption) ?_
  rotate_left 1
  · intro w hSw
    try dsimp only at hSw
    first | (go_simp; done) | (go_simp; with_reducible rfl)
  try simp only [Act.put, List.setIfInBounds_toArray, List.set_cons_zero, List.set_cons_succ]
  refine wpAnyH_take (i := 1) (oi := _) (v := ?_) rfl (by kernel_rfl) (by kernel_rfl) (by kernel_rfl) (fun _ _ _ h => h) (Or.inl ⟨by rfl, ?_⟩) (by assumption) ?_
  rotate_left 1
  · intro w hSw
    try dsimp only at hSw
    first | (go_simp; done) | (go_simp; with_reducible rfl)
  try simp only [Act.put, List.setIfInBounds_toArray, List.set_cons_zero, List.set_cons_succ]
  refine wpAnyH_take (i := 2) (oi := _) (v := ?_) rfl (by kernel_rfl) (by kernel_rfl) (by kernel_rfl) (fun _ _ _ h => h) (Or.inl ⟨by rfl, ?_⟩) (by assumption) ?_
  rotate_left 1
  · intro w hSw
    try dsimp only at hSw
    first | (go_simp; done) | (go_simp; with_reducible rfl)
  try simp only [Act.put, List.setIfInBounds_toArray, List.set_cons_zero, List.set_cons_succ]
  refine wpAnyH_take (i := 4) (oi := _) (v := ?_) rfl (by kernel_rfl) (by kernel_rfl) (by kernel_rfl) (fun _ _ _ h => h) (Or.inl ⟨by rfl, ?_⟩) (by assumption) ?_
  rotate_left 1
  · intro w hSw
    try dsimp only at hSw
    first | (go_simp; done) | (go_simp; with_reducible rfl)
  try simp only [Act.put, List.setIfInBounds_toArray, List.set_cons_zero, List.set_cons_succ]
  refine wpAnyH_take (i := 5) (oi := _) (v := ?_) rfl (by kernel_rfl) (by kernel_rfl) (by kernel_rfl) (fun _ _ _ h => h) (Or.inl ⟨by rfl, ?_⟩) (by assumption) ?_
  rotate_left 1
  · intro w hSw
    try dsimp only at hSw
    first | (go_simp; done) | (go_simp; with_reducible rfl)
  try simp only [Act.put, List.setIfInBounds_toArray, List.set_cons_zero, List.set_cons_succ]
  refine wpAnyH_take (i := 6) (oi := _) (v := ?_) rfl (by kernel_rfl) (by kernel_rfl) (by kernel_rfl) (fun _ _ _ h => h) (Or.inl ⟨by rfl, ?_⟩) (by assumption) ?_
  rotate_left 1
  · intro w hSw
    try dsimp only at hSw
    first | (go_simp; done) | (go_simp; with_reducible rfl)
  try simp only [Act.put, List.setIfInBounds_toArray, List.set_cons_zero, List.set_cons_succ]
  refine wpAnyH_ready (rs := [3]) (by kernel_rfl) (by simp) ?_
  refine AllReadyH.cons (o := _) rfl (fun K' hK' => ?_) AllReadyH.nil
  go_simp
  refine (HEn.out _ hs).mono ?_; rintro e y1 ⟨oa, oc, Fe2, rfl, hs1⟩
  refine hK'.out _ _ ?_ (fun hHeld => ?_)
  · exact cell_at (hs1.is 1 rfl : BlkP _ _ _) 2
  clear hK' K'
  try simp only [Act.put, List.setIfInBounds_toArray, List.set_cons_zero, List.set_cons_succ]
  refine wpAnyH_ready (rs := [7]) (by kernel_rfl) (by simp) ?_
  refine AllReadyH.cons (o := _) rfl (fun K' hK' => ?_) AllReadyH.nil
  go_simp
  refine (HRe.out _ _ _ _ hs1).mono ?_; rintro e y2 ⟨ob, oc2, Fr2, rfl, hs2⟩
  refine hK'.out _ _ ?_ (fun hHeld => ?_)
  · exact cell_at (hs2.is 2 rfl : BlkP _ _ _) 2
  clear hK' K'
  try simp only [Act.put, List.setIfInBounds_toArray, List.set_cons_zero, List.set_cons_succ]
  refine wpAnyH_ready (rs := [8]) (by kernel_rfl) (by simp) ?_
  refine AllReadyH.cons (o := _) rfl (fun K' hK' => ?_) AllReadyH.nil
  go_simp
  refine (HBb.out _ _ _ _ _ (hs2.is 1 rfl) (hs2.is 0 rfl)).mono ?_; rintro e y ⟨rfl, rfl⟩
  refine hK'.out _ _ ?_ (fun hHeld => ?_)
  · exact cell_at (hs2.is 2 rfl : BlkP _ _ _) 2
  clear hK' K'
  try simp only [Act.put, List.setIfInBounds_toArray, List.set_cons_zero, List.set_cons_succ]
  obtain ⟨adr, capr, h42, hcapr, hrw2, hr2k⟩ := renc_rows (hs2.is 3 rfl)
  refine anyH_mono (S2 := fun w' => w'.cell? ⟨bx, 2, none⟩ = some (.slice da dl.length dc) ∧ w'.cell? ⟨gr, 4, none⟩ = some (.slice adr rows2.length capr)) (fun w' h => h.1) _ _ _ _ ?_
  have hHeld2 := And.intro hHeld h42
  refine wpAnyH_take (i := 9) (oi := _) (v := ?_) rfl (by kernel_rfl) (by kernel_rfl) (by kernel_rfl) (fun _ _ _ h => h) (Or.inl ⟨by rfl, ?_⟩) hHeld2 ?_
  rotate_left 1
  · intro w hSw
    try dsimp only at hSw
    first | (go_simp; done) | (go_simp; with_reducible rfl)
  try simp only [Act.put, List.setIfInBounds_toArray, List.set_cons_zero, List.set_cons_succ]
  refine wpAnyH_take (i := 10) (oi := _) (v := ?_) rfl (by kernel_rfl) (by kernel_rfl) (by kernel_rfl) (fun _ _ _ h => h) (Or.inl ⟨by rfl, ?_⟩) hHeld2 ?_
  rotate_left 1
  · intro w hSw
    try dsimp only at hSw
    first | (go_simp; done) | (go_simp; with_reducible rfl)
  try simp only [Act.put, List.setIfInBounds_toArray, List.set_cons_zero, List.set_cons_succ]
  refine wpAnyH_take (i := 11) (oi := _) (v := ?_) rfl (by kernel_rfl) (by kernel_rfl) (by kernel_rfl) (fun _ _ _ h => h) (Or.inl ⟨by rfl, ?_⟩) hHeld2 ?_
  rotate_left 1
  · intro w hSw
    try dsimp only at hSw
    first | (go_simp; done) | (go_simp; with_reducible rfl)
  try simp only [Act.put, List.setIfInBounds_toArray, List.set_cons_zero, List.set_cons_succ]
  refine wpAnyH_take (i := 13) (oi := _) (v := ?_) rfl (by kernel_rfl) (by kernel_rfl) (by kernel_rfl) (fun _ _ _ h => h) (Or.inl ⟨by rfl, ?_⟩) hHeld2 ?_
  rotate_left 1
  · intro w hSw
    try dsimp only at hSw
    first | (go_simp; done) | (go_simp; with_reducible rfl)
  try simp only [Act.put, List.setIfInBounds_toArray, List.set_cons_zero, List.set_cons_succ]
  refine wpAnyH_take (i := 14) (oi := _) (v := ?_) rfl (by kernel_rfl) (by kernel_rfl) (by kernel_rfl) (fun _ _ _ h => h) (Or.inl ⟨by rfl, ?_⟩) hHeld2 ?_
  rotate_left 1
  · intro w hSw
    try dsimp only at hSw
    first | (go_simp; done) | (go_simp; with_reducible rfl)
  try simp only [Act.put, List.setIfInBounds_toArray, List.set_cons_zero, List.set_cons_succ]
  refine wpAnyH_take (i := 15) (oi := _) (v := ?_) rfl (by kernel_rfl) (by kernel_rfl) (by kernel_rfl) (fun _ _ _ h => h) (Or.inl ⟨by rfl, ?_⟩) hHeld2 ?_
  rotate_left 1
  · intro w hSw
    try dsimp only at hSw
    first | (go_simp; done) | (go_simp; with_reducible rfl)
  try simp only [Act.put, List.setIfInBounds_toArray, List.set_cons_zero, List.set_cons_succ]
  refine wpAnyH_take (i := 16) (oi := _) (v := ?_) rfl (by kernel_rfl) (by kernel_rfl) (by kernel_rfl) (fun _ _ _ h => h) (Or.inl ⟨by rfl, ?_⟩) hHeld2 ?_
  rotate_left 1
  · intro w hSw
    try dsimp only at hSw
    first | (go_simp; done) | (go_simp; with_reducible rfl)
  try simp only [Act.put, List.setIfInBounds_toArray, List.set_cons_zero, List.set_cons_succ]
  refine wpAnyH_take (i := 17) (oi := _) (v := ?_) rfl (by kernel_rfl) (by kernel_rfl) (by kernel_rfl) (fun _ _ _ h => h) (Or.inl ⟨by rfl, ?_⟩) hHeld2 ?_
  rotate_left 1
  · intro w hSw
    try dsimp only at hSw
    first | (go_simp; done) | (go_simp; with_reducible rfl)
  try simp only [Act.put, List.setIfInBounds_toArray, List.set_cons_zero, List.set_cons_succ]
  refine wpAnyH_ready (rs := [12]) (by kernel_rfl) (by simp) ?_
  refine AllReadyH.cons (o := _) rfl (fun K' hK' => ?_) AllReadyH.nil
  go_simp
  refine (HEr.out _ _ (hs2.is 4 rfl)).mono ?_; rintro e y3 ⟨bq, rfl, hq3, bx3⟩; have hrw3 := hrw2.below bx3; have hs3 := hs2.below bx3
  refine hK'.out _ _ ?_ (fun hHeld3 => ?_)
  · exact ⟨below_cell bx3 hHeld2.1, below_cell bx3 hHeld2.2⟩
  clear hK' K'
  try simp only [Act.put, List.setIfInBounds_toArray, List.set_cons_zero, List.set_cons_succ]
  refine wpAnyH_ready (rs := [18]) (by kernel_rfl) (by simp) ?_
  refine AllReadyH.cons (o := _) rfl (fun K' hK' => ?_) AllReadyH.nil
  go_simp
  refine (HFo.out _ _ _ _ hcapr hr2k hq3 hrw3).mono ?_; rintro e y4 ⟨rfl, bx4⟩; have hs4 := hs3.below bx4
  refine hK'.out _ _ ?_ (fun hHeld4 => ?_)
  · exact ⟨below_cell bx4 hHeld3.1, below_cell bx4 hHeld3.2⟩
  clear hK' K'
  try simp only [Act.put, List.setIfInBounds_toArray, List.set_cons_zero, List.set_cons_succ]
  refine wpAnyH_take (i := 19) (oi := _) (v := ?_) rfl (by kernel_rfl) (by kernel_rfl) (by kernel_rfl) (fun _ _ _ h => h) (Or.inl ⟨by rfl, ?_⟩) hHeld4 ?_
  rotate_left 1
  · intro w hSw
    try dsimp only at hSw
    first | (go_simp; done) | (go_simp; with_reducible rfl)
  try simp only [Act.put, List.setIfInBounds_toArray, List.set_cons_zero, List.set_cons_succ]
  refine wpAnyH_take (i := 20) (oi := _) (v := ?_) rfl (by kernel_rfl) (by kernel_rfl) (by kernel_rfl) (fun _ _ _ h => h) (Or.inl ⟨by rfl, ?_⟩) hHeld4 ?_
  rotate_left 1
  · intro w hSw
    try dsimp only at hSw
    first | (go_simp; done) | (go_simp; with_reducible rfl)
  try simp only [Act.put, List.setIfInBounds_toArray, List.set_cons_zero, List.set_cons_succ]
  refine wpAnyH_done (by kernel_rfl) ?_ _
  exact NoPanic.normal (hQ.out _ _ _ _ _ _ _ _ _ _ _ _ _ _ _ _ _ _ _ _ _ _ _ hs4.tail.tail.tail)
end Go.Proofs.YtdkgachgohilcaaDoor
