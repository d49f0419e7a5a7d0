/- Layer 1: the program's Put and Take of numbers as bytes, alone. Layer 6 without the program: frames as bytes, and what is wrong with bytes that come as frames. Layer 6: the bits of flags and of numbers of 31 bits. Layer 6 without the program: what is written is taken as it was; what stands behind changes nothing; no beginning is a frame. Layer 6 without the program: a frame that may be written is read as it was. Layer 6 without the program: the highest bits that aren't looked at. Several things in memory, each with the blocks that it lies in, apart from each other and from all that was there at first. Layer 6: a frame as a value, its settings in a row. -/
import Derived.Test.YtdilgkkkhmmffaaDoorGP02
import Derived.Laws.BitsAllLaws
import Derived.Test.YtdilgkkkhmmffaaDoorGP01
set_option linter.unusedVariables false
set_option linter.unusedSimpArgs false
namespace Go.Proofs.YtdilgkkkhmmffaaDoor
open Go.RowKit
open Oct Mem Gen
set_option linter.unusedVariables false
set_option linter.unusedSimpArgs false

set_option maxHeartbeats 400000 in
theorem sized_yes (n : Int) (w : World) (h1 : 1 ≤ n) (h4 : n ≤ 4) :
    Calls Tryd.prog 56 #[.int .i64 n] w fun e w' => e = .returned (.bool true) ∧ w = w' := by
  go_enter Tryd.func56, Tryd.ntmps56
  go_wp2
  go_ret
  exact ⟨by simp, rfl⟩

set_option maxHeartbeats 400000 in
theorem sized_no (n : Int) (w : World) (h : n < 1 ∨ 4 < n) :
    Calls Tryd.prog 56 #[.int .i64 n] w fun e w' => e = .returned (.bool false) ∧ w = w' := by
  by_cases h1 : 1 ≤ n
  · have h4 : 4 < n := by omega
    clear h
    go_enter Tryd.func56, Tryd.ntmps56
    go_wp2
    go_ret
    exact ⟨by simp; omega, rfl⟩
  · have h2 : decide (1 ≤ n) = false := by simpa using h1
    clear h
    go_enter Tryd.func56, Tryd.ntmps56
    go_wp2
    go_ret
    exact ⟨rfl, rfl⟩

set_option maxHeartbeats 1000000 in
theorem put_yes (n : Int) (s : Nat) (w : World) (hn0 : 0 ≤ n) (hn1 : n < 4294967296) (h1 : 1 ≤ s) (h4 : s ≤ 4) :
    Calls Tryd.prog 52 #[.int .u32 n, .int .i64 s] w (MadeB w (putL n s)) := by
  obtain ⟨i0, hi, hz0, hz1, hz2⟩ := info_parts info_u8
  obtain ⟨w1, hmk, hown, hgrow⟩ := run_make_full (P := Tryd.prog) w w.heap.size 27 5 i0 (.int .u8 0) 1 Tryd.underlying27 hi hz0 hz1 .i64 .i64 s (by rw [hz2]; omega) (by unfold maxLen; omega) (Nat.le_refl _)
  have hrow : (madeCells (Value.int .u8 0).cells (s * 1)).toList = bvs (List.replicate s 0) := by
    rw [Nat.mul_one]; unfold Value.cells; rw [toList_madeCells_one]; simp [bvs]
  rw [hrow] at hown
  have Hown := Lib.hid hown
  have hb1 : Below w.heap.size w w1 := (Below.refl _ _).grown hgrow (Nat.le_refl _) (by simp)
  clear hown hgrow hrow hi hz0 hz1 hz2
  have hs4 : (s : Int) ≤ 4 := by omega
  go_enter Tryd.func52, Tryd.ntmps52
  go_wp2_with (go_at_call 56; refine (sized_yes _ _ (by omega) (by omega)).mono ?_; rintro e w' ⟨rfl, rfl⟩)
  go_loopw [6, 13] (fun _ i wr => ∃ (k : Nat) (ys : List UInt8), k ≤ s ∧ i = .int .i64 k ∧ Hid (ys.length = s ∧ ys.drop (s - k) = (putL n s).drop (s - k)) ∧ Hid (wr.ownsRow w.heap.size 5 1 (.slice (some ⟨w.heap.size, 0, none⟩) s s) s (bvs ys)) ∧ Below w.heap.size w wr) (fun _ i _ => s - (intOf i).toNat)
  case atStart => exact ⟨0, _, Nat.zero_le _, rfl, Lib.hid ⟨by simp, by rw [List.drop_of_length_le (by simp), List.drop_of_length_le (by rw [putL_length]; omega)]⟩, Hown, hb1⟩
  case round =>
    obtain ⟨k, ys, hk, rfl, HY, HO, hbel⟩ := hrel
    by_cases hlt : k < s
    · have hcell : ∃ q, wr.cell? ⟨w.heap.size, s - 1 - k, none⟩ = some q := by
        refine ⟨_, (HO.out.cellAt (s - 1 - k) (by omega)).trans (bvs_at ys (s - 1 - k) (by have := HY.out.1; omega))⟩
      obtain ⟨q, hcell⟩ := hcell
      have hfz := HO.out.frozenAt (s - 1 - k)
      go_wp2_with fail
      go_roundw
      case rel =>
        refine ⟨k + 1, ys.set (s - 1 - k) (byteAt n k), by omega, by go_num, Lib.hid ⟨by simpa using HY.out.1, ?_⟩, ?_, ?_⟩
        · have hl := HY.out.1
          rw [show s - (k + 1) = s - 1 - k from by omega, drop_set_here _ _ _ (by omega), putL_drop n s k hlt, show s - 1 - k + 1 = s - k from by omega, HY.out.2]
        · have h := (HO.out.stored (s - 1 - k) (.int .u8 ((byteAt n k).toNat : Int))).1
          rw [bvs_set, byteAt_val] at h
          exact Lib.hid h
        · exact hbel.setCell (Nat.le_refl _) _
      case measure => simp [intOf]; omega
    · have hks : s - k = 0 := by omega
      have hfin : ys = putL n s := by
        have h := HY.out.2
        rwa [hks, List.drop_zero, List.drop_zero] at h
      have HR := Lib.hid hfin
      clear HY hfin hks
      go_wp2_with fail
      go_ret
      refine ⟨some ⟨w.heap.size, 0, none⟩, s, by rw [putL_length]; rfl, ?_, hbel⟩
      have h := HO.out
      rw [HR.out] at h
      rw [putL_length]; exact Lib.hid h

set_option maxHeartbeats 400000 in
theorem put_no (n s : Int) (w : World) (h : s < 1 ∨ 4 < s) :
    Calls Tryd.prog 52 #[.int .u32 n, .int .i64 s] w (MadeB w []) := by
  have H := Lib.hid h
  clear h
  go_enter Tryd.func52, Tryd.ntmps52
  go_wp2_with (go_at_call 56; refine (sized_no _ _ H.out).mono ?_; rintro e w' ⟨rfl, rfl⟩)
  go_ret
  exact ⟨none, 0, rfl, Lib.hid (World.ownsRow_nil _ _ _ _), Below.refl _ _⟩

theorem or8 (n c : Int) (h0 : 0 ≤ n) (h1 : n < 16777216) (c0 : 0 ≤ c) (c1 : c < 256) : bits .or .u32 (n * 256) c = n * 256 + c := by
  rw [u32_or _ _ (by omega) (by omega) c0 (by omega), nat_join 8 _ _ (by omega) (by omega)]
  omega

set_option maxHeartbeats 1000000 in
theorem take_any (a : Option Addr) (l : List UInt8) (cap : Nat) (p s : Int) (w : World) (hl : l.length ≤ maxLen) (hr : RB w a l) (hp0 : -9223372036854775808 ≤ p) (hp1 : p ≤ 9223372036854775807) :
    Calls Tryd.prog 53 #[.slice a l.length cap, .int .i64 p, .int .i64 s] w fun e w' => e = .returned (.tuple #[.int .u32 (takeV l p s), .int .i64 (takeE l p s)]) ∧ w = w' := by
  unfold maxLen at hl
  by_cases hs : s < 1 ∨ 4 < s
  · have hv : takeV l p s = 0 := by rw [takeV, if_pos (by omega)]
    have he : takeE l p s = 1 := by rw [takeE, if_pos (by omega)]
    rw [hv, he]
    clear hv he hr
    have H := Lib.hid hs
    clear hs
    go_enter Tryd.func53, Tryd.ntmps53
    go_wp2_with (go_at_call 56; refine (sized_no _ _ H.out).mono ?_; rintro e w' ⟨rfl, rfl⟩)
    go_ret2
    exact ⟨rfl, rfl⟩
  · have hs1 : 1 ≤ s := by omega
    have hs4 : s ≤ 4 := by omega
    by_cases hp : p < 0
    · have hv : takeV l p s = 0 := by rw [takeV, if_pos (by omega)]
      have he : takeE l p s = 1 := by rw [takeE, if_pos (by omega)]
      rw [hv, he]
      clear hv he hr hs
      go_enter Tryd.func53, Tryd.ntmps53
      go_wp2_with (go_at_call 56; refine (sized_yes _ _ (by omega) (by omega)).mono ?_; rintro e w' ⟨rfl, rfl⟩)
      go_ret2
      exact ⟨rfl, rfl⟩
    · obtain ⟨q, rfl⟩ := Int.eq_ofNat_of_zero_le (show 0 ≤ p by omega)
      obtain ⟨t, rfl⟩ := Int.eq_ofNat_of_zero_le (show 0 ≤ s by omega)
      have hp' : (0 : Int) ≤ (q : Int) := by omega
      by_cases hsh : (l.length : Int) - q < t
      · have hv : takeV l q t = 0 := by rw [takeV, if_neg (by omega), if_pos hsh]
        have he : takeE l q t = 12 := by rw [takeE, if_neg (by omega), if_pos hsh]
        rw [hv, he]
        clear hv he hr hs hp
        go_enter Tryd.func53, Tryd.ntmps53
        go_wp2_with (go_at_call 56; refine (sized_yes _ _ (by omega) (by omega)).mono ?_; rintro e w' ⟨rfl, rfl⟩)
        go_ret2
        exact ⟨rfl, rfl⟩
      · have hv : takeV l q t = beI ((l.drop q).take t) := by rw [takeV, if_neg (by omega), if_neg hsh]; simp
        have he : takeE l q t = 0 := by rw [takeE, if_neg (by omega), if_neg hsh]
        rw [hv, he]
        rcases hr with rfl | ⟨b, off, rfl, hc⟩
        · exact absurd (show ((([] : List UInt8).length : Int) - q < t) by simp; omega) hsh
        have HC := Lib.hid hc
        have hlen : (q : Int) + t ≤ l.length := by omega
        clear hv he hs hp hsh hc
        go_enter Tryd.func53, Tryd.ntmps53
        go_wp2_with (go_at_call 56; refine (sized_yes _ _ (by omega) (by omega)).mono ?_; rintro e w' ⟨rfl, rfl⟩)
        go_loop [8, 9, 24] (fun n _ i => ∃ (k : Nat), k ≤ t ∧ i = .int .i64 k ∧ n = .int .u32 (beI ((l.drop q).take k))) (fun _ _ i => t - (intOf i).toNat)
        case atStart => exact ⟨0, Nat.zero_le _, rfl, by simp [beI]⟩
        case round =>
          obtain ⟨k, hk, rfl, rfl⟩ := hrel
          by_cases hlt : k < t
          · have hi : q + k < l.length := by omega
            have hcell := HC.out (q + k) hi
            have hcb := l[q + k].toNat_lt
            have hb := beI_small ((l.drop q).take k) (by simp; omega)
            have hsn : Hid (beI ((l.drop q).take (k + 1)) = beI ((l.drop q).take k) * 256 + l[q + k].toNat) := Lib.hid (by rw [take_drop_snoc l q k hi, beI_snoc])
            have hor := Lib.hid (or8 (beI ((l.drop q).take k)) l[q + k].toNat hb.1 hb.2 (by omega) (by omega))
            go_wp2_with fail
            go_round
            case rel => exact ⟨k + 1, by omega, by go_num, by rw [hor.out, hsn.out]⟩
            case measure => simp [intOf]; omega
          · have hkt : k = t := by omega
            subst hkt
            go_wp2_with fail
            go_ret2
            exact ⟨rfl, rfl⟩

end Go.Proofs.YtdilgkkkhmmffaaDoor

namespace Go.Proofs.YtdilgkkkhmmffaaDoor
namespace Fra
open Oct
set_option linter.unusedVariables false

structure StM where
  id : Int
  val : Int
deriving DecidableEq
structure FrM where
  type : Int
  flags : Int
  stream : Int
  data : ByteArray
  pad : Int
  sets : List StM
  code : Int
  last : Int
  inc : Int
  dep : Int
  weight : Int
  sole : Bool
deriving DecidableEq
structure FaM where
  is : Bool
  code : Int
  stream : Int
deriving DecidableEq

def noFr : FrM := ⟨0, 0, 0, ByteArray.empty, 0, [], 0, 0, 0, 0, 0, false⟩
def noFa : FaM := ⟨false, 0, 0⟩
def ofC (c : Int) : FaM := ⟨true, c, 0⟩

def hasF (flags flag : Int) : Bool := decide (flags / flag % 2 = 1)
def setOk (s : StM) : Bool := decide (0 ≤ s.id ∧ s.id ≤ 65535 ∧ 0 ≤ s.val ∧ s.val ≤ 4294967295)
def rangesB (f : FrM) : Bool :=
  decide (0 ≤ f.type ∧ f.type ≤ 255 ∧ 0 ≤ f.flags ∧ f.flags ≤ 255 ∧ 0 ≤ f.pad ∧ f.pad ≤ 255 ∧ 0 ≤ f.weight ∧ f.weight ≤ 255 ∧ 0 ≤ f.stream ∧ f.stream ≤ 2147483647 ∧ 0 ≤ f.last ∧ f.last ≤ 2147483647 ∧
    0 ≤ f.dep ∧ f.dep ≤ 2147483647 ∧ 0 ≤ f.inc ∧ f.inc ≤ 2147483647 ∧ 0 ≤ f.code ∧ f.code ≤ 4294967295) && f.sets.all setOk
def paddedB (f : FrM) : Bool := decide (f.type ≤ 1) && hasF f.flags 8
def placedB (f : FrM) : Bool := decide (f.type = 2) || (decide (f.type = 1) && hasF f.flags 32)
/-- May a frame be written? -/
def mayB (f : FrM) : Bool :=
  rangesB f && !(decide (f.pad ≠ 0) && !paddedB f) && !(decide (f.dep ≠ 0 ∨ f.weight ≠ 0 ∨ f.sole = true) && !placedB f) &&
    !(decide (f.data ≠ ByteArray.empty) && decide (f.type = 2 ∨ f.type = 3 ∨ f.type = 4 ∨ f.type = 8)) &&
    (f.sets.isEmpty || decide (f.type = 4)) && decide (f.code = 0 ∨ f.type = 3 ∨ f.type = 7) && decide (f.last = 0 ∨ f.type = 7) && decide (f.inc = 0 ∨ f.type = 8)

def setL (l : List StM) : List UInt8 := l.flatMap fun s => putL s.id 2 ++ putL s.val 4
def bt (n : Int) : UInt8 := UInt8.ofNat n.toNat
def placeL (f : FrM) : List UInt8 := putL (f.dep + (if f.sole then 2147483648 else 0)) 4 ++ [bt f.weight]
def dataL (f : FrM) : List UInt8 := f.data.data.toList
/-- A payload. -/
def payL (f : FrM) : List UInt8 :=
  (if paddedB f then [bt f.pad] else []) ++ ((if placedB f then placeL f else []) ++ (setL f.sets ++ ((if f.type = 7 then putL f.last 4 else []) ++ ((if f.type = 7 ∨ f.type = 3 then putL f.code 4 else []) ++
    ((if f.type = 8 then putL f.inc 4 else []) ++ (dataL f ++ List.replicate f.pad.toNat 0))))))
def wholeL (f : FrM) : List UInt8 := putL (payL f).length 3 ++ (bt f.type :: bt f.flags :: (putL f.stream 4 ++ payL f))
def putF (f : FrM) : List UInt8 × Nat :=
  if mayB f = false then ([], 1) else if 16777215 < (payL f).length then ([], 2) else (wholeL f, 0)

/-- The number that bytes say at a place. -/
def at' (b : List UInt8) (p s : Nat) : Int := beI ((b.drop p).take s)
def needN (t flags : Int) : Nat := (if hasF flags 8 then 1 else 0) + (if t = 1 ∧ hasF flags 32 = true then 5 else 0)
/-- Is a payload's length one that its type has? -/
def sizedB (t flags : Int) (n : Nat) : Bool :=
  if t = 0 ∨ t = 1 then decide (needN t flags ≤ n)
  else if t = 2 then decide (n = 5)
  else if t = 3 ∨ t = 8 then decide (n = 4)
  else if t = 4 then decide (n % 6 = 0) && (decide (n = 0) || !hasF flags 1)
  else if t = 6 then decide (n = 8)
  else if t = 7 then decide (8 ≤ n)
  else true
def setsF : Nat → List UInt8 → List StM
  | 0, _ => []
  | F + 1, p => if p = [] then [] else ⟨at' p 0 2, at' p 2 4⟩ :: setsF F (p.drop 6)
/-- What a payload of a right length says. -/
def fieldsF (t flags stream : Int) (p : List UInt8) : FrM × Bool :=
  let pd := decide (t ≤ 1) && hasF flags 8
  let pad : Int := if pd then (p.headD 0).toNat else 0
  let p1 := if pd then p.drop 1 else p
  let pl := decide (t = 2) || (decide (t = 1) && hasF flags 32)
  let sole := if pl then decide (128 ≤ (p1.headD 0).toNat) else false
  let dep : Int := if pl then at' p1 0 4 % 2147483648 else 0
  let weight : Int := if pl then ((p1.drop 4).headD 0).toNat else 0
  let p2 := if pl then p1.drop 5 else p1
  let last : Int := if t = 7 then at' p2 0 4 % 2147483648 else 0
  let code : Int := if t = 7 then at' p2 4 4 else if t = 3 then at' p2 0 4 else 0
  let inc : Int := if t = 8 then at' p2 0 4 % 2147483648 else 0
  let sets := if t = 4 then setsF p2.length p2 else []
  let p3 := if t = 7 then p2.drop 8 else if t = 3 ∨ t = 4 ∨ t = 8 then [] else p2
  if p3.length < pad then (⟨t, flags, stream, ByteArray.empty, pad, sets, code, last, inc, dep, weight, sole⟩, false)
  else (⟨t, flags, stream, ⟨(p3.take (p3.length - pad.toNat)).toArray⟩, pad, sets, code, last, inc, dep, weight, sole⟩, true)
/-- A setting's fault: 0: none. -/
def setFault (s : StM) : Int :=
  if (s.id = 2 ∧ 1 < s.val) ∨ (s.id = 5 ∧ (s.val < 16384 ∨ 16777215 < s.val)) then 1 else if s.id = 4 ∧ 2147483647 < s.val then 3 else 0
def setsFault : List StM → Int
  | [] => 0
  | s :: r => if setFault s ≠ 0 then setFault s else setsFault r
/-- The frame at the beginning of bytes, behind its length, n: its nine bytes and its payload are there. -/
def bodyF (b : List UInt8) (n : Nat) : FrM × Nat × FaM :=
  let t : Int := (b.getD 3 0).toNat
  let fl : Int := (b.getD 4 0).toNat
  let st := at' b 5 4 % 2147483648
  if ((t = 0 ∨ t = 1 ∨ t = 2 ∨ t = 3 ∨ t = 9) ∧ st = 0) ∨ ((t = 4 ∨ t = 6 ∨ t = 7) ∧ st ≠ 0) ∨ t = 5 then (noFr, 0, ofC 1)
  else if sizedB t fl n = false then (if t = 2 then (noFr, 9 + n, ⟨true, 6, st⟩) else (noFr, 0, ofC 6))
  else match fieldsF t fl st ((b.drop 9).take n) with
    | (f, ok) =>
      if ok = false then (noFr, 0, ofC 1)
      else if t = 8 ∧ f.inc = 0 then (if st = 0 then (noFr, 0, ofC 1) else (noFr, 9 + n, ⟨true, 1, st⟩))
      else if setsFault f.sets ≠ 0 then (noFr, 0, ofC (setsFault f.sets))
      else (f, 9 + n, noFa)
def lenN (b : List UInt8) : Nat := (at' b 0 3).toNat
def takeF (b : List UInt8) (most : Int) : FrM × Nat × FaM :=
  if b.length < 9 then (noFr, 0, noFa)
  else if most < lenN b then (noFr, 0, ofC 6)
  else if b.length < 9 + lenN b then (noFr, 0, noFa)
  else bodyF b (lenN b)
end Fra
end Go.Proofs.YtdilgkkkhmmffaaDoor

namespace Go.Proofs.YtdilgkkkhmmffaaDoor
open Go.RowKit
open Fra
set_option linter.unusedVariables false

theorem and_flag8 (fl : Int) (h0 : 0 ≤ fl) (h1 : fl ≤ 255) : bits .and .i64 fl 8 = if hasF fl 8 then 8 else 0 := by
  obtain ⟨n, rfl⟩ := Int.eq_ofNat_of_zero_le h0
  have h : n < 256 := by omega
  have key : ∀ m : Fin 256, bits .and .i64 ((m.val : Nat) : Int) 8 = if hasF ((m.val : Nat) : Int) 8 then 8 else 0 := by decide +kernel
  exact key ⟨n, h⟩
theorem and_flag32 (fl : Int) (h0 : 0 ≤ fl) (h1 : fl ≤ 255) : bits .and .i64 fl 32 = if hasF fl 32 then 32 else 0 := by
  obtain ⟨n, rfl⟩ := Int.eq_ofNat_of_zero_le h0
  have h : n < 256 := by omega
  have key : ∀ m : Fin 256, bits .and .i64 ((m.val : Nat) : Int) 32 = if hasF ((m.val : Nat) : Int) 32 then 32 else 0 := by decide +kernel
  exact key ⟨n, h⟩
theorem and_flag1 (fl : Int) (h0 : 0 ≤ fl) (h1 : fl ≤ 255) : bits .and .i64 fl 1 = if hasF fl 1 then 1 else 0 := by
  obtain ⟨n, rfl⟩ := Int.eq_ofNat_of_zero_le h0
  have h : n < 256 := by omega
  have key : ∀ m : Fin 256, bits .and .i64 ((m.val : Nat) : Int) 1 = if hasF ((m.val : Nat) : Int) 1 then 1 else 0 := by decide +kernel
  exact key ⟨n, h⟩
theorem low31 (n : Int) (h0 : 0 ≤ n) (h1 : n < 4294967296) : bits .andNot .u32 n 2147483648 = n % 2147483648 := by
  rw [u32_andNot n 2147483648 h0 h1 (by decide) (by decide)]
  have : (4294967295 - (2147483648 : Int).toNat) = 2 ^ 31 - 1 := by decide
  rw [this, Nat.and_two_pow_sub_one_eq_mod]
  omega
theorem nat_and_pow (n i : Nat) : n &&& 2 ^ i = if n.testBit i then 2 ^ i else 0 := by
  apply Nat.eq_of_testBit_eq
  intro j
  by_cases h : n.testBit i
  · rw [if_pos h, Nat.testBit_and, Nat.testBit_two_pow]
    by_cases e : i = j
    · subst e; simp [h]
    · simp [e]
  · rw [if_neg h, Nat.testBit_and, Nat.testBit_two_pow, Nat.zero_testBit]
    by_cases e : i = j
    · subst e; simp at h; simp [h]
    · simp [e]
theorem high31 (n : Int) (h0 : 0 ≤ n) (h1 : n < 4294967296) : bits .and .u32 n 2147483648 = if 2147483648 ≤ n then 2147483648 else 0 := by
  rw [u32_and n 2147483648 h0 h1 (by decide) (by decide)]
  have : (2147483648 : Int).toNat = 2 ^ 31 := by decide
  rw [this, nat_and_pow, Nat.testBit_eq_decide_div_mod_eq]
  by_cases h : 2147483648 ≤ n
  · rw [if_pos h, if_pos (decide_eq_true (by omega))]; rfl
  · rw [if_neg h, if_neg (by simp; omega)]; rfl
theorem or31 (n : Int) (h0 : 0 ≤ n) (h1 : n ≤ 2147483647) : bits .or .i64 n 2147483648 = n + 2147483648 := by
  obtain ⟨m, rfl⟩ := Int.eq_ofNat_of_zero_le h0
  have h : m < 2147483648 := by omega
  have e : bits .or .i64 (m : Int) 2147483648 = IntKind.i64.wrap ((BitVec.ofInt 64 (m : Int) ||| BitVec.ofInt 64 2147483648).toNat : Int) := rfl
  rw [e, BitVec.toNat_or]
  have e1 : (BitVec.ofInt 64 (m : Int)).toNat = m := by
    rw [BitVec.ofInt_natCast, BitVec.toNat_ofNat, Nat.mod_eq_of_lt (by omega)]
  have e2 : (BitVec.ofInt 64 (2147483648 : Int)).toNat = 1 * 2 ^ 31 := by decide
  rw [e1, e2, Nat.or_comm, nat_join 31 _ _ (by decide) (by omega), IntKind.wrap_i64]
  omega
end Go.Proofs.YtdilgkkkhmmffaaDoor

namespace Go.Proofs.YtdilgkkkhmmffaaDoor
namespace Fra
open Oct
set_option linter.unusedVariables false
set_option linter.unusedSimpArgs false

theorem at_join (b x : List UInt8) (p s : Nat) (h : p + s ≤ b.length) : at' (b ++ x) p s = at' b p s := by
  rw [at', at', List.drop_append_of_le_length (by omega), List.take_append_of_le_length (by rw [List.length_drop]; omega)]
theorem getD_join (b x : List UInt8) (i : Nat) (h : i < b.length) : (b ++ x).getD i 0 = b.getD i 0 := by
  simp [List.getD, List.getElem?_append_left h]
theorem len_join (b x : List UInt8) (h : 3 ≤ b.length) : lenN (b ++ x) = lenN b := by rw [lenN, lenN, at_join _ _ _ _ (by omega)]
theorem body_join (b x : List UInt8) (n : Nat) (h : 9 + n ≤ b.length) : bodyF (b ++ x) n = bodyF b n := by
  rw [bodyF, bodyF, getD_join _ _ _ (by omega), getD_join _ _ _ (by omega), at_join _ _ _ _ (by omega), List.drop_append_of_le_length (by omega), List.take_append_of_le_length (by rw [List.length_drop]; omega)]
/-- What stands behind a frame changes nothing. -/
theorem take_join (b x : List UInt8) (most : Int) (h : b.length = 9 + lenN b) : takeF (b ++ x) most = takeF b most := by
  have hl := len_join b x (by omega)
  have h9 : ¬ (b ++ x).length < 9 := by rw [List.length_append]; omega
  have hn : ¬ (b ++ x).length < 9 + lenN b := by rw [List.length_append]; omega
  rw [takeF, takeF, if_neg h9, if_neg (show ¬ b.length < 9 by omega), hl, if_neg hn, if_neg (show ¬ b.length < 9 + lenN b by omega), body_join _ _ _ (by omega)]
/-- A beginning is no frame. -/
theorem take_cut (b : List UInt8) (k : Nat) (most : Int) (h : b.length = 9 + lenN b) (hm : (lenN b : Int) ≤ most) (hk : k < b.length) : takeF (b.take k) most = (noFr, 0, noFa) := by
  have hl : (b.take k).length = k := by rw [List.length_take]; omega
  rw [takeF, hl]
  by_cases h9 : k < 9
  · rw [if_pos h9]
  · have hn : lenN (b.take k) = lenN b := by
      have h1 := len_join (b.take k) (b.drop k) (by omega)
      rw [List.take_append_drop] at h1
      exact h1.symm
    rw [if_neg h9, hn, if_neg (by omega), if_pos (by omega)]

theorem bt_val (n : Int) (h0 : 0 ≤ n) (h1 : n ≤ 255) : ((bt n).toNat : Int) = n := by
  rw [bt, UInt8.toNat_ofNat_of_lt' (by show n.toNat < 256; omega)]; omega
theorem beI_put (n : Int) (h0 : 0 ≤ n) (h1 : n < 4294967296) (s : Nat) (hs : s = 1 ∨ s = 2 ∨ s = 3 ∨ s = 4) : beI (putL n s) = n % 256 ^ s := by
  rcases hs with rfl | rfl | rfl | rfl <;> simp [putL, List.range, List.range.loop, beI, byteAt_val] <;> omega
theorem at_put (n : Int) (h0 : 0 ≤ n) (h1 : n < 4294967296) (s : Nat) (hs : s = 1 ∨ s = 2 ∨ s = 3 ∨ s = 4) (r : List UInt8) : at' (putL n s ++ r) 0 s = n % 256 ^ s := by
  rw [at', List.drop_zero, List.take_append_of_le_length (by rw [putL_length]; omega), List.take_of_length_le (by rw [putL_length]; omega), beI_put n h0 h1 s hs]
theorem at_skip (a r : List UInt8) (s : Nat) : at' (a ++ r) a.length s = at' r 0 s := by rw [at', at', List.drop_left, List.drop_zero]
theorem putL_drop (n : Int) (s : Nat) (r : List UInt8) : (putL n s ++ r).drop s = r := by
  have := putL_length n s
  conv => lhs; rw [← this]
  rw [putL_length, List.drop_append_of_le_length (by omega), List.drop_of_length_le (by omega), List.nil_append]
theorem putL_ne (n : Int) (s : Nat) (h : 0 < s) (r : List UInt8) : putL n s ++ r ≠ [] := fun e => by
  have := congrArg List.length e
  rw [List.length_append, putL_length] at this
  simp at this; omega
theorem sets_back (l : List StM) : ∀ F, l.length ≤ F → (∀ s ∈ l, setOk s = true) → setsF F (setL l) = l := by
  induction l with
  | nil => intro F _ _; cases F <;> simp [setsF, setL]
  | cons s r ih =>
    intro F hF hok
    obtain ⟨G, rfl⟩ : ∃ G, F = G + 1 := ⟨F - 1, by simp at hF; omega⟩
    have hs := hok s (List.mem_cons_self ..)
    simp only [setOk, decide_eq_true_eq] at hs
    have h1 : setL (s :: r) = putL s.id 2 ++ (putL s.val 4 ++ setL r) := by simp [setL]
    rw [setsF, h1, if_neg (putL_ne _ _ (by omega) _), at_put _ hs.1 (by omega) 2 (by omega)]
    have h2 : at' (putL s.id 2 ++ (putL s.val 4 ++ setL r)) 2 4 = s.val := by
      have := at_skip (putL s.id 2) (putL s.val 4 ++ setL r) 4
      rw [putL_length] at this
      rw [this, at_put _ hs.2.2.1 (by omega) 4 (by omega)]
      omega
    have h3 : (putL s.id 2 ++ (putL s.val 4 ++ setL r)).drop 6 = setL r := by
      rw [show 6 = 2 + 4 from rfl, ← List.drop_drop, putL_drop, putL_drop]
    rw [h2, h3, ih G (by simpa using hF) (fun x hx => hok x (List.mem_cons_of_mem _ hx))]
    have h4 : s.id % 256 ^ 2 = s.id := by omega
    rw [h4]
theorem setL_len (l : List StM) : (setL l).length = 6 * l.length := by
  induction l with
  | nil => rfl
  | cons s r ih =>
    have h1 : setL (s :: r) = putL s.id 2 ++ (putL s.val 4 ++ setL r) := by simp [setL]
    rw [h1, List.length_append, List.length_append, putL_length, putL_length, ih, List.length_cons]; omega
theorem place_len (f : FrM) : (placeL f).length = 5 := by rw [placeL, List.length_append, putL_length]; rfl

structure May (f : FrM) : Prop where
  rng : 0 ≤ f.type ∧ f.type ≤ 255 ∧ 0 ≤ f.flags ∧ f.flags ≤ 255 ∧ 0 ≤ f.pad ∧ f.pad ≤ 255 ∧ 0 ≤ f.weight ∧ f.weight ≤ 255 ∧ 0 ≤ f.stream ∧ f.stream ≤ 2147483647 ∧ 0 ≤ f.last ∧ f.last ≤ 2147483647 ∧
    0 ≤ f.dep ∧ f.dep ≤ 2147483647 ∧ 0 ≤ f.inc ∧ f.inc ≤ 2147483647 ∧ 0 ≤ f.code ∧ f.code ≤ 4294967295
  sets : ∀ s ∈ f.sets, setOk s = true
  pad : paddedB f = false → f.pad = 0
  place : placedB f = false → f.dep = 0 ∧ f.weight = 0 ∧ f.sole = false
  data : f.type = 2 ∨ f.type = 3 ∨ f.type = 4 ∨ f.type = 8 → f.data = ByteArray.empty
  set : f.type ≠ 4 → f.sets = []
  code : ¬ (f.type = 3 ∨ f.type = 7) → f.code = 0
  last : f.type ≠ 7 → f.last = 0
  inc : f.type ≠ 8 → f.inc = 0
theorem may_of (f : FrM) (h : mayB f = true) : May f := by
  simp only [mayB, rangesB, Bool.and_eq_true, Bool.not_eq_true', Bool.and_eq_false_iff, Bool.or_eq_true, decide_eq_true_eq, decide_eq_false_iff_not, List.all_eq_true, List.isEmpty_iff, Bool.not_eq_false'] at h
  obtain ⟨⟨⟨⟨⟨⟨⟨⟨h1, h2⟩, h3⟩, h4⟩, h5⟩, h6⟩, h7⟩, h8⟩, h9⟩ := h
  refine ⟨h1, h2, fun hp => ?_, fun hp => ?_, fun ht => ?_, fun ht => ?_, fun ht => ?_, fun ht => ?_, fun ht => ?_⟩
  · rcases h3 with h | h
    · exact Decidable.not_not.mp h
    · rw [h] at hp; cases hp
  · rcases h4 with h | h
    · simp only [not_or, Decidable.not_not, Bool.not_eq_true] at h; exact ⟨h.1, h.2.1, h.2.2⟩
    · rw [h] at hp; cases hp
  · rcases h5 with h | h
    · exact Decidable.not_not.mp h
    · exact absurd ht h
  · rcases h6 with h | h
    · exact h
    · exact absurd h ht
  · rcases h7 with h | h
    · exact h
    · exact absurd h ht
  · rcases h8 with h | h
    · exact h
    · exact absurd h ht
  · rcases h9 with h | h
    · exact h
    · exact absurd h ht
end Fra
end Go.Proofs.YtdilgkkkhmmffaaDoor

namespace Go.Proofs.YtdilgkkkhmmffaaDoor
namespace Fra
open Oct
set_option linter.unusedVariables false
set_option linter.unusedSimpArgs false

theorem data_back (data : ByteArray) (pad : Int) (h0 : 0 ≤ pad) : ¬ ((data.data.toList ++ List.replicate pad.toNat (0 : UInt8)).length : Int) < pad ∧
    (⟨((data.data.toList ++ List.replicate pad.toNat (0 : UInt8)).take ((data.data.toList ++ List.replicate pad.toNat (0 : UInt8)).length - pad.toNat)).toArray⟩ : ByteArray) = data := by
  rw [List.length_append, List.length_replicate]
  refine ⟨by omega, ?_⟩
  rw [Nat.add_sub_cancel, List.take_left]
theorem data_back0 (data : ByteArray) : (⟨(data.data.toList.take (data.data.toList.length - (0 : Int).toNat)).toArray⟩ : ByteArray) = data := by
  rw [List.take_of_length_le (by omega)]
theorem place_at (dep weight : Int) (sole : Bool) (hd0 : 0 ≤ dep) (hd1 : dep ≤ 2147483647) (hw0 : 0 ≤ weight) (hw1 : weight ≤ 255) (r : List UInt8) (n : Int) (hn : n = dep + (if sole then 2147483648 else 0)) :
    at' (putL n 4 ++ (bt weight :: r)) 0 4 % 2147483648 = dep ∧ decide (128 ≤ ((putL n 4 ++ (bt weight :: r)).headD 0).toNat) = sole ∧ ((((putL n 4 ++ (bt weight :: r)).drop 4).headD 0).toNat : Int) = weight ∧ (putL n 4 ++ (bt weight :: r)).drop 5 = r := by
  have hn0 : 0 ≤ n := by cases sole <;> simp at hn <;> omega
  have hn1 : n < 4294967296 := by cases sole <;> simp at hn <;> omega
  refine ⟨?_, ?_, ?_, ?_⟩
  · rw [at_put n hn0 hn1 4 (by omega)]
    cases sole <;> simp at hn <;> omega
  · have hb := byteAt_val n 3
    have hh : (putL n 4 ++ (bt weight :: r)).headD 0 = byteAt n 3 := by simp [putL, List.range, List.range.loop]
    rw [hh]
    cases sole
    · simp at hn
      rw [decide_eq_false_iff_not]
      have : (2 : Int) ^ (8 * 3) = 16777216 := by decide
      rw [this] at hb; omega
    · simp at hn
      rw [decide_eq_true_eq]
      have : (2 : Int) ^ (8 * 3) = 16777216 := by decide
      rw [this] at hb; omega
  · rw [putL_drop]; exact bt_val weight hw0 hw1
  · rw [show 5 = 4 + 1 from rfl, ← List.drop_drop, putL_drop]; rfl

theorem fields_back (f : FrM) (h : May f) : fieldsF f.type f.flags f.stream (payL f) = (f, true) := by
  obtain ⟨⟨t0, t1, fl0, fl1, p0, p1, w0, w1, s0, s1, l0, l1, d0, d1, i0, i1, c0, c1⟩, hs, hpad, hpl, hda, hst, hco, hla, hin⟩ := h
  obtain ⟨t, fl, st, data, pad, sets, code, last, inc, dep, weight, sole⟩ := f
  simp only [paddedB, placedB] at *
  have hdb := data_back data pad p0
  have hdb0 := data_back0 data
  have hpv := bt_val pad p0 p1
  have hplc := fun r => place_at dep weight sole d0 d1 w0 w1 r _ rfl
  by_cases ht2 : t = 2
  · subst ht2
    have e1 := hda (.inl rfl)
    have e2 := hst (by decide)
    have e3 := hco (by decide)
    have e4 := hla (by decide)
    have e5 := hin (by decide)
    have e6 := hpad (by simp)
    subst e1 e2 e3 e4 e5 e6
    obtain ⟨q1, q2, q3, q4⟩ := hplc []
    have hpay : payL ⟨2, fl, st, ByteArray.empty, 0, [], 0, 0, 0, dep, weight, sole⟩ = putL (dep + if sole = true then 2147483648 else 0) 4 ++ [bt weight] := by
      simp [payL, paddedB, placedB, placeL, dataL, setL]
    rw [hpay]
    generalize putL (dep + if sole = true then 2147483648 else 0) 4 ++ [bt weight] = X at *
    simp [fieldsF, q1, q2, q3, q4, -List.headD_eq_head?_getD, -List.head?_drop, -List.length_drop]
    rfl
  · by_cases ht3 : t = 3
    · subst ht3
      have e1 := hda (.inr (.inl rfl))
      have e2 := hst (by decide)
      have e4 := hla (by decide)
      have e5 := hin (by decide)
      have e6 := hpad (by simp)
      obtain ⟨e7, e8, e9⟩ := hpl (by simp)
      subst e1 e2 e4 e5 e6 e7 e8 e9
      have hpay : payL ⟨3, fl, st, ByteArray.empty, 0, [], code, 0, 0, 0, 0, false⟩ = putL code 4 ++ [] := by
        simp [payL, paddedB, placedB, placeL, dataL, setL]
      have q := at_put code c0 (by omega) 4 (by omega) []
      rw [hpay]
      generalize putL code 4 ++ [] = X at *
      simp [fieldsF, q]
      exact ⟨rfl, by omega⟩
    · by_cases ht8 : t = 8
      · subst ht8
        have e1 := hda (.inr (.inr (.inr rfl)))
        have e2 := hst (by decide)
        have e3 := hco (by decide)
        have e4 := hla (by decide)
        have e6 := hpad (by simp)
        obtain ⟨e7, e8, e9⟩ := hpl (by simp)
        subst e1 e2 e3 e4 e6 e7 e8 e9
        have hpay : payL ⟨8, fl, st, ByteArray.empty, 0, [], 0, 0, inc, 0, 0, false⟩ = putL inc 4 ++ [] := by
          simp [payL, paddedB, placedB, placeL, dataL, setL]
        have q := at_put inc i0 (by omega) 4 (by omega) []
        rw [hpay]
        generalize putL inc 4 ++ [] = X at *
        simp [fieldsF, q]
        exact ⟨rfl, by omega⟩
      · by_cases ht4 : t = 4
        · subst ht4
          have e1 := hda (.inr (.inr (.inl rfl)))
          have e3 := hco (by decide)
          have e4 := hla (by decide)
          have e5 := hin (by decide)
          have e6 := hpad (by simp)
          obtain ⟨e7, e8, e9⟩ := hpl (by simp)
          subst e1 e3 e4 e5 e6 e7 e8 e9
          have hpay : payL ⟨4, fl, st, ByteArray.empty, 0, sets, 0, 0, 0, 0, 0, false⟩ = setL sets := by
            simp [payL, paddedB, placedB, placeL, dataL]
          have q := sets_back sets (setL sets).length (by rw [setL_len]; omega) hs
          rw [hpay]
          simp [fieldsF, q]
          rfl
        · have e2 := hst ht4
          have e5 := hin ht8
          by_cases ht7 : t = 7
          · subst ht7
            have e6 := hpad (by simp)
            obtain ⟨e7, e8, e9⟩ := hpl (by simp)
            subst e2 e5 e6 e7 e8 e9
            have hpay : payL ⟨7, fl, st, data, 0, [], code, last, 0, 0, 0, false⟩ = putL last 4 ++ (putL code 4 ++ data.data.toList) := by
              simp [payL, paddedB, placedB, placeL, dataL, setL]
            have q1 := at_put last l0 (by omega) 4 (by omega) (putL code 4 ++ data.data.toList)
            have q2 : at' (putL last 4 ++ (putL code 4 ++ data.data.toList)) 4 4 = code := by
              have := at_skip (putL last 4) (putL code 4 ++ data.data.toList) 4
              rw [putL_length] at this
              rw [this, at_put _ c0 (by omega) 4 (by omega)]; omega
            have q3 : (putL last 4 ++ (putL code 4 ++ data.data.toList)).drop 8 = data.data.toList := by
              rw [show 8 = 4 + 4 from rfl, ← List.drop_drop, putL_drop, putL_drop]
            rw [hpay]
            generalize putL last 4 ++ (putL code 4 ++ data.data.toList) = X at *
            have q4 : last % 256 ^ 4 % 2147483648 = last := by omega
            simp [fieldsF, q1, q2, q3, -List.length_drop]
            simp at hdb0
            rw [if_neg (by omega), hdb0, show last % 2147483648 = last by omega]
          · have e3 := hco (by omega)
            have e4 := hla ht7
            by_cases ht1 : t ≤ 1
            · by_cases hp : hasF fl 8 = true
              · by_cases hq : t = 1 ∧ hasF fl 32 = true
                · obtain ⟨rfl, hq⟩ := hq
                  subst e2 e3 e4 e5
                  obtain ⟨q1, q2, q3, q4⟩ := hplc (data.data.toList ++ List.replicate pad.toNat 0)
                  have hpay : payL ⟨1, fl, st, data, pad, [], 0, 0, 0, dep, weight, sole⟩ = bt pad :: (putL (dep + if sole = true then 2147483648 else 0) 4 ++ (bt weight :: (data.data.toList ++ List.replicate pad.toNat 0))) := by
                    simp [payL, paddedB, placedB, placeL, dataL, setL, hp, hq]
                  rw [hpay]
                  generalize putL (dep + if sole = true then 2147483648 else 0) 4 ++ (bt weight :: (data.data.toList ++ List.replicate pad.toNat 0)) = X at *
                  generalize data.data.toList ++ List.replicate pad.toNat 0 = Y at *
                  have hd : (bt pad :: X).headD 0 = bt pad := rfl
                  simp [fieldsF, hp, hq, hd, hpv, q1, q2, q3, q4, hdb.1, hdb.2, -List.headD_eq_head?_getD, -List.head?_drop, -List.length_drop]
                · have e7 : (decide (t = 2) || decide (t = 1) && hasF fl 32) = false := by
                    simp [ht2]; intro h1; simpa [h1] using hq
                  obtain ⟨e8, e9, e10⟩ := hpl e7
                  subst e2 e3 e4 e5 e8 e9 e10
                  have hpay : payL ⟨t, fl, st, data, pad, [], 0, 0, 0, 0, 0, false⟩ = bt pad :: (data.data.toList ++ List.replicate pad.toNat 0) := by
                    simp only [payL, paddedB, placedB, e7, dataL, setL, hp, ht1]
                    simp [ht7, ht3, ht8]
                  rw [hpay]
                  generalize data.data.toList ++ List.replicate pad.toNat 0 = Y at *
                  have hd : (bt pad :: Y).headD 0 = bt pad := rfl
                  simp only [fieldsF, e7]
                  simp [hp, ht1, hd, hpv, hdb.1, hdb.2, ht7, ht3, ht8, ht4, -List.headD_eq_head?_getD, -List.head?_drop, -List.length_drop]
              · have hp' : hasF fl 8 = false := by simpa using hp
                have e6 := hpad (by simp [hp'])
                subst e6
                by_cases hq : t = 1 ∧ hasF fl 32 = true
                · obtain ⟨rfl, hq⟩ := hq
                  subst e2 e3 e4 e5
                  obtain ⟨q1, q2, q3, q4⟩ := hplc data.data.toList
                  have hpay : payL ⟨1, fl, st, data, 0, [], 0, 0, 0, dep, weight, sole⟩ = putL (dep + if sole = true then 2147483648 else 0) 4 ++ (bt weight :: data.data.toList) := by
                    simp [payL, paddedB, placedB, placeL, dataL, setL, hp', hq]
                  rw [hpay]
                  generalize putL (dep + if sole = true then 2147483648 else 0) 4 ++ (bt weight :: data.data.toList) = X at *
                  simp [fieldsF, hp', hq, q1, q2, q3, q4, -List.headD_eq_head?_getD, -List.head?_drop, -List.length_drop]
                  simp at hdb0
                  rw [if_neg (by omega), hdb0]
                · have e7 : (decide (t = 2) || decide (t = 1) && hasF fl 32) = false := by
                    simp [ht2]; intro h1; simpa [h1] using hq
                  obtain ⟨e8, e9, e10⟩ := hpl e7
                  subst e2 e3 e4 e5 e8 e9 e10
                  have hpay : payL ⟨t, fl, st, data, 0, [], 0, 0, 0, 0, 0, false⟩ = data.data.toList := by
                    simp only [payL, paddedB, placedB, e7, dataL, setL, hp']
                    simp [ht7, ht3, ht8]
                  rw [hpay]
                  simp only [fieldsF, e7, hp']
                  simp [ht7, ht3, ht8, ht4]
                  simp at hdb0
                  rw [if_neg (by omega), hdb0]
            · have e6 := hpad (by simp [ht1])
              have e7 : (decide (t = 2) || decide (t = 1) && hasF fl 32) = false := by
                have : ¬ t = 1 := by omega
                simp [ht2, this]
              obtain ⟨e8, e9, e10⟩ := hpl e7
              subst e2 e3 e4 e5 e6 e8 e9 e10
              have hpay : payL ⟨t, fl, st, data, 0, [], 0, 0, 0, 0, 0, false⟩ = data.data.toList := by
                simp only [payL, paddedB, placedB, e7, dataL, setL]
                simp [ht7, ht3, ht8, ht1]
              rw [hpay]
              simp only [fieldsF, e7]
              simp [ht7, ht3, ht8, ht4, ht1]
              simp at hdb0
              rw [if_neg (by omega), hdb0]

theorem whole_len (f : FrM) : (wholeL f).length = 9 + (payL f).length := by
  rw [wholeL, List.length_append, List.length_cons, List.length_cons, List.length_append, putL_length, putL_length]; omega
theorem whole_n (f : FrM) (hl : (payL f).length ≤ 16777215) : lenN (wholeL f) = (payL f).length := by
  rw [lenN, wholeL, at_put _ (by omega) (by omega) 3 (by omega)]; omega
theorem whole_parts (f : FrM) (h : May f) : (((wholeL f).getD 3 0).toNat : Int) = f.type ∧ (((wholeL f).getD 4 0).toNat : Int) = f.flags ∧ at' (wholeL f) 5 4 % 2147483648 = f.stream ∧ ((wholeL f).drop 9).take (payL f).length = payL f := by
  have h1 := h.rng
  have hd : ∀ n : Int, ∀ r : List UInt8, (putL n 3 ++ r).drop 3 = r := fun n r => putL_drop n 3 r
  have hg : ∀ i, (wholeL f).getD (3 + i) 0 = (bt f.type :: bt f.flags :: (putL f.stream 4 ++ payL f)).getD i 0 := fun i => by
    rw [wholeL, List.getD, List.getElem?_append_right (by rw [putL_length]; omega), putL_length, Nat.add_sub_cancel_left]; rfl
  refine ⟨?_, ?_, ?_, ?_⟩
  · rw [show 3 = 3 + 0 from rfl, hg 0]; exact bt_val _ h1.1 h1.2.1
  · rw [show 4 = 3 + 1 from rfl, hg 1]; exact bt_val _ h1.2.2.1 h1.2.2.2.1
  · have h5 : at' (wholeL f) 5 4 = at' (putL f.stream 4 ++ payL f) 0 4 := by
      rw [at', at', List.drop_zero, wholeL, show 5 = 3 + 2 from rfl, ← List.drop_drop, putL_drop]; rfl
    rw [h5, at_put _ (by omega) (by omega) 4 (by omega)]; omega
  · have h9 : (wholeL f).drop 9 = payL f := by
      rw [wholeL, show 9 = 3 + 6 from rfl, ← List.drop_drop, putL_drop, show 6 = 2 + 4 from rfl, ← List.drop_drop]
      show (putL f.stream 4 ++ payL f).drop 4 = payL f
      rw [putL_drop]
    rw [h9, List.take_length]
/-- A frame that may be written, and has no fault, is read as it was. -/
theorem body_back (f : FrM) (h : May f) (hf : (bodyF (wholeL f) (payL f).length).2.2.is = false) : bodyF (wholeL f) (payL f).length = (f, 9 + (payL f).length, noFa) := by
  obtain ⟨h1, h2, h3, h4⟩ := whole_parts f h
  have hb := fields_back f h
  rw [bodyF] at hf ⊢
  simp only [h1, h2, h3, h4, hb] at hf ⊢
  split
  · rename_i hc; rw [if_pos hc] at hf; exact absurd hf (by simp [ofC])
  · rename_i hc
    rw [if_neg hc] at hf
    split
    · rename_i hs
      rw [if_pos hs] at hf
      split at hf <;> exact absurd hf (by simp [ofC])
    · rename_i hs
      rw [if_neg hs] at hf
      rw [if_neg (by decide)] at hf ⊢
      split
      · rename_i hi
        rw [if_pos hi] at hf
        split at hf <;> exact absurd hf (by simp [ofC])
      · rename_i hi
        rw [if_neg hi] at hf
        split
        · rename_i hx
          rw [if_pos hx] at hf; exact absurd hf (by simp [ofC])
        · rfl
/-- A fault answers no frame. -/
theorem body_bad (b : List UInt8) (n : Nat) (hf : (bodyF b n).2.2.is = true) : (bodyF b n).1 = noFr := by
  rw [bodyF] at hf ⊢
  simp only at hf ⊢
  split
  · rfl
  · rename_i hc
    rw [if_neg hc] at hf
    split
    · split <;> rfl
    · rename_i hs
      rw [if_neg hs] at hf
      generalize fieldsF _ _ _ _ = X at hf ⊢
      obtain ⟨g, ok⟩ := X
      simp only at hf ⊢
      split
      · rfl
      · rename_i ho
        rw [if_neg ho] at hf
        split
        · split <;> rfl
        · rename_i hi
          rw [if_neg hi] at hf
          split
          · rfl
          · rename_i hx
            rw [if_neg hx] at hf
            exact absurd hf (by simp [noFa])
end Fra
end Go.Proofs.YtdilgkkkhmmffaaDoor

namespace Go.Proofs.YtdilgkkkhmmffaaDoor
namespace Fra
open Oct
set_option linter.unusedVariables false
set_option linter.unusedSimpArgs false

theorem or128 (c : UInt8) (h : c.toNat < 128) : (c ||| 128).toNat = c.toNat + 128 := by
  have hk : ∀ n : Fin 128, (n.val ||| 128) = n.val + 128 := by decide +kernel
  have := hk ⟨c.toNat, h⟩
  simpa using this
theorem putL_high (n : Int) (h0 : 0 ≤ n) (h1 : n ≤ 2147483647) (r : List UInt8) : (putL n 4 ++ r).set 0 ((putL n 4 ++ r).getD 0 0 ||| 128) = putL (n + 2147483648) 4 ++ r := by
  have e : ∀ m : Int, putL m 4 = [byteAt m 3, byteAt m 2, byteAt m 1, byteAt m 0] := fun m => by simp [putL, List.range, List.range.loop]
  rw [e, e]
  have hb : ∀ k, k < 3 → byteAt (n + 2147483648) k = byteAt n k := fun k hk => by
    apply UInt8.toNat.inj
    have q1 := byteAt_val n k
    have q2 := byteAt_val (n + 2147483648) k
    rcases (show k = 0 ∨ k = 1 ∨ k = 2 by omega) with rfl | rfl | rfl
    · have : (2 : Int) ^ (8 * 0) = 1 := by decide
      rw [this] at q1 q2; omega
    · have : (2 : Int) ^ (8 * 1) = 256 := by decide
      rw [this] at q1 q2; omega
    · have : (2 : Int) ^ (8 * 2) = 65536 := by decide
      rw [this] at q1 q2; omega
  have h3 : byteAt n 3 ||| 128 = byteAt (n + 2147483648) 3 := by
    apply UInt8.toNat.inj
    have q1 := byteAt_val n 3
    have q2 := byteAt_val (n + 2147483648) 3
    have : (2 : Int) ^ (8 * 3) = 16777216 := by decide
    rw [this] at q1 q2
    rw [or128 _ (by omega)]
    omega
  rw [hb 0 (by omega), hb 1 (by omega), hb 2 (by omega), ← h3]
  rfl

/-- The bytes of a frame with the highest bits. -/
def highL (f : FrM) : List UInt8 :=
  putL (payL f).length 3 ++ (bt f.type :: bt f.flags :: (putL (f.stream + 2147483648) 4 ++
    (if f.type = 7 then putL (f.last + 2147483648) 4 ++ (payL f).drop 4 else if f.type = 8 then putL (f.inc + 2147483648) 4 ++ (payL f).drop 4 else payL f)))
theorem set_skip (a b : List UInt8) (i : Nat) (c : UInt8) : (a ++ b).set (a.length + i) c = a ++ b.set i c := by
  rw [List.set_append, if_neg (by omega), Nat.add_sub_cancel_left]
theorem getD_skip (a b : List UInt8) (i : Nat) : (a ++ b).getD (a.length + i) 0 = b.getD i 0 := by
  rw [List.getD, List.getElem?_append_right (by omega), Nat.add_sub_cancel_left]; rfl
theorem pay_7 (f : FrM) (h : May f) (ht : f.type = 7) : payL f = putL f.last 4 ++ (payL f).drop 4 := by
  have hp : paddedB f = false := by simp [paddedB, ht]
  have hq : placedB f = false := by simp [placedB, ht]
  have hs := h.set (by omega)
  have : payL f = putL f.last 4 ++ (putL f.code 4 ++ (dataL f ++ List.replicate f.pad.toNat 0)) := by
    rw [payL]; simp [hp, hq, hs, ht, setL]
  rw [this, putL_drop]
theorem pay_8 (f : FrM) (h : May f) (ht : f.type = 8) : payL f = putL f.inc 4 ++ (payL f).drop 4 := by
  have hp : paddedB f = false := by simp [paddedB, ht]
  have hq : placedB f = false := by simp [placedB, ht]
  have hs := h.set (by omega)
  have : payL f = putL f.inc 4 ++ (dataL f ++ List.replicate f.pad.toNat 0) := by
    rw [payL]; simp [hp, hq, hs, ht, setL]
  rw [this, putL_drop]
/-- What the law writes over the frame's bytes. -/
theorem high_set (f : FrM) (h : May f) : highL f = (let b := (wholeL f).set 5 ((wholeL f).getD 5 0 ||| 128); if f.type = 7 ∨ f.type = 8 then b.set 9 (b.getD 9 0 ||| 128) else b) := by
  have hr := h.rng
  have hw : ∀ X : List UInt8, putL (payL f).length 3 ++ (bt f.type :: bt f.flags :: X) = (putL (payL f).length 3 ++ [bt f.type, bt f.flags]) ++ X := fun X => by simp
  have hl5 : (putL (payL f).length 3 ++ [bt f.type, bt f.flags]).length = 5 := by rw [List.length_append, putL_length]; rfl
  have h5 : (wholeL f).set 5 ((wholeL f).getD 5 0 ||| 128) = (putL (payL f).length 3 ++ [bt f.type, bt f.flags]) ++ (putL (f.stream + 2147483648) 4 ++ payL f) := by
    rw [wholeL, hw]
    have a := set_skip (putL (payL f).length 3 ++ [bt f.type, bt f.flags]) (putL f.stream 4 ++ payL f) 0
    have b := getD_skip (putL (payL f).length 3 ++ [bt f.type, bt f.flags]) (putL f.stream 4 ++ payL f) 0
    rw [hl5] at a b
    rw [a, b, putL_high _ (by omega) (by omega)]
  simp only [h5]
  have hw9 : ∀ X : List UInt8, (putL (payL f).length 3 ++ [bt f.type, bt f.flags]) ++ (putL (f.stream + 2147483648) 4 ++ X) = ((putL (payL f).length 3 ++ [bt f.type, bt f.flags]) ++ putL (f.stream + 2147483648) 4) ++ X := fun X => by simp
  have hl9 : ((putL (payL f).length 3 ++ [bt f.type, bt f.flags]) ++ putL (f.stream + 2147483648) 4).length = 9 := by rw [List.length_append, hl5, putL_length]
  by_cases h7 : f.type = 7
  · rw [highL, if_pos h7, if_pos (.inl h7), hw, hw9, hw9]
    have a := set_skip ((putL (payL f).length 3 ++ [bt f.type, bt f.flags]) ++ putL (f.stream + 2147483648) 4) (payL f) 0
    have b := getD_skip ((putL (payL f).length 3 ++ [bt f.type, bt f.flags]) ++ putL (f.stream + 2147483648) 4) (payL f) 0
    rw [hl9] at a b
    rw [a, b]
    have hx : (payL f).set 0 ((payL f).getD 0 0 ||| 128) = putL (f.last + 2147483648) 4 ++ (payL f).drop 4 := by
      have e := pay_7 f h h7
      generalize (payL f).drop 4 = Y at e ⊢
      rw [e, putL_high _ (by omega) (by omega)]
    rw [hx]
  · by_cases h8 : f.type = 8
    · rw [highL, if_neg h7, if_pos h8, if_pos (.inr h8), hw, hw9, hw9]
      have a := set_skip ((putL (payL f).length 3 ++ [bt f.type, bt f.flags]) ++ putL (f.stream + 2147483648) 4) (payL f) 0
      have b := getD_skip ((putL (payL f).length 3 ++ [bt f.type, bt f.flags]) ++ putL (f.stream + 2147483648) 4) (payL f) 0
      rw [hl9] at a b
      rw [a, b]
      have hx : (payL f).set 0 ((payL f).getD 0 0 ||| 128) = putL (f.inc + 2147483648) 4 ++ (payL f).drop 4 := by
        have e := pay_8 f h h8
        generalize (payL f).drop 4 = Y at e ⊢
        rw [e, putL_high _ (by omega) (by omega)]
      rw [hx]
    · rw [highL, if_neg h7, if_neg h8, if_neg (by omega), hw]

theorem at_high (n : Int) (h0 : 0 ≤ n) (h1 : n ≤ 2147483647) (r : List UInt8) : at' (putL (n + 2147483648) 4 ++ r) 0 4 % 2147483648 = at' (putL n 4 ++ r) 0 4 % 2147483648 := by
  rw [at_put _ (by omega) (by omega) 4 (by omega), at_put _ (by omega) (by omega) 4 (by omega)]; omega
theorem fields_high (t fl st n : Int) (ht : t = 7 ∨ t = 8) (h0 : 0 ≤ n) (h1 : n ≤ 2147483647) (r : List UInt8) : fieldsF t fl st (putL (n + 2147483648) 4 ++ r) = fieldsF t fl st (putL n 4 ++ r) := by
  have e1 := at_high n h0 h1 r
  have e2 : ∀ m : Int, at' (putL m 4 ++ r) 4 4 = at' r 0 4 := fun m => by
    have := at_skip (putL m 4) r 4
    rwa [putL_length] at this
  have e3 : ∀ m : Int, (putL m 4 ++ r).drop 8 = r.drop 4 := fun m => by rw [show 8 = 4 + 4 from rfl, ← List.drop_drop, putL_drop]
  have e4 := e2 n
  have e5 := e2 (n + 2147483648)
  have e6 := e3 n
  have e7 := e3 (n + 2147483648)
  generalize putL (n + 2147483648) 4 ++ r = X at *
  generalize putL n 4 ++ r = Y at *
  rcases ht with rfl | rfl
  · simp [fieldsF, e1, e4, e5, e6, e7, -List.length_drop]
  · simp [fieldsF, e1]
theorem high_pay (f : FrM) (h : May f) : ∃ p, highL f = putL (payL f).length 3 ++ (bt f.type :: bt f.flags :: (putL (f.stream + 2147483648) 4 ++ p)) ∧ p.length = (payL f).length ∧ fieldsF f.type f.flags f.stream p = fieldsF f.type f.flags f.stream (payL f) := by
  have hr := h.rng
  refine ⟨_, rfl, ?_, ?_⟩
  · by_cases h7 : f.type = 7
    · rw [if_pos h7, List.length_append, putL_length]
      have := congrArg List.length (pay_7 f h h7)
      rw [List.length_append, putL_length] at this
      exact this.symm
    · rw [if_neg h7]
      by_cases h8 : f.type = 8
      · rw [if_pos h8, List.length_append, putL_length]
        have := congrArg List.length (pay_8 f h h8)
        rw [List.length_append, putL_length] at this
        exact this.symm
      · rw [if_neg h8]
  · by_cases h7 : f.type = 7
    · rw [if_pos h7, fields_high _ _ _ _ (.inl h7) (by omega) (by omega), ← pay_7 f h h7]
    · rw [if_neg h7]
      by_cases h8 : f.type = 8
      · rw [if_pos h8, fields_high _ _ _ _ (.inr h8) (by omega) (by omega), ← pay_8 f h h8]
      · rw [if_neg h8]
/-- The highest bits aren't looked at. -/
theorem body_high (f : FrM) (h : May f) : bodyF (highL f) (payL f).length = bodyF (wholeL f) (payL f).length := by
  have hr := h.rng
  obtain ⟨h1, h2, h3, h4⟩ := whole_parts f h
  obtain ⟨p, hp, hpl, hpf⟩ := high_pay f h
  have hg : ∀ i, (highL f).getD (3 + i) 0 = (bt f.type :: bt f.flags :: (putL (f.stream + 2147483648) 4 ++ p)).getD i 0 := fun i => by
    rw [hp, List.getD, List.getElem?_append_right (by rw [putL_length]; omega), putL_length, Nat.add_sub_cancel_left]; rfl
  have q1 : (((highL f).getD 3 0).toNat : Int) = f.type := by rw [show 3 = 3 + 0 from rfl, hg 0]; exact bt_val _ hr.1 hr.2.1
  have q2 : (((highL f).getD 4 0).toNat : Int) = f.flags := by rw [show 4 = 3 + 1 from rfl, hg 1]; exact bt_val _ hr.2.2.1 hr.2.2.2.1
  have q3 : at' (highL f) 5 4 % 2147483648 = f.stream := by
    have h5 : at' (highL f) 5 4 = at' (putL (f.stream + 2147483648) 4 ++ p) 0 4 := by
      rw [at', at', List.drop_zero, hp, show 5 = 3 + 2 from rfl, ← List.drop_drop, putL_drop]; rfl
    rw [h5, at_put _ (by omega) (by omega) 4 (by omega)]; omega
  have q4 : ((highL f).drop 9).take (payL f).length = p := by
    have h9 : (highL f).drop 9 = p := by
      rw [hp, show 9 = 3 + 6 from rfl, ← List.drop_drop, putL_drop, show 6 = 2 + 4 from rfl, ← List.drop_drop]
      show (putL (f.stream + 2147483648) 4 ++ p).drop 4 = p
      rw [putL_drop]
    rw [h9, ← hpl, List.take_length]
  rw [bodyF, bodyF]
  simp only [h1, h2, h3, h4, q1, q2, q3, q4, hpf]
theorem high_len (f : FrM) (h : May f) : (highL f).length = 9 + (payL f).length := by
  obtain ⟨p, hp, hpl, _⟩ := high_pay f h
  rw [hp, List.length_append, List.length_cons, List.length_cons, List.length_append, putL_length, putL_length, hpl]; omega
theorem high_n (f : FrM) (hl : (payL f).length ≤ 16777215) : lenN (highL f) = (payL f).length := by
  rw [lenN, highL, at_put _ (by omega) (by omega) 3 (by omega)]; omega

/-- Of a frame that is put: what it is taken as. -/
theorem take_whole (f : FrM) (most : Int) (hl : (payL f).length ≤ 16777215) (hm : ((payL f).length : Int) ≤ most) : takeF (wholeL f) most = bodyF (wholeL f) (payL f).length := by
  rw [takeF, whole_len, whole_n f hl, if_neg (by omega), if_neg (by omega), if_neg (by omega)]
theorem take_high (f : FrM) (most : Int) (h : May f) (hl : (payL f).length ≤ 16777215) (hm : ((payL f).length : Int) ≤ most) : takeF (highL f) most = takeF (wholeL f) most := by
  rw [take_whole f most hl hm, takeF, high_len f h, high_n f hl, if_neg (by omega), if_neg (by omega), if_neg (by omega), body_high f h]
end Fra
end Go.Proofs.YtdilgkkkhmmffaaDoor

namespace Go.Proofs.YtdilgkkkhmmffaaDoor
open Go.RowKit
set_option linter.unusedVariables false
namespace Sx
open Go.Proofs.YtdilgkkkhmmffaaDoor.Obj

/-- What is said of a world depends on the blocks F alone. -/
def Stable (F : List Nat) (P : World → Prop) : Prop := ∀ a b : World, a.heap.size ≤ b.heap.size → (∀ k ∈ F, b.heap[k]? = a.heap[k]?) → P a → P b
abbrev Th := List Nat × (World → Prop)
structure Ob (W w : World) (o : Th) : Prop where
  is : o.2 w
  lo : ∀ k ∈ o.1, W.heap.size ≤ k ∧ k < w.heap.size
  st : Stable o.1 o.2
def Ap (a b : Th) : Prop := ∀ k ∈ a.1, k ∉ b.1
/-- From the world W on there are these things. -/
structure Sts (W w : World) (obs : List Th) : Prop where
  bel : Below W.heap.size W w
  all : ∀ (i : Nat) (o : Th), obs[i]? = some o → Ob W w o
  ap : ∀ (i j : Nat) (x y : Th), i ≠ j → obs[i]? = some x → obs[j]? = some y → Ap x y

theorem Sts.nil (W : World) : Sts W W [] := ⟨Below.refl _ _, fun i o h => by simp at h, fun i j x y _ h => by simp at h⟩
theorem Sts.of_below {W w : World} (h : Below W.heap.size W w) : Sts W w [] := ⟨h, fun i o h => by simp at h, fun i j x y _ h => by simp at h⟩
theorem Sts.le {W w : World} {obs : List Th} (h : Sts W w obs) : W.heap.size ≤ w.heap.size := h.bel.size
theorem Sts.below {W w w' : World} {obs : List Th} (h : Sts W w obs) (hb : Below w.heap.size w w') : Sts W w' obs :=
  ⟨h.bel.trans (hb.mono h.bel.size), fun i o hi => by
    have ho := h.all i o hi
    exact ⟨ho.st w w' hb.size (fun k hk => hb.block k (ho.lo k hk).2) ho.is, fun k hk => ⟨(ho.lo k hk).1, Nat.lt_of_lt_of_le (ho.lo k hk).2 hb.size⟩, ho.st⟩, h.ap⟩
theorem Sts.tail {W w : World} {o : Th} {obs : List Th} (h : Sts W w (o :: obs)) : Sts W w obs :=
  ⟨h.bel, fun i o hi => h.all (i + 1) o (by simpa using hi), fun i j x y hn hi hj => h.ap (i + 1) (j + 1) x y (by omega) (by simpa using hi) (by simpa using hj)⟩
theorem Sts.is {W w : World} {obs : List Th} (h : Sts W w obs) (i : Nat) {F : List Nat} {P : World → Prop} (hi : obs[i]? = some (F, P)) : P w := (h.all i _ hi).is
/-- A thing of the list isn't in what a block below W is. -/
theorem Sts.low {W w : World} {obs : List Th} (h : Sts W w obs) {i : Nat} {F : List Nat} {P : World → Prop} (hi : obs[i]? = some (F, P)) {b : Nat} (hb : b < W.heap.size) : b ∉ F := fun hm => by
  have := ((h.all i _ hi).lo b hm).1; omega
/-- A new thing. -/
theorem Sts.add {W w w' : World} {obs : List Th} (h : Sts W w obs) (hb : Below w.heap.size w w') {F : List Nat} {P : World → Prop} (hF : ∀ k ∈ F, w.heap.size ≤ k ∧ k < w'.heap.size) (hs : Stable F P) (hp : P w') : Sts W w' ((F, P) :: obs) := by
  have h' := h.below hb
  refine ⟨h'.bel, fun i o hi => ?_, fun i j x y hn hi hj => ?_⟩
  · cases i with
    | zero =>
      simp only [List.getElem?_cons_zero, Option.some.injEq] at hi
      subst hi
      exact ⟨hp, fun k hk => ⟨Nat.le_trans h.le (hF k hk).1, (hF k hk).2⟩, hs⟩
    | succ i => exact h'.all i o (by simpa using hi)
  · cases i with
    | zero =>
      simp only [List.getElem?_cons_zero, Option.some.injEq] at hi
      subst hi
      cases j with
      | zero => exact absurd rfl hn
      | succ j =>
        intro k hk hm
        have h1 := (hF k hk).1
        have h2 := ((h.all j y (by simpa using hj)).lo k hm).2
        omega
    | succ i =>
      cases j with
      | zero =>
        simp only [List.getElem?_cons_zero, Option.some.injEq] at hj
        subst hj
        intro k hk hm
        have h1 := (hF k hm).1
        have h2 := ((h.all i x (by simpa using hi)).lo k hk).2
        omega
      | succ j => exact h'.ap i j x y (by omega) (by simpa using hi) (by simpa using hj)
/-- A thing becomes another one, and beside it there is one more. -/
theorem Sts.turnAdd {W w w' : World} {obs : List Th} (h : Sts W w obs) {i : Nat} {F F' G : List Nat} {P P' Q : World → Prop} (hi : obs[i]? = some (F, P)) (hk : Kept F w w')
    (hn : ∀ k ∈ F', k ∈ F ∨ w.heap.size ≤ k) (hl : ∀ k ∈ F', k < w'.heap.size) (hs : Stable F' P') (hp : P' w')
    (hG : ∀ k ∈ G, (k ∈ F ∨ w.heap.size ≤ k) ∧ k ∉ F' ∧ k < w'.heap.size) (hsQ : Stable G Q) (hq : Q w') : Sts W w' ((G, Q) :: obs.set i (F', P')) := by
  have hF := (h.all i _ hi).lo
  have hbel : Below W.heap.size W w' := Kept.below h.bel hk (fun k hkF => (hF k hkF).1) h.le
  have new : ∀ {k : Nat}, k ∈ F ∨ w.heap.size ≤ k → W.heap.size ≤ k := fun {k} hk => by
    rcases hk with h1 | h1
    · exact (hF k h1).1
    · exact Nat.le_trans h.le h1
  have apart : ∀ {j : Nat} {y : Th} {k : Nat}, i ≠ j → obs[j]? = some y → (k ∈ F ∨ w.heap.size ≤ k) → k ∉ y.1 := fun {j y k} hj hy hk hm => by
    rcases hk with h1 | h1
    · exact h.ap i j _ y hj hi hy k h1 hm
    · have := ((h.all j y hy).lo k hm).2; omega
  have get : ∀ {j : Nat} {y : Th}, (obs.set i (F', P'))[j]? = some y → (i = j ∧ y = (F', P')) ∨ (i ≠ j ∧ obs[j]? = some y) := fun {j y} hy => by
    by_cases hij : i = j
    · subst hij
      rw [List.getElem?_set_self (List.getElem?_eq_some_iff.1 hi).1] at hy
      exact .inl ⟨rfl, (Option.some.inj hy).symm⟩
    · rw [List.getElem?_set_ne hij] at hy
      exact .inr ⟨hij, hy⟩
  refine ⟨hbel, fun j o hj => ?_, fun a b x y hn' ha hb => ?_⟩
  · cases j with
    | zero =>
      simp only [List.getElem?_cons_zero, Option.some.injEq] at hj
      subst hj
      exact ⟨hq, fun k hk => ⟨new (hG k hk).1, (hG k hk).2.2⟩, hsQ⟩
    | succ j =>
      rcases get (by simpa using hj) with ⟨rfl, rfl⟩ | ⟨hij, hj'⟩
      · exact ⟨hp, fun k hk => ⟨new (hn k hk), hl k hk⟩, hs⟩
      · have ho := h.all j o hj'
        exact ⟨ho.st w w' hk.size (fun k hko => hk.block k (ho.lo k hko).2 (fun hm => h.ap i j _ o hij hi hj' k hm hko)) ho.is, fun k hko => ⟨(ho.lo k hko).1, Nat.lt_of_lt_of_le (ho.lo k hko).2 hk.size⟩, ho.st⟩
  · cases a with
    | zero =>
      simp only [List.getElem?_cons_zero, Option.some.injEq] at ha
      subst ha
      cases b with
      | zero => exact absurd rfl hn'
      | succ b =>
        rcases get (by simpa using hb) with ⟨rfl, rfl⟩ | ⟨hij, hj'⟩
        · exact fun k hk => (hG k hk).2.1
        · exact fun k hk => apart hij hj' (hG k hk).1
    | succ a =>
      cases b with
      | zero =>
        simp only [List.getElem?_cons_zero, Option.some.injEq] at hb
        subst hb
        rcases get (by simpa using ha) with ⟨rfl, rfl⟩ | ⟨hij, hj'⟩
        · exact fun k hk hm => (hG k hm).2.1 hk
        · exact fun k hk hm => apart hij hj' (hG k hm).1 hk
      | succ b =>
        rcases get (by simpa using ha) with ⟨rfl, rfl⟩ | ⟨hia, ha'⟩
        · rcases get (by simpa using hb) with ⟨rfl, rfl⟩ | ⟨hij, hj'⟩
          · exact absurd rfl hn'
          · exact fun k hk => apart hij hj' (hn k hk)
        · rcases get (by simpa using hb) with ⟨rfl, rfl⟩ | ⟨hij, hj'⟩
          · exact fun k hk hm => apart hia ha' (hn k hm) hk
          · exact h.ap a b x y (by omega) ha' hj'
/-- A thing becomes another one. -/
theorem Sts.turn {W w w' : World} {obs : List Th} (h : Sts W w obs) {i : Nat} {F F' : List Nat} {P P' : World → Prop} (hi : obs[i]? = some (F, P)) (hk : Kept F w w')
    (hn : ∀ k ∈ F', k ∈ F ∨ w.heap.size ≤ k) (hl : ∀ k ∈ F', k < w'.heap.size) (hs : Stable F' P') (hp : P' w') : Sts W w' (obs.set i (F', P')) :=
  (h.turnAdd (G := []) (Q := fun _ => True) hi hk hn hl hs hp (fun k hk => by cases hk) (fun _ _ _ _ h => h) trivial).tail
/-- The block of a slice's row. -/
def blk : Option Addr → List Nat
  | none => []
  | some a => [a.block]
theorem mem_blk {ad : Option Addr} {k : Nat} (h : k ∈ blk ad) : ∃ o s, ad = some ⟨k, o, s⟩ := by
  cases ad with
  | none => cases h
  | some a =>
    simp only [blk, List.mem_singleton] at h
    subst h
    exact ⟨a.off, a.spot, rfl⟩
/-- Two things apart: a block of the one isn't the other's. -/
theorem Sts.apart {W w : World} {obs : List Th} (h : Sts W w obs) (i j : Nat) {F G : List Nat} {P Q : World → Prop} (hi : obs[i]? = some (F, P)) (hj : obs[j]? = some (G, Q)) (hij : i ≠ j) : ∀ k ∈ F, k ∉ G := h.ap i j _ _ hij hi hj
end Sx
end Go.Proofs.YtdilgkkkhmmffaaDoor

namespace Go.Proofs.YtdilgkkkhmmffaaDoor
open Go.RowKit
namespace Fra
open Arg Mem Go.Proofs.YtdilgkkkhmmffaaDoor.Obj
set_option linter.unusedVariables false

def ESt : Rw.Enc StM where
  enc s := [.int .i64 s.id, .int .i64 s.val]
  k := 2
  pos := by decide
  len _ := rfl
  one x v h := by
    simp only [List.mem_cons, List.not_mem_nil, or_false] at h
    rcases h with rfl | rfl <;> rfl
theorem CE_st {w : World} {b o : Nat} {s : StM} (h : Rw.CE ESt w b o s) : w.cell? ⟨b, o, none⟩ = some (.int .i64 s.id) ∧ w.cell? ⟨b, o + 1, none⟩ = some (.int .i64 s.val) := ⟨h 0 _ rfl, h 1 _ rfl⟩
/-- The cells of a frame; its settings lie at sa. -/
def frC (f : FrM) (sa : Option Addr) (sc : Nat) : Array Value :=
  #[.int .i64 f.type, .int .i64 f.flags, .int .i64 f.stream, .string f.data, .int .i64 f.pad, .slice sa f.sets.length sc, .int .i64 f.code, .int .i64 f.last, .int .i64 f.inc, .int .i64 f.dep, .int .i64 f.weight, .bool f.sole]
def frV (f : FrM) (sa : Option Addr) (sc : Nat) : Value := .agg (frC f sa sc)
def faV (x : FaM) : Value := .agg #[.bool x.is, .int .i64 x.code, .int .i64 x.stream]
/-- A frame's settings are there. -/
structure FrOk (f : FrM) (sa : Option Addr) (sc : Nat) (w : World) : Prop where
  row : Rw.RowE ESt w sa f.sets
  len : f.sets.length ≤ sc
  cap : sc ≤ maxLen
theorem FrOk.below {f : FrM} {sa : Option Addr} {sc : Nat} {w w' : World} (h : FrOk f sa sc w) (hb : Below w.heap.size w w') : FrOk f sa sc w' := ⟨h.row.below hb, h.len, h.cap⟩
/-- The numbers of a frame are such as there are. -/
structure FrWf (f : FrM) : Prop where
  ints : ∀ z ∈ [f.type, f.flags, f.stream, f.pad, f.code, f.last, f.inc, f.dep, f.weight], -9223372036854775808 ≤ z ∧ z ≤ 9223372036854775807
  sets : ∀ s ∈ f.sets, (-9223372036854775808 ≤ s.id ∧ s.id ≤ 9223372036854775807) ∧ (-9223372036854775808 ≤ s.val ∧ s.val ≤ 9223372036854775807)
  data : f.data.size ≤ 140737488351232

/-- Settings that came in. -/
theorem sets_in {w : World} {ad : Option Addr} {len cap : Nat} (h : Slc w [.int .i64, .int .i64] ad len cap) :
    ∃ l : List StM, l.length = len ∧ Rw.RowE ESt w ad l ∧ (∀ s ∈ l, (Lit.int .i64 s.id).wf = true ∧ (Lit.int .i64 s.val).wf = true) ∧ len ≤ cap ∧ cap ≤ maxLen := by
  obtain ⟨l, hl, hr⟩ := Slc.row (C := fun w b o d => Rw.CE ESt w b o d ∧ ((Lit.int .i64 d.id).wf = true ∧ (Lit.int .i64 d.val).wf = true)) h (fun b o hc => by
    obtain ⟨⟨v1, c1, l1⟩, ⟨v2, c2, l2⟩, _⟩ := hc
    obtain ⟨s1, rfl, w1⟩ := l1.int
    obtain ⟨s2, rfl, w2⟩ := l2.int
    refine ⟨⟨s1, s2⟩, fun r v hv => ?_, w1, w2⟩
    match r, hv with
    | 0, hv => simp [ESt] at hv; subst hv; exact c1
    | 1, hv => simp [ESt] at hv; subst hv; exact c2
    | r + 2, hv => simp [ESt] at hv)
  refine ⟨l, hl, ?_, ?_, h.1, h.2.1⟩
  · rcases hr with hr | ⟨b, off, e, hc⟩
    · exact .inl hr
    · exact .inr ⟨b, off, e, fun i hi => (hc i hi).1⟩
  · rcases hr with rfl | ⟨b, off, e, hc⟩
    · intro d hd; cases hd
    · intro d hd
      obtain ⟨i, hi, rfl⟩ := List.getElem_of_mem hd
      exact (hc i hi).2
end Fra
end Go.Proofs.YtdilgkkkhmmffaaDoor
