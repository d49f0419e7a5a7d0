/- What the document fixes of layer 2, awake; bytes held against bytes. -/
import Derived.Test.YtjoabjkibfcfmaaDoorRows
import Derived.Test.YtjoabjkibfcfmaaDoorHufTree
import Derived.Test.YtjoabjkibfcfmaaDoorMem
import Derived.Test.YtjoabjkibfcfmaaDoorHuf1
import Derived.Test.YtjoabjkibfcfmaaDoorHuf2
import Derived.Test.YtjoabjkibfcfmaaDoorHuf3
import Derived.WalkKit
import Derived.WalkSpells
import Derived.WalkLawsBesides
import Derived.Lib.Hide
import Derived.Outline
namespace Go.Proofs.YtjoabjkibfcfmaaDoor
open Go.RowKit
open Huf Mem
set_option linter.unusedVariables false

theorem rb_one (w : World) (c : Nat) (hc : c < 256) : RB (w.alloc (.cells #[.int .u8 c] 5)) (some ⟨w.heap.size, 0, none⟩) [UInt8.ofNat c] := by
  refine Or.inr ⟨w.heap.size, 0, rfl, fun i hi => ?_⟩
  simp at hi
  subst hi
  rw [cell_of_row _ w.heap.size _ _ _ (0, 0) (heap_alloc_new w _)]
  simp [Nat.mod_eq_of_lt hc]

theorem dec7 : decV [7] = [48] ∧ decE [7] = 0 := by decide +kernel
theorem dec0 : decV [0] = [] ∧ decE [0] = 10 := by decide +kernel
theorem size_ww : sizeV [119, 119] = 2 := by decide +kernel

set_option maxHeartbeats 1000000 in
theorem awake_any (w : World) (hg : GrpIs w) :
    Calls Tryd.prog 12 #[] w fun e w' => e = .returned (.bool true) ∧ Below w.heap.size w w' := by
  have HG := Lib.hid hg
  clear hg
  have D7 : Hid (∀ w0, GrpIs w0 → Calls Tryd.prog 17 #[.slice (some ⟨w0.heap.size, 0, none⟩) 1 1] (w0.alloc (.cells #[.int .u8 7] 5)) fun e w' => e = .returned (.tuple #[.string ⟨#[48]⟩, .int .i64 0]) ∧ Below (w0.alloc (.cells #[.int .u8 7] 5)).heap.size (w0.alloc (.cells #[.int .u8 7] 5)) w') := Lib.hid (fun w0 hg => by
    have h := decode_any (some ⟨w0.heap.size, 0, none⟩) [7] 1 (w0.alloc (.cells #[.int .u8 7] 5)) (by decide) (rb_one w0 7 (by decide)) (hg.below ((Below.refl _ _).alloc (Nat.le_refl _) _))
    rwa [dec7.1, dec7.2] at h)
  have D0 : Hid (∀ w0, GrpIs w0 → Calls Tryd.prog 17 #[.slice (some ⟨w0.heap.size, 0, none⟩) 1 1] (w0.alloc (.cells #[.int .u8 0] 5)) fun e w' => e = .returned (.tuple #[.string ⟨#[]⟩, .int .i64 10]) ∧ Below (w0.alloc (.cells #[.int .u8 0] 5)).heap.size (w0.alloc (.cells #[.int .u8 0] 5)) w') := Lib.hid (fun w0 hg => by
    have h := decode_any (some ⟨w0.heap.size, 0, none⟩) [0] 1 (w0.alloc (.cells #[.int .u8 0] 5)) (by decide) (rb_one w0 0 (by decide)) (hg.below ((Below.refl _ _).alloc (Nat.le_refl _) _))
    rwa [dec0.1, dec0.2] at h)
  have SW : Hid (∀ w0, GrpIs w0 → Calls Tryd.prog 16 #[.string ⟨#[119, 119]⟩] w0 fun e w' => e = .returned (.int .i64 2) ∧ Below w0.heap.size w0 w') := Lib.hid (fun w0 hg => by
    have h := size_any ⟨#[119, 119]⟩ w0 (by decide) hg
    rwa [size_ww] at h)
  go_enter Tryd.func12, Tryd.ntmps12
  go_wp2_with fail
  refine (D7.out _ HG.out).mono ?_; rintro e w1 ⟨rfl, hb1⟩
  replace hb1 := below_step ((Below.refl _ _).alloc (Nat.le_refl _) _) hb1
  go_wp2_with fail
  refine (D0.out _ (HG.out.below hb1)).mono ?_; rintro e w2 ⟨rfl, hb2⟩
  replace hb2 := below_step (hb1.alloc hb1.size _) hb2
  go_wp2_with fail
  refine (SW.out _ (HG.out.below hb2)).mono ?_; rintro e w3 ⟨rfl, hb3⟩
  replace hb3 := below_step hb2 hb3
  go_wp2_with fail
  go_ret
  exact ⟨rfl, hb3⟩

/-- Two rows of bytes are held against each other as texts. -/
theorem bytes_any (a b : Option Addr) (la lb : List UInt8) (ca cb : Nat) (w : World) (ha : RB w a la) (hb : RB w b lb) :
    Calls Tryd.prog 14 #[.slice a la.length ca, .slice b lb.length cb] w fun e w' => e = .returned (.bool (decide (la = lb))) ∧ w = w' := by
  have h1 := ha.conv (P := Tryd.prog) (cap := ca) (src := 31) (dst := 9) Tryd.underlying31 Tryd.underlying5 Tryd.underlying9
  have h2 := hb.conv (P := Tryd.prog) (cap := cb) (src := 31) (dst := 9) Tryd.underlying31 Tryd.underlying5 Tryd.underlying9
  go_enter Tryd.func14, Tryd.ntmps14
  go_wp2_with fail
  go_ret
  exact ⟨congrArg (fun b => Ending.returned (.bool b)) (by rw [Bool.eq_iff_iff]; simp), rfl⟩
end Go.Proofs.YtjoabjkibfcfmaaDoor
