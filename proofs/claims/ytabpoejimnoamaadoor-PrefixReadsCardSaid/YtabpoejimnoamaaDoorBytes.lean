/- Two rows of bytes held against each other as texts. -/
import Derived.Test.YtabpoejimnoamaaDoorRows
import Derived.Test.YtabpoejimnoamaaDoorMem
import Derived.WalkKit
import Derived.WalkSpells
import Derived.WalkLawsBesides
import Derived.Lib.Hide
namespace Go.Proofs.YtabpoejimnoamaaDoor
open Go.RowKit
open Mem
namespace Gen

/-- Two rows of bytes are held against each other as texts. -/
theorem bytes_any (a b : Option Addr) (la lb : List UInt8) (ca cb : Nat) (w : World) (ha : RB w a la) (hb : RB w b lb) :
    Calls Tryd.prog 7 #[.slice a la.length ca, .slice b lb.length cb] w fun e w' => e = .returned (.bool (decide (la = lb))) ∧ w = w' := by
  have h1 := ha.conv (P := Tryd.prog) (cap := ca) (src := 22) (dst := 9) Tryd.underlying22 Tryd.underlying5 Tryd.underlying9
  have h2 := hb.conv (P := Tryd.prog) (cap := cb) (src := 22) (dst := 9) Tryd.underlying22 Tryd.underlying5 Tryd.underlying9
  go_enter Tryd.func7, Tryd.ntmps7
  go_wp2_with fail
  go_ret
  exact ⟨congrArg (fun b => Ending.returned (.bool b)) (by rw [Bool.eq_iff_iff]; simp), rfl⟩
end Gen
end Go.Proofs.YtabpoejimnoamaaDoor
