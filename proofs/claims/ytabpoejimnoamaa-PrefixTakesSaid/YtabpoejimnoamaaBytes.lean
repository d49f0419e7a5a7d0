/- Two rows of bytes held against each other as texts. -/
import Derived.Test.YtabpoejimnoamaaRows
import Derived.Test.YtabpoejimnoamaaMem
import Derived.WalkKit
import Derived.WalkSpells
import Derived.WalkLawsBesides
import Derived.Lib.Hide
namespace Go.Proofs.Ytabpoejimnoamaa
open Go.RowKit
open Mem
namespace Gen

/-- Two rows of bytes are held against each other as texts. -/
theorem bytes_any (a b : Option Addr) (la lb : List UInt8) (ca cb : Nat) (w : World) (ha : RB w a la) (hb : RB w b lb) :
    Calls Try.prog 8 #[.slice a la.length ca, .slice b lb.length cb] w fun e w' => e = .returned (.bool (decide (la = lb))) ∧ w = w' := by
  have h1 := ha.conv (P := Try.prog) (cap := ca) (src := 24) (dst := 9) Try.underlying24 Try.underlying5 Try.underlying9
  have h2 := hb.conv (P := Try.prog) (cap := cb) (src := 24) (dst := 9) Try.underlying24 Try.underlying5 Try.underlying9
  go_enter Try.func8, Try.ntmps8
  go_wp2_with fail
  go_ret
  exact ⟨congrArg (fun b => Ending.returned (.bool b)) (by rw [Bool.eq_iff_iff]; simp), rfl⟩
end Gen
end Go.Proofs.Ytabpoejimnoamaa
