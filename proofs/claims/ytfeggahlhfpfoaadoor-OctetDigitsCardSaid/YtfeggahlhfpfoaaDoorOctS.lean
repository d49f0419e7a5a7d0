/- octet.Digits at one digit. -/
import Derived.Test.YtfeggahlhfpfoaaDoorRows
import Derived.Test.YtfeggahlhfpfoaaDoorOctPure
import Derived.Test.YtfeggahlhfpfoaaDoorOct1
import Derived.Test.YtfeggahlhfpfoaaDoorShelf
import Derived.WalkKit
import Derived.WalkSpells
import Derived.WalkLawsBesides
import Derived.Lib.Hide
namespace Go.Proofs.YtfeggahlhfpfoaaDoor
open Go.RowKit
open Oct

def digU (k : Nat) : UInt8 := UInt8.ofNat (48 + k)

theorem dec_one : ∀ k, k < 10 → Lib.decDigits k = [digU k] := by decide +kernel

set_option maxHeartbeats 400000 in
theorem text_one (k : Nat) (hk : k < 10) (w : World) :
    Calls Tryd.prog 10 #[.int .i64 k, .int .i64 10] w fun e w' => e = .returned (.string ⟨#[digU k]⟩) ∧ w = w' := by
  have hc := Tryd.strconv_FormatInt_10_small k (by omega) w
  rw [dec_one k hk] at hc
  have HC := Lib.hid hc
  clear hc
  go_enter Tryd.func10, Tryd.ntmps10
  go_wp2_with fail
  refine HC.out.mono ?_; rintro e w' ⟨rfl, hw⟩; subst hw
  go_wp2_with fail
  go_ret
  exact ⟨rfl, rfl⟩

set_option maxHeartbeats 400000 in
theorem digits_one (k : Nat) (hk : k < 10) (w : World) :
    Calls Tryd.prog 5 #[.int .i64 k] w fun e w' => e = .returned (.string ⟨#[digU k]⟩) ∧ w = w' := by
  go_enter Tryd.func5, Tryd.ntmps5
  go_wp2_with fail
  refine (text_one k hk _).mono ?_; rintro e w' ⟨rfl, rfl⟩
  go_wp2_with fail
  go_ret
  exact ⟨rfl, rfl⟩
end Go.Proofs.YtfeggahlhfpfoaaDoor
