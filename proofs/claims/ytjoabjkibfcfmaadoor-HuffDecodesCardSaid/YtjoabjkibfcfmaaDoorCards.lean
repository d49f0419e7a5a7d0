/-
  DERIVED. GIVEN WITH THE SEED: THE CARDS: each row of YtjoabjkibfcfmaaDoorRows.lean that lists a variable, with what it lists TIED to the program's text (the seventh form; the later family's looks); each row that meets fmt, with fmt's text TOLD by the authors' own Lean function (tested against real Go, not proved from fmt's source: count such statements apart). THE CARD IS WHAT COUNTS. Prove the row's statement (the work); the ties are given (YtjoabjkibfcfmaaDoorTie.lean); close each card by the builder's one call (the guide's Derived/Test/ToyasCard.lean, 'card_holds'). Laid BY PROGRAM, IN A SANDBOX (cutbox-door.mjs). By AI agents, Wed Nov 11 2026. No macro, syntax, notation, axiom, sorry.
-/
import Derived.Test.YtjoabjkibfcfmaaDoorRows
import GoSem.ClaimSeven
namespace Go.Proofs.YtjoabjkibfcfmaaDoor
namespace Rows

/-- THE TIED CARD OF 'drawbridgelaw02.HuffCodes'. -/
def huffCodesCard : Claim7 := { stood := { row := huffCodesRow, standIns := [], harness := (true, "33ea6160a239fca31a4b8aafedf0a63016269b12f00dbab1f711da8addbd577c"), looks := false }, kinds := [], alts := [], laidByText := true, laidKinds := [.data], laidTests := true, laidLooks := .later }
def HuffCodesCardSaid : Prop := Claim7.holds Tryd.pinned (.plain (OpenSpec.ofChange huffCodesSpec)) huffCodesCard

/-- THE TIED CARD OF 'drawbridgelaw02.HuffEncodes'. -/
def huffEncodesCard : Claim7 := { stood := { row := huffEncodesRow, standIns := [], harness := (true, "33ea6160a239fca31a4b8aafedf0a63016269b12f00dbab1f711da8addbd577c"), looks := false }, kinds := [], alts := [], laidByText := true, laidKinds := [.data], laidTests := true, laidLooks := .later }
def HuffEncodesCardSaid : Prop := Claim7.holds Tryd.pinned (.plain (OpenSpec.ofChange huffEncodesSpec)) huffEncodesCard

/-- THE TIED CARD OF 'drawbridgelaw02.HuffDecodes'. -/
def huffDecodesCard : Claim7 := { stood := { row := huffDecodesRow, standIns := [], harness := (true, "33ea6160a239fca31a4b8aafedf0a63016269b12f00dbab1f711da8addbd577c"), looks := false }, kinds := [], alts := [], laidByText := true, laidKinds := [.data], laidTests := true, laidLooks := .later }
def HuffDecodesCardSaid : Prop := Claim7.holds Tryd.pinned (.plain (OpenSpec.ofChange huffDecodesSpec)) huffDecodesCard

/-- THE TIED CARD OF 'drawbridgelaw02.HuffBack'. -/
def huffBackCard : Claim7 := { stood := { row := huffBackRow, standIns := [], harness := (true, "33ea6160a239fca31a4b8aafedf0a63016269b12f00dbab1f711da8addbd577c"), looks := false }, kinds := [], alts := [], laidByText := true, laidKinds := [.data], laidTests := true, laidLooks := .later }
def HuffBackCardSaid : Prop := Claim7.holds Tryd.pinned (.plain (OpenSpec.ofChange huffBackSpec)) huffBackCard

/-- THE TIED CARD OF 'drawbridgelaw02.HuffJoins'. -/
def huffJoinsCard : Claim7 := { stood := { row := huffJoinsRow, standIns := [], harness := (true, "33ea6160a239fca31a4b8aafedf0a63016269b12f00dbab1f711da8addbd577c"), looks := false }, kinds := [], alts := [], laidByText := true, laidKinds := [.data], laidTests := true, laidLooks := .later }
def HuffJoinsCardSaid : Prop := Claim7.holds Tryd.pinned (.plain (OpenSpec.ofChange huffJoinsSpec)) huffJoinsCard

/-- THE TIED CARD OF 'drawbridgelaw02.HuffSums'. -/
def huffSumsCard : Claim7 := { stood := { row := huffSumsRow, standIns := [], harness := (true, "33ea6160a239fca31a4b8aafedf0a63016269b12f00dbab1f711da8addbd577c"), looks := false }, kinds := [], alts := [], laidByText := true, laidKinds := [.data], laidTests := true, laidLooks := .later }
def HuffSumsCardSaid : Prop := Claim7.holds Tryd.pinned (.plain (OpenSpec.ofChange huffSumsSpec)) huffSumsCard

/-- THE SECOND FORM's CARD OF 'drawbridgelaw02.HuffCodes'. -/
def huffCodesUptoCard : Claim7 := { stood := { row := huffCodesUptoRow, standIns := [], harness := (true, "33ea6160a239fca31a4b8aafedf0a63016269b12f00dbab1f711da8addbd577c"), looks := false }, kinds := [], alts := [], laidByText := true, laidKinds := [.data], laidTests := true, laidLooks := .later }
def HuffCodesUptoCardSaid : Prop := Claim7.holds Tryd.pinned (.plain (OpenSpec.upto huffCodesSpec)) huffCodesUptoCard

/-- THE SECOND FORM's CARD OF 'drawbridgelaw02.HuffEncodes'. -/
def huffEncodesUptoCard : Claim7 := { stood := { row := huffEncodesUptoRow, standIns := [], harness := (true, "33ea6160a239fca31a4b8aafedf0a63016269b12f00dbab1f711da8addbd577c"), looks := false }, kinds := [], alts := [], laidByText := true, laidKinds := [.data], laidTests := true, laidLooks := .later }
def HuffEncodesUptoCardSaid : Prop := Claim7.holds Tryd.pinned (.plain (OpenSpec.upto huffEncodesSpec)) huffEncodesUptoCard

/-- THE SECOND FORM's CARD OF 'drawbridgelaw02.HuffDecodes'. -/
def huffDecodesUptoCard : Claim7 := { stood := { row := huffDecodesUptoRow, standIns := [], harness := (true, "33ea6160a239fca31a4b8aafedf0a63016269b12f00dbab1f711da8addbd577c"), looks := false }, kinds := [], alts := [], laidByText := true, laidKinds := [.data], laidTests := true, laidLooks := .later }
def HuffDecodesUptoCardSaid : Prop := Claim7.holds Tryd.pinned (.plain (OpenSpec.upto huffDecodesSpec)) huffDecodesUptoCard

/-- THE SECOND FORM's CARD OF 'drawbridgelaw02.HuffBack'. -/
def huffBackUptoCard : Claim7 := { stood := { row := huffBackUptoRow, standIns := [], harness := (true, "33ea6160a239fca31a4b8aafedf0a63016269b12f00dbab1f711da8addbd577c"), looks := false }, kinds := [], alts := [], laidByText := true, laidKinds := [.data], laidTests := true, laidLooks := .later }
def HuffBackUptoCardSaid : Prop := Claim7.holds Tryd.pinned (.plain (OpenSpec.upto huffBackSpec)) huffBackUptoCard

/-- THE SECOND FORM's CARD OF 'drawbridgelaw02.HuffJoins'. -/
def huffJoinsUptoCard : Claim7 := { stood := { row := huffJoinsUptoRow, standIns := [], harness := (true, "33ea6160a239fca31a4b8aafedf0a63016269b12f00dbab1f711da8addbd577c"), looks := false }, kinds := [], alts := [], laidByText := true, laidKinds := [.data], laidTests := true, laidLooks := .later }
def HuffJoinsUptoCardSaid : Prop := Claim7.holds Tryd.pinned (.plain (OpenSpec.upto huffJoinsSpec)) huffJoinsUptoCard

/-- THE SECOND FORM's CARD OF 'drawbridgelaw02.HuffSums'. -/
def huffSumsUptoCard : Claim7 := { stood := { row := huffSumsUptoRow, standIns := [], harness := (true, "33ea6160a239fca31a4b8aafedf0a63016269b12f00dbab1f711da8addbd577c"), looks := false }, kinds := [], alts := [], laidByText := true, laidKinds := [.data], laidTests := true, laidLooks := .later }
def HuffSumsUptoCardSaid : Prop := Claim7.holds Tryd.pinned (.plain (OpenSpec.upto huffSumsSpec)) huffSumsUptoCard
end Rows
end Go.Proofs.YtjoabjkibfcfmaaDoor
