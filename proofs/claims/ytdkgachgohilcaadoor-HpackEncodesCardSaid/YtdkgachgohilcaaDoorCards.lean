/-
  DERIVED. GIVEN WITH THE SEED: THE CARDS: each row of YtdkgachgohilcaaDoorRows.lean that lists a variable, with what it lists TIED to the program's text (the seventh form; the later family's looks); each row that meets fmt, with fmt's text TOLD by the authors' own Lean function (tested against real Go, not proved from fmt's source: count such statements apart). THE CARD IS WHAT COUNTS. Prove the row's statement (the work); the ties are given (YtdkgachgohilcaaDoorTie.lean); close each card by the builder's one call (the guide's Derived/Test/ToyasCard.lean, 'card_holds'). Laid BY PROGRAM, IN A SANDBOX (cutbox-door.mjs). By AI agents, Wed Nov 11 2026. No macro, syntax, notation, axiom, sorry.
-/
import Derived.Test.YtdkgachgohilcaaDoorRows
import GoSem.ClaimSeven
namespace Go.Proofs.YtdkgachgohilcaaDoor
namespace Rows

/-- THE TIED CARD OF 'drawbridgelaw05.HpackDecodes'. -/
def hpackDecodesCard : Claim7 := { stood := { row := hpackDecodesRow, standIns := [], harness := (true, "0cf205e81effa3205570d8ebe61769afc0d8e81316675c8f87eba284e0d39711"), looks := true }, kinds := [], alts := [], laidByText := true, laidKinds := [.data], laidTests := true, laidLooks := .later }
def HpackDecodesCardSaid : Prop := Claim7.holds Tryd.pinned (.plain (OpenSpec.ofChange hpackDecodesSpec)) hpackDecodesCard

/-- THE TIED CARD OF 'drawbridgelaw05.HpackEncodes'. -/
def hpackEncodesCard : Claim7 := { stood := { row := hpackEncodesRow, standIns := [], harness := (true, "0cf205e81effa3205570d8ebe61769afc0d8e81316675c8f87eba284e0d39711"), looks := true }, kinds := [], alts := [], laidByText := true, laidKinds := [.data], laidTests := true, laidLooks := .later }
def HpackEncodesCardSaid : Prop := Claim7.holds Tryd.pinned (.plain (OpenSpec.ofChange hpackEncodesSpec)) hpackEncodesCard

/-- THE TIED CARD OF 'drawbridgelaw05.HpackBack'. -/
def hpackBackCard : Claim7 := { stood := { row := hpackBackRow, standIns := [], harness := (true, "0cf205e81effa3205570d8ebe61769afc0d8e81316675c8f87eba284e0d39711"), looks := true }, kinds := [], alts := [], laidByText := true, laidKinds := [.data], laidTests := true, laidLooks := .later }
def HpackBackCardSaid : Prop := Claim7.holds Tryd.pinned (.plain (OpenSpec.ofChange hpackBackSpec)) hpackBackCard

/-- THE TIED CARD OF 'drawbridgelaw05.HpackLists'. -/
def hpackListsCard : Claim7 := { stood := { row := hpackListsRow, standIns := [], harness := (true, "0cf205e81effa3205570d8ebe61769afc0d8e81316675c8f87eba284e0d39711"), looks := true }, kinds := [], alts := [], laidByText := true, laidKinds := [.data], laidTests := true, laidLooks := .later }
def HpackListsCardSaid : Prop := Claim7.holds Tryd.pinned (.plain (OpenSpec.ofChange hpackListsSpec)) hpackListsCard

/-- THE TIED CARD OF 'drawbridgelaw05.HpackBroken'. -/
def hpackBrokenCard : Claim7 := { stood := { row := hpackBrokenRow, standIns := [], harness := (true, "0cf205e81effa3205570d8ebe61769afc0d8e81316675c8f87eba284e0d39711"), looks := true }, kinds := [], alts := [], laidByText := true, laidKinds := [.data], laidTests := true, laidLooks := .later }
def HpackBrokenCardSaid : Prop := Claim7.holds Tryd.pinned (.plain (OpenSpec.ofChange hpackBrokenSpec)) hpackBrokenCard

/-- THE TIED CARD OF 'drawbridgelaw05.HpackNever'. -/
def hpackNeverCard : Claim7 := { stood := { row := hpackNeverRow, standIns := [], harness := (true, "0cf205e81effa3205570d8ebe61769afc0d8e81316675c8f87eba284e0d39711"), looks := true }, kinds := [], alts := [], laidByText := true, laidKinds := [.data], laidTests := true, laidLooks := .later }
def HpackNeverCardSaid : Prop := Claim7.holds Tryd.pinned (.plain (OpenSpec.ofChange hpackNeverSpec)) hpackNeverCard

/-- THE SECOND FORM's CARD OF 'drawbridgelaw05.HpackDecodes'. -/
def hpackDecodesUptoCard : Claim7 := { stood := { row := hpackDecodesUptoRow, standIns := [], harness := (true, "0cf205e81effa3205570d8ebe61769afc0d8e81316675c8f87eba284e0d39711"), looks := true }, kinds := [], alts := [], laidByText := true, laidKinds := [.data], laidTests := true, laidLooks := .later }
def HpackDecodesUptoCardSaid : Prop := Claim7.holds Tryd.pinned (.plain (OpenSpec.upto hpackDecodesSpec)) hpackDecodesUptoCard

/-- THE SECOND FORM's CARD OF 'drawbridgelaw05.HpackEncodes'. -/
def hpackEncodesUptoCard : Claim7 := { stood := { row := hpackEncodesUptoRow, standIns := [], harness := (true, "0cf205e81effa3205570d8ebe61769afc0d8e81316675c8f87eba284e0d39711"), looks := true }, kinds := [], alts := [], laidByText := true, laidKinds := [.data], laidTests := true, laidLooks := .later }
def HpackEncodesUptoCardSaid : Prop := Claim7.holds Tryd.pinned (.plain (OpenSpec.upto hpackEncodesSpec)) hpackEncodesUptoCard

/-- THE SECOND FORM's CARD OF 'drawbridgelaw05.HpackBack'. -/
def hpackBackUptoCard : Claim7 := { stood := { row := hpackBackUptoRow, standIns := [], harness := (true, "0cf205e81effa3205570d8ebe61769afc0d8e81316675c8f87eba284e0d39711"), looks := true }, kinds := [], alts := [], laidByText := true, laidKinds := [.data], laidTests := true, laidLooks := .later }
def HpackBackUptoCardSaid : Prop := Claim7.holds Tryd.pinned (.plain (OpenSpec.upto hpackBackSpec)) hpackBackUptoCard

/-- THE SECOND FORM's CARD OF 'drawbridgelaw05.HpackLists'. -/
def hpackListsUptoCard : Claim7 := { stood := { row := hpackListsUptoRow, standIns := [], harness := (true, "0cf205e81effa3205570d8ebe61769afc0d8e81316675c8f87eba284e0d39711"), looks := true }, kinds := [], alts := [], laidByText := true, laidKinds := [.data], laidTests := true, laidLooks := .later }
def HpackListsUptoCardSaid : Prop := Claim7.holds Tryd.pinned (.plain (OpenSpec.upto hpackListsSpec)) hpackListsUptoCard

/-- THE SECOND FORM's CARD OF 'drawbridgelaw05.HpackBroken'. -/
def hpackBrokenUptoCard : Claim7 := { stood := { row := hpackBrokenUptoRow, standIns := [], harness := (true, "0cf205e81effa3205570d8ebe61769afc0d8e81316675c8f87eba284e0d39711"), looks := true }, kinds := [], alts := [], laidByText := true, laidKinds := [.data], laidTests := true, laidLooks := .later }
def HpackBrokenUptoCardSaid : Prop := Claim7.holds Tryd.pinned (.plain (OpenSpec.upto hpackBrokenSpec)) hpackBrokenUptoCard

/-- THE SECOND FORM's CARD OF 'drawbridgelaw05.HpackNever'. -/
def hpackNeverUptoCard : Claim7 := { stood := { row := hpackNeverUptoRow, standIns := [], harness := (true, "0cf205e81effa3205570d8ebe61769afc0d8e81316675c8f87eba284e0d39711"), looks := true }, kinds := [], alts := [], laidByText := true, laidKinds := [.data], laidTests := true, laidLooks := .later }
def HpackNeverUptoCardSaid : Prop := Claim7.holds Tryd.pinned (.plain (OpenSpec.upto hpackNeverSpec)) hpackNeverUptoCard
end Rows
end Go.Proofs.YtdkgachgohilcaaDoor
