/-
  DERIVED. GIVEN WITH THE SEED: THE CARDS: each row of YtglhdlkmgmbgeaaDoorRows.lean that lists a variable, with what it lists TIED to the program's text (the seventh form; the later family's looks); each row that meets fmt, with fmt's text TOLD by the authors' own Lean function (tested against real Go, not proved from fmt's source: count such statements apart). THE CARD IS WHAT COUNTS. Prove the row's statement (the work); the ties are given (YtglhdlkmgmbgeaaDoorTie.lean); close each card by the builder's one call (the guide's Derived/Test/ToyasCard.lean, 'card_holds'). Laid BY PROGRAM, IN A SANDBOX (cutbox-door.mjs). By AI agents, Wed Nov 11 2026. No macro, syntax, notation, axiom, sorry.
-/
import Derived.Test.YtglhdlkmgmbgeaaDoorRows
import GoSem.ClaimSeven
namespace Go.Proofs.YtglhdlkmgmbgeaaDoor
namespace Rows

/-- THE TIED CARD OF 'drawbridgelaw07.ChopTakes'. -/
def chopTakesCard : Claim7 := { stood := { row := chopTakesRow, standIns := [], harness := (true, "0f7798332406ef04747b2067fe1c00b4cce8b61eb55e8dd4de013c14c8e7316f"), looks := false }, kinds := [], alts := [], laidByText := true, laidKinds := [.data], laidTests := true, laidLooks := .later }
def ChopTakesCardSaid : Prop := Claim7.holds Tryd.pinned (.plain (OpenSpec.ofChange chopTakesSpec)) chopTakesCard

/-- THE TIED CARD OF 'drawbridgelaw07.ChopParts'. -/
def chopPartsCard : Claim7 := { stood := { row := chopPartsRow, standIns := [], harness := (true, "0f7798332406ef04747b2067fe1c00b4cce8b61eb55e8dd4de013c14c8e7316f"), looks := false }, kinds := [], alts := [], laidByText := true, laidKinds := [.data], laidTests := true, laidLooks := .later }
def ChopPartsCardSaid : Prop := Claim7.holds Tryd.pinned (.plain (OpenSpec.ofChange chopPartsSpec)) chopPartsCard

/-- THE TIED CARD OF 'drawbridgelaw07.ChopKeeps'. -/
def chopKeepsCard : Claim7 := { stood := { row := chopKeepsRow, standIns := [], harness := (true, "0f7798332406ef04747b2067fe1c00b4cce8b61eb55e8dd4de013c14c8e7316f"), looks := false }, kinds := [], alts := [], laidByText := true, laidKinds := [.data], laidTests := true, laidLooks := .later }
def ChopKeepsCardSaid : Prop := Claim7.holds Tryd.pinned (.plain (OpenSpec.ofChange chopKeepsSpec)) chopKeepsCard

/-- THE TIED CARD OF 'drawbridgelaw07.ChopPreface'. -/
def chopPrefaceCard : Claim7 := { stood := { row := chopPrefaceRow, standIns := [], harness := (true, "0f7798332406ef04747b2067fe1c00b4cce8b61eb55e8dd4de013c14c8e7316f"), looks := false }, kinds := [], alts := [], laidByText := true, laidKinds := [.data], laidTests := true, laidLooks := .later }
def ChopPrefaceCardSaid : Prop := Claim7.holds Tryd.pinned (.plain (OpenSpec.ofChange chopPrefaceSpec)) chopPrefaceCard

/-- THE TIED CARD OF 'drawbridgelaw07.ChopGoes'. -/
def chopGoesCard : Claim7 := { stood := { row := chopGoesRow, standIns := [], harness := (true, "0f7798332406ef04747b2067fe1c00b4cce8b61eb55e8dd4de013c14c8e7316f"), looks := false }, kinds := [], alts := [], laidByText := true, laidKinds := [.data], laidTests := true, laidLooks := .later }
def ChopGoesCardSaid : Prop := Claim7.holds Tryd.pinned (.plain (OpenSpec.ofChange chopGoesSpec)) chopGoesCard

/-- THE SECOND FORM's CARD OF 'drawbridgelaw07.ChopTakes'. -/
def chopTakesUptoCard : Claim7 := { stood := { row := chopTakesUptoRow, standIns := [], harness := (true, "0f7798332406ef04747b2067fe1c00b4cce8b61eb55e8dd4de013c14c8e7316f"), looks := false }, kinds := [], alts := [], laidByText := true, laidKinds := [.data], laidTests := true, laidLooks := .later }
def ChopTakesUptoCardSaid : Prop := Claim7.holds Tryd.pinned (.plain (OpenSpec.upto chopTakesSpec)) chopTakesUptoCard

/-- THE SECOND FORM's CARD OF 'drawbridgelaw07.ChopParts'. -/
def chopPartsUptoCard : Claim7 := { stood := { row := chopPartsUptoRow, standIns := [], harness := (true, "0f7798332406ef04747b2067fe1c00b4cce8b61eb55e8dd4de013c14c8e7316f"), looks := false }, kinds := [], alts := [], laidByText := true, laidKinds := [.data], laidTests := true, laidLooks := .later }
def ChopPartsUptoCardSaid : Prop := Claim7.holds Tryd.pinned (.plain (OpenSpec.upto chopPartsSpec)) chopPartsUptoCard

/-- THE SECOND FORM's CARD OF 'drawbridgelaw07.ChopKeeps'. -/
def chopKeepsUptoCard : Claim7 := { stood := { row := chopKeepsUptoRow, standIns := [], harness := (true, "0f7798332406ef04747b2067fe1c00b4cce8b61eb55e8dd4de013c14c8e7316f"), looks := false }, kinds := [], alts := [], laidByText := true, laidKinds := [.data], laidTests := true, laidLooks := .later }
def ChopKeepsUptoCardSaid : Prop := Claim7.holds Tryd.pinned (.plain (OpenSpec.upto chopKeepsSpec)) chopKeepsUptoCard

/-- THE SECOND FORM's CARD OF 'drawbridgelaw07.ChopPreface'. -/
def chopPrefaceUptoCard : Claim7 := { stood := { row := chopPrefaceUptoRow, standIns := [], harness := (true, "0f7798332406ef04747b2067fe1c00b4cce8b61eb55e8dd4de013c14c8e7316f"), looks := false }, kinds := [], alts := [], laidByText := true, laidKinds := [.data], laidTests := true, laidLooks := .later }
def ChopPrefaceUptoCardSaid : Prop := Claim7.holds Tryd.pinned (.plain (OpenSpec.upto chopPrefaceSpec)) chopPrefaceUptoCard

/-- THE SECOND FORM's CARD OF 'drawbridgelaw07.ChopGoes'. -/
def chopGoesUptoCard : Claim7 := { stood := { row := chopGoesUptoRow, standIns := [], harness := (true, "0f7798332406ef04747b2067fe1c00b4cce8b61eb55e8dd4de013c14c8e7316f"), looks := false }, kinds := [], alts := [], laidByText := true, laidKinds := [.data], laidTests := true, laidLooks := .later }
def ChopGoesUptoCardSaid : Prop := Claim7.holds Tryd.pinned (.plain (OpenSpec.upto chopGoesSpec)) chopGoesUptoCard
end Rows
end Go.Proofs.YtglhdlkmgmbgeaaDoor
