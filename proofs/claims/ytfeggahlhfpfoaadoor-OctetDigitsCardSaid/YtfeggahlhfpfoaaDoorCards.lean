/-
  DERIVED. GIVEN WITH THE SEED: THE CARDS: each row of YtfeggahlhfpfoaaDoorRows.lean that lists a variable, with what it lists TIED to the program's text (the seventh form; the later family's looks); each row that meets fmt, with fmt's text TOLD by the authors' own Lean function (tested against real Go, not proved from fmt's source: count such statements apart). THE CARD IS WHAT COUNTS. Prove the row's statement (the work); the ties are given (YtfeggahlhfpfoaaDoorTie.lean); close each card by the builder's one call (the guide's Derived/Test/ToyasCard.lean, 'card_holds'). Laid BY PROGRAM, IN A SANDBOX (cutbox-door.mjs). By AI agents, Wed Nov 11 2026. No macro, syntax, notation, axiom, sorry.
-/
import Derived.Test.YtfeggahlhfpfoaaDoorRows
import GoSem.ClaimSeven
namespace Go.Proofs.YtfeggahlhfpfoaaDoor
namespace Rows

/-- THE TIED CARD OF 'drawbridgelaw01.OctetDigits'. -/
def octetDigitsCard : Claim7 := { stood := { row := octetDigitsRow, standIns := [], harness := (true, "13ecabee6f3fe2dab483c6614d3ee7d1a94a6c328378a34f8423cb9ac05c2f8a"), looks := false }, kinds := [], alts := [], laidByText := true, laidKinds := [.data, .data, .data], laidTests := true, laidLooks := .later }
def OctetDigitsCardSaid : Prop := Claim7.holds Tryd.pinned (.plain (OpenSpec.ofChange octetDigitsSpec)) octetDigitsCard

/-- THE TIED CARD OF 'drawbridgelaw01.OctetGrows'. -/
def octetGrowsCard : Claim7 := { stood := { row := octetGrowsRow, standIns := [], harness := (true, "13ecabee6f3fe2dab483c6614d3ee7d1a94a6c328378a34f8423cb9ac05c2f8a"), looks := false }, kinds := [], alts := [], laidByText := true, laidKinds := [.data, .data, .data], laidTests := true, laidLooks := .later }
def OctetGrowsCardSaid : Prop := Claim7.holds Tryd.pinned (.plain (OpenSpec.ofChange octetGrowsSpec)) octetGrowsCard

/-- THE SECOND FORM's CARD OF 'drawbridgelaw01.OctetDigits'. -/
def octetDigitsUptoCard : Claim7 := { stood := { row := octetDigitsUptoRow, standIns := [], harness := (true, "13ecabee6f3fe2dab483c6614d3ee7d1a94a6c328378a34f8423cb9ac05c2f8a"), looks := false }, kinds := [], alts := [], laidByText := true, laidKinds := [.data, .data, .data], laidTests := true, laidLooks := .later }
def OctetDigitsUptoCardSaid : Prop := Claim7.holds Tryd.pinned (.plain (OpenSpec.upto octetDigitsSpec)) octetDigitsUptoCard

/-- THE SECOND FORM's CARD OF 'drawbridgelaw01.OctetGrows'. -/
def octetGrowsUptoCard : Claim7 := { stood := { row := octetGrowsUptoRow, standIns := [], harness := (true, "13ecabee6f3fe2dab483c6614d3ee7d1a94a6c328378a34f8423cb9ac05c2f8a"), looks := false }, kinds := [], alts := [], laidByText := true, laidKinds := [.data, .data, .data], laidTests := true, laidLooks := .later }
def OctetGrowsUptoCardSaid : Prop := Claim7.holds Tryd.pinned (.plain (OpenSpec.upto octetGrowsSpec)) octetGrowsUptoCard
end Rows
end Go.Proofs.YtfeggahlhfpfoaaDoor
