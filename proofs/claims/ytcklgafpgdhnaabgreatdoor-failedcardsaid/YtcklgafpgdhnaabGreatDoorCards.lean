/-
  DERIVED. GIVEN WITH THE SEED: THE CARDS: each row of YtcklgafpgdhnaabGreatDoorRows.lean that lists a variable, with what it lists TIED to the program's text (the seventh form; the later family's looks); each row that meets fmt, with fmt's text TOLD by the authors' own Lean function (tested against real Go, not proved from fmt's source: count such statements apart). THE CARD IS WHAT COUNTS. Prove the row's statement (the work); the ties are given (YtcklgafpgdhnaabGreatDoorTie.lean); close each card by the builder's one call (the guide's Derived/Test/ToyasCard.lean, 'card_holds'). Laid BY PROGRAM, IN A SANDBOX (cutbox-door.mjs). By AI agents, Wed Nov 11 2026. No macro, syntax, notation, axiom, sorry.
-/
import Derived.Test.YtcklgafpgdhnaabGreatDoorRows
import GoSem.ClaimSeven
namespace Go.Proofs.YtcklgafpgdhnaabGreatDoor
namespace Rows

/-- THE TIED CARD OF 'storekeep.Either'. -/
def eitherCard : Claim7 := { stood := { row := eitherRow, standIns := [], harness := (true, "7dde78c2a11cb85a5bee1afcf21f52a7a18f2e789cfe25338b3ad3c18d83d525"), looks := true }, kinds := [], alts := [], laidByText := true, laidKinds := [.data, .data, .data], laidTests := true, laidLooks := .later }
def EitherCardSaid : Prop := Claim7.holds Tryz.pinned (.plain (OpenSpec.ofChange eitherSpec)) eitherCard

/-- THE TIED CARD OF 'storekeep.Failed'. -/
def failedCard : Claim7 := { stood := { row := failedRow, standIns := [], harness := (true, "7dde78c2a11cb85a5bee1afcf21f52a7a18f2e789cfe25338b3ad3c18d83d525"), looks := true }, kinds := [], alts := [], laidByText := true, laidKinds := [.data, .data, .data, .handle], laidTests := true, laidLooks := .later }
def FailedCardSaid : Prop := Claim7.holds Tryz.pinned (.plain (OpenSpec.ofChange failedSpec)) failedCard

/-- THE TIED CARD OF 'storekeep.Flipped'. -/
def flippedCard : Claim7 := { stood := { row := flippedRow, standIns := [], harness := (true, "7dde78c2a11cb85a5bee1afcf21f52a7a18f2e789cfe25338b3ad3c18d83d525"), looks := true }, kinds := [], alts := [], laidByText := true, laidKinds := [.data, .data, .data, .handle], laidTests := true, laidLooks := .later }
def FlippedCardSaid : Prop := Claim7.holds Tryz.pinned (.plain (OpenSpec.ofChange flippedSpec)) flippedCard

/-- THE TIED CARD OF 'storekeep.Wild'. -/
def wildCard : Claim7 := { stood := { row := wildRow, standIns := [], harness := (true, "7dde78c2a11cb85a5bee1afcf21f52a7a18f2e789cfe25338b3ad3c18d83d525"), looks := true }, kinds := [], alts := [], laidByText := true, laidKinds := [.data, .data, .data, .handle], laidTests := true, laidLooks := .later }
def WildCardSaid : Prop := Claim7.holds Tryz.pinned (.plain (OpenSpec.ofChange wildSpec)) wildCard

/-- THE SECOND FORM's CARD OF 'storekeep.Either'. -/
def eitherUptoCard : Claim7 := { stood := { row := eitherUptoRow, standIns := [], harness := (true, "7dde78c2a11cb85a5bee1afcf21f52a7a18f2e789cfe25338b3ad3c18d83d525"), looks := true }, kinds := [], alts := [], laidByText := true, laidKinds := [.data, .data, .data], laidTests := true, laidLooks := .later }
def EitherUptoCardSaid : Prop := Claim7.holds Tryz.pinned (.plain (OpenSpec.upto eitherSpec)) eitherUptoCard

/-- THE SECOND FORM's CARD OF 'storekeep.Failed'. -/
def failedUptoCard : Claim7 := { stood := { row := failedUptoRow, standIns := [], harness := (true, "7dde78c2a11cb85a5bee1afcf21f52a7a18f2e789cfe25338b3ad3c18d83d525"), looks := true }, kinds := [], alts := [], laidByText := true, laidKinds := [.data, .data, .data, .handle], laidTests := true, laidLooks := .later }
def FailedUptoCardSaid : Prop := Claim7.holds Tryz.pinned (.plain (OpenSpec.upto failedSpec)) failedUptoCard

/-- THE SECOND FORM's CARD OF 'storekeep.Flipped'. -/
def flippedUptoCard : Claim7 := { stood := { row := flippedUptoRow, standIns := [], harness := (true, "7dde78c2a11cb85a5bee1afcf21f52a7a18f2e789cfe25338b3ad3c18d83d525"), looks := true }, kinds := [], alts := [], laidByText := true, laidKinds := [.data, .data, .data, .handle], laidTests := true, laidLooks := .later }
def FlippedUptoCardSaid : Prop := Claim7.holds Tryz.pinned (.plain (OpenSpec.upto flippedSpec)) flippedUptoCard

/-- THE SECOND FORM's CARD OF 'storekeep.Wild'. -/
def wildUptoCard : Claim7 := { stood := { row := wildUptoRow, standIns := [], harness := (true, "7dde78c2a11cb85a5bee1afcf21f52a7a18f2e789cfe25338b3ad3c18d83d525"), looks := true }, kinds := [], alts := [], laidByText := true, laidKinds := [.data, .data, .data, .handle], laidTests := true, laidLooks := .later }
def WildUptoCardSaid : Prop := Claim7.holds Tryz.pinned (.plain (OpenSpec.upto wildSpec)) wildUptoCard
end Rows
end Go.Proofs.YtcklgafpgdhnaabGreatDoor
