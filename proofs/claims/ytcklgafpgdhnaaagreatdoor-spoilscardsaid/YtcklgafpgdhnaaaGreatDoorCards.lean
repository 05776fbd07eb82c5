/-
  DERIVED. GIVEN WITH THE SEED: THE CARDS: each row of YtcklgafpgdhnaaaGreatDoorRows.lean that lists a variable, with what it lists TIED to the program's text (the seventh form; the later family's looks); each row that meets fmt, with fmt's text TOLD by the authors' own Lean function (tested against real Go, not proved from fmt's source: count such statements apart). THE CARD IS WHAT COUNTS. Prove the row's statement (the work); the ties are given (YtcklgafpgdhnaaaGreatDoorTie.lean); close each card by the builder's one call (the guide's Derived/Test/ToyasCard.lean, 'card_holds'). Laid BY PROGRAM, IN A SANDBOX (cutbox-door.mjs). By AI agents, Wed Nov 11 2026. No macro, syntax, notation, axiom, sorry.
-/
import Derived.Test.YtcklgafpgdhnaaaGreatDoorRows
import GoSem.ClaimSeven
namespace Go.Proofs.YtcklgafpgdhnaaaGreatDoor
namespace Rows

/-- THE TIED CARD OF 'storelaw.Opens'. -/
def opensCard : Claim7 := { stood := { row := opensRow, standIns := [], harness := (true, "82581617cbcec3628abfa3ac5880ff711838333e90d86cc98c26951dec386b8b"), looks := true }, kinds := [], alts := [], laidByText := true, laidKinds := [.data, .data, .data, .handle], laidTests := true, laidLooks := .later }
def OpensCardSaid : Prop := Claim7.holds Tryz.pinned (.plain (OpenSpec.ofChange opensSpec)) opensCard

/-- THE TIED CARD OF 'storelaw.Maps'. -/
def mapsCard : Claim7 := { stood := { row := mapsRow, standIns := [], harness := (true, "82581617cbcec3628abfa3ac5880ff711838333e90d86cc98c26951dec386b8b"), looks := true }, kinds := [], alts := [], laidByText := true, laidKinds := [.data, .data, .data, .handle], laidTests := true, laidLooks := .later }
def MapsCardSaid : Prop := Claim7.holds Tryz.pinned (.plain (OpenSpec.ofChange mapsSpec)) mapsCard

/-- THE TIED CARD OF 'storelaw.Syncs'. -/
def syncsCard : Claim7 := { stood := { row := syncsRow, standIns := [], harness := (true, "82581617cbcec3628abfa3ac5880ff711838333e90d86cc98c26951dec386b8b"), looks := true }, kinds := [], alts := [], laidByText := true, laidKinds := [.data, .data, .data, .handle], laidTests := true, laidLooks := .later }
def SyncsCardSaid : Prop := Claim7.holds Tryz.pinned (.plain (OpenSpec.ofChange syncsSpec)) syncsCard

/-- THE TIED CARD OF 'storelaw.Crashes'. -/
def crashesCard : Claim7 := { stood := { row := crashesRow, standIns := [], harness := (true, "82581617cbcec3628abfa3ac5880ff711838333e90d86cc98c26951dec386b8b"), looks := true }, kinds := [], alts := [], laidByText := true, laidKinds := [.data, .data, .data, .handle], laidTests := true, laidLooks := .later }
def CrashesCardSaid : Prop := Claim7.holds Tryz.pinned (.plain (OpenSpec.ofChange crashesSpec)) crashesCard

/-- THE TIED CARD OF 'storelaw.Faults'. -/
def faultsCard : Claim7 := { stood := { row := faultsRow, standIns := [], harness := (true, "82581617cbcec3628abfa3ac5880ff711838333e90d86cc98c26951dec386b8b"), looks := true }, kinds := [], alts := [], laidByText := true, laidKinds := [.data, .data, .data, .handle], laidTests := true, laidLooks := .later }
def FaultsCardSaid : Prop := Claim7.holds Tryz.pinned (.plain (OpenSpec.ofChange faultsSpec)) faultsCard

/-- THE TIED CARD OF 'storelaw.Spoils'. -/
def spoilsCard : Claim7 := { stood := { row := spoilsRow, standIns := [], harness := (true, "82581617cbcec3628abfa3ac5880ff711838333e90d86cc98c26951dec386b8b"), looks := true }, kinds := [], alts := [], laidByText := true, laidKinds := [.data, .data, .data, .handle], laidTests := true, laidLooks := .later }
def SpoilsCardSaid : Prop := Claim7.holds Tryz.pinned (.plain (OpenSpec.ofChange spoilsSpec)) spoilsCard

/-- THE TIED CARD OF 'storelaw.All'. -/
def allCard : Claim7 := { stood := { row := allRow, standIns := [], harness := (true, "82581617cbcec3628abfa3ac5880ff711838333e90d86cc98c26951dec386b8b"), looks := true }, kinds := [], alts := [], laidByText := true, laidKinds := [.data, .data, .data, .handle], laidTests := true, laidLooks := .later }
def AllCardSaid : Prop := Claim7.holds Tryz.pinned (.plain (OpenSpec.ofChange allSpec)) allCard

/-- THE TIED CARD OF 'storekeep.Sorted'. -/
def sortedCard : Claim7 := { stood := { row := sortedRow, standIns := [], harness := (true, "82581617cbcec3628abfa3ac5880ff711838333e90d86cc98c26951dec386b8b"), looks := true }, kinds := [], alts := [], laidByText := true, laidKinds := [.data, .data, .data], laidTests := true, laidLooks := .later }
def SortedCardSaid : Prop := Claim7.holds Tryz.pinned (.plain (OpenSpec.ofChange sortedSpec)) sortedCard

/-- THE TIED CARD OF 'storekeep.Durable'. -/
def durableCard : Claim7 := { stood := { row := durableRow, standIns := [], harness := (true, "82581617cbcec3628abfa3ac5880ff711838333e90d86cc98c26951dec386b8b"), looks := true }, kinds := [], alts := [], laidByText := true, laidKinds := [.data, .data, .data], laidTests := true, laidLooks := .later }
def DurableCardSaid : Prop := Claim7.holds Tryz.pinned (.plain (OpenSpec.ofChange durableSpec)) durableCard

/-- THE TIED CARD OF 'storekeep.Quiet'. -/
def quietCard : Claim7 := { stood := { row := quietRow, standIns := [], harness := (true, "82581617cbcec3628abfa3ac5880ff711838333e90d86cc98c26951dec386b8b"), looks := true }, kinds := [], alts := [], laidByText := true, laidKinds := [.data, .data, .data], laidTests := true, laidLooks := .later }
def QuietCardSaid : Prop := Claim7.holds Tryz.pinned (.plain (OpenSpec.ofChange quietSpec)) quietCard

/-- THE TIED CARD OF 'storekeep.Spare'. -/
def spareCard : Claim7 := { stood := { row := spareRow, standIns := [], harness := (true, "82581617cbcec3628abfa3ac5880ff711838333e90d86cc98c26951dec386b8b"), looks := true }, kinds := [], alts := [], laidByText := true, laidKinds := [.data, .data, .data], laidTests := true, laidLooks := .later }
def SpareCardSaid : Prop := Claim7.holds Tryz.pinned (.plain (OpenSpec.ofChange spareSpec)) spareCard

/-- THE TIED CARD OF 'storekeep.Cheap'. -/
def cheapCard : Claim7 := { stood := { row := cheapRow, standIns := [], harness := (true, "82581617cbcec3628abfa3ac5880ff711838333e90d86cc98c26951dec386b8b"), looks := true }, kinds := [], alts := [], laidByText := true, laidKinds := [.data, .data, .data], laidTests := true, laidLooks := .later }
def CheapCardSaid : Prop := Claim7.holds Tryz.pinned (.plain (OpenSpec.ofChange cheapSpec)) cheapCard

/-- THE SECOND FORM's CARD OF 'storelaw.Opens'. -/
def opensUptoCard : Claim7 := { stood := { row := opensUptoRow, standIns := [], harness := (true, "82581617cbcec3628abfa3ac5880ff711838333e90d86cc98c26951dec386b8b"), looks := true }, kinds := [], alts := [], laidByText := true, laidKinds := [.data, .data, .data, .handle], laidTests := true, laidLooks := .later }
def OpensUptoCardSaid : Prop := Claim7.holds Tryz.pinned (.plain (OpenSpec.upto opensSpec)) opensUptoCard

/-- THE SECOND FORM's CARD OF 'storelaw.Maps'. -/
def mapsUptoCard : Claim7 := { stood := { row := mapsUptoRow, standIns := [], harness := (true, "82581617cbcec3628abfa3ac5880ff711838333e90d86cc98c26951dec386b8b"), looks := true }, kinds := [], alts := [], laidByText := true, laidKinds := [.data, .data, .data, .handle], laidTests := true, laidLooks := .later }
def MapsUptoCardSaid : Prop := Claim7.holds Tryz.pinned (.plain (OpenSpec.upto mapsSpec)) mapsUptoCard

/-- THE SECOND FORM's CARD OF 'storelaw.Syncs'. -/
def syncsUptoCard : Claim7 := { stood := { row := syncsUptoRow, standIns := [], harness := (true, "82581617cbcec3628abfa3ac5880ff711838333e90d86cc98c26951dec386b8b"), looks := true }, kinds := [], alts := [], laidByText := true, laidKinds := [.data, .data, .data, .handle], laidTests := true, laidLooks := .later }
def SyncsUptoCardSaid : Prop := Claim7.holds Tryz.pinned (.plain (OpenSpec.upto syncsSpec)) syncsUptoCard

/-- THE SECOND FORM's CARD OF 'storelaw.Crashes'. -/
def crashesUptoCard : Claim7 := { stood := { row := crashesUptoRow, standIns := [], harness := (true, "82581617cbcec3628abfa3ac5880ff711838333e90d86cc98c26951dec386b8b"), looks := true }, kinds := [], alts := [], laidByText := true, laidKinds := [.data, .data, .data, .handle], laidTests := true, laidLooks := .later }
def CrashesUptoCardSaid : Prop := Claim7.holds Tryz.pinned (.plain (OpenSpec.upto crashesSpec)) crashesUptoCard

/-- THE SECOND FORM's CARD OF 'storelaw.Faults'. -/
def faultsUptoCard : Claim7 := { stood := { row := faultsUptoRow, standIns := [], harness := (true, "82581617cbcec3628abfa3ac5880ff711838333e90d86cc98c26951dec386b8b"), looks := true }, kinds := [], alts := [], laidByText := true, laidKinds := [.data, .data, .data, .handle], laidTests := true, laidLooks := .later }
def FaultsUptoCardSaid : Prop := Claim7.holds Tryz.pinned (.plain (OpenSpec.upto faultsSpec)) faultsUptoCard

/-- THE SECOND FORM's CARD OF 'storelaw.Spoils'. -/
def spoilsUptoCard : Claim7 := { stood := { row := spoilsUptoRow, standIns := [], harness := (true, "82581617cbcec3628abfa3ac5880ff711838333e90d86cc98c26951dec386b8b"), looks := true }, kinds := [], alts := [], laidByText := true, laidKinds := [.data, .data, .data, .handle], laidTests := true, laidLooks := .later }
def SpoilsUptoCardSaid : Prop := Claim7.holds Tryz.pinned (.plain (OpenSpec.upto spoilsSpec)) spoilsUptoCard

/-- THE SECOND FORM's CARD OF 'storelaw.All'. -/
def allUptoCard : Claim7 := { stood := { row := allUptoRow, standIns := [], harness := (true, "82581617cbcec3628abfa3ac5880ff711838333e90d86cc98c26951dec386b8b"), looks := true }, kinds := [], alts := [], laidByText := true, laidKinds := [.data, .data, .data, .handle], laidTests := true, laidLooks := .later }
def AllUptoCardSaid : Prop := Claim7.holds Tryz.pinned (.plain (OpenSpec.upto allSpec)) allUptoCard

/-- THE SECOND FORM's CARD OF 'storekeep.Sorted'. -/
def sortedUptoCard : Claim7 := { stood := { row := sortedUptoRow, standIns := [], harness := (true, "82581617cbcec3628abfa3ac5880ff711838333e90d86cc98c26951dec386b8b"), looks := true }, kinds := [], alts := [], laidByText := true, laidKinds := [.data, .data, .data], laidTests := true, laidLooks := .later }
def SortedUptoCardSaid : Prop := Claim7.holds Tryz.pinned (.plain (OpenSpec.upto sortedSpec)) sortedUptoCard

/-- THE SECOND FORM's CARD OF 'storekeep.Durable'. -/
def durableUptoCard : Claim7 := { stood := { row := durableUptoRow, standIns := [], harness := (true, "82581617cbcec3628abfa3ac5880ff711838333e90d86cc98c26951dec386b8b"), looks := true }, kinds := [], alts := [], laidByText := true, laidKinds := [.data, .data, .data], laidTests := true, laidLooks := .later }
def DurableUptoCardSaid : Prop := Claim7.holds Tryz.pinned (.plain (OpenSpec.upto durableSpec)) durableUptoCard

/-- THE SECOND FORM's CARD OF 'storekeep.Quiet'. -/
def quietUptoCard : Claim7 := { stood := { row := quietUptoRow, standIns := [], harness := (true, "82581617cbcec3628abfa3ac5880ff711838333e90d86cc98c26951dec386b8b"), looks := true }, kinds := [], alts := [], laidByText := true, laidKinds := [.data, .data, .data], laidTests := true, laidLooks := .later }
def QuietUptoCardSaid : Prop := Claim7.holds Tryz.pinned (.plain (OpenSpec.upto quietSpec)) quietUptoCard

/-- THE SECOND FORM's CARD OF 'storekeep.Spare'. -/
def spareUptoCard : Claim7 := { stood := { row := spareUptoRow, standIns := [], harness := (true, "82581617cbcec3628abfa3ac5880ff711838333e90d86cc98c26951dec386b8b"), looks := true }, kinds := [], alts := [], laidByText := true, laidKinds := [.data, .data, .data], laidTests := true, laidLooks := .later }
def SpareUptoCardSaid : Prop := Claim7.holds Tryz.pinned (.plain (OpenSpec.upto spareSpec)) spareUptoCard

/-- THE SECOND FORM's CARD OF 'storekeep.Cheap'. -/
def cheapUptoCard : Claim7 := { stood := { row := cheapUptoRow, standIns := [], harness := (true, "82581617cbcec3628abfa3ac5880ff711838333e90d86cc98c26951dec386b8b"), looks := true }, kinds := [], alts := [], laidByText := true, laidKinds := [.data, .data, .data], laidTests := true, laidLooks := .later }
def CheapUptoCardSaid : Prop := Claim7.holds Tryz.pinned (.plain (OpenSpec.upto cheapSpec)) cheapUptoCard
end Rows
end Go.Proofs.YtcklgafpgdhnaaaGreatDoor
