/-
  DERIVED. GIVEN WITH THE SEED: THE CARDS: each row of YtadkmlcnmkdfiaaGreatDoorRows.lean that lists a variable, with what it lists TIED to the program's text (the seventh form; the later family's looks); each row that meets fmt, with fmt's text TOLD by the authors' own Lean function (tested against real Go, not proved from fmt's source: count such statements apart). THE CARD IS WHAT COUNTS. Prove the row's statement (the work); the ties are given (YtadkmlcnmkdfiaaGreatDoorTie.lean); close each card by the builder's one call (the guide's Derived/Test/ToyasCard.lean, 'card_holds'). Laid BY PROGRAM, IN A SANDBOX (cutbox-door.mjs). By AI agents, Wed Nov 11 2026. No macro, syntax, notation, axiom, sorry.
-/
import Derived.Test.YtadkmlcnmkdfiaaGreatDoorRows
import GoSem.ClaimSeven
namespace Go.Proofs.YtadkmlcnmkdfiaaGreatDoor
namespace Rows

/-- THE TIED CARD OF 'gussetlaw12.ExportsEntries'. -/
def exportsEntriesCard : Claim7 := { stood := { row := exportsEntriesRow, standIns := [], harness := (true, "d37852aa4651dac7553578fc8688e8c2af880cef5abc923d5de7ed47ef0d64a3"), looks := false }, kinds := [], alts := [], laidByText := true, laidKinds := [.data], laidTests := true, laidLooks := .later }
def ExportsEntriesCardSaid : Prop := Claim7.holds Tryz.pinned (.plain (OpenSpec.ofChange exportsEntriesSpec)) exportsEntriesCard

/-- THE TIED CARD OF 'gussetlaw12.ExportsResolves'. -/
def exportsResolvesCard : Claim7 := { stood := { row := exportsResolvesRow, standIns := [], harness := (true, "d37852aa4651dac7553578fc8688e8c2af880cef5abc923d5de7ed47ef0d64a3"), looks := false }, kinds := [], alts := [], laidByText := true, laidKinds := [.data], laidTests := true, laidLooks := .later }
def ExportsResolvesCardSaid : Prop := Claim7.holds Tryz.pinned (.plain (OpenSpec.ofChange exportsResolvesSpec)) exportsResolvesCard

/-- THE TIED CARD OF 'gussetlaw12.ExportsNames'. -/
def exportsNamesCard : Claim7 := { stood := { row := exportsNamesRow, standIns := [], harness := (true, "d37852aa4651dac7553578fc8688e8c2af880cef5abc923d5de7ed47ef0d64a3"), looks := false }, kinds := [], alts := [], laidByText := true, laidKinds := [.data], laidTests := true, laidLooks := .later }
def ExportsNamesCardSaid : Prop := Claim7.holds Tryz.pinned (.plain (OpenSpec.ofChange exportsNamesSpec)) exportsNamesCard

/-- THE TIED CARD OF 'gussetlaw12.ExportsOwn'. -/
def exportsOwnCard : Claim7 := { stood := { row := exportsOwnRow, standIns := [], harness := (true, "d37852aa4651dac7553578fc8688e8c2af880cef5abc923d5de7ed47ef0d64a3"), looks := false }, kinds := [], alts := [], laidByText := true, laidKinds := [.data], laidTests := true, laidLooks := .later }
def ExportsOwnCardSaid : Prop := Claim7.holds Tryz.pinned (.plain (OpenSpec.ofChange exportsOwnSpec)) exportsOwnCard

/-- THE TIED CARD OF 'gussetlaw12.ExportsWays'. -/
def exportsWaysCard : Claim7 := { stood := { row := exportsWaysRow, standIns := [], harness := (true, "d37852aa4651dac7553578fc8688e8c2af880cef5abc923d5de7ed47ef0d64a3"), looks := false }, kinds := [], alts := [], laidByText := true, laidKinds := [.data], laidTests := true, laidLooks := .later }
def ExportsWaysCardSaid : Prop := Claim7.holds Tryz.pinned (.plain (OpenSpec.ofChange exportsWaysSpec)) exportsWaysCard

/-- THE TIED CARD OF 'gussetlaw12.ExportsRound'. -/
def exportsRoundCard : Claim7 := { stood := { row := exportsRoundRow, standIns := [], harness := (true, "d37852aa4651dac7553578fc8688e8c2af880cef5abc923d5de7ed47ef0d64a3"), looks := false }, kinds := [], alts := [], laidByText := true, laidKinds := [.data], laidTests := true, laidLooks := .later }
def ExportsRoundCardSaid : Prop := Claim7.holds Tryz.pinned (.plain (OpenSpec.ofChange exportsRoundSpec)) exportsRoundCard

/-- THE SECOND FORM's CARD OF 'gussetlaw12.ExportsEntries'. -/
def exportsEntriesUptoCard : Claim7 := { stood := { row := exportsEntriesUptoRow, standIns := [], harness := (true, "d37852aa4651dac7553578fc8688e8c2af880cef5abc923d5de7ed47ef0d64a3"), looks := false }, kinds := [], alts := [], laidByText := true, laidKinds := [.data], laidTests := true, laidLooks := .later }
def ExportsEntriesUptoCardSaid : Prop := Claim7.holds Tryz.pinned (.plain (OpenSpec.upto exportsEntriesSpec)) exportsEntriesUptoCard

/-- THE SECOND FORM's CARD OF 'gussetlaw12.ExportsResolves'. -/
def exportsResolvesUptoCard : Claim7 := { stood := { row := exportsResolvesUptoRow, standIns := [], harness := (true, "d37852aa4651dac7553578fc8688e8c2af880cef5abc923d5de7ed47ef0d64a3"), looks := false }, kinds := [], alts := [], laidByText := true, laidKinds := [.data], laidTests := true, laidLooks := .later }
def ExportsResolvesUptoCardSaid : Prop := Claim7.holds Tryz.pinned (.plain (OpenSpec.upto exportsResolvesSpec)) exportsResolvesUptoCard

/-- THE SECOND FORM's CARD OF 'gussetlaw12.ExportsNames'. -/
def exportsNamesUptoCard : Claim7 := { stood := { row := exportsNamesUptoRow, standIns := [], harness := (true, "d37852aa4651dac7553578fc8688e8c2af880cef5abc923d5de7ed47ef0d64a3"), looks := false }, kinds := [], alts := [], laidByText := true, laidKinds := [.data], laidTests := true, laidLooks := .later }
def ExportsNamesUptoCardSaid : Prop := Claim7.holds Tryz.pinned (.plain (OpenSpec.upto exportsNamesSpec)) exportsNamesUptoCard

/-- THE SECOND FORM's CARD OF 'gussetlaw12.ExportsOwn'. -/
def exportsOwnUptoCard : Claim7 := { stood := { row := exportsOwnUptoRow, standIns := [], harness := (true, "d37852aa4651dac7553578fc8688e8c2af880cef5abc923d5de7ed47ef0d64a3"), looks := false }, kinds := [], alts := [], laidByText := true, laidKinds := [.data], laidTests := true, laidLooks := .later }
def ExportsOwnUptoCardSaid : Prop := Claim7.holds Tryz.pinned (.plain (OpenSpec.upto exportsOwnSpec)) exportsOwnUptoCard

/-- THE SECOND FORM's CARD OF 'gussetlaw12.ExportsWays'. -/
def exportsWaysUptoCard : Claim7 := { stood := { row := exportsWaysUptoRow, standIns := [], harness := (true, "d37852aa4651dac7553578fc8688e8c2af880cef5abc923d5de7ed47ef0d64a3"), looks := false }, kinds := [], alts := [], laidByText := true, laidKinds := [.data], laidTests := true, laidLooks := .later }
def ExportsWaysUptoCardSaid : Prop := Claim7.holds Tryz.pinned (.plain (OpenSpec.upto exportsWaysSpec)) exportsWaysUptoCard

/-- THE SECOND FORM's CARD OF 'gussetlaw12.ExportsRound'. -/
def exportsRoundUptoCard : Claim7 := { stood := { row := exportsRoundUptoRow, standIns := [], harness := (true, "d37852aa4651dac7553578fc8688e8c2af880cef5abc923d5de7ed47ef0d64a3"), looks := false }, kinds := [], alts := [], laidByText := true, laidKinds := [.data], laidTests := true, laidLooks := .later }
def ExportsRoundUptoCardSaid : Prop := Claim7.holds Tryz.pinned (.plain (OpenSpec.upto exportsRoundSpec)) exportsRoundUptoCard
end Rows
end Go.Proofs.YtadkmlcnmkdfiaaGreatDoor
