/-
  DERIVED. GIVEN WITH THE SEED: THE CARDS: each row of YtpnljjcdlkjfhaaGreatDoorRows.lean that lists a variable, with what it lists TIED to the program's text (the seventh form; the later family's looks); each row that meets fmt, with fmt's text TOLD by the authors' own Lean function (tested against real Go, not proved from fmt's source: count such statements apart). THE CARD IS WHAT COUNTS. Prove the row's statement (the work); the ties are given (YtpnljjcdlkjfhaaGreatDoorTie.lean); close each card by the builder's one call (the guide's Derived/Test/ToyasCard.lean, 'card_holds'). Laid BY PROGRAM, IN A SANDBOX (cutbox-door.mjs). By AI agents, Wed Nov 11 2026. No macro, syntax, notation, axiom, sorry.
-/
import Derived.Test.YtpnljjcdlkjfhaaGreatDoorRows
import GoSem.ClaimSeven
namespace Go.Proofs.YtpnljjcdlkjfhaaGreatDoor
namespace Rows

/-- THE TIED CARD OF 'gussetlaw21.RenameNames'. -/
def renameNamesCard : Claim7 := { stood := { row := renameNamesRow, standIns := [], harness := (true, "deb792143040e541cd7a09e5b9a48de0fb1f4fda4d256e28349812e1aae745c8"), looks := true }, kinds := [], alts := [], laidByText := true, laidKinds := [.data, .data, .data, .sentinel, .sentinel, .data], laidTests := true, laidLooks := .later }
def RenameNamesCardSaid : Prop := Claim7.holds Tryz.pinned (.plain (OpenSpec.ofChange renameNamesSpec)) renameNamesCard

/-- THE TIED CARD OF 'gussetlaw21.RenameBack'. -/
def renameBackCard : Claim7 := { stood := { row := renameBackRow, standIns := [], harness := (true, "deb792143040e541cd7a09e5b9a48de0fb1f4fda4d256e28349812e1aae745c8"), looks := true }, kinds := [], alts := [], laidByText := true, laidKinds := [.data, .data, .data, .sentinel, .sentinel, .data], laidTests := true, laidLooks := .later }
def RenameBackCardSaid : Prop := Claim7.holds Tryz.pinned (.plain (OpenSpec.ofChange renameBackSpec)) renameBackCard

/-- THE SECOND FORM's CARD OF 'gussetlaw21.RenameNames'. -/
def renameNamesUptoCard : Claim7 := { stood := { row := renameNamesUptoRow, standIns := [], harness := (true, "deb792143040e541cd7a09e5b9a48de0fb1f4fda4d256e28349812e1aae745c8"), looks := true }, kinds := [], alts := [], laidByText := true, laidKinds := [.data, .data, .data, .sentinel, .sentinel, .data], laidTests := true, laidLooks := .later }
def RenameNamesUptoCardSaid : Prop := Claim7.holds Tryz.pinned (.plain (OpenSpec.upto renameNamesSpec)) renameNamesUptoCard

/-- THE SECOND FORM's CARD OF 'gussetlaw21.RenameBack'. -/
def renameBackUptoCard : Claim7 := { stood := { row := renameBackUptoRow, standIns := [], harness := (true, "deb792143040e541cd7a09e5b9a48de0fb1f4fda4d256e28349812e1aae745c8"), looks := true }, kinds := [], alts := [], laidByText := true, laidKinds := [.data, .data, .data, .sentinel, .sentinel, .data], laidTests := true, laidLooks := .later }
def RenameBackUptoCardSaid : Prop := Claim7.holds Tryz.pinned (.plain (OpenSpec.upto renameBackSpec)) renameBackUptoCard
end Rows
end Go.Proofs.YtpnljjcdlkjfhaaGreatDoor
