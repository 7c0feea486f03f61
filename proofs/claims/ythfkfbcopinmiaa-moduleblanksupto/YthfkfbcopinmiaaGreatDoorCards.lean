/-
  DERIVED. GIVEN WITH THE SEED: THE CARDS: each row of YthfkfbcopinmiaaGreatDoorRows.lean that lists a variable, with what it lists TIED to the program's text (the seventh form; the later family's looks); each row that meets fmt, with fmt's text TOLD by the authors' own Lean function (tested against real Go, not proved from fmt's source: count such statements apart). THE CARD IS WHAT COUNTS. Prove the row's statement (the work); the ties are given (YthfkfbcopinmiaaGreatDoorTie.lean); close each card by the builder's one call (the guide's Derived/Test/ToyasCard.lean, 'card_holds'). Laid BY PROGRAM, IN A SANDBOX (cutbox-door.mjs). By AI agents, Wed Nov 11 2026. No macro, syntax, notation, axiom, sorry.
-/
import Derived.Test.YthfkfbcopinmiaaGreatDoorRows
import GoSem.ClaimSeven
namespace Go.Proofs.YthfkfbcopinmiaaGreatDoor
namespace Rows

/-- THE TIED CARD OF 'gussetlaw07.ModuleJoins'. -/
def moduleJoinsCard : Claim7 := { stood := { row := moduleJoinsRow, standIns := [], harness := (true, "23b1a832a41b69fe316b87b21620debf872c13c3b592df1ee2ea59c48c203eb5"), looks := true }, kinds := [], alts := [], laidByText := true, laidKinds := [.data, .data, .data, .pinned], laidTests := true, laidLooks := .later }
def ModuleJoinsCardSaid : Prop := Claim7.holds Tryz.pinned (.plain (OpenSpec.ofChange moduleJoinsSpec)) moduleJoinsCard

/-- THE TIED CARD OF 'gussetlaw07.ModuleBlanks'. -/
def moduleBlanksCard : Claim7 := { stood := { row := moduleBlanksRow, standIns := [], harness := (true, "23b1a832a41b69fe316b87b21620debf872c13c3b592df1ee2ea59c48c203eb5"), looks := true }, kinds := [], alts := [], laidByText := true, laidKinds := [.data, .data, .data, .pinned], laidTests := true, laidLooks := .later }
def ModuleBlanksCardSaid : Prop := Claim7.holds Tryz.pinned (.plain (OpenSpec.ofChange moduleBlanksSpec)) moduleBlanksCard

/-- THE SECOND FORM's CARD OF 'gussetlaw07.ModuleJoins'. -/
def moduleJoinsUptoCard : Claim7 := { stood := { row := moduleJoinsUptoRow, standIns := [], harness := (true, "23b1a832a41b69fe316b87b21620debf872c13c3b592df1ee2ea59c48c203eb5"), looks := true }, kinds := [], alts := [], laidByText := true, laidKinds := [.data, .data, .data, .pinned], laidTests := true, laidLooks := .later }
def ModuleJoinsUptoCardSaid : Prop := Claim7.holds Tryz.pinned (.plain (OpenSpec.upto moduleJoinsSpec)) moduleJoinsUptoCard

/-- THE SECOND FORM's CARD OF 'gussetlaw07.ModuleBlanks'. -/
def moduleBlanksUptoCard : Claim7 := { stood := { row := moduleBlanksUptoRow, standIns := [], harness := (true, "23b1a832a41b69fe316b87b21620debf872c13c3b592df1ee2ea59c48c203eb5"), looks := true }, kinds := [], alts := [], laidByText := true, laidKinds := [.data, .data, .data, .pinned], laidTests := true, laidLooks := .later }
def ModuleBlanksUptoCardSaid : Prop := Claim7.holds Tryz.pinned (.plain (OpenSpec.upto moduleBlanksSpec)) moduleBlanksUptoCard
end Rows
end Go.Proofs.YthfkfbcopinmiaaGreatDoor
