/-
  DERIVED. GIVEN WITH THE SEED: THE CARDS: each row of YtfehmdfamndcaaaGreatDoorRows.lean that lists a variable, with what it lists TIED to the program's text (the seventh form; the later family's looks); each row that meets fmt, with fmt's text TOLD by the authors' own Lean function (tested against real Go, not proved from fmt's source: count such statements apart). THE CARD IS WHAT COUNTS. Prove the row's statement (the work); the ties are given (YtfehmdfamndcaaaGreatDoorTie.lean); close each card by the builder's one call (the guide's Derived/Test/ToyasCard.lean, 'card_holds'). Laid BY PROGRAM, IN A SANDBOX (cutbox-door.mjs). By AI agents, Wed Nov 11 2026. No macro, syntax, notation, axiom, sorry.
-/
import Derived.Test.YtfehmdfamndcaaaGreatDoorRows
import GoSem.ClaimSeven
namespace Go.Proofs.YtfehmdfamndcaaaGreatDoor
namespace Rows

/-- THE TIED CARD OF 'gussetlaw10.GraphMany'. -/
def graphManyCard : Claim7 := { stood := { row := graphManyRow, standIns := [], harness := (true, "1ec9f731866a0db0e5eb9d5cac094c64abf5c75f6749e9222e2e56d75dd7fa9b"), looks := true }, kinds := [], alts := [], laidByText := true, laidKinds := [.data, .data, .data, .pinned], laidTests := true, laidLooks := .later }
def GraphManyCardSaid : Prop := Claim7.holds Tryz.pinned (.plain (OpenSpec.ofChange graphManySpec)) graphManyCard

/-- THE SECOND FORM's CARD OF 'gussetlaw10.GraphMany'. -/
def graphManyUptoCard : Claim7 := { stood := { row := graphManyUptoRow, standIns := [], harness := (true, "1ec9f731866a0db0e5eb9d5cac094c64abf5c75f6749e9222e2e56d75dd7fa9b"), looks := true }, kinds := [], alts := [], laidByText := true, laidKinds := [.data, .data, .data, .pinned], laidTests := true, laidLooks := .later }
def GraphManyUptoCardSaid : Prop := Claim7.holds Tryz.pinned (.plain (OpenSpec.upto graphManySpec)) graphManyUptoCard
end Rows
end Go.Proofs.YtfehmdfamndcaaaGreatDoor
