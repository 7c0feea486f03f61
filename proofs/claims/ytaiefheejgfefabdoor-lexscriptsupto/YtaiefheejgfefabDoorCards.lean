/-
  DERIVED. GIVEN WITH THE SEED: THE CARDS: each row of YtaiefheejgfefabDoorRows.lean that lists a variable, with what it lists TIED to the program's text (the seventh form; the later family's looks); each row that meets fmt, with fmt's text TOLD by the authors' own Lean function (tested against real Go, not proved from fmt's source: count such statements apart). THE CARD IS WHAT COUNTS. Prove the row's statement (the work); the ties are given (YtaiefheejgfefabDoorTie.lean); close each card by the builder's one call (the guide's Derived/Test/ToyasCard.lean, 'card_holds'). Laid BY PROGRAM, IN A SANDBOX (cutbox-door.mjs). By AI agents, Wed Nov 11 2026. No macro, syntax, notation, axiom, sorry.
-/
import Derived.Test.YtaiefheejgfefabDoorRows
import GoSem.ClaimSeven
namespace Go.Proofs.YtaiefheejgfefabDoor
namespace Rows

/-- THE TIED CARD OF 'gussetlaw04.LexScripts'. -/
def lexScriptsCard : Claim7 := { stood := { row := lexScriptsRow, standIns := [], harness := (true, "cf5046ec723263ace783da36e51f156461b2d7b45c7570c3560c43e3a22dff83"), looks := false }, kinds := [], alts := [], laidByText := true, laidKinds := [.data, .data, .data, .data, .data, .data, .pinned], laidTests := true, laidLooks := .later }
def LexScriptsCardSaid : Prop := Claim7.holds Tryd.pinned (.plain (OpenSpec.ofChange lexScriptsSpec)) lexScriptsCard

/-- THE SECOND FORM's CARD OF 'gussetlaw04.LexScripts'. -/
def lexScriptsUptoCard : Claim7 := { stood := { row := lexScriptsUptoRow, standIns := [], harness := (true, "cf5046ec723263ace783da36e51f156461b2d7b45c7570c3560c43e3a22dff83"), looks := false }, kinds := [], alts := [], laidByText := true, laidKinds := [.data, .data, .data, .data, .data, .data, .pinned], laidTests := true, laidLooks := .later }
def LexScriptsUptoCardSaid : Prop := Claim7.holds Tryd.pinned (.plain (OpenSpec.upto lexScriptsSpec)) lexScriptsUptoCard
end Rows
end Go.Proofs.YtaiefheejgfefabDoor
