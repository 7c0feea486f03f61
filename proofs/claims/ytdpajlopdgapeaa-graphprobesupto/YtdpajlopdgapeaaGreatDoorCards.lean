/-
  DERIVED. GIVEN WITH THE SEED: THE CARDS: each row of YtdpajlopdgapeaaGreatDoorRows.lean that lists a variable, with what it lists TIED to the program's text (the seventh form; the later family's looks); each row that meets fmt, with fmt's text TOLD by the authors' own Lean function (tested against real Go, not proved from fmt's source: count such statements apart). THE CARD IS WHAT COUNTS. Prove the row's statement (the work); the ties are given (YtdpajlopdgapeaaGreatDoorTie.lean); close each card by the builder's one call (the guide's Derived/Test/ToyasCard.lean, 'card_holds'). Laid BY PROGRAM, IN A SANDBOX (cutbox-door.mjs). By AI agents, Wed Nov 11 2026. No macro, syntax, notation, axiom, sorry.
-/
import Derived.Test.YtdpajlopdgapeaaGreatDoorRows
import GoSem.ClaimSeven
namespace Go.Proofs.YtdpajlopdgapeaaGreatDoor
namespace Rows

/-- THE TIED CARD OF 'gussetlaw10.GraphRequests'. -/
def graphRequestsCard : Claim7 := { stood := { row := graphRequestsRow, standIns := [], harness := (true, "2b4802d363d89320c075819c1f8b5b013f4c58a093e42082f9b47c98922fe54d"), looks := true }, kinds := [], alts := [], laidByText := true, laidKinds := [.data, .data, .data, .pinned], laidTests := true, laidLooks := .later }
def GraphRequestsCardSaid : Prop := Claim7.holds Tryz.pinned (.plain (OpenSpec.ofChange graphRequestsSpec)) graphRequestsCard

/-- THE TIED CARD OF 'gussetlaw10.GraphProbes'. -/
def graphProbesCard : Claim7 := { stood := { row := graphProbesRow, standIns := [], harness := (true, "2b4802d363d89320c075819c1f8b5b013f4c58a093e42082f9b47c98922fe54d"), looks := true }, kinds := [], alts := [], laidByText := true, laidKinds := [.data, .data, .data, .pinned], laidTests := true, laidLooks := .later }
def GraphProbesCardSaid : Prop := Claim7.holds Tryz.pinned (.plain (OpenSpec.ofChange graphProbesSpec)) graphProbesCard

/-- THE SECOND FORM's CARD OF 'gussetlaw10.GraphRequests'. -/
def graphRequestsUptoCard : Claim7 := { stood := { row := graphRequestsUptoRow, standIns := [], harness := (true, "2b4802d363d89320c075819c1f8b5b013f4c58a093e42082f9b47c98922fe54d"), looks := true }, kinds := [], alts := [], laidByText := true, laidKinds := [.data, .data, .data, .pinned], laidTests := true, laidLooks := .later }
def GraphRequestsUptoCardSaid : Prop := Claim7.holds Tryz.pinned (.plain (OpenSpec.upto graphRequestsSpec)) graphRequestsUptoCard

/-- THE SECOND FORM's CARD OF 'gussetlaw10.GraphProbes'. -/
def graphProbesUptoCard : Claim7 := { stood := { row := graphProbesUptoRow, standIns := [], harness := (true, "2b4802d363d89320c075819c1f8b5b013f4c58a093e42082f9b47c98922fe54d"), looks := true }, kinds := [], alts := [], laidByText := true, laidKinds := [.data, .data, .data, .pinned], laidTests := true, laidLooks := .later }
def GraphProbesUptoCardSaid : Prop := Claim7.holds Tryz.pinned (.plain (OpenSpec.upto graphProbesSpec)) graphProbesUptoCard
end Rows
end Go.Proofs.YtdpajlopdgapeaaGreatDoor
