/-
  DERIVED. GIVEN WITH THE SEED: THE CARDS: each row of YtddacbobklmpfaaDoorRows.lean that lists a variable, with what it lists TIED to the program's text (the seventh form; the later family's looks); each row that meets fmt, with fmt's text TOLD by the authors' own Lean function (tested against real Go, not proved from fmt's source: count such statements apart). THE CARD IS WHAT COUNTS. Prove the row's statement (the work); the ties are given (YtddacbobklmpfaaDoorTie.lean); close each card by the builder's one call (the guide's Derived/Test/ToyasCard.lean, 'card_holds'). Laid BY PROGRAM, IN A SANDBOX (cutbox-door.mjs). By AI agents, Wed Nov 11 2026. No macro, syntax, notation, axiom, sorry.
-/
import Derived.Test.YtddacbobklmpfaaDoorRows
import GoSem.ClaimSeven
namespace Go.Proofs.YtddacbobklmpfaaDoor
namespace Rows

/-- THE TIED CARD OF 'gussetlaw01.RunesCounts'. -/
def runesCountsCard : Claim7 := { stood := { row := runesCountsRow, standIns := [], harness := (true, "8da495f8d60adaeca28462262868b715bdfeebc172d18703161d6ded9e2aa92a"), looks := false }, kinds := [], alts := [], laidByText := true, laidKinds := [.data, .data, .data], laidTests := true, laidLooks := .later }
def RunesCountsCardSaid : Prop := Claim7.holds Tryd.pinned (.plain (OpenSpec.ofChange runesCountsSpec)) runesCountsCard

/-- THE TIED CARD OF 'gussetlaw01.RunesSlices'. -/
def runesSlicesCard : Claim7 := { stood := { row := runesSlicesRow, standIns := [], harness := (true, "8da495f8d60adaeca28462262868b715bdfeebc172d18703161d6ded9e2aa92a"), looks := false }, kinds := [], alts := [], laidByText := true, laidKinds := [.data, .data, .data], laidTests := true, laidLooks := .later }
def RunesSlicesCardSaid : Prop := Claim7.holds Tryd.pinned (.plain (OpenSpec.ofChange runesSlicesSpec)) runesSlicesCard

/-- THE TIED CARD OF 'gussetlaw01.RunesLetters'. -/
def runesLettersCard : Claim7 := { stood := { row := runesLettersRow, standIns := [], harness := (true, "8da495f8d60adaeca28462262868b715bdfeebc172d18703161d6ded9e2aa92a"), looks := false }, kinds := [], alts := [], laidByText := true, laidKinds := [.data, .data, .data], laidTests := true, laidLooks := .later }
def RunesLettersCardSaid : Prop := Claim7.holds Tryd.pinned (.plain (OpenSpec.ofChange runesLettersSpec)) runesLettersCard

/-- THE TIED CARD OF 'gussetlaw01.RunesQuotes'. -/
def runesQuotesCard : Claim7 := { stood := { row := runesQuotesRow, standIns := [], harness := (true, "8da495f8d60adaeca28462262868b715bdfeebc172d18703161d6ded9e2aa92a"), looks := false }, kinds := [], alts := [], laidByText := true, laidKinds := [.data, .data, .data], laidTests := true, laidLooks := .later }
def RunesQuotesCardSaid : Prop := Claim7.holds Tryd.pinned (.plain (OpenSpec.ofChange runesQuotesSpec)) runesQuotesCard

/-- THE TIED CARD OF 'gussetlaw01.RunesUnquotes'. -/
def runesUnquotesCard : Claim7 := { stood := { row := runesUnquotesRow, standIns := [], harness := (true, "8da495f8d60adaeca28462262868b715bdfeebc172d18703161d6ded9e2aa92a"), looks := false }, kinds := [], alts := [], laidByText := true, laidKinds := [.data, .data, .data], laidTests := true, laidLooks := .later }
def RunesUnquotesCardSaid : Prop := Claim7.holds Tryd.pinned (.plain (OpenSpec.ofChange runesUnquotesSpec)) runesUnquotesCard

/-- THE TIED CARD OF 'gussetlaw01.RunesBack'. -/
def runesBackCard : Claim7 := { stood := { row := runesBackRow, standIns := [], harness := (true, "8da495f8d60adaeca28462262868b715bdfeebc172d18703161d6ded9e2aa92a"), looks := false }, kinds := [], alts := [], laidByText := true, laidKinds := [.data, .data, .data], laidTests := true, laidLooks := .later }
def RunesBackCardSaid : Prop := Claim7.holds Tryd.pinned (.plain (OpenSpec.ofChange runesBackSpec)) runesBackCard

/-- THE SECOND FORM's CARD OF 'gussetlaw01.RunesCounts'. -/
def runesCountsUptoCard : Claim7 := { stood := { row := runesCountsUptoRow, standIns := [], harness := (true, "8da495f8d60adaeca28462262868b715bdfeebc172d18703161d6ded9e2aa92a"), looks := false }, kinds := [], alts := [], laidByText := true, laidKinds := [.data, .data, .data], laidTests := true, laidLooks := .later }
def RunesCountsUptoCardSaid : Prop := Claim7.holds Tryd.pinned (.plain (OpenSpec.upto runesCountsSpec)) runesCountsUptoCard

/-- THE SECOND FORM's CARD OF 'gussetlaw01.RunesSlices'. -/
def runesSlicesUptoCard : Claim7 := { stood := { row := runesSlicesUptoRow, standIns := [], harness := (true, "8da495f8d60adaeca28462262868b715bdfeebc172d18703161d6ded9e2aa92a"), looks := false }, kinds := [], alts := [], laidByText := true, laidKinds := [.data, .data, .data], laidTests := true, laidLooks := .later }
def RunesSlicesUptoCardSaid : Prop := Claim7.holds Tryd.pinned (.plain (OpenSpec.upto runesSlicesSpec)) runesSlicesUptoCard

/-- THE SECOND FORM's CARD OF 'gussetlaw01.RunesLetters'. -/
def runesLettersUptoCard : Claim7 := { stood := { row := runesLettersUptoRow, standIns := [], harness := (true, "8da495f8d60adaeca28462262868b715bdfeebc172d18703161d6ded9e2aa92a"), looks := false }, kinds := [], alts := [], laidByText := true, laidKinds := [.data, .data, .data], laidTests := true, laidLooks := .later }
def RunesLettersUptoCardSaid : Prop := Claim7.holds Tryd.pinned (.plain (OpenSpec.upto runesLettersSpec)) runesLettersUptoCard

/-- THE SECOND FORM's CARD OF 'gussetlaw01.RunesQuotes'. -/
def runesQuotesUptoCard : Claim7 := { stood := { row := runesQuotesUptoRow, standIns := [], harness := (true, "8da495f8d60adaeca28462262868b715bdfeebc172d18703161d6ded9e2aa92a"), looks := false }, kinds := [], alts := [], laidByText := true, laidKinds := [.data, .data, .data], laidTests := true, laidLooks := .later }
def RunesQuotesUptoCardSaid : Prop := Claim7.holds Tryd.pinned (.plain (OpenSpec.upto runesQuotesSpec)) runesQuotesUptoCard

/-- THE SECOND FORM's CARD OF 'gussetlaw01.RunesUnquotes'. -/
def runesUnquotesUptoCard : Claim7 := { stood := { row := runesUnquotesUptoRow, standIns := [], harness := (true, "8da495f8d60adaeca28462262868b715bdfeebc172d18703161d6ded9e2aa92a"), looks := false }, kinds := [], alts := [], laidByText := true, laidKinds := [.data, .data, .data], laidTests := true, laidLooks := .later }
def RunesUnquotesUptoCardSaid : Prop := Claim7.holds Tryd.pinned (.plain (OpenSpec.upto runesUnquotesSpec)) runesUnquotesUptoCard

/-- THE SECOND FORM's CARD OF 'gussetlaw01.RunesBack'. -/
def runesBackUptoCard : Claim7 := { stood := { row := runesBackUptoRow, standIns := [], harness := (true, "8da495f8d60adaeca28462262868b715bdfeebc172d18703161d6ded9e2aa92a"), looks := false }, kinds := [], alts := [], laidByText := true, laidKinds := [.data, .data, .data], laidTests := true, laidLooks := .later }
def RunesBackUptoCardSaid : Prop := Claim7.holds Tryd.pinned (.plain (OpenSpec.upto runesBackSpec)) runesBackUptoCard
end Rows
end Go.Proofs.YtddacbobklmpfaaDoor
