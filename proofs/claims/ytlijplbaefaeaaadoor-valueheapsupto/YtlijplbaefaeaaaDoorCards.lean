/-
  DERIVED. GIVEN WITH THE SEED: THE CARDS: each row of YtlijplbaefaeaaaDoorRows.lean that lists a variable, with what it lists TIED to the program's text (the seventh form; the later family's looks); each row that meets fmt, with fmt's text TOLD by the authors' own Lean function (tested against real Go, not proved from fmt's source: count such statements apart). THE CARD IS WHAT COUNTS. Prove the row's statement (the work); the ties are given (YtlijplbaefaeaaaDoorTie.lean); close each card by the builder's one call (the guide's Derived/Test/ToyasCard.lean, 'card_holds'). Laid BY PROGRAM, IN A SANDBOX (cutbox-door.mjs). By AI agents, Wed Nov 11 2026. No macro, syntax, notation, axiom, sorry.
-/
import Derived.Test.YtlijplbaefaeaaaDoorRows
import GoSem.ClaimSeven
namespace Go.Proofs.YtlijplbaefaeaaaDoor
namespace Rows

/-- THE TIED CARD OF 'gussetlaw23.ValuePlains'. -/
def valuePlainsCard : Claim7 := { stood := { row := valuePlainsRow, standIns := [], harness := (true, "0ac2dda1345c16a5ebf05f8844c60ee76b44ba1a59abbd6425cfc19a3b528ebc"), looks := true }, kinds := [], alts := [], laidByText := true, laidKinds := [.data, .data, .data], laidTests := true, laidLooks := .later }
def ValuePlainsCardSaid : Prop := Claim7.holds Tryd.pinned (.plain (OpenSpec.ofChange valuePlainsSpec)) valuePlainsCard

/-- THE TIED CARD OF 'gussetlaw23.ValueHeaps'. -/
def valueHeapsCard : Claim7 := { stood := { row := valueHeapsRow, standIns := [], harness := (true, "0ac2dda1345c16a5ebf05f8844c60ee76b44ba1a59abbd6425cfc19a3b528ebc"), looks := true }, kinds := [], alts := [], laidByText := true, laidKinds := [.data, .data, .data], laidTests := true, laidLooks := .later }
def ValueHeapsCardSaid : Prop := Claim7.holds Tryd.pinned (.plain (OpenSpec.ofChange valueHeapsSpec)) valueHeapsCard

/-- THE TIED CARD OF 'gussetlaw23.ValueApart'. -/
def valueApartCard : Claim7 := { stood := { row := valueApartRow, standIns := [], harness := (true, "0ac2dda1345c16a5ebf05f8844c60ee76b44ba1a59abbd6425cfc19a3b528ebc"), looks := true }, kinds := [], alts := [], laidByText := true, laidKinds := [.data, .data, .data], laidTests := true, laidLooks := .later }
def ValueApartCardSaid : Prop := Claim7.holds Tryd.pinned (.plain (OpenSpec.ofChange valueApartSpec)) valueApartCard

/-- THE TIED CARD OF 'gussetlaw23.ValueNone'. -/
def valueNoneCard : Claim7 := { stood := { row := valueNoneRow, standIns := [], harness := (true, "0ac2dda1345c16a5ebf05f8844c60ee76b44ba1a59abbd6425cfc19a3b528ebc"), looks := true }, kinds := [], alts := [], laidByText := true, laidKinds := [.data, .data, .data], laidTests := true, laidLooks := .later }
def ValueNoneCardSaid : Prop := Claim7.holds Tryd.pinned (.plain (OpenSpec.ofChange valueNoneSpec)) valueNoneCard

/-- THE SECOND FORM's CARD OF 'gussetlaw23.ValuePlains'. -/
def valuePlainsUptoCard : Claim7 := { stood := { row := valuePlainsUptoRow, standIns := [], harness := (true, "0ac2dda1345c16a5ebf05f8844c60ee76b44ba1a59abbd6425cfc19a3b528ebc"), looks := true }, kinds := [], alts := [], laidByText := true, laidKinds := [.data, .data, .data], laidTests := true, laidLooks := .later }
def ValuePlainsUptoCardSaid : Prop := Claim7.holds Tryd.pinned (.plain (OpenSpec.upto valuePlainsSpec)) valuePlainsUptoCard

/-- THE SECOND FORM's CARD OF 'gussetlaw23.ValueHeaps'. -/
def valueHeapsUptoCard : Claim7 := { stood := { row := valueHeapsUptoRow, standIns := [], harness := (true, "0ac2dda1345c16a5ebf05f8844c60ee76b44ba1a59abbd6425cfc19a3b528ebc"), looks := true }, kinds := [], alts := [], laidByText := true, laidKinds := [.data, .data, .data], laidTests := true, laidLooks := .later }
def ValueHeapsUptoCardSaid : Prop := Claim7.holds Tryd.pinned (.plain (OpenSpec.upto valueHeapsSpec)) valueHeapsUptoCard

/-- THE SECOND FORM's CARD OF 'gussetlaw23.ValueApart'. -/
def valueApartUptoCard : Claim7 := { stood := { row := valueApartUptoRow, standIns := [], harness := (true, "0ac2dda1345c16a5ebf05f8844c60ee76b44ba1a59abbd6425cfc19a3b528ebc"), looks := true }, kinds := [], alts := [], laidByText := true, laidKinds := [.data, .data, .data], laidTests := true, laidLooks := .later }
def ValueApartUptoCardSaid : Prop := Claim7.holds Tryd.pinned (.plain (OpenSpec.upto valueApartSpec)) valueApartUptoCard

/-- THE SECOND FORM's CARD OF 'gussetlaw23.ValueNone'. -/
def valueNoneUptoCard : Claim7 := { stood := { row := valueNoneUptoRow, standIns := [], harness := (true, "0ac2dda1345c16a5ebf05f8844c60ee76b44ba1a59abbd6425cfc19a3b528ebc"), looks := true }, kinds := [], alts := [], laidByText := true, laidKinds := [.data, .data, .data], laidTests := true, laidLooks := .later }
def ValueNoneUptoCardSaid : Prop := Claim7.holds Tryd.pinned (.plain (OpenSpec.upto valueNoneSpec)) valueNoneUptoCard
end Rows
end Go.Proofs.YtlijplbaefaeaaaDoor
