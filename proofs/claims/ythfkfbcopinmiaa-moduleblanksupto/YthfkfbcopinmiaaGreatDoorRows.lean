/-
  NARROWER THAN 'FOR EVERY INPUT', by the rows' own cells (each row's printed sentence says how): ModuleJoins: laid · ModuleBlanks: laid.
  DERIVED. THE GIVEN ROWS OF THIS SEAT. 2 by the template 'for every input the law returns true; each argument reads behind the call as it read before'; 0 by the template 'total and deterministic' (their statements: YthfkfbcopinmiaaGreatDoorTotals.lean).
  GIVEN WITH THE SEED: the statements are not yours to turn. If you find one false, say at which input.
  Laid BY PROGRAM, IN A SANDBOX (cutbox-rows.mjs): the forced cells as the released guide's own fill.sh prints them over the translation 200bfe16bb7bdc68… (all of the seat's roots in one cut). By AI agents, Wed Nov 11 2026. No macro, syntax, notation, axiom, sorry.
-/
import Derived.Test.YthfkfbcopinmiaaGreatDoorChecked
import GoSem.PinnedTables
import GoSem.Claim
import GoSem.ClaimJoined
import GoSem.ClaimMapViews
import Derived.JoinedTies
import Derived.KernelRfl
namespace Go.Proofs.YthfkfbcopinmiaaGreatDoor
/- THE CELL 'sum', in the pinned program and in every row, IS THE sha256 OF THE DUMP (.gsa) THAT YthfkfbcopinmiaaGreatDoorProg.lean LOADS. Nothing in Lean hashes anything: it is a label: what it is worth is what the hold of that sum in a sandbox is worth. -/
noncomputable def Tryz.pinned : Pinned := { name := "ythfkfbcopinmiaagreatdoor", sum := "200bfe16bb7bdc68d6f60844f80015b7d58df5a617d10d9f5597b0fff2e5ffbf", checked := Tryz.checked }
namespace Rows
def none {H : Type} : Left H := { results := [], args := [] }

/- WHAT THE LISTED PACKAGE-LEVEL VARIABLES READ AS WHEN THE CALL BEGINS. Each datum BY PROGRAM (the guide's laid-datum.mjs) off the statement by which the dump's own 'gosem.cut.vars' lays the variable. In a bare row this is a premise. The card (YthfkfbcopinmiaaGreatDoorCards.lean) ties it to the program's text. -/
def laid_unicode_utf8_acceptRanges {H : Type} : DataW H := .agg [.agg [.lit (.int .u8 128), .lit (.int .u8 191)], .agg [.lit (.int .u8 160), .lit (.int .u8 191)], .agg [.lit (.int .u8 128), .lit (.int .u8 159)], .agg [.lit (.int .u8 144), .lit (.int .u8 191)], .agg [.lit (.int .u8 128), .lit (.int .u8 143)], .agg [.lit (.int .u8 0), .lit (.int .u8 0)], .agg [.lit (.int .u8 0), .lit (.int .u8 0)], .agg [.lit (.int .u8 0), .lit (.int .u8 0)], .agg [.lit (.int .u8 0), .lit (.int .u8 0)], .agg [.lit (.int .u8 0), .lit (.int .u8 0)], .agg [.lit (.int .u8 0), .lit (.int .u8 0)], .agg [.lit (.int .u8 0), .lit (.int .u8 0)], .agg [.lit (.int .u8 0), .lit (.int .u8 0)], .agg [.lit (.int .u8 0), .lit (.int .u8 0)], .agg [.lit (.int .u8 0), .lit (.int .u8 0)], .agg [.lit (.int .u8 0), .lit (.int .u8 0)]]
def laid_gusset_lex_words {H : Type} : DataW H := .agg [.lit (.string [99, 108, 97, 115, 115]), .lit (.string [99, 111, 110, 115, 116]), .lit (.string [100, 101, 102, 97, 117, 108, 116]), .lit (.string [101, 108, 115, 101]), .lit (.string [101, 120, 112, 111, 114, 116]), .lit (.string [102, 97, 108, 115, 101]), .lit (.string [102, 117, 110, 99, 116, 105, 111, 110]), .lit (.string [105, 102]), .lit (.string [105, 109, 112, 111, 114, 116]), .lit (.string [108, 101, 116]), .lit (.string [110, 101, 119]), .lit (.string [110, 117, 108, 108]), .lit (.string [114, 101, 116, 117, 114, 110]), .lit (.string [116, 104, 105, 115]), .lit (.string [116, 104, 114, 111, 119]), .lit (.string [116, 114, 117, 101]), .lit (.string [116, 121, 112, 101, 111, 102]), .lit (.string [117, 110, 100, 101, 102, 105, 110, 101, 100]), .lit (.string [119, 104, 105, 108, 101])]
def laid_gusset_lex_signs {H : Type} : DataW H := .agg [.lit (.string [61, 61, 61]), .lit (.string [33, 61, 61]), .lit (.string [60, 61]), .lit (.string [62, 61]), .lit (.string [38, 38]), .lit (.string [124, 124]), .lit (.string [61, 62]), .lit (.string [123]), .lit (.string [125]), .lit (.string [40]), .lit (.string [41]), .lit (.string [91]), .lit (.string [93]), .lit (.string [59]), .lit (.string [44]), .lit (.string [58]), .lit (.string [46]), .lit (.string [63]), .lit (.string [61]), .lit (.string [43]), .lit (.string [45]), .lit (.string [42]), .lit (.string [47]), .lit (.string [37]), .lit (.string [60]), .lit (.string [62]), .lit (.string [33]), .lit (.string [124])]
/-- One of Go's own tables, pinned by name: the form's constant. -/
def laid_unicode_utf8_first : DataW Unit := Go.Pinned.utf8First

/-- 'gussetlaw07.ModuleJoins': WHATEVER THE INPUT: true; the input reads as it did. -/
def moduleJoinsSpec : ChangeSpec := { name := "moduleJoins", fn := fun _ => fun
  | [d1, d2] => { results := [.lit (.bool true)], args := [d1, d2] }
  | _ => none }
def moduleJoinsRow : OpenClaim := { program := "ythfkfbcopinmiaagreatdoor", sum := "200bfe16bb7bdc68d6f60844f80015b7d58df5a617d10d9f5597b0fff2e5ffbf", func := "gusset/gussetlaw07.ModuleJoins", spec := "moduleJoins", inPlace := ["internal/bytealg.IndexByteString", "internal/bytealg.IndexString"], unfollowed := true, recurses := true, named := ["internal/bytealg.MaxLen", "unicode/utf8.first", "unicode/utf8.acceptRanges", "gusset/lex.words", "gusset/lex.signs"], apart := false, laid := [("unicode/utf8.acceptRanges", laid_unicode_utf8_acceptRanges), ("gusset/lex.words", laid_gusset_lex_words), ("gusset/lex.signs", laid_gusset_lex_signs), ("unicode/utf8.first", laid_unicode_utf8_first)] }
def ModuleJoinsSaid : Prop := moduleJoinsRow.holds Tryz.pinned (OpenSpec.ofChange moduleJoinsSpec)

/-- ITS FALSE NEIGHBOUR: 'it returns false'. Refute it at one input. -/
def moduleJoinsWrong : ChangeSpec := { name := "moduleJoins", fn := fun _ => fun
  | [d1, d2] => { results := [.lit (.bool false)], args := [d1, d2] }
  | _ => none }
def ModuleJoinsWrongFalsely : Prop := moduleJoinsRow.holds Tryz.pinned (OpenSpec.ofChange moduleJoinsWrong)

/-- 'gussetlaw07.ModuleBlanks': WHATEVER THE INPUT: true; the input reads as it did. -/
def moduleBlanksSpec : ChangeSpec := { name := "moduleBlanks", fn := fun _ => fun
  | [d1, d2] => { results := [.lit (.bool true)], args := [d1, d2] }
  | _ => none }
def moduleBlanksRow : OpenClaim := { program := "ythfkfbcopinmiaagreatdoor", sum := "200bfe16bb7bdc68d6f60844f80015b7d58df5a617d10d9f5597b0fff2e5ffbf", func := "gusset/gussetlaw07.ModuleBlanks", spec := "moduleBlanks", inPlace := ["internal/bytealg.IndexByteString", "internal/bytealg.IndexString"], unfollowed := true, recurses := true, named := ["internal/bytealg.MaxLen", "unicode/utf8.first", "unicode/utf8.acceptRanges", "gusset/lex.words", "gusset/lex.signs"], apart := false, laid := [("unicode/utf8.acceptRanges", laid_unicode_utf8_acceptRanges), ("gusset/lex.words", laid_gusset_lex_words), ("gusset/lex.signs", laid_gusset_lex_signs), ("unicode/utf8.first", laid_unicode_utf8_first)] }
def ModuleBlanksSaid : Prop := moduleBlanksRow.holds Tryz.pinned (OpenSpec.ofChange moduleBlanksSpec)

/-- ITS FALSE NEIGHBOUR: 'it returns false'. Refute it at one input. -/
def moduleBlanksWrong : ChangeSpec := { name := "moduleBlanks", fn := fun _ => fun
  | [d1, d2] => { results := [.lit (.bool false)], args := [d1, d2] }
  | _ => none }
def ModuleBlanksWrongFalsely : Prop := moduleBlanksRow.holds Tryz.pinned (OpenSpec.ofChange moduleBlanksWrong)

/- THE SECOND FORM. 'bulk': how many values and letters a reading holds, each counted each time it is reached (what is shared counts as often as it is met; a slice's spare places count too). A statement '..UptoSaid' is the law's where the arguments, and the package variables that the reading takes, are together of bulk at most 1048576: NARROWER than '..Said'. Prove '..Said' where nothing that the law and all that it calls make is longer than what came in: it says more and counts as full. Else prove '..UptoSaid'. A law counts once. -/
mutual
def uptoBulk {H : Type} : DataW H → Nat
  | .lit (.string bytes) => bytes.length + 1
  | .lit _ => 1
  | .nil => 1
  | .ptr d => uptoBulk d + 1
  | .slice elems spare => uptoBulkAll elems + uptoBulkAll spare + 1
  | .agg parts => uptoBulkAll parts + 1
  | .iface _ d => uptoBulk d + 1
  | .map entries => uptoBulkEntries entries + 1
  | .held _ => 1
def uptoBulkAll {H : Type} : List (DataW H) → Nat
  | [] => 0
  | d :: r => uptoBulk d + uptoBulkAll r
def uptoBulkEntries {H : Type} : List (Lit × DataW H) → Nat
  | [] => 0
  | x :: r => uptoBulkEntry x + uptoBulkEntries r
def uptoBulkEntry {H : Type} : Lit × DataW H → Nat
  | (.string bytes, d) => bytes.length + uptoBulk d + 1
  | (_, d) => uptoBulk d + 1
 end
def uptoSmall : (H : Type) → List (DataW H) → Bool := fun _ ds => decide (uptoBulkAll ds ≤ 1048576)
def OpenSpec.upto (s : _root_.Go.ChangeSpec) : _root_.Go.OpenSpec := { _root_.Go.OpenSpec.ofChange s with cond := some uptoSmall }

/-- 'gussetlaw07.ModuleJoins', WHERE WHAT IT READS IS OF BULK AT MOST 1048576: true; the input reads as it did. -/
def moduleJoinsUptoRow : OpenClaim := { program := "ythfkfbcopinmiaagreatdoor", sum := "200bfe16bb7bdc68d6f60844f80015b7d58df5a617d10d9f5597b0fff2e5ffbf", func := "gusset/gussetlaw07.ModuleJoins", spec := "moduleJoins", inPlace := ["internal/bytealg.IndexByteString", "internal/bytealg.IndexString"], unfollowed := true, recurses := true, named := ["internal/bytealg.MaxLen", "unicode/utf8.first", "unicode/utf8.acceptRanges", "gusset/lex.words", "gusset/lex.signs"], apart := false, laid := [("unicode/utf8.acceptRanges", laid_unicode_utf8_acceptRanges), ("gusset/lex.words", laid_gusset_lex_words), ("gusset/lex.signs", laid_gusset_lex_signs), ("unicode/utf8.first", laid_unicode_utf8_first)], narrowed := true }
def ModuleJoinsUptoSaid : Prop := moduleJoinsUptoRow.holds Tryz.pinned (OpenSpec.upto moduleJoinsSpec)

/-- 'gussetlaw07.ModuleBlanks', WHERE WHAT IT READS IS OF BULK AT MOST 1048576: true; the input reads as it did. -/
def moduleBlanksUptoRow : OpenClaim := { program := "ythfkfbcopinmiaagreatdoor", sum := "200bfe16bb7bdc68d6f60844f80015b7d58df5a617d10d9f5597b0fff2e5ffbf", func := "gusset/gussetlaw07.ModuleBlanks", spec := "moduleBlanks", inPlace := ["internal/bytealg.IndexByteString", "internal/bytealg.IndexString"], unfollowed := true, recurses := true, named := ["internal/bytealg.MaxLen", "unicode/utf8.first", "unicode/utf8.acceptRanges", "gusset/lex.words", "gusset/lex.signs"], apart := false, laid := [("unicode/utf8.acceptRanges", laid_unicode_utf8_acceptRanges), ("gusset/lex.words", laid_gusset_lex_words), ("gusset/lex.signs", laid_gusset_lex_signs), ("unicode/utf8.first", laid_unicode_utf8_first)], narrowed := true }
def ModuleBlanksUptoSaid : Prop := moduleBlanksUptoRow.holds Tryz.pinned (OpenSpec.upto moduleBlanksSpec)

end Rows
end Go.Proofs.YthfkfbcopinmiaaGreatDoor
