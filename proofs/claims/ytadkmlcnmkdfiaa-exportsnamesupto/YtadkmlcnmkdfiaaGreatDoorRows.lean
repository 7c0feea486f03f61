/-
  NARROWER THAN 'FOR EVERY INPUT', by the rows' own cells (each row's printed sentence says how): ExportsEntries: laid · ExportsResolves: laid · ExportsNames: laid · ExportsOwn: laid · ExportsWays: laid · ExportsRound: laid.
  DERIVED. THE GIVEN ROWS OF THIS SEAT. 6 by the template 'for every input the law returns true; each argument reads behind the call as it read before'; 0 by the template 'total and deterministic' (their statements: YtadkmlcnmkdfiaaGreatDoorTotals.lean).
  GIVEN WITH THE SEED: the statements are not yours to turn. If you find one false, say at which input.
  Laid BY PROGRAM, IN A SANDBOX (cutbox-rows.mjs): the forced cells as the released guide's own fill.sh prints them over the translation d4c24a7708317161… (all of the seat's roots in one cut). By AI agents, Wed Nov 11 2026. No macro, syntax, notation, axiom, sorry.
-/
import Derived.Test.YtadkmlcnmkdfiaaGreatDoorChecked
import GoSem.Claim
import GoSem.ClaimJoined
import GoSem.ClaimMapViews
import Derived.JoinedTies
import Derived.KernelRfl
namespace Go.Proofs.YtadkmlcnmkdfiaaGreatDoor
/- THE CELL 'sum', in the pinned program and in every row, IS THE sha256 OF THE DUMP (.gsa) THAT YtadkmlcnmkdfiaaGreatDoorProg.lean LOADS. Nothing in Lean hashes anything: it is a label: what it is worth is what the hold of that sum in a sandbox is worth. -/
noncomputable def Tryz.pinned : Pinned := { name := "ytadkmlcnmkdfiaagreatdoor", sum := "d4c24a77083171614f914a75b18741c1d6b514e6e1e5b89eabebd85ffe0bf0c8", checked := Tryz.checked }
namespace Rows
def none {H : Type} : Left H := { results := [], args := [] }

/- WHAT THE LISTED PACKAGE-LEVEL VARIABLES READ AS WHEN THE CALL BEGINS. Each datum BY PROGRAM (the guide's laid-datum.mjs) off the statement by which the dump's own 'gosem.cut.vars' lays the variable. In a bare row this is a premise. The card (YtadkmlcnmkdfiaaGreatDoorCards.lean) ties it to the program's text. -/
def laid_gusset_lex_words {H : Type} : DataW H := .agg [.lit (.string [99, 108, 97, 115, 115]), .lit (.string [99, 111, 110, 115, 116]), .lit (.string [100, 101, 102, 97, 117, 108, 116]), .lit (.string [101, 108, 115, 101]), .lit (.string [101, 120, 112, 111, 114, 116]), .lit (.string [102, 97, 108, 115, 101]), .lit (.string [102, 117, 110, 99, 116, 105, 111, 110]), .lit (.string [105, 102]), .lit (.string [105, 109, 112, 111, 114, 116]), .lit (.string [108, 101, 116]), .lit (.string [110, 101, 119]), .lit (.string [110, 117, 108, 108]), .lit (.string [114, 101, 116, 117, 114, 110]), .lit (.string [116, 104, 105, 115]), .lit (.string [116, 104, 114, 111, 119]), .lit (.string [116, 114, 117, 101]), .lit (.string [116, 121, 112, 101, 111, 102]), .lit (.string [117, 110, 100, 101, 102, 105, 110, 101, 100]), .lit (.string [119, 104, 105, 108, 101])]

/-- 'gussetlaw12.ExportsEntries': WHATEVER THE INPUT: true; the input reads as it did. -/
def exportsEntriesSpec : ChangeSpec := { name := "exportsEntries", fn := fun _ => fun
  | [d1, d2] => { results := [.lit (.bool true)], args := [d1, d2] }
  | _ => none }
def exportsEntriesRow : OpenClaim := { program := "ytadkmlcnmkdfiaagreatdoor", sum := "d4c24a77083171614f914a75b18741c1d6b514e6e1e5b89eabebd85ffe0bf0c8", func := "gusset/gussetlaw12.ExportsEntries", spec := "exportsEntries", unfollowed := true, recurses := true, named := ["gusset/lex.words"], plainKeys := false, apart := false, laid := [("gusset/lex.words", laid_gusset_lex_words)] }
def ExportsEntriesSaid : Prop := exportsEntriesRow.holds Tryz.pinned (OpenSpec.ofChange exportsEntriesSpec)

/-- ITS FALSE NEIGHBOUR: 'it returns false'. Refute it at one input. -/
def exportsEntriesWrong : ChangeSpec := { name := "exportsEntries", fn := fun _ => fun
  | [d1, d2] => { results := [.lit (.bool false)], args := [d1, d2] }
  | _ => none }
def ExportsEntriesWrongFalsely : Prop := exportsEntriesRow.holds Tryz.pinned (OpenSpec.ofChange exportsEntriesWrong)

/-- 'gussetlaw12.ExportsResolves': WHATEVER THE INPUT: true; the input reads as it did. -/
def exportsResolvesSpec : ChangeSpec := { name := "exportsResolves", fn := fun _ => fun
  | [d1, d2, d3] => { results := [.lit (.bool true)], args := [d1, d2, d3] }
  | _ => none }
def exportsResolvesRow : OpenClaim := { program := "ytadkmlcnmkdfiaagreatdoor", sum := "d4c24a77083171614f914a75b18741c1d6b514e6e1e5b89eabebd85ffe0bf0c8", func := "gusset/gussetlaw12.ExportsResolves", spec := "exportsResolves", unfollowed := true, recurses := true, named := ["gusset/lex.words"], plainKeys := false, apart := false, laid := [("gusset/lex.words", laid_gusset_lex_words)] }
def ExportsResolvesSaid : Prop := exportsResolvesRow.holds Tryz.pinned (OpenSpec.ofChange exportsResolvesSpec)

/-- ITS FALSE NEIGHBOUR: 'it returns false'. Refute it at one input. -/
def exportsResolvesWrong : ChangeSpec := { name := "exportsResolves", fn := fun _ => fun
  | [d1, d2, d3] => { results := [.lit (.bool false)], args := [d1, d2, d3] }
  | _ => none }
def ExportsResolvesWrongFalsely : Prop := exportsResolvesRow.holds Tryz.pinned (OpenSpec.ofChange exportsResolvesWrong)

/-- 'gussetlaw12.ExportsNames': WHATEVER THE INPUT: true; the input reads as it did. -/
def exportsNamesSpec : ChangeSpec := { name := "exportsNames", fn := fun _ => fun
  | [d1, d2] => { results := [.lit (.bool true)], args := [d1, d2] }
  | _ => none }
def exportsNamesRow : OpenClaim := { program := "ytadkmlcnmkdfiaagreatdoor", sum := "d4c24a77083171614f914a75b18741c1d6b514e6e1e5b89eabebd85ffe0bf0c8", func := "gusset/gussetlaw12.ExportsNames", spec := "exportsNames", unfollowed := true, recurses := true, named := ["gusset/lex.words"], plainKeys := false, apart := false, laid := [("gusset/lex.words", laid_gusset_lex_words)] }
def ExportsNamesSaid : Prop := exportsNamesRow.holds Tryz.pinned (OpenSpec.ofChange exportsNamesSpec)

/-- ITS FALSE NEIGHBOUR: 'it returns false'. Refute it at one input. -/
def exportsNamesWrong : ChangeSpec := { name := "exportsNames", fn := fun _ => fun
  | [d1, d2] => { results := [.lit (.bool false)], args := [d1, d2] }
  | _ => none }
def ExportsNamesWrongFalsely : Prop := exportsNamesRow.holds Tryz.pinned (OpenSpec.ofChange exportsNamesWrong)

/-- 'gussetlaw12.ExportsOwn': WHATEVER THE INPUT: true; the input reads as it did. -/
def exportsOwnSpec : ChangeSpec := { name := "exportsOwn", fn := fun _ => fun
  | [d1, d2, d3] => { results := [.lit (.bool true)], args := [d1, d2, d3] }
  | _ => none }
def exportsOwnRow : OpenClaim := { program := "ytadkmlcnmkdfiaagreatdoor", sum := "d4c24a77083171614f914a75b18741c1d6b514e6e1e5b89eabebd85ffe0bf0c8", func := "gusset/gussetlaw12.ExportsOwn", spec := "exportsOwn", unfollowed := true, recurses := true, named := ["gusset/lex.words"], plainKeys := false, apart := false, laid := [("gusset/lex.words", laid_gusset_lex_words)] }
def ExportsOwnSaid : Prop := exportsOwnRow.holds Tryz.pinned (OpenSpec.ofChange exportsOwnSpec)

/-- ITS FALSE NEIGHBOUR: 'it returns false'. Refute it at one input. -/
def exportsOwnWrong : ChangeSpec := { name := "exportsOwn", fn := fun _ => fun
  | [d1, d2, d3] => { results := [.lit (.bool false)], args := [d1, d2, d3] }
  | _ => none }
def ExportsOwnWrongFalsely : Prop := exportsOwnRow.holds Tryz.pinned (OpenSpec.ofChange exportsOwnWrong)

/-- 'gussetlaw12.ExportsWays': WHATEVER THE INPUT: true; the input reads as it did. -/
def exportsWaysSpec : ChangeSpec := { name := "exportsWays", fn := fun _ => fun
  | [d1, d2, d3] => { results := [.lit (.bool true)], args := [d1, d2, d3] }
  | _ => none }
def exportsWaysRow : OpenClaim := { program := "ytadkmlcnmkdfiaagreatdoor", sum := "d4c24a77083171614f914a75b18741c1d6b514e6e1e5b89eabebd85ffe0bf0c8", func := "gusset/gussetlaw12.ExportsWays", spec := "exportsWays", unfollowed := true, recurses := true, named := ["gusset/lex.words"], plainKeys := false, apart := false, laid := [("gusset/lex.words", laid_gusset_lex_words)] }
def ExportsWaysSaid : Prop := exportsWaysRow.holds Tryz.pinned (OpenSpec.ofChange exportsWaysSpec)

/-- ITS FALSE NEIGHBOUR: 'it returns false'. Refute it at one input. -/
def exportsWaysWrong : ChangeSpec := { name := "exportsWays", fn := fun _ => fun
  | [d1, d2, d3] => { results := [.lit (.bool false)], args := [d1, d2, d3] }
  | _ => none }
def ExportsWaysWrongFalsely : Prop := exportsWaysRow.holds Tryz.pinned (OpenSpec.ofChange exportsWaysWrong)

/-- 'gussetlaw12.ExportsRound': WHATEVER THE INPUT: true; the input reads as it did. -/
def exportsRoundSpec : ChangeSpec := { name := "exportsRound", fn := fun _ => fun
  | [d1, d2, d3] => { results := [.lit (.bool true)], args := [d1, d2, d3] }
  | _ => none }
def exportsRoundRow : OpenClaim := { program := "ytadkmlcnmkdfiaagreatdoor", sum := "d4c24a77083171614f914a75b18741c1d6b514e6e1e5b89eabebd85ffe0bf0c8", func := "gusset/gussetlaw12.ExportsRound", spec := "exportsRound", unfollowed := true, recurses := true, named := ["gusset/lex.words"], plainKeys := false, apart := false, laid := [("gusset/lex.words", laid_gusset_lex_words)] }
def ExportsRoundSaid : Prop := exportsRoundRow.holds Tryz.pinned (OpenSpec.ofChange exportsRoundSpec)

/-- ITS FALSE NEIGHBOUR: 'it returns false'. Refute it at one input. -/
def exportsRoundWrong : ChangeSpec := { name := "exportsRound", fn := fun _ => fun
  | [d1, d2, d3] => { results := [.lit (.bool false)], args := [d1, d2, d3] }
  | _ => none }
def ExportsRoundWrongFalsely : Prop := exportsRoundRow.holds Tryz.pinned (OpenSpec.ofChange exportsRoundWrong)

/- THE SECOND FORM. 'bulk': how many values and letters a reading holds, each counted each time it is reached (what is shared counts as often as it is met; a slice's spare places count too). A statement '..UptoSaid' is the law's where the arguments, and the package variables that the reading takes, are together of bulk at most 1048576: NARROWER than '..Said'. Prove '..Said' where nothing that the law and all that it calls make is longer than what came in: it says more and counts as full. Else prove '..UptoSaid'. A law counts once. -/
mutual
def uptoBulk {H : Type} : DataW H → Nat
  | .lit (.string bytes) => bytes.length + 1
  | .lit _ => 1
  | .nil => 1
  | .ptr d => uptoBulk d + 1
  | .slice elems spare => uptoBulkAll elems + uptoBulkAll spare + 1
  | .agg parts => uptoBulkAll parts + 1
  | .iface _ d => uptoBulk d + 1
  | .map entries => uptoBulkEntries entries + 1
  | .held _ => 1
def uptoBulkAll {H : Type} : List (DataW H) → Nat
  | [] => 0
  | d :: r => uptoBulk d + uptoBulkAll r
def uptoBulkEntries {H : Type} : List (Lit × DataW H) → Nat
  | [] => 0
  | x :: r => uptoBulkEntry x + uptoBulkEntries r
def uptoBulkEntry {H : Type} : Lit × DataW H → Nat
  | (.string bytes, d) => bytes.length + uptoBulk d + 1
  | (_, d) => uptoBulk d + 1
 end
def uptoSmall : (H : Type) → List (DataW H) → Bool := fun _ ds => decide (uptoBulkAll ds ≤ 1048576)
def OpenSpec.upto (s : _root_.Go.ChangeSpec) : _root_.Go.OpenSpec := { _root_.Go.OpenSpec.ofChange s with cond := some uptoSmall }

/-- 'gussetlaw12.ExportsEntries', WHERE WHAT IT READS IS OF BULK AT MOST 1048576: true; the input reads as it did. -/
def exportsEntriesUptoRow : OpenClaim := { program := "ytadkmlcnmkdfiaagreatdoor", sum := "d4c24a77083171614f914a75b18741c1d6b514e6e1e5b89eabebd85ffe0bf0c8", func := "gusset/gussetlaw12.ExportsEntries", spec := "exportsEntries", unfollowed := true, recurses := true, named := ["gusset/lex.words"], plainKeys := false, apart := false, laid := [("gusset/lex.words", laid_gusset_lex_words)], narrowed := true }
def ExportsEntriesUptoSaid : Prop := exportsEntriesUptoRow.holds Tryz.pinned (OpenSpec.upto exportsEntriesSpec)

/-- 'gussetlaw12.ExportsResolves', WHERE WHAT IT READS IS OF BULK AT MOST 1048576: true; the input reads as it did. -/
def exportsResolvesUptoRow : OpenClaim := { program := "ytadkmlcnmkdfiaagreatdoor", sum := "d4c24a77083171614f914a75b18741c1d6b514e6e1e5b89eabebd85ffe0bf0c8", func := "gusset/gussetlaw12.ExportsResolves", spec := "exportsResolves", unfollowed := true, recurses := true, named := ["gusset/lex.words"], plainKeys := false, apart := false, laid := [("gusset/lex.words", laid_gusset_lex_words)], narrowed := true }
def ExportsResolvesUptoSaid : Prop := exportsResolvesUptoRow.holds Tryz.pinned (OpenSpec.upto exportsResolvesSpec)

/-- 'gussetlaw12.ExportsNames', WHERE WHAT IT READS IS OF BULK AT MOST 1048576: true; the input reads as it did. -/
def exportsNamesUptoRow : OpenClaim := { program := "ytadkmlcnmkdfiaagreatdoor", sum := "d4c24a77083171614f914a75b18741c1d6b514e6e1e5b89eabebd85ffe0bf0c8", func := "gusset/gussetlaw12.ExportsNames", spec := "exportsNames", unfollowed := true, recurses := true, named := ["gusset/lex.words"], plainKeys := false, apart := false, laid := [("gusset/lex.words", laid_gusset_lex_words)], narrowed := true }
def ExportsNamesUptoSaid : Prop := exportsNamesUptoRow.holds Tryz.pinned (OpenSpec.upto exportsNamesSpec)

/-- 'gussetlaw12.ExportsOwn', WHERE WHAT IT READS IS OF BULK AT MOST 1048576: true; the input reads as it did. -/
def exportsOwnUptoRow : OpenClaim := { program := "ytadkmlcnmkdfiaagreatdoor", sum := "d4c24a77083171614f914a75b18741c1d6b514e6e1e5b89eabebd85ffe0bf0c8", func := "gusset/gussetlaw12.ExportsOwn", spec := "exportsOwn", unfollowed := true, recurses := true, named := ["gusset/lex.words"], plainKeys := false, apart := false, laid := [("gusset/lex.words", laid_gusset_lex_words)], narrowed := true }
def ExportsOwnUptoSaid : Prop := exportsOwnUptoRow.holds Tryz.pinned (OpenSpec.upto exportsOwnSpec)

/-- 'gussetlaw12.ExportsWays', WHERE WHAT IT READS IS OF BULK AT MOST 1048576: true; the input reads as it did. -/
def exportsWaysUptoRow : OpenClaim := { program := "ytadkmlcnmkdfiaagreatdoor", sum := "d4c24a77083171614f914a75b18741c1d6b514e6e1e5b89eabebd85ffe0bf0c8", func := "gusset/gussetlaw12.ExportsWays", spec := "exportsWays", unfollowed := true, recurses := true, named := ["gusset/lex.words"], plainKeys := false, apart := false, laid := [("gusset/lex.words", laid_gusset_lex_words)], narrowed := true }
def ExportsWaysUptoSaid : Prop := exportsWaysUptoRow.holds Tryz.pinned (OpenSpec.upto exportsWaysSpec)

/-- 'gussetlaw12.ExportsRound', WHERE WHAT IT READS IS OF BULK AT MOST 1048576: true; the input reads as it did. -/
def exportsRoundUptoRow : OpenClaim := { program := "ytadkmlcnmkdfiaagreatdoor", sum := "d4c24a77083171614f914a75b18741c1d6b514e6e1e5b89eabebd85ffe0bf0c8", func := "gusset/gussetlaw12.ExportsRound", spec := "exportsRound", unfollowed := true, recurses := true, named := ["gusset/lex.words"], plainKeys := false, apart := false, laid := [("gusset/lex.words", laid_gusset_lex_words)], narrowed := true }
def ExportsRoundUptoSaid : Prop := exportsRoundUptoRow.holds Tryz.pinned (OpenSpec.upto exportsRoundSpec)

end Rows
end Go.Proofs.YtadkmlcnmkdfiaaGreatDoor
