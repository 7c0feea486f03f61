/-
  NARROWER THAN 'FOR EVERY INPUT', by the rows' own cells (each row's printed sentence says how): TreeForms: loops, laid · TreeSames: loops, laid · TreePlaces: loops, laid · TreeReplaces: loops, laid · TreeWalks: loops, laid · TreeBack: loops, laid.
  DERIVED. THE GIVEN ROWS OF THIS SEAT. 6 by the template 'for every input the law returns true; each argument reads behind the call as it read before'; 0 by the template 'total and deterministic' (their statements: YtggahoefbcnaiaaDoorTotals.lean).
  GIVEN WITH THE SEED: the statements are not yours to turn. If you find one false, say at which input.
  Laid BY PROGRAM, IN A SANDBOX (cutbox-rows.mjs): the forced cells as the released guide's own fill.sh prints them over the translation 87a83f4ea1b017aa… (all of the seat's roots in one cut). By AI agents, Wed Nov 11 2026. No macro, syntax, notation, axiom, sorry.
-/
import Derived.Test.YtggahoefbcnaiaaDoorChecked
import GoSem.Claim
import GoSem.ClaimJoined
import GoSem.ClaimMapViews
import Derived.JoinedTies
import Derived.KernelRfl
namespace Go.Proofs.YtggahoefbcnaiaaDoor
/- THE CELL 'sum', in the pinned program and in every row, IS THE sha256 OF THE DUMP (.gsa) THAT YtggahoefbcnaiaaDoorProg.lean LOADS. Nothing in Lean hashes anything: it is a label: what it is worth is what the hold of that sum in a sandbox is worth. -/
noncomputable def Tryd.pinned : Pinned := { name := "ytggahoefbcnaiaadoor", sum := "87a83f4ea1b017aa95a0d2e50149343c807d4071072f7484376a0ce947e395e2", checked := Tryd.checked }
namespace Rows
def none {H : Type} : Left H := { results := [], args := [] }

/- WHAT THE LISTED PACKAGE-LEVEL VARIABLES READ AS WHEN THE CALL BEGINS. Each datum BY PROGRAM (the guide's laid-datum.mjs) off the statement by which the dump's own 'gosem.cut.vars' lays the variable. In a bare row this is a premise. The card (YtggahoefbcnaiaaDoorCards.lean) ties it to the program's text. -/
def laid_gusset_lex_words {H : Type} : DataW H := .agg [.lit (.string [99, 108, 97, 115, 115]), .lit (.string [99, 111, 110, 115, 116]), .lit (.string [100, 101, 102, 97, 117, 108, 116]), .lit (.string [101, 108, 115, 101]), .lit (.string [101, 120, 112, 111, 114, 116]), .lit (.string [102, 97, 108, 115, 101]), .lit (.string [102, 117, 110, 99, 116, 105, 111, 110]), .lit (.string [105, 102]), .lit (.string [105, 109, 112, 111, 114, 116]), .lit (.string [108, 101, 116]), .lit (.string [110, 101, 119]), .lit (.string [110, 117, 108, 108]), .lit (.string [114, 101, 116, 117, 114, 110]), .lit (.string [116, 104, 105, 115]), .lit (.string [116, 104, 114, 111, 119]), .lit (.string [116, 114, 117, 101]), .lit (.string [116, 121, 112, 101, 111, 102]), .lit (.string [117, 110, 100, 101, 102, 105, 110, 101, 100]), .lit (.string [119, 104, 105, 108, 101])]

/-- 'gussetlaw05.TreeForms': WHATEVER THE INPUT: true; the input reads as it did. -/
def treeFormsSpec : ChangeSpec := { name := "treeForms", fn := fun _ => fun
  | [d] => { results := [.lit (.bool true)], args := [d] }
  | _ => none }
def treeFormsRow : OpenClaim := { program := "ytggahoefbcnaiaadoor", sum := "87a83f4ea1b017aa95a0d2e50149343c807d4071072f7484376a0ce947e395e2", func := "gusset/gussetlaw05.TreeForms", spec := "treeForms", unfollowed := true, recurses := true, named := ["gusset/lex.words"], loops := true, apart := false, laid := [("gusset/lex.words", laid_gusset_lex_words)] }
def TreeFormsSaid : Prop := treeFormsRow.holds Tryd.pinned (OpenSpec.ofChange treeFormsSpec)

/-- ITS FALSE NEIGHBOUR: 'it returns false'. Refute it at one input. -/
def treeFormsWrong : ChangeSpec := { name := "treeForms", fn := fun _ => fun
  | [d] => { results := [.lit (.bool false)], args := [d] }
  | _ => none }
def TreeFormsWrongFalsely : Prop := treeFormsRow.holds Tryd.pinned (OpenSpec.ofChange treeFormsWrong)

/-- 'gussetlaw05.TreeSames': WHATEVER THE INPUT: true; the input reads as it did. -/
def treeSamesSpec : ChangeSpec := { name := "treeSames", fn := fun _ => fun
  | [d1, d2] => { results := [.lit (.bool true)], args := [d1, d2] }
  | _ => none }
def treeSamesRow : OpenClaim := { program := "ytggahoefbcnaiaadoor", sum := "87a83f4ea1b017aa95a0d2e50149343c807d4071072f7484376a0ce947e395e2", func := "gusset/gussetlaw05.TreeSames", spec := "treeSames", unfollowed := true, recurses := true, named := ["gusset/lex.words"], loops := true, apart := false, laid := [("gusset/lex.words", laid_gusset_lex_words)] }
def TreeSamesSaid : Prop := treeSamesRow.holds Tryd.pinned (OpenSpec.ofChange treeSamesSpec)

/-- ITS FALSE NEIGHBOUR: 'it returns false'. Refute it at one input. -/
def treeSamesWrong : ChangeSpec := { name := "treeSames", fn := fun _ => fun
  | [d1, d2] => { results := [.lit (.bool false)], args := [d1, d2] }
  | _ => none }
def TreeSamesWrongFalsely : Prop := treeSamesRow.holds Tryd.pinned (OpenSpec.ofChange treeSamesWrong)

/-- 'gussetlaw05.TreePlaces': WHATEVER THE INPUT: true; the input reads as it did. -/
def treePlacesSpec : ChangeSpec := { name := "treePlaces", fn := fun _ => fun
  | [d1, d2] => { results := [.lit (.bool true)], args := [d1, d2] }
  | _ => none }
def treePlacesRow : OpenClaim := { program := "ytggahoefbcnaiaadoor", sum := "87a83f4ea1b017aa95a0d2e50149343c807d4071072f7484376a0ce947e395e2", func := "gusset/gussetlaw05.TreePlaces", spec := "treePlaces", unfollowed := true, recurses := true, named := ["gusset/lex.words"], loops := true, apart := false, laid := [("gusset/lex.words", laid_gusset_lex_words)] }
def TreePlacesSaid : Prop := treePlacesRow.holds Tryd.pinned (OpenSpec.ofChange treePlacesSpec)

/-- ITS FALSE NEIGHBOUR: 'it returns false'. Refute it at one input. -/
def treePlacesWrong : ChangeSpec := { name := "treePlaces", fn := fun _ => fun
  | [d1, d2] => { results := [.lit (.bool false)], args := [d1, d2] }
  | _ => none }
def TreePlacesWrongFalsely : Prop := treePlacesRow.holds Tryd.pinned (OpenSpec.ofChange treePlacesWrong)

/-- 'gussetlaw05.TreeReplaces': WHATEVER THE INPUT: true; the input reads as it did. -/
def treeReplacesSpec : ChangeSpec := { name := "treeReplaces", fn := fun _ => fun
  | [d1, d2, d3] => { results := [.lit (.bool true)], args := [d1, d2, d3] }
  | _ => none }
def treeReplacesRow : OpenClaim := { program := "ytggahoefbcnaiaadoor", sum := "87a83f4ea1b017aa95a0d2e50149343c807d4071072f7484376a0ce947e395e2", func := "gusset/gussetlaw05.TreeReplaces", spec := "treeReplaces", unfollowed := true, recurses := true, named := ["gusset/lex.words"], loops := true, apart := false, laid := [("gusset/lex.words", laid_gusset_lex_words)] }
def TreeReplacesSaid : Prop := treeReplacesRow.holds Tryd.pinned (OpenSpec.ofChange treeReplacesSpec)

/-- ITS FALSE NEIGHBOUR: 'it returns false'. Refute it at one input. -/
def treeReplacesWrong : ChangeSpec := { name := "treeReplaces", fn := fun _ => fun
  | [d1, d2, d3] => { results := [.lit (.bool false)], args := [d1, d2, d3] }
  | _ => none }
def TreeReplacesWrongFalsely : Prop := treeReplacesRow.holds Tryd.pinned (OpenSpec.ofChange treeReplacesWrong)

/-- 'gussetlaw05.TreeWalks': WHATEVER THE INPUT: true; the input reads as it did. -/
def treeWalksSpec : ChangeSpec := { name := "treeWalks", fn := fun _ => fun
  | [d1, d2] => { results := [.lit (.bool true)], args := [d1, d2] }
  | _ => none }
def treeWalksRow : OpenClaim := { program := "ytggahoefbcnaiaadoor", sum := "87a83f4ea1b017aa95a0d2e50149343c807d4071072f7484376a0ce947e395e2", func := "gusset/gussetlaw05.TreeWalks", spec := "treeWalks", unfollowed := true, recurses := true, named := ["gusset/lex.words"], loops := true, apart := false, laid := [("gusset/lex.words", laid_gusset_lex_words)] }
def TreeWalksSaid : Prop := treeWalksRow.holds Tryd.pinned (OpenSpec.ofChange treeWalksSpec)

/-- ITS FALSE NEIGHBOUR: 'it returns false'. Refute it at one input. -/
def treeWalksWrong : ChangeSpec := { name := "treeWalks", fn := fun _ => fun
  | [d1, d2] => { results := [.lit (.bool false)], args := [d1, d2] }
  | _ => none }
def TreeWalksWrongFalsely : Prop := treeWalksRow.holds Tryd.pinned (OpenSpec.ofChange treeWalksWrong)

/-- 'gussetlaw05.TreeBack': WHATEVER THE INPUT: true; the input reads as it did. -/
def treeBackSpec : ChangeSpec := { name := "treeBack", fn := fun _ => fun
  | [d1, d2, d3] => { results := [.lit (.bool true)], args := [d1, d2, d3] }
  | _ => none }
def treeBackRow : OpenClaim := { program := "ytggahoefbcnaiaadoor", sum := "87a83f4ea1b017aa95a0d2e50149343c807d4071072f7484376a0ce947e395e2", func := "gusset/gussetlaw05.TreeBack", spec := "treeBack", unfollowed := true, recurses := true, named := ["gusset/lex.words"], loops := true, apart := false, laid := [("gusset/lex.words", laid_gusset_lex_words)] }
def TreeBackSaid : Prop := treeBackRow.holds Tryd.pinned (OpenSpec.ofChange treeBackSpec)

/-- ITS FALSE NEIGHBOUR: 'it returns false'. Refute it at one input. -/
def treeBackWrong : ChangeSpec := { name := "treeBack", fn := fun _ => fun
  | [d1, d2, d3] => { results := [.lit (.bool false)], args := [d1, d2, d3] }
  | _ => none }
def TreeBackWrongFalsely : Prop := treeBackRow.holds Tryd.pinned (OpenSpec.ofChange treeBackWrong)

/- THE SECOND FORM. 'bulk': how many values and letters a reading holds, each counted each time it is reached (what is shared counts as often as it is met; a slice's spare places count too). A statement '..UptoSaid' is the law's where the arguments, and the package variables that the reading takes, are together of bulk at most 1048576: NARROWER than '..Said'. Prove '..Said' where nothing that the law and all that it calls make is longer than what came in: it says more and counts as full. Else prove '..UptoSaid'. A law counts once. -/
mutual
def uptoBulk {H : Type} : DataW H → Nat
  | .lit (.string bytes) => bytes.length + 1
  | .lit _ => 1
  | .nil => 1
  | .ptr d => uptoBulk d + 1
  | .slice elems spare => uptoBulkAll elems + uptoBulkAll spare + 1
  | .agg parts => uptoBulkAll parts + 1
  | .iface _ d => uptoBulk d + 1
  | .map entries => uptoBulkEntries entries + 1
  | .held _ => 1
def uptoBulkAll {H : Type} : List (DataW H) → Nat
  | [] => 0
  | d :: r => uptoBulk d + uptoBulkAll r
def uptoBulkEntries {H : Type} : List (Lit × DataW H) → Nat
  | [] => 0
  | x :: r => uptoBulkEntry x + uptoBulkEntries r
def uptoBulkEntry {H : Type} : Lit × DataW H → Nat
  | (.string bytes, d) => bytes.length + uptoBulk d + 1
  | (_, d) => uptoBulk d + 1
 end
def uptoSmall : (H : Type) → List (DataW H) → Bool := fun _ ds => decide (uptoBulkAll ds ≤ 1048576)
def OpenSpec.upto (s : _root_.Go.ChangeSpec) : _root_.Go.OpenSpec := { _root_.Go.OpenSpec.ofChange s with cond := some uptoSmall }

/-- 'gussetlaw05.TreeForms', WHERE WHAT IT READS IS OF BULK AT MOST 1048576: true; the input reads as it did. -/
def treeFormsUptoRow : OpenClaim := { program := "ytggahoefbcnaiaadoor", sum := "87a83f4ea1b017aa95a0d2e50149343c807d4071072f7484376a0ce947e395e2", func := "gusset/gussetlaw05.TreeForms", spec := "treeForms", unfollowed := true, recurses := true, named := ["gusset/lex.words"], loops := true, apart := false, laid := [("gusset/lex.words", laid_gusset_lex_words)], narrowed := true }
def TreeFormsUptoSaid : Prop := treeFormsUptoRow.holds Tryd.pinned (OpenSpec.upto treeFormsSpec)

/-- 'gussetlaw05.TreeSames', WHERE WHAT IT READS IS OF BULK AT MOST 1048576: true; the input reads as it did. -/
def treeSamesUptoRow : OpenClaim := { program := "ytggahoefbcnaiaadoor", sum := "87a83f4ea1b017aa95a0d2e50149343c807d4071072f7484376a0ce947e395e2", func := "gusset/gussetlaw05.TreeSames", spec := "treeSames", unfollowed := true, recurses := true, named := ["gusset/lex.words"], loops := true, apart := false, laid := [("gusset/lex.words", laid_gusset_lex_words)], narrowed := true }
def TreeSamesUptoSaid : Prop := treeSamesUptoRow.holds Tryd.pinned (OpenSpec.upto treeSamesSpec)

/-- 'gussetlaw05.TreePlaces', WHERE WHAT IT READS IS OF BULK AT MOST 1048576: true; the input reads as it did. -/
def treePlacesUptoRow : OpenClaim := { program := "ytggahoefbcnaiaadoor", sum := "87a83f4ea1b017aa95a0d2e50149343c807d4071072f7484376a0ce947e395e2", func := "gusset/gussetlaw05.TreePlaces", spec := "treePlaces", unfollowed := true, recurses := true, named := ["gusset/lex.words"], loops := true, apart := false, laid := [("gusset/lex.words", laid_gusset_lex_words)], narrowed := true }
def TreePlacesUptoSaid : Prop := treePlacesUptoRow.holds Tryd.pinned (OpenSpec.upto treePlacesSpec)

/-- 'gussetlaw05.TreeReplaces', WHERE WHAT IT READS IS OF BULK AT MOST 1048576: true; the input reads as it did. -/
def treeReplacesUptoRow : OpenClaim := { program := "ytggahoefbcnaiaadoor", sum := "87a83f4ea1b017aa95a0d2e50149343c807d4071072f7484376a0ce947e395e2", func := "gusset/gussetlaw05.TreeReplaces", spec := "treeReplaces", unfollowed := true, recurses := true, named := ["gusset/lex.words"], loops := true, apart := false, laid := [("gusset/lex.words", laid_gusset_lex_words)], narrowed := true }
def TreeReplacesUptoSaid : Prop := treeReplacesUptoRow.holds Tryd.pinned (OpenSpec.upto treeReplacesSpec)

/-- 'gussetlaw05.TreeWalks', WHERE WHAT IT READS IS OF BULK AT MOST 1048576: true; the input reads as it did. -/
def treeWalksUptoRow : OpenClaim := { program := "ytggahoefbcnaiaadoor", sum := "87a83f4ea1b017aa95a0d2e50149343c807d4071072f7484376a0ce947e395e2", func := "gusset/gussetlaw05.TreeWalks", spec := "treeWalks", unfollowed := true, recurses := true, named := ["gusset/lex.words"], loops := true, apart := false, laid := [("gusset/lex.words", laid_gusset_lex_words)], narrowed := true }
def TreeWalksUptoSaid : Prop := treeWalksUptoRow.holds Tryd.pinned (OpenSpec.upto treeWalksSpec)

/-- 'gussetlaw05.TreeBack', WHERE WHAT IT READS IS OF BULK AT MOST 1048576: true; the input reads as it did. -/
def treeBackUptoRow : OpenClaim := { program := "ytggahoefbcnaiaadoor", sum := "87a83f4ea1b017aa95a0d2e50149343c807d4071072f7484376a0ce947e395e2", func := "gusset/gussetlaw05.TreeBack", spec := "treeBack", unfollowed := true, recurses := true, named := ["gusset/lex.words"], loops := true, apart := false, laid := [("gusset/lex.words", laid_gusset_lex_words)], narrowed := true }
def TreeBackUptoSaid : Prop := treeBackUptoRow.holds Tryd.pinned (OpenSpec.upto treeBackSpec)

end Rows
end Go.Proofs.YtggahoefbcnaiaaDoor
