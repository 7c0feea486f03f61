/-
  NARROWER THAN 'FOR EVERY INPUT', by the rows' own cells (each row's printed sentence says how): ScopeTells: loops, laid · ScopeTops: loops, laid · ScopeAdds: loops, laid · ScopeOwn: loops, laid.
  DERIVED. THE GIVEN ROWS OF THIS SEAT. 4 by the template 'for every input the law returns true; each argument reads behind the call as it read before'; 0 by the template 'total and deterministic' (their statements: YtfcocoadaajbjaaGreatDoorTotals.lean).
  GIVEN WITH THE SEED: the statements are not yours to turn. If you find one false, say at which input.
  Laid BY PROGRAM, IN A SANDBOX (cutbox-rows.mjs): the forced cells as the released guide's own fill.sh prints them over the translation a38e12bad393d571… (all of the seat's roots in one cut). By AI agents, Wed Nov 11 2026. No macro, syntax, notation, axiom, sorry.
-/
import Derived.Test.YtfcocoadaajbjaaGreatDoorChecked
import GoSem.Claim
import GoSem.ClaimJoined
import GoSem.ClaimMapViews
import Derived.JoinedTies
import Derived.KernelRfl
namespace Go.Proofs.YtfcocoadaajbjaaGreatDoor
/- THE CELL 'sum', in the pinned program and in every row, IS THE sha256 OF THE DUMP (.gsa) THAT YtfcocoadaajbjaaGreatDoorProg.lean LOADS. Nothing in Lean hashes anything: it is a label: what it is worth is what the hold of that sum in a sandbox is worth. -/
noncomputable def Tryz.pinned : Pinned := { name := "ytfcocoadaajbjaagreatdoor", sum := "a38e12bad393d571f04633245be6947debbfe5cc234fa83662846371552dae02", checked := Tryz.checked }
namespace Rows
def none {H : Type} : Left H := { results := [], args := [] }

/- WHAT THE LISTED PACKAGE-LEVEL VARIABLES READ AS WHEN THE CALL BEGINS. Each datum BY PROGRAM (the guide's laid-datum.mjs) off the statement by which the dump's own 'gosem.cut.vars' lays the variable. In a bare row this is a premise. The card (YtfcocoadaajbjaaGreatDoorCards.lean) ties it to the program's text. -/
def laid_gusset_lex_words {H : Type} : DataW H := .agg [.lit (.string [99, 108, 97, 115, 115]), .lit (.string [99, 111, 110, 115, 116]), .lit (.string [100, 101, 102, 97, 117, 108, 116]), .lit (.string [101, 108, 115, 101]), .lit (.string [101, 120, 112, 111, 114, 116]), .lit (.string [102, 97, 108, 115, 101]), .lit (.string [102, 117, 110, 99, 116, 105, 111, 110]), .lit (.string [105, 102]), .lit (.string [105, 109, 112, 111, 114, 116]), .lit (.string [108, 101, 116]), .lit (.string [110, 101, 119]), .lit (.string [110, 117, 108, 108]), .lit (.string [114, 101, 116, 117, 114, 110]), .lit (.string [116, 104, 105, 115]), .lit (.string [116, 104, 114, 111, 119]), .lit (.string [116, 114, 117, 101]), .lit (.string [116, 121, 112, 101, 111, 102]), .lit (.string [117, 110, 100, 101, 102, 105, 110, 101, 100]), .lit (.string [119, 104, 105, 108, 101])]

/-- 'gussetlaw09.ScopeTells': WHATEVER THE INPUT: true; the input reads as it did. -/
def scopeTellsSpec : ChangeSpec := { name := "scopeTells", fn := fun _ => fun
  | [d] => { results := [.lit (.bool true)], args := [d] }
  | _ => none }
def scopeTellsRow : OpenClaim := { program := "ytfcocoadaajbjaagreatdoor", sum := "a38e12bad393d571f04633245be6947debbfe5cc234fa83662846371552dae02", func := "gusset/gussetlaw09.ScopeTells", spec := "scopeTells", unfollowed := true, recurses := true, named := ["gusset/lex.words"], loops := true, apart := false, laid := [("gusset/lex.words", laid_gusset_lex_words)] }
def ScopeTellsSaid : Prop := scopeTellsRow.holds Tryz.pinned (OpenSpec.ofChange scopeTellsSpec)

/-- ITS FALSE NEIGHBOUR: 'it returns false'. Refute it at one input. -/
def scopeTellsWrong : ChangeSpec := { name := "scopeTells", fn := fun _ => fun
  | [d] => { results := [.lit (.bool false)], args := [d] }
  | _ => none }
def ScopeTellsWrongFalsely : Prop := scopeTellsRow.holds Tryz.pinned (OpenSpec.ofChange scopeTellsWrong)

/-- 'gussetlaw09.ScopeTops': WHATEVER THE INPUT: true; the input reads as it did. -/
def scopeTopsSpec : ChangeSpec := { name := "scopeTops", fn := fun _ => fun
  | [d] => { results := [.lit (.bool true)], args := [d] }
  | _ => none }
def scopeTopsRow : OpenClaim := { program := "ytfcocoadaajbjaagreatdoor", sum := "a38e12bad393d571f04633245be6947debbfe5cc234fa83662846371552dae02", func := "gusset/gussetlaw09.ScopeTops", spec := "scopeTops", unfollowed := true, recurses := true, named := ["gusset/lex.words"], loops := true, apart := false, laid := [("gusset/lex.words", laid_gusset_lex_words)] }
def ScopeTopsSaid : Prop := scopeTopsRow.holds Tryz.pinned (OpenSpec.ofChange scopeTopsSpec)

/-- ITS FALSE NEIGHBOUR: 'it returns false'. Refute it at one input. -/
def scopeTopsWrong : ChangeSpec := { name := "scopeTops", fn := fun _ => fun
  | [d] => { results := [.lit (.bool false)], args := [d] }
  | _ => none }
def ScopeTopsWrongFalsely : Prop := scopeTopsRow.holds Tryz.pinned (OpenSpec.ofChange scopeTopsWrong)

/-- 'gussetlaw09.ScopeAdds': WHATEVER THE INPUT: true; the input reads as it did. -/
def scopeAddsSpec : ChangeSpec := { name := "scopeAdds", fn := fun _ => fun
  | [d1, d2] => { results := [.lit (.bool true)], args := [d1, d2] }
  | _ => none }
def scopeAddsRow : OpenClaim := { program := "ytfcocoadaajbjaagreatdoor", sum := "a38e12bad393d571f04633245be6947debbfe5cc234fa83662846371552dae02", func := "gusset/gussetlaw09.ScopeAdds", spec := "scopeAdds", unfollowed := true, recurses := true, named := ["gusset/lex.words"], loops := true, apart := false, laid := [("gusset/lex.words", laid_gusset_lex_words)] }
def ScopeAddsSaid : Prop := scopeAddsRow.holds Tryz.pinned (OpenSpec.ofChange scopeAddsSpec)

/-- ITS FALSE NEIGHBOUR: 'it returns false'. Refute it at one input. -/
def scopeAddsWrong : ChangeSpec := { name := "scopeAdds", fn := fun _ => fun
  | [d1, d2] => { results := [.lit (.bool false)], args := [d1, d2] }
  | _ => none }
def ScopeAddsWrongFalsely : Prop := scopeAddsRow.holds Tryz.pinned (OpenSpec.ofChange scopeAddsWrong)

/-- 'gussetlaw09.ScopeOwn': WHATEVER THE INPUT: true; the input reads as it did. -/
def scopeOwnSpec : ChangeSpec := { name := "scopeOwn", fn := fun _ => fun
  | [d] => { results := [.lit (.bool true)], args := [d] }
  | _ => none }
def scopeOwnRow : OpenClaim := { program := "ytfcocoadaajbjaagreatdoor", sum := "a38e12bad393d571f04633245be6947debbfe5cc234fa83662846371552dae02", func := "gusset/gussetlaw09.ScopeOwn", spec := "scopeOwn", unfollowed := true, recurses := true, named := ["gusset/lex.words"], loops := true, apart := false, laid := [("gusset/lex.words", laid_gusset_lex_words)] }
def ScopeOwnSaid : Prop := scopeOwnRow.holds Tryz.pinned (OpenSpec.ofChange scopeOwnSpec)

/-- ITS FALSE NEIGHBOUR: 'it returns false'. Refute it at one input. -/
def scopeOwnWrong : ChangeSpec := { name := "scopeOwn", fn := fun _ => fun
  | [d] => { results := [.lit (.bool false)], args := [d] }
  | _ => none }
def ScopeOwnWrongFalsely : Prop := scopeOwnRow.holds Tryz.pinned (OpenSpec.ofChange scopeOwnWrong)

/- THE SECOND FORM. 'bulk': how many values and letters a reading holds, each counted each time it is reached (what is shared counts as often as it is met; a slice's spare places count too). A statement '..UptoSaid' is the law's where the arguments, and the package variables that the reading takes, are together of bulk at most 1048576: NARROWER than '..Said'. Prove '..Said' where nothing that the law and all that it calls make is longer than what came in: it says more and counts as full. Else prove '..UptoSaid'. A law counts once. -/
mutual
def uptoBulk {H : Type} : DataW H → Nat
  | .lit (.string bytes) => bytes.length + 1
  | .lit _ => 1
  | .nil => 1
  | .ptr d => uptoBulk d + 1
  | .slice elems spare => uptoBulkAll elems + uptoBulkAll spare + 1
  | .agg parts => uptoBulkAll parts + 1
  | .iface _ d => uptoBulk d + 1
  | .map entries => uptoBulkEntries entries + 1
  | .held _ => 1
def uptoBulkAll {H : Type} : List (DataW H) → Nat
  | [] => 0
  | d :: r => uptoBulk d + uptoBulkAll r
def uptoBulkEntries {H : Type} : List (Lit × DataW H) → Nat
  | [] => 0
  | x :: r => uptoBulkEntry x + uptoBulkEntries r
def uptoBulkEntry {H : Type} : Lit × DataW H → Nat
  | (.string bytes, d) => bytes.length + uptoBulk d + 1
  | (_, d) => uptoBulk d + 1
 end
def uptoSmall : (H : Type) → List (DataW H) → Bool := fun _ ds => decide (uptoBulkAll ds ≤ 1048576)
def OpenSpec.upto (s : _root_.Go.ChangeSpec) : _root_.Go.OpenSpec := { _root_.Go.OpenSpec.ofChange s with cond := some uptoSmall }

/-- 'gussetlaw09.ScopeTells', WHERE WHAT IT READS IS OF BULK AT MOST 1048576: true; the input reads as it did. -/
def scopeTellsUptoRow : OpenClaim := { program := "ytfcocoadaajbjaagreatdoor", sum := "a38e12bad393d571f04633245be6947debbfe5cc234fa83662846371552dae02", func := "gusset/gussetlaw09.ScopeTells", spec := "scopeTells", unfollowed := true, recurses := true, named := ["gusset/lex.words"], loops := true, apart := false, laid := [("gusset/lex.words", laid_gusset_lex_words)], narrowed := true }
def ScopeTellsUptoSaid : Prop := scopeTellsUptoRow.holds Tryz.pinned (OpenSpec.upto scopeTellsSpec)

/-- 'gussetlaw09.ScopeTops', WHERE WHAT IT READS IS OF BULK AT MOST 1048576: true; the input reads as it did. -/
def scopeTopsUptoRow : OpenClaim := { program := "ytfcocoadaajbjaagreatdoor", sum := "a38e12bad393d571f04633245be6947debbfe5cc234fa83662846371552dae02", func := "gusset/gussetlaw09.ScopeTops", spec := "scopeTops", unfollowed := true, recurses := true, named := ["gusset/lex.words"], loops := true, apart := false, laid := [("gusset/lex.words", laid_gusset_lex_words)], narrowed := true }
def ScopeTopsUptoSaid : Prop := scopeTopsUptoRow.holds Tryz.pinned (OpenSpec.upto scopeTopsSpec)

/-- 'gussetlaw09.ScopeAdds', WHERE WHAT IT READS IS OF BULK AT MOST 1048576: true; the input reads as it did. -/
def scopeAddsUptoRow : OpenClaim := { program := "ytfcocoadaajbjaagreatdoor", sum := "a38e12bad393d571f04633245be6947debbfe5cc234fa83662846371552dae02", func := "gusset/gussetlaw09.ScopeAdds", spec := "scopeAdds", unfollowed := true, recurses := true, named := ["gusset/lex.words"], loops := true, apart := false, laid := [("gusset/lex.words", laid_gusset_lex_words)], narrowed := true }
def ScopeAddsUptoSaid : Prop := scopeAddsUptoRow.holds Tryz.pinned (OpenSpec.upto scopeAddsSpec)

/-- 'gussetlaw09.ScopeOwn', WHERE WHAT IT READS IS OF BULK AT MOST 1048576: true; the input reads as it did. -/
def scopeOwnUptoRow : OpenClaim := { program := "ytfcocoadaajbjaagreatdoor", sum := "a38e12bad393d571f04633245be6947debbfe5cc234fa83662846371552dae02", func := "gusset/gussetlaw09.ScopeOwn", spec := "scopeOwn", unfollowed := true, recurses := true, named := ["gusset/lex.words"], loops := true, apart := false, laid := [("gusset/lex.words", laid_gusset_lex_words)], narrowed := true }
def ScopeOwnUptoSaid : Prop := scopeOwnUptoRow.holds Tryz.pinned (OpenSpec.upto scopeOwnSpec)

end Rows
end Go.Proofs.YtfcocoadaajbjaaGreatDoor
