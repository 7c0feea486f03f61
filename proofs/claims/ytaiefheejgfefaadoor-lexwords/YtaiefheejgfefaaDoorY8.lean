/- Own text. Each word is read as a word; with a stroke behind it, as a name. -/
import Derived.Test.YtaiefheejgfefaaDoorX12
namespace Go.Proofs.YtaiefheejgfefaaDoor
open Go.RowKit
set_option linter.unusedVariables false

def isOne (r : Lx) (k : Int) : Bool := match r with
  | .ok [((k', _, _), _)] => k' == k
  | _ => false
theorem words_read : ∀ i : Fin 19, isOne (lexL 0 (wordsL.getD i.val []) false) 2 = true := by decide +kernel
theorem words_named : ∀ i : Fin 19, isOne (lexL 0 (wordsL.getD i.val [] ++ [95]) true) 1 = true := by decide +kernel
theorem isOne_out {r : Lx} {k : Int} (h : isOne r k = true) : ∃ t n a, r = .ok [((k, t, n), a)] := by
  unfold isOne at h
  split at h
  · rename_i k' t n a
    have e : k' = k := by simpa using h
    subst e
    exact ⟨t, n, a, rfl⟩
  · cases h

end Go.Proofs.YtaiefheejgfefaaDoor
