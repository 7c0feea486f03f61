/- Own text. Forms of kinds, and where a kind may stand: package tree. -/
import Derived.Test.YtggahoefbcnaiaaDoorT3
namespace Go.Proofs.YtggahoefbcnaiaaDoor
open Go.RowKit
set_option linter.unusedVariables false

/-- the form of the whole trees of a kind. -/
def formK (k : Int) : Int :=
  if k = 1 ∨ k = 2 ∨ k = 3 ∨ k = 4 ∨ k = 5 ∨ k = 6 ∨ k = 7 ∨ k = 8 ∨ k = 9 ∨ k = 11 ∨ k = 15 ∨ k = 16 ∨ k = 17 ∨ k = 18 ∨ k = 19 ∨ k = 20 ∨ k = 21 ∨ k = 22 then 1
  else if k = 30 ∨ k = 31 ∨ k = 32 ∨ k = 33 ∨ k = 35 then 2
  else if k = 40 ∨ k = 41 ∨ k = 47 ∨ k = 48 ∨ k = 49 ∨ k = 50 ∨ k = 51 ∨ k = 52 then 3
  else if k = 42 ∨ k = 46 ∨ k = 60 ∨ k = 62 ∨ k = 63 ∨ k = 64 then 4
  else if k = 68 then 5
  else if k = 69 then 6
  else 0

set_option maxHeartbeats 8000000 in
theorem formOf_any (k : Int) (w : World) : Calls Tryd.prog 28 #[.int .i64 k] w fun e w' => e = .returned (.int .i64 (formK k)) ∧ w' = w := by
  go_enter Tryd.func28, Tryd.ntmps28
  go_wp2
  all_goals go_ret
  all_goals exact ⟨by simp_all [formK], rfl⟩
end Go.Proofs.YtggahoefbcnaiaaDoor
