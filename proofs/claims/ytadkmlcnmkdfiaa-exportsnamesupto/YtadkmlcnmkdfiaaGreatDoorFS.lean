/- Own text. Where a kind may stand: package tree. -/
import Derived.Test.YtadkmlcnmkdfiaaGreatDoorFA
namespace Go.Proofs.YtadkmlcnmkdfiaaGreatDoor
open Go.RowKit
set_option linter.unusedVariables false

theorem ret_b {a b : Bool} (h : a = b) : Ending.returned (.bool a) = .returned (.bool b) := by rw [h]
set_option maxHeartbeats 8000000 in
theorem stands_any (p k : Int) (w : World) : Calls Tryz.prog 159 #[.int .i64 p, .int .i64 k] w fun e w' => e = .returned (.bool (standsK p k)) ∧ w' = w := by
  have hf := formOf_any k
  unfold standsK
  generalize formK k = f at *
  go_enter Tryz.func159, Tryz.ntmps159
  go_wp2_with (go_at_call 49; refine (hf _).mono ?_; rintro e w' ⟨rfl, rfl⟩)
  all_goals go_ret
  all_goals exact ⟨ret_b (by clear hf; simp_all), rfl⟩

end Go.Proofs.YtadkmlcnmkdfiaaGreatDoor
