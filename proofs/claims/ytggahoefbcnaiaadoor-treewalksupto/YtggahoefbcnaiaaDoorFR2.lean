/- Own text. The rules of kinds: package tree. -/
import Derived.Test.YtggahoefbcnaiaaDoorF2
namespace Go.Proofs.YtggahoefbcnaiaaDoor
open Go.RowKit
set_option linter.unusedVariables false

set_option maxHeartbeats 8000000 in
theorem typeRule_any (k : Int) (w : World) : Calls Tryd.prog 62 #[.int .i64 k] w fun e w' => RulAns w (typeR k) e w' := by
  go_enter Tryd.func62, Tryd.ntmps62
  go_wp2
  · rw [show typeR _ = (⟨0, 0, [104], 0⟩ : Rul) by simp_all [typeR]]
    exact bodyPost_ret (res_rule Tryd.results62 (hold _ (by simp) (hnew _ rfl)) rfl) rfl ⟨_, rfl, .inr ⟨w.heap.size + 1, _, rfl, hnew _ (by simp)⟩, bel_aa _ _ _⟩
  · rw [show typeR _ = (⟨0, 0, [105, 105], 105⟩ : Rul) by simp_all [typeR]]
    exact bodyPost_ret (res_rule Tryd.results62 (hold _ (by simp) (hnew _ rfl)) rfl) rfl ⟨_, rfl, .inr ⟨w.heap.size + 1, _, rfl, hnew _ (by simp)⟩, bel_aa _ _ _⟩
  · rw [show typeR _ = (⟨0, 0, [], 34⟩ : Rul) by simp_all [typeR]]
    exact bodyPost_ret (res_rule Tryd.results62 (hnew _ rfl) rfl) rfl ⟨_, rfl, .inl ⟨rfl, rfl⟩, bel_a _ _⟩
  · rw [show typeR _ = (⟨0, 0, [12, 104], 0⟩ : Rul) by simp_all [typeR]]
    exact bodyPost_ret (res_rule Tryd.results62 (hold _ (by simp) (hnew _ rfl)) rfl) rfl ⟨_, rfl, .inr ⟨w.heap.size + 1, _, rfl, hnew _ (by simp)⟩, bel_aa _ _ _⟩
  · rw [show typeR _ = (⟨5, 0, [], 0⟩ : Rul) by simp_all [typeR]]
    exact bodyPost_ret (res_rule Tryd.results62 (hnew _ rfl) rfl) rfl ⟨_, rfl, .inl ⟨rfl, rfl⟩, bel_a _ _⟩
end Go.Proofs.YtggahoefbcnaiaaDoor
