/- Own text. The rules of kinds: package tree. -/
import Derived.Test.YtggahoefbcnaiaaDoorF2
namespace Go.Proofs.YtggahoefbcnaiaaDoor
open Go.RowKit
set_option linter.unusedVariables false

set_option maxHeartbeats 8000000 in
theorem itemRule_any (k : Int) (w : World) : Calls Tryd.prog 64 #[.int .i64 k] w fun e w' => RulAns w (itemR k) e w' := by
  go_enter Tryd.func64, Tryd.ntmps64
  go_wp2
  · rw [show itemR _ = (⟨1, 0, [], 113⟩ : Rul) by simp_all [itemR]]
    exact bodyPost_ret (res_rule Tryd.results64 (hnew _ rfl) rfl) rfl ⟨_, rfl, .inl ⟨rfl, rfl⟩, bel_a _ _⟩
  · rw [show itemR _ = (⟨1, 0, [104], 0⟩ : Rul) by simp_all [itemR]]
    exact bodyPost_ret (res_rule Tryd.results64 (hold _ (by simp) (hnew _ rfl)) rfl) rfl ⟨_, rfl, .inr ⟨w.heap.size + 1, _, rfl, hnew _ (by simp)⟩, bel_aa _ _ _⟩
  · rw [show itemR _ = (⟨6, 1, [], 61⟩ : Rul) by simp_all [itemR]]
    exact bodyPost_ret (res_rule Tryd.results64 (hnew _ rfl) rfl) rfl ⟨_, rfl, .inl ⟨rfl, rfl⟩, bel_a _ _⟩
  · rw [show itemR _ = (⟨0, 0, [111], 0⟩ : Rul) by simp_all [itemR]]
    exact bodyPost_ret (res_rule Tryd.results64 (hold _ (by simp) (hnew _ rfl)) rfl) rfl ⟨_, rfl, .inr ⟨w.heap.size + 1, _, rfl, hnew _ (by simp)⟩, bel_aa _ _ _⟩
  · rw [show itemR _ = (⟨0, 0, [112], 0⟩ : Rul) by simp_all [itemR]]
    exact bodyPost_ret (res_rule Tryd.results64 (hold _ (by simp) (hnew _ rfl)) rfl) rfl ⟨_, rfl, .inr ⟨w.heap.size + 1, _, rfl, hnew _ (by simp)⟩, bel_aa _ _ _⟩
  · rw [show itemR _ = (⟨6, 1, [65], 65⟩ : Rul) by simp_all [itemR]]
    exact bodyPost_ret (res_rule Tryd.results64 (hold _ (by simp) (hnew _ rfl)) rfl) rfl ⟨_, rfl, .inr ⟨w.heap.size + 1, _, rfl, hnew _ (by simp)⟩, bel_aa _ _ _⟩
end Go.Proofs.YtggahoefbcnaiaaDoor
