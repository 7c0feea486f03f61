/- Own text. The rules of kinds: package tree. -/
import Derived.Test.YtggahoefbcnaiaaDoorF2
namespace Go.Proofs.YtggahoefbcnaiaaDoor
open Go.RowKit
set_option linter.unusedVariables false

set_option maxHeartbeats 8000000 in
theorem partRule_any (k : Int) (w : World) : Calls Tryd.prog 65 #[.int .i64 k] w fun e w' => RulAns2 w (partR k) e w' := by
  go_enter Tryd.func65, Tryd.ntmps65
  go_wp2
  · rw [show partR _ = some (⟨0, 0, [], 0⟩ : Rul) by simp_all [partR]]
    exact bodyPost_ret (res_rule2 Tryd.results65 (hnew _ rfl) rfl) rfl ⟨⟨0, 0, [], 0⟩, true, _, rfl, fun _ => rfl, (fun h => by cases h), .inl ⟨rfl, rfl⟩, bel_a _ _⟩
  · rw [show partR _ = some (⟨2, 0, [101], 0⟩ : Rul) by simp_all [partR]]
    exact bodyPost_ret (res_rule2 Tryd.results65 (hold _ (by simp) (hnew _ rfl)) rfl) rfl ⟨⟨2, 0, [101], 0⟩, true, _, rfl, fun _ => rfl, (fun h => by cases h), .inr ⟨w.heap.size + 1, _, rfl, hnew _ (by simp)⟩, bel_aa _ _ _⟩
  · rw [show partR _ = some (⟨0, 0, [], 13⟩ : Rul) by simp_all [partR]]
    exact bodyPost_ret (res_rule2 Tryd.results65 (hnew _ rfl) rfl) rfl ⟨⟨0, 0, [], 13⟩, true, _, rfl, fun _ => rfl, (fun h => by cases h), .inl ⟨rfl, rfl⟩, bel_a _ _⟩
  · rw [show partR _ = some (⟨1, 0, [106], 0⟩ : Rul) by simp_all [partR]]
    exact bodyPost_ret (res_rule2 Tryd.results65 (hold _ (by simp) (hnew _ rfl)) rfl) rfl ⟨⟨1, 0, [106], 0⟩, true, _, rfl, fun _ => rfl, (fun h => by cases h), .inr ⟨w.heap.size + 1, _, rfl, hnew _ (by simp)⟩, bel_aa _ _ _⟩
  · rw [show partR _ = some (⟨2, 0, [104], 0⟩ : Rul) by simp_all [partR]]
    exact bodyPost_ret (res_rule2 Tryd.results65 (hold _ (by simp) (hnew _ rfl)) rfl) rfl ⟨⟨2, 0, [104], 0⟩, true, _, rfl, fun _ => rfl, (fun h => by cases h), .inr ⟨w.heap.size + 1, _, rfl, hnew _ (by simp)⟩, bel_aa _ _ _⟩
  · rw [show partR _ = some (⟨3, 0, [106, 101], 0⟩ : Rul) by simp_all [partR]]
    exact bodyPost_ret (res_rule2 Tryd.results65 (hold _ (by simp) (hnew _ rfl)) rfl) rfl ⟨⟨3, 0, [106, 101], 0⟩, true, _, rfl, fun _ => rfl, (fun h => by cases h), .inr ⟨w.heap.size + 1, _, rfl, hnew _ (by simp)⟩, bel_aa _ _ _⟩
  · rw [show partR _ = some (⟨0, 0, [12, 52], 0⟩ : Rul) by simp_all [partR]]
    exact bodyPost_ret (res_rule2 Tryd.results65 (hold _ (by simp) (hnew _ rfl)) rfl) rfl ⟨⟨0, 0, [12, 52], 0⟩, true, _, rfl, fun _ => rfl, (fun h => by cases h), .inr ⟨w.heap.size + 1, _, rfl, hnew _ (by simp)⟩, bel_aa _ _ _⟩
  · rw [show partR _ = some (⟨3, 0, [12, 106, 52], 0⟩ : Rul) by simp_all [partR]]
    exact bodyPost_ret (res_rule2 Tryd.results65 (hold _ (by simp) (hnew _ rfl)) rfl) rfl ⟨⟨3, 0, [12, 106, 52], 0⟩, true, _, rfl, fun _ => rfl, (fun h => by cases h), .inr ⟨w.heap.size + 1, _, rfl, hnew _ (by simp)⟩, bel_aa _ _ _⟩
  · rw [show partR _ = some (⟨4, 0, [6], 0⟩ : Rul) by simp_all [partR]]
    exact bodyPost_ret (res_rule2 Tryd.results65 (hold _ (by simp) (hnew _ rfl)) rfl) rfl ⟨⟨4, 0, [6], 0⟩, true, _, rfl, fun _ => rfl, (fun h => by cases h), .inr ⟨w.heap.size + 1, _, rfl, hnew _ (by simp)⟩, bel_aa _ _ _⟩
  · rw [show partR _ = some (⟨4, 0, [114], 0⟩ : Rul) by simp_all [partR]]
    exact bodyPost_ret (res_rule2 Tryd.results65 (hold _ (by simp) (hnew _ rfl)) rfl) rfl ⟨⟨4, 0, [114], 0⟩, true, _, rfl, fun _ => rfl, (fun h => by cases h), .inr ⟨w.heap.size + 1, _, rfl, hnew _ (by simp)⟩, bel_aa _ _ _⟩
  · rw [show partR _ = some (⟨1, 0, [], 67⟩ : Rul) by simp_all [partR]]
    exact bodyPost_ret (res_rule2 Tryd.results65 (hnew _ rfl) rfl) rfl ⟨⟨1, 0, [], 67⟩, true, _, rfl, fun _ => rfl, (fun h => by cases h), .inl ⟨rfl, rfl⟩, bel_a _ _⟩
  · rw [show partR _ = some (⟨2, 0, [6], 0⟩ : Rul) by simp_all [partR]]
    exact bodyPost_ret (res_rule2 Tryd.results65 (hold _ (by simp) (hnew _ rfl)) rfl) rfl ⟨⟨2, 0, [6], 0⟩, true, _, rfl, fun _ => rfl, (fun h => by cases h), .inr ⟨w.heap.size + 1, _, rfl, hnew _ (by simp)⟩, bel_aa _ _ _⟩
  · rw [show partR _ = none by simp_all [partR]]
    exact bodyPost_ret (res_rule2 Tryd.results65 (hnew _ rfl) rfl) rfl ⟨⟨0, 0, [], 0⟩, false, _, rfl, (fun h => by cases h), fun _ => rfl, .inl ⟨rfl, rfl⟩, bel_a _ _⟩
end Go.Proofs.YtggahoefbcnaiaaDoor
