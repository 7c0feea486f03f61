/- Own text. The rules of kinds: package tree. The rules of kinds: package tree. The rules of kinds: package tree. The rules of kinds: package tree. The rules of kinds: package tree. -/
import Derived.Test.YtadkmlcnmkdfiaaGreatDoorFA
namespace Go.Proofs.YtadkmlcnmkdfiaaGreatDoor
open Go.RowKit
set_option linter.unusedVariables false

set_option maxHeartbeats 8000000 in
theorem exprRule_any (k : Int) (w : World) : Calls Tryz.prog 118 #[.int .i64 k] w fun e w' => RulAns w (exprR k) e w' := by
  go_enter Tryz.func118, Tryz.ntmps118
  go_wp2
  · rw [show exprR _ = (⟨0, 9007199254740991, [], 0⟩ : Rul) by simp_all [exprR]]
    exact bodyPost_ret (res_rule Tryz.results118 (hnew _ rfl) rfl) rfl ⟨_, rfl, .inl ⟨rfl, rfl⟩, bel_a _ _⟩
  · rw [show exprR _ = (⟨6, 0, [], 0⟩ : Rul) by simp_all [exprR]]
    exact bodyPost_ret (res_rule Tryz.results118 (hnew _ rfl) rfl) rfl ⟨_, rfl, .inl ⟨rfl, rfl⟩, bel_a _ _⟩
  · rw [show exprR _ = (⟨0, 1, [], 0⟩ : Rul) by simp_all [exprR]]
    exact bodyPost_ret (res_rule Tryz.results118 (hnew _ rfl) rfl) rfl ⟨_, rfl, .inl ⟨rfl, rfl⟩, bel_a _ _⟩
  · rw [show exprR _ = (⟨1, 0, [], 0⟩ : Rul) by simp_all [exprR]]
    exact bodyPost_ret (res_rule Tryz.results118 (hnew _ rfl) rfl) rfl ⟨_, rfl, .inl ⟨rfl, rfl⟩, bel_a _ _⟩
  · rw [show exprR _ = (⟨0, 0, [], 101⟩ : Rul) by simp_all [exprR]]
    exact bodyPost_ret (res_rule Tryz.results118 (hnew _ rfl) rfl) rfl ⟨_, rfl, .inl ⟨rfl, rfl⟩, bel_a _ _⟩
  · rw [show exprR _ = (⟨0, 0, [], 10⟩ : Rul) by simp_all [exprR]]
    exact bodyPost_ret (res_rule Tryz.results118 (hnew _ rfl) rfl) rfl ⟨_, rfl, .inl ⟨rfl, rfl⟩, bel_a _ _⟩
  · rw [show exprR _ = (⟨0, 0, [12, 106, 52], 0⟩ : Rul) by simp_all [exprR]]
    exact bodyPost_ret (res_rule Tryz.results118 (hold _ (by simp) (hnew _ rfl)) rfl) rfl ⟨_, rfl, .inr ⟨w.heap.size + 1, _, rfl, hnew _ (by simp)⟩, bel_aa _ _ _⟩
  · rw [show exprR _ = (⟨7, 0, [101], 0⟩ : Rul) by simp_all [exprR]]
    exact bodyPost_ret (res_rule Tryz.results118 (hold _ (by simp) (hnew _ rfl)) rfl) rfl ⟨_, rfl, .inr ⟨w.heap.size + 1, _, rfl, hnew _ (by simp)⟩, bel_aa _ _ _⟩
  · rw [show exprR _ = (⟨8, 0, [101, 101], 0⟩ : Rul) by simp_all [exprR]]
    exact bodyPost_ret (res_rule Tryz.results118 (hold _ (by simp) (hnew _ rfl)) rfl) rfl ⟨_, rfl, .inr ⟨w.heap.size + 1, _, rfl, hnew _ (by simp)⟩, bel_aa _ _ _⟩
  · rw [show exprR _ = (⟨0, 0, [101, 101, 101], 0⟩ : Rul) by simp_all [exprR]]
    exact bodyPost_ret (res_rule Tryz.results118 (hold _ (by simp) (hnew _ rfl)) rfl) rfl ⟨_, rfl, .inr ⟨w.heap.size + 1, _, rfl, hnew _ (by simp)⟩, bel_aa _ _ _⟩
  · rw [show exprR _ = (⟨0, 0, [103, 101], 0⟩ : Rul) by simp_all [exprR]]
    exact bodyPost_ret (res_rule Tryz.results118 (hold _ (by simp) (hnew _ rfl)) rfl) rfl ⟨_, rfl, .inr ⟨w.heap.size + 1, _, rfl, hnew _ (by simp)⟩, bel_aa _ _ _⟩
  · rw [show exprR _ = (⟨0, 0, [101], 101⟩ : Rul) by simp_all [exprR]]
    exact bodyPost_ret (res_rule Tryz.results118 (hold _ (by simp) (hnew _ rfl)) rfl) rfl ⟨_, rfl, .inr ⟨w.heap.size + 1, _, rfl, hnew _ (by simp)⟩, bel_aa _ _ _⟩
  · rw [show exprR _ = (⟨1, 0, [], 101⟩ : Rul) by simp_all [exprR]]
    exact bodyPost_ret (res_rule Tryz.results118 (hnew _ rfl) rfl) rfl ⟨_, rfl, .inl ⟨rfl, rfl⟩, bel_a _ _⟩
  · rw [show exprR _ = (⟨2, 0, [101], 0⟩ : Rul) by simp_all [exprR]]
    exact bodyPost_ret (res_rule Tryz.results118 (hold _ (by simp) (hnew _ rfl)) rfl) rfl ⟨_, rfl, .inr ⟨w.heap.size + 1, _, rfl, hnew _ (by simp)⟩, bel_aa _ _ _⟩
  · rw [show exprR _ = (⟨0, 0, [101, 101], 0⟩ : Rul) by simp_all [exprR]]
    exact bodyPost_ret (res_rule Tryz.results118 (hold _ (by simp) (hnew _ rfl)) rfl) rfl ⟨_, rfl, .inr ⟨w.heap.size + 1, _, rfl, hnew _ (by simp)⟩, bel_aa _ _ _⟩
  · rw [show exprR _ = (⟨0, 0, [], 0⟩ : Rul) by simp_all [exprR]]
    exact bodyPost_ret (res_rule Tryz.results118 (hnew _ rfl) rfl) rfl ⟨_, rfl, .inl ⟨rfl, rfl⟩, bel_a _ _⟩
end Go.Proofs.YtadkmlcnmkdfiaaGreatDoor
namespace Go.Proofs.YtadkmlcnmkdfiaaGreatDoor
open Go.RowKit
set_option linter.unusedVariables false

set_option maxHeartbeats 8000000 in
theorem typeRule_any (k : Int) (w : World) : Calls Tryz.prog 119 #[.int .i64 k] w fun e w' => RulAns w (typeR k) e w' := by
  go_enter Tryz.func119, Tryz.ntmps119
  go_wp2
  · rw [show typeR _ = (⟨0, 0, [104], 0⟩ : Rul) by simp_all [typeR]]
    exact bodyPost_ret (res_rule Tryz.results119 (hold _ (by simp) (hnew _ rfl)) rfl) rfl ⟨_, rfl, .inr ⟨w.heap.size + 1, _, rfl, hnew _ (by simp)⟩, bel_aa _ _ _⟩
  · rw [show typeR _ = (⟨0, 0, [105, 105], 105⟩ : Rul) by simp_all [typeR]]
    exact bodyPost_ret (res_rule Tryz.results119 (hold _ (by simp) (hnew _ rfl)) rfl) rfl ⟨_, rfl, .inr ⟨w.heap.size + 1, _, rfl, hnew _ (by simp)⟩, bel_aa _ _ _⟩
  · rw [show typeR _ = (⟨0, 0, [], 34⟩ : Rul) by simp_all [typeR]]
    exact bodyPost_ret (res_rule Tryz.results119 (hnew _ rfl) rfl) rfl ⟨_, rfl, .inl ⟨rfl, rfl⟩, bel_a _ _⟩
  · rw [show typeR _ = (⟨0, 0, [12, 104], 0⟩ : Rul) by simp_all [typeR]]
    exact bodyPost_ret (res_rule Tryz.results119 (hold _ (by simp) (hnew _ rfl)) rfl) rfl ⟨_, rfl, .inr ⟨w.heap.size + 1, _, rfl, hnew _ (by simp)⟩, bel_aa _ _ _⟩
  · rw [show typeR _ = (⟨5, 0, [], 0⟩ : Rul) by simp_all [typeR]]
    exact bodyPost_ret (res_rule Tryz.results119 (hnew _ rfl) rfl) rfl ⟨_, rfl, .inl ⟨rfl, rfl⟩, bel_a _ _⟩
end Go.Proofs.YtadkmlcnmkdfiaaGreatDoor
namespace Go.Proofs.YtadkmlcnmkdfiaaGreatDoor
open Go.RowKit
set_option linter.unusedVariables false

set_option maxHeartbeats 8000000 in
theorem stmtRule_any (k : Int) (w : World) : Calls Tryz.prog 120 #[.int .i64 k] w fun e w' => RulAns w (stmtR k) e w' := by
  go_enter Tryz.func120, Tryz.ntmps120
  go_wp2
  · rw [show stmtR _ = (⟨1, 1, [106, 101], 0⟩ : Rul) by simp_all [stmtR]]
    exact bodyPost_ret (res_rule Tryz.results120 (hold _ (by simp) (hnew _ rfl)) rfl) rfl ⟨_, rfl, .inr ⟨w.heap.size + 1, _, rfl, hnew _ (by simp)⟩, bel_aa _ _ _⟩
  · rw [show stmtR _ = (⟨1, 0, [12, 106, 52], 0⟩ : Rul) by simp_all [stmtR]]
    exact bodyPost_ret (res_rule Tryz.results120 (hold _ (by simp) (hnew _ rfl)) rfl) rfl ⟨_, rfl, .inr ⟨w.heap.size + 1, _, rfl, hnew _ (by simp)⟩, bel_aa _ _ _⟩
  · rw [show stmtR _ = (⟨0, 0, [101, 52, 108], 0⟩ : Rul) by simp_all [stmtR]]
    exact bodyPost_ret (res_rule Tryz.results120 (hold _ (by simp) (hnew _ rfl)) rfl) rfl ⟨_, rfl, .inr ⟨w.heap.size + 1, _, rfl, hnew _ (by simp)⟩, bel_aa _ _ _⟩
  · rw [show stmtR _ = (⟨0, 0, [101, 52], 0⟩ : Rul) by simp_all [stmtR]]
    exact bodyPost_ret (res_rule Tryz.results120 (hold _ (by simp) (hnew _ rfl)) rfl) rfl ⟨_, rfl, .inr ⟨w.heap.size + 1, _, rfl, hnew _ (by simp)⟩, bel_aa _ _ _⟩
  · rw [show stmtR _ = (⟨0, 0, [102], 0⟩ : Rul) by simp_all [stmtR]]
    exact bodyPost_ret (res_rule Tryz.results120 (hold _ (by simp) (hnew _ rfl)) rfl) rfl ⟨_, rfl, .inr ⟨w.heap.size + 1, _, rfl, hnew _ (by simp)⟩, bel_aa _ _ _⟩
  · rw [show stmtR _ = (⟨0, 0, [], 107⟩ : Rul) by simp_all [stmtR]]
    exact bodyPost_ret (res_rule Tryz.results120 (hnew _ rfl) rfl) rfl ⟨_, rfl, .inl ⟨rfl, rfl⟩, bel_a _ _⟩
  · rw [show stmtR _ = (⟨0, 0, [101], 0⟩ : Rul) by simp_all [stmtR]]
    exact bodyPost_ret (res_rule Tryz.results120 (hold _ (by simp) (hnew _ rfl)) rfl) rfl ⟨_, rfl, .inr ⟨w.heap.size + 1, _, rfl, hnew _ (by simp)⟩, bel_aa _ _ _⟩
end Go.Proofs.YtadkmlcnmkdfiaaGreatDoor
namespace Go.Proofs.YtadkmlcnmkdfiaaGreatDoor
open Go.RowKit
set_option linter.unusedVariables false

set_option maxHeartbeats 8000000 in
theorem itemRule_any (k : Int) (w : World) : Calls Tryz.prog 121 #[.int .i64 k] w fun e w' => RulAns w (itemR k) e w' := by
  go_enter Tryz.func121, Tryz.ntmps121
  go_wp2
  · rw [show itemR _ = (⟨1, 0, [], 113⟩ : Rul) by simp_all [itemR]]
    exact bodyPost_ret (res_rule Tryz.results121 (hnew _ rfl) rfl) rfl ⟨_, rfl, .inl ⟨rfl, rfl⟩, bel_a _ _⟩
  · rw [show itemR _ = (⟨1, 0, [104], 0⟩ : Rul) by simp_all [itemR]]
    exact bodyPost_ret (res_rule Tryz.results121 (hold _ (by simp) (hnew _ rfl)) rfl) rfl ⟨_, rfl, .inr ⟨w.heap.size + 1, _, rfl, hnew _ (by simp)⟩, bel_aa _ _ _⟩
  · rw [show itemR _ = (⟨6, 1, [], 61⟩ : Rul) by simp_all [itemR]]
    exact bodyPost_ret (res_rule Tryz.results121 (hnew _ rfl) rfl) rfl ⟨_, rfl, .inl ⟨rfl, rfl⟩, bel_a _ _⟩
  · rw [show itemR _ = (⟨0, 0, [111], 0⟩ : Rul) by simp_all [itemR]]
    exact bodyPost_ret (res_rule Tryz.results121 (hold _ (by simp) (hnew _ rfl)) rfl) rfl ⟨_, rfl, .inr ⟨w.heap.size + 1, _, rfl, hnew _ (by simp)⟩, bel_aa _ _ _⟩
  · rw [show itemR _ = (⟨0, 0, [112], 0⟩ : Rul) by simp_all [itemR]]
    exact bodyPost_ret (res_rule Tryz.results121 (hold _ (by simp) (hnew _ rfl)) rfl) rfl ⟨_, rfl, .inr ⟨w.heap.size + 1, _, rfl, hnew _ (by simp)⟩, bel_aa _ _ _⟩
  · rw [show itemR _ = (⟨6, 1, [65], 65⟩ : Rul) by simp_all [itemR]]
    exact bodyPost_ret (res_rule Tryz.results121 (hold _ (by simp) (hnew _ rfl)) rfl) rfl ⟨_, rfl, .inr ⟨w.heap.size + 1, _, rfl, hnew _ (by simp)⟩, bel_aa _ _ _⟩
end Go.Proofs.YtadkmlcnmkdfiaaGreatDoor
namespace Go.Proofs.YtadkmlcnmkdfiaaGreatDoor
open Go.RowKit
set_option linter.unusedVariables false

set_option maxHeartbeats 8000000 in
theorem partRule_any (k : Int) (w : World) : Calls Tryz.prog 122 #[.int .i64 k] w fun e w' => RulAns2 w (partR k) e w' := by
  go_enter Tryz.func122, Tryz.ntmps122
  go_wp2
  · rw [show partR _ = some (⟨0, 0, [], 0⟩ : Rul) by simp_all [partR]]
    exact bodyPost_ret (res_rule2 Tryz.results122 (hnew _ rfl) rfl) rfl ⟨⟨0, 0, [], 0⟩, true, _, rfl, fun _ => rfl, (fun h => by cases h), .inl ⟨rfl, rfl⟩, bel_a _ _⟩
  · rw [show partR _ = some (⟨2, 0, [101], 0⟩ : Rul) by simp_all [partR]]
    exact bodyPost_ret (res_rule2 Tryz.results122 (hold _ (by simp) (hnew _ rfl)) rfl) rfl ⟨⟨2, 0, [101], 0⟩, true, _, rfl, fun _ => rfl, (fun h => by cases h), .inr ⟨w.heap.size + 1, _, rfl, hnew _ (by simp)⟩, bel_aa _ _ _⟩
  · rw [show partR _ = some (⟨0, 0, [], 13⟩ : Rul) by simp_all [partR]]
    exact bodyPost_ret (res_rule2 Tryz.results122 (hnew _ rfl) rfl) rfl ⟨⟨0, 0, [], 13⟩, true, _, rfl, fun _ => rfl, (fun h => by cases h), .inl ⟨rfl, rfl⟩, bel_a _ _⟩
  · rw [show partR _ = some (⟨1, 0, [106], 0⟩ : Rul) by simp_all [partR]]
    exact bodyPost_ret (res_rule2 Tryz.results122 (hold _ (by simp) (hnew _ rfl)) rfl) rfl ⟨⟨1, 0, [106], 0⟩, true, _, rfl, fun _ => rfl, (fun h => by cases h), .inr ⟨w.heap.size + 1, _, rfl, hnew _ (by simp)⟩, bel_aa _ _ _⟩
  · rw [show partR _ = some (⟨2, 0, [104], 0⟩ : Rul) by simp_all [partR]]
    exact bodyPost_ret (res_rule2 Tryz.results122 (hold _ (by simp) (hnew _ rfl)) rfl) rfl ⟨⟨2, 0, [104], 0⟩, true, _, rfl, fun _ => rfl, (fun h => by cases h), .inr ⟨w.heap.size + 1, _, rfl, hnew _ (by simp)⟩, bel_aa _ _ _⟩
  · rw [show partR _ = some (⟨3, 0, [106, 101], 0⟩ : Rul) by simp_all [partR]]
    exact bodyPost_ret (res_rule2 Tryz.results122 (hold _ (by simp) (hnew _ rfl)) rfl) rfl ⟨⟨3, 0, [106, 101], 0⟩, true, _, rfl, fun _ => rfl, (fun h => by cases h), .inr ⟨w.heap.size + 1, _, rfl, hnew _ (by simp)⟩, bel_aa _ _ _⟩
  · rw [show partR _ = some (⟨0, 0, [12, 52], 0⟩ : Rul) by simp_all [partR]]
    exact bodyPost_ret (res_rule2 Tryz.results122 (hold _ (by simp) (hnew _ rfl)) rfl) rfl ⟨⟨0, 0, [12, 52], 0⟩, true, _, rfl, fun _ => rfl, (fun h => by cases h), .inr ⟨w.heap.size + 1, _, rfl, hnew _ (by simp)⟩, bel_aa _ _ _⟩
  · rw [show partR _ = some (⟨3, 0, [12, 106, 52], 0⟩ : Rul) by simp_all [partR]]
    exact bodyPost_ret (res_rule2 Tryz.results122 (hold _ (by simp) (hnew _ rfl)) rfl) rfl ⟨⟨3, 0, [12, 106, 52], 0⟩, true, _, rfl, fun _ => rfl, (fun h => by cases h), .inr ⟨w.heap.size + 1, _, rfl, hnew _ (by simp)⟩, bel_aa _ _ _⟩
  · rw [show partR _ = some (⟨4, 0, [6], 0⟩ : Rul) by simp_all [partR]]
    exact bodyPost_ret (res_rule2 Tryz.results122 (hold _ (by simp) (hnew _ rfl)) rfl) rfl ⟨⟨4, 0, [6], 0⟩, true, _, rfl, fun _ => rfl, (fun h => by cases h), .inr ⟨w.heap.size + 1, _, rfl, hnew _ (by simp)⟩, bel_aa _ _ _⟩
  · rw [show partR _ = some (⟨4, 0, [114], 0⟩ : Rul) by simp_all [partR]]
    exact bodyPost_ret (res_rule2 Tryz.results122 (hold _ (by simp) (hnew _ rfl)) rfl) rfl ⟨⟨4, 0, [114], 0⟩, true, _, rfl, fun _ => rfl, (fun h => by cases h), .inr ⟨w.heap.size + 1, _, rfl, hnew _ (by simp)⟩, bel_aa _ _ _⟩
  · rw [show partR _ = some (⟨1, 0, [], 67⟩ : Rul) by simp_all [partR]]
    exact bodyPost_ret (res_rule2 Tryz.results122 (hnew _ rfl) rfl) rfl ⟨⟨1, 0, [], 67⟩, true, _, rfl, fun _ => rfl, (fun h => by cases h), .inl ⟨rfl, rfl⟩, bel_a _ _⟩
  · rw [show partR _ = some (⟨2, 0, [6], 0⟩ : Rul) by simp_all [partR]]
    exact bodyPost_ret (res_rule2 Tryz.results122 (hold _ (by simp) (hnew _ rfl)) rfl) rfl ⟨⟨2, 0, [6], 0⟩, true, _, rfl, fun _ => rfl, (fun h => by cases h), .inr ⟨w.heap.size + 1, _, rfl, hnew _ (by simp)⟩, bel_aa _ _ _⟩
  · rw [show partR _ = none by simp_all [partR]]
    exact bodyPost_ret (res_rule2 Tryz.results122 (hnew _ rfl) rfl) rfl ⟨⟨0, 0, [], 0⟩, false, _, rfl, (fun h => by cases h), fun _ => rfl, .inl ⟨rfl, rfl⟩, bel_a _ _⟩
end Go.Proofs.YtadkmlcnmkdfiaaGreatDoor
