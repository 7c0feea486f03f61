/- Own text. The rules of kinds: package tree. -/
import Derived.Test.YtggahoefbcnaiaaDoorF2
namespace Go.Proofs.YtggahoefbcnaiaaDoor
open Go.RowKit
set_option linter.unusedVariables false

set_option maxHeartbeats 8000000 in
theorem stmtRule_any (k : Int) (w : World) : Calls Tryd.prog 63 #[.int .i64 k] w fun e w' => RulAns w (stmtR k) e w' := by
  go_enter Tryd.func63, Tryd.ntmps63
  go_wp2
  · rw [show stmtR _ = (⟨1, 1, [106, 101], 0⟩ : Rul) by simp_all [stmtR]]
    exact bodyPost_ret (res_rule Tryd.results63 (hold _ (by simp) (hnew _ rfl)) rfl) rfl ⟨_, rfl, .inr ⟨w.heap.size + 1, _, rfl, hnew _ (by simp)⟩, bel_aa _ _ _⟩
  · rw [show stmtR _ = (⟨1, 0, [12, 106, 52], 0⟩ : Rul) by simp_all [stmtR]]
    exact bodyPost_ret (res_rule Tryd.results63 (hold _ (by simp) (hnew _ rfl)) rfl) rfl ⟨_, rfl, .inr ⟨w.heap.size + 1, _, rfl, hnew _ (by simp)⟩, bel_aa _ _ _⟩
  · rw [show stmtR _ = (⟨0, 0, [101, 52, 108], 0⟩ : Rul) by simp_all [stmtR]]
    exact bodyPost_ret (res_rule Tryd.results63 (hold _ (by simp) (hnew _ rfl)) rfl) rfl ⟨_, rfl, .inr ⟨w.heap.size + 1, _, rfl, hnew _ (by simp)⟩, bel_aa _ _ _⟩
  · rw [show stmtR _ = (⟨0, 0, [101, 52], 0⟩ : Rul) by simp_all [stmtR]]
    exact bodyPost_ret (res_rule Tryd.results63 (hold _ (by simp) (hnew _ rfl)) rfl) rfl ⟨_, rfl, .inr ⟨w.heap.size + 1, _, rfl, hnew _ (by simp)⟩, bel_aa _ _ _⟩
  · rw [show stmtR _ = (⟨0, 0, [102], 0⟩ : Rul) by simp_all [stmtR]]
    exact bodyPost_ret (res_rule Tryd.results63 (hold _ (by simp) (hnew _ rfl)) rfl) rfl ⟨_, rfl, .inr ⟨w.heap.size + 1, _, rfl, hnew _ (by simp)⟩, bel_aa _ _ _⟩
  · rw [show stmtR _ = (⟨0, 0, [], 107⟩ : Rul) by simp_all [stmtR]]
    exact bodyPost_ret (res_rule Tryd.results63 (hnew _ rfl) rfl) rfl ⟨_, rfl, .inl ⟨rfl, rfl⟩, bel_a _ _⟩
  · rw [show stmtR _ = (⟨0, 0, [101], 0⟩ : Rul) by simp_all [stmtR]]
    exact bodyPost_ret (res_rule Tryd.results63 (hold _ (by simp) (hnew _ rfl)) rfl) rfl ⟨_, rfl, .inr ⟨w.heap.size + 1, _, rfl, hnew _ (by simp)⟩, bel_aa _ _ _⟩
end Go.Proofs.YtggahoefbcnaiaaDoor
