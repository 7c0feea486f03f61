/- Own text. The rules of kinds: package tree. -/
import Derived.Test.YtggahoefbcnaiaaDoorF2
namespace Go.Proofs.YtggahoefbcnaiaaDoor
open Go.RowKit
set_option linter.unusedVariables false

set_option maxHeartbeats 8000000 in
theorem exprRule_any (k : Int) (w : World) : Calls Tryd.prog 61 #[.int .i64 k] w fun e w' => RulAns w (exprR k) e w' := by
  go_enter Tryd.func61, Tryd.ntmps61
  go_wp2
  · rw [show exprR _ = (⟨0, 9007199254740991, [], 0⟩ : Rul) by simp_all [exprR]]
    exact bodyPost_ret (res_rule Tryd.results61 (hnew _ rfl) rfl) rfl ⟨_, rfl, .inl ⟨rfl, rfl⟩, bel_a _ _⟩
  · rw [show exprR _ = (⟨6, 0, [], 0⟩ : Rul) by simp_all [exprR]]
    exact bodyPost_ret (res_rule Tryd.results61 (hnew _ rfl) rfl) rfl ⟨_, rfl, .inl ⟨rfl, rfl⟩, bel_a _ _⟩
  · rw [show exprR _ = (⟨0, 1, [], 0⟩ : Rul) by simp_all [exprR]]
    exact bodyPost_ret (res_rule Tryd.results61 (hnew _ rfl) rfl) rfl ⟨_, rfl, .inl ⟨rfl, rfl⟩, bel_a _ _⟩
  · rw [show exprR _ = (⟨1, 0, [], 0⟩ : Rul) by simp_all [exprR]]
    exact bodyPost_ret (res_rule Tryd.results61 (hnew _ rfl) rfl) rfl ⟨_, rfl, .inl ⟨rfl, rfl⟩, bel_a _ _⟩
  · rw [show exprR _ = (⟨0, 0, [], 101⟩ : Rul) by simp_all [exprR]]
    exact bodyPost_ret (res_rule Tryd.results61 (hnew _ rfl) rfl) rfl ⟨_, rfl, .inl ⟨rfl, rfl⟩, bel_a _ _⟩
  · rw [show exprR _ = (⟨0, 0, [], 10⟩ : Rul) by simp_all [exprR]]
    exact bodyPost_ret (res_rule Tryd.results61 (hnew _ rfl) rfl) rfl ⟨_, rfl, .inl ⟨rfl, rfl⟩, bel_a _ _⟩
  · rw [show exprR _ = (⟨0, 0, [12, 106, 52], 0⟩ : Rul) by simp_all [exprR]]
    exact bodyPost_ret (res_rule Tryd.results61 (hold _ (by simp) (hnew _ rfl)) rfl) rfl ⟨_, rfl, .inr ⟨w.heap.size + 1, _, rfl, hnew _ (by simp)⟩, bel_aa _ _ _⟩
  · rw [show exprR _ = (⟨7, 0, [101], 0⟩ : Rul) by simp_all [exprR]]
    exact bodyPost_ret (res_rule Tryd.results61 (hold _ (by simp) (hnew _ rfl)) rfl) rfl ⟨_, rfl, .inr ⟨w.heap.size + 1, _, rfl, hnew _ (by simp)⟩, bel_aa _ _ _⟩
  · rw [show exprR _ = (⟨8, 0, [101, 101], 0⟩ : Rul) by simp_all [exprR]]
    exact bodyPost_ret (res_rule Tryd.results61 (hold _ (by simp) (hnew _ rfl)) rfl) rfl ⟨_, rfl, .inr ⟨w.heap.size + 1, _, rfl, hnew _ (by simp)⟩, bel_aa _ _ _⟩
  · rw [show exprR _ = (⟨0, 0, [101, 101, 101], 0⟩ : Rul) by simp_all [exprR]]
    exact bodyPost_ret (res_rule Tryd.results61 (hold _ (by simp) (hnew _ rfl)) rfl) rfl ⟨_, rfl, .inr ⟨w.heap.size + 1, _, rfl, hnew _ (by simp)⟩, bel_aa _ _ _⟩
  · rw [show exprR _ = (⟨0, 0, [103, 101], 0⟩ : Rul) by simp_all [exprR]]
    exact bodyPost_ret (res_rule Tryd.results61 (hold _ (by simp) (hnew _ rfl)) rfl) rfl ⟨_, rfl, .inr ⟨w.heap.size + 1, _, rfl, hnew _ (by simp)⟩, bel_aa _ _ _⟩
  · rw [show exprR _ = (⟨0, 0, [101], 101⟩ : Rul) by simp_all [exprR]]
    exact bodyPost_ret (res_rule Tryd.results61 (hold _ (by simp) (hnew _ rfl)) rfl) rfl ⟨_, rfl, .inr ⟨w.heap.size + 1, _, rfl, hnew _ (by simp)⟩, bel_aa _ _ _⟩
  · rw [show exprR _ = (⟨1, 0, [], 101⟩ : Rul) by simp_all [exprR]]
    exact bodyPost_ret (res_rule Tryd.results61 (hnew _ rfl) rfl) rfl ⟨_, rfl, .inl ⟨rfl, rfl⟩, bel_a _ _⟩
  · rw [show exprR _ = (⟨2, 0, [101], 0⟩ : Rul) by simp_all [exprR]]
    exact bodyPost_ret (res_rule Tryd.results61 (hold _ (by simp) (hnew _ rfl)) rfl) rfl ⟨_, rfl, .inr ⟨w.heap.size + 1, _, rfl, hnew _ (by simp)⟩, bel_aa _ _ _⟩
  · rw [show exprR _ = (⟨0, 0, [101, 101], 0⟩ : Rul) by simp_all [exprR]]
    exact bodyPost_ret (res_rule Tryd.results61 (hold _ (by simp) (hnew _ rfl)) rfl) rfl ⟨_, rfl, .inr ⟨w.heap.size + 1, _, rfl, hnew _ (by simp)⟩, bel_aa _ _ _⟩
  · rw [show exprR _ = (⟨0, 0, [], 0⟩ : Rul) by simp_all [exprR]]
    exact bodyPost_ret (res_rule Tryd.results61 (hnew _ rfl) rfl) rfl ⟨_, rfl, .inl ⟨rfl, rfl⟩, bel_a _ _⟩
end Go.Proofs.YtggahoefbcnaiaaDoor
