/- Own text. The rules of kinds: package tree. The rules of kinds: package tree. The rules of kinds: package tree. The rules of kinds: package tree. The rules of kinds: package tree. The form of a tree: package tree. -/
import Derived.Test.YtpnljjcdlkjfhaaGreatDoorRv04
import Derived.Test.YtpnljjcdlkjfhaaGreatDoorRv06
import Derived.Test.YtpnljjcdlkjfhaaGreatDoorRv07
import Derived.Test.YtpnljjcdlkjfhaaGreatDoorRv03
namespace Go.Proofs.YtpnljjcdlkjfhaaGreatDoor
open Go.RowKit
set_option linter.unusedVariables false

set_option maxHeartbeats 8000000 in
theorem exprRule_any (k : Int) (w : World) : Calls Tryz.prog 97 #[.int .i64 k] w fun e w' => RulAns w (exprR k) e w' := by
  go_enter Tryz.func97, Tryz.ntmps97
  go_wp2
  · rw [show exprR _ = (⟨0, 9007199254740991, [], 0⟩ : Rul) by simp_all [exprR]]
    exact bodyPost_ret (res_rule Tryz.results97 (hnew _ rfl) rfl) rfl ⟨_, rfl, .inl ⟨rfl, rfl⟩, bel_a _ _⟩
  · rw [show exprR _ = (⟨6, 0, [], 0⟩ : Rul) by simp_all [exprR]]
    exact bodyPost_ret (res_rule Tryz.results97 (hnew _ rfl) rfl) rfl ⟨_, rfl, .inl ⟨rfl, rfl⟩, bel_a _ _⟩
  · rw [show exprR _ = (⟨0, 1, [], 0⟩ : Rul) by simp_all [exprR]]
    exact bodyPost_ret (res_rule Tryz.results97 (hnew _ rfl) rfl) rfl ⟨_, rfl, .inl ⟨rfl, rfl⟩, bel_a _ _⟩
  · rw [show exprR _ = (⟨1, 0, [], 0⟩ : Rul) by simp_all [exprR]]
    exact bodyPost_ret (res_rule Tryz.results97 (hnew _ rfl) rfl) rfl ⟨_, rfl, .inl ⟨rfl, rfl⟩, bel_a _ _⟩
  · rw [show exprR _ = (⟨0, 0, [], 101⟩ : Rul) by simp_all [exprR]]
    exact bodyPost_ret (res_rule Tryz.results97 (hnew _ rfl) rfl) rfl ⟨_, rfl, .inl ⟨rfl, rfl⟩, bel_a _ _⟩
  · rw [show exprR _ = (⟨0, 0, [], 10⟩ : Rul) by simp_all [exprR]]
    exact bodyPost_ret (res_rule Tryz.results97 (hnew _ rfl) rfl) rfl ⟨_, rfl, .inl ⟨rfl, rfl⟩, bel_a _ _⟩
  · rw [show exprR _ = (⟨0, 0, [12, 106, 52], 0⟩ : Rul) by simp_all [exprR]]
    exact bodyPost_ret (res_rule Tryz.results97 (hold _ (by simp) (hnew _ rfl)) rfl) rfl ⟨_, rfl, .inr ⟨w.heap.size + 1, _, rfl, hnew _ (by simp)⟩, bel_aa _ _ _⟩
  · rw [show exprR _ = (⟨7, 0, [101], 0⟩ : Rul) by simp_all [exprR]]
    exact bodyPost_ret (res_rule Tryz.results97 (hold _ (by simp) (hnew _ rfl)) rfl) rfl ⟨_, rfl, .inr ⟨w.heap.size + 1, _, rfl, hnew _ (by simp)⟩, bel_aa _ _ _⟩
  · rw [show exprR _ = (⟨8, 0, [101, 101], 0⟩ : Rul) by simp_all [exprR]]
    exact bodyPost_ret (res_rule Tryz.results97 (hold _ (by simp) (hnew _ rfl)) rfl) rfl ⟨_, rfl, .inr ⟨w.heap.size + 1, _, rfl, hnew _ (by simp)⟩, bel_aa _ _ _⟩
  · rw [show exprR _ = (⟨0, 0, [101, 101, 101], 0⟩ : Rul) by simp_all [exprR]]
    exact bodyPost_ret (res_rule Tryz.results97 (hold _ (by simp) (hnew _ rfl)) rfl) rfl ⟨_, rfl, .inr ⟨w.heap.size + 1, _, rfl, hnew _ (by simp)⟩, bel_aa _ _ _⟩
  · rw [show exprR _ = (⟨0, 0, [103, 101], 0⟩ : Rul) by simp_all [exprR]]
    exact bodyPost_ret (res_rule Tryz.results97 (hold _ (by simp) (hnew _ rfl)) rfl) rfl ⟨_, rfl, .inr ⟨w.heap.size + 1, _, rfl, hnew _ (by simp)⟩, bel_aa _ _ _⟩
  · rw [show exprR _ = (⟨0, 0, [101], 101⟩ : Rul) by simp_all [exprR]]
    exact bodyPost_ret (res_rule Tryz.results97 (hold _ (by simp) (hnew _ rfl)) rfl) rfl ⟨_, rfl, .inr ⟨w.heap.size + 1, _, rfl, hnew _ (by simp)⟩, bel_aa _ _ _⟩
  · rw [show exprR _ = (⟨1, 0, [], 101⟩ : Rul) by simp_all [exprR]]
    exact bodyPost_ret (res_rule Tryz.results97 (hnew _ rfl) rfl) rfl ⟨_, rfl, .inl ⟨rfl, rfl⟩, bel_a _ _⟩
  · rw [show exprR _ = (⟨2, 0, [101], 0⟩ : Rul) by simp_all [exprR]]
    exact bodyPost_ret (res_rule Tryz.results97 (hold _ (by simp) (hnew _ rfl)) rfl) rfl ⟨_, rfl, .inr ⟨w.heap.size + 1, _, rfl, hnew _ (by simp)⟩, bel_aa _ _ _⟩
  · rw [show exprR _ = (⟨0, 0, [101, 101], 0⟩ : Rul) by simp_all [exprR]]
    exact bodyPost_ret (res_rule Tryz.results97 (hold _ (by simp) (hnew _ rfl)) rfl) rfl ⟨_, rfl, .inr ⟨w.heap.size + 1, _, rfl, hnew _ (by simp)⟩, bel_aa _ _ _⟩
  · rw [show exprR _ = (⟨0, 0, [], 0⟩ : Rul) by simp_all [exprR]]
    exact bodyPost_ret (res_rule Tryz.results97 (hnew _ rfl) rfl) rfl ⟨_, rfl, .inl ⟨rfl, rfl⟩, bel_a _ _⟩
end Go.Proofs.YtpnljjcdlkjfhaaGreatDoor
namespace Go.Proofs.YtpnljjcdlkjfhaaGreatDoor
open Go.RowKit
set_option linter.unusedVariables false

set_option maxHeartbeats 8000000 in
theorem typeRule_any (k : Int) (w : World) : Calls Tryz.prog 98 #[.int .i64 k] w fun e w' => RulAns w (typeR k) e w' := by
  go_enter Tryz.func98, Tryz.ntmps98
  go_wp2
  · rw [show typeR _ = (⟨0, 0, [104], 0⟩ : Rul) by simp_all [typeR]]
    exact bodyPost_ret (res_rule Tryz.results98 (hold _ (by simp) (hnew _ rfl)) rfl) rfl ⟨_, rfl, .inr ⟨w.heap.size + 1, _, rfl, hnew _ (by simp)⟩, bel_aa _ _ _⟩
  · rw [show typeR _ = (⟨0, 0, [105, 105], 105⟩ : Rul) by simp_all [typeR]]
    exact bodyPost_ret (res_rule Tryz.results98 (hold _ (by simp) (hnew _ rfl)) rfl) rfl ⟨_, rfl, .inr ⟨w.heap.size + 1, _, rfl, hnew _ (by simp)⟩, bel_aa _ _ _⟩
  · rw [show typeR _ = (⟨0, 0, [], 34⟩ : Rul) by simp_all [typeR]]
    exact bodyPost_ret (res_rule Tryz.results98 (hnew _ rfl) rfl) rfl ⟨_, rfl, .inl ⟨rfl, rfl⟩, bel_a _ _⟩
  · rw [show typeR _ = (⟨0, 0, [12, 104], 0⟩ : Rul) by simp_all [typeR]]
    exact bodyPost_ret (res_rule Tryz.results98 (hold _ (by simp) (hnew _ rfl)) rfl) rfl ⟨_, rfl, .inr ⟨w.heap.size + 1, _, rfl, hnew _ (by simp)⟩, bel_aa _ _ _⟩
  · rw [show typeR _ = (⟨5, 0, [], 0⟩ : Rul) by simp_all [typeR]]
    exact bodyPost_ret (res_rule Tryz.results98 (hnew _ rfl) rfl) rfl ⟨_, rfl, .inl ⟨rfl, rfl⟩, bel_a _ _⟩
end Go.Proofs.YtpnljjcdlkjfhaaGreatDoor
namespace Go.Proofs.YtpnljjcdlkjfhaaGreatDoor
open Go.RowKit
set_option linter.unusedVariables false

set_option maxHeartbeats 8000000 in
theorem stmtRule_any (k : Int) (w : World) : Calls Tryz.prog 99 #[.int .i64 k] w fun e w' => RulAns w (stmtR k) e w' := by
  go_enter Tryz.func99, Tryz.ntmps99
  go_wp2
  · rw [show stmtR _ = (⟨1, 1, [106, 101], 0⟩ : Rul) by simp_all [stmtR]]
    exact bodyPost_ret (res_rule Tryz.results99 (hold _ (by simp) (hnew _ rfl)) rfl) rfl ⟨_, rfl, .inr ⟨w.heap.size + 1, _, rfl, hnew _ (by simp)⟩, bel_aa _ _ _⟩
  · rw [show stmtR _ = (⟨1, 0, [12, 106, 52], 0⟩ : Rul) by simp_all [stmtR]]
    exact bodyPost_ret (res_rule Tryz.results99 (hold _ (by simp) (hnew _ rfl)) rfl) rfl ⟨_, rfl, .inr ⟨w.heap.size + 1, _, rfl, hnew _ (by simp)⟩, bel_aa _ _ _⟩
  · rw [show stmtR _ = (⟨0, 0, [101, 52, 108], 0⟩ : Rul) by simp_all [stmtR]]
    exact bodyPost_ret (res_rule Tryz.results99 (hold _ (by simp) (hnew _ rfl)) rfl) rfl ⟨_, rfl, .inr ⟨w.heap.size + 1, _, rfl, hnew _ (by simp)⟩, bel_aa _ _ _⟩
  · rw [show stmtR _ = (⟨0, 0, [101, 52], 0⟩ : Rul) by simp_all [stmtR]]
    exact bodyPost_ret (res_rule Tryz.results99 (hold _ (by simp) (hnew _ rfl)) rfl) rfl ⟨_, rfl, .inr ⟨w.heap.size + 1, _, rfl, hnew _ (by simp)⟩, bel_aa _ _ _⟩
  · rw [show stmtR _ = (⟨0, 0, [102], 0⟩ : Rul) by simp_all [stmtR]]
    exact bodyPost_ret (res_rule Tryz.results99 (hold _ (by simp) (hnew _ rfl)) rfl) rfl ⟨_, rfl, .inr ⟨w.heap.size + 1, _, rfl, hnew _ (by simp)⟩, bel_aa _ _ _⟩
  · rw [show stmtR _ = (⟨0, 0, [], 107⟩ : Rul) by simp_all [stmtR]]
    exact bodyPost_ret (res_rule Tryz.results99 (hnew _ rfl) rfl) rfl ⟨_, rfl, .inl ⟨rfl, rfl⟩, bel_a _ _⟩
  · rw [show stmtR _ = (⟨0, 0, [101], 0⟩ : Rul) by simp_all [stmtR]]
    exact bodyPost_ret (res_rule Tryz.results99 (hold _ (by simp) (hnew _ rfl)) rfl) rfl ⟨_, rfl, .inr ⟨w.heap.size + 1, _, rfl, hnew _ (by simp)⟩, bel_aa _ _ _⟩
end Go.Proofs.YtpnljjcdlkjfhaaGreatDoor
namespace Go.Proofs.YtpnljjcdlkjfhaaGreatDoor
open Go.RowKit
set_option linter.unusedVariables false

set_option maxHeartbeats 8000000 in
theorem itemRule_any (k : Int) (w : World) : Calls Tryz.prog 100 #[.int .i64 k] w fun e w' => RulAns w (itemR k) e w' := by
  go_enter Tryz.func100, Tryz.ntmps100
  go_wp2
  · rw [show itemR _ = (⟨1, 0, [], 113⟩ : Rul) by simp_all [itemR]]
    exact bodyPost_ret (res_rule Tryz.results100 (hnew _ rfl) rfl) rfl ⟨_, rfl, .inl ⟨rfl, rfl⟩, bel_a _ _⟩
  · rw [show itemR _ = (⟨1, 0, [104], 0⟩ : Rul) by simp_all [itemR]]
    exact bodyPost_ret (res_rule Tryz.results100 (hold _ (by simp) (hnew _ rfl)) rfl) rfl ⟨_, rfl, .inr ⟨w.heap.size + 1, _, rfl, hnew _ (by simp)⟩, bel_aa _ _ _⟩
  · rw [show itemR _ = (⟨6, 1, [], 61⟩ : Rul) by simp_all [itemR]]
    exact bodyPost_ret (res_rule Tryz.results100 (hnew _ rfl) rfl) rfl ⟨_, rfl, .inl ⟨rfl, rfl⟩, bel_a _ _⟩
  · rw [show itemR _ = (⟨0, 0, [111], 0⟩ : Rul) by simp_all [itemR]]
    exact bodyPost_ret (res_rule Tryz.results100 (hold _ (by simp) (hnew _ rfl)) rfl) rfl ⟨_, rfl, .inr ⟨w.heap.size + 1, _, rfl, hnew _ (by simp)⟩, bel_aa _ _ _⟩
  · rw [show itemR _ = (⟨0, 0, [112], 0⟩ : Rul) by simp_all [itemR]]
    exact bodyPost_ret (res_rule Tryz.results100 (hold _ (by simp) (hnew _ rfl)) rfl) rfl ⟨_, rfl, .inr ⟨w.heap.size + 1, _, rfl, hnew _ (by simp)⟩, bel_aa _ _ _⟩
  · rw [show itemR _ = (⟨6, 1, [65], 65⟩ : Rul) by simp_all [itemR]]
    exact bodyPost_ret (res_rule Tryz.results100 (hold _ (by simp) (hnew _ rfl)) rfl) rfl ⟨_, rfl, .inr ⟨w.heap.size + 1, _, rfl, hnew _ (by simp)⟩, bel_aa _ _ _⟩
end Go.Proofs.YtpnljjcdlkjfhaaGreatDoor
namespace Go.Proofs.YtpnljjcdlkjfhaaGreatDoor
open Go.RowKit
set_option linter.unusedVariables false

set_option maxHeartbeats 8000000 in
theorem partRule_any (k : Int) (w : World) : Calls Tryz.prog 101 #[.int .i64 k] w fun e w' => RulAns2 w (partR k) e w' := by
  go_enter Tryz.func101, Tryz.ntmps101
  go_wp2
  · rw [show partR _ = some (⟨0, 0, [], 0⟩ : Rul) by simp_all [partR]]
    exact bodyPost_ret (res_rule2 Tryz.results101 (hnew _ rfl) rfl) rfl ⟨⟨0, 0, [], 0⟩, true, _, rfl, fun _ => rfl, (fun h => by cases h), .inl ⟨rfl, rfl⟩, bel_a _ _⟩
  · rw [show partR _ = some (⟨2, 0, [101], 0⟩ : Rul) by simp_all [partR]]
    exact bodyPost_ret (res_rule2 Tryz.results101 (hold _ (by simp) (hnew _ rfl)) rfl) rfl ⟨⟨2, 0, [101], 0⟩, true, _, rfl, fun _ => rfl, (fun h => by cases h), .inr ⟨w.heap.size + 1, _, rfl, hnew _ (by simp)⟩, bel_aa _ _ _⟩
  · rw [show partR _ = some (⟨0, 0, [], 13⟩ : Rul) by simp_all [partR]]
    exact bodyPost_ret (res_rule2 Tryz.results101 (hnew _ rfl) rfl) rfl ⟨⟨0, 0, [], 13⟩, true, _, rfl, fun _ => rfl, (fun h => by cases h), .inl ⟨rfl, rfl⟩, bel_a _ _⟩
  · rw [show partR _ = some (⟨1, 0, [106], 0⟩ : Rul) by simp_all [partR]]
    exact bodyPost_ret (res_rule2 Tryz.results101 (hold _ (by simp) (hnew _ rfl)) rfl) rfl ⟨⟨1, 0, [106], 0⟩, true, _, rfl, fun _ => rfl, (fun h => by cases h), .inr ⟨w.heap.size + 1, _, rfl, hnew _ (by simp)⟩, bel_aa _ _ _⟩
  · rw [show partR _ = some (⟨2, 0, [104], 0⟩ : Rul) by simp_all [partR]]
    exact bodyPost_ret (res_rule2 Tryz.results101 (hold _ (by simp) (hnew _ rfl)) rfl) rfl ⟨⟨2, 0, [104], 0⟩, true, _, rfl, fun _ => rfl, (fun h => by cases h), .inr ⟨w.heap.size + 1, _, rfl, hnew _ (by simp)⟩, bel_aa _ _ _⟩
  · rw [show partR _ = some (⟨3, 0, [106, 101], 0⟩ : Rul) by simp_all [partR]]
    exact bodyPost_ret (res_rule2 Tryz.results101 (hold _ (by simp) (hnew _ rfl)) rfl) rfl ⟨⟨3, 0, [106, 101], 0⟩, true, _, rfl, fun _ => rfl, (fun h => by cases h), .inr ⟨w.heap.size + 1, _, rfl, hnew _ (by simp)⟩, bel_aa _ _ _⟩
  · rw [show partR _ = some (⟨0, 0, [12, 52], 0⟩ : Rul) by simp_all [partR]]
    exact bodyPost_ret (res_rule2 Tryz.results101 (hold _ (by simp) (hnew _ rfl)) rfl) rfl ⟨⟨0, 0, [12, 52], 0⟩, true, _, rfl, fun _ => rfl, (fun h => by cases h), .inr ⟨w.heap.size + 1, _, rfl, hnew _ (by simp)⟩, bel_aa _ _ _⟩
  · rw [show partR _ = some (⟨3, 0, [12, 106, 52], 0⟩ : Rul) by simp_all [partR]]
    exact bodyPost_ret (res_rule2 Tryz.results101 (hold _ (by simp) (hnew _ rfl)) rfl) rfl ⟨⟨3, 0, [12, 106, 52], 0⟩, true, _, rfl, fun _ => rfl, (fun h => by cases h), .inr ⟨w.heap.size + 1, _, rfl, hnew _ (by simp)⟩, bel_aa _ _ _⟩
  · rw [show partR _ = some (⟨4, 0, [6], 0⟩ : Rul) by simp_all [partR]]
    exact bodyPost_ret (res_rule2 Tryz.results101 (hold _ (by simp) (hnew _ rfl)) rfl) rfl ⟨⟨4, 0, [6], 0⟩, true, _, rfl, fun _ => rfl, (fun h => by cases h), .inr ⟨w.heap.size + 1, _, rfl, hnew _ (by simp)⟩, bel_aa _ _ _⟩
  · rw [show partR _ = some (⟨4, 0, [114], 0⟩ : Rul) by simp_all [partR]]
    exact bodyPost_ret (res_rule2 Tryz.results101 (hold _ (by simp) (hnew _ rfl)) rfl) rfl ⟨⟨4, 0, [114], 0⟩, true, _, rfl, fun _ => rfl, (fun h => by cases h), .inr ⟨w.heap.size + 1, _, rfl, hnew _ (by simp)⟩, bel_aa _ _ _⟩
  · rw [show partR _ = some (⟨1, 0, [], 67⟩ : Rul) by simp_all [partR]]
    exact bodyPost_ret (res_rule2 Tryz.results101 (hnew _ rfl) rfl) rfl ⟨⟨1, 0, [], 67⟩, true, _, rfl, fun _ => rfl, (fun h => by cases h), .inl ⟨rfl, rfl⟩, bel_a _ _⟩
  · rw [show partR _ = some (⟨2, 0, [6], 0⟩ : Rul) by simp_all [partR]]
    exact bodyPost_ret (res_rule2 Tryz.results101 (hold _ (by simp) (hnew _ rfl)) rfl) rfl ⟨⟨2, 0, [6], 0⟩, true, _, rfl, fun _ => rfl, (fun h => by cases h), .inr ⟨w.heap.size + 1, _, rfl, hnew _ (by simp)⟩, bel_aa _ _ _⟩
  · rw [show partR _ = none by simp_all [partR]]
    exact bodyPost_ret (res_rule2 Tryz.results101 (hnew _ rfl) rfl) rfl ⟨⟨0, 0, [], 0⟩, false, _, rfl, (fun h => by cases h), fun _ => rfl, .inl ⟨rfl, rfl⟩, bel_a _ _⟩
end Go.Proofs.YtpnljjcdlkjfhaaGreatDoor
set_option linter.unusedVariables false
set_option linter.unusedSimpArgs false
namespace Go.Proofs.YtpnljjcdlkjfhaaGreatDoor
open Go.RowKit
theorem PAt.set {W : World} {B : Nat} {v : Value} {ks : List Int} {t : TypeId} (h : PAt W v ks) (hb : W.heap[B]? = some (.cells #[.int .i64 0, .int .i64 0, .slice none 0 0, .int .i64 0] t (0, 0))) (p q r s : Value) :
    PAt ((((W.setCell ⟨B, 0, none⟩ p).setCell ⟨B, 1, none⟩ q).setCell ⟨B, 2, none⟩ r).setCell ⟨B, 3, none⟩ s) v ks := by
  rcases h with h | ⟨bl, t', h1, h2⟩
  · exact .inl h
  · refine .inr ⟨bl, t', h1, (set4_other (o := 0) p q r s (fun e => ?_)).trans h2⟩
    subst e
    rw [hb] at h2
    simp only [Option.some.injEq, Obj.cells.injEq] at h2
    have e := congrArg (·[2]?) h2.1
    cases h : ks[2]? <;> simp [h] at e

set_option maxRecDepth 100000 in
set_option maxHeartbeats 8000000 in
theorem ruleOf_any (k : Int) (w : World) : Calls Tryz.prog 64 #[.int .i64 k] w fun e w' => RulAns2 w (ruleK k) e w' := by
  have hf := formOf_any k
  unfold ruleK
  generalize formK k = f at *
  have e1 : Hid (∀ o W1, Below (w.alloc o).heap.size (w.alloc o) W1 → Below w.heap.size w W1 ∧ W1.heap[w.heap.size]? = some o) := fun o W1 b => ⟨(bel_a w o).trans (b.mono (by simp)), (b.block w.heap.size (by simp)).trans (hnew o rfl)⟩
  by_cases hf1 : f = 1
  · subst hf1
    have h := exprRule_any k
    go_enter Tryz.func64, Tryz.ntmps64
    go_wp2_with (first
      | (go_at_call 48; refine (hf _).mono ?_; rintro e w' ⟨rfl, rfl⟩)
      | (go_at_call 97; refine (h _).mono ?_; rintro e W1 ⟨v, rfl, pa, b1⟩; obtain ⟨a, rfl⟩ := pa.sl; unfold Rul.v; obtain ⟨b2, m2⟩ := e1.out _ _ b1; obtain ⟨⟨c0, c1, c2, c3⟩, ⟨f0, f1, f2, f3⟩⟩ := box4 m2))
    refine bodyPost_ret (res_rule2 Tryz.results64 (box4_set _ _ _ _ m2) rfl) rfl ⟨exprR k, true, _, rfl, fun _ => by simp, (fun h => by cases h), pa.set m2 _ _ _ _, ?_⟩
    exact (((b2.setCell (Nat.le_refl _) _).setCell (Nat.le_refl _) _).setCell (Nat.le_refl _) _).setCell (Nat.le_refl _) _
  by_cases hf2 : f = 2
  · subst hf2
    have h := typeRule_any k
    go_enter Tryz.func64, Tryz.ntmps64
    go_wp2_with (first
      | (go_at_call 48; refine (hf _).mono ?_; rintro e w' ⟨rfl, rfl⟩)
      | (go_at_call 98; refine (h _).mono ?_; rintro e W1 ⟨v, rfl, pa, b1⟩; obtain ⟨a, rfl⟩ := pa.sl; unfold Rul.v; obtain ⟨b2, m2⟩ := e1.out _ _ b1; obtain ⟨⟨c0, c1, c2, c3⟩, ⟨f0, f1, f2, f3⟩⟩ := box4 m2))
    refine bodyPost_ret (res_rule2 Tryz.results64 (box4_set _ _ _ _ m2) rfl) rfl ⟨typeR k, true, _, rfl, fun _ => by simp, (fun h => by cases h), pa.set m2 _ _ _ _, ?_⟩
    exact (((b2.setCell (Nat.le_refl _) _).setCell (Nat.le_refl _) _).setCell (Nat.le_refl _) _).setCell (Nat.le_refl _) _
  by_cases hf3 : f = 3
  · subst hf3
    have h := stmtRule_any k
    go_enter Tryz.func64, Tryz.ntmps64
    go_wp2_with (first
      | (go_at_call 48; refine (hf _).mono ?_; rintro e w' ⟨rfl, rfl⟩)
      | (go_at_call 99; refine (h _).mono ?_; rintro e W1 ⟨v, rfl, pa, b1⟩; obtain ⟨a, rfl⟩ := pa.sl; unfold Rul.v; obtain ⟨b2, m2⟩ := e1.out _ _ b1; obtain ⟨⟨c0, c1, c2, c3⟩, ⟨f0, f1, f2, f3⟩⟩ := box4 m2))
    refine bodyPost_ret (res_rule2 Tryz.results64 (box4_set _ _ _ _ m2) rfl) rfl ⟨stmtR k, true, _, rfl, fun _ => by simp, (fun h => by cases h), pa.set m2 _ _ _ _, ?_⟩
    exact (((b2.setCell (Nat.le_refl _) _).setCell (Nat.le_refl _) _).setCell (Nat.le_refl _) _).setCell (Nat.le_refl _) _
  by_cases hf4 : f = 4
  · subst hf4
    have h := itemRule_any k
    go_enter Tryz.func64, Tryz.ntmps64
    go_wp2_with (first
      | (go_at_call 48; refine (hf _).mono ?_; rintro e w' ⟨rfl, rfl⟩)
      | (go_at_call 100; refine (h _).mono ?_; rintro e W1 ⟨v, rfl, pa, b1⟩; obtain ⟨a, rfl⟩ := pa.sl; unfold Rul.v; obtain ⟨b2, m2⟩ := e1.out _ _ b1; obtain ⟨⟨c0, c1, c2, c3⟩, ⟨f0, f1, f2, f3⟩⟩ := box4 m2))
    refine bodyPost_ret (res_rule2 Tryz.results64 (box4_set _ _ _ _ m2) rfl) rfl ⟨itemR k, true, _, rfl, fun _ => by simp, (fun h => by cases h), pa.set m2 _ _ _ _, ?_⟩
    exact (((b2.setCell (Nat.le_refl _) _).setCell (Nat.le_refl _) _).setCell (Nat.le_refl _) _).setCell (Nat.le_refl _) _
  by_cases hf5 : f = 5
  · subst hf5
    go_enter Tryz.func64, Tryz.ntmps64
    go_wp2_with (go_at_call 48; refine (hf _).mono ?_; rintro e w' ⟨rfl, rfl⟩)
    exact bodyPost_ret (res_rule2 Tryz.results64 (hnew _ rfl) rfl) rfl ⟨⟨0, 0, [], 109⟩, true, _, rfl, fun _ => by simp, (fun h => by cases h), .inl ⟨rfl, rfl⟩, bel_a _ _⟩
  by_cases hf6 : f = 6
  · subst hf6
    go_enter Tryz.func64, Tryz.ntmps64
    go_wp2_with (go_at_call 48; refine (hf _).mono ?_; rintro e w' ⟨rfl, rfl⟩)
    exact bodyPost_ret (res_rule2 Tryz.results64 (hnew _ rfl) rfl) rfl ⟨⟨0, 0, [], 110⟩, true, _, rfl, fun _ => by simp, (fun h => by cases h), .inl ⟨rfl, rfl⟩, bel_a _ _⟩
  have h := partRule_any k
  rw [if_neg hf1, if_neg hf2, if_neg hf3, if_neg hf4, if_neg hf5, if_neg hf6]
  go_enter Tryz.func64, Tryz.ntmps64
  go_wp2_with (first
    | (go_at_call 48; refine (hf _).mono ?_; rintro e w' ⟨rfl, rfl⟩)
    | (go_at_call 101; refine (h _).mono ?_; rintro e W1 ⟨r, b, v, rfl, hb1, hb2, pa, b1⟩; obtain ⟨a, rfl⟩ := pa.sl; unfold Rul.v; obtain ⟨b2, m2⟩ := e1.out _ _ b1; obtain ⟨⟨c0, c1, c2, c3⟩, ⟨f0, f1, f2, f3⟩⟩ := box4 m2))
  refine bodyPost_ret (res_rule2 Tryz.results64 (box4_set _ _ _ _ m2) rfl) rfl ⟨r, b, _, rfl, hb1, hb2, pa.set m2 _ _ _ _, ?_⟩
  exact (((b2.setCell (Nat.le_refl _) _).setCell (Nat.le_refl _) _).setCell (Nat.le_refl _) _).setCell (Nat.le_refl _) _
end Go.Proofs.YtpnljjcdlkjfhaaGreatDoor
