/- Own text. The form of a tree: package tree. -/
import Derived.Test.YtadkmlcnmkdfiaaGreatDoorF6
import Derived.Test.YtadkmlcnmkdfiaaGreatDoorF8
import Derived.Test.YtadkmlcnmkdfiaaGreatDoorT4
import Derived.Test.YtadkmlcnmkdfiaaGreatDoorFR
namespace Go.Proofs.YtadkmlcnmkdfiaaGreatDoor
open Go.RowKit
set_option linter.unusedVariables false
set_option linter.unusedSimpArgs false

theorem PAt.set {W : World} {B : Nat} {v : Value} {ks : List Int} {t : TypeId} (h : PAt W v ks) (hb : W.heap[B]? = some (.cells #[.int .i64 0, .int .i64 0, .slice none 0 0, .int .i64 0] t (0, 0))) (p q r s : Value) :
    PAt ((((W.setCell ⟨B, 0, none⟩ p).setCell ⟨B, 1, none⟩ q).setCell ⟨B, 2, none⟩ r).setCell ⟨B, 3, none⟩ s) v ks := by
  rcases h with h | ⟨bl, t', h1, h2⟩
  · exact .inl h
  · refine .inr ⟨bl, t', h1, (set4_other (o := 0) p q r s (fun e => ?_)).trans h2⟩
    subst e
    rw [hb] at h2
    simp only [Option.some.injEq, Obj.cells.injEq] at h2
    have e := congrArg (·[2]?) h2.1
    cases h : ks[2]? <;> simp [h] at e

set_option maxRecDepth 100000 in
set_option maxHeartbeats 8000000 in
theorem ruleOf_any (k : Int) (w : World) : Calls Tryz.prog 78 #[.int .i64 k] w fun e w' => RulAns2 w (ruleK k) e w' := by
  have hf := formOf_any k
  unfold ruleK
  generalize formK k = f at *
  have e1 : Hid (∀ o W1, Below (w.alloc o).heap.size (w.alloc o) W1 → Below w.heap.size w W1 ∧ W1.heap[w.heap.size]? = some o) := fun o W1 b => ⟨(bel_a w o).trans (b.mono (by simp)), (b.block w.heap.size (by simp)).trans (hnew o rfl)⟩
  by_cases hf1 : f = 1
  · subst hf1
    have h := exprRule_any k
    go_enter Tryz.func78, Tryz.ntmps78
    go_wp2_with (first
      | (go_at_call 49; refine (hf _).mono ?_; rintro e w' ⟨rfl, rfl⟩)
      | (go_at_call 118; refine (h _).mono ?_; rintro e W1 ⟨v, rfl, pa, b1⟩; obtain ⟨a, rfl⟩ := pa.sl; unfold Rul.v; obtain ⟨b2, m2⟩ := e1.out _ _ b1; obtain ⟨⟨c0, c1, c2, c3⟩, ⟨f0, f1, f2, f3⟩⟩ := box4 m2))
    refine bodyPost_ret (res_rule2 Tryz.results78 (box4_set _ _ _ _ m2) rfl) rfl ⟨exprR k, true, _, rfl, fun _ => by simp, (fun h => by cases h), pa.set m2 _ _ _ _, ?_⟩
    exact (((b2.setCell (Nat.le_refl _) _).setCell (Nat.le_refl _) _).setCell (Nat.le_refl _) _).setCell (Nat.le_refl _) _
  by_cases hf2 : f = 2
  · subst hf2
    have h := typeRule_any k
    go_enter Tryz.func78, Tryz.ntmps78
    go_wp2_with (first
      | (go_at_call 49; refine (hf _).mono ?_; rintro e w' ⟨rfl, rfl⟩)
      | (go_at_call 119; refine (h _).mono ?_; rintro e W1 ⟨v, rfl, pa, b1⟩; obtain ⟨a, rfl⟩ := pa.sl; unfold Rul.v; obtain ⟨b2, m2⟩ := e1.out _ _ b1; obtain ⟨⟨c0, c1, c2, c3⟩, ⟨f0, f1, f2, f3⟩⟩ := box4 m2))
    refine bodyPost_ret (res_rule2 Tryz.results78 (box4_set _ _ _ _ m2) rfl) rfl ⟨typeR k, true, _, rfl, fun _ => by simp, (fun h => by cases h), pa.set m2 _ _ _ _, ?_⟩
    exact (((b2.setCell (Nat.le_refl _) _).setCell (Nat.le_refl _) _).setCell (Nat.le_refl _) _).setCell (Nat.le_refl _) _
  by_cases hf3 : f = 3
  · subst hf3
    have h := stmtRule_any k
    go_enter Tryz.func78, Tryz.ntmps78
    go_wp2_with (first
      | (go_at_call 49; refine (hf _).mono ?_; rintro e w' ⟨rfl, rfl⟩)
      | (go_at_call 120; refine (h _).mono ?_; rintro e W1 ⟨v, rfl, pa, b1⟩; obtain ⟨a, rfl⟩ := pa.sl; unfold Rul.v; obtain ⟨b2, m2⟩ := e1.out _ _ b1; obtain ⟨⟨c0, c1, c2, c3⟩, ⟨f0, f1, f2, f3⟩⟩ := box4 m2))
    refine bodyPost_ret (res_rule2 Tryz.results78 (box4_set _ _ _ _ m2) rfl) rfl ⟨stmtR k, true, _, rfl, fun _ => by simp, (fun h => by cases h), pa.set m2 _ _ _ _, ?_⟩
    exact (((b2.setCell (Nat.le_refl _) _).setCell (Nat.le_refl _) _).setCell (Nat.le_refl _) _).setCell (Nat.le_refl _) _
  by_cases hf4 : f = 4
  · subst hf4
    have h := itemRule_any k
    go_enter Tryz.func78, Tryz.ntmps78
    go_wp2_with (first
      | (go_at_call 49; refine (hf _).mono ?_; rintro e w' ⟨rfl, rfl⟩)
      | (go_at_call 121; refine (h _).mono ?_; rintro e W1 ⟨v, rfl, pa, b1⟩; obtain ⟨a, rfl⟩ := pa.sl; unfold Rul.v; obtain ⟨b2, m2⟩ := e1.out _ _ b1; obtain ⟨⟨c0, c1, c2, c3⟩, ⟨f0, f1, f2, f3⟩⟩ := box4 m2))
    refine bodyPost_ret (res_rule2 Tryz.results78 (box4_set _ _ _ _ m2) rfl) rfl ⟨itemR k, true, _, rfl, fun _ => by simp, (fun h => by cases h), pa.set m2 _ _ _ _, ?_⟩
    exact (((b2.setCell (Nat.le_refl _) _).setCell (Nat.le_refl _) _).setCell (Nat.le_refl _) _).setCell (Nat.le_refl _) _
  by_cases hf5 : f = 5
  · subst hf5
    go_enter Tryz.func78, Tryz.ntmps78
    go_wp2_with (go_at_call 49; refine (hf _).mono ?_; rintro e w' ⟨rfl, rfl⟩)
    exact bodyPost_ret (res_rule2 Tryz.results78 (hnew _ rfl) rfl) rfl ⟨⟨0, 0, [], 109⟩, true, _, rfl, fun _ => by simp, (fun h => by cases h), .inl ⟨rfl, rfl⟩, bel_a _ _⟩
  by_cases hf6 : f = 6
  · subst hf6
    go_enter Tryz.func78, Tryz.ntmps78
    go_wp2_with (go_at_call 49; refine (hf _).mono ?_; rintro e w' ⟨rfl, rfl⟩)
    exact bodyPost_ret (res_rule2 Tryz.results78 (hnew _ rfl) rfl) rfl ⟨⟨0, 0, [], 110⟩, true, _, rfl, fun _ => by simp, (fun h => by cases h), .inl ⟨rfl, rfl⟩, bel_a _ _⟩
  have h := partRule_any k
  rw [if_neg hf1, if_neg hf2, if_neg hf3, if_neg hf4, if_neg hf5, if_neg hf6]
  go_enter Tryz.func78, Tryz.ntmps78
  go_wp2_with (first
    | (go_at_call 49; refine (hf _).mono ?_; rintro e w' ⟨rfl, rfl⟩)
    | (go_at_call 122; refine (h _).mono ?_; rintro e W1 ⟨r, b, v, rfl, hb1, hb2, pa, b1⟩; obtain ⟨a, rfl⟩ := pa.sl; unfold Rul.v; obtain ⟨b2, m2⟩ := e1.out _ _ b1; obtain ⟨⟨c0, c1, c2, c3⟩, ⟨f0, f1, f2, f3⟩⟩ := box4 m2))
  refine bodyPost_ret (res_rule2 Tryz.results78 (box4_set _ _ _ _ m2) rfl) rfl ⟨r, b, _, rfl, hb1, hb2, pa.set m2 _ _ _ _, ?_⟩
  exact (((b2.setCell (Nat.le_refl _) _).setCell (Nat.le_refl _) _).setCell (Nat.le_refl _) _).setCell (Nat.le_refl _) _
end Go.Proofs.YtadkmlcnmkdfiaaGreatDoor
