/- Own text. What every law of stages 23 and 24 ends with. -/
import Derived.Test.YtlijplbaefaeaaaDoorVlP
import Derived.ProofKit
import Derived.OpenShut
import Derived.Carry
namespace Go.Proofs.YtlijplbaefaeaaaDoor
open Go.ChangeShapes Go.WideShapes Go.ChangeAt Go.RowKit
set_option linter.unusedVariables false

theorem own : ownKnob Tryd.prog.godebug = none := by kernel_rfl
theorem laidOut : laidOutB Tryd.prog = true := by kernel_rfl

theorem below_trodAll {H : Type} {enc : TypeId × Value → H} {P : Program} (hl : laidOutB P = true) {W W' : World} (hb : Below W.heap.size W W') : ∀ (ts : List TypeId) {vs : List Value} {ds : List (DataW H)} {ps : List MemPlace},
    ts.all (fun t => P.readableRec t && decide (t < P.types.size)) = true → DataW.TrodAll enc P W 0 (fun _ => true) true ts vs ds ps → (∀ x ∈ ps, x.block < W.heap.size) →
    DataW.TrodAll enc P W' 0 (fun b => decide (b < W.heap.size)) true ts vs ds ps := by
  intro ts
  induction ts with
  | nil =>
    intro vs ds ps _ h _
    cases vs <;> cases ds <;> first | exact h | exact h.elim
  | cons t ts ih =>
    intro vs ds ps hr h hlt
    obtain ⟨v, vs', d, ds', p, q, rfl, rfl, rfl, h1, h2⟩ := trodAll_cons h
    simp only [List.all_cons, Bool.and_eq_true, decide_eq_true_eq] at hr
    exact ⟨p, q, Below.trod hl hr.1.1 hr.1.2 h1 hb (fun x hx => hlt x (by simp [hx])), ih (by simpa using hr.2) h2 (fun x hx => hlt x (by simp [hx])), rfl⟩
theorem open_text {H : Type} {enc : TypeId × Value → H} {W : World} {base : Nat} {v : Value} {d : DataW H} {ps : List MemPlace} (hv : Value.okWide Tryd.prog W .any base 9 v) (h : DataW.Trod enc Tryd.prog W 0 (fun _ => true) true 9 v d ps) :
    ∃ a, v = .string a ∧ ((∀ B, (∀ n ∈ d.weights Tryd.prog 9, n ≤ B) → a.size ≤ B) ∧ ∀ B, Rows.uptoBulk d ≤ B → a.size ≤ B) := by
  obtain ⟨a, rfl⟩ := okWide_string Tryd.underlying9 hv
  obtain ⟨fuel, h⟩ := h
  obtain ⟨s, hs, hx, _⟩ := DataW.trod_string Tryd.underlying9 h
  cases hs
  cases hx
  have e : a.size = a.data.toList.length := Lib.size_eq a
  refine ⟨a, rfl, fun B hB => ?_, fun B hB => ?_⟩
  · rw [e]; exact hB _ (by simp [DataW.weights])
  · rw [e]
    have : Rows.uptoBulk (DataW.lit (.string a.data.toList) : DataW H) = a.data.toList.length + 1 := rfl
    omega
end Go.Proofs.YtlijplbaefaeaaaDoor
