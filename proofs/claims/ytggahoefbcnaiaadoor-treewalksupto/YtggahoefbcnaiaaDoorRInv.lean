/- Own text. A region that draws its order, by an invariant: one proof an operation, not one an order. -/
import Derived.Test.YtggahoefbcnaiaaDoorNBx
import Derived.Test.YtggahoefbcnaiaaDoorNReplaces1
namespace Go.Proofs.YtggahoefbcnaiaaDoor
open Go.RowKit
set_option linter.unusedVariables false

theorem mem_ready {md : Region.Mode} {ops : Array Oper} {listed : Array Bool} {i : Nat} (h : i ∈ Region.ready md ops listed) : i < ops.size ∧ ∃ hi : i < listed.size, listed[i] = false := by
  unfold Region.ready at h
  obtain ⟨h1, h2⟩ := List.mem_filter.1 h
  refine ⟨List.mem_range.1 h1, ?_⟩
  simp only [Bool.and_eq_true, Bool.not_eq_true'] at h2
  have h3 := h2.1
  unfold Array.getD at h3
  split at h3
  · rename_i hi
    exact ⟨hi, h3⟩
  · cases h3
/-- a region that draws its order: what holds at every set of operations that are done. -/
theorem wpAny_inv {P : Program} {md : Region.Mode} {ops : Array Oper} {Q : Exit → Act → World → Prop} (Inv : Array Bool → Act → World → Prop)
    (step : ∀ (listed : Array Bool) a w i, Inv listed a w → i ∈ Region.ready md ops listed → ∀ K : Act → World → Prop, (∀ a' w', Inv (listed.setIfInBounds i true) a' w' → K a' w') → wpOp P ops Q i K a w)
    (done : ∀ listed a w, Inv listed a w → Region.ready md ops listed = [] → Q .normal a w) :
    ∀ (fuel : Nat) (listed : Array Bool) a w, listed.toList.count false ≤ fuel → Inv listed a w → wpAny P md ops Q fuel listed a w := by
  intro fuel
  induction fuel with
  | zero =>
    intro listed a w hc hI
    have hr : Region.ready md ops listed = [] := by
      cases h : Region.ready md ops listed with
      | nil => rfl
      | cons i rs =>
        obtain ⟨_, hi, hf⟩ := mem_ready (i := i) (by rw [h]; simp)
        have : false ∈ listed.toList := by
          rw [← hf]
          exact Array.getElem_mem_toList hi
        have := List.count_pos_iff.2 this
        omega
    exact ⟨hr, done listed a w hI hr⟩
  | succ fuel ih =>
    intro listed a w hc hI
    refine ⟨fun hr => done listed a w hI hr, fun i hi => ?_⟩
    obtain ⟨_, hl, hf⟩ := mem_ready hi
    refine step listed a w i hI hi _ (fun a' w' hI' => ih _ a' w' ?_ hI')
    rw [Array.toList_setIfInBounds, List.count_set (by simpa using hl)]
    have hf' : listed.toList[i]'(by simpa using hl) = false := by rw [← hf]; simp
    have : 0 < listed.toList.count false := List.count_pos_iff.2 (by rw [← hf]; exact Array.getElem_mem_toList hl)
    rw [hf', if_pos (by rfl), if_neg (by decide)]
    omega
/-- a tree out of its cell. -/
theorem step_load_nd {ops : Array Oper} {o : Oper} {a : Act} {w : World} {K : Act → World → Prop} {Q : Exit → Act → World → Prop} {E : Prop} (hg : o.guard = none) (s : Operand) (hop : o.op = .load 24 s) (p : Nat) (hs : a.eval s = .pointer (some ⟨p, 0, none⟩)) (x : Nd) (ad : Option Addr) (cp : Nat) (hz : Bx w p x ad cp)
    (h : K (a.put o.dst (.agg #[.int .i64 x.k, .string x.t, .int .i64 x.n, .slice ad x.ks.length cp])) w) :
    if Region.wanted o (yielded ops a.tmps) = true then Oper.wp Tryd.prog o a w K Q else E := by
  have hw : Region.wanted o (yielded ops a.tmps) = true := by simp [Region.wanted, hg]
  rw [if_pos hw]
  unfold Oper.wp
  obtain ⟨c0, c1, c2, c3⟩ := hz.cs
  have e : ∀ ev : Operand → Value, ev s = .pointer (some ⟨p, 0, none⟩) → (execOp ev o).run Tryd.prog w = .ok (.value (.agg #[.int .i64 x.k, .string x.t, .int .i64 x.n, .slice ad x.ks.length cp])) w := fun ev hs => by
    simp [execOp, hop, go_sem, hs, c0, c1, c2, c3]
  rw [e a.eval hs, Oper.upon_value]
  exact h
end Go.Proofs.YtggahoefbcnaiaaDoor
