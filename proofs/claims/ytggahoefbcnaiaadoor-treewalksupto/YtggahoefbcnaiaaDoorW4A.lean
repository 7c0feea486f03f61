/- Own text. Regions that draw their order within a round, each operation with one answer. -/
import Derived.Test.YtggahoefbcnaiaaDoorW3A
import Derived.Test.YtggahoefbcnaiaaDoorF8
namespace Go.Proofs.YtggahoefbcnaiaaDoor
open Go.RowKit
set_option linter.unusedVariables false
set_option linter.unusedSimpArgs false

theorem ready_after {md : Region.Mode} {ops : Array Oper} {listed : Array Bool} {i : Nat} (h : i ∈ Region.ready md ops listed) {o : Oper} (ho : ops[i]? = some o) {e : Edge} (he : e ∈ o.after) (hb : Region.binds md e = true) : listed.getD e.on false = true := by
  unfold Region.ready at h
  obtain ⟨h1, h2⟩ := List.mem_filter.1 h
  simp only [Bool.and_eq_true, ho, Option.map_some, Option.getD_some] at h2
  have := Array.all_eq_true_iff_forall_mem.1 h2.2 e he
  simpa [hb] using this
theorem ready_nil {md : Region.Mode} {ops : Array Oper} {listed : Array Bool} (h : Region.ready md ops listed = []) (hord : ∀ (i : Nat) (o : Oper), ops[i]? = some o → ∀ e ∈ o.after, Region.binds md e = true → e.on < i) : ∀ i, i < ops.size → listed.getD i true = true := by
  intro i
  induction i using Nat.strongRecOn with
  | ind i ih =>
    intro hi
    cases hl : listed.getD i true with
    | true => rfl
    | false =>
      exfalso
      have ho : ops[i]? = some ops[i] := Array.getElem?_eq_getElem hi
      have hm : i ∈ Region.ready md ops listed := by
        unfold Region.ready
        refine List.mem_filter.2 ⟨List.mem_range.2 hi, ?_⟩
        simp only [Bool.and_eq_true, ho, Option.map_some, Option.getD_some, hl, Bool.not_false, true_and]
        refine Array.all_eq_true_iff_forall_mem.2 fun e he => ?_
        cases hb : Region.binds md e with
        | false => rfl
        | true =>
          have hlt := hord i _ ho e he hb
          have h3 := ih e.on hlt (by omega)
          simp only [Bool.not_true, Bool.false_or]
          unfold Array.getD at h3 ⊢
          split
          · rename_i hs
            rw [dif_pos hs] at h3
            exact h3
          · rename_i hs
            have hs2 : listed.size ≤ i := by omega
            unfold Array.getD at hl
            rw [dif_neg (by omega)] at hl
            cases hl
      rw [h] at hm
      cases hm
theorem stepIn_val' {l n : Nat} {ops : Array Oper} {o : Oper} {a : Act} {w : World} {K : Act → World → Prop} {Q : Exit → Act → World → Prop} {E : Prop} (hw : Region.wanted o (yielded ops a.tmps) = true) (hd : ∀ c, o.op ≠ .defer c) (v : Value) (hr : (execOp a.eval o).run Tryd.prog w = .ok (.value v) w) (h : K (a.put o.dst v) w) :
    if Region.wanted o (yielded ops a.tmps) = true then Oper.wpIn (Fence.wide.inRound l) n Tryd.prog o a w K Q else E := by
  rw [if_pos hw]
  refine ⟨fun _ _ => trivial, ?_⟩
  show Oper.uponIn _ _ _ _ _ _ _ ((Oper.semAt (some l) a.eval o).run _ _)
  rw [Oper.semAt_some _ _ _ hd, hr, Oper.uponIn_value]
  exact h
theorem stepIn_call2' {l n : Nat} {ops : Array Oper} {o : Oper} {a : Act} {w : World} {K : Act → World → Prop} {Q : Exit → Act → World → Prop} {E : Prop} (hw : Region.wanted o (yielded ops a.tmps) = true) (f : FuncId) (x1 x2 : Operand) (ts : Array TypeId)
    (hop : o.op = .call { callee := .value (.func f), args := #[x1, x2], argTypes := ts }) (v1 v2 : Value) (h1 : a.eval x1 = v1) (h2 : a.eval x2 = v2) (hent : ∀ args w, (callFunc f args).run Tryd.prog w = .ok (.enter f args) w)
    {R : Ending → World → Prop} (hc : Calls Tryd.prog f #[v1, v2] w R) (h : ∀ e w', R e w' → ∃ v, e = .returned v ∧ K (a.put o.dst v) w') :
    if Region.wanted o (yielded ops a.tmps) = true then Oper.wpIn (Fence.wide.inRound l) n Tryd.prog o a w K Q else E := by
  rw [if_pos hw]
  refine ⟨fun _ _ => trivial, ?_⟩
  show Oper.uponIn _ _ _ _ _ _ _ ((Oper.semAt (some l) a.eval o).run _ _)
  have e : (execOp a.eval o).run Tryd.prog w = .ok (.enter f #[v1, v2]) w := by
    subst h1 h2
    simp [execOp, hop, resolve, invoke, go_sem, hent]
  rw [Oper.semAt_some _ _ _ (by rw [hop]; intro c h; cases h), e, Oper.uponIn_enter]
  refine ⟨fun h => by simp [Fence.inRound, Fence.wide] at h, CallsIn.inRound l (callsIn_wide.2 (hc.mono fun e w' hr => ?_))⟩
  obtain ⟨v, rfl, hk⟩ := h e w' hr
  exact hk
theorem run_loadI {w : World} {o : Oper} {s : Operand} (hop : o.op = .load 3 s) (ev : Operand → Value) (p : Nat) (hs : ev s = (.pointer (some ⟨p, 0, none⟩))) (v : Value) (hc : w.cell? ⟨p, 0, none⟩ = some v) : (execOp ev o).run Tryd.prog w = .ok (.value v) w := by
  simp [execOp, hop, go_sem, hs, hc]
theorem run_loadL {w : World} {o : Oper} {s : Operand} (hop : o.op = .load 22 s) (ev : Operand → Value) (p q : Nat) (hs : ev s = .pointer (some ⟨p, q, none⟩)) (v : Value) (hc : w.cell? ⟨p, q, none⟩ = some v) : (execOp ev o).run Tryd.prog w = .ok (.value v) w := by
  simp [execOp, hop, go_sem, hs, hc]
theorem run_len {w : World} {o : Oper} {s : Operand} (hop : o.op = .call { callee := .builtin .len, args := #[s], argTypes := #[22] }) (ev : Operand → Value) (a : Option Addr) (n c : Nat) (hs : ev s = .slice a n c) : (execOp ev o).run Tryd.prog w = .ok (.value (.int .i64 (n : Nat))) w := by
  simp [execOp, hop, go_sem, resolve, invoke, builtin, hs]
theorem run_idx {w : World} {o : Oper} {s x : Operand} (hop : o.op = .indexAddr 22 s x) (ev : Operand → Value) (bl n c k : Nat) (hs : ev s = .slice (some ⟨bl, 0, none⟩) n c) (hx : ev x = .int .i64 (k : Int)) (hk : k < n) : (execOp ev o).run Tryd.prog w = .ok (.value (.pointer (some ⟨bl, k * 4, none⟩))) w := by
  have := idx_nd w bl 0 n c k hk
  rw [Nat.zero_add] at this
  simp [execOp, hop, go_sem, hs, hx, this]
theorem run_bin {w : World} {o : Oper} {p q : Operand} (b : BinOp) (hop : o.op = .binOp b 3 p q 3) (ev : Operand → Value) (i j : Int) (hp : ev p = .int .i64 i) (hq : ev q = .int .i64 j) (r : Bool) (hr : (b = .neq ∧ r = (i != j)) ∨ (b = .geq ∧ r = decide (j ≤ i))) : (execOp ev o).run Tryd.prog w = .ok (.value (.bool r)) w := by
  rcases hr with ⟨rfl, rfl⟩ | ⟨rfl, rfl⟩ <;> simp [execOp, hop, go_sem, hp, hq]
end Go.Proofs.YtggahoefbcnaiaaDoor
