/- Own text. A value as it is read, by its weights. -/
import Derived.Test.YtlijplbaefaeaaaDoorVlP
namespace Go.Proofs.YtlijplbaefaeaaaDoor
open Go.ChangeShapes Go.WideShapes Go.ChangeAt Go.RowKit
set_option linter.unusedVariables false
set_option linter.unusedSimpArgs false

set_option maxRecDepth 100000 in
theorem vl_open_w {H : Type} {enc : TypeId × Value → H} {W : World} (n : Nat) (cs : List Value) (d : DataW H) (ps : List MemPlace) (h : DataW.trod enc Tryd.prog W 0 (fun _ => true) true n 23 cs = some (d, ps)) : ∃ y : Vl, cs = y.cs ∧ ((∀ n ∈ d.weights Tryd.prog 23, n ≤ 140737488351232) → okV y) := by
  obtain ⟨xs, m, _, hxy, hcl, hxl, hf⟩ := DataW.trod_struct under_v h
  rw [cells_v] at hcl
  match cs, hcl with
  | [u0, u1, u2], _ =>
    match xs, hxl with
    | [y0, y1, y2], _ =>
      have g0 : DataW.trod enc Tryd.prog W 0 (fun _ => true) true m 3 [u0] = some y0 := by simpa [cells_i] using hf 0 _ rfl
      have g1 : DataW.trod enc Tryd.prog W 0 (fun _ => true) true m 3 [u1] = some y1 := by simpa [cells_i] using hf 1 _ rfl
      have g2 : DataW.trod enc Tryd.prog W 0 (fun _ => true) true m 9 [u2] = some y2 := by simpa [cells_s] using hf 2 _ rfl
      obtain ⟨z0, e0, f0, _⟩ := DataW.trod_int Tryd.underlying3 g0
      obtain ⟨z1, e1, f1, w1⟩ := DataW.trod_int Tryd.underlying3 g1
      obtain ⟨s, e2, f2, _⟩ := DataW.trod_string Tryd.underlying9 g2
      simp only [List.cons.injEq, and_true] at e0 e1 e2
      subst e0 e1 e2 f0 f1 f2
      have hd : d = .agg [.lit (.int .i64 z0), .lit (.int .i64 z1), .lit (.string s.data.toList)] := by simpa using congrArg Prod.fst hxy
      refine ⟨⟨z0, z1, s⟩, rfl, fun hB => ⟨bounds_i64 w1, ?_⟩⟩
      rw [hd] at hB
      simp only [DataW.weights, under_v, DataW.weightsEach, List.map_cons, List.map_nil] at hB
      show s.size ≤ _
      rw [Lib.size_eq]
      exact Nat.le_trans (hB s.data.toList.length (List.mem_append_right _ (List.mem_append_right _ (List.mem_append_left _ (List.mem_singleton.2 rfl))))) (by decide)
theorem open_value_w {H : Type} {enc : TypeId × Value → H} {W : World} {base : Nat} {v : Value} {d : DataW H} {ps : List MemPlace} (hv : Value.okWide Tryd.prog W .any base 23 v) (h : DataW.Trod enc Tryd.prog W 0 (fun _ => true) true 23 v d ps) : ∃ y : Vl, v = y.v ∧ ((∀ n ∈ d.weights Tryd.prog 23, n ≤ 140737488351232) → okV y) := by
  obtain ⟨cs, rfl, hs⟩ := okWide_struct under_v hv
  obtain ⟨fuel, h⟩ := h
  obtain ⟨y, e, hR⟩ := vl_open_w _ _ _ _ h
  refine ⟨y, ?_, hR⟩
  have e2 : cs.toList = y.cs := by simpa [Value.cells] using e
  show Value.agg cs = _
  unfold Vl.v
  congr 1
  exact Array.toList_inj.1 e2
end Go.Proofs.YtlijplbaefaeaaaDoor
