/- Own text. A cell made, a tree laid into a cell, within a region that draws its order. -/
import Derived.Test.YtggahoefbcnaiaaDoorT12
namespace Go.Proofs.YtggahoefbcnaiaaDoor
open Go.RowKit
set_option linter.unusedVariables false
set_option linter.unusedSimpArgs false

/-- a tree's cell before it is laid. -/
abbrev cellsZ : Obj := .cells #[.int .i64 0, .string { data := #[] }, .int .i64 0, .slice none 0 0] 24 (0, 0)
abbrev cellsN (x : Nd) (a : Option Addr) (c : Nat) : Obj := .cells #[.int .i64 x.k, .string x.t, .int .i64 x.n, .slice a x.ks.length c] 24 (0, 0)
theorem holdB {w W : World} {p : Nat} {o : Obj} (h : Below w.heap.size w W) (hz : w.heap[p]? = some o) : W.heap[p]? = some o := (h.block p (Array.getElem?_eq_some_iff.1 hz).1).trans hz
theorem step_alloc_nd {ops : Array Oper} {o : Oper} {a : Act} {w : World} {K : Act → World → Prop} {Q : Exit → Act → World → Prop} {E : Prop} (hg : o.guard = none) (d : Nat) (hd : o.dst = some d) (hop : o.op = .alloc 24)
    (h : ∀ p W, Hid (p = w.heap.size ∧ W.heap.size = w.heap.size + 1) → W.heap[p]? = some cellsZ → Below w.heap.size w W → K (a.put (some d) (.pointer (some ⟨p, 0, none⟩))) W) :
    if Region.wanted o (yielded ops a.tmps) = true then Oper.wp Tryd.prog o a w K Q else E := by
  have hw : Region.wanted o (yielded ops a.tmps) = true := by simp [Region.wanted, hg]
  rw [if_pos hw]
  unfold Oper.wp
  have e : (execOp a.eval o).run Tryd.prog w = .ok (.value (.pointer (some ⟨w.heap.size, 0, none⟩))) (w.alloc cellsZ) := by
    simp [execOp, hop, go_sem]
  rw [e, Oper.upon_value, hd]
  exact h _ _ ⟨rfl, by simp⟩ (hnew _ rfl) (bel_a _ _)
theorem step_store_nd {ops : Array Oper} {o : Oper} {a : Act} {w : World} {K : Act → World → Prop} {Q : Exit → Act → World → Prop} {E : Prop} (hg : o.guard = none) (s v : Operand) (hop : o.op = .store 24 s v) (p : Nat) (hs : a.eval s = .pointer (some ⟨p, 0, none⟩)) (x : Nd) (ad : Option Addr) (cp : Nat) (hv : a.eval v = .agg #[.int .i64 x.k, .string x.t, .int .i64 x.n, .slice ad x.ks.length cp])
    (hz : w.heap[p]? = some cellsZ)
    (h : ∀ W, Hid (W.heap.size = w.heap.size ∧ p < w.heap.size) → W.heap[p]? = some (cellsN x ad cp) → (∀ n W0, Below n W0 w → n ≤ p → Below n W0 W) → (∀ j, j ≠ p → W.heap[j]? = w.heap[j]?) → K (a.put o.dst undef) W) :
    if Region.wanted o (yielded ops a.tmps) = true then Oper.wp Tryd.prog o a w K Q else E := by
  have hw : Region.wanted o (yielded ops a.tmps) = true := by simp [Region.wanted, hg]
  rw [if_pos hw]
  unfold Oper.wp
  obtain ⟨⟨c0, c1, c2, c3⟩, ⟨f0, f1, f2, f3⟩⟩ := box4 hz
  have e : ∀ ev : Operand → Value, ev s = .pointer (some ⟨p, 0, none⟩) → ev v = .agg #[.int .i64 x.k, .string x.t, .int .i64 x.n, .slice ad x.ks.length cp] → (execOp ev o).run Tryd.prog w = .ok .skip ((((w.setCell ⟨p, 0, none⟩ (.int .i64 x.k)).setCell ⟨p, 1, none⟩ (.string x.t)).setCell ⟨p, 2, none⟩ (.int .i64 x.n)).setCell ⟨p, 3, none⟩ (.slice ad x.ks.length cp)) := fun ev hs hv => by
    simp [execOp, hop, go_sem, hs, hv, c0, c1, c2, c3, f0, f1, f2, f3]
  rw [e a.eval hs hv, Oper.upon_skip]
  refine h _ ⟨by simp [World.setCell], (Array.getElem?_eq_some_iff.1 hz).1⟩ (box4_set _ _ _ _ hz) (fun n W0 b hn => (((b.setCell (by simpa using hn) _).setCell (by simpa using hn) _).setCell (by simpa using hn) _).setCell (by simpa using hn) _) (fun j hj => ?_)
  rw [Below.heap_setCell _ _ _ _ (by simpa using hj), Below.heap_setCell _ _ _ _ (by simpa using hj), Below.heap_setCell _ _ _ _ (by simpa using hj), Below.heap_setCell _ _ _ _ (by simpa using hj)]
end Go.Proofs.YtggahoefbcnaiaaDoor
