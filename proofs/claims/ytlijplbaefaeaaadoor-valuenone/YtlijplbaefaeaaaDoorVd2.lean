/- Own text. ValueHeaps: how big a heap gets; rows that lie beside two heaps. -/
import Derived.Test.YtlijplbaefaeaaaDoorVd1
import Derived.Test.YtlijplbaefaeaaaDoorVa1
namespace Go.Proofs.YtlijplbaefaeaaaDoor
open Go.RowKit
set_option linter.unusedVariables false
set_option linter.unusedSimpArgs false

def bdV (H : Hp) (i : Nat) : Prop := H.length ≤ i ∧ ∀ t ∈ H, t.ls.length ≤ 1048576 + i ∧ t.nm.length ≤ 1048576 + i
theorem bdV.mono {H : Hp} {i j : Nat} (h : bdV H i) (k : i ≤ j) : bdV H j := ⟨Nat.le_trans h.1 k, fun t ht => ⟨by have := (h.2 t ht).1; omega, by have := (h.2 t ht).2; omega⟩⟩
theorem bdV.sm {H : Hp} {i : Nat} (h : bdV H i) (k : i ≤ 1048576) : smH H := ⟨by have := h.1; omega, fun t ht => ⟨by have := (h.2 t ht).1; omega, by have := (h.2 t ht).2; omega⟩⟩
theorem bdV.mod {H : Hp} {i k : Nat} {f : Th → Th} (h : bdV H i) (hf : ∀ t, (f t).ls.length ≤ t.ls.length + 1 ∧ (f t).nm.length ≤ t.nm.length + 1) : bdV (H.modify k f) (i + 1) := by
  refine ⟨by rw [List.length_modify]; exact Nat.le_succ_of_le h.1, fun t ht => ?_⟩
  obtain ⟨j, hj⟩ := List.mem_iff_getElem?.1 ht
  rw [List.getElem?_modify] at hj
  cases hg : H[j]? with
  | none => rw [hg] at hj; split at hj <;> cases hj
  | some t0 =>
    rw [hg] at hj
    have m0 := h.2 t0 (List.mem_of_getElem? hg)
    split at hj
    · obtain rfl : f t0 = t := by simpa using hj
      have := hf t0
      exact ⟨by omega, by omega⟩
    · obtain rfl : t0 = t := by simpa using hj
      exact ⟨by omega, by omega⟩
theorem bdV.add {H : Hp} {i : Nat} (h : bdV H i) (t : Th) (ht : t.ls.length ≤ 1048576 ∧ t.nm.length ≤ 1048576) : bdV (H ++ [t]) (i + 1) := by
  refine ⟨by simp only [List.length_append, List.length_cons, List.length_nil]; have := h.1; omega, fun x hx => ?_⟩
  rcases List.mem_append.1 hx with hx | hx
  · exact ⟨by have := (h.2 x hx).1; omega, by have := (h.2 x hx).2; omega⟩
  · rw [List.mem_singleton] at hx; subst hx
    exact ⟨by omega, by omega⟩
theorem objT_le : ∀ (ns : List ByteArray) (l : List Vl) (t : Th), (objT ns l t).ls.length ≤ t.ls.length + l.length ∧ (objT ns l t).nm.length ≤ t.nm.length + l.length
  | [], l, t => by cases l <;> simp [objT]
  | s :: ns, [], t => by simp [objT]
  | s :: ns, x :: l, t => by
    have h1 := setT_le t s x
    have h2 := objT_le ns l (setT t s x)
    rw [objT]
    simp only [List.length_cons]
    omega
theorem bdv_arr {H : Hp} {i : Nat} (h : bdV H i) (l : List Vl) (hl : l.length ≤ 1048576) : bdV (H ++ [arrT l]) (i + 1) := h.add _ ⟨hl, by simp [arrT]⟩
theorem bdv_obj {H : Hp} {i : Nat} (h : bdV H i) (ns : List ByteArray) (l : List Vl) (hl : l.length ≤ 1048576) : bdV (H ++ [objT ns l ⟨true, [], []⟩]) (i + 1) := by
  have := objT_le ns l ⟨true, [], []⟩
  simp only [List.length_nil] at this
  exact h.add _ ⟨by omega, by omega⟩
theorem bdv_set {H : Hp} {i : Nat} (h : bdV H i) (v : Vl) (s : ByteArray) (x : Vl) : bdV (setH H v s x) (i + 1) := by
  unfold setH
  split
  · exact h.mod (fun t => setT_le t s x)
  · exact h.mono (by omega)
theorem bdv_psh {H : Hp} {i : Nat} (h : bdV H i) (v x : Vl) : bdV (pshH H v x) (i + 1) := by
  unfold pshH
  split
  · exact h.mod (fun t => by simp)
  · exact h.mono (by omega)
theorem bdv_put {H : Hp} {i : Nat} (h : bdV H i) (v : Vl) (j : Int) (x : Vl) : bdV (putH H v j x) (i + 1) := by
  unfold putH
  split
  · split
    · exact bdv_psh h v x
    · exact h.mod (fun t => by simp)
  · exact h.mono (by omega)
section
variable {Ev : World → Prop} {At : World → Nat → Hp → (Nat → Prop) → Prop} {W Y Y' : World} {hb gb : Nat} {qs : List (Nat × Obj)} {H G : Hp} {S T : Nat → Prop} {row : Option Nat}
theorem Tw.grow (PV : Hid (PrgV Ev At)) (h : Hid (Tw At W hb gb qs H G S T Y)) (g : Y.grownBy Y' row) (hr : ∀ k, row = some k → W.heap.size ≤ k ∧ ¬ S k ∧ ¬ T k ∧ ∀ p ∈ qs, p.1 ≠ k) : Hid (Tw At W hb gb qs H G S T Y') :=
  ⟨PV.out.keep h.out.a g.size (fun b hb' => g.block b (PV.out.lt h.out.a b hb') (fun e => (hr b e.symm).2.1 hb')), h.out.d.keep (fun b hb' => g.block b (h.out.d.lt b hb') (fun e => (hr b e.symm).2.2.1 hb')), fun p hp => ⟨(g.block _ (glt (h.out.m p hp).1) (fun e => (hr p.1 e.symm).2.2.2 p hp rfl)).trans (h.out.m p hp).1, (h.out.m p hp).2⟩, h.out.b.grown g h.out.b.size (fun k e => (hr k e).1), h.out.s, h.out.t, h.out.x⟩
theorem Tw.add (h : Hid (Tw At W hb gb qs H G S T Y)) {n : Nat} {o : Obj} (m : Y.heap[n]? = some o) (hS : ¬ S n) (hT : ¬ T n) : Hid (Tw At W hb gb ((n, o) :: qs) H G S T Y) :=
  ⟨h.out.a, h.out.d, fun p hp => by
    rcases List.mem_cons.1 hp with rfl | hp
    · exact ⟨m, hS, hT⟩
    · exact h.out.m p hp, h.out.b, h.out.s, h.out.t, h.out.x⟩
/-- all blocks of the two heaps, and those beside them, lie below B. -/
def lowB (S T : Nat → Prop) (qs : List (Nat × Obj)) (B : Nat) : Prop := (∀ b, S b → b < B) ∧ (∀ b, T b → b < B) ∧ ∀ p ∈ qs, p.1 < B
theorem Tw.low (PV : Hid (PrgV Ev At)) (h : Hid (Tw At W hb gb qs H G S T Y)) : lowB S T qs Y.heap.size := ⟨PV.out.lt h.out.a, h.out.d.lt, fun p hp => glt (h.out.m p hp).1⟩
theorem lowB.far {B k : Nat} (h : lowB S T qs B) (hk : B ≤ k) (hW : W.heap.size ≤ B) : W.heap.size ≤ k ∧ ¬ S k ∧ ¬ T k ∧ ∀ p ∈ qs, p.1 ≠ k := ⟨by omega, fun q => by have := h.1 k q; omega, fun q => by have := h.2.1 k q; omega, fun p hp e => by have := h.2.2 p hp; omega⟩
end
/-- a row whose first cells are these. -/
theorem pre_cell {Z : World} {g : Nat} {cur : Array Value} {ty : TypeId} (h : Z.heap[g]? = some (.cells cur ty (0, 0))) {xs : List Value} (hp : cur.toList.take xs.length = xs) (j : Nat) (hj : j < xs.length) : Z.cell? ⟨g, j, none⟩ = xs[j]? := by
  rw [cell_of_row _ _ _ _ _ _ h]
  have e : xs[j]? = (cur.toList.take xs.length)[j]? := by rw [hp]
  rw [e, List.getElem?_take, if_pos hj]
  simp
theorem ns_row {Z : World} {g cap : Nat} {cur : Array Value} {ty : TypeId} {ns : List ByteArray} {more : List Value} (h : Z.heap[g]? = some (.cells cur ty (0, 0))) (hp : cur.toList.take (ns.map Value.string ++ more).length = ns.map Value.string ++ more) : NsA Z (fun k => k = g) (.slice (some ⟨g, 0, none⟩) ns.length cap) ns := by
  refine ⟨_, _, rfl, fun _ => ⟨g, 0, rfl, rfl, glt h, fun i hi => ?_⟩⟩
  rw [Nat.zero_add, pre_cell h hp i (by simp; omega), List.getElem?_append_left (by simpa using hi)]
  simp [hi]
theorem vs_row {Z : World} {g cap : Nat} {cur : Array Value} {ty : TypeId} {l : List Vl} {more : List Value} (h : Z.heap[g]? = some (.cells cur ty (0, 0))) (hp : cur.toList.take (l.flatMap Vl.cs ++ more).length = l.flatMap Vl.cs ++ more) : VsA Z (fun k => k = g) (.slice (some ⟨g, 0, none⟩) l.length cap) l := by
  have hlen : (l.flatMap Vl.cs).length = l.length * 3 := by
    clear hp
    induction l with
    | nil => rfl
    | cons a l ih => simp only [List.flatMap_cons, List.length_append, ih, Vl.cs, List.length_cons, List.length_nil]; omega
  refine ⟨_, _, rfl, fun _ => ⟨g, 0, rfl, rfl, glt h, fun i hi => ?_⟩⟩
  have hg := row_get l i hi
  have hc : ∀ j, j < 3 → Z.cell? ⟨g, i * 3 + j, none⟩ = (l.flatMap Vl.cs)[i * 3 + j]? := fun j hj => by
    rw [pre_cell h hp (i * 3 + j) (by rw [List.length_append, hlen]; omega), List.getElem?_append_left (by rw [hlen]; omega)]
  simp only [Nat.zero_add]
  exact ⟨(hc 0 (by omega)).trans (hg 0 (by omega)), (hc 1 (by omega)).trans (hg 1 (by omega)), (hc 2 (by omega)).trans (hg 2 (by omega))⟩
end Go.Proofs.YtlijplbaefaeaaaDoor
