/- Own text. The document's next token. The document's next token: numbers, texts. -/
import Derived.Test.YtaiefheejgfefabDoorX4
import Derived.Test.YtaiefheejgfefabDoorRefUnq5
namespace Go.Proofs.YtaiefheejgfefabDoor
open Go.RowKit
set_option linter.unusedVariables false

def tokV (t : Tk) (a : Int) : Value := .agg #[.int .i64 t.1, .string ⟨t.2.1.toArray⟩, .int .i64 t.2.2, .int .i64 a]

theorem four_of {W1 : World} {n : Nat} {a b c d : Value} {t : TypeId} (hb : W1.heap[n]? = some (.cells #[a, b, c, d] t)) :
    (W1.cell? ⟨n, 0, none⟩ = some a ∧ W1.cell? ⟨n, 1, none⟩ = some b ∧ W1.cell? ⟨n, 2, none⟩ = some c ∧ W1.cell? ⟨n, 3, none⟩ = some d) ∧
    (W1.frozen? ⟨n, 0, none⟩ = false ∧ W1.frozen? ⟨n, 1, none⟩ = false ∧ W1.frozen? ⟨n, 2, none⟩ = false ∧ W1.frozen? ⟨n, 3, none⟩ = false) := by
  refine ⟨⟨?_, ?_, ?_, ?_⟩, ?_, ?_, ?_, ?_⟩
  · rw [cell_of_row W1 _ 0 _ _ _ hb]; rfl
  · rw [cell_of_row W1 _ 1 _ _ _ hb]; rfl
  · rw [cell_of_row W1 _ 2 _ _ _ hb]; rfl
  · rw [cell_of_row W1 _ 3 _ _ _ hb]; rfl
  · exact frozen_of_row W1 _ 0 _ _ hb
  · exact frozen_of_row W1 _ 1 _ _ hb
  · exact frozen_of_row W1 _ 2 _ _ hb
  · exact frozen_of_row W1 _ 3 _ _ hb
theorem four_set {W : World} {n : Nat} {a b c d x y z u : Value} {t : TypeId} (hb : W.heap[n]? = some (.cells #[a, b, c, d] t)) :
    ((((W.setCell ⟨n, 0, none⟩ x).setCell ⟨n, 1, none⟩ y).setCell ⟨n, 2, none⟩ z).setCell ⟨n, 3, none⟩ u).heap[n]? = some (.cells #[x, y, z, u] t) := by
  have h1 := heap_setCell_same W n 0 _ t x hb
  have h2 := heap_setCell_same _ n 1 _ t y h1
  have h3 := heap_setCell_same _ n 2 _ t z h2
  have h4 := heap_setCell_same _ n 3 _ t u h3
  exact h4
theorem four_below {B : Nat} {w W : World} {n : Nat} {x y z u : Value} (hb : Below B w W) (hn : B ≤ n) : Below B w ((((W.setCell ⟨n, 0, none⟩ x).setCell ⟨n, 1, none⟩ y).setCell ⟨n, 2, none⟩ z).setCell ⟨n, 3, none⟩ u) :=
  (((hb.setCell hn _).setCell hn _).setCell hn _).setCell hn _
theorem four_new {w W1 : World} {o : Obj} (hb : Below (w.alloc o).heap.size (w.alloc o) W1) : W1.heap[w.heap.size]? = some o := by
  rw [hb.block _ (by simp)]
  exact heap_alloc_new w o
theorem cut_list (s : ByteArray) (k : Nat) : s.extract 0 k = ⟨(s.data.toList.take k).toArray⟩ := by
  apply ByteArray.ext
  apply Array.toList_inj.1
  rw [ByteArray.data_extract, Array.toList_extract, List.extract_eq_take_drop]
  simp

end Go.Proofs.YtaiefheejgfefabDoor
namespace Go.Proofs.YtaiefheejgfefabDoor
open Go.RowKit
set_option linter.unusedVariables false

def nextRes (n : Nx) (e : Ending) : Prop := match n with
  | .ok x => e = .returned (.tuple #[tokV x.1 0, .int .i64 (x.2 : Nat), .int .i64 0])
  | .error c => ∃ t : Tk, e = .returned (.tuple #[tokV t 0, .int .i64 0, .int .i64 (c : Nat)])

theorem sign_at {l : Bs} {g : Bs} : g.isPrefixOf l = (decide (g.length ≤ l.length) && (l.take g.length == g)) := by
  rw [Bool.eq_iff_iff, List.isPrefixOf_iff_prefix]
  simp only [Bool.and_eq_true, decide_eq_true_eq, beq_iff_eq]
  constructor
  · rintro ⟨t, ht⟩
    rw [← ht]
    simp
  · rintro ⟨h1, h2⟩
    exact ⟨l.drop g.length, by conv => lhs; lhs; rw [← h2]
                               exact List.take_append_drop _ _⟩
theorem find_step {α : Type} {p : α → Bool} {l : List α} {k : Nat} {x : α} (hk : l[k]? = some x) (h : ∀ y ∈ l.take k, p y = false) (hx : p x = true) : l.find? p = some x := by
  induction l generalizing k with
  | nil => simp at hk
  | cons y r ih =>
    cases k with
    | zero =>
      have : y = x := by simpa using hk
      subst this
      simp [hx]
    | succ k =>
      have h0 := h y (by simp)
      simp only [List.find?_cons, h0]
      exact ih (by simpa using hk) (fun z hz => h z (by simp [hz]))
theorem find_none {α : Type} {p : α → Bool} {l : List α} (h : ∀ y ∈ l, p y = false) : l.find? p = none := by
  rw [List.find?_eq_none]
  intro y hy
  simp [h y hy]

end Go.Proofs.YtaiefheejgfefabDoor
