/- The contract of the document's Slice. -/
import Derived.Test.YtaiefheejgfefaaDoorSliceA
import Derived.Test.YtaiefheejgfefaaDoorRefRunes
namespace Go.Proofs.YtaiefheejgfefaaDoor
open Go.RowKit

/-- The k-th text of a row of texts. -/
theorem strs_cell {w : World} {B n : Nat} {xs : Rns} {g c : Nat} (h : w.ownsRow B 9 1 (.slice (some ⟨g, 0, none⟩) n c) n (strsV xs)) (k : Nat) (hk : k < xs.length) : w.cell? ⟨g, k, none⟩ = some (.string ⟨(xs[k]).2.toArray⟩) := by
  have := h.cells (g := g) rfl k (.string ⟨(xs[k]).2.toArray⟩) (by simp [strsV, List.getElem?_eq_getElem hk])
  have ha : (⟨g, 0, none⟩ : Addr).add k = ⟨g, k, none⟩ := by cases k <;> simp [Addr.add]
  rw [ha] at this
  exact this

theorem strs_form {w : World} {B : Nat} {v : Value} {xs : Rns} (hown : w.ownsRow B 9 1 v xs.length (strsV xs)) : ∃ (g : Option Addr) (c : Nat), (∀ k, k < xs.length → ∃ b : Nat, g = some ⟨b, 0, none⟩ ∧ ∀ j (h : j < xs.length), w.cell? ⟨b, j, none⟩ = some (.string ⟨(xs[j]).2.toArray⟩)) ∧ v = .slice g xs.length c := by
  rcases hown.2 with ⟨rfl, h0⟩ | ⟨b, cap, cur, rfl, _⟩
  · have hx : xs = [] := List.eq_nil_of_length_eq_zero h0
    subst hx
    exact ⟨none, 0, fun k hk => by simp at hk, rfl⟩
  · exact ⟨_, cap, fun k hk => ⟨b, rfl, fun j hj => strs_cell hown j hj⟩, rfl⟩

end Go.Proofs.YtaiefheejgfefaaDoor
