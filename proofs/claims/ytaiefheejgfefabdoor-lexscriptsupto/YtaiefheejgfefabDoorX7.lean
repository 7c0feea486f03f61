/- Own text. The document's next token: signs, and all together. -/
import Derived.Test.YtaiefheejgfefabDoorXB
import Derived.Deep.RegionHeld3
import Derived.BigQuiet
namespace Go.Proofs.YtaiefheejgfefabDoor
open Go.RowKit
set_option linter.unusedVariables false

theorem same_row {w w' : World} {base : Nat} {e : TypeId} {size : Nat} {v : Value} {n : Nat} {xs : List Value} (h : w.ownsRow base e size v n xs) (hh : w'.heap = w.heap) : w'.ownsRow base e size v n xs := by
  unfold World.ownsRow at *
  rw [hh]
  exact h
theorem row_eq {W : World} {n m : Nat} {e : TypeId} {k c : Nat} {xs : List Value} (ho : W.ownsRow n e 1 (.slice (some ⟨n, 0, none⟩) k c) k xs) (h : n = m) : W.ownsRow m e 1 (.slice (some ⟨m, 0, none⟩) k c) k xs := h ▸ ho
theorem heap_at {W W' : World} {n : Nat} {o : Obj} (h : W'.heap = W.heap) (hb : W.heap[n]? = some o) : W'.heap[n]? = some o := by rw [h]; exact hb
theorem drewN_below4 (w : World) (n : Nat) : Below w.heap.size w (w.drewN n) := ⟨rfl, rfl, rfl, Nat.le_refl _, fun _ _ => rfl⟩

end Go.Proofs.YtaiefheejgfefabDoor
