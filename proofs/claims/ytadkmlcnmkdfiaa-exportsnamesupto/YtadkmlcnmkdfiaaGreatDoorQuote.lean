/- The contract of Quote of package runes: a text in quotes, of every text that is not too long. -/
import Derived.Test.YtadkmlcnmkdfiaaGreatDoorRunes1
import Derived.Test.YtadkmlcnmkdfiaaGreatDoorHex
import Derived.Lib.OthersKept
import Derived.BigCall
namespace Go.Proofs.YtadkmlcnmkdfiaaGreatDoor
open Go.RowKit

theorem grown_of_below {w w' : World} (h : Below w.heap.size w w') (row : Option Nat) : w.grownBy w' row := ⟨h.os, h.tape, h.output, h.size, fun k hk _ => h.block k hk⟩
theorem builder_below {T e : TypeId} {B b : Nat} {bs : List Value} {w w' : World} (h : Lib.IsBuilderF T e B b bs w) (hb : Below w.heap.size w w') : Lib.IsBuilderF T e B b bs w' := by
  have one : ∀ p, Lib.BuilderAtF T e B b p bs w → Lib.BuilderAtF T e B b p bs w' := by
    intro p hp
    have hlt := hp.lt
    obtain ⟨hB, v, hv, hown, hne⟩ := hp
    exact ⟨hB, v, (hb.block b hlt).trans hv, hown.kept (grown_of_below hb none) (by cases hv : v.ownBlock <;> simp), hne⟩
  exact h.elim (fun x => .inl (one _ x)) (fun x => .inr (one _ x))
theorem run_next_dec_at {P : Program} (w : World) (k : Nat) (s : ByteArray) (pos : Nat) (ty : TypeId) (hk : w.heap[k]? = some (.stringIter s pos)) (h : pos < s.size) :
    (Instr.next (.pointer (some ⟨k, 0, none⟩)) true ty).run P w =
      .ok (.tuple #[.bool true, .int .i64 pos, .int .i32 (decL (s.data.toList.drop pos)).1]) (w.iterAt k s (pos + (decL (s.data.toList.drop pos)).2)) := by
  rw [← decode_eq]
  exact Lib.run_next_any_at w k s pos ty hk h
theorem first_byte (s : ByteArray) (pos : Nat) (h : pos < s.size) : (s[pos]'h).toNat = atL (s.data.toList.drop pos) 0 := by
  rw [← get_drop, get_at s pos h]
theorem atL_take (l : List UInt8) (n : Nat) (h : 1 ≤ n) : atL (l.take n) 0 = atL l 0 := by
  unfold atL
  cases l <;> cases n <;> simp_all

theorem cons_cells (l : List UInt8) : [Value.int .u8 92] ++ Lib.byteCells l = Lib.byteCells (92 :: l) := by simp [Lib.byteCells]
end Go.Proofs.YtadkmlcnmkdfiaaGreatDoor
