/- The contract of byNumber of package runes: the number of a byte in hexadecimal digits. -/
import Derived.Test.YtadkmlcnmkdfiaaGreatDoorShelf
import Derived.Test.YtadkmlcnmkdfiaaGreatDoorPlainA
import Derived.Test.YtadkmlcnmkdfiaaGreatDoorSmall
import Derived.WalkKit
import Derived.Handy
namespace Go.Proofs.YtadkmlcnmkdfiaaGreatDoor
open Go.RowKit

theorem digit_at (u : Nat) (hu : u < 16) (h : u < (ByteArray.mk #[48, 49, 50, 51, 52, 53, 54, 55, 56, 57, 97, 98, 99, 100, 101, 102, 103, 104, 105, 106, 107, 108, 109, 110, 111, 112, 113, 114, 115, 116, 117, 118, 119, 120, 121, 122]).size) :
    (ByteArray.mk #[48, 49, 50, 51, 52, 53, 54, 55, 56, 57, 97, 98, 99, 100, 101, 102, 103, 104, 105, 106, 107, 108, 109, 110, 111, 112, 113, 114, 115, 116, 117, 118, 119, 120, 121, 122])[u]'h = hexc u := by
  have hall : ∀ v : Fin 16, (ByteArray.mk #[48, 49, 50, 51, 52, 53, 54, 55, 56, 57, 97, 98, 99, 100, 101, 102, 103, 104, 105, 106, 107, 108, 109, 110, 111, 112, 113, 114, 115, 116, 117, 118, 119, 120, 121, 122]).data.toList.getD v.val 0 = hexc v.val := by decide
  rw [← hall ⟨u, hu⟩]
  show _ = (ByteArray.mk _).data.toList.getD u 0
  rw [List.getD_eq_getElem?_getD, Array.getElem?_toList, Array.getElem?_eq_getElem h]
  rfl

theorem conv_cells (W : World) (C : Array Value) (t : TypeId) (o : Nat) (l : List UInt8) (h : ∀ j (hj : j < l.length), C[o + j]? = some (.int .u8 (l[j].toNat : Int))) (c : Nat) :
    (convert 147 9 (.slice (some ⟨W.heap.size, o, none⟩) l.length c)).run Tryz.prog (W.alloc (.cells C t)) = .ok (.string ⟨l.toArray⟩) (W.alloc (.cells C t)) := by
  refine run_convert_bytes_back _ _ _ 5 _ _ l Tryz.underlying147 Tryz.underlying5 Tryz.underlying9 ?_
  intro j hj
  rw [← h j hj]
  have hb : (W.alloc (.cells C t)).heap[W.heap.size]? = some (.cells C t) := by
    show (W.heap.push _)[W.heap.size]? = _
    simp
  have ha : (⟨W.heap.size, o, none⟩ : Addr).add j = ⟨W.heap.size, o + j, none⟩ := by cases j <;> simp [Addr.add]
  rw [ha]
  simp only [World.cell?, hb]
  rfl

def zc65 : Array Value := (List.replicate 65 (Value.int .u8 0)).toArray
theorem zc65_size : zc65.size = 65 := by kernel_rfl
theorem ret_ss {a b : ByteArray} (h : a = b) : Ending.returned (.tuple #[.slice none 0 0, .string a]) = .returned (.tuple #[.slice none 0 0, .string b]) := by rw [h]
theorem ret_str {a b : ByteArray} (h : a = b) : Ending.returned (.string a) = .returned (.string b) := by rw [h]

end Go.Proofs.YtadkmlcnmkdfiaaGreatDoor
