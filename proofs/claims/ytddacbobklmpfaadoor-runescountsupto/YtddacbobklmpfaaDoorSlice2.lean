/- The contract of Slice of package runes for all places. -/
import Derived.Test.YtddacbobklmpfaaDoorSlice
namespace Go.Proofs.YtddacbobklmpfaaDoor
open Go.RowKit

def sliceZ (l : List UInt8) (f t : Int) : List UInt8 := part (scan l) (max f 0).toNat t.toNat
theorem slice_any (s : ByteArray) (f t : Int) (w : World) (hs : s.size ≤ 140737488351232) :
    Calls Tryd.prog 14 #[.string s, .int .i64 f, .int .i64 t] w fun e w' => e = .returned (.string ⟨(sliceZ s.data.toList f t).toArray⟩) ∧ Below w.heap.size w w' := by
  by_cases h : t ≤ max f 0
  · have HP : Hid (sliceZ s.data.toList f t = []) := part_none _ _ _ (by omega)
    rw [HP.out]
    go_enter Tryd.func14, Tryd.ntmps14
    go_wp2
    go_ret
    exact ⟨rfl, Below.refl _ _⟩
  · exact slice_core s f t (max f 0).toNat t.toNat w hs (by omega) (by omega) (by omega)

theorem ba_of_list {o : ByteArray} {l : List UInt8} (h : o.data.toList = l) : o = ⟨l.toArray⟩ := by
  subst h
  cases o
  simp
theorem part_le (xs : Rns) (a b : Nat) : (part xs a b).length ≤ (bytesOf xs).length := by
  have e : bytesOf xs = bytesOf (xs.take b) ++ bytesOf (xs.drop b) := by rw [← bytesOf_append, List.take_append_drop]
  have e2 : bytesOf (xs.take b) = bytesOf ((xs.take b).take a) ++ part xs a b := by rw [part, ← bytesOf_append, List.take_append_drop]
  rw [e, e2]
  simp only [List.length_append]
  omega
theorem bytesOf_take_le (xs : Rns) (k : Nat) : (bytesOf (xs.take k)).length ≤ (bytesOf xs).length := by
  have e : bytesOf xs = bytesOf (xs.take k) ++ bytesOf (xs.drop k) := by rw [← bytesOf_append, List.take_append_drop]
  rw [e, List.length_append]
  omega
theorem bytesOf_mem_le (xs : Rns) (k : Nat) (h : k < xs.length) : (xs[k]).2.length ≤ (bytesOf xs).length := by
  have h1 := offs_succ xs k h
  have h2 := bytesOf_take_le xs (k + 1)
  unfold offs at h1
  omega
end Go.Proofs.YtddacbobklmpfaaDoor
