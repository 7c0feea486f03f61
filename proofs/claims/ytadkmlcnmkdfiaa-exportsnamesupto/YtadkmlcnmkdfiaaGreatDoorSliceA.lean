/- Own text. The contract of Slice of package runes, where something lies between the places. The contract of Slice of package runes for all places. -/
import Derived.Test.YtadkmlcnmkdfiaaGreatDoorRunes1
import Derived.Test.YtadkmlcnmkdfiaaGreatDoorPlainA
import Derived.Test.YtadkmlcnmkdfiaaGreatDoorHex
namespace Go.Proofs.YtadkmlcnmkdfiaaGreatDoor
open Go.RowKit

/-- Where the part begins, as far as n runes have been seen. -/
def bgn (xs : Rns) (a size n : Nat) : Nat := if n ≤ a then size else offs xs a
theorem bgn_lo (xs : Rns) (a size n : Nat) (h : n ≤ a) : bgn xs a size n = size := by rw [bgn, if_pos h]
theorem bgn_hi (xs : Rns) (a size n : Nat) (h : a < n) : bgn xs a size n = offs xs a := by rw [bgn, if_neg (by omega)]
theorem bgn_step (xs : Rns) (a size n : Nat) (h : n ≠ a) : bgn xs a size (n + 1) = bgn xs a size n := by
  unfold bgn
  by_cases h1 : n ≤ a
  · rw [if_pos h1, if_pos (by omega)]
  · rw [if_neg h1, if_neg (by omega)]

/-- What a rune at hand says of the runes behind it. -/
theorem drop_facts (s : ByteArray) (n pos : Nat) (hp : pos < s.size) (h : scan (s.data.toList.drop pos) = (scan s.data.toList).drop n) (ho : pos = offs (scan s.data.toList) n) :
    n < (scan s.data.toList).length ∧ scan (s.data.toList.drop (pos + (decL (s.data.toList.drop pos)).2)) = (scan s.data.toList).drop (n + 1) ∧ pos + (decL (s.data.toList.drop pos)).2 = offs (scan s.data.toList) (n + 1) := by
  have hw := width_le s pos hp
  rw [scan_drop s pos hp] at h
  have hn : n < (scan s.data.toList).length := by
    refine Decidable.byContradiction fun hn => ?_
    have e : (scan s.data.toList).drop n = [] := List.drop_of_length_le (by omega)
    rw [e] at h
    exact absurd h (by simp)
  have hd := List.drop_eq_getElem_cons hn
  rw [hd] at h
  injection h with h1 h2
  refine ⟨hn, h2, ?_⟩
  rw [offs_succ _ n hn, ← ho, ← h1]
  simp only [List.length_take, List.length_drop, ← Lib.size_eq]
  omega

theorem extract_list (s : ByteArray) (a b : Nat) : s.extract a b = ⟨((s.data.toList.take b).drop a).toArray⟩ := by
  apply ByteArray.ext
  apply Array.ext'
  simp [ByteArray.data_extract]
  exact List.drop_take.symm
theorem part_extract (s : ByteArray) (a b : Nat) (h : a ≤ b) : s.extract (offs (scan s.data.toList) a) (offs (scan s.data.toList) b) = ⟨(part (scan s.data.toList) a b).toArray⟩ := by
  rw [extract_list, ← part_bytes _ a b h, scan_bytes]
theorem cloneS_any (s : ByteArray) (w : World) (hs : s.size ≤ 281474976710656) : Calls Tryz.prog 34 #[.string s] w fun e w' => e = .returned (.string s) ∧ Below w.heap.size w w' := by
  go_enter Tryz.func34, Tryz.ntmps34
  go_wp2_with (go_at_call 58; refine (Tryz.stringslite_Clone s _ hs).mono ?_; rintro e w' ⟨rfl, hb⟩)
  go_ret
  exact ⟨rfl, hb⟩

end Go.Proofs.YtadkmlcnmkdfiaaGreatDoor
namespace Go.Proofs.YtadkmlcnmkdfiaaGreatDoor
open Go.RowKit

def sliceZ (l : List UInt8) (f t : Int) : List UInt8 := part (scan l) (max f 0).toNat t.toNat

theorem ba_of_list {o : ByteArray} {l : List UInt8} (h : o.data.toList = l) : o = ⟨l.toArray⟩ := by
  subst h
  cases o
  simp
theorem part_le (xs : Rns) (a b : Nat) : (part xs a b).length ≤ (bytesOf xs).length := by
  have e : bytesOf xs = bytesOf (xs.take b) ++ bytesOf (xs.drop b) := by rw [← bytesOf_append, List.take_append_drop]
  have e2 : bytesOf (xs.take b) = bytesOf ((xs.take b).take a) ++ part xs a b := by rw [part, ← bytesOf_append, List.take_append_drop]
  rw [e, e2]
  simp only [List.length_append]
  omega
theorem bytesOf_take_le (xs : Rns) (k : Nat) : (bytesOf (xs.take k)).length ≤ (bytesOf xs).length := by
  have e : bytesOf xs = bytesOf (xs.take k) ++ bytesOf (xs.drop k) := by rw [← bytesOf_append, List.take_append_drop]
  rw [e, List.length_append]
  omega
theorem bytesOf_mem_le (xs : Rns) (k : Nat) (h : k < xs.length) : (xs[k]).2.length ≤ (bytesOf xs).length := by
  have h1 := offs_succ xs k h
  have h2 := bytesOf_take_le xs (k + 1)
  unfold offs at h1
  omega
end Go.Proofs.YtadkmlcnmkdfiaaGreatDoor
