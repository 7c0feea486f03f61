/- The contract of the document's function that cuts a text into runes. -/
import Derived.Test.YtadkmlcnmkdfiaaGreatDoorHead
import Derived.OwnWalk
import Derived.Maps.AppendAt
namespace Go.Proofs.YtadkmlcnmkdfiaaGreatDoor
open Go.RowKit

def headV (l : List UInt8) : Int := if strayL l then -1 else ((decL l).1 : Int)
theorem headL_split (l : List UInt8) : headL l = (((decL l).2 : Int), headV l) := by
  unfold headL headV
  by_cases h : strayL l = true
  · rw [if_pos h, if_pos h]
    have : (decL l).2 = 1 := by simp [strayL] at h; exact h.2
    rw [this]; rfl
  · rw [if_neg h, if_neg h]
theorem head_any2 (s : ByteArray) (w : World) (h0 : 0 < s.size) (hs : s.size ≤ maxLen) :
    Calls Tryz.prog 141 #[.string s] w fun e w' => e = .returned (.tuple #[.int .i64 ((decL s.data.toList).2 : Int), .int .i64 (headV s.data.toList)]) ∧ w' = w := by
  have h := head_any s w h0 hs
  rw [headL_split] at h
  exact h

def strsV (xs : List (Nat × List UInt8)) : List Value := xs.map fun x => .string ⟨x.2.toArray⟩
theorem strsV_length (xs : List (Nat × List UInt8)) : (strsV xs).length = xs.length := by simp [strsV]
theorem strsV_append (xs ys : List (Nat × List UInt8)) : strsV (xs ++ ys) = strsV xs ++ strsV ys := by simp [strsV]

theorem cut_head (t : ByteArray) (n : Nat) : t.extract 0 n = ⟨(t.data.toList.take n).toArray⟩ := by
  apply ByteArray.ext
  simp [ByteArray.data_extract]
  apply Array.ext'
  simp
theorem cut_tail (t : ByteArray) (n : Nat) : (t.extract n t.size).data.toList = t.data.toList.drop n := drop_extract t n

def strLen : Value → Nat
  | .string t => t.size
  | _ => 0
theorem ne_nil_of_size (t : ByteArray) (h : 0 < t.size) : t.data.toList ≠ [] := by
  intro e
  have := Lib.size_eq t
  rw [e, List.length_nil] at this
  omega

/-- What is carried from round to round. -/
def RunesAt (w : World) (L : List UInt8) (N : Nat) (wr : World) (t : ByteArray) (v : Value) (b : Bool) : Prop :=
  ∃ done, wr.ownsRow w.heap.size 9 1 v done.length (strsV done) ∧ Below w.heap.size w wr ∧ done ++ scan t.data.toList = scan L ∧ b = (done.all fun x => !strayP x) ∧ done.length + t.size ≤ N

end Go.Proofs.YtadkmlcnmkdfiaaGreatDoor
