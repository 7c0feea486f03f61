/- The contract of the document's Unquote: it says what the reader, rune by rune, says. -/
import Derived.Test.YtaiefheejgfefabDoorRefUnqA
import Derived.Test.YtaiefheejgfefabDoorSliceA
import Derived.Deep.QuietTactic
import Derived.BigQuiet
import Derived.WalkSmall
namespace Go.Proofs.YtaiefheejgfefabDoor
open Go.RowKit

/-- What is carried from round to round: so far what has been said, and where. -/
def UnqAt2 (w : World) (L : List UInt8) (N : Nat) (q : Nat) (wr : World) (i : Nat) (v : Value) : Prop :=
  ∃ u : Unq, wr.ownsRowF w.heap.size 5 1 v u.said.length (Lib.byteCells u.said) ∧ Below w.heap.size w wr ∧ unqS (scan (L.drop i)) u i = unquoteL L ∧ u.st = 1 ∧ u.q = (q : Int) ∧ 1 ≤ i ∧ i ≤ N ∧ u.said.length ≤ i

theorem dec_low (l : List UInt8) (h : atL l 0 < 128) : decL l = (atL l 0, 1) := by rw [decL, if_pos h]

theorem slice_run (s : ByteArray) (i n : Nat) (h : i + n ≤ s.size) (W : World) : (Instr.slice 9 (.string s) (some (.int .i64 (i : Int))) (some (.int .i64 ((i : Int) + (n : Int)))) none).run Tryd.prog W = .ok (.string (s.extract i (i + n))) W := by
  rw [run_slice_string W _ _ _ _ _ _ Tryd.underlying9 (by omega) (by omega) (by omega)]
  have e1 : ((i : Int)).toNat = i := by omega
  have e2 : ((i : Int) + (n : Int)).toNat = i + n := by omega
  rw [e1, e2]
theorem unq2_mk {w W3 : World} {L : List UInt8} {N q i : Nat} {v' : Value} {u u' : Unq} {tb : ByteArray} (hown : W3.ownsRowF w.heap.size 5 1 v' (u.said.length + tb.size) (Lib.byteCells u.said ++ Lib.strCells tb)) (hb : Below w.heap.size w W3)
    (hun : unqS (scan (L.drop i)) u' i = unquoteL L) (hst : u'.st = 1) (huq : u'.q = (q : Int)) (h1 : 1 ≤ i) (hN : i ≤ N) (hsaid : u'.said = u.said ++ tb.data.toList) (hlen : u.said.length + tb.size ≤ i) : UnqAt2 w L N q W3 i v' := by
  have hl : u'.said.length = u.said.length + tb.size := by rw [hsaid, List.length_append, ← Lib.size_eq]
  refine ⟨u', ?_, hb, hun, hst, huq, h1, hN, by omega⟩
  rw [hl, hsaid, Lib.byteCells_append, ← Lib.strCells_eq]
  exact hown

end Go.Proofs.YtaiefheejgfefabDoor
