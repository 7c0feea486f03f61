/- Own text. A long text of so many bytes. -/
import Derived.Test.YtoipggaepkedmaaVR2
import Derived.Deep.OwnRows
import Derived.Laws.IdiomStrings
namespace Go.Proofs.Ytoipggaepkedmaa
open Go.RowKit Go.Maps
set_option linter.unusedVariables false

def longN (n : Int) : Nat := (max 0 (min n 65537)).toNat
def longB (n : Int) : ByteArray := ⟨(List.replicate (longN n) 0).toArray⟩
theorem longN_le (n : Int) : longN n ≤ 65537 := by unfold longN; omega
theorem longB_size (n : Int) : (longB n).size ≤ 65537 := by
  have := longN_le n
  show (List.replicate (longN n) (0 : UInt8)).toArray.size ≤ _
  simp; omega

theorem info_byte : (Try.prog.info? 5).map (fun i => (i.zero, i.size, i.bytes)) = some (some (.int .u8 0), 1, 1) := by kernel_rfl

theorem long_any (n : Int) (w : World) (h1 : -9223372036854775808 ≤ n) (h2 : n ≤ 9223372036854775807) :
    Calls Try.prog 23 #[.int .i64 n] w fun e w' => e = .returned (.string (longB n)) ∧ Below w.heap.size w w' := by
  have hk := longN_le n
  have hmk := run_make_row' (P := Try.prog) 67 5 (.int .u8 0) 1 Try.underlying67 info_byte rfl .i64 .i64 (longN n) (by omega) (by omega)
  have hmm : max 0 (min n 65537) = (longN n : Int) := by unfold longN; omega
  have hcv : (convert 67 9 (.slice (some ⟨w.heap.size, 0, none⟩) (longN n) (longN n))).run Try.prog (w.alloc (.cells (madeCells #[.int .u8 0] (longN n)) 5)) = .ok (.string (longB n)) (w.alloc (.cells (madeCells #[.int .u8 0] (longN n)) 5)) := by
    have e : (List.replicate (longN n) (0 : UInt8)).length = longN n := by simp
    have := run_convert_bytes_back (P := Try.prog) (w.alloc (.cells (madeCells #[.int .u8 0] (longN n)) 5)) 67 9 5 ⟨w.heap.size, 0, none⟩ (longN n) (List.replicate (longN n) 0) Try.underlying67 Try.underlying5 Try.underlying9 (fun j hj => by
      rw [addP, cell_of_row _ _ _ _ _ _ (heap_alloc_new w _)]
      rw [e] at hj
      simp [madeCells, hj, Nat.mod_one])
    rw [e] at this
    exact this
  generalize longB n = lb at *
  generalize longN n = ln at *
  go_enter Try.func23, Try.ntmps23
  go_wp2
  go_ret
  exact ⟨rfl, (Below.refl _ w).alloc (Nat.le_refl _) _⟩

end Go.Proofs.Ytoipggaepkedmaa
