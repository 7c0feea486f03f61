/- What every statement of the layer shares: the package-level tables as they are laid, and a world for the witness. -/
import Derived.Test.YtddacbobklmpfabDoorCards
import Derived.Test.YtddacbobklmpfabDoorTie
import Derived.Test.YtddacbobklmpfabDoorAwake
import Derived.ProofKit
import Derived.OpenShut
import Derived.Deep.DeepHandedRow
import Derived.Lib.LaidTab
import Derived.Stop.LaidErr
namespace Go.Proofs.YtddacbobklmpfabDoor
open Go.ChangeShapes Go.WideShapes Go.ChangeAt Go.RowKit

theorem own : ownKnob Tryd.prog.godebug = none := by kernel_rfl
theorem gTab : Tryd.prog.globalNamed "math/bits.deBruijn64tab" = some 2 := by kernel_rfl
theorem gTabType : (Tryd.prog.globals[2]?).map (·.type) = some 76 := by kernel_rfl
theorem cells64 : Tryd.prog.cellsOf 76 = 64 := by kernel_rfl
theorem cells8 : Tryd.prog.cellsOf 5 = 1 := by kernel_rfl

def tab64 : List Int := [0, 1, 56, 2, 57, 49, 28, 3, 61, 58, 42, 50, 38, 29, 17, 4, 62, 47, 59, 36, 45, 43, 51, 22, 53, 39, 33, 30, 24, 18, 12, 5, 63, 55, 48, 27, 60, 41, 37, 16, 46, 35, 44, 21, 52, 32, 23, 11, 54, 26, 40, 15, 34, 20, 31, 10, 25, 14, 19, 9, 13, 8, 7, 6]
def tab32 : List Int := [0, 1, 28, 2, 29, 14, 24, 3, 30, 22, 20, 15, 25, 17, 4, 8, 31, 27, 13, 23, 21, 19, 16, 7, 26, 12, 18, 6, 11, 5, 10, 9]
def tab10 : List Int := [1, 10, 100, 1000, 10000, 100000, 1000000, 10000000, 100000000, 1000000000, 10000000000, 100000000000, 1000000000000, 10000000000000, 100000000000000, 1000000000000000, 10000000000000000, 100000000000000000, 1000000000000000000, 10000000000000000000]
/-- The tables that the rows list, in their order. -/
abbrev laidTabs : List (String × DataW Unit) := [("math/bits.deBruijn32tab", Rows.laid_math_bits_deBruijn32tab), ("math/bits.deBruijn64tab", Rows.laid_math_bits_deBruijn64tab), ("internal/strconv.uint64pow10", Rows.laid_internal_strconv_uint64pow10)]

theorem laid_plain {W : World} (h : laidMetH Tryd.prog laidTabs W) : laidMet Tryd.prog laidTabs W := h
theorem table {W : World} (h : laidMetH Tryd.prog laidTabs W) : tabCell W := by
  have h1 : Lib.TabIs Tryd.prog W "math/bits.deBruijn64tab" .u8 tab64 :=
    Lib.tabIs_of_head (rest := [("internal/strconv.uint64pow10", Rows.laid_internal_strconv_uint64pow10)]) gTab gTabType Tryd.underlying76 Tryd.underlying5 cells8 cells64 (laidMet.tail (laid_plain h))
  exact h1.cell gTab 15 (by decide)

def layCells (C : Array Value) : Obj → Obj
  | .cells _ t frozen => .cells C t frozen
  | o => o
/-- The tables' blocks, holding what their initialisers lay: for the witness. -/
def layTabs (h : Array Obj) : Array Obj :=
  ((h.modify 0 (layCells (tab10.map (Value.int .u64)).toArray)).modify 1 (layCells (tab32.map (Value.int .u8)).toArray)).modify 2 (layCells (tab64.map (Value.int .u8)).toArray)
end Go.Proofs.YtddacbobklmpfabDoor
