/- Own text. The package-level tables as they are laid (strconv's), and a world for the witness. -/
import Derived.Test.YtlijplbaefaeaaaDoorCards
import Derived.Test.YtlijplbaefaeaaaDoorTie
import Derived.Test.YtlijplbaefaeaaaDoorPvS
import Derived.Test.YtlijplbaefaeaaaDoorVlC
import Derived.Deep.DeepHandedRow
import Derived.Lib.LaidTab
import Derived.Lib.LaidU8
import Derived.Shelf.Vars
import Derived.Stop.LaidErr
namespace Go.Proofs.YtlijplbaefaeaaaDoor
open Go.ChangeShapes Go.WideShapes Go.ChangeAt Go.RowKit
set_option linter.unusedVariables false

def dbT64 : List Int := [0, 1, 56, 2, 57, 49, 28, 3, 61, 58, 42, 50, 38, 29, 17, 4, 62, 47, 59, 36, 45, 43, 51, 22, 53, 39, 33, 30, 24, 18, 12, 5, 63, 55, 48, 27, 60, 41, 37, 16, 46, 35, 44, 21, 52, 32, 23, 11, 54, 26, 40, 15, 34, 20, 31, 10, 25, 14, 19, 9, 13, 8, 7, 6]
def dbT32 : List Int := [0, 1, 28, 2, 29, 14, 24, 3, 30, 22, 20, 15, 25, 17, 4, 8, 31, 27, 13, 23, 21, 19, 16, 7, 26, 12, 18, 6, 11, 5, 10, 9]
/-- The tables that the rows list, in their order. -/
abbrev laidTabs : List (String × DataW Unit) := [("math/bits.deBruijn32tab", Rows.laid_math_bits_deBruijn32tab), ("math/bits.deBruijn64tab", Rows.laid_math_bits_deBruijn64tab), ("internal/strconv.uint64pow10", Rows.laid_internal_strconv_uint64pow10)]
theorem tabIs_of_reads {W : World} {name : String} {k : IntKind} {zs : List Int} {g : Nat} {t e : TypeId} {n : Nat}
    (hg : Tryd.prog.globalNamed name = some g) (hty : (Tryd.prog.globals[g]?).map (·.type) = some t) (ht : Tryd.prog.underlying t = some (.array n e)) (he : Tryd.prog.underlying e = some (.int k)) (hce : Tryd.prog.cellsOf e = 1) (hct : Tryd.prog.cellsOf t = n)
    (h : Lib.VarReads Tryd.prog W name (Lib.tabData k zs)) : Lib.TabIs Tryd.prog W name k zs := by
  obtain ⟨g', t', cs, fuel, p, hg', ht', hvar, hd⟩ := h
  obtain rfl := Option.some.inj (hg.symm.trans hg')
  obtain rfl := Option.some.inj (hty.symm.trans ht')
  unfold Lib.TabIs
  rw [hvar, ← Lib.cells_of_tab ht he hce hct hd]
theorem pow_is : (Rows.laid_internal_strconv_uint64pow10 : DataW Unit) = Lib.tabData .u64 Lib.pow10Tab := by kernel_rfl
theorem env_of {W : World} (h : laidMetH Tryd.prog laidTabs W) (hsh : W.ShapedOpen Tryd.prog) : EvP W := by
  have hl : laidMet Tryd.prog laidTabs W := h
  have r : Lib.VarReads Tryd.prog W "internal/strconv.uint64pow10" Rows.laid_internal_strconv_uint64pow10 := Lib.laidMet.reads hl (by simp)
  rw [pow_is] at r
  exact tabIs_of_reads (g := 0) (by kernel_rfl) (by kernel_rfl) Tryd.underlying92 Tryd.underlying74 (by kernel_rfl) (by kernel_rfl) r
def layCells (C : Array Value) : Obj → Obj
  | .cells _ t frozen => .cells C t frozen
  | o => o
/-- The tables' blocks, holding what their initialisers lay: for the witness. -/
def layTabs (h : Array Obj) : Array Obj :=
  ((h.modify 0 (layCells (Lib.pow10Tab.map (Value.int .u64)).toArray)).modify 1 (layCells (dbT32.map (Value.int .u8)).toArray)).modify 2 (layCells (dbT64.map (Value.int .u8)).toArray)
end Go.Proofs.YtlijplbaefaeaaaDoor
