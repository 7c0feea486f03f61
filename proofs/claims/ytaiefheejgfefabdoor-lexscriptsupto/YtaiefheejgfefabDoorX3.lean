/- Own text. The document's reader of blanks and notes. -/
import Derived.Test.YtaiefheejgfefabDoorX2
namespace Go.Proofs.YtaiefheejgfefabDoor
open Go.RowKit
set_option linter.unusedVariables false

theorem ret_ib2 {k : IntKind} {a c : Int} {b d : Bool} (h : a = c) (h2 : b = d) : Ending.returned (.tuple #[.int k a, .bool b]) = .returned (.tuple #[.int k c, .bool d]) := by rw [h, h2]

end Go.Proofs.YtaiefheejgfefabDoor
