/- Own text. Which trees are exports of types from elsewhere: the document's answer. -/
import Derived.Test.YtfcocoadaajbjaaGreatDoorGa43
set_option linter.unusedVariables false
set_option linter.unusedSimpArgs false
namespace Go.Proofs.YtfcocoadaajbjaaGreatDoor
open Go.RowKit
end Go.Proofs.YtfcocoadaajbjaaGreatDoor
