/- Own text. Whether two trees are the same: the document's answer. -/
import Derived.Test.YtmfgcaffdkakhaaGreatT0
namespace Go.Proofs.YtmfgcaffdkakhaaGreat
open Go.RowKit
set_option linter.unusedVariables false

end Go.Proofs.YtmfgcaffdkakhaaGreat
