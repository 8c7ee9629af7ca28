/- slices.Equal of lists of integers. -/
import Derived.Test.YtmiijgjpkkmoaaaGreatMgA
namespace Go.Proofs.YtmiijgjpkkmoaaaGreat
open Go.RowKit
set_option linter.unusedVariables false

end Go.Proofs.YtmiijgjpkkmoaaaGreat
