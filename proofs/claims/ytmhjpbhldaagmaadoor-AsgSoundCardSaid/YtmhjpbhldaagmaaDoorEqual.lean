/- slices.Equal of lists of integers. -/
import Derived.Test.YtmhjpbhldaagmaaDoorMgA
namespace Go.Proofs.YtmhjpbhldaagmaaDoor
open Go.RowKit
set_option linter.unusedVariables false

end Go.Proofs.YtmhjpbhldaagmaaDoor
