/- slices.Equal of lists of integers. -/
import Derived.Test.YtkcbicakcjflkaaDoorMgA
namespace Go.Proofs.YtkcbicakcjflkaaDoor
open Go.RowKit
set_option linter.unusedVariables false

end Go.Proofs.YtkcbicakcjflkaaDoor
