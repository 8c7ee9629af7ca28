/- slices.Equal of lists of integers. -/
import Derived.Test.YtfodafaclhoibaaGreatMgA
namespace Go.Proofs.YtfodafaclhoibaaGreat
open Go.RowKit
set_option linter.unusedVariables false

end Go.Proofs.YtfodafaclhoibaaGreat
