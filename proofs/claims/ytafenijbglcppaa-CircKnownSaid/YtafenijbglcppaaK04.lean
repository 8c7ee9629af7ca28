/- Joined texts: Equal, PxDep, PxBlk, PxInts, PxSame, CxBlk. -/
import Derived.Test.YtafenijbglcppaaK01
import Derived.Test.YtafenijbglcppaaK02
/- slices.Equal of lists of integers. -/
namespace Go.Proofs.Ytafenijbglcppaa
open Go.RowKit
set_option linter.unusedVariables false

end Go.Proofs.Ytafenijbglcppaa

/- slices.EqualFunc over rows of two cells (of dependencies). -/
namespace Go.Proofs.Ytafenijbglcppaa
open Go.RowKit
set_option linter.unusedVariables false
set_option linter.unusedSimpArgs false

end Go.Proofs.Ytafenijbglcppaa

/- slices.EqualFunc over rows of two cells (of blocks). -/
namespace Go.Proofs.Ytafenijbglcppaa
open Go.RowKit
set_option linter.unusedVariables false
set_option linter.unusedSimpArgs false

end Go.Proofs.Ytafenijbglcppaa

/- The reference's Ints and Lists. -/
namespace Go.Proofs.Ytafenijbglcppaa
open Go.RowKit
set_option linter.unusedVariables false

end Go.Proofs.Ytafenijbglcppaa

/- prefix.Same and the reference's; slices.EqualFunc over clauses. -/
namespace Go.Proofs.Ytafenijbglcppaa
open Go.RowKit
set_option linter.unusedVariables false
set_option linter.unusedSimpArgs false

end Go.Proofs.Ytafenijbglcppaa

/- slices.EqualFunc over blocks, with circ.Same's function. -/
namespace Go.Proofs.Ytafenijbglcppaa
open Go.RowKit
set_option linter.unusedVariables false
set_option linter.unusedSimpArgs false

end Go.Proofs.Ytafenijbglcppaa
