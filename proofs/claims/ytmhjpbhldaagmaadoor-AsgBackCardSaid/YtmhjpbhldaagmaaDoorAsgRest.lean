/- The reference's rest: the open literals of a clause. -/
import Derived.Test.YtmhjpbhldaagmaaDoorAsgVal
namespace Go.Proofs.YtmhjpbhldaagmaaDoor
open Go.RowKit
set_option linter.unusedVariables false

def openB (a : List Int) (x : Int) : Bool := valL a x == 0
def restL (a c : List Int) : List Int := c.filter (openB a)

end Go.Proofs.YtmhjpbhldaagmaaDoor
