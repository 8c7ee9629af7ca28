/- asg.Agree and the reference's. -/
import Derived.Test.YtmhjpbhldaagmaaDoorMgT
import Derived.Test.YtmhjpbhldaagmaaDoorMgG
namespace Go.Proofs.YtmhjpbhldaagmaaDoor
open Go.RowKit
set_option linter.unusedVariables false

def agreeB (a b : List Int) : Bool := (joinR a b).2 == 0

end Go.Proofs.YtmhjpbhldaagmaaDoor
