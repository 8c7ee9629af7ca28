/- The reference's decides and Units. -/
import Derived.Test.YtmhjpbhldaagmaaDoorMgW
import Derived.Test.YtmhjpbhldaagmaaDoorUnitsR
import Derived.Test.YtmhjpbhldaagmaaDoorMgB
import Derived.Deep.LoopGhost
namespace Go.Proofs.YtmhjpbhldaagmaaDoor
open Go.RowKit
set_option linter.unusedVariables false

def DecRes (f : List (List Int)) (a : List Int) (r : Int) : Prop := (∃ i : Nat, r = i ∧ firstC f a i) ∨ (r = -1 ∧ ∀ i, i < f.length → ¬ decC a (f.getD i []))

end Go.Proofs.YtmhjpbhldaagmaaDoor
