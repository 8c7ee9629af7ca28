/- The reference's Point. -/
import Derived.Test.YtmhjpbhldaagmaaDoorMgT
namespace Go.Proofs.YtmhjpbhldaagmaaDoor
open Go.RowKit
set_option linter.unusedVariables false

def ptH (vs : List Int) (n k : Nat) : List Int := (List.range k).map (ptAt vs n)
theorem ptH_hit (vs : List Int) (n k : Nat) : ptH vs n (k + 1) = ptH vs n k ++ [ptAt vs n k] := by unfold ptH; rw [List.range_succ]; simp
theorem ptH_len (vs : List Int) (n k : Nat) : (ptH vs n k).length = k := by simp [ptH]

end Go.Proofs.YtmhjpbhldaagmaaDoor
