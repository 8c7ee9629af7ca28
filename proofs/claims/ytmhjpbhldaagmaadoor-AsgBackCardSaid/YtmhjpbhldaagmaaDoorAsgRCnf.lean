/- The reference's Cnf. -/
import Derived.Test.YtmhjpbhldaagmaaDoorAsgRCl
import Derived.Test.YtmhjpbhldaagmaaDoorCnf
namespace Go.Proofs.YtmhjpbhldaagmaaDoor
open Go.RowKit
set_option linter.unusedVariables false

def anyC (a : List Int) (f : List (List Int)) (t : Int) : Bool := f.any (fun c => judgeL 1 2 a c == t)
def cnfL (a : List Int) (f : List (List Int)) : Int := if mayB a && mayCnfB f then (if anyC a f 2 then 2 else if anyC a f 0 then 0 else 1) else 0
theorem anyC_take {a : List Int} {f : List (List Int)} {k : Nat} (h : k < f.length) (t : Int) : anyC a (f.take (k + 1)) t = (anyC a (f.take k) t || (judgeL 1 2 a (f.getD k []) == t)) := by
  have e : f.take (k + 1) = f.take k ++ [f.getD k []] := by rw [List.take_succ_eq_append_getElem h]; simp [List.getD, h]
  unfold anyC
  rw [e, List.any_append]
  simp
theorem anyC_at {a : List Int} {f : List (List Int)} {k : Nat} (h : k < f.length) {t : Int} (ht : judgeL 1 2 a (f.getD k []) = t) : anyC a f t = true := by
  unfold anyC
  rw [List.any_eq_true]
  exact ⟨_, rows_getD_mem h, by simpa using ht⟩

end Go.Proofs.YtmhjpbhldaagmaaDoor
