/- The reference's Clause and Cube. -/
import Derived.Test.YtmhjpbhldaagmaaDoorAsgRest
namespace Go.Proofs.YtmhjpbhldaagmaaDoor
open Go.RowKit
set_option linter.unusedVariables false

def anyV (a c : List Int) (t : Int) : Bool := c.any (fun x => valL a x == t)
/-- What a list of literals is: t settles it, 0 leaves it open, f when neither is there. -/
def judgeL (t f : Int) (a c : List Int) : Int := if mayB a && mayB c then (if anyV a c t then t else if anyV a c 0 then 0 else f) else 0
theorem anyV_take {a c : List Int} {k : Nat} (h : k < c.length) (t : Int) : anyV a (c.take (k + 1)) t = (anyV a (c.take k) t || (valL a (c.getD k 0) == t)) := by
  have e : c.take (k + 1) = c.take k ++ [c.getD k 0] := by rw [List.take_succ_eq_append_getElem h]; simp [List.getD, h]
  unfold anyV
  rw [e, List.any_append]
  simp
theorem anyV_at {a c : List Int} {k : Nat} (h : k < c.length) {t : Int} (ht : valL a (c.getD k 0) = t) : anyV a c t = true := by
  unfold anyV
  rw [List.any_eq_true]
  exact ⟨_, getD_mem h, by simpa using ht⟩

end Go.Proofs.YtmhjpbhldaagmaaDoor
