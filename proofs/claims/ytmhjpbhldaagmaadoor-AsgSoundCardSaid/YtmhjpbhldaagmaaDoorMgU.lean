/- Joined texts: AsgRest, AsgRCl, AsgRCnf. -/
import Derived.Test.YtmhjpbhldaagmaaDoorMgT
import Derived.Test.YtmhjpbhldaagmaaDoorMgR
/- The reference's rest: the open literals of a clause. -/
namespace Go.Proofs.YtmhjpbhldaagmaaDoor
open Go.RowKit
set_option linter.unusedVariables false

def openB (a : List Int) (x : Int) : Bool := valL a x == 0
def restL (a c : List Int) : List Int := c.filter (openB a)

end Go.Proofs.YtmhjpbhldaagmaaDoor

/- The reference's Clause and Cube. -/
namespace Go.Proofs.YtmhjpbhldaagmaaDoor
open Go.RowKit
set_option linter.unusedVariables false

def anyV (a c : List Int) (t : Int) : Bool := c.any (fun x => valL a x == t)
/-- What a list of literals is: t settles it, 0 leaves it open, f when neither is there. -/
def judgeL (t f : Int) (a c : List Int) : Int := if mayB a && mayB c then (if anyV a c t then t else if anyV a c 0 then 0 else f) else 0
theorem anyV_take {a c : List Int} {k : Nat} (h : k < c.length) (t : Int) : anyV a (c.take (k + 1)) t = (anyV a (c.take k) t || (valL a (c.getD k 0) == t)) := by
  have e : c.take (k + 1) = c.take k ++ [c.getD k 0] := by rw [List.take_succ_eq_append_getElem h]; simp [List.getD, h]
  unfold anyV
  rw [e, List.any_append]
  simp
theorem anyV_at {a c : List Int} {k : Nat} (h : k < c.length) {t : Int} (ht : valL a (c.getD k 0) = t) : anyV a c t = true := by
  unfold anyV
  rw [List.any_eq_true]
  exact ⟨_, getD_mem h, by simpa using ht⟩

end Go.Proofs.YtmhjpbhldaagmaaDoor

/- The reference's Cnf. -/
namespace Go.Proofs.YtmhjpbhldaagmaaDoor
open Go.RowKit
set_option linter.unusedVariables false

def anyC (a : List Int) (f : List (List Int)) (t : Int) : Bool := f.any (fun c => judgeL 1 2 a c == t)
def cnfL (a : List Int) (f : List (List Int)) : Int := if mayB a && mayCnfB f then (if anyC a f 2 then 2 else if anyC a f 0 then 0 else 1) else 0
theorem anyC_take {a : List Int} {f : List (List Int)} {k : Nat} (h : k < f.length) (t : Int) : anyC a (f.take (k + 1)) t = (anyC a (f.take k) t || (judgeL 1 2 a (f.getD k []) == t)) := by
  have e : f.take (k + 1) = f.take k ++ [f.getD k []] := by rw [List.take_succ_eq_append_getElem h]; simp [List.getD, h]
  unfold anyC
  rw [e, List.any_append]
  simp
theorem anyC_at {a : List Int} {f : List (List Int)} {k : Nat} (h : k < f.length) {t : Int} (ht : judgeL 1 2 a (f.getD k []) = t) : anyC a f t = true := by
  unfold anyC
  rw [List.any_eq_true]
  exact ⟨_, rows_getD_mem h, by simpa using ht⟩

end Go.Proofs.YtmhjpbhldaagmaaDoor
