/- Facts of the program as a whole that every row's last theorem asks, one theorem each (the kernel gives its memory back behind each). -/
import Derived.Test.YtppglbffmgnooaaGreatA04
import Derived.SevenTiedAt
import Derived.JoinedCond
import Derived.Deep.CondSized
namespace Go.Proofs.YtppglbffmgnooaaGreat
open Go.ChangeShapes Go.WideShapes Go.ChangeAt Go.RowKit
set_option linter.unusedVariables false
set_option maxHeartbeats 0

theorem and_both {a b : Bool} (h : a = true) (k : b = true) : (a && b) = true := by rw [h, k]; rfl
theorem ag_laid : laidOutB Tryz.checked.prog = true := by kernel_rfl
theorem ag_maps : mapsRowed Tryz.checked.prog = true := by kernel_rfl
theorem ag_heard : Tryz.checked.prog.stopsHeard = true := by kernel_rfl
theorem ag_enter : Tryz.checked.prog.mayEnter = true := by kernel_rfl
theorem ag_lifted : (Rows.aigMaysUptoRow.lifted == Tryz.checked.prog.liftsFinal) = true := by kernel_rfl
theorem ag_make : (Tryz.checked.prog.make == some Rows.aigMaysUptoRow.make) = true := by kernel_rfl
theorem ag_keys : (Rows.aigMaysUptoRow.plainKeys == Tryz.checked.prog.plainKeys) = true := by kernel_rfl
end Go.Proofs.YtppglbffmgnooaaGreat
