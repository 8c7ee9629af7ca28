/- Pure: the graph of a net has the values of the net. -/
import Derived.Test.YtppglbffmgnooaaGreatA13
import Derived.Test.YtppglbffmgnooaaGreatA11
namespace Go.Proofs.YtppglbffmgnooaaGreat
set_option linter.unusedVariables false
set_option linter.unusedSimpArgs false

/-- The values of the constant and the inputs. -/
def baseV (I : List Int) (h : Int → Bool) : List Bool := false :: I.map h
theorem baseV_len (I : List Int) (h : Int → Bool) : (baseV I h).length = 1 + I.length := by unfold baseV; simp; omega
theorem baseV_zero (I : List Int) (h : Int → Bool) : (baseV I h).getD 0 false = false := rfl
theorem baseV_at {I : List Int} {h : Int → Bool} {j : Nat} (hj : j < I.length) : (baseV I h).getD (1 + j) false = h (I.getD j 0) := by
  unfold baseV
  rw [Nat.add_comm 1 j]
  simp [List.getD, hj]
end Go.Proofs.YtppglbffmgnooaaGreat
