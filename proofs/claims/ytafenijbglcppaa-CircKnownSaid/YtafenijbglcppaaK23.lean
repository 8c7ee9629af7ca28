/- Joined texts: CxLawVal. -/
import Derived.Test.YtafenijbglcppaaK20
import Derived.Test.YtafenijbglcppaaK16
import Derived.Test.YtafenijbglcppaaK18
/- The law CircValues, walked. -/
namespace Go.Proofs.Ytafenijbglcppaa
open Go.RowKit Go.Maps Go.Shelf
set_option linter.unusedVariables false
set_option linter.unusedSimpArgs false

theorem vals_len (P : List Blk) (gs : List Gt) (o : Int) (a : List Int) : (valuesN P gs o a).1.length ≤ gs.length := by
  unfold valuesN
  split
  · have := runG_len (setA (fun _ => false) a) gs gs.length (Nat.le_refl _)
    rw [List.take_length] at this
    exact Nat.le_of_eq this
  · simp

end Go.Proofs.Ytafenijbglcppaa
