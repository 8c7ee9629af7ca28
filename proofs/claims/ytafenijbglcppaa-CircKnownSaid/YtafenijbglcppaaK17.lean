/- Joined texts: CxSameG, CxSameN, CxRSame, CxRAbs, CxRSameG, CxRSameN, CxRVars. -/
import Derived.Test.YtafenijbglcppaaK04
import Derived.Test.YtafenijbglcppaaK16
/- circ.Same; slices.EqualFunc over gates. -/
namespace Go.Proofs.Ytafenijbglcppaa
open Go.RowKit Go.Maps
set_option linter.unusedVariables false
set_option linter.unusedSimpArgs false

end Go.Proofs.Ytafenijbglcppaa

/- circ.Same. -/
namespace Go.Proofs.Ytafenijbglcppaa
open Go.RowKit Go.Maps
set_option linter.unusedVariables false
set_option linter.unusedSimpArgs false

/-- Two nets are one. -/
def sameN (P : List Blk) (gs : List Gt) (o : Int) (P2 : List Blk) (gs2 : List Gt) (o2 : Int) : Bool := sameB P P2 && (sameB gs gs2 && decide (o = o2))
end Go.Proofs.Ytafenijbglcppaa

/- The reference's SamePrefix (layer 5). -/
namespace Go.Proofs.Ytafenijbglcppaa
open Go.RowKit Go.Maps
set_option linter.unusedVariables false
set_option linter.unusedSimpArgs false

end Go.Proofs.Ytafenijbglcppaa

/- The reference's Abs, variable, In; the law's many (layer 5). -/
namespace Go.Proofs.Ytafenijbglcppaa
open Go.RowKit Go.Maps
set_option linter.unusedVariables false
set_option linter.unusedSimpArgs false

/-- The variable of a number: its size; 0 for the least integer. -/
def abs5 (x : Int) : Int := if x < 0 then (if x = -9223372036854775808 then 0 else -x) else x
def varB (x : Int) : Bool := decide (1 ≤ x) && decide (x ≤ 65536)
/-- More gates, or literals, than a law looks at. -/
def manyG (gs : List Gt) : Bool := decide (300 < gs.length) || decide (1500 < sizeG gs)
end Go.Proofs.Ytafenijbglcppaa

/- The reference's SameGates (layer 5). -/
namespace Go.Proofs.Ytafenijbglcppaa
open Go.RowKit Go.Maps
set_option linter.unusedVariables false
set_option linter.unusedSimpArgs false

end Go.Proofs.Ytafenijbglcppaa

/- The reference's Same (layer 5). -/
namespace Go.Proofs.Ytafenijbglcppaa
open Go.RowKit Go.Maps
set_option linter.unusedVariables false
set_option linter.unusedSimpArgs false

end Go.Proofs.Ytafenijbglcppaa

/- The reference's Vars and shape (layer 5). -/
namespace Go.Proofs.Ytafenijbglcppaa
open Go.RowKit Go.Maps
set_option linter.unusedVariables false
set_option linter.unusedSimpArgs false

theorem flat_take_len5 {α : Type} (p : List (α × List Int)) (k : Nat) : (flatB (p.take k)).length ≤ (flatB p).length := by
  have h1 : flatB (p.take k) ++ flatB (p.drop k) = flatB p := by
    unfold flatB
    rw [← List.flatten_append, ← List.map_append, List.take_append_drop]
  rw [← h1]
  simp
end Go.Proofs.Ytafenijbglcppaa
