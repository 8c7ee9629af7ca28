/- Joined texts: CxNSplit. -/
import Derived.Test.YticcikelapifaaaK11
/- Names of gates in two parts; a literal's variable in range. (Pure.) -/
namespace Go.Proofs.Yticcikelapifaaa
open Go.RowKit
set_option linter.unusedVariables false
set_option linter.unusedSimpArgs false

theorem namedL_split : ∀ (xs ys : List Gt) (S R : List Int) (t : Nat), namedL S t (xs ++ ys) = some R → ∃ M, namedL S t xs = some M ∧ namedL M (t + sizeG xs) ys = some R
  | [], ys, S, R, t, h => ⟨S, rfl, by simpa [sizeG] using h⟩
  | g :: xs, ys, S, R, t, h => by
    rw [List.cons_append] at h
    unfold namedL at h
    by_cases hg : gOk S t g = true
    · rw [if_pos hg] at h
      obtain ⟨M, h1, h2⟩ := namedL_split xs ys _ _ _ h
      refine ⟨M, by unfold namedL; rw [if_pos hg]; exact h1, ?_⟩
      have e : t + sizeG (g :: xs) = t + g.2.2.length + sizeG xs := by simp [sizeG]; omega
      rw [e]; exact h2
    · rw [if_neg hg] at h; cases h
theorem varC_in {x : Int} (h : 1 ≤ varC x ∧ varC x ≤ 65536) : (-65536 ≤ x ∧ x ≤ 65536) ∧ varC x = if x < 0 then -x else x := by
  unfold varC at h ⊢
  by_cases h1 : x < 0
  · rw [if_pos h1] at h
    by_cases h2 : x = -9223372036854775808
    · rw [if_pos h2] at h; omega
    · rw [if_neg h2] at h
      rw [if_pos h1, if_neg h2, if_pos h1]
      omega
  · rw [if_neg h1] at h
    rw [if_neg h1, if_neg h1]
    omega
end Go.Proofs.Yticcikelapifaaa
