/- Pure: what the reference's Cone and Restrict answer is what the program's do. -/
import Derived.Test.YtppglbffmgnooaaGreatAgRCopP
import Derived.Test.YtppglbffmgnooaaGreatA09
namespace Go.Proofs.YtppglbffmgnooaaGreat
set_option linter.unusedVariables false
set_option linter.unusedSimpArgs false

theorem fix_fold : ∀ (l : List Int) (p : Int) (f : Int → Option Int) (v : Int), 0 ≤ p → mayFrom p l = true → 0 < v → l.foldl fixStep f v = if v ∈ l then some 1 else if -v ∈ l then some 0 else f v
  | [], p, f, v, _, _, _ => by simp
  | x :: r, p, f, v, hp, hm, hv => by
    have hmem := mayFrom_mem hp hm
    have hx := hmem x (by simp)
    have hr : mayFrom (varOf x) r = true := by
      unfold mayFrom at hm
      exact (Bool.and_eq_true _ _ ▸ hm).2
    have hrm := mayFrom_mem (show 0 ≤ varOf x by omega) hr
    have hl : x ≠ 0 ∧ -65536 ≤ x ∧ x ≤ 65536 := by have h := hx.2; unfold litB at h; simpa [and_assoc] using h
    have hvo : ∀ z : Int, litB z = true → varOf z = if z < 0 then -z else z := fun z hz => by
      have h : z ≠ 0 ∧ -65536 ≤ z ∧ z ≤ 65536 := by unfold litB at hz; simpa [and_assoc] using hz
      unfold varOf
      rw [if_neg (by omega)]
    have hvc : varC x = if x < 0 then -x else x := by
      unfold varC
      split
      · rename_i h1
        rw [if_neg (by omega)]
      · rfl
    rw [List.foldl_cons, fix_fold r (varOf x) (fixStep f x) v (by omega) hr hv]
    have hox := hvo x hx.2
    by_cases e : varC x = v
    · have n1 : v ∉ r := fun hh => by
        have h3 := hrm v hh
        rw [hvo v h3.2, if_neg (by omega)] at h3
        rw [hox, ← hvc] at h3
        omega
      have n2 : -v ∉ r := fun hh => by
        have h3 := hrm (-v) hh
        rw [hvo (-v) h3.2, if_pos (by omega)] at h3
        rw [hox, ← hvc] at h3
        omega
      rw [if_neg n1, if_neg n2]
      by_cases hx0 : x < 0
      · rw [if_pos hx0] at hvc
        have m1 : v ∉ x :: r := fun hh => by
          rcases List.mem_cons.1 hh with hh | hh
          · omega
          · exact n1 hh
        rw [if_neg m1, if_pos (by rw [List.mem_cons]; left; omega)]
        unfold fixStep
        rw [if_neg (by omega)]
        unfold updM
        rw [if_pos e.symm]
      · rw [if_neg hx0] at hvc
        have : v = x := by omega
        subst this
        rw [if_pos (by simp)]
        unfold fixStep
        rw [if_pos hv]
        unfold updM
        rw [if_pos rfl]
    · have hu : fixStep f x v = f v := by
        unfold fixStep
        have h1 : v ≠ varC x := fun q => e q.symm
        split
        · rename_i h0
          have h2 : v ≠ x := fun q => by rw [if_neg (by omega)] at hvc; omega
          unfold updM
          rw [if_neg h2, if_neg h1]
        · unfold updM
          rw [if_neg h1]
      rw [hu]
      have m1 : v ∈ x :: r ↔ v ∈ r := by
        rw [List.mem_cons]
        refine ⟨fun q => q.resolve_left (fun q => e ?_), Or.inr⟩
        rw [hvc, ← q, if_neg (by omega)]
      have m2 : -v ∈ x :: r ↔ -v ∈ r := by
        rw [List.mem_cons]
        refine ⟨fun q => q.resolve_left (fun q => e ?_), Or.inr⟩
        rw [hvc, ← q, if_pos (by omega)]
        omega
      simp only [m1, m2]
theorem fixF_at {a : List Int} (h : mayB a = true) {v : Int} (hv : 0 < v) : fixF a v = if v ∈ a then some 1 else if -v ∈ a then some 0 else none := fix_fold a 0 _ v (Int.le_refl 0) h hv
end Go.Proofs.YtppglbffmgnooaaGreat
