/- Pure: what the reference's Cone and Restrict answer is what the program's do. -/
import Derived.Test.YtfghjfljomcldaaGreatAgRCopP
import Derived.Test.YtfghjfljomcldaaGreatA09
namespace Go.Proofs.YtfghjfljomcldaaGreat
set_option linter.unusedVariables false
set_option linter.unusedSimpArgs false

theorem fix_fold : ∀ (l : List Int) (p : Int) (f : Int → Option Int) (v : Int), 0 ≤ p → mayFrom p l = true → 0 < v → l.foldl fixStep f v = if v ∈ l then some 1 else if -v ∈ l then some 0 else f v
  | [], p, f, v, _, _, _ => by simp
  | x :: r, p, f, v, hp, hm, hv => by
    have hmem := mayFrom_mem hp hm
    have hx := hmem x (by simp)
    have hr : mayFrom (varOf x) r = true := by
      unfold mayFrom at hm
      exact (Bool.and_eq_true _ _ ▸ hm).2
    have hrm := mayFrom_mem (show 0 ≤ varOf x by omega) hr
    have hl : x ≠ 0 ∧ -65536 ≤ x ∧ x ≤ 65536 := by have h := hx.2; unfold litB at h; simpa [and_assoc] using h
    have hvo : ∀ z : Int, litB z = true → varOf z = if z < 0 then -z else z := fun z hz => by
      have h : z ≠ 0 ∧ -65536 ≤ z ∧ z ≤ 65536 := by unfold litB at hz; simpa [and_assoc] using hz
      unfold varOf
      rw [if_neg (by omega)]
    have hvc : varC x = if x < 0 then -x else x := by
      unfold varC
      split
      · rename_i h1
        rw [if_neg (by omega)]
      · rfl
    rw [List.foldl_cons, fix_fold r (varOf x) (fixStep f x) v (by omega) hr hv]
    have hox := hvo x hx.2
    by_cases e : varC x = v
    · have n1 : v ∉ r := fun hh => by
        have h3 := hrm v hh
        rw [hvo v h3.2, if_neg (by omega)] at h3
        rw [hox, ← hvc] at h3
        omega
      have n2 : -v ∉ r := fun hh => by
        have h3 := hrm (-v) hh
        rw [hvo (-v) h3.2, if_pos (by omega)] at h3
        rw [hox, ← hvc] at h3
        omega
      rw [if_neg n1, if_neg n2]
      by_cases hx0 : x < 0
      · rw [if_pos hx0] at hvc
        have m1 : v ∉ x :: r := fun hh => by
          rcases List.mem_cons.1 hh with hh | hh
          · omega
          · exact n1 hh
        rw [if_neg m1, if_pos (by rw [List.mem_cons]; left; omega)]
        unfold fixStep
        rw [if_neg (by omega)]
        unfold updM
        rw [if_pos e.symm]
      · rw [if_neg hx0] at hvc
        have : v = x := by omega
        subst this
        rw [if_pos (by simp)]
        unfold fixStep
        rw [if_pos hv]
        unfold updM
        rw [if_pos rfl]
    · have hu : fixStep f x v = f v := by
        unfold fixStep
        have h1 : v ≠ varC x := fun q => e q.symm
        split
        · rename_i h0
          have h2 : v ≠ x := fun q => by rw [if_neg (by omega)] at hvc; omega
          unfold updM
          rw [if_neg h2, if_neg h1]
        · unfold updM
          rw [if_neg h1]
      rw [hu]
      have m1 : v ∈ x :: r ↔ v ∈ r := by
        rw [List.mem_cons]
        refine ⟨fun q => q.resolve_left (fun q => e ?_), Or.inr⟩
        rw [hvc, ← q, if_neg (by omega)]
      have m2 : -v ∈ x :: r ↔ -v ∈ r := by
        rw [List.mem_cons]
        refine ⟨fun q => q.resolve_left (fun q => e ?_), Or.inr⟩
        rw [hvc, ← q, if_pos (by omega)]
        omega
      simp only [m1, m2]
theorem fixF_at {a : List Int} (h : mayB a = true) {v : Int} (hv : 0 < v) : fixF a v = if v ∈ a then some 1 else if -v ∈ a then some 0 else none := fix_fold a 0 _ v (Int.le_refl 0) h hv
/-- The inputs that are left, and the images of all, as the reference has them. -/
def keepL (a I : List Int) : List Int := I.filter (fun v => !decide (v ∈ a) && !decide (-v ∈ a))
def imgL (a I : List Int) (v : Int) : Int := if v ∈ a then 1 else if -v ∈ a then 0 else edgeI (keepL a I) v
theorem keepL_eq {a I : List Int} (h : mayB a = true) (hI : ∀ v ∈ I, 0 < v) : keepL a I = restI a I := by
  unfold keepL restI
  refine List.filter_congr (fun v hv => ?_)
  rw [fixF_at h (hI v hv)]
  by_cases h1 : v ∈ a
  · simp [h1]
  · by_cases h2 : -v ∈ a
    · simp [h1, h2]
    · simp [h1, h2]
theorem imgL_eq {a I : List Int} (h : mayB a = true) (hI : ∀ v ∈ I, 0 < v) : I.map (imgL a I) = I.map (restImg a I) := by
  refine List.map_congr_left (fun v hv => ?_)
  unfold imgL restImg orA
  rw [fixF_at h (hI v hv)]
  by_cases h1 : v ∈ a
  · simp [h1]
  · by_cases h2 : -v ∈ a
    · simp [h1, h2]
    · have hk : v ∈ keepL a I := List.mem_filter.2 ⟨hv, by simp [h1, h2]⟩
      simp only [h1, h2, if_false, Option.getD_none]
      unfold edgeI
      rw [if_pos hk, keepL_eq h hI]
theorem rest_ref {I : List Int} {A : List Pr} {l a : List Int} (h : hasA I A l = true) (ha : mayB a = true) :
    restR I A l a = ((keepL a I, (rcAll (1 + (keepL a I).length) I A (I.map (imgL a I)) l ([], false)).2.1), l.map (movE (rcAll (1 + (keepL a I).length) I A (I.map (imgL a I)) l ([], false)).1), 0) := by
  obtain ⟨hm, hok, hl⟩ := hasA_parts h
  have hI : ∀ v ∈ I, 0 < v := fun v hv => ((insB_lt (mayA_parts hm).2.1).1 v hv).1
  unfold restR
  rw [if_pos ⟨h, ha⟩]
  obtain ⟨e1, e2⟩ := rcAll_eq (k := 1 + (restI a I).length) (img := restImg a I) (s := ([], false)) hok hl
  rw [imgL_eq ha hI, keepL_eq ha hI, e1, e2]
  rfl
theorem keepL_nil (I : List Int) : keepL [] I = I := by unfold keepL; simp
theorem cone_ref {I : List Int} {A : List Pr} {l : List Int} (h : hasA I A l = true) :
    coneR I A l = ((I, (rcAll (1 + I.length) I A (I.map (edgeI I)) l ([], false)).2.1), l.map (movE (rcAll (1 + I.length) I A (I.map (edgeI I)) l ([], false)).1), 0) := by
  have hr := rest_ref (a := []) h rfl
  have e : imgL [] I = edgeI I := by funext v; unfold imgL; rw [keepL_nil]; simp
  rw [keepL_nil, e] at hr
  exact hr
end Go.Proofs.YtfghjfljomcldaaGreat
