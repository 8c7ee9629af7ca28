/- Pure: what the law AigRound asks, in one piece. -/
import Derived.Test.YtfghjfljomcldaaGreatAgEval
import Derived.Test.YtfghjfljomcldaaGreatA15
import Derived.Test.YtfghjfljomcldaaGreatA13
import Derived.Test.YtfghjfljomcldaaGreatK10
namespace Go.Proofs.YtfghjfljomcldaaGreat
set_option linter.unusedVariables false
set_option linter.unusedSimpArgs false

theorem varC_lit {x : Int} (h : litB x = true) : varC x = varOf x ∧ 1 ≤ varC x ∧ varC x ≤ 65536 := by
  have h1 : x ≠ 0 ∧ -65536 ≤ x ∧ x ≤ 65536 := by unfold litB at h; simpa [and_assoc] using h
  unfold varC varOf
  split <;> (try split) <;> (try split) <;> omega
/-- What a normal list says of a variable. -/
theorem setA_fold : ∀ (l : List Int) (p : Int) (h : Int → Bool) (v : Int), 0 ≤ p → mayFrom p l = true → 0 < v → setA h l v = if v ∈ l then true else if -v ∈ l then false else h v
  | [], p, h, v, _, _, _ => by simp [setA]
  | x :: r, p, h, v, hp, hm, hv => by
    have hmem := mayFrom_mem hp hm
    have hx := hmem x (by simp)
    have hr : mayFrom (varOf x) r = true := by
      unfold mayFrom at hm
      exact (Bool.and_eq_true _ _ ▸ hm).2
    have hrm := mayFrom_mem (show 0 ≤ varOf x by omega) hr
    have hvx := varC_lit hx.2
    have ih := setA_fold r (varOf x) (updB h (varC x) (decide (0 < x))) v (by omega) hr hv
    show setA (updB h (varC x) (decide (0 < x))) r v = _
    rw [ih]
    have habs : varC x = if x < 0 then -x else x := by
      unfold varC
      split
      · rename_i h1
        split
        · rename_i h2
          subst h2
          exact absurd hx.2 (by decide)
        · rfl
      · rfl
    by_cases e : varC x = v
    · have n1 : v ∉ r := fun hh => by
        have h3 := hrm v hh
        have h4 := varC_lit h3.2
        have h5 : varC v = v := by unfold varC; rw [if_neg (by omega)]
        omega
      have n2 : -v ∉ r := fun hh => by
        have h3 := hrm (-v) hh
        have h4 := varC_lit h3.2
        have h5 : varC (-v) = v := by unfold varC; rw [if_pos (by omega), if_neg (by omega)]; omega
        omega
      rw [if_neg n1, if_neg n2]
      unfold updB
      rw [if_pos e.symm]
      by_cases hx0 : x < 0
      · rw [if_pos hx0] at habs
        have m1 : v ∉ x :: r := fun hh => by
          rcases List.mem_cons.1 hh with hh | hh
          · omega
          · exact n1 hh
        rw [if_neg m1, if_pos (by rw [List.mem_cons]; left; omega)]
        simp; omega
      · rw [if_neg hx0] at habs
        have : v = x := by omega
        subst this
        rw [if_pos (by simp)]
        simp [hv]
    · have hu : updB h (varC x) (decide (0 < x)) v = h v := by unfold updB; rw [if_neg (fun q => e q.symm)]
      rw [hu]
      have m1 : v ∈ x :: r ↔ v ∈ r := by
        rw [List.mem_cons]
        refine ⟨fun q => q.resolve_left (fun q => e ?_), Or.inr⟩
        rw [habs, ← q, if_neg (by omega)]
      have m2 : -v ∈ x :: r ↔ -v ∈ r := by
        rw [List.mem_cons]
        refine ⟨fun q => q.resolve_left (fun q => e ?_), Or.inr⟩
        rw [habs, ← q, if_pos (by omega)]
        omega
      simp only [m1, m2]
theorem setA_mem {a : List Int} (h : mayB a = true) {v : Int} (hv : 0 < v) : setA (fun _ => false) a v = decide (v ∈ a) := by
  rw [setA_fold a 0 _ v (Int.le_refl 0) h hv]
  by_cases h1 : v ∈ a
  · rw [if_pos h1, decide_eq_true h1]
  · rw [if_neg h1, decide_eq_false h1]
    split <;> rfl
theorem baseV_set {I a : List Int} (hI : ∀ x ∈ I, 0 < x) (h : mayB a = true) : baseV I (setA (fun _ => false) a) = baseV I (fun v => decide (v ∈ a)) := by
  unfold baseV
  congr 1
  exact List.map_congr_left (fun v hv => setA_mem h (hI v hv))
theorem namedL_good : ∀ (gs : List Gt) (S : List Int) (t : Nat) (R : List Int), namedL S t gs = some R → Vset S → Vset R ∧ R.length = S.length + gs.length
  | [], S, t, R, h, hS => by
    unfold namedL at h
    injection h with h
    subst h
    exact ⟨hS, by simp⟩
  | g :: r, S, t, R, h, hS => by
    unfold namedL at h
    split at h
    · rename_i hg
      have he : entB S g.1 = true := by
        unfold gOk at hg
        simp only [Bool.and_eq_true] at hg
        exact hg.2.2.2
      unfold entB at he
      rw [decide_eq_true_eq] at he
      have hV : Vset (S ++ [g.1]) := by
        refine ⟨?_, fun v hv => ?_⟩
        · rw [List.nodup_append]
          refine ⟨hS.1, by simp, fun x hx y hy => ?_⟩
          rw [List.mem_singleton] at hy
          subst hy
          exact fun e => he.2.2 (e ▸ hx)
        · rcases List.mem_append.1 hv with hv | hv
          · exact hS.2 v hv
          · rw [List.mem_singleton] at hv
            subst hv
            exact ⟨he.1, he.2.1⟩
      obtain ⟨h1, h2⟩ := namedL_good r (S ++ [g.1]) _ R h hV
      exact ⟨h1, by rw [h2]; simp; omega⟩
    · cases h
theorem mayN_bd {P : List Blk} {gs : List Gt} {o : Int} (h : mayN P gs o = true) : gs.length ≤ 65536 ∧ -65536 ≤ o ∧ o ≤ 65536 := by
  have hn := mayP_nums (mayN_pre h)
  unfold mayN at h
  cases hR : namedN P gs with
  | none => rw [hR] at h; cases h
  | some R =>
    rw [hR] at h
    have hm : varC o ∈ R := by simpa using h
    unfold namedN at hR
    split at hR
    · obtain ⟨h1, h2⟩ := namedL_good gs _ _ R hR ⟨hn.1, hn.2.1⟩
      have h3 := vset_len h1
      have h4 := h1.2 _ hm
      refine ⟨by omega, ?_⟩
      unfold varC at h4
      split at h4
      · split at h4 <;> omega
      · omega
    · cases hR
theorem round_facts {P : List Blk} {gs : List Gt} {o : Int} {a : List Int} (h : mayN P gs o = true) (ha : mayB a = true) (hsz : 3 * gs.length + litsN gs ≤ 64512) :
    ∃ A x gs2 o2 V, netR P gs o = ((netI P, A), x, 0) ∧ toNetR (netI P) A x P = ((P, gs2, o2), 0) ∧ netR P gs2 o2 = ((netI P, A), x, 0) ∧ redB (netI P) A = true ∧ mayN P gs2 o2 = true ∧ A.length ≤ 64512 ∧ (0 ≤ x ∧ x ≤ 4000000) ∧
      evalN P gs o a = (V, 0) ∧ evalC (netI P) A x a = (V, 0) ∧ evalN P gs2 o2 a = (V, 0) := by
  obtain ⟨A, x, hr, hm, hred, hx, hall, hA⟩ := net_cone h hsz
  obtain ⟨gs2, o2, ht, hm2, hr2⟩ := to_round (mayN_pre h) hm hred hx hall hA
  have hI : ∀ v ∈ netI P, 0 < v := fun v hv => ((insB_lt (mayA_parts hm).2.1).1 v hv).1
  have v1 := (netR_val h hr a).2
  have v2 := (netR_val hm2 hr2 a).2
  rw [baseV_set hI ha] at v1 v2
  have hxe := edgesB_true.1 hx x (by simp)
  have hroom := (mayA_parts hm).1
  refine ⟨A, x, gs2, o2, evalA (netI P) A x a, hr, ht, hr2, redB_iff.2 ⟨hm, hred⟩, hm2, hA, by omega, ?_, ?_, ?_⟩
  · unfold evalN okN
    rw [h, ha, v1, if_pos (by decide)]
    rfl
  · unfold evalC
    rw [if_pos ⟨by unfold hasA; rw [hm, hx]; rfl, ha⟩]
  · unfold evalN okN
    rw [hm2, ha, v2, if_pos (by decide)]
    rfl
end Go.Proofs.YtfghjfljomcldaaGreat
