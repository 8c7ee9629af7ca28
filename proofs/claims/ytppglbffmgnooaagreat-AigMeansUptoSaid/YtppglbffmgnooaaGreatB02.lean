/- Joined texts: AgJoinP, AgRCompP, AgCompM. -/
import Derived.Test.YtppglbffmgnooaaGreatB05
import Derived.Test.YtppglbffmgnooaaGreatA01
import Derived.Test.YtppglbffmgnooaaGreatB11
import Derived.Test.YtppglbffmgnooaaGreatA09
/- Pure: what the reference's Join makes is what aig.Join makes. -/
namespace Go.Proofs.YtppglbffmgnooaaGreat
set_option linter.unusedVariables false
set_option linter.unusedSimpArgs false

end Go.Proofs.YtppglbffmgnooaaGreat

/- Pure: what the reference's Compose makes is what aig.Compose makes. -/
namespace Go.Proofs.YtppglbffmgnooaaGreat
set_option linter.unusedVariables false
set_option linter.unusedSimpArgs false

theorem puts_ok {n : Nat} {B : List Pr} (he : edgesB (B.map (·.2)) n = true) (hd : ∀ k, k < B.length → (B.getD k dPr).1 ∉ (B.take k).map (·.1)) : ∀ k, k ≤ B.length → ∃ f, putsA n (B.take k) = some f ∧ ∀ v, (f v).isSome = true → v ∈ (B.take k).map (·.1)
  | 0, _ => ⟨_, rfl, fun v hv => by cases hv⟩
  | k + 1, hk => by
    obtain ⟨f, h1, h2⟩ := puts_ok he hd k (by omega)
    have hlt : k < B.length := hk
    have hb : B.getD k dPr ∈ B := by simp [List.getD, hlt]
    have hi : isE (B.getD k dPr).2 n = true := isE_true.2 (edgesB_true.1 he _ (List.mem_map.2 ⟨_, hb, rfl⟩))
    refine ⟨updM f (B.getD k dPr).1 (B.getD k dPr).2, ?_, fun v hv => ?_⟩
    · rw [puts_succ hlt h1]
      exact if_neg (by rintro (h | h); exact hd k hlt (h2 _ h); rw [hi] at h; cases h)
    · rw [take_prS hlt, List.map_append]
      unfold updM at hv
      split at hv
      · rename_i e
        exact List.mem_append_right _ (by rw [e]; simp)
      · exact List.mem_append_left _ (h2 v hv)
end Go.Proofs.YtppglbffmgnooaaGreat

/- Pure: what Compose and Join hand back is of bounded length and range. -/
namespace Go.Proofs.YtppglbffmgnooaaGreat
set_option linter.unusedVariables false
set_option linter.unusedSimpArgs false

/-- What Compose makes is valid, where it is made. -/
theorem comp_made {I : List Int} {A : List Pr} {l : List Int} {B : List Pr} {f : Int → Option Int} (hf : putsA (1 + I.length + A.length) B = some f) (hl : hasA I A l = true) :
    ((∀ v, isE (orA (zipF B (comp1 I A B).1 f) (inpA I) v) (1 + I.length + (comp1 I A B).2.1.length) = true) ∧ MOk (1 + I.length) (comp1 I A B).2) ∧ MOk (1 + I.length) (comp2 I A l B f).2 ∧ (∀ x ∈ (comp2 I A l B f).1, isE x (1 + I.length + (comp2 I A l B f).2.1.length) = true) ∧ (comp2 I A l B f).1.length = l.length := by
  obtain ⟨hm, ok, le⟩ := hasA_parts hl
  have hr := (mayA_parts hm).1
  have d1 := copyA_made (k := 1 + I.length) (I := I) (A := A) (img := inpA I) (l := B.map (·.2)) (s := ([], false)) (by omega) ⟨rfl, by simp; omega⟩ ok (fun v _ => by have := inpA_isE I v; simpa using this) (puts_edges hf)
  have hi : ∀ v, isE (orA (zipF B (comp1 I A B).1 f) (inpA I) v) (1 + I.length + (comp1 I A B).2.1.length) = true := fun v => by
    unfold orA
    cases e : zipF B (comp1 I A B).1 f v with
    | none => exact isE_mono (inpA_isE I v) (by omega)
    | some y =>
      have hy := zip_img hf (by rw [show (comp1 I A B).1.length = (B.map (·.2)).length from d1.2.2.2.2, List.length_map]) e
      exact d1.2.2.1 y hy
  have d2 := copyA_made (k := 1 + I.length) (I := I) (A := A) (img := orA (zipF B (comp1 I A B).1 f) (inpA I)) (l := l) (s := (comp1 I A B).2) (by omega) d1.2.1 ok (fun v _ => hi v) le
  exact ⟨⟨hi, d1.2.1⟩, d2.2.1, d2.2.2.1, d2.2.2.2.2⟩
end Go.Proofs.YtppglbffmgnooaaGreat
