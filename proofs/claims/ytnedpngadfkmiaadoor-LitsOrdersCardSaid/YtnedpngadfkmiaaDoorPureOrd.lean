/- LitsOrders, without the program. -/
import Derived.Test.YtnedpngadfkmiaaDoorManyLib
namespace Go.Proofs.YtnedpngadfkmiaaDoor
open Go.RowKit
set_option linter.unusedVariables false

theorem OwnR.sliceOf {w : World} {B : Nat} {v : Value} {us : List Value} (h : OwnR w B v us) : ∃ A c, v = .slice A us.length c := by
  rcases h.shape with ⟨rfl, rfl⟩ | ⟨g, c, rfl, _, _⟩
  · exact ⟨none, 0, rfl⟩
  · exact ⟨_, c, rfl⟩
theorem OwnR.someOf {w : World} {B n c : Nat} {A : Option Addr} {us : List Value} (h : OwnR w B (.slice A n c) us) {j : Nat} (hj : j < us.length) : ∃ g, A = some ⟨g, 0, none⟩ := by
  rcases h.shape with ⟨_, e2⟩ | ⟨g, c, e, _, _⟩
  · rw [e2] at hj; exact absurd hj (Nat.not_lt_zero _)
  · injection e with e1; exact ⟨g, e1⟩

theorem tot_le_mul {F : List (List Int)} {b : Nat} (h : ∀ l ∈ F, l.length ≤ b) : tot F ≤ F.length * b := by
  induction F with
  | nil => simp [tot]
  | cons x r ih =>
    have h1 := ih (fun l hl => h l (List.mem_cons_of_mem _ hl))
    have h2 := h x (by simp)
    unfold tot at *
    simp only [List.map_cons, List.sum_cons, List.length_cons]
    rw [Nat.add_mul]
    omega
theorem sortL_mem {F : List (List Int)} (h : mayCnfB F = true) (x : List Int) : x ∈ sortL F ↔ x ∈ F := by
  unfold sortL; rw [if_pos h, sortX_mem]
theorem sortL_sorted (F : List (List Int)) : (sortL F).Pairwise lxLt := by
  unfold sortL
  split
  · exact sortX_sorted F
  · exact List.Pairwise.nil
theorem sortL_again {F : List (List Int)} (h : mayCnfB F = true) (hl : F.length ≤ 4) (hb : ∀ l ∈ F, l.length ≤ 200) : sortL (sortL F) = sortL F := by
  have hm : mayCnfB (sortL F) = true := by
    have h1 := sortL_len F
    have h2 := tot_le_mul (F := sortL F) (b := 200) (fun l hl => hb l ((sortL_mem h l).1 hl))
    have h3 := h
    unfold mayCnfB at h3 ⊢
    rw [decide_eq_true_eq] at h3 ⊢
    refine ⟨by omega, ?_, fun l hl => h3.2.2 l ((sortL_mem h l).1 hl)⟩
    have : (sortL F).length * 200 ≤ 4 * 200 := Nat.mul_le_mul_right _ (by omega)
    omega
  exact sortedX_unique (sortL_sorted _) (sortL_sorted F) (fun x => sortL_mem hm x)
theorem sortL_step {F : List (List Int)} {j : Nat} (h : j + 1 < (sortL F).length) : cmpB ((sortL F).getD j []) ((sortL F).getD (j + 1) []) < 0 := by
  have := List.pairwise_iff_getElem.1 (sortL_sorted F) j (j + 1) (by omega) h (by omega)
  have hjl : j < (sortL F).length := by omega
  have e1 : (sortL F).getD j [] = (sortL F)[j] := by simp [List.getD, hjl]
  have e2 : (sortL F).getD (j + 1) [] = (sortL F)[j + 1] := by simp [List.getD, h]
  rw [e1, e2, cmpB_eq]
  exact this

/-- Three lists: what their order is. -/
theorem ord_cases (l m s : List Int) :
    cmpB m l = -cmpB l m ∧ (cmpB l m = 0 → sameB l m = true) ∧ (cmpB l m ≠ 0 → sameB l m = false) ∧ (cmpB l m ≤ 0 → cmpB m s ≤ 0 → cmpB l s ≤ 0) ∧ (cmpB l m < 0 → cmpB m s ≤ 0 → cmpB l s < 0) := by
  simp only [cmpB_eq]
  have hz := cmpL_zero l m
  have hz2 := cmpL_zero m s
  refine ⟨cmpL_swap l m, fun h => ?_, fun h => ?_, fun h1 h2 => ?_, fun h1 h2 => ?_⟩
  · unfold sameB; rw [decide_eq_true_eq]; exact hz.1 h
  · unfold sameB; rw [decide_eq_false_iff_not]; exact fun e => h (hz.2 e)
  · rcases Int.lt_or_eq_of_le h1 with a | a
    · rcases Int.lt_or_eq_of_le h2 with b | b
      · exact Int.le_of_lt (lxLt_trans (show lxLt l m from a) (show lxLt m s from b))
      · rw [← hz2.1 b]; omega
    · rw [hz.1 a]; exact h2
  · rcases Int.lt_or_eq_of_le h2 with b | b
    · exact lxLt_trans (show lxLt l m from h1) (show lxLt m s from b)
    · rw [← hz2.1 b]; exact h1

end Go.Proofs.YtnedpngadfkmiaaDoor
