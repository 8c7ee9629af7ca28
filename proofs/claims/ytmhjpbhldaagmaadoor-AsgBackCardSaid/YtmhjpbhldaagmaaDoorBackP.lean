/- Points and their numbers are inverse, reckoned. -/
import Derived.Test.YtmhjpbhldaagmaaDoorMgI
namespace Go.Proofs.YtmhjpbhldaagmaaDoor
open Go.RowKit
set_option linter.unusedVariables false

theorem mayFrom_vars {p : Int} {l m : List Int} (h : l.map varOf = m.map varOf) : mayFrom p l = mayFrom p m := by
  induction l generalizing p m with
  | nil => cases m with
    | nil => rfl
    | cons y r => simp at h
  | cons x r ih =>
    cases m with
    | nil => simp at h
    | cons y s =>
      simp only [List.map_cons, List.cons.injEq] at h
      unfold mayFrom
      rw [h.1, ih h.2]
theorem ptL_getD {vs : List Int} {n i : Nat} (h : i < vs.length) : (ptL vs n).getD i 0 = ptAt vs n i := by unfold ptL; simp [List.getD, h]
theorem ptAt_or (vs : List Int) (n i : Nat) : ptAt vs n i = vs.getD i 0 ∨ ptAt vs n i = -(vs.getD i 0) := by
  unfold ptAt
  split
  · exact .inl rfl
  · exact .inr rfl
theorem ptL_may {vs : List Int} (n : Nat) (h : mayB vs = true) : mayB (ptL vs n) = true := by
  unfold mayB at *
  rw [mayFrom_vars (m := vs)]
  · exact h
  · refine List.ext_getElem (by simp [ptL_len]) fun i h1 h2 => ?_
    have hi : i < vs.length := by simpa using h2
    have e1 : (ptL vs n)[i]'(by rw [ptL_len]; exact hi) = ptAt vs n i := by
      have := ptL_getD (n := n) hi
      rw [← this]
      simp [List.getD, ptL_len, hi]
    have e2 : vs[i] = vs.getD i 0 := by simp [List.getD, hi]
    rw [List.getElem_map, List.getElem_map, e1, e2]
    rcases ptAt_or vs n i with e | e
    · rw [e]
    · rw [e, varOf_neg']
theorem ptL_fits (vs : List Int) (n : Nat) : fits vs (ptL vs n) = true := by
  unfold fits
  rw [decide_eq_true_eq]
  refine ⟨ptL_len vs n, fun i hi => ?_⟩
  rw [ptL_getD hi]
  exact ptAt_or vs n i
theorem numK_ptL {vs : List Int} (hm : manyB vs = true) (n : Nat) : ∀ k, k ≤ vs.length → numK vs (ptL vs n) k = n % 2 ^ k := by
  obtain ⟨_, hmv, hpos⟩ := manyB_parts hm
  intro k hk
  induction k with
  | zero => simp [numK, Nat.mod_one]
  | succ k ih =>
    have hlt : k < vs.length := by omega
    have h3 := litB_bd (mayB_mem hmv _ (getD_mem hlt))
    unfold numK
    rw [ih (by omega), ptL_getD hlt, Nat.mod_pow_succ]
    have hb : n / 2 ^ k % 2 = 0 ∨ n / 2 ^ k % 2 = 1 := by omega
    unfold ptAt
    have hne : -(vs.getD k 0) ≠ vs.getD k 0 := by omega
    rcases hb with e | e
    · rw [e]
      simp only [show ¬ ((0 : Nat) = 1) from by decide, if_false, hne]
      simp
    · rw [e]
      simp only [if_true]
      simp
theorem bit_numK {vs a : List Int} : ∀ k i, i < k → numK vs a k / 2 ^ i % 2 = if a.getD i 0 = vs.getD i 0 then 1 else 0 := by
  intro k
  induction k with
  | zero => intro i h; omega
  | succ k ih =>
    intro i h
    unfold numK
    have hlt := numK_lt vs a k
    by_cases e : i = k
    · subst e
      by_cases hb : a.getD i 0 = vs.getD i 0
      · rw [if_pos hb, if_pos hb, Nat.add_div_right _ (Nat.two_pow_pos i), Nat.div_eq_of_lt hlt]
      · rw [if_neg hb, if_neg hb, Nat.add_zero, Nat.div_eq_of_lt hlt]
    · have hik : i < k := by omega
      rw [← ih i hik]
      by_cases hb : a.getD k 0 = vs.getD k 0
      · rw [if_pos hb]
        have : 2 ^ k = 2 ^ i * (2 * 2 ^ (k - i - 1)) := by
          rw [← Nat.pow_succ', ← Nat.pow_add]
          congr 1
          omega
        rw [this, Nat.add_mul_div_left _ _ (Nat.two_pow_pos i), Nat.add_mul_mod_self_left]
      · rw [if_neg hb, Nat.add_zero]
theorem ptL_numK {vs a : List Int} (hf : fits vs a = true) : ptL vs (numK vs a vs.length) = a := by
  unfold fits at hf
  rw [decide_eq_true_eq] at hf
  refine List.ext_getElem (by rw [ptL_len, hf.1]) fun i h1 h2 => ?_
  have hi : i < vs.length := by rw [ptL_len] at h1; exact h1
  have e1 : (ptL vs (numK vs a vs.length))[i]'h1 = ptAt vs (numK vs a vs.length) i := by
    rw [← ptL_getD hi]
    simp [List.getD, ptL_len, hi]
  have e2 : a.getD i 0 = a[i] := by simp [List.getD, h2]
  rw [e1]
  unfold ptAt
  rw [bit_numK vs.length i hi, ← e2]
  by_cases hb : a.getD i 0 = vs.getD i 0
  · rw [if_pos hb, if_pos rfl, hb]
  · rw [if_neg hb, if_neg (by decide)]
    rcases hf.2 i hi with h | h
    · exact absurd h hb
    · exact h.symm

/-- The number of a point, and the point of a number. -/
theorem number_point {vs P : List Int} {n : Nat} (h : pointL vs n = (P, 0)) : numberL vs P = (n, 0) ∧ manyB vs = true ∧ mayB P = true ∧ fits vs P = true := by
  unfold pointL at h
  split at h
  · rename_i hm
    split at h
    · rename_i hz
      obtain rfl := (Prod.mk.inj h).1
      obtain ⟨_, hmv, _⟩ := manyB_parts hm
      have h1 := ptL_may n hmv
      refine ⟨?_, hm, h1, ptL_fits vs n⟩
      unfold numberL
      rw [hm, h1, Bool.and_self, if_pos rfl, if_pos (ptL_fits vs n), numK_ptL hm n _ (Nat.le_refl _)]
      have : n < 2 ^ vs.length := by
        rcases Nat.div_eq_zero_iff.1 hz with h | h
        · have := Nat.two_pow_pos vs.length; omega
        · exact h
      rw [Nat.mod_eq_of_lt this]
    · have := (Prod.mk.inj h).2; omega
  · have := (Prod.mk.inj h).2; omega
theorem point_none {vs P : List Int} {n : Nat} {c : Int} (h : pointL vs n = (P, c)) (hc : c ≠ 0) : P = [] := by
  unfold pointL at h
  split at h
  · split at h
    · exact absurd (Prod.mk.inj h).2.symm hc
    · exact (Prod.mk.inj h).1.symm
  · exact (Prod.mk.inj h).1.symm
theorem point_number {vs a : List Int} {k : Nat} (h : numberL vs a = (k, 0)) : pointL vs k = (a, 0) ∧ k < 2 ^ vs.length := by
  unfold numberL at h
  split at h
  · rename_i hm
    rw [Bool.and_eq_true] at hm
    split at h
    · rename_i hf
      obtain rfl := (Prod.mk.inj h).1
      have hlt := numK_lt vs a vs.length
      refine ⟨?_, hlt⟩
      unfold pointL
      rw [if_pos hm.1, if_pos (Nat.div_eq_of_lt hlt), ptL_numK hf]
    · have := (Prod.mk.inj h).2; omega
  · have := (Prod.mk.inj h).2; omega
theorem number_none {vs a : List Int} {k : Nat} {c : Int} (h : numberL vs a = (k, c)) (hc : c ≠ 0) : k = 0 := by
  unfold numberL at h
  split at h
  · split at h
    · exact absurd (Prod.mk.inj h).2.symm hc
    · exact (Prod.mk.inj h).1.symm
  · exact (Prod.mk.inj h).1.symm

end Go.Proofs.YtmhjpbhldaagmaaDoor
