/- Sorted lists of lists, without the program. -/
import Derived.Test.YtnedpngadfkmiaaDoorCmp2
import Derived.Test.YtnedpngadfkmiaaDoorCnf
import Derived.Test.YtnedpngadfkmiaaDoorSorted
namespace Go.Proofs.YtnedpngadfkmiaaDoor
open Go.RowKit
set_option linter.unusedVariables false

def lxLt (a b : List Int) : Prop := cmpL a b < 0
instance (a b : List Int) : Decidable (lxLt a b) := by unfold lxLt; infer_instance

theorem cmpL_swap (a b : List Int) : cmpL b a = - cmpL a b := by
  induction a generalizing b with
  | nil => cases b <;> rfl
  | cons x r ih =>
    cases b with
    | nil => rfl
    | cons y s =>
      rw [cmpL, cmpL]
      rcases litLt_tri x y with h | h | h
      · rw [if_neg (litLt_asymm h), if_pos h, if_pos h]; rfl
      · subst h; rw [if_neg (litLt_irrefl x), if_neg (litLt_irrefl x), ih]; simp [litLt_irrefl]
      · rw [if_pos h, if_neg (litLt_asymm h), if_pos h]
theorem cmpL_bd (a b : List Int) : -1 ≤ cmpL a b ∧ cmpL a b ≤ 1 := by
  rw [← cmpB_eq]
  unfold cmpB cmpLen
  have := placesL_bd a b
  have := cmpI_bd (a.length : Int) (b.length : Int)
  split <;> omega
theorem cmpL_zero (a b : List Int) : cmpL a b = 0 ↔ a = b := by
  induction a generalizing b with
  | nil => cases b <;> simp [cmpL]
  | cons x r ih =>
    cases b with
    | nil => simp [cmpL]
    | cons y s =>
      rw [cmpL]
      rcases litLt_tri x y with h | h | h
      · rw [if_pos h]
        constructor
        · intro e; exact absurd e (by decide)
        · intro e; injection e with e1 e2; subst e1; exact absurd h (litLt_irrefl _)
      · subst h; rw [if_neg (litLt_irrefl x), if_neg (litLt_irrefl x), ih]; simp
      · rw [if_neg (litLt_asymm h), if_pos h]
        constructor
        · intro e; exact absurd e (by decide)
        · intro e; injection e with e1 e2; subst e1; exact absurd h (litLt_irrefl _)
theorem lxLt_irrefl (a : List Int) : ¬ lxLt a a := by unfold lxLt; rw [(cmpL_zero a a).2 rfl]; omega
theorem lxLt_trans {a b c : List Int} (h : lxLt a b) (k : lxLt b c) : lxLt a c := by
  unfold lxLt at *
  induction a generalizing b c with
  | nil =>
    cases b with
    | nil => simp [cmpL] at h
    | cons y s =>
      cases c with
      | nil => simp [cmpL] at k
      | cons z t => simp [cmpL]
  | cons x r ih =>
    cases b with
    | nil => simp [cmpL] at h
    | cons y s =>
      cases c with
      | nil => simp [cmpL] at k
      | cons z t =>
        rw [cmpL] at h k ⊢
        rcases litLt_tri x y with h1 | h1 | h1
        · rcases litLt_tri y z with h2 | h2 | h2
          · rw [if_pos (litLt_trans h1 h2)]; omega
          · subst h2; rw [if_pos h1]; omega
          · rw [if_neg (litLt_asymm h2), if_pos h2] at k; omega
        · subst h1
          rw [if_neg (litLt_irrefl x), if_neg (litLt_irrefl x)] at h
          rcases litLt_tri x z with h2 | h2 | h2
          · rw [if_pos h2]; omega
          · subst h2
            rw [if_neg (litLt_irrefl x), if_neg (litLt_irrefl x)] at k ⊢
            exact ih h k
          · rw [if_neg (litLt_asymm h2), if_pos h2] at k; omega
        · rw [if_neg (litLt_asymm h1), if_pos h1] at h; omega
theorem lxLt_tri (a b : List Int) : lxLt a b ∨ a = b ∨ lxLt b a := by
  unfold lxLt
  rw [cmpL_swap a b]
  have := cmpL_zero a b
  rcases Int.lt_trichotomy (cmpL a b) 0 with h | h | h
  · exact .inl h
  · exact .inr (.inl (this.1 h))
  · exact .inr (.inr (by omega))
theorem lxLt_asymm {x y : List Int} (h : lxLt x y) : ¬ lxLt y x := fun k => lxLt_irrefl x (lxLt_trans h k)

def insX : List (List Int) → List Int → List (List Int)
  | [], x => [x]
  | y :: r, x => if lxLt y x then y :: insX r x else if y = x then y :: r else x :: y :: r

theorem insX_lt {l : List (List Int)} {x : List Int} {k : Nat} (h : k < l.length) (hlt : lxLt (l.getD k []) x) : l.take k ++ insX (l.drop k) x = l.take (k + 1) ++ insX (l.drop (k + 1)) x := by
  have e : l.take (k + 1) = l.take k ++ [l.getD k []] := by rw [List.take_succ_eq_append_getElem h]; simp [List.getD, h]
  have e2 : l.drop k = l.getD k [] :: l.drop (k + 1) := by rw [List.drop_eq_getElem_cons h]; simp [List.getD, h]
  rw [e2, insX, if_pos hlt, e, List.append_assoc]; rfl

theorem insX_at {l : List (List Int)} {x : List Int} {k : Nat} (h : k < l.length) (h1 : ¬ lxLt (l.getD k []) x) (h2 : ¬ l.getD k [] = x) : insX (l.drop k) x = x :: l.drop k := by
  have e2 : l.drop k = l.getD k [] :: l.drop (k + 1) := by rw [List.drop_eq_getElem_cons h]; simp [List.getD, h]
  rw [e2, insX, if_neg h1, if_neg h2]
theorem insX_is {l : List (List Int)} {x : List Int} {k : Nat} (h : k < l.length) (h1 : ¬ lxLt (l.getD k []) x) (h2 : l.getD k [] = x) : l.take k ++ insX (l.drop k) x = l := by
  have e2 : l.drop k = l.getD k [] :: l.drop (k + 1) := by rw [List.drop_eq_getElem_cons h]; simp [List.getD, h]
  rw [e2, insX, if_neg h1, if_pos h2, ← e2, List.take_append_drop]

def sortX (l : List (List Int)) : List (List Int) := l.foldl insX []
theorem insX_mem (l : List (List Int)) (x y : List Int) : y ∈ insX l x ↔ y = x ∨ y ∈ l := by
  induction l with
  | nil => simp [insX]
  | cons z r ih =>
    unfold insX
    by_cases h : lxLt z x
    · rw [if_pos h]; simp only [List.mem_cons, ih]
      constructor
      · rintro (h | h | h) <;> simp [h]
      · rintro (h | h | h) <;> simp [h]
    · rw [if_neg h]
      by_cases e : z = x
      · rw [if_pos e]; subst e; simp
      · rw [if_neg e]; simp

theorem insX_sorted {l : List (List Int)} (h : l.Pairwise lxLt) (x : List Int) : (insX l x).Pairwise lxLt := by
  induction l with
  | nil => simp [insX]
  | cons z r ih =>
    rw [List.pairwise_cons] at h
    unfold insX
    by_cases h1 : lxLt z x
    · rw [if_pos h1, List.pairwise_cons]
      refine ⟨fun y hy => ?_, ih h.2⟩
      rcases (insX_mem r x y).1 hy with rfl | hy
      · exact h1
      · exact h.1 y hy
    · rw [if_neg h1]
      by_cases e : z = x
      · rw [if_pos e, List.pairwise_cons]; exact h
      · rw [if_neg e, List.pairwise_cons, List.pairwise_cons]
        have hx : lxLt x z := by rcases lxLt_tri z x with h | h | h; exact absurd h h1; exact absurd h e; exact h
        refine ⟨fun y hy => ?_, h⟩
        rcases List.mem_cons.1 hy with rfl | hy
        · exact hx
        · exact lxLt_trans hx (h.1 y hy)

theorem foldl_insX_sorted (l acc : List (List Int)) (h : acc.Pairwise lxLt) : (l.foldl insX acc).Pairwise lxLt := by
  induction l generalizing acc with
  | nil => exact h
  | cons y r ih => exact ih _ (insX_sorted h y)
theorem foldl_insX_mem (l acc : List (List Int)) (x : List Int) : x ∈ l.foldl insX acc ↔ x ∈ acc ∨ x ∈ l := by
  induction l generalizing acc with
  | nil => simp
  | cons y r ih =>
    rw [List.foldl_cons, ih, insX_mem]; simp only [List.mem_cons]
    constructor
    · rintro ((h | h) | h) <;> simp [h]
    · rintro (h | h | h) <;> simp [h]
theorem sortX_sorted (l : List (List Int)) : (sortX l).Pairwise lxLt := foldl_insX_sorted l [] List.Pairwise.nil
theorem sortX_mem (l : List (List Int)) (x : List Int) : x ∈ sortX l ↔ x ∈ l := by unfold sortX; rw [foldl_insX_mem]; simp

/-- Two lists in strict order with the same elements are one. -/
theorem sortedX_unique {a b : List (List Int)} (ha : a.Pairwise lxLt) (hb : b.Pairwise lxLt) (h : ∀ x, x ∈ a ↔ x ∈ b) : a = b := by
  induction a generalizing b with
  | nil =>
    cases b with
    | nil => rfl
    | cons y s => exact absurd ((h y).2 (by simp)) (by simp)
  | cons x r ih =>
    cases b with
    | nil => exact absurd ((h x).1 (by simp)) (by simp)
    | cons y s =>
      rw [List.pairwise_cons] at ha hb
      have hxy : x = y := by
        rcases List.mem_cons.1 ((h x).1 (by simp)) with e | hx
        · exact e
        · rcases List.mem_cons.1 ((h y).2 (by simp)) with e | hy
          · exact e.symm
          · exact absurd (ha.1 y hy) (lxLt_asymm (hb.1 x hx))
      subst hxy
      have : r = s := by
        apply ih ha.2 hb.2
        intro z
        constructor
        · intro hz
          rcases List.mem_cons.1 ((h z).1 (List.mem_cons_of_mem _ hz)) with e | h'
          · subst e; exact absurd (ha.1 _ hz) (lxLt_irrefl _)
          · exact h'
        · intro hz
          rcases List.mem_cons.1 ((h z).2 (List.mem_cons_of_mem _ hz)) with e | h'
          · subst e; exact absurd (hb.1 _ hz) (lxLt_irrefl _)
          · exact h'
      rw [this]


/-- The first k of a row, each once, when equal ones are neighbours. -/
def firstsX (s : List (List Int)) : Nat → List (List Int)
  | 0 => []
  | k + 1 => if 0 < k ∧ s.getD (k - 1) [] = s.getD k [] then firstsX s k else firstsX s k ++ [s.getD k []]

theorem firstsX_len (s : List (List Int)) (k : Nat) : (firstsX s k).length ≤ k := by
  induction k with
  | zero => simp [firstsX]
  | succ k ih =>
    unfold firstsX
    split
    · omega
    · rw [List.length_append, List.length_singleton]; omega
theorem firstsX_mem (s : List (List Int)) (k : Nat) (hk : k ≤ s.length) (x : List Int) : x ∈ firstsX s k ↔ x ∈ s.take k := by
  induction k with
  | zero => simp [firstsX]
  | succ k ih =>
    have hlt : k < s.length := by omega
    rw [rows_take_succ hlt, List.mem_append, List.mem_singleton, firstsX]
    split
    · rename_i h
      rw [ih (by omega)]
      constructor
      · exact .inl
      · rintro (h1 | rfl)
        · exact h1
        · rw [← h.2]
          have : k - 1 < s.length := by omega
          have h2 : s.getD (k - 1) [] = s[k - 1] := by simp [List.getD, this]
          rw [h2]
          exact List.mem_take_iff_getElem.2 ⟨k - 1, by omega, rfl⟩
    · rw [List.mem_append, List.mem_singleton, ih (by omega)]
theorem firstsX_sorted (s : List (List Int)) (hs : ∀ i j, i < j → j < s.length → ¬ lxLt (s.getD j []) (s.getD i [])) (k : Nat) (hk : k ≤ s.length) : (firstsX s k).Pairwise lxLt := by
  induction k with
  | zero => simp [firstsX]
  | succ k ih =>
    rw [firstsX]
    split
    · exact ih (by omega)
    · rename_i h
      rw [List.pairwise_append]
      refine ⟨ih (by omega), by simp, fun x hx y hy => ?_⟩
      rw [List.mem_singleton] at hy
      subst hy
      rw [firstsX_mem s k (by omega)] at hx
      obtain ⟨i, hi, rfl⟩ := List.mem_take_iff_getElem.1 hx
      have hi1 : i < k := by omega
      have hil : i < s.length := by omega
      have e0 : s[i] = s.getD i [] := by simp [List.getD, hil]
      rw [e0]
      rcases lxLt_tri (s.getD i []) (s.getD k []) with h1 | h1 | h1
      · exact h1
      · exfalso
        have hk1 : 0 < k := by omega
        rcases lxLt_tri (s.getD (k - 1) []) (s.getD k []) with h2 | h2 | h2
        · rw [← h1] at h2
          by_cases hik : i = k - 1
          · subst hik; exact lxLt_irrefl _ h2
          · exact hs i (k - 1) (by omega) (by omega) h2
        · exact h ⟨hk1, h2⟩
        · exact hs (k - 1) k (by omega) (by omega) h2
      · exact absurd h1 (hs i k hi1 (by omega))

/-- What the library's sort and the walk over its result leave is the reference's insertion. -/
theorem firstsX_sortX {f s : List (List Int)} (hp : s.Perm f) (hs : ∀ i j, i < j → j < s.length → ¬ lxLt (s.getD j []) (s.getD i [])) : firstsX s s.length = sortX f := by
  refine sortedX_unique (firstsX_sorted s hs _ (Nat.le_refl _)) (sortX_sorted f) (fun x => ?_)
  rw [firstsX_mem s _ (Nat.le_refl _), List.take_of_length_le (Nat.le_refl _), sortX_mem]
  exact hp.mem_iff

end Go.Proofs.YtnedpngadfkmiaaDoor
