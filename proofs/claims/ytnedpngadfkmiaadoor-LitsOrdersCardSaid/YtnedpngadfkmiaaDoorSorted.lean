/- Sorted lists of integers: what the library's sort and compaction leave is the reference's insertion. -/
import Derived.Test.YtnedpngadfkmiaaDoorCmp2
import Derived.Lib.SlicesCompact
import Derived.Lib.OwnBridge
import Derived.Shelf.SlSortCmp.Whole1
namespace Go.Proofs.YtnedpngadfkmiaaDoor
open Go.RowKit Go.Shelf Go.Sort
set_option linter.unusedVariables false

theorem litLt_irrefl (x : Int) : ¬ litLt x x := by unfold litLt; omega
theorem litLt_trans {x y z : Int} (h : litLt x y) (k : litLt y z) : litLt x z := by unfold litLt at *; omega
theorem litLt_tri (x y : Int) : litLt x y ∨ x = y ∨ litLt y x := by
  unfold litLt absOf; split <;> split <;> omega
theorem litLt_asymm {x y : Int} (h : litLt x y) : ¬ litLt y x := fun k => litLt_irrefl x (litLt_trans h k)

theorem insL_mem (l : List Int) (x y : Int) : y ∈ insL l x ↔ y = x ∨ y ∈ l := by
  induction l with
  | nil => simp [insL]
  | cons z r ih =>
    unfold insL
    by_cases h : litLt z x
    · rw [if_pos h]; simp only [List.mem_cons, ih]
      constructor
      · rintro (h | h | h) <;> simp [h]
      · rintro (h | h | h) <;> simp [h]
    · rw [if_neg h]
      by_cases e : z = x
      · rw [if_pos e]; subst e; simp
      · rw [if_neg e]; simp

theorem insL_sorted {l : List Int} (h : l.Pairwise litLt) (x : Int) : (insL l x).Pairwise litLt := by
  induction l with
  | nil => simp [insL]
  | cons z r ih =>
    rw [List.pairwise_cons] at h
    unfold insL
    by_cases h1 : litLt z x
    · rw [if_pos h1, List.pairwise_cons]
      refine ⟨fun y hy => ?_, ih h.2⟩
      rcases (insL_mem r x y).1 hy with rfl | hy
      · exact h1
      · exact h.1 y hy
    · rw [if_neg h1]
      by_cases e : z = x
      · rw [if_pos e, List.pairwise_cons]; exact h
      · rw [if_neg e, List.pairwise_cons, List.pairwise_cons]
        have hx : litLt x z := by rcases litLt_tri z x with h | h | h; exact absurd h h1; exact absurd h e; exact h
        refine ⟨fun y hy => ?_, h⟩
        rcases List.mem_cons.1 hy with rfl | hy
        · exact hx
        · exact litLt_trans hx (h.1 y hy)

theorem foldl_insL_sorted (l acc : List Int) (h : acc.Pairwise litLt) : (l.foldl insL acc).Pairwise litLt := by
  induction l generalizing acc with
  | nil => exact h
  | cons y r ih => exact ih _ (insL_sorted h y)
theorem foldl_insL_mem (l acc : List Int) (x : Int) : x ∈ l.foldl insL acc ↔ x ∈ acc ∨ x ∈ l := by
  induction l generalizing acc with
  | nil => simp
  | cons y r ih =>
    rw [List.foldl_cons, ih, insL_mem]; simp only [List.mem_cons]
    constructor
    · rintro ((h | h) | h) <;> simp [h]
    · rintro (h | h | h) <;> simp [h]
theorem sortI_sorted (l : List Int) : (sortI l).Pairwise litLt := foldl_insL_sorted l [] List.Pairwise.nil
theorem sortI_mem (l : List Int) (x : Int) : x ∈ sortI l ↔ x ∈ l := by unfold sortI; rw [foldl_insL_mem]; simp

/-- Two lists in strict order with the same elements are one. -/
theorem sorted_unique {a b : List Int} (ha : a.Pairwise litLt) (hb : b.Pairwise litLt) (h : ∀ x, x ∈ a ↔ x ∈ b) : a = b := by
  induction a generalizing b with
  | nil =>
    cases b with
    | nil => rfl
    | cons y s => exact absurd ((h y).2 (by simp)) (by simp)
  | cons x r ih =>
    cases b with
    | nil => exact absurd ((h x).1 (by simp)) (by simp)
    | cons y s =>
      rw [List.pairwise_cons] at ha hb
      have hxy : x = y := by
        rcases List.mem_cons.1 ((h x).1 (by simp)) with e | hx
        · exact e
        · rcases List.mem_cons.1 ((h y).2 (by simp)) with e | hy
          · exact e.symm
          · exact absurd (ha.1 y hy) (litLt_asymm (hb.1 x hx))
      subst hxy
      have : r = s := by
        apply ih ha.2 hb.2
        intro z
        constructor
        · intro hz
          rcases List.mem_cons.1 ((h z).1 (List.mem_cons_of_mem _ hz)) with e | h'
          · subst e; exact absurd (ha.1 _ hz) (litLt_irrefl _)
          · exact h'
        · intro hz
          rcases List.mem_cons.1 ((h z).2 (List.mem_cons_of_mem _ hz)) with e | h'
          · subst e; exact absurd (hb.1 _ hz) (litLt_irrefl _)
          · exact h'
      rw [this]

open Go.Lib in
/-- Compaction of an ascending array: strict, with the same elements. -/
theorem compact_sorted (d : Array Int) (hs : ∀ i j, i < j → j < d.size → ¬ litLt d[j]! d[i]!) (m : Nat) (hm : m ≤ d.size) :
    (compactUpTo d m).Pairwise litLt ∧ (∀ x, x ∈ compactUpTo d m ↔ ∃ j, j < m ∧ d[j]! = x) := by
  induction m with
  | zero => simp [compactUpTo]
  | succ m ih =>
    obtain ⟨h1, h2⟩ := ih (by omega)
    rw [compactUpTo_succ]
    by_cases hk : keeps d m = true
    · rw [if_pos hk]
      refine ⟨?_, fun x => ?_⟩
      · rw [List.pairwise_append]
        refine ⟨h1, by simp, fun a ha b hb => ?_⟩
        rw [List.mem_singleton] at hb
        subst hb
        obtain ⟨j, hj, rfl⟩ := (h2 a).1 ha
        have hne : d[m - 1]! ≠ d[m]! := by
          intro e
          rw [keeps_neg (by omega) e.symm] at hk
          cases hk
        have hlt : litLt d[m - 1]! d[m]! := by
          rcases litLt_tri d[m - 1]! d[m]! with h | h | h
          · exact h
          · exact absurd h hne
          · exact absurd h (hs (m - 1) m (by omega) (by omega))
        by_cases e : j = m - 1
        · subst e; exact hlt
        · rcases litLt_tri d[j]! d[m - 1]! with h | h | h
          · exact litLt_trans h hlt
          · rw [h]; exact hlt
          · exact absurd h (hs j (m - 1) (by omega) (by omega))
      · rw [List.mem_append, h2, List.mem_singleton]
        constructor
        · rintro (⟨j, hj, e⟩ | e)
          · exact ⟨j, by omega, e⟩
          · exact ⟨m, by omega, e.symm⟩
        · rintro ⟨j, hj, e⟩
          by_cases ej : j = m
          · subst ej; exact .inr e.symm
          · exact .inl ⟨j, by omega, e⟩
    · rw [if_neg hk, List.append_nil]
      refine ⟨h1, fun x => ?_⟩
      rw [h2]
      have hm0 : 0 < m := by
        rcases Nat.eq_zero_or_pos m with e | e
        · subst e; exact absurd (keeps_lt_one d 0 (by omega)) hk
        · exact e
      have he : d[m]! = d[m - 1]! := by
        by_cases e : d[m]! = d[m - 1]!
        · exact e
        · exact absurd (keeps_pos e) hk
      constructor
      · rintro ⟨j, hj, e⟩; exact ⟨j, by omega, e⟩
      · rintro ⟨j, hj, e⟩
        by_cases ej : j = m
        · subst ej; exact ⟨j - 1, by omega, by rw [← he]; exact e⟩
        · exact ⟨j, by omega, e⟩

/-- What the sort and the compaction leave is what insertion gives. -/
theorem compact_sortI {l s : List Int} (hp : s.Perm l) (hs : ∀ i j, i < j → j < s.length → ¬ litLt (s.getD j 0) (s.getD i 0)) : Lib.compact s = sortI l := by
  have hs' : ∀ i j, i < j → j < s.toArray.size → ¬ litLt s.toArray[j]! s.toArray[i]! := by
    intro i j hij hj
    have hj' : j < s.length := by simpa using hj
    have := hs i j hij hj'
    simpa [getElem!_pos, hj', show i < s.length by omega, List.getD] using this
  have h := compact_sorted s.toArray hs' s.length (by simp)
  apply sorted_unique h.1 (sortI_sorted l)
  intro x
  rw [show x ∈ Lib.compactUpTo s.toArray s.length ↔ _ from h.2 x, sortI_mem, ← hp.mem_iff]
  constructor
  · rintro ⟨j, hj, rfl⟩
    simp [getElem!_pos, hj]
  · intro hx
    obtain ⟨j, hj, e⟩ := List.getElem_of_mem hx
    exact ⟨j, hj, by simp [getElem!_pos, hj, e]⟩

end Go.Proofs.YtnedpngadfkmiaaDoor
