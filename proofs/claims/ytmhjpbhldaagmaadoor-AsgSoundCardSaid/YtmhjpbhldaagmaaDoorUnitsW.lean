/- What Units hands back, in words; and slices of ints while a row of steps grows. -/
import Derived.Test.YtmhjpbhldaagmaaDoorMgW
import Derived.Test.YtmhjpbhldaagmaaDoorUnitsR
namespace Go.Proofs.YtmhjpbhldaagmaaDoor
open Go.RowKit
set_option linter.unusedVariables false

theorem may_len {p : Int} {l : List Int} (hp : p ≤ 65536) (h : mayFrom p l = true) : p + l.length ≤ 65536 := by
  induction l generalizing p with
  | nil => simpa using hp
  | cons y r ih =>
    obtain ⟨h1, h2⟩ := mayFrom_tail h
    have := ih (varOf_bd y).2 h2
    rw [List.length_cons]
    omega
theorem fine_of {f : List (List Int)} (h : mayCnfB f = true) : Fine f := by
  unfold mayCnfB at h
  rw [decide_eq_true_eq] at h
  obtain ⟨h1, h2, h3⟩ := h
  refine ⟨fun c hc => mayB_mem (h3 c hc), fun c hc => may_nodup (h3 c hc), h1, fun c hc => ?_⟩
  have := may_len (p := 0) (by decide) (h3 c hc)
  omega
theorem cnf_may {f : List (List Int)} (h : mayCnfB f = true) : ∀ c ∈ f, mayB c = true := by
  unfold mayCnfB at h
  rw [decide_eq_true_eq] at h
  exact h.2.2
theorem cnf_tot {f : List (List Int)} (h : mayCnfB f = true) : tot f ≤ 200000 := by
  unfold mayCnfB at h
  rw [decide_eq_true_eq] at h
  exact h.2.1

/-- What Units hands back: the steps and the clause of a run, or nothing, with an error. -/
def UnitsPost (w : World) (f : List (List Int)) (a : List Int) (e : Ending) (w' : World) : Prop :=
  ∃ v l c d, e = .returned (.tuple #[v, .int .i64 c, .int .i64 d]) ∧ IsSteps w' v l ∧ Below w.heap.size w w' ∧
    ((mayB a = true ∧ mayCnfB f = true ∧ d = 0 ∧ Run f a l c ∧ l.length ≤ f.length) ∨ (¬ (mayB a = true ∧ mayCnfB f = true) ∧ d = 2 ∧ l = [] ∧ c = -1))
theorem IsSteps.nil (w : World) : IsSteps w (.slice none 0 0) [] := ⟨none, 0, rfl, Nat.le_refl _, by omega, by simp, by simp, 0, fun h => absurd rfl h, fun j hj => absurd hj (Nat.not_lt_zero _)⟩

/-- A slice of ints stays while another row grows. -/
theorem ints_grown {w w' : World} {v : Value} {xs : List Int} {o : Obj} {row : Option Nat} (h : IsInts w v xs) (hg : (w.alloc o).grownBy w' row) (hne : ∀ a n c g, v = .slice (some a) n c → a.block = g → xs ≠ [] → row ≠ some g) : IsInts w' v xs := by
  obtain ⟨a, cap, h1, h2, h3, h4, h5, b, off, ha, hc⟩ := h
  subst h1
  have hk : xs ≠ [] → w'.heap[b]? = w.heap[b]? := fun hx => by
    obtain ⟨e, hlt⟩ := ha hx
    rw [hg.block b (by simp; omega) (fun e2 => hne _ _ _ b (by rw [e]) rfl hx e2.symm)]
    exact Below.heap_alloc w o b hlt
  refine ⟨a, cap, rfl, h2, h3, h4, h5, b, off, fun hx => ⟨(ha hx).1, ?_⟩, fun j hj => ?_⟩
  · have h1 := (ha hx).2
    have h2 := hg.size
    simp at h2
    omega
  · have hx : xs ≠ [] := by intro e; simp [e] at hj
    rw [World.cell?_of_block (w := w) (hk hx)]
    exact hc j hj

end Go.Proofs.YtmhjpbhldaagmaaDoor
