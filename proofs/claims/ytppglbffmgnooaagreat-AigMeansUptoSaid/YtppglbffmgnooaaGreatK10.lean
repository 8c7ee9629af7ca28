/- Joined texts: CxReachP, CxSeq, CxBack. -/
import Derived.Test.YtppglbffmgnooaaGreatK06
import Derived.Test.YtppglbffmgnooaaGreatK02
import Derived.RangeFuncNested
import Derived.RangeFuncBound
import Derived.RangeFuncCalls
import Derived.RangeFuncLeaves
import Derived.RangeFuncBox
import Derived.Shelf.Abstract
import Derived.Shelf.RegionOpen
import Derived.OwnWalkIn
import Derived.TacticsInMore
import Derived.LoopNIn
import Derived.LoopIn
/- What is reached from a literal in a list of gates; which variables are free. (Plain lists.) -/
namespace Go.Proofs.YtppglbffmgnooaaGreat
open Go.RowKit
set_option linter.unusedVariables false
set_option linter.unusedSimpArgs false

theorem nodup_sub_len {l : List Int} : ∀ {m : List Int}, l.Nodup → (∀ x ∈ l, x ∈ m) → l.length ≤ m.length := by
  induction l with
  | nil => intro m _ _; simp
  | cons x r ih =>
    intro m hn hs
    rw [List.nodup_cons] at hn
    have h1 := ih (m := m.erase x) hn.2 (fun y hy => by
      have hne : y ≠ x := fun e => hn.1 (by rw [← e]; exact hy)
      exact (List.mem_erase_of_ne hne).2 (hs y (List.mem_cons_of_mem _ hy)))
    have h2 := List.length_erase_of_mem (hs x List.mem_cons_self)
    have h3 := List.length_pos_of_mem (hs x List.mem_cons_self)
    simp only [List.length_cons]
    omega
/-- The variables up to m that are not in a set. -/
def freeUp (S : List Int) (m : Nat) : List Int := ((List.range m).map (fun i : Nat => (i : Int) + 1)).filter (fun v => !decide (v ∈ S))
def unusedL (S : List Int) (k : Nat) : List Int := (freeUp S 65536).take k
theorem freeUp_succ (S : List Int) (m : Nat) : freeUp S (m + 1) = freeUp S m ++ (if ((m : Int) + 1) ∈ S then [] else [(m : Int) + 1]) := by
  unfold freeUp
  rw [List.range_succ, List.map_append, List.filter_append]
  congr 1
  by_cases h : ((m : Int) + 1) ∈ S <;> simp [h]
theorem freeUp_pre (S : List Int) {m n : Nat} (h : m ≤ n) : freeUp S m <+: freeUp S n := by
  induction n with
  | zero => obtain rfl : m = 0 := by omega
            exact List.prefix_refl _
  | succ n ih =>
    by_cases e : m = n + 1
    · subst e; exact List.prefix_refl _
    · rw [freeUp_succ]
      exact (ih (by omega)).trans (List.prefix_append _ _)
theorem unused_at {S : List Int} {k m : Nat} (hm : m ≤ 65536) (hl : (freeUp S m).length ≤ k) (h : m = 65536 ∨ k ≤ (freeUp S m).length) : unusedL S k = freeUp S m := by
  unfold unusedL
  rcases h with rfl | h
  · exact List.take_of_length_le hl
  · obtain ⟨r, hr⟩ := freeUp_pre S hm
    rw [← hr, List.take_append_of_le_length h]
    exact List.take_of_length_le hl
theorem freeUp_len (S : List Int) (m : Nat) : (freeUp S m).length ≤ m := by
  unfold freeUp
  refine Nat.le_trans (List.length_filter_le _ _) ?_
  simp
theorem freeUp_bd {S : List Int} {m : Nat} (hm : m ≤ 65536) : ∀ v ∈ freeUp S m, 1 ≤ v ∧ v ≤ 65536 := by
  intro v hv
  unfold freeUp at hv
  obtain ⟨h1, _⟩ := List.mem_filter.1 hv
  obtain ⟨i, hi, rfl⟩ := List.mem_map.1 h1
  rw [List.mem_range] at hi
  omega
theorem filter_two (p : Int → Bool) (l : List Int) : (l.filter (fun x => !p x)).length + (l.filter p).length = l.length := by
  induction l with
  | nil => rfl
  | cons x r ih => cases h : p x <;> simp [List.filter_cons, h] <;> omega
/-- Where few are used, some are free. -/
theorem freeUp_many (S : List Int) (m : Nat) : m ≤ (freeUp S m).length + S.length := by
  have h2 : ((List.range m).map (fun i : Nat => (i : Int) + 1)).Nodup := by
    refine List.pairwise_map.2 (List.nodup_range.imp ?_)
    intro a b h e
    exact h (by omega)
  have h3 := filter_two (fun v => decide (v ∈ S)) ((List.range m).map (fun i : Nat => (i : Int) + 1))
  have h4 := nodup_sub_len (l := ((List.range m).map (fun i : Nat => (i : Int) + 1)).filter (fun v => decide (v ∈ S))) (m := S) (h2.filter _) (fun v hv => by simpa using (List.mem_filter.1 hv).2)
  rw [List.length_map, List.length_range] at h3
  unfold freeUp
  omega

end Go.Proofs.YtppglbffmgnooaaGreat

/- A range over an iterator that keeps things of its own which are no cells (a map, a loop's record), where each round goes on: one law for the caller. -/
namespace Go.Proofs.YtppglbffmgnooaaGreat
open Go.RowKit Go.Shelf
set_option linter.unusedVariables false
set_option linter.unusedSimpArgs false

end Go.Proofs.YtppglbffmgnooaaGreat

/- slices.Backward over gates: an iterator over the gates from the last to the first, each with its index. -/
namespace Go.Proofs.YtppglbffmgnooaaGreat
open Go.RowKit Go.Shelf
set_option linter.unusedVariables false
set_option linter.unusedSimpArgs false
attribute [local go_sem] Oper.semAt_some

/-- The indices n-1, n-2, .., k of them. -/
def downL (n k : Nat) : List Nat := (List.range k).map (fun i => n - 1 - i)
theorem downL_succ (n k : Nat) : downL n (k + 1) = downL n k ++ [n - 1 - k] := by unfold downL; rw [List.range_succ, List.map_append]; rfl
theorem downL_prefix (n : Nat) {k m : Nat} (h : k ≤ m) : downL n k <+: downL n m := by
  induction m with
  | zero => obtain rfl : k = 0 := by omega
            exact List.prefix_refl _
  | succ m ih =>
    by_cases e : k = m + 1
    · subst e; exact List.prefix_refl _
    · rw [downL_succ]
      exact (ih (by omega)).trans (List.prefix_append _ _)
/-- What a round keeps: all below n0, and a box. -/
def KpB (n0 bx : Nat) (A B : World) : Prop := Below n0 A B ∧ B.heap[bx]? = A.heap[bx]?
theorem KpB.cell {n0 bx : Nat} {A B : World} (h : KpB n0 bx A B) : B.cell? ⟨bx, 0, none⟩ = A.cell? ⟨bx, 0, none⟩ := World.cell?_of_block (w := A) (a := ⟨bx, 0, none⟩) h.2

end Go.Proofs.YtppglbffmgnooaaGreat
