/- slices.Clone of a list of integers. -/
import Derived.Test.YtnedpngadfkmiaaDoorRSort
namespace Go.Proofs.YtnedpngadfkmiaaDoor
open Go.RowKit
set_option linter.unusedVariables false

set_option maxHeartbeats 800000 in
set_option maxRecDepth 100000 in
theorem clone_any (v : Value) (l : List Int) (w : World) (H : IsInts w v l) : Calls Tryd.prog 44 #[v] w (RetOwn w l) := by
  have hl := H.len
  have H1 := H.below ((Below.refl w.heap.size w).alloc (Nat.le_refl _) (.cells #[] 3)) (Nat.le_refl _)
  obtain ⟨a, cap, rfl⟩ := H.shape
  cases a with
  | none =>
    have hn : l = [] ∧ cap = 0 := by
      obtain ⟨a', cap', e, hcp, _, _, _, b, off, ha, _⟩ := H
      injection e with e1 _ e3
      subst e1; subst e3
      refine ⟨?_, hcp.2 rfl⟩
      by_cases e : l = []
      · exact e
      · have := (ha e).1; cases this
    obtain ⟨rfl, rfl⟩ := hn
    have he : ∀ w : World, (binOp .eql 22 (.slice none 0 0) (.slice none 0 0)).run Tryd.prog w = .ok (.bool true) w := fun _ => rfl
    go_enter Tryd.func44, Tryd.ntmps44
    go_wp2
    go_ret
    exact ⟨_, rfl, Own.nil _ _, Below.refl _ _⟩
  | some p =>
    have he : ∀ w : World, (binOp .eql 22 (.slice (some p) l.length cap) (.slice none 0 0)).run Tryd.prog w = .ok (.bool false) w := fun _ => rfl
    go_enter Tryd.func44, Tryd.ntmps44
    go_wp2_with (at_builtin; refine wpList_app rfl (.tmp 5) (.tmp 6) rfl w.heap.size _ _ [] l rfl rfl (Own.built (Nat.le_refl _)) H1 (by simp <;> omega) (by simp) ?_; intro v1 w1 hown1 hg1)
    go_ret
    exact ⟨_, rfl, hown1, below_app ((Below.refl _ _).alloc (Nat.le_refl _) _) (Own.built (Nat.le_refl _)) (by simp) hg1⟩

end Go.Proofs.YtnedpngadfkmiaaDoor
