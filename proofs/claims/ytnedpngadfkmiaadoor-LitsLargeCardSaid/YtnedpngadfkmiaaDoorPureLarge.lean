/- LitsLarge, without the program. -/
import Derived.Test.YtnedpngadfkmiaaDoorRowsOwn
namespace Go.Proofs.YtnedpngadfkmiaaDoor
open Go.RowKit
set_option linter.unusedVariables false

def tenL : List Int := [1, -2, 3, 4, 5, 6, 7, 8, 9, 4096]
theorem tenL_may : ∀ q, q ≤ 10 → mayB (tenL.take q) = true := by decide
theorem tenL_64 : In64 tenL := by unfold tenL In64; decide
theorem and3 : ∀ n : Fin 256, bits BinOp.and IntKind.u8 (n.val : Int) 3 = (n.val : Int) % 4 := by decide +kernel
theorem and3_of (x : Int) (h0 : 0 ≤ x) (h1 : x ≤ 255) : ∃ d : Nat, d ≤ 3 ∧ bits BinOp.and IntKind.u8 x 3 = (d : Int) := by
  have := and3 ⟨x.toNat, by omega⟩
  simp only at this
  rw [show ((x.toNat : Nat) : Int) = x from by omega] at this
  exact ⟨(x % 4).toNat, by omega, by rw [this]; omega⟩

theorem rep_set {α : Type} (m n : Nat) (t z : α) (h : m < n) : (List.replicate m t ++ List.replicate (n - m) z).set m t = List.replicate (m + 1) t ++ List.replicate (n - (m + 1)) z := by
  rw [List.set_append, if_neg (by simp), List.length_replicate, Nat.sub_self, show n - m = (n - (m + 1)) + 1 from by omega, List.replicate_succ, List.set_cons_zero, List.replicate_succ']
  simp
theorem rep_last {α : Type} (m p : Nat) (t z y : α) (h : m ≤ p) : (List.replicate m t ++ List.replicate (p + 1 - m) z).set p y = List.replicate m t ++ List.replicate (p - m) z ++ [y] := by
  rw [List.set_append, if_neg (by simp; omega), List.length_replicate, show p + 1 - m = (p - m) + 1 from by omega, List.replicate_succ', List.set_append, if_neg (by simp), List.length_replicate, Nat.sub_self]
  simp

def largeL (m p q : Nat) : List (List Int) := List.replicate m tenL ++ List.replicate (p - m) [] ++ [tenL.take q]
theorem largeL_len (m p q : Nat) (h : m ≤ p) : (largeL m p q).length = p + 1 := by unfold largeL; simp; omega
theorem tot_rep (m : Nat) (l : List Int) : tot (List.replicate m l) = m * l.length := by unfold tot; simp
theorem largeL_tot (m p q : Nat) (h : q ≤ 10) : tot (largeL m p q) = m * 10 + q := by
  unfold largeL
  rw [tot_append, tot_append, tot_rep, tot_rep]
  unfold tot
  simp [tenL]
  omega
theorem largeL_may (m p q : Nat) (h : m ≤ p) (hq : q ≤ 10) : mayCnfB (largeL m p q) = decide (p + 1 ≤ 20000 ∧ m * 10 + q ≤ 200000) := by
  unfold mayCnfB
  rw [largeL_len m p q h, largeL_tot m p q hq]
  apply decide_eq_decide.2
  constructor
  · rintro ⟨a, b, _⟩; exact ⟨a, b⟩
  · rintro ⟨a, b⟩
    refine ⟨a, b, fun l hl => ?_⟩
    unfold largeL at hl
    rw [List.mem_append, List.mem_append, List.mem_replicate, List.mem_replicate, List.mem_singleton] at hl
    rcases hl with (⟨_, rfl⟩ | ⟨_, rfl⟩) | rfl
    · exact tenL_may 10 (by omega)
    · rfl
    · exact tenL_may q hq

end Go.Proofs.YtnedpngadfkmiaaDoor
