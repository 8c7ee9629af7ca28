/- The contracts of the functions of numbers (variables, sizes, the order of two literals). -/
import Derived.Test.YtnedpngadfkmiaaDoorProg
import Derived.WalkKit
import Derived.WalkSpells
import Derived.WalkLawsBesides
namespace Go.Proofs.YtnedpngadfkmiaaDoor
open Go.RowKit

/-- The variable of a literal, 0 for any other integer. -/
def varOf (x : Int) : Int := if x < -65536 ∨ 65536 < x then 0 else if x < 0 then -x else x

/-- The absolute value. -/
def absOf (x : Int) : Int := if x < 0 then -x else x

/-- Whether an integer is a literal. -/
def litB (x : Int) : Bool := decide (x ≠ 0 ∧ -65536 ≤ x ∧ x ≤ 65536)

/-- The order of literals. -/
def litLt (x y : Int) : Prop := absOf x < absOf y ∨ absOf x = absOf y ∧ x < y
instance (x y : Int) : Decidable (litLt x y) := by unfold litLt; infer_instance

set_option maxHeartbeats 400000 in
theorem var_any (x : Int) (w : World) (h1 : -9223372036854775808 ≤ x) (h2 : x ≤ 9223372036854775807) :
    Calls Tryd.prog 22 #[.int .i64 x] w fun e w' => e = .returned (.int .i64 (varOf x)) ∧ w = w' := by
  by_cases a : x < -65536
  · have e : varOf x = 0 := by unfold varOf; rw [if_pos (by omega)]
    rw [e]
    go_enter Tryd.func22, Tryd.ntmps22
    go_wp2
    go_ret
    exact ⟨rfl, rfl⟩
  by_cases b : 65536 < x
  · have e : varOf x = 0 := by unfold varOf; rw [if_pos (by omega)]
    rw [e]
    go_enter Tryd.func22, Tryd.ntmps22
    go_wp2
    go_ret
    exact ⟨rfl, rfl⟩
  by_cases c : x < 0
  · have e : varOf x = -x := by unfold varOf; rw [if_neg (by omega), if_pos c]
    rw [e]
    go_enter Tryd.func22, Tryd.ntmps22
    go_wp2
    go_ret
    exact ⟨rfl, rfl⟩
  · have e : varOf x = x := by unfold varOf; rw [if_neg (by omega), if_neg c]
    rw [e]
    go_enter Tryd.func22, Tryd.ntmps22
    go_wp2
    go_ret
    exact ⟨rfl, rfl⟩

theorem ret_int {k : IntKind} {a b : Int} (h : a = b) : Ending.returned (.int k a) = .returned (.int k b) := by rw [h]
theorem ret_bool {a b : Bool} (h : a = b) : Ending.returned (.bool a) = .returned (.bool b) := by rw [h]

set_option maxHeartbeats 400000 in
theorem rsize_any (x : Int) (w : World) (h1 : -9223372036854775808 ≤ x) (h2 : x ≤ 9223372036854775807) :
    Calls Tryd.prog 91 #[.int .i64 x] w fun e w' => e = .returned (.int .u64 (absOf x)) ∧ w = w' := by
  by_cases c : x < 0
  · have e : absOf x = -x := by unfold absOf; rw [if_pos c]
    rw [e]
    go_enter Tryd.func91, Tryd.ntmps91
    go_wp2
    go_ret
    exact ⟨ret_int (by omega), rfl⟩
  · have e : absOf x = x := by unfold absOf; rw [if_neg c]
    rw [e]
    go_enter Tryd.func91, Tryd.ntmps91
    go_wp2
    go_ret
    exact ⟨rfl, rfl⟩

theorem absOf_bd (x : Int) (h1 : -9223372036854775808 ≤ x) (h2 : x ≤ 9223372036854775807) : 0 ≤ absOf x ∧ absOf x ≤ 9223372036854775808 := by
  unfold absOf; split <;> omega

set_option maxHeartbeats 400000 in
theorem rlit_any (x : Int) (w : World) (h1 : -9223372036854775808 ≤ x) (h2 : x ≤ 9223372036854775807) :
    Calls Tryd.prog 89 #[.int .i64 x] w fun e w' => e = .returned (.bool (litB x)) ∧ w = w' := by
  have hb := absOf_bd x h1 h2
  by_cases c : x = 0
  · have e : litB x = false := by simp [litB, c]
    rw [e]
    subst c
    go_enter Tryd.func89, Tryd.ntmps89
    go_wp2
    go_ret
    exact ⟨rfl, rfl⟩
  · have hne : (x != 0) = true := by simp [c]
    by_cases d : absOf x ≤ 65536
    · have e : litB x = true := by unfold absOf at d; simp [litB, c]; split at d <;> omega
      rw [e]
      go_enter Tryd.func89, Tryd.ntmps89
      go_wp2_with (go_at_call 91; refine (rsize_any _ _ (by omega) (by omega)).mono ?_; rintro e w' ⟨rfl, rfl⟩)
      go_ret
      exact ⟨rfl, rfl⟩
    · have e : litB x = false := by unfold absOf at d; simp [litB, c]; split at d <;> omega
      rw [e]
      go_enter Tryd.func89, Tryd.ntmps89
      go_wp2_with (go_at_call 91; refine (rsize_any _ _ (by omega) (by omega)).mono ?_; rintro e w' ⟨rfl, rfl⟩)
      go_ret
      exact ⟨ret_bool (by simp; omega), rfl⟩

theorem litB_var (x : Int) : litB x = decide (varOf x ≠ 0) := by
  unfold litB varOf
  by_cases a : x < -65536 ∨ 65536 < x
  · rw [if_pos a]; simp; omega
  · rw [if_neg a]; split <;> (rw [Bool.eq_iff_iff]; simp; omega)

theorem absOf_var (x : Int) (h : litB x = true) : absOf x = varOf x := by
  unfold litB at h; simp at h
  unfold absOf varOf
  rw [if_neg (by omega : ¬ (x < -65536 ∨ 65536 < x))]

set_option maxHeartbeats 400000 in
theorem rvar_any (x : Int) (w : World) (h1 : -9223372036854775808 ≤ x) (h2 : x ≤ 9223372036854775807) :
    Calls Tryd.prog 23 #[.int .i64 x] w fun e w' => e = .returned (.int .i64 (varOf x)) ∧ w = w' := by
  by_cases c : litB x = true
  · have e := absOf_var x c
    have hb := absOf_bd x h1 h2
    have hl : absOf x ≤ 65536 := by unfold litB at c; simp at c; unfold absOf; split <;> omega
    rw [← e]
    clear e
    go_enter Tryd.func23, Tryd.ntmps23
    go_wp2_with (first | (go_at_call 91; refine (rsize_any _ _ (by omega) (by omega)).mono ?_; rintro e w' ⟨rfl, rfl⟩) | (go_at_call 89; refine (rlit_any _ _ (by omega) (by omega)).mono ?_; rintro e w' ⟨rfl, rfl⟩))
    go_ret
    exact ⟨rfl, rfl⟩
  · have c' : litB x = false := by simpa using c
    have e : varOf x = 0 := by rw [litB_var] at c; simpa using c
    rw [e]
    clear e
    go_enter Tryd.func23, Tryd.ntmps23
    go_wp2_with (go_at_call 89; refine (rlit_any _ _ (by omega) (by omega)).mono ?_; rintro e w' ⟨rfl, rfl⟩)
    go_ret
    exact ⟨rfl, rfl⟩

set_option maxHeartbeats 400000 in
theorem rbefore_any (x y : Int) (w : World) (h1 : -9223372036854775808 ≤ x) (h2 : x ≤ 9223372036854775807) (h3 : -9223372036854775808 ≤ y) (h4 : y ≤ 9223372036854775807) :
    Calls Tryd.prog 104 #[.int .i64 x, .int .i64 y] w fun e w' => e = .returned (.bool (decide (litLt x y))) ∧ w = w' := by
  by_cases c : absOf x = absOf y
  · have e : decide (litLt x y) = decide (x < y) := decide_eq_decide.2 (by unfold litLt; omega)
    have c' : (absOf x != absOf y) = false := by simp [c]
    rw [e]
    clear e c
    go_enter Tryd.func104, Tryd.ntmps104
    go_wp2_with (go_at_call 91; refine (rsize_any _ _ (by omega) (by omega)).mono ?_; rintro e w' ⟨rfl, rfl⟩)
    go_ret
    exact ⟨rfl, rfl⟩
  · have e : decide (litLt x y) = decide (absOf x < absOf y) := decide_eq_decide.2 (by unfold litLt; omega)
    have c' : (absOf x != absOf y) = true := by simp [c]
    rw [e]
    clear e c
    go_enter Tryd.func104, Tryd.ntmps104
    go_wp2_with (go_at_call 91; refine (rsize_any _ _ (by omega) (by omega)).mono ?_; rintro e w' ⟨rfl, rfl⟩)
    go_ret
    exact ⟨rfl, rfl⟩

end Go.Proofs.YtnedpngadfkmiaaDoor
