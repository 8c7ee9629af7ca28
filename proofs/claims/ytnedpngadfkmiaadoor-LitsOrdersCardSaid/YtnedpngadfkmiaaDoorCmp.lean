/- The orders: compareLits, Compare and their parts. -/
import Derived.Test.YtnedpngadfkmiaaDoorSub
namespace Go.Proofs.YtnedpngadfkmiaaDoor
open Go.RowKit Go.Shelf
set_option linter.unusedVariables false

def cmpI (x y : Int) : Int := if x < y then -1 else if y < x then 1 else 0

set_option maxHeartbeats 400000 in
theorem cmpi_any (x y : Int) (w : World) (h1 : -9223372036854775808 ≤ x) (h2 : x ≤ 9223372036854775807) (h3 : -9223372036854775808 ≤ y) (h4 : y ≤ 9223372036854775807) :
    Calls Tryd.prog 94 #[.int .i64 x, .int .i64 y] w fun e w' => e = .returned (.int .i64 (cmpI x y)) ∧ w = w' := by
  have hx : (x != x) = false := by simp
  have hy : (y != y) = false := by simp
  by_cases a : x < y
  · have e : cmpI x y = -1 := if_pos a
    rw [e]
    go_enter Tryd.func94, Tryd.ntmps94
    go_wp2
    go_ret
    exact ⟨rfl, rfl⟩
  by_cases b : y < x
  · have e : cmpI x y = 1 := (if_neg a).trans (if_pos b)
    rw [e]
    go_enter Tryd.func94, Tryd.ntmps94
    go_wp2
    go_ret
    exact ⟨rfl, rfl⟩
  · have e : cmpI x y = 0 := (if_neg a).trans (if_neg b)
    rw [e]
    go_enter Tryd.func94, Tryd.ntmps94
    go_wp2
    go_ret
    exact ⟨rfl, rfl⟩

set_option maxHeartbeats 400000 in
theorem cmpu_any (x y : Int) (w : World) (h1 : 0 ≤ x) (h2 : x ≤ 9223372036854775808) (h3 : 0 ≤ y) (h4 : y ≤ 9223372036854775808) :
    Calls Tryd.prog 157 #[.int .u64 x, .int .u64 y] w fun e w' => e = .returned (.int .i64 (cmpI x y)) ∧ w = w' := by
  have hx : (x != x) = false := by simp
  have hy : (y != y) = false := by simp
  by_cases a : x < y
  · have e : cmpI x y = -1 := if_pos a
    rw [e]
    go_enter Tryd.func157, Tryd.ntmps157
    go_wp2
    go_ret
    exact ⟨rfl, rfl⟩
  by_cases b : y < x
  · have e : cmpI x y = 1 := (if_neg a).trans (if_pos b)
    rw [e]
    go_enter Tryd.func157, Tryd.ntmps157
    go_wp2
    go_ret
    exact ⟨rfl, rfl⟩
  · have e : cmpI x y = 0 := (if_neg a).trans (if_neg b)
    rw [e]
    go_enter Tryd.func157, Tryd.ntmps157
    go_wp2
    go_ret
    exact ⟨rfl, rfl⟩

set_option maxHeartbeats 400000 in
theorem magn_any (x : Int) (w : World) (h1 : -9223372036854775808 ≤ x) (h2 : x ≤ 9223372036854775807) :
    Calls Tryd.prog 158 #[.int .i64 x] w fun e w' => e = .returned (.int .u64 (absOf x)) ∧ w = w' := by
  by_cases c : x < 0
  · have e : absOf x = -x := by unfold absOf; rw [if_pos c]
    rw [e]
    go_enter Tryd.func158, Tryd.ntmps158
    go_wp2
    go_ret
    refine ⟨ret_int ?_, rfl⟩
    simp [IntKind.wrap, IntKind.bits, IntKind.signed]
    omega
  · have e : absOf x = x := by unfold absOf; rw [if_neg c]
    rw [e]
    go_enter Tryd.func158, Tryd.ntmps158
    go_wp2
    go_ret
    exact ⟨rfl, rfl⟩

set_option maxHeartbeats 400000 in
theorem bymag_any (x y : Int) (w : World) (h1 : -9223372036854775808 ≤ x) (h2 : x ≤ 9223372036854775807) (h3 : -9223372036854775808 ≤ y) (h4 : y ≤ 9223372036854775807) :
    Calls Tryd.prog 133 #[.int .i64 x, .int .i64 y] w fun e w' => e = .returned (.int .i64 (cmpI (absOf x) (absOf y))) ∧ w = w' := by
  have hb1 := absOf_bd x h1 h2
  have hb2 := absOf_bd y h3 h4
  have hc := cmpu_any (absOf x) (absOf y) w (by omega) (by omega) (by omega) (by omega)
  generalize cmpI (absOf x) (absOf y) = z at *
  go_enter Tryd.func133, Tryd.ntmps133
  go_wp2_with (first | (go_at_call 158; refine (magn_any _ _ (by omega) (by omega)).mono ?_; rintro e w' ⟨rfl, rfl⟩) | (go_at_call 157; refine hc.mono ?_; rintro e w' ⟨rfl, rfl⟩))
  go_ret
  exact ⟨rfl, rfl⟩

set_option maxHeartbeats 400000 in
theorem bysign_any (x y : Int) (w : World) (h1 : -9223372036854775808 ≤ x) (h2 : x ≤ 9223372036854775807) (h3 : -9223372036854775808 ≤ y) (h4 : y ≤ 9223372036854775807) :
    Calls Tryd.prog 134 #[.int .i64 x, .int .i64 y] w fun e w' => e = .returned (.int .i64 (cmpI x y)) ∧ w = w' := by
  have hc := cmpi_any x y w (by omega) (by omega) (by omega) (by omega)
  generalize cmpI x y = z at *
  go_enter Tryd.func134, Tryd.ntmps134
  go_wp2_with (go_at_call 94; refine hc.mono ?_; rintro e w' ⟨rfl, rfl⟩)
  go_ret
  exact ⟨rfl, rfl⟩

def cmpLit (x y : Int) : Int := if cmpI (absOf x) (absOf y) ≠ 0 then cmpI (absOf x) (absOf y) else cmpI x y
theorem cmpLit_eq (x y : Int) : cmpLit x y = if litLt x y then -1 else if litLt y x then 1 else 0 := by
  unfold cmpLit cmpI litLt
  by_cases a : absOf x < absOf y
  · simp [a]
  · by_cases b : absOf y < absOf x
    · have hn : ¬ (absOf x = absOf y) := by omega
      simp [a, b, hn]
    · have he : absOf x = absOf y := by omega
      simp [he]
theorem cmpI_bd (x y : Int) : -1 ≤ cmpI x y ∧ cmpI x y ≤ 1 := by
  unfold cmpI; split
  · omega
  · split <;> omega

set_option maxHeartbeats 800000 in
set_option maxRecDepth 100000 in
theorem cmpby_any (x y : Int) (b : Nat) (w : World) (h1 : -9223372036854775808 ≤ x) (h2 : x ≤ 9223372036854775807) (h3 : -9223372036854775808 ≤ y) (h4 : y ≤ 9223372036854775807)
    (c0 : w.cell? ⟨b, 0, none⟩ = some (.func (.func 133) #[] #[])) (c1 : w.cell? ⟨b, 1, none⟩ = some (.func (.func 134) #[] #[])) :
    Calls Tryd.prog 132 #[.int .i64 x, .int .i64 y, .slice (some ⟨b, 0, none⟩) 2 2] w fun e w' => e = .returned (.int .i64 (cmpLit x y)) ∧ w = w' := by
  have hm := bymag_any x y w h1 h2 h3 h4
  have hs := bysign_any x y w h1 h2 h3 h4
  have hb1 := cmpI_bd (absOf x) (absOf y)
  have hb2 := cmpI_bd x y
  have HD : Hid (cmpLit x y = if cmpI (absOf x) (absOf y) ≠ 0 then cmpI (absOf x) (absOf y) else cmpI x y) := rfl
  generalize cmpI (absOf x) (absOf y) = z1 at *
  generalize cmpI x y = z2 at *
  go_enter Tryd.func132, Tryd.ntmps132
  go_wp2
  go_loop [12] (fun i => ∃ k : Nat, k ≤ 2 ∧ i = .int .i64 k ∧ (1 ≤ k → z1 = 0) ∧ (2 ≤ k → z2 = 0)) (fun i => 2 - (intOf i).toNat)
  case atStart => exact ⟨0, by omega, rfl, by omega, by omega⟩
  case round =>
    obtain ⟨k, hk, rfl, hz1, hz2⟩ := hrel
    match k, hk with
    | 0, _ =>
      clear hz1 hz2
      by_cases h : z1 = 0
      · have hb : (z1 != 0) = false := by simpa using h
        have HH := Lib.hid h
        clear h
        go_wp2_with fail
        refine hm.mono ?_
        rintro e w' ⟨rfl, rfl⟩
        go_wp2
        go_round
        case rel => exact ⟨1, by omega, by go_num, fun _ => HH.out, by omega⟩
        case measure => simp [intOf]
      · have hb : (z1 != 0) = true := by simpa using h
        have HG : Hid (cmpLit x y = z1) := HD.out.trans (if_pos h)
        go_wp2_with fail
        refine hm.mono ?_
        rintro e w' ⟨rfl, rfl⟩
        go_wp2
        go_ret
        exact ⟨ret_int HG.out.symm, rfl⟩
    | 1, _ =>
      have HZ := Lib.hid (hz1 (by omega))
      clear hz1 hz2
      by_cases h : z2 = 0
      · have hb : (z2 != 0) = false := by simpa using h
        have HH := Lib.hid h
        clear h
        go_wp2_with fail
        refine hs.mono ?_
        rintro e w' ⟨rfl, rfl⟩
        go_wp2
        go_round
        case rel => exact ⟨2, by omega, by go_num, fun _ => HZ.out, fun _ => HH.out⟩
        case measure => simp [intOf]
      · have hb : (z2 != 0) = true := by simpa using h
        have HG : Hid (cmpLit x y = z2) := HD.out.trans (if_neg (by simp [HZ.out]))
        go_wp2_with fail
        refine hs.mono ?_
        rintro e w' ⟨rfl, rfl⟩
        go_wp2
        go_ret
        exact ⟨ret_int HG.out.symm, rfl⟩
    | 2, _ =>
      have HG : Hid (cmpLit x y = 0) := HD.out.trans ((if_neg (by simp [hz1 (by omega)])).trans (hz2 (by omega)))
      clear hz1 hz2
      go_wp2
      go_ret
      exact ⟨ret_int HG.out.symm, rfl⟩

def litKeys : Array Value := #[.func (.func 133) #[] #[], .func (.func 134) #[] #[]]

set_option maxHeartbeats 800000 in
set_option maxRecDepth 100000 in
theorem cmplits_any (x y : Int) (w : World) (h1 : -9223372036854775808 ≤ x) (h2 : x ≤ 9223372036854775807) (h3 : -9223372036854775808 ≤ y) (h4 : y ≤ 9223372036854775807) :
    Calls Tryd.prog 87 #[.int .i64 x, .int .i64 y] w fun e w' => e = .returned (.int .i64 (cmpLit x y)) ∧ w' = w.alloc (.cells litKeys 79) := by
  have hc := cmpby_any x y w.heap.size (w.alloc (.cells litKeys 79)) h1 h2 h3 h4 (by simp [litKeys]) (by simp [litKeys])
  generalize cmpLit x y = z at *
  go_enter Tryd.func87, Tryd.ntmps87
  go_wp2_with fail
  refine hc.mono ?_
  rintro e w' ⟨rfl, rfl⟩
  go_wp2
  go_ret
  exact ⟨rfl, rfl⟩

end Go.Proofs.YtnedpngadfkmiaaDoor
