/- Which variables a number has bits for. -/
import Derived.Test.YtmhjpbhldaagmaaDoorAsgVal
namespace Go.Proofs.YtmhjpbhldaagmaaDoor
open Go.RowKit
set_option linter.unusedVariables false

/-- Positive, strictly ascending, at most 64. -/
def manyB (vs : List Int) : Bool := decide (vs.length ≤ 64 ∧ mayB vs = true ∧ ∀ x ∈ vs, 0 ≤ x)

set_option maxHeartbeats 400000 in
theorem negc_any (x : Int) (w : World) : Calls Tryd.prog 80 #[.int .i64 x] w fun e w' => e = .returned (.bool (decide (x < 0))) ∧ w = w' := by
  by_cases h : x < 0
  · have hd : decide (x < 0) = true := decide_eq_true h
    rw [hd]
    clear hd
    go_enter Tryd.func80, Tryd.ntmps80
    go_wp2
    go_ret
    exact ⟨rfl, rfl⟩
  · have hd : decide (x < 0) = false := decide_eq_false h
    rw [hd]
    clear hd
    go_enter Tryd.func80, Tryd.ntmps80
    go_wp2
    go_ret
    exact ⟨rfl, rfl⟩
theorem negc_enters (args : Array Value) (w : World) : (callFunc 80 args).run Tryd.prog w = .ok (.enter 80 args) w := enters_of Tryd.func80 (by kernel_rfl) rfl args w

def IdxN (l : List Int) (w : World) (e : Ending) (w' : World) : Prop := ∃ r : Int, e = .returned (.int .i64 r) ∧ w = w' ∧ (0 ≤ r ↔ ∃ x ∈ l, x < 0)

set_option maxHeartbeats 800000 in
set_option maxRecDepth 100000 in
theorem indexneg_any (v : Value) (l : List Int) (w : World) (H : IsInts w v l) :
    Calls Tryd.prog 111 #[v, .func (.func 80) #[] #[]] w (IdxN l w) := by
  obtain ⟨a, cap, rfl, _, _, hl, h64, b, off, ha, hc⟩ := H
  have eg := negc_enters
  go_enter Tryd.func111, Tryd.ntmps111
  go_wp2
  go_loop [8] (fun i => ∃ k : Nat, k ≤ l.length ∧ i = .int .i64 k ∧ ∀ x ∈ l.take k, 0 ≤ x) (fun i => l.length - (intOf i).toNat)
  case atStart => exact ⟨0, Nat.zero_le _, rfl, by simp⟩
  case round =>
    obtain ⟨k, hk, rfl, hn⟩ := hrel
    have HN := Lib.hid hn
    clear hn
    by_cases hlt : k < l.length
    · obtain ⟨rfl, hb⟩ := ha (by intro h; simp [h] at hlt)
      have hy := hc k hlt
      have HM := Lib.hid (getD_mem hlt)
      have HT := Lib.hid (forall_take_succ (p := fun x => 0 ≤ x) hlt HN.out)
      clear hc ha
      generalize l.getD k 0 = y at *
      have hcall := negc_any y
      by_cases hy0 : y < 0
      · have hd : decide (y < 0) = true := by simpa using hy0
        rw [hd] at hcall
        have HC := Lib.hid hcall
        have HP : Hid (∃ x ∈ l, x < 0) := Lib.hid ⟨y, HM.out, hy0⟩
        clear hcall hd hy0
        go_wp2_with fail
        refine (HC.out _).mono ?_
        rintro e w' ⟨rfl, rfl⟩
        go_wp2
        go_ret
        exact ⟨k, rfl, rfl, fun _ => HP.out, fun _ => by omega⟩
      · have hd : decide (y < 0) = false := by simpa using hy0
        rw [hd] at hcall
        have HC := Lib.hid hcall
        have HP := Lib.hid (HT.out (by omega))
        clear hcall hd hy0
        go_wp2_with fail
        refine (HC.out _).mono ?_
        rintro e w' ⟨rfl, rfl⟩
        go_wp2
        go_round
        case rel => exact ⟨k + 1, by omega, by go_num, HP.out⟩
        case measure => simp [intOf]; omega
    · have HP : Hid (¬ ∃ x ∈ l, x < 0) := by
        intro ⟨x, hx, h⟩
        have := HN.out x (by rw [List.take_of_length_le (by omega)]; exact hx)
        omega
      go_wp2
      go_ret
      exact ⟨-1, rfl, rfl, fun h => by omega, fun h => absurd h HP.out⟩

def anyNeg (l : List Int) : Bool := decide (∃ x ∈ l, x < 0)

set_option maxHeartbeats 800000 in
set_option maxRecDepth 100000 in
theorem containsneg_any (v : Value) (l : List Int) (w : World) (H : IsInts w v l) :
    Calls Tryd.prog 79 #[v, .func (.func 80) #[] #[]] w fun e w' => e = .returned (.bool (anyNeg l)) ∧ w = w' := by
  have hc := indexneg_any v l w H
  have hA : anyNeg l = true ↔ ∃ x ∈ l, x < 0 := by unfold anyNeg; rw [decide_eq_true_eq]
  generalize anyNeg l = c at *
  have HA := Lib.hid hA
  clear hA
  go_enter Tryd.func79, Tryd.ntmps79
  go_wp2_with fail
  refine hc.mono ?_
  rintro e w1 ⟨r, rfl, rfl, hr⟩
  have HR := Lib.hid hr
  clear hr
  go_wp2
  go_ret
  exact ⟨ret_bool (by rw [Bool.eq_iff_iff, decide_eq_true_eq, HA.out]; exact HR.out), rfl⟩

set_option maxHeartbeats 800000 in
set_option maxRecDepth 100000 in
theorem mayvars_any (v : Value) (l : List Int) (w : World) (H : IsInts w v l) :
    Calls Tryd.prog 47 #[v] w fun e w' => e = .returned (.bool (manyB l)) ∧ w = w' := by
  have hA : anyNeg l = true ↔ ∃ x ∈ l, x < 0 := by unfold anyNeg; rw [decide_eq_true_eq]
  have hR : manyB l = (decide (l.length ≤ 64) && mayB l && !anyNeg l) := by
    unfold manyB
    rw [Bool.eq_iff_iff]
    simp only [decide_eq_true_eq, Bool.and_eq_true, Bool.not_eq_true', Bool.eq_false_iff, ne_eq, hA]
    constructor
    · rintro ⟨h1, h2, h3⟩; exact ⟨⟨h1, h2⟩, fun ⟨x, hx, h⟩ => by have := h3 x hx; omega⟩
    · rintro ⟨⟨h1, h2⟩, h3⟩; exact ⟨h1, h2, fun x hx => by rcases Int.lt_or_le x 0 with h | h; exact absurd ⟨x, hx, h⟩ h3; exact h⟩
  have HR := Lib.hid hR
  have c1 := fun w => may_v v l w
  have c2 := containsneg_any v l w H
  have c3 := may_v v l w H
  obtain ⟨a, cap, rfl⟩ := H.shape
  generalize manyB l = mb at *
  generalize mayB l = m1 at *
  generalize anyNeg l = m2 at *
  have C2 := Lib.hid c2
  have C3 := Lib.hid c3
  clear hA hR c1 c2 c3
  by_cases h : l.length ≤ 64
  · cases m1
    · go_enter Tryd.func47, Tryd.ntmps47
      go_wp2_with (go_at_call 32; refine C3.out.mono ?_; rintro e w' ⟨rfl, rfl⟩)
      go_ret
      exact ⟨ret_bool (by rw [HR.out]; simp), rfl⟩
    · cases m2
      · go_enter Tryd.func47, Tryd.ntmps47
        go_wp2_with (first | (go_at_call 32; refine C3.out.mono ?_; rintro e w' ⟨rfl, rfl⟩) | (go_at_call 79; refine C2.out.mono ?_; rintro e w' ⟨rfl, rfl⟩))
        go_ret
        exact ⟨ret_bool (by rw [HR.out]; simp; omega), rfl⟩
      · go_enter Tryd.func47, Tryd.ntmps47
        go_wp2_with (first | (go_at_call 32; refine C3.out.mono ?_; rintro e w' ⟨rfl, rfl⟩) | (go_at_call 79; refine C2.out.mono ?_; rintro e w' ⟨rfl, rfl⟩))
        go_ret
        exact ⟨ret_bool (by rw [HR.out]; simp), rfl⟩
  · go_enter Tryd.func47, Tryd.ntmps47
    go_wp2
    go_ret
    exact ⟨ret_bool (by rw [HR.out]; simp; omega), rfl⟩

end Go.Proofs.YtmhjpbhldaagmaaDoor
