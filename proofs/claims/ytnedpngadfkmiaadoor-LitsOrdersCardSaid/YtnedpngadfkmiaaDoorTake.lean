/- The reader's take. -/
import Derived.Test.YtnedpngadfkmiaaDoorReader
namespace Go.Proofs.YtnedpngadfkmiaaDoor
open Go.RowKit
set_option linter.unusedVariables false

theorem take_sp (s : Rd) : s.take 32 = s.endS := by unfold Rd.take; rw [if_pos rfl]
theorem take_minus_no {s : Rd} (h : s.minus = true ∨ 0 < s.num) : s.take 45 = none := by unfold Rd.take; rw [if_neg (by omega), if_pos rfl, if_pos h]
theorem take_minus {s : Rd} (h : s.minus = false) (h2 : ¬ 0 < s.num) : s.take 45 = some ⟨s.list, s.before, true, s.num⟩ := by unfold Rd.take; rw [if_neg (by omega), if_pos rfl, if_neg (by rw [h]; simp; omega)]
theorem take_digit {s : Rd} {c : Int} (h1 : 48 ≤ c) (h2 : c ≤ 57) (h3 : 0 < 10 * s.num + (c - 48)) (h4 : 10 * s.num + (c - 48) ≤ 65536) : s.take c = some ⟨s.list, s.before, s.minus, 10 * s.num + (c - 48)⟩ := by
  unfold Rd.take; rw [if_neg (by omega), if_neg (by omega), if_pos ⟨h1, h2⟩, if_pos ⟨h3, h4⟩]
theorem take_digit_no {s : Rd} {c : Int} (h1 : 48 ≤ c) (h2 : c ≤ 57) (h3 : ¬ (0 < 10 * s.num + (c - 48) ∧ 10 * s.num + (c - 48) ≤ 65536)) : s.take c = none := by
  unfold Rd.take; rw [if_neg (by omega), if_neg (by omega), if_pos ⟨h1, h2⟩, if_neg h3]
theorem take_no {s : Rd} {c : Int} (h0 : c ≠ 32) (h1 : c ≠ 45) (h2 : ¬ (48 ≤ c ∧ c ≤ 57)) : s.take c = none := by
  unfold Rd.take; rw [if_neg h0, if_neg h1, if_neg h2]

theorem set_minus {B b : Nat} {w : World} {v : Value} {s : Rd} (hB : B ≤ b) (h : IsRd w b v s) (ho : Own w B v s.list) :
    Below B w (w.setCell ⟨b, 2, none⟩ (.bool true)) ∧ Lib.OthersKept 3 (some b) w (w.setCell ⟨b, 2, none⟩ (.bool true)) ∧ IsRd (w.setCell ⟨b, 2, none⟩ (.bool true)) b v ⟨s.list, s.before, true, s.num⟩ ∧ Own (w.setCell ⟨b, 2, none⟩ (.bool true)) B v s.list := by
  refine ⟨(Below.refl _ _).setCell (p := ⟨b, 2, none⟩) hB _, (Lib.OthersKept.refl _ _ _).setCell ⟨b, 2, none⟩ rfl _, ?_, ho.setRd h 2 _⟩
  have := Lib.heap_setCell_same (i := 2) h (.bool true); simpa [IsRd] using this
theorem set_num {B b : Nat} {w : World} {v : Value} {s : Rd} (n : Int) (hB : B ≤ b) (h : IsRd w b v s) (ho : Own w B v s.list) :
    Below B w (w.setCell ⟨b, 3, none⟩ (.int .i64 n)) ∧ Lib.OthersKept 3 (some b) w (w.setCell ⟨b, 3, none⟩ (.int .i64 n)) ∧ IsRd (w.setCell ⟨b, 3, none⟩ (.int .i64 n)) b v ⟨s.list, s.before, s.minus, n⟩ ∧ Own (w.setCell ⟨b, 3, none⟩ (.int .i64 n)) B v s.list := by
  refine ⟨(Below.refl _ _).setCell (p := ⟨b, 3, none⟩) hB _, (Lib.OthersKept.refl _ _ _).setCell ⟨b, 3, none⟩ rfl _, ?_, ho.setRd h 3 _⟩
  have := Lib.heap_setCell_same (i := 3) h (.int .i64 n); simpa [IsRd] using this
/-- The same, whatever the number's spelling. -/
theorem num_no {B b : Nat} {w w3 : World} {v : Value} {s : Rd} {n : Int} {e : Ending} {r : Option Rd} (hr : r = none) (he : e = .returned (.bool false)) (hB : B ≤ b) (h : IsRd w b v s) (ho : Own w B v s.list) (h3 : w3 = w.setCell ⟨b, 3, none⟩ (.int .i64 n)) : StepPost B b w r e w3 := by
  subst h3
  obtain ⟨k1, k2, k3, k4⟩ := set_num n hB h ho
  exact stepNo hr he k1 k2
theorem num_yes {B b : Nat} {w w3 : World} {v : Value} {s : Rd} {n m : Int} {e : Ending} {r : Option Rd} (hr : r = some ⟨s.list, s.before, s.minus, n⟩) (he : e = .returned (.bool true)) (hB : B ≤ b) (h : IsRd w b v s) (ho : Own w B v s.list) (h3 : w3 = w.setCell ⟨b, 3, none⟩ (.int .i64 m)) (hm : m = n) : StepPost B b w r e w3 := by
  subst h3 hm
  obtain ⟨k1, k2, k3, k4⟩ := set_num m hB h ho
  exact stepYes hr he k1 k2 k3 k4

set_option maxHeartbeats 400000 in
set_option maxRecDepth 100000 in
theorem take_any (B b : Nat) (v : Value) (s : Rd) (c : Int) (w : World) (hB : B ≤ b) (hr : IsRd w b v s) (ho : Own w B v s.list) (hBw : B ≤ w.heap.size) (hlen : s.list.length < 17592186044416)
    (hn1 : 0 ≤ s.num) (hn2 : s.num ≤ 65536) (hb1 : -9223372036854775808 ≤ s.before) (hb2 : s.before ≤ 9223372036854775807) (hq1 : 0 ≤ c) (hq2 : c ≤ 2147483647) :
    Calls Tryd.prog 110 #[.pointer (some ⟨b, 0, none⟩), .int .i32 c] w (StepPost B b w (s.take c)) := by
  by_cases h32 : c = 32
  · subst h32
    have HE := Lib.hid (take_sp s)
    go_enter Tryd.func110, Tryd.ntmps110
    go_wp2_with (go_at_call 111; refine (end_any B b v s w hB hr ho hBw hlen hn1 (by omega) hb1 hb2).mono ?_; rintro e w2 h2; obtain ⟨g, rfl⟩ : ∃ g, e = .returned (.bool g) := (by cases hs : s.endS with | none => exact ⟨_, h2.2.2.1 hs⟩ | some s' => exact ⟨_, (h2.2.2.2 s' hs).1⟩))
    go_ret
    rw [HE.out]
    exact h2
  · have t32 : (c == 32) = false := by simpa using h32
    by_cases h45 : c = 45
    · subst h45
      have hc2 := hr.c2
      have hc3 := hr.c3
      cases hm : s.minus
      · rw [hm] at hc2
        by_cases h0 : 0 < s.num
        · have HE := Lib.hid (take_minus_no (s := s) (Or.inr h0))
          go_enter Tryd.func110, Tryd.ntmps110
          go_wp2
          go_ret
          exact stepNo HE.out rfl (Below.refl _ _) (Lib.OthersKept.refl _ _ _)
        · have HE := Lib.hid (take_minus hm h0)
          have hf2 := hr.fz 2
          go_enter Tryd.func110, Tryd.ntmps110
          go_wp2
          go_ret
          obtain ⟨k1, k2, k3, k4⟩ := set_minus hB hr ho
          exact stepYes HE.out rfl k1 k2 k3 k4
      · rw [hm] at hc2
        have HE := Lib.hid (take_minus_no (s := s) (Or.inl hm))
        go_enter Tryd.func110, Tryd.ntmps110
        go_wp2
        go_ret
        exact stepNo HE.out rfl (Below.refl _ _) (Lib.OthersKept.refl _ _ _)
    · have t45 : (c == 45) = false := by simpa using h45
      by_cases hd : 48 ≤ c ∧ c ≤ 57
      · obtain ⟨hd1, hd2⟩ := hd
        have hc3 := hr.c3
        have hf3 := hr.fz 3
        by_cases h3 : 0 < 10 * s.num + (c - 48)
        · by_cases h4 : 10 * s.num + (c - 48) ≤ 65536
          · have HE := Lib.hid (take_digit hd1 hd2 h3 h4)
            go_enter Tryd.func110, Tryd.ntmps110
            go_wp2
            go_ret
            exact num_yes HE.out rfl hB hr ho rfl (by omega)
          · have HE := Lib.hid (take_digit_no (s := s) hd1 hd2 (fun h => h4 h.2))
            go_enter Tryd.func110, Tryd.ntmps110
            go_wp2
            go_ret
            exact num_no HE.out rfl hB hr ho rfl
        · have HE := Lib.hid (take_digit_no (s := s) hd1 hd2 (fun h => h3 h.1))
          go_enter Tryd.func110, Tryd.ntmps110
          go_wp2
          go_ret
          exact num_no HE.out rfl hB hr ho rfl
      · have HE := Lib.hid (take_no (s := s) h32 h45 hd)
        by_cases h48 : 48 ≤ c
        · have h57 : ¬ c ≤ 57 := fun h => hd ⟨h48, h⟩
          go_enter Tryd.func110, Tryd.ntmps110
          go_wp2
          go_ret
          exact stepNo HE.out rfl (Below.refl _ _) (Lib.OthersKept.refl _ _ _)
        · go_enter Tryd.func110, Tryd.ntmps110
          go_wp2
          go_ret
          exact stepNo HE.out rfl (Below.refl _ _) (Lib.OthersKept.refl _ _ _)

end Go.Proofs.YtnedpngadfkmiaaDoor
