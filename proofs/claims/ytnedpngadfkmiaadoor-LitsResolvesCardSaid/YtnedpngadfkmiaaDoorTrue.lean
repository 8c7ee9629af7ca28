/- true1: whether a literal of a normal list is true. -/
import Derived.Test.YtnedpngadfkmiaaDoorPureMean
import Derived.Test.YtnedpngadfkmiaaDoorHas
namespace Go.Proofs.YtnedpngadfkmiaaDoor
open Go.RowKit
set_option linter.unusedVariables false

theorem any_take_succ {p : Int → Bool} {l : List Int} {k : Nat} (h : k < l.length) (hn : (l.take k).any p = false) (hp : p (l.getD k 0) = false) : (l.take (k + 1)).any p = false := by
  rw [List.take_succ_eq_append_getElem h, List.any_append, hn]
  simpa [List.getD, h] using hp
theorem any_at {p : Int → Bool} {l : List Int} {k : Nat} (h : k < l.length) (hp : p (l.getD k 0) = true) : l.any p = true :=
  List.any_eq_true.2 ⟨_, getD_mem h, hp⟩

set_option maxHeartbeats 800000 in
theorem true1_any (v u : Value) (l s : List Int) (w : World) (H : IsInts w v l) (K : IsInts w u s) (hm : mayB l = true) :
    Calls Tryd.prog 56 #[v, u] w fun e w' => e = .returned (.bool (trueB l s)) ∧ w = w' := by
  obtain ⟨a, cap, rfl, _, _, hl, h64, b, off, ha, hc⟩ := H
  go_enter Tryd.func56, Tryd.ntmps56
  go_wp2
  go_loop [9] (fun i => ∃ k : Nat, k ≤ l.length ∧ i = .int .i64 k ∧ (l.take k).any (litTB s) = false) (fun i => l.length - (intOf i).toNat)
  case atStart => exact ⟨0, Nat.zero_le _, rfl, by simp⟩
  case round =>
    obtain ⟨k, hk, rfl, hn⟩ := hrel
    by_cases hlt : k < l.length
    · obtain ⟨rfl, hb⟩ := ha (by intro h; simp [h] at hlt)
      have hx := hc k hlt
      obtain ⟨hx0, hx1, hx2⟩ := litB_bd (mayB_mem hm _ (getD_mem hlt))
      have HNo := Lib.hid (any_take_succ hlt hn)
      have HYes := Lib.hid (any_at (p := litTB s) hlt)
      generalize l.getD k 0 = x at *
      have HA : Hid (absOf x = max x (-x)) := by show _ = _; unfold absOf; split <;> omega
      clear hc ha hn
      by_cases hp : 0 < x
      · have hp' : decide (0 < x) = true := by simpa using hp
        cases hq : memB s (max x (-x))
        · have HF : Hid (litTB s x = false) := by show _ = _; unfold litTB; rw [HA.out, hq, hp']; rfl
          go_wp2_with (go_at_call 57; refine (contains_any _ s _ _ K (by omega) (by omega)).mono ?_; rintro e w' ⟨rfl, rfl⟩)
          go_round
          case rel => exact ⟨k + 1, by omega, by go_num, HNo.out HF.out⟩
          case measure => simp [intOf]; omega
        · have HF : Hid (litTB s x = true) := by show _ = _; unfold litTB; rw [HA.out, hq, hp']; rfl
          go_wp2_with (go_at_call 57; refine (contains_any _ s _ _ K (by omega) (by omega)).mono ?_; rintro e w' ⟨rfl, rfl⟩)
          go_ret
          exact ⟨ret_bool (HYes.out HF.out).symm, rfl⟩
      · have hp' : decide (0 < x) = false := by simpa using hp
        cases hq : memB s (max x (-x))
        · have HF : Hid (litTB s x = true) := by show _ = _; unfold litTB; rw [HA.out, hq, hp']; rfl
          go_wp2_with (go_at_call 57; refine (contains_any _ s _ _ K (by omega) (by omega)).mono ?_; rintro e w' ⟨rfl, rfl⟩)
          go_ret
          exact ⟨ret_bool (HYes.out HF.out).symm, rfl⟩
        · have HF : Hid (litTB s x = false) := by show _ = _; unfold litTB; rw [HA.out, hq, hp']; rfl
          go_wp2_with (go_at_call 57; refine (contains_any _ s _ _ K (by omega) (by omega)).mono ?_; rintro e w' ⟨rfl, rfl⟩)
          go_round
          case rel => exact ⟨k + 1, by omega, by go_num, HNo.out HF.out⟩
          case measure => simp [intOf]; omega
    · rw [List.take_of_length_le (by omega)] at hn
      have HN := Lib.hid hn
      clear hn
      go_wp2
      go_ret
      exact ⟨ret_bool HN.out.symm, rfl⟩

end Go.Proofs.YtnedpngadfkmiaaDoor
