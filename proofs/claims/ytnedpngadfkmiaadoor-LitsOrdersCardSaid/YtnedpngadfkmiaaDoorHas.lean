/- Elements of lists, equality of lists. -/
import Derived.Test.YtnedpngadfkmiaaDoorMay
namespace Go.Proofs.YtnedpngadfkmiaaDoor
open Go.RowKit
set_option linter.unusedVariables false

def memB (l : List Int) (x : Int) : Bool := decide (x ∈ l)

theorem may_v (v : Value) (l : List Int) (w : World) (H : IsInts w v l) : Calls Tryd.prog 24 #[v] w fun e w' => e = .returned (.bool (mayB l)) ∧ w = w' := by
  obtain ⟨a, cap, rfl, _, _, h4, h5, h6⟩ := H
  exact may_any a cap l w (by omega) h5 h6
theorem rmay_v (v : Value) (l : List Int) (w : World) (H : IsInts w v l) : Calls Tryd.prog 25 #[v] w fun e w' => e = .returned (.bool (mayB l)) ∧ Quiet w w' := by
  obtain ⟨a, cap, rfl, _, _, h4, h5, h6⟩ := H
  exact rmay_any a cap l w (by omega) h5 h6

def IdxPost (l : List Int) (x : Int) (w : World) (e : Ending) (w' : World) : Prop := ∃ r : Int, e = .returned (.int .i64 r) ∧ w = w' ∧ -1 ≤ r ∧ r ≤ l.length ∧ (0 ≤ r ↔ x ∈ l)

set_option maxHeartbeats 400000 in
theorem index_any (v : Value) (l : List Int) (x : Int) (w : World) (H : IsInts w v l) (hx1 : -9223372036854775808 ≤ x) (hx2 : x ≤ 9223372036854775807) :
    Calls Tryd.prog 112 #[v, .int .i64 x] w (IdxPost l x w) := by
  obtain ⟨a, cap, rfl, _, _, hl, h64, b, off, ha, hc⟩ := H
  go_enter Tryd.func112, Tryd.ntmps112
  go_wp2
  go_loop [8] (fun i => ∃ k : Nat, k ≤ l.length ∧ i = .int .i64 k ∧ x ∉ l.take k) (fun i => l.length - (intOf i).toNat)
  case atStart => exact ⟨0, Nat.zero_le _, rfl, by simp⟩
  case round =>
    obtain ⟨k, hk, rfl, hn⟩ := hrel
    by_cases hlt : k < l.length
    · obtain ⟨rfl, hb⟩ := ha (by intro h; simp [h] at hlt)
      have hy := hc k hlt
      have hmem : l.getD k 0 ∈ l := by simp [List.getD, hlt]
      have htk : l.take (k + 1) = l.take k ++ [l.getD k 0] := by rw [List.take_succ_eq_append_getElem hlt]; simp [List.getD, hlt]
      have HT := Lib.hid htk
      generalize l.getD k 0 = y at *
      clear htk hc ha
      by_cases he : x = y
      · subst he
        have he : (x == x) = true := by simp
        clear HT
        go_wp2
        go_ret
        exact ⟨k, rfl, rfl, by omega, by omega, by simp [hmem]⟩
      · have he' : (x == y) = false := by simp [he]
        go_wp2
        go_round
        case rel => exact ⟨k + 1, by omega, by go_num, by rw [HT.out]; simp [hn, he]⟩
        case measure => simp [intOf]; omega
    · rw [List.take_of_length_le (by omega)] at hn
      go_wp2
      go_ret
      exact ⟨-1, rfl, rfl, by omega, by omega, by simp [hn]⟩

set_option maxHeartbeats 400000 in
theorem contains_any (v : Value) (l : List Int) (x : Int) (w : World) (H : IsInts w v l) (hx1 : -9223372036854775808 ≤ x) (hx2 : x ≤ 9223372036854775807) :
    Calls Tryd.prog 57 #[v, .int .i64 x] w fun e w' => e = .returned (.bool (memB l x)) ∧ w = w' := by
  go_enter Tryd.func57, Tryd.ntmps57
  go_wp2_with (go_at_call 112; refine (index_any v l x _ H hx1 hx2).mono ?_; rintro e w' ⟨r, rfl, rfl, hr1, hr2, hr3⟩)
  go_ret
  exact ⟨ret_bool (by unfold memB; simp), rfl⟩

set_option maxHeartbeats 400000 in
theorem has_any (v : Value) (l : List Int) (x : Int) (w : World) (H : IsInts w v l) (hx1 : -9223372036854775808 ≤ x) (hx2 : x ≤ 9223372036854775807) :
    Calls Tryd.prog 26 #[v, .int .i64 x] w fun e w' => e = .returned (.bool (memB l x)) ∧ w = w' := by
  go_enter Tryd.func26, Tryd.ntmps26
  go_wp2_with (go_at_call 57; refine (contains_any v l x _ H hx1 hx2).mono ?_; rintro e w' ⟨rfl, rfl⟩)
  go_ret
  exact ⟨rfl, rfl⟩

set_option maxHeartbeats 400000 in
theorem rhas_any (v : Value) (l : List Int) (x : Int) (w : World) (H : IsInts w v l) (hx1 : -9223372036854775808 ≤ x) (hx2 : x ≤ 9223372036854775807) :
    Calls Tryd.prog 27 #[v, .int .i64 x] w fun e w' => e = .returned (.bool (memB l x)) ∧ w = w' := by
  obtain ⟨a, cap, rfl, _, _, hl, h64, b, off, ha, hc⟩ := H
  go_enter Tryd.func27, Tryd.ntmps27
  go_wp2
  go_loop [5] (fun i => ∃ k : Nat, k ≤ l.length ∧ i = .int .i64 k ∧ x ∉ l.take k) (fun i => l.length - (intOf i).toNat)
  case atStart => exact ⟨0, Nat.zero_le _, rfl, by simp⟩
  case round =>
    obtain ⟨k, hk, rfl, hn⟩ := hrel
    by_cases hlt : k < l.length
    · obtain ⟨rfl, hb⟩ := ha (by intro h; simp [h] at hlt)
      have hy := hc k hlt
      have hmem : l.getD k 0 ∈ l := by simp [List.getD, hlt]
      have htk : l.take (k + 1) = l.take k ++ [l.getD k 0] := by rw [List.take_succ_eq_append_getElem hlt]; simp [List.getD, hlt]
      have HT := Lib.hid htk
      generalize l.getD k 0 = y at *
      clear htk hc ha
      by_cases he : y = x
      · subst he
        have he : (y == y) = true := by simp
        clear HT
        go_wp2
        go_ret
        exact ⟨ret_bool (by unfold memB; simp [hmem]), rfl⟩
      · have he' : (y == x) = false := by simp [he]
        go_wp2
        go_round
        case rel => exact ⟨k + 1, by omega, by go_num, by rw [HT.out]; simp [hn, Ne.symm he]⟩
        case measure => simp [intOf]; omega
    · rw [List.take_of_length_le (by omega)] at hn
      go_wp2
      go_ret
      exact ⟨ret_bool (by unfold memB; simp [hn]), rfl⟩

/-- Whether two lists are equal. -/
def sameB {α : Type} [DecidableEq α] (l m : List α) : Bool := decide (l = m)

set_option maxHeartbeats 400000 in
theorem same_any (v u : Value) (l m : List Int) (w : World) (H : IsInts w v l) (K : IsInts w u m) :
    Calls Tryd.prog 107 #[v, u] w fun e w' => e = .returned (.bool (sameB l m)) ∧ Quiet w w' := by
  obtain ⟨a, cap, rfl, _, _, hl, h64, b, off, ha, hc⟩ := H
  obtain ⟨a2, cap2, rfl, _, _, hl2, h642, b2, off2, ha2, hc2⟩ := K
  by_cases hlen : l.length = m.length
  · have hne : ((l.length : Int) != (m.length : Int)) = false := by simp [hlen]
    have HL := Lib.hid hlen
    clear hlen
    go_enter Tryd.func107, Tryd.ntmps107
    go_wp2
    go_loopw [5] (fun i wr => ∃ k : Nat, k ≤ l.length ∧ i = .int .i64 k ∧ Quiet w wr ∧ l.take k = m.take k) (fun i _ => l.length - (intOf i).toNat)
    case atStart => exact ⟨0, Nat.zero_le _, rfl, Quiet.refl _, by simp⟩
    case round =>
      obtain ⟨k, hk, rfl, hq, hn⟩ := hrel
      have HN := Lib.hid hn
      clear hn
      by_cases hlt : k < l.length
      · have hlt2 : k < m.length := by rw [← HL.out]; exact hlt
        obtain ⟨rfl, hb⟩ := ha (by intro h; simp [h] at hlt)
        obtain ⟨rfl, hb2⟩ := ha2 (by intro h; simp [h] at hlt2)
        have hy := (hq.cell _).trans (hc k hlt)
        have hz := (hq.cell _).trans (hc2 k hlt2)
        have htk : l.take (k + 1) = l.take k ++ [l.getD k 0] := by rw [List.take_succ_eq_append_getElem hlt]; simp [List.getD, hlt]
        have htk2 : m.take (k + 1) = m.take k ++ [m.getD k 0] := by rw [List.take_succ_eq_append_getElem hlt2]; simp [List.getD, hlt2]
        have hneq : l.getD k 0 ≠ m.getD k 0 → l ≠ m := fun h e => h (by rw [e])
        have HT := Lib.hid htk
        have HT2 := Lib.hid htk2
        generalize l.getD k 0 = y at *
        generalize m.getD k 0 = z at *
        clear htk htk2 hc ha hc2 ha2
        by_cases he : y = z
        · subst he
          have he : (y != y) = false := by simp
          go_wp2_with fail
          go_quiet (fail)
          go_wp2
          go_roundw
          case rel => exact ⟨k + 1, by omega, by go_num, hq.drewN _, by rw [HT.out, HT2.out, HN.out]⟩
          case measure => simp [intOf]; omega
        · have he' : (y != z) = true := by simp [he]
          have hlm := hneq he
          clear hneq
          go_wp2_with fail
          go_quiet (fail)
          go_wp2
          go_ret
          exact ⟨ret_bool (by unfold sameB; simp [hlm]), hq.drewN _⟩
      · have HE : Hid (l = m) := by
          have h := HN.out
          rw [List.take_of_length_le (by omega), List.take_of_length_le (by rw [← HL.out]; omega)] at h
          exact h
        go_wp2
        go_ret
        exact ⟨ret_bool (by unfold sameB; simp [HE.out]), hq⟩
  · have hne : ((l.length : Int) != (m.length : Int)) = true := by simp; omega
    go_enter Tryd.func107, Tryd.ntmps107
    go_wp2
    go_ret
    exact ⟨ret_bool (by unfold sameB; simp; intro h; exact hlen (by rw [h])), Quiet.refl _⟩

end Go.Proofs.YtnedpngadfkmiaaDoor
