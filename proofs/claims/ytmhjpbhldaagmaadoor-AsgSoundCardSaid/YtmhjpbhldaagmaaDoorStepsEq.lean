/- slices.Equal of lists of steps. -/
import Derived.Test.YtmhjpbhldaagmaaDoorMgW
namespace Go.Proofs.YtmhjpbhldaagmaaDoor
open Go.RowKit
set_option linter.unusedVariables false

def stepsB (l m : List (Int × Nat)) : Bool := decide (l = m)

set_option maxHeartbeats 800000 in
theorem equals_any (v u : Value) (l m : List (Int × Nat)) (w : World) (H : IsSteps w v l) (K : IsSteps w u m) :
    Calls Tryd.prog 28 #[v, u] w fun e w' => e = .returned (.bool (stepsB l m)) ∧ Quiet w w' := by
  obtain ⟨a, cap, rfl, hcl, hcm, hl, hp, b, ha, hc⟩ := H
  obtain ⟨a2, cap2, rfl, hcl2, hcm2, hl2, hp2, b2, ha2, hc2⟩ := K
  by_cases hlen : l.length = m.length
  · have hne : ((l.length : Int) != (m.length : Int)) = false := by simp [hlen]
    have HL := Lib.hid hlen
    clear hlen
    go_enter Tryd.func28, Tryd.ntmps28
    go_wp2
    go_loopw [13] (fun i wr => ∃ k : Nat, k ≤ l.length ∧ i = .int .i64 k ∧ Quiet w wr ∧ l.take k = m.take k) (fun i _ => l.length - (intOf i).toNat)
    case atStart => exact ⟨0, Nat.zero_le _, rfl, Quiet.refl _, by simp⟩
    case round =>
      obtain ⟨k, hk, rfl, hq, hn⟩ := hrel
      have HN := Lib.hid hn
      clear hn
      by_cases hlt : k < l.length
      · have hlt2 : k < m.length := by rw [← HL.out]; exact hlt
        obtain ⟨rfl, hb⟩ := ha (by intro h; simp [h] at hlt)
        obtain ⟨rfl, hb2⟩ := ha2 (by intro h; simp [h] at hlt2)
        have hy1 : wr.cell? ⟨b, k * 2, none⟩ = some (.int .i64 (l.getD k (0, 0)).1) := by rw [Nat.mul_comm k 2]; exact (hq.cell _).trans (hc k hlt).1
        have hy2 : wr.cell? ⟨b, k * 2 + 1, none⟩ = some (.int .i64 ((l.getD k (0, 0)).2 : Int)) := by rw [Nat.mul_comm k 2]; exact (hq.cell _).trans (hc k hlt).2
        have hz1 : wr.cell? ⟨b2, k * 2, none⟩ = some (.int .i64 (m.getD k (0, 0)).1) := by rw [Nat.mul_comm k 2]; exact (hq.cell _).trans (hc2 k hlt2).1
        have hz2 : wr.cell? ⟨b2, k * 2 + 1, none⟩ = some (.int .i64 ((m.getD k (0, 0)).2 : Int)) := by rw [Nat.mul_comm k 2]; exact (hq.cell _).trans (hc2 k hlt2).2
        have htk : l.take (k + 1) = l.take k ++ [l.getD k (0, 0)] := by rw [List.take_succ_eq_append_getElem hlt]; simp [List.getD, hlt]
        have htk2 : m.take (k + 1) = m.take k ++ [m.getD k (0, 0)] := by rw [List.take_succ_eq_append_getElem hlt2]; simp [List.getD, hlt2]
        have hneq : l.getD k (0, 0) ≠ m.getD k (0, 0) → l ≠ m := fun h e => h (by rw [e])
        have HT := Lib.hid htk
        have HT2 := Lib.hid htk2
        have HNE := Lib.hid hneq
        clear htk htk2 hc ha hc2 ha2 hneq hp hp2
        generalize l.getD k (0, 0) = y at *
        generalize m.getD k (0, 0) = z at *
        obtain ⟨y1, y2⟩ := y
        obtain ⟨z1, z2⟩ := z
        simp only at hy1 hy2 hz1 hz2
        by_cases he : y1 = z1 ∧ y2 = z2
        · obtain ⟨rfl, rfl⟩ := he
          go_wp2_with fail
          go_quiet (fail)
          go_wp2
          go_roundw
          case rel => exact ⟨k + 1, by omega, by go_num, hq.drewN _, by rw [HT.out, HT2.out, HN.out]⟩
          case measure => simp [intOf]; omega
        · have hlm := HNE.out (by intro e; injection e with e1 e2; exact he ⟨e1, e2⟩)
          by_cases h1 : y1 = z1
          · subst h1
            have h2 : ((y2 : Int) == (z2 : Int)) = false := by
              rw [beq_eq_false_iff_ne]
              intro e
              exact he ⟨rfl, by omega⟩
            clear he
            go_wp2_with fail
            go_quiet (fail)
            go_wp2
            go_ret
            exact ⟨ret_bool (by unfold stepsB; simp [hlm]), hq.drewN _⟩
          · have h2 : (y1 == z1) = false := by simpa using h1
            clear he
            go_wp2_with fail
            go_quiet (fail)
            go_wp2
            go_ret
            exact ⟨ret_bool (by unfold stepsB; simp [hlm]), hq.drewN _⟩
      · have HE : Hid (l = m) := by
          have h := HN.out
          rw [List.take_of_length_le (by omega), List.take_of_length_le (by rw [← HL.out]; omega)] at h
          exact h
        go_wp2
        go_ret
        exact ⟨ret_bool (by unfold stepsB; simp [HE.out]), hq⟩
  · have hne : ((l.length : Int) != (m.length : Int)) = true := by simp; omega
    go_enter Tryd.func28, Tryd.ntmps28
    go_wp2
    go_ret
    exact ⟨ret_bool (by unfold stepsB; simp; intro h; exact hlen (by rw [h])), Quiet.refl _⟩

end Go.Proofs.YtmhjpbhldaagmaaDoor
