/- The reference's Ints (layer 5). -/
import Derived.Test.YtppglbffmgnooaaGreatK01
namespace Go.Proofs.YtppglbffmgnooaaGreat
open Go.RowKit
set_option linter.unusedVariables false

set_option maxHeartbeats 400000 in
theorem ints5_any (v u : Value) (l m : List Int) (w : World) (H : IsInts w v l) (K : IsInts w u m) :
    Calls Tryz.prog 26 #[v, u] w fun e w' => e = .returned (.bool (sameB l m)) ∧ Quiet w w' := by
  obtain ⟨a, cap, rfl, _, _, hl, h64, b, off, ha, hc⟩ := H
  obtain ⟨a2, cap2, rfl, _, _, hl2, h642, b2, off2, ha2, hc2⟩ := K
  by_cases hlen : l.length = m.length
  · have hne : ((l.length : Int) != (m.length : Int)) = false := by simp [hlen]
    have HL := Lib.hid hlen
    clear hlen
    go_enter Tryz.func26, Tryz.ntmps26
    go_wp2
    go_loopw [5] (fun i wr => ∃ k : Nat, k ≤ l.length ∧ i = .int .i64 k ∧ Quiet w wr ∧ l.take k = m.take k) (fun i _ => l.length - (intOf i).toNat)
    case atStart => exact ⟨0, Nat.zero_le _, rfl, Quiet.refl _, by simp⟩
    case round =>
      obtain ⟨k, hk, rfl, hq, hn⟩ := hrel
      have HN := Lib.hid hn
      clear hn
      by_cases hlt : k < l.length
      · have hlt2 : k < m.length := by rw [← HL.out]; exact hlt
        obtain ⟨rfl, hb⟩ := ha (by intro h; simp [h] at hlt)
        obtain ⟨rfl, hb2⟩ := ha2 (by intro h; simp [h] at hlt2)
        have hy := (hq.cell _).trans (hc k hlt)
        have hz := (hq.cell _).trans (hc2 k hlt2)
        have htk : l.take (k + 1) = l.take k ++ [l.getD k 0] := by rw [List.take_succ_eq_append_getElem hlt]; simp [List.getD, hlt]
        have htk2 : m.take (k + 1) = m.take k ++ [m.getD k 0] := by rw [List.take_succ_eq_append_getElem hlt2]; simp [List.getD, hlt2]
        have hneq : l.getD k 0 ≠ m.getD k 0 → l ≠ m := fun h e => h (by rw [e])
        have HT := Lib.hid htk
        have HT2 := Lib.hid htk2
        generalize l.getD k 0 = y at *
        generalize m.getD k 0 = z at *
        clear htk htk2 hc ha hc2 ha2
        by_cases he : y = z
        · subst he
          have he : (y != y) = false := by simp
          go_wp2_with fail
          go_quiet (fail)
          go_wp2
          go_roundw
          case rel => exact ⟨k + 1, by omega, by go_num, hq.drewN _, by rw [HT.out, HT2.out, HN.out]⟩
          case measure => simp [intOf]; omega
        · have he' : (y != z) = true := by simp [he]
          have hlm := hneq he
          clear hneq
          go_wp2_with fail
          go_quiet (fail)
          go_wp2
          go_ret
          exact ⟨ret_bool (by unfold sameB; simp [hlm]), hq.drewN _⟩
      · have HE : Hid (l = m) := by
          have h := HN.out
          rw [List.take_of_length_le (by omega), List.take_of_length_le (by rw [← HL.out]; omega)] at h
          exact h
        go_wp2
        go_ret
        exact ⟨ret_bool (by unfold sameB; simp [HE.out]), hq⟩
  · have hne : ((l.length : Int) != (m.length : Int)) = true := by simp; omega
    go_enter Tryz.func26, Tryz.ntmps26
    go_wp2
    go_ret
    exact ⟨ret_bool (by unfold sameB; simp; intro h; exact hlen (by rw [h])), Quiet.refl _⟩

end Go.Proofs.YtppglbffmgnooaaGreat
