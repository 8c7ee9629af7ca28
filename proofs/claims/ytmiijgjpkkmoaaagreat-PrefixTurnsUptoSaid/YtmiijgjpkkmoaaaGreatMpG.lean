/- Joined texts: PxDep, PxBlk, PxInts, PxSame. -/
import Derived.Test.YtmiijgjpkkmoaaaGreatMpB
import Derived.Test.YtmiijgjpkkmoaaaGreatEqual
import Derived.Test.YtmiijgjpkkmoaaaGreatMgA
import Derived.Test.YtmiijgjpkkmoaaaGreatMgR
/- slices.EqualFunc over rows of two cells (of dependencies). -/
namespace Go.Proofs.YtmiijgjpkkmoaaaGreat
open Go.RowKit
set_option linter.unusedVariables false
set_option linter.unusedSimpArgs false

end Go.Proofs.YtmiijgjpkkmoaaaGreat

/- slices.EqualFunc over rows of two cells (of blocks). -/
namespace Go.Proofs.YtmiijgjpkkmoaaaGreat
open Go.RowKit
set_option linter.unusedVariables false
set_option linter.unusedSimpArgs false

end Go.Proofs.YtmiijgjpkkmoaaaGreat

/- The reference's Ints and Lists. -/
namespace Go.Proofs.YtmiijgjpkkmoaaaGreat
open Go.RowKit
set_option linter.unusedVariables false

set_option maxHeartbeats 400000 in
theorem ints_any (v u : Value) (l m : List Int) (w : World) (H : IsInts w v l) (K : IsInts w u m) :
    Calls Tryz.prog 16 #[v, u] w fun e w' => e = .returned (.bool (sameB l m)) ∧ Quiet w w' := by
  obtain ⟨a, cap, rfl, _, _, hl, h64, b, off, ha, hc⟩ := H
  obtain ⟨a2, cap2, rfl, _, _, hl2, h642, b2, off2, ha2, hc2⟩ := K
  by_cases hlen : l.length = m.length
  · have hne : ((l.length : Int) != (m.length : Int)) = false := by simp [hlen]
    have HL := Lib.hid hlen
    clear hlen
    go_enter Tryz.func16, Tryz.ntmps16
    go_wp2
    go_loopw [5] (fun i wr => ∃ k : Nat, k ≤ l.length ∧ i = .int .i64 k ∧ Quiet w wr ∧ l.take k = m.take k) (fun i _ => l.length - (intOf i).toNat)
    case atStart => exact ⟨0, Nat.zero_le _, rfl, Quiet.refl _, by simp⟩
    case round =>
      obtain ⟨k, hk, rfl, hq, hn⟩ := hrel
      have HN := Lib.hid hn
      clear hn
      by_cases hlt : k < l.length
      · have hlt2 : k < m.length := by rw [← HL.out]; exact hlt
        obtain ⟨rfl, hb⟩ := ha (by intro h; simp [h] at hlt)
        obtain ⟨rfl, hb2⟩ := ha2 (by intro h; simp [h] at hlt2)
        have hy := (hq.cell _).trans (hc k hlt)
        have hz := (hq.cell _).trans (hc2 k hlt2)
        have htk : l.take (k + 1) = l.take k ++ [l.getD k 0] := by rw [List.take_succ_eq_append_getElem hlt]; simp [List.getD, hlt]
        have htk2 : m.take (k + 1) = m.take k ++ [m.getD k 0] := by rw [List.take_succ_eq_append_getElem hlt2]; simp [List.getD, hlt2]
        have hneq : l.getD k 0 ≠ m.getD k 0 → l ≠ m := fun h e => h (by rw [e])
        have HT := Lib.hid htk
        have HT2 := Lib.hid htk2
        generalize l.getD k 0 = y at *
        generalize m.getD k 0 = z at *
        clear htk htk2 hc ha hc2 ha2
        by_cases he : y = z
        · subst he
          have he : (y != y) = false := by simp
          go_wp2_with fail
          go_quiet (fail)
          go_wp2
          go_roundw
          case rel => exact ⟨k + 1, by omega, by go_num, hq.drewN _, by rw [HT.out, HT2.out, HN.out]⟩
          case measure => simp [intOf]; omega
        · have he' : (y != z) = true := by simp [he]
          have hlm := hneq he
          clear hneq
          go_wp2_with fail
          go_quiet (fail)
          go_wp2
          go_ret
          exact ⟨ret_bool (by unfold sameB; simp [hlm]), hq.drewN _⟩
      · have HE : Hid (l = m) := by
          have h := HN.out
          rw [List.take_of_length_le (by omega), List.take_of_length_le (by rw [← HL.out]; omega)] at h
          exact h
        go_wp2
        go_ret
        exact ⟨ret_bool (by unfold sameB; simp [HE.out]), hq⟩
  · have hne : ((l.length : Int) != (m.length : Int)) = true := by simp; omega
    go_enter Tryz.func16, Tryz.ntmps16
    go_wp2
    go_ret
    exact ⟨ret_bool (by unfold sameB; simp; intro h; exact hlen (by rw [h])), Quiet.refl _⟩

set_option maxHeartbeats 800000 in
set_option maxRecDepth 100000 in
theorem lists_any (v u : Value) (l m : List (List Int)) (w : World) (H : IsRows w v l) (K : IsRows w u m) :
    Calls Tryz.prog 47 #[v, u] w fun e w' => e = .returned (.bool (sameB l m)) ∧ Quiet w w' := by
  obtain ⟨a, cap, rfl, hl⟩ := H.shape
  obtain ⟨a2, cap2, rfl, hl2⟩ := K.shape
  by_cases hlen : l.length = m.length
  · have hne : ((l.length : Int) != (m.length : Int)) = false := by simp [hlen]
    have HL := Lib.hid hlen
    clear hlen
    go_enter Tryz.func47, Tryz.ntmps47
    go_wp2
    go_loopw [5] (fun i wr => ∃ k : Nat, k ≤ l.length ∧ i = .int .i64 k ∧ Quiet w wr ∧ l.take k = m.take k) (fun i _ => l.length - (intOf i).toNat)
    case atStart => exact ⟨0, Nat.zero_le _, rfl, Quiet.refl _, by simp⟩
    case round =>
      obtain ⟨k, hk, rfl, hq, hn⟩ := hrel
      have HN := Lib.hid hn
      clear hn
      by_cases hlt : k < l.length
      · have hlt2 : k < m.length := by rw [← HL.out]; exact hlt
        obtain ⟨b, off, u1, rfl, hb, hu0, HU0⟩ := H.at hlt
        obtain ⟨b2, off2, u2, rfl, hb2, hv0, HV0⟩ := K.at hlt2
        have hy := (hq.cell _).trans hu0
        have hz := (hq.cell _).trans hv0
        have HT := Lib.hid (rows_take_succ hlt)
        have HT2 := Lib.hid (rows_take_succ hlt2)
        have HNE := Lib.hid (show l.getD k [] ≠ m.getD k [] → l ≠ m from fun h e => h (by rw [e]))
        have hc := fun n => ints_any u1 u2 _ _ (wr.drewN n) ((HU0.quiet hq).drewN n) ((HV0.quiet hq).drewN n)
        generalize l.getD k [] = y at *
        generalize m.getD k [] = z at *
        by_cases he : y = z
        · have hs : sameB y z = true := by unfold sameB; simp [he]
          have HE := Lib.hid he
          clear he
          go_wp2_with fail
          go_quiet ((go_at_call 16; exact quiet_q (hc _)))
          go_wp2
          go_roundw
          case rel => exact ⟨k + 1, by omega, by go_num, hq.drewN _, by rw [HT.out, HT2.out, HN.out, HE.out]⟩
          case measure => simp [intOf]; omega
        · have hs : sameB y z = false := by unfold sameB; simp [he]
          have HLM : Hid (sameB l m = false) := by show _ = _; unfold sameB; rw [decide_eq_false_iff_not]; exact HNE.out he
          clear he
          go_wp2_with fail
          go_quiet ((go_at_call 16; exact quiet_q (hc _)))
          go_wp2
          go_ret
          exact ⟨ret_bool HLM.out.symm, hq.drewN _⟩
      · have HE : Hid (sameB l m = true) := by
          have h := HN.out
          rw [List.take_of_length_le (by omega), List.take_of_length_le (by rw [← HL.out]; omega)] at h
          show _ = _; unfold sameB; simp [h]
        go_wp2
        go_ret
        exact ⟨ret_bool HE.out.symm, hq⟩
  · have hne : ((l.length : Int) != (m.length : Int)) = true := by simp; omega
    have HE : Hid (sameB l m = false) := by show _ = _; unfold sameB; rw [decide_eq_false_iff_not]; intro h; exact hlen (by rw [h])
    clear hlen
    go_enter Tryz.func47, Tryz.ntmps47
    go_wp2
    go_ret
    exact ⟨ret_bool HE.out.symm, Quiet.refl _⟩

end Go.Proofs.YtmiijgjpkkmoaaaGreat

/- prefix.Same and the reference's; slices.EqualFunc over clauses. -/
namespace Go.Proofs.YtmiijgjpkkmoaaaGreat
open Go.RowKit
set_option linter.unusedVariables false
set_option linter.unusedSimpArgs false

set_option maxHeartbeats 1600000 in
set_option maxRecDepth 100000 in
theorem rsame_any (v u : Value) (l m : List (Bool × List Int)) (w : World) (H : IsBlocks w v l) (K : IsBlocks w u m) :
    Calls Tryz.prog 15 #[v, u] w fun e w' => e = .returned (.bool (sameB l m)) ∧ Quiet w w' := by
  obtain ⟨a, cap, rfl, hl⟩ := H.shape
  obtain ⟨a2, cap2, rfl, hl2⟩ := K.shape
  by_cases hlen : l.length = m.length
  · have hne : ((l.length : Int) != (m.length : Int)) = false := by simp [hlen]
    have HL := Lib.hid hlen
    clear hlen
    go_enter Tryz.func15, Tryz.ntmps15
    go_wp2
    go_loopw [5] (fun i wr => ∃ k : Nat, k ≤ l.length ∧ i = .int .i64 k ∧ Quiet w wr ∧ l.take k = m.take k) (fun i _ => l.length - (intOf i).toNat)
    case atStart => exact ⟨0, Nat.zero_le _, rfl, Quiet.refl _, by simp⟩
    case round =>
      obtain ⟨k, hk, rfl, hq, hn⟩ := hrel
      have HN := Lib.hid hn
      clear hn
      by_cases hlt : k < l.length
      · have hlt2 : k < m.length := by rw [← HL.out]; exact hlt
        obtain ⟨b, off, u1, rfl, hb, hx0, hu0, HU0⟩ := H.at hlt
        obtain ⟨b2, off2, u2, rfl, hb2, hy0, hv0, HV0⟩ := K.at hlt2
        have hcx := (hq.cell _).trans hx0
        have hcu := (hq.cell _).trans hu0
        have hcy := (hq.cell _).trans hy0
        have hcv := (hq.cell _).trans hv0
        have HT := Lib.hid (take_two (d := (false, ([] : List Int))) hlt)
        have HT2 := Lib.hid (take_two (d := (false, ([] : List Int))) hlt2)
        have HNE := Lib.hid (show l.getD k (false, ([] : List Int)) ≠ m.getD k (false, ([] : List Int)) → l ≠ m from fun h e => h (by rw [e]))
        have hc := fun n => ints_any u1 u2 _ _ (wr.drewN n) ((HU0.quiet hq).drewN n) ((HV0.quiet hq).drewN n)
        generalize l.getD k (false, ([] : List Int)) = y at *
        generalize m.getD k (false, ([] : List Int)) = z at *
        obtain ⟨y1, y2⟩ := y
        obtain ⟨z1, z2⟩ := z
        simp only at hcx hcu hcy hcv hc
        clear hx0 hu0 hy0 hv0 HU0 HV0
        by_cases h1 : y1 = z1
        · subst h1
          have hyy : (y1 != y1) = false := by simp
          by_cases he : y2 = z2
          · have hs : sameB y2 z2 = true := by unfold sameB; simp [he]
            have HE := Lib.hid he
            clear he
            go_wp2_with fail
            go_quiet ((go_at_call 16; exact quiet_q (hc _)))
            go_wp2
            go_roundw
            case rel => exact ⟨k + 1, by omega, by go_num, hq.drewN _, by rw [HT.out, HT2.out, HN.out, HE.out]⟩
            case measure => simp [intOf]; omega
          · have hs : sameB y2 z2 = false := by unfold sameB; simp [he]
            have HLM : Hid (sameB l m = false) := by show _ = _; unfold sameB; rw [decide_eq_false_iff_not]; exact HNE.out fun h => he (Prod.mk.inj h).2
            clear he
            go_wp2_with fail
            go_quiet ((go_at_call 16; exact quiet_q (hc _)))
            go_wp2
            go_ret
            exact ⟨ret_bool HLM.out.symm, hq.drewN _⟩
        · have HLM : Hid (sameB l m = false) := by show _ = _; unfold sameB; rw [decide_eq_false_iff_not]; exact HNE.out fun h => h1 (Prod.mk.inj h).1
          have h2 : (y1 = true ∧ z1 = false) ∨ (y1 = false ∧ z1 = true) := by cases y1 <;> cases z1 <;> simp at h1 ⊢
          clear h1 hc HNE
          rcases h2 with ⟨rfl, rfl⟩ | ⟨rfl, rfl⟩
          · go_wp2_with fail
            go_quiet (fail)
            go_wp2
            go_ret
            exact ⟨ret_bool HLM.out.symm, hq.drewN _⟩
          · go_wp2_with fail
            go_quiet (fail)
            go_wp2
            go_ret
            exact ⟨ret_bool HLM.out.symm, hq.drewN _⟩
      · have HE : Hid (sameB l m = true) := by
          have h := HN.out
          rw [List.take_of_length_le (by omega), List.take_of_length_le (by rw [← HL.out]; omega)] at h
          show _ = _; unfold sameB; simp [h]
        go_wp2
        go_ret
        exact ⟨ret_bool HE.out.symm, hq⟩
  · have hne : ((l.length : Int) != (m.length : Int)) = true := by simp; omega
    have HE : Hid (sameB l m = false) := by show _ = _; unfold sameB; rw [decide_eq_false_iff_not]; intro h; exact hlen (by rw [h])
    clear hlen
    go_enter Tryz.func15, Tryz.ntmps15
    go_wp2
    go_ret
    exact ⟨ret_bool HE.out.symm, Quiet.refl _⟩

end Go.Proofs.YtmiijgjpkkmoaaaGreat
