/- Joined texts: Equal, PxDep, PxBlk, PxInts, PxSame, CxBlk. -/
import Derived.Test.YticcikelapifaaaK01
import Derived.Test.YticcikelapifaaaK02
/- slices.Equal of lists of integers. -/
namespace Go.Proofs.Yticcikelapifaaa
open Go.RowKit
set_option linter.unusedVariables false

set_option maxHeartbeats 400000 in
theorem equal_any (v u : Value) (l m : List Int) (w : World) (H : IsInts w v l) (K : IsInts w u m) :
    Calls Try.prog 52 #[v, u] w fun e w' => e = .returned (.bool (sameB l m)) ∧ Quiet w w' := by
  obtain ⟨a, cap, rfl, _, _, hl, h64, b, off, ha, hc⟩ := H
  obtain ⟨a2, cap2, rfl, _, _, hl2, h642, b2, off2, ha2, hc2⟩ := K
  by_cases hlen : l.length = m.length
  · have hne : ((l.length : Int) != (m.length : Int)) = false := by simp [hlen]
    have HL := Lib.hid hlen
    clear hlen
    go_enter Try.func52, Try.ntmps52
    go_wp2
    go_loopw [13] (fun i wr => ∃ k : Nat, k ≤ l.length ∧ i = .int .i64 k ∧ Quiet w wr ∧ l.take k = m.take k) (fun i _ => l.length - (intOf i).toNat)
    case atStart => exact ⟨0, Nat.zero_le _, rfl, Quiet.refl _, by simp⟩
    case round =>
      obtain ⟨k, hk, rfl, hq, hn⟩ := hrel
      have HN := Lib.hid hn
      clear hn
      by_cases hlt : k < l.length
      · have hlt2 : k < m.length := by rw [← HL.out]; exact hlt
        obtain ⟨rfl, hb⟩ := ha (by intro h; simp [h] at hlt)
        obtain ⟨rfl, hb2⟩ := ha2 (by intro h; simp [h] at hlt2)
        have hy := (hq.cell _).trans (hc k hlt)
        have hz := (hq.cell _).trans (hc2 k hlt2)
        have htk : l.take (k + 1) = l.take k ++ [l.getD k 0] := by rw [List.take_succ_eq_append_getElem hlt]; simp [List.getD, hlt]
        have htk2 : m.take (k + 1) = m.take k ++ [m.getD k 0] := by rw [List.take_succ_eq_append_getElem hlt2]; simp [List.getD, hlt2]
        have hneq : l.getD k 0 ≠ m.getD k 0 → l ≠ m := fun h e => h (by rw [e])
        have HT := Lib.hid htk
        have HT2 := Lib.hid htk2
        generalize l.getD k 0 = y at *
        generalize m.getD k 0 = z at *
        clear htk htk2 hc ha hc2 ha2
        by_cases he : y = z
        · subst he
          have he : (y != y) = false := by simp
          go_wp2_with fail
          go_quiet (fail)
          go_wp2
          go_roundw
          case rel => exact ⟨k + 1, by omega, by go_num, hq.drewN _, by rw [HT.out, HT2.out, HN.out]⟩
          case measure => simp [intOf]; omega
        · have he' : (y != z) = true := by simp [he]
          have hlm := hneq he
          clear hneq
          go_wp2_with fail
          go_quiet (fail)
          go_wp2
          go_ret
          exact ⟨ret_bool (by unfold sameB; simp [hlm]), hq.drewN _⟩
      · have HE : Hid (l = m) := by
          have h := HN.out
          rw [List.take_of_length_le (by omega), List.take_of_length_le (by rw [← HL.out]; omega)] at h
          exact h
        go_wp2
        go_ret
        exact ⟨ret_bool (by unfold sameB; simp [HE.out]), hq⟩
  · have hne : ((l.length : Int) != (m.length : Int)) = true := by simp; omega
    go_enter Try.func52, Try.ntmps52
    go_wp2
    go_ret
    exact ⟨ret_bool (by unfold sameB; simp; intro h; exact hlen (by rw [h])), Quiet.refl _⟩

end Go.Proofs.Yticcikelapifaaa

/- slices.EqualFunc over rows of two cells (of dependencies). -/
namespace Go.Proofs.Yticcikelapifaaa
open Go.RowKit
set_option linter.unusedVariables false
set_option linter.unusedSimpArgs false

end Go.Proofs.Yticcikelapifaaa

/- slices.EqualFunc over rows of two cells (of blocks). -/
namespace Go.Proofs.Yticcikelapifaaa
open Go.RowKit
set_option linter.unusedVariables false
set_option linter.unusedSimpArgs false

end Go.Proofs.Yticcikelapifaaa

/- The reference's Ints and Lists. -/
namespace Go.Proofs.Yticcikelapifaaa
open Go.RowKit
set_option linter.unusedVariables false

end Go.Proofs.Yticcikelapifaaa

/- prefix.Same and the reference's; slices.EqualFunc over clauses. -/
namespace Go.Proofs.Yticcikelapifaaa
open Go.RowKit
set_option linter.unusedVariables false
set_option linter.unusedSimpArgs false

end Go.Proofs.Yticcikelapifaaa

/- slices.EqualFunc over blocks, with circ.Same's function. -/
namespace Go.Proofs.Yticcikelapifaaa
open Go.RowKit
set_option linter.unusedVariables false
set_option linter.unusedSimpArgs false

set_option maxHeartbeats 800000 in
set_option maxRecDepth 100000 in
theorem pair_blk (x y : Bool) (u v : Value) (l m : List Int) (w : World) (H : IsInts w u l) (K : IsInts w v m) :
    Calls Try.prog 51 #[.agg #[.bool x, u], .agg #[.bool y, v]] w fun e w' => e = .returned (.bool (decide (x = y) && sameB l m)) ∧ Below w.heap.size w w' := by
  obtain ⟨a1, c1, rfl⟩ := H.shape
  obtain ⟨a2, c2, rfl⟩ := K.shape
  have he : ∀ W, Below w.heap.size w W → Calls Try.prog 52 #[.slice a1 l.length c1, .slice a2 m.length c2] W (fun e w' => e = .returned (.bool (sameB l m)) ∧ Below w.heap.size w w') := fun W hW =>
    (equal_any _ _ l m W (H.below hW (Nat.le_refl _)) (K.below hW (Nat.le_refl _))).mono fun e w' h => ⟨h.1, hW.trans (h.2.below _)⟩
  have HE := Lib.hid he
  have hb2 := ((Below.refl w.heap.size w).alloc (Nat.le_refl _) (.cells #[.bool x, .slice a1 l.length c1] 80)).alloc (by simp) (.cells #[.bool y, .slice a2 m.length c2] 80)
  have HB := Lib.hid hb2
  clear he hb2 H K
  generalize sameB l m = s at *
  by_cases hxy : x = y
  · subst hxy
    have hx1 : (x == x) = true := by simp
    have hx2 : decide (x = x) = true := by simp
    go_enter Try.func51, Try.ntmps51
    go_wp2_with (go_at_call 52; refine (HE.out _ HB.out).mono ?_; rintro e w1 ⟨rfl, hb1⟩)
    go_ret
    exact ⟨ret_bool (by simp), hb1⟩
  · have hx1 : (x == y) = false := by simpa using hxy
    have hx2 : decide (x = y) = false := by simpa using hxy
    go_enter Try.func51, Try.ntmps51
    go_wp2_with fail
    go_ret
    exact ⟨ret_bool (by simp [hxy]), HB.out⟩

set_option maxHeartbeats 1600000 in
set_option maxRecDepth 100000 in
theorem eqf_blk (v u : Value) (l m : List (Bool × List Int)) (w : World) (H : IsTwo Value.bool (false, ([] : List Int)) w v l) (K : IsTwo Value.bool (false, ([] : List Int)) w u m) :
    Calls Try.prog 54 #[v, u, .func (.func 51) #[] #[]] w fun e w' => e = .returned (.bool (sameB l m)) ∧ Below w.heap.size w w' := by
  obtain ⟨a, cap, rfl, hl⟩ := H.shape
  obtain ⟨a2, cap2, rfl, hl2⟩ := K.shape
  by_cases hlen : l.length = m.length
  · have hne : ((l.length : Int) != (m.length : Int)) = false := by simp [hlen]
    have HL := Lib.hid hlen
    have HH := Lib.hid H
    have HK := Lib.hid K
    clear hlen H K
    go_enter Try.func54, Try.ntmps54
    go_wp2
    go_loopw [17] (fun i wr => ∃ k : Nat, k ≤ l.length ∧ i = .int .i64 k ∧ Below w.heap.size w wr ∧ l.take k = m.take k) (fun i _ => l.length - (intOf i).toNat)
    case atStart => exact ⟨0, Nat.zero_le _, rfl, Below.refl _ _, by simp⟩
    case round =>
      obtain ⟨k, hk, rfl, hq, hn⟩ := hrel
      have HN := Lib.hid hn
      have hsz := hq.size
      clear hn
      by_cases hlt : k < l.length
      · have hlt2 : k < m.length := by rw [← HL.out]; exact hlt
        obtain ⟨b, off, u1, rfl, hb, hx0, hu0, HU0⟩ := HH.out.at hlt
        obtain ⟨b2, off2, u2, rfl, hb2, hy0, hv0, HV0⟩ := HK.out.at hlt2
        have hcx := (hq.cell (p := ⟨b, off + k * 2, none⟩) hb).trans hx0
        have hcu := (hq.cell (p := ⟨b, off + k * 2 + 1, none⟩) hb).trans hu0
        have hcy := (hq.cell (p := ⟨b2, off2 + k * 2, none⟩) hb2).trans hy0
        have hcv := (hq.cell (p := ⟨b2, off2 + k * 2 + 1, none⟩) hb2).trans hv0
        have HT := Lib.hid (take_two (d := (false, ([] : List Int))) hlt)
        have HT2 := Lib.hid (take_two (d := (false, ([] : List Int))) hlt2)
        have HNE := Lib.hid (show l.getD k (false, ([] : List Int)) ≠ m.getD k (false, ([] : List Int)) → l ≠ m from fun h e => h (by rw [e]))
        have hc := fun (W : World) (h : Below wr.heap.size wr W) => pair_blk (l.getD k (false, ([] : List Int))).1 (m.getD k (false, ([] : List Int))).1 u1 u2 (l.getD k (false, ([] : List Int))).2 (m.getD k (false, ([] : List Int))).2 W ((HU0.below hq (Nat.le_refl _)).below h (Nat.le_refl _)) ((HV0.below hq (Nat.le_refl _)).below h (Nat.le_refl _))
        have HU := HU0.below hq (Nat.le_refl _)
        have HV := HV0.below hq (Nat.le_refl _)
        generalize l.getD k (false, ([] : List Int)) = y at *
        generalize m.getD k (false, ([] : List Int)) = z at *
        obtain ⟨y1, y2⟩ := y
        obtain ⟨z1, z2⟩ := z
        simp only at hcx hcu hcy hcv hc HU HV
        obtain ⟨ua, uc, rfl⟩ := HU.shape
        obtain ⟨va, vc, rfl⟩ := HV.shape
        have hb2r : b2 < wr.heap.size := Nat.lt_of_lt_of_le hb2 hsz
        have hcy1 := (((Below.refl wr.heap.size wr).alloc (Nat.le_refl _) (.cells #[.bool y1, .slice ua y2.length uc] 80)).cell (p := ⟨b2, off2 + k * 2, none⟩) hb2r).trans hcy
        have hcv1 := (((Below.refl wr.heap.size wr).alloc (Nat.le_refl _) (.cells #[.bool y1, .slice ua y2.length uc] 80)).cell (p := ⟨b2, off2 + k * 2 + 1, none⟩) hb2r).trans hcv
        have HEQ : Hid ((decide (y1 = z1) && sameB y2 z2) = true ↔ (y1, y2) = (z1, z2)) := by
          show _ ↔ _
          unfold sameB
          rw [Bool.and_eq_true, decide_eq_true_eq, decide_eq_true_eq, Prod.mk.injEq]
        have hba := ((Below.refl wr.heap.size wr).alloc (Nat.le_refl _) (.cells #[.bool y1, .slice ua y2.length uc] 80)).alloc (by simp) (.cells #[.bool z1, .slice va z2.length vc] 80)
        have HBA := Lib.hid hba
        have HC := Lib.hid hc
        have HQ := Lib.hid hq
        clear hc hba hq HU HV HU0 HV0 hx0 hu0 hy0 hv0
        generalize (decide (y1 = z1) && sameB y2 z2) = t at *
        cases t with
        | true =>
          have HE : Hid ((y1, y2) = (z1, z2)) := HEQ.out.1 rfl
          go_wp2_with (go_at_call 51; refine (HC.out _ HBA.out).mono ?_; rintro e w1 ⟨rfl, hb1⟩)
          have HB1 := Lib.hid (HQ.out.trans ((HBA.out.trans (hb1.mono HBA.out.size)).mono hsz))
          go_roundw
          case rel => exact ⟨k + 1, by omega, by go_num, HB1.out, by rw [HT.out, HT2.out, HN.out, HE.out]⟩
          case measure => simp [intOf]; omega
        | false =>
          have HLM : Hid (sameB l m = false) := by
            show _ = _
            unfold sameB
            rw [decide_eq_false_iff_not]
            exact HNE.out fun h => by have := HEQ.out.2 h; cases this
          go_wp2_with (go_at_call 51; refine (HC.out _ HBA.out).mono ?_; rintro e w1 ⟨rfl, hb1⟩)
          have HB1 := Lib.hid (HQ.out.trans ((HBA.out.trans (hb1.mono HBA.out.size)).mono hsz))
          go_ret
          exact ⟨ret_bool HLM.out.symm, HB1.out⟩
      · have HE : Hid (sameB l m = true) := by
          have h := HN.out
          rw [List.take_of_length_le (by omega), List.take_of_length_le (by rw [← HL.out]; omega)] at h
          show _ = _; unfold sameB; simp [h]
        go_wp2
        go_ret
        exact ⟨ret_bool HE.out.symm, hq⟩
  · have hne : ((l.length : Int) != (m.length : Int)) = true := by simp; omega
    have HE : Hid (sameB l m = false) := by show _ = _; unfold sameB; rw [decide_eq_false_iff_not]; intro h; exact hlen (by rw [h])
    clear hlen
    go_enter Try.func54, Try.ntmps54
    go_wp2
    go_ret
    exact ⟨ret_bool HE.out.symm, Below.refl _ _⟩

end Go.Proofs.Yticcikelapifaaa
