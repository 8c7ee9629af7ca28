/- Joined texts: PxDep, PxBlk, PxInts, PxSame. -/
import Derived.Test.YtfodafaclhoibaaMpB
import Derived.Test.YtfodafaclhoibaaEqual
import Derived.Test.YtfodafaclhoibaaMgA
import Derived.Test.YtfodafaclhoibaaMgR
/- slices.EqualFunc over rows of two cells (of dependencies). -/
namespace Go.Proofs.Ytfodafaclhoibaa
open Go.RowKit
set_option linter.unusedVariables false
set_option linter.unusedSimpArgs false

set_option maxHeartbeats 800000 in
set_option maxRecDepth 100000 in
theorem pair_dep (x y : Int) (u v : Value) (l m : List Int) (w : World) (H : IsInts w u l) (K : IsInts w v m) :
    Calls Try.prog 88 #[.agg #[.int .i64 x, u], .agg #[.int .i64 y, v]] w fun e w' => e = .returned (.bool (decide (x = y) && sameB l m)) ∧ Below w.heap.size w w' := by
  obtain ⟨a1, c1, rfl⟩ := H.shape
  obtain ⟨a2, c2, rfl⟩ := K.shape
  have he : ∀ W, Below w.heap.size w W → Calls Try.prog 87 #[.slice a1 l.length c1, .slice a2 m.length c2] W (fun e w' => e = .returned (.bool (sameB l m)) ∧ Below w.heap.size w w') := fun W hW =>
    (equal_any _ _ l m W (H.below hW (Nat.le_refl _)) (K.below hW (Nat.le_refl _))).mono fun e w' h => ⟨h.1, hW.trans (h.2.below _)⟩
  have HE := Lib.hid he
  have hb2 := ((Below.refl w.heap.size w).alloc (Nat.le_refl _) (.cells #[.int .i64 x, .slice a1 l.length c1] 115)).alloc (by simp) (.cells #[.int .i64 y, .slice a2 m.length c2] 115)
  have HB := Lib.hid hb2
  clear he hb2 H K
  generalize sameB l m = s at *
  by_cases hxy : x = y
  · subst hxy
    have hx1 : (x == x) = true := by simp
    have hx2 : decide (x = x) = true := by simp
    go_enter Try.func88, Try.ntmps88
    go_wp2_with (go_at_call 87; refine (HE.out _ HB.out).mono ?_; rintro e w1 ⟨rfl, hb1⟩)
    go_ret
    exact ⟨ret_bool (by simp), hb1⟩
  · have hx1 : (x == y) = false := by simpa using hxy
    have hx2 : decide (x = y) = false := by simpa using hxy
    go_enter Try.func88, Try.ntmps88
    go_wp2_with fail
    go_ret
    exact ⟨ret_bool (by simp [hxy]), HB.out⟩

set_option maxHeartbeats 1600000 in
set_option maxRecDepth 100000 in
theorem eqf_dep (v u : Value) (l m : List (Int × List Int)) (w : World) (H : IsTwo (Value.int .i64) ((0 : Int), ([] : List Int)) w v l) (K : IsTwo (Value.int .i64) ((0 : Int), ([] : List Int)) w u m) :
    Calls Try.prog 90 #[v, u, .func (.func 88) #[] #[]] w fun e w' => e = .returned (.bool (sameB l m)) ∧ Below w.heap.size w w' := by
  obtain ⟨a, cap, rfl, hl⟩ := H.shape
  obtain ⟨a2, cap2, rfl, hl2⟩ := K.shape
  by_cases hlen : l.length = m.length
  · have hne : ((l.length : Int) != (m.length : Int)) = false := by simp [hlen]
    have HL := Lib.hid hlen
    have HH := Lib.hid H
    have HK := Lib.hid K
    clear hlen H K
    go_enter Try.func90, Try.ntmps90
    go_wp2
    go_loopw [17] (fun i wr => ∃ k : Nat, k ≤ l.length ∧ i = .int .i64 k ∧ Below w.heap.size w wr ∧ l.take k = m.take k) (fun i _ => l.length - (intOf i).toNat)
    case atStart => exact ⟨0, Nat.zero_le _, rfl, Below.refl _ _, by simp⟩
    case round =>
      obtain ⟨k, hk, rfl, hq, hn⟩ := hrel
      have HN := Lib.hid hn
      have hsz := hq.size
      clear hn
      by_cases hlt : k < l.length
      · have hlt2 : k < m.length := by rw [← HL.out]; exact hlt
        obtain ⟨b, off, u1, rfl, hb, hx0, hu0, HU0⟩ := HH.out.at hlt
        obtain ⟨b2, off2, u2, rfl, hb2, hy0, hv0, HV0⟩ := HK.out.at hlt2
        have hcx := (hq.cell (p := ⟨b, off + k * 2, none⟩) hb).trans hx0
        have hcu := (hq.cell (p := ⟨b, off + k * 2 + 1, none⟩) hb).trans hu0
        have hcy := (hq.cell (p := ⟨b2, off2 + k * 2, none⟩) hb2).trans hy0
        have hcv := (hq.cell (p := ⟨b2, off2 + k * 2 + 1, none⟩) hb2).trans hv0
        have HT := Lib.hid (take_two (d := ((0 : Int), ([] : List Int))) hlt)
        have HT2 := Lib.hid (take_two (d := ((0 : Int), ([] : List Int))) hlt2)
        have HNE := Lib.hid (show l.getD k ((0 : Int), ([] : List Int)) ≠ m.getD k ((0 : Int), ([] : List Int)) → l ≠ m from fun h e => h (by rw [e]))
        have hc := fun (W : World) (h : Below wr.heap.size wr W) => pair_dep (l.getD k ((0 : Int), ([] : List Int))).1 (m.getD k ((0 : Int), ([] : List Int))).1 u1 u2 (l.getD k ((0 : Int), ([] : List Int))).2 (m.getD k ((0 : Int), ([] : List Int))).2 W ((HU0.below hq (Nat.le_refl _)).below h (Nat.le_refl _)) ((HV0.below hq (Nat.le_refl _)).below h (Nat.le_refl _))
        have HU := HU0.below hq (Nat.le_refl _)
        have HV := HV0.below hq (Nat.le_refl _)
        generalize l.getD k ((0 : Int), ([] : List Int)) = y at *
        generalize m.getD k ((0 : Int), ([] : List Int)) = z at *
        obtain ⟨y1, y2⟩ := y
        obtain ⟨z1, z2⟩ := z
        simp only at hcx hcu hcy hcv hc HU HV
        obtain ⟨ua, uc, rfl⟩ := HU.shape
        obtain ⟨va, vc, rfl⟩ := HV.shape
        have hb2r : b2 < wr.heap.size := Nat.lt_of_lt_of_le hb2 hsz
        have hcy1 := (((Below.refl wr.heap.size wr).alloc (Nat.le_refl _) (.cells #[.int .i64 y1, .slice ua y2.length uc] 115)).cell (p := ⟨b2, off2 + k * 2, none⟩) hb2r).trans hcy
        have hcv1 := (((Below.refl wr.heap.size wr).alloc (Nat.le_refl _) (.cells #[.int .i64 y1, .slice ua y2.length uc] 115)).cell (p := ⟨b2, off2 + k * 2 + 1, none⟩) hb2r).trans hcv
        have HEQ : Hid ((decide (y1 = z1) && sameB y2 z2) = true ↔ (y1, y2) = (z1, z2)) := by
          show _ ↔ _
          unfold sameB
          rw [Bool.and_eq_true, decide_eq_true_eq, decide_eq_true_eq, Prod.mk.injEq]
        have hba := ((Below.refl wr.heap.size wr).alloc (Nat.le_refl _) (.cells #[.int .i64 y1, .slice ua y2.length uc] 115)).alloc (by simp) (.cells #[.int .i64 z1, .slice va z2.length vc] 115)
        have HBA := Lib.hid hba
        have HC := Lib.hid hc
        have HQ := Lib.hid hq
        clear hc hba hq HU HV HU0 HV0 hx0 hu0 hy0 hv0
        generalize (decide (y1 = z1) && sameB y2 z2) = t at *
        cases t with
        | true =>
          have HE : Hid ((y1, y2) = (z1, z2)) := HEQ.out.1 rfl
          go_wp2_with (go_at_call 88; refine (HC.out _ HBA.out).mono ?_; rintro e w1 ⟨rfl, hb1⟩)
          have HB1 := Lib.hid (HQ.out.trans ((HBA.out.trans (hb1.mono HBA.out.size)).mono hsz))
          go_roundw
          case rel => exact ⟨k + 1, by omega, by go_num, HB1.out, by rw [HT.out, HT2.out, HN.out, HE.out]⟩
          case measure => simp [intOf]; omega
        | false =>
          have HLM : Hid (sameB l m = false) := by
            show _ = _
            unfold sameB
            rw [decide_eq_false_iff_not]
            exact HNE.out fun h => by have := HEQ.out.2 h; cases this
          go_wp2_with (go_at_call 88; refine (HC.out _ HBA.out).mono ?_; rintro e w1 ⟨rfl, hb1⟩)
          have HB1 := Lib.hid (HQ.out.trans ((HBA.out.trans (hb1.mono HBA.out.size)).mono hsz))
          go_ret
          exact ⟨ret_bool HLM.out.symm, HB1.out⟩
      · have HE : Hid (sameB l m = true) := by
          have h := HN.out
          rw [List.take_of_length_le (by omega), List.take_of_length_le (by rw [← HL.out]; omega)] at h
          show _ = _; unfold sameB; simp [h]
        go_wp2
        go_ret
        exact ⟨ret_bool HE.out.symm, hq⟩
  · have hne : ((l.length : Int) != (m.length : Int)) = true := by simp; omega
    have HE : Hid (sameB l m = false) := by show _ = _; unfold sameB; rw [decide_eq_false_iff_not]; intro h; exact hlen (by rw [h])
    clear hlen
    go_enter Try.func90, Try.ntmps90
    go_wp2
    go_ret
    exact ⟨ret_bool HE.out.symm, Below.refl _ _⟩

end Go.Proofs.Ytfodafaclhoibaa

/- slices.EqualFunc over rows of two cells (of blocks). -/
namespace Go.Proofs.Ytfodafaclhoibaa
open Go.RowKit
set_option linter.unusedVariables false
set_option linter.unusedSimpArgs false

set_option maxHeartbeats 800000 in
set_option maxRecDepth 100000 in
theorem pair_blk (x y : Bool) (u v : Value) (l m : List Int) (w : World) (H : IsInts w u l) (K : IsInts w v m) :
    Calls Try.prog 86 #[.agg #[.bool x, u], .agg #[.bool y, v]] w fun e w' => e = .returned (.bool (decide (x = y) && sameB l m)) ∧ Below w.heap.size w w' := by
  obtain ⟨a1, c1, rfl⟩ := H.shape
  obtain ⟨a2, c2, rfl⟩ := K.shape
  have he : ∀ W, Below w.heap.size w W → Calls Try.prog 87 #[.slice a1 l.length c1, .slice a2 m.length c2] W (fun e w' => e = .returned (.bool (sameB l m)) ∧ Below w.heap.size w w') := fun W hW =>
    (equal_any _ _ l m W (H.below hW (Nat.le_refl _)) (K.below hW (Nat.le_refl _))).mono fun e w' h => ⟨h.1, hW.trans (h.2.below _)⟩
  have HE := Lib.hid he
  have hb2 := ((Below.refl w.heap.size w).alloc (Nat.le_refl _) (.cells #[.bool x, .slice a1 l.length c1] 53)).alloc (by simp) (.cells #[.bool y, .slice a2 m.length c2] 53)
  have HB := Lib.hid hb2
  clear he hb2 H K
  generalize sameB l m = s at *
  by_cases hxy : x = y
  · subst hxy
    have hx1 : (x == x) = true := by simp
    have hx2 : decide (x = x) = true := by simp
    go_enter Try.func86, Try.ntmps86
    go_wp2_with (go_at_call 87; refine (HE.out _ HB.out).mono ?_; rintro e w1 ⟨rfl, hb1⟩)
    go_ret
    exact ⟨ret_bool (by simp), hb1⟩
  · have hx1 : (x == y) = false := by simpa using hxy
    have hx2 : decide (x = y) = false := by simpa using hxy
    go_enter Try.func86, Try.ntmps86
    go_wp2_with fail
    go_ret
    exact ⟨ret_bool (by simp [hxy]), HB.out⟩

set_option maxHeartbeats 1600000 in
set_option maxRecDepth 100000 in
theorem eqf_blk (v u : Value) (l m : List (Bool × List Int)) (w : World) (H : IsTwo Value.bool (false, ([] : List Int)) w v l) (K : IsTwo Value.bool (false, ([] : List Int)) w u m) :
    Calls Try.prog 85 #[v, u, .func (.func 86) #[] #[]] w fun e w' => e = .returned (.bool (sameB l m)) ∧ Below w.heap.size w w' := by
  obtain ⟨a, cap, rfl, hl⟩ := H.shape
  obtain ⟨a2, cap2, rfl, hl2⟩ := K.shape
  by_cases hlen : l.length = m.length
  · have hne : ((l.length : Int) != (m.length : Int)) = false := by simp [hlen]
    have HL := Lib.hid hlen
    have HH := Lib.hid H
    have HK := Lib.hid K
    clear hlen H K
    go_enter Try.func85, Try.ntmps85
    go_wp2
    go_loopw [17] (fun i wr => ∃ k : Nat, k ≤ l.length ∧ i = .int .i64 k ∧ Below w.heap.size w wr ∧ l.take k = m.take k) (fun i _ => l.length - (intOf i).toNat)
    case atStart => exact ⟨0, Nat.zero_le _, rfl, Below.refl _ _, by simp⟩
    case round =>
      obtain ⟨k, hk, rfl, hq, hn⟩ := hrel
      have HN := Lib.hid hn
      have hsz := hq.size
      clear hn
      by_cases hlt : k < l.length
      · have hlt2 : k < m.length := by rw [← HL.out]; exact hlt
        obtain ⟨b, off, u1, rfl, hb, hx0, hu0, HU0⟩ := HH.out.at hlt
        obtain ⟨b2, off2, u2, rfl, hb2, hy0, hv0, HV0⟩ := HK.out.at hlt2
        have hcx := (hq.cell (p := ⟨b, off + k * 2, none⟩) hb).trans hx0
        have hcu := (hq.cell (p := ⟨b, off + k * 2 + 1, none⟩) hb).trans hu0
        have hcy := (hq.cell (p := ⟨b2, off2 + k * 2, none⟩) hb2).trans hy0
        have hcv := (hq.cell (p := ⟨b2, off2 + k * 2 + 1, none⟩) hb2).trans hv0
        have HT := Lib.hid (take_two (d := (false, ([] : List Int))) hlt)
        have HT2 := Lib.hid (take_two (d := (false, ([] : List Int))) hlt2)
        have HNE := Lib.hid (show l.getD k (false, ([] : List Int)) ≠ m.getD k (false, ([] : List Int)) → l ≠ m from fun h e => h (by rw [e]))
        have hc := fun (W : World) (h : Below wr.heap.size wr W) => pair_blk (l.getD k (false, ([] : List Int))).1 (m.getD k (false, ([] : List Int))).1 u1 u2 (l.getD k (false, ([] : List Int))).2 (m.getD k (false, ([] : List Int))).2 W ((HU0.below hq (Nat.le_refl _)).below h (Nat.le_refl _)) ((HV0.below hq (Nat.le_refl _)).below h (Nat.le_refl _))
        have HU := HU0.below hq (Nat.le_refl _)
        have HV := HV0.below hq (Nat.le_refl _)
        generalize l.getD k (false, ([] : List Int)) = y at *
        generalize m.getD k (false, ([] : List Int)) = z at *
        obtain ⟨y1, y2⟩ := y
        obtain ⟨z1, z2⟩ := z
        simp only at hcx hcu hcy hcv hc HU HV
        obtain ⟨ua, uc, rfl⟩ := HU.shape
        obtain ⟨va, vc, rfl⟩ := HV.shape
        have hb2r : b2 < wr.heap.size := Nat.lt_of_lt_of_le hb2 hsz
        have hcy1 := (((Below.refl wr.heap.size wr).alloc (Nat.le_refl _) (.cells #[.bool y1, .slice ua y2.length uc] 53)).cell (p := ⟨b2, off2 + k * 2, none⟩) hb2r).trans hcy
        have hcv1 := (((Below.refl wr.heap.size wr).alloc (Nat.le_refl _) (.cells #[.bool y1, .slice ua y2.length uc] 53)).cell (p := ⟨b2, off2 + k * 2 + 1, none⟩) hb2r).trans hcv
        have HEQ : Hid ((decide (y1 = z1) && sameB y2 z2) = true ↔ (y1, y2) = (z1, z2)) := by
          show _ ↔ _
          unfold sameB
          rw [Bool.and_eq_true, decide_eq_true_eq, decide_eq_true_eq, Prod.mk.injEq]
        have hba := ((Below.refl wr.heap.size wr).alloc (Nat.le_refl _) (.cells #[.bool y1, .slice ua y2.length uc] 53)).alloc (by simp) (.cells #[.bool z1, .slice va z2.length vc] 53)
        have HBA := Lib.hid hba
        have HC := Lib.hid hc
        have HQ := Lib.hid hq
        clear hc hba hq HU HV HU0 HV0 hx0 hu0 hy0 hv0
        generalize (decide (y1 = z1) && sameB y2 z2) = t at *
        cases t with
        | true =>
          have HE : Hid ((y1, y2) = (z1, z2)) := HEQ.out.1 rfl
          go_wp2_with (go_at_call 86; refine (HC.out _ HBA.out).mono ?_; rintro e w1 ⟨rfl, hb1⟩)
          have HB1 := Lib.hid (HQ.out.trans ((HBA.out.trans (hb1.mono HBA.out.size)).mono hsz))
          go_roundw
          case rel => exact ⟨k + 1, by omega, by go_num, HB1.out, by rw [HT.out, HT2.out, HN.out, HE.out]⟩
          case measure => simp [intOf]; omega
        | false =>
          have HLM : Hid (sameB l m = false) := by
            show _ = _
            unfold sameB
            rw [decide_eq_false_iff_not]
            exact HNE.out fun h => by have := HEQ.out.2 h; cases this
          go_wp2_with (go_at_call 86; refine (HC.out _ HBA.out).mono ?_; rintro e w1 ⟨rfl, hb1⟩)
          have HB1 := Lib.hid (HQ.out.trans ((HBA.out.trans (hb1.mono HBA.out.size)).mono hsz))
          go_ret
          exact ⟨ret_bool HLM.out.symm, HB1.out⟩
      · have HE : Hid (sameB l m = true) := by
          have h := HN.out
          rw [List.take_of_length_le (by omega), List.take_of_length_le (by rw [← HL.out]; omega)] at h
          show _ = _; unfold sameB; simp [h]
        go_wp2
        go_ret
        exact ⟨ret_bool HE.out.symm, hq⟩
  · have hne : ((l.length : Int) != (m.length : Int)) = true := by simp; omega
    have HE : Hid (sameB l m = false) := by show _ = _; unfold sameB; rw [decide_eq_false_iff_not]; intro h; exact hlen (by rw [h])
    clear hlen
    go_enter Try.func85, Try.ntmps85
    go_wp2
    go_ret
    exact ⟨ret_bool HE.out.symm, Below.refl _ _⟩

end Go.Proofs.Ytfodafaclhoibaa

/- The reference's Ints and Lists. -/
namespace Go.Proofs.Ytfodafaclhoibaa
open Go.RowKit
set_option linter.unusedVariables false

set_option maxHeartbeats 400000 in
theorem ints_any (v u : Value) (l m : List Int) (w : World) (H : IsInts w v l) (K : IsInts w u m) :
    Calls Try.prog 37 #[v, u] w fun e w' => e = .returned (.bool (sameB l m)) ∧ Quiet w w' := by
  obtain ⟨a, cap, rfl, _, _, hl, h64, b, off, ha, hc⟩ := H
  obtain ⟨a2, cap2, rfl, _, _, hl2, h642, b2, off2, ha2, hc2⟩ := K
  by_cases hlen : l.length = m.length
  · have hne : ((l.length : Int) != (m.length : Int)) = false := by simp [hlen]
    have HL := Lib.hid hlen
    clear hlen
    go_enter Try.func37, Try.ntmps37
    go_wp2
    go_loopw [5] (fun i wr => ∃ k : Nat, k ≤ l.length ∧ i = .int .i64 k ∧ Quiet w wr ∧ l.take k = m.take k) (fun i _ => l.length - (intOf i).toNat)
    case atStart => exact ⟨0, Nat.zero_le _, rfl, Quiet.refl _, by simp⟩
    case round =>
      obtain ⟨k, hk, rfl, hq, hn⟩ := hrel
      have HN := Lib.hid hn
      clear hn
      by_cases hlt : k < l.length
      · have hlt2 : k < m.length := by rw [← HL.out]; exact hlt
        obtain ⟨rfl, hb⟩ := ha (by intro h; simp [h] at hlt)
        obtain ⟨rfl, hb2⟩ := ha2 (by intro h; simp [h] at hlt2)
        have hy := (hq.cell _).trans (hc k hlt)
        have hz := (hq.cell _).trans (hc2 k hlt2)
        have htk : l.take (k + 1) = l.take k ++ [l.getD k 0] := by rw [List.take_succ_eq_append_getElem hlt]; simp [List.getD, hlt]
        have htk2 : m.take (k + 1) = m.take k ++ [m.getD k 0] := by rw [List.take_succ_eq_append_getElem hlt2]; simp [List.getD, hlt2]
        have hneq : l.getD k 0 ≠ m.getD k 0 → l ≠ m := fun h e => h (by rw [e])
        have HT := Lib.hid htk
        have HT2 := Lib.hid htk2
        generalize l.getD k 0 = y at *
        generalize m.getD k 0 = z at *
        clear htk htk2 hc ha hc2 ha2
        by_cases he : y = z
        · subst he
          have he : (y != y) = false := by simp
          go_wp2_with fail
          go_quiet (fail)
          go_wp2
          go_roundw
          case rel => exact ⟨k + 1, by omega, by go_num, hq.drewN _, by rw [HT.out, HT2.out, HN.out]⟩
          case measure => simp [intOf]; omega
        · have he' : (y != z) = true := by simp [he]
          have hlm := hneq he
          clear hneq
          go_wp2_with fail
          go_quiet (fail)
          go_wp2
          go_ret
          exact ⟨ret_bool (by unfold sameB; simp [hlm]), hq.drewN _⟩
      · have HE : Hid (l = m) := by
          have h := HN.out
          rw [List.take_of_length_le (by omega), List.take_of_length_le (by rw [← HL.out]; omega)] at h
          exact h
        go_wp2
        go_ret
        exact ⟨ret_bool (by unfold sameB; simp [HE.out]), hq⟩
  · have hne : ((l.length : Int) != (m.length : Int)) = true := by simp; omega
    go_enter Try.func37, Try.ntmps37
    go_wp2
    go_ret
    exact ⟨ret_bool (by unfold sameB; simp; intro h; exact hlen (by rw [h])), Quiet.refl _⟩

set_option maxHeartbeats 800000 in
set_option maxRecDepth 100000 in
theorem lists_any (v u : Value) (l m : List (List Int)) (w : World) (H : IsRows w v l) (K : IsRows w u m) :
    Calls Try.prog 92 #[v, u] w fun e w' => e = .returned (.bool (sameB l m)) ∧ Quiet w w' := by
  obtain ⟨a, cap, rfl, hl⟩ := H.shape
  obtain ⟨a2, cap2, rfl, hl2⟩ := K.shape
  by_cases hlen : l.length = m.length
  · have hne : ((l.length : Int) != (m.length : Int)) = false := by simp [hlen]
    have HL := Lib.hid hlen
    clear hlen
    go_enter Try.func92, Try.ntmps92
    go_wp2
    go_loopw [5] (fun i wr => ∃ k : Nat, k ≤ l.length ∧ i = .int .i64 k ∧ Quiet w wr ∧ l.take k = m.take k) (fun i _ => l.length - (intOf i).toNat)
    case atStart => exact ⟨0, Nat.zero_le _, rfl, Quiet.refl _, by simp⟩
    case round =>
      obtain ⟨k, hk, rfl, hq, hn⟩ := hrel
      have HN := Lib.hid hn
      clear hn
      by_cases hlt : k < l.length
      · have hlt2 : k < m.length := by rw [← HL.out]; exact hlt
        obtain ⟨b, off, u1, rfl, hb, hu0, HU0⟩ := H.at hlt
        obtain ⟨b2, off2, u2, rfl, hb2, hv0, HV0⟩ := K.at hlt2
        have hy := (hq.cell _).trans hu0
        have hz := (hq.cell _).trans hv0
        have HT := Lib.hid (rows_take_succ hlt)
        have HT2 := Lib.hid (rows_take_succ hlt2)
        have HNE := Lib.hid (show l.getD k [] ≠ m.getD k [] → l ≠ m from fun h e => h (by rw [e]))
        have hc := fun n => ints_any u1 u2 _ _ (wr.drewN n) ((HU0.quiet hq).drewN n) ((HV0.quiet hq).drewN n)
        generalize l.getD k [] = y at *
        generalize m.getD k [] = z at *
        by_cases he : y = z
        · have hs : sameB y z = true := by unfold sameB; simp [he]
          have HE := Lib.hid he
          clear he
          go_wp2_with fail
          go_quiet ((go_at_call 37; exact quiet_q (hc _)))
          go_wp2
          go_roundw
          case rel => exact ⟨k + 1, by omega, by go_num, hq.drewN _, by rw [HT.out, HT2.out, HN.out, HE.out]⟩
          case measure => simp [intOf]; omega
        · have hs : sameB y z = false := by unfold sameB; simp [he]
          have HLM : Hid (sameB l m = false) := by show _ = _; unfold sameB; rw [decide_eq_false_iff_not]; exact HNE.out he
          clear he
          go_wp2_with fail
          go_quiet ((go_at_call 37; exact quiet_q (hc _)))
          go_wp2
          go_ret
          exact ⟨ret_bool HLM.out.symm, hq.drewN _⟩
      · have HE : Hid (sameB l m = true) := by
          have h := HN.out
          rw [List.take_of_length_le (by omega), List.take_of_length_le (by rw [← HL.out]; omega)] at h
          show _ = _; unfold sameB; simp [h]
        go_wp2
        go_ret
        exact ⟨ret_bool HE.out.symm, hq⟩
  · have hne : ((l.length : Int) != (m.length : Int)) = true := by simp; omega
    have HE : Hid (sameB l m = false) := by show _ = _; unfold sameB; rw [decide_eq_false_iff_not]; intro h; exact hlen (by rw [h])
    clear hlen
    go_enter Try.func92, Try.ntmps92
    go_wp2
    go_ret
    exact ⟨ret_bool HE.out.symm, Quiet.refl _⟩

end Go.Proofs.Ytfodafaclhoibaa

/- prefix.Same and the reference's; slices.EqualFunc over clauses. -/
namespace Go.Proofs.Ytfodafaclhoibaa
open Go.RowKit
set_option linter.unusedVariables false
set_option linter.unusedSimpArgs false

set_option maxHeartbeats 400000 in
theorem clause_eq (u v : Value) (l m : List Int) (w : World) (H : IsInts w u l) (K : IsInts w v m) :
    Calls Try.prog 89 #[u, v] w fun e w' => e = .returned (.bool (sameB l m)) ∧ Quiet w w' := by
  have HE := Lib.hid (equal_any u v l m w H K)
  obtain ⟨a1, c1, rfl⟩ := H.shape
  obtain ⟨a2, c2, rfl⟩ := K.shape
  clear H K
  go_enter Try.func89, Try.ntmps89
  go_wp2_with (go_at_call 87; refine HE.out.mono ?_; rintro e w1 ⟨rfl, hq1⟩)
  go_ret
  exact ⟨rfl, hq1⟩

set_option maxHeartbeats 800000 in
set_option maxRecDepth 100000 in
theorem eqf_rows (v u : Value) (l m : List (List Int)) (w : World) (H : IsRows w v l) (K : IsRows w u m) :
    Calls Try.prog 91 #[v, u, .func (.func 89) #[] #[]] w fun e w' => e = .returned (.bool (sameB l m)) ∧ Quiet w w' := by
  obtain ⟨a, cap, rfl, hl⟩ := H.shape
  obtain ⟨a2, cap2, rfl, hl2⟩ := K.shape
  by_cases hlen : l.length = m.length
  · have hne : ((l.length : Int) != (m.length : Int)) = false := by simp [hlen]
    have HL := Lib.hid hlen
    clear hlen
    go_enter Try.func91, Try.ntmps91
    go_wp2
    go_loopw [17] (fun i wr => ∃ k : Nat, k ≤ l.length ∧ i = .int .i64 k ∧ Quiet w wr ∧ l.take k = m.take k) (fun i _ => l.length - (intOf i).toNat)
    case atStart => exact ⟨0, Nat.zero_le _, rfl, Quiet.refl _, by simp⟩
    case round =>
      obtain ⟨k, hk, rfl, hq, hn⟩ := hrel
      have HN := Lib.hid hn
      clear hn
      by_cases hlt : k < l.length
      · have hlt2 : k < m.length := by rw [← HL.out]; exact hlt
        obtain ⟨b, off, u1, rfl, hb, hu0, HU0⟩ := H.at hlt
        obtain ⟨b2, off2, u2, rfl, hb2, hv0, HV0⟩ := K.at hlt2
        have hy := (hq.cell _).trans hu0
        have hz := (hq.cell _).trans hv0
        have HT := Lib.hid (rows_take_succ hlt)
        have HT2 := Lib.hid (rows_take_succ hlt2)
        have HNE := Lib.hid (show l.getD k [] ≠ m.getD k [] → l ≠ m from fun h e => h (by rw [e]))
        have hc := clause_eq u1 u2 _ _ wr (HU0.quiet hq) (HV0.quiet hq)
        generalize l.getD k [] = y at *
        generalize m.getD k [] = z at *
        by_cases he : y = z
        · have hs : sameB y z = true := by unfold sameB; simp [he]
          rw [hs] at hc
          have HC := Lib.hid hc
          have HE := Lib.hid he
          clear he hc hs
          go_wp2_with (go_at_call 89; refine HC.out.mono ?_; rintro e w1 ⟨rfl, hq1⟩)
          go_roundw
          case rel => exact ⟨k + 1, by omega, by go_num, hq.trans hq1, by rw [HT.out, HT2.out, HN.out, HE.out]⟩
          case measure => simp [intOf]; omega
        · have hs : sameB y z = false := by unfold sameB; simp [he]
          have HLM : Hid (sameB l m = false) := by show _ = _; unfold sameB; rw [decide_eq_false_iff_not]; exact HNE.out he
          rw [hs] at hc
          have HC := Lib.hid hc
          clear he hc hs
          go_wp2_with (go_at_call 89; refine HC.out.mono ?_; rintro e w1 ⟨rfl, hq1⟩)
          go_ret
          exact ⟨ret_bool HLM.out.symm, hq.trans hq1⟩
      · have HE : Hid (sameB l m = true) := by
          have h := HN.out
          rw [List.take_of_length_le (by omega), List.take_of_length_le (by rw [← HL.out]; omega)] at h
          show _ = _; unfold sameB; simp [h]
        go_wp2
        go_ret
        exact ⟨ret_bool HE.out.symm, hq⟩
  · have hne : ((l.length : Int) != (m.length : Int)) = true := by simp; omega
    have HE : Hid (sameB l m = false) := by show _ = _; unfold sameB; rw [decide_eq_false_iff_not]; intro h; exact hlen (by rw [h])
    clear hlen
    go_enter Try.func91, Try.ntmps91
    go_wp2
    go_ret
    exact ⟨ret_bool HE.out.symm, Quiet.refl _⟩

set_option maxHeartbeats 400000 in
theorem psame_any (v u : Value) (l m : List (Bool × List Int)) (w : World) (H : IsBlocks w v l) (K : IsBlocks w u m) :
    Calls Try.prog 25 #[v, u] w fun e w' => e = .returned (.bool (sameB l m)) ∧ Below w.heap.size w w' := by
  have HE := Lib.hid (eqf_blk v u l m w H K)
  obtain ⟨a1, c1, rfl, _⟩ := H.shape
  obtain ⟨a2, c2, rfl, _⟩ := K.shape
  clear H K
  go_enter Try.func25, Try.ntmps25
  go_wp2_with (go_at_call 85; refine HE.out.mono ?_; rintro e w1 ⟨rfl, hq1⟩)
  go_ret
  exact ⟨rfl, hq1⟩

set_option maxHeartbeats 1600000 in
set_option maxRecDepth 100000 in
theorem rsame_any (v u : Value) (l m : List (Bool × List Int)) (w : World) (H : IsBlocks w v l) (K : IsBlocks w u m) :
    Calls Try.prog 26 #[v, u] w fun e w' => e = .returned (.bool (sameB l m)) ∧ Quiet w w' := by
  obtain ⟨a, cap, rfl, hl⟩ := H.shape
  obtain ⟨a2, cap2, rfl, hl2⟩ := K.shape
  by_cases hlen : l.length = m.length
  · have hne : ((l.length : Int) != (m.length : Int)) = false := by simp [hlen]
    have HL := Lib.hid hlen
    clear hlen
    go_enter Try.func26, Try.ntmps26
    go_wp2
    go_loopw [5] (fun i wr => ∃ k : Nat, k ≤ l.length ∧ i = .int .i64 k ∧ Quiet w wr ∧ l.take k = m.take k) (fun i _ => l.length - (intOf i).toNat)
    case atStart => exact ⟨0, Nat.zero_le _, rfl, Quiet.refl _, by simp⟩
    case round =>
      obtain ⟨k, hk, rfl, hq, hn⟩ := hrel
      have HN := Lib.hid hn
      clear hn
      by_cases hlt : k < l.length
      · have hlt2 : k < m.length := by rw [← HL.out]; exact hlt
        obtain ⟨b, off, u1, rfl, hb, hx0, hu0, HU0⟩ := H.at hlt
        obtain ⟨b2, off2, u2, rfl, hb2, hy0, hv0, HV0⟩ := K.at hlt2
        have hcx := (hq.cell _).trans hx0
        have hcu := (hq.cell _).trans hu0
        have hcy := (hq.cell _).trans hy0
        have hcv := (hq.cell _).trans hv0
        have HT := Lib.hid (take_two (d := (false, ([] : List Int))) hlt)
        have HT2 := Lib.hid (take_two (d := (false, ([] : List Int))) hlt2)
        have HNE := Lib.hid (show l.getD k (false, ([] : List Int)) ≠ m.getD k (false, ([] : List Int)) → l ≠ m from fun h e => h (by rw [e]))
        have hc := fun n => ints_any u1 u2 _ _ (wr.drewN n) ((HU0.quiet hq).drewN n) ((HV0.quiet hq).drewN n)
        generalize l.getD k (false, ([] : List Int)) = y at *
        generalize m.getD k (false, ([] : List Int)) = z at *
        obtain ⟨y1, y2⟩ := y
        obtain ⟨z1, z2⟩ := z
        simp only at hcx hcu hcy hcv hc
        clear hx0 hu0 hy0 hv0 HU0 HV0
        by_cases h1 : y1 = z1
        · subst h1
          have hyy : (y1 != y1) = false := by simp
          by_cases he : y2 = z2
          · have hs : sameB y2 z2 = true := by unfold sameB; simp [he]
            have HE := Lib.hid he
            clear he
            go_wp2_with fail
            go_quiet ((go_at_call 37; exact quiet_q (hc _)))
            go_wp2
            go_roundw
            case rel => exact ⟨k + 1, by omega, by go_num, hq.drewN _, by rw [HT.out, HT2.out, HN.out, HE.out]⟩
            case measure => simp [intOf]; omega
          · have hs : sameB y2 z2 = false := by unfold sameB; simp [he]
            have HLM : Hid (sameB l m = false) := by show _ = _; unfold sameB; rw [decide_eq_false_iff_not]; exact HNE.out fun h => he (Prod.mk.inj h).2
            clear he
            go_wp2_with fail
            go_quiet ((go_at_call 37; exact quiet_q (hc _)))
            go_wp2
            go_ret
            exact ⟨ret_bool HLM.out.symm, hq.drewN _⟩
        · have HLM : Hid (sameB l m = false) := by show _ = _; unfold sameB; rw [decide_eq_false_iff_not]; exact HNE.out fun h => h1 (Prod.mk.inj h).1
          have h2 : (y1 = true ∧ z1 = false) ∨ (y1 = false ∧ z1 = true) := by cases y1 <;> cases z1 <;> simp at h1 ⊢
          clear h1 hc HNE
          rcases h2 with ⟨rfl, rfl⟩ | ⟨rfl, rfl⟩
          · go_wp2_with fail
            go_quiet (fail)
            go_wp2
            go_ret
            exact ⟨ret_bool HLM.out.symm, hq.drewN _⟩
          · go_wp2_with fail
            go_quiet (fail)
            go_wp2
            go_ret
            exact ⟨ret_bool HLM.out.symm, hq.drewN _⟩
      · have HE : Hid (sameB l m = true) := by
          have h := HN.out
          rw [List.take_of_length_le (by omega), List.take_of_length_le (by rw [← HL.out]; omega)] at h
          show _ = _; unfold sameB; simp [h]
        go_wp2
        go_ret
        exact ⟨ret_bool HE.out.symm, hq⟩
  · have hne : ((l.length : Int) != (m.length : Int)) = true := by simp; omega
    have HE : Hid (sameB l m = false) := by show _ = _; unfold sameB; rw [decide_eq_false_iff_not]; intro h; exact hlen (by rw [h])
    clear hlen
    go_enter Try.func26, Try.ntmps26
    go_wp2
    go_ret
    exact ⟨ret_bool HE.out.symm, Quiet.refl _⟩

end Go.Proofs.Ytfodafaclhoibaa
