/- Joined texts: PxSameD, PxRSamD. -/
import Derived.Test.YtmiijgjpkkmoaaaGreatMpG
/- prefix.SameDqbf. -/
namespace Go.Proofs.YtmiijgjpkkmoaaaGreat
open Go.RowKit
set_option linter.unusedVariables false
set_option linter.unusedSimpArgs false

end Go.Proofs.YtmiijgjpkkmoaaaGreat

/- The reference's SameDqbf. -/
namespace Go.Proofs.YtmiijgjpkkmoaaaGreat
open Go.RowKit
set_option linter.unusedVariables false
set_option linter.unusedSimpArgs false

set_option maxHeartbeats 3200000 in
set_option maxRecDepth 100000 in
theorem rsamed_any (vu ve vc xu xe xc : Value) (U U2 : List Int) (E E2 : List (Int × List Int)) (C C2 : List (List Int)) (w : World)
    (HU : IsInts w vu U) (HE : IsDeps w ve E) (HC : IsRows w vc C) (KU : IsInts w xu U2) (KE : IsDeps w xe E2) (KC : IsRows w xc C2) :
    Calls Tryz.prog 14 #[.agg #[vu, ve, vc], .agg #[xu, xe, xc]] w fun e w' => e = .returned (.bool (sameB U U2 && (sameB E E2 && sameB C C2))) ∧ Below w.heap.size w w' := by
  have h1 := fun (W : World) (h : Below w.heap.size w W) => ints_any vu xu U U2 W (HU.below h (Nat.le_refl _)) (KU.below h (Nat.le_refl _))
  have h3 := fun (W : World) (h : Below w.heap.size w W) => lists_any vc xc C C2 W (HC.below h (Nat.le_refl _)) (KC.below h (Nat.le_refl _))
  have HHE := Lib.hid HE
  have HKE := Lib.hid KE
  obtain ⟨a1, c1, rfl⟩ := HU.shape
  obtain ⟨a2, c2, rfl, hl⟩ := HE.shape
  obtain ⟨a3, c3, rfl, _⟩ := HC.shape
  obtain ⟨a4, c4, rfl⟩ := KU.shape
  obtain ⟨a5, c5, rfl, hl2⟩ := KE.shape
  obtain ⟨a6, c6, rfl, _⟩ := KC.shape
  have H1 := Lib.hid h1
  have H3 := Lib.hid h3
  have hb := ((Below.refl w.heap.size w).alloc (Nat.le_refl _) (.cells #[.slice a1 U.length c1, .slice a2 E.length c2, .slice a3 C.length c3] 29)).alloc (by simp) (.cells #[.slice a4 U2.length c4, .slice a5 E2.length c5, .slice a6 C2.length c6] 29)
  have HB := Lib.hid hb
  have D11 : Hid (((w.alloc (.cells #[.slice a1 U.length c1, .slice a2 E.length c2, .slice a3 C.length c3] 29)).alloc (.cells #[.slice a4 U2.length c4, .slice a5 E2.length c5, .slice a6 C2.length c6] 29)).cell? ⟨w.heap.size, 1, none⟩ = some (.slice a2 E.length c2)) := cell_old (cell_fresh rfl)
  have D12 : Hid (((w.alloc (.cells #[.slice a1 U.length c1, .slice a2 E.length c2, .slice a3 C.length c3] 29)).alloc (.cells #[.slice a4 U2.length c4, .slice a5 E2.length c5, .slice a6 C2.length c6] 29)).cell? ⟨w.heap.size, 2, none⟩ = some (.slice a3 C.length c3)) := cell_old (cell_fresh rfl)
  have D21 : Hid (((w.alloc (.cells #[.slice a1 U.length c1, .slice a2 E.length c2, .slice a3 C.length c3] 29)).alloc (.cells #[.slice a4 U2.length c4, .slice a5 E2.length c5, .slice a6 C2.length c6] 29)).cell? ⟨w.heap.size + 1, 1, none⟩ = some (.slice a5 E2.length c5)) := cell_fresh2 rfl
  have D22 : Hid (((w.alloc (.cells #[.slice a1 U.length c1, .slice a2 E.length c2, .slice a3 C.length c3] 29)).alloc (.cells #[.slice a4 U2.length c4, .slice a5 E2.length c5, .slice a6 C2.length c6] 29)).cell? ⟨w.heap.size + 1, 2, none⟩ = some (.slice a6 C2.length c6)) := cell_fresh2 rfl
  clear h1 h3 hb HU HE HC KU KE KC
  generalize sameB U U2 = s1 at *
  generalize sameB C C2 = s3 at *
  cases s1 with
  | false =>
    clear D11 D12 D21 D22 H3
    go_enter Tryz.func14, Tryz.ntmps14
    go_wp2_with (go_at_call 16; refine (H1.out _ HB.out).mono ?_; rintro e w1 ⟨rfl, hq1⟩)
    go_ret
    exact ⟨ret_bool (by simp), HB.out.trans (hq1.below _)⟩
  | true =>
    by_cases hlen : E.length = E2.length
    · have hne : ((E.length : Int) != (E2.length : Int)) = false := by simp [hlen]
      have HL := Lib.hid hlen
      clear hlen
      cases s3 with
      | false =>
        go_enter Tryz.func14, Tryz.ntmps14
        go_wp2_with (first
          | (go_at_call 16; refine (H1.out _ HB.out).mono ?_; rintro e w1 ⟨rfl, hq1⟩; have e11 := (hq1.cell ⟨w.heap.size, 1, none⟩).trans D11.out; have e12 := (hq1.cell ⟨w.heap.size, 2, none⟩).trans D12.out; have e21 := (hq1.cell ⟨w.heap.size + 1, 1, none⟩).trans D21.out; have e22 := (hq1.cell ⟨w.heap.size + 1, 2, none⟩).trans D22.out)
          | (go_at_call 47; refine (H3.out w1 (HB.out.trans (hq1.below _))).mono ?_; rintro e w2 ⟨rfl, hq2⟩))
        go_ret
        exact ⟨ret_bool (by simp), (HB.out.trans (hq1.below _)).trans (hq2.below _)⟩
      | true =>
        go_enter Tryz.func14, Tryz.ntmps14
        go_wp2_with (first
          | (go_at_call 16; refine (H1.out _ HB.out).mono ?_; rintro e w1 ⟨rfl, hq1⟩; have e11 := (hq1.cell ⟨w.heap.size, 1, none⟩).trans D11.out; have e12 := (hq1.cell ⟨w.heap.size, 2, none⟩).trans D12.out; have e21 := (hq1.cell ⟨w.heap.size + 1, 1, none⟩).trans D21.out; have e22 := (hq1.cell ⟨w.heap.size + 1, 2, none⟩).trans D22.out)
          | (go_at_call 47; refine (H3.out w1 (HB.out.trans (hq1.below _))).mono ?_; rintro e w2 ⟨rfl, hq2⟩; have f11 := (hq2.cell _).trans e11; have f21 := (hq2.cell _).trans e21))
        have HB2 := Lib.hid ((HB.out.trans (hq1.below _)).trans (hq2.below _))
        clear e11 e12 e21 e22 hq1 hq2 D11 D12 D21 D22 HB H1 H3
        go_loopw [5] (fun i wr => ∃ k : Nat, k ≤ E.length ∧ i = .int .i64 k ∧ Quiet w2 wr ∧ E.take k = E2.take k) (fun i _ => E.length - (intOf i).toNat)
        case atStart => exact ⟨0, Nat.zero_le _, rfl, Quiet.refl _, by simp⟩
        case round =>
          obtain ⟨k, hk, rfl, hq, hn⟩ := hrel
          have HN := Lib.hid hn
          have g11 := (hq.cell _).trans f11
          have g21 := (hq.cell _).trans f21
          clear hn f11 f21
          by_cases hlt : k < E.length
          · have hlt2 : k < E2.length := by rw [← HL.out]; exact hlt
            have hwr := HB2.out.trans (hq.below _)
            obtain ⟨b, off, u1, rfl, hb, hcx, hcu, HU0⟩ := (HHE.out.below hwr (Nat.le_refl _)).at hlt
            obtain ⟨b2, off2, u2, rfl, hb2, hcy, hcv, HV0⟩ := (HKE.out.below hwr (Nat.le_refl _)).at hlt2
            have HT := Lib.hid (take_two (d := ((0 : Int), ([] : List Int))) hlt)
            have HT2 := Lib.hid (take_two (d := ((0 : Int), ([] : List Int))) hlt2)
            have HNE := Lib.hid (show E.getD k ((0 : Int), ([] : List Int)) ≠ E2.getD k ((0 : Int), ([] : List Int)) → E ≠ E2 from fun h e => h (by rw [e]))
            have hc := fun n => ints_any u1 u2 _ _ (wr.drewN n) (HU0.drewN n) (HV0.drewN n)
            generalize E.getD k ((0 : Int), ([] : List Int)) = y at *
            generalize E2.getD k ((0 : Int), ([] : List Int)) = z at *
            obtain ⟨y1, y2⟩ := y
            obtain ⟨z1, z2⟩ := z
            simp only at hcx hcu hcy hcv hc
            have HWR := Lib.hid hwr
            clear HU0 HV0 hwr
            by_cases h1 : y1 = z1
            · subst h1
              have hyy : (y1 != y1) = false := by simp
              by_cases he : y2 = z2
              · have hs : sameB y2 z2 = true := by unfold sameB; simp [he]
                have HE2 := Lib.hid he
                clear he
                go_wp2_with fail
                go_quiet ((go_at_call 16; exact quiet_q (hc _)))
                go_wp2
                go_roundw
                case rel => exact ⟨k + 1, by omega, by go_num, hq.drewN _, by rw [HT.out, HT2.out, HN.out, HE2.out]⟩
                case measure => simp [intOf]; omega
              · have hs : sameB y2 z2 = false := by unfold sameB; simp [he]
                have HLM : Hid (sameB E E2 = false) := by show _ = _; unfold sameB; rw [decide_eq_false_iff_not]; exact HNE.out fun h => he (Prod.mk.inj h).2
                clear he
                go_wp2_with fail
                go_quiet ((go_at_call 16; exact quiet_q (hc _)))
                go_wp2
                go_ret
                exact ⟨ret_bool (by rw [HLM.out]; simp), HWR.out.trans (Quiet.below ⟨_, rfl⟩ _)⟩
            · have hyy : (y1 != z1) = true := by simpa using h1
              have HLM : Hid (sameB E E2 = false) := by show _ = _; unfold sameB; rw [decide_eq_false_iff_not]; exact HNE.out fun h => h1 (Prod.mk.inj h).1
              clear h1
              go_wp2_with fail
              go_quiet (fail)
              go_wp2
              go_ret
              exact ⟨ret_bool (by rw [HLM.out]; simp), HWR.out.trans (Quiet.below ⟨_, rfl⟩ _)⟩
          · have HE2 : Hid (sameB E E2 = true) := by
              have h := HN.out
              rw [List.take_of_length_le (by omega), List.take_of_length_le (by rw [← HL.out]; omega)] at h
              show _ = _; unfold sameB; simp [h]
            go_wp2
            go_ret
            exact ⟨ret_bool (by rw [HE2.out]; simp), HB2.out.trans (hq.below _)⟩
    · have hne : ((E.length : Int) != (E2.length : Int)) = true := by simp; omega
      have HE2 : Hid (sameB E E2 = false) := by show _ = _; unfold sameB; rw [decide_eq_false_iff_not]; intro h; exact hlen (by rw [h])
      clear hlen H3
      go_enter Tryz.func14, Tryz.ntmps14
      go_wp2_with (go_at_call 16; refine (H1.out _ HB.out).mono ?_; rintro e w1 ⟨rfl, hq1⟩; have e11 := (hq1.cell ⟨w.heap.size, 1, none⟩).trans D11.out; have e12 := (hq1.cell ⟨w.heap.size, 2, none⟩).trans D12.out; have e21 := (hq1.cell ⟨w.heap.size + 1, 1, none⟩).trans D21.out; have e22 := (hq1.cell ⟨w.heap.size + 1, 2, none⟩).trans D22.out)
      go_ret
      exact ⟨ret_bool (by rw [HE2.out]; simp), HB.out.trans (hq1.below _)⟩

end Go.Proofs.YtmiijgjpkkmoaaaGreat
