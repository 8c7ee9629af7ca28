/- Joined texts: PxNorm, PxRNorm. -/
import Derived.Test.YtmiijgjpkkmoaaaGreatMpB
import Derived.Test.YtmiijgjpkkmoaaaGreatMgA
/- prefix.magnitude, normal and mayCnf. -/
namespace Go.Proofs.YtmiijgjpkkmoaaaGreat
open Go.RowKit
set_option linter.unusedVariables false
set_option linter.unusedSimpArgs false

theorem wrap_neg {x : Int} (h1 : -9223372036854775808 ≤ x) (h2 : x < 0) : IntKind.u64.wrap (-(IntKind.u64.wrap x)) = -x := by
  simp only [IntKind.wrap_u64]
  omega
theorem wrap_pos {x : Int} (h1 : 0 ≤ x) (h2 : x ≤ 9223372036854775807) : IntKind.u64.wrap x = x := by
  simp only [IntKind.wrap_u64]
  omega

set_option maxHeartbeats 400000 in
theorem magnitude_any (x : Int) (w : World) (h1 : -9223372036854775808 ≤ x) (h2 : x ≤ 9223372036854775807) :
    Calls Tryz.prog 79 #[.int .i64 x] w fun e w' => e = .returned (.int .u64 (absOf x)) ∧ w = w' := by
  by_cases hx : x < 0
  · have HN := Lib.hid (wrap_neg h1 hx)
    go_enter Tryz.func79, Tryz.ntmps79
    go_wp2
    go_ret
    refine ⟨congrArg (fun n => Ending.returned (.int .u64 n)) ?_, rfl⟩
    unfold absOf
    rw [if_pos (by omega)]
    first | exact HN.out | (have := HN.out; simp only [IntKind.wrap_u64] at this ⊢; omega)
  · have HN := Lib.hid (wrap_pos (show 0 ≤ x by omega) h2)
    go_enter Tryz.func79, Tryz.ntmps79
    go_wp2
    go_ret
    refine ⟨congrArg (fun n => Ending.returned (.int .u64 n)) ?_, rfl⟩
    unfold absOf
    rw [if_neg (by omega)]
    try exact HN.out

theorem abs_var (x : Int) : varOf x = if 65536 < absOf x then 0 else absOf x := by
  unfold varOf absOf
  split <;> split <;> (try split) <;> omega

set_option maxHeartbeats 1600000 in
set_option maxRecDepth 100000 in
theorem normal_any (v : Value) (l : List Int) (w : World) (H : IsInts w v l) :
    Calls Tryz.prog 81 #[v] w fun e w' => e = .returned (.bool (mayB l)) ∧ w = w' := by
  obtain ⟨a, cap, rfl, hcap, _, hl, h64, b, off, ha, hc⟩ := H
  have HC := Lib.hid hc
  have HA := Lib.hid ha
  have H64 := Lib.hid h64
  clear hc ha h64
  go_enter Tryz.func81, Tryz.ntmps81
  go_wp2
  go_loop [3, 9] (fun before i => ∃ (k : Nat) (m : Int), k ≤ l.length ∧ i = .int .i64 k ∧ before = .int .u64 m ∧ 0 ≤ m ∧ m ≤ 65536 ∧ mayB l = mayFrom m (l.drop k)) (fun _ i => l.length - (intOf i).toNat)
  case atStart => exact ⟨0, 0, Nat.zero_le _, rfl, rfl, by omega, by omega, by simp [mayB]⟩
  case round =>
    obtain ⟨k, m, hk, rfl, rfl, hm0, hm1, hi⟩ := hrel
    have HI := Lib.hid hi
    clear hi
    by_cases hlt : k < l.length
    · obtain ⟨rfl, hb⟩ := HA.out (by intro h; simp [h] at hlt)
      have hy := HC.out k hlt
      have h64k := H64.out.at k hlt
      have HD := Lib.hid (mayFrom_drop m l k hlt)
      have hmag := magnitude_any (l.getD k 0) w h64k.1 h64k.2
      have HAV := Lib.hid (abs_var (l.getD k 0))
      have hab : 0 ≤ absOf (l.getD k 0) ∧ absOf (l.getD k 0) ≤ 9223372036854775808 := by unfold absOf; split <;> omega
      have ha0 := hab.1
      have HMG := Lib.hid hmag
      clear h64k hmag hab
      generalize varOf (l.getD k 0) = z at *
      generalize hq : absOf (l.getD k 0) = q at *
      clear hq
      generalize l.getD k 0 = y at *
      by_cases g1 : q ≤ m
      · have HM : Hid (mayB l = false) := by
          show _ = _
          rw [HI.out, HD.out, HAV.out, if_neg (by omega)]
          simp
          intro h
          omega
        go_wp2_with (go_at_call 79; refine HMG.out.mono ?_; rintro e w' ⟨rfl, rfl⟩)
        go_ret
        exact ⟨ret_bool HM.out.symm, rfl⟩
      · have g1' : decide (q ≤ m) = false := by simpa using g1
        by_cases g2 : 65536 < q
        · have HM : Hid (mayB l = false) := by
            show _ = _
            rw [HI.out, HD.out, HAV.out, if_pos g2]
            simp
            intro h
            omega
          go_wp2_with (go_at_call 79; refine HMG.out.mono ?_; rintro e w' ⟨rfl, rfl⟩)
          go_ret
          exact ⟨ret_bool HM.out.symm, rfl⟩
        · have HM : Hid (mayB l = mayFrom q (l.drop (k + 1))) := by
            show _ = _
            rw [HI.out, HD.out, HAV.out, if_neg g2]
            have : decide (m < q) = true := by simp; omega
            rw [this]
            rfl
          go_wp2_with (go_at_call 79; refine HMG.out.mono ?_; rintro e w' ⟨rfl, rfl⟩)
          go_round
          case rel => exact ⟨k + 1, q, by omega, by go_num, rfl, by omega, by omega, HM.out⟩
          case measure => simp [intOf]; omega
    · have hke : k = l.length := by omega
      have HM : Hid (mayB l = true) := by
        show _ = _
        rw [HI.out, hke, List.drop_length]
        rfl
      go_wp2
      go_ret
      exact ⟨ret_bool HM.out.symm, rfl⟩

set_option maxHeartbeats 1600000 in
set_option maxRecDepth 100000 in
theorem pcnf_any (v : Value) (f : List (List Int)) (w : World) (H : IsRows w v f) :
    Calls Tryz.prog 64 #[v] w fun e w' => e = .returned (.bool (mayCnfB f)) ∧ w = w' := by
  obtain ⟨a, cap, rfl, hl⟩ := H.shape
  have HH := Lib.hid H
  by_cases hbig : 20000 < f.length
  · have HM : Hid (mayCnfB f = false) := by show _ = _; unfold mayCnfB; rw [decide_eq_false_iff_not]; omega
    clear H
    go_enter Tryz.func64, Tryz.ntmps64
    go_wp2
    go_ret
    exact ⟨ret_bool HM.out.symm, rfl⟩
  · clear H
    go_enter Tryz.func64, Tryz.ntmps64
    go_wp2
    go_loop [3, 11] (fun n i => ∃ (k m : Nat), k ≤ f.length ∧ i = .int .i64 k ∧ n = .int .i64 m ∧ m = tot (f.take k) ∧ m ≤ 200000 ∧ ∀ c ∈ f.take k, mayB c = true) (fun _ i => f.length - (intOf i).toNat)
    case atStart => exact ⟨0, 0, Nat.zero_le _, rfl, rfl, by simp [tot], by omega, by simp⟩
    case round =>
      obtain ⟨k, m, hk, rfl, rfl, hm, hm2, hall⟩ := hrel
      have HM := Lib.hid hm
      have HALL := Lib.hid hall
      clear hm hall
      by_cases hlt : k < f.length
      · obtain ⟨b, off, u, rfl, hb, hcu, HU⟩ := HH.out.at hlt
        have HT := Lib.hid (tot_take_succ hlt)
        have HTL := Lib.hid (tot_take_le f (k + 1))
        have HMEM := Lib.hid (rows_getD_mem hlt)
        have HTS := Lib.hid (rows_take_succ hlt)
        have hnr := normal_any _ _ w HU
        generalize f.getD k [] = y at *
        obtain ⟨ua, uc, rfl⟩ := HU.shape
        have hyl := HU.len
        have HNR := Lib.hid hnr
        clear HU hnr
        have hsum : Hid (tot (f.take (k + 1)) = m + y.length) := by show _ = _; rw [HT.out, HM.out]
        by_cases hlong : 200000 < m + y.length
        · have HF : Hid (mayCnfB f = false) := by
            show _ = _; unfold mayCnfB; rw [decide_eq_false_iff_not]
            have h1 := hsum.out; have h2 := HTL.out
            omega
          have hlong' : (200000 : Int) < (m : Int) + (y.length : Int) := by omega
          generalize y.length = n at *
          go_wp2
          go_ret
          exact ⟨ret_bool HF.out.symm, rfl⟩
        · have hlong' : decide ((200000 : Int) < (m : Int) + (y.length : Int)) = false := by simp; omega
          cases hmb : mayB y with
          | false =>
            have HF : Hid (mayCnfB f = false) := by
              show _ = _; unfold mayCnfB; rw [decide_eq_false_iff_not]
              intro h
              rw [h.2.2 y HMEM.out] at hmb
              cases hmb
            rw [hmb] at HNR
            clear hmb
            go_wp2_with (go_at_call 81; refine HNR.out.mono ?_; rintro e w' ⟨rfl, rfl⟩)
            go_ret
            exact ⟨ret_bool HF.out.symm, rfl⟩
          | true =>
            have HAX : Hid (∀ c ∈ f.take (k + 1), mayB c = true) := by
              show ∀ c ∈ f.take (k + 1), mayB c = true
              rw [HTS.out]
              intro c hc
              rcases List.mem_append.1 hc with hc | hc
              · exact HALL.out c hc
              · rw [List.mem_singleton] at hc; rw [hc]; exact hmb
            rw [hmb] at HNR
            clear hmb
            go_wp2_with (go_at_call 81; refine HNR.out.mono ?_; rintro e w' ⟨rfl, rfl⟩)
            go_round
            case rel => exact ⟨k + 1, m + y.length, by omega, by go_num, by go_num, hsum.out.symm, by omega, HAX.out⟩
            case measure => simp [intOf]; omega
      · have HF : Hid (mayCnfB f = true) := by
          show _ = _; unfold mayCnfB; rw [decide_eq_true_eq]
          have h1 := HM.out; have h2 := HALL.out
          rw [List.take_of_length_le (by omega)] at h1 h2
          exact ⟨by omega, by omega, h2⟩
        go_wp2
        go_ret
        exact ⟨ret_bool HF.out.symm, rfl⟩

end Go.Proofs.YtmiijgjpkkmoaaaGreat

/- The reference's Abs, Normal and Cnf. -/
namespace Go.Proofs.YtmiijgjpkkmoaaaGreat
open Go.RowKit
set_option linter.unusedVariables false
set_option linter.unusedSimpArgs false

set_option maxHeartbeats 400000 in
theorem abs3_any (x : Int) (w : World) (h1 : -9223372036854775808 < x) (h2 : x ≤ 9223372036854775807) :
    Calls Tryz.prog 78 #[.int .i64 x] w fun e w' => e = .returned (.int .i64 (absOf x)) ∧ w = w' := by
  by_cases hx : x < 0
  · have he : absOf x = -x := by unfold absOf; rw [if_pos hx]
    have HE := Lib.hid he
    clear he
    go_enter Tryz.func78, Tryz.ntmps78
    go_wp2
    go_ret
    exact ⟨ret_int HE.out.symm, rfl⟩
  · have he : absOf x = x := by unfold absOf; rw [if_neg hx]
    have HE := Lib.hid he
    clear he
    go_enter Tryz.func78, Tryz.ntmps78
    go_wp2
    go_ret
    exact ⟨ret_int HE.out.symm, rfl⟩

set_option maxHeartbeats 3200000 in
set_option maxRecDepth 100000 in
theorem rnormal_any (v : Value) (l : List Int) (w : World) (H : IsInts w v l) :
    Calls Tryz.prog 77 #[v] w fun e w' => e = .returned (.bool (mayB l)) ∧ Quiet w w' := by
  obtain ⟨a, cap, rfl, hcap, _, hl, h64, b, off, ha, hc⟩ := H
  have HC := Lib.hid hc
  have HA := Lib.hid ha
  have H64 := Lib.hid h64
  clear hc ha h64
  go_enter Tryz.func77, Tryz.ntmps77
  go_wp2
  go_loopw [3] (fun i wr => ∃ (k : Nat) (m : Int), k ≤ l.length ∧ i = .int .i64 k ∧ Quiet w wr ∧ 0 ≤ m ∧ m ≤ 65536 ∧ mayB l = mayFrom m (l.drop k) ∧ (k = 0 → m = 0) ∧ (0 < k → absOf (l.getD (k - 1) 0) = m ∧ -65536 ≤ l.getD (k - 1) 0 ∧ l.getD (k - 1) 0 ≤ 65536)) (fun i _ => l.length - (intOf i).toNat)
  case atStart => exact ⟨0, 0, Nat.zero_le _, rfl, Quiet.refl _, by omega, by omega, by simp [mayB], fun _ => rfl, fun h => by omega⟩
  case round =>
    obtain ⟨k, m, hk, rfl, hq, hm0, hm1, hi, hk0, hkp⟩ := hrel
    have HI := Lib.hid hi
    have HK0 := Lib.hid hk0
    have HKP := Lib.hid hkp
    clear hi hk0 hkp
    by_cases hlt : k < l.length
    · obtain ⟨rfl, hb⟩ := HA.out (by intro h; simp [h] at hlt)
      have hy := (hq.cell _).trans (HC.out k hlt)
      have HPC : Hid (0 < k → wr.cell? ⟨b, off + (k - 1), none⟩ = some (.int .i64 (l.getD (k - 1) 0))) := fun h => (hq.cell _).trans (HC.out (k - 1) (by omega))
      have HD := Lib.hid (mayFrom_drop m l k hlt)
      have HAV := Lib.hid (abs_var (l.getD k 0))
      have HAB : Hid (l.getD k 0 ≠ 0 → 1 ≤ absOf (l.getD k 0)) := by intro h; unfold absOf; split <;> omega
      have HAB2 : Hid (-65536 ≤ l.getD k 0 → l.getD k 0 ≤ 65536 → absOf (l.getD k 0) ≤ 65536) := by intro h1 h2; unfold absOf; split <;> omega
      have HAB3 : Hid (l.getD k 0 < -65536 ∨ 65536 < l.getD k 0 → 65536 < absOf (l.getD k 0)) := by intro h; unfold absOf; split <;> omega
      have HAB0 : Hid (l.getD k 0 = 0 → absOf (l.getD k 0) = 0) := by intro h; rw [h]; rfl
      have hcy : Hid (-65536 ≤ l.getD k 0 → l.getD k 0 ≤ 65536 → ∀ W, Calls Tryz.prog 78 #[.int .i64 (l.getD k 0)] W fun e w' => e = .returned (.int .i64 (absOf (l.getD k 0))) ∧ W = w') := fun h1 h2 W => abs3_any _ W (by omega) (by omega)
      have hi0 : (0 : Int) ≤ (k : Int) := by omega
      have hi1 : (k : Int) < (l.length : Int) := by omega
      have HNX : Hid (∀ q, absOf (l.getD k 0) = q → -65536 ≤ l.getD k 0 → l.getD k 0 ≤ 65536 → 0 < k + 1 → absOf (l.getD (k + 1 - 1) 0) = q ∧ -65536 ≤ l.getD (k + 1 - 1) 0 ∧ l.getD (k + 1 - 1) 0 ≤ 65536) := fun q h1 h2 h3 _ => by rw [Nat.add_sub_cancel]; exact ⟨h1, h2, h3⟩
      generalize varOf (l.getD k 0) = z at *
      generalize hqe : absOf (l.getD k 0) = q at *
      have HNX2 := Lib.hid (HNX.out q rfl)
      clear HNX hqe
      generalize l.getD k 0 = y at *
      by_cases g1 : y = 0
      · have HM : Hid (mayB l = false) := by
          show _ = _
          rw [HI.out, HD.out, HAV.out, if_neg (by rw [HAB0.out g1]; decide), HAB0.out g1]
          simp
          intro h
          omega
        have g1' : (y == 0) = true := by simpa using g1
        clear g1
        go_wp2_with fail
        go_quiet (fail)
        go_wp2
        go_ret
        exact ⟨ret_bool HM.out.symm, hq.drewN _⟩
      · have g1' : (y == 0) = false := by simpa using g1
        by_cases g2 : y < -65536
        · have HM : Hid (mayB l = false) := by
            show _ = _
            rw [HI.out, HD.out, HAV.out, if_pos (HAB3.out (.inl g2))]
            simp
            intro h
            omega
          clear g1
          go_wp2_with fail
          go_quiet (fail)
          go_wp2
          go_ret
          exact ⟨ret_bool HM.out.symm, hq.drewN _⟩
        · have g2' : decide (y < -65536) = false := by simpa using g2
          by_cases g3 : 65536 < y
          · have HM : Hid (mayB l = false) := by
              show _ = _
              rw [HI.out, HD.out, HAV.out, if_pos (HAB3.out (.inr g3))]
              simp
              intro h
              omega
            clear g1 g2
            go_wp2_with fail
            go_quiet (fail)
            go_wp2
            go_ret
            exact ⟨ret_bool HM.out.symm, hq.drewN _⟩
          · have g3' : decide (65536 < y) = false := by simpa using g3
            have hq1 := HAB.out g1
            have hq2 := HAB2.out (by omega) (by omega)
            have HNX3 := Lib.hid (HNX2.out (by omega) (by omega))
            have HSTEP : Hid (mayB l = (decide (m < q) && mayFrom q (l.drop (k + 1)))) := by
              show _ = _
              rw [HI.out, HD.out, HAV.out, if_neg (by omega)]
            cases k with
            | zero =>
              have hm : m = 0 := HK0.out rfl
              subst hm
              rw [Nat.add_zero] at hy
              have HM : Hid (mayB l = mayFrom q (l.drop (0 + 1))) := by
                show _ = _
                rw [HSTEP.out]
                have : decide ((0 : Int) < q) = true := by simp; omega
                rw [this]
                rfl
              clear hcy g1 g2 g3 HAB HAB2 HAB3 HAB0 HAV HD HI HNX2 HSTEP HPC
              go_wp2_with fail
              go_quiet (fail)
              go_wp2
              go_roundw
              case rel => exact ⟨0 + 1, q, by omega, by go_num, hq.drewN _, by omega, by omega, HM.out, fun h => by omega, fun h => HNX3.out h⟩
              case measure => simp [intOf]; omega
            | succ k' =>
              obtain ⟨hx1, hx2, hx3⟩ := HKP.out (by omega)
              have hcx := HPC.out (by omega)
              simp only [Nat.add_sub_cancel] at hx1 hx2 hx3 hcx
              have hcallx := fun (W : World) => abs3_any (l.getD k' 0) W (by omega) (by omega)
              rw [hx1] at hcallx
              have HCY := Lib.hid (hcy.out (by omega) (by omega))
              have hi2 : (0 : Int) < (k' : Int) + 1 := by omega
              have hi3 : (0 : Int) ≤ (k' : Int) := by omega
              have hi4 : (k' : Int) < (l.length : Int) := by omega
              have HCX := Lib.hid hcallx
              clear hcallx hcy HPC HKP HK0 hx1
              generalize l.getD k' 0 = x at *
              by_cases hge : q ≤ m
              · have HM : Hid (mayB l = false) := by
                  show _ = _
                  rw [HSTEP.out]
                  have : decide (m < q) = false := by simp; omega
                  rw [this]
                  rfl
                clear g1 g2 g3 HAB HAB2 HAB3 HAB0 HAV HD HI HNX2 HSTEP HNX3
                go_wp2_with fail
                go_quiet ((first
                  | (go_at_call_of 78 (Value.int .i64 x); exact quiet_left (HCX.out _))
                  | (go_at_call_of 78 (Value.int .i64 y); exact quiet_left (HCY.out _))))
                go_wp2
                go_ret
                exact ⟨ret_bool HM.out.symm, hq.drewN _⟩
              · have hge' : decide (q ≤ m) = false := by simpa using hge
                have HM : Hid (mayB l = mayFrom q (l.drop (k' + 1 + 1))) := by
                  show _ = _
                  rw [HSTEP.out]
                  have : decide (m < q) = true := by simp; omega
                  rw [this]
                  rfl
                clear g1 g2 g3 HAB HAB2 HAB3 HAB0 HAV HD HI HNX2 HSTEP
                go_wp2_with fail
                go_quiet ((first
                  | (go_at_call_of 78 (Value.int .i64 x); exact quiet_left (HCX.out _))
                  | (go_at_call_of 78 (Value.int .i64 y); exact quiet_left (HCY.out _))))
                go_wp2
                go_roundw
                case rel => exact ⟨k' + 1 + 1, q, by omega, by go_num, hq.drewN _, by omega, by omega, HM.out, fun h => by omega, fun h => HNX3.out h⟩
                case measure => simp [intOf]; omega
    · have hke : k = l.length := by omega
      have HM : Hid (mayB l = true) := by
        show _ = _
        rw [HI.out, hke, List.drop_length]
        rfl
      go_wp2
      go_ret
      exact ⟨ret_bool HM.out.symm, hq⟩

set_option maxHeartbeats 1600000 in
set_option maxRecDepth 100000 in
theorem rcnf3_any (v : Value) (f : List (List Int)) (w : World) (H : IsRows w v f) (hb : f.length + tot f ≤ 4000000) :
    Calls Tryz.prog 51 #[v] w fun e w' => e = .returned (.bool (mayCnfB f)) ∧ Quiet w w' := by
  obtain ⟨a, cap, rfl, hl⟩ := H.shape
  have HH := Lib.hid H
  have HBD := Lib.hid hb
  have hf1 : (f.length : Int) ≤ 4000000 := by omega
  clear H hb
  go_enter Tryz.func51, Tryz.ntmps51
  go_wp2
  go_loopw [3, 4] (fun n i wr => ∃ (k m : Nat), k ≤ f.length ∧ i = .int .i64 k ∧ n = .int .i64 m ∧ m = tot (f.take k) ∧ Quiet w wr ∧ ∀ c ∈ f.take k, mayB c = true) (fun _ i _ => f.length - (intOf i).toNat)
  case atStart => exact ⟨0, 0, Nat.zero_le _, rfl, rfl, by simp [tot], Quiet.refl _, by simp⟩
  case round =>
    obtain ⟨k, m, hk, rfl, rfl, hm, hq, hall⟩ := hrel
    have HM := Lib.hid hm
    have HALL := Lib.hid hall
    clear hm hall
    by_cases hlt : k < f.length
    · obtain ⟨b, off, u, rfl, hb, hcu0, HU0⟩ := HH.out.at hlt
      have hcu := (hq.cell _).trans hcu0
      have HT := Lib.hid (tot_take_succ hlt)
      have HTL := Lib.hid (tot_take_le f (k + 1))
      have HMEM := Lib.hid (rows_getD_mem hlt)
      have HTS := Lib.hid (rows_take_succ hlt)
      have hnr := rnormal_any _ _ wr (HU0.quiet hq)
      generalize f.getD k [] = y at *
      obtain ⟨ua, uc, rfl⟩ := HU0.shape
      have HNR := Lib.hid hnr
      clear HU0 hnr hcu0
      have hsum : Hid (tot (f.take (k + 1)) = m + y.length) := by show _ = _; rw [HT.out, HM.out]
      have hle : (m : Int) + (y.length : Int) ≤ 4000000 := by have h1 := hsum.out; have h2 := HTL.out; have h3 := HBD.out; omega
      cases hmb : mayB y with
      | false =>
        have HF : Hid (mayCnfB f = false) := by
          show _ = _; unfold mayCnfB; rw [decide_eq_false_iff_not]
          intro h
          rw [h.2.2 y HMEM.out] at hmb
          cases hmb
        rw [hmb] at HNR
        clear hmb
        go_wp2_with (go_at_call 77; refine HNR.out.mono ?_; rintro e w1 ⟨rfl, hq1⟩)
        go_ret
        exact ⟨ret_bool HF.out.symm, hq.trans hq1⟩
      | true =>
        have HAX : Hid (∀ c ∈ f.take (k + 1), mayB c = true) := by
          show ∀ c ∈ f.take (k + 1), mayB c = true
          rw [HTS.out]
          intro c hc
          rcases List.mem_append.1 hc with hc | hc
          · exact HALL.out c hc
          · rw [List.mem_singleton] at hc; rw [hc]; exact hmb
        rw [hmb] at HNR
        clear hmb
        go_wp2_with (go_at_call 77; refine HNR.out.mono ?_; rintro e w1 ⟨rfl, hq1⟩)
        go_roundw
        case rel => exact ⟨k + 1, m + y.length, by omega, by go_num, by go_num, hsum.out.symm, hq.trans hq1, HAX.out⟩
        case measure => simp [intOf]; omega
    · have HF : Hid (mayCnfB f = (decide (f.length ≤ 20000) && decide (m ≤ 200000))) := by
        show _ = _; unfold mayCnfB
        have h1 := HM.out; have h2 := HALL.out
        rw [List.take_of_length_le (by omega)] at h1 h2
        rw [← Bool.decide_and, decide_eq_decide, h1]
        exact ⟨fun h => ⟨h.1, h.2.1⟩, fun h => ⟨h.1, h.2, h2⟩⟩
      go_wp2
      all_goals go_ret
      all_goals first
        | exact ⟨ret_bool (by rw [HF.out, Bool.eq_iff_iff]; simp only [Bool.and_eq_true, decide_eq_true_eq]; omega), hq⟩
        | exact ⟨ret_bool (by rw [HF.out, Bool.eq_iff_iff]; simp only [Bool.and_eq_true, decide_eq_true_eq, Bool.false_eq_true, false_iff]; omega), hq⟩

end Go.Proofs.YtmiijgjpkkmoaaaGreat
