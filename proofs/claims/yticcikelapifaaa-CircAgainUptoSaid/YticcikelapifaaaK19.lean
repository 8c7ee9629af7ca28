/- Joined texts: CxRNorm, CxRPre, CxRMay, CxPAll, CxPNam, CxPSup, CxPOver. -/
import Derived.Test.YticcikelapifaaaK18
/- The reference's Normal (layer 5). -/
namespace Go.Proofs.Yticcikelapifaaa
open Go.RowKit Go.Maps Go.Shelf
set_option linter.unusedVariables false
set_option linter.unusedSimpArgs false

theorem abs5_vo (x : Int) : varOf x = if 65536 < abs5 x then 0 else abs5 x := by
  unfold varOf abs5
  split <;> split <;> (try split) <;> (try split) <;> omega
theorem abs5_pos {x : Int} (h1 : -9223372036854775808 ≤ x) : 0 ≤ abs5 x := by unfold abs5; split <;> (try split) <;> omega
set_option maxHeartbeats 3200000 in
set_option maxRecDepth 100000 in
theorem rnormal5_any (v : Value) (l : List Int) (w : World) (H : IsInts w v l) :
    Calls Try.prog 59 #[v] w fun e w' => e = .returned (.bool (mayB l)) ∧ Quiet w w' := by
  have h64 : In64 l := by obtain ⟨_, _, _, _, _, _, g, _⟩ := H; exact g
  have hll : l.length ≤ 17592186044416 := H.len
  have HU := Lib.hid H
  have H64 := Lib.hid h64
  obtain ⟨a, cap, rfl⟩ := H.shape
  clear H h64
  go_enter Try.func59, Try.ntmps59
  go_wp2
  go_loopw [3] (fun i wr => ∃ (k : Nat) (m : Int), k ≤ l.length ∧ i = .int .i64 k ∧ Quiet w wr ∧ mayB l = mayFrom m (l.drop k) ∧ (k = 0 → m = 0) ∧ (0 < k → abs5 (l.getD (k - 1) 0) = m)) (fun i _ => l.length - (intOf i).toNat)
  case atStart => exact ⟨0, 0, Nat.zero_le _, rfl, Quiet.refl _, by simp [mayB], fun _ => rfl, fun h => by omega⟩
  case round =>
    obtain ⟨k, m, hk, rfl, hq, hi, hk0, hkp⟩ := hrel
    have HI := Lib.hid hi
    have HK0 := Lib.hid hk0
    have HKP := Lib.hid hkp
    clear hi hk0 hkp
    by_cases hlt : k < l.length
    · obtain ⟨b, off, rfl, hb, hc0⟩ := HU.out.cellY hlt
      have hy := (hq.cell _).trans hc0
      have HPC : Hid (0 < k → wr.cell? ⟨b, off + (k - 1), none⟩ = some (.int .i64 (l.getD (k - 1) 0))) := fun h => by
        obtain ⟨b', off', e, _, hc⟩ := HU.out.cellY (k := k - 1) (by omega)
        injection e with e
        injection e with e1 e2
        subst e1; subst e2
        exact (hq.cell _).trans hc
      have hne : ¬ l = [] := by intro e; rw [e] at hlt; simp at hlt
      have HD := Lib.hid (mayFrom_drop m l k hlt)
      have HAV := Lib.hid (abs5_vo (l.getD k 0))
      have hr := H64.out (l.getD k 0) (by simp [List.getD, hlt])
      have HPX : Hid (0 < k → -9223372036854775808 ≤ l.getD (k - 1) 0 ∧ l.getD (k - 1) 0 ≤ 9223372036854775807) := fun h => H64.out _ (by simp [List.getD, show k - 1 < l.length by omega])
      have HCY := Lib.hid (fun W => abs5_any (l.getD k 0) W hr.1 hr.2)
      have hi0 : (0 : Int) ≤ (k : Int) := by omega
      have hi1 : (k : Int) < (l.length : Int) := by omega
      have HNX : Hid (0 < k + 1 → abs5 (l.getD (k + 1 - 1) 0) = abs5 (l.getD k 0)) := fun _ => by rw [Nat.add_sub_cancel]
      have HKL := Lib.hid hlt
      have hp := abs5_pos hr.1
      clear hc0 hr hlt
      generalize varOf (l.getD k 0) = z at *
      generalize abs5 (l.getD k 0) = q at *
      generalize l.getD k 0 = y at *
      have HV := Lib.hid (fun W => vari5_any q W)
      have HVD : Hid (varB q = (decide (1 ≤ q) && decide (q ≤ 65536))) := rfl
      cases hv : varB q with
      | false =>
        rw [hv] at HV
        have HM : Hid (mayB l = false) := by
          show _ = _
          rw [HI.out, HD.out, HAV.out]
          have h1 := HVD.out
          rw [hv] at h1
          by_cases h6 : 65536 < q
          · rw [if_pos h6]
            cases k with
            | zero => rw [HK0.out rfl]; rfl
            | succ k' =>
              have hm : 0 ≤ m := by rw [← HKP.out (by omega)]; exact abs5_pos (HPX.out (by omega)).1
              have : decide (m < 0) = false := by simpa using hm
              rw [this]; rfl
          · rw [if_neg h6]
            have h7 : q = 0 := by
              have h8 : ¬ (1 ≤ q ∧ q ≤ 65536) := by intro hh; simp [hh.1, hh.2] at h1
              omega
            rw [h7]
            cases k with
            | zero => rw [HK0.out rfl]; rfl
            | succ k' =>
              have hm : 0 ≤ m := by rw [← HKP.out (by omega)]; exact abs5_pos (HPX.out (by omega)).1
              have : decide (m < 0) = false := by simpa using hm
              rw [this]; rfl
        clear hv hp
        go_wp2_with fail
        go_quiet ((first
          | (go_at_call 38; exact quiet_left (HCY.out _))
          | (go_at_call 49; exact quiet_left (HV.out _))))
        go_wp2
        go_ret
        exact ⟨ret_bool HM.out.symm, hq.drewN _⟩
      | true =>
        rw [hv] at HV
        have hb2 : 1 ≤ q ∧ q ≤ 65536 := by have h1 := HVD.out; rw [hv] at h1; simpa using h1.symm
        have HSTEP : Hid (mayB l = (decide (m < q) && mayFrom q (l.drop (k + 1)))) := by
          show _ = _
          rw [HI.out, HD.out, HAV.out, if_neg (by omega)]
        have HQ1 := Lib.hid hb2
        clear hv hp hb2 HVD HAV HD HI
        cases k with
        | zero =>
          have hm : m = 0 := HK0.out rfl
          subst hm
          rw [Nat.add_zero] at hy
          have HM : Hid (mayB l = mayFrom q (l.drop (0 + 1))) := by
            show _ = _
            rw [HSTEP.out]
            have : decide ((0 : Int) < q) = true := by have := HQ1.out; simp; omega
            rw [this]
            rfl
          clear HSTEP HPC HPX
          go_wp2_with fail
          go_quiet ((first
            | (go_at_call 38; exact quiet_left (HCY.out _))
            | (go_at_call 49; exact quiet_left (HV.out _))))
          go_wp2
          go_roundw
          case rel => exact ⟨0 + 1, q, HKL.out, by go_num, hq.drewN _, HM.out, fun h => by omega, fun h => HNX.out h⟩
          case measure => have := HKL.out; simp [intOf]; omega
        | succ k' =>
          have hx1 := HKP.out (by omega)
          have hcx := HPC.out (by omega)
          have hxr := HPX.out (by omega)
          simp only [Nat.add_sub_cancel] at hx1 hxr hcx
          have hcallx := fun (W : World) => abs5_any (l.getD k' 0) W hxr.1 hxr.2
          rw [hx1] at hcallx
          have hi2 : (0 : Int) < (k' : Int) + 1 := by omega
          have hi3 : (0 : Int) ≤ (k' : Int) := by omega
          have hi4 : (k' : Int) < (l.length : Int) := by omega
          have HCX := Lib.hid hcallx
          clear hcallx HPC HKP HK0 hx1 HPX hxr
          generalize l.getD k' 0 = x at *
          by_cases hge : q ≤ m
          · have HM : Hid (mayB l = false) := by
              show _ = _
              rw [HSTEP.out]
              have : decide (m < q) = false := by simp; omega
              rw [this]
              rfl
            clear HSTEP HNX
            go_wp2_with fail
            go_quiet ((first
              | (go_at_call 49; exact quiet_left (HV.out _))
              | (go_at_call_of 38 (Value.int .i64 x); exact quiet_left (HCX.out _))
              | (go_at_call_of 38 (Value.int .i64 y); exact quiet_left (HCY.out _))))
            go_wp2
            go_ret
            exact ⟨ret_bool HM.out.symm, hq.drewN _⟩
          · have hge' : decide (q ≤ m) = false := by simpa using hge
            have HM : Hid (mayB l = mayFrom q (l.drop (k' + 1 + 1))) := by
              show _ = _
              rw [HSTEP.out]
              have : decide (m < q) = true := by simp; omega
              rw [this]
              rfl
            clear HSTEP
            go_wp2_with fail
            go_quiet ((first
              | (go_at_call 49; exact quiet_left (HV.out _))
              | (go_at_call_of 38 (Value.int .i64 x); exact quiet_left (HCX.out _))
              | (go_at_call_of 38 (Value.int .i64 y); exact quiet_left (HCY.out _))))
            go_wp2
            go_roundw
            case rel => exact ⟨k' + 1 + 1, q, HKL.out, by go_num, hq.drewN _, HM.out, fun h => by omega, fun h => HNX.out h⟩
            case measure => have := HKL.out; simp [intOf]; omega
    · have HE : Hid (mayB l = true) := by
        have h := HI.out
        rw [List.drop_of_length_le (by omega)] at h
        exact h
      go_wp2
      go_ret
      exact ⟨ret_bool HE.out.symm, hq⟩
end Go.Proofs.Yticcikelapifaaa

/- The reference's Prefix (layer 5). -/
namespace Go.Proofs.Yticcikelapifaaa
open Go.RowKit Go.Maps Go.Shelf
set_option linter.unusedVariables false
set_option linter.unusedSimpArgs false

theorem ent_var {S : List Int} {v : Int} : entB S v = (varB v && !memB S v) := by
  unfold entB varB memB
  rw [Bool.eq_iff_iff]
  simp [and_assoc]
theorem own_to {w w' : World} {B : Nat} {v : Value} {xs : List Int} (h : Own w B v xs) (hb : Below w.heap.size w w') : Own w' B v xs := (keptOf (S := fun _ => False) hb).row h (fun _ _ h => h)
set_option maxHeartbeats 3200000 in
set_option maxRecDepth 100000 in
theorem rprefix5_any (v : Value) (p : List Blk) (w : World) (H : IsBlocks w v p) (hp : p.length ≤ 4000000) :
    Calls Try.prog 48 #[v] w fun e w' => e = .returned (.bool (mayP p)) ∧ Below w.heap.size w w' := by
  obtain ⟨a, cap, rfl, hl⟩ := H.shape
  have HH := Lib.hid H
  clear H
  go_enter Try.func48, Try.ntmps48
  go_wp2
  go_loopw [3, 4] (fun out i wr => ∃ k : Nat, k ≤ p.length ∧ i = .int .i64 k ∧ Own wr w.heap.size out (flatB (p.take k)) ∧ Below w.heap.size w wr ∧ numsOk (flatB (p.take k)) ∧ ∀ j, j < k → blkOk p j) (fun _ i _ => p.length - (intOf i).toNat)
  case atStart => exact ⟨0, Nat.zero_le _, rfl, by simpa [flatB] using Own.nil w w.heap.size, Below.refl _ _, by simpa [flatB] using nums_nil, fun j h => by omega⟩
  case round =>
    obtain ⟨k, hk, rfl, hown, hbel, hnums, hblk⟩ := hrel
    have hsz := hbel.size
    have HO := Lib.hid hown
    have HN := Lib.hid hnums
    have HK := Lib.hid hblk
    have HB := Lib.hid hbel
    obtain ⟨sa, sc, rfl⟩ := own_shC hown
    by_cases hlt : k < p.length
    · obtain ⟨b, off, u, rfl, hb, hcx0, hcu0, HU0⟩ := HH.out.at hlt
      have hcx := (hbel.cell (p := ⟨b, off + k * 2, none⟩) hb).trans hcx0
      have hcu := (hbel.cell (p := ⟨b, off + k * 2 + 1, none⟩) hb).trans hcu0
      obtain ⟨ua, uc, rfl⟩ := HU0.shape
      have HU := Lib.hid HU0
      have HFT := Lib.hid (flat_take_succ (d := dB) hlt)
      have HPF := Lib.hid (fun t => flat_prefix (d := dB) hlt t)
      have HNB := Lib.hid (mayP_blk hlt)
      have HBD : Hid (blkOk p k ↔ (p.getD k dB).2 ≠ [] ∧ (0 < k → (p.getD k dB).1 ≠ (p.getD (k - 1) dB).1)) := Iff.rfl
      have hpr : Hid (0 < k → ∃ e, (p.getD (k - 1) dB).1 = e ∧ wr.cell? ⟨b, off + (k - 1) * 2, none⟩ = some (.bool e)) := by
        intro hk0
        obtain ⟨b', off', u', e1, hb', hc', _, _⟩ := HH.out.at (show k - 1 < p.length by omega)
        injection e1 with e1
        injection e1 with e1 e2 _
        subst e1; subst e2
        exact ⟨_, rfl, (hbel.cell (p := ⟨b, off + (k - 1) * 2, none⟩) hb).trans hc'⟩
      have HKL := Lib.hid hlt
      have hne : ¬ p = [] := by intro e; rw [e] at hlt; simp at hlt
      have hk0 : (0 : Int) ≤ (k : Int) := by omega
      have hk1 : (k : Int) < (p.length : Int) := by omega
      have hk2 : (k : Int) < 4000001 := by omega
      have HCU0 := Lib.hid hcu0
      clear hcx0 hcu0 HU0 hown hbel hnums hblk hlt
      generalize p.getD k dB = y at *
      obtain ⟨y1, y2⟩ := y
      simp only at hcx hcu HU HFT HPF HBD
      generalize flatB (p.take k) = S at *
      by_cases h0 : y2 = []
      · have HM : Hid (mayP p = false) := HNB.out (fun h => (HBD.out.1 h).1 h0)
        have hz : ((y2.length : Int) == 0) = true := by rw [h0]; rfl
        clear h0 hpr HPF HFT
        go_wp2_with fail
        go_quiet (fail)
        go_wp2
        go_ret
        exact ⟨ret_bool HM.out.symm, HB.out.trans (Quiet.below ⟨_, rfl⟩ _)⟩
      · have hz : ((y2.length : Int) == 0) = false := by simpa using h0
        have HY0 := Lib.hid h0
        clear h0
        have finish : True := trivial
        by_cases hbad : 0 < k ∧ y1 = (p.getD (k - 1) dB).1
        · obtain ⟨e, he, hce⟩ := hpr.out hbad.1
          have HM : Hid (mayP p = false) := HNB.out (fun h => (HBD.out.1 h).2 hbad.1 hbad.2)
          have hye : y1 = e := hbad.2.trans he
          obtain ⟨k', rfl⟩ : ∃ k', k = k' + 1 := ⟨k - 1, by omega⟩
          rw [Nat.add_sub_cancel] at hce
          subst hye
          have hi2 : (0 : Int) < (k' : Int) + 1 := by omega
          have hi3 : (0 : Int) ≤ (k' : Int) := by omega
          have hi4 : (k' : Int) < (p.length : Int) := by omega
          have hj1 : (k' : Int) + 1 < (p.length : Int) := by omega
          have hj0 : (0 : Int) ≤ (k' : Int) + 1 := by omega
          clear hbad he hpr HPF HFT HBD hk hk0 hk1 hk2 hp
          cases y1 with
          | true =>
            go_wp2_with fail
            go_quiet (fail)
            go_wp2
            go_ret
            exact ⟨ret_bool HM.out.symm, HB.out.trans (Quiet.below ⟨_, rfl⟩ _)⟩
          | false =>
            go_wp2_with fail
            go_quiet (fail)
            go_wp2
            go_ret
            exact ⟨ret_bool HM.out.symm, HB.out.trans (Quiet.below ⟨_, rfl⟩ _)⟩
        · have HOK : Hid (blkOk p k) := HBD.out.2 ⟨HY0.out, fun h e => hbad ⟨h, e⟩⟩
          have HBAD := Lib.hid hbad
          clear hbad
          go_upto_region 5 with fail
          go_cut [36] from 12 to 36 (fun s wx => s = .bool false ∧ Below wr.heap.size wr wx)
          case first =>
            cases k with
            | zero =>
              rw [Nat.zero_mul, Nat.add_zero] at hcx
              rw [Nat.zero_mul, Nat.add_zero] at hcu
              clear hpr HPF HFT HBD hp hk2
              go_wp2_with fail
              go_quiet (fail)
              go_wp2
              go_meet
              exact ⟨rfl, Quiet.below ⟨_, rfl⟩ _⟩
            | succ k' =>
              obtain ⟨e, he, hce⟩ := hpr.out (by omega)
              rw [Nat.add_sub_cancel] at hce
              have hye : ¬ y1 = e := fun h => HBAD.out ⟨by omega, h.trans he.symm⟩
              have h2 : (y1 = true ∧ e = false) ∨ (y1 = false ∧ e = true) := by cases y1 <;> cases e <;> simp at hye ⊢
              have hi2 : (0 : Int) < (k' : Int) + 1 := by omega
              have hi3 : (0 : Int) ≤ (k' : Int) := by omega
              have hi4 : (k' : Int) < (p.length : Int) := by omega
              have hj1 : (k' : Int) + 1 < (p.length : Int) := by omega
              have hj0 : (0 : Int) ≤ (k' : Int) + 1 := by omega
              clear hye he hpr HPF HFT HBD hk hk0 hk1 hk2 hp
              rcases h2 with ⟨rfl, rfl⟩ | ⟨rfl, rfl⟩
              · go_wp2_with fail
                go_quiet (fail)
                go_wp2
                go_meet
                exact ⟨rfl, Quiet.below ⟨_, rfl⟩ _⟩
              · go_wp2_with fail
                go_quiet (fail)
                go_wp2
                go_meet
                exact ⟨rfl, Quiet.below ⟨_, rfl⟩ _⟩
          case rest =>
            obtain ⟨rfl, hbc⟩ := hcut
            have HBC := Lib.hid (HB.out.trans (hbc.mono hsz))
            have HOC : Hid (Own wc w.heap.size (.slice sa S.length sc) S) := own_to HO.out hbc
            have HUC : Hid (IsInts w (.slice ua y2.length uc) y2) := HU.out
            have HCU : Hid (∀ X, Below w.heap.size w X → X.cell? ⟨b, off + k * 2 + 1, none⟩ = some (.slice ua y2.length uc)) := fun X hX => (hX.cell (p := ⟨b, off + k * 2 + 1, none⟩) hb).trans HCU0.out
            clear hbc hcx hcu hpr
            go_wp2
            go_loopw [3, 5] (fun out i2 w2 => ∃ q : Nat, q ≤ y2.length ∧ i2 = .int .i64 q ∧ Own w2 w.heap.size out (S ++ y2.take q) ∧ Below w.heap.size w w2 ∧ Hid (numsOk (S ++ y2.take q))) (fun _ i2 _ => y2.length - (intOf i2).toNat)
            case atStart => exact ⟨0, Nat.zero_le _, rfl, by simpa using HOC.out, HBC.out, by rw [List.take_zero, List.append_nil]; exact HN⟩
            case round =>
              obtain ⟨q, hq, rfl, hown, hbel, HNQ⟩ := hrel
              have hsz2 := hbel.size
              have HO2 := Lib.hid hown
              have HB2 := Lib.hid hbel
              obtain ⟨sa2, sc2, rfl⟩ := own_shC hown
              have hcu := HCU.out _ hbel
              clear hown hbel
              by_cases hlt : q < y2.length
              · obtain ⟨b2, off2, rfl, hb2, hc0⟩ := HUC.out.cellY hlt
                have hc := (HB2.out.cell (p := ⟨b2, off2 + q, none⟩) hb2).trans hc0
                have HTK : Hid (y2.take (q + 1) = y2.take q ++ [y2.getD q 0]) := by show _ = _; rw [List.take_succ_eq_append_getElem hlt]; simp [List.getD, hlt]
                have H64 : Hid (-9223372036854775808 ≤ y2.getD q 0 ∧ y2.getD q 0 ≤ 9223372036854775807) := by obtain ⟨_, _, _, _, _, _, g, _⟩ := HUC.out; exact g _ (by simp [List.getD, hlt])
                have HPR := Lib.hid (HPF.out (q + 1))
                rw [HTK.out, ← List.append_assoc] at HPR
                have HQL := Lib.hid hlt
                have hne2 : ¬ y2 = [] := by intro e; rw [e] at hlt; simp at hlt
                have hq0 : (0 : Int) ≤ (q : Int) := by omega
                have hq1 : (q : Int) < (y2.length : Int) := by omega
                have hq2 : (q : Int) < 17592186044416 := by have := HUC.out.len; omega
                clear hc0 hlt
                generalize y2.getD q 0 = x at *
                have HAPP : Hid (S ++ y2.take (q + 1) = S ++ y2.take q ++ [x]) := by show _ = _; rw [HTK.out, List.append_assoc]
                generalize S ++ y2.take q = T at *
                have hTL : T.length ≤ 1024 := HNQ.out.2.2
                have hTI : IsInts wr (.slice sa2 T.length sc2) T := HO2.out.ints (by omega) (fun z hz => by have := HNQ.out.2.1 z hz; omega)
                have HV := Lib.hid (vari5_any x wr)
                have HIN := Lib.hid (in5_any _ T x wr hTI H64.out.1 H64.out.2)
                have HEV := Lib.hid (ent_var (S := T) (v := x))
                have HTL := Lib.hid hTL
                clear hTI hTL
                cases hv : varB x with
                | false =>
                  rw [hv] at HV
                  have HM : Hid (mayP p = false) := mayP_num HPR.out (nums_noent (by rw [HEV.out, hv]; rfl))
                  clear hv
                  go_wp2_with (go_at_call 49; refine HV.out.mono ?_; rintro e w1 ⟨rfl, rfl⟩)
                  go_ret
                  exact ⟨ret_bool HM.out.symm, HB2.out⟩
                | true =>
                  rw [hv] at HV
                  cases hm : memB T x with
                  | true =>
                    rw [hm] at HIN
                    have HM : Hid (mayP p = false) := mayP_num HPR.out (nums_noent (by rw [HEV.out, hv, hm]; rfl))
                    clear hv hm
                    go_wp2_with (first
                      | (go_at_call 49; refine HV.out.mono ?_; rintro e w1 ⟨rfl, rfl⟩)
                      | (go_at_call 37; refine HIN.out.mono ?_; rintro e w1 ⟨rfl, rfl⟩))
                    go_ret
                    exact ⟨ret_bool HM.out.symm, HB2.out⟩
                  | false =>
                    rw [hm] at HIN
                    by_cases hfull : T.length = 1024
                    · have HM : Hid (mayP p = false) := mayP_num HPR.out (nums_long (by rw [List.length_append, hfull]; simp))
                      have hz2 : ((T.length : Int) == 1024) = true := by rw [hfull]; rfl
                      clear hv hm hfull
                      go_wp2_with (first
                        | (go_at_call 49; refine HV.out.mono ?_; rintro e w1 ⟨rfl, rfl⟩)
                        | (go_at_call 37; refine HIN.out.mono ?_; rintro e w1 ⟨rfl, rfl⟩))
                      go_ret
                      exact ⟨ret_bool HM.out.symm, HB2.out⟩
                    · have hz2 : ((T.length : Int) == 1024) = false := by simp; omega
                      have HNQ2 : Hid (numsOk (T ++ [x])) := nums_ent HNQ.out (by rw [HEV.out, hv, hm]; rfl) (by have := HTL.out; omega)
                      clear hv hm hfull
                      go_wp2_with (first
                        | (go_at_call 49; refine HV.out.mono ?_; rintro e w1 ⟨rfl, rfl⟩)
                        | (go_at_call 37; refine HIN.out.mono ?_; rintro e w1 ⟨rfl, rfl⟩)
                        | (at_builtin; refine wpList_app1 rfl (.tmp 74) (.tmp 83) rfl w.heap.size (.slice sa2 T.length sc2) T x wr.heap.size rfl rfl (HO2.out.alloc _) (cell_fresh rfl) (by have := HTL.out; omega) (by simp; omega) ?_; intro v9 w9 ho9 hg9; have HO9 := Lib.hid ho9; have HB9 := Lib.hid (below_app (HB2.out.alloc hsz2 _) (HO2.out.alloc _) (by simp; omega) hg9); clear ho9 hg9))
                      go_roundw
                      case rel => exact ⟨q + 1, HQL.out, by go_num, by rw [HAPP.out]; exact HO9.out, HB9.out, by rw [HAPP.out]; exact HNQ2⟩
                      case measure => have := HQL.out; simp [intOf]; omega
              · have HQ : Hid (q = y2.length) := by show _ = _; omega
                have HO3 : Hid (Own wr w.heap.size (.slice sa2 (S ++ y2.take q).length sc2) (flatB (p.take (k + 1)))) := by
                  have h1 := HO2.out
                  show Own _ _ _ _
                  rw [HFT.out]
                  rw [HQ.out, List.take_length] at h1 ⊢
                  exact h1
                have HN3 : Hid (numsOk (flatB (p.take (k + 1)))) := by
                  have h1 := HNQ.out
                  rw [HQ.out, List.take_length] at h1
                  show numsOk _
                  rw [HFT.out]
                  exact h1
                go_wp2
                go_roundw
                case rel => exact ⟨k + 1, HKL.out, by go_num, HO3.out, HB2.out, HN3.out, fun j hj => by
                  rcases Nat.lt_or_eq_of_le (Nat.le_of_lt_succ hj) with h | h
                  · exact HK.out j h
                  · rw [h]; exact HOK.out⟩
                case measure => have := HKL.out; simp [intOf]; omega
    · have HKE : Hid (k = p.length) := by show _ = _; omega
      have HM : Hid (mayP p = true) := by
        have h1 := HK.out
        have h2 := HN.out
        rw [HKE.out] at h1
        rw [HKE.out, List.take_length] at h2
        show _ = _
        unfold mayP
        exact decide_eq_true ⟨h1, h2⟩
      go_wp2
      go_ret
      exact ⟨ret_bool HM.out.symm, HB.out⟩
end Go.Proofs.Yticcikelapifaaa

/- The reference's May (layer 5). -/
namespace Go.Proofs.Yticcikelapifaaa
open Go.RowKit Go.Maps Go.Shelf
set_option linter.unusedVariables false
set_option linter.unusedSimpArgs false

theorem known_mem {S : List Int} (hS : ∀ y ∈ S, 1 ≤ y ∧ y ≤ 65536) {x : Int} (h1 : -9223372036854775808 ≤ x) (h2 : x ≤ 9223372036854775807) : knownB (fun i => decide (i ∈ S)) x = decide (varC x ∈ S) := by
  unfold knownB varB
  rw [Bool.eq_iff_iff]
  simp only [Bool.and_eq_true, decide_eq_true_eq]
  constructor
  · rintro ⟨⟨h3, h4⟩, h5⟩
    have e : abs5 x = varC x := by
      unfold abs5 at h3 ⊢
      unfold varC
      split
      · split
        · rename_i h6 h7; rw [if_pos h6, if_pos h7] at h3; omega
        · rfl
      · rfl
    rwa [e] at h5
  · intro h
    have h3 := hS _ h
    rw [abs5_var (by omega)]
    exact ⟨h3, h⟩
theorem gOk_no {S : List Int} {t : Nat} {g : Gt} (h : (t + g.2.2.length ≤ 200000 ∧ fitsB g.2.1 g.2.2.length = true ∧ (g.2.2.all (fun x => decide (varC x ∈ S))) = true ∧ entB S g.1 = true) → False) : gOk S t g = false := by
  unfold gOk
  rw [← Bool.not_eq_true]
  intro e
  simp only [Bool.and_eq_true, decide_eq_true_eq] at e
  exact h e
set_option maxHeartbeats 6400000 in
set_option maxRecDepth 100000 in
theorem rmay5_any (vp vg : Value) (o : Int) (P : List Blk) (gs : List Gt) (w : World) (HP : IsBlocks w vp P) (HG : IsGates w vg gs) (hp : P.length ≤ 4000000) (hg : gs.length < 1000000) (ho1 : -9223372036854775808 ≤ o) (ho2 : o ≤ 9223372036854775807) :
    Calls Try.prog 16 #[.agg #[vp, vg, .int .i64 o]] w fun e w' => e = .returned (.bool (mayN P gs o)) ∧ Below w.heap.size w w' := by
  have HGB := Lib.hid HG.bd
  obtain ⟨pa, pc, rfl, _⟩ := HP.shape
  obtain ⟨ga, gc, rfl, _⟩ := HG.shape
  obtain ⟨W0, hW0⟩ : ∃ W0, w.alloc (.cells #[.slice pa P.length pc, .slice ga gs.length gc, .int .i64 o] 25) = W0 := ⟨_, rfl⟩
  have hb0 : Below w.heap.size w W0 := by rw [← hW0]; exact below_new _ _
  have hsz0 : w.heap.size ≤ W0.heap.size := hb0.size
  have hbx := box_new w (.slice pa P.length pc) (.slice ga gs.length gc) o
  rw [hW0] at hbx
  have hs1 : W0.heap.size = w.heap.size + 1 := by rw [← hW0]; simp
  have HXC : Hid (∀ X, Below W0.heap.size W0 X → BoxN X w.heap.size (.slice pa P.length pc) (.slice ga gs.length gc) o) := fun X hX => hbx X (hX.mono (by omega))
  have HW0 := Lib.hid hW0
  have HB0 := Lib.hid hb0
  have HPW := Lib.hid (HP.below hb0 (Nat.le_refl _))
  have HGW := Lib.hid (HG.below hb0 (Nat.le_refl _))
  have HPF := Lib.hid (rprefix5_any _ P W0 HPW.out hp)
  clear HP HG hW0 hb0 hbx hs1 hp
  cases hm : mayP P with
  | false =>
    rw [hm] at HPF
    have HR : Hid (mayN P gs o = false) := by show _ = _; unfold mayN namedN; rw [hm]; rfl
    clear hm
    go_enter Try.func16, Try.ntmps16
    go_upto_region 1 with fail
    rw [HW0.out]
    obtain ⟨p0, p1, p2⟩ := HXC.out W0 (Below.refl _ _)
    go_wp2_with (go_at_call 48; refine HPF.out.mono ?_; rintro e w1 ⟨rfl, hb1⟩)
    go_ret
    exact ⟨ret_bool HR.out.symm, HB0.out.trans (hb1.mono hsz0)⟩
  | true =>
    rw [hm] at HPF
    have HPP := Lib.hid (mayP_parts hm)
    have HNL : Hid (mayN P gs o = match namedL (flatB P) 0 gs with | some S => decide (varC o ∈ S) | none => false) := by show _ = _; unfold mayN namedN; rw [hm]; rfl
    have hfl := (mayP_short hm).1
    have HVA : Hid (∀ X, Below W0.heap.size W0 X → Calls Try.prog 33 #[.slice pa P.length pc] X fun e w' => ∃ u, e = .returned u ∧ Own w' X.heap.size u (flatB P) ∧ Below X.heap.size X w') := fun X hX => vars5_any _ P X (HPW.out.below hX (Nat.le_refl _)) (by omega)
    have HFB : Hid (∀ y ∈ flatB P, 1 ≤ y ∧ y ≤ 65536) := HPP.out.2.2.1
    have HMK : Hid (∀ X u B, B ≤ X.heap.size → Own X B u (flatB P) → Calls Try.prog 45 #[u] X fun e w' => ∃ b, e = .returned (.slice (some ⟨b, 0, none⟩) nM nM) ∧ Mk w' X.heap.size b (fun x => decide (x ∈ flatB P)) ∧ Below X.heap.size X w') := fun X u B hB h => marks5_any u (flatB P) X (h.ints (by omega) (fun y hy => by have := HFB.out y hy; omega)) (fun y hy => by have := HFB.out y hy; omega)
    clear hm hfl
    go_enter Try.func16, Try.ntmps16
    go_upto_region 1 with fail
    rw [HW0.out]
    obtain ⟨p0, p1, p2⟩ := HXC.out W0 (Below.refl _ _)
    go_wp2_with (first
      | (go_at_call 48; refine HPF.out.mono ?_; rintro e w1 ⟨rfl, hb1⟩; have HB1 := Lib.hid hb1; clear hb1 p0 p1 p2; obtain ⟨p0, p1, p2⟩ := HXC.out w1 HB1.out)
      | (go_at_call 33; refine (HVA.out w1 HB1.out).mono ?_; rintro e w2 ⟨u, rfl, ho2x, hb2⟩; have HO2 := Lib.hid ho2x; have HB2 := Lib.hid (HB1.out.trans (hb2.mono HB1.out.size)); have HS2 := Lib.hid hb2.size; clear ho2x hb2)
      | (go_at_call 45; refine (HMK.out w2 u _ HS2.out HO2.out).mono ?_; rintro e w3 ⟨b, rfl, hmk, hb3⟩; have HB3 := Lib.hid (HB2.out.trans (hb3.mono HB2.out.size)); have HM3 := Lib.hid (hmk.mono HB2.out.size); clear hmk hb3))
    clear p0 p1 p2
    go_loopw [4, 5] (fun tv i wr => ∃ (k : Nat) (S : List Int) (t : Nat), k ≤ gs.length ∧ i = .int .i64 k ∧ tv = .int .i64 (t : Int) ∧ t ≤ 200000 ∧ Below W0.heap.size W0 wr ∧ Mk wr W0.heap.size b (fun x => decide (x ∈ S)) ∧ namedL (flatB P) 0 gs = namedL S t (gs.drop k) ∧ ∀ y ∈ S, 1 ≤ y ∧ y ≤ 65536) (fun _ i _ => gs.length - (intOf i).toNat)
    case atStart => exact ⟨0, flatB P, 0, Nat.zero_le _, rfl, rfl, by omega, HB3.out, HM3.out, by rw [List.drop_zero], HFB.out⟩
    case round =>
      obtain ⟨k, S, t, hk, rfl, rfl, ht, hbel, hmk, hnl, hS⟩ := hrel
      have HB := Lib.hid hbel
      have HM := Lib.hid hmk
      have HNK := Lib.hid hnl
      have HSB := Lib.hid hS
      have HT := Lib.hid ht
      have hszr := hbel.size
      obtain ⟨p0, p1, p2⟩ := HXC.out wr hbel
      clear hbel hmk hnl hS
      by_cases hlt : k < gs.length
      · obtain ⟨pb, off, u3, rfl, hb, hcx0, hck0, hcu0, HU0, hrg⟩ := HGW.out.at hlt
        have hcx := (HB.out.cell (p := ⟨pb, off + k * 3, none⟩) hb).trans hcx0
        have hck := (HB.out.cell (p := ⟨pb, off + k * 3 + 1, none⟩) hb).trans hck0
        have hcu := (HB.out.cell (p := ⟨pb, off + k * 3 + 2, none⟩) hb).trans hcu0
        have HNC := Lib.hid (namedL_cons (S := S) (t := t) hlt)
        have HBJ := Lib.hid (HGB.out _ (show gs.getD k dG ∈ gs by simp [List.getD, hlt]))
        have hk0 : (0 : Int) ≤ (k : Int) := by omega
        have hk1 : (k : Int) < (gs.length : Int) := by omega
        have hk2 : (k : Int) < 4000001 := by omega
        have HKL := Lib.hid hlt
        clear hcx0 hck0 hcu0 hlt ht hk
        generalize gs.getD k dG = y at *
        obtain ⟨y1, y2, y3⟩ := y
        simp only at hcx hck hcu HU0 hrg HNC HBJ
        have HU := Lib.hid HU0
        obtain ⟨ua, uc, rfl⟩ := HU0.shape
        have hyl : y3.length ≤ 17592186044416 := HBJ.out.2.2.1
        have hs0 : (0 : Int) ≤ (t : Int) + (y3.length : Int) := by omega
        have hs1 : (t : Int) + (y3.length : Int) < 9223372036854775808 := by have := HT.out; omega
        have HYL := Lib.hid hyl
        have hlw : Below wr.heap.size wr (wr.alloc (.cells #[.int .i64 y1, .int .u8 y2, .slice ua y3.length uc] 71)) := below_new _ _
        have hh : (wr.alloc (.cells #[.int .i64 y1, .int .u8 y2, .slice ua y3.length uc] 71)).heap[wr.heap.size]? = some (.cells #[.int .i64 y1, .int .u8 y2, .slice ua y3.length uc] 71 (0, 0)) := heap_hit rfl
        have HNX : Hid (mayN P gs o = true → gOk S t (y1, y2, y3) = true) := fun e => by
          rw [HNL.out, HNK.out, HNC.out] at e
          cases hgk : gOk S t (y1, y2, y3) with
          | true => rfl
          | false => rw [hgk] at e; simp at e
        have HNO : Hid (gOk S t (y1, y2, y3) = false → mayN P gs o = false) := fun e => by
          cases hmn : mayN P gs o with
          | false => rfl
          | true => rw [HNX.out hmn] at e; cases e
        clear HU0 hyl HNX
        go_upto_region 9 with fail
        clear hcx hck hcu p0 p1 p2
        have HBG := Lib.hid (HB.out.trans (hlw.mono hszr))
        have HMG := Lib.hid (HM.out.below hlw (Nat.le_refl _))
        have HLW := Lib.hid hlw
        have hsw : wr.heap.size < (wr.alloc (.cells #[.int .i64 y1, .int .u8 y2, .slice ua y3.length uc] 71)).heap.size := by simp
        clear hlw HM
        generalize wr.alloc (.cells #[.int .i64 y1, .int .u8 y2, .slice ua y3.length uc] 71) = wg at *
        obtain ⟨gb, hgb⟩ : ∃ gb, wr.heap.size = gb := ⟨_, rfl⟩
        rw [hgb] at hh hsw ⊢
        clear hgb hszr HLW
        have HXG : Hid (∀ X, Below wg.heap.size wg X → X.cell? ⟨gb, 0, none⟩ = some (.int .i64 y1) ∧ X.cell? ⟨gb, 1, none⟩ = some (.int .u8 y2) ∧ X.cell? ⟨gb, 2, none⟩ = some (.slice ua y3.length uc)) := fun X hX => by
          have h1 := (hX.block gb hsw).trans hh
          exact ⟨block_cell h1 rfl, block_cell h1 rfl, block_cell h1 rfl⟩
        have HVV := Lib.hid (vari5_any y1 wg)
        have HSH := Lib.hid (shape5_any y1 y2 (.slice ua y3.length uc) y3 wg (HU.out.below HBG.out (Nat.le_refl _)))
        clear hh
        obtain ⟨g0, g1, g2⟩ := HXG.out wg (Below.refl _ _)
        cases hv : varB y1 with
        | false =>
          rw [hv] at HVV
          have HR : Hid (mayN P gs o = false) := HNO.out (gOk_no fun h => by have h1 := h.2.2.2; rw [ent_var, hv] at h1; cases h1)
          clear hv
          go_wp2_with (go_at_call 49; refine HVV.out.mono ?_; rintro e w1 ⟨rfl, rfl⟩)
          go_ret
          exact ⟨ret_bool HR.out.symm, HB0.out.trans (HBG.out.mono hsz0)⟩
        | true =>
          have hvb : 1 ≤ y1 ∧ y1 ≤ 65536 := by unfold varB at hv; simpa using hv
          rw [hv] at HVV
          obtain ⟨n, rfl⟩ := Int.eq_ofNat_of_zero_le (show 0 ≤ y1 by omega)
          have hn : n < nM := by rw [nM_eq]; omega
          have hn0 : (0 : Int) ≤ (n : Int) := by omega
          have hn1 : (n : Int) < (nM : Int) := by omega
          have HVB := Lib.hid hvb
          clear hvb
          have m0 := HMG.out.cell hn
          cases hmem : decide ((n : Int) ∈ S) with
          | true =>
            rw [hmem] at m0
            have HR : Hid (mayN P gs o = false) := HNO.out (gOk_no fun h => by have h1 := h.2.2.2; rw [ent_var] at h1; unfold memB at h1; rw [hmem] at h1; simp at h1)
            clear hv hmem
            go_wp2_with (go_at_call 49; refine HVV.out.mono ?_; rintro e w1 ⟨rfl, rfl⟩)
            go_ret
            exact ⟨ret_bool HR.out.symm, HB0.out.trans (HBG.out.mono hsz0)⟩
          | false =>
            rw [hmem] at m0
            have HENT : Hid (entB S (n : Int) = true) := by show _ = _; rw [ent_var, hv]; unfold memB; rw [hmem]; rfl
            have hnn : ¬ (n : Int) ∈ S := by simpa using hmem
            have HNN := Lib.hid hnn
            clear hv hmem hnn
            cases hf : fitsB y2 y3.length with
            | false =>
              rw [hf] at HSH
              have HR : Hid (mayN P gs o = false) := HNO.out (gOk_no fun h => by have h1 := h.2.1; simp only at h1; rw [hf] at h1; cases h1)
              clear hf
              go_wp2_with (first
                | (go_at_call 49; refine HVV.out.mono ?_; rintro e w1 ⟨rfl, rfl⟩)
                | (go_at_call 50; refine HSH.out.mono ?_; rintro e w5 ⟨rfl, hb5⟩; have HB5 := Lib.hid hb5; clear hb5))
              go_ret
              exact ⟨ret_bool HR.out.symm, HB0.out.trans ((HBG.out.trans (HB5.out.mono HBG.out.size)).mono hsz0)⟩
            | true =>
              rw [hf] at HSH
              have HF := Lib.hid hf
              clear hf
              by_cases hbig : 200000 < t + y3.length
              · have hd : decide ((200000 : Int) < (t : Int) + (y3.length : Int)) = true := by simp; omega
                have HR : Hid (mayN P gs o = false) := HNO.out (gOk_no fun h => by have h1 := h.1; simp only at h1; omega)
                clear hbig
                go_wp2_with (first
                  | (go_at_call 49; refine HVV.out.mono ?_; rintro e w1 ⟨rfl, rfl⟩)
                  | (go_at_call 50; refine HSH.out.mono ?_; rintro e w5 ⟨rfl, hb5⟩; have HB5 := Lib.hid hb5; clear hb5))
                go_ret
                exact ⟨ret_bool HR.out.symm, HB0.out.trans ((HBG.out.trans (HB5.out.mono HBG.out.size)).mono hsz0)⟩
              · have hd : decide ((200000 : Int) < (t : Int) + (y3.length : Int)) = false := by simp; omega
                have HTT : Hid (t + y3.length ≤ 200000) := by show _ ≤ _; omega
                clear hbig
                go_wp2_with (first
                  | (go_at_call 49; refine HVV.out.mono ?_; rintro e w1 ⟨rfl, rfl⟩)
                  | (go_at_call 50; refine HSH.out.mono ?_; rintro e w5 ⟨rfl, hb5⟩; have HB5 := Lib.hid hb5; clear hb5))
                clear hd m0 g0 g1 g2
                go_loopw [7] (fun i2 w2 => ∃ q : Nat, q ≤ y3.length ∧ i2 = .int .i64 q ∧ Below wg.heap.size wg w2 ∧ Hid ((y3.take q).all (fun x => decide (varC x ∈ S)) = true)) (fun i2 _ => y3.length - (intOf i2).toNat)
                case atStart => exact ⟨0, Nat.zero_le _, rfl, HB5.out, rfl⟩
                case round =>
                  obtain ⟨q, hq, rfl, hbel, HAL⟩ := hrel
                  have HB7 := Lib.hid hbel
                  obtain ⟨g0, g1, g2⟩ := HXG.out _ hbel
                  have HBW := Lib.hid (HBG.out.trans (hbel.mono HBG.out.size))
                  have HM7 := Lib.hid (HMG.out.below hbel (Nat.le_refl _))
                  clear hbel
                  by_cases hlt : q < y3.length
                  · obtain ⟨b2, off2, rfl, hb2, hc0⟩ := HU.out.cellY hlt
                    have hc := (HBW.out.cell (p := ⟨b2, off2 + q, none⟩) hb2).trans hc0
                    have HTK : Hid (y3.take (q + 1) = y3.take q ++ [y3.getD q 0]) := by show _ = _; rw [List.take_succ_eq_append_getElem hlt]; simp [List.getD, hlt]
                    have hxm : y3.getD q 0 ∈ y3 := by simp [List.getD, hlt]
                    have HXM := Lib.hid hxm
                    have hxr := HBJ.out.2.2.2 _ hxm
                    have HQL := Lib.hid hlt
                    have hne2 : ¬ y3 = [] := by intro e; rw [e] at hlt; simp at hlt
                    have hq0 : (0 : Int) ≤ (q : Int) := by omega
                    have hq1 : (q : Int) < (y3.length : Int) := by omega
                    have hq2 : (q : Int) < 17592186044416 := by have := HYL.out; omega
                    clear hc0 hlt hxm
                    generalize y3.getD q 0 = x at *
                    have HKN := Lib.hid (known5_any W0.heap.size b _ x _ HM7.out hxr.1 hxr.2)
                    rw [known_mem HSB.out hxr.1 hxr.2] at HKN
                    clear hxr
                    cases hvx : decide (varC x ∈ S) with
                    | true =>
                      rw [hvx] at HKN
                      have HAL2 : Hid ((y3.take (q + 1)).all (fun x => decide (varC x ∈ S)) = true) := by show _ = _; rw [HTK.out, List.all_append, HAL.out]; simpa using hvx
                      clear hvx
                      go_wp2_with (go_at_call 46; refine HKN.out.mono ?_; rintro e w1 ⟨rfl, rfl⟩)
                      go_roundw
                      case rel => exact ⟨q + 1, HQL.out, by go_num, HB7.out, HAL2⟩
                      case measure => have := HQL.out; simp [intOf]; omega
                    | false =>
                      rw [hvx] at HKN
                      have HR : Hid (mayN P gs o = false) := HNO.out (gOk_no fun h => by have h1 := List.all_eq_true.1 h.2.2.1 x HXM.out; rw [hvx] at h1; cases h1)
                      clear hvx
                      go_wp2_with (go_at_call 46; refine HKN.out.mono ?_; rintro e w1 ⟨rfl, rfl⟩)
                      go_ret
                      exact ⟨ret_bool HR.out.symm, HB0.out.trans (HBW.out.mono hsz0)⟩
                  · have HQ : Hid (q = y3.length) := by show _ = _; omega
                    have HGK : Hid (gOk S t ((n : Int), y2, y3) = true) := by
                      have h1 := HAL.out
                      rw [HQ.out, List.take_length] at h1
                      show _ = _
                      unfold gOk
                      simp only [Bool.and_eq_true, decide_eq_true_eq]
                      exact ⟨HTT.out, HF.out, h1, HENT.out⟩
                    have m0 := HM7.out.cell hn
                    have m1 := HM7.out.frozen n
                    have HM8 := Lib.hid (HM7.out.set n hn true)
                    have HB8 := Lib.hid (HBW.out.setCell (p := ⟨b, n, none⟩) (u := .bool true) HM7.out.lt.1)
                    go_wp2
                    go_roundw
                    case rel => exact ⟨k + 1, S ++ [(n : Int)], t + y3.length, HKL.out, by go_num, by go_num, HTT.out, HB8.out, HM8.out.congr (fun i _ _ => by
                      unfold updB
                      by_cases e : i = (n : Int)
                      · subst e; simp
                      · rw [if_neg e]; simp [e]), by rw [HNK.out, HNC.out, if_pos HGK.out], fun z hz => by
                      rcases List.mem_append.1 hz with h | h
                      · exact HSB.out z h
                      · rw [List.mem_singleton] at h; subst h; exact HVB.out⟩
                    case measure => have := HKL.out; simp [intOf]; omega
      · have HKE : Hid (k = gs.length) := by show _ = _; omega
        have HR : Hid (mayN P gs o = decide (varC o ∈ S)) := by
          show _ = _
          rw [HNL.out, HNK.out, HKE.out, List.drop_length]
          rfl
        have HKN := Lib.hid (known5_any W0.heap.size b _ o wr HM.out ho1 ho2)
        rw [known_mem HSB.out ho1 ho2] at HKN
        go_wp2_with (go_at_call 46; refine HKN.out.mono ?_; rintro e w1 ⟨rfl, rfl⟩)
        go_ret
        exact ⟨ret_bool HR.out.symm, HB0.out.trans (HB.out.mono hsz0)⟩
end Go.Proofs.Yticcikelapifaaa

/- Values that agree on the names of a net give the same values of its gates (no program). -/
namespace Go.Proofs.Yticcikelapifaaa
open Go.RowKit Go.Maps
set_option linter.unusedVariables false
set_option linter.unusedSimpArgs false

/-- The reference's way: a literal counts only if its variable is one of some. -/
def setR (p h : Int → Bool) (l : List Int) : Int → Bool := l.foldl (fun h x => updB h (varC x) (decide (0 < x) && p (varC x))) h
theorem setR_snoc (p h : Int → Bool) (l : List Int) (x : Int) : setR p h (l ++ [x]) = updB (setR p h l) (varC x) (decide (0 < x) && p (varC x)) := by unfold setR; rw [List.foldl_append]; rfl
theorem setR_eq {p : Int → Bool} {i : Int} (hp : p i = true) : ∀ (l : List Int) (h h' : Int → Bool), h i = h' i → setR p h l i = setA h' l i
  | [], h, h', e => e
  | x :: r, h, h', e => by
    show setR p (updB h (varC x) (decide (0 < x) && p (varC x))) r i = setA (updB h' (varC x) (decide (0 < x))) r i
    refine setR_eq hp r _ _ ?_
    unfold updB
    by_cases hi : i = varC x
    · rw [if_pos hi, if_pos hi, ← hi, hp, Bool.and_true]
    · rw [if_neg hi, if_neg hi, e]
theorem litV_congr {h h' : Int → Bool} {x : Int} (e : h (varC x) = h' (varC x)) : litV h x = litV h' x := by unfold litV; rw [e]
theorem all_congrV {p q : Int → Bool} : ∀ (l : List Int), (∀ x ∈ l, p x = q x) → l.all p = l.all q ∧ l.any p = l.any q
  | [], _ => ⟨rfl, rfl⟩
  | x :: r, h => by
    have h1 := all_congrV r (fun y hy => h y (List.mem_cons_of_mem _ hy))
    have h2 := h x (List.mem_cons_self ..)
    simp only [List.all_cons, List.any_cons, h1.1, h1.2, h2, and_self]
theorem gateV_congr {h h' : Int → Bool} {k : Int} {l : List Int} (e : ∀ x ∈ l, h (varC x) = h' (varC x)) (hf : fitsB k l.length = true) : gateV h k l = gateV h' k l := by
  have hc := all_congrV l (fun x hx => litV_congr (e x hx))
  have hg : ∀ j, j < l.length → litV h (l.getD j 0) = litV h' (l.getD j 0) := fun j hj => litV_congr (e _ (by simp [List.getD, hj]))
  rcases fits_kind hf with rfl | rfl | ⟨rfl, hn⟩ | ⟨rfl, hn⟩
  · have e1 : ∀ f, gateV f 1 l = l.all (litV f) := fun f => rfl
    rw [e1, e1, hc.1]
  · have e1 : ∀ f, gateV f 2 l = l.any (litV f) := fun f => rfl
    rw [e1, e1, hc.2]
  · have e1 : ∀ f, gateV f 3 l = (litV f (l.getD 0 0) != litV f (l.getD 1 0)) := fun f => rfl
    rw [e1, e1, hg 0 (by omega), hg 1 (by omega)]
  · have e1 : ∀ f, gateV f 4 l = if litV f (l.getD 0 0) = true then litV f (l.getD 1 0) else litV f (l.getD 2 0) := fun f => rfl
    rw [e1, e1, hg 0 (by omega), hg 1 (by omega), hg 2 (by omega)]
theorem gOk_parts {S : List Int} {t : Nat} {g : Gt} (h : gOk S t g = true) : t + g.2.2.length ≤ 200000 ∧ fitsB g.2.1 g.2.2.length = true ∧ (∀ x ∈ g.2.2, varC x ∈ S) ∧ entB S g.1 = true := by
  unfold gOk at h
  simp only [Bool.and_eq_true, decide_eq_true_eq, List.all_eq_true] at h
  exact h
theorem runG_congr : ∀ (gs : List Gt) (S : List Int) (t : Nat) (R : List Int) (h h' : Int → Bool) (acc : List Bool), namedL S t gs = some R → (∀ i ∈ S, h i = h' i) →
    (gs.foldl gStep (h, acc)).2 = (gs.foldl gStep (h', acc)).2 ∧ ∀ i ∈ R, (gs.foldl gStep (h, acc)).1 i = (gs.foldl gStep (h', acc)).1 i
  | [], S, t, R, h, h', acc, hn, e => by
    unfold namedL at hn
    injection hn with hn
    subst hn
    exact ⟨rfl, e⟩
  | g :: r, S, t, R, h, h', acc, hn, e => by
    unfold namedL at hn
    split at hn
    · rename_i hg
      have hp := gOk_parts hg
      have hv := gateV_congr (h := h) (h' := h') (fun x hx => e _ (hp.2.2.1 x hx)) hp.2.1
      rw [List.foldl_cons, List.foldl_cons]
      unfold gStep
      simp only
      rw [hv]
      refine runG_congr r _ _ R _ _ _ hn (fun i hi => ?_)
      unfold updB
      by_cases hig : i = g.1
      · rw [if_pos hig, if_pos hig]
      · rw [if_neg hig, if_neg hig]
        rcases List.mem_append.1 hi with h1 | h1
        · exact e i h1
        · rw [List.mem_singleton] at h1; exact absurd h1 hig
    · cases hn
end Go.Proofs.Yticcikelapifaaa

/- What a valid net's names tell of its gates (no program). -/
namespace Go.Proofs.Yticcikelapifaaa
open Go.RowKit Go.Maps
set_option linter.unusedVariables false
set_option linter.unusedSimpArgs false

theorem namedL_gates : ∀ (gs : List Gt) (S : List Int) (t : Nat) (R : List Int), namedL S t gs = some R → (∀ y ∈ S, 1 ≤ y ∧ y ≤ 65536) →
    (∀ g ∈ gs, (0 ≤ g.1 ∧ g.1 ≤ 65536) ∧ fitsB g.2.1 g.2.2.length = true ∧ ∀ y ∈ g.2.2, 0 ≤ varC y ∧ varC y ≤ 65536) ∧ ∀ y ∈ R, 1 ≤ y ∧ y ≤ 65536
  | [], S, t, R, h, hS => by
    unfold namedL at h
    injection h with h
    subst h
    exact ⟨fun g hg => by simp at hg, hS⟩
  | g :: r, S, t, R, h, hS => by
    unfold namedL at h
    split at h
    · rename_i hg
      have hp := gOk_parts hg
      have he : 1 ≤ g.1 ∧ g.1 ≤ 65536 := by have h1 := hp.2.2.2; unfold entB at h1; simp only [decide_eq_true_eq] at h1; exact ⟨h1.1, h1.2.1⟩
      have ih := namedL_gates r _ _ R h (fun y hy => by
        rcases List.mem_append.1 hy with h1 | h1
        · exact hS y h1
        · rw [List.mem_singleton] at h1; rw [h1]; exact he)
      refine ⟨fun x hx => ?_, ih.2⟩
      rcases List.mem_cons.1 hx with h1 | h1
      · subst h1
        exact ⟨⟨by omega, he.2⟩, hp.2.1, fun y hy => by have := hS _ (hp.2.2.1 y hy); omega⟩
      · exact ih.1 x h1
    · cases h
/-- A valid net's value, the reference's way. -/
theorem mayN_runs {P : List Blk} {gs : List Gt} {o : Int} (h : mayN P gs o = true) (a : List Int) :
    mayP P = true ∧ (∀ g ∈ gs, (0 ≤ g.1 ∧ g.1 ≤ 65536) ∧ fitsB g.2.1 g.2.2.length = true ∧ ∀ y ∈ g.2.2, 0 ≤ varC y ∧ varC y ≤ 65536) ∧ (1 ≤ varC o ∧ varC o ≤ 65536) ∧
    litV (gs.foldl gStep (setR (fun i => decide (i ∈ flatB P)) (fun _ => false) a, [])).1 o = litV (runA gs a).1 o ∧ (gs.foldl gStep (setR (fun i => decide (i ∈ flatB P)) (fun _ => false) a, [])).2 = (runA gs a).2 := by
  unfold mayN namedN at h
  by_cases hp : mayP P = true
  · rw [if_pos hp] at h
    cases hn : namedL (flatB P) 0 gs with
    | none => rw [hn] at h; cases h
    | some R =>
      rw [hn] at h
      have ho : varC o ∈ R := by simpa using h
      have h1 := namedL_gates gs _ _ R hn (mayP_parts hp).2.2.1
      have h2 := runG_congr gs _ _ R (setR (fun i => decide (i ∈ flatB P)) (fun _ => false) a) (setA (fun _ => false) a) [] hn (fun i hi => setR_eq (by simpa using hi) a _ _ rfl)
      exact ⟨hp, h1.1, h1.2 _ ho, litV_congr (h2.2 _ ho), h2.1⟩
  · rw [if_neg hp] at h; cases h
end Go.Proofs.Yticcikelapifaaa

/- What the reference marks is what the program reaches; the support (no program). -/
namespace Go.Proofs.Yticcikelapifaaa
open Go.RowKit Go.Maps
set_option linter.unusedVariables false
set_option linter.unusedSimpArgs false

theorem ascending_one {a b : List Int} (ha : a.Pairwise (· < ·)) (hb : b.Pairwise (· < ·)) (h : ∀ x, x ∈ a ↔ x ∈ b) : a = b := by
  induction a generalizing b with
  | nil =>
    cases b with
    | nil => rfl
    | cons y s => exact absurd ((h y).2 (by simp)) (by simp)
  | cons x r ih =>
    cases b with
    | nil => exact absurd ((h x).1 (by simp)) (by simp)
    | cons y s =>
      rw [List.pairwise_cons] at ha hb
      have hxy : x = y := by
        rcases List.mem_cons.1 ((h x).1 (by simp)) with e | hx
        · exact e
        · rcases List.mem_cons.1 ((h y).2 (by simp)) with e | hy
          · exact e.symm
          · have := ha.1 y hy; have := hb.1 x hx; omega
      subst hxy
      have : r = s := by
        apply ih ha.2 hb.2
        intro z
        constructor
        · intro hz
          rcases List.mem_cons.1 ((h z).1 (List.mem_cons_of_mem _ hz)) with e | h'
          · subst e; have := ha.1 _ hz; omega
          · exact h'
        · intro hz
          rcases List.mem_cons.1 ((h z).2 (List.mem_cons_of_mem _ hz)) with e | h'
          · subst e; have := hb.1 _ hz; omega
          · exact h'
      rw [this]
/-- The variables from 1 on, up to k, of which something holds. -/
def fromOne (p : Nat → Bool) (k : Nat) : List Int := ((List.range k).filter (fun i => p (i + 1))).map (fun i : Nat => (i : Int) + 1)
theorem fromOne_hit {p : Nat → Bool} {k : Nat} (h : p (k + 1) = true) : fromOne p (k + 1) = fromOne p k ++ [(k : Int) + 1] := by
  unfold fromOne; rw [List.range_succ, List.filter_append, List.map_append]; simp [h]
theorem fromOne_miss {p : Nat → Bool} {k : Nat} (h : p (k + 1) = false) : fromOne p (k + 1) = fromOne p k := by
  unfold fromOne; rw [List.range_succ, List.filter_append, List.map_append]; simp [h]
theorem fromOne_len (p : Nat → Bool) (k : Nat) : (fromOne p k).length ≤ k := by
  unfold fromOne; rw [List.length_map]; have := List.length_filter_le (fun i => p (i + 1)) (List.range k); simpa using this
theorem fromOne_asc (p : Nat → Bool) (k : Nat) : (fromOne p k).Pairwise (· < ·) := by
  unfold fromOne
  rw [List.pairwise_map]
  exact (List.pairwise_lt_range.filter _).imp (fun h => by omega)
theorem fromOne_mem (p : Nat → Bool) (k : Nat) (v : Int) : v ∈ fromOne p k ↔ ∃ i : Nat, i < k ∧ p (i + 1) = true ∧ v = (i : Int) + 1 := by
  unfold fromOne
  simp only [List.mem_map, List.mem_filter, List.mem_range]
  constructor
  · rintro ⟨i, ⟨h1, h2⟩, h3⟩; exact ⟨i, h1, h2, h3.symm⟩
  · rintro ⟨i, h1, h2, h3⟩; exact ⟨i, ⟨h1, h2⟩, h3.symm⟩

theorem tell_mem {S : List Int} {y i : Int} (hy : 1 ≤ varC y ∧ varC y ≤ 65536) : i ∈ tellL S y ↔ i ∈ S ∨ i = varC y := by
  unfold tellL
  by_cases h : entB S (varC y) = true
  · rw [if_pos h]; simp
  · rw [if_neg h]
    have h1 : varC y ∈ S := by
      rw [ent_iff] at h
      exact Decidable.byContradiction fun hn => h ⟨hy.1, hy.2, hn⟩
    constructor
    · exact .inl
    · rintro (h2 | rfl)
      · exact h2
      · exact h1
theorem tells_mem : ∀ (l : List Int) (S : List Int) (i : Int), (∀ y ∈ l, 1 ≤ varC y ∧ varC y ≤ 65536) → (i ∈ tellsL S l ↔ i ∈ S ∨ ∃ y ∈ l, i = varC y)
  | [], S, i, _ => by simp [tellsL]
  | y :: r, S, i, h => by
    have ih := tells_mem r (tellL S y) i (fun z hz => h z (List.mem_cons_of_mem _ hz))
    show i ∈ tellsL (tellL S y) r ↔ _
    rw [ih, tell_mem (h y (List.mem_cons_self ..))]
    simp only [List.mem_cons]
    constructor
    · rintro ((h1 | h1) | ⟨z, hz, h1⟩)
      · exact .inl h1
      · exact .inr ⟨y, .inl rfl, h1⟩
      · exact .inr ⟨z, .inr hz, h1⟩
    · rintro (h1 | ⟨z, rfl | hz, h1⟩)
      · exact .inl (.inl h1)
      · exact .inl (.inr h1)
      · exact .inr ⟨z, hz, h1⟩
/-- What gates reach from some variables, from the last gate to the first. -/
def reachR (gs : List Gt) (S : List Int) : List Int := gs.reverse.foldl reachG S
theorem reachR_cons (g : Gt) (r : List Gt) (S : List Int) : reachR (g :: r) S = reachG (reachR r S) g := by unfold reachR; rw [List.reverse_cons, List.foldl_append]; rfl
theorem reachL_R (gs : List Gt) (x : Int) : reachL gs x = reachR gs (tellL [] x) := by unfold reachL reachUp reachR; rw [List.take_of_length_le (by simp)]
theorem reachG_mem {S : List Int} {g : Gt} (h : ∀ y ∈ g.2.2, 1 ≤ varC y ∧ varC y ≤ 65536) (i : Int) : i ∈ reachG S g ↔ i ∈ S ∨ (g.1 ∈ S ∧ ∃ y ∈ g.2.2, i = varC y) := by
  unfold reachG
  by_cases hg : g.1 ∈ S
  · rw [if_pos hg, tells_mem _ _ _ h]
    constructor
    · rintro (h1 | h1)
      · exact .inl h1
      · exact .inr ⟨hg, h1⟩
    · rintro (h1 | h1)
      · exact .inl h1
      · exact .inr h1.2
  · rw [if_neg hg]
    constructor
    · exact .inl
    · rintro (h1 | h1)
      · exact h1
      · exact absurd h1.1 hg
theorem reach_same {S : List Int} {f : Int → Bool} (hf : ∀ i, f i = true ↔ i ∈ S) : ∀ (gs : List Gt), (∀ g ∈ gs, ∀ y ∈ g.2.2, 1 ≤ varC y ∧ varC y ≤ 65536) → ∀ i, reachM gs f i = true ↔ i ∈ reachR gs S
  | [], _, i => hf i
  | g :: r, h, i => by
    have ih := reach_same hf r (fun x hx => h x (List.mem_cons_of_mem _ hx))
    have hg := h g (List.mem_cons_self ..)
    rw [reachR_cons, reachG_mem hg]
    unfold reachM
    by_cases hm : reachM r f g.1 = true
    · rw [if_pos hm]
      unfold markL
      simp only [Bool.or_eq_true, decide_eq_true_eq, List.mem_map]
      rw [ih i]
      constructor
      · rintro (h1 | ⟨y, hy, rfl⟩)
        · exact .inl h1
        · exact .inr ⟨(ih _).1 hm, y, hy, abs5_var (by have := hg y hy; omega)⟩
      · rintro (h1 | ⟨_, y, hy, rfl⟩)
        · exact .inl h1
        · exact .inr ⟨y, hy, abs5_var (by have := hg y hy; omega)⟩
    · rw [if_neg hm, ih i]
      constructor
      · exact .inl
      · rintro (h1 | h1)
        · exact h1
        · exact absurd ((ih _).2 h1.1) hm
/-- The variables of the prefix on which a literal depends. -/
def supL (P : List Blk) (gs : List Gt) (x : Int) : List Int := fromOne (fun i => decide ((i : Int) ∈ reachL gs x) && decide ((i : Int) ∈ flatB P)) 65536
theorem supL_mem {P : List Blk} {gs : List Gt} {x i : Int} (hP : ∀ y ∈ flatB P, 1 ≤ y ∧ y ≤ 65536) : i ∈ supL P gs x ↔ i ∈ reachL gs x ∧ i ∈ flatB P := by
  unfold supL
  rw [fromOne_mem]
  simp only [Bool.and_eq_true, decide_eq_true_eq]
  constructor
  · rintro ⟨j, h1, ⟨h2, h3⟩, rfl⟩
    exact ⟨by simpa using h2, by simpa using h3⟩
  · rintro ⟨h1, h2⟩
    have := hP i h2
    refine ⟨i.toNat - 1, by omega, ?_, by omega⟩
    rw [show ((i.toNat - 1 + 1 : Nat) : Int) = i by omega]
    exact ⟨h1, h2⟩
def supN (P : List Blk) (gs : List Gt) (o x : Int) : List Int × Int := match namedN P gs with
  | none => ([], 2)
  | some S => if decide (varC o ∈ S) = true then (if decide (varC x ∈ S) = true then (supL P gs x, 0) else ([], 6)) else ([], 2)
theorem sup_bd (P : List Blk) (gs : List Gt) (o x : Int) : (supN P gs o x).1.length ≤ 65536 ∧ In64 (supN P gs o x).1 := by
  have h1 : (supL P gs x).length ≤ 65536 ∧ In64 (supL P gs x) := ⟨fromOne_len _ _, fun y hy => by
    unfold supL at hy
    obtain ⟨i, h1, _, rfl⟩ := (fromOne_mem _ _ _).1 hy
    omega⟩
  have h0 : ([] : List Int).length ≤ 65536 ∧ In64 ([] : List Int) := ⟨by simp, fun y hy => by cases hy⟩
  unfold supN
  generalize supL P gs x = Q at *
  split
  · exact h0
  · split
    · split
      · exact h1
      · exact h0
    · exact h0
theorem namedL_full : ∀ (gs : List Gt) (S : List Int) (t : Nat) (R : List Int), namedL S t gs = some R → R = S ++ gs.map (fun g => g.1)
  | [], S, t, R, h => by unfold namedL at h; injection h with h; simp [h]
  | g :: r, S, t, R, h => by
    unfold namedL at h
    split at h
    · rw [namedL_full r _ _ R h]; simp
    · cases h
theorem namedL_lits : ∀ (gs : List Gt) (S : List Int) (t : Nat) (R : List Int), namedL S t gs = some R → (∀ y ∈ S, 1 ≤ y ∧ y ≤ 65536) → ∀ g ∈ gs, ∀ y ∈ g.2.2, 1 ≤ varC y ∧ varC y ≤ 65536
  | [], S, t, R, h, hS, g, hg => by cases hg
  | g :: r, S, t, R, h, hS, x, hx => by
    unfold namedL at h
    split at h
    · rename_i hg
      have hp := gOk_parts hg
      have he : 1 ≤ g.1 ∧ g.1 ≤ 65536 := by have h1 := hp.2.2.2; unfold entB at h1; simp only [decide_eq_true_eq] at h1; exact ⟨h1.1, h1.2.1⟩
      rcases List.mem_cons.1 hx with h1 | h1
      · subst h1
        exact fun y hy => hS _ (hp.2.2.1 y hy)
      · exact namedL_lits r _ _ R h (fun y hy => by
          rcases List.mem_append.1 hy with h2 | h2
          · exact hS y h2
          · rw [List.mem_singleton] at h2; rw [h2]; exact he) x h1
    · cases h
/-- The final values are those the gates had. -/
theorem runG_last : ∀ (gs : List Gt) (S : List Int) (t : Nat) (R : List Int) (h : Int → Bool) (acc : List Bool), namedL S t gs = some R →
    (∀ i ∈ S, (gs.foldl gStep (h, acc)).1 i = h i) ∧ (gs.foldl gStep (h, acc)).2 = acc ++ gs.map (fun g => (gs.foldl gStep (h, acc)).1 g.1)
  | [], S, t, R, h, acc, hn => ⟨fun i _ => rfl, by simp⟩
  | g :: r, S, t, R, h, acc, hn => by
    unfold namedL at hn
    split at hn
    · rename_i hg
      have hp := gOk_parts hg
      have hns : g.1 ∉ S := by have h1 := hp.2.2.2; unfold entB at h1; simp only [decide_eq_true_eq] at h1; exact h1.2.2
      rw [List.foldl_cons]
      have ih := runG_last r _ _ R (updB h g.1 (gateV h g.2.1 g.2.2)) (acc ++ [gateV h g.2.1 g.2.2]) hn
      have e : gStep (h, acc) g = (updB h g.1 (gateV h g.2.1 g.2.2), acc ++ [gateV h g.2.1 g.2.2]) := rfl
      rw [e]
      generalize hF : r.foldl gStep (updB h g.1 (gateV h g.2.1 g.2.2), acc ++ [gateV h g.2.1 g.2.2]) = F at *
      refine ⟨fun i hi => ?_, ?_⟩
      · rw [ih.1 i (List.mem_append_left _ hi)]
        unfold updB
        rw [if_neg (show ¬ i = g.1 from fun e => hns (by rw [← e]; exact hi))]
      · rw [ih.2, List.map_cons, ih.1 g.1 (List.mem_append_right _ (List.mem_singleton.2 rfl))]
        unfold updB
        rw [if_pos rfl, List.append_assoc]
        rfl
    · cases hn
theorem mayFrom_vars : ∀ (l : List Int) (p : Int), 0 ≤ p → mayFrom p l = true → ∀ x ∈ l, 1 ≤ varC x ∧ varC x ≤ 65536
  | [], _, _, _, x, hx => by cases hx
  | y :: r, p, hp, h, x, hx => by
    unfold mayFrom at h
    simp only [Bool.and_eq_true, decide_eq_true_eq] at h
    have hb := varOf_bd y
    rcases List.mem_cons.1 hx with e | hx
    · subst e
      have h1 := h.1
      unfold varOf at h1
      unfold varC
      split at h1
      · omega
      · split at h1
        · rename_i h2 h3
          rw [if_pos h3, if_neg (by omega)]
          omega
        · rename_i h2 h3
          rw [if_neg h3]
          omega
    · exact mayFrom_vars r _ hb.1 h.2 x hx
theorem mayB_vars {a : List Int} (h : mayB a = true) : ∀ x ∈ a, 0 ≤ varC x ∧ varC x ≤ 65536 := fun x hx => by have := mayFrom_vars a 0 (Int.le_refl 0) h x hx; omega
/-- A valid net's gates' values are the final ones. -/
theorem mayN_last {P : List Blk} {gs : List Gt} {o : Int} (h : mayN P gs o = true) (f : Int → Bool) : (gs.foldl gStep (f, [])).2 = gs.map (fun g => (gs.foldl gStep (f, [])).1 g.1) := by
  unfold mayN namedN at h
  by_cases hp : mayP P = true
  · rw [if_pos hp] at h
    cases hn : namedL (flatB P) 0 gs with
    | none => rw [hn] at h; cases h
    | some R => simpa using (runG_last gs _ _ R f [] hn).2
  · rw [if_neg hp] at h; cases h
end Go.Proofs.Yticcikelapifaaa

/- Lists of literals, ascending by their variables; what an assignment says; what does not depend (no program). -/
namespace Go.Proofs.Yticcikelapifaaa
open Go.RowKit Go.Maps
set_option linter.unusedVariables false
set_option linter.unusedSimpArgs false

/-- A literal put into its place; if its variable is there already, nothing. -/
def insO : List Int → Int → List Int
  | [], x => [x]
  | y :: r, x => if varC y < varC x then y :: insO r x else if varC y = varC x then y :: r else x :: y :: r
def overL (a b : List Int) : List Int := (b ++ a).foldl insO []
def ascV (l : List Int) : Prop := l.Pairwise (fun x y => varC x < varC y)
/-- What the first literal of a variable says. -/
def firstL : List Int → Int → Option Bool
  | [], _ => none
  | x :: r, i => if varC x = i then some (decide (0 < x)) else firstL r i
theorem first_cons (x : Int) (r : List Int) (i : Int) : firstL (x :: r) i = if varC x = i then some (decide (0 < x)) else firstL r i := rfl
def varIn (l : List Int) : Prop := ∀ x ∈ l, 1 ≤ varC x ∧ varC x ≤ 65536
theorem insO_mem : ∀ (l : List Int) (x z : Int), z ∈ insO l x → z ∈ l ∨ z = x
  | [], x, z, h => by unfold insO at h; exact .inr (by simpa using h)
  | y :: r, x, z, h => by
    unfold insO at h
    split at h
    · rcases List.mem_cons.1 h with h | h
      · exact .inl (h ▸ List.mem_cons_self ..)
      · rcases insO_mem r x z h with h | h
        · exact .inl (List.mem_cons_of_mem _ h)
        · exact .inr h
    · split at h
      · exact .inl h
      · rcases List.mem_cons.1 h with h | h
        · exact .inr h
        · exact .inl h
theorem insO_asc : ∀ (l : List Int) (x : Int), ascV l → ascV (insO l x)
  | [], x, _ => by unfold insO ascV; simp
  | y :: r, x, h => by
    unfold ascV at h
    rw [List.pairwise_cons] at h
    unfold insO
    split
    · rename_i hlt
      refine List.pairwise_cons.2 ⟨fun z hz => ?_, insO_asc r x h.2⟩
      rcases insO_mem r x z hz with h1 | h1
      · exact h.1 z h1
      · rw [h1]; exact hlt
    · split
      · exact List.pairwise_cons.2 h
      · refine List.pairwise_cons.2 ⟨fun z hz => ?_, List.pairwise_cons.2 h⟩
        rcases List.mem_cons.1 hz with h1 | h1
        · subst h1; omega
        · have := h.1 z h1; omega
theorem first_none {l : List Int} {i : Int} (h : ∀ x ∈ l, varC x ≠ i) : firstL l i = none := by
  induction l with
  | nil => rfl
  | cons y r ih =>
    rw [first_cons, if_neg (h y (List.mem_cons_self ..))]
    exact ih (fun x hx => h x (List.mem_cons_of_mem _ hx))
theorem first_snoc : ∀ (l : List Int) (x i : Int), firstL (l ++ [x]) i = (firstL l i).orElse (fun _ => if varC x = i then some (decide (0 < x)) else none)
  | [], x, i => by simp [firstL]
  | y :: r, x, i => by
    rw [List.cons_append, first_cons, first_cons]
    split
    · rfl
    · exact first_snoc r x i
theorem first_app : ∀ (l m : List Int) (i : Int), firstL (l ++ m) i = (firstL l i).orElse (fun _ => firstL m i)
  | [], m, i => by simp [firstL]
  | y :: r, m, i => by
    rw [List.cons_append, first_cons, first_cons]
    split
    · rfl
    · exact first_app r m i
theorem insO_first : ∀ (l : List Int) (x i : Int), ascV l → firstL (insO l x) i = (firstL l i).orElse (fun _ => if varC x = i then some (decide (0 < x)) else none)
  | [], x, i, _ => by simp [insO, firstL]
  | y :: r, x, i, h => by
    unfold ascV at h
    rw [List.pairwise_cons] at h
    unfold insO
    split
    · rename_i hlt
      rw [first_cons, first_cons]
      split
      · rfl
      · exact insO_first r x i h.2
    · rename_i hnl
      split
      · rename_i he
        rw [first_cons]
        split
        · rfl
        · rename_i hi
          rw [if_neg (by rw [← he]; exact hi)]
          cases firstL r i <;> rfl
      · rename_i hne
        rw [first_cons x]
        by_cases hx : varC x = i
        · rw [if_pos hx, if_pos hx]
          have : firstL (y :: r) i = none := first_none (fun z hz => by
            rcases List.mem_cons.1 hz with h1 | h1
            · subst h1; omega
            · have := h.1 z h1; omega)
          rw [this]
          rfl
        · rw [if_neg hx, if_neg hx]
          cases firstL (y :: r) i <;> rfl
theorem foldO : ∀ (m l : List Int), ascV l → ascV (m.foldl insO l) ∧ (∀ i, firstL (m.foldl insO l) i = firstL (l ++ m) i) ∧ ∀ z ∈ m.foldl insO l, z ∈ l ++ m
  | [], l, h => ⟨h, fun i => by simp, fun z hz => by simpa using hz⟩
  | x :: r, l, h => by
    have ih := foldO r (insO l x) (insO_asc l x h)
    rw [List.foldl_cons]
    refine ⟨ih.1, fun i => ?_, fun z hz => ?_⟩
    · rw [ih.2.1 i, first_app, insO_first l x i h, first_app l (x :: r)]
      cases firstL l i
      · show (if varC x = i then some (decide (0 < x)) else none).orElse (fun _ => firstL r i) = firstL (x :: r) i
        rw [first_cons]
        split <;> rfl
      · rfl
    · rcases List.mem_append.1 (ih.2.2 z hz) with h1 | h1
      · rcases insO_mem l x z h1 with h2 | h2
        · exact List.mem_append_left _ h2
        · rw [h2]; exact List.mem_append_right _ (List.mem_cons_self ..)
      · exact List.mem_append_right _ (List.mem_cons_of_mem _ h1)
theorem overL_asc (a b : List Int) : ascV (overL a b) := (foldO _ [] List.Pairwise.nil).1
theorem overL_first (a b : List Int) (i : Int) : firstL (overL a b) i = firstL (b ++ a) i := (foldO (b ++ a) [] List.Pairwise.nil).2.1 i
theorem overL_mem {a b : List Int} {z : Int} (h : z ∈ overL a b) : z ∈ b ∨ z ∈ a := by
  have := (foldO (b ++ a) [] List.Pairwise.nil).2.2 z h
  simpa using this
theorem overL_in {a b : List Int} (ha : varIn a) (hb : varIn b) : varIn (overL a b) := fun x hx => by
  rcases overL_mem hx with h | h
  · exact hb x h
  · exact ha x h
theorem varOf_in {x : Int} (h : 1 ≤ varC x ∧ varC x ≤ 65536) : varOf x = varC x := by
  unfold varC at h ⊢
  unfold varOf
  split at h
  · rename_i h1
    split at h
    · omega
    · rename_i h2
      rw [if_neg (by omega), if_pos h1, if_pos h1, if_neg h2]
  · rename_i h1
    rw [if_neg (by omega), if_neg h1, if_neg h1]
theorem asc_may : ∀ (l : List Int) (p : Int), (∀ x ∈ l, p < varC x) → ascV l → varIn l → mayFrom p l = true
  | [], p, _, _, _ => rfl
  | x :: r, p, hp, h, hv => by
    unfold ascV at h
    rw [List.pairwise_cons] at h
    have hx := hv x (List.mem_cons_self ..)
    unfold mayFrom
    rw [varOf_in hx, Bool.and_eq_true]
    exact ⟨by simpa using hp x (List.mem_cons_self ..), asc_may r _ h.1 h.2 (fun z hz => hv z (List.mem_cons_of_mem _ hz))⟩
theorem asc_mayB {l : List Int} (h : ascV l) (hv : varIn l) : mayB l = true := asc_may l 0 (fun x hx => by have := hv x hx; omega) h hv
theorem setA_first : ∀ (l : List Int) (h : Int → Bool) (i : Int), ascV l → setA h l i = (firstL l i).getD (h i)
  | [], h, i, _ => rfl
  | x :: r, h, i, ha => by
    unfold ascV at ha
    rw [List.pairwise_cons] at ha
    show setA (updB h (varC x) (decide (0 < x))) r i = _
    rw [setA_first r _ i ha.2, first_cons]
    unfold updB
    by_cases hi : varC x = i
    · rw [if_pos hi, if_pos hi.symm, first_none (fun z hz => by have := ha.1 z hz; omega)]
      rfl
    · rw [if_neg hi, if_neg (fun e => hi e.symm)]
/-- What an assignment made so says. -/
theorem over_says (a b : List Int) (i : Int) : setA (fun _ => false) (overL a b) i = ((firstL b i).orElse (fun _ => firstL a i)).getD false := by rw [setA_first _ _ _ (overL_asc a b), overL_first, first_app]

/-- Values that agree on what some variables reach agree there behind the gates. -/
theorem runG_reach : ∀ (gs : List Gt) (S : List Int) (t : Nat) (R T : List Int) (h h' : Int → Bool) (acc acc' : List Bool), namedL S t gs = some R → (∀ y ∈ S, 1 ≤ y ∧ y ≤ 65536) → (∀ i ∈ T, i ∈ R) →
    (∀ i ∈ S, i ∈ reachR gs T → h i = h' i) → ∀ i ∈ T, (gs.foldl gStep (h, acc)).1 i = (gs.foldl gStep (h', acc')).1 i
  | [], S, t, R, T, h, h', acc, acc', hn, hS, hT, e, i, hi => by
    unfold namedL at hn
    injection hn with hn
    subst hn
    exact e i (hT i hi) hi
  | g :: r, S, t, R, T, h, h', acc, acc', hn, hS, hT, e, i, hi => by
    have hlit := namedL_lits _ _ _ _ hn hS g (List.mem_cons_self ..)
    unfold namedL at hn
    split at hn
    · rename_i hg
      have hp := gOk_parts hg
      have he : 1 ≤ g.1 ∧ g.1 ≤ 65536 := by have h1 := hp.2.2.2; unfold entB at h1; simp only [decide_eq_true_eq] at h1; exact ⟨h1.1, h1.2.1⟩
      rw [List.foldl_cons, List.foldl_cons]
      unfold gStep
      simp only
      refine runG_reach r _ _ R T _ _ _ _ hn (fun y hy => ?_) hT (fun j hj hjr => ?_) i hi
      · rcases List.mem_append.1 hy with h1 | h1
        · exact hS y h1
        · rw [List.mem_singleton] at h1; rw [h1]; exact he
      · unfold updB
        by_cases hjg : j = g.1
        · rw [if_pos hjg, if_pos hjg]
          rw [hjg] at hjr
          refine gateV_congr (fun x hx => e _ (hp.2.2.1 x hx) ?_) hp.2.1
          rw [reachR_cons, reachG_mem hlit]
          exact .inr ⟨hjr, x, hx, rfl⟩
        · rw [if_neg hjg, if_neg hjg]
          rcases List.mem_append.1 hj with h1 | h1
          · refine e j h1 ?_
            rw [reachR_cons, reachG_mem hlit]
            exact .inl hjr
          · rw [List.mem_singleton] at h1; exact absurd h1 hjg
    · cases hn
theorem mayN_named {P : List Blk} {gs : List Gt} {o : Int} (h : mayN P gs o = true) : ∃ R, mayP P = true ∧ namedN P gs = some R ∧ namedL (flatB P) 0 gs = some R ∧ varC o ∈ R ∧ ∀ y ∈ flatB P, 1 ≤ y ∧ y ≤ 65536 := by
  unfold mayN at h
  cases hn : namedN P gs with
  | none => rw [hn] at h; cases h
  | some R =>
    rw [hn] at h
    have h1 := hn
    unfold namedN at h1
    by_cases hp : mayP P = true
    · rw [if_pos hp] at h1
      exact ⟨R, hp, rfl, h1, by simpa using h, (mayP_parts hp).2.2.1⟩
    · rw [if_neg hp] at h1; cases h1
theorem mayN_of {P : List Blk} {gs : List Gt} {o : Int} {R : List Int} (h : namedN P gs = some R) (ho : varC o ∈ R) : mayN P gs o = true := by unfold mayN; rw [h]; simpa using ho
/-- A change of variables outside the support does not change the value. -/
theorem depends_on {P : List Blk} {gs : List Gt} {x : Int} (h : mayN P gs x = true) (a b : List Int) (e : ∀ i ∈ supL P gs x, setA (fun _ => false) a i = setA (fun _ => false) b i) : litV (runA gs a).1 x = litV (runA gs b).1 x := by
  obtain ⟨R, hp, _, hn, hx, hP⟩ := mayN_named h
  refine litV_congr ?_
  have hxr := (namedL_gates gs _ _ R hn hP).2 _ hx
  refine runG_reach gs _ _ R (tellL [] x) _ _ [] [] hn hP (fun i hi => ?_) (fun i hi hir => ?_) _ ?_
  · rw [tell_mem hxr] at hi
    rcases hi with hi | hi
    · cases hi
    · rw [hi]; exact hx
  · rw [← reachL_R] at hir
    exact e i ((supL_mem hP).2 ⟨hir, hi⟩)
  · rw [tell_mem hxr]; exact .inr rfl
end Go.Proofs.Yticcikelapifaaa
