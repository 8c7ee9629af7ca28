/- Joined texts: CxSet, CxQuant, CxVal, CxArea, CxGate, CxNamed. -/
import Derived.Test.YtppglbffmgnooaaGreatK02
import Derived.Test.YtppglbffmgnooaaGreatK01
/- circ.enter. -/
namespace Go.Proofs.YtppglbffmgnooaaGreat
open Go.RowKit Go.Maps
open Go.WideElems (Fit rd rg pl rd_val elemAt)
set_option linter.unusedVariables false
set_option linter.unusedSimpArgs false

set_option maxHeartbeats 800000 in
set_option maxRecDepth 100000 in
theorem enter_any (b : Nat) (S : List Int) (v : Int) (w : World) (h : SetI w b S) (hn : S.length < 4000000) (h1 : -9223372036854775808 ≤ v) (h2 : v ≤ 9223372036854775807) :
    Calls Tryz.prog 196 #[.map (some b), .int .i64 v] w (EnterPost w b S v) := by
  have hz : ∀ W : World, (zeroValue 4).run Tryz.prog W = .ok (.bool false) W := fun _ => rfl
  have HZ := Lib.hid hz
  have HH := Lib.hid h
  have hw := i64w h1 h2
  have HW := Lib.hid hw
  clear hz h hw
  by_cases g1 : v < 1
  · have HE : Hid (entB S v = false) := by show _ = _; unfold entB; rw [decide_eq_false_iff_not]; omega
    go_enter Tryz.func196, Tryz.ntmps196
    go_wp2
    go_ret
    exact .inr ⟨HE.out, rfl, rfl⟩
  · by_cases g2 : 65536 < v
    · have HE : Hid (entB S v = false) := by show _ = _; unfold entB; rw [decide_eq_false_iff_not]; omega
      go_enter Tryz.func196, Tryz.ntmps196
      go_wp2
      go_ret
      exact .inr ⟨HE.out, rfl, rfl⟩
    · have hlk := HH.out.look (HZ.out w) v HW.out
      by_cases g3 : v ∈ S
      · have HE : Hid (entB S v = false) := by show _ = _; unfold entB; rw [decide_eq_false_iff_not]; exact fun h => h.2.2 g3
        have hd : decide (v ∈ S) = true := by simpa using g3
        rw [hd] at hlk
        clear hd g3
        go_enter Tryz.func196, Tryz.ntmps196
        go_wp2
        go_ret
        exact .inr ⟨HE.out, rfl, rfl⟩
      · have HE : Hid (entB S v = true) := by show _ = _; unfold entB; rw [decide_eq_true_eq]; exact ⟨by omega, by omega, g3⟩
        have hd : decide (v ∈ S) = false := by simpa using g3
        rw [hd] at hlk
        have G3 := Lib.hid g3
        clear hd g3
        go_enter Tryz.func196, Tryz.ntmps196
        go_wp2_with (at_mapUpdate; refine wpList_putS rfl _ _ _ rfl rfl HH.out (by unfold maxLen; omega) v rfl rfl HW.out G3.out ?_; intro w1 hs1 hk1)
        go_ret
        exact .inl ⟨HE.out, rfl, hs1, hk1⟩

end Go.Proofs.YtppglbffmgnooaaGreat

/- circ.quantified. -/
namespace Go.Proofs.YtppglbffmgnooaaGreat
open Go.RowKit
set_option linter.unusedVariables false
set_option linter.unusedSimpArgs false

theorem enter_yes (b : Nat) (S : List Int) (v : Int) (w : World) (h : SetI w b S) (hn : S.length < 4000000) (h1 : -9223372036854775808 ≤ v) (h2 : v ≤ 9223372036854775807) (hE : entB S v = true) :
    Calls Tryz.prog 196 #[.map (some b), .int .i64 v] w (fun e w' => e = .returned (.bool true) ∧ SetI w' b (S ++ [v]) ∧ Kept (fun i => i = b) w w') :=
  (enter_any b S v w h hn h1 h2).mono fun e w' k => by
    rcases k with ⟨_, k1, k2, k3⟩ | ⟨k1, _⟩
    · exact ⟨k1, k2, k3⟩
    · rw [hE] at k1; cases k1
theorem enter_no (b : Nat) (S : List Int) (v : Int) (w : World) (h : SetI w b S) (hn : S.length < 4000000) (h1 : -9223372036854775808 ≤ v) (h2 : v ≤ 9223372036854775807) (hE : entB S v = false) :
    Calls Tryz.prog 196 #[.map (some b), .int .i64 v] w (fun e w' => e = .returned (.bool false) ∧ w = w') :=
  (enter_any b S v w h hn h1 h2).mono fun e w' k => by
    rcases k with ⟨k1, _⟩ | ⟨_, k1, k2⟩
    · rw [hE] at k1; cases k1
    · exact ⟨k1, k2.symm⟩
set_option maxHeartbeats 3200000 in
set_option maxRecDepth 100000 in
theorem quantified_any (v : Value) (p : List Blk) (w : World) (H : IsBlocks w v p) (hp : p.length ≤ 4000000) :
    Calls Tryz.prog 193 #[v] w (QuantPost w p) := by
  obtain ⟨a, cap, rfl, hl⟩ := H.shape
  have HH := Lib.hid H
  have hb0 := (Below.refl w.heap.size w).alloc (Nat.le_refl _) (.map #[] 0)
  have hs0 := SetI.made w
  have HB0 := Lib.hid hb0
  have HS0 := Lib.hid hs0
  have hmm := @run_makeMap Tryz.prog
  clear H hb0 hs0
  go_enter Tryz.func193, Tryz.ntmps193
  go_wp2
  go_loopw [12] (fun i wr => ∃ k : Nat, k ≤ p.length ∧ i = .int .i64 k ∧ Below w.heap.size w wr ∧ SetI wr w.heap.size (flatB (p.take k)) ∧ numsOk (flatB (p.take k)) ∧ ∀ j, j < k → blkOk p j) (fun i _ => p.length - (intOf i).toNat)
  case atStart => exact ⟨0, Nat.zero_le _, rfl, HB0.out, by simpa [flatB] using HS0.out, by simpa [flatB] using nums_nil, fun j h => by omega⟩
  case round =>
    obtain ⟨k, hk, rfl, hbel, hset, hnums, hblk⟩ := hrel
    have hsz := hbel.size
    have HS := Lib.hid hset
    have HN := Lib.hid hnums
    have HK := Lib.hid hblk
    have HB := Lib.hid hbel
    by_cases hlt : k < p.length
    · obtain ⟨b, off, u, rfl, hb, hcx0, hcu0, HU0⟩ := HH.out.at hlt
      have hcx := (hbel.cell (p := ⟨b, off + k * 2, none⟩) hb).trans hcx0
      have hcu := (hbel.cell (p := ⟨b, off + k * 2 + 1, none⟩) hb).trans hcu0
      obtain ⟨ua, uc, rfl⟩ := HU0.shape
      have HU := Lib.hid HU0
      have HFT := Lib.hid (flat_take_succ (d := dB) hlt)
      have HPF := Lib.hid (fun t => flat_prefix (d := dB) hlt t)
      have HNB := Lib.hid (mayP_blk hlt)
      have HBD : Hid (blkOk p k ↔ (p.getD k dB).2 ≠ [] ∧ (0 < k → (p.getD k dB).1 ≠ (p.getD (k - 1) dB).1)) := Iff.rfl
      have hpr : Hid (0 < k → ∃ e, (p.getD (k - 1) dB).1 = e ∧ wr.cell? ⟨b, off + (k - 1) * 2, none⟩ = some (.bool e)) := by
        intro hk0
        obtain ⟨b', off', u', e1, hb', hc', _, _⟩ := HH.out.at (show k - 1 < p.length by omega)
        injection e1 with e1
        injection e1 with e1 e2 _
        subst e1; subst e2
        exact ⟨_, rfl, (hbel.cell (p := ⟨b, off + (k - 1) * 2, none⟩) hb).trans hc'⟩
      clear hcx0 hcu0 HU0 hset hnums hblk
      generalize p.getD k dB = y at *
      obtain ⟨y1, y2⟩ := y
      simp only at hcx hcu
      have hbw := hbel.alloc hsz (.cells #[.bool y1, .slice ua y2.length uc] 118)
      have hva0 : (wr.alloc (.cells #[.bool y1, .slice ua y2.length uc] 118)).cell? ⟨wr.heap.size, 0, none⟩ = some (.bool y1) := cell_fresh rfl
      have hva1 : (wr.alloc (.cells #[.bool y1, .slice ua y2.length uc] 118)).cell? ⟨wr.heap.size, 1, none⟩ = some (.slice ua y2.length uc) := cell_fresh rfl
      have hsa := HS.out.below ((Below.refl wr.heap.size wr).alloc (Nat.le_refl _) (.cells #[.bool y1, .slice ua y2.length uc] 118)) (Nat.le_refl _)
      have hpr2 : Hid (0 < k → ∃ e, (p.getD (k - 1) dB).1 = e ∧ (wr.alloc (.cells #[.bool y1, .slice ua y2.length uc] 118)).cell? ⟨b, off + (k - 1) * 2, none⟩ = some (.bool e)) := fun h => by
        obtain ⟨e, h1, h2⟩ := hpr.out h
        exact ⟨e, h1, cell_old h2⟩
      have HBW := Lib.hid hbw
      have HSA := Lib.hid hsa
      have HV0 := Lib.hid hva0
      have HV1 := Lib.hid hva1
      clear hpr hbel hbw hsa hva0 hva1
      go_upto_region 5 with fail
      clear hcx hcu
      generalize wr.alloc (.cells #[.bool y1, .slice ua y2.length uc] 118) = wa at *
      generalize wr.heap.size = g at *
      have hva0 := HV0.out
      have hva1 := HV1.out
      go_cut [35] (fun t wx => t = .bool (decide (¬ blkOk p k)) ∧ Quiet wa wx)
      case first =>
        by_cases hn0 : y2 = []
        · subst hn0
          have hd : decide (¬ blkOk p k) = true := by rw [decide_eq_true_eq, HBD.out]; simp
          have HD := Lib.hid hd
          clear hpr2 HU HFT HPF hd
          go_wp2_with fail
          go_quiet (fail)
          go_wp2
          go_meet
          exact ⟨by rw [HD.out], ⟨_, rfl⟩⟩
        · have hz : ((y2.length : Int) == 0) = false := by simpa using hn0
          cases k with
          | zero =>
            have hd : decide (¬ blkOk p 0) = false := by rw [decide_eq_false_iff_not, HBD.out]; simp [hn0]
            have HD := Lib.hid hd
            clear hpr2 HU HFT HPF hd hn0
            go_wp2_with fail
            go_quiet (fail)
            go_wp2
            go_meet
            exact ⟨by rw [HD.out], ⟨_, rfl⟩⟩
          | succ k' =>
            obtain ⟨e0, he0, hce⟩ := hpr2.out (by omega)
            have hi0 : (0 : Int) ≤ (k' : Int) := by omega
            have hi1 : (k' : Int) < (p.length : Int) := by omega
            have hi2 : (0 : Int) < (k' : Int) + 1 := by omega
            simp only [Nat.add_sub_cancel] at hce he0
            by_cases hee : y1 = e0
            · subst hee
              have hbb : (y1 == y1) = true := by simp
              have hd : decide (¬ blkOk p (k' + 1)) = true := by rw [decide_eq_true_eq, HBD.out]; exact fun h => h.2 (by omega) he0.symm
              have HD := Lib.hid hd
              clear hpr2 HU HFT HPF hd hn0 he0
              go_wp2_with fail
              go_quiet (fail)
              go_wp2
              go_meet
              exact ⟨by rw [HD.out], ⟨_, rfl⟩⟩
            · have hd : decide (¬ blkOk p (k' + 1)) = false := by rw [decide_eq_false_iff_not, HBD.out]; exact fun h => h ⟨hn0, fun _ e => hee (e.trans he0)⟩
              have HD := Lib.hid hd
              have h2 : (y1 = true ∧ e0 = false) ∨ (y1 = false ∧ e0 = true) := by cases y1 <;> cases e0 <;> simp at hee ⊢
              clear hpr2 HU HFT HPF hd hn0 he0 HBD hee HNB HBW HSA HV0 HV1
              rcases h2 with ⟨rfl, rfl⟩ | ⟨rfl, rfl⟩
              · go_wp2_with fail
                go_quiet (fail)
                go_wp2
                go_meet
                exact ⟨by rw [HD.out], ⟨_, rfl⟩⟩
              · go_wp2_with fail
                go_quiet (fail)
                go_wp2
                go_meet
                exact ⟨by rw [HD.out], ⟨_, rfl⟩⟩
      case rest =>
        obtain ⟨rfl, hqc⟩ := hcut
        have hbc := HBW.out.trans (hqc.below _)
        have hsc := HSA.out.below (hqc.below _) (Nat.le_refl _)
        have hvc := (hqc.cell _).trans hva1
        clear hva0 hva1 hpr2
        by_cases hok : blkOk p k
        · have hd : decide (¬ blkOk p k) = false := by rw [decide_eq_false_iff_not]; exact fun h => h hok
          rw [hd]
          have HOK := Lib.hid hok
          clear hd hok HNB HBD
          have HBC := Lib.hid hbc
          have HSC := Lib.hid hsc
          clear hbc hsc hqc
          obtain ⟨_, _, eU, _, _, hyl, h64, bu, ou, hau, hcu⟩ := HU.out
          injection eU with eU1 _ eU3
          subst eU1; subst eU3
          have HAU := Lib.hid hau
          have HCU := Lib.hid hcu
          have H64 := Lib.hid h64
          have hst0 : SetI wc w.heap.size (flatB (p.take k) ++ y2.take 0) := by simpa using HSC.out
          have hno0 : numsOk (flatB (p.take k) ++ y2.take 0) := by simpa using HN.out
          have HST0 := Lib.hid hst0
          have HNO0 := Lib.hid hno0
          clear hau hcu h64 hst0 hno0
          generalize wr = wq at *
          go_wp2
          go_loopw [39] (fun i wr => ∃ t : Nat, t ≤ y2.length ∧ i = .int .i64 t ∧ Below w.heap.size w wr ∧ SetI wr w.heap.size (flatB (p.take k) ++ y2.take t) ∧ numsOk (flatB (p.take k) ++ y2.take t)) (fun i _ => y2.length - (intOf i).toNat)
          case atStart => exact ⟨0, Nat.zero_le _, rfl, HBC.out, HST0.out, HNO0.out⟩
          case round =>
            obtain ⟨t, ht, rfl, hbt, hst, hno⟩ := hrel
            have hszt := hbt.size
            by_cases hlt2 : t < y2.length
            · obtain ⟨rfl, hbu⟩ := HAU.out (by intro h; simp [h] at hlt2)
              have hcv := (hbt.cell (p := ⟨bu, ou + t, none⟩) hbu).trans (HCU.out t hlt2)
              have hv64 := H64.out.at t hlt2
              have HTK : Hid (y2.take (t + 1) = y2.take t ++ [y2.getD t 0]) := by show _ = _; rw [List.take_succ_eq_append_getElem hlt2]; simp [List.getD, hlt2]
              have hsl := hno.2.2
              have hpx : flatB (p.take k) ++ y2.take (t + 1) <+: flatB p := HPF.out (t + 1)
              rw [HTK.out, ← List.append_assoc] at hpx
              have hbad := Lib.hid (fun h => mayP_num hpx h)
              clear hpx
              have hv1 := hv64.1
              have hv2 := hv64.2
              generalize y2.getD t 0 = v at *
              have HPREV := Lib.hid hno
              have HBT := Lib.hid hbt
              cases hE : entB (flatB (p.take k) ++ y2.take t) v with
              | false =>
                have hen := enter_no w.heap.size _ v wr hst (by omega) hv1 hv2 hE
                have HEN := Lib.hid hen
                have HM := Lib.hid (hbad.out (nums_noent hE))
                clear hen hst hno hE hbt hv64
                go_wp2_with (go_at_call 196; refine HEN.out.mono ?_; rintro e w1 ⟨rfl, rfl⟩)
                go_ret2
                exact ⟨HBT.out, .inr ⟨HM.out, rfl⟩⟩
              | true =>
                have hen := enter_yes w.heap.size _ v wr hst (by omega) hv1 hv2 hE
                have HEN := Lib.hid hen
                by_cases hbig : (flatB (p.take k) ++ y2.take t).length = 1024
                · have HM := Lib.hid (hbad.out (nums_long (by simp at hbig ⊢; omega)))
                  have hlx : ((flatB (p.take k) ++ y2.take t ++ [v]).length : Int) = 1025 := by simp at hbig ⊢; omega
                  clear hen hst hno hE hbt hv64 hbig
                  go_wp2_with (go_at_call 196; refine HEN.out.mono ?_; rintro e w1 ⟨rfl, hs1, hk1⟩; have hln := hs1.len 3; rw [hlx] at hln)
                  go_ret2
                  exact ⟨HBT.out.trans (hk1.belowB (Nat.le_refl _) hszt), .inr ⟨HM.out, rfl⟩⟩
                · have HNX := Lib.hid (nums_ent hno hE (by omega))
                  obtain ⟨n1, hn1, hn2⟩ : ∃ n1 : Nat, (flatB (p.take k) ++ y2.take t ++ [v]).length = n1 ∧ n1 ≤ 1024 := ⟨_, rfl, by simp at hbig hsl ⊢; omega⟩
                  have hlx : ((flatB (p.take k) ++ y2.take t ++ [v]).length : Int) = (n1 : Int) := by rw [hn1]
                  have hn3 : (n1 : Int) ≤ 1024 := by omega
                  clear hen hst hno hE hbt hv64 hbig
                  go_wp2_with (go_at_call 196; refine HEN.out.mono ?_; rintro e w1 ⟨rfl, hs1, hk1⟩; have hln := hs1.len 3; rw [hlx] at hln)
                  go_roundw
                  case rel => exact ⟨t + 1, by omega, by go_num, HBT.out.trans (hk1.belowB (Nat.le_refl _) hszt), by rw [HTK.out, ← List.append_assoc]; exact hs1, by rw [HTK.out, ← List.append_assoc]; exact HNX.out⟩
                  case measure => simp [intOf]; omega
            · have hte : t = y2.length := by omega
              subst hte
              rw [List.take_length] at hst hno
              have HFF : Hid (flatB (p.take (k + 1)) = flatB (p.take k) ++ y2) := HFT.out
              have HST := Lib.hid hst
              have HNO := Lib.hid hno
              have HBT := Lib.hid hbt
              clear hst hno hbt
              go_wp2
              go_roundw
              case rel => exact ⟨k + 1, by omega, by go_num, HBT.out, by rw [HFF.out]; exact HST.out, by rw [HFF.out]; exact HNO.out, fun j hj => by
                by_cases e : j = k
                · subst e; exact HOK.out
                · exact HK.out j (by omega)⟩
              case measure => simp [intOf]; omega
        · have hd : decide (¬ blkOk p k) = true := by rw [decide_eq_true_eq]; exact hok
          rw [hd]
          have HM := Lib.hid (HNB.out hok)
          clear hd hok
          go_wp2
          go_ret2
          exact ⟨hbc, .inr ⟨HM.out, rfl⟩⟩
    · have hke : k = p.length := by omega
      subst hke
      rw [List.take_length] at hset hnums
      have HM : Hid (mayP p = true) := by
        show _ = _
        unfold mayP
        rw [decide_eq_true_eq]
        exact ⟨hblk, hnums⟩
      have HF := Lib.hid hset
      clear hset hnums hblk HS HN HK
      go_wp2
      go_ret2
      exact ⟨hbel, .inl ⟨HM.out, rfl, HF.out⟩⟩

end Go.Proofs.YtppglbffmgnooaaGreat

/- circ: variable, the function of areOf, slices.ContainsFunc over integers, areOf, normal. -/
namespace Go.Proofs.YtppglbffmgnooaaGreat
open Go.RowKit
set_option linter.unusedVariables false
set_option linter.unusedSimpArgs false

/-- The variable of a number: its size; the least integer stays. -/
def varC (x : Int) : Int := if x < 0 then (if x = -9223372036854775808 then x else -x) else x
set_option maxRecDepth 100000 in
theorem cvar_any (x : Int) (w : World) (h1 : -9223372036854775808 ≤ x) (h2 : x ≤ 9223372036854775807) :
    Calls Tryz.prog 175 #[.int .i64 x] w fun e w' => e = .returned (.int .i64 (varC x)) ∧ w = w' := by
  by_cases hx : x < 0
  · by_cases hm : x = -9223372036854775808
    · subst hm
      have hw0 : wrap64 9223372036854775808 = -9223372036854775808 := by unfold wrap64; rfl
      go_enter Tryz.func175, Tryz.ntmps175
      go_wp2
      go_ret
      exact ⟨ret_int (by simp [varC]), rfl⟩
    · have he : varC x = -x := by unfold varC; rw [if_pos hx, if_neg hm]
      have HE := Lib.hid he
      have hwr : wrap64 (-x) = -x := by unfold wrap64; omega
      have hmx : max x (-x) = -x := by omega
      clear he hm
      go_enter Tryz.func175, Tryz.ntmps175
      go_wp2
      go_ret
      exact ⟨ret_int (by rw [HE.out]), rfl⟩
  · have he : varC x = x := by unfold varC; rw [if_neg hx]
    have HE := Lib.hid he
    have hwr : wrap64 (-x) = -x := by unfold wrap64; omega
    have hmx : max x (-x) = x := by omega
    clear he
    go_enter Tryz.func175, Tryz.ntmps175
    go_wp2
    go_ret
    exact ⟨ret_int (by rw [HE.out]), rfl⟩
theorem varC_64 {x : Int} (h1 : -9223372036854775808 ≤ x) (h2 : x ≤ 9223372036854775807) : -9223372036854775808 ≤ varC x ∧ varC x ≤ 9223372036854775807 := by
  unfold varC
  split
  · split <;> omega
  · omega
set_option maxRecDepth 100000 in
theorem careof1_any (b bx : Nat) (S : List Int) (x : Int) (w : World) (hS : SetI w b S) (hc : w.cell? ⟨bx, 0, none⟩ = some (.map (some b))) (h1 : -9223372036854775808 ≤ x) (h2 : x ≤ 9223372036854775807) :
    Calls Tryz.prog 208 #[.int .i64 x, .pointer (some ⟨bx, 0, none⟩)] w fun e w' => e = .returned (.bool (!decide (varC x ∈ S))) ∧ Quiet w w' := by
  have hz : ∀ W : World, (zeroValue 4).run Tryz.prog W = .ok (.bool false) W := fun _ => rfl
  have hv := varC_64 h1 h2
  have hlk : ∀ n, (Instr.lookup 181 (.map (some b)) (.int .i64 (varC x)) false).run Tryz.prog (w.drewN n) = .ok (.bool (decide (varC x ∈ S))) (w.drewN n) := fun n => (hS.below (Quiet.below ⟨n, rfl⟩ w.heap.size) (Nat.le_refl _)).look (hz _) (varC x) (i64w hv.1 hv.2)
  have hcv : ∀ n, Calls Tryz.prog 175 #[.int .i64 x] (w.drewN n) fun e w' => e = .returned (.int .i64 (varC x)) ∧ w.drewN n = w' := fun n => cvar_any x _ h1 h2
  have hcn : ∀ n, (w.drewN n).cell? ⟨bx, 0, none⟩ = some (.map (some b)) := fun n => hc
  clear hz hv hS
  generalize varC x = y at *
  generalize decide (y ∈ S) = t at *
  go_enter Tryz.func208, Tryz.ntmps208
  go_wp2_with fail
  go_quiet ((go_at_call 175; exact quiet_left (hcv _)))
  go_wp2
  go_ret
  exact ⟨ret_bool (by simp), _, rfl⟩
end Go.Proofs.YtppglbffmgnooaaGreat

/- circ: slices.ContainsFunc over integers, areOf, normal. -/
namespace Go.Proofs.YtppglbffmgnooaaGreat
open Go.RowKit
set_option linter.unusedVariables false
set_option linter.unusedSimpArgs false

theorem IsInts.cellY {w : World} {a : Option Addr} {n c : Nat} {l : List Int} (H : IsInts w (.slice a n c) l) {k : Nat} (hk : k < l.length) : ∃ b off, a = some ⟨b, off, none⟩ ∧ b < w.heap.size ∧ w.cell? ⟨b, off + k, none⟩ = some (.int .i64 (l.getD k 0)) := by
  obtain ⟨a', cap', e, _, _, _, _, b, off, ha, hc⟩ := H
  injection e with e1 e2 e3
  subst e1
  obtain ⟨h1, h2⟩ := ha (by intro h; simp [h] at hk)
  exact ⟨b, off, h1, h2, hc k hk⟩
def TellsB (P : Program) (g : Nat) (cb : Array Value) (p : Int → Bool) (l : List Int) (w : World) : Prop :=
  ∀ W x, Quiet w W → x ∈ l → Calls P g (#[.int .i64 x] ++ cb) W fun e w' => e = .returned (.bool (p x)) ∧ Quiet W w'
def IdxI (p : Int → Bool) (l : List Int) (w : World) (e : Ending) (w' : World) : Prop := ∃ r : Int, e = .returned (.int .i64 r) ∧ Quiet w w' ∧ decide (0 ≤ r) = l.any p

set_option maxHeartbeats 800000 in
set_option maxRecDepth 100000 in
theorem indexi_any (p : Int → Bool) (g : Nat) (cb : Array Value) (v : Value) (l : List Int) (w : World)
    (eg : ∀ args w, (callFunc g args).run Tryz.prog w = .ok (.enter g args) w) (ht : TellsB Tryz.prog g cb p l w) (H : IsInts w v l) :
    Calls Tryz.prog 150 #[v, .func (.func g) #[] cb] w (IdxI p l w) := by
  have HH := Lib.hid H
  have hll : l.length ≤ 17592186044416 := by obtain ⟨_, _, _, _, _, h, _⟩ := H; exact h
  obtain ⟨a, cap, rfl⟩ := H.shape
  have HTE := Lib.hid ht
  clear ht H
  go_enter Tryz.func150, Tryz.ntmps150
  go_wp2
  go_loopw [8] (fun i wr => ∃ k : Nat, k ≤ l.length ∧ i = .int .i64 k ∧ Quiet w wr ∧ Hid (∀ x ∈ l.take k, p x = false)) (fun i _ => l.length - (intOf i).toNat)
  case atStart => exact ⟨0, Nat.zero_le _, rfl, Quiet.refl _, by intro x hx; simp at hx⟩
  case round =>
    obtain ⟨k, hk, rfl, hq, hn⟩ := hrel
    by_cases hlt : k < l.length
    · obtain ⟨b, off, rfl, hb, hc⟩ := HH.out.cellY hlt
      have hu := (hq.cell _).trans hc
      have HMEM := Lib.hid (ints_getD_mem hlt)
      have HTS := Lib.hid (ints_take_succ hlt)
      have hc := HTE.out wr _ hq HMEM.out
      generalize l.getD k 0 = x at *
      cases hp : p x
      · have HP : Hid (∀ y ∈ l.take (k + 1), p y = false) := by
          intro y hy
          rw [HTS.out] at hy
          rcases List.mem_append.1 hy with hy | hy
          · exact hn.out y hy
          · rw [List.mem_singleton] at hy; rw [hy]; exact hp
        rw [hp] at hc
        clear hp hn
        go_wp2_with fail
        refine hc.mono ?_
        rintro e w1 ⟨rfl, hq1⟩
        go_wp2
        go_roundw
        case rel => exact ⟨k + 1, by omega, by go_num, hq.trans hq1, HP.out⟩
        case measure => simp [intOf]; omega
      · have HP : Hid (l.any p = true) := by show _ = _; rw [List.any_eq_true]; exact ⟨x, HMEM.out, hp⟩
        rw [hp] at hc
        clear hp hn
        go_wp2_with fail
        refine hc.mono ?_
        rintro e w1 ⟨rfl, hq1⟩
        go_wp2
        go_ret
        exact ⟨k, rfl, hq.trans hq1, by rw [HP.out]; simp⟩
    · have HP : Hid (l.any p = false) := by
        show _ = _
        rw [List.any_eq_false]
        intro x hx
        rw [hn.out x (by rw [List.take_of_length_le (by omega)]; exact hx)]
        simp
      go_wp2
      go_ret
      exact ⟨-1, rfl, hq, by rw [HP.out]; rfl⟩
set_option maxHeartbeats 800000 in
set_option maxRecDepth 100000 in
theorem containsi_any (p : Int → Bool) (g : Nat) (cb : Array Value) (v : Value) (l : List Int) (w : World)
    (eg : ∀ args w, (callFunc g args).run Tryz.prog w = .ok (.enter g args) w) (ht : TellsB Tryz.prog g cb p l w) (H : IsInts w v l) :
    Calls Tryz.prog 146 #[v, .func (.func g) #[] cb] w fun e w' => e = .returned (.bool (l.any p)) ∧ Quiet w w' := by
  have hc := indexi_any p g cb v l w eg ht H
  go_enter Tryz.func146, Tryz.ntmps146
  go_wp2_with fail
  refine hc.mono ?_
  rintro e w1 ⟨r, rfl, hq1, hr⟩
  have HR := Lib.hid hr
  clear hr
  by_cases h : 0 ≤ r
  · go_wp2
    go_ret
    exact ⟨ret_bool (by rw [← HR.out]; simp [h]), hq1⟩
  · go_wp2
    go_ret
    exact ⟨ret_bool (by first | (rw [← HR.out]; done) | (rw [← HR.out]; simp [h])), hq1⟩
set_option maxHeartbeats 800000 in
set_option maxRecDepth 100000 in
theorem careof_any (b : Nat) (S : List Int) (v : Value) (l : List Int) (w : World) (hS : SetI w b S) (H : IsInts w v l) :
    Calls Tryz.prog 195 #[v, .map (some b)] w fun e w' => e = .returned (.bool (l.all (fun x => decide (varC x ∈ S)))) ∧ Below w.heap.size w w' := by
  obtain ⟨W, hW⟩ : ∃ W, w.alloc (.cells #[.map (some b)] 181) = W := ⟨_, rfl⟩
  have hb0 : Below w.heap.size w W := by rw [← hW]; exact (Below.refl w.heap.size w).alloc (Nat.le_refl _) _
  have c0 : W.cell? ⟨w.heap.size, 0, none⟩ = some (.map (some b)) := by rw [← hW]; exact cell_fresh rfl
  have hS1 := hS.below hb0 (Nat.le_refl _)
  have H1 := H.below hb0 (Nat.le_refl _)
  have h64 : In64 l := by obtain ⟨_, _, _, _, _, _, g, _⟩ := H; exact g
  have ht : TellsB Tryz.prog 208 #[.pointer (some ⟨w.heap.size, 0, none⟩)] (fun x => !decide (varC x ∈ S)) l W := fun X x hq hx =>
    careof1_any b w.heap.size S x X (hS1.below (hq.below W.heap.size) (Nat.le_refl _)) ((hq.cell _).trans c0) (h64 x hx).1 (h64 x hx).2
  have HC := Lib.hid (containsi_any (fun x => !decide (varC x ∈ S)) 208 #[.pointer (some ⟨w.heap.size, 0, none⟩)] v l W (fun _ _ => rfl) ht H1)
  have HB0 := Lib.hid hb0
  have HE : Hid ((!l.any (fun x => !decide (varC x ∈ S))) = l.all (fun x => decide (varC x ∈ S))) := by show _ = _; rw [List.all_eq_not_any_not]
  generalize l.any (fun x => !decide (varC x ∈ S)) = t at *
  generalize l.all (fun x => decide (varC x ∈ S)) = t2 at *
  clear hb0 hS1 H1 h64 ht hS
  obtain ⟨a, cap, rfl⟩ := H.shape
  clear H
  go_enter Tryz.func195, Tryz.ntmps195
  go_wp2_with (go_at_call 146; refine HC.out.mono ?_; rintro e w1 ⟨rfl, hq1⟩)
  go_ret
  exact ⟨ret_bool (by rw [← HE.out]), HB0.out.trans (hq1.below _)⟩
theorem varOf_C (x : Int) (h1 : -9223372036854775808 ≤ x) : varOf x = if 1 ≤ varC x ∧ varC x ≤ 65536 then varC x else 0 := by
  unfold varOf varC
  split <;> split <;> split <;> (try split) <;> omega
end Go.Proofs.YtppglbffmgnooaaGreat

/- Words for gates and nets; circ.fits. -/
namespace Go.Proofs.YtppglbffmgnooaaGreat
open Go.RowKit
set_option linter.unusedVariables false
set_option linter.unusedSimpArgs false

/-- A gate: its variable, its kind, its literals. -/
abbrev Gt := Int × Int × List Int
abbrev dG : Gt := (0, 0, [])
/-- The value is a slice that holds these gates. -/
def IsGates (w : World) (v : Value) (l : List Gt) : Prop :=
  ∃ a cap, v = .slice a l.length cap ∧ (l.length ≤ cap ∧ (a = none → cap = 0)) ∧ cap ≤ 9223372036854775807 ∧ l.length ≤ 17592186044416 ∧ (∀ g ∈ l, (-9223372036854775808 ≤ g.1 ∧ g.1 ≤ 9223372036854775807) ∧ 0 ≤ g.2.1 ∧ g.2.1 ≤ 255) ∧
    ∃ b off, (l ≠ [] → a = some ⟨b, off, none⟩ ∧ b < w.heap.size) ∧ ∀ j, j < l.length → w.cell? ⟨b, off + j * 3, none⟩ = some (.int .i64 (l.getD j dG).1) ∧ w.cell? ⟨b, off + j * 3 + 1, none⟩ = some (.int .u8 (l.getD j dG).2.1) ∧ ∃ u, w.cell? ⟨b, off + j * 3 + 2, none⟩ = some u ∧ IsInts w u (l.getD j dG).2.2
theorem IsGates.below {w w' : World} {B : Nat} {v : Value} {l : List Gt} (h : IsGates w v l) (hb : Below B w w') (hB : w.heap.size ≤ B) : IsGates w' v l := by
  obtain ⟨a, cap, h1, h2, h3, h4, h5, b, off, ha, hc⟩ := h
  refine ⟨a, cap, h1, h2, h3, h4, h5, b, off, fun hl => ⟨(ha hl).1, Nat.lt_of_lt_of_le (ha hl).2 hb.size⟩, fun j hj => ?_⟩
  have hlt : b < w.heap.size := (ha (by intro h; simp [h] at hj)).2
  rw [hb.cell (p := ⟨b, off + j * 3, none⟩) (Nat.lt_of_lt_of_le hlt hB), hb.cell (p := ⟨b, off + j * 3 + 1, none⟩) (Nat.lt_of_lt_of_le hlt hB), hb.cell (p := ⟨b, off + j * 3 + 2, none⟩) (Nat.lt_of_lt_of_le hlt hB)]
  obtain ⟨k1, k2, u, hu, hi⟩ := hc j hj
  exact ⟨k1, k2, u, hu, hi.below hb hB⟩
theorem IsGates.shape {w : World} {v : Value} {l : List Gt} (h : IsGates w v l) : ∃ a cap, v = .slice a l.length cap ∧ l.length ≤ 17592186044416 := by
  obtain ⟨a, cap, e, _, _, h4, _⟩ := h; exact ⟨a, cap, e, h4⟩
theorem IsGates.nil (w : World) : IsGates w (.slice none 0 0) [] := ⟨none, 0, rfl, ⟨Nat.le_refl _, fun _ => rfl⟩, by omega, by simp, (fun g hg => by cases hg), 0, 0, fun h => absurd rfl h, fun j hj => absurd hj (Nat.not_lt_zero _)⟩
theorem IsGates.at {w : World} {a : Option Addr} {n cap : Nat} {l : List Gt} (h : IsGates w (.slice a n cap) l) {k : Nat} (hk : k < l.length) :
    ∃ b off u, a = some ⟨b, off, none⟩ ∧ b < w.heap.size ∧ w.cell? ⟨b, off + k * 3, none⟩ = some (.int .i64 (l.getD k dG).1) ∧ w.cell? ⟨b, off + k * 3 + 1, none⟩ = some (.int .u8 (l.getD k dG).2.1) ∧ w.cell? ⟨b, off + k * 3 + 2, none⟩ = some u ∧ IsInts w u (l.getD k dG).2.2 ∧
      ((-9223372036854775808 ≤ (l.getD k dG).1 ∧ (l.getD k dG).1 ≤ 9223372036854775807) ∧ 0 ≤ (l.getD k dG).2.1 ∧ (l.getD k dG).2.1 ≤ 255) := by
  obtain ⟨a', cap', e, _, _, _, h5, b, off, ha, hc⟩ := h
  injection e with e1 e2 e3
  subst e1
  obtain ⟨h1, h2⟩ := ha (by intro h; simp [h] at hk)
  obtain ⟨k1, k2, u, hu, hi⟩ := hc k hk
  exact ⟨b, off, u, h1, h2, k1, k2, hu, hi, h5 _ (by simp [List.getD, hk])⟩
theorem gates_take {l : List Gt} {k : Nat} (h : k < l.length) : l.take (k + 1) = l.take k ++ [l.getD k dG] := by rw [List.take_succ_eq_append_getElem h]; simp [List.getD, h]
theorem gates_drop {l : List Gt} {k : Nat} (h : k < l.length) : l.drop k = l.getD k dG :: l.drop (k + 1) := by rw [List.drop_eq_getElem_cons h]; simp [List.getD, h]

/-- A kind has so many literals. -/
def fitsB (k : Int) (n : Nat) : Bool := if k = 1 ∨ k = 2 then true else if k = 3 then decide (n = 2) else if k = 4 then decide (n = 3) else false
set_option maxRecDepth 100000 in
theorem cfits_any (x k : Int) (u : Value) (l : List Int) (w : World) (H : IsInts w u l) :
    Calls Tryz.prog 194 #[.agg #[.int .i64 x, .int .u8 k, u]] w fun e w' => e = .returned (.bool (fitsB k l.length)) ∧ Below w.heap.size w w' := by
  have hb : Below w.heap.size w (w.alloc (.cells #[.int .i64 x, .int .u8 k, u] 101)) := (Below.refl _ _).alloc (Nat.le_refl _) _
  obtain ⟨a, cap, rfl⟩ := H.shape
  have HB := Lib.hid hb
  clear H hb
  generalize l.length = n at *
  by_cases h1 : k = 1
  · subst h1
    go_enter Tryz.func194, Tryz.ntmps194
    go_wp2
    go_ret
    exact ⟨ret_bool (by simp [fitsB]), HB.out⟩
  · by_cases h2 : k = 2
    · subst h2
      go_enter Tryz.func194, Tryz.ntmps194
      go_wp2
      go_ret
      exact ⟨ret_bool (by simp [fitsB]), HB.out⟩
    · by_cases h3 : k = 3
      · subst h3
        go_enter Tryz.func194, Tryz.ntmps194
        go_wp2
        go_ret
        exact ⟨ret_bool (by simp [fitsB]; rw [Bool.eq_iff_iff]; simp; omega), HB.out⟩
      · by_cases h4 : k = 4
        · subst h4
          go_enter Tryz.func194, Tryz.ntmps194
          go_wp2
          go_ret
          exact ⟨ret_bool (by simp [fitsB]; rw [Bool.eq_iff_iff]; simp; omega), HB.out⟩
        · have e1 : (k == 1) = false := by simpa using h1
          have e2 : (k == 2) = false := by simpa using h2
          have e3 : (k == 3) = false := by simpa using h3
          have e4 : (k == 4) = false := by simpa using h4
          have HF : Hid (fitsB k n = false) := by show _ = _; unfold fitsB; rw [if_neg (by omega), if_neg h3, if_neg h4]
          clear h1 h2 h3 h4
          go_enter Tryz.func194, Tryz.ntmps194
          go_wp2
          go_ret
          exact ⟨ret_bool HF.out.symm, HB.out⟩
end Go.Proofs.YtppglbffmgnooaaGreat

/- circ.named and circ.May. -/
namespace Go.Proofs.YtppglbffmgnooaaGreat
open Go.RowKit
set_option linter.unusedVariables false
set_option linter.unusedSimpArgs false

/-- The gate may stand behind these variables, and so many literals. -/
def gOk (S : List Int) (t : Nat) (g : Gt) : Bool := decide (t + g.2.2.length ≤ 200000) && (fitsB g.2.1 g.2.2.length && (g.2.2.all (fun x => decide (varC x ∈ S)) && entB S g.1))
def namedL : List Int → Nat → List Gt → Option (List Int)
  | S, _, [] => some S
  | S, t, g :: r => if gOk S t g = true then namedL (S ++ [g.1]) (t + g.2.2.length) r else none
def namedN (P : List Blk) (gs : List Gt) : Option (List Int) := if mayP P = true then namedL (flatB P) 0 gs else none
def mayN (P : List Blk) (gs : List Gt) (o : Int) : Bool := match namedN P gs with
  | some S => decide (varC o ∈ S)
  | none => false
def NamedPost (w : World) (P : List Blk) (gs : List Gt) (o : Int) (e : Ending) (w' : World) : Prop :=
  Below w.heap.size w w' ∧ ((namedN P gs = none ∧ e = .returned (.tuple #[.map none, .bool false])) ∨ ∃ S b, namedN P gs = some S ∧ e = .returned (.tuple #[.map (some b), .bool (decide (varC o ∈ S))]) ∧ w.heap.size ≤ b ∧ SetI w' b S)
theorem namedL_cons {S : List Int} {t : Nat} {l : List Gt} {k : Nat} (hk : k < l.length) : namedL S t (l.drop k) = if gOk S t (l.getD k dG) = true then namedL (S ++ [(l.getD k dG).1]) (t + (l.getD k dG).2.2.length) (l.drop (k + 1)) else none := by
  rw [gates_drop hk]
  rfl
theorem center_yes (b : Nat) (S : List Int) (v : Int) (w : World) (h : SetI w b S) (hn : S.length < 4000000) (h1 : -9223372036854775808 ≤ v) (h2 : v ≤ 9223372036854775807) (hE : entB S v = true) :
    Calls Tryz.prog 196 #[.map (some b), .int .i64 v] w (fun e w' => e = .returned (.bool true) ∧ SetI w' b (S ++ [v]) ∧ Kept (fun i => i = b) w w') := enter_yes b S v w h hn h1 h2 hE
theorem center_no (b : Nat) (S : List Int) (v : Int) (w : World) (h : SetI w b S) (hn : S.length < 4000000) (h1 : -9223372036854775808 ≤ v) (h2 : v ≤ 9223372036854775807) (hE : entB S v = false) :
    Calls Tryz.prog 196 #[.map (some b), .int .i64 v] w (fun e w' => e = .returned (.bool false) ∧ w = w') := enter_no b S v w h hn h1 h2 hE

set_option maxRecDepth 100000 in
set_option maxHeartbeats 3200000 in
theorem cnamed_any (vp vg : Value) (o : Int) (P : List Blk) (gs : List Gt) (w : World) (HP : IsBlocks w vp P) (HG : IsGates w vg gs) (hp : P.length ≤ 4000000) (hg : gs.length ≤ 3000000) (ho1 : -9223372036854775808 ≤ o) (ho2 : o ≤ 9223372036854775807) :
    Calls Tryz.prog 172 #[.agg #[vp, vg, .int .i64 o]] w (NamedPost w P gs o) := by
  obtain ⟨W, hW⟩ : ∃ W, w.alloc (.cells #[vp, vg, .int .i64 o] 98) = W := ⟨_, rfl⟩
  have hb0 : Below w.heap.size w W := by rw [← hW]; exact (Below.refl w.heap.size w).alloc (Nat.le_refl _) _
  have hz : W.heap.size = w.heap.size + 1 := by rw [← hW]; simp
  have c0 : ∀ i v, (#[vp, vg, .int .i64 o] : Array Value)[i]? = some v → W.cell? ⟨w.heap.size, i, none⟩ = some v := fun i v h => by rw [← hW]; exact cell_fresh h
  have HY : Hid (∀ X, Below W.heap.size W X → X.cell? ⟨w.heap.size, 0, none⟩ = some vp ∧ X.cell? ⟨w.heap.size, 1, none⟩ = some vg ∧ X.cell? ⟨w.heap.size, 2, none⟩ = some (.int .i64 o)) := fun X hX =>
    ⟨(hX.cell (p := ⟨w.heap.size, 0, none⟩) (by simp; omega)).trans (c0 0 _ rfl), (hX.cell (p := ⟨w.heap.size, 1, none⟩) (by simp; omega)).trans (c0 1 _ rfl), (hX.cell (p := ⟨w.heap.size, 2, none⟩) (by simp; omega)).trans (c0 2 _ rfl)⟩
  have HB0 := Lib.hid hb0
  have HZ := Lib.hid hz
  have HQ := Lib.hid (quantified_any vp P W (HP.below hb0 (Nat.le_refl _)) hp)
  have HGW := Lib.hid (HG.below hb0 (Nat.le_refl _))
  obtain ⟨pa, pc, rfl, _⟩ := HP.shape
  obtain ⟨ga, gc, rfl, _⟩ := HG.shape
  obtain ⟨y0, y1, y2⟩ := HY.out W (Below.refl _ _)
  have HMN : Hid (namedN P gs = if mayP P = true then namedL (flatB P) 0 gs else none) := rfl
  have HFL : Hid (mayP P = true → (flatB P).length ≤ 1024) := fun h => by unfold mayP at h; rw [decide_eq_true_eq] at h; exact h.2.2.2
  clear c0 hb0 HP HG hz
  unfold QuantPost at HQ
  cases hm : mayP P with
  | false =>
    rw [hm] at HMN
    have HQ2 : Hid (Calls Tryz.prog 193 #[.slice pa P.length pc] W fun e w' => e = .returned (.tuple #[.map none, .bool false]) ∧ Below W.heap.size W w') := HQ.out.mono fun e w' h => by
      obtain ⟨hb, ⟨h1, _⟩ | ⟨_, h2⟩⟩ := h
      · rw [hm] at h1; cases h1
      · exact ⟨h2, hb⟩
    clear hm HQ HFL
    go_enter Tryz.func172, Tryz.ntmps172
    go_wp2_with (go_at_call 193; refine HQ2.out.mono ?_; rintro e w1 ⟨rfl, hb1⟩)
    go_ret2
    exact ⟨HB0.out.trans (hb1.mono HB0.out.size), .inl ⟨HMN.out, rfl⟩⟩
  | true =>
    rw [hm] at HMN
    have HQ2 : Hid (Calls Tryz.prog 193 #[.slice pa P.length pc] W fun e w' => e = .returned (.tuple #[.map (some W.heap.size), .bool true]) ∧ SetI w' W.heap.size (flatB P) ∧ Below W.heap.size W w') := HQ.out.mono fun e w' h => by
      obtain ⟨hb, ⟨_, h1, h2⟩ | ⟨h2, _⟩⟩ := h
      · exact ⟨h1, h2, hb⟩
      · rw [hm] at h2; cases h2
    have HF := Lib.hid (HFL.out hm)
    clear hm HQ HFL
    go_enter Tryz.func172, Tryz.ntmps172
    go_wp2_with (go_at_call 193; refine HQ2.out.mono ?_; rintro e w1 ⟨rfl, hs1, hb1⟩; obtain ⟨q0, q1, q2⟩ := HY.out w1 hb1)
    have HS1 := Lib.hid hs1
    have HB1 := Lib.hid hb1
    clear q0 q1 q2 y0 y1 y2 HQ2 hs1 hb1
    go_loopw [6, 20] (fun t i wr => ∃ (k T : Nat) (S : List Int), k ≤ gs.length ∧ i = .int .i64 k ∧ t = .int .i64 T ∧ T ≤ 200000 ∧ S.length ≤ 1024 + k ∧ SetI wr W.heap.size S ∧ Below W.heap.size W wr ∧ Hid (namedN P gs = namedL S T (gs.drop k))) (fun _ i _ => gs.length - (intOf i).toNat)
    case atStart => exact ⟨0, 0, flatB P, Nat.zero_le _, rfl, rfl, by omega, HF.out, HS1.out, HB1.out, HMN.out⟩
    case round =>
      clear HS1 HB1 HMN
      obtain ⟨k, T, S, hk, rfl, rfl, hT, hSl, hset, hbel, hnm⟩ := hrel
      have hszr := hbel.size
      obtain ⟨q0, q1, q2⟩ := HY.out wr hbel
      by_cases hlt : k < gs.length
      · obtain ⟨b, off, u, rfl, hb, hcx0, hck0, hcu0, HU0, hrg⟩ := HGW.out.at hlt
        have hcx := (hbel.cell (p := ⟨b, off + k * 3, none⟩) hb).trans hcx0
        have hck := (hbel.cell (p := ⟨b, off + k * 3 + 1, none⟩) hb).trans hck0
        have hcu := (hbel.cell (p := ⟨b, off + k * 3 + 2, none⟩) hb).trans hcu0
        have HNC := Lib.hid (namedL_cons (S := S) (t := T) hlt)
        have hk0 : (0 : Int) ≤ (k : Int) := by omega
        have hk1 : (k : Int) < (gs.length : Int) := by omega
        have hk2 : (k : Int) < 4000001 := by omega
        have HKL := Lib.hid hlt
        have HUX : Hid (∀ X, Below W.heap.size W X → IsInts X u (gs.getD k dG).2.2) := fun X hX => HU0.below hX (Nat.le_refl _)
        have hul : (gs.getD k dG).2.2.length ≤ 17592186044416 := by obtain ⟨_, _, _, _, _, h, _⟩ := HU0; exact h
        obtain ⟨ua, uc, rfl⟩ := HU0.shape
        clear hcx0 hck0 hcu0 HU0
        generalize gs.getD k dG = y at *
        obtain ⟨y1, y2, y3⟩ := y
        simp only at hcx hck hcu HUX hul hrg HNC
        have hx1 := hrg.1.1
        have hx2 := hrg.1.2
        have HSE := Lib.hid hset
        have HBE := Lib.hid hbel
        have ha1 : Below wr.heap.size wr (wr.alloc (.cells #[.int .i64 y1, .int .u8 y2, .slice ua y3.length uc] 101)) := (Below.refl _ _).alloc (Nat.le_refl _) _
        have HWA := Lib.hid (hbel.trans (ha1.mono hszr))
        have HSA := Lib.hid (hset.below ha1 (Nat.le_refl _))
        have hsa : wr.heap.size < (wr.alloc (.cells #[.int .i64 y1, .int .u8 y2, .slice ua y3.length uc] 101)).heap.size := by simp
        have a0 : (wr.alloc (.cells #[.int .i64 y1, .int .u8 y2, .slice ua y3.length uc] 101)).cell? ⟨wr.heap.size, 0, none⟩ = some (.int .i64 y1) := cell_fresh rfl
        have a1 : (wr.alloc (.cells #[.int .i64 y1, .int .u8 y2, .slice ua y3.length uc] 101)).cell? ⟨wr.heap.size, 1, none⟩ = some (.int .u8 y2) := cell_fresh rfl
        have a2 : (wr.alloc (.cells #[.int .i64 y1, .int .u8 y2, .slice ua y3.length uc] 101)).cell? ⟨wr.heap.size, 2, none⟩ = some (.slice ua y3.length uc) := cell_fresh rfl
        have HAX : Hid (∀ X, Below (wr.alloc (.cells #[.int .i64 y1, .int .u8 y2, .slice ua y3.length uc] 101)).heap.size (wr.alloc (.cells #[.int .i64 y1, .int .u8 y2, .slice ua y3.length uc] 101)) X → X.cell? ⟨wr.heap.size, 0, none⟩ = some (.int .i64 y1) ∧ X.cell? ⟨wr.heap.size, 1, none⟩ = some (.int .u8 y2) ∧ X.cell? ⟨wr.heap.size, 2, none⟩ = some (.slice ua y3.length uc)) := fun X hX =>
          ⟨(hX.cell (p := ⟨wr.heap.size, 0, none⟩) hsa).trans a0, (hX.cell (p := ⟨wr.heap.size, 1, none⟩) hsa).trans a1, (hX.cell (p := ⟨wr.heap.size, 2, none⟩) hsa).trans a2⟩
        clear ha1 hrg hset hbel hsa
        go_upto_region 8 with fail
        clear q0 q1 q2 hcx hck hcu
        generalize wr.alloc (.cells #[.int .i64 y1, .int .u8 y2, .slice ua y3.length uc] 101) = wa at *
        generalize wr.heap.size = gb at *
        have HFT := Lib.hid (cfits_any y1 y2 (.slice ua y3.length uc) y3 wa (HUX.out wa HWA.out))
        have HAO : Hid (∀ X, Below wa.heap.size wa X → Calls Tryz.prog 195 #[.slice ua y3.length uc, .map (some W.heap.size)] X fun e w' => e = .returned (.bool (y3.all (fun x => decide (varC x ∈ S)))) ∧ Below X.heap.size X w') := fun X hX =>
          careof_any W.heap.size S _ y3 X (HSA.out.below hX (Nat.le_refl _)) (HUX.out X (HWA.out.trans (hX.mono HWA.out.size)))
        have HGO : Hid (gOk S T (y1, y2, y3) = (decide (T + y3.length ≤ 200000) && (fitsB y2 y3.length && (y3.all (fun x => decide (varC x ∈ S)) && entB S y1)))) := rfl
        have hty : (T : Int) + (y3.length : Int) < 9223372036854775808 := by omega
        have hT0 : (0 : Int) ≤ (T : Int) := by omega
        have hy0 : (0 : Int) ≤ (y3.length : Int) := by omega
        by_cases c1 : 200000 < T + y3.length
        · have hgt : (200000 : Int) < (T : Int) + (y3.length : Int) := by omega
          have HNX : Hid (namedN P gs = none) := by
            show _ = _
            rw [hnm.out, HNC.out, HGO.out, if_neg]
            have : ¬ (T + y3.length ≤ 200000) := by omega
            simp [this]
          clear c1 HAO HFT
          go_wp2
          go_ret2
          exact ⟨HB0.out.trans (HWA.out.mono HB0.out.size), .inl ⟨HNX.out, rfl⟩⟩
        · have hgt : ¬ ((200000 : Int) < (T : Int) + (y3.length : Int)) := by omega
          have C1 := Lib.hid c1
          clear c1
          cases hf : fitsB y2 y3.length with
          | false =>
            have HNX : Hid (namedN P gs = none) := by
              show _ = _
              rw [hnm.out, HNC.out, HGO.out, if_neg]
              simp [hf]
            rw [hf] at HFT
            clear hf HAO
            go_wp2_with (go_at_call 194; refine HFT.out.mono ?_; rintro e w2 ⟨rfl, hb2⟩)
            go_ret2
            exact ⟨HB0.out.trans ((HWA.out.trans (hb2.mono HWA.out.size)).mono HB0.out.size), .inl ⟨HNX.out, rfl⟩⟩
          | true =>
            rw [hf] at HFT
            have HF1 := Lib.hid hf
            clear hf
            cases ha : y3.all (fun x => decide (varC x ∈ S)) with
            | false =>
              have HNX : Hid (namedN P gs = none) := by
                show _ = _
                rw [hnm.out, HNC.out, HGO.out, if_neg]
                simp [ha]
              rw [ha] at HAO
              clear ha
              go_wp2_with (first
                | (go_at_call 194; refine HFT.out.mono ?_; rintro e w2 ⟨rfl, hb2⟩; obtain ⟨r0, r1, r2⟩ := HAX.out w2 hb2)
                | (go_at_call 195; refine (HAO.out w2 hb2).mono ?_; rintro e w3 ⟨rfl, hb3⟩))
              go_ret2
              exact ⟨HB0.out.trans ((HWA.out.trans ((hb2.trans (hb3.mono hb2.size)).mono HWA.out.size)).mono HB0.out.size), .inl ⟨HNX.out, rfl⟩⟩
            | true =>
              rw [ha] at HAO
              have HA1 := Lib.hid ha
              clear ha
              cases he : entB S y1 with
              | false =>
                have HNX : Hid (namedN P gs = none) := by
                  show _ = _
                  rw [hnm.out, HNC.out, HGO.out, if_neg]
                  simp [he]
                have HEN : Hid (∀ X, Below wa.heap.size wa X → Calls Tryz.prog 196 #[.map (some W.heap.size), .int .i64 y1] X (fun e w' => e = .returned (.bool false) ∧ X = w')) := fun X hX => center_no W.heap.size S y1 X (HSA.out.below hX (Nat.le_refl _)) (by omega) hx1 hx2 he
                clear he
                go_wp2_with (first
                  | (go_at_call 194; refine HFT.out.mono ?_; rintro e w2 ⟨rfl, hb2⟩; obtain ⟨r0, r1, r2⟩ := HAX.out w2 hb2)
                  | (go_at_call 195; refine (HAO.out w2 hb2).mono ?_; rintro e w3 ⟨rfl, hb3⟩; have HB3 := Lib.hid (hb2.trans (hb3.mono hb2.size)); obtain ⟨r3, r4, r5⟩ := HAX.out w3 HB3.out)
                  | (go_at_call 196; refine (HEN.out w3 HB3.out).mono ?_; rintro e w4 ⟨rfl, rfl⟩))
                go_ret2
                exact ⟨HB0.out.trans ((HWA.out.trans (HB3.out.mono HWA.out.size)).mono HB0.out.size), .inl ⟨HNX.out, rfl⟩⟩
              | true =>
                have HNX : Hid (namedN P gs = namedL (S ++ [y1]) (T + y3.length) (gs.drop (k + 1))) := by
                  show _ = _
                  rw [hnm.out, HNC.out, HGO.out, if_pos]
                  have h1 := C1.out
                  have : T + y3.length ≤ 200000 := by omega
                  simp [this, HF1.out, he]
                  simpa using HA1.out
                have HEN : Hid (∀ X, Below wa.heap.size wa X → Calls Tryz.prog 196 #[.map (some W.heap.size), .int .i64 y1] X (fun e w' => e = .returned (.bool true) ∧ SetI w' W.heap.size (S ++ [y1]) ∧ Kept (fun i => i = W.heap.size) X w')) := fun X hX => center_yes W.heap.size S y1 X (HSA.out.below hX (Nat.le_refl _)) (by omega) hx1 hx2 he
                clear he
                go_wp2_with (first
                  | (go_at_call 194; refine HFT.out.mono ?_; rintro e w2 ⟨rfl, hb2⟩; obtain ⟨r0, r1, r2⟩ := HAX.out w2 hb2)
                  | (go_at_call 195; refine (HAO.out w2 hb2).mono ?_; rintro e w3 ⟨rfl, hb3⟩; have HB3 := Lib.hid (hb2.trans (hb3.mono hb2.size)); obtain ⟨r3, r4, r5⟩ := HAX.out w3 HB3.out)
                  | (go_at_call 196; refine (HEN.out w3 HB3.out).mono ?_; rintro e w4 ⟨rfl, hs4, hk4⟩; have HS4 := Lib.hid hs4; have HW3 := Lib.hid (HWA.out.trans (HB3.out.mono HWA.out.size)); have HB4 := Lib.hid (HW3.out.trans (hk4.below HW3.out.size (fun i hi e2 => by omega))); clear hs4 hk4))
                go_roundw
                case rel => exact ⟨k + 1, T + y3.length, S ++ [y1], by omega, by go_num, by go_num, by have := C1.out; omega, by simp; omega, HS4.out, HB4.out, HNX.out⟩
                case measure => have := HKL.out; simp [intOf]; omega
      · obtain rfl : k = gs.length := by omega
        have HNX : Hid (namedN P gs = some S) := by show _ = _; rw [hnm.out, List.drop_length]; rfl
        have hv := varC_64 ho1 ho2
        have hz : ∀ X : World, (zeroValue 4).run Tryz.prog X = .ok (.bool false) X := fun _ => rfl
        have hlk : ∀ n, (Instr.lookup 181 (.map (some W.heap.size)) (.int .i64 (varC o)) false).run Tryz.prog (wr.drewN n) = .ok (.bool (decide (varC o ∈ S))) (wr.drewN n) := fun n => (hset.below (Quiet.below ⟨n, rfl⟩ wr.heap.size) (Nat.le_refl _)).look (hz _) (varC o) (i64w hv.1 hv.2)
        have hcv : ∀ n, Calls Tryz.prog 175 #[.int .i64 o] (wr.drewN n) fun e w' => e = .returned (.int .i64 (varC o)) ∧ wr.drewN n = w' := fun n => cvar_any o _ ho1 ho2
        have hcn : ∀ n, (wr.drewN n).cell? ⟨w.heap.size, 2, none⟩ = some (.int .i64 o) := fun n => q2
        have HSX := Lib.hid hset
        have HBX := Lib.hid hbel
        have HWZ : Hid (w.heap.size ≤ W.heap.size) := by have := HZ.out; show _ ≤ _; omega
        obtain ⟨t, ht⟩ : ∃ t, decide (varC o ∈ S) = t := ⟨_, rfl⟩
        have HT := Lib.hid ht
        rw [ht] at hlk
        obtain ⟨y, hy⟩ : ∃ y, varC o = y := ⟨_, rfl⟩
        rw [hy] at hlk hcv
        clear hset hbel hnm hv hz ht hy
        go_wp2_with fail
        go_quiet ((go_at_call 175; exact quiet_left (hcv _)))
        go_wp2
        go_ret2
        have hq : Below wr.heap.size wr (wr.drewN nq) := Quiet.below ⟨nq, rfl⟩ _
        exact ⟨HB0.out.trans ((HBX.out.trans (hq.mono HBX.out.size)).mono HB0.out.size), .inr ⟨S, _, HNX.out, by rw [HT.out]; rfl, HWZ.out, HSX.out.below hq (Nat.le_refl _)⟩⟩
theorem cmay_any (vp vg : Value) (o : Int) (P : List Blk) (gs : List Gt) (w : World) (HP : IsBlocks w vp P) (HG : IsGates w vg gs) (hp : P.length ≤ 4000000) (hg : gs.length ≤ 3000000) (ho1 : -9223372036854775808 ≤ o) (ho2 : o ≤ 9223372036854775807) :
    Calls Tryz.prog 127 #[.agg #[vp, vg, .int .i64 o]] w fun e w' => e = .returned (.bool (mayN P gs o)) ∧ Below w.heap.size w w' := by
  obtain ⟨W, hW⟩ : ∃ W, w.alloc (.cells #[vp, vg, .int .i64 o] 98) = W := ⟨_, rfl⟩
  have hb0 : Below w.heap.size w W := by rw [← hW]; exact (Below.refl w.heap.size w).alloc (Nat.le_refl _) _
  have c0 : W.cell? ⟨w.heap.size, 0, none⟩ = some vp := by rw [← hW]; exact cell_fresh rfl
  have c1 : W.cell? ⟨w.heap.size, 1, none⟩ = some vg := by rw [← hW]; exact cell_fresh rfl
  have c2 : W.cell? ⟨w.heap.size, 2, none⟩ = some (.int .i64 o) := by rw [← hW]; exact cell_fresh rfl
  have HN : Hid (Calls Tryz.prog 172 #[.agg #[vp, vg, .int .i64 o]] W fun e w' => ∃ m, e = .returned (.tuple #[m, .bool (mayN P gs o)]) ∧ Below W.heap.size W w') := (cnamed_any vp vg o P gs W (HP.below hb0 (Nat.le_refl _)) (HG.below hb0 (Nat.le_refl _)) hp hg ho1 ho2).mono fun e w' h => by
    obtain ⟨hb, ⟨h1, h2⟩ | ⟨S, b, h1, h2, _, _⟩⟩ := h
    · exact ⟨_, by rw [h2]; unfold mayN; rw [h1], hb⟩
    · exact ⟨_, by rw [h2]; unfold mayN; rw [h1], hb⟩
  have HB0 := Lib.hid hb0
  obtain ⟨pa, pc, rfl, _⟩ := HP.shape
  obtain ⟨ga, gc, rfl, _⟩ := HG.shape
  clear hb0 HP HG
  generalize mayN P gs o = t at *
  go_enter Tryz.func127, Tryz.ntmps127
  go_wp2_with (go_at_call 172; refine HN.out.mono ?_; rintro e w1 ⟨m, rfl, hb1⟩)
  go_ret
  exact ⟨rfl, HB0.out.trans (hb1.mono HB0.out.size)⟩
end Go.Proofs.YtppglbffmgnooaaGreat
