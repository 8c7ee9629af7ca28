/- Joined texts: AgMay, AgHas, AgBack, AgRow, AgClone. -/
import Derived.Test.YtppglbffmgnooaaGreatA02
import Derived.Test.YtppglbffmgnooaaGreatK01
import Derived.Test.YtppglbffmgnooaaGreatK02
import Derived.Test.YtppglbffmgnooaaGreatK10
import Derived.Test.YtppglbffmgnooaaGreatK09
/- aig.May, has, Has. -/
namespace Go.Proofs.YtppglbffmgnooaaGreat
open Go.RowKit
set_option linter.unusedVariables false
set_option linter.unusedSimpArgs false

/-- A box of a graph. -/
def BoxA (W : World) (b : Nat) (vi va : Value) : Prop := W.cell? ⟨b, 0, none⟩ = some vi ∧ W.cell? ⟨b, 1, none⟩ = some va
theorem boxA_new (w : World) (vi va : Value) : BoxA (w.alloc (.cells #[vi, va] 25)) w.heap.size vi va := ⟨cell_fresh rfl, cell_fresh rfl⟩
theorem BoxA.below {W W' : World} {b B : Nat} {vi va : Value} (h : BoxA W b vi va) (hb : Below B W W') (hB : b < B) : BoxA W' b vi va := ⟨(hb.cell (p := ⟨b, 0, none⟩) hB).trans h.1, (hb.cell (p := ⟨b, 1, none⟩) hB).trans h.2⟩

set_option maxRecDepth 100000 in
set_option maxHeartbeats 1600000 in
theorem gmay_any (vi va : Value) (I : List Int) (A : List Pr) (w : World) (HI : IsInts w vi I) (HA : IsPairs w va A) (h1 : I.length ≤ 4000000) (h2 : A.length ≤ 4000000) :
    Calls Tryz.prog 18 #[.agg #[vi, va]] w fun r w' => r = .returned (.bool (mayA I A)) ∧ Below w.heap.size w w' := by
  have hb0 := (Below.refl w.heap.size w).alloc (Nat.le_refl _) (.cells #[vi, va] 25)
  have hsz : (w.alloc (.cells #[vi, va] 25)).heap.size = w.heap.size + 1 := by simp
  have hbx := boxA_new w vi va
  have HI1 := Lib.hid (HI.below hb0 (Nat.le_refl _))
  have HA1 := Lib.hid (HA.below hb0 (Nat.le_refl _))
  have HP := Lib.hid HA.inP
  obtain ⟨ia, ic, rfl⟩ := HI.shape
  obtain ⟨aa, ac, rfl, _⟩ := HA.shape
  clear HI HA
  go_enter Tryz.func18, Tryz.ntmps18
  go_upto_region 1 with fail
  generalize World.alloc w _ = W at *
  have HB0 := Lib.hid hb0
  have HBX := Lib.hid hbx
  have HSZ := Lib.hid hsz
  obtain ⟨p0, p1⟩ := hbx
  clear hb0 hsz
  have HN := Lib.hid (nodes_any _ _ I A W HI1.out HA1.out h1 h2)
  have HN1 : Hid (((1 + I.length + A.length : Nat) : Int) ≤ 8000001) := by show _ ≤ _; omega
  by_cases c1 : 1 + I.length + A.length ≤ 200000
  · have hgt : decide ((200000 : Int) < ((1 + I.length + A.length : Nat) : Int)) = false := by rw [decide_eq_false_iff_not]; omega
    have HM : Hid (mayA I A = (insB I && okUpto (1 + I.length) A A.length)) := by show _ = _; unfold mayA; simp [c1]
    generalize hnn : ((1 + I.length + A.length : Nat) : Int) = nn at *
    have HNN := Lib.hid hnn
    clear hnn
    by_cases c2 : insB I = true
    · have HINS : Hid (∀ X, Below W.heap.size W X → Calls Tryz.prog 67 #[.slice ia I.length ic] X fun e w' => e = .returned (.bool true) ∧ Quiet X w') := fun X hX => by
        have := areInputs_any _ I X (HI1.out.below hX (Nat.le_refl _))
        rw [c2] at this
        exact this
      rw [c2, Bool.true_and] at HM
      clear c2
      go_upto_region 3 with (first
        | (go_at_call 67; refine (HINS.out w1 hb1).mono ?_; rintro e w2 ⟨rfl, hq2⟩)
        | (go_at_call 66; refine HN.out.mono ?_; rintro e w1 ⟨rfl, hb1⟩; obtain ⟨q0, q1⟩ := HBX.out.below hb1 (by rw [HSZ.out]; omega)))
      have HB2 : Hid (Below W.heap.size W w2) := hb1.trans (hq2.below _)
      obtain ⟨r0, r1⟩ := HBX.out.below HB2.out (by rw [HSZ.out]; omega)
      clear q0 q1 p0 p1 hb1 hq2 HN hgt
      go_wp2
      go_loopw [18] (fun i wr => ∃ k : Nat, k ≤ A.length ∧ i = .int .i64 k ∧ Below W.heap.size W wr ∧ okUpto (1 + I.length) A k = true) (fun i _ => A.length - (intOf i).toNat)
      case atStart => exact ⟨0, Nat.zero_le _, rfl, HB2.out, rfl⟩
      case round =>
        clear r0 r1
        obtain ⟨k, hk, rfl, hbel, hok⟩ := hrel
        have HB := Lib.hid hbel
        have HOK := Lib.hid hok
        clear hbel hok
        by_cases hlt : k < A.length
        · obtain ⟨b, off, rfl, hb, hx0, hy0⟩ := HA1.out.at hlt
          have hx := (HB.out.cell (p := ⟨b, off + k * 2, none⟩) hb).trans hx0
          have hy := (HB.out.cell (p := ⟨b, off + k * 2 + 1, none⟩) hb).trans hy0
          have hxr := HP.out.at hlt
          obtain ⟨r0, r1⟩ := HBX.out.below HB.out (by rw [HSZ.out]; omega)
          have HS := Lib.hid (okUpto_succ (1 + I.length) A k)
          have HPR : Hid (okPair (1 + I.length) A k = (isE (A.getD k dPr).1 (1 + I.length + k) && isE (A.getD k dPr).2 (1 + I.length + k))) := rfl
          have HBAD := Lib.hid (fun h : okPair (1 + I.length) A k = false => okUpto_bad hlt h)
          clear hx0 hy0
          generalize A.getD k dPr = y at *
          obtain ⟨y1, y2⟩ := y
          simp only at hx hy hxr HPR
          have HE1 : Hid (∀ X N, N = ((1 + I.length + k : Nat) : Int) → Calls Tryz.prog 68 #[.int .i64 y1, .int .i64 N] X fun r w' => r = .returned (.bool (isE y1 (1 + I.length + k))) ∧ Quiet X w') := fun X N hN => by rw [hN]; exact isEdge_any y1 _ X hxr.1.1 hxr.1.2 (by omega)
          have HE2 : Hid (∀ X N, N = ((1 + I.length + k : Nat) : Int) → Calls Tryz.prog 68 #[.int .i64 y2, .int .i64 N] X fun r w' => r = .returned (.bool (isE y2 (1 + I.length + k))) ∧ Quiet X w') := fun X N hN => by rw [hN]; exact isEdge_any y2 _ X hxr.2.1 hxr.2.2 (by omega)
          clear hxr
          generalize isE y1 (1 + I.length + k) = t1 at *
          generalize isE y2 (1 + I.length + k) = t2 at *
          go_upto_region 6 with fail
          have hnx : BoxA (World.alloc wr (.cells #[.int .i64 y1, .int .i64 y2] 115)) wr.heap.size (.int .i64 y1) (.int .i64 y2) := ⟨cell_fresh rfl, cell_fresh rfl⟩
          have hbx1 := (Below.refl wr.heap.size wr).alloc (Nat.le_refl _) (.cells #[.int .i64 y1, .int .i64 y2] 115)
          have HSX : Hid ((World.alloc wr (.cells #[.int .i64 y1, .int .i64 y2] 115)).heap.size = wr.heap.size + 1) := by show _ = _; simp
          have HBX1 := Lib.hid hbx1
          have HBC := Lib.hid (HB.out.trans (hbx1.mono HB.out.size))
          clear hbx1 r0 r1 hx hy
          generalize World.alloc wr _ = X at *
          have HNX := Lib.hid hnx
          obtain ⟨n0, n1⟩ := hnx
          obtain ⟨r0, r1⟩ := HBX.out.below HBC.out (by rw [HSZ.out]; omega)
          generalize wr.heap.size = g at *
          cases t1 with
          | false =>
            go_wp2_with (go_at_call 68; refine (HE1.out X _ (by omega)).mono ?_; rintro e w3 ⟨rfl, hq3⟩)
            go_ret
            exact ⟨ret_bool (by rw [HM.out, HBAD.out (by rw [HPR.out]; rfl)]), HB0.out.trans ((HBC.out.trans (hq3.below _)).mono HB0.out.size)⟩
          | true =>
            have HY : Hid (∀ Y, Quiet X Y → Y.cell? ⟨g, 1, none⟩ = some (.int .i64 y2)) := fun Y hY => (hY.cell _).trans n1
            cases t2 with
            | false =>
              go_wp2_with (first
                | (go_at_call 68; refine (HE2.out w3 _ (by omega)).mono ?_; rintro e w4 ⟨rfl, hq4⟩)
                | (go_at_call 68; refine (HE1.out X _ (by omega)).mono ?_; rintro e w3 ⟨rfl, hq3⟩; have n3 := HY.out w3 hq3))
              go_ret
              exact ⟨ret_bool (by rw [HM.out, HBAD.out (by rw [HPR.out]; rfl)]), HB0.out.trans ((HBC.out.trans ((hq3.trans hq4).below _)).mono HB0.out.size)⟩
            | true =>
              go_wp2_with (first
                | (go_at_call 68; refine (HE2.out w3 _ (by omega)).mono ?_; rintro e w4 ⟨rfl, hq4⟩)
                | (go_at_call 68; refine (HE1.out X _ (by omega)).mono ?_; rintro e w3 ⟨rfl, hq3⟩; have n3 := HY.out w3 hq3))
              go_roundw
              case rel => exact ⟨k + 1, by omega, by go_num, HBC.out.trans ((hq3.trans hq4).below _), by rw [HS.out, HOK.out, HPR.out]; rfl⟩
              case measure => simp [intOf]; omega
        · obtain rfl : k = A.length := by omega
          go_wp2
          go_ret
          exact ⟨ret_bool (by rw [HM.out, HOK.out]), HB0.out.trans (HB.out.mono HB0.out.size)⟩
    · have hc2 : insB I = false := by simpa using c2
      have HINS : Hid (∀ X, Below W.heap.size W X → Calls Tryz.prog 67 #[.slice ia I.length ic] X fun e w' => e = .returned (.bool false) ∧ Quiet X w') := fun X hX => by
        have := areInputs_any _ I X (HI1.out.below hX (Nat.le_refl _))
        rw [hc2] at this
        exact this
      rw [hc2, Bool.false_and] at HM
      clear c2 hc2
      go_wp2_with (first
        | (go_at_call 67; refine (HINS.out w1 hb1).mono ?_; rintro e w2 ⟨rfl, hq2⟩)
        | (go_at_call 66; refine HN.out.mono ?_; rintro e w1 ⟨rfl, hb1⟩; obtain ⟨q0, q1⟩ := HBX.out.below hb1 (by rw [HSZ.out]; omega)))
      go_ret
      exact ⟨ret_bool HM.out.symm, HB0.out.trans ((hb1.trans (hq2.below _)).mono HB0.out.size)⟩
  · have hgt : decide ((200000 : Int) < ((1 + I.length + A.length : Nat) : Int)) = true := by rw [decide_eq_true_iff]; omega
    have HM : Hid (mayA I A = false) := by show _ = _; unfold mayA; simp [c1]
    generalize hnn : ((1 + I.length + A.length : Nat) : Int) = nn at *
    clear hnn
    go_wp2_with (go_at_call 66; refine HN.out.mono ?_; rintro e w1 ⟨rfl, hb1⟩)
    go_ret
    exact ⟨ret_bool HM.out.symm, HB0.out.trans (hb1.mono HB0.out.size)⟩
end Go.Proofs.YtppglbffmgnooaaGreat

/- aig.has, Has, Same; slices.Equal over pairs. -/
namespace Go.Proofs.YtppglbffmgnooaaGreat
open Go.RowKit
set_option linter.unusedVariables false
set_option linter.unusedSimpArgs false
attribute [local go_sem] equal_pr guard_pr

set_option maxRecDepth 100000 in
set_option maxHeartbeats 1600000 in
theorem ghas_any (vi va vl : Value) (I : List Int) (A : List Pr) (l : List Int) (w : World) (HI : IsInts w vi I) (HA : IsPairs w va A) (HL : IsInts w vl l) (h1 : I.length ≤ 4000000) (h2 : A.length ≤ 4000000) :
    Calls Tryz.prog 62 #[.agg #[vi, va], vl] w fun r w' => r = .returned (.bool (hasA I A l)) ∧ Below w.heap.size w w' := by
  have hb0 := (Below.refl w.heap.size w).alloc (Nat.le_refl _) (.cells #[vi, va] 25)
  have hsz : (w.alloc (.cells #[vi, va] 25)).heap.size = w.heap.size + 1 := by simp
  have hbx := boxA_new w vi va
  have HI1 := Lib.hid (HI.below hb0 (Nat.le_refl _))
  have HA1 := Lib.hid (HA.below hb0 (Nat.le_refl _))
  have HL1 := Lib.hid (HL.below hb0 (Nat.le_refl _))
  obtain ⟨ia, ic, rfl⟩ := HI.shape
  obtain ⟨aa, ac, rfl, _⟩ := HA.shape
  obtain ⟨la, lc, rfl⟩ := HL.shape
  clear HI HA HL
  go_enter Tryz.func62, Tryz.ntmps62
  go_upto_region 1 with fail
  generalize World.alloc w _ = W at *
  have HB0 := Lib.hid hb0
  have HBX := Lib.hid hbx
  have HSZ := Lib.hid hsz
  obtain ⟨p0, p1⟩ := hbx
  clear hb0 hsz
  have HM := Lib.hid (gmay_any _ _ I A W HI1.out HA1.out h1 h2)
  by_cases c1 : mayA I A = true
  · have HE : Hid (hasA I A l = edgesB l (1 + I.length + A.length)) := by show _ = _; unfold hasA; rw [c1]; rfl
    rw [c1] at HM
    clear c1
    have HN : Hid (∀ X, Below W.heap.size W X → Calls Tryz.prog 66 #[.agg #[.slice ia I.length ic, .slice aa A.length ac]] X fun r w' => r = .returned (.int .i64 ((1 + I.length + A.length : Nat) : Int)) ∧ Below W.heap.size W w') := fun X hX =>
      (nodes_any _ _ I A X (HI1.out.below hX (Nat.le_refl _)) (HA1.out.below hX (Nat.le_refl _)) h1 h2).mono fun r w' h => ⟨h.1, hX.trans (h.2.mono hX.size)⟩
    have HG : Hid (∀ X, Below W.heap.size W X → Calls Tryz.prog 144 #[.slice la l.length lc, .int .i64 ((1 + I.length + A.length : Nat) : Int)] X fun r w' => r = .returned (.bool (edgesB l (1 + I.length + A.length))) ∧ Below W.heap.size W w') := fun X hX =>
      (areEdges_any _ l _ X (HL1.out.below hX (Nat.le_refl _)) (by omega)).mono fun r w' h => ⟨h.1, hX.trans (h.2.mono hX.size)⟩
    generalize edgesB l (1 + I.length + A.length) = t at *
    generalize ((1 + I.length + A.length : Nat) : Int) = nn at *
    go_wp2_with (first
      | (go_at_call 144; refine (HG.out w2 hb2).mono ?_; rintro e w3 ⟨rfl, hb3⟩)
      | (go_at_call 66; refine (HN.out w1 hb1).mono ?_; rintro e w2 ⟨rfl, hb2⟩)
      | (go_at_call 18; refine HM.out.mono ?_; rintro e w1 ⟨rfl, hb1⟩; obtain ⟨q0, q1⟩ := HBX.out.below hb1 (by rw [HSZ.out]; omega)))
    go_ret
    exact ⟨ret_bool HE.out.symm, HB0.out.trans (hb3.mono HB0.out.size)⟩
  · have hc1 : mayA I A = false := by simpa using c1
    have HE : Hid (hasA I A l = false) := by show _ = _; unfold hasA; rw [hc1]; rfl
    rw [hc1] at HM
    clear c1 hc1
    go_wp2_with (go_at_call 18; refine HM.out.mono ?_; rintro e w1 ⟨rfl, hb1⟩)
    go_ret
    exact ⟨ret_bool HE.out.symm, HB0.out.trans (hb1.mono HB0.out.size)⟩

theorem one_int (w : World) (x : Int) (h1 : -9223372036854775808 ≤ x) (h2 : x ≤ 9223372036854775807) : IsInts (w.alloc (.cells #[.int .i64 x] 3)) (.slice (some ⟨w.heap.size, 0, none⟩) 1 1) [x] := by
  refine ⟨_, 1, rfl, ⟨Nat.le_refl _, fun e => by cases e⟩, by omega, by simp, ?_, w.heap.size, 0, fun _ => ⟨rfl, by simp⟩, fun j hj => ?_⟩
  · intro y hy
    rw [List.mem_singleton] at hy
    subst hy
    exact ⟨h1, h2⟩
  · obtain rfl : j = 0 := by simpa using hj
    exact cell_fresh rfl
set_option maxRecDepth 100000 in
set_option maxHeartbeats 1600000 in
theorem gHas_any (vi va : Value) (I : List Int) (A : List Pr) (x : Int) (w : World) (HI : IsInts w vi I) (HA : IsPairs w va A) (h1 : I.length ≤ 4000000) (h2 : A.length ≤ 4000000) (h3 : -9223372036854775808 ≤ x) (h4 : x ≤ 9223372036854775807) :
    Calls Tryz.prog 22 #[.agg #[vi, va], .int .i64 x] w fun r w' => r = .returned (.bool (hasA I A [x])) ∧ Below w.heap.size w w' := by
  have hb0 := (Below.refl w.heap.size w).alloc (Nat.le_refl _) (.cells #[vi, va] 25)
  have hb1 := hb0.alloc hb0.size (.cells #[.int .i64 x] 3)
  have hone := one_int (w.alloc (.cells #[vi, va] 25)) x h3 h4
  rw [World.size_alloc] at hone
  have HC := Lib.hid (ghas_any vi va _ I A [x] _ (HI.below hb1 (Nat.le_refl _)) (HA.below hb1 (Nat.le_refl _)) hone h1 h2)
  have HB := Lib.hid hb1
  clear hone
  obtain ⟨ia, ic, rfl⟩ := HI.shape
  obtain ⟨aa, ac, rfl, _⟩ := HA.shape
  clear HI HA hb0 hb1
  generalize hasA I A [x] = t at *
  go_enter Tryz.func22, Tryz.ntmps22
  go_wp2_with (go_at_call 62; refine HC.out.mono ?_; rintro e w1 ⟨rfl, hb1⟩)
  go_ret
  exact ⟨rfl, HB.out.trans (hb1.mono HB.out.size)⟩

set_option maxHeartbeats 1600000 in
set_option maxRecDepth 100000 in
theorem equalp_any (v u : Value) (l m : List Pr) (w : World) (H : IsPairs w v l) (K : IsPairs w u m) :
    Calls Tryz.prog 75 #[v, u] w fun e w' => e = .returned (.bool (decide (l = m))) ∧ Quiet w w' := by
  obtain ⟨a, cap, rfl, hl⟩ := H.shape
  obtain ⟨a2, cap2, rfl, hl2⟩ := K.shape
  by_cases hlen : l.length = m.length
  · have hne : ((l.length : Int) != (m.length : Int)) = false := by simp [hlen]
    have HL := Lib.hid hlen
    have HH := Lib.hid H
    have HK := Lib.hid K
    clear hlen H K
    go_enter Tryz.func75, Tryz.ntmps75
    go_wp2
    go_loopw [13] (fun i wr => ∃ k : Nat, k ≤ l.length ∧ i = .int .i64 k ∧ Quiet w wr ∧ l.take k = m.take k) (fun i _ => l.length - (intOf i).toNat)
    case atStart => exact ⟨0, Nat.zero_le _, rfl, Quiet.refl _, by simp⟩
    case round =>
      obtain ⟨k, hk, rfl, hq, hn⟩ := hrel
      have HN := Lib.hid hn
      clear hn
      by_cases hlt : k < l.length
      · have hlt2 : k < m.length := by rw [← HL.out]; exact hlt
        obtain ⟨b, off, rfl, hb, hx0, hy0⟩ := HH.out.at hlt
        obtain ⟨b2, off2, rfl, hb2, hx1, hy1⟩ := HK.out.at hlt2
        have cx := (hq.cell _).trans hx0
        have cy := (hq.cell _).trans hy0
        have dx := (hq.cell _).trans hx1
        have dy := (hq.cell _).trans hy1
        have HT := Lib.hid (take_pr hlt)
        have HU := Lib.hid (take_pr hlt2)
        have HNE : Hid (l.getD k dPr ≠ m.getD k dPr → l ≠ m) := fun h e => h (by rw [e])
        clear hx0 hy0 hx1 hy1
        generalize l.getD k dPr = x at *
        generalize m.getD k dPr = y at *
        obtain ⟨x1, x2⟩ := x
        obtain ⟨y1, y2⟩ := y
        simp only at cx cy dx dy
        by_cases hxy : x1 = y1 ∧ x2 = y2
        · obtain ⟨rfl, rfl⟩ := hxy
          go_wp2_with fail
          go_quiet (fail)
          go_wp2
          go_roundw
          case rel => exact ⟨k + 1, by omega, by go_num, hq.drewN nq, by rw [HT.out, HU.out, HN.out]⟩
          case measure => simp [intOf]; omega
        · have hd : (x1 == y1 && x2 == y2) = false := by
            rw [Bool.and_eq_false_iff]
            by_cases e : x1 = y1
            · exact .inr (by simpa using fun e2 => hxy ⟨e, e2⟩)
            · exact .inl (by simpa using e)
          have HF : Hid (decide (l = m) = false) := by
            show _ = _
            rw [decide_eq_false_iff_not]
            exact HNE.out (fun e => by injection e with e1 e2; exact hxy ⟨e1, e2⟩)
          go_wp2_with fail
          go_quiet (fail)
          go_wp2
          go_ret
          exact ⟨ret_bool HF.out.symm, hq.drewN nq⟩
      · have HF : Hid (decide (l = m) = true) := by
          show _ = _
          rw [decide_eq_true_eq]
          have h := HN.out
          rw [List.take_of_length_le (by omega), List.take_of_length_le (by have := HL.out; omega)] at h
          exact h
        go_wp2
        go_ret
        exact ⟨ret_bool HF.out.symm, hq⟩
  · have hne : ((l.length : Int) != (m.length : Int)) = true := by simp; omega
    have HF : Hid (decide (l = m) = false) := by
      show _ = _
      rw [decide_eq_false_iff_not]
      exact fun e => hlen (by rw [e])
    clear hlen H K
    go_enter Tryz.func75, Tryz.ntmps75
    go_wp2
    go_ret
    exact ⟨ret_bool HF.out.symm, Quiet.refl _⟩
end Go.Proofs.YtppglbffmgnooaaGreat

/- slices.Backward over pairs: an iterator over the pairs from the last to the first, each with its index. -/
namespace Go.Proofs.YtppglbffmgnooaaGreat
open Go.RowKit Go.Shelf
set_option linter.unusedVariables false
set_option linter.unusedSimpArgs false
attribute [local go_sem] Oper.semAt_some

/-- The index of a pair of a list. -/
abbrev PE (A : List Pr) : Type := { i : Nat // i < A.length }
abbrev encPE {A : List Pr} (x : PE A) : Array Value := #[.int .i64 (x.1 : Int), .agg #[.int .i64 (A.getD x.1 dPr).1, .int .i64 (A.getD x.1 dPr).2]]

set_option maxRecDepth 100000 in
set_option maxHeartbeats 2000000 in
theorem backp1_in (n : Nat) (hn : 1 ≤ n) (l bx : Nat) (w0 : World) (va : Value) (A : List Pr) (H : IsPairs w0 va A) (J Jx : List (PE A) → World → Prop)
    (W : World) (hW : Below w0.heap.size w0 W)
    (hY : ∀ pre x W, J pre W → pre.length < A.length → YieldAt Fence.wide (n - 1) Tryz.prog l (encPE x) W fun e W' =>
      (e = .returned (.bool true) ∧ J (pre ++ [x]) W' ∧ KpB w0.heap.size bx W W') ∨ (e = .returned (.bool false) ∧ Jx (pre ++ [x]) W'))
    (hbx : W.cell? ⟨bx, 0, none⟩ = some va) (h0 : J [] W) :
    CallsIn Fence.wide n Tryz.prog 180 #[.func (.yield l) #[] #[], .pointer (some ⟨bx, 0, none⟩)] W fun e W' => (∃ v, e = .returned v) ∧
      ((∃ ys : List (PE A), ys.map (fun x => x.1) = downL A.length A.length ∧ J ys W') ∨ (∃ pre : List (PE A), pre.map (fun x => x.1) <+: downL A.length A.length ∧ Jx pre W')) := by
  obtain ⟨a, cap, rfl, hlf⟩ := H.shape
  have HH := Lib.hid H
  have HY := Lib.hid hY
  have HJ0 := Lib.hid h0
  have HW := Lib.hid hW
  have HBX := Lib.hid hbx
  clear H hY h0 hW
  refine callsIn_of_wp Tryz.func180 rfl trivial ?_ rfl
  simp only [Tryz.ntmps180, List.size_toArray, List.length_cons, List.length_nil, Nat.reduceAdd, Nat.reduceSub, Array.replicate_succ, Array.replicate_zero, List.push_toArray, List.append_toArray, List.nil_append, List.cons_append]
  gi_wp2
  gi_loopw [3] (fun i wr => ∃ (k : Nat) (pre : List (PE A)), k ≤ A.length ∧ i = .int .i64 ((k : Int) - 1) ∧ pre.map (fun x => x.1) = downL A.length (A.length - k) ∧ J pre wr ∧ Below w0.heap.size w0 wr ∧ wr.cell? ⟨bx, 0, none⟩ = some (.slice a A.length cap)) (fun i _ => (intOf i + 1).toNat)
  case atStart => exact ⟨A.length, [], Nat.le_refl _, by go_num, by rw [Nat.sub_self]; rfl, HJ0.out, HW.out, HBX.out⟩
  case round =>
    clear hbx
    obtain ⟨k, pre, hk, rfl, hpre, hJs, hbel, hbx⟩ := hrel
    have HPRE := Lib.hid hpre
    have HJS := Lib.hid hJs
    have HB := Lib.hid hbel
    have HBK := Lib.hid hbx
    clear hpre hJs hbel
    match k, hk, HPRE with
    | k + 1, hk, HPRE =>
      have hlt : k < A.length := by omega
      obtain ⟨b, off, rfl, hb, hcx0, hcy0⟩ := HH.out.at hlt
      have hcx := (HB.out.cell (p := ⟨b, off + k * 2, none⟩) hb).trans hcx0
      have hcy := (HB.out.cell (p := ⟨b, off + k * 2 + 1, none⟩) hb).trans hcy0
      have hkk : ((k + 1 : Nat) : Int) - 1 = (k : Int) := by omega
      rw [hkk]
      have hk0 : (0 : Int) ≤ (k : Int) := by omega
      have hk1 : (k : Int) < (A.length : Int) := by omega
      have hk2 : (k : Int) < 17592186044417 := by omega
      have HDN : Hid (downL A.length (A.length - k) = downL A.length (A.length - (k + 1)) ++ [k]) := by
        show _ = _
        rw [show A.length - k = (A.length - (k + 1)) + 1 from by omega, downL_succ]
        congr 2
        omega
      have HDP : Hid (downL A.length (A.length - k) <+: downL A.length A.length) := downL_prefix _ (by omega)
      have hlen : pre.length < A.length := by
        have h1 := congrArg List.length HPRE.out
        unfold downL at h1
        rw [List.length_map, List.length_map, List.length_range] at h1
        omega
      obtain ⟨x, hx, he⟩ : ∃ x : PE A, x.1 = k ∧ encPE x = #[.int .i64 (k : Int), .agg #[.int .i64 (A.getD k dPr).1, .int .i64 (A.getD k dPr).2]] := ⟨⟨k, hlt⟩, rfl, rfl⟩
      obtain ⟨fn, tmps, assign, body, hy, hR⟩ := HY.out pre x wr HJS.out hlen
      rw [he] at hy
      have HX := Lib.hid hx
      have HR := Lib.hid hR
      have HKL := Lib.hid hlt
      clear hcx0 hcy0 hlt hkk hR hlen hx he
      generalize A.getD k dPr = y at *
      obtain ⟨y1, y2⟩ := y
      simp only at hcx hcy hy
      gi_wp2
      refine HR.out.mono ?_
      rintro e W3 (⟨rfl, hJ3, hk3⟩ | ⟨rfl, hJx3⟩)
      · have hbx3 : W3.cell? ⟨bx, 0, none⟩ = some (.slice (some ⟨b, off, none⟩) A.length cap) := hk3.cell.trans HBK.out
        gi_wp2
        go_roundw
        case rel => exact ⟨k, _, by omega, by go_num, by rw [List.map_append, HPRE.out, HDN.out]; simp [HX.out], hJ3, HB.out.trans hk3.1, hbx3⟩
        case measure => simp [intOf]
      · gi_wp2
        refine bodyPost_ret (results_none rfl _ _ _) rfl ?_
        exact ⟨⟨_, rfl⟩, .inr ⟨_, by have := HDP.out; rw [HDN.out, ← HPRE.out] at this; rw [List.map_append]; simpa [HX.out] using this, hJx3⟩⟩
    | 0, hk, HPRE =>
      have hkk : ((0 : Nat) : Int) - 1 = -1 := by omega
      rw [hkk]
      gi_wp2
      go_end0
      exact ⟨⟨_, rfl⟩, .inl ⟨pre, by simpa using HPRE.out, HJS.out⟩⟩

theorem backp_in (n : Nat) (a : Option Addr) (k cap : Nat) (w : World) : CallsIn Fence.wide n Tryz.prog 145 #[.slice a k cap] w fun e w' => e = .returned (.func (.func 180) #[] #[.pointer (some ⟨w.heap.size, 0, none⟩)]) ∧ w' = w.alloc (.cells #[.slice a k cap] 23) := by
  refine callsIn_of_wp Tryz.func145 rfl trivial ?_ rfl
  simp only [Tryz.ntmps145, List.size_toArray, List.length_cons, List.length_nil, Nat.reduceAdd, Nat.reduceSub, Array.replicate_succ, Array.replicate_zero, List.push_toArray, List.append_toArray, List.nil_append, List.cons_append]
  gi_wp2
  go_ret
  exact ⟨rfl, rfl⟩

theorem backp_stops (n : Nat) (hn : 1 ≤ n) (bx : Nat) (w0 w : World) (va : Value) (A : List Pr) (H : IsPairs w0 va A) (hW : Below w0.heap.size w0 w) (hB : bx < w.heap.size) (hc : w.cell? ⟨bx, 0, none⟩ = some va) :
    SeqStopsK Fence.wide n Tryz.prog 180 #[.pointer (some ⟨bx, 0, none⟩)] (encPE (A := A)) (KpB w0.heap.size bx) (fun ys => ys.map (fun x => x.1) = downL A.length A.length) (fun pre => pre.map (fun x => x.1) <+: downL A.length A.length) A.length w := fun l J Jx W hWW _ _ hY h0 =>
  backp1_in n hn l bx w0 va A H J Jx W (hW.trans (hWW.mono hW.size)) hY ((hWW.cell (p := ⟨bx, 0, none⟩) hB).trans hc) h0

end Go.Proofs.YtppglbffmgnooaaGreat

/- Rows of pairs that the call makes. -/
namespace Go.Proofs.YtppglbffmgnooaaGreat
open Go.RowKit
set_option linter.unusedVariables false
set_option linter.unusedSimpArgs false

def cellsP (A : List Pr) : List Value := A.flatMap (fun p => [.int .i64 p.1, .int .i64 p.2])
theorem cellsP_len (A : List Pr) : (cellsP A).length = A.length * 2 := by
  induction A with
  | nil => rfl
  | cons x r ih => simp only [cellsP, List.flatMap_cons, List.length_append] at ih ⊢; rw [ih]; simp; omega
theorem cellsP_app (t s : List Pr) : cellsP (t ++ s) = cellsP t ++ cellsP s := by simp [cellsP]
theorem cellsP_at (A : List Pr) (j : Nat) (hj : j < A.length) : (cellsP A)[j * 2]? = some (.int .i64 (A.getD j dPr).1) ∧ (cellsP A)[j * 2 + 1]? = some (.int .i64 (A.getD j dPr).2) := by
  induction A generalizing j with
  | nil => simp at hj
  | cons x r ih =>
    have e : cellsP (x :: r) = .int .i64 x.1 :: .int .i64 x.2 :: cellsP r := by simp [cellsP]
    rw [e]
    cases j with
    | zero => simp
    | succ j =>
      have := ih j (by simpa using hj)
      rw [show (j + 1) * 2 = j * 2 + 1 + 1 from by omega]
      simpa using this
/-- The slice owns its row, which holds these pairs. -/
def OwnP (w : World) (B : Nat) (v : Value) (A : List Pr) : Prop := w.ownsRow B 115 2 v A.length (cellsP A)
theorem info_pr : (Tryz.prog.info? 115).map (fun i => (i.zero, i.size, i.bytes)) = some (some (.agg #[.int .i64 0, .int .i64 0]), 2, 16) := by kernel_rfl
theorem OwnP.nil (w : World) (B : Nat) : OwnP w B (.slice none 0 0) [] := World.ownsRow_nil _ _ _ _
theorem OwnP.lt {w : World} {B : Nat} {v : Value} {A : List Pr} (h : OwnP w B v A) : ∀ g, v.ownBlock = some g → B ≤ g ∧ g < w.heap.size := fun g hg => by
  rcases h.2 with ⟨rfl, _⟩ | ⟨g1, cap, cur, rfl, hB, hg1, _⟩
  · cases hg
  · have : g1 = g := by simpa [Value.ownBlock] using hg
    subst this
    exact ⟨hB, (Array.getElem?_eq_some_iff.1 hg1).1⟩
theorem OwnP.shape {w : World} {B : Nat} {v : Value} {A : List Pr} (h : OwnP w B v A) : ∃ a c, v = .slice a A.length c := by
  rcases h.2 with ⟨rfl, h2⟩ | ⟨g, cap, cur, rfl, _⟩
  · exact ⟨none, 0, by rw [h2]⟩
  · exact ⟨_, _, rfl⟩
/-- What its block holds. -/
theorem OwnP.obj {w : World} {B g : Nat} {v : Value} {A : List Pr} (h : OwnP w B v A) (hg : v.ownBlock = some g) : ∃ cur, w.heap[g]? = some (.cells cur 115 (0, 0)) := by
  rcases h.2 with ⟨rfl, _⟩ | ⟨g1, cap, cur, rfl, hB, hg1, _⟩
  · cases hg
  · have : g1 = g := by simpa [Value.ownBlock] using hg
    subst this
    exact ⟨_, hg1⟩
theorem OwnP.turn {w w' : World} {B : Nat} {v : Value} {A : List Pr} (h : OwnP w B v A) (hk : ∀ g, v.ownBlock = some g → w'.heap[g]? = w.heap[g]?) : OwnP w' B v A := by
  refine ⟨h.1, ?_⟩
  rcases h.2 with hn | ⟨g, cap, cur, hv, hB, hg, rest⟩
  · exact .inl hn
  · exact .inr ⟨g, cap, cur, hv, hB, (hk g (by rw [hv]; rfl)).trans hg, rest⟩
theorem OwnP.kept {w w' : World} {B : Nat} {v : Value} {A : List Pr} {S : Nat → Prop} (h : OwnP w B v A) (k : Kept S w w') (hS : ∀ g, v.ownBlock = some g → ¬ S g) : OwnP w' B v A :=
  h.turn fun g hg => k.block g (h.lt g hg).2 (hS g hg)
theorem OwnP.below {w w' : World} {B C : Nat} {v : Value} {A : List Pr} (h : OwnP w B v A) (hb : Below C w w') (hC : w.heap.size ≤ C) : OwnP w' B v A :=
  h.turn fun g hg => hb.block g (Nat.lt_of_lt_of_le (h.lt g hg).2 hC)
theorem OwnP.mono {w : World} {B B' : Nat} {v : Value} {A : List Pr} (h : OwnP w B v A) (hB : B' ≤ B) : OwnP w B' v A := by
  refine ⟨h.1, ?_⟩
  rcases h.2 with hn | ⟨g, cap, cur, hv, hb, rest⟩
  · exact .inl hn
  · exact .inr ⟨g, cap, cur, hv, Nat.le_trans hB hb, rest⟩
theorem OwnP.cells {w : World} {B : Nat} {a : Option Addr} {n cap : Nat} {A : List Pr} (h : OwnP w B (.slice a n cap) A) {j : Nat} (hj : j < A.length) : ∃ g, a = some ⟨g, 0, none⟩ ∧ B ≤ g ∧ g < w.heap.size ∧
    w.cell? ⟨g, j * 2, none⟩ = some (.int .i64 (A.getD j dPr).1) ∧ w.cell? ⟨g, j * 2 + 1, none⟩ = some (.int .i64 (A.getD j dPr).2) := by
  rcases h.2 with ⟨e, h2⟩ | ⟨g, cap, cur, e, hB, hg, hnc, hcm, hcs, htk⟩
  · omega
  · injection e with e1 e2 e3
    subst e1
    have hlt : g < w.heap.size := (Array.getElem?_eq_some_iff.1 hg).1
    have at' : ∀ i, i < A.length * 2 → w.cell? ⟨g, i, none⟩ = (cellsP A)[i]? := fun i hi => by
      simp only [World.cell?, hg]
      rw [← htk, List.getElem?_take, if_pos hi]
      simp
    obtain ⟨e1, e2⟩ := cellsP_at A j hj
    refine ⟨g, rfl, hB, hlt, ?_, ?_⟩
    · rw [at' _ (by omega)]; exact e1
    · rw [at' _ (by omega)]; exact e2
theorem OwnP.pairs {w : World} {B : Nat} {v : Value} {A : List Pr} (h : OwnP w B v A) (hl : A.length ≤ 17592186044416) (hA : InP A) : IsPairs w v A := by
  have h0 := h
  rcases h.2 with ⟨rfl, h2⟩ | ⟨g, cap, cur, rfl, hB, hg, hnc, hcm, hcs, htk⟩
  · have : A = [] := List.eq_nil_of_length_eq_zero h2
    subst this
    exact IsPairs.nil _
  · have hlt : g < w.heap.size := (Array.getElem?_eq_some_iff.1 hg).1
    unfold maxLen at hcm
    refine ⟨_, cap, rfl, ⟨hnc, fun h => by cases h⟩, hcm, hl, hA, g, 0, fun _ => ⟨rfl, hlt⟩, fun j hj => ?_⟩
    obtain ⟨g1, e, _, _, c1, c2⟩ := h0.cells hj
    have e2 : g = g1 := by
      have e3 := Option.some.inj e
      injection e3
    rw [← e2] at c1 c2
    simp only [Nat.zero_add]
    exact ⟨c1, c2⟩
/-- 'append(s, pair)' as a step of a region that draws its order. -/
theorem step_appPr {ops : Array Oper} {o : Oper} {a : Act} {w : World} {K : Act → World → Prop} {Q : Exit → Act → World → Prop} {E : Prop} (hgd : o.guard = none) (s x : Operand)
    (ho : o.op = .call { callee := .builtin .append, args := #[s, x], argTypes := #[23, 23] }) (B : Nat) (v : Value) (A : List Pr) (y : Pr) (g : Nat)
    (hs : a.eval s = v) (hx : a.eval x = .slice (some ⟨g, 0, none⟩) 1 1) (hrow : OwnP w B v A) (h0 : w.cell? ⟨g, 0, none⟩ = some (.int .i64 y.1)) (h1 : w.cell? ⟨g, 1, none⟩ = some (.int .i64 y.2)) (hlen : A.length < 4000000) (hB : B ≤ w.heap.size)
    (h : ∀ v' w', OwnP w' B v' (A ++ [y]) → w.grownBy w' v.ownBlock → K (a.put o.dst v') w') : if Region.wanted o (yielded ops a.tmps) = true then Oper.wp Tryz.prog o a w K Q else E := by
  have hw' : Region.wanted o (yielded ops a.tmps) = true := by simp [Region.wanted, hgd]
  rw [if_pos hw']
  obtain ⟨i0, hi, hz0, hz1, hz2⟩ := info_parts info_pr
  refine wp_append_own w s x 23 ho B 115 i0 (.agg #[.int .i64 0, .int .i64 0]) 2 16 Tryz.underlying23 hi hz0 hz1 hz2 rfl (by decide) v A.length _ hs hrow ⟨g, 0, none⟩ 1 1 [.int .i64 y.1, .int .i64 y.2] hx (by simp) (fun j z hj => by
    match j, hj with
    | 0, hj => simp at hj; subst hj; simpa [Addr.add] using h0
    | 1, hj => simp at hj; subst hj; simpa [Addr.add] using h1) (fun z hz => by
    rcases List.mem_cons.1 hz with hz | hz
    · rw [hz]; rfl
    · rw [List.mem_singleton] at hz
      rw [hz]; rfl) (by unfold maxLen; omega) (by omega) hB fun v' w' h2 h3 _ => h v' w' ?_ h3
  unfold OwnP
  rw [List.length_append, cellsP_app]
  exact h2
end Go.Proofs.YtppglbffmgnooaaGreat

/- slices.Clone of integers and of pairs. -/
namespace Go.Proofs.YtppglbffmgnooaaGreat
open Go.RowKit
set_option linter.unusedVariables false
set_option linter.unusedSimpArgs false

theorem own_built {w : World} {B : Nat} (hB : B ≤ w.heap.size) : Own (w.alloc (.cells #[] 3)) B (.slice (some ⟨w.heap.size, 0, none⟩) 0 0) [] :=
  ⟨rfl, .inr ⟨w.heap.size, 0, #[], rfl, hB, by unfold World.alloc; simp, Nat.le_refl _, by unfold maxLen; omega, rfl, rfl⟩⟩
set_option maxHeartbeats 800000 in
set_option maxRecDepth 100000 in
theorem gclone_any (v : Value) (l : List Int) (w : World) (H : IsInts w v l) : Calls Tryz.prog 93 #[v] w (RetOwn w l) := by
  have hl := H.len
  have H1 := H.below ((Below.refl w.heap.size w).alloc (Nat.le_refl _) (.cells #[] 3)) (Nat.le_refl _)
  obtain ⟨a, cap, rfl⟩ := H.shape
  cases a with
  | none =>
    have hn : l = [] ∧ cap = 0 := by
      obtain ⟨a', cap', e, hcp, _, _, _, b, off, ha, _⟩ := H
      injection e with e1 _ e3
      subst e1; subst e3
      refine ⟨?_, hcp.2 rfl⟩
      by_cases e : l = []
      · exact e
      · have := (ha e).1; cases this
    obtain ⟨rfl, rfl⟩ := hn
    have he : ∀ w : World, (binOp .eql 22 (.slice none 0 0) (.slice none 0 0)).run Tryz.prog w = .ok (.bool true) w := fun _ => rfl
    go_enter Tryz.func93, Tryz.ntmps93
    go_wp2
    go_ret
    exact ⟨_, rfl, Own.nil _ _, Below.refl _ _⟩
  | some p =>
    have he : ∀ w : World, (binOp .eql 22 (.slice (some p) l.length cap) (.slice none 0 0)).run Tryz.prog w = .ok (.bool false) w := fun _ => rfl
    go_enter Tryz.func93, Tryz.ntmps93
    go_wp2_with (at_builtin; refine wpList_app rfl (.tmp 5) (.tmp 6) rfl w.heap.size _ _ [] l rfl rfl (own_built (Nat.le_refl _)) H1 (by simp <;> omega) (by simp) ?_; intro v1 w1 hown1 hg1)
    go_ret
    exact ⟨_, rfl, hown1, below_app ((Below.refl _ _).alloc (Nat.le_refl _) _) (own_built (Nat.le_refl _)) (by simp) hg1⟩

theorem below_alloc1c (X : World) (o : Obj) : Below X.heap.size X (X.alloc o) := (Below.refl _ _).alloc (Nat.le_refl _) o
theorem ownP_built {w : World} {B : Nat} (hB : B ≤ w.heap.size) : OwnP (w.alloc (.cells #[] 115)) B (.slice (some ⟨w.heap.size, 0, none⟩) 0 0) [] :=
  ⟨rfl, .inr ⟨w.heap.size, 0, #[], rfl, hB, by unfold World.alloc; simp, Nat.le_refl _, by unfold maxLen; omega, rfl, rfl⟩⟩
/-- 'append(s, x...)', s the call's own, x whatever holds pairs. -/
theorem wpList_appPs {w : World} {ops : Array Oper} {rest : List Oper} {o : Oper} {a : Act} {Q : Exit → Act → World → Prop} (hgd : o.guard = none) (s x : Operand)
    (ho : o.op = .call { callee := .builtin .append, args := #[s, x], argTypes := #[23, 23] }) (B : Nat) (v u : Value) (A C : List Pr)
    (hs : a.eval s = v) (hx : a.eval x = u) (hown : OwnP w B v A) (hu : IsPairs w u C) (hlen : A.length + C.length ≤ 4000000) (hB : B ≤ w.heap.size)
    (h : ∀ v' w', OwnP w' B v' (A ++ C) → w.grownBy w' v.ownBlock → wpList Tryz.prog ops Q rest (a.put o.dst v') w') : wpList Tryz.prog ops Q (o :: rest) a w := by
  obtain ⟨i0, hi, hz0, hz1, hz2⟩ := info_parts info_pr
  obtain ⟨ad, cap, rfl, hcap, _, _, hin, b, off, ha, hc⟩ := hu
  cases ad with
  | none =>
    have hy : C = [] := by
      by_cases e : C = []
      · exact e
      · have := (ha e).1; cases this
    subst hy
    have hcap0 := hcap.2 rfl
    subst hcap0
    refine wpList_append_own_none hgd s x 23 ho B 115 i0 2 Tryz.underlying23 hi v A.length _ hs hown (by rw [hx]; rfl) ?_
    have := h v w (by rw [List.append_nil]; exact hown) (World.grownBy.refl _ _)
    exact this
  | some ad =>
    refine wpList_append_own _ hgd s x 23 ho B 115 i0 (.agg #[.int .i64 0, .int .i64 0]) 2 16 Tryz.underlying23 hi hz0 hz1 hz2 rfl (by decide) v A.length _ hs hown ad C.length cap (cellsP C) hx (cellsP_len C) ?_ ?_ (by unfold maxLen; omega) (by omega) hB ?_
    · intro j u hj
      have hlt : j < C.length * 2 := by have := (List.getElem?_eq_some_iff.1 hj).1; rw [cellsP_len] at this; exact this
      have hne : C ≠ [] := by intro e; simp [e] at hlt
      have e := Option.some.inj (ha hne).1
      subst e
      rw [Addr.add_lit]
      obtain ⟨q, hq | hq⟩ : ∃ q, j = q * 2 ∨ j = q * 2 + 1 := ⟨j / 2, by omega⟩
      · subst hq
        rw [(hc q (by omega)).1, ← hj, (cellsP_at C q (by omega)).1]
      · subst hq
        rw [show off + (q * 2 + 1) = off + q * 2 + 1 from by omega, (hc q (by omega)).2, ← hj, (cellsP_at C q (by omega)).2]
    · intro z hz
      unfold cellsP at hz
      obtain ⟨p, _, hp⟩ := List.mem_flatMap.1 hz
      rcases List.mem_cons.1 hp with hp | hp
      · rw [hp]; rfl
      · rw [List.mem_singleton] at hp; rw [hp]; rfl
    · intro v' w' h1 h2 _
      refine h v' w' ?_ h2
      unfold OwnP
      rw [List.length_append, cellsP_app]
      exact h1
def RetOwnP (w : World) (A : List Pr) (e : Ending) (w' : World) : Prop := ∃ v, e = .returned v ∧ OwnP w' w.heap.size v A ∧ Below w.heap.size w w'
set_option maxHeartbeats 800000 in
set_option maxRecDepth 100000 in
theorem gclonep_any (v : Value) (A : List Pr) (w : World) (H : IsPairs w v A) (hA : A.length ≤ 4000000) : Calls Tryz.prog 119 #[v] w (RetOwnP w A) := by
  have H1 := H.below ((Below.refl w.heap.size w).alloc (Nat.le_refl _) (.cells #[] 115)) (Nat.le_refl _)
  obtain ⟨a, cap, rfl, _⟩ := H.shape
  cases a with
  | none =>
    have hn : A = [] ∧ cap = 0 := by
      obtain ⟨a', cap', e, hcp, _, _, _, b, off, ha, _⟩ := H
      injection e with e1 _ e3
      subst e1; subst e3
      refine ⟨?_, hcp.2 rfl⟩
      by_cases e : A = []
      · exact e
      · have := (ha e).1; cases this
    obtain ⟨rfl, rfl⟩ := hn
    have he : ∀ w : World, (binOp .eql 23 (.slice none 0 0) (.slice none 0 0)).run Tryz.prog w = .ok (.bool true) w := fun _ => rfl
    go_enter Tryz.func119, Tryz.ntmps119
    go_wp2
    go_ret
    exact ⟨_, rfl, OwnP.nil _ _, Below.refl _ _⟩
  | some p =>
    have he : ∀ w : World, (binOp .eql 23 (.slice (some p) A.length cap) (.slice none 0 0)).run Tryz.prog w = .ok (.bool false) w := fun _ => rfl
    have HB := Lib.hid (below_alloc1c w (.cells #[] 115))
    go_enter Tryz.func119, Tryz.ntmps119
    go_wp2_with (at_builtin; refine wpList_appPs rfl (.tmp 5) (.tmp 6) rfl w.heap.size _ _ [] A rfl rfl (ownP_built (Nat.le_refl _)) H1 (by simp <;> omega) (by simp) ?_; intro v1 w1 hown1 hg1)
    go_ret
    exact ⟨_, rfl, hown1, HB.out.grown hg1 (by simp) (fun k e => ((ownP_built (Nat.le_refl w.heap.size)).lt k e).1)⟩
end Go.Proofs.YtppglbffmgnooaaGreat
