/- skolemref06.Same, aig.Same. -/
import Derived.Test.YtppglbffmgnooaaGreatA13
import Derived.Test.YtppglbffmgnooaaGreatCxRInts
namespace Go.Proofs.YtppglbffmgnooaaGreat
open Go.RowKit Go.Maps
set_option linter.unusedVariables false
set_option linter.unusedSimpArgs false
attribute [local go_sem] equal_pr guard_pr drew_cellq drew_frozenq

/-- Are two graphs equal? -/
def sameA (I : List Int) (A : List Pr) (J : List Int) (C : List Pr) : Bool := sameB I J && decide (A = C)
theorem two_boxes (w : World) (a b c d : Value) : Below w.heap.size w ((w.alloc (.cells #[a, b] 25)).alloc (.cells #[c, d] 25)) ∧
    (((w.alloc (.cells #[a, b] 25)).alloc (.cells #[c, d] 25)).cell? ⟨w.heap.size, 0, none⟩ = some a ∧ ((w.alloc (.cells #[a, b] 25)).alloc (.cells #[c, d] 25)).cell? ⟨w.heap.size, 1, none⟩ = some b) ∧
    (((w.alloc (.cells #[a, b] 25)).alloc (.cells #[c, d] 25)).cell? ⟨w.heap.size + 1, 0, none⟩ = some c ∧ ((w.alloc (.cells #[a, b] 25)).alloc (.cells #[c, d] 25)).cell? ⟨w.heap.size + 1, 1, none⟩ = some d) := by
  have hb1 := below_alloc1 w (.cells #[a, b] 25)
  have hb2 := below_alloc1 (w.alloc (.cells #[a, b] 25)) (.cells #[c, d] 25)
  refine ⟨hb1.trans (hb2.mono hb1.size), ⟨cell_old (cell_fresh rfl), cell_old (cell_fresh rfl)⟩, cell_fresh2 rfl, cell_fresh2 rfl⟩
set_option maxRecDepth 100000 in
set_option maxHeartbeats 3200000 in
theorem rsame6_any (vi va vj vc : Value) (I : List Int) (A : List Pr) (J : List Int) (C : List Pr) (w : World) (HI : IsInts w vi I) (HA : IsPairs w va A) (HJ : IsInts w vj J) (HC : IsPairs w vc C) :
    Calls Tryz.prog 25 #[.agg #[vi, va], .agg #[vj, vc]] w fun r w' => r = .returned (.bool (sameA I A J C)) ∧ Below w.heap.size w w' := by
  obtain ⟨hb0, ⟨p0, p1⟩, q0, q1⟩ := two_boxes w vi va vj vc
  have HI1 := Lib.hid (HI.below hb0 (Nat.le_refl _))
  have HA1 := Lib.hid (HA.below hb0 (Nat.le_refl _))
  have HJ1 := Lib.hid (HJ.below hb0 (Nat.le_refl _))
  have HC1 := Lib.hid (HC.below hb0 (Nat.le_refl _))
  obtain ⟨ia, ic, rfl⟩ := HI.shape
  obtain ⟨aa, ac, rfl, hla⟩ := HA.shape
  obtain ⟨ja, jc, rfl⟩ := HJ.shape
  obtain ⟨ca, cc, rfl, hlc⟩ := HC.shape
  clear HI HA HJ HC
  go_enter Tryz.func25, Tryz.ntmps25
  go_upto_region 1 with fail
  generalize World.alloc (World.alloc w _) _ = W at *
  have HB0 := Lib.hid hb0
  have HIN := Lib.hid (ints5_any _ _ I J W HI1.out HJ1.out)
  have HE : Hid (sameA I A J C = (sameB I J && decide (A = C))) := rfl
  clear hb0
  cases hi : sameB I J with
  | false =>
    rw [hi] at HIN HE
    go_wp2_with (go_at_call 26; go_loud (refine HIN.out.mono ?_; rintro e w1 ⟨rfl, hq⟩; have HQ := Lib.hid hq; clear hq))
    go_ret
    exact ⟨ret_bool (by rw [HE.out]; rfl), HB0.out.trans (HQ.out.below _)⟩
  | true =>
    rw [hi] at HIN HE
    rw [Bool.true_and] at HE
    clear hi
    by_cases hl : A.length = C.length
    · have HL := Lib.hid hl
      have hne : ((A.length : Int) != (C.length : Int)) = false := by simp [hl]
      clear hl
      go_upto_region 3 with (go_at_call 26; go_loud (refine HIN.out.mono ?_; rintro e w1 ⟨rfl, hq⟩; have HQ := Lib.hid hq; have hbq := hq.below W.heap.size; have p0' := (hq.cell _).trans p0; have p1' := (hq.cell _).trans p1; have q1' := (hq.cell _).trans q1; clear hq))
      clear p0 p1 q0 q1 p0' hbq
      go_wp2
      go_loopw [5] (fun s5 wr => ∃ k : Nat, k ≤ A.length ∧ s5 = .int .i64 k ∧ Quiet w1 wr ∧ Hid (A.take k = C.take k)) (fun s5 _ => A.length - (intOf s5).toNat)
      case atStart => exact ⟨0, Nat.zero_le _, rfl, Quiet.refl _, by show _ = _; simp⟩
      case round =>
        obtain ⟨k, hk, rfl, hq, HN⟩ := hrel
        have HQR := Lib.hid hq
        have r1 := (hq.cell _).trans p1'
        have s1 := (hq.cell _).trans q1'
        by_cases hlt : k < A.length
        · have hlt2 : k < C.length := by rw [← HL.out]; exact hlt
          obtain ⟨b, off, rfl, hb, hx0, hy0⟩ := HA1.out.at hlt
          obtain ⟨b2, off2, rfl, hb2, hx1, hy1⟩ := HC1.out.at hlt2
          have cx := (hq.cell _).trans ((HQ.out.cell _).trans hx0)
          have cy := (hq.cell _).trans ((HQ.out.cell _).trans hy0)
          have dx := (hq.cell _).trans ((HQ.out.cell _).trans hx1)
          have dy := (hq.cell _).trans ((HQ.out.cell _).trans hy1)
          have HT := Lib.hid (take_pr hlt)
          have HU := Lib.hid (take_pr hlt2)
          have HNE : Hid (A.getD k dPr ≠ C.getD k dPr → A ≠ C) := fun h e => h (by rw [e])
          clear hx0 hy0 hx1 hy1 hq
          generalize A.getD k dPr = x at *
          generalize C.getD k dPr = y at *
          obtain ⟨x1, x2⟩ := x
          obtain ⟨y1, y2⟩ := y
          simp only at cx cy dx dy
          have hkb : k ≤ 17592186044416 := by omega
          by_cases hxy : x1 = y1 ∧ x2 = y2
          · obtain ⟨rfl, rfl⟩ := hxy
            go_wp2_with fail
            go_quiet (fail)
            have HQ2 := Lib.hid (HQR.out.drewN nq)
            generalize wr.drewN nq = wq at *
            go_wp2_with fail
            go_roundw
            case rel => exact ⟨k + 1, by omega, by go_num, HQ2.out, by show _ = _; rw [HT.out, HU.out, HN.out]⟩
            case measure => simp [intOf]; omega
          · have hd : (x1 == y1 && x2 == y2) = false := by
              rw [Bool.and_eq_false_iff]
              by_cases e : x1 = y1
              · exact .inr (by simpa using fun e2 => hxy ⟨e, e2⟩)
              · exact .inl (by simpa using e)
            have HF : Hid (sameA I A J C = false) := by
              show _ = _
              rw [HE.out, decide_eq_false_iff_not]
              exact HNE.out (fun e => by injection e with e1 e2; exact hxy ⟨e1, e2⟩)
            go_wp2_with fail
            go_quiet (fail)
            have HQ2 := Lib.hid (HQR.out.drewN nq)
            generalize wr.drewN nq = wq at *
            go_wp2_with fail
            go_ret
            exact ⟨ret_bool HF.out.symm, HB0.out.trans ((HQ.out.trans HQ2.out).below _)⟩
        · have HF : Hid (sameA I A J C = true) := by
            show _ = _
            rw [HE.out, decide_eq_true_eq]
            have h := HN.out
            rw [List.take_of_length_le (by omega), List.take_of_length_le (by have := HL.out; omega)] at h
            exact h
          clear hq
          go_wp2
          go_ret
          exact ⟨ret_bool HF.out.symm, HB0.out.trans ((HQ.out.trans HQR.out).below _)⟩
    · have hne : ((A.length : Int) != (C.length : Int)) = true := by simp; omega
      have HE2 : Hid (sameA I A J C = false) := by show _ = _; rw [HE.out]; exact decide_eq_false (fun e => hl (by rw [e]))
      clear hl
      go_wp2_with (go_at_call 26; go_loud (refine HIN.out.mono ?_; rintro e w1 ⟨rfl, hq⟩; have HQ := Lib.hid hq; have p1' := (hq.cell _).trans p1; have q1' := (hq.cell _).trans q1; clear hq))
      go_ret
      exact ⟨ret_bool HE2.out.symm, HB0.out.trans (HQ.out.below _)⟩
end Go.Proofs.YtppglbffmgnooaaGreat
