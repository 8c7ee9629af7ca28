/- Joined texts: CxSameG, CxSameN, CxRSame, CxRAbs, CxRSameG, CxRSameN, CxRVars. -/
import Derived.Test.YticcikelapifaaaK04
import Derived.Test.YticcikelapifaaaK16
/- circ.Same; slices.EqualFunc over gates. -/
namespace Go.Proofs.Yticcikelapifaaa
open Go.RowKit Go.Maps
set_option linter.unusedVariables false
set_option linter.unusedSimpArgs false

set_option maxHeartbeats 800000 in
set_option maxRecDepth 100000 in
theorem pair_gate (x y x0 y0 : Int) (u v : Value) (l m : List Int) (w : World) (H : IsInts w u l) (K : IsInts w v m) :
    Calls Try.prog 53 #[.agg #[.int .i64 x, .int .u8 x0, u], .agg #[.int .i64 y, .int .u8 y0, v]] w fun e w' => e = .returned (.bool (decide (x = y) && decide (x0 = y0) && sameB l m)) ∧ Below w.heap.size w w' := by
  obtain ⟨a1, c1, rfl⟩ := H.shape
  obtain ⟨a2, c2, rfl⟩ := K.shape
  have he : ∀ W, Below w.heap.size w W → Calls Try.prog 52 #[.slice a1 l.length c1, .slice a2 m.length c2] W (fun e w' => e = .returned (.bool (sameB l m)) ∧ Below w.heap.size w w') := fun W hW =>
    (equal_any _ _ l m W (H.below hW (Nat.le_refl _)) (K.below hW (Nat.le_refl _))).mono fun e w' h => ⟨h.1, hW.trans (h.2.below _)⟩
  have HE := Lib.hid he
  have hb2 := ((Below.refl w.heap.size w).alloc (Nat.le_refl _) (.cells #[.int .i64 x, .int .u8 x0, .slice a1 l.length c1] 71)).alloc (by simp) (.cells #[.int .i64 y, .int .u8 y0, .slice a2 m.length c2] 71)
  have HB := Lib.hid hb2
  clear he hb2 H K
  generalize sameB l m = s at *
  by_cases hxy : x = y
  · subst hxy
    have hx1 : (x == x) = true := by simp
    by_cases hk : x0 = y0
    · subst hk
      have hk1 : (x0 == x0) = true := by simp
      go_enter Try.func53, Try.ntmps53
      go_wp2_with (go_at_call 52; refine (HE.out _ HB.out).mono ?_; rintro e w1 ⟨rfl, hb1⟩)
      go_ret
      exact ⟨ret_bool (by simp), hb1⟩
    · have hk1 : (x0 == y0) = false := by simpa using hk
      have HR : Hid ((decide (x = x) && decide (x0 = y0) && s) = false) := by show _ = _; simp [hk]
      clear hk
      go_enter Try.func53, Try.ntmps53
      go_wp2_with fail
      go_ret
      exact ⟨ret_bool HR.out.symm, HB.out⟩
  · have hx1 : (x == y) = false := by simpa using hxy
    have HR : Hid ((decide (x = y) && decide (x0 = y0) && s) = false) := by show _ = _; simp [hxy]
    clear hxy
    go_enter Try.func53, Try.ntmps53
    go_wp2_with fail
    go_ret
    exact ⟨ret_bool HR.out.symm, HB.out⟩

set_option maxHeartbeats 1600000 in
set_option maxRecDepth 100000 in
theorem eqf_gate (v u : Value) (l m : List Gt) (w : World) (H : IsGates w v l) (K : IsGates w u m) :
    Calls Try.prog 55 #[v, u, .func (.func 53) #[] #[]] w fun e w' => e = .returned (.bool (sameB l m)) ∧ Below w.heap.size w w' := by
  obtain ⟨a, cap, rfl, hl⟩ := H.shape
  obtain ⟨a2, cap2, rfl, hl2⟩ := K.shape
  by_cases hlen : l.length = m.length
  · have hne : ((l.length : Int) != (m.length : Int)) = false := by simp [hlen]
    have HL := Lib.hid hlen
    have HH := Lib.hid H
    have HK := Lib.hid K
    clear hlen H K
    go_enter Try.func55, Try.ntmps55
    go_wp2
    go_loopw [17] (fun i wr => ∃ k : Nat, k ≤ l.length ∧ i = .int .i64 k ∧ Below w.heap.size w wr ∧ l.take k = m.take k) (fun i _ => l.length - (intOf i).toNat)
    case atStart => exact ⟨0, Nat.zero_le _, rfl, Below.refl _ _, by simp⟩
    case round =>
      obtain ⟨k, hk, rfl, hq, hn⟩ := hrel
      have HN := Lib.hid hn
      have hsz := hq.size
      clear hn
      by_cases hlt : k < l.length
      · have hlt2 : k < m.length := by rw [← HL.out]; exact hlt
        obtain ⟨b, off, u1, rfl, hb, hx0, hxk0, hu0, HU0, _⟩ := HH.out.at hlt
        obtain ⟨b2, off2, u2, rfl, hb2, hy0, hyk0, hv0, HV0, _⟩ := HK.out.at hlt2
        have hcx := (hq.cell (p := ⟨b, off + k * 3, none⟩) hb).trans hx0
        have hck := (hq.cell (p := ⟨b, off + k * 3 + 1, none⟩) hb).trans hxk0
        have hcu := (hq.cell (p := ⟨b, off + k * 3 + 2, none⟩) hb).trans hu0
        have hcy := (hq.cell (p := ⟨b2, off2 + k * 3, none⟩) hb2).trans hy0
        have hcj := (hq.cell (p := ⟨b2, off2 + k * 3 + 1, none⟩) hb2).trans hyk0
        have hcv := (hq.cell (p := ⟨b2, off2 + k * 3 + 2, none⟩) hb2).trans hv0
        have HT := Lib.hid (gates_take hlt)
        have HT2 := Lib.hid (gates_take hlt2)
        have HNE := Lib.hid (show l.getD k dG ≠ m.getD k dG → l ≠ m from fun h e => h (by rw [e]))
        have hc := fun (W : World) (h : Below wr.heap.size wr W) => pair_gate (l.getD k dG).1 (m.getD k dG).1 (l.getD k dG).2.1 (m.getD k dG).2.1 u1 u2 (l.getD k dG).2.2 (m.getD k dG).2.2 W ((HU0.below hq (Nat.le_refl _)).below h (Nat.le_refl _)) ((HV0.below hq (Nat.le_refl _)).below h (Nat.le_refl _))
        have HU := HU0.below hq (Nat.le_refl _)
        have HV := HV0.below hq (Nat.le_refl _)
        generalize l.getD k dG = y at *
        generalize m.getD k dG = z at *
        obtain ⟨y1, y0, y2⟩ := y
        obtain ⟨z1, z0, z2⟩ := z
        simp only at hcx hck hcu hcy hcj hcv hc HU HV
        obtain ⟨ua, uc, rfl⟩ := HU.shape
        obtain ⟨va, vc, rfl⟩ := HV.shape
        have hb2r : b2 < wr.heap.size := Nat.lt_of_lt_of_le hb2 hsz
        have hcy1 := (((Below.refl wr.heap.size wr).alloc (Nat.le_refl _) (.cells #[.int .i64 y1, .int .u8 y0, .slice ua y2.length uc] 71)).cell (p := ⟨b2, off2 + k * 3, none⟩) hb2r).trans hcy
        have hcj1 := (((Below.refl wr.heap.size wr).alloc (Nat.le_refl _) (.cells #[.int .i64 y1, .int .u8 y0, .slice ua y2.length uc] 71)).cell (p := ⟨b2, off2 + k * 3 + 1, none⟩) hb2r).trans hcj
        have hcv1 := (((Below.refl wr.heap.size wr).alloc (Nat.le_refl _) (.cells #[.int .i64 y1, .int .u8 y0, .slice ua y2.length uc] 71)).cell (p := ⟨b2, off2 + k * 3 + 2, none⟩) hb2r).trans hcv
        have HEQ : Hid ((decide (y1 = z1) && decide (y0 = z0) && sameB y2 z2) = true ↔ (y1, y0, y2) = (z1, z0, z2)) := by
          show _ ↔ _
          unfold sameB
          rw [Bool.and_eq_true, Bool.and_eq_true, decide_eq_true_eq, decide_eq_true_eq, decide_eq_true_eq, Prod.mk.injEq, Prod.mk.injEq, and_assoc]
        have hba := ((Below.refl wr.heap.size wr).alloc (Nat.le_refl _) (.cells #[.int .i64 y1, .int .u8 y0, .slice ua y2.length uc] 71)).alloc (by simp) (.cells #[.int .i64 z1, .int .u8 z0, .slice va z2.length vc] 71)
        have HBA := Lib.hid hba
        have HC := Lib.hid hc
        have HQ := Lib.hid hq
        clear hc hba hq HU HV HU0 HV0 hx0 hu0 hy0 hv0 hxk0 hyk0
        generalize (decide (y1 = z1) && decide (y0 = z0) && sameB y2 z2) = t at *
        cases t with
        | true =>
          have HE : Hid ((y1, y0, y2) = (z1, z0, z2)) := HEQ.out.1 rfl
          go_wp2_with (go_at_call 53; refine (HC.out _ HBA.out).mono ?_; rintro e w1 ⟨rfl, hb1⟩)
          have HB1 := Lib.hid (HQ.out.trans ((HBA.out.trans (hb1.mono HBA.out.size)).mono hsz))
          go_roundw
          case rel => exact ⟨k + 1, by omega, by go_num, HB1.out, by rw [HT.out, HT2.out, HN.out, HE.out]⟩
          case measure => simp [intOf]; omega
        | false =>
          have HLM : Hid (sameB l m = false) := by
            show _ = _
            unfold sameB
            rw [decide_eq_false_iff_not]
            exact HNE.out fun h => by have := HEQ.out.2 h; cases this
          go_wp2_with (go_at_call 53; refine (HC.out _ HBA.out).mono ?_; rintro e w1 ⟨rfl, hb1⟩)
          have HB1 := Lib.hid (HQ.out.trans ((HBA.out.trans (hb1.mono HBA.out.size)).mono hsz))
          go_ret
          exact ⟨ret_bool HLM.out.symm, HB1.out⟩
      · have HE : Hid (sameB l m = true) := by
          have h := HN.out
          rw [List.take_of_length_le (by omega), List.take_of_length_le (by rw [← HL.out]; omega)] at h
          show _ = _; unfold sameB; simp [h]
        go_wp2
        go_ret
        exact ⟨ret_bool HE.out.symm, hq⟩
  · have hne : ((l.length : Int) != (m.length : Int)) = true := by simp; omega
    have HE : Hid (sameB l m = false) := by show _ = _; unfold sameB; rw [decide_eq_false_iff_not]; intro h; exact hlen (by rw [h])
    clear hlen
    go_enter Try.func55, Try.ntmps55
    go_wp2
    go_ret
    exact ⟨ret_bool HE.out.symm, Below.refl _ _⟩


end Go.Proofs.Yticcikelapifaaa

/- circ.Same. -/
namespace Go.Proofs.Yticcikelapifaaa
open Go.RowKit Go.Maps
set_option linter.unusedVariables false
set_option linter.unusedSimpArgs false

/-- Two nets are one. -/
def sameN (P : List Blk) (gs : List Gt) (o : Int) (P2 : List Blk) (gs2 : List Gt) (o2 : Int) : Bool := sameB P P2 && (sameB gs gs2 && decide (o = o2))
set_option maxHeartbeats 1600000 in
set_option maxRecDepth 100000 in
theorem csame_any (vp vg vp2 vg2 : Value) (o o2 : Int) (P P2 : List Blk) (gs gs2 : List Gt) (w : World) (HP : IsBlocks w vp P) (HG : IsGates w vg gs) (HP2 : IsBlocks w vp2 P2) (HG2 : IsGates w vg2 gs2) :
    Calls Try.prog 17 #[.agg #[vp, vg, .int .i64 o], .agg #[vp2, vg2, .int .i64 o2]] w fun e w' => e = .returned (.bool (sameN P gs o P2 gs2 o2)) ∧ Below w.heap.size w w' := by
  obtain ⟨pa, pc, rfl, _⟩ := HP.shape
  obtain ⟨ga, gc, rfl, _⟩ := HG.shape
  obtain ⟨pa2, pc2, rfl, _⟩ := HP2.shape
  obtain ⟨ga2, gc2, rfl, _⟩ := HG2.shape
  obtain ⟨W0, hW0⟩ : ∃ W0, (w.alloc (.cells #[.slice pa P.length pc, .slice ga gs.length gc, .int .i64 o] 25)).alloc (.cells #[.slice pa2 P2.length pc2, .slice ga2 gs2.length gc2, .int .i64 o2] 25) = W0 := ⟨_, rfl⟩
  have hb0 : Below w.heap.size w W0 := by rw [← hW0]; exact ((Below.refl _ _).alloc (Nat.le_refl _) _).alloc (by simp) _
  have b0 : W0.heap[w.heap.size]? = some (.cells #[.slice pa P.length pc, .slice ga gs.length gc, .int .i64 o] 25 (0, 0)) := by rw [← hW0]; (repeat (first | (refine heap_hit ?_; first | omega | (simp only [World.size_alloc] <;> omega)) | (refine heap_skip ?_ ?_; (first | omega | (simp only [World.size_alloc] <;> omega)))))
  have b1 : W0.heap[w.heap.size + 1]? = some (.cells #[.slice pa2 P2.length pc2, .slice ga2 gs2.length gc2, .int .i64 o2] 25 (0, 0)) := by rw [← hW0]; (repeat (first | (refine heap_hit ?_; first | omega | (simp only [World.size_alloc] <;> omega)) | (refine heap_skip ?_ ?_; (first | omega | (simp only [World.size_alloc] <;> omega)))))
  have hs0 : W0.heap.size = w.heap.size + 2 := by rw [← hW0]; simp
  have HXC : Hid (∀ X, Below W0.heap.size W0 X → BoxN X w.heap.size (.slice pa P.length pc) (.slice ga gs.length gc) o ∧ BoxN X (w.heap.size + 1) (.slice pa2 P2.length pc2) (.slice ga2 gs2.length gc2) o2) := fun X hX => by
    have h1 := (hX.block _ (by omega)).trans b0
    have h2 := (hX.block _ (by omega)).trans b1
    exact ⟨⟨block_cell h1 rfl, block_cell h1 rfl, block_cell h1 rfl⟩, block_cell h2 rfl, block_cell h2 rfl, block_cell h2 rfl⟩
  have HEP := Lib.hid (eqf_blk _ _ P P2 W0 (HP.below hb0 (Nat.le_refl _)) (HP2.below hb0 (Nat.le_refl _)))
  have HEG : Hid (∀ X, Below W0.heap.size W0 X → Calls Try.prog 55 #[.slice ga gs.length gc, .slice ga2 gs2.length gc2, .func (.func 53) #[] #[]] X fun e w' => e = .returned (.bool (sameB gs gs2)) ∧ Below X.heap.size X w') := fun X hX =>
    eqf_gate _ _ gs gs2 X (HG.below (hb0.trans (hX.mono hb0.size)) (Nat.le_refl _)) (HG2.below (hb0.trans (hX.mono hb0.size)) (Nat.le_refl _))
  have HB0 := Lib.hid hb0
  have HW0 := Lib.hid hW0
  have HR : Hid (sameN P gs o P2 gs2 o2 = (sameB P P2 && (sameB gs gs2 && decide (o = o2)))) := rfl
  generalize sameN P gs o P2 gs2 o2 = rr at *
  generalize sameB P P2 = s1 at *
  generalize sameB gs gs2 = s2 at *
  clear hW0 hb0 b0 b1 hs0 HP HG HP2 HG2
  cases s1 with
  | false =>
    go_enter Try.func17, Try.ntmps17
    go_upto_region 3 with fail
    rw [HW0.out]
    obtain ⟨⟨p0, p1, p2⟩, q0, q1, q2⟩ := HXC.out W0 (Below.refl _ _)
    go_wp2_with (go_at_call 54; refine HEP.out.mono ?_; rintro e w1 ⟨rfl, hb1⟩; have HB1 := Lib.hid hb1; clear hb1 p0 p1 p2 q0 q1 q2; obtain ⟨⟨p0, p1, p2⟩, q0, q1, q2⟩ := HXC.out w1 HB1.out)
    go_ret
    exact ⟨ret_bool (by rw [HR.out]; rfl), HB0.out.trans (HB1.out.mono HB0.out.size)⟩
  | true =>
    cases s2 with
    | false =>
      go_enter Try.func17, Try.ntmps17
      go_upto_region 3 with fail
      rw [HW0.out]
      obtain ⟨⟨p0, p1, p2⟩, q0, q1, q2⟩ := HXC.out W0 (Below.refl _ _)
      go_wp2_with (first
        | (go_at_call 54; refine HEP.out.mono ?_; rintro e w1 ⟨rfl, hb1⟩; have HB1 := Lib.hid hb1; clear hb1 p0 p1 p2 q0 q1 q2; obtain ⟨⟨p0, p1, p2⟩, q0, q1, q2⟩ := HXC.out w1 HB1.out)
        | (go_at_call 55; refine (HEG.out w1 HB1.out).mono ?_; rintro e w2 ⟨rfl, hb2⟩; have HB2 := Lib.hid (HB1.out.trans (hb2.mono HB1.out.size)); clear hb2 p0 p1 p2 q0 q1 q2; obtain ⟨⟨p0, p1, p2⟩, q0, q1, q2⟩ := HXC.out w2 HB2.out))
      go_ret
      exact ⟨ret_bool (by rw [HR.out]; rfl), HB0.out.trans (HB2.out.mono HB0.out.size)⟩
    | true =>
      have hoo : (o == o2) = decide (o = o2) := by rw [Bool.eq_iff_iff]; simp
      generalize decide (o = o2) = t at *
      go_enter Try.func17, Try.ntmps17
      go_upto_region 3 with fail
      rw [HW0.out]
      obtain ⟨⟨p0, p1, p2⟩, q0, q1, q2⟩ := HXC.out W0 (Below.refl _ _)
      go_wp2_with (first
        | (go_at_call 54; refine HEP.out.mono ?_; rintro e w1 ⟨rfl, hb1⟩; have HB1 := Lib.hid hb1; clear hb1 p0 p1 p2 q0 q1 q2; obtain ⟨⟨p0, p1, p2⟩, q0, q1, q2⟩ := HXC.out w1 HB1.out)
        | (go_at_call 55; refine (HEG.out w1 HB1.out).mono ?_; rintro e w2 ⟨rfl, hb2⟩; have HB2 := Lib.hid (HB1.out.trans (hb2.mono HB1.out.size)); clear hb2 p0 p1 p2 q0 q1 q2; obtain ⟨⟨p0, p1, p2⟩, q0, q1, q2⟩ := HXC.out w2 HB2.out))
      go_ret
      exact ⟨ret_bool (by rw [HR.out]; simp), HB0.out.trans (HB2.out.mono HB0.out.size)⟩
end Go.Proofs.Yticcikelapifaaa

/- The reference's SamePrefix (layer 5). -/
namespace Go.Proofs.Yticcikelapifaaa
open Go.RowKit Go.Maps
set_option linter.unusedVariables false
set_option linter.unusedSimpArgs false

set_option maxHeartbeats 1600000 in
set_option maxRecDepth 100000 in
theorem rsamep5_any (v u : Value) (l m : List (Bool × List Int)) (w : World) (H : IsBlocks w v l) (K : IsBlocks w u m) :
    Calls Try.prog 56 #[v, u] w fun e w' => e = .returned (.bool (sameB l m)) ∧ Quiet w w' := by
  obtain ⟨a, cap, rfl, hl⟩ := H.shape
  obtain ⟨a2, cap2, rfl, hl2⟩ := K.shape
  by_cases hlen : l.length = m.length
  · have hne : ((l.length : Int) != (m.length : Int)) = false := by simp [hlen]
    have HL := Lib.hid hlen
    clear hlen
    go_enter Try.func56, Try.ntmps56
    go_wp2
    go_loopw [5] (fun i wr => ∃ k : Nat, k ≤ l.length ∧ i = .int .i64 k ∧ Quiet w wr ∧ l.take k = m.take k) (fun i _ => l.length - (intOf i).toNat)
    case atStart => exact ⟨0, Nat.zero_le _, rfl, Quiet.refl _, by simp⟩
    case round =>
      obtain ⟨k, hk, rfl, hq, hn⟩ := hrel
      have HN := Lib.hid hn
      clear hn
      by_cases hlt : k < l.length
      · have hlt2 : k < m.length := by rw [← HL.out]; exact hlt
        obtain ⟨b, off, u1, rfl, hb, hx0, hu0, HU0⟩ := H.at hlt
        obtain ⟨b2, off2, u2, rfl, hb2, hy0, hv0, HV0⟩ := K.at hlt2
        have hcx := (hq.cell _).trans hx0
        have hcu := (hq.cell _).trans hu0
        have hcy := (hq.cell _).trans hy0
        have hcv := (hq.cell _).trans hv0
        have HT := Lib.hid (take_two (d := (false, ([] : List Int))) hlt)
        have HT2 := Lib.hid (take_two (d := (false, ([] : List Int))) hlt2)
        have HNE := Lib.hid (show l.getD k (false, ([] : List Int)) ≠ m.getD k (false, ([] : List Int)) → l ≠ m from fun h e => h (by rw [e]))
        have hc := fun n => ints5_any u1 u2 _ _ (wr.drewN n) ((HU0.quiet hq).drewN n) ((HV0.quiet hq).drewN n)
        generalize l.getD k (false, ([] : List Int)) = y at *
        generalize m.getD k (false, ([] : List Int)) = z at *
        obtain ⟨y1, y2⟩ := y
        obtain ⟨z1, z2⟩ := z
        simp only at hcx hcu hcy hcv hc
        clear hx0 hu0 hy0 hv0 HU0 HV0
        by_cases h1 : y1 = z1
        · subst h1
          have hyy : (y1 != y1) = false := by simp
          by_cases he : y2 = z2
          · have hs : sameB y2 z2 = true := by unfold sameB; simp [he]
            have HE := Lib.hid he
            clear he
            go_wp2_with fail
            go_quiet ((go_at_call 19; exact quiet_q (hc _)))
            go_wp2
            go_roundw
            case rel => exact ⟨k + 1, by omega, by go_num, hq.drewN _, by rw [HT.out, HT2.out, HN.out, HE.out]⟩
            case measure => simp [intOf]; omega
          · have hs : sameB y2 z2 = false := by unfold sameB; simp [he]
            have HLM : Hid (sameB l m = false) := by show _ = _; unfold sameB; rw [decide_eq_false_iff_not]; exact HNE.out fun h => he (Prod.mk.inj h).2
            clear he
            go_wp2_with fail
            go_quiet ((go_at_call 19; exact quiet_q (hc _)))
            go_wp2
            go_ret
            exact ⟨ret_bool HLM.out.symm, hq.drewN _⟩
        · have HLM : Hid (sameB l m = false) := by show _ = _; unfold sameB; rw [decide_eq_false_iff_not]; exact HNE.out fun h => h1 (Prod.mk.inj h).1
          have h2 : (y1 = true ∧ z1 = false) ∨ (y1 = false ∧ z1 = true) := by cases y1 <;> cases z1 <;> simp at h1 ⊢
          clear h1 hc HNE
          rcases h2 with ⟨rfl, rfl⟩ | ⟨rfl, rfl⟩
          · go_wp2_with fail
            go_quiet (fail)
            go_wp2
            go_ret
            exact ⟨ret_bool HLM.out.symm, hq.drewN _⟩
          · go_wp2_with fail
            go_quiet (fail)
            go_wp2
            go_ret
            exact ⟨ret_bool HLM.out.symm, hq.drewN _⟩
      · have HE : Hid (sameB l m = true) := by
          have h := HN.out
          rw [List.take_of_length_le (by omega), List.take_of_length_le (by rw [← HL.out]; omega)] at h
          show _ = _; unfold sameB; simp [h]
        go_wp2
        go_ret
        exact ⟨ret_bool HE.out.symm, hq⟩
  · have hne : ((l.length : Int) != (m.length : Int)) = true := by simp; omega
    have HE : Hid (sameB l m = false) := by show _ = _; unfold sameB; rw [decide_eq_false_iff_not]; intro h; exact hlen (by rw [h])
    clear hlen
    go_enter Try.func56, Try.ntmps56
    go_wp2
    go_ret
    exact ⟨ret_bool HE.out.symm, Quiet.refl _⟩

end Go.Proofs.Yticcikelapifaaa

/- The reference's Abs, variable, In; the law's many (layer 5). -/
namespace Go.Proofs.Yticcikelapifaaa
open Go.RowKit Go.Maps
set_option linter.unusedVariables false
set_option linter.unusedSimpArgs false

/-- The variable of a number: its size; 0 for the least integer. -/
def abs5 (x : Int) : Int := if x < 0 then (if x = -9223372036854775808 then 0 else -x) else x
set_option maxRecDepth 100000 in
theorem abs5_any (x : Int) (w : World) (h1 : -9223372036854775808 ≤ x) (h2 : x ≤ 9223372036854775807) :
    Calls Try.prog 38 #[.int .i64 x] w fun e w' => e = .returned (.int .i64 (abs5 x)) ∧ w = w' := by
  by_cases hx : x < 0
  · by_cases hm : x = -9223372036854775808
    · subst hm
      have hw0 : wrap64 9223372036854775808 = -9223372036854775808 := by unfold wrap64; rfl
      have hmx : max (0 : Int) (-9223372036854775808) = 0 := by decide
      go_enter Try.func38, Try.ntmps38
      go_wp2
      go_ret
      exact ⟨ret_int (by simp [abs5]), rfl⟩
    · have he : abs5 x = -x := by unfold abs5; rw [if_pos hx, if_neg hm]
      have HE := Lib.hid he
      have hwr : wrap64 (-x) = -x := by unfold wrap64; omega
      have hmx : max 0 (-x) = -x := by omega
      clear he hm
      go_enter Try.func38, Try.ntmps38
      go_wp2
      go_ret
      exact ⟨ret_int (by rw [HE.out]), rfl⟩
  · have he : abs5 x = x := by unfold abs5; rw [if_neg hx]
    have HE := Lib.hid he
    clear he
    go_enter Try.func38, Try.ntmps38
    go_wp2
    go_ret
    exact ⟨ret_int (by rw [HE.out]), rfl⟩
def varB (x : Int) : Bool := decide (1 ≤ x) && decide (x ≤ 65536)
theorem vari5_any (x : Int) (w : World) : Calls Try.prog 49 #[.int .i64 x] w fun e w' => e = .returned (.bool (varB x)) ∧ w = w' := by
  by_cases hx : 1 ≤ x
  · have hd : decide (1 ≤ x) = true := by simpa using hx
    have HR : Hid (varB x = decide (x ≤ 65536)) := by show _ = _; unfold varB; rw [hd]; rfl
    go_enter Try.func49, Try.ntmps49
    go_wp2
    go_ret
    exact ⟨ret_bool HR.out.symm, rfl⟩
  · have hd : decide (1 ≤ x) = false := by simpa using hx
    have HR : Hid (varB x = false) := by show _ = _; unfold varB; rw [hd]; rfl
    go_enter Try.func49, Try.ntmps49
    go_wp2
    go_ret
    exact ⟨ret_bool HR.out.symm, rfl⟩
set_option maxHeartbeats 400000 in
theorem in5_any (v : Value) (l : List Int) (x : Int) (w : World) (H : IsInts w v l) (hx1 : -9223372036854775808 ≤ x) (hx2 : x ≤ 9223372036854775807) :
    Calls Try.prog 37 #[v, .int .i64 x] w fun e w' => e = .returned (.bool (memB l x)) ∧ w = w' := by
  obtain ⟨a, cap, rfl, _, _, hl, h64, b, off, ha, hc⟩ := H
  go_enter Try.func37, Try.ntmps37
  go_wp2
  go_loop [5] (fun i => ∃ k : Nat, k ≤ l.length ∧ i = .int .i64 k ∧ x ∉ l.take k) (fun i => l.length - (intOf i).toNat)
  case atStart => exact ⟨0, Nat.zero_le _, rfl, by simp⟩
  case round =>
    obtain ⟨k, hk, rfl, hn⟩ := hrel
    by_cases hlt : k < l.length
    · obtain ⟨rfl, hb⟩ := ha (by intro h; simp [h] at hlt)
      have hy := hc k hlt
      have hmem : l.getD k 0 ∈ l := by simp [List.getD, hlt]
      have htk : l.take (k + 1) = l.take k ++ [l.getD k 0] := by rw [List.take_succ_eq_append_getElem hlt]; simp [List.getD, hlt]
      have HT := Lib.hid htk
      generalize l.getD k 0 = y at *
      clear htk hc ha
      by_cases he : y = x
      · subst he
        have he : (y == y) = true := by simp
        clear HT
        go_wp2
        go_ret
        exact ⟨ret_bool (by unfold memB; simp [hmem]), rfl⟩
      · have he' : (y == x) = false := by simp [he]
        go_wp2
        go_round
        case rel => exact ⟨k + 1, by omega, by go_num, by rw [HT.out]; simp [hn, Ne.symm he]⟩
        case measure => simp [intOf]; omega
    · rw [List.take_of_length_le (by omega)] at hn
      go_wp2
      go_ret
      exact ⟨ret_bool (by unfold memB; simp [hn]), rfl⟩

/-- More gates, or literals, than a law looks at. -/
def manyG (gs : List Gt) : Bool := decide (300 < gs.length) || decide (1500 < sizeG gs)
set_option maxHeartbeats 1600000 in
theorem many5_any (vg : Value) (gs : List Gt) (w : World) (HG : IsGates w vg gs) (hs : sizeG gs ≤ 4000000) (hl : gs.length < 1000000) :
    Calls Try.prog 25 #[vg] w fun e w' => e = .returned (.bool (manyG gs)) ∧ Below w.heap.size w w' := by
  have HGW := Lib.hid HG
  have HSL := Lib.hid hs
  obtain ⟨ga, gc, rfl, _⟩ := HG.shape
  clear HG hs
  go_enter Try.func25, Try.ntmps25
  go_wp2
  go_loopw [3, 8] (fun n i wr => ∃ k : Nat, k ≤ gs.length ∧ i = .int .i64 k ∧ n = .int .i64 (sizeG (gs.take k) : Int) ∧ Below w.heap.size w wr) (fun _ i _ => gs.length - (intOf i).toNat)
  case atStart => exact ⟨0, Nat.zero_le _, rfl, rfl, Below.refl _ _⟩
  case round =>
    obtain ⟨k, hk, rfl, rfl, hbel⟩ := hrel
    have HB := Lib.hid hbel
    have hszr := hbel.size
    clear hbel
    by_cases hlt : k < gs.length
    · obtain ⟨b, off, u, rfl, hb, hcx0, hck0, hcu0, HU0, _⟩ := HGW.out.at hlt
      have hcx := (HB.out.cell (p := ⟨b, off + k * 3, none⟩) hb).trans hcx0
      have hck := (HB.out.cell (p := ⟨b, off + k * 3 + 1, none⟩) hb).trans hck0
      have hcu := (HB.out.cell (p := ⟨b, off + k * 3 + 2, none⟩) hb).trans hcu0
      have HST := Lib.hid (sizeG_take hlt)
      have hle1 : sizeG (gs.take (k + 1)) ≤ 4000000 := Nat.le_trans (sizeG_le gs _) HSL.out
      rw [HST.out] at hle1
      obtain ⟨ua, uc, rfl⟩ := HU0.shape
      have hk0 : (0 : Int) ≤ (k : Int) := by omega
      have hk1 : (k : Int) < (gs.length : Int) := by omega
      have hk2 : (k : Int) < 4000001 := by omega
      have HKL := Lib.hid hlt
      clear hcx0 hck0 hcu0 HU0 hlt
      generalize gs.getD k dG = y at *
      obtain ⟨y1, y2, y3⟩ := y
      simp only at hcx hck hcu HST hle1
      generalize sizeG (gs.take k) = s at *
      have hs0 : (0 : Int) ≤ (s : Int) + (y3.length : Int) := by omega
      have hs1 : (s : Int) + (y3.length : Int) < 9223372036854775808 := by omega
      have HBA := Lib.hid (HB.out.alloc hszr (.cells #[.int .i64 y1, .int .u8 y2, .slice ua y3.length uc] 71))
      clear hle1
      go_wp2
      go_roundw
      case rel => exact ⟨k + 1, HKL.out, by go_num, by rw [HST.out]; go_num, HBA.out⟩
      case measure => have := HKL.out; simp [intOf]; omega
    · obtain rfl : k = gs.length := by omega
      rw [List.take_length]
      have HR : Hid (manyG gs = (decide ((300 : Int) < (gs.length : Int)) || decide ((1500 : Int) < (sizeG gs : Int)))) := by show _ = _; unfold manyG; congr 1 <;> (rw [Bool.eq_iff_iff]; simp <;> omega)
      generalize sizeG gs = s at *
      cases h3 : decide ((300 : Int) < (gs.length : Int)) with
      | true =>
        rw [h3] at HR
        go_wp2
        go_ret
        exact ⟨ret_bool (by rw [HR.out]; rfl), HB.out⟩
      | false =>
        rw [h3] at HR
        go_wp2
        go_ret
        exact ⟨ret_bool (by rw [HR.out]; simp), HB.out⟩

end Go.Proofs.Yticcikelapifaaa

/- The reference's SameGates (layer 5). -/
namespace Go.Proofs.Yticcikelapifaaa
open Go.RowKit Go.Maps
set_option linter.unusedVariables false
set_option linter.unusedSimpArgs false

set_option maxRecDepth 100000 in
set_option maxHeartbeats 1600000 in
set_option maxRecDepth 100000 in
theorem rsameg5_any (v u : Value) (l m : List Gt) (w : World) (H : IsGates w v l) (K : IsGates w u m) :
    Calls Try.prog 28 #[v, u] w fun e w' => e = .returned (.bool (sameB l m)) ∧ Quiet w w' := by
  obtain ⟨a, cap, rfl, hl⟩ := H.shape
  obtain ⟨a2, cap2, rfl, hl2⟩ := K.shape
  by_cases hlen : l.length = m.length
  · have hne : ((l.length : Int) != (m.length : Int)) = false := by simp [hlen]
    have HL := Lib.hid hlen
    clear hlen
    go_enter Try.func28, Try.ntmps28
    go_wp2
    go_loopw [5] (fun i wr => ∃ k : Nat, k ≤ l.length ∧ i = .int .i64 k ∧ Quiet w wr ∧ l.take k = m.take k) (fun i _ => l.length - (intOf i).toNat)
    case atStart => exact ⟨0, Nat.zero_le _, rfl, Quiet.refl _, by simp⟩
    case round =>
      obtain ⟨k, hk, rfl, hq, hn⟩ := hrel
      have HN := Lib.hid hn
      clear hn
      by_cases hlt : k < l.length
      · have hlt2 : k < m.length := by rw [← HL.out]; exact hlt
        obtain ⟨b, off, u1, rfl, hb, hx0, hj0, hu0, HU0, _⟩ := H.at hlt
        obtain ⟨b2, off2, u2, rfl, hb2, hy0, hi0, hv0, HV0, _⟩ := K.at hlt2
        have hcx := (hq.cell _).trans hx0
        have hcj := (hq.cell _).trans hj0
        have hci := (hq.cell _).trans hi0
        have hcu := (hq.cell _).trans hu0
        have hcy := (hq.cell _).trans hy0
        have hcv := (hq.cell _).trans hv0
        have HT := Lib.hid (gates_take hlt)
        have HT2 := Lib.hid (gates_take hlt2)
        have HNE := Lib.hid (show l.getD k dG ≠ m.getD k dG → l ≠ m from fun h e => h (by rw [e]))
        have hc := fun n => ints5_any u1 u2 _ _ (wr.drewN n) ((HU0.quiet hq).drewN n) ((HV0.quiet hq).drewN n)
        generalize l.getD k dG = y at *
        generalize m.getD k dG = z at *
        obtain ⟨y1, y0, y2⟩ := y
        obtain ⟨z1, z0, z2⟩ := z
        simp only at hcx hcu hcy hcv hc hcj hci
        clear hx0 hu0 hy0 hv0 HU0 HV0 hj0 hi0
        by_cases h1 : y1 = z1
        · subst h1
          have hyy : (y1 != y1) = false := by simp
          by_cases h0 : y0 = z0
          · subst h0
            have hy0' : (y0 != y0) = false := by simp
            by_cases he : y2 = z2
            · have hs : sameB y2 z2 = true := by unfold sameB; simp [he]
              have HE := Lib.hid he
              clear he
              go_wp2_with fail
              go_quiet ((go_at_call 19; exact quiet_q (hc _)))
              go_wp2
              go_roundw
              case rel => exact ⟨k + 1, by omega, by go_num, hq.drewN _, by rw [HT.out, HT2.out, HN.out, HE.out]⟩
              case measure => simp [intOf]; omega
            · have hs : sameB y2 z2 = false := by unfold sameB; simp [he]
              have HLM : Hid (sameB l m = false) := by show _ = _; unfold sameB; rw [decide_eq_false_iff_not]; exact HNE.out fun h => he (Prod.mk.inj (Prod.mk.inj h).2).2
              clear he
              go_wp2_with fail
              go_quiet ((go_at_call 19; exact quiet_q (hc _)))
              go_wp2
              go_ret
              exact ⟨ret_bool HLM.out.symm, hq.drewN _⟩
          · have HLM : Hid (sameB l m = false) := by show _ = _; unfold sameB; rw [decide_eq_false_iff_not]; exact HNE.out fun h => h0 (Prod.mk.inj (Prod.mk.inj h).2).1
            have hy0' : (y0 != z0) = true := by simp [h0]
            clear h0 hc HNE
            go_wp2_with fail
            go_quiet (fail)
            go_wp2
            go_ret
            exact ⟨ret_bool HLM.out.symm, hq.drewN _⟩
        · have HLM : Hid (sameB l m = false) := by show _ = _; unfold sameB; rw [decide_eq_false_iff_not]; exact HNE.out fun h => h1 (Prod.mk.inj h).1
          have hyy : (y1 != z1) = true := by simp [h1]
          clear h1 hc HNE
          go_wp2_with fail
          go_quiet (fail)
          go_wp2
          go_ret
          exact ⟨ret_bool HLM.out.symm, hq.drewN _⟩
      · have HE : Hid (sameB l m = true) := by
          have h := HN.out
          rw [List.take_of_length_le (by omega), List.take_of_length_le (by rw [← HL.out]; omega)] at h
          show _ = _; unfold sameB; simp [h]
        go_wp2
        go_ret
        exact ⟨ret_bool HE.out.symm, hq⟩
  · have hne : ((l.length : Int) != (m.length : Int)) = true := by simp; omega
    have HE : Hid (sameB l m = false) := by show _ = _; unfold sameB; rw [decide_eq_false_iff_not]; intro h; exact hlen (by rw [h])
    clear hlen
    go_enter Try.func28, Try.ntmps28
    go_wp2
    go_ret
    exact ⟨ret_bool HE.out.symm, Quiet.refl _⟩

end Go.Proofs.Yticcikelapifaaa

/- The reference's Same (layer 5). -/
namespace Go.Proofs.Yticcikelapifaaa
open Go.RowKit Go.Maps
set_option linter.unusedVariables false
set_option linter.unusedSimpArgs false

set_option maxHeartbeats 1600000 in
set_option maxRecDepth 100000 in
theorem rsame5_any (vp vg vp2 vg2 : Value) (o o2 : Int) (P P2 : List Blk) (gs gs2 : List Gt) (w : World) (HP : IsBlocks w vp P) (HG : IsGates w vg gs) (HP2 : IsBlocks w vp2 P2) (HG2 : IsGates w vg2 gs2) :
    Calls Try.prog 18 #[.agg #[vp, vg, .int .i64 o], .agg #[vp2, vg2, .int .i64 o2]] w fun e w' => e = .returned (.bool (sameN P gs o P2 gs2 o2)) ∧ Below w.heap.size w w' := by
  obtain ⟨pa, pc, rfl, _⟩ := HP.shape
  obtain ⟨ga, gc, rfl, _⟩ := HG.shape
  obtain ⟨pa2, pc2, rfl, _⟩ := HP2.shape
  obtain ⟨ga2, gc2, rfl, _⟩ := HG2.shape
  obtain ⟨W0, hW0⟩ : ∃ W0, (w.alloc (.cells #[.slice pa P.length pc, .slice ga gs.length gc, .int .i64 o] 25)).alloc (.cells #[.slice pa2 P2.length pc2, .slice ga2 gs2.length gc2, .int .i64 o2] 25) = W0 := ⟨_, rfl⟩
  have hb0 : Below w.heap.size w W0 := by rw [← hW0]; exact ((Below.refl _ _).alloc (Nat.le_refl _) _).alloc (by simp) _
  have b0 : W0.heap[w.heap.size]? = some (.cells #[.slice pa P.length pc, .slice ga gs.length gc, .int .i64 o] 25 (0, 0)) := by rw [← hW0]; (repeat (first | (refine heap_hit ?_; first | omega | (simp only [World.size_alloc] <;> omega)) | (refine heap_skip ?_ ?_; (first | omega | (simp only [World.size_alloc] <;> omega)))))
  have b1 : W0.heap[w.heap.size + 1]? = some (.cells #[.slice pa2 P2.length pc2, .slice ga2 gs2.length gc2, .int .i64 o2] 25 (0, 0)) := by rw [← hW0]; (repeat (first | (refine heap_hit ?_; first | omega | (simp only [World.size_alloc] <;> omega)) | (refine heap_skip ?_ ?_; (first | omega | (simp only [World.size_alloc] <;> omega)))))
  have hs0 : W0.heap.size = w.heap.size + 2 := by rw [← hW0]; simp
  have HXC : Hid (∀ X, Below W0.heap.size W0 X → BoxN X w.heap.size (.slice pa P.length pc) (.slice ga gs.length gc) o ∧ BoxN X (w.heap.size + 1) (.slice pa2 P2.length pc2) (.slice ga2 gs2.length gc2) o2) := fun X hX => by
    have h1 := (hX.block _ (by omega)).trans b0
    have h2 := (hX.block _ (by omega)).trans b1
    exact ⟨⟨block_cell h1 rfl, block_cell h1 rfl, block_cell h1 rfl⟩, block_cell h2 rfl, block_cell h2 rfl, block_cell h2 rfl⟩
  have HEP := Lib.hid (rsamep5_any _ _ P P2 W0 (HP.below hb0 (Nat.le_refl _)) (HP2.below hb0 (Nat.le_refl _)))
  have HEG : Hid (∀ X, Below W0.heap.size W0 X → Calls Try.prog 28 #[.slice ga gs.length gc, .slice ga2 gs2.length gc2] X fun e w' => e = .returned (.bool (sameB gs gs2)) ∧ Quiet X w') := fun X hX =>
    rsameg5_any _ _ gs gs2 X (HG.below (hb0.trans (hX.mono hb0.size)) (Nat.le_refl _)) (HG2.below (hb0.trans (hX.mono hb0.size)) (Nat.le_refl _))
  have HB0 := Lib.hid hb0
  have HW0 := Lib.hid hW0
  have HR : Hid (sameN P gs o P2 gs2 o2 = (decide (o = o2) && (sameB P P2 && sameB gs gs2))) := by show _ = _; unfold sameN; cases sameB P P2 <;> cases sameB gs gs2 <;> cases decide (o = o2) <;> rfl
  generalize sameN P gs o P2 gs2 o2 = rr at *
  generalize sameB P P2 = s1 at *
  generalize sameB gs gs2 = s2 at *
  clear hW0 hb0 b0 b1 hs0 HP HG HP2 HG2
  have hoo : (o == o2) = decide (o = o2) := by rw [Bool.eq_iff_iff]; simp
  generalize decide (o = o2) = t at *
  go_enter Try.func18, Try.ntmps18
  go_upto_region 1 with fail
  rw [HW0.out]
  obtain ⟨⟨p0, p1, p2⟩, q0, q1, q2⟩ := HXC.out W0 (Below.refl _ _)
  cases t with
  | false =>
    go_wp2_with fail
    go_ret
    exact ⟨ret_bool (by rw [HR.out]; rfl), HB0.out⟩
  | true =>
    cases s1 with
    | false =>
      go_wp2_with (go_at_call 56; refine HEP.out.mono ?_; rintro e w1 ⟨rfl, hb1⟩; have HB1 := Lib.hid (hb1.below W0.heap.size); clear hb1 p0 p1 p2 q0 q1 q2; obtain ⟨⟨p0, p1, p2⟩, q0, q1, q2⟩ := HXC.out w1 HB1.out)
      go_ret
      exact ⟨ret_bool (by rw [HR.out]; rfl), HB0.out.trans (HB1.out.mono HB0.out.size)⟩
    | true =>
      go_wp2_with (first
        | (go_at_call 56; refine HEP.out.mono ?_; rintro e w1 ⟨rfl, hb1⟩; have HB1 := Lib.hid (hb1.below W0.heap.size); clear hb1 p0 p1 p2 q0 q1 q2; obtain ⟨⟨p0, p1, p2⟩, q0, q1, q2⟩ := HXC.out w1 HB1.out)
        | (go_at_call 28; refine (HEG.out w1 HB1.out).mono ?_; rintro e w2 ⟨rfl, hb2⟩; have HB2 := Lib.hid (HB1.out.trans (hb2.below W0.heap.size)); clear hb2 p0 p1 p2 q0 q1 q2; obtain ⟨⟨p0, p1, p2⟩, q0, q1, q2⟩ := HXC.out w2 HB2.out))
      go_ret
      exact ⟨ret_bool (by rw [HR.out]; simp), HB0.out.trans (HB2.out.mono HB0.out.size)⟩
end Go.Proofs.Yticcikelapifaaa

/- The reference's Vars and shape (layer 5). -/
namespace Go.Proofs.Yticcikelapifaaa
open Go.RowKit Go.Maps
set_option linter.unusedVariables false
set_option linter.unusedSimpArgs false

theorem flat_take_len5 {α : Type} (p : List (α × List Int)) (k : Nat) : (flatB (p.take k)).length ≤ (flatB p).length := by
  have h1 : flatB (p.take k) ++ flatB (p.drop k) = flatB p := by
    unfold flatB
    rw [← List.flatten_append, ← List.map_append, List.take_append_drop]
  rw [← h1]
  simp
set_option maxHeartbeats 800000 in
set_option maxRecDepth 100000 in
theorem vars5_any (v : Value) (p : List Blk) (w : World) (H : IsBlocks w v p) (hp : (flatB p).length ≤ 4000000) :
    Calls Try.prog 33 #[v] w fun e w' => ∃ u, e = .returned u ∧ Own w' w.heap.size u (flatB p) ∧ Below w.heap.size w w' := by
  obtain ⟨a, cap, rfl, hl⟩ := H.shape
  have HH := Lib.hid H
  have HP := Lib.hid hp
  clear H hp
  go_enter Try.func33, Try.ntmps33
  go_wp2
  go_loopw [3, 4] (fun out i wr => ∃ k : Nat, k ≤ p.length ∧ i = .int .i64 k ∧ Own wr w.heap.size out (flatB (p.take k)) ∧ Below w.heap.size w wr) (fun _ i _ => p.length - (intOf i).toNat)
  case atStart => exact ⟨0, Nat.zero_le _, rfl, by simpa [flatB] using Own.nil w w.heap.size, Below.refl _ _⟩
  case round =>
    obtain ⟨k, hk, rfl, hown, hbel⟩ := hrel
    have hsz := hbel.size
    by_cases hlt : k < p.length
    · obtain ⟨b, off, u, rfl, hb, hcx0, hcu0, HU0⟩ := HH.out.at hlt
      have hcu := (hbel.cell (p := ⟨b, off + k * 2 + 1, none⟩) hb).trans hcu0
      have HU := Lib.hid (HU0.below hbel (Nat.le_refl _))
      have HFT := Lib.hid (flat_take_succ (d := dB) hlt)
      have hlen : (flatB (p.take k)).length + (p.getD k dB).2.length ≤ 17592186044416 := by
        have h1 := flat_take_len5 p (k + 1)
        have h2 := HFT.out
        have h3 := HP.out
        rw [h2, List.length_append] at h1
        omega
      have HLN := Lib.hid hlen
      obtain ⟨ua, uc, rfl⟩ := HU0.shape
      clear hcx0 hcu0 HU0 hlen
      generalize p.getD k dB = y at *
      obtain ⟨y1, y2⟩ := y
      simp only at hcu
      have HB := Lib.hid hbel
      have HO := Lib.hid hown
      have HL2 : Hid ((flatB (p.take k)).length + y2.length ≤ 17592186044416) := HLN.out
      have HFT2 : Hid (flatB (p.take (k + 1)) = flatB (p.take k) ++ y2) := HFT.out
      have HU2 : Hid (IsInts wr (.slice ua y2.length uc) y2) := HU.out
      clear hbel hown HLN HFT HU
      go_wp2_with (at_builtin; refine wpList_app rfl (.tmp 11) (.tmp 16) rfl w.heap.size _ _ (flatB (p.take k)) y2 rfl rfl HO.out HU2.out HL2.out hsz ?_; intro v' w1 hown1 hg1)
      have HB1 := Lib.hid (below_app HB.out HO.out hsz hg1)
      have HO1 := Lib.hid hown1
      clear hown1 hg1
      go_roundw
      case rel => exact ⟨k + 1, by omega, by go_num, by rw [HFT2.out]; exact HO1.out, HB1.out⟩
      case measure => simp [intOf]; omega
    · have hke : k = p.length := by omega
      subst hke
      rw [List.take_length] at hown
      go_wp2
      go_ret
      exact ⟨_, rfl, hown, hbel⟩

set_option maxHeartbeats 800000 in
set_option maxRecDepth 100000 in
theorem shape5_any (x k : Int) (u : Value) (l : List Int) (w : World) (H : IsInts w u l) :
    Calls Try.prog 50 #[.agg #[.int .i64 x, .int .u8 k, u]] w fun e w' => e = .returned (.bool (fitsB k l.length)) ∧ Below w.heap.size w w' := by
  obtain ⟨ua, uc, rfl⟩ := H.shape
  have HB : Hid (Below w.heap.size w (w.alloc (.cells #[.int .i64 x, .int .u8 k, .slice ua l.length uc] 71))) := below_new _ _
  have HR : Hid (fitsB k l.length = if k = 1 ∨ k = 2 then true else if k = 3 then decide (l.length = 2) else if k = 4 then decide (l.length = 3) else false) := by show _ = _; unfold fitsB; rfl
  have hl2 : ((l.length : Int) == 2) = decide (l.length = 2) := by rw [Bool.eq_iff_iff]; simp; omega
  have hl3 : ((l.length : Int) == 3) = decide (l.length = 3) := by rw [Bool.eq_iff_iff]; simp; omega
  clear H
  generalize fitsB k l.length = rr at *
  by_cases h1 : k = 1
  · subst h1
    go_enter Try.func50, Try.ntmps50
    go_wp2
    go_ret
    exact ⟨ret_bool (by rw [HR.out]; rfl), HB.out⟩
  · by_cases h2 : k = 2
    · subst h2
      go_enter Try.func50, Try.ntmps50
      go_wp2
      go_ret
      exact ⟨ret_bool (by rw [HR.out]; rfl), HB.out⟩
    · by_cases h3 : k = 3
      · subst h3
        go_enter Try.func50, Try.ntmps50
        go_wp2
        go_ret
        exact ⟨ret_bool (by rw [HR.out]; rfl), HB.out⟩
      · by_cases h4 : k = 4
        · subst h4
          go_enter Try.func50, Try.ntmps50
          go_wp2
          go_ret
          exact ⟨ret_bool (by rw [HR.out]; rfl), HB.out⟩
        · have e1 : (k == 1) = false := by simpa using h1
          have e2 : (k == 2) = false := by simpa using h2
          have e3 : (k == 3) = false := by simpa using h3
          have e4 : (k == 4) = false := by simpa using h4
          have HR2 : Hid (rr = false) := by show _ = _; rw [HR.out, if_neg (by omega), if_neg h3, if_neg h4]
          clear HR h1 h2 h3 h4
          go_enter Try.func50, Try.ntmps50
          go_wp2
          go_ret
          exact ⟨ret_bool HR2.out.symm, HB.out⟩
end Go.Proofs.Yticcikelapifaaa
