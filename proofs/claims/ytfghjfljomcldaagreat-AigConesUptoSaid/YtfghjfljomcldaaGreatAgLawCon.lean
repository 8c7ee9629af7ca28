/- The law AigCones, walked. -/
import Derived.Test.YtfghjfljomcldaaGreatAgWorks
import Derived.Test.YtfghjfljomcldaaGreatA13
import Derived.Test.YtfghjfljomcldaaGreatAgRRest
import Derived.Test.YtfghjfljomcldaaGreatAgRSame
namespace Go.Proofs.YtfghjfljomcldaaGreat
open Go.RowKit Go.Maps
set_option linter.unusedVariables false
set_option linter.unusedSimpArgs false

theorem sameA_cc (I : List Int) (A : List Pr) : sameA I A I A = true := by unfold sameA; simp [sameB]
theorem sameB_cc (l : List Int) : sameB l l = true := by simp [sameB]
theorem great_cc (vi va : Value) (I : List Int) (A : List Pr) (X : World) (HI : IsInts X vi I) (HA : IsPairs X va A) (h1 : I.length ≤ 4000000) (h2 : A.length ≤ 4000000) :
    Calls Tryz.prog 12 #[.slice (some ⟨X.heap.size, 0, none⟩) 1 1] (X.alloc (.cells #[vi, va] 25)) fun e w' => e = .returned (.bool (manyA I A)) ∧ Below X.heap.size X w' := by
  have hb := below_alloc1 X (.cells #[vi, va] 25)
  refine (great6_any [(vi, va, I, A)] X.heap.size _ (by simp) (by simp) (fun j hj => ?_)).mono ?_
  · match j, hj with
    | 0, _ => exact ⟨cell_fresh rfl, cell_fresh rfl, HI.below hb (Nat.le_refl _), HA.below hb (Nat.le_refl _), h1, h2⟩
    | j + 1, hj => simp at hj
  · rintro e w' ⟨rfl, h2⟩
    exact ⟨by simp, hb.trans (h2.mono (by simp))⟩
theorem rest_bd {I : List Int} {A : List Pr} {l a : List Int} : (restR I A l a).2.1.length ≤ l.length ∧ In64 (restR I A l a).2.1 := by
  unfold restR
  split
  · rename_i h
    obtain ⟨h1, _, h3, h4⟩ := rest_valid h.1 h.2
    refine ⟨Nat.le_of_eq h4, fun y hy => ?_⟩
    have h5 := edgesB_true.1 h3 y hy
    have h6 := (mayA_parts h1).1
    omega
  · exact ⟨Nat.zero_le _, fun y hy => absurd hy (by simp)⟩

set_option maxRecDepth 100000 in
set_option maxHeartbeats 6400000 in
theorem aigcones_any (vi va vl vx : Value) (I : List Int) (A : List Pr) (l a : List Int) (w : World) (HI : IsInts w vi I) (HA : IsPairs w va A) (HL : IsInts w vl l) (HX : IsInts w vx a) (h1 : I.length ≤ 4000000) (h2 : A.length ≤ 4000000) (h5 : l.length ≤ 4000000) (h6 : a.length ≤ 4000000) :
    Calls Tryz.prog 5 #[.agg #[vi, va], vl, vx] w fun e w' => e = .returned (.bool true) ∧ Below w.heap.size w w' := by
  obtain ⟨ia, ic, rfl⟩ := HI.shape
  obtain ⟨ga, gc, rfl, _⟩ := HA.shape
  obtain ⟨la, lc, rfl⟩ := HL.shape
  obtain ⟨xa, xc, rfl⟩ := HX.shape
  have hb0 := below_alloc1 w (.cells #[.slice ia I.length ic, .slice ga A.length gc] 25)
  have hbx := boxA_new w (.slice ia I.length ic) (.slice ga A.length gc)
  obtain ⟨W0, hW0⟩ : ∃ W0, w.alloc (.cells #[.slice ia I.length ic, .slice ga A.length gc] 25) = W0 := ⟨_, rfl⟩
  have hz0 : W0.heap.size = w.heap.size + 1 := by rw [← hW0, World.size_alloc]
  rw [hW0] at hb0 hbx
  have HXC : Hid (∀ X, Below W0.heap.size W0 X → X.cell? ⟨w.heap.size, 0, none⟩ = some (.slice ia I.length ic) ∧ X.cell? ⟨w.heap.size, 1, none⟩ = some (.slice ga A.length gc)) := fun X hX => hbx.below hX (by rw [hz0]; omega)
  have HW0 : Hid (w.alloc (.cells #[.slice ia I.length ic, .slice ga A.length gc] 25) = W0) := hW0
  have HB0 := Lib.hid hb0
  have HUPG : Hid (∀ X, Below W0.heap.size W0 X → IsInts X (.slice ia I.length ic) I ∧ IsPairs X (.slice ga A.length gc) A ∧ IsInts X (.slice la l.length lc) l ∧ IsInts X (.slice xa a.length xc) a) := fun X hX => ⟨(HI.below hb0 (Nat.le_refl _)).below hX (Nat.le_refl _), (HA.below hb0 (Nat.le_refl _)).below hX (Nat.le_refl _), (HL.below hb0 (Nat.le_refl _)).below hX (Nat.le_refl _), (HX.below hb0 (Nat.le_refl _)).below hX (Nat.le_refl _)⟩
  have H1 : Hid (Calls Tryz.prog 12 #[.slice (some ⟨W0.heap.size, 0, none⟩) 1 1] (W0.alloc (.cells #[.slice ia I.length ic, .slice ga A.length gc] 25)) fun e w' => e = .returned (.bool (manyA I A)) ∧ Below W0.heap.size W0 w') := by
    have hu := HUPG.out W0 (Below.refl _ _)
    exact great_cc _ _ I A W0 hu.1 hu.2.1 h1 h2
  obtain ⟨p0, p1⟩ := HXC.out W0 (Below.refl _ _)
  clear HI HA HL HX hb0 hbx hW0 hz0
  cases hm : manyA I A with
  | true =>
    rw [hm] at H1
    clear hm
    go_enter Tryz.func5, Tryz.ntmps5
    go_upto_region 1 with fail
    rw [HW0.out]
    go_wp2_with (first
      | (go_at_call 12; refine H1.out.mono ?_; rintro e w1 ⟨rfl, hb1⟩)
      | (go_at_call 13; refine (works6_any _).mono ?_; rintro e w2 ⟨rfl, hb2⟩))
    go_ret
    exact ⟨rfl, HB0.out.trans ((hb1.trans (hb2.mono hb1.size)).mono HB0.out.size)⟩
  | false =>
   rw [hm] at H1
   clear hm
   by_cases cl : 100 < l.length
   · have d1 : decide ((100 : Int) < (l.length : Int)) = true := decide_eq_true (by omega)
     generalize l.length = ln at *
     clear cl
     go_enter Tryz.func5, Tryz.ntmps5
     go_upto_region 1 with fail
     rw [HW0.out]
     go_wp2_with (first
       | (go_at_call 12; refine H1.out.mono ?_; rintro e w1 ⟨rfl, hb1⟩)
       | (go_at_call 13; refine (works6_any _).mono ?_; rintro e w2 ⟨rfl, hb2⟩))
     go_ret
     exact ⟨rfl, HB0.out.trans ((hb1.trans (hb2.mono hb1.size)).mono HB0.out.size)⟩
   · have d1 : decide ((100 : Int) < (l.length : Int)) = false := decide_eq_false (by omega)
     by_cases ca : 200 < a.length
     · have d2 : decide ((200 : Int) < (a.length : Int)) = true := decide_eq_true (by omega)
       generalize a.length = an at *
       clear cl ca
       go_enter Tryz.func5, Tryz.ntmps5
       go_upto_region 1 with fail
       rw [HW0.out]
       go_wp2_with (first
         | (go_at_call 12; refine H1.out.mono ?_; rintro e w1 ⟨rfl, hb1⟩)
         | (go_at_call 13; refine (works6_any _).mono ?_; rintro e w2 ⟨rfl, hb2⟩))
       go_ret
       exact ⟨rfl, HB0.out.trans ((hb1.trans (hb2.mono hb1.size)).mono HB0.out.size)⟩
     · have d2 : decide ((200 : Int) < (a.length : Int)) = false := decide_eq_false (by omega)
       have hu1 := rest_bd (I := I) (A := A) (l := l) (a := [])
       have hu2 := rest_bd (I := I) (A := A) (l := l) (a := a)
       have hl0 : l.length ≤ 100 := by omega
       have HCA : Hid (∀ X, Below W0.heap.size W0 X → Calls Tryz.prog 32 #[.agg #[.slice ia I.length ic, .slice ga A.length gc], .slice la l.length lc] X (ResPost X (restR I A l []))) := fun X hX => gcone_any _ _ _ I A l X (HUPG.out X hX).1 (HUPG.out X hX).2.1 (HUPG.out X hX).2.2.1 h1 h2
       have HCB : Hid (∀ X, Below W0.heap.size W0 X → Calls Tryz.prog 33 #[.agg #[.slice ia I.length ic, .slice ga A.length gc], .slice la l.length lc] X (RGPost X (restR I A l []))) := fun X hX => rcone_any _ _ _ I A l X (HUPG.out X hX).1 (HUPG.out X hX).2.1 (HUPG.out X hX).2.2.1 h1 h2
       have HCC : Hid (∀ X, Below W0.heap.size W0 X → Calls Tryz.prog 34 #[.agg #[.slice ia I.length ic, .slice ga A.length gc], .slice la l.length lc, .slice xa a.length xc] X (ResPost X (restR I A l a))) := fun X hX => grestrict_any _ _ _ _ I A l a X (HUPG.out X hX).1 (HUPG.out X hX).2.1 (HUPG.out X hX).2.2.1 (HUPG.out X hX).2.2.2 h1 h2 h6
       have HCD : Hid (∀ X, Below W0.heap.size W0 X → Calls Tryz.prog 35 #[.agg #[.slice ia I.length ic, .slice ga A.length gc], .slice la l.length lc, .slice xa a.length xc] X (RGPost X (restR I A l a))) := fun X hX => rrestrict_any _ _ _ _ I A l a X (HUPG.out X hX).1 (HUPG.out X hX).2.1 (HUPG.out X hX).2.2.1 (HUPG.out X hX).2.2.2 h1 h2
       have HSM : Hid (∀ (J : List Int) (C : List Pr) X v1 v2 v3 v4, IsInts X v1 J → IsPairs X v2 C → IsInts X v3 J → IsPairs X v4 C → Calls Tryz.prog 25 #[.agg #[v1, v2], .agg #[v3, v4]] X fun e w' => e = .returned (.bool true) ∧ Below X.heap.size X w') := fun J C X v1 v2 v3 v4 e1 e2 e3 e4 => (rsame6_any _ _ _ _ J C J C X e1 e2 e3 e4).mono fun e w' h => ⟨by rw [h.1, sameA_cc], h.2⟩
       have HIN : Hid (∀ (L : List Int) (v u : Value) (X : World), IsInts X v L → IsInts X u L → Calls Tryz.prog 26 #[v, u] X fun e w' => e = .returned (.bool true) ∧ Below X.heap.size X w') := fun L v u X h1 h2 => (ints5_any v u L L X h1 h2).mono (by
         rintro e w' ⟨rfl, h3⟩
         exact ⟨by rw [sameB_cc], h3.below _⟩)
       generalize restR I A l [] = r1 at *
       generalize restR I A l a = r2 at *
       obtain ⟨⟨I1, C1⟩, U1, c1⟩ := r1
       obtain ⟨⟨I2, C2⟩, U2, c2⟩ := r2
       simp only at hu1 hu2
       have HU1 := Lib.hid hu1
       have HU2 := Lib.hid hu2
       have HLB := Lib.hid hl0
       clear hu1 hu2 cl ca hl0
       go_enter Tryz.func5, Tryz.ntmps5
       go_upto_region 1 with fail
       rw [HW0.out]
       go_upto_region 3 with (go_at_call 12; refine H1.out.mono ?_; rintro e w1 ⟨rfl, hb1⟩; have HBV0 := Lib.hid hb1; clear hb1 p0 p1; obtain ⟨p0, p1⟩ := HXC.out w1 HBV0.out)
       clear d1 d2 H1
       go_upto_region 4 with (go_at_call 32; go_loud (refine (HCA.out w1 HBV0.out).mono ?_; rintro e w2 ⟨z1, z2, z3, rfl, hg, ho, hb⟩; obtain ⟨v1a, v1c, rfl⟩ := hg.ints.1.shape; obtain ⟨v1b, v1d, rfl, _⟩ := hg.ints.2.shape; obtain ⟨v1u, v1w, rfl⟩ := own_shC ho; have HG1 := Lib.hid hg.ints; have HO1 := Lib.hid (ho.ints (by have := HU1.out.1; have := HLB.out; show U1.length ≤ _; omega) HU1.out.2); have HBW1 := Lib.hid (HBV0.out.trans (hb.mono HBV0.out.size)); have HQ1 := Lib.hid hb; clear hg ho hb p0 p1))
       have hbn := below_alloc1 w2 (.cells #[.slice v1a I1.length v1c, .slice v1b C1.length v1d] 25)
       have hxn := boxA_new w2 (.slice v1a I1.length v1c) (.slice v1b C1.length v1d)
       have hzn : (w2.alloc (.cells #[.slice v1a I1.length v1c, .slice v1b C1.length v1d] 25)).heap.size = w2.heap.size + 1 := by rw [World.size_alloc]
       have HBV1 := Lib.hid (HBW1.out.trans (hbn.mono HBW1.out.size))
       have HN1 := Lib.hid (HQ1.out.trans (hbn.mono HQ1.out.size))
       have hi6 := HG1.out.1.below hbn (Nat.le_refl _)
       have ha6 := HG1.out.2.below hbn (Nat.le_refl _)
       have ho6 := HO1.out.below hbn (Nat.le_refl _)
       change Code.wp _ _ _ _ (w2.alloc (.cells #[.slice v1a I1.length v1c, .slice v1b C1.length v1d] 25))
       generalize w2.alloc (.cells #[.slice v1a I1.length v1c, .slice v1b C1.length v1d] 25) = V1 at *
       generalize w2.heap.size = g1 at *
       have HC1 : Hid (∀ X, Below V1.heap.size V1 X → X.cell? ⟨g1, 0, none⟩ = some (.slice v1a I1.length v1c) ∧ X.cell? ⟨g1, 1, none⟩ = some (.slice v1b C1.length v1d)) := fun X hX => hxn.below hX (by rw [hzn]; omega)
       have HV1 : Hid (∀ X, Below V1.heap.size V1 X → IsInts X (.slice v1a I1.length v1c) I1 ∧ IsPairs X (.slice v1b C1.length v1d) C1 ∧ IsInts X (.slice v1u U1.length v1w) U1) := fun X hX => ⟨hi6.below hX (Nat.le_refl _), ha6.below hX (Nat.le_refl _), ho6.below hX (Nat.le_refl _)⟩
       have HD1 : Hid (∀ X, Below V1.heap.size V1 X → Below W0.heap.size W0 X) := fun X hX => HBV1.out.trans (hX.mono HBV1.out.size)
       clear hbn hxn hzn hi6 ha6 ho6 HG1 HO1 HBW1 HQ1
       obtain ⟨p0, p1⟩ := HXC.out V1 HBV1.out
       go_upto_region 5 with (go_at_call 33; go_loud (refine (HCB.out V1 HBV1.out).mono ?_; rintro e w3 ⟨z1, z2, z3, rfl, hg, ho, hb⟩; obtain ⟨v2a, v2c, rfl⟩ := hg.1.shape; obtain ⟨v2b, v2d, rfl, _⟩ := hg.2.shape; obtain ⟨v2u, v2w, rfl⟩ := ho.shape; have HG2 := Lib.hid hg; have HO2 := Lib.hid ho; have HBW2 := Lib.hid (HBV1.out.trans (hb.mono HBV1.out.size)); have HQ2 := Lib.hid hb; clear hg ho hb p0 p1))
       have hbn := below_alloc1 w3 (.cells #[.slice v2a I1.length v2c, .slice v2b C1.length v2d] 25)
       have hxn := boxA_new w3 (.slice v2a I1.length v2c) (.slice v2b C1.length v2d)
       have hzn : (w3.alloc (.cells #[.slice v2a I1.length v2c, .slice v2b C1.length v2d] 25)).heap.size = w3.heap.size + 1 := by rw [World.size_alloc]
       have HBV2 := Lib.hid (HBW2.out.trans (hbn.mono HBW2.out.size))
       have HN2 := Lib.hid (HQ2.out.trans (hbn.mono HQ2.out.size))
       have hi6 := HG2.out.1.below hbn (Nat.le_refl _)
       have ha6 := HG2.out.2.below hbn (Nat.le_refl _)
       have ho6 := HO2.out.below hbn (Nat.le_refl _)
       change Code.wp _ _ _ _ (w3.alloc (.cells #[.slice v2a I1.length v2c, .slice v2b C1.length v2d] 25))
       generalize w3.alloc (.cells #[.slice v2a I1.length v2c, .slice v2b C1.length v2d] 25) = V2 at *
       generalize w3.heap.size = g2 at *
       have HC2 : Hid (∀ X, Below V2.heap.size V2 X → X.cell? ⟨g2, 0, none⟩ = some (.slice v2a I1.length v2c) ∧ X.cell? ⟨g2, 1, none⟩ = some (.slice v2b C1.length v2d)) := fun X hX => hxn.below hX (by rw [hzn]; omega)
       have HV2 : Hid (∀ X, Below V2.heap.size V2 X → IsInts X (.slice v2a I1.length v2c) I1 ∧ IsPairs X (.slice v2b C1.length v2d) C1 ∧ IsInts X (.slice v2u U1.length v2w) U1) := fun X hX => ⟨hi6.below hX (Nat.le_refl _), ha6.below hX (Nat.le_refl _), ho6.below hX (Nat.le_refl _)⟩
       have HD2 : Hid (∀ X, Below V2.heap.size V2 X → Below W0.heap.size W0 X) := fun X hX => HBV2.out.trans (hX.mono HBV2.out.size)
       clear hbn hxn hzn hi6 ha6 ho6 HG2 HO2 HBW2 HQ2
       obtain ⟨p0, p1⟩ := HXC.out V2 HBV2.out
       go_upto_region 6 with (go_at_call 34; go_loud (refine (HCC.out V2 HBV2.out).mono ?_; rintro e w4 ⟨z1, z2, z3, rfl, hg, ho, hb⟩; obtain ⟨v3a, v3c, rfl⟩ := hg.ints.1.shape; obtain ⟨v3b, v3d, rfl, _⟩ := hg.ints.2.shape; obtain ⟨v3u, v3w, rfl⟩ := own_shC ho; have HG3 := Lib.hid hg.ints; have HO3 := Lib.hid (ho.ints (by have := HU2.out.1; have := HLB.out; show U2.length ≤ _; omega) HU2.out.2); have HBW3 := Lib.hid (HBV2.out.trans (hb.mono HBV2.out.size)); have HQ3 := Lib.hid hb; clear hg ho hb p0 p1))
       have hbn := below_alloc1 w4 (.cells #[.slice v3a I2.length v3c, .slice v3b C2.length v3d] 25)
       have hxn := boxA_new w4 (.slice v3a I2.length v3c) (.slice v3b C2.length v3d)
       have hzn : (w4.alloc (.cells #[.slice v3a I2.length v3c, .slice v3b C2.length v3d] 25)).heap.size = w4.heap.size + 1 := by rw [World.size_alloc]
       have HBV3 := Lib.hid (HBW3.out.trans (hbn.mono HBW3.out.size))
       have HN3 := Lib.hid (HQ3.out.trans (hbn.mono HQ3.out.size))
       have hi6 := HG3.out.1.below hbn (Nat.le_refl _)
       have ha6 := HG3.out.2.below hbn (Nat.le_refl _)
       have ho6 := HO3.out.below hbn (Nat.le_refl _)
       change Code.wp _ _ _ _ (w4.alloc (.cells #[.slice v3a I2.length v3c, .slice v3b C2.length v3d] 25))
       generalize w4.alloc (.cells #[.slice v3a I2.length v3c, .slice v3b C2.length v3d] 25) = V3 at *
       generalize w4.heap.size = g3 at *
       have HC3 : Hid (∀ X, Below V3.heap.size V3 X → X.cell? ⟨g3, 0, none⟩ = some (.slice v3a I2.length v3c) ∧ X.cell? ⟨g3, 1, none⟩ = some (.slice v3b C2.length v3d)) := fun X hX => hxn.below hX (by rw [hzn]; omega)
       have HV3 : Hid (∀ X, Below V3.heap.size V3 X → IsInts X (.slice v3a I2.length v3c) I2 ∧ IsPairs X (.slice v3b C2.length v3d) C2 ∧ IsInts X (.slice v3u U2.length v3w) U2) := fun X hX => ⟨hi6.below hX (Nat.le_refl _), ha6.below hX (Nat.le_refl _), ho6.below hX (Nat.le_refl _)⟩
       have HD3 : Hid (∀ X, Below V3.heap.size V3 X → Below W0.heap.size W0 X) := fun X hX => HBV3.out.trans (hX.mono HBV3.out.size)
       clear hbn hxn hzn hi6 ha6 ho6 HG3 HO3 HBW3 HQ3
       obtain ⟨p0, p1⟩ := HXC.out V3 HBV3.out
       go_upto_region 7 with (go_at_call 35; go_loud (refine (HCD.out V3 HBV3.out).mono ?_; rintro e w5 ⟨z1, z2, z3, rfl, hg, ho, hb⟩; obtain ⟨v4a, v4c, rfl⟩ := hg.1.shape; obtain ⟨v4b, v4d, rfl, _⟩ := hg.2.shape; obtain ⟨v4u, v4w, rfl⟩ := ho.shape; have HG4 := Lib.hid hg; have HO4 := Lib.hid ho; have HBW4 := Lib.hid (HBV3.out.trans (hb.mono HBV3.out.size)); have HQ4 := Lib.hid hb; clear hg ho hb p0 p1))
       have hbn := below_alloc1 w5 (.cells #[.slice v4a I2.length v4c, .slice v4b C2.length v4d] 25)
       have hxn := boxA_new w5 (.slice v4a I2.length v4c) (.slice v4b C2.length v4d)
       have hzn : (w5.alloc (.cells #[.slice v4a I2.length v4c, .slice v4b C2.length v4d] 25)).heap.size = w5.heap.size + 1 := by rw [World.size_alloc]
       have HBV4 := Lib.hid (HBW4.out.trans (hbn.mono HBW4.out.size))
       have HN4 := Lib.hid (HQ4.out.trans (hbn.mono HQ4.out.size))
       have hi6 := HG4.out.1.below hbn (Nat.le_refl _)
       have ha6 := HG4.out.2.below hbn (Nat.le_refl _)
       have ho6 := HO4.out.below hbn (Nat.le_refl _)
       change Code.wp _ _ _ _ (w5.alloc (.cells #[.slice v4a I2.length v4c, .slice v4b C2.length v4d] 25))
       generalize w5.alloc (.cells #[.slice v4a I2.length v4c, .slice v4b C2.length v4d] 25) = V4 at *
       generalize w5.heap.size = g4 at *
       have HC4 : Hid (∀ X, Below V4.heap.size V4 X → X.cell? ⟨g4, 0, none⟩ = some (.slice v4a I2.length v4c) ∧ X.cell? ⟨g4, 1, none⟩ = some (.slice v4b C2.length v4d)) := fun X hX => hxn.below hX (by rw [hzn]; omega)
       have HV4 : Hid (∀ X, Below V4.heap.size V4 X → IsInts X (.slice v4a I2.length v4c) I2 ∧ IsPairs X (.slice v4b C2.length v4d) C2 ∧ IsInts X (.slice v4u U2.length v4w) U2) := fun X hX => ⟨hi6.below hX (Nat.le_refl _), ha6.below hX (Nat.le_refl _), ho6.below hX (Nat.le_refl _)⟩
       have HD4 : Hid (∀ X, Below V4.heap.size V4 X → Below W0.heap.size W0 X) := fun X hX => HBV4.out.trans (hX.mono HBV4.out.size)
       clear hbn hxn hzn hi6 ha6 ho6 HG4 HO4 HBW4 HQ4
       obtain ⟨p0, p1⟩ := HXC.out V4 HBV4.out
       have HL3 : Hid (∀ X, Below V4.heap.size V4 X → Below V3.heap.size V3 X) := fun X hX => HN4.out.trans (hX.mono HN4.out.size)
       have HL2 : Hid (∀ X, Below V4.heap.size V4 X → Below V2.heap.size V2 X) := fun X hX => HN3.out.trans ((HL3.out X hX).mono HN3.out.size)
       have HL1 : Hid (∀ X, Below V4.heap.size V4 X → Below V1.heap.size V1 X) := fun X hX => HN2.out.trans ((HL2.out X hX).mono HN2.out.size)
       have HZ4 : Hid (Below V4.heap.size V4 V4) := Below.refl _ _
       clear p0 p1
       obtain ⟨b0, b1⟩ := HC1.out V4 (HL1.out _ HZ4.out)
       obtain ⟨e0, e1⟩ := HC2.out V4 (HL2.out _ HZ4.out)
       have hc1 : (c1 == c1) = true := by simp
       have hc2 : (c2 == c2) = true := by simp
       go_wp2_with (first
         | (go_at_call 13; refine (works6_any _).mono ?_; rintro e w10 ⟨rfl, hb10⟩)
         | (go_at_call 26; refine (HIN.out U2 _ _ w8 (HV3.out _ (HL3.out _ HB8.out)).2.2 (HV4.out _ HB8.out).2.2).mono ?_; rintro e w9 ⟨rfl, hb⟩; have HB9 := Lib.hid (HB8.out.trans (hb.mono HB8.out.size)); clear hb)
         | (go_at_call 25; refine (HSM.out I2 C2 w7 _ _ _ _ (HV3.out _ (HL3.out _ HB7.out)).1 (HV3.out _ (HL3.out _ HB7.out)).2.1 (HV4.out _ HB7.out).1 (HV4.out _ HB7.out).2.1).mono ?_; rintro e w8 ⟨rfl, hb⟩; have HB8 := Lib.hid (HB7.out.trans (hb.mono HB7.out.size)); clear hb)
         | (go_at_call 26; refine (HIN.out U1 _ _ w6 (HV1.out _ (HL1.out _ HB6.out)).2.2 (HV2.out _ (HL2.out _ HB6.out)).2.2).mono ?_; rintro e w7 ⟨rfl, hb⟩; have HB7 := Lib.hid (HB6.out.trans (hb.mono HB6.out.size)); clear hb; obtain ⟨m0, m1⟩ := HC3.out w7 (HL3.out _ HB7.out); obtain ⟨n0, n1⟩ := HC4.out w7 HB7.out)
         | (go_at_call 25; refine (HSM.out I1 C1 V4 _ _ _ _ (HV1.out _ (HL1.out _ HZ4.out)).1 (HV1.out _ (HL1.out _ HZ4.out)).2.1 (HV2.out _ (HL2.out _ HZ4.out)).1 (HV2.out _ (HL2.out _ HZ4.out)).2.1).mono ?_; rintro e w6 ⟨rfl, hb⟩; have HB6 := Lib.hid hb; clear hb b0 b1 e0 e1))
       go_ret
       exact ⟨rfl, HB0.out.trans ((HD4.out _ (HB9.out.trans (hb10.mono HB9.out.size))).mono HB0.out.size)⟩
end Go.Proofs.YtfghjfljomcldaaGreat
