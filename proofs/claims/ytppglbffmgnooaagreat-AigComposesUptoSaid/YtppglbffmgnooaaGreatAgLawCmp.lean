/- The law AigComposes, walked. -/
import Derived.Test.YtppglbffmgnooaaGreatAgWorks
import Derived.Test.YtppglbffmgnooaaGreatA13
import Derived.Test.YtppglbffmgnooaaGreatAgRComp
import Derived.Test.YtppglbffmgnooaaGreatB02
import Derived.Test.YtppglbffmgnooaaGreatAgRSame
namespace Go.Proofs.YtppglbffmgnooaaGreat
open Go.RowKit Go.Maps
set_option linter.unusedVariables false
set_option linter.unusedSimpArgs false

theorem sameA_co (I : List Int) (A : List Pr) : sameA I A I A = true := by unfold sameA; simp [sameB]
theorem sameB_co (l : List Int) : sameB l l = true := by simp [sameB]
theorem great_co (vi va vj vc : Value) (I J : List Int) (A C : List Pr) (X : World) (HI : IsInts X vi I) (HA : IsPairs X va A) (HJ : IsInts X vj J) (HC : IsPairs X vc C) (h1 : I.length ≤ 4000000) (h2 : A.length ≤ 4000000) (h3 : J.length ≤ 4000000) (h4 : C.length ≤ 4000000) :
    Calls Tryz.prog 12 #[.slice (some ⟨X.heap.size, 0, none⟩) 2 2] (X.alloc (.cells #[vi, va, vj, vc] 25)) fun e w' => e = .returned (.bool (manyA I A || manyA J C)) ∧ Below X.heap.size X w' := by
  have hb := below_alloc1 X (.cells #[vi, va, vj, vc] 25)
  refine (great6_any [(vi, va, I, A), (vj, vc, J, C)] X.heap.size _ (by simp) (by simp) (fun j hj => ?_)).mono ?_
  · match j, hj with
    | 0, _ => exact ⟨cell_fresh rfl, cell_fresh rfl, HI.below hb (Nat.le_refl _), HA.below hb (Nat.le_refl _), h1, h2⟩
    | 1, _ => exact ⟨cell_fresh rfl, cell_fresh rfl, HJ.below hb (Nat.le_refl _), HC.below hb (Nat.le_refl _), h3, h4⟩
    | j + 2, hj => simp at hj; omega
  · rintro e w' ⟨rfl, h2⟩
    exact ⟨by simp, hb.trans (h2.mono (by simp))⟩
theorem boxes_co (w : World) (a b c d : Value) : Below w.heap.size w ((w.alloc (.cells #[a, b] 25)).alloc (.cells #[c, d] 25)) ∧
    (((w.alloc (.cells #[a, b] 25)).alloc (.cells #[c, d] 25)).cell? ⟨w.heap.size, 0, none⟩ = some a ∧ ((w.alloc (.cells #[a, b] 25)).alloc (.cells #[c, d] 25)).cell? ⟨w.heap.size, 1, none⟩ = some b) ∧
    (((w.alloc (.cells #[a, b] 25)).alloc (.cells #[c, d] 25)).cell? ⟨w.heap.size + 1, 0, none⟩ = some c ∧ ((w.alloc (.cells #[a, b] 25)).alloc (.cells #[c, d] 25)).cell? ⟨w.heap.size + 1, 1, none⟩ = some d) := by
  have hb1 := below_alloc1 w (.cells #[a, b] 25)
  have hb2 := below_alloc1 (w.alloc (.cells #[a, b] 25)) (.cells #[c, d] 25)
  have hx := boxA_new w a b
  have hy := boxA_new (w.alloc (.cells #[a, b] 25)) c d
  rw [World.size_alloc] at hy
  exact ⟨hb1.trans (hb2.mono hb1.size), ⟨(hb2.cell (p := ⟨w.heap.size, 0, none⟩) (by show w.heap.size < _; simp)).trans hx.1, (hb2.cell (p := ⟨w.heap.size, 1, none⟩) (by show w.heap.size < _; simp)).trans hx.2⟩, hy⟩

set_option maxRecDepth 100000 in
set_option maxHeartbeats 12800000 in
theorem aigcomposes_any (vi va vx vj vc vy vb : Value) (I : List Int) (A : List Pr) (x J : List Int) (C : List Pr) (y : List Int) (B : List Pr) (w : World) (HI : IsInts w vi I) (HA : IsPairs w va A) (HX : IsInts w vx x) (HJ : IsInts w vj J) (HC : IsPairs w vc C) (HY : IsInts w vy y) (HB : IsPairs w vb B)
    (h1 : I.length ≤ 4000000) (h2 : A.length ≤ 4000000) (h3 : J.length ≤ 4000000) (h4 : C.length ≤ 4000000) (h5 : x.length ≤ 4000000) (h6 : y.length ≤ 4000000) (h7 : B.length ≤ 4000000) :
    Calls Tryz.prog 6 #[.agg #[vi, va], vx, .agg #[vj, vc], vy, vb] w fun e w' => e = .returned (.bool true) ∧ Below w.heap.size w w' := by
  obtain ⟨ia, ic, rfl⟩ := HI.shape
  obtain ⟨ga, gc, rfl, _⟩ := HA.shape
  obtain ⟨xa, xc, rfl⟩ := HX.shape
  obtain ⟨ja, jc, rfl⟩ := HJ.shape
  obtain ⟨ca, cc, rfl, _⟩ := HC.shape
  obtain ⟨ya, yc, rfl⟩ := HY.shape
  obtain ⟨ba, bc, rfl, _⟩ := HB.shape
  obtain ⟨hb0, hp, hq⟩ := boxes_co w (.slice ia I.length ic) (.slice ga A.length gc) (.slice ja J.length jc) (.slice ca C.length cc)
  obtain ⟨W0, hW0⟩ : ∃ W0, (w.alloc (.cells #[.slice ia I.length ic, .slice ga A.length gc] 25)).alloc (.cells #[.slice ja J.length jc, .slice ca C.length cc] 25) = W0 := ⟨_, rfl⟩
  have hz0 : W0.heap.size = w.heap.size + 1 + 1 := by rw [← hW0, World.size_alloc, World.size_alloc]
  rw [hW0] at hb0 hp hq
  have HXC : Hid (∀ X, Below W0.heap.size W0 X → (X.cell? ⟨w.heap.size, 0, none⟩ = some (.slice ia I.length ic) ∧ X.cell? ⟨w.heap.size, 1, none⟩ = some (.slice ga A.length gc)) ∧ X.cell? ⟨w.heap.size + 1, 0, none⟩ = some (.slice ja J.length jc) ∧ X.cell? ⟨w.heap.size + 1, 1, none⟩ = some (.slice ca C.length cc)) := fun X hX => ⟨⟨(hX.cell (p := ⟨w.heap.size, 0, none⟩) (by show w.heap.size < _; omega)).trans hp.1, (hX.cell (p := ⟨w.heap.size, 1, none⟩) (by show w.heap.size < _; omega)).trans hp.2⟩, (hX.cell (p := ⟨w.heap.size + 1, 0, none⟩) (by show w.heap.size + 1 < _; omega)).trans hq.1, (hX.cell (p := ⟨w.heap.size + 1, 1, none⟩) (by show w.heap.size + 1 < _; omega)).trans hq.2⟩
  have HW0 : Hid ((w.alloc (.cells #[.slice ia I.length ic, .slice ga A.length gc] 25)).alloc (.cells #[.slice ja J.length jc, .slice ca C.length cc] 25) = W0) := hW0
  have HB0 := Lib.hid hb0
  have HUPG : Hid (∀ X, Below W0.heap.size W0 X → (IsInts X (.slice ia I.length ic) I ∧ IsPairs X (.slice ga A.length gc) A) ∧ (IsInts X (.slice ja J.length jc) J ∧ IsPairs X (.slice ca C.length cc) C) ∧ (IsInts X (.slice xa x.length xc) x ∧ IsInts X (.slice ya y.length yc) y) ∧ IsPairs X (.slice ba B.length bc) B) := fun X hX => ⟨⟨(HI.below hb0 (Nat.le_refl _)).below hX (Nat.le_refl _), (HA.below hb0 (Nat.le_refl _)).below hX (Nat.le_refl _)⟩, ⟨(HJ.below hb0 (Nat.le_refl _)).below hX (Nat.le_refl _), (HC.below hb0 (Nat.le_refl _)).below hX (Nat.le_refl _)⟩, ⟨(HX.below hb0 (Nat.le_refl _)).below hX (Nat.le_refl _), (HY.below hb0 (Nat.le_refl _)).below hX (Nat.le_refl _)⟩, (HB.below hb0 (Nat.le_refl _)).below hX (Nat.le_refl _)⟩
  have H1 : Hid (Calls Tryz.prog 12 #[.slice (some ⟨W0.heap.size, 0, none⟩) 2 2] (W0.alloc (.cells #[.slice ia I.length ic, .slice ga A.length gc, .slice ja J.length jc, .slice ca C.length cc] 25)) fun e w' => e = .returned (.bool (manyA I A || manyA J C)) ∧ Below W0.heap.size W0 w') := by
    have hu := HUPG.out W0 (Below.refl _ _)
    exact great_co _ _ _ _ I J A C W0 hu.1.1 hu.1.2 hu.2.1.1 hu.2.1.2 h1 h2 h3 h4
  obtain ⟨⟨p0, p1⟩, q0, q1⟩ := HXC.out W0 (Below.refl _ _)
  clear HI HA HX HJ HC HY HB hb0 hp hq hW0 hz0
  cases hm : (manyA I A || manyA J C) with
  | true =>
    rw [hm] at H1
    clear hm
    go_enter Tryz.func6, Tryz.ntmps6
    go_upto_region 1 with fail
    rw [HW0.out]
    go_wp2_with (first
      | (go_at_call 12; refine H1.out.mono ?_; rintro e w1 ⟨rfl, hb1⟩)
      | (go_at_call 13; refine (works6_any _).mono ?_; rintro e w2 ⟨rfl, hb2⟩))
    go_ret
    exact ⟨rfl, HB0.out.trans ((hb1.trans (hb2.mono hb1.size)).mono HB0.out.size)⟩
  | false =>
   rw [hm] at H1
   clear hm
   by_cases cx : 100 < x.length
   · have d0 : decide ((100 : Int) < (x.length : Int)) = true := decide_eq_true (by omega)
     generalize x.length = ln at *
     clear cx
     go_enter Tryz.func6, Tryz.ntmps6
     go_upto_region 1 with fail
     rw [HW0.out]
     go_wp2_with (first
       | (go_at_call 12; refine H1.out.mono ?_; rintro e w1 ⟨rfl, hb1⟩)
       | (go_at_call 13; refine (works6_any _).mono ?_; rintro e w2 ⟨rfl, hb2⟩))
     go_ret
     exact ⟨rfl, HB0.out.trans ((hb1.trans (hb2.mono hb1.size)).mono HB0.out.size)⟩
   · have d0 : decide ((100 : Int) < (x.length : Int)) = false := decide_eq_false (by omega)
     by_cases cy : 100 < y.length
     · have d1 : decide ((100 : Int) < (y.length : Int)) = true := decide_eq_true (by omega)
       generalize y.length = ln at *
       clear cx cy
       go_enter Tryz.func6, Tryz.ntmps6
       go_upto_region 1 with fail
       rw [HW0.out]
       go_wp2_with (first
         | (go_at_call 12; refine H1.out.mono ?_; rintro e w1 ⟨rfl, hb1⟩)
         | (go_at_call 13; refine (works6_any _).mono ?_; rintro e w2 ⟨rfl, hb2⟩))
       go_ret
       exact ⟨rfl, HB0.out.trans ((hb1.trans (hb2.mono hb1.size)).mono HB0.out.size)⟩
     · have d1 : decide ((100 : Int) < (y.length : Int)) = false := decide_eq_false (by omega)
       by_cases cb : 100 < B.length
       · have d2 : decide ((100 : Int) < (B.length : Int)) = true := decide_eq_true (by omega)
         generalize B.length = ln at *
         clear cx cy cb
         go_enter Tryz.func6, Tryz.ntmps6
         go_upto_region 1 with fail
         rw [HW0.out]
         go_wp2_with (first
           | (go_at_call 12; refine H1.out.mono ?_; rintro e w1 ⟨rfl, hb1⟩)
           | (go_at_call 13; refine (works6_any _).mono ?_; rintro e w2 ⟨rfl, hb2⟩))
         go_ret
         exact ⟨rfl, HB0.out.trans ((hb1.trans (hb2.mono hb1.size)).mono HB0.out.size)⟩
       · have d2 : decide ((100 : Int) < (B.length : Int)) = false := decide_eq_false (by omega)
         have hu1 := comp_bd (I := I) (A := A) (l := x) (B := B)
         have hu2 := join_bd (I := I) (A := A) (x := x) (J := J) (B := C) (y := y)
         have hl0 : x.length ≤ 100 ∧ y.length ≤ 100 := ⟨by omega, by omega⟩
         have HCA : Hid (∀ X, Below W0.heap.size W0 X → Calls Tryz.prog 36 #[.agg #[.slice ia I.length ic, .slice ga A.length gc], .slice xa x.length xc, .slice ba B.length bc] X (ResPost X (composeR I A x B))) := fun X hX => gcompose_any _ _ _ _ I A x B X (HUPG.out X hX).1.1 (HUPG.out X hX).1.2 (HUPG.out X hX).2.2.1.1 (HUPG.out X hX).2.2.2 h1 h2 h7
         have HCB : Hid (∀ X, Below W0.heap.size W0 X → Calls Tryz.prog 37 #[.agg #[.slice ia I.length ic, .slice ga A.length gc], .slice xa x.length xc, .slice ba B.length bc] X (RGPost X (composeR I A x B))) := fun X hX => rcompose_any _ _ _ _ I A x B X (HUPG.out X hX).1.1 (HUPG.out X hX).1.2 (HUPG.out X hX).2.2.1.1 (HUPG.out X hX).2.2.2 h1 h2 h7
         have HCC : Hid (∀ X, Below W0.heap.size W0 X → Calls Tryz.prog 38 #[.agg #[.slice ia I.length ic, .slice ga A.length gc], .slice xa x.length xc, .agg #[.slice ja J.length jc, .slice ca C.length cc], .slice ya y.length yc] X (GJoinPost X (gjoinR I A x J C y))) := fun X hX => gjoin_any _ _ _ _ _ _ I A x J C y X (HUPG.out X hX).1.1 (HUPG.out X hX).1.2 (HUPG.out X hX).2.2.1.1 (HUPG.out X hX).2.1.1 (HUPG.out X hX).2.1.2 (HUPG.out X hX).2.2.1.2 h1 h2 h3 h4
         have HCD : Hid (∀ X, Below W0.heap.size W0 X → Calls Tryz.prog 39 #[.agg #[.slice ia I.length ic, .slice ga A.length gc], .slice xa x.length xc, .agg #[.slice ja J.length jc, .slice ca C.length cc], .slice ya y.length yc] X (RJPost X (gjoinR I A x J C y))) := fun X hX => rjoin_any _ _ _ _ _ _ I A x J C y X (HUPG.out X hX).1.1 (HUPG.out X hX).1.2 (HUPG.out X hX).2.2.1.1 (HUPG.out X hX).2.1.1 (HUPG.out X hX).2.1.2 (HUPG.out X hX).2.2.1.2 h1 h2 h3 h4
         have HSM : Hid (∀ (J : List Int) (C : List Pr) X v1 v2 v3 v4, IsInts X v1 J → IsPairs X v2 C → IsInts X v3 J → IsPairs X v4 C → Calls Tryz.prog 25 #[.agg #[v1, v2], .agg #[v3, v4]] X fun e w' => e = .returned (.bool true) ∧ Below X.heap.size X w') := fun J C X v1 v2 v3 v4 e1 e2 e3 e4 => (rsame6_any _ _ _ _ J C J C X e1 e2 e3 e4).mono fun e w' h => ⟨by rw [h.1, sameA_co], h.2⟩
         have HIN : Hid (∀ (L : List Int) (v u : Value) (X : World), IsInts X v L → IsInts X u L → Calls Tryz.prog 26 #[v, u] X fun e w' => e = .returned (.bool true) ∧ Below X.heap.size X w') := fun L v u X h1 h2 => (ints5_any v u L L X h1 h2).mono (by
           rintro e w' ⟨rfl, h3⟩
           exact ⟨by rw [sameB_co], h3.below _⟩)
         generalize composeR I A x B = r1 at *
         generalize gjoinR I A x J C y = r2 at *
         obtain ⟨⟨I1, C1⟩, U1, c1⟩ := r1
         obtain ⟨⟨I2, C2⟩, U2, T2, c2⟩ := r2
         simp only at hu1 hu2
         have HU1 := Lib.hid hu1
         have HU2 := Lib.hid hu2.1
         have HT2 := Lib.hid hu2.2
         have HLB := Lib.hid hl0
         clear hu1 hu2 cx cy cb hl0
         go_enter Tryz.func6, Tryz.ntmps6
         go_upto_region 1 with fail
         rw [HW0.out]
         go_upto_region 3 with (go_at_call 12; refine H1.out.mono ?_; rintro e w1 ⟨rfl, hb1⟩; have HBV0 := Lib.hid hb1; clear hb1 p0 p1 q0 q1; obtain ⟨⟨p0, p1⟩, q0, q1⟩ := HXC.out w1 HBV0.out)
         clear d0 d1 d2 H1
         go_upto_region 4 with (go_at_call 36; go_loud (refine (HCA.out w1 HBV0.out).mono ?_; rintro e w2 ⟨z1, z2, zzu, rfl, hg, hou, hb⟩; obtain ⟨v1a, v1c, rfl⟩ := hg.ints.1.shape; obtain ⟨v1b, v1d, rfl, _⟩ := hg.ints.2.shape; have HG1 := Lib.hid hg.ints; obtain ⟨v1u, v1uw, rfl⟩ := own_shC hou; have HO1u := Lib.hid (hou.ints (by have := HU1.out.1; have := HLB.out.1; show U1.length ≤ _; omega) HU1.out.2); have HBW1 := Lib.hid (HBV0.out.trans (hb.mono HBV0.out.size)); have HQ1 := Lib.hid hb; clear hg hou hb p0 p1 q0 q1))
         have hbn := below_alloc1 w2 (.cells #[.slice v1a I1.length v1c, .slice v1b C1.length v1d] 25)
         have hxn := boxA_new w2 (.slice v1a I1.length v1c) (.slice v1b C1.length v1d)
         have hzn : (w2.alloc (.cells #[.slice v1a I1.length v1c, .slice v1b C1.length v1d] 25)).heap.size = w2.heap.size + 1 := by rw [World.size_alloc]
         have HBV1 := Lib.hid (HBW1.out.trans (hbn.mono HBW1.out.size))
         have HN1 := Lib.hid (HQ1.out.trans (hbn.mono HQ1.out.size))
         have hi6 := HG1.out.1.below hbn (Nat.le_refl _)
         have ha6 := HG1.out.2.below hbn (Nat.le_refl _)
         have hu6u := HO1u.out.below hbn (Nat.le_refl _)
         change Code.wp _ _ _ _ (w2.alloc (.cells #[.slice v1a I1.length v1c, .slice v1b C1.length v1d] 25))
         generalize w2.alloc (.cells #[.slice v1a I1.length v1c, .slice v1b C1.length v1d] 25) = V1 at *
         generalize w2.heap.size = g1 at *
         have HC1 : Hid (∀ X, Below V1.heap.size V1 X → X.cell? ⟨g1, 0, none⟩ = some (.slice v1a I1.length v1c) ∧ X.cell? ⟨g1, 1, none⟩ = some (.slice v1b C1.length v1d)) := fun X hX => hxn.below hX (by rw [hzn]; omega)
         have HV1 : Hid (∀ X, Below V1.heap.size V1 X → IsInts X (.slice v1a I1.length v1c) I1 ∧ IsPairs X (.slice v1b C1.length v1d) C1 ∧ IsInts X (.slice v1u U1.length v1uw) U1) := fun X hX => ⟨hi6.below hX (Nat.le_refl _), ha6.below hX (Nat.le_refl _), hu6u.below hX (Nat.le_refl _)⟩
         have HD1 : Hid (∀ X, Below V1.heap.size V1 X → Below W0.heap.size W0 X) := fun X hX => HBV1.out.trans (hX.mono HBV1.out.size)
         clear hbn hxn hzn hi6 ha6 hu6u HG1 HO1u HBW1 HQ1
         obtain ⟨⟨p0, p1⟩, q0, q1⟩ := HXC.out V1 HBV1.out
         go_upto_region 5 with (go_at_call 37; go_loud (refine (HCB.out V1 HBV1.out).mono ?_; rintro e w3 ⟨z1, z2, zzu, rfl, hg, hou, hb⟩; obtain ⟨v2a, v2c, rfl⟩ := hg.1.shape; obtain ⟨v2b, v2d, rfl, _⟩ := hg.2.shape; have HG2 := Lib.hid hg; obtain ⟨v2u, v2uw, rfl⟩ := hou.shape; have HO2u := Lib.hid hou; have HBW2 := Lib.hid (HBV1.out.trans (hb.mono HBV1.out.size)); have HQ2 := Lib.hid hb; clear hg hou hb p0 p1 q0 q1))
         have hbn := below_alloc1 w3 (.cells #[.slice v2a I1.length v2c, .slice v2b C1.length v2d] 25)
         have hxn := boxA_new w3 (.slice v2a I1.length v2c) (.slice v2b C1.length v2d)
         have hzn : (w3.alloc (.cells #[.slice v2a I1.length v2c, .slice v2b C1.length v2d] 25)).heap.size = w3.heap.size + 1 := by rw [World.size_alloc]
         have HBV2 := Lib.hid (HBW2.out.trans (hbn.mono HBW2.out.size))
         have HN2 := Lib.hid (HQ2.out.trans (hbn.mono HQ2.out.size))
         have hi6 := HG2.out.1.below hbn (Nat.le_refl _)
         have ha6 := HG2.out.2.below hbn (Nat.le_refl _)
         have hu6u := HO2u.out.below hbn (Nat.le_refl _)
         change Code.wp _ _ _ _ (w3.alloc (.cells #[.slice v2a I1.length v2c, .slice v2b C1.length v2d] 25))
         generalize w3.alloc (.cells #[.slice v2a I1.length v2c, .slice v2b C1.length v2d] 25) = V2 at *
         generalize w3.heap.size = g2 at *
         have HC2 : Hid (∀ X, Below V2.heap.size V2 X → X.cell? ⟨g2, 0, none⟩ = some (.slice v2a I1.length v2c) ∧ X.cell? ⟨g2, 1, none⟩ = some (.slice v2b C1.length v2d)) := fun X hX => hxn.below hX (by rw [hzn]; omega)
         have HV2 : Hid (∀ X, Below V2.heap.size V2 X → IsInts X (.slice v2a I1.length v2c) I1 ∧ IsPairs X (.slice v2b C1.length v2d) C1 ∧ IsInts X (.slice v2u U1.length v2uw) U1) := fun X hX => ⟨hi6.below hX (Nat.le_refl _), ha6.below hX (Nat.le_refl _), hu6u.below hX (Nat.le_refl _)⟩
         have HD2 : Hid (∀ X, Below V2.heap.size V2 X → Below W0.heap.size W0 X) := fun X hX => HBV2.out.trans (hX.mono HBV2.out.size)
         clear hbn hxn hzn hi6 ha6 hu6u HG2 HO2u HBW2 HQ2
         obtain ⟨⟨p0, p1⟩, q0, q1⟩ := HXC.out V2 HBV2.out
         go_upto_region 6 with (go_at_call 38; go_loud (refine (HCC.out V2 HBV2.out).mono ?_; rintro e w4 ⟨z1, z2, zzu, zzt, rfl, hg, hou, hot, hb⟩; obtain ⟨v3a, v3c, rfl⟩ := hg.ints.1.shape; obtain ⟨v3b, v3d, rfl, _⟩ := hg.ints.2.shape; have HG3 := Lib.hid hg.ints; obtain ⟨v3u, v3uw, rfl⟩ := own_shC hou; have HO3u := Lib.hid (hou.ints (by have := HU2.out.1; have := HLB.out.1; show U2.length ≤ _; omega) HU2.out.2); obtain ⟨v3t, v3tw, rfl⟩ := own_shC hot; have HO3t := Lib.hid (hot.ints (by have := HT2.out.1; have := HLB.out.2; show T2.length ≤ _; omega) HT2.out.2); have HBW3 := Lib.hid (HBV2.out.trans (hb.mono HBV2.out.size)); have HQ3 := Lib.hid hb; clear hg hou hot hb p0 p1 q0 q1))
         have hbn := below_alloc1 w4 (.cells #[.slice v3a I2.length v3c, .slice v3b C2.length v3d] 25)
         have hxn := boxA_new w4 (.slice v3a I2.length v3c) (.slice v3b C2.length v3d)
         have hzn : (w4.alloc (.cells #[.slice v3a I2.length v3c, .slice v3b C2.length v3d] 25)).heap.size = w4.heap.size + 1 := by rw [World.size_alloc]
         have HBV3 := Lib.hid (HBW3.out.trans (hbn.mono HBW3.out.size))
         have HN3 := Lib.hid (HQ3.out.trans (hbn.mono HQ3.out.size))
         have hi6 := HG3.out.1.below hbn (Nat.le_refl _)
         have ha6 := HG3.out.2.below hbn (Nat.le_refl _)
         have hu6u := HO3u.out.below hbn (Nat.le_refl _)
         have hu6t := HO3t.out.below hbn (Nat.le_refl _)
         change Code.wp _ _ _ _ (w4.alloc (.cells #[.slice v3a I2.length v3c, .slice v3b C2.length v3d] 25))
         generalize w4.alloc (.cells #[.slice v3a I2.length v3c, .slice v3b C2.length v3d] 25) = V3 at *
         generalize w4.heap.size = g3 at *
         have HC3 : Hid (∀ X, Below V3.heap.size V3 X → X.cell? ⟨g3, 0, none⟩ = some (.slice v3a I2.length v3c) ∧ X.cell? ⟨g3, 1, none⟩ = some (.slice v3b C2.length v3d)) := fun X hX => hxn.below hX (by rw [hzn]; omega)
         have HV3 : Hid (∀ X, Below V3.heap.size V3 X → IsInts X (.slice v3a I2.length v3c) I2 ∧ IsPairs X (.slice v3b C2.length v3d) C2 ∧ IsInts X (.slice v3u U2.length v3uw) U2 ∧ IsInts X (.slice v3t T2.length v3tw) T2) := fun X hX => ⟨hi6.below hX (Nat.le_refl _), ha6.below hX (Nat.le_refl _), hu6u.below hX (Nat.le_refl _), hu6t.below hX (Nat.le_refl _)⟩
         have HD3 : Hid (∀ X, Below V3.heap.size V3 X → Below W0.heap.size W0 X) := fun X hX => HBV3.out.trans (hX.mono HBV3.out.size)
         clear hbn hxn hzn hi6 ha6 hu6u hu6t HG3 HO3u HO3t HBW3 HQ3
         obtain ⟨⟨p0, p1⟩, q0, q1⟩ := HXC.out V3 HBV3.out
         go_upto_region 7 with (go_at_call 39; go_loud (refine (HCD.out V3 HBV3.out).mono ?_; rintro e w5 ⟨z1, z2, zzu, zzt, rfl, hg, hou, hot, hb⟩; obtain ⟨v4a, v4c, rfl⟩ := hg.1.shape; obtain ⟨v4b, v4d, rfl, _⟩ := hg.2.shape; have HG4 := Lib.hid hg; obtain ⟨v4u, v4uw, rfl⟩ := hou.shape; have HO4u := Lib.hid hou; obtain ⟨v4t, v4tw, rfl⟩ := hot.shape; have HO4t := Lib.hid hot; have HBW4 := Lib.hid (HBV3.out.trans (hb.mono HBV3.out.size)); have HQ4 := Lib.hid hb; clear hg hou hot hb p0 p1 q0 q1))
         have hbn := below_alloc1 w5 (.cells #[.slice v4a I2.length v4c, .slice v4b C2.length v4d] 25)
         have hxn := boxA_new w5 (.slice v4a I2.length v4c) (.slice v4b C2.length v4d)
         have hzn : (w5.alloc (.cells #[.slice v4a I2.length v4c, .slice v4b C2.length v4d] 25)).heap.size = w5.heap.size + 1 := by rw [World.size_alloc]
         have HBV4 := Lib.hid (HBW4.out.trans (hbn.mono HBW4.out.size))
         have HN4 := Lib.hid (HQ4.out.trans (hbn.mono HQ4.out.size))
         have hi6 := HG4.out.1.below hbn (Nat.le_refl _)
         have ha6 := HG4.out.2.below hbn (Nat.le_refl _)
         have hu6u := HO4u.out.below hbn (Nat.le_refl _)
         have hu6t := HO4t.out.below hbn (Nat.le_refl _)
         change Code.wp _ _ _ _ (w5.alloc (.cells #[.slice v4a I2.length v4c, .slice v4b C2.length v4d] 25))
         generalize w5.alloc (.cells #[.slice v4a I2.length v4c, .slice v4b C2.length v4d] 25) = V4 at *
         generalize w5.heap.size = g4 at *
         have HC4 : Hid (∀ X, Below V4.heap.size V4 X → X.cell? ⟨g4, 0, none⟩ = some (.slice v4a I2.length v4c) ∧ X.cell? ⟨g4, 1, none⟩ = some (.slice v4b C2.length v4d)) := fun X hX => hxn.below hX (by rw [hzn]; omega)
         have HV4 : Hid (∀ X, Below V4.heap.size V4 X → IsInts X (.slice v4a I2.length v4c) I2 ∧ IsPairs X (.slice v4b C2.length v4d) C2 ∧ IsInts X (.slice v4u U2.length v4uw) U2 ∧ IsInts X (.slice v4t T2.length v4tw) T2) := fun X hX => ⟨hi6.below hX (Nat.le_refl _), ha6.below hX (Nat.le_refl _), hu6u.below hX (Nat.le_refl _), hu6t.below hX (Nat.le_refl _)⟩
         have HD4 : Hid (∀ X, Below V4.heap.size V4 X → Below W0.heap.size W0 X) := fun X hX => HBV4.out.trans (hX.mono HBV4.out.size)
         clear hbn hxn hzn hi6 ha6 hu6u hu6t HG4 HO4u HO4t HBW4 HQ4
         obtain ⟨⟨p0, p1⟩, q0, q1⟩ := HXC.out V4 HBV4.out
         have HL3 : Hid (∀ X, Below V4.heap.size V4 X → Below V3.heap.size V3 X) := fun X hX => HN4.out.trans (hX.mono HN4.out.size)
         have HL2 : Hid (∀ X, Below V4.heap.size V4 X → Below V2.heap.size V2 X) := fun X hX => HN3.out.trans ((HL3.out X hX).mono HN3.out.size)
         have HL1 : Hid (∀ X, Below V4.heap.size V4 X → Below V1.heap.size V1 X) := fun X hX => HN2.out.trans ((HL2.out X hX).mono HN2.out.size)
         have HZ4 : Hid (Below V4.heap.size V4 V4) := Below.refl _ _
         clear p0 p1 q0 q1
         obtain ⟨b0, b1⟩ := HC1.out V4 (HL1.out _ HZ4.out)
         obtain ⟨e0, e1⟩ := HC2.out V4 (HL2.out _ HZ4.out)
         have hc1 : (c1 == c1) = true := by simp
         have hc2 : (c2 == c2) = true := by simp
         go_wp2_with (first
           | (go_at_call 13; refine (works6_any _).mono ?_; rintro e w11 ⟨rfl, hb11⟩)
           | (go_at_call 26; refine (HIN.out T2 _ _ w9 (HV3.out _ (HL3.out _ HB9.out)).2.2.2 (HV4.out _ HB9.out).2.2.2).mono ?_; rintro e w10 ⟨rfl, hb⟩; have HB10 := Lib.hid (HB9.out.trans (hb.mono HB9.out.size)); clear hb)
           | (go_at_call 26; refine (HIN.out U2 _ _ w8 (HV3.out _ (HL3.out _ HB8.out)).2.2.1 (HV4.out _ HB8.out).2.2.1).mono ?_; rintro e w9 ⟨rfl, hb⟩; have HB9 := Lib.hid (HB8.out.trans (hb.mono HB8.out.size)); clear hb)
           | (go_at_call 25; refine (HSM.out I2 C2 w7 _ _ _ _ (HV3.out _ (HL3.out _ HB7.out)).1 (HV3.out _ (HL3.out _ HB7.out)).2.1 (HV4.out _ HB7.out).1 (HV4.out _ HB7.out).2.1).mono ?_; rintro e w8 ⟨rfl, hb⟩; have HB8 := Lib.hid (HB7.out.trans (hb.mono HB7.out.size)); clear hb m0 m1 n0 n1)
           | (go_at_call 26; refine (HIN.out U1 _ _ w6 (HV1.out _ (HL1.out _ HB6.out)).2.2 (HV2.out _ (HL2.out _ HB6.out)).2.2).mono ?_; rintro e w7 ⟨rfl, hb⟩; have HB7 := Lib.hid (HB6.out.trans (hb.mono HB6.out.size)); clear hb; obtain ⟨m0, m1⟩ := HC3.out w7 (HL3.out _ HB7.out); obtain ⟨n0, n1⟩ := HC4.out w7 HB7.out)
           | (go_at_call 25; refine (HSM.out I1 C1 V4 _ _ _ _ (HV1.out _ (HL1.out _ HZ4.out)).1 (HV1.out _ (HL1.out _ HZ4.out)).2.1 (HV2.out _ (HL2.out _ HZ4.out)).1 (HV2.out _ (HL2.out _ HZ4.out)).2.1).mono ?_; rintro e w6 ⟨rfl, hb⟩; have HB6 := Lib.hid hb; clear hb b0 b1 e0 e1))
         go_ret
         exact ⟨rfl, HB0.out.trans ((HD4.out _ (HB10.out.trans (hb11.mono HB10.out.size))).mono HB0.out.size)⟩
end Go.Proofs.YtppglbffmgnooaaGreat
