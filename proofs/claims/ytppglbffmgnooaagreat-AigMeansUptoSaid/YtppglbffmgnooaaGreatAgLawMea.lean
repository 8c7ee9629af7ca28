/- The law AigMeans, walked: where all its guards let it through. -/
import Derived.Test.YtppglbffmgnooaaGreatAgLawMeX
namespace Go.Proofs.YtppglbffmgnooaaGreat
open Go.RowKit Go.Maps Go.Shelf
set_option linter.unusedVariables false
set_option linter.unusedSimpArgs false

set_option maxRecDepth 100000 in
set_option maxHeartbeats 25600000 in
theorem aigmeans_main (vi va vj vc vl vx vf vb : Value) (I : List Int) (A : List Pr) (J : List Int) (C : List Pr) (l a F : List Int) (B : List Pr) (w : World) (HI : IsInts w vi I) (HA : IsPairs w va A) (HJ : IsInts w vj J) (HC : IsPairs w vc C) (HL : IsInts w vl l) (HX : IsInts w vx a) (HF : IsInts w vf F) (HB : IsPairs w vb B)
    (h1 : I.length ≤ 4000000) (h2 : A.length ≤ 4000000) (h3 : J.length ≤ 4000000) (h4 : C.length ≤ 4000000) (h5 : l.length ≤ 4000000) (h6 : a.length ≤ 4000000) (h7 : F.length ≤ 4000000) (h8 : B.length ≤ 4000000) (hm : (manyA I A || manyA J C) = false) (cl : ¬ 50 < l.length) (cx : ¬ 50 < a.length) (cf : ¬ 50 < F.length) (cb : ¬ 50 < B.length) (m1 : mayA I A = true) (m2 : mayA J C = true) (na : mayB a = true) (nf : mayB F = true) :
    Calls Tryz.prog 8 #[.agg #[vi, va], .agg #[vj, vc], vl, vx, vf, vb] w fun e w' => e = .returned (.bool true) ∧ Below w.heap.size w w' := by
  have HBN := Lib.hid HB.inP
  obtain ⟨ia, ic, rfl⟩ := HI.shape
  obtain ⟨ga, gc, rfl, _⟩ := HA.shape
  obtain ⟨ja, jc, rfl⟩ := HJ.shape
  obtain ⟨ca, cc, rfl, _⟩ := HC.shape
  obtain ⟨la, lc, rfl⟩ := HL.shape
  obtain ⟨aa, ac, rfl⟩ := HX.shape
  obtain ⟨fa, fc, rfl⟩ := HF.shape
  obtain ⟨ba, bc, rfl, _⟩ := HB.shape
  obtain ⟨hb0, hp, hq⟩ := boxes_eq w (.slice ia I.length ic) (.slice ga A.length gc) (.slice ja J.length jc) (.slice ca C.length cc)
  obtain ⟨W0, hW0⟩ : ∃ W0, (w.alloc (.cells #[.slice ia I.length ic, .slice ga A.length gc] 25)).alloc (.cells #[.slice ja J.length jc, .slice ca C.length cc] 25) = W0 := ⟨_, rfl⟩
  have hz0 : W0.heap.size = w.heap.size + 1 + 1 := by rw [← hW0, World.size_alloc, World.size_alloc]
  rw [hW0] at hb0 hp hq
  have HXC : Hid (∀ X, Below W0.heap.size W0 X → (X.cell? ⟨w.heap.size, 0, none⟩ = some (.slice ia I.length ic) ∧ X.cell? ⟨w.heap.size, 1, none⟩ = some (.slice ga A.length gc)) ∧ X.cell? ⟨w.heap.size + 1, 0, none⟩ = some (.slice ja J.length jc) ∧ X.cell? ⟨w.heap.size + 1, 1, none⟩ = some (.slice ca C.length cc)) := fun X hX => ⟨⟨(hX.cell (p := ⟨w.heap.size, 0, none⟩) (by show w.heap.size < _; omega)).trans hp.1, (hX.cell (p := ⟨w.heap.size, 1, none⟩) (by show w.heap.size < _; omega)).trans hp.2⟩, (hX.cell (p := ⟨w.heap.size + 1, 0, none⟩) (by show w.heap.size + 1 < _; omega)).trans hq.1, (hX.cell (p := ⟨w.heap.size + 1, 1, none⟩) (by show w.heap.size + 1 < _; omega)).trans hq.2⟩
  have HW0 : Hid ((w.alloc (.cells #[.slice ia I.length ic, .slice ga A.length gc] 25)).alloc (.cells #[.slice ja J.length jc, .slice ca C.length cc] 25) = W0) := hW0
  have HB0 := Lib.hid hb0
  have HU1 : Hid (∀ X, Below W0.heap.size W0 X → (IsInts X (.slice ia I.length ic) I ∧ IsPairs X (.slice ga A.length gc) A) ∧ IsInts X (.slice ja J.length jc) J ∧ IsPairs X (.slice ca C.length cc) C) := fun X hX => ⟨⟨(HI.below hb0 (Nat.le_refl _)).below hX (Nat.le_refl _), (HA.below hb0 (Nat.le_refl _)).below hX (Nat.le_refl _)⟩, (HJ.below hb0 (Nat.le_refl _)).below hX (Nat.le_refl _), (HC.below hb0 (Nat.le_refl _)).below hX (Nat.le_refl _)⟩
  have HU2 : Hid (∀ X, Below W0.heap.size W0 X → (IsInts X (.slice la l.length lc) l ∧ IsInts X (.slice aa a.length ac) a) ∧ IsInts X (.slice fa F.length fc) F ∧ IsPairs X (.slice ba B.length bc) B) := fun X hX => ⟨⟨(HL.below hb0 (Nat.le_refl _)).below hX (Nat.le_refl _), (HX.below hb0 (Nat.le_refl _)).below hX (Nat.le_refl _)⟩, (HF.below hb0 (Nat.le_refl _)).below hX (Nat.le_refl _), (HB.below hb0 (Nat.le_refl _)).below hX (Nat.le_refl _)⟩
  have H1 : Hid (Calls Tryz.prog 12 #[.slice (some ⟨W0.heap.size, 0, none⟩) 2 2] (W0.alloc (.cells #[.slice ia I.length ic, .slice ga A.length gc, .slice ja J.length jc, .slice ca C.length cc] 25)) fun e w' => e = .returned (.bool (manyA I A || manyA J C)) ∧ Below W0.heap.size W0 w') := by
    have hu := HU1.out W0 (Below.refl _ _)
    exact great_me _ _ _ _ I J A C W0 hu.1.1 hu.1.2 hu.2.1 hu.2.2 h1 h2 h3 h4
  have HM1 : Hid (∀ X, Below W0.heap.size W0 X → Calls Tryz.prog 19 #[.agg #[.slice ia I.length ic, .slice ga A.length gc]] X fun e w' => e = .returned (.bool (mayA I A)) ∧ Below X.heap.size X w') := fun X hX => rmay6_any _ _ I A X (HU1.out X hX).1.1 (HU1.out X hX).1.2 h1 h2
  have HM2 : Hid (∀ X, Below W0.heap.size W0 X → Calls Tryz.prog 19 #[.agg #[.slice ja J.length jc, .slice ca C.length cc]] X fun e w' => e = .returned (.bool (mayA J C)) ∧ Below X.heap.size X w') := fun X hX => rmay6_any _ _ J C X (HU1.out X hX).2.1 (HU1.out X hX).2.2 h3 h4
  have HNA : Hid (∀ X, Below W0.heap.size W0 X → Calls Tryz.prog 46 #[.slice aa a.length ac] X fun e w' => e = .returned (.bool (mayB a)) ∧ Below X.heap.size X w') := fun X hX => (rnormal5_any _ a X (HU2.out X hX).1.2).mono fun e w' h => ⟨h.1, h.2.below _⟩
  have HNF : Hid (∀ X, Below W0.heap.size W0 X → Calls Tryz.prog 46 #[.slice fa F.length fc] X fun e w' => e = .returned (.bool (mayB F)) ∧ Below X.heap.size X w') := fun X hX => (rnormal5_any _ F X (HU2.out X hX).2.1).mono fun e w' h => ⟨h.1, h.2.below _⟩
  obtain ⟨⟨p0, p1⟩, q0, q1⟩ := HXC.out W0 (Below.refl _ _)
  clear HI HA HJ HC HL HX HF HB hb0 hp hq hW0 hz0
  have hmm := many_false hm
  rw [hm] at H1
  rw [m1] at HM1
  rw [m2] at HM2
  rw [na] at HNA
  rw [nf] at HNF
  clear hm
  have d0 : decide ((50 : Int) < (l.length : Int)) = false := decide_eq_false (by omega)
  have d1 : decide ((50 : Int) < (a.length : Int)) = false := decide_eq_false (by omega)
  have d2 : decide ((50 : Int) < (F.length : Int)) = false := decide_eq_false (by omega)
  have d3 : decide ((50 : Int) < (B.length : Int)) = false := decide_eq_false (by omega)
  have hx := has_fit m1 l
  have hy := has_fit m2 l
  have hxl : (fitI (1 + I.length + A.length) l).length = l.length := by unfold fitI; rw [List.length_map]
  have hyl : (fitI (1 + J.length + C.length) l).length = l.length := by unfold fitI; rw [List.length_map]
  obtain ⟨D1, U, e1, M1⟩ := cone_mean (a := a) hx
  obtain ⟨hpos, hsrt⟩ := insB_lt (mayA_parts m1).2.1
  obtain ⟨D2, V, e2, M2⟩ := rest_mean (a := a) (b := mergedL (F ++ a)) hx nf (fun v hv => fixed_on nf na (hpos v hv).1)
  have hul := union_lenM I J
  obtain ⟨D3, P, Q, e3, M3, M4⟩ := join_mean (a := a) hx hy (by omega)
  have hlits : ∀ z ∈ F ++ a, litB z = true := fun z hz => by
    rcases List.mem_append.1 hz with h | h
    · exact mayB_mem nf z h
    · exact mayB_mem na z h
  have hmf := merged_may hlits
  have hown := fun (k : Nat) (hk : k ≤ B.length) => ownL_ok (I := I) (g := fit1 (1 + I.length + A.length)) (n := 1 + I.length + A.length) (fun e => isE_true.2 (by have := fit1_bd (n := 1 + I.length + A.length) (by omega) e; omega)) (B := B) k hk
  have HNUM : Hid (1 ≤ 1 + I.length + A.length ∧ 1 + I.length + A.length ≤ 10000000 ∧ 1 ≤ 1 + J.length + C.length ∧ 1 + J.length + C.length ≤ 10000000) := ⟨by omega, by omega, by omega, by omega⟩
  have HSZ : Hid ((I.length ≤ 100 ∧ A.length ≤ 600) ∧ J.length ≤ 100 ∧ C.length ≤ 600) := hmm
  have HLB : Hid (l.length ≤ 50 ∧ a.length ≤ 50 ∧ F.length ≤ 50 ∧ B.length ≤ 50) := ⟨by omega, by omega, by omega, by omega⟩
  have HNL : Hid (mayB a = true ∧ mayB F = true) := ⟨na, nf⟩
  have HPO := Lib.hid hpos
  have HSR := Lib.hid hsrt
  have HLT := Lib.hid hlits
  have HMF := Lib.hid hmf
  have HME1 := Lib.hid M1
  have HME2 := Lib.hid M2
  have HME3 := Lib.hid M3
  have HME4 := Lib.hid M4
  have HXX := Lib.hid hx
  have HYY := Lib.hid hy
  have HXL := Lib.hid hxl
  have HYL := Lib.hid hyl
  have HOWN := Lib.hid hown
  have HF1 : Hid (∀ X, Below W0.heap.size W0 X → Calls Tryz.prog 47 #[.slice la l.length lc, .int .i64 ((1 + I.length + A.length : Nat) : Int)] X fun r w' => ∃ u, r = .returned u ∧ Own w' X.heap.size u (fitI (1 + I.length + A.length) l) ∧ Below X.heap.size X w') := fun X hX => fit_any _ l (1 + I.length + A.length) X (HU2.out X hX).1.1 h5 HNUM.out.1 HNUM.out.2.1
  have HF2 : Hid (∀ X, Below W0.heap.size W0 X → Calls Tryz.prog 47 #[.slice la l.length lc, .int .i64 ((1 + J.length + C.length : Nat) : Int)] X fun r w' => ∃ u, r = .returned u ∧ Own w' X.heap.size u (fitI (1 + J.length + C.length) l) ∧ Below X.heap.size X w') := fun X hX => fit_any _ l (1 + J.length + C.length) X (HU2.out X hX).1.1 h5 HNUM.out.2.2.1 HNUM.out.2.2.2
  have HND1 : Hid (∀ X, Below W0.heap.size W0 X → Calls Tryz.prog 48 #[.agg #[.slice ia I.length ic, .slice ga A.length gc]] X fun r w' => r = .returned (.int .i64 ((1 + I.length + A.length : Nat) : Int)) ∧ Below X.heap.size X w') := fun X hX => rnodes_any _ _ I A X (HU1.out X hX).1.1 (HU1.out X hX).1.2 h1 h2
  have HND2 : Hid (∀ X, Below W0.heap.size W0 X → Calls Tryz.prog 48 #[.agg #[.slice ja J.length jc, .slice ca C.length cc]] X fun r w' => r = .returned (.int .i64 ((1 + J.length + C.length : Nat) : Int)) ∧ Below X.heap.size X w') := fun X hX => rnodes_any _ _ J C X (HU1.out X hX).2.1 (HU1.out X hX).2.2 h3 h4
  have HX64 : Hid (In64 (fitI (1 + I.length + A.length) l) ∧ In64 (fitI (1 + J.length + C.length) l)) := ⟨fun z hz => by have := edgesB_true.1 (hasA_parts hx).2.2 z hz; omega, fun z hz => by have := edgesB_true.1 (hasA_parts hy).2.2 z hz; omega⟩
  have HQN1 : Hid (fitI (1 + I.length + A.length) l = l.map (fit1 (1 + I.length + A.length))) := rfl
  clear hx hy hxl hyl hpos hsrt hul hlits hmf hown M1 M2 M3 M4 m1 m2 na nf cl cx cf cb hmm
  generalize hN1 : 1 + I.length + A.length = n1 at *
  generalize hN2 : 1 + J.length + C.length = n2 at *
  have HNE1 := Lib.hid hN1
  clear hN1 hN2
  generalize fitI n1 l = x at *
  generalize fitI n2 l = y at *
  go_enter Tryz.func8, Tryz.ntmps8
  go_upto_region 1 with fail
  rw [HW0.out]
  go_upto_region 3 with (first
    | (go_at_call 46; refine (HNF.out w4 HBV4.out).mono ?_; rintro e w5 ⟨rfl, hb⟩; have HBV5 := Lib.hid (HBV4.out.trans (hb.mono HBV4.out.size)); clear hb p0 p1 q0 q1; obtain ⟨⟨p0, p1⟩, q0, q1⟩ := HXC.out w5 HBV5.out)
    | (go_at_call 46; refine (HNA.out w3 HBV3.out).mono ?_; rintro e w4 ⟨rfl, hb⟩; have HBV4 := Lib.hid (HBV3.out.trans (hb.mono HBV3.out.size)); clear hb p0 p1 q0 q1; obtain ⟨⟨p0, p1⟩, q0, q1⟩ := HXC.out w4 HBV4.out)
    | (go_at_call 19; refine (HM2.out w2 HBV2.out).mono ?_; rintro e w3 ⟨rfl, hb⟩; have HBV3 := Lib.hid (HBV2.out.trans (hb.mono HBV2.out.size)); clear hb p0 p1 q0 q1; obtain ⟨⟨p0, p1⟩, q0, q1⟩ := HXC.out w3 HBV3.out)
    | (go_at_call 19; refine (HM1.out w1 HBV1.out).mono ?_; rintro e w2 ⟨rfl, hb⟩; have HBV2 := Lib.hid (HBV1.out.trans (hb.mono HBV1.out.size)); clear hb p0 p1 q0 q1; obtain ⟨⟨p0, p1⟩, q0, q1⟩ := HXC.out w2 HBV2.out)
    | (go_at_call 12; refine H1.out.mono ?_; rintro e w1 ⟨rfl, hb⟩; have HBV1 := Lib.hid hb; clear hb p0 p1 q0 q1; obtain ⟨⟨p0, p1⟩, q0, q1⟩ := HXC.out w1 HBV1.out))
  clear d0 d1 d2 d3 H1 HM1 HM2 HNA HNF p0 p1 q0 q1 HBV1 HBV2 HBV3 HBV4
  have hwd : Below w5.heap.size w5 w5.drew := (Below.refl _ w5).drew
  have HB5D := Lib.hid (HBV5.out.trans (hwd.mono HBV5.out.size))
  refine wp_region_held_drew (S := fun Z : World => Below W0.heap.size W0 Z) (by kernel_rfl) HB5D.out (fun hSd => ?_)
  clear hwd
  generalize w5.drew = w6 at *
  refine takeC (i := 0) (v := .slice la l.length lc) (some 82) rfl rfl (by kernel_rfl) (by kernel_rfl) (by kernel_rfl) (fun _ _ _ h => h) (Or.inl ⟨by rfl, ?_⟩) (by assumption) ?_
  · intro wz hSw; go_simp
  try simp only [Act.put, List.setIfInBounds_toArray, List.set_cons_zero, List.set_cons_succ]
  refine takeC (i := 1) (v := .agg #[.slice ia I.length ic, .slice ga A.length gc]) (some 83) rfl rfl (by kernel_rfl) (by kernel_rfl) (by kernel_rfl) (fun _ _ _ h => h) (Or.inl ⟨by rfl, ?_⟩) (by assumption) ?_
  · intro wz hSw; obtain ⟨⟨t0, t1⟩, t2, t3⟩ := HXC.out wz hSw; go_simp
  try simp only [Act.put, List.setIfInBounds_toArray, List.set_cons_zero, List.set_cons_succ]
  refine takeC (i := 4) (v := .slice la l.length lc) (some 86) rfl rfl (by kernel_rfl) (by kernel_rfl) (by kernel_rfl) (fun _ _ _ h => h) (Or.inl ⟨by rfl, ?_⟩) (by assumption) ?_
  · intro wz hSw; go_simp
  try simp only [Act.put, List.setIfInBounds_toArray, List.set_cons_zero, List.set_cons_succ]
  refine takeC (i := 5) (v := .agg #[.slice ja J.length jc, .slice ca C.length cc]) (some 87) rfl rfl (by kernel_rfl) (by kernel_rfl) (by kernel_rfl) (fun _ _ _ h => h) (Or.inl ⟨by rfl, ?_⟩) (by assumption) ?_
  · intro wz hSw; obtain ⟨⟨t0, t1⟩, t2, t3⟩ := HXC.out wz hSw; go_simp
  try simp only [Act.put, List.setIfInBounds_toArray, List.set_cons_zero, List.set_cons_succ]
  refine wpAnyH_ready (rs := [2]) (by kernel_rfl) (by simp) ?_
  refine AllReadyH.cons rfl (fun K hK => ?_) AllReadyH.nil
  go_simp
  go_wp2_with (go_at_call 48; refine (HND1.out w6 HB5D.out).mono ?_; rintro e w7 ⟨rfl, hb⟩)
  have HB7 := Lib.hid (HB5D.out.trans (hb.mono HB5D.out.size))
  refine hK.out _ _ HB7.out (fun hHn => ?_)
  clear hK K hHn hb
  try simp only [Act.put, List.setIfInBounds_toArray, List.set_cons_zero, List.set_cons_succ]
  refine wpAnyH_ready (rs := [3]) (by kernel_rfl) (by simp) ?_
  refine AllReadyH.cons rfl (fun K hK => ?_) AllReadyH.nil
  go_simp
  go_wp2_with (go_at_call 47; refine (HF1.out w7 HB7.out).mono ?_; rintro e w8 ⟨vxx, rfl, ho, hb⟩)
  have HB8 := Lib.hid (HB7.out.trans (hb.mono HB7.out.size))
  have HI8 := Lib.hid (ho.ints (by rw [HXL.out]; have := HLB.out.1; omega) HX64.out.1)
  refine hK.out _ _ HB8.out (fun hHn => ?_)
  clear hK K hHn hb ho
  try simp only [Act.put, List.setIfInBounds_toArray, List.set_cons_zero, List.set_cons_succ]
  refine wpAnyH_ready (rs := [6]) (by kernel_rfl) (by simp) ?_
  refine AllReadyH.cons rfl (fun K hK => ?_) AllReadyH.nil
  go_simp
  go_wp2_with (go_at_call 48; refine (HND2.out w8 HB8.out).mono ?_; rintro e w9 ⟨rfl, hb⟩)
  have HB9 := Lib.hid (HB8.out.trans (hb.mono HB8.out.size))
  have HI9 := Lib.hid (HI8.out.below hb (Nat.le_refl _))
  refine hK.out _ _ HB9.out (fun hHn => ?_)
  clear hK K hHn hb
  try simp only [Act.put, List.setIfInBounds_toArray, List.set_cons_zero, List.set_cons_succ]
  refine wpAnyH_ready (rs := [7]) (by kernel_rfl) (by simp) ?_
  refine AllReadyH.cons rfl (fun K hK => ?_) AllReadyH.nil
  go_simp
  go_wp2_with (go_at_call 47; refine (HF2.out w9 HB9.out).mono ?_; rintro e w10 ⟨vyy, rfl, ho, hb⟩)
  have HB10 := Lib.hid (HB9.out.trans (hb.mono HB9.out.size))
  have HIX := Lib.hid (HI9.out.below hb (Nat.le_refl _))
  have HIY := Lib.hid (ho.ints (by rw [HYL.out]; have := HLB.out.1; omega) HX64.out.2)
  refine hK.out _ _ HB10.out (fun hHn => ?_)
  clear hK K hHn hb ho
  try simp only [Act.put, List.setIfInBounds_toArray, List.set_cons_zero, List.set_cons_succ]
  refine takeC (i := 8) (v := vxx) (some 13) rfl rfl (by kernel_rfl) (by kernel_rfl) (by kernel_rfl) (fun _ _ _ h => h) (Or.inl ⟨by rfl, ?_⟩) (by assumption) ?_
  · intro wz hSw; go_simp
  try simp only [Act.put, List.setIfInBounds_toArray, List.set_cons_zero, List.set_cons_succ]
  refine takeC (i := 9) (v := vyy) (some 14) rfl rfl (by kernel_rfl) (by kernel_rfl) (by kernel_rfl) (fun _ _ _ h => h) (Or.inl ⟨by rfl, ?_⟩) (by assumption) ?_
  · intro wz hSw; go_simp
  try simp only [Act.put, List.setIfInBounds_toArray, List.set_cons_zero, List.set_cons_succ]
  refine wpAnyH_done (by kernel_rfl) ?_ _
  clear hSd HI8 HI9 HB9 HB8 HB7 HB5D HBV5 HF1 HF2 HND2
  obtain ⟨nn, hnn⟩ : ∃ nn, l.length = nn := ⟨_, rfl⟩
  have HNN := Lib.hid hnn
  obtain ⟨xa, xc, rfl⟩ : ∃ a c, vxx = .slice a nn c := by
    obtain ⟨a', c', e⟩ := HIX.out.shape
    exact ⟨a', c', by rw [e, HXL.out, hnn]⟩
  obtain ⟨ya, yc, rfl⟩ : ∃ a c, vyy = .slice a nn c := by
    obtain ⟨a', c', e⟩ := HIY.out.shape
    exact ⟨a', c', by rw [e, HYL.out, hnn]⟩
  clear hnn
  have HNX : Hid (x.length = nn ∧ y.length = nn ∧ nn ≤ 50) := ⟨by rw [HXL.out, HNN.out], by rw [HYL.out, HNN.out], by have := HLB.out.1; have := HNN.out; omega⟩
  have HXY : Hid (∀ X, Below w10.heap.size w10 X → IsInts X (.slice xa nn xc) x ∧ IsInts X (.slice ya nn yc) y) := fun X hX => ⟨HIX.out.below hX (Nat.le_refl _), HIY.out.below hX (Nat.le_refl _)⟩
  clear HIX HIY
  have HCA : Hid (∀ X, Below w10.heap.size w10 X → Calls Tryz.prog 32 #[.agg #[.slice ia I.length ic, .slice ga A.length gc], .slice xa nn xc] X (ResPost X ((I, D1), U, 0))) := fun X hX => by
    have hX0 := HB10.out.trans (hX.mono HB10.out.size)
    have h := gcone_any _ _ _ I A x X (HU1.out X hX0).1.1 (HU1.out X hX0).1.2 (HXY.out X hX).1 h1 h2
    rw [e1] at h
    exact h
  have HCB : Hid (∀ X, Below w10.heap.size w10 X → Calls Tryz.prog 34 #[.agg #[.slice ia I.length ic, .slice ga A.length gc], .slice xa nn xc, .slice fa F.length fc] X (ResPost X ((restI F I, D2), V, 0))) := fun X hX => by
    have hX0 := HB10.out.trans (hX.mono HB10.out.size)
    have h := grestrict_any _ _ _ _ I A x F X (HU1.out X hX0).1.1 (HU1.out X hX0).1.2 (HXY.out X hX).1 (HU2.out X hX0).2.1 h1 h2 h7
    rw [e2] at h
    exact h
  have HCC : Hid (∀ X, Below w10.heap.size w10 X → Calls Tryz.prog 38 #[.agg #[.slice ia I.length ic, .slice ga A.length gc], .slice xa nn xc, .agg #[.slice ja J.length jc, .slice ca C.length cc], .slice ya nn yc] X (GJoinPost X ((unionL I J, D3), P, Q, 0))) := fun X hX => by
    have hX0 := HB10.out.trans (hX.mono HB10.out.size)
    have h := gjoin_any _ _ _ _ _ _ I A x J C y X (HU1.out X hX0).1.1 (HU1.out X hX0).1.2 (HXY.out X hX).1 (HU1.out X hX0).2.1 (HU1.out X hX0).2.2 (HXY.out X hX).2 h1 h2 h3 h4
    rw [e3] at h
    exact h
  clear e1 e2 e3
  generalize restI F I = K2 at *
  generalize unionL I J = K3 at *
  obtain ⟨⟨p0, p1⟩, q0, q1⟩ := HXC.out w10 HB10.out
  go_upto_region 5 with (go_at_call 32; go_loud (refine (HCA.out w10 (Below.refl _ _ : Below w10.heap.size w10 w10)).mono ?_; rintro e u1 ⟨z1, z2, zzu, rfl, hg, hou, hb⟩; obtain ⟨v1a, v1c, rfl⟩ := hg.ints.1.shape; obtain ⟨v1b, v1d, rfl, _⟩ := hg.ints.2.shape; have HG1 := Lib.hid hg.ints; have HO1u := Lib.hid (hou.ints (by have := HME1.out.len; have := HNX.out; show U.length ≤ _; omega) (mean_in64 HME1.out).1); have HBW1 := Lib.hid (((Below.refl _ _ : Below w10.heap.size w10 w10)).trans (hb.mono ((Below.refl _ _ : Below w10.heap.size w10 w10)).size)); have HQ1 := Lib.hid hb; clear hg hou hb p0 p1 q0 q1))
  have hbn := below_alloc1 u1 (.cells #[.slice v1a I.length v1c, .slice v1b D1.length v1d] 25)
  have hxn := boxA_new u1 (.slice v1a I.length v1c) (.slice v1b D1.length v1d)
  have hzn : (u1.alloc (.cells #[.slice v1a I.length v1c, .slice v1b D1.length v1d] 25)).heap.size = u1.heap.size + 1 := by rw [World.size_alloc]
  have HBV1 := Lib.hid (HBW1.out.trans (hbn.mono HBW1.out.size))
  have HN1 := Lib.hid (HQ1.out.trans (hbn.mono HQ1.out.size))
  have hi6 := HG1.out.1.below hbn (Nat.le_refl _)
  have ha6 := HG1.out.2.below hbn (Nat.le_refl _)
  have hu6u := HO1u.out.below hbn (Nat.le_refl _)
  obtain ⟨v1u, v1uw, rfl⟩ : ∃ a c, zzu = .slice a nn c := by
    obtain ⟨a', c', e⟩ := hu6u.shape
    exact ⟨a', c', by rw [e, HME1.out.len]; simp [HNX.out.1, HNX.out.2.1]⟩
  change Code.wp _ _ _ _ (u1.alloc (.cells #[.slice v1a I.length v1c, .slice v1b D1.length v1d] 25))
  generalize u1.alloc (.cells #[.slice v1a I.length v1c, .slice v1b D1.length v1d] 25) = V1 at *
  generalize u1.heap.size = g1 at *
  have HC1 : Hid (∀ X, Below V1.heap.size V1 X → (X.cell? ⟨g1, 0, none⟩ = some (.slice v1a I.length v1c) ∧ X.cell? ⟨g1, 1, none⟩ = some (.slice v1b D1.length v1d)) ∧ (IsInts X (.slice v1a I.length v1c) I ∧ IsPairs X (.slice v1b D1.length v1d) D1) ∧ IsInts X (.slice v1u nn v1uw) U) := fun X hX => ⟨hxn.below hX (by rw [hzn]; omega), ⟨hi6.below hX (Nat.le_refl _), ha6.below hX (Nat.le_refl _)⟩, hu6u.below hX (Nat.le_refl _)⟩
  clear hbn hxn hzn hi6 ha6 hu6u HG1 HO1u HBW1 HQ1
  obtain ⟨⟨p0, p1⟩, q0, q1⟩ := HXC.out V1 (HB10.out.trans (HBV1.out.mono HB10.out.size))
  go_upto_region 6 with (go_at_call 34; go_loud (refine (HCB.out V1 HBV1.out).mono ?_; rintro e u2 ⟨z1, z2, zzu, rfl, hg, hou, hb⟩; obtain ⟨v2a, v2c, rfl⟩ := hg.ints.1.shape; obtain ⟨v2b, v2d, rfl, _⟩ := hg.ints.2.shape; have HG2 := Lib.hid hg.ints; have HO2u := Lib.hid (hou.ints (by have := HME2.out.len; have := HNX.out; show V.length ≤ _; omega) (mean_in64 HME2.out).1); have HBW2 := Lib.hid ((HBV1.out).trans (hb.mono (HBV1.out).size)); have HQ2 := Lib.hid hb; clear hg hou hb p0 p1 q0 q1))
  have hbn := below_alloc1 u2 (.cells #[.slice v2a K2.length v2c, .slice v2b D2.length v2d] 25)
  have hxn := boxA_new u2 (.slice v2a K2.length v2c) (.slice v2b D2.length v2d)
  have hzn : (u2.alloc (.cells #[.slice v2a K2.length v2c, .slice v2b D2.length v2d] 25)).heap.size = u2.heap.size + 1 := by rw [World.size_alloc]
  have HBV2 := Lib.hid (HBW2.out.trans (hbn.mono HBW2.out.size))
  have HN2 := Lib.hid (HQ2.out.trans (hbn.mono HQ2.out.size))
  have hi6 := HG2.out.1.below hbn (Nat.le_refl _)
  have ha6 := HG2.out.2.below hbn (Nat.le_refl _)
  have hu6u := HO2u.out.below hbn (Nat.le_refl _)
  obtain ⟨v2u, v2uw, rfl⟩ : ∃ a c, zzu = .slice a nn c := by
    obtain ⟨a', c', e⟩ := hu6u.shape
    exact ⟨a', c', by rw [e, HME2.out.len]; simp [HNX.out.1, HNX.out.2.1]⟩
  change Code.wp _ _ _ _ (u2.alloc (.cells #[.slice v2a K2.length v2c, .slice v2b D2.length v2d] 25))
  generalize u2.alloc (.cells #[.slice v2a K2.length v2c, .slice v2b D2.length v2d] 25) = V2 at *
  generalize u2.heap.size = g2 at *
  have HC2 : Hid (∀ X, Below V2.heap.size V2 X → (X.cell? ⟨g2, 0, none⟩ = some (.slice v2a K2.length v2c) ∧ X.cell? ⟨g2, 1, none⟩ = some (.slice v2b D2.length v2d)) ∧ (IsInts X (.slice v2a K2.length v2c) K2 ∧ IsPairs X (.slice v2b D2.length v2d) D2) ∧ IsInts X (.slice v2u nn v2uw) V) := fun X hX => ⟨hxn.below hX (by rw [hzn]; omega), ⟨hi6.below hX (Nat.le_refl _), ha6.below hX (Nat.le_refl _)⟩, hu6u.below hX (Nat.le_refl _)⟩
  clear hbn hxn hzn hi6 ha6 hu6u HG2 HO2u HBW2 HQ2
  obtain ⟨⟨p0, p1⟩, q0, q1⟩ := HXC.out V2 (HB10.out.trans (HBV2.out.mono HB10.out.size))
  go_upto_region 7 with (go_at_call 38; go_loud (refine (HCC.out V2 HBV2.out).mono ?_; rintro e u3 ⟨z1, z2, zzu, zzt, rfl, hg, hou, hot, hb⟩; obtain ⟨v3a, v3c, rfl⟩ := hg.ints.1.shape; obtain ⟨v3b, v3d, rfl, _⟩ := hg.ints.2.shape; have HG3 := Lib.hid hg.ints; have HO3u := Lib.hid (hou.ints (by have := HME3.out.len; have := HNX.out; show P.length ≤ _; omega) (mean_in64 HME3.out).1); have HO3t := Lib.hid (hot.ints (by have := HME4.out.len; have := HNX.out; show Q.length ≤ _; omega) (mean_in64 HME4.out).1); have HBW3 := Lib.hid ((HBV2.out).trans (hb.mono (HBV2.out).size)); have HQ3 := Lib.hid hb; clear hg hou hot hb p0 p1 q0 q1))
  have hbn := below_alloc1 u3 (.cells #[.slice v3a K3.length v3c, .slice v3b D3.length v3d] 25)
  have hxn := boxA_new u3 (.slice v3a K3.length v3c) (.slice v3b D3.length v3d)
  have hzn : (u3.alloc (.cells #[.slice v3a K3.length v3c, .slice v3b D3.length v3d] 25)).heap.size = u3.heap.size + 1 := by rw [World.size_alloc]
  have HBV3 := Lib.hid (HBW3.out.trans (hbn.mono HBW3.out.size))
  have HN3 := Lib.hid (HQ3.out.trans (hbn.mono HQ3.out.size))
  have hi6 := HG3.out.1.below hbn (Nat.le_refl _)
  have ha6 := HG3.out.2.below hbn (Nat.le_refl _)
  have hu6u := HO3u.out.below hbn (Nat.le_refl _)
  obtain ⟨v3u, v3uw, rfl⟩ : ∃ a c, zzu = .slice a nn c := by
    obtain ⟨a', c', e⟩ := hu6u.shape
    exact ⟨a', c', by rw [e, HME3.out.len]; simp [HNX.out.1, HNX.out.2.1]⟩
  have hu6t := HO3t.out.below hbn (Nat.le_refl _)
  obtain ⟨v3t, v3tw, rfl⟩ : ∃ a c, zzt = .slice a nn c := by
    obtain ⟨a', c', e⟩ := hu6t.shape
    exact ⟨a', c', by rw [e, HME4.out.len]; simp [HNX.out.1, HNX.out.2.1]⟩
  change Code.wp _ _ _ _ (u3.alloc (.cells #[.slice v3a K3.length v3c, .slice v3b D3.length v3d] 25))
  generalize u3.alloc (.cells #[.slice v3a K3.length v3c, .slice v3b D3.length v3d] 25) = V3 at *
  generalize u3.heap.size = g3 at *
  have HC3 : Hid (∀ X, Below V3.heap.size V3 X → (X.cell? ⟨g3, 0, none⟩ = some (.slice v3a K3.length v3c) ∧ X.cell? ⟨g3, 1, none⟩ = some (.slice v3b D3.length v3d)) ∧ (IsInts X (.slice v3a K3.length v3c) K3 ∧ IsPairs X (.slice v3b D3.length v3d) D3) ∧ IsInts X (.slice v3u nn v3uw) P ∧ IsInts X (.slice v3t nn v3tw) Q) := fun X hX => ⟨hxn.below hX (by rw [hzn]; omega), ⟨hi6.below hX (Nat.le_refl _), ha6.below hX (Nat.le_refl _)⟩, hu6u.below hX (Nat.le_refl _), hu6t.below hX (Nat.le_refl _)⟩
  clear hbn hxn hzn hi6 ha6 hu6u hu6t HG3 HO3u HO3t HBW3 HQ3
  obtain ⟨⟨p0, p1⟩, q0, q1⟩ := HXC.out V3 (HB10.out.trans (HBV3.out.mono HB10.out.size))
  have HL2 : Hid (∀ X, Below V3.heap.size V3 X → Below V2.heap.size V2 X) := fun X hX => HN3.out.trans (hX.mono HN3.out.size)
  have HL1 : Hid (∀ X, Below V3.heap.size V3 X → Below V1.heap.size V1 X) := fun X hX => HN2.out.trans ((HL2.out X hX).mono HN2.out.size)
  have HL0 : Hid (∀ X, Below V3.heap.size V3 X → Below w10.heap.size w10 X) := fun X hX => HBV3.out.trans (hX.mono HBV3.out.size)
  have HLZ : Hid (∀ X, Below V3.heap.size V3 X → Below W0.heap.size W0 X) := fun X hX => HB10.out.trans ((HL0.out X hX).mono HB10.out.size)
  clear p0 p1 q0 q1 HCA HCB HCC
  have HRD : Hid (∀ X, Below V3.heap.size V3 X → Calls Tryz.prog 21 #[.agg #[.slice v1a I.length v1c, .slice v1b D1.length v1d]] X fun r w' => r = .returned (.bool true) ∧ Below X.heap.size X w') := fun X hX => by
    have h := rreduced6_any _ _ I D1 X (HC1.out X (HL1.out X hX)).2.1.1 (HC1.out X (HL1.out X hX)).2.1.2 h1 (by have := (mean_in64 HME1.out).2.2; omega)
    rw [HME1.out.red] at h
    exact h
  have HRE : Hid (∀ X, Below V3.heap.size V3 X → Calls Tryz.prog 21 #[.agg #[.slice v2a K2.length v2c, .slice v2b D2.length v2d]] X fun r w' => r = .returned (.bool true) ∧ Below X.heap.size X w') := fun X hX => by
    have h := rreduced6_any _ _ K2 D2 X (HC2.out X (HL2.out X hX)).2.1.1 (HC2.out X (HL2.out X hX)).2.1.2 (by have := (mean_in64 HME2.out).2.1; omega) (by have := (mean_in64 HME2.out).2.2; omega)
    rw [HME2.out.red] at h
    exact h
  have HRF : Hid (∀ X, Below V3.heap.size V3 X → Calls Tryz.prog 21 #[.agg #[.slice v3a K3.length v3c, .slice v3b D3.length v3d]] X fun r w' => r = .returned (.bool true) ∧ Below X.heap.size X w') := fun X hX => by
    have h := rreduced6_any _ _ K3 D3 X (HC3.out X hX).2.1.1 (HC3.out X hX).2.1.2 (by have := (mean_in64 HME3.out).2.1; omega) (by have := (mean_in64 HME3.out).2.2; omega)
    rw [HME3.out.red] at h
    exact h
  have HZ3 : Hid (Below V3.heap.size V3 V3) := Below.refl _ _
  have HGC : Hid (∀ X, Below V3.heap.size V3 X → (X.cell? ⟨g1, 0, none⟩ = some (.slice v1a I.length v1c) ∧ X.cell? ⟨g1, 1, none⟩ = some (.slice v1b D1.length v1d)) ∧ (X.cell? ⟨g2, 0, none⟩ = some (.slice v2a K2.length v2c) ∧ X.cell? ⟨g2, 1, none⟩ = some (.slice v2b D2.length v2d)) ∧ (X.cell? ⟨g3, 0, none⟩ = some (.slice v3a K3.length v3c) ∧ X.cell? ⟨g3, 1, none⟩ = some (.slice v3b D3.length v3d))) := fun X hX => ⟨(HC1.out X (HL1.out X hX)).1, (HC2.out X (HL2.out X hX)).1, (HC3.out X hX).1⟩
  obtain ⟨⟨b0, b1⟩, ⟨c0, c1⟩, d0, d1⟩ := HGC.out V3 HZ3.out
  go_upto_region 9 with (first
    | (go_at_call 21; refine (HRF.out x2 HY2.out).mono ?_; rintro e x3 ⟨rfl, hb⟩; have HY3 := Lib.hid (HY2.out.trans (hb.mono HY2.out.size)); clear hb b0 b1 c0 c1 d0 d1)
    | (go_at_call 21; refine (HRE.out x1 HY1.out).mono ?_; rintro e x2 ⟨rfl, hb⟩; have HY2 := Lib.hid (HY1.out.trans (hb.mono HY1.out.size)); clear hb b0 b1 c0 c1 d0 d1; obtain ⟨⟨b0, b1⟩, ⟨c0, c1⟩, d0, d1⟩ := HGC.out x2 HY2.out)
    | (go_at_call 21; refine (HRD.out V3 HZ3.out).mono ?_; rintro e x1 ⟨rfl, hb⟩; have HY1 := Lib.hid hb; clear hb b0 b1 c0 c1 d0 d1; obtain ⟨⟨b0, b1⟩, ⟨c0, c1⟩, d0, d1⟩ := HGC.out x1 HY1.out))
  clear HRD HRE HRF HY1 HY2
  have HYZ : Hid (∀ X, Below x3.heap.size x3 X → Below V3.heap.size V3 X) := fun X hX => HY3.out.trans (hX.mono HY3.out.size)
  have HEW : Hid (Own (x3.alloc (.cells #[] 3)) x3.heap.size (.slice (some ⟨x3.heap.size, 0, none⟩) 0 0) []) := own_built0 (Nat.le_refl _)
  have HBE := Lib.hid (below_alloc1 x3 (.cells #[] 3))
  have HFE : Hid (IsInts (x3.alloc (.cells #[] 3)) (.slice fa F.length fc) F) := ((HU2.out x3 (HLZ.out _ HY3.out)).2.1).below HBE.out (Nat.le_refl _)
  go_wp2_with (first
    | (at_builtin; go_loud (refine wpList_app rfl (.tmp 170) (.tmp 171) rfl x3.heap.size t1v _ F a rfl rfl HO1.out (HA1.out) (by have := HLB.out; omega) HB1.out.size ?_; intro t2v x5 ho2 hg2; have HO2 : Hid (Own x5 x3.heap.size t2v (F ++ a)) := ho2; have HB2 : Hid (Below x3.heap.size x3 x5) := HB1.out.grown hg2 HB1.out.size (fun g hg => (HO1.out.lt g hg).1); clear ho2 hg2))
    | (at_builtin; go_loud (refine wpList_app rfl (.tmp 168) (.tmp 169) rfl x3.heap.size (.slice (some ⟨x3.heap.size, 0, none⟩) 0 0) _ [] F rfl rfl HEW.out HFE.out (by simp; have := HLB.out; omega) (by simp) ?_; intro t1v x4 ho1 hg1; have HO1 : Hid (Own x4 x3.heap.size t1v F) := ho1; have HB1 : Hid (Below x3.heap.size x3 x4) := HBE.out.grown hg1 (by simp) (fun g hg => by simp [Value.ownBlock] at hg; omega); have HA1 : Hid (IsInts x4 (.slice aa a.length ac) a) := ((HU2.out x4 (HLZ.out _ (HYZ.out _ HB1.out))).1.2); clear ho1 hg1)))
  have HTL : Hid ((F ++ a).length ≤ 100) := by have h9 : (F ++ a).length = F.length + a.length := List.length_append; have := HLB.out; show _ ≤ _; omega
  generalize F ++ a = TF at *
  obtain ⟨tfa, tfc, rfl⟩ := own_shC HO2.out
  have HTF := Lib.hid (HO2.out.ints (by have := HTL.out; omega) (fun z hz => (abs5_litM (HLT.out z hz)).2))
  have HB5V : Hid (Below V3.heap.size V3 x5) := HYZ.out _ HB2.out
  clear HEW HBE HFE HO1 HA1 HB1 HO2 HB2
  have HMG : Hid (∀ X, Below x5.heap.size x5 X → Calls Tryz.prog 50 #[.slice tfa TF.length tfc] X (RetOwn X (mergedL TF))) := fun X hX => merged6_any _ TF X (HTF.out.below hX (Nat.le_refl _)) HLT.out (by have := HTL.out; omega)
  have HM64 : Hid (In64 (mergedL TF) ∧ (mergedL TF).length ≤ 4000000) := ⟨fun z hz => (abs5_litM (HLT.out z (merged_sub hz))).2, by have h9 := (merged_all _ TF rfl).2.2; have := HTL.out; omega⟩
  go_loopw [175] (fun s175 wr => ∃ k : Nat, k ≤ nn ∧ s175 = .int .i64 k ∧ Below x5.heap.size x5 wr) (fun s175 _ => nn - (intOf s175).toNat)
  case atStart => exact ⟨0, Nat.zero_le _, rfl, Below.refl _ _⟩
  case round =>
    obtain ⟨k, hk, rfl, hbl⟩ := hrel
    have HBK := Lib.hid hbl
    have HB3K : Hid (Below V3.heap.size V3 wr) := HB5V.out.trans (hbl.mono HB5V.out.size)
    clear hbl
    by_cases hlt : k < nn
    · have HKL := Lib.hid hlt
      have hk0 : (0 : Int) ≤ (k : Int) := by omega
      have hk1 : (k : Int) < (nn : Int) := by omega
      have hk2 : (k : Int) < 101 := by have := HNX.out; omega
      have hc := HLZ.out _ HB3K.out
      have hl_x : k < x.length := by rw [HNX.out.1]; exact hlt
      obtain ⟨bkx, okx, rfl, _, _⟩ := (show IsInts V3 (.slice xa nn xc) x from (fun X (hX : Below V3.heap.size V3 X) => (HXY.out X (HL0.out X hX)).1) V3 HZ3.out).cellY hl_x
      have HEx : Hid (∀ X, Below V3.heap.size V3 X → X.cell? ⟨bkx, okx + k, none⟩ = some (.int .i64 (x.getD k 0))) := fun X hX => by
        obtain ⟨b', o', e, _, c⟩ := (show IsInts X (.slice (some ⟨bkx, okx, none⟩) nn xc) x from (HXY.out X (HL0.out X hX)).1).cellY hl_x
        have e2 := Option.some.inj e
        injection e2 with e3 e4
        subst e3
        subst e4
        exact c
      have hl_y : k < y.length := by rw [HNX.out.2.1]; exact hlt
      obtain ⟨bky, oky, rfl, _, _⟩ := (show IsInts V3 (.slice ya nn yc) y from (fun X (hX : Below V3.heap.size V3 X) => (HXY.out X (HL0.out X hX)).2) V3 HZ3.out).cellY hl_y
      have HEy : Hid (∀ X, Below V3.heap.size V3 X → X.cell? ⟨bky, oky + k, none⟩ = some (.int .i64 (y.getD k 0))) := fun X hX => by
        obtain ⟨b', o', e, _, c⟩ := (show IsInts X (.slice (some ⟨bky, oky, none⟩) nn yc) y from (HXY.out X (HL0.out X hX)).2).cellY hl_y
        have e2 := Option.some.inj e
        injection e2 with e3 e4
        subst e3
        subst e4
        exact c
      have hl_u : k < U.length := by rw [HME1.out.len]; have := HNX.out; omega
      obtain ⟨bku, oku, rfl, _, _⟩ := (show IsInts V3 (.slice v1u nn v1uw) U from (fun X (hX : Below V3.heap.size V3 X) => (HC1.out X (HL1.out X hX)).2.2) V3 HZ3.out).cellY hl_u
      have HEu : Hid (∀ X, Below V3.heap.size V3 X → X.cell? ⟨bku, oku + k, none⟩ = some (.int .i64 (U.getD k 0))) := fun X hX => by
        obtain ⟨b', o', e, _, c⟩ := (show IsInts X (.slice (some ⟨bku, oku, none⟩) nn v1uw) U from (HC1.out X (HL1.out X hX)).2.2).cellY hl_u
        have e2 := Option.some.inj e
        injection e2 with e3 e4
        subst e3
        subst e4
        exact c
      have hl_v : k < V.length := by rw [HME2.out.len]; have := HNX.out; omega
      obtain ⟨bkv, okv, rfl, _, _⟩ := (show IsInts V3 (.slice v2u nn v2uw) V from (fun X (hX : Below V3.heap.size V3 X) => (HC2.out X (HL2.out X hX)).2.2) V3 HZ3.out).cellY hl_v
      have HEv : Hid (∀ X, Below V3.heap.size V3 X → X.cell? ⟨bkv, okv + k, none⟩ = some (.int .i64 (V.getD k 0))) := fun X hX => by
        obtain ⟨b', o', e, _, c⟩ := (show IsInts X (.slice (some ⟨bkv, okv, none⟩) nn v2uw) V from (HC2.out X (HL2.out X hX)).2.2).cellY hl_v
        have e2 := Option.some.inj e
        injection e2 with e3 e4
        subst e3
        subst e4
        exact c
      have hl_p : k < P.length := by rw [HME3.out.len]; have := HNX.out; omega
      obtain ⟨bkp, okp, rfl, _, _⟩ := (show IsInts V3 (.slice v3u nn v3uw) P from (fun X (hX : Below V3.heap.size V3 X) => (HC3.out X hX).2.2.1) V3 HZ3.out).cellY hl_p
      have HEp : Hid (∀ X, Below V3.heap.size V3 X → X.cell? ⟨bkp, okp + k, none⟩ = some (.int .i64 (P.getD k 0))) := fun X hX => by
        obtain ⟨b', o', e, _, c⟩ := (show IsInts X (.slice (some ⟨bkp, okp, none⟩) nn v3uw) P from (HC3.out X hX).2.2.1).cellY hl_p
        have e2 := Option.some.inj e
        injection e2 with e3 e4
        subst e3
        subst e4
        exact c
      have hl_q : k < Q.length := by rw [HME4.out.len]; have := HNX.out; omega
      obtain ⟨bkq, okq, rfl, _, _⟩ := (show IsInts V3 (.slice v3t nn v3tw) Q from (fun X (hX : Below V3.heap.size V3 X) => (HC3.out X hX).2.2.2) V3 HZ3.out).cellY hl_q
      have HEq : Hid (∀ X, Below V3.heap.size V3 X → X.cell? ⟨bkq, okq + k, none⟩ = some (.int .i64 (Q.getD k 0))) := fun X hX => by
        obtain ⟨b', o', e, _, c⟩ := (show IsInts X (.slice (some ⟨bkq, okq, none⟩) nn v3tw) Q from (HC3.out X hX).2.2.2).cellY hl_q
        have e2 := Option.some.inj e
        injection e2 with e3 e4
        subst e3
        subst e4
        exact c
      have in64 : ∀ {L : List Int} (h : In64 L) {j : Nat} (hj : j < L.length), -9223372036854775808 ≤ L.getD j 0 ∧ L.getD j 0 ≤ 9223372036854775807 := fun {L} h {j} hj => h _ (getD_mem hj)
      have HPRwr : Hid (∀ X, Below wr.heap.size wr X → Below V3.heap.size V3 X) := fun X hX => HB3K.out.trans (hX.mono HB3K.out.size)
      have HQ1 : Hid (∀ X, Below wr.heap.size wr X → Calls Tryz.prog 49 #[.agg #[.slice ia I.length ic, .slice ga A.length gc], .int .i64 (x.getD k 0), .slice aa a.length ac, .agg #[.slice v1a I.length v1c, .slice v1b D1.length v1d], .int .i64 (U.getD k 0), .slice aa a.length ac] X fun r w' => r = .returned (.bool true) ∧ Below X.heap.size X w') := fun X hX => by
        have hX3 : Below V3.heap.size V3 X := HPRwr.out X hX
        obtain ⟨v, E1, E2⟩ := mean_eval HME1.out HXX.out HNL.out.1 HNL.out.1 hl_x
        exact equal6_any _ _ _ _ _ _ _ _ _ _ _ _ _ _ v X (HU1.out X (HLZ.out X hX3)).1.1 (HU1.out X (HLZ.out X hX3)).1.2 (HU2.out X (HLZ.out X hX3)).1.2 (HC1.out X (HL1.out X hX3)).2.1.1 (HC1.out X (HL1.out X hX3)).2.1.2 (HU2.out X (HLZ.out X hX3)).1.2 (by omega) (by omega) (by have := (mean_in64 HME1.out).2.1; omega) (by have := (mean_in64 HME1.out).2.2; omega) (in64 HX64.out.1 hl_x).1 (in64 HX64.out.1 hl_x).2 (in64 (mean_in64 HME1.out).1 hl_u).1 (in64 (mean_in64 HME1.out).1 hl_u).2 E1 E2
      have HQ3 : Hid (∀ X, Below wr.heap.size wr X → Calls Tryz.prog 49 #[.agg #[.slice ia I.length ic, .slice ga A.length gc], .int .i64 (x.getD k 0), .slice aa a.length ac, .agg #[.slice v3a K3.length v3c, .slice v3b D3.length v3d], .int .i64 (P.getD k 0), .slice aa a.length ac] X fun r w' => r = .returned (.bool true) ∧ Below X.heap.size X w') := fun X hX => by
        have hX3 : Below V3.heap.size V3 X := HPRwr.out X hX
        obtain ⟨v, E1, E2⟩ := mean_eval HME3.out HXX.out HNL.out.1 HNL.out.1 hl_x
        exact equal6_any _ _ _ _ _ _ _ _ _ _ _ _ _ _ v X (HU1.out X (HLZ.out X hX3)).1.1 (HU1.out X (HLZ.out X hX3)).1.2 (HU2.out X (HLZ.out X hX3)).1.2 (HC3.out X hX3).2.1.1 (HC3.out X hX3).2.1.2 (HU2.out X (HLZ.out X hX3)).1.2 (by omega) (by omega) (by have := (mean_in64 HME3.out).2.1; omega) (by have := (mean_in64 HME3.out).2.2; omega) (in64 HX64.out.1 hl_x).1 (in64 HX64.out.1 hl_x).2 (in64 (mean_in64 HME3.out).1 hl_p).1 (in64 (mean_in64 HME3.out).1 hl_p).2 E1 E2
      have HQ4 : Hid (∀ X, Below wr.heap.size wr X → Calls Tryz.prog 49 #[.agg #[.slice ja J.length jc, .slice ca C.length cc], .int .i64 (y.getD k 0), .slice aa a.length ac, .agg #[.slice v3a K3.length v3c, .slice v3b D3.length v3d], .int .i64 (Q.getD k 0), .slice aa a.length ac] X fun r w' => r = .returned (.bool true) ∧ Below X.heap.size X w') := fun X hX => by
        have hX3 : Below V3.heap.size V3 X := HPRwr.out X hX
        obtain ⟨v, E1, E2⟩ := mean_eval HME4.out HYY.out HNL.out.1 HNL.out.1 hl_y
        exact equal6_any _ _ _ _ _ _ _ _ _ _ _ _ _ _ v X (HU1.out X (HLZ.out X hX3)).2.1 (HU1.out X (HLZ.out X hX3)).2.2 (HU2.out X (HLZ.out X hX3)).1.2 (HC3.out X hX3).2.1.1 (HC3.out X hX3).2.1.2 (HU2.out X (HLZ.out X hX3)).1.2 (by omega) (by omega) (by have := (mean_in64 HME4.out).2.1; omega) (by have := (mean_in64 HME4.out).2.2; omega) (in64 HX64.out.2 hl_y).1 (in64 HX64.out.2 hl_y).2 (in64 (mean_in64 HME4.out).1 hl_q).1 (in64 (mean_in64 HME4.out).1 hl_q).2 E1 E2
      have HQ2 : Hid (∀ X v, Below wr.heap.size wr X → IsInts X v (mergedL TF) → Calls Tryz.prog 49 #[.agg #[.slice ia I.length ic, .slice ga A.length gc], .int .i64 (x.getD k 0), v, .agg #[.slice v2a K2.length v2c, .slice v2b D2.length v2d], .int .i64 (V.getD k 0), .slice aa a.length ac] X fun r w' => r = .returned (.bool true) ∧ Below X.heap.size X w') := fun X v hX hv => by
        have hX3 : Below V3.heap.size V3 X := HPRwr.out X hX
        obtain ⟨ev, E1, E2⟩ := mean_eval HME2.out HXX.out HNL.out.1 HMF.out hl_x
        exact equal6_any _ _ _ _ _ _ _ _ _ _ _ _ _ _ ev X (HU1.out X (HLZ.out X hX3)).1.1 (HU1.out X (HLZ.out X hX3)).1.2 hv (HC2.out X (HL2.out X hX3)).2.1.1 (HC2.out X (HL2.out X hX3)).2.1.2 (HU2.out X (HLZ.out X hX3)).1.2 (by omega) (by omega) (by have := (mean_in64 HME2.out).2.1; omega) (by have := (mean_in64 HME2.out).2.2; omega) (in64 HX64.out.1 hl_x).1 (in64 HX64.out.1 hl_x).2 (in64 (mean_in64 HME2.out).1 hl_v).1 (in64 (mean_in64 HME2.out).1 hl_v).2 E1 E2
      have HCL : Hid (∀ X, Below wr.heap.size wr X → ((X.cell? ⟨w.heap.size, 0, none⟩ = some (.slice ia I.length ic) ∧ X.cell? ⟨w.heap.size, 1, none⟩ = some (.slice ga A.length gc)) ∧ X.cell? ⟨w.heap.size + 1, 0, none⟩ = some (.slice ja J.length jc) ∧ X.cell? ⟨w.heap.size + 1, 1, none⟩ = some (.slice ca C.length cc)) ∧ ((X.cell? ⟨g1, 0, none⟩ = some (.slice v1a I.length v1c) ∧ X.cell? ⟨g1, 1, none⟩ = some (.slice v1b D1.length v1d)) ∧ (X.cell? ⟨g2, 0, none⟩ = some (.slice v2a K2.length v2c) ∧ X.cell? ⟨g2, 1, none⟩ = some (.slice v2b D2.length v2d)) ∧ (X.cell? ⟨g3, 0, none⟩ = some (.slice v3a K3.length v3c) ∧ X.cell? ⟨g3, 1, none⟩ = some (.slice v3b D3.length v3d)))) := fun X hX => ⟨HXC.out X (HLZ.out X (HPRwr.out X hX)), HGC.out X (HPRwr.out X hX)⟩
      clear hl_x hl_y hl_u hl_v hl_p hl_q in64 hc hlt
      generalize x.getD k 0 = ex at *
      generalize y.getD k 0 = ey at *
      generalize U.getD k 0 = eu at *
      generalize V.getD k 0 = ev at *
      generalize P.getD k 0 = ep at *
      generalize Q.getD k 0 = eq at *
      as_aux_lemma =>
        go_upto_region 13 with fail
        refine wp_region_held_drew (S := fun Z : World => Below wr.heap.size wr Z) (by kernel_rfl) (Below.refl _ _).drew (fun hSd => ?_)
        have HBD : Hid (Below wr.heap.size wr wr.drew) := (Below.refl _ _).drew
        generalize wr.drew = r0 at *
        refine takeC (i := 0) (v := .agg #[.slice ia I.length ic, .slice ga A.length gc]) (some 178) rfl rfl (by kernel_rfl) (by kernel_rfl) (by kernel_rfl) (fun _ _ _ h => h) (Or.inl ⟨by rfl, ?_⟩) (by assumption) ?_
        · intro wz hSw; obtain ⟨⟨⟨t0, t1⟩, t2, t3⟩, ⟨t4, t5⟩, ⟨t6, t7⟩, t8, t9⟩ := HCL.out wz hSw; go_simp
        try simp only [Act.put, List.setIfInBounds_toArray, List.set_cons_zero, List.set_cons_succ]
        refine takeC (i := 1) (v := .slice (some ⟨bkx, okx, none⟩) nn xc) (some 179) rfl rfl (by kernel_rfl) (by kernel_rfl) (by kernel_rfl) (fun _ _ _ h => h) (Or.inl ⟨by rfl, ?_⟩) (by assumption) ?_
        · intro wz hSw; go_simp
        try simp only [Act.put, List.setIfInBounds_toArray, List.set_cons_zero, List.set_cons_succ]
        refine takeC (i := 2) (v := .int .i64 (k : Int)) (some 180) rfl rfl (by kernel_rfl) (by kernel_rfl) (by kernel_rfl) (fun _ _ _ h => h) (Or.inl ⟨by rfl, ?_⟩) (by assumption) ?_
        · intro wz hSw; go_simp
        try simp only [Act.put, List.setIfInBounds_toArray, List.set_cons_zero, List.set_cons_succ]
        refine takeC (i := 3) (v := .pointer (some ⟨bkx, okx + k, none⟩)) (some 181) rfl rfl (by kernel_rfl) (by kernel_rfl) (by kernel_rfl) (fun _ _ _ h => h) (Or.inl ⟨by rfl, ?_⟩) (by assumption) ?_
        · intro wz hSw; go_simp
        try simp only [Act.put, List.setIfInBounds_toArray, List.set_cons_zero, List.set_cons_succ]
        refine takeC (i := 4) (v := .int .i64 ex) (some 182) rfl rfl (by kernel_rfl) (by kernel_rfl) (by kernel_rfl) (fun _ _ _ h => h) (Or.inl ⟨by rfl, ?_⟩) (by assumption) ?_
        · intro wz hSw; have t0 := HEx.out wz (HPRwr.out wz hSw); go_simp
        try simp only [Act.put, List.setIfInBounds_toArray, List.set_cons_zero, List.set_cons_succ]
        refine takeC (i := 5) (v := .slice aa a.length ac) (some 183) rfl rfl (by kernel_rfl) (by kernel_rfl) (by kernel_rfl) (fun _ _ _ h => h) (Or.inl ⟨by rfl, ?_⟩) (by assumption) ?_
        · intro wz hSw; go_simp
        try simp only [Act.put, List.setIfInBounds_toArray, List.set_cons_zero, List.set_cons_succ]
        refine takeC (i := 6) (v := .agg #[.slice v1a I.length v1c, .slice v1b D1.length v1d]) (some 184) rfl rfl (by kernel_rfl) (by kernel_rfl) (by kernel_rfl) (fun _ _ _ h => h) (Or.inl ⟨by rfl, ?_⟩) (by assumption) ?_
        · intro wz hSw; obtain ⟨⟨⟨t0, t1⟩, t2, t3⟩, ⟨t4, t5⟩, ⟨t6, t7⟩, t8, t9⟩ := HCL.out wz hSw; go_simp
        try simp only [Act.put, List.setIfInBounds_toArray, List.set_cons_zero, List.set_cons_succ]
        refine takeC (i := 7) (v := .slice (some ⟨bku, oku, none⟩) nn v1uw) (some 185) rfl rfl (by kernel_rfl) (by kernel_rfl) (by kernel_rfl) (fun _ _ _ h => h) (Or.inl ⟨by rfl, ?_⟩) (by assumption) ?_
        · intro wz hSw; go_simp
        try simp only [Act.put, List.setIfInBounds_toArray, List.set_cons_zero, List.set_cons_succ]
        refine takeC (i := 8) (v := .int .i64 (k : Int)) (some 186) rfl rfl (by kernel_rfl) (by kernel_rfl) (by kernel_rfl) (fun _ _ _ h => h) (Or.inl ⟨by rfl, ?_⟩) (by assumption) ?_
        · intro wz hSw; go_simp
        try simp only [Act.put, List.setIfInBounds_toArray, List.set_cons_zero, List.set_cons_succ]
        refine takeC (i := 9) (v := .pointer (some ⟨bku, oku + k, none⟩)) (some 187) rfl rfl (by kernel_rfl) (by kernel_rfl) (by kernel_rfl) (fun _ _ _ h => h) (Or.inl ⟨by rfl, ?_⟩) (by assumption) ?_
        · intro wz hSw; go_simp
        try simp only [Act.put, List.setIfInBounds_toArray, List.set_cons_zero, List.set_cons_succ]
        refine takeC (i := 10) (v := .int .i64 eu) (some 188) rfl rfl (by kernel_rfl) (by kernel_rfl) (by kernel_rfl) (fun _ _ _ h => h) (Or.inl ⟨by rfl, ?_⟩) (by assumption) ?_
        · intro wz hSw; have t0 := HEu.out wz (HPRwr.out wz hSw); go_simp
        try simp only [Act.put, List.setIfInBounds_toArray, List.set_cons_zero, List.set_cons_succ]
        refine takeC (i := 11) (v := .slice aa a.length ac) (some 189) rfl rfl (by kernel_rfl) (by kernel_rfl) (by kernel_rfl) (fun _ _ _ h => h) (Or.inl ⟨by rfl, ?_⟩) (by assumption) ?_
        · intro wz hSw; go_simp
        try simp only [Act.put, List.setIfInBounds_toArray, List.set_cons_zero, List.set_cons_succ]
        refine wpAnyH_ready (rs := [12]) (by kernel_rfl) (by simp) ?_
        refine AllReadyH.cons rfl (fun K hK => ?_) AllReadyH.nil
        go_simp
        go_wp2_with (go_at_call 49; refine (HQ1.out r0 HBD.out).mono ?_; rintro e r1 ⟨rfl, hb⟩)
        have HBr1 : Hid (Below wr.heap.size wr r1) := HBD.out.trans (hb.mono HBD.out.size)
        refine hK.out _ _ HBr1.out (fun hHn => ?_)
        clear hK K hHn hb hSd
        have hSd : Below wr.heap.size wr r1 := HBr1.out
        try simp only [Act.put, List.setIfInBounds_toArray, List.set_cons_zero, List.set_cons_succ]
        refine takeC (i := 13) (v := .bool false) (some 191) rfl rfl (by kernel_rfl) (by kernel_rfl) (by kernel_rfl) (fun _ _ _ h => h) (Or.inl ⟨by rfl, ?_⟩) (by assumption) ?_
        · intro wz hSw; go_simp
        try simp only [Act.put, List.setIfInBounds_toArray, List.set_cons_zero, List.set_cons_succ]
        refine takeC (i := 14) (v := .bool false) (some 192) rfl rfl (by kernel_rfl) (by kernel_rfl) (by kernel_rfl) (fun _ _ _ h => h) (Or.inl ⟨by rfl, ?_⟩) (by assumption) ?_
        · intro wz hSw; go_simp
        try simp only [Act.put, List.setIfInBounds_toArray, List.set_cons_zero, List.set_cons_succ]
        refine takeC (i := 15) (v := .agg #[.slice ia I.length ic, .slice ga A.length gc]) (some 193) rfl rfl (by kernel_rfl) (by kernel_rfl) (by kernel_rfl) (fun _ _ _ h => h) (Or.inl ⟨by rfl, ?_⟩) (by assumption) ?_
        · intro wz hSw; obtain ⟨⟨⟨t0, t1⟩, t2, t3⟩, ⟨t4, t5⟩, ⟨t6, t7⟩, t8, t9⟩ := HCL.out wz hSw; go_simp
        try simp only [Act.put, List.setIfInBounds_toArray, List.set_cons_zero, List.set_cons_succ]
        refine takeC (i := 16) (v := .slice (some ⟨bkx, okx, none⟩) nn xc) (some 194) rfl rfl (by kernel_rfl) (by kernel_rfl) (by kernel_rfl) (fun _ _ _ h => h) (Or.inl ⟨by rfl, ?_⟩) (by assumption) ?_
        · intro wz hSw; go_simp
        try simp only [Act.put, List.setIfInBounds_toArray, List.set_cons_zero, List.set_cons_succ]
        refine takeC (i := 17) (v := .int .i64 (k : Int)) (some 195) rfl rfl (by kernel_rfl) (by kernel_rfl) (by kernel_rfl) (fun _ _ _ h => h) (Or.inl ⟨by rfl, ?_⟩) (by assumption) ?_
        · intro wz hSw; go_simp
        try simp only [Act.put, List.setIfInBounds_toArray, List.set_cons_zero, List.set_cons_succ]
        refine takeC (i := 18) (v := .pointer (some ⟨bkx, okx + k, none⟩)) (some 196) rfl rfl (by kernel_rfl) (by kernel_rfl) (by kernel_rfl) (fun _ _ _ h => h) (Or.inl ⟨by rfl, ?_⟩) (by assumption) ?_
        · intro wz hSw; go_simp
        try simp only [Act.put, List.setIfInBounds_toArray, List.set_cons_zero, List.set_cons_succ]
        refine takeC (i := 19) (v := .int .i64 ex) (some 197) rfl rfl (by kernel_rfl) (by kernel_rfl) (by kernel_rfl) (fun _ _ _ h => h) (Or.inl ⟨by rfl, ?_⟩) (by assumption) ?_
        · intro wz hSw; have t0 := HEx.out wz (HPRwr.out wz hSw); go_simp
        try simp only [Act.put, List.setIfInBounds_toArray, List.set_cons_zero, List.set_cons_succ]
        refine takeC (i := 20) (v := .slice tfa TF.length tfc) (some 198) rfl rfl (by kernel_rfl) (by kernel_rfl) (by kernel_rfl) (fun _ _ _ h => h) (Or.inl ⟨by rfl, ?_⟩) (by assumption) ?_
        · intro wz hSw; go_simp
        try simp only [Act.put, List.setIfInBounds_toArray, List.set_cons_zero, List.set_cons_succ]
        refine takeC (i := 22) (v := .agg #[.slice v2a K2.length v2c, .slice v2b D2.length v2d]) (some 200) rfl rfl (by kernel_rfl) (by kernel_rfl) (by kernel_rfl) (fun _ _ _ h => h) (Or.inl ⟨by rfl, ?_⟩) (by assumption) ?_
        · intro wz hSw; obtain ⟨⟨⟨t0, t1⟩, t2, t3⟩, ⟨t4, t5⟩, ⟨t6, t7⟩, t8, t9⟩ := HCL.out wz hSw; go_simp
        try simp only [Act.put, List.setIfInBounds_toArray, List.set_cons_zero, List.set_cons_succ]
        refine takeC (i := 23) (v := .slice (some ⟨bkv, okv, none⟩) nn v2uw) (some 201) rfl rfl (by kernel_rfl) (by kernel_rfl) (by kernel_rfl) (fun _ _ _ h => h) (Or.inl ⟨by rfl, ?_⟩) (by assumption) ?_
        · intro wz hSw; go_simp
        try simp only [Act.put, List.setIfInBounds_toArray, List.set_cons_zero, List.set_cons_succ]
        refine takeC (i := 24) (v := .int .i64 (k : Int)) (some 202) rfl rfl (by kernel_rfl) (by kernel_rfl) (by kernel_rfl) (fun _ _ _ h => h) (Or.inl ⟨by rfl, ?_⟩) (by assumption) ?_
        · intro wz hSw; go_simp
        try simp only [Act.put, List.setIfInBounds_toArray, List.set_cons_zero, List.set_cons_succ]
        refine takeC (i := 25) (v := .pointer (some ⟨bkv, okv + k, none⟩)) (some 203) rfl rfl (by kernel_rfl) (by kernel_rfl) (by kernel_rfl) (fun _ _ _ h => h) (Or.inl ⟨by rfl, ?_⟩) (by assumption) ?_
        · intro wz hSw; go_simp
        try simp only [Act.put, List.setIfInBounds_toArray, List.set_cons_zero, List.set_cons_succ]
        refine takeC (i := 26) (v := .int .i64 ev) (some 204) rfl rfl (by kernel_rfl) (by kernel_rfl) (by kernel_rfl) (fun _ _ _ h => h) (Or.inl ⟨by rfl, ?_⟩) (by assumption) ?_
        · intro wz hSw; have t0 := HEv.out wz (HPRwr.out wz hSw); go_simp
        try simp only [Act.put, List.setIfInBounds_toArray, List.set_cons_zero, List.set_cons_succ]
        refine takeC (i := 27) (v := .slice aa a.length ac) (some 205) rfl rfl (by kernel_rfl) (by kernel_rfl) (by kernel_rfl) (fun _ _ _ h => h) (Or.inl ⟨by rfl, ?_⟩) (by assumption) ?_
        · intro wz hSw; go_simp
        try simp only [Act.put, List.setIfInBounds_toArray, List.set_cons_zero, List.set_cons_succ]
        refine wpAnyH_ready (rs := [21]) (by kernel_rfl) (by simp) ?_
        refine AllReadyH.cons rfl (fun K hK => ?_) AllReadyH.nil
        go_simp
        go_wp2_with (go_at_call 50; refine (HMG.out r1 (HBK.out.trans (HBr1.out.mono HBK.out.size))).mono ?_; rintro e r2 ⟨vm, rfl, ho, hb⟩)
        have HBr2 : Hid (Below wr.heap.size wr r2) := HBr1.out.trans (hb.mono HBr1.out.size)
        have HVM := Lib.hid (ho.ints (by have := HM64.out.2; omega) HM64.out.1)
        refine hK.out _ _ HBr2.out (fun hHn => ?_)
        clear hK K hHn hb ho hSd
        have hSd : Below wr.heap.size wr r2 := HBr2.out
        try simp only [Act.put, List.setIfInBounds_toArray, List.set_cons_zero, List.set_cons_succ]
        refine wpAnyH_ready (rs := [28]) (by kernel_rfl) (by simp) ?_
        refine AllReadyH.cons rfl (fun K hK => ?_) AllReadyH.nil
        go_simp
        go_wp2_with (go_at_call 49; refine (HQ2.out r2 _ HBr2.out HVM.out).mono ?_; rintro e r3 ⟨rfl, hb⟩)
        have HBr3 : Hid (Below wr.heap.size wr r3) := HBr2.out.trans (hb.mono HBr2.out.size)
        refine hK.out _ _ HBr3.out (fun hHn => ?_)
        clear hK K hHn hb hSd
        have hSd : Below wr.heap.size wr r3 := HBr3.out
        try simp only [Act.put, List.setIfInBounds_toArray, List.set_cons_zero, List.set_cons_succ]
        refine takeC (i := 29) (v := .bool false) (some 207) rfl rfl (by kernel_rfl) (by kernel_rfl) (by kernel_rfl) (fun _ _ _ h => h) (Or.inl ⟨by rfl, ?_⟩) (by assumption) ?_
        · intro wz hSw; go_simp
        try simp only [Act.put, List.setIfInBounds_toArray, List.set_cons_zero, List.set_cons_succ]
        refine takeC (i := 30) (v := .bool false) (some 208) rfl rfl (by kernel_rfl) (by kernel_rfl) (by kernel_rfl) (fun _ _ _ h => h) (Or.inl ⟨by rfl, ?_⟩) (by assumption) ?_
        · intro wz hSw; go_simp
        try simp only [Act.put, List.setIfInBounds_toArray, List.set_cons_zero, List.set_cons_succ]
        refine takeC (i := 31) (v := .bool false) (some 209) rfl rfl (by kernel_rfl) (by kernel_rfl) (by kernel_rfl) (fun _ _ _ h => h) (Or.inl ⟨by rfl, ?_⟩) (by assumption) ?_
        · intro wz hSw; go_simp
        try simp only [Act.put, List.setIfInBounds_toArray, List.set_cons_zero, List.set_cons_succ]
        refine takeC (i := 32) (v := .agg #[.slice ia I.length ic, .slice ga A.length gc]) (some 210) rfl rfl (by kernel_rfl) (by kernel_rfl) (by kernel_rfl) (fun _ _ _ h => h) (Or.inl ⟨by rfl, ?_⟩) (by assumption) ?_
        · intro wz hSw; obtain ⟨⟨⟨t0, t1⟩, t2, t3⟩, ⟨t4, t5⟩, ⟨t6, t7⟩, t8, t9⟩ := HCL.out wz hSw; go_simp
        try simp only [Act.put, List.setIfInBounds_toArray, List.set_cons_zero, List.set_cons_succ]
        refine takeC (i := 33) (v := .slice (some ⟨bkx, okx, none⟩) nn xc) (some 211) rfl rfl (by kernel_rfl) (by kernel_rfl) (by kernel_rfl) (fun _ _ _ h => h) (Or.inl ⟨by rfl, ?_⟩) (by assumption) ?_
        · intro wz hSw; go_simp
        try simp only [Act.put, List.setIfInBounds_toArray, List.set_cons_zero, List.set_cons_succ]
        refine takeC (i := 34) (v := .int .i64 (k : Int)) (some 212) rfl rfl (by kernel_rfl) (by kernel_rfl) (by kernel_rfl) (fun _ _ _ h => h) (Or.inl ⟨by rfl, ?_⟩) (by assumption) ?_
        · intro wz hSw; go_simp
        try simp only [Act.put, List.setIfInBounds_toArray, List.set_cons_zero, List.set_cons_succ]
        refine takeC (i := 35) (v := .pointer (some ⟨bkx, okx + k, none⟩)) (some 213) rfl rfl (by kernel_rfl) (by kernel_rfl) (by kernel_rfl) (fun _ _ _ h => h) (Or.inl ⟨by rfl, ?_⟩) (by assumption) ?_
        · intro wz hSw; go_simp
        try simp only [Act.put, List.setIfInBounds_toArray, List.set_cons_zero, List.set_cons_succ]
        refine takeC (i := 36) (v := .int .i64 ex) (some 214) rfl rfl (by kernel_rfl) (by kernel_rfl) (by kernel_rfl) (fun _ _ _ h => h) (Or.inl ⟨by rfl, ?_⟩) (by assumption) ?_
        · intro wz hSw; have t0 := HEx.out wz (HPRwr.out wz hSw); go_simp
        try simp only [Act.put, List.setIfInBounds_toArray, List.set_cons_zero, List.set_cons_succ]
        refine takeC (i := 37) (v := .slice aa a.length ac) (some 215) rfl rfl (by kernel_rfl) (by kernel_rfl) (by kernel_rfl) (fun _ _ _ h => h) (Or.inl ⟨by rfl, ?_⟩) (by assumption) ?_
        · intro wz hSw; go_simp
        try simp only [Act.put, List.setIfInBounds_toArray, List.set_cons_zero, List.set_cons_succ]
        refine takeC (i := 38) (v := .agg #[.slice v3a K3.length v3c, .slice v3b D3.length v3d]) (some 216) rfl rfl (by kernel_rfl) (by kernel_rfl) (by kernel_rfl) (fun _ _ _ h => h) (Or.inl ⟨by rfl, ?_⟩) (by assumption) ?_
        · intro wz hSw; obtain ⟨⟨⟨t0, t1⟩, t2, t3⟩, ⟨t4, t5⟩, ⟨t6, t7⟩, t8, t9⟩ := HCL.out wz hSw; go_simp
        try simp only [Act.put, List.setIfInBounds_toArray, List.set_cons_zero, List.set_cons_succ]
        refine takeC (i := 39) (v := .slice (some ⟨bkp, okp, none⟩) nn v3uw) (some 217) rfl rfl (by kernel_rfl) (by kernel_rfl) (by kernel_rfl) (fun _ _ _ h => h) (Or.inl ⟨by rfl, ?_⟩) (by assumption) ?_
        · intro wz hSw; go_simp
        try simp only [Act.put, List.setIfInBounds_toArray, List.set_cons_zero, List.set_cons_succ]
        refine takeC (i := 40) (v := .int .i64 (k : Int)) (some 218) rfl rfl (by kernel_rfl) (by kernel_rfl) (by kernel_rfl) (fun _ _ _ h => h) (Or.inl ⟨by rfl, ?_⟩) (by assumption) ?_
        · intro wz hSw; go_simp
        try simp only [Act.put, List.setIfInBounds_toArray, List.set_cons_zero, List.set_cons_succ]
        refine takeC (i := 41) (v := .pointer (some ⟨bkp, okp + k, none⟩)) (some 219) rfl rfl (by kernel_rfl) (by kernel_rfl) (by kernel_rfl) (fun _ _ _ h => h) (Or.inl ⟨by rfl, ?_⟩) (by assumption) ?_
        · intro wz hSw; go_simp
        try simp only [Act.put, List.setIfInBounds_toArray, List.set_cons_zero, List.set_cons_succ]
        refine takeC (i := 42) (v := .int .i64 ep) (some 220) rfl rfl (by kernel_rfl) (by kernel_rfl) (by kernel_rfl) (fun _ _ _ h => h) (Or.inl ⟨by rfl, ?_⟩) (by assumption) ?_
        · intro wz hSw; have t0 := HEp.out wz (HPRwr.out wz hSw); go_simp
        try simp only [Act.put, List.setIfInBounds_toArray, List.set_cons_zero, List.set_cons_succ]
        refine takeC (i := 43) (v := .slice aa a.length ac) (some 221) rfl rfl (by kernel_rfl) (by kernel_rfl) (by kernel_rfl) (fun _ _ _ h => h) (Or.inl ⟨by rfl, ?_⟩) (by assumption) ?_
        · intro wz hSw; go_simp
        try simp only [Act.put, List.setIfInBounds_toArray, List.set_cons_zero, List.set_cons_succ]
        refine wpAnyH_ready (rs := [44]) (by kernel_rfl) (by simp) ?_
        refine AllReadyH.cons rfl (fun K hK => ?_) AllReadyH.nil
        go_simp
        go_wp2_with (go_at_call 49; refine (HQ3.out r3 HBr3.out).mono ?_; rintro e r4 ⟨rfl, hb⟩)
        have HBr4 : Hid (Below wr.heap.size wr r4) := HBr3.out.trans (hb.mono HBr3.out.size)
        refine hK.out _ _ HBr4.out (fun hHn => ?_)
        clear hK K hHn hb hSd
        have hSd : Below wr.heap.size wr r4 := HBr4.out
        try simp only [Act.put, List.setIfInBounds_toArray, List.set_cons_zero, List.set_cons_succ]
        refine takeC (i := 45) (v := .bool false) (some 223) rfl rfl (by kernel_rfl) (by kernel_rfl) (by kernel_rfl) (fun _ _ _ h => h) (Or.inl ⟨by rfl, ?_⟩) (by assumption) ?_
        · intro wz hSw; go_simp
        try simp only [Act.put, List.setIfInBounds_toArray, List.set_cons_zero, List.set_cons_succ]
        refine takeC (i := 46) (v := .bool false) (some 224) rfl rfl (by kernel_rfl) (by kernel_rfl) (by kernel_rfl) (fun _ _ _ h => h) (Or.inl ⟨by rfl, ?_⟩) (by assumption) ?_
        · intro wz hSw; go_simp
        try simp only [Act.put, List.setIfInBounds_toArray, List.set_cons_zero, List.set_cons_succ]
        refine takeC (i := 47) (v := .bool false) (some 225) rfl rfl (by kernel_rfl) (by kernel_rfl) (by kernel_rfl) (fun _ _ _ h => h) (Or.inl ⟨by rfl, ?_⟩) (by assumption) ?_
        · intro wz hSw; go_simp
        try simp only [Act.put, List.setIfInBounds_toArray, List.set_cons_zero, List.set_cons_succ]
        refine takeC (i := 48) (v := .agg #[.slice ja J.length jc, .slice ca C.length cc]) (some 226) rfl rfl (by kernel_rfl) (by kernel_rfl) (by kernel_rfl) (fun _ _ _ h => h) (Or.inl ⟨by rfl, ?_⟩) (by assumption) ?_
        · intro wz hSw; obtain ⟨⟨⟨t0, t1⟩, t2, t3⟩, ⟨t4, t5⟩, ⟨t6, t7⟩, t8, t9⟩ := HCL.out wz hSw; go_simp
        try simp only [Act.put, List.setIfInBounds_toArray, List.set_cons_zero, List.set_cons_succ]
        refine takeC (i := 49) (v := .slice (some ⟨bky, oky, none⟩) nn yc) (some 227) rfl rfl (by kernel_rfl) (by kernel_rfl) (by kernel_rfl) (fun _ _ _ h => h) (Or.inl ⟨by rfl, ?_⟩) (by assumption) ?_
        · intro wz hSw; go_simp
        try simp only [Act.put, List.setIfInBounds_toArray, List.set_cons_zero, List.set_cons_succ]
        refine takeC (i := 50) (v := .int .i64 (k : Int)) (some 228) rfl rfl (by kernel_rfl) (by kernel_rfl) (by kernel_rfl) (fun _ _ _ h => h) (Or.inl ⟨by rfl, ?_⟩) (by assumption) ?_
        · intro wz hSw; go_simp
        try simp only [Act.put, List.setIfInBounds_toArray, List.set_cons_zero, List.set_cons_succ]
        refine takeC (i := 51) (v := .pointer (some ⟨bky, oky + k, none⟩)) (some 229) rfl rfl (by kernel_rfl) (by kernel_rfl) (by kernel_rfl) (fun _ _ _ h => h) (Or.inl ⟨by rfl, ?_⟩) (by assumption) ?_
        · intro wz hSw; go_simp
        try simp only [Act.put, List.setIfInBounds_toArray, List.set_cons_zero, List.set_cons_succ]
        refine takeC (i := 52) (v := .int .i64 ey) (some 230) rfl rfl (by kernel_rfl) (by kernel_rfl) (by kernel_rfl) (fun _ _ _ h => h) (Or.inl ⟨by rfl, ?_⟩) (by assumption) ?_
        · intro wz hSw; have t0 := HEy.out wz (HPRwr.out wz hSw); go_simp
        try simp only [Act.put, List.setIfInBounds_toArray, List.set_cons_zero, List.set_cons_succ]
        refine takeC (i := 53) (v := .slice aa a.length ac) (some 231) rfl rfl (by kernel_rfl) (by kernel_rfl) (by kernel_rfl) (fun _ _ _ h => h) (Or.inl ⟨by rfl, ?_⟩) (by assumption) ?_
        · intro wz hSw; go_simp
        try simp only [Act.put, List.setIfInBounds_toArray, List.set_cons_zero, List.set_cons_succ]
        refine takeC (i := 54) (v := .agg #[.slice v3a K3.length v3c, .slice v3b D3.length v3d]) (some 232) rfl rfl (by kernel_rfl) (by kernel_rfl) (by kernel_rfl) (fun _ _ _ h => h) (Or.inl ⟨by rfl, ?_⟩) (by assumption) ?_
        · intro wz hSw; obtain ⟨⟨⟨t0, t1⟩, t2, t3⟩, ⟨t4, t5⟩, ⟨t6, t7⟩, t8, t9⟩ := HCL.out wz hSw; go_simp
        try simp only [Act.put, List.setIfInBounds_toArray, List.set_cons_zero, List.set_cons_succ]
        refine takeC (i := 55) (v := .slice (some ⟨bkq, okq, none⟩) nn v3tw) (some 233) rfl rfl (by kernel_rfl) (by kernel_rfl) (by kernel_rfl) (fun _ _ _ h => h) (Or.inl ⟨by rfl, ?_⟩) (by assumption) ?_
        · intro wz hSw; go_simp
        try simp only [Act.put, List.setIfInBounds_toArray, List.set_cons_zero, List.set_cons_succ]
        refine takeC (i := 56) (v := .int .i64 (k : Int)) (some 234) rfl rfl (by kernel_rfl) (by kernel_rfl) (by kernel_rfl) (fun _ _ _ h => h) (Or.inl ⟨by rfl, ?_⟩) (by assumption) ?_
        · intro wz hSw; go_simp
        try simp only [Act.put, List.setIfInBounds_toArray, List.set_cons_zero, List.set_cons_succ]
        refine takeC (i := 57) (v := .pointer (some ⟨bkq, okq + k, none⟩)) (some 235) rfl rfl (by kernel_rfl) (by kernel_rfl) (by kernel_rfl) (fun _ _ _ h => h) (Or.inl ⟨by rfl, ?_⟩) (by assumption) ?_
        · intro wz hSw; go_simp
        try simp only [Act.put, List.setIfInBounds_toArray, List.set_cons_zero, List.set_cons_succ]
        refine takeC (i := 58) (v := .int .i64 eq) (some 236) rfl rfl (by kernel_rfl) (by kernel_rfl) (by kernel_rfl) (fun _ _ _ h => h) (Or.inl ⟨by rfl, ?_⟩) (by assumption) ?_
        · intro wz hSw; have t0 := HEq.out wz (HPRwr.out wz hSw); go_simp
        try simp only [Act.put, List.setIfInBounds_toArray, List.set_cons_zero, List.set_cons_succ]
        refine takeC (i := 59) (v := .slice aa a.length ac) (some 237) rfl rfl (by kernel_rfl) (by kernel_rfl) (by kernel_rfl) (fun _ _ _ h => h) (Or.inl ⟨by rfl, ?_⟩) (by assumption) ?_
        · intro wz hSw; go_simp
        try simp only [Act.put, List.setIfInBounds_toArray, List.set_cons_zero, List.set_cons_succ]
        refine wpAnyH_ready (rs := [60]) (by kernel_rfl) (by simp) ?_
        refine AllReadyH.cons rfl (fun K hK => ?_) AllReadyH.nil
        go_simp
        go_wp2_with (go_at_call 49; refine (HQ4.out r4 HBr4.out).mono ?_; rintro e r5 ⟨rfl, hb⟩)
        have HBr5 : Hid (Below wr.heap.size wr r5) := HBr4.out.trans (hb.mono HBr4.out.size)
        refine hK.out _ _ HBr5.out (fun hHn => ?_)
        clear hK K hHn hb hSd
        have hSd : Below wr.heap.size wr r5 := HBr5.out
        try simp only [Act.put, List.setIfInBounds_toArray, List.set_cons_zero, List.set_cons_succ]
        refine takeC (i := 61) (v := .bool false) (some 239) rfl rfl (by kernel_rfl) (by kernel_rfl) (by kernel_rfl) (fun _ _ _ h => h) (Or.inl ⟨by rfl, ?_⟩) (by assumption) ?_
        · intro wz hSw; go_simp
        try simp only [Act.put, List.setIfInBounds_toArray, List.set_cons_zero, List.set_cons_succ]
        refine takeC (i := 62) (v := .bool false) (some 240) rfl rfl (by kernel_rfl) (by kernel_rfl) (by kernel_rfl) (fun _ _ _ h => h) (Or.inl ⟨by rfl, ?_⟩) (by assumption) ?_
        · intro wz hSw; go_simp
        try simp only [Act.put, List.setIfInBounds_toArray, List.set_cons_zero, List.set_cons_succ]
        refine wpAnyH_done (by kernel_rfl) ?_ _
        clear hSd
        go_wp2
        go_roundw
        case rel => exact ⟨k + 1, HKL.out, by go_num, HBK.out.trans (HBr5.out.mono HBK.out.size)⟩
        case measure => have := HKL.out; simp [intOf]; omega
    · obtain rfl : nn = k := by omega
      have HB6 : Hid (Below V3.heap.size V3 wr) := HB3K.out
      clear HMG HM64 HTF HBK HB3K hk
      generalize wr = y1 at *
      try clear HME1
      try clear HME2
      try clear HME3
      try clear HME4
      try clear HC1
      try clear HC2
      try clear HC3
      try clear HGC
      try clear HL1
      try clear HL2
      try clear HYY
      try clear HXL
      try clear HYL
      try clear HMF
      try clear HLT
      try clear HBV1
      try clear HBV2
      try clear HBV3
      try clear HN1
      try clear HN2
      try clear HN3
      try clear HY3
      try clear HYZ
      try clear HB5V
      try clear HZ3
      try clear HQN1
      try clear HNN
      try clear HTL
      have HEW : Hid (Own (y1.alloc (.cells #[] 3)) y1.heap.size (.slice (some ⟨y1.heap.size, 0, none⟩) 0 0) []) := own_built0 (Nat.le_refl _)
      have HBE := Lib.hid (below_alloc1 y1 (.cells #[] 3))
      have HAE : Hid (IsInts (y1.alloc (.cells #[] 3)) (.slice aa a.length ac) a) := ((HU2.out y1 (HLZ.out _ HB6.out)).1.2).below HBE.out (Nat.le_refl _)
      have HA64 : Hid (In64 a) := ((HU2.out y1 (HLZ.out _ HB6.out)).1.2).in64
      go_wp2_with (at_builtin; go_loud (refine wpList_app rfl (.tmp 242) (.tmp 243) rfl y1.heap.size (.slice (some ⟨y1.heap.size, 0, none⟩) 0 0) _ [] a rfl rfl HEW.out HAE.out (by simp; have := HLB.out; omega) (by simp) ?_; intro bv y2 ho hg; have HBO : Hid (Own y2 y1.heap.size bv a) := ho; have HBY : Hid (Below y1.heap.size y1 y2) := HBE.out.grown hg (by simp) (fun g hg => by simp [Value.ownBlock] at hg; omega); clear ho hg))
      clear HEW HBE HAE
      obtain ⟨OL, hOL⟩ : ∃ OL : Nat → List Pr, (fun k => ownL I (fit1 n1) (B.take k)) = OL := ⟨_, rfl⟩
      have HOK : Hid (∀ k, k ≤ B.length → (∀ o ∈ OL k, o.1 ∈ I ∧ isE o.2 n1 = true) ∧ ((OL k).map (·.1)).Nodup ∧ (OL k).length ≤ k) := fun k hk => by rw [← hOL]; exact HOWN.out k hk
      have HOS : Hid (∀ k, k < B.length → OL (k + 1) = ownStep I (fit1 n1) (OL k) (B.getD k dPr)) := fun k hk => by rw [← hOL]; exact ownL_succ hk
      have HO0 : Hid (OL 0 = []) := by show _ = _; rw [← hOL]; rfl
      clear hOL HOWN
      have HOI : Hid (∀ k, k ≤ B.length → InP (OL k)) := fun k hk o ho => by
        have h9 := (HOK.out k hk).1 o ho
        have h8 := HPO.out _ h9.1
        have h7 := isE_true.1 h9.2
        have h6 := HNUM.out
        omega
      have HBL0 : Hid (bL I A a (OL 0) = a) := by show _ = _; rw [HO0.out]; rfl
      have HBL : Hid (∀ k, k ≤ B.length → In64 (bL I A a (OL k)) ∧ (bL I A a (OL k)).length ≤ 200 ∧ ∀ z ∈ bL I A a (OL k), litB z = true) := fun k hk => by
        obtain ⟨_, _, b3, b4⟩ := bL_all (I := I) (A := A) (a := a) (OL k).length (OL k) rfl (fun o ho => HPO.out _ ((HOK.out k hk).1 o ho).1) (HOK.out k hk).2.1
        have h9 := b3 (fun z hz => mayB_mem HNL.out.1 z hz)
        exact ⟨fun z hz => (abs5_litM (h9 z hz)).2, by have := (HOK.out k hk).2.2; have := HLB.out; omega, h9⟩
      have HMA : Hid (mayA I A = true) := (hasA_parts HXX.out).1
      go_wp2
      go_loopw [27, 28, 247] (fun s27 s28 s247 wr => ∃ k : Nat, k ≤ B.length ∧ s247 = .int .i64 k ∧ OwnO wr y1.heap.size s27 (OL k) ∧ Own wr y1.heap.size s28 (bL I A a (OL k)) ∧ Below y1.heap.size y1 wr) (fun _ _ s247 _ => B.length - (intOf s247).toNat)
      case atStart => exact ⟨0, Nat.zero_le _, rfl, by rw [HO0.out]; exact OwnO.nil _ _, by rw [HBL0.out]; exact HBO.out, HBY.out⟩
      case round =>
        obtain ⟨k, hk, rfl, hoo, hob, hbl⟩ := hrel
        by_cases hlt : k < B.length
        · have HBR := Lib.hid hbl
          have HB3R : Hid (Below V3.heap.size V3 wr) := HB6.out.trans (hbl.mono HB6.out.size)
          obtain ⟨oa, oc, rfl⟩ := hoo.shape
          obtain ⟨pa, pc, rfl⟩ := own_shC hob
          obtain ⟨bb, ob, rfl, hbb, hx0, hy0⟩ := ((HU2.out y1 (HLZ.out _ HB6.out)).2.2).at hlt
          have hin := HBN.out _ (show B.getD k dPr ∈ B by simp [List.getD, hlt])
          have hx := (HBR.out.cell (p := ⟨bb, ob + k * 2, none⟩) hbb).trans hx0
          have hy := (HBR.out.cell (p := ⟨bb, ob + k * 2 + 1, none⟩) hbb).trans hy0
          have HSK := Lib.hid (HOS.out k hlt)
          have HKL := Lib.hid hlt
          have hk0 : (0 : Int) ≤ (k : Int) := by omega
          have hk1 : (k : Int) < (B.length : Int) := by omega
          have hk2 : (k : Int) < 101 := by have := HLB.out; omega
          have HOC := Lib.hid (HOK.out k hk)
          have HOC2 := Lib.hid (HOI.out k hk)
          have HBC := Lib.hid (HBL.out k hk)
          have HBSN : Hid (∀ o, bL I A a (OL k ++ [o]) = litM I A a o :: bL I A a (OL k)) := fun o => bL_snoc I A a (OL k) o
          have HFE : Hid (∀ e, fitI n1 [e] = [fit1 n1 e]) := fun e => rfl
          have HFB : Hid (∀ e, 0 ≤ fit1 n1 e ∧ fit1 n1 e < 2 * (n1 : Int)) := fun e => fit1_bd HNUM.out.1 e
          clear hx0 hy0 hbb hk
          generalize B.getD k dPr = o at *
          obtain ⟨v, e⟩ := o
          simp only at hx hy hin HSK
          obtain ⟨⟨v0, v1⟩, ee0, ee1⟩ := hin
          have HVB : Hid ((-9223372036854775808 ≤ v ∧ v ≤ 9223372036854775807) ∧ -9223372036854775808 ≤ e ∧ e ≤ 9223372036854775807) := ⟨⟨v0, v1⟩, ee0, ee1⟩
          have hba := below_alloc1 wr (.cells #[.int .i64 v, .int .i64 e] 90)
          have HBX1 := Lib.hid (HBR.out.trans (hba.mono HBR.out.size))
          have HB31 := Lib.hid (HB3R.out.trans (hba.mono HB3R.out.size))
          have hbx : (wr.alloc (.cells #[.int .i64 v, .int .i64 e] 90)).heap[wr.heap.size]? = some (.cells #[.int .i64 v, .int .i64 e] 90 (0, 0)) := World.alloc_heap_new _ _
          have HST : Hid (∀ Z, Below (wr.alloc (.cells #[.int .i64 v, .int .i64 e] 90)).heap.size (wr.alloc (.cells #[.int .i64 v, .int .i64 e] 90)) Z → OwnO Z y1.heap.size (.slice oa (OL k).length oc) (OL k) ∧ Own Z y1.heap.size (.slice pa (bL I A a (OL k)).length pc) (bL I A a (OL k)) ∧ Z.heap[wr.heap.size]? = some (.cells #[.int .i64 v, .int .i64 e] 90 (0, 0))) := fun Z hZ => ⟨(hoo.below hba (Nat.le_refl _)).below hZ (Nat.le_refl _), (hob.below hba (Nat.le_refl _)).below hZ (Nat.le_refl _), (hZ.block _ (by simp)).trans hbx⟩
          have HLO : Hid (∀ g, Value.ownBlock (.slice oa (OL k).length oc) = some g → g < wr.heap.size) := fun g hg => (hoo.lt g hg).2
          have HLP : Hid (∀ g, Value.ownBlock (.slice pa (bL I A a (OL k)).length pc) = some g → g < wr.heap.size) := fun g hg => (hob.lt g hg).2
          have HOG : Hid (y1.heap.size ≤ wr.heap.size) := HBR.out.size
          have HWG : Hid (w.heap.size + 1 < wr.heap.size) := by
            obtain ⟨_, q0, _⟩ := HXC.out wr (HLZ.out _ HB3R.out)
            by_cases c : w.heap.size + 1 < wr.heap.size
            · exact c
            · exfalso
              simp only [World.cell?] at q0
              rw [show wr.heap[w.heap.size + 1]? = none from Array.getElem?_eq_none (by omega)] at q0
              cases q0
          have HED : Hid (∀ X, Below W0.heap.size W0 X → Calls Tryz.prog 51 #[.agg #[.slice ia I.length ic, .slice ga A.length gc], .int .i64 v] X fun r w' => r = .returned (.int .i64 (edgeI I v)) ∧ Below X.heap.size X w') := fun X hX => redge_any _ _ I A v X (HU1.out X hX).1.1 (HU1.out X hX).1.2 HSR.out (by have := HSZ.out; omega) HVB.out.1.1 HVB.out.1.2
          have HHS : Hid (∀ X, Below (wr.alloc (.cells #[.int .i64 v, .int .i64 e] 90)).heap.size (wr.alloc (.cells #[.int .i64 v, .int .i64 e] 90)) X → Calls Tryz.prog 52 #[.slice oa (OL k).length oc, .int .i64 v] X fun r w' => r = .returned (.bool (decide (v ∈ (OL k).map (·.1)))) ∧ Below X.heap.size X w') := fun X hX => has6_any _ (OL k) v X ((HST.out X hX).1.pairs (by have := HOC.out.2.2; have := HLB.out; omega) HOC2.out) (by have := HOC.out.2.2; have := HLB.out; omega) HVB.out.1.1 HVB.out.1.2
          clear hba hoo hob hbl v0 v1 ee0 ee1
          obtain ⟨x0, x1, _, _⟩ := box2_cells hbx
          obtain ⟨⟨p0, p1⟩, _, _⟩ := HXC.out _ (HLZ.out _ HB31.out)
          clear hbx
          generalize OL k = own at *
          generalize hbl0 : bL I A a own = bl at *
          have HBLE : Hid (bL I A a own = bl) := hbl0
          clear hbl0
          go_upto_region 21 with fail
          generalize wr.alloc (.cells #[.int .i64 v, .int .i64 e] 90) = X1 at *
          generalize wr.heap.size = og at *
          clear hx hy
          have HZ1 : Hid (Below X1.heap.size X1 X1) := Below.refl _ _
          have HNX1 : Hid (∀ Z, Below X1.heap.size X1 Z → Below V3.heap.size V3 Z) := fun Z hZ => HB31.out.trans (hZ.mono HB31.out.size)
          have HNY1 : Hid (∀ Z, Below X1.heap.size X1 Z → Below y1.heap.size y1 Z) := fun Z hZ => HBX1.out.trans (hZ.mono HBX1.out.size)
          by_cases hvI : v ∈ I
          · have hez : edgeI I v = 2 * placeA I v := by unfold edgeI; rw [if_pos hvI]
            have hpb := placeA_bd I v
            obtain ⟨zn, hzn⟩ : ∃ zn : Nat, edgeI I v = (zn : Int) := ⟨(2 * placeA I v).toNat, by omega⟩
            rw [hzn] at HED
            have HVI := Lib.hid hvI
            have HVP := Lib.hid (HPO.out v hvI)
            clear hez hpb hzn hvI
            by_cases hvo : v ∈ own.map (·.1)
            · have HSE : Hid (OL (k + 1) = own) := by show _ = _; rw [HSK.out]; unfold ownStep; rw [if_neg (fun h => h.2 hvo)]
              rw [decide_eq_true hvo] at HHS
              clear hvo HSK
              go_wp2_with (first
                | (go_at_call 52; refine (HHS.out X2 HC2x.out).mono ?_; rintro er X3 ⟨rfl, hb⟩; have HC3x := Lib.hid (HC2x.out.trans (hb.mono HC2x.out.size)); clear hb)
                | (go_at_call 51; refine (HED.out X1 (HLZ.out _ HB31.out)).mono ?_; rintro er X2 ⟨rfl, hb⟩; have HC2x := Lib.hid hb; clear x0 x1 p0 p1; obtain ⟨x0, x1, _, _⟩ := box2_cells (HST.out X2 hb).2.2; clear hb))
              go_roundw
              case rel =>
                refine ⟨k + 1, HKL.out, by go_num, ?_, ?_, HNY1.out _ HC3x.out⟩
                · rw [HSE.out]; exact (HST.out _ HC3x.out).1
                · rw [HSE.out, HBLE.out]; exact (HST.out _ HC3x.out).2.1
              case measure => have := HKL.out; simp [intOf]; omega
            · have HSE : Hid (OL (k + 1) = own ++ [(v, fit1 n1 e)]) := by show _ = _; rw [HSK.out]; unfold ownStep; rw [if_pos ⟨HVI.out, hvo⟩]
              rw [decide_eq_false hvo] at HHS
              clear hvo HSK
              go_upto_region 22 with (first
                | (go_at_call 52; refine (HHS.out X2 HC2x.out).mono ?_; rintro er X3 ⟨rfl, hb⟩; have HC3x := Lib.hid (HC2x.out.trans (hb.mono HC2x.out.size)); clear hb)
                | (go_at_call 51; refine (HED.out X1 (HLZ.out _ HB31.out)).mono ?_; rintro er X2 ⟨rfl, hb⟩; have HC2x := Lib.hid hb; clear x0 x1 p0 p1; obtain ⟨x0, x1, _, _⟩ := box2_cells (HST.out X2 hb).2.2; clear hb))
              clear x0 x1 HED HHS
              have hwd : Below X3.heap.size X3 X3.drew := (Below.refl _ X3).drew
              have HCX := Lib.hid (HC3x.out.trans (hwd.mono HC3x.out.size))
              have HCG : Hid (∀ Z, Below X1.heap.size X1 Z → Z.cell? ⟨w.heap.size, 0, none⟩ = some (.slice ia I.length ic) ∧ Z.cell? ⟨w.heap.size, 1, none⟩ = some (.slice ga A.length gc)) := fun Z hZ => (HXC.out Z (HLZ.out _ (HNX1.out Z hZ))).1
              refine wp_region_held_drew (S := fun Z : World => Z.cell? ⟨w.heap.size, 0, none⟩ = some (.slice ia I.length ic) ∧ Z.cell? ⟨w.heap.size, 1, none⟩ = some (.slice ga A.length gc)) (by kernel_rfl) (HCG.out _ HCX.out) (fun hSd => ?_)
              clear hwd
              generalize X3.drew = X at *
              refine takeC (i := 0) (v := .pointer (some ⟨og, 1, none⟩)) (some 262) rfl rfl (by kernel_rfl) (by kernel_rfl) (by kernel_rfl) (fun _ _ _ h => h) (Or.inl ⟨by rfl, ?_⟩) (by assumption) ?_
              · intro wz hSw; go_simp
              try simp only [Act.put, List.setIfInBounds_toArray, List.set_cons_zero, List.set_cons_succ]
              refine takeC (i := 3) (v := .agg #[.slice ia I.length ic, .slice ga A.length gc]) (some 265) rfl rfl (by kernel_rfl) (by kernel_rfl) (by kernel_rfl) (fun _ _ _ h => h) (Or.inl ⟨by rfl, ?_⟩) (by assumption) ?_
              · intro wz hSw; obtain ⟨t0, t1⟩ := hSw; go_simp
              try simp only [Act.put, List.setIfInBounds_toArray, List.set_cons_zero, List.set_cons_succ]
              apply cutM (P := Tryz.prog) (md := .any) (G := fun nb ug uc wx => Below X1.heap.size X1 wx ∧ wx.cell? ⟨ug, 0, none⟩ = some (.int .i64 (fit1 n1 e)))
              · intro tailC
                refine wpAnyH_ready (rs := [1, 4]) (by kernel_rfl) (by simp) ?_
                refine AllReadyH.cons rfl (fun K hK => ?_) (AllReadyH.cons rfl (fun K hK => ?_) AllReadyH.nil)
                · obtain ⟨x0, x1, _, _⟩ := box2_cells (HST.out X HCX.out).2.2
                  go_simp
                  refine hK.out _ _ (HCG.out _ HCX.out) (fun hHn => ?_)
                  clear hK K hHn x0 x1
                  try simp only [Act.put, List.setIfInBounds_toArray, List.set_cons_zero, List.set_cons_succ]
                  refine wpAnyH_ready (rs := [2, 4]) (by kernel_rfl) (by simp) ?_
                  refine AllReadyH.cons rfl (fun K hK => ?_) (AllReadyH.cons rfl (fun K hK => ?_) AllReadyH.nil)
                  · go_simp
                    have hbn := below_alloc1 X (.cells #[.int .i64 e] 3)
                    have HCY : Hid (Below X1.heap.size X1 (X.alloc (.cells #[.int .i64 e] 3))) := HCX.out.trans (hbn.mono HCX.out.size)
                    have HOEY : Hid ((X.alloc (.cells #[.int .i64 e] 3)).heap[X.heap.size]? = some (.cells #[.int .i64 e] 3 (0, 0))) := World.alloc_heap_new _ _
                    refine hK.out _ _ (HCG.out _ HCY.out) (fun hHn => ?_)
                    clear hK K hHn hbn
                    generalize X.alloc (.cells #[.int .i64 e] 3) = Y at *
                    have hSd2 := HCG.out _ HCY.out
                    try simp only [Act.put, List.setIfInBounds_toArray, List.set_cons_zero, List.set_cons_succ]
                    refine wpAnyH_ready (rs := [4]) (by kernel_rfl) (by simp) ?_
                    refine AllReadyH.cons rfl (fun K hK => ?_) AllReadyH.nil
                    go_simp
                    go_simp
                    go_wp2_with (go_at_call 48; refine (HND1.out Y (HLZ.out _ (HNX1.out _ HCY.out))).mono ?_; rintro er Z ⟨rfl, hb⟩)
                    have HCZ : Hid (Below X1.heap.size X1 Z) := HCY.out.trans (hb.mono HCY.out.size)
                    have HOEZ := Lib.hid ((hb.block _ (Array.getElem?_eq_some_iff.1 HOEY.out).1).trans HOEY.out)
                    refine hK.out _ _ (HCG.out _ HCZ.out) (fun hHn => ?_)
                    clear hK K hHn hb
                    have hSd3 := HCG.out _ HCZ.out
                    try simp only [Act.put, List.setIfInBounds_toArray, List.set_cons_zero, List.set_cons_succ]
                    refine wpAnyH_ready (rs := [5]) (by kernel_rfl) (by simp) ?_
                    refine AllReadyH.cons rfl (fun K hK => ?_) AllReadyH.nil
                    go_simp
                    have HFT := Lib.hid (fit_any (.slice (some ⟨X.heap.size, 0, none⟩) 1 1) [e] n1 Z (one_ints HOEZ.out HVB.out.2.1 HVB.out.2.2) (by simp) HNUM.out.1 HNUM.out.2.1)
                    rw [HFE.out] at HFT
                    go_wp2_with (go_at_call 47; refine HFT.out.mono ?_; rintro er X5 ⟨u, rfl, hu, hb⟩)
                    have HC5 : Hid (Below X1.heap.size X1 X5) := HCZ.out.trans (hb.mono HCZ.out.size)
                    obtain ⟨ug, uc, hue, _, _⟩ := own_at2 hu (by simp)
                    rw [List.length_singleton] at hue
                    subst hue
                    have cu := hu.cell 0 (by simp)
                    simp only [List.getD_cons_zero] at cu
                    refine hK.out _ _ (HCG.out _ HC5.out) (fun hHn => ?_)
                    clear hK K hHn hb hu HFT
                    try simp only [Act.put, List.setIfInBounds_toArray, List.set_cons_zero, List.set_cons_succ]
                    have hGG : Below X1.heap.size X1 X5 ∧ X5.cell? ⟨ug, 0, none⟩ = some (.int .i64 (fit1 n1 e)) := ⟨HC5.out, cu⟩
                    clear HOEZ
                    generalize X.heap.size = nb at *
                    exact tailC nb ug uc X5 hGG
                  · go_simp
                    go_wp2_with (go_at_call 48; refine (HND1.out X (HLZ.out _ (HNX1.out _ HCX.out))).mono ?_; rintro er Y ⟨rfl, hb⟩)
                    have HCY : Hid (Below X1.heap.size X1 Y) := HCX.out.trans (hb.mono HCX.out.size)
                    refine hK.out _ _ (HCG.out _ HCY.out) (fun hHn => ?_)
                    clear hK K hHn hb
                    have hSd3 := HCG.out _ HCY.out
                    try simp only [Act.put, List.setIfInBounds_toArray, List.set_cons_zero, List.set_cons_succ]
                    refine wpAnyH_ready (rs := [2]) (by kernel_rfl) (by simp) ?_
                    refine AllReadyH.cons rfl (fun K hK => ?_) AllReadyH.nil
                    go_simp
                    go_simp
                    have hbn := below_alloc1 Y (.cells #[.int .i64 e] 3)
                    have HCZ : Hid (Below X1.heap.size X1 (Y.alloc (.cells #[.int .i64 e] 3))) := HCY.out.trans (hbn.mono HCY.out.size)
                    have HOEZ : Hid ((Y.alloc (.cells #[.int .i64 e] 3)).heap[Y.heap.size]? = some (.cells #[.int .i64 e] 3 (0, 0))) := World.alloc_heap_new _ _
                    refine hK.out _ _ (HCG.out _ HCZ.out) (fun hHn => ?_)
                    clear hK K hHn hbn
                    generalize Y.alloc (.cells #[.int .i64 e] 3) = Z at *
                    have hSd2 := HCG.out _ HCZ.out
                    try simp only [Act.put, List.setIfInBounds_toArray, List.set_cons_zero, List.set_cons_succ]
                    refine wpAnyH_ready (rs := [5]) (by kernel_rfl) (by simp) ?_
                    refine AllReadyH.cons rfl (fun K hK => ?_) AllReadyH.nil
                    go_simp
                    have HFT := Lib.hid (fit_any (.slice (some ⟨Y.heap.size, 0, none⟩) 1 1) [e] n1 Z (one_ints HOEZ.out HVB.out.2.1 HVB.out.2.2) (by simp) HNUM.out.1 HNUM.out.2.1)
                    rw [HFE.out] at HFT
                    go_wp2_with (go_at_call 47; refine HFT.out.mono ?_; rintro er X5 ⟨u, rfl, hu, hb⟩)
                    have HC5 : Hid (Below X1.heap.size X1 X5) := HCZ.out.trans (hb.mono HCZ.out.size)
                    obtain ⟨ug, uc, hue, _, _⟩ := own_at2 hu (by simp)
                    rw [List.length_singleton] at hue
                    subst hue
                    have cu := hu.cell 0 (by simp)
                    simp only [List.getD_cons_zero] at cu
                    refine hK.out _ _ (HCG.out _ HC5.out) (fun hHn => ?_)
                    clear hK K hHn hb hu HFT
                    try simp only [Act.put, List.setIfInBounds_toArray, List.set_cons_zero, List.set_cons_succ]
                    have hGG : Below X1.heap.size X1 X5 ∧ X5.cell? ⟨ug, 0, none⟩ = some (.int .i64 (fit1 n1 e)) := ⟨HC5.out, cu⟩
                    clear HOEZ
                    generalize Y.heap.size = nb at *
                    exact tailC nb ug uc X5 hGG
                · go_simp
                  go_wp2_with (go_at_call 48; refine (HND1.out X (HLZ.out _ (HNX1.out _ HCX.out))).mono ?_; rintro er Y ⟨rfl, hb⟩)
                  have HCY : Hid (Below X1.heap.size X1 Y) := HCX.out.trans (hb.mono HCX.out.size)
                  refine hK.out _ _ (HCG.out _ HCY.out) (fun hHn => ?_)
                  clear hK K hHn hb
                  have hSd3 := HCG.out _ HCY.out
                  try simp only [Act.put, List.setIfInBounds_toArray, List.set_cons_zero, List.set_cons_succ]
                  refine wpAnyH_ready (rs := [1]) (by kernel_rfl) (by simp) ?_
                  refine AllReadyH.cons rfl (fun K hK => ?_) AllReadyH.nil
                  go_simp
                  obtain ⟨x0, x1, _, _⟩ := box2_cells (HST.out Y HCY.out).2.2
                  go_simp
                  refine hK.out _ _ (HCG.out _ HCY.out) (fun hHn => ?_)
                  clear hK K hHn x0 x1
                  try simp only [Act.put, List.setIfInBounds_toArray, List.set_cons_zero, List.set_cons_succ]
                  refine wpAnyH_ready (rs := [2]) (by kernel_rfl) (by simp) ?_
                  refine AllReadyH.cons rfl (fun K hK => ?_) AllReadyH.nil
                  go_simp
                  go_simp
                  have hbn := below_alloc1 Y (.cells #[.int .i64 e] 3)
                  have HCZ : Hid (Below X1.heap.size X1 (Y.alloc (.cells #[.int .i64 e] 3))) := HCY.out.trans (hbn.mono HCY.out.size)
                  have HOEZ : Hid ((Y.alloc (.cells #[.int .i64 e] 3)).heap[Y.heap.size]? = some (.cells #[.int .i64 e] 3 (0, 0))) := World.alloc_heap_new _ _
                  refine hK.out _ _ (HCG.out _ HCZ.out) (fun hHn => ?_)
                  clear hK K hHn hbn
                  generalize Y.alloc (.cells #[.int .i64 e] 3) = Z at *
                  have hSd2 := HCG.out _ HCZ.out
                  try simp only [Act.put, List.setIfInBounds_toArray, List.set_cons_zero, List.set_cons_succ]
                  refine wpAnyH_ready (rs := [5]) (by kernel_rfl) (by simp) ?_
                  refine AllReadyH.cons rfl (fun K hK => ?_) AllReadyH.nil
                  go_simp
                  have HFT := Lib.hid (fit_any (.slice (some ⟨Y.heap.size, 0, none⟩) 1 1) [e] n1 Z (one_ints HOEZ.out HVB.out.2.1 HVB.out.2.2) (by simp) HNUM.out.1 HNUM.out.2.1)
                  rw [HFE.out] at HFT
                  go_wp2_with (go_at_call 47; refine HFT.out.mono ?_; rintro er X5 ⟨u, rfl, hu, hb⟩)
                  have HC5 : Hid (Below X1.heap.size X1 X5) := HCZ.out.trans (hb.mono HCZ.out.size)
                  obtain ⟨ug, uc, hue, _, _⟩ := own_at2 hu (by simp)
                  rw [List.length_singleton] at hue
                  subst hue
                  have cu := hu.cell 0 (by simp)
                  simp only [List.getD_cons_zero] at cu
                  refine hK.out _ _ (HCG.out _ HC5.out) (fun hHn => ?_)
                  clear hK K hHn hb hu HFT
                  try simp only [Act.put, List.setIfInBounds_toArray, List.set_cons_zero, List.set_cons_succ]
                  have hGG : Below X1.heap.size X1 X5 ∧ X5.cell? ⟨ug, 0, none⟩ = some (.int .i64 (fit1 n1 e)) := ⟨HC5.out, cu⟩
                  clear HOEZ
                  generalize Y.heap.size = nb at *
                  exact tailC nb ug uc X5 hGG
              · rintro nb ug uc X5 ⟨hc5, cu⟩
                have HC5 := Lib.hid hc5
                have hS5 := HCG.out _ HC5.out
                clear hc5 hSd
                as_aux_lemma =>
                  refine takeC (i := 6) (v := .pointer (some ⟨ug, 0, none⟩)) (some 268) rfl rfl (by kernel_rfl) (by kernel_rfl) (by kernel_rfl) (fun _ _ _ h => h) (Or.inl ⟨by rfl, ?_⟩) (by assumption) ?_
                  · intro wz hSw; go_simp
                  try simp only [Act.put, List.setIfInBounds_toArray, List.set_cons_zero, List.set_cons_succ]
                  refine wpAnyH_ready (rs := [7]) (by kernel_rfl) (by simp) ?_
                  refine AllReadyH.cons rfl (fun K hK => ?_) AllReadyH.nil
                  go_simp
                  refine hK.out _ _ hS5 (fun hHn => ?_)
                  clear hK K hHn cu
                  try simp only [Act.put, List.setIfInBounds_toArray, List.set_cons_zero, List.set_cons_succ]
                  refine takeC (i := 8) (v := .pointer (some ⟨og, 1, none⟩)) (some 270) rfl rfl (by kernel_rfl) (by kernel_rfl) (by kernel_rfl) (fun _ _ _ h => h) (Or.inl ⟨by rfl, ?_⟩) (by assumption) ?_
                  · intro wz hSw; go_simp
                  try simp only [Act.put, List.setIfInBounds_toArray, List.set_cons_zero, List.set_cons_succ]
                  have hb5 := (HST.out X5 HC5.out).2.2
                  obtain ⟨m0, m1, f0, f1⟩ := box2_cells hb5
                  have hb6 := heap_set_same hb5 1 (.int .i64 (fit1 n1 e))
                  have HG6 : Hid ((X5.setCell ⟨og, 1, none⟩ (.int .i64 (fit1 n1 e))).heap[og]? = some (.cells #[.int .i64 v, .int .i64 (fit1 n1 e)] 90 (0, 0))) := by
                    show _ = _
                    simpa using hb6
                  have HO6 : Hid (OwnO (X5.setCell ⟨og, 1, none⟩ (.int .i64 (fit1 n1 e))) y1.heap.size (.slice oa own.length oc) own) := (HST.out X5 HC5.out).1.turn (fun g hg => heap_set_other 1 _ (by have := HLO.out g hg; omega))
                  have HP6 : Hid (Own (X5.setCell ⟨og, 1, none⟩ (.int .i64 (fit1 n1 e))) y1.heap.size (.slice pa bl.length pc) bl) := own_turn2 (HST.out X5 HC5.out).2.1 (fun g hg => heap_set_other 1 _ (by have := HLP.out g hg; omega))
                  have HY6 : Hid (Below y1.heap.size y1 (X5.setCell ⟨og, 1, none⟩ (.int .i64 (fit1 n1 e)))) := (HNY1.out _ HC5.out).setCell (p := ⟨og, 1, none⟩) HOG.out _
                  have h60 := hS5.1
                  have h61 := hS5.2
                  have hS6 : (X5.setCell ⟨og, 1, none⟩ (.int .i64 (fit1 n1 e))).cell? ⟨w.heap.size, 0, none⟩ = some (.slice ia I.length ic) ∧ (X5.setCell ⟨og, 1, none⟩ (.int .i64 (fit1 n1 e))).cell? ⟨w.heap.size, 1, none⟩ = some (.slice ga A.length gc) := (HXC.out _ (HLZ.out _ (HB6.out.trans (HY6.out.mono HB6.out.size)))).1
                  refine wpAnyH_ready (rs := [9]) (by kernel_rfl) (by simp) ?_
                  refine AllReadyH.cons rfl (fun K hK => ?_) AllReadyH.nil
                  go_simp
                  refine hK.out _ _ hS6 (fun hHn => ?_)
                  clear hK K hHn m0 m1 f0 f1 hb5 hb6 h60 h61 hS5
                  try simp only [Act.put, List.setIfInBounds_toArray, List.set_cons_zero, List.set_cons_succ]
                  refine wpAnyH_done (by kernel_rfl) ?_ _
                  clear hS6
                  have HFB1 := Lib.hid (HFB.out e)
                  have HS6 : Hid (y1.heap.size ≤ (X5.setCell ⟨og, 1, none⟩ (.int .i64 (fit1 n1 e))).heap.size) := HY6.out.size
                  generalize X5.setCell ⟨og, 1, none⟩ (.int .i64 (fit1 n1 e)) = X6 at *
                  generalize fit1 n1 e = fe at *
                  have HBF := below_alloc1 X6 (.cells #[.int .i64 v, .int .i64 fe] 90)
                  have HO7 := Lib.hid (HO6.out.below HBF (Nat.le_refl _))
                  have HP7 := Lib.hid (HP6.out.below HBF (Nat.le_refl _))
                  have HY7 := Lib.hid (HY6.out.trans (HBF.mono HY6.out.size))
                  have HG7 := Lib.hid ((HBF.block _ (Array.getElem?_eq_some_iff.1 HG6.out).1).trans HG6.out)
                  have HLG : Hid (og < X6.heap.size) := (Array.getElem?_eq_some_iff.1 HG6.out).1
                  have HNE : Hid (∀ g, Value.ownBlock (.slice oa own.length oc) = some g → og ≠ g) := fun g hg => by have := HLO.out g hg; omega
                  have HHF : Hid (hasA I A [fe] = true) := by
                    show _ = _
                    unfold hasA
                    rw [HMA.out, edgesB_true.2 (fun z hz => by obtain rfl := List.mem_singleton.1 hz; have := HFB1.out; have := HNE1.out; omega)]
                    rfl
                  have HEVC : Hid (evalC I A fe a = (evalA I A fe a, 0)) := by show _ = _; unfold evalC; rw [if_pos ⟨HHF.out, HNL.out.1⟩]
                  obtain ⟨z0, z1, _, _⟩ := box2_cells HG6.out
                  clear HBF
                  go_upto_region 24 with (at_builtin; go_loud (refine wpList_appO rfl (.tmp 271) (.tmp 273) rfl y1.heap.size _ _ (v, fe) X6.heap.size rfl rfl HO7.out (cell_fresh rfl) (cell_fresh rfl) (by have := HOC.out.2.2; have := HLB.out; omega) (by simp; have := HS6.out; omega) ?_; intro ov' X8 ho hg hl; have HON8 := Lib.hid ho; have HP8 := Lib.hid (own_keptO HP7.out HO7.out hg); have HY8 := Lib.hid (HY7.out.grown hg (by simp; have := HS6.out; omega) (fun g h => (HO7.out.lt g h).1)); have HG8 := Lib.hid ((hg.block og (by simp; have := HLG.out; omega) (fun e => HNE.out og e.symm rfl)).trans HG7.out); clear ho hg hl z0 z1))
                  obtain ⟨z0, z1, _, _⟩ := box2_cells HG8.out
                  have HB38 : Hid (Below V3.heap.size V3 X8) := HB6.out.trans (HY8.out.mono HB6.out.size)
                  obtain ⟨⟨p0, p1⟩, _, _⟩ := HXC.out _ (HLZ.out _ HB38.out)
                  have HBI8 := Lib.hid (HP8.out.ints (by have := HBC.out.2.1; omega) HBC.out.1)
                  have HEV : Hid (Calls Tryz.prog 27 #[.agg #[.slice ia I.length ic, .slice ga A.length gc], .int .i64 fe, .slice aa a.length ac] X8 fun r w' => r = .returned (.tuple #[.bool (evalA I A fe a), .int .i64 0]) ∧ Below X8.heap.size X8 w') := by
                    have h9 := geval_any _ _ _ I A fe a X8 (HU1.out _ (HLZ.out _ HB38.out)).1.1 (HU1.out _ (HLZ.out _ HB38.out)).1.2 (HU2.out _ (HLZ.out _ HB38.out)).1.2 h1 h2 (by have := HFB1.out; omega) (by have := HFB1.out; have := HNUM.out; omega)
                    rw [HEVC.out] at h9
                    exact h9
                  obtain ⟨nv, hnv⟩ : ∃ nv : Int, -v = nv := ⟨_, rfl⟩
                  have hwv : wrap64 (-v) = nv := by
                    have := HVP.out
                    rw [← hnv]
                    unfold wrap64
                    omega
                  have HNV : Hid (-v = nv) := hnv
                  clear hnv HEVC HHF
                  cases hev : evalA I A fe a with
                  | true =>
                    rw [hev] at HEV
                    have HEE : Hid (evalA I A fe a = true) := hev
                    clear hev
                    go_wp2_with (first
                      | (at_builtin; go_loud (refine wpList_app rfl (.tmp 292) (.tmp 293) rfl y1.heap.size (.slice (some ⟨X9.heap.size, 0, none⟩) 1 1) _ [v] bl rfl rfl (own_one2 X9 y1.heap.size v HYS9.out) (HBI9.out.below (below_alloc1 X9 _) (Nat.le_refl _)) (by simp; have := HBC.out.2.1; omega) (by simp; have := HYS9.out; omega) ?_; intro bv' X10 ho hg; have HBN10 := Lib.hid ho; have HON10 := Lib.hid (ownO_kept (HON9.out.below (below_alloc1 X9 _) (Nat.le_refl _)) hg (fun g h => by simp [Value.ownBlock] at h; subst h; exact fun e => absurd (HON9.out.lt _ e).2 (Nat.lt_irrefl _))); have HY10 := Lib.hid ((HY9.out.trans ((below_alloc1 X9 (.cells #[.int .i64 (v)] 3)).mono HY9.out.size)).grown hg (by simp; have := HYS9.out; omega) (fun g h => by simp [Value.ownBlock] at h; have := HYS9.out; omega)); clear ho hg))
                      | (go_at_call 27; refine HEV.out.mono ?_; rintro er X9 ⟨rfl, hb⟩; have HON9 := Lib.hid (HON8.out.below hb (Nat.le_refl _)); have HBI9 := Lib.hid (HBI8.out.below hb (Nat.le_refl _)); have HY9 := Lib.hid (HY8.out.trans (hb.mono HY8.out.size)); have HYS9 : Hid (y1.heap.size ≤ X9.heap.size) := HY9.out.size; clear z0 z1 p0 p1; obtain ⟨z0, z1, _, _⟩ := box2_cells ((hb.block _ (Array.getElem?_eq_some_iff.1 HG8.out).1).trans HG8.out); clear hb))
                    go_roundw
                    case rel =>
                      refine ⟨k + 1, HKL.out, by go_num, ?_, ?_, HY10.out⟩
                      · rw [HSE.out]; exact HON10.out
                      · have hl : litM I A a (v, fe) = v := by show (if evalA I A fe a = true then v else -v) = v; rw [HEE.out]; rfl
                        rw [HSE.out, HBSN.out, hl]
                        exact HBN10.out
                    case measure => have := HKL.out; simp [intOf]; omega
                  | false =>
                    rw [hev] at HEV
                    have HEE : Hid (evalA I A fe a = false) := hev
                    clear hev
                    go_wp2_with (first
                      | (at_builtin; go_loud (refine wpList_app rfl (.tmp 292) (.tmp 293) rfl y1.heap.size (.slice (some ⟨X9.heap.size, 0, none⟩) 1 1) _ [nv] bl rfl rfl (own_one2 X9 y1.heap.size nv HYS9.out) (HBI9.out.below (below_alloc1 X9 _) (Nat.le_refl _)) (by simp; have := HBC.out.2.1; omega) (by simp; have := HYS9.out; omega) ?_; intro bv' X10 ho hg; have HBN10 := Lib.hid ho; have HON10 := Lib.hid (ownO_kept (HON9.out.below (below_alloc1 X9 _) (Nat.le_refl _)) hg (fun g h => by simp [Value.ownBlock] at h; subst h; exact fun e => absurd (HON9.out.lt _ e).2 (Nat.lt_irrefl _))); have HY10 := Lib.hid ((HY9.out.trans ((below_alloc1 X9 (.cells #[.int .i64 (nv)] 3)).mono HY9.out.size)).grown hg (by simp; have := HYS9.out; omega) (fun g h => by simp [Value.ownBlock] at h; have := HYS9.out; omega)); clear ho hg))
                      | (go_at_call 27; refine HEV.out.mono ?_; rintro er X9 ⟨rfl, hb⟩; have HON9 := Lib.hid (HON8.out.below hb (Nat.le_refl _)); have HBI9 := Lib.hid (HBI8.out.below hb (Nat.le_refl _)); have HY9 := Lib.hid (HY8.out.trans (hb.mono HY8.out.size)); have HYS9 : Hid (y1.heap.size ≤ X9.heap.size) := HY9.out.size; clear z0 z1 p0 p1; obtain ⟨z0, z1, _, _⟩ := box2_cells ((hb.block _ (Array.getElem?_eq_some_iff.1 HG8.out).1).trans HG8.out); clear hb))
                    go_roundw
                    case rel =>
                      refine ⟨k + 1, HKL.out, by go_num, ?_, ?_, HY10.out⟩
                      · rw [HSE.out]; exact HON10.out
                      · have hl : litM I A a (v, fe) = nv := by show (if evalA I A fe a = true then v else -v) = nv; rw [HEE.out]; exact HNV.out
                        rw [HSE.out, HBSN.out, hl]
                        exact HBN10.out
                    case measure => have := HKL.out; simp [intOf]; omega
          · have hez : edgeI I v = -1 := by unfold edgeI; rw [if_neg hvI]
            have HSE : Hid (OL (k + 1) = own) := by show _ = _; rw [HSK.out]; unfold ownStep; rw [if_neg (fun h => hvI h.1)]
            rw [hez] at HED
            clear hez hvI HSK
            go_wp2_with (go_at_call 51; refine (HED.out X1 (HLZ.out _ HB31.out)).mono ?_; rintro er X2 ⟨rfl, hb⟩; have HC2x := Lib.hid hb; clear x0 x1 p0 p1; obtain ⟨x0, x1, _, _⟩ := box2_cells (HST.out X2 hb).2.2; clear hb)
            go_roundw
            case rel =>
              refine ⟨k + 1, HKL.out, by go_num, ?_, ?_, HNY1.out _ HC2x.out⟩
              · rw [HSE.out]; exact (HST.out _ HC2x.out).1
              · rw [HSE.out, HBLE.out]; exact (HST.out _ HC2x.out).2.1
            case measure => have := HKL.out; simp [intOf]; omega
        · obtain rfl : k = B.length := by omega
          have HB7 : Hid (Below V3.heap.size V3 wr) := HB6.out.trans (hbl.mono HB6.out.size)
          have hoc := HOK.out B.length (Nat.le_refl _)
          have HO7I := Lib.hid (HOI.out B.length (Nat.le_refl _))
          have HB7I := Lib.hid (HBL.out B.length (Nat.le_refl _))
          obtain ⟨D4, Wl, e4, M5, hmb⟩ := comp_mean (a := a) HXX.out HNL.out.1 (by have := HSZ.out; omega) (fun o ho => (hoc.1 o ho).1) hoc.2.1 (edgesB_true.2 (fun z hz => by
            obtain ⟨o, ho, rfl⟩ := List.mem_map.1 hz
            have h9 := isE_true.1 (hoc.1 o ho).2
            have h8 := HNE1.out
            omega))
          have HME5 := Lib.hid M5
          have HMB := Lib.hid hmb
          have HOL : Hid ((OL B.length).length ≤ 50) := by have := hoc.2.2; have := HLB.out; show _ ≤ _; omega
          obtain ⟨oa, oc, rfl⟩ := hoo.shape
          obtain ⟨pa, pc, rfl⟩ := own_shC hob
          have HOX := Lib.hid (hoo.pairs (by have := HOL.out; omega) HO7I.out)
          have HBX := Lib.hid (hob.ints (by have := HB7I.out; omega) HB7I.out.1)
          clear hoo hob hbl hoc M5 hmb HOK HOI HBL HOS HO0 HBL0 hlt hk
          generalize OL B.length = own at *
          generalize bL I A a own = bl at *
          generalize wr = y3 at *
          have HCX : Hid (Calls Tryz.prog 36 #[.agg #[.slice ia I.length ic, .slice ga A.length gc], .slice xa nn xc, .slice oa own.length oc] y3 (ResPost y3 ((I, D4), Wl, 0))) := by
            have h := gcompose_any _ _ _ _ I A x own y3 (HU1.out _ (HLZ.out _ HB7.out)).1.1 (HU1.out _ (HLZ.out _ HB7.out)).1.2 (HXY.out _ (HL0.out _ HB7.out)).1 HOX.out h1 h2 (by have := HOL.out; omega)
            rw [e4] at h
            exact h
          clear e4
          obtain ⟨⟨p0, p1⟩, q0, q1⟩ := HXC.out y3 (HLZ.out _ HB7.out)
          go_upto_region 33 with (go_at_call 36; go_loud (refine HCX.out.mono ?_; rintro e u4 ⟨z1, z2, zzu, rfl, hg, hou, hb⟩; obtain ⟨v4a, v4c, rfl⟩ := hg.ints.1.shape; obtain ⟨v4b, v4d, rfl, _⟩ := hg.ints.2.shape; have HG4 := Lib.hid hg.ints; have HO4u := Lib.hid (hou.ints (by have := HME5.out.len; have := HNX.out; show Wl.length ≤ _; omega) (mean_in64 HME5.out).1); have HBW4 : Hid (Below y3.heap.size y3 u4) := hb; clear hg hou hb p0 p1 q0 q1))
          have hbn := below_alloc1 u4 (.cells #[.slice v4a I.length v4c, .slice v4b D4.length v4d] 25)
          have hxn := boxA_new u4 (.slice v4a I.length v4c) (.slice v4b D4.length v4d)
          have hzn : (u4.alloc (.cells #[.slice v4a I.length v4c, .slice v4b D4.length v4d] 25)).heap.size = u4.heap.size + 1 := by rw [World.size_alloc]
          have HBV4 := Lib.hid (HBW4.out.trans (hbn.mono HBW4.out.size))
          have hi6 := HG4.out.1.below hbn (Nat.le_refl _)
          have ha6 := HG4.out.2.below hbn (Nat.le_refl _)
          have hu6u := HO4u.out.below hbn (Nat.le_refl _)
          obtain ⟨v4u, v4uw, rfl⟩ : ∃ a c, zzu = .slice a nn c := by
            obtain ⟨a', c', e⟩ := hu6u.shape
            exact ⟨a', c', by rw [e, HME5.out.len, HNX.out.1]⟩
          change Code.wp _ _ _ _ (u4.alloc (.cells #[.slice v4a I.length v4c, .slice v4b D4.length v4d] 25))
          generalize u4.alloc (.cells #[.slice v4a I.length v4c, .slice v4b D4.length v4d] 25) = V4 at *
          generalize u4.heap.size = g4 at *
          have HC4 : Hid (∀ X, Below V4.heap.size V4 X → (X.cell? ⟨g4, 0, none⟩ = some (.slice v4a I.length v4c) ∧ X.cell? ⟨g4, 1, none⟩ = some (.slice v4b D4.length v4d)) ∧ (IsInts X (.slice v4a I.length v4c) I ∧ IsPairs X (.slice v4b D4.length v4d) D4) ∧ IsInts X (.slice v4u nn v4uw) Wl) := fun X hX => ⟨hxn.below hX (by rw [hzn]; omega), ⟨hi6.below hX (Nat.le_refl _), ha6.below hX (Nat.le_refl _)⟩, hu6u.below hX (Nat.le_refl _)⟩
          clear hbn hxn hzn hi6 ha6 hu6u HG4 HO4u HBW4 HCX
          have HL4 : Hid (∀ X, Below V4.heap.size V4 X → Below V3.heap.size V3 X) := fun X hX => HB7.out.trans ((HBV4.out.trans (hX.mono HBV4.out.size)).mono HB7.out.size)
          have HBX4 : Hid (∀ X, Below V4.heap.size V4 X → IsInts X (.slice pa bl.length pc) bl) := fun X hX => HBX.out.below (HBV4.out.trans (hX.mono HBV4.out.size)) (Nat.le_refl _)
          have HRZ : Hid (Calls Tryz.prog 21 #[.agg #[.slice v4a I.length v4c, .slice v4b D4.length v4d]] V4 fun r w' => r = .returned (.bool true) ∧ Below V4.heap.size V4 w') := by
            have h := rreduced6_any _ _ I D4 V4 (HC4.out V4 (Below.refl _ _)).2.1.1 (HC4.out V4 (Below.refl _ _)).2.1.2 h1 (by have := (mean_in64 HME5.out).2.2; omega)
            rw [HME5.out.red] at h
            exact h
          obtain ⟨b0, b1⟩ := (HC4.out V4 (Below.refl _ _)).1
          go_upto_region 35 with (go_at_call 21; refine HRZ.out.mono ?_; rintro e x4 ⟨rfl, hb⟩; have HX4 := Lib.hid hb; clear hb b0 b1)
          clear HRZ
          have HMG : Hid (∀ X, Below V4.heap.size V4 X → Calls Tryz.prog 50 #[.slice pa bl.length pc] X (RetOwn X (mergedL bl))) := fun X hX => merged6_any _ bl X (HBX4.out X hX) HB7I.out.2.2 (by have := HB7I.out.2.1; omega)
          have HM64 : Hid (In64 (mergedL bl) ∧ (mergedL bl).length ≤ 4000000) := ⟨fun z hz => (abs5_litM (HB7I.out.2.2 z (merged_sub hz))).2, by have h9 := (merged_all _ bl rfl).2.2; have := HB7I.out.2.1; omega⟩
          go_wp2
          go_loopw [320] (fun s320 wr => ∃ k : Nat, k ≤ nn ∧ s320 = .int .i64 k ∧ Below x4.heap.size x4 wr) (fun s320 _ => nn - (intOf s320).toNat)
          case atStart => exact ⟨0, Nat.zero_le _, rfl, Below.refl _ _⟩
          case round =>
            obtain ⟨k, hk, rfl, hbl⟩ := hrel
            have HBK := Lib.hid hbl
            have HB4K : Hid (Below V4.heap.size V4 wr) := HX4.out.trans (hbl.mono HX4.out.size)
            clear hbl
            by_cases hlt : k < nn
            · have HKL := Lib.hid hlt
              have hk0 : (0 : Int) ≤ (k : Int) := by omega
              have hk1 : (k : Int) < (nn : Int) := by omega
              have hk2 : (k : Int) < 101 := by have := HNX.out; omega
              have hl_x : k < x.length := by rw [HNX.out.1]; exact hlt
              have hl_w : k < Wl.length := by rw [HME5.out.len]; exact hl_x
              have HPR : Hid (∀ X, Below wr.heap.size wr X → Below V4.heap.size V4 X) := fun X hX => HB4K.out.trans (hX.mono HB4K.out.size)
              obtain ⟨bkx, okx, rfl, _, _⟩ := ((HXY.out wr (HL0.out _ (HL4.out _ HB4K.out))).1).cellY hl_x
              have HEx : Hid (∀ X, Below V4.heap.size V4 X → X.cell? ⟨bkx, okx + k, none⟩ = some (.int .i64 (x.getD k 0))) := fun X hX => by
                obtain ⟨b', o', e, _, c⟩ := ((HXY.out X (HL0.out _ (HL4.out _ hX))).1).cellY hl_x
                have e2 := Option.some.inj e
                injection e2 with e3 e4
                subst e3
                subst e4
                exact c
              obtain ⟨bkw, okw, rfl, _, _⟩ := ((HC4.out wr HB4K.out).2.2).cellY hl_w
              have HEw : Hid (∀ X, Below V4.heap.size V4 X → X.cell? ⟨bkw, okw + k, none⟩ = some (.int .i64 (Wl.getD k 0))) := fun X hX => by
                obtain ⟨b', o', e, _, c⟩ := ((HC4.out X hX).2.2).cellY hl_w
                have e2 := Option.some.inj e
                injection e2 with e3 e4
                subst e3
                subst e4
                exact c
              have hx64 := HX64.out.1 _ (getD_mem hl_x)
              have hw64 := (mean_in64 HME5.out).1 _ (getD_mem hl_w)
              have HQ5 : Hid (∀ X v, Below wr.heap.size wr X → IsInts X v (mergedL bl) → Calls Tryz.prog 49 #[.agg #[.slice ia I.length ic, .slice ga A.length gc], .int .i64 (x.getD k 0), v, .agg #[.slice v4a I.length v4c, .slice v4b D4.length v4d], .int .i64 (Wl.getD k 0), .slice aa a.length ac] X fun r w' => r = .returned (.bool true) ∧ Below X.heap.size X w') := fun X v hX hv => by
                have hX4 := HPR.out X hX
                have hX3 := HL4.out X hX4
                obtain ⟨ev, E1, E2⟩ := mean_eval HME5.out HXX.out HNL.out.1 HMB.out hl_x
                exact equal6_any _ _ _ _ _ _ _ _ _ _ _ _ _ _ ev X (HU1.out X (HLZ.out X hX3)).1.1 (HU1.out X (HLZ.out X hX3)).1.2 hv (HC4.out X hX4).2.1.1 (HC4.out X hX4).2.1.2 (HU2.out X (HLZ.out X hX3)).1.2 (by omega) (by omega) (by have := (mean_in64 HME5.out).2.1; omega) (by have := (mean_in64 HME5.out).2.2; omega) hx64.1 hx64.2 hw64.1 hw64.2 E1 E2
              have HCL : Hid (∀ X, Below wr.heap.size wr X → (X.cell? ⟨w.heap.size, 0, none⟩ = some (.slice ia I.length ic) ∧ X.cell? ⟨w.heap.size, 1, none⟩ = some (.slice ga A.length gc)) ∧ (X.cell? ⟨g4, 0, none⟩ = some (.slice v4a I.length v4c) ∧ X.cell? ⟨g4, 1, none⟩ = some (.slice v4b D4.length v4d))) := fun X hX => ⟨(HXC.out X (HLZ.out X (HL4.out X (HPR.out X hX)))).1, (HC4.out X (HPR.out X hX)).1⟩
              clear hl_x hl_w hx64 hw64 hlt
              generalize x.getD k 0 = ex at *
              generalize Wl.getD k 0 = ew at *
              as_aux_lemma =>
                go_upto_region 38 with fail
                refine wp_region_held_drew (S := fun Z : World => Below wr.heap.size wr Z) (by kernel_rfl) (Below.refl _ _).drew (fun hSd => ?_)
                have HBD : Hid (Below wr.heap.size wr wr.drew) := (Below.refl _ _).drew
                generalize wr.drew = r0 at *
                refine takeC (i := 0) (v := .agg #[.slice ia I.length ic, .slice ga A.length gc]) (some 323) rfl rfl (by kernel_rfl) (by kernel_rfl) (by kernel_rfl) (fun _ _ _ h => h) (Or.inl ⟨by rfl, ?_⟩) (by assumption) ?_
                · intro wz hSw; obtain ⟨⟨t0, t1⟩, t2, t3⟩ := HCL.out wz hSw; go_simp
                try simp only [Act.put, List.setIfInBounds_toArray, List.set_cons_zero, List.set_cons_succ]
                refine takeC (i := 1) (v := .slice (some ⟨bkx, okx, none⟩) nn xc) (some 324) rfl rfl (by kernel_rfl) (by kernel_rfl) (by kernel_rfl) (fun _ _ _ h => h) (Or.inl ⟨by rfl, ?_⟩) (by assumption) ?_
                · intro wz hSw; go_simp
                try simp only [Act.put, List.setIfInBounds_toArray, List.set_cons_zero, List.set_cons_succ]
                refine takeC (i := 2) (v := .int .i64 (k : Int)) (some 325) rfl rfl (by kernel_rfl) (by kernel_rfl) (by kernel_rfl) (fun _ _ _ h => h) (Or.inl ⟨by rfl, ?_⟩) (by assumption) ?_
                · intro wz hSw; go_simp
                try simp only [Act.put, List.setIfInBounds_toArray, List.set_cons_zero, List.set_cons_succ]
                refine takeC (i := 3) (v := .pointer (some ⟨bkx, okx + k, none⟩)) (some 326) rfl rfl (by kernel_rfl) (by kernel_rfl) (by kernel_rfl) (fun _ _ _ h => h) (Or.inl ⟨by rfl, ?_⟩) (by assumption) ?_
                · intro wz hSw; go_simp
                try simp only [Act.put, List.setIfInBounds_toArray, List.set_cons_zero, List.set_cons_succ]
                refine takeC (i := 4) (v := .int .i64 ex) (some 327) rfl rfl (by kernel_rfl) (by kernel_rfl) (by kernel_rfl) (fun _ _ _ h => h) (Or.inl ⟨by rfl, ?_⟩) (by assumption) ?_
                · intro wz hSw; have t0 := HEx.out wz (HPR.out wz hSw); go_simp
                try simp only [Act.put, List.setIfInBounds_toArray, List.set_cons_zero, List.set_cons_succ]
                refine takeC (i := 5) (v := .slice pa bl.length pc) (some 328) rfl rfl (by kernel_rfl) (by kernel_rfl) (by kernel_rfl) (fun _ _ _ h => h) (Or.inl ⟨by rfl, ?_⟩) (by assumption) ?_
                · intro wz hSw; go_simp
                try simp only [Act.put, List.setIfInBounds_toArray, List.set_cons_zero, List.set_cons_succ]
                refine takeC (i := 7) (v := .agg #[.slice v4a I.length v4c, .slice v4b D4.length v4d]) (some 330) rfl rfl (by kernel_rfl) (by kernel_rfl) (by kernel_rfl) (fun _ _ _ h => h) (Or.inl ⟨by rfl, ?_⟩) (by assumption) ?_
                · intro wz hSw; obtain ⟨⟨t0, t1⟩, t2, t3⟩ := HCL.out wz hSw; go_simp
                try simp only [Act.put, List.setIfInBounds_toArray, List.set_cons_zero, List.set_cons_succ]
                refine takeC (i := 8) (v := .slice (some ⟨bkw, okw, none⟩) nn v4uw) (some 331) rfl rfl (by kernel_rfl) (by kernel_rfl) (by kernel_rfl) (fun _ _ _ h => h) (Or.inl ⟨by rfl, ?_⟩) (by assumption) ?_
                · intro wz hSw; go_simp
                try simp only [Act.put, List.setIfInBounds_toArray, List.set_cons_zero, List.set_cons_succ]
                refine takeC (i := 9) (v := .int .i64 (k : Int)) (some 332) rfl rfl (by kernel_rfl) (by kernel_rfl) (by kernel_rfl) (fun _ _ _ h => h) (Or.inl ⟨by rfl, ?_⟩) (by assumption) ?_
                · intro wz hSw; go_simp
                try simp only [Act.put, List.setIfInBounds_toArray, List.set_cons_zero, List.set_cons_succ]
                refine takeC (i := 10) (v := .pointer (some ⟨bkw, okw + k, none⟩)) (some 333) rfl rfl (by kernel_rfl) (by kernel_rfl) (by kernel_rfl) (fun _ _ _ h => h) (Or.inl ⟨by rfl, ?_⟩) (by assumption) ?_
                · intro wz hSw; go_simp
                try simp only [Act.put, List.setIfInBounds_toArray, List.set_cons_zero, List.set_cons_succ]
                refine takeC (i := 11) (v := .int .i64 ew) (some 334) rfl rfl (by kernel_rfl) (by kernel_rfl) (by kernel_rfl) (fun _ _ _ h => h) (Or.inl ⟨by rfl, ?_⟩) (by assumption) ?_
                · intro wz hSw; have t0 := HEw.out wz (HPR.out wz hSw); go_simp
                try simp only [Act.put, List.setIfInBounds_toArray, List.set_cons_zero, List.set_cons_succ]
                refine takeC (i := 12) (v := .slice aa a.length ac) (some 335) rfl rfl (by kernel_rfl) (by kernel_rfl) (by kernel_rfl) (fun _ _ _ h => h) (Or.inl ⟨by rfl, ?_⟩) (by assumption) ?_
                · intro wz hSw; go_simp
                try simp only [Act.put, List.setIfInBounds_toArray, List.set_cons_zero, List.set_cons_succ]
                refine wpAnyH_ready (rs := [6]) (by kernel_rfl) (by simp) ?_
                refine AllReadyH.cons rfl (fun K hK => ?_) AllReadyH.nil
                go_simp
                go_wp2_with (go_at_call 50; refine (HMG.out r0 (HPR.out r0 HBD.out)).mono ?_; rintro e r2 ⟨vm, rfl, ho, hb⟩)
                have HBr2 : Hid (Below wr.heap.size wr r2) := HBD.out.trans (hb.mono HBD.out.size)
                have HVM := Lib.hid (ho.ints (by have := HM64.out.2; omega) HM64.out.1)
                refine hK.out _ _ HBr2.out (fun hHn => ?_)
                clear hK K hHn hb ho hSd
                have hSd : Below wr.heap.size wr r2 := HBr2.out
                try simp only [Act.put, List.setIfInBounds_toArray, List.set_cons_zero, List.set_cons_succ]
                refine wpAnyH_ready (rs := [13]) (by kernel_rfl) (by simp) ?_
                refine AllReadyH.cons rfl (fun K hK => ?_) AllReadyH.nil
                go_simp
                go_wp2_with (go_at_call 49; refine (HQ5.out r2 _ HBr2.out HVM.out).mono ?_; rintro e r3 ⟨rfl, hb⟩)
                have HBr3 : Hid (Below wr.heap.size wr r3) := HBr2.out.trans (hb.mono HBr2.out.size)
                refine hK.out _ _ HBr3.out (fun hHn => ?_)
                clear hK K hHn hb hSd
                have hSd : Below wr.heap.size wr r3 := HBr3.out
                try simp only [Act.put, List.setIfInBounds_toArray, List.set_cons_zero, List.set_cons_succ]
                refine takeC (i := 14) (v := .bool false) (some 337) rfl rfl (by kernel_rfl) (by kernel_rfl) (by kernel_rfl) (fun _ _ _ h => h) (Or.inl ⟨by rfl, ?_⟩) (by assumption) ?_
                · intro wz hSw; go_simp
                try simp only [Act.put, List.setIfInBounds_toArray, List.set_cons_zero, List.set_cons_succ]
                refine wpAnyH_done (by kernel_rfl) ?_ _
                clear hSd
                go_wp2
                go_roundw
                case rel => exact ⟨k + 1, HKL.out, by go_num, HBK.out.trans (HBr3.out.mono HBK.out.size)⟩
                case measure => have := HKL.out; simp [intOf]; omega
            · obtain rfl : nn = k := by omega
              have HBZ : Hid (Below W0.heap.size W0 wr) := HLZ.out _ (HL4.out _ HB4K.out)
              go_wp2_with (go_at_call 13; refine (works6_any _).mono ?_; rintro e wz ⟨rfl, hbz⟩)
              go_ret
              exact ⟨rfl, HB0.out.trans ((HBZ.out.trans (hbz.mono HBZ.out.size)).mono HB0.out.size)⟩
set_option maxRecDepth 100000 in
theorem aigmeans_any (vi va vj vc vl vx vf vb : Value) (I : List Int) (A : List Pr) (J : List Int) (C : List Pr) (l a F : List Int) (B : List Pr) (w : World) (HI : IsInts w vi I) (HA : IsPairs w va A) (HJ : IsInts w vj J) (HC : IsPairs w vc C) (HL : IsInts w vl l) (HX : IsInts w vx a) (HF : IsInts w vf F) (HB : IsPairs w vb B)
    (h1 : I.length ≤ 4000000) (h2 : A.length ≤ 4000000) (h3 : J.length ≤ 4000000) (h4 : C.length ≤ 4000000) (h5 : l.length ≤ 4000000) (h6 : a.length ≤ 4000000) (h7 : F.length ≤ 4000000) (h8 : B.length ≤ 4000000) :
    Calls Tryz.prog 8 #[.agg #[vi, va], .agg #[vj, vc], vl, vx, vf, vb] w fun e w' => e = .returned (.bool true) ∧ Below w.heap.size w w' := by
  by_cases hm : (manyA I A || manyA J C) = true
  · exact aigmeans_exit _ _ _ _ _ _ _ _ I A J C l a F B w HI HA HJ HC HL HX HF HB h1 h2 h3 h4 h5 h6 h7 h8 (.inl hm)
  by_cases cl : 50 < l.length
  · exact aigmeans_exit _ _ _ _ _ _ _ _ I A J C l a F B w HI HA HJ HC HL HX HF HB h1 h2 h3 h4 h5 h6 h7 h8 (.inr (.inl cl))
  by_cases cx : 50 < a.length
  · exact aigmeans_exit _ _ _ _ _ _ _ _ I A J C l a F B w HI HA HJ HC HL HX HF HB h1 h2 h3 h4 h5 h6 h7 h8 (.inr (.inr (.inl cx)))
  by_cases cf : 50 < F.length
  · exact aigmeans_exit _ _ _ _ _ _ _ _ I A J C l a F B w HI HA HJ HC HL HX HF HB h1 h2 h3 h4 h5 h6 h7 h8 (.inr (.inr (.inr (.inl cf))))
  by_cases cb : 50 < B.length
  · exact aigmeans_exit _ _ _ _ _ _ _ _ I A J C l a F B w HI HA HJ HC HL HX HF HB h1 h2 h3 h4 h5 h6 h7 h8 (.inr (.inr (.inr (.inr (.inl cb)))))
  by_cases m1 : mayA I A = true
  · by_cases m2 : mayA J C = true
    · by_cases na : mayB a = true
      · by_cases nf : mayB F = true
        · exact aigmeans_main _ _ _ _ _ _ _ _ I A J C l a F B w HI HA HJ HC HL HX HF HB h1 h2 h3 h4 h5 h6 h7 h8 (by simpa using hm) cl cx cf cb m1 m2 na nf
        · exact aigmeans_exit _ _ _ _ _ _ _ _ I A J C l a F B w HI HA HJ HC HL HX HF HB h1 h2 h3 h4 h5 h6 h7 h8 (.inr (.inr (.inr (.inr (.inr (.inr (.inr (.inr (by simpa using nf)))))))))
      · exact aigmeans_exit _ _ _ _ _ _ _ _ I A J C l a F B w HI HA HJ HC HL HX HF HB h1 h2 h3 h4 h5 h6 h7 h8 (.inr (.inr (.inr (.inr (.inr (.inr (.inr (.inl (by simpa using na)))))))))
    · exact aigmeans_exit _ _ _ _ _ _ _ _ I A J C l a F B w HI HA HJ HC HL HX HF HB h1 h2 h3 h4 h5 h6 h7 h8 (.inr (.inr (.inr (.inr (.inr (.inr (.inl (by simpa using m2))))))))
  · exact aigmeans_exit _ _ _ _ _ _ _ _ I A J C l a F B w HI HA HJ HC HL HX HF HB h1 h2 h3 h4 h5 h6 h7 h8 (.inr (.inr (.inr (.inr (.inr (.inl (by simpa using m1)))))))
end Go.Proofs.YtppglbffmgnooaaGreat
