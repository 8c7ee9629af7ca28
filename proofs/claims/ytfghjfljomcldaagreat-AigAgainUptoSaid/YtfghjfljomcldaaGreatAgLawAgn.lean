/- The law AigAgain, walked. -/
import Derived.Test.YtfghjfljomcldaaGreatAgWorks
import Derived.Test.YtfghjfljomcldaaGreatA13
import Derived.Test.YtfghjfljomcldaaGreatA14
import Derived.Test.YtfghjfljomcldaaGreatAgFit
namespace Go.Proofs.YtfghjfljomcldaaGreat
open Go.RowKit Go.Maps
set_option linter.unusedVariables false
set_option linter.unusedSimpArgs false

theorem sameA_refl (I : List Int) (A : List Pr) : sameA I A I A = true := by unfold sameA; simp [sameB]
theorem sameB_refl (l : List Int) : sameB l l = true := by simp [sameB]
theorem supA_bnd {I : List Int} {A : List Pr} (x : Int) (hI : In64 I) : (supportA I A x).1.length ≤ I.length ∧ In64 (supportA I A x).1 := by
  unfold supportA
  split
  · unfold supA
    refine ⟨?_, fun y hy => ?_⟩
    · rw [List.length_map]
      exact onN_len _ _ _
    · obtain ⟨n, hn, rfl⟩ := List.mem_map.1 hy
      obtain ⟨m, rfl, h1, h2, _⟩ := onN_mem.1 hn
      have h3 : ((m : Int)).toNat - 1 < I.length := by omega
      rw [show I.getD ((m : Int).toNat - 1) 0 = I[(m : Int).toNat - 1] by simp only [List.getD, List.getElem?_eq_getElem h3, Option.getD_some]]
      exact hI _ (List.getElem_mem _)
  · exact ⟨Nat.zero_le _, fun y hy => absurd hy (by simp)⟩
theorem great_one6 (vi va : Value) (I : List Int) (A : List Pr) (X : World) (HI : IsInts X vi I) (HA : IsPairs X va A) (h1 : I.length ≤ 4000000) (h2 : A.length ≤ 4000000) :
    Calls Tryz.prog 12 #[.slice (some ⟨X.heap.size, 0, none⟩) 1 1] (X.alloc (.cells #[vi, va] 25)) fun e w' => e = .returned (.bool (manyA I A)) ∧ Below X.heap.size X w' := by
  have hb := below_alloc1 X (.cells #[vi, va] 25)
  refine (great6_any [(vi, va, I, A)] X.heap.size _ (by simp) (by simp) (fun j hj => ?_)).mono ?_
  · match j, hj with
    | 0, _ => exact ⟨cell_fresh rfl, cell_fresh rfl, HI.below hb (Nat.le_refl _), HA.below hb (Nat.le_refl _), h1, h2⟩
    | j + 1, hj => simp at hj
  · rintro e w' ⟨rfl, h2⟩
    exact ⟨by simp, hb.trans (h2.mono (by simp))⟩
theorem hasA_edges {I : List Int} {A : List Pr} {l : List Int} (h : hasA I A l = true) : edgesB l (1 + I.length + A.length) = true := (hasA_parts h).2.2
/-- What the law asks of a cone, in one piece. -/
theorem again_facts {I : List Int} {A : List Pr} {x : List Int} (hm : mayA I A = true) (hr : RedA A) (hl : edgesB x (1 + I.length + A.length) = true) :
    ∃ C U, coneR I A x = ((I, C), U, 0) ∧ U.length = x.length ∧ sizeA I A x = (C.length, 0) ∧ coneR I C U = ((I, C), U, 0) ∧ C.length ≤ 200000 ∧ edgesB U (1 + I.length + C.length) = true ∧
      (∀ j, j < x.length → (supportA I A (x.getD j 0)).2 = 0 ∧ supportA I C (U.getD j 0) = supportA I A (x.getD j 0)) := by
  obtain ⟨⟨h1, h2, h3, h4⟩, h5, h6, h7, h8⟩ := cone_again hm hr hl
  have h9 := fun j hj => cone_support (I := I) (A := A) (l := x) hm hr hl (j := j) hj
  have hs : (sizeA I A x).2 = 0 := by
    have hh : hasA I A x = true := by unfold hasA; rw [hm, hl]; rfl
    unfold sizeA
    rw [if_pos hh]
  generalize coneR I A x = r at *
  obtain ⟨⟨J, C⟩, U, c⟩ := r
  simp only at h1 h2 h3 h4 h5 h6 h7 h8 h9
  subst h1
  subst h2
  refine ⟨C, U, rfl, h3, ?_, h8, ?_, hasA_edges h7, fun j hj => ⟨(h9 j hj).2, (h9 j hj).1.symm⟩⟩
  · rw [h4]
    rcases hsz : sizeA J A x with ⟨a, b⟩
    rw [hsz] at hs
    simp only at hs
    rw [hs]
  · have := (mayA_parts h5).1
    omega
theorem edges_in64 {l : List Int} {n : Nat} (h : edgesB l n = true) (hn : n ≤ 10000000) : In64 l := fun y hy => by have := edgesB_true.1 h y hy; omega

set_option maxRecDepth 100000 in
set_option maxHeartbeats 6400000 in
theorem aigagain_any (vi va vl : Value) (I : List Int) (A : List Pr) (l : List Int) (w : World) (HI : IsInts w vi I) (HA : IsPairs w va A) (HL : IsInts w vl l) (h1 : I.length ≤ 4000000) (h2 : A.length ≤ 4000000) (h5 : l.length ≤ 4000000) :
    Calls Tryz.prog 9 #[.agg #[vi, va], vl] w fun e w' => e = .returned (.bool true) ∧ Below w.heap.size w w' := by
  have HI64 := Lib.hid HI.in64
  obtain ⟨ia, ic, rfl⟩ := HI.shape
  obtain ⟨ga, gc, rfl, _⟩ := HA.shape
  obtain ⟨la, lc, rfl⟩ := HL.shape
  have hb0 := below_alloc1 w (.cells #[.slice ia I.length ic, .slice ga A.length gc] 25)
  have hbx := boxA_new w (.slice ia I.length ic) (.slice ga A.length gc)
  obtain ⟨W0, hW0⟩ : ∃ W0, w.alloc (.cells #[.slice ia I.length ic, .slice ga A.length gc] 25) = W0 := ⟨_, rfl⟩
  have hz0 : W0.heap.size = w.heap.size + 1 := by rw [← hW0, World.size_alloc]
  rw [hW0] at hb0 hbx
  have HXC : Hid (∀ X, Below W0.heap.size W0 X → X.cell? ⟨w.heap.size, 0, none⟩ = some (.slice ia I.length ic) ∧ X.cell? ⟨w.heap.size, 1, none⟩ = some (.slice ga A.length gc)) := fun X hX => hbx.below hX (by rw [hz0]; omega)
  have HW0 : Hid (w.alloc (.cells #[.slice ia I.length ic, .slice ga A.length gc] 25) = W0) := hW0
  have HB0 := Lib.hid hb0
  have HUPG : Hid (∀ X, Below W0.heap.size W0 X → IsInts X (.slice ia I.length ic) I ∧ IsPairs X (.slice ga A.length gc) A ∧ IsInts X (.slice la l.length lc) l) := fun X hX => ⟨(HI.below hb0 (Nat.le_refl _)).below hX (Nat.le_refl _), (HA.below hb0 (Nat.le_refl _)).below hX (Nat.le_refl _), (HL.below hb0 (Nat.le_refl _)).below hX (Nat.le_refl _)⟩
  have H1 : Hid (Calls Tryz.prog 12 #[.slice (some ⟨W0.heap.size, 0, none⟩) 1 1] (W0.alloc (.cells #[.slice ia I.length ic, .slice ga A.length gc] 25)) fun e w' => e = .returned (.bool (manyA I A)) ∧ Below W0.heap.size W0 w') := by
    have hu := HUPG.out W0 (Below.refl _ _)
    exact great_one6 _ _ I A W0 hu.1 hu.2.1 h1 h2
  have HRD : Hid (∀ X, Below W0.heap.size W0 X → Calls Tryz.prog 21 #[.agg #[.slice ia I.length ic, .slice ga A.length gc]] X fun e w' => e = .returned (.bool (redB I A)) ∧ Below X.heap.size X w') := fun X hX => rreduced6_any _ _ I A X (HUPG.out X hX).1 (HUPG.out X hX).2.1 h1 h2
  obtain ⟨p0, p1⟩ := HXC.out W0 (Below.refl _ _)
  clear HI HA HL hb0 hbx hW0 hz0
  cases hm : manyA I A with
  | true =>
    rw [hm] at H1
    clear hm HRD
    go_enter Tryz.func9, Tryz.ntmps9
    go_upto_region 1 with fail
    rw [HW0.out]
    go_wp2_with (first
      | (go_at_call 12; refine H1.out.mono ?_; rintro e w1 ⟨rfl, hb1⟩)
      | (go_at_call 13; refine (works6_any _).mono ?_; rintro e w2 ⟨rfl, hb2⟩))
    go_ret
    exact ⟨rfl, HB0.out.trans ((hb1.trans (hb2.mono hb1.size)).mono HB0.out.size)⟩
  | false =>
   rw [hm] at H1
   clear hm
   by_cases cl : 50 < l.length
   · have d1 : decide ((50 : Int) < (l.length : Int)) = true := decide_eq_true (by omega)
     generalize l.length = ln at *
     clear HRD cl
     go_enter Tryz.func9, Tryz.ntmps9
     go_upto_region 1 with fail
     rw [HW0.out]
     go_wp2_with (first
       | (go_at_call 12; refine H1.out.mono ?_; rintro e w1 ⟨rfl, hb1⟩)
       | (go_at_call 13; refine (works6_any _).mono ?_; rintro e w2 ⟨rfl, hb2⟩))
     go_ret
     exact ⟨rfl, HB0.out.trans ((hb1.trans (hb2.mono hb1.size)).mono HB0.out.size)⟩
   · have d1 : decide ((50 : Int) < (l.length : Int)) = false := decide_eq_false (by omega)
     cases hr : redB I A with
     | false =>
       rw [hr] at HRD
       clear hr cl
       go_enter Tryz.func9, Tryz.ntmps9
       go_upto_region 1 with fail
       rw [HW0.out]
       go_wp2_with (first
         | (go_at_call 13; refine (works6_any _).mono ?_; rintro e w3 ⟨rfl, hb3⟩)
         | (go_at_call 21; refine (HRD.out w1 HB1.out).mono ?_; rintro e w2 ⟨rfl, hb2⟩; have HB2 := Lib.hid (HB1.out.trans (hb2.mono HB1.out.size)); clear hb2)
         | (go_at_call 12; refine H1.out.mono ?_; rintro e w1 ⟨rfl, hb1⟩; have HB1 := Lib.hid hb1; clear hb1 p0 p1; obtain ⟨p0, p1⟩ := HXC.out w1 HB1.out))
       go_ret
       exact ⟨rfl, HB0.out.trans ((HB2.out.trans (hb3.mono HB2.out.size)).mono HB0.out.size)⟩
     | true =>
       rw [hr] at HRD
       obtain ⟨hmay, hred⟩ := redB_iff.1 hr
       clear hr
       have hroom := (mayA_parts hmay).1
       obtain ⟨n, hn⟩ : ∃ n, 1 + I.length + A.length = n := ⟨_, rfl⟩
       have hn1 : 1 ≤ n := by omega
       have hfe := fitI_edges hn1 l
       have HFT : Hid (∀ X, Below W0.heap.size W0 X → Calls Tryz.prog 47 #[.slice la l.length lc, .int .i64 (n : Int)] X fun r w' => ∃ u, r = .returned u ∧ Own w' X.heap.size u (fitI n l) ∧ Below X.heap.size X w') := fun X hX => fit_any _ l n X (HUPG.out X hX).2.2 h5 hn1 (by omega)
       have HND : Hid (∀ X, Below W0.heap.size W0 X → Calls Tryz.prog 48 #[.agg #[.slice ia I.length ic, .slice ga A.length gc]] X fun r w' => r = .returned (.int .i64 (n : Int)) ∧ Below X.heap.size X w') := fun X hX => by
         have h := rnodes_any _ _ I A X (HUPG.out X hX).1 (HUPG.out X hX).2.1 h1 h2
         rw [hn] at h
         exact h
       have hxl : (fitI n l).length = l.length := by unfold fitI; rw [List.length_map]
       have hx64 : In64 (fitI n l) := edges_in64 hfe (by omega)
       generalize fitI n l = x at *
       rw [← hn] at hfe
       obtain ⟨C, U, hc1, hUl, hsz, hc2, hCl, hUe, hsup⟩ := again_facts hmay hred hfe
       have hU64 : In64 U := edges_in64 hUe (by omega)
       have HX64 := Lib.hid hx64
       have HU64 := Lib.hid hU64
       have HXL : Hid (x.length ≤ 50) := by show _ ≤ _; omega
       have HC1 : Hid (∀ X, Below W0.heap.size W0 X → ∀ u, IsInts X u x → Calls Tryz.prog 32 #[.agg #[.slice ia I.length ic, .slice ga A.length gc], u] X (ResPost X ((I, C), U, 0))) := fun X hX u hu => by
         have h := gcone_any _ _ _ I A x X (HUPG.out X hX).1 (HUPG.out X hX).2.1 hu h1 h2
         rw [hc1] at h
         exact h
       have HC2 : Hid (∀ X v1 v2 u, IsInts X v1 I → IsPairs X v2 C → IsInts X u U → Calls Tryz.prog 32 #[.agg #[v1, v2], u] X (ResPost X ((I, C), U, 0))) := fun X v1 v2 u hi ha hu => by
         have h := gcone_any _ _ _ I C U X hi ha hu h1 (by omega)
         rw [hc2] at h
         exact h
       have HSZ : Hid (∀ X, Below W0.heap.size W0 X → ∀ u, IsInts X u x → Calls Tryz.prog 16 #[.agg #[.slice ia I.length ic, .slice ga A.length gc], u] X fun e w' => e = .returned (.tuple #[.int .i64 (C.length : Int), .int .i64 0]) ∧ Below X.heap.size X w') := fun X hX u hu => by
         have h := gsize_any _ _ _ I A x X (HUPG.out X hX).1 (HUPG.out X hX).2.1 hu h1 h2
         rw [hsz] at h
         exact h
       have HSM : Hid (∀ X v1 v2 v3 v4, IsInts X v1 I → IsPairs X v2 C → IsInts X v3 I → IsPairs X v4 C → Calls Tryz.prog 25 #[.agg #[v1, v2], .agg #[v3, v4]] X fun e w' => e = .returned (.bool true) ∧ Below X.heap.size X w') := fun X v1 v2 v3 v4 a b c d => (rsame6_any _ _ _ _ I C I C X a b c d).mono fun e w' h => ⟨by rw [h.1, sameA_refl], h.2⟩
       have HIN : Hid (∀ (L : List Int) (v u : Value) (X : World), IsInts X v L → IsInts X u L → Calls Tryz.prog 26 #[v, u] X fun e w' => e = .returned (.bool true) ∧ Below X.heap.size X w') := fun L v u X h1 h2 => (ints5_any v u L L X h1 h2).mono (by
         rintro e w' ⟨rfl, h3⟩
         exact ⟨by rw [sameB_refl], h3.below _⟩)
       have HSP : Hid (∀ k, k < x.length → ∃ L, L.length ≤ 4000000 ∧ In64 L ∧ (∀ X, Below W0.heap.size W0 X → Calls Tryz.prog 14 #[.agg #[.slice ia I.length ic, .slice ga A.length gc], .int .i64 (x.getD k 0)] X fun e w' => ∃ v, e = .returned (.tuple #[v, .int .i64 0]) ∧ Own w' X.heap.size v L ∧ Below X.heap.size X w') ∧ (∀ X v1 v2, IsInts X v1 I → IsPairs X v2 C → Calls Tryz.prog 14 #[.agg #[v1, v2], .int .i64 (U.getD k 0)] X fun e w' => ∃ v, e = .returned (.tuple #[v, .int .i64 0]) ∧ Own w' X.heap.size v L ∧ Below X.heap.size X w')) := fun k hk => by
         obtain ⟨e1, e2⟩ := hsup k hk
         have hb := supA_bnd (A := A) (x.getD k 0) HI64.out
         have b1 := HX64.out (x.getD k 0) (by simp [List.getD, hk])
         have b2 := HU64.out (U.getD k 0) (by simp [List.getD, hUl, hk])
         refine ⟨(supportA I A (x.getD k 0)).1, by omega, hb.2, fun X hX => ?_, fun X v1 v2 hi ha => ?_⟩
         · have h := gsupport_any _ _ I A (x.getD k 0) X (HUPG.out X hX).1 (HUPG.out X hX).2.1 h1 h2 b1.1 b1.2
           rw [e1] at h
           exact h
         · have h := gsupport_any _ _ I C (U.getD k 0) X hi ha h1 (by omega) b2.1 b2.2
           rw [e2, e1] at h
           exact h
       have HCL : Hid (C.length ≤ 200000) := hCl
       have HUL : Hid (U.length = x.length) := hUl
       clear hmay hred hroom hfe hxl hx64 hc1 hUl hsz hc2 hCl hUe hsup hU64 cl hn1
       go_enter Tryz.func9, Tryz.ntmps9
       go_upto_region 1 with fail
       rw [HW0.out]
       go_upto_region 3 with (first
         | (go_at_call 21; refine (HRD.out w1 HB1.out).mono ?_; rintro e w2 ⟨rfl, hb2⟩; have HB2 := Lib.hid (HB1.out.trans (hb2.mono HB1.out.size)); clear hb2 p0 p1; obtain ⟨p0, p1⟩ := HXC.out w2 HB2.out)
         | (go_at_call 12; refine H1.out.mono ?_; rintro e w1 ⟨rfl, hb1⟩; have HB1 := Lib.hid hb1; clear hb1 p0 p1; obtain ⟨p0, p1⟩ := HXC.out w1 HB1.out))
       clear d1 H1 HRD HB1
       go_upto_region 4 with (first
         | (go_at_call 47; go_loud (refine (HFT.out w3 HB3.out).mono ?_; rintro e w4 ⟨xv, rfl, hox, hb4⟩; have HB4 := Lib.hid (HB3.out.trans (hb4.mono HB3.out.size)); have HX4 := Lib.hid (hox.ints (by have := HXL.out; omega) HX64.out); clear hox hb4 p0 p1; obtain ⟨p0, p1⟩ := HXC.out w4 HB4.out))
         | (go_at_call 48; go_loud (refine (HND.out w2 HB2.out).mono ?_; rintro e w3 ⟨rfl, hb3⟩; have HB3 := Lib.hid (HB2.out.trans (hb3.mono HB2.out.size)); clear hb3 p0 p1; obtain ⟨p0, p1⟩ := HXC.out w3 HB3.out)))
       clear HFT HND HB2 HB3
       obtain ⟨xa, xc, rfl⟩ := HX4.out.shape
       go_upto_region 5 with (go_at_call 32; go_loud (refine (HC1.out w4 HB4.out _ HX4.out).mono ?_; rintro e w5 ⟨v1, v2, v3, rfl, hg, ho, hb⟩; obtain ⟨ca, cc, rfl⟩ := hg.ints.1.shape; obtain ⟨da, dc, rfl, _⟩ := hg.ints.2.shape; obtain ⟨ua, uc, rfl⟩ := own_shC ho; have HI5 := Lib.hid hg.ints; have HU5 := Lib.hid (ho.ints (by have := HUL.out; have := HXL.out; show U.length ≤ _; omega) HU64.out); have HX5 := Lib.hid (HX4.out.below hb (Nat.le_refl _)); have HB5 := Lib.hid (HB4.out.trans (hb.mono HB4.out.size)); clear hg ho hb))
       have hbn := below_alloc1 w5 (.cells #[.slice ca I.length cc, .slice da C.length dc] 25)
       have hxn := boxA_new w5 (.slice ca I.length cc) (.slice da C.length dc)
       have hzn : (w5.alloc (.cells #[.slice ca I.length cc, .slice da C.length dc] 25)).heap.size = w5.heap.size + 1 := by rw [World.size_alloc]
       have HB6 := Lib.hid (HB5.out.trans (hbn.mono HB5.out.size))
       have hi6 := HI5.out.1.below hbn (Nat.le_refl _)
       have ha6 := HI5.out.2.below hbn (Nat.le_refl _)
       have hu6 := HU5.out.below hbn (Nat.le_refl _)
       have hx6 := HX5.out.below hbn (Nat.le_refl _)
       change Code.wp _ _ _ _ (w5.alloc (.cells #[.slice ca I.length cc, .slice da C.length dc] 25))
       generalize w5.alloc (.cells #[.slice ca I.length cc, .slice da C.length dc] 25) = W6 at *
       generalize w5.heap.size = g6 at *
       have HG6 : Hid (∀ X, Below W6.heap.size W6 X → X.cell? ⟨g6, 0, none⟩ = some (.slice ca I.length cc) ∧ X.cell? ⟨g6, 1, none⟩ = some (.slice da C.length dc)) := fun X hX => hxn.below hX (by rw [hzn]; omega)
       have HUP6 : Hid (∀ X, Below W6.heap.size W6 X → IsInts X (.slice ca I.length cc) I ∧ IsPairs X (.slice da C.length dc) C ∧ IsInts X (.slice ua U.length uc) U ∧ IsInts X (.slice xa x.length xc) x) := fun X hX => ⟨hi6.below hX (Nat.le_refl _), ha6.below hX (Nat.le_refl _), hu6.below hX (Nat.le_refl _), hx6.below hX (Nat.le_refl _)⟩
       have HW6 : Hid (∀ X, Below W6.heap.size W6 X → Below W0.heap.size W0 X) := fun X hX => HB6.out.trans (hX.mono HB6.out.size)
       clear hbn hxn hzn hi6 ha6 hu6 hx6 HI5 HU5 HX5 HX4 HB5 HB4 HC1 p0 p1
       obtain ⟨p0, p1⟩ := HG6.out W6 (Below.refl _ _)
       go_upto_region 6 with (go_at_call 32; go_loud (have hu6 := HUP6.out W6 (Below.refl _ _); refine (HC2.out W6 _ _ _ hu6.1 hu6.2.1 hu6.2.2.1).mono ?_; rintro e w7 ⟨v1, v2, v3, rfl, hg, ho, hb⟩; obtain ⟨ea, ec, rfl⟩ := hg.ints.1.shape; obtain ⟨fa, fc, rfl, _⟩ := hg.ints.2.shape; obtain ⟨va, vc, rfl⟩ := own_shC ho; have HI7 := Lib.hid hg.ints; have HV7 := Lib.hid (ho.ints (by have := HUL.out; have := HXL.out; show U.length ≤ _; omega) HU64.out); have HB7 := Lib.hid hb; clear hg ho hb))
       have hbn := below_alloc1 w7 (.cells #[.slice ea I.length ec, .slice fa C.length fc] 25)
       have hxn := boxA_new w7 (.slice ea I.length ec) (.slice fa C.length fc)
       have hzn : (w7.alloc (.cells #[.slice ea I.length ec, .slice fa C.length fc] 25)).heap.size = w7.heap.size + 1 := by rw [World.size_alloc]
       have HB8 := Lib.hid (HB7.out.trans (hbn.mono HB7.out.size))
       have hi8 := HI7.out.1.below hbn (Nat.le_refl _)
       have ha8 := HI7.out.2.below hbn (Nat.le_refl _)
       have hv8 := HV7.out.below hbn (Nat.le_refl _)
       change Code.wp _ _ _ _ (w7.alloc (.cells #[.slice ea I.length ec, .slice fa C.length fc] 25))
       generalize w7.alloc (.cells #[.slice ea I.length ec, .slice fa C.length fc] 25) = W8 at *
       generalize w7.heap.size = g8 at *
       have HG8 : Hid (∀ X, Below W8.heap.size W8 X → X.cell? ⟨g8, 0, none⟩ = some (.slice ea I.length ec) ∧ X.cell? ⟨g8, 1, none⟩ = some (.slice fa C.length fc)) := fun X hX => hxn.below hX (by rw [hzn]; omega)
       have HUP8 : Hid (∀ X, Below W8.heap.size W8 X → IsInts X (.slice ea I.length ec) I ∧ IsPairs X (.slice fa C.length fc) C ∧ IsInts X (.slice va U.length vc) U) := fun X hX => ⟨hi8.below hX (Nat.le_refl _), ha8.below hX (Nat.le_refl _), hv8.below hX (Nat.le_refl _)⟩
       have HW8 : Hid (∀ X, Below W8.heap.size W8 X → Below W6.heap.size W6 X) := fun X hX => HB8.out.trans (hX.mono HB8.out.size)
       clear hbn hxn hzn hi8 ha8 hv8 HI7 HV7 HB7 HC2 p0 p1
       have HZ8 : Hid (Below W8.heap.size W8 W8) := Below.refl _ _
       obtain ⟨p0, p1⟩ := HXC.out W8 (HW6.out _ (HW8.out _ HZ8.out))
       go_upto_region 7 with (go_at_call 16; go_loud (refine (HSZ.out W8 (HW6.out _ (HW8.out _ HZ8.out)) _ (HUP6.out _ (HW8.out _ HZ8.out)).2.2.2).mono ?_; rintro e w9 ⟨rfl, hb⟩; have HB9 := Lib.hid hb; clear hb p0 p1))
       obtain ⟨c0, c1⟩ := HG6.out w9 (HW8.out _ HB9.out)
       obtain ⟨e0, e1⟩ := HG8.out w9 HB9.out
       have HUP := HUL.out
       rw [HUP] at HUP6 HUP8 ⊢
       have HUQ := Lib.hid HUP
       clear HUP HUL HSZ
       go_upto_region 9 with (first
         | (go_at_call 26; go_loud (refine (HIN.out U _ _ w10 (HUP6.out _ (HW8.out _ HB10.out)).2.2.1 (HUP8.out _ HB10.out).2.2).mono ?_; rintro e w11 ⟨rfl, hb⟩; have HB11 := Lib.hid (HB10.out.trans (hb.mono HB10.out.size)); clear hb))
         | (go_at_call 25; go_loud (have h6 := HUP6.out _ (HW8.out _ HB9.out); have h8 := HUP8.out _ HB9.out; refine (HSM.out w9 _ _ _ _ h6.1 h6.2.1 h8.1 h8.2.1).mono ?_; rintro e w10 ⟨rfl, hb⟩; have HB10 := Lib.hid (HB9.out.trans (hb.mono HB9.out.size)); clear hb h6 h8)))
       clear c0 c1 e0 e1 HSM HB9 HB10 HUP8 HG8
       go_wp2
       go_loopw [95] (fun i wr => ∃ k : Nat, k ≤ x.length ∧ i = .int .i64 k ∧ Below W8.heap.size W8 wr) (fun i _ => x.length - (intOf i).toNat)
       case atStart => exact ⟨0, Nat.zero_le _, rfl, HB11.out⟩
       case round =>
         obtain ⟨k, hk, rfl, hb⟩ := hrel
         have HB := Lib.hid hb
         clear hb
         by_cases hlt : k < x.length
         · have HKL := Lib.hid hlt
           have hh6 := HUP6.out _ (HW8.out _ HB.out)
           obtain ⟨b1, off1, rfl, hb1, hx1⟩ := hh6.2.2.2.cellY hlt
           obtain ⟨b2, off2, rfl, hb2, hx2⟩ := hh6.2.2.1.cellY (k := k) (by rw [HUQ.out]; exact hlt)
           obtain ⟨L, hL1, hL2, hs1, hs2⟩ := HSP.out k hlt
           clear hh6
           generalize x.getD k 0 = y1 at *
           generalize U.getD k 0 = y2 at *
           have HE1 : Hid (∀ X, Below wr.heap.size wr X → X.cell? ⟨b1, off1 + k, none⟩ = some (.int .i64 y1)) := fun X hX => (hX.cell (p := ⟨b1, off1 + k, none⟩) hb1).trans hx1
           have HE2 : Hid (∀ X, Below wr.heap.size wr X → X.cell? ⟨b2, off2 + k, none⟩ = some (.int .i64 y2)) := fun X hX => (hX.cell (p := ⟨b2, off2 + k, none⟩) hb2).trans hx2
           have HGB : Hid (∀ X, Below wr.heap.size wr X → X.cell? ⟨w.heap.size, 0, none⟩ = some (.slice ia I.length ic) ∧ X.cell? ⟨w.heap.size, 1, none⟩ = some (.slice ga A.length gc)) := fun X hX => HXC.out X (HW6.out _ (HW8.out _ (HB.out.trans (hX.mono HB.out.size))))
           have HCB : Hid (∀ X, Below wr.heap.size wr X → X.cell? ⟨g6, 0, none⟩ = some (.slice ca I.length cc) ∧ X.cell? ⟨g6, 1, none⟩ = some (.slice da C.length dc)) := fun X hX => HG6.out X (HW8.out _ (HB.out.trans (hX.mono HB.out.size)))
           have HS1 : Hid (∀ X, Below wr.heap.size wr X → Calls Tryz.prog 14 #[.agg #[.slice ia I.length ic, .slice ga A.length gc], .int .i64 y1] X fun e w' => ∃ v, e = .returned (.tuple #[v, .int .i64 0]) ∧ Own w' X.heap.size v L ∧ Below X.heap.size X w') := fun X hX => hs1 X (HW6.out _ (HW8.out _ (HB.out.trans (hX.mono HB.out.size))))
           have HS2 : Hid (∀ X, Below wr.heap.size wr X → Calls Tryz.prog 14 #[.agg #[.slice ca I.length cc, .slice da C.length dc], .int .i64 y2] X fun e w' => ∃ v, e = .returned (.tuple #[v, .int .i64 0]) ∧ Own w' X.heap.size v L ∧ Below X.heap.size X w') := fun X hX => by
             have h6 := HUP6.out _ (HW8.out _ (HB.out.trans (hX.mono HB.out.size)))
             exact hs2 X _ _ h6.1 h6.2.1
           have HL1 := Lib.hid hL1
           have HL2 := Lib.hid hL2
           have hk0 : (0 : Int) ≤ (k : Int) := by omega
           have hk1 : (k : Int) < (x.length : Int) := by omega
           clear hb1 hx1 hb2 hx2 hs1 hs2 hL1 hL2
           go_upto_region 12 with fail
           clear hlt
           refine wp_region_held_drew (S := fun X => Below wr.heap.size wr X) (by kernel_rfl) (Below.refl _ _).drew (fun hSd => ?_)
           have h0d : Below wr.heap.size wr wr.drew := (Below.refl _ _).drew
           generalize wr.drew = x0 at *
           refine takeC (i := 0) (v := .agg #[.slice ia I.length ic, .slice ga A.length gc]) (some 99) rfl rfl (by kernel_rfl) (by kernel_rfl) (by kernel_rfl) (fun _ _ _ h => h) (Or.inl ⟨by rfl, ?_⟩) (by assumption) ?_
           · intro wz hSw; obtain ⟨t0, t1⟩ := HGB.out wz hSw; go_simp
           try simp only [Act.put, List.setIfInBounds_toArray, List.set_cons_zero, List.set_cons_succ]
           refine takeC (i := 1) (v := .slice (some ⟨b1, off1, none⟩) x.length xc) (some 100) rfl rfl (by kernel_rfl) (by kernel_rfl) (by kernel_rfl) (fun _ _ _ h => h) (Or.inl ⟨by rfl, ?_⟩) (by assumption) ?_
           · intro wz hSw; go_simp
           try simp only [Act.put, List.setIfInBounds_toArray, List.set_cons_zero, List.set_cons_succ]
           refine takeC (i := 2) (v := .int .i64 (k : Int)) (some 101) rfl rfl (by kernel_rfl) (by kernel_rfl) (by kernel_rfl) (fun _ _ _ h => h) (Or.inl ⟨by rfl, ?_⟩) (by assumption) ?_
           · intro wz hSw; go_simp
           try simp only [Act.put, List.setIfInBounds_toArray, List.set_cons_zero, List.set_cons_succ]
           refine takeC (i := 3) (v := .pointer (some ⟨b1, off1 + k, none⟩)) (some 102) rfl rfl (by kernel_rfl) (by kernel_rfl) (by kernel_rfl) (fun _ _ _ h => h) (Or.inl ⟨by rfl, ?_⟩) (by assumption) ?_
           · intro wz hSw; go_simp
           try simp only [Act.put, List.setIfInBounds_toArray, List.set_cons_zero, List.set_cons_succ]
           refine takeC (i := 4) (v := .int .i64 y1) (some 103) rfl rfl (by kernel_rfl) (by kernel_rfl) (by kernel_rfl) (fun _ _ _ h => h) (Or.inl ⟨by rfl, ?_⟩) (by assumption) ?_
           · intro wz hSw; have t0 := HE1.out wz hSw; go_simp
           try simp only [Act.put, List.setIfInBounds_toArray, List.set_cons_zero, List.set_cons_succ]
           refine wpAnyH_ready (rs := [5]) (by kernel_rfl) (by simp) ?_
           refine AllReadyH.cons rfl (fun K hK => ?_) AllReadyH.nil
           go_simp
           go_wp2_with (go_at_call 14; refine (HS1.out x0 h0d).mono ?_; rintro e x1 ⟨sv, rfl, hso, hb⟩)
           have h1d : Below wr.heap.size wr x1 := h0d.trans (hb.mono h0d.size)
           have HSI := Lib.hid (hso.ints (by have := HL1.out; omega) HL2.out)
           refine hK.out _ _ h1d (fun hS => ?_)
           clear hK K hb hS hso
           try simp only [Act.put, List.setIfInBounds_toArray, List.set_cons_zero, List.set_cons_succ]
           refine takeC (i := 6) (v := .tuple #[sv, .int .i64 0]) (some 98) rfl rfl (by kernel_rfl) (by kernel_rfl) (by kernel_rfl) (fun _ _ _ h => h) (Or.inl ⟨by rfl, ?_⟩) (by assumption) ?_
           · intro wz hSw; go_simp
           try simp only [Act.put, List.setIfInBounds_toArray, List.set_cons_zero, List.set_cons_succ]
           refine takeC (i := 7) (v := sv) (some 105) rfl rfl (by kernel_rfl) (by kernel_rfl) (by kernel_rfl) (fun _ _ _ h => h) (Or.inl ⟨by rfl, ?_⟩) (by assumption) ?_
           · intro wz hSw; go_simp
           try simp only [Act.put, List.setIfInBounds_toArray, List.set_cons_zero, List.set_cons_succ]
           refine takeC (i := 8) (v := .int .i64 0) (some 106) rfl rfl (by kernel_rfl) (by kernel_rfl) (by kernel_rfl) (fun _ _ _ h => h) (Or.inl ⟨by rfl, ?_⟩) (by assumption) ?_
           · intro wz hSw; go_simp
           try simp only [Act.put, List.setIfInBounds_toArray, List.set_cons_zero, List.set_cons_succ]
           refine takeC (i := 9) (v := sv) (some 15) rfl rfl (by kernel_rfl) (by kernel_rfl) (by kernel_rfl) (fun _ _ _ h => h) (Or.inl ⟨by rfl, ?_⟩) (by assumption) ?_
           · intro wz hSw; go_simp
           try simp only [Act.put, List.setIfInBounds_toArray, List.set_cons_zero, List.set_cons_succ]
           refine takeC (i := 10) (v := .int .i64 0) (some 16) rfl rfl (by kernel_rfl) (by kernel_rfl) (by kernel_rfl) (fun _ _ _ h => h) (Or.inl ⟨by rfl, ?_⟩) (by assumption) ?_
           · intro wz hSw; go_simp
           try simp only [Act.put, List.setIfInBounds_toArray, List.set_cons_zero, List.set_cons_succ]
           refine wpAnyH_done (by kernel_rfl) ?_ _
           have H1D := Lib.hid h1d
           clear h0d h1d HS1 HGB HE1
           have HX2 : Hid (∀ X, Below x1.heap.size x1 X → Below wr.heap.size wr X) := fun X hX => H1D.out.trans (hX.mono H1D.out.size)
           go_upto_region 13 with fail
           refine wp_region_held_drew (S := fun X => Below x1.heap.size x1 X) (by kernel_rfl) (Below.refl _ _).drew (fun hSd => ?_)
           have h0d : Below x1.heap.size x1 x1.drew := (Below.refl _ _).drew
           generalize x1.drew = x2 at *
           refine takeC (i := 0) (v := .agg #[.slice ca I.length cc, .slice da C.length dc]) (some 108) rfl rfl (by kernel_rfl) (by kernel_rfl) (by kernel_rfl) (fun _ _ _ h => h) (Or.inl ⟨by rfl, ?_⟩) (by assumption) ?_
           · intro wz hSw; obtain ⟨t0, t1⟩ := HCB.out wz (HX2.out _ hSw); go_simp
           try simp only [Act.put, List.setIfInBounds_toArray, List.set_cons_zero, List.set_cons_succ]
           refine takeC (i := 1) (v := .slice (some ⟨b2, off2, none⟩) x.length uc) (some 109) rfl rfl (by kernel_rfl) (by kernel_rfl) (by kernel_rfl) (fun _ _ _ h => h) (Or.inl ⟨by rfl, ?_⟩) (by assumption) ?_
           · intro wz hSw; go_simp
           try simp only [Act.put, List.setIfInBounds_toArray, List.set_cons_zero, List.set_cons_succ]
           refine takeC (i := 2) (v := .int .i64 (k : Int)) (some 110) rfl rfl (by kernel_rfl) (by kernel_rfl) (by kernel_rfl) (fun _ _ _ h => h) (Or.inl ⟨by rfl, ?_⟩) (by assumption) ?_
           · intro wz hSw; go_simp
           try simp only [Act.put, List.setIfInBounds_toArray, List.set_cons_zero, List.set_cons_succ]
           refine takeC (i := 3) (v := .pointer (some ⟨b2, off2 + k, none⟩)) (some 111) rfl rfl (by kernel_rfl) (by kernel_rfl) (by kernel_rfl) (fun _ _ _ h => h) (Or.inl ⟨by rfl, ?_⟩) (by assumption) ?_
           · intro wz hSw; go_simp
           try simp only [Act.put, List.setIfInBounds_toArray, List.set_cons_zero, List.set_cons_succ]
           refine takeC (i := 4) (v := .int .i64 y2) (some 112) rfl rfl (by kernel_rfl) (by kernel_rfl) (by kernel_rfl) (fun _ _ _ h => h) (Or.inl ⟨by rfl, ?_⟩) (by assumption) ?_
           · intro wz hSw; have t0 := HE2.out wz (HX2.out _ hSw); go_simp
           try simp only [Act.put, List.setIfInBounds_toArray, List.set_cons_zero, List.set_cons_succ]
           refine wpAnyH_ready (rs := [5]) (by kernel_rfl) (by simp) ?_
           refine AllReadyH.cons rfl (fun K hK => ?_) AllReadyH.nil
           go_simp
           go_wp2_with (go_at_call 14; refine (HS2.out x2 (HX2.out _ h0d)).mono ?_; rintro e x3 ⟨tv, rfl, hto, hb⟩)
           have h3d : Below x1.heap.size x1 x3 := h0d.trans (hb.mono h0d.size)
           have HTI := Lib.hid (hto.ints (by have := HL1.out; omega) HL2.out)
           have HSI3 := Lib.hid (HSI.out.below h3d (Nat.le_refl _))
           refine hK.out _ _ h3d (fun hS => ?_)
           clear hK K hb hS hto
           try simp only [Act.put, List.setIfInBounds_toArray, List.set_cons_zero, List.set_cons_succ]
           refine takeC (i := 6) (v := .tuple #[tv, .int .i64 0]) (some 107) rfl rfl (by kernel_rfl) (by kernel_rfl) (by kernel_rfl) (fun _ _ _ h => h) (Or.inl ⟨by rfl, ?_⟩) (by assumption) ?_
           · intro wz hSw; go_simp
           try simp only [Act.put, List.setIfInBounds_toArray, List.set_cons_zero, List.set_cons_succ]
           refine takeC (i := 7) (v := tv) (some 114) rfl rfl (by kernel_rfl) (by kernel_rfl) (by kernel_rfl) (fun _ _ _ h => h) (Or.inl ⟨by rfl, ?_⟩) (by assumption) ?_
           · intro wz hSw; go_simp
           try simp only [Act.put, List.setIfInBounds_toArray, List.set_cons_zero, List.set_cons_succ]
           refine takeC (i := 8) (v := .int .i64 0) (some 115) rfl rfl (by kernel_rfl) (by kernel_rfl) (by kernel_rfl) (fun _ _ _ h => h) (Or.inl ⟨by rfl, ?_⟩) (by assumption) ?_
           · intro wz hSw; go_simp
           try simp only [Act.put, List.setIfInBounds_toArray, List.set_cons_zero, List.set_cons_succ]
           refine takeC (i := 9) (v := tv) (some 17) rfl rfl (by kernel_rfl) (by kernel_rfl) (by kernel_rfl) (fun _ _ _ h => h) (Or.inl ⟨by rfl, ?_⟩) (by assumption) ?_
           · intro wz hSw; go_simp
           try simp only [Act.put, List.setIfInBounds_toArray, List.set_cons_zero, List.set_cons_succ]
           refine takeC (i := 10) (v := .int .i64 0) (some 18) rfl rfl (by kernel_rfl) (by kernel_rfl) (by kernel_rfl) (fun _ _ _ h => h) (Or.inl ⟨by rfl, ?_⟩) (by assumption) ?_
           · intro wz hSw; go_simp
           try simp only [Act.put, List.setIfInBounds_toArray, List.set_cons_zero, List.set_cons_succ]
           refine wpAnyH_done (by kernel_rfl) ?_ _
           have H3D := Lib.hid (HX2.out _ h3d)
           have hk3 : (k : Int) < 4000001 := by have := HKL.out; have := HXL.out; omega
           have hk4 : (0 : Int) ≤ (k : Int) := by omega
           clear h0d h3d HS2 HCB HE2 hk0 hk1
           go_wp2_with (go_at_call 26; go_loud (refine (HIN.out L _ _ x3 HSI3.out HTI.out).mono ?_; rintro e x4 ⟨rfl, hb⟩; have HB4 := Lib.hid (H3D.out.trans (hb.mono H3D.out.size)); clear hb))
           go_roundw
           case rel => exact ⟨k + 1, HKL.out, by go_num, HB.out.trans (HB4.out.mono HB.out.size)⟩
           case measure => have := HKL.out; simp [intOf]; omega
         · obtain rfl : k = x.length := by omega
           go_wp2_with (go_at_call 13; refine (works6_any _).mono ?_; rintro e w12 ⟨rfl, hb12⟩)
           go_ret
           exact ⟨rfl, HB0.out.trans ((HW6.out _ (HW8.out _ (HB.out.trans (hb12.mono HB.out.size)))).mono HB0.out.size)⟩
end Go.Proofs.YtfghjfljomcldaaGreat
