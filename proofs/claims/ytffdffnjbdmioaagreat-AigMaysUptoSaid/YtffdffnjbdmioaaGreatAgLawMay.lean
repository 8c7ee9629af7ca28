/- The law AigMays, walked. -/
import Derived.Test.YtffdffnjbdmioaaGreatAgWorks
import Derived.Test.YtffdffnjbdmioaaGreatA15
import Derived.Test.YtffdffnjbdmioaaGreatA13
namespace Go.Proofs.YtffdffnjbdmioaaGreat
open Go.RowKit Go.Maps
set_option linter.unusedVariables false
set_option linter.unusedSimpArgs false

theorem sameA_self (I : List Int) (A : List Pr) : sameA I A I A = true := by unfold sameA; simp [sameB]
theorem supA_bd {I : List Int} {A : List Pr} (x : Int) (hI : In64 I) : (supportA I A x).1.length ≤ I.length ∧ In64 (supportA I A x).1 := by
  unfold supportA
  split
  · unfold supA
    refine ⟨?_, fun y hy => ?_⟩
    · rw [List.length_map]
      exact onN_len _ _ _
    · obtain ⟨n, hn, rfl⟩ := List.mem_map.1 hy
      obtain ⟨m, rfl, h1, h2, _⟩ := onN_mem.1 hn
      have h3 : ((m : Int)).toNat - 1 < I.length := by omega
      rw [show I.getD ((m : Int).toNat - 1) 0 = I[(m : Int).toNat - 1] by simp only [List.getD, List.getElem?_eq_getElem h3, Option.getD_some]]
      exact hI _ (List.getElem_mem _)
  · exact ⟨Nat.zero_le _, fun y hy => absurd hy (by simp)⟩
theorem great_two6 (vi va vj vc : Value) (I J : List Int) (A C : List Pr) (X : World) (HI : IsInts X vi I) (HA : IsPairs X va A) (HJ : IsInts X vj J) (HC : IsPairs X vc C) (h1 : I.length ≤ 4000000) (h2 : A.length ≤ 4000000) (h3 : J.length ≤ 4000000) (h4 : C.length ≤ 4000000) :
    Calls Tryz.prog 19 #[.slice (some ⟨X.heap.size, 0, none⟩) 2 2] (X.alloc (.cells #[vi, va, vj, vc] 25)) fun e w' => e = .returned (.bool (manyA I A || manyA J C)) ∧ Below X.heap.size X w' := by
  have hb := below_alloc1 X (.cells #[vi, va, vj, vc] 25)
  refine (great6_any [(vi, va, I, A), (vj, vc, J, C)] X.heap.size _ (by simp) (by simp) (fun j hj => ?_)).mono ?_
  · match j, hj with
    | 0, _ => exact ⟨cell_fresh rfl, cell_fresh rfl, HI.below hb (Nat.le_refl _), HA.below hb (Nat.le_refl _), h1, h2⟩
    | 1, _ => exact ⟨cell_fresh rfl, cell_fresh rfl, HJ.below hb (Nat.le_refl _), HC.below hb (Nat.le_refl _), h3, h4⟩
    | j + 2, hj => simp at hj; omega
  · rintro e w' ⟨rfl, h2⟩
    exact ⟨by simp, hb.trans (h2.mono (by simp))⟩

set_option maxRecDepth 100000 in
set_option maxHeartbeats 6400000 in
theorem aigmays_any (vi va vj vc vl : Value) (I J : List Int) (A C : List Pr) (l : List Int) (w : World) (HI : IsInts w vi I) (HA : IsPairs w va A) (HJ : IsInts w vj J) (HC : IsPairs w vc C) (HL : IsInts w vl l) (h1 : I.length ≤ 4000000) (h2 : A.length ≤ 4000000) (h3 : J.length ≤ 4000000) (h4 : C.length ≤ 4000000) (h5 : l.length ≤ 4000000) :
    Calls Tryz.prog 3 #[.agg #[vi, va], .agg #[vj, vc], vl] w fun e w' => e = .returned (.bool true) ∧ Below w.heap.size w w' := by
  have HI64 := Lib.hid HI.in64
  obtain ⟨ia, ic, rfl⟩ := HI.shape
  obtain ⟨ga, gc, rfl, _⟩ := HA.shape
  obtain ⟨ja, jc, rfl⟩ := HJ.shape
  obtain ⟨ca, cc, rfl, _⟩ := HC.shape
  obtain ⟨la, lc, rfl⟩ := HL.shape
  obtain ⟨hb0, hp, hq⟩ := two_boxes w (.slice ia I.length ic) (.slice ga A.length gc) (.slice ja J.length jc) (.slice ca C.length cc)
  obtain ⟨W0, hW0⟩ : ∃ W0, (w.alloc (.cells #[.slice ia I.length ic, .slice ga A.length gc] 25)).alloc (.cells #[.slice ja J.length jc, .slice ca C.length cc] 25) = W0 := ⟨_, rfl⟩
  have hz0 : W0.heap.size = w.heap.size + 1 + 1 := by rw [← hW0, World.size_alloc, World.size_alloc]
  rw [hW0] at hb0 hp hq
  have HXC : Hid (∀ X, Below W0.heap.size W0 X → (X.cell? ⟨w.heap.size, 0, none⟩ = some (.slice ia I.length ic) ∧ X.cell? ⟨w.heap.size, 1, none⟩ = some (.slice ga A.length gc)) ∧ X.cell? ⟨w.heap.size + 1, 0, none⟩ = some (.slice ja J.length jc) ∧ X.cell? ⟨w.heap.size + 1, 1, none⟩ = some (.slice ca C.length cc)) := fun X hX => ⟨⟨(hX.cell (p := ⟨w.heap.size, 0, none⟩) (by show w.heap.size < _; omega)).trans hp.1, (hX.cell (p := ⟨w.heap.size, 1, none⟩) (by show w.heap.size < _; omega)).trans hp.2⟩, (hX.cell (p := ⟨w.heap.size + 1, 0, none⟩) (by show w.heap.size + 1 < _; omega)).trans hq.1, (hX.cell (p := ⟨w.heap.size + 1, 1, none⟩) (by show w.heap.size + 1 < _; omega)).trans hq.2⟩
  have HW0 : Hid ((w.alloc (.cells #[.slice ia I.length ic, .slice ga A.length gc] 25)).alloc (.cells #[.slice ja J.length jc, .slice ca C.length cc] 25) = W0) := hW0
  have HB0 := Lib.hid hb0
  have HUPG : Hid (∀ X, Below W0.heap.size W0 X → IsInts X (.slice ia I.length ic) I ∧ IsPairs X (.slice ga A.length gc) A ∧ IsInts X (.slice ja J.length jc) J ∧ IsPairs X (.slice ca C.length cc) C ∧ IsInts X (.slice la l.length lc) l) := fun X hX => ⟨(HI.below hb0 (Nat.le_refl _)).below hX (Nat.le_refl _), (HA.below hb0 (Nat.le_refl _)).below hX (Nat.le_refl _), (HJ.below hb0 (Nat.le_refl _)).below hX (Nat.le_refl _), (HC.below hb0 (Nat.le_refl _)).below hX (Nat.le_refl _), (HL.below hb0 (Nat.le_refl _)).below hX (Nat.le_refl _)⟩
  have HL64 := Lib.hid HL.in64
  have H1 : Hid (Calls Tryz.prog 19 #[.slice (some ⟨W0.heap.size, 0, none⟩) 2 2] (W0.alloc (.cells #[.slice ia I.length ic, .slice ga A.length gc, .slice ja J.length jc, .slice ca C.length cc] 25)) fun e w' => e = .returned (.bool (manyA I A || manyA J C)) ∧ Below W0.heap.size W0 w') := by
    have hu := HUPG.out W0 (Below.refl _ _)
    exact great_two6 _ _ _ _ I J A C W0 hu.1 hu.2.1 hu.2.2.1 hu.2.2.2.1 h1 h2 h3 h4
  have HM1 : Hid (∀ X, Below W0.heap.size W0 X → Calls Tryz.prog 25 #[.agg #[.slice ia I.length ic, .slice ga A.length gc]] X fun e w' => e = .returned (.bool (mayA I A)) ∧ Below X.heap.size X w') := fun X hX => gmay_any _ _ I A X (HUPG.out X hX).1 (HUPG.out X hX).2.1 h1 h2
  have HM2 : Hid (∀ X, Below W0.heap.size W0 X → Calls Tryz.prog 26 #[.agg #[.slice ia I.length ic, .slice ga A.length gc]] X fun e w' => e = .returned (.bool (mayA I A)) ∧ Below X.heap.size X w') := fun X hX => rmay6_any _ _ I A X (HUPG.out X hX).1 (HUPG.out X hX).2.1 h1 h2
  have HR1 : Hid (∀ X, Below W0.heap.size W0 X → Calls Tryz.prog 27 #[.agg #[.slice ia I.length ic, .slice ga A.length gc]] X fun e w' => e = .returned (.bool (redB I A)) ∧ Below X.heap.size X w') := fun X hX => greduced_any _ _ I A X (HUPG.out X hX).1 (HUPG.out X hX).2.1 h1 h2
  have HR2 : Hid (∀ X, Below W0.heap.size W0 X → Calls Tryz.prog 28 #[.agg #[.slice ia I.length ic, .slice ga A.length gc]] X fun e w' => e = .returned (.bool (redB I A)) ∧ Below X.heap.size X w') := fun X hX => rreduced6_any _ _ I A X (HUPG.out X hX).1 (HUPG.out X hX).2.1 h1 h2
  have HS1 : Hid (∀ X, Below W0.heap.size W0 X → Calls Tryz.prog 31 #[.agg #[.slice ia I.length ic, .slice ga A.length gc], .agg #[.slice ja J.length jc, .slice ca C.length cc]] X fun e w' => e = .returned (.bool (sameA I A J C)) ∧ Below X.heap.size X w') := fun X hX => gsame_any _ _ _ _ I A J C X (HUPG.out X hX).1 (HUPG.out X hX).2.1 (HUPG.out X hX).2.2.1 (HUPG.out X hX).2.2.2.1
  have HS2 : Hid (∀ X, Below W0.heap.size W0 X → Calls Tryz.prog 32 #[.agg #[.slice ia I.length ic, .slice ga A.length gc], .agg #[.slice ja J.length jc, .slice ca C.length cc]] X fun e w' => e = .returned (.bool (sameA I A J C)) ∧ Below X.heap.size X w') := fun X hX => rsame6_any _ _ _ _ I A J C X (HUPG.out X hX).1 (HUPG.out X hX).2.1 (HUPG.out X hX).2.2.1 (HUPG.out X hX).2.2.2.1
  have HS3 : Hid (∀ X, Below W0.heap.size W0 X → Calls Tryz.prog 31 #[.agg #[.slice ia I.length ic, .slice ga A.length gc], .agg #[.slice ia I.length ic, .slice ga A.length gc]] X fun e w' => e = .returned (.bool true) ∧ Below X.heap.size X w') := fun X hX => (gsame_any _ _ _ _ I A I A X (HUPG.out X hX).1 (HUPG.out X hX).2.1 (HUPG.out X hX).1 (HUPG.out X hX).2.1).mono fun e w' h => ⟨by rw [h.1, sameA_self], h.2⟩
  have H7 : Hid (∀ X, Below W0.heap.size W0 X → Calls Tryz.prog 23 #[.agg #[.slice ia I.length ic, .slice ga A.length gc], .slice la l.length lc] X fun e w' => e = .returned (.tuple #[.int .i64 ((sizeA I A l).1 : Int), .int .i64 (sizeA I A l).2]) ∧ Below X.heap.size X w') := fun X hX => gsize_any _ _ _ I A l X (HUPG.out X hX).1 (HUPG.out X hX).2.1 (HUPG.out X hX).2.2.2.2 h1 h2
  have H8 : Hid (∀ X, Below W0.heap.size W0 X → Calls Tryz.prog 24 #[.agg #[.slice ia I.length ic, .slice ga A.length gc], .slice la l.length lc] X fun e w' => e = .returned (.tuple #[.int .i64 ((sizeA I A l).1 : Int), .int .i64 (sizeA I A l).2]) ∧ Below X.heap.size X w') := fun X hX => rsize6_any _ _ _ I A l X (HUPG.out X hX).1 (HUPG.out X hX).2.1 (HUPG.out X hX).2.2.2.2 h1 h2
  obtain ⟨⟨p0, p1⟩, q0, q1⟩ := HXC.out W0 (Below.refl _ _)
  clear HI HA HJ HC HL hb0 hp hq hW0 hz0 h3 h4
  generalize mayA I A = m1 at *
  generalize redB I A = m2 at *
  generalize sameA I A J C = m3 at *
  generalize ((sizeA I A l).1 : Int) = sz at *
  generalize (sizeA I A l).2 = szc at *
  cases hm : (manyA I A || manyA J C) with
  | true =>
    rw [hm] at H1
    clear hm HM1 HM2 HR1 HR2 HS1 HS2 HS3 H7 H8
    go_enter Tryz.func3, Tryz.ntmps3
    go_upto_region 1 with fail
    rw [HW0.out]
    go_wp2_with (first
      | (go_at_call 19; refine H1.out.mono ?_; rintro e w1 ⟨rfl, hb1⟩)
      | (go_at_call 20; refine (works6_any _).mono ?_; rintro e w2 ⟨rfl, hb2⟩))
    go_ret
    exact ⟨rfl, HB0.out.trans ((hb1.trans (hb2.mono hb1.size)).mono HB0.out.size)⟩
  | false =>
   rw [hm] at H1
   clear hm
   by_cases cl : 100 < l.length
   · have d1 : decide ((100 : Int) < (l.length : Int)) = true := decide_eq_true (by omega)
     generalize l.length = ln at *
     clear HM1 HM2 HR1 HR2 HS1 HS2 HS3 H7 H8 cl
     go_enter Tryz.func3, Tryz.ntmps3
     go_upto_region 1 with fail
     rw [HW0.out]
     go_wp2_with (first
       | (go_at_call 19; refine H1.out.mono ?_; rintro e w1 ⟨rfl, hb1⟩)
       | (go_at_call 20; refine (works6_any _).mono ?_; rintro e w2 ⟨rfl, hb2⟩))
     go_ret
     exact ⟨rfl, HB0.out.trans ((hb1.trans (hb2.mono hb1.size)).mono HB0.out.size)⟩
   · have d1 : decide ((100 : Int) < (l.length : Int)) = false := decide_eq_false (by omega)
     by_cases c0 : 0 < l.length
     · have d2 : decide ((0 : Int) < (l.length : Int)) = true := decide_eq_true (by omega)
       go_enter Tryz.func3, Tryz.ntmps3
       go_upto_region 1 with fail
       rw [HW0.out]
       go_upto_region 5 with (go_at_call 19; refine H1.out.mono ?_; rintro e w1 ⟨rfl, hb1⟩; have HB1 := Lib.hid hb1; clear hb1 p0 p1 q0 q1; obtain ⟨⟨p0, p1⟩, q0, q1⟩ := HXC.out w1 HB1.out)
       obtain ⟨b, off, rfl, hbl, hx0⟩ := (HUPG.out w1 HB1.out).2.2.2.2.cellY c0
       have HXB : Hid (-9223372036854775808 ≤ l.getD 0 0 ∧ l.getD 0 0 ≤ 9223372036854775807) := HL64.out _ (by simp [List.getD, c0])
       generalize l.getD 0 0 = x at *
       rw [Nat.add_zero] at hx0
       have HLZ : (0 : Int) < (l.length : Int) := by omega
       go_upto_region 6 with fail
       clear d1 d2 hx0 HLZ hbl
       have HX : Hid (-9223372036854775808 ≤ x ∧ x ≤ 9223372036854775807) := HXB.out
       have H2 : Hid (∀ X, Below W0.heap.size W0 X → Calls Tryz.prog 21 #[.agg #[.slice ia I.length ic, .slice ga A.length gc], .int .i64 x] X fun e w' => ∃ v, e = .returned (.tuple #[v, .int .i64 (supportA I A x).2]) ∧ Own w' X.heap.size v (supportA I A x).1 ∧ Below X.heap.size X w') := fun X hX => gsupport_any _ _ I A x X (HUPG.out X hX).1 (HUPG.out X hX).2.1 h1 h2 HX.out.1 HX.out.2
       have H3 : Hid (∀ X, Below W0.heap.size W0 X → Calls Tryz.prog 22 #[.agg #[.slice ia I.length ic, .slice ga A.length gc], .int .i64 x] X fun e w' => ∃ v, e = .returned (.tuple #[v, .int .i64 (supportA I A x).2]) ∧ Own w' X.heap.size v (supportA I A x).1 ∧ Below X.heap.size X w') := fun X hX => rsupport6_any _ _ I A x X (HUPG.out X hX).1 (HUPG.out X hX).2.1 h1 h2 HX.out.1 HX.out.2
       have HH : Hid (∀ X, Below W0.heap.size W0 X → Calls Tryz.prog 29 #[.agg #[.slice ia I.length ic, .slice ga A.length gc], .int .i64 x] X fun e w' => e = .returned (.bool (hasA I A [x])) ∧ Below X.heap.size X w') := fun X hX => gHas_any _ _ I A x X (HUPG.out X hX).1 (HUPG.out X hX).2.1 h1 h2 HX.out.1 HX.out.2
       have HR : Hid (∀ X, Below W0.heap.size W0 X → Calls Tryz.prog 30 #[.agg #[.slice ia I.length ic, .slice ga A.length gc], .int .i64 x] X fun e w' => e = .returned (.bool (hasA I A [x])) ∧ Below X.heap.size X w') := fun X hX => rHas6_any _ _ I A x X (HUPG.out X hX).1 (HUPG.out X hX).2.1 h1 h2
       have HSB := Lib.hid (supA_bd (A := A) x HI64.out)
       have HIL : Hid (I.length ≤ 4000000) := h1
       generalize (supportA I A x).1 = L at *
       generalize (supportA I A x).2 = r3 at *
       generalize hasA I A [x] = mh at *
       have H9 : Hid (∀ (v u : Value) (X : World), IsInts X v L → IsInts X u L → Calls Tryz.prog 33 #[v, u] X fun e w' => e = .returned (.bool true) ∧ Below X.heap.size X w') := fun v u X h1 h2 => (ints5_any v u L L X h1 h2).mono (by
         rintro e w' ⟨rfl, h3⟩
         exact ⟨by simp [sameB], h3.below _⟩)
       go_upto_region 10 with (first
         | (go_at_call 24; go_loud (refine (H8.out w6 HB6.out).mono ?_; rintro e w7 ⟨rfl, hb7⟩; have HB7 := Lib.hid (HB6.out.trans (hb7.mono HB6.out.size)); have HI47 := Lib.hid (HI46.out.below hb7 (Nat.le_refl _)); have HI57 := Lib.hid (HI56.out.below hb7 (Nat.le_refl _)); clear hb7 p0 p1 q0 q1))
         | (go_at_call 23; go_loud (refine (H7.out w5 HB5.out).mono ?_; rintro e w6 ⟨rfl, hb6⟩; have HB6 := Lib.hid (HB5.out.trans (hb6.mono HB5.out.size)); have HI46 := Lib.hid (HI45.out.below hb6 (Nat.le_refl _)); have HI56 := Lib.hid (HI5.out.below hb6 (Nat.le_refl _)); clear hb6 p0 p1 q0 q1; obtain ⟨⟨p0, p1⟩, q0, q1⟩ := HXC.out w6 HB6.out))
         | (go_at_call 22; go_loud (refine (H3.out w4 HB4.out).mono ?_; rintro e w5 ⟨v5, rfl, ho5, hb5⟩; have HB5 := Lib.hid (HB4.out.trans (hb5.mono HB4.out.size)); have HI5 := Lib.hid (ho5.ints (by have := HSB.out.1; have := HIL.out; omega) HSB.out.2); have HI45 := Lib.hid (HI4.out.below hb5 (Nat.le_refl _)); clear hb5 ho5 p0 p1 q0 q1; obtain ⟨⟨p0, p1⟩, q0, q1⟩ := HXC.out w5 HB5.out))
         | (go_at_call 21; go_loud (refine (H2.out w1 HB1.out).mono ?_; rintro e w4 ⟨v4, rfl, ho4, hb4⟩; have HB4 := Lib.hid (HB1.out.trans (hb4.mono HB1.out.size)); have HI4 := Lib.hid (ho4.ints (by have := HSB.out.1; have := HIL.out; omega) HSB.out.2); clear hb4 ho4 p0 p1 q0 q1; obtain ⟨⟨p0, p1⟩, q0, q1⟩ := HXC.out w4 HB4.out))
         | (go_at_call 19; refine H1.out.mono ?_; rintro e w1 ⟨rfl, hb1⟩; have HB1 := Lib.hid hb1; clear hb1 p0 p1 q0 q1; obtain ⟨⟨p0, p1⟩, q0, q1⟩ := HXC.out w1 HB1.out))
       have HUI : Hid (∀ X, Below w7.heap.size w7 X → IsInts X v4 L ∧ IsInts X v5 L) := fun X hX => ⟨HI47.out.below hX (Nat.le_refl _), HI57.out.below hX (Nat.le_refl _)⟩
       have HUP : Hid (∀ X, Below w7.heap.size w7 X → Below W0.heap.size W0 X) := fun X hX => HB7.out.trans (hX.mono HB7.out.size)
       refine wp_region_held_drew (S := fun X => Below w7.heap.size w7 X) (by kernel_rfl) (Below.refl _ _).drew (fun hSd => ?_)
       have hb5d : Below w7.heap.size w7 w7.drew := (Below.refl _ _).drew
       generalize w7.drew = x0 at *
       have h0d := hb5d
       refine takeC (i := 0) (v := .agg #[.slice ia I.length ic, .slice ga A.length gc]) (some 57) rfl rfl (by kernel_rfl) (by kernel_rfl) (by kernel_rfl) (fun _ _ _ h => h) (Or.inl ⟨by rfl, ?_⟩) (by assumption) ?_
       · intro wz hSw; obtain ⟨⟨t0, t1⟩, y0, y1⟩ := HXC.out wz (HUP.out _ hSw); go_simp
       try simp only [Act.put, List.setIfInBounds_toArray, List.set_cons_zero, List.set_cons_succ]
       refine takeC (i := 2) (v := .agg #[.slice ia I.length ic, .slice ga A.length gc]) (some 59) rfl rfl (by kernel_rfl) (by kernel_rfl) (by kernel_rfl) (fun _ _ _ h => h) (Or.inl ⟨by rfl, ?_⟩) (by assumption) ?_
       · intro wz hSw; obtain ⟨⟨t0, t1⟩, y0, y1⟩ := HXC.out wz (HUP.out _ hSw); go_simp
       try simp only [Act.put, List.setIfInBounds_toArray, List.set_cons_zero, List.set_cons_succ]
       refine wpAnyH_ready (rs := [1]) (by kernel_rfl) (by simp) ?_
       refine AllReadyH.cons rfl (fun K hK => ?_) AllReadyH.nil
       go_simp
       go_wp2_with (go_at_call 25; refine (HM1.out x0 (HUP.out _ h0d)).mono ?_; rintro e x1 ⟨rfl, hb⟩)
       have h1d : Below w7.heap.size w7 x1 := h0d.trans (hb.mono h0d.size)
       refine hK.out _ _ h1d (fun hS => ?_)
       clear hK K hb hS
       try simp only [Act.put, List.setIfInBounds_toArray, List.set_cons_zero, List.set_cons_succ]
       refine wpAnyH_ready (rs := [3]) (by kernel_rfl) (by simp) ?_
       refine AllReadyH.cons rfl (fun K hK => ?_) AllReadyH.nil
       go_simp
       go_wp2_with (go_at_call 26; refine (HM2.out x1 (HUP.out _ h1d)).mono ?_; rintro e x2 ⟨rfl, hb⟩)
       have h2d : Below w7.heap.size w7 x2 := h1d.trans (hb.mono h1d.size)
       refine hK.out _ _ h2d (fun hS => ?_)
       clear hK K hb hS
       try simp only [Act.put, List.setIfInBounds_toArray, List.set_cons_zero, List.set_cons_succ]
       refine takeC (i := 4) (v := .bool true) (some 61) rfl rfl (by kernel_rfl) (by kernel_rfl) (by kernel_rfl) (fun _ _ _ h => h) (Or.inl ⟨by rfl, ?_⟩) (by assumption) ?_
       · intro wz hSw; go_simp
       try simp only [Act.put, List.setIfInBounds_toArray, List.set_cons_zero, List.set_cons_succ]
       refine takeC (i := 5) (v := .bool true) (some 62) rfl rfl (by kernel_rfl) (by kernel_rfl) (by kernel_rfl) (fun _ _ _ h => h) (Or.inl ⟨by rfl, ?_⟩) (by assumption) ?_
       · intro wz hSw; go_simp
       try simp only [Act.put, List.setIfInBounds_toArray, List.set_cons_zero, List.set_cons_succ]
       refine takeC (i := 6) (v := .agg #[.slice ia I.length ic, .slice ga A.length gc]) (some 63) rfl rfl (by kernel_rfl) (by kernel_rfl) (by kernel_rfl) (fun _ _ _ h => h) (Or.inl ⟨by rfl, ?_⟩) (by assumption) ?_
       · intro wz hSw; obtain ⟨⟨t0, t1⟩, y0, y1⟩ := HXC.out wz (HUP.out _ hSw); go_simp
       try simp only [Act.put, List.setIfInBounds_toArray, List.set_cons_zero, List.set_cons_succ]
       refine takeC (i := 8) (v := .agg #[.slice ia I.length ic, .slice ga A.length gc]) (some 65) rfl rfl (by kernel_rfl) (by kernel_rfl) (by kernel_rfl) (fun _ _ _ h => h) (Or.inl ⟨by rfl, ?_⟩) (by assumption) ?_
       · intro wz hSw; obtain ⟨⟨t0, t1⟩, y0, y1⟩ := HXC.out wz (HUP.out _ hSw); go_simp
       try simp only [Act.put, List.setIfInBounds_toArray, List.set_cons_zero, List.set_cons_succ]
       refine wpAnyH_ready (rs := [7]) (by kernel_rfl) (by simp) ?_
       refine AllReadyH.cons rfl (fun K hK => ?_) AllReadyH.nil
       go_simp
       go_wp2_with (go_at_call 27; refine (HR1.out x2 (HUP.out _ h2d)).mono ?_; rintro e x3 ⟨rfl, hb⟩)
       have h3d : Below w7.heap.size w7 x3 := h2d.trans (hb.mono h2d.size)
       refine hK.out _ _ h3d (fun hS => ?_)
       clear hK K hb hS
       try simp only [Act.put, List.setIfInBounds_toArray, List.set_cons_zero, List.set_cons_succ]
       refine wpAnyH_ready (rs := [9]) (by kernel_rfl) (by simp) ?_
       refine AllReadyH.cons rfl (fun K hK => ?_) AllReadyH.nil
       go_simp
       go_wp2_with (go_at_call 28; refine (HR2.out x3 (HUP.out _ h3d)).mono ?_; rintro e x4 ⟨rfl, hb⟩)
       have h4d : Below w7.heap.size w7 x4 := h3d.trans (hb.mono h3d.size)
       refine hK.out _ _ h4d (fun hS => ?_)
       clear hK K hb hS
       try simp only [Act.put, List.setIfInBounds_toArray, List.set_cons_zero, List.set_cons_succ]
       refine takeC (i := 10) (v := .bool true) (some 67) rfl rfl (by kernel_rfl) (by kernel_rfl) (by kernel_rfl) (fun _ _ _ h => h) (Or.inl ⟨by rfl, ?_⟩) (by assumption) ?_
       · intro wz hSw; go_simp
       try simp only [Act.put, List.setIfInBounds_toArray, List.set_cons_zero, List.set_cons_succ]
       refine takeC (i := 11) (v := .bool true) (some 68) rfl rfl (by kernel_rfl) (by kernel_rfl) (by kernel_rfl) (fun _ _ _ h => h) (Or.inl ⟨by rfl, ?_⟩) (by assumption) ?_
       · intro wz hSw; go_simp
       try simp only [Act.put, List.setIfInBounds_toArray, List.set_cons_zero, List.set_cons_succ]
       refine takeC (i := 12) (v := .bool true) (some 69) rfl rfl (by kernel_rfl) (by kernel_rfl) (by kernel_rfl) (fun _ _ _ h => h) (Or.inl ⟨by rfl, ?_⟩) (by assumption) ?_
       · intro wz hSw; go_simp
       try simp only [Act.put, List.setIfInBounds_toArray, List.set_cons_zero, List.set_cons_succ]
       refine takeC (i := 13) (v := .agg #[.slice ia I.length ic, .slice ga A.length gc]) (some 70) rfl rfl (by kernel_rfl) (by kernel_rfl) (by kernel_rfl) (fun _ _ _ h => h) (Or.inl ⟨by rfl, ?_⟩) (by assumption) ?_
       · intro wz hSw; obtain ⟨⟨t0, t1⟩, y0, y1⟩ := HXC.out wz (HUP.out _ hSw); go_simp
       try simp only [Act.put, List.setIfInBounds_toArray, List.set_cons_zero, List.set_cons_succ]
       refine takeC (i := 14) (v := .int .i64 x) (some 71) rfl rfl (by kernel_rfl) (by kernel_rfl) (by kernel_rfl) (fun _ _ _ h => h) (Or.inl ⟨by rfl, ?_⟩) (by assumption) ?_
       · intro wz hSw; go_simp
       try simp only [Act.put, List.setIfInBounds_toArray, List.set_cons_zero, List.set_cons_succ]
       refine takeC (i := 16) (v := .agg #[.slice ia I.length ic, .slice ga A.length gc]) (some 73) rfl rfl (by kernel_rfl) (by kernel_rfl) (by kernel_rfl) (fun _ _ _ h => h) (Or.inl ⟨by rfl, ?_⟩) (by assumption) ?_
       · intro wz hSw; obtain ⟨⟨t0, t1⟩, y0, y1⟩ := HXC.out wz (HUP.out _ hSw); go_simp
       try simp only [Act.put, List.setIfInBounds_toArray, List.set_cons_zero, List.set_cons_succ]
       refine takeC (i := 17) (v := .int .i64 x) (some 74) rfl rfl (by kernel_rfl) (by kernel_rfl) (by kernel_rfl) (fun _ _ _ h => h) (Or.inl ⟨by rfl, ?_⟩) (by assumption) ?_
       · intro wz hSw; go_simp
       try simp only [Act.put, List.setIfInBounds_toArray, List.set_cons_zero, List.set_cons_succ]
       refine wpAnyH_ready (rs := [15]) (by kernel_rfl) (by simp) ?_
       refine AllReadyH.cons rfl (fun K hK => ?_) AllReadyH.nil
       go_simp
       go_wp2_with (go_at_call 29; refine (HH.out x4 (HUP.out _ h4d)).mono ?_; rintro e x5 ⟨rfl, hb⟩)
       have h5d : Below w7.heap.size w7 x5 := h4d.trans (hb.mono h4d.size)
       refine hK.out _ _ h5d (fun hS => ?_)
       clear hK K hb hS
       try simp only [Act.put, List.setIfInBounds_toArray, List.set_cons_zero, List.set_cons_succ]
       refine wpAnyH_ready (rs := [18]) (by kernel_rfl) (by simp) ?_
       refine AllReadyH.cons rfl (fun K hK => ?_) AllReadyH.nil
       go_simp
       go_wp2_with (go_at_call 30; refine (HR.out x5 (HUP.out _ h5d)).mono ?_; rintro e x6 ⟨rfl, hb⟩)
       have h6d : Below w7.heap.size w7 x6 := h5d.trans (hb.mono h5d.size)
       refine hK.out _ _ h6d (fun hS => ?_)
       clear hK K hb hS
       try simp only [Act.put, List.setIfInBounds_toArray, List.set_cons_zero, List.set_cons_succ]
       refine takeC (i := 19) (v := .bool true) (some 76) rfl rfl (by kernel_rfl) (by kernel_rfl) (by kernel_rfl) (fun _ _ _ h => h) (Or.inl ⟨by rfl, ?_⟩) (by assumption) ?_
       · intro wz hSw; go_simp
       try simp only [Act.put, List.setIfInBounds_toArray, List.set_cons_zero, List.set_cons_succ]
       refine takeC (i := 20) (v := .bool true) (some 77) rfl rfl (by kernel_rfl) (by kernel_rfl) (by kernel_rfl) (fun _ _ _ h => h) (Or.inl ⟨by rfl, ?_⟩) (by assumption) ?_
       · intro wz hSw; go_simp
       try simp only [Act.put, List.setIfInBounds_toArray, List.set_cons_zero, List.set_cons_succ]
       refine takeC (i := 21) (v := .bool true) (some 78) rfl rfl (by kernel_rfl) (by kernel_rfl) (by kernel_rfl) (fun _ _ _ h => h) (Or.inl ⟨by rfl, ?_⟩) (by assumption) ?_
       · intro wz hSw; go_simp
       try simp only [Act.put, List.setIfInBounds_toArray, List.set_cons_zero, List.set_cons_succ]
       refine takeC (i := 22) (v := .agg #[.slice ia I.length ic, .slice ga A.length gc]) (some 79) rfl rfl (by kernel_rfl) (by kernel_rfl) (by kernel_rfl) (fun _ _ _ h => h) (Or.inl ⟨by rfl, ?_⟩) (by assumption) ?_
       · intro wz hSw; obtain ⟨⟨t0, t1⟩, y0, y1⟩ := HXC.out wz (HUP.out _ hSw); go_simp
       try simp only [Act.put, List.setIfInBounds_toArray, List.set_cons_zero, List.set_cons_succ]
       refine takeC (i := 23) (v := .agg #[.slice ja J.length jc, .slice ca C.length cc]) (some 80) rfl rfl (by kernel_rfl) (by kernel_rfl) (by kernel_rfl) (fun _ _ _ h => h) (Or.inl ⟨by rfl, ?_⟩) (by assumption) ?_
       · intro wz hSw; obtain ⟨⟨t0, t1⟩, y0, y1⟩ := HXC.out wz (HUP.out _ hSw); go_simp
       try simp only [Act.put, List.setIfInBounds_toArray, List.set_cons_zero, List.set_cons_succ]
       refine takeC (i := 25) (v := .agg #[.slice ia I.length ic, .slice ga A.length gc]) (some 82) rfl rfl (by kernel_rfl) (by kernel_rfl) (by kernel_rfl) (fun _ _ _ h => h) (Or.inl ⟨by rfl, ?_⟩) (by assumption) ?_
       · intro wz hSw; obtain ⟨⟨t0, t1⟩, y0, y1⟩ := HXC.out wz (HUP.out _ hSw); go_simp
       try simp only [Act.put, List.setIfInBounds_toArray, List.set_cons_zero, List.set_cons_succ]
       refine takeC (i := 26) (v := .agg #[.slice ja J.length jc, .slice ca C.length cc]) (some 83) rfl rfl (by kernel_rfl) (by kernel_rfl) (by kernel_rfl) (fun _ _ _ h => h) (Or.inl ⟨by rfl, ?_⟩) (by assumption) ?_
       · intro wz hSw; obtain ⟨⟨t0, t1⟩, y0, y1⟩ := HXC.out wz (HUP.out _ hSw); go_simp
       try simp only [Act.put, List.setIfInBounds_toArray, List.set_cons_zero, List.set_cons_succ]
       refine wpAnyH_ready (rs := [24]) (by kernel_rfl) (by simp) ?_
       refine AllReadyH.cons rfl (fun K hK => ?_) AllReadyH.nil
       go_simp
       go_wp2_with (go_at_call 31; refine (HS1.out x6 (HUP.out _ h6d)).mono ?_; rintro e x7 ⟨rfl, hb⟩)
       have h7d : Below w7.heap.size w7 x7 := h6d.trans (hb.mono h6d.size)
       refine hK.out _ _ h7d (fun hS => ?_)
       clear hK K hb hS
       try simp only [Act.put, List.setIfInBounds_toArray, List.set_cons_zero, List.set_cons_succ]
       refine wpAnyH_ready (rs := [27]) (by kernel_rfl) (by simp) ?_
       refine AllReadyH.cons rfl (fun K hK => ?_) AllReadyH.nil
       go_simp
       go_wp2_with (go_at_call 32; refine (HS2.out x7 (HUP.out _ h7d)).mono ?_; rintro e x8 ⟨rfl, hb⟩)
       have h8d : Below w7.heap.size w7 x8 := h7d.trans (hb.mono h7d.size)
       refine hK.out _ _ h8d (fun hS => ?_)
       clear hK K hb hS
       try simp only [Act.put, List.setIfInBounds_toArray, List.set_cons_zero, List.set_cons_succ]
       refine takeC (i := 28) (v := .bool true) (some 85) rfl rfl (by kernel_rfl) (by kernel_rfl) (by kernel_rfl) (fun _ _ _ h => h) (Or.inl ⟨by rfl, ?_⟩) (by assumption) ?_
       · intro wz hSw; go_simp
       try simp only [Act.put, List.setIfInBounds_toArray, List.set_cons_zero, List.set_cons_succ]
       refine takeC (i := 29) (v := .bool true) (some 86) rfl rfl (by kernel_rfl) (by kernel_rfl) (by kernel_rfl) (fun _ _ _ h => h) (Or.inl ⟨by rfl, ?_⟩) (by assumption) ?_
       · intro wz hSw; go_simp
       try simp only [Act.put, List.setIfInBounds_toArray, List.set_cons_zero, List.set_cons_succ]
       refine takeC (i := 30) (v := .bool true) (some 87) rfl rfl (by kernel_rfl) (by kernel_rfl) (by kernel_rfl) (fun _ _ _ h => h) (Or.inl ⟨by rfl, ?_⟩) (by assumption) ?_
       · intro wz hSw; go_simp
       try simp only [Act.put, List.setIfInBounds_toArray, List.set_cons_zero, List.set_cons_succ]
       refine takeC (i := 31) (v := .agg #[.slice ia I.length ic, .slice ga A.length gc]) (some 88) rfl rfl (by kernel_rfl) (by kernel_rfl) (by kernel_rfl) (fun _ _ _ h => h) (Or.inl ⟨by rfl, ?_⟩) (by assumption) ?_
       · intro wz hSw; obtain ⟨⟨t0, t1⟩, y0, y1⟩ := HXC.out wz (HUP.out _ hSw); go_simp
       try simp only [Act.put, List.setIfInBounds_toArray, List.set_cons_zero, List.set_cons_succ]
       refine takeC (i := 32) (v := .agg #[.slice ia I.length ic, .slice ga A.length gc]) (some 89) rfl rfl (by kernel_rfl) (by kernel_rfl) (by kernel_rfl) (fun _ _ _ h => h) (Or.inl ⟨by rfl, ?_⟩) (by assumption) ?_
       · intro wz hSw; obtain ⟨⟨t0, t1⟩, y0, y1⟩ := HXC.out wz (HUP.out _ hSw); go_simp
       try simp only [Act.put, List.setIfInBounds_toArray, List.set_cons_zero, List.set_cons_succ]
       refine wpAnyH_ready (rs := [33]) (by kernel_rfl) (by simp) ?_
       refine AllReadyH.cons rfl (fun K hK => ?_) AllReadyH.nil
       go_simp
       go_wp2_with (go_at_call 31; refine (HS3.out x8 (HUP.out _ h8d)).mono ?_; rintro e x9 ⟨rfl, hb⟩)
       have h9d : Below w7.heap.size w7 x9 := h8d.trans (hb.mono h8d.size)
       refine hK.out _ _ h9d (fun hS => ?_)
       clear hK K hb hS
       try simp only [Act.put, List.setIfInBounds_toArray, List.set_cons_zero, List.set_cons_succ]
       refine takeC (i := 34) (v := .bool true) (some 91) rfl rfl (by kernel_rfl) (by kernel_rfl) (by kernel_rfl) (fun _ _ _ h => h) (Or.inl ⟨by rfl, ?_⟩) (by assumption) ?_
       · intro wz hSw; go_simp
       try simp only [Act.put, List.setIfInBounds_toArray, List.set_cons_zero, List.set_cons_succ]
       refine takeC (i := 35) (v := .bool true) (some 16) rfl rfl (by kernel_rfl) (by kernel_rfl) (by kernel_rfl) (fun _ _ _ h => h) (Or.inl ⟨by rfl, ?_⟩) (by assumption) ?_
       · intro wz hSw; go_simp
       try simp only [Act.put, List.setIfInBounds_toArray, List.set_cons_zero, List.set_cons_succ]
       refine wpAnyH_done (by kernel_rfl) ?_ _
       have HBZ := Lib.hid (HUP.out _ h9d)
       have HI9 := Lib.hid (HUI.out _ h9d)
       go_wp2_with (first
         | (go_at_call 20; refine (works6_any _).mono ?_; rintro e x11 ⟨rfl, hb12⟩; have HB11 := Lib.hid (HB10.out.trans (hb12.mono HB10.out.size)))
         | (go_at_call 33; refine (H9.out v4 v5 x9 HI9.out.1 HI9.out.2).mono ?_; rintro e x10 ⟨rfl, hb11⟩; have HB10 := Lib.hid (HBZ.out.trans (hb11.mono HBZ.out.size))))
       go_ret
       exact ⟨rfl, HB0.out.trans (HB11.out.mono HB0.out.size)⟩
     · have d2 : decide ((0 : Int) < (l.length : Int)) = false := decide_eq_false (by omega)
       have d3 : decide (0 < l.length) = false := decide_eq_false c0
       go_enter Tryz.func3, Tryz.ntmps3
       go_upto_region 1 with fail
       rw [HW0.out]
       have HXB : Hid (-9223372036854775808 ≤ (0 : Int) ∧ (0 : Int) ≤ 9223372036854775807) := ⟨by decide, by decide⟩
       have HX : Hid (-9223372036854775808 ≤ (0 : Int) ∧ (0 : Int) ≤ 9223372036854775807) := HXB.out
       have H2 : Hid (∀ X, Below W0.heap.size W0 X → Calls Tryz.prog 21 #[.agg #[.slice ia I.length ic, .slice ga A.length gc], .int .i64 (0 : Int)] X fun e w' => ∃ v, e = .returned (.tuple #[v, .int .i64 (supportA I A (0 : Int)).2]) ∧ Own w' X.heap.size v (supportA I A (0 : Int)).1 ∧ Below X.heap.size X w') := fun X hX => gsupport_any _ _ I A (0 : Int) X (HUPG.out X hX).1 (HUPG.out X hX).2.1 h1 h2 HX.out.1 HX.out.2
       have H3 : Hid (∀ X, Below W0.heap.size W0 X → Calls Tryz.prog 22 #[.agg #[.slice ia I.length ic, .slice ga A.length gc], .int .i64 (0 : Int)] X fun e w' => ∃ v, e = .returned (.tuple #[v, .int .i64 (supportA I A (0 : Int)).2]) ∧ Own w' X.heap.size v (supportA I A (0 : Int)).1 ∧ Below X.heap.size X w') := fun X hX => rsupport6_any _ _ I A (0 : Int) X (HUPG.out X hX).1 (HUPG.out X hX).2.1 h1 h2 HX.out.1 HX.out.2
       have HH : Hid (∀ X, Below W0.heap.size W0 X → Calls Tryz.prog 29 #[.agg #[.slice ia I.length ic, .slice ga A.length gc], .int .i64 (0 : Int)] X fun e w' => e = .returned (.bool (hasA I A [(0 : Int)])) ∧ Below X.heap.size X w') := fun X hX => gHas_any _ _ I A (0 : Int) X (HUPG.out X hX).1 (HUPG.out X hX).2.1 h1 h2 HX.out.1 HX.out.2
       have HR : Hid (∀ X, Below W0.heap.size W0 X → Calls Tryz.prog 30 #[.agg #[.slice ia I.length ic, .slice ga A.length gc], .int .i64 (0 : Int)] X fun e w' => e = .returned (.bool (hasA I A [(0 : Int)])) ∧ Below X.heap.size X w') := fun X hX => rHas6_any _ _ I A (0 : Int) X (HUPG.out X hX).1 (HUPG.out X hX).2.1 h1 h2
       have HSB := Lib.hid (supA_bd (A := A) (0 : Int) HI64.out)
       have HIL : Hid (I.length ≤ 4000000) := h1
       generalize (supportA I A (0 : Int)).1 = L at *
       generalize (supportA I A (0 : Int)).2 = r3 at *
       generalize hasA I A [(0 : Int)] = mh at *
       have H9 : Hid (∀ (v u : Value) (X : World), IsInts X v L → IsInts X u L → Calls Tryz.prog 33 #[v, u] X fun e w' => e = .returned (.bool true) ∧ Below X.heap.size X w') := fun v u X h1 h2 => (ints5_any v u L L X h1 h2).mono (by
         rintro e w' ⟨rfl, h3⟩
         exact ⟨by simp [sameB], h3.below _⟩)
       go_upto_region 10 with (first
         | (go_at_call 24; go_loud (refine (H8.out w6 HB6.out).mono ?_; rintro e w7 ⟨rfl, hb7⟩; have HB7 := Lib.hid (HB6.out.trans (hb7.mono HB6.out.size)); have HI47 := Lib.hid (HI46.out.below hb7 (Nat.le_refl _)); have HI57 := Lib.hid (HI56.out.below hb7 (Nat.le_refl _)); clear hb7 p0 p1 q0 q1))
         | (go_at_call 23; go_loud (refine (H7.out w5 HB5.out).mono ?_; rintro e w6 ⟨rfl, hb6⟩; have HB6 := Lib.hid (HB5.out.trans (hb6.mono HB5.out.size)); have HI46 := Lib.hid (HI45.out.below hb6 (Nat.le_refl _)); have HI56 := Lib.hid (HI5.out.below hb6 (Nat.le_refl _)); clear hb6 p0 p1 q0 q1; obtain ⟨⟨p0, p1⟩, q0, q1⟩ := HXC.out w6 HB6.out))
         | (go_at_call 22; go_loud (refine (H3.out w4 HB4.out).mono ?_; rintro e w5 ⟨v5, rfl, ho5, hb5⟩; have HB5 := Lib.hid (HB4.out.trans (hb5.mono HB4.out.size)); have HI5 := Lib.hid (ho5.ints (by have := HSB.out.1; have := HIL.out; omega) HSB.out.2); have HI45 := Lib.hid (HI4.out.below hb5 (Nat.le_refl _)); clear hb5 ho5 p0 p1 q0 q1; obtain ⟨⟨p0, p1⟩, q0, q1⟩ := HXC.out w5 HB5.out))
         | (go_at_call 21; go_loud (refine (H2.out w1 HB1.out).mono ?_; rintro e w4 ⟨v4, rfl, ho4, hb4⟩; have HB4 := Lib.hid (HB1.out.trans (hb4.mono HB1.out.size)); have HI4 := Lib.hid (ho4.ints (by have := HSB.out.1; have := HIL.out; omega) HSB.out.2); clear hb4 ho4 p0 p1 q0 q1; obtain ⟨⟨p0, p1⟩, q0, q1⟩ := HXC.out w4 HB4.out))
         | (go_at_call 19; refine H1.out.mono ?_; rintro e w1 ⟨rfl, hb1⟩; have HB1 := Lib.hid hb1; clear hb1 p0 p1 q0 q1; obtain ⟨⟨p0, p1⟩, q0, q1⟩ := HXC.out w1 HB1.out))
       have HUI : Hid (∀ X, Below w7.heap.size w7 X → IsInts X v4 L ∧ IsInts X v5 L) := fun X hX => ⟨HI47.out.below hX (Nat.le_refl _), HI57.out.below hX (Nat.le_refl _)⟩
       have HUP : Hid (∀ X, Below w7.heap.size w7 X → Below W0.heap.size W0 X) := fun X hX => HB7.out.trans (hX.mono HB7.out.size)
       refine wp_region_held_drew (S := fun X => Below w7.heap.size w7 X) (by kernel_rfl) (Below.refl _ _).drew (fun hSd => ?_)
       have hb5d : Below w7.heap.size w7 w7.drew := (Below.refl _ _).drew
       generalize w7.drew = x0 at *
       have h0d := hb5d
       refine takeC (i := 0) (v := .agg #[.slice ia I.length ic, .slice ga A.length gc]) (some 57) rfl rfl (by kernel_rfl) (by kernel_rfl) (by kernel_rfl) (fun _ _ _ h => h) (Or.inl ⟨by rfl, ?_⟩) (by assumption) ?_
       · intro wz hSw; obtain ⟨⟨t0, t1⟩, y0, y1⟩ := HXC.out wz (HUP.out _ hSw); go_simp
       try simp only [Act.put, List.setIfInBounds_toArray, List.set_cons_zero, List.set_cons_succ]
       refine takeC (i := 2) (v := .agg #[.slice ia I.length ic, .slice ga A.length gc]) (some 59) rfl rfl (by kernel_rfl) (by kernel_rfl) (by kernel_rfl) (fun _ _ _ h => h) (Or.inl ⟨by rfl, ?_⟩) (by assumption) ?_
       · intro wz hSw; obtain ⟨⟨t0, t1⟩, y0, y1⟩ := HXC.out wz (HUP.out _ hSw); go_simp
       try simp only [Act.put, List.setIfInBounds_toArray, List.set_cons_zero, List.set_cons_succ]
       refine wpAnyH_ready (rs := [1]) (by kernel_rfl) (by simp) ?_
       refine AllReadyH.cons rfl (fun K hK => ?_) AllReadyH.nil
       go_simp
       go_wp2_with (go_at_call 25; refine (HM1.out x0 (HUP.out _ h0d)).mono ?_; rintro e x1 ⟨rfl, hb⟩)
       have h1d : Below w7.heap.size w7 x1 := h0d.trans (hb.mono h0d.size)
       refine hK.out _ _ h1d (fun hS => ?_)
       clear hK K hb hS
       try simp only [Act.put, List.setIfInBounds_toArray, List.set_cons_zero, List.set_cons_succ]
       refine wpAnyH_ready (rs := [3]) (by kernel_rfl) (by simp) ?_
       refine AllReadyH.cons rfl (fun K hK => ?_) AllReadyH.nil
       go_simp
       go_wp2_with (go_at_call 26; refine (HM2.out x1 (HUP.out _ h1d)).mono ?_; rintro e x2 ⟨rfl, hb⟩)
       have h2d : Below w7.heap.size w7 x2 := h1d.trans (hb.mono h1d.size)
       refine hK.out _ _ h2d (fun hS => ?_)
       clear hK K hb hS
       try simp only [Act.put, List.setIfInBounds_toArray, List.set_cons_zero, List.set_cons_succ]
       refine takeC (i := 4) (v := .bool true) (some 61) rfl rfl (by kernel_rfl) (by kernel_rfl) (by kernel_rfl) (fun _ _ _ h => h) (Or.inl ⟨by rfl, ?_⟩) (by assumption) ?_
       · intro wz hSw; go_simp
       try simp only [Act.put, List.setIfInBounds_toArray, List.set_cons_zero, List.set_cons_succ]
       refine takeC (i := 5) (v := .bool true) (some 62) rfl rfl (by kernel_rfl) (by kernel_rfl) (by kernel_rfl) (fun _ _ _ h => h) (Or.inl ⟨by rfl, ?_⟩) (by assumption) ?_
       · intro wz hSw; go_simp
       try simp only [Act.put, List.setIfInBounds_toArray, List.set_cons_zero, List.set_cons_succ]
       refine takeC (i := 6) (v := .agg #[.slice ia I.length ic, .slice ga A.length gc]) (some 63) rfl rfl (by kernel_rfl) (by kernel_rfl) (by kernel_rfl) (fun _ _ _ h => h) (Or.inl ⟨by rfl, ?_⟩) (by assumption) ?_
       · intro wz hSw; obtain ⟨⟨t0, t1⟩, y0, y1⟩ := HXC.out wz (HUP.out _ hSw); go_simp
       try simp only [Act.put, List.setIfInBounds_toArray, List.set_cons_zero, List.set_cons_succ]
       refine takeC (i := 8) (v := .agg #[.slice ia I.length ic, .slice ga A.length gc]) (some 65) rfl rfl (by kernel_rfl) (by kernel_rfl) (by kernel_rfl) (fun _ _ _ h => h) (Or.inl ⟨by rfl, ?_⟩) (by assumption) ?_
       · intro wz hSw; obtain ⟨⟨t0, t1⟩, y0, y1⟩ := HXC.out wz (HUP.out _ hSw); go_simp
       try simp only [Act.put, List.setIfInBounds_toArray, List.set_cons_zero, List.set_cons_succ]
       refine wpAnyH_ready (rs := [7]) (by kernel_rfl) (by simp) ?_
       refine AllReadyH.cons rfl (fun K hK => ?_) AllReadyH.nil
       go_simp
       go_wp2_with (go_at_call 27; refine (HR1.out x2 (HUP.out _ h2d)).mono ?_; rintro e x3 ⟨rfl, hb⟩)
       have h3d : Below w7.heap.size w7 x3 := h2d.trans (hb.mono h2d.size)
       refine hK.out _ _ h3d (fun hS => ?_)
       clear hK K hb hS
       try simp only [Act.put, List.setIfInBounds_toArray, List.set_cons_zero, List.set_cons_succ]
       refine wpAnyH_ready (rs := [9]) (by kernel_rfl) (by simp) ?_
       refine AllReadyH.cons rfl (fun K hK => ?_) AllReadyH.nil
       go_simp
       go_wp2_with (go_at_call 28; refine (HR2.out x3 (HUP.out _ h3d)).mono ?_; rintro e x4 ⟨rfl, hb⟩)
       have h4d : Below w7.heap.size w7 x4 := h3d.trans (hb.mono h3d.size)
       refine hK.out _ _ h4d (fun hS => ?_)
       clear hK K hb hS
       try simp only [Act.put, List.setIfInBounds_toArray, List.set_cons_zero, List.set_cons_succ]
       refine takeC (i := 10) (v := .bool true) (some 67) rfl rfl (by kernel_rfl) (by kernel_rfl) (by kernel_rfl) (fun _ _ _ h => h) (Or.inl ⟨by rfl, ?_⟩) (by assumption) ?_
       · intro wz hSw; go_simp
       try simp only [Act.put, List.setIfInBounds_toArray, List.set_cons_zero, List.set_cons_succ]
       refine takeC (i := 11) (v := .bool true) (some 68) rfl rfl (by kernel_rfl) (by kernel_rfl) (by kernel_rfl) (fun _ _ _ h => h) (Or.inl ⟨by rfl, ?_⟩) (by assumption) ?_
       · intro wz hSw; go_simp
       try simp only [Act.put, List.setIfInBounds_toArray, List.set_cons_zero, List.set_cons_succ]
       refine takeC (i := 12) (v := .bool true) (some 69) rfl rfl (by kernel_rfl) (by kernel_rfl) (by kernel_rfl) (fun _ _ _ h => h) (Or.inl ⟨by rfl, ?_⟩) (by assumption) ?_
       · intro wz hSw; go_simp
       try simp only [Act.put, List.setIfInBounds_toArray, List.set_cons_zero, List.set_cons_succ]
       refine takeC (i := 13) (v := .agg #[.slice ia I.length ic, .slice ga A.length gc]) (some 70) rfl rfl (by kernel_rfl) (by kernel_rfl) (by kernel_rfl) (fun _ _ _ h => h) (Or.inl ⟨by rfl, ?_⟩) (by assumption) ?_
       · intro wz hSw; obtain ⟨⟨t0, t1⟩, y0, y1⟩ := HXC.out wz (HUP.out _ hSw); go_simp
       try simp only [Act.put, List.setIfInBounds_toArray, List.set_cons_zero, List.set_cons_succ]
       refine takeC (i := 14) (v := .int .i64 (0 : Int)) (some 71) rfl rfl (by kernel_rfl) (by kernel_rfl) (by kernel_rfl) (fun _ _ _ h => h) (Or.inl ⟨by rfl, ?_⟩) (by assumption) ?_
       · intro wz hSw; go_simp
       try simp only [Act.put, List.setIfInBounds_toArray, List.set_cons_zero, List.set_cons_succ]
       refine takeC (i := 16) (v := .agg #[.slice ia I.length ic, .slice ga A.length gc]) (some 73) rfl rfl (by kernel_rfl) (by kernel_rfl) (by kernel_rfl) (fun _ _ _ h => h) (Or.inl ⟨by rfl, ?_⟩) (by assumption) ?_
       · intro wz hSw; obtain ⟨⟨t0, t1⟩, y0, y1⟩ := HXC.out wz (HUP.out _ hSw); go_simp
       try simp only [Act.put, List.setIfInBounds_toArray, List.set_cons_zero, List.set_cons_succ]
       refine takeC (i := 17) (v := .int .i64 (0 : Int)) (some 74) rfl rfl (by kernel_rfl) (by kernel_rfl) (by kernel_rfl) (fun _ _ _ h => h) (Or.inl ⟨by rfl, ?_⟩) (by assumption) ?_
       · intro wz hSw; go_simp
       try simp only [Act.put, List.setIfInBounds_toArray, List.set_cons_zero, List.set_cons_succ]
       refine wpAnyH_ready (rs := [15]) (by kernel_rfl) (by simp) ?_
       refine AllReadyH.cons rfl (fun K hK => ?_) AllReadyH.nil
       go_simp
       go_wp2_with (go_at_call 29; refine (HH.out x4 (HUP.out _ h4d)).mono ?_; rintro e x5 ⟨rfl, hb⟩)
       have h5d : Below w7.heap.size w7 x5 := h4d.trans (hb.mono h4d.size)
       refine hK.out _ _ h5d (fun hS => ?_)
       clear hK K hb hS
       try simp only [Act.put, List.setIfInBounds_toArray, List.set_cons_zero, List.set_cons_succ]
       refine wpAnyH_ready (rs := [18]) (by kernel_rfl) (by simp) ?_
       refine AllReadyH.cons rfl (fun K hK => ?_) AllReadyH.nil
       go_simp
       go_wp2_with (go_at_call 30; refine (HR.out x5 (HUP.out _ h5d)).mono ?_; rintro e x6 ⟨rfl, hb⟩)
       have h6d : Below w7.heap.size w7 x6 := h5d.trans (hb.mono h5d.size)
       refine hK.out _ _ h6d (fun hS => ?_)
       clear hK K hb hS
       try simp only [Act.put, List.setIfInBounds_toArray, List.set_cons_zero, List.set_cons_succ]
       refine takeC (i := 19) (v := .bool true) (some 76) rfl rfl (by kernel_rfl) (by kernel_rfl) (by kernel_rfl) (fun _ _ _ h => h) (Or.inl ⟨by rfl, ?_⟩) (by assumption) ?_
       · intro wz hSw; go_simp
       try simp only [Act.put, List.setIfInBounds_toArray, List.set_cons_zero, List.set_cons_succ]
       refine takeC (i := 20) (v := .bool true) (some 77) rfl rfl (by kernel_rfl) (by kernel_rfl) (by kernel_rfl) (fun _ _ _ h => h) (Or.inl ⟨by rfl, ?_⟩) (by assumption) ?_
       · intro wz hSw; go_simp
       try simp only [Act.put, List.setIfInBounds_toArray, List.set_cons_zero, List.set_cons_succ]
       refine takeC (i := 21) (v := .bool true) (some 78) rfl rfl (by kernel_rfl) (by kernel_rfl) (by kernel_rfl) (fun _ _ _ h => h) (Or.inl ⟨by rfl, ?_⟩) (by assumption) ?_
       · intro wz hSw; go_simp
       try simp only [Act.put, List.setIfInBounds_toArray, List.set_cons_zero, List.set_cons_succ]
       refine takeC (i := 22) (v := .agg #[.slice ia I.length ic, .slice ga A.length gc]) (some 79) rfl rfl (by kernel_rfl) (by kernel_rfl) (by kernel_rfl) (fun _ _ _ h => h) (Or.inl ⟨by rfl, ?_⟩) (by assumption) ?_
       · intro wz hSw; obtain ⟨⟨t0, t1⟩, y0, y1⟩ := HXC.out wz (HUP.out _ hSw); go_simp
       try simp only [Act.put, List.setIfInBounds_toArray, List.set_cons_zero, List.set_cons_succ]
       refine takeC (i := 23) (v := .agg #[.slice ja J.length jc, .slice ca C.length cc]) (some 80) rfl rfl (by kernel_rfl) (by kernel_rfl) (by kernel_rfl) (fun _ _ _ h => h) (Or.inl ⟨by rfl, ?_⟩) (by assumption) ?_
       · intro wz hSw; obtain ⟨⟨t0, t1⟩, y0, y1⟩ := HXC.out wz (HUP.out _ hSw); go_simp
       try simp only [Act.put, List.setIfInBounds_toArray, List.set_cons_zero, List.set_cons_succ]
       refine takeC (i := 25) (v := .agg #[.slice ia I.length ic, .slice ga A.length gc]) (some 82) rfl rfl (by kernel_rfl) (by kernel_rfl) (by kernel_rfl) (fun _ _ _ h => h) (Or.inl ⟨by rfl, ?_⟩) (by assumption) ?_
       · intro wz hSw; obtain ⟨⟨t0, t1⟩, y0, y1⟩ := HXC.out wz (HUP.out _ hSw); go_simp
       try simp only [Act.put, List.setIfInBounds_toArray, List.set_cons_zero, List.set_cons_succ]
       refine takeC (i := 26) (v := .agg #[.slice ja J.length jc, .slice ca C.length cc]) (some 83) rfl rfl (by kernel_rfl) (by kernel_rfl) (by kernel_rfl) (fun _ _ _ h => h) (Or.inl ⟨by rfl, ?_⟩) (by assumption) ?_
       · intro wz hSw; obtain ⟨⟨t0, t1⟩, y0, y1⟩ := HXC.out wz (HUP.out _ hSw); go_simp
       try simp only [Act.put, List.setIfInBounds_toArray, List.set_cons_zero, List.set_cons_succ]
       refine wpAnyH_ready (rs := [24]) (by kernel_rfl) (by simp) ?_
       refine AllReadyH.cons rfl (fun K hK => ?_) AllReadyH.nil
       go_simp
       go_wp2_with (go_at_call 31; refine (HS1.out x6 (HUP.out _ h6d)).mono ?_; rintro e x7 ⟨rfl, hb⟩)
       have h7d : Below w7.heap.size w7 x7 := h6d.trans (hb.mono h6d.size)
       refine hK.out _ _ h7d (fun hS => ?_)
       clear hK K hb hS
       try simp only [Act.put, List.setIfInBounds_toArray, List.set_cons_zero, List.set_cons_succ]
       refine wpAnyH_ready (rs := [27]) (by kernel_rfl) (by simp) ?_
       refine AllReadyH.cons rfl (fun K hK => ?_) AllReadyH.nil
       go_simp
       go_wp2_with (go_at_call 32; refine (HS2.out x7 (HUP.out _ h7d)).mono ?_; rintro e x8 ⟨rfl, hb⟩)
       have h8d : Below w7.heap.size w7 x8 := h7d.trans (hb.mono h7d.size)
       refine hK.out _ _ h8d (fun hS => ?_)
       clear hK K hb hS
       try simp only [Act.put, List.setIfInBounds_toArray, List.set_cons_zero, List.set_cons_succ]
       refine takeC (i := 28) (v := .bool true) (some 85) rfl rfl (by kernel_rfl) (by kernel_rfl) (by kernel_rfl) (fun _ _ _ h => h) (Or.inl ⟨by rfl, ?_⟩) (by assumption) ?_
       · intro wz hSw; go_simp
       try simp only [Act.put, List.setIfInBounds_toArray, List.set_cons_zero, List.set_cons_succ]
       refine takeC (i := 29) (v := .bool true) (some 86) rfl rfl (by kernel_rfl) (by kernel_rfl) (by kernel_rfl) (fun _ _ _ h => h) (Or.inl ⟨by rfl, ?_⟩) (by assumption) ?_
       · intro wz hSw; go_simp
       try simp only [Act.put, List.setIfInBounds_toArray, List.set_cons_zero, List.set_cons_succ]
       refine takeC (i := 30) (v := .bool true) (some 87) rfl rfl (by kernel_rfl) (by kernel_rfl) (by kernel_rfl) (fun _ _ _ h => h) (Or.inl ⟨by rfl, ?_⟩) (by assumption) ?_
       · intro wz hSw; go_simp
       try simp only [Act.put, List.setIfInBounds_toArray, List.set_cons_zero, List.set_cons_succ]
       refine takeC (i := 31) (v := .agg #[.slice ia I.length ic, .slice ga A.length gc]) (some 88) rfl rfl (by kernel_rfl) (by kernel_rfl) (by kernel_rfl) (fun _ _ _ h => h) (Or.inl ⟨by rfl, ?_⟩) (by assumption) ?_
       · intro wz hSw; obtain ⟨⟨t0, t1⟩, y0, y1⟩ := HXC.out wz (HUP.out _ hSw); go_simp
       try simp only [Act.put, List.setIfInBounds_toArray, List.set_cons_zero, List.set_cons_succ]
       refine takeC (i := 32) (v := .agg #[.slice ia I.length ic, .slice ga A.length gc]) (some 89) rfl rfl (by kernel_rfl) (by kernel_rfl) (by kernel_rfl) (fun _ _ _ h => h) (Or.inl ⟨by rfl, ?_⟩) (by assumption) ?_
       · intro wz hSw; obtain ⟨⟨t0, t1⟩, y0, y1⟩ := HXC.out wz (HUP.out _ hSw); go_simp
       try simp only [Act.put, List.setIfInBounds_toArray, List.set_cons_zero, List.set_cons_succ]
       refine wpAnyH_ready (rs := [33]) (by kernel_rfl) (by simp) ?_
       refine AllReadyH.cons rfl (fun K hK => ?_) AllReadyH.nil
       go_simp
       go_wp2_with (go_at_call 31; refine (HS3.out x8 (HUP.out _ h8d)).mono ?_; rintro e x9 ⟨rfl, hb⟩)
       have h9d : Below w7.heap.size w7 x9 := h8d.trans (hb.mono h8d.size)
       refine hK.out _ _ h9d (fun hS => ?_)
       clear hK K hb hS
       try simp only [Act.put, List.setIfInBounds_toArray, List.set_cons_zero, List.set_cons_succ]
       refine takeC (i := 34) (v := .bool true) (some 91) rfl rfl (by kernel_rfl) (by kernel_rfl) (by kernel_rfl) (fun _ _ _ h => h) (Or.inl ⟨by rfl, ?_⟩) (by assumption) ?_
       · intro wz hSw; go_simp
       try simp only [Act.put, List.setIfInBounds_toArray, List.set_cons_zero, List.set_cons_succ]
       refine takeC (i := 35) (v := .bool true) (some 16) rfl rfl (by kernel_rfl) (by kernel_rfl) (by kernel_rfl) (fun _ _ _ h => h) (Or.inl ⟨by rfl, ?_⟩) (by assumption) ?_
       · intro wz hSw; go_simp
       try simp only [Act.put, List.setIfInBounds_toArray, List.set_cons_zero, List.set_cons_succ]
       refine wpAnyH_done (by kernel_rfl) ?_ _
       have HBZ := Lib.hid (HUP.out _ h9d)
       have HI9 := Lib.hid (HUI.out _ h9d)
       go_wp2_with (first
         | (go_at_call 20; refine (works6_any _).mono ?_; rintro e x11 ⟨rfl, hb12⟩; have HB11 := Lib.hid (HB10.out.trans (hb12.mono HB10.out.size)))
         | (go_at_call 33; refine (H9.out v4 v5 x9 HI9.out.1 HI9.out.2).mono ?_; rintro e x10 ⟨rfl, hb11⟩; have HB10 := Lib.hid (HBZ.out.trans (hb11.mono HBZ.out.size))))
       go_ret
       exact ⟨rfl, HB0.out.trans (HB11.out.mono HB0.out.size)⟩
end Go.Proofs.YtffdffnjbdmioaaGreat
