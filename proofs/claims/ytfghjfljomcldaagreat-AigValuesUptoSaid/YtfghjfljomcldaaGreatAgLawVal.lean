/- The law AigValues, walked. -/
import Derived.Test.YtfghjfljomcldaaGreatAgWorks
import Derived.Test.YtfghjfljomcldaaGreatA13
import Derived.Test.YtfghjfljomcldaaGreatA19
import Derived.Test.YtfghjfljomcldaaGreatA18
import Derived.Test.YtfghjfljomcldaaGreatAgEval
namespace Go.Proofs.YtfghjfljomcldaaGreat
open Go.RowKit Go.Maps Go.Shelf
set_option linter.unusedVariables false
set_option linter.unusedSimpArgs false

theorem great_one6v (vi va : Value) (I : List Int) (A : List Pr) (X : World) (HI : IsInts X vi I) (HA : IsPairs X va A) (h1 : I.length ≤ 4000000) (h2 : A.length ≤ 4000000) :
    Calls Tryz.prog 12 #[.slice (some ⟨X.heap.size, 0, none⟩) 1 1] (X.alloc (.cells #[vi, va] 25)) fun e w' => e = .returned (.bool (manyA I A)) ∧ Below X.heap.size X w' := by
  have hb := below_alloc1 X (.cells #[vi, va] 25)
  refine (great6_any [(vi, va, I, A)] X.heap.size _ (by simp) (by simp) (fun j hj => ?_)).mono ?_
  · match j, hj with
    | 0, _ => exact ⟨cell_fresh rfl, cell_fresh rfl, HI.below hb (Nat.le_refl _), HA.below hb (Nat.le_refl _), h1, h2⟩
    | j + 1, hj => simp at hj
  · rintro e w' ⟨rfl, h2⟩
    exact ⟨by simp, hb.trans (h2.mono (by simp))⟩
theorem tabR_len (I : List Int) (A : List Pr) (x : Int) (a : List Int) : (tabR I A x a).1.length ≤ 65536 := by
  unfold tabR
  split
  · split
    · exact Nat.zero_le _
    · rw [List.length_map, List.length_range]
      rename_i hq
      have h16 : a.length ≤ 16 := Nat.le_of_not_lt hq
      exact Nat.le_trans (Nat.pow_le_pow_right (show 0 < 2 by decide) h16) (by decide)
  · exact Nat.zero_le _
theorem revC_eq (I : List Int) (A : List Pr) (x : Int) (a : List Int) : revC I A x a = evalC I A x a := rfl

set_option maxRecDepth 100000 in
set_option maxHeartbeats 6400000 in
theorem aigvalues_any (vi va vl vv : Value) (I : List Int) (A : List Pr) (x : Int) (l vars : List Int) (w : World) (HI : IsInts w vi I) (HA : IsPairs w va A) (HL : IsInts w vl l) (HV : IsInts w vv vars) (h1 : I.length ≤ 4000000) (h2 : A.length ≤ 4000000) (h3 : -9223372036854775808 ≤ x) (h4 : x ≤ 9223372036854775807) (h5 : l.length ≤ 4000000) (h6 : vars.length ≤ 4000000) :
    Calls Tryz.prog 4 #[.agg #[vi, va], .int .i64 x, vl, vv] w fun e w' => e = .returned (.bool true) ∧ Below w.heap.size w w' := by
  obtain ⟨ia, ic, rfl⟩ := HI.shape
  obtain ⟨ga, gc, rfl, _⟩ := HA.shape
  obtain ⟨la, lc, rfl⟩ := HL.shape
  obtain ⟨ka, kc, rfl⟩ := HV.shape
  have hb0 := below_alloc1 w (.cells #[.slice ia I.length ic, .slice ga A.length gc] 25)
  have hbx := boxA_new w (.slice ia I.length ic) (.slice ga A.length gc)
  obtain ⟨W0, hW0⟩ : ∃ W0, w.alloc (.cells #[.slice ia I.length ic, .slice ga A.length gc] 25) = W0 := ⟨_, rfl⟩
  have hz0 : W0.heap.size = w.heap.size + 1 := by rw [← hW0, World.size_alloc]
  rw [hW0] at hb0 hbx
  have HXC : Hid (∀ X, Below W0.heap.size W0 X → X.cell? ⟨w.heap.size, 0, none⟩ = some (.slice ia I.length ic) ∧ X.cell? ⟨w.heap.size, 1, none⟩ = some (.slice ga A.length gc)) := fun X hX => hbx.below hX (by rw [hz0]; omega)
  have HW0 : Hid (w.alloc (.cells #[.slice ia I.length ic, .slice ga A.length gc] 25) = W0) := hW0
  have HB0 := Lib.hid hb0
  have HUPG : Hid (∀ X, Below W0.heap.size W0 X → IsInts X (.slice ia I.length ic) I ∧ IsPairs X (.slice ga A.length gc) A ∧ IsInts X (.slice la l.length lc) l ∧ IsInts X (.slice ka vars.length kc) vars) := fun X hX => ⟨(HI.below hb0 (Nat.le_refl _)).below hX (Nat.le_refl _), (HA.below hb0 (Nat.le_refl _)).below hX (Nat.le_refl _), (HL.below hb0 (Nat.le_refl _)).below hX (Nat.le_refl _), (HV.below hb0 (Nat.le_refl _)).below hX (Nat.le_refl _)⟩
  have H1 : Hid (Calls Tryz.prog 12 #[.slice (some ⟨W0.heap.size, 0, none⟩) 1 1] (W0.alloc (.cells #[.slice ia I.length ic, .slice ga A.length gc] 25)) fun e w' => e = .returned (.bool (manyA I A)) ∧ Below W0.heap.size W0 w') := by
    have hu := HUPG.out W0 (Below.refl _ _)
    exact great_one6v _ _ I A W0 hu.1 hu.2.1 h1 h2
  have HEV : Hid (∀ X, Below W0.heap.size W0 X → Calls Tryz.prog 27 #[.agg #[.slice ia I.length ic, .slice ga A.length gc], .int .i64 x, .slice la l.length lc] X fun r w' => r = .returned (.tuple #[.bool (evalC I A x l).1, .int .i64 (evalC I A x l).2]) ∧ Below X.heap.size X w') := fun X hX => by
    have hu := HUPG.out X hX
    exact geval_any _ _ _ I A x l X hu.1 hu.2.1 hu.2.2.1 h1 h2 h3 h4
  have HRV : Hid (∀ X, Below W0.heap.size W0 X → Calls Tryz.prog 28 #[.agg #[.slice ia I.length ic, .slice ga A.length gc], .int .i64 x, .slice la l.length lc] X fun r w' => r = .returned (.tuple #[.bool (evalC I A x l).1, .int .i64 (evalC I A x l).2]) ∧ Below X.heap.size X w') := fun X hX => by
    have hu := HUPG.out X hX
    exact reval6_any _ _ _ I A x l X hu.1 hu.2.1 hu.2.2.1 h1 h2 h3 h4
  generalize evalC I A x l = ev at *
  obtain ⟨xb, xe⟩ := ev
  have HTB : Hid (∀ X V vV, Below W0.heap.size W0 X → V.length ≤ 4000000 → IsInts X vV V → Calls Tryz.prog 29 #[.agg #[.slice ia I.length ic, .slice ga A.length gc], .int .i64 x, vV] X (TabPost X (tabR I A x V))) := fun X V vV hX hV hv => by
    have hu := HUPG.out X hX
    exact gtable_any _ _ _ I A x V X hu.1 hu.2.1 hv h1 h2 hV h3 h4
  have HRT : Hid (∀ X V vV, Below W0.heap.size W0 X → V.length ≤ 4000000 → IsInts X vV V → Calls Tryz.prog 30 #[.agg #[.slice ia I.length ic, .slice ga A.length gc], .int .i64 x, vV] X (TabPost X (tabR I A x V))) := fun X V vV hX hV hv => by
    have hu := HUPG.out X hX
    exact rtable6_any _ _ _ I A x V X hu.1 hu.2.1 hv h1 h2 hV h3 h4
  have HTL := Lib.hid (fun V => tabR_len I A x V)
  obtain ⟨p0, p1⟩ := HXC.out W0 (Below.refl _ _)
  clear HI HA HL HV hb0 hbx hW0 hz0
  cases hm : manyA I A with
  | true =>
    rw [hm] at H1
    clear hm
    go_enter Tryz.func4, Tryz.ntmps4
    go_upto_region 1 with fail
    rw [HW0.out]
    go_wp2_with (first
      | (go_at_call 12; refine H1.out.mono ?_; rintro e w1 ⟨rfl, hb1⟩)
      | (go_at_call 13; refine (works6_any _).mono ?_; rintro e w2 ⟨rfl, hb2⟩))
    go_ret
    exact ⟨rfl, HB0.out.trans ((hb1.trans (hb2.mono hb1.size)).mono HB0.out.size)⟩
  | false =>
   rw [hm] at H1
   clear hm
   by_cases cl : 200 < l.length
   · have d1 : decide ((200 : Int) < (l.length : Int)) = true := decide_eq_true (by omega)
     generalize l.length = ln at *
     clear cl
     go_enter Tryz.func4, Tryz.ntmps4
     go_upto_region 1 with fail
     rw [HW0.out]
     go_wp2_with (first
       | (go_at_call 12; refine H1.out.mono ?_; rintro e w1 ⟨rfl, hb1⟩)
       | (go_at_call 13; refine (works6_any _).mono ?_; rintro e w2 ⟨rfl, hb2⟩))
     go_ret
     exact ⟨rfl, HB0.out.trans ((hb1.trans (hb2.mono hb1.size)).mono HB0.out.size)⟩
   · have d1 : decide ((200 : Int) < (l.length : Int)) = false := decide_eq_false (by omega)
     clear cl
     by_cases cv : 200 < vars.length
     · have d2 : decide ((200 : Int) < (vars.length : Int)) = true := decide_eq_true (by omega)
       generalize vars.length = ln at *
       clear cv
       go_enter Tryz.func4, Tryz.ntmps4
       go_upto_region 1 with fail
       rw [HW0.out]
       go_wp2_with (first
         | (go_at_call 12; refine H1.out.mono ?_; rintro e w1 ⟨rfl, hb1⟩)
         | (go_at_call 13; refine (works6_any _).mono ?_; rintro e w2 ⟨rfl, hb2⟩))
       go_ret
       exact ⟨rfl, HB0.out.trans ((hb1.trans (hb2.mono hb1.size)).mono HB0.out.size)⟩
     · have d2 : decide ((200 : Int) < (vars.length : Int)) = false := decide_eq_false (by omega)
       clear cv
       by_cases c8 : 8 < vars.length
       · have d3 : decide ((8 : Int) < (vars.length : Int)) = true := decide_eq_true (by omega)
         by_cases c16 : vars.length ≤ 16
         · have d4 : decide ((vars.length : Int) ≤ (16 : Int)) = true := decide_eq_true (by omega)
           have hv0 : 0 ≤ (vars.length : Int) := by omega
           obtain ⟨b1, off1, rfl, hb1, hx1⟩ := (HUPG.out W0 (Below.refl _ _)).2.2.2.cellY (k := 0) (by omega)
           have hcap : (8 : Int) ≤ (kc : Int) := by
             obtain ⟨a', cap', e, ⟨h1, h2⟩, _⟩ := (HUPG.out W0 (Below.refl _ _)).2.2.2
             injection e with e1 e2 e3
             omega
           have HVT : Hid (∀ X, Below W0.heap.size W0 X → IsInts X (.slice (some ⟨b1, off1, none⟩) 8 kc) (vars.take 8)) := fun X hX => (HUPG.out X hX).2.2.2.upto (j := 8) (by omega)
           have HVL : Hid ((vars.take 8).length ≤ 4000000) := by show _ ≤ _; rw [List.length_take]; omega
           clear hb1 hx1
           generalize vars.take 8 = V at *
           clear c8 c16
           go_enter Tryz.func4, Tryz.ntmps4
           go_upto_region 1 with fail
           rw [HW0.out]
           go_upto_region 3 with (go_at_call 12; refine H1.out.mono ?_; rintro e w1 ⟨rfl, hb1⟩; have HB1 := Lib.hid hb1; clear hb1 p0 p1; obtain ⟨p0, p1⟩ := HXC.out w1 HB1.out)
           clear d1 d2 H1
           go_upto_region 5 with fail
           have HTB1 : Hid (∀ X, Below W0.heap.size W0 X → _) := fun X hX => HTB.out X V _ hX HVL.out (HVT.out X hX)
           have HRT1 : Hid (∀ X, Below W0.heap.size W0 X → _) := fun X hX => HRT.out X V _ hX HVL.out (HVT.out X hX)
           have HTL1 := Lib.hid (HTL.out V)
           generalize tabR I A x V = tr at *
           obtain ⟨tb, te⟩ := tr
           clear HTB HRT HTL d3
           go_upto_region 6 with (go_at_call 27; refine (HEV.out w1 HB1.out).mono ?_; rintro e w2 ⟨rfl, hb⟩; have HB2 := Lib.hid (HB1.out.trans (hb.mono HB1.out.size)); clear hb p0 p1; obtain ⟨p0, p1⟩ := HXC.out w2 HB2.out)
           go_upto_region 7 with (go_at_call 28; refine (HRV.out w2 HB2.out).mono ?_; rintro e w3 ⟨rfl, hb⟩; have HB3 := Lib.hid (HB2.out.trans (hb.mono HB2.out.size)); clear hb p0 p1; obtain ⟨p0, p1⟩ := HXC.out w3 HB3.out)
           go_upto_region 8 with (go_at_call 29; refine (HTB1.out w3 HB3.out).mono ?_; rintro e w4 ⟨tv, rfl, ho, hb⟩; have HO4 := Lib.hid ho; have HB4 := Lib.hid (HB3.out.trans (hb.mono HB3.out.size)); clear ho hb p0 p1; obtain ⟨p0, p1⟩ := HXC.out w4 HB4.out)
           go_upto_region 9 with (go_at_call 30; refine (HRT1.out w4 HB4.out).mono ?_; rintro e w5 ⟨uv, rfl, ho, hb⟩; have HQ5 := Lib.hid ho; have HO5 := Lib.hid (ownB_below HO4.out hb (Nat.le_refl _)); have HB5 := Lib.hid (HB4.out.trans (hb.mono HB4.out.size)); clear ho hb p0 p1)
           have HBL := Lib.hid (bools6_any _ _ _ _ _ _ HO5.out HQ5.out (by have := HTL1.out; omega))
           go_wp2_with (first
             | (go_at_call 13; refine (works6_any _).mono ?_; rintro e w7 ⟨rfl, hb7⟩)
             | (go_at_call 31; refine HBL.out.mono ?_; rintro e w6 ⟨rfl, hb6⟩; have HB6 := Lib.hid (HB5.out.trans (hb6.mono HB5.out.size)); clear hb6))
           go_ret
           exact ⟨rfl, HB0.out.trans ((HB6.out.trans (hb7.mono HB6.out.size)).mono HB0.out.size)⟩
         · have d4 : decide ((vars.length : Int) ≤ (16 : Int)) = false := decide_eq_false (by omega)
           have HVT : Hid (∀ X, Below W0.heap.size W0 X → IsInts X (.slice ka vars.length kc) vars) := fun X hX => (HUPG.out X hX).2.2.2
           have HVL : Hid (vars.length ≤ 4000000) := h6
           clear c8 c16
           go_enter Tryz.func4, Tryz.ntmps4
           go_upto_region 1 with fail
           rw [HW0.out]
           go_upto_region 3 with (go_at_call 12; refine H1.out.mono ?_; rintro e w1 ⟨rfl, hb1⟩; have HB1 := Lib.hid hb1; clear hb1 p0 p1; obtain ⟨p0, p1⟩ := HXC.out w1 HB1.out)
           clear d1 d2 H1
           go_upto_region 5 with fail
           have HTB1 : Hid (∀ X, Below W0.heap.size W0 X → _) := fun X hX => HTB.out X vars _ hX HVL.out (HVT.out X hX)
           have HRT1 : Hid (∀ X, Below W0.heap.size W0 X → _) := fun X hX => HRT.out X vars _ hX HVL.out (HVT.out X hX)
           have HTL1 := Lib.hid (HTL.out vars)
           generalize tabR I A x vars = tr at *
           obtain ⟨tb, te⟩ := tr
           clear HTB HRT HTL d3
           go_upto_region 6 with (go_at_call 27; refine (HEV.out w1 HB1.out).mono ?_; rintro e w2 ⟨rfl, hb⟩; have HB2 := Lib.hid (HB1.out.trans (hb.mono HB1.out.size)); clear hb p0 p1; obtain ⟨p0, p1⟩ := HXC.out w2 HB2.out)
           go_upto_region 7 with (go_at_call 28; refine (HRV.out w2 HB2.out).mono ?_; rintro e w3 ⟨rfl, hb⟩; have HB3 := Lib.hid (HB2.out.trans (hb.mono HB2.out.size)); clear hb p0 p1; obtain ⟨p0, p1⟩ := HXC.out w3 HB3.out)
           go_upto_region 8 with (go_at_call 29; refine (HTB1.out w3 HB3.out).mono ?_; rintro e w4 ⟨tv, rfl, ho, hb⟩; have HO4 := Lib.hid ho; have HB4 := Lib.hid (HB3.out.trans (hb.mono HB3.out.size)); clear ho hb p0 p1; obtain ⟨p0, p1⟩ := HXC.out w4 HB4.out)
           go_upto_region 9 with (go_at_call 30; refine (HRT1.out w4 HB4.out).mono ?_; rintro e w5 ⟨uv, rfl, ho, hb⟩; have HQ5 := Lib.hid ho; have HO5 := Lib.hid (ownB_below HO4.out hb (Nat.le_refl _)); have HB5 := Lib.hid (HB4.out.trans (hb.mono HB4.out.size)); clear ho hb p0 p1)
           have HBL := Lib.hid (bools6_any _ _ _ _ _ _ HO5.out HQ5.out (by have := HTL1.out; omega))
           go_wp2_with (first
             | (go_at_call 13; refine (works6_any _).mono ?_; rintro e w7 ⟨rfl, hb7⟩)
             | (go_at_call 31; refine HBL.out.mono ?_; rintro e w6 ⟨rfl, hb6⟩; have HB6 := Lib.hid (HB5.out.trans (hb6.mono HB5.out.size)); clear hb6))
           go_ret
           exact ⟨rfl, HB0.out.trans ((HB6.out.trans (hb7.mono HB6.out.size)).mono HB0.out.size)⟩
       · have d3 : decide ((8 : Int) < (vars.length : Int)) = false := decide_eq_false (by omega)
         have HVT : Hid (∀ X, Below W0.heap.size W0 X → IsInts X (.slice ka vars.length kc) vars) := fun X hX => (HUPG.out X hX).2.2.2
         have HVL : Hid (vars.length ≤ 4000000) := h6
         clear c8
         go_enter Tryz.func4, Tryz.ntmps4
         go_upto_region 1 with fail
         rw [HW0.out]
         go_upto_region 3 with (go_at_call 12; refine H1.out.mono ?_; rintro e w1 ⟨rfl, hb1⟩; have HB1 := Lib.hid hb1; clear hb1 p0 p1; obtain ⟨p0, p1⟩ := HXC.out w1 HB1.out)
         clear d1 d2 H1
         go_upto_region 5 with fail
         have HTB1 : Hid (∀ X, Below W0.heap.size W0 X → _) := fun X hX => HTB.out X vars _ hX HVL.out (HVT.out X hX)
         have HRT1 : Hid (∀ X, Below W0.heap.size W0 X → _) := fun X hX => HRT.out X vars _ hX HVL.out (HVT.out X hX)
         have HTL1 := Lib.hid (HTL.out vars)
         generalize tabR I A x vars = tr at *
         obtain ⟨tb, te⟩ := tr
         clear HTB HRT HTL d3
         go_upto_region 6 with (go_at_call 27; refine (HEV.out w1 HB1.out).mono ?_; rintro e w2 ⟨rfl, hb⟩; have HB2 := Lib.hid (HB1.out.trans (hb.mono HB1.out.size)); clear hb p0 p1; obtain ⟨p0, p1⟩ := HXC.out w2 HB2.out)
         go_upto_region 7 with (go_at_call 28; refine (HRV.out w2 HB2.out).mono ?_; rintro e w3 ⟨rfl, hb⟩; have HB3 := Lib.hid (HB2.out.trans (hb.mono HB2.out.size)); clear hb p0 p1; obtain ⟨p0, p1⟩ := HXC.out w3 HB3.out)
         go_upto_region 8 with (go_at_call 29; refine (HTB1.out w3 HB3.out).mono ?_; rintro e w4 ⟨tv, rfl, ho, hb⟩; have HO4 := Lib.hid ho; have HB4 := Lib.hid (HB3.out.trans (hb.mono HB3.out.size)); clear ho hb p0 p1; obtain ⟨p0, p1⟩ := HXC.out w4 HB4.out)
         go_upto_region 9 with (go_at_call 30; refine (HRT1.out w4 HB4.out).mono ?_; rintro e w5 ⟨uv, rfl, ho, hb⟩; have HQ5 := Lib.hid ho; have HO5 := Lib.hid (ownB_below HO4.out hb (Nat.le_refl _)); have HB5 := Lib.hid (HB4.out.trans (hb.mono HB4.out.size)); clear ho hb p0 p1)
         have HBL := Lib.hid (bools6_any _ _ _ _ _ _ HO5.out HQ5.out (by have := HTL1.out; omega))
         go_wp2_with (first
           | (go_at_call 13; refine (works6_any _).mono ?_; rintro e w7 ⟨rfl, hb7⟩)
           | (go_at_call 31; refine HBL.out.mono ?_; rintro e w6 ⟨rfl, hb6⟩; have HB6 := Lib.hid (HB5.out.trans (hb6.mono HB5.out.size)); clear hb6))
         go_ret
         exact ⟨rfl, HB0.out.trans ((HB6.out.trans (hb7.mono HB6.out.size)).mono HB0.out.size)⟩
end Go.Proofs.YtfghjfljomcldaaGreat
