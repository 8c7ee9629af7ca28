/- The law AigMeans, walked: where a guard stops it. -/
import Derived.Test.YtppglbffmgnooaaGreatAgWorks
import Derived.Test.YtppglbffmgnooaaGreatA13
import Derived.Test.YtppglbffmgnooaaGreatA12
import Derived.Test.YtppglbffmgnooaaGreatB11
import Derived.Test.YtppglbffmgnooaaGreatB10
import Derived.Test.YtppglbffmgnooaaGreatAgMrg
import Derived.Test.YtppglbffmgnooaaGreatB08
import Derived.Test.YtppglbffmgnooaaGreatA10
namespace Go.Proofs.YtppglbffmgnooaaGreat
open Go.RowKit Go.Maps Go.Shelf
set_option linter.unusedVariables false
set_option linter.unusedSimpArgs false

theorem great_me (vi va vj vc : Value) (I J : List Int) (A C : List Pr) (X : World) (HI : IsInts X vi I) (HA : IsPairs X va A) (HJ : IsInts X vj J) (HC : IsPairs X vc C) (h1 : I.length ≤ 4000000) (h2 : A.length ≤ 4000000) (h3 : J.length ≤ 4000000) (h4 : C.length ≤ 4000000) :
    Calls Tryz.prog 12 #[.slice (some ⟨X.heap.size, 0, none⟩) 2 2] (X.alloc (.cells #[vi, va, vj, vc] 25)) fun e w' => e = .returned (.bool (manyA I A || manyA J C)) ∧ Below X.heap.size X w' := by
  have hb := below_alloc1 X (.cells #[vi, va, vj, vc] 25)
  refine (great6_any [(vi, va, I, A), (vj, vc, J, C)] X.heap.size _ (by simp) (by simp) (fun j hj => ?_)).mono ?_
  · match j, hj with
    | 0, _ => exact ⟨cell_fresh rfl, cell_fresh rfl, HI.below hb (Nat.le_refl _), HA.below hb (Nat.le_refl _), h1, h2⟩
    | 1, _ => exact ⟨cell_fresh rfl, cell_fresh rfl, HJ.below hb (Nat.le_refl _), HC.below hb (Nat.le_refl _), h3, h4⟩
    | j + 2, hj => simp at hj; omega
  · rintro e w' ⟨rfl, h2⟩
    exact ⟨by simp, hb.trans (h2.mono (by simp))⟩
theorem many_false {I J : List Int} {A C : List Pr} (h : (manyA I A || manyA J C) = false) : (I.length ≤ 100 ∧ A.length ≤ 600) ∧ J.length ≤ 100 ∧ C.length ≤ 600 := by
  unfold manyA at h
  simp only [Bool.or_eq_false_iff, decide_eq_false_iff_not] at h
  omega
theorem has_fit {I : List Int} {A : List Pr} (h : mayA I A = true) (l : List Int) : hasA I A (fitI (1 + I.length + A.length) l) = true := by
  unfold hasA
  rw [h, fitI_edges (by omega)]
  rfl
theorem mean_in64 {I : List Int} {A : List Pr} {x K : List Int} {D : List Pr} {u a b : List Int} (M : Means I A x K D u a b) : In64 u ∧ K.length ≤ 200000 ∧ D.length ≤ 200000 := by
  obtain ⟨hm, _, he⟩ := hasA_parts M.has
  have hr := (mayA_parts hm).1
  refine ⟨fun y hy => ?_, by omega, by omega⟩
  have := edgesB_true.1 he y hy
  omega
theorem mean_eval {I : List Int} {A : List Pr} {x K : List Int} {D : List Pr} {u a b : List Int} (M : Means I A x K D u a b) (hx : hasA I A x = true) (ha : mayB a = true) (hb : mayB b = true) {j : Nat} (hj : j < x.length) : ∃ v, evalC I A (x.getD j 0) b = (v, 0) ∧ evalC K D (u.getD j 0) a = (v, 0) := by
  refine ⟨evalA I A (x.getD j 0) b, ?_, ?_⟩
  · unfold evalC
    rw [if_pos ⟨has_one hx hj, hb⟩]
  · unfold evalC
    rw [if_pos ⟨has_one M.has (by rw [M.len]; exact hj), ha⟩, M.val j hj]
theorem cone_mean {I : List Int} {A : List Pr} {x a : List Int} (hx : hasA I A x = true) : ∃ D u, coneR I A x = ((I, D), u, 0) ∧ Means I A x I D u a a := by
  obtain ⟨D, u, h1, h2⟩ := rest_mean (fix := []) (a := a) (b := a) hx rfl (fun v _ => rfl)
  rw [restI_nil] at h1 h2
  exact ⟨D, u, h1, h2⟩
theorem union_lenM : ∀ (a b : List Int), (unionL a b).length ≤ a.length + b.length
  | [], [] => by simp [unionL]
  | x :: a, [] => by
    have := union_lenM a []
    rw [unionL]
    simp at this ⊢
    omega
  | [], y :: b => by
    have := union_lenM [] b
    rw [unionL]
    simp at this ⊢
    omega
  | x :: a, y :: b => by
    rw [unionL]
    split
    · have := union_lenM a (y :: b)
      simp at this ⊢
      omega
    · split
      · have := union_lenM (x :: a) b
        simp at this ⊢
        omega
      · have := union_lenM (x :: a) b
        simp at this ⊢
        omega
termination_by a b => a.length + b.length
theorem own_objM {w : World} {B g : Nat} {v : Value} {xs : List Int} (h : Own w B v xs) (hg : v.ownBlock = some g) : ∃ cur, w.heap[g]? = some (.cells cur 3 (0, 0)) := by
  rcases h.2 with ⟨rfl, _⟩ | ⟨g1, cap, cur, rfl, hB, hg1, _⟩
  · cases hg
  · have : g1 = g := by simpa [Value.ownBlock] using hg
    subst this
    exact ⟨_, hg1⟩
theorem own_turn2 {w w' : World} {B : Nat} {v : Value} {xs : List Int} (h : Own w B v xs) (hk : ∀ g, v.ownBlock = some g → w'.heap[g]? = w.heap[g]?) : Own w' B v xs := by
  refine ⟨h.1, ?_⟩
  rcases h.2 with hn | ⟨g, cap, cur, hv, hB, hg, rest⟩
  · exact .inl hn
  · exact .inr ⟨g, cap, cur, hv, hB, (hk g (by rw [hv]; rfl)).trans hg, rest⟩
theorem own_at2 {w : World} {B : Nat} {v : Value} {xs : List Int} (h : Own w B v xs) (hne : 0 < xs.length) : ∃ g cap, v = .slice (some ⟨g, 0, none⟩) xs.length cap ∧ B ≤ g ∧ g < w.heap.size := by
  rcases h.2 with ⟨_, h2⟩ | ⟨g, cap, cur, hv, hB, hg, _⟩
  · omega
  · exact ⟨g, cap, hv, hB, (Array.getElem?_eq_some_iff.1 hg).1⟩
theorem own_one2 (w : World) (B : Nat) (x : Int) (hB : B ≤ w.heap.size) : Own (w.alloc (.cells #[.int .i64 x] 3)) B (.slice (some ⟨w.heap.size, 0, none⟩) 1 1) [x] :=
  ⟨rfl, .inr ⟨w.heap.size, 1, _, rfl, hB, World.alloc_heap_new _ _, Nat.le_refl _, by unfold maxLen; omega, rfl, rfl⟩⟩
theorem ownO_kept {w w' : World} {B : Nat} {v : Value} {A : List Pr} {row : Option Nat} (h : OwnO w B v A) (hg : w.grownBy w' row) (hne : ∀ g, row = some g → v.ownBlock ≠ some g) : OwnO w' B v A :=
  h.turn fun g hv => hg.block g (h.lt g hv).2 (fun e => hne g e.symm hv)
theorem ownI_neO {w : World} {B B' : Nat} {v u : Value} {xs : List Int} {A : List Pr} (h : Own w B v xs) (h2 : OwnO w B' u A) : ∀ g, v.ownBlock = some g → u.ownBlock ≠ some g := fun g e1 e2 => by
  obtain ⟨c1, k1⟩ := own_objM h e1
  obtain ⟨c2, k2⟩ := h2.obj e2
  rw [k1] at k2
  simp only [Option.some.injEq, Obj.cells.injEq] at k2
  exact absurd k2.2.1 (by decide)
theorem cutM {P : Program} {md : Region.Mode} {ops : Array Oper} {Q : Exit → Act → World → Prop} {S : World → Prop} {G : Nat → Nat → Nat → World → Prop} {fu : Nat} {li : Array Bool} {f : Nat → Nat → Nat → Act} {R : Prop}
    (main : (∀ x y z wx, G x y z wx → wpAnyH P md ops Q S fu li (f x y z) wx) → R) (tail : ∀ x y z wx, G x y z wx → wpAnyH P md ops Q S fu li (f x y z) wx) : R := main tail
theorem own_keptO {w w' : World} {B B' : Nat} {v u : Value} {xs : List Int} {A : List Pr} (h : Own w B v xs) (h2 : OwnO w B' u A) (hg : w.grownBy w' u.ownBlock) : Own w' B v xs := h.kept hg (by
  cases e : v.ownBlock with
  | none => exact .inl rfl
  | some g => exact .inr (fun e2 => ownI_neO h h2 g e e2.symm))

set_option maxRecDepth 100000 in
set_option maxHeartbeats 6400000 in
theorem aigmeans_exit (vi va vj vc vl vx vf vb : Value) (I : List Int) (A : List Pr) (J : List Int) (C : List Pr) (l a F : List Int) (B : List Pr) (w : World) (HI : IsInts w vi I) (HA : IsPairs w va A) (HJ : IsInts w vj J) (HC : IsPairs w vc C) (HL : IsInts w vl l) (HX : IsInts w vx a) (HF : IsInts w vf F) (HB : IsPairs w vb B)
    (h1 : I.length ≤ 4000000) (h2 : A.length ≤ 4000000) (h3 : J.length ≤ 4000000) (h4 : C.length ≤ 4000000) (h5 : l.length ≤ 4000000) (h6 : a.length ≤ 4000000) (h7 : F.length ≤ 4000000) (h8 : B.length ≤ 4000000) (hbad : (manyA I A || manyA J C) = true ∨ 50 < l.length ∨ 50 < a.length ∨ 50 < F.length ∨ 50 < B.length ∨ mayA I A = false ∨ mayA J C = false ∨ mayB a = false ∨ mayB F = false) :
    Calls Tryz.prog 8 #[.agg #[vi, va], .agg #[vj, vc], vl, vx, vf, vb] w fun e w' => e = .returned (.bool true) ∧ Below w.heap.size w w' := by
  have HBN := Lib.hid HB.inP
  obtain ⟨ia, ic, rfl⟩ := HI.shape
  obtain ⟨ga, gc, rfl, _⟩ := HA.shape
  obtain ⟨ja, jc, rfl⟩ := HJ.shape
  obtain ⟨ca, cc, rfl, _⟩ := HC.shape
  obtain ⟨la, lc, rfl⟩ := HL.shape
  obtain ⟨aa, ac, rfl⟩ := HX.shape
  obtain ⟨fa, fc, rfl⟩ := HF.shape
  obtain ⟨ba, bc, rfl, _⟩ := HB.shape
  obtain ⟨hb0, hp, hq⟩ := boxes_eq w (.slice ia I.length ic) (.slice ga A.length gc) (.slice ja J.length jc) (.slice ca C.length cc)
  obtain ⟨W0, hW0⟩ : ∃ W0, (w.alloc (.cells #[.slice ia I.length ic, .slice ga A.length gc] 25)).alloc (.cells #[.slice ja J.length jc, .slice ca C.length cc] 25) = W0 := ⟨_, rfl⟩
  have hz0 : W0.heap.size = w.heap.size + 1 + 1 := by rw [← hW0, World.size_alloc, World.size_alloc]
  rw [hW0] at hb0 hp hq
  have HXC : Hid (∀ X, Below W0.heap.size W0 X → (X.cell? ⟨w.heap.size, 0, none⟩ = some (.slice ia I.length ic) ∧ X.cell? ⟨w.heap.size, 1, none⟩ = some (.slice ga A.length gc)) ∧ X.cell? ⟨w.heap.size + 1, 0, none⟩ = some (.slice ja J.length jc) ∧ X.cell? ⟨w.heap.size + 1, 1, none⟩ = some (.slice ca C.length cc)) := fun X hX => ⟨⟨(hX.cell (p := ⟨w.heap.size, 0, none⟩) (by show w.heap.size < _; omega)).trans hp.1, (hX.cell (p := ⟨w.heap.size, 1, none⟩) (by show w.heap.size < _; omega)).trans hp.2⟩, (hX.cell (p := ⟨w.heap.size + 1, 0, none⟩) (by show w.heap.size + 1 < _; omega)).trans hq.1, (hX.cell (p := ⟨w.heap.size + 1, 1, none⟩) (by show w.heap.size + 1 < _; omega)).trans hq.2⟩
  have HW0 : Hid ((w.alloc (.cells #[.slice ia I.length ic, .slice ga A.length gc] 25)).alloc (.cells #[.slice ja J.length jc, .slice ca C.length cc] 25) = W0) := hW0
  have HB0 := Lib.hid hb0
  have HU1 : Hid (∀ X, Below W0.heap.size W0 X → (IsInts X (.slice ia I.length ic) I ∧ IsPairs X (.slice ga A.length gc) A) ∧ IsInts X (.slice ja J.length jc) J ∧ IsPairs X (.slice ca C.length cc) C) := fun X hX => ⟨⟨(HI.below hb0 (Nat.le_refl _)).below hX (Nat.le_refl _), (HA.below hb0 (Nat.le_refl _)).below hX (Nat.le_refl _)⟩, (HJ.below hb0 (Nat.le_refl _)).below hX (Nat.le_refl _), (HC.below hb0 (Nat.le_refl _)).below hX (Nat.le_refl _)⟩
  have HU2 : Hid (∀ X, Below W0.heap.size W0 X → (IsInts X (.slice la l.length lc) l ∧ IsInts X (.slice aa a.length ac) a) ∧ IsInts X (.slice fa F.length fc) F ∧ IsPairs X (.slice ba B.length bc) B) := fun X hX => ⟨⟨(HL.below hb0 (Nat.le_refl _)).below hX (Nat.le_refl _), (HX.below hb0 (Nat.le_refl _)).below hX (Nat.le_refl _)⟩, (HF.below hb0 (Nat.le_refl _)).below hX (Nat.le_refl _), (HB.below hb0 (Nat.le_refl _)).below hX (Nat.le_refl _)⟩
  have H1 : Hid (Calls Tryz.prog 12 #[.slice (some ⟨W0.heap.size, 0, none⟩) 2 2] (W0.alloc (.cells #[.slice ia I.length ic, .slice ga A.length gc, .slice ja J.length jc, .slice ca C.length cc] 25)) fun e w' => e = .returned (.bool (manyA I A || manyA J C)) ∧ Below W0.heap.size W0 w') := by
    have hu := HU1.out W0 (Below.refl _ _)
    exact great_me _ _ _ _ I J A C W0 hu.1.1 hu.1.2 hu.2.1 hu.2.2 h1 h2 h3 h4
  have HM1 : Hid (∀ X, Below W0.heap.size W0 X → Calls Tryz.prog 19 #[.agg #[.slice ia I.length ic, .slice ga A.length gc]] X fun e w' => e = .returned (.bool (mayA I A)) ∧ Below X.heap.size X w') := fun X hX => rmay6_any _ _ I A X (HU1.out X hX).1.1 (HU1.out X hX).1.2 h1 h2
  have HM2 : Hid (∀ X, Below W0.heap.size W0 X → Calls Tryz.prog 19 #[.agg #[.slice ja J.length jc, .slice ca C.length cc]] X fun e w' => e = .returned (.bool (mayA J C)) ∧ Below X.heap.size X w') := fun X hX => rmay6_any _ _ J C X (HU1.out X hX).2.1 (HU1.out X hX).2.2 h3 h4
  have HNA : Hid (∀ X, Below W0.heap.size W0 X → Calls Tryz.prog 46 #[.slice aa a.length ac] X fun e w' => e = .returned (.bool (mayB a)) ∧ Below X.heap.size X w') := fun X hX => (rnormal5_any _ a X (HU2.out X hX).1.2).mono fun e w' h => ⟨h.1, h.2.below _⟩
  have HNF : Hid (∀ X, Below W0.heap.size W0 X → Calls Tryz.prog 46 #[.slice fa F.length fc] X fun e w' => e = .returned (.bool (mayB F)) ∧ Below X.heap.size X w') := fun X hX => (rnormal5_any _ F X (HU2.out X hX).2.1).mono fun e w' h => ⟨h.1, h.2.below _⟩
  obtain ⟨⟨p0, p1⟩, q0, q1⟩ := HXC.out W0 (Below.refl _ _)
  clear HI HA HJ HC HL HX HF HB hb0 hp hq hW0 hz0
  have HBAD := Lib.hid hbad
  clear hbad
  cases hm : (manyA I A || manyA J C) with
  | true =>
    rw [hm] at H1
    clear hm HM1 HM2 HNA HNF
    go_enter Tryz.func8, Tryz.ntmps8
    go_upto_region 1 with fail
    rw [HW0.out]
    go_wp2_with (first
      | (go_at_call 13; refine (works6_any _).mono ?_; rintro e wz ⟨rfl, hbz⟩)
      | (go_at_call 12; refine H1.out.mono ?_; rintro e w1 ⟨rfl, hb⟩; have HBV1 := Lib.hid hb; clear hb p0 p1 q0 q1; obtain ⟨⟨p0, p1⟩, q0, q1⟩ := HXC.out w1 HBV1.out))
    go_ret
    exact ⟨rfl, HB0.out.trans ((HBV1.out.trans (hbz.mono HBV1.out.size)).mono HB0.out.size)⟩
  | false =>
   have HMK := Lib.hid hm
   rw [hm] at H1
   clear hm
   by_cases cl : 50 < l.length
   · have d0 : decide ((50 : Int) < (l.length : Int)) = true := decide_eq_true (by omega)
     clear HBAD
     generalize l.length = ln at *
     clear cl HM1 HM2 HNA HNF
     go_enter Tryz.func8, Tryz.ntmps8
     go_upto_region 1 with fail
     rw [HW0.out]
     go_wp2_with (first
       | (go_at_call 13; refine (works6_any _).mono ?_; rintro e wz ⟨rfl, hbz⟩)
       | (go_at_call 12; refine H1.out.mono ?_; rintro e w1 ⟨rfl, hb⟩; have HBV1 := Lib.hid hb; clear hb p0 p1 q0 q1; obtain ⟨⟨p0, p1⟩, q0, q1⟩ := HXC.out w1 HBV1.out))
     go_ret
     exact ⟨rfl, HB0.out.trans ((HBV1.out.trans (hbz.mono HBV1.out.size)).mono HB0.out.size)⟩
   · have d0 : decide ((50 : Int) < (l.length : Int)) = false := decide_eq_false (by omega)
     by_cases cx : 50 < a.length
     · have d1 : decide ((50 : Int) < (a.length : Int)) = true := decide_eq_true (by omega)
       clear HBAD
       generalize a.length = ln at *
       clear cl cx HM1 HM2 HNA HNF
       go_enter Tryz.func8, Tryz.ntmps8
       go_upto_region 1 with fail
       rw [HW0.out]
       go_wp2_with (first
         | (go_at_call 13; refine (works6_any _).mono ?_; rintro e wz ⟨rfl, hbz⟩)
         | (go_at_call 12; refine H1.out.mono ?_; rintro e w1 ⟨rfl, hb⟩; have HBV1 := Lib.hid hb; clear hb p0 p1 q0 q1; obtain ⟨⟨p0, p1⟩, q0, q1⟩ := HXC.out w1 HBV1.out))
       go_ret
       exact ⟨rfl, HB0.out.trans ((HBV1.out.trans (hbz.mono HBV1.out.size)).mono HB0.out.size)⟩
     · have d1 : decide ((50 : Int) < (a.length : Int)) = false := decide_eq_false (by omega)
       by_cases cf : 50 < F.length
       · have d2 : decide ((50 : Int) < (F.length : Int)) = true := decide_eq_true (by omega)
         clear HBAD
         generalize F.length = ln at *
         clear cl cx cf HM1 HM2 HNA HNF
         go_enter Tryz.func8, Tryz.ntmps8
         go_upto_region 1 with fail
         rw [HW0.out]
         go_wp2_with (first
           | (go_at_call 13; refine (works6_any _).mono ?_; rintro e wz ⟨rfl, hbz⟩)
           | (go_at_call 12; refine H1.out.mono ?_; rintro e w1 ⟨rfl, hb⟩; have HBV1 := Lib.hid hb; clear hb p0 p1 q0 q1; obtain ⟨⟨p0, p1⟩, q0, q1⟩ := HXC.out w1 HBV1.out))
         go_ret
         exact ⟨rfl, HB0.out.trans ((HBV1.out.trans (hbz.mono HBV1.out.size)).mono HB0.out.size)⟩
       · have d2 : decide ((50 : Int) < (F.length : Int)) = false := decide_eq_false (by omega)
         by_cases cb : 50 < B.length
         · have d3 : decide ((50 : Int) < (B.length : Int)) = true := decide_eq_true (by omega)
           clear HBAD
           generalize B.length = ln at *
           clear cl cx cf cb HM1 HM2 HNA HNF
           go_enter Tryz.func8, Tryz.ntmps8
           go_upto_region 1 with fail
           rw [HW0.out]
           go_wp2_with (first
             | (go_at_call 13; refine (works6_any _).mono ?_; rintro e wz ⟨rfl, hbz⟩)
             | (go_at_call 12; refine H1.out.mono ?_; rintro e w1 ⟨rfl, hb⟩; have HBV1 := Lib.hid hb; clear hb p0 p1 q0 q1; obtain ⟨⟨p0, p1⟩, q0, q1⟩ := HXC.out w1 HBV1.out))
           go_ret
           exact ⟨rfl, HB0.out.trans ((HBV1.out.trans (hbz.mono HBV1.out.size)).mono HB0.out.size)⟩
         · have d3 : decide ((50 : Int) < (B.length : Int)) = false := decide_eq_false (by omega)
           cases m1 : mayA I A with
           | false =>
             rw [m1] at HM1
             clear m1 cl cx cf cb
             go_enter Tryz.func8, Tryz.ntmps8
             go_upto_region 1 with fail
             rw [HW0.out]
             go_wp2_with (first
               | (go_at_call 13; refine (works6_any _).mono ?_; rintro e wz ⟨rfl, hbz⟩)
               | (go_at_call 19; refine (HM1.out w1 HBV1.out).mono ?_; rintro e w2 ⟨rfl, hb⟩; have HBV2 := Lib.hid (HBV1.out.trans (hb.mono HBV1.out.size)); clear hb p0 p1 q0 q1; obtain ⟨⟨p0, p1⟩, q0, q1⟩ := HXC.out w2 HBV2.out)
               | (go_at_call 12; refine H1.out.mono ?_; rintro e w1 ⟨rfl, hb⟩; have HBV1 := Lib.hid hb; clear hb p0 p1 q0 q1; obtain ⟨⟨p0, p1⟩, q0, q1⟩ := HXC.out w1 HBV1.out))
             go_ret
             exact ⟨rfl, HB0.out.trans ((HBV2.out.trans (hbz.mono HBV2.out.size)).mono HB0.out.size)⟩
           | true =>
             rw [m1] at HM1
             cases m2 : mayA J C with
             | false =>
               rw [m2] at HM2
               clear m1 m2 cl cx cf cb
               go_enter Tryz.func8, Tryz.ntmps8
               go_upto_region 1 with fail
               rw [HW0.out]
               go_wp2_with (first
                 | (go_at_call 13; refine (works6_any _).mono ?_; rintro e wz ⟨rfl, hbz⟩)
                 | (go_at_call 19; refine (HM2.out w2 HBV2.out).mono ?_; rintro e w3 ⟨rfl, hb⟩; have HBV3 := Lib.hid (HBV2.out.trans (hb.mono HBV2.out.size)); clear hb p0 p1 q0 q1; obtain ⟨⟨p0, p1⟩, q0, q1⟩ := HXC.out w3 HBV3.out)
                 | (go_at_call 19; refine (HM1.out w1 HBV1.out).mono ?_; rintro e w2 ⟨rfl, hb⟩; have HBV2 := Lib.hid (HBV1.out.trans (hb.mono HBV1.out.size)); clear hb p0 p1 q0 q1; obtain ⟨⟨p0, p1⟩, q0, q1⟩ := HXC.out w2 HBV2.out)
                 | (go_at_call 12; refine H1.out.mono ?_; rintro e w1 ⟨rfl, hb⟩; have HBV1 := Lib.hid hb; clear hb p0 p1 q0 q1; obtain ⟨⟨p0, p1⟩, q0, q1⟩ := HXC.out w1 HBV1.out))
               go_ret
               exact ⟨rfl, HB0.out.trans ((HBV3.out.trans (hbz.mono HBV3.out.size)).mono HB0.out.size)⟩
             | true =>
               rw [m2] at HM2
               cases na : mayB a with
               | false =>
                 rw [na] at HNA
                 clear m1 m2 na cl cx cf cb
                 go_enter Tryz.func8, Tryz.ntmps8
                 go_upto_region 1 with fail
                 rw [HW0.out]
                 go_wp2_with (first
                   | (go_at_call 13; refine (works6_any _).mono ?_; rintro e wz ⟨rfl, hbz⟩)
                   | (go_at_call 46; refine (HNA.out w3 HBV3.out).mono ?_; rintro e w4 ⟨rfl, hb⟩; have HBV4 := Lib.hid (HBV3.out.trans (hb.mono HBV3.out.size)); clear hb p0 p1 q0 q1; obtain ⟨⟨p0, p1⟩, q0, q1⟩ := HXC.out w4 HBV4.out)
                   | (go_at_call 19; refine (HM2.out w2 HBV2.out).mono ?_; rintro e w3 ⟨rfl, hb⟩; have HBV3 := Lib.hid (HBV2.out.trans (hb.mono HBV2.out.size)); clear hb p0 p1 q0 q1; obtain ⟨⟨p0, p1⟩, q0, q1⟩ := HXC.out w3 HBV3.out)
                   | (go_at_call 19; refine (HM1.out w1 HBV1.out).mono ?_; rintro e w2 ⟨rfl, hb⟩; have HBV2 := Lib.hid (HBV1.out.trans (hb.mono HBV1.out.size)); clear hb p0 p1 q0 q1; obtain ⟨⟨p0, p1⟩, q0, q1⟩ := HXC.out w2 HBV2.out)
                   | (go_at_call 12; refine H1.out.mono ?_; rintro e w1 ⟨rfl, hb⟩; have HBV1 := Lib.hid hb; clear hb p0 p1 q0 q1; obtain ⟨⟨p0, p1⟩, q0, q1⟩ := HXC.out w1 HBV1.out))
                 go_ret
                 exact ⟨rfl, HB0.out.trans ((HBV4.out.trans (hbz.mono HBV4.out.size)).mono HB0.out.size)⟩
               | true =>
                 rw [na] at HNA
                 cases nf : mayB F with
                 | false =>
                   rw [nf] at HNF
                   clear m1 m2 na nf cl cx cf cb
                   go_enter Tryz.func8, Tryz.ntmps8
                   go_upto_region 1 with fail
                   rw [HW0.out]
                   go_wp2_with (first
                     | (go_at_call 13; refine (works6_any _).mono ?_; rintro e wz ⟨rfl, hbz⟩)
                     | (go_at_call 46; refine (HNF.out w4 HBV4.out).mono ?_; rintro e w5 ⟨rfl, hb⟩; have HBV5 := Lib.hid (HBV4.out.trans (hb.mono HBV4.out.size)); clear hb p0 p1 q0 q1; obtain ⟨⟨p0, p1⟩, q0, q1⟩ := HXC.out w5 HBV5.out)
                     | (go_at_call 46; refine (HNA.out w3 HBV3.out).mono ?_; rintro e w4 ⟨rfl, hb⟩; have HBV4 := Lib.hid (HBV3.out.trans (hb.mono HBV3.out.size)); clear hb p0 p1 q0 q1; obtain ⟨⟨p0, p1⟩, q0, q1⟩ := HXC.out w4 HBV4.out)
                     | (go_at_call 19; refine (HM2.out w2 HBV2.out).mono ?_; rintro e w3 ⟨rfl, hb⟩; have HBV3 := Lib.hid (HBV2.out.trans (hb.mono HBV2.out.size)); clear hb p0 p1 q0 q1; obtain ⟨⟨p0, p1⟩, q0, q1⟩ := HXC.out w3 HBV3.out)
                     | (go_at_call 19; refine (HM1.out w1 HBV1.out).mono ?_; rintro e w2 ⟨rfl, hb⟩; have HBV2 := Lib.hid (HBV1.out.trans (hb.mono HBV1.out.size)); clear hb p0 p1 q0 q1; obtain ⟨⟨p0, p1⟩, q0, q1⟩ := HXC.out w2 HBV2.out)
                     | (go_at_call 12; refine H1.out.mono ?_; rintro e w1 ⟨rfl, hb⟩; have HBV1 := Lib.hid hb; clear hb p0 p1 q0 q1; obtain ⟨⟨p0, p1⟩, q0, q1⟩ := HXC.out w1 HBV1.out))
                   go_ret
                   exact ⟨rfl, HB0.out.trans ((HBV5.out.trans (hbz.mono HBV5.out.size)).mono HB0.out.size)⟩
                 | true =>
                   rw [nf] at HNF
                   exfalso
                   rcases HBAD.out with h | h | h | h | h | h | h | h | h
                   · rw [HMK.out] at h; cases h
                   · exact cl h
                   · exact cx h
                   · exact cf h
                   · exact cb h
                   · rw [m1] at h; cases h
                   · rw [m2] at h; cases h
                   · rw [na] at h; cases h
                   · rw [nf] at h; cases h
end Go.Proofs.YtppglbffmgnooaaGreat
