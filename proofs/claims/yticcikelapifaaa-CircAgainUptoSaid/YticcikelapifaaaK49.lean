/- Joined texts: CxLawAgn. -/
import Derived.Test.YticcikelapifaaaK42
import Derived.Test.YticcikelapifaaaK43
import Derived.Test.YticcikelapifaaaK48
import Derived.Test.YticcikelapifaaaK36
import Derived.Test.YticcikelapifaaaK51
import Derived.Test.YticcikelapifaaaK17
/- The law CircAgain, walked. -/
namespace Go.Proofs.Yticcikelapifaaa
open Go.RowKit Go.Maps Go.Shelf
set_option linter.unusedVariables false
set_option linter.unusedSimpArgs false

/-- What the law knows of its net. -/
theorem again_facts {P : List Blk} {gs : List Gt} {o : Int} (h : mayN P gs o = true) :
    (mayN (simpN P gs o []).1 (simpN P gs o []).2.1 (simpN P gs o []).2.2 = true ∧ simpleN P gs o = (simpN P gs o [], 0) ∧ simpleN (simpN P gs o []).1 (simpN P gs o []).2.1 (simpN P gs o []).2.2 = (simpN P gs o [], 0)) ∧ varsOk (flatB P) ∧ ∃ R, namedL (flatB P) 0 gs = some R := by
  obtain ⟨R, hmp, _, hnl, _, hP⟩ := mayN_named h
  have sm := (simp_means (fix := []) h List.Pairwise.nil (fun x hx => by cases hx) [] [] (fun i => rfl)).1
  refine ⟨⟨sm, by unfold simpleN; rw [if_pos h], ?_⟩, ⟨(mayP_parts hmp).2.1, hP⟩, R, hnl⟩
  unfold simpleN
  rw [if_pos sm, simp_again h]
/-- Order of gates in order. -/
theorem order_kept {vi vg : Value} {S : List Int} {gs : List Gt} {R : List Int} (hS : varsOk S) (hn : namedL S 0 gs = some R) (X : World) (HI : IsInts X vi S) (HG : IsGates X vg gs) (hi : S.length < 1000000) (hg : gs.length < 1000000) :
    Calls Try.prog 26 #[vi, vg] X fun e w' => Below X.heap.size X w' ∧ ∃ a c t, e = .returned (.tuple #[.slice a gs.length c, .int .i64 0]) ∧ RowG X w' X.heap.size (.slice a gs.length c) t ∧ shapeG t = gs := by
  obtain ⟨h1, h2, h3, h4⟩ := order_same hS hn
  refine (corder_any vi vg S gs X HI HG hi hg (by omega)).mono ?_
  rintro e w' ⟨hb, ⟨k1, _⟩ | ⟨_, k1, _⟩ | ⟨_, _, T, hT, _, _, hk⟩⟩
  · rw [h1] at k1; cases k1
  · omega
  · have hTe := ordR_one hT _ h3
    subst hTe
    rcases hk with ⟨k1, _⟩ | ⟨_, v, t, he, hr, hs⟩
    · simp at k1
    · rw [h4] at hs
      obtain ⟨a, c, rfl⟩ := hr.shape
      have hl : t.length = gs.length := by rw [← hs, shapeG_len]
      rw [hl] at he hr
      exact ⟨hb, a, c, t, he, hr, hs⟩
/-- Order of gates in another order. -/
theorem order_moved {vi vg : Value} {P : List Blk} {gs l : List Gt} {o : Int} (h : mayN P gs o = true) (p : l.Perm gs) (X : World) (HI : IsInts X vi (flatB P)) (HG : IsGates X vg l) (hi : (flatB P).length < 1000000) (hg : l.length < 1000000) :
    Calls Try.prog 26 #[vi, vg] X fun e w' => Below X.heap.size X w' ∧ ∃ a c t G, e = .returned (.tuple #[.slice a l.length c, .int .i64 0]) ∧ RowG X w' X.heap.size (.slice a l.length c) t ∧ shapeG t = G ∧ G.length = l.length ∧ mayN P G o = true ∧ ∀ b, litV (runA G b).1 o = litV (runA gs b).1 o := by
  obtain ⟨h1, h2, h3⟩ := order_perm h p
  refine (corder_any vi vg (flatB P) l X HI HG hi hg (by omega)).mono ?_
  rintro e w' ⟨hb, ⟨k1, _⟩ | ⟨_, k1, _⟩ | ⟨_, _, T, hT, hnd, hlt, hk⟩⟩
  · rw [h1] at k1; cases k1
  · omega
  · obtain ⟨g1, g2, g3⟩ := h3 T hT hnd hlt
    rcases hk with ⟨k1, _⟩ | ⟨_, v, t, he, hr, hs⟩
    · omega
    · obtain ⟨a, c, rfl⟩ := hr.shape
      have hl : t.length = l.length := by rw [← g1, ← List.length_map (f := fun i => l.getD i dG), ← hs, shapeG_len]
      rw [hl] at he hr
      exact ⟨hb, a, c, t, _, he, hr, hs, by rw [List.length_map, g1], g2, g3⟩

set_option maxRecDepth 100000 in
set_option maxHeartbeats 12800000 in
theorem circagain_any (vp vg vs va : Value) (o : Int) (P : List Blk) (gs : List Gt) (sw a : List Int) (w : World) (HP : IsBlocks w vp P) (HG : IsGates w vg gs) (HS : IsU16 w vs sw) (HA : IsInts w va a)
    (hp : P.length ≤ 2000000) (hg : gs.length ≤ 900000) (hs : sizeG gs ≤ 2000000) (hal : a.length ≤ 1100000) (ho1 : -9223372036854775808 ≤ o) (ho2 : o ≤ 9223372036854775807) :
    Calls Try.prog 8 #[.agg #[vp, vg, .int .i64 o], vs, va] w fun e w' => e = .returned (.bool true) ∧ Below w.heap.size w w' := by
  obtain ⟨pa, pc, rfl, _⟩ := HP.shape
  obtain ⟨ga, gc, rfl, _⟩ := HG.shape
  obtain ⟨sa, sc, rfl, hsl⟩ := HS.shape
  obtain ⟨aa, ac, rfl⟩ := HA.shape
  obtain ⟨W0, hW0⟩ : ∃ W0, w.alloc (.cells #[.slice pa P.length pc, .slice ga gs.length gc, .int .i64 o] 25) = W0 := ⟨_, rfl⟩
  have hb0 : Below w.heap.size w W0 := by rw [← hW0]; exact below_new _ _
  have hbx := box_new w (.slice pa P.length pc) (.slice ga gs.length gc) o
  rw [hW0] at hbx
  have hs1 : W0.heap.size = w.heap.size + 1 := by rw [← hW0]; simp
  have HXC : Hid (∀ X, Below W0.heap.size W0 X → BoxN X w.heap.size (.slice pa P.length pc) (.slice ga gs.length gc) o) := fun X hX => hbx X (hX.mono (by omega))
  have HW0 := Lib.hid hW0
  have HB0 := Lib.hid hb0
  have up : ∀ X, Below W0.heap.size W0 X → (IsBlocks X (.slice pa P.length pc) P ∧ IsGates X (.slice ga gs.length gc) gs) ∧ IsU16 X (.slice sa sw.length sc) sw ∧ IsInts X (.slice aa a.length ac) a := fun X hX => by
    have h := hb0.trans (hX.mono hb0.size)
    exact ⟨⟨HP.below h (Nat.le_refl _), HG.below h (Nat.le_refl _)⟩, HS.below h (Nat.le_refl _), HA.below h (Nat.le_refl _)⟩
  have u0 := up W0 (Below.refl _ _)
  have H1 := Lib.hid (great_one _ _ o P gs W0 u0.1.1 u0.1.2 (by omega) (by omega))
  have HM : Hid (∀ X, Below W0.heap.size W0 X → Calls Try.prog 16 #[.agg #[.slice pa P.length pc, .slice ga gs.length gc, .int .i64 o]] X fun e w' => e = .returned (.bool (mayN P gs o)) ∧ Below X.heap.size X w') := fun X hX => rmay5_any _ _ o P gs X (up X hX).1.1 (up X hX).1.2 (by omega) (by omega) ho1 ho2
  have HUP := Lib.hid up
  have HGW := Lib.hid HG
  have HSZ := Lib.hid (And.intro hp (And.intro hg hal))
  have HBD := Lib.hid (And.intro ho1 ho2)
  clear up u0 HP HG HS HA hW0 hb0 hbx hs1 hp hg hs hal ho1 ho2
  obtain ⟨p0, p1, p2⟩ := HXC.out W0 (Below.refl _ _)
  have stop : ∀ (q : Bool), (manyG gs || (decide ((300 : Int) < (sw.length : Int)) || (decide ((2000 : Int) < (a.length : Int)) || !mayN P gs o))) = q → q = true → Calls Try.prog 8 #[.agg #[.slice pa P.length pc, .slice ga gs.length gc, .int .i64 o], .slice sa sw.length sc, .slice aa a.length ac] w fun e w' => e = .returned (.bool true) ∧ Below w.heap.size w w' := by
    intro q hq hq1
    subst hq1
    clear HUP HSZ HBD HGW
    cases hm : manyG gs with
    | true =>
      rw [hm] at H1
      clear hq hm HM
      go_enter Try.func8, Try.ntmps8
      go_upto_region 1 with fail
      rw [HW0.out]
      go_wp2_with (first
        | (go_at_call 11; refine H1.out.mono ?_; rintro e w1 ⟨rfl, hb1⟩)
        | (go_at_call 12; refine (works_any _).mono ?_; rintro e w2 ⟨rfl, hb2⟩))
      go_ret
      exact ⟨rfl, HB0.out.trans ((hb1.trans (hb2.mono hb1.size)).mono HB0.out.size)⟩
    | false =>
      rw [hm] at H1 hq
      clear hm
      by_cases hb : (300 : Int) < (sw.length : Int)
      · clear hq HM
        go_enter Try.func8, Try.ntmps8
        go_upto_region 1 with fail
        rw [HW0.out]
        go_wp2_with (first
          | (go_at_call 11; refine H1.out.mono ?_; rintro e w1 ⟨rfl, hb1⟩)
          | (go_at_call 12; refine (works_any _).mono ?_; rintro e w2 ⟨rfl, hb2⟩))
        go_ret
        exact ⟨rfl, HB0.out.trans ((hb1.trans (hb2.mono hb1.size)).mono HB0.out.size)⟩
      · have hbb : decide ((300 : Int) < (sw.length : Int)) = false := by simpa using hb
        rw [hbb] at hq
        clear hb
        by_cases ha : (2000 : Int) < (a.length : Int)
        · clear hq HM
          go_enter Try.func8, Try.ntmps8
          go_upto_region 1 with fail
          rw [HW0.out]
          go_wp2_with (first
            | (go_at_call 11; refine H1.out.mono ?_; rintro e w1 ⟨rfl, hb1⟩)
            | (go_at_call 12; refine (works_any _).mono ?_; rintro e w2 ⟨rfl, hb2⟩))
          go_ret
          exact ⟨rfl, HB0.out.trans ((hb1.trans (hb2.mono hb1.size)).mono HB0.out.size)⟩
        · have hab : decide ((2000 : Int) < (a.length : Int)) = false := by simpa using ha
          rw [hab] at hq
          have hmo : mayN P gs o = false := by simpa using hq
          rw [hmo] at HM
          clear ha hq hmo
          go_enter Try.func8, Try.ntmps8
          go_upto_region 1 with fail
          rw [HW0.out]
          go_wp2_with (first
            | (go_at_call 11; refine H1.out.mono ?_; rintro e w1 ⟨rfl, hb1⟩; clear p0 p1 p2; obtain ⟨p0, p1, p2⟩ := HXC.out w1 hb1)
            | (go_at_call 16; refine (HM.out w1 hb1).mono ?_; rintro e w3 ⟨rfl, hb3⟩)
            | (go_at_call 12; refine (works_any _).mono ?_; rintro e w2 ⟨rfl, hb2⟩))
          go_ret
          exact ⟨rfl, HB0.out.trans ((hb1.trans ((hb3.trans (hb2.mono hb3.size)).mono hb1.size)).mono HB0.out.size)⟩
  by_cases hq : (manyG gs || (decide ((300 : Int) < (sw.length : Int)) || (decide ((2000 : Int) < (a.length : Int)) || !mayN P gs o))) = true
  · exact stop _ rfl hq
  clear stop
  have hq2 : manyG gs = false ∧ decide ((300 : Int) < (sw.length : Int)) = false ∧ decide ((2000 : Int) < (a.length : Int)) = false ∧ mayN P gs o = true := by
    revert hq
    cases manyG gs <;> cases decide ((300 : Int) < (sw.length : Int)) <;> cases decide ((2000 : Int) < (a.length : Int)) <;> cases mayN P gs o <;> simp
  clear hq
  obtain ⟨hmg, hbb, hab, hmo⟩ := hq2
  rw [hmg] at H1
  rw [hmo] at HM
  have hsw : sw.length ≤ 300 := by rw [decide_eq_false_iff_not] at hbb; omega
  obtain ⟨⟨sm, hsn, hss⟩, hvo, R, hnl⟩ := again_facts hmo
  obtain ⟨hgl, hpl, hor⟩ := mayN_len hmo
  have hmp : mayP P = true := (mayN_named hmo).choose_spec.1
  have hfl := (mayP_short hmp).1
  have hPv := hvo.2
  have HPV := Lib.hid hPv
  have HP64 : Hid (In64 (flatB P)) := fun y hy => by have := HPV.out y hy; omega
  have hva : varIn (insideL a (flatB P)) := overL_in (fun x hx => by cases hx) (within_in hPv)
  have mba : mayB (insideL a (flatB P)) = true := asc_mayB (overL_asc [] (a.filter (fun x => decide (varC x ∈ flatB P)))) hva
  have lna := Nat.le_trans (within_len a (flatB P)) HSZ.out.2.2
  have HMO := Lib.hid hmo
  have HVO := Lib.hid hvo
  have HNL := Lib.hid hnl
  have HGL := Lib.hid hgl
  have HFL : Hid ((flatB P).length ≤ 1024) := hfl
  have HVA : Hid (∀ X, Below W0.heap.size W0 X → Calls Try.prog 33 #[.slice pa P.length pc] X fun e w' => ∃ u, e = .returned u ∧ Own w' X.heap.size u (flatB P) ∧ Below X.heap.size X w') := fun X hX => vars5_any _ P X (HUP.out X hX).1.1 (by omega)
  have HWA : Hid (∀ X v, Below W0.heap.size W0 X → IsInts X v (flatB P) → Calls Try.prog 34 #[.slice aa a.length ac, v] X (RetOwn X (insideL a (flatB P)))) := fun X v hX hv => within5_any _ _ a _ X (HUP.out X hX).2.2 hv HPV.out (by have := HSZ.out.2.2; omega)
  have HE0 : Hid (∀ v X, Below W0.heap.size W0 X → IsInts X v (insideL a (flatB P)) → Calls Try.prog 20 #[.agg #[.slice pa P.length pc, .slice ga gs.length gc, .int .i64 o], v] X fun e w' => e = .returned (.tuple #[.bool (litV (runA gs (insideL a (flatB P))).1 o), .int .i64 0]) ∧ Below X.heap.size X w') := fun v X hX hv => eval_valid hmo mba (by omega) _ _ _ X (HUP.out X hX).1.1 (HUP.out X hX).1.2 hv
  have HEG : Hid (∀ G p g v X, mayN P G o = true → (∀ b, litV (runA G b).1 o = litV (runA gs b).1 o) → IsBlocks X p P → IsGates X g G → IsInts X v (insideL a (flatB P)) → Calls Try.prog 20 #[.agg #[p, g, .int .i64 o], v] X fun e w' => e = .returned (.tuple #[.bool (litV (runA gs (insideL a (flatB P))).1 o), .int .i64 0]) ∧ Below X.heap.size X w') := fun G p g v X h1 h2 h3 h4 h5 => by
    have h := eval_valid h1 mba (by omega) p g v X h3 h4 h5
    rw [h2] at h
    exact h
  have HL64 : Hid (In64 (insideL a (flatB P)) ∧ (insideL a (flatB P)).length ≤ 17592186044416) := ⟨fun y hy => by have := varC_in (hva y hy); omega, by omega⟩
  have HO1 : Hid (∀ X v, Below W0.heap.size W0 X → IsInts X v (flatB P) → Calls Try.prog 26 #[v, .slice ga gs.length gc] X fun e w' => Below X.heap.size X w' ∧ ∃ a c t, e = .returned (.tuple #[.slice a gs.length c, .int .i64 0]) ∧ RowG X w' X.heap.size (.slice a gs.length c) t ∧ shapeG t = gs) := fun X v hX hv => order_kept HVO.out HNL.out X hv (HUP.out X hX).1.2 (by omega) (by omega)
  have HO2 : Hid (∀ X v g l, l.Perm gs → IsInts X v (flatB P) → IsGates X g l → Calls Try.prog 26 #[v, g] X fun e w' => Below X.heap.size X w' ∧ ∃ a c t G, e = .returned (.tuple #[.slice a l.length c, .int .i64 0]) ∧ RowG X w' X.heap.size (.slice a l.length c) t ∧ shapeG t = G ∧ G.length = l.length ∧ mayN P G o = true ∧ ∀ b, litV (runA G b).1 o = litV (runA gs b).1 o) := fun X v g l hpm hv hgt => order_moved HMO.out hpm X hv hgt (by omega) (by have := hpm.length_eq; omega)
  have HSI : Hid (∀ X, Below W0.heap.size W0 X → Calls Try.prog 29 #[.agg #[.slice pa P.length pc, .slice ga gs.length gc, .int .i64 o]] X (NetGot X (simpN P gs o []).1 (simpN P gs o []).2.1 (simpN P gs o []).2.2 0)) := fun X hX => (csimple_any _ _ o P gs X (HUP.out X hX).1.1 (HUP.out X hX).1.2 (by omega) (by omega) HBD.out.1 HBD.out.2).mono (fun e w' h => by
    rw [hsn] at h
    exact (NetBack.of h (Below.refl _ _)).got)
  obtain ⟨hgl1, hpl1, hor1⟩ := mayN_len sm
  have HST : Hid (∀ p g X, IsBlocks X p (simpN P gs o []).1 → IsGates X g (simpN P gs o []).2.1 → Calls Try.prog 29 #[.agg #[p, g, .int .i64 (simpN P gs o []).2.2]] X (NetGot X (simpN P gs o []).1 (simpN P gs o []).2.1 (simpN P gs o []).2.2 0)) := fun p g X h1 h2 => (csimple_any p g _ _ _ X h1 h2 (by omega) (by omega) hor1.1 hor1.2).mono (fun e w' h => by
    rw [hss] at h
    exact (NetBack.of h (Below.refl _ _)).got)
  have HMS : Hid (∀ p g X, IsBlocks X p (simpN P gs o []).1 → IsGates X g (simpN P gs o []).2.1 → Calls Try.prog 16 #[.agg #[p, g, .int .i64 (simpN P gs o []).2.2]] X fun e w' => e = .returned (.bool true) ∧ Below X.heap.size X w') := fun p g X h1 h2 => (rmay5_any p g _ _ _ X h1 h2 (by omega) (by omega) hor1.1 hor1.2).mono (fun e w' h => ⟨by rw [h.1, sm], h.2⟩)
  have HMG : Hid (∀ G p g X, mayN P G o = true → IsBlocks X p P → IsGates X g G → Calls Try.prog 16 #[.agg #[p, g, .int .i64 o]] X fun e w' => e = .returned (.bool true) ∧ Below X.heap.size X w') := fun G p g X h0 h1 h2 => (rmay5_any p g _ _ _ X h1 h2 (by omega) (by have := (mayN_len h0).1; omega) HBD.out.1 HBD.out.2).mono (fun e w' h => ⟨by rw [h.1, h0], h.2⟩)
  clear hsn hss sm hvo hnl hmp hmo hPv hva mba lna hgl1 hpl1 hor1 hor
  generalize (simpN P gs o []).1 = P1 at *
  generalize (simpN P gs o []).2.1 = G1 at *
  generalize (simpN P gs o []).2.2 = o1 at *
  have HSM : Hid (∀ p g p' g' X, IsBlocks X p P1 → IsGates X g G1 → IsBlocks X p' P1 → IsGates X g' G1 → Calls Try.prog 18 #[.agg #[p, g, .int .i64 o1], .agg #[p', g', .int .i64 o1]] X fun e w' => e = .returned (.bool true) ∧ Below X.heap.size X w') := fun p g p' g' X h1 h2 h3 h4 => (rsame5_any p g p' g' o1 o1 P1 P1 G1 G1 X h1 h2 h3 h4).mono fun e w' h => ⟨by rw [h.1, same_self], h.2⟩
  have HSG : Hid (∀ g g' X, IsGates X g gs → IsGates X g' gs → Calls Try.prog 28 #[g, g'] X fun e w' => e = .returned (.bool true) ∧ Below X.heap.size X w') := fun g g' X h1 h2 => (rsameg5_any g g' gs gs X h1 h2).mono fun e w' h => ⟨by rw [h.1]; simp [sameB], h.2.below _⟩
  generalize litV (runA gs (insideL a (flatB P))).1 o = rv at *
  generalize insideL a (flatB P) = La at *
  go_enter Try.func8, Try.ntmps8
  go_upto_region 1 with fail
  rw [HW0.out]
  go_upto_region 3 with (first
    | (go_at_call 11; refine H1.out.mono ?_; rintro e w0 ⟨rfl, hb1⟩; have HBa := Lib.hid hb1; clear hb1 p0 p1 p2; obtain ⟨p0, p1, p2⟩ := HXC.out w0 HBa.out)
    | (go_at_call 16; refine (HM.out w0 HBa.out).mono ?_; rintro e w1 ⟨rfl, hb1⟩; have HB1 := Lib.hid (HBa.out.trans (hb1.mono HBa.out.size)); clear hb1 p0 p1 p2; obtain ⟨p0, p1, p2⟩ := HXC.out w1 HB1.out))
  go_upto_region 4 with (go_at_call 29; refine (HSI.out w1 HB1.out).mono ?_; rintro e w2 ⟨a2, c2, d2, f2, rfl, hi2, hj2, hb2⟩; have HI2 := Lib.hid (And.intro hi2 hj2); have HC2 := Lib.hid hb2; clear hi2 hj2 hb2 p0 p1 p2)
  have HX2 := Lib.hid (net_boxed (o := o1) HI2.out.1 HI2.out.2)
  have HD2 : Hid (Below w1.heap.size w1 (w2.alloc (.cells #[.slice a2 P1.length c2, .slice d2 G1.length f2, .int .i64 o1] 25))) := HC2.out.alloc HC2.out.size _
  generalize w2.alloc (.cells #[.slice a2 P1.length c2, .slice d2 G1.length f2, .int .i64 o1] 25) = X2 at *
  generalize w2.heap.size = b2 at *
  have HB2 := Lib.hid (HB1.out.trans (HD2.out.mono HB1.out.size))
  obtain ⟨⟨p0, p1, p2⟩, hj2, hk2⟩ := HX2.out X2 (Below.refl _ _)
  go_upto_region 5 with (go_at_call 29; refine (HST.out _ _ X2 hj2 hk2).mono ?_; rintro e w3 ⟨a3, c3, d3, f3, rfl, hi3, hj3, hb3⟩; have HI3 := Lib.hid (And.intro hi3 hj3); have HC3 := Lib.hid hb3; clear hi3 hj3 hb3 p0 p1 p2 hj2 hk2)
  have HX3 := Lib.hid (net_boxed (o := o1) HI3.out.1 HI3.out.2)
  have HD3 : Hid (Below X2.heap.size X2 (w3.alloc (.cells #[.slice a3 P1.length c3, .slice d3 G1.length f3, .int .i64 o1] 25))) := HC3.out.alloc HC3.out.size _
  generalize w3.alloc (.cells #[.slice a3 P1.length c3, .slice d3 G1.length f3, .int .i64 o1] 25) = X3 at *
  generalize w3.heap.size = b3 at *
  have HB3 := Lib.hid (HB2.out.trans (HD3.out.mono HB2.out.size))
  obtain ⟨p0, p1, p2⟩ := HXC.out X3 HB3.out
  go_upto_region 7 with (first
    | (go_at_call 33; refine (HVA.out X3 HB3.out).mono ?_; rintro e w4 ⟨u4, rfl, ho4, hb4⟩; have HI4 := Lib.hid (ho4.ints (by have := HFL.out; omega) HP64.out); have HC4 := Lib.hid hb4; have HB4 := Lib.hid (HB3.out.trans (hb4.mono HB3.out.size)); obtain ⟨ua, uc, rfl⟩ := own_shC ho4; clear ho4 hb4 p0 p1 p2; obtain ⟨p0, p1, p2⟩ := HXC.out w4 HB4.out)
    | (go_at_call 26; refine (HO1.out w4 _ HB4.out HI4.out).mono ?_; rintro e w5 ⟨hb5, a5, c5, t5, rfl, hr5, hs5⟩; have HC5 := Lib.hid hb5; have HB5 := Lib.hid (HB4.out.trans (hb5.mono HB4.out.size)); have HG5 : Hid (IsGates w5 (.slice a5 gs.length c5) gs) := (by have h := hr5.gates (by rw [← shapeG_len t5, hs5]; have := HGL.out; omega); rw [hs5] at h; exact h); clear hb5 hr5 hs5 p0 p1 p2))
  have HI5 := Lib.hid (HI4.out.below HC5.out (Nat.le_refl _))
  have HE2 : Hid (∀ X, Below w5.heap.size w5 X → Below X2.heap.size X2 X ∧ Below X3.heap.size X3 X ∧ Below W0.heap.size W0 X) := fun X hX => by
    have h3 : Below X3.heap.size X3 X := (HC4.out.trans (HC5.out.mono HC4.out.size)).trans (hX.mono (HC4.out.trans (HC5.out.mono HC4.out.size)).size)
    exact ⟨HD3.out.trans (h3.mono HD3.out.size), h3, HB5.out.trans (hX.mono HB5.out.size)⟩
  have HALL : Hid (∀ X, Below w5.heap.size w5 X → (BoxN X b2 (.slice a2 P1.length c2) (.slice d2 G1.length f2) o1 ∧ BoxN X b3 (.slice a3 P1.length c3) (.slice d3 G1.length f3) o1) ∧ BoxN X w.heap.size (.slice pa P.length pc) (.slice ga gs.length gc) o) := fun X hX =>
    ⟨⟨(HX2.out X (HE2.out X hX).1).1, (HX3.out X (HE2.out X hX).2.1).1⟩, HXC.out X (HE2.out X hX).2.2⟩
  have HM7 : Hid (∀ X, Below w5.heap.size w5 X → Calls Try.prog 16 #[.agg #[.slice a2 P1.length c2, .slice d2 G1.length f2, .int .i64 o1]] X fun e w' => e = .returned (.bool true) ∧ Below X.heap.size X w') := fun X hX => HMS.out _ _ X (HX2.out X (HE2.out X hX).1).2.1 (HX2.out X (HE2.out X hX).1).2.2
  have HS7 : Hid (∀ X, Below w5.heap.size w5 X → Calls Try.prog 18 #[.agg #[.slice a2 P1.length c2, .slice d2 G1.length f2, .int .i64 o1], .agg #[.slice a3 P1.length c3, .slice d3 G1.length f3, .int .i64 o1]] X fun e w' => e = .returned (.bool true) ∧ Below X.heap.size X w') := fun X hX => HSM.out _ _ _ _ X (HX2.out X (HE2.out X hX).1).2.1 (HX2.out X (HE2.out X hX).1).2.2 (HX3.out X (HE2.out X hX).2.1).2.1 (HX3.out X (HE2.out X hX).2.1).2.2
  have HG7 : Hid (∀ X, Below w5.heap.size w5 X → Calls Try.prog 28 #[.slice a5 gs.length c5, .slice ga gs.length gc] X fun e w' => e = .returned (.bool true) ∧ Below X.heap.size X w') := fun X hX => HSG.out _ _ X (HG5.out.below hX (Nat.le_refl _)) (HUP.out X (HE2.out X hX).2.2).1.2
  clear HSI HST HMS HSM HSG HO1 H1 HM HVA
  obtain ⟨⟨⟨p0, p1, p2⟩, q0, q1, q2⟩, r0, r1, r2⟩ := HALL.out w5 (Below.refl _ _)
  go_upto_region 9 with (first
    | (go_at_call 16; refine (HM7.out w5 (Below.refl _ _)).mono ?_; rintro e w6 ⟨rfl, hb6⟩; have HB6 := Lib.hid hb6; clear hb6 p0 p1 p2 q0 q1 q2 r0 r1 r2; obtain ⟨⟨⟨p0, p1, p2⟩, q0, q1, q2⟩, r0, r1, r2⟩ := HALL.out w6 HB6.out)
    | (go_at_call 18; refine (HS7.out w6 HB6.out).mono ?_; rintro e w7 ⟨rfl, hb7⟩; have HB7 := Lib.hid (HB6.out.trans (hb7.mono HB6.out.size)); clear hb7 p0 p1 p2 q0 q1 q2 r0 r1 r2; obtain ⟨⟨⟨p0, p1, p2⟩, q0, q1, q2⟩, r0, r1, r2⟩ := HALL.out w7 HB7.out)
    | (go_at_call 28; refine (HG7.out w7 HB7.out).mono ?_; rintro e w8 ⟨rfl, hb8⟩; have HB8 := Lib.hid (HB7.out.trans (hb8.mono HB7.out.size)); clear hb8 p0 p1 p2 q0 q1 q2 r0 r1 r2; obtain ⟨⟨⟨p0, p1, p2⟩, q0, q1, q2⟩, r0, r1, r2⟩ := HALL.out w8 HB8.out))
  have HW8 : Hid (Below W0.heap.size W0 w8) := HB5.out.trans (HB8.out.mono HB5.out.size)
  have HBW : Hid (Below w.heap.size w w8) := HB0.out.trans (HW8.out.mono HB0.out.size)
  have HI8 : Hid (IsInts w8 (.slice ua (flatB P).length uc) (flatB P)) := HI5.out.below HB8.out (Nat.le_refl _)
  clear HX2 HX3 HD2 HD3 HB1 HB2 HB3 HB4 HB6 HB7 HC4 HI4 HI5 HE2 HALL HM7 HS7 HG7 HG5 HI2 HI3 HC2 HC3 HBa p0 p1 p2 q0 q1 q2
  obtain ⟨tg, htg, hti, htn, htc⟩ := HGW.out.tg
  have htl : tg.length = gs.length := by rw [← htg, shapeG_len]
  have HTG := Lib.hid htg
  have HTI := Lib.hid hti
  have HTN := Lib.hid htn
  have hsz8 : w.heap.size ≤ w8.heap.size := HBW.out.size
  have HTC : Hid (∀ ad, ga = some ad → ∀ j u, (cellsG tg)[j]? = some u → (w8.alloc (.cells #[] 71)).cell? (ad.add j) = some u) := fun ad had j u hj => by
    refine htc ad had ?_ _ (fun p hpp => ?_) j u hj
    · by_cases hne : gs = []
      · exact .inr (by rw [hne] at htl; exact List.eq_nil_of_length_eq_zero htl)
      · obtain ⟨_, _, e, _, _, _, _, b', off', ha', _⟩ := HGW.out
        injection e with e1
        obtain ⟨h1, h2⟩ := ha' hne
        rw [← e1, had] at h1
        injection h1 with h1
        exact .inl (by rw [h1]; exact h2)
    · exact ((below_new w8 _).cell (p := p) (by omega)).trans (HBW.out.cell hpp)
  have HTB : Hid (∀ g ∈ shapeG tg, gBd g) := by rw [htg]; exact HGW.out.bd
  have HON : Hid (∀ u ∈ cellsG tg, u.oneCell' = true) := cells_oneG (w0 := w) (w := w) (B := 0) (fun x hx => .inr (HTI.out x hx))
  have HTL := Lib.hid htl
  obtain ⟨gn, hgn⟩ : ∃ gn, tg.length = gn := ⟨_, rfl⟩
  have HGNE := Lib.hid hgn
  have HGG : Hid (gs.length = gn) := by show _ = _; rw [← htl, hgn]
  clear htg hti htn htc htl hgn
  obtain ⟨y0, y1, y2⟩ := HXC.out (w8.alloc (.cells #[] 71)) (HW8.out.alloc HW8.out.size _)
  go_upto_region 10 with (at_builtin; go_loud (refine wpList_appGi rfl (.tmp 91) (.tmp 93) rfl w8.heap.size (.slice (some ⟨w8.heap.size, 0, none⟩) 0 0) tg ga gc gs.length rfl rfl HTL.out.symm (emp_rowG w8) HTN.out HTC.out HON.out (by have := HTL.out; have := HGL.out; omega) (by simp) ?_; intro v9 w9 hrow9 hg9; have HR9 := Lib.hid hrow9; have HG9 := Lib.hid hg9; clear hrow9 hg9 r0 r1 r2 y0 y1 y2))
  have HB9 : Hid (Below w8.heap.size w8 w9) := (below_new w8 _).grown HG9.out (by simp) (fun g hg => (by have h9 : w8.heap.size = g := (by simpa [Value.ownBlock] using hg); omega))
  have HRW : Hid (RowG w w9 w8.heap.size v9 tg) := ⟨HBW.out.trans (HB9.out.mono HBW.out.size), hsz8, HR9.out, fun x hx => .inr (HTI.out x hx), HTB.out⟩
  obtain ⟨a9, c9, rfl⟩ := rowG3_shape HR9.out
  rw [HGNE.out] at HRW ⊢
  clear HR9 HG9 HTC HON HTN
  have HPM0 : Hid ((shapeG tg).Perm gs) := by show List.Perm _ _; rw [HTG.out]
  go_wp2
  go_loopw [97] (fun i wr => ∃ (k : Nat) (t : List Tg), k ≤ sw.length ∧ i = .int .i64 k ∧ RowG w wr w8.heap.size (.slice a9 gn c9) t ∧ (shapeG t).Perm gs ∧ Below w8.heap.size w8 wr) (fun i _ => sw.length - (intOf i).toNat)
  case atStart => exact ⟨0, tg, Nat.zero_le _, rfl, HRW.out, HPM0.out, HB9.out⟩
  case round =>
    clear HRW HPM0 HB9
    obtain ⟨k, t, hk, rfl, hrw, hpm, hbel⟩ := hrel
    have HRW := Lib.hid hrw
    have HPM := Lib.hid hpm
    have HB := Lib.hid hbel
    have hlt : t.length = gn := by rw [← shapeG_len t, hpm.length_eq]; exact HGG.out
    have HLT := Lib.hid hlt
    have HWW : Hid (Below W0.heap.size W0 wr) := HW8.out.trans (hbel.mono HW8.out.size)
    clear hrw hpm hbel hlt
    by_cases hks : k < sw.length
    · obtain ⟨b, off, rfl, hb, hc, hx0, hx1⟩ := (HUP.out wr HWW.out).2.1.at hks
      have hk0 : (0 : Int) ≤ (k : Int) := by omega
      have hk1 : (k : Int) < (sw.length : Int) := by omega
      have HKL := Lib.hid hks
      clear hks hk
      generalize sw.getD k 0 = x at *
      by_cases hz : gn = 0
      · subst hz
        go_wp2
        go_roundw
        case rel => exact ⟨k + 1, t, HKL.out, by go_num, HRW.out, HPM.out, HB.out⟩
        case measure => have := HKL.out; simp [intOf]; omega
      · have hgp : (0 : Int) < (gn : Int) := by omega
        go_upto_region 14 with fail
        have hxi : 0 ≤ x % (gn : Int) ∧ x % (gn : Int) < (gn : Int) := ⟨Int.emod_nonneg _ (by omega), Int.emod_lt_of_pos _ hgp⟩
        have hxm : 0 ≤ x / 256 % (gn : Int) ∧ x / 256 % (gn : Int) < (gn : Int) := ⟨Int.emod_nonneg _ (by omega), Int.emod_lt_of_pos _ hgp⟩
        have HXI := Lib.hid hxi
        have HXM := Lib.hid hxm
        clear hxi hxm
        go_wp2_with fail
        go_quiet (fail)
        have HBQ : Hid (Below w8.heap.size w8 (wr.drewN nq)) := HB.out.trans (Quiet.below (⟨nq, rfl⟩ : Quiet wr (wr.drewN nq)) _)
        have HRQ : Hid (RowG w (wr.drewN nq) w8.heap.size (.slice a9 gn c9) t) := HRW.out.below' (Quiet.below (⟨nq, rfl⟩ : Quiet wr (wr.drewN nq)) _) (Nat.le_refl _)
        clear hc hx0 hx1 HRW HB
        generalize wr.drewN nq = wq at *
        generalize x % (gn : Int) = zi at *
        generalize x / 256 % (gn : Int) = zm at *
        obtain ⟨i, rfl⟩ := Int.eq_ofNat_of_zero_le HXI.out.1
        obtain ⟨m, rfl⟩ := Int.eq_ofNat_of_zero_le HXM.out.1
        have hi1 : (i : Int) < (gn : Int) := HXI.out.2
        have hm1 : (m : Int) < (gn : Int) := HXM.out.2
        have hi0 : (0 : Int) ≤ (i : Int) := by omega
        have hm0 : (0 : Int) ≤ (m : Int) := by omega
        have HSDq : Hid (Below w8.heap.size w8 wq.drew) := HBQ.out.trans ((Below.refl _ _).drew.mono HBQ.out.size)
        have hR1 : RowG w wq.drew w8.heap.size (.slice a9 gn c9) t := HRQ.out.below' (Below.refl _ _).drew (Nat.le_refl _)
        have hi' : i < t.length := by have := HLT.out; omega
        have hm' : m < t.length := by have := HLT.out; omega
        obtain ⟨g, ea, hgB, hgL, _, _, _⟩ := hR1.at (show 0 < t.length by omega)
        obtain ⟨of0, hof⟩ : ∃ of0 : Nat, of0 = 0 := ⟨_, rfl⟩
        obtain rfl : a9 = some ⟨g, of0, none⟩ := by rw [hof]; exact ea
        have hR0 : RowG w wq.drew w8.heap.size (.slice (some ⟨g, 0, none⟩) t.length c9) t := by rw [HLT.out, ← hof]; exact hR1
        obtain ⟨hsw, hkp⟩ := hR0.swap hi' hm'
        have mi : t.getD i dT ∈ t := by simp [List.getD, hi']
        have mm : t.getD m dT ∈ t := by simp [List.getD, hm']
        have bd : ∀ x ∈ t, gBd (x.1, x.2.1, x.2.2.2) := fun x hx => hR0.bd _ (List.mem_map_of_mem (f := fun x : Tg => (x.1, x.2.1, x.2.2.2)) hx)
        obtain ⟨hst, hk1, _⟩ := hR0.setG hi' (t.getD m dT) (hR0.elems _ mm) (bd _ mm)
        have hst' : RowG w (setG wq.drew g 0 i (t.getD m dT)) w8.heap.size (.slice (some ⟨g, 0, none⟩) (t.set i (t.getD m dT)).length c9) (t.set i (t.getD m dT)) := by rw [List.length_set]; exact hst
        obtain ⟨g1, e1, _, _, a0, a1, a2⟩ := hR0.at hi'
        injection e1 with e1; injection e1 with e1; subst e1
        obtain ⟨g2, e2, _, _, b0, b1, b2⟩ := hR0.at hm'
        injection e2 with e2; injection e2 with e2; subst e2
        obtain ⟨g3, e3, _, _, s0, s1, s2⟩ := hst'.at (j := m) (by rw [List.length_set]; exact hm')
        injection e3 with e3; injection e3 with e3; subst e3
        have fz : ∀ j, wq.drew.frozen? ⟨g, j, none⟩ = false := fun j => World.ownsRow.frozenAt hR0.row j
        have fs : ∀ j, (setG wq.drew g 0 i (t.getD m dT)).frozen? ⟨g, j, none⟩ = false := fun j => World.ownsRow.frozenAt hst'.row j
        have HS1' : Below w8.heap.size w8 (setG wq.drew g 0 i (t.getD m dT)) := HSDq.out.trans (hk1.belowB hgB HSDq.out.size)
        have HS2' : Below w8.heap.size w8 (setG (setG wq.drew g 0 i (t.getD m dT)) g 0 m (t.getD i dT)) := HSDq.out.trans (hkp.belowB hgB HSDq.out.size)
        have hps : (shapeG (swapT t i m)).Perm gs := ((swapT_perm hi' hm').map _).trans HPM.out
        obtain ⟨iu, ic, hiu⟩ := (hR0.elems _ mi).shape
        obtain ⟨mu, mc, hmu⟩ := (hR0.elems _ mm).shape
        have hll : (swapT t i m).length = gn := by rw [swapT_len]; exact HLT.out
        rw [HLT.out] at hsw
        clear ea hR1 hR0 hst hst' hk1 hkp bd mi mm
        rw [← hof] at hsw HS1' HS2' s0 s1 s2 fs
        have a0' : wq.drew.cell? ⟨g, of0 + i * 3, none⟩ = some (.int .i64 (t.getD i dT).1) := by rw [hof, Nat.zero_add]; exact a0
        have a1' : wq.drew.cell? ⟨g, of0 + i * 3 + 1, none⟩ = some (.int .u8 (t.getD i dT).2.1) := by rw [hof, Nat.zero_add]; exact a1
        have a2' : wq.drew.cell? ⟨g, of0 + i * 3 + 2, none⟩ = some (t.getD i dT).2.2.1 := by rw [hof, Nat.zero_add]; exact a2
        have b0' : wq.drew.cell? ⟨g, of0 + m * 3, none⟩ = some (.int .i64 (t.getD m dT).1) := by rw [hof, Nat.zero_add]; exact b0
        have b1' : wq.drew.cell? ⟨g, of0 + m * 3 + 1, none⟩ = some (.int .u8 (t.getD m dT).2.1) := by rw [hof, Nat.zero_add]; exact b1
        have b2' : wq.drew.cell? ⟨g, of0 + m * 3 + 2, none⟩ = some (t.getD m dT).2.2.1 := by rw [hof, Nat.zero_add]; exact b2
        have s0' : (setG wq.drew g of0 i (t.getD m dT)).cell? ⟨g, of0 + m * 3, none⟩ = some (.int .i64 ((t.set i (t.getD m dT)).getD m dT).1) := by rw [show of0 + m * 3 = m * 3 by omega]; exact s0
        have s1' : (setG wq.drew g of0 i (t.getD m dT)).cell? ⟨g, of0 + m * 3 + 1, none⟩ = some (.int .u8 ((t.set i (t.getD m dT)).getD m dT).2.1) := by rw [show of0 + m * 3 = m * 3 by omega]; exact s1
        have s2' : (setG wq.drew g of0 i (t.getD m dT)).cell? ⟨g, of0 + m * 3 + 2, none⟩ = some ((t.set i (t.getD m dT)).getD m dT).2.2.1 := by rw [show of0 + m * 3 = m * 3 by omega]; exact s2
        clear a0 a1 a2 b0 b1 b2 s0 s1 s2 hi' hm'
        generalize (t.set i (t.getD m dT)).getD m dT = ys at *
        generalize swapT t i m = tn at *
        generalize t.getD i dT = yi at *
        generalize t.getD m dT = ym at *
        obtain ⟨i1, i2, i3, i4⟩ := yi
        obtain ⟨n1, n2, n3, n4⟩ := ym
        simp only at hiu hmu a0' a1' a2' b0' b1' b2'
        subst hiu
        subst hmu
        unfold setG at hsw HS1' HS2' s0' s1' s2' fs
        simp only at hsw HS1' HS2' s0' s1' s2' fs
        have HSD := HSDq
        have HSW := Lib.hid hsw
        have HS1 := Lib.hid HS1'
        have HS2 := Lib.hid HS2'
        have HPS := Lib.hid hps
        have HLI := Lib.hid (And.intro a0' (And.intro a1' a2'))
        have HLM := Lib.hid (And.intro b0' (And.intro b1' b2'))
        have HCI := Lib.hid (And.intro a0' (And.intro a1' (And.intro a2' (And.intro (fz (of0 + i * 3)) (And.intro (fz (of0 + i * 3 + 1)) (fz (of0 + i * 3 + 2)))))))
        have HCM := Lib.hid (And.intro s0' (And.intro s1' (And.intro s2' (And.intro (fs (of0 + m * 3)) (And.intro (fs (of0 + m * 3 + 1)) (fs (of0 + m * 3 + 2)))))))
        have HOF0 := Lib.hid hof
        have HGP := Lib.hid (And.intro hgB hgL)
        clear hsw HS1' HS2' hps a0' a1' a2' b0' b1' b2' s0' s1' s2' fz fs HSDq hof hgB hgL hll
        go_wp2_with fail
        refine wp_region_held_drew (S := fun X => Below w8.heap.size w8 X) (by kernel_rfl) HSD.out (fun hSd => ?_)
        generalize wq.drew = wd at *
        refine takeC (i := 0) (v := .slice (some ⟨g, of0, none⟩) gn c9) (some 115) rfl rfl (by kernel_rfl) (by kernel_rfl) (by kernel_rfl) (fun _ _ _ h => h) (Or.inl ⟨by rfl, ?_⟩) (by assumption) ?_
        · intro wz hSw; go_simp
        try simp only [Act.put, List.setIfInBounds_toArray, List.set_cons_zero, List.set_cons_succ]
        refine takeC (i := 1) (v := .int .i64 (i : Int)) (some 116) rfl rfl (by kernel_rfl) (by kernel_rfl) (by kernel_rfl) (fun _ _ _ h => h) (Or.inl ⟨by rfl, ?_⟩) (by assumption) ?_
        · intro wz hSw; go_simp
        try simp only [Act.put, List.setIfInBounds_toArray, List.set_cons_zero, List.set_cons_succ]
        refine takeC (i := 2) (v := .slice (some ⟨g, of0, none⟩) gn c9) (some 117) rfl rfl (by kernel_rfl) (by kernel_rfl) (by kernel_rfl) (fun _ _ _ h => h) (Or.inl ⟨by rfl, ?_⟩) (by assumption) ?_
        · intro wz hSw; go_simp
        try simp only [Act.put, List.setIfInBounds_toArray, List.set_cons_zero, List.set_cons_succ]
        refine takeC (i := 3) (v := .int .i64 (m : Int)) (some 118) rfl rfl (by kernel_rfl) (by kernel_rfl) (by kernel_rfl) (fun _ _ _ h => h) (Or.inl ⟨by rfl, ?_⟩) (by assumption) ?_
        · intro wz hSw; go_simp
        try simp only [Act.put, List.setIfInBounds_toArray, List.set_cons_zero, List.set_cons_succ]
        refine takeC (i := 4) (v := .slice (some ⟨g, of0, none⟩) gn c9) (some 119) rfl rfl (by kernel_rfl) (by kernel_rfl) (by kernel_rfl) (fun _ _ _ h => h) (Or.inl ⟨by rfl, ?_⟩) (by assumption) ?_
        · intro wz hSw; go_simp
        try simp only [Act.put, List.setIfInBounds_toArray, List.set_cons_zero, List.set_cons_succ]
        refine takeC (i := 5) (v := .int .i64 (m : Int)) (some 120) rfl rfl (by kernel_rfl) (by kernel_rfl) (by kernel_rfl) (fun _ _ _ h => h) (Or.inl ⟨by rfl, ?_⟩) (by assumption) ?_
        · intro wz hSw; go_simp
        try simp only [Act.put, List.setIfInBounds_toArray, List.set_cons_zero, List.set_cons_succ]
        refine takeC (i := 6) (v := .pointer (some ⟨g, of0 + m * 3, none⟩)) (some 121) rfl rfl (by kernel_rfl) (by kernel_rfl) (by kernel_rfl) (fun _ _ _ h => h) (Or.inl ⟨by rfl, ?_⟩) (by assumption) ?_
        · intro wz hSw; go_simp
        try simp only [Act.put, List.setIfInBounds_toArray, List.set_cons_zero, List.set_cons_succ]
        refine takeC (i := 8) (v := .slice (some ⟨g, of0, none⟩) gn c9) (some 123) rfl rfl (by kernel_rfl) (by kernel_rfl) (by kernel_rfl) (fun _ _ _ h => h) (Or.inl ⟨by rfl, ?_⟩) (by assumption) ?_
        · intro wz hSw; go_simp
        try simp only [Act.put, List.setIfInBounds_toArray, List.set_cons_zero, List.set_cons_succ]
        refine takeC (i := 9) (v := .int .i64 (i : Int)) (some 124) rfl rfl (by kernel_rfl) (by kernel_rfl) (by kernel_rfl) (fun _ _ _ h => h) (Or.inl ⟨by rfl, ?_⟩) (by assumption) ?_
        · intro wz hSw; go_simp
        try simp only [Act.put, List.setIfInBounds_toArray, List.set_cons_zero, List.set_cons_succ]
        refine takeC (i := 10) (v := .pointer (some ⟨g, of0 + i * 3, none⟩)) (some 125) rfl rfl (by kernel_rfl) (by kernel_rfl) (by kernel_rfl) (fun _ _ _ h => h) (Or.inl ⟨by rfl, ?_⟩) (by assumption) ?_
        · intro wz hSw; go_simp
        try simp only [Act.put, List.setIfInBounds_toArray, List.set_cons_zero, List.set_cons_succ]
        obtain ⟨ci0, ci1, ci2⟩ := HLI.out
        obtain ⟨cm0, cm1, cm2⟩ := HLM.out
        refine wpAnyH_ready (rs := [7, 11]) (by kernel_rfl) (by simp) ?_
        refine AllReadyH.cons rfl (fun K hK => ?_) (AllReadyH.cons rfl (fun K hK => ?_) AllReadyH.nil)
        · go_simp
          refine hK.out _ _ HSD.out (fun hH7 => ?_)
          clear hK K hH7
          try simp only [Act.put, List.setIfInBounds_toArray, List.set_cons_zero, List.set_cons_succ]
          refine wpAnyH_ready (rs := [11]) (by kernel_rfl) (by simp) ?_
          refine AllReadyH.cons rfl (fun K hK => ?_) AllReadyH.nil
          go_simp
          refine hK.out _ _ HSD.out (fun hH7 => ?_)
          clear hK K hH7
          try simp only [Act.put, List.setIfInBounds_toArray, List.set_cons_zero, List.set_cons_succ]
          refine takeC (i := 12) (v := .pointer (some ⟨g, of0 + i * 3, none⟩)) (some 127) rfl rfl (by kernel_rfl) (by kernel_rfl) (by kernel_rfl) (fun _ _ _ h => h) (Or.inl ⟨by rfl, ?_⟩) (by assumption) ?_
          · intro wz hSw; go_simp
          try simp only [Act.put, List.setIfInBounds_toArray, List.set_cons_zero, List.set_cons_succ]
          refine wpAnyH_ready (rs := [13]) (by kernel_rfl) (by simp) ?_
          refine AllReadyH.cons rfl (fun K hK => ?_) AllReadyH.nil
          clear ci0 ci1 ci2 cm0 cm1 cm2
          obtain ⟨ci0, ci1, ci2, fi0, fi1, fi2⟩ := HCI.out
          go_simp
          refine hK.out _ _ HS1.out (fun hH13 => ?_)
          clear hK K
          try simp only [Act.put, List.setIfInBounds_toArray, List.set_cons_zero, List.set_cons_succ]
          refine takeC (i := 14) (v := .pointer (some ⟨g, of0 + m * 3, none⟩)) (some 128) rfl rfl (by kernel_rfl) (by kernel_rfl) (by kernel_rfl) (fun _ _ _ h => h) (Or.inl ⟨by rfl, ?_⟩) (by assumption) ?_
          · intro wz hSw; go_simp
          try simp only [Act.put, List.setIfInBounds_toArray, List.set_cons_zero, List.set_cons_succ]
          refine wpAnyH_ready (rs := [15]) (by kernel_rfl) (by simp) ?_
          refine AllReadyH.cons rfl (fun K hK => ?_) AllReadyH.nil
          clear ci0 ci1 ci2 fi0 fi1 fi2
          obtain ⟨cm0, cm1, cm2, fm0, fm1, fm2⟩ := HCM.out
          go_simp
          refine hK.out _ _ HS2.out (fun hH15 => ?_)
          clear hK K
          try simp only [Act.put, List.setIfInBounds_toArray, List.set_cons_zero, List.set_cons_succ]
          refine wpAnyH_done (by kernel_rfl) ?_ _
          go_wp2
          go_roundw
          case rel => exact ⟨k + 1, _, HKL.out, by go_num, HSW.out, HPS.out, HS2.out⟩
          case measure => have := HKL.out; simp [intOf]; omega
        · go_simp
          refine hK.out _ _ HSD.out (fun hH7 => ?_)
          clear hK K hH7
          try simp only [Act.put, List.setIfInBounds_toArray, List.set_cons_zero, List.set_cons_succ]
          refine wpAnyH_ready (rs := [7]) (by kernel_rfl) (by simp) ?_
          refine AllReadyH.cons rfl (fun K hK => ?_) AllReadyH.nil
          go_simp
          refine hK.out _ _ HSD.out (fun hH7 => ?_)
          clear hK K hH7
          try simp only [Act.put, List.setIfInBounds_toArray, List.set_cons_zero, List.set_cons_succ]
          refine takeC (i := 12) (v := .pointer (some ⟨g, of0 + i * 3, none⟩)) (some 127) rfl rfl (by kernel_rfl) (by kernel_rfl) (by kernel_rfl) (fun _ _ _ h => h) (Or.inl ⟨by rfl, ?_⟩) (by assumption) ?_
          · intro wz hSw; go_simp
          try simp only [Act.put, List.setIfInBounds_toArray, List.set_cons_zero, List.set_cons_succ]
          refine wpAnyH_ready (rs := [13]) (by kernel_rfl) (by simp) ?_
          refine AllReadyH.cons rfl (fun K hK => ?_) AllReadyH.nil
          clear ci0 ci1 ci2 cm0 cm1 cm2
          obtain ⟨ci0, ci1, ci2, fi0, fi1, fi2⟩ := HCI.out
          go_simp
          refine hK.out _ _ HS1.out (fun hH13 => ?_)
          clear hK K
          try simp only [Act.put, List.setIfInBounds_toArray, List.set_cons_zero, List.set_cons_succ]
          refine takeC (i := 14) (v := .pointer (some ⟨g, of0 + m * 3, none⟩)) (some 128) rfl rfl (by kernel_rfl) (by kernel_rfl) (by kernel_rfl) (fun _ _ _ h => h) (Or.inl ⟨by rfl, ?_⟩) (by assumption) ?_
          · intro wz hSw; go_simp
          try simp only [Act.put, List.setIfInBounds_toArray, List.set_cons_zero, List.set_cons_succ]
          refine wpAnyH_ready (rs := [15]) (by kernel_rfl) (by simp) ?_
          refine AllReadyH.cons rfl (fun K hK => ?_) AllReadyH.nil
          clear ci0 ci1 ci2 fi0 fi1 fi2
          obtain ⟨cm0, cm1, cm2, fm0, fm1, fm2⟩ := HCM.out
          go_simp
          refine hK.out _ _ HS2.out (fun hH15 => ?_)
          clear hK K
          try simp only [Act.put, List.setIfInBounds_toArray, List.set_cons_zero, List.set_cons_succ]
          refine wpAnyH_done (by kernel_rfl) ?_ _
          go_wp2
          go_roundw
          case rel => exact ⟨k + 1, _, HKL.out, by go_num, HSW.out, HPS.out, HS2.out⟩
          case measure => have := HKL.out; simp [intOf]; omega
    · have hlen : (shapeG t).length = gn := by rw [shapeG_len]; exact HLT.out
      have hHG : IsGates wr (.slice a9 gn c9) (shapeG t) := HRW.out.gates (by have := HLT.out; have := HGL.out; have := HGG.out; omega)
      have hHI : IsInts wr (.slice ua (flatB P).length uc) (flatB P) := HI8.out.below HB.out (Nat.le_refl _)
      have hox := HO2.out wr _ _ (shapeG t) HPM.out hHI hHG
      simp only [hlen] at hox
      have HOX := Lib.hid hox
      have HIW := Lib.hid hHI
      clear hHG hHI hox hlen hk
      obtain ⟨r0, r1, r2⟩ := HXC.out wr HWW.out
      go_upto_region 18 with (go_at_call 26; refine HOX.out.mono ?_; rintro e w11 ⟨hb11, a11, c11, t11, G, rfl, hr11, hs11, hgl11, hmG, hvG⟩; have HB11 := Lib.hid hb11; have HW11 : Hid (Below W0.heap.size W0 w11) := HWW.out.trans (hb11.mono HWW.out.size); have HG11 : Hid (IsGates w11 (.slice a11 gn c11) G) := (by have h := hr11.gates (by rw [← shapeG_len t11, hs11, hgl11]; have := HGL.out; have := HGG.out; omega); rw [hs11] at h; exact h); have HMG11 := Lib.hid (And.intro hmG hvG); clear hb11 hr11 hs11 hgl11 hmG hvG r0 r1 r2; obtain ⟨r0, r1, r2⟩ := HXC.out w11 HW11.out)
      go_upto_region 19 with fail
      have HX11 := Lib.hid (net_boxed (o := o) (HUP.out w11 HW11.out).1.1 HG11.out)
      have HD11 : Hid (Below w11.heap.size w11 (w11.alloc (.cells #[.slice pa P.length pc, .slice a11 gn c11, .int .i64 o] 25))) := below_new _ _
      have HWX : Hid (Below W0.heap.size W0 (w11.alloc (.cells #[.slice pa P.length pc, .slice a11 gn c11, .int .i64 o] 25))) := HW11.out.trans (HD11.out.mono HW11.out.size)
      have HIX : Hid (IsInts (w11.alloc (.cells #[.slice pa P.length pc, .slice a11 gn c11, .int .i64 o] 25)) (.slice ua (flatB P).length uc) (flatB P)) := (HIW.out.below HB11.out (Nat.le_refl _)).below HD11.out (Nat.le_refl _)
      clear r0 r1 r2 HG11 HD11 HOX HIW HB11 HW11
      generalize w11.alloc (.cells #[.slice pa P.length pc, .slice a11 gn c11, .int .i64 o] 25) = X11 at *
      generalize w11.heap.size = b11 at *
      obtain ⟨r0, r1, r2⟩ := HXC.out X11 HWX.out
      go_upto_region 20 with (go_at_call 34; refine (HWA.out X11 _ HWX.out HIX.out).mono ?_; rintro e w12 ⟨v12, rfl, ho12, hb12⟩; have HC12 := Lib.hid hb12; have HW12 : Hid (Below W0.heap.size W0 w12) := HWX.out.trans (hb12.mono HWX.out.size); have HL12 : Hid (IsInts w12 v12 La) := ho12.ints HL64.out.2 HL64.out.1; obtain ⟨la, lc, rfl⟩ := own_shC ho12; clear ho12 hb12 r0 r1 r2; obtain ⟨r0, r1, r2⟩ := HXC.out w12 HW12.out; obtain ⟨⟨p0, p1, p2⟩, _, _⟩ := HX11.out w12 HC12.out)
      go_upto_region 21 with (go_at_call 20; refine (HE0.out _ w12 HW12.out HL12.out).mono ?_; rintro e w13 ⟨rfl, hb13⟩; have HC13 := Lib.hid (HC12.out.trans (hb13.mono HC12.out.size)); have HL13 := Lib.hid (HL12.out.below hb13 (Nat.le_refl _)); clear hb13 r0 r1 r2 p0 p1 p2)
      have HEV := Lib.hid (HEG.out G _ _ _ w13 HMG11.out.1 HMG11.out.2 (HX11.out w13 HC13.out).2.1 (HX11.out w13 HC13.out).2.2 HL13.out)
      have HMV : Hid (∀ X, Below w13.heap.size w13 X → Calls Try.prog 16 #[.agg #[.slice pa P.length pc, .slice a11 gn c11, .int .i64 o]] X fun e w' => e = .returned (.bool true) ∧ Below X.heap.size X w') := fun X hX => HMG.out G _ _ X HMG11.out.1 (HX11.out X (HC13.out.trans (hX.mono HC13.out.size))).2.1 (HX11.out X (HC13.out.trans (hX.mono HC13.out.size))).2.2
      have HXB : Hid (∀ X, Below w13.heap.size w13 X → BoxN X b11 (.slice pa P.length pc) (.slice a11 gn c11) o) := fun X hX => (HX11.out X (HC13.out.trans (hX.mono HC13.out.size))).1
      clear HX11 HEG HMG HMG11 HE0 HO2 HWA HL12 HL13 HPM HRW
      obtain ⟨p0, p1, p2⟩ := HXB.out w13 (Below.refl _ _)
      go_upto_region 22 with (go_at_call 20; go_loud (refine HEV.out.mono ?_; rintro e w14 ⟨rfl, hb14⟩; have HC14 := Lib.hid hb14; clear hb14 p0 p1 p2; obtain ⟨p0, p1, p2⟩ := HXB.out w14 HC14.out))
      go_wp2_with (first
        | (go_at_call 16; refine (HMV.out w14 HC14.out).mono ?_; rintro e w15 ⟨rfl, hb15⟩; have HC15 := Lib.hid (HC14.out.trans (hb15.mono HC14.out.size)); clear hb15 p0 p1 p2)
        | (go_at_call 12; refine (works_any _).mono ?_; rintro e w16 ⟨rfl, hb16⟩; have HC16 := Lib.hid (HC15.out.trans (hb16.mono HC15.out.size)); clear hb16))
      go_ret
      exact ⟨rfl, HB0.out.trans ((HWX.out.trans ((HC13.out.trans (HC16.out.mono HC13.out.size)).mono HWX.out.size)).mono HB0.out.size)⟩
end Go.Proofs.Yticcikelapifaaa
