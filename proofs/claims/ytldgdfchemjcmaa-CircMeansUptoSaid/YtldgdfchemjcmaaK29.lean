/- Joined texts: CxLawMean. -/
import Derived.Test.YtldgdfchemjcmaaK23
import Derived.Test.YtldgdfchemjcmaaK25
import Derived.Test.YtldgdfchemjcmaaK28
/- The law CircMeans, walked. -/
namespace Go.Proofs.Ytldgdfchemjcmaa
open Go.RowKit Go.Maps Go.Shelf
set_option linter.unusedVariables false
set_option linter.unusedSimpArgs false

theorem mayN_len {P : List Blk} {gs : List Gt} {o : Int} (h : mayN P gs o = true) : gs.length ≤ 65536 ∧ P.length ≤ 1024 ∧ (-9223372036854775808 ≤ o ∧ o ≤ 9223372036854775807) := by
  obtain ⟨R, hp, _, hn, ho, hP⟩ := mayN_named h
  have hv := (namedL_gates gs _ _ R hn hP).2
  have hf := namedL_full gs _ _ R hn
  refine ⟨?_, (mayP_short hp).2, varC_range (hv _ ho)⟩
  have h1 := vset_len (S := gs.map (fun g => g.1)) ⟨namedL_nodup gs _ _ R hn, fun y hy => hv y (by rw [hf]; exact List.mem_append_right _ hy)⟩
  rwa [List.length_map] at h1
/-- Eval of a valid net under a list in order. -/
theorem eval_valid {P : List Blk} {gs : List Gt} {o : Int} (h : mayN P gs o = true) {l : List Int} (hl : mayB l = true) (hll : l.length ≤ 3000000) (vp vg v : Value) (X : World) (HP : IsBlocks X vp P) (HG : IsGates X vg gs) (HL : IsInts X v l) :
    Calls Try.prog 20 #[.agg #[vp, vg, .int .i64 o], v] X fun e w' => e = .returned (.tuple #[.bool (litV (runA gs l).1 o), .int .i64 0]) ∧ Below X.heap.size X w' := by
  obtain ⟨h1, h2, h3, h4⟩ := mayN_len h
  have hc := ceval_any vp vg v o P gs l X HP HG HL (by omega) (by omega) hll h3 h4
  have he : evalN P gs o l = (litV (runA gs l).1 o, 0) := by
    unfold evalN
    rw [if_pos (by unfold okN; rw [h]; exact hl)]
  rw [he] at hc
  exact hc
/-- What comes back is a net. -/
def NetGot (X : World) (P : List Blk) (gs : List Gt) (o r : Int) (e : Ending) (w' : World) : Prop :=
  ∃ a c a2 c2, e = .returned (.tuple #[.agg #[.slice a P.length c, .slice a2 gs.length c2, .int .i64 o], .int .i64 r]) ∧ IsBlocks w' (.slice a P.length c) P ∧ IsGates w' (.slice a2 gs.length c2) gs ∧ Below X.heap.size X w'
theorem NetBack.got {X : World} {P : List Blk} {gs : List Gt} {o r : Int} {e : Ending} {w' : World} (h : NetBack X ((P, gs, o), r) e w') : NetGot X P gs o r e w' := by
  obtain ⟨vp, vg, a, c, a2, c2, rfl, rfl, h3, h4, h5, h6⟩ := h
  exact ⟨a, c, a2, c2, h3, h4, h5, h6⟩
theorem compose_mem {P P2 : List Blk} {gs gs2 : List Gt} {o v o2 : Int} (h : (composeN P gs o v P2 gs2 o2).2 = 0) : v ∈ flatB P := by
  unfold composeN at h
  by_cases h1 : (mayN P gs o && mayN P2 gs2 o2) = true
  · rw [if_pos h1] at h
    by_cases h2 : v ∈ flatB P
    · exact h2
    · rw [if_neg h2] at h; cases h
  · rw [if_neg h1] at h; cases h
theorem inside_first (a V : List Int) (i : Int) : setA (fun _ => false) (insideL a V) i = (firstL (insideL a V) i).getD false := setA_first _ _ _ (overL_asc [] _)

set_option maxRecDepth 100000 in
set_option maxHeartbeats 12800000 in
theorem circmeans_any (vp vg vp2 vg2 va vf : Value) (o o2 x : Int) (P P2 : List Blk) (gs gs2 : List Gt) (a fix : List Int) (w : World) (HP : IsBlocks w vp P) (HG : IsGates w vg gs) (HP2 : IsBlocks w vp2 P2) (HG2 : IsGates w vg2 gs2) (HA : IsInts w va a) (HF : IsInts w vf fix)
    (hp : P.length ≤ 2000000) (hg : gs.length < 400000) (hs : sizeG gs ≤ 2000000) (hg2 : gs2.length < 400000) (hs2 : sizeG gs2 ≤ 2000000) (hp2 : P2.length ≤ 2000000) (hal : a.length ≤ 1100000) (hfl : fix.length ≤ 1100000)
    (ho1 : -9223372036854775808 ≤ o) (ho2 : o ≤ 9223372036854775807) (hq1 : -9223372036854775808 ≤ o2) (hq2 : o2 ≤ 9223372036854775807) (hx1 : -9223372036854775808 ≤ x) (hx2 : x ≤ 9223372036854775807) :
    Calls Try.prog 7 #[.agg #[vp, vg, .int .i64 o], .agg #[vp2, vg2, .int .i64 o2], .int .i64 x, va, vf] w fun e w' => e = .returned (.bool true) ∧ Below w.heap.size w w' := by
  obtain ⟨pa, pc, rfl, _⟩ := HP.shape
  obtain ⟨ga, gc, rfl, _⟩ := HG.shape
  obtain ⟨pa2, pc2, rfl, _⟩ := HP2.shape
  obtain ⟨ga2, gc2, rfl, _⟩ := HG2.shape
  obtain ⟨aa, ac, rfl⟩ := HA.shape
  obtain ⟨fa, fc, rfl⟩ := HF.shape
  obtain ⟨Wa, hWa⟩ : ∃ W, w.alloc (.cells #[.slice pa P.length pc, .slice ga gs.length gc, .int .i64 o] 25) = W := ⟨_, rfl⟩
  obtain ⟨W0, hW0⟩ : ∃ W0, Wa.alloc (.cells #[.slice pa2 P2.length pc2, .slice ga2 gs2.length gc2, .int .i64 o2] 25) = W0 := ⟨_, rfl⟩
  have hba : Below w.heap.size w Wa := by rw [← hWa]; exact below_new _ _
  have hza : Wa.heap.size = w.heap.size + 1 := by rw [← hWa]; simp
  have hbb : Below Wa.heap.size Wa W0 := by rw [← hW0]; exact below_new _ _
  have hz0 : W0.heap.size = w.heap.size + 1 + 1 := by rw [← hW0, World.size_alloc, hza]
  have hb0 : Below w.heap.size w W0 := hba.trans (hbb.mono (by omega))
  have hbx := box_new w (.slice pa P.length pc) (.slice ga gs.length gc) o
  have hbx2 := box_new Wa (.slice pa2 P2.length pc2) (.slice ga2 gs2.length gc2) o2
  rw [hWa] at hbx
  rw [hW0, hza] at hbx2
  have HXC : Hid (∀ X, Below W0.heap.size W0 X → BoxN X w.heap.size (.slice pa P.length pc) (.slice ga gs.length gc) o ∧ BoxN X (w.heap.size + 1) (.slice pa2 P2.length pc2) (.slice ga2 gs2.length gc2) o2) := fun X hX => ⟨hbx X ((hbb.trans (hX.mono (by omega))).mono (by omega)), hbx2 X (hX.mono (by omega))⟩
  have HW0 : Hid ((w.alloc (.cells #[.slice pa P.length pc, .slice ga gs.length gc, .int .i64 o] 25)).alloc (.cells #[.slice pa2 P2.length pc2, .slice ga2 gs2.length gc2, .int .i64 o2] 25) = W0) := by show _ = _; rw [hWa]; exact hW0
  have HB0 := Lib.hid hb0
  have up : ∀ X, Below W0.heap.size W0 X → (IsBlocks X (.slice pa P.length pc) P ∧ IsGates X (.slice ga gs.length gc) gs) ∧ (IsBlocks X (.slice pa2 P2.length pc2) P2 ∧ IsGates X (.slice ga2 gs2.length gc2) gs2) ∧ IsInts X (.slice aa a.length ac) a ∧ IsInts X (.slice fa fix.length fc) fix := fun X hX => by
    have h := hb0.trans (hX.mono hb0.size)
    exact ⟨⟨HP.below h (Nat.le_refl _), HG.below h (Nat.le_refl _)⟩, ⟨HP2.below h (Nat.le_refl _), HG2.below h (Nat.le_refl _)⟩, HA.below h (Nat.le_refl _), HF.below h (Nat.le_refl _)⟩
  have u0 := up W0 (Below.refl _ _)
  have H1 := Lib.hid (great_two _ _ _ _ o o2 P P2 gs gs2 W0 u0.1.1 u0.1.2 u0.2.1.1 u0.2.1.2 (by omega) (by omega) (by omega) (by omega))
  have HM : Hid (∀ X, Below W0.heap.size W0 X → Calls Try.prog 16 #[.agg #[.slice pa P.length pc, .slice ga gs.length gc, .int .i64 o]] X fun e w' => e = .returned (.bool (mayN P gs o)) ∧ Below X.heap.size X w') := fun X hX => rmay5_any _ _ o P gs X (up X hX).1.1 (up X hX).1.2 (by omega) (by omega) ho1 ho2
  have HUP := Lib.hid up
  have HSZ := Lib.hid (And.intro hp (And.intro hg (And.intro hg2 (And.intro hal (And.intro hfl hp2)))))
  have HBD := Lib.hid (And.intro ho1 (And.intro ho2 (And.intro hq1 (And.intro hq2 (And.intro hx1 hx2)))))
  clear up u0 HP HG HP2 HG2 HA HF hWa hW0 hba hbb hb0 hbx hbx2 hza hz0 hp hp2 hg hs hg2 hs2 hal hfl ho1 ho2 hq1 hq2 hx1 hx2
  obtain ⟨⟨p0, p1, p2⟩, q0, q1, q2⟩ := HXC.out W0 (Below.refl _ _)
  have stop : ∀ (q : Bool), ((manyG gs || manyG gs2) || (decide ((2000 : Int) < (a.length : Int)) || (decide ((2000 : Int) < (fix.length : Int)) || !mayN P gs o))) = q → q = true → Calls Try.prog 7 #[.agg #[.slice pa P.length pc, .slice ga gs.length gc, .int .i64 o], .agg #[.slice pa2 P2.length pc2, .slice ga2 gs2.length gc2, .int .i64 o2], .int .i64 x, .slice aa a.length ac, .slice fa fix.length fc] w fun e w' => e = .returned (.bool true) ∧ Below w.heap.size w w' := by
    intro q hq hq1
    subst hq1
    clear HUP HSZ HBD
    cases hm : (manyG gs || manyG gs2) with
    | true =>
      rw [hm] at H1
      clear hq hm HM
      go_enter Try.func7, Try.ntmps7
      go_upto_region 1 with fail
      rw [HW0.out]
      go_wp2_with (first
        | (go_at_call 11; refine H1.out.mono ?_; rintro e w1 ⟨rfl, hb1⟩)
        | (go_at_call 12; refine (works_any _).mono ?_; rintro e w2 ⟨rfl, hb2⟩))
      go_ret
      exact ⟨rfl, HB0.out.trans ((hb1.trans (hb2.mono hb1.size)).mono HB0.out.size)⟩
    | false =>
      rw [hm] at H1 hq
      clear hm
      by_cases ha : (2000 : Int) < (a.length : Int)
      · clear hq HM
        go_enter Try.func7, Try.ntmps7
        go_upto_region 1 with fail
        rw [HW0.out]
        go_wp2_with (first
          | (go_at_call 11; refine H1.out.mono ?_; rintro e w1 ⟨rfl, hb1⟩)
          | (go_at_call 12; refine (works_any _).mono ?_; rintro e w2 ⟨rfl, hb2⟩))
        go_ret
        exact ⟨rfl, HB0.out.trans ((hb1.trans (hb2.mono hb1.size)).mono HB0.out.size)⟩
      · have hab : decide ((2000 : Int) < (a.length : Int)) = false := by simpa using ha
        rw [hab] at hq
        clear ha
        by_cases hb : (2000 : Int) < (fix.length : Int)
        · clear hq HM
          go_enter Try.func7, Try.ntmps7
          go_upto_region 1 with fail
          rw [HW0.out]
          go_wp2_with (first
            | (go_at_call 11; refine H1.out.mono ?_; rintro e w1 ⟨rfl, hb1⟩)
            | (go_at_call 12; refine (works_any _).mono ?_; rintro e w2 ⟨rfl, hb2⟩))
          go_ret
          exact ⟨rfl, HB0.out.trans ((hb1.trans (hb2.mono hb1.size)).mono HB0.out.size)⟩
        · have hbb : decide ((2000 : Int) < (fix.length : Int)) = false := by simpa using hb
          rw [hbb] at hq
          have hmo : mayN P gs o = false := by simpa using hq
          rw [hmo] at HM
          clear hb hq hmo
          go_enter Try.func7, Try.ntmps7
          go_upto_region 1 with fail
          rw [HW0.out]
          go_wp2_with (first
            | (go_at_call 11; refine H1.out.mono ?_; rintro e w1 ⟨rfl, hb1⟩; clear p0 p1 p2 q0 q1 q2; obtain ⟨⟨p0, p1, p2⟩, q0, q1, q2⟩ := HXC.out w1 hb1)
            | (go_at_call 16; refine (HM.out w1 hb1).mono ?_; rintro e w3 ⟨rfl, hb3⟩)
            | (go_at_call 12; refine (works_any _).mono ?_; rintro e w2 ⟨rfl, hb2⟩))
          go_ret
          exact ⟨rfl, HB0.out.trans ((hb1.trans ((hb3.trans (hb2.mono hb3.size)).mono hb1.size)).mono HB0.out.size)⟩
  by_cases hq : ((manyG gs || manyG gs2) || (decide ((2000 : Int) < (a.length : Int)) || (decide ((2000 : Int) < (fix.length : Int)) || !mayN P gs o))) = true
  · exact stop _ rfl hq
  clear stop
  have hq2 : (manyG gs || manyG gs2) = false ∧ decide ((2000 : Int) < (a.length : Int)) = false ∧ decide ((2000 : Int) < (fix.length : Int)) = false ∧ mayN P gs o = true := by
    revert hq
    cases (manyG gs || manyG gs2) <;> cases decide ((2000 : Int) < (a.length : Int)) <;> cases decide ((2000 : Int) < (fix.length : Int)) <;> cases mayN P gs o <;> simp
  clear hq
  obtain ⟨hmg, hab, hbb, hmo⟩ := hq2
  rw [hmg] at H1
  rw [hmo] at HM
  obtain ⟨R, hmp, hnm, hnl, ho, hPv⟩ := mayN_named hmo
  have HPV := Lib.hid hPv
  have HPL := Lib.hid (mayP_short hmp).1
  have HP64 : Hid (In64 (flatB P)) := fun y hy => by have := HPV.out y hy; omega
  -- what the two lists are
  have ha1 := overL_asc [] (a.filter (fun x => decide (varC x ∈ flatB P)))
  have hf1 := overL_asc [] (fix.filter (fun x => decide (varC x ∈ flatB P)))
  have hva : varIn (insideL a (flatB P)) := overL_in (fun x hx => by cases hx) (within_in hPv)
  have hvf : varIn (insideL fix (flatB P)) := overL_in (fun x hx => by cases hx) (within_in hPv)
  have hmem : ∀ (l : List Int) z, z ∈ insideL l (flatB P) → varC z ∈ flatB P := fun l z hz => by
    rcases overL_mem hz with h | h
    · simpa using (List.mem_filter.1 h).2
    · cases h
  have mba : mayB (insideL a (flatB P)) = true := asc_mayB ha1 hva
  have mbf : mayB (insideL fix (flatB P)) = true := asc_mayB hf1 hvf
  have hf2 : fix.length ≤ 2000 := by have h := hbb; rw [decide_eq_false_iff_not] at h; omega
  have HLF2 : Hid ((insideL fix (flatB P)).length ≤ 2000) := Nat.le_trans (within_len fix (flatB P)) hf2
  have lna := Nat.le_trans (within_len a (flatB P)) HSZ.out.2.2.2.1
  have lnf := Nat.le_trans (within_len fix (flatB P)) HSZ.out.2.2.2.2.1
  have mbo : mayB (overL (insideL a (flatB P)) (insideL fix (flatB P))) = true := asc_mayB (overL_asc _ _) (overL_in hva hvf)
  have lno : (overL (insideL a (flatB P)) (insideL fix (flatB P))).length ≤ 3000000 := by have := overL_len (insideL a (flatB P)) (insideL fix (flatB P)); omega
  have sm := simp_means (fix := []) hmo List.Pairwise.nil (fun x hx => by cases hx) (insideL a (flatB P)) (insideL a (flatB P)) (fun i => rfl)
  have cm := simp_means (fix := insideL fix (flatB P)) hmo hf1 (hmem fix) (insideL a (flatB P)) (overL (insideL a (flatB P)) (insideL fix (flatB P))) (fun i => by
    rw [over_says, inside_first]
    cases firstL (insideL fix (flatB P)) i with
    | none => cases firstL (insideL a (flatB P)) i <;> rfl
    | some s => rfl)
  have hsn : simpleN P gs o = (simpN P gs o [], 0) := by unfold simpleN; rw [if_pos hmo]
  have hcn : cofN P gs o (insideL fix (flatB P)) = (simpN P gs o (insideL fix (flatB P)), 0) := by
    unfold cofN
    rw [if_pos (by unfold okN; rw [hmo]; exact mbf), if_pos (List.all_eq_true.2 (fun z hz => by simpa using hmem fix z hz))]
  have HVA : Hid (∀ X, Below W0.heap.size W0 X → Calls Try.prog 33 #[.slice pa P.length pc] X fun e w' => ∃ u, e = .returned u ∧ Own w' X.heap.size u (flatB P) ∧ Below X.heap.size X w') := fun X hX => vars5_any _ P X (HUP.out X hX).1.1 (by have := HPL.out; omega)
  have HWA : Hid (∀ X v, Below W0.heap.size W0 X → IsInts X v (flatB P) → Calls Try.prog 34 #[.slice aa a.length ac, v] X (RetOwn X (insideL a (flatB P)))) := fun X v hX hv => within5_any _ _ a _ X (HUP.out X hX).2.2.1 hv HPV.out (by have := HSZ.out.2.2.2.1; omega)
  have HWF : Hid (∀ X v, Below W0.heap.size W0 X → IsInts X v (flatB P) → Calls Try.prog 34 #[.slice fa fix.length fc, v] X (RetOwn X (insideL fix (flatB P)))) := fun X v hX hv => within5_any _ _ fix _ X (HUP.out X hX).2.2.2 hv HPV.out (by have := HSZ.out.2.2.2.2.1; omega)
  have HE0 : Hid (∀ v X, Below W0.heap.size W0 X → IsInts X v (insideL a (flatB P)) → Calls Try.prog 20 #[.agg #[.slice pa P.length pc, .slice ga gs.length gc, .int .i64 o], v] X fun e w' => e = .returned (.tuple #[.bool (litV (runA gs (insideL a (flatB P))).1 o), .int .i64 0]) ∧ Below X.heap.size X w') := fun v X hX hv => eval_valid hmo mba (by omega) _ _ _ X (HUP.out X hX).1.1 (HUP.out X hX).1.2 hv
  have HEO : Hid (∀ v X, Below W0.heap.size W0 X → IsInts X v (overL (insideL a (flatB P)) (insideL fix (flatB P))) → Calls Try.prog 20 #[.agg #[.slice pa P.length pc, .slice ga gs.length gc, .int .i64 o], v] X fun e w' => e = .returned (.tuple #[.bool (litV (runA gs (overL (insideL a (flatB P)) (insideL fix (flatB P)))).1 o), .int .i64 0]) ∧ Below X.heap.size X w') := fun v X hX hv => eval_valid hmo mbo lno _ _ _ X (HUP.out X hX).1.1 (HUP.out X hX).1.2 hv
  have HSI : Hid (∀ X, Below W0.heap.size W0 X → Calls Try.prog 29 #[.agg #[.slice pa P.length pc, .slice ga gs.length gc, .int .i64 o]] X (NetGot X (simpN P gs o []).1 (simpN P gs o []).2.1 (simpN P gs o []).2.2 0)) := fun X hX => (csimple_any _ _ o P gs X (HUP.out X hX).1.1 (HUP.out X hX).1.2 (by have := HSZ.out.1; omega) (by have := HSZ.out.2.1; omega) HBD.out.1 HBD.out.2.1).mono (fun e w' h => by
    rw [hsn] at h
    exact (NetBack.of h (Below.refl _ _)).got)
  have HCO : Hid (∀ v X, Below W0.heap.size W0 X → IsInts X v (insideL fix (flatB P)) → Calls Try.prog 31 #[.agg #[.slice pa P.length pc, .slice ga gs.length gc, .int .i64 o], v] X (NetGot X (simpN P gs o (insideL fix (flatB P))).1 (simpN P gs o (insideL fix (flatB P))).2.1 (simpN P gs o (insideL fix (flatB P))).2.2 0)) := fun v X hX hv => (ccof_any _ _ v o P gs _ X (HUP.out X hX).1.1 (HUP.out X hX).1.2 hv (by have := HSZ.out.1; omega) (by have := HSZ.out.2.1; omega) (by have := HLF2.out; omega) HBD.out.1 HBD.out.2.1).mono (fun e w' h => by
    rw [hcn] at h
    exact (NetBack.of h (Below.refl _ _)).got)
  have HES : Hid (∀ p g v X, IsBlocks X p (simpN P gs o []).1 → IsGates X g (simpN P gs o []).2.1 → IsInts X v (insideL a (flatB P)) → Calls Try.prog 20 #[.agg #[p, g, .int .i64 (simpN P gs o []).2.2], v] X fun e w' => e = .returned (.tuple #[.bool (litV (runA gs (insideL a (flatB P))).1 o), .int .i64 0]) ∧ Below X.heap.size X w') := fun p g v X h1 h2 h3 => by
    have h := eval_valid sm.1 mba (by omega) p g v X h1 h2 h3
    rw [sm.2] at h
    exact h
  have HEC : Hid (∀ p g v X, IsBlocks X p (simpN P gs o (insideL fix (flatB P))).1 → IsGates X g (simpN P gs o (insideL fix (flatB P))).2.1 → IsInts X v (insideL a (flatB P)) → Calls Try.prog 20 #[.agg #[p, g, .int .i64 (simpN P gs o (insideL fix (flatB P))).2.2], v] X fun e w' => e = .returned (.tuple #[.bool (litV (runA gs (overL (insideL a (flatB P)) (insideL fix (flatB P)))).1 o), .int .i64 0]) ∧ Below X.heap.size X w') := fun p g v X h1 h2 h3 => by
    have h := eval_valid cm.1 mba (by omega) p g v X h1 h2 h3
    rw [cm.2] at h
    exact h
  have HCM : Hid (∀ X, Below W0.heap.size W0 X → Calls Try.prog 36 #[.agg #[.slice pa P.length pc, .slice ga gs.length gc, .int .i64 o], .int .i64 x, .agg #[.slice pa2 P2.length pc2, .slice ga2 gs2.length gc2, .int .i64 o2]] X (NetGot X (composeN P gs o x P2 gs2 o2).1.1 (composeN P gs o x P2 gs2 o2).1.2.1 (composeN P gs o x P2 gs2 o2).1.2.2 (composeN P gs o x P2 gs2 o2).2)) := fun X hX => (ccompose_any _ _ _ _ o o2 x P P2 gs gs2 X (HUP.out X hX).1.1 (HUP.out X hX).1.2 (HUP.out X hX).2.1.1 (HUP.out X hX).2.1.2 (by have := HSZ.out.1; omega) HSZ.out.2.1 (by have := HSZ.out.2.2.2.2.2; omega) HSZ.out.2.2.1 HBD.out.1 HBD.out.2.1 HBD.out.2.2.1 HBD.out.2.2.2.1 HBD.out.2.2.2.2.1 HBD.out.2.2.2.2.2).mono (fun e w' h => (NetBack.of h (Below.refl _ _)).got)
  have HEL : Hid (∀ (s : Bool) v X, x ∈ flatB P → Below W0.heap.size W0 X → IsInts X v (overL (insideL a (flatB P)) [if s = true then x else -x]) → Calls Try.prog 20 #[.agg #[.slice pa P.length pc, .slice ga gs.length gc, .int .i64 o], v] X fun e w' => e = .returned (.tuple #[.bool (litV (runA gs (overL (insideL a (flatB P)) [if s = true then x else -x])).1 o), .int .i64 0]) ∧ Below X.heap.size X w') := fun s v X hxm hX hv => by
    have hx := HPV.out x hxm
    have hvx : varIn [if s = true then x else -x] := fun z hz => by
      rw [List.mem_singleton] at hz
      subst hz
      cases s
      · rw [if_neg (by simp), varC_neg (by omega), varC_at hx.1]; exact hx
      · rw [if_pos rfl, varC_at hx.1]; exact hx
    exact eval_valid hmo (asc_mayB (overL_asc _ _) (overL_in hva hvx)) (by have := overL_len (insideL a (flatB P)) [if s = true then x else -x]; simp at this; omega) _ _ _ X (HUP.out X hX).1.1 (HUP.out X hX).1.2 hv
  have HZZ : Hid ((composeN P gs o x P2 gs2 o2).2 = 0 → (1 ≤ x ∧ x ≤ 65536) ∧ x ∈ flatB P ∧
      (∀ v X, Below W0.heap.size W0 X → IsInts X v (insideL a (flatB P)) → Calls Try.prog 20 #[.agg #[.slice pa2 P2.length pc2, .slice ga2 gs2.length gc2, .int .i64 o2], v] X fun e w' => e = .returned (.tuple #[.bool (litV (runA gs2 (insideL a (flatB P))).1 o2), .int .i64 0]) ∧ Below X.heap.size X w') ∧
      ∀ p g v X, IsBlocks X p (composeN P gs o x P2 gs2 o2).1.1 → IsGates X g (composeN P gs o x P2 gs2 o2).1.2.1 → IsInts X v (insideL a (flatB P)) → Calls Try.prog 20 #[.agg #[p, g, .int .i64 (composeN P gs o x P2 gs2 o2).1.2.2], v] X fun e w' => e = .returned (.tuple #[.bool (litV (runA gs (overL (insideL a (flatB P)) [if litV (runA gs2 (insideL a (flatB P))).1 o2 = true then x else -x])).1 o), .int .i64 0]) ∧ Below X.heap.size X w') := fun hz => by
    have hxm0 : x ∈ flatB P := compose_mem hz
    have hx := HPV.out x hxm0
    have hcm := compose_means hz (insideL a (flatB P)) (overL (insideL a (flatB P)) [if litV (runA gs2 (insideL a (flatB P))).1 o2 = true then x else -x]) (fun i => by
      rw [over_says, inside_first]
      have hvl : varC (if litV (runA gs2 (insideL a (flatB P))).1 o2 = true then x else -x) = x := by
        split
        · exact varC_at hx.1
        · rw [varC_neg (by omega), varC_at hx.1]
      rw [first_cons, hvl]
      by_cases hi : i = x
      · rw [if_pos hi.symm, if_pos hi]
        cases litV (runA gs2 (insideL a (flatB P))).1 o2
        · simp; omega
        · simp; omega
      · rw [if_neg (fun e => hi e.symm), if_neg hi]
        cases firstL (insideL a (flatB P)) i <;> rfl)
    refine ⟨hx, hxm0, fun v X hX hv => eval_valid hcm.2.2.1 mba (by omega) _ _ _ X (HUP.out X hX).2.1.1 (HUP.out X hX).2.1.2 hv, fun p g v X h1 h2 h3 => ?_⟩
    have h := eval_valid hcm.2.2.2.2.1 mba (by omega) p g v X h1 h2 h3
    rw [hcm.2.2.2.2.2] at h
    exact h
  have HVIA := Lib.hid hva
  have HVIF := Lib.hid hvf
  have HLNA := Lib.hid lna
  have HLNF := Lib.hid lnf
  clear hmg hmo hmp hnm hnl ho hPv ha1 hf1 hva hvf hmem mba mbf lna lnf mbo lno sm cm hsn hcn hf2 HLF2 HSZ HBD
  generalize litV (runA gs (insideL a (flatB P))).1 o = r0 at *
  generalize litV (runA gs (overL (insideL a (flatB P)) (insideL fix (flatB P)))).1 o = r1 at *
  generalize litV (runA gs2 (insideL a (flatB P))).1 o2 = s0 at *
  generalize hS : simpN P gs o [] = NS at *
  generalize hC : simpN P gs o (insideL fix (flatB P)) = NC at *
  generalize hZ : composeN P gs o x P2 gs2 o2 = NZ at *
  obtain ⟨PS, GS, oS⟩ := NS
  obtain ⟨PC, GC, oC⟩ := NC
  obtain ⟨⟨PZ, GZ, oZ⟩, eZ⟩ := NZ
  clear hS hC hZ
  simp only at HSI HCO HES HEC HCM HZZ
  generalize insideL a (flatB P) = A1 at *
  generalize insideL fix (flatB P) = F1 at *
  generalize flatB P = V at *
  go_enter Try.func7, Try.ntmps7
  go_upto_region 1 with fail
  rw [HW0.out]
  go_upto_region 7 with (first
    | (go_at_call 11; refine H1.out.mono ?_; rintro e w1 ⟨rfl, hb1⟩; have HB1 := Lib.hid hb1; clear hb1 p0 p1 p2 q0 q1 q2; obtain ⟨⟨p0, p1, p2⟩, q0, q1, q2⟩ := HXC.out w1 HB1.out)
    | (go_at_call 16; refine (HM.out w1 HB1.out).mono ?_; rintro e w2 ⟨rfl, hb2⟩; have HB2 := Lib.hid (HB1.out.trans (hb2.mono HB1.out.size)); clear hb2 p0 p1 p2 q0 q1 q2; obtain ⟨⟨p0, p1, p2⟩, q0, q1, q2⟩ := HXC.out w2 HB2.out)
    | (go_at_call 33; refine (HVA.out w2 HB2.out).mono ?_; rintro e w3 ⟨v3, rfl, ho3, hb3⟩; have HB3 := Lib.hid (HB2.out.trans (hb3.mono HB2.out.size)); have HI3 := Lib.hid (ho3.ints (by have := HPL.out; omega) HP64.out); clear hb3 ho3)
    | (go_at_call_of 34 (Value.slice aa a.length ac); refine (HWA.out w3 v3 HB3.out HI3.out).mono ?_; rintro e w4 ⟨v4, rfl, ho4, hb4⟩; have HB34 := Lib.hid hb4; have HB4 := Lib.hid (HB3.out.trans (hb4.mono HB3.out.size)); have HI4 := Lib.hid (ho4.ints (by have := HLNA.out; omega) (fun z hz => varC_range (HVIA.out z hz))); clear hb4 ho4)
    | (go_at_call_of 34 (Value.slice fa fix.length fc); refine (HWF.out w4 v3 HB4.out (HI3.out.below HB34.out (Nat.le_refl _))).mono ?_; rintro e w5 ⟨v5, rfl, ho5, hb5⟩; have HB45 := Lib.hid hb5; have HB5 := Lib.hid (HB4.out.trans (hb5.mono HB4.out.size)); have HI5 := Lib.hid (ho5.ints (by have := HLNF.out; omega) (fun z hz => varC_range (HVIF.out z hz))); clear hb5 ho5 p0 p1 p2 q0 q1 q2; obtain ⟨⟨p0, p1, p2⟩, q0, q1, q2⟩ := HXC.out w5 HB5.out)
    | (go_at_call 20; refine (HE0.out v4 w5 HB5.out (HI4.out.below HB45.out (Nat.le_refl _))).mono ?_; rintro e w6 ⟨rfl, hb6⟩; have HB56 := Lib.hid hb6; have HB6 := Lib.hid (HB5.out.trans (hb6.mono HB5.out.size)); clear hb6 p0 p1 p2 q0 q1 q2; obtain ⟨⟨p0, p1, p2⟩, q0, q1, q2⟩ := HXC.out w6 HB6.out)
    | (go_at_call 29; refine (HSI.out w6 HB6.out).mono ?_; rintro e w7 ⟨sa, sc, sa2, sc2, rfl, hPS, hGS, hb7⟩; have HPS := Lib.hid hPS; have HGS := Lib.hid hGS; have HB67 := Lib.hid hb7; have HB7 := Lib.hid (HB6.out.trans (hb7.mono HB6.out.size)); clear hb7 hPS hGS p0 p1 p2 q0 q1 q2))
  have HU7 : Hid (∀ X, Below w7.heap.size w7 X → Below W0.heap.size W0 X ∧ IsInts X v4 A1 ∧ IsInts X v5 F1 ∧ IsBlocks X (.slice sa PS.length sc) PS ∧ IsGates X (.slice sa2 GS.length sc2) GS) := fun X hX => by
    have h6 := HB67.out.trans (hX.mono HB67.out.size)
    have h5 := HB56.out.trans (h6.mono HB56.out.size)
    exact ⟨HB7.out.trans (hX.mono HB7.out.size), (HI4.out.below HB45.out (Nat.le_refl _)).below h5 (Nat.le_refl _), HI5.out.below h5 (Nat.le_refl _), HPS.out.below hX (Nat.le_refl _), HGS.out.below hX (Nat.le_refl _)⟩
  obtain ⟨W8, hW8⟩ : ∃ W, w7.alloc (.cells #[.slice sa PS.length sc, .slice sa2 GS.length sc2, .int .i64 oS] 25) = W := ⟨_, rfl⟩
  have hb8 : Below w7.heap.size w7 W8 := by rw [← hW8]; exact below_new _ _
  have hz8 : W8.heap.size = w7.heap.size + 1 := by rw [← hW8]; simp
  have hbx8 := box_new w7 (.slice sa PS.length sc) (.slice sa2 GS.length sc2) oS
  rw [hW8] at hbx8 ⊢
  have HX8 : Hid (∀ X, Below W8.heap.size W8 X → BoxN X w7.heap.size (.slice sa PS.length sc) (.slice sa2 GS.length sc2) oS ∧ Below w7.heap.size w7 X) := fun X hX => ⟨hbx8 X (hX.mono (by omega)), hb8.trans (hX.mono hb8.size)⟩
  have HB8 := Lib.hid hb8
  clear hW8 hb8 hz8 hbx8 HI3 HI4 HI5 HPS HGS HB34 HB45 HB56 HB67 H1 HM HVA HWA HWF HSI HE0
  obtain ⟨⟨p0, p1, p2⟩, _⟩ := HX8.out W8 (Below.refl _ _)
  have HES2 : Hid (∀ X, Below w7.heap.size w7 X → Calls Try.prog 20 #[.agg #[.slice sa PS.length sc, .slice sa2 GS.length sc2, .int .i64 oS], v4] X fun e w' => e = .returned (.tuple #[.bool r0, .int .i64 0]) ∧ Below X.heap.size X w') := fun X hX => HES.out _ _ v4 X (HU7.out X hX).2.2.2.1 (HU7.out X hX).2.2.2.2 (HU7.out X hX).2.1
  clear HES
  go_upto_region 11 with (first
    | (go_at_call 20; refine (HES2.out W8 HB8.out).mono ?_; rintro e w9 ⟨rfl, hb9⟩; have HB9 := Lib.hid (HB8.out.trans (hb9.mono HB8.out.size)); clear hb9 p0 p1 p2; obtain ⟨⟨p0, p1, p2⟩, q0, q1, q2⟩ := HXC.out w9 (HU7.out w9 HB9.out).1)
    | (go_at_call 31; refine (HCO.out v5 w9 (HU7.out w9 HB9.out).1 (HU7.out w9 HB9.out).2.2.1).mono ?_; rintro e w10 ⟨ca, cc, ca2, cc2, rfl, hPC, hGC, hb10⟩; have HPC := Lib.hid hPC; have HGC := Lib.hid hGC; have HB10 := Lib.hid (HB9.out.trans (hb10.mono HB9.out.size)); clear hb10 hPC hGC p0 p1 p2 q0 q1 q2))
  obtain ⟨W11, hW11⟩ : ∃ W, w10.alloc (.cells #[.slice ca PC.length cc, .slice ca2 GC.length cc2, .int .i64 oC] 25) = W := ⟨_, rfl⟩
  have hb11 : Below w10.heap.size w10 W11 := by rw [← hW11]; exact below_new _ _
  have hz11 : W11.heap.size = w10.heap.size + 1 := by rw [← hW11]; simp
  have hbx11 := box_new w10 (.slice ca PC.length cc) (.slice ca2 GC.length cc2) oC
  rw [hW11] at hbx11 ⊢
  have HX11 : Hid (∀ X, Below W11.heap.size W11 X → BoxN X w10.heap.size (.slice ca PC.length cc) (.slice ca2 GC.length cc2) oC ∧ Below w7.heap.size w7 X) := fun X hX => ⟨hbx11 X (hX.mono (by omega)), HB10.out.trans ((hb11.trans (hX.mono hb11.size)).mono HB10.out.size)⟩
  have HEC2 : Hid (Calls Try.prog 20 #[.agg #[.slice ca PC.length cc, .slice ca2 GC.length cc2, .int .i64 oC], v4] W11 fun e w' => e = .returned (.tuple #[.bool r1, .int .i64 0]) ∧ Below W11.heap.size W11 w') := HEC.out _ _ v4 W11 (HPC.out.below hb11 (Nat.le_refl _)) (HGC.out.below hb11 (Nat.le_refl _)) (HU7.out W11 (HX11.out W11 (Below.refl _ _)).2).2.1
  have HB11 : Hid (Below w7.heap.size w7 W11) := (HX11.out W11 (Below.refl _ _)).2
  clear hW11 hb11 hz11 hbx11 HES2 HEC HPC HGC HCO
  obtain ⟨⟨p0, p1, p2⟩, _⟩ := HX11.out W11 (Below.refl _ _)
  go_wp2_with (go_at_call 20; refine HEC2.out.mono ?_; rintro e w12 ⟨rfl, hb12⟩; have HB12 := Lib.hid (HB11.out.trans (hb12.mono HB11.out.size)); clear hb12 p0 p1 p2)
  have HUW : Hid (∀ X, Below w12.heap.size w12 X → Below w7.heap.size w7 X) := fun X hX => HB12.out.trans (hX.mono HB12.out.size)
  have HXD : Hid (∀ X, Below w12.heap.size w12 X → BoxN X w.heap.size (.slice pa P.length pc) (.slice ga gs.length gc) o ∧ BoxN X (w.heap.size + 1) (.slice pa2 P2.length pc2) (.slice ga2 gs2.length gc2) o2) := fun X hX => HXC.out X (HU7.out X (HUW.out X hX)).1
  refine wp_region_held_drew (S := fun X => Below w12.heap.size w12 X) (by kernel_rfl) (Below.refl _ _).drew (fun hSd => ?_)
  have hbd : Below w12.heap.size w12 w12.drew := (Below.refl _ _).drew
  generalize w12.drew = x0 at *
  refine takeC (i := 0) (v := .agg #[.slice pa P.length pc, .slice ga gs.length gc, .int .i64 o]) (some 97) rfl rfl (by kernel_rfl) (by kernel_rfl) (by kernel_rfl) (fun _ _ _ h => h) (Or.inl ⟨by rfl, ?_⟩) (by assumption) ?_
  · intro wz hSw; obtain ⟨⟨t0, t1, t2⟩, y0, y1, y2⟩ := HXD.out wz hSw; go_simp
  try simp only [Act.put, List.setIfInBounds_toArray, List.set_cons_zero, List.set_cons_succ]
  refine takeC (i := 1) (v := v4) (some 98) rfl rfl (by kernel_rfl) (by kernel_rfl) (by kernel_rfl) (fun _ _ _ h => h) (Or.inl ⟨by rfl, ?_⟩) (by assumption) ?_
  · intro wz hSw; go_simp
  try simp only [Act.put, List.setIfInBounds_toArray, List.set_cons_zero, List.set_cons_succ]
  refine takeC (i := 2) (v := v5) (some 99) rfl rfl (by kernel_rfl) (by kernel_rfl) (by kernel_rfl) (fun _ _ _ h => h) (Or.inl ⟨by rfl, ?_⟩) (by assumption) ?_
  · intro wz hSw; go_simp
  try simp only [Act.put, List.setIfInBounds_toArray, List.set_cons_zero, List.set_cons_succ]
  refine wpAnyH_ready (rs := [3]) (by kernel_rfl) (by simp) ?_
  refine AllReadyH.cons rfl (fun K hK => ?_) AllReadyH.nil
  go_simp
  go_wp2_with (go_at_call 35; refine (over5_any v4 v5 A1 F1 x0 (HU7.out x0 (HUW.out x0 hbd)).2.1 (HU7.out x0 (HUW.out x0 hbd)).2.2.1 HVIA.out HVIF.out (by have := HLNA.out; omega) (by have := HLNF.out; omega)).mono ?_; rintro e x1 ⟨v13, rfl, ho13, hb13⟩)
  have hb1 : Below w12.heap.size w12 x1 := hbd.trans (hb13.mono hbd.size)
  have HI13 : Hid (IsInts x1 v13 (overL A1 F1)) := ho13.ints (by have h1 := overL_len A1 F1; have := HLNF.out; have := HLNA.out; omega) (fun z hz => varC_range (overL_in HVIA.out HVIF.out z hz))
  refine hK.out _ _ hb1 (fun hS1 => ?_)
  clear hK K
  try simp only [Act.put, List.setIfInBounds_toArray, List.set_cons_zero, List.set_cons_succ]
  refine wpAnyH_ready (rs := [4]) (by kernel_rfl) (by simp) ?_
  refine AllReadyH.cons rfl (fun K hK => ?_) AllReadyH.nil
  go_simp
  go_wp2_with (go_at_call 20; refine (HEO.out v13 x1 (HU7.out x1 (HUW.out x1 hb1)).1 HI13.out).mono ?_; rintro e x2 ⟨rfl, hb14⟩)
  have hb2 : Below w12.heap.size w12 x2 := hb1.trans (hb14.mono hb1.size)
  refine hK.out _ _ hb2 (fun hS2 => ?_)
  clear hK K
  try simp only [Act.put, List.setIfInBounds_toArray, List.set_cons_zero, List.set_cons_succ]
  refine takeC (i := 5) (v := .tuple #[.bool r1, .int .i64 0]) (some 96) rfl rfl (by kernel_rfl) (by kernel_rfl) (by kernel_rfl) (fun _ _ _ h => h) (Or.inl ⟨by rfl, ?_⟩) (by assumption) ?_
  · intro wz hSw; go_simp
  try simp only [Act.put, List.setIfInBounds_toArray, List.set_cons_zero, List.set_cons_succ]
  refine takeC (i := 6) (v := .bool r1) (some 102) rfl rfl (by kernel_rfl) (by kernel_rfl) (by kernel_rfl) (fun _ _ _ h => h) (Or.inl ⟨by rfl, ?_⟩) (by assumption) ?_
  · intro wz hSw; go_simp
  try simp only [Act.put, List.setIfInBounds_toArray, List.set_cons_zero, List.set_cons_succ]
  refine takeC (i := 7) (v := .int .i64 0) (some 103) rfl rfl (by kernel_rfl) (by kernel_rfl) (by kernel_rfl) (fun _ _ _ h => h) (Or.inl ⟨by rfl, ?_⟩) (by assumption) ?_
  · intro wz hSw; go_simp
  try simp only [Act.put, List.setIfInBounds_toArray, List.set_cons_zero, List.set_cons_succ]
  refine takeC (i := 8) (v := .bool r1) (some 16) rfl rfl (by kernel_rfl) (by kernel_rfl) (by kernel_rfl) (fun _ _ _ h => h) (Or.inl ⟨by rfl, ?_⟩) (by assumption) ?_
  · intro wz hSw; go_simp
  try simp only [Act.put, List.setIfInBounds_toArray, List.set_cons_zero, List.set_cons_succ]
  refine takeC (i := 9) (v := .int .i64 0) (some 17) rfl rfl (by kernel_rfl) (by kernel_rfl) (by kernel_rfl) (fun _ _ _ h => h) (Or.inl ⟨by rfl, ?_⟩) (by assumption) ?_
  · intro wz hSw; go_simp
  try simp only [Act.put, List.setIfInBounds_toArray, List.set_cons_zero, List.set_cons_succ]
  refine wpAnyH_done (by kernel_rfl) ?_ _
  have HB2x : Hid (Below w7.heap.size w7 x2) := HUW.out x2 hb2
  clear hb2 hb1 hbd hb13 hb14 ho13 hS1 hS2 hSd HUW HXD HI13 HEO HEC2 HB12
  obtain ⟨⟨p0, p1, p2⟩, q0, q1, q2⟩ := HXC.out x2 (HU7.out x2 HB2x.out).1
  have HCM2 := Lib.hid (HCM.out x2 (HU7.out x2 HB2x.out).1)
  clear HCM
  by_cases hez : eZ = 0
  · obtain ⟨hxr, hxm, hem, hezz⟩ := HZZ.out hez
    have HXM := Lib.hid hxm
    have HEM := Lib.hid hem
    have HEZ := Lib.hid hezz
    subst hez
    clear HZZ hxm hem hezz
    go_upto_region 16 with (go_at_call 36; refine HCM2.out.mono ?_; rintro e w13 ⟨za, zc, za2, zc2, rfl, hPZ, hGZ, hb13⟩; have HPZ := Lib.hid hPZ; have HGZ := Lib.hid hGZ; have HB13 := Lib.hid (HB2x.out.trans (hb13.mono HB2x.out.size)); clear hb13 hPZ hGZ p0 p1 p2 q0 q1 q2)
    obtain ⟨W14, hW14⟩ : ∃ W, w13.alloc (.cells #[.slice za PZ.length zc, .slice za2 GZ.length zc2, .int .i64 oZ] 25) = W := ⟨_, rfl⟩
    have hb14 : Below w13.heap.size w13 W14 := by rw [← hW14]; exact below_new _ _
    have hz14 : W14.heap.size = w13.heap.size + 1 := by rw [← hW14]; simp
    have hbx14 := box_new w13 (.slice za PZ.length zc) (.slice za2 GZ.length zc2) oZ
    rw [hW14] at hbx14 ⊢
    have HX14 : Hid (∀ X, Below W14.heap.size W14 X → BoxN X w13.heap.size (.slice za PZ.length zc) (.slice za2 GZ.length zc2) oZ ∧ Below w7.heap.size w7 X ∧ IsBlocks X (.slice za PZ.length zc) PZ ∧ IsGates X (.slice za2 GZ.length zc2) GZ) := fun X hX => by
      have h := hb14.trans (hX.mono hb14.size)
      exact ⟨hbx14 X (hX.mono (by omega)), HB13.out.trans (h.mono HB13.out.size), HPZ.out.below h (Nat.le_refl _), HGZ.out.below h (Nat.le_refl _)⟩
    clear hW14 hb14 hz14 hbx14 HPZ HGZ HCM2
    obtain ⟨⟨p0, p1, p2⟩, hb7, _⟩ := HX14.out W14 (Below.refl _ _)
    obtain ⟨_, q0, q1, q2⟩ := HXC.out W14 (HU7.out W14 hb7).1
    have HEM2 : Hid (Calls Try.prog 20 #[.agg #[.slice pa2 P2.length pc2, .slice ga2 gs2.length gc2, .int .i64 o2], v4] W14 fun e w' => e = .returned (.tuple #[.bool s0, .int .i64 0]) ∧ Below W14.heap.size W14 w') := HEM.out v4 W14 (HU7.out W14 hb7).1 (HU7.out W14 hb7).2.1
    have HEZ2 : Hid (∀ X, Below W14.heap.size W14 X → Calls Try.prog 20 #[.agg #[.slice za PZ.length zc, .slice za2 GZ.length zc2, .int .i64 oZ], v4] X fun e w' => e = .returned (.tuple #[.bool (litV (runA gs (overL A1 [if s0 = true then x else -x])).1 o), .int .i64 0]) ∧ Below X.heap.size X w') := fun X hX => HEZ.out _ _ v4 X (HX14.out X hX).2.2.1 (HX14.out X hX).2.2.2 (HU7.out X (HX14.out X hX).2.1).2.1
    have HLV : Hid (varIn [if s0 = true then x else -x]) := fun z hz => by
      rw [List.mem_singleton] at hz
      subst hz
      cases s0
      · rw [if_neg (by simp), varC_neg (by omega), varC_at hxr.1]; exact hxr
      · rw [if_pos rfl, varC_at hxr.1]; exact hxr
    have HEL2 := Lib.hid (fun v X hX hv => HEL.out s0 v X HXM.out hX hv)
    have hneg : wrap64 (-x) = -x := by unfold wrap64; omega
    have HXR := Lib.hid hxr
    clear HEM HEZ HEL hb7 hxr
    generalize hlx : (if s0 = true then x else -x) = lx at *
    have hlb : -9223372036854775808 ≤ lx ∧ lx ≤ 9223372036854775807 := varC_range (HLV.out lx (List.mem_singleton.2 rfl))
    have HLB := Lib.hid hlb
    clear hlb
    generalize litV (runA gs (overL A1 [lx])).1 o = r2 at *
    have fin : ∀ (Q : Prop), Q → Q := fun Q h => h
    cases s0 with
    | true =>
      have hlx2 : x = lx := hlx
      subst hlx2
      clear hlx fin
      go_wp2_with (first
        | (go_at_call_of 20 (Value.int .i64 oZ); refine (HEZ2.out w15 HB15.out).mono ?_; rintro e w16 ⟨rfl, hb16⟩; have HB16 := Lib.hid (HB15.out.trans (hb16.mono HB15.out.size)); clear hb16 p0 p1 p2)
        | (go_at_call 20; refine HEM2.out.mono ?_; rintro e w15 ⟨rfl, hb15⟩; have HB15 := Lib.hid hb15; clear hb15 p0 p1 p2 q0 q1 q2; obtain ⟨⟨p0, p1, p2⟩, _⟩ := HX14.out w15 HB15.out))
      have HUW : Hid (∀ X, Below w16.heap.size w16 X → Below w7.heap.size w7 X) := fun X hX => (HX14.out X (HB16.out.trans (hX.mono HB16.out.size))).2.1
      have HXD : Hid (∀ X, Below w16.heap.size w16 X → BoxN X w.heap.size (.slice pa P.length pc) (.slice ga gs.length gc) o ∧ BoxN X (w.heap.size + 1) (.slice pa2 P2.length pc2) (.slice ga2 gs2.length gc2) o2) := fun X hX => HXC.out X (HU7.out X (HUW.out X hX)).1
      refine wp_region_held_drew (S := fun X => Below w16.heap.size w16 X) (by kernel_rfl) (Below.refl _ _).drew (fun hSd => ?_)
      have hbd : Below w16.heap.size w16 w16.drew := (Below.refl _ _).drew
      generalize w16.drew = x3 at *
      refine takeC (i := 0) (v := .agg #[.slice pa P.length pc, .slice ga gs.length gc, .int .i64 o]) (some 146) rfl rfl (by kernel_rfl) (by kernel_rfl) (by kernel_rfl) (fun _ _ _ h => h) (Or.inl ⟨by rfl, ?_⟩) (by assumption) ?_
      · intro wz hSw; obtain ⟨⟨t0, t1, t2⟩, y0, y1, y2⟩ := HXD.out wz hSw; go_simp
      try simp only [Act.put, List.setIfInBounds_toArray, List.set_cons_zero, List.set_cons_succ]
      refine takeC (i := 1) (v := v4) (some 147) rfl rfl (by kernel_rfl) (by kernel_rfl) (by kernel_rfl) (fun _ _ _ h => h) (Or.inl ⟨by rfl, ?_⟩) (by assumption) ?_
      · intro wz hSw; go_simp
      try simp only [Act.put, List.setIfInBounds_toArray, List.set_cons_zero, List.set_cons_succ]
      refine takeC (i := 2) (v := .int .i64 x) (some 148) rfl rfl (by kernel_rfl) (by kernel_rfl) (by kernel_rfl) (fun _ _ _ h => h) (Or.inl ⟨by rfl, ?_⟩) (by assumption) ?_
      · intro wz hSw; go_simp
      try simp only [Act.put, List.setIfInBounds_toArray, List.set_cons_zero, List.set_cons_succ]
      refine wpAnyH_ready (rs := [3]) (by kernel_rfl) (by simp) ?_
      refine AllReadyH.cons rfl (fun K hK => ?_) AllReadyH.nil
      go_simp
      refine hK.out _ _ (hbd.alloc hbd.size _) (fun hSa => ?_)
      clear hK K
      try simp only [Act.put, List.setIfInBounds_toArray, List.set_cons_zero, List.set_cons_succ]
      have hba : Below w16.heap.size w16 (x3.alloc (.cells #[.int .i64 x] 3)) := hbd.alloc hbd.size _
      have hone : IsInts (x3.alloc (.cells #[.int .i64 x] 3)) (.slice (some ⟨x3.heap.size, 0, none⟩) 1 1) [x] := one_ints (heap_hit rfl) HLB.out.1 HLB.out.2
      generalize x3.alloc (.cells #[.int .i64 x] 3) = x4 at *
      refine wpAnyH_ready (rs := [4]) (by kernel_rfl) (by simp) ?_
      refine AllReadyH.cons rfl (fun K hK => ?_) AllReadyH.nil
      go_simp
      go_wp2_with (go_at_call 35; refine (over5_any v4 _ A1 [x] x4 (HU7.out x4 (HUW.out x4 hba)).2.1 hone HVIA.out HLV.out (by have := HLNA.out; omega) (by simp)).mono ?_; rintro e x5 ⟨v17, rfl, ho17, hb17⟩)
      have hb5 : Below w16.heap.size w16 x5 := hba.trans (hb17.mono hba.size)
      have HI17 : Hid (IsInts x5 v17 (overL A1 [x])) := ho17.ints (by have h1 := overL_len A1 [x]; have := HLNA.out; simp at h1; omega) (fun z hz => varC_range (overL_in HVIA.out HLV.out z hz))
      refine hK.out _ _ hb5 (fun hS5 => ?_)
      clear hK K
      try simp only [Act.put, List.setIfInBounds_toArray, List.set_cons_zero, List.set_cons_succ]
      refine wpAnyH_ready (rs := [5]) (by kernel_rfl) (by simp) ?_
      refine AllReadyH.cons rfl (fun K hK => ?_) AllReadyH.nil
      go_simp
      go_wp2_with (go_at_call 20; refine (HEL2.out v17 x5 (HU7.out x5 (HUW.out x5 hb5)).1 HI17.out).mono ?_; rintro e x6 ⟨rfl, hb18⟩)
      have hb6 : Below w16.heap.size w16 x6 := hb5.trans (hb18.mono hb5.size)
      refine hK.out _ _ hb6 (fun hS6 => ?_)
      clear hK K
      try simp only [Act.put, List.setIfInBounds_toArray, List.set_cons_zero, List.set_cons_succ]
      refine takeC (i := 6) (v := .tuple #[.bool r2, .int .i64 0]) (some 145) rfl rfl (by kernel_rfl) (by kernel_rfl) (by kernel_rfl) (fun _ _ _ h => h) (Or.inl ⟨by rfl, ?_⟩) (by assumption) ?_
      · intro wz hSw; go_simp
      try simp only [Act.put, List.setIfInBounds_toArray, List.set_cons_zero, List.set_cons_succ]
      refine takeC (i := 7) (v := .bool r2) (some 152) rfl rfl (by kernel_rfl) (by kernel_rfl) (by kernel_rfl) (fun _ _ _ h => h) (Or.inl ⟨by rfl, ?_⟩) (by assumption) ?_
      · intro wz hSw; go_simp
      try simp only [Act.put, List.setIfInBounds_toArray, List.set_cons_zero, List.set_cons_succ]
      refine takeC (i := 8) (v := .int .i64 0) (some 153) rfl rfl (by kernel_rfl) (by kernel_rfl) (by kernel_rfl) (fun _ _ _ h => h) (Or.inl ⟨by rfl, ?_⟩) (by assumption) ?_
      · intro wz hSw; go_simp
      try simp only [Act.put, List.setIfInBounds_toArray, List.set_cons_zero, List.set_cons_succ]
      refine takeC (i := 9) (v := .bool r2) (some 16) rfl rfl (by kernel_rfl) (by kernel_rfl) (by kernel_rfl) (fun _ _ _ h => h) (Or.inl ⟨by rfl, ?_⟩) (by assumption) ?_
      · intro wz hSw; go_simp
      try simp only [Act.put, List.setIfInBounds_toArray, List.set_cons_zero, List.set_cons_succ]
      refine takeC (i := 10) (v := .int .i64 0) (some 22) rfl rfl (by kernel_rfl) (by kernel_rfl) (by kernel_rfl) (fun _ _ _ h => h) (Or.inl ⟨by rfl, ?_⟩) (by assumption) ?_
      · intro wz hSw; go_simp
      try simp only [Act.put, List.setIfInBounds_toArray, List.set_cons_zero, List.set_cons_succ]
      refine wpAnyH_done (by kernel_rfl) ?_ _
      have HF6 : Hid (Below W0.heap.size W0 x6) := (HU7.out x6 (HUW.out x6 hb6)).1
      clear hb6 hb5 hba hbd hb17 hb18 ho17 hone hS5 hS6 hSd hSa HUW HXD HI17 HEL2
      go_wp2_with (go_at_call 12; refine (works_any _).mono ?_; rintro e w19 ⟨rfl, hb19⟩)
      go_ret
      exact ⟨rfl, HB0.out.trans ((HF6.out.trans (hb19.mono HF6.out.size)).mono HB0.out.size)⟩
    | false =>
      have hlx2 : -x = lx := hlx
      clear hlx fin
      subst hlx2
      go_wp2_with (first
        | (go_at_call_of 20 (Value.int .i64 oZ); refine (HEZ2.out w15 HB15.out).mono ?_; rintro e w16 ⟨rfl, hb16⟩; have HB16 := Lib.hid (HB15.out.trans (hb16.mono HB15.out.size)); clear hb16 p0 p1 p2)
        | (go_at_call 20; refine HEM2.out.mono ?_; rintro e w15 ⟨rfl, hb15⟩; have HB15 := Lib.hid hb15; clear hb15 p0 p1 p2 q0 q1 q2; obtain ⟨⟨p0, p1, p2⟩, _⟩ := HX14.out w15 HB15.out))
      have HUW : Hid (∀ X, Below w16.heap.size w16 X → Below w7.heap.size w7 X) := fun X hX => (HX14.out X (HB16.out.trans (hX.mono HB16.out.size))).2.1
      have HXD : Hid (∀ X, Below w16.heap.size w16 X → BoxN X w.heap.size (.slice pa P.length pc) (.slice ga gs.length gc) o ∧ BoxN X (w.heap.size + 1) (.slice pa2 P2.length pc2) (.slice ga2 gs2.length gc2) o2) := fun X hX => HXC.out X (HU7.out X (HUW.out X hX)).1
      refine wp_region_held_drew (S := fun X => Below w16.heap.size w16 X) (by kernel_rfl) (Below.refl _ _).drew (fun hSd => ?_)
      have hbd : Below w16.heap.size w16 w16.drew := (Below.refl _ _).drew
      generalize w16.drew = x3 at *
      refine takeC (i := 0) (v := .agg #[.slice pa P.length pc, .slice ga gs.length gc, .int .i64 o]) (some 146) rfl rfl (by kernel_rfl) (by kernel_rfl) (by kernel_rfl) (fun _ _ _ h => h) (Or.inl ⟨by rfl, ?_⟩) (by assumption) ?_
      · intro wz hSw; obtain ⟨⟨t0, t1, t2⟩, y0, y1, y2⟩ := HXD.out wz hSw; go_simp
      try simp only [Act.put, List.setIfInBounds_toArray, List.set_cons_zero, List.set_cons_succ]
      refine takeC (i := 1) (v := v4) (some 147) rfl rfl (by kernel_rfl) (by kernel_rfl) (by kernel_rfl) (fun _ _ _ h => h) (Or.inl ⟨by rfl, ?_⟩) (by assumption) ?_
      · intro wz hSw; go_simp
      try simp only [Act.put, List.setIfInBounds_toArray, List.set_cons_zero, List.set_cons_succ]
      refine takeC (i := 2) (v := .int .i64 (-x)) (some 148) rfl rfl (by kernel_rfl) (by kernel_rfl) (by kernel_rfl) (fun _ _ _ h => h) (Or.inl ⟨by rfl, ?_⟩) (by assumption) ?_
      · intro wz hSw; go_simp
      try simp only [Act.put, List.setIfInBounds_toArray, List.set_cons_zero, List.set_cons_succ]
      refine wpAnyH_ready (rs := [3]) (by kernel_rfl) (by simp) ?_
      refine AllReadyH.cons rfl (fun K hK => ?_) AllReadyH.nil
      go_simp
      refine hK.out _ _ (hbd.alloc hbd.size _) (fun hSa => ?_)
      clear hK K
      try simp only [Act.put, List.setIfInBounds_toArray, List.set_cons_zero, List.set_cons_succ]
      have hba : Below w16.heap.size w16 (x3.alloc (.cells #[.int .i64 (-x)] 3)) := hbd.alloc hbd.size _
      have hone : IsInts (x3.alloc (.cells #[.int .i64 (-x)] 3)) (.slice (some ⟨x3.heap.size, 0, none⟩) 1 1) [-x] := one_ints (heap_hit rfl) HLB.out.1 HLB.out.2
      generalize x3.alloc (.cells #[.int .i64 (-x)] 3) = x4 at *
      refine wpAnyH_ready (rs := [4]) (by kernel_rfl) (by simp) ?_
      refine AllReadyH.cons rfl (fun K hK => ?_) AllReadyH.nil
      go_simp
      go_wp2_with (go_at_call 35; refine (over5_any v4 _ A1 [-x] x4 (HU7.out x4 (HUW.out x4 hba)).2.1 hone HVIA.out HLV.out (by have := HLNA.out; omega) (by simp)).mono ?_; rintro e x5 ⟨v17, rfl, ho17, hb17⟩)
      have hb5 : Below w16.heap.size w16 x5 := hba.trans (hb17.mono hba.size)
      have HI17 : Hid (IsInts x5 v17 (overL A1 [-x])) := ho17.ints (by have h1 := overL_len A1 [-x]; have := HLNA.out; simp at h1; omega) (fun z hz => varC_range (overL_in HVIA.out HLV.out z hz))
      refine hK.out _ _ hb5 (fun hS5 => ?_)
      clear hK K
      try simp only [Act.put, List.setIfInBounds_toArray, List.set_cons_zero, List.set_cons_succ]
      refine wpAnyH_ready (rs := [5]) (by kernel_rfl) (by simp) ?_
      refine AllReadyH.cons rfl (fun K hK => ?_) AllReadyH.nil
      go_simp
      go_wp2_with (go_at_call 20; refine (HEL2.out v17 x5 (HU7.out x5 (HUW.out x5 hb5)).1 HI17.out).mono ?_; rintro e x6 ⟨rfl, hb18⟩)
      have hb6 : Below w16.heap.size w16 x6 := hb5.trans (hb18.mono hb5.size)
      refine hK.out _ _ hb6 (fun hS6 => ?_)
      clear hK K
      try simp only [Act.put, List.setIfInBounds_toArray, List.set_cons_zero, List.set_cons_succ]
      refine takeC (i := 6) (v := .tuple #[.bool r2, .int .i64 0]) (some 145) rfl rfl (by kernel_rfl) (by kernel_rfl) (by kernel_rfl) (fun _ _ _ h => h) (Or.inl ⟨by rfl, ?_⟩) (by assumption) ?_
      · intro wz hSw; go_simp
      try simp only [Act.put, List.setIfInBounds_toArray, List.set_cons_zero, List.set_cons_succ]
      refine takeC (i := 7) (v := .bool r2) (some 152) rfl rfl (by kernel_rfl) (by kernel_rfl) (by kernel_rfl) (fun _ _ _ h => h) (Or.inl ⟨by rfl, ?_⟩) (by assumption) ?_
      · intro wz hSw; go_simp
      try simp only [Act.put, List.setIfInBounds_toArray, List.set_cons_zero, List.set_cons_succ]
      refine takeC (i := 8) (v := .int .i64 0) (some 153) rfl rfl (by kernel_rfl) (by kernel_rfl) (by kernel_rfl) (fun _ _ _ h => h) (Or.inl ⟨by rfl, ?_⟩) (by assumption) ?_
      · intro wz hSw; go_simp
      try simp only [Act.put, List.setIfInBounds_toArray, List.set_cons_zero, List.set_cons_succ]
      refine takeC (i := 9) (v := .bool r2) (some 16) rfl rfl (by kernel_rfl) (by kernel_rfl) (by kernel_rfl) (fun _ _ _ h => h) (Or.inl ⟨by rfl, ?_⟩) (by assumption) ?_
      · intro wz hSw; go_simp
      try simp only [Act.put, List.setIfInBounds_toArray, List.set_cons_zero, List.set_cons_succ]
      refine takeC (i := 10) (v := .int .i64 0) (some 22) rfl rfl (by kernel_rfl) (by kernel_rfl) (by kernel_rfl) (fun _ _ _ h => h) (Or.inl ⟨by rfl, ?_⟩) (by assumption) ?_
      · intro wz hSw; go_simp
      try simp only [Act.put, List.setIfInBounds_toArray, List.set_cons_zero, List.set_cons_succ]
      refine wpAnyH_done (by kernel_rfl) ?_ _
      have HF6 : Hid (Below W0.heap.size W0 x6) := (HU7.out x6 (HUW.out x6 hb6)).1
      clear hb6 hb5 hba hbd hb17 hb18 ho17 hone hS5 hS6 hSd hSa HUW HXD HI17 HEL2
      go_wp2_with (go_at_call 12; refine (works_any _).mono ?_; rintro e w19 ⟨rfl, hb19⟩)
      go_ret
      exact ⟨rfl, HB0.out.trans ((HF6.out.trans (hb19.mono HF6.out.size)).mono HB0.out.size)⟩
  · have hnz : (eZ != 0) = true := by simpa using hez
    clear hez HZZ HEL
    go_upto_region 16 with (go_at_call 36; refine HCM2.out.mono ?_; rintro e w13 ⟨za, zc, za2, zc2, rfl, hPZ, hGZ, hb13⟩; have HB13 := Lib.hid (HB2x.out.trans (hb13.mono HB2x.out.size)); clear hb13 hPZ hGZ p0 p1 p2 q0 q1 q2)
    have HB14 : Hid (Below w7.heap.size w7 (w13.alloc (.cells #[.slice za PZ.length zc, .slice za2 GZ.length zc2, .int .i64 oZ] 25))) := HB13.out.trans ((below_new w13 _).mono HB13.out.size)
    generalize w13.alloc (.cells #[.slice za PZ.length zc, .slice za2 GZ.length zc2, .int .i64 oZ] 25) = W14 at *
    go_wp2_with (go_at_call 12; refine (works_any _).mono ?_; rintro e w15 ⟨rfl, hb15⟩)
    go_ret
    have hf := HB0.out.trans ((HU7.out _ (HB14.out.trans (hb15.mono HB14.out.size))).1.mono HB0.out.size)
    exact ⟨rfl, hf⟩
end Go.Proofs.Ytldgdfchemjcmaa
