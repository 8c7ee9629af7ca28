/- Joined texts: CxLawVal. -/
import Derived.Test.YticcikelapifaaaK20
import Derived.Test.YticcikelapifaaaK16
import Derived.Test.YticcikelapifaaaK18
/- The law CircValues, walked. -/
namespace Go.Proofs.Yticcikelapifaaa
open Go.RowKit Go.Maps Go.Shelf
set_option linter.unusedVariables false
set_option linter.unusedSimpArgs false

/-- The law's guard over one net. -/
theorem great_one (vp vg : Value) (o : Int) (P : List Blk) (gs : List Gt) (X : World) (HP : IsBlocks X vp P) (HG : IsGates X vg gs) (hs : sizeG gs ≤ 4000000) (hl : gs.length < 1000000) :
    Calls Try.prog 11 #[.slice (some ⟨X.heap.size, 0, none⟩) 1 1] (X.alloc (.cells #[vp, vg, .int .i64 o] 25)) fun e w' => e = .returned (.bool (manyG gs)) ∧ Below X.heap.size X w' := by
  have hb : Below X.heap.size X (X.alloc (.cells #[vp, vg, .int .i64 o] 25)) := below_new _ _
  obtain ⟨pa, pc, e1, _⟩ := HP.shape
  refine (great5_any [(vp, vg, o, gs)] X.heap.size _ (by simp) (by simp) (fun j hj => ?_)).mono ?_
  · match j, hj with
    | 0, _ => exact ⟨cell_fresh rfl, cell_fresh rfl, cell_fresh rfl, ⟨pa, P.length, pc, e1⟩, HG.below hb (Nat.le_refl _), hs, hl⟩
    | j + 1, hj => simp at hj
  · rintro e w' ⟨rfl, h2⟩
    exact ⟨by simp, hb.trans (h2.mono (by simp))⟩
/-- The law's guard over two nets. -/
theorem great_two (vp vg vp2 vg2 : Value) (o o2 : Int) (P P2 : List Blk) (gs gs2 : List Gt) (X : World) (HP : IsBlocks X vp P) (HG : IsGates X vg gs) (HP2 : IsBlocks X vp2 P2) (HG2 : IsGates X vg2 gs2) (hs : sizeG gs ≤ 4000000) (hl : gs.length < 1000000) (hs2 : sizeG gs2 ≤ 4000000) (hl2 : gs2.length < 1000000) :
    Calls Try.prog 11 #[.slice (some ⟨X.heap.size, 0, none⟩) 2 2] (X.alloc (.cells #[vp, vg, .int .i64 o, vp2, vg2, .int .i64 o2] 25)) fun e w' => e = .returned (.bool (manyG gs || manyG gs2)) ∧ Below X.heap.size X w' := by
  have hb : Below X.heap.size X (X.alloc (.cells #[vp, vg, .int .i64 o, vp2, vg2, .int .i64 o2] 25)) := below_new _ _
  obtain ⟨pa, pc, e1, _⟩ := HP.shape
  obtain ⟨pa2, pc2, e2, _⟩ := HP2.shape
  refine (great5_any [(vp, vg, o, gs), (vp2, vg2, o2, gs2)] X.heap.size _ (by simp) (by simp) (fun j hj => ?_)).mono ?_
  · match j, hj with
    | 0, _ => exact ⟨cell_fresh rfl, cell_fresh rfl, cell_fresh rfl, ⟨pa, P.length, pc, e1⟩, HG.below hb (Nat.le_refl _), hs, hl⟩
    | 1, _ => exact ⟨cell_fresh rfl, cell_fresh rfl, cell_fresh rfl, ⟨pa2, P2.length, pc2, e2⟩, HG2.below hb (Nat.le_refl _), hs2, hl2⟩
    | j + 2, hj => simp at hj; omega
  · rintro e w' ⟨rfl, h2⟩
    exact ⟨by simp, hb.trans (h2.mono (by simp))⟩
theorem vals_len (P : List Blk) (gs : List Gt) (o : Int) (a : List Int) : (valuesN P gs o a).1.length ≤ gs.length := by
  unfold valuesN
  split
  · have := runG_len (setA (fun _ => false) a) gs gs.length (Nat.le_refl _)
    rw [List.take_length] at this
    exact Nat.le_of_eq this
  · simp

set_option maxRecDepth 100000 in
set_option maxHeartbeats 6400000 in
theorem circvals_any (vp vg va : Value) (o : Int) (P : List Blk) (gs : List Gt) (a : List Int) (w : World) (HP : IsBlocks w vp P) (HG : IsGates w vg gs) (HA : IsInts w va a) (hp : P.length ≤ 2000000) (hg : gs.length ≤ 900000) (hs : sizeG gs ≤ 2000000) (ha : a.length ≤ 2000000) (ho1 : -9223372036854775808 ≤ o) (ho2 : o ≤ 9223372036854775807) :
    Calls Try.prog 4 #[.agg #[vp, vg, .int .i64 o], va] w fun e w' => e = .returned (.bool true) ∧ Below w.heap.size w w' := by
  obtain ⟨pa, pc, rfl, _⟩ := HP.shape
  obtain ⟨ga, gc, rfl, _⟩ := HG.shape
  obtain ⟨aa, ac, rfl⟩ := HA.shape
  obtain ⟨W0, hW0⟩ : ∃ W0, w.alloc (.cells #[.slice pa P.length pc, .slice ga gs.length gc, .int .i64 o] 25) = W0 := ⟨_, rfl⟩
  have hb0 : Below w.heap.size w W0 := by rw [← hW0]; exact below_new _ _
  have hbx := box_new w (.slice pa P.length pc) (.slice ga gs.length gc) o
  rw [hW0] at hbx
  have hs1 : W0.heap.size = w.heap.size + 1 := by rw [← hW0]; simp
  have HXC : Hid (∀ X, Below W0.heap.size W0 X → BoxN X w.heap.size (.slice pa P.length pc) (.slice ga gs.length gc) o) := fun X hX => hbx X (hX.mono (by omega))
  have HW0 := Lib.hid hW0
  have HB0 := Lib.hid hb0
  have HPW := Lib.hid (HP.below hb0 (Nat.le_refl _))
  have HGW := Lib.hid (HG.below hb0 (Nat.le_refl _))
  have HAW := Lib.hid (HA.below hb0 (Nat.le_refl _))
  have up : ∀ X, Below W0.heap.size W0 X → IsBlocks X (.slice pa P.length pc) P ∧ IsGates X (.slice ga gs.length gc) gs ∧ IsInts X (.slice aa a.length ac) a := fun X hX => ⟨HPW.out.below hX (Nat.le_refl _), HGW.out.below hX (Nat.le_refl _), HAW.out.below hX (Nat.le_refl _)⟩
  have H1 := Lib.hid (great_one _ _ o P gs W0 HPW.out HGW.out (by omega) (by omega))
  have H2 : Hid (∀ X, Below W0.heap.size W0 X → Calls Try.prog 20 #[.agg #[.slice pa P.length pc, .slice ga gs.length gc, .int .i64 o], .slice aa a.length ac] X fun e w' => e = .returned (.tuple #[.bool (evalN P gs o a).1, .int .i64 (evalN P gs o a).2]) ∧ Below X.heap.size X w') := fun X hX => ceval_any _ _ _ o P gs a X (up X hX).1 (up X hX).2.1 (up X hX).2.2 (by omega) (by omega) (by omega) ho1 ho2
  have H3 : Hid (∀ X, Below W0.heap.size W0 X → Calls Try.prog 21 #[.agg #[.slice pa P.length pc, .slice ga gs.length gc, .int .i64 o], .slice aa a.length ac] X fun e w' => e = .returned (.tuple #[.bool (evalN P gs o a).1, .int .i64 (evalN P gs o a).2]) ∧ Below X.heap.size X w') := fun X hX => reval5_any _ _ _ o P gs a X (up X hX).1 (up X hX).2.1 (up X hX).2.2 (by omega) (by omega) ho1 ho2
  have H4 : Hid (∀ X, Below W0.heap.size W0 X → Calls Try.prog 22 #[.agg #[.slice pa P.length pc, .slice ga gs.length gc, .int .i64 o], .slice aa a.length ac] X fun e w' => ∃ v, e = .returned (.tuple #[v, .int .i64 (valuesN P gs o a).2]) ∧ OwnB w' X.heap.size v (valuesN P gs o a).1 ∧ Below X.heap.size X w') := fun X hX => cvals_any _ _ _ o P gs a X (up X hX).1 (up X hX).2.1 (up X hX).2.2 (by omega) (by omega) (by omega) ho1 ho2
  have H5 : Hid (∀ X, Below W0.heap.size W0 X → Calls Try.prog 23 #[.agg #[.slice pa P.length pc, .slice ga gs.length gc, .int .i64 o], .slice aa a.length ac] X fun e w' => ∃ v, e = .returned (.tuple #[v, .int .i64 (valuesN P gs o a).2]) ∧ OwnB w' X.heap.size v (valuesN P gs o a).1 ∧ Below X.heap.size X w') := fun X hX => rvals5_any _ _ _ o P gs a X (up X hX).1 (up X hX).2.1 (up X hX).2.2 (by omega) (by omega) ho1 ho2
  have hLL := vals_len P gs o a
  have HLL : Hid ((valuesN P gs o a).1.length ≤ 17592186044416) := by show _ ≤ _; omega
  clear up HP HG HA hW0 hb0 hbx hs1 hp hg hs ha HPW HGW HAW hLL
  generalize (evalN P gs o a).1 = x1 at *
  generalize (evalN P gs o a).2 = x2 at *
  generalize (valuesN P gs o a).1 = L at *
  generalize (valuesN P gs o a).2 = x3 at *
  have H6 : Hid (∀ (v u : Value) (Y X : World) (B : Nat), OwnB Y B v L → Below Y.heap.size Y X → OwnB X Y.heap.size u L → Calls Try.prog 24 #[v, u] X fun e w' => e = .returned (.bool true) ∧ Below X.heap.size X w') := fun v u Y X B h1 h2 h3 => (bools5_any v u L L X ((h1.bs HLL.out).below (B := 0) (fun g hg => (ownB_lt h1 g hg).2) h2) (h3.bs HLL.out)).mono (by
    rintro e w' ⟨rfl, h3⟩
    exact ⟨by simp [sameB], h3.below _⟩)
  obtain ⟨p0, p1, p2⟩ := HXC.out W0 (Below.refl _ _)
  cases hm : manyG gs with
  | true =>
    rw [hm] at H1
    clear hm H2 H3 H4 H5 H6
    go_enter Try.func4, Try.ntmps4
    go_upto_region 1 with fail
    rw [HW0.out]
    go_wp2_with (first
      | (go_at_call 11; refine H1.out.mono ?_; rintro e w1 ⟨rfl, hb1⟩)
      | (go_at_call 12; refine (works_any _).mono ?_; rintro e w2 ⟨rfl, hb2⟩))
    go_ret
    exact ⟨rfl, HB0.out.trans ((hb1.trans (hb2.mono hb1.size)).mono HB0.out.size)⟩
  | false =>
    rw [hm] at H1
    clear hm
    by_cases h5 : (5000 : Int) < (a.length : Int)
    · clear H2 H3 H4 H5 H6
      go_enter Try.func4, Try.ntmps4
      go_upto_region 1 with fail
      rw [HW0.out]
      go_wp2_with (first
        | (go_at_call 11; refine H1.out.mono ?_; rintro e w1 ⟨rfl, hb1⟩)
        | (go_at_call 12; refine (works_any _).mono ?_; rintro e w2 ⟨rfl, hb2⟩))
      go_ret
      exact ⟨rfl, HB0.out.trans ((hb1.trans (hb2.mono hb1.size)).mono HB0.out.size)⟩
    · have h5b : decide ((5000 : Int) < (a.length : Int)) = false := by simpa using h5
      clear h5
      go_enter Try.func4, Try.ntmps4
      go_upto_region 1 with fail
      rw [HW0.out]
      go_wp2_with (first
        | (go_at_call 11; refine H1.out.mono ?_; rintro e w1 ⟨rfl, hb1⟩; have HB1 := Lib.hid hb1; clear hb1 p0 p1 p2; obtain ⟨p0, p1, p2⟩ := HXC.out w1 HB1.out)
        | (go_at_call 20; refine (H2.out w1 HB1.out).mono ?_; rintro e w2 ⟨rfl, hb2⟩; have HB2 := Lib.hid (HB1.out.trans (hb2.mono HB1.out.size)); clear hb2 p0 p1 p2; obtain ⟨p0, p1, p2⟩ := HXC.out w2 HB2.out)
        | (go_at_call 21; refine (H3.out w2 HB2.out).mono ?_; rintro e w3 ⟨rfl, hb3⟩; have HB3 := Lib.hid (HB2.out.trans (hb3.mono HB2.out.size)); clear hb3 p0 p1 p2; obtain ⟨p0, p1, p2⟩ := HXC.out w3 HB3.out)
        | (go_at_call 22; refine (H4.out w3 HB3.out).mono ?_; rintro e w4 ⟨v4, rfl, ho4, hb4⟩; have HB4 := Lib.hid (HB3.out.trans (hb4.mono HB3.out.size)); have HO4 := Lib.hid ho4; clear hb4 ho4 p0 p1 p2; obtain ⟨p0, p1, p2⟩ := HXC.out w4 HB4.out)
        | (go_at_call 23; go_loud (refine (H5.out w4 HB4.out).mono ?_; rintro e w5 ⟨v5, rfl, ho5, hb5⟩; have HB5 := Lib.hid (HB4.out.trans (hb5.mono HB4.out.size)); have HO5 := Lib.hid ho5; have HB45 := Lib.hid hb5; clear hb5 ho5 p0 p1 p2; obtain ⟨p0, p1, p2⟩ := HXC.out w5 HB5.out))
        | (go_at_call 24; refine (H6.out v4 v5 w4 w5 _ HO4.out HB45.out HO5.out).mono ?_; rintro e w6 ⟨rfl, hb6⟩; have HB6 := Lib.hid (HB5.out.trans (hb6.mono HB5.out.size)); clear hb6 p0 p1 p2)
        | (go_at_call 12; refine (works_any _).mono ?_; rintro e w7 ⟨rfl, hb7⟩))
      go_ret
      exact ⟨rfl, HB0.out.trans ((HB6.out.trans (hb7.mono HB6.out.size)).mono HB0.out.size)⟩
end Go.Proofs.Yticcikelapifaaa
