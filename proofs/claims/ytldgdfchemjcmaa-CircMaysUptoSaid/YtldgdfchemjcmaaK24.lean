/- Joined texts: CxLawMay. -/
import Derived.Test.YtldgdfchemjcmaaK21
import Derived.Test.YtldgdfchemjcmaaK23
import Derived.Test.YtldgdfchemjcmaaK17
/- The law CircMays, walked. -/
namespace Go.Proofs.Ytldgdfchemjcmaa
open Go.RowKit Go.Maps Go.Shelf
set_option linter.unusedVariables false
set_option linter.unusedSimpArgs false

theorem sameN_self (P : List Blk) (gs : List Gt) (o : Int) : sameN P gs o P gs o = true := by unfold sameN; simp [sameB]

set_option maxRecDepth 100000 in
set_option maxHeartbeats 6400000 in
theorem circmays_any (vp vg vp2 vg2 : Value) (o o2 x : Int) (P P2 : List Blk) (gs gs2 : List Gt) (w : World) (HP : IsBlocks w vp P) (HG : IsGates w vg gs) (HP2 : IsBlocks w vp2 P2) (HG2 : IsGates w vg2 gs2) (hp : P.length ≤ 2000000) (hg : gs.length ≤ 900000) (hs : sizeG gs ≤ 2000000) (hg2 : gs2.length ≤ 900000) (hs2 : sizeG gs2 ≤ 2000000) (ho1 : -9223372036854775808 ≤ o) (ho2 : o ≤ 9223372036854775807) (hx1 : -9223372036854775808 ≤ x) (hx2 : x ≤ 9223372036854775807) :
    Calls Try.prog 3 #[.agg #[vp, vg, .int .i64 o], .agg #[vp2, vg2, .int .i64 o2], .int .i64 x] w fun e w' => e = .returned (.bool true) ∧ Below w.heap.size w w' := by
  obtain ⟨pa, pc, rfl, _⟩ := HP.shape
  obtain ⟨ga, gc, rfl, _⟩ := HG.shape
  obtain ⟨pa2, pc2, rfl, _⟩ := HP2.shape
  obtain ⟨ga2, gc2, rfl, _⟩ := HG2.shape
  obtain ⟨Wa, hWa⟩ : ∃ W, w.alloc (.cells #[.slice pa P.length pc, .slice ga gs.length gc, .int .i64 o] 25) = W := ⟨_, rfl⟩
  obtain ⟨W0, hW0⟩ : ∃ W0, Wa.alloc (.cells #[.slice pa2 P2.length pc2, .slice ga2 gs2.length gc2, .int .i64 o2] 25) = W0 := ⟨_, rfl⟩
  have hba : Below w.heap.size w Wa := by rw [← hWa]; exact below_new _ _
  have hza : Wa.heap.size = w.heap.size + 1 := by rw [← hWa]; simp
  have hbb : Below Wa.heap.size Wa W0 := by rw [← hW0]; exact below_new _ _
  have hz0 : W0.heap.size = w.heap.size + 1 + 1 := by rw [← hW0, World.size_alloc, hza]
  have hb0 : Below w.heap.size w W0 := hba.trans (hbb.mono (by omega))
  have hbx := box_new w (.slice pa P.length pc) (.slice ga gs.length gc) o
  have hbx2 := box_new Wa (.slice pa2 P2.length pc2) (.slice ga2 gs2.length gc2) o2
  rw [hWa] at hbx
  rw [hW0, hza] at hbx2
  have HXC : Hid (∀ X, Below W0.heap.size W0 X → BoxN X w.heap.size (.slice pa P.length pc) (.slice ga gs.length gc) o ∧ BoxN X (w.heap.size + 1) (.slice pa2 P2.length pc2) (.slice ga2 gs2.length gc2) o2) := fun X hX => ⟨hbx X ((hbb.trans (hX.mono (by omega))).mono (by omega)), hbx2 X (hX.mono (by omega))⟩
  have HW0 : Hid ((w.alloc (.cells #[.slice pa P.length pc, .slice ga gs.length gc, .int .i64 o] 25)).alloc (.cells #[.slice pa2 P2.length pc2, .slice ga2 gs2.length gc2, .int .i64 o2] 25) = W0) := by show _ = _; rw [hWa]; exact hW0
  have HB0 := Lib.hid hb0
  have HPW := Lib.hid (HP.below hb0 (Nat.le_refl _))
  have HGW := Lib.hid (HG.below hb0 (Nat.le_refl _))
  have HPW2 := Lib.hid (HP2.below hb0 (Nat.le_refl _))
  have HGW2 := Lib.hid (HG2.below hb0 (Nat.le_refl _))
  have up : ∀ X, Below W0.heap.size W0 X → IsBlocks X (.slice pa P.length pc) P ∧ IsGates X (.slice ga gs.length gc) gs ∧ IsBlocks X (.slice pa2 P2.length pc2) P2 ∧ IsGates X (.slice ga2 gs2.length gc2) gs2 := fun X hX => ⟨HPW.out.below hX (Nat.le_refl _), HGW.out.below hX (Nat.le_refl _), HPW2.out.below hX (Nat.le_refl _), HGW2.out.below hX (Nat.le_refl _)⟩
  have H1 := Lib.hid (great_two _ _ _ _ o o2 P P2 gs gs2 W0 HPW.out HGW.out HPW2.out HGW2.out (by omega) (by omega) (by omega) (by omega))
  have H2 : Hid (∀ X, Below W0.heap.size W0 X → Calls Try.prog 13 #[.agg #[.slice pa P.length pc, .slice ga gs.length gc, .int .i64 o], .int .i64 x] X fun e w' => ∃ v, e = .returned (.tuple #[v, .int .i64 (supN P gs o x).2]) ∧ Own w' X.heap.size v (supN P gs o x).1 ∧ Below X.heap.size X w') := fun X hX => csup_any _ _ o x P gs X (up X hX).1 (up X hX).2.1 (by omega) (by omega) ho1 ho2 hx1 hx2
  have H3 : Hid (∀ X, Below W0.heap.size W0 X → Calls Try.prog 14 #[.agg #[.slice pa P.length pc, .slice ga gs.length gc, .int .i64 o], .int .i64 x] X fun e w' => ∃ v, e = .returned (.tuple #[v, .int .i64 (supN P gs o x).2]) ∧ Own w' X.heap.size v (supN P gs o x).1 ∧ Below X.heap.size X w') := fun X hX => rsup5_any _ _ o x P gs X (up X hX).1 (up X hX).2.1 (by omega) (by omega) ho1 ho2 hx1 hx2
  have H4 : Hid (∀ X, Below W0.heap.size W0 X → Calls Try.prog 15 #[.agg #[.slice pa P.length pc, .slice ga gs.length gc, .int .i64 o]] X fun e w' => e = .returned (.bool (mayN P gs o)) ∧ Below X.heap.size X w') := fun X hX => cmay_any _ _ o P gs X (up X hX).1 (up X hX).2.1 (by omega) (by omega) ho1 ho2
  have H5 : Hid (∀ X, Below W0.heap.size W0 X → Calls Try.prog 16 #[.agg #[.slice pa P.length pc, .slice ga gs.length gc, .int .i64 o]] X fun e w' => e = .returned (.bool (mayN P gs o)) ∧ Below X.heap.size X w') := fun X hX => rmay5_any _ _ o P gs X (up X hX).1 (up X hX).2.1 (by omega) (by omega) ho1 ho2
  have H6 : Hid (∀ X, Below W0.heap.size W0 X → Calls Try.prog 17 #[.agg #[.slice pa P.length pc, .slice ga gs.length gc, .int .i64 o], .agg #[.slice pa2 P2.length pc2, .slice ga2 gs2.length gc2, .int .i64 o2]] X fun e w' => e = .returned (.bool (sameN P gs o P2 gs2 o2)) ∧ Below X.heap.size X w') := fun X hX => csame_any _ _ _ _ o o2 P P2 gs gs2 X (up X hX).1 (up X hX).2.1 (up X hX).2.2.1 (up X hX).2.2.2
  have H7 : Hid (∀ X, Below W0.heap.size W0 X → Calls Try.prog 18 #[.agg #[.slice pa P.length pc, .slice ga gs.length gc, .int .i64 o], .agg #[.slice pa2 P2.length pc2, .slice ga2 gs2.length gc2, .int .i64 o2]] X fun e w' => e = .returned (.bool (sameN P gs o P2 gs2 o2)) ∧ Below X.heap.size X w') := fun X hX => rsame5_any _ _ _ _ o o2 P P2 gs gs2 X (up X hX).1 (up X hX).2.1 (up X hX).2.2.1 (up X hX).2.2.2
  have H8 : Hid (∀ X, Below W0.heap.size W0 X → Calls Try.prog 17 #[.agg #[.slice pa P.length pc, .slice ga gs.length gc, .int .i64 o], .agg #[.slice pa P.length pc, .slice ga gs.length gc, .int .i64 o]] X fun e w' => e = .returned (.bool true) ∧ Below X.heap.size X w') := fun X hX => (csame_any _ _ _ _ o o P P gs gs X (up X hX).1 (up X hX).2.1 (up X hX).1 (up X hX).2.1).mono fun e w' h => ⟨by rw [h.1, sameN_self], h.2⟩
  have hsb := sup_bd P gs o x
  have HSB := Lib.hid hsb
  clear up HP HG HP2 HG2 hWa hW0 hba hbb hb0 hbx hbx2 hza hz0 hp hg hs hg2 hs2 HPW HGW HPW2 HGW2 hsb
  generalize (supN P gs o x).1 = L at *
  generalize (supN P gs o x).2 = r3 at *
  generalize mayN P gs o = m1 at *
  generalize sameN P gs o P2 gs2 o2 = m2 at *
  have H9 : Hid (∀ (v u : Value) (X : World), IsInts X v L → IsInts X u L → Calls Try.prog 19 #[v, u] X fun e w' => e = .returned (.bool true) ∧ Below X.heap.size X w') := fun v u X h1 h2 => (ints5_any v u L L X h1 h2).mono (by
    rintro e w' ⟨rfl, h3⟩
    exact ⟨by simp [sameB], h3.below _⟩)
  obtain ⟨⟨p0, p1, p2⟩, q0, q1, q2⟩ := HXC.out W0 (Below.refl _ _)
  cases hm : (manyG gs || manyG gs2) with
  | true =>
    rw [hm] at H1
    clear hm H2 H3 H4 H5 H6 H7 H8 H9
    go_enter Try.func3, Try.ntmps3
    go_upto_region 1 with fail
    rw [HW0.out]
    go_wp2_with (first
      | (go_at_call 11; refine H1.out.mono ?_; rintro e w1 ⟨rfl, hb1⟩)
      | (go_at_call 12; refine (works_any _).mono ?_; rintro e w2 ⟨rfl, hb2⟩))
    go_ret
    exact ⟨rfl, HB0.out.trans ((hb1.trans (hb2.mono hb1.size)).mono HB0.out.size)⟩
  | false =>
    rw [hm] at H1
    clear hm
    go_enter Try.func3, Try.ntmps3
    go_upto_region 1 with fail
    rw [HW0.out]
    go_wp2_with (first
      | (go_at_call 11; refine H1.out.mono ?_; rintro e w1 ⟨rfl, hb1⟩; have HB1 := Lib.hid hb1; clear hb1 p0 p1 p2 q0 q1 q2; obtain ⟨⟨p0, p1, p2⟩, q0, q1, q2⟩ := HXC.out w1 HB1.out)
      | (go_at_call 13; refine (H2.out w1 HB1.out).mono ?_; rintro e w4 ⟨v4, rfl, ho4, hb4⟩; have HB4 := Lib.hid (HB1.out.trans (hb4.mono HB1.out.size)); have HI4 := Lib.hid (ho4.ints (by have := HSB.out.1; omega) HSB.out.2); clear hb4 ho4 p0 p1 p2 q0 q1 q2; obtain ⟨⟨p0, p1, p2⟩, q0, q1, q2⟩ := HXC.out w4 HB4.out)
      | (go_at_call 14; refine (H3.out w4 HB4.out).mono ?_; rintro e w5 ⟨v5, rfl, ho5, hb5⟩; have HB5 := Lib.hid (HB4.out.trans (hb5.mono HB4.out.size)); have HI5 := Lib.hid (ho5.ints (by have := HSB.out.1; omega) HSB.out.2); have HI45 := Lib.hid (HI4.out.below hb5 (Nat.le_refl _)); clear hb5 ho5 p0 p1 p2 q0 q1 q2))
    have HUI : Hid (∀ X, Below w5.heap.size w5 X → IsInts X v4 L ∧ IsInts X v5 L) := fun X hX => ⟨HI45.out.below hX (Nat.le_refl _), HI5.out.below hX (Nat.le_refl _)⟩
    have HUP : Hid (∀ X, Below w5.heap.size w5 X → Below W0.heap.size W0 X) := fun X hX => HB5.out.trans (hX.mono HB5.out.size)
    refine wp_region_held_drew (S := fun X => Below w5.heap.size w5 X) (by kernel_rfl) (Below.refl _ _).drew (fun hSd => ?_)
    have hb5d : Below w5.heap.size w5 w5.drew := (Below.refl _ _).drew
    generalize w5.drew = x0 at *
    refine takeC (i := 0) (v := .agg #[.slice pa P.length pc, .slice ga gs.length gc, .int .i64 o]) (some 28) rfl rfl (by kernel_rfl) (by kernel_rfl) (by kernel_rfl) (fun _ _ _ h => h) (Or.inl ⟨by rfl, ?_⟩) (by assumption) ?_
    · intro wz hSw; obtain ⟨⟨t0, t1, t2⟩, y0, y1, y2⟩ := HXC.out wz (HUP.out _ hSw); go_simp
    try simp only [Act.put, List.setIfInBounds_toArray, List.set_cons_zero, List.set_cons_succ]
    refine takeC (i := 2) (v := .agg #[.slice pa P.length pc, .slice ga gs.length gc, .int .i64 o]) (some 30) rfl rfl (by kernel_rfl) (by kernel_rfl) (by kernel_rfl) (fun _ _ _ h => h) (Or.inl ⟨by rfl, ?_⟩) (by assumption) ?_
    · intro wz hSw; obtain ⟨⟨t0, t1, t2⟩, y0, y1, y2⟩ := HXC.out wz (HUP.out _ hSw); go_simp
    try simp only [Act.put, List.setIfInBounds_toArray, List.set_cons_zero, List.set_cons_succ]
    refine wpAnyH_ready (rs := [1]) (by kernel_rfl) (by simp) ?_
    refine AllReadyH.cons rfl (fun K hK => ?_) AllReadyH.nil
    go_simp
    go_wp2_with (go_at_call 15; refine (H4.out x0 (HUP.out _ hb5d)).mono ?_; rintro e x1 ⟨rfl, hb6⟩)
    have h1 : Below w5.heap.size w5 x1 := hb5d.trans (hb6.mono hb5d.size)
    refine hK.out _ _ h1 (fun hS1 => ?_)
    clear hK K
    try simp only [Act.put, List.setIfInBounds_toArray, List.set_cons_zero, List.set_cons_succ]
    refine wpAnyH_ready (rs := [3]) (by kernel_rfl) (by simp) ?_
    refine AllReadyH.cons rfl (fun K hK => ?_) AllReadyH.nil
    go_simp
    go_wp2_with (go_at_call 16; refine (H5.out x1 (HUP.out _ h1)).mono ?_; rintro e x2 ⟨rfl, hb7⟩)
    have h2 : Below w5.heap.size w5 x2 := h1.trans (hb7.mono h1.size)
    refine hK.out _ _ h2 (fun hS2 => ?_)
    clear hK K
    try simp only [Act.put, List.setIfInBounds_toArray, List.set_cons_zero, List.set_cons_succ]
    refine takeC (i := 4) (v := .bool true) (some 32) rfl rfl (by kernel_rfl) (by kernel_rfl) (by kernel_rfl) (fun _ _ _ h => h) (Or.inl ⟨by rfl, ?_⟩) (by assumption) ?_
    · intro wz hSw; go_simp
    try simp only [Act.put, List.setIfInBounds_toArray, List.set_cons_zero, List.set_cons_succ]
    refine takeC (i := 5) (v := .bool true) (some 33) rfl rfl (by kernel_rfl) (by kernel_rfl) (by kernel_rfl) (fun _ _ _ h => h) (Or.inl ⟨by rfl, ?_⟩) (by assumption) ?_
    · intro wz hSw; go_simp
    try simp only [Act.put, List.setIfInBounds_toArray, List.set_cons_zero, List.set_cons_succ]
    refine takeC (i := 6) (v := .agg #[.slice pa P.length pc, .slice ga gs.length gc, .int .i64 o]) (some 34) rfl rfl (by kernel_rfl) (by kernel_rfl) (by kernel_rfl) (fun _ _ _ h => h) (Or.inl ⟨by rfl, ?_⟩) (by assumption) ?_
    · intro wz hSw; obtain ⟨⟨t0, t1, t2⟩, y0, y1, y2⟩ := HXC.out wz (HUP.out _ hSw); go_simp
    try simp only [Act.put, List.setIfInBounds_toArray, List.set_cons_zero, List.set_cons_succ]
    refine takeC (i := 7) (v := .agg #[.slice pa2 P2.length pc2, .slice ga2 gs2.length gc2, .int .i64 o2]) (some 35) rfl rfl (by kernel_rfl) (by kernel_rfl) (by kernel_rfl) (fun _ _ _ h => h) (Or.inl ⟨by rfl, ?_⟩) (by assumption) ?_
    · intro wz hSw; obtain ⟨⟨t0, t1, t2⟩, y0, y1, y2⟩ := HXC.out wz (HUP.out _ hSw); go_simp
    try simp only [Act.put, List.setIfInBounds_toArray, List.set_cons_zero, List.set_cons_succ]
    refine takeC (i := 9) (v := .agg #[.slice pa P.length pc, .slice ga gs.length gc, .int .i64 o]) (some 37) rfl rfl (by kernel_rfl) (by kernel_rfl) (by kernel_rfl) (fun _ _ _ h => h) (Or.inl ⟨by rfl, ?_⟩) (by assumption) ?_
    · intro wz hSw; obtain ⟨⟨t0, t1, t2⟩, y0, y1, y2⟩ := HXC.out wz (HUP.out _ hSw); go_simp
    try simp only [Act.put, List.setIfInBounds_toArray, List.set_cons_zero, List.set_cons_succ]
    refine takeC (i := 10) (v := .agg #[.slice pa2 P2.length pc2, .slice ga2 gs2.length gc2, .int .i64 o2]) (some 38) rfl rfl (by kernel_rfl) (by kernel_rfl) (by kernel_rfl) (fun _ _ _ h => h) (Or.inl ⟨by rfl, ?_⟩) (by assumption) ?_
    · intro wz hSw; obtain ⟨⟨t0, t1, t2⟩, y0, y1, y2⟩ := HXC.out wz (HUP.out _ hSw); go_simp
    try simp only [Act.put, List.setIfInBounds_toArray, List.set_cons_zero, List.set_cons_succ]
    refine wpAnyH_ready (rs := [8]) (by kernel_rfl) (by simp) ?_
    refine AllReadyH.cons rfl (fun K hK => ?_) AllReadyH.nil
    go_simp
    go_wp2_with (go_at_call 17; refine (H6.out x2 (HUP.out _ h2)).mono ?_; rintro e x3 ⟨rfl, hb8⟩)
    have h3 : Below w5.heap.size w5 x3 := h2.trans (hb8.mono h2.size)
    refine hK.out _ _ h3 (fun hS3 => ?_)
    clear hK K
    try simp only [Act.put, List.setIfInBounds_toArray, List.set_cons_zero, List.set_cons_succ]
    refine wpAnyH_ready (rs := [11]) (by kernel_rfl) (by simp) ?_
    refine AllReadyH.cons rfl (fun K hK => ?_) AllReadyH.nil
    go_simp
    go_wp2_with (go_at_call 18; refine (H7.out x3 (HUP.out _ h3)).mono ?_; rintro e x4 ⟨rfl, hb9⟩)
    have h4 : Below w5.heap.size w5 x4 := h3.trans (hb9.mono h3.size)
    refine hK.out _ _ h4 (fun hS4 => ?_)
    clear hK K
    try simp only [Act.put, List.setIfInBounds_toArray, List.set_cons_zero, List.set_cons_succ]
    refine takeC (i := 12) (v := .bool true) (some 40) rfl rfl (by kernel_rfl) (by kernel_rfl) (by kernel_rfl) (fun _ _ _ h => h) (Or.inl ⟨by rfl, ?_⟩) (by assumption) ?_
    · intro wz hSw; go_simp
    try simp only [Act.put, List.setIfInBounds_toArray, List.set_cons_zero, List.set_cons_succ]
    refine takeC (i := 13) (v := .bool true) (some 41) rfl rfl (by kernel_rfl) (by kernel_rfl) (by kernel_rfl) (fun _ _ _ h => h) (Or.inl ⟨by rfl, ?_⟩) (by assumption) ?_
    · intro wz hSw; go_simp
    try simp only [Act.put, List.setIfInBounds_toArray, List.set_cons_zero, List.set_cons_succ]
    refine takeC (i := 14) (v := .bool true) (some 42) rfl rfl (by kernel_rfl) (by kernel_rfl) (by kernel_rfl) (fun _ _ _ h => h) (Or.inl ⟨by rfl, ?_⟩) (by assumption) ?_
    · intro wz hSw; go_simp
    try simp only [Act.put, List.setIfInBounds_toArray, List.set_cons_zero, List.set_cons_succ]
    refine takeC (i := 15) (v := .agg #[.slice pa P.length pc, .slice ga gs.length gc, .int .i64 o]) (some 43) rfl rfl (by kernel_rfl) (by kernel_rfl) (by kernel_rfl) (fun _ _ _ h => h) (Or.inl ⟨by rfl, ?_⟩) (by assumption) ?_
    · intro wz hSw; obtain ⟨⟨t0, t1, t2⟩, y0, y1, y2⟩ := HXC.out wz (HUP.out _ hSw); go_simp
    try simp only [Act.put, List.setIfInBounds_toArray, List.set_cons_zero, List.set_cons_succ]
    refine takeC (i := 16) (v := .agg #[.slice pa P.length pc, .slice ga gs.length gc, .int .i64 o]) (some 44) rfl rfl (by kernel_rfl) (by kernel_rfl) (by kernel_rfl) (fun _ _ _ h => h) (Or.inl ⟨by rfl, ?_⟩) (by assumption) ?_
    · intro wz hSw; obtain ⟨⟨t0, t1, t2⟩, y0, y1, y2⟩ := HXC.out wz (HUP.out _ hSw); go_simp
    try simp only [Act.put, List.setIfInBounds_toArray, List.set_cons_zero, List.set_cons_succ]
    refine wpAnyH_ready (rs := [17]) (by kernel_rfl) (by simp) ?_
    refine AllReadyH.cons rfl (fun K hK => ?_) AllReadyH.nil
    go_simp
    go_wp2_with (go_at_call 17; refine (H8.out x4 (HUP.out _ h4)).mono ?_; rintro e x5 ⟨rfl, hb10⟩)
    have h5 : Below w5.heap.size w5 x5 := h4.trans (hb10.mono h4.size)
    refine hK.out _ _ h5 (fun hS5 => ?_)
    clear hK K
    try simp only [Act.put, List.setIfInBounds_toArray, List.set_cons_zero, List.set_cons_succ]
    refine takeC (i := 18) (v := .bool true) (some 46) rfl rfl (by kernel_rfl) (by kernel_rfl) (by kernel_rfl) (fun _ _ _ h => h) (Or.inl ⟨by rfl, ?_⟩) (by assumption) ?_
    · intro wz hSw; go_simp
    try simp only [Act.put, List.setIfInBounds_toArray, List.set_cons_zero, List.set_cons_succ]
    refine takeC (i := 19) (v := .bool true) (some 47) rfl rfl (by kernel_rfl) (by kernel_rfl) (by kernel_rfl) (fun _ _ _ h => h) (Or.inl ⟨by rfl, ?_⟩) (by assumption) ?_
    · intro wz hSw; go_simp
    try simp only [Act.put, List.setIfInBounds_toArray, List.set_cons_zero, List.set_cons_succ]
    refine takeC (i := 20) (v := v4) (some 48) rfl rfl (by kernel_rfl) (by kernel_rfl) (by kernel_rfl) (fun _ _ _ h => h) (Or.inl ⟨by rfl, ?_⟩) (by assumption) ?_
    · intro wz hSw; go_simp
    try simp only [Act.put, List.setIfInBounds_toArray, List.set_cons_zero, List.set_cons_succ]
    refine takeC (i := 21) (v := v5) (some 49) rfl rfl (by kernel_rfl) (by kernel_rfl) (by kernel_rfl) (fun _ _ _ h => h) (Or.inl ⟨by rfl, ?_⟩) (by assumption) ?_
    · intro wz hSw; go_simp
    try simp only [Act.put, List.setIfInBounds_toArray, List.set_cons_zero, List.set_cons_succ]
    refine wpAnyH_ready (rs := [22]) (by kernel_rfl) (by simp) ?_
    refine AllReadyH.cons rfl (fun K hK => ?_) AllReadyH.nil
    go_simp
    go_wp2_with (go_at_call 19; refine (H9.out v4 v5 x5 (HUI.out _ h5).1 (HUI.out _ h5).2).mono ?_; rintro e x6 ⟨rfl, hb11⟩)
    have h6 : Below w5.heap.size w5 x6 := h5.trans (hb11.mono h5.size)
    refine hK.out _ _ h6 (fun hS6 => ?_)
    clear hK K
    try simp only [Act.put, List.setIfInBounds_toArray, List.set_cons_zero, List.set_cons_succ]
    refine takeC (i := 23) (v := .bool true) (some 51) rfl rfl (by kernel_rfl) (by kernel_rfl) (by kernel_rfl) (fun _ _ _ h => h) (Or.inl ⟨by rfl, ?_⟩) (by assumption) ?_
    · intro wz hSw; go_simp
    try simp only [Act.put, List.setIfInBounds_toArray, List.set_cons_zero, List.set_cons_succ]
    refine takeC (i := 24) (v := .bool true) (some 52) rfl rfl (by kernel_rfl) (by kernel_rfl) (by kernel_rfl) (fun _ _ _ h => h) (Or.inl ⟨by rfl, ?_⟩) (by assumption) ?_
    · intro wz hSw; go_simp
    try simp only [Act.put, List.setIfInBounds_toArray, List.set_cons_zero, List.set_cons_succ]
    refine takeC (i := 25) (v := .int .i64 r3) (some 53) rfl rfl (by kernel_rfl) (by kernel_rfl) (by kernel_rfl) (fun _ _ _ h => h) (Or.inl ⟨by rfl, ?_⟩) (by assumption) ?_
    · intro wz hSw; go_simp
    try simp only [Act.put, List.setIfInBounds_toArray, List.set_cons_zero, List.set_cons_succ]
    refine takeC (i := 26) (v := .int .i64 r3) (some 54) rfl rfl (by kernel_rfl) (by kernel_rfl) (by kernel_rfl) (fun _ _ _ h => h) (Or.inl ⟨by rfl, ?_⟩) (by assumption) ?_
    · intro wz hSw; go_simp
    try simp only [Act.put, List.setIfInBounds_toArray, List.set_cons_zero, List.set_cons_succ]
    refine takeC (i := 27) (v := .bool true) (some 55) rfl rfl (by kernel_rfl) (by kernel_rfl) (by kernel_rfl) (fun _ _ _ h => h) (Or.inl ⟨by rfl, ?_⟩) (by assumption) ?_
    · intro wz hSw; go_simp
    try simp only [Act.put, List.setIfInBounds_toArray, List.set_cons_zero, List.set_cons_succ]
    refine takeC (i := 28) (v := .bool true) (some 56) rfl rfl (by kernel_rfl) (by kernel_rfl) (by kernel_rfl) (fun _ _ _ h => h) (Or.inl ⟨by rfl, ?_⟩) (by assumption) ?_
    · intro wz hSw; go_simp
    try simp only [Act.put, List.setIfInBounds_toArray, List.set_cons_zero, List.set_cons_succ]
    refine takeC (i := 29) (v := .bool true) (some 57) rfl rfl (by kernel_rfl) (by kernel_rfl) (by kernel_rfl) (fun _ _ _ h => h) (Or.inl ⟨by rfl, ?_⟩) (by assumption) ?_
    · intro wz hSw; go_simp
    try simp only [Act.put, List.setIfInBounds_toArray, List.set_cons_zero, List.set_cons_succ]
    refine wpAnyH_ready (rs := [30]) (by kernel_rfl) (by simp) ?_
    refine AllReadyH.cons rfl (fun K hK => ?_) AllReadyH.nil
    go_simp
    go_wp2_with (go_at_call 12; refine (works_any _).mono ?_; rintro e x7 ⟨rfl, hb12⟩)
    have h7 : Below w5.heap.size w5 x7 := h6.trans (hb12.mono h6.size)
    refine hK.out _ _ h7 (fun hS7 => ?_)
    clear hK K
    try simp only [Act.put, List.setIfInBounds_toArray, List.set_cons_zero, List.set_cons_succ]
    refine takeC (i := 31) (v := .bool true) (some 59) rfl rfl (by kernel_rfl) (by kernel_rfl) (by kernel_rfl) (fun _ _ _ h => h) (Or.inl ⟨by rfl, ?_⟩) (by assumption) ?_
    · intro wz hSw; go_simp
    try simp only [Act.put, List.setIfInBounds_toArray, List.set_cons_zero, List.set_cons_succ]
    refine takeC (i := 32) (v := .bool true) (some 6) rfl rfl (by kernel_rfl) (by kernel_rfl) (by kernel_rfl) (fun _ _ _ h => h) (Or.inl ⟨by rfl, ?_⟩) (by assumption) ?_
    · intro wz hSw; go_simp
    try simp only [Act.put, List.setIfInBounds_toArray, List.set_cons_zero, List.set_cons_succ]
    refine wpAnyH_done (by kernel_rfl) ?_ _
    go_wp2
    go_ret
    exact ⟨rfl, HB0.out.trans ((HUP.out _ h7).mono HB0.out.size)⟩
end Go.Proofs.Ytldgdfchemjcmaa
