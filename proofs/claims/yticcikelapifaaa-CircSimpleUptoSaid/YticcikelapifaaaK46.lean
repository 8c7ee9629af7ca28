/- Joined texts: CxLawSim. -/
import Derived.Test.YticcikelapifaaaK45
import Derived.Test.YticcikelapifaaaK23
import Derived.Test.YticcikelapifaaaK17
/- The law CircSimple, walked. -/
namespace Go.Proofs.Yticcikelapifaaa
open Go.RowKit Go.Maps Go.Shelf
set_option linter.unusedVariables false
set_option linter.unusedSimpArgs false

theorem same_self (P : List Blk) (gs : List Gt) (o : Int) : sameN P gs o P gs o = true := by unfold sameN; simp [sameB]
/-- A net in a new box. -/
theorem net_boxed {w2 : World} {v u : Value} {o : Int} {P : List Blk} {G : List Gt} (h1 : IsBlocks w2 v P) (h2 : IsGates w2 u G) : ∀ Y, Below (w2.alloc (.cells #[v, u, .int .i64 o] 25)).heap.size (w2.alloc (.cells #[v, u, .int .i64 o] 25)) Y → BoxN Y w2.heap.size v u o ∧ IsBlocks Y v P ∧ IsGates Y u G := fun Y hY => by
  have hs : (w2.alloc (.cells #[v, u, .int .i64 o] 25)).heap.size = w2.heap.size + 1 := by simp
  have hb : Below w2.heap.size w2 Y := (below_new w2 _).trans (hY.mono (by omega))
  exact ⟨box_new w2 v u o Y (hY.mono (by omega)), h1.below hb (Nat.le_refl _), h2.below hb (Nat.le_refl _)⟩

set_option maxRecDepth 100000 in
set_option maxHeartbeats 6400000 in
theorem circsimple_any (vp vg va : Value) (o : Int) (P : List Blk) (gs : List Gt) (a : List Int) (w : World) (HP : IsBlocks w vp P) (HG : IsGates w vg gs) (HA : IsInts w va a) (hp : P.length ≤ 2000000) (hg : gs.length ≤ 900000) (hs : sizeG gs ≤ 2000000) (ho1 : -9223372036854775808 ≤ o) (ho2 : o ≤ 9223372036854775807) :
    Calls Try.prog 6 #[.agg #[vp, vg, .int .i64 o], va] w fun e w' => e = .returned (.bool true) ∧ Below w.heap.size w w' := by
  have hal := HA.len
  obtain ⟨pa, pc, rfl, _⟩ := HP.shape
  obtain ⟨ga, gc, rfl, _⟩ := HG.shape
  obtain ⟨aa, ac, rfl⟩ := HA.shape
  obtain ⟨W0, hW0⟩ : ∃ W0, w.alloc (.cells #[.slice pa P.length pc, .slice ga gs.length gc, .int .i64 o] 25) = W0 := ⟨_, rfl⟩
  have hb0 : Below w.heap.size w W0 := by rw [← hW0]; exact below_new _ _
  have hbx := box_new w (.slice pa P.length pc) (.slice ga gs.length gc) o
  rw [hW0] at hbx
  have hs1 : W0.heap.size = w.heap.size + 1 := by rw [← hW0]; simp
  have HXC : Hid (∀ X, Below W0.heap.size W0 X → BoxN X w.heap.size (.slice pa P.length pc) (.slice ga gs.length gc) o) := fun X hX => hbx X (hX.mono (by omega))
  have HW0 := Lib.hid hW0
  have HB0 := Lib.hid hb0
  have HPW := HP.below hb0 (Nat.le_refl _)
  have HGW := HG.below hb0 (Nat.le_refl _)
  have HAW := HA.below hb0 (Nat.le_refl _)
  have up : ∀ X, Below W0.heap.size W0 X → IsBlocks X (.slice pa P.length pc) P ∧ IsGates X (.slice ga gs.length gc) gs ∧ IsInts X (.slice aa a.length ac) a := fun X hX => ⟨HPW.below hX (Nat.le_refl _), HGW.below hX (Nat.le_refl _), HAW.below hX (Nat.le_refl _)⟩
  have H1 := Lib.hid (great_one _ _ o P gs W0 HPW HGW (by omega) (by omega))
  have H2 : Hid (∀ X, Below W0.heap.size W0 X → Calls Try.prog 29 #[.agg #[.slice pa P.length pc, .slice ga gs.length gc, .int .i64 o]] X (NetPostE X X (simpleN P gs o))) := fun X hX => csimple_any _ _ o P gs X (up X hX).1 (up X hX).2.1 (by omega) (by omega) ho1 ho2
  have H3 : Hid (∀ X, Below W0.heap.size W0 X → Calls Try.prog 30 #[.agg #[.slice pa P.length pc, .slice ga gs.length gc, .int .i64 o]] X (NetPostE X X (simpleN P gs o))) := fun X hX => rsimple5_any _ _ o P gs X (up X hX).1 (up X hX).2.1 (by omega) (by omega) ho1 ho2
  have H4 : Hid (a.length ≤ 5000 → ∀ X, Below W0.heap.size W0 X → Calls Try.prog 31 #[.agg #[.slice pa P.length pc, .slice ga gs.length gc, .int .i64 o], .slice aa a.length ac] X (NetPostE X X (cofN P gs o a))) := fun hl X hX => ccof_any _ _ _ o P gs a X (up X hX).1 (up X hX).2.1 (up X hX).2.2 (by omega) (by omega) (by omega) ho1 ho2
  have H5 : Hid (a.length ≤ 5000 → ∀ X, Below W0.heap.size W0 X → Calls Try.prog 32 #[.agg #[.slice pa P.length pc, .slice ga gs.length gc, .int .i64 o], .slice aa a.length ac] X (NetPostE X X (cofN P gs o a))) := fun hl X hX => rcof5_any _ _ _ o P gs a X (up X hX).1 (up X hX).2.1 (up X hX).2.2 (by omega) (by omega) (by omega) ho1 ho2
  clear up HP HG HA hW0 hb0 hbx hs1 hp hg hs HPW HGW HAW
  generalize simpleN P gs o = R1 at *
  generalize cofN P gs o a = R2 at *
  obtain ⟨⟨P1, G1, o1⟩, e1⟩ := R1
  obtain ⟨⟨P2, G2, o2⟩, e2⟩ := R2
  obtain ⟨p0, p1, p2⟩ := HXC.out W0 (Below.refl _ _)
  cases hm : manyG gs with
  | true =>
    rw [hm] at H1
    clear hm H2 H3 H4 H5
    go_enter Try.func6, Try.ntmps6
    go_upto_region 1 with fail
    rw [HW0.out]
    go_wp2_with (first
      | (go_at_call 11; refine H1.out.mono ?_; rintro e w1 ⟨rfl, hb1⟩)
      | (go_at_call 12; refine (works_any _).mono ?_; rintro e w2 ⟨rfl, hb2⟩))
    go_ret
    exact ⟨rfl, HB0.out.trans ((hb1.trans (hb2.mono hb1.size)).mono HB0.out.size)⟩
  | false =>
    rw [hm] at H1
    clear hm
    by_cases hlen : 5000 < a.length
    · have hlz : (5000 : Int) < (a.length : Int) := by omega
      clear H2 H3 H4 H5
      go_enter Try.func6, Try.ntmps6
      go_upto_region 1 with fail
      rw [HW0.out]
      go_wp2_with (first
        | (go_at_call 11; refine H1.out.mono ?_; rintro e w1 ⟨rfl, hb1⟩)
        | (go_at_call 12; refine (works_any _).mono ?_; rintro e w2 ⟨rfl, hb2⟩))
      go_ret
      exact ⟨rfl, HB0.out.trans ((hb1.trans (hb2.mono hb1.size)).mono HB0.out.size)⟩
    · have hll : a.length ≤ 5000 := by omega
      have hlz : ¬ (5000 : Int) < (a.length : Int) := by omega
      have hlb : decide ((5000 : Int) < (a.length : Int)) = false := by simpa using hlz
      have H4' := Lib.hid (H4.out hll)
      have H5' := Lib.hid (H5.out hll)
      clear hlen H4 H5
      go_enter Try.func6, Try.ntmps6
      go_upto_region 1 with fail
      rw [HW0.out]
      go_upto_region 3 with (go_at_call 11; refine H1.out.mono ?_; rintro e w1 ⟨rfl, hb1⟩; have HB1 := Lib.hid hb1; clear hb1 p0 p1 p2; obtain ⟨p0, p1, p2⟩ := HXC.out w1 HB1.out)
      go_upto_region 4 with (go_at_call 29; refine (H2.out w1 HB1.out).mono ?_; rintro e w2 ⟨v2, u2, rfl, hn2, hb2⟩; have HI2 := Lib.hid (And.intro hn2.blocks hn2.gates); have HC2 := Lib.hid hb2; have HBq2 := Lib.hid (HB1.out.trans (hb2.mono HB1.out.size)); obtain ⟨⟨a2, c2, rfl⟩, d2, f2, rfl⟩ := hn2.shapes; clear hn2 hb2 p0 p1 p2)
      have HX2 := Lib.hid (net_boxed (o := o1) HI2.out.1 HI2.out.2)
      have HB2 : Hid (Below W0.heap.size W0 (w2.alloc (.cells #[.slice a2 P1.length c2, .slice d2 G1.length f2, .int .i64 o1] 25))) := HBq2.out.alloc HBq2.out.size _
      have HD2 : Hid (Below w1.heap.size w1 (w2.alloc (.cells #[.slice a2 P1.length c2, .slice d2 G1.length f2, .int .i64 o1] 25))) := HC2.out.alloc HC2.out.size _
      generalize w2.alloc (.cells #[.slice a2 P1.length c2, .slice d2 G1.length f2, .int .i64 o1] 25) = X2 at *
      generalize w2.heap.size = b2 at *
      obtain ⟨p0, p1, p2⟩ := HXC.out X2 HB2.out
      go_upto_region 5 with (go_at_call 30; refine (H3.out X2 HB2.out).mono ?_; rintro e w3 ⟨v3, u3, rfl, hn3, hb3⟩; have HI3 := Lib.hid (And.intro hn3.blocks hn3.gates); have HC3 := Lib.hid hb3; have HBq3 := Lib.hid (HB2.out.trans (hb3.mono HB2.out.size)); obtain ⟨⟨a3, c3, rfl⟩, d3, f3, rfl⟩ := hn3.shapes; clear hn3 hb3 p0 p1 p2)
      have HX3 := Lib.hid (net_boxed (o := o1) HI3.out.1 HI3.out.2)
      have HB3 : Hid (Below W0.heap.size W0 (w3.alloc (.cells #[.slice a3 P1.length c3, .slice d3 G1.length f3, .int .i64 o1] 25))) := HBq3.out.alloc HBq3.out.size _
      have HD3 : Hid (Below X2.heap.size X2 (w3.alloc (.cells #[.slice a3 P1.length c3, .slice d3 G1.length f3, .int .i64 o1] 25))) := HC3.out.alloc HC3.out.size _
      generalize w3.alloc (.cells #[.slice a3 P1.length c3, .slice d3 G1.length f3, .int .i64 o1] 25) = X3 at *
      generalize w3.heap.size = b3 at *
      obtain ⟨p0, p1, p2⟩ := HXC.out X3 HB3.out
      go_upto_region 6 with (go_at_call 31; refine (H4'.out X3 HB3.out).mono ?_; rintro e w4 ⟨v4, u4, rfl, hn4, hb4⟩; have HI4 := Lib.hid (And.intro hn4.blocks hn4.gates); have HC4 := Lib.hid hb4; have HBq4 := Lib.hid (HB3.out.trans (hb4.mono HB3.out.size)); obtain ⟨⟨a4, c4, rfl⟩, d4, f4, rfl⟩ := hn4.shapes; clear hn4 hb4 p0 p1 p2)
      have HX4 := Lib.hid (net_boxed (o := o2) HI4.out.1 HI4.out.2)
      have HB4 : Hid (Below W0.heap.size W0 (w4.alloc (.cells #[.slice a4 P2.length c4, .slice d4 G2.length f4, .int .i64 o2] 25))) := HBq4.out.alloc HBq4.out.size _
      have HD4 : Hid (Below X3.heap.size X3 (w4.alloc (.cells #[.slice a4 P2.length c4, .slice d4 G2.length f4, .int .i64 o2] 25))) := HC4.out.alloc HC4.out.size _
      generalize w4.alloc (.cells #[.slice a4 P2.length c4, .slice d4 G2.length f4, .int .i64 o2] 25) = X4 at *
      generalize w4.heap.size = b4 at *
      obtain ⟨p0, p1, p2⟩ := HXC.out X4 HB4.out
      go_upto_region 7 with (go_at_call 32; refine (H5'.out X4 HB4.out).mono ?_; rintro e w5 ⟨v5, u5, rfl, hn5, hb5⟩; have HI5 := Lib.hid (And.intro hn5.blocks hn5.gates); have HC5 := Lib.hid hb5; have HBq5 := Lib.hid (HB4.out.trans (hb5.mono HB4.out.size)); obtain ⟨⟨a5, c5, rfl⟩, d5, f5, rfl⟩ := hn5.shapes; clear hn5 hb5 p0 p1 p2)
      have HX5 := Lib.hid (net_boxed (o := o2) HI5.out.1 HI5.out.2)
      have HB5 : Hid (Below W0.heap.size W0 (w5.alloc (.cells #[.slice a5 P2.length c5, .slice d5 G2.length f5, .int .i64 o2] 25))) := HBq5.out.alloc HBq5.out.size _
      have HD5 : Hid (Below X4.heap.size X4 (w5.alloc (.cells #[.slice a5 P2.length c5, .slice d5 G2.length f5, .int .i64 o2] 25))) := HC5.out.alloc HC5.out.size _
      generalize w5.alloc (.cells #[.slice a5 P2.length c5, .slice d5 G2.length f5, .int .i64 o2] 25) = X5 at *
      generalize w5.heap.size = b5 at *
      obtain ⟨p0, p1, p2⟩ := HXC.out X5 HB5.out
      clear p0 p1 p2 H2 H3 H4' H5'
      have HE3 : Hid (∀ X, Below X5.heap.size X5 X → Below X4.heap.size X4 X ∧ Below X3.heap.size X3 X ∧ Below X2.heap.size X2 X) := fun X hX => by
        have h4 := HD5.out.trans (hX.mono HD5.out.size)
        have h3 := HD4.out.trans (h4.mono HD4.out.size)
        exact ⟨h4, h3, HD3.out.trans (h3.mono HD3.out.size)⟩
      have HALL : Hid (∀ X, Below X5.heap.size X5 X → (BoxN X b2 (.slice a2 P1.length c2) (.slice d2 G1.length f2) o1 ∧ BoxN X b3 (.slice a3 P1.length c3) (.slice d3 G1.length f3) o1) ∧ BoxN X b4 (.slice a4 P2.length c4) (.slice d4 G2.length f4) o2 ∧ BoxN X b5 (.slice a5 P2.length c5) (.slice d5 G2.length f5) o2) := fun X hX =>
        ⟨⟨(HX2.out X (HE3.out X hX).2.2).1, (HX3.out X (HE3.out X hX).2.1).1⟩, (HX4.out X (HE3.out X hX).1).1, (HX5.out X hX).1⟩
      have HS1 : Hid (∀ X, Below X5.heap.size X5 X → Calls Try.prog 18 #[.agg #[.slice a2 P1.length c2, .slice d2 G1.length f2, .int .i64 o1], .agg #[.slice a3 P1.length c3, .slice d3 G1.length f3, .int .i64 o1]] X fun e w' => e = .returned (.bool true) ∧ Below X.heap.size X w') := fun X hX =>
        (rsame5_any _ _ _ _ o1 o1 P1 P1 G1 G1 X (HX2.out X (HE3.out X hX).2.2).2.1 (HX2.out X (HE3.out X hX).2.2).2.2 (HX3.out X (HE3.out X hX).2.1).2.1 (HX3.out X (HE3.out X hX).2.1).2.2).mono fun e w' h => ⟨by rw [h.1, same_self], h.2⟩
      have HS2 : Hid (∀ X, Below X5.heap.size X5 X → Calls Try.prog 18 #[.agg #[.slice a4 P2.length c4, .slice d4 G2.length f4, .int .i64 o2], .agg #[.slice a5 P2.length c5, .slice d5 G2.length f5, .int .i64 o2]] X fun e w' => e = .returned (.bool true) ∧ Below X.heap.size X w') := fun X hX =>
        (rsame5_any _ _ _ _ o2 o2 P2 P2 G2 G2 X (HX4.out X (HE3.out X hX).1).2.1 (HX4.out X (HE3.out X hX).1).2.2 (HX5.out X hX).2.1 (HX5.out X hX).2.2).mono fun e w' h => ⟨by rw [h.1, same_self], h.2⟩
      obtain ⟨⟨⟨p0, p1, p2⟩, q0, q1, q2⟩, ⟨r0, r1, r2⟩, s0, s1, s2⟩ := HALL.out X5 (Below.refl _ _)
      go_wp2_with (first
        | (go_at_call 18; refine (HS2.out w7 HB7.out).mono ?_; rintro e w8 ⟨rfl, hb8⟩; have HB8 := Lib.hid (HB7.out.trans (hb8.mono HB7.out.size)); clear hb8 p0 p1 p2 q0 q1 q2 r0 r1 r2 s0 s1 s2)
        | (go_at_call 18; refine (HS1.out X5 (Below.refl _ _)).mono ?_; rintro e w7 ⟨rfl, hb7⟩; have HB7 := Lib.hid hb7; clear hb7 p0 p1 p2 q0 q1 q2 r0 r1 r2 s0 s1 s2; obtain ⟨⟨⟨p0, p1, p2⟩, q0, q1, q2⟩, ⟨r0, r1, r2⟩, s0, s1, s2⟩ := HALL.out w7 HB7.out)
        | (go_at_call 12; refine (works_any _).mono ?_; rintro e w9 ⟨rfl, hb9⟩; have HB9 := Lib.hid (HB8.out.trans (hb9.mono HB8.out.size)); clear hb9))
      go_ret
      exact ⟨rfl, HB0.out.trans ((HB5.out.trans (HB9.out.mono HB5.out.size)).mono HB0.out.size)⟩
end Go.Proofs.Yticcikelapifaaa
