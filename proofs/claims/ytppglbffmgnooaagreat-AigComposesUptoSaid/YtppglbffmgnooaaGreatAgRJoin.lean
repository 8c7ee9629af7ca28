/- The reference's Join. -/
import Derived.Test.YtppglbffmgnooaaGreatB02
import Derived.Test.YtppglbffmgnooaaGreatAgRCone
namespace Go.Proofs.YtppglbffmgnooaaGreat
open Go.RowKit Go.Maps Go.Shelf
set_option linter.unusedVariables false
set_option linter.unusedSimpArgs false

def RJPost (w : World) (r : (List Int × List Pr) × List Int × List Int × Int) (e : Ending) (w' : World) : Prop :=
  ∃ vi va vu vv, e = .returned (.tuple #[.agg #[vi, va], vu, vv, .int .i64 r.2.2.2]) ∧ (IsInts w' vi r.1.1 ∧ IsPairs w' va r.1.2) ∧ IsInts w' vu r.2.1 ∧ IsInts w' vv r.2.2.1 ∧ Below w.heap.size w w'
theorem movE_in64 {t : List Int} {z : Int} (hb : ∀ x ∈ t, 0 ≤ x ∧ x ≤ 4000000) (h : 0 ≤ z ∧ z / 2 < (t.length : Int)) : -9223372036854775808 ≤ movE t z ∧ movE t z ≤ 9223372036854775807 := by
  have hq : (z / 2).toNat < t.length := by omega
  have hb2 := hb (t.getD (z / 2).toNat 0) (by simp [List.getD, hq])
  have h10 : 0 ≤ movE t z ∧ movE t z ≤ 4000001 := by
    unfold movE
    split
    · omega
    · exact notE_bdR hb2
  omega
theorem rkpM_own {wb w w' : World} {B B' pm : Nat} {I : List Int} {s : Mq} {vi va v : Value} {xs : List Int} (H : RMk wb w B pm I s vi va) (k : KpM B pm pm w w') (h : Own w B' v xs) : Own w' B' v xs := by
  have hne : ∀ (g : Nat) (cur : Array Value), w.heap[g]? = some (.cells cur 3 (0, 0)) → g ≠ pm := fun g cur hg e => by
    rw [e, H.box] at hg
    simp only [Option.some.injEq, Obj.cells.injEq] at hg
    exact absurd hg.2.1 (by decide)
  exact own_turn h (fun g cur hg => (k.same g _ (hne g cur hg) (hne g cur hg) hg (fun e => absurd e (by decide))).trans hg.symm)
set_option maxRecDepth 100000 in
set_option maxHeartbeats 12800000 in
theorem rjoin_any (vi va vx vj vb vy : Value) (I : List Int) (A : List Pr) (x : List Int) (J : List Int) (B : List Pr) (y : List Int) (w : World) (HI : IsInts w vi I) (HA : IsPairs w va A) (HX : IsInts w vx x) (HJ : IsInts w vj J) (HB : IsPairs w vb B) (HY : IsInts w vy y) (h1 : I.length ≤ 4000000) (h2 : A.length ≤ 4000000) (h3 : J.length ≤ 4000000) (h4 : B.length ≤ 4000000) :
    Calls Tryz.prog 39 #[.agg #[vi, va], vx, .agg #[vj, vb], vy] w (RJPost w (gjoinR I A x J B y)) := by
  have hb1 := below_alloc1 w (.cells #[vi, va] 25)
  have hb2 := below_alloc1 (w.alloc (.cells #[vi, va] 25)) (.cells #[vj, vb] 25)
  have hb3 := below_alloc1 ((w.alloc (.cells #[vi, va] 25)).alloc (.cells #[vj, vb] 25)) (.cells #[.slice none 0 0, .slice none 0 0] 25)
  have hb0 : Below w.heap.size w (((w.alloc (.cells #[vi, va] 25)).alloc (.cells #[vj, vb] 25)).alloc (.cells #[.slice none 0 0, .slice none 0 0] 25)) := hb1.trans ((hb2.trans (hb3.mono hb2.size)).mono hb1.size)
  have hsz : (((w.alloc (.cells #[vi, va] 25)).alloc (.cells #[vj, vb] 25)).alloc (.cells #[.slice none 0 0, .slice none 0 0] 25)).heap.size = w.heap.size + 3 := by simp
  have hgx : (((w.alloc (.cells #[vi, va] 25)).alloc (.cells #[vj, vb] 25)).alloc (.cells #[.slice none 0 0, .slice none 0 0] 25)).heap[w.heap.size]? = some (.cells #[vi, va] 25 (0, 0)) := ((hb2.trans (hb3.mono hb2.size)).block _ (by simp)).trans (World.alloc_heap_new _ _)
  have hgy : (((w.alloc (.cells #[vi, va] 25)).alloc (.cells #[vj, vb] 25)).alloc (.cells #[.slice none 0 0, .slice none 0 0] 25)).heap[w.heap.size + 1]? = some (.cells #[vj, vb] 25 (0, 0)) := by
    have h9 := World.alloc_heap_new (w.alloc (.cells #[vi, va] 25)) (.cells #[vj, vb] 25)
    rw [World.size_alloc] at h9
    exact (hb3.block (w.heap.size + 1) (by simp)).trans h9
  have hrx : (((w.alloc (.cells #[vi, va] 25)).alloc (.cells #[vj, vb] 25)).alloc (.cells #[.slice none 0 0, .slice none 0 0] 25)).heap[w.heap.size + 2]? = some (.cells #[.slice none 0 0, .slice none 0 0] 25 (0, 0)) := by
    have h := World.alloc_heap_new ((w.alloc (.cells #[vi, va] 25)).alloc (.cells #[vj, vb] 25)) (.cells #[.slice none 0 0, .slice none 0 0] 25)
    simpa using h
  have HI1 := Lib.hid (HI.below hb0 (Nat.le_refl _))
  have HA1 := Lib.hid (HA.below hb0 (Nat.le_refl _))
  have HX1 := Lib.hid (HX.below hb0 (Nat.le_refl _))
  have HJ1 := Lib.hid (HJ.below hb0 (Nat.le_refl _))
  have HB1 := Lib.hid (HB.below hb0 (Nat.le_refl _))
  have HY1 := Lib.hid (HY.below hb0 (Nat.le_refl _))
  obtain ⟨ia, ic, rfl⟩ := HI.shape
  obtain ⟨aa, ac, rfl, _⟩ := HA.shape
  obtain ⟨xa, xc, rfl⟩ := HX.shape
  obtain ⟨ja, jc, rfl⟩ := HJ.shape
  obtain ⟨ba, bc, rfl, _⟩ := HB.shape
  obtain ⟨ya, yc, rfl⟩ := HY.shape
  clear HI HA HX HJ HB HY hb1 hb2 hb3
  go_enter Tryz.func39, Tryz.ntmps39
  go_upto_region 1 with fail
  generalize World.alloc (World.alloc (World.alloc w _) _) _ = W at *
  have HB0 := Lib.hid hb0
  have HSZ := Lib.hid hsz
  have HGX := Lib.hid hgx
  have HGY := Lib.hid hgy
  have HRX := Lib.hid hrx
  clear hb0 hsz hgx hgy hrx
  have HHX : Hid (∀ X, Below W.heap.size W X → Calls Tryz.prog 65 #[.agg #[.slice ia I.length ic, .slice aa A.length ac], .slice xa x.length xc] X fun r w' => r = .returned (.bool (hasA I A x)) ∧ Below X.heap.size X w') := fun X hX =>
    rhasall_any _ _ _ I A x X (HI1.out.below hX (Nat.le_refl _)) (HA1.out.below hX (Nat.le_refl _)) (HX1.out.below hX (Nat.le_refl _)) h1 h2
  have HHY : Hid (∀ X, Below W.heap.size W X → Calls Tryz.prog 65 #[.agg #[.slice ja J.length jc, .slice ba B.length bc], .slice ya y.length yc] X fun r w' => r = .returned (.bool (hasA J B y)) ∧ Below X.heap.size X w') := fun X hX =>
    rhasall_any _ _ _ J B y X (HJ1.out.below hX (Nat.le_refl _)) (HB1.out.below hX (Nat.le_refl _)) (HY1.out.below hX (Nat.le_refl _)) h3 h4
  have HBAD : Hid (∀ X c, Below W.heap.size W X → gjoinR I A x J B y = errJ c → (X.cell? ⟨w.heap.size + 2, 0, none⟩ = some (.slice none 0 0) ∧ X.cell? ⟨w.heap.size + 2, 1, none⟩ = some (.slice none 0 0) ∧ X.frozen? ⟨w.heap.size + 2, 0, none⟩ = false ∧ X.frozen? ⟨w.heap.size + 2, 1, none⟩ = false) ∧
      (((X.setCell ⟨w.heap.size + 2, 0, none⟩ (.slice none 0 0)).setCell ⟨w.heap.size + 2, 1, none⟩ (.slice none 0 0)).cell? ⟨w.heap.size + 2, 0, none⟩ = some (.slice none 0 0) ∧ ((X.setCell ⟨w.heap.size + 2, 0, none⟩ (.slice none 0 0)).setCell ⟨w.heap.size + 2, 1, none⟩ (.slice none 0 0)).cell? ⟨w.heap.size + 2, 1, none⟩ = some (.slice none 0 0)) ∧
      RJPost w (gjoinR I A x J B y) (.returned (.tuple #[.agg #[.slice none 0 0, .slice none 0 0], .slice none 0 0, .slice none 0 0, .int .i64 c])) ((X.setCell ⟨w.heap.size + 2, 0, none⟩ (.slice none 0 0)).setCell ⟨w.heap.size + 2, 1, none⟩ (.slice none 0 0))) := fun X c hX he => by
    have hr := (hX.block _ (by have := HSZ.out; omega)).trans HRX.out
    refine ⟨box2_cells hr, box2_put hr _ _, ?_⟩
    rw [he]
    exact ⟨_, _, _, _, rfl, ⟨IsInts.nil' _, (GrO.nil _ 0).ints.2⟩, IsInts.nil' _, IsInts.nil' _, ((HB0.out.trans (hX.mono HB0.out.size)).setCell (p := ⟨w.heap.size + 2, 0, none⟩) (by show _ ≤ _ + 2; omega) _).setCell (p := ⟨w.heap.size + 2, 1, none⟩) (by show _ ≤ _ + 2; omega) _⟩
  have HGB : Hid (∀ X, Below W.heap.size W X → (X.cell? ⟨w.heap.size, 0, none⟩ = some (.slice ia I.length ic) ∧ X.cell? ⟨w.heap.size, 1, none⟩ = some (.slice aa A.length ac)) ∧ X.cell? ⟨w.heap.size + 1, 0, none⟩ = some (.slice ja J.length jc) ∧ X.cell? ⟨w.heap.size + 1, 1, none⟩ = some (.slice ba B.length bc)) := fun X hX => by
    obtain ⟨q0, q1, _, _⟩ := box2_cells ((hX.block w.heap.size (by have := HSZ.out; omega)).trans HGX.out)
    obtain ⟨r0, r1, _, _⟩ := box2_cells ((hX.block (w.heap.size + 1) (by have := HSZ.out; omega)).trans HGY.out)
    exact ⟨⟨q0, q1⟩, r0, r1⟩
  obtain ⟨⟨p0, p1⟩, q0, q1⟩ := HGB.out W (Below.refl _ _)
  by_cases hx : hasA I A x = true
  · by_cases hy : hasA J B y = true
    · have HE0 := Lib.hid (join_ref hx hy)
      have HROOM := Lib.hid (join_room hx hy)
      have hpx := hasA_parts hx
      have hpy := hasA_parts hy
      have hmx := mayA_parts hpx.1
      have hmy := mayA_parts hpy.1
      have HPX := Lib.hid hpx
      have HPY := Lib.hid hpy
      have HMX := Lib.hid hmx
      have HMY := Lib.hid hmy
      rw [hx] at HHX
      rw [hy] at HHY
      obtain ⟨hU1, hU2⟩ := union_ins hmx.2.1 hmy.2.1
      have HU := Lib.hid hU1
      have HUL : Hid ((unionL I J).length ≤ 65536) := hU2
      have HU64 : Hid (In64 (unionL I J)) := fun v hv => by have := (insB_lt hU1).1 v hv; omega
      have HUN : Hid (∀ X, Below W.heap.size W X → Calls Tryz.prog 104 #[.slice ia I.length ic, .slice ja J.length jc] X (RetOwn X (unionL I J))) := fun X hX =>
        runion_any _ _ I J X (HI1.out.below hX (Nat.le_refl _)) (HJ1.out.below hX (Nat.le_refl _)) h1 h3
      clear hx hy hpx hpy hmx hmy hU1 hU2
      go_upto_region 3 with (first
        | (go_at_call 65; refine (HHY.out w1 HC1x.out).mono ?_; rintro e w2 ⟨rfl, hb⟩; have HB2 := Lib.hid (HC1x.out.trans (hb.mono HC1x.out.size)); clear hb p0 p1 q0 q1)
        | (go_at_call 65; refine (HHX.out W (Below.refl _ _)).mono ?_; rintro e w1 ⟨rfl, hb⟩; have HC1x := Lib.hid hb; clear hb p0 p1 q0 q1; obtain ⟨⟨p0, p1⟩, q0, q1⟩ := HGB.out w1 HC1x.out))
      clear HHX HHY HC1x
      obtain ⟨⟨p0, p1⟩, q0, q1⟩ := HGB.out w2 HB2.out
      go_upto_region 4 with (go_at_call 104; go_loud (refine (HUN.out w2 HB2.out).mono ?_; rintro e w3 ⟨uv, rfl, ho, hb⟩; obtain ⟨ua, uc, rfl⟩ := own_shC ho; have HO3 := Lib.hid (ho.mono HB2.out.size); have HI3 := Lib.hid (ho.ints (by have := HUL.out; omega) HU64.out); have HB3 := Lib.hid (HB2.out.trans (hb.mono HB2.out.size)); clear ho hb p0 p1 q0 q1))
      have HR1 : Hid (rjoin1 I A x J = rcAll (1 + (unionL I J).length) I A (I.map (edgeI (unionL I J))) x ([], false)) := rfl
      have HR2 : Hid (∀ s, (rjoin1 I A x J).2 = s → rjoin2 I A x J B y = rcAll (1 + (unionL I J).length) J B (J.map (edgeI (unionL I J))) y s) := fun s e => by unfold rjoin2; rw [e]
      have HIU : Hid (∀ v ∈ I, v ∈ unionL I J) := fun v hv => (union_mem I J v).2 (.inl hv)
      have HJU : Hid (∀ v ∈ J, v ∈ unionL I J) := fun v hv => (union_mem I J v).2 (.inr hv)
      have HSR : Hid ((unionL I J).Pairwise (· < ·)) := (insB_lt HU.out).2
      generalize unionL I J = U at *
      have hbn := below_alloc1 w3 (.cells #[.slice ua U.length uc, .slice none 0 0, .bool false] 82)
      have HBN := Lib.hid (HB3.out.trans (hbn.mono HB3.out.size))
      have HMK := Lib.hid (rmk_new w3 (.slice ua U.length uc) U HI3.out (by have := HUL.out; omega))
      have HI4 := Lib.hid (HI3.out.below hbn (Nat.le_refl _))
      have HO4 := Lib.hid (HO3.out.below hbn (Nat.le_refl _))
      have HS2 : Hid ((w3.alloc (.cells #[.slice ua U.length uc, .slice none 0 0, .bool false] 82)).heap.size = w3.heap.size + 1) := by show _ = _; simp
      have HPB : Hid (∀ Z, Below w3.heap.size (w3.alloc (.cells #[.slice ua U.length uc, .slice none 0 0, .bool false] 82)) Z → Below W.heap.size W Z) := fun Z hZ => HBN.out.trans (hZ.mono HB3.out.size)
      clear hbn HUN HI3
      generalize w3.alloc (.cells #[.slice ua U.length uc, .slice none 0 0, .bool false] 82) = W2 at *
      have HPS : Hid (W.heap.size ≤ w3.heap.size) := HB3.out.size
      generalize w3.heap.size = pm at *
      have hwd : Below W2.heap.size W2 W2.drew := (Below.refl _ W2).drew
      have HKD := Lib.hid (HMK.out.kpb hwd (by rw [HS2.out]; omega))
      have HBD := Lib.hid (HBN.out.trans (hwd.mono HBN.out.size))
      have HSD : Hid (W2.drew.heap.size = pm + 1) := HS2.out
      have HID := Lib.hid (HI4.out.below hwd (Nat.le_refl _))
      have HOD := Lib.hid (HO4.out.below hwd (Nat.le_refl _))
      have hgd := (HBD.out.block _ (Array.getElem?_eq_some_iff.1 HGX.out).1).trans HGX.out
      refine wp_region_held_drew (S := fun Z : World => Z.heap[w.heap.size]? = some (.cells #[.slice ia I.length ic, .slice aa A.length ac] 25 (0, 0)) ∧ True) (by kernel_rfl) ⟨hgd, trivial⟩ (fun hSd => ?_)
      clear hwd hgd
      generalize W2.drew = X at *
      refine takeC (i := 0) (v := .pointer (some ⟨pm, 0, none⟩)) (some 34) rfl rfl (by kernel_rfl) (by kernel_rfl) (by kernel_rfl) (fun _ _ _ h => h) (Or.inl ⟨by rfl, ?_⟩) (by assumption) ?_
      · intro wz hSw; go_simp
      try simp only [Act.put, List.setIfInBounds_toArray, List.set_cons_zero, List.set_cons_succ]
      refine takeC (i := 1) (v := .agg #[.slice ia I.length ic, .slice aa A.length ac]) (some 35) rfl rfl (by kernel_rfl) (by kernel_rfl) (by kernel_rfl) (fun _ _ _ h => h) (Or.inl ⟨by rfl, ?_⟩) (by assumption) ?_
      · intro wz hSw; obtain ⟨t0, t1, _, _⟩ := box2_cells hSw.1; go_simp
      try simp only [Act.put, List.setIfInBounds_toArray, List.set_cons_zero, List.set_cons_succ]
      refine takeC (i := 2) (v := .slice xa x.length xc) (some 36) rfl rfl (by kernel_rfl) (by kernel_rfl) (by kernel_rfl) (fun _ _ _ h => h) (Or.inl ⟨by rfl, ?_⟩) (by assumption) ?_
      · intro wz hSw; go_simp
      try simp only [Act.put, List.setIfInBounds_toArray, List.set_cons_zero, List.set_cons_succ]
      refine takeC (i := 3) (v := .pointer (some ⟨pm, 0, none⟩)) (some 37) rfl rfl (by kernel_rfl) (by kernel_rfl) (by kernel_rfl) (fun _ _ _ h => h) (Or.inl ⟨by rfl, ?_⟩) (by assumption) ?_
      · intro wz hSw; go_simp
      try simp only [Act.put, List.setIfInBounds_toArray, List.set_cons_zero, List.set_cons_succ]
      refine takeC (i := 4) (v := .pointer (some ⟨pm, 0, none⟩)) (some 38) rfl rfl (by kernel_rfl) (by kernel_rfl) (by kernel_rfl) (fun _ _ _ h => h) (Or.inl ⟨by rfl, ?_⟩) (by assumption) ?_
      · intro wz hSw; go_simp
      try simp only [Act.put, List.setIfInBounds_toArray, List.set_cons_zero, List.set_cons_succ]
      refine takeC (i := 5) (v := .pointer (some ⟨pm, 0, none⟩)) (some 39) rfl rfl (by kernel_rfl) (by kernel_rfl) (by kernel_rfl) (fun _ _ _ h => h) (Or.inl ⟨by rfl, ?_⟩) (by assumption) ?_
      · intro wz hSw; go_simp
      try simp only [Act.put, List.setIfInBounds_toArray, List.set_cons_zero, List.set_cons_succ]
      refine takeC (i := 7) (v := .pointer (some ⟨w.heap.size, 0, none⟩)) (some 41) rfl rfl (by kernel_rfl) (by kernel_rfl) (by kernel_rfl) (fun _ _ _ h => h) (Or.inl ⟨by rfl, ?_⟩) (by assumption) ?_
      · intro wz hSw; go_simp
      try simp only [Act.put, List.setIfInBounds_toArray, List.set_cons_zero, List.set_cons_succ]
      refine takeC (i := 8) (v := .slice ia I.length ic) (some 42) rfl rfl (by kernel_rfl) (by kernel_rfl) (by kernel_rfl) (fun _ _ _ h => h) (Or.inl ⟨by rfl, ?_⟩) (by assumption) ?_
      · intro wz hSw; obtain ⟨t0, t1, _, _⟩ := box2_cells hSw.1; go_simp
      try simp only [Act.put, List.setIfInBounds_toArray, List.set_cons_zero, List.set_cons_succ]
      obtain ⟨c0, c1, _⟩ := box3r_cells HKD.out.box
      refine wpAnyH_ready (rs := [6]) (by kernel_rfl) (by simp) ?_
      refine AllReadyH.cons rfl (fun K hK => ?_) AllReadyH.nil
      go_simp
      refine hK.out _ _ hSd (fun hHn => ?_)
      clear hK K hHn c0 c1
      try simp only [Act.put, List.setIfInBounds_toArray, List.set_cons_zero, List.set_cons_succ]
      have HED := Lib.hid (redges_any (.slice ua U.length uc) (.slice none 0 0) (.slice ia I.length ic) U [] I X HID.out (GrO.nil X 0).ints.2 (HI1.out.below HBD.out (Nat.le_refl _)) HSR.out (by have := HUL.out; omega))
      refine wpAnyH_ready (rs := [9]) (by kernel_rfl) (by simp) ?_
      refine AllReadyH.cons rfl (fun K hK => ?_) AllReadyH.nil
      go_simp
      go_wp2_with (go_at_call 87; refine HED.out.mono ?_; rintro e x1 ⟨u, rfl, hu, hb⟩)
      have HK1 := Lib.hid (HKD.out.kpb hb (by rw [HSD.out]; omega))
      have HB1X := Lib.hid (HBD.out.trans (hb.mono HBD.out.size))
      have HIX := Lib.hid (HID.out.below hb (Nat.le_refl _))
      have HOX := Lib.hid (HOD.out.below hb (Nat.le_refl _))
      have HS1 : Hid (pm + 1 ≤ x1.heap.size) := by have := hb.size; have := HSD.out; show _ ≤ _; omega
      have HUI := Lib.hid (hu.ints (by rw [List.length_map]; have := HMX.out.1; omega) (fun z hz => by
        obtain ⟨v, _, rfl⟩ := List.mem_map.1 hz
        have := edgeI_bd U v (by have := HUL.out; omega)
        omega))
      refine hK.out _ _ ⟨(hb.block _ (Array.getElem?_eq_some_iff.1 hSd.1).1).trans hSd.1, trivial⟩ (fun hHn => ?_)
      clear hK K hHn hu hb
      try simp only [Act.put, List.setIfInBounds_toArray, List.set_cons_zero, List.set_cons_succ]
      have HCP := Lib.hid (rcopied_any (.slice ia I.length ic) (.slice aa A.length ac) (.slice xa x.length xc) u I A x (I.map (edgeI U)) HK1.out (by have := HS1.out; omega) (by have := HS1.out; have := HS2.out; omega) (fun Z hZ => ⟨HI1.out.below (HB1X.out.trans (hZ.mono HPS.out)) (Nat.le_refl _), HA1.out.below (HB1X.out.trans (hZ.mono HPS.out)) (Nat.le_refl _)⟩) (HX1.out.below HB1X.out (Nat.le_refl _)) HUI.out (by rw [List.length_map]) HMX.out.1 HPX.out.2.1 HPX.out.2.2 (fun z hz => by
        obtain ⟨v, hv, rfl⟩ := List.mem_map.1 hz
        exact edgeI_isE (HIU.out v hv)))
      rw [← HR1.out] at HCP
      unfold RCopPost at HCP
      refine wpAnyH_ready (rs := [10]) (by kernel_rfl) (by simp) ?_
      refine AllReadyH.cons rfl (fun K hK => ?_) AllReadyH.nil
      go_simp
      go_wp2_with (go_at_call 86; refine HCP.out.mono ?_; rintro e x2 ⟨t, vq, rfl, ht, hm, hk⟩)
      have HM2 := Lib.hid hm
      have HB2X : Hid (Below W.heap.size W x2) := HB1X.out.trans (hk.below.mono HPS.out)
      have hS2 : x2.heap[w.heap.size]? = some (.cells #[.slice ia I.length ic, .slice aa A.length ac] 25 (0, 0)) ∧ True := ⟨(HB2X.out.block _ (Array.getElem?_eq_some_iff.1 HGX.out).1).trans HGX.out, trivial⟩
      have HT2 := Lib.hid ht
      have HOY := Lib.hid (rkpM_own HK1.out hk HOX.out)
      refine hK.out _ _ hS2 (fun hHn => ?_)
      clear hK K hHn ht hm
      try simp only [Act.put, List.setIfInBounds_toArray, List.set_cons_zero, List.set_cons_succ]
      obtain ⟨ta, tc, rfl⟩ := own_shC HT2.out
      refine takeC (i := 11) (v := .slice ta (rjoin1 I A x J).1.length tc) (some 13) rfl rfl (by kernel_rfl) (by kernel_rfl) (by kernel_rfl) (fun _ _ _ h => h) (Or.inl ⟨by rfl, ?_⟩) (by assumption) ?_
      · intro wz hSw; go_simp
      try simp only [Act.put, List.setIfInBounds_toArray, List.set_cons_zero, List.set_cons_succ]
      refine wpAnyH_done (by kernel_rfl) ?_ _
      clear hS2 hSd
      have hco := rcAll_ok (k := 1 + U.length) (I := I) (A := A) (ins := I.map (edgeI U)) (l := x) (s := ([], false)) (by omega) ⟨rfl, by simp; have := HUL.out; omega⟩ (by rw [List.length_map]) HPX.out.2.1 (fun z hz => by
        obtain ⟨v, hv, rfl⟩ := List.mem_map.1 hz
        exact edgeI_isE (HIU.out v hv))
      rw [← HR1.out] at hco
      have HC1 := Lib.hid hco
      clear hco HCP HED HUI HK1 HKD HIX HID HI4 HMK HR1
      generalize rjoin1 I A x J = r1 at *
      have HR3 := Lib.hid (HR2.out r1.2 rfl)
      clear HR2
      obtain ⟨tt, cc, cf⟩ := r1
      have HTL : Hid (tt.length = 1 + I.length + A.length) := HC1.out.len
      have HTB : Hid (∀ z ∈ tt, 0 ≤ z ∧ z ≤ 4000000) := HC1.out.bd
      have HTT : Hid (Own x2 x1.heap.size (.slice ta tt.length tc) tt) := HT2.out
      obtain ⟨qa, qc, rfl⟩ := HM2.out.row.shape
      have HP2 : Hid (pm + 1 ≤ x2.heap.size ∧ W2.heap.size ≤ x2.heap.size) := by have h1 := hk.below.size; have := HS1.out; have := HS2.out; exact ⟨by omega, by omega⟩
      clear hk
      go_upto_region 5 with fail
      have hwd : Below x2.heap.size x2 x2.drew := (Below.refl _ x2).drew
      have HK5 := Lib.hid (HM2.out.kpb hwd (by have := HP2.out; omega))
      have HB5 := Lib.hid (HB2X.out.trans (hwd.mono HB2X.out.size))
      have HS5 : Hid (x2.drew.heap.size = x2.heap.size) := rfl
      have HT5 := Lib.hid (HTT.out.below hwd (Nat.le_refl _))
      have HO5 := Lib.hid (HOY.out.below hwd (Nat.le_refl _))
      have hgd := (HB5.out.block _ (Array.getElem?_eq_some_iff.1 HGY.out).1).trans HGY.out
      refine wp_region_held_drew (S := fun Z : World => Z.heap[w.heap.size + 1]? = some (.cells #[.slice ja J.length jc, .slice ba B.length bc] 25 (0, 0)) ∧ True) (by kernel_rfl) ⟨hgd, trivial⟩ (fun hSd => ?_)
      clear hwd hgd
      generalize x2.drew = X5 at *
      refine takeC (i := 0) (v := .pointer (some ⟨pm, 0, none⟩)) (some 45) rfl rfl (by kernel_rfl) (by kernel_rfl) (by kernel_rfl) (fun _ _ _ h => h) (Or.inl ⟨by rfl, ?_⟩) (by assumption) ?_
      · intro wz hSw; go_simp
      try simp only [Act.put, List.setIfInBounds_toArray, List.set_cons_zero, List.set_cons_succ]
      refine takeC (i := 1) (v := .agg #[.slice ja J.length jc, .slice ba B.length bc]) (some 46) rfl rfl (by kernel_rfl) (by kernel_rfl) (by kernel_rfl) (fun _ _ _ h => h) (Or.inl ⟨by rfl, ?_⟩) (by assumption) ?_
      · intro wz hSw; obtain ⟨t0, t1, _, _⟩ := box2_cells hSw.1; go_simp
      try simp only [Act.put, List.setIfInBounds_toArray, List.set_cons_zero, List.set_cons_succ]
      refine takeC (i := 2) (v := .slice ya y.length yc) (some 47) rfl rfl (by kernel_rfl) (by kernel_rfl) (by kernel_rfl) (fun _ _ _ h => h) (Or.inl ⟨by rfl, ?_⟩) (by assumption) ?_
      · intro wz hSw; go_simp
      try simp only [Act.put, List.setIfInBounds_toArray, List.set_cons_zero, List.set_cons_succ]
      refine takeC (i := 3) (v := .pointer (some ⟨pm, 0, none⟩)) (some 48) rfl rfl (by kernel_rfl) (by kernel_rfl) (by kernel_rfl) (fun _ _ _ h => h) (Or.inl ⟨by rfl, ?_⟩) (by assumption) ?_
      · intro wz hSw; go_simp
      try simp only [Act.put, List.setIfInBounds_toArray, List.set_cons_zero, List.set_cons_succ]
      refine takeC (i := 4) (v := .pointer (some ⟨pm, 0, none⟩)) (some 49) rfl rfl (by kernel_rfl) (by kernel_rfl) (by kernel_rfl) (fun _ _ _ h => h) (Or.inl ⟨by rfl, ?_⟩) (by assumption) ?_
      · intro wz hSw; go_simp
      try simp only [Act.put, List.setIfInBounds_toArray, List.set_cons_zero, List.set_cons_succ]
      refine takeC (i := 5) (v := .pointer (some ⟨pm, 0, none⟩)) (some 50) rfl rfl (by kernel_rfl) (by kernel_rfl) (by kernel_rfl) (fun _ _ _ h => h) (Or.inl ⟨by rfl, ?_⟩) (by assumption) ?_
      · intro wz hSw; go_simp
      try simp only [Act.put, List.setIfInBounds_toArray, List.set_cons_zero, List.set_cons_succ]
      refine takeC (i := 7) (v := .pointer (some ⟨w.heap.size + 1, 0, none⟩)) (some 52) rfl rfl (by kernel_rfl) (by kernel_rfl) (by kernel_rfl) (fun _ _ _ h => h) (Or.inl ⟨by rfl, ?_⟩) (by assumption) ?_
      · intro wz hSw; go_simp
      try simp only [Act.put, List.setIfInBounds_toArray, List.set_cons_zero, List.set_cons_succ]
      refine takeC (i := 8) (v := .slice ja J.length jc) (some 53) rfl rfl (by kernel_rfl) (by kernel_rfl) (by kernel_rfl) (fun _ _ _ h => h) (Or.inl ⟨by rfl, ?_⟩) (by assumption) ?_
      · intro wz hSw; obtain ⟨t0, t1, _, _⟩ := box2_cells hSw.1; go_simp
      try simp only [Act.put, List.setIfInBounds_toArray, List.set_cons_zero, List.set_cons_succ]
      obtain ⟨c0, c1, _⟩ := box3r_cells HK5.out.box
      refine wpAnyH_ready (rs := [6]) (by kernel_rfl) (by simp) ?_
      refine AllReadyH.cons rfl (fun K hK => ?_) AllReadyH.nil
      go_simp
      refine hK.out _ _ hSd (fun hHn => ?_)
      clear hK K hHn c0 c1
      try simp only [Act.put, List.setIfInBounds_toArray, List.set_cons_zero, List.set_cons_succ]
      have HED := Lib.hid (redges_any (.slice ua U.length uc) (.slice qa cc.length qc) (.slice ja J.length jc) U cc J X5 HK5.out.graph.1 HK5.out.graph.2 (HJ1.out.below HB5.out (Nat.le_refl _)) HSR.out (by have := HUL.out; omega))
      refine wpAnyH_ready (rs := [9]) (by kernel_rfl) (by simp) ?_
      refine AllReadyH.cons rfl (fun K hK => ?_) AllReadyH.nil
      go_simp
      go_wp2_with (go_at_call 87; refine HED.out.mono ?_; rintro e x6 ⟨u, rfl, hu, hb⟩)
      have HK6 := Lib.hid (HK5.out.kpb hb (by have := HP2.out; have := HS5.out; omega))
      have HB6X := Lib.hid (HB5.out.trans (hb.mono HB5.out.size))
      have HT6 := Lib.hid (HT5.out.below hb (Nat.le_refl _))
      have HO6 := Lib.hid (HO5.out.below hb (Nat.le_refl _))
      have HS6 : Hid (pm + 1 ≤ x6.heap.size ∧ W2.heap.size ≤ x6.heap.size) := by have h := hb.size; have := HS5.out; have := HP2.out; exact ⟨by omega, by omega⟩
      have HUI := Lib.hid (hu.ints (by rw [List.length_map]; have := HMY.out.1; omega) (fun z hz => by
        obtain ⟨v, _, rfl⟩ := List.mem_map.1 hz
        have := edgeI_bd U v (by have := HUL.out; omega)
        omega))
      refine hK.out _ _ ⟨(hb.block _ (Array.getElem?_eq_some_iff.1 hSd.1).1).trans hSd.1, trivial⟩ (fun hHn => ?_)
      clear hK K hHn hu hb
      try simp only [Act.put, List.setIfInBounds_toArray, List.set_cons_zero, List.set_cons_succ]
      have HCP := Lib.hid (rcopied_any (.slice ja J.length jc) (.slice ba B.length bc) (.slice ya y.length yc) u J B y (J.map (edgeI U)) HK6.out (by have := HS6.out; omega) HS6.out.2 (fun Z hZ => ⟨HJ1.out.below (HB6X.out.trans (hZ.mono HPS.out)) (Nat.le_refl _), HB1.out.below (HB6X.out.trans (hZ.mono HPS.out)) (Nat.le_refl _)⟩) (HY1.out.below HB6X.out (Nat.le_refl _)) HUI.out (by rw [List.length_map]) HMY.out.1 HPY.out.2.1 HPY.out.2.2 (fun z hz => by
        obtain ⟨v, hv, rfl⟩ := List.mem_map.1 hz
        exact isE_mono (edgeI_isE (HJU.out v hv)) (by simp)))
      rw [← HR3.out] at HCP
      unfold RCopPost at HCP
      refine wpAnyH_ready (rs := [10]) (by kernel_rfl) (by simp) ?_
      refine AllReadyH.cons rfl (fun K hK => ?_) AllReadyH.nil
      go_simp
      go_wp2_with (go_at_call 86; refine HCP.out.mono ?_; rintro e x7 ⟨t7, vq7, rfl, ht, hm, hk⟩)
      have HM7 := Lib.hid hm
      have HB7X : Hid (Below W.heap.size W x7) := HB6X.out.trans (hk.below.mono HPS.out)
      have HT7 := Lib.hid (rkpM_own HK6.out hk HT6.out)
      have HO7 := Lib.hid (rkpM_own HK6.out hk HO6.out)
      have HC7 := Lib.hid (rcAll_ok (k := 1 + U.length) (I := J) (A := B) (ins := J.map (edgeI U)) (l := y) (s := (cc, cf)) (by omega) HK6.out.ok (by rw [List.length_map]) HPY.out.2.1 (fun z hz => by
        obtain ⟨v, hv, rfl⟩ := List.mem_map.1 hz
        exact isE_mono (edgeI_isE (HJU.out v hv)) (by simp)))
      have hS7 : x7.heap[w.heap.size + 1]? = some (.cells #[.slice ja J.length jc, .slice ba B.length bc] 25 (0, 0)) ∧ True := ⟨(HB7X.out.block _ (Array.getElem?_eq_some_iff.1 HGY.out).1).trans HGY.out, trivial⟩
      have HQ7 := Lib.hid ht
      refine hK.out _ _ hS7 (fun hHn => ?_)
      clear hK K hHn ht hm
      try simp only [Act.put, List.setIfInBounds_toArray, List.set_cons_zero, List.set_cons_succ]
      obtain ⟨sa, sc, rfl⟩ := own_shC HQ7.out
      refine takeC (i := 11) (v := .slice sa (rjoin2 I A x J B y).1.length sc) (some 14) rfl rfl (by kernel_rfl) (by kernel_rfl) (by kernel_rfl) (fun _ _ _ h => h) (Or.inl ⟨by rfl, ?_⟩) (by assumption) ?_
      · intro wz hSw; go_simp
      try simp only [Act.put, List.setIfInBounds_toArray, List.set_cons_zero, List.set_cons_succ]
      refine wpAnyH_done (by kernel_rfl) ?_ _
      clear hS7 hSd
      rw [← HR3.out] at HC7
      clear HCP HED HUI HK6 HK5 HR3
      generalize rjoin2 I A x J B y = r2 at *
      obtain ⟨ss, dd, df⟩ := r2
      have HSL : Hid (ss.length = 1 + J.length + B.length) := HC7.out.len
      have HSB : Hid (∀ z ∈ ss, 0 ≤ z ∧ z ≤ 4000000) := HC7.out.bd
      have HP7 : Hid (pm + 1 ≤ x7.heap.size) := by have h1 := hk.below.size; have := HS6.out; show _ ≤ _; omega
      obtain ⟨ra, rc, rfl⟩ := HM7.out.row.shape
      obtain ⟨d0, d1, d2⟩ := box3r_cells HM7.out.box
      have HRD : Hid (1 + U.length + dd.length ≤ 200000) := HM7.out.ok.room
      clear hk
      cases df with
      | true =>
        have HE : Hid (gjoinR I A x J B y = errJ 3) := HE0.out
        obtain ⟨⟨c0, c1, f0, f1⟩, ⟨g0, g1⟩, hpost⟩ := HBAD.out x7 3 HB7X.out HE.out
        have HPO := Lib.hid hpost
        clear hpost
        go_wp2
        exact ⟨rfl, .tuple #[.agg #[.slice none 0 0, .slice none 0 0], .slice none 0 0, .slice none 0 0, .int .i64 3], by simp [results, Tryz.f39, go_sem, g0, g1], HPO.out⟩
      | false =>
        have HE : Hid (gjoinR I A x J B y = ((U, dd), x.map (movE tt), y.map (movE ss), 0)) := HE0.out
        obtain ⟨nn, hnn⟩ : ∃ nn : Nat, 1 + U.length + dd.length = nn := ⟨_, rfl⟩
        have hn2 : nn ≤ 200000 := by have := HRD.out; omega
        have HND : Hid (Calls Tryz.prog 48 #[.agg #[.slice ua U.length uc, .slice ra dd.length rc]] x7 fun r w' => r = .returned (.int .i64 (nn : Int)) ∧ Below x7.heap.size x7 w') := by
          have h := rnodes_any _ _ U dd x7 HM7.out.graph.1 HM7.out.graph.2 (by have := HUL.out; omega) (by have := HRD.out; omega)
          rw [hnn] at h
          exact h
        clear hnn
        go_upto_region 8 with (go_at_call 48; refine HND.out.mono ?_; rintro e x8 ⟨rfl, hb8⟩; have HQ8 := Lib.hid hb8; clear hb8 d0 d1 d2)
        have hwd : Below x8.heap.size x8 x8.drew := (Below.refl _ x8).drew
        have HB78 : Hid (Below x7.heap.size x7 x8.drew) := HQ8.out.trans (hwd.mono HQ8.out.size)
        have HX9 := Lib.hid (HB7X.out.trans (HB78.out.mono HB7X.out.size))
        have hbx := (HB78.out.block pm HM7.out.lt).trans HM7.out.box
        have HM9 : Hid (OwnP x8.drew pm (.slice ra dd.length rc) dd) := HM7.out.row.below HB78.out (Nat.le_refl _)
        have HT9 := Lib.hid (HT7.out.below HB78.out (Nat.le_refl _))
        have HQ9 := Lib.hid (HQ7.out.below HB78.out (Nat.le_refl _))
        have HBX := Lib.hid hbx
        obtain ⟨d0, d1, _⟩ := box3r_cells hbx
        refine wp_region_held_drew (S := fun Z : World => Z.cell? ⟨pm, 0, none⟩ = some (.slice ua U.length uc) ∧ Z.cell? ⟨pm, 1, none⟩ = some (.slice ra dd.length rc)) (by kernel_rfl) ⟨d0, d1⟩ (fun hSd => ?_)
        clear hwd hbx d0 d1
        generalize x8.drew = x9 at *
        have HIM := Lib.hid (rimages_any _ _ tt x x9 (HT9.out.ints (by have := HTL.out; have := HMX.out.1; show tt.length ≤ _; omega) (fun z hz => by have := HTB.out z hz; omega)) (HX1.out.below HX9.out (Nat.le_refl _)) (fun z hz => by have := edgesB_true.1 HPX.out.2.2 z hz; rw [HTL.out]; exact this) HTB.out (by rw [HTL.out]; have := HMX.out.1; omega))
        refine takeC (i := 0) (v := .pointer (some ⟨pm, 0, none⟩)) (some 69) rfl rfl (by kernel_rfl) (by kernel_rfl) (by kernel_rfl) (fun _ _ _ h => h) (Or.inl ⟨by rfl, ?_⟩) (by assumption) ?_
        · intro wz hSw; go_simp
        try simp only [Act.put, List.setIfInBounds_toArray, List.set_cons_zero, List.set_cons_succ]
        refine takeC (i := 1) (v := .pointer (some ⟨pm, 0, none⟩)) (some 70) rfl rfl (by kernel_rfl) (by kernel_rfl) (by kernel_rfl) (fun _ _ _ h => h) (Or.inl ⟨by rfl, ?_⟩) (by assumption) ?_
        · intro wz hSw; go_simp
        try simp only [Act.put, List.setIfInBounds_toArray, List.set_cons_zero, List.set_cons_succ]
        refine takeC (i := 2) (v := .pointer (some ⟨pm, 0, none⟩)) (some 71) rfl rfl (by kernel_rfl) (by kernel_rfl) (by kernel_rfl) (fun _ _ _ h => h) (Or.inl ⟨by rfl, ?_⟩) (by assumption) ?_
        · intro wz hSw; go_simp
        try simp only [Act.put, List.setIfInBounds_toArray, List.set_cons_zero, List.set_cons_succ]
        refine takeC (i := 3) (v := .agg #[.slice ua U.length uc, .slice ra dd.length rc]) (some 72) rfl rfl (by kernel_rfl) (by kernel_rfl) (by kernel_rfl) (fun _ _ _ h => h) (Or.inl ⟨by rfl, ?_⟩) (by assumption) ?_
        · intro wz hSw; obtain ⟨t0, t1⟩ := hSw; go_simp
        try simp only [Act.put, List.setIfInBounds_toArray, List.set_cons_zero, List.set_cons_succ]
        refine takeC (i := 4) (v := .slice ta tt.length tc) (some 73) rfl rfl (by kernel_rfl) (by kernel_rfl) (by kernel_rfl) (fun _ _ _ h => h) (Or.inl ⟨by rfl, ?_⟩) (by assumption) ?_
        · intro wz hSw; go_simp
        try simp only [Act.put, List.setIfInBounds_toArray, List.set_cons_zero, List.set_cons_succ]
        refine takeC (i := 5) (v := .slice xa x.length xc) (some 74) rfl rfl (by kernel_rfl) (by kernel_rfl) (by kernel_rfl) (fun _ _ _ h => h) (Or.inl ⟨by rfl, ?_⟩) (by assumption) ?_
        · intro wz hSw; go_simp
        try simp only [Act.put, List.setIfInBounds_toArray, List.set_cons_zero, List.set_cons_succ]
        refine takeC (i := 7) (v := .slice sa ss.length sc) (some 76) rfl rfl (by kernel_rfl) (by kernel_rfl) (by kernel_rfl) (fun _ _ _ h => h) (Or.inl ⟨by rfl, ?_⟩) (by assumption) ?_
        · intro wz hSw; go_simp
        try simp only [Act.put, List.setIfInBounds_toArray, List.set_cons_zero, List.set_cons_succ]
        refine takeC (i := 8) (v := .slice ya y.length yc) (some 77) rfl rfl (by kernel_rfl) (by kernel_rfl) (by kernel_rfl) (fun _ _ _ h => h) (Or.inl ⟨by rfl, ?_⟩) (by assumption) ?_
        · intro wz hSw; go_simp
        try simp only [Act.put, List.setIfInBounds_toArray, List.set_cons_zero, List.set_cons_succ]
        refine wpAnyH_ready (rs := [6]) (by kernel_rfl) (by simp) ?_
        refine AllReadyH.cons rfl (fun K hK => ?_) AllReadyH.nil
        go_simp
        go_wp2_with (go_at_call 88; refine HIM.out.mono ?_; rintro e x10 ⟨u2, rfl, hu2, hb⟩)
        have HB10 := Lib.hid hb
        have HX10 := Lib.hid (HX9.out.trans (hb.mono HX9.out.size))
        have HU2 := Lib.hid hu2
        obtain ⟨za, zc, rfl⟩ := own_shC hu2
        have HBX10 := Lib.hid ((hb.block pm (Array.getElem?_eq_some_iff.1 HBX.out).1).trans HBX.out)
        have HM10 : Hid (OwnP x10 pm (.slice ra dd.length rc) dd) := HM9.out.below hb (Nat.le_refl _)
        have HQ10 := Lib.hid (HQ9.out.below hb (Nat.le_refl _))
        obtain ⟨d0, d1, _⟩ := box3r_cells HBX10.out
        have hS10 : x10.cell? ⟨pm, 0, none⟩ = some (.slice ua U.length uc) ∧ x10.cell? ⟨pm, 1, none⟩ = some (.slice ra dd.length rc) := ⟨d0, d1⟩
        refine hK.out _ _ hS10 (fun hHn => ?_)
        clear hK K hHn hb hu2 hSd d0 d1
        try simp only [Act.put, List.setIfInBounds_toArray, List.set_cons_zero, List.set_cons_succ]
        have HIN := Lib.hid (rimages_any _ _ ss y x10 (HQ10.out.ints (by have := HSL.out; have := HMY.out.1; show ss.length ≤ _; omega) (fun z hz => by have := HSB.out z hz; omega)) (HY1.out.below HX10.out (Nat.le_refl _)) (fun z hz => by have := edgesB_true.1 HPY.out.2.2 z hz; rw [HSL.out]; exact this) HSB.out (by rw [HSL.out]; have := HMY.out.1; omega))
        refine wpAnyH_ready (rs := [9]) (by kernel_rfl) (by simp) ?_
        refine AllReadyH.cons rfl (fun K hK => ?_) AllReadyH.nil
        go_simp
        go_wp2_with (go_at_call 88; refine HIN.out.mono ?_; rintro e x11 ⟨u3, rfl, hu3, hb⟩)
        have HX11 := Lib.hid (HX10.out.trans (hb.mono HX10.out.size))
        have HU3 := Lib.hid hu3
        have HU21 := Lib.hid (HU2.out.below hb (Nat.le_refl _))
        obtain ⟨wa, wc, rfl⟩ := own_shC hu3
        have hbx11 := (hb.block pm (Array.getElem?_eq_some_iff.1 HBX10.out).1).trans HBX10.out
        have HM11 : Hid (OwnP x11 pm (.slice ra dd.length rc) dd) := HM10.out.below hb (Nat.le_refl _)
        have HZ9 : Hid (pm < x9.heap.size ∧ pm < x10.heap.size) := ⟨(Array.getElem?_eq_some_iff.1 HBX.out).1, (Array.getElem?_eq_some_iff.1 HBX10.out).1⟩
        have HI11 := Lib.hid (HM7.out.ins x7 HM7.out.kp)
        have HB711 : Hid (Below x7.heap.size x7 x11) := HB78.out.trans ((HB10.out.mono HB78.out.size).trans (hb.mono (Nat.le_trans HB78.out.size HB10.out.size)))
        obtain ⟨d0, d1, _⟩ := box3r_cells hbx11
        have hS11 : x11.cell? ⟨pm, 0, none⟩ = some (.slice ua U.length uc) ∧ x11.cell? ⟨pm, 1, none⟩ = some (.slice ra dd.length rc) := ⟨d0, d1⟩
        refine hK.out _ _ hS11 (fun hHn => ?_)
        clear hK K hHn hb hu3 hS10
        try simp only [Act.put, List.setIfInBounds_toArray, List.set_cons_zero, List.set_cons_succ]
        have hr4 := (HX11.out.block _ (Array.getElem?_eq_some_iff.1 HRX.out).1).trans HRX.out
        obtain ⟨e0, e1, f0, f1⟩ := box2_cells hr4
        obtain ⟨g0, g1⟩ := box2_put hr4 (.slice ua U.length uc) (.slice ra dd.length rc)
        have HNE : Hid (pm ≠ w.heap.size + 2) := by have := HPS.out; have := HSZ.out; show _ ≠ _; omega
        have hS5 : ((x11.setCell ⟨w.heap.size + 2, 0, none⟩ (.slice ua U.length uc)).setCell ⟨w.heap.size + 2, 1, none⟩ (.slice ra dd.length rc)).cell? ⟨pm, 0, none⟩ = some (.slice ua U.length uc) ∧ ((x11.setCell ⟨w.heap.size + 2, 0, none⟩ (.slice ua U.length uc)).setCell ⟨w.heap.size + 2, 1, none⟩ (.slice ra dd.length rc)).cell? ⟨pm, 1, none⟩ = some (.slice ra dd.length rc) := by
          obtain ⟨y0, y1, _⟩ := box3r_cells ((heap_set_other 1 (.slice ra dd.length rc) HNE.out).trans ((heap_set_other 0 (.slice ua U.length uc) HNE.out).trans hbx11))
          exact ⟨y0, y1⟩
        refine wpAnyH_ready (rs := [10]) (by kernel_rfl) (by simp) ?_
        refine AllReadyH.cons rfl (fun K hK => ?_) AllReadyH.nil
        go_simp
        refine hK.out _ _ hS5 (fun hHn => ?_)
        clear hK K hHn e0 e1 f0 f1 d0 d1
        try simp only [Act.put, List.setIfInBounds_toArray, List.set_cons_zero, List.set_cons_succ]
        refine takeC (i := 11) (v := .slice za (x.map (movE tt)).length zc) (some 9) rfl rfl (by kernel_rfl) (by kernel_rfl) (by kernel_rfl) (fun _ _ _ h => h) (Or.inl ⟨by rfl, ?_⟩) (by assumption) ?_
        · intro wz hSw; go_simp
        try simp only [Act.put, List.setIfInBounds_toArray, List.set_cons_zero, List.set_cons_succ]
        refine takeC (i := 12) (v := .slice wa (y.map (movE ss)).length wc) (some 10) rfl rfl (by kernel_rfl) (by kernel_rfl) (by kernel_rfl) (fun _ _ _ h => h) (Or.inl ⟨by rfl, ?_⟩) (by assumption) ?_
        · intro wz hSw; go_simp
        try simp only [Act.put, List.setIfInBounds_toArray, List.set_cons_zero, List.set_cons_succ]
        refine takeC (i := 13) (v := .int .i64 0) (some 11) rfl rfl (by kernel_rfl) (by kernel_rfl) (by kernel_rfl) (fun _ _ _ h => h) (Or.inl ⟨by rfl, ?_⟩) (by assumption) ?_
        · intro wz hSw; go_simp
        try simp only [Act.put, List.setIfInBounds_toArray, List.set_cons_zero, List.set_cons_succ]
        refine wpAnyH_done (by kernel_rfl) ?_ _
        clear hS5
        go_wp2
        refine ⟨rfl, .tuple #[.agg #[.slice ua U.length uc, .slice ra dd.length rc], .slice za (x.map (movE tt)).length zc, .slice wa (y.map (movE ss)).length wc, .int .i64 0], by simp [results, Tryz.f39, go_sem, g0, g1], ?_⟩
        rw [HE.out]
        have HBF := ((HB0.out.trans (HX11.out.mono HB0.out.size)).setCell (p := ⟨w.heap.size + 2, 0, none⟩) (by show _ ≤ _ + 2; omega) (.slice ua U.length uc)).setCell (p := ⟨w.heap.size + 2, 1, none⟩) (by show _ ≤ _ + 2; omega) (.slice ra dd.length rc)
        have hsz := HSZ.out
        have hps := HPS.out
        have hz9 := HZ9.out
        have h11 := HO7.out.below HB711.out (Nat.le_refl _)
        refine ⟨_, _, _, _, rfl, ⟨?_, ?_⟩, ?_, ?_, HBF⟩
        · exact ((h11.set_far (n := 0) (u := (.slice ua U.length uc)) (by omega)).set_far (n := 1) (u := (.slice ra dd.length rc)) (by omega)).ints (by have := HUL.out; omega) HU64.out
        · exact (OwnP.turn HM11.out (fun g hg => by
            have hgp := (HM11.out.lt g hg).1
            exact (heap_set_other 1 _ (by omega)).trans (heap_set_other 0 _ (by omega))) : OwnP _ pm _ dd).pairs (by have := HRD.out; omega) HM7.out.inp
        · refine ((HU21.out.set_far (n := 0) (u := (.slice ua U.length uc)) (by omega)).set_far (n := 1) (u := (.slice ra dd.length rc)) (by omega)).ints (by rw [List.length_map]; exact HX1.out.bd) (fun v hv => ?_)
          obtain ⟨z, hz, rfl⟩ := List.mem_map.1 hv
          exact movE_in64 HTB.out (by have := edgesB_true.1 HPX.out.2.2 z hz; rw [HTL.out]; exact this)
        · refine ((HU3.out.set_far (n := 0) (u := (.slice ua U.length uc)) (by omega)).set_far (n := 1) (u := (.slice ra dd.length rc)) (by omega)).ints (by rw [List.length_map]; exact HY1.out.bd) (fun v hv => ?_)
          obtain ⟨z, hz, rfl⟩ := List.mem_map.1 hv
          exact movE_in64 HSB.out (by have := edgesB_true.1 HPY.out.2.2 z hz; rw [HSL.out]; exact this)
    · have hy : hasA J B y = false := by simpa using hy
      have HE : Hid (gjoinR I A x J B y = errJ 2) := by show _ = _; unfold gjoinR; rw [if_neg (fun h => by rw [hy] at h; cases h.2)]
      rw [hx] at HHX
      rw [hy] at HHY
      clear hx hy
      go_wp2_with (first
        | (go_at_call 65; refine (HHY.out w1 HC1x.out).mono ?_; rintro e w2 ⟨rfl, hb⟩; obtain ⟨⟨c0, c1, f0, f1⟩, ⟨g0, g1⟩, hpost⟩ := HBAD.out w2 2 (HC1x.out.trans (hb.mono HC1x.out.size)) HE.out; have HPO := Lib.hid hpost; clear hpost hb p0 p1 q0 q1)
        | (go_at_call 65; refine (HHX.out W (Below.refl _ _)).mono ?_; rintro e w1 ⟨rfl, hb⟩; have HC1x := Lib.hid hb; clear hb p0 p1 q0 q1; obtain ⟨⟨p0, p1⟩, q0, q1⟩ := HGB.out w1 HC1x.out))
      exact ⟨rfl, .tuple #[.agg #[.slice none 0 0, .slice none 0 0], .slice none 0 0, .slice none 0 0, .int .i64 2], by simp [results, Tryz.f39, go_sem, g0, g1], HPO.out⟩
  · have hx : hasA I A x = false := by simpa using hx
    have HE : Hid (gjoinR I A x J B y = errJ 2) := by show _ = _; unfold gjoinR; rw [if_neg (fun h => by rw [hx] at h; cases h.1)]
    rw [hx] at HHX
    clear hx
    go_wp2_with (go_at_call 65; refine (HHX.out W (Below.refl _ _)).mono ?_; rintro e w1 ⟨rfl, hb⟩; obtain ⟨⟨c0, c1, f0, f1⟩, ⟨g0, g1⟩, hpost⟩ := HBAD.out w1 2 hb HE.out; have HPO := Lib.hid hpost; clear hpost hb p0 p1 q0 q1)
    exact ⟨rfl, .tuple #[.agg #[.slice none 0 0, .slice none 0 0], .slice none 0 0, .slice none 0 0, .int .i64 2], by simp [results, Tryz.f39, go_sem, g0, g1], HPO.out⟩
end Go.Proofs.YtppglbffmgnooaaGreat
