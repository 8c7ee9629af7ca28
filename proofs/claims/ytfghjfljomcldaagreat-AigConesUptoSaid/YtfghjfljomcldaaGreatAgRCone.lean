/- The reference's Cone. -/
import Derived.Test.YtfghjfljomcldaaGreatAgRCop
import Derived.Test.YtfghjfljomcldaaGreatAgRResP
namespace Go.Proofs.YtfghjfljomcldaaGreat
open Go.RowKit Go.Maps Go.Shelf
set_option linter.unusedVariables false
set_option linter.unusedSimpArgs false

def RGPost (w : World) (r : (List Int × List Pr) × List Int × Int) (e : Ending) (w' : World) : Prop :=
  ∃ vi va vl, e = .returned (.tuple #[.agg #[vi, va], vl, .int .i64 r.2.2]) ∧ (IsInts w' vi r.1.1 ∧ IsPairs w' va r.1.2) ∧ IsInts w' vl r.2.1 ∧ Below w.heap.size w w'
theorem IsInts.nil' (w : World) : IsInts w (.slice none 0 0) [] := (GrO.nil w 0).ints.1
/-- A maker that is made. -/
theorem rmk_new (w : World) (vi : Value) (I : List Int) (HI : IsInts w vi I) (hI : 1 + I.length ≤ 200000) : RMk (w.alloc (.cells #[vi, .slice none 0 0, .bool false] 82)) (w.alloc (.cells #[vi, .slice none 0 0, .bool false] 82)) w.heap.size w.heap.size I ([], false) vi (.slice none 0 0) :=
  ⟨World.alloc_heap_new _ _, KpM.refl _ _ _ _, fun Z hZ => HI.below ((below_alloc1 w _).trans hZ.below) (Nat.le_refl _), by omega, OwnP.nil _ _, ⟨rfl, by simpa using hI⟩, fun p hp => (by cases hp), Nat.le_refl _⟩
theorem rcAll_ok {k : Nat} {I : List Int} {A : List Pr} {ins l : List Int} {s : Mq} (hk : 1 ≤ k) (hs : MOk k s) (hx : ins.length = I.length) (hok : okUpto (1 + I.length) A A.length = true) (hie : ∀ x ∈ ins, isE x (k + s.1.length) = true) : CpOk k (1 + I.length + A.length) s (rcAll k I A ins l s) :=
  rcTo_ok hk hok (rcIn_ok (nn := 1 + I.length + A.length) hk hs (by omega) hie) A.length (Nat.le_refl _)
theorem edgeI_isE {I : List Int} {v : Int} (h : v ∈ I) : isE (edgeI I v) (1 + I.length + ([] : List Pr).length) = true := by
  unfold edgeI
  rw [if_pos h, isE_true]
  have := placeA_bd I v
  simp only [List.length_nil]
  omega

set_option maxRecDepth 100000 in
set_option maxHeartbeats 6400000 in
theorem rcone_any (vi va vl : Value) (I : List Int) (A : List Pr) (l : List Int) (w : World) (HI : IsInts w vi I) (HA : IsPairs w va A) (HL : IsInts w vl l) (h1 : I.length ≤ 4000000) (h2 : A.length ≤ 4000000) :
    Calls Tryz.prog 33 #[.agg #[vi, va], vl] w (RGPost w (coneR I A l)) := by
  have hb1 := below_alloc1 w (.cells #[vi, va] 25)
  have hb2 := below_alloc1 (w.alloc (.cells #[vi, va] 25)) (.cells #[.slice none 0 0, .slice none 0 0] 25)
  have hb0 : Below w.heap.size w ((w.alloc (.cells #[vi, va] 25)).alloc (.cells #[.slice none 0 0, .slice none 0 0] 25)) := hb1.trans (hb2.mono hb1.size)
  have hsz : ((w.alloc (.cells #[vi, va] 25)).alloc (.cells #[.slice none 0 0, .slice none 0 0] 25)).heap.size = w.heap.size + 2 := by simp
  have hgx : ((w.alloc (.cells #[vi, va] 25)).alloc (.cells #[.slice none 0 0, .slice none 0 0] 25)).heap[w.heap.size]? = some (.cells #[vi, va] 25 (0, 0)) := (hb2.block _ (by simp)).trans (World.alloc_heap_new _ _)
  have hrx : ((w.alloc (.cells #[vi, va] 25)).alloc (.cells #[.slice none 0 0, .slice none 0 0] 25)).heap[w.heap.size + 1]? = some (.cells #[.slice none 0 0, .slice none 0 0] 25 (0, 0)) := by
    have h := World.alloc_heap_new (w.alloc (.cells #[vi, va] 25)) (.cells #[.slice none 0 0, .slice none 0 0] 25)
    simpa using h
  have HI1 := Lib.hid (HI.below hb0 (Nat.le_refl _))
  have HA1 := Lib.hid (HA.below hb0 (Nat.le_refl _))
  have HL1 := Lib.hid (HL.below hb0 (Nat.le_refl _))
  obtain ⟨ia, ic, rfl⟩ := HI.shape
  obtain ⟨aa, ac, rfl, _⟩ := HA.shape
  obtain ⟨la, lc, rfl⟩ := HL.shape
  have HL64 := Lib.hid HL.in64
  have HLL := Lib.hid HL.bd
  have HIW := Lib.hid HI
  clear HI HA HL hb1 hb2
  go_enter Tryz.func33, Tryz.ntmps33
  go_upto_region 1 with fail
  generalize World.alloc (World.alloc w _) _ = W at *
  have HB0 := Lib.hid hb0
  have HSZ := Lib.hid hsz
  have HGX := Lib.hid hgx
  have HRX := Lib.hid hrx
  obtain ⟨p0, p1, _, _⟩ := box2_cells hgx
  have HH := Lib.hid (rhasall_any _ _ _ I A l W HI1.out HA1.out HL1.out h1 h2)
  clear hb0 hsz hgx hrx
  by_cases hh : hasA I A l = true
  · rw [hh] at HH
    have HE := Lib.hid (cone_ref hh)
    obtain ⟨hm, hok, hl⟩ := hasA_parts hh
    have hroom := (mayA_parts hm).1
    have hsrt := (insB_lt (mayA_parts hm).2.1).2
    have HOK := Lib.hid hok
    have HLE := Lib.hid hl
    have HSR := Lib.hid hsrt
    have HRM := Lib.hid hroom
    have hI0 : I.length ≤ 200000 := by omega
    clear hh hm hok hl hsrt hroom
    go_upto_region 3 with (go_at_call 65; refine HH.out.mono ?_; rintro e w1 ⟨rfl, hb1⟩; have HB1 := Lib.hid hb1; clear hb1 p0 p1)
    obtain ⟨p0, p1, _, _⟩ := box2_cells ((HB1.out.block _ (Array.getElem?_eq_some_iff.1 HGX.out).1).trans HGX.out)
    clear HH
    go_upto_region 4 with fail
    have hI1 := HI1.out.below HB1.out (Nat.le_refl _)
    have hbn := below_alloc1 w1 (.cells #[.slice ia I.length ic, .slice none 0 0, .bool false] 82)
    have HBN := Lib.hid (HB1.out.trans (hbn.mono HB1.out.size))
    have HMK := Lib.hid (rmk_new w1 (.slice ia I.length ic) I hI1 (by have := HRM.out; omega))
    have HS2 : Hid ((w1.alloc (.cells #[.slice ia I.length ic, .slice none 0 0, .bool false] 82)).heap.size = w1.heap.size + 1) := by show _ = _; simp
    have HPB : Hid (∀ Z, Below w1.heap.size (w1.alloc (.cells #[.slice ia I.length ic, .slice none 0 0, .bool false] 82)) Z → Below W.heap.size W Z) := fun Z hZ => HBN.out.trans (hZ.mono HB1.out.size)
    clear hbn hI1 p0 p1
    generalize w1.alloc (.cells #[.slice ia I.length ic, .slice none 0 0, .bool false] 82) = W2 at *
    have HPS : Hid (W.heap.size ≤ w1.heap.size) := HB1.out.size
    generalize w1.heap.size = pm at *
    have hwd : Below W2.heap.size W2 W2.drew := (Below.refl _ W2).drew
    have HKD := Lib.hid (HMK.out.kpb hwd (by rw [HS2.out]; omega))
    have HBD := Lib.hid (HBN.out.trans (hwd.mono HBN.out.size))
    have HSD : Hid (W2.drew.heap.size = pm + 1) := HS2.out
    have HWD := Lib.hid hwd
    have hgd := (HBD.out.block _ (Array.getElem?_eq_some_iff.1 HGX.out).1).trans HGX.out
    refine wp_region_held_drew (S := fun Z : World => Z.heap[w.heap.size]? = some (.cells #[.slice ia I.length ic, .slice aa A.length ac] 25 (0, 0)) ∧ True) (by kernel_rfl) ⟨hgd, trivial⟩ (fun hSd => ?_)
    clear hwd hgd
    generalize W2.drew = X at *
    refine takeC (i := 0) (v := .pointer (some ⟨pm, 0, none⟩)) (some 19) rfl rfl (by kernel_rfl) (by kernel_rfl) (by kernel_rfl) (fun _ _ _ h => h) (Or.inl ⟨by rfl, ?_⟩) (by assumption) ?_
    · intro wz hSw; go_simp
    try simp only [Act.put, List.setIfInBounds_toArray, List.set_cons_zero, List.set_cons_succ]
    refine takeC (i := 1) (v := .agg #[.slice ia I.length ic, .slice aa A.length ac]) (some 20) rfl rfl (by kernel_rfl) (by kernel_rfl) (by kernel_rfl) (fun _ _ _ h => h) (Or.inl ⟨by rfl, ?_⟩) (by assumption) ?_
    · intro wz hSw; obtain ⟨t0, t1, _, _⟩ := box2_cells hSw.1; go_simp
    try simp only [Act.put, List.setIfInBounds_toArray, List.set_cons_zero, List.set_cons_succ]
    refine takeC (i := 2) (v := .slice la l.length lc) (some 21) rfl rfl (by kernel_rfl) (by kernel_rfl) (by kernel_rfl) (fun _ _ _ h => h) (Or.inl ⟨by rfl, ?_⟩) (by assumption) ?_
    · intro wz hSw; go_simp
    try simp only [Act.put, List.setIfInBounds_toArray, List.set_cons_zero, List.set_cons_succ]
    refine takeC (i := 3) (v := .pointer (some ⟨pm, 0, none⟩)) (some 22) rfl rfl (by kernel_rfl) (by kernel_rfl) (by kernel_rfl) (fun _ _ _ h => h) (Or.inl ⟨by rfl, ?_⟩) (by assumption) ?_
    · intro wz hSw; go_simp
    try simp only [Act.put, List.setIfInBounds_toArray, List.set_cons_zero, List.set_cons_succ]
    refine takeC (i := 4) (v := .pointer (some ⟨pm, 0, none⟩)) (some 23) rfl rfl (by kernel_rfl) (by kernel_rfl) (by kernel_rfl) (fun _ _ _ h => h) (Or.inl ⟨by rfl, ?_⟩) (by assumption) ?_
    · intro wz hSw; go_simp
    try simp only [Act.put, List.setIfInBounds_toArray, List.set_cons_zero, List.set_cons_succ]
    refine takeC (i := 5) (v := .pointer (some ⟨pm, 0, none⟩)) (some 24) rfl rfl (by kernel_rfl) (by kernel_rfl) (by kernel_rfl) (fun _ _ _ h => h) (Or.inl ⟨by rfl, ?_⟩) (by assumption) ?_
    · intro wz hSw; go_simp
    try simp only [Act.put, List.setIfInBounds_toArray, List.set_cons_zero, List.set_cons_succ]
    refine takeC (i := 7) (v := .pointer (some ⟨w.heap.size, 0, none⟩)) (some 26) rfl rfl (by kernel_rfl) (by kernel_rfl) (by kernel_rfl) (fun _ _ _ h => h) (Or.inl ⟨by rfl, ?_⟩) (by assumption) ?_
    · intro wz hSw; go_simp
    try simp only [Act.put, List.setIfInBounds_toArray, List.set_cons_zero, List.set_cons_succ]
    refine takeC (i := 8) (v := .slice ia I.length ic) (some 27) rfl rfl (by kernel_rfl) (by kernel_rfl) (by kernel_rfl) (fun _ _ _ h => h) (Or.inl ⟨by rfl, ?_⟩) (by assumption) ?_
    · intro wz hSw; obtain ⟨t0, t1, _, _⟩ := box2_cells hSw.1; go_simp
    try simp only [Act.put, List.setIfInBounds_toArray, List.set_cons_zero, List.set_cons_succ]
    obtain ⟨c0, c1, _⟩ := box3r_cells HKD.out.box
    refine wpAnyH_ready (rs := [6]) (by kernel_rfl) (by simp) ?_
    refine AllReadyH.cons rfl (fun K hK => ?_) AllReadyH.nil
    go_simp
    refine hK.out _ _ hSd (fun hHn => ?_)
    clear hK K hHn c0 c1
    try simp only [Act.put, List.setIfInBounds_toArray, List.set_cons_zero, List.set_cons_succ]
    have HED := Lib.hid (redges_any (.slice ia I.length ic) (.slice none 0 0) (.slice ia I.length ic) I [] I X (HI1.out.below HBD.out (Nat.le_refl _)) (GrO.nil X 0).ints.2 (HI1.out.below HBD.out (Nat.le_refl _)) HSR.out hI0)
    refine wpAnyH_ready (rs := [9]) (by kernel_rfl) (by simp) ?_
    refine AllReadyH.cons rfl (fun K hK => ?_) AllReadyH.nil
    go_simp
    go_wp2_with (go_at_call 87; refine HED.out.mono ?_; rintro e x1 ⟨u, rfl, hu, hb⟩)
    have HK1 := Lib.hid (HKD.out.kpb hb (by rw [HSD.out]; omega))
    have HB1X := Lib.hid (HBD.out.trans (hb.mono HBD.out.size))
    have HS1 : Hid (pm + 1 ≤ x1.heap.size) := by have := hb.size; have := HSD.out; show _ ≤ _; omega
    have HUI := Lib.hid (hu.ints (by rw [List.length_map]; omega) (fun y hy => by
      obtain ⟨v, _, rfl⟩ := List.mem_map.1 hy
      have := edgeI_bd I v hI0
      omega))
    refine hK.out _ _ ⟨(hb.block _ (Array.getElem?_eq_some_iff.1 hSd.1).1).trans hSd.1, trivial⟩ (fun hHn => ?_)
    clear hK K hHn hu hb
    try simp only [Act.put, List.setIfInBounds_toArray, List.set_cons_zero, List.set_cons_succ]
    have HCP := Lib.hid (rcopied_any (.slice ia I.length ic) (.slice aa A.length ac) (.slice la l.length lc) u I A l (I.map (edgeI I)) HK1.out (by have := HS1.out; omega) (by have := HS1.out; have := HS2.out; omega) (fun Z hZ => ⟨HI1.out.below (HB1X.out.trans (hZ.mono HPS.out)) (Nat.le_refl _), HA1.out.below (HB1X.out.trans (hZ.mono HPS.out)) (Nat.le_refl _)⟩) (HL1.out.below HB1X.out (Nat.le_refl _)) HUI.out (by rw [List.length_map]) HRM.out HOK.out HLE.out (fun y hy => by
      obtain ⟨v, hv, rfl⟩ := List.mem_map.1 hy
      exact edgeI_isE hv))
    unfold RCopPost at HCP
    refine wpAnyH_ready (rs := [10]) (by kernel_rfl) (by simp) ?_
    refine AllReadyH.cons rfl (fun K hK => ?_) AllReadyH.nil
    go_simp
    go_wp2_with (go_at_call 86; refine HCP.out.mono ?_; rintro e x2 ⟨t, vq, rfl, ht, hm, hk⟩)
    have HM2 := Lib.hid hm
    have HB2X : Hid (Below W.heap.size W x2) := HB1X.out.trans (hk.below.mono HPS.out)
    obtain ⟨qa, qc, rfl⟩ := hm.row.shape
    have hco := rcAll_ok (k := 1 + I.length) (I := I) (A := A) (ins := I.map (edgeI I)) (l := l) (s := ([], false)) (by omega) ⟨rfl, by simp; have := HRM.out; omega⟩ (by rw [List.length_map]) HOK.out (fun y hy => by
      obtain ⟨v, hv, rfl⟩ := List.mem_map.1 hy
      exact edgeI_isE hv)
    generalize hrr : rcAll (1 + I.length) I A (I.map (edgeI I)) l ([], false) = rr at *
    obtain ⟨tt, cc, cf⟩ := rr
    simp only at hco ht
    have htl : tt.length = 1 + I.length + A.length := hco.len
    have HTI := Lib.hid (ht.ints (by have := HRM.out; omega) (fun y hy => by have := hco.bd y hy; omega))
    have HTB := Lib.hid hco.bd
    have HTL := Lib.hid htl
    obtain ⟨ta, tc, rfl⟩ := own_shC ht
    have hS2 : x2.heap[w.heap.size]? = some (.cells #[.slice ia I.length ic, .slice aa A.length ac] 25 (0, 0)) ∧ True := ⟨(HB2X.out.block _ (Array.getElem?_eq_some_iff.1 HGX.out).1).trans HGX.out, trivial⟩
    refine hK.out _ _ hS2 (fun hHn => ?_)
    clear hK K hHn ht hm hk hco htl hrr
    try simp only [Act.put, List.setIfInBounds_toArray, List.set_cons_zero, List.set_cons_succ]
    refine takeC (i := 11) (v := .slice ta tt.length tc) (some 8) rfl rfl (by kernel_rfl) (by kernel_rfl) (by kernel_rfl) (fun _ _ _ h => h) (Or.inl ⟨by rfl, ?_⟩) (by assumption) ?_
    · intro wz hSw; go_simp
    try simp only [Act.put, List.setIfInBounds_toArray, List.set_cons_zero, List.set_cons_succ]
    refine wpAnyH_done (by kernel_rfl) ?_ _
    clear hS2 hSd
    go_upto_region 5 with fail
    have hwd : Below x2.heap.size x2 x2.drew := (Below.refl _ x2).drew
    have HX3 := Lib.hid (HB2X.out.trans (hwd.mono HB2X.out.size))
    have hbx : x2.drew.heap[pm]? = some (.cells #[.slice ia I.length ic, .slice qa cc.length qc, .bool cf] 82 (0, 0)) := HM2.out.box
    have HBX := Lib.hid hbx
    have HRD : Hid (OwnP x2.drew pm (.slice qa cc.length qc) cc) := HM2.out.row.below hwd (Nat.le_refl _)
    have HTD := Lib.hid (HTI.out.below hwd (Nat.le_refl _))
    obtain ⟨d0, d1, _⟩ := box3r_cells hbx
    refine wp_region_held_drew (S := fun Z : World => Z.cell? ⟨pm, 0, none⟩ = some (.slice ia I.length ic) ∧ Z.cell? ⟨pm, 1, none⟩ = some (.slice qa cc.length qc)) (by kernel_rfl) ⟨d0, d1⟩ (fun hSd => ?_)
    clear hwd hbx d0 d1
    generalize x2.drew = x3 at *
    have HLX := Lib.hid (HL1.out.below HX3.out (Nat.le_refl _))
    have HIM := Lib.hid (rimages_any _ _ tt l x3 HTD.out HLX.out (fun y hy => by have := edgesB_true.1 HLE.out y hy; rw [HTL.out]; exact this) HTB.out (by rw [HTL.out]; have := HRM.out; omega))
    refine takeC (i := 0) (v := .pointer (some ⟨pm, 0, none⟩)) (some 30) rfl rfl (by kernel_rfl) (by kernel_rfl) (by kernel_rfl) (fun _ _ _ h => h) (Or.inl ⟨by rfl, ?_⟩) (by assumption) ?_
    · intro wz hSw; go_simp
    try simp only [Act.put, List.setIfInBounds_toArray, List.set_cons_zero, List.set_cons_succ]
    refine takeC (i := 1) (v := .pointer (some ⟨pm, 0, none⟩)) (some 31) rfl rfl (by kernel_rfl) (by kernel_rfl) (by kernel_rfl) (fun _ _ _ h => h) (Or.inl ⟨by rfl, ?_⟩) (by assumption) ?_
    · intro wz hSw; go_simp
    try simp only [Act.put, List.setIfInBounds_toArray, List.set_cons_zero, List.set_cons_succ]
    refine takeC (i := 2) (v := .pointer (some ⟨pm, 0, none⟩)) (some 32) rfl rfl (by kernel_rfl) (by kernel_rfl) (by kernel_rfl) (fun _ _ _ h => h) (Or.inl ⟨by rfl, ?_⟩) (by assumption) ?_
    · intro wz hSw; go_simp
    try simp only [Act.put, List.setIfInBounds_toArray, List.set_cons_zero, List.set_cons_succ]
    refine takeC (i := 3) (v := .agg #[.slice ia I.length ic, .slice qa cc.length qc]) (some 33) rfl rfl (by kernel_rfl) (by kernel_rfl) (by kernel_rfl) (fun _ _ _ h => h) (Or.inl ⟨by rfl, ?_⟩) (by assumption) ?_
    · intro wz hSw; obtain ⟨t0, t1⟩ := hSw; go_simp
    try simp only [Act.put, List.setIfInBounds_toArray, List.set_cons_zero, List.set_cons_succ]
    refine takeC (i := 4) (v := .slice ta tt.length tc) (some 34) rfl rfl (by kernel_rfl) (by kernel_rfl) (by kernel_rfl) (fun _ _ _ h => h) (Or.inl ⟨by rfl, ?_⟩) (by assumption) ?_
    · intro wz hSw; go_simp
    try simp only [Act.put, List.setIfInBounds_toArray, List.set_cons_zero, List.set_cons_succ]
    refine takeC (i := 5) (v := .slice la l.length lc) (some 35) rfl rfl (by kernel_rfl) (by kernel_rfl) (by kernel_rfl) (fun _ _ _ h => h) (Or.inl ⟨by rfl, ?_⟩) (by assumption) ?_
    · intro wz hSw; go_simp
    try simp only [Act.put, List.setIfInBounds_toArray, List.set_cons_zero, List.set_cons_succ]
    refine wpAnyH_ready (rs := [6]) (by kernel_rfl) (by simp) ?_
    refine AllReadyH.cons rfl (fun K hK => ?_) AllReadyH.nil
    go_simp
    go_wp2_with (go_at_call 88; refine HIM.out.mono ?_; rintro e x4 ⟨u2, rfl, hu2, hb4⟩)
    have HB4 := Lib.hid (HX3.out.trans (hb4.mono HX3.out.size))
    have HU2 := Lib.hid hu2
    obtain ⟨ua, uc, rfl⟩ := own_shC hu2
    have hlt3 : pm < x3.heap.size := (Array.getElem?_eq_some_iff.1 HBX.out).1
    have hbx4 := (hb4.block pm hlt3).trans HBX.out
    have HR4 : Hid (OwnP x4 pm (.slice qa cc.length qc) cc) := HRD.out.below hb4 (Nat.le_refl _)
    obtain ⟨d0, d1, _⟩ := box3r_cells hbx4
    refine hK.out _ _ ⟨d0, d1⟩ (fun hHn => ?_)
    clear hK K hHn hb4 hu2 hSd
    try simp only [Act.put, List.setIfInBounds_toArray, List.set_cons_zero, List.set_cons_succ]
    have hr4 := (HB4.out.block _ (Array.getElem?_eq_some_iff.1 HRX.out).1).trans HRX.out
    obtain ⟨e0, e1, f0, f1⟩ := box2_cells hr4
    obtain ⟨g0, g1⟩ := box2_put hr4 (.slice ia I.length ic) (.slice qa cc.length qc)
    have HNE : Hid (pm ≠ w.heap.size + 1) := by have := HPS.out; have := HSZ.out; show _ ≠ _; omega
    have hS5 : ((x4.setCell ⟨w.heap.size + 1, 0, none⟩ (.slice ia I.length ic)).setCell ⟨w.heap.size + 1, 1, none⟩ (.slice qa cc.length qc)).cell? ⟨pm, 0, none⟩ = some (.slice ia I.length ic) ∧ ((x4.setCell ⟨w.heap.size + 1, 0, none⟩ (.slice ia I.length ic)).setCell ⟨w.heap.size + 1, 1, none⟩ (.slice qa cc.length qc)).cell? ⟨pm, 1, none⟩ = some (.slice qa cc.length qc) := by
      obtain ⟨y0, y1, _⟩ := box3r_cells ((heap_set_other 1 (.slice qa cc.length qc) HNE.out).trans ((heap_set_other 0 (.slice ia I.length ic) HNE.out).trans hbx4))
      exact ⟨y0, y1⟩
    refine wpAnyH_ready (rs := [7]) (by kernel_rfl) (by simp) ?_
    refine AllReadyH.cons rfl (fun K hK => ?_) AllReadyH.nil
    go_simp
    refine hK.out _ _ hS5 (fun hHn => ?_)
    clear hK K hHn e0 e1 f0 f1 d0 d1
    try simp only [Act.put, List.setIfInBounds_toArray, List.set_cons_zero, List.set_cons_succ]
    refine takeC (i := 8) (v := .slice ua (l.map (movE tt)).length uc) (some 5) rfl rfl (by kernel_rfl) (by kernel_rfl) (by kernel_rfl) (fun _ _ _ h => h) (Or.inl ⟨by rfl, ?_⟩) (by assumption) ?_
    · intro wz hSw; go_simp
    try simp only [Act.put, List.setIfInBounds_toArray, List.set_cons_zero, List.set_cons_succ]
    refine takeC (i := 9) (v := .int .i64 0) (some 6) rfl rfl (by kernel_rfl) (by kernel_rfl) (by kernel_rfl) (fun _ _ _ h => h) (Or.inl ⟨by rfl, ?_⟩) (by assumption) ?_
    · intro wz hSw; go_simp
    try simp only [Act.put, List.setIfInBounds_toArray, List.set_cons_zero, List.set_cons_succ]
    refine wpAnyH_done (by kernel_rfl) ?_ _
    clear hS5
    go_wp2
    refine ⟨rfl, .tuple #[.agg #[.slice ia I.length ic, .slice qa cc.length qc], .slice ua (l.map (movE tt)).length uc, .int .i64 0], by simp [results, Tryz.f33, go_sem, g0, g1], ?_⟩
    rw [HE.out]
    have HBF := ((HB0.out.trans (HB4.out.mono HB0.out.size)).setCell (p := ⟨w.heap.size + 1, 0, none⟩) (by show _ ≤ _ + 1; omega) (.slice ia I.length ic)).setCell (p := ⟨w.heap.size + 1, 1, none⟩) (by show _ ≤ _ + 1; omega) (.slice qa cc.length qc)
    have hx3 : w.heap.size + 1 < x3.heap.size := by have := HPS.out; have := HSZ.out; omega
    refine ⟨_, _, _, rfl, ⟨HIW.out.below HBF (Nat.le_refl _), ?_⟩, ?_, HBF⟩
    · refine (OwnP.turn HR4.out (fun g hg => ?_) : OwnP _ pm _ cc).pairs (by have := HM2.out.ok.room; show cc.length ≤ _; have h : 1 + I.length + cc.length ≤ 200000 := this; omega) HM2.out.inp
      have hgp := (HR4.out.lt g hg).1
      have := HPS.out
      have := HSZ.out
      exact (heap_set_other 1 _ (by omega)).trans (heap_set_other 0 _ (by omega))
    · have h := (HU2.out.set_far (n := 0) (u := (.slice ia I.length ic)) hx3).set_far (n := 1) (u := (.slice qa cc.length qc)) hx3
      refine h.ints (by rw [List.length_map]; exact HLL.out) (fun y hy => ?_)
      obtain ⟨z, hz, rfl⟩ := List.mem_map.1 hy
      have h9 := edgesB_true.1 HLE.out z hz
      have h10 : 0 ≤ movE tt z ∧ movE tt z ≤ 4000001 := by
        have hq : (z / 2).toNat < tt.length := by rw [HTL.out]; omega
        have hb := HTB.out (tt.getD (z / 2).toNat 0) (by simp [List.getD, hq])
        unfold movE
        split
        · omega
        · exact notE_bdR hb
      omega
  · have hh : hasA I A l = false := by simpa using hh
    have HE : Hid (coneR I A l = (([], []), [], 2)) := by show _ = _; unfold coneR restR; rw [hh]; simp
    rw [hh] at HH
    clear hh
    go_wp2_with (go_at_call 65; refine HH.out.mono ?_; rintro e w1 ⟨rfl, hb1⟩; have hr := (hb1.block _ (Array.getElem?_eq_some_iff.1 HRX.out).1).trans HRX.out; obtain ⟨c0, c1, f0, f1⟩ := box2_cells hr; obtain ⟨g0, g1⟩ := box2_put hr (.slice none 0 0) (.slice none 0 0); have HB1 := Lib.hid hb1; clear hb1 hr)
    refine ⟨rfl, .tuple #[.agg #[.slice none 0 0, .slice none 0 0], .slice none 0 0, .int .i64 2], by simp [results, Tryz.f33, go_sem, g0, g1], ?_⟩
    rw [HE.out]
    exact ⟨_, _, _, rfl, (GrO.nil _ 0).ints, IsInts.nil' _, ((HB0.out.trans (HB1.out.mono HB0.out.size)).setCell (p := ⟨w.heap.size + 1, 0, none⟩) (by show _ ≤ _ + 1; omega) _).setCell (p := ⟨w.heap.size + 1, 1, none⟩) (by show _ ≤ _ + 1; omega) _⟩
end Go.Proofs.YtfghjfljomcldaaGreat
