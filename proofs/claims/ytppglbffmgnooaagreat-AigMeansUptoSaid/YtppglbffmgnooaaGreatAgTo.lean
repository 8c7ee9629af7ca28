/- aig.ToNet. Written by gen-to.py and gen-comp.py out of to.src. -/
import Derived.Test.YtppglbffmgnooaaGreatAgToL
namespace Go.Proofs.YtppglbffmgnooaaGreat
open Go.RowKit Go.Maps
set_option linter.unusedVariables false
set_option linter.unusedSimpArgs false

theorem ToPost.err {w W X : World} {P : List Blk} {r : (List Blk × List Gt × Int) × Int} {c : Int} (hb0 : Below w.heap.size w W) (hsz : W.heap.size = w.heap.size + 2) (hrx : W.heap[w.heap.size + 1]? = some (.cells #[.slice none 0 0, .slice none 0 0, .int .i64 0] 98 (0, 0))) (hX : Below W.heap.size W X) (he : r = (([], [], 0), c)) :
    (X.cell? ⟨w.heap.size + 1, 0, none⟩ = some (.slice none 0 0) ∧ X.cell? ⟨w.heap.size + 1, 1, none⟩ = some (.slice none 0 0) ∧ X.cell? ⟨w.heap.size + 1, 2, none⟩ = some (.int .i64 0) ∧ X.frozen? ⟨w.heap.size + 1, 0, none⟩ = false ∧ X.frozen? ⟨w.heap.size + 1, 1, none⟩ = false ∧ X.frozen? ⟨w.heap.size + 1, 2, none⟩ = false) ∧
    ((((X.setCell ⟨w.heap.size + 1, 0, none⟩ (.slice none 0 0)).setCell ⟨w.heap.size + 1, 1, none⟩ (.slice none 0 0)).setCell ⟨w.heap.size + 1, 2, none⟩ (.int .i64 0)).cell? ⟨w.heap.size + 1, 0, none⟩ = some (.slice none 0 0) ∧ (((X.setCell ⟨w.heap.size + 1, 0, none⟩ (.slice none 0 0)).setCell ⟨w.heap.size + 1, 1, none⟩ (.slice none 0 0)).setCell ⟨w.heap.size + 1, 2, none⟩ (.int .i64 0)).cell? ⟨w.heap.size + 1, 1, none⟩ = some (.slice none 0 0) ∧ (((X.setCell ⟨w.heap.size + 1, 0, none⟩ (.slice none 0 0)).setCell ⟨w.heap.size + 1, 1, none⟩ (.slice none 0 0)).setCell ⟨w.heap.size + 1, 2, none⟩ (.int .i64 0)).cell? ⟨w.heap.size + 1, 2, none⟩ = some (.int .i64 0)) ∧
    ToPost w r (.returned (.tuple #[.agg #[.slice none 0 0, .slice none 0 0, .int .i64 0], .int .i64 c])) (((X.setCell ⟨w.heap.size + 1, 0, none⟩ (.slice none 0 0)).setCell ⟨w.heap.size + 1, 1, none⟩ (.slice none 0 0)).setCell ⟨w.heap.size + 1, 2, none⟩ (.int .i64 0)) := by
  have hr := (hX.block _ (by omega)).trans hrx
  refine ⟨box3_all hr, box3_put hr _ _ _, ?_⟩
  rw [he]
  exact ⟨_, _, rfl, IsTwo.nil _, IsGates.nil _, below_set3 (hb0.trans (hX.mono hb0.size)) (by omega) _ _ _⟩
theorem mayPre_P {P : List Blk} (h : mayPre P = true) : mayP P = true := by
  unfold mayPre at h
  rw [Bool.or_eq_true] at h
  rcases h with h | h
  · have : P = [] := List.length_eq_zero_iff.1 (of_decide_eq_true h)
    subst this
    decide
  · rw [Bool.and_eq_true] at h
    exact mayN_pre h.2
set_option maxRecDepth 100000 in
set_option maxHeartbeats 12800000 in
theorem gtonet_any (vi va vp : Value) (I : List Int) (A : List Pr) (e : Int) (P : List Blk) (w : World) (HI : IsInts w vi I) (HA : IsPairs w va A) (HP : IsBlocks w vp P) (h1 : I.length ≤ 4000000) (h2 : A.length ≤ 4000000) (hp : P.length ≤ 4000000) (he1 : -9223372036854775808 ≤ e) (he2 : e ≤ 9223372036854775807) :
    Calls Tryz.prog 55 #[.agg #[vi, va], .int .i64 e, vp] w (ToPost w (toNetR I A e P)) := by
  obtain ⟨hb0, hsz, hgx, hrx⟩ := to_boxes w vi va
  have HI1 := Lib.hid (HI.below hb0 (Nat.le_refl _))
  have HA1 := Lib.hid (HA.below hb0 (Nat.le_refl _))
  have HP1 := Lib.hid (HP.below hb0 (Nat.le_refl _))
  obtain ⟨ia, ic, rfl⟩ := HI.shape
  obtain ⟨aa, ac, rfl, _⟩ := HA.shape
  obtain ⟨pa, pc, rfl, _⟩ := HP.shape
  clear HI HA HP
  go_enter Tryz.func55, Tryz.ntmps55
  go_upto_region 1 with fail
  generalize World.alloc (World.alloc w _) _ = W at *
  have HB0 := Lib.hid hb0
  have HSZ := Lib.hid hsz
  have HGX := Lib.hid hgx
  have HRX := Lib.hid hrx
  obtain ⟨q0, q1, _, _⟩ := box2_cells hgx
  have HE64 : Hid (In64 [e]) := fun x hx => by rw [List.mem_singleton] at hx; omega
  have hba := below_alloc1 W (.cells #[.int .i64 e] 3)
  have q0' : (W.alloc (.cells #[.int .i64 e] 3)).cell? ⟨w.heap.size, 0, none⟩ = some (.slice ia I.length ic) := cell_old q0
  have q1' : (W.alloc (.cells #[.int .i64 e] 3)).cell? ⟨w.heap.size, 1, none⟩ = some (.slice aa A.length ac) := cell_old q1
  have HHS := Lib.hid (ghas_any _ _ _ I A [e] (W.alloc (.cells #[.int .i64 e] 3)) (HI1.out.below hba (Nat.le_refl _)) (HA1.out.below hba (Nat.le_refl _)) ((own1_new W e).ints (by simp) HE64.out) h1 h2)
  have HBA := Lib.hid hba
  have HMP : Hid (∀ X, Below W.heap.size W X → Calls Tryz.prog 131 #[.slice pa P.length pc] X fun e w' => e = .returned (.bool (mayPre P)) ∧ Below X.heap.size X w') := fun X hX => mayPrefix_any _ P X (HP1.out.below hX (Nat.le_refl _)) hp
  clear hb0 hsz hgx hrx hba
  by_cases hh : hasA I A [e] = true
  · by_cases hm : mayPre P = true
    · have HHH := Lib.hid hh
      have HMM := Lib.hid hm
      rw [hh] at HHS
      rw [hm] at HMP
      clear hh hm
      go_upto_region 3 with (first
        | (go_at_call 131; go_loud (refine (HMP.out w1 HB1.out).mono ?_; rintro er w2 ⟨rfl, hb2⟩; have HB2 := Lib.hid (HB1.out.trans (hb2.mono HB1.out.size)); clear hb2))
        | (go_at_call 62; go_loud (refine HHS.out.mono ?_; rintro er w1 ⟨rfl, hb1⟩; have HB1 := Lib.hid (HBA.out.trans (hb1.mono HBA.out.size)); clear hb1)))
      obtain ⟨hmA, hoA, heA⟩ := hasA_parts HHH.out
      have hroom := (mayA_parts hmA).1
      have hcI : (coneR I A [e]).1.1 = I ∧ (coneR I A [e]).2.2 = 0 ∧ (coneR I A [e]).2.1.length = 1 ∧ mayA I (coneR I A [e]).1.2 = true ∧ edgesB (coneR I A [e]).2.1 (1 + I.length + (coneR I A [e]).1.2.length) = true := by
        have h3 := rest_valid (a := []) HHH.out rfl
        rw [restI_nil] at h3
        have h4 : coneR I A [e] = ((restI [] I, (restC I A [e] []).2.1), (restC I A [e] []).1, 0) := by unfold coneR restR; rw [if_pos ⟨HHH.out, rfl⟩]
        rw [restI_nil] at h4
        rw [h4]
        exact ⟨rfl, rfl, h3.2.2.2, h3.1, h3.2.2.1⟩
      have HRV : Hid (toNetR I A e P = toNetC (coneR I A [e]).1.1 (coneR I A [e]).1.2 ((coneR I A [e]).2.1.getD 0 0) P) := by show _ = _; unfold toNetR; rw [if_pos ⟨HHH.out, HMM.out⟩]
      have HIB := Lib.hid (insB_lt (mayA_parts hmA).2.1)
      have HB2x := HB2.out
      have hgx2 := (HB2x.block _ (by have := HSZ.out; omega)).trans HGX.out
      obtain ⟨k0, k1, _, _⟩ := box2_cells hgx2
      have hbn := below_alloc1 w2 (.cells #[.int .i64 e] 3)
      have k0' : (w2.alloc (.cells #[.int .i64 e] 3)).cell? ⟨w.heap.size, 0, none⟩ = some (.slice ia I.length ic) := cell_old k0
      have k1' : (w2.alloc (.cells #[.int .i64 e] 3)).cell? ⟨w.heap.size, 1, none⟩ = some (.slice aa A.length ac) := cell_old k1
      have HCO := Lib.hid (gcone_any _ _ _ I A [e] (w2.alloc (.cells #[.int .i64 e] 3)) (HI1.out.below (HB2x.trans (hbn.mono HB2x.size)) (Nat.le_refl _)) (HA1.out.below (HB2x.trans (hbn.mono HB2x.size)) (Nat.le_refl _)) ((own1_new w2 e).ints (by simp) HE64.out) h1 h2)
      have HBN := Lib.hid (HB2x.trans (hbn.mono HB2x.size))
      unfold ResPost at HCO
      generalize hcc : coneR I A [e] = CC at *
      obtain ⟨⟨CI, CA⟩, CE, ce⟩ := CC
      simp only at hcI
      obtain ⟨rfl, rfl, hc3, hc4, hc5⟩ := hcI
      obtain ⟨x, rfl⟩ : ∃ x, CE = [x] := by
        match CE, hc3 with
        | [x], _ => exact ⟨x, rfl⟩
      have HMA := Lib.hid hc4
      have HXE := Lib.hid (edgesB_true.1 hc5 x (by simp))
      have hCA := (mayA_parts hc4).1
      have hRV : toNetR CI A e P = toNetC CI CA x P := HRV.out
      have HRF := Lib.hid hRV
      clear hmA hoA heA hcc hc3 hc4 hc5 HRV hRV hgx2 hbn HB2x q0 q1 q0' q1' HMP HHS
      go_upto_region 4 with (go_at_call 32; go_loud (refine HCO.out.mono ?_; rintro er w3 ⟨v1, v2, v3, rfl, hg, ho, hb3⟩; obtain ⟨xa, xc, rfl⟩ := hg.ints.1.shape; obtain ⟨ya, yc, rfl, _⟩ := hg.ints.2.shape; obtain ⟨za, zc, rfl⟩ := own_shC ho; have HG3 := Lib.hid hg; have HO3 := Lib.hid ho; have HB3 := Lib.hid (HBN.out.trans (hb3.mono HBN.out.size)); clear hg ho hb3))
      have hmp := mayPre_P HMM.out
      have hnums := mayP_nums hmp
      have HMPP := Lib.hid hmp
      have HNUM := Lib.hid hnums
      have hfl : (flatB P).length ≤ 1024 := hnums.2.2
      have hPl := mayP_len hmp
      obtain ⟨zg, hza, hzB, hzl, hzc⟩ := own_hitA HO3.out (show 0 < [x].length by simp)
      subst hza
      have hb4 := below_alloc1 w3 (.cells #[.slice xa CI.length xc, .slice ya CA.length yc] 25)
      have hc4 : (w3.alloc (.cells #[.slice xa CI.length xc, .slice ya CA.length yc] 25)).heap[w3.heap.size]? = some (.cells #[.slice xa CI.length xc, .slice ya CA.length yc] 25 (0, 0)) := World.alloc_heap_new _ _
      have HC4 := Lib.hid hc4
      have HB4 := Lib.hid (HB3.out.trans (hb4.mono HB3.out.size))
      have HG4 := Lib.hid (HG3.out.below hb4 (Nat.le_refl _))
      have HX4 : Hid ((w3.alloc (.cells #[.slice xa CI.length xc, .slice ya CA.length yc] 25)).cell? ⟨zg, 0, none⟩ = some (.int .i64 x)) := (hb4.cell (p := ⟨zg, 0, none⟩) hzl).trans hzc
      have HZL : Hid (zg < (w3.alloc (.cells #[.slice xa CI.length xc, .slice ya CA.length yc] 25)).heap.size) := Nat.lt_of_lt_of_le hzl hb4.size
      have HQT := Lib.hid (fun X (hX : Below W.heap.size W X) => aquant_any _ P X (HP1.out.below hX (Nat.le_refl _)) hp (by omega))
      clear hmp hnums hb4 hc4 hzB hzl hzc k0 k1 k0' k1' HG3 HO3
      generalize w3.alloc (.cells #[.slice xa CI.length xc, .slice ya CA.length yc] 25) = X4 at *
      generalize w3.heap.size = cb at *
      have HBD4 : Hid (Below W.heap.size W X4.drew) := HB4.out.drew
      have HS4 : Hid (Below X4.heap.size X4 X4.drew) := (Below.refl _ X4).drew
      refine wp_region_held_drew (S := fun X : World => Below X4.heap.size X4 X) (by kernel_rfl) HS4.out (fun hSd => ?_)
      refine takeC (i := 0) (v := .slice (some ⟨zg, 0, none⟩) 1 zc) (some 37) rfl rfl (by kernel_rfl) (by kernel_rfl) (by kernel_rfl) (fun _ _ _ h => h) (Or.inl ⟨by rfl, ?_⟩) (by assumption) ?_
      · intro wz hSw; go_simp
      try simp only [Act.put, List.setIfInBounds_toArray, List.set_cons_zero, List.set_cons_succ]
      refine takeC (i := 1) (v := .pointer (some ⟨zg, 0, none⟩)) (some 38) rfl rfl (by kernel_rfl) (by kernel_rfl) (by kernel_rfl) (fun _ _ _ h => h) (Or.inl ⟨by rfl, ?_⟩) (by assumption) ?_
      · intro wz hSw; go_simp
      try simp only [Act.put, List.setIfInBounds_toArray, List.set_cons_zero, List.set_cons_succ]
      refine takeC (i := 2) (v := .int .i64 x) (some 39) rfl rfl (by kernel_rfl) (by kernel_rfl) (by kernel_rfl) (fun _ _ _ h => h) (Or.inl ⟨by rfl, ?_⟩) (by assumption) ?_
      · intro wz hSw; have t0 := (Below.cell hSw (p := ⟨zg, 0, none⟩) HZL.out).trans HX4.out; go_simp
      try simp only [Act.put, List.setIfInBounds_toArray, List.set_cons_zero, List.set_cons_succ]
      refine takeC (i := 3) (v := .slice pa P.length pc) (some 40) rfl rfl (by kernel_rfl) (by kernel_rfl) (by kernel_rfl) (fun _ _ _ h => h) (Or.inl ⟨by rfl, ?_⟩) (by assumption) ?_
      · intro wz hSw; go_simp
      try simp only [Act.put, List.setIfInBounds_toArray, List.set_cons_zero, List.set_cons_succ]
      generalize X4.drew = w4 at *
      refine wpAnyH_ready (rs := [4]) (by kernel_rfl) (by simp) ?_
      refine AllReadyH.cons rfl (fun K hK => ?_) AllReadyH.nil
      go_simp
      go_wp2_with (go_at_call 128; go_loud (refine (HQT.out w4 HBD4.out).mono ?_; rintro er w5 ⟨v5, rfl, ho, hb⟩; obtain ⟨va5, vc5, rfl⟩ := own_shC ho; have HV5 := Lib.hid ho; have HS5 := Lib.hid (HS4.out.trans (hb.mono HS4.out.size)); clear ho hb))
      refine hK.out _ _ HS5.out (fun hHn => ?_)
      clear hK K hHn
      try simp only [Act.put, List.setIfInBounds_toArray, List.set_cons_zero, List.set_cons_succ]
      have hSw := HS5.out
      refine takeC (i := 5) (v := .int .i64 x) (some 11) rfl rfl (by kernel_rfl) (by kernel_rfl) (by kernel_rfl) (fun _ _ _ h => h) (Or.inl ⟨by rfl, ?_⟩) (by assumption) ?_
      · intro wz hSw; go_simp
      try simp only [Act.put, List.setIfInBounds_toArray, List.set_cons_zero, List.set_cons_succ]
      refine takeC (i := 6) (v := .slice va5 (ascI (flatB P)).length vc5) (some 12) rfl rfl (by kernel_rfl) (by kernel_rfl) (by kernel_rfl) (fun _ _ _ h => h) (Or.inl ⟨by rfl, ?_⟩) (by assumption) ?_
      · intro wz hSw; go_simp
      try simp only [Act.put, List.setIfInBounds_toArray, List.set_cons_zero, List.set_cons_succ]
      clear hSw hSd
      refine wpAnyH_done (by kernel_rfl) ?_ _
      have hV6 : Own w5 w4.heap.size (.slice va5 (netI P).length vc5) (netI P) := HV5.out
      have HV6 := Lib.hid hV6
      have hIN : ascI (flatB P) = netI P := rfl
      rw [hIN]
      clear hIN hV6 HV5 hfl HQT
      generalize hnI : netI P = V at *
      have HNI := Lib.hid hnI
      clear hnI
      go_upto_region 6 with fail
      have hb0 := below_alloc1 w5 (.cells #[.slice none 0 0, .slice none 0 0, .int .i64 0] 98)
      have hn0 : (w5.alloc (.cells #[.slice none 0 0, .slice none 0 0, .int .i64 0] 98)).heap[w5.heap.size]? = some (.cells #[.slice none 0 0, .slice none 0 0, .int .i64 0] 98 (0, 0)) := World.alloc_heap_new _ _
      have HN0 := Lib.hid hn0
      have HB05 := Lib.hid hb0
      have HBW5 := Lib.hid (HB4.out.trans (HS5.out.mono HB4.out.size))
      have HBw5 : Hid (Below w.heap.size w w5) := HB0.out.trans (HBW5.out.mono HB0.out.size)
      have HNS : Hid (w5.heap.size < (w5.alloc (.cells #[.slice none 0 0, .slice none 0 0, .int .i64 0] 98)).heap.size) := by show _ < _; simp
      have HWS : Hid (w.heap.size + 2 ≤ w5.heap.size) := by have := HSZ.out; have := HBW5.out.size; show _ ≤ _; omega
      clear hb0 hn0
      generalize w5.alloc (.cells #[.slice none 0 0, .slice none 0 0, .int .i64 0] 98) = N0 at *
      obtain ⟨nb, hnb⟩ : ∃ nb, w5.heap.size = nb := ⟨_, rfl⟩
      have HNB := Lib.hid hnb
      rw [hnb] at HN0 HNS HWS ⊢
      clear hnb
      go_wp2
      go_loopw [45] (fun s45 wr => ∃ (k : Nat) (v : Value) (t : List Trp), k ≤ P.length ∧ s45 = .int .i64 k ∧ RowB w wr N0.heap.size v t ∧ shapeT t = P.take k ∧ t.length = k ∧ (∀ z ∈ t, z.2.2.length ≤ 17592186044416 ∧ In64 z.2.2) ∧ wr.heap[nb]? = some (.cells #[v, .slice none 0 0, .int .i64 0] 98 (0, 0)) ∧ Below w5.heap.size w5 wr ∧ N0.heap.size ≤ wr.heap.size) (fun s45 _ => P.length - (intOf s45).toNat)
      case atStart => exact ⟨0, _, [], Nat.zero_le _, rfl, RowB.nil (HBw5.out.trans (HB05.out.mono HBw5.out.size)) (Nat.le_trans HBw5.out.size HB05.out.size), rfl, rfl, (fun z hz => by cases hz), HN0.out, HB05.out, Nat.le_refl _⟩
      case round =>
        obtain ⟨k, v, t, hk, rfl, hrow, hsh, htl, htb, hnx, hbx, hsz0⟩ := hrel
        have HROW := Lib.hid hrow
        have HSH := Lib.hid hsh
        have HTL := Lib.hid htl
        have HTB := Lib.hid htb
        have HNX := Lib.hid hnx
        have HBX := Lib.hid hbx
        have HS0 := Lib.hid hsz0
        obtain ⟨ra, rc, rfl⟩ := hrow.shape
        clear hrow hsh htl htb hnx hbx hsz0
        have HBWr := Lib.hid (HBW5.out.trans (HBX.out.mono HBW5.out.size))
        by_cases hlt : k < P.length
        · obtain ⟨pb, poff, u, rfl, hpl, hcx0, hcu0, HU0⟩ := HP1.out.at hlt
          have hcx := (HBWr.out.cell (p := ⟨pb, poff + k * 2, none⟩) hpl).trans hcx0
          have hcu := (HBWr.out.cell (p := ⟨pb, poff + k * 2 + 1, none⟩) hpl).trans hcu0
          obtain ⟨ua, uc, rfl⟩ := HU0.shape
          have hba := below_alloc1 wr (.cells #[.bool (P.getD k dB).1, .slice ua (P.getD k dB).2.length uc] 118)
          have HU := Lib.hid (HU0.below (HBWr.out.trans (hba.mono HBWr.out.size)) (Nat.le_refl _))
          have HLL : Hid ((P.getD k dB).2.length ≤ 17592186044416 ∧ In64 (P.getD k dB).2) := ⟨HU0.len, HU0.in64⟩
          have HTK : Hid (P.take (k + 1) = P.take k ++ [P.getD k dB]) := by show _ = _; rw [List.take_succ_eq_append_getElem hlt]; simp [List.getD, hlt]
          have HKL := Lib.hid hlt
          have hkb : k < 4000000 := by omega
          clear hcx0 hcu0 HU0 hba
          generalize P.getD k dB = o at *
          obtain ⟨ex, l⟩ := o
          simp only at hcx hcu HU HLL
          go_upto_region 9 with fail
          clear hlt
          have hba := below_alloc1 wr (.cells #[.bool ex, .slice ua l.length uc] 118)
          have hbx : (wr.alloc (.cells #[.bool ex, .slice ua l.length uc] 118)).heap[wr.heap.size]? = some (.cells #[.bool ex, .slice ua l.length uc] 118 (0, 0)) := World.alloc_heap_new _ _
          have hnl : nb < wr.heap.size := (Array.getElem?_eq_some_iff.1 HNX.out).1
          have hBB : (wr.alloc (.cells #[.bool ex, .slice ua l.length uc] 118)).drew.heap[wr.heap.size]? = some (.cells #[.bool ex, .slice ua l.length uc] 118 (0, 0)) := hbx
          have hB5 : Below w5.heap.size w5 (wr.alloc (.cells #[.bool ex, .slice ua l.length uc] 118)).drew := (HBX.out.trans (hba.mono HBX.out.size)).drew
          have HBB := Lib.hid hBB
          have HB5x := Lib.hid hB5
          have HNC : Hid ((wr.alloc (.cells #[.bool ex, .slice ua l.length uc] 118)).drew.heap[nb]? = some (.cells #[.slice ra t.length rc, .slice none 0 0, .int .i64 0] 98 (0, 0))) := (hba.block nb hnl).trans HNX.out
          have HBW2 : Hid (Below wr.heap.size wr (wr.alloc (.cells #[.bool ex, .slice ua l.length uc] 118)).drew) := hba.drew
          have HU2 : Hid (IsInts (wr.alloc (.cells #[.bool ex, .slice ua l.length uc] 118)).drew (.slice ua l.length uc) l) := HU.out.below ((Below.refl _ _).drew) (Nat.le_refl _)
          refine wp_region_held_drew (S := fun Z : World => Z.heap[wr.heap.size]? = some (.cells #[.bool ex, .slice ua l.length uc] 118 (0, 0)) ∧ Below w5.heap.size w5 Z) (by kernel_rfl) ⟨hBB, hB5⟩ (fun hSd => ?_)
          clear hba hbx hBB hB5 hcx hcu HU
          have HU := HU2
          clear HU2
          generalize (wr.alloc (.cells #[.bool ex, .slice ua l.length uc] 118)).drew = wd at *
          refine takeC (i := 0) (v := .pointer (some ⟨nb, 0, none⟩)) (some 49) rfl rfl (by kernel_rfl) (by kernel_rfl) (by kernel_rfl) (fun _ _ _ h => h) (Or.inl ⟨by rfl, ?_⟩) (by assumption) ?_
          · intro wz hSw; go_simp
          try simp only [Act.put, List.setIfInBounds_toArray, List.set_cons_zero, List.set_cons_succ]
          refine takeC (i := 2) (v := .pointer (some ⟨wr.heap.size, 0, none⟩)) (some 51) rfl rfl (by kernel_rfl) (by kernel_rfl) (by kernel_rfl) (fun _ _ _ h => h) (Or.inl ⟨by rfl, ?_⟩) (by assumption) ?_
          · intro wz hSw; go_simp
          try simp only [Act.put, List.setIfInBounds_toArray, List.set_cons_zero, List.set_cons_succ]
          refine takeC (i := 3) (v := .bool ex) (some 52) rfl rfl (by kernel_rfl) (by kernel_rfl) (by kernel_rfl) (fun _ _ _ h => h) (Or.inl ⟨by rfl, ?_⟩) (by assumption) ?_
          · intro wz hSw; obtain ⟨t0, t1, _, _⟩ := box2_cells hSw.1; go_simp
          try simp only [Act.put, List.setIfInBounds_toArray, List.set_cons_zero, List.set_cons_succ]
          refine takeC (i := 4) (v := .pointer (some ⟨wr.heap.size, 1, none⟩)) (some 53) rfl rfl (by kernel_rfl) (by kernel_rfl) (by kernel_rfl) (fun _ _ _ h => h) (Or.inl ⟨by rfl, ?_⟩) (by assumption) ?_
          · intro wz hSw; go_simp
          try simp only [Act.put, List.setIfInBounds_toArray, List.set_cons_zero, List.set_cons_succ]
          refine takeC (i := 5) (v := .slice ua l.length uc) (some 54) rfl rfl (by kernel_rfl) (by kernel_rfl) (by kernel_rfl) (fun _ _ _ h => h) (Or.inl ⟨by rfl, ?_⟩) (by assumption) ?_
          · intro wz hSw; obtain ⟨t0, t1, _, _⟩ := box2_cells hSw.1; go_simp
          try simp only [Act.put, List.setIfInBounds_toArray, List.set_cons_zero, List.set_cons_succ]
          clear hSd
          have HBw : Hid (Below wd.heap.size wd wd) := Below.refl _ _
          refine wpAnyH_ready (rs := [1, 6]) (by kernel_rfl) (by simp) ?_
          refine (AllReadyH.cons rfl (fun K hK => ?_) (AllReadyH.cons rfl (fun K hK => ?_) AllReadyH.nil))
          · obtain ⟨z0, _, _, _, _, _⟩ := box3_all HNC.out
            go_simp
            refine hK.out _ _ ⟨HBB.out, HB5x.out⟩ (fun hHn => ?_)
            clear hK K hHn
            try simp only [Act.put, List.setIfInBounds_toArray, List.set_cons_zero, List.set_cons_succ]
            clear z0
            refine wpAnyH_ready (rs := [6]) (by kernel_rfl) (by simp) ?_
            refine (AllReadyH.cons rfl (fun K hK => ?_) AllReadyH.nil)
            go_simp
            have HCL := Lib.hid (gclone_any _ l wd (HU.out.below HBw.out (Nat.le_refl _)))
            unfold RetOwn at HCL
            go_wp2_with (go_at_call 93; go_loud (refine HCL.out.mono ?_; rintro er wk ⟨vk, rfl, ho, hb⟩; obtain ⟨oa2, oc2, rfl⟩ := own_shC ho; have HONx := Lib.hid (ho.mono HBw.out.size); have HBn := Lib.hid hb; clear ho hb))
            have HNC := Lib.hid ((HBn.out.block _ (Array.getElem?_eq_some_iff.1 HNC.out).1).trans HNC.out)
            have HBB := Lib.hid ((HBn.out.block _ (Array.getElem?_eq_some_iff.1 HBB.out).1).trans HBB.out)
            have HBw := Lib.hid (HBw.out.trans (HBn.out.mono HBw.out.size))
            have HB5x := Lib.hid (HB5x.out.trans (HBn.out.mono HB5x.out.size))
            have HON := HONx
            refine hK.out _ _ ⟨HBB.out, HB5x.out⟩ (fun hHn => ?_)
            clear hK K hHn
            try simp only [Act.put, List.setIfInBounds_toArray, List.set_cons_zero, List.set_cons_succ]
            have hSw := (show _ ∧ _ from And.intro HBB.out HB5x.out)
            refine takeC (i := 7) (v := .agg #[.bool ex, .slice oa2 l.length oc2]) (some 56) rfl rfl (by kernel_rfl) (by kernel_rfl) (by kernel_rfl) (fun _ _ _ h => h) (Or.inl ⟨by rfl, ?_⟩) (by assumption) ?_
            · intro wz hSw; go_simp
            try simp only [Act.put, List.setIfInBounds_toArray, List.set_cons_zero, List.set_cons_succ]
            clear hSw
            refine wpAnyH_ready (rs := [8]) (by kernel_rfl) (by simp) ?_
            refine (AllReadyH.cons rfl (fun K hK => ?_) AllReadyH.nil)
            go_simp
            have HBn := Lib.hid (below_alloc1 wk (.cells #[.bool ex, .slice oa2 l.length oc2] 118))
            have HEX : Hid ((wk.alloc (.cells #[.bool ex, .slice oa2 l.length oc2] 118)).heap[wk.heap.size]? = some (.cells #[.bool ex, .slice oa2 l.length oc2] 118 (0, 0))) := World.alloc_heap_new _ _
            have HNC := Lib.hid ((HBn.out.block _ (Array.getElem?_eq_some_iff.1 HNC.out).1).trans HNC.out)
            have HBB := Lib.hid ((HBn.out.block _ (Array.getElem?_eq_some_iff.1 HBB.out).1).trans HBB.out)
            have HBw := Lib.hid (HBw.out.trans (HBn.out.mono HBw.out.size))
            have HB5x := Lib.hid (HB5x.out.trans (HBn.out.mono HB5x.out.size))
            have HON := Lib.hid (HON.out.below HBn.out (Nat.le_refl _))
            refine hK.out _ _ ⟨HBB.out, HB5x.out⟩ (fun hHn => ?_)
            clear hK K hHn
            try simp only [Act.put, List.setIfInBounds_toArray, List.set_cons_zero, List.set_cons_succ]
            generalize wk.alloc (.cells #[.bool ex, .slice oa2 l.length oc2] 118) = wx at *
            generalize wk.heap.size = eb at *
            have HBWx := Lib.hid (HBW2.out.trans (HBw.out.mono HBW2.out.size))
            obtain ⟨e0, e1, _, _⟩ := box2_cells HEX.out
            refine wpAnyH_ready (rs := [9]) (by kernel_rfl) (by simp) ?_
            refine AllReadyH.cons rfl (fun K hK => ?_) AllReadyH.nil
            refine step_appBlkT rfl (.tmp 50) (.tmp 57) rfl N0.heap.size (.slice ra t.length rc) (.slice oa2 l.length oc2) t ex l eb rfl rfl (row2_below HROW.out.row HBWx.out (Nat.le_refl _)) e0 e1 rfl (by have := HTL.out; omega) (Nat.le_trans HS0.out HBWx.out.size) ?_
            intro v9 w9 hrow9 hg9
            obtain ⟨a9, c9, rfl⟩ := row2_shapeT hrow9
            have hn9 : w9.heap[nb]? = some (.cells #[.slice ra t.length rc, .slice none 0 0, .int .i64 0] 98 (0, 0)) := (hg9.block nb (Array.getElem?_eq_some_iff.1 HNC.out).1 (fun e => by have h1 := (rowB_lt HROW.out.row nb e.symm).1; have h2 := HNS.out; omega)).trans HNC.out
            have hbb9 : w9.heap[wr.heap.size]? = some (.cells #[.bool ex, .slice ua l.length uc] 118 (0, 0)) := (hg9.block _ (Array.getElem?_eq_some_iff.1 HBB.out).1 (fun e => by have h1 := (rowB_lt HROW.out.row _ e.symm).2; omega)).trans HBB.out
            have hb59 := HB5x.out.grown hg9 HB5x.out.size (fun g e => Nat.le_trans HB05.out.size (rowB_lt HROW.out.row g e).1)
            have hrn := RowB.more HROW.out HS0.out HBWx.out (s := [(ex, .slice oa2 l.length oc2, l)]) (fun z hz => by rw [List.mem_singleton] at hz; subst hz; exact .inl (HON.out.mono (Nat.le_trans HS0.out HBW2.out.size))) hrow9 hg9
            have HSZ9 : Hid (N0.heap.size ≤ w9.heap.size) := Nat.le_trans (Nat.le_trans HS0.out HBWx.out.size) hg9.size
            have HTL2 : Hid ((t ++ [(ex, Value.slice oa2 l.length oc2, l)]).length = k + 1) := by show _ = _; rw [List.length_append, HTL.out]; rfl
            have HSH2 : Hid (shapeT (t ++ [(ex, Value.slice oa2 l.length oc2, l)]) = P.take (k + 1)) := by show _ = _; rw [HTK.out, ← HSH.out]; unfold shapeT; rw [List.map_append]; rfl
            have HTB2 : Hid (∀ z ∈ t ++ [(ex, Value.slice oa2 l.length oc2, l)], z.2.2.length ≤ 17592186044416 ∧ In64 z.2.2) := fun z hz => by
              rcases List.mem_append.1 hz with hz | hz
              · exact HTB.out z hz
              · rw [List.mem_singleton] at hz; subst hz; exact HLL.out
            have HRN := Lib.hid hrn
            clear hrow9 hrn e0 e1
            generalize t ++ [(ex, Value.slice oa2 l.length oc2, l)] = t2 at *
            refine hK.out _ _ ⟨hbb9, hb59⟩ (fun hHn => ?_)
            clear hK K hHn
            try simp only [Act.put, List.setIfInBounds_toArray, List.set_cons_zero, List.set_cons_succ]
            have hSw := (show _ ∧ _ from And.intro hbb9 hb59)
            refine takeC (i := 10) (v := .pointer (some ⟨nb, 0, none⟩)) (some 59) rfl rfl (by kernel_rfl) (by kernel_rfl) (by kernel_rfl) (fun _ _ _ h => h) (Or.inl ⟨by rfl, ?_⟩) (by assumption) ?_
            · intro wz hSw; go_simp
            try simp only [Act.put, List.setIfInBounds_toArray, List.set_cons_zero, List.set_cons_succ]
            clear hSw
            obtain ⟨z0, _, _, y0, _, _⟩ := box3_all hn9
            refine wpAnyH_ready (rs := [11]) (by kernel_rfl) (by simp) ?_
            refine AllReadyH.cons rfl (fun K hK => ?_) AllReadyH.nil
            go_simp
            have hnbw : nb ≠ wr.heap.size := by omega
            have hw5n : w5.heap.size ≤ nb := by rw [HNB.out]; exact Nat.le_refl _
            have hb510 := hb59.setCell (p := ⟨nb, 0, none⟩) hw5n (.slice a9 t2.length c9)
            have hbb10 : (w9.setCell ⟨nb, 0, none⟩ (.slice a9 t2.length c9)).heap[wr.heap.size]? = some (.cells #[.bool ex, .slice ua l.length uc] 118 (0, 0)) := (heap_set_other 0 _ (fun e => hnbw e.symm)).trans hbb9
            have HB510 := Lib.hid hb510
            have HN10 := Lib.hid (box3_set0 hn9 (.slice a9 t2.length c9))
            have HR10 := Lib.hid (HRN.out.keptS (Kept.setCell w9 ⟨nb, 0, none⟩ (.slice a9 t2.length c9)) (fun g hg e => by have h1 := HNS.out; simp only at e; omega) (fun g hg e => by have h1 := HWS.out; simp only at e; omega))
            have HS10 : Hid (N0.heap.size ≤ (w9.setCell ⟨nb, 0, none⟩ (.slice a9 t2.length c9)).heap.size) := Nat.le_trans HSZ9.out (Kept.setCell w9 ⟨nb, 0, none⟩ (.slice a9 t2.length c9)).size
            refine hK.out _ _ ⟨hbb10, hb510⟩ (fun hHn => ?_)
            clear hK K hHn hb510 hbb10 hn9 hbb9 hb59 z0 y0 hg9
            try simp only [Act.put, List.setIfInBounds_toArray, List.set_cons_zero, List.set_cons_succ]
            refine wpAnyH_done (by kernel_rfl) ?_ _
            generalize w9.setCell ⟨nb, 0, none⟩ (.slice a9 t2.length c9) = wy at *
            go_wp2
            go_roundw
            case rel => exact ⟨k + 1, _, t2, HKL.out, by go_num, HR10.out, HSH2.out, HTL2.out, HTB2.out, HN10.out, HB510.out, HS10.out⟩
            case measure => have := HKL.out; simp [intOf]; omega
          · go_simp
            have HCL := Lib.hid (gclone_any _ l wd (HU.out.below HBw.out (Nat.le_refl _)))
            unfold RetOwn at HCL
            go_wp2_with (go_at_call 93; go_loud (refine HCL.out.mono ?_; rintro er wk ⟨vk, rfl, ho, hb⟩; obtain ⟨oa2, oc2, rfl⟩ := own_shC ho; have HONx := Lib.hid (ho.mono HBw.out.size); have HBn := Lib.hid hb; clear ho hb))
            have HNC := Lib.hid ((HBn.out.block _ (Array.getElem?_eq_some_iff.1 HNC.out).1).trans HNC.out)
            have HBB := Lib.hid ((HBn.out.block _ (Array.getElem?_eq_some_iff.1 HBB.out).1).trans HBB.out)
            have HBw := Lib.hid (HBw.out.trans (HBn.out.mono HBw.out.size))
            have HB5x := Lib.hid (HB5x.out.trans (HBn.out.mono HB5x.out.size))
            have HON := HONx
            refine hK.out _ _ ⟨HBB.out, HB5x.out⟩ (fun hHn => ?_)
            clear hK K hHn
            try simp only [Act.put, List.setIfInBounds_toArray, List.set_cons_zero, List.set_cons_succ]
            have hSw := (show _ ∧ _ from And.intro HBB.out HB5x.out)
            refine takeC (i := 7) (v := .agg #[.bool ex, .slice oa2 l.length oc2]) (some 56) rfl rfl (by kernel_rfl) (by kernel_rfl) (by kernel_rfl) (fun _ _ _ h => h) (Or.inl ⟨by rfl, ?_⟩) (by assumption) ?_
            · intro wz hSw; go_simp
            try simp only [Act.put, List.setIfInBounds_toArray, List.set_cons_zero, List.set_cons_succ]
            clear hSw
            refine wpAnyH_ready (rs := [1, 8]) (by kernel_rfl) (by simp) ?_
            refine (AllReadyH.cons rfl (fun K hK => ?_) (AllReadyH.cons rfl (fun K hK => ?_) AllReadyH.nil))
            · obtain ⟨z0, _, _, _, _, _⟩ := box3_all HNC.out
              go_simp
              refine hK.out _ _ ⟨HBB.out, HB5x.out⟩ (fun hHn => ?_)
              clear hK K hHn
              try simp only [Act.put, List.setIfInBounds_toArray, List.set_cons_zero, List.set_cons_succ]
              clear z0
              refine wpAnyH_ready (rs := [8]) (by kernel_rfl) (by simp) ?_
              refine (AllReadyH.cons rfl (fun K hK => ?_) AllReadyH.nil)
              go_simp
              have HBn := Lib.hid (below_alloc1 wk (.cells #[.bool ex, .slice oa2 l.length oc2] 118))
              have HEX : Hid ((wk.alloc (.cells #[.bool ex, .slice oa2 l.length oc2] 118)).heap[wk.heap.size]? = some (.cells #[.bool ex, .slice oa2 l.length oc2] 118 (0, 0))) := World.alloc_heap_new _ _
              have HNC := Lib.hid ((HBn.out.block _ (Array.getElem?_eq_some_iff.1 HNC.out).1).trans HNC.out)
              have HBB := Lib.hid ((HBn.out.block _ (Array.getElem?_eq_some_iff.1 HBB.out).1).trans HBB.out)
              have HBw := Lib.hid (HBw.out.trans (HBn.out.mono HBw.out.size))
              have HB5x := Lib.hid (HB5x.out.trans (HBn.out.mono HB5x.out.size))
              have HON := Lib.hid (HON.out.below HBn.out (Nat.le_refl _))
              refine hK.out _ _ ⟨HBB.out, HB5x.out⟩ (fun hHn => ?_)
              clear hK K hHn
              try simp only [Act.put, List.setIfInBounds_toArray, List.set_cons_zero, List.set_cons_succ]
              generalize wk.alloc (.cells #[.bool ex, .slice oa2 l.length oc2] 118) = wx at *
              generalize wk.heap.size = eb at *
              have HBWx := Lib.hid (HBW2.out.trans (HBw.out.mono HBW2.out.size))
              obtain ⟨e0, e1, _, _⟩ := box2_cells HEX.out
              refine wpAnyH_ready (rs := [9]) (by kernel_rfl) (by simp) ?_
              refine AllReadyH.cons rfl (fun K hK => ?_) AllReadyH.nil
              refine step_appBlkT rfl (.tmp 50) (.tmp 57) rfl N0.heap.size (.slice ra t.length rc) (.slice oa2 l.length oc2) t ex l eb rfl rfl (row2_below HROW.out.row HBWx.out (Nat.le_refl _)) e0 e1 rfl (by have := HTL.out; omega) (Nat.le_trans HS0.out HBWx.out.size) ?_
              intro v9 w9 hrow9 hg9
              obtain ⟨a9, c9, rfl⟩ := row2_shapeT hrow9
              have hn9 : w9.heap[nb]? = some (.cells #[.slice ra t.length rc, .slice none 0 0, .int .i64 0] 98 (0, 0)) := (hg9.block nb (Array.getElem?_eq_some_iff.1 HNC.out).1 (fun e => by have h1 := (rowB_lt HROW.out.row nb e.symm).1; have h2 := HNS.out; omega)).trans HNC.out
              have hbb9 : w9.heap[wr.heap.size]? = some (.cells #[.bool ex, .slice ua l.length uc] 118 (0, 0)) := (hg9.block _ (Array.getElem?_eq_some_iff.1 HBB.out).1 (fun e => by have h1 := (rowB_lt HROW.out.row _ e.symm).2; omega)).trans HBB.out
              have hb59 := HB5x.out.grown hg9 HB5x.out.size (fun g e => Nat.le_trans HB05.out.size (rowB_lt HROW.out.row g e).1)
              have hrn := RowB.more HROW.out HS0.out HBWx.out (s := [(ex, .slice oa2 l.length oc2, l)]) (fun z hz => by rw [List.mem_singleton] at hz; subst hz; exact .inl (HON.out.mono (Nat.le_trans HS0.out HBW2.out.size))) hrow9 hg9
              have HSZ9 : Hid (N0.heap.size ≤ w9.heap.size) := Nat.le_trans (Nat.le_trans HS0.out HBWx.out.size) hg9.size
              have HTL2 : Hid ((t ++ [(ex, Value.slice oa2 l.length oc2, l)]).length = k + 1) := by show _ = _; rw [List.length_append, HTL.out]; rfl
              have HSH2 : Hid (shapeT (t ++ [(ex, Value.slice oa2 l.length oc2, l)]) = P.take (k + 1)) := by show _ = _; rw [HTK.out, ← HSH.out]; unfold shapeT; rw [List.map_append]; rfl
              have HTB2 : Hid (∀ z ∈ t ++ [(ex, Value.slice oa2 l.length oc2, l)], z.2.2.length ≤ 17592186044416 ∧ In64 z.2.2) := fun z hz => by
                rcases List.mem_append.1 hz with hz | hz
                · exact HTB.out z hz
                · rw [List.mem_singleton] at hz; subst hz; exact HLL.out
              have HRN := Lib.hid hrn
              clear hrow9 hrn e0 e1
              generalize t ++ [(ex, Value.slice oa2 l.length oc2, l)] = t2 at *
              refine hK.out _ _ ⟨hbb9, hb59⟩ (fun hHn => ?_)
              clear hK K hHn
              try simp only [Act.put, List.setIfInBounds_toArray, List.set_cons_zero, List.set_cons_succ]
              have hSw := (show _ ∧ _ from And.intro hbb9 hb59)
              refine takeC (i := 10) (v := .pointer (some ⟨nb, 0, none⟩)) (some 59) rfl rfl (by kernel_rfl) (by kernel_rfl) (by kernel_rfl) (fun _ _ _ h => h) (Or.inl ⟨by rfl, ?_⟩) (by assumption) ?_
              · intro wz hSw; go_simp
              try simp only [Act.put, List.setIfInBounds_toArray, List.set_cons_zero, List.set_cons_succ]
              clear hSw
              obtain ⟨z0, _, _, y0, _, _⟩ := box3_all hn9
              refine wpAnyH_ready (rs := [11]) (by kernel_rfl) (by simp) ?_
              refine AllReadyH.cons rfl (fun K hK => ?_) AllReadyH.nil
              go_simp
              have hnbw : nb ≠ wr.heap.size := by omega
              have hw5n : w5.heap.size ≤ nb := by rw [HNB.out]; exact Nat.le_refl _
              have hb510 := hb59.setCell (p := ⟨nb, 0, none⟩) hw5n (.slice a9 t2.length c9)
              have hbb10 : (w9.setCell ⟨nb, 0, none⟩ (.slice a9 t2.length c9)).heap[wr.heap.size]? = some (.cells #[.bool ex, .slice ua l.length uc] 118 (0, 0)) := (heap_set_other 0 _ (fun e => hnbw e.symm)).trans hbb9
              have HB510 := Lib.hid hb510
              have HN10 := Lib.hid (box3_set0 hn9 (.slice a9 t2.length c9))
              have HR10 := Lib.hid (HRN.out.keptS (Kept.setCell w9 ⟨nb, 0, none⟩ (.slice a9 t2.length c9)) (fun g hg e => by have h1 := HNS.out; simp only at e; omega) (fun g hg e => by have h1 := HWS.out; simp only at e; omega))
              have HS10 : Hid (N0.heap.size ≤ (w9.setCell ⟨nb, 0, none⟩ (.slice a9 t2.length c9)).heap.size) := Nat.le_trans HSZ9.out (Kept.setCell w9 ⟨nb, 0, none⟩ (.slice a9 t2.length c9)).size
              refine hK.out _ _ ⟨hbb10, hb510⟩ (fun hHn => ?_)
              clear hK K hHn hb510 hbb10 hn9 hbb9 hb59 z0 y0 hg9
              try simp only [Act.put, List.setIfInBounds_toArray, List.set_cons_zero, List.set_cons_succ]
              refine wpAnyH_done (by kernel_rfl) ?_ _
              generalize w9.setCell ⟨nb, 0, none⟩ (.slice a9 t2.length c9) = wy at *
              go_wp2
              go_roundw
              case rel => exact ⟨k + 1, _, t2, HKL.out, by go_num, HR10.out, HSH2.out, HTL2.out, HTB2.out, HN10.out, HB510.out, HS10.out⟩
              case measure => have := HKL.out; simp [intOf]; omega
            · go_simp
              have HBn := Lib.hid (below_alloc1 wk (.cells #[.bool ex, .slice oa2 l.length oc2] 118))
              have HEX : Hid ((wk.alloc (.cells #[.bool ex, .slice oa2 l.length oc2] 118)).heap[wk.heap.size]? = some (.cells #[.bool ex, .slice oa2 l.length oc2] 118 (0, 0))) := World.alloc_heap_new _ _
              have HNC := Lib.hid ((HBn.out.block _ (Array.getElem?_eq_some_iff.1 HNC.out).1).trans HNC.out)
              have HBB := Lib.hid ((HBn.out.block _ (Array.getElem?_eq_some_iff.1 HBB.out).1).trans HBB.out)
              have HBw := Lib.hid (HBw.out.trans (HBn.out.mono HBw.out.size))
              have HB5x := Lib.hid (HB5x.out.trans (HBn.out.mono HB5x.out.size))
              have HON := Lib.hid (HON.out.below HBn.out (Nat.le_refl _))
              refine hK.out _ _ ⟨HBB.out, HB5x.out⟩ (fun hHn => ?_)
              clear hK K hHn
              try simp only [Act.put, List.setIfInBounds_toArray, List.set_cons_zero, List.set_cons_succ]
              generalize wk.alloc (.cells #[.bool ex, .slice oa2 l.length oc2] 118) = wx at *
              generalize wk.heap.size = eb at *
              refine wpAnyH_ready (rs := [1]) (by kernel_rfl) (by simp) ?_
              refine (AllReadyH.cons rfl (fun K hK => ?_) AllReadyH.nil)
              obtain ⟨z0, _, _, _, _, _⟩ := box3_all HNC.out
              go_simp
              refine hK.out _ _ ⟨HBB.out, HB5x.out⟩ (fun hHn => ?_)
              clear hK K hHn
              try simp only [Act.put, List.setIfInBounds_toArray, List.set_cons_zero, List.set_cons_succ]
              clear z0
              have HBWx := Lib.hid (HBW2.out.trans (HBw.out.mono HBW2.out.size))
              obtain ⟨e0, e1, _, _⟩ := box2_cells HEX.out
              refine wpAnyH_ready (rs := [9]) (by kernel_rfl) (by simp) ?_
              refine AllReadyH.cons rfl (fun K hK => ?_) AllReadyH.nil
              refine step_appBlkT rfl (.tmp 50) (.tmp 57) rfl N0.heap.size (.slice ra t.length rc) (.slice oa2 l.length oc2) t ex l eb rfl rfl (row2_below HROW.out.row HBWx.out (Nat.le_refl _)) e0 e1 rfl (by have := HTL.out; omega) (Nat.le_trans HS0.out HBWx.out.size) ?_
              intro v9 w9 hrow9 hg9
              obtain ⟨a9, c9, rfl⟩ := row2_shapeT hrow9
              have hn9 : w9.heap[nb]? = some (.cells #[.slice ra t.length rc, .slice none 0 0, .int .i64 0] 98 (0, 0)) := (hg9.block nb (Array.getElem?_eq_some_iff.1 HNC.out).1 (fun e => by have h1 := (rowB_lt HROW.out.row nb e.symm).1; have h2 := HNS.out; omega)).trans HNC.out
              have hbb9 : w9.heap[wr.heap.size]? = some (.cells #[.bool ex, .slice ua l.length uc] 118 (0, 0)) := (hg9.block _ (Array.getElem?_eq_some_iff.1 HBB.out).1 (fun e => by have h1 := (rowB_lt HROW.out.row _ e.symm).2; omega)).trans HBB.out
              have hb59 := HB5x.out.grown hg9 HB5x.out.size (fun g e => Nat.le_trans HB05.out.size (rowB_lt HROW.out.row g e).1)
              have hrn := RowB.more HROW.out HS0.out HBWx.out (s := [(ex, .slice oa2 l.length oc2, l)]) (fun z hz => by rw [List.mem_singleton] at hz; subst hz; exact .inl (HON.out.mono (Nat.le_trans HS0.out HBW2.out.size))) hrow9 hg9
              have HSZ9 : Hid (N0.heap.size ≤ w9.heap.size) := Nat.le_trans (Nat.le_trans HS0.out HBWx.out.size) hg9.size
              have HTL2 : Hid ((t ++ [(ex, Value.slice oa2 l.length oc2, l)]).length = k + 1) := by show _ = _; rw [List.length_append, HTL.out]; rfl
              have HSH2 : Hid (shapeT (t ++ [(ex, Value.slice oa2 l.length oc2, l)]) = P.take (k + 1)) := by show _ = _; rw [HTK.out, ← HSH.out]; unfold shapeT; rw [List.map_append]; rfl
              have HTB2 : Hid (∀ z ∈ t ++ [(ex, Value.slice oa2 l.length oc2, l)], z.2.2.length ≤ 17592186044416 ∧ In64 z.2.2) := fun z hz => by
                rcases List.mem_append.1 hz with hz | hz
                · exact HTB.out z hz
                · rw [List.mem_singleton] at hz; subst hz; exact HLL.out
              have HRN := Lib.hid hrn
              clear hrow9 hrn e0 e1
              generalize t ++ [(ex, Value.slice oa2 l.length oc2, l)] = t2 at *
              refine hK.out _ _ ⟨hbb9, hb59⟩ (fun hHn => ?_)
              clear hK K hHn
              try simp only [Act.put, List.setIfInBounds_toArray, List.set_cons_zero, List.set_cons_succ]
              have hSw := (show _ ∧ _ from And.intro hbb9 hb59)
              refine takeC (i := 10) (v := .pointer (some ⟨nb, 0, none⟩)) (some 59) rfl rfl (by kernel_rfl) (by kernel_rfl) (by kernel_rfl) (fun _ _ _ h => h) (Or.inl ⟨by rfl, ?_⟩) (by assumption) ?_
              · intro wz hSw; go_simp
              try simp only [Act.put, List.setIfInBounds_toArray, List.set_cons_zero, List.set_cons_succ]
              clear hSw
              obtain ⟨z0, _, _, y0, _, _⟩ := box3_all hn9
              refine wpAnyH_ready (rs := [11]) (by kernel_rfl) (by simp) ?_
              refine AllReadyH.cons rfl (fun K hK => ?_) AllReadyH.nil
              go_simp
              have hnbw : nb ≠ wr.heap.size := by omega
              have hw5n : w5.heap.size ≤ nb := by rw [HNB.out]; exact Nat.le_refl _
              have hb510 := hb59.setCell (p := ⟨nb, 0, none⟩) hw5n (.slice a9 t2.length c9)
              have hbb10 : (w9.setCell ⟨nb, 0, none⟩ (.slice a9 t2.length c9)).heap[wr.heap.size]? = some (.cells #[.bool ex, .slice ua l.length uc] 118 (0, 0)) := (heap_set_other 0 _ (fun e => hnbw e.symm)).trans hbb9
              have HB510 := Lib.hid hb510
              have HN10 := Lib.hid (box3_set0 hn9 (.slice a9 t2.length c9))
              have HR10 := Lib.hid (HRN.out.keptS (Kept.setCell w9 ⟨nb, 0, none⟩ (.slice a9 t2.length c9)) (fun g hg e => by have h1 := HNS.out; simp only at e; omega) (fun g hg e => by have h1 := HWS.out; simp only at e; omega))
              have HS10 : Hid (N0.heap.size ≤ (w9.setCell ⟨nb, 0, none⟩ (.slice a9 t2.length c9)).heap.size) := Nat.le_trans HSZ9.out (Kept.setCell w9 ⟨nb, 0, none⟩ (.slice a9 t2.length c9)).size
              refine hK.out _ _ ⟨hbb10, hb510⟩ (fun hHn => ?_)
              clear hK K hHn hb510 hbb10 hn9 hbb9 hb59 z0 y0 hg9
              try simp only [Act.put, List.setIfInBounds_toArray, List.set_cons_zero, List.set_cons_succ]
              refine wpAnyH_done (by kernel_rfl) ?_ _
              generalize w9.setCell ⟨nb, 0, none⟩ (.slice a9 t2.length c9) = wy at *
              go_wp2
              go_roundw
              case rel => exact ⟨k + 1, _, t2, HKL.out, by go_num, HR10.out, HSH2.out, HTL2.out, HTB2.out, HN10.out, HB510.out, HS10.out⟩
              case measure => have := HKL.out; simp [intOf]; omega
        · obtain rfl : k = P.length := by omega
          rw [List.take_length] at HSH
          have hVl : V.length ≤ 1024 := by rw [← HNI.out, netI_len]; exact HNUM.out.2.2
          have HVS : Hid (V.Pairwise (· < ·)) := by show List.Pairwise _ _; rw [← HNI.out]; exact netI_lt HMPP.out
          have HVB : Hid (In64 V) := fun y hy => by rw [← HNI.out] at hy; have := HNUM.out.2.1 y (ascI_mem.1 hy); omega
          have HVI : Hid (∀ X, Below w5.heap.size w5 X → IsInts X (.slice va5 V.length vc5) V) := fun X hX => (HV6.out.below hX (Nat.le_refl _)).ints (by omega) HVB.out
          have hcw := ((HS5.out.trans (HBX.out.mono HS5.out.size)).block cb (Array.getElem?_eq_some_iff.1 HC4.out).1).trans HC4.out
          have HCW := Lib.hid hcw
          have HGW := Lib.hid ((HG4.out.below HS5.out (Nat.le_refl _)).below HBX.out (Nat.le_refl _))
          have HRW := Lib.hid ((HBWr.out.block (w.heap.size + 1) (by have := HSZ.out; omega)).trans HRX.out)
          have HUN : Hid (∀ (X : World) (kk : Int), Below w5.heap.size w5 X → 0 ≤ kk → kk ≤ 9223372036854775807 → Calls Tryz.prog 132 #[.slice va5 V.length vc5, .int .i64 kk] X fun e w' => ∃ v, e = .returned v ∧ Own w' X.heap.size v (unusedL V kk.toNat) ∧ Below X.heap.size X w') := fun X kk hX h1 h2 => aunused_any _ V kk X (HVI.out X hX) HVS.out (by omega) h1 h2
          have HUB : Hid (∀ (n : Nat), (∀ y ∈ unusedL V n, 1 ≤ y ∧ y ≤ 65536) ∧ (unusedL V n).length ≤ n) := fun n => ⟨fun y hy => freeUp_bd (Nat.le_refl _) y (List.mem_of_mem_take hy), by unfold unusedL; rw [List.length_take]; omega⟩
          clear hcw hk hlt
          by_cases hx2 : x < 2
          · have HTV : Hid (toNetR CI A e P = ((P, (constP V x).1, (constP V x).2), 0)) := by show _ = _; rw [HRF.out]; unfold toNetC; rw [if_pos hx2, HNI.out]
            obtain ⟨u, hu⟩ : ∃ u, unusedL V 1 = [u] := by
              have h := freeUp_many V 65536
              have hl : (unusedL V 1).length = 1 := by
                unfold unusedL
                rw [List.length_take]
                omega
              match hq : unusedL V 1, hl with
              | [u], _ => exact ⟨u, rfl⟩
            have hub := (HUB.out 1).1 u (by rw [hu]; exact List.mem_singleton.2 rfl)
            have HU1 : Hid (Calls Tryz.prog 132 #[.slice va5 V.length vc5, .int .i64 1] wr fun e w' => ∃ v, e = .returned v ∧ Own w' wr.heap.size v [u] ∧ Below wr.heap.size wr w') := by
              have h := HUN.out wr 1 HBX.out (by omega) (by omega)
              rw [show (1 : Int).toNat = 1 from rfl, hu] at h
              exact h
            have HCP : Hid ((constP V x).1 = [(u, 1, [])] ∧ (constP V x).2 = if x = 0 then -u else u) := by show _ ∧ _; unfold constP; rw [hu]; exact ⟨rfl, rfl⟩
            have HU0 := Lib.hid hub
            have hub1 := hub.1
            have hub2 := hub.2
            have hnl : nb < wr.heap.size := (Array.getElem?_eq_some_iff.1 HNX.out).1
            clear hu hub
            go_upto_region 13 with (go_at_call 132; go_loud (refine HU1.out.mono ?_; rintro er w6 ⟨v6, rfl, ho, hb⟩; obtain ⟨ug, uc, rfl, ucell⟩ := own_at0 ho; have HB6 := Lib.hid hb; clear ho hb))
            have hn6 := (HB6.out.block nb hnl).trans HNX.out
            have hba := below_alloc1 w6 (.cells #[.int .i64 u, .int .u8 1, .slice none 0 0] 101)
            have hgb := gate_boxT (w0 := w6) (x := u) (kd := 1) (u := .slice none 0 0)
            have hn7 : (w6.alloc (.cells #[.int .i64 u, .int .u8 1, .slice none 0 0] 101)).heap[nb]? = some (.cells #[.slice ra t.length rc, .slice none 0 0, .int .i64 0] 98 (0, 0)) := (hba.block nb (Array.getElem?_eq_some_iff.1 hn6).1).trans hn6
            have HN7 := Lib.hid hn7
            have HB7 := Lib.hid (HB6.out.trans (hba.mono HB6.out.size))
            have HGB := Lib.hid hgb
            have HGS : Hid (wr.heap.size ≤ w6.heap.size ∧ w6.heap.size < (w6.alloc (.cells #[.int .i64 u, .int .u8 1, .slice none 0 0] 101)).heap.size) := ⟨HB6.out.size, by simp⟩
            obtain ⟨_, z1, z2, _, y1, y2⟩ := box3_all hn7
            clear hn6 hba hgb hn7
            go_upto_region 14 with fail
            clear z1 z2 y1 y2
            have hn8 := box3_set2 (box3_set1 HN7.out (.slice (some ⟨w6.heap.size, 0, none⟩) 1 1)) (.int .i64 u)
            have hk8 : Kept (fun i => i = nb) (w6.alloc (.cells #[.int .i64 u, .int .u8 1, .slice none 0 0] 101)) (((w6.alloc (.cells #[.int .i64 u, .int .u8 1, .slice none 0 0] 101)).setCell ⟨nb, 1, none⟩ (.slice (some ⟨w6.heap.size, 0, none⟩) 1 1)).setCell ⟨nb, 2, none⟩ (.int .i64 u)) := (Kept.setCell _ ⟨nb, 1, none⟩ _).trans (Kept.setCell _ ⟨nb, 2, none⟩ _)
            have HN8 := Lib.hid hn8
            have HK8 := Lib.hid hk8
            clear hn8 hk8
            generalize ((w6.alloc (.cells #[.int .i64 u, .int .u8 1, .slice none 0 0] 101)).setCell ⟨nb, 1, none⟩ (.slice (some ⟨w6.heap.size, 0, none⟩) 1 1)).setCell ⟨nb, 2, none⟩ (.int .i64 u) = w8 at *
            generalize w6.alloc (.cells #[.int .i64 u, .int .u8 1, .slice none 0 0] 101) = w7 at *
            generalize w6.heap.size = gb at *
            have hnw : nb < gb := by have := HGS.out.1; omega
            have hwn : w.heap.size + 2 ≤ nb := HWS.out
            have HR8 := Lib.hid ((HROW.out.below' HB7.out (Nat.le_refl _)).keptS HK8.out (fun g hg e => by have := HNS.out; omega) (fun g hg e => by omega))
            have HG8 := Lib.hid ((HK8.out.block gb HGS.out.2 (by omega)).trans HGB.out)
            have HRB8 := Lib.hid ((HK8.out.block (w.heap.size + 1) (by have := HGS.out.2; omega) (by omega)).trans ((HB7.out.block (w.heap.size + 1) (by omega)).trans HRW.out))
            have HNB2 : Hid (w.heap.size + 2 ≤ N0.heap.size ∧ w.heap.size + 2 ≤ gb) := ⟨by have := HNS.out; omega, by omega⟩
            obtain ⟨z0, z1, z2, _, _, y2⟩ := box3_all HN8.out
            by_cases hx0 : x = 0
            · subst hx0
              have HTV2 : Hid (toNetR CI A e P = ((P, [(u, 1, [])], -u), 0)) := by show _ = _; rw [HTV.out, HCP.out.1, HCP.out.2, if_pos rfl]
              have hwu : wrap64 (-u) = -u := by unfold wrap64; omega
              have hn9 := box3_set2 HN8.out (.int .i64 (-u))
              have hk9 := Kept.setCell w8 ⟨nb, 2, none⟩ (.int .i64 (-u))
              have HN9 := Lib.hid hn9
              have hR9 := HR8.out.keptS hk9 (fun g hg e => by have := HNS.out; simp only at e; omega) (fun g hg e => by simp only at e; omega)
              have hG9 : (w8.setCell ⟨nb, 2, none⟩ (.int .i64 (-u))).heap[gb]? = _ := (heap_set_other 2 _ (by omega)).trans HG8.out
              have hB9 : (w8.setCell ⟨nb, 2, none⟩ (.int .i64 (-u))).heap[w.heap.size + 1]? = _ := (heap_set_other 2 _ (by omega)).trans HRB8.out
              have hrg : RowG w (w8.setCell ⟨nb, 2, none⟩ (.int .i64 (-u))) gb (.slice (some ⟨gb, 0, none⟩) 1 1) [(u, 1, .slice none 0 0, [])] := const_rowT hR9.below (by omega) hG9 (Nat.le_refl _) hub1 hub2
              obtain ⟨⟨c0, c1, c2, f0, f1, f2⟩, ⟨g0, g1, g2⟩, hpost⟩ := to_fin hR9 HNB2.out.1 HSH.out (by have := HTL.out; omega) HTB.out hrg HNB2.out.2 rfl (by simp) hB9 HTV2.out
              have HPO := Lib.hid hpost
              obtain ⟨t0, t1, t2, _, _, _⟩ := box3_all HN9.out
              clear hpost hn9 hk9 hR9 hG9 hB9 hrg
              go_wp2
              exact ⟨rfl, .tuple #[.agg #[.slice ra t.length rc, .slice (some ⟨gb, 0, none⟩) 1 1, .int .i64 (-u)], .int .i64 0], by simp [results, Tryz.f55, go_sem, g0, g1, g2], HPO.out⟩
            · have HTV2 : Hid (toNetR CI A e P = ((P, [(u, 1, [])], u), 0)) := by show _ = _; rw [HTV.out, HCP.out.1, HCP.out.2, if_neg hx0]
              have hx0b : (x == 0) = false := by simpa using hx0
              have hrg : RowG w w8 gb (.slice (some ⟨gb, 0, none⟩) 1 1) [(u, 1, .slice none 0 0, [])] := const_rowT HR8.out.below (by omega) HG8.out (Nat.le_refl _) hub1 hub2
              obtain ⟨⟨c0, c1, c2, f0, f1, f2⟩, ⟨g0, g1, g2⟩, hpost⟩ := to_fin HR8.out HNB2.out.1 HSH.out (by have := HTL.out; omega) HTB.out hrg HNB2.out.2 rfl (by simp) HRB8.out HTV2.out
              have HPO := Lib.hid hpost
              clear hpost hrg y2
              go_wp2
              exact ⟨rfl, .tuple #[.agg #[.slice ra t.length rc, .slice (some ⟨gb, 0, none⟩) 1 1, .int .i64 u], .int .i64 0], by simp [results, Tryz.f55, go_sem, g0, g1, g2], HPO.out⟩
          · have hxd : decide (x < 2) = false := decide_eq_false hx2
            have HLK := Lib.hid (lacks_any _ _ _ V CI CA x wr (HVI.out wr HBX.out) HGW.out.ints.1 HGW.out.ints.2 HVS.out (by omega) hCA (mayA_parts HMA.out).2.2 (isE_true.2 HXE.out))
            have HTV : Hid (toNetR CI A e P = if lacksA V CI CA x = true then (([], [], 0), 6) else if (unusedL V CA.length).length < CA.length then (([], [], 0), 3) else ((P, gatesA ([0] ++ CI ++ unusedL V CA.length) (unusedL V CA.length) CA CA.length, litE ([0] ++ CI ++ unusedL V CA.length) x), 0)) := by show _ = _; rw [HRF.out]; unfold toNetC; rw [if_neg hx2, HNI.out]
            obtain ⟨k0, k1, _, _⟩ := box2_cells HCW.out
            have HCL : Hid (cb < wr.heap.size) := (Array.getElem?_eq_some_iff.1 HCW.out).1
            have hnl : nb < wr.heap.size := (Array.getElem?_eq_some_iff.1 HNX.out).1
            cases hlk : lacksA V CI CA x with
            | true =>
              rw [hlk] at HLK HTV
              have HTV2 : Hid (toNetR CI A e P = (([], [], 0), 6)) := by show _ = _; rw [HTV.out, if_pos rfl]
              clear hlk HTV
              go_wp2_with (go_at_call 133; go_loud (refine HLK.out.mono ?_; rintro er w6 ⟨rfl, hb6⟩; obtain ⟨⟨c0, c1, c2, f0, f1, f2⟩, ⟨g0, g1, g2⟩, hpost⟩ := ToPost.err HB0.out HSZ.out HRX.out (HBWr.out.trans (hb6.mono HBWr.out.size)) HTV2.out (P := P); have HPO := Lib.hid hpost; clear hpost hb6))
              exact ⟨rfl, .tuple #[.agg #[.slice none 0 0, .slice none 0 0, .int .i64 0], .int .i64 6], by simp [results, Tryz.f55, go_sem, g0, g1, g2], HPO.out⟩
            | false =>
              rw [hlk] at HLK HTV
              rw [if_neg (by simp)] at HTV
              have HHL : Hid (unusedL V ((CA.length : Int)).toNat = unusedL V CA.length) := by show _ = _; rw [show ((CA.length : Int)).toNat = CA.length from by omega]
              have HU2 : Hid (∀ X, Below w5.heap.size w5 X → Calls Tryz.prog 132 #[.slice va5 V.length vc5, .int .i64 (CA.length : Int)] X fun e w' => ∃ v, e = .returned v ∧ Own w' X.heap.size v (unusedL V CA.length) ∧ Below X.heap.size X w') := fun X hX => by
                have h := HUN.out X CA.length hX (by omega) (by omega)
                rw [HHL.out] at h
                exact h
              have HUL := Lib.hid (HUB.out CA.length)
              clear hlk
              obtain ⟨vs, hvs⟩ : ∃ vs, unusedL V CA.length = vs := ⟨_, rfl⟩
              rw [hvs] at HTV HU2 HUL
              clear hvs HHL
              have hvl := HUL.out.2
              go_upto_region 20 with (first
                | (go_at_call 132; go_loud (refine (HU2.out w6 HB56.out).mono ?_; rintro er w7 ⟨v7, rfl, ho, hb⟩; obtain ⟨na, nc, rfl⟩ := own_shC ho; have HO7 := Lib.hid ho; have HB7 := Lib.hid (HB66.out.trans (hb.mono HB66.out.size)); clear ho hb))
                | (go_at_call 133; go_loud (refine HLK.out.mono ?_; rintro er w6 ⟨rfl, hb6⟩; have HB66 := Lib.hid hb6; have HB56 := Lib.hid (HBX.out.trans (hb6.mono HBX.out.size)); obtain ⟨k0', k1', _, _⟩ := box2_cells ((hb6.block cb HCL.out).trans HCW.out); clear hb6)))
              have hcw7 := (HB7.out.block cb HCL.out).trans HCW.out
              obtain ⟨m0, m1, _, _⟩ := box2_cells hcw7
              clear k0 k1
              by_cases hlv : vs.length < CA.length
              · have HTV2 : Hid (toNetR CI A e P = (([], [], 0), 3)) := by show _ = _; rw [HTV.out, if_pos hlv]
                obtain ⟨⟨c0, c1, c2, f0, f1, f2⟩, ⟨g0, g1, g2⟩, hpost⟩ := ToPost.err HB0.out HSZ.out HRX.out (HBWr.out.trans (HB7.out.mono HBWr.out.size)) HTV2.out (P := P)
                have HPO := Lib.hid hpost
                clear hpost HTV hcw7
                go_wp2
                exact ⟨rfl, .tuple #[.agg #[.slice none 0 0, .slice none 0 0, .int .i64 0], .int .i64 3], by simp [results, Tryz.f55, go_sem, g0, g1, g2], HPO.out⟩
              · rw [if_neg hlv] at HTV
                have hle : vs.length = CA.length := by omega
                have hG7 := HGW.out.below HB7.out (Nat.le_refl _)
                have HGO := Lib.hid (gatesOf_any _ _ _ CI CA vs x w7 hG7.ints.1 hG7.ints.2 (HO7.out.ints (by omega) (fun y hy => by have := HUL.out.1 y hy; omega)) hle hCA (mayA_parts HMA.out).2.2 (isE_true.2 HXE.out) (fun y hy => by have := HIB.out.1 y hy; omega) (fun y hy => by have := HUL.out.1 y hy; omega))
                have hnn := (HB7.out.block nb hnl).trans HNX.out
                have HNN := Lib.hid hnn
                have HLE := Lib.hid hle
                clear hle hG7 hcw7 hnn hvl
                unfold GatesPost at HGO
                have HGL : Hid ((gatesA ([0] ++ CI ++ vs) vs CA CA.length).length ≤ 200000) := by show _ ≤ _; unfold gatesA; rw [List.length_map, List.length_range]; omega
                generalize gatesA ([0] ++ CI ++ vs) vs CA CA.length = GG at *
                generalize litE ([0] ++ CI ++ vs) x = lo at *
                go_upto_region 23 with (go_at_call 134; go_loud (refine HGO.out.mono ?_; rintro er w8 ⟨v8, tg, rfl, hrg, hog, hsg, hb8⟩; obtain ⟨ga, gc, rfl⟩ := hrg.shape; have HRG := Lib.hid hrg; have HOG := Lib.hid hog; have HSG := Lib.hid hsg; have HB8 := Lib.hid hb8; obtain ⟨z0, z1, z2, _, y1, y2⟩ := box3_all ((hb8.block nb (Nat.lt_of_lt_of_le hnl HB7.out.size)).trans HNN.out); clear hrg hog hsg hb8))
                have hn8 : w8.heap[nb]? = some (.cells #[.slice ra t.length rc, .slice none 0 0, .int .i64 0] 98 (0, 0)) := (HB8.out.block nb (Nat.lt_of_lt_of_le hnl HB7.out.size)).trans HNN.out
                have hn9 := box3_set2 (box3_set1 hn8 (.slice ga tg.length gc)) (.int .i64 lo)
                have hk9 : Kept (fun i => i = nb) w8 ((w8.setCell ⟨nb, 1, none⟩ (.slice ga tg.length gc)).setCell ⟨nb, 2, none⟩ (.int .i64 lo)) := (Kept.setCell _ ⟨nb, 1, none⟩ _).trans (Kept.setCell _ ⟨nb, 2, none⟩ _)
                have hB78 := HB7.out.trans (HB8.out.mono HB7.out.size)
                have hR8 := HROW.out.below' hB78 (Nat.le_refl _)
                have hRB8 := (hB78.block (w.heap.size + 1) (by have := HWS.out; omega)).trans HRW.out
                have hs7 := HB7.out.size
                have hwn : w.heap.size + 2 ≤ nb := HWS.out
                have hG8 : RowG w w8 w7.heap.size (.slice ga tg.length gc) tg := ⟨hR8.below, by omega, HRG.out.row, fun y hy => .inl (HOG.out y hy), HRG.out.bd⟩
                have HN9 := Lib.hid hn9
                have HK9 := Lib.hid hk9
                have HR8 := Lib.hid hR8
                have HG8 := Lib.hid hG8
                have HRB8 := Lib.hid hRB8
                have hw8n : w.heap.size + 1 < w8.heap.size := (Array.getElem?_eq_some_iff.1 hRB8).1
                clear hn8 hn9 hk9 hB78 hR8 hG8 hRB8 z0 z1 z2 y1 y2 m0 m1
                generalize (w8.setCell ⟨nb, 1, none⟩ (.slice ga tg.length gc)).setCell ⟨nb, 2, none⟩ (.int .i64 lo) = w9 at *
                have hR9 := HR8.out.keptS HK9.out (fun g hg e => by have := HNS.out; omega) (fun g hg e => by omega)
                have hG9 := HG8.out.keptS HK9.out (fun g hg e => by omega) (fun g hg e => by omega)
                have hB9 := (HK9.out.block (w.heap.size + 1) hw8n (by omega)).trans HRB8.out
                have hgl : tg.length ≤ 4000000 := by
                  have h := congrArg List.length HSG.out
                  rw [shapeG_len] at h
                  have h2 := HGL.out
                  omega
                obtain ⟨⟨c0, c1, c2, f0, f1, f2⟩, ⟨g0, g1, g2⟩, hpost⟩ := to_fin hR9 (by have := HNS.out; omega) HSH.out (by have := HTL.out; omega) HTB.out hG9 (by omega) HSG.out hgl hB9 HTV.out
                have HPO := Lib.hid hpost
                obtain ⟨t0, t1, t2, _, _, _⟩ := box3_all HN9.out
                clear hpost hR9 hG9 hB9 hgl
                go_wp2
                exact ⟨rfl, .tuple #[.agg #[.slice ra t.length rc, .slice ga tg.length gc, .int .i64 lo], .int .i64 0], by simp [results, Tryz.f55, go_sem, g0, g1, g2], HPO.out⟩
    · have hm : mayPre P = false := by simpa using hm
      have HE : Hid (toNetR I A e P = (([], [], 0), 2)) := by show _ = _; unfold toNetR; rw [hm]; simp
      rw [hh] at HHS
      rw [hm] at HMP
      clear hh hm
      go_wp2_with (first
        | (go_at_call 131; go_loud (refine (HMP.out w1 HB1.out).mono ?_; rintro er w2 ⟨rfl, hb2⟩; obtain ⟨⟨c0, c1, c2, f0, f1, f2⟩, ⟨g0, g1, g2⟩, hpost⟩ := ToPost.err HB0.out HSZ.out HRX.out (HB1.out.trans (hb2.mono HB1.out.size)) HE.out (P := P); have HPO := Lib.hid hpost; clear hpost hb2))
        | (go_at_call 62; go_loud (refine HHS.out.mono ?_; rintro er w1 ⟨rfl, hb1⟩; have HB1 := Lib.hid (HBA.out.trans (hb1.mono HBA.out.size)); clear hb1)))
      exact ⟨rfl, .tuple #[.agg #[.slice none 0 0, .slice none 0 0, .int .i64 0], .int .i64 2], by simp [results, Tryz.f55, go_sem, g0, g1, g2], HPO.out⟩
  · have hh : hasA I A [e] = false := by simpa using hh
    have HE : Hid (toNetR I A e P = (([], [], 0), 2)) := by show _ = _; unfold toNetR; rw [hh]; simp
    rw [hh] at HHS
    clear hh
    go_wp2_with (go_at_call 62; go_loud (refine HHS.out.mono ?_; rintro er w1 ⟨rfl, hb1⟩; obtain ⟨⟨c0, c1, c2, f0, f1, f2⟩, ⟨g0, g1, g2⟩, hpost⟩ := ToPost.err HB0.out HSZ.out HRX.out (HBA.out.trans (hb1.mono HBA.out.size)) HE.out (P := P); have HPO := Lib.hid hpost; clear hpost hb1))
    exact ⟨rfl, .tuple #[.agg #[.slice none 0 0, .slice none 0 0, .int .i64 0], .int .i64 2], by simp [results, Tryz.f55, go_sem, g0, g1, g2], HPO.out⟩
end Go.Proofs.YtppglbffmgnooaaGreat
