/- Joined texts: CxRAll, CxREval. -/
import Derived.Test.YticcikelapifaaaK19
/- The reference's all (layer 5). -/
namespace Go.Proofs.Yticcikelapifaaa
open Go.RowKit Go.Maps Go.Shelf
set_option linter.unusedVariables false
set_option linter.unusedSimpArgs false

theorem Mk.kept {w w' : World} {B b : Nat} {f : Int → Bool} {S : Nat → Prop} (h : Mk w B b f) (k : Kept S w w') (hb : ¬ S b) : Mk w' B b f := by
  obtain ⟨bs, h1, h2⟩ := h
  exact ⟨bs, k.row h1 (fun g hg => by have e : b = g := by simpa [Value.ownBlock] using hg
                                      subst e; exact hb), h2⟩
theorem Mk.set_other {w : World} {B b c i : Nat} {f : Int → Bool} {v : Value} (h : Mk w B b f) (hc : b ≠ c) : Mk (w.setCell ⟨c, i, none⟩ v) B b f := h.kept (Kept.setCell w ⟨c, i, none⟩ v) hc
set_option maxHeartbeats 6400000 in
set_option maxRecDepth 100000 in
theorem all5_any (vp vg va : Value) (o : Int) (P : List Blk) (gs : List Gt) (a : List Int) (w : World) (HP : IsBlocks w vp P) (HG : IsGates w vg gs) (HA : IsInts w va a) (hm : mayP P = true) (hg : gs.length < 1000000) (ha : ∀ x ∈ a, 0 ≤ varC x ∧ varC x ≤ 65536) (hgs : ∀ g ∈ gs, (0 ≤ g.1 ∧ g.1 ≤ 65536) ∧ fitsB g.2.1 g.2.2.length = true ∧ ∀ y ∈ g.2.2, 0 ≤ varC y ∧ varC y ≤ 65536) :
    Calls Try.prog 61 #[.agg #[vp, vg, .int .i64 o], va] w fun e w' => ∃ b, e = .returned (.slice (some ⟨b, 0, none⟩) nM nM) ∧ Mk w' w.heap.size b (gs.foldl gStep (setR (fun i => decide (i ∈ flatB P)) (fun _ => false) a, [])).1 ∧ Below w.heap.size w w' := by
  have hnm := nM_eq
  have HNM := Lib.hid hnm
  have HAB := Lib.hid ha
  have HGS := Lib.hid hgs
  obtain ⟨pa, pc, rfl, _⟩ := HP.shape
  obtain ⟨ga, gc, rfl, _⟩ := HG.shape
  have hal := HA.len
  have h64 : Hid (In64 a) := by obtain ⟨_, _, _, _, _, _, g, _⟩ := HA; exact g
  obtain ⟨aa, ac, rfl⟩ := HA.shape
  obtain ⟨W0, hW0⟩ : ∃ W0, w.alloc (.cells #[.slice pa P.length pc, .slice ga gs.length gc, .int .i64 o] 25) = W0 := ⟨_, rfl⟩
  have hb0 : Below w.heap.size w W0 := by rw [← hW0]; exact below_new _ _
  have hbx := box_new w (.slice pa P.length pc) (.slice ga gs.length gc) o
  rw [hW0] at hbx
  have hs1 : W0.heap.size = w.heap.size + 1 := by rw [← hW0]; simp
  have HS1 := Lib.hid hs1
  have HXC : Hid (∀ X, Below W0.heap.size W0 X → BoxN X w.heap.size (.slice pa P.length pc) (.slice ga gs.length gc) o) := fun X hX => hbx X (hX.mono (by omega))
  have HW0 := Lib.hid hW0
  have HB0 := Lib.hid hb0
  have HPW := Lib.hid (HP.below hb0 (Nat.le_refl _))
  have HGW := Lib.hid (HG.below hb0 (Nat.le_refl _))
  have HAW := Lib.hid (HA.below hb0 (Nat.le_refl _))
  have hfl := (mayP_short hm).1
  have HFB : Hid (∀ y ∈ flatB P, 1 ≤ y ∧ y ≤ 65536) := (mayP_parts hm).2.2.1
  have HVA : Hid (∀ X, Below W0.heap.size W0 X → Calls Try.prog 33 #[.slice pa P.length pc] X fun e w' => ∃ u, e = .returned u ∧ Own w' X.heap.size u (flatB P) ∧ Below X.heap.size X w') := fun X hX => vars5_any _ P X (HPW.out.below hX (Nat.le_refl _)) (by omega)
  have HMK : Hid (∀ X u B, B ≤ X.heap.size → Own X B u (flatB P) → Calls Try.prog 45 #[u] X fun e w' => ∃ b, e = .returned (.slice (some ⟨b, 0, none⟩) nM nM) ∧ Mk w' X.heap.size b (fun x => decide (x ∈ flatB P)) ∧ Below X.heap.size X w') := fun X u B hB h => marks5_any u (flatB P) X (h.ints (by omega) (fun y hy => by have := HFB.out y hy; omega)) (fun y hy => by have := HFB.out y hy; omega)
  clear HP HG HA hW0 hb0 hbx hs1 hfl hnm ha hgs
  go_enter Try.func61, Try.ntmps61
  go_upto_region 1 with fail
  rw [HW0.out]
  go_wp2_with (first
    | (refine wpList_mkBools2 rfl _ _ rfl nM 65537 65537 rfl rfl (by rw [HNM.out]; rfl) (by rw [HNM.out]; rfl) (by rw [HNM.out]; decide) ?_; intro w1 hown hgw; have HO := Lib.hid hown; have HB1 := Lib.hid ((Below.refl W0.heap.size W0).grown hgw (Nat.le_refl _) (fun k hk => by cases hk)); clear hown hgw; obtain ⟨p0, p1, p2⟩ := HXC.out w1 HB1.out)
    | (go_at_call 33; refine (HVA.out w1 HB1.out).mono ?_; rintro e w2 ⟨u, rfl, ho2x, hb2⟩; have HO2 := Lib.hid ho2x; have HB2 := Lib.hid (HB1.out.trans (hb2.mono HB1.out.size)); have HS2 := Lib.hid hb2; clear ho2x hb2)
    | (go_at_call 45; refine (HMK.out w2 u _ HS2.out.size HO2.out).mono ?_; rintro e w3 ⟨bm, rfl, hmk, hb3⟩; have HB3 := Lib.hid (HB2.out.trans (hb3.mono HB2.out.size)); have HS3 := Lib.hid (HS2.out.trans (hb3.mono HS2.out.size)); have HM3 := Lib.hid (hmk.mono HS2.out.size); clear hmk hb3))
  have HMV : Hid (Mk w3 W0.heap.size W0.heap.size (setR (fun i => decide (i ∈ flatB P)) (fun _ => false) (a.take 0))) := by
    have h1 : Mk w1 W0.heap.size W0.heap.size (fun _ => false) := ⟨_, HO.out, by rw [List.length_replicate], fun i hi => by simp [List.getD, List.getElem?_replicate, hi]⟩
    exact h1.below HS3.out (Nat.le_refl _)
  have HLT : Hid (W0.heap.size < w1.heap.size) := (World.ownsRow.lt HO.out _ rfl).2
  have HNE : Hid (bm ≠ W0.heap.size) := fun e => by have h1 := HM3.out.lt.1; have h2 := HLT.out; omega
  clear p0 p1 p2 HO
  go_loopw [7] (fun i wr => ∃ k : Nat, k ≤ a.length ∧ i = .int .i64 k ∧ Below W0.heap.size W0 wr ∧ Mk wr W0.heap.size W0.heap.size (setR (fun i => decide (i ∈ flatB P)) (fun _ => false) (a.take k)) ∧ Mk wr w1.heap.size bm (fun x => decide (x ∈ flatB P))) (fun i _ => a.length - (intOf i).toNat)
  case atStart => exact ⟨0, Nat.zero_le _, rfl, HB3.out, HMV.out, HM3.out⟩
  case round =>
    obtain ⟨k, hk, rfl, hbel, hmv, hmm⟩ := hrel
    have HB := Lib.hid hbel
    have HM := Lib.hid hmv
    have HMM := Lib.hid hmm
    clear hbel hmv hmm
    by_cases hlt : k < a.length
    · obtain ⟨b2, off2, rfl, hb2, hc0⟩ := HAW.out.cellY hlt
      have HXA : Hid (∀ X, Below W0.heap.size W0 X → X.cell? ⟨b2, off2 + k, none⟩ = some (.int .i64 (a.getD k 0))) := fun X hX => (hX.cell (p := ⟨b2, off2 + k, none⟩) hb2).trans hc0
      have hxm : a.getD k 0 ∈ a := by simp [List.getD, hlt]
      have HTK : Hid (a.take (k + 1) = a.take k ++ [a.getD k 0]) := by show _ = _; rw [List.take_succ_eq_append_getElem hlt]; simp [List.getD, hlt]
      have hxr := HAB.out _ hxm
      have hx64 := h64.out _ hxm
      have HAX := Lib.hid (fun X => abs5_any (a.getD k 0) X hx64.1 hx64.2)
      rw [abs5_var hxr.1] at HAX
      have HKL := Lib.hid hlt
      have hne : ¬ a = [] := by intro e; rw [e] at hlt; simp at hlt
      have hk0 : (0 : Int) ≤ (k : Int) := by omega
      have hk1 : (k : Int) < (a.length : Int) := by omega
      clear hc0 hxm hx64 hlt hk
      generalize a.getD k 0 = x at *
      obtain ⟨n, hvn⟩ := Int.eq_ofNat_of_zero_le hxr.1
      rw [hvn] at HAX
      have hn : n < nM := by rw [nM_eq]; omega
      have hn0 : (0 : Int) ≤ (n : Int) := by omega
      have hn1 : (n : Int) < (nM : Int) := by omega
      have HVN := Lib.hid hvn
      clear hvn hxr
      go_upto_region 6 with fail
      have hWd : Below wr.heap.size wr wr.drew := (Below.refl _ _).drew
      have HBD := Lib.hid (HB.out.trans (hWd.mono HB.out.size))
      have HMD := Lib.hid (HM.out.below hWd (Nat.le_refl _))
      have HSD : Hid (Below W0.heap.size W0 wr.drew ∧ Mk wr.drew w1.heap.size bm (fun x => decide (x ∈ flatB P))) := ⟨HBD.out, HMM.out.below hWd (Nat.le_refl _)⟩
      clear hWd
      cases hd : decide (0 < x) with
      | true =>
        have hd0 := Lib.hid hd
        go_wp2_with fail
        refine wp_region_held_drew (S := fun X => Below W0.heap.size W0 X ∧ Mk X w1.heap.size bm (fun x => decide (x ∈ flatB P))) (by kernel_rfl) HSD.out (fun hSd => ?_)
        generalize wr.drew = wd at *
        have m0 := HMD.out.cell hn
        have m1 := HMD.out.frozen n
        refine takeC (i := 0) (v := .slice (some ⟨W0.heap.size, 0, none⟩) nM nM) (some 20) rfl rfl (by kernel_rfl) (by kernel_rfl) (by kernel_rfl) (fun _ _ _ h => h) (Or.inl ⟨by rfl, ?_⟩) (by assumption) ?_
        · intro wz hSw; go_simp
        try simp only [Act.put, List.setIfInBounds_toArray, List.set_cons_zero, List.set_cons_succ]
        refine takeC (i := 1) (v := .slice (some ⟨b2, off2, none⟩) a.length ac) (some 21) rfl rfl (by kernel_rfl) (by kernel_rfl) (by kernel_rfl) (fun _ _ _ h => h) (Or.inl ⟨by rfl, ?_⟩) (by assumption) ?_
        · intro wz hSw; go_simp
        try simp only [Act.put, List.setIfInBounds_toArray, List.set_cons_zero, List.set_cons_succ]
        refine takeC (i := 2) (v := .int .i64 (k : Int)) (some 22) rfl rfl (by kernel_rfl) (by kernel_rfl) (by kernel_rfl) (fun _ _ _ h => h) (Or.inl ⟨by rfl, ?_⟩) (by assumption) ?_
        · intro wz hSw; go_simp
        try simp only [Act.put, List.setIfInBounds_toArray, List.set_cons_zero, List.set_cons_succ]
        refine takeC (i := 3) (v := .pointer (some ⟨b2, off2 + k, none⟩)) (some 23) rfl rfl (by kernel_rfl) (by kernel_rfl) (by kernel_rfl) (fun _ _ _ h => h) (Or.inl ⟨by rfl, ?_⟩) (by assumption) ?_
        · intro wz hSw; go_simp
        try simp only [Act.put, List.setIfInBounds_toArray, List.set_cons_zero, List.set_cons_succ]
        refine takeC (i := 4) (v := .int .i64 x) (some 24) rfl rfl (by kernel_rfl) (by kernel_rfl) (by kernel_rfl) (fun _ _ _ h => h) (Or.inl ⟨by rfl, ?_⟩) (by assumption) ?_
        · intro wz hSw; have t0z := HXA.out wz hSw.1; go_simp
        try simp only [Act.put, List.setIfInBounds_toArray, List.set_cons_zero, List.set_cons_succ]
        refine takeC (i := 6) (v := .slice (some ⟨b2, off2, none⟩) a.length ac) (some 26) rfl rfl (by kernel_rfl) (by kernel_rfl) (by kernel_rfl) (fun _ _ _ h => h) (Or.inl ⟨by rfl, ?_⟩) (by assumption) ?_
        · intro wz hSw; go_simp
        try simp only [Act.put, List.setIfInBounds_toArray, List.set_cons_zero, List.set_cons_succ]
        refine takeC (i := 7) (v := .int .i64 (k : Int)) (some 27) rfl rfl (by kernel_rfl) (by kernel_rfl) (by kernel_rfl) (fun _ _ _ h => h) (Or.inl ⟨by rfl, ?_⟩) (by assumption) ?_
        · intro wz hSw; go_simp
        try simp only [Act.put, List.setIfInBounds_toArray, List.set_cons_zero, List.set_cons_succ]
        refine takeC (i := 8) (v := .pointer (some ⟨b2, off2 + k, none⟩)) (some 28) rfl rfl (by kernel_rfl) (by kernel_rfl) (by kernel_rfl) (fun _ _ _ h => h) (Or.inl ⟨by rfl, ?_⟩) (by assumption) ?_
        · intro wz hSw; go_simp
        try simp only [Act.put, List.setIfInBounds_toArray, List.set_cons_zero, List.set_cons_succ]
        refine takeC (i := 9) (v := .int .i64 x) (some 29) rfl rfl (by kernel_rfl) (by kernel_rfl) (by kernel_rfl) (fun _ _ _ h => h) (Or.inl ⟨by rfl, ?_⟩) (by assumption) ?_
        · intro wz hSw; have t0z := HXA.out wz hSw.1; go_simp
        try simp only [Act.put, List.setIfInBounds_toArray, List.set_cons_zero, List.set_cons_succ]
        refine takeC (i := 10) (v := .bool true) (some 30) rfl rfl (by kernel_rfl) (by kernel_rfl) (by kernel_rfl) (fun _ _ _ h => h) (Or.inl ⟨by rfl, ?_⟩) (by assumption) ?_
        · intro wz hSw; go_simp
        try simp only [Act.put, List.setIfInBounds_toArray, List.set_cons_zero, List.set_cons_succ]
        refine wpAnyH_ready (rs := [5]) (by kernel_rfl) (by simp) ?_
        refine AllReadyH.cons rfl (fun K hK => ?_) AllReadyH.nil
        go_simp
        go_wp2_with (go_at_call 38; refine (HAX.out wd).mono ?_; rintro e w7 ⟨rfl, rfl⟩)
        refine hK.out _ _ HSD.out (fun hH7 => ?_)
        clear hK K
        try simp only [Act.put, List.setIfInBounds_toArray, List.set_cons_zero, List.set_cons_succ]
        refine takeC (i := 11) (v := .bool true) (some 31) rfl rfl (by kernel_rfl) (by kernel_rfl) (by kernel_rfl) (fun _ _ _ h => h) (Or.inl ⟨by rfl, ?_⟩) (by assumption) ?_
        · intro wz hSw; go_simp
        try simp only [Act.put, List.setIfInBounds_toArray, List.set_cons_zero, List.set_cons_succ]
        refine takeC (i := 12) (v := .slice (some ⟨bm, 0, none⟩) nM nM) (some 32) rfl rfl (by kernel_rfl) (by kernel_rfl) (by kernel_rfl) (fun _ _ _ h => h) (Or.inl ⟨by rfl, ?_⟩) (by assumption) ?_
        · intro wz hSw; go_simp
        try simp only [Act.put, List.setIfInBounds_toArray, List.set_cons_zero, List.set_cons_succ]
        refine takeC (i := 13) (v := .slice (some ⟨b2, off2, none⟩) a.length ac) (some 33) rfl rfl (by kernel_rfl) (by kernel_rfl) (by kernel_rfl) (fun _ _ _ h => h) (Or.inl ⟨by rfl, ?_⟩) (by assumption) ?_
        · intro wz hSw; go_simp
        try simp only [Act.put, List.setIfInBounds_toArray, List.set_cons_zero, List.set_cons_succ]
        refine takeC (i := 14) (v := .int .i64 (k : Int)) (some 34) rfl rfl (by kernel_rfl) (by kernel_rfl) (by kernel_rfl) (fun _ _ _ h => h) (Or.inl ⟨by rfl, ?_⟩) (by assumption) ?_
        · intro wz hSw; go_simp
        try simp only [Act.put, List.setIfInBounds_toArray, List.set_cons_zero, List.set_cons_succ]
        refine takeC (i := 15) (v := .pointer (some ⟨b2, off2 + k, none⟩)) (some 35) rfl rfl (by kernel_rfl) (by kernel_rfl) (by kernel_rfl) (fun _ _ _ h => h) (Or.inl ⟨by rfl, ?_⟩) (by assumption) ?_
        · intro wz hSw; go_simp
        try simp only [Act.put, List.setIfInBounds_toArray, List.set_cons_zero, List.set_cons_succ]
        refine takeC (i := 16) (v := .int .i64 x) (some 36) rfl rfl (by kernel_rfl) (by kernel_rfl) (by kernel_rfl) (fun _ _ _ h => h) (Or.inl ⟨by rfl, ?_⟩) (by assumption) ?_
        · intro wz hSw; have t0z := HXA.out wz hSw.1; go_simp
        try simp only [Act.put, List.setIfInBounds_toArray, List.set_cons_zero, List.set_cons_succ]
        refine wpAnyH_ready (rs := [17]) (by kernel_rfl) (by simp) ?_
        refine AllReadyH.cons rfl (fun K hK => ?_) AllReadyH.nil
        go_simp
        go_wp2_with (go_at_call 38; refine (HAX.out wd).mono ?_; rintro e w7 ⟨rfl, rfl⟩)
        refine hK.out _ _ HSD.out (fun hH7 => ?_)
        clear hK K
        try simp only [Act.put, List.setIfInBounds_toArray, List.set_cons_zero, List.set_cons_succ]
        refine takeC (i := 18) (v := .pointer (some ⟨bm, n, none⟩)) (some 38) rfl rfl (by kernel_rfl) (by kernel_rfl) (by kernel_rfl) (fun _ _ _ h => h) (Or.inl ⟨by rfl, ?_⟩) (by assumption) ?_
        · intro wz hSw; go_simp
        try simp only [Act.put, List.setIfInBounds_toArray, List.set_cons_zero, List.set_cons_succ]
        refine takeC (i := 19) (v := .bool (decide ((n : Int) ∈ flatB P))) (some 39) rfl rfl (by kernel_rfl) (by kernel_rfl) (by kernel_rfl) (fun _ _ _ h => h) (Or.inl ⟨by rfl, ?_⟩) (by assumption) ?_
        · intro wz hSw; have t0z := hSw.2.cell hn; go_simp
        try simp only [Act.put, List.setIfInBounds_toArray, List.set_cons_zero, List.set_cons_succ]
        refine takeC (i := 20) (v := .bool (decide ((n : Int) ∈ flatB P))) (some 40) rfl rfl (by kernel_rfl) (by kernel_rfl) (by kernel_rfl) (fun _ _ _ h => h) (Or.inl ⟨by rfl, ?_⟩) (by assumption) ?_
        · intro wz hSw; go_simp
        try simp only [Act.put, List.setIfInBounds_toArray, List.set_cons_zero, List.set_cons_succ]
        refine takeC (i := 21) (v := .pointer (some ⟨W0.heap.size, n, none⟩)) (some 41) rfl rfl (by kernel_rfl) (by kernel_rfl) (by kernel_rfl) (fun _ _ _ h => h) (Or.inl ⟨by rfl, ?_⟩) (by assumption) ?_
        · intro wz hSw; go_simp
        try simp only [Act.put, List.setIfInBounds_toArray, List.set_cons_zero, List.set_cons_succ]
        have HM9 := Lib.hid (HMD.out.set n hn (decide ((n : Int) ∈ flatB P)))
        have HM8 := Lib.hid (Mk.set_other (i := n) (v := .bool (decide ((n : Int) ∈ flatB P))) HSD.out.2 (show bm ≠ W0.heap.size from HNE.out))
        have HB9 := Lib.hid (HSD.out.1.setCell (p := ⟨W0.heap.size, n, none⟩) (u := .bool (decide ((n : Int) ∈ flatB P))) (Nat.le_refl _))
        refine wpAnyH_ready (rs := [22]) (by kernel_rfl) (by simp) ?_
        refine AllReadyH.cons rfl (fun K hK => ?_) AllReadyH.nil
        go_simp
        refine hK.out _ _ ⟨HB9.out, HM8.out⟩ (fun hH9 => ?_)
        clear hK K
        try simp only [Act.put, List.setIfInBounds_toArray, List.set_cons_zero, List.set_cons_succ]
        refine wpAnyH_done (by kernel_rfl) ?_ _
        go_wp2
        go_roundw
        case rel => exact ⟨k + 1, HKL.out, by go_num, HB9.out, HM9.out.congr (fun i _ _ => by rw [HTK.out, setR_snoc, HVN.out]; simp [hd0.out]), HM8.out⟩
        case measure => have := HKL.out; simp [intOf]; omega
      | false =>
        have hd0 := Lib.hid hd
        go_wp2_with fail
        refine wp_region_held_drew (S := fun X => Below W0.heap.size W0 X ∧ Mk X w1.heap.size bm (fun x => decide (x ∈ flatB P))) (by kernel_rfl) HSD.out (fun hSd => ?_)
        generalize wr.drew = wd at *
        have m0 := HMD.out.cell hn
        have m1 := HMD.out.frozen n
        refine takeC (i := 0) (v := .slice (some ⟨W0.heap.size, 0, none⟩) nM nM) (some 20) rfl rfl (by kernel_rfl) (by kernel_rfl) (by kernel_rfl) (fun _ _ _ h => h) (Or.inl ⟨by rfl, ?_⟩) (by assumption) ?_
        · intro wz hSw; go_simp
        try simp only [Act.put, List.setIfInBounds_toArray, List.set_cons_zero, List.set_cons_succ]
        refine takeC (i := 1) (v := .slice (some ⟨b2, off2, none⟩) a.length ac) (some 21) rfl rfl (by kernel_rfl) (by kernel_rfl) (by kernel_rfl) (fun _ _ _ h => h) (Or.inl ⟨by rfl, ?_⟩) (by assumption) ?_
        · intro wz hSw; go_simp
        try simp only [Act.put, List.setIfInBounds_toArray, List.set_cons_zero, List.set_cons_succ]
        refine takeC (i := 2) (v := .int .i64 (k : Int)) (some 22) rfl rfl (by kernel_rfl) (by kernel_rfl) (by kernel_rfl) (fun _ _ _ h => h) (Or.inl ⟨by rfl, ?_⟩) (by assumption) ?_
        · intro wz hSw; go_simp
        try simp only [Act.put, List.setIfInBounds_toArray, List.set_cons_zero, List.set_cons_succ]
        refine takeC (i := 3) (v := .pointer (some ⟨b2, off2 + k, none⟩)) (some 23) rfl rfl (by kernel_rfl) (by kernel_rfl) (by kernel_rfl) (fun _ _ _ h => h) (Or.inl ⟨by rfl, ?_⟩) (by assumption) ?_
        · intro wz hSw; go_simp
        try simp only [Act.put, List.setIfInBounds_toArray, List.set_cons_zero, List.set_cons_succ]
        refine takeC (i := 4) (v := .int .i64 x) (some 24) rfl rfl (by kernel_rfl) (by kernel_rfl) (by kernel_rfl) (fun _ _ _ h => h) (Or.inl ⟨by rfl, ?_⟩) (by assumption) ?_
        · intro wz hSw; have t0z := HXA.out wz hSw.1; go_simp
        try simp only [Act.put, List.setIfInBounds_toArray, List.set_cons_zero, List.set_cons_succ]
        refine takeC (i := 6) (v := .slice (some ⟨b2, off2, none⟩) a.length ac) (some 26) rfl rfl (by kernel_rfl) (by kernel_rfl) (by kernel_rfl) (fun _ _ _ h => h) (Or.inl ⟨by rfl, ?_⟩) (by assumption) ?_
        · intro wz hSw; go_simp
        try simp only [Act.put, List.setIfInBounds_toArray, List.set_cons_zero, List.set_cons_succ]
        refine takeC (i := 7) (v := .int .i64 (k : Int)) (some 27) rfl rfl (by kernel_rfl) (by kernel_rfl) (by kernel_rfl) (fun _ _ _ h => h) (Or.inl ⟨by rfl, ?_⟩) (by assumption) ?_
        · intro wz hSw; go_simp
        try simp only [Act.put, List.setIfInBounds_toArray, List.set_cons_zero, List.set_cons_succ]
        refine takeC (i := 8) (v := .pointer (some ⟨b2, off2 + k, none⟩)) (some 28) rfl rfl (by kernel_rfl) (by kernel_rfl) (by kernel_rfl) (fun _ _ _ h => h) (Or.inl ⟨by rfl, ?_⟩) (by assumption) ?_
        · intro wz hSw; go_simp
        try simp only [Act.put, List.setIfInBounds_toArray, List.set_cons_zero, List.set_cons_succ]
        refine takeC (i := 9) (v := .int .i64 x) (some 29) rfl rfl (by kernel_rfl) (by kernel_rfl) (by kernel_rfl) (fun _ _ _ h => h) (Or.inl ⟨by rfl, ?_⟩) (by assumption) ?_
        · intro wz hSw; have t0z := HXA.out wz hSw.1; go_simp
        try simp only [Act.put, List.setIfInBounds_toArray, List.set_cons_zero, List.set_cons_succ]
        refine takeC (i := 10) (v := .bool false) (some 30) rfl rfl (by kernel_rfl) (by kernel_rfl) (by kernel_rfl) (fun _ _ _ h => h) (Or.inl ⟨by rfl, ?_⟩) (by assumption) ?_
        · intro wz hSw; go_simp
        try simp only [Act.put, List.setIfInBounds_toArray, List.set_cons_zero, List.set_cons_succ]
        refine wpAnyH_ready (rs := [5]) (by kernel_rfl) (by simp) ?_
        refine AllReadyH.cons rfl (fun K hK => ?_) AllReadyH.nil
        go_simp
        go_wp2_with (go_at_call 38; refine (HAX.out wd).mono ?_; rintro e w7 ⟨rfl, rfl⟩)
        refine hK.out _ _ HSD.out (fun hH7 => ?_)
        clear hK K
        try simp only [Act.put, List.setIfInBounds_toArray, List.set_cons_zero, List.set_cons_succ]
        refine takeC (i := 11) (v := .bool false) (some 31) rfl rfl (by kernel_rfl) (by kernel_rfl) (by kernel_rfl) (fun _ _ _ h => h) (Or.inl ⟨by rfl, ?_⟩) (by assumption) ?_
        · intro wz hSw; go_simp
        try simp only [Act.put, List.setIfInBounds_toArray, List.set_cons_zero, List.set_cons_succ]
        refine takeC (i := 12) (v := undef) (some 32) rfl rfl (by kernel_rfl) (by kernel_rfl) (by kernel_rfl) (fun _ _ _ h => h) (Or.inr ⟨by rfl, rfl⟩) (by assumption) ?_
        try simp only [Act.put, List.setIfInBounds_toArray, List.set_cons_zero, List.set_cons_succ]
        refine takeC (i := 13) (v := undef) (some 33) rfl rfl (by kernel_rfl) (by kernel_rfl) (by kernel_rfl) (fun _ _ _ h => h) (Or.inr ⟨by rfl, rfl⟩) (by assumption) ?_
        try simp only [Act.put, List.setIfInBounds_toArray, List.set_cons_zero, List.set_cons_succ]
        refine takeC (i := 14) (v := undef) (some 34) rfl rfl (by kernel_rfl) (by kernel_rfl) (by kernel_rfl) (fun _ _ _ h => h) (Or.inr ⟨by rfl, rfl⟩) (by assumption) ?_
        try simp only [Act.put, List.setIfInBounds_toArray, List.set_cons_zero, List.set_cons_succ]
        refine takeC (i := 15) (v := undef) (some 35) rfl rfl (by kernel_rfl) (by kernel_rfl) (by kernel_rfl) (fun _ _ _ h => h) (Or.inr ⟨by rfl, rfl⟩) (by assumption) ?_
        try simp only [Act.put, List.setIfInBounds_toArray, List.set_cons_zero, List.set_cons_succ]
        refine takeC (i := 16) (v := undef) (some 36) rfl rfl (by kernel_rfl) (by kernel_rfl) (by kernel_rfl) (fun _ _ _ h => h) (Or.inr ⟨by rfl, rfl⟩) (by assumption) ?_
        try simp only [Act.put, List.setIfInBounds_toArray, List.set_cons_zero, List.set_cons_succ]
        refine takeC (i := 17) (v := undef) (some 37) rfl rfl (by kernel_rfl) (by kernel_rfl) (by kernel_rfl) (fun _ _ _ h => h) (Or.inr ⟨by rfl, rfl⟩) (by assumption) ?_
        try simp only [Act.put, List.setIfInBounds_toArray, List.set_cons_zero, List.set_cons_succ]
        refine takeC (i := 18) (v := undef) (some 38) rfl rfl (by kernel_rfl) (by kernel_rfl) (by kernel_rfl) (fun _ _ _ h => h) (Or.inr ⟨by rfl, rfl⟩) (by assumption) ?_
        try simp only [Act.put, List.setIfInBounds_toArray, List.set_cons_zero, List.set_cons_succ]
        refine takeC (i := 19) (v := undef) (some 39) rfl rfl (by kernel_rfl) (by kernel_rfl) (by kernel_rfl) (fun _ _ _ h => h) (Or.inr ⟨by rfl, rfl⟩) (by assumption) ?_
        try simp only [Act.put, List.setIfInBounds_toArray, List.set_cons_zero, List.set_cons_succ]
        refine takeC (i := 20) (v := .bool false) (some 40) rfl rfl (by kernel_rfl) (by kernel_rfl) (by kernel_rfl) (fun _ _ _ h => h) (Or.inl ⟨by rfl, ?_⟩) (by assumption) ?_
        · intro wz hSw; go_simp
        try simp only [Act.put, List.setIfInBounds_toArray, List.set_cons_zero, List.set_cons_succ]
        refine takeC (i := 21) (v := .pointer (some ⟨W0.heap.size, n, none⟩)) (some 41) rfl rfl (by kernel_rfl) (by kernel_rfl) (by kernel_rfl) (fun _ _ _ h => h) (Or.inl ⟨by rfl, ?_⟩) (by assumption) ?_
        · intro wz hSw; go_simp
        try simp only [Act.put, List.setIfInBounds_toArray, List.set_cons_zero, List.set_cons_succ]
        have HM9 := Lib.hid (HMD.out.set n hn false)
        have HM8 := Lib.hid (Mk.set_other (i := n) (v := .bool false) HSD.out.2 (show bm ≠ W0.heap.size from HNE.out))
        have HB9 := Lib.hid (HSD.out.1.setCell (p := ⟨W0.heap.size, n, none⟩) (u := .bool false) (Nat.le_refl _))
        refine wpAnyH_ready (rs := [22]) (by kernel_rfl) (by simp) ?_
        refine AllReadyH.cons rfl (fun K hK => ?_) AllReadyH.nil
        go_simp
        refine hK.out _ _ ⟨HB9.out, HM8.out⟩ (fun hH9 => ?_)
        clear hK K
        try simp only [Act.put, List.setIfInBounds_toArray, List.set_cons_zero, List.set_cons_succ]
        refine wpAnyH_done (by kernel_rfl) ?_ _
        go_wp2
        go_roundw
        case rel => exact ⟨k + 1, HKL.out, by go_num, HB9.out, HM9.out.congr (fun i _ _ => by rw [HTK.out, setR_snoc, HVN.out]; simp [hd0.out]), HM8.out⟩
        case measure => have := HKL.out; simp [intOf]; omega
    · have HKE : Hid (k = a.length) := by show _ = _; omega
      have HM0 : Hid (Mk wr W0.heap.size W0.heap.size ((gs.take 0).foldl gStep (setR (fun i => decide (i ∈ flatB P)) (fun _ => false) a, [])).1) := by
        have h1 := HM.out
        rw [HKE.out, List.take_length] at h1
        exact h1
      clear HM HMM
      go_wp2
      go_loopw [8] (fun i w2 => ∃ j : Nat, j ≤ gs.length ∧ i = .int .i64 j ∧ Below W0.heap.size W0 w2 ∧ Mk w2 W0.heap.size W0.heap.size ((gs.take j).foldl gStep (setR (fun i => decide (i ∈ flatB P)) (fun _ => false) a, [])).1) (fun i _ => gs.length - (intOf i).toNat)
      case atStart => exact ⟨0, Nat.zero_le _, rfl, HB.out, HM0.out⟩
      case round =>
        obtain ⟨j, hj, rfl, hbel, hmk⟩ := hrel
        have HB2 := Lib.hid hbel
        have HMJ := Lib.hid hmk
        obtain ⟨p0, p1, p2⟩ := HXC.out _ hbel
        clear hmk
        by_cases hlt : j < gs.length
        · obtain ⟨pb, off, u3, rfl, hb, hcx, hck, hcu, HU0, hrg⟩ := HGW.out.at hlt
          have hgm : gs.getD j dG ∈ gs := by simp [List.getD, hlt]
          have HGJ := Lib.hid (HGS.out _ hgm)
          have HFN : Hid (((gs.take (j + 1)).foldl gStep (setR (fun i => decide (i ∈ flatB P)) (fun _ => false) a, [])).1 = updB ((gs.take j).foldl gStep (setR (fun i => decide (i ∈ flatB P)) (fun _ => false) a, [])).1 (gs.getD j dG).1 (gateV ((gs.take j).foldl gStep (setR (fun i => decide (i ∈ flatB P)) (fun _ => false) a, [])).1 (gs.getD j dG).2.1 (gs.getD j dG).2.2)) := by
            show _ = _
            rw [gates_take hlt, List.foldl_append]
            rfl
          have hk0 : (0 : Int) ≤ (j : Int) := by omega
          have hk1 : (j : Int) < (gs.length : Int) := by omega
          have hk2 : (j : Int) < 4000001 := by omega
          have hne : ¬ gs = [] := by intro e; rw [e] at hlt; simp at hlt
          have HKL := Lib.hid hlt
          clear hgm hlt hj hbel
          generalize gs.getD j dG = y at *
          obtain ⟨y1, y2, y3⟩ := y
          simp only at hcx hck hcu HU0 hrg HGJ HFN
          obtain ⟨ua, uc, rfl⟩ := HU0.shape
          have HU := Lib.hid HU0
          have hr := HGJ.out.1
          obtain ⟨n, rfl⟩ := Int.eq_ofNat_of_zero_le hr.1
          have hn : n < nM := by rw [nM_eq]; omega
          have hn0 : (0 : Int) ≤ (n : Int) := by omega
          have hn1 : (n : Int) < (nM : Int) := by omega
          have HXK : Hid (∀ X, Below W0.heap.size W0 X → X.cell? ⟨w.heap.size, 1, none⟩ = some (.slice (some ⟨pb, off, none⟩) gs.length gc) ∧ X.cell? ⟨pb, off + j * 3, none⟩ = some (.int .i64 (n : Int)) ∧ X.cell? ⟨pb, off + j * 3 + 1, none⟩ = some (.int .u8 y2) ∧ X.cell? ⟨pb, off + j * 3 + 2, none⟩ = some (.slice ua y3.length uc)) := fun X hX => ⟨(HXC.out X hX).2.1, (hX.cell (p := ⟨pb, off + j * 3, none⟩) hb).trans hcx, (hX.cell (p := ⟨pb, off + j * 3 + 1, none⟩) hb).trans hck, (hX.cell (p := ⟨pb, off + j * 3 + 2, none⟩) hb).trans hcu⟩
          generalize ((gs.take j).foldl gStep (setR (fun i => decide (i ∈ flatB P)) (fun _ => false) a, [])).1 = F at *
          clear HU0 hr hcx hck hcu hrg
          go_upto_region 10 with fail
          clear p0 p1 p2
          go_wp2_with fail
          have hWd : Below wr.heap.size wr wr.drew := (Below.refl _ _).drew
          have HBD := Lib.hid (HB2.out.trans (hWd.mono HB2.out.size))
          have HMD := Lib.hid (HMJ.out.below hWd (Nat.le_refl _))
          refine wp_region_held_drew (S := fun X => Below W0.heap.size W0 X) (by kernel_rfl) HBD.out (fun hSd => ?_)
          clear hWd
          have HGT := Lib.hid (gate5_any W0.heap.size W0.heap.size F (n : Int) y2 (.slice ua y3.length uc) y3 wr.drew HMD.out (HU.out.below HBD.out (Nat.le_refl _)) HGJ.out.2.1 HGJ.out.2.2)
          generalize wr.drew = wd at *
          refine takeC (i := 0) (v := .slice (some ⟨W0.heap.size, 0, none⟩) nM nM) (some 49) rfl rfl (by kernel_rfl) (by kernel_rfl) (by kernel_rfl) (fun _ _ _ h => h) (Or.inl ⟨by rfl, ?_⟩) (by assumption) ?_
          · intro wz hSw; go_simp
          try simp only [Act.put, List.setIfInBounds_toArray, List.set_cons_zero, List.set_cons_succ]
          refine takeC (i := 1) (v := .pointer (some ⟨w.heap.size, 1, none⟩)) (some 50) rfl rfl (by kernel_rfl) (by kernel_rfl) (by kernel_rfl) (fun _ _ _ h => h) (Or.inl ⟨by rfl, ?_⟩) (by assumption) ?_
          · intro wz hSw; go_simp
          try simp only [Act.put, List.setIfInBounds_toArray, List.set_cons_zero, List.set_cons_succ]
          refine takeC (i := 2) (v := .slice (some ⟨pb, off, none⟩) gs.length gc) (some 51) rfl rfl (by kernel_rfl) (by kernel_rfl) (by kernel_rfl) (fun _ _ _ h => h) (Or.inl ⟨by rfl, ?_⟩) (by assumption) ?_
          · intro wz hSw; obtain ⟨t0z, t1z, t2z, t3z⟩ := HXK.out wz hSw; go_simp
          try simp only [Act.put, List.setIfInBounds_toArray, List.set_cons_zero, List.set_cons_succ]
          refine takeC (i := 3) (v := .int .i64 (j : Int)) (some 52) rfl rfl (by kernel_rfl) (by kernel_rfl) (by kernel_rfl) (fun _ _ _ h => h) (Or.inl ⟨by rfl, ?_⟩) (by assumption) ?_
          · intro wz hSw; go_simp
          try simp only [Act.put, List.setIfInBounds_toArray, List.set_cons_zero, List.set_cons_succ]
          refine takeC (i := 4) (v := .pointer (some ⟨pb, off + j * 3, none⟩)) (some 53) rfl rfl (by kernel_rfl) (by kernel_rfl) (by kernel_rfl) (fun _ _ _ h => h) (Or.inl ⟨by rfl, ?_⟩) (by assumption) ?_
          · intro wz hSw; go_simp
          try simp only [Act.put, List.setIfInBounds_toArray, List.set_cons_zero, List.set_cons_succ]
          refine takeC (i := 5) (v := .pointer (some ⟨pb, off + j * 3, none⟩)) (some 54) rfl rfl (by kernel_rfl) (by kernel_rfl) (by kernel_rfl) (fun _ _ _ h => h) (Or.inl ⟨by rfl, ?_⟩) (by assumption) ?_
          · intro wz hSw; go_simp
          try simp only [Act.put, List.setIfInBounds_toArray, List.set_cons_zero, List.set_cons_succ]
          refine takeC (i := 6) (v := .int .i64 (n : Int)) (some 55) rfl rfl (by kernel_rfl) (by kernel_rfl) (by kernel_rfl) (fun _ _ _ h => h) (Or.inl ⟨by rfl, ?_⟩) (by assumption) ?_
          · intro wz hSw; obtain ⟨t0z, t1z, t2z, t3z⟩ := HXK.out wz hSw; go_simp
          try simp only [Act.put, List.setIfInBounds_toArray, List.set_cons_zero, List.set_cons_succ]
          refine takeC (i := 7) (v := .slice (some ⟨W0.heap.size, 0, none⟩) nM nM) (some 56) rfl rfl (by kernel_rfl) (by kernel_rfl) (by kernel_rfl) (fun _ _ _ h => h) (Or.inl ⟨by rfl, ?_⟩) (by assumption) ?_
          · intro wz hSw; go_simp
          try simp only [Act.put, List.setIfInBounds_toArray, List.set_cons_zero, List.set_cons_succ]
          refine takeC (i := 8) (v := .pointer (some ⟨w.heap.size, 1, none⟩)) (some 57) rfl rfl (by kernel_rfl) (by kernel_rfl) (by kernel_rfl) (fun _ _ _ h => h) (Or.inl ⟨by rfl, ?_⟩) (by assumption) ?_
          · intro wz hSw; go_simp
          try simp only [Act.put, List.setIfInBounds_toArray, List.set_cons_zero, List.set_cons_succ]
          refine takeC (i := 9) (v := .slice (some ⟨pb, off, none⟩) gs.length gc) (some 58) rfl rfl (by kernel_rfl) (by kernel_rfl) (by kernel_rfl) (fun _ _ _ h => h) (Or.inl ⟨by rfl, ?_⟩) (by assumption) ?_
          · intro wz hSw; obtain ⟨t0z, t1z, t2z, t3z⟩ := HXK.out wz hSw; go_simp
          try simp only [Act.put, List.setIfInBounds_toArray, List.set_cons_zero, List.set_cons_succ]
          refine takeC (i := 10) (v := .int .i64 (j : Int)) (some 59) rfl rfl (by kernel_rfl) (by kernel_rfl) (by kernel_rfl) (fun _ _ _ h => h) (Or.inl ⟨by rfl, ?_⟩) (by assumption) ?_
          · intro wz hSw; go_simp
          try simp only [Act.put, List.setIfInBounds_toArray, List.set_cons_zero, List.set_cons_succ]
          refine takeC (i := 11) (v := .pointer (some ⟨pb, off + j * 3, none⟩)) (some 60) rfl rfl (by kernel_rfl) (by kernel_rfl) (by kernel_rfl) (fun _ _ _ h => h) (Or.inl ⟨by rfl, ?_⟩) (by assumption) ?_
          · intro wz hSw; go_simp
          try simp only [Act.put, List.setIfInBounds_toArray, List.set_cons_zero, List.set_cons_succ]
          refine takeC (i := 12) (v := .agg #[.int .i64 (n : Int), .int .u8 y2, .slice ua y3.length uc]) (some 61) rfl rfl (by kernel_rfl) (by kernel_rfl) (by kernel_rfl) (fun _ _ _ h => h) (Or.inl ⟨by rfl, ?_⟩) (by assumption) ?_
          · intro wz hSw; obtain ⟨t0z, t1z, t2z, t3z⟩ := HXK.out wz hSw; go_simp
          try simp only [Act.put, List.setIfInBounds_toArray, List.set_cons_zero, List.set_cons_succ]
          refine wpAnyH_ready (rs := [13]) (by kernel_rfl) (by simp) ?_
          refine AllReadyH.cons rfl (fun K hK => ?_) AllReadyH.nil
          go_simp
          go_wp2_with (go_at_call 84; refine HGT.out.mono ?_; rintro e w7 ⟨rfl, hb7⟩; have HB7 := Lib.hid hb7; clear hb7)
          have HBW := Lib.hid (HBD.out.trans (HB7.out.mono HBD.out.size))
          refine hK.out _ _ HBW.out (fun hH7 => ?_)
          clear hK K
          try simp only [Act.put, List.setIfInBounds_toArray, List.set_cons_zero, List.set_cons_succ]
          refine takeC (i := 14) (v := .pointer (some ⟨W0.heap.size, n, none⟩)) (some 63) rfl rfl (by kernel_rfl) (by kernel_rfl) (by kernel_rfl) (fun _ _ _ h => h) (Or.inl ⟨by rfl, ?_⟩) (by assumption) ?_
          · intro wz hSw; go_simp
          try simp only [Act.put, List.setIfInBounds_toArray, List.set_cons_zero, List.set_cons_succ]
          have HM7 := Lib.hid (HMD.out.below HB7.out (Nat.le_refl _))
          have m0 := HM7.out.cell hn
          have m1 := HM7.out.frozen n
          have HM9 := Lib.hid (HM7.out.set n hn (gateV F y2 y3))
          have HB9 := Lib.hid (HBW.out.setCell (p := ⟨W0.heap.size, n, none⟩) (u := .bool (gateV F y2 y3)) (Nat.le_refl _))
          refine wpAnyH_ready (rs := [15]) (by kernel_rfl) (by simp) ?_
          refine AllReadyH.cons rfl (fun K hK => ?_) AllReadyH.nil
          go_simp
          refine hK.out _ _ HB9.out (fun hH9 => ?_)
          clear hK K
          try simp only [Act.put, List.setIfInBounds_toArray, List.set_cons_zero, List.set_cons_succ]
          refine wpAnyH_done (by kernel_rfl) ?_ _
          go_wp2
          go_roundw
          case rel => exact ⟨j + 1, HKL.out, by go_num, HB9.out, by rw [HFN.out]; exact HM9.out⟩
          case measure => have := HKL.out; simp [intOf]; omega
        · have HJE : Hid (j = gs.length) := by show _ = _; omega
          have HMF : Hid (Mk wr W0.heap.size W0.heap.size (gs.foldl gStep (setR (fun i => decide (i ∈ flatB P)) (fun _ => false) a, [])).1) := by
            have h1 := HMJ.out
            rw [HJE.out, List.take_length] at h1
            exact h1
          go_wp2
          go_ret
          exact ⟨_, rfl, HMF.out.mono (by have := HS1.out; omega), HB0.out.trans (HB2.out.mono HB0.out.size)⟩
end Go.Proofs.Yticcikelapifaaa

/- The reference's Eval and Values (layer 5). -/
namespace Go.Proofs.Yticcikelapifaaa
open Go.RowKit Go.Maps Go.Shelf
set_option linter.unusedVariables false
set_option linter.unusedSimpArgs false

/-- All values, the reference's way. -/
def finR (P : List Blk) (gs : List Gt) (a : List Int) : Int → Bool := (gs.foldl gStep (setR (fun i => decide (i ∈ flatB P)) (fun _ => false) a, [])).1
theorem finR_out {P : List Blk} {gs : List Gt} {o : Int} (h : mayN P gs o = true) (a : List Int) : litV (finR P gs a) o = litV (runA gs a).1 o := (mayN_runs h a).2.2.2.1
theorem finR_all {P : List Blk} {gs : List Gt} {o : Int} (h : mayN P gs o = true) (a : List Int) : gs.map (fun g => finR P gs a g.1) = (runA gs a).2 := by
  rw [← (mayN_runs h a).2.2.2.2]
  exact (mayN_last h _).symm
theorem rall_at {P : List Blk} {gs : List Gt} {o : Int} {a : List Int} (hm : mayN P gs o = true) (hn : mayB a = true) (vp vg va : Value) (X : World) (HP : IsBlocks X vp P) (HG : IsGates X vg gs) (HA : IsInts X va a) (hg : gs.length < 1000000) :
    Calls Try.prog 61 #[.agg #[vp, vg, .int .i64 o], va] X fun e w' => ∃ b, e = .returned (.slice (some ⟨b, 0, none⟩) nM nM) ∧ Mk w' X.heap.size b (finR P gs a) ∧ Below X.heap.size X w' := by
  have h := mayN_runs hm a
  exact all5_any vp vg va o P gs a X HP HG HA h.1 hg (mayB_vars hn) h.2.1

set_option maxHeartbeats 3200000 in
set_option maxRecDepth 100000 in
theorem reval5_any (vp vg va : Value) (o : Int) (P : List Blk) (gs : List Gt) (a : List Int) (w : World) (HP : IsBlocks w vp P) (HG : IsGates w vg gs) (HA : IsInts w va a) (hp : P.length ≤ 4000000) (hg : gs.length < 1000000) (ho1 : -9223372036854775808 ≤ o) (ho2 : o ≤ 9223372036854775807) :
    Calls Try.prog 21 #[.agg #[vp, vg, .int .i64 o], va] w fun e w' => e = .returned (.tuple #[.bool (evalN P gs o a).1, .int .i64 (evalN P gs o a).2]) ∧ Below w.heap.size w w' := by
  obtain ⟨pa, pc, rfl, _⟩ := HP.shape
  obtain ⟨ga, gc, rfl, _⟩ := HG.shape
  obtain ⟨aa, ac, rfl⟩ := HA.shape
  obtain ⟨W0, hW0⟩ : ∃ W0, w.alloc (.cells #[.slice pa P.length pc, .slice ga gs.length gc, .int .i64 o] 25) = W0 := ⟨_, rfl⟩
  have hb0 : Below w.heap.size w W0 := by rw [← hW0]; exact below_new _ _
  have hbx := box_new w (.slice pa P.length pc) (.slice ga gs.length gc) o
  rw [hW0] at hbx
  have hs1 : W0.heap.size = w.heap.size + 1 := by rw [← hW0]; simp
  have HXC : Hid (∀ X, Below W0.heap.size W0 X → BoxN X w.heap.size (.slice pa P.length pc) (.slice ga gs.length gc) o) := fun X hX => hbx X (hX.mono (by omega))
  have HW0 := Lib.hid hW0
  have HB0 := Lib.hid hb0
  have HPW := Lib.hid (HP.below hb0 (Nat.le_refl _))
  have HGW := Lib.hid (HG.below hb0 (Nat.le_refl _))
  have HAW := Lib.hid (HA.below hb0 (Nat.le_refl _))
  have HM := Lib.hid (rmay5_any _ _ o P gs W0 HPW.out HGW.out hp hg ho1 ho2)
  have HN : Hid (∀ X, Below W0.heap.size W0 X → Calls Try.prog 59 #[.slice aa a.length ac] X fun e w' => e = .returned (.bool (mayB a)) ∧ Quiet X w') := fun X hX => rnormal5_any _ a X (HAW.out.below hX (Nat.le_refl _))
  have HAL : Hid (mayN P gs o = true → mayB a = true → ∀ X, Below W0.heap.size W0 X → Calls Try.prog 61 #[.agg #[.slice pa P.length pc, .slice ga gs.length gc, .int .i64 o], .slice aa a.length ac] X fun e w' => ∃ b, e = .returned (.slice (some ⟨b, 0, none⟩) nM nM) ∧ Mk w' X.heap.size b (finR P gs a) ∧ Below X.heap.size X w') := fun h1 h2 X hX => rall_at h1 h2 _ _ _ X (HPW.out.below hX (Nat.le_refl _)) (HGW.out.below hX (Nat.le_refl _)) (HAW.out.below hX (Nat.le_refl _)) hg
  have HHO : Hid (mayN P gs o = true → ∀ X B b, Mk X B b (finR P gs a) → Calls Try.prog 60 #[.slice (some ⟨b, 0, none⟩) nM nM, .int .i64 o] X fun e w' => e = .returned (.bool (litV (runA gs a).1 o)) ∧ X = w') := fun h1 X B b hmk => by
    have h2 := (mayN_runs h1 a).2.2.1
    have h3 := holds5_any B b _ o X hmk ho1 ho2 ⟨by omega, h2.2⟩
    rw [finR_out h1] at h3
    exact h3
  have HEV : Hid (evalN P gs o a = if (mayN P gs o && mayB a) = true then (litV (runA gs a).1 o, 0) else (false, 2)) := rfl
  clear HP HG HA hW0 hb0 hbx hs1 hp
  generalize evalN P gs o a = R at *
  cases hm : mayN P gs o with
  | false =>
    rw [hm] at HEV HM
    have HR : Hid (R = (false, 2)) := HEV.out
    clear hm HEV HAL HHO HN
    rw [HR.out]
    go_enter Try.func21, Try.ntmps21
    go_upto_region 1 with fail
    rw [HW0.out]
    obtain ⟨p0, p1, p2⟩ := HXC.out W0 (Below.refl _ _)
    go_wp2_with (go_at_call 16; refine HM.out.mono ?_; rintro e w1 ⟨rfl, hb1⟩)
    go_ret2
    exact ⟨rfl, HB0.out.trans (hb1.mono HB0.out.size)⟩
  | true =>
    have HAL2 := Lib.hid (HAL.out hm)
    have HHO2 := Lib.hid (HHO.out hm)
    rw [hm] at HEV HM
    clear hm HAL HHO
    cases hn : mayB a with
    | false =>
      rw [hn] at HEV HN
      have HR : Hid (R = (false, 2)) := HEV.out
      clear hn HEV HAL2 HHO2
      rw [HR.out]
      go_enter Try.func21, Try.ntmps21
      go_upto_region 1 with fail
      rw [HW0.out]
      obtain ⟨p0, p1, p2⟩ := HXC.out W0 (Below.refl _ _)
      go_wp2_with (first
        | (go_at_call 16; refine HM.out.mono ?_; rintro e w1 ⟨rfl, hb1⟩)
        | (go_at_call 59; refine (HN.out w1 hb1).mono ?_; rintro e w2 ⟨rfl, hq2⟩))
      go_ret2
      exact ⟨rfl, HB0.out.trans ((hb1.trans (hq2.below _)).mono HB0.out.size)⟩
    | true =>
      have HAL3 := Lib.hid (HAL2.out hn)
      rw [hn] at HEV HN
      have HR : Hid (R = (litV (runA gs a).1 o, 0)) := HEV.out
      clear hn HEV HAL2
      rw [HR.out]
      generalize litV (runA gs a).1 o = r at *
      generalize finR P gs a = F at *
      go_enter Try.func21, Try.ntmps21
      go_upto_region 1 with fail
      rw [HW0.out]
      obtain ⟨p0, p1, p2⟩ := HXC.out W0 (Below.refl _ _)
      go_wp2_with (first
        | (go_at_call 16; refine HM.out.mono ?_; rintro e w1 ⟨rfl, hb1⟩; have HB1 := Lib.hid hb1; clear hb1 p0 p1 p2)
        | (go_at_call 59; refine (HN.out w1 HB1.out).mono ?_; rintro e w2 ⟨rfl, hq2⟩; have HB2 := Lib.hid (HB1.out.trans (hq2.below _)); clear hq2))
      have HBD : Hid (Below W0.heap.size W0 w2.drew) := HB2.out.trans (((Below.refl _ w2).drew).mono HB2.out.size)
      refine wp_region_held_drew (S := fun X => Below W0.heap.size W0 X) (by kernel_rfl) HBD.out (fun hSd => ?_)
      generalize w2.drew = wd at *
      refine takeC (i := 0) (v := .agg #[.slice pa P.length pc, .slice ga gs.length gc, .int .i64 o]) (some 14) rfl rfl (by kernel_rfl) (by kernel_rfl) (by kernel_rfl) (fun _ _ _ h => h) (Or.inl ⟨by rfl, ?_⟩) (by assumption) ?_
      · intro wz hSw; obtain ⟨t0x, t1x, t2x⟩ := HXC.out wz hSw; go_simp
      try simp only [Act.put, List.setIfInBounds_toArray, List.set_cons_zero, List.set_cons_succ]
      refine takeC (i := 1) (v := .slice aa a.length ac) (some 15) rfl rfl (by kernel_rfl) (by kernel_rfl) (by kernel_rfl) (fun _ _ _ h => h) (Or.inl ⟨by rfl, ?_⟩) (by assumption) ?_
      · intro wz hSw; go_simp
      try simp only [Act.put, List.setIfInBounds_toArray, List.set_cons_zero, List.set_cons_succ]
      refine takeC (i := 3) (v := .pointer (some ⟨w.heap.size, 2, none⟩)) (some 17) rfl rfl (by kernel_rfl) (by kernel_rfl) (by kernel_rfl) (fun _ _ _ h => h) (Or.inl ⟨by rfl, ?_⟩) (by assumption) ?_
      · intro wz hSw; go_simp
      try simp only [Act.put, List.setIfInBounds_toArray, List.set_cons_zero, List.set_cons_succ]
      refine takeC (i := 4) (v := .int .i64 o) (some 18) rfl rfl (by kernel_rfl) (by kernel_rfl) (by kernel_rfl) (fun _ _ _ h => h) (Or.inl ⟨by rfl, ?_⟩) (by assumption) ?_
      · intro wz hSw; obtain ⟨t0x, t1x, t2x⟩ := HXC.out wz hSw; go_simp
      try simp only [Act.put, List.setIfInBounds_toArray, List.set_cons_zero, List.set_cons_succ]
      refine wpAnyH_ready (rs := [2]) (by kernel_rfl) (by simp) ?_
      refine AllReadyH.cons rfl (fun K hK => ?_) AllReadyH.nil
      go_simp
      go_wp2_with (go_at_call 61; refine (HAL3.out wd HBD.out).mono ?_; rintro e w7 ⟨bm, rfl, hmk7, hb7⟩; have HB7 := Lib.hid (HBD.out.trans (hb7.mono HBD.out.size)); have HM7 := Lib.hid hmk7; clear hb7 hmk7)
      refine hK.out _ _ HB7.out (fun hH7 => ?_)
      clear hK K
      try simp only [Act.put, List.setIfInBounds_toArray, List.set_cons_zero, List.set_cons_succ]
      refine wpAnyH_ready (rs := [5]) (by kernel_rfl) (by simp) ?_
      refine AllReadyH.cons rfl (fun K hK => ?_) AllReadyH.nil
      go_simp
      go_wp2_with (go_at_call 60; refine (HHO2.out w7 _ bm HM7.out).mono ?_; rintro e w8 ⟨rfl, rfl⟩)
      refine hK.out _ _ HB7.out (fun hH8 => ?_)
      clear hK K
      try simp only [Act.put, List.setIfInBounds_toArray, List.set_cons_zero, List.set_cons_succ]
      refine takeC (i := 6) (v := .bool r) (some 4) rfl rfl (by kernel_rfl) (by kernel_rfl) (by kernel_rfl) (fun _ _ _ h => h) (Or.inl ⟨by rfl, ?_⟩) (by assumption) ?_
      · intro wz hSw; go_simp
      try simp only [Act.put, List.setIfInBounds_toArray, List.set_cons_zero, List.set_cons_succ]
      refine takeC (i := 7) (v := .int .i64 0) (some 5) rfl rfl (by kernel_rfl) (by kernel_rfl) (by kernel_rfl) (fun _ _ _ h => h) (Or.inl ⟨by rfl, ?_⟩) (by assumption) ?_
      · intro wz hSw; go_simp
      try simp only [Act.put, List.setIfInBounds_toArray, List.set_cons_zero, List.set_cons_succ]
      refine wpAnyH_done (by kernel_rfl) ?_ _
      go_wp2
      go_ret2
      exact ⟨rfl, HB0.out.trans (HB7.out.mono HB0.out.size)⟩

set_option maxHeartbeats 3200000 in
set_option maxRecDepth 100000 in
theorem rvals5_any (vp vg va : Value) (o : Int) (P : List Blk) (gs : List Gt) (a : List Int) (w : World) (HP : IsBlocks w vp P) (HG : IsGates w vg gs) (HA : IsInts w va a) (hp : P.length ≤ 4000000) (hg : gs.length < 1000000) (ho1 : -9223372036854775808 ≤ o) (ho2 : o ≤ 9223372036854775807) :
    Calls Try.prog 23 #[.agg #[vp, vg, .int .i64 o], va] w fun e w' => ∃ v, e = .returned (.tuple #[v, .int .i64 (valuesN P gs o a).2]) ∧ OwnB w' w.heap.size v (valuesN P gs o a).1 ∧ Below w.heap.size w w' := by
  obtain ⟨pa, pc, rfl, _⟩ := HP.shape
  obtain ⟨ga, gc, rfl, _⟩ := HG.shape
  obtain ⟨aa, ac, rfl⟩ := HA.shape
  obtain ⟨W0, hW0⟩ : ∃ W0, w.alloc (.cells #[.slice pa P.length pc, .slice ga gs.length gc, .int .i64 o] 25) = W0 := ⟨_, rfl⟩
  have hb0 : Below w.heap.size w W0 := by rw [← hW0]; exact below_new _ _
  have hbx := box_new w (.slice pa P.length pc) (.slice ga gs.length gc) o
  rw [hW0] at hbx
  have hs1 : W0.heap.size = w.heap.size + 1 := by rw [← hW0]; simp
  have HXC : Hid (∀ X, Below W0.heap.size W0 X → BoxN X w.heap.size (.slice pa P.length pc) (.slice ga gs.length gc) o) := fun X hX => hbx X (hX.mono (by omega))
  have HW0 := Lib.hid hW0
  have HB0 := Lib.hid hb0
  have HPW := Lib.hid (HP.below hb0 (Nat.le_refl _))
  have HGW := Lib.hid (HG.below hb0 (Nat.le_refl _))
  have HAW := Lib.hid (HA.below hb0 (Nat.le_refl _))
  have HM := Lib.hid (rmay5_any _ _ o P gs W0 HPW.out HGW.out hp hg ho1 ho2)
  have HN : Hid (∀ X, Below W0.heap.size W0 X → Calls Try.prog 59 #[.slice aa a.length ac] X fun e w' => e = .returned (.bool (mayB a)) ∧ Quiet X w') := fun X hX => rnormal5_any _ a X (HAW.out.below hX (Nat.le_refl _))
  have HAL : Hid (mayN P gs o = true → mayB a = true → ∀ X, Below W0.heap.size W0 X → Calls Try.prog 61 #[.agg #[.slice pa P.length pc, .slice ga gs.length gc, .int .i64 o], .slice aa a.length ac] X fun e w' => ∃ b, e = .returned (.slice (some ⟨b, 0, none⟩) nM nM) ∧ Mk w' X.heap.size b (finR P gs a) ∧ Below X.heap.size X w') := fun h1 h2 X hX => rall_at h1 h2 _ _ _ X (HPW.out.below hX (Nat.le_refl _)) (HGW.out.below hX (Nat.le_refl _)) (HAW.out.below hX (Nat.le_refl _)) hg
  have HFI : Hid (mayN P gs o = true → gs.map (fun g => finR P gs a g.1) = (runA gs a).2 ∧ ∀ g ∈ gs, 0 ≤ g.1 ∧ g.1 ≤ 65536) := fun h1 => ⟨finR_all h1 a, fun g hgm => ((mayN_runs h1 a).2.1 g hgm).1⟩
  have HEV : Hid (valuesN P gs o a = if (mayN P gs o && mayB a) = true then ((runA gs a).2, 0) else ([], 2)) := rfl
  clear HP HG HA hW0 hb0 hbx hs1 hp
  generalize valuesN P gs o a = R at *
  cases hm : mayN P gs o with
  | false =>
    rw [hm] at HEV HM
    have HR : Hid (R = ([], 2)) := HEV.out
    clear hm HEV HAL HFI HN
    rw [HR.out]
    go_enter Try.func23, Try.ntmps23
    go_upto_region 1 with fail
    rw [HW0.out]
    obtain ⟨p0, p1, p2⟩ := HXC.out W0 (Below.refl _ _)
    go_wp2_with (go_at_call 16; refine HM.out.mono ?_; rintro e w1 ⟨rfl, hb1⟩)
    go_ret2
    exact ⟨_, rfl, World.ownsRow_nil _ _ _ _, HB0.out.trans (hb1.mono HB0.out.size)⟩
  | true =>
    have HAL2 := Lib.hid (HAL.out hm)
    have HFI2 := Lib.hid (HFI.out hm)
    rw [hm] at HEV HM
    clear hm HAL HFI
    cases hn : mayB a with
    | false =>
      rw [hn] at HEV HN
      have HR : Hid (R = ([], 2)) := HEV.out
      clear hn HEV HAL2 HFI2
      rw [HR.out]
      go_enter Try.func23, Try.ntmps23
      go_upto_region 1 with fail
      rw [HW0.out]
      obtain ⟨p0, p1, p2⟩ := HXC.out W0 (Below.refl _ _)
      go_wp2_with (first
        | (go_at_call 16; refine HM.out.mono ?_; rintro e w1 ⟨rfl, hb1⟩)
        | (go_at_call 59; refine (HN.out w1 hb1).mono ?_; rintro e w2 ⟨rfl, hq2⟩))
      go_ret2
      exact ⟨_, rfl, World.ownsRow_nil _ _ _ _, HB0.out.trans ((hb1.trans (hq2.below _)).mono HB0.out.size)⟩
    | true =>
      have HAL3 := Lib.hid (HAL2.out hn)
      rw [hn] at HEV HN
      have HR : Hid (R = (gs.map (fun g => finR P gs a g.1), 0)) := by show _ = _; rw [HFI2.out.1]; exact HEV.out
      have HGB : Hid (∀ g ∈ gs, 0 ≤ g.1 ∧ g.1 ≤ 65536) := HFI2.out.2
      clear hn HEV HAL2 HFI2
      rw [HR.out]
      generalize finR P gs a = F at *
      go_enter Try.func23, Try.ntmps23
      go_upto_region 1 with fail
      rw [HW0.out]
      obtain ⟨p0, p1, p2⟩ := HXC.out W0 (Below.refl _ _)
      go_wp2_with (first
        | (go_at_call 16; refine HM.out.mono ?_; rintro e w1 ⟨rfl, hb1⟩; have HB1 := Lib.hid hb1; clear hb1 p0 p1 p2)
        | (go_at_call 59; refine (HN.out w1 HB1.out).mono ?_; rintro e w2 ⟨rfl, hq2⟩; have HB2 := Lib.hid (HB1.out.trans (hq2.below _)); clear hq2; obtain ⟨p0, p1, p2⟩ := HXC.out w2 HB2.out)
        | (go_at_call 61; refine (HAL3.out w2 HB2.out).mono ?_; rintro e w3 ⟨bm, rfl, hmk3, hb3⟩; have HB3 := Lib.hid (HB2.out.trans (hb3.mono HB2.out.size)); have HM3 := Lib.hid hmk3; clear hb3 hmk3 p0 p1 p2))
      go_loopw [7, 8] (fun out i wr => ∃ k : Nat, k ≤ gs.length ∧ i = .int .i64 k ∧ OwnB wr w3.heap.size out ((gs.take k).map (fun g => F g.1)) ∧ Below w3.heap.size w3 wr) (fun _ i _ => gs.length - (intOf i).toNat)
      case atStart => exact ⟨0, Nat.zero_le _, rfl, World.ownsRow_nil _ _ _ _, Below.refl _ _⟩
      case round =>
        obtain ⟨k, hk, rfl, hown, hbel⟩ := hrel
        have HO := Lib.hid hown
        have HB := Lib.hid hbel
        have hszr := hbel.size
        have HBW := Lib.hid (HB3.out.trans (hbel.mono HB3.out.size))
        obtain ⟨p0, p1, p2⟩ := HXC.out wr HBW.out
        obtain ⟨oa, on, oc, rfl⟩ := ownB_shape hown
        clear hown hbel
        by_cases hlt : k < gs.length
        · obtain ⟨pb, off, u3, rfl, hb, hcx0, hck0, hcu0, HU0, hrg⟩ := HGW.out.at hlt
          have hcx := (HBW.out.cell (p := ⟨pb, off + k * 3, none⟩) hb).trans hcx0
          have hgm : gs.getD k dG ∈ gs := by simp [List.getD, hlt]
          have hr := HGB.out _ hgm
          have HTK : Hid ((gs.take (k + 1)).map (fun g => F g.1) = (gs.take k).map (fun g => F g.1) ++ [F (gs.getD k dG).1]) := by show _ = _; rw [gates_take hlt, List.map_append]; rfl
          have HLN : Hid (((gs.take k).map (fun g => F g.1)).length < 17592186044416) := by show _ < _; simp; omega
          have hk0 : (0 : Int) ≤ (k : Int) := by omega
          have hk1 : (k : Int) < (gs.length : Int) := by omega
          have hk2 : (k : Int) < 4000001 := by omega
          have HKL := Lib.hid hlt
          clear hlt hcx0 hck0 hcu0 HU0 hgm hk hrg
          generalize (gs.take k).map (fun g => F g.1) = bs at *
          generalize gs.getD k dG = y at *
          obtain ⟨y1, y2, y3⟩ := y
          simp only at hcx hr HTK
          obtain ⟨n, rfl⟩ := Int.eq_ofNat_of_zero_le hr.1
          have hn : n < nM := by rw [nM_eq]; omega
          have hn0 : (0 : Int) ≤ (n : Int) := by omega
          have hn1 : (n : Int) < (nM : Int) := by omega
          have m0 := (HM3.out.below HB.out (Nat.le_refl _)).cell hn
          clear hr
          generalize F (n : Int) = t at *
          go_wp2_with (at_builtin; go_loud (refine wpList_appBo rfl (.tmp 27) (.tmp 37) rfl w3.heap.size (.slice oa on oc) bs t wr.heap.size rfl rfl (World.ownsRow.alloc HO.out _) (cell_fresh rfl) HLN.out (by simp; omega) ?_; intro v5 w5 ho5 hg5; have HO5 := Lib.hid ho5; have HG5 := Lib.hid hg5; clear ho5 hg5))
          have HB5 : Hid (Below w3.heap.size w3 w5) := (HB.out.alloc hszr _).grown HG5.out (by simp; omega) (fun g hg => (ownB_lt HO.out g hg).1)
          obtain ⟨oa5, on5, oc5, rfl⟩ := ownB_shape HO5.out
          go_roundw
          case rel => exact ⟨k + 1, HKL.out, by go_num, by rw [HTK.out]; exact HO5.out, HB5.out⟩
          case measure => have := HKL.out; simp [intOf]; omega
        · have HOF : Hid (OwnB wr w3.heap.size (.slice oa on oc) (gs.map (fun g => F g.1))) := by have h := HO.out; rw [List.take_of_length_le (by omega)] at h; exact h
          go_wp2
          go_ret2
          exact ⟨_, rfl, ownB_mono HOF.out (Nat.le_trans HB0.out.size HB3.out.size), HB0.out.trans (HBW.out.mono HB0.out.size)⟩
end Go.Proofs.Yticcikelapifaaa
