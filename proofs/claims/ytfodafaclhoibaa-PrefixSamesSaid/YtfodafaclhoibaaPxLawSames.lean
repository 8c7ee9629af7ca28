/- The law PrefixSames, walked. -/
import Derived.Test.YtfodafaclhoibaaPxHeadB
import Derived.Test.YtfodafaclhoibaaMgJ
import Derived.Test.YtfodafaclhoibaaMpM
namespace Go.Proofs.Ytfodafaclhoibaa
open Go.RowKit
set_option linter.unusedVariables false
set_option linter.unusedSimpArgs false

set_option maxRecDepth 100000 in
set_option maxHeartbeats 3200000 in
theorem sames_any (vu ve vc xu xe xc : Value) (U U2 : List Int) (E E2 : List (Int × List Int)) (C C2 : List (List Int)) (w : World)
    (HU : IsInts w vu U) (HE : IsDeps w ve E) (HC : IsRows w vc C) (KU : IsInts w xu U2) (KE : IsDeps w xe E2) (KC : IsRows w xc C2) :
    Calls Try.prog 4 #[.agg #[vu, ve, vc], .agg #[xu, xe, xc]] w fun e w' => e = .returned (.bool true) ∧ Below w.heap.size w w' := by
  obtain ⟨W, hW⟩ : ∃ W, (w.alloc (.cells #[vu, ve, vc] 29)).alloc (.cells #[xu, xe, xc] 29) = W := ⟨_, rfl⟩
  have hb0 : Below w.heap.size w W := by rw [← hW]; exact ((Below.refl w.heap.size w).alloc (Nat.le_refl _) _).alloc (by simp) _
  have hz : W.heap.size = w.heap.size + 2 := by rw [← hW]; simp
  have c0 : ∀ i v, (#[vu, ve, vc] : Array Value)[i]? = some v → W.cell? ⟨w.heap.size, i, none⟩ = some v := fun i v h => by rw [← hW]; exact cell_old (cell_fresh h)
  have c1 : ∀ i v, (#[xu, xe, xc] : Array Value)[i]? = some v → W.cell? ⟨w.heap.size + 1, i, none⟩ = some v := fun i v h => by rw [← hW]; exact cell_fresh2 h
  have HY : Hid (∀ X, Below W.heap.size W X → X.cell? ⟨w.heap.size, 0, none⟩ = some vu ∧ X.cell? ⟨w.heap.size, 1, none⟩ = some ve ∧ X.cell? ⟨w.heap.size, 2, none⟩ = some vc ∧ X.cell? ⟨w.heap.size + 1, 0, none⟩ = some xu ∧ X.cell? ⟨w.heap.size + 1, 1, none⟩ = some xe ∧ X.cell? ⟨w.heap.size + 1, 2, none⟩ = some xc) := fun X hX =>
    ⟨(hX.cell (p := ⟨w.heap.size, 0, none⟩) (by simp; omega)).trans (c0 0 _ rfl), (hX.cell (p := ⟨w.heap.size, 1, none⟩) (by simp; omega)).trans (c0 1 _ rfl), (hX.cell (p := ⟨w.heap.size, 2, none⟩) (by simp; omega)).trans (c0 2 _ rfl), (hX.cell (p := ⟨w.heap.size + 1, 0, none⟩) (by simp; omega)).trans (c1 0 _ rfl), (hX.cell (p := ⟨w.heap.size + 1, 1, none⟩) (by simp; omega)).trans (c1 1 _ rfl), (hX.cell (p := ⟨w.heap.size + 1, 2, none⟩) (by simp; omega)).trans (c1 2 _ rfl)⟩
  have HB0 := Lib.hid hb0
  have up : ∀ X, Below W.heap.size W X → IsInts X vu U ∧ IsDeps X ve E ∧ IsRows X vc C ∧ IsInts X xu U2 ∧ IsDeps X xe E2 ∧ IsRows X xc C2 := fun X hX => by
    have h := hb0.trans (hX.mono hb0.size)
    exact ⟨HU.below h (Nat.le_refl _), HE.below h (Nat.le_refl _), HC.below h (Nat.le_refl _), KU.below h (Nat.le_refl _), KE.below h (Nat.le_refl _), KC.below h (Nat.le_refl _)⟩
  have HA : Hid (∀ X, Below W.heap.size W X → Calls Try.prog 17 #[.agg #[vu, ve, vc], .int .i64 400] X fun e w' => e = .returned (.bool (broadW 400 U E C)) ∧ Below X.heap.size X w') := fun X hX => by
    obtain ⟨h1, h2, h3, _⟩ := up X hX
    exact broadw_any vu ve vc U E C 400 X h1 h2 h3
  have HA2 : Hid (∀ X, Below W.heap.size W X → Calls Try.prog 17 #[.agg #[xu, xe, xc], .int .i64 400] X fun e w' => e = .returned (.bool (broadW 400 U2 E2 C2)) ∧ Below X.heap.size X w') := fun X hX => by
    obtain ⟨_, _, _, h1, h2, h3⟩ := up X hX
    exact broadw_any xu xe xc U2 E2 C2 400 X h1 h2 h3
  have H1 : Hid (∀ X, Below W.heap.size W X → Calls Try.prog 27 #[.agg #[vu, ve, vc], .agg #[xu, xe, xc]] X fun e w' => e = .returned (.bool (sameB U U2 && (sameB E E2 && sameB C C2))) ∧ Below X.heap.size X w') := fun X hX => by
    obtain ⟨h1, h2, h3, h4, h5, h6⟩ := up X hX
    exact psamed_any vu ve vc xu xe xc U U2 E E2 C C2 X h1 h2 h3 h4 h5 h6
  have H2 : Hid (∀ X, Below W.heap.size W X → Calls Try.prog 28 #[.agg #[vu, ve, vc], .agg #[xu, xe, xc]] X fun e w' => e = .returned (.bool (sameB U U2 && (sameB E E2 && sameB C C2))) ∧ Below X.heap.size X w') := fun X hX => by
    obtain ⟨h1, h2, h3, h4, h5, h6⟩ := up X hX
    exact rsamed_any vu ve vc xu xe xc U U2 E E2 C C2 X h1 h2 h3 h4 h5 h6
  have H3 : Hid (∀ X, Below W.heap.size W X → Calls Try.prog 27 #[.agg #[xu, xe, xc], .agg #[vu, ve, vc]] X fun e w' => e = .returned (.bool (sameB U2 U && (sameB E2 E && sameB C2 C))) ∧ Below X.heap.size X w') := fun X hX => by
    obtain ⟨h1, h2, h3, h4, h5, h6⟩ := up X hX
    exact psamed_any xu xe xc vu ve vc U2 U E2 E C2 C X h4 h5 h6 h1 h2 h3
  have H4 : Hid (∀ X, Below W.heap.size W X → Calls Try.prog 28 #[.agg #[xu, xe, xc], .agg #[vu, ve, vc]] X fun e w' => e = .returned (.bool (sameB U2 U && (sameB E2 E && sameB C2 C))) ∧ Below X.heap.size X w') := fun X hX => by
    obtain ⟨h1, h2, h3, h4, h5, h6⟩ := up X hX
    exact rsamed_any xu xe xc vu ve vc U2 U E2 E C2 C X h4 h5 h6 h1 h2 h3
  obtain ⟨a1, c1', rfl, _⟩ := HU.shape
  obtain ⟨a2, c2', rfl, _⟩ := HE.shape
  obtain ⟨a3, c3', rfl, _⟩ := HC.shape
  obtain ⟨a4, c4', rfl, _⟩ := KU.shape
  obtain ⟨a5, c5', rfl, _⟩ := KE.shape
  obtain ⟨a6, c6', rfl, _⟩ := KC.shape
  clear up HU HE HC KU KE KC c0 c1 hb0
  generalize broadW 400 U E C = b1 at *
  generalize broadW 400 U2 E2 C2 = b2 at *
  generalize (sameB U U2 && (sameB E E2 && sameB C C2)) = bb at *
  generalize (sameB U2 U && (sameB E2 E && sameB C2 C)) = cc at *
  have d0 := HY.out W (Below.refl _ _)
  cases b1 with
  | true =>
    obtain ⟨y0, y1, y2, y3, y4, y5⟩ := d0
    go_enter Try.func4, Try.ntmps4
    go_upto_region 1 with fail
    go_wp2_with (first
      | (go_at_call 17; refine (HA.out W (Below.refl _ _)).mono ?_; rintro e w1 ⟨rfl, hb1⟩)
      | (go_at_call 18; refine (head_any w1).mono ?_; rintro e w2 ⟨rfl, hb2⟩))
    go_ret
    exact ⟨rfl, HB0.out.trans ((hb1.trans (hb2.mono hb1.size)).mono HB0.out.size)⟩
  | false =>
    obtain ⟨y0, y1, y2, y3, y4, y5⟩ := d0
    cases b2 with
    | true =>
      go_enter Try.func4, Try.ntmps4
      go_upto_region 1 with fail
      go_wp2_with (first
        | (go_at_call_of 17 (Value.slice a4 U2.length c4'); refine (HA2.out w1 hb1).mono ?_; rintro e w2 ⟨rfl, hb2⟩)
        | (go_at_call_of 17 (Value.slice a1 U.length c1'); refine (HA.out W (Below.refl _ _)).mono ?_; rintro e w1 ⟨rfl, hb1⟩; obtain ⟨v0, v1, v2, v3, v4, v5⟩ := HY.out w1 hb1)
        | (go_at_call 18; refine (head_any w2).mono ?_; rintro e w3 ⟨rfl, hb3⟩))
      go_ret
      exact ⟨rfl, HB0.out.trans ((hb1.trans ((hb2.trans (hb3.mono hb2.size)).mono hb1.size)).mono HB0.out.size)⟩
    | false =>
      have h4 : (bb = true ∨ bb = false) ∧ (cc = true ∨ cc = false) := by cases bb <;> cases cc <;> simp
      rcases h4 with ⟨rfl | rfl, rfl | rfl⟩
      all_goals
        go_enter Try.func4, Try.ntmps4
        go_upto_region 1 with fail
        go_wp2_with (first
          | (go_at_call_of 17 (Value.slice a4 U2.length c4'); refine (HA2.out w1 hb1).mono ?_; rintro e w2 ⟨rfl, hb2⟩)
          | (go_at_call_of 17 (Value.slice a1 U.length c1'); refine (HA.out W (Below.refl _ _)).mono ?_; rintro e w1 ⟨rfl, hb1⟩; obtain ⟨v0, v1, v2, v3, v4, v5⟩ := HY.out w1 hb1))

        have hW2 : Below W.heap.size W w2 := hb1.trans (hb2.mono hb1.size)
        clear hb1 hb2 v0 v1 v2 v3 v4 v5 y0 y1 y2 y3 y4 y5 HA HA2
        refine wp_region_held_drew (S := Below W.heap.size W) (by kernel_rfl) hW2.drew (fun hS0 => ?_)
        clear hW2
        generalize w2.drew = x0 at *
        refine takeW (i := 0) (v := .agg #[.slice a1 U.length c1', .slice a2 E.length c2', .slice a3 C.length c3']) (some 12) rfl rfl (by kernel_rfl) (by kernel_rfl) (by kernel_rfl) (fun _ _ _ h => h) (Or.inl ⟨by rfl, ?_⟩) (by assumption) ?_
        · intro wz hSw; obtain ⟨y0, y1, y2, y3, y4, y5⟩ := HY.out wz hSw; go_simp
        try simp only [Act.put, List.setIfInBounds_toArray, List.set_cons_zero, List.set_cons_succ]
        refine takeW (i := 1) (v := .agg #[.slice a4 U2.length c4', .slice a5 E2.length c5', .slice a6 C2.length c6']) (some 13) rfl rfl (by kernel_rfl) (by kernel_rfl) (by kernel_rfl) (fun _ _ _ h => h) (Or.inl ⟨by rfl, ?_⟩) (by assumption) ?_
        · intro wz hSw; obtain ⟨y0, y1, y2, y3, y4, y5⟩ := HY.out wz hSw; go_simp
        try simp only [Act.put, List.setIfInBounds_toArray, List.set_cons_zero, List.set_cons_succ]
        refine takeW (i := 3) (v := .agg #[.slice a1 U.length c1', .slice a2 E.length c2', .slice a3 C.length c3']) (some 15) rfl rfl (by kernel_rfl) (by kernel_rfl) (by kernel_rfl) (fun _ _ _ h => h) (Or.inl ⟨by rfl, ?_⟩) (by assumption) ?_
        · intro wz hSw; obtain ⟨y0, y1, y2, y3, y4, y5⟩ := HY.out wz hSw; go_simp
        try simp only [Act.put, List.setIfInBounds_toArray, List.set_cons_zero, List.set_cons_succ]
        refine takeW (i := 4) (v := .agg #[.slice a4 U2.length c4', .slice a5 E2.length c5', .slice a6 C2.length c6']) (some 16) rfl rfl (by kernel_rfl) (by kernel_rfl) (by kernel_rfl) (fun _ _ _ h => h) (Or.inl ⟨by rfl, ?_⟩) (by assumption) ?_
        · intro wz hSw; obtain ⟨y0, y1, y2, y3, y4, y5⟩ := HY.out wz hSw; go_simp
        try simp only [Act.put, List.setIfInBounds_toArray, List.set_cons_zero, List.set_cons_succ]
        refine wpAnyH_ready (rs := [2]) (by kernel_rfl) (by simp) ?_
        refine AllReadyH.cons rfl (fun K hK => ?_) AllReadyH.nil
        go_simp
        go_wp2_with (go_at_call 27; refine (H1.out _ hS0).mono ?_; rintro e x1 ⟨rfl, hbx1⟩)
        have hSx1 := hS0.trans (hbx1.mono hS0.size)
        refine hK.out _ _ hSx1 (fun _ => ?_)
        clear hK K
        refine wpAnyH_ready (rs := [5]) (by kernel_rfl) (by simp) ?_
        refine AllReadyH.cons rfl (fun K hK => ?_) AllReadyH.nil
        go_simp
        go_wp2_with (go_at_call 28; refine (H2.out _ hSx1).mono ?_; rintro e x2 ⟨rfl, hbx2⟩)
        have hSx2 := hSx1.trans (hbx2.mono hSx1.size)
        refine hK.out _ _ hSx2 (fun _ => ?_)
        clear hK K
        refine takeW (i := 6) (v := .bool true) (some 18) rfl rfl (by kernel_rfl) (by kernel_rfl) (by kernel_rfl) (fun _ _ _ h => h) (Or.inl ⟨by rfl, ?_⟩) (by assumption) ?_
        · intro wz hSw; obtain ⟨y0, y1, y2, y3, y4, y5⟩ := HY.out wz hSw; go_simp
        try simp only [Act.put, List.setIfInBounds_toArray, List.set_cons_zero, List.set_cons_succ]
        refine takeW (i := 7) (v := .bool true) (some 19) rfl rfl (by kernel_rfl) (by kernel_rfl) (by kernel_rfl) (fun _ _ _ h => h) (Or.inl ⟨by rfl, ?_⟩) (by assumption) ?_
        · intro wz hSw; obtain ⟨y0, y1, y2, y3, y4, y5⟩ := HY.out wz hSw; go_simp
        try simp only [Act.put, List.setIfInBounds_toArray, List.set_cons_zero, List.set_cons_succ]
        refine takeW (i := 8) (v := .agg #[.slice a4 U2.length c4', .slice a5 E2.length c5', .slice a6 C2.length c6']) (some 20) rfl rfl (by kernel_rfl) (by kernel_rfl) (by kernel_rfl) (fun _ _ _ h => h) (Or.inl ⟨by rfl, ?_⟩) (by assumption) ?_
        · intro wz hSw; obtain ⟨y0, y1, y2, y3, y4, y5⟩ := HY.out wz hSw; go_simp
        try simp only [Act.put, List.setIfInBounds_toArray, List.set_cons_zero, List.set_cons_succ]
        refine takeW (i := 9) (v := .agg #[.slice a1 U.length c1', .slice a2 E.length c2', .slice a3 C.length c3']) (some 21) rfl rfl (by kernel_rfl) (by kernel_rfl) (by kernel_rfl) (fun _ _ _ h => h) (Or.inl ⟨by rfl, ?_⟩) (by assumption) ?_
        · intro wz hSw; obtain ⟨y0, y1, y2, y3, y4, y5⟩ := HY.out wz hSw; go_simp
        try simp only [Act.put, List.setIfInBounds_toArray, List.set_cons_zero, List.set_cons_succ]
        refine takeW (i := 11) (v := .agg #[.slice a4 U2.length c4', .slice a5 E2.length c5', .slice a6 C2.length c6']) (some 23) rfl rfl (by kernel_rfl) (by kernel_rfl) (by kernel_rfl) (fun _ _ _ h => h) (Or.inl ⟨by rfl, ?_⟩) (by assumption) ?_
        · intro wz hSw; obtain ⟨y0, y1, y2, y3, y4, y5⟩ := HY.out wz hSw; go_simp
        try simp only [Act.put, List.setIfInBounds_toArray, List.set_cons_zero, List.set_cons_succ]
        refine takeW (i := 12) (v := .agg #[.slice a1 U.length c1', .slice a2 E.length c2', .slice a3 C.length c3']) (some 24) rfl rfl (by kernel_rfl) (by kernel_rfl) (by kernel_rfl) (fun _ _ _ h => h) (Or.inl ⟨by rfl, ?_⟩) (by assumption) ?_
        · intro wz hSw; obtain ⟨y0, y1, y2, y3, y4, y5⟩ := HY.out wz hSw; go_simp
        try simp only [Act.put, List.setIfInBounds_toArray, List.set_cons_zero, List.set_cons_succ]
        refine wpAnyH_ready (rs := [10]) (by kernel_rfl) (by simp) ?_
        refine AllReadyH.cons rfl (fun K hK => ?_) AllReadyH.nil
        go_simp
        go_wp2_with (go_at_call 27; refine (H3.out _ hSx2).mono ?_; rintro e x3 ⟨rfl, hbx3⟩)
        have hSx3 := hSx2.trans (hbx3.mono hSx2.size)
        refine hK.out _ _ hSx3 (fun _ => ?_)
        clear hK K
        refine wpAnyH_ready (rs := [13]) (by kernel_rfl) (by simp) ?_
        refine AllReadyH.cons rfl (fun K hK => ?_) AllReadyH.nil
        go_simp
        go_wp2_with (go_at_call 28; refine (H4.out _ hSx3).mono ?_; rintro e x4 ⟨rfl, hbx4⟩)
        have hSx4 := hSx3.trans (hbx4.mono hSx3.size)
        refine hK.out _ _ hSx4 (fun _ => ?_)
        clear hK K
        refine takeW (i := 14) (v := .bool true) (some 26) rfl rfl (by kernel_rfl) (by kernel_rfl) (by kernel_rfl) (fun _ _ _ h => h) (Or.inl ⟨by rfl, ?_⟩) (by assumption) ?_
        · intro wz hSw; obtain ⟨y0, y1, y2, y3, y4, y5⟩ := HY.out wz hSw; go_simp
        try simp only [Act.put, List.setIfInBounds_toArray, List.set_cons_zero, List.set_cons_succ]
        refine takeW (i := 15) (v := .bool true) (some 27) rfl rfl (by kernel_rfl) (by kernel_rfl) (by kernel_rfl) (fun _ _ _ h => h) (Or.inl ⟨by rfl, ?_⟩) (by assumption) ?_
        · intro wz hSw; obtain ⟨y0, y1, y2, y3, y4, y5⟩ := HY.out wz hSw; go_simp
        try simp only [Act.put, List.setIfInBounds_toArray, List.set_cons_zero, List.set_cons_succ]
        refine takeW (i := 16) (v := .bool true) (some 28) rfl rfl (by kernel_rfl) (by kernel_rfl) (by kernel_rfl) (fun _ _ _ h => h) (Or.inl ⟨by rfl, ?_⟩) (by assumption) ?_
        · intro wz hSw; obtain ⟨y0, y1, y2, y3, y4, y5⟩ := HY.out wz hSw; go_simp
        try simp only [Act.put, List.setIfInBounds_toArray, List.set_cons_zero, List.set_cons_succ]
        refine wpAnyH_ready (rs := [17]) (by kernel_rfl) (by simp) ?_
        refine AllReadyH.cons rfl (fun K hK => ?_) AllReadyH.nil
        go_simp
        go_wp2_with (go_at_call 18; refine (head_any _).mono ?_; rintro e x5 ⟨rfl, hbx5⟩)
        have hSx5 := hSx4.trans (hbx5.mono hSx4.size)
        refine hK.out _ _ hSx5 (fun _ => ?_)
        clear hK K
        refine takeW (i := 18) (v := .bool true) (some 30) rfl rfl (by kernel_rfl) (by kernel_rfl) (by kernel_rfl) (fun _ _ _ h => h) (Or.inl ⟨by rfl, ?_⟩) (by assumption) ?_
        · intro wz hSw; obtain ⟨y0, y1, y2, y3, y4, y5⟩ := HY.out wz hSw; go_simp
        try simp only [Act.put, List.setIfInBounds_toArray, List.set_cons_zero, List.set_cons_succ]
        refine takeW (i := 19) (v := .bool true) (some 4) rfl rfl (by kernel_rfl) (by kernel_rfl) (by kernel_rfl) (fun _ _ _ h => h) (Or.inl ⟨by rfl, ?_⟩) (by assumption) ?_
        · intro wz hSw; obtain ⟨y0, y1, y2, y3, y4, y5⟩ := HY.out wz hSw; go_simp
        try simp only [Act.put, List.setIfInBounds_toArray, List.set_cons_zero, List.set_cons_succ]
        refine wpAnyH_done (by kernel_rfl) ?_ _
        go_wp2
        go_ret
        exact ⟨rfl, HB0.out.trans (hSx5.mono HB0.out.size)⟩
end Go.Proofs.Ytfodafaclhoibaa
