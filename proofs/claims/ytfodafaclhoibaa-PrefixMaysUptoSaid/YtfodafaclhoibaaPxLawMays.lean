/- The law PrefixMays, walked. -/
import Derived.Test.YtfodafaclhoibaaPxHeadB
import Derived.Test.YtfodafaclhoibaaPxLawReds
import Derived.Test.YtfodafaclhoibaaPxRMayQ
import Derived.Test.YtfodafaclhoibaaPxRMayD
import Derived.Test.YtfodafaclhoibaaMpM
namespace Go.Proofs.Ytfodafaclhoibaa
open Go.RowKit
set_option linter.unusedVariables false
set_option linter.unusedSimpArgs false

theorem totT_flat {α : Type} (p : List (α × List Int)) : totT p = (flatB p).length := (flat_totT p).symm

set_option maxRecDepth 100000 in
set_option maxHeartbeats 6400000 in
theorem mays_any (vp qp qc' vu ve vc : Value) (p P : List Blk) (C2 : List (List Int)) (U : List Int) (E : List (Int × List Int)) (C : List (List Int)) (w : World)
    (HP : IsBlocks w vp p) (HQ : IsBlocks w qp P) (HR : IsRows w qc' C2) (HU : IsInts w vu U) (HE : IsDeps w ve E) (HC : IsRows w vc C) (h64e : In64 (exOf E))
    (hp : p.length + totT p ≤ 4000000) (hq : P.length + totT P + (C2.length + tot C2) ≤ 4000000) (hd : U.length + E.length + totT E + (C.length + tot C) ≤ 4000000) :
    Calls Try.prog 3 #[vp, .agg #[qp, qc'], .agg #[vu, ve, vc]] w fun e w' => e = .returned (.bool true) ∧ Below w.heap.size w w' := by
  obtain ⟨W, hW⟩ : ∃ W, (w.alloc (.cells #[qp, qc'] 25)).alloc (.cells #[vu, ve, vc] 29) = W := ⟨_, rfl⟩
  have hb0 : Below w.heap.size w W := by rw [← hW]; exact ((Below.refl w.heap.size w).alloc (Nat.le_refl _) _).alloc (by simp) _
  have hz : W.heap.size = w.heap.size + 2 := by rw [← hW]; simp
  have c0 : ∀ i v, (#[qp, qc'] : Array Value)[i]? = some v → W.cell? ⟨w.heap.size, i, none⟩ = some v := fun i v h => by rw [← hW]; exact cell_old (cell_fresh h)
  have c1 : ∀ i v, (#[vu, ve, vc] : Array Value)[i]? = some v → W.cell? ⟨w.heap.size + 1, i, none⟩ = some v := fun i v h => by rw [← hW]; exact cell_fresh2 h
  have HY : Hid (∀ X, Below W.heap.size W X → X.cell? ⟨w.heap.size, 0, none⟩ = some qp ∧ X.cell? ⟨w.heap.size, 1, none⟩ = some qc' ∧ X.cell? ⟨w.heap.size + 1, 0, none⟩ = some vu ∧ X.cell? ⟨w.heap.size + 1, 1, none⟩ = some ve ∧ X.cell? ⟨w.heap.size + 1, 2, none⟩ = some vc) := fun X hX =>
    ⟨(hX.cell (p := ⟨w.heap.size, 0, none⟩) (by simp; omega)).trans (c0 0 _ rfl), (hX.cell (p := ⟨w.heap.size, 1, none⟩) (by simp; omega)).trans (c0 1 _ rfl), (hX.cell (p := ⟨w.heap.size + 1, 0, none⟩) (by simp; omega)).trans (c1 0 _ rfl), (hX.cell (p := ⟨w.heap.size + 1, 1, none⟩) (by simp; omega)).trans (c1 1 _ rfl), (hX.cell (p := ⟨w.heap.size + 1, 2, none⟩) (by simp; omega)).trans (c1 2 _ rfl)⟩
  have HB0 := Lib.hid hb0
  have up : ∀ X, Below W.heap.size W X → IsBlocks X vp p ∧ IsBlocks X qp P ∧ IsRows X qc' C2 ∧ IsInts X vu U ∧ IsDeps X ve E ∧ IsRows X vc C := fun X hX => by
    have h := hb0.trans (hX.mono hb0.size)
    exact ⟨HP.below h (Nat.le_refl _), HQ.below h (Nat.le_refl _), HR.below h (Nat.le_refl _), HU.below h (Nat.le_refl _), HE.below h (Nat.le_refl _), HC.below h (Nat.le_refl _)⟩
  have i64p := blocks_i64 HP
  have i64q := blocks_i64 HQ
  have W1 : Hid (∀ X, Below W.heap.size W X → Calls Try.prog 16 #[vp, .slice none 0 0, .int .i64 1600] X fun e w' => e = .returned (.bool (wideB 1600 p [])) ∧ X = w') := fun X hX => wide_any vp (.slice none 0 0) p [] 1600 X (up X hX).1 (IsRows.nil X) (by simp [tot]; omega)
  have W2 : Hid (∀ X, Below W.heap.size W X → Calls Try.prog 16 #[qp, qc', .int .i64 1600] X fun e w' => e = .returned (.bool (wideB 1600 P C2)) ∧ X = w') := fun X hX => wide_any qp qc' P C2 1600 X (up X hX).2.1 (up X hX).2.2.1 (by omega)
  have W3 : Hid (∀ X, Below W.heap.size W X → Calls Try.prog 17 #[.agg #[vu, ve, vc], .int .i64 1600] X fun e w' => e = .returned (.bool (broadB 1600 U E C)) ∧ Below X.heap.size X w') := fun X hX => by
    obtain ⟨_, _, _, h1, h2, h3⟩ := up X hX
    exact broad_any vu ve vc U E C 1600 X h1 h2 h3 hd
  have H1 : Hid (∀ X, Below W.heap.size W X → Calls Try.prog 19 #[vp] X fun e w' => e = .returned (.bool (mayP p)) ∧ Below X.heap.size X w') := fun X hX => pmay_any vp p X (up X hX).1 (by omega)
  have H2 : Hid (∀ X, Below W.heap.size W X → Calls Try.prog 20 #[vp] X fun e w' => e = .returned (.bool (mayP p)) ∧ Below X.heap.size X w') := fun X hX => rmay_any vp p X (up X hX).1 (by omega) (by rw [flat_totT]; omega) i64p
  have H3 : Hid (∀ X, Below W.heap.size W X → Calls Try.prog 21 #[.agg #[qp, qc']] X fun e w' => e = .returned (.bool (mayQB P C2)) ∧ Below X.heap.size X w') := fun X hX => pmayq_any qp qc' P C2 X (up X hX).2.1 (up X hX).2.2.1 (by omega)
  have H4 : Hid (∀ X, Below W.heap.size W X → Calls Try.prog 22 #[.agg #[qp, qc']] X fun e w' => e = .returned (.bool (mayQB P C2)) ∧ Below X.heap.size X w') := fun X hX => rmayq_any qp qc' P C2 X (up X hX).2.1 (up X hX).2.2.1 (by omega) (by rw [flat_totT]; omega) i64q (by omega)
  have H5 : Hid (∀ X, Below W.heap.size W X → Calls Try.prog 23 #[.agg #[vu, ve, vc]] X fun e w' => e = .returned (.bool (mayDB U E C)) ∧ Below X.heap.size X w') := fun X hX => by
    obtain ⟨_, _, _, h1, h2, h3⟩ := up X hX
    exact pmayd_any vu ve vc U E C X h1 h2 h3 h64e
  have H6 : Hid (∀ X, Below W.heap.size W X → Calls Try.prog 24 #[.agg #[vu, ve, vc]] X fun e w' => e = .returned (.bool (mayDB U E C)) ∧ Below X.heap.size X w') := fun X hX => by
    obtain ⟨_, _, _, h1, h2, h3⟩ := up X hX
    exact rmayd_any vu ve vc U E C X h1 h2 h3 (by omega) (by omega) h64e
  have H7 : Hid (∀ X, Below W.heap.size W X → Calls Try.prog 25 #[vp, qp] X fun e w' => e = .returned (.bool (sameB p P)) ∧ Below X.heap.size X w') := fun X hX => psame_any vp qp p P X (up X hX).1 (up X hX).2.1
  have H8 : Hid (∀ X, Below W.heap.size W X → Calls Try.prog 26 #[vp, qp] X fun e w' => e = .returned (.bool (sameB p P)) ∧ Below X.heap.size X w') := fun X hX => (rsame_any vp qp p P X (up X hX).1 (up X hX).2.1).mono fun e w' h => ⟨h.1, h.2.below _⟩
  have H9 : Hid (∀ X, Below W.heap.size W X → Calls Try.prog 25 #[vp, vp] X fun e w' => e = .returned (.bool true) ∧ Below X.heap.size X w') := fun X hX => (psame_any vp vp p p X (up X hX).1 (up X hX).1).mono fun e w' h => ⟨by rw [h.1]; simp [sameB], h.2⟩
  have HA : Hid (∀ X, Below W.heap.size W X → Calls Try.prog 27 #[.agg #[vu, ve, vc], .agg #[vu, ve, vc]] X fun e w' => e = .returned (.bool true) ∧ Below X.heap.size X w') := fun X hX => by
    obtain ⟨_, _, _, h1, h2, h3⟩ := up X hX
    exact (psamed_any vu ve vc vu ve vc U U E E C C X h1 h2 h3 h1 h2 h3).mono fun e w' h => ⟨by rw [h.1]; simp [sameB], h.2⟩
  have HH : Hid (∀ X, Below W.heap.size W X → Calls Try.prog 18 #[] X fun e w' => e = .returned (.bool true) ∧ Below X.heap.size X w') := fun X _ => head_any X
  obtain ⟨pa, pc, rfl, _⟩ := HP.shape
  obtain ⟨qa, qc, rfl, _⟩ := HQ.shape
  obtain ⟨ra, rc, rfl, _⟩ := HR.shape
  obtain ⟨a1, k1, rfl, _⟩ := HU.shape
  obtain ⟨a2, k2, rfl, _⟩ := HE.shape
  obtain ⟨a3, k3, rfl, _⟩ := HC.shape
  clear up HP HQ HR HU HE HC c0 c1 hb0 i64p i64q h64e hp hq hd
  generalize wideB 1600 p [] = b1 at *
  generalize wideB 1600 P C2 = b2 at *
  generalize broadB 1600 U E C = b3 at *
  generalize mayP p = m1 at *
  generalize mayQB P C2 = m2 at *
  generalize mayDB U E C = m3 at *
  generalize sameB p P = m4 at *
  obtain ⟨y0, y1, y2, y3, y4⟩ := HY.out W (Below.refl _ _)
  cases b1 with
  | true =>
    go_enter Try.func3, Try.ntmps3
    go_wp2_with (first
      | (go_at_call 16; refine (W1.out W (Below.refl _ _)).mono ?_; rintro e w1 ⟨rfl, rfl⟩)
      | (go_at_call 18; refine (head_any _).mono ?_; rintro e w2 ⟨rfl, hb2⟩))
    go_ret
    exact ⟨rfl, HB0.out.trans (hb2.mono HB0.out.size)⟩
  | false =>
    cases b2 with
    | true =>
      go_enter Try.func3, Try.ntmps3
      go_wp2_with (first
        | (go_at_call_of 16 (Value.slice ra C2.length rc); refine (W2.out W (Below.refl _ _)).mono ?_; rintro e w1 ⟨rfl, rfl⟩)
        | (go_at_call_of 16 (Value.slice none 0 0); refine (W1.out W (Below.refl _ _)).mono ?_; rintro e w1 ⟨rfl, rfl⟩)
        | (go_at_call 18; refine (head_any _).mono ?_; rintro e w2 ⟨rfl, hb2⟩))
      go_ret
      exact ⟨rfl, HB0.out.trans (hb2.mono HB0.out.size)⟩
    | false =>
      cases b3 with
      | true =>
        go_enter Try.func3, Try.ntmps3
        go_wp2_with (first
          | (go_at_call_of 16 (Value.slice ra C2.length rc); refine (W2.out W (Below.refl _ _)).mono ?_; rintro e w1 ⟨rfl, rfl⟩)
          | (go_at_call_of 16 (Value.slice none 0 0); refine (W1.out W (Below.refl _ _)).mono ?_; rintro e w1 ⟨rfl, rfl⟩)
          | (go_at_call 17; refine (W3.out W (Below.refl _ _)).mono ?_; rintro e w1 ⟨rfl, hb1⟩)
          | (go_at_call 18; refine (head_any _).mono ?_; rintro e w2 ⟨rfl, hb2⟩))
        go_ret
        exact ⟨rfl, HB0.out.trans ((hb1.trans (hb2.mono hb1.size)).mono HB0.out.size)⟩
      | false =>
        go_enter Try.func3, Try.ntmps3
        go_upto_region 3 with (first
          | (go_at_call_of 16 (Value.slice ra C2.length rc); refine (W2.out W (Below.refl _ _)).mono ?_; rintro e w1 ⟨rfl, rfl⟩)
          | (go_at_call_of 16 (Value.slice none 0 0); refine (W1.out W (Below.refl _ _)).mono ?_; rintro e w1 ⟨rfl, rfl⟩)
          | (go_at_call 17; refine (W3.out W (Below.refl _ _)).mono ?_; rintro e w1 ⟨rfl, hb1⟩))
        clear y0 y1 y2 y3 y4 W1 W2 W3
        refine wp_region_held_drew (S := Below W.heap.size W) (by kernel_rfl) hb1.drew (fun hS0 => ?_)
        clear hb1
        generalize w1.drew = x0 at *
        · refine takeW (i := 0) (v := .slice pa p.length pc) (some 22) rfl rfl (by kernel_rfl) (by kernel_rfl) (by kernel_rfl) (fun _ _ _ h => h) (Or.inl ⟨by rfl, ?_⟩) (by assumption) ?_
          · intro wz hSw; obtain ⟨y0, y1, y2, y3, y4⟩ := HY.out wz hSw; go_simp
          try simp only [Act.put, List.setIfInBounds_toArray, List.set_cons_zero, List.set_cons_succ]
          refine takeW (i := 2) (v := .slice pa p.length pc) (some 24) rfl rfl (by kernel_rfl) (by kernel_rfl) (by kernel_rfl) (fun _ _ _ h => h) (Or.inl ⟨by rfl, ?_⟩) (by assumption) ?_
          · intro wz hSw; obtain ⟨y0, y1, y2, y3, y4⟩ := HY.out wz hSw; go_simp
          try simp only [Act.put, List.setIfInBounds_toArray, List.set_cons_zero, List.set_cons_succ]
          refine wpAnyH_ready (rs := [1]) (by kernel_rfl) (by simp) ?_
          refine AllReadyH.cons rfl (fun K hK => ?_) AllReadyH.nil
          go_simp
          go_wp2_with (go_at_call 19; refine (H1.out _ hS0).mono ?_; rintro e x1 ⟨rfl, hb1⟩)
          have hS1 := hS0.trans (hb1.mono hS0.size)
          refine hK.out _ _ hS1 (fun _ => ?_)
          clear hK K
          refine wpAnyH_ready (rs := [3]) (by kernel_rfl) (by simp) ?_
          refine AllReadyH.cons rfl (fun K hK => ?_) AllReadyH.nil
          go_simp
          go_wp2_with (go_at_call 20; refine (H2.out _ hS1).mono ?_; rintro e x2 ⟨rfl, hb2⟩)
          have hS2 := hS1.trans (hb2.mono hS1.size)
          refine hK.out _ _ hS2 (fun _ => ?_)
          clear hK K
          refine takeW (i := 4) (v := .bool true) (some 26) rfl rfl (by kernel_rfl) (by kernel_rfl) (by kernel_rfl) (fun _ _ _ h => h) (Or.inl ⟨by rfl, ?_⟩) (by assumption) ?_
          · intro wz hSw; obtain ⟨y0, y1, y2, y3, y4⟩ := HY.out wz hSw; go_simp
          try simp only [Act.put, List.setIfInBounds_toArray, List.set_cons_zero, List.set_cons_succ]
          refine takeW (i := 5) (v := .bool true) (some 27) rfl rfl (by kernel_rfl) (by kernel_rfl) (by kernel_rfl) (fun _ _ _ h => h) (Or.inl ⟨by rfl, ?_⟩) (by assumption) ?_
          · intro wz hSw; obtain ⟨y0, y1, y2, y3, y4⟩ := HY.out wz hSw; go_simp
          try simp only [Act.put, List.setIfInBounds_toArray, List.set_cons_zero, List.set_cons_succ]
          refine takeW (i := 6) (v := .agg #[.slice qa P.length qc, .slice ra C2.length rc]) (some 28) rfl rfl (by kernel_rfl) (by kernel_rfl) (by kernel_rfl) (fun _ _ _ h => h) (Or.inl ⟨by rfl, ?_⟩) (by assumption) ?_
          · intro wz hSw; obtain ⟨y0, y1, y2, y3, y4⟩ := HY.out wz hSw; go_simp
          try simp only [Act.put, List.setIfInBounds_toArray, List.set_cons_zero, List.set_cons_succ]
          refine takeW (i := 8) (v := .agg #[.slice qa P.length qc, .slice ra C2.length rc]) (some 30) rfl rfl (by kernel_rfl) (by kernel_rfl) (by kernel_rfl) (fun _ _ _ h => h) (Or.inl ⟨by rfl, ?_⟩) (by assumption) ?_
          · intro wz hSw; obtain ⟨y0, y1, y2, y3, y4⟩ := HY.out wz hSw; go_simp
          try simp only [Act.put, List.setIfInBounds_toArray, List.set_cons_zero, List.set_cons_succ]
          refine wpAnyH_ready (rs := [7]) (by kernel_rfl) (by simp) ?_
          refine AllReadyH.cons rfl (fun K hK => ?_) AllReadyH.nil
          go_simp
          go_wp2_with (go_at_call 21; refine (H3.out _ hS2).mono ?_; rintro e x3 ⟨rfl, hb3⟩)
          have hS3 := hS2.trans (hb3.mono hS2.size)
          refine hK.out _ _ hS3 (fun _ => ?_)
          clear hK K
          refine wpAnyH_ready (rs := [9]) (by kernel_rfl) (by simp) ?_
          refine AllReadyH.cons rfl (fun K hK => ?_) AllReadyH.nil
          go_simp
          go_wp2_with (go_at_call 22; refine (H4.out _ hS3).mono ?_; rintro e x4 ⟨rfl, hb4⟩)
          have hS4 := hS3.trans (hb4.mono hS3.size)
          refine hK.out _ _ hS4 (fun _ => ?_)
          clear hK K
          refine takeW (i := 10) (v := .bool true) (some 32) rfl rfl (by kernel_rfl) (by kernel_rfl) (by kernel_rfl) (fun _ _ _ h => h) (Or.inl ⟨by rfl, ?_⟩) (by assumption) ?_
          · intro wz hSw; obtain ⟨y0, y1, y2, y3, y4⟩ := HY.out wz hSw; go_simp
          try simp only [Act.put, List.setIfInBounds_toArray, List.set_cons_zero, List.set_cons_succ]
          refine takeW (i := 11) (v := .bool true) (some 33) rfl rfl (by kernel_rfl) (by kernel_rfl) (by kernel_rfl) (fun _ _ _ h => h) (Or.inl ⟨by rfl, ?_⟩) (by assumption) ?_
          · intro wz hSw; obtain ⟨y0, y1, y2, y3, y4⟩ := HY.out wz hSw; go_simp
          try simp only [Act.put, List.setIfInBounds_toArray, List.set_cons_zero, List.set_cons_succ]
          refine takeW (i := 12) (v := .bool true) (some 34) rfl rfl (by kernel_rfl) (by kernel_rfl) (by kernel_rfl) (fun _ _ _ h => h) (Or.inl ⟨by rfl, ?_⟩) (by assumption) ?_
          · intro wz hSw; obtain ⟨y0, y1, y2, y3, y4⟩ := HY.out wz hSw; go_simp
          try simp only [Act.put, List.setIfInBounds_toArray, List.set_cons_zero, List.set_cons_succ]
          refine takeW (i := 13) (v := .agg #[.slice a1 U.length k1, .slice a2 E.length k2, .slice a3 C.length k3]) (some 35) rfl rfl (by kernel_rfl) (by kernel_rfl) (by kernel_rfl) (fun _ _ _ h => h) (Or.inl ⟨by rfl, ?_⟩) (by assumption) ?_
          · intro wz hSw; obtain ⟨y0, y1, y2, y3, y4⟩ := HY.out wz hSw; go_simp
          try simp only [Act.put, List.setIfInBounds_toArray, List.set_cons_zero, List.set_cons_succ]
          refine takeW (i := 15) (v := .agg #[.slice a1 U.length k1, .slice a2 E.length k2, .slice a3 C.length k3]) (some 37) rfl rfl (by kernel_rfl) (by kernel_rfl) (by kernel_rfl) (fun _ _ _ h => h) (Or.inl ⟨by rfl, ?_⟩) (by assumption) ?_
          · intro wz hSw; obtain ⟨y0, y1, y2, y3, y4⟩ := HY.out wz hSw; go_simp
          try simp only [Act.put, List.setIfInBounds_toArray, List.set_cons_zero, List.set_cons_succ]
          refine wpAnyH_ready (rs := [14]) (by kernel_rfl) (by simp) ?_
          refine AllReadyH.cons rfl (fun K hK => ?_) AllReadyH.nil
          go_simp
          go_wp2_with (go_at_call 23; refine (H5.out _ hS4).mono ?_; rintro e x5 ⟨rfl, hb5⟩)
          have hS5 := hS4.trans (hb5.mono hS4.size)
          refine hK.out _ _ hS5 (fun _ => ?_)
          clear hK K
          refine wpAnyH_ready (rs := [16]) (by kernel_rfl) (by simp) ?_
          refine AllReadyH.cons rfl (fun K hK => ?_) AllReadyH.nil
          go_simp
          go_wp2_with (go_at_call 24; refine (H6.out _ hS5).mono ?_; rintro e x6 ⟨rfl, hb6⟩)
          have hS6 := hS5.trans (hb6.mono hS5.size)
          refine hK.out _ _ hS6 (fun _ => ?_)
          clear hK K
          refine takeW (i := 17) (v := .bool true) (some 39) rfl rfl (by kernel_rfl) (by kernel_rfl) (by kernel_rfl) (fun _ _ _ h => h) (Or.inl ⟨by rfl, ?_⟩) (by assumption) ?_
          · intro wz hSw; obtain ⟨y0, y1, y2, y3, y4⟩ := HY.out wz hSw; go_simp
          try simp only [Act.put, List.setIfInBounds_toArray, List.set_cons_zero, List.set_cons_succ]
          refine takeW (i := 18) (v := .bool true) (some 40) rfl rfl (by kernel_rfl) (by kernel_rfl) (by kernel_rfl) (fun _ _ _ h => h) (Or.inl ⟨by rfl, ?_⟩) (by assumption) ?_
          · intro wz hSw; obtain ⟨y0, y1, y2, y3, y4⟩ := HY.out wz hSw; go_simp
          try simp only [Act.put, List.setIfInBounds_toArray, List.set_cons_zero, List.set_cons_succ]
          refine takeW (i := 19) (v := .bool true) (some 7) rfl rfl (by kernel_rfl) (by kernel_rfl) (by kernel_rfl) (fun _ _ _ h => h) (Or.inl ⟨by rfl, ?_⟩) (by assumption) ?_
          · intro wz hSw; obtain ⟨y0, y1, y2, y3, y4⟩ := HY.out wz hSw; go_simp
          try simp only [Act.put, List.setIfInBounds_toArray, List.set_cons_zero, List.set_cons_succ]
          refine wpAnyH_done (by kernel_rfl) ?_ _
          go_upto_region 4 with fail
          refine wp_region_held_drew (S := Below W.heap.size W) (by kernel_rfl) (hS6).drew (fun hT0 => ?_)
          refine takeW (i := 0) (v := .bool true) (some 41) rfl rfl (by kernel_rfl) (by kernel_rfl) (by kernel_rfl) (fun _ _ _ h => h) (Or.inl ⟨by rfl, ?_⟩) (by assumption) ?_
          · intro wz hSw; obtain ⟨y0, y1, y2, y3, y4⟩ := HY.out wz hSw; go_simp
          try simp only [Act.put, List.setIfInBounds_toArray, List.set_cons_zero, List.set_cons_succ]
          refine takeW (i := 1) (v := .bool true) (some 42) rfl rfl (by kernel_rfl) (by kernel_rfl) (by kernel_rfl) (fun _ _ _ h => h) (Or.inl ⟨by rfl, ?_⟩) (by assumption) ?_
          · intro wz hSw; obtain ⟨y0, y1, y2, y3, y4⟩ := HY.out wz hSw; go_simp
          try simp only [Act.put, List.setIfInBounds_toArray, List.set_cons_zero, List.set_cons_succ]
          refine takeW (i := 2) (v := .slice pa p.length pc) (some 43) rfl rfl (by kernel_rfl) (by kernel_rfl) (by kernel_rfl) (fun _ _ _ h => h) (Or.inl ⟨by rfl, ?_⟩) (by assumption) ?_
          · intro wz hSw; obtain ⟨y0, y1, y2, y3, y4⟩ := HY.out wz hSw; go_simp
          try simp only [Act.put, List.setIfInBounds_toArray, List.set_cons_zero, List.set_cons_succ]
          refine takeW (i := 3) (v := .pointer (some ⟨w.heap.size, 0, none⟩)) (some 44) rfl rfl (by kernel_rfl) (by kernel_rfl) (by kernel_rfl) (fun _ _ _ h => h) (Or.inl ⟨by rfl, ?_⟩) (by assumption) ?_
          · intro wz hSw; obtain ⟨y0, y1, y2, y3, y4⟩ := HY.out wz hSw; go_simp
          try simp only [Act.put, List.setIfInBounds_toArray, List.set_cons_zero, List.set_cons_succ]
          refine takeW (i := 4) (v := .slice qa P.length qc) (some 45) rfl rfl (by kernel_rfl) (by kernel_rfl) (by kernel_rfl) (fun _ _ _ h => h) (Or.inl ⟨by rfl, ?_⟩) (by assumption) ?_
          · intro wz hSw; obtain ⟨y0, y1, y2, y3, y4⟩ := HY.out wz hSw; go_simp
          try simp only [Act.put, List.setIfInBounds_toArray, List.set_cons_zero, List.set_cons_succ]
          refine takeW (i := 6) (v := .slice pa p.length pc) (some 47) rfl rfl (by kernel_rfl) (by kernel_rfl) (by kernel_rfl) (fun _ _ _ h => h) (Or.inl ⟨by rfl, ?_⟩) (by assumption) ?_
          · intro wz hSw; obtain ⟨y0, y1, y2, y3, y4⟩ := HY.out wz hSw; go_simp
          try simp only [Act.put, List.setIfInBounds_toArray, List.set_cons_zero, List.set_cons_succ]
          refine takeW (i := 7) (v := .pointer (some ⟨w.heap.size, 0, none⟩)) (some 48) rfl rfl (by kernel_rfl) (by kernel_rfl) (by kernel_rfl) (fun _ _ _ h => h) (Or.inl ⟨by rfl, ?_⟩) (by assumption) ?_
          · intro wz hSw; obtain ⟨y0, y1, y2, y3, y4⟩ := HY.out wz hSw; go_simp
          try simp only [Act.put, List.setIfInBounds_toArray, List.set_cons_zero, List.set_cons_succ]
          refine takeW (i := 8) (v := .slice qa P.length qc) (some 49) rfl rfl (by kernel_rfl) (by kernel_rfl) (by kernel_rfl) (fun _ _ _ h => h) (Or.inl ⟨by rfl, ?_⟩) (by assumption) ?_
          · intro wz hSw; obtain ⟨y0, y1, y2, y3, y4⟩ := HY.out wz hSw; go_simp
          try simp only [Act.put, List.setIfInBounds_toArray, List.set_cons_zero, List.set_cons_succ]
          refine wpAnyH_ready (rs := [5]) (by kernel_rfl) (by simp) ?_
          refine AllReadyH.cons rfl (fun K hK => ?_) AllReadyH.nil
          go_simp
          go_wp2_with (go_at_call 25; refine (H7.out _ hT0).mono ?_; rintro e x7 ⟨rfl, hb7⟩)
          have hS7 := hT0.trans (hb7.mono hT0.size)
          refine hK.out _ _ hS7 (fun _ => ?_)
          clear hK K
          refine wpAnyH_ready (rs := [9]) (by kernel_rfl) (by simp) ?_
          refine AllReadyH.cons rfl (fun K hK => ?_) AllReadyH.nil
          go_simp
          go_wp2_with (go_at_call 26; refine (H8.out _ hS7).mono ?_; rintro e x8 ⟨rfl, hb8⟩)
          have hS8 := hS7.trans (hb8.mono hS7.size)
          refine hK.out _ _ hS8 (fun _ => ?_)
          clear hK K
          refine takeW (i := 10) (v := .bool true) (some 51) rfl rfl (by kernel_rfl) (by kernel_rfl) (by kernel_rfl) (fun _ _ _ h => h) (Or.inl ⟨by rfl, ?_⟩) (by assumption) ?_
          · intro wz hSw; obtain ⟨y0, y1, y2, y3, y4⟩ := HY.out wz hSw; go_simp
          try simp only [Act.put, List.setIfInBounds_toArray, List.set_cons_zero, List.set_cons_succ]
          refine takeW (i := 11) (v := .bool true) (some 52) rfl rfl (by kernel_rfl) (by kernel_rfl) (by kernel_rfl) (fun _ _ _ h => h) (Or.inl ⟨by rfl, ?_⟩) (by assumption) ?_
          · intro wz hSw; obtain ⟨y0, y1, y2, y3, y4⟩ := HY.out wz hSw; go_simp
          try simp only [Act.put, List.setIfInBounds_toArray, List.set_cons_zero, List.set_cons_succ]
          refine takeW (i := 12) (v := .bool true) (some 53) rfl rfl (by kernel_rfl) (by kernel_rfl) (by kernel_rfl) (fun _ _ _ h => h) (Or.inl ⟨by rfl, ?_⟩) (by assumption) ?_
          · intro wz hSw; obtain ⟨y0, y1, y2, y3, y4⟩ := HY.out wz hSw; go_simp
          try simp only [Act.put, List.setIfInBounds_toArray, List.set_cons_zero, List.set_cons_succ]
          refine takeW (i := 13) (v := .slice pa p.length pc) (some 54) rfl rfl (by kernel_rfl) (by kernel_rfl) (by kernel_rfl) (fun _ _ _ h => h) (Or.inl ⟨by rfl, ?_⟩) (by assumption) ?_
          · intro wz hSw; obtain ⟨y0, y1, y2, y3, y4⟩ := HY.out wz hSw; go_simp
          try simp only [Act.put, List.setIfInBounds_toArray, List.set_cons_zero, List.set_cons_succ]
          refine takeW (i := 14) (v := .slice pa p.length pc) (some 55) rfl rfl (by kernel_rfl) (by kernel_rfl) (by kernel_rfl) (fun _ _ _ h => h) (Or.inl ⟨by rfl, ?_⟩) (by assumption) ?_
          · intro wz hSw; obtain ⟨y0, y1, y2, y3, y4⟩ := HY.out wz hSw; go_simp
          try simp only [Act.put, List.setIfInBounds_toArray, List.set_cons_zero, List.set_cons_succ]
          refine wpAnyH_ready (rs := [15]) (by kernel_rfl) (by simp) ?_
          refine AllReadyH.cons rfl (fun K hK => ?_) AllReadyH.nil
          go_simp
          go_wp2_with (go_at_call 25; refine (H9.out _ hS8).mono ?_; rintro e x9 ⟨rfl, hb9⟩)
          have hS9 := hS8.trans (hb9.mono hS8.size)
          refine hK.out _ _ hS9 (fun _ => ?_)
          clear hK K
          refine takeW (i := 16) (v := .bool true) (some 57) rfl rfl (by kernel_rfl) (by kernel_rfl) (by kernel_rfl) (fun _ _ _ h => h) (Or.inl ⟨by rfl, ?_⟩) (by assumption) ?_
          · intro wz hSw; obtain ⟨y0, y1, y2, y3, y4⟩ := HY.out wz hSw; go_simp
          try simp only [Act.put, List.setIfInBounds_toArray, List.set_cons_zero, List.set_cons_succ]
          refine takeW (i := 17) (v := .bool true) (some 58) rfl rfl (by kernel_rfl) (by kernel_rfl) (by kernel_rfl) (fun _ _ _ h => h) (Or.inl ⟨by rfl, ?_⟩) (by assumption) ?_
          · intro wz hSw; obtain ⟨y0, y1, y2, y3, y4⟩ := HY.out wz hSw; go_simp
          try simp only [Act.put, List.setIfInBounds_toArray, List.set_cons_zero, List.set_cons_succ]
          refine takeW (i := 18) (v := .agg #[.slice a1 U.length k1, .slice a2 E.length k2, .slice a3 C.length k3]) (some 59) rfl rfl (by kernel_rfl) (by kernel_rfl) (by kernel_rfl) (fun _ _ _ h => h) (Or.inl ⟨by rfl, ?_⟩) (by assumption) ?_
          · intro wz hSw; obtain ⟨y0, y1, y2, y3, y4⟩ := HY.out wz hSw; go_simp
          try simp only [Act.put, List.setIfInBounds_toArray, List.set_cons_zero, List.set_cons_succ]
          refine takeW (i := 19) (v := .agg #[.slice a1 U.length k1, .slice a2 E.length k2, .slice a3 C.length k3]) (some 60) rfl rfl (by kernel_rfl) (by kernel_rfl) (by kernel_rfl) (fun _ _ _ h => h) (Or.inl ⟨by rfl, ?_⟩) (by assumption) ?_
          · intro wz hSw; obtain ⟨y0, y1, y2, y3, y4⟩ := HY.out wz hSw; go_simp
          try simp only [Act.put, List.setIfInBounds_toArray, List.set_cons_zero, List.set_cons_succ]
          refine wpAnyH_ready (rs := [20]) (by kernel_rfl) (by simp) ?_
          refine AllReadyH.cons rfl (fun K hK => ?_) AllReadyH.nil
          go_simp
          go_wp2_with (go_at_call 27; refine (HA.out _ hS9).mono ?_; rintro e x10 ⟨rfl, hb10⟩)
          have hS10 := hS9.trans (hb10.mono hS9.size)
          refine hK.out _ _ hS10 (fun _ => ?_)
          clear hK K
          refine takeW (i := 21) (v := .bool true) (some 62) rfl rfl (by kernel_rfl) (by kernel_rfl) (by kernel_rfl) (fun _ _ _ h => h) (Or.inl ⟨by rfl, ?_⟩) (by assumption) ?_
          · intro wz hSw; obtain ⟨y0, y1, y2, y3, y4⟩ := HY.out wz hSw; go_simp
          try simp only [Act.put, List.setIfInBounds_toArray, List.set_cons_zero, List.set_cons_succ]
          refine takeW (i := 22) (v := .bool true) (some 63) rfl rfl (by kernel_rfl) (by kernel_rfl) (by kernel_rfl) (fun _ _ _ h => h) (Or.inl ⟨by rfl, ?_⟩) (by assumption) ?_
          · intro wz hSw; obtain ⟨y0, y1, y2, y3, y4⟩ := HY.out wz hSw; go_simp
          try simp only [Act.put, List.setIfInBounds_toArray, List.set_cons_zero, List.set_cons_succ]
          refine wpAnyH_ready (rs := [23]) (by kernel_rfl) (by simp) ?_
          refine AllReadyH.cons rfl (fun K hK => ?_) AllReadyH.nil
          go_simp
          go_wp2_with (go_at_call 18; refine (HH.out _ hS10).mono ?_; rintro e x11 ⟨rfl, hb11⟩)
          have hS11 := hS10.trans (hb11.mono hS10.size)
          refine hK.out _ _ hS11 (fun _ => ?_)
          clear hK K
          refine takeW (i := 24) (v := .bool true) (some 65) rfl rfl (by kernel_rfl) (by kernel_rfl) (by kernel_rfl) (fun _ _ _ h => h) (Or.inl ⟨by rfl, ?_⟩) (by assumption) ?_
          · intro wz hSw; obtain ⟨y0, y1, y2, y3, y4⟩ := HY.out wz hSw; go_simp
          try simp only [Act.put, List.setIfInBounds_toArray, List.set_cons_zero, List.set_cons_succ]
          refine takeW (i := 25) (v := .bool true) (some 6) rfl rfl (by kernel_rfl) (by kernel_rfl) (by kernel_rfl) (fun _ _ _ h => h) (Or.inl ⟨by rfl, ?_⟩) (by assumption) ?_
          · intro wz hSw; obtain ⟨y0, y1, y2, y3, y4⟩ := HY.out wz hSw; go_simp
          try simp only [Act.put, List.setIfInBounds_toArray, List.set_cons_zero, List.set_cons_succ]
          refine wpAnyH_done (by kernel_rfl) ?_ _
          go_wp2
          go_ret
          exact ⟨rfl, HB0.out.trans (hS11.mono HB0.out.size)⟩
end Go.Proofs.Ytfodafaclhoibaa
