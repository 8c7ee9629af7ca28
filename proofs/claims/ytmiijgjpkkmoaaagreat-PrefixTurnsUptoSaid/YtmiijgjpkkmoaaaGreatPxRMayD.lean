/- The reference's MayDqbf. -/
import Derived.Test.YtmiijgjpkkmoaaaGreatMpE
import Derived.Test.YtmiijgjpkkmoaaaGreatMpB
import Derived.Test.YtmiijgjpkkmoaaaGreatMpD
namespace Go.Proofs.YtmiijgjpkkmoaaaGreat
open Go.RowKit
set_option linter.unusedVariables false
set_option linter.unusedSimpArgs false

theorem IsInts.cellX0 {w : World} {a : Option Addr} {n c : Nat} {l : List Int} (H : IsInts w (.slice a n c) l) (hl : l ≠ []) : ∃ b off, a = some ⟨b, off, none⟩ ∧ b < w.heap.size ∧ n = l.length := by
  obtain ⟨a', cap', e, _, _, _, _, b, off, ha, hc⟩ := H
  injection e with e1 e2 e3
  subst e1
  exact ⟨b, off, (ha hl).1, (ha hl).2, e2⟩
theorem exOf_lenX (E : List (Int × List Int)) : (exOf E).length = E.length := by unfold exOf; simp
set_option maxRecDepth 100000 in
theorem slice_run (X : World) (ad : Addr) (n cu k : Nat) (hk : k ≤ n) :
    (Instr.slice 26 (.slice (some ad) n cu) (some (.int .i64 (k : Int))) none none).run Tryz.prog X = .ok (.slice (if cu = k then some ad else some (ad.add k)) (n - k) (cu - k)) X := by
  have h0 : (0 : Int) ≤ (k : Int) := by omega
  have h1 : (k : Int) ≤ (n : Int) := by omega
  by_cases hc : cu = k
  · rw [if_pos hc]
    go_simp
  · rw [if_neg hc]
    go_simp
set_option maxRecDepth 100000 in
theorem slice_run0 (X : World) : (Instr.slice 26 (.slice none 0 0) (some (.int .i64 0)) none none).run Tryz.prog X = .ok (.slice none 0 0) X := by
  go_simp
/-- The rest of a slice from a place on, under one name. -/
theorem slice_rest (w : World) (au : Option Addr) (n cu k : Nat) (l : List Int) (H : IsInts w (.slice au n cu) l) (hk : k ≤ n) : ∃ sa sc, IsInts w (.slice sa (n - k) sc) (l.drop k) ∧
    ∀ X, (Instr.slice 26 (.slice au n cu) (some (.int .i64 (k : Int))) none none).run Tryz.prog X = .ok (.slice sa (n - k) sc) X := by
  have hn : n = l.length := by obtain ⟨a', cap', e, _⟩ := H; injection e
  cases au with
  | none =>
    obtain ⟨a', cap', e, ⟨h1, h2⟩, _⟩ := H
    injection e with e1 e2 e3
    have hc0 := h2 e1.symm
    rw [hc0] at h1
    have h0 : l = [] := List.eq_nil_of_length_eq_zero (by omega)
    subst h0
    simp only [List.length_nil] at hn
    subst hn
    have hk0 : k = 0 := by omega
    subst hk0
    subst e3
    subst hc0
    exact ⟨none, 0, by simpa using IsInts.nil w, fun X => slice_run0 X⟩
  | some ad =>
    refine ⟨if cu = k then some ad else some (ad.add k), cu - k, ?_, fun X => slice_run X ad n cu k hk⟩
    have hcu : l.length ≤ cu ∧ cu ≤ 9223372036854775807 := by
      obtain ⟨a', cap', e, ⟨h1, _⟩, h3, _⟩ := H
      injection e with _ _ e3
      subst e3
      exact ⟨h1, h3⟩
    by_cases hd : l.drop k = []
    · have h0 : n - k = 0 := by
        have := congrArg List.length hd
        rw [List.length_drop, List.length_nil] at this
        omega
      rw [hd, h0]
      split <;> exact IsInts.none_of (by omega)
    · have hne : k < l.length := by
        rcases Nat.lt_or_ge k l.length with h | h
        · exact h
        · exact absurd (List.drop_eq_nil_of_le h) hd
      have hl : l ≠ [] := by intro e; rw [e] at hne; simp at hne
      obtain ⟨b, off, e1, _, _⟩ := H.cellX0 hl
      injection e1 with e1
      subst e1
      subst hn
      rw [if_neg (by omega), Addr.add_lit]
      exact H.drop (Nat.le_of_lt hne)

set_option maxRecDepth 100000 in
set_option maxHeartbeats 3200000 in
theorem rmayd_any (vu ve vc : Value) (U : List Int) (E : List (Int × List Int)) (C : List (List Int)) (w : World) (HU : IsInts w vu U) (HE : IsDeps w ve E) (HC0 : IsRows w vc C)
    (hlen : U.length + E.length ≤ 4000000) (hcc : C.length + tot C ≤ 4000000) (h64e : In64 (exOf E)) :
    Calls Tryz.prog 17 #[.agg #[vu, ve, vc]] w fun e w' => e = .returned (.bool (mayDB U E C)) ∧ Below w.heap.size w w' := by
  obtain ⟨W, hW⟩ : ∃ W, w.alloc (.cells #[vu, ve, vc] 29) = W := ⟨_, rfl⟩
  have hb0 : Below w.heap.size w W := by rw [← hW]; exact (Below.refl w.heap.size w).alloc (Nat.le_refl _) _
  have hz : W.heap.size = w.heap.size + 1 := by rw [← hW]; simp
  have c0 : ∀ i v, (#[vu, ve, vc] : Array Value)[i]? = some v → W.cell? ⟨w.heap.size, i, none⟩ = some v := fun i v h => by rw [← hW]; exact cell_fresh h
  have HY : Hid (∀ X, Below W.heap.size W X → X.cell? ⟨w.heap.size, 0, none⟩ = some vu ∧ X.cell? ⟨w.heap.size, 1, none⟩ = some ve ∧ X.cell? ⟨w.heap.size, 2, none⟩ = some vc) := fun X hX =>
    ⟨(hX.cell (p := ⟨w.heap.size, 0, none⟩) (by simp; omega)).trans (c0 0 _ rfl), (hX.cell (p := ⟨w.heap.size, 1, none⟩) (by simp; omega)).trans (c0 1 _ rfl), (hX.cell (p := ⟨w.heap.size, 2, none⟩) (by simp; omega)).trans (c0 2 _ rfl)⟩
  have HB0 := Lib.hid hb0
  obtain ⟨A, hA⟩ : ∃ A, U ++ exOf E = A := ⟨_, rfl⟩
  have HAL : Hid (Calls Tryz.prog 48 #[.agg #[vu, ve, vc]] W fun e w' => ∃ u, e = .returned u ∧ Own w' W.heap.size u A ∧ Below W.heap.size W w') := by
    have := rall_any vu ve vc U E C W (HU.below hb0 (Nat.le_refl _)) (HE.below hb0 (Nat.le_refl _)) (HC0.below hb0 (Nat.le_refl _)) hlen
    rw [hA] at this
    exact this
  have hQ : Hid (mayDB U E C = (decide (A.length ≤ 1024) && (singleB A && (risesB U && (risesB (exOf E) && (mayCnfB C && (withinB C A && rowsB U E))))))) := by
    show _ = _
    unfold mayDB
    rw [hA]
  generalize mayDB U E C = Q at *
  have HUU := Lib.hid HU
  have HEE := Lib.hid HE
  have HCC := Lib.hid HC0
  have HLN := Lib.hid hlen
  have HCL := Lib.hid hcc
  have H64 : Hid (In64 A) := fun x hx => by
    rw [← hA] at hx
    rcases List.mem_append.1 hx with h | h
    · obtain ⟨_, _, _, _, _, _, g, _⟩ := HU; exact g x h
    · exact h64e x h
  obtain ⟨a1, c1, rfl⟩ := HU.shape
  obtain ⟨a2, c2, rfl, hel⟩ := HE.shape
  obtain ⟨a3, c3, rfl, _⟩ := HC0.shape
  have hul : (U.length : Int) ≤ 4000000 := by omega
  have hel1 : (E.length : Int) ≤ 4000000 := by omega
  obtain ⟨y0, y1, y2⟩ := HY.out W (Below.refl _ _)
  clear HU HE HC0 c0 hb0 h64e hlen hcc hel
  go_enter Tryz.func17, Tryz.ntmps17
  go_upto_region 2 with (go_at_call 48; refine HAL.out.mono ?_; rintro e w1 ⟨u1, rfl, hown, hb1⟩)
  clear y0 y1 y2 HAL
  have hlen2 : A.length = U.length + E.length := by rw [← hA, List.length_append, exOf_lenX]
  have hi1 := hown.ints (by have := HLN.out; omega) H64.out
  obtain ⟨au, cu, rfl⟩ := hi1.shape
  obtain ⟨sa, sc, hrest, hrun⟩ := slice_rest w1 au A.length cu U.length A hi1 (by omega)
  rw [hlen2, Nat.add_sub_cancel_left, ← hA, List.drop_left] at hrest
  have hrun2 : ∀ X, (Instr.slice 26 (.slice au A.length cu) (some (.int .i64 (U.length : Int))) none none).run Tryz.prog X = .ok (.slice sa E.length sc) X := fun X => by
    have := hrun X
    rw [show A.length - U.length = E.length from by omega] at this
    exact this
  have hle : (U.length : Int) ≤ (A.length : Int) := by omega
  have hnl : (A.length : Int) ≤ 8000000 := by omega
  have HB1 := Lib.hid (HB0.out.trans (hb1.mono HB0.out.size))
  have HBX := Lib.hid hb1
  have HI1 := Lib.hid hi1
  have HRS := Lib.hid hrest
  have HZ : Hid (∀ X, Quiet w1 X → X.cell? ⟨w.heap.size, 0, none⟩ = some (.slice a1 U.length c1) ∧ X.cell? ⟨w.heap.size, 1, none⟩ = some (.slice a2 E.length c2) ∧ X.cell? ⟨w.heap.size, 2, none⟩ = some (.slice a3 C.length c3)) := fun X hX => HY.out X (HBX.out.trans (hX.below _))
  have HS : Hid (∀ X, Quiet w1 X → Calls Tryz.prog 49 #[.slice au A.length cu] X fun e w' => e = .returned (.bool (singleB A)) ∧ Quiet X w') := fun X hX => single_any _ _ X (HI1.out.quiet hX)
  have HR1 : Hid (∀ X, Quiet w1 X → Calls Tryz.prog 50 #[.slice a1 U.length c1] X fun e w' => e = .returned (.bool (risesB U)) ∧ Quiet X w') := fun X hX => rrises_any _ _ X (HUU.out.below (HB1.out.trans ((hX.below _).mono HB1.out.size)) (Nat.le_refl _))
  have HR2 : Hid (∀ X, Quiet w1 X → Calls Tryz.prog 50 #[.slice sa E.length sc] X fun e w' => e = .returned (.bool (risesB (exOf E))) ∧ Quiet X w') := fun X hX => rrises_any _ _ X (HRS.out.quiet hX)
  have HC : Hid (∀ X, Quiet w1 X → Calls Tryz.prog 51 #[.slice a3 C.length c3] X fun e w' => e = .returned (.bool (mayCnfB C)) ∧ Quiet X w') := fun X hX => rcnf3_any _ _ X (HCC.out.below (HB1.out.trans ((hX.below _).mono HB1.out.size)) (Nat.le_refl _)) HCL.out
  have HWI0 : Hid (mayCnfB C = true → ∀ X, Quiet w1 X → Calls Tryz.prog 52 #[.slice a3 C.length c3, .slice au A.length cu] X fun e w' => e = .returned (.bool (withinB C A)) ∧ X = w') := fun hm X hX =>
    rwithin3_any _ _ C _ X (HCC.out.below (HB1.out.trans ((hX.below _).mono HB1.out.size)) (Nat.le_refl _)) (HI1.out.quiet hX) (fun c h x hx => by have := cnf_range hm c h x hx; unfold litB at this; simp at this; omega) (fun c h x hx => by have := cnf_range hm c h x hx; unfold litB at this; simp at this; omega)
  obtain ⟨v0, v1, v2⟩ := HZ.out w1 (Quiet.refl _)
  have HL2 := Lib.hid hlen2
  clear hrun hi1 hrest hb1 hown hlen2 hA
  by_cases hl : A.length ≤ 1024
  case neg =>
    have hM : Q = false := by rw [hQ.out, decide_eq_false hl]; rfl
    have hg : decide ((1024 : Int) < (A.length : Int)) = true := by rw [decide_eq_true_eq]; omega
    have HMM := Lib.hid hM
    clear hM hl hQ
    go_wp2
    go_ret
    exact ⟨ret_bool HMM.out.symm, HB1.out.trans ((Quiet.refl w1).below _ |>.mono HB1.out.size)⟩
  have hg : decide ((1024 : Int) < (A.length : Int)) = false := by rw [decide_eq_false_iff_not]; omega
  have HG := Lib.hid (show decide (A.length ≤ 1024) = true from decide_eq_true hl)
  clear hl
  rcases Bool.eq_false_or_eq_true (singleB A) with hs | hs
  case inr =>
    have hM : Q = false := by rw [hQ.out]; simp only [HG.out, hs, Bool.false_and, Bool.and_false, Bool.true_and]
    have HMM := Lib.hid hM
    rw [hs] at HS
    clear hM hQ hs
    go_wp2_with (first
      | (go_at_call 49; refine (HS.out _ (Quiet.refl _)).mono ?_; rintro e w2 ⟨rfl, hq2⟩; obtain ⟨x0, x1, x2⟩ := HZ.out _ hq2))
    go_ret
    exact ⟨ret_bool HMM.out.symm, HB1.out.trans ((hq2).below _ |>.mono HB1.out.size)⟩
  rw [hs] at HS
  have F_hs : Hid (singleB A = true) := hs
  clear hs
  rcases Bool.eq_false_or_eq_true (risesB U) with hr1 | hr1
  case inr =>
    have hM : Q = false := by rw [hQ.out]; simp only [HG.out, F_hs.out, hr1, Bool.false_and, Bool.and_false, Bool.true_and]
    have HMM := Lib.hid hM
    rw [hr1] at HR1
    clear hM hQ hr1
    go_wp2_with (first
      | (go_at_call_of 50 (Value.slice a1 U.length c1); refine (HR1.out _ hq2).mono ?_; rintro e w3 ⟨rfl, hq3⟩; obtain ⟨y0, y1, y2⟩ := HZ.out _ (hq2.trans hq3))
      | (go_at_call 49; refine (HS.out _ (Quiet.refl _)).mono ?_; rintro e w2 ⟨rfl, hq2⟩; obtain ⟨x0, x1, x2⟩ := HZ.out _ hq2))
    go_ret
    exact ⟨ret_bool HMM.out.symm, HB1.out.trans ((hq2.trans hq3).below _ |>.mono HB1.out.size)⟩
  rw [hr1] at HR1
  have F_hr1 : Hid (risesB U = true) := hr1
  clear hr1
  rcases Bool.eq_false_or_eq_true (risesB (exOf E)) with hr2 | hr2
  case inr =>
    have hM : Q = false := by rw [hQ.out]; simp only [HG.out, F_hs.out, F_hr1.out, hr2, Bool.false_and, Bool.and_false, Bool.true_and]
    have HMM := Lib.hid hM
    rw [hr2] at HR2
    clear hM hQ hr2
    go_wp2_with (first
      | (go_at_call_of 50 (Value.slice sa E.length sc); refine (HR2.out _ (hq2.trans hq3)).mono ?_; rintro e w4 ⟨rfl, hq4⟩; obtain ⟨z0, z1, z2⟩ := HZ.out _ (hq2.trans (hq3.trans hq4)))
      | (go_at_call_of 50 (Value.slice a1 U.length c1); refine (HR1.out _ hq2).mono ?_; rintro e w3 ⟨rfl, hq3⟩; obtain ⟨y0, y1, y2⟩ := HZ.out _ (hq2.trans hq3))
      | (go_at_call 49; refine (HS.out _ (Quiet.refl _)).mono ?_; rintro e w2 ⟨rfl, hq2⟩; obtain ⟨x0, x1, x2⟩ := HZ.out _ hq2))
    go_ret
    exact ⟨ret_bool HMM.out.symm, HB1.out.trans ((hq2.trans (hq3.trans hq4)).below _ |>.mono HB1.out.size)⟩
  rw [hr2] at HR2
  have F_hr2 : Hid (risesB (exOf E) = true) := hr2
  clear hr2
  rcases Bool.eq_false_or_eq_true (mayCnfB C) with hc | hc
  case inr =>
    have hM : Q = false := by rw [hQ.out]; simp only [HG.out, F_hs.out, F_hr1.out, F_hr2.out, hc, Bool.false_and, Bool.and_false, Bool.true_and]
    have HMM := Lib.hid hM
    rw [hc] at HC
    clear hM hQ hc
    go_wp2_with (first
      | (go_at_call 51; refine (HC.out _ (hq2.trans (hq3.trans hq4))).mono ?_; rintro e w5 ⟨rfl, hq5⟩; obtain ⟨t0, t1, t2⟩ := HZ.out _ (hq2.trans (hq3.trans (hq4.trans hq5))))
      | (go_at_call_of 50 (Value.slice sa E.length sc); refine (HR2.out _ (hq2.trans hq3)).mono ?_; rintro e w4 ⟨rfl, hq4⟩; obtain ⟨z0, z1, z2⟩ := HZ.out _ (hq2.trans (hq3.trans hq4)))
      | (go_at_call_of 50 (Value.slice a1 U.length c1); refine (HR1.out _ hq2).mono ?_; rintro e w3 ⟨rfl, hq3⟩; obtain ⟨y0, y1, y2⟩ := HZ.out _ (hq2.trans hq3))
      | (go_at_call 49; refine (HS.out _ (Quiet.refl _)).mono ?_; rintro e w2 ⟨rfl, hq2⟩; obtain ⟨x0, x1, x2⟩ := HZ.out _ hq2))
    go_ret
    exact ⟨ret_bool HMM.out.symm, HB1.out.trans ((hq2.trans (hq3.trans (hq4.trans hq5))).below _ |>.mono HB1.out.size)⟩
  have HC0 : Hid (mayCnfB C = true) := hc
  rw [hc] at HC
  have F_hc : Hid (mayCnfB C = true) := hc
  clear hc
  rcases Bool.eq_false_or_eq_true (withinB C A) with hw | hw
  case inr =>
    have hM : Q = false := by rw [hQ.out]; simp only [HG.out, F_hs.out, F_hr1.out, F_hr2.out, F_hc.out, hw, Bool.false_and, Bool.and_false, Bool.true_and]
    have HMM := Lib.hid hM
    have HWI := Lib.hid (HWI0.out HC0.out)
    rw [hw] at HWI
    clear hM hQ hw
    go_wp2_with (first
      | (go_at_call 52; refine (HWI.out _ (hq2.trans (hq3.trans (hq4.trans hq5)))).mono ?_; rintro e w6 ⟨rfl, rfl⟩)
      | (go_at_call 51; refine (HC.out _ (hq2.trans (hq3.trans hq4))).mono ?_; rintro e w5 ⟨rfl, hq5⟩; obtain ⟨t0, t1, t2⟩ := HZ.out _ (hq2.trans (hq3.trans (hq4.trans hq5))))
      | (go_at_call_of 50 (Value.slice sa E.length sc); refine (HR2.out _ (hq2.trans hq3)).mono ?_; rintro e w4 ⟨rfl, hq4⟩; obtain ⟨z0, z1, z2⟩ := HZ.out _ (hq2.trans (hq3.trans hq4)))
      | (go_at_call_of 50 (Value.slice a1 U.length c1); refine (HR1.out _ hq2).mono ?_; rintro e w3 ⟨rfl, hq3⟩; obtain ⟨y0, y1, y2⟩ := HZ.out _ (hq2.trans hq3))
      | (go_at_call 49; refine (HS.out _ (Quiet.refl _)).mono ?_; rintro e w2 ⟨rfl, hq2⟩; obtain ⟨x0, x1, x2⟩ := HZ.out _ hq2))
    go_ret
    exact ⟨ret_bool HMM.out.symm, HB1.out.trans ((hq2.trans (hq3.trans (hq4.trans hq5))).below _ |>.mono HB1.out.size)⟩
  have HWI := Lib.hid (HWI0.out HC0.out)
  rw [hw] at HWI
  have F_hw : Hid (withinB C A = true) := hw
  clear hw
  go_wp2_with (first
    | (go_at_call 52; refine (HWI.out _ (hq2.trans (hq3.trans (hq4.trans hq5)))).mono ?_; rintro e w6 ⟨rfl, rfl⟩)
    | (go_at_call 51; refine (HC.out _ (hq2.trans (hq3.trans hq4))).mono ?_; rintro e w5 ⟨rfl, hq5⟩; obtain ⟨t0, t1, t2⟩ := HZ.out _ (hq2.trans (hq3.trans (hq4.trans hq5))))
    | (go_at_call_of 50 (Value.slice sa E.length sc); refine (HR2.out _ (hq2.trans hq3)).mono ?_; rintro e w4 ⟨rfl, hq4⟩; obtain ⟨z0, z1, z2⟩ := HZ.out _ (hq2.trans (hq3.trans hq4)))
    | (go_at_call_of 50 (Value.slice a1 U.length c1); refine (HR1.out _ hq2).mono ?_; rintro e w3 ⟨rfl, hq3⟩; obtain ⟨y0, y1, y2⟩ := HZ.out _ (hq2.trans hq3))
    | (go_at_call 49; refine (HS.out _ (Quiet.refl _)).mono ?_; rintro e w2 ⟨rfl, hq2⟩; obtain ⟨x0, x1, x2⟩ := HZ.out _ hq2))
  have hq6 := hq2.trans (hq3.trans (hq4.trans hq5))
  have hQ2 : Hid (Q = rowsB U E) := by show _ = _; rw [hQ.out]; simp only [HG.out, F_hs.out, F_hr1.out, F_hr2.out, F_hc.out, F_hw.out, Bool.true_and]
  clear hq2 hq3 hq4 hq5 x0 x1 x2 y0 y1 y2 z0 z1 z2 t0 t1 t2 v0 v1 v2 hQ HS HR1 HR2 HC HWI hrun2
  go_loopw [4] (fun i wr => ∃ k : Nat, k ≤ E.length ∧ i = .int .i64 k ∧ Quiet w1 wr ∧ ∀ j, j < k → risesB (E.getD j dD).2 = true ∧ partB (E.getD j dD).2 U = true) (fun i _ => E.length - (intOf i).toNat)
  case atStart => exact ⟨0, Nat.zero_le _, rfl, hq6, fun j h => by omega⟩
  case round =>
    obtain ⟨k, hk, rfl, hqr, hrows⟩ := hrel
    have HRW := Lib.hid hrows
    clear hrows hq6
    obtain ⟨v0, v1, v2⟩ := HZ.out wr hqr
    have HBW := Lib.hid (HB1.out.trans ((hqr.below _).mono HB1.out.size))
    by_cases hlt : k < E.length
    · obtain ⟨b, off, u, rfl, hbk, hcx0, hcu, HU0⟩ := (HEE.out.below HBW.out (Nat.le_refl _)).at hlt
      obtain ⟨ua, uc, rfl⟩ := HU0.shape
      have hi0 : (0 : Int) ≤ (k : Int) := by omega
      have hi1 : (k : Int) < (E.length : Int) := by omega
      have HRS1 := Lib.hid (fun n => rrises_any _ _ (wr.drewN n) (HU0.drewN n))
      have HPT := Lib.hid (fun n => rpart_any _ _ _ U (wr.drewN n) (HU0.drewN n) ((HUU.out.below HBW.out (Nat.le_refl _)).drewN n))
      have HNO : Hid (¬ (risesB (E.getD k dD).2 = true ∧ partB (E.getD k dD).2 U = true) → rowsB U E = false) := fun h => by
        unfold rowsB
        rw [decide_eq_false_iff_not]
        exact fun h2 => h (h2 k hlt)
      have HYS : Hid (risesB (E.getD k dD).2 = true → partB (E.getD k dD).2 U = true → ∀ j, j < k + 1 → risesB (E.getD j dD).2 = true ∧ partB (E.getD j dD).2 U = true) := fun h1 h2 j hj => by
        by_cases e : j = k
        · subst e; exact ⟨h1, h2⟩
        · exact HRW.out j (by omega)
      clear hcx0 HU0
      generalize E.getD k dD = y at *
      obtain ⟨y1, y2⟩ := y
      simp only at hcu HRS1 HPT
      have HNO2 : Hid (¬ (risesB y2 = true ∧ partB y2 U = true) → rowsB U E = false) := HNO.out
      have HYS2 : Hid (risesB y2 = true → partB y2 U = true → ∀ j, j < k + 1 → risesB (E.getD j dD).2 = true ∧ partB (E.getD j dD).2 U = true) := HYS.out
      clear HNO HYS
      cases hr : risesB y2 with
      | false =>
        rw [hr] at HRS1
        have hM : Hid (Q = false) := by show _ = _; rw [hQ2.out]; exact HNO2.out (fun h => by rw [hr] at h; cases h.1)
        clear hr
        go_wp2_with fail
        go_quiet ((go_at_call 50; exact quiet_q (HRS1.out _)))
        go_wp2
        go_ret
        exact ⟨ret_bool hM.out.symm, HB1.out.trans (((hqr.drewN _).below _).mono HB1.out.size)⟩
      | true =>
        rw [hr] at HRS1
        cases hp : partB y2 U with
        | false =>
          rw [hp] at HPT
          have hM : Hid (Q = false) := by show _ = _; rw [hQ2.out]; exact HNO2.out (fun h => by rw [hp] at h; cases h.2)
          clear hr hp
          go_wp2_with fail
          go_quiet ((first | (go_at_call 50; exact quiet_q (HRS1.out _)) | (go_at_call 19; exact quiet_left (HPT.out _))))
          go_wp2
          go_ret
          exact ⟨ret_bool hM.out.symm, HB1.out.trans (((hqr.drewN _).below _).mono HB1.out.size)⟩
        | true =>
          rw [hp] at HPT
          have hN := Lib.hid (HYS2.out hr hp)
          clear hr hp
          go_wp2_with fail
          go_quiet ((first | (go_at_call 50; exact quiet_q (HRS1.out _)) | (go_at_call 19; exact quiet_left (HPT.out _))))
          go_wp2
          go_roundw
          case rel => exact ⟨k + 1, by omega, by go_num, hqr.drewN _, hN.out⟩
          case measure => simp [intOf]; omega
    · have hke : k = E.length := by omega
      subst hke
      have hM : Hid (Q = true) := by show _ = _; rw [hQ2.out]; unfold rowsB; rw [decide_eq_true_eq]; exact HRW.out
      go_wp2
      go_ret
      exact ⟨ret_bool hM.out.symm, HBW.out⟩
end Go.Proofs.YtmiijgjpkkmoaaaGreat
