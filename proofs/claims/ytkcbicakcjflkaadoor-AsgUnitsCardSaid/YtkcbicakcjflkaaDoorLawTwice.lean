/- The law on two assignments, walked. -/
import Derived.Test.YtkcbicakcjflkaaDoorMgN
import Derived.Test.YtkcbicakcjflkaaDoorMgK
namespace Go.Proofs.YtkcbicakcjflkaaDoor
open Go.RowKit
set_option linter.unusedVariables false
set_option linter.unusedSimpArgs false

theorem lgF1 {w : World} {b : Bool} {vf v1 : Value} {f : List (List Int)} {l1 : List Int} (H : IsRows w vf f) (h1 : IsInts w v1 l1) (hf : f.length * 24 ≤ 140737488351232) (hb : largeB [l1] f = b) :
    Calls Tryd.prog 11 #[vf, .slice (some ⟨w.heap.size, 0, none⟩) 1 1] (w.alloc (.cells #[v1] 22)) fun e w' => e = .returned (.bool b) ∧ Below w.heap.size w w' :=
  (large_any vf _ [v1] [l1] f w.heap.size _ (H.below (zst (Below.refl _ _)) (Nat.le_refl _)) (OwnR.litz rfl rfl (by simp)) (RowsAre.cons (h1.below (zst (Below.refl _ _)) (Nat.le_refl _)) (RowsAre.nil _)) (by simp) (by simp) hf).mono fun e w' h => ⟨by rw [h.1, hb], (zst (Below.refl _ _)).trans h.2⟩
theorem lgF2 {w : World} {b : Bool} {vf v1 v2 : Value} {f : List (List Int)} {l1 l2 : List Int} (H : IsRows w vf f) (h1 : IsInts w v1 l1) (h2 : IsInts w v2 l2) (hf : f.length * 24 ≤ 140737488351232) (hb : largeB [l1, l2] f = b) :
    Calls Tryd.prog 11 #[vf, .slice (some ⟨w.heap.size, 0, none⟩) 2 2] (w.alloc (.cells #[v1, v2] 22)) fun e w' => e = .returned (.bool b) ∧ Below w.heap.size w w' :=
  (large_any vf _ [v1, v2] [l1, l2] f w.heap.size _ (H.below (zst (Below.refl _ _)) (Nat.le_refl _)) (OwnR.litz rfl rfl (by simp)) (RowsAre.cons (h1.below (zst (Below.refl _ _)) (Nat.le_refl _)) (RowsAre.cons (h2.below (zst (Below.refl _ _)) (Nat.le_refl _)) (RowsAre.nil _))) (by simp) (by simp) hf).mono fun e w' h => ⟨by rw [h.1, hb], (zst (Below.refl _ _)).trans h.2⟩
theorem sameallX {w : World} {u v : Value} {l : List (List Int)} (H : IsRows w u l) (K : IsRows w v l) : Calls Tryd.prog 23 #[u, v] w (fun e w' => e = .returned (.bool true) ∧ Below w.heap.size w w') :=
  (sameall_any _ _ l l w H K).mono fun e w' h => ⟨by rw [h.1]; unfold sameB; simp, h.2.below _⟩

set_option maxHeartbeats 4000000 in
set_option maxRecDepth 100000 in
theorem twice_law (vf va vb : Value) (f : List (List Int)) (a b : List Int) (w : World) (hS : SameAz w) (HF : IsRows w vf f) (HA : IsInts w va a) (HB : IsInts w vb b) (hf24 : f.length * 24 ≤ 140737488351232) :
    Calls Tryd.prog 10 #[vf, va, vb] w (fun e w' => e = .returned (.bool true) ∧ Below w.heap.size w w') := by
  have HS := Lib.hid hS
  clear hS
  obtain ⟨af, cf, rfl, hfl⟩ := HF.shape
  obtain ⟨aa, ca, rfl⟩ := HA.shape
  obtain ⟨ab, cb, rfl⟩ := HB.shape
  by_cases hlg : largeB [a, b] f = true
  · have hl := lgF2 HF HA HB hf24 hlg
    have HL := Lib.hid hl
    clear hl hlg HF HA HB
    go_enter Tryd.func10, Tryd.ntmps10
    go_wp2_with (first
      | (go_at_call 11; refine HL.out.mono ?_; rintro e w1 ⟨rfl, hb1⟩)
      | (go_at_call 12; refine (awakezX hb1 HS.out).mono ?_; rintro e w2 ⟨rfl, hb2⟩))
    go_ret
    exact ⟨rfl, hb2⟩
  · have hlg' : largeB [a, b] f = false := by simpa using hlg
    have hl := lgF2 HF HA HB hf24 hlg'
    have HL := Lib.hid hl
    have hsum : a.length + b.length ≤ 17592186044416 := by
      unfold largeB at hlg'
      rw [decide_eq_false_iff_not] at hlg'
      have : tot [a, b] = a.length + b.length := by simp [tot]
      omega
    have HHF := Lib.hid HF
    have HHA := Lib.hid HA
    have HHB := Lib.hid HB
    clear hl hlg hlg' HF HA HB
    by_cases hc : mayCnfB f = true
    · have hmc : ∀ W, IsRows W (.slice af f.length cf) f → Calls Tryd.prog 37 #[.slice af f.length cf] W (fun e w' => e = .returned (.bool true) ∧ Quiet W w') := fun W h => by
        have := rmaycnf_any _ f W h
        rw [hc] at this
        exact this
      have HMC := Lib.hid hmc
      have hj : ∀ W, IsInts W (.slice aa a.length ca) a → IsInts W (.slice ab b.length cb) b → Calls Tryd.prog 38 #[.slice aa a.length ca, .slice ab b.length cb] W (RetPair W (joinL a b)) := fun W h k => join_any _ _ a b W h k hsum
      have hag : ∀ W, IsInts W (.slice aa a.length ca) a → IsInts W (.slice ab b.length cb) b → Calls Tryd.prog 19 #[.slice aa a.length ca, .slice ab b.length cb] W (fun e w' => e = .returned (.bool ((joinL a b).2 == 0)) ∧ Below W.heap.size W w') := fun W h k => by
        have := agree_any _ _ a b W h k hsum
        unfold agreeB at this
        rw [← joinL_eq] at this
        exact this
      have hJ : ∀ c, joinL a b = (c, 0) → joinR a b = (c, 0) := fun c h => by rw [← joinL_eq]; exact h
      clear hmc
      generalize joinL a b = J at *
      obtain ⟨c, z⟩ := J
      by_cases hz : z = 0
      · subst hz
        have hj2 := hJ c rfl
        have hu1 : ∀ W, IsInts W (.slice aa a.length ca) a → IsRows W (.slice af f.length cf) f → Calls Tryd.prog 22 #[.slice aa a.length ca, .slice af f.length cf] W (UnderZ W (underL a f)) := fun W h k => under_rows _ _ a f W h k
        have hu2 : ∀ W v, IsInts W (.slice ab b.length cb) b → IsRows W v (underL a f) → Calls Tryd.prog 22 #[.slice ab b.length cb, v] W (UnderZ W (underL c f)) := fun W v h k => by
          have := under_rows _ _ b (underL a f) W h k
          rw [under_twice hc hj2] at this
          exact this
        have hu3 : ∀ W v, IsInts W v c → IsRows W (.slice af f.length cf) f → Calls Tryd.prog 22 #[v, .slice af f.length cf] W (UnderZ W (underL c f)) := fun W v h k => under_rows _ _ c f W h k
        have hc1 : ∀ W v, IsInts W v c → IsRows W (.slice af f.length cf) f → Calls Tryd.prog 25 #[v, .slice af f.length cf] W (fun e w' => e = .returned (.int .u8 (cnfL c f)) ∧ Below W.heap.size W w') := fun W v h k => cnf_any _ _ c f W h k
        have hc2 : ∀ W v, IsInts W (.slice ab b.length cb) b → IsRows W v (underL a f) → Calls Tryd.prog 25 #[.slice ab b.length cb, v] W (fun e w' => e = .returned (.int .u8 (cnfL c f)) ∧ Below W.heap.size W w') := fun W v h k => by
          have := cnf_any _ _ b (underL a f) W h k
          rw [← cnf_twice hc hj2] at this
          exact this
        generalize underL a f = U1 at *
        generalize underL c f = U2 at *
        generalize cnfL c f = y at *
        have HJO := Lib.hid hj
        have HAG := Lib.hid hag
        have HU1 := Lib.hid hu1
        have HU2 := Lib.hid hu2
        have HU3 := Lib.hid hu3
        have HC1 := Lib.hid hc1
        have HC2 := Lib.hid hc2
        clear hj hag hJ hj2 hu1 hu2 hu3 hc1 hc2 hc
        go_enter Tryd.func10, Tryd.ntmps10
        go_wp2_with (first
          | (go_at_call 11; refine HL.out.mono ?_; rintro e w1 ⟨rfl, hb1⟩)
          | (go_at_call 37; refine (HMC.out w1 (HHF.out.below hb1 (Nat.le_refl _))).mono ?_; rintro e w2 ⟨rfl, hq2⟩; have hb2 := hb1.trans (hq2.below _); have hs2 := hb2.size)
          | (go_at_call 38; refine (HJO.out w2 (HHA.out.below hb2 (Nat.le_refl _)) (HHB.out.below hb2 (Nat.le_refl _))).mono ?_; rintro e w3 ⟨v3, rfl, hi3, hz3⟩; have hb3 := hb2.trans (hz3.mono hs2); have hs3 := hb3.size; obtain ⟨a3, c3, rfl⟩ := hi3.shape)
          | (go_at_call_of 22 (Value.slice aa a.length ca); refine (HU1.out w8 (HHA.out.below hb8 (Nat.le_refl _)) (HHF.out.below hb8 (Nat.le_refl _))).mono ?_; rintro e w9 ⟨a9, c9, rfl, hr9, hz9⟩; have hb9 := hb8.trans (hz9.mono hs8); have hs9 := hb9.size)
          | (go_at_call_of 22 (Value.slice aa a.length ca); refine (HU1.out w3 (HHA.out.below hb3 (Nat.le_refl _)) (HHF.out.below hb3 (Nat.le_refl _))).mono ?_; rintro e w4 ⟨a4, c4, rfl, hr4, hz4⟩; have hb4 := hb3.trans (hz4.mono hs3); have hs4 := hb4.size; have hi4 := hi3.below hz4 (Nat.le_refl _))
          | (go_at_call_of 22 (Value.slice ab b.length cb); refine (HU2.out w4 _ (HHB.out.below hb4 (Nat.le_refl _)) hr4).mono ?_; rintro e w5 ⟨a5, c5, rfl, hr5, hz5⟩; have hb5 := hb4.trans (hz5.mono hs4); have hs5 := hb5.size; have hi5 := hi4.below hz5 (Nat.le_refl _))
          | (go_at_call_of 22 (Value.slice a3 c.length c3); refine (HU3.out w5 _ hi5 (HHF.out.below hb5 (Nat.le_refl _))).mono ?_; rintro e w6 ⟨a6, c6, rfl, hr6, hz6⟩; have hb6 := hb5.trans (hz6.mono hs5); have hs6 := hb6.size; have hi6 := hi5.below hz6 (Nat.le_refl _); have hq6 := hr5.below hz6 (Nat.le_refl _))
          | (go_at_call 23; refine (sameallX hq6 hr6).mono ?_; rintro e w7 ⟨rfl, hz7⟩; have hb7 := hb6.trans (hz7.mono hs6); have hs7 := hb7.size; have hi7 := hi6.below hz7 (Nat.le_refl _))
          | (go_at_call_of 25 (Value.slice a3 c.length c3); refine (HC1.out w7 _ hi7 (HHF.out.below hb7 (Nat.le_refl _))).mono ?_; rintro e w8 ⟨rfl, hz8⟩; have hb8 := hb7.trans (hz8.mono hs7); have hs8 := hb8.size)
          | (go_at_call_of 25 (Value.slice ab b.length cb); refine (HC2.out w9 _ (HHB.out.below hb9 (Nat.le_refl _)) hr9).mono ?_; rintro e w10 ⟨rfl, hz10⟩; have hb10 := hb9.trans (hz10.mono hs9); have hs10 := hb10.size)
          | (go_at_call 19; refine (HAG.out w10 (HHA.out.below hb10 (Nat.le_refl _)) (HHB.out.below hb10 (Nat.le_refl _))).mono ?_; rintro e w11 ⟨rfl, hz11⟩; have hb11 := hb10.trans (hz11.mono hs10))
          | (go_at_call 12; refine (awakezX hb11 HS.out).mono ?_; rintro e w12 ⟨rfl, hb12⟩))
        go_ret
        exact ⟨rfl, hb12⟩
      · have hz' : (z == 0) = false := by simpa using hz
        have hz2 : (z != 0) = true := by simpa using hz
        rw [hz'] at hag
        have HJO := Lib.hid hj
        have HAG := Lib.hid hag
        clear hj hag hJ hc hz hz'
        go_enter Tryd.func10, Tryd.ntmps10
        go_wp2_with (first
          | (go_at_call 11; refine HL.out.mono ?_; rintro e w1 ⟨rfl, hb1⟩)
          | (go_at_call 37; refine (HMC.out w1 (HHF.out.below hb1 (Nat.le_refl _))).mono ?_; rintro e w2 ⟨rfl, hq2⟩; have hb2 := hb1.trans (hq2.below _); have hs2 := hb2.size)
          | (go_at_call 38; refine (HJO.out w2 (HHA.out.below hb2 (Nat.le_refl _)) (HHB.out.below hb2 (Nat.le_refl _))).mono ?_; rintro e w3 ⟨v3, rfl, hi3, hz3⟩; have hb3 := hb2.trans (hz3.mono hs2); have hs3 := hb3.size; obtain ⟨a3, c3, rfl⟩ := hi3.shape)
          | (go_at_call 19; refine (HAG.out w3 (HHA.out.below hb3 (Nat.le_refl _)) (HHB.out.below hb3 (Nat.le_refl _))).mono ?_; rintro e w4 ⟨rfl, hz4⟩; have hb4 := hb3.trans (hz4.mono hs3))
          | (go_at_call 12; refine (awakezX hb4 HS.out).mono ?_; rintro e w5 ⟨rfl, hb5⟩))
        go_ret
        exact ⟨rfl, hb5⟩
    · have hc' : mayCnfB f = false := by simpa using hc
      have hmc : ∀ W, IsRows W (.slice af f.length cf) f → Calls Tryd.prog 37 #[.slice af f.length cf] W (fun e w' => e = .returned (.bool false) ∧ Quiet W w') := fun W h => by
        have := rmaycnf_any _ f W h
        rw [hc'] at this
        exact this
      have HMC := Lib.hid hmc
      clear hmc hc hc'
      go_enter Tryd.func10, Tryd.ntmps10
      go_wp2_with (first
        | (go_at_call 11; refine HL.out.mono ?_; rintro e w1 ⟨rfl, hb1⟩)
        | (go_at_call 37; refine (HMC.out w1 (HHF.out.below hb1 (Nat.le_refl _))).mono ?_; rintro e w2 ⟨rfl, hq2⟩; have hb2 := hb1.trans (hq2.below _))
        | (go_at_call 12; refine (awakezX hb2 HS.out).mono ?_; rintro e w3 ⟨rfl, hb3⟩))
      go_ret
      exact ⟨rfl, hb3⟩

end Go.Proofs.YtkcbicakcjflkaaDoor
