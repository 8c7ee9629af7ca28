/- The law on unit propagation, walked. -/
import Derived.Test.YtkcbicakcjflkaaDoorLawTwice
import Derived.Test.YtkcbicakcjflkaaDoorMgO
namespace Go.Proofs.YtkcbicakcjflkaaDoor
open Go.RowKit
set_option linter.unusedVariables false
set_option linter.unusedSimpArgs false

theorem unitsOne {f : List (List Int)} {a : List Int} {l m : List (Int × Nat)} {c c' d d' : Int}
    (h : (mayB a = true ∧ mayCnfB f = true ∧ d = 0 ∧ Run f a l c ∧ l.length ≤ f.length) ∨ (¬ (mayB a = true ∧ mayCnfB f = true) ∧ d = 2 ∧ l = [] ∧ c = -1))
    (k : (mayB a = true ∧ mayCnfB f = true ∧ d' = 0 ∧ Run f a m c' ∧ m.length ≤ f.length) ∨ (¬ (mayB a = true ∧ mayCnfB f = true) ∧ d' = 2 ∧ m = [] ∧ c' = -1)) : m = l ∧ c' = c ∧ d' = d := by
  rcases h with ⟨h1, h2, rfl, hr, _⟩ | ⟨h1, rfl, rfl, rfl⟩
  · rcases k with ⟨_, _, rfl, hs, _⟩ | ⟨k1, _⟩
    · obtain ⟨rfl, rfl⟩ := hr.one hs
      exact ⟨rfl, rfl, rfl⟩
    · exact absurd ⟨h1, h2⟩ k1
  · rcases k with ⟨k1, k2, _⟩ | ⟨_, rfl, rfl, rfl⟩
    · exact absurd ⟨k1, k2⟩ h1
    · exact ⟨rfl, rfl, rfl⟩
theorem samezY {w : World} {u v : Value} {l : List Int} (H : IsInts w u l) (K : IsInts w v l) : Calls Tryd.prog 57 #[u, v] w (fun e w' => e = .returned (.bool true) ∧ Below w.heap.size w w') :=
  (same_any _ _ l l w H K).mono fun e w' h => ⟨by rw [h.1]; unfold sameB; simp, h.2.below _⟩
theorem equalsX {w : World} {u v : Value} {l : List (Int × Nat)} (H : IsSteps w u l) (K : IsSteps w v l) : Calls Tryd.prog 31 #[u, v] w (fun e w' => e = .returned (.bool true) ∧ Below w.heap.size w w') :=
  (equals_any _ _ l l w H K).mono fun e w' h => ⟨by rw [h.1]; unfold stepsB; simp, h.2.below _⟩

set_option maxHeartbeats 4000000 in
set_option maxRecDepth 100000 in
theorem units_law (vf va : Value) (f : List (List Int)) (a : List Int) (w : World) (hS : SameAz w) (HF : IsRows w vf f) (HA : IsInts w va a) (hf24 : f.length * 24 ≤ 140737488351232) :
    Calls Tryd.prog 5 #[vf, va] w (fun e w' => e = .returned (.bool true) ∧ Below w.heap.size w w') := by
  have hlt := hS.lt
  have HS := Lib.hid hS
  clear hS
  obtain ⟨af, cf, rfl, hfl⟩ := HF.shape
  obtain ⟨aa, ca, rfl⟩ := HA.shape
  by_cases hlg : largeB [a] f = true
  · have hl := lgF1 HF HA hf24 hlg
    have HL := Lib.hid hl
    clear hl hlg HF HA
    go_enter Tryd.func5, Tryd.ntmps5
    go_wp2_with (first
      | (go_at_call 11; refine HL.out.mono ?_; rintro e w1 ⟨rfl, hb1⟩)
      | (go_at_call 12; refine (awakezX hb1 HS.out).mono ?_; rintro e w2 ⟨rfl, hb2⟩))
    go_ret
    exact ⟨rfl, hb2⟩
  · have hlg' : largeB [a] f = false := by simpa using hlg
    have hl := lgF1 HF HA hf24 hlg'
    have HL := Lib.hid hl
    have HHF := Lib.hid HF
    have HHA := Lib.hid HA
    clear hl hlg hlg' HF HA
    go_enter Tryd.func5, Tryd.ntmps5
    go_wp2_with (first
      | (go_at_call 11; refine HL.out.mono ?_; rintro e w1 ⟨rfl, hb1⟩; have hs1 := hb1.size)
      | (go_at_call 27; refine (units_any _ _ f a w1 (HHF.out.below hb1 (Nat.le_refl _)) (HHA.out.below hb1 (Nat.le_refl _))).mono ?_; rintro e w2 ⟨v2, l2, c2, d2, rfl, hi2, hz2, hk2⟩; have hb2 := hb1.trans (hz2.mono hs1); have hs2 := hb2.size; obtain ⟨a2, p2, rfl⟩ := hi2.shapeS; have HK2 := Lib.hid hk2; clear hk2)
      | (go_at_call 28; refine (runits_any _ _ f a w2 (HHF.out.below hb2 (Nat.le_refl _)) (HHA.out.below hb2 (Nat.le_refl _))).mono ?_; rintro e w3 ⟨v3, l3, c3, d3, rfl, hi3, hz3, hk3⟩; have hb3 := hb2.trans (hz3.mono hs2); have hs3 := hb3.size; obtain ⟨e1, e2, e3⟩ := unitsOne HK2.out hk3; subst e1; subst e2; subst e3; obtain ⟨a3, p3, rfl⟩ := hi3.shapeS; have hj3 := hi2.below hz3 (Nat.le_refl _); clear hk3)
      | (go_at_call 29; refine (close_any _ _ f a w3 (HHF.out.below hb3 (Nat.le_refl _)) (HHA.out.below hb3 (Nat.le_refl _))).mono ?_; rintro e w4 ⟨v4, r4, o4, d4, rfl, hi4, hz4, hk4⟩; have hb4 := hb3.trans (hz4.mono hs3); have hs4 := hb4.size; obtain ⟨a4, p4, rfl⟩ := hi4.shape; have HK4 := Lib.hid hk4; have hm4 := hi3.below hz4 (Nat.le_refl _); have hj4 := hj3.below hz4 (Nat.le_refl _); clear hk4)
      | (go_at_call 30; refine (rclose_any _ _ f a w4 (HHF.out.below hb4 (Nat.le_refl _)) (HHA.out.below hb4 (Nat.le_refl _))).mono ?_; rintro e w5 ⟨v5, r5, o5, d5, rfl, hi5, hz5, hk5⟩; have hb5 := hb4.trans (hz5.mono hs4); have hs5 := hb5.size; obtain ⟨e1, e2, e3⟩ := CloseOf.one hk5 HK4.out; subst e1; subst e2; subst e3; obtain ⟨a5, p5, rfl⟩ := hi5.shape; have hm5 := hm4.below hz5 (Nat.le_refl _); have hj5 := hj4.below hz5 (Nat.le_refl _); have hn5 := hi4.below hz5 (Nat.le_refl _); clear hk5)
      | (go_at_call 31; refine (equalsX hj5 hm5).mono ?_; rintro e w6 ⟨rfl, hz6⟩; have hb6 := hb5.trans (hz6.mono hs5); have hs6 := hb6.size; have hg6 := HS.out.below hb6 hlt; unfold SameAz at hg6; have hn6 := hn5.below hz6 (Nat.le_refl _); have hi6 := hi5.below hz6 (Nat.le_refl _))
      | (go_at_call 57; refine (samezY hn6 hi6).mono ?_; rintro e w7 ⟨rfl, hz7⟩; have hb7 := hb6.trans (hz7.mono hs6))
      | (go_at_call 12; refine (awakezX hb7 HS.out).mono ?_; rintro e w8 ⟨rfl, hb8⟩))
    go_ret
    exact ⟨rfl, hb8⟩

end Go.Proofs.YtkcbicakcjflkaaDoor
