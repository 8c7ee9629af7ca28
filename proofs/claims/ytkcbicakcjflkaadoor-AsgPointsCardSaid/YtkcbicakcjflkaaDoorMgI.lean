/- Joined texts: RNum, LawPts. -/
import Derived.Test.YtkcbicakcjflkaaDoorAwk
import Derived.Test.YtkcbicakcjflkaaDoorMgH
import Derived.Test.YtkcbicakcjflkaaDoorLawVals
import Derived.Test.YtkcbicakcjflkaaDoorAsgRPt
/- The reference's Number. -/
namespace Go.Proofs.YtkcbicakcjflkaaDoor
open Go.RowKit
set_option linter.unusedVariables false

def numP (a : List Int) : Nat → Nat
  | 0 => 0
  | k + 1 => numP a k + if 0 < a.getD k 0 then 2 ^ k else 0
theorem numP_lt (a : List Int) (k : Nat) : numP a k < 2 ^ k := by
  induction k with
  | zero => simp [numP]
  | succ k ih =>
    unfold numP
    rw [Nat.pow_succ]
    split <;> omega
theorem varOf_lit' {x : Int} (h : litB x = true) : varOf x = (if x < 0 then -x else x) := by
  obtain ⟨h1, h2, h3⟩ := litB_bd h
  unfold varOf
  rw [if_neg (by omega)]
theorem vars_one {a : List Int} (ha : mayB a = true) : VarsOf [a] (a.map varOf) := by
  refine ⟨List.pairwise_map.2 (mayFrom_pair ha), fun v => ?_⟩
  unfold occ
  simp only [List.mem_map, List.mem_singleton, exists_eq_left]
  constructor
  · rintro ⟨x, hx, rfl⟩
    refine ⟨?_, x, hx, rfl⟩
    have h1 := litB_bd (mayB_mem ha x hx)
    rw [varOf_lit' (mayB_mem ha x hx)]
    split <;> omega
  · rintro ⟨_, x, hx, rfl⟩
    exact ⟨x, hx, rfl⟩
theorem manyB_parts {vs : List Int} (h : manyB vs = true) : vs.length ≤ 64 ∧ mayB vs = true ∧ ∀ x ∈ vs, 0 ≤ x := by unfold manyB at h; rw [decide_eq_true_eq] at h; exact h
theorem rn_fit {vs a r : List Int} (hm : manyB vs = true) (ha : mayB a = true) (hr : VarsOf [a] r) : sameB vs r = fits vs a := by
  have er : r = a.map varOf := hr.unique (vars_one ha)
  subst er
  obtain ⟨_, hmv, hpos⟩ := manyB_parts hm
  unfold sameB fits
  rw [decide_eq_decide]
  constructor
  · intro h
    have hl : a.length = vs.length := by rw [h]; simp
    refine ⟨hl, fun i hi => ?_⟩
    have e : vs.getD i 0 = varOf (a.getD i 0) := by rw [h]; simp [List.getD, show i < a.length by omega]
    rw [e, varOf_lit' (mayB_mem ha _ (getD_mem (by omega)))]
    split <;> omega
  · rintro ⟨hl, h⟩
    refine List.ext_getElem (by simp [hl]) fun i h1 h2 => ?_
    have hi : i < a.length := by omega
    have hlit := mayB_mem ha _ (getD_mem hi)
    have hp := hpos _ (getD_mem h1)
    have hlv := litB_bd (mayB_mem hmv _ (getD_mem h1))
    have hk := h i h1
    have e1 : vs.getD i 0 = vs[i] := by simp [List.getD, h1]
    have e2 : a.getD i 0 = a[i] := by simp [List.getD, hi]
    rw [e1] at hp hlv hk
    rw [e2] at hlit hk
    rw [List.getElem_map, varOf_lit' hlit]
    split <;> omega
theorem rn_num {vs a : List Int} (hm : manyB vs = true) (ha : mayB a = true) (hf : fits vs a = true) : ∀ k, k ≤ vs.length → numK vs a k = numP a k := by
  obtain ⟨_, hmv, hpos⟩ := manyB_parts hm
  unfold fits at hf
  rw [decide_eq_true_eq] at hf
  intro k hk
  induction k with
  | zero => rfl
  | succ k ih =>
    have h1 := ih (by omega)
    have h2 := hf.2 k (by omega)
    have h3 := litB_bd (mayB_mem hmv _ (getD_mem (show k < vs.length by omega)))
    have h4 := hpos _ (getD_mem (show k < vs.length by omega))
    unfold numK numP
    rw [h1]
    have : (a.getD k 0 = vs.getD k 0) ↔ 0 < a.getD k 0 := by omega
    simp only [this]

theorem rone_any (va : Value) (xs : List Int) (w : World) (HA : IsInts w va xs) : Calls Tryd.prog 67 #[.slice (some ⟨w.heap.size, 0, none⟩) 1 1] (w.alloc (.cells #[va] 22))
    (fun e w' => ∃ a c r, e = .returned (.slice a r.length c) ∧ IsInts w' (.slice a r.length c) r ∧ VarsOf [xs] r ∧ Below w.heap.size w w') := by
  refine (rvars_any _ [xs] (w.alloc (.cells #[va] 22)) (IsRows.blks (zat0 rfl) rfl rfl (RowsAre.cons (HA.below (zst (Below.refl _ _)) (Nat.le_refl _)) (RowsAre.nil _)) (by simp))).mono ?_
  rintro e w3 ⟨r, ⟨vr, rfl, hor, hz3⟩, hvr, hrl, hr64⟩
  have HR3 := hor.ints (by omega) hr64
  have HR := HR3
  obtain ⟨ar, cr, rfl⟩ := HR3.shape
  exact ⟨ar, cr, r, rfl, HR, hvr, (zst (Below.refl _ _)).trans (hz3.mono (by simp))⟩
def RetNumB (w : World) (r : Nat × Int) (e : Ending) (w' : World) : Prop := e = .returned (.tuple #[.int .u64 r.1, .int .i64 r.2]) ∧ Below w.heap.size w w'

set_option maxHeartbeats 1600000 in
set_option maxRecDepth 100000 in
theorem rnumber_any (v u : Value) (vs xs : List Int) (w : World) (H : IsInts w v vs) (HA : IsInts w u xs) :
    Calls Tryd.prog 35 #[v, u] w (RetNumB w (numberL vs xs)) := by
  have H0 := H
  have HA0 := HA
  obtain ⟨a, cap, rfl⟩ := H.shape
  obtain ⟨a2, cap2, rfl, _, _, hl2, hi642, b2, off2, ha2, hc2⟩ := HA
  by_cases hm : manyB vs = true
  · by_cases hma : mayB xs = true
    · have hone : ([xs] : List (List Int)).length ≤ 17592186044416 := by simp
      by_cases hf : fits vs xs = true
      · have HE : Hid (numberL vs xs = (numP xs xs.length, 0)) := by
          have hlf : xs.length = vs.length := by have h := hf; unfold fits at h; rw [decide_eq_true_eq] at h; exact h.1
          show _ = _; unfold numberL; rw [hm, hma, Bool.and_self, if_pos rfl, if_pos hf, rn_num hm hma hf _ (Nat.le_refl _), hlf]
        have h64 : xs.length ≤ 64 := by have h := hf; unfold fits at h; rw [decide_eq_true_eq] at h; have := (manyB_parts hm).1; omega
        have HC2 := Lib.hid hc2
        have HFT : Hid (∀ r, VarsOf [xs] r → sameB vs r = true) := fun r hr => by rw [rn_fit hm hma hr, hf]
        have HMM := Lib.hid (mayB_mem hma)
        clear hc2
        go_enter Tryd.func35, Tryd.ntmps35
        go_wp2_with (first
          | (go_at_call_of 66 (Value.slice a vs.length cap); refine (rmany_any _ vs w H0).mono ?_; rintro e w1 ⟨rfl, hq1⟩; rw [hm])
          | (go_at_call_of 36 (Value.slice a2 xs.length cap2); refine (rmay_v _ xs w1 (HA0.quiet hq1)).mono ?_; rintro e w2 ⟨rfl, hq2⟩; rw [hma]; have HA2 := (HA0.quiet hq1).quiet hq2; have H2 := (H0.quiet hq1).quiet hq2; have hb2 := (hq1.trans hq2).below w.heap.size)
          | (go_at_call 67; refine (rone_any _ xs w2 HA2).mono ?_; rintro e w3 ⟨ar, cr, r, rfl, HR3, hvr, hz3⟩; have hb3 := hb2.trans (hz3.mono hb2.size); have H3 := H0.below hb3 (Nat.le_refl _); have hsm := same_any _ _ vs r w3 H3 HR3; rw [HFT.out r hvr] at hsm)
          | (go_at_call 57; refine hsm.mono ?_; rintro e w4 ⟨rfl, hq4⟩; have hb4 := hb3.trans (hq4.below _)))
        have HB4 := Lib.hid hb4
        clear hb4 hb3 hb2 H2 H3 HA2 HR3 hvr hsm hz3 hq1 hq2 hq4
        go_loopw [6, 7] (fun n i wr => ∃ k : Nat, k ≤ xs.length ∧ n = .int .u64 (numP xs k) ∧ i = .int .i64 k ∧ Below w.heap.size w wr) (fun _ i _ => xs.length - (intOf i).toNat)
        case atStart => exact ⟨0, Nat.zero_le _, rfl, rfl, HB4.out⟩
        case round =>
          obtain ⟨k, hk, rfl, rfl, hbel⟩ := hrel
          have HB := Lib.hid hbel
          by_cases hlt : k < xs.length
          · obtain ⟨rfl, hbs2⟩ := ha2 (by intro h; simp [h] at hlt)
            have hx := (hbel.cell (p := ⟨b2, off2 + k, none⟩) hbs2).trans (HC2.out k hlt)
            have hlt64 : k < 64 := by omega
            have hno := numP_lt xs k
            have hor := or_of (numP xs k) k hlt64 hno
            have HN : Hid (numP xs (k + 1) = numP xs k + if 0 < xs.getD k 0 then 2 ^ k else 0) := rfl
            obtain ⟨_, hx3, hx4⟩ := litB_bd (HMM.out _ (getD_mem hlt))
            clear hbel
            generalize xs.getD k 0 = x at *
            generalize numP xs k = m at *
            by_cases h1 : 0 < x
            · have HM : Hid (numP xs (k + 1) = m + 2 ^ k) := by have := HN.out; rw [if_pos h1] at this; exact this
              clear HN hno
              go_wp2
              go_roundw
              case rel => exact ⟨k + 1, by omega, by rw [HM.out, Int.natCast_add]; simp, by go_num, HB.out⟩
              case measure => simp [intOf]; omega
            · have HM : Hid (numP xs (k + 1) = m) := by have := HN.out; rw [if_neg h1] at this; exact this
              clear HN hno hor
              go_wp2
              go_roundw
              case rel => exact ⟨k + 1, by omega, by rw [HM.out], by go_num, HB.out⟩
              case measure => simp [intOf]; omega
          · have hk2 : k = xs.length := by omega
            subst hk2
            clear hbel
            go_wp2
            go_ret2
            exact ⟨by rw [HE.out]; rfl, HB.out⟩
      · have hf' : fits vs xs = false := by simpa using hf
        have HE : Hid (numberL vs xs = (0, 6)) := by show _ = _; unfold numberL; rw [hm, hma, hf']; rfl
        have HFT : Hid (∀ r, VarsOf [xs] r → sameB vs r = false) := fun r hr => by rw [rn_fit hm hma hr, hf']
        clear hc2
        go_enter Tryd.func35, Tryd.ntmps35
        go_wp2_with (first
          | (go_at_call_of 66 (Value.slice a vs.length cap); refine (rmany_any _ vs w H0).mono ?_; rintro e w1 ⟨rfl, hq1⟩; rw [hm])
          | (go_at_call_of 36 (Value.slice a2 xs.length cap2); refine (rmay_v _ xs w1 (HA0.quiet hq1)).mono ?_; rintro e w2 ⟨rfl, hq2⟩; rw [hma]; have HA2 := (HA0.quiet hq1).quiet hq2; have H2 := (H0.quiet hq1).quiet hq2; have hb2 := (hq1.trans hq2).below w.heap.size)
          | (go_at_call 67; refine (rone_any _ xs w2 HA2).mono ?_; rintro e w3 ⟨ar, cr, r, rfl, HR3, hvr, hz3⟩; have hb3 := hb2.trans (hz3.mono hb2.size); have H3 := H0.below hb3 (Nat.le_refl _); have hsm := same_any _ _ vs r w3 H3 HR3; rw [HFT.out r hvr] at hsm)
          | (go_at_call 57; refine hsm.mono ?_; rintro e w4 ⟨rfl, hq4⟩; have hb4 := hb3.trans (hq4.below _)))
        go_ret2
        exact ⟨by rw [HE.out]; rfl, hb4⟩
    · have hma' : mayB xs = false := by simpa using hma
      have HE : Hid (numberL vs xs = (0, 2)) := by show _ = _; unfold numberL; rw [hma', Bool.and_false]; rfl
      clear hc2 hma
      go_enter Tryd.func35, Tryd.ntmps35
      go_wp2_with (first
        | (go_at_call_of 66 (Value.slice a vs.length cap); refine (rmany_any _ vs w H0).mono ?_; rintro e w1 ⟨rfl, hq1⟩; rw [hm])
        | (go_at_call_of 36 (Value.slice a2 xs.length cap2); refine (rmay_v _ xs w1 (HA0.quiet hq1)).mono ?_; rintro e w2 ⟨rfl, hq2⟩; rw [hma']; have hb2 := (hq1.trans hq2).below w.heap.size))
      go_ret2
      exact ⟨by rw [HE.out]; rfl, hb2⟩
  · have hm' : manyB vs = false := by simpa using hm
    have HE : Hid (numberL vs xs = (0, 2)) := by show _ = _; unfold numberL; rw [hm']; rfl
    clear hc2 hm
    go_enter Tryd.func35, Tryd.ntmps35
    go_wp2_with (go_at_call_of 66 (Value.slice a vs.length cap); refine (rmany_any _ vs w H0).mono ?_; rintro e w1 ⟨rfl, hq1⟩; rw [hm']; have hb1 := hq1.below w.heap.size)
    go_ret2
    exact ⟨by rw [HE.out]; rfl, hb1⟩

end Go.Proofs.YtkcbicakcjflkaaDoor

/- The law on points, walked. -/
namespace Go.Proofs.YtkcbicakcjflkaaDoor
open Go.RowKit
set_option linter.unusedVariables false
set_option linter.unusedSimpArgs false

set_option maxHeartbeats 4000000 in
set_option maxRecDepth 100000 in
theorem points_big (a0 a1 : Option Addr) (n0 c0 n1 c1 : Nat) (x : Nat) (w : World) (hS : SameAz w) (h : 200 < n0 ∨ 200 < n1) (h0 : n0 ≤ 9223372036854775807) (h1 : n1 ≤ 9223372036854775807) :
    Calls Tryd.prog 6 #[.slice a0 n0 c0, .slice a1 n1 c1, .int .u64 x] w (fun e w' => e = .returned (.bool true) ∧ Below w.heap.size w w') := by
  have HS := Lib.hid hS
  clear hS
  by_cases hb : 200 < n0
  · clear h
    go_enter Tryd.func6, Tryd.ntmps6
    go_wp2_with (go_at_call 12; refine (awakezX (Below.refl _ w) HS.out).mono ?_; rintro e w2 ⟨rfl, hb2⟩)
    go_ret
    exact ⟨rfl, hb2⟩
  · have hn1 : 200 < n1 := by omega
    clear h
    go_enter Tryd.func6, Tryd.ntmps6
    go_wp2_with (go_at_call 12; refine (awakezX (Below.refl _ w) HS.out).mono ?_; rintro e w2 ⟨rfl, hb2⟩)
    go_ret
    exact ⟨rfl, hb2⟩

theorem sameB_self (l : List Int) : sameB l l = true := by unfold sameB; simp
theorem samezX {w : World} {u v : Value} {l : List Int} (H : IsInts w u l) (K : IsInts w v l) : Calls Tryd.prog 57 #[u, v] w (fun e w' => e = .returned (.bool true) ∧ Below w.heap.size w w') :=
  (same_any _ _ l l w H K).mono fun e w' h => ⟨by rw [h.1, sameB_self], h.2.below _⟩

set_option maxHeartbeats 4000000 in
set_option maxRecDepth 100000 in
theorem points_small (va vb : Value) (l m : List Int) (x : Nat) (w : World) (hS : SameAz w) (H : IsInts w va l) (K : IsInts w vb m) (h0 : l.length ≤ 200) (h1 : m.length ≤ 200) (hx : x < 18446744073709551616) :
    Calls Tryd.prog 6 #[va, vb, .int .u64 x] w (fun e w' => e = .returned (.bool true) ∧ Below w.heap.size w w') := by
  have hlt := hS.lt
  have HS := Lib.hid hS
  have HA := Lib.hid H
  have HK := Lib.hid K
  clear hS
  obtain ⟨a0, c0, rfl⟩ := H.shape
  obtain ⟨a1, c1, rfl⟩ := K.shape
  have hp := fun (W : World) (h : IsInts W (.slice a0 l.length c0) l) => point_any _ l x W h hx
  have hr := fun (W : World) (h : IsInts W (.slice a0 l.length c0) l) => rpoint_any _ l x W h hx
  have hn := fun (W : World) (h : IsInts W (.slice a0 l.length c0) l) (k : IsInts W (.slice a1 m.length c1) m) => number_any _ _ l m W h k
  have hm := fun (W : World) (h : IsInts W (.slice a0 l.length c0) l) (k : IsInts W (.slice a1 m.length c1) m) => rnumber_any _ _ l m W h k
  generalize pointL l x = P at *
  generalize numberL l m = N at *
  obtain ⟨pl, pc⟩ := P
  obtain ⟨nn, nc⟩ := N
  have HP := Lib.hid hp
  have HR := Lib.hid hr
  have HN := Lib.hid hn
  have HM := Lib.hid hm
  clear H K hp hr hn hm
  go_enter Tryd.func6, Tryd.ntmps6
  go_wp2_with (first
    | (go_at_call 32; refine (HP.out w HA.out).mono ?_; rintro e w1 ⟨v1, rfl, hi1, hb1⟩; have hs1 := hb1.size)
    | (go_at_call 33; refine (HR.out w1 (HA.out.below hb1 (Nat.le_refl _))).mono ?_; rintro e w2 ⟨v2, rfl, hi2, hz2⟩; have hb2 := hb1.trans (hz2.mono hs1); have hs2 := hb2.size; have hj2 := hi1.below hz2 (Nat.le_refl _))
    | (go_at_call 34; refine (HN.out w2 (HA.out.below hb2 (Nat.le_refl _)) (HK.out.below hb2 (Nat.le_refl _))).mono ?_; rintro e w' ⟨rfl, rfl⟩)
    | (go_at_call 35; refine (HM.out w2 (HA.out.below hb2 (Nat.le_refl _)) (HK.out.below hb2 (Nat.le_refl _))).mono ?_; rintro e w3 ⟨rfl, hz3⟩; have hb3 := hb2.trans (hz3.mono hs2); have hs3 := hb3.size; have hi3 := hi2.below hz3 (Nat.le_refl _); have hj3 := hj2.below hz3 (Nat.le_refl _); have hg3 := HS.out.below hb3 hlt; unfold SameAz at hg3)
    | (go_at_call 57; refine (samezX hj3 hi3).mono ?_; rintro e w4 ⟨rfl, hz4⟩; have hb4 := hb3.trans (hz4.mono hs3))
    | (go_at_call 12; refine (awakezX hb4 HS.out).mono ?_; rintro e w5 ⟨rfl, hb5⟩))
  go_ret
  exact ⟨rfl, hb5⟩

end Go.Proofs.YtkcbicakcjflkaaDoor
