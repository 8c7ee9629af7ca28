/- The law on points there and back, walked. (The walk of its region 7 is written by program.) -/
import Derived.Test.YtmhjpbhldaagmaaDoorMgI
import Derived.Test.YtmhjpbhldaagmaaDoorBackP
import Derived.Deep.DeepCutAuto
import Derived.Deep.RegionHeld3
namespace Go.Proofs.YtmhjpbhldaagmaaDoor
open Go.RowKit
set_option linter.unusedVariables false
set_option linter.unusedSimpArgs false

/-- The variable that is listed holds what it held, and what lay there lies there. -/
def Sz (w wx : World) : Prop := SameAz wx ∧ Below w.heap.size w wx
theorem Sz.of {w wx : World} (h : SameAz w) (hb : Below w.heap.size w wx) : Sz w wx := ⟨h.below hb h.lt, hb⟩
theorem Sz.alloc {w W : World} (h : Sz w W) (o : Obj) : Sz w (W.alloc o) := ⟨h.1.below (zst (Below.refl _ _)) h.1.lt, zst (o := o) h.2⟩
theorem Sz.drew {w W : World} (h : Sz w W) : Sz w W.drew := ⟨h.1.below (Below.refl _ _).drew h.1.lt, h.2.drew⟩
theorem takeZ {P : Program} {md : Region.Mode} {ops : Array Oper} {Q : Exit → Act → World → Prop} {S : World → Prop} {i : Nat} {oi : Oper} {v : Value} (d : Option Tmp) {fuel : Nat} {listed : Array Bool} {a : Act} {w : World} (hi : ops[i]? = some oi) (hd : oi.dst = d)
    (hs : Region.noSelect ops = true) (hf : Region.free md ops listed i = true) (hr : (Region.ready md ops listed).contains i = true)
    (hQ : ∀ c a w, Q (.panic c) (a.put oi.dst v) w → Q (.panic c) a w) (hy : YieldsIf P ops S oi v a) (hS : S w)
    (h : wpAnyH P md ops Q S fuel (listed.setIfInBounds i true) (a.put d v) w) : wpAnyH P md ops Q S (fuel + 1) listed a w := by
  subst hd
  exact wpAnyH_take hi hs hf hr hQ hy hS h

theorem vone_any {w0 : World} {vp : Value} {xs vs : List Int} (HA : IsInts w0 vp xs) (hm : manyB vs = true) (ha : mayB xs = true) (hf : fits vs xs = true) (w : World) (hb : Below w0.heap.size w0 w) : Calls Tryd.prog 16 #[.slice (some ⟨w.heap.size, 0, none⟩) 1 1] (w.alloc (.cells #[vp] 23))
    (fun e w' => ∃ a c, e = .returned (.slice a vs.length c) ∧ IsInts w' (.slice a vs.length c) vs ∧ Below w0.heap.size w0 w') := by
  have hba := zst (o := .cells #[vp] 23) hb
  refine (vars_any _ [xs] (w.alloc (.cells #[vp] 23)) (IsRows.blks (zat0 rfl) rfl rfl (RowsAre.cons (HA.below hba (Nat.le_refl _)) (RowsAre.nil _)) (by simp))).mono ?_
  rintro e w3 ⟨r, ⟨vr, rfl, hor, hz3⟩, hvr, hrl, hr64⟩
  have HR3 := hor.ints (by omega) hr64
  have hs := rn_fit hm ha hvr
  rw [hf] at hs
  unfold sameB at hs
  obtain rfl := of_decide_eq_true hs
  have HR := HR3
  obtain ⟨ar, cr, rfl⟩ := HR3.shape
  exact ⟨ar, cr, rfl, HR, hba.trans (hz3.mono hba.size)⟩

set_option maxHeartbeats 4000000 in
set_option maxRecDepth 100000 in
theorem back_big (a0 a1 : Option Addr) (n0 c0 n1 c1 : Nat) (x y : Nat) (w : World) (hS : SameAz w) (h : 200 < n0 ∨ 200 < n1) (h0 : n0 ≤ 9223372036854775807) (h1 : n1 ≤ 9223372036854775807) :
    Calls Tryd.prog 5 #[.slice a0 n0 c0, .slice a1 n1 c1, .int .u64 x, .int .u64 y] w (fun e w' => e = .returned (.bool true) ∧ Below w.heap.size w w') := by
  have HS := Lib.hid hS
  clear hS
  by_cases hb : 200 < n0
  · clear h
    go_enter Tryd.func5, Tryd.ntmps5
    go_wp2_with (go_at_call 8; refine (awakezX (Below.refl _ w) HS.out).mono ?_; rintro e w2 ⟨rfl, hb2⟩)
    go_ret
    exact ⟨rfl, hb2⟩
  · have hn1 : 200 < n1 := by omega
    clear h
    go_enter Tryd.func5, Tryd.ntmps5
    go_wp2_with (go_at_call 8; refine (awakezX (Below.refl _ w) HS.out).mono ?_; rintro e w2 ⟨rfl, hb2⟩)
    go_ret
    exact ⟨rfl, hb2⟩

set_option maxHeartbeats 4000000 in
set_option maxRecDepth 100000 in
theorem back_small (va vb : Value) (l m : List Int) (x y : Nat) (w : World) (hS : SameAz w) (H : IsInts w va l) (K : IsInts w vb m) (h0 : l.length ≤ 200) (h1 : m.length ≤ 200) (hx : x < 18446744073709551616) (hy : y < 18446744073709551616) :
    Calls Tryd.prog 5 #[va, vb, .int .u64 x, .int .u64 y] w (fun e w' => e = .returned (.bool true) ∧ Below w.heap.size w w') := by
  have hlt := hS.lt
  have HS := Lib.hid hS
  have HA := Lib.hid H
  have HK := Lib.hid K
  clear hS
  obtain ⟨a0, c0, rfl⟩ := H.shape
  obtain ⟨a1, c1, rfl⟩ := K.shape
  have hp := fun (W : World) (h : IsInts W (.slice a0 l.length c0) l) => point_any _ l x W h hx
  have hq := fun (W : World) (h : IsInts W (.slice a0 l.length c0) l) => point_any _ l y W h hy
  have hn := fun (W : World) (h : IsInts W (.slice a0 l.length c0) l) (k : IsInts W (.slice a1 m.length c1) m) => number_any _ _ l m W h k
  have f1 : ∀ P, pointL l x = (P, 0) → numberL l P = (x, 0) ∧ manyB l = true ∧ mayB P = true ∧ fits l P = true := fun P h => number_point h
  have f2 : ∀ P c, pointL l x = (P, c) → c ≠ 0 → P = [] := fun P c h hc => point_none h hc
  have f3 : ∀ P Q, pointL l x = (P, 0) → pointL l y = (Q, 0) → x ≠ y → sameB P Q = false := fun P Q h k hne => by
    have e1 := (number_point h).1
    have e2 := (number_point k).1
    unfold sameB
    rw [decide_eq_false_iff_not]
    intro e
    rw [e, e2] at e1
    exact hne (Prod.mk.inj e1).1.symm
  have f4 : ∀ k c, numberL l m = (k, c) → c ≠ 0 → k = 0 := fun k c h hc => number_none h hc
  have f5 : ∀ k, numberL l m = (k, 0) → ∀ W, IsInts W (.slice a0 l.length c0) l → Calls Tryd.prog 17 #[.slice a0 l.length c0, .int .u64 k] W (RetPair W (m, 0)) := fun k h W hW => by
    have h2 := point_number h
    have h3 := number_point h2.1
    have h4 := (manyB_parts h3.2.1).1
    have h5 : k < 18446744073709551616 := Nat.lt_of_lt_of_le h2.2 (Nat.le_trans (Nat.pow_le_pow_right (by decide) h4) (by decide))
    have := point_any _ l k W hW h5
    rw [h2.1] at this
    exact this
  generalize hPx : pointL l x = Px at *
  generalize hPy : pointL l y = Py at *
  generalize hNm : numberL l m = Nm at *
  obtain ⟨P, pc⟩ := Px
  obtain ⟨Q, fc⟩ := Py
  obtain ⟨k, gc⟩ := Nm
  have HP := Lib.hid hp
  have HQ := Lib.hid hq
  have HN := Lib.hid hn
  have F4 : Hid (gc ≠ 0 → k = 0) := fun h => f4 k gc rfl h
  have F5 : Hid (gc = 0 → ∀ W, IsInts W (.slice a0 l.length c0) l → Calls Tryd.prog 17 #[.slice a0 l.length c0, .int .u64 k] W (RetPair W (m, 0))) := fun h => f5 k (by rw [h])
  clear hp hq hn f4 f5 hPx hPy hNm
  by_cases hpc : pc = 0
  · subst hpc
    obtain ⟨g1, g2, g3, g4⟩ := f1 P rfl
    have hn1 := fun (W : World) (u : Value) (h : IsInts W (.slice a0 l.length c0) l) (k : IsInts W u P) => number_any _ _ l P W h k
    rw [g1] at hn1
    have HN1 := Lib.hid hn1
    have F3 : Hid (fc = 0 → x ≠ y → sameB P Q = false) := fun h => f3 P Q rfl (by rw [h])
    have G2 := Lib.hid g2
    have G3 := Lib.hid g3
    have G4 := Lib.hid g4
    clear hn1 f1 f2 f3 g1 g2 g3 g4 H K
    go_enter Tryd.func5, Tryd.ntmps5
    go_upto_region 7 with (first
      | (go_at_call_of 17 (Value.int .u64 (x : Int)); refine (HP.out w HA.out).mono ?_; rintro e w1 ⟨v1, rfl, hi1, hb1⟩; have hs1 := hb1.size; obtain ⟨ap, cp, rfl⟩ := hi1.shape)
      | (go_at_call_of 17 (Value.int .u64 (y : Int)); refine (HQ.out w1 (HA.out.below hb1 (Nat.le_refl _))).mono ?_; rintro e w2 ⟨v2, rfl, hi2, hz2⟩; have hb2 := hb1.trans (hz2.mono hs1); have hs2 := hb2.size; obtain ⟨aq, cq, rfl⟩ := hi2.shape; have hj2 := hi1.below hz2 (Nat.le_refl _))
      | (go_at_call 23; refine (HN1.out w2 _ (HA.out.below hb2 (Nat.le_refl _)) hj2).mono ?_; rintro e w' ⟨rfl, rfl⟩))
    go_cut [78] (fun t wx => t = .bool false ∧ Below w.heap.size w wx)
    case first =>
      have HA2 := Lib.hid (HA.out.below hb2 (Nat.le_refl _))
      have HS2 := Lib.hid (HS.out.below hb2 hlt)
      have HV := Lib.hid (vone_any hj2 G2.out G3.out G4.out)
      have hsg : Sz w2 w2 := Sz.of HS2.out (Below.refl _ _)
      have HPQ : Hid (fc = 0 → x ≠ y → ∀ W, Below w2.heap.size w2 W → Calls Tryd.prog 68 #[.slice ap P.length cp, .slice aq Q.length cq] W (fun e w' => e = .returned (.bool false) ∧ Below w2.heap.size w2 w')) := fun hf hne W hW =>
        (same_any _ _ P Q W (hj2.below hW (Nat.le_refl _)) (hi2.below hW (Nat.le_refl _))).mono fun e w' h => ⟨by rw [h.1, F3.out hf hne], hW.trans (h.2.below _)⟩
      clear hi1 hi2 hj2 hb1
      go_wp2_with fail
      refine wp_region_held_drew (S := Sz w2) (by kernel_rfl) hsg.drew (fun hHeld => ?_)
      clear hsg
      generalize w2.drew = wd at *
      by_cases hfc : fc = 0
      · subst hfc
        by_cases hxy : x = y
        · subst hxy
          clear HPQ
          refine takeZ (i := 0) (v := .int .i64 0) (some 48) rfl rfl (by kernel_rfl) (by kernel_rfl) (by kernel_rfl) (fun _ _ _ h => h) (Or.inl ⟨by rfl, ?_⟩) (by assumption) ?_
          · intro wz hSw; have hcz := hSw.1; unfold SameAz at hcz; go_simp
          try simp only [Act.put, List.setIfInBounds_toArray, List.set_cons_zero, List.set_cons_succ]
          refine takeZ (i := 1) (v := .bool false) (some 49) rfl rfl (by kernel_rfl) (by kernel_rfl) (by kernel_rfl) (fun _ _ _ h => h) (Or.inl ⟨by rfl, ?_⟩) (by assumption) ?_
          · intro wz hSw; have hcz := hSw.1; unfold SameAz at hcz; go_simp
          try simp only [Act.put, List.setIfInBounds_toArray, List.set_cons_zero, List.set_cons_succ]
          refine takeZ (i := 2) (v := .bool false) (some 50) rfl rfl (by kernel_rfl) (by kernel_rfl) (by kernel_rfl) (fun _ _ _ h => h) (Or.inl ⟨by rfl, ?_⟩) (by assumption) ?_
          · intro wz hSw; have hcz := hSw.1; unfold SameAz at hcz; go_simp
          try simp only [Act.put, List.setIfInBounds_toArray, List.set_cons_zero, List.set_cons_succ]
          refine takeZ (i := 3) (v := .int .u64 (x : Int)) (some 51) rfl rfl (by kernel_rfl) (by kernel_rfl) (by kernel_rfl) (fun _ _ _ h => h) (Or.inl ⟨by rfl, ?_⟩) (by assumption) ?_
          · intro wz hSw; have hcz := hSw.1; unfold SameAz at hcz; go_simp
          try simp only [Act.put, List.setIfInBounds_toArray, List.set_cons_zero, List.set_cons_succ]
          refine takeZ (i := 4) (v := .int .u64 (x : Int)) (some 52) rfl rfl (by kernel_rfl) (by kernel_rfl) (by kernel_rfl) (fun _ _ _ h => h) (Or.inl ⟨by rfl, ?_⟩) (by assumption) ?_
          · intro wz hSw; have hcz := hSw.1; unfold SameAz at hcz; go_simp
          try simp only [Act.put, List.setIfInBounds_toArray, List.set_cons_zero, List.set_cons_succ]
          refine takeZ (i := 5) (v := .bool false) (some 53) rfl rfl (by kernel_rfl) (by kernel_rfl) (by kernel_rfl) (fun _ _ _ h => h) (Or.inl ⟨by rfl, ?_⟩) (by assumption) ?_
          · intro wz hSw; have hcz := hSw.1; unfold SameAz at hcz; go_simp
          try simp only [Act.put, List.setIfInBounds_toArray, List.set_cons_zero, List.set_cons_succ]
          refine takeZ (i := 6) (v := .bool false) (some 54) rfl rfl (by kernel_rfl) (by kernel_rfl) (by kernel_rfl) (fun _ _ _ h => h) (Or.inl ⟨by rfl, ?_⟩) (by assumption) ?_
          · intro wz hSw; have hcz := hSw.1; unfold SameAz at hcz; go_simp
          try simp only [Act.put, List.setIfInBounds_toArray, List.set_cons_zero, List.set_cons_succ]
          refine takeZ (i := 7) (v := .bool false) (some 55) rfl rfl (by kernel_rfl) (by kernel_rfl) (by kernel_rfl) (fun _ _ _ h => h) (Or.inl ⟨by rfl, ?_⟩) (by assumption) ?_
          · intro wz hSw; have hcz := hSw.1; unfold SameAz at hcz; go_simp
          try simp only [Act.put, List.setIfInBounds_toArray, List.set_cons_zero, List.set_cons_succ]
          refine takeZ (i := 8) (v := .func (.func 68) #[] #[]) (some 56) rfl rfl (by kernel_rfl) (by kernel_rfl) (by kernel_rfl) (fun _ _ _ h => h) (Or.inl ⟨by rfl, ?_⟩) (by assumption) ?_
          · intro wz hSw; have hcz := hSw.1; unfold SameAz at hcz; go_simp
          try simp only [Act.put, List.setIfInBounds_toArray, List.set_cons_zero, List.set_cons_succ]
          refine takeZ (i := 9) (v := .slice ap P.length cp) (some 57) rfl rfl (by kernel_rfl) (by kernel_rfl) (by kernel_rfl) (fun _ _ _ h => h) (Or.inl ⟨by rfl, ?_⟩) (by assumption) ?_
          · intro wz hSw; have hcz := hSw.1; unfold SameAz at hcz; go_simp
          try simp only [Act.put, List.setIfInBounds_toArray, List.set_cons_zero, List.set_cons_succ]
          refine takeZ (i := 12) (v := .slice a0 l.length c0) (some 60) rfl rfl (by kernel_rfl) (by kernel_rfl) (by kernel_rfl) (fun _ _ _ h => h) (Or.inl ⟨by rfl, ?_⟩) (by assumption) ?_
          · intro wz hSw; have hcz := hSw.1; unfold SameAz at hcz; go_simp
          try simp only [Act.put, List.setIfInBounds_toArray, List.set_cons_zero, List.set_cons_succ]
          refine wpAnyH_ready (rs := [10]) (by kernel_rfl) (by simp) ?_
          refine AllReadyH.cons rfl (fun K hK => ?_) AllReadyH.nil
          go_simp
          refine hK.out _ _ (Sz.alloc (by assumption) _) (fun hHeld2 => ?_)
          clear hK K
          refine wpAnyH_ready (rs := [11]) (by kernel_rfl) (by simp) ?_
          refine AllReadyH.cons rfl (fun K hK => ?_) AllReadyH.nil
          go_simp
          go_wp2_with (go_at_call 16; refine (HV.out wd hHeld.2).mono ?_; rintro e wv ⟨av, cv, rfl, hiv, hbv⟩)
          refine hK.out _ _ (Sz.of HS2.out hbv) (fun hHeld3 => ?_)
          clear hK K
          refine wpAnyH_ready (rs := [13]) (by kernel_rfl) (by simp) ?_
          refine AllReadyH.cons rfl (fun K hK => ?_) AllReadyH.nil
          go_simp
          go_wp2_with (go_at_call 68; refine (samezX hiv (HA2.out.below hbv (Nat.le_refl _))).mono ?_; rintro e wt ⟨rfl, hzt⟩; have hbt := hbv.trans (hzt.mono hbv.size))
          refine hK.out _ _ (Sz.of HS2.out hbt) (fun hHeld4 => ?_)
          clear hK K
          refine takeZ (i := 14) (v := .bool false) (some 62) rfl rfl (by kernel_rfl) (by kernel_rfl) (by kernel_rfl) (fun _ _ _ h => h) (Or.inl ⟨by rfl, ?_⟩) (by assumption) ?_
          · intro wz hSw; have hcz := hSw.1; unfold SameAz at hcz; go_simp
          try simp only [Act.put, List.setIfInBounds_toArray, List.set_cons_zero, List.set_cons_succ]
          refine takeZ (i := 15) (v := .bool false) (some 63) rfl rfl (by kernel_rfl) (by kernel_rfl) (by kernel_rfl) (fun _ _ _ h => h) (Or.inl ⟨by rfl, ?_⟩) (by assumption) ?_
          · intro wz hSw; have hcz := hSw.1; unfold SameAz at hcz; go_simp
          try simp only [Act.put, List.setIfInBounds_toArray, List.set_cons_zero, List.set_cons_succ]
          refine takeZ (i := 16) (v := .bool false) (some 64) rfl rfl (by kernel_rfl) (by kernel_rfl) (by kernel_rfl) (fun _ _ _ h => h) (Or.inl ⟨by rfl, ?_⟩) (by assumption) ?_
          · intro wz hSw; have hcz := hSw.1; unfold SameAz at hcz; go_simp
          try simp only [Act.put, List.setIfInBounds_toArray, List.set_cons_zero, List.set_cons_succ]
          refine takeZ (i := 17) (v := .int .i64 0) (some 65) rfl rfl (by kernel_rfl) (by kernel_rfl) (by kernel_rfl) (fun _ _ _ h => h) (Or.inl ⟨by rfl, ?_⟩) (by assumption) ?_
          · intro wz hSw; have hcz := hSw.1; unfold SameAz at hcz; go_simp
          try simp only [Act.put, List.setIfInBounds_toArray, List.set_cons_zero, List.set_cons_succ]
          refine takeZ (i := 18) (v := .bool true) (some 66) rfl rfl (by kernel_rfl) (by kernel_rfl) (by kernel_rfl) (fun _ _ _ h => h) (Or.inl ⟨by rfl, ?_⟩) (by assumption) ?_
          · intro wz hSw; have hcz := hSw.1; unfold SameAz at hcz; go_simp
          try simp only [Act.put, List.setIfInBounds_toArray, List.set_cons_zero, List.set_cons_succ]
          refine takeZ (i := 19) (v := .bool true) (some 67) rfl rfl (by kernel_rfl) (by kernel_rfl) (by kernel_rfl) (fun _ _ _ h => h) (Or.inl ⟨by rfl, ?_⟩) (by assumption) ?_
          · intro wz hSw; have hcz := hSw.1; unfold SameAz at hcz; go_simp
          try simp only [Act.put, List.setIfInBounds_toArray, List.set_cons_zero, List.set_cons_succ]
          refine takeZ (i := 20) (v := .int .u64 (x : Int)) (some 68) rfl rfl (by kernel_rfl) (by kernel_rfl) (by kernel_rfl) (fun _ _ _ h => h) (Or.inl ⟨by rfl, ?_⟩) (by assumption) ?_
          · intro wz hSw; have hcz := hSw.1; unfold SameAz at hcz; go_simp
          try simp only [Act.put, List.setIfInBounds_toArray, List.set_cons_zero, List.set_cons_succ]
          refine takeZ (i := 21) (v := .int .u64 (x : Int)) (some 69) rfl rfl (by kernel_rfl) (by kernel_rfl) (by kernel_rfl) (fun _ _ _ h => h) (Or.inl ⟨by rfl, ?_⟩) (by assumption) ?_
          · intro wz hSw; have hcz := hSw.1; unfold SameAz at hcz; go_simp
          try simp only [Act.put, List.setIfInBounds_toArray, List.set_cons_zero, List.set_cons_succ]
          refine takeZ (i := 22) (v := .bool false) (some 70) rfl rfl (by kernel_rfl) (by kernel_rfl) (by kernel_rfl) (fun _ _ _ h => h) (Or.inl ⟨by rfl, ?_⟩) (by assumption) ?_
          · intro wz hSw; have hcz := hSw.1; unfold SameAz at hcz; go_simp
          try simp only [Act.put, List.setIfInBounds_toArray, List.set_cons_zero, List.set_cons_succ]
          refine takeZ (i := 23) (v := .bool false) (some 71) rfl rfl (by kernel_rfl) (by kernel_rfl) (by kernel_rfl) (fun _ _ _ h => h) (Or.inl ⟨by rfl, ?_⟩) (by assumption) ?_
          · intro wz hSw; have hcz := hSw.1; unfold SameAz at hcz; go_simp
          try simp only [Act.put, List.setIfInBounds_toArray, List.set_cons_zero, List.set_cons_succ]
          refine takeZ (i := 24) (v := .bool false) (some 72) rfl rfl (by kernel_rfl) (by kernel_rfl) (by kernel_rfl) (fun _ _ _ h => h) (Or.inl ⟨by rfl, ?_⟩) (by assumption) ?_
          · intro wz hSw; have hcz := hSw.1; unfold SameAz at hcz; go_simp
          try simp only [Act.put, List.setIfInBounds_toArray, List.set_cons_zero, List.set_cons_succ]
          refine takeZ (i := 25) (v := undef) (some 73) rfl rfl (by kernel_rfl) (by kernel_rfl) (by kernel_rfl) (fun _ _ _ h => h) (Or.inr ⟨by rfl, rfl⟩) (by assumption) ?_
          try simp only [Act.put, List.setIfInBounds_toArray, List.set_cons_zero, List.set_cons_succ]
          refine takeZ (i := 26) (v := undef) (some 74) rfl rfl (by kernel_rfl) (by kernel_rfl) (by kernel_rfl) (fun _ _ _ h => h) (Or.inr ⟨by rfl, rfl⟩) (by assumption) ?_
          try simp only [Act.put, List.setIfInBounds_toArray, List.set_cons_zero, List.set_cons_succ]
          refine takeZ (i := 27) (v := undef) (some 75) rfl rfl (by kernel_rfl) (by kernel_rfl) (by kernel_rfl) (fun _ _ _ h => h) (Or.inr ⟨by rfl, rfl⟩) (by assumption) ?_
          try simp only [Act.put, List.setIfInBounds_toArray, List.set_cons_zero, List.set_cons_succ]
          refine takeZ (i := 28) (v := undef) (some 76) rfl rfl (by kernel_rfl) (by kernel_rfl) (by kernel_rfl) (fun _ _ _ h => h) (Or.inr ⟨by rfl, rfl⟩) (by assumption) ?_
          try simp only [Act.put, List.setIfInBounds_toArray, List.set_cons_zero, List.set_cons_succ]
          refine takeZ (i := 29) (v := .bool false) (some 77) rfl rfl (by kernel_rfl) (by kernel_rfl) (by kernel_rfl) (fun _ _ _ h => h) (Or.inl ⟨by rfl, ?_⟩) (by assumption) ?_
          · intro wz hSw; have hcz := hSw.1; unfold SameAz at hcz; go_simp
          try simp only [Act.put, List.setIfInBounds_toArray, List.set_cons_zero, List.set_cons_succ]
          refine takeZ (i := 30) (v := .bool false) (some 78) rfl rfl (by kernel_rfl) (by kernel_rfl) (by kernel_rfl) (fun _ _ _ h => h) (Or.inl ⟨by rfl, ?_⟩) (by assumption) ?_
          · intro wz hSw; have hcz := hSw.1; unfold SameAz at hcz; go_simp
          try simp only [Act.put, List.setIfInBounds_toArray, List.set_cons_zero, List.set_cons_succ]
          refine wpAnyH_done (by kernel_rfl) ?_ _
          go_wp2
          go_meet
          exact ⟨rfl, hb2.trans (hbt.mono hs2)⟩
        · have hne : ((x : Int) != (y : Int)) = true := by simpa using fun h : (x : Int) = y => hxy (by omega)
          replace HPQ := Lib.hid (HPQ.out rfl hxy)
          clear hxy
          refine takeZ (i := 0) (v := .int .i64 0) (some 48) rfl rfl (by kernel_rfl) (by kernel_rfl) (by kernel_rfl) (fun _ _ _ h => h) (Or.inl ⟨by rfl, ?_⟩) (by assumption) ?_
          · intro wz hSw; have hcz := hSw.1; unfold SameAz at hcz; go_simp
          try simp only [Act.put, List.setIfInBounds_toArray, List.set_cons_zero, List.set_cons_succ]
          refine takeZ (i := 1) (v := .bool false) (some 49) rfl rfl (by kernel_rfl) (by kernel_rfl) (by kernel_rfl) (fun _ _ _ h => h) (Or.inl ⟨by rfl, ?_⟩) (by assumption) ?_
          · intro wz hSw; have hcz := hSw.1; unfold SameAz at hcz; go_simp
          try simp only [Act.put, List.setIfInBounds_toArray, List.set_cons_zero, List.set_cons_succ]
          refine takeZ (i := 2) (v := .bool false) (some 50) rfl rfl (by kernel_rfl) (by kernel_rfl) (by kernel_rfl) (fun _ _ _ h => h) (Or.inl ⟨by rfl, ?_⟩) (by assumption) ?_
          · intro wz hSw; have hcz := hSw.1; unfold SameAz at hcz; go_simp
          try simp only [Act.put, List.setIfInBounds_toArray, List.set_cons_zero, List.set_cons_succ]
          refine takeZ (i := 3) (v := .int .u64 (x : Int)) (some 51) rfl rfl (by kernel_rfl) (by kernel_rfl) (by kernel_rfl) (fun _ _ _ h => h) (Or.inl ⟨by rfl, ?_⟩) (by assumption) ?_
          · intro wz hSw; have hcz := hSw.1; unfold SameAz at hcz; go_simp
          try simp only [Act.put, List.setIfInBounds_toArray, List.set_cons_zero, List.set_cons_succ]
          refine takeZ (i := 4) (v := .int .u64 (x : Int)) (some 52) rfl rfl (by kernel_rfl) (by kernel_rfl) (by kernel_rfl) (fun _ _ _ h => h) (Or.inl ⟨by rfl, ?_⟩) (by assumption) ?_
          · intro wz hSw; have hcz := hSw.1; unfold SameAz at hcz; go_simp
          try simp only [Act.put, List.setIfInBounds_toArray, List.set_cons_zero, List.set_cons_succ]
          refine takeZ (i := 5) (v := .bool false) (some 53) rfl rfl (by kernel_rfl) (by kernel_rfl) (by kernel_rfl) (fun _ _ _ h => h) (Or.inl ⟨by rfl, ?_⟩) (by assumption) ?_
          · intro wz hSw; have hcz := hSw.1; unfold SameAz at hcz; go_simp
          try simp only [Act.put, List.setIfInBounds_toArray, List.set_cons_zero, List.set_cons_succ]
          refine takeZ (i := 6) (v := .bool false) (some 54) rfl rfl (by kernel_rfl) (by kernel_rfl) (by kernel_rfl) (fun _ _ _ h => h) (Or.inl ⟨by rfl, ?_⟩) (by assumption) ?_
          · intro wz hSw; have hcz := hSw.1; unfold SameAz at hcz; go_simp
          try simp only [Act.put, List.setIfInBounds_toArray, List.set_cons_zero, List.set_cons_succ]
          refine takeZ (i := 7) (v := .bool false) (some 55) rfl rfl (by kernel_rfl) (by kernel_rfl) (by kernel_rfl) (fun _ _ _ h => h) (Or.inl ⟨by rfl, ?_⟩) (by assumption) ?_
          · intro wz hSw; have hcz := hSw.1; unfold SameAz at hcz; go_simp
          try simp only [Act.put, List.setIfInBounds_toArray, List.set_cons_zero, List.set_cons_succ]
          refine takeZ (i := 8) (v := .func (.func 68) #[] #[]) (some 56) rfl rfl (by kernel_rfl) (by kernel_rfl) (by kernel_rfl) (fun _ _ _ h => h) (Or.inl ⟨by rfl, ?_⟩) (by assumption) ?_
          · intro wz hSw; have hcz := hSw.1; unfold SameAz at hcz; go_simp
          try simp only [Act.put, List.setIfInBounds_toArray, List.set_cons_zero, List.set_cons_succ]
          refine takeZ (i := 9) (v := .slice ap P.length cp) (some 57) rfl rfl (by kernel_rfl) (by kernel_rfl) (by kernel_rfl) (fun _ _ _ h => h) (Or.inl ⟨by rfl, ?_⟩) (by assumption) ?_
          · intro wz hSw; have hcz := hSw.1; unfold SameAz at hcz; go_simp
          try simp only [Act.put, List.setIfInBounds_toArray, List.set_cons_zero, List.set_cons_succ]
          refine takeZ (i := 12) (v := .slice a0 l.length c0) (some 60) rfl rfl (by kernel_rfl) (by kernel_rfl) (by kernel_rfl) (fun _ _ _ h => h) (Or.inl ⟨by rfl, ?_⟩) (by assumption) ?_
          · intro wz hSw; have hcz := hSw.1; unfold SameAz at hcz; go_simp
          try simp only [Act.put, List.setIfInBounds_toArray, List.set_cons_zero, List.set_cons_succ]
          refine wpAnyH_ready (rs := [10]) (by kernel_rfl) (by simp) ?_
          refine AllReadyH.cons rfl (fun K hK => ?_) AllReadyH.nil
          go_simp
          refine hK.out _ _ (Sz.alloc (by assumption) _) (fun hHeld2 => ?_)
          clear hK K
          refine wpAnyH_ready (rs := [11]) (by kernel_rfl) (by simp) ?_
          refine AllReadyH.cons rfl (fun K hK => ?_) AllReadyH.nil
          go_simp
          go_wp2_with (go_at_call 16; refine (HV.out wd hHeld.2).mono ?_; rintro e wv ⟨av, cv, rfl, hiv, hbv⟩)
          refine hK.out _ _ (Sz.of HS2.out hbv) (fun hHeld3 => ?_)
          clear hK K
          refine wpAnyH_ready (rs := [13]) (by kernel_rfl) (by simp) ?_
          refine AllReadyH.cons rfl (fun K hK => ?_) AllReadyH.nil
          go_simp
          go_wp2_with (go_at_call 68; refine (samezX hiv (HA2.out.below hbv (Nat.le_refl _))).mono ?_; rintro e wt ⟨rfl, hzt⟩; have hbt := hbv.trans (hzt.mono hbv.size))
          refine hK.out _ _ (Sz.of HS2.out hbt) (fun hHeld4 => ?_)
          clear hK K
          refine takeZ (i := 14) (v := .bool false) (some 62) rfl rfl (by kernel_rfl) (by kernel_rfl) (by kernel_rfl) (fun _ _ _ h => h) (Or.inl ⟨by rfl, ?_⟩) (by assumption) ?_
          · intro wz hSw; have hcz := hSw.1; unfold SameAz at hcz; go_simp
          try simp only [Act.put, List.setIfInBounds_toArray, List.set_cons_zero, List.set_cons_succ]
          refine takeZ (i := 15) (v := .bool false) (some 63) rfl rfl (by kernel_rfl) (by kernel_rfl) (by kernel_rfl) (fun _ _ _ h => h) (Or.inl ⟨by rfl, ?_⟩) (by assumption) ?_
          · intro wz hSw; have hcz := hSw.1; unfold SameAz at hcz; go_simp
          try simp only [Act.put, List.setIfInBounds_toArray, List.set_cons_zero, List.set_cons_succ]
          refine takeZ (i := 16) (v := .bool false) (some 64) rfl rfl (by kernel_rfl) (by kernel_rfl) (by kernel_rfl) (fun _ _ _ h => h) (Or.inl ⟨by rfl, ?_⟩) (by assumption) ?_
          · intro wz hSw; have hcz := hSw.1; unfold SameAz at hcz; go_simp
          try simp only [Act.put, List.setIfInBounds_toArray, List.set_cons_zero, List.set_cons_succ]
          refine takeZ (i := 17) (v := .int .i64 0) (some 65) rfl rfl (by kernel_rfl) (by kernel_rfl) (by kernel_rfl) (fun _ _ _ h => h) (Or.inl ⟨by rfl, ?_⟩) (by assumption) ?_
          · intro wz hSw; have hcz := hSw.1; unfold SameAz at hcz; go_simp
          try simp only [Act.put, List.setIfInBounds_toArray, List.set_cons_zero, List.set_cons_succ]
          refine takeZ (i := 18) (v := .bool true) (some 66) rfl rfl (by kernel_rfl) (by kernel_rfl) (by kernel_rfl) (fun _ _ _ h => h) (Or.inl ⟨by rfl, ?_⟩) (by assumption) ?_
          · intro wz hSw; have hcz := hSw.1; unfold SameAz at hcz; go_simp
          try simp only [Act.put, List.setIfInBounds_toArray, List.set_cons_zero, List.set_cons_succ]
          refine takeZ (i := 19) (v := .bool true) (some 67) rfl rfl (by kernel_rfl) (by kernel_rfl) (by kernel_rfl) (fun _ _ _ h => h) (Or.inl ⟨by rfl, ?_⟩) (by assumption) ?_
          · intro wz hSw; have hcz := hSw.1; unfold SameAz at hcz; go_simp
          try simp only [Act.put, List.setIfInBounds_toArray, List.set_cons_zero, List.set_cons_succ]
          refine takeZ (i := 20) (v := .int .u64 (x : Int)) (some 68) rfl rfl (by kernel_rfl) (by kernel_rfl) (by kernel_rfl) (fun _ _ _ h => h) (Or.inl ⟨by rfl, ?_⟩) (by assumption) ?_
          · intro wz hSw; have hcz := hSw.1; unfold SameAz at hcz; go_simp
          try simp only [Act.put, List.setIfInBounds_toArray, List.set_cons_zero, List.set_cons_succ]
          refine takeZ (i := 21) (v := .int .u64 (y : Int)) (some 69) rfl rfl (by kernel_rfl) (by kernel_rfl) (by kernel_rfl) (fun _ _ _ h => h) (Or.inl ⟨by rfl, ?_⟩) (by assumption) ?_
          · intro wz hSw; have hcz := hSw.1; unfold SameAz at hcz; go_simp
          try simp only [Act.put, List.setIfInBounds_toArray, List.set_cons_zero, List.set_cons_succ]
          refine takeZ (i := 22) (v := .bool true) (some 70) rfl rfl (by kernel_rfl) (by kernel_rfl) (by kernel_rfl) (fun _ _ _ h => h) (Or.inl ⟨by rfl, ?_⟩) (by assumption) ?_
          · intro wz hSw; have hcz := hSw.1; unfold SameAz at hcz; go_simp
          try simp only [Act.put, List.setIfInBounds_toArray, List.set_cons_zero, List.set_cons_succ]
          refine takeZ (i := 23) (v := .bool true) (some 71) rfl rfl (by kernel_rfl) (by kernel_rfl) (by kernel_rfl) (fun _ _ _ h => h) (Or.inl ⟨by rfl, ?_⟩) (by assumption) ?_
          · intro wz hSw; have hcz := hSw.1; unfold SameAz at hcz; go_simp
          try simp only [Act.put, List.setIfInBounds_toArray, List.set_cons_zero, List.set_cons_succ]
          refine takeZ (i := 24) (v := .bool true) (some 72) rfl rfl (by kernel_rfl) (by kernel_rfl) (by kernel_rfl) (fun _ _ _ h => h) (Or.inl ⟨by rfl, ?_⟩) (by assumption) ?_
          · intro wz hSw; have hcz := hSw.1; unfold SameAz at hcz; go_simp
          try simp only [Act.put, List.setIfInBounds_toArray, List.set_cons_zero, List.set_cons_succ]
          refine takeZ (i := 25) (v := .func (.func 68) #[] #[]) (some 73) rfl rfl (by kernel_rfl) (by kernel_rfl) (by kernel_rfl) (fun _ _ _ h => h) (Or.inl ⟨by rfl, ?_⟩) (by assumption) ?_
          · intro wz hSw; have hcz := hSw.1; unfold SameAz at hcz; go_simp
          try simp only [Act.put, List.setIfInBounds_toArray, List.set_cons_zero, List.set_cons_succ]
          refine takeZ (i := 26) (v := .slice ap P.length cp) (some 74) rfl rfl (by kernel_rfl) (by kernel_rfl) (by kernel_rfl) (fun _ _ _ h => h) (Or.inl ⟨by rfl, ?_⟩) (by assumption) ?_
          · intro wz hSw; have hcz := hSw.1; unfold SameAz at hcz; go_simp
          try simp only [Act.put, List.setIfInBounds_toArray, List.set_cons_zero, List.set_cons_succ]
          refine takeZ (i := 27) (v := .slice aq Q.length cq) (some 75) rfl rfl (by kernel_rfl) (by kernel_rfl) (by kernel_rfl) (fun _ _ _ h => h) (Or.inl ⟨by rfl, ?_⟩) (by assumption) ?_
          · intro wz hSw; have hcz := hSw.1; unfold SameAz at hcz; go_simp
          try simp only [Act.put, List.setIfInBounds_toArray, List.set_cons_zero, List.set_cons_succ]
          refine wpAnyH_ready (rs := [28]) (by kernel_rfl) (by simp) ?_
          refine AllReadyH.cons rfl (fun K hK => ?_) AllReadyH.nil
          go_simp
          go_wp2_with (go_at_call 68; refine (HPQ.out wt hbt).mono ?_; rintro e wu ⟨rfl, hbu⟩)
          refine hK.out _ _ (Sz.of HS2.out hbu) (fun hHeld5 => ?_)
          clear hK K
          refine takeZ (i := 29) (v := .bool false) (some 77) rfl rfl (by kernel_rfl) (by kernel_rfl) (by kernel_rfl) (fun _ _ _ h => h) (Or.inl ⟨by rfl, ?_⟩) (by assumption) ?_
          · intro wz hSw; have hcz := hSw.1; unfold SameAz at hcz; go_simp
          try simp only [Act.put, List.setIfInBounds_toArray, List.set_cons_zero, List.set_cons_succ]
          refine takeZ (i := 30) (v := .bool false) (some 78) rfl rfl (by kernel_rfl) (by kernel_rfl) (by kernel_rfl) (fun _ _ _ h => h) (Or.inl ⟨by rfl, ?_⟩) (by assumption) ?_
          · intro wz hSw; have hcz := hSw.1; unfold SameAz at hcz; go_simp
          try simp only [Act.put, List.setIfInBounds_toArray, List.set_cons_zero, List.set_cons_succ]
          refine wpAnyH_done (by kernel_rfl) ?_ _
          go_wp2
          go_meet
          exact ⟨rfl, hb2.trans (hbu.mono hs2)⟩
      · have hfb : (fc == 0) = false := by simpa using hfc
        clear HPQ hfc
        refine takeZ (i := 0) (v := .int .i64 0) (some 48) rfl rfl (by kernel_rfl) (by kernel_rfl) (by kernel_rfl) (fun _ _ _ h => h) (Or.inl ⟨by rfl, ?_⟩) (by assumption) ?_
        · intro wz hSw; have hcz := hSw.1; unfold SameAz at hcz; go_simp
        try simp only [Act.put, List.setIfInBounds_toArray, List.set_cons_zero, List.set_cons_succ]
        refine takeZ (i := 1) (v := .bool false) (some 49) rfl rfl (by kernel_rfl) (by kernel_rfl) (by kernel_rfl) (fun _ _ _ h => h) (Or.inl ⟨by rfl, ?_⟩) (by assumption) ?_
        · intro wz hSw; have hcz := hSw.1; unfold SameAz at hcz; go_simp
        try simp only [Act.put, List.setIfInBounds_toArray, List.set_cons_zero, List.set_cons_succ]
        refine takeZ (i := 2) (v := .bool false) (some 50) rfl rfl (by kernel_rfl) (by kernel_rfl) (by kernel_rfl) (fun _ _ _ h => h) (Or.inl ⟨by rfl, ?_⟩) (by assumption) ?_
        · intro wz hSw; have hcz := hSw.1; unfold SameAz at hcz; go_simp
        try simp only [Act.put, List.setIfInBounds_toArray, List.set_cons_zero, List.set_cons_succ]
        refine takeZ (i := 3) (v := .int .u64 (x : Int)) (some 51) rfl rfl (by kernel_rfl) (by kernel_rfl) (by kernel_rfl) (fun _ _ _ h => h) (Or.inl ⟨by rfl, ?_⟩) (by assumption) ?_
        · intro wz hSw; have hcz := hSw.1; unfold SameAz at hcz; go_simp
        try simp only [Act.put, List.setIfInBounds_toArray, List.set_cons_zero, List.set_cons_succ]
        refine takeZ (i := 4) (v := .int .u64 (x : Int)) (some 52) rfl rfl (by kernel_rfl) (by kernel_rfl) (by kernel_rfl) (fun _ _ _ h => h) (Or.inl ⟨by rfl, ?_⟩) (by assumption) ?_
        · intro wz hSw; have hcz := hSw.1; unfold SameAz at hcz; go_simp
        try simp only [Act.put, List.setIfInBounds_toArray, List.set_cons_zero, List.set_cons_succ]
        refine takeZ (i := 5) (v := .bool false) (some 53) rfl rfl (by kernel_rfl) (by kernel_rfl) (by kernel_rfl) (fun _ _ _ h => h) (Or.inl ⟨by rfl, ?_⟩) (by assumption) ?_
        · intro wz hSw; have hcz := hSw.1; unfold SameAz at hcz; go_simp
        try simp only [Act.put, List.setIfInBounds_toArray, List.set_cons_zero, List.set_cons_succ]
        refine takeZ (i := 6) (v := .bool false) (some 54) rfl rfl (by kernel_rfl) (by kernel_rfl) (by kernel_rfl) (fun _ _ _ h => h) (Or.inl ⟨by rfl, ?_⟩) (by assumption) ?_
        · intro wz hSw; have hcz := hSw.1; unfold SameAz at hcz; go_simp
        try simp only [Act.put, List.setIfInBounds_toArray, List.set_cons_zero, List.set_cons_succ]
        refine takeZ (i := 7) (v := .bool false) (some 55) rfl rfl (by kernel_rfl) (by kernel_rfl) (by kernel_rfl) (fun _ _ _ h => h) (Or.inl ⟨by rfl, ?_⟩) (by assumption) ?_
        · intro wz hSw; have hcz := hSw.1; unfold SameAz at hcz; go_simp
        try simp only [Act.put, List.setIfInBounds_toArray, List.set_cons_zero, List.set_cons_succ]
        refine takeZ (i := 8) (v := .func (.func 68) #[] #[]) (some 56) rfl rfl (by kernel_rfl) (by kernel_rfl) (by kernel_rfl) (fun _ _ _ h => h) (Or.inl ⟨by rfl, ?_⟩) (by assumption) ?_
        · intro wz hSw; have hcz := hSw.1; unfold SameAz at hcz; go_simp
        try simp only [Act.put, List.setIfInBounds_toArray, List.set_cons_zero, List.set_cons_succ]
        refine takeZ (i := 9) (v := .slice ap P.length cp) (some 57) rfl rfl (by kernel_rfl) (by kernel_rfl) (by kernel_rfl) (fun _ _ _ h => h) (Or.inl ⟨by rfl, ?_⟩) (by assumption) ?_
        · intro wz hSw; have hcz := hSw.1; unfold SameAz at hcz; go_simp
        try simp only [Act.put, List.setIfInBounds_toArray, List.set_cons_zero, List.set_cons_succ]
        refine takeZ (i := 12) (v := .slice a0 l.length c0) (some 60) rfl rfl (by kernel_rfl) (by kernel_rfl) (by kernel_rfl) (fun _ _ _ h => h) (Or.inl ⟨by rfl, ?_⟩) (by assumption) ?_
        · intro wz hSw; have hcz := hSw.1; unfold SameAz at hcz; go_simp
        try simp only [Act.put, List.setIfInBounds_toArray, List.set_cons_zero, List.set_cons_succ]
        refine wpAnyH_ready (rs := [10]) (by kernel_rfl) (by simp) ?_
        refine AllReadyH.cons rfl (fun K hK => ?_) AllReadyH.nil
        go_simp
        refine hK.out _ _ (Sz.alloc (by assumption) _) (fun hHeld2 => ?_)
        clear hK K
        refine wpAnyH_ready (rs := [11]) (by kernel_rfl) (by simp) ?_
        refine AllReadyH.cons rfl (fun K hK => ?_) AllReadyH.nil
        go_simp
        go_wp2_with (go_at_call 16; refine (HV.out wd hHeld.2).mono ?_; rintro e wv ⟨av, cv, rfl, hiv, hbv⟩)
        refine hK.out _ _ (Sz.of HS2.out hbv) (fun hHeld3 => ?_)
        clear hK K
        refine wpAnyH_ready (rs := [13]) (by kernel_rfl) (by simp) ?_
        refine AllReadyH.cons rfl (fun K hK => ?_) AllReadyH.nil
        go_simp
        go_wp2_with (go_at_call 68; refine (samezX hiv (HA2.out.below hbv (Nat.le_refl _))).mono ?_; rintro e wt ⟨rfl, hzt⟩; have hbt := hbv.trans (hzt.mono hbv.size))
        refine hK.out _ _ (Sz.of HS2.out hbt) (fun hHeld4 => ?_)
        clear hK K
        refine takeZ (i := 14) (v := .bool false) (some 62) rfl rfl (by kernel_rfl) (by kernel_rfl) (by kernel_rfl) (fun _ _ _ h => h) (Or.inl ⟨by rfl, ?_⟩) (by assumption) ?_
        · intro wz hSw; have hcz := hSw.1; unfold SameAz at hcz; go_simp
        try simp only [Act.put, List.setIfInBounds_toArray, List.set_cons_zero, List.set_cons_succ]
        refine takeZ (i := 15) (v := .bool false) (some 63) rfl rfl (by kernel_rfl) (by kernel_rfl) (by kernel_rfl) (fun _ _ _ h => h) (Or.inl ⟨by rfl, ?_⟩) (by assumption) ?_
        · intro wz hSw; have hcz := hSw.1; unfold SameAz at hcz; go_simp
        try simp only [Act.put, List.setIfInBounds_toArray, List.set_cons_zero, List.set_cons_succ]
        refine takeZ (i := 16) (v := .bool false) (some 64) rfl rfl (by kernel_rfl) (by kernel_rfl) (by kernel_rfl) (fun _ _ _ h => h) (Or.inl ⟨by rfl, ?_⟩) (by assumption) ?_
        · intro wz hSw; have hcz := hSw.1; unfold SameAz at hcz; go_simp
        try simp only [Act.put, List.setIfInBounds_toArray, List.set_cons_zero, List.set_cons_succ]
        refine takeZ (i := 17) (v := .int .i64 fc) (some 65) rfl rfl (by kernel_rfl) (by kernel_rfl) (by kernel_rfl) (fun _ _ _ h => h) (Or.inl ⟨by rfl, ?_⟩) (by assumption) ?_
        · intro wz hSw; have hcz := hSw.1; unfold SameAz at hcz; go_simp
        try simp only [Act.put, List.setIfInBounds_toArray, List.set_cons_zero, List.set_cons_succ]
        refine takeZ (i := 18) (v := .bool false) (some 66) rfl rfl (by kernel_rfl) (by kernel_rfl) (by kernel_rfl) (fun _ _ _ h => h) (Or.inl ⟨by rfl, ?_⟩) (by assumption) ?_
        · intro wz hSw; have hcz := hSw.1; unfold SameAz at hcz; go_simp
        try simp only [Act.put, List.setIfInBounds_toArray, List.set_cons_zero, List.set_cons_succ]
        refine takeZ (i := 19) (v := .bool false) (some 67) rfl rfl (by kernel_rfl) (by kernel_rfl) (by kernel_rfl) (fun _ _ _ h => h) (Or.inl ⟨by rfl, ?_⟩) (by assumption) ?_
        · intro wz hSw; have hcz := hSw.1; unfold SameAz at hcz; go_simp
        try simp only [Act.put, List.setIfInBounds_toArray, List.set_cons_zero, List.set_cons_succ]
        refine takeZ (i := 20) (v := undef) (some 68) rfl rfl (by kernel_rfl) (by kernel_rfl) (by kernel_rfl) (fun _ _ _ h => h) (Or.inr ⟨by rfl, rfl⟩) (by assumption) ?_
        try simp only [Act.put, List.setIfInBounds_toArray, List.set_cons_zero, List.set_cons_succ]
        refine takeZ (i := 21) (v := undef) (some 69) rfl rfl (by kernel_rfl) (by kernel_rfl) (by kernel_rfl) (fun _ _ _ h => h) (Or.inr ⟨by rfl, rfl⟩) (by assumption) ?_
        try simp only [Act.put, List.setIfInBounds_toArray, List.set_cons_zero, List.set_cons_succ]
        refine takeZ (i := 22) (v := undef) (some 70) rfl rfl (by kernel_rfl) (by kernel_rfl) (by kernel_rfl) (fun _ _ _ h => h) (Or.inr ⟨by rfl, rfl⟩) (by assumption) ?_
        try simp only [Act.put, List.setIfInBounds_toArray, List.set_cons_zero, List.set_cons_succ]
        refine takeZ (i := 23) (v := .bool false) (some 71) rfl rfl (by kernel_rfl) (by kernel_rfl) (by kernel_rfl) (fun _ _ _ h => h) (Or.inl ⟨by rfl, ?_⟩) (by assumption) ?_
        · intro wz hSw; have hcz := hSw.1; unfold SameAz at hcz; go_simp
        try simp only [Act.put, List.setIfInBounds_toArray, List.set_cons_zero, List.set_cons_succ]
        refine takeZ (i := 24) (v := .bool false) (some 72) rfl rfl (by kernel_rfl) (by kernel_rfl) (by kernel_rfl) (fun _ _ _ h => h) (Or.inl ⟨by rfl, ?_⟩) (by assumption) ?_
        · intro wz hSw; have hcz := hSw.1; unfold SameAz at hcz; go_simp
        try simp only [Act.put, List.setIfInBounds_toArray, List.set_cons_zero, List.set_cons_succ]
        refine takeZ (i := 25) (v := undef) (some 73) rfl rfl (by kernel_rfl) (by kernel_rfl) (by kernel_rfl) (fun _ _ _ h => h) (Or.inr ⟨by rfl, rfl⟩) (by assumption) ?_
        try simp only [Act.put, List.setIfInBounds_toArray, List.set_cons_zero, List.set_cons_succ]
        refine takeZ (i := 26) (v := undef) (some 74) rfl rfl (by kernel_rfl) (by kernel_rfl) (by kernel_rfl) (fun _ _ _ h => h) (Or.inr ⟨by rfl, rfl⟩) (by assumption) ?_
        try simp only [Act.put, List.setIfInBounds_toArray, List.set_cons_zero, List.set_cons_succ]
        refine takeZ (i := 27) (v := undef) (some 75) rfl rfl (by kernel_rfl) (by kernel_rfl) (by kernel_rfl) (fun _ _ _ h => h) (Or.inr ⟨by rfl, rfl⟩) (by assumption) ?_
        try simp only [Act.put, List.setIfInBounds_toArray, List.set_cons_zero, List.set_cons_succ]
        refine takeZ (i := 28) (v := undef) (some 76) rfl rfl (by kernel_rfl) (by kernel_rfl) (by kernel_rfl) (fun _ _ _ h => h) (Or.inr ⟨by rfl, rfl⟩) (by assumption) ?_
        try simp only [Act.put, List.setIfInBounds_toArray, List.set_cons_zero, List.set_cons_succ]
        refine takeZ (i := 29) (v := .bool false) (some 77) rfl rfl (by kernel_rfl) (by kernel_rfl) (by kernel_rfl) (fun _ _ _ h => h) (Or.inl ⟨by rfl, ?_⟩) (by assumption) ?_
        · intro wz hSw; have hcz := hSw.1; unfold SameAz at hcz; go_simp
        try simp only [Act.put, List.setIfInBounds_toArray, List.set_cons_zero, List.set_cons_succ]
        refine takeZ (i := 30) (v := .bool false) (some 78) rfl rfl (by kernel_rfl) (by kernel_rfl) (by kernel_rfl) (fun _ _ _ h => h) (Or.inl ⟨by rfl, ?_⟩) (by assumption) ?_
        · intro wz hSw; have hcz := hSw.1; unfold SameAz at hcz; go_simp
        try simp only [Act.put, List.setIfInBounds_toArray, List.set_cons_zero, List.set_cons_succ]
        refine wpAnyH_done (by kernel_rfl) ?_ _
        go_wp2
        go_meet
        exact ⟨rfl, hb2.trans (hbt.mono hs2)⟩
    case rest =>
      obtain ⟨rfl, hbc⟩ := hcut
      have hsc := hbc.size
      clear hi1 hi2 hj2 hb1 hb2
      by_cases hg : gc = 0
      · have F6 := Lib.hid (F5.out hg)
        subst hg
        go_wp2_with (first
          | (go_at_call 23; refine (HN.out wc (HA.out.below hbc (Nat.le_refl _)) (HK.out.below hbc (Nat.le_refl _))).mono ?_; rintro e w' ⟨rfl, rfl⟩)
          | (go_at_call 17; refine (F6.out wc (HA.out.below hbc (Nat.le_refl _))).mono ?_; rintro e w8 ⟨v8, rfl, hi8, hz8⟩; have hb8 := hbc.trans (hz8.mono hsc); have hs8 := hb8.size; have hg8 := HS.out.below hb8 hlt; unfold SameAz at hg8; have hk8 := HK.out.below hb8 (Nat.le_refl _))
          | (go_at_call 68; refine (samezX hk8 hi8).mono ?_; rintro e w9 ⟨rfl, hz9⟩; have hb9 := hb8.trans (hz9.mono hs8))
          | (go_at_call 8; refine (awakezX hb9 HS.out).mono ?_; rintro e w10 ⟨rfl, hb10⟩))
        go_ret
        exact ⟨rfl, hb10⟩
      · have hgb : (gc != 0) = true := by simpa using hg
        obtain rfl : k = 0 := F4.out hg
        clear hg
        go_wp2_with (first
          | (go_at_call 23; refine (HN.out wc (HA.out.below hbc (Nat.le_refl _)) (HK.out.below hbc (Nat.le_refl _))).mono ?_; rintro e w' ⟨rfl, rfl⟩)
          | (go_at_call 8; refine (awakezX hbc HS.out).mono ?_; rintro e w10 ⟨rfl, hb10⟩))
        go_ret
        exact ⟨rfl, hb10⟩
  · have hP : P = [] := f2 P pc rfl hpc
    subst hP
    have hpb : (pc == 0) = false := by simpa using hpc
    clear hpc f1 f2 f3 H K
    go_enter Tryd.func5, Tryd.ntmps5
    go_upto_region 11 with (first
      | (go_at_call_of 17 (Value.int .u64 (x : Int)); refine (HP.out w HA.out).mono ?_; rintro e w1 ⟨v1, rfl, hi1, hb1⟩; have hs1 := hb1.size; obtain ⟨ap, cp, rfl⟩ := hi1.shape)
      | (go_at_call_of 17 (Value.int .u64 (y : Int)); refine (HQ.out w1 (HA.out.below hb1 (Nat.le_refl _))).mono ?_; rintro e wc ⟨v2, rfl, hi2, hz2⟩; have hbc := hb1.trans (hz2.mono hs1); have hsc := hbc.size))
    clear hi1 hi2 hz2 hb1
    by_cases hg : gc = 0
    · have F6 := Lib.hid (F5.out hg)
      subst hg
      go_wp2_with (first
        | (go_at_call 23; refine (HN.out wc (HA.out.below hbc (Nat.le_refl _)) (HK.out.below hbc (Nat.le_refl _))).mono ?_; rintro e w' ⟨rfl, rfl⟩)
        | (go_at_call 17; refine (F6.out wc (HA.out.below hbc (Nat.le_refl _))).mono ?_; rintro e w8 ⟨v8, rfl, hi8, hz8⟩; have hb8 := hbc.trans (hz8.mono hsc); have hs8 := hb8.size; have hg8 := HS.out.below hb8 hlt; unfold SameAz at hg8; have hk8 := HK.out.below hb8 (Nat.le_refl _))
        | (go_at_call 68; refine (samezX hk8 hi8).mono ?_; rintro e w9 ⟨rfl, hz9⟩; have hb9 := hb8.trans (hz9.mono hs8))
        | (go_at_call 8; refine (awakezX hb9 HS.out).mono ?_; rintro e w10 ⟨rfl, hb10⟩))
      go_ret
      exact ⟨rfl, hb10⟩
    · have hgb : (gc != 0) = true := by simpa using hg
      obtain rfl : k = 0 := F4.out hg
      clear hg
      go_wp2_with (first
        | (go_at_call 23; refine (HN.out wc (HA.out.below hbc (Nat.le_refl _)) (HK.out.below hbc (Nat.le_refl _))).mono ?_; rintro e w' ⟨rfl, rfl⟩)
        | (go_at_call 8; refine (awakezX hbc HS.out).mono ?_; rintro e w10 ⟨rfl, hb10⟩))
      go_ret
      exact ⟨rfl, hb10⟩

end Go.Proofs.YtmhjpbhldaagmaaDoor
