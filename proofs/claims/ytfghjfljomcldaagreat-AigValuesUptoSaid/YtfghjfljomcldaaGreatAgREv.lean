/- The reference's Of, On, All, Eval. -/
import Derived.Test.YtfghjfljomcldaaGreatAgEvalP
import Derived.Test.YtfghjfljomcldaaGreatA13
import Derived.Test.YtfghjfljomcldaaGreatAgR5N
import Derived.Test.YtfghjfljomcldaaGreatCxMk0
namespace Go.Proofs.YtfghjfljomcldaaGreat
open Go.RowKit Go.Maps Go.Shelf
set_option linter.unusedVariables false
set_option linter.unusedSimpArgs false

set_option maxRecDepth 100000 in
theorem rof_any {w : World} {B b n : Nat} {t : List Bool} (e : Int) (HO : OwnB w B (.slice (some ⟨b, 0, none⟩) n n) t) (hl : t.length = n) (h0 : 0 ≤ e) (h1 : e / 2 < (n : Int)) (hn : n ≤ 4000000) :
    Calls Tryz.prog 80 #[.slice (some ⟨b, 0, none⟩) n n, .int .i64 e] w fun r w' => r = .returned (.bool (edgeV t e)) ∧ w = w' := by
  obtain ⟨q, hq⟩ : ∃ q : Nat, e / 2 = (q : Int) := ⟨(e / 2).toNat, by omega⟩
  have hqn : q < t.length := by omega
  have hc := HO.cell q hqn
  have hq0 : (0 : Int) ≤ (q : Int) := by omega
  have hq1 : (q : Int) < (n : Int) := by omega
  have HE : Hid (edgeV t e = (t.getD q false != decide (e % 2 = 1))) := by show _ = _; unfold edgeV; rw [hq]; rfl
  clear hqn HO h1 hl
  by_cases hm : e % 2 = 1
  · rw [decide_eq_true hm] at HE
    cases hx : t.getD q false with
    | true =>
      rw [hx] at hc HE
      clear hx
      go_enter Tryz.func80, Tryz.ntmps80
      go_wp2
      go_ret
      exact ⟨ret_bool (by rw [HE.out]; rfl), rfl⟩
    | false =>
      rw [hx] at hc HE
      clear hx
      go_enter Tryz.func80, Tryz.ntmps80
      go_wp2
      go_ret
      exact ⟨ret_bool (by rw [HE.out]; rfl), rfl⟩
  · rw [decide_eq_false hm] at HE
    have hm0 : e % 2 = 0 := by omega
    clear hm
    cases hx : t.getD q false with
    | true =>
      rw [hx] at hc HE
      clear hx
      go_enter Tryz.func80, Tryz.ntmps80
      go_wp2
      go_ret
      exact ⟨ret_bool (by rw [HE.out]; rfl), rfl⟩
    | false =>
      rw [hx] at hc HE
      clear hx
      go_enter Tryz.func80, Tryz.ntmps80
      go_wp2
      go_ret
      exact ⟨ret_bool (by rw [HE.out]; rfl), rfl⟩
set_option maxHeartbeats 1600000 in
set_option maxRecDepth 100000 in
theorem ron6_any (v : Value) (l : List Int) (w : World) (H : IsInts w v l) (hv : ∀ x ∈ l, x ≠ 0 ∧ x ≤ 65536) :
    Calls Tryz.prog 82 #[v] w fun e w' => ∃ b, e = .returned (.slice (some ⟨b, 0, none⟩) nM nM) ∧ Mk w' w.heap.size b (fun x => decide (x ∈ l)) ∧ Below w.heap.size w w' := by
  have HH := Lib.hid H
  have HV := Lib.hid hv
  have hnm := nM_eq
  have HNM := Lib.hid hnm
  obtain ⟨a, cap, rfl⟩ := H.shape
  have hll := H.len
  clear H hv hnm
  go_enter Tryz.func82, Tryz.ntmps82
  go_wp2_with (refine wpList_mkBools2 rfl _ _ rfl nM 65537 65537 rfl rfl (by rw [HNM.out]; rfl) (by rw [HNM.out]; rfl) (by rw [HNM.out]; decide) ?_; intro w1 hown hg; have HO := Lib.hid hown; have HB1 := Lib.hid ((Below.refl w.heap.size w).grown hg (Nat.le_refl _) (fun k hk => by cases hk)); clear hown hg)
  have HM0 : Hid (Mk w1 w.heap.size w.heap.size (fun x => decide (x ∈ l.take 0))) := ⟨_, HO.out, by rw [List.length_replicate], fun i hi => by simp [List.getD, List.getElem?_replicate, hi]⟩
  clear HO
  go_loopw [4] (fun i wr => ∃ k : Nat, k ≤ l.length ∧ i = .int .i64 k ∧ Mk wr w.heap.size w.heap.size (fun x => decide (x ∈ l.take k)) ∧ Below w.heap.size w wr) (fun i _ => l.length - (intOf i).toNat)
  case atStart => exact ⟨0, Nat.zero_le _, rfl, HM0.out, HB1.out⟩
  case round =>
    obtain ⟨k, hk, rfl, hmk, hbel⟩ := hrel
    have HM := Lib.hid hmk
    have HB := Lib.hid hbel
    clear hmk hbel
    by_cases hlt : k < l.length
    · obtain ⟨b, off, rfl, hb, hc0⟩ := HH.out.cellY hlt
      have hc := (HB.out.cell (p := ⟨b, off + k, none⟩) hb).trans hc0
      have HTK : Hid (l.take (k + 1) = l.take k ++ [l.getD k 0]) := by show _ = _; rw [List.take_succ_eq_append_getElem hlt]; simp [List.getD, hlt]
      have hr := HV.out (l.getD k 0) (by simp [List.getD, hlt])
      have HKL := Lib.hid hlt
      clear hc0 hlt
      generalize l.getD k 0 = x at *
      by_cases hx : 0 < x
      · obtain ⟨n, rfl⟩ := Int.eq_ofNat_of_zero_le (show 0 ≤ x by omega)
        have hn : n < nM := by rw [HNM.out]; omega
        have hn0 : (0 : Int) ≤ (n : Int) := by omega
        have hn1 : (n : Int) < (nM : Int) := by omega
        have hp : 0 < n := by omega
        have m0 := HM.out.cell hn
        have m1 := HM.out.frozen n
        have HM2 := Lib.hid (HM.out.set n hn true)
        have HB2 := Lib.hid (HB.out.setCell (p := ⟨w.heap.size, n, none⟩) (u := .bool true) (Nat.le_refl _))
        clear hr hx
        go_wp2
        go_roundw
        case rel => exact ⟨k + 1, HKL.out, by go_num, HM2.out.congr (fun i hi1 hi2 => by
          rw [HTK.out]
          unfold updB
          by_cases e : i = (n : Int)
          · subst e; simp
          · rw [if_neg e]; simp [e]), HB2.out⟩
        case measure => have := HKL.out; simp [intOf]; omega
      · have HXN : Hid (x < 0) := by show _ < _; omega
        have d0 : decide ((0 : Int) < x) = false := decide_eq_false hx
        clear hr hx
        go_wp2
        go_roundw
        case rel => exact ⟨k + 1, HKL.out, by go_num, HM.out.congr (fun i hi1 hi2 => by
          rw [HTK.out]
          have : i ≠ x := by have := HXN.out; omega
          simp [this]), HB.out⟩
        case measure => have := HKL.out; simp [intOf]; omega
    · have HK : Hid (k = l.length) := by show _ = _; omega
      have HM2 : Hid (Mk wr w.heap.size w.heap.size (fun x => decide (x ∈ l))) := by have h := HM.out; rw [HK.out, List.take_length] at h; exact h
      go_wp2
      go_ret
      exact ⟨_, rfl, HM2.out, HB.out⟩
theorem Kept.ofBelowR {S : Nat → Prop} {w w' : World} (h : Below w.heap.size w w') : Kept S w w' := ⟨h.os, h.tape, h.output, h.size, fun k hk _ => h.block k hk⟩
theorem set_end (l : List Bool) (n : Nat) (x : Bool) : (l ++ List.replicate (n + 1) false).set l.length x = (l ++ [x]) ++ List.replicate n false := by
  rw [List.set_append_right _ _ (Nat.le_refl _), Nat.sub_self, List.replicate_succ, List.set_cons_zero, List.append_assoc]
  rfl
theorem baseV_snoc {I : List Int} {f : Int → Bool} {k : Nat} (h : k < I.length) : baseV (I.take (k + 1)) f = baseV (I.take k) f ++ [f (I.getD k 0)] := by
  unfold baseV
  rw [ints_take_succ h, List.map_append]
  rfl
theorem runN_take {b : List Bool} {A : List Pr} {k : Nat} (h : k < A.length) : runN b (A.take (k + 1)) = runN b (A.take k) ++ [edgeV (runN b (A.take k)) (A.getD k dPr).1 && edgeV (runN b (A.take k)) (A.getD k dPr).2] := by
  rw [List.take_succ_eq_append_getElem h, runN_app]
  show stepV (runN b (A.take k)) A[k] = _
  unfold stepV
  simp [List.getD, h]

set_option maxHeartbeats 6400000 in
set_option maxRecDepth 100000 in
theorem rall6_any (vi va : Value) (I : List Int) (A : List Pr) (B0 bo : Nat) (f : Int → Bool) (w : World) (HI : IsInts w vi I) (HA : IsPairs w va A) (HM : Mk w B0 bo f) (hI : ∀ x ∈ I, 0 < x ∧ x ≤ 65536) (hroom : 1 + I.length + A.length ≤ 200000) (hok : okUpto (1 + I.length) A A.length = true) :
    Calls Tryz.prog 81 #[.agg #[vi, va], .slice (some ⟨bo, 0, none⟩) nM nM] w fun e w' => ∃ b, e = .returned (.slice (some ⟨b, 0, none⟩) (1 + I.length + A.length) (1 + I.length + A.length)) ∧ OwnB w' w.heap.size (.slice (some ⟨b, 0, none⟩) (1 + I.length + A.length) (1 + I.length + A.length)) (runN (baseV I f) A) ∧ Below w.heap.size w w' := by
  have hb0 := below_alloc1 w (.cells #[vi, va] 25)
  have hbx := boxA_new w vi va
  have hsz : (w.alloc (.cells #[vi, va] 25)).heap.size = w.heap.size + 1 := by simp
  have HI1 := Lib.hid (HI.below hb0 (Nat.le_refl _))
  have HA1 := Lib.hid (HA.below hb0 (Nat.le_refl _))
  have HM1 := Lib.hid (HM.below hb0 (Nat.le_refl _))
  obtain ⟨ia, ic, rfl⟩ := HI.shape
  obtain ⟨aa, ac, rfl, _⟩ := HA.shape
  have HNM := Lib.hid nM_eq
  have HPI := Lib.hid hI
  have HPB := Lib.hid (fun i hi => @okPair_bd (1 + I.length) A i hok hi)
  have hIl : I.length ≤ 200000 := by omega
  have hAl : A.length ≤ 200000 := by omega
  clear HI HA HM hI hok
  go_enter Tryz.func81, Tryz.ntmps81
  go_upto_region 1 with fail
  generalize World.alloc w _ = W at *
  have HB0 := Lib.hid hb0
  have HBX := Lib.hid hbx
  have HSZ := Lib.hid hsz
  obtain ⟨p0, p1⟩ := hbx
  clear hb0 hsz
  obtain ⟨nn, hnn⟩ : ∃ nn : Nat, 1 + I.length + A.length = nn := ⟨_, rfl⟩
  have HNN := Lib.hid hnn
  have HND := Lib.hid (rnodes_any _ _ I A W HI1.out HA1.out (by omega) (by omega))
  rw [hnn] at HND
  have hn2 : nn ≤ 200000 := by omega
  clear hnn hroom
  go_upto_region 2 with (first
    | (at_make; refine wpList_mkBools2 rfl _ _ rfl nn nn nn rfl rfl rfl rfl (by omega) ?_; intro w2 hown hg; have HO := Lib.hid hown; have HB2 := Lib.hid ((Below.refl w1.heap.size w1).grown hg (Nat.le_refl _) (fun k hk => by cases hk)); clear hown hg)
    | (go_at_call 48; refine HND.out.mono ?_; rintro e w1 ⟨rfl, hb1⟩; have HB1 := Lib.hid hb1; clear hb1 p0 p1))
  have HBW2 := Lib.hid (HB1.out.trans (HB2.out.mono HB1.out.size))
  have hlt1 : W.heap.size ≤ w1.heap.size := HB1.out.size
  generalize w1.heap.size = bt at *
  have HT : Hid (W.heap.size ≤ bt) := hlt1
  clear HND HB1 HB2 hlt1
  have HO1 : Hid (OwnB w2 bt (.slice (some ⟨bt, 0, none⟩) nn nn) (baseV (I.take 0) f ++ List.replicate (nn - 1 - 0) false)) := by
    have h := HO.out
    have e : List.replicate nn false = baseV (I.take 0) f ++ List.replicate (nn - 1 - 0) false := by
      obtain ⟨m, hm⟩ : ∃ m, nn = m + 1 := ⟨nn - 1, by have := HNN.out; omega⟩
      rw [hm, List.replicate_succ]
      rfl
    rw [e] at h
    exact h
  clear HO
  go_wp2
  go_loopw [6] (fun i wr => ∃ k : Nat, k ≤ I.length ∧ i = .int .i64 k ∧ OwnB wr bt (.slice (some ⟨bt, 0, none⟩) nn nn) (baseV (I.take k) f ++ List.replicate (nn - 1 - k) false) ∧ Kept (fun j => j = bt) w2 wr) (fun i _ => I.length - (intOf i).toNat)
  case atStart => exact ⟨0, Nat.zero_le _, rfl, HO1.out, Kept.refl _ _⟩
  case round =>
    obtain ⟨k, hk, rfl, ho, hkp⟩ := hrel
    have HOR := Lib.hid ho
    have HKP := Lib.hid hkp
    have HBR : Hid (Below W.heap.size W wr) := HBW2.out.trans (hkp.below HBW2.out.size (fun i hi e => by have := HT.out; omega))
    obtain ⟨p0, p1⟩ := HBX.out.below HBR.out (by rw [HSZ.out]; omega)
    clear ho hkp
    by_cases hlt : k < I.length
    · obtain ⟨b, off, rfl, hbl, hc0⟩ := HI1.out.cellY hlt
      have hc := (HBR.out.cell (p := ⟨b, off + k, none⟩) hbl).trans hc0
      have hv := HPI.out _ (ints_getD_mem hlt)
      have HSN := Lib.hid (baseV_snoc (f := f) hlt)
      have hbl0 : (baseV (I.take k) f).length = k + 1 := by rw [baseV_len, List.length_take]; omega
      have hrep : nn - 1 - k = (nn - 1 - (k + 1)) + 1 := by have := HNN.out; omega
      have HKL := Lib.hid hlt
      have hk0 : (0 : Int) ≤ (k : Int) := by omega
      have hk1 : (k : Int) < (I.length : Int) := by omega
      have hk2 : (k : Int) < 4000001 := by omega
      have HSE : Hid ((baseV (I.take k) f ++ List.replicate (nn - 1 - k) false).set (k + 1) (f (I.getD k 0)) = baseV (I.take (k + 1)) f ++ List.replicate (nn - 1 - (k + 1)) false) := by
        show _ = _
        rw [HSN.out, hrep, ← hbl0]
        exact set_end _ _ _
      have hln : k + 1 < (baseV (I.take k) f ++ List.replicate (nn - 1 - k) false).length := by rw [List.length_append, hbl0, List.length_replicate]; have := HNN.out; omega
      generalize baseV (I.take k) f ++ List.replicate (nn - 1 - k) false = tk at *
      clear hc0 hlt hbl hbl0 hrep
      generalize I.getD k 0 = x at *
      obtain ⟨n, rfl⟩ := Int.eq_ofNat_of_zero_le (show 0 ≤ x by omega)
      have hn : n < nM := by rw [HNM.out]; omega
      have hmo := (HM1.out.below HBR.out (Nat.le_refl _)).cell hn
      have hn0 : (0 : Int) ≤ (n : Int) := by omega
      have hn1 : (n : Int) < (nM : Int) := by omega
      have m0 := HOR.out.cell (k + 1) hln
      have m1 := HOR.out.frozen (k + 1)
      have HOS := Lib.hid (HOR.out.store (k + 1) (f (n : Int)))
      have HKS := Lib.hid (HKP.out.trans (Kept.setCell wr ⟨bt, k + 1, none⟩ (.bool (f (n : Int)))))
      obtain ⟨k2, hk2'⟩ : ∃ k2 : Nat, k + 1 = k2 := ⟨_, rfl⟩
      have hk3 : (k : Int) + 1 = (k2 : Int) := by omega
      have hk4 : (0 : Int) ≤ (k2 : Int) := by omega
      have hk5 : (k2 : Int) < (nn : Int) := by have := HNN.out; have := HKL.out; omega
      have HK2 := Lib.hid hk2'
      rw [hk2'] at m0 m1 HOS HKS HSE
      clear hv hn hln hk2'
      generalize f (n : Int) = y at *
      go_wp2
      go_roundw
      case rel => exact ⟨k2, by have := HKL.out; have := HK2.out; omega, rfl, by rw [← HSE.out]; exact HOS.out, HKS.out⟩
      case measure => have := HKL.out; have := HK2.out; simp [intOf]; omega
    · obtain rfl : k = I.length := by omega
      have hTL : I.take I.length = I := List.take_length
      rw [hTL] at HOR
      have HO2 : Hid (OwnB wr bt (.slice (some ⟨bt, 0, none⟩) nn nn) (runN (baseV I f) (A.take 0) ++ List.replicate (A.length - 0) false)) := by
        have h := HOR.out
        rw [show nn - 1 - I.length = A.length - 0 from by have := HNN.out; omega] at h
        exact h
      clear hTL HOR hk hlt HO1 HI1
      have HBL := Lib.hid (baseV_len I f)
      generalize hbb : baseV I f = bb at *
      generalize wr = w4 at *
      go_wp2
      clear p0 p1
      go_loopw [7] (fun i wr => ∃ k : Nat, k ≤ A.length ∧ i = .int .i64 k ∧ OwnB wr bt (.slice (some ⟨bt, 0, none⟩) nn nn) (runN bb (A.take k) ++ List.replicate (A.length - k) false) ∧ Kept (fun j => j = bt) w2 wr) (fun i _ => A.length - (intOf i).toNat)
      case atStart => exact ⟨0, Nat.zero_le _, rfl, HO2.out, HKP.out⟩
      case round =>
        obtain ⟨k, hk, rfl, ho, hkp⟩ := hrel
        have HOR := Lib.hid ho
        have HKQ := Lib.hid hkp
        have HBR4 : Hid (Below W.heap.size W wr) := HBW2.out.trans (hkp.below HBW2.out.size (fun i hi e => by have := HT.out; omega))
        obtain ⟨p0, p1⟩ := HBX.out.below HBR4.out (by rw [HSZ.out]; omega)
        clear ho hkp
        by_cases hlt : k < A.length
        · obtain ⟨ab, aoff, rfl, habl, hq0, hq1⟩ := HA1.out.at hlt
          have hpb := HPB.out k hlt
          have HRT := Lib.hid (runN_take (b := bb) hlt)
          have hsl : (runN bb (A.take k)).length = 1 + I.length + k := by rw [runN_len, HBL.out, List.length_take]; omega
          obtain ⟨n, hn⟩ : ∃ n : Nat, 1 + I.length + k = n := ⟨_, rfl⟩
          rw [hn] at hsl
          have hrep : A.length - k = (A.length - (k + 1)) + 1 := by omega
          have HSE0 : Hid ((runN bb (A.take k) ++ List.replicate (A.length - k) false).set n (edgeV (runN bb (A.take k)) (A.getD k dPr).1 && edgeV (runN bb (A.take k)) (A.getD k dPr).2) = runN bb (A.take (k + 1)) ++ List.replicate (A.length - (k + 1)) false) := by
            show _ = _
            rw [HRT.out, hrep, ← hsl]
            exact set_end _ _ _
          have hln : (runN bb (A.take k) ++ List.replicate (A.length - k) false).length = nn := by rw [List.length_append, hsl, List.length_replicate]; have := HNN.out; omega
          have he1 := edgeV_app (c := List.replicate (A.length - k) false) (t := runN bb (A.take k)) (e := (A.getD k dPr).1) (isE_true.2 ⟨hpb.1.1, by rw [hsl]; have := hpb.1.2; omega⟩)
          have he2 := edgeV_app (c := List.replicate (A.length - k) false) (t := runN bb (A.take k)) (e := (A.getD k dPr).2) (isE_true.2 ⟨hpb.2.1, by rw [hsl]; have := hpb.2.2; omega⟩)
          rw [← he1, ← he2] at HSE0
          have HKL := Lib.hid hlt
          have hnn1 : n < nn := by have := HNN.out; omega
          have hk0 : (0 : Int) ≤ (k : Int) := by omega
          have hk1 : (k : Int) < (A.length : Int) := by omega
          have hk2 : (k : Int) < 4000001 := by omega
          have hni : (1 : Int) + (I.length : Int) + (k : Int) = (n : Int) := by omega
          have hn0 : (0 : Int) ≤ (n : Int) := by omega
          have hn1 : (n : Int) < (nn : Int) := by omega
          have HG1 : Hid (0 ≤ (A.getD k dPr).1 ∧ (A.getD k dPr).1 / 2 < (nn : Int)) := ⟨hpb.1.1, by have := hpb.1.2; have := HNN.out; omega⟩
          have HG2 : Hid (0 ≤ (A.getD k dPr).2 ∧ (A.getD k dPr).2 / 2 < (nn : Int)) := ⟨hpb.2.1, by have := hpb.2.2; have := HNN.out; omega⟩
          clear he1 he2 hrep hsl hpb hn HRT
          generalize runN bb (A.take k) ++ List.replicate (A.length - k) false = tk at *
          generalize A.getD k dPr = pr at *
          obtain ⟨q1, q2⟩ := pr
          simp only at hq0 hq1 HSE0 HG1 HG2
          have HLN := Lib.hid hln
          have HSB : Hid (∀ Z, Kept (fun j => j = bt) w2 Z → (Z.cell? ⟨w.heap.size, 0, none⟩ = some (.slice ia I.length ic) ∧ Z.cell? ⟨w.heap.size, 1, none⟩ = some (.slice (some ⟨ab, aoff, none⟩) A.length ac)) ∧ Z.cell? ⟨ab, aoff + k * 2, none⟩ = some (.int .i64 q1) ∧ Z.cell? ⟨ab, aoff + k * 2 + 1, none⟩ = some (.int .i64 q2)) := fun Z hZ => by
            have hB : Below W.heap.size W Z := HBW2.out.trans (hZ.below HBW2.out.size (fun i hi e => by have := HT.out; omega))
            exact ⟨HBX.out.below hB (by rw [HSZ.out]; omega), (hB.cell (p := ⟨ab, aoff + k * 2, none⟩) habl).trans hq0, (hB.cell (p := ⟨ab, aoff + k * 2 + 1, none⟩) habl).trans hq1⟩
          go_upto_region 9 with fail
          clear p0 p1 hlt hln
          have hwd : Below wr.heap.size wr wr.drew := (Below.refl _ wr).drew
          have HOD := Lib.hid (ownB_below HOR.out hwd (Nat.le_refl _))
          have HKD : Hid (Kept (fun j => j = bt) w2 wr.drew) := HKQ.out.trans (Kept.ofBelowR hwd)
          refine wp_region_held_drew (S := fun Z : World => (Z.cell? ⟨w.heap.size, 0, none⟩ = some (.slice ia I.length ic) ∧ Z.cell? ⟨w.heap.size, 1, none⟩ = some (.slice (some ⟨ab, aoff, none⟩) A.length ac)) ∧ Z.cell? ⟨ab, aoff + k * 2, none⟩ = some (.int .i64 q1) ∧ Z.cell? ⟨ab, aoff + k * 2 + 1, none⟩ = some (.int .i64 q2)) (by kernel_rfl) (HSB.out _ HKD.out) (fun hSd => ?_)
          clear hwd habl hq0 hq1
          generalize wr.drew = X at *
          have HOF1 := Lib.hid (rof_any q1 HOD.out HLN.out HG1.out.1 HG1.out.2 (by omega))
          have HOF2 := Lib.hid (rof_any q2 HOD.out HLN.out HG2.out.1 HG2.out.2 (by omega))
          have m0 := HOD.out.cell n (by rw [HLN.out]; exact hnn1)
          have m1 := HOD.out.frozen n
          have hwA : IntKind.i64.wrap (1 + (I.length : Int)) = 1 + (I.length : Int) := by simp only [IntKind.wrap, IntKind.bits, IntKind.signed]; simp; omega
          have hwB : IntKind.i64.wrap (n : Int) = (n : Int) := by simp only [IntKind.wrap, IntKind.bits, IntKind.signed]; simp; omega
          cases hb1 : edgeV tk q1 with
          | true =>
              rw [hb1] at HOF1 HSE0
              have HSE : Hid (tk.set n (edgeV tk q2) = runN bb (A.take (k + 1)) ++ List.replicate (A.length - (k + 1)) false) := HSE0.out
              clear HSE0 hb1 hnn1
              generalize edgeV tk q2 = b2 at *
              refine takeC (i := 0) (v := .slice (some ⟨bt, 0, none⟩) nn nn) (some 37) rfl rfl (by kernel_rfl) (by kernel_rfl) (by kernel_rfl) (fun _ _ _ h => h) (Or.inl ⟨by rfl, ?_⟩) (by assumption) ?_
              · intro wz hSw; go_simp
              try simp only [Act.put, List.setIfInBounds_toArray, List.set_cons_zero, List.set_cons_succ]
              refine takeC (i := 1) (v := .pointer (some ⟨w.heap.size, 0, none⟩)) (some 38) rfl rfl (by kernel_rfl) (by kernel_rfl) (by kernel_rfl) (fun _ _ _ h => h) (Or.inl ⟨by rfl, ?_⟩) (by assumption) ?_
              · intro wz hSw; go_simp
              try simp only [Act.put, List.setIfInBounds_toArray, List.set_cons_zero, List.set_cons_succ]
              refine takeC (i := 2) (v := .slice ia I.length ic) (some 39) rfl rfl (by kernel_rfl) (by kernel_rfl) (by kernel_rfl) (fun _ _ _ h => h) (Or.inl ⟨by rfl, ?_⟩) (by assumption) ?_
              · intro wz hSw; obtain ⟨t0, t1⟩ := hSw.1; go_simp
              try simp only [Act.put, List.setIfInBounds_toArray, List.set_cons_zero, List.set_cons_succ]
              refine takeC (i := 3) (v := .int .i64 (I.length : Int)) (some 40) rfl rfl (by kernel_rfl) (by kernel_rfl) (by kernel_rfl) (fun _ _ _ h => h) (Or.inl ⟨by rfl, ?_⟩) (by assumption) ?_
              · intro wz hSw; go_simp
              try simp only [Act.put, List.setIfInBounds_toArray, List.set_cons_zero, List.set_cons_succ]
              refine takeC (i := 4) (v := .int .i64 (1 + (I.length : Int))) (some 41) rfl rfl (by kernel_rfl) (by kernel_rfl) (by kernel_rfl) (fun _ _ _ h => h) (Or.inl ⟨by rfl, ?_⟩) (by assumption) ?_
              · intro wz hSw; go_simp
              try simp only [Act.put, List.setIfInBounds_toArray, List.set_cons_zero, List.set_cons_succ]
              refine takeC (i := 5) (v := .int .i64 (k : Int)) (some 42) rfl rfl (by kernel_rfl) (by kernel_rfl) (by kernel_rfl) (fun _ _ _ h => h) (Or.inl ⟨by rfl, ?_⟩) (by assumption) ?_
              · intro wz hSw; go_simp
              try simp only [Act.put, List.setIfInBounds_toArray, List.set_cons_zero, List.set_cons_succ]
              refine takeC (i := 6) (v := .int .i64 (n : Int)) (some 43) rfl rfl (by kernel_rfl) (by kernel_rfl) (by kernel_rfl) (fun _ _ _ h => h) (Or.inl ⟨by rfl, ?_⟩) (by assumption) ?_
              · intro wz hSw; go_simp
              try simp only [Act.put, List.setIfInBounds_toArray, List.set_cons_zero, List.set_cons_succ]
              refine takeC (i := 7) (v := .slice (some ⟨bt, 0, none⟩) nn nn) (some 44) rfl rfl (by kernel_rfl) (by kernel_rfl) (by kernel_rfl) (fun _ _ _ h => h) (Or.inl ⟨by rfl, ?_⟩) (by assumption) ?_
              · intro wz hSw; go_simp
              try simp only [Act.put, List.setIfInBounds_toArray, List.set_cons_zero, List.set_cons_succ]
              refine takeC (i := 8) (v := .pointer (some ⟨w.heap.size, 1, none⟩)) (some 45) rfl rfl (by kernel_rfl) (by kernel_rfl) (by kernel_rfl) (fun _ _ _ h => h) (Or.inl ⟨by rfl, ?_⟩) (by assumption) ?_
              · intro wz hSw; go_simp
              try simp only [Act.put, List.setIfInBounds_toArray, List.set_cons_zero, List.set_cons_succ]
              refine takeC (i := 9) (v := .slice (some ⟨ab, aoff, none⟩) A.length ac) (some 46) rfl rfl (by kernel_rfl) (by kernel_rfl) (by kernel_rfl) (fun _ _ _ h => h) (Or.inl ⟨by rfl, ?_⟩) (by assumption) ?_
              · intro wz hSw; obtain ⟨t0, t1⟩ := hSw.1; go_simp
              try simp only [Act.put, List.setIfInBounds_toArray, List.set_cons_zero, List.set_cons_succ]
              refine takeC (i := 10) (v := .int .i64 (k : Int)) (some 47) rfl rfl (by kernel_rfl) (by kernel_rfl) (by kernel_rfl) (fun _ _ _ h => h) (Or.inl ⟨by rfl, ?_⟩) (by assumption) ?_
              · intro wz hSw; go_simp
              try simp only [Act.put, List.setIfInBounds_toArray, List.set_cons_zero, List.set_cons_succ]
              refine takeC (i := 11) (v := .pointer (some ⟨ab, aoff + k * 2, none⟩)) (some 48) rfl rfl (by kernel_rfl) (by kernel_rfl) (by kernel_rfl) (fun _ _ _ h => h) (Or.inl ⟨by rfl, ?_⟩) (by assumption) ?_
              · intro wz hSw; go_simp
              try simp only [Act.put, List.setIfInBounds_toArray, List.set_cons_zero, List.set_cons_succ]
              refine takeC (i := 12) (v := .pointer (some ⟨ab, aoff + k * 2, none⟩)) (some 49) rfl rfl (by kernel_rfl) (by kernel_rfl) (by kernel_rfl) (fun _ _ _ h => h) (Or.inl ⟨by rfl, ?_⟩) (by assumption) ?_
              · intro wz hSw; go_simp
              try simp only [Act.put, List.setIfInBounds_toArray, List.set_cons_zero, List.set_cons_succ]
              refine takeC (i := 13) (v := .int .i64 q1) (some 50) rfl rfl (by kernel_rfl) (by kernel_rfl) (by kernel_rfl) (fun _ _ _ h => h) (Or.inl ⟨by rfl, ?_⟩) (by assumption) ?_
              · intro wz hSw; obtain ⟨t0, t1⟩ := hSw.2; go_simp
              try simp only [Act.put, List.setIfInBounds_toArray, List.set_cons_zero, List.set_cons_succ]
              refine wpAnyH_ready (rs := [14]) (by kernel_rfl) (by simp) ?_
              refine AllReadyH.cons rfl (fun K hK => ?_) AllReadyH.nil
              go_simp
              go_wp2_with (go_at_call 80; refine HOF1.out.mono ?_; rintro er w9 ⟨rfl, rfl⟩)
              refine hK.out _ _ hSd (fun hHn => ?_)
              clear hK K hHn
              try simp only [Act.put, List.setIfInBounds_toArray, List.set_cons_zero, List.set_cons_succ]
              refine takeC (i := 15) (v := .bool true) (some 52) rfl rfl (by kernel_rfl) (by kernel_rfl) (by kernel_rfl) (fun _ _ _ h => h) (Or.inl ⟨by rfl, ?_⟩) (by assumption) ?_
              · intro wz hSw; go_simp
              try simp only [Act.put, List.setIfInBounds_toArray, List.set_cons_zero, List.set_cons_succ]
              refine takeC (i := 16) (v := .slice (some ⟨bt, 0, none⟩) nn nn) (some 53) rfl rfl (by kernel_rfl) (by kernel_rfl) (by kernel_rfl) (fun _ _ _ h => h) (Or.inl ⟨by rfl, ?_⟩) (by assumption) ?_
              · intro wz hSw; go_simp
              try simp only [Act.put, List.setIfInBounds_toArray, List.set_cons_zero, List.set_cons_succ]
              refine takeC (i := 17) (v := .pointer (some ⟨w.heap.size, 1, none⟩)) (some 54) rfl rfl (by kernel_rfl) (by kernel_rfl) (by kernel_rfl) (fun _ _ _ h => h) (Or.inl ⟨by rfl, ?_⟩) (by assumption) ?_
              · intro wz hSw; go_simp
              try simp only [Act.put, List.setIfInBounds_toArray, List.set_cons_zero, List.set_cons_succ]
              refine takeC (i := 18) (v := .slice (some ⟨ab, aoff, none⟩) A.length ac) (some 55) rfl rfl (by kernel_rfl) (by kernel_rfl) (by kernel_rfl) (fun _ _ _ h => h) (Or.inl ⟨by rfl, ?_⟩) (by assumption) ?_
              · intro wz hSw; obtain ⟨t0, t1⟩ := hSw.1; go_simp
              try simp only [Act.put, List.setIfInBounds_toArray, List.set_cons_zero, List.set_cons_succ]
              refine takeC (i := 19) (v := .int .i64 (k : Int)) (some 56) rfl rfl (by kernel_rfl) (by kernel_rfl) (by kernel_rfl) (fun _ _ _ h => h) (Or.inl ⟨by rfl, ?_⟩) (by assumption) ?_
              · intro wz hSw; go_simp
              try simp only [Act.put, List.setIfInBounds_toArray, List.set_cons_zero, List.set_cons_succ]
              refine takeC (i := 20) (v := .pointer (some ⟨ab, aoff + k * 2, none⟩)) (some 57) rfl rfl (by kernel_rfl) (by kernel_rfl) (by kernel_rfl) (fun _ _ _ h => h) (Or.inl ⟨by rfl, ?_⟩) (by assumption) ?_
              · intro wz hSw; go_simp
              try simp only [Act.put, List.setIfInBounds_toArray, List.set_cons_zero, List.set_cons_succ]
              refine takeC (i := 21) (v := .pointer (some ⟨ab, aoff + k * 2 + 1, none⟩)) (some 58) rfl rfl (by kernel_rfl) (by kernel_rfl) (by kernel_rfl) (fun _ _ _ h => h) (Or.inl ⟨by rfl, ?_⟩) (by assumption) ?_
              · intro wz hSw; go_simp
              try simp only [Act.put, List.setIfInBounds_toArray, List.set_cons_zero, List.set_cons_succ]
              refine takeC (i := 22) (v := .int .i64 q2) (some 59) rfl rfl (by kernel_rfl) (by kernel_rfl) (by kernel_rfl) (fun _ _ _ h => h) (Or.inl ⟨by rfl, ?_⟩) (by assumption) ?_
              · intro wz hSw; obtain ⟨t0, t1⟩ := hSw.2; go_simp
              try simp only [Act.put, List.setIfInBounds_toArray, List.set_cons_zero, List.set_cons_succ]
              refine wpAnyH_ready (rs := [23]) (by kernel_rfl) (by simp) ?_
              refine AllReadyH.cons rfl (fun K hK => ?_) AllReadyH.nil
              go_simp
              go_wp2_with (go_at_call 80; refine HOF2.out.mono ?_; rintro er w9 ⟨rfl, rfl⟩)
              refine hK.out _ _ hSd (fun hHn => ?_)
              clear hK K hHn
              try simp only [Act.put, List.setIfInBounds_toArray, List.set_cons_zero, List.set_cons_succ]
              refine takeC (i := 24) (v := .bool b2) (some 61) rfl rfl (by kernel_rfl) (by kernel_rfl) (by kernel_rfl) (fun _ _ _ h => h) (Or.inl ⟨by rfl, ?_⟩) (by assumption) ?_
              · intro wz hSw; go_simp
              try simp only [Act.put, List.setIfInBounds_toArray, List.set_cons_zero, List.set_cons_succ]
              refine takeC (i := 25) (v := .pointer (some ⟨bt, n, none⟩)) (some 62) rfl rfl (by kernel_rfl) (by kernel_rfl) (by kernel_rfl) (fun _ _ _ h => h) (Or.inl ⟨by rfl, ?_⟩) (by assumption) ?_
              · intro wz hSw; go_simp
              try simp only [Act.put, List.setIfInBounds_toArray, List.set_cons_zero, List.set_cons_succ]
              have HO9 := Lib.hid (HOD.out.store n b2)
              have HK9 := Lib.hid (HKD.out.trans (Kept.setCell X ⟨bt, n, none⟩ (.bool b2)))
              have hS9 := HSB.out _ HK9.out
              refine wpAnyH_ready (rs := [26]) (by kernel_rfl) (by simp) ?_
              refine AllReadyH.cons rfl (fun K hK => ?_) AllReadyH.nil
              go_simp
              refine hK.out _ _ hS9 (fun hHn => ?_)
              clear hK K hHn hS9
              try simp only [Act.put, List.setIfInBounds_toArray, List.set_cons_zero, List.set_cons_succ]
              refine wpAnyH_done (by kernel_rfl) ?_ _
              go_wp2
              go_roundw
              case rel => exact ⟨k + 1, HKL.out, by go_num, by rw [← HSE.out]; exact HO9.out, HK9.out⟩
              case measure => have := HKL.out; simp [intOf]; omega
          | false =>
              rw [hb1] at HOF1 HSE0
              have HSE : Hid (tk.set n false = runN bb (A.take (k + 1)) ++ List.replicate (A.length - (k + 1)) false) := HSE0.out
              clear HSE0 hb1 hnn1 HOF2
              refine takeC (i := 0) (v := .slice (some ⟨bt, 0, none⟩) nn nn) (some 37) rfl rfl (by kernel_rfl) (by kernel_rfl) (by kernel_rfl) (fun _ _ _ h => h) (Or.inl ⟨by rfl, ?_⟩) (by assumption) ?_
              · intro wz hSw; go_simp
              try simp only [Act.put, List.setIfInBounds_toArray, List.set_cons_zero, List.set_cons_succ]
              refine takeC (i := 1) (v := .pointer (some ⟨w.heap.size, 0, none⟩)) (some 38) rfl rfl (by kernel_rfl) (by kernel_rfl) (by kernel_rfl) (fun _ _ _ h => h) (Or.inl ⟨by rfl, ?_⟩) (by assumption) ?_
              · intro wz hSw; go_simp
              try simp only [Act.put, List.setIfInBounds_toArray, List.set_cons_zero, List.set_cons_succ]
              refine takeC (i := 2) (v := .slice ia I.length ic) (some 39) rfl rfl (by kernel_rfl) (by kernel_rfl) (by kernel_rfl) (fun _ _ _ h => h) (Or.inl ⟨by rfl, ?_⟩) (by assumption) ?_
              · intro wz hSw; obtain ⟨t0, t1⟩ := hSw.1; go_simp
              try simp only [Act.put, List.setIfInBounds_toArray, List.set_cons_zero, List.set_cons_succ]
              refine takeC (i := 3) (v := .int .i64 (I.length : Int)) (some 40) rfl rfl (by kernel_rfl) (by kernel_rfl) (by kernel_rfl) (fun _ _ _ h => h) (Or.inl ⟨by rfl, ?_⟩) (by assumption) ?_
              · intro wz hSw; go_simp
              try simp only [Act.put, List.setIfInBounds_toArray, List.set_cons_zero, List.set_cons_succ]
              refine takeC (i := 4) (v := .int .i64 (1 + (I.length : Int))) (some 41) rfl rfl (by kernel_rfl) (by kernel_rfl) (by kernel_rfl) (fun _ _ _ h => h) (Or.inl ⟨by rfl, ?_⟩) (by assumption) ?_
              · intro wz hSw; go_simp
              try simp only [Act.put, List.setIfInBounds_toArray, List.set_cons_zero, List.set_cons_succ]
              refine takeC (i := 5) (v := .int .i64 (k : Int)) (some 42) rfl rfl (by kernel_rfl) (by kernel_rfl) (by kernel_rfl) (fun _ _ _ h => h) (Or.inl ⟨by rfl, ?_⟩) (by assumption) ?_
              · intro wz hSw; go_simp
              try simp only [Act.put, List.setIfInBounds_toArray, List.set_cons_zero, List.set_cons_succ]
              refine takeC (i := 6) (v := .int .i64 (n : Int)) (some 43) rfl rfl (by kernel_rfl) (by kernel_rfl) (by kernel_rfl) (fun _ _ _ h => h) (Or.inl ⟨by rfl, ?_⟩) (by assumption) ?_
              · intro wz hSw; go_simp
              try simp only [Act.put, List.setIfInBounds_toArray, List.set_cons_zero, List.set_cons_succ]
              refine takeC (i := 7) (v := .slice (some ⟨bt, 0, none⟩) nn nn) (some 44) rfl rfl (by kernel_rfl) (by kernel_rfl) (by kernel_rfl) (fun _ _ _ h => h) (Or.inl ⟨by rfl, ?_⟩) (by assumption) ?_
              · intro wz hSw; go_simp
              try simp only [Act.put, List.setIfInBounds_toArray, List.set_cons_zero, List.set_cons_succ]
              refine takeC (i := 8) (v := .pointer (some ⟨w.heap.size, 1, none⟩)) (some 45) rfl rfl (by kernel_rfl) (by kernel_rfl) (by kernel_rfl) (fun _ _ _ h => h) (Or.inl ⟨by rfl, ?_⟩) (by assumption) ?_
              · intro wz hSw; go_simp
              try simp only [Act.put, List.setIfInBounds_toArray, List.set_cons_zero, List.set_cons_succ]
              refine takeC (i := 9) (v := .slice (some ⟨ab, aoff, none⟩) A.length ac) (some 46) rfl rfl (by kernel_rfl) (by kernel_rfl) (by kernel_rfl) (fun _ _ _ h => h) (Or.inl ⟨by rfl, ?_⟩) (by assumption) ?_
              · intro wz hSw; obtain ⟨t0, t1⟩ := hSw.1; go_simp
              try simp only [Act.put, List.setIfInBounds_toArray, List.set_cons_zero, List.set_cons_succ]
              refine takeC (i := 10) (v := .int .i64 (k : Int)) (some 47) rfl rfl (by kernel_rfl) (by kernel_rfl) (by kernel_rfl) (fun _ _ _ h => h) (Or.inl ⟨by rfl, ?_⟩) (by assumption) ?_
              · intro wz hSw; go_simp
              try simp only [Act.put, List.setIfInBounds_toArray, List.set_cons_zero, List.set_cons_succ]
              refine takeC (i := 11) (v := .pointer (some ⟨ab, aoff + k * 2, none⟩)) (some 48) rfl rfl (by kernel_rfl) (by kernel_rfl) (by kernel_rfl) (fun _ _ _ h => h) (Or.inl ⟨by rfl, ?_⟩) (by assumption) ?_
              · intro wz hSw; go_simp
              try simp only [Act.put, List.setIfInBounds_toArray, List.set_cons_zero, List.set_cons_succ]
              refine takeC (i := 12) (v := .pointer (some ⟨ab, aoff + k * 2, none⟩)) (some 49) rfl rfl (by kernel_rfl) (by kernel_rfl) (by kernel_rfl) (fun _ _ _ h => h) (Or.inl ⟨by rfl, ?_⟩) (by assumption) ?_
              · intro wz hSw; go_simp
              try simp only [Act.put, List.setIfInBounds_toArray, List.set_cons_zero, List.set_cons_succ]
              refine takeC (i := 13) (v := .int .i64 q1) (some 50) rfl rfl (by kernel_rfl) (by kernel_rfl) (by kernel_rfl) (fun _ _ _ h => h) (Or.inl ⟨by rfl, ?_⟩) (by assumption) ?_
              · intro wz hSw; obtain ⟨t0, t1⟩ := hSw.2; go_simp
              try simp only [Act.put, List.setIfInBounds_toArray, List.set_cons_zero, List.set_cons_succ]
              refine wpAnyH_ready (rs := [14]) (by kernel_rfl) (by simp) ?_
              refine AllReadyH.cons rfl (fun K hK => ?_) AllReadyH.nil
              go_simp
              go_wp2_with (go_at_call 80; refine HOF1.out.mono ?_; rintro er w9 ⟨rfl, rfl⟩)
              refine hK.out _ _ hSd (fun hHn => ?_)
              clear hK K hHn
              try simp only [Act.put, List.setIfInBounds_toArray, List.set_cons_zero, List.set_cons_succ]
              refine takeC (i := 15) (v := .bool false) (some 52) rfl rfl (by kernel_rfl) (by kernel_rfl) (by kernel_rfl) (fun _ _ _ h => h) (Or.inl ⟨by rfl, ?_⟩) (by assumption) ?_
              · intro wz hSw; go_simp
              try simp only [Act.put, List.setIfInBounds_toArray, List.set_cons_zero, List.set_cons_succ]
              refine takeC (i := 16) (v := undef) (some 53) rfl rfl (by kernel_rfl) (by kernel_rfl) (by kernel_rfl) (fun _ _ _ h => h) (Or.inr ⟨by rfl, rfl⟩) (by assumption) ?_
              try simp only [Act.put, List.setIfInBounds_toArray, List.set_cons_zero, List.set_cons_succ]
              refine takeC (i := 17) (v := undef) (some 54) rfl rfl (by kernel_rfl) (by kernel_rfl) (by kernel_rfl) (fun _ _ _ h => h) (Or.inr ⟨by rfl, rfl⟩) (by assumption) ?_
              try simp only [Act.put, List.setIfInBounds_toArray, List.set_cons_zero, List.set_cons_succ]
              refine takeC (i := 18) (v := undef) (some 55) rfl rfl (by kernel_rfl) (by kernel_rfl) (by kernel_rfl) (fun _ _ _ h => h) (Or.inr ⟨by rfl, rfl⟩) (by assumption) ?_
              try simp only [Act.put, List.setIfInBounds_toArray, List.set_cons_zero, List.set_cons_succ]
              refine takeC (i := 19) (v := undef) (some 56) rfl rfl (by kernel_rfl) (by kernel_rfl) (by kernel_rfl) (fun _ _ _ h => h) (Or.inr ⟨by rfl, rfl⟩) (by assumption) ?_
              try simp only [Act.put, List.setIfInBounds_toArray, List.set_cons_zero, List.set_cons_succ]
              refine takeC (i := 20) (v := undef) (some 57) rfl rfl (by kernel_rfl) (by kernel_rfl) (by kernel_rfl) (fun _ _ _ h => h) (Or.inr ⟨by rfl, rfl⟩) (by assumption) ?_
              try simp only [Act.put, List.setIfInBounds_toArray, List.set_cons_zero, List.set_cons_succ]
              refine takeC (i := 21) (v := undef) (some 58) rfl rfl (by kernel_rfl) (by kernel_rfl) (by kernel_rfl) (fun _ _ _ h => h) (Or.inr ⟨by rfl, rfl⟩) (by assumption) ?_
              try simp only [Act.put, List.setIfInBounds_toArray, List.set_cons_zero, List.set_cons_succ]
              refine takeC (i := 22) (v := undef) (some 59) rfl rfl (by kernel_rfl) (by kernel_rfl) (by kernel_rfl) (fun _ _ _ h => h) (Or.inr ⟨by rfl, rfl⟩) (by assumption) ?_
              try simp only [Act.put, List.setIfInBounds_toArray, List.set_cons_zero, List.set_cons_succ]
              refine takeC (i := 23) (v := undef) (some 60) rfl rfl (by kernel_rfl) (by kernel_rfl) (by kernel_rfl) (fun _ _ _ h => h) (Or.inr ⟨by rfl, rfl⟩) (by assumption) ?_
              try simp only [Act.put, List.setIfInBounds_toArray, List.set_cons_zero, List.set_cons_succ]
              refine takeC (i := 24) (v := .bool false) (some 61) rfl rfl (by kernel_rfl) (by kernel_rfl) (by kernel_rfl) (fun _ _ _ h => h) (Or.inl ⟨by rfl, ?_⟩) (by assumption) ?_
              · intro wz hSw; go_simp
              try simp only [Act.put, List.setIfInBounds_toArray, List.set_cons_zero, List.set_cons_succ]
              refine takeC (i := 25) (v := .pointer (some ⟨bt, n, none⟩)) (some 62) rfl rfl (by kernel_rfl) (by kernel_rfl) (by kernel_rfl) (fun _ _ _ h => h) (Or.inl ⟨by rfl, ?_⟩) (by assumption) ?_
              · intro wz hSw; go_simp
              try simp only [Act.put, List.setIfInBounds_toArray, List.set_cons_zero, List.set_cons_succ]
              have HO9 := Lib.hid (HOD.out.store n false)
              have HK9 := Lib.hid (HKD.out.trans (Kept.setCell X ⟨bt, n, none⟩ (.bool false)))
              have hS9 := HSB.out _ HK9.out
              refine wpAnyH_ready (rs := [26]) (by kernel_rfl) (by simp) ?_
              refine AllReadyH.cons rfl (fun K hK => ?_) AllReadyH.nil
              go_simp
              refine hK.out _ _ hS9 (fun hHn => ?_)
              clear hK K hHn hS9
              try simp only [Act.put, List.setIfInBounds_toArray, List.set_cons_zero, List.set_cons_succ]
              refine wpAnyH_done (by kernel_rfl) ?_ _
              go_wp2
              go_roundw
              case rel => exact ⟨k + 1, HKL.out, by go_num, by rw [← HSE.out]; exact HO9.out, HK9.out⟩
              case measure => have := HKL.out; simp [intOf]; omega
        · obtain rfl : k = A.length := by omega
          have hTA : A.take A.length = A := List.take_length
          rw [hTA, Nat.sub_self] at HOR
          have HOF : Hid (OwnB wr bt (.slice (some ⟨bt, 0, none⟩) nn nn) (runN bb A)) := by
            have h := HOR.out
            rw [show List.replicate 0 false = ([] : List Bool) from rfl, List.append_nil] at h
            exact h
          clear hTA HOR hlt hk
          go_wp2
          go_ret
          refine ⟨bt, by rw [HNN.out]; rfl, ?_, HB0.out.trans (HBR4.out.mono HB0.out.size)⟩
          rw [HNN.out, hbb]
          exact ownB_mono HOF.out (by have := HT.out; have := HSZ.out; omega)
def revC (I : List Int) (A : List Pr) (e : Int) (a : List Int) : Bool × Int := if hasA I A [e] = true ∧ mayB a = true then (evalA I A e a, 0) else (false, 2)
theorem may_lits {a : List Int} (h : mayB a = true) : ∀ x ∈ a, x ≠ 0 ∧ x ≤ 65536 := fun x hx => by
  have h1 := mayB_mem h x hx
  unfold litB at h1
  have h2 : x ≠ 0 ∧ -65536 ≤ x ∧ x ≤ 65536 := by simpa [and_assoc] using h1
  exact ⟨h2.1, h2.2.2⟩

set_option maxHeartbeats 3200000 in
set_option maxRecDepth 100000 in
theorem reval6_any (vi va vl : Value) (I : List Int) (A : List Pr) (x : Int) (a : List Int) (w : World) (HI : IsInts w vi I) (HA : IsPairs w va A) (HL : IsInts w vl a) (h1 : I.length ≤ 4000000) (h2 : A.length ≤ 4000000) (h3 : -9223372036854775808 ≤ x) (h4 : x ≤ 9223372036854775807) :
    Calls Tryz.prog 28 #[.agg #[vi, va], .int .i64 x, vl] w fun r w' => r = .returned (.tuple #[.bool (revC I A x a).1, .int .i64 (revC I A x a).2]) ∧ Below w.heap.size w w' := by
  have hb0 := below_alloc1 w (.cells #[vi, va] 25)
  have hbx := boxA_new w vi va
  have hsz : (w.alloc (.cells #[vi, va] 25)).heap.size = w.heap.size + 1 := by simp
  have HI1 := Lib.hid (HI.below hb0 (Nat.le_refl _))
  have HA1 := Lib.hid (HA.below hb0 (Nat.le_refl _))
  have HL1 := Lib.hid (HL.below hb0 (Nat.le_refl _))
  obtain ⟨ia, ic, rfl⟩ := HI.shape
  obtain ⟨aa, ac, rfl, _⟩ := HA.shape
  obtain ⟨la, lc, rfl⟩ := HL.shape
  clear HI HA HL
  go_enter Tryz.func28, Tryz.ntmps28
  go_upto_region 1 with fail
  generalize World.alloc w _ = W at *
  have HB0 := Lib.hid hb0
  have HBX := Lib.hid hbx
  have HSZ := Lib.hid hsz
  obtain ⟨p0, p1⟩ := hbx
  clear hb0 hsz
  have HH := Lib.hid (rHas6_any _ _ I A x W HI1.out HA1.out h1 h2)
  have HNO : Hid (∀ X, Below W.heap.size W X → Calls Tryz.prog 46 #[.slice la a.length lc] X fun e w' => e = .returned (.bool (mayB a)) ∧ Quiet X w') := fun X hX => rnormal5_any _ a X (HL1.out.below hX (Nat.le_refl _))
  by_cases hh : hasA I A [x] = true
  · by_cases hm : mayB a = true
    · have HE : Hid (revC I A x a = (evalA I A x a, 0)) := by show _ = _; unfold revC; rw [if_pos ⟨hh, hm⟩]
      obtain ⟨hma, hok, hed⟩ := hasA_parts hh
      have hroom := (mayA_parts hma).1
      have hpos := (insB_lt (mayA_parts hma).2.1).1
      have hxe := edgesB_true.1 hed x (by simp)
      have HOK := Lib.hid hok
      have HRM := Lib.hid hroom
      have HPO := Lib.hid hpos
      have HXE := Lib.hid hxe
      have HML := Lib.hid (may_lits hm)
      rw [hh] at HH
      rw [hm] at HNO
      clear hh hm hma hok hed hroom hpos hxe
      go_upto_region 3 with (first
        | (go_at_call 46; refine (HNO.out w1 HB1.out).mono ?_; rintro e w2 ⟨rfl, hq⟩; have HB2 := Lib.hid (HB1.out.trans ((hq.below _).mono HB1.out.size)); clear hq)
        | (go_at_call 23; refine HH.out.mono ?_; rintro e w1 ⟨rfl, hb1⟩; have HB1 := Lib.hid hb1; clear hb1 p0 p1))
      clear HH HNO HB1
      have HSB : Hid (∀ Z, Below W.heap.size W Z → (Z.cell? ⟨w.heap.size, 0, none⟩ = some (.slice ia I.length ic) ∧ Z.cell? ⟨w.heap.size, 1, none⟩ = some (.slice aa A.length ac)) ∧ True) := fun Z hZ => ⟨HBX.out.below hZ (by rw [HSZ.out]; omega), trivial⟩
      have HBD := Lib.hid (HB2.out.drew)
      refine wp_region_held_drew (S := fun Z : World => (Z.cell? ⟨w.heap.size, 0, none⟩ = some (.slice ia I.length ic) ∧ Z.cell? ⟨w.heap.size, 1, none⟩ = some (.slice aa A.length ac)) ∧ True) (by kernel_rfl) (HSB.out _ HBD.out) (fun hSd => ?_)
      generalize w2.drew = X at *
      refine takeC (i := 0) (v := .agg #[.slice ia I.length ic, .slice aa A.length ac]) (some 17) rfl rfl (by kernel_rfl) (by kernel_rfl) (by kernel_rfl) (fun _ _ _ h => h) (Or.inl ⟨by rfl, ?_⟩) (by assumption) ?_
      · intro wz hSw; obtain ⟨t0, t1⟩ := hSw.1; go_simp
      try simp only [Act.put, List.setIfInBounds_toArray, List.set_cons_zero, List.set_cons_succ]
      refine takeC (i := 1) (v := .slice la a.length lc) (some 18) rfl rfl (by kernel_rfl) (by kernel_rfl) (by kernel_rfl) (fun _ _ _ h => h) (Or.inl ⟨by rfl, ?_⟩) (by assumption) ?_
      · intro wz hSw; go_simp
      try simp only [Act.put, List.setIfInBounds_toArray, List.set_cons_zero, List.set_cons_succ]
      refine takeC (i := 4) (v := .int .i64 x) (some 21) rfl rfl (by kernel_rfl) (by kernel_rfl) (by kernel_rfl) (fun _ _ _ h => h) (Or.inl ⟨by rfl, ?_⟩) (by assumption) ?_
      · intro wz hSw; go_simp
      try simp only [Act.put, List.setIfInBounds_toArray, List.set_cons_zero, List.set_cons_succ]
      have HON := Lib.hid (ron6_any _ a X (HL1.out.below HBD.out (Nat.le_refl _)) HML.out)
      refine wpAnyH_ready (rs := [2]) (by kernel_rfl) (by simp) ?_
      refine AllReadyH.cons rfl (fun K hK => ?_) AllReadyH.nil
      go_simp
      go_wp2_with (go_at_call 82; refine HON.out.mono ?_; rintro er x1 ⟨bo, rfl, hmk, hb⟩)
      have HMK := Lib.hid hmk
      have HB3 := Lib.hid (HBD.out.trans (hb.mono HBD.out.size))
      refine hK.out _ _ (HSB.out _ HB3.out) (fun hHn => ?_)
      clear hK K hHn hmk hb
      try simp only [Act.put, List.setIfInBounds_toArray, List.set_cons_zero, List.set_cons_succ]
      have HAL := Lib.hid (rall6_any _ _ I A _ bo (fun v => decide (v ∈ a)) x1 (HI1.out.below HB3.out (Nat.le_refl _)) (HA1.out.below HB3.out (Nat.le_refl _)) HMK.out HPO.out HRM.out HOK.out)
      refine wpAnyH_ready (rs := [3]) (by kernel_rfl) (by simp) ?_
      refine AllReadyH.cons rfl (fun K hK => ?_) AllReadyH.nil
      go_simp
      go_wp2_with (go_at_call 81; refine HAL.out.mono ?_; rintro er x2 ⟨bv, rfl, ho, hb⟩)
      have HO2 := Lib.hid ho
      have HB4 := Lib.hid (HB3.out.trans (hb.mono HB3.out.size))
      refine hK.out _ _ (HSB.out _ HB4.out) (fun hHn => ?_)
      clear hK K hHn ho hb
      try simp only [Act.put, List.setIfInBounds_toArray, List.set_cons_zero, List.set_cons_succ]
      have HOF := Lib.hid (rof_any x HO2.out (by rw [runN_len, baseV_len]) HXE.out.1 HXE.out.2 (by have := HRM.out; omega))
      have HEV : Hid (edgeV (runN (baseV I (fun v => decide (v ∈ a))) A) x = evalA I A x a) := rfl
      generalize 1 + I.length + A.length = nn at *
      refine wpAnyH_ready (rs := [5]) (by kernel_rfl) (by simp) ?_
      refine AllReadyH.cons rfl (fun K hK => ?_) AllReadyH.nil
      go_simp
      go_wp2_with (go_at_call 80; refine HOF.out.mono ?_; rintro er x3 ⟨rfl, rfl⟩)
      have hS9 := HSB.out _ HB4.out
      refine hK.out _ _ hS9 (fun hHn => ?_)
      clear hK K hHn
      try simp only [Act.put, List.setIfInBounds_toArray, List.set_cons_zero, List.set_cons_succ]
      rw [HEV.out]
      refine takeC (i := 6) (v := .bool (evalA I A x a)) (some 6) rfl rfl (by kernel_rfl) (by kernel_rfl) (by kernel_rfl) (fun _ _ _ h => h) (Or.inl ⟨by rfl, ?_⟩) (by assumption) ?_
      · intro wz hSw; go_simp
      try simp only [Act.put, List.setIfInBounds_toArray, List.set_cons_zero, List.set_cons_succ]
      refine takeC (i := 7) (v := .int .i64 0) (some 7) rfl rfl (by kernel_rfl) (by kernel_rfl) (by kernel_rfl) (fun _ _ _ h => h) (Or.inl ⟨by rfl, ?_⟩) (by assumption) ?_
      · intro wz hSw; go_simp
      try simp only [Act.put, List.setIfInBounds_toArray, List.set_cons_zero, List.set_cons_succ]
      refine wpAnyH_done (by kernel_rfl) ?_ _
      clear hS9
      go_wp2
      go_ret2
      exact ⟨by rw [HE.out]; rfl, HB0.out.trans (HB4.out.mono HB0.out.size)⟩
    · have HE : Hid (revC I A x a = (false, 2)) := by show _ = _; unfold revC; rw [if_neg (fun h => hm h.2)]
      rw [hh] at HH
      rw [show mayB a = false by simpa using hm] at HNO
      clear hm hh
      go_wp2_with (first
        | (go_at_call 46; refine (HNO.out w1 HB1.out).mono ?_; rintro e w2 ⟨rfl, hq⟩; have HB2 := Lib.hid (HB1.out.trans ((hq.below _).mono HB1.out.size)); clear hq)
        | (go_at_call 23; refine HH.out.mono ?_; rintro e w1 ⟨rfl, hb1⟩; have HB1 := Lib.hid hb1; clear hb1))
      go_ret2
      exact ⟨by rw [HE.out]; rfl, HB0.out.trans (HB2.out.mono HB0.out.size)⟩
  · have HE : Hid (revC I A x a = (false, 2)) := by show _ = _; unfold revC; rw [if_neg (fun h => hh h.1)]
    rw [show hasA I A [x] = false by simpa using hh] at HH
    clear hh
    go_wp2_with (go_at_call 23; refine HH.out.mono ?_; rintro e w1 ⟨rfl, hb1⟩; have HB1 := Lib.hid hb1; clear hb1)
    go_ret2
    exact ⟨by rw [HE.out]; rfl, HB0.out.trans (HB1.out.mono HB0.out.size)⟩
end Go.Proofs.YtfghjfljomcldaaGreat
