/- The law on the order of the clauses, walked. (Written by program: the same text for no clause and for some.) -/
import Derived.Test.YtmhjpbhldaagmaaDoorMgS
import Derived.Test.YtmhjpbhldaagmaaDoorTakeZ
import Derived.Test.YtmhjpbhldaagmaaDoorMgI
import Derived.Test.YtmhjpbhldaagmaaDoorMgQ
import Derived.Test.YtmhjpbhldaagmaaDoorMgO
import Derived.Test.YtmhjpbhldaagmaaDoorLawTwice
import Derived.Deep.DeepCutAuto
import Derived.Deep.RegionHeld3
namespace Go.Proofs.YtmhjpbhldaagmaaDoor
open Go.RowKit
set_option linter.unusedVariables false
set_option linter.unusedSimpArgs false

set_option maxHeartbeats 4000000 in
set_option maxRecDepth 100000 in
theorem order_big (vf va : Value) (f : List (List Int)) (a : List Int) (x : Nat) (w : World) (hS : SameAz w) (HF : IsRows w vf f) (HA : IsInts w va a) (hf24 : f.length * 24 ≤ 140737488351232) (hlg : largeB [a] f = true) :
    Calls Tryd.prog 4 #[vf, va, .int .u8 x] w (fun e w' => e = .returned (.bool true) ∧ Below w.heap.size w w') := by
  have HS := Lib.hid hS
  clear hS
  obtain ⟨af, cf, rfl, hfl⟩ := HF.shape
  obtain ⟨aa, ca, rfl⟩ := HA.shape
  have hl := lgF1 HF HA hf24 hlg
  have HL := Lib.hid hl
  clear hl hlg HF HA
  go_enter Tryd.func4, Tryd.ntmps4
  go_wp2_with (first
    | (go_at_call 7; refine HL.out.mono ?_; rintro e w1 ⟨rfl, hb1⟩)
    | (go_at_call 8; refine (awakezX hb1 HS.out).mono ?_; rintro e w2 ⟨rfl, hb2⟩))
  go_ret
  exact ⟨rfl, hb2⟩

set_option maxHeartbeats 4000000 in
set_option maxRecDepth 100000 in
theorem order_none (vf va : Value) (f : List (List Int)) (a : List Int) (x : Nat) (w : World) (hS : SameAz w) (HF : IsRows w vf f) (HA : IsInts w va a) (hf24 : f.length * 24 ≤ 140737488351232) (hlg : largeB [a] f = false) (hx : x < 256) (hne : f.length = 0) :
    Calls Tryd.prog 4 #[vf, va, .int .u8 x] w (fun e w' => e = .returned (.bool true) ∧ Below w.heap.size w w') := by
  have hlt := hS.lt
  have HS := Lib.hid hS
  clear hS
  obtain ⟨af, cf, rfl, hfl⟩ := HF.shape
  obtain ⟨aa, ca, rfl⟩ := HA.shape
  have hl := lgF1 HF HA hf24 hlg
  have HL := Lib.hid hl
  have hf200 : f.length ≤ 200 := by unfold largeB at hlg; rw [decide_eq_false_iff_not] at hlg; omega
  have HHF := Lib.hid HF
  have HHA := Lib.hid HA
  have hfe : f = [] := List.eq_nil_of_length_eq_zero hne
  obtain ⟨k, hk0⟩ : ∃ k : Nat, k = 0 := ⟨0, rfl⟩
  have hdk : f.drop k = f := by rw [hfe]; simp
  have htk : f.take k = f := by rw [hfe]; simp
  clear HL HHF
  rw [hne] at hl HF
  rw [hne]
  have HL := Lib.hid hl
  have HHF := Lib.hid HF
  have HDK := Lib.hid hdk
  have HTK := Lib.hid htk
  clear hl hlg HF HA hf24 hfe hk0 hdk htk
  go_enter Tryd.func4, Tryd.ntmps4
  go_upto_region 6 with (go_at_call 7; refine HL.out.mono ?_; rintro e w1 ⟨rfl, hb1⟩)
  have hs1 := hb1.size
  have hF1 := HHF.out.below hb1 (Nat.le_refl _)
  have hcl : ∀ W, Below w1.heap.size w1 W → Calls Tryd.prog 20 #[.slice af 0 cf] W (ClonedR W (f.drop k)) := fun W hW => by
    rw [HDK.out]
    exact cloner_any _ f W (hF1.below hW (Nat.le_refl _)) (by omega)
  have hup : ∀ W, Below w1.heap.size w1 W → IsRows W (.slice af 0 cf) (f.take k) := fun W hW => by
    rw [HTK.out]
    exact hF1.below hW (Nat.le_refl _)
  have HCL := Lib.hid hcl
  have HUP := Lib.hid hup
  have HNE := Lib.hid hne
  clear hcl hup hF1 HDK HTK hne
  go_cut [8] (fun t wx => ∃ T A c wd, t = .slice A T.length c ∧ Below w1.heap.size w1 wd ∧ RowsAre wd T (f.drop k ++ f.take k) ∧ OwnR wx wd.heap.size (.slice A T.length c) T ∧ Below wd.heap.size wd wx)
  case first =>
    go_wp2_with fail
    refine wp_region_held_drew (S := fun wx => Below w1.heap.size w1 wx) (by kernel_rfl) (Below.refl _ _).drew (fun hHeld => ?_)
    generalize w1.drew = wd at *
    refine takeZ (i := 0) (v := .slice af 0 cf) (some 33) rfl rfl (by kernel_rfl) (by kernel_rfl) (by kernel_rfl) (fun _ _ _ h => h) (Or.inl ⟨by rfl, ?_⟩) (by assumption) ?_
    · intro wz hSw; go_simp
    try simp only [Act.put, List.setIfInBounds_toArray, List.set_cons_zero, List.set_cons_succ]
    refine takeZ (i := 1) (v := .int .i64 0) (some 34) rfl rfl (by kernel_rfl) (by kernel_rfl) (by kernel_rfl) (fun _ _ _ h => h) (Or.inl ⟨by rfl, ?_⟩) (by assumption) ?_
    · intro wz hSw; go_simp
    try simp only [Act.put, List.setIfInBounds_toArray, List.set_cons_zero, List.set_cons_succ]
    refine takeZ (i := 4) (v := .slice af 0 cf) (some 37) rfl rfl (by kernel_rfl) (by kernel_rfl) (by kernel_rfl) (fun _ _ _ h => h) (Or.inl ⟨by rfl, ?_⟩) (by assumption) ?_
    · intro wz hSw; go_simp
    try simp only [Act.put, List.setIfInBounds_toArray, List.set_cons_zero, List.set_cons_succ]
    refine takeZ (i := 5) (v := .int .i64 0) (some 38) rfl rfl (by kernel_rfl) (by kernel_rfl) (by kernel_rfl) (fun _ _ _ h => h) (Or.inl ⟨by rfl, ?_⟩) (by assumption) ?_
    · intro wz hSw; go_simp
    try simp only [Act.put, List.setIfInBounds_toArray, List.set_cons_zero, List.set_cons_succ]
    refine takeZ (i := 2) (v := .slice af 0 cf) (some 35) rfl rfl (by kernel_rfl) (by kernel_rfl) (by kernel_rfl) (fun _ _ _ h => h) (Or.inl ⟨by rfl, ?_⟩) (by assumption) ?_
    · intro wz hSw; go_simp
    try simp only [Act.put, List.setIfInBounds_toArray, List.set_cons_zero, List.set_cons_succ]
    refine takeZ (i := 6) (v := .slice af 0 cf) (some 39) rfl rfl (by kernel_rfl) (by kernel_rfl) (by kernel_rfl) (fun _ _ _ h => h) (Or.inl ⟨by rfl, ?_⟩) (by assumption) ?_
    · intro wz hSw; go_simp
    try simp only [Act.put, List.setIfInBounds_toArray, List.set_cons_zero, List.set_cons_succ]
    refine wpAnyH_ready (rs := [3]) (by kernel_rfl) (by simp) ?_
    refine AllReadyH.cons rfl (fun K hK => ?_) AllReadyH.nil
    go_simp
    go_wp2_with (go_at_call 20; refine (HCL.out wd hHeld).mono ?_; rintro e wv ⟨Ac, cc, Tc, rfl, hownc, hrc, hbv⟩)
    refine hK.out _ _ (hHeld.trans (hbv.mono hHeld.size)) (fun hHeld2 => ?_)
    clear hK K
    refine wpAnyH_ready (rs := [7]) (by kernel_rfl) (by simp) ?_
    refine AllReadyH.cons rfl (fun K hK => ?_) AllReadyH.nil
    refine step_appRs0 (w0 := wd) (some 40) rfl rfl (.tmp 36) (.tmp 39) rfl wd.heap.size _ Tc _ 0 cf (f.take k) rfl rfl (HUP.out wd hHeld) hbv hownc (f.drop k) hrc ?_ ?_ hbv.size ?_
    · rw [hrc.1]; simp; omega
    · omega
    · intro w2 T A c hrT hownT hgT
      have hb2 := belowR hbv hownc hbv.size hgT
      refine hK.out _ _ (hHeld.trans (hb2.mono hHeld.size)) (fun hHeld3 => ?_)
      clear hK K
      try simp only [Act.put, List.setIfInBounds_toArray, List.set_cons_zero, List.set_cons_succ]
      refine takeZ (i := 8) (v := .slice A T.length c) (some 8) rfl rfl (by kernel_rfl) (by kernel_rfl) (by kernel_rfl) (fun _ _ _ h => h) (Or.inl ⟨by rfl, ?_⟩) (by assumption) ?_
      · intro wz hSw; go_simp
      try simp only [Act.put, List.setIfInBounds_toArray, List.set_cons_zero, List.set_cons_succ]
      refine wpAnyH_done (by kernel_rfl) ?_ _
      go_wp2
      go_meet
      exact ⟨T, A, c, wd, rfl, hHeld, hrT, hownT, hb2⟩
  case rest =>
    obtain ⟨T, A, c, wd, rfl, hd1, hrT, hownT, hb2⟩ := hcut
    clear HCL HUP HL
    have hTl : T.length ≤ 1000000 := by rw [hrT.1]; simp; omega
    have hTs : ∀ u ∈ T, ∃ a n c, u = .slice a n c := fun u hu => by
      obtain ⟨j, hj, rfl⟩ := List.mem_iff_getElem.1 hu
      have h1 := hrT.2 j (by rw [← hrT.1]; exact hj)
      have e : T.getD j (.slice none 0 0) = T[j] := by simp [List.getD, hj]
      rw [e] at h1
      obtain ⟨a, c, h⟩ := h1.shape
      exact ⟨a, _, c, h⟩
    have hrev := reverse_any A c T wd.heap.size wc hownT hTl hTs
    have HREV := Lib.hid hrev
    have hdw := hb1.trans (hd1.mono hs1)
    have hsd := hdw.size
    have hturn : ∀ W, Below wd.heap.size wc W → OwnR W wd.heap.size (.slice A T.length c) T.reverse → IsRows W (.slice A T.length c) (turnL f k) := fun W hW hO => by
      have := hO.rows (hrT.rev.below (hb2.trans hW) (Nat.le_refl _)) (by simp; omega)
      exact this
    have HTN := Lib.hid hturn
    clear hrev hturn hTs hrT hownT
    go_upto_region 10 with (first
      | (go_at_call 21; refine HREV.out.mono ?_; rintro e w3 ⟨rfl, hown3, hz3⟩; have hR3 := HTN.out w3 hz3 hown3; have hb3 := hdw.trans ((hb2.trans hz3).mono hsd); have hs3 := hb3.size)
      | (go_at_call_of 22 (Value.slice af 0 cf); refine (close_any _ _ f a w3 (HHF.out.below hb3 (Nat.le_refl _)) (HHA.out.below hb3 (Nat.le_refl _))).mono ?_; rintro e w4 ⟨v4, r, ok, d, rfl, hi4, hz4, hco4⟩; have hb4 := hb3.trans (hz4.mono hs3); have hs4 := hb4.size; obtain ⟨a4, c4, rfl⟩ := hi4.shape; have hR4 := hR3.below hz4 (Nat.le_refl _))
      | (go_at_call_of 22 (Value.slice A T.length c); refine (close_any _ _ (turnL f k) a w4 hR4 (HHA.out.below hb4 (Nat.le_refl _))).mono ?_; rintro e w5 ⟨v5, s5, ok5, d5, rfl, hi5, hz5, hco5⟩; have hb5 := hb4.trans (hz5.mono hs4); have hs5 := hb5.size; obtain ⟨rfl, rfl, rfl⟩ := CloseOf.order (turn_mem f k) (turn_may f k) hco4 hco5; have hi4b := hi4.below hz5 (Nat.le_refl _)))
    have hg5 := HS.out.below hb5 hlt
    unfold SameAz at hg5
    have HCO := Lib.hid hco4
    clear hco4 hco5 hR3 hR4 hown3 hi4 hz3 hz4 hz5 hb2 hd1 HREV HTN hb3 hb4 hs3 hs4
    cases ok with
    | false =>
      have hr0 : r = [] := by
        rcases HCO.out with ⟨_, _, _, l, c, _, h⟩ | ⟨_, _, _, h⟩
        · rcases h with ⟨_, h, _⟩ | ⟨_, _, h⟩
          · cases h
          · exact h
        · exact h
      subst hr0
      clear HCO
      go_wp2_with (first
        | (go_at_call 68; refine (samezX hi4b hi5).mono ?_; rintro e w6 ⟨rfl, hz6⟩; have hb6 := hb5.trans (hz6.mono hs5))
        | (go_at_call 8; refine (awakezX hb6 HS.out).mono ?_; rintro e w7 ⟨rfl, hb7⟩))
      go_ret
      exact ⟨rfl, hb7⟩
    | true =>
      obtain ⟨rfl, h1, h2, h3, h4, h5⟩ := close_more HCO.out
      have hun := fun (W : World) (h : IsInts W (.slice a4 r.length c4) r) (k : IsRows W (.slice af 0 cf) f) => under_rows _ _ r f W h k
      have hcl2 := fun (W : World) (h : IsInts W (.slice a4 r.length c4) r) (k : IsRows W (.slice af 0 cf) f) => close_any _ _ f r W k h
      have hsub := subL_true h1 h2 h3
      have HSUB := Lib.hid (fun (W : World) (h : IsInts W (.slice aa a.length ca) a) (k : IsInts W (.slice a4 r.length c4) r) => sub_any _ _ a r W h k)
      rw [hsub] at HSUB
      have HUN := Lib.hid hun
      have HC2 := Lib.hid hcl2
      have H5 := Lib.hid h5
      have H4 := Lib.hid h4
      clear HCO h1 h2 h3 h4 h5 hun hcl2 hsub
      generalize underL r f = U at *
      go_wp2_with (first
        | (go_at_call 68; refine (samezX hi4b hi5).mono ?_; rintro e w6 ⟨rfl, hz6⟩; have hb6 := hb5.trans (hz6.mono hs5); have hs6 := hb6.size; have hi6 := hi4b.below hz6 (Nat.le_refl _))
        | (go_at_call 13; refine (HUN.out w6 hi6 (HHF.out.below hb6 (Nat.le_refl _))).mono ?_; rintro e w7 ⟨a7, c7, rfl, hr7, hz7⟩; have hb7 := hb6.trans (hz7.mono hs6); have hs7 := hb7.size; have hi7 := hi6.below hz7 (Nat.le_refl _)))
      have HR7 := Lib.hid hr7
      have HI7 := Lib.hid hi7
      have HB7 := Lib.hid hb7
      have hUl : U.length ≤ 17592186044416 := by obtain ⟨_, _, _, h⟩ := hr7.shape; exact h
      clear hi4b hi5 hi6 hi7 hr7 hb5 hb6 hb7 hz6 hz7 hg5
      go_loopw [84] (fun i wr => ∃ j : Nat, j ≤ U.length ∧ i = .int .i64 j ∧ Below w7.heap.size w7 wr) (fun i _ => U.length - (intOf i).toNat)
      case atStart => exact ⟨0, Nat.zero_le _, rfl, Below.refl _ _⟩
      case round =>
        obtain ⟨j, hj, rfl, hbj⟩ := hrel
        by_cases hlj : j < U.length
        · obtain ⟨b7, o7, u7, rfl, hb7, hu0, HU0⟩ := HR7.out.at hlj
          have hu := (hbj.cell (p := ⟨b7, o7 + j, none⟩) hb7).trans hu0
          have h2l := H4.out _ (rows_getD_mem hlj)
          obtain ⟨au, cu, rfl⟩ := HU0.shape
          have hlu := HU0.len
          have HBJ := Lib.hid hbj
          clear HU0 hbj hu0
          generalize (U.getD j []).length = n at *
          go_wp2
          go_roundw
          case rel => exact ⟨j + 1, by omega, by go_num, HBJ.out⟩
          case measure => simp [intOf]; omega
        · have hbw := HB7.out.trans (hbj.mono hs7)
          have hsw := hbw.size
          have hir := HI7.out.below hbj (Nat.le_refl _)
          clear hbj
          go_wp2_with (first
            | (go_at_call 22; refine (HC2.out wr hir (HHF.out.below hbw (Nat.le_refl _))).mono ?_; rintro e w8 ⟨v8, z8, ok8, d8, rfl, hi8, hz8, hco8⟩; obtain ⟨rfl, rfl, rfl⟩ := CloseOf.one hco8 H5.out; have hb8 := hbw.trans (hz8.mono hsw); have hs8 := hb8.size; have hir8 := hir.below hz8 (Nat.le_refl _); have hg8 := HS.out.below hb8 hlt; unfold SameAz at hg8; clear hco8)
            | (go_at_call 18; refine (HSUB.out w8 (HHA.out.below hb8 (Nat.le_refl _)) hir8).mono ?_; rintro e w' ⟨rfl, rfl⟩)
            | (go_at_call 68; refine (samezX hir8 hi8).mono ?_; rintro e w9 ⟨rfl, hz9⟩; have hb9 := hb8.trans (hz9.mono hs8))
            | (go_at_call 8; refine (awakezX hb9 HS.out).mono ?_; rintro e w10 ⟨rfl, hb10⟩))
          go_ret
          exact ⟨rfl, hb10⟩

set_option maxHeartbeats 4000000 in
set_option maxRecDepth 100000 in
theorem order_some (vf va : Value) (f : List (List Int)) (a : List Int) (x : Nat) (w : World) (hS : SameAz w) (HF : IsRows w vf f) (HA : IsInts w va a) (hf24 : f.length * 24 ≤ 140737488351232) (hlg : largeB [a] f = false) (hx : x < 256) (hne : 0 < f.length) :
    Calls Tryd.prog 4 #[vf, va, .int .u8 x] w (fun e w' => e = .returned (.bool true) ∧ Below w.heap.size w w') := by
  have hlt := hS.lt
  have HS := Lib.hid hS
  clear hS
  obtain ⟨af, cf, rfl, hfl⟩ := HF.shape
  obtain ⟨aa, ca, rfl⟩ := HA.shape
  have hl := lgF1 HF HA hf24 hlg
  have HL := Lib.hid hl
  have hf200 : f.length ≤ 200 := by unfold largeB at hlg; rw [decide_eq_false_iff_not] at hlg; omega
  have HHF := Lib.hid HF
  have HHA := Lib.hid HA
  obtain ⟨b, off, _, rfl, hbf, _, _⟩ := HF.at (show 0 < f.length by omega)
  have hcap : f.length ≤ cf ∧ cf ≤ 9223372036854775807 := by obtain ⟨_, _, e, ⟨h1, _⟩, h2, _⟩ := HF; injection e with _ _ e; subst e; exact ⟨h1, h2⟩
  obtain ⟨k, hk, hkl⟩ : ∃ k : Nat, (x : Int) % (f.length : Int) = k ∧ k < f.length := ⟨x % f.length, by omega, Nat.mod_lt _ (by omega)⟩
  clear hl hlg HF HA hf24
  go_enter Tryd.func4, Tryd.ntmps4
  go_upto_region 6 with (go_at_call 7; refine HL.out.mono ?_; rintro e w1 ⟨rfl, hb1⟩)
  have hs1 := hb1.size
  rw [hk]
  have hF1 := HHF.out.below hb1 (Nat.le_refl _)
  have hcl : ∀ W, Below w1.heap.size w1 W → Calls Tryd.prog 20 #[.slice (if cf = k then some ⟨b, off, none⟩ else some ⟨b, off + k, none⟩) (f.length - k) (cf - k)] W (ClonedR W (f.drop k)) := fun W hW => by
    have h1 := (hF1.below hW (Nat.le_refl _)).from (i := k) (by omega) (A := if cf = k then some ⟨b, off, none⟩ else some ⟨b, off + k, none⟩) rfl
    exact cloner_any _ (f.drop k) W h1 (by simp; omega)
  have hup : ∀ W, Below w1.heap.size w1 W → IsRows W (.slice (some ⟨b, off, none⟩) k cf) (f.take k) := fun W hW => (hF1.below hW (Nat.le_refl _)).upto (by omega)
  have HCL := Lib.hid hcl
  have HUP := Lib.hid hup
  have HK := Lib.hid hk
  clear hcl hup hk hF1
  go_cut [8] (fun t wx => ∃ T A c wd, t = .slice A T.length c ∧ Below w1.heap.size w1 wd ∧ RowsAre wd T (f.drop k ++ f.take k) ∧ OwnR wx wd.heap.size (.slice A T.length c) T ∧ Below wd.heap.size wd wx)
  case first =>
    go_wp2_with fail
    have z1 : (0 : Int) ≤ (k : Int) := by omega
    have z2 : (k : Int) ≤ (f.length : Int) := by omega
    have z3 : (f.length : Int) ≤ (cf : Int) := by omega
    have z4 : (k : Int) ≤ (cf : Int) := by omega
    refine wp_region_held_drew (S := fun wx => Below w1.heap.size w1 wx) (by kernel_rfl) (Below.refl _ _).drew (fun hHeld => ?_)
    generalize w1.drew = wd at *
    refine takeZ (i := 0) (v := .slice (some ⟨b, off, none⟩) f.length cf) (some 33) rfl rfl (by kernel_rfl) (by kernel_rfl) (by kernel_rfl) (fun _ _ _ h => h) (Or.inl ⟨by rfl, ?_⟩) (by assumption) ?_
    · intro wz hSw; go_simp
    try simp only [Act.put, List.setIfInBounds_toArray, List.set_cons_zero, List.set_cons_succ]
    refine takeZ (i := 1) (v := .int .i64 (k : Int)) (some 34) rfl rfl (by kernel_rfl) (by kernel_rfl) (by kernel_rfl) (fun _ _ _ h => h) (Or.inl ⟨by rfl, ?_⟩) (by assumption) ?_
    · intro wz hSw; go_simp
    try simp only [Act.put, List.setIfInBounds_toArray, List.set_cons_zero, List.set_cons_succ]
    refine takeZ (i := 4) (v := .slice (some ⟨b, off, none⟩) f.length cf) (some 37) rfl rfl (by kernel_rfl) (by kernel_rfl) (by kernel_rfl) (fun _ _ _ h => h) (Or.inl ⟨by rfl, ?_⟩) (by assumption) ?_
    · intro wz hSw; go_simp
    try simp only [Act.put, List.setIfInBounds_toArray, List.set_cons_zero, List.set_cons_succ]
    refine takeZ (i := 5) (v := .int .i64 (k : Int)) (some 38) rfl rfl (by kernel_rfl) (by kernel_rfl) (by kernel_rfl) (fun _ _ _ h => h) (Or.inl ⟨by rfl, ?_⟩) (by assumption) ?_
    · intro wz hSw; go_simp
    try simp only [Act.put, List.setIfInBounds_toArray, List.set_cons_zero, List.set_cons_succ]
    refine takeZ (i := 2) (v := .slice (if cf = k then some ⟨b, off, none⟩ else some ⟨b, off + k, none⟩) (f.length - k) (cf - k)) (some 35) rfl rfl (by kernel_rfl) (by kernel_rfl) (by kernel_rfl) (fun _ _ _ h => h) (Or.inl ⟨by rfl, ?_⟩) (by assumption) ?_
    · intro wz hSw; go_simp
    try simp only [Act.put, List.setIfInBounds_toArray, List.set_cons_zero, List.set_cons_succ]
    refine takeZ (i := 6) (v := .slice (some ⟨b, off, none⟩) k cf) (some 39) rfl rfl (by kernel_rfl) (by kernel_rfl) (by kernel_rfl) (fun _ _ _ h => h) (Or.inl ⟨by rfl, ?_⟩) (by assumption) ?_
    · intro wz hSw; go_simp
    try simp only [Act.put, List.setIfInBounds_toArray, List.set_cons_zero, List.set_cons_succ]
    refine wpAnyH_ready (rs := [3]) (by kernel_rfl) (by simp) ?_
    refine AllReadyH.cons rfl (fun K hK => ?_) AllReadyH.nil
    go_simp
    go_wp2_with (go_at_call 20; refine (HCL.out wd hHeld).mono ?_; rintro e wv ⟨Ac, cc, Tc, rfl, hownc, hrc, hbv⟩)
    refine hK.out _ _ (hHeld.trans (hbv.mono hHeld.size)) (fun hHeld2 => ?_)
    clear hK K
    refine wpAnyH_ready (rs := [7]) (by kernel_rfl) (by simp) ?_
    refine AllReadyH.cons rfl (fun K hK => ?_) AllReadyH.nil
    refine step_appRs0 (w0 := wd) (some 40) rfl rfl (.tmp 36) (.tmp 39) rfl wd.heap.size _ Tc _ k cf (f.take k) rfl rfl (HUP.out wd hHeld) hbv hownc (f.drop k) hrc ?_ ?_ hbv.size ?_
    · rw [hrc.1]; simp; omega
    · omega
    · intro w2 T A c hrT hownT hgT
      have hb2 := belowR hbv hownc hbv.size hgT
      refine hK.out _ _ (hHeld.trans (hb2.mono hHeld.size)) (fun hHeld3 => ?_)
      clear hK K
      try simp only [Act.put, List.setIfInBounds_toArray, List.set_cons_zero, List.set_cons_succ]
      refine takeZ (i := 8) (v := .slice A T.length c) (some 8) rfl rfl (by kernel_rfl) (by kernel_rfl) (by kernel_rfl) (fun _ _ _ h => h) (Or.inl ⟨by rfl, ?_⟩) (by assumption) ?_
      · intro wz hSw; go_simp
      try simp only [Act.put, List.setIfInBounds_toArray, List.set_cons_zero, List.set_cons_succ]
      refine wpAnyH_done (by kernel_rfl) ?_ _
      go_wp2
      go_meet
      exact ⟨T, A, c, wd, rfl, hHeld, hrT, hownT, hb2⟩
  case rest =>
    obtain ⟨T, A, c, wd, rfl, hd1, hrT, hownT, hb2⟩ := hcut
    clear HCL HUP HL
    have hTl : T.length ≤ 1000000 := by rw [hrT.1]; simp; omega
    have hTs : ∀ u ∈ T, ∃ a n c, u = .slice a n c := fun u hu => by
      obtain ⟨j, hj, rfl⟩ := List.mem_iff_getElem.1 hu
      have h1 := hrT.2 j (by rw [← hrT.1]; exact hj)
      have e : T.getD j (.slice none 0 0) = T[j] := by simp [List.getD, hj]
      rw [e] at h1
      obtain ⟨a, c, h⟩ := h1.shape
      exact ⟨a, _, c, h⟩
    have hrev := reverse_any A c T wd.heap.size wc hownT hTl hTs
    have HREV := Lib.hid hrev
    have hdw := hb1.trans (hd1.mono hs1)
    have hsd := hdw.size
    have hturn : ∀ W, Below wd.heap.size wc W → OwnR W wd.heap.size (.slice A T.length c) T.reverse → IsRows W (.slice A T.length c) (turnL f k) := fun W hW hO => by
      have := hO.rows (hrT.rev.below (hb2.trans hW) (Nat.le_refl _)) (by simp; omega)
      exact this
    have HTN := Lib.hid hturn
    clear hrev hturn hTs hrT hownT
    go_upto_region 10 with (first
      | (go_at_call 21; refine HREV.out.mono ?_; rintro e w3 ⟨rfl, hown3, hz3⟩; have hR3 := HTN.out w3 hz3 hown3; have hb3 := hdw.trans ((hb2.trans hz3).mono hsd); have hs3 := hb3.size)
      | (go_at_call_of 22 (Value.slice (some ⟨b, off, none⟩) f.length cf); refine (close_any _ _ f a w3 (HHF.out.below hb3 (Nat.le_refl _)) (HHA.out.below hb3 (Nat.le_refl _))).mono ?_; rintro e w4 ⟨v4, r, ok, d, rfl, hi4, hz4, hco4⟩; have hb4 := hb3.trans (hz4.mono hs3); have hs4 := hb4.size; obtain ⟨a4, c4, rfl⟩ := hi4.shape; have hR4 := hR3.below hz4 (Nat.le_refl _))
      | (go_at_call_of 22 (Value.slice A T.length c); refine (close_any _ _ (turnL f k) a w4 hR4 (HHA.out.below hb4 (Nat.le_refl _))).mono ?_; rintro e w5 ⟨v5, s5, ok5, d5, rfl, hi5, hz5, hco5⟩; have hb5 := hb4.trans (hz5.mono hs4); have hs5 := hb5.size; obtain ⟨rfl, rfl, rfl⟩ := CloseOf.order (turn_mem f k) (turn_may f k) hco4 hco5; have hi4b := hi4.below hz5 (Nat.le_refl _)))
    have hg5 := HS.out.below hb5 hlt
    unfold SameAz at hg5
    have HCO := Lib.hid hco4
    clear hco4 hco5 hR3 hR4 hown3 hi4 hz3 hz4 hz5 hb2 hd1 HREV HTN hb3 hb4 hs3 hs4
    cases ok with
    | false =>
      have hr0 : r = [] := by
        rcases HCO.out with ⟨_, _, _, l, c, _, h⟩ | ⟨_, _, _, h⟩
        · rcases h with ⟨_, h, _⟩ | ⟨_, _, h⟩
          · cases h
          · exact h
        · exact h
      subst hr0
      clear HCO
      go_wp2_with (first
        | (go_at_call 68; refine (samezX hi4b hi5).mono ?_; rintro e w6 ⟨rfl, hz6⟩; have hb6 := hb5.trans (hz6.mono hs5))
        | (go_at_call 8; refine (awakezX hb6 HS.out).mono ?_; rintro e w7 ⟨rfl, hb7⟩))
      go_ret
      exact ⟨rfl, hb7⟩
    | true =>
      obtain ⟨rfl, h1, h2, h3, h4, h5⟩ := close_more HCO.out
      have hun := fun (W : World) (h : IsInts W (.slice a4 r.length c4) r) (k : IsRows W (.slice (some ⟨b, off, none⟩) f.length cf) f) => under_rows _ _ r f W h k
      have hcl2 := fun (W : World) (h : IsInts W (.slice a4 r.length c4) r) (k : IsRows W (.slice (some ⟨b, off, none⟩) f.length cf) f) => close_any _ _ f r W k h
      have hsub := subL_true h1 h2 h3
      have HSUB := Lib.hid (fun (W : World) (h : IsInts W (.slice aa a.length ca) a) (k : IsInts W (.slice a4 r.length c4) r) => sub_any _ _ a r W h k)
      rw [hsub] at HSUB
      have HUN := Lib.hid hun
      have HC2 := Lib.hid hcl2
      have H5 := Lib.hid h5
      have H4 := Lib.hid h4
      clear HCO h1 h2 h3 h4 h5 hun hcl2 hsub
      generalize underL r f = U at *
      go_wp2_with (first
        | (go_at_call 68; refine (samezX hi4b hi5).mono ?_; rintro e w6 ⟨rfl, hz6⟩; have hb6 := hb5.trans (hz6.mono hs5); have hs6 := hb6.size; have hi6 := hi4b.below hz6 (Nat.le_refl _))
        | (go_at_call 13; refine (HUN.out w6 hi6 (HHF.out.below hb6 (Nat.le_refl _))).mono ?_; rintro e w7 ⟨a7, c7, rfl, hr7, hz7⟩; have hb7 := hb6.trans (hz7.mono hs6); have hs7 := hb7.size; have hi7 := hi6.below hz7 (Nat.le_refl _)))
      have HR7 := Lib.hid hr7
      have HI7 := Lib.hid hi7
      have HB7 := Lib.hid hb7
      have hUl : U.length ≤ 17592186044416 := by obtain ⟨_, _, _, h⟩ := hr7.shape; exact h
      clear hi4b hi5 hi6 hi7 hr7 hb5 hb6 hb7 hz6 hz7 hg5
      go_loopw [84] (fun i wr => ∃ j : Nat, j ≤ U.length ∧ i = .int .i64 j ∧ Below w7.heap.size w7 wr) (fun i _ => U.length - (intOf i).toNat)
      case atStart => exact ⟨0, Nat.zero_le _, rfl, Below.refl _ _⟩
      case round =>
        obtain ⟨j, hj, rfl, hbj⟩ := hrel
        by_cases hlj : j < U.length
        · obtain ⟨b7, o7, u7, rfl, hb7, hu0, HU0⟩ := HR7.out.at hlj
          have hu := (hbj.cell (p := ⟨b7, o7 + j, none⟩) hb7).trans hu0
          have h2l := H4.out _ (rows_getD_mem hlj)
          obtain ⟨au, cu, rfl⟩ := HU0.shape
          have hlu := HU0.len
          have HBJ := Lib.hid hbj
          clear HU0 hbj hu0
          generalize (U.getD j []).length = n at *
          go_wp2
          go_roundw
          case rel => exact ⟨j + 1, by omega, by go_num, HBJ.out⟩
          case measure => simp [intOf]; omega
        · have hbw := HB7.out.trans (hbj.mono hs7)
          have hsw := hbw.size
          have hir := HI7.out.below hbj (Nat.le_refl _)
          clear hbj
          go_wp2_with (first
            | (go_at_call 22; refine (HC2.out wr hir (HHF.out.below hbw (Nat.le_refl _))).mono ?_; rintro e w8 ⟨v8, z8, ok8, d8, rfl, hi8, hz8, hco8⟩; obtain ⟨rfl, rfl, rfl⟩ := CloseOf.one hco8 H5.out; have hb8 := hbw.trans (hz8.mono hsw); have hs8 := hb8.size; have hir8 := hir.below hz8 (Nat.le_refl _); have hg8 := HS.out.below hb8 hlt; unfold SameAz at hg8; clear hco8)
            | (go_at_call 18; refine (HSUB.out w8 (HHA.out.below hb8 (Nat.le_refl _)) hir8).mono ?_; rintro e w' ⟨rfl, rfl⟩)
            | (go_at_call 68; refine (samezX hir8 hi8).mono ?_; rintro e w9 ⟨rfl, hz9⟩; have hb9 := hb8.trans (hz9.mono hs8))
            | (go_at_call 8; refine (awakezX hb9 HS.out).mono ?_; rintro e w10 ⟨rfl, hb10⟩))
          go_ret
          exact ⟨rfl, hb10⟩

end Go.Proofs.YtmhjpbhldaagmaaDoor
