/- The law on what unit propagation finds, walked. -/
import Derived.Test.YtmhjpbhldaagmaaDoorTakeZ
import Derived.Test.YtmhjpbhldaagmaaDoorMgI
import Derived.Test.YtmhjpbhldaagmaaDoorMgS
import Derived.Test.YtmhjpbhldaagmaaDoorMgQ
import Derived.Test.YtmhjpbhldaagmaaDoorMgO
import Derived.Test.YtmhjpbhldaagmaaDoorLawTwice
import Derived.Test.YtmhjpbhldaagmaaDoorMgL
import Derived.Test.YtmhjpbhldaagmaaDoorBuildL
import Derived.Deep.DeepCutAuto
import Derived.Deep.RegionHeld3
namespace Go.Proofs.YtmhjpbhldaagmaaDoor
open Go.RowKit
set_option linter.unusedVariables false
set_option linter.unusedSimpArgs false

theorem cell_new {w : World} {c : Array Value} {T : TypeId} {i : Nat} {v : Value} (h : c[i]? = some v) : (w.alloc (.cells c T)).cell? ⟨w.heap.size, i, none⟩ = some v := by
  simp only [World.cell?, zat0 rfl]
  exact h
def UnitsYes (w : World) (f : List (List Int)) (a : List Int) (e : Ending) (w' : World) : Prop :=
  ∃ A C l c, e = .returned (.tuple #[.slice A l.length C, .int .i64 c, .int .i64 0]) ∧ IsSteps w' (.slice A l.length C) l ∧ Below w.heap.size w w' ∧ Run f a l c ∧ l.length ≤ f.length
theorem units_yes (vf va : Value) (f : List (List Int)) (a : List Int) (w : World) (HR : IsRows w vf f) (HA : IsInts w va a) (hm : mayB a = true) (hc : mayCnfB f = true) : Calls Tryd.prog 9 #[vf, va] w (UnitsYes w f a) :=
  (units_any vf va f a w HR HA).mono fun e w' h => by
    obtain ⟨v, l, c, d, rfl, hst, hb, hcase⟩ := h
    rcases hcase with ⟨_, _, rfl, hr, hl⟩ | ⟨hn, _⟩
    · have h0 := hst
      obtain ⟨A, C, rfl⟩ := hst.shapeS
      exact ⟨A, C, l, c, rfl, h0, hb, hr, hl⟩
    · exact absurd ⟨hm, hc⟩ hn
theorem units_no (vf va : Value) (f : List (List Int)) (a : List Int) (w : World) (HR : IsRows w vf f) (HA : IsInts w va a) (hn : ¬ (mayB a = true ∧ mayCnfB f = true)) : Calls Tryd.prog 9 #[vf, va] w (fun e w' => ∃ A C, e = .returned (.tuple #[.slice A 0 C, .int .i64 (-1), .int .i64 2]) ∧ Below w.heap.size w w') :=
  (units_any vf va f a w HR HA).mono fun e w' h => by
    obtain ⟨v, l, c, d, rfl, hst, hb, hcase⟩ := h
    rcases hcase with ⟨h1, h2, _⟩ | ⟨_, rfl, rfl, rfl⟩
    · exact absurd ⟨h1, h2⟩ hn
    · obtain ⟨A, C, rfl⟩ := hst.shapeS
      exact ⟨A, C, rfl, hb⟩

set_option maxHeartbeats 4000000 in
set_option maxRecDepth 100000 in
theorem sound_big (vf va : Value) (f : List (List Int)) (a : List Int) (w : World) (hS : SameAz w) (HF : IsRows w vf f) (HA : IsInts w va a) (hf24 : f.length * 24 ≤ 140737488351232) (hlg : largeB [a] f = true) :
    Calls Tryd.prog 3 #[vf, va] w (fun e w' => e = .returned (.bool true) ∧ Below w.heap.size w w') := by
  have HS := Lib.hid hS
  clear hS
  obtain ⟨af, cf, rfl, hfl⟩ := HF.shape
  obtain ⟨aa, ca, rfl⟩ := HA.shape
  have hl := lgF1 HF HA hf24 hlg
  have HL := Lib.hid hl
  clear hl hlg HF HA
  go_enter Tryd.func3, Tryd.ntmps3
  go_wp2_with (first
    | (go_at_call 7; refine HL.out.mono ?_; rintro e w1 ⟨rfl, hb1⟩)
    | (go_at_call 8; refine (awakezX hb1 HS.out).mono ?_; rintro e w2 ⟨rfl, hb2⟩))
  go_ret
  exact ⟨rfl, hb2⟩

set_option maxHeartbeats 4000000 in
set_option maxRecDepth 100000 in
theorem sound_no (vf va : Value) (f : List (List Int)) (a : List Int) (w : World) (hS : SameAz w) (HF : IsRows w vf f) (HA : IsInts w va a) (hf24 : f.length * 24 ≤ 140737488351232) (hlg : largeB [a] f = false) (hn : ¬ (mayB a = true ∧ mayCnfB f = true)) :
    Calls Tryd.prog 3 #[vf, va] w (fun e w' => e = .returned (.bool true) ∧ Below w.heap.size w w') := by
  have HS := Lib.hid hS
  clear hS
  obtain ⟨af, cf, rfl, hfl⟩ := HF.shape
  obtain ⟨aa, ca, rfl⟩ := HA.shape
  have hl := lgF1 HF HA hf24 hlg
  have HL := Lib.hid hl
  have hu := fun (W : World) (h : IsRows W (.slice af f.length cf) f) (k : IsInts W (.slice aa a.length ca) a) => units_no _ _ f a W h k hn
  have hma := fun (W : World) (k : IsInts W (.slice aa a.length ca) a) => rmay_v _ a W k
  have hmf := fun (W : World) (h : IsRows W (.slice af f.length cf) f) => rmaycnf_any _ f W h
  have HU := Lib.hid hu
  have HHF := Lib.hid HF
  have HHA := Lib.hid HA
  by_cases hm : mayB a = true
  · have hc : mayCnfB f = false := by
      cases h : mayCnfB f with
      | false => rfl
      | true => exact absurd ⟨hm, h⟩ hn
    rw [hm] at hma
    rw [hc] at hmf
    have HMA := Lib.hid hma
    have HMF := Lib.hid hmf
    clear hl hlg HF HA hu hma hmf hn hm hc
    go_enter Tryd.func3, Tryd.ntmps3
    go_wp2_with (first
      | (go_at_call 7; refine HL.out.mono ?_; rintro e w1 ⟨rfl, hb1⟩; have hs1 := hb1.size)
      | (go_at_call 9; refine (HU.out w1 (HHF.out.below hb1 (Nat.le_refl _)) (HHA.out.below hb1 (Nat.le_refl _))).mono ?_; rintro e w2 ⟨A2, C2, rfl, hz2⟩; have hb2 := hb1.trans (hz2.mono hs1); have hs2 := hb2.size)
      | (go_at_call 10; refine (HMA.out w2 (HHA.out.below hb2 (Nat.le_refl _))).mono ?_; rintro e w3 ⟨rfl, hq3⟩; have hb3 := hb2.trans (hq3.below _))
      | (go_at_call 11; refine (HMF.out w3 (HHF.out.below hb3 (Nat.le_refl _))).mono ?_; rintro e w4 ⟨rfl, hq4⟩; have hb4 := hb3.trans (hq4.below _))
      | (go_at_call 8; refine (awakezX hb4 HS.out).mono ?_; rintro e w5 ⟨rfl, hb5⟩))
    go_ret
    exact ⟨rfl, hb5⟩
  · have hm' : mayB a = false := by simpa using hm
    rw [hm'] at hma
    have HMA := Lib.hid hma
    clear hl hlg HF HA hu hma hmf hn hm hm'
    go_enter Tryd.func3, Tryd.ntmps3
    go_wp2_with (first
      | (go_at_call 7; refine HL.out.mono ?_; rintro e w1 ⟨rfl, hb1⟩; have hs1 := hb1.size)
      | (go_at_call 9; refine (HU.out w1 (HHF.out.below hb1 (Nat.le_refl _)) (HHA.out.below hb1 (Nat.le_refl _))).mono ?_; rintro e w2 ⟨A2, C2, rfl, hz2⟩; have hb2 := hb1.trans (hz2.mono hs1); have hs2 := hb2.size)
      | (go_at_call 10; refine (HMA.out w2 (HHA.out.below hb2 (Nat.le_refl _))).mono ?_; rintro e w3 ⟨rfl, hq3⟩; have hb3 := hb2.trans (hq3.below _))
      | (go_at_call 8; refine (awakezX hb3 HS.out).mono ?_; rintro e w5 ⟨rfl, hb5⟩))
    go_ret
    exact ⟨rfl, hb5⟩

set_option maxHeartbeats 4000000 in
set_option maxRecDepth 100000 in
theorem sound_yes (vf va : Value) (f : List (List Int)) (a : List Int) (w : World) (hS : SameAz w) (HF : IsRows w vf f) (HA : IsInts w va a) (hf24 : f.length * 24 ≤ 140737488351232) (hlg : largeB [a] f = false) (hm : mayB a = true) (hc : mayCnfB f = true) :
    Calls Tryd.prog 3 #[vf, va] w (fun e w' => e = .returned (.bool true) ∧ Below w.heap.size w w') := by
  have hlt := hS.lt
  have HS := Lib.hid hS
  clear hS
  obtain ⟨af, cf, rfl, hfl⟩ := HF.shape
  obtain ⟨aa, ca, rfl⟩ := HA.shape
  have hcap : f.length ≤ cf ∧ cf ≤ 9223372036854775807 := by obtain ⟨_, _, e, ⟨h1, _⟩, h2, _⟩ := HF; injection e with _ _ e; subst e; exact ⟨h1, h2⟩
  have hl := lgF1 HF HA hf24 hlg
  have HL := Lib.hid hl
  have hu := fun (W : World) (h : IsRows W (.slice af f.length cf) f) (k : IsInts W (.slice aa a.length ca) a) => units_yes _ _ f a W h k hm hc
  have hma := fun (W : World) (k : IsInts W (.slice aa a.length ca) a) => rmay_v _ a W k
  have hmf := fun (W : World) (h : IsRows W (.slice af f.length cf) f) => rmaycnf_any _ f W h
  rw [hm] at hma
  rw [hc] at hmf
  have hfb : f.length ≤ 200 ∧ a.length ≤ 2000 := by
    unfold largeB at hlg
    rw [decide_eq_false_iff_not] at hlg
    have : tot [a] = a.length := by simp [tot]
    omega
  have hf200 := hfb.1
  have ha2000 := hfb.2
  have h64 := HA.in64
  have H64 := Lib.hid h64
  have HU := Lib.hid hu
  have HMA := Lib.hid hma
  have HMF := Lib.hid hmf
  have HHF := Lib.hid HF
  have HHA := Lib.hid HA
  have HM := Lib.hid hm
  have HC := Lib.hid hc
  clear hl hlg HF HA hu hma hmf hm hc hfb h64
  go_enter Tryd.func3, Tryd.ntmps3
  go_wp2_with (first
    | (go_at_call 7; refine HL.out.mono ?_; rintro e w1 ⟨rfl, hb1⟩; have hs1 := hb1.size)
    | (go_at_call 9; refine (HU.out w1 (HHF.out.below hb1 (Nat.le_refl _)) (HHA.out.below hb1 (Nat.le_refl _))).mono ?_; rintro e w2 ⟨A2, C2, l, c, rfl, hst, hz2, hrun, hll⟩; have hb2 := hb1.trans (hz2.mono hs1); have hs2 := hb2.size; have HRUN := Lib.hid hrun; clear hrun)
    | (go_at_call 10; refine (HMA.out w2 (HHA.out.below hb2 (Nat.le_refl _))).mono ?_; rintro e w3 ⟨rfl, hq3⟩; have hb3 := hb2.trans (hq3.below _); have hst3 := hst.below (hq3.below w2.heap.size) (Nat.le_refl _))
    | (go_at_call 11; refine (HMF.out w3 (HHF.out.below hb3 (Nat.le_refl _))).mono ?_; rintro e w4 ⟨rfl, hq4⟩; have hb4 := hb3.trans (hq4.below _); have hs4 := hb4.size; have hst4 := hst3.below (hq4.below w3.heap.size) (Nat.le_refl _))
    | (go_at_call 12; refine (clone_any _ a w4 (HHA.out.below hb4 (Nat.le_refl _))).mono ?_; rintro e w5 ⟨v5, rfl, hown5, hz5⟩; have hb5 := hb4.trans (hz5.mono hs4); have hs5 := hb5.size; have hst5 := hst4.below hz5 (Nat.le_refl _); have hi5 := hown5.ints (by omega) H64.out))
  obtain ⟨a1', c1', hse, _, _, _, hpl, b1, has1, hcs1⟩ := hst5
  injection hse with e1 _ e3
  subst e1; subst e3
  have HCS := Lib.hid hcs1
  have HAS := Lib.hid has1
  have HPL := Lib.hid hpl
  have HB5 := Lib.hid hb5
  have hi0 : IsInts w5 v5 (closeK a l 0) := by simpa [closeK] using hi5
  clear hst hst3 hst4 hcs1 has1 hpl hi5 hown5 hz2 hz5 hq3 hq4 hb1 hb2 hb3 hb4 hb5 hs1 hs2 hs4
  go_loopw [8, 56] (fun now i wr => ∃ k : Nat, k ≤ l.length ∧ i = .int .i64 k ∧ IsInts wr now (closeK a l k) ∧ Below w5.heap.size w5 wr) (fun _ i _ => l.length - (intOf i).toNat)
  case atStart => exact ⟨0, Nat.zero_le _, rfl, hi0, Below.refl _ _⟩
  case round =>
    clear hi0
    obtain ⟨k, hk, rfl, hnow, hbel⟩ := hrel
    obtain ⟨an, cn, rfl⟩ := hnow.shape
    have hsz := hbel.size
    by_cases hkl : k < l.length
    · obtain ⟨rfl, hb⟩ := HAS.out (by intro h; simp [h] at hkl)
      have hx1 : wr.cell? ⟨b1, k * 2, none⟩ = some (.int .i64 (l.getD k (0, 0)).1) := by rw [Nat.mul_comm k 2]; exact (hbel.cell (p := ⟨b1, 2 * k, none⟩) hb).trans (HCS.out k hkl).1
      have hx2 : wr.cell? ⟨b1, k * 2 + 1, none⟩ = some (.int .i64 ((l.getD k (0, 0)).2 : Int)) := by rw [Nat.mul_comm k 2]; exact (hbel.cell (p := ⟨b1, 2 * k + 1, none⟩) hb).trans (HCS.out k hkl).2
      obtain ⟨g1, g2, g3, g4⟩ := sound_step HRUN.out HM.out HC.out hkl
      have hpb := HPL.out (l.getD k (0, 0)) (by simp [List.getD, hkl])
      have hcl := closeK_len a l k
      have hmk := closeK_may HRUN.out (cnf_may HC.out) HM.out k (by omega)
      have hwr := HB5.out.trans (hbel.mono hs5)
      have hswr := hwr.size
      have hFr := HHF.out.below hwr (Nat.le_refl _)
      generalize l.getD k (0, 0) = y at *
      obtain ⟨y1, y2⟩ := y
      simp only at hx1 hx2 g1 g2 g3 g4 hpb
      obtain ⟨bf, of, _, rfl, hbf, _, _⟩ := hFr.at g1
      have hu1 : ∀ W, Below wr.heap.size wr W → Calls Tryd.prog 13 #[.slice an (closeK a l k).length cn, .slice (some ⟨bf, of + y2, none⟩) 1 (cf - y2)] W (UnderZ W [[y1]]) := fun W hW => by
        have h1 := (hFr.below hW (Nat.le_refl _)).part (i := y2) (j := y2 + 1) (by omega) (by omega) (A := some ⟨bf, of + y2, none⟩) (by rw [if_neg (by omega)])
        have e1 : (f.take (y2 + 1)).drop y2 = [f.getD y2 []] := by
          rw [rows_take_succ g1, List.drop_append_of_le_length (by simp; omega), List.drop_of_length_le (by simp; omega), List.nil_append]
        rw [e1, show y2 + 1 - y2 = 1 by omega] at h1
        have := under_rows _ _ (closeK a l k) [f.getD y2 []] W (hnow.below hW (Nat.le_refl _)) h1
        rw [g2] at this
        exact this
      have hu2 : ∀ W, Below wr.heap.size wr W → Calls Tryd.prog 13 #[.slice an (closeK a l k).length cn, .slice (some ⟨bf, of, none⟩) y2 cf] W (UnderZ W (underL (closeK a l k) (f.take y2))) := fun W hW =>
        under_rows _ _ (closeK a l k) (f.take y2) W (hnow.below hW (Nat.le_refl _)) ((hFr.below hW (Nat.le_refl _)).upto (by omega))
      have hjn : ∀ W g, Below wr.heap.size wr W → W.cell? ⟨g, 0, none⟩ = some (.int .i64 y1) → g < W.heap.size → Calls Tryd.prog 14 #[.slice an (closeK a l k).length cn, .slice (some ⟨g, 0, none⟩) 1 1] W (RetPair W (closeK a l (k + 1), 0)) := fun W g hW hg hgs => by
        have h1 : IsInts W (.slice (some ⟨g, 0, none⟩) 1 1) [y1] := ⟨_, 1, rfl, ⟨Nat.le_refl _, fun h => by cases h⟩, by omega, by simp, fun x hx => by rw [List.mem_singleton] at hx; subst hx; omega, g, 0, fun _ => ⟨rfl, hgs⟩, fun j hj => by
          have : j = 0 := by simp at hj; omega
          subst this; simpa using hg⟩
        have := join_any _ _ (closeK a l k) [y1] W (hnow.below hW (Nat.le_refl _)) h1 (by simp; omega)
        rw [joinL_eq, g4] at this
        exact this
      have HU1 := Lib.hid hu1
      have HU2 := Lib.hid hu2
      have HJN := Lib.hid hjn
      have G3 := Lib.hid g3
      have HNOW := Lib.hid hnow
      have HWR := Lib.hid hwr
      have HBEL := Lib.hid hbel
      have hy2 : (y2 : Int) < (f.length : Int) := by omega
      have hy2c : (y2 : Int) + 1 ≤ (cf : Int) := by omega
      have hy2f : (y2 : Int) + 1 ≤ (f.length : Int) := by omega
      clear hu1 hu2 hjn g2 g3 g4 hnow hwr hbel hFr hmk
      generalize underL (closeK a l k) (f.take y2) = U at *
      generalize (closeK a l k).length = nn at *
      go_wp2_with (go_at_call 13; refine (HU1.out _ ?_).mono ?_; exact ((Below.refl wr.heap.size wr).alloc (Nat.le_refl _) _); rintro e w6 ⟨a6, c6, rfl, hr6, hz6⟩)
      have hz0 : Below wr.heap.size wr w6 := ((Below.refl wr.heap.size wr).alloc (Nat.le_refl _) _).trans (hz6.mono (by simp))
      have hlt6 : wr.heap.size < w6.heap.size := by have := hz6.size; simp at this; omega
      have hc60 : w6.cell? ⟨wr.heap.size, 0, none⟩ = some (.int .i64 y1) := (hz6.cell (p := ⟨wr.heap.size, 0, none⟩) (by simp)).trans (cell_new rfl)
      have hc61 : w6.cell? ⟨wr.heap.size, 1, none⟩ = some (.int .i64 (y2 : Int)) := (hz6.cell (p := ⟨wr.heap.size, 1, none⟩) (by simp)).trans (cell_new rfl)
      obtain ⟨b6, o6, u6, rfl, hb6, hu6, HU6⟩ := hr6.at (k := 0) (by simp)
      rw [Nat.add_zero] at hu6
      have HU6' : IsInts w6 u6 [y1] := HU6
      obtain ⟨au, cu, rfl⟩ := HU6'.shape
      have HS6 := Lib.hid (HS.out.below (HWR.out.trans (hz0.mono hswr)) hlt)
      have hsg : Sz w6 w6 := Sz.of HS6.out (Below.refl _ _)
      have hsm : ∀ W, Below w6.heap.size w6 W → Calls Tryd.prog 68 #[.slice au 1 cu, .slice (some ⟨W.heap.size, 0, none⟩) 1 1] (W.alloc (.cells #[.int .i64 y1] 3)) (fun e w' => e = .returned (.bool true) ∧ Below w6.heap.size w6 w') := fun W hW => by
        have hba := zst (o := .cells #[.int .i64 y1] 3) hW
        have h1 : IsInts (W.alloc (.cells #[.int .i64 y1] 3)) (.slice (some ⟨W.heap.size, 0, none⟩) 1 1) [y1] := ⟨_, 1, rfl, ⟨Nat.le_refl _, fun h => by cases h⟩, by omega, by simp, fun x hx => by rw [List.mem_singleton] at hx; subst hx; omega, W.heap.size, 0, fun _ => ⟨rfl, by simp⟩, fun j hj => by
          have : j = 0 := by simp at hj; omega
          subst this; exact cell_new rfl⟩
        exact (samezX (HU6'.below hba (Nat.le_refl _)) h1).mono fun e w' h => ⟨h.1, hba.trans (h.2.mono hba.size)⟩
      have HSM := Lib.hid hsm
      have HZ0 := Lib.hid hz0
      clear hsm HU6 HU6' hr6 hz6 hz0
      go_wp2_with fail
      refine wp_region_held_drew (S := Sz w6) (by kernel_rfl) hsg.drew (fun hHeld => ?_)
      clear hsg
      generalize w6.drew = wd at *
      refine takeZ (i := 0) (v := .slice (some ⟨b6, o6, none⟩) 1 c6) (some 79) rfl rfl (by kernel_rfl) (by kernel_rfl) (by kernel_rfl) (fun _ _ _ h => h) (Or.inl ⟨by rfl, ?_⟩) (by assumption) ?_
      · intro wz hSw; have hcz := hSw.1; unfold SameAz at hcz; have h1 := (hSw.2.cell (p := ⟨b6, o6, none⟩) hb6).trans hu6; have h2 := (hSw.2.cell (p := ⟨wr.heap.size, 0, none⟩) hlt6).trans hc60; go_simp
      try simp only [Act.put, List.setIfInBounds_toArray, List.set_cons_zero, List.set_cons_succ]
      refine takeZ (i := 1) (v := .int .i64 1) (some 80) rfl rfl (by kernel_rfl) (by kernel_rfl) (by kernel_rfl) (fun _ _ _ h => h) (Or.inl ⟨by rfl, ?_⟩) (by assumption) ?_
      · intro wz hSw; have hcz := hSw.1; unfold SameAz at hcz; have h1 := (hSw.2.cell (p := ⟨b6, o6, none⟩) hb6).trans hu6; have h2 := (hSw.2.cell (p := ⟨wr.heap.size, 0, none⟩) hlt6).trans hc60; go_simp
      try simp only [Act.put, List.setIfInBounds_toArray, List.set_cons_zero, List.set_cons_succ]
      refine takeZ (i := 2) (v := .bool false) (some 81) rfl rfl (by kernel_rfl) (by kernel_rfl) (by kernel_rfl) (fun _ _ _ h => h) (Or.inl ⟨by rfl, ?_⟩) (by assumption) ?_
      · intro wz hSw; have hcz := hSw.1; unfold SameAz at hcz; have h1 := (hSw.2.cell (p := ⟨b6, o6, none⟩) hb6).trans hu6; have h2 := (hSw.2.cell (p := ⟨wr.heap.size, 0, none⟩) hlt6).trans hc60; go_simp
      try simp only [Act.put, List.setIfInBounds_toArray, List.set_cons_zero, List.set_cons_succ]
      refine takeZ (i := 3) (v := .bool false) (some 82) rfl rfl (by kernel_rfl) (by kernel_rfl) (by kernel_rfl) (fun _ _ _ h => h) (Or.inl ⟨by rfl, ?_⟩) (by assumption) ?_
      · intro wz hSw; have hcz := hSw.1; unfold SameAz at hcz; have h1 := (hSw.2.cell (p := ⟨b6, o6, none⟩) hb6).trans hu6; have h2 := (hSw.2.cell (p := ⟨wr.heap.size, 0, none⟩) hlt6).trans hc60; go_simp
      try simp only [Act.put, List.setIfInBounds_toArray, List.set_cons_zero, List.set_cons_succ]
      refine takeZ (i := 4) (v := .func (.func 68) #[] #[]) (some 83) rfl rfl (by kernel_rfl) (by kernel_rfl) (by kernel_rfl) (fun _ _ _ h => h) (Or.inl ⟨by rfl, ?_⟩) (by assumption) ?_
      · intro wz hSw; have hcz := hSw.1; unfold SameAz at hcz; have h1 := (hSw.2.cell (p := ⟨b6, o6, none⟩) hb6).trans hu6; have h2 := (hSw.2.cell (p := ⟨wr.heap.size, 0, none⟩) hlt6).trans hc60; go_simp
      try simp only [Act.put, List.setIfInBounds_toArray, List.set_cons_zero, List.set_cons_succ]
      refine takeZ (i := 5) (v := .slice (some ⟨b6, o6, none⟩) 1 c6) (some 84) rfl rfl (by kernel_rfl) (by kernel_rfl) (by kernel_rfl) (fun _ _ _ h => h) (Or.inl ⟨by rfl, ?_⟩) (by assumption) ?_
      · intro wz hSw; have hcz := hSw.1; unfold SameAz at hcz; have h1 := (hSw.2.cell (p := ⟨b6, o6, none⟩) hb6).trans hu6; have h2 := (hSw.2.cell (p := ⟨wr.heap.size, 0, none⟩) hlt6).trans hc60; go_simp
      try simp only [Act.put, List.setIfInBounds_toArray, List.set_cons_zero, List.set_cons_succ]
      refine takeZ (i := 6) (v := .pointer (some ⟨b6, o6, none⟩)) (some 85) rfl rfl (by kernel_rfl) (by kernel_rfl) (by kernel_rfl) (fun _ _ _ h => h) (Or.inl ⟨by rfl, ?_⟩) (by assumption) ?_
      · intro wz hSw; have hcz := hSw.1; unfold SameAz at hcz; have h1 := (hSw.2.cell (p := ⟨b6, o6, none⟩) hb6).trans hu6; have h2 := (hSw.2.cell (p := ⟨wr.heap.size, 0, none⟩) hlt6).trans hc60; go_simp
      try simp only [Act.put, List.setIfInBounds_toArray, List.set_cons_zero, List.set_cons_succ]
      refine takeZ (i := 7) (v := .slice au 1 cu) (some 86) rfl rfl (by kernel_rfl) (by kernel_rfl) (by kernel_rfl) (fun _ _ _ h => h) (Or.inl ⟨by rfl, ?_⟩) (by assumption) ?_
      · intro wz hSw; have hcz := hSw.1; unfold SameAz at hcz; have h1 := (hSw.2.cell (p := ⟨b6, o6, none⟩) hb6).trans hu6; have h2 := (hSw.2.cell (p := ⟨wr.heap.size, 0, none⟩) hlt6).trans hc60; go_simp
      try simp only [Act.put, List.setIfInBounds_toArray, List.set_cons_zero, List.set_cons_succ]
      refine takeZ (i := 8) (v := .pointer (some ⟨wr.heap.size, 0, none⟩)) (some 87) rfl rfl (by kernel_rfl) (by kernel_rfl) (by kernel_rfl) (fun _ _ _ h => h) (Or.inl ⟨by rfl, ?_⟩) (by assumption) ?_
      · intro wz hSw; have hcz := hSw.1; unfold SameAz at hcz; have h1 := (hSw.2.cell (p := ⟨b6, o6, none⟩) hb6).trans hu6; have h2 := (hSw.2.cell (p := ⟨wr.heap.size, 0, none⟩) hlt6).trans hc60; go_simp
      try simp only [Act.put, List.setIfInBounds_toArray, List.set_cons_zero, List.set_cons_succ]
      refine takeZ (i := 9) (v := .int .i64 y1) (some 88) rfl rfl (by kernel_rfl) (by kernel_rfl) (by kernel_rfl) (fun _ _ _ h => h) (Or.inl ⟨by rfl, ?_⟩) (by assumption) ?_
      · intro wz hSw; have hcz := hSw.1; unfold SameAz at hcz; have h1 := (hSw.2.cell (p := ⟨b6, o6, none⟩) hb6).trans hu6; have h2 := (hSw.2.cell (p := ⟨wr.heap.size, 0, none⟩) hlt6).trans hc60; go_simp
      try simp only [Act.put, List.setIfInBounds_toArray, List.set_cons_zero, List.set_cons_succ]
      refine wpAnyH_ready (rs := [10]) (by kernel_rfl) (by simp) ?_
      refine AllReadyH.cons rfl (fun K hK => ?_) AllReadyH.nil
      go_simp
      refine hK.out _ _ (Sz.alloc (by assumption) _) (fun hHeld2 => ?_)
      clear hK K
      refine wpAnyH_ready (rs := [11]) (by kernel_rfl) (by simp) ?_
      refine AllReadyH.cons rfl (fun K hK => ?_) AllReadyH.nil
      go_simp
      go_wp2_with (go_at_call 68; refine (HSM.out wd hHeld.2).mono ?_; rintro e wt ⟨rfl, hbt⟩)
      refine hK.out _ _ (Sz.of HS6.out hbt) (fun hHeld3 => ?_)
      clear hK K
      refine takeZ (i := 12) (v := .bool false) (some 91) rfl rfl (by kernel_rfl) (by kernel_rfl) (by kernel_rfl) (fun _ _ _ h => h) (Or.inl ⟨by rfl, ?_⟩) (by assumption) ?_
      · intro wz hSw; have hcz := hSw.1; unfold SameAz at hcz; have h1 := (hSw.2.cell (p := ⟨b6, o6, none⟩) hb6).trans hu6; have h2 := (hSw.2.cell (p := ⟨wr.heap.size, 0, none⟩) hlt6).trans hc60; go_simp
      try simp only [Act.put, List.setIfInBounds_toArray, List.set_cons_zero, List.set_cons_succ]
      refine takeZ (i := 13) (v := .bool false) (some 92) rfl rfl (by kernel_rfl) (by kernel_rfl) (by kernel_rfl) (fun _ _ _ h => h) (Or.inl ⟨by rfl, ?_⟩) (by assumption) ?_
      · intro wz hSw; have hcz := hSw.1; unfold SameAz at hcz; have h1 := (hSw.2.cell (p := ⟨b6, o6, none⟩) hb6).trans hu6; have h2 := (hSw.2.cell (p := ⟨wr.heap.size, 0, none⟩) hlt6).trans hc60; go_simp
      try simp only [Act.put, List.setIfInBounds_toArray, List.set_cons_zero, List.set_cons_succ]
      refine wpAnyH_done (by kernel_rfl) ?_ _
      have hct1 := (hbt.cell (p := ⟨wr.heap.size, 1, none⟩) hlt6).trans hc61
      have hct0 := (hbt.cell (p := ⟨wr.heap.size, 0, none⟩) hlt6).trans hc60
      have hbt0 := HZ0.out.trans (hbt.mono HZ0.out.size)
      have hltt : wr.heap.size < wt.heap.size := Nat.lt_of_lt_of_le hlt6 hbt.size
      clear hHeld hHeld2 hHeld3 hbt HSM HZ0 hc60 hc61 hu6
      go_wp2_with (go_at_call 13; refine (HU2.out wt hbt0).mono ?_; rintro e w8 ⟨a8, c8, rfl, hr8, hz8⟩; have hb8 := hbt0.trans (hz8.mono hbt0.size); have hc80 := (hz8.cell (p := ⟨wr.heap.size, 0, none⟩) hltt).trans hct0; have hlt8 := Nat.lt_of_lt_of_le hltt hz8.size)
      have HR8 := Lib.hid hr8
      have hUl : U.length ≤ 17592186044416 := by obtain ⟨_, _, _, h⟩ := hr8.shape; exact h
      have HB8 := Lib.hid hb8
      have HC80 := Lib.hid hc80
      clear hr8 hb8 hc80 hct0 hct1 hz8
      generalize wr = wq at *
      go_loopw [100] (fun i wr => ∃ j : Nat, j ≤ U.length ∧ i = .int .i64 j ∧ Below w8.heap.size w8 wr) (fun i _ => U.length - (intOf i).toNat)
      case atStart => exact ⟨0, Nat.zero_le _, rfl, Below.refl _ _⟩
      case round =>
        obtain ⟨j, hj, rfl, hbj⟩ := hrel
        by_cases hlj : j < U.length
        · obtain ⟨b9, o9, u9, rfl, hb9, hu0, HU0⟩ := HR8.out.at hlj
          have hu := (hbj.cell (p := ⟨b9, o9 + j, none⟩) hb9).trans hu0
          have h2l := G3.out _ (rows_getD_mem hlj)
          obtain ⟨a9, c9, rfl⟩ := HU0.shape
          have hlu := HU0.len
          have HBJ := Lib.hid hbj
          clear HU0 hbj hu0
          generalize (U.getD j []).length = n at *
          go_wp2
          go_roundw
          case rel => exact ⟨j + 1, by omega, by go_num, HBJ.out⟩
          case measure => simp [intOf]; omega
        · have hcw := (hbj.cell (p := ⟨wq.heap.size, 0, none⟩) hlt8).trans HC80.out
          have hbw := HB8.out.trans (hbj.mono HB8.out.size)
          have hja := HJN.out (wr.alloc (.cells #[.int .i64 y1] 3)) wr.heap.size (hbw.alloc hbw.size _) (cell_new rfl) (by simp)
          have HJA := Lib.hid hja
          have HBW := Lib.hid hbw
          clear hja hbw hbj
          go_wp2_with (go_at_call 14; refine HJA.out.mono ?_; rintro e w11 ⟨v11, rfl, hi11, hz11⟩)
          have hb11 : Below w5.heap.size w5 w11 := HBEL.out.trans (((HBW.out.alloc HBW.out.size _).trans (hz11.mono (by have := HBW.out.size; simp; omega))).mono hsz)
          have HI11 := Lib.hid hi11
          have HB11 := Lib.hid hb11
          clear hi11 hb11 hz11
          go_roundw
          case rel => exact ⟨k + 1, by omega, by go_num, HI11.out, HB11.out⟩
          case measure => simp [intOf]; omega
    · have hke : k = l.length := by omega
      subst hke
      have hconf := sound_conf HRUN.out HM.out HC.out
      have hpt := fun P => sound_point (P := P) HRUN.out
      have hsr := HB5.out.trans (hbel.mono hs5)
      generalize closeK a l l.length = S at *
      have HPT := Lib.hid hpt
      have HNOW := Lib.hid hnow
      have HSR := Lib.hid hsr
      have hssr := hsr.size
      clear hpt hnow hsr hbel
      go_upto_region 23 with fail
      go_cut [133] (fun t wx => t = .bool false ∧ Below wr.heap.size wr wx)
      case first =>
        rcases hconf with rfl | ⟨i, rfl, hi, hj⟩
        · go_wp2_with fail
          go_meet
          exact ⟨congrArg Value.bool (decide_eq_false (by omega)), Below.refl _ _⟩
        · obtain ⟨bf, of, uf, rfl, hbf, huf, HUF⟩ := (HHF.out.below HSR.out (Nat.le_refl _)).at hi
          have hcl := clause_any _ _ S (f.getD i []) wr HNOW.out HUF
          rw [hj] at hcl
          have HCL := Lib.hid hcl
          have hi2 : (i : Int) < (f.length : Int) := by omega
          clear hcl HUF hj
          go_wp2_with (go_at_call 15; refine HCL.out.mono ?_; rintro e w7 ⟨rfl, hb7⟩)
          go_meet
          exact ⟨congrArg Value.bool (decide_eq_false (by omega)), hb7⟩
      case rest =>
        obtain ⟨rfl, hbc⟩ := hcut
        clear hconf
        have hbw := HSR.out.trans (hbc.mono hssr)
        have hsw := hbw.size
        have HFC := Lib.hid (HHF.out.below hbw (Nat.le_refl _))
        have HRA : Hid (RowsAre wc [.slice aa a.length ca] [a]) := RowsAre.cons (HHA.out.below hbw (Nat.le_refl _)) (RowsAre.nil _)
        have HNW := Lib.hid (HNOW.out.below hbc (Nat.le_refl _))
        have HOW : Hid (OwnR (wc.alloc (.cells #[.slice aa a.length ca] 23)) wc.heap.size (.slice (some ⟨wc.heap.size, 0, none⟩) 1 1) [.slice aa a.length ca]) := OwnR.litz rfl rfl (by simp)
        have HZB := Lib.hid (zst (o := .cells #[.slice aa a.length ca] 23) (Below.refl wc.heap.size wc))
        have HLL : Hid (([a] ++ f).length ≤ 17592186044416) := by show _ ≤ _; simp; omega
        have HL1 : Hid ([Value.slice aa a.length ca].length ≤ 1000000) := by show _ ≤ _; simp
        have hfm : f.length ≤ 1000000 := by omega
        have HPK : Hid (∀ wb, wb = wc.alloc (.cells #[.slice aa a.length ca] 23) → OwnR wb wc.heap.size (.slice (some ⟨wc.heap.size, 0, none⟩) 1 1) [.slice aa a.length ca] ∧ Below wc.heap.size wc wb ∧ wc.heap.size ≤ wb.heap.size) := by
          rintro wb rfl
          exact ⟨HOW.out, HZB.out, HZB.out.size⟩
        clear HOW HZB
        go_upto_region 25 with fail
        refine wp_region_lit ?_
        refine wpList_plain rfl fun K hK => ?_
        have HK0 := Lib.hid hK
        clear hK
        go_simp
        refine HK0.out _ _ ?_
        clear HK0 K
        refine wpList_build1 rfl 134 rfl _ rfl _ _ _ rfl ?_
        intro wb hwb
        obtain ⟨hOb, hZb, hSb⟩ := HPK.out wb hwb
        clear hwb
        go_wp2_with (at_builtin; refine wpList_appRs0 (w0 := wc) rfl (.tmp 135) (.tmp 136) rfl wc.heap.size _ [.slice aa a.length ca] af f.length cf f rfl rfl HFC.out hZb hOb [a] HRA.out HL1.out hfm hSb ?_; intro w8 T A c8 hT hown hg)
        have hz8 := belowR hZb hOb hSb hg
        have hR8 := hown.rows (hT.below hz8 (Nat.le_refl _)) HLL.out
        refine (vars_any _ ([a] ++ f) w8 hR8).mono ?_
        rintro e w9 ⟨r, ⟨v9, rfl, hown9, hz9⟩, -, hrl, hr64⟩
        have hi9 := hown9.ints (by omega) hr64
        obtain ⟨a9, c9, rfl⟩ := hi9.shape
        have hzc := hz8.trans (hz9.mono hz8.size)
        have hb9 := hbw.trans (hzc.mono hsw)
        have hs9 := hb9.size
        have HN9 := Lib.hid (HNW.out.below hzc (Nat.le_refl _))
        have HI9 := Lib.hid hi9
        clear hz8 hz9 hR8 hown hT hg hown9 hr64 hi9 HPK HNW HLL HL1 HFC HRA hzc hOb hZb hSb
        by_cases h8 : 8 < r.length
        · go_wp2_with (go_at_call 8; refine (awakezX hb9 HS.out).mono ?_; rintro e w10 ⟨rfl, hb10⟩)
          go_ret
          exact ⟨rfl, hb10⟩
        · obtain ⟨M, hM⟩ : ∃ M : Nat, M = 2 ^ r.length := ⟨_, rfl⟩
          have hM256 : M ≤ 256 := by rw [hM]; exact Nat.le_trans (Nat.pow_le_pow_right (by decide) (show r.length ≤ 8 by omega)) (by decide)
          have hpw : IntKind.u64.wrap ((2 : Int) ^ r.length) = (M : Int) := by
            have e : (2 : Int) ^ r.length = (M : Int) := by rw [hM]; simp
            rw [e, wraps64 _ (by omega) (by omega)]
          have HM2 := Lib.hid hM
          clear hM
          go_wp2_with fail
          go_loopw [146] (fun i wr => ∃ n : Nat, n ≤ M ∧ i = .int .u64 n ∧ Below w9.heap.size w9 wr) (fun i _ => M - (intOf i).toNat)
          case atStart => exact ⟨0, Nat.zero_le _, rfl, Below.refl _ _⟩
          case round =>
            obtain ⟨n, hn, rfl, hbn⟩ := hrel
            have hnw := hb9.trans (hbn.mono hs9)
            have hsn := hnw.size
            by_cases hnM : n < M
            · have hpt9 := point_any _ r n wr (HI9.out.below hbn (Nat.le_refl _)) (by omega)
              generalize pointL r n = Pn at *
              obtain ⟨P, pc⟩ := Pn
              have hpp := HPT.out P
              have HP := Lib.hid hpt9
              have hs1 := fun (W : World) (u : Value) (h : IsInts W (.slice aa a.length ca) a) (k : IsInts W u P) => sub_any _ _ a P W h k
              have hs2 := fun (W : World) (u : Value) (h : IsInts W (.slice an S.length cn) S) (k : IsInts W u P) => sub_any _ _ S P W h k
              have hs3 := fun (W : World) (u : Value) (k : IsInts W u P) (h : IsRows W (.slice af f.length cf) f) => cnf_any _ _ P f W k h
              have HBN := Lib.hid hbn
              have HNW2 := Lib.hid hnw
              clear hpt9 hbn
              by_cases h1 : subL a P = true
              · by_cases h2 : cnfL P f = 1
                · obtain ⟨rfl, h3⟩ := hpp h1 h2
                  rw [h1] at hs1
                  rw [h2] at hs3
                  rw [h3] at hs2
                  have HS1 := Lib.hid hs1
                  have HS2 := Lib.hid hs2
                  have HS3 := Lib.hid hs3
                  clear hs1 hs2 hs3 h1 h2 h3 hpp
                  go_wp2_with (first
                    | (go_at_call 17; refine HP.out.mono ?_; rintro e w10 ⟨v10, rfl, hi10, hz10⟩; have hb10 := HBN.out.trans (hz10.mono HBN.out.size); have hs10 := hb10.size; obtain ⟨a10, c10, rfl⟩ := hi10.shape; have HB10 := Lib.hid hb10; clear hb10)
                    | (go_at_call_of 18 (Value.slice an S.length cn); refine (HS2.out w11 _ ((HN9.out.below HB10.out (Nat.le_refl _)).below hz11 (Nat.le_refl _)) (hi10.below hz11 (Nat.le_refl _))).mono ?_; rintro e w' ⟨rfl, rfl⟩)
                    | (go_at_call 18; refine (HS1.out w10 _ (HHA.out.below (HNW2.out.trans (hz10.mono hsn)) (Nat.le_refl _)) hi10).mono ?_; rintro e w' ⟨rfl, rfl⟩)
                    | (go_at_call 19; refine (HS3.out w10 _ hi10 (HHF.out.below (HNW2.out.trans (hz10.mono hsn)) (Nat.le_refl _))).mono ?_; rintro e w11 ⟨rfl, hz11⟩))
                  have HB11 := Lib.hid (HB10.out.trans (hz11.mono hs10))
                  go_roundw
                  case rel => exact ⟨n + 1, by omega, by go_num, HB11.out⟩
                  case measure => simp [intOf]; omega
                · have h2' : (cnfL P f == 1) = false := by simpa using h2
                  rw [h1] at hs1
                  have HS1 := Lib.hid hs1
                  have HS3 := Lib.hid hs3
                  clear hs1 hs2 hs3 h1 h2 hpp
                  generalize cnfL P f = z at *
                  go_wp2_with (first
                    | (go_at_call 17; refine HP.out.mono ?_; rintro e w10 ⟨v10, rfl, hi10, hz10⟩; have hb10 := HBN.out.trans (hz10.mono HBN.out.size); have hs10 := hb10.size; obtain ⟨a10, c10, rfl⟩ := hi10.shape; have HB10 := Lib.hid hb10; clear hb10)
                    | (go_at_call 18; refine (HS1.out w10 _ (HHA.out.below (HNW2.out.trans (hz10.mono hsn)) (Nat.le_refl _)) hi10).mono ?_; rintro e w' ⟨rfl, rfl⟩)
                    | (go_at_call 19; refine (HS3.out w10 _ hi10 (HHF.out.below (HNW2.out.trans (hz10.mono hsn)) (Nat.le_refl _))).mono ?_; rintro e w11 ⟨rfl, hz11⟩))
                  have HB11 := Lib.hid (HB10.out.trans (hz11.mono hs10))
                  go_roundw
                  case rel => exact ⟨n + 1, by omega, by go_num, HB11.out⟩
                  case measure => simp [intOf]; omega
              · have h1' : subL a P = false := by simpa using h1
                rw [h1'] at hs1
                have HS1 := Lib.hid hs1
                clear hs1 hs2 hs3 h1 h1' hpp
                go_wp2_with (first
                  | (go_at_call 17; refine HP.out.mono ?_; rintro e w10 ⟨v10, rfl, hi10, hz10⟩; have hb10 := HBN.out.trans (hz10.mono HBN.out.size); have hs10 := hb10.size; obtain ⟨a10, c10, rfl⟩ := hi10.shape; have HB10 := Lib.hid hb10; clear hb10)
                  | (go_at_call 18; refine (HS1.out w10 _ (HHA.out.below (HNW2.out.trans (hz10.mono hsn)) (Nat.le_refl _)) hi10).mono ?_; rintro e w' ⟨rfl, rfl⟩))
                go_roundw
                case rel => exact ⟨n + 1, by omega, by go_num, HB10.out⟩
                case measure => simp [intOf]; omega
            · have HNW2 := Lib.hid hnw
              clear hbn hnw
              go_wp2_with (go_at_call 8; refine (awakezX HNW2.out HS.out).mono ?_; rintro e w12 ⟨rfl, hb12⟩)
              go_ret
              exact ⟨rfl, hb12⟩

theorem sound_law (vf va : Value) (f : List (List Int)) (a : List Int) (w : World) (hS : SameAz w) (HF : IsRows w vf f) (HA : IsInts w va a) (hf24 : f.length * 24 ≤ 140737488351232) :
    Calls Tryd.prog 3 #[vf, va] w (fun e w' => e = .returned (.bool true) ∧ Below w.heap.size w w') := by
  by_cases hlg : largeB [a] f = true
  · exact sound_big vf va f a w hS HF HA hf24 hlg
  · have hlg' : largeB [a] f = false := by simpa using hlg
    by_cases hmc : mayB a = true ∧ mayCnfB f = true
    · exact sound_yes vf va f a w hS HF HA hf24 hlg' hmc.1 hmc.2
    · exact sound_no vf va f a w hS HF HA hf24 hlg' hmc

end Go.Proofs.YtmhjpbhldaagmaaDoor
