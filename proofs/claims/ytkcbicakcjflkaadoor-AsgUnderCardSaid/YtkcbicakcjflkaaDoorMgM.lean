/- Joined texts: RUnd, LawUnder. -/
import Derived.Test.YtkcbicakcjflkaaDoorMgL
import Derived.Test.YtkcbicakcjflkaaDoorMgK
import Derived.Test.YtkcbicakcjflkaaDoorLawTwice
/- The reference's Under. -/
namespace Go.Proofs.YtkcbicakcjflkaaDoor
open Go.RowKit
set_option linter.unusedVariables false

def runL (a : List Int) (f : List (List Int)) : List (List Int) := (f.filter (fun c => judgeL 1 2 a c != 1)).map (restL a)
theorem runL_hit {a : List Int} {f : List (List Int)} {k : Nat} (h : k < f.length) (hp : judgeL 1 2 a (f.getD k []) ≠ 1) : runL a (f.take (k + 1)) = runL a (f.take k) ++ [restL a (f.getD k [])] := by
  unfold runL
  rw [rows_take_succ h, List.filter_append, List.map_append, List.filter_cons, if_pos (by simpa using hp)]
  rfl
theorem runL_miss {a : List Int} {f : List (List Int)} {k : Nat} (h : k < f.length) (hp : judgeL 1 2 a (f.getD k []) = 1) : runL a (f.take (k + 1)) = runL a (f.take k) := by
  unfold runL
  rw [rows_take_succ h, List.filter_append, List.map_append, List.filter_cons, if_neg (by rw [hp]; simp)]
  simp

set_option maxHeartbeats 1600000 in
set_option maxRecDepth 100000 in
theorem runder_any (va vf : Value) (a : List Int) (f : List (List Int)) (w : World) (HA : IsInts w va a) (HR : IsRows w vf f) :
    Calls Tryd.prog 24 #[va, vf] w (RowsPost w (underL a f)) := by
  obtain ⟨aa, ca, rfl⟩ := HA.shape
  obtain ⟨av, cv, rfl, hfl⟩ := HR.shape
  have hmay := rmay_v _ a w HA
  have hcnf := fun (W : World) (hq : Quiet w W) => rmaycnf_any _ f W (HR.quiet hq)
  have HHA := Lib.hid HA
  have HHR := Lib.hid HR
  by_cases hm : mayB a = true
  · by_cases hc : mayCnfB f = true
    · have HF : Hid (underL a f = runL a f) := under_is hm hc
      have hlen : f.length ≤ 20000 := by unfold mayCnfB at hc; rw [decide_eq_true_eq] at hc; exact hc.1
      rw [hm] at hmay
      rw [hc] at hcnf
      have HM := Lib.hid hmay
      have HC := Lib.hid hcnf
      clear hm hc hmay hcnf HA HR
      go_enter Tryd.func24, Tryd.ntmps24
      go_wp2_with (first
        | (go_at_call 36; refine HM.out.mono ?_; rintro e w1 ⟨rfl, hq1⟩)
        | (go_at_call 37; refine (HC.out w1 hq1).mono ?_; rintro e w2 ⟨rfl, hq2⟩; have hb2 := (hq1.trans hq2).below w.heap.size))
      go_loopw [5, 6] (fun out i wr => ∃ (k : Nat) (us : List Value), k ≤ f.length ∧ i = .int .i64 k ∧ OwnR wr w.heap.size out us ∧ RowsOwn wr w.heap.size us (runL a (f.take k)) ∧ us.length ≤ k ∧ Below w.heap.size w wr) (fun _ i _ => f.length - (intOf i).toNat)
      case atStart => exact ⟨0, [], Nat.zero_le _, rfl, OwnR.nil _ _, RowsOwn.nil _ _, by simp, hb2⟩
      case round =>
        clear hb2
        obtain ⟨k, us, hk, rfl, hown, hro, hul, hbel⟩ := hrel
        have hsz := hbel.size
        by_cases hlt : k < f.length
        · obtain ⟨b, off, u, rfl, hbk, hu, HU⟩ := HHR.out.at hlt
          have hu1 := (hbel.cell (p := ⟨b, off + k, none⟩) hbk).trans hu
          have HU1 := HU.below hbel (Nat.le_refl _)
          have HA1 := HHA.out.below hbel (Nat.le_refl _)
          have HB := Lib.hid hbel
          have HO := Lib.hid hown
          have HRO := Lib.hid hro
          obtain ⟨au, cu, rfl⟩ := HU.shape
          have hcl := rclause_any _ _ a (f.getD k []) wr HA1 HU1
          by_cases hp : judgeL 1 2 a (f.getD k []) = 1
          · have HT := Lib.hid (runL_miss hlt hp)
            rw [hp] at hcl
            have HCL := Lib.hid hcl
            clear hp hcl hu HU HU1 HA1 hown hro hbel
            generalize (f.getD k []).length = lk at *
            go_wp2_with (go_at_call 16; refine HCL.out.mono ?_; rintro e w3 ⟨rfl, hq3⟩; have hb3 := HB.out.trans (hq3.below _); have hown3 := HO.out.quiet hq3; have hro3 := HRO.out.below (hq3.below wr.heap.size) (Nat.le_refl _))
            go_roundw
            case rel => exact ⟨k + 1, us, by omega, by go_num, hown3, by rw [HT.out]; exact hro3, by omega, hb3⟩
            case measure => simp [intOf]; omega
          · have HT := Lib.hid (runL_hit hlt hp)
            have hne : (judgeL 1 2 a (f.getD k []) != 1) = true := by simpa using hp
            have hrs := fun (W : World) (hq : Quiet wr W) => rrest_any _ _ a (f.getD k []) W (HA1.quiet hq) (HU1.quiet hq)
            generalize hz : judgeL 1 2 a (f.getD k []) = z at *
            have HCL := Lib.hid hcl
            have HRS := Lib.hid hrs
            clear hp hcl hu HU HU1 HA1 hown hro hbel hrs hz
            generalize restL a (f.getD k []) = rk at *
            generalize (f.getD k []).length = lk at *
            go_wp2_with (first
              | (go_at_call 16; refine HCL.out.mono ?_; rintro e w3 ⟨rfl, hq3⟩; have hu3 := (hq3.cell _).trans hu1; have hb3 := HB.out.trans (hq3.below _); have hown3 := HO.out.quiet hq3; have hro3 := HRO.out.below (hq3.below wr.heap.size) (Nat.le_refl _); have hs3 := hb3.size)
              | (go_at_call 58; refine (HRS.out w3 hq3).mono ?_; rintro e w4 ⟨v4, rfl, ho4, hz4⟩; obtain ⟨a4, c4, rfl⟩ := ho4.shapeL; have hb4 := hb3.trans (hz4.mono hs3); have hs4 := hb4.size; have hown4 := hown3.below hz4 (Nat.le_refl _); have hro4 := (hro3.below hz4 (Nat.le_refl _)).append (RowsOwn.one (ho4.mono hs3)))
              | (at_builtin; refine wpList_appR1 rfl (.tmp 28) (.tmp 35) rfl w.heap.size _ us (.slice a4 rk.length c4) w4.heap.size rfl rfl (hown4.alloc _) (by simp) rfl (by omega) (by simp <;> omega) ?_; intro v' w' hown' hg'))
            go_roundw
            case rel => exact ⟨k + 1, _, by omega, by go_num, hown', by rw [HT.out]; exact (hro4.alloc _).grown (hown4.alloc _) hg', by simp; omega, belowR (hb4.alloc (by omega) _) (hown4.alloc _) (by simp; omega) hg'⟩
            case measure => simp [intOf]; omega
        · rw [List.take_of_length_le (by omega)] at hro
          have HY : Hid (RowsPost w (underL a f) (.returned u5) wr) := ⟨_, us, rfl, hown, by rw [HF.out]; exact hro, hbel⟩
          clear hown hro hbel
          go_wp2
          go_ret
          exact HY.out
    · have hc' : mayCnfB f = false := by simpa using hc
      have hF : underL a f = [] := by unfold underL; rw [hc', Bool.and_false]; rfl
      rw [hF]
      rw [hm] at hmay
      rw [hc'] at hcnf
      have HM := Lib.hid hmay
      have HC := Lib.hid hcnf
      clear hm hc hc' hmay hcnf HA HR hF
      go_enter Tryd.func24, Tryd.ntmps24
      go_wp2_with (first
        | (go_at_call 36; refine HM.out.mono ?_; rintro e w1 ⟨rfl, hq1⟩)
        | (go_at_call 37; refine (HC.out w1 hq1).mono ?_; rintro e w2 ⟨rfl, hq2⟩; have hb2 := (hq1.trans hq2).below w.heap.size))
      go_ret
      exact ⟨_, [], rfl, OwnR.nil _ _, ⟨rfl, fun j h => absurd h (Nat.not_lt_zero _)⟩, hb2⟩
  · have hm' : mayB a = false := by simpa using hm
    have hF : underL a f = [] := by unfold underL; rw [hm']; rfl
    rw [hF]
    rw [hm'] at hmay
    have HM := Lib.hid hmay
    clear hm hm' hmay hcnf HA HR hF
    go_enter Tryd.func24, Tryd.ntmps24
    go_wp2_with (go_at_call 36; refine HM.out.mono ?_; rintro e w1 ⟨rfl, hq1⟩; have hb1 := hq1.below w.heap.size)
    go_ret
    exact ⟨_, [], rfl, OwnR.nil _ _, ⟨rfl, fun j h => absurd h (Nat.not_lt_zero _)⟩, hb1⟩

end Go.Proofs.YtkcbicakcjflkaaDoor

/- The law on formulas under an assignment, walked. -/
namespace Go.Proofs.YtkcbicakcjflkaaDoor
open Go.RowKit
set_option linter.unusedVariables false
set_option linter.unusedSimpArgs false

theorem RowsPost.rows {w w' : World} {a : List Int} {f : List (List Int)} {v : Value} {us : List Value} {B : Nat} (ho : OwnR w' B v us) (hr : RowsO w' B us (underL a f)) (hmem : ∀ l ∈ f, l.length ≤ 17592186044416 ∧ In64 l) (hfl : f.length ≤ 17592186044416) : IsRows w' v (underL a f) := by
  refine ho.rows ⟨hr.1, fun j hj => ?_⟩ (Nat.le_trans (under_len a f) hfl)
  have hin : (underL a f).getD j [] ∈ underL a f := rows_getD_mem hj
  obtain ⟨r, hrf, e⟩ := under_mem hin
  have h1 := hmem r hrf
  refine (hr.2 j hj).ints ?_ ?_
  · rw [e]; exact Nat.le_trans (rest_len a r) h1.1
  · rw [e]; exact restL_64 h1.2

set_option maxHeartbeats 4000000 in
set_option maxRecDepth 100000 in
theorem under_big (va vf : Value) (a : List Int) (f : List (List Int)) (w : World) (hS : SameAz w) (HA : IsInts w va a) (HF : IsRows w vf f) (hf24 : f.length * 24 ≤ 140737488351232) (hlg : largeB [a] f = true) :
    Calls Tryd.prog 4 #[va, vf] w (fun e w' => e = .returned (.bool true) ∧ Below w.heap.size w w') := by
  have HS := Lib.hid hS
  clear hS
  obtain ⟨af, cf, rfl, hfl⟩ := HF.shape
  obtain ⟨aa, ca, rfl⟩ := HA.shape
  have hl := lgF1 HF HA hf24 hlg
  have HL := Lib.hid hl
  clear hl hlg HF HA
  go_enter Tryd.func4, Tryd.ntmps4
  go_wp2_with (first
    | (go_at_call 11; refine HL.out.mono ?_; rintro e w1 ⟨rfl, hb1⟩)
    | (go_at_call 12; refine (awakezX hb1 HS.out).mono ?_; rintro e w2 ⟨rfl, hb2⟩))
  go_ret
  exact ⟨rfl, hb2⟩

set_option maxHeartbeats 4000000 in
set_option maxRecDepth 100000 in
theorem under_small (va vf : Value) (a : List Int) (f : List (List Int)) (w : World) (hS : SameAz w) (HA : IsInts w va a) (HF : IsRows w vf f) (hf24 : f.length * 24 ≤ 140737488351232) (hlg : largeB [a] f = false) :
    Calls Tryd.prog 4 #[va, vf] w (fun e w' => e = .returned (.bool true) ∧ Below w.heap.size w w') := by
  have HS := Lib.hid hS
  clear hS
  have hmem := HF.mem
  obtain ⟨af, cf, rfl, hfl⟩ := HF.shape
  obtain ⟨aa, ca, rfl⟩ := HA.shape
  have hl := lgF1 HF HA hf24 hlg
  have HL := Lib.hid hl
  have hf200 : f.length ≤ 200 := by unfold largeB at hlg; rw [decide_eq_false_iff_not] at hlg; omega
  have HHA := Lib.hid HA
  have HHF := Lib.hid HF
  have HMEM := Lib.hid hmem
  clear hl hlg HF HA hmem hf24
  go_enter Tryd.func4, Tryd.ntmps4
  go_wp2_with (first
    | (go_at_call 11; refine HL.out.mono ?_; rintro e w1 ⟨rfl, hb1⟩; have hs1 := hb1.size)
    | (at_make; refine wpList_mkRows rfl _ _ rfl f.length rfl rfl (by omega) ?_; intro w2 hown2 hg2; have hb2 := hb1.grown hg2 hs1 (fun k hk => by cases hk)))
  have HFW := Lib.hid (HHF.out.below hb1 (Nat.le_refl _))
  have HB1 := Lib.hid hb1
  have hbz := (Below.refl w1.heap.size w1).grown hg2 (Nat.le_refl _) (fun k hk => by cases hk)
  clear hg2 hb2
  go_loopw [23] (fun i wr => ∃ (k : Nat) (us : List Value), k ≤ f.length ∧ i = .int .i64 k ∧ us.length = k ∧ OwnR wr w1.heap.size (.slice (some ⟨w1.heap.size, 0, none⟩) f.length f.length) (us ++ List.replicate (f.length - k) (.slice none 0 0)) ∧ RowsOwn wr w1.heap.size us (f.take k) ∧ Below w1.heap.size w1 wr) (fun i _ => f.length - (intOf i).toNat)
  case atStart => exact ⟨0, [], Nat.zero_le _, rfl, rfl, by simpa using hown2, RowsOwn.nil _ _, hbz⟩
  case round =>
    clear hown2 hbz
    obtain ⟨k, us, hk, rfl, hul, hown, hro, hbel⟩ := hrel
    have HUL := Lib.hid hul
    clear hul
    have hsz := hbel.size
    by_cases hlt : k < f.length
    · obtain ⟨b, off, u, rfl, hb, hu0, HU0⟩ := HFW.out.at hlt
      have hu := (hbel.cell (p := ⟨b, off + k, none⟩) hb).trans hu0
      have HU := HU0.below hbel (Nat.le_refl _)
      have HTK := Lib.hid (rows_take_succ hlt)
      have HMS := Lib.hid (fun (z y : Value) => mid_set (z := z) (y := y) HUL.out hlt)
      generalize f.getD k [] = l at *
      obtain ⟨a', c', rfl⟩ := HU.shape
      go_wp2_with fail
      refine (clone_any _ l wr HU).mono ?_
      rintro e w3 ⟨v3, rfl, hown3, hb3⟩
      obtain ⟨ar, cr, rfl⟩ := hown3.shapeL
      have hownr := hown.below hb3 (Nat.le_refl _)
      have hy := hownr.cell k (by simp [HUL.out]; omega)
      have hfz := hownr.frozen k
      have hst := hownr.store k (.slice ar l.length cr)
      have hro2 := ((hro.below hb3 (Nat.le_refl _)).append (RowsOwn.one (hown3.mono hsz))).setR (j := k) (x := .slice ar l.length cr) hownr
      rw [HMS.out] at hst
      have hbel2 := (hbel.trans (hb3.mono hsz)).setCell (p := ⟨w1.heap.size, k, none⟩) (Nat.le_refl _) (.slice ar l.length cr)
      go_wp2
      go_roundw
      case rel => exact ⟨k + 1, us ++ [.slice ar l.length cr], by omega, by go_num, by simp [HUL.out], hst, by rw [HTK.out]; exact hro2, hbel2⟩
      case measure => simp [intOf]; omega
    · have hke : f.length ≤ k := by omega
      have hown3 := hown
      have hro3 := hro
      rw [show f.length - k = 0 from by omega, List.replicate_zero, List.append_nil] at hown3
      rw [List.take_of_length_le hke] at hro3
      have RO : Hid (IsRows wr (.slice (some ⟨w1.heap.size, 0, none⟩) f.length f.length) f) := hown3.rows (hro3.are HMEM.out) (by omega)
      have hbw := HB1.out.trans (hbel.mono hs1)
      have HBW := Lib.hid hbw
      have HF0 : Hid (IsRows wr (.slice af f.length cf) f) := HHF.out.below hbw (Nat.le_refl _)
      have HA0 : Hid (IsInts wr (.slice aa a.length ca) a) := HHA.out.below hbw (Nat.le_refl _)
      clear hown hro hown3 hro3 HUL hk hbel hbw hsz hke
      generalize wr = wo at *
      have hun := under_any _ _ a f wo HA0.out RO.out
      have hru := fun (W : World) (h : Below wo.heap.size wo W) => runder_any _ _ a f W (HA0.out.below h (Nat.le_refl _)) (HF0.out.below h (Nat.le_refl _))
      have hcn := fun (W : World) (h : Below wo.heap.size wo W) => cnf_any _ _ a f W (HA0.out.below h (Nat.le_refl _)) (RO.out.below h (Nat.le_refl _))
      have hrc := fun (W : World) (h : Below wo.heap.size wo W) => rcnf_any _ _ a f W (HA0.out.below h (Nat.le_refl _)) (HF0.out.below h (Nat.le_refl _))
      have hrw : ∀ (W : World) (v : Value) (us : List Value) (B : Nat), OwnR W B v us → RowsO W B us (underL a f) → IsRows W v (underL a f) := fun W v us B h1 h2 => RowsPost.rows (w := W) h1 h2 HMEM.out hfl
      have hU200 : (underL a f).length ≤ 17592186044416 := Nat.le_trans (under_len a f) hfl
      generalize underL a f = U at *
      generalize cnfL a f = z at *
      have HUN := Lib.hid hun
      have HRU := Lib.hid hru
      have HCN := Lib.hid hcn
      have HRC := Lib.hid hrc
      have HRW := Lib.hid hrw
      clear hun hru hcn hrc hrw
      go_wp2_with (first
        | (go_at_call 22; refine HUN.out.mono ?_; rintro e w4 ⟨v4, us4, rfl, ho4, hr4, hb4⟩; have hs4 := hb4.size; have HI4 := HRW.out _ _ _ _ ho4 hr4; obtain ⟨A, cs, rfl⟩ := ho4.shape')
        | (go_at_call 24; refine (HRU.out w4 hb4).mono ?_; rintro e w5 ⟨v5, us5, rfl, ho5, hr5, hz5⟩; have hb5 := hb4.trans (hz5.mono hs4); have hs5 := hb5.size; have HI5 := HRW.out _ _ _ _ ho5 hr5; obtain ⟨A5, cs5, rfl⟩ := ho5.shape'; have HI45 := HI4.below hz5 (Nat.le_refl _); have ho45 := ho4.below hz5 (Nat.le_refl _); have hr45 : RowsOwn w5 wo.heap.size us4 U := RowsOwn.below hr4 hz5 (Nat.le_refl _))
        | (go_at_call 23; refine (sameallX HI45 HI5).mono ?_; rintro e w6 ⟨rfl, hz6⟩; have hb6 := hb5.trans (hz6.mono hs5); have hs6 := hb6.size; have ho6 := ho45.below hz6 (Nat.le_refl _); have hr6 := hr45.below hz6 (Nat.le_refl _))
        | (go_at_call 25; refine (HCN.out w6 hb6).mono ?_; rintro e w7 ⟨rfl, hz7⟩; have hb7 := hb6.trans (hz7.mono hs6); have hs7 := hb7.size; have ho7 := ho6.below hz7 (Nat.le_refl _); have hr7 := hr6.below hz7 (Nat.le_refl _))
        | (go_at_call 26; refine (HRC.out w7 hb7).mono ?_; rintro e w8 ⟨rfl, hq8⟩; have hb8 := hb7.trans (hq8.below _); have hs8 := hb8.size; have ho8 := ho7.quiet hq8; have hr8 := hr7.below (hq8.below w7.heap.size) (Nat.le_refl _)))
      have hrw8 := hr8.rowsW
      have husl : us4.length ≤ 17592186044416 := by have := hr8.1; omega
      clear ho4 hr4 HI4 ho5 hr5 HI5 HI45 ho45 hr45 ho6 hr6 ho7 hr7 hr8 hz5 hz6 hz7 hq8 hb4 hb5 hb6 hb7 hs4 hs5 hs6 hs7 hs8
      go_loopw [53] (fun i wr => ∃ k : Nat, k ≤ us4.length ∧ i = .int .i64 k ∧ OwnR wr wo.heap.size (.slice A us4.length cs) us4 ∧ RowsW wr wo.heap.size us4 ∧ Below wo.heap.size wo wr) (fun i _ => us4.length - (intOf i).toNat)
      case atStart => exact ⟨0, Nat.zero_le _, rfl, ho8, hrw8, hb8⟩
      case round =>
        clear ho8 hrw8 hb8
        obtain ⟨k2, hk2, rfl, hos, hrw, hb⟩ := hrel
        by_cases hlt2 : k2 < us4.length
        · obtain ⟨gs, cg, e, _, _⟩ := hos.at (by omega)
          injection e with e1 _ e3
          subst e1
          subst e3
          have hy := hos.cell k2 hlt2
          obtain ⟨xs, hx⟩ := hrw k2 hlt2
          generalize us4.getD k2 (.slice none 0 0) = u at *
          have hx2 : (u = .slice none 0 0) ∨ ∃ g c, u = .slice (some ⟨g, 0, none⟩) xs.length c ∧ wo.heap.size ≤ g ∧ xs.length ≤ 9223372036854775807 := by
            rcases hx.2 with ⟨e, _⟩ | ⟨g, c, cur, e, h1, _, h3, h4, _⟩
            · exact .inl e
            · unfold maxLen at h4; exact .inr ⟨g, c, e, h1, by omega⟩
          rcases hx2 with rfl | ⟨g, c, rfl, hg9, hxl⟩
          · generalize wr = wp at *
            go_wp2_with fail
            go_loopw [59] (fun i wr => i = .int .i64 0 ∧ OwnR wr wo.heap.size (.slice (some ⟨gs, 0, none⟩) us4.length cs) us4 ∧ RowsW wr wo.heap.size us4 ∧ Below wo.heap.size wo wr) (fun i _ => 0)
            case atStart => exact ⟨rfl, hos, hrw, hb⟩
            case round =>
              obtain ⟨rfl, hos2, hrw2, hb2⟩ := hrel
              go_wp2
              go_roundw
              case rel => exact ⟨k2 + 1, by omega, by go_num, hos2, hrw2, hb2⟩
              case measure => simp [intOf]; omega
          · generalize wr = wp at *
            go_wp2_with fail
            go_loopw [59] (fun i wr => ∃ (j : Nat) (ys : List Int), j ≤ xs.length ∧ i = .int .i64 j ∧ ys.length = xs.length ∧ Own wr wo.heap.size (.slice (some ⟨g, 0, none⟩) xs.length c) ys ∧ OwnR wr wo.heap.size (.slice (some ⟨gs, 0, none⟩) us4.length cs) us4 ∧ RowsW wr wo.heap.size us4 ∧ Below wo.heap.size wo wr) (fun i _ => xs.length - (intOf i).toNat)
            case atStart => exact ⟨0, xs, Nat.zero_le _, rfl, rfl, hx, hos, hrw, hb⟩
            case round =>
              obtain ⟨j, ys, hj, rfl, hyl, hown, hos2, hrw2, hb2⟩ := hrel
              have HYL := Lib.hid hyl
              clear hyl
              by_cases hjl : j < xs.length
              · have hc := hown.cell j (by rw [HYL.out]; exact hjl)
                have hfz := hown.frozen j
                have hst := hown.store j 0
                have hos3 := hos2.setInt (j := j) (x := .int .i64 0) hown
                have hrw3 := hrw2.set (j := j) (y := 0) hown
                have hb3 := hb2.setCell (p := ⟨g, j, none⟩) hg9 (.int .i64 0)
                go_wp2
                go_roundw
                case rel => exact ⟨j + 1, ys.set j 0, by omega, by go_num, by rw [List.length_set]; exact HYL.out, hst, hos3, hrw3, hb3⟩
                case measure => simp [intOf]; omega
              · go_wp2
                go_roundw
                case rel => exact ⟨k2 + 1, by omega, by go_num, hos2, hrw2, hb2⟩
                case measure => simp [intOf]; omega
        · have K3 := RO.out.below hb (Nat.le_refl _)
          have K4 := HF0.out.below hb (Nat.le_refl _)
          have hbelf := HBW.out.trans (hb.mono HBW.out.size)
          go_wp2_with (first
            | (go_at_call 23; refine (sameallX K3 K4).mono ?_; rintro e w13 ⟨rfl, hz13⟩; have hb13 := hbelf.trans (hz13.mono hbelf.size))
            | (go_at_call 12; refine (awakezX hb13 HS.out).mono ?_; rintro e w14 ⟨rfl, hz14⟩))
          go_ret
          exact ⟨rfl, hz14⟩

end Go.Proofs.YtkcbicakcjflkaaDoor
