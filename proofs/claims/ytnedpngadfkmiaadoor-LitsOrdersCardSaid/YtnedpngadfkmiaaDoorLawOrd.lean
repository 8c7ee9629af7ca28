/- LitsOrders: the walk. -/
import Derived.Test.YtnedpngadfkmiaaDoorPureOrd
import Derived.Test.YtnedpngadfkmiaaDoorContains
import Derived.Deep.DeepCutAuto
import Derived.IntWalk
import Derived.Deep.QuietTactic
import Derived.BigQuiet
namespace Go.Proofs.YtnedpngadfkmiaaDoor
open Go.RowKit
set_option linter.unusedVariables false

set_option maxHeartbeats 400000 in
set_option maxRecDepth 100000 in
theorem orders_big (a0 a1 a2 : Option Addr) (n0 c0 n1 c1 n2 c2 : Nat) (w : World) (hT : Pow w.heap.size w) (hS : SameAt w) (h : 200 < n0 ∨ 200 < n1 ∨ 200 < n2) (h0 : n0 ≤ 9223372036854775807) (h1 : n1 ≤ 9223372036854775807) (h2 : n2 ≤ 9223372036854775807) :
    Calls Tryd.prog 9 #[.slice a0 n0 c0, .slice a1 n1 c1, .slice a2 n2 c2] w (fun e w' => e = .returned (.bool true) ∧ Below w.heap.size w w') := by
  have HT := Lib.hid hT
  have HS := Lib.hid hS
  clear hT hS
  by_cases hn : 200 < n0
  · go_enter Tryd.func9, Tryd.ntmps9
    go_wp2_with (go_at_call 19; refine (awakeX (Below.refl _ w) HT.out HS.out).mono ?_; rintro e w1 ⟨rfl, hb1⟩)
    go_ret
    exact ⟨rfl, hb1⟩
  · by_cases hn1 : 200 < n1
    · go_enter Tryd.func9, Tryd.ntmps9
      go_wp2_with (go_at_call 19; refine (awakeX (Below.refl _ w) HT.out HS.out).mono ?_; rintro e w1 ⟨rfl, hb1⟩)
      go_ret
      exact ⟨rfl, hb1⟩
    · have hn2 : 200 < n2 := by omega
      go_enter Tryd.func9, Tryd.ntmps9
      go_wp2_with (go_at_call 19; refine (awakeX (Below.refl _ w) HT.out HS.out).mono ?_; rintro e w1 ⟨rfl, hb1⟩)
      go_ret
      exact ⟨rfl, hb1⟩

/-- The worlds that lie over one. -/
structure GW (w0 : World) where
  W : World
  h : Below w0.heap.size w0 W
instance (w0 : World) : Nonempty (GW w0) := ⟨⟨w0, Below.refl _ _⟩⟩
theorem gw_call {P : Program} {f : FuncId} {args : Array Value} {w0 : World} {n : GW w0} {v : Value}
    (h : Calls P f args n.W fun e w' => e = .returned v ∧ Below w0.heap.size w0 w') : Calls P f args n.W fun e w'' => e = .returned v ∧ ∃ m : GW w0, w'' = m.W :=
  h.mono fun _ w' ⟨he, hb⟩ => ⟨he, ⟨w', hb⟩, rfl⟩
/-- A region that draws its order, whose operations read, and whose callees leave what was there: one walk in the order of the text. -/
theorem wp_region_gw {P : Program} {w0 : World} {id : Nat} {Q : Exit → Act → World → Prop} {a : Act} {w : World} {l : List Oper} (hw : Below w0.heap.size w0 w) (hm : P.follows .mixedOrders = true) (hB : Region.lexB .any l.toArray = true)
    (h : wpQuiet P l.toArray (fun w' => ∃ n : GW w0, w' = n.W) (fun a' => ∀ w', (∃ n : GW w0, w' = n.W) → Q .normal a' w') l a) : (Code.region id l.toArray true).wp P Q a w :=
  wp_region_quiet (C := fun w' => ∃ n : GW w0, w' = n.W) hm hB ⟨⟨_, hw.trans (Quiet.below ⟨1, rfl⟩ _)⟩, rfl⟩ (by simpa using h)

set_option maxHeartbeats 4000000 in
set_option maxRecDepth 100000 in
theorem orders_small (va vb vc : Value) (l m s : List Int) (w : World) (hT : Pow w.heap.size w) (hS : SameAt w) (H : IsInts w va l) (K : IsInts w vb m) (J : IsInts w vc s) (hl : l.length ≤ 200) (hm : m.length ≤ 200) (hs : s.length ≤ 200) :
    Calls Tryd.prog 9 #[va, vb, vc] w (fun e w' => e = .returned (.bool true) ∧ Below w.heap.size w w') := by
  have hlt := hS.lt
  have HT := Lib.hid hT
  have HS := Lib.hid hS
  clear hT hS
  obtain ⟨o1, o2, o3, o4, o5⟩ := ord_cases l m s
  obtain ⟨a0, c0, rfl⟩ := H.shape
  obtain ⟨a1, c1, rfl⟩ := K.shape
  obtain ⟨a2, c2, rfl⟩ := J.shape
  have hcab : ∀ W, Below w.heap.size w W → Calls Tryd.prog 42 #[.slice a0 l.length c0, .slice a1 m.length c1] W (fun e w' => e = .returned (.int .i64 (cmpB l m)) ∧ Below w.heap.size w w') := fun W hW => (compare_any _ _ l m W (H.below hW (Nat.le_refl _)) (K.below hW (Nat.le_refl _))).mono fun e w' h => ⟨h.1, hW.trans (h.2.below.mono hW.size)⟩
  have hcbc : ∀ W, Below w.heap.size w W → Calls Tryd.prog 42 #[.slice a1 m.length c1, .slice a2 s.length c2] W (fun e w' => e = .returned (.int .i64 (cmpB m s)) ∧ Below w.heap.size w w') := fun W hW => (compare_any _ _ m s W (K.below hW (Nat.le_refl _)) (J.below hW (Nat.le_refl _))).mono fun e w' h => ⟨h.1, hW.trans (h.2.below.mono hW.size)⟩
  have hcac : ∀ W, Below w.heap.size w W → Calls Tryd.prog 42 #[.slice a0 l.length c0, .slice a2 s.length c2] W (fun e w' => e = .returned (.int .i64 (cmpB l s)) ∧ Below w.heap.size w w') := fun W hW => (compare_any _ _ l s W (H.below hW (Nat.le_refl _)) (J.below hW (Nat.le_refl _))).mono fun e w' h => ⟨h.1, hW.trans (h.2.below.mono hW.size)⟩
  have hcba : ∀ W, Below w.heap.size w W → Calls Tryd.prog 42 #[.slice a1 m.length c1, .slice a0 l.length c0] W (fun e w' => e = .returned (.int .i64 (cmpB m l)) ∧ Below w.heap.size w w') := fun W hW => (compare_any _ _ m l W (K.below hW (Nat.le_refl _)) (H.below hW (Nat.le_refl _))).mono fun e w' h => ⟨h.1, hW.trans (h.2.below.mono hW.size)⟩
  have hsame : ∀ W, Below w.heap.size w W → Calls Tryd.prog 107 #[.slice a0 l.length c0, .slice a1 m.length c1] W (fun e w' => e = .returned (.bool (sameB l m)) ∧ Below w.heap.size w w') := fun W hW => (same_any _ _ l m W (H.below hW (Nat.le_refl _)) (K.below hW (Nat.le_refl _))).mono fun e w' h => ⟨h.1, hW.trans (h.2.below _)⟩
  rw [o1] at hcba
  have x1 : -1 ≤ cmpB l m ∧ cmpB l m ≤ 1 := by rw [cmpB_eq]; exact cmpL_bd l m
  have y1 : -1 ≤ cmpB m s ∧ cmpB m s ≤ 1 := by rw [cmpB_eq]; exact cmpL_bd m s
  have z1 : -1 ≤ cmpB l s ∧ cmpB l s ≤ 1 := by rw [cmpB_eq]; exact cmpL_bd l s
  generalize cmpB l m = x at *
  generalize cmpB m s = y at *
  generalize cmpB l s = z at *
  generalize sameB l m = sb at *
  have HAB := Lib.hid hcab
  have HBC := Lib.hid hcbc
  have HAC := Lib.hid hcac
  have HBA := Lib.hid hcba
  have HSM := Lib.hid hsame
  clear hcab hcbc hcac hcba hsame o1
  have O2 := Lib.hid o2
  have O3 := Lib.hid o3
  have O4 := Lib.hid o4
  have O5 := Lib.hid o5
  clear o2 o3 o4 o5
  go_enter Tryd.func9, Tryd.ntmps9
  go_wp2_with fail
  refine (HAB.out w (Below.refl _ _)).mono ?_
  rintro e w1 ⟨rfl, hb1⟩
  go_wp2_with fail
  refine (HBC.out w1 hb1).mono ?_
  rintro e w2 ⟨rfl, hb2⟩
  go_wp2_with fail
  refine (HAC.out w2 hb2).mono ?_
  rintro e w3 ⟨rfl, hb3⟩
  clear hb1 hb2
  go_upto_region 4 with fail
  go_cut [76] (fun t wx => t = .bool false ∧ Below w.heap.size w wx)
  case first =>
    have hg3 : w3.cell? ⟨0, 0, none⟩ = _ := SameAt.below HS.out hb3 hlt
    have h4 : 0 < x ∨ (x < 0 ∧ 0 < y) ∨ ((x ≤ 0 ∧ 0 ≤ x) ∧ 0 < y) ∨ (x < 0 ∧ y ≤ 0) ∨ ((x ≤ 0 ∧ 0 ≤ x) ∧ y ≤ 0) := by omega
    rcases h4 with h4 | ⟨h4, h5⟩ | ⟨⟨h4, h6⟩, h5⟩ | ⟨h4, h5⟩ | ⟨⟨h4, h6⟩, h5⟩
    · have e0 : (x == 0) = false := by rw [beq_eq_false_iff_ne]; omega
      obtain rfl : sb = false := O3.out (by omega)
      go_wp2_with (first
        | (go_at_call 42; refine (HBA.out w3 hb3).mono ?_; rintro e w4 ⟨rfl, hb4⟩; have hg4 : w4.cell? ⟨0, 0, none⟩ = _ := SameAt.below HS.out hb4 hlt)
        | (go_at_call 107; refine (HSM.out w4 hb4).mono ?_; rintro e w5 ⟨rfl, hb5⟩))
      go_meet
      exact ⟨(by first | rfl | (simp; omega)), hb5⟩
    · have e0 : (x == 0) = false := by rw [beq_eq_false_iff_ne]; omega
      obtain rfl : sb = false := O3.out (by omega)
      go_wp2_with (first
        | (go_at_call 42; refine (HBA.out w3 hb3).mono ?_; rintro e w4 ⟨rfl, hb4⟩; have hg4 : w4.cell? ⟨0, 0, none⟩ = _ := SameAt.below HS.out hb4 hlt)
        | (go_at_call 107; refine (HSM.out w4 hb4).mono ?_; rintro e w5 ⟨rfl, hb5⟩))
      go_meet
      exact ⟨(by first | rfl | (simp; omega)), hb5⟩
    · have e0 : (x == 0) = true := by rw [beq_iff_eq]; omega
      obtain rfl : sb = true := O2.out (by omega)
      go_wp2_with (first
        | (go_at_call 42; refine (HBA.out w3 hb3).mono ?_; rintro e w4 ⟨rfl, hb4⟩; have hg4 : w4.cell? ⟨0, 0, none⟩ = _ := SameAt.below HS.out hb4 hlt)
        | (go_at_call 107; refine (HSM.out w4 hb4).mono ?_; rintro e w5 ⟨rfl, hb5⟩))
      go_meet
      exact ⟨(by first | rfl | (simp; omega)), hb5⟩
    · have e0 : (x == 0) = false := by rw [beq_eq_false_iff_ne]; omega
      obtain rfl : sb = false := O3.out (by omega)
      have hz := O5.out h4 h5
      go_wp2_with (first
        | (go_at_call 42; refine (HBA.out w3 hb3).mono ?_; rintro e w4 ⟨rfl, hb4⟩; have hg4 : w4.cell? ⟨0, 0, none⟩ = _ := SameAt.below HS.out hb4 hlt)
        | (go_at_call 107; refine (HSM.out w4 hb4).mono ?_; rintro e w5 ⟨rfl, hb5⟩))
      go_meet
      exact ⟨(by first | rfl | (simp; omega)), hb5⟩
    · have e0 : (x == 0) = true := by rw [beq_iff_eq]; omega
      obtain rfl : sb = true := O2.out (by omega)
      have hz := O4.out h4 h5
      go_wp2_with (first
        | (go_at_call 42; refine (HBA.out w3 hb3).mono ?_; rintro e w4 ⟨rfl, hb4⟩; have hg4 : w4.cell? ⟨0, 0, none⟩ = _ := SameAt.below HS.out hb4 hlt)
        | (go_at_call 107; refine (HSM.out w4 hb4).mono ?_; rintro e w5 ⟨rfl, hb5⟩))
      go_meet
      exact ⟨(by first | rfl | (simp; omega)), hb5⟩
  case rest =>
    obtain ⟨rfl, hcut⟩ := hcut
    clear HAB HBC HAC HBA HSM O2 O3 O4 O5 hb3 x1 y1 z1
    have hsc := hcut.size
    have Hc := H.below hcut (Nat.le_refl _)
    have Kc := K.below hcut (Nat.le_refl _)
    have Jc := J.below hcut (Nat.le_refl _)
    have R6 : IsRows (wc.alloc (.cells #[.slice a0 l.length c0, .slice a1 m.length c1, .slice a2 s.length c2, .slice a0 l.length c0] 22)) (.slice (some ⟨wc.heap.size, 0, none⟩) 4 4) [l, m, s, l] := by
      have hb6 := (Below.refl wc.heap.size wc).alloc (Nat.le_refl _) (.cells #[.slice a0 l.length c0, .slice a1 m.length c1, .slice a2 s.length c2, .slice a0 l.length c0] 22)
      refine ⟨_, 4, rfl, ⟨Nat.le_refl 4, fun e => by cases e⟩, by omega, show 4 ≤ 17592186044416 by omega, wc.heap.size, 0, fun _ => ⟨rfl, by simp⟩, fun j hj => ?_⟩
      have hj' : j < 4 := hj
      have : j = 0 ∨ j = 1 ∨ j = 2 ∨ j = 3 := by omega
      rcases this with rfl | rfl | rfl | rfl
      · exact ⟨_, by simp, Hc.below hb6 (Nat.le_refl _)⟩
      · exact ⟨_, by simp, Kc.below hb6 (Nat.le_refl _)⟩
      · exact ⟨_, by simp, Jc.below hb6 (Nat.le_refl _)⟩
      · exact ⟨_, by simp, Hc.below hb6 (Nat.le_refl _)⟩
    have hbel6 : Below w.heap.size w (wc.alloc (.cells #[.slice a0 l.length c0, .slice a1 m.length c1, .slice a2 s.length c2, .slice a0 l.length c0] 22)) := hcut.alloc hsc _
    have hFm : ∀ x ∈ [l, m, s, l], x = l ∨ x = m ∨ x = s := by
      intro x hx
      simp only [List.mem_cons, List.not_mem_nil, or_false] at hx
      rcases hx with h | h | h | h
      · exact .inl h
      · exact .inr (.inl h)
      · exact .inr (.inr h)
      · exact .inl h
    have hF2 : ∀ x ∈ [l, m, s, l], x.length ≤ 200 ∧ In64 x := by
      intro x hx
      rcases hFm x hx with rfl | rfl | rfl
      · exact ⟨hl, H.in64⟩
      · exact ⟨hm, K.in64⟩
      · exact ⟨hs, J.in64⟩
    obtain ⟨F, hF⟩ : ∃ F, F = [l, m, s, l] := ⟨_, rfl⟩
    have hFl : F.length = 4 := by rw [hF]; rfl
    rw [← hF] at R6 hFm hF2
    have HFM := Lib.hid hFm
    have HF2 := Lib.hid hF2
    have HFL := Lib.hid hFl
    have hmf : ∀ (fn : Fn) (first cap : Array Value) (w : World), (Instr.makeFunc fn first cap).run Tryd.prog w = .ok (.func fn first cap) w := fun _ _ _ _ => rfl
    clear hF hFm hF2 hFl Hc Kc Jc
    have hbd : ∀ x ∈ sortL F, x.length ≤ 17592186044416 ∧ In64 x := sortL_bd (fun x hx => ⟨by have := (HF2.out x hx).1; omega, (HF2.out x hx).2⟩)
    have HBD := Lib.hid hbd
    clear hbd
    go_wp2_with fail
    refine (sort_any _ F _ R6).mono ?_
    rintro e w7 ⟨vs, us, rfl, hos, hrs, hb67⟩
    have R7 := R6.below hb67 (Nat.le_refl _)
    have hb7 := hbel6.trans (hb67.mono hbel6.size)
    obtain ⟨A, cs, rfl⟩ := hos.sliceOf
    have hul := hrs.1
    have husl : us.length ≤ 4 := by have := sortL_len F; have := HFL.out; omega
    generalize (wc.alloc (.cells #[.slice a0 l.length c0, .slice a1 m.length c1, .slice a2 s.length c2, .slice a0 l.length c0] 22)).heap.size = B at *
    clear R6 hbel6 hcut hb67
    by_cases hmc : mayCnfB F = true
    · have HS2 := Lib.hid (sortL_again hmc (by rw [HFL.out]; omega) (fun x hx => (HF2.out x hx).1))
      have HSM := Lib.hid (sortL_mem hmc)
      have HST := Lib.hid (fun j => sortL_step (F := F) (j := j))
      have HLM := Lib.hid (fun k => rows_getD_mem (f := F) (k := k))
      have HUL := Lib.hid hul
      clear hul
      go_wp2_with (go_at_call 46; refine (rmaycnf_any _ F w7 R7).mono ?_; rintro e w8 ⟨rfl, hq8⟩)
      have hb8 := hb7.trans (hq8.below _)
      have hs8 := hb8.size
      have R8 := R7.quiet hq8
      have hos8 := hos.quiet hq8
      have hrs8 := hrs.below (hq8.below w7.heap.size) (Nat.le_refl _)
      have H8 := H.below hb8 (Nat.le_refl _)
      have K8 := K.below hb8 (Nat.le_refl _)
      have J8 := J.below hb8 (Nat.le_refl _)
      have HS8 : SameAt w8 := HS.out.below hb8 hlt
      have hlt8 := HS8.lt
      have HSA := Lib.hid HS8
      have RS8 : IsRows w8 (.slice A us.length cs) (sortL F) := hos8.rows (hrs8.are HBD.out) (by have := sortL_len F; have := HFL.out; omega)
      clear HS8 hos hrs hq8 hb7 R7
      go_loopw [95] (fun i wr => ∃ k : Nat, k ≤ us.length ∧ i = .int .i64 k ∧ Below w8.heap.size w8 wr) (fun i _ => us.length - (intOf i).toNat)
      case atStart => exact ⟨0, Nat.zero_le _, rfl, Below.refl _ _⟩
      case round =>
        obtain ⟨k, hk, rfl, hb⟩ := hrel
        have hsz := hb.size
        have hosr := hos8.below hb (Nat.le_refl _)
        by_cases hkl : k < us.length
        · obtain ⟨gs, rfl⟩ := hos8.someOf hkl
          have hy := hosr.cell k hkl
          have hkS : k < (sortL F).length := by rw [← HUL.out]; exact hkl
          have hxb := HBD.out _ (rows_getD_mem hkS)
          have HX := (hrs8.2 k hkS).ints hxb.1 hxb.2
          have hxm := HFM.out _ ((HSM.out _).1 (rows_getD_mem hkS))
          have hgr : wr.cell? ⟨0, 0, none⟩ = _ := SameAt.below HSA.out hb hlt8
          have hsl : ∀ W, Below w8.heap.size w8 W → Calls Tryd.prog 107 #[us.getD k (.slice none 0 0), .slice a0 l.length c0] W (fun e w' => e = .returned (.bool (sameB ((sortL F).getD k []) l)) ∧ Quiet W w') := fun W hW => same_any _ _ _ l W (HX.below hW (Nat.le_refl _)) (H8.below hW (Nat.le_refl _))
          have hsm : ∀ W, Below w8.heap.size w8 W → Calls Tryd.prog 107 #[us.getD k (.slice none 0 0), .slice a1 m.length c1] W (fun e w' => e = .returned (.bool (sameB ((sortL F).getD k []) m)) ∧ Quiet W w') := fun W hW => same_any _ _ _ m W (HX.below hW (Nat.le_refl _)) (K8.below hW (Nat.le_refl _))
          have hss : ∀ W, Below w8.heap.size w8 W → Calls Tryd.prog 107 #[us.getD k (.slice none 0 0), .slice a2 s.length c2] W (fun e w' => e = .returned (.bool (sameB ((sortL F).getD k []) s)) ∧ Quiet W w') := fun W hW => same_any _ _ _ s W (HX.below hW (Nat.le_refl _)) (J8.below hW (Nat.le_refl _))
          have h3 : (sameB ((sortL F).getD k []) l = true) ∨ (sameB ((sortL F).getD k []) l = false ∧ sameB ((sortL F).getD k []) m = true) ∨ (sameB ((sortL F).getD k []) l = false ∧ sameB ((sortL F).getD k []) m = false ∧ sameB ((sortL F).getD k []) s = true) := by
            cases e1 : sameB ((sortL F).getD k []) l
            · cases e2 : sameB ((sortL F).getD k []) m
              · refine .inr (.inr ⟨rfl, rfl, ?_⟩)
                unfold sameB at *
                rw [decide_eq_false_iff_not] at e1 e2
                rw [decide_eq_true_eq]
                rcases hxm with h | h | h
                · exact absurd h e1
                · exact absurd h e2
                · exact h
              · exact .inr (.inl ⟨rfl, rfl⟩)
            · exact .inl rfl
          obtain ⟨ua, uc, hsh⟩ := HX.shape
          generalize sameB ((sortL F).getD k []) l = t1 at *
          generalize sameB ((sortL F).getD k []) m = t2 at *
          generalize sameB ((sortL F).getD k []) s = t3 at *
          cases k with
          | zero =>
            generalize us.getD 0 (.slice none 0 0) = u at *
            generalize (sortL F).getD 0 [] = x at *
            subst hsh
            have HSL := Lib.hid hsl
            have HSMm := Lib.hid hsm
            have HSS := Lib.hid hss
            clear hsl hsm hss hxm hxb
            rcases h3 with rfl | ⟨rfl, rfl⟩ | ⟨rfl, rfl, rfl⟩
            all_goals
              go_wp2_with fail
              go_quiet ((first
                | (go_at_call_of 107 (Value.slice a0 l.length c0); exact quiet_q (HSL.out _ (hb.trans (Quiet.below ⟨_, rfl⟩ _))))
                | (go_at_call_of 107 (Value.slice a1 m.length c1); exact quiet_q (HSMm.out _ (hb.trans (Quiet.below ⟨_, rfl⟩ _))))
                | (go_at_call_of 107 (Value.slice a2 s.length c2); exact quiet_q (HSS.out _ (hb.trans (Quiet.below ⟨_, rfl⟩ _))))))
              go_wp2
              go_roundw
              case rel => exact ⟨1, by omega, by go_num, hb.trans (Quiet.below ⟨_, rfl⟩ _)⟩
              case measure => simp [intOf]; omega
          | succ j =>
            have hjl : j < us.length := by omega
            have hyj := hosr.cell j hjl
            have hjS : j < (sortL F).length := by rw [← HUL.out]; exact hjl
            have hxjb := HBD.out _ (rows_getD_mem hjS)
            have HXj := (hrs8.2 j hjS).ints hxjb.1 hxjb.2
            have hcm : ∀ W, Below w8.heap.size w8 W → Calls Tryd.prog 42 #[us.getD j (.slice none 0 0), us.getD (j + 1) (.slice none 0 0)] W (fun e w' => e = .returned (.int .i64 (cmpB ((sortL F).getD j []) ((sortL F).getD (j + 1) []))) ∧ Below w8.heap.size w8 w') := fun W hW => (compare_any _ _ _ _ W (HXj.below hW (Nat.le_refl _)) (HX.below hW (Nat.le_refl _))).mono fun e w' h => ⟨h.1, hW.trans (h.2.below.mono hW.size)⟩
            have hcneg : cmpB ((sortL F).getD j []) ((sortL F).getD (j + 1) []) = -1 := by
              have h1 := HST.out j hkS
              rw [cmpB_eq] at h1 ⊢
              have h2 := cmpL_bd ((sortL F).getD j []) ((sortL F).getD (j + 1) [])
              omega
            rw [hcneg] at hcm
            clear hcneg
            have hcj : ∀ W, Below w8.heap.size w8 W → W.cell? ⟨gs, j, none⟩ = some (us.getD j (.slice none 0 0)) := fun W hW => (hos8.below hW (Nat.le_refl _)).cell j hjl
            have hck : ∀ W, Below w8.heap.size w8 W → W.cell? ⟨gs, j + 1, none⟩ = some (us.getD (j + 1) (.slice none 0 0)) := fun W hW => (hos8.below hW (Nat.le_refl _)).cell (j + 1) hkl
            have hj0 : (0 : Int) < (j : Int) + 1 := by omega
            obtain ⟨ja, jc, hshj⟩ := HXj.shape
            generalize us.getD j (.slice none 0 0) = uj at *
            generalize us.getD (j + 1) (.slice none 0 0) = u at *
            generalize (sortL F).getD j [] = xj at *
            generalize (sortL F).getD (j + 1) [] = x at *
            subst hsh
            subst hshj
            have HSL := Lib.hid hsl
            have HSMm := Lib.hid hsm
            have HSS := Lib.hid hss
            have HCM := Lib.hid hcm
            have HCJ := Lib.hid hcj
            have HCK := Lib.hid hck
            clear hsl hsm hss hxm hxb hcm hcj hck hxjb
            have hi1 : (j : Int) + 1 < (us.length : Int) := by omega
            have hi2 : (j : Int) < (us.length : Int) := by omega
            have hi3 : (0 : Int) ≤ (j : Int) + 1 := by omega
            have hw1 : IntKind.i64.wrap ((j : Int) + 1 - 1) = (j : Int) := by rw [IntWalk.i64_in _ (by omega)]; omega
            have hw2 : IntKind.i64.wrap (j : Int) = (j : Int) := IntWalk.i64_in _ (by omega)
            have hw3 : ((j : Int) + 1).toNat = j + 1 := by omega
            have hgj : ∀ n : GW w8, n.W.cell? ⟨gs, j, none⟩ = some (.slice ja xj.length jc) := fun n => HCJ.out n.W n.h
            have hgk : ∀ n : GW w8, n.W.cell? ⟨gs, j + 1, none⟩ = some (.slice ua x.length uc) := fun n => HCK.out n.W n.h
            have hgs : ∀ n : GW w8, n.W.cell? ⟨0, 0, none⟩ = some (.func (.func 107) #[] #[]) := fun n => SameAt.below HSA.out n.h hlt8
            clear hgr hy hyj
            rcases h3 with rfl | ⟨rfl, rfl⟩ | ⟨rfl, rfl, rfl⟩
            all_goals
              go_wp2_with fail
              refine wp_region_gw hb (by kernel_rfl) (by kernel_rfl) ?_
              repeat (go_big_quiet_step ((first
                | (go_at_call 42; exact gw_call (HCM.out _ (GW.h _)))
                | (go_at_call_of 107 (Value.slice a0 l.length c0); exact gw_call ((HSL.out _ (GW.h _)).mono fun e w' h => ⟨h.1, (GW.h _).trans (h.2.below _)⟩))
                | (go_at_call_of 107 (Value.slice a1 m.length c1); exact gw_call ((HSMm.out _ (GW.h _)).mono fun e w' h => ⟨h.1, (GW.h _).trans (h.2.below _)⟩))
                | (go_at_call_of 107 (Value.slice a2 s.length c2); exact gw_call ((HSS.out _ (GW.h _)).mono fun e w' h => ⟨h.1, (GW.h _).trans (h.2.below _)⟩)))))
              refine wpQuiet_nil ?_
              intro _ hw'
              obtain ⟨gn, hw''⟩ := hw'
              subst hw''
              have hgn := gn.h
              generalize gn.W = wq at *
              clear hgj hgk hgs hw1 hw2 hw3
              go_wp2
              go_roundw
              case rel => exact ⟨j + 1 + 1, by omega, by go_num, hgn⟩
              case measure => simp [intOf]; omega
        · clear hosr
          generalize wr = wo at *
          go_wp2_with fail
          go_loopw [146] (fun i wr => ∃ k : Nat, k ≤ 4 ∧ i = .int .i64 k ∧ Below w8.heap.size w8 wr) (fun i _ => 4 - (intOf i).toNat)
          case atStart => exact ⟨0, Nat.zero_le _, rfl, hb⟩
          case round =>
            clear hb hsz
            obtain ⟨k, hk, rfl, hb⟩ := hrel
            have hsz := hb.size
            by_cases hkl : k < 4
            · have hkF : k < F.length := by rw [HFL.out]; exact hkl
              obtain ⟨b, off, u, he, hbb, hu0, HU0⟩ := R8.at hkF
              injection he with he
              injection he with he1 he2
              subst he1; subst he2
              rw [Nat.zero_add] at hu0
              have hu := (hb.cell (p := ⟨wc.heap.size, k, none⟩) hbb).trans hu0
              have HMY := Lib.hid ((HSM.out _).2 (HLM.out k hkF))
              generalize F.getD k [] = y at *
              obtain ⟨ua, uc, rfl⟩ := HU0.shape
              have hW9 : Below w8.heap.size w8 (wr.alloc (.cells #[.slice ua y.length uc] 22)) := hb.alloc hsz _
              have hcont := containsf_any (fun x => sameB x y) 59 #[.pointer (some ⟨wr.heap.size, 0, none⟩)] _ (sortL F) (wr.alloc (.cells #[.slice ua y.length uc] 22)) ordc_enters (ordc_tells (.slice ua y.length uc) y wr.heap.size _ (SameAt.below HSA.out hW9 hlt8) (by simp) (HU0.below hW9 (Nat.le_refl _))) (RS8.below hW9 (Nat.le_refl _))
              have HCT := Lib.hid hcont
              clear hcont
              go_wp2_with fail
              refine HCT.out.mono ?_
              rintro e w9 ⟨c, rfl, hq9, hc9⟩
              obtain rfl : c = true := hc9.2 ⟨y, HMY.out, by unfold sameB; simp⟩
              go_wp2
              go_roundw
              case rel => exact ⟨k + 1, by omega, by go_num, hW9.trans (hq9.below _)⟩
              case measure => simp [intOf]; omega
            · have RSr := RS8.below hb (Nat.le_refl _)
              have hbf := hb8.trans (hb.mono hs8)
              have hsb : sameB (sortL F) (sortL F) = true := by unfold sameB; simp
              have hslen : (sortL F).length ≤ 17592186044416 := by have := sortL_len F; have := HFL.out; omega
              go_wp2_with (first
                | (go_at_call 49; refine (sort_any _ _ wr RSr).mono ?_; rw [HS2.out]; rintro e w10 ⟨vs2, us2, rfl, hos2, hrs2, hb10⟩; have hs10 := hb10.size; have RR := hos2.rows (hrs2.are HBD.out) hslen; have RSr2 := RSr.below hb10 (Nat.le_refl _))
                | (go_at_call 50; refine (sameall_any _ _ _ _ w10 RR RSr2).mono ?_; rintro e w11 ⟨rfl, hq11⟩)
                | (go_at_call 19; refine (awakeX ((hbf.trans (hb10.mono hbf.size)).trans (hq11.below _)) HT.out HS.out).mono ?_; rintro e w12 ⟨rfl, hz12⟩))
              go_ret
              exact ⟨rfl, hz12⟩
    · have hmc' : mayCnfB F = false := by simpa using hmc
      have h0 : sortL F = [] := by unfold sortL; rw [if_neg hmc]
      obtain rfl : us = [] := List.eq_nil_of_length_eq_zero (by rw [hul, h0]; rfl)
      clear hmc h0 hul hrs
      go_wp2_with (first
        | (go_at_call 46; refine (rmaycnf_any _ F w7 R7).mono ?_; rintro e w8 ⟨rfl, hq8⟩)
        | (go_at_call 19; refine (awakeX (hb7.trans (hq8.below _)) HT.out HS.out).mono ?_; rintro e w12 ⟨rfl, hz12⟩))
      go_ret
      exact ⟨rfl, hz12⟩

end Go.Proofs.YtnedpngadfkmiaaDoor
