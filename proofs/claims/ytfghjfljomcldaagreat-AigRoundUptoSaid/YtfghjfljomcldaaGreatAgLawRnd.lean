/- The law AigRound, walked. -/
import Derived.Test.YtfghjfljomcldaaGreatAgRoundP
import Derived.Test.YtfghjfljomcldaaGreatAgWorks
import Derived.Test.YtfghjfljomcldaaGreatAgR5
namespace Go.Proofs.YtfghjfljomcldaaGreat
open Go.RowKit Go.Maps
set_option linter.unusedVariables false
set_option linter.unusedSimpArgs false

theorem sameA_rr (I : List Int) (A : List Pr) : sameA I A I A = true := by unfold sameA; simp [sameB]
theorem litsN_take {gs : List Gt} {k : Nat} (h : k < gs.length) : litsN (gs.take (k + 1)) = litsN (gs.take k) + (gs.getD k dG).2.2.length := by
  unfold litsN
  rw [List.take_succ_eq_append_getElem h, List.map_append, List.sum_append]
  simp [List.getD, h]
theorem litsN_le (gs : List Gt) (k : Nat) : litsN (gs.take k) ≤ litsN gs := by
  have h : litsN gs = litsN (gs.take k) + litsN (gs.drop k) := by
    unfold litsN
    rw [← List.sum_append, ← List.map_append, List.take_append_drop]
  omega
theorem box3_new (w : World) (vp vg vo : Value) : ∀ X, Below (w.heap.size + 1) (w.alloc (.cells #[vp, vg, vo] 98)) X → X.cell? ⟨w.heap.size, 0, none⟩ = some vp ∧ X.cell? ⟨w.heap.size, 1, none⟩ = some vg ∧ X.cell? ⟨w.heap.size, 2, none⟩ = some vo := fun Y hY => by
  have h := (hY.block w.heap.size (by omega)).trans (World.alloc_heap_new _ _)
  refine ⟨?_, ?_, ?_⟩ <;> simp [World.cell?, h]

set_option maxRecDepth 100000 in
set_option maxHeartbeats 6400000 in
theorem aiground_any (vp vg vl : Value) (o : Int) (P : List Blk) (gs : List Gt) (a : List Int) (w : World) (HP : IsBlocks w vp P) (HG : IsGates w vg gs) (HL : IsInts w vl a) (hp : P.length ≤ 4000000) (hg : gs.length < 1000000) (hs : litsN gs ≤ 4000000) (hl : a.length ≤ 3000000) (ho1 : -9223372036854775808 ≤ o) (ho2 : o ≤ 9223372036854775807) :
    Calls Tryz.prog 10 #[.agg #[vp, vg, .int .i64 o], vl] w fun e w' => e = .returned (.bool true) ∧ Below w.heap.size w w' := by
  obtain ⟨pa, pc, rfl, _⟩ := HP.shape
  obtain ⟨ga, gc, rfl, _⟩ := HG.shape
  obtain ⟨la, lc, rfl⟩ := HL.shape
  have hb0 := below_alloc1 w (.cells #[.slice pa P.length pc, .slice ga gs.length gc, .int .i64 o] 98)
  have hbx := box3_new w (.slice pa P.length pc) (.slice ga gs.length gc) (.int .i64 o)
  obtain ⟨W0, hW0⟩ : ∃ W0, w.alloc (.cells #[.slice pa P.length pc, .slice ga gs.length gc, .int .i64 o] 98) = W0 := ⟨_, rfl⟩
  have hz0 : W0.heap.size = w.heap.size + 1 := by rw [← hW0, World.size_alloc]
  rw [hW0] at hb0 hbx
  have HXC : Hid (∀ X, Below W0.heap.size W0 X → X.cell? ⟨w.heap.size, 0, none⟩ = some (.slice pa P.length pc) ∧ X.cell? ⟨w.heap.size, 1, none⟩ = some (.slice ga gs.length gc) ∧ X.cell? ⟨w.heap.size, 2, none⟩ = some (.int .i64 o)) := fun X hX => hbx X (hX.mono (by omega))
  have HW0 : Hid (w.alloc (.cells #[.slice pa P.length pc, .slice ga gs.length gc, .int .i64 o] 98) = W0) := hW0
  have HB0 := Lib.hid hb0
  have HUP : Hid (∀ X, Below W0.heap.size W0 X → IsBlocks X (.slice pa P.length pc) P ∧ IsGates X (.slice ga gs.length gc) gs ∧ IsInts X (.slice la a.length lc) a) := fun X hX => ⟨(HP.below hb0 (Nat.le_refl _)).below hX (Nat.le_refl _), (HG.below hb0 (Nat.le_refl _)).below hX (Nat.le_refl _), (HL.below hb0 (Nat.le_refl _)).below hX (Nat.le_refl _)⟩
  have HMY : Hid (∀ X, Below W0.heap.size W0 X → Calls Tryz.prog 53 #[.agg #[.slice pa P.length pc, .slice ga gs.length gc, .int .i64 o]] X fun e w' => e = .returned (.bool (mayN P gs o)) ∧ Below X.heap.size X w') := fun X hX => rmay5_any _ _ o P gs X (HUP.out X hX).1 (HUP.out X hX).2.1 hp hg ho1 ho2
  have HNO : Hid (∀ X, Below W0.heap.size W0 X → Calls Tryz.prog 46 #[.slice la a.length lc] X fun e w' => e = .returned (.bool (mayB a)) ∧ Quiet X w') := fun X hX => rnormal5_any _ a X (HUP.out X hX).2.2
  have HSL := Lib.hid hs
  have HGL := Lib.hid hg
  have HGP := Lib.hid hp
  have HOB : Hid (-9223372036854775808 ≤ o ∧ o ≤ 9223372036854775807) := ⟨ho1, ho2⟩
  have HAL := Lib.hid hl
  obtain ⟨p0, p1, p2⟩ := HXC.out W0 (Below.refl _ _)
  clear HP HG HL hb0 hbx hW0 hz0 hs
  go_enter Tryz.func10, Tryz.ntmps10
  go_upto_region 1 with fail
  rw [HW0.out]
  go_wp2
  clear p0 p1 p2
  go_loopw [5, 22] (fun n i wr => ∃ k : Nat, k ≤ gs.length ∧ i = .int .i64 k ∧ n = .int .i64 (litsN (gs.take k) : Int) ∧ Below W0.heap.size W0 wr) (fun _ i _ => gs.length - (intOf i).toNat)
  case atStart => exact ⟨0, Nat.zero_le _, rfl, rfl, Below.refl _ _⟩
  case round =>
    obtain ⟨k, hk, rfl, rfl, hbel⟩ := hrel
    have HB := Lib.hid hbel
    have hszr := hbel.size
    clear hbel
    by_cases hlt : k < gs.length
    · obtain ⟨b, off, u, rfl, hb, hcx, hck, hcu, HU0, _⟩ := (HUP.out wr HB.out).2.1.at hlt
      have HST := Lib.hid (litsN_take hlt)
      have hle1 : litsN (gs.take (k + 1)) ≤ 4000000 := Nat.le_trans (litsN_le gs _) HSL.out
      rw [HST.out] at hle1
      obtain ⟨ua, uc, rfl⟩ := HU0.shape
      have hk0 : (0 : Int) ≤ (k : Int) := by omega
      have hk1 : (k : Int) < (gs.length : Int) := by omega
      have hk2 : (k : Int) < 4000001 := by omega
      have HKL := Lib.hid hlt
      clear HU0 hlt
      generalize gs.getD k dG = y at *
      obtain ⟨y1, y2, y3⟩ := y
      simp only at hcx hck hcu HST hle1
      generalize litsN (gs.take k) = s at *
      have hs0 : (0 : Int) ≤ (s : Int) + (y3.length : Int) := by omega
      have hs1 : (s : Int) + (y3.length : Int) < 9223372036854775808 := by omega
      have HBA := Lib.hid (HB.out.alloc hszr (.cells #[.int .i64 y1, .int .u8 y2, .slice ua y3.length uc] 101))
      clear hle1
      go_wp2
      go_roundw
      case rel => exact ⟨k + 1, HKL.out, by go_num, by rw [HST.out]; go_num, HBA.out⟩
      case measure => have := HKL.out; simp [intOf]; omega
    · obtain rfl : k = gs.length := by omega
      rw [List.take_length]
      have HK9 := Lib.hid hk
      clear hk hlt hszr
      obtain ⟨p0, p1, p2⟩ := HXC.out wr HB.out
      by_cases c1 : 200 < gs.length
      · have d1 : decide ((200 : Int) < (gs.length : Int)) = true := decide_eq_true (by omega)
        have hbig : (200 : Int) < (gs.length : Int) := by omega
        clear HMY HNO c1
        generalize litsN gs = ln at *
        go_wp2_with (go_at_call 13; refine (works6_any _).mono ?_; rintro e w2 ⟨rfl, hb2⟩)
        go_ret
        exact ⟨rfl, HB0.out.trans ((HB.out.trans (hb2.mono HB.out.size)).mono HB0.out.size)⟩
      · have d1 : decide ((200 : Int) < (gs.length : Int)) = false := decide_eq_false (by omega)
        by_cases c2 : 1000 < litsN gs
        · have d2 : decide ((1000 : Int) < (litsN gs : Int)) = true := decide_eq_true (by omega)
          clear HMY HNO c1 c2
          go_wp2_with (go_at_call 13; refine (works6_any _).mono ?_; rintro e w2 ⟨rfl, hb2⟩)
          go_ret
          exact ⟨rfl, HB0.out.trans ((HB.out.trans (hb2.mono HB.out.size)).mono HB0.out.size)⟩
        · have d2 : decide ((1000 : Int) < (litsN gs : Int)) = false := decide_eq_false (by omega)
          by_cases c3 : 100 < a.length
          · have d3 : decide ((100 : Int) < (a.length : Int)) = true := decide_eq_true (by omega)
            clear HMY HNO c1 c2 c3
            go_wp2_with (go_at_call 13; refine (works6_any _).mono ?_; rintro e w2 ⟨rfl, hb2⟩)
            go_ret
            exact ⟨rfl, HB0.out.trans ((HB.out.trans (hb2.mono HB.out.size)).mono HB0.out.size)⟩
          · have d3 : decide ((100 : Int) < (a.length : Int)) = false := decide_eq_false (by omega)
            cases hm : mayN P gs o with
            | false =>
              rw [hm] at HMY
              clear hm HNO c1 c2 c3
              go_wp2_with (first
                | (go_at_call 13; refine (works6_any _).mono ?_; rintro e w2 ⟨rfl, hb2⟩)
                | (go_at_call 53; refine (HMY.out wr HB.out).mono ?_; rintro e w1 ⟨rfl, hb1⟩; have HB1 := Lib.hid (HB.out.trans (hb1.mono HB.out.size)); clear hb1))
              go_ret
              exact ⟨rfl, HB0.out.trans ((HB1.out.trans (hb2.mono HB1.out.size)).mono HB0.out.size)⟩
            | true =>
              rw [hm] at HMY
              cases hn : mayB a with
              | false =>
                rw [hn] at HNO
                clear hm hn c1 c2 c3
                go_wp2_with (first
                  | (go_at_call 13; refine (works6_any _).mono ?_; rintro e w3 ⟨rfl, hb3⟩)
                  | (go_at_call 46; refine (HNO.out w1 HB1.out).mono ?_; rintro e w2 ⟨rfl, hq2⟩; have HB2 := Lib.hid (HB1.out.trans ((hq2.below _).mono HB1.out.size)); clear hq2)
                  | (go_at_call 53; refine (HMY.out wr HB.out).mono ?_; rintro e w1 ⟨rfl, hb1⟩; have HB1 := Lib.hid (HB.out.trans (hb1.mono HB.out.size)); clear hb1))
                go_ret
                exact ⟨rfl, HB0.out.trans ((HB2.out.trans (hb3.mono HB2.out.size)).mono HB0.out.size)⟩
              | true =>
                rw [hn] at HNO
                obtain ⟨A, x, gs2, o2, V, hr1, ht, hr2, hrd, hm2, hA, hx, he1, he2, he3⟩ := round_facts hm hn (by omega)
                have hbd := mayN_bd hm
                have hbd2 := mayN_bd hm2
                have hI : (netI P).length ≤ 4000000 := by have := (mayA_parts (redB_iff.1 hrd).1).1; omega
                have HF1 : Hid (∀ X, Below W0.heap.size W0 X → Calls Tryz.prog 54 #[.agg #[.slice pa P.length pc, .slice ga gs.length gc, .int .i64 o]] X (NetRPost X ((netI P, A), x, 0))) := fun X hX => by
                  have h := gfromnet_any _ _ o P gs X (HUP.out X hX).1 (HUP.out X hX).2.1 hp (by omega) (by omega) ho2
                  rw [hr1] at h
                  exact h
                have HTN : Hid (∀ X v1 v2, Below W0.heap.size W0 X → IsInts X v1 (netI P) → IsPairs X v2 A → Calls Tryz.prog 55 #[.agg #[v1, v2], .int .i64 x, .slice pa P.length pc] X (ToPost X ((P, gs2, o2), 0))) := fun X v1 v2 hX hi ha => by
                  have h := gtonet_any v1 v2 _ (netI P) A x P X hi ha (HUP.out X hX).1 hI (by omega) hp (by omega) (by omega)
                  rw [ht] at h
                  exact h
                have HF2 : Hid (∀ X v1 v2, IsBlocks X v1 P → IsGates X v2 gs2 → Calls Tryz.prog 54 #[.agg #[v1, v2, .int .i64 o2]] X (NetRPost X ((netI P, A), x, 0))) := fun X v1 v2 h1 h2 => by
                  have h := gfromnet_any v1 v2 o2 P gs2 X h1 h2 hp (by omega) (by omega) (by omega)
                  rw [hr2] at h
                  exact h
                have HRD : Hid (∀ X v1 v2, IsInts X v1 (netI P) → IsPairs X v2 A → Calls Tryz.prog 21 #[.agg #[v1, v2]] X fun e w' => e = .returned (.bool true) ∧ Below X.heap.size X w') := fun X v1 v2 hi ha => by
                  have h := rreduced6_any v1 v2 (netI P) A X hi ha hI (by omega)
                  rw [hrd] at h
                  exact h
                have HSM : Hid (∀ X v1 v2 v3 v4, IsInts X v1 (netI P) → IsPairs X v2 A → IsInts X v3 (netI P) → IsPairs X v4 A → Calls Tryz.prog 25 #[.agg #[v1, v2], .agg #[v3, v4]] X fun e w' => e = .returned (.bool true) ∧ Below X.heap.size X w') := fun X v1 v2 v3 v4 e1 e2 e3 e4 => (rsame6_any _ _ _ _ (netI P) A (netI P) A X e1 e2 e3 e4).mono fun e w' h => ⟨by rw [h.1, sameA_rr], h.2⟩
                have HE1 : Hid (∀ X, Below W0.heap.size W0 X → Calls Tryz.prog 56 #[.agg #[.slice pa P.length pc, .slice ga gs.length gc, .int .i64 o], .slice la a.length lc] X fun e w' => e = .returned (.tuple #[.bool V, .int .i64 0]) ∧ Below X.heap.size X w') := fun X hX => by
                  have h := ceval_any _ _ _ o P gs a X (HUP.out X hX).1 (HUP.out X hX).2.1 (HUP.out X hX).2.2 hp (by omega) hl ho1 ho2
                  rw [he1] at h
                  exact h
                have HE2 : Hid (∀ X v1 v2, Below W0.heap.size W0 X → IsInts X v1 (netI P) → IsPairs X v2 A → Calls Tryz.prog 27 #[.agg #[v1, v2], .int .i64 x, .slice la a.length lc] X fun e w' => e = .returned (.tuple #[.bool V, .int .i64 0]) ∧ Below X.heap.size X w') := fun X v1 v2 hX hi ha => by
                  have h := geval_any v1 v2 _ (netI P) A x a X hi ha (HUP.out X hX).2.2 hI (by omega) (by omega) (by omega)
                  rw [he2] at h
                  exact h
                have HE3 : Hid (∀ X v1 v2, Below W0.heap.size W0 X → IsBlocks X v1 P → IsGates X v2 gs2 → Calls Tryz.prog 56 #[.agg #[v1, v2, .int .i64 o2], .slice la a.length lc] X fun e w' => e = .returned (.tuple #[.bool V, .int .i64 0]) ∧ Below X.heap.size X w') := fun X v1 v2 hX h1 h2 => by
                  have h := ceval_any v1 v2 _ o2 P gs2 a X h1 h2 (HUP.out X hX).2.2 hp (by omega) hl (by omega) (by omega)
                  rw [he3] at h
                  exact h
                clear hm hn c1 c2 c3 hr1 ht hr2 hrd hm2 hA hx he1 he2 he3 hbd hbd2 hI hp hg hl ho1 ho2
                generalize netI P = I at *
                go_upto_region 9 with (first
                  | (go_at_call 46; refine (HNO.out w1 HB1.out).mono ?_; rintro e w2 ⟨rfl, hq2⟩; have HB2 := Lib.hid (HB1.out.trans ((hq2.below _).mono HB1.out.size)); clear hq2)
                  | (go_at_call 53; refine (HMY.out wr HB.out).mono ?_; rintro e w1 ⟨rfl, hb1⟩; have HB1 := Lib.hid (HB.out.trans (hb1.mono HB.out.size)); clear hb1))
                clear d1 d2 d3 HMY HNO p0 p1 p2 HB HB1 HSL
                obtain ⟨p0, p1, p2⟩ := HXC.out w2 HB2.out
                go_upto_region 10 with (go_at_call 54; go_loud (refine (HF1.out w2 HB2.out).mono ?_; rintro e w3 ⟨v1, v2, rfl, hg, hb⟩; obtain ⟨ca, cc, rfl⟩ := hg.ints.1.shape; obtain ⟨da, dc, rfl, _⟩ := hg.ints.2.shape; have HI3 := Lib.hid hg.ints; have HB3 := Lib.hid (HB2.out.trans (hb.mono HB2.out.size)); clear hg hb))
                have hbn := below_alloc1 w3 (.cells #[.slice ca I.length cc, .slice da A.length dc] 25)
                have hxn := boxA_new w3 (.slice ca I.length cc) (.slice da A.length dc)
                have hzn : (w3.alloc (.cells #[.slice ca I.length cc, .slice da A.length dc] 25)).heap.size = w3.heap.size + 1 := by rw [World.size_alloc]
                have HB4 := Lib.hid (HB3.out.trans (hbn.mono HB3.out.size))
                have hi4 := HI3.out.1.below hbn (Nat.le_refl _)
                have ha4 := HI3.out.2.below hbn (Nat.le_refl _)
                change Code.wp _ _ _ _ (w3.alloc (.cells #[.slice ca I.length cc, .slice da A.length dc] 25))
                clear p0 p1 p2 HF1
                generalize w3.alloc (.cells #[.slice ca I.length cc, .slice da A.length dc] 25) = W4 at *
                generalize w3.heap.size = g4 at *
                have HG4 : Hid (∀ X, Below W4.heap.size W4 X → X.cell? ⟨g4, 0, none⟩ = some (.slice ca I.length cc) ∧ X.cell? ⟨g4, 1, none⟩ = some (.slice da A.length dc)) := fun X hX => hxn.below hX (by rw [hzn]; omega)
                have HUP4 : Hid (∀ X, Below W4.heap.size W4 X → IsInts X (.slice ca I.length cc) I ∧ IsPairs X (.slice da A.length dc) A) := fun X hX => ⟨hi4.below hX (Nat.le_refl _), ha4.below hX (Nat.le_refl _)⟩
                have HW4 : Hid (∀ X, Below W4.heap.size W4 X → Below W0.heap.size W0 X) := fun X hX => HB4.out.trans (hX.mono HB4.out.size)
                have HZ4 : Hid (Below W4.heap.size W4 W4) := Below.refl _ _
                clear hbn hxn hzn hi4 ha4 HI3 HB2 HB3
                obtain ⟨p0, p1, p2⟩ := HXC.out W4 HB4.out
                obtain ⟨q0, q1⟩ := HG4.out W4 HZ4.out
                go_upto_region 11 with (go_at_call 55; go_loud (have hh4 := HUP4.out W4 HZ4.out; refine (HTN.out W4 _ _ HB4.out hh4.1 hh4.2).mono ?_; rintro e w5 ⟨v1, v2, rfl, h1, h2, hb⟩; obtain ⟨ea, ec, rfl, _⟩ := h1.shape; obtain ⟨fa, fc, rfl, _⟩ := h2.shape; have HP5 := Lib.hid h1; have HG5 := Lib.hid h2; have HB5 := Lib.hid hb; clear hb h1 h2 hh4))
                have hbn := below_alloc1 w5 (.cells #[.slice ea P.length ec, .slice fa gs2.length fc, .int .i64 o2] 98)
                have hxn := box3_new w5 (.slice ea P.length ec) (.slice fa gs2.length fc) (.int .i64 o2)
                have hzn : (w5.alloc (.cells #[.slice ea P.length ec, .slice fa gs2.length fc, .int .i64 o2] 98)).heap.size = w5.heap.size + 1 := by rw [World.size_alloc]
                have HB6 := Lib.hid (HB5.out.trans (hbn.mono HB5.out.size))
                have hp6 := HP5.out.below hbn (Nat.le_refl _)
                have hg6 := HG5.out.below hbn (Nat.le_refl _)
                change Code.wp _ _ _ _ (w5.alloc (.cells #[.slice ea P.length ec, .slice fa gs2.length fc, .int .i64 o2] 98))
                clear p0 p1 p2 q0 q1 HTN
                generalize w5.alloc (.cells #[.slice ea P.length ec, .slice fa gs2.length fc, .int .i64 o2] 98) = W6 at *
                generalize w5.heap.size = g6 at *
                have HG6 : Hid (∀ X, Below W6.heap.size W6 X → X.cell? ⟨g6, 0, none⟩ = some (.slice ea P.length ec) ∧ X.cell? ⟨g6, 1, none⟩ = some (.slice fa gs2.length fc) ∧ X.cell? ⟨g6, 2, none⟩ = some (.int .i64 o2)) := fun X hX => hxn X (hX.mono (by omega))
                have HUP6 : Hid (∀ X, Below W6.heap.size W6 X → IsBlocks X (.slice ea P.length ec) P ∧ IsGates X (.slice fa gs2.length fc) gs2) := fun X hX => ⟨hp6.below hX (Nat.le_refl _), hg6.below hX (Nat.le_refl _)⟩
                have HW6 : Hid (∀ X, Below W6.heap.size W6 X → Below W4.heap.size W4 X) := fun X hX => HB6.out.trans (hX.mono HB6.out.size)
                have HZ6 : Hid (Below W6.heap.size W6 W6) := Below.refl _ _
                clear hbn hxn hzn hp6 hg6 HP5 HG5 HB5
                obtain ⟨p0, p1, p2⟩ := HG6.out W6 HZ6.out
                go_upto_region 12 with (go_at_call 54; go_loud (have hh6 := HUP6.out W6 HZ6.out; refine (HF2.out W6 _ _ hh6.1 hh6.2).mono ?_; rintro e w7 ⟨v1, v2, rfl, hg, hb⟩; obtain ⟨ia, ic, rfl⟩ := hg.ints.1.shape; obtain ⟨ja, jc, rfl, _⟩ := hg.ints.2.shape; have HI7 := Lib.hid hg.ints; have HB7 := Lib.hid hb; clear hg hb hh6))
                have hbn := below_alloc1 w7 (.cells #[.slice ia I.length ic, .slice ja A.length jc] 25)
                have hxn := boxA_new w7 (.slice ia I.length ic) (.slice ja A.length jc)
                have hzn : (w7.alloc (.cells #[.slice ia I.length ic, .slice ja A.length jc] 25)).heap.size = w7.heap.size + 1 := by rw [World.size_alloc]
                have HB8 := Lib.hid (HB7.out.trans (hbn.mono HB7.out.size))
                have hi8 := HI7.out.1.below hbn (Nat.le_refl _)
                have ha8 := HI7.out.2.below hbn (Nat.le_refl _)
                change Code.wp _ _ _ _ (w7.alloc (.cells #[.slice ia I.length ic, .slice ja A.length jc] 25))
                clear p0 p1 p2 HF2
                generalize w7.alloc (.cells #[.slice ia I.length ic, .slice ja A.length jc] 25) = W8 at *
                generalize w7.heap.size = g8 at *
                have HG8 : Hid (∀ X, Below W8.heap.size W8 X → X.cell? ⟨g8, 0, none⟩ = some (.slice ia I.length ic) ∧ X.cell? ⟨g8, 1, none⟩ = some (.slice ja A.length jc)) := fun X hX => hxn.below hX (by rw [hzn]; omega)
                have HUP8 : Hid (∀ X, Below W8.heap.size W8 X → IsInts X (.slice ia I.length ic) I ∧ IsPairs X (.slice ja A.length jc) A) := fun X hX => ⟨hi8.below hX (Nat.le_refl _), ha8.below hX (Nat.le_refl _)⟩
                have HW8 : Hid (∀ X, Below W8.heap.size W8 X → Below W6.heap.size W6 X) := fun X hX => HB8.out.trans (hX.mono HB8.out.size)
                have HZ8 : Hid (Below W8.heap.size W8 W8) := Below.refl _ _
                clear hbn hxn hzn hi8 ha8 HI7 HB7
                obtain ⟨q0, q1⟩ := HG4.out W8 (HW6.out _ (HW8.out _ HZ8.out))
                go_upto_region 14 with (first
                  | (go_at_call 25; go_loud (have h4 := HUP4.out _ (HW6.out _ (HW8.out _ HB9.out)); have h8 := HUP8.out _ HB9.out; refine (HSM.out w9 _ _ _ _ h4.1 h4.2 h8.1 h8.2).mono ?_; rintro e w10 ⟨rfl, hb⟩; have HB10 := Lib.hid (HB9.out.trans (hb.mono HB9.out.size)); clear hb h4 h8))
                  | (go_at_call 21; go_loud (have h4 := HUP4.out _ (HW6.out _ (HW8.out _ HZ8.out)); refine (HRD.out W8 _ _ h4.1 h4.2).mono ?_; rintro e w9 ⟨rfl, hb⟩; have HB9 := Lib.hid hb; clear hb h4 q0 q1; obtain ⟨q0, q1⟩ := HG4.out w9 (HW6.out _ (HW8.out _ HB9.out)); obtain ⟨r0, r1⟩ := HG8.out w9 HB9.out)))
                clear q0 q1 r0 r1 HSM HRD HB9
                obtain ⟨p0, p1, p2⟩ := HXC.out w10 (HW4.out _ (HW6.out _ (HW8.out _ HB10.out)))
                go_upto_region 15 with (go_at_call 56; go_loud (refine (HE1.out w10 (HW4.out _ (HW6.out _ (HW8.out _ HB10.out)))).mono ?_; rintro e w11 ⟨rfl, hb⟩; have HB11 := Lib.hid (HB10.out.trans (hb.mono HB10.out.size)); clear hb))
                clear p0 p1 p2 HE1 HB10
                obtain ⟨q0, q1⟩ := HG4.out w11 (HW6.out _ (HW8.out _ HB11.out))
                go_upto_region 16 with (go_at_call 27; go_loud (have h4 := HUP4.out _ (HW6.out _ (HW8.out _ HB11.out)); refine (HE2.out w11 _ _ (HW4.out _ (HW6.out _ (HW8.out _ HB11.out))) h4.1 h4.2).mono ?_; rintro e w12 ⟨rfl, hb⟩; have HB12 := Lib.hid (HB11.out.trans (hb.mono HB11.out.size)); clear hb h4))
                clear q0 q1 HE2 HB11
                obtain ⟨p0, p1, p2⟩ := HG6.out w12 (HW8.out _ HB12.out)
                go_upto_region 17 with (go_at_call 56; go_loud (have h6 := HUP6.out _ (HW8.out _ HB12.out); refine (HE3.out w12 _ _ (HW4.out _ (HW6.out _ (HW8.out _ HB12.out))) h6.1 h6.2).mono ?_; rintro e w13 ⟨rfl, hb⟩; have HB13 := Lib.hid (HB12.out.trans (hb.mono HB12.out.size)); clear hb h6))
                clear p0 p1 p2 HE3 HB12
                have hVV : (V == V) = true := by simp
                go_wp2_with (go_at_call 13; refine (works6_any _).mono ?_; rintro e w14 ⟨rfl, hb14⟩)
                go_ret
                exact ⟨rfl, HB0.out.trans ((HW4.out _ (HW6.out _ (HW8.out _ (HB13.out.trans (hb14.mono HB13.out.size))))).mono HB0.out.size)⟩
end Go.Proofs.YtfghjfljomcldaaGreat
