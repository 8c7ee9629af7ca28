/- The law CircKnown, walked. -/
import Derived.Test.YtafenijbglcppaaK55
namespace Go.Proofs.Ytafenijbglcppaa
open Go.RowKit Go.Maps Go.Shelf
set_option linter.unusedVariables false
set_option linter.unusedSimpArgs false

set_option maxRecDepth 100000 in
set_option maxHeartbeats 12800000 in
theorem circknown_any (w : World) : Calls Try.prog 3 #[] w fun e w' => e = .returned (.bool true) ∧ Below w.heap.size w w' := by
  go_enter Try.func3, Try.ntmps3
  go_upto_region 2 with (go_at_call 4; go_loud (refine (example_any _).mono ?_; rintro e w1 ⟨vp, vg, rfl, hP, hG, hb1⟩; have HP := Lib.hid hP; have HG := Lib.hid hG; have HB1 := Lib.hid hb1; obtain ⟨pa, pc, rfl, _⟩ := hP.shape; obtain ⟨ga, gc, rfl, _⟩ := hG.shape; clear hP hG hb1))
  generalize hW1 : World.alloc w1 _ = W1
  have hlw : Below w1.heap.size w1 W1 := by rw [← hW1]; exact below_new _ _
  have HPN : Hid (IsBlocks W1 (.slice pa exP.length pc) exP) := HP.out.below hlw (Nat.le_refl _)
  have HGN : Hid (IsGates W1 (.slice ga exG.length gc) exG) := HG.out.below hlw (Nat.le_refl _)
  have HBXN : Hid (∀ Y, Below W1.heap.size W1 Y → BoxN Y w1.heap.size (.slice pa exP.length pc) (.slice ga exG.length gc) 5) := (box_kept hW1 (Below.refl _ _)).2.2
  have HWW : Hid (Below w.heap.size w W1) := HB1.out.trans (hlw.mono HB1.out.size)
  clear hlw HP HG
  go_upto_region 3 with fail
  generalize hWt : ((((((W1.alloc (.cells #[.int .i64 1, .int .i64 (-2)] 3)).alloc (.cells #[.int .i64 1, .int .i64 (-2)] 3)).alloc (.cells #[.int .i64 1, .int .i64 2] 3)).alloc (.cells #[.int .i64 1, .int .i64 1] 3)).alloc (.cells #[.int .i64 1, .int .i64 2, .int .i64 (-2)] 3)).alloc (.cells #[.int .i64 (-1), .int .i64 2, .int .i64 1] 3)).alloc (.cells #[.int .u8 1, .slice none 0 0, .string ⟨#[49, 49, 49, 49]⟩, .int .u8 1, .slice (some ⟨W1.heap.size, 0, none⟩) 2 2, .string ⟨#[48, 49, 48, 48]⟩, .int .u8 2, .slice none 0 0, .string ⟨#[48, 48, 48, 48]⟩, .int .u8 2, .slice (some ⟨W1.heap.size + 1, 0, none⟩) 2 2, .string ⟨#[49, 49, 48, 49]⟩, .int .u8 3, .slice (some ⟨W1.heap.size + 1 + 1, 0, none⟩) 2 2, .string ⟨#[48, 49, 49, 48]⟩, .int .u8 3, .slice (some ⟨W1.heap.size + 1 + 1 + 1, 0, none⟩) 2 2, .string ⟨#[48, 48, 48, 48]⟩, .int .u8 4, .slice (some ⟨W1.heap.size + 1 + 1 + 1 + 1, 0, none⟩) 3 3, .string ⟨#[49, 48, 48, 49]⟩, .int .u8 4, .slice (some ⟨W1.heap.size + 1 + 1 + 1 + 1 + 1, 0, none⟩) 3 3, .string ⟨#[48, 49, 49, 49]⟩] 29) = Wt
  have HTT := Lib.hid (kn_table2 W1 Wt hWt)
  have HBT := Lib.hid (kn_table W1 Wt hWt).1
  clear hWt hW1
  go_loopw [47] (fun i wr => ∃ k : Nat, k ≤ 8 ∧ i = .int .i64 k ∧ Below Wt.heap.size Wt wr) (fun i _ => 8 - (intOf i).toNat)
  case atStart => exact ⟨0, by omega, rfl, Below.refl _ _⟩
  case round =>
    obtain ⟨k, hk, rfl, hbel⟩ := hrel
    have HB := Lib.hid hbel
    clear hbel
    by_cases hk8 : k = 8
    · subst hk8
      clear hk
      have HW := Lib.hid (HBT.out.trans (HB.out.mono HBT.out.size))
      clear HTT HBT HB
      go_upto_region 15 with fail
      generalize hWo : ((wr.alloc (.cells #[.int .i64 5] 3)).alloc (.cells #[.int .i64 4, .int .i64 1] 3)).alloc (.cells #[.int .i64 4, .int .u8 2, .slice (some ⟨wr.heap.size, 0, none⟩) 1 1, .int .i64 5, .int .u8 2, .slice (some ⟨wr.heap.size + 1, 0, none⟩) 2 2] 34) = Wo
      have HL := Lib.hid (kn_loop wr Wo hWo)
      have HWo : Hid (Below W1.heap.size W1 Wo) := HW.out.trans (HL.out.1.mono HW.out.size)
      clear hWo HW
      generalize wr.heap.size = n0 at *
      go_upto_region 16 with (go_at_call 6; go_loud (refine (kn_cycle _ (ints_new Wo [1] 3 (by decide) (by decide)) (HL.out.2 _ (below_new _ _))).mono ?_; rintro e w2 ⟨rfl, hb2⟩; have HB2 := Lib.hid (HWo.out.trans (((below_new Wo (.cells #[.int .i64 1] 3)).trans (hb2.mono (by simp))).mono HWo.out.size)); clear hb2))
      go_upto_region 17 with (go_at_call 6; go_loud (refine (kn_twice _ (ints_new w2 [1, 1] 3 (by decide) (by decide))).mono ?_; rintro e w3 ⟨rfl, hb3⟩; have HB3 := Lib.hid (HB2.out.trans (((below_new w2 (.cells #[.int .i64 1, .int .i64 1] 3)).trans (hb3.mono (by simp))).mono HB2.out.size)); clear hb3))
      obtain ⟨p0, p1, p2⟩ := HBXN.out w3 HB3.out
      go_upto_region 18 with (go_at_call 7; go_loud (refine (exCo HPN.out HGN.out (l := [4]) (by decide) (by decide) knC1 w3 HB3.out).mono ?_; rintro e w4 ⟨_, _, a4, c4, d4, e4, rfl, rfl, rfl, _, _, hb4⟩; have HB4 := Lib.hid (HB3.out.trans (hb4.mono HB3.out.size)); clear hb4 p0 p1 p2))
      generalize hW4 : World.alloc w4 _ = W4
      have HW4 : Hid (Below W1.heap.size W1 W4) := by rw [← hW4]; exact HB4.out.alloc HB4.out.size _
      clear hW4
      obtain ⟨p0, p1, p2⟩ := HBXN.out W4 HW4.out
      go_upto_region 19 with (go_at_call 7; go_loud (refine (exCo HPN.out HGN.out (l := [2, 1]) (by decide) (by decide) knC2 W4 HW4.out).mono ?_; rintro e w5 ⟨_, _, a5, c5, d5, e5, rfl, rfl, rfl, _, _, hb5⟩; have HB5 := Lib.hid (HW4.out.trans (hb5.mono HW4.out.size)); clear hb5 p0 p1 p2))
      generalize hW5 : World.alloc w5 _ = W5
      have HW5 : Hid (Below W1.heap.size W1 W5) := by rw [← hW5]; exact HB5.out.alloc HB5.out.size _
      clear hW5
      have HCM : Hid (∀ (v : Int) (r : Nt × Int) X, (-9223372036854775808 ≤ v ∧ v ≤ 9223372036854775807) → composeN exP exG 5 v exP exG 5 = r → Below W1.heap.size W1 X → Calls Try.prog 8 #[.agg #[.slice pa exP.length pc, .slice ga exG.length gc, .int .i64 5], .int .i64 v, .agg #[.slice pa exP.length pc, .slice ga exG.length gc, .int .i64 5]] X (NetBack X r)) := fun v r X hv hr hX => by
        have h1 := HPN.out.below hX (Nat.le_refl _)
        have h2 := HGN.out.below hX (Nat.le_refl _)
        exact (ccompose_any _ _ _ _ 5 5 v exP exP exG exG X h1 h2 h1 h2 (by decide) (by decide) (by decide) (by decide) (by omega) (by omega) (by omega) (by omega) hv.1 hv.2).mono fun e w' h => NetBack.of (by rw [hr] at h; exact h) (Below.refl _ _)
      obtain ⟨p0, p1, p2⟩ := HBXN.out W5 HW5.out
      go_upto_region 20 with (go_at_call 8; go_loud (refine (HCM.out 4 _ W5 (by omega) knM1 HW5.out).mono ?_; rintro e w6 ⟨_, _, a6, c6, d6, e6, rfl, rfl, rfl, _, _, hb6⟩; have HB6 := Lib.hid (HW5.out.trans (hb6.mono HW5.out.size)); clear hb6 p0 p1 p2))
      generalize hW6 : World.alloc w6 _ = W6
      have HW6 : Hid (Below W1.heap.size W1 W6) := by rw [← hW6]; exact HB6.out.alloc HB6.out.size _
      clear hW6
      obtain ⟨p0, p1, p2⟩ := HBXN.out W6 HW6.out
      go_upto_region 21 with (go_at_call 8; go_loud (refine (HCM.out 3 _ W6 (by omega) knM2 HW6.out).mono ?_; rintro e w7 ⟨_, _, a7, c7, d7, e7, rfl, rfl, rfl, _, _, hb7⟩; have HB7 := Lib.hid (HW6.out.trans (hb7.mono HW6.out.size)); clear hb7 p0 p1 p2))
      generalize hW7 : World.alloc w7 _ = W7
      have HW7 : Hid (Below W1.heap.size W1 W7) := by rw [← hW7]; exact HB7.out.alloc HB7.out.size _
      clear hW7 HCM
      have HE := ceval_any (.slice none 0 0) (.slice none 0 0) (.slice none 0 0) 0 [] [] [] W7 (NetO.blocks_of (JoinSt.nil W7 0) rfl mayP_nil) (IsGates.nil _) (IsInts.nil _) (by decide) (by decide) (by decide) (by omega) (by omega)
      rw [knE] at HE
      have HEV := Lib.hid HE
      clear HE
      go_upto_region 22 with (go_at_call 5; go_loud (refine HEV.out.mono ?_; rintro e w8 ⟨rfl, hb8⟩; have HB8 := Lib.hid (HW7.out.trans (hb8.mono HW7.out.size)); clear hb8))
      have HS := csup_any _ _ 5 0 exP exG w8 (HPN.out.below HB8.out (Nat.le_refl _)) (HGN.out.below HB8.out (Nat.le_refl _)) (by decide) (by decide) (by omega) (by omega) (by omega) (by omega)
      rw [knS] at HS
      have HSV := Lib.hid HS
      clear HS HEV
      obtain ⟨p0, p1, p2⟩ := HBXN.out w8 HB8.out
      go_upto_region 23 with (go_at_call 9; go_loud (refine HSV.out.mono ?_; rintro e w9 ⟨v9, rfl, ho9, hb9⟩; obtain ⟨a9, c9, rfl⟩ := own_shC ho9; have HB9 := Lib.hid (HB8.out.trans (hb9.mono HB8.out.size)); clear ho9 hb9 p0 p1 p2))
      go_upto_region 25 with fail
      generalize hWB : ((((((((((((((((w9.alloc (.cells #[.bool false, .slice none 0 0] 32)).alloc (.cells #[.int .i64 1] 3)).alloc (.cells #[.int .i64 2] 3)).alloc (.cells #[.bool false, .slice (some ⟨w9.heap.size + 1, 0, none⟩) 1 1, .bool false, .slice (some ⟨w9.heap.size + 1 + 1, 0, none⟩) 1 1] 32)).alloc (.cells #[.int .i64 1, .int .i64 1] 3)).alloc (.cells #[.bool false, .slice (some ⟨w9.heap.size + 1 + 1 + 1 + 1, 0, none⟩) 2 2] 32)).alloc (.cells #[.int .i64 1] 3)).alloc (.cells #[.bool false, .slice (some ⟨w9.heap.size + 1 + 1 + 1 + 1 + 1 + 1, 0, none⟩) 1 1] 32)).alloc (.cells #[.int .i64 2] 3)).alloc (.cells #[.int .i64 2, .int .u8 1, .slice (some ⟨w9.heap.size + 1 + 1 + 1 + 1 + 1 + 1 + 1 + 1, 0, none⟩) 1 1] 34)).alloc (.cells #[.int .i64 1] 3)).alloc (.cells #[.bool false, .slice (some ⟨w9.heap.size + 1 + 1 + 1 + 1 + 1 + 1 + 1 + 1 + 1 + 1, 0, none⟩) 1 1] 32)).alloc (.cells #[.int .i64 1] 3)).alloc (.cells #[.int .i64 2, .int .u8 3, .slice (some ⟨w9.heap.size + 1 + 1 + 1 + 1 + 1 + 1 + 1 + 1 + 1 + 1 + 1 + 1, 0, none⟩) 1 1] 34)).alloc (.cells #[.int .i64 65537] 3)).alloc (.cells #[.bool false, .slice (some ⟨w9.heap.size + 1 + 1 + 1 + 1 + 1 + 1 + 1 + 1 + 1 + 1 + 1 + 1 + 1 + 1, 0, none⟩) 1 1] 32)).alloc (.cells #[.slice none 0 0, .slice none 0 0, .int .i64 1, .slice (some ⟨w9.heap.size, 0, none⟩) 1 1, .slice none 0 0, .int .i64 1, .slice (some ⟨w9.heap.size + 1 + 1 + 1, 0, none⟩) 2 2, .slice none 0 0, .int .i64 1, .slice (some ⟨w9.heap.size + 1 + 1 + 1 + 1 + 1, 0, none⟩) 1 1, .slice none 0 0, .int .i64 1, .slice (some ⟨w9.heap.size + 1 + 1 + 1 + 1 + 1 + 1 + 1, 0, none⟩) 1 1, .slice (some ⟨w9.heap.size + 1 + 1 + 1 + 1 + 1 + 1 + 1 + 1 + 1, 0, none⟩) 1 1, .int .i64 2, .slice (some ⟨w9.heap.size + 1 + 1 + 1 + 1 + 1 + 1 + 1 + 1 + 1 + 1 + 1, 0, none⟩) 1 1, .slice (some ⟨w9.heap.size + 1 + 1 + 1 + 1 + 1 + 1 + 1 + 1 + 1 + 1 + 1 + 1 + 1, 0, none⟩) 1 1, .int .i64 2, .slice (some ⟨w9.heap.size + 1 + 1 + 1 + 1 + 1 + 1 + 1 + 1 + 1 + 1 + 1 + 1 + 1 + 1 + 1, 0, none⟩) 1 1, .slice none 0 0, .int .i64 1] 25) = WB
      have HKB := Lib.hid (kn_bad2 w9 WB hWB)
      have HBB : Hid (Below W1.heap.size W1 WB) := HB9.out.trans ((kn_bad w9 WB hWB).1.mono HB9.out.size)
      clear hWB
      generalize w9.heap.size = n9 at *
      go_wp2
      go_loopw [206] (fun i wr => ∃ k : Nat, k ≤ 7 ∧ i = .int .i64 k ∧ Below WB.heap.size WB wr) (fun i _ => 7 - (intOf i).toNat)
      case atStart => exact ⟨0, by omega, rfl, Below.refl _ _⟩
      case round =>
        obtain ⟨k, hk, rfl, hbel⟩ := hrel
        have HB := Lib.hid hbel
        clear hbel
        by_cases hk7 : k = 7
        · subst hk7
          clear hk
          have HWK := Lib.hid (works_any wr)
          go_wp2_with (go_at_call 11; refine HWK.out.mono ?_; rintro e wf ⟨rfl, hbf⟩)
          go_ret
          exact ⟨rfl, HWW.out.trans ((HBB.out.trans ((HB.out.trans (hbf.mono HB.out.size)).mono HBB.out.size)).mono HWW.out.size)⟩
        · have hkk : k = 0 ∨ k = 1 ∨ k = 2 ∨ k = 3 ∨ k = 4 ∨ k = 5 ∨ k = 6 := by omega
          clear hk hk7
          rcases hkk with rfl | rfl | rfl | rfl | rfl | rfl | rfl
          · obtain ⟨⟨⟨c0, c1, c2⟩, hP, hG⟩, _, _, _, _, _, _⟩ := HKB.out wr HB.out
            have hm : mayN [] [] 1 = false := by kernel_rfl
            have HM : Hid (∀ X, Below wr.heap.size wr X → Calls Try.prog 10 #[.agg #[.slice none 0 0, .slice none 0 0, .int .i64 1]] X fun e w' => e = .returned (.bool false) ∧ Below X.heap.size X w') := fun X hX => by
              have h := cmay_any _ _ 1 [] [] X (hP.below hX (Nat.le_refl _)) (hG.below hX (Nat.le_refl _)) (by decide) (by decide) (by omega) (by omega)
              rw [hm] at h
              exact h
            clear hP hG hm
            have HAL := Lib.hid (below_new wr (.cells #[.slice none 0 0, .slice none 0 0, .int .i64 1] 25))
            go_wp2_with (go_at_call 10; go_loud (refine (HM.out _ HAL.out).mono ?_; rintro e w10 ⟨rfl, hb10⟩))
            go_roundw
            case rel => exact ⟨1, by omega, by go_num, HB.out.trans ((HAL.out.trans (hb10.mono (by simp))).mono HB.out.size)⟩
            case measure => simp [intOf]
          · obtain ⟨_, ⟨⟨c0, c1, c2⟩, hP, hG⟩, _, _, _, _, _⟩ := HKB.out wr HB.out
            have hm : mayN [(false, [])] [] 1 = false := by kernel_rfl
            have HM : Hid (∀ X, Below wr.heap.size wr X → Calls Try.prog 10 #[.agg #[.slice (some ⟨n9, 0, none⟩) 1 1, .slice none 0 0, .int .i64 1]] X fun e w' => e = .returned (.bool false) ∧ Below X.heap.size X w') := fun X hX => by
              have h := cmay_any _ _ 1 [(false, [])] [] X (hP.below hX (Nat.le_refl _)) (hG.below hX (Nat.le_refl _)) (by decide) (by decide) (by omega) (by omega)
              rw [hm] at h
              exact h
            clear hP hG hm
            have HAL := Lib.hid (below_new wr (.cells #[.slice (some ⟨n9, 0, none⟩) 1 1, .slice none 0 0, .int .i64 1] 25))
            go_wp2_with (go_at_call 10; go_loud (refine (HM.out _ HAL.out).mono ?_; rintro e w10 ⟨rfl, hb10⟩))
            go_roundw
            case rel => exact ⟨2, by omega, by go_num, HB.out.trans ((HAL.out.trans (hb10.mono (by simp))).mono HB.out.size)⟩
            case measure => simp [intOf]
          · obtain ⟨_, _, ⟨⟨c0, c1, c2⟩, hP, hG⟩, _, _, _, _⟩ := HKB.out wr HB.out
            have hm : mayN [(false, [1]), (false, [2])] [] 1 = false := by kernel_rfl
            have HM : Hid (∀ X, Below wr.heap.size wr X → Calls Try.prog 10 #[.agg #[.slice (some ⟨n9 + 1 + 1 + 1, 0, none⟩) 2 2, .slice none 0 0, .int .i64 1]] X fun e w' => e = .returned (.bool false) ∧ Below X.heap.size X w') := fun X hX => by
              have h := cmay_any _ _ 1 [(false, [1]), (false, [2])] [] X (hP.below hX (Nat.le_refl _)) (hG.below hX (Nat.le_refl _)) (by decide) (by decide) (by omega) (by omega)
              rw [hm] at h
              exact h
            clear hP hG hm
            have HAL := Lib.hid (below_new wr (.cells #[.slice (some ⟨n9 + 1 + 1 + 1, 0, none⟩) 2 2, .slice none 0 0, .int .i64 1] 25))
            go_wp2_with (go_at_call 10; go_loud (refine (HM.out _ HAL.out).mono ?_; rintro e w10 ⟨rfl, hb10⟩))
            go_roundw
            case rel => exact ⟨3, by omega, by go_num, HB.out.trans ((HAL.out.trans (hb10.mono (by simp))).mono HB.out.size)⟩
            case measure => simp [intOf]
          · obtain ⟨_, _, _, ⟨⟨c0, c1, c2⟩, hP, hG⟩, _, _, _⟩ := HKB.out wr HB.out
            have hm : mayN [(false, [1, 1])] [] 1 = false := by kernel_rfl
            have HM : Hid (∀ X, Below wr.heap.size wr X → Calls Try.prog 10 #[.agg #[.slice (some ⟨n9 + 1 + 1 + 1 + 1 + 1, 0, none⟩) 1 1, .slice none 0 0, .int .i64 1]] X fun e w' => e = .returned (.bool false) ∧ Below X.heap.size X w') := fun X hX => by
              have h := cmay_any _ _ 1 [(false, [1, 1])] [] X (hP.below hX (Nat.le_refl _)) (hG.below hX (Nat.le_refl _)) (by decide) (by decide) (by omega) (by omega)
              rw [hm] at h
              exact h
            clear hP hG hm
            have HAL := Lib.hid (below_new wr (.cells #[.slice (some ⟨n9 + 1 + 1 + 1 + 1 + 1, 0, none⟩) 1 1, .slice none 0 0, .int .i64 1] 25))
            go_wp2_with (go_at_call 10; go_loud (refine (HM.out _ HAL.out).mono ?_; rintro e w10 ⟨rfl, hb10⟩))
            go_roundw
            case rel => exact ⟨4, by omega, by go_num, HB.out.trans ((HAL.out.trans (hb10.mono (by simp))).mono HB.out.size)⟩
            case measure => simp [intOf]
          · obtain ⟨_, _, _, _, ⟨⟨c0, c1, c2⟩, hP, hG⟩, _, _⟩ := HKB.out wr HB.out
            have hm : mayN [(false, [1])] [(2, 1, [2])] 2 = false := by kernel_rfl
            have HM : Hid (∀ X, Below wr.heap.size wr X → Calls Try.prog 10 #[.agg #[.slice (some ⟨n9 + 1 + 1 + 1 + 1 + 1 + 1 + 1, 0, none⟩) 1 1, .slice (some ⟨n9 + 1 + 1 + 1 + 1 + 1 + 1 + 1 + 1 + 1, 0, none⟩) 1 1, .int .i64 2]] X fun e w' => e = .returned (.bool false) ∧ Below X.heap.size X w') := fun X hX => by
              have h := cmay_any _ _ 2 [(false, [1])] [(2, 1, [2])] X (hP.below hX (Nat.le_refl _)) (hG.below hX (Nat.le_refl _)) (by decide) (by decide) (by omega) (by omega)
              rw [hm] at h
              exact h
            clear hP hG hm
            have HAL := Lib.hid (below_new wr (.cells #[.slice (some ⟨n9 + 1 + 1 + 1 + 1 + 1 + 1 + 1, 0, none⟩) 1 1, .slice (some ⟨n9 + 1 + 1 + 1 + 1 + 1 + 1 + 1 + 1 + 1, 0, none⟩) 1 1, .int .i64 2] 25))
            go_wp2_with (go_at_call 10; go_loud (refine (HM.out _ HAL.out).mono ?_; rintro e w10 ⟨rfl, hb10⟩))
            go_roundw
            case rel => exact ⟨5, by omega, by go_num, HB.out.trans ((HAL.out.trans (hb10.mono (by simp))).mono HB.out.size)⟩
            case measure => simp [intOf]
          · obtain ⟨_, _, _, _, _, ⟨⟨c0, c1, c2⟩, hP, hG⟩, _⟩ := HKB.out wr HB.out
            have hm : mayN [(false, [1])] [(2, 3, [1])] 2 = false := by kernel_rfl
            have HM : Hid (∀ X, Below wr.heap.size wr X → Calls Try.prog 10 #[.agg #[.slice (some ⟨n9 + 1 + 1 + 1 + 1 + 1 + 1 + 1 + 1 + 1 + 1 + 1, 0, none⟩) 1 1, .slice (some ⟨n9 + 1 + 1 + 1 + 1 + 1 + 1 + 1 + 1 + 1 + 1 + 1 + 1 + 1, 0, none⟩) 1 1, .int .i64 2]] X fun e w' => e = .returned (.bool false) ∧ Below X.heap.size X w') := fun X hX => by
              have h := cmay_any _ _ 2 [(false, [1])] [(2, 3, [1])] X (hP.below hX (Nat.le_refl _)) (hG.below hX (Nat.le_refl _)) (by decide) (by decide) (by omega) (by omega)
              rw [hm] at h
              exact h
            clear hP hG hm
            have HAL := Lib.hid (below_new wr (.cells #[.slice (some ⟨n9 + 1 + 1 + 1 + 1 + 1 + 1 + 1 + 1 + 1 + 1 + 1, 0, none⟩) 1 1, .slice (some ⟨n9 + 1 + 1 + 1 + 1 + 1 + 1 + 1 + 1 + 1 + 1 + 1 + 1 + 1, 0, none⟩) 1 1, .int .i64 2] 25))
            go_wp2_with (go_at_call 10; go_loud (refine (HM.out _ HAL.out).mono ?_; rintro e w10 ⟨rfl, hb10⟩))
            go_roundw
            case rel => exact ⟨6, by omega, by go_num, HB.out.trans ((HAL.out.trans (hb10.mono (by simp))).mono HB.out.size)⟩
            case measure => simp [intOf]
          · obtain ⟨_, _, _, _, _, _, ⟨⟨c0, c1, c2⟩, hP, hG⟩⟩ := HKB.out wr HB.out
            have hm : mayN [(false, [65537])] [] 1 = false := by kernel_rfl
            have HM : Hid (∀ X, Below wr.heap.size wr X → Calls Try.prog 10 #[.agg #[.slice (some ⟨n9 + 1 + 1 + 1 + 1 + 1 + 1 + 1 + 1 + 1 + 1 + 1 + 1 + 1 + 1 + 1, 0, none⟩) 1 1, .slice none 0 0, .int .i64 1]] X fun e w' => e = .returned (.bool false) ∧ Below X.heap.size X w') := fun X hX => by
              have h := cmay_any _ _ 1 [(false, [65537])] [] X (hP.below hX (Nat.le_refl _)) (hG.below hX (Nat.le_refl _)) (by decide) (by decide) (by omega) (by omega)
              rw [hm] at h
              exact h
            clear hP hG hm
            have HAL := Lib.hid (below_new wr (.cells #[.slice (some ⟨n9 + 1 + 1 + 1 + 1 + 1 + 1 + 1 + 1 + 1 + 1 + 1 + 1 + 1 + 1 + 1, 0, none⟩) 1 1, .slice none 0 0, .int .i64 1] 25))
            go_wp2_with (go_at_call 10; go_loud (refine (HM.out _ HAL.out).mono ?_; rintro e w10 ⟨rfl, hb10⟩))
            go_roundw
            case rel => exact ⟨7, by omega, by go_num, HB.out.trans ((HAL.out.trans (hb10.mono (by simp))).mono HB.out.size)⟩
            case measure => simp [intOf]
    · have hkk : k = 0 ∨ k = 1 ∨ k = 2 ∨ k = 3 ∨ k = 4 ∨ k = 5 ∨ k = 6 ∨ k = 7 := by omega
      clear hk hk8
      rcases hkk with rfl | rfl | rfl | rfl | rfl | rfl | rfl | rfl
      · obtain ⟨hh, i0, i1, i2, i3, i4, i5⟩ := HTT.out wr HB.out
        have c0 : wr.cell? ⟨W1.heap.size + 1 + 1 + 1 + 1 + 1 + 1, 0, none⟩ = some (.int .u8 1) := block_cell hh rfl
        have c1 : wr.cell? ⟨W1.heap.size + 1 + 1 + 1 + 1 + 1 + 1, 1, none⟩ = some (.slice none 0 0) := block_cell hh rfl
        have c2 : wr.cell? ⟨W1.heap.size + 1 + 1 + 1 + 1 + 1 + 1, 2, none⟩ = some (.string ⟨#[49, 49, 49, 49]⟩) := block_cell hh rfl
        have HU : Hid (IsInts wr (.slice none 0 0) []) := IsInts.nil _
        clear hh i0 i1 i2 i3 i4 i5
        go_upto_region 7 with fail
        clear c0 c1 c2
        generalize hWI : (((((((((wr.alloc (.cells #[.int .u8 1, .slice none 0 0, .string ⟨#[49, 49, 49, 49]⟩] 29)).alloc (.cells #[.int .i64 2, .int .i64 1] 3)).alloc (.cells #[.bool false, .slice (some ⟨wr.heap.size + 1, 0, none⟩) 2 2] 32)).alloc (.cells #[.int .i64 3, .int .u8 1, .slice none 0 0] 34)).alloc (.cells #[.slice (some ⟨wr.heap.size + 1 + 1, 0, none⟩) 1 1, .slice (some ⟨wr.heap.size + 1 + 1 + 1, 0, none⟩) 1 1, .int .i64 3] 25)).alloc (.cells #[.int .i64 (-1), .int .i64 (-2)] 3)).alloc (.cells #[.int .i64 1] 3)).alloc (.cells #[.int .i64 2] 3)).alloc (.cells #[.int .i64 1, .int .i64 2] 3)).alloc (.cells #[.slice (some ⟨wr.heap.size + 1 + 1 + 1 + 1 + 1, 0, none⟩) 2 2, .slice (some ⟨wr.heap.size + 1 + 1 + 1 + 1 + 1 + 1, 0, none⟩) 1 1, .slice (some ⟨wr.heap.size + 1 + 1 + 1 + 1 + 1 + 1 + 1, 0, none⟩) 1 1, .slice (some ⟨wr.heap.size + 1 + 1 + 1 + 1 + 1 + 1 + 1 + 1, 0, none⟩) 2 2] 28) = WI
        have HK := Lib.hid (kn_inner2 wr WI 1 (.slice none 0 0) (.string ⟨#[49, 49, 49, 49]⟩) [] hWI HU.out (by omega))
        have HBI : Hid (Below Wt.heap.size Wt WI) := HB.out.trans ((kn_inner wr WI 1 (.slice none 0 0) (.string ⟨#[49, 49, 49, 49]⟩) hWI).1.mono HB.out.size)
        clear hWI HU HB
        generalize wr.heap.size = n0 at *
        go_loopw [67] (fun i wx => ∃ j : Nat, j ≤ 4 ∧ i = .int .i64 j ∧ Below WI.heap.size WI wx) (fun i _ => 4 - (intOf i).toNat)
        case atStart => exact ⟨0, by omega, rfl, Below.refl _ _⟩
        case round =>
          obtain ⟨j, hj, rfl, hbx⟩ := hrel
          have HBX := Lib.hid hbx
          clear hbx
          by_cases hj4 : j = 4
          · subst hj4
            clear hj
            go_wp2
            go_roundw
            case rel => exact ⟨1, by omega, by go_num, HBI.out.trans (HBX.out.mono HBI.out.size)⟩
            case measure => simp [intOf]
          · have hjj : j = 0 ∨ j = 1 ∨ j = 2 ∨ j = 3 := by omega
            clear hj hj4
            rcases hjj with rfl | rfl | rfl | rfl
            · obtain ⟨s2, ⟨p0, p1, p2⟩, hP, hG, h9, v0, v1, v2, v3⟩ := HK.out wr HBX.out
              have tj : wr.cell? ⟨n0 + 1 + 1 + 1 + 1 + 1 + 1 + 1 + 1 + 1, 0, none⟩ = some (.slice (some ⟨n0 + 1 + 1 + 1 + 1 + 1, 0, none⟩) 2 2) := block_cell h9 rfl
              have HE := ceval_any _ _ _ 3 [(false, [2, 1])] [(3, 1, [])] [-1, -2] wr hP hG v0 (by decide) (by decide) (by decide) (by omega) (by omega)
              have he : evalN [(false, [2, 1])] [(3, 1, [])] 3 [-1, -2] = (true, 0) := kn_eval (k := 0) (j := 0) (by omega) (by omega)
              rw [he] at HE
              have HEV := Lib.hid HE
              clear he HE hP hG h9 v0 v1 v2 v3
              go_wp2_with (go_at_call 5; refine HEV.out.mono ?_; rintro e w5 ⟨rfl, hb5⟩; have HB5 := Lib.hid (HBX.out.trans (hb5.mono HBX.out.size)); clear hb5 s2 p0 p1 p2 tj; have s2 := (HK.out w5 HB5.out).1)
              go_roundw
              case rel => refine ⟨_, _, _, _, _, _, _, _, _, _, _, _, _, _, _, _, _, _, _, _, _, _, _, _, _, _, _, _, ?_, rfl⟩; exact ⟨1, by omega, by go_num, HB5.out⟩
              case measure => simp [intOf]
            · obtain ⟨s2, ⟨p0, p1, p2⟩, hP, hG, h9, v0, v1, v2, v3⟩ := HK.out wr HBX.out
              have tj : wr.cell? ⟨n0 + 1 + 1 + 1 + 1 + 1 + 1 + 1 + 1 + 1, 1, none⟩ = some (.slice (some ⟨n0 + 1 + 1 + 1 + 1 + 1 + 1, 0, none⟩) 1 1) := block_cell h9 rfl
              have HE := ceval_any _ _ _ 3 [(false, [2, 1])] [(3, 1, [])] [1] wr hP hG v1 (by decide) (by decide) (by decide) (by omega) (by omega)
              have he : evalN [(false, [2, 1])] [(3, 1, [])] 3 [1] = (true, 0) := kn_eval (k := 0) (j := 1) (by omega) (by omega)
              rw [he] at HE
              have HEV := Lib.hid HE
              clear he HE hP hG h9 v0 v1 v2 v3
              go_wp2_with (go_at_call 5; refine HEV.out.mono ?_; rintro e w5 ⟨rfl, hb5⟩; have HB5 := Lib.hid (HBX.out.trans (hb5.mono HBX.out.size)); clear hb5 s2 p0 p1 p2 tj; have s2 := (HK.out w5 HB5.out).1)
              go_roundw
              case rel => refine ⟨_, _, _, _, _, _, _, _, _, _, _, _, _, _, _, _, _, _, _, _, _, _, _, _, _, _, _, _, ?_, rfl⟩; exact ⟨2, by omega, by go_num, HB5.out⟩
              case measure => simp [intOf]
            · obtain ⟨s2, ⟨p0, p1, p2⟩, hP, hG, h9, v0, v1, v2, v3⟩ := HK.out wr HBX.out
              have tj : wr.cell? ⟨n0 + 1 + 1 + 1 + 1 + 1 + 1 + 1 + 1 + 1, 2, none⟩ = some (.slice (some ⟨n0 + 1 + 1 + 1 + 1 + 1 + 1 + 1, 0, none⟩) 1 1) := block_cell h9 rfl
              have HE := ceval_any _ _ _ 3 [(false, [2, 1])] [(3, 1, [])] [2] wr hP hG v2 (by decide) (by decide) (by decide) (by omega) (by omega)
              have he : evalN [(false, [2, 1])] [(3, 1, [])] 3 [2] = (true, 0) := kn_eval (k := 0) (j := 2) (by omega) (by omega)
              rw [he] at HE
              have HEV := Lib.hid HE
              clear he HE hP hG h9 v0 v1 v2 v3
              go_wp2_with (go_at_call 5; refine HEV.out.mono ?_; rintro e w5 ⟨rfl, hb5⟩; have HB5 := Lib.hid (HBX.out.trans (hb5.mono HBX.out.size)); clear hb5 s2 p0 p1 p2 tj; have s2 := (HK.out w5 HB5.out).1)
              go_roundw
              case rel => refine ⟨_, _, _, _, _, _, _, _, _, _, _, _, _, _, _, _, _, _, _, _, _, _, _, _, _, _, _, _, ?_, rfl⟩; exact ⟨3, by omega, by go_num, HB5.out⟩
              case measure => simp [intOf]
            · obtain ⟨s2, ⟨p0, p1, p2⟩, hP, hG, h9, v0, v1, v2, v3⟩ := HK.out wr HBX.out
              have tj : wr.cell? ⟨n0 + 1 + 1 + 1 + 1 + 1 + 1 + 1 + 1 + 1, 3, none⟩ = some (.slice (some ⟨n0 + 1 + 1 + 1 + 1 + 1 + 1 + 1 + 1, 0, none⟩) 2 2) := block_cell h9 rfl
              have HE := ceval_any _ _ _ 3 [(false, [2, 1])] [(3, 1, [])] [1, 2] wr hP hG v3 (by decide) (by decide) (by decide) (by omega) (by omega)
              have he : evalN [(false, [2, 1])] [(3, 1, [])] 3 [1, 2] = (true, 0) := kn_eval (k := 0) (j := 3) (by omega) (by omega)
              rw [he] at HE
              have HEV := Lib.hid HE
              clear he HE hP hG h9 v0 v1 v2 v3
              go_wp2_with (go_at_call 5; refine HEV.out.mono ?_; rintro e w5 ⟨rfl, hb5⟩; have HB5 := Lib.hid (HBX.out.trans (hb5.mono HBX.out.size)); clear hb5 s2 p0 p1 p2 tj; have s2 := (HK.out w5 HB5.out).1)
              go_roundw
              case rel => refine ⟨_, _, _, _, _, _, _, _, _, _, _, _, _, _, _, _, _, _, _, _, _, _, _, _, _, _, _, _, ?_, rfl⟩; exact ⟨4, by omega, by go_num, HB5.out⟩
              case measure => simp [intOf]
      · obtain ⟨hh, i0, i1, i2, i3, i4, i5⟩ := HTT.out wr HB.out
        have c0 : wr.cell? ⟨W1.heap.size + 1 + 1 + 1 + 1 + 1 + 1, 3, none⟩ = some (.int .u8 1) := block_cell hh rfl
        have c1 : wr.cell? ⟨W1.heap.size + 1 + 1 + 1 + 1 + 1 + 1, 4, none⟩ = some (.slice (some ⟨W1.heap.size, 0, none⟩) 2 2) := block_cell hh rfl
        have c2 : wr.cell? ⟨W1.heap.size + 1 + 1 + 1 + 1 + 1 + 1, 5, none⟩ = some (.string ⟨#[48, 49, 48, 48]⟩) := block_cell hh rfl
        have HU : Hid (IsInts wr (.slice (some ⟨W1.heap.size, 0, none⟩) 2 2) [1, -2]) := i0
        clear hh i0 i1 i2 i3 i4 i5
        go_upto_region 7 with fail
        clear c0 c1 c2
        generalize hWI : (((((((((wr.alloc (.cells #[.int .u8 1, .slice (some ⟨W1.heap.size, 0, none⟩) 2 2, .string ⟨#[48, 49, 48, 48]⟩] 29)).alloc (.cells #[.int .i64 2, .int .i64 1] 3)).alloc (.cells #[.bool false, .slice (some ⟨wr.heap.size + 1, 0, none⟩) 2 2] 32)).alloc (.cells #[.int .i64 3, .int .u8 1, .slice (some ⟨W1.heap.size, 0, none⟩) 2 2] 34)).alloc (.cells #[.slice (some ⟨wr.heap.size + 1 + 1, 0, none⟩) 1 1, .slice (some ⟨wr.heap.size + 1 + 1 + 1, 0, none⟩) 1 1, .int .i64 3] 25)).alloc (.cells #[.int .i64 (-1), .int .i64 (-2)] 3)).alloc (.cells #[.int .i64 1] 3)).alloc (.cells #[.int .i64 2] 3)).alloc (.cells #[.int .i64 1, .int .i64 2] 3)).alloc (.cells #[.slice (some ⟨wr.heap.size + 1 + 1 + 1 + 1 + 1, 0, none⟩) 2 2, .slice (some ⟨wr.heap.size + 1 + 1 + 1 + 1 + 1 + 1, 0, none⟩) 1 1, .slice (some ⟨wr.heap.size + 1 + 1 + 1 + 1 + 1 + 1 + 1, 0, none⟩) 1 1, .slice (some ⟨wr.heap.size + 1 + 1 + 1 + 1 + 1 + 1 + 1 + 1, 0, none⟩) 2 2] 28) = WI
        have HK := Lib.hid (kn_inner2 wr WI 1 (.slice (some ⟨W1.heap.size, 0, none⟩) 2 2) (.string ⟨#[48, 49, 48, 48]⟩) [1, -2] hWI HU.out (by omega))
        have HBI : Hid (Below Wt.heap.size Wt WI) := HB.out.trans ((kn_inner wr WI 1 (.slice (some ⟨W1.heap.size, 0, none⟩) 2 2) (.string ⟨#[48, 49, 48, 48]⟩) hWI).1.mono HB.out.size)
        clear hWI HU HB
        generalize wr.heap.size = n0 at *
        go_loopw [67] (fun i wx => ∃ j : Nat, j ≤ 4 ∧ i = .int .i64 j ∧ Below WI.heap.size WI wx) (fun i _ => 4 - (intOf i).toNat)
        case atStart => exact ⟨0, by omega, rfl, Below.refl _ _⟩
        case round =>
          obtain ⟨j, hj, rfl, hbx⟩ := hrel
          have HBX := Lib.hid hbx
          clear hbx
          by_cases hj4 : j = 4
          · subst hj4
            clear hj
            go_wp2
            go_roundw
            case rel => exact ⟨2, by omega, by go_num, HBI.out.trans (HBX.out.mono HBI.out.size)⟩
            case measure => simp [intOf]
          · have hjj : j = 0 ∨ j = 1 ∨ j = 2 ∨ j = 3 := by omega
            clear hj hj4
            rcases hjj with rfl | rfl | rfl | rfl
            · obtain ⟨s2, ⟨p0, p1, p2⟩, hP, hG, h9, v0, v1, v2, v3⟩ := HK.out wr HBX.out
              have tj : wr.cell? ⟨n0 + 1 + 1 + 1 + 1 + 1 + 1 + 1 + 1 + 1, 0, none⟩ = some (.slice (some ⟨n0 + 1 + 1 + 1 + 1 + 1, 0, none⟩) 2 2) := block_cell h9 rfl
              have HE := ceval_any _ _ _ 3 [(false, [2, 1])] [(3, 1, [1, -2])] [-1, -2] wr hP hG v0 (by decide) (by decide) (by decide) (by omega) (by omega)
              have he : evalN [(false, [2, 1])] [(3, 1, [1, -2])] 3 [-1, -2] = (false, 0) := kn_eval (k := 1) (j := 0) (by omega) (by omega)
              rw [he] at HE
              have HEV := Lib.hid HE
              clear he HE hP hG h9 v0 v1 v2 v3
              go_wp2_with (go_at_call 5; refine HEV.out.mono ?_; rintro e w5 ⟨rfl, hb5⟩; have HB5 := Lib.hid (HBX.out.trans (hb5.mono HBX.out.size)); clear hb5 s2 p0 p1 p2 tj; have s2 := (HK.out w5 HB5.out).1)
              go_roundw
              case rel => refine ⟨_, _, _, _, _, _, _, _, _, _, _, _, _, _, _, _, _, _, _, _, _, _, _, _, _, _, _, _, ?_, rfl⟩; exact ⟨1, by omega, by go_num, HB5.out⟩
              case measure => simp [intOf]
            · obtain ⟨s2, ⟨p0, p1, p2⟩, hP, hG, h9, v0, v1, v2, v3⟩ := HK.out wr HBX.out
              have tj : wr.cell? ⟨n0 + 1 + 1 + 1 + 1 + 1 + 1 + 1 + 1 + 1, 1, none⟩ = some (.slice (some ⟨n0 + 1 + 1 + 1 + 1 + 1 + 1, 0, none⟩) 1 1) := block_cell h9 rfl
              have HE := ceval_any _ _ _ 3 [(false, [2, 1])] [(3, 1, [1, -2])] [1] wr hP hG v1 (by decide) (by decide) (by decide) (by omega) (by omega)
              have he : evalN [(false, [2, 1])] [(3, 1, [1, -2])] 3 [1] = (true, 0) := kn_eval (k := 1) (j := 1) (by omega) (by omega)
              rw [he] at HE
              have HEV := Lib.hid HE
              clear he HE hP hG h9 v0 v1 v2 v3
              go_wp2_with (go_at_call 5; refine HEV.out.mono ?_; rintro e w5 ⟨rfl, hb5⟩; have HB5 := Lib.hid (HBX.out.trans (hb5.mono HBX.out.size)); clear hb5 s2 p0 p1 p2 tj; have s2 := (HK.out w5 HB5.out).1)
              go_roundw
              case rel => refine ⟨_, _, _, _, _, _, _, _, _, _, _, _, _, _, _, _, _, _, _, _, _, _, _, _, _, _, _, _, ?_, rfl⟩; exact ⟨2, by omega, by go_num, HB5.out⟩
              case measure => simp [intOf]
            · obtain ⟨s2, ⟨p0, p1, p2⟩, hP, hG, h9, v0, v1, v2, v3⟩ := HK.out wr HBX.out
              have tj : wr.cell? ⟨n0 + 1 + 1 + 1 + 1 + 1 + 1 + 1 + 1 + 1, 2, none⟩ = some (.slice (some ⟨n0 + 1 + 1 + 1 + 1 + 1 + 1 + 1, 0, none⟩) 1 1) := block_cell h9 rfl
              have HE := ceval_any _ _ _ 3 [(false, [2, 1])] [(3, 1, [1, -2])] [2] wr hP hG v2 (by decide) (by decide) (by decide) (by omega) (by omega)
              have he : evalN [(false, [2, 1])] [(3, 1, [1, -2])] 3 [2] = (false, 0) := kn_eval (k := 1) (j := 2) (by omega) (by omega)
              rw [he] at HE
              have HEV := Lib.hid HE
              clear he HE hP hG h9 v0 v1 v2 v3
              go_wp2_with (go_at_call 5; refine HEV.out.mono ?_; rintro e w5 ⟨rfl, hb5⟩; have HB5 := Lib.hid (HBX.out.trans (hb5.mono HBX.out.size)); clear hb5 s2 p0 p1 p2 tj; have s2 := (HK.out w5 HB5.out).1)
              go_roundw
              case rel => refine ⟨_, _, _, _, _, _, _, _, _, _, _, _, _, _, _, _, _, _, _, _, _, _, _, _, _, _, _, _, ?_, rfl⟩; exact ⟨3, by omega, by go_num, HB5.out⟩
              case measure => simp [intOf]
            · obtain ⟨s2, ⟨p0, p1, p2⟩, hP, hG, h9, v0, v1, v2, v3⟩ := HK.out wr HBX.out
              have tj : wr.cell? ⟨n0 + 1 + 1 + 1 + 1 + 1 + 1 + 1 + 1 + 1, 3, none⟩ = some (.slice (some ⟨n0 + 1 + 1 + 1 + 1 + 1 + 1 + 1 + 1, 0, none⟩) 2 2) := block_cell h9 rfl
              have HE := ceval_any _ _ _ 3 [(false, [2, 1])] [(3, 1, [1, -2])] [1, 2] wr hP hG v3 (by decide) (by decide) (by decide) (by omega) (by omega)
              have he : evalN [(false, [2, 1])] [(3, 1, [1, -2])] 3 [1, 2] = (false, 0) := kn_eval (k := 1) (j := 3) (by omega) (by omega)
              rw [he] at HE
              have HEV := Lib.hid HE
              clear he HE hP hG h9 v0 v1 v2 v3
              go_wp2_with (go_at_call 5; refine HEV.out.mono ?_; rintro e w5 ⟨rfl, hb5⟩; have HB5 := Lib.hid (HBX.out.trans (hb5.mono HBX.out.size)); clear hb5 s2 p0 p1 p2 tj; have s2 := (HK.out w5 HB5.out).1)
              go_roundw
              case rel => refine ⟨_, _, _, _, _, _, _, _, _, _, _, _, _, _, _, _, _, _, _, _, _, _, _, _, _, _, _, _, ?_, rfl⟩; exact ⟨4, by omega, by go_num, HB5.out⟩
              case measure => simp [intOf]
      · obtain ⟨hh, i0, i1, i2, i3, i4, i5⟩ := HTT.out wr HB.out
        have c0 : wr.cell? ⟨W1.heap.size + 1 + 1 + 1 + 1 + 1 + 1, 6, none⟩ = some (.int .u8 2) := block_cell hh rfl
        have c1 : wr.cell? ⟨W1.heap.size + 1 + 1 + 1 + 1 + 1 + 1, 7, none⟩ = some (.slice none 0 0) := block_cell hh rfl
        have c2 : wr.cell? ⟨W1.heap.size + 1 + 1 + 1 + 1 + 1 + 1, 8, none⟩ = some (.string ⟨#[48, 48, 48, 48]⟩) := block_cell hh rfl
        have HU : Hid (IsInts wr (.slice none 0 0) []) := IsInts.nil _
        clear hh i0 i1 i2 i3 i4 i5
        go_upto_region 7 with fail
        clear c0 c1 c2
        generalize hWI : (((((((((wr.alloc (.cells #[.int .u8 2, .slice none 0 0, .string ⟨#[48, 48, 48, 48]⟩] 29)).alloc (.cells #[.int .i64 2, .int .i64 1] 3)).alloc (.cells #[.bool false, .slice (some ⟨wr.heap.size + 1, 0, none⟩) 2 2] 32)).alloc (.cells #[.int .i64 3, .int .u8 2, .slice none 0 0] 34)).alloc (.cells #[.slice (some ⟨wr.heap.size + 1 + 1, 0, none⟩) 1 1, .slice (some ⟨wr.heap.size + 1 + 1 + 1, 0, none⟩) 1 1, .int .i64 3] 25)).alloc (.cells #[.int .i64 (-1), .int .i64 (-2)] 3)).alloc (.cells #[.int .i64 1] 3)).alloc (.cells #[.int .i64 2] 3)).alloc (.cells #[.int .i64 1, .int .i64 2] 3)).alloc (.cells #[.slice (some ⟨wr.heap.size + 1 + 1 + 1 + 1 + 1, 0, none⟩) 2 2, .slice (some ⟨wr.heap.size + 1 + 1 + 1 + 1 + 1 + 1, 0, none⟩) 1 1, .slice (some ⟨wr.heap.size + 1 + 1 + 1 + 1 + 1 + 1 + 1, 0, none⟩) 1 1, .slice (some ⟨wr.heap.size + 1 + 1 + 1 + 1 + 1 + 1 + 1 + 1, 0, none⟩) 2 2] 28) = WI
        have HK := Lib.hid (kn_inner2 wr WI 2 (.slice none 0 0) (.string ⟨#[48, 48, 48, 48]⟩) [] hWI HU.out (by omega))
        have HBI : Hid (Below Wt.heap.size Wt WI) := HB.out.trans ((kn_inner wr WI 2 (.slice none 0 0) (.string ⟨#[48, 48, 48, 48]⟩) hWI).1.mono HB.out.size)
        clear hWI HU HB
        generalize wr.heap.size = n0 at *
        go_loopw [67] (fun i wx => ∃ j : Nat, j ≤ 4 ∧ i = .int .i64 j ∧ Below WI.heap.size WI wx) (fun i _ => 4 - (intOf i).toNat)
        case atStart => exact ⟨0, by omega, rfl, Below.refl _ _⟩
        case round =>
          obtain ⟨j, hj, rfl, hbx⟩ := hrel
          have HBX := Lib.hid hbx
          clear hbx
          by_cases hj4 : j = 4
          · subst hj4
            clear hj
            go_wp2
            go_roundw
            case rel => exact ⟨3, by omega, by go_num, HBI.out.trans (HBX.out.mono HBI.out.size)⟩
            case measure => simp [intOf]
          · have hjj : j = 0 ∨ j = 1 ∨ j = 2 ∨ j = 3 := by omega
            clear hj hj4
            rcases hjj with rfl | rfl | rfl | rfl
            · obtain ⟨s2, ⟨p0, p1, p2⟩, hP, hG, h9, v0, v1, v2, v3⟩ := HK.out wr HBX.out
              have tj : wr.cell? ⟨n0 + 1 + 1 + 1 + 1 + 1 + 1 + 1 + 1 + 1, 0, none⟩ = some (.slice (some ⟨n0 + 1 + 1 + 1 + 1 + 1, 0, none⟩) 2 2) := block_cell h9 rfl
              have HE := ceval_any _ _ _ 3 [(false, [2, 1])] [(3, 2, [])] [-1, -2] wr hP hG v0 (by decide) (by decide) (by decide) (by omega) (by omega)
              have he : evalN [(false, [2, 1])] [(3, 2, [])] 3 [-1, -2] = (false, 0) := kn_eval (k := 2) (j := 0) (by omega) (by omega)
              rw [he] at HE
              have HEV := Lib.hid HE
              clear he HE hP hG h9 v0 v1 v2 v3
              go_wp2_with (go_at_call 5; refine HEV.out.mono ?_; rintro e w5 ⟨rfl, hb5⟩; have HB5 := Lib.hid (HBX.out.trans (hb5.mono HBX.out.size)); clear hb5 s2 p0 p1 p2 tj; have s2 := (HK.out w5 HB5.out).1)
              go_roundw
              case rel => refine ⟨_, _, _, _, _, _, _, _, _, _, _, _, _, _, _, _, _, _, _, _, _, _, _, _, _, _, _, _, ?_, rfl⟩; exact ⟨1, by omega, by go_num, HB5.out⟩
              case measure => simp [intOf]
            · obtain ⟨s2, ⟨p0, p1, p2⟩, hP, hG, h9, v0, v1, v2, v3⟩ := HK.out wr HBX.out
              have tj : wr.cell? ⟨n0 + 1 + 1 + 1 + 1 + 1 + 1 + 1 + 1 + 1, 1, none⟩ = some (.slice (some ⟨n0 + 1 + 1 + 1 + 1 + 1 + 1, 0, none⟩) 1 1) := block_cell h9 rfl
              have HE := ceval_any _ _ _ 3 [(false, [2, 1])] [(3, 2, [])] [1] wr hP hG v1 (by decide) (by decide) (by decide) (by omega) (by omega)
              have he : evalN [(false, [2, 1])] [(3, 2, [])] 3 [1] = (false, 0) := kn_eval (k := 2) (j := 1) (by omega) (by omega)
              rw [he] at HE
              have HEV := Lib.hid HE
              clear he HE hP hG h9 v0 v1 v2 v3
              go_wp2_with (go_at_call 5; refine HEV.out.mono ?_; rintro e w5 ⟨rfl, hb5⟩; have HB5 := Lib.hid (HBX.out.trans (hb5.mono HBX.out.size)); clear hb5 s2 p0 p1 p2 tj; have s2 := (HK.out w5 HB5.out).1)
              go_roundw
              case rel => refine ⟨_, _, _, _, _, _, _, _, _, _, _, _, _, _, _, _, _, _, _, _, _, _, _, _, _, _, _, _, ?_, rfl⟩; exact ⟨2, by omega, by go_num, HB5.out⟩
              case measure => simp [intOf]
            · obtain ⟨s2, ⟨p0, p1, p2⟩, hP, hG, h9, v0, v1, v2, v3⟩ := HK.out wr HBX.out
              have tj : wr.cell? ⟨n0 + 1 + 1 + 1 + 1 + 1 + 1 + 1 + 1 + 1, 2, none⟩ = some (.slice (some ⟨n0 + 1 + 1 + 1 + 1 + 1 + 1 + 1, 0, none⟩) 1 1) := block_cell h9 rfl
              have HE := ceval_any _ _ _ 3 [(false, [2, 1])] [(3, 2, [])] [2] wr hP hG v2 (by decide) (by decide) (by decide) (by omega) (by omega)
              have he : evalN [(false, [2, 1])] [(3, 2, [])] 3 [2] = (false, 0) := kn_eval (k := 2) (j := 2) (by omega) (by omega)
              rw [he] at HE
              have HEV := Lib.hid HE
              clear he HE hP hG h9 v0 v1 v2 v3
              go_wp2_with (go_at_call 5; refine HEV.out.mono ?_; rintro e w5 ⟨rfl, hb5⟩; have HB5 := Lib.hid (HBX.out.trans (hb5.mono HBX.out.size)); clear hb5 s2 p0 p1 p2 tj; have s2 := (HK.out w5 HB5.out).1)
              go_roundw
              case rel => refine ⟨_, _, _, _, _, _, _, _, _, _, _, _, _, _, _, _, _, _, _, _, _, _, _, _, _, _, _, _, ?_, rfl⟩; exact ⟨3, by omega, by go_num, HB5.out⟩
              case measure => simp [intOf]
            · obtain ⟨s2, ⟨p0, p1, p2⟩, hP, hG, h9, v0, v1, v2, v3⟩ := HK.out wr HBX.out
              have tj : wr.cell? ⟨n0 + 1 + 1 + 1 + 1 + 1 + 1 + 1 + 1 + 1, 3, none⟩ = some (.slice (some ⟨n0 + 1 + 1 + 1 + 1 + 1 + 1 + 1 + 1, 0, none⟩) 2 2) := block_cell h9 rfl
              have HE := ceval_any _ _ _ 3 [(false, [2, 1])] [(3, 2, [])] [1, 2] wr hP hG v3 (by decide) (by decide) (by decide) (by omega) (by omega)
              have he : evalN [(false, [2, 1])] [(3, 2, [])] 3 [1, 2] = (false, 0) := kn_eval (k := 2) (j := 3) (by omega) (by omega)
              rw [he] at HE
              have HEV := Lib.hid HE
              clear he HE hP hG h9 v0 v1 v2 v3
              go_wp2_with (go_at_call 5; refine HEV.out.mono ?_; rintro e w5 ⟨rfl, hb5⟩; have HB5 := Lib.hid (HBX.out.trans (hb5.mono HBX.out.size)); clear hb5 s2 p0 p1 p2 tj; have s2 := (HK.out w5 HB5.out).1)
              go_roundw
              case rel => refine ⟨_, _, _, _, _, _, _, _, _, _, _, _, _, _, _, _, _, _, _, _, _, _, _, _, _, _, _, _, ?_, rfl⟩; exact ⟨4, by omega, by go_num, HB5.out⟩
              case measure => simp [intOf]
      · obtain ⟨hh, i0, i1, i2, i3, i4, i5⟩ := HTT.out wr HB.out
        have c0 : wr.cell? ⟨W1.heap.size + 1 + 1 + 1 + 1 + 1 + 1, 9, none⟩ = some (.int .u8 2) := block_cell hh rfl
        have c1 : wr.cell? ⟨W1.heap.size + 1 + 1 + 1 + 1 + 1 + 1, 10, none⟩ = some (.slice (some ⟨W1.heap.size + 1, 0, none⟩) 2 2) := block_cell hh rfl
        have c2 : wr.cell? ⟨W1.heap.size + 1 + 1 + 1 + 1 + 1 + 1, 11, none⟩ = some (.string ⟨#[49, 49, 48, 49]⟩) := block_cell hh rfl
        have HU : Hid (IsInts wr (.slice (some ⟨W1.heap.size + 1, 0, none⟩) 2 2) [1, -2]) := i1
        clear hh i0 i1 i2 i3 i4 i5
        go_upto_region 7 with fail
        clear c0 c1 c2
        generalize hWI : (((((((((wr.alloc (.cells #[.int .u8 2, .slice (some ⟨W1.heap.size + 1, 0, none⟩) 2 2, .string ⟨#[49, 49, 48, 49]⟩] 29)).alloc (.cells #[.int .i64 2, .int .i64 1] 3)).alloc (.cells #[.bool false, .slice (some ⟨wr.heap.size + 1, 0, none⟩) 2 2] 32)).alloc (.cells #[.int .i64 3, .int .u8 2, .slice (some ⟨W1.heap.size + 1, 0, none⟩) 2 2] 34)).alloc (.cells #[.slice (some ⟨wr.heap.size + 1 + 1, 0, none⟩) 1 1, .slice (some ⟨wr.heap.size + 1 + 1 + 1, 0, none⟩) 1 1, .int .i64 3] 25)).alloc (.cells #[.int .i64 (-1), .int .i64 (-2)] 3)).alloc (.cells #[.int .i64 1] 3)).alloc (.cells #[.int .i64 2] 3)).alloc (.cells #[.int .i64 1, .int .i64 2] 3)).alloc (.cells #[.slice (some ⟨wr.heap.size + 1 + 1 + 1 + 1 + 1, 0, none⟩) 2 2, .slice (some ⟨wr.heap.size + 1 + 1 + 1 + 1 + 1 + 1, 0, none⟩) 1 1, .slice (some ⟨wr.heap.size + 1 + 1 + 1 + 1 + 1 + 1 + 1, 0, none⟩) 1 1, .slice (some ⟨wr.heap.size + 1 + 1 + 1 + 1 + 1 + 1 + 1 + 1, 0, none⟩) 2 2] 28) = WI
        have HK := Lib.hid (kn_inner2 wr WI 2 (.slice (some ⟨W1.heap.size + 1, 0, none⟩) 2 2) (.string ⟨#[49, 49, 48, 49]⟩) [1, -2] hWI HU.out (by omega))
        have HBI : Hid (Below Wt.heap.size Wt WI) := HB.out.trans ((kn_inner wr WI 2 (.slice (some ⟨W1.heap.size + 1, 0, none⟩) 2 2) (.string ⟨#[49, 49, 48, 49]⟩) hWI).1.mono HB.out.size)
        clear hWI HU HB
        generalize wr.heap.size = n0 at *
        go_loopw [67] (fun i wx => ∃ j : Nat, j ≤ 4 ∧ i = .int .i64 j ∧ Below WI.heap.size WI wx) (fun i _ => 4 - (intOf i).toNat)
        case atStart => exact ⟨0, by omega, rfl, Below.refl _ _⟩
        case round =>
          obtain ⟨j, hj, rfl, hbx⟩ := hrel
          have HBX := Lib.hid hbx
          clear hbx
          by_cases hj4 : j = 4
          · subst hj4
            clear hj
            go_wp2
            go_roundw
            case rel => exact ⟨4, by omega, by go_num, HBI.out.trans (HBX.out.mono HBI.out.size)⟩
            case measure => simp [intOf]
          · have hjj : j = 0 ∨ j = 1 ∨ j = 2 ∨ j = 3 := by omega
            clear hj hj4
            rcases hjj with rfl | rfl | rfl | rfl
            · obtain ⟨s2, ⟨p0, p1, p2⟩, hP, hG, h9, v0, v1, v2, v3⟩ := HK.out wr HBX.out
              have tj : wr.cell? ⟨n0 + 1 + 1 + 1 + 1 + 1 + 1 + 1 + 1 + 1, 0, none⟩ = some (.slice (some ⟨n0 + 1 + 1 + 1 + 1 + 1, 0, none⟩) 2 2) := block_cell h9 rfl
              have HE := ceval_any _ _ _ 3 [(false, [2, 1])] [(3, 2, [1, -2])] [-1, -2] wr hP hG v0 (by decide) (by decide) (by decide) (by omega) (by omega)
              have he : evalN [(false, [2, 1])] [(3, 2, [1, -2])] 3 [-1, -2] = (true, 0) := kn_eval (k := 3) (j := 0) (by omega) (by omega)
              rw [he] at HE
              have HEV := Lib.hid HE
              clear he HE hP hG h9 v0 v1 v2 v3
              go_wp2_with (go_at_call 5; refine HEV.out.mono ?_; rintro e w5 ⟨rfl, hb5⟩; have HB5 := Lib.hid (HBX.out.trans (hb5.mono HBX.out.size)); clear hb5 s2 p0 p1 p2 tj; have s2 := (HK.out w5 HB5.out).1)
              go_roundw
              case rel => refine ⟨_, _, _, _, _, _, _, _, _, _, _, _, _, _, _, _, _, _, _, _, _, _, _, _, _, _, _, _, ?_, rfl⟩; exact ⟨1, by omega, by go_num, HB5.out⟩
              case measure => simp [intOf]
            · obtain ⟨s2, ⟨p0, p1, p2⟩, hP, hG, h9, v0, v1, v2, v3⟩ := HK.out wr HBX.out
              have tj : wr.cell? ⟨n0 + 1 + 1 + 1 + 1 + 1 + 1 + 1 + 1 + 1, 1, none⟩ = some (.slice (some ⟨n0 + 1 + 1 + 1 + 1 + 1 + 1, 0, none⟩) 1 1) := block_cell h9 rfl
              have HE := ceval_any _ _ _ 3 [(false, [2, 1])] [(3, 2, [1, -2])] [1] wr hP hG v1 (by decide) (by decide) (by decide) (by omega) (by omega)
              have he : evalN [(false, [2, 1])] [(3, 2, [1, -2])] 3 [1] = (true, 0) := kn_eval (k := 3) (j := 1) (by omega) (by omega)
              rw [he] at HE
              have HEV := Lib.hid HE
              clear he HE hP hG h9 v0 v1 v2 v3
              go_wp2_with (go_at_call 5; refine HEV.out.mono ?_; rintro e w5 ⟨rfl, hb5⟩; have HB5 := Lib.hid (HBX.out.trans (hb5.mono HBX.out.size)); clear hb5 s2 p0 p1 p2 tj; have s2 := (HK.out w5 HB5.out).1)
              go_roundw
              case rel => refine ⟨_, _, _, _, _, _, _, _, _, _, _, _, _, _, _, _, _, _, _, _, _, _, _, _, _, _, _, _, ?_, rfl⟩; exact ⟨2, by omega, by go_num, HB5.out⟩
              case measure => simp [intOf]
            · obtain ⟨s2, ⟨p0, p1, p2⟩, hP, hG, h9, v0, v1, v2, v3⟩ := HK.out wr HBX.out
              have tj : wr.cell? ⟨n0 + 1 + 1 + 1 + 1 + 1 + 1 + 1 + 1 + 1, 2, none⟩ = some (.slice (some ⟨n0 + 1 + 1 + 1 + 1 + 1 + 1 + 1, 0, none⟩) 1 1) := block_cell h9 rfl
              have HE := ceval_any _ _ _ 3 [(false, [2, 1])] [(3, 2, [1, -2])] [2] wr hP hG v2 (by decide) (by decide) (by decide) (by omega) (by omega)
              have he : evalN [(false, [2, 1])] [(3, 2, [1, -2])] 3 [2] = (false, 0) := kn_eval (k := 3) (j := 2) (by omega) (by omega)
              rw [he] at HE
              have HEV := Lib.hid HE
              clear he HE hP hG h9 v0 v1 v2 v3
              go_wp2_with (go_at_call 5; refine HEV.out.mono ?_; rintro e w5 ⟨rfl, hb5⟩; have HB5 := Lib.hid (HBX.out.trans (hb5.mono HBX.out.size)); clear hb5 s2 p0 p1 p2 tj; have s2 := (HK.out w5 HB5.out).1)
              go_roundw
              case rel => refine ⟨_, _, _, _, _, _, _, _, _, _, _, _, _, _, _, _, _, _, _, _, _, _, _, _, _, _, _, _, ?_, rfl⟩; exact ⟨3, by omega, by go_num, HB5.out⟩
              case measure => simp [intOf]
            · obtain ⟨s2, ⟨p0, p1, p2⟩, hP, hG, h9, v0, v1, v2, v3⟩ := HK.out wr HBX.out
              have tj : wr.cell? ⟨n0 + 1 + 1 + 1 + 1 + 1 + 1 + 1 + 1 + 1, 3, none⟩ = some (.slice (some ⟨n0 + 1 + 1 + 1 + 1 + 1 + 1 + 1 + 1, 0, none⟩) 2 2) := block_cell h9 rfl
              have HE := ceval_any _ _ _ 3 [(false, [2, 1])] [(3, 2, [1, -2])] [1, 2] wr hP hG v3 (by decide) (by decide) (by decide) (by omega) (by omega)
              have he : evalN [(false, [2, 1])] [(3, 2, [1, -2])] 3 [1, 2] = (true, 0) := kn_eval (k := 3) (j := 3) (by omega) (by omega)
              rw [he] at HE
              have HEV := Lib.hid HE
              clear he HE hP hG h9 v0 v1 v2 v3
              go_wp2_with (go_at_call 5; refine HEV.out.mono ?_; rintro e w5 ⟨rfl, hb5⟩; have HB5 := Lib.hid (HBX.out.trans (hb5.mono HBX.out.size)); clear hb5 s2 p0 p1 p2 tj; have s2 := (HK.out w5 HB5.out).1)
              go_roundw
              case rel => refine ⟨_, _, _, _, _, _, _, _, _, _, _, _, _, _, _, _, _, _, _, _, _, _, _, _, _, _, _, _, ?_, rfl⟩; exact ⟨4, by omega, by go_num, HB5.out⟩
              case measure => simp [intOf]
      · obtain ⟨hh, i0, i1, i2, i3, i4, i5⟩ := HTT.out wr HB.out
        have c0 : wr.cell? ⟨W1.heap.size + 1 + 1 + 1 + 1 + 1 + 1, 12, none⟩ = some (.int .u8 3) := block_cell hh rfl
        have c1 : wr.cell? ⟨W1.heap.size + 1 + 1 + 1 + 1 + 1 + 1, 13, none⟩ = some (.slice (some ⟨W1.heap.size + 1 + 1, 0, none⟩) 2 2) := block_cell hh rfl
        have c2 : wr.cell? ⟨W1.heap.size + 1 + 1 + 1 + 1 + 1 + 1, 14, none⟩ = some (.string ⟨#[48, 49, 49, 48]⟩) := block_cell hh rfl
        have HU : Hid (IsInts wr (.slice (some ⟨W1.heap.size + 1 + 1, 0, none⟩) 2 2) [1, 2]) := i2
        clear hh i0 i1 i2 i3 i4 i5
        go_upto_region 7 with fail
        clear c0 c1 c2
        generalize hWI : (((((((((wr.alloc (.cells #[.int .u8 3, .slice (some ⟨W1.heap.size + 1 + 1, 0, none⟩) 2 2, .string ⟨#[48, 49, 49, 48]⟩] 29)).alloc (.cells #[.int .i64 2, .int .i64 1] 3)).alloc (.cells #[.bool false, .slice (some ⟨wr.heap.size + 1, 0, none⟩) 2 2] 32)).alloc (.cells #[.int .i64 3, .int .u8 3, .slice (some ⟨W1.heap.size + 1 + 1, 0, none⟩) 2 2] 34)).alloc (.cells #[.slice (some ⟨wr.heap.size + 1 + 1, 0, none⟩) 1 1, .slice (some ⟨wr.heap.size + 1 + 1 + 1, 0, none⟩) 1 1, .int .i64 3] 25)).alloc (.cells #[.int .i64 (-1), .int .i64 (-2)] 3)).alloc (.cells #[.int .i64 1] 3)).alloc (.cells #[.int .i64 2] 3)).alloc (.cells #[.int .i64 1, .int .i64 2] 3)).alloc (.cells #[.slice (some ⟨wr.heap.size + 1 + 1 + 1 + 1 + 1, 0, none⟩) 2 2, .slice (some ⟨wr.heap.size + 1 + 1 + 1 + 1 + 1 + 1, 0, none⟩) 1 1, .slice (some ⟨wr.heap.size + 1 + 1 + 1 + 1 + 1 + 1 + 1, 0, none⟩) 1 1, .slice (some ⟨wr.heap.size + 1 + 1 + 1 + 1 + 1 + 1 + 1 + 1, 0, none⟩) 2 2] 28) = WI
        have HK := Lib.hid (kn_inner2 wr WI 3 (.slice (some ⟨W1.heap.size + 1 + 1, 0, none⟩) 2 2) (.string ⟨#[48, 49, 49, 48]⟩) [1, 2] hWI HU.out (by omega))
        have HBI : Hid (Below Wt.heap.size Wt WI) := HB.out.trans ((kn_inner wr WI 3 (.slice (some ⟨W1.heap.size + 1 + 1, 0, none⟩) 2 2) (.string ⟨#[48, 49, 49, 48]⟩) hWI).1.mono HB.out.size)
        clear hWI HU HB
        generalize wr.heap.size = n0 at *
        go_loopw [67] (fun i wx => ∃ j : Nat, j ≤ 4 ∧ i = .int .i64 j ∧ Below WI.heap.size WI wx) (fun i _ => 4 - (intOf i).toNat)
        case atStart => exact ⟨0, by omega, rfl, Below.refl _ _⟩
        case round =>
          obtain ⟨j, hj, rfl, hbx⟩ := hrel
          have HBX := Lib.hid hbx
          clear hbx
          by_cases hj4 : j = 4
          · subst hj4
            clear hj
            go_wp2
            go_roundw
            case rel => exact ⟨5, by omega, by go_num, HBI.out.trans (HBX.out.mono HBI.out.size)⟩
            case measure => simp [intOf]
          · have hjj : j = 0 ∨ j = 1 ∨ j = 2 ∨ j = 3 := by omega
            clear hj hj4
            rcases hjj with rfl | rfl | rfl | rfl
            · obtain ⟨s2, ⟨p0, p1, p2⟩, hP, hG, h9, v0, v1, v2, v3⟩ := HK.out wr HBX.out
              have tj : wr.cell? ⟨n0 + 1 + 1 + 1 + 1 + 1 + 1 + 1 + 1 + 1, 0, none⟩ = some (.slice (some ⟨n0 + 1 + 1 + 1 + 1 + 1, 0, none⟩) 2 2) := block_cell h9 rfl
              have HE := ceval_any _ _ _ 3 [(false, [2, 1])] [(3, 3, [1, 2])] [-1, -2] wr hP hG v0 (by decide) (by decide) (by decide) (by omega) (by omega)
              have he : evalN [(false, [2, 1])] [(3, 3, [1, 2])] 3 [-1, -2] = (false, 0) := kn_eval (k := 4) (j := 0) (by omega) (by omega)
              rw [he] at HE
              have HEV := Lib.hid HE
              clear he HE hP hG h9 v0 v1 v2 v3
              go_wp2_with (go_at_call 5; refine HEV.out.mono ?_; rintro e w5 ⟨rfl, hb5⟩; have HB5 := Lib.hid (HBX.out.trans (hb5.mono HBX.out.size)); clear hb5 s2 p0 p1 p2 tj; have s2 := (HK.out w5 HB5.out).1)
              go_roundw
              case rel => refine ⟨_, _, _, _, _, _, _, _, _, _, _, _, _, _, _, _, _, _, _, _, _, _, _, _, _, _, _, _, ?_, rfl⟩; exact ⟨1, by omega, by go_num, HB5.out⟩
              case measure => simp [intOf]
            · obtain ⟨s2, ⟨p0, p1, p2⟩, hP, hG, h9, v0, v1, v2, v3⟩ := HK.out wr HBX.out
              have tj : wr.cell? ⟨n0 + 1 + 1 + 1 + 1 + 1 + 1 + 1 + 1 + 1, 1, none⟩ = some (.slice (some ⟨n0 + 1 + 1 + 1 + 1 + 1 + 1, 0, none⟩) 1 1) := block_cell h9 rfl
              have HE := ceval_any _ _ _ 3 [(false, [2, 1])] [(3, 3, [1, 2])] [1] wr hP hG v1 (by decide) (by decide) (by decide) (by omega) (by omega)
              have he : evalN [(false, [2, 1])] [(3, 3, [1, 2])] 3 [1] = (true, 0) := kn_eval (k := 4) (j := 1) (by omega) (by omega)
              rw [he] at HE
              have HEV := Lib.hid HE
              clear he HE hP hG h9 v0 v1 v2 v3
              go_wp2_with (go_at_call 5; refine HEV.out.mono ?_; rintro e w5 ⟨rfl, hb5⟩; have HB5 := Lib.hid (HBX.out.trans (hb5.mono HBX.out.size)); clear hb5 s2 p0 p1 p2 tj; have s2 := (HK.out w5 HB5.out).1)
              go_roundw
              case rel => refine ⟨_, _, _, _, _, _, _, _, _, _, _, _, _, _, _, _, _, _, _, _, _, _, _, _, _, _, _, _, ?_, rfl⟩; exact ⟨2, by omega, by go_num, HB5.out⟩
              case measure => simp [intOf]
            · obtain ⟨s2, ⟨p0, p1, p2⟩, hP, hG, h9, v0, v1, v2, v3⟩ := HK.out wr HBX.out
              have tj : wr.cell? ⟨n0 + 1 + 1 + 1 + 1 + 1 + 1 + 1 + 1 + 1, 2, none⟩ = some (.slice (some ⟨n0 + 1 + 1 + 1 + 1 + 1 + 1 + 1, 0, none⟩) 1 1) := block_cell h9 rfl
              have HE := ceval_any _ _ _ 3 [(false, [2, 1])] [(3, 3, [1, 2])] [2] wr hP hG v2 (by decide) (by decide) (by decide) (by omega) (by omega)
              have he : evalN [(false, [2, 1])] [(3, 3, [1, 2])] 3 [2] = (true, 0) := kn_eval (k := 4) (j := 2) (by omega) (by omega)
              rw [he] at HE
              have HEV := Lib.hid HE
              clear he HE hP hG h9 v0 v1 v2 v3
              go_wp2_with (go_at_call 5; refine HEV.out.mono ?_; rintro e w5 ⟨rfl, hb5⟩; have HB5 := Lib.hid (HBX.out.trans (hb5.mono HBX.out.size)); clear hb5 s2 p0 p1 p2 tj; have s2 := (HK.out w5 HB5.out).1)
              go_roundw
              case rel => refine ⟨_, _, _, _, _, _, _, _, _, _, _, _, _, _, _, _, _, _, _, _, _, _, _, _, _, _, _, _, ?_, rfl⟩; exact ⟨3, by omega, by go_num, HB5.out⟩
              case measure => simp [intOf]
            · obtain ⟨s2, ⟨p0, p1, p2⟩, hP, hG, h9, v0, v1, v2, v3⟩ := HK.out wr HBX.out
              have tj : wr.cell? ⟨n0 + 1 + 1 + 1 + 1 + 1 + 1 + 1 + 1 + 1, 3, none⟩ = some (.slice (some ⟨n0 + 1 + 1 + 1 + 1 + 1 + 1 + 1 + 1, 0, none⟩) 2 2) := block_cell h9 rfl
              have HE := ceval_any _ _ _ 3 [(false, [2, 1])] [(3, 3, [1, 2])] [1, 2] wr hP hG v3 (by decide) (by decide) (by decide) (by omega) (by omega)
              have he : evalN [(false, [2, 1])] [(3, 3, [1, 2])] 3 [1, 2] = (false, 0) := kn_eval (k := 4) (j := 3) (by omega) (by omega)
              rw [he] at HE
              have HEV := Lib.hid HE
              clear he HE hP hG h9 v0 v1 v2 v3
              go_wp2_with (go_at_call 5; refine HEV.out.mono ?_; rintro e w5 ⟨rfl, hb5⟩; have HB5 := Lib.hid (HBX.out.trans (hb5.mono HBX.out.size)); clear hb5 s2 p0 p1 p2 tj; have s2 := (HK.out w5 HB5.out).1)
              go_roundw
              case rel => refine ⟨_, _, _, _, _, _, _, _, _, _, _, _, _, _, _, _, _, _, _, _, _, _, _, _, _, _, _, _, ?_, rfl⟩; exact ⟨4, by omega, by go_num, HB5.out⟩
              case measure => simp [intOf]
      · obtain ⟨hh, i0, i1, i2, i3, i4, i5⟩ := HTT.out wr HB.out
        have c0 : wr.cell? ⟨W1.heap.size + 1 + 1 + 1 + 1 + 1 + 1, 15, none⟩ = some (.int .u8 3) := block_cell hh rfl
        have c1 : wr.cell? ⟨W1.heap.size + 1 + 1 + 1 + 1 + 1 + 1, 16, none⟩ = some (.slice (some ⟨W1.heap.size + 1 + 1 + 1, 0, none⟩) 2 2) := block_cell hh rfl
        have c2 : wr.cell? ⟨W1.heap.size + 1 + 1 + 1 + 1 + 1 + 1, 17, none⟩ = some (.string ⟨#[48, 48, 48, 48]⟩) := block_cell hh rfl
        have HU : Hid (IsInts wr (.slice (some ⟨W1.heap.size + 1 + 1 + 1, 0, none⟩) 2 2) [1, 1]) := i3
        clear hh i0 i1 i2 i3 i4 i5
        go_upto_region 7 with fail
        clear c0 c1 c2
        generalize hWI : (((((((((wr.alloc (.cells #[.int .u8 3, .slice (some ⟨W1.heap.size + 1 + 1 + 1, 0, none⟩) 2 2, .string ⟨#[48, 48, 48, 48]⟩] 29)).alloc (.cells #[.int .i64 2, .int .i64 1] 3)).alloc (.cells #[.bool false, .slice (some ⟨wr.heap.size + 1, 0, none⟩) 2 2] 32)).alloc (.cells #[.int .i64 3, .int .u8 3, .slice (some ⟨W1.heap.size + 1 + 1 + 1, 0, none⟩) 2 2] 34)).alloc (.cells #[.slice (some ⟨wr.heap.size + 1 + 1, 0, none⟩) 1 1, .slice (some ⟨wr.heap.size + 1 + 1 + 1, 0, none⟩) 1 1, .int .i64 3] 25)).alloc (.cells #[.int .i64 (-1), .int .i64 (-2)] 3)).alloc (.cells #[.int .i64 1] 3)).alloc (.cells #[.int .i64 2] 3)).alloc (.cells #[.int .i64 1, .int .i64 2] 3)).alloc (.cells #[.slice (some ⟨wr.heap.size + 1 + 1 + 1 + 1 + 1, 0, none⟩) 2 2, .slice (some ⟨wr.heap.size + 1 + 1 + 1 + 1 + 1 + 1, 0, none⟩) 1 1, .slice (some ⟨wr.heap.size + 1 + 1 + 1 + 1 + 1 + 1 + 1, 0, none⟩) 1 1, .slice (some ⟨wr.heap.size + 1 + 1 + 1 + 1 + 1 + 1 + 1 + 1, 0, none⟩) 2 2] 28) = WI
        have HK := Lib.hid (kn_inner2 wr WI 3 (.slice (some ⟨W1.heap.size + 1 + 1 + 1, 0, none⟩) 2 2) (.string ⟨#[48, 48, 48, 48]⟩) [1, 1] hWI HU.out (by omega))
        have HBI : Hid (Below Wt.heap.size Wt WI) := HB.out.trans ((kn_inner wr WI 3 (.slice (some ⟨W1.heap.size + 1 + 1 + 1, 0, none⟩) 2 2) (.string ⟨#[48, 48, 48, 48]⟩) hWI).1.mono HB.out.size)
        clear hWI HU HB
        generalize wr.heap.size = n0 at *
        go_loopw [67] (fun i wx => ∃ j : Nat, j ≤ 4 ∧ i = .int .i64 j ∧ Below WI.heap.size WI wx) (fun i _ => 4 - (intOf i).toNat)
        case atStart => exact ⟨0, by omega, rfl, Below.refl _ _⟩
        case round =>
          obtain ⟨j, hj, rfl, hbx⟩ := hrel
          have HBX := Lib.hid hbx
          clear hbx
          by_cases hj4 : j = 4
          · subst hj4
            clear hj
            go_wp2
            go_roundw
            case rel => exact ⟨6, by omega, by go_num, HBI.out.trans (HBX.out.mono HBI.out.size)⟩
            case measure => simp [intOf]
          · have hjj : j = 0 ∨ j = 1 ∨ j = 2 ∨ j = 3 := by omega
            clear hj hj4
            rcases hjj with rfl | rfl | rfl | rfl
            · obtain ⟨s2, ⟨p0, p1, p2⟩, hP, hG, h9, v0, v1, v2, v3⟩ := HK.out wr HBX.out
              have tj : wr.cell? ⟨n0 + 1 + 1 + 1 + 1 + 1 + 1 + 1 + 1 + 1, 0, none⟩ = some (.slice (some ⟨n0 + 1 + 1 + 1 + 1 + 1, 0, none⟩) 2 2) := block_cell h9 rfl
              have HE := ceval_any _ _ _ 3 [(false, [2, 1])] [(3, 3, [1, 1])] [-1, -2] wr hP hG v0 (by decide) (by decide) (by decide) (by omega) (by omega)
              have he : evalN [(false, [2, 1])] [(3, 3, [1, 1])] 3 [-1, -2] = (false, 0) := kn_eval (k := 5) (j := 0) (by omega) (by omega)
              rw [he] at HE
              have HEV := Lib.hid HE
              clear he HE hP hG h9 v0 v1 v2 v3
              go_wp2_with (go_at_call 5; refine HEV.out.mono ?_; rintro e w5 ⟨rfl, hb5⟩; have HB5 := Lib.hid (HBX.out.trans (hb5.mono HBX.out.size)); clear hb5 s2 p0 p1 p2 tj; have s2 := (HK.out w5 HB5.out).1)
              go_roundw
              case rel => refine ⟨_, _, _, _, _, _, _, _, _, _, _, _, _, _, _, _, _, _, _, _, _, _, _, _, _, _, _, _, ?_, rfl⟩; exact ⟨1, by omega, by go_num, HB5.out⟩
              case measure => simp [intOf]
            · obtain ⟨s2, ⟨p0, p1, p2⟩, hP, hG, h9, v0, v1, v2, v3⟩ := HK.out wr HBX.out
              have tj : wr.cell? ⟨n0 + 1 + 1 + 1 + 1 + 1 + 1 + 1 + 1 + 1, 1, none⟩ = some (.slice (some ⟨n0 + 1 + 1 + 1 + 1 + 1 + 1, 0, none⟩) 1 1) := block_cell h9 rfl
              have HE := ceval_any _ _ _ 3 [(false, [2, 1])] [(3, 3, [1, 1])] [1] wr hP hG v1 (by decide) (by decide) (by decide) (by omega) (by omega)
              have he : evalN [(false, [2, 1])] [(3, 3, [1, 1])] 3 [1] = (false, 0) := kn_eval (k := 5) (j := 1) (by omega) (by omega)
              rw [he] at HE
              have HEV := Lib.hid HE
              clear he HE hP hG h9 v0 v1 v2 v3
              go_wp2_with (go_at_call 5; refine HEV.out.mono ?_; rintro e w5 ⟨rfl, hb5⟩; have HB5 := Lib.hid (HBX.out.trans (hb5.mono HBX.out.size)); clear hb5 s2 p0 p1 p2 tj; have s2 := (HK.out w5 HB5.out).1)
              go_roundw
              case rel => refine ⟨_, _, _, _, _, _, _, _, _, _, _, _, _, _, _, _, _, _, _, _, _, _, _, _, _, _, _, _, ?_, rfl⟩; exact ⟨2, by omega, by go_num, HB5.out⟩
              case measure => simp [intOf]
            · obtain ⟨s2, ⟨p0, p1, p2⟩, hP, hG, h9, v0, v1, v2, v3⟩ := HK.out wr HBX.out
              have tj : wr.cell? ⟨n0 + 1 + 1 + 1 + 1 + 1 + 1 + 1 + 1 + 1, 2, none⟩ = some (.slice (some ⟨n0 + 1 + 1 + 1 + 1 + 1 + 1 + 1, 0, none⟩) 1 1) := block_cell h9 rfl
              have HE := ceval_any _ _ _ 3 [(false, [2, 1])] [(3, 3, [1, 1])] [2] wr hP hG v2 (by decide) (by decide) (by decide) (by omega) (by omega)
              have he : evalN [(false, [2, 1])] [(3, 3, [1, 1])] 3 [2] = (false, 0) := kn_eval (k := 5) (j := 2) (by omega) (by omega)
              rw [he] at HE
              have HEV := Lib.hid HE
              clear he HE hP hG h9 v0 v1 v2 v3
              go_wp2_with (go_at_call 5; refine HEV.out.mono ?_; rintro e w5 ⟨rfl, hb5⟩; have HB5 := Lib.hid (HBX.out.trans (hb5.mono HBX.out.size)); clear hb5 s2 p0 p1 p2 tj; have s2 := (HK.out w5 HB5.out).1)
              go_roundw
              case rel => refine ⟨_, _, _, _, _, _, _, _, _, _, _, _, _, _, _, _, _, _, _, _, _, _, _, _, _, _, _, _, ?_, rfl⟩; exact ⟨3, by omega, by go_num, HB5.out⟩
              case measure => simp [intOf]
            · obtain ⟨s2, ⟨p0, p1, p2⟩, hP, hG, h9, v0, v1, v2, v3⟩ := HK.out wr HBX.out
              have tj : wr.cell? ⟨n0 + 1 + 1 + 1 + 1 + 1 + 1 + 1 + 1 + 1, 3, none⟩ = some (.slice (some ⟨n0 + 1 + 1 + 1 + 1 + 1 + 1 + 1 + 1, 0, none⟩) 2 2) := block_cell h9 rfl
              have HE := ceval_any _ _ _ 3 [(false, [2, 1])] [(3, 3, [1, 1])] [1, 2] wr hP hG v3 (by decide) (by decide) (by decide) (by omega) (by omega)
              have he : evalN [(false, [2, 1])] [(3, 3, [1, 1])] 3 [1, 2] = (false, 0) := kn_eval (k := 5) (j := 3) (by omega) (by omega)
              rw [he] at HE
              have HEV := Lib.hid HE
              clear he HE hP hG h9 v0 v1 v2 v3
              go_wp2_with (go_at_call 5; refine HEV.out.mono ?_; rintro e w5 ⟨rfl, hb5⟩; have HB5 := Lib.hid (HBX.out.trans (hb5.mono HBX.out.size)); clear hb5 s2 p0 p1 p2 tj; have s2 := (HK.out w5 HB5.out).1)
              go_roundw
              case rel => refine ⟨_, _, _, _, _, _, _, _, _, _, _, _, _, _, _, _, _, _, _, _, _, _, _, _, _, _, _, _, ?_, rfl⟩; exact ⟨4, by omega, by go_num, HB5.out⟩
              case measure => simp [intOf]
      · obtain ⟨hh, i0, i1, i2, i3, i4, i5⟩ := HTT.out wr HB.out
        have c0 : wr.cell? ⟨W1.heap.size + 1 + 1 + 1 + 1 + 1 + 1, 18, none⟩ = some (.int .u8 4) := block_cell hh rfl
        have c1 : wr.cell? ⟨W1.heap.size + 1 + 1 + 1 + 1 + 1 + 1, 19, none⟩ = some (.slice (some ⟨W1.heap.size + 1 + 1 + 1 + 1, 0, none⟩) 3 3) := block_cell hh rfl
        have c2 : wr.cell? ⟨W1.heap.size + 1 + 1 + 1 + 1 + 1 + 1, 20, none⟩ = some (.string ⟨#[49, 48, 48, 49]⟩) := block_cell hh rfl
        have HU : Hid (IsInts wr (.slice (some ⟨W1.heap.size + 1 + 1 + 1 + 1, 0, none⟩) 3 3) [1, 2, -2]) := i4
        clear hh i0 i1 i2 i3 i4 i5
        go_upto_region 7 with fail
        clear c0 c1 c2
        generalize hWI : (((((((((wr.alloc (.cells #[.int .u8 4, .slice (some ⟨W1.heap.size + 1 + 1 + 1 + 1, 0, none⟩) 3 3, .string ⟨#[49, 48, 48, 49]⟩] 29)).alloc (.cells #[.int .i64 2, .int .i64 1] 3)).alloc (.cells #[.bool false, .slice (some ⟨wr.heap.size + 1, 0, none⟩) 2 2] 32)).alloc (.cells #[.int .i64 3, .int .u8 4, .slice (some ⟨W1.heap.size + 1 + 1 + 1 + 1, 0, none⟩) 3 3] 34)).alloc (.cells #[.slice (some ⟨wr.heap.size + 1 + 1, 0, none⟩) 1 1, .slice (some ⟨wr.heap.size + 1 + 1 + 1, 0, none⟩) 1 1, .int .i64 3] 25)).alloc (.cells #[.int .i64 (-1), .int .i64 (-2)] 3)).alloc (.cells #[.int .i64 1] 3)).alloc (.cells #[.int .i64 2] 3)).alloc (.cells #[.int .i64 1, .int .i64 2] 3)).alloc (.cells #[.slice (some ⟨wr.heap.size + 1 + 1 + 1 + 1 + 1, 0, none⟩) 2 2, .slice (some ⟨wr.heap.size + 1 + 1 + 1 + 1 + 1 + 1, 0, none⟩) 1 1, .slice (some ⟨wr.heap.size + 1 + 1 + 1 + 1 + 1 + 1 + 1, 0, none⟩) 1 1, .slice (some ⟨wr.heap.size + 1 + 1 + 1 + 1 + 1 + 1 + 1 + 1, 0, none⟩) 2 2] 28) = WI
        have HK := Lib.hid (kn_inner2 wr WI 4 (.slice (some ⟨W1.heap.size + 1 + 1 + 1 + 1, 0, none⟩) 3 3) (.string ⟨#[49, 48, 48, 49]⟩) [1, 2, -2] hWI HU.out (by omega))
        have HBI : Hid (Below Wt.heap.size Wt WI) := HB.out.trans ((kn_inner wr WI 4 (.slice (some ⟨W1.heap.size + 1 + 1 + 1 + 1, 0, none⟩) 3 3) (.string ⟨#[49, 48, 48, 49]⟩) hWI).1.mono HB.out.size)
        clear hWI HU HB
        generalize wr.heap.size = n0 at *
        go_loopw [67] (fun i wx => ∃ j : Nat, j ≤ 4 ∧ i = .int .i64 j ∧ Below WI.heap.size WI wx) (fun i _ => 4 - (intOf i).toNat)
        case atStart => exact ⟨0, by omega, rfl, Below.refl _ _⟩
        case round =>
          obtain ⟨j, hj, rfl, hbx⟩ := hrel
          have HBX := Lib.hid hbx
          clear hbx
          by_cases hj4 : j = 4
          · subst hj4
            clear hj
            go_wp2
            go_roundw
            case rel => exact ⟨7, by omega, by go_num, HBI.out.trans (HBX.out.mono HBI.out.size)⟩
            case measure => simp [intOf]
          · have hjj : j = 0 ∨ j = 1 ∨ j = 2 ∨ j = 3 := by omega
            clear hj hj4
            rcases hjj with rfl | rfl | rfl | rfl
            · obtain ⟨s2, ⟨p0, p1, p2⟩, hP, hG, h9, v0, v1, v2, v3⟩ := HK.out wr HBX.out
              have tj : wr.cell? ⟨n0 + 1 + 1 + 1 + 1 + 1 + 1 + 1 + 1 + 1, 0, none⟩ = some (.slice (some ⟨n0 + 1 + 1 + 1 + 1 + 1, 0, none⟩) 2 2) := block_cell h9 rfl
              have HE := ceval_any _ _ _ 3 [(false, [2, 1])] [(3, 4, [1, 2, -2])] [-1, -2] wr hP hG v0 (by decide) (by decide) (by decide) (by omega) (by omega)
              have he : evalN [(false, [2, 1])] [(3, 4, [1, 2, -2])] 3 [-1, -2] = (true, 0) := kn_eval (k := 6) (j := 0) (by omega) (by omega)
              rw [he] at HE
              have HEV := Lib.hid HE
              clear he HE hP hG h9 v0 v1 v2 v3
              go_wp2_with (go_at_call 5; refine HEV.out.mono ?_; rintro e w5 ⟨rfl, hb5⟩; have HB5 := Lib.hid (HBX.out.trans (hb5.mono HBX.out.size)); clear hb5 s2 p0 p1 p2 tj; have s2 := (HK.out w5 HB5.out).1)
              go_roundw
              case rel => refine ⟨_, _, _, _, _, _, _, _, _, _, _, _, _, _, _, _, _, _, _, _, _, _, _, _, _, _, _, _, ?_, rfl⟩; exact ⟨1, by omega, by go_num, HB5.out⟩
              case measure => simp [intOf]
            · obtain ⟨s2, ⟨p0, p1, p2⟩, hP, hG, h9, v0, v1, v2, v3⟩ := HK.out wr HBX.out
              have tj : wr.cell? ⟨n0 + 1 + 1 + 1 + 1 + 1 + 1 + 1 + 1 + 1, 1, none⟩ = some (.slice (some ⟨n0 + 1 + 1 + 1 + 1 + 1 + 1, 0, none⟩) 1 1) := block_cell h9 rfl
              have HE := ceval_any _ _ _ 3 [(false, [2, 1])] [(3, 4, [1, 2, -2])] [1] wr hP hG v1 (by decide) (by decide) (by decide) (by omega) (by omega)
              have he : evalN [(false, [2, 1])] [(3, 4, [1, 2, -2])] 3 [1] = (false, 0) := kn_eval (k := 6) (j := 1) (by omega) (by omega)
              rw [he] at HE
              have HEV := Lib.hid HE
              clear he HE hP hG h9 v0 v1 v2 v3
              go_wp2_with (go_at_call 5; refine HEV.out.mono ?_; rintro e w5 ⟨rfl, hb5⟩; have HB5 := Lib.hid (HBX.out.trans (hb5.mono HBX.out.size)); clear hb5 s2 p0 p1 p2 tj; have s2 := (HK.out w5 HB5.out).1)
              go_roundw
              case rel => refine ⟨_, _, _, _, _, _, _, _, _, _, _, _, _, _, _, _, _, _, _, _, _, _, _, _, _, _, _, _, ?_, rfl⟩; exact ⟨2, by omega, by go_num, HB5.out⟩
              case measure => simp [intOf]
            · obtain ⟨s2, ⟨p0, p1, p2⟩, hP, hG, h9, v0, v1, v2, v3⟩ := HK.out wr HBX.out
              have tj : wr.cell? ⟨n0 + 1 + 1 + 1 + 1 + 1 + 1 + 1 + 1 + 1, 2, none⟩ = some (.slice (some ⟨n0 + 1 + 1 + 1 + 1 + 1 + 1 + 1, 0, none⟩) 1 1) := block_cell h9 rfl
              have HE := ceval_any _ _ _ 3 [(false, [2, 1])] [(3, 4, [1, 2, -2])] [2] wr hP hG v2 (by decide) (by decide) (by decide) (by omega) (by omega)
              have he : evalN [(false, [2, 1])] [(3, 4, [1, 2, -2])] 3 [2] = (false, 0) := kn_eval (k := 6) (j := 2) (by omega) (by omega)
              rw [he] at HE
              have HEV := Lib.hid HE
              clear he HE hP hG h9 v0 v1 v2 v3
              go_wp2_with (go_at_call 5; refine HEV.out.mono ?_; rintro e w5 ⟨rfl, hb5⟩; have HB5 := Lib.hid (HBX.out.trans (hb5.mono HBX.out.size)); clear hb5 s2 p0 p1 p2 tj; have s2 := (HK.out w5 HB5.out).1)
              go_roundw
              case rel => refine ⟨_, _, _, _, _, _, _, _, _, _, _, _, _, _, _, _, _, _, _, _, _, _, _, _, _, _, _, _, ?_, rfl⟩; exact ⟨3, by omega, by go_num, HB5.out⟩
              case measure => simp [intOf]
            · obtain ⟨s2, ⟨p0, p1, p2⟩, hP, hG, h9, v0, v1, v2, v3⟩ := HK.out wr HBX.out
              have tj : wr.cell? ⟨n0 + 1 + 1 + 1 + 1 + 1 + 1 + 1 + 1 + 1, 3, none⟩ = some (.slice (some ⟨n0 + 1 + 1 + 1 + 1 + 1 + 1 + 1 + 1, 0, none⟩) 2 2) := block_cell h9 rfl
              have HE := ceval_any _ _ _ 3 [(false, [2, 1])] [(3, 4, [1, 2, -2])] [1, 2] wr hP hG v3 (by decide) (by decide) (by decide) (by omega) (by omega)
              have he : evalN [(false, [2, 1])] [(3, 4, [1, 2, -2])] 3 [1, 2] = (true, 0) := kn_eval (k := 6) (j := 3) (by omega) (by omega)
              rw [he] at HE
              have HEV := Lib.hid HE
              clear he HE hP hG h9 v0 v1 v2 v3
              go_wp2_with (go_at_call 5; refine HEV.out.mono ?_; rintro e w5 ⟨rfl, hb5⟩; have HB5 := Lib.hid (HBX.out.trans (hb5.mono HBX.out.size)); clear hb5 s2 p0 p1 p2 tj; have s2 := (HK.out w5 HB5.out).1)
              go_roundw
              case rel => refine ⟨_, _, _, _, _, _, _, _, _, _, _, _, _, _, _, _, _, _, _, _, _, _, _, _, _, _, _, _, ?_, rfl⟩; exact ⟨4, by omega, by go_num, HB5.out⟩
              case measure => simp [intOf]
      · obtain ⟨hh, i0, i1, i2, i3, i4, i5⟩ := HTT.out wr HB.out
        have c0 : wr.cell? ⟨W1.heap.size + 1 + 1 + 1 + 1 + 1 + 1, 21, none⟩ = some (.int .u8 4) := block_cell hh rfl
        have c1 : wr.cell? ⟨W1.heap.size + 1 + 1 + 1 + 1 + 1 + 1, 22, none⟩ = some (.slice (some ⟨W1.heap.size + 1 + 1 + 1 + 1 + 1, 0, none⟩) 3 3) := block_cell hh rfl
        have c2 : wr.cell? ⟨W1.heap.size + 1 + 1 + 1 + 1 + 1 + 1, 23, none⟩ = some (.string ⟨#[48, 49, 49, 49]⟩) := block_cell hh rfl
        have HU : Hid (IsInts wr (.slice (some ⟨W1.heap.size + 1 + 1 + 1 + 1 + 1, 0, none⟩) 3 3) [-1, 2, 1]) := i5
        clear hh i0 i1 i2 i3 i4 i5
        go_upto_region 7 with fail
        clear c0 c1 c2
        generalize hWI : (((((((((wr.alloc (.cells #[.int .u8 4, .slice (some ⟨W1.heap.size + 1 + 1 + 1 + 1 + 1, 0, none⟩) 3 3, .string ⟨#[48, 49, 49, 49]⟩] 29)).alloc (.cells #[.int .i64 2, .int .i64 1] 3)).alloc (.cells #[.bool false, .slice (some ⟨wr.heap.size + 1, 0, none⟩) 2 2] 32)).alloc (.cells #[.int .i64 3, .int .u8 4, .slice (some ⟨W1.heap.size + 1 + 1 + 1 + 1 + 1, 0, none⟩) 3 3] 34)).alloc (.cells #[.slice (some ⟨wr.heap.size + 1 + 1, 0, none⟩) 1 1, .slice (some ⟨wr.heap.size + 1 + 1 + 1, 0, none⟩) 1 1, .int .i64 3] 25)).alloc (.cells #[.int .i64 (-1), .int .i64 (-2)] 3)).alloc (.cells #[.int .i64 1] 3)).alloc (.cells #[.int .i64 2] 3)).alloc (.cells #[.int .i64 1, .int .i64 2] 3)).alloc (.cells #[.slice (some ⟨wr.heap.size + 1 + 1 + 1 + 1 + 1, 0, none⟩) 2 2, .slice (some ⟨wr.heap.size + 1 + 1 + 1 + 1 + 1 + 1, 0, none⟩) 1 1, .slice (some ⟨wr.heap.size + 1 + 1 + 1 + 1 + 1 + 1 + 1, 0, none⟩) 1 1, .slice (some ⟨wr.heap.size + 1 + 1 + 1 + 1 + 1 + 1 + 1 + 1, 0, none⟩) 2 2] 28) = WI
        have HK := Lib.hid (kn_inner2 wr WI 4 (.slice (some ⟨W1.heap.size + 1 + 1 + 1 + 1 + 1, 0, none⟩) 3 3) (.string ⟨#[48, 49, 49, 49]⟩) [-1, 2, 1] hWI HU.out (by omega))
        have HBI : Hid (Below Wt.heap.size Wt WI) := HB.out.trans ((kn_inner wr WI 4 (.slice (some ⟨W1.heap.size + 1 + 1 + 1 + 1 + 1, 0, none⟩) 3 3) (.string ⟨#[48, 49, 49, 49]⟩) hWI).1.mono HB.out.size)
        clear hWI HU HB
        generalize wr.heap.size = n0 at *
        go_loopw [67] (fun i wx => ∃ j : Nat, j ≤ 4 ∧ i = .int .i64 j ∧ Below WI.heap.size WI wx) (fun i _ => 4 - (intOf i).toNat)
        case atStart => exact ⟨0, by omega, rfl, Below.refl _ _⟩
        case round =>
          obtain ⟨j, hj, rfl, hbx⟩ := hrel
          have HBX := Lib.hid hbx
          clear hbx
          by_cases hj4 : j = 4
          · subst hj4
            clear hj
            go_wp2
            go_roundw
            case rel => exact ⟨8, by omega, by go_num, HBI.out.trans (HBX.out.mono HBI.out.size)⟩
            case measure => simp [intOf]
          · have hjj : j = 0 ∨ j = 1 ∨ j = 2 ∨ j = 3 := by omega
            clear hj hj4
            rcases hjj with rfl | rfl | rfl | rfl
            · obtain ⟨s2, ⟨p0, p1, p2⟩, hP, hG, h9, v0, v1, v2, v3⟩ := HK.out wr HBX.out
              have tj : wr.cell? ⟨n0 + 1 + 1 + 1 + 1 + 1 + 1 + 1 + 1 + 1, 0, none⟩ = some (.slice (some ⟨n0 + 1 + 1 + 1 + 1 + 1, 0, none⟩) 2 2) := block_cell h9 rfl
              have HE := ceval_any _ _ _ 3 [(false, [2, 1])] [(3, 4, [-1, 2, 1])] [-1, -2] wr hP hG v0 (by decide) (by decide) (by decide) (by omega) (by omega)
              have he : evalN [(false, [2, 1])] [(3, 4, [-1, 2, 1])] 3 [-1, -2] = (false, 0) := kn_eval (k := 7) (j := 0) (by omega) (by omega)
              rw [he] at HE
              have HEV := Lib.hid HE
              clear he HE hP hG h9 v0 v1 v2 v3
              go_wp2_with (go_at_call 5; refine HEV.out.mono ?_; rintro e w5 ⟨rfl, hb5⟩; have HB5 := Lib.hid (HBX.out.trans (hb5.mono HBX.out.size)); clear hb5 s2 p0 p1 p2 tj; have s2 := (HK.out w5 HB5.out).1)
              go_roundw
              case rel => refine ⟨_, _, _, _, _, _, _, _, _, _, _, _, _, _, _, _, _, _, _, _, _, _, _, _, _, _, _, _, ?_, rfl⟩; exact ⟨1, by omega, by go_num, HB5.out⟩
              case measure => simp [intOf]
            · obtain ⟨s2, ⟨p0, p1, p2⟩, hP, hG, h9, v0, v1, v2, v3⟩ := HK.out wr HBX.out
              have tj : wr.cell? ⟨n0 + 1 + 1 + 1 + 1 + 1 + 1 + 1 + 1 + 1, 1, none⟩ = some (.slice (some ⟨n0 + 1 + 1 + 1 + 1 + 1 + 1, 0, none⟩) 1 1) := block_cell h9 rfl
              have HE := ceval_any _ _ _ 3 [(false, [2, 1])] [(3, 4, [-1, 2, 1])] [1] wr hP hG v1 (by decide) (by decide) (by decide) (by omega) (by omega)
              have he : evalN [(false, [2, 1])] [(3, 4, [-1, 2, 1])] 3 [1] = (true, 0) := kn_eval (k := 7) (j := 1) (by omega) (by omega)
              rw [he] at HE
              have HEV := Lib.hid HE
              clear he HE hP hG h9 v0 v1 v2 v3
              go_wp2_with (go_at_call 5; refine HEV.out.mono ?_; rintro e w5 ⟨rfl, hb5⟩; have HB5 := Lib.hid (HBX.out.trans (hb5.mono HBX.out.size)); clear hb5 s2 p0 p1 p2 tj; have s2 := (HK.out w5 HB5.out).1)
              go_roundw
              case rel => refine ⟨_, _, _, _, _, _, _, _, _, _, _, _, _, _, _, _, _, _, _, _, _, _, _, _, _, _, _, _, ?_, rfl⟩; exact ⟨2, by omega, by go_num, HB5.out⟩
              case measure => simp [intOf]
            · obtain ⟨s2, ⟨p0, p1, p2⟩, hP, hG, h9, v0, v1, v2, v3⟩ := HK.out wr HBX.out
              have tj : wr.cell? ⟨n0 + 1 + 1 + 1 + 1 + 1 + 1 + 1 + 1 + 1, 2, none⟩ = some (.slice (some ⟨n0 + 1 + 1 + 1 + 1 + 1 + 1 + 1, 0, none⟩) 1 1) := block_cell h9 rfl
              have HE := ceval_any _ _ _ 3 [(false, [2, 1])] [(3, 4, [-1, 2, 1])] [2] wr hP hG v2 (by decide) (by decide) (by decide) (by omega) (by omega)
              have he : evalN [(false, [2, 1])] [(3, 4, [-1, 2, 1])] 3 [2] = (true, 0) := kn_eval (k := 7) (j := 2) (by omega) (by omega)
              rw [he] at HE
              have HEV := Lib.hid HE
              clear he HE hP hG h9 v0 v1 v2 v3
              go_wp2_with (go_at_call 5; refine HEV.out.mono ?_; rintro e w5 ⟨rfl, hb5⟩; have HB5 := Lib.hid (HBX.out.trans (hb5.mono HBX.out.size)); clear hb5 s2 p0 p1 p2 tj; have s2 := (HK.out w5 HB5.out).1)
              go_roundw
              case rel => refine ⟨_, _, _, _, _, _, _, _, _, _, _, _, _, _, _, _, _, _, _, _, _, _, _, _, _, _, _, _, ?_, rfl⟩; exact ⟨3, by omega, by go_num, HB5.out⟩
              case measure => simp [intOf]
            · obtain ⟨s2, ⟨p0, p1, p2⟩, hP, hG, h9, v0, v1, v2, v3⟩ := HK.out wr HBX.out
              have tj : wr.cell? ⟨n0 + 1 + 1 + 1 + 1 + 1 + 1 + 1 + 1 + 1, 3, none⟩ = some (.slice (some ⟨n0 + 1 + 1 + 1 + 1 + 1 + 1 + 1 + 1, 0, none⟩) 2 2) := block_cell h9 rfl
              have HE := ceval_any _ _ _ 3 [(false, [2, 1])] [(3, 4, [-1, 2, 1])] [1, 2] wr hP hG v3 (by decide) (by decide) (by decide) (by omega) (by omega)
              have he : evalN [(false, [2, 1])] [(3, 4, [-1, 2, 1])] 3 [1, 2] = (true, 0) := kn_eval (k := 7) (j := 3) (by omega) (by omega)
              rw [he] at HE
              have HEV := Lib.hid HE
              clear he HE hP hG h9 v0 v1 v2 v3
              go_wp2_with (go_at_call 5; refine HEV.out.mono ?_; rintro e w5 ⟨rfl, hb5⟩; have HB5 := Lib.hid (HBX.out.trans (hb5.mono HBX.out.size)); clear hb5 s2 p0 p1 p2 tj; have s2 := (HK.out w5 HB5.out).1)
              go_roundw
              case rel => refine ⟨_, _, _, _, _, _, _, _, _, _, _, _, _, _, _, _, _, _, _, _, _, _, _, _, _, _, _, _, ?_, rfl⟩; exact ⟨4, by omega, by go_num, HB5.out⟩
              case measure => simp [intOf]
end Go.Proofs.Ytafenijbglcppaa
