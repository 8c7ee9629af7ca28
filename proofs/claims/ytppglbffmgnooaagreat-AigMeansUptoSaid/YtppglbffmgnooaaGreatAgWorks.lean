/- skolemlaw06.works: the chapter's examples hold everywhere. -/
import Derived.Test.YtppglbffmgnooaaGreatA16
namespace Go.Proofs.YtppglbffmgnooaaGreat
open Go.RowKit Go.Maps
set_option linter.unusedVariables false
set_option linter.unusedSimpArgs false

theorem A5_in : InP A5 := by
  intro p hp
  simp only [A5, List.mem_cons, List.not_mem_nil, or_false] at hp
  rcases hp with rfl | rfl | rfl | rfl | rfl <;> exact ⟨⟨by decide, by decide⟩, by decide, by decide⟩
theorem new_two (w : World) (a b : Int) (ha : -9223372036854775808 ≤ a ∧ a ≤ 9223372036854775807) (hb : -9223372036854775808 ≤ b ∧ b ≤ 9223372036854775807) : IsInts (w.alloc (.cells #[.int .i64 a, .int .i64 b] 3)) (.slice (some ⟨w.heap.size, 0, none⟩) 2 2) [a, b] ∧ Below w.heap.size w (w.alloc (.cells #[.int .i64 a, .int .i64 b] 3)) := ⟨ints_two ha hb, below_alloc1 w _⟩
theorem new_one (w : World) (a : Int) (ha : -9223372036854775808 ≤ a ∧ a ≤ 9223372036854775807) : IsInts (w.alloc (.cells #[.int .i64 a] 3)) (.slice (some ⟨w.heap.size, 0, none⟩) 1 1) [a] ∧ Below w.heap.size w (w.alloc (.cells #[.int .i64 a] 3)) := ⟨(own1_new w a).ints (by simp) (fun x hx => by rw [List.mem_singleton] at hx; subst hx; exact ha), below_alloc1 w _⟩
theorem new_pairs (w : World) (A : List Pr) (T : TypeId) (cs : Array Value) (hc : cs = (cellsQ A).toArray) (hA : InP A) (hl : A.length ≤ 17592186044416) : IsPairs (w.alloc (.cells cs T)) (.slice (some ⟨w.heap.size, 0, none⟩) A.length A.length) A ∧ Below w.heap.size w (w.alloc (.cells cs T)) := by
  subst hc
  exact ⟨pairs_heap A (World.alloc_heap_new _ _) hA hl, below_alloc1 w _⟩
theorem gnil (w : World) : IsPairs w (.slice none 0 0) [] := (GrO.nil w 0).ints.2
theorem blk_mem (w : World) (a b : Int) (ha : -9223372036854775808 ≤ a ∧ a ≤ 9223372036854775807) (hb : -9223372036854775808 ≤ b ∧ b ≤ 9223372036854775807) : IsBlocks ((w.alloc (.cells #[.int .i64 a, .int .i64 b] 3)).alloc (.cells #[.bool false, .slice (some ⟨w.heap.size, 0, none⟩) 2 2] 118)) (.slice (some ⟨w.heap.size + 1, 0, none⟩) 1 1) [(false, [a, b])] ∧
    Below w.heap.size w ((w.alloc (.cells #[.int .i64 a, .int .i64 b] 3)).alloc (.cells #[.bool false, .slice (some ⟨w.heap.size, 0, none⟩) 2 2] 118)) := by
  have h1 := new_two w a b ha hb
  have hP := below_alloc1 (w.alloc (.cells #[.int .i64 a, .int .i64 b] 3)) (.cells #[.bool false, .slice (some ⟨w.heap.size, 0, none⟩) 2 2] 118)
  refine ⟨?_, h1.2.trans (hP.mono h1.2.size)⟩
  exact blocks_heap (W := (w.alloc (.cells #[.int .i64 a, .int .i64 b] 3)).alloc (.cells #[.bool false, .slice (some ⟨w.heap.size, 0, none⟩) 2 2] 118)) (b := w.heap.size + 1) (T := 118) [(false, .slice (some ⟨w.heap.size, 0, none⟩) 2 2)] [(false, [a, b])] (heap_hit (by simp)) rfl (by simp) (fun j hj => by
    match j, hj with
    | 0, _ => exact ⟨rfl, h1.1.below hP (Nat.le_refl _)⟩
    | j + 1, hj => simp at hj)
theorem gate_mem (w : World) : IsGates ((w.alloc (.cells #[.int .i64 1, .int .i64 (-2)] 3)).alloc (.cells #[.int .i64 3, .int .u8 2, .slice (some ⟨w.heap.size, 0, none⟩) 2 2] 101)) (.slice (some ⟨w.heap.size + 1, 0, none⟩) 1 1) wG ∧
    Below w.heap.size w ((w.alloc (.cells #[.int .i64 1, .int .i64 (-2)] 3)).alloc (.cells #[.int .i64 3, .int .u8 2, .slice (some ⟨w.heap.size, 0, none⟩) 2 2] 101)) := by
  have h1 := new_two w 1 (-2) (by omega) (by omega)
  have hP := below_alloc1 (w.alloc (.cells #[.int .i64 1, .int .i64 (-2)] 3)) (.cells #[.int .i64 3, .int .u8 2, .slice (some ⟨w.heap.size, 0, none⟩) 2 2] 101)
  refine ⟨?_, h1.2.trans (hP.mono h1.2.size)⟩
  exact gates_heap (W := (w.alloc (.cells #[.int .i64 1, .int .i64 (-2)] 3)).alloc (.cells #[.int .i64 3, .int .u8 2, .slice (some ⟨w.heap.size, 0, none⟩) 2 2] 101)) (b := w.heap.size + 1) (T := 101) [(3, 2, .slice (some ⟨w.heap.size, 0, none⟩) 2 2)] wG (heap_hit (by simp)) rfl (by decide) (by intro g hg; simp [wG] at hg; subst hg; decide) (fun j hj => by
    match j, hj with
    | 0, _ => exact ⟨rfl, rfl, h1.1.below hP (Nat.le_refl _)⟩
    | j + 1, hj => simp [wG] at hj)
set_option maxRecDepth 100000 in
set_option maxHeartbeats 12800000 in
theorem works6_any (w : World) : Calls Tryz.prog 13 #[] w fun e w' => e = .returned (.bool true) ∧ Below w.heap.size w w' := by
  have HNW := Lib.hid (gnew_any _ [1, 2] (w.alloc (.cells #[.int .i64 1, .int .i64 2] 3)) (ints_two (by omega) (by omega)) w_may)
  have HB1 := Lib.hid (below_alloc1 w (.cells #[.int .i64 1, .int .i64 2] 3))
  go_enter Tryz.func13, Tryz.ntmps13
  go_upto_region 4 with (go_at_call 40; go_loud (refine HNW.out.mono ?_; rintro e w1 ⟨pm, vi, bf, rfl, hm, hb⟩; have HM1 := Lib.hid hm; have HB2 := Lib.hid (HB1.out.trans (hb.mono HB1.out.size)); have HBS := Lib.hid hb.size; clear hm hb))
  obtain ⟨B, hB⟩ : ∃ B, (w.alloc (.cells #[.int .i64 1, .int .i64 2] 3)).heap.size = B := ⟨_, rfl⟩
  have HBB : Hid (w.heap.size ≤ B) := by rw [← hB]; exact HB1.out.size
  rw [hB] at HM1 HBS
  clear hB HNW
  have HA1 : Hid (Calls Tryz.prog 57 #[.pointer (some ⟨pm, 0, none⟩), .int .i64 4, .int .i64 2] w1 fun e w' => e = .returned (.tuple #[.int .i64 6, .int .i64 0]) ∧ MkE w' B pm [1, 2] ([(2, 4)], false) vi bf 0 ∧ KpM B pm bf w1 w') := by
    have h := And_ok (a := 4) (b := 2) HM1.out HBS.out (by kernel_rfl) (by kernel_rfl) (by kernel_rfl)
    rw [w_and1] at h
    exact h
  have HA2 : Hid (∀ X, MkE X B pm [1, 2] ([(2, 4)], false) vi bf 0 → B ≤ X.heap.size → Calls Tryz.prog 57 #[.pointer (some ⟨pm, 0, none⟩), .int .i64 2, .int .i64 4] X fun e w' => e = .returned (.tuple #[.int .i64 6, .int .i64 0]) ∧ MkE w' B pm [1, 2] ([(2, 4)], false) vi bf 0 ∧ KpM B pm bf X w') := fun X hX hs => by
    have h := And_ok (a := 2) (b := 4) hX hs (by kernel_rfl) (by kernel_rfl) (by kernel_rfl)
    rw [w_and2] at h
    exact h
  have HA3 : Hid (∀ X, MkE X B pm [1, 2] ([(2, 4)], false) vi bf 0 → B ≤ X.heap.size → Calls Tryz.prog 57 #[.pointer (some ⟨pm, 0, none⟩), .int .i64 2, .int .i64 3] X fun e w' => e = .returned (.tuple #[.int .i64 0, .int .i64 0]) ∧ MkE w' B pm [1, 2] ([(2, 4)], false) vi bf 0 ∧ KpM B pm bf X w') := fun X hX hs => by
    have h := And_ok (a := 2) (b := 3) hX hs (by kernel_rfl) (by kernel_rfl) (by kernel_rfl)
    rw [w_and3] at h
    exact h
  have HA4 : Hid (∀ X, MkE X B pm [1, 2] ([(2, 4)], false) vi bf 0 → B ≤ X.heap.size → Calls Tryz.prog 60 #[.pointer (some ⟨pm, 0, none⟩), .int .i64 2, .int .i64 4] X fun e w' => e = .returned (.tuple #[.int .i64 9, .int .i64 0]) ∧ MkE w' B pm [1, 2] ([(2, 4), (3, 5)], false) vi bf 0 ∧ KpM B pm bf X w') := fun X hX hs => by
    have h := Or_ok (a := 2) (b := 4) hX hs (by kernel_rfl) (by kernel_rfl) (by kernel_rfl)
    rw [w_or] at h
    exact h
  have HA5 : Hid (∀ X, MkE X B pm [1, 2] ([(2, 4), (3, 5)], false) vi bf 0 → B ≤ X.heap.size → Calls Tryz.prog 61 #[.pointer (some ⟨pm, 0, none⟩), .int .i64 2, .int .i64 4] X fun e w' => e = .returned (.tuple #[.int .i64 15, .int .i64 0]) ∧ MkE w' B pm [1, 2] (A5, false) vi bf 0 ∧ KpM B pm bf X w') := fun X hX hs => by
    have h := Xor_ok (a := 2) (b := 4) hX hs (by kernel_rfl) (by kernel_rfl) (by kernel_rfl)
    rw [w_xor] at h
    exact h
  go_upto_region 5 with (go_at_call 57; go_loud (refine HA1.out.mono ?_; rintro e w2 ⟨rfl, hm, hk⟩; have HM2 := Lib.hid hm; have HK2 := Lib.hid (hk.below.trans (Below.refl _ _)); have HS2 := Lib.hid (Nat.le_trans HBS.out hk.below.size); clear hm hk))
  go_upto_region 6 with (go_at_call 57; go_loud (refine (HA2.out w2 HM2.out HS2.out).mono ?_; rintro e w3 ⟨rfl, hm, hk⟩; have HM3 := Lib.hid hm; have HK3 := Lib.hid (HK2.out.trans hk.below); have HS3 := Lib.hid (Nat.le_trans HS2.out hk.below.size); clear hm hk))
  go_upto_region 7 with (go_at_call 57; go_loud (refine (HA3.out w3 HM3.out HS3.out).mono ?_; rintro e w4 ⟨rfl, hm, hk⟩; have HM4 := Lib.hid hm; have HK4 := Lib.hid (HK3.out.trans hk.below); have HS4 := Lib.hid (Nat.le_trans HS3.out hk.below.size); clear hm hk))
  go_upto_region 8 with (go_at_call 60; go_loud (refine (HA4.out w4 HM4.out HS4.out).mono ?_; rintro e w5 ⟨rfl, hm, hk⟩; have HM5 := Lib.hid hm; have HK5 := Lib.hid (HK4.out.trans hk.below); have HS5 := Lib.hid (Nat.le_trans HS4.out hk.below.size); clear hm hk))
  go_upto_region 9 with (go_at_call 61; go_loud (refine (HA5.out w5 HM5.out HS5.out).mono ?_; rintro e w6 ⟨rfl, hm, hk⟩; have HM6 := Lib.hid hm; have HK6 := Lib.hid (HK5.out.trans hk.below); have HS6 := Lib.hid (Nat.le_trans HS5.out hk.below.size); clear hm hk))
  have HGR := Lib.hid (Graph_any HM6.out HS6.out)
  have HBX : Hid (Below w.heap.size w w6) := HB2.out.trans (HK6.out.mono HBB.out)
  clear HA1 HA2 HA3 HA4 HA5 HM1 HM2 HM3 HM4 HM5 HK2 HK3 HK4 HK5 HK6 HS2 HS3 HS4 HS5 HB1 HB2
  go_upto_region 10 with (go_at_call 45; go_loud (refine HGR.out.mono ?_; rintro e w7 ⟨v1, v2, rfl, hg, hb⟩; obtain ⟨xa, xc, rfl⟩ := hg.ints.1.shape; obtain ⟨ya, yc, rfl, _⟩ := hg.ints.2.shape; have HG7 := Lib.hid hg; have HB7 := Lib.hid (HBX.out.trans (hb.mono HBX.out.size)); clear hg hb))
  have hg7 : GrO w7 w6.heap.size (.slice xa 2 xc) (.slice ya 5 yc) [1, 2] A5 := HG7.out
  have HGG := Lib.hid hg7
  have hbn := below_alloc1 w7 (.cells #[.slice xa 2 xc, .slice ya 5 yc] 25)
  have hgb : (w7.alloc (.cells #[.slice xa 2 xc, .slice ya 5 yc] 25)).heap[w7.heap.size]? = some (.cells #[.slice xa 2 xc, .slice ya 5 yc] 25 (0, 0)) := World.alloc_heap_new _ _
  have HGX := Lib.hid hgb
  have HB8 := Lib.hid (HB7.out.trans (hbn.mono HB7.out.size))
  have HG8 := Lib.hid (hg7.below hbn (Nat.le_refl _))
  change Code.wp _ _ _ _ (w7.alloc (.cells #[.slice xa 2 xc, .slice ya 5 yc] 25))
  clear hg7 hbn hgb HG7 HGG
  generalize w7.alloc (.cells #[.slice xa 2 xc, .slice ya 5 yc] 25) = W8 at *
  generalize w7.heap.size = gb at *
  obtain ⟨c0, c1, _, _⟩ := box2_cells HGX.out
  have h1 := new_two W8 1 2 (by omega) (by omega)
  have h2 := new_pairs (W8.alloc (.cells #[.int .i64 1, .int .i64 2] 3)) A5 115 #[.int .i64 2, .int .i64 4, .int .i64 3, .int .i64 5, .int .i64 2, .int .i64 5, .int .i64 3, .int .i64 4, .int .i64 11, .int .i64 13] rfl A5_in (by decide)
  have hbb := h1.2.trans (h2.2.mono h1.2.size)
  have HSM := Lib.hid (rsame6_any (.slice xa 2 xc) (.slice ya 5 yc) _ _ [1, 2] A5 [1, 2] A5 _ (HG8.out.ints.1.below hbb (Nat.le_refl _)) (HG8.out.ints.2.below hbb (Nat.le_refl _)) (h1.1.below h2.2 (Nat.le_refl _)) h2.1)
  rw [show sameA [1, 2] A5 [1, 2] A5 = true from by kernel_rfl, show (W8.alloc (.cells #[.int .i64 1, .int .i64 2] 3)).heap.size = W8.heap.size + 1 from by simp] at HSM
  have HBB8 := Lib.hid hbb
  clear h1 h2 hbb
  go_upto_region 11 with (go_at_call 25; go_loud (refine HSM.out.mono ?_; rintro e w9 ⟨rfl, hb⟩; have HB9 := Lib.hid (HBB8.out.trans (hb.mono HBB8.out.size)); clear hb))
  clear c0 c1 HSM HBB8
  have HGX9 := Lib.hid ((HB9.out.block gb (Array.getElem?_eq_some_iff.1 HGX.out).1).trans HGX.out)
  have HG9 := Lib.hid (HG8.out.below HB9.out (Nat.le_refl _))
  have HW9 := Lib.hid (HB8.out.trans (HB9.out.mono HB8.out.size))
  clear HGX HG8 HB9 HB8
  obtain ⟨c0, c1, _, _⟩ := box2_cells HGX9.out
  have h1 := new_one w9 15 (by omega)
  have h2 := new_one (w9.alloc (.cells #[.int .i64 15] 3)) 1 (by omega)
  have hbb := h1.2.trans (h2.2.mono h1.2.size)
  have HRS := Lib.hid (grestrict_any (.slice xa 2 xc) (.slice ya 5 yc) _ _ [1, 2] A5 [15] [1] _ (HG9.out.ints.1.below hbb (Nat.le_refl _)) (HG9.out.ints.2.below hbb (Nat.le_refl _)) (h1.1.below h2.2 (Nat.le_refl _)) h2.1 (by decide) (by decide) (by decide))
  unfold ResPost at HRS
  rw [w_rest, show (w9.alloc (.cells #[.int .i64 15] 3)).heap.size = w9.heap.size + 1 from by simp] at HRS
  have HBB9 := Lib.hid hbb
  clear h1 h2 hbb
  go_upto_region 12 with (go_at_call 34; go_loud (refine HRS.out.mono ?_; rintro e w10 ⟨v1, v2, v3, rfl, hg, ho, hb⟩; obtain ⟨ha, hc, rfl⟩ := hg.ints.1.shape; obtain ⟨hya, hyc, rfl, _⟩ := hg.ints.2.shape; obtain ⟨la, lc, rfl⟩ := own_shC ho; have HG10 := Lib.hid hg; have HO10 := Lib.hid ho; have HB10 := Lib.hid (HBB9.out.trans (hb.mono HBB9.out.size)); clear hg ho hb))
  obtain ⟨B2, hB2⟩ : ∃ B2, ((w9.alloc (.cells #[.int .i64 15] 3)).alloc (.cells #[.int .i64 1] 3)).heap.size = B2 := ⟨_, rfl⟩
  rw [hB2] at HG10 HO10
  have hg10 : GrO w10 B2 (.slice ha 1 hc) (.slice hya 0 hyc) [2] [] := HG10.out
  have ho10 : Own w10 B2 (.slice la 1 lc) [3] := HO10.out
  have hbn := below_alloc1 w10 (.cells #[.slice ha 1 hc, .slice hya 0 hyc] 25)
  have hgb : (w10.alloc (.cells #[.slice ha 1 hc, .slice hya 0 hyc] 25)).heap[w10.heap.size]? = some (.cells #[.slice ha 1 hc, .slice hya 0 hyc] 25 (0, 0)) := World.alloc_heap_new _ _
  have HX11 := Lib.hid hgb
  have HB2W : Hid (w.heap.size ≤ w10.heap.size) := Nat.le_trans HW9.out.size HB10.out.size
  have HG11 := Lib.hid (hg10.below hbn (Nat.le_refl _))
  have HO11 := Lib.hid (ho10.below hbn (Nat.le_refl _))
  have HW11 := Lib.hid (HW9.out.trans ((HB10.out.trans (hbn.mono HB10.out.size)).mono HW9.out.size))
  change Code.wp _ _ _ _ (w10.alloc (.cells #[.slice ha 1 hc, .slice hya 0 hyc] 25))
  clear hg10 ho10 hbn hgb HG10 HO10 HB10 HRS HBB9 HG9 HGX9 c0 c1 hB2
  generalize w10.alloc (.cells #[.slice ha 1 hc, .slice hya 0 hyc] 25) = X at *
  generalize w10.heap.size = b2 at *
  obtain ⟨c0, c1, _, _⟩ := box2_cells HX11.out
  have h1 := new_one X 2 (by omega)
  have HSM := Lib.hid (rsame6_any (.slice ha 1 hc) (.slice hya 0 hyc) _ (.slice none 0 0) [2] [] [2] [] _ (HG11.out.ints.1.below h1.2 (Nat.le_refl _)) (HG11.out.ints.2.below h1.2 (Nat.le_refl _)) h1.1 (gnil _))
  rw [show sameA [2] [] [2] [] = true from by kernel_rfl] at HSM
  have HIN : Hid (∀ Y, Below X.heap.size X Y → Calls Tryz.prog 26 #[.slice la 1 lc, .slice (some ⟨Y.heap.size, 0, none⟩) 1 1] (Y.alloc (.cells #[.int .i64 3] 3)) fun e w' => e = .returned (.bool true) ∧ Quiet (Y.alloc (.cells #[.int .i64 3] 3)) w') := fun Y hY => by
    have h := new_one Y 3 (by omega)
    have h2 := ints5_any (.slice la 1 lc) _ [3] [3] _ (((HO11.out.ints (by simp) (fun x hx => by rw [List.mem_singleton] at hx; omega)).below hY (Nat.le_refl _)).below h.2 (Nat.le_refl _)) h.1
    rw [show sameB [(3 : Int)] [3] = true from by kernel_rfl] at h2
    exact h2
  have HBX1 := Lib.hid h1.2
  clear h1
  go_upto_region 13 with (first
    | (go_at_call 26; go_loud (refine (HIN.out w11 HB11.out).mono ?_; rintro e w12 ⟨rfl, hq⟩; have HB12 := Lib.hid ((HB11.out.trans ((below_alloc1 w11 _).mono HB11.out.size)).trans (hq.below _)); clear hq))
    | (go_at_call 25; go_loud (refine HSM.out.mono ?_; rintro e w11 ⟨rfl, hb⟩; have HB11 := Lib.hid (HBX1.out.trans (hb.mono HBX1.out.size)); clear hb)))
  have HX12 := Lib.hid ((HB12.out.block b2 (Array.getElem?_eq_some_iff.1 HX11.out).1).trans HX11.out)
  have HW12 := Lib.hid (HW11.out.trans (HB12.out.mono HW11.out.size))
  clear c0 c1 HSM HIN HBX1 HG11 HO11 HX11 HB12 HB11 HW11
  have h1 := new_two w12 1 2 (by omega) (by omega)
  have h2 := new_pairs (w12.alloc (.cells #[.int .i64 1, .int .i64 2] 3)) [(2, 4)] 115 #[.int .i64 2, .int .i64 4] rfl (by intro p hp; rw [List.mem_singleton] at hp; subst hp; exact ⟨⟨by decide, by decide⟩, by decide, by decide⟩) (by decide)
  have h3 := new_one ((w12.alloc (.cells #[.int .i64 1, .int .i64 2] 3)).alloc (.cells #[.int .i64 2, .int .i64 4] 115)) 6 (by omega)
  have h4 := new_pairs (((w12.alloc (.cells #[.int .i64 1, .int .i64 2] 3)).alloc (.cells #[.int .i64 2, .int .i64 4] 115)).alloc (.cells #[.int .i64 6] 3)) [(1, 5)] 90 #[.int .i64 1, .int .i64 5] rfl (by intro p hp; rw [List.mem_singleton] at hp; subst hp; exact ⟨⟨by decide, by decide⟩, by decide, by decide⟩) (by decide)
  have h34 := h3.2.trans (h4.2.mono h3.2.size)
  have h24 := h2.2.trans (h34.mono h2.2.size)
  have h14 := h1.2.trans (h24.mono h1.2.size)
  have HCM := Lib.hid (gcompose_any _ _ _ _ [1, 2] [(2, 4)] [6] [(1, 5)] _ (h1.1.below h24 (Nat.le_refl _)) (h2.1.below h34 (Nat.le_refl _)) (h3.1.below h4.2 (Nat.le_refl _)) h4.1 (by decide) (by decide) (by decide))
  unfold ResPost at HCM
  rw [w_comp] at HCM
  simp only [World.size_alloc] at HCM
  have HBC := Lib.hid h14
  clear h1 h2 h3 h4 h34 h24 h14
  go_upto_region 14 with (go_at_call 36; go_loud (refine HCM.out.mono ?_; rintro e w13 ⟨v1, v2, v3, rfl, hg, ho, hb⟩; obtain ⟨pa, pc, rfl⟩ := hg.ints.1.shape; obtain ⟨pya, pyc, rfl, _⟩ := hg.ints.2.shape; obtain ⟨qa, qc, rfl⟩ := own_shC ho; have hbt := HBC.out.trans ((hb.mono (by simp)).mono HBC.out.size); have HG13 := Lib.hid hg; have HO13 := Lib.hid ho; have HB13 := Lib.hid hbt; obtain ⟨c0, c1, f0, f1⟩ := box2_cells ((hbt.block b2 (Array.getElem?_eq_some_iff.1 HX12.out).1).trans HX12.out); clear hg ho hb hbt))
  have hg13 : GrO w13 (w12.heap.size + 1 + 1 + 1 + 1) (.slice pa 2 pc) (.slice pya 0 pyc) [1, 2] [] := HG13.out
  have ho13 : Own w13 (w12.heap.size + 1 + 1 + 1 + 1) (.slice qa 1 qc) [0] := HO13.out
  have hx13 := (HB13.out.block b2 (Array.getElem?_eq_some_iff.1 HX12.out).1).trans HX12.out
  have hx14 := box2_set hx13 (.slice pa 2 pc) (.slice pya 0 pyc)
  have hg14 := (hg13.setBox hx13 0 (.slice pa 2 pc)).setBox (box2_mid hx13 (.slice pa 2 pc)) 1 (.slice pya 0 pyc)
  have ho14 := own_setBox (own_setBox ho13 hx13 0 (.slice pa 2 pc)) (box2_mid hx13 (.slice pa 2 pc)) 1 (.slice pya 0 pyc)
  have hw14 := ((HW12.out.trans (HB13.out.mono HW12.out.size)).setCell (p := ⟨b2, 0, none⟩) HB2W.out (.slice pa 2 pc)).setCell (p := ⟨b2, 1, none⟩) HB2W.out (.slice pya 0 pyc)
  change Code.wp _ _ _ _ ((w13.setCell ⟨b2, 0, none⟩ (.slice pa 2 pc)).setCell ⟨b2, 1, none⟩ (.slice pya 0 pyc))
  have HX14 := Lib.hid hx14
  have HG14 := Lib.hid hg14
  have HO14 := Lib.hid ho14
  have HW14 := Lib.hid hw14
  clear hg13 ho13 hx13 hx14 hg14 ho14 hw14 HG13 HO13 HB13 HCM HBC HX12 HW12 c0 c1 f0 f1
  generalize (w13.setCell ⟨b2, 0, none⟩ (.slice pa 2 pc)).setCell ⟨b2, 1, none⟩ (.slice pya 0 pyc) = Z at *
  obtain ⟨c0, c1, _, _⟩ := box2_cells HX14.out
  have h1 := new_two Z 1 2 (by omega) (by omega)
  have HSM := Lib.hid (rsame6_any (.slice pa 2 pc) (.slice pya 0 pyc) _ (.slice none 0 0) [1, 2] [] [1, 2] [] _ (HG14.out.ints.1.below h1.2 (Nat.le_refl _)) (HG14.out.ints.2.below h1.2 (Nat.le_refl _)) h1.1 (gnil _))
  rw [show sameA [1, 2] [] [1, 2] [] = true from by kernel_rfl] at HSM
  have HIN : Hid (∀ Y, Below Z.heap.size Z Y → Calls Tryz.prog 26 #[.slice qa 1 qc, .slice (some ⟨Y.heap.size, 0, none⟩) 1 1] (Y.alloc (.cells #[.int .i64 0] 3)) fun e w' => e = .returned (.bool true) ∧ Quiet (Y.alloc (.cells #[.int .i64 0] 3)) w') := fun Y hY => by
    have h := new_one Y 0 (by omega)
    have h2 := ints5_any (.slice qa 1 qc) _ [0] [0] _ (((HO14.out.ints (by simp) (fun x hx => by rw [List.mem_singleton] at hx; omega)).below hY (Nat.le_refl _)).below h.2 (Nat.le_refl _)) h.1
    rw [show sameB [(0 : Int)] [0] = true from by kernel_rfl] at h2
    exact h2
  have HBX1 := Lib.hid h1.2
  clear h1
  go_upto_region 15 with (first
    | (go_at_call 26; go_loud (refine (HIN.out w15 HB15.out).mono ?_; rintro e w16 ⟨rfl, hq⟩; have HB16 := Lib.hid ((HB15.out.trans ((below_alloc1 w15 _).mono HB15.out.size)).trans (hq.below _)); clear hq))
    | (go_at_call 25; go_loud (refine HSM.out.mono ?_; rintro e w15 ⟨rfl, hb⟩; have HB15 := Lib.hid (HBX1.out.trans (hb.mono HBX1.out.size)); clear hb)))
  have HX16 := Lib.hid ((HB16.out.block b2 (Array.getElem?_eq_some_iff.1 HX14.out).1).trans HX14.out)
  have HW16 := Lib.hid (HW14.out.trans (HB16.out.mono HW14.out.size))
  clear c0 c1 HSM HIN HBX1 HG14 HO14 HX14 HB16 HB15 HW14
  have h1 := blk_mem w16 2 1 (by omega) (by omega)
  have h2 := gate_mem ((w16.alloc (.cells #[.int .i64 2, .int .i64 1] 3)).alloc (.cells #[.bool false, .slice (some ⟨w16.heap.size, 0, none⟩) 2 2] 118))
  have hbb := h1.2.trans (h2.2.mono h1.2.size)
  have HFN := Lib.hid (gfromnet_any _ _ 3 wP wG _ (h1.1.below h2.2 (Nat.le_refl _)) h2.1 (by decide) (by decide) (by omega) (by omega))
  unfold NetRPost at HFN
  rw [w_net] at HFN
  simp only [World.size_alloc] at HFN
  have HBC := Lib.hid hbb
  simp only [World.size_alloc] at HBC
  clear h1 h2 hbb
  go_upto_region 16 with (go_at_call 54; go_loud (refine HFN.out.mono ?_; rintro e w17 ⟨v1, v2, rfl, hg, hb⟩; obtain ⟨ra, rc, rfl⟩ := hg.ints.1.shape; obtain ⟨rya, ryc, rfl, _⟩ := hg.ints.2.shape; have hbt := HBC.out.trans ((hb.mono (by simp)).mono HBC.out.size); have HG17 := Lib.hid hg; have HB17 := Lib.hid hbt; obtain ⟨c0, c1, f0, f1⟩ := box2_cells ((hbt.block b2 (Array.getElem?_eq_some_iff.1 HX16.out).1).trans HX16.out); clear hg hb hbt))
  have hg17 : GrO w17 (w16.heap.size + 1 + 1 + 1 + 1) (.slice ra 2 rc) (.slice rya 1 ryc) [1, 2] [(3, 4)] := HG17.out
  have hx17 := (HB17.out.block b2 (Array.getElem?_eq_some_iff.1 HX16.out).1).trans HX16.out
  have hx18 := box2_set hx17 (.slice ra 2 rc) (.slice rya 1 ryc)
  have hg18 := (hg17.setBox hx17 0 (.slice ra 2 rc)).setBox (box2_mid hx17 (.slice ra 2 rc)) 1 (.slice rya 1 ryc)
  have hw18 := ((HW16.out.trans (HB17.out.mono HW16.out.size)).setCell (p := ⟨b2, 0, none⟩) HB2W.out (.slice ra 2 rc)).setCell (p := ⟨b2, 1, none⟩) HB2W.out (.slice rya 1 ryc)
  change Code.wp _ _ _ _ ((w17.setCell ⟨b2, 0, none⟩ (.slice ra 2 rc)).setCell ⟨b2, 1, none⟩ (.slice rya 1 ryc))
  have HX18 := Lib.hid hx18
  have HG18 := Lib.hid hg18
  have HW18 := Lib.hid hw18
  clear hg17 hx17 hx18 hg18 hw18 HG17 HB17 HFN HBC HX16 HW16 c0 c1 f0 f1
  generalize (w17.setCell ⟨b2, 0, none⟩ (.slice ra 2 rc)).setCell ⟨b2, 1, none⟩ (.slice rya 1 ryc) = V at *
  obtain ⟨c0, c1, _, _⟩ := box2_cells HX18.out
  have h1 := blk_mem V 1 2 (by omega) (by omega)
  have HTN := Lib.hid (gtonet_any (.slice ra 2 rc) (.slice rya 1 ryc) _ [1, 2] [(3, 4)] 7 wQ _ (HG18.out.ints.1.below h1.2 (Nat.le_refl _)) (HG18.out.ints.2.below h1.2 (Nat.le_refl _)) h1.1 (by decide) (by decide) (by decide) (by omega) (by omega))
  unfold ToPost at HTN
  rw [w_to] at HTN
  simp only [World.size_alloc] at HTN
  have HBC := Lib.hid h1.2
  clear h1
  go_upto_region 17 with (go_at_call 55; go_loud (refine HTN.out.mono ?_; rintro e w19 ⟨v1, v2, rfl, hp, hg, hb⟩; obtain ⟨na, nc, rfl, _⟩ := hp.shape; obtain ⟨ga, gc, rfl, _⟩ := hg.shape; have HG19 := Lib.hid hg; have HB19 := Lib.hid (HBC.out.trans ((hb.mono (by simp)).mono HBC.out.size)); clear hp hg hb))
  have hgt : IsGates w19 (.slice ga 1 gc) [(3, 1, [-1, 2])] := HG19.out
  obtain ⟨gg, goff, gu, rfl, hgl, _, _, hgu, hui, _⟩ := hgt.at (show 0 < [((3 : Int), (1 : Int), [(-1 : Int), 2])].length by decide)
  rw [Nat.zero_mul, Nat.add_zero] at hgu
  have hui2 : IsInts w19 gu [-1, 2] := hui
  obtain ⟨ua, uc, rfl⟩ := hui2.shape
  have hbn := below_alloc1 w19 (.cells #[.slice na 1 nc, .slice (some ⟨gg, goff, none⟩) 1 gc, .int .i64 (-3)] 98)
  have hb3 : (w19.alloc (.cells #[.slice na 1 nc, .slice (some ⟨gg, goff, none⟩) 1 gc, .int .i64 (-3)] 98)).heap[w19.heap.size]? = some (.cells #[.slice na 1 nc, .slice (some ⟨gg, goff, none⟩) 1 gc, .int .i64 (-3)] 98 (0, 0)) := World.alloc_heap_new _ _
  have hY := HB19.out.trans (hbn.mono HB19.out.size)
  have HX20 := Lib.hid ((hY.block b2 (Array.getElem?_eq_some_iff.1 HX18.out).1).trans HX18.out)
  have HG20 := Lib.hid (HG18.out.below hY (Nat.le_refl _))
  have HU20 := Lib.hid (hui2.below hbn (Nat.le_refl _))
  have hC20 : (w19.alloc (.cells #[.slice na 1 nc, .slice (some ⟨gg, goff, none⟩) 1 gc, .int .i64 (-3)] 98)).cell? ⟨gg, goff + 2, none⟩ = some (.slice ua 2 uc) := (hbn.cell (p := ⟨gg, goff + 2, none⟩) hgl).trans hgu
  have HC20 := Lib.hid hC20
  have HGL : Hid (gg < (w19.alloc (.cells #[.slice na 1 nc, .slice (some ⟨gg, goff, none⟩) 1 gc, .int .i64 (-3)] 98)).heap.size) := Nat.lt_of_lt_of_le hgl hbn.size
  have HN20 := Lib.hid hb3
  have HW20 := Lib.hid (HW18.out.trans (hY.mono HW18.out.size))
  change Code.wp _ _ _ _ (w19.alloc (.cells #[.slice na 1 nc, .slice (some ⟨gg, goff, none⟩) 1 gc, .int .i64 (-3)] 98))
  clear hgt hgu hui hui2 hbn hb3 hY hC20 HX18 HG18 HB19 HTN HBC HG19 c0 c1 hgl HW18
  generalize w19.alloc (.cells #[.slice na 1 nc, .slice (some ⟨gg, goff, none⟩) 1 gc, .int .i64 (-3)] 98) = Y at *
  generalize w19.heap.size = b3 at *
  obtain ⟨c0, c1, _, _⟩ := box2_cells HX20.out
  have h1 := new_two Y 1 2 (by omega) (by omega)
  have h2 := new_pairs (Y.alloc (.cells #[.int .i64 1, .int .i64 2] 3)) [(3, 4)] 115 #[.int .i64 3, .int .i64 4] rfl (by intro p hp; rw [List.mem_singleton] at hp; subst hp; exact ⟨⟨by decide, by decide⟩, by decide, by decide⟩) (by decide)
  have hbb := h1.2.trans (h2.2.mono h1.2.size)
  have HSM := Lib.hid (rsame6_any (.slice ra 2 rc) (.slice rya 1 ryc) _ _ [1, 2] [(3, 4)] [1, 2] [(3, 4)] _ (HG20.out.ints.1.below hbb (Nat.le_refl _)) (HG20.out.ints.2.below hbb (Nat.le_refl _)) (h1.1.below h2.2 (Nat.le_refl _)) h2.1)
  rw [show sameA [1, 2] [(3, 4)] [1, 2] [(3, 4)] = true from by kernel_rfl, show (Y.alloc (.cells #[.int .i64 1, .int .i64 2] 3)).heap.size = Y.heap.size + 1 from by simp] at HSM
  have HIN : Hid (∀ Z, Below Y.heap.size Y Z → Calls Tryz.prog 26 #[.slice ua 2 uc, .slice (some ⟨Z.heap.size, 0, none⟩) 2 2] (Z.alloc (.cells #[.int .i64 (-1), .int .i64 2] 3)) fun e w' => e = .returned (.bool true) ∧ Quiet (Z.alloc (.cells #[.int .i64 (-1), .int .i64 2] 3)) w') := fun Z hZ => by
    have h := new_two Z (-1) 2 (by omega) (by omega)
    have h2 := ints5_any (.slice ua 2 uc) _ [-1, 2] [-1, 2] _ ((HU20.out.below hZ (Nat.le_refl _)).below h.2 (Nat.le_refl _)) h.1
    rw [show sameB [(-1 : Int), 2] [-1, 2] = true from by kernel_rfl] at h2
    exact h2
  have HBY := Lib.hid hbb
  clear h1 h2 hbb
  go_wp2_with (first
    | (go_at_call 26; go_loud (refine (HIN.out w21 HB21.out).mono ?_; rintro e w22 ⟨rfl, hq⟩; have HB22 := Lib.hid ((HB21.out.trans ((below_alloc1 w21 _).mono HB21.out.size)).trans (hq.below _)); clear hq))
    | (go_at_call 25; go_loud (refine HSM.out.mono ?_; rintro e w21 ⟨rfl, hb⟩; have hb21 := HBY.out.trans (hb.mono HBY.out.size); have HB21 := Lib.hid hb21; obtain ⟨n0, n1, n2⟩ := box3_cells ((hb21.block b3 (Array.getElem?_eq_some_iff.1 HN20.out).1).trans HN20.out); have u2 := (hb21.cell (p := ⟨gg, goff + 2, none⟩) HGL.out).trans HC20.out; clear hb hb21)))
  go_ret
  exact ⟨rfl, HW20.out.trans (HB22.out.mono HW20.out.size)⟩
end Go.Proofs.YtppglbffmgnooaaGreat
