/- The reference's Compose. -/
import Derived.Test.YtppglbffmgnooaaGreatAgRJoin
import Derived.Test.YtppglbffmgnooaaGreatB02
import Derived.Test.YtppglbffmgnooaaGreatA10
import Derived.Test.YtppglbffmgnooaaGreatAgR5N
namespace Go.Proofs.YtppglbffmgnooaaGreat
open Go.RowKit Go.Maps Go.Shelf
set_option linter.unusedVariables false
set_option linter.unusedSimpArgs false

theorem own_at1 {w : World} {B : Nat} {v : Value} {xs : List Int} (h : Own w B v xs) (hne : 0 < xs.length) : ∃ g cap, v = .slice (some ⟨g, 0, none⟩) xs.length cap ∧ B ≤ g ∧ g < w.heap.size := by
  rcases h.2 with ⟨_, h2⟩ | ⟨g, cap, cur, hv, hB, hg, _⟩
  · omega
  · exact ⟨g, cap, hv, hB, (Array.getElem?_eq_some_iff.1 hg).1⟩
theorem getD_memP {B : List Pr} {k : Nat} (h : k < B.length) : B.getD k dPr ∈ B := by simp [List.getD, h]
theorem own_store2 {w : World} {B B' g n c j : Nat} {u : Value} {xs ys : List Int} {y : Int} (ho : Own w B' u xs) (h : Own w B (.slice (some ⟨g, 0, none⟩) n c) ys) (hd : ∀ k, u.ownBlock = some k → k ≠ g) : Own (w.setCell ⟨g, j, none⟩ (.int .i64 y)) B' u xs :=
  ⟨ho.1, by
    rcases ho.2 with hn | ⟨k, cap, cur, hv, hB, hg, rest⟩
    · exact .inl hn
    · exact .inr ⟨k, cap, cur, hv, hB, (heap_set_other j _ (fun e => hd k (by rw [hv]; rfl) e)).trans hg, rest⟩⟩
set_option maxRecDepth 100000 in
set_option maxHeartbeats 12800000 in
theorem rcompose_any (vi va vl vb : Value) (I : List Int) (A : List Pr) (l : List Int) (B : List Pr) (w : World) (HI : IsInts w vi I) (HA : IsPairs w va A) (HL : IsInts w vl l) (HB : IsPairs w vb B) (h1 : I.length ≤ 4000000) (h2 : A.length ≤ 4000000) (h3 : B.length ≤ 4000000) :
    Calls Tryz.prog 37 #[.agg #[vi, va], vl, vb] w (RGPost w (composeR I A l B)) := by
  have hb1 := below_alloc1 w (.cells #[vi, va] 25)
  have hb2 := below_alloc1 (w.alloc (.cells #[vi, va] 25)) (.cells #[.slice none 0 0, .slice none 0 0] 25)
  have hb0 : Below w.heap.size w ((w.alloc (.cells #[vi, va] 25)).alloc (.cells #[.slice none 0 0, .slice none 0 0] 25)) := hb1.trans (hb2.mono hb1.size)
  have hsz : ((w.alloc (.cells #[vi, va] 25)).alloc (.cells #[.slice none 0 0, .slice none 0 0] 25)).heap.size = w.heap.size + 2 := by simp
  have hgx : ((w.alloc (.cells #[vi, va] 25)).alloc (.cells #[.slice none 0 0, .slice none 0 0] 25)).heap[w.heap.size]? = some (.cells #[vi, va] 25 (0, 0)) := (hb2.block _ (by simp)).trans (World.alloc_heap_new _ _)
  have hrx : ((w.alloc (.cells #[vi, va] 25)).alloc (.cells #[.slice none 0 0, .slice none 0 0] 25)).heap[w.heap.size + 1]? = some (.cells #[.slice none 0 0, .slice none 0 0] 25 (0, 0)) := by
    have h := World.alloc_heap_new (w.alloc (.cells #[vi, va] 25)) (.cells #[.slice none 0 0, .slice none 0 0] 25)
    simpa using h
  have HI1 := Lib.hid (HI.below hb0 (Nat.le_refl _))
  have HA1 := Lib.hid (HA.below hb0 (Nat.le_refl _))
  have HL1 := Lib.hid (HL.below hb0 (Nat.le_refl _))
  have HBP := Lib.hid (HB.below hb0 (Nat.le_refl _))
  obtain ⟨ia, ic, rfl⟩ := HI.shape
  obtain ⟨aa, ac, rfl, _⟩ := HA.shape
  obtain ⟨la, lc, rfl⟩ := HL.shape
  obtain ⟨ba, bc, rfl, _⟩ := HB.shape
  have HLL := Lib.hid HL.bd
  have HIW := Lib.hid HI
  have HBN := Lib.hid HB.inP
  clear HI HA HL HB hb1 hb2
  go_enter Tryz.func37, Tryz.ntmps37
  go_upto_region 1 with fail
  generalize World.alloc (World.alloc w _) _ = W at *
  have HB0 := Lib.hid hb0
  have HSZ := Lib.hid hsz
  have HGX := Lib.hid hgx
  have HRX := Lib.hid hrx
  have HBAD : Hid (∀ X c, Below W.heap.size W X → composeR I A l B = errR c → (X.cell? ⟨w.heap.size + 1, 0, none⟩ = some (.slice none 0 0) ∧ X.cell? ⟨w.heap.size + 1, 1, none⟩ = some (.slice none 0 0) ∧ X.frozen? ⟨w.heap.size + 1, 0, none⟩ = false ∧ X.frozen? ⟨w.heap.size + 1, 1, none⟩ = false) ∧
      (((X.setCell ⟨w.heap.size + 1, 0, none⟩ (.slice none 0 0)).setCell ⟨w.heap.size + 1, 1, none⟩ (.slice none 0 0)).cell? ⟨w.heap.size + 1, 0, none⟩ = some (.slice none 0 0) ∧ ((X.setCell ⟨w.heap.size + 1, 0, none⟩ (.slice none 0 0)).setCell ⟨w.heap.size + 1, 1, none⟩ (.slice none 0 0)).cell? ⟨w.heap.size + 1, 1, none⟩ = some (.slice none 0 0)) ∧
      RGPost w (composeR I A l B) (.returned (.tuple #[.agg #[.slice none 0 0, .slice none 0 0], .slice none 0 0, .int .i64 c])) ((X.setCell ⟨w.heap.size + 1, 0, none⟩ (.slice none 0 0)).setCell ⟨w.heap.size + 1, 1, none⟩ (.slice none 0 0))) := fun X c hX he => by
    have hr := (hX.block _ (by have := HSZ.out; omega)).trans HRX.out
    refine ⟨box2_cells hr, box2_put hr _ _, ?_⟩
    rw [he]
    exact ⟨_, _, _, rfl, (GrO.nil _ 0).ints, IsInts.nil' _, ((HB0.out.trans (hX.mono HB0.out.size)).setCell (p := ⟨w.heap.size + 1, 0, none⟩) (by show _ ≤ _ + 1; omega) _).setCell (p := ⟨w.heap.size + 1, 1, none⟩) (by show _ ≤ _ + 1; omega) _⟩
  clear hb0 hsz hgx hrx
  go_wp2
  go_loopw [9, 10, 11] (fun s9 s10 s11 wr => ∃ k : Nat, k ≤ B.length ∧ s11 = .int .i64 k ∧ Own wr W.heap.size s9 ((B.take k).map (·.1)) ∧ Own wr W.heap.size s10 ((B.take k).map (·.2)) ∧ (∀ g, s9.ownBlock = some g → s10.ownBlock ≠ some g) ∧ Hid (∀ j, j < k → (B.getD j dPr).1 ∉ (B.take j).map (·.1)) ∧ Below W.heap.size W wr) (fun _ _ s11 _ => B.length - (intOf s11).toNat)
  case atStart => exact ⟨0, Nat.zero_le _, rfl, Own.nil _ _, Own.nil _ _, fun g h => (by cases h), fun j hj => absurd hj (Nat.not_lt_zero _), Below.refl _ _⟩
  case round =>
    obtain ⟨k, hk, rfl, hu, hv, hd, HNO, hbl⟩ := hrel
    by_cases hlt : k < B.length
    · have HU := Lib.hid hu
      have HV := Lib.hid hv
      have HD := Lib.hid hd
      have HBL := Lib.hid hbl
      obtain ⟨ua, uc, rfl⟩ := own_shC hu
      obtain ⟨ea, ec, rfl⟩ := own_shC hv
      obtain ⟨b, off, rfl, hbb, hx0, hy0⟩ := HBP.out.at hlt
      have hin := HBN.out _ (show B.getD k dPr ∈ B by simp [List.getD, hlt])
      have hx := (HBL.out.cell (p := ⟨b, off + k * 2, none⟩) hbb).trans hx0
      have HYC : Hid (∀ Z, Below W.heap.size W Z → Z.cell? ⟨b, off + k * 2 + 1, none⟩ = some (.int .i64 (B.getD k dPr).2)) := fun Z hZ => (hZ.cell (p := ⟨b, off + k * 2 + 1, none⟩) hbb).trans hy0
      have HT1 : Hid ((B.take (k + 1)).map (·.1) = (B.take k).map (·.1) ++ [(B.getD k dPr).1]) := by show _ = _; rw [take_prS hlt, List.map_append]; rfl
      have HT2 : Hid ((B.take (k + 1)).map (·.2) = (B.take k).map (·.2) ++ [(B.getD k dPr).2]) := by show _ = _; rw [take_prS hlt, List.map_append]; rfl
      have HKL := Lib.hid hlt
      have hk0 : (0 : Int) ≤ (k : Int) := by omega
      have hk1 : (k : Int) < (B.length : Int) := by omega
      have hk2 : (k : Int) < 4000001 := by omega
      have HLN : Hid (((B.take k).map (·.1)).length < 17592186044416 ∧ ((B.take k).map (·.2)).length < 17592186044416) := ⟨by rw [List.length_map, List.length_take]; omega, by rw [List.length_map, List.length_take]; omega⟩
      have HIN := Lib.hid (in5_any _ ((B.take k).map (·.1)) (B.getD k dPr).1 wr (HU.out.ints (by have := HLN.out.1; omega) (fun z hz => by
        obtain ⟨o, ho, rfl⟩ := List.mem_map.1 hz
        exact (HBN.out o (List.mem_of_mem_take ho)).1)) hin.1.1 hin.1.2)
      unfold memB at HIN
      have HDE : Hid (decide ((B.getD k dPr).1 ∈ (B.take k).map (·.1)) = true → composeR I A l B = errR 2) := fun h => comp_dup HKL.out (of_decide_eq_true h)
      have HNK : Hid (decide ((B.getD k dPr).1 ∈ (B.take k).map (·.1)) = false → ∀ j, j < k + 1 → (B.getD j dPr).1 ∉ (B.take j).map (·.1)) := fun h j hj => by
        rcases Nat.lt_succ_iff_lt_or_eq.1 hj with h9 | h9
        · exact HNO.out j h9
        · subst h9
          exact of_decide_eq_false h
      clear hu hv hd hbl hlt hin hx0 hy0 hbb HNO
      cases hd1 : decide ((B.getD k dPr).1 ∈ (B.take k).map (·.1)) with
      | true =>
        rw [hd1] at HIN
        have HE : Hid (composeR I A l B = errR 2) := HDE.out hd1
        obtain ⟨⟨c0, c1, f0, f1⟩, ⟨g0, g1⟩, hpost⟩ := HBAD.out wr 2 HBL.out HE.out
        have HPO := Lib.hid hpost
        clear hpost hd1 HDE HNK HT1 HT2
        generalize (B.getD k dPr).1 = x at *
        generalize (B.take k).map (·.1) = us at *
        generalize (B.take k).map (·.2) = es at *
        go_wp2_with (go_at_call 98; refine HIN.out.mono ?_; rintro e w3 ⟨rfl, rfl⟩)
        exact ⟨rfl, .tuple #[.agg #[.slice none 0 0, .slice none 0 0], .slice none 0 0, .int .i64 2], by simp [results, Tryz.f37, go_sem, g0, g1], HPO.out⟩
      | false =>
        rw [hd1] at HIN
        have HNJ := Lib.hid (HNK.out hd1)
        clear hd1 HDE HNK
        generalize (B.getD k dPr).1 = x at *
        generalize (B.getD k dPr).2 = y at *
        generalize (B.take k).map (·.1) = us at *
        generalize (B.take k).map (·.2) = es at *
        go_wp2_with (first
          | (at_builtin; refine wpList_app1A rfl (.tmp 40) (.tmp 46) rfl W.heap.size _ _ y w1.heap.size rfl rfl (HV1.out.alloc _) (cell_fresh rfl) HLN.out.2 (by have := HB1.out.size; simp; omega) ?_; intro v' w2 ho' hg' hl'; have HO2 := Lib.hid ho'; have HG2 := Lib.hid hg'; have HQ2 := Lib.hid hl'; clear ho' hg' hl' hy1)
          | (at_builtin; refine wpList_app1A rfl (.tmp 32) (.tmp 38) rfl W.heap.size _ _ x wr.heap.size rfl rfl (HU.out.alloc _) (cell_fresh rfl) HLN.out.1 (by have := HBL.out.size; simp; omega) ?_; intro u' w1 ho' hg' hl'; have HO1 := Lib.hid ho'; have HG1 := Lib.hid hg'; have HQ1 := Lib.hid hl'; have HV1 := Lib.hid (own_other HU.out HV.out HD.out hg'); have HB1 := Lib.hid ((HBL.out.alloc HBL.out.size _).grown hg' (by have := HBL.out.size; simp; omega) (fun j e => (HU.out.lt j e).1)); have hy1 := HYC.out w1 HB1.out; clear ho' hg' hl' hx)
          | (go_at_call 98; refine HIN.out.mono ?_; rintro e w3 ⟨rfl, rfl⟩))
        go_roundw
        case rel =>
          have hd1 := own_apart HU.out HV.out HD.out HQ1.out
          have hd2 := own_apart HV1.out HO1.out (fun g e1 e2 => hd1 g e2 e1) HQ2.out
          exact ⟨k + 1, HKL.out, by go_num, by rw [HT1.out]; exact own_other HV1.out HO1.out (fun g e1 e2 => hd1 g e2 e1) HG2.out, by rw [HT2.out]; exact HO2.out, fun g e1 e2 => hd2 g e2 e1, HNJ.out, (HB1.out.alloc HB1.out.size _).grown HG2.out (by have := HB1.out.size; simp; omega) (fun j e => (HV1.out.lt j e).1)⟩
        case measure => have := HKL.out; simp [intOf]; omega
    · obtain rfl : k = B.length := by omega
      rw [List.take_length] at hu hv
      have HU := Lib.hid hu
      have HV := Lib.hid hv
      have HBL := Lib.hid hbl
      obtain ⟨ua, uc, rfl⟩ := own_shC hu
      obtain ⟨ea, ec, rfl⟩ := own_shC hv
      have HUI := Lib.hid (hu.ints (by rw [List.length_map]; omega) (fun z hz => by
        obtain ⟨o, ho, rfl⟩ := List.mem_map.1 hz
        exact (HBN.out o ho).1))
      have HEI := Lib.hid (hv.ints (by rw [List.length_map]; omega) (fun z hz => by
        obtain ⟨o, ho, rfl⟩ := List.mem_map.1 hz
        exact (HBN.out o ho).2))
      clear hu hv hd hbl hlt hk
      generalize wr = Y at *
      have HHL : Hid (∀ X, Below W.heap.size W X → Calls Tryz.prog 65 #[.agg #[.slice ia I.length ic, .slice aa A.length ac], .slice la l.length lc] X fun r w' => r = .returned (.bool (hasA I A l)) ∧ Below X.heap.size X w') := fun X hX =>
        rhasall_any _ _ _ I A l X (HI1.out.below hX (Nat.le_refl _)) (HA1.out.below hX (Nat.le_refl _)) (HL1.out.below hX (Nat.le_refl _)) h1 h2
      have HHE : Hid (∀ X, Below Y.heap.size Y X → Calls Tryz.prog 65 #[.agg #[.slice ia I.length ic, .slice aa A.length ac], .slice ea (B.map (·.2)).length ec] X fun r w' => r = .returned (.bool (hasA I A (B.map (·.2)))) ∧ Below X.heap.size X w') := fun X hX =>
        rhasall_any _ _ _ I A (B.map (·.2)) X (HI1.out.below (HBL.out.trans (hX.mono HBL.out.size)) (Nat.le_refl _)) (HA1.out.below (HBL.out.trans (hX.mono HBL.out.size)) (Nat.le_refl _)) (HEI.out.below hX (Nat.le_refl _)) h1 h2
      have HGC : Hid (∀ X, Below W.heap.size W X → X.cell? ⟨w.heap.size, 0, none⟩ = some (.slice ia I.length ic) ∧ X.cell? ⟨w.heap.size, 1, none⟩ = some (.slice aa A.length ac)) := fun X hX => by
        obtain ⟨q0, q1, _, _⟩ := box2_cells ((hX.block w.heap.size (by have := HSZ.out; omega)).trans HGX.out)
        exact ⟨q0, q1⟩
      obtain ⟨p0, p1⟩ := HGC.out Y HBL.out
      have HUL : Hid ((B.map (·.1)).length = B.length) := by show _ = _; rw [List.length_map]
      have HUG : Hid (∀ j, j < B.length → (B.map (·.1)).getD j 0 = (B.getD j dPr).1) := fun j hj => by simp [List.getD, hj]
      have HES : Hid (rcomp1 I A B = rcAll (1 + I.length) I A (I.map (edgeI I)) (B.map (·.2)) ([], false)) := rfl
      have HC1 : Hid (hasA I A l = true → hasA I A (B.map (·.2)) = true → _) := fun e1 e2 => comp_ref (I := I) (A := A) (l := l) (B := B) e1 e2 HNO.out
      have HC2 : Hid (hasA I A (B.map (·.2)) = false → composeR I A l B = errR 2) := comp_bad2
      have HC3 : Hid (hasA I A l = false → composeR I A l B = errR 2) := comp_bad1
      have HESL : Hid ((B.map (·.2)).length = B.length) := by show _ = _; rw [List.length_map]
      have HESG : Hid (∀ j, j < B.length → (B.map (·.2)).getD j 0 = (B.getD j dPr).2) := fun j hj => by simp [List.getD, hj]
      clear HNO
      generalize B.map (·.2) = es at *
      generalize B.map (·.1) = us at *
      by_cases hh : hasA I A l = true
      · by_cases he : hasA I A es = true
        · rw [hh] at HHL
          rw [he] at HHE
          have HCR := Lib.hid (HC1.out hh he)
          obtain ⟨hm, hok, hl⟩ := hasA_parts hh
          have hle := (hasA_parts he).2.2
          have hroom := (mayA_parts hm).1
          have hsrt := (insB_lt (mayA_parts hm).2.1).2
          have HOK := Lib.hid hok
          have HLE := Lib.hid hl
          have HEE := Lib.hid hle
          have HSR := Lib.hid hsrt
          have HRM := Lib.hid hroom
          have hI0 : I.length ≤ 200000 := by omega
          clear hh he hm hok hl hle hsrt hroom HC1 HC2 HC3
          go_upto_region 11 with (first
            | (go_at_call 65; refine (HHE.out w1 HC1x.out).mono ?_; rintro e w2 ⟨rfl, hb⟩; have HB2 := Lib.hid (HC1x.out.trans (hb.mono HC1x.out.size)); clear hb p0 p1)
            | (go_at_call 65; refine (HHL.out Y HBL.out).mono ?_; rintro e w1 ⟨rfl, hb⟩; have HC1x := Lib.hid hb; clear hb p0 p1; obtain ⟨p0, p1⟩ := HGC.out w1 (HBL.out.trans (HC1x.out.mono HBL.out.size))))
          have HBW2 : Hid (Below W.heap.size W w2) := HBL.out.trans (HB2.out.mono HBL.out.size)
          have HUI2 := Lib.hid (HUI.out.below HB2.out (Nat.le_refl _))
          have HEI2 := Lib.hid (HEI.out.below HB2.out (Nat.le_refl _))
          clear HHL HHE HC1x HUI HEI HU HV HB2
          go_wp2
          go_loopw [12] (fun s12 wr => ∃ k : Nat, k ≤ us.length ∧ s12 = .int .i64 k ∧ Hid (∀ j, j < k → placeA I (B.getD j dPr).1 ≠ 0) ∧ Below w2.heap.size w2 wr) (fun s12 _ => us.length - (intOf s12).toNat)
          case atStart => exact ⟨0, Nat.zero_le _, rfl, fun j hj => absurd hj (Nat.not_lt_zero _), Below.refl _ _⟩
          case round =>
            obtain ⟨k, hk, rfl, HPL, hbl⟩ := hrel
            have HB3 := Lib.hid hbl
            have HBR : Hid (Below W.heap.size W wr) := HBW2.out.trans (hbl.mono HBW2.out.size)
            clear hbl
            by_cases hlt : k < us.length
            · obtain ⟨b, off, rfl, hbk, hc0⟩ := HUI2.out.cellY hlt
              have hc := (HB3.out.cell (p := ⟨b, off + k, none⟩) hbk).trans hc0
              have hin := HBN.out _ (show B.getD k dPr ∈ B from getD_memP (HUL.out ▸ hlt))
              have HXE : Hid (us.getD k 0 = (B.getD k dPr).1) := HUG.out k (by rw [← HUL.out]; exact hlt)
              have HKL := Lib.hid hlt
              have hk0 : (0 : Int) ≤ (k : Int) := by omega
              have hk1 : (k : Int) < (us.length : Int) := by omega
              have hk2 : (k : Int) < 4000001 := by have := HUL.out; omega
              rw [← HXE.out] at hin
              clear hlt hc0
              go_upto_region 14 with fail
              have hwd : Below wr.heap.size wr wr.drew := (Below.refl _ wr).drew
              have HBRD := Lib.hid (HBR.out.trans (hwd.mono HBR.out.size))
              have HB3D := Lib.hid (HB3.out.trans (hwd.mono HB3.out.size))
              have hgd := (HBRD.out.block _ (Array.getElem?_eq_some_iff.1 HGX.out).1).trans HGX.out
              have hcd : wr.drew.cell? ⟨b, off + k, none⟩ = some (.int .i64 (us.getD k 0)) := hc
              have HBK := Lib.hid hbk
              have HED := Lib.hid (redge_any (.slice ia I.length ic) (.slice aa A.length ac) I A (us.getD k 0) wr.drew (HI1.out.below HBRD.out (Nat.le_refl _)) (HA1.out.below HBRD.out (Nat.le_refl _)) HSR.out hI0 hin.1.1 hin.1.2)
              have HEB : Hid (edgeI I (us.getD k 0) = 2 * placeA I (us.getD k 0) ∧ placeA I (us.getD k 0) ≠ 0 ∨ edgeI I (us.getD k 0) = -1 ∧ placeA I (us.getD k 0) = 0) := by
                unfold edgeI
                by_cases hm : us.getD k 0 ∈ I
                · have := place_in hm
                  rw [if_pos hm]
                  exact .inl ⟨rfl, by omega⟩
                · rw [if_neg hm]
                  exact .inr ⟨rfl, place_no hm⟩
              have HPE : Hid (placeA I (us.getD k 0) = placeA I (B.getD k dPr).1) := by show _ = _; rw [HXE.out]
              have HPD := Lib.hid (placeA_bd I (us.getD k 0))
              clear hc hin HXE hbk
              generalize edgeI I (us.getD k 0) = z at *
              generalize placeA I (us.getD k 0) = pz at *
              generalize us.getD k 0 = x at *
              refine wp_region_held_drew (S := fun Z : World => Z.heap[w.heap.size]? = some (.cells #[.slice ia I.length ic, .slice aa A.length ac] 25 (0, 0)) ∧ Z.cell? ⟨b, off + k, none⟩ = some (.int .i64 x)) (by kernel_rfl) ⟨hgd, hcd⟩ (fun hSd => ?_)
              clear hwd hgd hcd
              generalize wr.drew = X at *
              refine takeC (i := 0) (v := .agg #[.slice ia I.length ic, .slice aa A.length ac]) (some 65) rfl rfl (by kernel_rfl) (by kernel_rfl) (by kernel_rfl) (fun _ _ _ h => h) (Or.inl ⟨by rfl, ?_⟩) (by assumption) ?_
              · intro wz hSw; obtain ⟨t0, t1, _, _⟩ := box2_cells hSw.1; go_simp
              try simp only [Act.put, List.setIfInBounds_toArray, List.set_cons_zero, List.set_cons_succ]
              refine takeC (i := 1) (v := .slice (some ⟨b, off, none⟩) us.length uc) (some 66) rfl rfl (by kernel_rfl) (by kernel_rfl) (by kernel_rfl) (fun _ _ _ h => h) (Or.inl ⟨by rfl, ?_⟩) (by assumption) ?_
              · intro wz hSw; go_simp
              try simp only [Act.put, List.setIfInBounds_toArray, List.set_cons_zero, List.set_cons_succ]
              refine takeC (i := 2) (v := .int .i64 (k : Int)) (some 67) rfl rfl (by kernel_rfl) (by kernel_rfl) (by kernel_rfl) (fun _ _ _ h => h) (Or.inl ⟨by rfl, ?_⟩) (by assumption) ?_
              · intro wz hSw; go_simp
              try simp only [Act.put, List.setIfInBounds_toArray, List.set_cons_zero, List.set_cons_succ]
              refine takeC (i := 3) (v := .pointer (some ⟨b, off + k, none⟩)) (some 68) rfl rfl (by kernel_rfl) (by kernel_rfl) (by kernel_rfl) (fun _ _ _ h => h) (Or.inl ⟨by rfl, ?_⟩) (by assumption) ?_
              · intro wz hSw; go_simp
              try simp only [Act.put, List.setIfInBounds_toArray, List.set_cons_zero, List.set_cons_succ]
              refine takeC (i := 4) (v := .int .i64 x) (some 69) rfl rfl (by kernel_rfl) (by kernel_rfl) (by kernel_rfl) (fun _ _ _ h => h) (Or.inl ⟨by rfl, ?_⟩) (by assumption) ?_
              · intro wz hSw; have t0 := hSw.2; go_simp
              try simp only [Act.put, List.setIfInBounds_toArray, List.set_cons_zero, List.set_cons_succ]
              refine wpAnyH_ready (rs := [5]) (by kernel_rfl) (by simp) ?_
              refine AllReadyH.cons rfl (fun K hK => ?_) AllReadyH.nil
              go_simp
              go_wp2_with (go_at_call 51; refine HED.out.mono ?_; rintro e x1 ⟨rfl, hb⟩)
              have HBX := Lib.hid (HBRD.out.trans (hb.mono HBRD.out.size))
              have HB3X := Lib.hid (HB3D.out.trans (hb.mono HB3D.out.size))
              have hS1 : x1.heap[w.heap.size]? = some (.cells #[.slice ia I.length ic, .slice aa A.length ac] 25 (0, 0)) ∧ x1.cell? ⟨b, off + k, none⟩ = some (.int .i64 x) := ⟨(hb.block _ (Array.getElem?_eq_some_iff.1 hSd.1).1).trans hSd.1, (hb.cell (p := ⟨b, off + k, none⟩) (Nat.lt_of_lt_of_le HBK.out HB3D.out.size)).trans hSd.2⟩
              refine hK.out _ _ hS1 (fun hHn => ?_)
              clear hK K hHn hb hSd
              try simp only [Act.put, List.setIfInBounds_toArray, List.set_cons_zero, List.set_cons_succ]
              obtain ⟨bz, hbz⟩ : ∃ bz : Bool, decide (z < 0) = bz := ⟨_, rfl⟩
              refine takeC (i := 6) (v := .bool bz) (some 71) rfl rfl (by kernel_rfl) (by kernel_rfl) (by kernel_rfl) (fun _ _ _ h => h) (Or.inl ⟨by rfl, ?_⟩) (by assumption) ?_
              · intro wz hSw; go_simp
              try simp only [Act.put, List.setIfInBounds_toArray, List.set_cons_zero, List.set_cons_succ]
              refine wpAnyH_done (by kernel_rfl) ?_ _
              have HBZ := Lib.hid hbz
              clear hS1 HED hbz
              cases bz with
              | false =>
                have HPN : Hid (∀ j, j < k + 1 → placeA I (B.getD j dPr).1 ≠ 0) := fun j hj => by
                  rcases Nat.lt_succ_iff_lt_or_eq.1 hj with h9 | h9
                  · exact HPL.out j h9
                  · subst h9
                    rw [← HPE.out]
                    have h8 := of_decide_eq_false HBZ.out
                    rcases HEB.out with ⟨_, hpz⟩ | ⟨hz, _⟩
                    · exact hpz
                    · omega
                clear HPL HPE HPD HEB HBZ
                go_wp2
                go_roundw
                case rel => exact ⟨k + 1, HKL.out, by go_num, HPN.out, HB3X.out⟩
                case measure => have := HKL.out; simp [intOf]; omega
              | true =>
                have HE : Hid (composeR I A l B = errR 6) := HCR.out.1 (hasAll_bad (show k < B.length by rw [← HUL.out]; exact HKL.out) (by
                  rw [← HPE.out]
                  have h8 := of_decide_eq_true HBZ.out
                  have h7 := HPD.out
                  rcases HEB.out with ⟨hz, _⟩ | ⟨_, hpz⟩
                  · omega
                  · exact hpz))
                obtain ⟨⟨c0, c1, f0, f1⟩, ⟨g0, g1⟩, hpost⟩ := HBAD.out x1 6 HBX.out HE.out
                have HPO := Lib.hid hpost
                clear hpost HPL HPE HPD HEB HBZ
                go_wp2
                exact ⟨rfl, .tuple #[.agg #[.slice none 0 0, .slice none 0 0], .slice none 0 0, .int .i64 6], by simp [results, Tryz.f37, go_sem, g0, g1], HPO.out⟩
            · obtain rfl : k = us.length := by omega
              rw [HUL.out] at HPL
              have HCK := Lib.hid (HCR.out.2 (hasAll_good HPL.out))
              have HEI3 := Lib.hid (HEI2.out.below HB3.out (Nat.le_refl _))
              obtain ⟨p0, p1⟩ := HGC.out wr HBR.out
              have HI3 := Lib.hid (HI1.out.below HBR.out (Nat.le_refl _))
              clear hk HCR HUI2 HEI2 HB3
              generalize wr = Y3 at *
              go_upto_region 17 with fail
              clear p0 p1 hlt
              have hbn := below_alloc1 Y3 (.cells #[.slice ia I.length ic, .slice none 0 0, .bool false] 82)
              have HBN3 := Lib.hid (HBR.out.trans (hbn.mono HBR.out.size))
              have HMK := Lib.hid (rmk_new Y3 (.slice ia I.length ic) I HI3.out (by have := HRM.out; omega))
              have HEI4 := Lib.hid (HEI3.out.below hbn (Nat.le_refl _))
              have HS2 : Hid ((Y3.alloc (.cells #[.slice ia I.length ic, .slice none 0 0, .bool false] 82)).heap.size = Y3.heap.size + 1) := by show _ = _; simp
              have HPB : Hid (∀ Z, Below Y3.heap.size (Y3.alloc (.cells #[.slice ia I.length ic, .slice none 0 0, .bool false] 82)) Z → Below W.heap.size W Z) := fun Z hZ => HBN3.out.trans (hZ.mono HBR.out.size)
              clear hbn HI3 HEI3
              generalize Y3.alloc (.cells #[.slice ia I.length ic, .slice none 0 0, .bool false] 82) = W2 at *
              have HPS : Hid (W.heap.size ≤ Y3.heap.size) := HBR.out.size
              clear HBR
              generalize Y3.heap.size = pm at *
              have hwd : Below W2.heap.size W2 W2.drew := (Below.refl _ W2).drew
              have HKD := Lib.hid (HMK.out.kpb hwd (by rw [HS2.out]; omega))
              have HBD := Lib.hid (HBN3.out.trans (hwd.mono HBN3.out.size))
              have HSD : Hid (W2.drew.heap.size = pm + 1) := HS2.out
              have HED4 := Lib.hid (HEI4.out.below hwd (Nat.le_refl _))
              have hgd := (HBD.out.block _ (Array.getElem?_eq_some_iff.1 HGX.out).1).trans HGX.out
              refine wp_region_held_drew (S := fun Z : World => Z.heap[w.heap.size]? = some (.cells #[.slice ia I.length ic, .slice aa A.length ac] 25 (0, 0)) ∧ Z.heap[pm]? = some (.cells #[.slice ia I.length ic, .slice none 0 0, .bool false] 82 (0, 0))) (by kernel_rfl) ⟨hgd, HKD.out.box⟩ (fun hSd => ?_)
              clear hwd hgd
              generalize W2.drew = X at *
              have HED := Lib.hid (redges_any (.slice ia I.length ic) (.slice none 0 0) (.slice ia I.length ic) I [] I X (HI1.out.below HBD.out (Nat.le_refl _)) (GrO.nil X 0).ints.2 (HI1.out.below HBD.out (Nat.le_refl _)) HSR.out hI0)
              refine takeC (i := 0) (v := .pointer (some ⟨pm, 0, none⟩)) (some 78) rfl rfl (by kernel_rfl) (by kernel_rfl) (by kernel_rfl) (fun _ _ _ h => h) (Or.inl ⟨by rfl, ?_⟩) (by assumption) ?_
              · intro wz hSw; go_simp
              try simp only [Act.put, List.setIfInBounds_toArray, List.set_cons_zero, List.set_cons_succ]
              refine takeC (i := 1) (v := .pointer (some ⟨pm, 0, none⟩)) (some 79) rfl rfl (by kernel_rfl) (by kernel_rfl) (by kernel_rfl) (fun _ _ _ h => h) (Or.inl ⟨by rfl, ?_⟩) (by assumption) ?_
              · intro wz hSw; go_simp
              try simp only [Act.put, List.setIfInBounds_toArray, List.set_cons_zero, List.set_cons_succ]
              refine takeC (i := 2) (v := .pointer (some ⟨pm, 0, none⟩)) (some 80) rfl rfl (by kernel_rfl) (by kernel_rfl) (by kernel_rfl) (fun _ _ _ h => h) (Or.inl ⟨by rfl, ?_⟩) (by assumption) ?_
              · intro wz hSw; go_simp
              try simp only [Act.put, List.setIfInBounds_toArray, List.set_cons_zero, List.set_cons_succ]
              refine takeC (i := 3) (v := .agg #[.slice ia I.length ic, .slice none 0 0]) (some 81) rfl rfl (by kernel_rfl) (by kernel_rfl) (by kernel_rfl) (fun _ _ _ h => h) (Or.inl ⟨by rfl, ?_⟩) (by assumption) ?_
              · intro wz hSw; obtain ⟨t0, t1, _⟩ := box3r_cells hSw.2; go_simp
              try simp only [Act.put, List.setIfInBounds_toArray, List.set_cons_zero, List.set_cons_succ]
              refine takeC (i := 4) (v := .pointer (some ⟨w.heap.size, 0, none⟩)) (some 82) rfl rfl (by kernel_rfl) (by kernel_rfl) (by kernel_rfl) (fun _ _ _ h => h) (Or.inl ⟨by rfl, ?_⟩) (by assumption) ?_
              · intro wz hSw; go_simp
              try simp only [Act.put, List.setIfInBounds_toArray, List.set_cons_zero, List.set_cons_succ]
              refine takeC (i := 5) (v := .slice ia I.length ic) (some 83) rfl rfl (by kernel_rfl) (by kernel_rfl) (by kernel_rfl) (fun _ _ _ h => h) (Or.inl ⟨by rfl, ?_⟩) (by assumption) ?_
              · intro wz hSw; obtain ⟨t0, t1, _, _⟩ := box2_cells hSw.1; go_simp
              try simp only [Act.put, List.setIfInBounds_toArray, List.set_cons_zero, List.set_cons_succ]
              refine wpAnyH_ready (rs := [6]) (by kernel_rfl) (by simp) ?_
              refine AllReadyH.cons rfl (fun K hK => ?_) AllReadyH.nil
              go_simp
              go_wp2_with (go_at_call 87; refine HED.out.mono ?_; rintro e x1 ⟨u, rfl, hu, hb⟩)
              have HK1 := Lib.hid (HKD.out.kpb hb (by rw [HSD.out]; omega))
              have HB1X := Lib.hid (HBD.out.trans (hb.mono HBD.out.size))
              have HE1 := Lib.hid (HED4.out.below hb (Nat.le_refl _))
              have HS1 : Hid (pm + 1 ≤ x1.heap.size ∧ W2.heap.size ≤ x1.heap.size) := by have h := hb.size; have := HSD.out; have := HS2.out; exact ⟨by omega, by omega⟩
              have HO1 := Lib.hid (hu.mono (show pm + 1 ≤ X.heap.size by have := HSD.out; omega))
              have HUI := Lib.hid (hu.ints (by rw [List.length_map]; omega) (fun y hy => by
                obtain ⟨v, _, rfl⟩ := List.mem_map.1 hy
                have := edgeI_bd I v hI0
                omega))
              have hS1 : x1.heap[w.heap.size]? = some (.cells #[.slice ia I.length ic, .slice aa A.length ac] 25 (0, 0)) ∧ x1.heap[pm]? = some (.cells #[.slice ia I.length ic, .slice none 0 0, .bool false] 82 (0, 0)) := ⟨(hb.block _ (Array.getElem?_eq_some_iff.1 hSd.1).1).trans hSd.1, (hb.block _ (Array.getElem?_eq_some_iff.1 hSd.2).1).trans hSd.2⟩
              refine hK.out _ _ hS1 (fun hHn => ?_)
              clear hK K hHn hu hb hSd
              try simp only [Act.put, List.setIfInBounds_toArray, List.set_cons_zero, List.set_cons_succ]
              refine takeC (i := 7) (v := u) (some 14) rfl rfl (by kernel_rfl) (by kernel_rfl) (by kernel_rfl) (fun _ _ _ h => h) (Or.inl ⟨by rfl, ?_⟩) (by assumption) ?_
              · intro wz hSw; go_simp
              try simp only [Act.put, List.setIfInBounds_toArray, List.set_cons_zero, List.set_cons_succ]
              refine wpAnyH_done (by kernel_rfl) ?_ _
              clear hS1 HED
              have HCP := Lib.hid (rcopied_any (.slice ia I.length ic) (.slice aa A.length ac) (.slice ea es.length ec) u I A es (I.map (edgeI I)) HK1.out (by have := HS1.out; omega) HS1.out.2 (fun Z hZ => ⟨HI1.out.below (HB1X.out.trans (hZ.mono HPS.out)) (Nat.le_refl _), HA1.out.below (HB1X.out.trans (hZ.mono HPS.out)) (Nat.le_refl _)⟩) HE1.out HUI.out (by rw [List.length_map]) HRM.out HOK.out HEE.out (fun y hy => by
                obtain ⟨v, hv, rfl⟩ := List.mem_map.1 hy
                exact edgeI_isE hv))
              have HCO := Lib.hid (rcAll_ok (k := 1 + I.length) (I := I) (A := A) (ins := I.map (edgeI I)) (l := es) (s := ([], false)) (by omega) ⟨rfl, by simp; have := HRM.out; omega⟩ (by rw [List.length_map]) HOK.out (fun y hy => by
                obtain ⟨v, hv, rfl⟩ := List.mem_map.1 hy
                exact edgeI_isE hv))
              rw [← HES.out] at HCP HCO
              unfold RCopPost at HCP
              have HIR : Hid (rcompI I A B = insR I B (rcomp1 I A B).1 (I.map (edgeI I))) := rfl
              have HR2 : Hid (rcomp2 I A l B = rcAll (1 + I.length) I A (rcompI I A B) l (rcomp1 I A B).2) := rfl
              obtain ⟨p0, p1⟩ := HGC.out x1 HB1X.out
              go_upto_region 19 with (go_at_call 86; refine HCP.out.mono ?_; rintro e x2 ⟨t, vq, rfl, ht, hm, hkm⟩)
              have HM2 := Lib.hid hm
              have HB2X : Hid (Below W.heap.size W x2) := HB1X.out.trans (hkm.below.mono HPS.out)
              have HO2 := Lib.hid (rmk_own HK1.out hkm HO1.out)
              have HT2 := Lib.hid (ht.mono (show pm + 1 ≤ x1.heap.size from HS1.out.1))
              have HAP : Hid (∀ g, u.ownBlock = some g → t.ownBlock ≠ some g) := fun g e1 e2 => by
                have h4 := (HO1.out.lt g e1).2
                have h5 := (ht.lt g e2).1
                omega
              have HB2M : Hid (Below pm W2 x2) := by
                have h6 := HK1.out.kp.below
                exact h6.trans (hkm.below)
              clear HCP HUI HK1 HO1 HE1 HED4 HKD HBD HSD ht hm hkm p0 p1 HMK HES HS1 HB1X HEI4
              generalize rcomp1 I A B = r1 at *
              obtain ⟨tt, cc, cf⟩ := r1
              have HTL : Hid (tt.length = 1 + I.length + A.length) := HCO.out.len
              have HTB : Hid (∀ y ∈ tt, 0 ≤ y ∧ y ≤ 4000000) := HCO.out.bd
              obtain ⟨ta, tc, rfl⟩ := own_shC HT2.out
              have HINL : Hid (∀ k, (insR I (B.take k) tt (I.map (edgeI I))).length = I.length) := fun k => by rw [insR_len, List.length_map]
              have HINS : Hid (∀ k, k < B.length → insR I (B.take (k + 1)) tt (I.map (edgeI I)) = (insR I (B.take k) tt (I.map (edgeI I))).set ((placeA I (B.getD k dPr).1).toNat - 1) (movE tt (B.getD k dPr).2)) := fun k hk => by rw [insR_succ hk]; rfl
              have HIN0 : Hid (insR I (B.take 0) tt (I.map (edgeI I)) = I.map (edgeI I)) := rfl
              have HINF : Hid (rcompI I A B = insR I (B.take B.length) tt (I.map (edgeI I))) := by show _ = _; rw [List.take_length]; exact HIR.out
              have HCI := Lib.hid HCK.out.2
              have HCE := Lib.hid HCK.out.1
              clear HCK HIR
              obtain ⟨IN, hIN⟩ : ∃ IN : Nat → List Int, (fun k => insR I (B.take k) tt (I.map (edgeI I))) = IN := ⟨_, rfl⟩
              have HIK : Hid (∀ k, insR I (B.take k) tt (I.map (edgeI I)) = IN k) := fun k => by rw [← hIN]
              clear hIN
              simp only [HIK.out] at HINL HINS HIN0 HINF
              rw [← HIN0.out] at HO2
              go_wp2
              go_loopw [16] (fun s16 wr => ∃ (k : Nat) (vq : Value), k ≤ B.length ∧ s16 = .int .i64 k ∧ Own wr (pm + 1) u (IN k) ∧ RMk W2 wr pm pm I (cc, cf) (.slice ia I.length ic) vq ∧ Own wr (pm + 1) (.slice ta tt.length tc) tt ∧ Below pm W2 wr) (fun s16 _ => B.length - (intOf s16).toNat)
              case atStart => exact ⟨0, vq, Nat.zero_le _, rfl, HO2.out, HM2.out, HT2.out, HB2M.out⟩
              case round =>
                obtain ⟨k, vq, hk, rfl, ho, hm, ht, hbl⟩ := hrel
                have HOR := Lib.hid ho
                have HMR := Lib.hid hm
                have HTR := Lib.hid ht
                have HBM := Lib.hid hbl
                have HBR : Hid (Below W.heap.size W wr) := HPB.out wr hbl
                clear ho hm ht hbl
                by_cases hlt : k < B.length
                · have hpl := HPL.out k hlt
                  have hpd := placeA_bd I (B.getD k dPr).1
                  obtain ⟨q, hq⟩ : ∃ q : Nat, placeA I (B.getD k dPr).1 = (q : Int) + 1 := ⟨(placeA I (B.getD k dPr).1).toNat - 1, by omega⟩
                  have hqI : q < I.length := by omega
                  have hu9 := own_at1 HOR.out (by rw [HINL.out]; omega)
                  rw [HINL.out] at hu9
                  obtain ⟨ng, nc, rfl, hng, hng2⟩ := hu9
                  have hbm := HBP.out.at hlt
                  obtain ⟨b, off, rfl, hbb, hx0, hy0⟩ := hbm
                  have hin := HBN.out _ (show B.getD k dPr ∈ B by simp [List.getD, hlt])
                  have HXC : Hid (∀ Z, Below W.heap.size W Z → Z.cell? ⟨b, off + k * 2, none⟩ = some (.int .i64 (B.getD k dPr).1) ∧ Z.cell? ⟨b, off + k * 2 + 1, none⟩ = some (.int .i64 (B.getD k dPr).2)) := fun Z hZ => ⟨(hZ.cell (p := ⟨b, off + k * 2, none⟩) hbb).trans hx0, (hZ.cell (p := ⟨b, off + k * 2 + 1, none⟩) hbb).trans hy0⟩
                  have HIS : Hid (IN (k + 1) = (IN k).set q (movE tt (B.getD k dPr).2)) := by show _ = _; rw [HINS.out k hlt, hq, show ((q : Int) + 1).toNat - 1 = q from by omega]
                  have hne : 0 ≤ (B.getD k dPr).2 ∧ (B.getD k dPr).2 / 2 < (tt.length : Int) := by
                    have hme := edgesB_true.1 HEE.out (es.getD k 0) (ints_getD_mem (by rw [HESL.out]; exact hlt))
                    rw [HESG.out k hlt] at hme
                    rw [HTL.out]
                    exact hme
                  have HNE := Lib.hid hne
                  have hze : edgeI I (B.getD k dPr).1 = 2 * ((q : Int) + 1) := by
                    unfold edgeI
                    by_cases hm : (B.getD k dPr).1 ∈ I
                    · rw [if_pos hm, hq]
                    · exact absurd (place_no hm) hpl
                  obtain ⟨q1, hq1⟩ : ∃ q1 : Nat, q + 1 = q1 := ⟨_, rfl⟩
                  have hw1 : IntKind.i64.wrap ((edgeI I (B.getD k dPr).1).tdiv 2) = (q1 : Int) := tdiv_two (by rw [hze]; omega) (by rw [hze]; omega) (by omega)
                  have hw2 : IntKind.i64.wrap ((q1 : Int) - 1) = (q : Int) := by simp [IntKind.wrap, IntKind.bits, IntKind.signed]; omega
                  have HED := fun (X : World) (hX : Below W.heap.size W X) => redge_any (.slice ia I.length ic) (.slice aa A.length ac) I A (B.getD k dPr).1 X (HI1.out.below hX (Nat.le_refl _)) (HA1.out.below hX (Nat.le_refl _)) HSR.out hI0 hin.1.1 hin.1.2
                  have HIM : Hid (∀ X, Own X (pm + 1) (.slice ta tt.length tc) tt → Calls Tryz.prog 100 #[.slice ta tt.length tc, .int .i64 (B.getD k dPr).2] X _) := fun X hX => rimage_any _ tt (B.getD k dPr).2 X (hX.ints (by rw [HTL.out]; have := HRM.out; omega) (fun z hz => by have := HTB.out z hz; omega)) HNE.out.1 HNE.out.2 HTB.out (by rw [HTL.out]; have := HRM.out; omega)
                  have HKL := Lib.hid hlt
                  have hk0 : (0 : Int) ≤ (k : Int) := by omega
                  have hk1 : (k : Int) < (B.length : Int) := by omega
                  have hk2 : (k : Int) < 4000001 := by omega
                  have hq0 : (0 : Int) ≤ (q : Int) := by omega
                  have hqn : (q : Int) < (I.length : Int) := by omega
                  have HQI := Lib.hid hqI
                  have HNG := Lib.hid hng
                  clear hlt hpl hpd hq hqI hng hng2 hin hx0 hy0 hbb hne hze hq1
                  generalize edgeI I (B.getD k dPr).1 = z at *
                  generalize movE tt (B.getD k dPr).2 = mv at *
                  generalize (B.getD k dPr).1 = x at *
                  generalize (B.getD k dPr).2 = y at *
                  go_upto_region 22 with fail
                  have hwd : Below wr.heap.size wr wr.drew := (Below.refl _ wr).drew
                  have HBRD : Hid (Below W.heap.size W wr.drew) := HBR.out.trans (hwd.mono HBR.out.size)
                  have HBMD : Hid (Below pm W2 wr.drew) := HBM.out.trans (hwd.mono (Nat.le_of_lt HMR.out.lt))
                  have HOD := Lib.hid (HOR.out.below hwd (Nat.le_refl _))
                  have HTD := Lib.hid (HTR.out.below hwd (Nat.le_refl _))
                  have HMD := Lib.hid (HMR.out.kpb hwd (Nat.le_of_lt HMR.out.lt))
                  have HEX := Lib.hid (HED wr.drew HBRD.out)
                  have hgd := (HBRD.out.block _ (Array.getElem?_eq_some_iff.1 HGX.out).1).trans HGX.out
                  refine wp_region_held_drew (S := fun Z : World => Z.heap[w.heap.size]? = some (.cells #[.slice ia I.length ic, .slice aa A.length ac] 25 (0, 0)) ∧ Z.cell? ⟨b, off + k * 2, none⟩ = some (.int .i64 x) ∧ Z.cell? ⟨b, off + k * 2 + 1, none⟩ = some (.int .i64 y)) (by kernel_rfl) ⟨hgd, HXC.out _ HBRD.out⟩ (fun hSd => ?_)
                  clear hwd hgd HED
                  generalize wr.drew = X at *
                  refine takeC (i := 0) (v := .slice (some ⟨ng, 0, none⟩) I.length nc) (some 96) rfl rfl (by kernel_rfl) (by kernel_rfl) (by kernel_rfl) (fun _ _ _ h => h) (Or.inl ⟨by rfl, ?_⟩) (by assumption) ?_
                  · intro wz hSw; go_simp
                  try simp only [Act.put, List.setIfInBounds_toArray, List.set_cons_zero, List.set_cons_succ]
                  refine takeC (i := 1) (v := .agg #[.slice ia I.length ic, .slice aa A.length ac]) (some 97) rfl rfl (by kernel_rfl) (by kernel_rfl) (by kernel_rfl) (fun _ _ _ h => h) (Or.inl ⟨by rfl, ?_⟩) (by assumption) ?_
                  · intro wz hSw; obtain ⟨t0, t1, _, _⟩ := box2_cells hSw.1; go_simp
                  try simp only [Act.put, List.setIfInBounds_toArray, List.set_cons_zero, List.set_cons_succ]
                  refine takeC (i := 2) (v := .slice (some ⟨b, off, none⟩) B.length bc) (some 98) rfl rfl (by kernel_rfl) (by kernel_rfl) (by kernel_rfl) (fun _ _ _ h => h) (Or.inl ⟨by rfl, ?_⟩) (by assumption) ?_
                  · intro wz hSw; go_simp
                  try simp only [Act.put, List.setIfInBounds_toArray, List.set_cons_zero, List.set_cons_succ]
                  refine takeC (i := 3) (v := .int .i64 (k : Int)) (some 99) rfl rfl (by kernel_rfl) (by kernel_rfl) (by kernel_rfl) (fun _ _ _ h => h) (Or.inl ⟨by rfl, ?_⟩) (by assumption) ?_
                  · intro wz hSw; go_simp
                  try simp only [Act.put, List.setIfInBounds_toArray, List.set_cons_zero, List.set_cons_succ]
                  refine takeC (i := 4) (v := .pointer (some ⟨b, off + k * 2, none⟩)) (some 100) rfl rfl (by kernel_rfl) (by kernel_rfl) (by kernel_rfl) (fun _ _ _ h => h) (Or.inl ⟨by rfl, ?_⟩) (by assumption) ?_
                  · intro wz hSw; go_simp
                  try simp only [Act.put, List.setIfInBounds_toArray, List.set_cons_zero, List.set_cons_succ]
                  refine takeC (i := 5) (v := .pointer (some ⟨b, off + k * 2, none⟩)) (some 101) rfl rfl (by kernel_rfl) (by kernel_rfl) (by kernel_rfl) (fun _ _ _ h => h) (Or.inl ⟨by rfl, ?_⟩) (by assumption) ?_
                  · intro wz hSw; go_simp
                  try simp only [Act.put, List.setIfInBounds_toArray, List.set_cons_zero, List.set_cons_succ]
                  refine takeC (i := 6) (v := .int .i64 x) (some 102) rfl rfl (by kernel_rfl) (by kernel_rfl) (by kernel_rfl) (fun _ _ _ h => h) (Or.inl ⟨by rfl, ?_⟩) (by assumption) ?_
                  · intro wz hSw; have t0 := hSw.2.1; go_simp
                  try simp only [Act.put, List.setIfInBounds_toArray, List.set_cons_zero, List.set_cons_succ]
                  refine takeC (i := 10) (v := .slice ta tt.length tc) (some 106) rfl rfl (by kernel_rfl) (by kernel_rfl) (by kernel_rfl) (fun _ _ _ h => h) (Or.inl ⟨by rfl, ?_⟩) (by assumption) ?_
                  · intro wz hSw; go_simp
                  try simp only [Act.put, List.setIfInBounds_toArray, List.set_cons_zero, List.set_cons_succ]
                  refine takeC (i := 11) (v := .slice (some ⟨b, off, none⟩) B.length bc) (some 107) rfl rfl (by kernel_rfl) (by kernel_rfl) (by kernel_rfl) (fun _ _ _ h => h) (Or.inl ⟨by rfl, ?_⟩) (by assumption) ?_
                  · intro wz hSw; go_simp
                  try simp only [Act.put, List.setIfInBounds_toArray, List.set_cons_zero, List.set_cons_succ]
                  refine takeC (i := 12) (v := .int .i64 (k : Int)) (some 108) rfl rfl (by kernel_rfl) (by kernel_rfl) (by kernel_rfl) (fun _ _ _ h => h) (Or.inl ⟨by rfl, ?_⟩) (by assumption) ?_
                  · intro wz hSw; go_simp
                  try simp only [Act.put, List.setIfInBounds_toArray, List.set_cons_zero, List.set_cons_succ]
                  refine takeC (i := 13) (v := .pointer (some ⟨b, off + k * 2, none⟩)) (some 109) rfl rfl (by kernel_rfl) (by kernel_rfl) (by kernel_rfl) (fun _ _ _ h => h) (Or.inl ⟨by rfl, ?_⟩) (by assumption) ?_
                  · intro wz hSw; go_simp
                  try simp only [Act.put, List.setIfInBounds_toArray, List.set_cons_zero, List.set_cons_succ]
                  refine takeC (i := 14) (v := .pointer (some ⟨b, off + k * 2 + 1, none⟩)) (some 110) rfl rfl (by kernel_rfl) (by kernel_rfl) (by kernel_rfl) (fun _ _ _ h => h) (Or.inl ⟨by rfl, ?_⟩) (by assumption) ?_
                  · intro wz hSw; go_simp
                  try simp only [Act.put, List.setIfInBounds_toArray, List.set_cons_zero, List.set_cons_succ]
                  refine takeC (i := 15) (v := .int .i64 y) (some 111) rfl rfl (by kernel_rfl) (by kernel_rfl) (by kernel_rfl) (fun _ _ _ h => h) (Or.inl ⟨by rfl, ?_⟩) (by assumption) ?_
                  · intro wz hSw; have t0 := hSw.2.2; go_simp
                  try simp only [Act.put, List.setIfInBounds_toArray, List.set_cons_zero, List.set_cons_succ]
                  refine wpAnyH_ready (rs := [7]) (by kernel_rfl) (by simp) ?_
                  refine AllReadyH.cons rfl (fun K hK => ?_) AllReadyH.nil
                  go_simp
                  go_wp2_with (go_at_call 51; refine HEX.out.mono ?_; rintro e x1 ⟨rfl, hb⟩)
                  have HB1 := Lib.hid (HBRD.out.trans (hb.mono HBRD.out.size))
                  have HBM1 := Lib.hid (HBMD.out.trans (hb.mono (Nat.le_of_lt HMD.out.lt)))
                  have HO1 := Lib.hid (HOD.out.below hb (Nat.le_refl _))
                  have HT1 := Lib.hid (HTD.out.below hb (Nat.le_refl _))
                  have HM1 := Lib.hid (HMD.out.kpb hb (Nat.le_of_lt HMD.out.lt))
                  have hS1 : x1.heap[w.heap.size]? = some (.cells #[.slice ia I.length ic, .slice aa A.length ac] 25 (0, 0)) ∧ x1.cell? ⟨b, off + k * 2, none⟩ = some (.int .i64 x) ∧ x1.cell? ⟨b, off + k * 2 + 1, none⟩ = some (.int .i64 y) := ⟨(hb.block _ (Array.getElem?_eq_some_iff.1 hSd.1).1).trans hSd.1, HXC.out _ HB1.out⟩
                  refine hK.out _ _ hS1 (fun hHn => ?_)
                  clear hK K hHn hb hSd
                  try simp only [Act.put, List.setIfInBounds_toArray, List.set_cons_zero, List.set_cons_succ]
                  refine takeC (i := 8) (v := .int .i64 (q1 : Int)) (some 104) rfl rfl (by kernel_rfl) (by kernel_rfl) (by kernel_rfl) (fun _ _ _ h => h) (Or.inl ⟨by rfl, ?_⟩) (by assumption) ?_
                  · intro wz hSw; go_simp
                  try simp only [Act.put, List.setIfInBounds_toArray, List.set_cons_zero, List.set_cons_succ]
                  refine takeC (i := 9) (v := .int .i64 (q : Int)) (some 105) rfl rfl (by kernel_rfl) (by kernel_rfl) (by kernel_rfl) (fun _ _ _ h => h) (Or.inl ⟨by rfl, ?_⟩) (by assumption) ?_
                  · intro wz hSw; go_simp
                  try simp only [Act.put, List.setIfInBounds_toArray, List.set_cons_zero, List.set_cons_succ]
                  have HIX := Lib.hid (HIM.out x1 HT1.out)
                  refine wpAnyH_ready (rs := [16]) (by kernel_rfl) (by simp) ?_
                  refine AllReadyH.cons rfl (fun K hK => ?_) AllReadyH.nil
                  go_simp
                  go_wp2_with (go_at_call 100; refine HIX.out.mono ?_; rintro er w9 ⟨rfl, rfl⟩)
                  refine hK.out _ _ hS1 (fun hHn => ?_)
                  clear hK K hHn
                  try simp only [Act.put, List.setIfInBounds_toArray, List.set_cons_zero, List.set_cons_succ]
                  refine takeC (i := 17) (v := .pointer (some ⟨ng, q, none⟩)) (some 113) rfl rfl (by kernel_rfl) (by kernel_rfl) (by kernel_rfl) (fun _ _ _ h => h) (Or.inl ⟨by rfl, ?_⟩) (by assumption) ?_
                  · intro wz hSw; go_simp
                  try simp only [Act.put, List.setIfInBounds_toArray, List.set_cons_zero, List.set_cons_succ]
                  have HNR : Hid (pm + 1 ≤ ng ∧ W2.heap.size ≤ ng ∧ ng ≠ w.heap.size) := ⟨HNG.out, by rw [HS2.out]; exact HNG.out, by have := HNG.out; have := HPS.out; have := HSZ.out; omega⟩
                  have m0 := HO1.out.cell q (by rw [HINL.out]; exact HQI.out)
                  have m1 := HO1.out.frozen q
                  have HO10 := Lib.hid (HO1.out.store q mv)
                  have HM10 : Hid (RMk W2 (x1.setCell ⟨ng, q, none⟩ (.int .i64 mv)) pm pm I (cc, cf) (.slice ia I.length ic) vq) := HM1.out.set HO1.out HNR.out.2.1 (by have := HNR.out.1; omega) q
                  have HT10 := Lib.hid (own_store2 (j := q) (y := mv) HT1.out HO1.out (fun g hg e => HAP.out ng rfl (e ▸ hg)))
                  have HBM10 : Hid (Below pm W2 (x1.setCell ⟨ng, q, none⟩ (.int .i64 mv))) := HBM1.out.setCell (p := ⟨ng, q, none⟩) (by have := HNR.out.1; show pm ≤ ng; omega) _
                  have hS2 : (x1.setCell ⟨ng, q, none⟩ (.int .i64 mv)).heap[w.heap.size]? = some (.cells #[.slice ia I.length ic, .slice aa A.length ac] 25 (0, 0)) ∧ (x1.setCell ⟨ng, q, none⟩ (.int .i64 mv)).cell? ⟨b, off + k * 2, none⟩ = some (.int .i64 x) ∧ (x1.setCell ⟨ng, q, none⟩ (.int .i64 mv)).cell? ⟨b, off + k * 2 + 1, none⟩ = some (.int .i64 y) := ⟨(heap_set_other q _ (fun e => HNR.out.2.2 e.symm)).trans hS1.1, HXC.out _ (HPB.out _ HBM10.out)⟩
                  refine wpAnyH_ready (rs := [18]) (by kernel_rfl) (by simp) ?_
                  refine AllReadyH.cons rfl (fun K hK => ?_) AllReadyH.nil
                  go_simp
                  refine hK.out _ _ hS2 (fun hHn => ?_)
                  clear hK K hHn m0 m1
                  try simp only [Act.put, List.setIfInBounds_toArray, List.set_cons_zero, List.set_cons_succ]
                  refine wpAnyH_done (by kernel_rfl) ?_ _
                  clear hS1 hS2 hw1 hw2
                  go_wp2
                  go_roundw
                  case rel => exact ⟨k + 1, vq, HKL.out, by go_num, by rw [HIS.out]; exact HO10.out, HM10.out, HT10.out, HBM10.out⟩
                  case measure => have := HKL.out; simp [intOf]; omega
                · obtain rfl : k = B.length := by omega
                  have hdl : decide ((B.length : Int) < (B.length : Int)) = false := by rw [decide_eq_false_iff_not]; omega
                  have HCI2 : Hid (∀ x ∈ rcompI I A B, isE x (1 + I.length + cc.length) = true) := HCI.out
                  have HR3 : Hid (rcomp2 I A l B = rcAll (1 + I.length) I A (rcompI I A B) l (cc, cf)) := HR2.out
                  have HRJ : Hid ((rcompI I A B).length = I.length) := by show _ = _; rw [HINF.out]; exact HINL.out _
                  have HIJ : Hid (IsInts wr u (rcompI I A B)) := by
                    have h7 := HOR.out
                    rw [← HINF.out] at h7
                    exact h7.ints (by rw [HRJ.out]; omega) (fun z hz => by have h8 := isE_true.1 (HCI2.out z hz); have h9 : 1 + I.length + cc.length ≤ 200000 := HMR.out.ok.room; omega)
                  have HCP2 := Lib.hid (rcopied_any (.slice ia I.length ic) (.slice aa A.length ac) (.slice la l.length lc) u I A l (rcompI I A B) HMR.out (Nat.le_of_lt HMR.out.lt) (by have h7 := HBM.out.size; exact h7) (fun Z hZ => ⟨HI1.out.below (HPB.out Z (HBM.out.trans hZ)) (Nat.le_refl _), HA1.out.below (HPB.out Z (HBM.out.trans hZ)) (Nat.le_refl _)⟩) (HL1.out.below HBR.out (Nat.le_refl _)) HIJ.out HRJ.out HRM.out HOK.out HLE.out HCI2.out)
                  have HCO2 := Lib.hid (rcAll_ok (k := 1 + I.length) (I := I) (A := A) (ins := rcompI I A B) (l := l) (s := (cc, cf)) (by omega) HMR.out.ok HRJ.out HOK.out HCI2.out)
                  rw [← HR3.out] at HCP2 HCO2
                  unfold RCopPost at HCP2
                  obtain ⟨p0, p1⟩ := HGC.out wr HBR.out
                  go_upto_region 24 with (go_at_call 86; refine HCP2.out.mono ?_; rintro e x3 ⟨t3, vq3, rfl, ht3, hm3, hkm3⟩)
                  have HM3 := Lib.hid hm3
                  have HB3X : Hid (Below W.heap.size W x3) := HBR.out.trans (hkm3.below.mono HPS.out)
                  have HQ3 := Lib.hid ht3
                  clear HCP2 HIJ HRJ HCI2 HCI HR2 HR3 ht3 hm3 hkm3 p0 p1 HMR HOR HTR HBM HINF HINS HINL HIK HIN0 hdl hlt hk HAP HTL HTB
                  generalize rcomp2 I A l B = r2 at *
                  obtain ⟨ss, dd, df⟩ := r2
                  have HSL : Hid (ss.length = 1 + I.length + A.length) := HCO2.out.len
                  have HSB : Hid (∀ z ∈ ss, 0 ≤ z ∧ z ≤ 4000000) := HCO2.out.bd
                  obtain ⟨sa, sc, rfl⟩ := own_shC HQ3.out
                  obtain ⟨ra, rc, rfl⟩ := HM3.out.row.shape
                  obtain ⟨d0, d1, d2⟩ := box3r_cells HM3.out.box
                  cases df with
                  | true =>
                    have HE : Hid (composeR I A l B = errR 3) := HCE.out
                    obtain ⟨⟨c0, c1, f0, f1⟩, ⟨g0, g1⟩, hpost⟩ := HBAD.out x3 3 HB3X.out HE.out
                    have HPO := Lib.hid hpost
                    clear hpost
                    go_wp2
                    exact ⟨rfl, .tuple #[.agg #[.slice none 0 0, .slice none 0 0], .slice none 0 0, .int .i64 3], by simp [results, Tryz.f37, go_sem, g0, g1], HPO.out⟩
                  | false =>
                    have HE : Hid (composeR I A l B = ((I, dd), l.map (movE ss), 0)) := HCE.out
                    go_upto_region 26 with fail
                    have hwd : Below x3.heap.size x3 x3.drew := (Below.refl _ x3).drew
                    have HX3 := Lib.hid (HB3X.out.trans (hwd.mono HB3X.out.size))
                    have hbx : x3.drew.heap[pm]? = some (.cells #[.slice ia I.length ic, .slice ra dd.length rc, .bool false] 82 (0, 0)) := HM3.out.box
                    have HBX := Lib.hid hbx
                    have HRD : Hid (OwnP x3.drew pm (.slice ra dd.length rc) dd) := HM3.out.row.below hwd (Nat.le_refl _)
                    have HTI := Lib.hid ((HQ3.out.ints (by rw [HSL.out]; have := HRM.out; omega) (fun y hy => by have := HSB.out y hy; omega)).below hwd (Nat.le_refl _))
                    clear d0 d1 d2
                    obtain ⟨d0, d1, _⟩ := box3r_cells hbx
                    refine wp_region_held_drew (S := fun Z : World => Z.cell? ⟨pm, 0, none⟩ = some (.slice ia I.length ic) ∧ Z.cell? ⟨pm, 1, none⟩ = some (.slice ra dd.length rc)) (by kernel_rfl) ⟨d0, d1⟩ (fun hSd => ?_)
                    clear hwd hbx d0 d1
                    generalize x3.drew = x9 at *
                    have HIM := Lib.hid (rimages_any _ _ ss l x9 HTI.out (HL1.out.below HX3.out (Nat.le_refl _)) (fun y hy => by have := edgesB_true.1 HLE.out y hy; rw [HSL.out]; exact this) HSB.out (by rw [HSL.out]; have := HRM.out; omega))
                    refine takeC (i := 0) (v := .pointer (some ⟨pm, 0, none⟩)) (some 124) rfl rfl (by kernel_rfl) (by kernel_rfl) (by kernel_rfl) (fun _ _ _ h => h) (Or.inl ⟨by rfl, ?_⟩) (by assumption) ?_
                    · intro wz hSw; go_simp
                    try simp only [Act.put, List.setIfInBounds_toArray, List.set_cons_zero, List.set_cons_succ]
                    refine takeC (i := 1) (v := .pointer (some ⟨pm, 0, none⟩)) (some 125) rfl rfl (by kernel_rfl) (by kernel_rfl) (by kernel_rfl) (fun _ _ _ h => h) (Or.inl ⟨by rfl, ?_⟩) (by assumption) ?_
                    · intro wz hSw; go_simp
                    try simp only [Act.put, List.setIfInBounds_toArray, List.set_cons_zero, List.set_cons_succ]
                    refine takeC (i := 2) (v := .pointer (some ⟨pm, 0, none⟩)) (some 126) rfl rfl (by kernel_rfl) (by kernel_rfl) (by kernel_rfl) (fun _ _ _ h => h) (Or.inl ⟨by rfl, ?_⟩) (by assumption) ?_
                    · intro wz hSw; go_simp
                    try simp only [Act.put, List.setIfInBounds_toArray, List.set_cons_zero, List.set_cons_succ]
                    refine takeC (i := 3) (v := .agg #[.slice ia I.length ic, .slice ra dd.length rc]) (some 127) rfl rfl (by kernel_rfl) (by kernel_rfl) (by kernel_rfl) (fun _ _ _ h => h) (Or.inl ⟨by rfl, ?_⟩) (by assumption) ?_
                    · intro wz hSw; obtain ⟨t0, t1⟩ := hSw; go_simp
                    try simp only [Act.put, List.setIfInBounds_toArray, List.set_cons_zero, List.set_cons_succ]
                    refine takeC (i := 4) (v := .slice sa ss.length sc) (some 128) rfl rfl (by kernel_rfl) (by kernel_rfl) (by kernel_rfl) (fun _ _ _ h => h) (Or.inl ⟨by rfl, ?_⟩) (by assumption) ?_
                    · intro wz hSw; go_simp
                    try simp only [Act.put, List.setIfInBounds_toArray, List.set_cons_zero, List.set_cons_succ]
                    refine takeC (i := 5) (v := .slice la l.length lc) (some 129) rfl rfl (by kernel_rfl) (by kernel_rfl) (by kernel_rfl) (fun _ _ _ h => h) (Or.inl ⟨by rfl, ?_⟩) (by assumption) ?_
                    · intro wz hSw; go_simp
                    try simp only [Act.put, List.setIfInBounds_toArray, List.set_cons_zero, List.set_cons_succ]
                    refine wpAnyH_ready (rs := [6]) (by kernel_rfl) (by simp) ?_
                    refine AllReadyH.cons rfl (fun K hK => ?_) AllReadyH.nil
                    go_simp
                    go_wp2_with (go_at_call 88; refine HIM.out.mono ?_; rintro e x4 ⟨u2, rfl, hu2, hb4⟩)
                    have HB4 := Lib.hid (HX3.out.trans (hb4.mono HX3.out.size))
                    have HU2 := Lib.hid hu2
                    obtain ⟨va2, vc2, rfl⟩ := own_shC hu2
                    have hlt3 : pm < x9.heap.size := (Array.getElem?_eq_some_iff.1 HBX.out).1
                    have hbx4 := (hb4.block pm hlt3).trans HBX.out
                    have HR4 : Hid (OwnP x4 pm (.slice ra dd.length rc) dd) := HRD.out.below hb4 (Nat.le_refl _)
                    have HLT3 := Lib.hid hlt3
                    obtain ⟨d0, d1, _⟩ := box3r_cells hbx4
                    refine hK.out _ _ ⟨d0, d1⟩ (fun hHn => ?_)
                    clear hK K hHn hb4 hu2 hSd
                    try simp only [Act.put, List.setIfInBounds_toArray, List.set_cons_zero, List.set_cons_succ]
                    have hr4 := (HB4.out.block _ (Array.getElem?_eq_some_iff.1 HRX.out).1).trans HRX.out
                    obtain ⟨e0, e1, f0, f1⟩ := box2_cells hr4
                    obtain ⟨g0, g1⟩ := box2_put hr4 (.slice ia I.length ic) (.slice ra dd.length rc)
                    have HNE : Hid (pm ≠ w.heap.size + 1) := by have := HPS.out; have := HSZ.out; show _ ≠ _; omega
                    have hS5 : ((x4.setCell ⟨w.heap.size + 1, 0, none⟩ (.slice ia I.length ic)).setCell ⟨w.heap.size + 1, 1, none⟩ (.slice ra dd.length rc)).cell? ⟨pm, 0, none⟩ = some (.slice ia I.length ic) ∧ ((x4.setCell ⟨w.heap.size + 1, 0, none⟩ (.slice ia I.length ic)).setCell ⟨w.heap.size + 1, 1, none⟩ (.slice ra dd.length rc)).cell? ⟨pm, 1, none⟩ = some (.slice ra dd.length rc) := by
                      obtain ⟨y0, y1, _⟩ := box3r_cells ((heap_set_other 1 (.slice ra dd.length rc) HNE.out).trans ((heap_set_other 0 (.slice ia I.length ic) HNE.out).trans hbx4))
                      exact ⟨y0, y1⟩
                    refine wpAnyH_ready (rs := [7]) (by kernel_rfl) (by simp) ?_
                    refine AllReadyH.cons rfl (fun K hK => ?_) AllReadyH.nil
                    go_simp
                    refine hK.out _ _ hS5 (fun hHn => ?_)
                    clear hK K hHn e0 e1 f0 f1 d0 d1
                    try simp only [Act.put, List.setIfInBounds_toArray, List.set_cons_zero, List.set_cons_succ]
                    refine takeC (i := 8) (v := .slice va2 (l.map (movE ss)).length vc2) (some 7) rfl rfl (by kernel_rfl) (by kernel_rfl) (by kernel_rfl) (fun _ _ _ h => h) (Or.inl ⟨by rfl, ?_⟩) (by assumption) ?_
                    · intro wz hSw; go_simp
                    try simp only [Act.put, List.setIfInBounds_toArray, List.set_cons_zero, List.set_cons_succ]
                    refine takeC (i := 9) (v := .int .i64 0) (some 8) rfl rfl (by kernel_rfl) (by kernel_rfl) (by kernel_rfl) (fun _ _ _ h => h) (Or.inl ⟨by rfl, ?_⟩) (by assumption) ?_
                    · intro wz hSw; go_simp
                    try simp only [Act.put, List.setIfInBounds_toArray, List.set_cons_zero, List.set_cons_succ]
                    refine wpAnyH_done (by kernel_rfl) ?_ _
                    clear hS5
                    go_wp2
                    refine ⟨rfl, .tuple #[.agg #[.slice ia I.length ic, .slice ra dd.length rc], .slice va2 (l.map (movE ss)).length vc2, .int .i64 0], by simp [results, Tryz.f37, go_sem, g0, g1], ?_⟩
                    rw [HE.out]
                    have HBF := ((HB0.out.trans (HB4.out.mono HB0.out.size)).setCell (p := ⟨w.heap.size + 1, 0, none⟩) (by show _ ≤ _ + 1; omega) (.slice ia I.length ic)).setCell (p := ⟨w.heap.size + 1, 1, none⟩) (by show _ ≤ _ + 1; omega) (.slice ra dd.length rc)
                    have hx3 : w.heap.size + 1 < x9.heap.size := by have := HPS.out; have := HSZ.out; have := HLT3.out; omega
                    refine ⟨_, _, _, rfl, ⟨HIW.out.below HBF (Nat.le_refl _), ?_⟩, ?_, HBF⟩
                    · refine (OwnP.turn HR4.out (fun g hg => ?_) : OwnP _ pm _ dd).pairs (by have := HM3.out.ok.room; show dd.length ≤ _; have h : 1 + I.length + dd.length ≤ 200000 := this; omega) HM3.out.inp
                      have hgp := (HR4.out.lt g hg).1
                      have := HPS.out
                      have := HSZ.out
                      exact (heap_set_other 1 _ (by omega)).trans (heap_set_other 0 _ (by omega))
                    · have h := (HU2.out.set_far (n := 0) (u := (.slice ia I.length ic)) hx3).set_far (n := 1) (u := (.slice ra dd.length rc)) hx3
                      refine h.ints (by rw [List.length_map]; exact HLL.out) (fun y hy => ?_)
                      obtain ⟨z, hz, rfl⟩ := List.mem_map.1 hy
                      exact movE_in64 HSB.out (by have := edgesB_true.1 HLE.out z hz; rw [HSL.out]; exact this)
        · have he : hasA I A es = false := by simpa using he
          have HE : Hid (composeR I A l B = errR 2) := HC2.out he
          rw [hh] at HHL
          rw [he] at HHE
          clear hh he HC1 HC2 HC3
          go_wp2_with (first
            | (go_at_call 65; refine (HHE.out w1 HC1x.out).mono ?_; rintro e w2 ⟨rfl, hb⟩; obtain ⟨⟨c0, c1, f0, f1⟩, ⟨g0, g1⟩, hpost⟩ := HBAD.out w2 2 (HBL.out.trans ((HC1x.out.trans (hb.mono HC1x.out.size)).mono HBL.out.size)) HE.out; have HPO := Lib.hid hpost; clear hpost hb p0 p1)
            | (go_at_call 65; refine (HHL.out Y HBL.out).mono ?_; rintro e w1 ⟨rfl, hb⟩; have HC1x := Lib.hid hb; clear hb p0 p1; obtain ⟨p0, p1⟩ := HGC.out w1 (HBL.out.trans (HC1x.out.mono HBL.out.size))))
          exact ⟨rfl, .tuple #[.agg #[.slice none 0 0, .slice none 0 0], .slice none 0 0, .int .i64 2], by simp [results, Tryz.f37, go_sem, g0, g1], HPO.out⟩
      · have hh : hasA I A l = false := by simpa using hh
        have HE : Hid (composeR I A l B = errR 2) := HC3.out hh
        rw [hh] at HHL
        clear hh HC1 HC2 HC3
        go_wp2_with (go_at_call 65; refine (HHL.out Y HBL.out).mono ?_; rintro e w1 ⟨rfl, hb⟩; obtain ⟨⟨c0, c1, f0, f1⟩, ⟨g0, g1⟩, hpost⟩ := HBAD.out w1 2 (HBL.out.trans (hb.mono HBL.out.size)) HE.out; have HPO := Lib.hid hpost; clear hpost hb p0 p1)
        exact ⟨rfl, .tuple #[.agg #[.slice none 0 0, .slice none 0 0], .slice none 0 0, .int .i64 2], by simp [results, Tryz.f37, go_sem, g0, g1], HPO.out⟩
end Go.Proofs.YtppglbffmgnooaaGreat
