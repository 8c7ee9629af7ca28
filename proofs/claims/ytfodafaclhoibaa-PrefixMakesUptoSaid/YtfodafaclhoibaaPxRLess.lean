/- The reference's Less. -/
import Derived.Test.YtfodafaclhoibaaPxRJoin
import Derived.Test.YtfodafaclhoibaaMpB
import Derived.Test.YtfodafaclhoibaaPxLess
namespace Go.Proofs.Ytfodafaclhoibaa
open Go.RowKit
set_option linter.unusedVariables false
set_option linter.unusedSimpArgs false

theorem rows_blocks {w w' : World} {B : Nat} {v : Value} {t : List Trp} {q : List Blk} (h : RowB w w' B v t) (hs : shapeT t = q) (hl : q.length ≤ 4000000) (hx : ∀ b ∈ q, b.2.length ≤ 4000000 ∧ In64 b.2) : IsBlocks w' v q := by
  have hl2 : t.length ≤ 4000000 := by rw [← shapeT_len t, hs]; exact hl
  have := h.blocks (by omega) (fun x hx2 => by
    have h1 : (x.1, x.2.2) ∈ shapeT t := List.mem_map_of_mem (f := fun x : Trp => (x.1, x.2.2)) hx2
    rw [hs] at h1
    have h2 := hx _ h1
    exact ⟨by have := h2.1; simp only at this; omega, h2.2⟩)
  rw [hs] at this
  exact this
theorem less_ok {p : List Blk} {vars : List Int} (hm : mayP p = true) : lessR p vars = (joinL (restL p vars), 0) ∧ (flatB (restL p vars)).length ≤ 1024 ∧ In64 (flatB (restL p vars)) ∧ (restL p vars).length ≤ 1024 := by
  have hm' := hm
  have hpl := mayP_len hm
  unfold mayP at hm'
  rw [decide_eq_true_eq] at hm'
  obtain ⟨_, hn, hr, hl⟩ := hm'
  have h1 := restL_flat p vars
  have h2 : (flatB (restL p vars)).length ≤ 1024 := by rw [h1]; exact Nat.le_trans (List.length_filter_le _ _) hl
  have h3 : singleB (flatB (restL p vars)) = true := by
    unfold singleB
    rw [decide_eq_true_eq, h1]
    exact ⟨hn.sublist List.filter_sublist, fun v hv => hr v (List.mem_filter.1 hv).1⟩
  refine ⟨?_, h2, fun x hx => ?_, ?_⟩
  · unfold lessR joinA
    rw [if_pos hm, if_pos h3, if_pos h2]
  · rw [h1] at hx
    have := hr x (List.mem_filter.1 hx).1
    omega
  · unfold restL
    rw [List.length_map]
    exact hpl.2
theorem ints_oneX (w : World) (x : Int) (h1 : -9223372036854775808 ≤ x) (h2 : x ≤ 9223372036854775807) : IsInts (w.alloc (.cells #[.int .i64 x] 3)) (.slice (some ⟨w.heap.size, 0, none⟩) 1 1) [x] := by
  refine ⟨_, 1, rfl, ⟨Nat.le_refl _, fun e => by cases e⟩, by omega, by simp, fun y hy => by rw [List.mem_singleton] at hy; subst hy; exact ⟨h1, h2⟩, w.heap.size, 0, fun _ => ⟨rfl, by simp⟩, fun j hj => ?_⟩
  have : j = 0 := by simpa using hj
  subst this
  exact cell_fresh rfl
theorem heap_cell {w : World} {h : Nat} {c : Array Value} {T : TypeId} {i : Nat} {v : Value} (hh : w.heap[h]? = some (.cells c T (0, 0))) (hi : c[i]? = some v) : w.cell? ⟨h, i, none⟩ = some v := by simp only [World.cell?, hh]; exact hi
theorem heap_froz {w : World} {h i : Nat} {c : Array Value} {T : TypeId} (hh : w.heap[h]? = some (.cells c T (0, 0))) : w.frozen? ⟨h, i, none⟩ = false := by simp [World.frozen?, hh]
theorem heap_set1 {w : World} {h : Nat} {a b c : Value} {T : TypeId} (hh : w.heap[h]? = some (.cells #[a, b] T (0, 0))) : (w.setCell ⟨h, 1, none⟩ c).heap[h]? = some (.cells #[a, c] T (0, 0)) := by
  simp [World.setCell, Array.getElem?_modify, hh]
theorem own_shape {w : World} {B : Nat} {v : Value} {xs : List Int} (h : Own w B v xs) : ∃ a cap, v = .slice a xs.length cap := by
  rcases h.2 with ⟨rfl, h2⟩ | ⟨g, cap, cur, rfl, _⟩
  · exact ⟨none, 0, by rw [h2]⟩
  · exact ⟨_, _, rfl⟩

set_option maxRecDepth 100000 in
set_option maxHeartbeats 3200000 in
theorem rless_any (vp vl : Value) (p : List Blk) (vars : List Int) (w : World) (HP : IsBlocks w vp p) (HL : IsInts w vl vars) (hp : p.length ≤ 4000000) (hf : (flatB p).length ≤ 4000000) (h64 : In64 (flatB p)) :
    Calls Try.prog 33 #[vp, vl] w (RetBlkI w (lessR p vars)) := by
  have HM := Lib.hid (rmay_any vp p w HP hp hf h64)
  have HPP := Lib.hid HP
  have HLL := Lib.hid HL
  obtain ⟨a, cap, rfl, hlp⟩ := HP.shape
  obtain ⟨la, lc, rfl⟩ := HL.shape
  have H64 := Lib.hid h64
  clear HP HL hp hf h64
  cases hm : mayP p with
  | false =>
    rw [hm] at HM
    have hr : lessR p vars = ([], 2) := by unfold lessR; rw [hm]; rfl
    rw [hr]
    clear hm hr
    go_enter Try.func33, Try.ntmps33
    go_wp2_with (go_at_call 20; refine HM.out.mono ?_; rintro e w1 ⟨rfl, hb1⟩)
    go_ret2
    exact ⟨_, rfl, IsTwo.nil _, hb1⟩
  | true =>
    rw [hm] at HM
    have HOK := Lib.hid (less_ok (vars := vars) hm)
    have HPL := Lib.hid (mayP_len hm)
    have HRS : Hid (∀ b ∈ restL p vars, b.2.length ≤ 4000000 ∧ In64 b.2) := fun b hb => by
      have h1 := len_flatB hb
      have h2 := HOK.out
      exact ⟨by omega, fun z hz => h2.2.2.1 z (mem_flatB hb hz)⟩
    rw [HOK.out.1]
    clear hm
    go_enter Try.func33, Try.ntmps33
    go_wp2_with (go_at_call 20; refine HM.out.mono ?_; rintro e w1 ⟨rfl, hb1⟩)
    have hs1 := hb1.size
    have HB1 := Lib.hid hb1
    clear hb1 HM
    go_loopw [6, 7] (fun out i wr => ∃ (k : Nat) (t : List Trp), k ≤ p.length ∧ i = .int .i64 k ∧ RowB w wr w.heap.size out t ∧ shapeT t = restL (p.take k) vars) (fun _ i _ => p.length - (intOf i).toNat)
    case atStart => exact ⟨0, [], Nat.zero_le _, rfl, RowB.nil HB1.out (Nat.le_refl _), rfl⟩
    case round =>
      obtain ⟨k, t, hk, rfl, hrow, hsh⟩ := hrel
      have HRW := Lib.hid hrow
      have HSH := Lib.hid hsh
      have hszr := hrow.below.size
      have HBR := Lib.hid hrow.below
      obtain ⟨oa, oc, rfl⟩ := hrow.shape
      have htl : t.length = k := by
        have h1 := congrArg List.length hsh
        rw [shapeT_len] at h1
        unfold restL at h1
        rw [List.length_map, List.length_take] at h1
        omega
      clear hrow hsh
      by_cases hlt : k < p.length
      · obtain ⟨b, off, u, rfl, hb, hcx0, hcu0, HU⟩ := HPP.out.at hlt
        have hmem : p.getD k dB ∈ p := by simp [List.getD, hlt]
        have HRT := Lib.hid (restL_take (vars := vars) hlt)
        have hi0 : (0 : Int) ≤ (k : Int) := by omega
        have hi1 : (k : Int) < (p.length : Int) := by omega
        have hyl := len_flatB hmem
        have HCX := Lib.hid (And.intro hcx0 hcu0)
        have hpl := HPL.out.1
        clear hcx0 hcu0 hmem
        generalize p.getD k dB = y at *
        obtain ⟨y1, y2⟩ := y
        simp only at HU HRT HCX hyl
        have HUX : Hid (∀ X, Below w.heap.size w X → IsInts X u y2) := fun X hX => HU.below hX (Nat.le_refl _)
        have HY64 : Hid (In64 y2) := by obtain ⟨_, _, _, _, _, _, g, _⟩ := HU; exact g
        obtain ⟨ua, uc, rfl⟩ := HU.shape
        have HYC : Hid (∀ X, Below w.heap.size w X → X.cell? ⟨b, off + k * 2, none⟩ = some (.bool y1) ∧ X.cell? ⟨b, off + k * 2 + 1, none⟩ = some (.slice ua y2.length uc)) := fun X hX => ⟨(hX.cell (p := ⟨b, off + k * 2, none⟩) hb).trans HCX.out.1, (hX.cell (p := ⟨b, off + k * 2 + 1, none⟩) hb).trans HCX.out.2⟩
        have hyl2 : (y2.length : Int) ≤ 1024 := by omega
        have HTB : Hid (t.length < 1000000) := by show _ < _; have := HPL.out.2; omega
        obtain ⟨r0, r1⟩ := HYC.out wr HBR.out
        have hbr : b < wr.heap.size := Nat.lt_of_lt_of_le hb hszr
        have HTK := Lib.hid htl
        clear HU htl hyl hpl
        have HA0 : Hid (Below wr.heap.size wr (wr.alloc (.cells #[.bool y1, .slice none 0 0] 53)) ∧ (wr.alloc (.cells #[.bool y1, .slice none 0 0] 53)).heap[wr.heap.size]? = some (.cells #[.bool y1, .slice none 0 0] 53 (0, 0))) := ⟨(Below.refl _ _).alloc (Nat.le_refl _) _, World.alloc_heap_new wr _⟩
        go_wp2
        generalize wr = wz at *
        go_loopw [9] (fun j wr => ∃ (k2 : Nat) (v : Value), k2 ≤ y2.length ∧ j = .int .i64 k2 ∧ wr.heap[wz.heap.size]? = some (.cells #[.bool y1, v] 53 (0, 0)) ∧ Own wr (wz.heap.size + 1) v ((y2.take k2).filter (fun v => !decide (v ∈ vars))) ∧ Below wz.heap.size wz wr) (fun j _ => y2.length - (intOf j).toNat)
        case atStart => exact ⟨0, .slice none 0 0, Nat.zero_le _, rfl, HA0.out.2, by simpa using Own.nil _ _, HA0.out.1⟩
        case round =>
          obtain ⟨k2, v, hk2, rfl, hbox, hown, hbel⟩ := hrel
          obtain ⟨va, vc, rfl⟩ := own_shape hown
          obtain ⟨F, hF⟩ : ∃ F, (y2.take k2).filter (fun v => !decide (v ∈ vars)) = F := ⟨_, rfl⟩
          rw [hF] at hbox hown
          have hszi := hbel.size
          have HB2 : Hid (Below w.heap.size w wr) := HBR.out.trans (hbel.mono hszr)
          obtain ⟨s0, s1⟩ := HYC.out wr HB2.out
          have HBX := Lib.hid hbox
          have HOW := Lib.hid hown
          have HBL := Lib.hid hbel
          have HF := Lib.hid hF
          have hFl : F.length ≤ 1024 := by rw [← hF]; exact Nat.le_trans (List.length_filter_le _ _) (by rw [List.length_take]; omega)
          have c1 := heap_cell hbox (i := 1) rfl
          have c0 := heap_cell hbox (i := 0) rfl
          have f1 : wr.frozen? ⟨wz.heap.size, 1, none⟩ = false := heap_froz hbox
          have hhl : wz.heap.size < wr.heap.size := (Array.getElem?_eq_some_iff.1 hbox).1
          clear hbox hown hbel hF
          by_cases hlt2 : k2 < y2.length
          · obtain ⟨ub, uo, rfl, hub, hux⟩ : ∃ ub uo, ua = some ⟨ub, uo, none⟩ ∧ ub < wr.heap.size ∧ wr.cell? ⟨ub, uo + k2, none⟩ = some (.int .i64 (y2.getD k2 0)) := by
              obtain ⟨a', cap', e, _, _, _, _, b, off, ha, hc⟩ := HUX.out wr HB2.out
              injection e with e1 e2 e3
              subst e1
              have h := ha (by intro h; simp [h] at hlt2)
              exact ⟨b, off, h.1, h.2, hc k2 hlt2⟩
            have hx64 := HY64.out.at k2 hlt2
            have hx1 := hx64.1
            have hx2 := hx64.2
            have HFT : Hid ((y2.take (k2 + 1)).filter (fun v => !decide (v ∈ vars)) = F ++ (if (!decide (y2.getD k2 0 ∈ vars)) = true then [y2.getD k2 0] else [])) := by
              show _ = _
              rw [filter_take hlt2, HF.out]
            have j0 : (0 : Int) ≤ (k2 : Int) := by omega
            have j1 : (k2 : Int) < (y2.length : Int) := by omega
            clear hx64
            generalize y2.getD k2 0 = x at *
            have HHS := Lib.hid (has3_any (.slice la vars.length lc) vars x wr (HLL.out.below HB2.out (Nat.le_refl _)) hx1 hx2)
            by_cases hx : x ∈ vars
            · have hmb : memB vars x = true := by unfold memB; simpa using hx
              rw [hmb] at HHS
              have HFN : Hid ((y2.take (k2 + 1)).filter (fun v => !decide (v ∈ vars)) = F) := by show _ = _; rw [HFT.out, if_neg (by simp [hx])]; simp
              clear hmb hx HFT
              go_wp2_with (go_at_call 40; refine HHS.out.mono ?_; rintro e w2 ⟨rfl, rfl⟩)
              go_roundw
              case rel => exact ⟨k2 + 1, _, by omega, by go_num, HBX.out, by rw [HFN.out]; exact HOW.out, HBL.out⟩
              case measure => simp [intOf]; omega
            · have hmb : memB vars x = false := by unfold memB; simpa using hx
              rw [hmb] at HHS
              have HFN : Hid ((y2.take (k2 + 1)).filter (fun v => !decide (v ∈ vars)) = F ++ [x]) := by show _ = _; rw [HFT.out, if_pos (by simp [hx])]
              clear hmb hx HFT
              have ha1 : Below wr.heap.size wr (wr.alloc (.cells #[.int .i64 x] 3)).drew := ((Below.refl wr.heap.size wr).alloc (Nat.le_refl _) (.cells #[.int .i64 x] 3)).drew
              have HA1 := Lib.hid ha1
              have HIA : Hid (IsInts (wr.alloc (.cells #[.int .i64 x] 3)).drew (.slice (some ⟨wr.heap.size, 0, none⟩) 1 1) [x]) := ints_oneX wr x hx1 hx2
              have HOA : Hid (Own (wr.alloc (.cells #[.int .i64 x] 3)).drew (wz.heap.size + 1) (.slice va F.length vc) F) := HOW.out.alloc _
              have e1 := (ha1.cell (p := ⟨wz.heap.size, 1, none⟩) hhl).trans c1
              have HBA : Hid ((wr.alloc (.cells #[.int .i64 x] 3)).drew.heap[wz.heap.size]? = some (.cells #[.bool y1, .slice va F.length vc] 53 (0, 0))) := (ha1.block _ hhl).trans HBX.out
              have HHL := Lib.hid hhl
              have HBW : Hid (Below wz.heap.size wz (wr.alloc (.cells #[.int .i64 x] 3)).drew) := HBL.out.trans (ha1.mono hszi)
              have hszx : wz.heap.size + 1 ≤ (wr.alloc (.cells #[.int .i64 x] 3)).drew.heap.size := Nat.le_trans hhl ha1.size
              have hlen : F.length + ([x] : List Int).length ≤ 17592186044416 := by simp; omega
              obtain ⟨T, hT⟩ : ∃ T, F ++ [x] = T := ⟨_, rfl⟩
              rw [hT] at HFN
              have HTT := Lib.hid hT
              clear hT
              have HLE := Lib.hid hlen
              have HSX := Lib.hid hszx
              clear ha1 hhl hlen hszx
              go_upto_region 12 with (go_at_call 40; refine HHS.out.mono ?_; rintro e w2 ⟨rfl, rfl⟩)
              go_region_law (refine step_appI (some 57) rfl rfl (.tmp 47) (.tmp 56) rfl (wz.heap.size + 1) (.slice va F.length vc) (.slice (some ⟨wr.heap.size, 0, none⟩) 1 1) F [x] rfl rfl HOA.out HIA.out (by simp) HLE.out HSX.out ?_; intro v7 w7 ho7 hg7 _; rw [HTT.out] at ho7; obtain ⟨a7, c7, rfl⟩ := own_shape ho7; have hne : (Value.slice va F.length vc).ownBlock ≠ some wz.heap.size := fun e => by { have := (HOA.out.lt _ e).1; omega }; have HX7 := Lib.hid ((hg7.block wz.heap.size HSX.out (fun e => hne e.symm)).trans HBA.out); have d7 := heap_cell HX7.out (i := 1) rfl; have g7 : w7.frozen? ⟨wz.heap.size, 1, none⟩ = false := heap_froz HX7.out; have HB7 := Lib.hid (HBW.out.grown hg7 HBW.out.size (fun j hj => Nat.le_of_succ_le (HOA.out.lt j hj).1)); have HO7 := Lib.hid ho7; clear ho7 hg7 hne)
              all_goals
                have HX8 := Lib.hid (heap_set1 (c := .slice a7 T.length c7) HX7.out)
                have HO8 : Hid (Own (w7.setCell ⟨wz.heap.size, 1, none⟩ (.slice a7 T.length c7)) (wz.heap.size + 1) (.slice a7 T.length c7) T) := (Kept.setCell w7 ⟨wz.heap.size, 1, none⟩ _).row HO7.out (fun g hg e => by have := (HO7.out.lt g hg).1; simp only at e; omega)
                have HB8 := Lib.hid (HB7.out.setCell (p := ⟨wz.heap.size, 1, none⟩) (Nat.le_refl _) (.slice a7 T.length c7))
                go_wp2
                go_roundw
                case rel => exact ⟨k2 + 1, _, by omega, by go_num, HX8.out, by rw [HFN.out]; exact HO8.out, HB8.out⟩
                case measure => simp [intOf]; omega
          · have hke : k2 = y2.length := by omega
            subst hke
            have HFY : Hid (y2.filter (fun v => !decide (v ∈ vars)) = F) := by show _ = _; rw [← HF.out, List.take_length]
            have HR3 : Hid ((wr.alloc (.cells #[.bool y1, .slice va F.length vc] 53)).ownsRow w.heap.size 53 2 (.slice oa t.length oc) t.length (cellsT t)) := (HRW.out.below' (HBL.out.alloc hszi _) (Nat.le_refl _)).row
            have hw3 : w.heap.size ≤ (wr.alloc (.cells #[.bool y1, .slice va F.length vc] 53)).heap.size := by simp; omega
            have HW3 := Lib.hid hw3
            clear hw3
            go_wp2_with (at_builtin; refine wpList_appBlk rfl (.tmp 59) (.tmp 61) rfl w.heap.size (.slice oa t.length oc) (.slice va F.length vc) t y1 F wr.heap.size rfl rfl HR3.out (cell_fresh rfl) (cell_fresh rfl) rfl HTB.out HW3.out ?_; intro v4 w4 hrow4 hg4; have HR4 := Lib.hid hrow4; have HG4 := Lib.hid hg4; clear hrow4 hg4)
            have HRN := Lib.hid (RowB.more (s := [(y1, .slice va F.length vc, F)]) HRW.out hszr (HBL.out.alloc hszi (.cells #[.bool y1, .slice va F.length vc] 53)) (fun x hx => by
              rw [List.mem_singleton] at hx
              subst hx
              exact .inl ((HOW.out.mono (Nat.le_succ_of_le hszr)).alloc _)) HR4.out HG4.out)
            go_roundw
            case rel => exact ⟨k + 1, _, by omega, by go_num, HRN.out, by rw [shapeT_app, HRT.out, HSH.out, HFY.out]; rfl⟩
            case measure => simp [intOf]; omega
      · have hke : k = p.length := by omega
        subst hke
        rw [List.take_length] at HSH
        clear htl
        have HIB := Lib.hid (rows_blocks HRW.out HSH.out (by have := HOK.out.2.2.2; omega) HRS.out)
        have HOB : Hid ((restL p vars).length = t.length) := by show _ = _; rw [← HSH.out, shapeT_len]
        have HJ := Lib.hid (rjoined_any (.slice oa t.length oc) (restL p vars) wr HIB.out (by have := HOK.out.2.1; omega) HOK.out.2.2.1)
        have HJ2 : Hid (Calls Try.prog 96 #[.slice oa t.length oc] wr fun e w' => ∃ v, e = .returned v ∧ IsBlocks w' v (joinL (restL p vars)) ∧ Below wr.heap.size wr w') := HJ.out.mono fun e w' h => by
          obtain ⟨v, t, rfl, hr, hs⟩ := h
          exact ⟨v, rfl, joined_blocks hr hs (by have := HOK.out.2.1; omega) HOK.out.2.2.1, hr.below⟩
        clear HJ
        go_wp2_with (go_at_call 96; refine HJ2.out.mono ?_; rintro e w3 ⟨v3, rfl, hi3, hb3⟩)
        go_ret2
        exact ⟨_, rfl, hi3, HBR.out.trans (hb3.mono hszr)⟩
end Go.Proofs.Ytfodafaclhoibaa
