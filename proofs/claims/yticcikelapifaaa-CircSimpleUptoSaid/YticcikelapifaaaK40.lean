/- Joined texts: CxROut. -/
import Derived.Test.YticcikelapifaaaK12
import Derived.Test.YticcikelapifaaaK18
/- The reference's Out (layer 5). -/
namespace Go.Proofs.Yticcikelapifaaa
open Go.RowKit Go.Shelf
set_option linter.unusedVariables false
set_option linter.unusedSimpArgs false
attribute [local go_sem] Oper.semAt_some cell_far frozen_far drew_cell drew_frozen

set_option maxRecDepth 100000 in
set_option maxHeartbeats 6400000 in
theorem rout5_any (B b : Nat) (h : Int → Bool) (f : Int → Option Int) (hf : ∀ v, f v = if h v = true then some 0 else none) (vp : Value) (p : List Blk) (w : World) (hm : Mk w B b h) (HP : IsBlocks w vp p) (hfl : (flatB p).length ≤ 1024) (hv : ∀ v ∈ flatB p, 0 ≤ v ∧ v ≤ 65536) :
    Calls Try.prog 97 #[vp, .slice (some ⟨b, 0, none⟩) nM nM] w fun e w' => ∃ v t, e = .returned v ∧ JoinSt w' w.heap.size v t ∧ shapeT t = withoutP p f ∧ Below w.heap.size w w' := by
  have HPP := Lib.hid HP
  have HMM := Lib.hid hm
  obtain ⟨a, cap, rfl, hlp⟩ := HP.shape
  have HFL := Lib.hid hfl
  have HLP := Lib.hid hlp
  have HV := Lib.hid hv
  have HF := Lib.hid hf
  have hnm := nM_eq
  have HNM := Lib.hid hnm
  clear HP hm hfl hv hf hnm
  go_enter Try.func97, Try.ntmps97
  go_wp2
  go_loopw [5, 6] (fun out i wr => ∃ (k : Nat) (t : List Trp), k ≤ p.length ∧ i = .int .i64 k ∧ JoinSt wr w.heap.size out t ∧ shapeT t = withoutP (p.take k) f ∧ Below w.heap.size w wr) (fun _ i _ => p.length - (intOf i).toNat)
  case atStart => exact ⟨0, [], Nat.zero_le _, rfl, JoinSt.nil _ _, rfl, Below.refl _ _⟩
  case round =>
    obtain ⟨k, t, hk, rfl, hst, hsh, hbel⟩ := hrel
    have HST := Lib.hid hst
    have HSH := Lib.hid hsh
    have HBW := Lib.hid hbel
    have hszr := hbel.size
    obtain ⟨oa, oc, rfl⟩ := hst.shape
    clear hst hsh hbel
    by_cases hlt : k < p.length
    · obtain ⟨pb, off, u, rfl, hb, hcx0, hcu0, HU⟩ := HPP.out.at hlt
      have hcx := (HBW.out.cell (p := ⟨pb, off + k * 2, none⟩) hb).trans hcx0
      have hcu := (HBW.out.cell (p := ⟨pb, off + k * 2 + 1, none⟩) hb).trans hcu0
      have HJS : Hid (withoutP (p.take (k + 1)) f = joinStep (withoutP (p.take k) f) ((p.getD k dB).1, (p.getD k dB).2.filter (goneF f))) := by
        show _ = _
        unfold withoutP
        rw [goneB_take hlt, joinL_snoc]
        rfl
      have hl2 : (p.getD k dB).2.length ≤ 1024 := Nat.le_trans (len_flatB (by simp [List.getD, hlt])) HFL.out
      have HL2 := Lib.hid hl2
      have HKL := Lib.hid hlt
      have hk0 : (0 : Int) ≤ (k : Int) := by omega
      have hk1 : (k : Int) < (p.length : Int) := by omega
      have hk2 : (k : Int) < 17592186044417 := by omega
      have HYV : Hid (∀ v ∈ (p.getD k dB).2, 0 ≤ v ∧ v ≤ 65536) := fun v hv => HV.out v (by unfold flatB; exact List.mem_flatten.2 ⟨_, List.mem_map.2 ⟨p.getD k dB, by simp [List.getD, hlt], rfl⟩, hv⟩)
      have hne9 : ¬ p = [] := by intro e; rw [e] at hlt; simp at hlt
      have HCE := Lib.hid hcx0
      have HCV := Lib.hid hcu0
      have HPB := Lib.hid hb
      clear hcx0 hcu0 hl2 hlt hb
      generalize p.getD k dB = y at *
      obtain ⟨y1, y2⟩ := y
      simp only at hcx hcu HU HJS HL2 HYV HCE HCV
      have HUW := Lib.hid HU
      obtain ⟨ua, uc, rfl⟩ := HU.shape
      have HCC : Hid (∀ X, Below w.heap.size w X → X.cell? ⟨pb, off + k * 2, none⟩ = some (.bool y1) ∧ X.cell? ⟨pb, off + k * 2 + 1, none⟩ = some (.slice ua y2.length uc)) := fun X hX => ⟨(hX.cell (p := ⟨pb, off + k * 2, none⟩) HPB.out).trans HCE.out, (hX.cell (p := ⟨pb, off + k * 2 + 1, none⟩) HPB.out).trans HCV.out⟩
      have HSA : Hid (JoinSt wr w.heap.size (.slice oa t.length oc) t) := HST.out
      have HBA : Hid (Below w.heap.size w wr) := HBW.out
      have HBD : Hid ((∀ x ∈ t, x.2.2.length ≤ 1024) ∧ t.length ≤ 1024) := by
        have h1 : (flatB (shapeT t)).length ≤ 1024 := by
          rw [HSH.out, without_flat]
          have h6 : flatB p = flatB (p.take k) ++ flatB (p.drop k) := by unfold flatB; rw [← List.flatten_append, ← List.map_append, List.take_append_drop]
          have h7 := HFL.out
          rw [h6, List.length_append] at h7
          have h8 := List.length_filter_le (fun v => (f v).isNone) (flatB (p.take k))
          omega
        refine ⟨fun x hx => ?_, ?_⟩
        · have h2 := len_flatB (p := shapeT t) (b := (x.1, x.2.2)) (List.mem_map_of_mem hx)
          simp only at h2
          omega
        · have h2 := count_flatB (p := shapeT t) (fun b hb => by
            obtain ⟨x, hx, rfl⟩ := List.mem_map.1 hb
            exact HST.out.full x hx)
          rw [shapeT_len] at h2
          omega
      have HY64 : Hid (In64 y2) := by obtain ⟨_, _, _, _, _, _, g, _⟩ := HUW.out; exact g
      clear HU HST
      have hszA : w.heap.size ≤ wr.heap.size := HBA.out.size
      go_wp2
      clear hcx hcu
      obtain ⟨wa, hwa⟩ : ∃ wa, wr = wa := ⟨_, rfl⟩
      rw [hwa] at HSA HBA hszA ⊢
      clear hwa
      go_loopw [7, 8] (fun left i wx => ∃ (j : Nat), j ≤ y2.length ∧ i = .int .i64 j ∧ Own wx wa.heap.size left ((y2.take j).filter (goneF f)) ∧ Below wa.heap.size wa wx) (fun _ i _ => y2.length - (intOf i).toNat)
      case atStart => exact ⟨0, Nat.zero_le _, rfl, by simpa using Own.nil _ _, Below.refl _ _⟩
      case round =>
        obtain ⟨j, hj, rfl, hown, hbel⟩ := hrel
        have HOW := Lib.hid hown
        have HBX := Lib.hid hbel
        have hszx := hbel.size
        obtain ⟨la, lc, rfl⟩ := own_shC hown
        clear hown hbel
        by_cases hlt2 : j < y2.length
        · obtain ⟨ub, uo, rfl, hub, hc0⟩ := HUW.out.cellY hlt2
          have HTW : Hid (Below w.heap.size w wr) := HBA.out.trans (HBX.out.mono hszA)
          have hcv := (HTW.out.cell (p := ⟨ub, uo + j, none⟩) hub).trans hc0
          obtain ⟨hce, hcu⟩ := HCC.out wr HTW.out
          have hne8 : ¬ y2 = [] := by intro e; rw [e] at hlt2; simp at hlt2
          have hxr := HY64.out _ (ints_getD_mem hlt2)
          have HGT := Lib.hid (gone_take (f := f) hlt2)
          have hxv := HYV.out _ (ints_getD_mem hlt2)
          have HFX := Lib.hid (HF.out (y2.getD j 0))
          obtain ⟨xn, hxn⟩ := Int.eq_ofNat_of_zero_le hxv.1
          have hxm : xn < nM := by rw [HNM.out]; omega
          have hlk := (HMM.out.below HTW.out (Nat.le_refl _)).cell hxm
          rw [← hxn] at hlk
          have hn0 : (0 : Int) ≤ (xn : Int) := by omega
          have hn1 : (xn : Int) < (nM : Int) := by omega
          have hfl : ((y2.take j).filter (goneF f)).length ≤ 1024 := by
            have h1 := List.length_filter_le (goneF f) (y2.take j)
            have h2 := HL2.out
            rw [List.length_take] at h1
            omega
          have HFLN := Lib.hid hfl
          have hj0 : (0 : Int) ≤ (j : Int) := by omega
          have hj1 : (j : Int) < (y2.length : Int) := by omega
          have hj2 : (j : Int) < 17592186044417 := by have := HL2.out; omega
          have HJL := Lib.hid hlt2
          have HXN := Lib.hid hxn
          clear hc0 hxr hlt2 hfl hxv hxm hxn
          generalize y2.getD j 0 = x at *
          obtain rfl : x = (xn : Int) := HXN.out
          generalize (y2.take j).filter (goneF f) = F at *
          cases hfx : goneF f (xn : Int) with
          | true =>
            have h9 : h (xn : Int) = false := by unfold goneF at hfx; rw [HFX.out] at hfx; cases hh : h (xn : Int) with | false => rfl | true => rw [hh] at hfx; simp at hfx
            rw [h9] at hlk
            rw [hfx, if_pos rfl] at HGT
            clear h9 hfx
            go_wp2_with (at_builtin; go_loud (refine wpList_app1 rfl (.tmp 38) (.tmp 47) rfl wa.heap.size (.slice la F.length lc) F (xn : Int) wr.heap.size rfl rfl (HOW.out.alloc _) (cell_fresh rfl) (by have := HFLN.out; omega) (by simp; omega) ?_; intro v2 w2 ho2 hg2; have HO2 := Lib.hid ho2; have HB2 := Lib.hid (own_app1 HBX.out hszx HOW.out (Nat.le_refl _) hg2); clear ho2 hg2))
            go_roundw
            case rel => exact ⟨j + 1, HJL.out, by go_num, by rw [HGT.out]; exact HO2.out, HB2.out⟩
            case measure => have := HJL.out; simp [intOf]; omega
          | false =>
            have h9 : h (xn : Int) = true := by unfold goneF at hfx; rw [HFX.out] at hfx; cases hh : h (xn : Int) with | true => rfl | false => rw [hh] at hfx; simp at hfx
            rw [h9] at hlk
            rw [hfx, if_neg (by simp), List.append_nil] at HGT
            clear h9 hfx
            go_wp2
            go_roundw
            case rel => exact ⟨j + 1, HJL.out, by go_num, by rw [HGT.out]; exact HOW.out, HBX.out⟩
            case measure => have := HJL.out; simp [intOf]; omega
        · obtain rfl : j = y2.length := by omega
          rw [List.take_length] at HOW
          have hlF : (y2.filter (goneF f)).length ≤ 1024 := Nat.le_trans (List.length_filter_le _ _) HL2.out
          have HLF := Lib.hid hlF
          have HF6 : Hid (In64 (y2.filter (goneF f))) := fun z hz => HY64.out z (List.mem_filter.1 hz).1
          have HTB : Hid (Below w.heap.size w wr) := HBA.out.trans (HBX.out.mono hszA)
          have hszt : w.heap.size ≤ wr.heap.size := HTB.out.size
          have HSX : Hid (JoinSt wr w.heap.size (.slice oa t.length oc) t) := HSA.out.below HBX.out (Nat.le_refl _)
          obtain ⟨e0, e9⟩ := HCC.out wr HTB.out
          have HE0 := Lib.hid e0
          clear hlF
          rw [List.take_length]
          generalize y2.filter (goneF f) = F at *
          by_cases hy : F = []
          · subst hy
            go_wp2
            go_roundw
            case rel => exact ⟨k + 1, t, HKL.out, by have := HLP.out; have := HKL.out; go_num, HSX.out, by rw [HJS.out, HSH.out, joinStep_nil], HTB.out⟩
            case measure => have := HKL.out; have := HLP.out; simp [intOf]; omega
          · have hz : ((F.length : Int) == 0) = false := by simpa using hy
            have HY := Lib.hid hy
            clear hy
            rcases nil_or_snoc t with rfl | ⟨t', x, rfl⟩
            · have HSX0 : Hid (JoinSt wr w.heap.size (.slice oa 0 oc) ([] : List Trp)) := HSX.out
              clear HSX
              go_upto_region 14 with fail
              go_wp2_with fail
              clear hk2 hlt2 hj hlp HUW
              go_quiet (fail)
              obtain ⟨wb, hwb⟩ : ∃ wb, wr.drewN nq = wb := ⟨_, rfl⟩
              have hqb : Quiet wr wb := ⟨nq, hwb.symm⟩
              rw [hwb]
              have HSB : Hid (JoinSt wb w.heap.size (.slice oa 0 oc) ([] : List Trp)) := HSX0.out.below (hqb.below _) (Nat.le_refl _)
              have HBB : Hid (Below wa.heap.size wa wb) := HBX.out.trans (hqb.below _)
              have HOB : Hid (Own wb wa.heap.size (.slice la F.length lc) F) := HOW.out.quiet hqb
              have hszb : w.heap.size ≤ wb.heap.size := by have := hqb.size; omega
              have b0 : wb.cell? ⟨pb, off + k * 2, none⟩ = some (.bool y1) := (hqb.cell _).trans e0
              have HTL : Hid (([] : List Trp).length < 1000000) := by show _ < _; simp
              have HSAA : Hid (JoinSt wa w.heap.size (.slice oa 0 oc) ([] : List Trp)) := HSA.out
              clear e0 hqb hwb HSA HSX0
              have hk2 : (k : Int) < 17592186044417 := by have := HLP.out; have := HKL.out; omega
              go_wp2_with (at_builtin; go_loud (refine wpList_appBlk rfl (.tmp 52) (.tmp 60) rfl w.heap.size (.slice oa 0 oc) (.slice la F.length lc) ([] : List Trp) y1 F wb.heap.size rfl rfl (HSB.out.below ((Below.refl _ _).alloc (Nat.le_refl _) (.cells #[.bool y1, .slice la F.length lc] 80)) (Nat.le_refl _)).row (cell_fresh rfl) (cell_fresh rfl) rfl HTL.out (by simp; omega) ?_; intro v7 w7 hrow7 hg7; have HR7 := Lib.hid hrow7; have HG7 := Lib.hid hg7; clear hrow7 hg7))
              have hrow : w7.ownsRow w.heap.size 80 2 v7 (([] : List Trp).length + 1) (cellsT [] ++ [.bool y1, .slice la F.length lc]) := by
                have h9 := HR7.out
                rw [List.length_append, cellsT_app] at h9
                exact h9
              have HS7 := Lib.hid (JoinSt.snoc HSAA.out hszA HBB.out HOB.out HY.out hrow HG7.out)
              have HB7 := Lib.hid (((HBA.out.trans (HBB.out.mono hszA)).alloc hszb (.cells #[.bool y1, .slice la F.length lc] 80)).grown HG7.out (by simp; omega) (fun g hg => (HSAA.out.vlt g hg).1))
              go_roundw
              case rel => exact ⟨k + 1, _, HKL.out, by have := HLP.out; have := HKL.out; go_num, HS7.out, by rw [shapeT_app, HJS.out, joinStep_new HY.out (fun l hl => by rw [← HSH.out] at hl; cases hl), ← HSH.out]; rfl, HB7.out⟩
              case measure => have := HKL.out; have := HLP.out; simp [intOf]; omega
            · have el2 : (t' ++ [x]).length = t'.length + 1 := by simp
              rw [el2] at HSX HSA ⊢
              obtain ⟨g, ocap, eo, hBg, hglt, ce, cv, hfz, hne⟩ := HSX.out.at (j := t'.length) (by simp)
              injection eo with eo1 _ eo3
              subst eo1; subst eo3
              have egd : (t' ++ [x]).getD t'.length (false, .slice none 0 0, []) = x := by simp [List.getD]
              rw [egd] at ce cv
              obtain ⟨x1, x2, x3⟩ := x
              simp only at ce cv
              obtain ⟨m, hm⟩ : ∃ m, t'.length = m := ⟨_, rfl⟩
              rw [hm] at ce cv HSX HSA
              rw [hm]
              have hm9 : m + 1 ≤ 1024 := by
                have h1 := HBD.out.2
                rwa [List.length_append, hm] at h1
              obtain ⟨mi, hmi⟩ : ∃ x : Int, (m : Int) = x := ⟨_, rfl⟩
              have hwm : wrap64 mi = mi := by rw [← hmi]; exact bd_wrap hm9 (by omega)
              have hm0 : 0 ≤ mi := by rw [← hmi]; exact (bd_int (m := m)).1
              have hm1 : mi < mi + 1 := by rw [← hmi]; exact (bd_int (m := m)).2
              have htn : mi.toNat = m := by rw [← hmi]; exact Int.toNat_natCast m
              have HSA1 : Hid (JoinSt wa w.heap.size (.slice (some ⟨g, 0, none⟩) (m + 1) oc) (t' ++ [(x1, x2, x3)])) := HSA.out
              have HSX1 : Hid (JoinSt wr w.heap.size (.slice (some ⟨g, 0, none⟩) (m + 1) oc) (t' ++ [(x1, x2, x3)])) := HSX.out
              clear HSA HSX
              go_upto_region 14 with fail
              clear hk2 hlt2 hj hlp HUW
              go_cut [66] from 66 to 81 (fun s wx => s = .bool (x1 == y1) ∧ Quiet wr wx)
              case first =>
                have h4 : (x1 = true ∨ x1 = false) ∧ (y1 = true ∨ y1 = false) := by cases x1 <;> cases y1 <;> simp
                clear HSA1 HSX1 HSH HJS HBD HBA HTB HBX
                rcases h4 with ⟨rfl | rfl, rfl | rfl⟩
                all_goals
                  go_wp2_with fail
                  go_quiet (fail)
                  go_wp2
                  go_meet
                  exact ⟨rfl, ⟨_, rfl⟩⟩
              case rest =>
                obtain ⟨rfl, hqb⟩ := hcut
                have hqw : wr.heap.size ≤ wc.heap.size := by have := hqb.size; omega
                have HBB : Hid (Below wa.heap.size wa wc) := HBX.out.trans (hqb.below _)
                have HOB : Hid (Own wc wa.heap.size (.slice la F.length lc) F) := HOW.out.quiet hqb
                have HSB : Hid (JoinSt wc w.heap.size (.slice (some ⟨g, 0, none⟩) (m + 1) oc) (t' ++ [(x1, x2, x3)])) := HSX1.out.below (hqb.below _) (Nat.le_refl _)
                have HTC : Hid (Below w.heap.size w wc) := HTB.out.trans (hqb.below _)
                have hszb : w.heap.size ≤ wc.heap.size := by omega
                have b0 : wc.cell? ⟨pb, off + k * 2, none⟩ = some (.bool y1) := (hqb.cell _).trans e0
                have HTL : Hid ((t' ++ [(x1, x2, x3)]).length < 1000000) := by show _ < _; rw [List.length_append, hm]; simp; omega
                cases hbe : (x1 == y1) with
                | false =>
                  have HNE := Lib.hid hbe
                  clear hbe e0 ce cv hfz hne hqb
                  have hk2 : (k : Int) < 17592186044417 := by have := HLP.out; have := HKL.out; omega
                  go_wp2_with (at_builtin; go_loud (refine wpList_appBlk rfl (.tmp 52) (.tmp 60) rfl w.heap.size (.slice (some ⟨g, 0, none⟩) (m + 1) oc) (.slice la F.length lc) (t' ++ [(x1, x2, x3)]) y1 F wc.heap.size rfl rfl (HSB.out.below ((Below.refl _ _).alloc (Nat.le_refl _) (.cells #[.bool y1, .slice la F.length lc] 80)) (Nat.le_refl _)).row (cell_fresh rfl) (cell_fresh rfl) rfl HTL.out (by simp; omega) ?_; intro v7 w7 hrow7 hg7; have HR7 := Lib.hid hrow7; have HG7 := Lib.hid hg7; clear hrow7 hg7))
                  have hrow : w7.ownsRow w.heap.size 80 2 v7 ((t' ++ [(x1, x2, x3)]).length + 1) (cellsT (t' ++ [(x1, x2, x3)]) ++ [.bool y1, .slice la F.length lc]) := by
                    have h9 := HR7.out
                    rw [List.length_append, cellsT_app] at h9
                    exact h9
                  have HS7 := Lib.hid (JoinSt.snoc HSA1.out hszA HBB.out HOB.out HY.out hrow HG7.out)
                  have HB7 := Lib.hid (((HBA.out.trans (HBB.out.mono hszA)).alloc hszb (.cells #[.bool y1, .slice la F.length lc] 80)).grown HG7.out (by simp; omega) (fun g hg => (HSA1.out.vlt g hg).1))
                  go_roundw
                  case rel => exact ⟨k + 1, _, HKL.out, by have := HLP.out; have := HKL.out; go_num, HS7.out, by rw [shapeT_app, HJS.out, joinStep_new HY.out (fun l hl => by rw [← HSH.out, shapeT_app] at hl; simp [shapeT] at hl; have h2 := HNE.out; subst hl; simpa using h2), ← HSH.out]; rfl, HB7.out⟩
                  case measure => have := HKL.out; have := HLP.out; simp [intOf]; omega
                | true =>
                  have hxy : x1 = y1 := by simpa using hbe
                  clear hbe
                  have hx3 : x3 ≠ [] := HSB.out.full (x1, x2, x3) (by simp)
                  have hox : Own wc w.heap.size x2 x3 := HSB.out.owns (x1, x2, x3) (by simp)
                  have hxg : x2.ownBlock ≠ some g := fun e1 => hne (x1, x2, x3) (by simp) g e1 rfl
                  obtain ⟨gx, cx, rfl⟩ := hox.sh hx3
                  have HOX := Lib.hid hox
                  have HX3 := Lib.hid hx3
                  have HXG := Lib.hid hxg
                  have HF64 : Hid (In64 F ∧ F.length ≤ 1024) := ⟨HF6.out, HLF.out⟩
                  have HUX : Hid (IsInts wc (.slice la F.length lc) F) := HOB.out.ints (by have := HLF.out; omega) HF6.out
                  obtain ⟨T7, hT7⟩ : ∃ T, x3 ++ F = T := ⟨_, rfl⟩
                  have HT7 := Lib.hid hT7
                  have HTN : Hid (T7 ≠ []) := by rw [← hT7]; exact fun e1 => HY.out (List.append_eq_nil_iff.1 e1).2
                  have HLN : Hid (x3.length + F.length ≤ 17592186044416) := by have h1 := HBD.out.1 (x1, .slice (some ⟨gx, 0, none⟩) x3.length cx, x3) (by simp); have h2 := HLF.out; simp only at h1; show _ ≤ _; omega
                  have d0 : wc.cell? ⟨g, m * 2 + 1, none⟩ = some (.slice (some ⟨gx, 0, none⟩) x3.length cx) := (hqb.cell _).trans cv
                  have hgd : g < wc.heap.size := by omega
                  have HD0 := Lib.hid d0
                  have HFZ : Hid (wc.frozen? ⟨g, m * 2 + 1, none⟩ = false) := frozen_quiet hqb (hfz _)
                  have HG := Lib.hid hgd
                  have HM := Lib.hid hm
                  have HXY := Lib.hid hxy
                  clear hx3 hox hxg hT7 hgd hm hxy e0 ce cv hfz hne hqb
                  have hk2 : (k : Int) < 17592186044417 := by have := HLP.out; have := HKL.out; omega
                  go_wp2_with (at_builtin; go_loud (refine wpList_appL rfl (.tmp 88) (.tmp 89) rfl w.heap.size (.slice (some ⟨gx, 0, none⟩) x3.length cx) (.slice la F.length lc) x3 F rfl rfl HOX.out HUX.out HY.out HLN.out hszb ?_; intro v7 w7 ho7 hg7 hl7; rw [HT7.out] at ho7; obtain ⟨g7, c7, rfl⟩ := ho7.sh HTN.out; have d7 : w7.cell? ⟨g, m * 2 + 1, none⟩ = some (.slice (some ⟨gx, 0, none⟩) x3.length cx) := (hg7.cell_far ⟨g, m * 2 + 1, none⟩ HG.out (fun e1 => HXG.out e1.symm)).trans HD0.out; have f7 : w7.frozen? ⟨g, m * 2 + 1, none⟩ = false := (hg7.frozen_far ⟨g, m * 2 + 1, none⟩ HG.out (fun e1 => HXG.out e1.symm)).trans HFZ.out; have HO7 := Lib.hid ho7; have HG7 := Lib.hid hg7; have HL7 := Lib.hid hl7; clear ho7 hg7 hl7))
                  have HS8 : Hid (JoinSt (w7.setCell ⟨g, m * 2 + 1, none⟩ (.slice (some ⟨g7, 0, none⟩) T7.length c7)) w.heap.size (.slice (some ⟨g, 0, none⟩) (m + 1) oc) (t' ++ [(x1, .slice (some ⟨g7, 0, none⟩) T7.length c7, T7)])) := by
                    have h9 := JoinSt.grow (l2 := F) HSB.out hszb (by rw [HT7.out]; exact HTN.out) (by rw [HT7.out]; exact HO7.out) HG7.out HL7.out
                    rw [HT7.out, HM.out] at h9
                    exact h9
                  have HB8 := Lib.hid ((HTC.out.grown HG7.out hszb (fun g' hg' => (HOX.out.lt g' hg').1)).setCell (p := ⟨g, m * 2 + 1, none⟩) hBg (.slice (some ⟨g7, 0, none⟩) T7.length c7))
                  have HSP : Hid (shapeT (t' ++ [(x1, Value.slice (some ⟨g7, 0, none⟩) T7.length c7, T7)]) = withoutP (p.take (k + 1)) f) := by
                    show _ = _
                    rw [HJS.out, ← HSH.out, shapeT_app, shapeT_app, ← HXY.out]
                    show shapeT t' ++ [(x1, T7)] = joinStep (shapeT t' ++ [(x1, x3)]) (x1, F)
                    rw [joinStep_grow HY.out, HT7.out]
                  go_roundw
                  case rel => exact ⟨k + 1, t' ++ [(x1, .slice (some ⟨g7, 0, none⟩) T7.length c7, T7)], HKL.out, by have := HLP.out; have := HKL.out; go_num, HS8.out, HSP.out, HB8.out⟩
                  case measure => have := HKL.out; have := HLP.out; simp [intOf]; omega
    · obtain rfl : k = p.length := by omega
      rw [List.take_length] at HSH
      go_wp2
      go_ret
      exact ⟨_, t, rfl, HST.out, HSH.out, HBW.out⟩
end Go.Proofs.Yticcikelapifaaa
