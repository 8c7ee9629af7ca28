/- Joined texts: CxRLoose, CxROrd, CxLawOrd. -/
import Derived.Test.YtldgdfchemjcmaaK35
import Derived.Test.YtldgdfchemjcmaaK19
import Derived.Test.YtldgdfchemjcmaaK36
import Derived.Test.YtldgdfchemjcmaaK16
import Derived.Test.YtldgdfchemjcmaaK17
/- The reference's loose (layer 5). -/
namespace Go.Proofs.Ytldgdfchemjcmaa
open Go.RowKit Go.Maps Go.Shelf
set_option linter.unusedVariables false
set_option linter.unusedSimpArgs false

theorem mk_more {w : World} {B b : Nat} {S : List Int} (h : Mk w B b (fun i => decide (i ∈ S))) (n : Nat) (hn : n < nM) : Mk (w.setCell ⟨b, n, none⟩ (.bool true)) B b (fun i => decide (i ∈ S ++ [(n : Int)])) :=
  (h.set n hn true).congr (fun i _ _ => by
    unfold updB
    by_cases e : i = (n : Int)
    · subst e; simp
    · rw [if_neg e]; simp [e])
theorem loose_all {ins : List Int} {gs : List Gt} (hv : varsOk (ins ++ gv gs)) (hf : ∀ j, j < gs.length → fitsB (gs.getD j dG).2.1 (gs.getD j dG).2.2.length = true) (hl : ∀ j, j < gs.length → (gs.getD j dG).2.2.all (fun x => decide (varC x ∈ ins ++ gv gs)) = true) : looseN ins gs = true := by
  rw [loose_on hv, List.all_eq_true]
  intro g hg
  obtain ⟨j, hj, rfl⟩ := List.mem_iff_getElem.1 hg
  have h1 := hf j hj
  have h2 := hl j hj
  have e : gs.getD j dG = gs[j] := by simp [List.getD, hj]
  rw [e] at h1 h2
  unfold gIn
  rw [h1, h2]; rfl

set_option maxHeartbeats 6400000 in
set_option maxRecDepth 100000 in
theorem rloose5_any (vi vg : Value) (ins : List Int) (gs : List Gt) (w : World) (HI : IsInts w vi ins) (HG : IsGates w vg gs) (hi : ins.length < 1000000) (hg : gs.length < 1000000) :
    Calls Try.prog 66 #[vi, vg] w fun e w' => e = .returned (.bool (looseN ins gs)) ∧ Below w.heap.size w w' := by
  have HIW := Lib.hid HI
  have HGW := Lib.hid HG
  have HGB := Lib.hid HG.bd
  have HNM := Lib.hid nM_eq
  have h64 : Hid (In64 ins) := by obtain ⟨_, _, _, _, _, _, g, _⟩ := HI; exact g
  obtain ⟨ia, ic, rfl⟩ := HI.shape
  obtain ⟨ga, gc, rfl, _⟩ := HG.shape
  clear HI HG
  go_enter Try.func66, Try.ntmps66
  go_wp2_with (refine wpList_mkBools2 rfl _ _ rfl nM 65537 65537 rfl rfl (by rw [HNM.out]; rfl) (by rw [HNM.out]; rfl) (by rw [HNM.out]; decide) ?_; intro w1 hown hg1; have HO := Lib.hid hown; have HB1 := Lib.hid ((Below.refl w.heap.size w).grown hg1 (Nat.le_refl _) (fun k hk => by cases hk)); clear hown hg1)
  have HM0 : Hid (Mk w1 w.heap.size w.heap.size (fun x => decide (x ∈ ins.take 0))) := ⟨_, HO.out, by rw [List.length_replicate], fun i hi => by simp [List.getD, List.getElem?_replicate, hi]⟩
  clear HO
  go_loopw [6] (fun i wr => ∃ k : Nat, k ≤ ins.length ∧ i = .int .i64 k ∧ Mk wr w.heap.size w.heap.size (fun x => decide (x ∈ ins.take k)) ∧ Below w.heap.size w wr ∧ Hid (varsOk (ins.take k))) (fun i _ => ins.length - (intOf i).toNat)
  case atStart => exact ⟨0, Nat.zero_le _, rfl, HM0.out, HB1.out, varsOk_nil⟩
  case round =>
    clear HM0 HB1
    obtain ⟨k, hk, rfl, hmk, hbel, HVO⟩ := hrel
    have HM := Lib.hid hmk
    have HB := Lib.hid hbel
    clear hmk hbel
    by_cases hlt : k < ins.length
    · obtain ⟨b, off, rfl, hb, hc0⟩ := HIW.out.cellY hlt
      have hc := (HB.out.cell (p := ⟨b, off + k, none⟩) hb).trans hc0
      have HTK : Hid (ins.take (k + 1) = ins.take k ++ [ins.getD k 0]) := by show _ = _; rw [List.take_succ_eq_append_getElem hlt]; simp [List.getD, hlt]
      have HOF := Lib.hid (fun h => ins_off (gs := gs) hlt h)
      have hk0 : (0 : Int) ≤ (k : Int) := by omega
      have hk1 : (k : Int) < (ins.length : Int) := by omega
      have hk2 : (k : Int) < 4000001 := by omega
      have hne2 : ¬ ins = [] := by intro e; rw [e] at hlt; simp at hlt
      have HKL := Lib.hid hlt
      clear hc0 hlt hk
      generalize ins.getD k 0 = x at *
      have HVV := Lib.hid (vari5_any x wr)
      cases hv : varB x with
      | false =>
        rw [hv] at HVV
        have HR := Lib.hid (HOF.out (by rw [ent_var, hv]; rfl))
        clear hv
        go_wp2_with (go_at_call 49; refine HVV.out.mono ?_; rintro e w1 ⟨rfl, rfl⟩)
        go_ret
        exact ⟨ret_bool HR.out.symm, HB.out⟩
      | true =>
        have hvb : 1 ≤ x ∧ x ≤ 65536 := by unfold varB at hv; simpa using hv
        rw [hv] at HVV
        obtain ⟨n, rfl⟩ := Int.eq_ofNat_of_zero_le (show 0 ≤ x by omega)
        have hn : n < nM := by rw [nM_eq]; omega
        have hn0 : (0 : Int) ≤ (n : Int) := by omega
        have hn1 : (n : Int) < (nM : Int) := by omega
        clear hvb
        have m0 := HM.out.cell hn
        cases hmem : decide ((n : Int) ∈ ins.take k) with
        | true =>
          rw [hmem] at m0
          have HR := Lib.hid (HOF.out (by rw [ent_var]; unfold memB; rw [hmem]; simp))
          clear hv hmem
          go_wp2_with (go_at_call 49; refine HVV.out.mono ?_; rintro e w1 ⟨rfl, rfl⟩)
          go_ret
          exact ⟨ret_bool HR.out.symm, HB.out⟩
        | false =>
          rw [hmem] at m0
          have HV2 : Hid (varsOk (ins.take (k + 1))) := by show varsOk _; rw [HTK.out, varsOk_snoc]; exact ⟨HVO.out, by rw [ent_var, hv]; unfold memB; rw [hmem]; rfl⟩
          have m1 := HM.out.frozen n
          have HM2 := Lib.hid (mk_more HM.out n hn)
          have HB2 := Lib.hid (HB.out.setCell (p := ⟨w.heap.size, n, none⟩) (u := .bool true) (Nat.le_refl _))
          clear hv hmem
          go_wp2_with (go_at_call 49; refine HVV.out.mono ?_; rintro e w1 ⟨rfl, rfl⟩)
          go_roundw
          case rel => exact ⟨k + 1, HKL.out, by go_num, by rw [HTK.out]; exact HM2.out, HB2.out, HV2.out⟩
          case measure => have := HKL.out; simp [intOf]; omega
    · have HK : Hid (k = ins.length) := by show _ = _; omega
      have HM1 : Hid (Mk wr w.heap.size w.heap.size (fun x => decide (x ∈ ins))) := by have h := HM.out; rw [HK.out, List.take_length] at h; exact h
      have HV1 : Hid (varsOk ins) := by have h := HVO.out; rw [HK.out, List.take_length] at h; exact h
      clear HVO HM
      go_wp2
      clear hk hlt HK
      generalize wr = wz at *
      go_loopw [7] (fun i wr => ∃ k : Nat, k ≤ gs.length ∧ i = .int .i64 k ∧ Mk wr w.heap.size w.heap.size (fun x => decide (x ∈ ins ++ gv (gs.take k))) ∧ Below w.heap.size w wr ∧ Hid (varsOk (ins ++ gv (gs.take k))) ∧ Hid (∀ j, j < k → fitsB (gs.getD j dG).2.1 (gs.getD j dG).2.2.length = true)) (fun i _ => gs.length - (intOf i).toNat)
      case atStart => exact ⟨0, Nat.zero_le _, rfl, by simpa [gv] using HM1.out, HB.out, by show varsOk _; simpa [gv] using HV1.out, fun j h => absurd h (Nat.not_lt_zero _)⟩
      case round =>
        clear HM1 HV1 HB
        obtain ⟨k, hk, rfl, hmk, hbel, HVO, HFO⟩ := hrel
        have HM := Lib.hid hmk
        have HB := Lib.hid hbel
        have hszr := hbel.size
        clear hmk hbel
        by_cases hlt : k < gs.length
        · obtain ⟨pb, off, u3, rfl, hb, hcx0, hck0, hcu0, HU0, hrg⟩ := HGW.out.at hlt
          have hcx := (HB.out.cell (p := ⟨pb, off + k * 3, none⟩) hb).trans hcx0
          have hck := (HB.out.cell (p := ⟨pb, off + k * 3 + 1, none⟩) hb).trans hck0
          have hcu := (HB.out.cell (p := ⟨pb, off + k * 3 + 2, none⟩) hb).trans hcu0
          have HTK : Hid (ins ++ gv (gs.take (k + 1)) = ins ++ gv (gs.take k) ++ [(gs.getD k dG).1]) := by show _ = _; rw [gv_take hlt, List.append_assoc]
          have HOF := Lib.hid (fun h => gv_off (ins := ins) hlt h)
          have HGO := Lib.hid (fun h => gate_off (ins := ins) hlt h)
          have HFK : Hid (fitsB (gs.getD k dG).2.1 (gs.getD k dG).2.2.length = true → ∀ j, j < k + 1 → fitsB (gs.getD j dG).2.1 (gs.getD j dG).2.2.length = true) := fun h j hj => by
            by_cases e : j = k
            · subst e; exact h
            · exact HFO.out j (by omega)
          have hk0 : (0 : Int) ≤ (k : Int) := by omega
          have hk1 : (k : Int) < (gs.length : Int) := by omega
          have hk2 : (k : Int) < 4000001 := by omega
          have hne2 : ¬ gs = [] := by intro e; rw [e] at hlt; simp at hlt
          have HKL := Lib.hid hlt
          have HU := Lib.hid HU0
          obtain ⟨ua, uc, rfl⟩ := HU0.shape
          clear hcx0 hck0 hcu0 HU0 hrg hlt hk
          have HSH := Lib.hid (shape5_any (gs.getD k dG).1 (gs.getD k dG).2.1 (.slice ua (gs.getD k dG).2.2.length uc) (gs.getD k dG).2.2 wr (HU.out.below HB.out (Nat.le_refl _)))
          generalize ins ++ gv (gs.take k) = S at *
          obtain ⟨y, hy⟩ : ∃ y, gs.getD k dG = y := ⟨_, rfl⟩
          rw [hy] at hcx hck hcu HTK HOF HGO HFK HSH
          clear HU hy
          obtain ⟨y1, y2, y3⟩ := y
          simp only at hcx hck hcu HTK HOF HGO HFK HSH
          have HVV := Lib.hid (vari5_any y1 wr)
          have HGI : Hid (∀ R, fitsB y2 y3.length = false → gIn R (y1, y2, y3) = false) := fun R h => by unfold gIn; simp only; rw [h]; rfl
          generalize y3.length = yl at *
          cases hv : varB y1 with
          | false =>
            rw [hv] at HVV
            have HR := Lib.hid (HOF.out (by rw [ent_var, hv]; rfl))
            clear hv
            go_wp2_with (go_at_call 49; refine HVV.out.mono ?_; rintro e w1 ⟨rfl, rfl⟩)
            go_ret
            exact ⟨ret_bool HR.out.symm, HB.out⟩
          | true =>
            have hvb : 1 ≤ y1 ∧ y1 ≤ 65536 := by unfold varB at hv; simpa using hv
            rw [hv] at HVV
            obtain ⟨n, rfl⟩ := Int.eq_ofNat_of_zero_le (show 0 ≤ y1 by omega)
            have hn : n < nM := by rw [nM_eq]; omega
            have hn0 : (0 : Int) ≤ (n : Int) := by omega
            have hn1 : (n : Int) < (nM : Int) := by omega
            clear hvb
            have m0 := HM.out.cell hn
            cases hmem : decide ((n : Int) ∈ S) with
            | true =>
              rw [hmem] at m0
              have HR := Lib.hid (HOF.out (by rw [ent_var]; unfold memB; rw [hmem]; simp))
              clear hv hmem
              go_wp2_with (go_at_call 49; refine HVV.out.mono ?_; rintro e w1 ⟨rfl, rfl⟩)
              go_ret
              exact ⟨ret_bool HR.out.symm, HB.out⟩
            | false =>
              rw [hmem] at m0
              have HV2 : Hid (varsOk (S ++ [(n : Int)])) := varsOk_snoc.2 ⟨HVO.out, by rw [ent_var, hv]; unfold memB; rw [hmem]; rfl⟩
              clear hv hmem
              cases hf : fitsB y2 yl with
              | false =>
                rw [hf] at HSH
                have HR := Lib.hid (HGO.out (HGI.out _ hf))
                clear hf
                go_wp2_with (first
                  | (go_at_call 49; refine HVV.out.mono ?_; rintro e w1 ⟨rfl, rfl⟩)
                  | (go_at_call 50; refine HSH.out.mono ?_; rintro e w5 ⟨rfl, hb5⟩; have HB5 := Lib.hid hb5; clear hb5))
                go_ret
                exact ⟨ret_bool HR.out.symm, HB.out.trans (HB5.out.mono hszr)⟩
              | true =>
                rw [hf] at HSH
                have HF2 := Lib.hid (HFK.out hf)
                have HMX : Hid (∀ X, Below wr.heap.size wr X → X.frozen? ⟨w.heap.size, n, none⟩ = false ∧ Mk (X.setCell ⟨w.heap.size, n, none⟩ (.bool true)) w.heap.size w.heap.size (fun i => decide (i ∈ S ++ [(n : Int)])) ∧ Below w.heap.size w (X.setCell ⟨w.heap.size, n, none⟩ (.bool true)) ∧ X.cell? ⟨w.heap.size, n, none⟩ = some (.bool false) ∧ X.cell? ⟨pb, off + k * 3, none⟩ = some (.int .i64 (n : Int))) := fun X hX => by
                  have hm := HM.out.below hX (Nat.le_refl _)
                  exact ⟨hm.frozen n, mk_more hm n hn, (HB.out.trans (hX.mono hszr)).setCell (p := ⟨w.heap.size, n, none⟩) (Nat.le_refl _) _, (hX.cell (p := ⟨w.heap.size, n, none⟩) (HM.out.lt.2)).trans m0, (hX.cell (p := ⟨pb, off + k * 3, none⟩) (Nat.lt_of_lt_of_le hb hszr)).trans hcx⟩
                clear hf
                go_wp2_with (first
                  | (go_at_call 49; refine HVV.out.mono ?_; rintro e w1 ⟨rfl, rfl⟩)
                  | (go_at_call 50; refine HSH.out.mono ?_; rintro e w5 ⟨rfl, hb5⟩; obtain ⟨m3, hm4, hb4, m5, c5⟩ := HMX.out w5 hb5; have HM4 := Lib.hid hm4; have HB4 := Lib.hid hb4; clear hm4 hb4 hb5))
                go_roundw
                case rel => exact ⟨k + 1, HKL.out, by go_num, by rw [HTK.out]; exact HM4.out, HB4.out, by rw [HTK.out]; exact HV2, HF2⟩
                case measure => have := HKL.out; simp [intOf]; omega
        · have HK : Hid (k = gs.length) := by show _ = _; omega
          have HM1 : Hid (Mk wr w.heap.size w.heap.size (fun x => decide (x ∈ ins ++ gv gs))) := by have h := HM.out; rw [HK.out, List.take_length] at h; exact h
          have HV1 : Hid (varsOk (ins ++ gv gs)) := by have h := HVO.out; rw [HK.out, List.take_length] at h; exact h
          have HF1 : Hid (∀ j, j < gs.length → fitsB (gs.getD j dG).2.1 (gs.getD j dG).2.2.length = true) := by have h := HFO.out; rw [HK.out] at h; exact h
          clear HVO HM HFO
          go_wp2
          clear hk hlt HK
          generalize wr = wy at *
          go_loop [8] (fun i => ∃ k : Nat, k ≤ gs.length ∧ i = .int .i64 k ∧ Hid (∀ j, j < k → (gs.getD j dG).2.2.all (fun x => decide (varC x ∈ ins ++ gv gs)) = true)) (fun i => gs.length - (intOf i).toNat)
          case atStart => exact ⟨0, Nat.zero_le _, rfl, fun j h => absurd h (Nat.not_lt_zero _)⟩
          case round =>
            obtain ⟨k, hk, rfl, HAL⟩ := hrel
            by_cases hlt : k < gs.length
            · obtain ⟨pb, off, u3, rfl, hb, hcx0, hck0, hcu0, HU0, hrg⟩ := HGW.out.at hlt
              have hcu := (HB.out.cell (p := ⟨pb, off + k * 3 + 2, none⟩) hb).trans hcu0
              have HGO := Lib.hid (fun h => gate_off (ins := ins) hlt h)
              have HBJ := Lib.hid (HGB.out _ (show gs.getD k dG ∈ gs by simp [List.getD, hlt]))
              have HAK : Hid ((gs.getD k dG).2.2.all (fun x => decide (varC x ∈ ins ++ gv gs)) = true → ∀ j, j < k + 1 → (gs.getD j dG).2.2.all (fun x => decide (varC x ∈ ins ++ gv gs)) = true) := fun h j hj => by
                by_cases e : j = k
                · subst e; exact h
                · exact HAL.out j (by omega)
              have hk0 : (0 : Int) ≤ (k : Int) := by omega
              have hk1 : (k : Int) < (gs.length : Int) := by omega
              have hk2 : (k : Int) < 4000001 := by omega
              have hne2 : ¬ gs = [] := by intro e; rw [e] at hlt; simp at hlt
              have HKL := Lib.hid hlt
              have HU := Lib.hid (HU0.below HB.out (Nat.le_refl _))
              obtain ⟨ua, uc, rfl⟩ := HU0.shape
              clear hcx0 hck0 hcu0 HU0 hrg hlt hk
              obtain ⟨y, hy⟩ : ∃ y, gs.getD k dG = y := ⟨_, rfl⟩
              rw [hy] at hcu HGO HAK HBJ HU
              clear hy
              obtain ⟨y1, y2, y3⟩ := y
              simp only at hcu HGO HAK HBJ HU
              have HYL := Lib.hid HBJ.out.2.2.1
              go_wp2
              go_loop [9] (fun i2 => ∃ q : Nat, q ≤ y3.length ∧ i2 = .int .i64 q ∧ Hid ((y3.take q).all (fun x => decide (varC x ∈ ins ++ gv gs)) = true)) (fun i2 => y3.length - (intOf i2).toNat)
              case atStart => exact ⟨0, Nat.zero_le _, rfl, rfl⟩
              case round =>
                obtain ⟨q, hq, rfl, HAQ⟩ := hrel
                by_cases hlt : q < y3.length
                · obtain ⟨b2, off2, rfl, hb2, hc⟩ := HU.out.cellY hlt
                  have HTK : Hid (y3.take (q + 1) = y3.take q ++ [y3.getD q 0]) := by show _ = _; rw [List.take_succ_eq_append_getElem hlt]; simp [List.getD, hlt]
                  have hxm : y3.getD q 0 ∈ y3 := by simp [List.getD, hlt]
                  have HXM := Lib.hid hxm
                  have hxr := HBJ.out.2.2.2 _ hxm
                  have HQL := Lib.hid hlt
                  have hne3 : ¬ y3 = [] := by intro e; rw [e] at hlt; simp at hlt
                  have hq0 : (0 : Int) ≤ (q : Int) := by omega
                  have hq1 : (q : Int) < (y3.length : Int) := by omega
                  have hq2 : (q : Int) < 17592186044416 := by have := HYL.out; omega
                  clear hlt hxm
                  generalize y3.getD q 0 = x at *
                  have HKN := Lib.hid (known5_any w.heap.size w.heap.size _ x _ HM1.out hxr.1 hxr.2)
                  rw [known_mem HV1.out.2 hxr.1 hxr.2] at HKN
                  clear hxr
                  cases hvx : decide (varC x ∈ ins ++ gv gs) with
                  | true =>
                    rw [hvx] at HKN
                    have HAL2 : Hid ((y3.take (q + 1)).all (fun x => decide (varC x ∈ ins ++ gv gs)) = true) := by show _ = _; rw [HTK.out, List.all_append, HAQ.out]; simpa using hvx
                    clear hvx
                    go_wp2_with (go_at_call 46; refine HKN.out.mono ?_; rintro e w1 ⟨rfl, rfl⟩)
                    go_round
                    case rel => exact ⟨q + 1, HQL.out, by go_num, HAL2⟩
                    case measure => have := HQL.out; simp [intOf]; omega
                  | false =>
                    rw [hvx] at HKN
                    have HR : Hid (looseN ins gs = false) := HGO.out (by
                      unfold gIn
                      rw [Bool.and_eq_false_iff]
                      right
                      rw [List.all_eq_false]
                      exact ⟨x, HXM.out, by rw [hvx]; simp⟩)
                    clear hvx
                    go_wp2_with (go_at_call 46; refine HKN.out.mono ?_; rintro e w1 ⟨rfl, rfl⟩)
                    go_ret
                    exact ⟨ret_bool HR.out.symm, HB.out⟩
                · have HQ : Hid (q = y3.length) := by show _ = _; omega
                  have HA2 := Lib.hid (HAK.out (by have h1 := HAQ.out; rw [HQ.out, List.take_length] at h1; exact h1))
                  go_wp2
                  go_round
                  case rel => exact ⟨k + 1, HKL.out, by go_num, HA2⟩
                  case measure => have := HKL.out; simp [intOf]; omega
            · have HK : Hid (k = gs.length) := by show _ = _; omega
              have HR : Hid (looseN ins gs = true) := loose_all HV1.out HF1.out (fun j hj => HAL.out j (by have := HK.out; omega))
              go_wp2
              go_ret
              exact ⟨ret_bool HR.out.symm, HB.out⟩
end Go.Proofs.Ytldgdfchemjcmaa

/- The reference's Order (layer 5). -/
namespace Go.Proofs.Ytldgdfchemjcmaa
open Go.RowKit Go.Maps Go.Shelf
set_option linter.unusedVariables false
set_option linter.unusedSimpArgs false

/-- A slice of n bools of the call's own. -/
def Bt (w : World) (B b n : Nat) (f : Nat → Bool) : Prop := ∃ bs, OwnB w B (.slice (some ⟨b, 0, none⟩) n n) bs ∧ bs.length = n ∧ ∀ i : Nat, i < n → bs.getD i false = f i
theorem Bt.cell {w : World} {B b n : Nat} {f : Nat → Bool} (h : Bt w B b n f) {i : Nat} (hi : i < n) : w.cell? ⟨b, i, none⟩ = some (.bool (f i)) := by
  obtain ⟨bs, h1, h2, h3⟩ := h
  rw [h1.cell i (by omega), h3 i hi]
theorem Bt.frozen {w : World} {B b n : Nat} {f : Nat → Bool} (h : Bt w B b n f) (i : Nat) : w.frozen? ⟨b, i, none⟩ = false := by
  obtain ⟨bs, h1, _⟩ := h
  exact h1.frozen i
theorem Bt.set {w : World} {B b n : Nat} {f : Nat → Bool} (h : Bt w B b n f) (i : Nat) (hi : i < n) : Bt (w.setCell ⟨b, i, none⟩ (.bool true)) B b n (fun j => if j = i then true else f j) := by
  obtain ⟨bs, h1, h2, h3⟩ := h
  refine ⟨bs.set i true, h1.store i true, by rw [List.length_set, h2], fun j hj => ?_⟩
  show _ = if j = i then true else f j
  by_cases e : j = i
  · subst e
    rw [if_pos rfl]
    simp [List.getD, List.getElem?_set, h2, hj]
  · rw [if_neg e, ← h3 j hj]
    simp [List.getD, List.getElem?_set, Ne.symm e]
theorem Bt.kept {w w' : World} {B b n : Nat} {S : Nat → Prop} {f : Nat → Bool} (h : Bt w B b n f) (k : Kept S w w') (hS : ¬ S b) : Bt w' B b n f := by
  obtain ⟨bs, h1, h2, h3⟩ := h
  exact ⟨bs, k.row (show w.ownsRow B _ 1 _ _ _ from h1) (fun g hg e => hS (by have : g = b := by simpa [Value.ownBlock] using hg.symm
                                                                              subst this; exact e)), h2, h3⟩
theorem Bt.lt {w : World} {B b n : Nat} {f : Nat → Bool} (h : Bt w B b n f) : B ≤ b ∧ b < w.heap.size := by
  obtain ⟨bs, h1, _⟩ := h
  exact World.ownsRow.lt h1 b rfl
theorem Mk.keptB {w w' : World} {B b : Nat} {S : Nat → Prop} {f : Int → Bool} (h : Mk w B b f) (k : Kept S w w') (hS : ¬ S b) : Mk w' B b f := by
  obtain ⟨bs, h1, h2, h3⟩ := h
  exact ⟨bs, k.row (show w.ownsRow B _ 1 _ _ _ from h1) (fun g hg e => hS (by have : g = b := by simpa [Value.ownBlock] using hg.symm
                                                                              subst this; exact e)), h2, h3⟩
/-- On the way: T is taken. -/
structure ROst (w0 wr : World) (b b2 B : Nat) (ins : List Int) (gs : List Gt) (gk : Nat) (ov : Value) (T : List Nat) (t : List Tg) : Prop where
  row : RowG w0 wr B ov t
  sh : shapeG t = T.map (fun i => gs.getD i dG)
  mks : Mk wr w0.heap.size b (fun x => decide (x ∈ ins ++ vT gs T))
  bt : Bt wr w0.heap.size b2 gs.length (fun i => decide (i ∈ T))
  lay : b ≠ b2 ∧ b < B ∧ b2 < B ∧ w0.heap.size ≤ b ∧ w0.heap.size ≤ b2 ∧ B ≤ wr.heap.size
  nd : T.Nodup
  lt : ∀ i ∈ T, i < gs.length
  gk : gk = gs.length - T.length
  run : ∀ r, OrdR ins gs T r → OrdR ins gs [] (T ++ r)
theorem ROst.tl {w0 wr : World} {b b2 B : Nat} {ins : List Int} {gs : List Gt} {gk : Nat} {ov : Value} {T : List Nat} {t : List Tg} (s : ROst w0 wr b b2 B ins gs gk ov T t) : t.length = T.length := by
  have := congrArg List.length s.sh
  rwa [shapeG_len, List.length_map] at this
/-- The marks are set. -/
theorem ROst.marked {w0 wr : World} {b b2 B : Nat} {ins : List Int} {gs : List Gt} {gk : Nat} {ov : Value} {T : List Nat} {t : List Tg} (s : ROst w0 wr b b2 B ins gs gk ov T t) (i n : Nat) (hi : i < gs.length) (hn : (gs.getD i dG).1 = (n : Int)) (hnm : n < nM) :
    RowG w0 ((wr.setCell ⟨b2, i, none⟩ (.bool true)).setCell ⟨b, n, none⟩ (.bool true)) B ov t ∧ Mk ((wr.setCell ⟨b2, i, none⟩ (.bool true)).setCell ⟨b, n, none⟩ (.bool true)) w0.heap.size b (fun x => decide (x ∈ ins ++ vT gs (T ++ [i]))) ∧ Bt ((wr.setCell ⟨b2, i, none⟩ (.bool true)).setCell ⟨b, n, none⟩ (.bool true)) w0.heap.size b2 gs.length (fun j => decide (j ∈ T ++ [i])) ∧
      wr.frozen? ⟨b2, i, none⟩ = false ∧ (wr.setCell ⟨b2, i, none⟩ (.bool true)).frozen? ⟨b, n, none⟩ = false ∧ ((wr.setCell ⟨b2, i, none⟩ (.bool true)).setCell ⟨b, n, none⟩ (.bool true)).heap.size = wr.heap.size ∧ Kept (fun j => j = b ∨ j = b2) wr ((wr.setCell ⟨b2, i, none⟩ (.bool true)).setCell ⟨b, n, none⟩ (.bool true)) := by
  obtain ⟨l1, l2, l3, l4, l5, l6⟩ := s.lay
  have k1 := Kept.setCell wr ⟨b2, i, none⟩ (.bool true)
  have k2 := Kept.setCell (wr.setCell ⟨b2, i, none⟩ (.bool true)) ⟨b, n, none⟩ (.bool true)
  have hm1 := s.mks.keptB k1 (by simp; omega)
  have hm2 := mk_more hm1 n hnm
  have hb1 := s.bt.set i hi
  have hb2 := hb1.kept k2 (by simp; omega)
  have kk : Kept (fun j => j = b ∨ j = b2) wr ((wr.setCell ⟨b2, i, none⟩ (.bool true)).setCell ⟨b, n, none⟩ (.bool true)) := (k1.mono (fun k _ e => Or.inr e)).trans (k2.mono (fun k _ e => Or.inl e))
  refine ⟨s.row.keptS kk (fun g hg e => by omega) (fun g hg e => by omega), ?_, ?_, s.bt.frozen i, hm1.frozen n, by simp [World.setCell], kk⟩
  · rw [vT_snoc, hn, ← List.append_assoc]; exact hm2
  · have e : (fun j => decide (j ∈ T ++ [i])) = fun j => if j = i then true else decide (j ∈ T) := by
      funext j
      by_cases e : j = i
      · subst e; simp
      · rw [if_neg e]; simp [e]
    rw [e]; exact hb2
theorem gates_mem {gs : List Gt} {j : Nat} (h : j < gs.length) : gs.getD j dG ∈ gs := by simp [List.getD, h]
theorem row3_alloc {w : World} {B n : Nat} {e : TypeId} {v : Value} {xs : List Value} (h : w.ownsRow B e 3 v n xs) (o : Obj) : (w.alloc o).ownsRow B e 3 v n xs := (Kept.alloc (fun _ => False) w o).row h (fun _ _ h => h)
theorem rord_more {w wr wq w6 : World} {b b2 B : Nat} {ins : List Int} {gs : List Gt} {gk : Nat} {v v6 u : Value} {T : List Nat} {t : List Tg} {j n : Nat} {o : Obj} (s : ROst w wr b b2 B ins gs gk v T t) (hB : Below w.heap.size w wr) (hx : isNext ins gs T j) (hn : (gs.getD j dG).1 = (n : Int))
    (hrw : RowG w wq B v t) (hmk : Mk wq w.heap.size b (fun x => decide (x ∈ ins ++ vT gs (T ++ [j])))) (hbt : Bt wq w.heap.size b2 gs.length (fun i => decide (i ∈ T ++ [j]))) (hsz : wq.heap.size = wr.heap.size) (hkp : Kept (fun j => j = b ∨ j = b2) wr wq) (hu : IsInts w u (gs.getD j dG).2.2) (hy : gBd (gs.getD j dG))
    (h6 : w6.ownsRow B 71 3 v6 (t ++ [((n : Int), (gs.getD j dG).2.1, u, (gs.getD j dG).2.2)]).length (cellsG (t ++ [((n : Int), (gs.getD j dG).2.1, u, (gs.getD j dG).2.2)]))) (hg6 : (wq.alloc o).grownBy w6 v.ownBlock) :
    ROst w w6 b b2 B ins gs (gk - 1) v6 (T ++ [j]) (t ++ [((n : Int), (gs.getD j dG).2.1, u, (gs.getD j dG).2.2)]) ∧ Below w.heap.size w w6 := by
  obtain ⟨l1, l2, l3, l4, l5, l6⟩ := s.lay
  have hv : ∀ g, v.ownBlock = some g → B ≤ g := fun g hg => (rowG_lt hrw.row g hg).1
  have k6 : Kept (fun k => v.ownBlock = some k) wq w6 := ((Kept.alloc (fun k => v.ownBlock = some k) wq o)).trans (Kept.of_grown hg6)
  have hrow := hrw.more (s := [((n : Int), (gs.getD j dG).2.1, u, (gs.getD j dG).2.2)]) (by omega) ((Below.refl _ _).alloc (Nat.le_refl _) o) (fun x hx => by rw [List.mem_singleton] at hx; subst hx; exact .inr hu) (fun g hg => by
    simp [shapeG] at hg; subst hg
    rw [← hn]; exact hy) h6 hg6
  refine ⟨⟨hrow, ?_, hmk.keptB k6 (fun h => by have := hv b h; omega), hbt.kept k6 (fun h => by have := hv b2 h; omega), ⟨l1, l2, l3, l4, l5, by have := k6.size; omega⟩, ?_, fun i hi => ?_, ?_, fun r hr => ?_⟩, hrow.below⟩
  · rw [shapeG_app, s.sh, List.map_append]
    simp only [shapeG, List.map_cons, List.map_nil]
    rw [← hn]
  · rw [List.nodup_append]
    exact ⟨s.nd, by simp, fun a ha c hc e => by rw [List.mem_singleton] at hc; subst hc; subst e; exact hx.2.1 ha⟩
  · rcases List.mem_append.1 hi with h | h
    · exact s.lt i h
    · rw [List.mem_singleton] at h; subst h; exact hx.1
  · rw [s.gk, List.length_append]; simp; omega
  · rw [List.append_assoc]; exact s.run _ (.step hx hr)
/-- Looking for the next one. -/
def Seek (ins : List Int) (gs : List Gt) (T : List Nat) (k : Nat) (at' : Int) : Prop :=
  (at' = -1 ∧ ∀ j, j < k → j ∉ T → rdy ins gs T j = false) ∨ (∃ j : Nat, at' = (j : Int) ∧ isNext ins gs T j)

theorem seek_no {ins : List Int} {gs : List Gt} {T : List Nat} {k q : Nat} {m0 : Bool} {l : List Int} {p : Int → Bool} (hno : ∀ j, j < k → j ∉ T → rdy ins gs T j = false) (hm : decide (k ∈ T) = m0) (hr : false = (!m0 && (l.take q).all p)) (hrd : rdy ins gs T k = l.all p) : Seek ins gs T (k + 1) (-1) := by
  refine .inl ⟨rfl, fun j hj hT => ?_⟩
  by_cases e : j = k
  · subst e
    rw [decide_eq_false hT] at hm
    subst hm
    rw [Bool.not_false, Bool.true_and] at hr
    rw [hrd, Bool.eq_false_iff]
    intro h
    have : (l.take q).all p = true := List.all_eq_true.2 fun x hx => List.all_eq_true.1 h x (List.mem_of_mem_take hx)
    rw [this] at hr; cases hr
  · exact hno j (by omega) hT
theorem seek_yes {ins : List Int} {gs : List Gt} {T : List Nat} {k q : Nat} {m0 : Bool} {l : List Int} {p : Int → Bool} (hno : ∀ j, j < k → j ∉ T → rdy ins gs T j = false) (hm : decide (k ∈ T) = m0) (hr : true = (!m0 && (l.take q).all p)) (hrd : rdy ins gs T k = l.all p) (hq : l.length ≤ q) : k ∉ T ∧ rdy ins gs T k = true ∧ ∀ j, j < k → j ∉ T → rdy ins gs T j = false := by
  rw [List.take_of_length_le hq] at hr
  have h1 := hr.symm
  rw [Bool.and_eq_true] at h1
  refine ⟨?_, by rw [hrd]; exact h1.2, hno⟩
  intro h
  rw [decide_eq_true h] at hm
  subst hm
  cases h1.1
set_option maxHeartbeats 6400000 in
set_option maxRecDepth 100000 in
theorem rorder5_any (vi vg : Value) (ins : List Int) (gs : List Gt) (w : World) (HI : IsInts w vi ins) (HG : IsGates w vg gs) (hi : ins.length < 1000000) (hg : gs.length < 1000000) (hs : sizeG gs ≤ 4000000) :
    Calls Try.prog 27 #[vi, vg] w (OrderPost w ins gs) := by
  have HLS := Lib.hid (rloose5_any vi vg ins gs w HI HG hi hg)
  have HIW := Lib.hid HI
  have HGW := Lib.hid HG
  have HGB := Lib.hid HG.bd
  have HSL := Lib.hid hs
  have HGL := Lib.hid hg
  obtain ⟨ia, ic, rfl⟩ := HI.shape
  obtain ⟨ga, gc, rfl, _⟩ := HG.shape
  clear HI HG hs hi
  cases hl : looseN ins gs with
  | false =>
    rw [hl] at HLS
    have HL := Lib.hid hl
    clear hl
    go_enter Try.func27, Try.ntmps27
    go_wp2_with (go_at_call 66; refine HLS.out.mono ?_; rintro e w1 ⟨rfl, hb1⟩)
    go_ret2
    exact ⟨hb1, .inl ⟨HL.out, rfl⟩⟩
  | true =>
    rw [hl] at HLS
    have HL := Lib.hid hl
    clear hl
    go_enter Try.func27, Try.ntmps27
    go_wp2_with (go_at_call 66; refine HLS.out.mono ?_; rintro e w1 ⟨rfl, hb1⟩; have HB1 := Lib.hid hb1; clear hb1)
    go_loop [6, 7] (fun n i => ∃ k : Nat, k ≤ gs.length ∧ i = .int .i64 k ∧ n = .int .i64 (sizeG (gs.take k) : Int)) (fun _ i => gs.length - (intOf i).toNat)
    case atStart => exact ⟨0, Nat.zero_le _, rfl, rfl⟩
    case round =>
      obtain ⟨k, hk, rfl, rfl⟩ := hrel
      by_cases hlt : k < gs.length
      · obtain ⟨pb, off, u, rfl, hb, hcx0, hck0, hcu0, HU0, _⟩ := HGW.out.at hlt
        have hcu := (HB1.out.cell (p := ⟨pb, off + k * 3 + 2, none⟩) hb).trans hcu0
        have HST := Lib.hid (sizeG_take hlt)
        have hle1 : sizeG (gs.take (k + 1)) ≤ 4000000 := Nat.le_trans (sizeG_le gs _) HSL.out
        rw [HST.out] at hle1
        obtain ⟨ua, uc, rfl⟩ := HU0.shape
        have hk0 : (0 : Int) ≤ (k : Int) := by omega
        have hk1 : (k : Int) < (gs.length : Int) := by omega
        have hk2 : (k : Int) < 4000001 := by omega
        have hne2 : ¬ gs = [] := by intro e; rw [e] at hlt; simp at hlt
        have HKL := Lib.hid hlt
        clear hcx0 hck0 hcu0 HU0 hlt hk hg
        generalize gs.getD k dG = y at *
        obtain ⟨y1, y2, y3⟩ := y
        simp only at hcu HST hle1
        generalize sizeG (gs.take k) = s at *
        have hs0 : (0 : Int) ≤ (s : Int) + (y3.length : Int) := by omega
        have hs1 : (s : Int) + (y3.length : Int) < 9223372036854775808 := by omega
        clear hle1
        go_wp2
        go_round
        case rel => exact ⟨k + 1, HKL.out, by go_num, by rw [HST.out]; go_num⟩
        case measure => have := HKL.out; simp [intOf]; omega
      · obtain rfl : k = gs.length := by omega
        rw [List.take_length]
        by_cases hbig : 200000 < sizeG gs
        · have hbi : (200000 : Int) < (sizeG gs : Int) := by omega
          have HBG := Lib.hid hbig
          clear hbig
          obtain ⟨sz, hsz⟩ : ∃ sz, sizeG gs = sz := ⟨_, rfl⟩
          rw [hsz] at hbi ⊢
          go_wp2
          go_ret2
          exact ⟨HB1.out, .inr (.inl ⟨HL.out, HBG.out, rfl⟩)⟩
        · have hbi : ¬ ((200000 : Int) < (sizeG gs : Int)) := by omega
          have HBG : Hid (sizeG gs ≤ 200000) := by show _ ≤ _; omega
          clear hbig
          obtain ⟨sz, hsz⟩ : ∃ sz, sizeG gs = sz := ⟨_, rfl⟩
          rw [hsz] at hbi ⊢
          clear hsz
          have HLP := Lib.hid (loose_parts HL.out)
          have HMK := Lib.hid (marks5_any (.slice ia ins.length ic) ins w1 (HIW.out.below HB1.out (Nat.le_refl _)) (fun x hx => by have := HLP.out.1.2 x (by simp [hx]); omega))
          have hg44 : gs.length ≤ 17592186044416 := by omega
          go_wp2_with (first
            | (go_at_call 45; refine HMK.out.mono ?_; rintro e w2 ⟨b, rfl, hmk, hb2⟩; have HM2 := Lib.hid hmk; have HB2 := Lib.hid hb2; clear hmk hb2)
            | (refine wpList_mkBools2 rfl _ _ rfl gs.length (gs.length : Int) (gs.length : Int) rfl rfl rfl rfl hg44 ?_; intro w3 hown hg3; have HO3 := Lib.hid hown; have HG3 := Lib.hid hg3; clear hown hg3))
          have HB3 : Hid (Below w.heap.size w w3) := (HB1.out.trans (HB2.out.mono HB1.out.size)).grown HG3.out (Nat.le_trans HB1.out.size HB2.out.size) (fun k hk => by cases hk)
          have HST0 : Hid (ROst w w3 b w2.heap.size w3.heap.size ins gs gs.length (.slice none 0 0) [] []) := by
            have hb := HM2.out.lt
            have hz3 := HG3.out.size
            have hk3 : Kept (fun _ => False) w2 w3 := (Kept.of_grown HG3.out).mono (fun _ _ h => by cases h)
            have hz2 : w2.heap.size < w3.heap.size := (World.ownsRow.lt HO3.out _ rfl).2
            have hz1 := HB1.out.size
            refine ⟨RowG.nil HB3.out HB3.out.size, rfl, ?_, ⟨List.replicate gs.length false, ?_, by rw [List.length_replicate], fun i hi => by simp [List.getD, List.getElem?_replicate, hi]⟩, ⟨by omega, by omega, by omega, by omega, by omega, Nat.le_refl _⟩, by simp, by simp, by simp, fun r h => h⟩
            · have h1 := (HM2.out.keptB hk3 (fun h => h)).mono hz1
              simpa [vT] using h1
            · exact ownB_mono HO3.out (by omega)
          have HBW : Hid (w3.heap.size = w3.heap.size) := rfl
          clear HM2 HB2 HO3 HG3 HMK hbi hg44
          generalize w2.heap.size = b2 at *
          obtain ⟨B, hB⟩ : ∃ B, w3.heap.size = B := ⟨_, rfl⟩
          rw [hB] at HST0
          clear hB HBW
          clear hk hlt hg
          go_loopg [10] (gs.length) (fun gk ov wr => ∃ T t, ROst w wr b b2 B ins gs gk ov T t ∧ Below w.heap.size w wr)
          case atStart => exact ⟨[], [], HST0.out, HB3.out⟩
          case round =>
            clear HST0 HB3
            obtain ⟨T, t, hst, hbel⟩ := hrel
            have HS := Lib.hid hst
            have HB := Lib.hid hbel
            obtain ⟨ra, rc, rfl⟩ := hst.row.shape
            rw [hst.tl] at HS ⊢
            clear hst hbel
            by_cases hsh : T.length < gs.length
            · have hsi : (T.length : Int) < (gs.length : Int) := by omega
              have HSH := Lib.hid hsh
              clear hsh
              go_wp2
              go_loop [11, 12] (fun av iv => ∃ (k : Nat) (z : Int), k ≤ gs.length ∧ iv = .int .i64 k ∧ av = .int .i64 z ∧ Hid (Seek ins gs T k z)) (fun _ iv => gs.length - (intOf iv).toNat)
              case atStart => exact ⟨0, -1, Nat.zero_le _, rfl, rfl, .inl ⟨rfl, fun j h => absurd h (Nat.not_lt_zero _)⟩⟩
              case round =>
                obtain ⟨k, z, hk, rfl, rfl, HSK⟩ := hrel
                rcases HSK.out with ⟨rfl, hno⟩ | ⟨j, rfl, hnx⟩
                · have HNO := Lib.hid hno
                  have hz0 : (-1 : Int) < 0 := by decide
                  clear hno
                  by_cases hlt : k < gs.length
                  · obtain ⟨pb, off, u, rfl, hb, hcx0, hck0, hcu0, HU0, hrg⟩ := HGW.out.at hlt
                    have hcu := (HB.out.cell (p := ⟨pb, off + k * 3 + 2, none⟩) hb).trans hcu0
                    have hct := HS.out.bt.cell hlt
                    have HGJ := Lib.hid (HLP.out.2 _ (show gs.getD k dG ∈ gs by simp [List.getD, hlt]))
                    have HBJ := Lib.hid (HGB.out _ (show gs.getD k dG ∈ gs by simp [List.getD, hlt]))
                    have HU := Lib.hid (HU0.below HB.out (Nat.le_refl _))
                    obtain ⟨ua, uc, rfl⟩ := HU0.shape
                    have hk0 : (0 : Int) ≤ (k : Int) := by omega
                    have hk1 : (k : Int) < (gs.length : Int) := by omega
                    have hk2 : (k : Int) < 4000001 := by have := HGL.out; omega
                    have hne2 : ¬ gs = [] := by intro e; rw [e] at hlt; simp at hlt
                    have HKL := Lib.hid hlt
                    have HRD : Hid (rdy ins gs T k = (gs.getD k dG).2.2.all (fun x => decide (varC x ∈ ins ++ vT gs T))) := rfl
                    obtain ⟨y, hy⟩ : ∃ y, gs.getD k dG = y := ⟨_, rfl⟩
                    rw [hy] at hcu HGJ HBJ HU HRD
                    clear hcx0 hck0 hcu0 HU0 hrg hlt hk hb hy
                    obtain ⟨y1, y2, y3⟩ := y
                    simp only at hcu HGJ HBJ HU HRD
                    have HYL := Lib.hid HBJ.out.2.2.1
                    obtain ⟨m0, hm0⟩ : ∃ m0, decide (k ∈ T) = m0 := ⟨_, rfl⟩
                    rw [hm0] at hct
                    have HM0 := Lib.hid hm0
                    clear hm0
                    go_wp2
                    go_loop [13, 14] (fun rv qv => ∃ (q : Nat) (r : Bool), q ≤ y3.length ∧ qv = .int .i64 q ∧ rv = .bool r ∧ Hid (r = (!m0 && (y3.take q).all (fun x => decide (varC x ∈ ins ++ vT gs T))))) (fun _ qv => y3.length - (intOf qv).toNat)
                    case atStart => exact ⟨0, !m0, Nat.zero_le _, rfl, rfl, by show _ = _; simp⟩
                    case round =>
                      obtain ⟨q, r, hq, rfl, rfl, HQR⟩ := hrel
                      by_cases hlt : q < y3.length
                      · have HQL := Lib.hid hlt
                        cases r with
                        | true =>
                          obtain ⟨b3, off3, rfl, hb3, hc⟩ := HU.out.cellY hlt
                          have HTK : Hid (y3.take (q + 1) = y3.take q ++ [y3.getD q 0]) := by show _ = _; rw [List.take_succ_eq_append_getElem hlt]; simp [List.getD, hlt]
                          have hxm : y3.getD q 0 ∈ y3 := by simp [List.getD, hlt]
                          have hxr := HBJ.out.2.2.2 _ hxm
                          have hxv : 1 ≤ varC (y3.getD q 0) ∧ varC (y3.getD q 0) ≤ 65536 := by
                            have h1 := HGJ.out
                            unfold gIn at h1
                            rw [Bool.and_eq_true] at h1
                            have h2 := List.all_eq_true.1 h1.2 _ hxm
                            exact HLP.out.1.2 _ (by simpa using h2)
                          have hne3 : ¬ y3 = [] := by intro e; rw [e] at hlt; simp at hlt
                          have hq0 : (0 : Int) ≤ (q : Int) := by omega
                          have hq1 : (q : Int) < (y3.length : Int) := by omega
                          have hq2 : (q : Int) < 17592186044416 := by have := HYL.out; omega
                          have HAB := Lib.hid (abs5_any (y3.getD q 0) wr hxr.1 hxr.2)
                          rw [abs5_var (by omega)] at HAB
                          obtain ⟨n, hn⟩ := Int.eq_ofNat_of_zero_le (show 0 ≤ varC (y3.getD q 0) by omega)
                          rw [hn] at HAB hxv
                          have hnm : n < nM := by rw [nM_eq]; omega
                          have hn0 : (0 : Int) ≤ (n : Int) := by omega
                          have hn1 : (n : Int) < (nM : Int) := by omega
                          have mc := HS.out.mks.cell hnm
                          have HNV := Lib.hid hn
                          clear hlt hxm hxr hxv hq hn
                          generalize y3.getD q 0 = x at *
                          obtain ⟨r2, hr2⟩ : ∃ r2, decide ((n : Int) ∈ ins ++ vT gs T) = r2 := ⟨_, rfl⟩
                          rw [hr2] at mc
                          have HQ2 : Hid (r2 = (!m0 && (y3.take (q + 1)).all (fun x => decide (varC x ∈ ins ++ vT gs T)))) := by
                            show _ = _
                            rw [HTK.out, List.all_append, ← Bool.and_assoc, ← HQR.out, ← hr2, ← HNV.out]
                            simp
                          clear hr2
                          go_wp2_with (go_at_call 38; refine HAB.out.mono ?_; rintro e w4 ⟨rfl, rfl⟩)
                          go_round
                          case rel => exact ⟨q + 1, r2, HQL.out, by go_num, rfl, HQ2.out⟩
                          case measure => have := HQL.out; simp [intOf]; omega
                        | false =>
                          have HSN := Lib.hid (seek_no HNO.out HM0.out HQR.out HRD.out)
                          go_wp2
                          go_round
                          case rel => exact ⟨k + 1, -1, HKL.out, by go_num, rfl, HSN.out⟩
                          case measure => have := HKL.out; simp [intOf]; omega
                      · cases r with
                        | true =>
                          have HSY : Hid (Seek ins gs T (k + 1) (k : Int)) := .inr ⟨k, rfl, HKL.out, seek_yes HNO.out HM0.out HQR.out HRD.out (by omega)⟩
                          go_wp2
                          go_round
                          case rel => exact ⟨k + 1, k, HKL.out, by go_num, rfl, HSY.out⟩
                          case measure => have := HKL.out; simp [intOf]; omega
                        | false =>
                          have HSN := Lib.hid (seek_no HNO.out HM0.out HQR.out HRD.out)
                          go_wp2
                          go_round
                          case rel => exact ⟨k + 1, -1, HKL.out, by go_num, rfl, HSN.out⟩
                          case measure => have := HKL.out; simp [intOf]; omega
                  · have HNN : Hid (noNext ins gs T) := fun i hi hT => HNO.out i (by omega) hT
                    go_wp2
                    go_ret2
                    exact ⟨HB.out, .inr (.inr ⟨HL.out, HBG.out, T, by have := HS.out.run [] (.done HNN.out); rwa [List.append_nil] at this, HS.out.nd, HS.out.lt, .inl ⟨HSH.out, rfl⟩⟩)⟩
                · have HNX := Lib.hid hnx
                  clear hnx
                  by_cases hlt : k < gs.length
                  · have hk0 : (0 : Int) ≤ (k : Int) := by omega
                    have hk1 : (k : Int) < (gs.length : Int) := by omega
                    clear hlt hk
                    obtain ⟨pb, off, u, rfl, hb, hcx0, hck0, hcu0, HU0, hrg⟩ := HGW.out.at HNX.out.1
                    have HY := Lib.hid (HGB.out _ (gates_mem HNX.out.1))
                    have hyv := HLP.out.1.2 (gs.getD j dG).1 (List.mem_append.2 (Or.inr (gv_mem HNX.out.1)))
                    obtain ⟨n, hn⟩ := Int.eq_ofNat_of_zero_le (show 0 ≤ (gs.getD j dG).1 by omega)
                    have hnm : n < nM := by rw [nM_eq]; omega
                    have hn0 : (0 : Int) ≤ (n : Int) := by omega
                    have hn1 : (n : Int) < (nM : Int) := by omega
                    obtain ⟨hrw, hmk, hbt, f1, f2, hsz, hkp⟩ := HS.out.marked j n HNX.out.1 hn hnm
                    have HRW := Lib.hid hrw
                    have HMK2 := Lib.hid hmk
                    have HBT := Lib.hid hbt
                    have HKP := Lib.hid hkp
                    have HSZ2 := Lib.hid hsz
                    have HNJ := Lib.hid hn
                    have hlay := HS.out.lay
                    have hwz := HB.out.size
                    have k1 := Kept.setCell wr ⟨b2, j, none⟩ (.bool true)
                    have cw : ∀ (q : Nat) (x : Value), w.cell? ⟨pb, q, none⟩ = some x → wr.cell? ⟨pb, q, none⟩ = some x ∧ (wr.setCell ⟨b2, j, none⟩ (.bool true)).cell? ⟨pb, q, none⟩ = some x ∧ ((wr.setCell ⟨b2, j, none⟩ (.bool true)).setCell ⟨b, n, none⟩ (.bool true)).cell? ⟨pb, q, none⟩ = some x := fun q x h => by
                      have h1 := (HB.out.cell (p := ⟨pb, q, none⟩) hb).trans h
                      exact ⟨h1, (k1.cell (p := ⟨pb, q, none⟩) (by show pb < _; omega) (by show ¬ pb = b2; omega)).trans h1, (hkp.cell (p := ⟨pb, q, none⟩) (by show pb < _; omega) (by show ¬ (pb = b ∨ pb = b2); omega)).trans h1⟩
                    rw [hn] at hcx0
                    have g1 := HS.out.bt.cell HNX.out.1
                    have g2 := (k1.cell (p := ⟨b, n, none⟩) (HS.out.mks.lt.2) (by show ¬ b = b2; omega)).trans (HS.out.mks.cell hnm)
                    generalize decide (j ∈ T) = e1 at g1
                    generalize decide ((n : Int) ∈ ins ++ vT gs T) = e2 at g2
                    obtain ⟨x0, x1, x2⟩ := cw _ _ hcx0
                    obtain ⟨p0, p1, p2⟩ := cw _ _ hck0
                    obtain ⟨q0, q1, q2⟩ := cw _ _ hcu0
                    have hj0 : (0 : Int) ≤ (j : Int) := by omega
                    have hj1 : (j : Int) < (gs.length : Int) := by have := HNX.out.1; omega
                    have hneg : ¬ ((j : Int) < 0) := by omega
                    have hne4 : ¬ gs = [] := by intro e; have := HNX.out.1; rw [e] at this; simp at this
                    obtain ⟨ua, uc, rfl⟩ := HU0.shape
                    have HMORE : Hid (∀ v6 w6, w6.ownsRow B 71 3 v6 (t ++ [((n : Int), (gs.getD j dG).2.1, Value.slice ua (gs.getD j dG).2.2.length uc, (gs.getD j dG).2.2)]).length (cellsG (t ++ [((n : Int), (gs.getD j dG).2.1, Value.slice ua (gs.getD j dG).2.2.length uc, (gs.getD j dG).2.2)])) → (((wr.setCell ⟨b2, j, none⟩ (.bool true)).setCell ⟨b, n, none⟩ (.bool true)).alloc (.cells #[.int .i64 (n : Int), .int .u8 (gs.getD j dG).2.1, .slice ua (gs.getD j dG).2.2.length uc] 71)).grownBy w6 (Value.slice ra T.length rc).ownBlock →
                        ROst w w6 b b2 B ins gs (gk - 1) v6 (T ++ [j]) (t ++ [((n : Int), (gs.getD j dG).2.1, Value.slice ua (gs.getD j dG).2.2.length uc, (gs.getD j dG).2.2)]) ∧ Below w.heap.size w w6) := fun v6 w6 h6 hg6 => rord_more HS.out HB.out HNX.out hn HRW.out HMK2.out HBT.out HSZ2.out HKP.out HU0 HY.out h6 hg6
                    have HGK := Lib.hid HS.out.gk
                    have HTL := Lib.hid HS.out.tl
                    have HCF : Hid (∀ (i : Nat) (x : Value), (#[.int .i64 (n : Int), .int .u8 (gs.getD j dG).2.1, .slice ua (gs.getD j dG).2.2.length uc] : Array Value)[i]? = some x → (((wr.setCell ⟨b2, j, none⟩ (.bool true)).setCell ⟨b, n, none⟩ (.bool true)).alloc (.cells #[.int .i64 (n : Int), .int .u8 (gs.getD j dG).2.1, .slice ua (gs.getD j dG).2.2.length uc] 71)).cell? ⟨wr.heap.size, i, none⟩ = some x) := fun i x h => by rw [← HSZ2.out]; exact cell_fresh h
                    have HBZ : Hid (B ≤ (((wr.setCell ⟨b2, j, none⟩ (.bool true)).setCell ⟨b, n, none⟩ (.bool true)).alloc (.cells #[.int .i64 (n : Int), .int .u8 (gs.getD j dG).2.1, .slice ua (gs.getD j dG).2.2.length uc] 71)).heap.size) := by show _ ≤ _; rw [World.size_alloc, HSZ2.out]; have := HS.out.lay; omega
                    have HRO := Lib.hid HRW.out.row
                    have HTG : Hid (t.length < 1000000) := by have := HS.out.tl; have := HGL.out; have := HSH.out; show _ < _; omega
                    have hrl : Hid (B ≤ wr.heap.size) := hlay.2.2.2.2.2
                    clear hcx0 hck0 hcu0 HU0 hrg hb hyv hrw hmk hbt hkp k1 cw hn hsz hlay hwz HRW HMK2 HBT HKP
                    generalize (gs.getD j dG).2.1 = y2 at *
                    generalize (gs.getD j dG).2.2 = y3 at *
                    go_wp2_with (at_builtin; go_loud (refine wpList_appGate rfl (.tmp 99) (.tmp 104) rfl B (.slice ra T.length rc) t ((n : Int), y2, .slice ua y3.length uc, y3) wr.heap.size rfl rfl (row3_alloc HRO.out _) (HCF.out 0 _ rfl) (HCF.out 1 _ rfl) (HCF.out 2 _ rfl) rfl HTG.out HBZ.out ?_; intro v6 w6 h6 hg6; have HM6 := Lib.hid (HMORE.out v6 w6 h6 hg6); clear h6 hg6))
                    go_roundg (gk - 1)
                    case measure => have := HGK.out; have := HSH.out; omega
                    case rel => exact ⟨_, _, HM6.out.1, HM6.out.2⟩
                  · clear hk
                    obtain ⟨pb, off, u, rfl, hb, hcx0, hck0, hcu0, HU0, hrg⟩ := HGW.out.at HNX.out.1
                    have HY := Lib.hid (HGB.out _ (gates_mem HNX.out.1))
                    have hyv := HLP.out.1.2 (gs.getD j dG).1 (List.mem_append.2 (Or.inr (gv_mem HNX.out.1)))
                    obtain ⟨n, hn⟩ := Int.eq_ofNat_of_zero_le (show 0 ≤ (gs.getD j dG).1 by omega)
                    have hnm : n < nM := by rw [nM_eq]; omega
                    have hn0 : (0 : Int) ≤ (n : Int) := by omega
                    have hn1 : (n : Int) < (nM : Int) := by omega
                    obtain ⟨hrw, hmk, hbt, f1, f2, hsz, hkp⟩ := HS.out.marked j n HNX.out.1 hn hnm
                    have HRW := Lib.hid hrw
                    have HMK2 := Lib.hid hmk
                    have HBT := Lib.hid hbt
                    have HKP := Lib.hid hkp
                    have HSZ2 := Lib.hid hsz
                    have HNJ := Lib.hid hn
                    have hlay := HS.out.lay
                    have hwz := HB.out.size
                    have k1 := Kept.setCell wr ⟨b2, j, none⟩ (.bool true)
                    have cw : ∀ (q : Nat) (x : Value), w.cell? ⟨pb, q, none⟩ = some x → wr.cell? ⟨pb, q, none⟩ = some x ∧ (wr.setCell ⟨b2, j, none⟩ (.bool true)).cell? ⟨pb, q, none⟩ = some x ∧ ((wr.setCell ⟨b2, j, none⟩ (.bool true)).setCell ⟨b, n, none⟩ (.bool true)).cell? ⟨pb, q, none⟩ = some x := fun q x h => by
                      have h1 := (HB.out.cell (p := ⟨pb, q, none⟩) hb).trans h
                      exact ⟨h1, (k1.cell (p := ⟨pb, q, none⟩) (by show pb < _; omega) (by show ¬ pb = b2; omega)).trans h1, (hkp.cell (p := ⟨pb, q, none⟩) (by show pb < _; omega) (by show ¬ (pb = b ∨ pb = b2); omega)).trans h1⟩
                    rw [hn] at hcx0
                    have g1 := HS.out.bt.cell HNX.out.1
                    have g2 := (k1.cell (p := ⟨b, n, none⟩) (HS.out.mks.lt.2) (by show ¬ b = b2; omega)).trans (HS.out.mks.cell hnm)
                    generalize decide (j ∈ T) = e1 at g1
                    generalize decide ((n : Int) ∈ ins ++ vT gs T) = e2 at g2
                    obtain ⟨x0, x1, x2⟩ := cw _ _ hcx0
                    obtain ⟨p0, p1, p2⟩ := cw _ _ hck0
                    obtain ⟨q0, q1, q2⟩ := cw _ _ hcu0
                    have hj0 : (0 : Int) ≤ (j : Int) := by omega
                    have hj1 : (j : Int) < (gs.length : Int) := by have := HNX.out.1; omega
                    have hneg : ¬ ((j : Int) < 0) := by omega
                    have hne4 : ¬ gs = [] := by intro e; have := HNX.out.1; rw [e] at this; simp at this
                    obtain ⟨ua, uc, rfl⟩ := HU0.shape
                    have HMORE : Hid (∀ v6 w6, w6.ownsRow B 71 3 v6 (t ++ [((n : Int), (gs.getD j dG).2.1, Value.slice ua (gs.getD j dG).2.2.length uc, (gs.getD j dG).2.2)]).length (cellsG (t ++ [((n : Int), (gs.getD j dG).2.1, Value.slice ua (gs.getD j dG).2.2.length uc, (gs.getD j dG).2.2)])) → (((wr.setCell ⟨b2, j, none⟩ (.bool true)).setCell ⟨b, n, none⟩ (.bool true)).alloc (.cells #[.int .i64 (n : Int), .int .u8 (gs.getD j dG).2.1, .slice ua (gs.getD j dG).2.2.length uc] 71)).grownBy w6 (Value.slice ra T.length rc).ownBlock →
                        ROst w w6 b b2 B ins gs (gk - 1) v6 (T ++ [j]) (t ++ [((n : Int), (gs.getD j dG).2.1, Value.slice ua (gs.getD j dG).2.2.length uc, (gs.getD j dG).2.2)]) ∧ Below w.heap.size w w6) := fun v6 w6 h6 hg6 => rord_more HS.out HB.out HNX.out hn HRW.out HMK2.out HBT.out HSZ2.out HKP.out HU0 HY.out h6 hg6
                    have HGK := Lib.hid HS.out.gk
                    have HTL := Lib.hid HS.out.tl
                    have HCF : Hid (∀ (i : Nat) (x : Value), (#[.int .i64 (n : Int), .int .u8 (gs.getD j dG).2.1, .slice ua (gs.getD j dG).2.2.length uc] : Array Value)[i]? = some x → (((wr.setCell ⟨b2, j, none⟩ (.bool true)).setCell ⟨b, n, none⟩ (.bool true)).alloc (.cells #[.int .i64 (n : Int), .int .u8 (gs.getD j dG).2.1, .slice ua (gs.getD j dG).2.2.length uc] 71)).cell? ⟨wr.heap.size, i, none⟩ = some x) := fun i x h => by rw [← HSZ2.out]; exact cell_fresh h
                    have HBZ : Hid (B ≤ (((wr.setCell ⟨b2, j, none⟩ (.bool true)).setCell ⟨b, n, none⟩ (.bool true)).alloc (.cells #[.int .i64 (n : Int), .int .u8 (gs.getD j dG).2.1, .slice ua (gs.getD j dG).2.2.length uc] 71)).heap.size) := by show _ ≤ _; rw [World.size_alloc, HSZ2.out]; have := HS.out.lay; omega
                    have HRO := Lib.hid HRW.out.row
                    have HTG : Hid (t.length < 1000000) := by have := HS.out.tl; have := HGL.out; have := HSH.out; show _ < _; omega
                    have hrl : Hid (B ≤ wr.heap.size) := hlay.2.2.2.2.2
                    clear hcx0 hck0 hcu0 HU0 hrg hb hyv hrw hmk hbt hkp k1 cw hn hsz hlay hwz HRW HMK2 HBT HKP
                    generalize (gs.getD j dG).2.1 = y2 at *
                    generalize (gs.getD j dG).2.2 = y3 at *
                    go_wp2_with (at_builtin; go_loud (refine wpList_appGate rfl (.tmp 99) (.tmp 104) rfl B (.slice ra T.length rc) t ((n : Int), y2, .slice ua y3.length uc, y3) wr.heap.size rfl rfl (row3_alloc HRO.out _) (HCF.out 0 _ rfl) (HCF.out 1 _ rfl) (HCF.out 2 _ rfl) rfl HTG.out HBZ.out ?_; intro v6 w6 h6 hg6; have HM6 := Lib.hid (HMORE.out v6 w6 h6 hg6); clear h6 hg6))
                    go_roundg (gk - 1)
                    case measure => have := HGK.out; have := HSH.out; omega
                    case rel => exact ⟨_, _, HM6.out.1, HM6.out.2⟩
            · have hsi : ¬ ((T.length : Int) < (gs.length : Int)) := by omega
              have hle := order_len HS.out.nd HS.out.lt
              have HEQ : Hid (T.length = gs.length) := by show _ = _; omega
              have HNN := Lib.hid (noNext_full (ins := ins) HS.out.nd HS.out.lt (by omega))
              have hlay := HS.out.lay
              have HRR := Lib.hid (HS.out.row.mono (show w.heap.size ≤ B by omega) (Nat.le_refl _))
              clear hlay hle
              go_wp2
              go_ret2
              exact ⟨HB.out, .inr (.inr ⟨HL.out, HBG.out, T, by have := HS.out.run [] (.done HNN.out); rwa [List.append_nil] at this, HS.out.nd, HS.out.lt, .inr ⟨HEQ.out, _, t, rfl, HRR.out, HS.out.sh⟩⟩)⟩
end Go.Proofs.Ytldgdfchemjcmaa

/- The law CircOrders, walked. -/
namespace Go.Proofs.Ytldgdfchemjcmaa
open Go.RowKit Go.Maps Go.Shelf
set_option linter.unusedVariables false
set_option linter.unusedSimpArgs false

/-- The gates in order, and the error. -/
def OrdOut (ins : List Int) (gs L : List Gt) (c : Int) : Prop :=
  (looseN ins gs = false ∧ L = [] ∧ c = 2) ∨ (looseN ins gs = true ∧ 200000 < sizeG gs ∧ L = [] ∧ c = 3) ∨ (looseN ins gs = true ∧ sizeG gs ≤ 200000 ∧ ∃ T, OrdR ins gs [] T ∧ ((T.length < gs.length ∧ L = [] ∧ c = 50) ∨ (T.length = gs.length ∧ L = T.map (fun i => gs.getD i dG) ∧ c = 0)))
theorem ordOut_one {ins : List Int} {gs L L' : List Gt} {c c' : Int} (h : OrdOut ins gs L c) (k : OrdOut ins gs L' c') : L = L' ∧ c = c' := by
  rcases h with ⟨h1, rfl, rfl⟩ | ⟨h1, h2, rfl, rfl⟩ | ⟨h1, h2, T, hT, h3⟩
  · rcases k with ⟨_, rfl, rfl⟩ | ⟨k1, _⟩ | ⟨k1, _⟩
    · exact ⟨rfl, rfl⟩
    · rw [h1] at k1; cases k1
    · rw [h1] at k1; cases k1
  · rcases k with ⟨k1, _⟩ | ⟨_, _, rfl, rfl⟩ | ⟨_, k2, _⟩
    · rw [h1] at k1; cases k1
    · exact ⟨rfl, rfl⟩
    · omega
  · rcases k with ⟨k1, _⟩ | ⟨_, k2, _⟩ | ⟨_, _, T', hT', k3⟩
    · rw [h1] at k1; cases k1
    · omega
    · obtain rfl := ordR_one hT _ hT'
      rcases h3 with ⟨a1, rfl, rfl⟩ | ⟨a1, rfl, rfl⟩
      · rcases k3 with ⟨_, rfl, rfl⟩ | ⟨b1, _⟩
        · exact ⟨rfl, rfl⟩
        · omega
      · rcases k3 with ⟨b1, _⟩ | ⟨_, rfl, rfl⟩
        · omega
        · exact ⟨rfl, rfl⟩
theorem order_out {w w' : World} {ins : List Int} {gs : List Gt} {e : Ending} (h : OrderPost w ins gs e w') (hg : gs.length < 1000000) : ∃ v c L, e = .returned (.tuple #[v, .int .i64 c]) ∧ IsGates w' v L ∧ OrdOut ins gs L c ∧ Below w.heap.size w w' := by
  obtain ⟨hb, ⟨h1, rfl⟩ | ⟨h1, h2, rfl⟩ | ⟨h1, h2, T, hT, hnd, hlt, h3⟩⟩ := h
  · exact ⟨_, _, [], rfl, IsGates.nil _, .inl ⟨h1, rfl, rfl⟩, hb⟩
  · exact ⟨_, _, [], rfl, IsGates.nil _, .inr (.inl ⟨h1, h2, rfl, rfl⟩), hb⟩
  · rcases h3 with ⟨a1, rfl⟩ | ⟨a1, v, t, rfl, hrow, hsh⟩
    · exact ⟨_, _, [], rfl, IsGates.nil _, .inr (.inr ⟨h1, h2, T, hT, .inl ⟨a1, rfl, rfl⟩⟩), hb⟩
    · have htl : t.length = T.length := by
        have := congrArg List.length hsh
        rwa [shapeG_len, List.length_map] at this
      exact ⟨v, 0, shapeG t, rfl, hrow.gates (by omega), .inr (.inr ⟨h1, h2, T, hT, .inr ⟨a1, hsh, rfl⟩⟩), hb⟩

set_option maxHeartbeats 3200000 in
set_option maxRecDepth 100000 in
theorem circorders_any (vi vg : Value) (ins : List Int) (gs : List Gt) (w : World) (HI : IsInts w vi ins) (HG : IsGates w vg gs) (hg : gs.length < 1000000) (hs : sizeG gs ≤ 4000000) :
    Calls Try.prog 5 #[vi, vg] w fun e w' => e = .returned (.bool true) ∧ Below w.heap.size w w' := by
  have H1 := Lib.hid (many5_any vg gs w HG hs hg)
  have HIW := Lib.hid HI
  have HGW := Lib.hid HG
  obtain ⟨ia, ic, rfl⟩ := HI.shape
  obtain ⟨ga, gc, rfl, _⟩ := HG.shape
  clear HI HG
  by_cases h5 : (5000 : Int) < (ins.length : Int)
  · clear H1
    go_enter Try.func5, Try.ntmps5
    go_wp2_with (go_at_call 12; refine (works_any _).mono ?_; rintro e w2 ⟨rfl, hb2⟩)
    go_ret
    exact ⟨rfl, hb2⟩
  · have h5b : decide ((5000 : Int) < (ins.length : Int)) = false := by simpa using h5
    have HIL : Hid (ins.length < 1000000) := by show _ < _; omega
    clear h5
    cases hm : manyG gs with
    | true =>
      rw [hm] at H1
      clear hm
      go_enter Try.func5, Try.ntmps5
      go_wp2_with (first
        | (go_at_call 25; refine H1.out.mono ?_; rintro e w1 ⟨rfl, hb1⟩)
        | (go_at_call 12; refine (works_any _).mono ?_; rintro e w2 ⟨rfl, hb2⟩))
      go_ret
      exact ⟨rfl, hb1.trans (hb2.mono hb1.size)⟩
    | false =>
      rw [hm] at H1
      clear hm
      have H2 : Hid (∀ X, Below w.heap.size w X → Calls Try.prog 26 #[.slice ia ins.length ic, .slice ga gs.length gc] X fun e w' => ∃ v c L, e = .returned (.tuple #[v, .int .i64 c]) ∧ IsGates w' v L ∧ OrdOut ins gs L c ∧ Below X.heap.size X w') := fun X hX => (corder_any _ _ ins gs X (HIW.out.below hX (Nat.le_refl _)) (HGW.out.below hX (Nat.le_refl _)) HIL.out hg hs).mono (fun e w' h => order_out h hg)
      have H3 : Hid (∀ X, Below w.heap.size w X → Calls Try.prog 27 #[.slice ia ins.length ic, .slice ga gs.length gc] X fun e w' => ∃ v c L, e = .returned (.tuple #[v, .int .i64 c]) ∧ IsGates w' v L ∧ OrdOut ins gs L c ∧ Below X.heap.size X w') := fun X hX => (rorder5_any _ _ ins gs X (HIW.out.below hX (Nat.le_refl _)) (HGW.out.below hX (Nat.le_refl _)) HIL.out hg hs).mono (fun e w' h => order_out h hg)
      clear hg hs
      go_enter Try.func5, Try.ntmps5
      go_wp2_with (first
        | (go_at_call 25; refine H1.out.mono ?_; rintro e w1 ⟨rfl, hb1⟩; have HB1 := Lib.hid hb1; clear hb1)
        | (go_at_call 26; refine (H2.out w1 HB1.out).mono ?_; rintro e w2 ⟨v2, c2, L2, rfl, hg2, ho2, hb2⟩; have HB2 := Lib.hid (HB1.out.trans (hb2.mono HB1.out.size)); have HG2 := Lib.hid hg2; have HO2 := Lib.hid ho2; clear hb2 hg2 ho2)
        | (go_at_call 27; refine (H3.out w2 HB2.out).mono ?_; rintro e w3 ⟨v3, c3, L3, rfl, hg3, ho3, hb3⟩; obtain ⟨rfl, rfl⟩ := ordOut_one HO2.out ho3; have HB3 := Lib.hid (HB2.out.trans (hb3.mono HB2.out.size)); have HS3 := Lib.hid (rsameg5_any v2 v3 L2 L2 w3 (HG2.out.below hb3 (Nat.le_refl _)) hg3); rw [show sameB L2 L2 = true from by simp [sameB]] at HS3; clear hb3 hg3 ho3)
        | (go_at_call 28; refine HS3.out.mono ?_; rintro e w4 ⟨rfl, hq4⟩; have HB4 := Lib.hid (HB3.out.trans (hq4.below _)); clear hq4)
        | (go_at_call 12; refine (works_any _).mono ?_; rintro e w5 ⟨rfl, hb5⟩; have HB5 := Lib.hid (HB4.out.trans (hb5.mono HB4.out.size)); clear hb5))
      go_ret
      exact ⟨rfl, HB5.out⟩
end Go.Proofs.Ytldgdfchemjcmaa
