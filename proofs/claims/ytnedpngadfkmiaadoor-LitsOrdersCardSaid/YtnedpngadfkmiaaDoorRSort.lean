/- The reference's Sort. -/
import Derived.Test.YtnedpngadfkmiaaDoorSort
import Derived.Test.YtnedpngadfkmiaaDoorSubR
namespace Go.Proofs.YtnedpngadfkmiaaDoor
open Go.RowKit
set_option linter.unusedVariables false

theorem insX_len (l : List (List Int)) (x : List Int) : (insX l x).length ≤ l.length + 1 := by
  induction l with
  | nil => simp [insX]
  | cons y r ih =>
    unfold insX
    split
    · simp only [List.length_cons]; omega
    · split <;> simp
theorem foldl_insX_len (l acc : List (List Int)) : (l.foldl insX acc).length ≤ acc.length + l.length := by
  induction l generalizing acc with
  | nil => simp
  | cons y r ih =>
    have h1 := ih (insX acc y)
    have h2 := insX_len acc y
    simp only [List.foldl_cons, List.length_cons]; omega
theorem foldlX_take {f : List (List Int)} {k : Nat} (h : k < f.length) : (f.take (k + 1)).foldl insX [] = insX ((f.take k).foldl insX []) (f.getD k []) := by
  rw [rows_take_succ h, List.foldl_append]; rfl

theorem OwnR.shape {w : World} {B : Nat} {v : Value} {us : List Value} (h : OwnR w B v us) : (v = .slice none 0 0 ∧ us = []) ∨ ∃ g c, v = .slice (some ⟨g, 0, none⟩) us.length c ∧ us.length ≤ c ∧ c ≤ 9223372036854775807 := by
  rcases h.2 with ⟨rfl, h2⟩ | ⟨g, cap, cur, rfl, hB, hg, hnc, hcm, _, _⟩
  · exact .inl ⟨rfl, List.eq_nil_of_length_eq_zero h2⟩
  · unfold maxLen at hcm
    exact .inr ⟨g, cap, rfl, hnc, hcm⟩
/-- 'int slice literal of nothing'. -/
theorem Own.built {w : World} {B : Nat} (hB : B ≤ w.heap.size) : Own (w.alloc (.cells #[] 3)) B (.slice (some ⟨w.heap.size, 0, none⟩) 0 0) [] :=
  ⟨rfl, .inr ⟨w.heap.size, 0, #[], rfl, hB, by unfold World.alloc; simp, Nat.le_refl _, by unfold maxLen; omega, rfl, rfl⟩⟩

theorem RowsOwn.cells1 {w : World} {B : Nat} {us : List Value} {ls : List (List Int)} (h : RowsOwn w B us ls) : ∀ u ∈ us, u.oneCell' = true := by
  intro u hu
  obtain ⟨j, hj, rfl⟩ := List.mem_iff_getElem.1 hu
  have h1 := h.2 j (by rw [← h.1]; exact hj)
  have e : us.getD j (.slice none 0 0) = us[j] := by simp [List.getD, hj]
  rw [e] at h1
  rcases h1.2 with ⟨h2, _⟩ | ⟨g, c, cur, h2, _⟩
  · rw [h2]; rfl
  · rw [h2]; rfl
theorem Own.isSlice {w : World} {B : Nat} {u : Value} {xs : List Int} (ho : Own w B u xs) : ∃ a n c, u = .slice a n c := by
  rcases ho.2 with ⟨h2, _⟩ | ⟨g, c, cur, h2, _⟩
  · exact ⟨_, _, _, h2⟩
  · exact ⟨_, _, _, h2⟩
theorem OwnR.takeCells {w : World} {B g n c j : Nat} {us : List Value} (h : OwnR w B (.slice (some ⟨g, 0, none⟩) n c) us) :
    ∀ p, some (⟨g, 0, none⟩ : Addr) = some p → ∀ i u, (us.take j)[i]? = some u → w.cell? (p.add i) = some u := by
  intro p hp i u hi
  obtain rfl := Option.some.inj hp
  rw [List.getElem?_take] at hi
  split at hi
  · have hlt := (List.getElem?_eq_some_iff.1 hi).1
    rw [Addr.add_lit, Nat.zero_add, h.cell i hlt]
    simp [List.getD, hi]
  · cases hi
theorem OwnR.dropCells {w : World} {B g n c j : Nat} {us : List Value} (h : OwnR w B (.slice (some ⟨g, 0, none⟩) n c) us) (hc : us.length ≤ c) :
    ∀ p, (if c = j then some (⟨g, 0, none⟩ : Addr) else some ⟨g, j, none⟩) = some p → ∀ i u, (us.drop j)[i]? = some u → w.cell? (p.add i) = some u := by
  intro p hp i u hi
  rw [List.getElem?_drop] at hi
  have hlt := (List.getElem?_eq_some_iff.1 hi).1
  rw [if_neg (by omega)] at hp
  obtain rfl := Option.some.inj hp
  rw [Addr.add_lit, h.cell (j + i) hlt]
  simp [List.getD, hi]
theorem OwnR.dropCells2 {w : World} {B g n c j : Nat} {us : List Value} (h : OwnR w B (.slice (some ⟨g, 0, none⟩) n c) us) (hc : us.length ≤ c) (hj : j < us.length) :
    ∀ p, some (⟨g, j, none⟩ : Addr) = some p → ∀ i u, (us.drop j)[i]? = some u → w.cell? (p.add i) = some u := fun p hp => h.dropCells hc p (by rw [if_neg (by omega)]; exact hp)
theorem some_ne {c j g : Nat} {P : Prop} (h : (if c = j then some (⟨g, 0, none⟩ : Addr) else some ⟨g, j, none⟩) = none) : P := by split at h <;> cases h

set_option maxHeartbeats 3200000 in
set_option maxRecDepth 100000 in
theorem rsort_any (v : Value) (f : List (List Int)) (w : World) (H : IsRows w v f) :
    Calls Tryd.prog 51 #[v] w (RetSort w (sortL f)) := by
  obtain ⟨a, cap, rfl, hfl0⟩ := H.shape
  have hF : ∀ x ∈ f, x.length ≤ 17592186044416 ∧ In64 x := by
    intro x hx
    obtain ⟨j, hj, rfl⟩ := List.mem_iff_getElem.1 hx
    obtain ⟨b, off, u, _, _, _, HU⟩ := H.at hj
    have e : f.getD j [] = f[j] := by simp [List.getD, hj]
    rw [e] at HU
    exact ⟨HU.len, HU.in64⟩
  have HF := Lib.hid hF
  clear hF
  by_cases hm : mayCnfB f = true
  · have hfl : f.length ≤ 20000 := by unfold mayCnfB at hm; simp at hm; exact hm.1
    have HS : Hid (sortL f = sortX f) := by show _ = _; unfold sortL; rw [if_pos hm]
    go_enter Tryd.func51, Tryd.ntmps51
    go_wp2_with (go_at_call 46; refine (rmaycnf_any _ f _ H).mono ?_; rintro e w0 ⟨rfl, hq0⟩)
    have hbel0 := hq0.below w.heap.size
    clear hq0
    go_loopw [3, 4] (fun out i wr => ∃ (k : Nat) (us : List Value), k ≤ f.length ∧ i = .int .i64 k ∧ OwnR wr w.heap.size out us ∧ RowsOwn wr w.heap.size us ((f.take k).foldl insX []) ∧ Below w.heap.size w wr) (fun _ i _ => f.length - (intOf i).toNat)
    case atStart => exact ⟨0, [], Nat.zero_le _, rfl, OwnR.nil _ _, RowsOwn.nil _ _, hbel0⟩
    case round =>
      obtain ⟨k, us, hk, rfl, hown, hro, hbel⟩ := hrel
      have hsz := hbel.size
      by_cases hlt : k < f.length
      · have hal : ((f.take k).foldl insX []).length ≤ 20000 := by
          have := foldl_insX_len (f.take k) []
          simp only [List.length_take, List.length_nil] at this
          omega
        have HFN := Lib.hid (foldlX_take hlt)
        have hacc0 : ∀ x ∈ (f.take k).foldl insX [], x.length ≤ 17592186044416 ∧ In64 x := by
          intro x hx
          rw [foldl_insX_mem] at hx
          rcases hx with hx | hx
          · cases hx
          · exact HF.out x (List.mem_of_mem_take hx)
        have HACC := Lib.hid hacc0
        clear hacc0
        generalize (f.take k).foldl insX [] = acc at *
        obtain ⟨b, off, u, rfl, hb, hu0, HU0⟩ := H.at hlt
        have hul := hro.1
        have HUL := Lib.hid hul
        have hus : us.length ≤ 20000 := by omega
        clear hul
        generalize f.getD k [] = l at *
        obtain ⟨a', c', rfl⟩ := HU0.shape
        have hll := HU0.len
        rcases hown.shape with ⟨rfl, rfl⟩ | ⟨g, c, rfl, hgc, hcm⟩
        · have hacc : acc = [] := List.eq_nil_of_length_eq_zero HUL.out.symm
          subst hacc
          have HI : Hid (insX [] l = [l]) := Lib.hid rfl
          generalize wr = wo at *
          go_wp2_with fail
          go_loopw [5] (fun i wz => i = .int .i64 0 ∧ Quiet wo wz) (fun i _ => 0)
          case atStart => exact ⟨rfl, Quiet.refl _⟩
          case round =>
            obtain ⟨rfl, hq⟩ := hrel
            have hownz := hown.quiet hq
            have hroz := hro.below (hq.below wo.heap.size) (Nat.le_refl _)
            have hbelz : Below w.heap.size w wr := hbel.trans (hq.below _)
            have hu := (hbelz.cell (p := ⟨b, off + k, none⟩) hb).trans hu0
            have HU := HU0.below hbelz (Nat.le_refl _)
            have hcal : True := trivial
            go_wp2_with fail
            go_quiet (fail)
            have Q1 : Quiet wr (wr.drewN nq) := ⟨nq, rfl⟩
            have hown1 := hownz.quiet Q1
            have hro1 := hroz.below (Q1.below wr.heap.size) (Nat.le_refl _)
            have hbel1 := hbelz.trans (Q1.below _)
            have hu' := (Q1.cell _).trans hu
            have HU' := HU.quiet Q1
            have hy' : True := trivial
            generalize wr.drewN nq = wq at *
            go_wp2_with fail
            go_quiet (fail)
            have Q2 : Quiet wq (wq.drewN nq) := ⟨nq, rfl⟩
            have hown2 := hown1.quiet Q2
            have hro2 := hro1.below (Q2.below wq.heap.size) (Nat.le_refl _)
            have hbel2 := hbel1.trans (Q2.below _)
            have hu2 := (Q2.cell _).trans hu'
            have HU2 := HU'.quiet Q2
            clear hu hu' hcal
            have hu := hu2
            clear hu2
            generalize wq.drewN nq = wq2 at *
            have hsq := hbel2.size
            have hbW : b < wq2.heap.size := Nat.lt_of_lt_of_le hb hsq
            have hm1 := OwnR.nil wq2 wq2.heap.size
            have hz1 := Below.refl wq2.heap.size wq2
            have hs1 := hz1.size
            have HU1 := HU2
            go_wp2_with (first
              | (at_builtin; refine wpList_app rfl (.tmp 56) (.tmp 60) rfl wq2.heap.size _ _ [] l rfl rfl (Own.built (Nat.le_refl _)) (HU1.below ((Below.refl _ _).alloc (Nat.le_refl _) _) (Nat.le_refl _)) (by simp <;> omega) (by simp) ?_; intro vr w2 hr2 hg2; have hz12 := below_app ((Below.refl wq2.heap.size wq2).alloc (Nat.le_refl _) _) (Own.built (Nat.le_refl _)) (by simp) hg2; have hz2 := hz1.trans (hz12.mono hs1); have hs2 := hz2.size; have hm2 := hm1.below hz12 (Nat.le_refl _); obtain ⟨ar, nr, cr, rfl⟩ := hr2.isSlice)
              | (at_builtin; refine wpList_appR1 rfl (.tmp 55) (.tmp 62) rfl wq2.heap.size _ _ (.slice ar nr cr) w2.heap.size rfl rfl (hm2.alloc _) (by simp) rfl (by simp <;> omega) (by simp <;> omega) ?_; intro vm3 w3 hm3 hg3; have hz3 := belowR (hz2.alloc hs2 _) (hm2.alloc _) (by simp <;> omega) hg3; have hs3 := hz3.size; have hr3 := ((RowsOwn.one hr2).alloc _).grown (hm2.alloc _) hg3)
              | (at_builtin; refine wpList_appR rfl (.tmp 64) (.tmp 67) rfl wq2.heap.size _ _ [] none 0 rfl rfl hm3 (fun _ => ⟨rfl, rfl⟩) (fun p hp => by cases hp) (fun y hy => by cases hy) (by simp <;> omega) hs3 ?_; intro vm4 w4 hm4 hg4; have hz4 := belowR hz3 hm3 hs3 hg4; have hr4 := hr3.grown hm3 hg4))
            go_roundw
            case rel => exact ⟨k + 1, _, by omega, by go_num, hm4.mono (by omega), by rw [HFN.out, HI.out]; exact (hr4.mono (by omega)), hbel2.trans (hz4.mono (by omega))⟩
            case measure => simp [intOf]; omega
        · generalize wr = wo at *
          have HONE := Lib.hid hro.cells1
          go_wp2_with fail
          go_loopw [5] (fun i wz => ∃ j : Nat, j ≤ us.length ∧ i = .int .i64 j ∧ Quiet wo wz ∧ insX acc l = acc.take j ++ insX (acc.drop j) l) (fun i _ => us.length - (intOf i).toNat)
          case atStart => exact ⟨0, Nat.zero_le _, rfl, Quiet.refl _, by simp⟩
          case round =>
            obtain ⟨j, hj, rfl, hq, hins⟩ := hrel
            have HI := Lib.hid hins
            clear hins
            have hownz := hown.quiet hq
            have hroz := hro.below (hq.below wo.heap.size) (Nat.le_refl _)
            have hbelz : Below w.heap.size w wr := hbel.trans (hq.below _)
            have hszz := hbelz.size
            have hu := (hbelz.cell (p := ⟨b, off + k, none⟩) hb).trans hu0
            have HU := HU0.below hbelz (Nat.le_refl _)
            by_cases hjl : j < us.length
            · have hy := hownz.cell j hjl
              have hja : j < acc.length := by rw [← HUL.out]; exact hjl
              have hxx := HACC.out _ (rows_getD_mem hja)
              have HX := (hroz.2 j hja).ints hxx.1 hxx.2
              have HLT := Lib.hid (insX_lt (l := acc) (x := l) hja)
              have HAT := Lib.hid (insX_at (l := acc) (x := l) hja)
              have HIS := Lib.hid (insX_is (l := acc) (x := l) hja)
              generalize us.getD j (.slice none 0 0) = u1 at *
              generalize acc.getD j [] = x at *
              obtain ⟨a1, c1, rfl⟩ := HX.shape
              have hcal : ∀ W, Quiet wr W → Calls Tryd.prog 43 #[.slice a1 x.length c1, .slice a' l.length c'] W (fun e w' => e = .returned (.int .i64 (cmpL x l)) ∧ Quiet W w') := fun W hW => rcompare_any _ _ x l W (HX.quiet hW) (HU.quiet hW)
              have HL1 : Hid (lxLt x l ↔ cmpL x l < 0) := Lib.hid Iff.rfl
              have HL2 := Lib.hid (cmpL_zero x l)
              have hzb := cmpL_bd x l
              generalize cmpL x l = z at *
              have HCAL := Lib.hid hcal
              clear hcal
              have hcal : True := trivial
              by_cases hlt2 : z < 0
              · have HN := Lib.hid (HLT.out (HL1.out.2 hlt2))
                go_wp2_with fail
                go_quiet ((go_at_call 43; exact quiet_q (HCAL.out _ ⟨_, rfl⟩)))
                go_wp2
                go_roundw
                case rel => exact ⟨j + 1, by omega, by go_num, hq.drewN _, by rw [HI.out, HN.out]⟩
                case measure => simp [intOf]; omega
              · by_cases hz0 : z = 0
                · have hxl := HL2.out.1 hz0
                  have HN := Lib.hid (HIS.out (fun h => hlt2 (HL1.out.1 h)) hxl)
                  have hzz : (z == 0) = true := by simpa using hz0
                  have HZ := Lib.hid hxl
                  clear hz0 hxl
                  go_wp2_with fail
                  go_quiet ((go_at_call 43; exact quiet_q (HCAL.out _ ⟨_, rfl⟩)))
                  have Q1 : Quiet wr (wr.drewN nq) := ⟨nq, rfl⟩
                  have hown1 := hownz.quiet Q1
                  have hro1 := hroz.below (Q1.below wr.heap.size) (Nat.le_refl _)
                  have hbel1 := hbelz.trans (Q1.below _)
                  have hu' := (Q1.cell _).trans hu
                  have HU' := HU.quiet Q1
                  have hy' := (Q1.cell _).trans hy
                  generalize wr.drewN nq = wq at *
                  go_wp2_with fail
                  go_quiet ((go_at_call 43; exact quiet_q (HCAL.out _ (Q1.drewN _))))
                  have Q2 : Quiet wq (wq.drewN nq) := ⟨nq, rfl⟩
                  have hown2 := hown1.quiet Q2
                  have hro2 := hro1.below (Q2.below wq.heap.size) (Nat.le_refl _)
                  have hbel2 := hbel1.trans (Q2.below _)
                  have hu2 := (Q2.cell _).trans hu'
                  have HU2 := HU'.quiet Q2
                  clear hu hu' hcal
                  have hu := hu2
                  clear hu2
                  generalize wq.drewN nq = wq2 at *
                  have hsq := hbel2.size
                  have hbW : b < wq2.heap.size := Nat.lt_of_lt_of_le hb hsq
                  go_wp2
                  go_roundw
                  case rel => exact ⟨k + 1, us, by omega, by go_num, hown2, by rw [HFN.out, HI.out, HN.out]; exact hro2, hbel2⟩
                  case measure => simp [intOf]; omega
                · have HN := Lib.hid (HAT.out (fun h => hlt2 (HL1.out.1 h)) (fun h => hz0 (HL2.out.2 h)))
                  have HNX : Hid (insX acc l = [] ++ acc.take j ++ [l] ++ acc.drop j) := by show _ = _; rw [HI.out, HN.out]; simp
                  have hzz : (z == 0) = false := by simpa using hz0
                  clear hz0
                  go_wp2_with fail
                  go_quiet ((go_at_call 43; exact quiet_q (HCAL.out _ ⟨_, rfl⟩)))
                  have Q1 : Quiet wr (wr.drewN nq) := ⟨nq, rfl⟩
                  have hown1 := hownz.quiet Q1
                  have hro1 := hroz.below (Q1.below wr.heap.size) (Nat.le_refl _)
                  have hbel1 := hbelz.trans (Q1.below _)
                  have hu' := (Q1.cell _).trans hu
                  have HU' := HU.quiet Q1
                  have hy' := (Q1.cell _).trans hy
                  generalize wr.drewN nq = wq at *
                  go_wp2_with fail
                  go_quiet ((go_at_call 43; exact quiet_q (HCAL.out _ (Q1.drewN _))))
                  have Q2 : Quiet wq (wq.drewN nq) := ⟨nq, rfl⟩
                  have hown2 := hown1.quiet Q2
                  have hro2 := hro1.below (Q2.below wq.heap.size) (Nat.le_refl _)
                  have hbel2 := hbel1.trans (Q2.below _)
                  have hu2 := (Q2.cell _).trans hu'
                  have HU2 := HU'.quiet Q2
                  clear hu hu' hcal
                  have hu := hu2
                  clear hu2
                  generalize wq.drewN nq = wq2 at *
                  have hsq := hbel2.size
                  have hbW : b < wq2.heap.size := Nat.lt_of_lt_of_le hb hsq
                  go_wp2_with (first
                    | (at_builtin; refine wpList_appR rfl (.tmp 50) (.tmp 53) rfl wq2.heap.size _ [] (us.take j) (some ⟨g, 0, none⟩) c rfl (by rw [List.length_take, Nat.min_eq_left (by omega)]; rfl) (OwnR.nil _ _) (fun h => by cases h) hown2.takeCells (fun y hy => HONE.out y (List.mem_of_mem_take hy)) (by simp <;> omega) (Nat.le_refl _) ?_; intro vm1 w1 hm1 hg1; have hz1 := belowR (Below.refl wq2.heap.size wq2) (OwnR.nil _ wq2.heap.size) (Nat.le_refl _) hg1; have hs1 := hz1.size; have HU1 := HU2.below hz1 (Nat.le_refl _); have hu1 := (hz1.cell (p := ⟨b, off + k, none⟩) (show b < _ from hbW)).trans hu; have hbW1 : b < w1.heap.size := Nat.lt_of_lt_of_le hbW hs1)
                    | (at_builtin; refine wpList_app rfl (.tmp 56) (.tmp 60) rfl w1.heap.size _ _ [] l rfl rfl (Own.built (Nat.le_refl _)) (HU1.below ((Below.refl _ _).alloc (Nat.le_refl _) _) (Nat.le_refl _)) (by simp <;> omega) (by simp) ?_; intro vr w2 hr2 hg2; have hz12 := below_app ((Below.refl w1.heap.size w1).alloc (Nat.le_refl _) _) (Own.built (Nat.le_refl _)) (by simp) hg2; have hz2 := hz1.trans (hz12.mono hs1); have hs2 := hz2.size; have hm2 := hm1.below hz12 (Nat.le_refl _); obtain ⟨ar, nr, cr, rfl⟩ := hr2.isSlice)
                    | (at_builtin; refine wpList_appR1 rfl (.tmp 55) (.tmp 62) rfl wq2.heap.size _ _ (.slice ar nr cr) w2.heap.size rfl rfl (hm2.alloc _) (by simp) rfl (by simp <;> omega) (by simp <;> omega) ?_; intro vm3 w3 hm3 hg3; have hz3 := belowR (hz2.alloc hs2 _) (hm2.alloc _) (by simp <;> omega) hg3; have hs3 := hz3.size; have hr3 := ((RowsOwn.one hr2).alloc _).grown (hm2.alloc _) hg3)
                    | (at_builtin; refine wpList_appR rfl (.tmp 64) (.tmp 67) rfl wq2.heap.size _ _ (us.drop j) (some ⟨g, j, none⟩) (c - j) rfl (by rw [List.length_drop]; rfl) hm3 (fun h => by cases h) ((hown2.below hz3 (Nat.le_refl _)).dropCells2 (by omega) (by omega)) (fun y hy => HONE.out y (List.mem_of_mem_drop hy)) (by simp <;> omega) hs3 ?_; intro vm4 w4 hm4 hg4; have hz4 := belowR hz3 hm3 hs3 hg4; have hr4 := hr3.grown hm3 hg4))
                  go_roundw
                  case rel => exact ⟨k + 1, _, by omega, by go_num, hm4.mono (by omega), by rw [HFN.out, HNX.out]; exact (((((RowsOwn.nil _ _).append ((hro2.below hz4 (Nat.le_refl _)).take j)).append (hr4.mono (by omega))).append ((hro2.below hz4 (Nat.le_refl _)).drop j))), hbel2.trans (hz4.mono (by omega))⟩
                  case measure => simp [intOf]; omega
            · have hjn : decide (j < us.length) = false := by simpa using hjl
              have hcal : True := trivial
              have HNX : Hid (insX acc l = [] ++ acc.take j ++ [l] ++ acc.drop j) := by
                show _ = _
                rw [HI.out, List.drop_eq_nil_of_le (by rw [← HUL.out]; omega)]; simp [insX]
              go_wp2_with fail
              go_quiet (fail)
              have Q1 : Quiet wr (wr.drewN nq) := ⟨nq, rfl⟩
              have hown1 := hownz.quiet Q1
              have hro1 := hroz.below (Q1.below wr.heap.size) (Nat.le_refl _)
              have hbel1 := hbelz.trans (Q1.below _)
              have hu' := (Q1.cell _).trans hu
              have HU' := HU.quiet Q1
              have hy' : True := trivial
              generalize wr.drewN nq = wq at *
              go_wp2_with fail
              go_quiet (fail)
              have Q2 : Quiet wq (wq.drewN nq) := ⟨nq, rfl⟩
              have hown2 := hown1.quiet Q2
              have hro2 := hro1.below (Q2.below wq.heap.size) (Nat.le_refl _)
              have hbel2 := hbel1.trans (Q2.below _)
              have hu2 := (Q2.cell _).trans hu'
              have HU2 := HU'.quiet Q2
              clear hu hu' hcal
              have hu := hu2
              clear hu2
              generalize wq.drewN nq = wq2 at *
              have hsq := hbel2.size
              have hbW : b < wq2.heap.size := Nat.lt_of_lt_of_le hb hsq
              go_wp2_with (first
                | (at_builtin; refine wpList_appR rfl (.tmp 50) (.tmp 53) rfl wq2.heap.size _ [] (us.take j) (some ⟨g, 0, none⟩) c rfl (by rw [List.length_take, Nat.min_eq_left (by omega)]; rfl) (OwnR.nil _ _) (fun h => by cases h) hown2.takeCells (fun y hy => HONE.out y (List.mem_of_mem_take hy)) (by simp <;> omega) (Nat.le_refl _) ?_; intro vm1 w1 hm1 hg1; have hz1 := belowR (Below.refl wq2.heap.size wq2) (OwnR.nil _ wq2.heap.size) (Nat.le_refl _) hg1; have hs1 := hz1.size; have HU1 := HU2.below hz1 (Nat.le_refl _); have hu1 := (hz1.cell (p := ⟨b, off + k, none⟩) (show b < _ from hbW)).trans hu; have hbW1 : b < w1.heap.size := Nat.lt_of_lt_of_le hbW hs1)
                | (at_builtin; refine wpList_app rfl (.tmp 56) (.tmp 60) rfl w1.heap.size _ _ [] l rfl rfl (Own.built (Nat.le_refl _)) (HU1.below ((Below.refl _ _).alloc (Nat.le_refl _) _) (Nat.le_refl _)) (by simp <;> omega) (by simp) ?_; intro vr w2 hr2 hg2; have hz12 := below_app ((Below.refl w1.heap.size w1).alloc (Nat.le_refl _) _) (Own.built (Nat.le_refl _)) (by simp) hg2; have hz2 := hz1.trans (hz12.mono hs1); have hs2 := hz2.size; have hm2 := hm1.below hz12 (Nat.le_refl _); obtain ⟨ar, nr, cr, rfl⟩ := hr2.isSlice)
                | (at_builtin; refine wpList_appR1 rfl (.tmp 55) (.tmp 62) rfl wq2.heap.size _ _ (.slice ar nr cr) w2.heap.size rfl rfl (hm2.alloc _) (by simp) rfl (by simp <;> omega) (by simp <;> omega) ?_; intro vm3 w3 hm3 hg3; have hz3 := belowR (hz2.alloc hs2 _) (hm2.alloc _) (by simp <;> omega) hg3; have hs3 := hz3.size; have hr3 := ((RowsOwn.one hr2).alloc _).grown (hm2.alloc _) hg3)
                | (at_builtin; refine wpList_appR rfl (.tmp 64) (.tmp 67) rfl wq2.heap.size _ _ (us.drop j) (if c = j then some ⟨g, 0, none⟩ else some ⟨g, j, none⟩) (c - j) rfl (by rw [List.length_drop]; rfl) hm3 (fun h => some_ne h) ((hown2.below hz3 (Nat.le_refl _)).dropCells (by omega)) (fun y hy => HONE.out y (List.mem_of_mem_drop hy)) (by simp <;> omega) hs3 ?_; intro vm4 w4 hm4 hg4; have hz4 := belowR hz3 hm3 hs3 hg4; have hr4 := hr3.grown hm3 hg4))
              go_roundw
              case rel => exact ⟨k + 1, _, by omega, by go_num, hm4.mono (by omega), by rw [HFN.out, HNX.out]; exact (((((RowsOwn.nil _ _).append ((hro2.below hz4 (Nat.le_refl _)).take j)).append (hr4.mono (by omega))).append ((hro2.below hz4 (Nat.le_refl _)).drop j))), hbel2.trans (hz4.mono (by omega))⟩
              case measure => simp [intOf]; omega
      · have hks : k = f.length := by omega
        have hro2 := hro
        rw [List.take_of_length_le (by omega)] at hro2
        clear hro hks
        go_wp2
        go_ret
        exact ⟨_, us, rfl, hown, by rw [HS.out]; exact hro2, hbel⟩
  · have hm' : mayCnfB f = false := by simpa using hm
    have HS : Hid (sortL f = []) := by show _ = _; unfold sortL; rw [if_neg hm]
    clear hm
    go_enter Tryd.func51, Tryd.ntmps51
    go_wp2_with (go_at_call 46; refine (rmaycnf_any _ f _ H).mono ?_; rintro e w0 ⟨rfl, hq0⟩)
    go_ret
    exact ⟨_, [], rfl, OwnR.nil _ _, by rw [HS.out]; exact RowsOwn.nil _ _, hq0.below _⟩

end Go.Proofs.YtnedpngadfkmiaaDoor
