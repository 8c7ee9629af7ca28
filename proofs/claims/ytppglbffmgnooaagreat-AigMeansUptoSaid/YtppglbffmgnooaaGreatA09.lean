/- Joined texts: AgRes, AgCone, AgPuts, AgCompP. -/
import Derived.Test.YtppglbffmgnooaaGreatA08
/- aig.Restrict. -/
namespace Go.Proofs.YtppglbffmgnooaaGreat
open Go.RowKit Go.Maps
set_option linter.unusedVariables false
set_option linter.unusedSimpArgs false
attribute [local go_sem] drew_cellq drew_frozenq

theorem fixed_enters (args : Array Value) (w : World) : (callFunc 90 args).run Tryz.prog w = .ok (.enter 90 args) w := enters_of Tryz.func90 (by kernel_rfl) rfl args w
theorem InsO.set_far {w : World} {B c n : Nat} {u v : Value} {I : List Int} (h : InsO w B v I) (hc : c < B) : InsO (w.setCell ⟨c, n, none⟩ u) B v I := h.elim (fun e => .inl (e.set_far hc)) .inr
theorem OwnP.set_far {w : World} {B c n : Nat} {u v : Value} {A : List Pr} (h : OwnP w B v A) (hc : c < B) : OwnP (w.setCell ⟨c, n, none⟩ u) B v A :=
  h.kept (Kept.setCell w ⟨c, n, none⟩ u) (fun g hg e => by have := (h.lt g hg).1; have : g = c := e; omega)
theorem GrO.set_far {w : World} {B c n : Nat} {u vi va : Value} {I : List Int} {A : List Pr} (h : GrO w B vi va I A) (hc : c < B) : GrO (w.setCell ⟨c, n, none⟩ u) B vi va I A :=
  ⟨h.ins.set_far hc, h.i64, h.il, h.row.set_far hc, h.inp, h.al⟩
theorem GrO.mono {w : World} {B B' : Nat} {vi va : Value} {I : List Int} {A : List Pr} (h : GrO w B vi va I A) (hB : B' ≤ B) : GrO w B' vi va I A :=
  ⟨h.ins.elim (fun e => .inl (e.mono hB)) .inr, h.i64, h.il, h.row.mono hB, h.inp, h.al⟩
theorem copier1_enters (args : Array Value) (w : World) : (callFunc 151 args).run Tryz.prog w = .ok (.enter 151 args) w := enters_of Tryz.func151 (by kernel_rfl) rfl args w
theorem fixF_succ {a : List Int} {k : Nat} (h : k < a.length) : fixF (a.take (k + 1)) = fixStep (fixF (a.take k)) (a.getD k 0) := by
  unfold fixF
  rw [ints_take_succ h, List.foldl_append]
  rfl
theorem map_box (w : World) : MapM ((w.alloc (.map #[] 0)).alloc (.cells #[.map (some w.heap.size)] 140)) w.heap.size 0 (fun _ => none) ∧ ((w.alloc (.map #[] 0)).alloc (.cells #[.map (some w.heap.size)] 140)).cell? ⟨w.heap.size + 1, 0, none⟩ = some (.map (some w.heap.size)) ∧
    Below w.heap.size w ((w.alloc (.map #[] 0)).alloc (.cells #[.map (some w.heap.size)] 140)) ∧ ((w.alloc (.map #[] 0)).alloc (.cells #[.map (some w.heap.size)] 140)).heap.size = w.heap.size + 2 := by
  have hba := below_alloc1 w (.map #[] 0)
  have hbb := below_alloc1 (w.alloc (.map #[] 0)) (.cells #[.map (some w.heap.size)] 140)
  exact ⟨(MapM.made w).below hbb (Nat.le_refl _), cell_fresh2 rfl, hba.trans (hbb.mono hba.size), by simp⟩
set_option maxRecDepth 100000 in
set_option maxHeartbeats 6400000 in
theorem grestrict_any (vi va vl vx : Value) (I : List Int) (A : List Pr) (l a : List Int) (w : World) (HI : IsInts w vi I) (HA : IsPairs w va A) (HL : IsInts w vl l) (HX : IsInts w vx a) (h1 : I.length ≤ 4000000) (h2 : A.length ≤ 4000000) (h3 : a.length ≤ 4000000) :
    Calls Tryz.prog 34 #[.agg #[vi, va], vl, vx] w (ResPost w (restR I A l a)) := by
  have hb1 := below_alloc1 w (.cells #[vi, va] 25)
  have hb2 := below_alloc1 (w.alloc (.cells #[vi, va] 25)) (.cells #[.slice none 0 0, .slice none 0 0] 25)
  have hb0 : Below w.heap.size w ((w.alloc (.cells #[vi, va] 25)).alloc (.cells #[.slice none 0 0, .slice none 0 0] 25)) := hb1.trans (hb2.mono hb1.size)
  have hsz : ((w.alloc (.cells #[vi, va] 25)).alloc (.cells #[.slice none 0 0, .slice none 0 0] 25)).heap.size = w.heap.size + 2 := by simp
  have hgx : ((w.alloc (.cells #[vi, va] 25)).alloc (.cells #[.slice none 0 0, .slice none 0 0] 25)).heap[w.heap.size]? = some (.cells #[vi, va] 25 (0, 0)) := (hb2.block _ (by simp)).trans (World.alloc_heap_new _ _)
  have hrx : ((w.alloc (.cells #[vi, va] 25)).alloc (.cells #[.slice none 0 0, .slice none 0 0] 25)).heap[w.heap.size + 1]? = some (.cells #[.slice none 0 0, .slice none 0 0] 25 (0, 0)) := by
    have h := World.alloc_heap_new (w.alloc (.cells #[vi, va] 25)) (.cells #[.slice none 0 0, .slice none 0 0] 25)
    simpa using h
  have HI1 := Lib.hid (HI.below hb0 (Nat.le_refl _))
  have HA1 := Lib.hid (HA.below hb0 (Nat.le_refl _))
  have HL1 := Lib.hid (HL.below hb0 (Nat.le_refl _))
  have HX1 := Lib.hid (HX.below hb0 (Nat.le_refl _))
  obtain ⟨ia, ic, rfl⟩ := HI.shape
  obtain ⟨aa, ac, rfl, _⟩ := HA.shape
  obtain ⟨la, lc, rfl⟩ := HL.shape
  obtain ⟨xa, xc, rfl⟩ := HX.shape
  clear HI HA HL HX hb1 hb2
  go_enter Tryz.func34, Tryz.ntmps34
  go_upto_region 1 with fail
  generalize World.alloc (World.alloc w _) _ = W at *
  have HB0 := Lib.hid hb0
  have HSZ := Lib.hid hsz
  have HGX := Lib.hid hgx
  have HRX := Lib.hid hrx
  obtain ⟨p0, p1, _, _⟩ := box2_cells hgx
  clear hb0 hsz hgx hrx
  have HH := Lib.hid (ghas_any _ _ _ I A l W HI1.out HA1.out HL1.out h1 h2)
  have HNO : Hid (∀ X, Below W.heap.size W X → Calls Tryz.prog 76 #[.slice xa a.length xc] X fun e w' => e = .returned (.bool (mayB a)) ∧ X = w') := fun X hX => anormal_any _ a X (HX1.out.below hX (Nat.le_refl _))
  have HBAD : Hid (∀ X, Below W.heap.size W X → restR I A l a = (([], []), [], 2) → (X.cell? ⟨w.heap.size + 1, 0, none⟩ = some (.slice none 0 0) ∧ X.cell? ⟨w.heap.size + 1, 1, none⟩ = some (.slice none 0 0) ∧ X.frozen? ⟨w.heap.size + 1, 0, none⟩ = false ∧ X.frozen? ⟨w.heap.size + 1, 1, none⟩ = false) ∧
      (((X.setCell ⟨w.heap.size + 1, 0, none⟩ (.slice none 0 0)).setCell ⟨w.heap.size + 1, 1, none⟩ (.slice none 0 0)).cell? ⟨w.heap.size + 1, 0, none⟩ = some (.slice none 0 0) ∧ ((X.setCell ⟨w.heap.size + 1, 0, none⟩ (.slice none 0 0)).setCell ⟨w.heap.size + 1, 1, none⟩ (.slice none 0 0)).cell? ⟨w.heap.size + 1, 1, none⟩ = some (.slice none 0 0)) ∧
      ResPost w (restR I A l a) (.returned (.tuple #[.agg #[.slice none 0 0, .slice none 0 0], .slice none 0 0, .int .i64 2])) ((X.setCell ⟨w.heap.size + 1, 0, none⟩ (.slice none 0 0)).setCell ⟨w.heap.size + 1, 1, none⟩ (.slice none 0 0))) := fun X hX he => by
    have hr := (hX.block _ (by have := HSZ.out; omega)).trans HRX.out
    refine ⟨box2_cells hr, box2_put hr _ _, ?_⟩
    rw [he]
    exact ⟨_, _, _, rfl, GrO.nil _ _, Own.nil _ _, ((HB0.out.trans (hX.mono HB0.out.size)).setCell (p := ⟨w.heap.size + 1, 0, none⟩) (by show _ ≤ _ + 1; omega) _).setCell (p := ⟨w.heap.size + 1, 1, none⟩) (by show _ ≤ _ + 1; omega) _⟩
  by_cases hh : hasA I A l = true
  · by_cases hm : mayB a = true
    · have HE : Hid (restR I A l a = ((restI a I, (restC I A l a).2.1), (restC I A l a).1, 0)) := by show _ = _; unfold restR; rw [if_pos ⟨hh, hm⟩]
      have hpart := hasA_parts hh
      have hmp := mayA_parts hpart.1
      have HPT := Lib.hid hpart
      have HMP := Lib.hid hmp
      have HX64 := Lib.hid HX1.out.in64
      rw [hh] at HH
      rw [hm] at HNO
      clear hm hh hpart hmp
      go_upto_region 3 with (first
        | (go_at_call 76; refine (HNO.out w1 HB1.out).mono ?_; rintro e w2 ⟨rfl, rfl⟩)
        | (go_at_call 62; refine HH.out.mono ?_; rintro e w1 ⟨rfl, hb1⟩; have HB1 := Lib.hid hb1; clear hb1))
      clear HBAD HNO HH p0 p1
      have hmm := @run_makeMap Tryz.prog
      go_upto_region 4 with fail
      obtain ⟨hM3, hbx, hba, hz3⟩ := map_box w1
      --LOOP
      have HM3 := Lib.hid hM3
      have HBX := Lib.hid hbx
      have HB3 := Lib.hid (HB1.out.trans (hba.mono HB1.out.size))
      have HZ3 := Lib.hid hz3
      have HBM : Hid (W.heap.size ≤ w1.heap.size) := HB1.out.size
      clear hM3 hbx hba hz3
      generalize (w1.alloc (.map #[] 0)).alloc _ = W3 at *
      generalize w1.heap.size = bm at *
      clear HB1
      go_wp2
      go_loopw [28] (fun s28 wr => ∃ k n : Nat, k ≤ a.length ∧ s28 = .int .i64 k ∧ n ≤ 2 * k ∧ MapM wr bm n (fixF (a.take k)) ∧ Kept (fun j => j = bm) W3 wr) (fun s28 _ => a.length - (intOf s28).toNat)
      case atStart => exact ⟨0, 0, Nat.zero_le _, rfl, Nat.le_refl _, HM3.out, Kept.refl _ _⟩
      case round =>
        obtain ⟨k, n, hk, rfl, hn, hm, hkp⟩ := hrel
        have HM := Lib.hid hm
        have HK := Lib.hid hkp
        have hbW : Below W.heap.size W wr := HB3.out.trans (hkp.below HB3.out.size (fun j hj e => by have := HBM.out; have : j = bm := e; omega))
        have HBW := Lib.hid hbW
        have cbx := (HK.out.cell (p := ⟨bm + 1, 0, none⟩) (by show bm + 1 < _; have := HZ3.out; omega) (by show ¬ bm + 1 = bm; omega)).trans HBX.out
        clear hm hkp hbW
        by_cases hlt : k < a.length
        · obtain ⟨b, off, rfl, hbl, hc0⟩ := HX1.out.cellY hlt
          have hc := (HBW.out.cell (p := ⟨b, off + k, none⟩) hbl).trans hc0
          have hx64 := HX64.out _ (ints_getD_mem hlt)
          have HFX := Lib.hid (fixF_succ hlt)
          have HKL := Lib.hid hlt
          have hkb : k < 4000000 := by omega
          clear hc0 hlt
          generalize a.getD k 0 = x at *
          obtain ⟨x0, x1⟩ := hx64
          have hv64 := varC_64 x0 x1
          have HAV := Lib.hid (avar_any x wr.drew x0 x1)
          have HMD : Hid (MapM wr.drew bm n (fixF (a.take k))) := HM.out.below ((Below.refl _ wr).drew) (Nat.le_refl _)
          obtain ⟨w4, hrun, hm4, hk4⟩ := HMD.out.put (by unfold maxLen; omega) (varC x) 0 (i64w hv64.1 hv64.2) (i64w (by omega) (by omega))
          have HM4 := Lib.hid hm4
          have HK4 : Hid (Kept (fun j => j = bm) W3 w4) := (HK.out.trans ⟨rfl, rfl, rfl, Nat.le_refl _, fun _ _ _ => rfl⟩ : Kept (fun j => j = bm) W3 wr.drew).trans hk4
          have cbx4 := (HK4.out.cell (p := ⟨bm + 1, 0, none⟩) (by show bm + 1 < _; have := HZ3.out; omega) (by show ¬ bm + 1 = bm; omega)).trans HBX.out
          have HFS : Hid (fixStep (fixF (a.take k)) x = if 0 < x then updM (updM (fixF (a.take k)) (varC x) 0) x 1 else updM (fixF (a.take k)) (varC x) 0) := rfl
          clear hm4 hk4 hv64
          generalize fixF (a.take k) = fk at *
          generalize varC x = vx at *
          go_upto_region 7 with fail
          refine wp_region_held_drew (S := fun X : World => X.cell? ⟨bm + 1, 0, none⟩ = some (.map (some bm))) (by kernel_rfl) cbx (fun hSd => ?_)
          refine takeC (i := 0) (v := .map (some bm)) (some 32) rfl rfl (by kernel_rfl) (by kernel_rfl) (by kernel_rfl) (fun _ _ _ h => h) (Or.inl ⟨by rfl, ?_⟩) (by assumption) ?_
          · intro wz hSw; have hSw : wz.cell? ⟨bm + 1, 0, none⟩ = some (.map (some bm)) := hSw; go_simp
          try simp only [Act.put, List.setIfInBounds_toArray, List.set_cons_zero, List.set_cons_succ]
          refine takeC (i := 1) (v := .int .i64 x) (some 33) rfl rfl (by kernel_rfl) (by kernel_rfl) (by kernel_rfl) (fun _ _ _ h => h) (Or.inl ⟨by rfl, ?_⟩) (by assumption) ?_
          · intro wz hSw; go_simp
          try simp only [Act.put, List.setIfInBounds_toArray, List.set_cons_zero, List.set_cons_succ]
          refine wpAnyH_ready (rs := [2]) (by kernel_rfl) (by simp) ?_
          refine AllReadyH.cons rfl (fun K hK => ?_) AllReadyH.nil
          go_simp
          go_wp2_with (go_at_call 89; go_loud (refine HAV.out.mono ?_; rintro e w9 ⟨rfl, rfl⟩))
          refine hK.out _ _ cbx (fun hHn => ?_)
          clear hK K hHn
          try simp only [Act.put, List.setIfInBounds_toArray, List.set_cons_zero, List.set_cons_succ]
          refine wpAnyH_ready (rs := [3]) (by kernel_rfl) (by simp) ?_
          refine AllReadyH.cons rfl (fun K hK => ?_) AllReadyH.nil
          go_simp
          refine hK.out _ _ cbx4 (fun hHn => ?_)
          clear hK K hHn
          try simp only [Act.put, List.setIfInBounds_toArray, List.set_cons_zero, List.set_cons_succ]
          refine wpAnyH_done (by kernel_rfl) ?_ _
          by_cases hp : 0 < x
          · rw [if_pos hp] at HFS
            obtain ⟨w5, hrun5, hm5, hk5⟩ := HM4.out.put (by unfold maxLen; omega) x 1 (i64w x0 x1) (i64w (by omega) (by omega))
            have HM5 := Lib.hid hm5
            have HK5 := Lib.hid (HK4.out.trans hk5)
            have hn2 : n + 1 + 1 ≤ 2 * (k + 1) := by omega
            have HN2 := Lib.hid hn2
            clear hm5 hk5 hrun hn2
            go_wp2
            go_roundw
            case rel => exact ⟨k + 1, n + 1 + 1, HKL.out, by go_num, HN2.out, by rw [HFX.out, HFS.out]; exact HM5.out, HK5.out⟩
            case measure => have := HKL.out; simp [intOf]; omega
          · rw [if_neg hp] at HFS
            have hd : decide (0 < x) = false := decide_eq_false hp
            have HN2 : Hid (n + 1 ≤ 2 * (k + 1)) := by show _ ≤ _; omega
            clear hrun
            go_wp2
            go_roundw
            case rel => exact ⟨k + 1, n + 1, HKL.out, by go_num, HN2.out, by rw [HFX.out, HFS.out]; exact HM4.out, HK4.out⟩
            case measure => have := HKL.out; simp [intOf]; omega
        · obtain rfl : k = a.length := by omega
          rw [List.take_length] at HM
          have hgx := (HBW.out.block w.heap.size (by have := HSZ.out; omega)).trans HGX.out
          obtain ⟨p0, p1, _, _⟩ := box2_cells hgx
          have HIW := Lib.hid (HI1.out.below HBW.out (Nat.le_refl _))
          have HCL := Lib.hid (gclone_any _ I wr HIW.out)
          unfold RetOwn at HCL
          have HIB := Lib.hid HMP.out.2.1
          have hil : I.length ≤ 200000 := by have := HMP.out.1; omega
          have HCB := Lib.hid cbx
          clear hgx hk hn HB3 HM3 HX64
          have HDF : Hid (∀ X v5, Below wr.heap.size wr X → Own X wr.heap.size v5 I → Calls Tryz.prog 92 #[v5, .func (.func 90) #[] #[.pointer (some ⟨bm + 1, 0, none⟩)]] X fun e w' => ∃ v', e = .returned v' ∧ Own w' wr.heap.size v' (restI a I) ∧ Below wr.heap.size wr w') := fun X v5 hX ho => by
            have hbmw : bm + 1 < wr.heap.size := by have := HK.out.size; have := HZ3.out; omega
            refine (deletef_any (fun v => (fixF a v).isSome) 90 wr.heap.size #[.pointer (some ⟨bm + 1, 0, none⟩)] v5 I X fixed_enters (fun Y x hk hx => ?_) ho HIW.out.in64 (by omega)).mono (fun e w' h => ?_)
            · have hY : Below wr.heap.size wr Y := hX.trans (hk.below hX.size (fun j hj e => by have := (ho.lt j e).1; omega))
              have c := (hY.cell (p := ⟨bm + 1, 0, none⟩) hbmw).trans HCB.out
              exact (fixed_any (bm + 1) bm n (fixF a) x Y c (HM.out.below hY (Nat.le_refl _)) (HIW.out.in64 x hx).1 (HIW.out.in64 x hx).2).mono fun e w' h => ⟨h.1, Quiet.of_eq h.2⟩
            · obtain ⟨v', e1, e2, e3⟩ := h
              exact ⟨v', e1, e2, hX.trans (e3.below hX.size (fun j hj e => by have := (ho.lt j e).1; omega))⟩
          have HIR : Hid (insB (restI a I) = true ∧ (restI a I).length ≤ I.length ∧ In64 (restI a I)) := ⟨insB_filter HIB.out _, List.length_filter_le _ _, fun x hx => HIW.out.in64 x (List.mem_filter.1 hx).1⟩
          have HMK : Hid (∀ X v6, Own X wr.heap.size v6 (restI a I) → Calls Tryz.prog 91 #[.agg #[v6, .slice none 0 0]] X fun r w' => ∃ pm vi' bf, r = .returned (.pointer (some ⟨pm, 0, none⟩)) ∧ MkE w' X.heap.size pm (restI a I) ([], false) vi' bf 0 ∧ Below X.heap.size X w') := fun X v6 ho =>
            maker0_any v6 (.slice none 0 0) (restI a I) X (ho.ints (by have := HIR.out.2.1; omega) HIR.out.2.2) (GrO.nil X 0).ints.2 HIR.out.1 (by have := HIR.out.2.1; have := HMP.out.1; omega)
          obtain ⟨J, hJ⟩ : ∃ J, restI a I = J := ⟨_, rfl⟩
          rw [hJ] at HDF HIR HMK
          have HJ := Lib.hid hJ
          clear hJ
          go_upto_region 12 with fail
          go_upto_region 13 with (first
            | (go_at_call 93; refine HCL.out.mono ?_; rintro e w5 ⟨v5, rfl, ho, hb⟩; obtain ⟨a5, c5, rfl⟩ := own_shC ho; have HV5 := Lib.hid ho; have HB5 := Lib.hid hb; clear ho hb)
            | (go_at_call 92; refine (HDF.out w5 _ HB5.out HV5.out).mono ?_; rintro e w6 ⟨v6, rfl, ho, hb⟩; obtain ⟨a6, c6, rfl⟩ := own_shC ho; have HV6 := Lib.hid ho; have HB6 := Lib.hid hb; clear ho hb)
            | (go_at_call 91; refine (HMK.out w6 _ HV6.out).mono ?_; rintro e w7 ⟨pm, vi7, bf, rfl, hm7, hb7⟩; have HM7 := Lib.hid hm7; have HB7 := Lib.hid hb7; clear hm7 hb7))
          have HW67 := Lib.hid (HB6.out.trans (HB7.out.mono HB6.out.size))
          have HGR : Hid (wr.heap[w.heap.size]? = some (.cells #[.slice ia I.length ic, .slice aa A.length ac] 25 (0, 0))) := (HBW.out.block w.heap.size (by have := HSZ.out; omega)).trans HGX.out
          have HRR : Hid (wr.heap[w.heap.size + 1]? = some (.cells #[.slice none 0 0, .slice none 0 0] 25 (0, 0))) := (HBW.out.block (w.heap.size + 1) (by have := HSZ.out; omega)).trans HRX.out
          have HLT : Hid (w.heap.size + 2 ≤ wr.heap.size ∧ bm + 1 < wr.heap.size) := ⟨by have := HSZ.out; have := HBW.out.size; omega, by have := HK.out.size; have := HZ3.out; omega⟩
          have HCOP : Hid (∀ X, Below wr.heap.size wr X → Calls Tryz.prog 94 #[.pointer (some ⟨pm, 0, none⟩), .agg #[.slice ia I.length ic, .slice aa A.length ac]] X fun e w' => ∃ bm bg bk, e = .returned (.func (.func 151) #[] #[.pointer (some ⟨bg, 0, none⟩), .pointer (some ⟨bk, 0, none⟩), .pointer (some ⟨bm, 0, none⟩)]) ∧ Below X.heap.size X w' ∧
                (w'.heap[bm]? = some (.cells #[.pointer (some ⟨pm, 0, none⟩)] 69 (0, 0)) ∧ w'.heap[bg]? = some (.cells #[.slice ia I.length ic, .slice aa A.length ac] 25 (0, 0)) ∧ w'.heap[bk]? = some (.cells #[.int .i64 ((1 + I.length : Nat) : Int)] 3 (0, 0))) ∧ X.heap.size ≤ bm ∧ X.heap.size ≤ bg ∧ X.heap.size ≤ bk) := fun X hX =>
            gcopier_any pm _ _ I A X (HIW.out.below hX (Nat.le_refl _)) (HA1.out.below (HBW.out.trans (hX.mono HBW.out.size)) (Nat.le_refl _)) h1
          have HCPD : Hid (∀ Y bm' bg bk b1, Below w7.heap.size w7 Y → (Y.heap[bm']? = some (.cells #[.pointer (some ⟨pm, 0, none⟩)] 69 (0, 0)) ∧ Y.heap[bg]? = some (.cells #[.slice ia I.length ic, .slice aa A.length ac] 25 (0, 0)) ∧ Y.heap[bk]? = some (.cells #[.int .i64 ((1 + I.length : Nat) : Int)] 3 (0, 0))) →
              (w7.heap.size ≤ bm' ∧ w7.heap.size ≤ bg ∧ w7.heap.size ≤ bk) → Y.cell? ⟨b1, 0, none⟩ = some (.map (some bm)) → Y.cell? ⟨b1 + 1, 0, none⟩ = some (.func (.func 96) #[.pointer (some ⟨pm, 0, none⟩)] #[]) → b1 + 1 < Y.heap.size →
              Calls Tryz.prog 151 #[.slice la l.length lc, .func (.func 153) #[] #[.pointer (some ⟨b1, 0, none⟩), .pointer (some ⟨b1 + 1, 0, none⟩)], .pointer (some ⟨bg, 0, none⟩), .pointer (some ⟨bk, 0, none⟩), .pointer (some ⟨bm', 0, none⟩)] Y fun e w' => ∃ v, e = .returned v ∧ Own w' Y.heap.size v (restC I A l a).1 ∧ MkE w' w6.heap.size pm J (restC I A l a).2 vi7 bf 0 ∧ KpM w6.heap.size pm bf Y w') := fun Y bm' bg bk b1 hY hobj hge c1 c2 hb1 => by
            have hwY : Below wr.heap.size wr Y := HW67.out.trans (hY.mono HW67.out.size)
            have hMY : MkE Y w6.heap.size pm J ([], false) vi7 bf 0 := HM7.out.below hY (Nat.le_refl _)
            have hold := HM7.out.old
            have hRC : restC I A l a = copyA (1 + J.length) I A (orA (fixF a) (fun v => 2 * placeA J v)) l ([], false) := by unfold restC restImg; rw [HJ.out]
            rw [hRC]
            refine gcopied_any hMY (Nat.le_trans HB7.out.size hY.size) (.slice ia I.length ic) (.slice aa A.length ac) _ _ I A l bg bk bm' (orA (fixF a) (fun v => 2 * placeA J v)) ?_ ?_ HPT.out.2.1 HPT.out.2.2 (fun v hv => ?_) HMP.out.1
            · exact copyAt_kp HIW.out (HA1.out.below HBW.out (Nat.le_refl _)) (HL1.out.below HBW.out (Nat.le_refl _)) hwY HB6.out.size hobj.1 hobj.2.1 hobj.2.2 ⟨by omega, by omega⟩ ⟨by omega, by omega⟩ ⟨by omega, by omega⟩
            · refine ⟨153, #[], #[.pointer (some ⟨b1, 0, none⟩), .pointer (some ⟨b1 + 1, 0, none⟩)], rfl, orElse_enters, fun X hX v hv => ?_⟩
              have hx := HIW.out.in64 v hv
              have d1 := (hX.cell (p := ⟨b1, 0, none⟩) (by show b1 < _; omega)).trans c1
              have d2 := (hX.cell (p := ⟨b1 + 1, 0, none⟩) (by show b1 + 1 < _; omega)).trans c2
              exact orElse1_any b1 (b1 + 1) bm n 96 #[.pointer (some ⟨pm, 0, none⟩)] #[] (fixF a) (fun v => 2 * placeA J v) v X d1 d2 (HM.out.below (hwY.trans (hX.mono hwY.size)) (Nat.le_refl _)) input_enters
                (input_any v (hMY.below hX (Nat.le_refl _)) (insB_lt HIR.out.1).2) hx.1 hx.2
            · have h := img_isE (J := J) (f := fixF a) (fun v y e => by rw [isE_true]; rcases fixF_01 a v y e with rfl | rfl <;> omega) v
              simpa using h
          have HS0 : Hid (Below wr.heap.size wr w7.drew) := HW67.out.drew
          have HWD : Hid (Below w7.heap.size w7 w7.drew) := (Below.refl _ w7).drew
          clear HCL HDF HMK HIR HV5 HB5 HV6 p0 p1 cbx
          refine wp_region_held_drew (S := fun X : World => Below wr.heap.size wr X) (by kernel_rfl) HS0.out (fun hSd => ?_)
          refine takeC (i := 0) (v := .pointer (some ⟨pm, 0, none⟩)) (some 48) rfl rfl (by kernel_rfl) (by kernel_rfl) (by kernel_rfl) (fun _ _ _ h => h) (Or.inl ⟨by rfl, ?_⟩) (by assumption) ?_
          · intro wz hSw; go_simp
          try simp only [Act.put, List.setIfInBounds_toArray, List.set_cons_zero, List.set_cons_succ]
          refine takeC (i := 1) (v := .agg #[.slice ia I.length ic, .slice aa A.length ac]) (some 49) rfl rfl (by kernel_rfl) (by kernel_rfl) (by kernel_rfl) (fun _ _ _ h => h) (Or.inl ⟨by rfl, ?_⟩) (by assumption) ?_
          · intro wz hSw; obtain ⟨t0, t1, _, _⟩ := box2_cells ((Below.block hSw w.heap.size (by have := HLT.out; omega)).trans HGR.out); go_simp
          try simp only [Act.put, List.setIfInBounds_toArray, List.set_cons_zero, List.set_cons_succ]
          refine takeC (i := 3) (v := .slice la l.length lc) (some 51) rfl rfl (by kernel_rfl) (by kernel_rfl) (by kernel_rfl) (fun _ _ _ h => h) (Or.inl ⟨by rfl, ?_⟩) (by assumption) ?_
          · intro wz hSw; go_simp
          try simp only [Act.put, List.setIfInBounds_toArray, List.set_cons_zero, List.set_cons_succ]
          refine takeC (i := 4) (v := .map (some bm)) (some 52) rfl rfl (by kernel_rfl) (by kernel_rfl) (by kernel_rfl) (fun _ _ _ h => h) (Or.inl ⟨by rfl, ?_⟩) (by assumption) ?_
          · intro wz hSw; have t0 := (Below.cell hSw (p := ⟨bm + 1, 0, none⟩) HLT.out.2).trans HCB.out; go_simp
          try simp only [Act.put, List.setIfInBounds_toArray, List.set_cons_zero, List.set_cons_succ]
          refine takeC (i := 5) (v := .pointer (some ⟨pm, 0, none⟩)) (some 53) rfl rfl (by kernel_rfl) (by kernel_rfl) (by kernel_rfl) (fun _ _ _ h => h) (Or.inl ⟨by rfl, ?_⟩) (by assumption) ?_
          · intro wz hSw; go_simp
          try simp only [Act.put, List.setIfInBounds_toArray, List.set_cons_zero, List.set_cons_succ]
          refine takeC (i := 6) (v := .func (.func 96) #[.pointer (some ⟨pm, 0, none⟩)] #[]) (some 54) rfl rfl (by kernel_rfl) (by kernel_rfl) (by kernel_rfl) (fun _ _ _ h => h) (Or.inl ⟨by rfl, ?_⟩) (by assumption) ?_
          · intro wz hSw; go_simp
          try simp only [Act.put, List.setIfInBounds_toArray, List.set_cons_zero, List.set_cons_succ]
          refine wpAnyH_ready (rs := [2]) (by kernel_rfl) (by simp) ?_
          refine AllReadyH.cons rfl (fun K hK => ?_) AllReadyH.nil
          go_simp
          go_wp2_with (go_at_call 94; go_loud (refine (HCOP.out _ HS0.out).mono ?_; rintro e w8 ⟨cm, cg, ck, rfl, hb8, ho8, hge⟩; have HB8 := Lib.hid hb8; have HO8 := Lib.hid ho8; have HGE := Lib.hid hge; clear hb8 ho8 hge))
          have HW8 := Lib.hid (HS0.out.trans (HB8.out.mono HS0.out.size))
          have HW78 := Lib.hid (HWD.out.trans HB8.out)
          refine hK.out _ _ HW8.out (fun hHn => ?_)
          clear hK K hHn
          try simp only [Act.put, List.setIfInBounds_toArray, List.set_cons_zero, List.set_cons_succ]
          refine wpAnyH_ready (rs := [7]) (by kernel_rfl) (by simp) ?_
          refine AllReadyH.cons rfl (fun K hK => ?_) AllReadyH.nil
          go_simp
          go_wp2_with (go_at_call 95; go_loud (refine (orElse_any bm 96 #[.pointer (some ⟨pm, 0, none⟩)] #[] w8).mono ?_; rintro e w9 ⟨rfl, hb9, hz9, c1, c2⟩; have HB9 := Lib.hid hb9; have HC1 := Lib.hid c1; have HC2 := Lib.hid c2; have HZ9 := Lib.hid hz9; clear hb9 c1 c2 hz9))
          have HW9 := Lib.hid (HW8.out.trans (HB9.out.mono HW8.out.size))
          have HW79 := Lib.hid (HW78.out.trans (HB9.out.mono HW78.out.size))
          have HCC := Lib.hid (HCPD.out w9 cm cg ck w8.heap.size HW79.out ⟨(HB9.out.block _ (Array.getElem?_eq_some_iff.1 HO8.out.1).1).trans HO8.out.1, (HB9.out.block _ (Array.getElem?_eq_some_iff.1 HO8.out.2.1).1).trans HO8.out.2.1, (HB9.out.block _ (Array.getElem?_eq_some_iff.1 HO8.out.2.2).1).trans HO8.out.2.2⟩ HGE.out HC1.out HC2.out (by have := HZ9.out; omega))
          refine hK.out _ _ HW9.out (fun hHn => ?_)
          clear hK K hHn HCPD HCOP
          try simp only [Act.put, List.setIfInBounds_toArray, List.set_cons_zero, List.set_cons_succ]
          refine wpAnyH_ready (rs := [8]) (by kernel_rfl) (by simp) ?_
          refine AllReadyH.cons rfl (fun K hK => ?_) AllReadyH.nil
          go_simp
          have ecop := copier1_enters
          go_wp2_with (go_at_call 151; go_loud (refine HCC.out.mono ?_; rintro e w10 ⟨v10, rfl, ho, hm, hk⟩; obtain ⟨xb, xd, rfl⟩ := own_shC ho; have HV10 := Lib.hid ho; have HM10 := Lib.hid hm; have HK10 := Lib.hid hk; clear ho hm hk))
          have HW10 := Lib.hid (HW9.out.trans (HK10.out.below.mono HB6.out.size))
          have hSw := HW10.out
          refine hK.out _ _ HW10.out (fun hHn => ?_)
          clear hK K hHn
          try simp only [Act.put, List.setIfInBounds_toArray, List.set_cons_zero, List.set_cons_succ]
          refine takeC (i := 9) (v := .slice xb (restC I A l a).1.length xd) (some 14) rfl rfl (by kernel_rfl) (by kernel_rfl) (by kernel_rfl) (fun _ _ _ h => h) (Or.inl ⟨by rfl, ?_⟩) (by assumption) ?_
          · intro wz hSw; go_simp
          try simp only [Act.put, List.setIfInBounds_toArray, List.set_cons_zero, List.set_cons_succ]
          refine wpAnyH_done (by kernel_rfl) ?_ _
          clear hSw
          obtain ⟨i7, j7, rfl⟩ := HM10.out.ins.1.shape
          have hB9 : w6.heap.size ≤ w9.heap.size := Nat.le_trans HB7.out.size HW79.out.size
          have HGRA := Lib.hid (graph_e HM10.out (Nat.le_trans hB9 HK10.out.below.size))
          have HFIN : Hid (∀ X va, w10.cell? ⟨pm, 2, none⟩ = some va → Below w10.heap.size w10 X → (X.cell? ⟨w.heap.size + 1, 0, none⟩ = some (.slice none 0 0) ∧ X.cell? ⟨w.heap.size + 1, 1, none⟩ = some (.slice none 0 0) ∧ X.frozen? ⟨w.heap.size + 1, 0, none⟩ = false ∧ X.frozen? ⟨w.heap.size + 1, 1, none⟩ = false) ∧
              (((X.setCell ⟨w.heap.size + 1, 0, none⟩ (.slice i7 J.length j7)).setCell ⟨w.heap.size + 1, 1, none⟩ va).cell? ⟨w.heap.size + 1, 0, none⟩ = some (.slice i7 J.length j7) ∧ ((X.setCell ⟨w.heap.size + 1, 0, none⟩ (.slice i7 J.length j7)).setCell ⟨w.heap.size + 1, 1, none⟩ va).cell? ⟨w.heap.size + 1, 1, none⟩ = some va) ∧
              ResPost w (restR I A l a) (.returned (.tuple #[.agg #[(.slice i7 J.length j7), va], .slice xb (restC I A l a).1.length xd, .int .i64 0])) ((X.setCell ⟨w.heap.size + 1, 0, none⟩ (.slice i7 J.length j7)).setCell ⟨w.heap.size + 1, 1, none⟩ va)) := fun X va hva hX => by
            have hwX := HW10.out.trans (hX.mono HW10.out.size)
            have hr := (hwX.block _ (by have := HLT.out; omega)).trans HRR.out
            have hc : w.heap.size + 1 < w6.heap.size := by have := HLT.out; have := HB6.out.size; omega
            have hg := (HM10.out.gr hva).below hX (Nat.le_refl _)
            have hx := HV10.out.below hX (Nat.le_refl _)
            refine ⟨box2_cells hr, box2_put hr _ _, ?_⟩
            rw [HE.out]
            have hle : w.heap.size ≤ w6.heap.size := by omega
            refine ⟨_, _, _, rfl, ?_, ?_, ?_⟩
            · have h := ((hg.set_far (n := 0) (u := (.slice i7 J.length j7)) hc).set_far (n := 1) (u := va) hc).mono hle
              rw [HJ.out]
              exact h
            · exact ((hx.set_far (n := 0) (u := (.slice i7 J.length j7)) (by omega)).set_far (n := 1) (u := va) (by omega)).mono (by omega)
            · exact (((HB0.out.trans (HBW.out.mono HB0.out.size)).trans (hwX.mono (by have := HLT.out; omega))).setCell (p := ⟨w.heap.size + 1, 0, none⟩) (by show _ ≤ _ + 1; omega) _).setCell (p := ⟨w.heap.size + 1, 1, none⟩) (by show _ ≤ _ + 1; omega) _
          clear HGR HCC HMP HPT
          go_wp2_with (go_at_call 97; go_loud (refine HGRA.out.mono ?_; rintro e w11 ⟨va, rfl, hva, hb11, hp11, _⟩; obtain ⟨va1, vc1, rfl, _⟩ := hp11.shape; clear hp11; obtain ⟨⟨c0, c1, f0, f1⟩, ⟨g0, g1⟩, hpost⟩ := HFIN.out w11 _ hva hb11; have HPO := Lib.hid hpost; clear hpost hb11 hva))
          exact ⟨rfl, .tuple #[.agg #[.slice i7 J.length j7, .slice va1 (restC I A l a).2.1.length vc1], .slice xb (restC I A l a).1.length xd, .int .i64 0], by simp [results, Tryz.f34, go_sem, g0, g1], HPO.out⟩
    · have hm : mayB a = false := by simpa using hm
      have HE : Hid (restR I A l a = (([], []), [], 2)) := by show _ = _; unfold restR; rw [hm]; simp
      rw [hh] at HH
      rw [hm] at HNO
      clear hm hh
      go_wp2_with (first
        | (go_at_call 76; refine (HNO.out w1 HB1.out).mono ?_; rintro e w2 ⟨rfl, rfl⟩; obtain ⟨⟨c0, c1, f0, f1⟩, ⟨g0, g1⟩, hpost⟩ := HBAD.out w1 HB1.out HE.out; have HPO := Lib.hid hpost; clear hpost)
        | (go_at_call 62; refine HH.out.mono ?_; rintro e w1 ⟨rfl, hb1⟩; have HB1 := Lib.hid hb1; clear hb1))
      exact ⟨rfl, .tuple #[.agg #[.slice none 0 0, .slice none 0 0], .slice none 0 0, .int .i64 2], by simp [results, Tryz.f34, go_sem, g0, g1], HPO.out⟩
  · have hh : hasA I A l = false := by simpa using hh
    have HE : Hid (restR I A l a = (([], []), [], 2)) := by show _ = _; unfold restR; rw [hh]; simp
    rw [hh] at HH
    clear hh
    go_wp2_with (go_at_call 62; refine HH.out.mono ?_; rintro e w1 ⟨rfl, hb1⟩; obtain ⟨⟨c0, c1, f0, f1⟩, ⟨g0, g1⟩, hpost⟩ := HBAD.out w1 hb1 HE.out; have HPO := Lib.hid hpost; clear hpost hb1)
    exact ⟨rfl, .tuple #[.agg #[.slice none 0 0, .slice none 0 0], .slice none 0 0, .int .i64 2], by simp [results, Tryz.f34, go_sem, g0, g1], HPO.out⟩
end Go.Proofs.YtppglbffmgnooaaGreat

/- aig.Cone, Edit and New (a graph without Ands), (*Maker).In. -/
namespace Go.Proofs.YtppglbffmgnooaaGreat
open Go.RowKit Go.Maps
set_option linter.unusedVariables false
set_option linter.unusedSimpArgs false

def coneR (I : List Int) (A : List Pr) (l : List Int) : (List Int × List Pr) × List Int × Int := restR I A l []
set_option maxRecDepth 100000 in
theorem gcone_any (vi va vl : Value) (I : List Int) (A : List Pr) (l : List Int) (w : World) (HI : IsInts w vi I) (HA : IsPairs w va A) (HL : IsInts w vl l) (h1 : I.length ≤ 4000000) (h2 : A.length ≤ 4000000) :
    Calls Tryz.prog 32 #[.agg #[vi, va], vl] w (ResPost w (coneR I A l)) := by
  have hb1 := below_alloc1 w (.cells #[vi, va] 25)
  have hb2 := below_alloc1 (w.alloc (.cells #[vi, va] 25)) (.cells #[.slice none 0 0, .slice none 0 0] 25)
  have hb0 : Below w.heap.size w ((w.alloc (.cells #[vi, va] 25)).alloc (.cells #[.slice none 0 0, .slice none 0 0] 25)) := hb1.trans (hb2.mono hb1.size)
  have hsz : ((w.alloc (.cells #[vi, va] 25)).alloc (.cells #[.slice none 0 0, .slice none 0 0] 25)).heap.size = w.heap.size + 2 := by simp
  have hgx : ((w.alloc (.cells #[vi, va] 25)).alloc (.cells #[.slice none 0 0, .slice none 0 0] 25)).heap[w.heap.size]? = some (.cells #[vi, va] 25 (0, 0)) := (hb2.block _ (by simp)).trans (World.alloc_heap_new _ _)
  have hrx : ((w.alloc (.cells #[vi, va] 25)).alloc (.cells #[.slice none 0 0, .slice none 0 0] 25)).heap[w.heap.size + 1]? = some (.cells #[.slice none 0 0, .slice none 0 0] 25 (0, 0)) := by
    have h := World.alloc_heap_new (w.alloc (.cells #[vi, va] 25)) (.cells #[.slice none 0 0, .slice none 0 0] 25)
    simpa using h
  have HI1 := HI.below hb0 (Nat.le_refl _)
  have HA1 := HA.below hb0 (Nat.le_refl _)
  have HL1 := HL.below hb0 (Nat.le_refl _)
  obtain ⟨ia, ic, rfl⟩ := HI.shape
  obtain ⟨aa, ac, rfl, _⟩ := HA.shape
  obtain ⟨la, lc, rfl⟩ := HL.shape
  clear HI HA HL hb1 hb2
  go_enter Tryz.func32, Tryz.ntmps32
  go_upto_region 1 with fail
  generalize World.alloc (World.alloc w _) _ = W at *
  have HR := Lib.hid (grestrict_any _ _ _ (.slice none 0 0) I A l [] W HI1 HA1 HL1 (GrO.nil W 0).ints.1 h1 h2 (by simp))
  have HB0 := Lib.hid hb0
  have HSZ := Lib.hid hsz
  have HRX := Lib.hid hrx
  obtain ⟨p0, p1, _, _⟩ := box2_cells hgx
  have HE : Hid (coneR I A l = restR I A l []) := rfl
  clear hb0 hsz hgx hrx HI1 HA1 HL1
  unfold ResPost at HR
  go_upto_region 2 with (go_at_call 34; go_loud (refine HR.out.mono ?_; rintro e w1 ⟨v1, v2, v3, rfl, hg, ho, hb⟩; obtain ⟨a1, d1, rfl⟩ := hg.ints.1.shape; obtain ⟨a2, d2, rfl, _⟩ := hg.ints.2.shape; obtain ⟨a3, d3, rfl⟩ := own_shC ho; have hr := (hb.block (w.heap.size + 1) (by have := HSZ.out; omega)).trans HRX.out; obtain ⟨c0, c1, f0, f1⟩ := box2_cells hr; obtain ⟨g0, g1⟩ := box2_put hr (.slice a1 (restR I A l []).1.1.length d1) (.slice a2 (restR I A l []).1.2.length d2); have HG := Lib.hid hg; have HO := Lib.hid ho; have HB := Lib.hid hb; clear hg ho hb hr))
  refine ⟨rfl, .tuple #[.agg #[.slice a1 (restR I A l []).1.1.length d1, .slice a2 (restR I A l []).1.2.length d2], .slice a3 (restR I A l []).2.1.length d3, .int .i64 (restR I A l []).2.2], by simp [results, Tryz.f32, go_sem, g0, g1], ?_⟩
  rw [HE.out]
  have hc : w.heap.size + 1 < W.heap.size := by rw [HSZ.out]; omega
  exact ⟨_, _, _, rfl, ((HG.out.set_far hc).set_far hc).mono (by omega), ((HO.out.set_far hc).set_far hc).mono (by omega), ((HB0.out.trans (HB.out.mono (by omega))).setCell (p := ⟨w.heap.size + 1, 0, none⟩) (by show _ ≤ _ + 1; omega) _).setCell (p := ⟨w.heap.size + 1, 1, none⟩) (by show _ ≤ _ + 1; omega) _⟩
theorem MkE.lower {w : World} {B B' pm : Nat} {I : List Int} {s : Mq} {vi : Value} {bf sl : Nat} (h : MkE w B pm I s vi bf sl) (hB : B' ≤ B) : MkE w B' pm I s vi bf sl := by
  obtain ⟨va, n, h⟩ := h
  exact ⟨va, n, h.lower hB⟩
set_option maxRecDepth 100000 in
theorem gedit0_any (vi va : Value) (I : List Int) (w : World) (HI : IsInts w vi I) (HA : IsPairs w va []) (hI : mayA I [] = true) :
    Calls Tryz.prog 42 #[.agg #[vi, va]] w fun r w' => ∃ pm vi' bf, r = .returned (.tuple #[.pointer (some ⟨pm, 0, none⟩), .int .i64 0]) ∧ MkE w' w.heap.size pm I ([], false) vi' bf 0 ∧ Below w.heap.size w w' := by
  have hb1 := below_alloc1 w (.cells #[vi, va] 25)
  have hmp := mayA_parts hI
  have hl : I.length ≤ 200000 := by have := hmp.1; omega
  have HI1 := HI.below hb1 (Nat.le_refl _)
  have HA1 := HA.below hb1 (Nat.le_refl _)
  obtain ⟨c0, c1⟩ := boxA_new w vi va
  obtain ⟨ia, ic, rfl⟩ := HI.shape
  obtain ⟨aa, ac, rfl, _⟩ := HA.shape
  have HM := gmay_any _ _ I [] (w.alloc (.cells #[.slice ia I.length ic, .slice aa ([] : List Pr).length ac] 25)) HI1 HA1 (by omega) (by simp)
  rw [hI] at HM
  have HMY := Lib.hid HM
  have HBX := Lib.hid (boxA_new w (.slice ia I.length ic) (.slice aa ([] : List Pr).length ac))
  have HK : Hid (∀ X, Below (w.heap.size + 1) (w.alloc (.cells #[.slice ia I.length ic, .slice aa ([] : List Pr).length ac] 25)) X → Calls Tryz.prog 91 #[.agg #[.slice ia I.length ic, .slice aa ([] : List Pr).length ac]] X fun r w' => ∃ pm vi' bf, r = .returned (.pointer (some ⟨pm, 0, none⟩)) ∧ MkE w' X.heap.size pm I ([], false) vi' bf 0 ∧ Below X.heap.size X w') := fun X hX =>
    maker0_any _ _ I X (HI1.below hX (by simp)) (HA1.below hX (by simp)) hmp.2.1 (by have := hmp.1; simpa using this)
  have HB1 := Lib.hid hb1
  clear HI HA HI1 HA1 HM hmp hI hb1
  go_enter Tryz.func42, Tryz.ntmps42
  go_upto_region 1 with fail
  have hsz : (w.alloc (.cells #[.slice ia I.length ic, .slice aa ([] : List Pr).length ac] 25)).heap.size = w.heap.size + 1 := by simp
  simp only [List.length_nil] at HMY HBX HK HB1 hsz ⊢
  generalize World.alloc w _ = W at *
  have HSZ := Lib.hid hsz
  clear hsz
  go_wp2_with (first
    | (go_at_call 91; go_loud (refine (HK.out w1 HX1.out).mono ?_; rintro e w2 ⟨pm, vi', bf, rfl, hm, hb⟩; have HM2 := Lib.hid hm; have HB2 := Lib.hid hb; clear hm hb))
    | (go_at_call 18; go_loud (refine HMY.out.mono ?_; rintro e w1 ⟨rfl, hb1⟩; have hx1 : Below (w.heap.size + 1) W w1 := (by rw [HSZ.out] at hb1; exact hb1); have HX1 := Lib.hid hx1; obtain ⟨q0, q1⟩ := HBX.out.below hx1 (by omega); clear hb1 hx1)))
  go_ret2
  have hz := HSZ.out
  exact ⟨pm, vi', bf, rfl, MkE.lower HM2.out (Nat.le_trans (by omega) HX1.out.size), HB1.out.trans ((HX1.out.mono (by omega)).trans (HB2.out.mono (Nat.le_trans (by omega) HX1.out.size)))⟩
set_option maxRecDepth 100000 in
theorem gnew_any (vi : Value) (I : List Int) (w : World) (HI : IsInts w vi I) (hI : mayA I [] = true) :
    Calls Tryz.prog 40 #[vi] w fun r w' => ∃ pm vi' bf, r = .returned (.tuple #[.pointer (some ⟨pm, 0, none⟩), .int .i64 0]) ∧ MkE w' w.heap.size pm I ([], false) vi' bf 0 ∧ Below w.heap.size w w' := by
  have HE := Lib.hid (gedit0_any vi (.slice none 0 0) I w HI (GrO.nil w 0).ints.2 hI)
  obtain ⟨ia, ic, rfl⟩ := HI.shape
  clear HI
  go_enter Tryz.func40, Tryz.ntmps40
  go_wp2_with (go_at_call 42; refine HE.out.mono ?_; rintro e w1 ⟨pm, vi', bf, rfl, hm, hb⟩; have HM := Lib.hid hm; have HB := Lib.hid hb; clear hm hb)
  go_ret2
  exact ⟨pm, vi', bf, rfl, HM.out, HB.out⟩
end Go.Proofs.YtppglbffmgnooaaGreat

/- aig.puts. -/
namespace Go.Proofs.YtppglbffmgnooaaGreat
open Go.RowKit Go.Maps
set_option linter.unusedVariables false
set_option linter.unusedSimpArgs false

def putStep (n : Nat) (f : Int → Option Int) (o : Pr) : Option (Int → Option Int) := if (f o.1).isSome = true ∨ isE o.2 n = false then none else some (updM f o.1 o.2)
/-- Which edges are put in the place of which variables; none: two for one variable, or no edge. -/
def putsA (n : Nat) (by' : List Pr) : Option (Int → Option Int) := by'.foldl (fun s o => s.bind (fun f => putStep n f o)) (some (fun _ => none))
theorem puts_none (n : Nat) : ∀ l : List Pr, l.foldl (fun s o => s.bind (fun f => putStep n f o)) none = none
  | [] => rfl
  | o :: r => by rw [List.foldl_cons]; exact puts_none n r
theorem take_prS {A : List Pr} {k : Nat} (h : k < A.length) : A.take (k + 1) = A.take k ++ [A.getD k dPr] := by
  rw [List.take_succ_eq_append_getElem h]
  simp [List.getD, h]
theorem puts_succ {n : Nat} {B : List Pr} {k : Nat} {f : Int → Option Int} (h : k < B.length) (hf : putsA n (B.take k) = some f) : putsA n (B.take (k + 1)) = putStep n f (B.getD k dPr) := by
  unfold putsA at hf ⊢
  rw [take_prS h, List.foldl_append, hf]
  rfl
theorem puts_stop {n : Nat} {B : List Pr} {k : Nat} (h : putsA n (B.take k) = none) : putsA n B = none := by
  unfold putsA at h ⊢
  rw [show B.foldl (fun s o => s.bind (fun f => putStep n f o)) (some (fun _ => none)) = (B.take k ++ B.drop k).foldl (fun s o => s.bind (fun f => putStep n f o)) (some (fun _ => none)) from by rw [List.take_append_drop], List.foldl_append, h]
  exact puts_none n _
set_option maxRecDepth 100000 in
set_option maxHeartbeats 1600000 in
theorem gputs_any (vb : Value) (B : List Pr) (n : Nat) (w : World) (HB : IsPairs w vb B) (hl : B.length ≤ 4000000) (hn : n ≤ 17592186044416) :
    Calls Tryz.prog 99 #[vb, .int .i64 (n : Int)] w fun e w' => Below w.heap.size w w' ∧ ((putsA n B = none ∧ e = .returned (.tuple #[.map none, .bool false])) ∨ ∃ f m, putsA n B = some f ∧ e = .returned (.tuple #[.map (some w.heap.size), .bool true]) ∧ MapM w' w.heap.size m f ∧ m ≤ B.length) := by
  have HP : Hid (InP B) := by obtain ⟨_, _, _, _, _, _, h, _⟩ := HB; exact h
  have hb0 := below_alloc1 w (.map #[] 0)
  have HM0 := Lib.hid (MapM.made w)
  have HB1 := Lib.hid HB
  obtain ⟨ba, bc, rfl, _⟩ := HB.shape
  clear HB
  have hmm := @run_makeMap Tryz.prog
  go_enter Tryz.func99, Tryz.ntmps99
  go_upto_region 2 with fail
  have hsz : (w.alloc (.map #[] 0)).heap.size = w.heap.size + 1 := by simp
  have HB0 := Lib.hid hb0
  generalize w.alloc (.map #[] 0) = W at *
  have HSZ := Lib.hid hsz
  clear hb0 hsz hmm
  go_wp2
  go_loopw [14] (fun s14 wr => ∃ (k m : Nat) (f : Int → Option Int), k ≤ B.length ∧ s14 = .int .i64 k ∧ m ≤ k ∧ Hid (putsA n (B.take k) = some f) ∧ MapM wr w.heap.size m f ∧ Kept (fun j => j = w.heap.size) W wr) (fun s14 _ => B.length - (intOf s14).toNat)
  case atStart => exact ⟨0, 0, _, Nat.zero_le _, rfl, Nat.le_refl _, rfl, HM0.out, Kept.refl _ _⟩
  case round =>
    obtain ⟨k, m, f, hk, rfl, hm, HPU, hmp, hkp⟩ := hrel
    have HM := Lib.hid hmp
    have HK := Lib.hid hkp
    have hbw : Below w.heap.size w wr := HB0.out.trans (hkp.below HB0.out.size (fun j hj e => by have : j = w.heap.size := e; omega))
    have HBW := Lib.hid hbw
    clear hmp hkp hbw
    by_cases hlt : k < B.length
    · obtain ⟨b, off, rfl, hbl, hx0, hy0⟩ := HB1.out.at hlt
      have hin := HP.out _ (show B.getD k dPr ∈ B by simp [List.getD, hlt])
      have HST := Lib.hid (puts_succ hlt HPU.out)
      have HKL := Lib.hid hlt
      have hkb : k < 4000000 := by omega
      have hx := (HBW.out.cell (p := ⟨b, off + k * 2, none⟩) hbl).trans hx0
      have hy := (HBW.out.cell (p := ⟨b, off + k * 2 + 1, none⟩) hbl).trans hy0
      clear hx0 hy0 hlt
      generalize B.getD k dPr = o at *
      obtain ⟨v, e⟩ := o
      simp only at hx hy hin HST
      obtain ⟨⟨v0, v1⟩, e0, e1⟩ := hin
      have hba := below_alloc1 wr (.cells #[.int .i64 v, .int .i64 e] 90)
      have HMA := Lib.hid (HM.out.below hba (Nat.le_refl _))
      have hlk := HMA.out.look_ok v (i64w v0 v1)
      have HIE := Lib.hid (fun X => isEdge_any e n X e0 e1 hn)
      have HKA : Hid (Kept (fun j => j = w.heap.size) W (wr.alloc (.cells #[.int .i64 v, .int .i64 e] 90))) := HK.out.trans (Kept.alloc _ _ _)
      have HBA := Lib.hid (HBW.out.trans (hba.mono HBW.out.size))
      have hbx : (wr.alloc (.cells #[.int .i64 v, .int .i64 e] 90)).heap[wr.heap.size]? = some (.cells #[.int .i64 v, .int .i64 e] 90 (0, 0)) := World.alloc_heap_new _ _
      have HX := Lib.hid hbx
      clear hba hbx
      by_cases c1 : (f v).isSome = true
      · have HN : Hid (putsA n B = none) := puts_stop (k := k + 1) (by rw [HST.out]; unfold putStep; rw [if_pos (.inl c1)])
        rw [c1] at hlk
        obtain ⟨x0, x1, _, _⟩ := box2_cells HX.out
        clear c1 HST HIE
        go_wp2
        go_ret2
        exact ⟨HBA.out, .inl ⟨HN.out, rfl⟩⟩
      · have c1 : (f v).isSome = false := by simpa using c1
        rw [c1] at hlk
        by_cases c2 : isE e n = true
        · have HU : Hid (putsA n (B.take (k + 1)) = some (updM f v e)) := by
            show _ = _
            rw [HST.out]; unfold putStep
            rw [if_neg]
            rintro (h | h)
            · rw [c1] at h; cases h
            · rw [show isE (v, e).2 n = true from c2] at h; cases h
          rw [c2] at HIE
          obtain ⟨x0, x1, _, _⟩ := box2_cells HX.out
          clear c1 c2 HST
          go_upto_region 8 with (go_at_call 68; go_loud (refine (HIE.out _).mono ?_; rintro er w2 ⟨rfl, hq⟩; have HQ2 := Lib.hid hq; clear hq))
          have y0 := (HQ2.out.cell _).trans x0
          have y1 := (HQ2.out.cell _).trans x1
          have HM2 := Lib.hid (HMA.out.below (HQ2.out.below _) (Nat.le_refl _))
          have HK2 : Hid (Kept (fun j => j = w.heap.size) W w2) := HKA.out.trans (by obtain ⟨mq, rfl⟩ := HQ2.out; exact ⟨rfl, rfl, rfl, Nat.le_refl _, fun _ _ _ => rfl⟩)
          obtain ⟨w4, hrun, hm4, hk4⟩ := HM2.out.put (by unfold maxLen; omega) v e (i64w v0 v1) (i64w e0 e1)
          have HM4 := Lib.hid hm4
          have HK4 := Lib.hid (HK2.out.trans hk4)
          have HMK : Hid (m + 1 ≤ k + 1) := Nat.succ_le_succ hm
          clear x0 x1 hm4 hk4 hlk
          go_wp2
          go_roundw
          case rel => exact ⟨k + 1, m + 1, _, HKL.out, by go_num, HMK.out, HU.out, HM4.out, HK4.out⟩
          case measure => have := HKL.out; simp [intOf]; omega
        · have c2 : isE e n = false := by simpa using c2
          have HN : Hid (putsA n B = none) := puts_stop (k := k + 1) (by rw [HST.out]; unfold putStep; rw [if_pos (.inr c2)])
          rw [c2] at HIE
          obtain ⟨x0, x1, _, _⟩ := box2_cells HX.out
          clear c1 c2 HST
          go_wp2_with (go_at_call 68; refine (HIE.out _).mono ?_; rintro er w2 ⟨rfl, hq⟩)
          go_ret2
          exact ⟨HBA.out.trans ((hq.below _).mono HBA.out.size), .inl ⟨HN.out, rfl⟩⟩
    · obtain rfl : k = B.length := by omega
      have HPX : Hid (putsA n B = some f) := by have h := HPU.out; rw [List.take_length] at h; exact h
      clear HPU
      go_wp2
      go_ret2
      exact ⟨HBW.out, .inr ⟨f, m, HPX.out, rfl, HM.out, hm⟩⟩
end Go.Proofs.YtppglbffmgnooaaGreat

/- Pure: what Compose makes. -/
namespace Go.Proofs.YtppglbffmgnooaaGreat
open Go.RowKit Go.Maps
set_option linter.unusedVariables false
set_option linter.unusedSimpArgs false

def errR (c : Int) : (List Int × List Pr) × List Int × Int := (([], []), [], c)
def inpA (I : List Int) (v : Int) : Int := 2 * placeA I v
/-- The map, once the images stand in it. -/
def zipF (B : List Pr) (xs : List Int) (f : Int → Option Int) : Int → Option Int := (B.zip xs).foldl (fun f p => updM f p.1.1 p.2) f
def comp1 (I : List Int) (A B : List Pr) : List Int × Mq := copyA (1 + I.length) I A (inpA I) (B.map (·.2)) ([], false)
def comp2 (I : List Int) (A : List Pr) (l : List Int) (B : List Pr) (f : Int → Option Int) : List Int × Mq := copyA (1 + I.length) I A (orA (zipF B (comp1 I A B).1 f) (inpA I)) l (comp1 I A B).2
def hasAll (I : List Int) (B : List Pr) : Bool := B.all (fun o => decide (placeA I o.1 ≠ 0))
def composeR (I : List Int) (A : List Pr) (l : List Int) (B : List Pr) : (List Int × List Pr) × List Int × Int :=
  match putsA (1 + I.length + A.length) B with
  | none => errR 2
  | some f => if hasA I A l = false then errR 2 else if hasAll I B = false then errR 6 else if (comp2 I A l B f).2.2 = true then errR 3 else ((I, (comp2 I A l B f).2.1), (comp2 I A l B f).1, 0)
theorem zip_says : ∀ (B : List Pr) (xs : List Int) (f : Int → Option Int) (v y : Int), (B.zip xs).foldl (fun f p => updM f p.1.1 p.2) f v = some y → y ∈ xs ∨ (f v = some y ∧ ∀ p ∈ B.zip xs, p.1.1 ≠ v)
  | [], xs, f, v, y, h => .inr ⟨h, fun p hp => by simp at hp⟩
  | o :: r, [], f, v, y, h => .inr ⟨h, fun p hp => by simp at hp⟩
  | o :: r, x :: xs, f, v, y, h => by
    rw [List.zip_cons_cons, List.foldl_cons] at h
    rcases zip_says r xs _ v y h with h1 | ⟨h1, h2⟩
    · exact .inl (List.mem_cons_of_mem _ h1)
    · unfold updM at h1
      split at h1
      · injection h1 with h1
        exact .inl (by rw [← h1]; exact List.mem_cons_self)
      · rename_i hne
        refine .inr ⟨h1, fun p hp => ?_⟩
        rcases List.mem_cons.1 hp with rfl | hp
        · exact fun e => hne e.symm
        · exact h2 p hp
theorem puts_dom (n : Nat) : ∀ (B : List Pr) (f g : Int → Option Int), B.foldl (fun s o => s.bind (fun f => putStep n f o)) (some f) = some g → ∀ v y, g v = some y → (f v = some y ∨ ∃ o ∈ B, o.1 = v ∧ o.2 = y ∧ isE y n = true)
  | [], f, g, h, v, y, hy => by injection h with h; rw [← h] at hy; exact .inl hy
  | o :: r, f, g, h, v, y, hy => by
    rw [List.foldl_cons, show (some f).bind (fun f => putStep n f o) = putStep n f o from rfl] at h
    by_cases hno : (f o.1).isSome = true ∨ isE o.2 n = false
    · rw [show putStep n f o = none from if_pos hno, puts_none] at h; cases h
    · rw [show putStep n f o = some (updM f o.1 o.2) from if_neg hno] at h
      rcases puts_dom n r _ g h v y hy with h1 | ⟨o', ho, h2⟩
      · unfold updM at h1
        split at h1
        · rename_i hv
          injection h1 with h1
          refine .inr ⟨o, List.mem_cons_self, hv.symm, h1, ?_⟩
          cases e : isE o.2 n with
          | true => rw [← h1]; exact e
          | false => exact absurd (.inr e) hno
        · exact .inl h1
      · exact .inr ⟨o', List.mem_cons_of_mem _ ho, h2⟩
theorem puts_edges {n : Nat} {B : List Pr} {f : Int → Option Int} (h : putsA n B = some f) : edgesB (B.map (·.2)) n = true := by
  have hg : ∀ (B : List Pr) (f g : Int → Option Int), B.foldl (fun s o => s.bind (fun f => putStep n f o)) (some f) = some g → ∀ o ∈ B, isE o.2 n = true := by
    intro B
    induction B with
    | nil => intro f g _ o ho; cases ho
    | cons o r ih =>
      intro f g h o' ho'
      rw [List.foldl_cons, show (some f).bind (fun f => putStep n f o) = putStep n f o from rfl] at h
      by_cases hno : (f o.1).isSome = true ∨ isE o.2 n = false
      · rw [show putStep n f o = none from if_pos hno, puts_none] at h; cases h
      · rw [show putStep n f o = some (updM f o.1 o.2) from if_neg hno] at h
        rcases List.mem_cons.1 ho' with rfl | ho'
        · cases e : isE o'.2 n with
          | true => rfl
          | false => exact absurd (.inr e) hno
        · exact ih _ g h o' ho'
  rw [edgesB_true]
  intro e he
  obtain ⟨o, ho, rfl⟩ := List.mem_map.1 he
  exact isE_true.1 (hg B _ f h o ho)
theorem zip_img {n : Nat} {B : List Pr} {xs : List Int} {f : Int → Option Int} (h : putsA n B = some f) (hl : xs.length = B.length) {v y : Int} (hy : zipF B xs f v = some y) : y ∈ xs := by
  rcases zip_says B xs f v y hy with h1 | ⟨h1, h2⟩
  · exact h1
  · rcases puts_dom n B _ f h v y h1 with h3 | ⟨o, ho, h3, _⟩
    · cases h3
    · exfalso
      obtain ⟨j, hj, rfl⟩ := List.mem_iff_getElem.1 ho
      have hz : j < (B.zip xs).length := by rw [List.length_zip]; omega
      refine h2 ((B.zip xs)[j]) (List.getElem_mem hz) ?_
      rw [List.getElem_zip]
      exact h3
theorem inpA_isE (I : List Int) (v : Int) : isE (inpA I v) (1 + I.length) = true := by
  have := placeA_bd I v
  unfold inpA
  rw [isE_true]
  omega
theorem MkE.keptLow {w w' : World} {B pm : Nat} {I : List Int} {s : Mq} {vi : Value} {bf sl : Nat} {S : Nat → Prop} (h : MkE w B pm I s vi bf sl) (k : Kept S w w') (hS : ∀ j, S j → j < B) : MkE w' B pm I s vi bf sl := by
  obtain ⟨va, n, h⟩ := h
  have hlb := h.lb
  refine ⟨va, n, (k.block pm h.lt (fun e => by have := hS _ e; omega)).trans h.box, ?_, h.i64, h.il, h.row.kept k (fun g hg e => by have := (h.row.lt g hg).1; have := hS _ e; omega), h.map.kept k (fun e => by have := hS _ e; omega), h.cap, h.slk, h.ok, h.inp, h.lb⟩
  rcases h.ins with hi | hi
  · exact .inl (k.row hi (fun g hg e => by have := (hi.lt g hg).1; have := hS _ e; omega))
  · exact .inr hi
theorem zipF_succ {B : List Pr} {xs : List Int} {f : Int → Option Int} {k : Nat} (h : k < B.length) (hx : k < xs.length) : zipF (B.take (k + 1)) (xs.take (k + 1)) f = updM (zipF (B.take k) (xs.take k) f) (B.getD k dPr).1 (xs.getD k 0) := by
  unfold zipF
  rw [take_prS h, ints_take_succ hx, List.zip_append (by rw [List.length_take, List.length_take]; omega), List.foldl_append]
  rfl
end Go.Proofs.YtppglbffmgnooaaGreat
