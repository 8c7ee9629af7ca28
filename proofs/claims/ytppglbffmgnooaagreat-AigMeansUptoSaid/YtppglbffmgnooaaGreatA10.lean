/- Joined texts: AgComp, AgGraph, AgGate. -/
import Derived.Test.YtppglbffmgnooaaGreatA09
/- aig.Compose. -/
namespace Go.Proofs.YtppglbffmgnooaaGreat
open Go.RowKit Go.Maps
set_option linter.unusedVariables false
set_option linter.unusedSimpArgs false

theorem own_hitA {w : World} {B : Nat} {a : Option Addr} {n c : Nat} {xs : List Int} (h : Own w B (.slice a n c) xs) {k : Nat} (hk : k < xs.length) : ∃ g, a = some ⟨g, 0, none⟩ ∧ B ≤ g ∧ g < w.heap.size ∧ w.cell? ⟨g, k, none⟩ = some (.int .i64 (xs.getD k 0)) := by
  have h0 := h
  rcases h.2 with ⟨_, h2⟩ | ⟨g, cap, cur, hv, hB, hg, _⟩
  · omega
  · injection hv with e1 e2 e3
    subst e1
    exact ⟨g, rfl, hB, (Array.getElem?_eq_some_iff.1 hg).1, Own.cell h0 k hk⟩
theorem MkE.lbs {w : World} {B pm : Nat} {I : List Int} {s : Mq} {vi : Value} {bf sl : Nat} (h : MkE w B pm I s vi bf sl) : B ≤ pm := by
  obtain ⟨va, n, h⟩ := h
  exact h.lb.1
theorem hasAll_bad {I : List Int} {B : List Pr} {k : Nat} (h : k < B.length) (hp : placeA I (B.getD k dPr).1 = 0) : hasAll I B = false := by
  unfold hasAll
  rw [List.all_eq_false]
  exact ⟨B.getD k dPr, by simp [List.getD, h], by rw [decide_eq_true_eq]; exact fun h => h hp⟩
theorem hasAll_good {I : List Int} {B : List Pr} (h : ∀ j, j < B.length → placeA I (B.getD j dPr).1 ≠ 0) : hasAll I B = true := by
  unfold hasAll
  rw [List.all_eq_true]
  intro o ho
  obtain ⟨j, hj, rfl⟩ := List.mem_iff_getElem.1 ho
  have := h j hj
  simpa [List.getD, hj] using this
set_option maxRecDepth 100000 in
set_option maxHeartbeats 6400000 in
theorem gcompose_any (vi va vl vb : Value) (I : List Int) (A : List Pr) (l : List Int) (B : List Pr) (w : World) (HI : IsInts w vi I) (HA : IsPairs w va A) (HL : IsInts w vl l) (HBY : IsPairs w vb B) (h1 : I.length ≤ 4000000) (h2 : A.length ≤ 4000000) (h3 : B.length ≤ 4000000) :
    Calls Tryz.prog 36 #[.agg #[vi, va], vl, vb] w (ResPost w (composeR I A l B)) := by
  have hb1 := below_alloc1 w (.cells #[vi, va] 25)
  have hb2 := below_alloc1 (w.alloc (.cells #[vi, va] 25)) (.cells #[.slice none 0 0, .slice none 0 0] 25)
  have hb0 : Below w.heap.size w ((w.alloc (.cells #[vi, va] 25)).alloc (.cells #[.slice none 0 0, .slice none 0 0] 25)) := hb1.trans (hb2.mono hb1.size)
  have hsz : ((w.alloc (.cells #[vi, va] 25)).alloc (.cells #[.slice none 0 0, .slice none 0 0] 25)).heap.size = w.heap.size + 2 := by simp
  have hgx : ((w.alloc (.cells #[vi, va] 25)).alloc (.cells #[.slice none 0 0, .slice none 0 0] 25)).heap[w.heap.size]? = some (.cells #[vi, va] 25 (0, 0)) := (hb2.block _ (by simp)).trans (World.alloc_heap_new _ _)
  have hrx : ((w.alloc (.cells #[vi, va] 25)).alloc (.cells #[.slice none 0 0, .slice none 0 0] 25)).heap[w.heap.size + 1]? = some (.cells #[.slice none 0 0, .slice none 0 0] 25 (0, 0)) := by
    have h := World.alloc_heap_new (w.alloc (.cells #[vi, va] 25)) (.cells #[.slice none 0 0, .slice none 0 0] 25)
    simpa using h
  have HI1 := Lib.hid (HI.below hb0 (Nat.le_refl _))
  have HA1 := Lib.hid (HA.below hb0 (Nat.le_refl _))
  have HL1 := Lib.hid (HL.below hb0 (Nat.le_refl _))
  have HY1 := Lib.hid (HBY.below hb0 (Nat.le_refl _))
  obtain ⟨ia, ic, rfl⟩ := HI.shape
  obtain ⟨aa, ac, rfl, _⟩ := HA.shape
  obtain ⟨la, lc, rfl⟩ := HL.shape
  obtain ⟨ya, yc, rfl, _⟩ := HBY.shape
  have HYP := Lib.hid HBY.inP
  clear HI HA HL HBY hb1 hb2
  go_enter Tryz.func36, Tryz.ntmps36
  go_upto_region 1 with fail
  generalize World.alloc (World.alloc w _) _ = W at *
  have HB0 := Lib.hid hb0
  have HSZ := Lib.hid hsz
  have HGX := Lib.hid hgx
  have HRX := Lib.hid hrx
  obtain ⟨p0, p1, _, _⟩ := box2_cells hgx
  clear hb0 hsz hgx hrx
  have HND := Lib.hid (nodes_any _ _ I A W HI1.out HA1.out h1 h2)
  have HPT : Hid (∀ X, Below W.heap.size W X → Calls Tryz.prog 99 #[.slice ya B.length yc, .int .i64 ((1 + I.length + A.length : Nat) : Int)] X fun e w' => Below X.heap.size X w' ∧ ((putsA (1 + I.length + A.length) B = none ∧ e = .returned (.tuple #[.map none, .bool false])) ∨ ∃ f m, putsA (1 + I.length + A.length) B = some f ∧ e = .returned (.tuple #[.map (some X.heap.size), .bool true]) ∧ MapM w' X.heap.size m f ∧ m ≤ B.length)) := fun X hX =>
    gputs_any _ B _ X (HY1.out.below hX (Nat.le_refl _)) h3 (by omega)
  have HH : Hid (∀ X, Below W.heap.size W X → Calls Tryz.prog 62 #[.agg #[.slice ia I.length ic, .slice aa A.length ac], .slice la l.length lc] X fun r w' => r = .returned (.bool (hasA I A l)) ∧ Below X.heap.size X w') := fun X hX =>
    ghas_any _ _ _ I A l X (HI1.out.below hX (Nat.le_refl _)) (HA1.out.below hX (Nat.le_refl _)) (HL1.out.below hX (Nat.le_refl _)) h1 h2
  have HBAD : Hid (∀ X c, Below W.heap.size W X → composeR I A l B = errR c → (X.cell? ⟨w.heap.size + 1, 0, none⟩ = some (.slice none 0 0) ∧ X.cell? ⟨w.heap.size + 1, 1, none⟩ = some (.slice none 0 0) ∧ X.frozen? ⟨w.heap.size + 1, 0, none⟩ = false ∧ X.frozen? ⟨w.heap.size + 1, 1, none⟩ = false) ∧
      (((X.setCell ⟨w.heap.size + 1, 0, none⟩ (.slice none 0 0)).setCell ⟨w.heap.size + 1, 1, none⟩ (.slice none 0 0)).cell? ⟨w.heap.size + 1, 0, none⟩ = some (.slice none 0 0) ∧ ((X.setCell ⟨w.heap.size + 1, 0, none⟩ (.slice none 0 0)).setCell ⟨w.heap.size + 1, 1, none⟩ (.slice none 0 0)).cell? ⟨w.heap.size + 1, 1, none⟩ = some (.slice none 0 0)) ∧
      ResPost w (composeR I A l B) (.returned (.tuple #[.agg #[.slice none 0 0, .slice none 0 0], .slice none 0 0, .int .i64 c])) ((X.setCell ⟨w.heap.size + 1, 0, none⟩ (.slice none 0 0)).setCell ⟨w.heap.size + 1, 1, none⟩ (.slice none 0 0))) := fun X c hX he => by
    have hr := (hX.block _ (by have := HSZ.out; omega)).trans HRX.out
    refine ⟨box2_cells hr, box2_put hr _ _, ?_⟩
    rw [he]
    exact ⟨_, _, _, rfl, GrO.nil _ _, Own.nil _ _, ((HB0.out.trans (hX.mono HB0.out.size)).setCell (p := ⟨w.heap.size + 1, 0, none⟩) (by show _ ≤ _ + 1; omega) _).setCell (p := ⟨w.heap.size + 1, 1, none⟩) (by show _ ≤ _ + 1; omega) _⟩
  have HGB : Hid (∀ X, Below W.heap.size W X → X.cell? ⟨w.heap.size, 0, none⟩ = some (.slice ia I.length ic) ∧ X.cell? ⟨w.heap.size, 1, none⟩ = some (.slice aa A.length ac)) := fun X hX => by
    obtain ⟨q0, q1, _, _⟩ := box2_cells ((hX.block w.heap.size (by have := HSZ.out; omega)).trans HGX.out)
    exact ⟨q0, q1⟩
  cases hpu : putsA (1 + I.length + A.length) B with
  | none =>
    have HE : Hid (composeR I A l B = errR 2) := by show _ = _; unfold composeR; rw [hpu]
    have HPN : Hid (∀ X, Below W.heap.size W X → Calls Tryz.prog 99 #[.slice ya B.length yc, .int .i64 ((1 + I.length + A.length : Nat) : Int)] X fun e w' => e = .returned (.tuple #[.map none, .bool false]) ∧ Below X.heap.size X w') := fun X hX => (HPT.out X hX).mono fun e w' h => by
      rcases h with ⟨hb, ⟨_, e1⟩ | ⟨f, m, e1, _⟩⟩
      · exact ⟨e1, hb⟩
      · rw [hpu] at e1; cases e1
    clear HPT hpu HH HGB
    go_wp2_with (first
      | (go_at_call 99; go_loud (refine (HPN.out w1 hb1).mono ?_; rintro e w2 ⟨rfl, hb2⟩; obtain ⟨⟨c0, c1, f0, f1⟩, ⟨g0, g1⟩, hpost⟩ := HBAD.out w2 2 (hb1.trans (hb2.mono hb1.size)) HE.out; have HPO := Lib.hid hpost; clear hpost hb2 hb1))
      | (go_at_call 66; refine HND.out.mono ?_; rintro e w1 ⟨rfl, hb1⟩))
    exact ⟨rfl, .tuple #[.agg #[.slice none 0 0, .slice none 0 0], .slice none 0 0, .int .i64 2], by simp [results, Tryz.f36, go_sem, g0, g1], HPO.out⟩
  | some f =>
    have HPS : Hid (∀ X, Below W.heap.size W X → Calls Tryz.prog 99 #[.slice ya B.length yc, .int .i64 ((1 + I.length + A.length : Nat) : Int)] X fun e w' => e = .returned (.tuple #[.map (some X.heap.size), .bool true]) ∧ Below X.heap.size X w' ∧ ∃ m, MapM w' X.heap.size m f ∧ m ≤ B.length) := fun X hX => (HPT.out X hX).mono fun e w' h => by
      rcases h with ⟨hb, ⟨e1, _⟩ | ⟨f', m, e1, e2, e3, e4⟩⟩
      · rw [hpu] at e1; cases e1
      · rw [hpu] at e1; injection e1 with e1; subst e1; exact ⟨e2, hb, m, e3, e4⟩
    have HPU := Lib.hid hpu
    clear HPT hpu
    go_upto_region 2 with (first
      | (go_at_call 99; go_loud (refine (HPS.out w1 HB1.out).mono ?_; rintro e w2 ⟨rfl, hb2, m0, hm2, hml⟩; have HB2 := Lib.hid (HB1.out.trans (hb2.mono HB1.out.size)); have HM2 := Lib.hid hm2; have HML := Lib.hid hml; have HMW := Lib.hid hm2.lt; clear hb2 hm2 hml))
      | (go_at_call 66; refine HND.out.mono ?_; rintro e w1 ⟨rfl, hb1⟩; have HB1 := Lib.hid hb1; clear hb1))
    have hbm : W.heap.size ≤ w1.heap.size := HB1.out.size
    have HBM := Lib.hid hbm
    generalize w1.heap.size = bm at *
    obtain ⟨p0, p1⟩ := HGB.out w2 HB2.out
    have HHX := Lib.hid (HH.out w2 HB2.out)
    clear HPS HND HB1 hbm
    by_cases hh : hasA I A l = true
    · have hpart := hasA_parts hh
      have hmp := mayA_parts hpart.1
      have HPT := Lib.hid hpart
      have HMP := Lib.hid hmp
      have HSRT := Lib.hid (insB_lt hmp.2.1).2
      have HE0 : Hid (composeR I A l B = if hasAll I B = false then errR 6 else if (comp2 I A l B f).2.2 = true then errR 3 else ((I, (comp2 I A l B f).2.1), (comp2 I A l B f).1, 0)) := by show _ = _; unfold composeR; rw [HPU.out]; simp [hh]
      have hil : I.length ≤ 200000 := by have := hmp.1; omega
      rw [hh] at HHX
      clear hh hpart hmp
      go_upto_region 5 with (go_at_call 62; refine HHX.out.mono ?_; rintro e w3 ⟨rfl, hb3⟩; have HB3 := Lib.hid (HB2.out.trans (hb3.mono HB2.out.size)); have HM3 := Lib.hid (HM2.out.below hb3 (Nat.le_refl _)); have HLT3 := Lib.hid (Nat.lt_of_lt_of_le HMW.out hb3.size); clear hb3)
      clear HHX HM2 HB2 p0 p1
      go_wp2
      go_loopw [11, 37] (fun s11 s37 wr => ∃ k : Nat, k ≤ B.length ∧ s37 = .int .i64 k ∧ Own wr w3.heap.size s11 ((B.take k).map (·.2)) ∧ Below w3.heap.size w3 wr ∧ Hid (∀ j, j < k → placeA I (B.getD j dPr).1 ≠ 0)) (fun _ s37 _ => B.length - (intOf s37).toNat)
      case atStart => exact ⟨0, Nat.zero_le _, rfl, Own.nil _ _, Below.refl _ _, fun j hj => absurd hj (Nat.not_lt_zero _)⟩
      case round =>
        obtain ⟨k, hk, rfl, ho, hb, HNZ⟩ := hrel
        have HO := Lib.hid ho
        have HBR := Lib.hid hb
        have hbw : Below W.heap.size W wr := HB3.out.trans (hb.mono HB3.out.size)
        have HBW := Lib.hid hbw
        clear ho hb hbw
        by_cases hlt : k < B.length
        · obtain ⟨b, off, rfl, hbl, hx0, hy0⟩ := HY1.out.at hlt
          have hx := (HBW.out.cell (p := ⟨b, off + k * 2, none⟩) hbl).trans hx0
          have hy := (HBW.out.cell (p := ⟨b, off + k * 2 + 1, none⟩) hbl).trans hy0
          have HTK : Hid ((B.take (k + 1)).map (·.2) = (B.take k).map (·.2) ++ [(B.getD k dPr).2]) := by show _ = _; rw [take_prS hlt, List.map_append]; rfl
          have HBDP : Hid (placeA I (B.getD k dPr).1 = 0 → hasAll I B = false) := fun h => hasAll_bad hlt h
          have HNX : Hid (placeA I (B.getD k dPr).1 ≠ 0 → ∀ j, j < k + 1 → placeA I (B.getD j dPr).1 ≠ 0) := fun h j hj => by
            by_cases e : j = k
            · subst e; exact h
            · exact HNZ.out j (by omega)
          have HKL := Lib.hid hlt
          have hkb : k < 4000000 := by omega
          have hlen : ((B.take k).map (·.2)).length < 17592186044416 := by rw [List.length_map, List.length_take]; omega
          have HLEN := Lib.hid hlen
          clear hx0 hy0 hlt hlen HNZ
          generalize (B.take k).map (·.2) = acc at *
          generalize B.getD k dPr = o at *
          obtain ⟨v, e⟩ := o
          simp only at hx hy HBDP HNX HTK
          have HPL := Lib.hid (fun X (hX : Below W.heap.size W X) => place_any _ I v X (HI1.out.below hX (Nat.le_refl _)) HSRT.out h1)
          have hplb := placeA_bd I v
          have HPLB := Lib.hid hplb
          clear hplb
          generalize placeA I v = q at *
          go_upto_region 8 with fail
          have hba := below_alloc1 wr (.cells #[.int .i64 v, .int .i64 e] 90)
          have hbx : (wr.alloc (.cells #[.int .i64 v, .int .i64 e] 90)).heap[wr.heap.size]? = some (.cells #[.int .i64 v, .int .i64 e] 90 (0, 0)) := World.alloc_heap_new _ _
          obtain ⟨x0, x1, _, _⟩ := box2_cells hbx
          have HBX := Lib.hid (HBR.out.trans (hba.mono HBR.out.size))
          have HBWX := Lib.hid (HBW.out.trans (hba.mono HBW.out.size))
          obtain ⟨q0, q1⟩ := HGB.out _ HBWX.out
          have HOX := Lib.hid (HO.out.below hba (Nat.le_refl _))
          clear hba hbx HO hx hy
          generalize wr.alloc (.cells #[.int .i64 v, .int .i64 e] 90) = X at *
          by_cases c : q = 0
          · subst c
            have HE : Hid (composeR I A l B = errR 6) := by show _ = _; rw [HE0.out, if_pos (HBDP.out rfl)]
            clear HE0 HBDP HNX
            go_wp2_with (go_at_call 77; go_loud (refine (HPL.out X HBWX.out).mono ?_; rintro er w4 ⟨rfl, hq⟩; obtain ⟨⟨c0, c1, f0, f1⟩, ⟨g0, g1⟩, hpost⟩ := HBAD.out w4 6 (HBWX.out.trans (hq.below _)) HE.out; have HPO := Lib.hid hpost; clear hpost hq))
            exact ⟨rfl, .tuple #[.agg #[.slice none 0 0, .slice none 0 0], .slice none 0 0, .int .i64 6], by simp [results, Tryz.f36, go_sem, g0, g1], HPO.out⟩
          · have hne : (q == 0) = false := by simpa using c
            have HNY := Lib.hid (HNX.out c)
            clear c HNX HBDP
            go_upto_region 10 with (go_at_call 77; go_loud (refine (HPL.out X HBWX.out).mono ?_; rintro er w4 ⟨rfl, hq⟩; have HQ := Lib.hid hq; clear hq))
            have y1 := (HQ.out.cell _).trans x1
            have HO4 := Lib.hid (HOX.out.quiet HQ.out)
            have HB4 := Lib.hid (HBX.out.trans ((HQ.out.below X.heap.size).mono HBX.out.size))
            clear x0 x1 q0 q1
            go_wp2_with (at_builtin; refine wpList_app1A rfl _ _ rfl w3.heap.size _ _ e w4.heap.size rfl rfl (HO4.out.alloc _) (cell_fresh rfl) HLEN.out (by simp; have := HB4.out.size; omega) ?_; intro u' w' ho' hg' _; have HO' := Lib.hid ho'; have HG' := Lib.hid hg'; clear ho' hg')
            go_roundw
            case rel => exact ⟨k + 1, HKL.out, by go_num, by rw [HTK.out]; exact HO'.out, (HB4.out.alloc HB4.out.size _).grown HG'.out (by have := HB4.out.size; simp; omega) (fun j e => (HO4.out.lt j e).1), HNY.out⟩
            case measure => have := HKL.out; simp [intOf]; omega
        · obtain rfl : k = B.length := by omega
          rw [List.take_length] at HO
          have hall := hasAll_good HNZ.out
          have HE1 : Hid (composeR I A l B = if (comp2 I A l B f).2.2 = true then errR 3 else ((I, (comp2 I A l B f).2.1), (comp2 I A l B f).1, 0)) := by show _ = _; rw [HE0.out, hall]; rfl
          clear hall HNZ HE0 hk
          obtain ⟨p0, p1⟩ := HGB.out wr HBW.out
          obtain ⟨ua, uc, rfl⟩ := own_shC HO.out
          have HED := Lib.hid (puts_edges HPU.out)
          have HEL : Hid ((B.map (·.2)).length = B.length) := List.length_map _
          have HE5 := Lib.hid (HO.out.ints (by rw [HEL.out]; omega) (fun x hx => by obtain ⟨o, ho, rfl⟩ := List.mem_map.1 hx; exact (HYP.out o ho).2))
          have HC1 : Hid (comp1 I A B = copyA (1 + I.length) I A (inpA I) (B.map (·.2)) ([], false)) := rfl
          have HC2 : Hid (∀ xs, (comp1 I A B).1 = xs → comp2 I A l B f = copyA (1 + I.length) I A (orA (zipF B xs f) (inpA I)) l (comp1 I A B).2) := fun xs e => by unfold comp2; rw [e]
          have HMD1 := Lib.hid (copyA_made (k := 1 + I.length) (I := I) (A := A) (img := inpA I) (l := B.map (·.2)) (s := ([], false)) (by omega) ⟨rfl, by have := HMP.out.1; simp; omega⟩ HPT.out.2.1 (fun v _ => by have := inpA_isE I v; simpa using this) HED.out)
          rw [← HC1.out] at HMD1
          generalize B.map (·.2) = ends at *
          have HI5 := Lib.hid (HI1.out.below HBW.out (Nat.le_refl _))
          have HA5 := Lib.hid (HA1.out.below HBW.out (Nat.le_refl _))
          have HMK := Lib.hid (maker0_any _ (.slice none 0 0) I wr HI5.out (GrO.nil wr 0).ints.2 HMP.out.2.1 (by have := HMP.out.1; omega))
          have HBW5 := Lib.hid HBW.out
          have HLT5 : Hid (bm < wr.heap.size) := Nat.lt_of_lt_of_le HLT3.out HBR.out.size
          have HM5 := Lib.hid (HM3.out.below HBR.out (Nat.le_refl _))
          clear HBR HBW HM3 HLT3 HO HB3
          generalize wr = w5 at *
          go_upto_region 13 with (go_at_call 91; refine HMK.out.mono ?_; rintro e w6 ⟨pm, vi6, bf, rfl, hm, hb⟩; have HM6 := Lib.hid hm; have HB6 := Lib.hid hb; clear hm hb)
          have HW6 := Lib.hid (HBW5.out.trans (HB6.out.mono HBW5.out.size))
          obtain ⟨q0, q1⟩ := HGB.out w6 HW6.out
          have HCOP := Lib.hid (gcopier_any pm _ _ I A w6 (HI1.out.below HW6.out (Nat.le_refl _)) (HA1.out.below HW6.out (Nat.le_refl _)) h1)
          clear HMK p0 p1
          go_upto_region 14 with (go_at_call 94; refine HCOP.out.mono ?_; rintro e w7 ⟨cm, cg, ck, rfl, hb, hobj, hge⟩; have HB7 := Lib.hid hb; have HOB := Lib.hid hobj; have HGE := Lib.hid hge; clear hb hobj hge)
          have HW57 := Lib.hid (HB6.out.trans (HB7.out.mono HB6.out.size))
          have HM7 := Lib.hid (HM6.out.below HB7.out (Nat.le_refl _))
          have HOLD := Lib.hid HM6.out.old
          have HCP1 : Hid (Calls Tryz.prog 151 #[.slice ua ends.length uc, .func (.func 96) #[.pointer (some ⟨pm, 0, none⟩)] #[], .pointer (some ⟨cg, 0, none⟩), .pointer (some ⟨ck, 0, none⟩), .pointer (some ⟨cm, 0, none⟩)] w7 fun e w' => ∃ v, e = .returned v ∧ Own w' w7.heap.size v (comp1 I A B).1 ∧ MkE w' w5.heap.size pm I (comp1 I A B).2 vi6 bf 0 ∧ KpM w5.heap.size pm bf w7 w') := by
            have ho := HOLD.out
            have hg := HGE.out
            rw [HC1.out]
            refine gcopied_any HM7.out HW57.out.size (.slice ia I.length ic) (.slice aa A.length ac) _ _ I A ends cg ck cm (inpA I) ?_ ?_ HPT.out.2.1 HED.out (fun v _ => by have := inpA_isE I v; simpa using this) HMP.out.1
            · exact copyAt_kp HI5.out HA5.out HE5.out HW57.out (Nat.le_refl _) HOB.out.1 HOB.out.2.1 HOB.out.2.2 ⟨by omega, by omega⟩ ⟨by omega, by omega⟩ ⟨by omega, by omega⟩
            · refine ⟨96, #[.pointer (some ⟨pm, 0, none⟩)], #[], rfl, input_enters, fun X hX v hv => ?_⟩
              exact input_any v (HM7.out.below hX (Nat.le_refl _)) HSRT.out
          clear HCOP q0 q1
          have ecop := copier1_enters
          go_upto_region 15 with (go_at_call 151; go_loud (refine HCP1.out.mono ?_; rintro e w8 ⟨v8, rfl, ho, hm, hk⟩; obtain ⟨xa, xc, rfl⟩ := own_shC ho; have HV8 := Lib.hid ho; have HM8 := Lib.hid hm; have HK8 := Lib.hid hk; clear ho hm hk))
          obtain ⟨xs, hxs⟩ : ∃ xs, (comp1 I A B).1 = xs := ⟨_, rfl⟩
          obtain ⟨s1, hs1⟩ : ∃ s1, (comp1 I A B).2 = s1 := ⟨_, rfl⟩
          have HCC2 := Lib.hid (HC2.out xs hxs)
          rw [hxs] at HV8 HMD1
          rw [hs1] at HM8 HMD1 HCC2
          rw [hxs]
          have hxl : xs.length = B.length := HMD1.out.2.2.2.2.trans HEL.out
          have HXL := Lib.hid hxl
          have HW8 := Lib.hid (HW57.out.trans (HK8.out.below.mono (Nat.le_refl _)))
          have HWW8 := Lib.hid (HBW5.out.trans (HW8.out.mono HBW5.out.size))
          have HM8M := Lib.hid (HM5.out.below HW8.out (Nat.le_refl _))
          have HBT : Hid (bm < w5.heap.size ∧ w5.heap.size ≤ w7.heap.size) := ⟨HLT5.out, HW57.out.size⟩
          clear HM5 HC1 HC2 hxs hs1 HCP1
          go_loopw [67] (fun s67 wr => ∃ k n : Nat, k ≤ B.length ∧ s67 = .int .i64 k ∧ n ≤ B.length + k ∧ MapM wr bm n (zipF (B.take k) (xs.take k) f) ∧ Kept (fun j => j = bm) w8 wr) (fun s67 _ => B.length - (intOf s67).toNat)
          case atStart => exact ⟨0, m0, Nat.zero_le _, rfl, HML.out, HM8M.out, Kept.refl _ _⟩
          case round =>
            obtain ⟨k, n, hk, rfl, hn, hm, hkp⟩ := hrel
            have HM := Lib.hid hm
            have HK := Lib.hid hkp
            have HBW := Lib.hid (HWW8.out.trans (hkp.below HWW8.out.size (fun j hj e => by have := HBM.out; have : j = bm := e; omega)))
            clear hm hkp
            by_cases hlt : k < B.length
            · have hltx : k < xs.length := by rw [HXL.out]; exact hlt
              have hltz : (k : Int) < (xs.length : Int) := by omega
              obtain ⟨b, off, rfl, hbl, hx0, hy0⟩ := HY1.out.at hlt
              have hx := (HBW.out.cell (p := ⟨b, off + k * 2, none⟩) hbl).trans hx0
              have hin := (HYP.out _ (show B.getD k dPr ∈ B by simp [List.getD, hlt])).1
              have hz0 := (own_hitA HV8.out hltx)
              obtain ⟨gx, rfl, hgx, hgl, hcx⟩ := hz0
              have hcx2 := (HK.out.cell (p := ⟨gx, k, none⟩) hgl (by show ¬ gx = bm; have := HBT.out; omega)).trans hcx
              have hxe := isE_true.1 (HMD1.out.2.2.1 _ (getD_mem hltx))
              have hroom := HMD1.out.2.1.room
              have HZS := Lib.hid (zipF_succ (f := f) hlt hltx)
              have HKL := Lib.hid hlt
              have hkb : k < 4000000 := by omega
              clear hx0 hy0 hcx hlt hltx
              generalize B.getD k dPr = o at *
              obtain ⟨v, e⟩ := o
              generalize xs.getD k 0 = x at *
              simp only at hx hin HZS
              obtain ⟨w4, hrun, hm4, hk4⟩ := HM.out.put (by unfold maxLen; omega) v x (i64w hin.1 hin.2) (i64w (by omega) (by omega))
              have HM4 := Lib.hid hm4
              have HK4 := Lib.hid (HK.out.trans hk4)
              have HN1 : Hid (n + 1 ≤ B.length + (k + 1)) := by show _ ≤ _; omega
              clear hm4 hk4 hxe hroom
              go_wp2
              go_roundw
              case rel => exact ⟨k + 1, n + 1, HKL.out, by go_num, HN1.out, by rw [HZS.out]; exact HM4.out, HK4.out⟩
              case measure => have := HKL.out; simp [intOf]; omega
            · obtain rfl : k = B.length := by omega
              rw [List.take_length, List.take_of_length_le (by rw [HXL.out]; exact Nat.le_refl _)] at HM
              have hxx : ¬ ((B.length : Int) < (xs.length : Int)) := by rw [HXL.out]; omega
              have HM9 : Hid (MkE wr w5.heap.size pm I s1 vi6 bf 0) := HM8.out.keptLow HK.out (fun j e => by have := HBT.out; have : j = bm := e; omega)
              obtain ⟨p0, p1⟩ := HGB.out wr HBW.out
              have hbmw : bm < wr.heap.size := HM.out.lt
              have HO9 : Hid (wr.heap[cm]? = some (.cells #[.pointer (some ⟨pm, 0, none⟩)] 69 (0, 0)) ∧ wr.heap[cg]? = some (.cells #[.slice ia I.length ic, .slice aa A.length ac] 25 (0, 0)) ∧ wr.heap[ck]? = some (.cells #[.int .i64 ((1 + I.length : Nat) : Int)] 3 (0, 0))) := by
                have ho := HOLD.out
                have hg := HGE.out
                have hb6 := HB6.out.size
                have hbt := HBT.out
                have k1 := HK8.out.same cm _ (by omega) (by omega) HOB.out.1 (fun e => absurd e (by decide))
                have k2 := HK8.out.same cg _ (by omega) (by omega) HOB.out.2.1 (fun e => absurd e (by decide))
                have k3 := HK8.out.same ck _ (by omega) (by omega) HOB.out.2.2 (fun e => absurd e (by decide))
                exact ⟨(HK.out.block cm (Array.getElem?_eq_some_iff.1 k1).1 (by show ¬ cm = bm; omega)).trans k1, (HK.out.block cg (Array.getElem?_eq_some_iff.1 k2).1 (by show ¬ cg = bm; omega)).trans k2, (HK.out.block ck (Array.getElem?_eq_some_iff.1 k3).1 (by show ¬ ck = bm; omega)).trans k3⟩
              have HBW9 := Lib.hid HBW.out
              have HM9M := Lib.hid HM.out
              have HIE2 : Hid (∀ v, isE (orA (zipF B xs f) (inpA I) v) (1 + I.length + s1.1.length) = true) := fun v => by
                unfold orA
                cases e : zipF B xs f v with
                | some y => exact HMD1.out.2.2.1 y (zip_img HPU.out HXL.out e)
                | none => exact isE_mono (inpA_isE I v) (by omega)
              clear HM HBW HK HOB HM8 HV8 HK8 hbmw p0 p1 hn hk
              generalize wr = w9 at *
              have HCPD : Hid (∀ Y, Below w9.heap.size w9 Y → Y.cell? ⟨w9.heap.size, 0, none⟩ = some (.map (some bm)) → Y.cell? ⟨w9.heap.size + 1, 0, none⟩ = some (.func (.func 96) #[.pointer (some ⟨pm, 0, none⟩)] #[]) → w9.heap.size + 2 ≤ Y.heap.size →
                  Calls Tryz.prog 151 #[.slice la l.length lc, .func (.func 153) #[] #[.pointer (some ⟨w9.heap.size, 0, none⟩), .pointer (some ⟨w9.heap.size + 1, 0, none⟩)], .pointer (some ⟨cg, 0, none⟩), .pointer (some ⟨ck, 0, none⟩), .pointer (some ⟨cm, 0, none⟩)] Y fun e w' => ∃ v, e = .returned v ∧ Own w' Y.heap.size v (comp2 I A l B f).1 ∧ MkE w' w5.heap.size pm I (comp2 I A l B f).2 vi6 bf 0 ∧ KpM w5.heap.size pm bf Y w') := fun Y hY c1 c2 hz => by
                have ho := HOLD.out
                have hg := HGE.out
                have hMY : MkE Y w5.heap.size pm I s1 vi6 bf 0 := HM9.out.below hY (Nat.le_refl _)
                have hle : w5.heap.size ≤ Y.heap.size := Nat.le_trans (Nat.le_of_lt (Nat.lt_of_le_of_lt HM6.out.lbs HM9.out.old.1)) hY.size
                have hWY : Below W.heap.size W Y := HBW9.out.trans (hY.mono HBW9.out.size)
                have o1 := (hY.block cm (Array.getElem?_eq_some_iff.1 HO9.out.1).1).trans HO9.out.1
                have o2 := (hY.block cg (Array.getElem?_eq_some_iff.1 HO9.out.2.1).1).trans HO9.out.2.1
                have o3 := (hY.block ck (Array.getElem?_eq_some_iff.1 HO9.out.2.2).1).trans HO9.out.2.2
                rw [HCC2.out]
                refine gcopied_any hMY hle (.slice ia I.length ic) (.slice aa A.length ac) _ _ I A l cg ck cm (orA (zipF B xs f) (inpA I)) ?_ ?_ HPT.out.2.1 HPT.out.2.2 (fun v _ => HIE2.out v) HMP.out.1
                · exact copyAt_kp HI1.out HA1.out HL1.out hWY HBW5.out.size o1 o2 o3 ⟨by omega, by omega⟩ ⟨by omega, by omega⟩ ⟨by omega, by omega⟩
                · refine ⟨153, #[], #[.pointer (some ⟨w9.heap.size, 0, none⟩), .pointer (some ⟨w9.heap.size + 1, 0, none⟩)], rfl, orElse_enters, fun X hX v hv => ?_⟩
                  have hx := HI1.out.in64 v hv
                  have d1 := (hX.cell (p := ⟨w9.heap.size, 0, none⟩) (by show w9.heap.size < _; omega)).trans c1
                  have d2 := (hX.cell (p := ⟨w9.heap.size + 1, 0, none⟩) (by show w9.heap.size + 1 < _; omega)).trans c2
                  exact orElse1_any w9.heap.size (w9.heap.size + 1) bm n 96 #[.pointer (some ⟨pm, 0, none⟩)] #[] (zipF B xs f) (inpA I) v X d1 d2 (HM9M.out.below (hY.trans (hX.mono hY.size)) (Nat.le_refl _)) input_enters
                    (input_any v (hMY.below hX (Nat.le_refl _)) HSRT.out) hx.1 hx.2
              go_upto_region 20 with (first
                | (go_at_call 151; go_loud (refine (HCPD.out w10 HB10.out HC1.out HC2.out HZ10.out).mono ?_; rintro e w11 ⟨v11, rfl, ho, hm, hk⟩; obtain ⟨za, zc, rfl⟩ := own_shC ho; have HV11 := Lib.hid ho; have HM11 := Lib.hid hm; have HK11 := Lib.hid hk; clear ho hm hk))
                | (go_at_call 95; go_loud (refine (orElse_any bm 96 #[.pointer (some ⟨pm, 0, none⟩)] #[] w9).mono ?_; rintro e w10 ⟨rfl, hb, hz, c1, c2⟩; have HB10 := Lib.hid hb; have HC1 := Lib.hid c1; have HC2 := Lib.hid c2; have HZ10 := Lib.hid hz; clear hb c1 c2 hz)))
              have HW11 : Hid (Below W.heap.size W w11) := HBW9.out.trans ((HB10.out.mono HBW9.out.size).trans (HK11.out.below.mono HBW5.out.size))
              obtain ⟨_, _, m4⟩ := HM11.out.cell
              by_cases hfull : (comp2 I A l B f).2.2 = true
              · have HE : Hid (composeR I A l B = errR 3) := by show _ = _; rw [HE1.out, if_pos hfull]
                rw [hfull] at m4
                obtain ⟨⟨c0, c1, f0, f1⟩, ⟨g0, g1⟩, hpost⟩ := HBAD.out w11 3 HW11.out HE.out
                have HPO := Lib.hid hpost
                clear hpost hfull
                go_wp2
                exact ⟨rfl, .tuple #[.agg #[.slice none 0 0, .slice none 0 0], .slice none 0 0, .int .i64 3], by simp [results, Tryz.f36, go_sem, g0, g1], HPO.out⟩
              · have hfull : (comp2 I A l B f).2.2 = false := by simpa using hfull
                have HE : Hid (composeR I A l B = ((I, (comp2 I A l B f).2.1), (comp2 I A l B f).1, 0)) := by show _ = _; rw [HE1.out, hfull]; rfl
                rw [hfull] at m4
                obtain ⟨i7, j7, rfl⟩ := HM11.out.ins.1.shape
                have hle : w5.heap.size ≤ w11.heap.size := Nat.le_of_lt (Nat.lt_of_le_of_lt HM6.out.lbs HM11.out.old.1)
                have HGRA := Lib.hid (graph_e HM11.out hle)
                have HFIN : Hid (∀ X va, w11.cell? ⟨pm, 2, none⟩ = some va → Below w11.heap.size w11 X → (X.cell? ⟨w.heap.size + 1, 0, none⟩ = some (.slice none 0 0) ∧ X.cell? ⟨w.heap.size + 1, 1, none⟩ = some (.slice none 0 0) ∧ X.frozen? ⟨w.heap.size + 1, 0, none⟩ = false ∧ X.frozen? ⟨w.heap.size + 1, 1, none⟩ = false) ∧
                    (((X.setCell ⟨w.heap.size + 1, 0, none⟩ (.slice i7 I.length j7)).setCell ⟨w.heap.size + 1, 1, none⟩ va).cell? ⟨w.heap.size + 1, 0, none⟩ = some (.slice i7 I.length j7) ∧ ((X.setCell ⟨w.heap.size + 1, 0, none⟩ (.slice i7 I.length j7)).setCell ⟨w.heap.size + 1, 1, none⟩ va).cell? ⟨w.heap.size + 1, 1, none⟩ = some va) ∧
                    ResPost w (composeR I A l B) (.returned (.tuple #[.agg #[.slice i7 I.length j7, va], .slice za (comp2 I A l B f).1.length zc, .int .i64 0])) ((X.setCell ⟨w.heap.size + 1, 0, none⟩ (.slice i7 I.length j7)).setCell ⟨w.heap.size + 1, 1, none⟩ va)) := fun X va hva hX => by
                  have hwX := HW11.out.trans (hX.mono HW11.out.size)
                  have hs := HSZ.out
                  have hr := (hwX.block (w.heap.size + 1) (by omega)).trans HRX.out
                  have hb5 := HBW5.out.size
                  have hb9 := HBW9.out.size
                  have hb10 := HB10.out.size
                  have hc : w.heap.size + 1 < w5.heap.size := by omega
                  have hg := (HM11.out.gr hva).below hX (Nat.le_refl _)
                  have hx := HV11.out.below hX (Nat.le_refl _)
                  refine ⟨box2_cells hr, box2_put hr _ _, ?_⟩
                  rw [HE.out]
                  refine ⟨_, _, _, rfl, ?_, ?_, ?_⟩
                  · exact ((hg.set_far (n := 0) (u := .slice i7 I.length j7) hc).set_far (n := 1) (u := va) hc).mono (by omega)
                  · exact ((hx.set_far (n := 0) (u := .slice i7 I.length j7) (by omega)).set_far (n := 1) (u := va) (by omega)).mono (by omega)
                  · exact ((HB0.out.trans (hwX.mono HB0.out.size)).setCell (p := ⟨w.heap.size + 1, 0, none⟩) (by show _ ≤ _ + 1; omega) _).setCell (p := ⟨w.heap.size + 1, 1, none⟩) (by show _ ≤ _ + 1; omega) _
                clear hfull
                go_wp2_with (go_at_call 97; go_loud (refine HGRA.out.mono ?_; rintro e w12 ⟨va, rfl, hva, hb12, hp12, _⟩; obtain ⟨va1, vc1, rfl, _⟩ := hp12.shape; clear hp12; obtain ⟨⟨c0, c1, f0, f1⟩, ⟨g0, g1⟩, hpost⟩ := HFIN.out w12 _ hva hb12; have HPO := Lib.hid hpost; clear hpost hb12 hva))
                exact ⟨rfl, .tuple #[.agg #[.slice i7 I.length j7, .slice va1 (comp2 I A l B f).2.1.length vc1], .slice za (comp2 I A l B f).1.length zc, .int .i64 0], by simp [results, Tryz.f36, go_sem, g0, g1], HPO.out⟩
    · have hh : hasA I A l = false := by simpa using hh
      have HE : Hid (composeR I A l B = errR 2) := by show _ = _; unfold composeR; rw [HPU.out]; simp [hh]
      rw [hh] at HHX
      clear hh
      go_wp2_with (go_at_call 62; go_loud (refine HHX.out.mono ?_; rintro e w3 ⟨rfl, hb3⟩; obtain ⟨⟨c0, c1, f0, f1⟩, ⟨g0, g1⟩, hpost⟩ := HBAD.out w3 2 (HB2.out.trans (hb3.mono HB2.out.size)) HE.out; have HPO := Lib.hid hpost; clear hpost hb3))
      exact ⟨rfl, .tuple #[.agg #[.slice none 0 0, .slice none 0 0], .slice none 0 0, .int .i64 2], by simp [results, Tryz.f36, go_sem, g0, g1], HPO.out⟩
end Go.Proofs.YtppglbffmgnooaaGreat

/- (*Maker).Graph. -/
namespace Go.Proofs.YtppglbffmgnooaaGreat
open Go.RowKit Go.Maps
set_option linter.unusedVariables false
set_option linter.unusedSimpArgs false
attribute [local go_sem] drew_cellq drew_frozenq

set_option maxRecDepth 100000 in
set_option maxHeartbeats 3200000 in
theorem Graph_any {w : World} {B pm : Nat} {I : List Int} {s : Mq} {vi : Value} {bf sl : Nat} (H : MkE w B pm I s vi bf sl) (hB : B ≤ w.heap.size) :
    Calls Tryz.prog 45 #[.pointer (some ⟨pm, 0, none⟩)] w fun e w' => ∃ v1 v2, e = .returned (.agg #[v1, v2]) ∧ GrO w' w.heap.size v1 v2 I s.1 ∧ Below w.heap.size w w' := by
  have hb := below_alloc1 w (.cells #[.slice none 0 0, .slice none 0 0] 25)
  have hh : (w.alloc (.cells #[.slice none 0 0, .slice none 0 0] 25)).heap[w.heap.size]? = some (.cells #[.slice none 0 0, .slice none 0 0] 25 (0, 0)) := World.alloc_heap_new _ _
  have hsz : (w.alloc (.cells #[.slice none 0 0, .slice none 0 0] 25)).heap.size = w.heap.size + 1 := by simp
  have HMW := Lib.hid (H.below hb (Nat.le_refl _))
  have HG : Hid (In64 I ∧ I.length ≤ 4000000 ∧ InP s.1 ∧ s.1.length ≤ 200000) := by
    obtain ⟨va, n, h⟩ := H
    have := h.ok.room
    exact ⟨h.i64, h.il, h.inp, by omega⟩
  obtain ⟨HI, _⟩ := H.ins
  obtain ⟨va, hva, hp⟩ := H.pairs
  obtain ⟨_, k1, _⟩ := H.cell
  have HLT := Lib.hid H.old.1
  obtain ⟨ia, ic, rfl⟩ := HI.shape
  obtain ⟨aa, ac, rfl, _⟩ := hp.shape
  have HC1 : Hid (∀ X, Below w.heap.size w X → Calls Tryz.prog 93 #[.slice ia I.length ic] X (RetOwn X I)) := fun X hX => gclone_any _ I X (HI.below hX (Nat.le_refl _))
  have HC2 : Hid (∀ X, Below w.heap.size w X → Calls Tryz.prog 119 #[.slice aa s.1.length ac] X (RetOwnP X s.1)) := fun X hX => gclonep_any _ s.1 X (hp.below hX (Nat.le_refl _)) (by have := HG.out.2.2.2; omega)
  unfold RetOwn at HC1
  unfold RetOwnP at HC2
  have HK1 := Lib.hid k1
  have HK2 := Lib.hid hva
  clear HI hp k1 hva H
  go_enter Tryz.func45, Tryz.ntmps45
  go_upto_region 1 with fail
  generalize World.alloc w _ = W at *
  have HBB := Lib.hid hb
  have HH := Lib.hid hh
  have HSZ := Lib.hid hsz
  have HMD := Lib.hid (made_e HMW.out)
  clear hb hh hsz
  go_upto_region 3 with (go_at_call 118; refine HMD.out.mono ?_; rintro e w9 ⟨rfl, rfl⟩)
  have HS0 : Hid (Below w.heap.size w W.drew) := HBB.out.drew
  have HT0 : Hid (Below W.heap.size W W.drew) := (Below.refl _ _).drew
  refine wp_region_held_drew (S := fun X : World => Below w.heap.size w X) (by kernel_rfl) HS0.out (fun hSd => ?_)
  refine takeC (i := 0) (v := .pointer (some ⟨pm, 0, none⟩)) (some 7) rfl rfl (by kernel_rfl) (by kernel_rfl) (by kernel_rfl) (fun _ _ _ h => h) (Or.inl ⟨by rfl, ?_⟩) (by assumption) ?_
  · intro wz hSw; go_simp
  try simp only [Act.put, List.setIfInBounds_toArray, List.set_cons_zero, List.set_cons_succ]
  refine takeC (i := 1) (v := .pointer (some ⟨pm, 0, none⟩)) (some 8) rfl rfl (by kernel_rfl) (by kernel_rfl) (by kernel_rfl) (fun _ _ _ h => h) (Or.inl ⟨by rfl, ?_⟩) (by assumption) ?_
  · intro wz hSw; go_simp
  try simp only [Act.put, List.setIfInBounds_toArray, List.set_cons_zero, List.set_cons_succ]
  refine takeC (i := 2) (v := .pointer (some ⟨pm, 1, none⟩)) (some 9) rfl rfl (by kernel_rfl) (by kernel_rfl) (by kernel_rfl) (fun _ _ _ h => h) (Or.inl ⟨by rfl, ?_⟩) (by assumption) ?_
  · intro wz hSw; go_simp
  try simp only [Act.put, List.setIfInBounds_toArray, List.set_cons_zero, List.set_cons_succ]
  refine takeC (i := 3) (v := .slice ia I.length ic) (some 10) rfl rfl (by kernel_rfl) (by kernel_rfl) (by kernel_rfl) (fun _ _ _ h => h) (Or.inl ⟨by rfl, ?_⟩) (by assumption) ?_
  · intro wz hSw; have t0 := (Below.cell hSw (p := ⟨pm, 1, none⟩) HLT.out).trans HK1.out; go_simp
  try simp only [Act.put, List.setIfInBounds_toArray, List.set_cons_zero, List.set_cons_succ]
  refine takeC (i := 5) (v := .pointer (some ⟨pm, 0, none⟩)) (some 12) rfl rfl (by kernel_rfl) (by kernel_rfl) (by kernel_rfl) (fun _ _ _ h => h) (Or.inl ⟨by rfl, ?_⟩) (by assumption) ?_
  · intro wz hSw; go_simp
  try simp only [Act.put, List.setIfInBounds_toArray, List.set_cons_zero, List.set_cons_succ]
  refine takeC (i := 6) (v := .pointer (some ⟨pm, 0, none⟩)) (some 13) rfl rfl (by kernel_rfl) (by kernel_rfl) (by kernel_rfl) (fun _ _ _ h => h) (Or.inl ⟨by rfl, ?_⟩) (by assumption) ?_
  · intro wz hSw; go_simp
  try simp only [Act.put, List.setIfInBounds_toArray, List.set_cons_zero, List.set_cons_succ]
  refine takeC (i := 7) (v := .pointer (some ⟨pm, 2, none⟩)) (some 14) rfl rfl (by kernel_rfl) (by kernel_rfl) (by kernel_rfl) (fun _ _ _ h => h) (Or.inl ⟨by rfl, ?_⟩) (by assumption) ?_
  · intro wz hSw; go_simp
  try simp only [Act.put, List.setIfInBounds_toArray, List.set_cons_zero, List.set_cons_succ]
  refine takeC (i := 8) (v := .slice aa s.1.length ac) (some 15) rfl rfl (by kernel_rfl) (by kernel_rfl) (by kernel_rfl) (fun _ _ _ h => h) (Or.inl ⟨by rfl, ?_⟩) (by assumption) ?_
  · intro wz hSw; have t0 := (Below.cell hSw (p := ⟨pm, 2, none⟩) HLT.out).trans HK2.out; go_simp
  try simp only [Act.put, List.setIfInBounds_toArray, List.set_cons_zero, List.set_cons_succ]
  refine wpAnyH_ready (rs := [4]) (by kernel_rfl) (by simp) ?_
  refine AllReadyH.cons rfl (fun K hK => ?_) AllReadyH.nil
  go_simp
  go_wp2_with (go_at_call 93; go_loud (refine (HC1.out _ HS0.out).mono ?_; rintro e w1 ⟨v1, rfl, ho, hb⟩; obtain ⟨a1, c1, rfl⟩ := own_shC ho; have HV1 := Lib.hid ho; have HB1 := Lib.hid (HS0.out.trans (hb.mono HS0.out.size)); have HT1 := Lib.hid (HT0.out.trans (hb.mono HT0.out.size)); clear ho hb))
  refine hK.out _ _ HB1.out (fun hHn => ?_)
  clear hK K hHn
  try simp only [Act.put, List.setIfInBounds_toArray, List.set_cons_zero, List.set_cons_succ]
  refine wpAnyH_ready (rs := [9]) (by kernel_rfl) (by simp) ?_
  refine AllReadyH.cons rfl (fun K hK => ?_) AllReadyH.nil
  go_simp
  go_wp2_with (go_at_call 119; go_loud (refine (HC2.out _ HB1.out).mono ?_; rintro e w2 ⟨v2, rfl, ho, hb⟩; obtain ⟨a2, c2, rfl⟩ := ho.shape; have HV2 := Lib.hid ho; have HBN := Lib.hid hb; clear ho hb))
  have HB2 := Lib.hid (HB1.out.trans (HBN.out.mono HB1.out.size))
  have HT2 := Lib.hid (HT1.out.trans (HBN.out.mono HT1.out.size))
  have HV12 := Lib.hid (HV1.out.below HBN.out (Nat.le_refl _))
  have hSw := HB2.out
  refine hK.out _ _ HB2.out (fun hHn => ?_)
  clear hK K hHn
  try simp only [Act.put, List.setIfInBounds_toArray, List.set_cons_zero, List.set_cons_succ]
  refine takeC (i := 10) (v := .agg #[.slice a1 I.length c1, .slice a2 s.1.length c2]) (some 17) rfl rfl (by kernel_rfl) (by kernel_rfl) (by kernel_rfl) (fun _ _ _ h => h) (Or.inl ⟨by rfl, ?_⟩) (by assumption) ?_
  · intro wz hSw; go_simp
  try simp only [Act.put, List.setIfInBounds_toArray, List.set_cons_zero, List.set_cons_succ]
  have hr := (HT2.out.block w.heap.size (by have := HSZ.out; omega)).trans HH.out
  obtain ⟨c0, c1', f0, f1⟩ := box2_cells hr
  obtain ⟨g0, g1⟩ := box2_put hr (.slice a1 I.length c1) (.slice a2 s.1.length c2)
  have hsw : w.heap.size < W.heap.size := by rw [HSZ.out]; omega
  refine wpAnyH_ready (rs := [11]) (by kernel_rfl) (by simp) ?_
  refine AllReadyH.cons rfl (fun K hK => ?_) AllReadyH.nil
  go_simp
  have HBF := Lib.hid ((HB2.out.setCell (p := ⟨w.heap.size, 0, none⟩) (Nat.le_refl _) (.slice a1 I.length c1)).setCell (p := ⟨w.heap.size, 1, none⟩) (Nat.le_refl _) (.slice a2 s.1.length c2))
  refine hK.out _ _ HBF.out (fun hHn => ?_)
  clear hK K hHn
  try simp only [Act.put, List.setIfInBounds_toArray, List.set_cons_zero, List.set_cons_succ]
  refine wpAnyH_done (by kernel_rfl) ?_ _
  have hz1 : w.heap.size < w1.heap.size := by have := HT1.out.size; omega
  have hz0 : w.heap.size < W.drew.heap.size := hsw
  have HR : Hid (GrO ((w2.setCell ⟨w.heap.size, 0, none⟩ (.slice a1 I.length c1)).setCell ⟨w.heap.size, 1, none⟩ (.slice a2 s.1.length c2)) w.heap.size (.slice a1 I.length c1) (.slice a2 s.1.length c2) I s.1) := by
    have g := HG.out
    refine ⟨.inl (((HV12.out.set_far (n := 0) (u := .slice a1 I.length c1) hz0).set_far (n := 1) (u := .slice a2 s.1.length c2) hz0).mono (by omega)), g.1, g.2.1, ((HV2.out.set_far (n := 0) (u := .slice a1 I.length c1) hz1).set_far (n := 1) (u := .slice a2 s.1.length c2) hz1).mono (by omega), g.2.2.1, g.2.2.2⟩
  go_wp2
  exact ⟨rfl, .agg #[.slice a1 I.length c1, .slice a2 s.1.length c2], by simp [results, Tryz.f45, go_sem, g0, g1], _, _, rfl, HR.out, HBF.out⟩
end Go.Proofs.YtppglbffmgnooaaGreat

/- aig.edgeOf, (*Maker).gate. Written by gen-gate.py. -/
namespace Go.Proofs.YtppglbffmgnooaaGreat
open Go.RowKit Go.Maps
set_option linter.unusedVariables false
set_option linter.unusedSimpArgs false
attribute [local go_sem] drew_cellq drew_frozenq

def edgeOfA (f : Int → Option Int) (x : Int) : Int := if x < 0 then notE ((f (-x)).getD 0) else (f x).getD 0
set_option maxRecDepth 100000 in
theorem edgeOf_any (b n : Nat) (f : Int → Option Int) (x : Int) (w : World) (HM : MapM w b n f) (h1 : -9223372036854775807 ≤ x) (h2 : x ≤ 9223372036854775807) (hf : ∀ v y, f v = some y → 0 ≤ y ∧ y ≤ 4000000) :
    Calls Tryz.prog 129 #[.int .i64 x, .map (some b)] w fun e w' => e = .returned (.int .i64 (edgeOfA f x)) ∧ w = w' := by
  have hbd : ∀ v, 0 ≤ (f v).getD 0 ∧ (f v).getD 0 ≤ 4000000 := fun v => by
    cases e : f v with
    | none => simp
    | some y => exact hf v y e
  by_cases hx : x < 0
  · have HE : Hid (edgeOfA f x = notE ((f (-x)).getD 0)) := by show _ = _; unfold edgeOfA; rw [if_pos hx]
    have hlk := HM.look (-x) (i64w (by omega) (by omega))
    have hwr : wrap64 (-x) = -x := by unfold wrap64; omega
    have HO := Lib.hid (opposite_any ((f (-x)).getD 0) w (hbd _).1 (hbd _).2)
    clear hbd hf HM
    generalize (f (-x)).getD 0 = y at *
    go_enter Tryz.func129, Tryz.ntmps129
    go_wp2_with (go_at_call 70; refine HO.out.mono ?_; rintro e w9 ⟨rfl, rfl⟩)
    go_ret
    exact ⟨ret_int HE.out.symm, rfl⟩
  · have HE : Hid (edgeOfA f x = (f x).getD 0) := by show _ = _; unfold edgeOfA; rw [if_neg hx]
    have hlk := HM.look x (i64w (by omega) (by omega))
    have hd : decide (x < 0) = false := decide_eq_false hx
    clear hbd hf HM
    generalize (f x).getD 0 = y at *
    go_enter Tryz.func129, Tryz.ntmps129
    go_wp2
    go_ret
    exact ⟨ret_int HE.out.symm, rfl⟩
/-- The edge of a gate. -/
def gateMk (k : Nat) (s : Mq) (kd : Int) (l : List Int) : Int × Mq := if kd = 1 then allA k l s 1 else if kd = 2 then anyA k l s else if kd = 3 then exclA k s (l.getD 0 0) (l.getD 1 0) else iteA k s (l.getD 0 0) (l.getD 1 0) (l.getD 2 0)
set_option maxRecDepth 100000 in
set_option maxHeartbeats 3200000 in
theorem gate_e {w : World} {B pm : Nat} {I : List Int} {s : Mq} {vi vl : Value} {bf sl : Nat} {l : List Int} (kd : Int) (H : MkE w B pm I s vi bf sl) (hB : B ≤ w.heap.size)
    (HL : ∀ X, KpM B pm bf w X → IsInts X vl l) (hl : ∀ e ∈ l, isE e (1 + I.length + s.1.length) = true) (hll : l.length ≤ 4000000) (h3 : kd = 3 → 2 ≤ l.length) (h4 : kd ≠ 1 → kd ≠ 2 → kd ≠ 3 → 3 ≤ l.length) :
    Calls Tryz.prog 130 #[.pointer (some ⟨pm, 0, none⟩), .int .u8 kd, vl] w (AndPost w B pm I vi bf sl (gateMk (1 + I.length) s kd l)) := by
  have h0 := HL w (KpM.refl _ _ _ _)
  obtain ⟨a, cap, rfl⟩ := h0.shape
  have HLL := Lib.hid HL
  unfold AndPost
  by_cases c1 : kd = 1
  · subst c1
    have HE : Hid (gateMk (1 + I.length) s 1 l = allA (1 + I.length) l s 1) := rfl
    have HA := Lib.hid (all_e H hB HL hl hll)
    unfold AndPost at HA
    clear HL H h0 hl h3 h4
    go_enter Tryz.func130, Tryz.ntmps130
    go_wp2_with (go_at_call 165; refine HA.out.mono ?_; rintro e w1 ⟨rfl, hm1, hk1⟩; have HM1 := Lib.hid hm1; have HK1 := Lib.hid hk1; clear hm1 hk1)
    go_ret
    exact ⟨by rw [HE.out]; rfl, by rw [HE.out]; exact HM1.out, HK1.out⟩
  · have d1 : (kd == 1) = false := by simpa using c1
    by_cases c2 : kd = 2
    · subst c2
      have HE : Hid (gateMk (1 + I.length) s 2 l = anyA (1 + I.length) l s) := rfl
      have HA := Lib.hid (any_e H hB HL hl hll)
      unfold AndPost at HA
      clear HL H h0 hl h3 h4 c1
      go_enter Tryz.func130, Tryz.ntmps130
      go_wp2_with (go_at_call 168; refine HA.out.mono ?_; rintro e w1 ⟨rfl, hm1, hk1⟩; have HM1 := Lib.hid hm1; have HK1 := Lib.hid hk1; clear hm1 hk1)
      go_ret
      exact ⟨by rw [HE.out]; rfl, by rw [HE.out]; exact HM1.out, HK1.out⟩
    · have d2 : (kd == 2) = false := by simpa using c2
      by_cases c3 : kd = 3
      · subst c3
        have hq := h3 rfl
        have HE : Hid (gateMk (1 + I.length) s 3 l = exclA (1 + I.length) s (l.getD 0 0) (l.getD 1 0)) := rfl
        have HS0 : Hid (KpM B pm bf w w.drew) := ⟨(Below.refl _ w).drew, fun _ _ _ _ h _ => h⟩
        have HMD : Hid (MkE w.drew B pm I s vi bf sl) := H.below ((Below.refl _ w).drew) (Nat.le_refl _)
        have l0 : 0 < l.length := by omega
        have e0 := hl _ (getD_mem l0)
        have l1 : 1 < l.length := by omega
        have e1 := hl _ (getD_mem l1)
        have HA := Lib.hid (xor_e HMD.out (Nat.le_trans hB (Nat.le_refl _)) e0 e1)
        unfold AndPost at HA
        have HCELL : Hid (∀ X, KpM B pm bf w X → ∀ k, k < l.length → ∃ b off, a = some ⟨b, off, none⟩ ∧ X.cell? ⟨b, off + k, none⟩ = some (.int .i64 (l.getD k 0))) := fun X hX k hk => by
          obtain ⟨b, off, h1, _, h2⟩ := (HLL.out X hX).cellY hk
          exact ⟨b, off, h1, h2⟩
        obtain ⟨b, off, rfl, _, _⟩ := h0.cellY l0
        have HC0 : Hid (∀ X, KpM B pm bf w X → X.cell? ⟨b, off, none⟩ = some (.int .i64 (l.getD 0 0))) := fun X hX => by
          obtain ⟨b', off', e', t0⟩ := HCELL.out X hX 0 l0
          cases e'
          exact t0
        have HC1 : Hid (∀ X, KpM B pm bf w X → X.cell? ⟨b, off + 1, none⟩ = some (.int .i64 (l.getD 1 0))) := fun X hX => by
          obtain ⟨b', off', e', t0⟩ := HCELL.out X hX 1 l1
          cases e'
          exact t0
        clear HCELL HL H h0 hl h3 h4 c1 c2 HLL e0 e1
        generalize l.getD 0 0 = x0 at *
        generalize l.getD 1 0 = x1 at *
        have HLn := Lib.hid l0
        have z0 : (0 : Int) < (l.length : Int) := by omega
        have z1 : (1 : Int) < (l.length : Int) := by omega
        go_enter Tryz.func130, Tryz.ntmps130
        go_upto_region 7 with fail
        refine wp_region_held_drew (S := fun X : World => KpM B pm bf w X) (by kernel_rfl) HS0.out (fun hSd => ?_)
        refine takeC (i := 0) (v := .pointer (some ⟨pm, 0, none⟩)) (some 20) rfl rfl (by kernel_rfl) (by kernel_rfl) (by kernel_rfl) (fun _ _ _ h => h) (Or.inl ⟨by rfl, ?_⟩) (by assumption) ?_
        · intro wz hSw; go_simp
        try simp only [Act.put, List.setIfInBounds_toArray, List.set_cons_zero, List.set_cons_succ]
        refine takeC (i := 1) (v := .slice (some ⟨b, off, none⟩) l.length cap) (some 21) rfl rfl (by kernel_rfl) (by kernel_rfl) (by kernel_rfl) (fun _ _ _ h => h) (Or.inl ⟨by rfl, ?_⟩) (by assumption) ?_
        · intro wz hSw; go_simp
        try simp only [Act.put, List.setIfInBounds_toArray, List.set_cons_zero, List.set_cons_succ]
        refine takeC (i := 2) (v := .pointer (some ⟨b, off, none⟩)) (some 22) rfl rfl (by kernel_rfl) (by kernel_rfl) (by kernel_rfl) (fun _ _ _ h => h) (Or.inl ⟨by rfl, ?_⟩) (by assumption) ?_
        · intro wz hSw; go_simp
        try simp only [Act.put, List.setIfInBounds_toArray, List.set_cons_zero, List.set_cons_succ]
        refine takeC (i := 3) (v := .int .i64 x0) (some 23) rfl rfl (by kernel_rfl) (by kernel_rfl) (by kernel_rfl) (fun _ _ _ h => h) (Or.inl ⟨by rfl, ?_⟩) (by assumption) ?_
        · intro wz hSw; have t0 := HC0.out wz hSw; go_simp
        try simp only [Act.put, List.setIfInBounds_toArray, List.set_cons_zero, List.set_cons_succ]
        refine takeC (i := 4) (v := .slice (some ⟨b, off, none⟩) l.length cap) (some 24) rfl rfl (by kernel_rfl) (by kernel_rfl) (by kernel_rfl) (fun _ _ _ h => h) (Or.inl ⟨by rfl, ?_⟩) (by assumption) ?_
        · intro wz hSw; go_simp
        try simp only [Act.put, List.setIfInBounds_toArray, List.set_cons_zero, List.set_cons_succ]
        refine takeC (i := 5) (v := .pointer (some ⟨b, off + 1, none⟩)) (some 25) rfl rfl (by kernel_rfl) (by kernel_rfl) (by kernel_rfl) (fun _ _ _ h => h) (Or.inl ⟨by rfl, ?_⟩) (by assumption) ?_
        · intro wz hSw; go_simp
        try simp only [Act.put, List.setIfInBounds_toArray, List.set_cons_zero, List.set_cons_succ]
        refine takeC (i := 6) (v := .int .i64 x1) (some 26) rfl rfl (by kernel_rfl) (by kernel_rfl) (by kernel_rfl) (fun _ _ _ h => h) (Or.inl ⟨by rfl, ?_⟩) (by assumption) ?_
        · intro wz hSw; have t0 := HC1.out wz hSw; go_simp
        try simp only [Act.put, List.setIfInBounds_toArray, List.set_cons_zero, List.set_cons_succ]
        refine wpAnyH_ready (rs := [7]) (by kernel_rfl) (by simp) ?_
        refine AllReadyH.cons rfl (fun K hK => ?_) AllReadyH.nil
        go_simp
        go_wp2_with (go_at_call 143; go_loud (refine HA.out.mono ?_; rintro e w1 ⟨rfl, hm1, hk1⟩; have HM1 := Lib.hid hm1; have HK1 := Lib.hid (HS0.out.trans hk1); clear hm1 hk1))
        have hSw := HK1.out
        refine hK.out _ _ HK1.out (fun hHn => ?_)
        clear hK K hHn
        try simp only [Act.put, List.setIfInBounds_toArray, List.set_cons_zero, List.set_cons_succ]
        generalize hrr : exclA (1 + I.length) s x0 x1 = rr at *
        obtain ⟨r1, sr⟩ := rr
        have HRR := Lib.hid hrr
        clear hrr
        refine takeC (i := 8) (v := .int .i64 r1) (some 6) rfl rfl (by kernel_rfl) (by kernel_rfl) (by kernel_rfl) (fun _ _ _ h => h) (Or.inl ⟨by rfl, ?_⟩) (by assumption) ?_
        · intro wz hSw; go_simp
        try simp only [Act.put, List.setIfInBounds_toArray, List.set_cons_zero, List.set_cons_succ]
        refine wpAnyH_done (by kernel_rfl) ?_ _
        go_wp2
        go_ret
        exact ⟨by rw [HE.out]; rfl, by rw [HE.out]; exact HM1.out, HK1.out⟩
      · have d3 : (kd == 3) = false := by simpa using c3
        have hq := h4 c1 c2 c3
        have HE : Hid (gateMk (1 + I.length) s kd l = iteA (1 + I.length) s (l.getD 0 0) (l.getD 1 0) (l.getD 2 0)) := by show _ = _; unfold gateMk; rw [if_neg c1, if_neg c2, if_neg c3]
        clear c3
        have HS0 : Hid (KpM B pm bf w w.drew) := ⟨(Below.refl _ w).drew, fun _ _ _ _ h _ => h⟩
        have HMD : Hid (MkE w.drew B pm I s vi bf sl) := H.below ((Below.refl _ w).drew) (Nat.le_refl _)
        have l0 : 0 < l.length := by omega
        have e0 := hl _ (getD_mem l0)
        have l1 : 1 < l.length := by omega
        have e1 := hl _ (getD_mem l1)
        have l2 : 2 < l.length := by omega
        have e2 := hl _ (getD_mem l2)
        have HA := Lib.hid (ite_e HMD.out (Nat.le_trans hB (Nat.le_refl _)) e0 e1 e2)
        unfold AndPost at HA
        have HCELL : Hid (∀ X, KpM B pm bf w X → ∀ k, k < l.length → ∃ b off, a = some ⟨b, off, none⟩ ∧ X.cell? ⟨b, off + k, none⟩ = some (.int .i64 (l.getD k 0))) := fun X hX k hk => by
          obtain ⟨b, off, h1, _, h2⟩ := (HLL.out X hX).cellY hk
          exact ⟨b, off, h1, h2⟩
        obtain ⟨b, off, rfl, _, _⟩ := h0.cellY l0
        have HC0 : Hid (∀ X, KpM B pm bf w X → X.cell? ⟨b, off, none⟩ = some (.int .i64 (l.getD 0 0))) := fun X hX => by
          obtain ⟨b', off', e', t0⟩ := HCELL.out X hX 0 l0
          cases e'
          exact t0
        have HC1 : Hid (∀ X, KpM B pm bf w X → X.cell? ⟨b, off + 1, none⟩ = some (.int .i64 (l.getD 1 0))) := fun X hX => by
          obtain ⟨b', off', e', t0⟩ := HCELL.out X hX 1 l1
          cases e'
          exact t0
        have HC2 : Hid (∀ X, KpM B pm bf w X → X.cell? ⟨b, off + 2, none⟩ = some (.int .i64 (l.getD 2 0))) := fun X hX => by
          obtain ⟨b', off', e', t0⟩ := HCELL.out X hX 2 l2
          cases e'
          exact t0
        clear HCELL HL H h0 hl h3 h4 c1 c2 HLL e0 e1 e2
        generalize l.getD 0 0 = x0 at *
        generalize l.getD 1 0 = x1 at *
        generalize l.getD 2 0 = x2 at *
        have HLn := Lib.hid l0
        have z0 : (0 : Int) < (l.length : Int) := by omega
        have z1 : (1 : Int) < (l.length : Int) := by omega
        have z2 : (2 : Int) < (l.length : Int) := by omega
        go_enter Tryz.func130, Tryz.ntmps130
        go_upto_region 8 with fail
        refine wp_region_held_drew (S := fun X : World => KpM B pm bf w X) (by kernel_rfl) HS0.out (fun hSd => ?_)
        refine takeC (i := 0) (v := .pointer (some ⟨pm, 0, none⟩)) (some 28) rfl rfl (by kernel_rfl) (by kernel_rfl) (by kernel_rfl) (fun _ _ _ h => h) (Or.inl ⟨by rfl, ?_⟩) (by assumption) ?_
        · intro wz hSw; go_simp
        try simp only [Act.put, List.setIfInBounds_toArray, List.set_cons_zero, List.set_cons_succ]
        refine takeC (i := 1) (v := .slice (some ⟨b, off, none⟩) l.length cap) (some 29) rfl rfl (by kernel_rfl) (by kernel_rfl) (by kernel_rfl) (fun _ _ _ h => h) (Or.inl ⟨by rfl, ?_⟩) (by assumption) ?_
        · intro wz hSw; go_simp
        try simp only [Act.put, List.setIfInBounds_toArray, List.set_cons_zero, List.set_cons_succ]
        refine takeC (i := 2) (v := .pointer (some ⟨b, off, none⟩)) (some 30) rfl rfl (by kernel_rfl) (by kernel_rfl) (by kernel_rfl) (fun _ _ _ h => h) (Or.inl ⟨by rfl, ?_⟩) (by assumption) ?_
        · intro wz hSw; go_simp
        try simp only [Act.put, List.setIfInBounds_toArray, List.set_cons_zero, List.set_cons_succ]
        refine takeC (i := 3) (v := .int .i64 x0) (some 31) rfl rfl (by kernel_rfl) (by kernel_rfl) (by kernel_rfl) (fun _ _ _ h => h) (Or.inl ⟨by rfl, ?_⟩) (by assumption) ?_
        · intro wz hSw; have t0 := HC0.out wz hSw; go_simp
        try simp only [Act.put, List.setIfInBounds_toArray, List.set_cons_zero, List.set_cons_succ]
        refine takeC (i := 4) (v := .slice (some ⟨b, off, none⟩) l.length cap) (some 32) rfl rfl (by kernel_rfl) (by kernel_rfl) (by kernel_rfl) (fun _ _ _ h => h) (Or.inl ⟨by rfl, ?_⟩) (by assumption) ?_
        · intro wz hSw; go_simp
        try simp only [Act.put, List.setIfInBounds_toArray, List.set_cons_zero, List.set_cons_succ]
        refine takeC (i := 5) (v := .pointer (some ⟨b, off + 1, none⟩)) (some 33) rfl rfl (by kernel_rfl) (by kernel_rfl) (by kernel_rfl) (fun _ _ _ h => h) (Or.inl ⟨by rfl, ?_⟩) (by assumption) ?_
        · intro wz hSw; go_simp
        try simp only [Act.put, List.setIfInBounds_toArray, List.set_cons_zero, List.set_cons_succ]
        refine takeC (i := 6) (v := .int .i64 x1) (some 34) rfl rfl (by kernel_rfl) (by kernel_rfl) (by kernel_rfl) (fun _ _ _ h => h) (Or.inl ⟨by rfl, ?_⟩) (by assumption) ?_
        · intro wz hSw; have t0 := HC1.out wz hSw; go_simp
        try simp only [Act.put, List.setIfInBounds_toArray, List.set_cons_zero, List.set_cons_succ]
        refine takeC (i := 7) (v := .slice (some ⟨b, off, none⟩) l.length cap) (some 35) rfl rfl (by kernel_rfl) (by kernel_rfl) (by kernel_rfl) (fun _ _ _ h => h) (Or.inl ⟨by rfl, ?_⟩) (by assumption) ?_
        · intro wz hSw; go_simp
        try simp only [Act.put, List.setIfInBounds_toArray, List.set_cons_zero, List.set_cons_succ]
        refine takeC (i := 8) (v := .pointer (some ⟨b, off + 2, none⟩)) (some 36) rfl rfl (by kernel_rfl) (by kernel_rfl) (by kernel_rfl) (fun _ _ _ h => h) (Or.inl ⟨by rfl, ?_⟩) (by assumption) ?_
        · intro wz hSw; go_simp
        try simp only [Act.put, List.setIfInBounds_toArray, List.set_cons_zero, List.set_cons_succ]
        refine takeC (i := 9) (v := .int .i64 x2) (some 37) rfl rfl (by kernel_rfl) (by kernel_rfl) (by kernel_rfl) (fun _ _ _ h => h) (Or.inl ⟨by rfl, ?_⟩) (by assumption) ?_
        · intro wz hSw; have t0 := HC2.out wz hSw; go_simp
        try simp only [Act.put, List.setIfInBounds_toArray, List.set_cons_zero, List.set_cons_succ]
        refine wpAnyH_ready (rs := [10]) (by kernel_rfl) (by simp) ?_
        refine AllReadyH.cons rfl (fun K hK => ?_) AllReadyH.nil
        go_simp
        go_wp2_with (go_at_call 162; go_loud (refine HA.out.mono ?_; rintro e w1 ⟨rfl, hm1, hk1⟩; have HM1 := Lib.hid hm1; have HK1 := Lib.hid (HS0.out.trans hk1); clear hm1 hk1))
        have hSw := HK1.out
        refine hK.out _ _ HK1.out (fun hHn => ?_)
        clear hK K hHn
        try simp only [Act.put, List.setIfInBounds_toArray, List.set_cons_zero, List.set_cons_succ]
        generalize hrr : iteA (1 + I.length) s x0 x1 x2 = rr at *
        obtain ⟨r1, sr⟩ := rr
        have HRR := Lib.hid hrr
        clear hrr
        refine takeC (i := 11) (v := .int .i64 r1) (some 6) rfl rfl (by kernel_rfl) (by kernel_rfl) (by kernel_rfl) (fun _ _ _ h => h) (Or.inl ⟨by rfl, ?_⟩) (by assumption) ?_
        · intro wz hSw; go_simp
        try simp only [Act.put, List.setIfInBounds_toArray, List.set_cons_zero, List.set_cons_succ]
        refine wpAnyH_done (by kernel_rfl) ?_ _
        go_wp2
        go_ret
        exact ⟨by rw [HE.out]; rfl, by rw [HE.out]; exact HM1.out, HK1.out⟩
end Go.Proofs.YtppglbffmgnooaaGreat
