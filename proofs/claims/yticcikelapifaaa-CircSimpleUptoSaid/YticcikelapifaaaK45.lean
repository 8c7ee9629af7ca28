/- Joined texts: CxRSimple. -/
import Derived.Test.YticcikelapifaaaK44
import Derived.Test.YticcikelapifaaaK14
import Derived.Test.YticcikelapifaaaK19
/- The reference's Simple and Cofactor (layer 5). -/
namespace Go.Proofs.Yticcikelapifaaa
open Go.RowKit Go.Maps Go.Shelf
set_option linter.unusedVariables false
set_option linter.unusedSimpArgs false

theorem mayFrom_asc : ∀ (l : List Int) (p : Int), 0 ≤ p → mayFrom p l = true → ascV l ∧ ∀ x ∈ l, p < varC x
  | [], p, _, _ => ⟨List.Pairwise.nil, fun x hx => by cases hx⟩
  | y :: r, p, hp, h => by
    have hv := mayFrom_vars (y :: r) p hp h y List.mem_cons_self
    unfold mayFrom at h
    simp only [Bool.and_eq_true, decide_eq_true_eq] at h
    have hb := varOf_bd y
    have hy : varOf y = varC y := by
      have h1 := h.1
      have h2 := varC_in hv
      unfold varOf at h1 ⊢
      rw [h2.2] at hv ⊢
      repeat' split
      all_goals (first | omega | (split at h1 <;> omega))
    obtain ⟨h1, h2⟩ := mayFrom_asc r _ hb.1 h.2
    refine ⟨?_, fun x hx => ?_⟩
    · unfold ascV
      rw [List.pairwise_cons]
      exact ⟨fun z hz => by rw [← hy]; exact h2 z hz, h1⟩
    · rcases List.mem_cons.1 hx with rfl | hx
      · rw [← hy]; exact h.1
      · have := h2 x hx; omega
theorem mayB_asc {a : List Int} (h : mayB a = true) : ascV a := (mayFrom_asc a 0 (Int.le_refl 0) h).1

set_option maxRecDepth 100000 in
set_option maxHeartbeats 3200000 in
theorem rsimple5_any (vp vg : Value) (o : Int) (P : List Blk) (gs : List Gt) (w : World) (HP : IsBlocks w vp P) (HG : IsGates w vg gs) (hp : P.length ≤ 4000000) (hg : gs.length < 1000000) (ho1 : -9223372036854775808 ≤ o) (ho2 : o ≤ 9223372036854775807) :
    Calls Try.prog 30 #[.agg #[vp, vg, .int .i64 o]] w (NetPostE w w (simpleN P gs o)) := by
  obtain ⟨W0, hW0, hb0, hz0, hn0, hr0⟩ := net_boxes w vp vg o
  have HP0 := HP.below hb0 (Nat.le_refl _)
  have HG0 := HG.below hb0 (Nat.le_refl _)
  have HMY := Lib.hid (rmay5_any vp vg o P gs W0 HP0 HG0 hp (by omega) ho1 ho2)
  have HW0 := Lib.hid hW0
  have HB0 := Lib.hid hb0
  have HZ0 := Lib.hid hz0
  have HN0 := Lib.hid hn0
  have HR0 := Lib.hid hr0
  have HPW := Lib.hid HP0
  have HGW := Lib.hid HG0
  have HGB := Lib.hid HG.bd
  obtain ⟨pa, pc, rfl, _⟩ := HP.shape
  obtain ⟨ga, gc, rfl, _⟩ := HG.shape
  have c0 : W0.cell? ⟨w.heap.size, 0, none⟩ = some (.slice pa P.length pc) := by simp [World.cell?, HN0.out]
  have c1 : W0.cell? ⟨w.heap.size, 1, none⟩ = some (.slice ga gs.length gc) := by simp [World.cell?, HN0.out]
  have c2 : W0.cell? ⟨w.heap.size, 2, none⟩ = some (.int .i64 o) := by simp [World.cell?, HN0.out]
  have hz : W0.heap.size ≥ w.heap.size + 2 := by omega
  clear HP HG HP0 HG0 hW0 hb0 hz0 hn0 hr0
  cases hm : mayN P gs o with
  | false =>
    rw [hm] at HMY
    have HS : Hid (simpleN P gs o = (noNet, 2)) := by show _ = _; unfold simpleN; rw [hm]; rfl
    clear hm
    go_enter Try.func30, Try.ntmps30
    go_wp2_with fail
    rw [HW0.out]
    refine HMY.out.mono ?_
    rintro e w1 ⟨rfl, hb1⟩
    obtain ⟨⟨d0, d1, d2, e0, e1, e2⟩, hfin⟩ := net_put (w0 := w) (o := 0) ((hb1.block _ (by omega)).trans HR0.out) (HB0.out.trans (hb1.mono HB0.out.size)) (NetO.nil (B := w.heap.size + 2) (HB0.out.trans (hb1.mono HB0.out.size)) (by omega)) (Nat.le_refl _) (Nat.le_refl _)
    have HFIN := Lib.hid hfin
    clear hfin hb1
    go_wp2
    obtain ⟨⟨g0, g1, g2⟩, hno, hbe⟩ := HFIN.out
    refine ⟨rfl, .tuple #[.agg #[.slice none 0 0, .slice none 0 0, .int .i64 0], .int .i64 2], by simp [results, Try.f30, go_sem, g0, g1, g2], ?_⟩
    unfold NetPostE
    rw [HS.out]
    exact ⟨_, _, rfl, hno, hbe⟩
  | true =>
    rw [hm] at HMY
    have HS : Hid (simpleN P gs o = (simpN P gs o [], 0)) := by show _ = _; unfold simpleN; rw [hm]; rfl
    have HMM := Lib.hid hm
    clear hm
    go_enter Try.func30, Try.ntmps30
    go_wp2_with fail
    rw [HW0.out]
    refine HMY.out.mono ?_
    rintro e w1 ⟨rfl, hb1⟩
    have k0 : w1.cell? ⟨w.heap.size, 0, none⟩ = some (.slice pa P.length pc) := (hb1.cell (p := ⟨w.heap.size, 0, none⟩) (by simp; omega)).trans c0
    have k1 : w1.cell? ⟨w.heap.size, 1, none⟩ = some (.slice ga gs.length gc) := (hb1.cell (p := ⟨w.heap.size, 1, none⟩) (by simp; omega)).trans c1
    have k2 : w1.cell? ⟨w.heap.size, 2, none⟩ = some (.int .i64 o) := (hb1.cell (p := ⟨w.heap.size, 2, none⟩) (by simp; omega)).trans c2
    have HT1 : Hid (Below w.heap.size w w1) := HB0.out.trans (hb1.mono HB0.out.size)
    have HSI := Lib.hid (rsimp5_any w _ _ (.slice none 0 0) o P gs [] w1 (HPW.out.below hb1 (Nat.le_refl _)) (HGW.out.below hb1 (Nat.le_refl _)) (IsInts.nil _) HMM.out List.Pairwise.nil (fun x hx => by cases hx) hg HT1.out)
    have HR1 : Hid (w1.heap[w.heap.size + 1]? = some (.cells #[.slice none 0 0, .slice none 0 0, .int .i64 0] 25 (0, 0))) := (hb1.block _ (by omega)).trans HR0.out
    have hsz1 : w.heap.size + 2 ≤ w1.heap.size := by have := hb1.size; omega
    clear hb1 c0 c1 c2
    go_wp2_with (go_at_call 68; go_loud (refine HSI.out.mono ?_; rintro e w2 ⟨v2, u2, rfl, hno2, hb2⟩; obtain ⟨⟨d0, d1, d2, e0, e1, e2⟩, hfin⟩ := net_put (w0 := w) (o := (simpN P gs o []).2.2) ((hb2.block _ (by omega)).trans HR1.out) (HT1.out.trans (hb2.mono HT1.out.size)) hno2 (Nat.le_refl _) hsz1; obtain ⟨⟨a2, c2, rfl⟩, b2, e2', rfl⟩ := hno2.shapes; have HFIN := Lib.hid hfin; clear hfin hb2 hno2))
    obtain ⟨⟨g0, g1, g2⟩, hno, hbe⟩ := HFIN.out
    refine ⟨rfl, .tuple #[.agg #[.slice a2 (simpN P gs o []).1.length c2, .slice b2 (simpN P gs o []).2.1.length e2', .int .i64 (simpN P gs o []).2.2], .int .i64 0], by simp [results, Try.f30, go_sem, g0, g1, g2], ?_⟩
    unfold NetPostE
    rw [HS.out]
    exact ⟨_, _, rfl, hno, hbe⟩

set_option maxRecDepth 100000 in
set_option maxHeartbeats 3200000 in
theorem rcof5_any (vp vg va : Value) (o : Int) (P : List Blk) (gs : List Gt) (a : List Int) (w : World) (HP : IsBlocks w vp P) (HG : IsGates w vg gs) (HA : IsInts w va a) (hp : P.length ≤ 4000000) (hg : gs.length < 1000000) (ha : a.length ≤ 1000000) (ho1 : -9223372036854775808 ≤ o) (ho2 : o ≤ 9223372036854775807) :
    Calls Try.prog 32 #[.agg #[vp, vg, .int .i64 o], va] w (NetPostE w w (cofN P gs o a)) := by
  obtain ⟨W0, hW0, hb0, hz0, hn0, hr0⟩ := net_boxes w vp vg o
  have HP0 := HP.below hb0 (Nat.le_refl _)
  have HG0 := HG.below hb0 (Nat.le_refl _)
  have HMY := Lib.hid (rmay5_any vp vg o P gs W0 HP0 HG0 hp (by omega) ho1 ho2)
  have HW0 := Lib.hid hW0
  have HB0 := Lib.hid hb0
  have HZ0 := Lib.hid hz0
  have HN0 := Lib.hid hn0
  have HR0 := Lib.hid hr0
  have HPW := Lib.hid HP0
  have HGW := Lib.hid HG0
  have HAW := Lib.hid (HA.below hb0 (Nat.le_refl _))
  have HGB := Lib.hid HG.bd
  obtain ⟨pa, pc, rfl, _⟩ := HP.shape
  obtain ⟨ga, gc, rfl, _⟩ := HG.shape
  obtain ⟨aa, ac, rfl⟩ := HA.shape
  have c0 : W0.cell? ⟨w.heap.size, 0, none⟩ = some (.slice pa P.length pc) := by simp [World.cell?, HN0.out]
  have c1 : W0.cell? ⟨w.heap.size, 1, none⟩ = some (.slice ga gs.length gc) := by simp [World.cell?, HN0.out]
  have c2 : W0.cell? ⟨w.heap.size, 2, none⟩ = some (.int .i64 o) := by simp [World.cell?, HN0.out]
  have hz : W0.heap.size ≥ w.heap.size + 2 := by omega
  have HER : Hid (∀ X, Below W0.heap.size W0 X → (X.cell? ⟨w.heap.size + 1, 0, none⟩ = some (.slice none 0 0) ∧ X.cell? ⟨w.heap.size + 1, 1, none⟩ = some (.slice none 0 0) ∧ X.cell? ⟨w.heap.size + 1, 2, none⟩ = some (.int .i64 0) ∧ X.frozen? ⟨w.heap.size + 1, 0, none⟩ = false ∧ X.frozen? ⟨w.heap.size + 1, 1, none⟩ = false ∧ X.frozen? ⟨w.heap.size + 1, 2, none⟩ = false) ∧
    let Y := ((X.setCell ⟨w.heap.size + 1, 0, none⟩ (.slice none 0 0)).setCell ⟨w.heap.size + 1, 1, none⟩ (.slice none 0 0)).setCell ⟨w.heap.size + 1, 2, none⟩ (.int .i64 0);
      (Y.cell? ⟨w.heap.size + 1, 0, none⟩ = some (.slice none 0 0) ∧ Y.cell? ⟨w.heap.size + 1, 1, none⟩ = some (.slice none 0 0) ∧ Y.cell? ⟨w.heap.size + 1, 2, none⟩ = some (.int .i64 0)) ∧ NetO w Y w.heap.size (.slice none 0 0) (.slice none 0 0) [] [] ∧ Below w.heap.size w Y) := fun X hX =>
    net_put (w0 := w) (o := 0) ((hX.block _ (by omega)).trans HR0.out) (HB0.out.trans (hX.mono HB0.out.size)) (NetO.nil (B := w.heap.size + 2) (HB0.out.trans (hX.mono HB0.out.size)) (by omega)) (Nat.le_refl _) (Nat.le_refl _)
  have HCL : Hid (∀ X, Below W0.heap.size W0 X → X.cell? ⟨w.heap.size, 0, none⟩ = some (.slice pa P.length pc) ∧ X.cell? ⟨w.heap.size, 1, none⟩ = some (.slice ga gs.length gc) ∧ X.cell? ⟨w.heap.size, 2, none⟩ = some (.int .i64 o)) := fun X hX =>
    ⟨(hX.cell (p := ⟨w.heap.size, 0, none⟩) (by simp; omega)).trans c0, (hX.cell (p := ⟨w.heap.size, 1, none⟩) (by simp; omega)).trans c1, (hX.cell (p := ⟨w.heap.size, 2, none⟩) (by simp; omega)).trans c2⟩
  have HNO : Hid (∀ X, Below W0.heap.size W0 X → Calls Try.prog 59 #[.slice aa a.length ac] X fun e w' => e = .returned (.bool (mayB a)) ∧ Below X.heap.size X w') := fun X hX => (rnormal5_any _ a X (HAW.out.below hX (Nat.le_refl _))).mono fun e w' h => ⟨h.1, h.2.below _⟩
  clear HP HG HA HP0 HG0 hW0 hb0 hz0 hn0 hr0 c0 c1 c2
  cases hm : mayN P gs o with
  | false =>
    rw [hm] at HMY
    have HS : Hid (cofN P gs o a = (noNet, 2)) := by show _ = _; unfold cofN okN; rw [hm]; rfl
    clear hm
    go_enter Try.func32, Try.ntmps32
    go_wp2_with fail
    rw [HW0.out]
    refine HMY.out.mono ?_
    rintro e w1 ⟨rfl, hb1⟩
    obtain ⟨⟨d0, d1, d2, e0, e1, e2⟩, hfin⟩ := HER.out w1 hb1
    have HFIN := Lib.hid hfin
    clear hfin hb1
    go_wp2
    obtain ⟨⟨g0, g1, g2⟩, hno, hbe⟩ := HFIN.out
    refine ⟨rfl, .tuple #[.agg #[.slice none 0 0, .slice none 0 0, .int .i64 0], .int .i64 2], by simp [results, Try.f32, go_sem, g0, g1, g2], ?_⟩
    unfold NetPostE
    rw [HS.out]
    exact ⟨_, _, rfl, hno, hbe⟩
  | true =>
    rw [hm] at HMY
    have HMP := Lib.hid (mayN_parts hm HGB.out ho1 ho2)
    have HM := Lib.hid hm
    clear hm
    cases hn : mayB a with
    | false =>
      rw [hn] at HNO
      have HS : Hid (cofN P gs o a = (noNet, 2)) := by show _ = _; unfold cofN okN; rw [HM.out, hn]; rfl
      clear hn
      go_enter Try.func32, Try.ntmps32
      go_wp2_with fail
      rw [HW0.out]
      refine HMY.out.mono ?_
      rintro e w1 ⟨rfl, hb1⟩
      have HB1 := Lib.hid hb1
      clear hb1
      go_wp2_with (go_at_call 59; refine (HNO.out w1 HB1.out).mono ?_; rintro e w2 ⟨rfl, hb2⟩; have HB2 := Lib.hid (HB1.out.trans (hb2.mono HB1.out.size)); obtain ⟨⟨d0, d1, d2, e0, e1, e2⟩, hfin⟩ := HER.out w2 HB2.out; have HFIN := Lib.hid hfin; clear hfin hb2)
      obtain ⟨⟨g0, g1, g2⟩, hno, hbe⟩ := HFIN.out
      refine ⟨rfl, .tuple #[.agg #[.slice none 0 0, .slice none 0 0, .int .i64 0], .int .i64 2], by simp [results, Try.f32, go_sem, g0, g1, g2], ?_⟩
      unfold NetPostE
      rw [HS.out]
      exact ⟨_, _, rfl, hno, hbe⟩
    | true =>
      rw [hn] at HNO
      have HOK : Hid (okN P gs o a = true) := by show _ = _; unfold okN; rw [HM.out, hn]; rfl
      have HFB := Lib.hid (mayP_parts HMP.out.1).2.2.1
      have hfl := (mayP_short HMP.out.1).1
      have HAV := Lib.hid (mayB_vars hn)
      have HASC := Lib.hid (mayB_asc hn)
      have h64 : Hid (In64 a) := by obtain ⟨_, _, _, _, _, _, g, _⟩ := HAW.out; exact g
      obtain ⟨S, hS⟩ : ∃ S, flatB P = S := ⟨_, rfl⟩
      have HVA : Hid (∀ X, Below W0.heap.size W0 X → Calls Try.prog 33 #[.slice pa P.length pc] X fun e w' => ∃ u, e = .returned u ∧ Own w' X.heap.size u S ∧ Below X.heap.size X w') := fun X hX => by
        have h := vars5_any _ P X (HPW.out.below hX (Nat.le_refl _)) (by omega)
        rw [hS] at h
        exact h
      have HC : Hid (cofN P gs o a = if a.all (fun x => decide (varC x ∈ S)) = true then (simpN P gs o a, 0) else (noNet, 6)) := by show _ = _; unfold cofN; rw [if_pos HOK.out, hS]
      have HSI : Hid ((∀ x ∈ a, varC x ∈ S) → ∀ X, Below W0.heap.size W0 X → Calls Try.prog 68 #[.agg #[.slice pa P.length pc, .slice ga gs.length gc, .int .i64 o], .slice aa a.length ac] X (NetPostO w X (simpN P gs o a))) := fun hin X hX => rsimp5_any w _ _ _ o P gs a X (HPW.out.below hX (Nat.le_refl _)) (HGW.out.below hX (Nat.le_refl _)) (HAW.out.below hX (Nat.le_refl _)) HM.out HASC.out (by rw [hS]; exact hin) hg (HB0.out.trans (hX.mono HB0.out.size))
      rw [hS] at HFB hfl
      have HFL := Lib.hid hfl
      clear hn hS hfl
      go_enter Try.func32, Try.ntmps32
      go_wp2_with fail
      rw [HW0.out]
      refine HMY.out.mono ?_
      rintro e w1 ⟨rfl, hb1⟩
      have HB1 := Lib.hid hb1
      clear hb1
      go_wp2_with (first
        | (go_at_call 59; refine (HNO.out w1 HB1.out).mono ?_; rintro e w2 ⟨rfl, hb2⟩; have HB2 := Lib.hid (HB1.out.trans (hb2.mono HB1.out.size)); clear hb2; obtain ⟨k0, k1, k2⟩ := HCL.out w2 HB2.out)
        | (go_at_call 33; go_loud (refine (HVA.out w2 HB2.out).mono ?_; rintro e w3 ⟨u3, rfl, ho3, hb3⟩; have HO3 := Lib.hid ho3; have HB3 := Lib.hid (HB2.out.trans (hb3.mono HB2.out.size)); clear ho3 hb3 k0 k1 k2)))
      have HIV := Lib.hid (HO3.out.ints (by have := HFL.out; omega) (fun y hy => by have := HFB.out y hy; omega))
      go_loopw [7] (fun i wr => ∃ k : Nat, k ≤ a.length ∧ i = .int .i64 k ∧ (∀ x ∈ a.take k, varC x ∈ S) ∧ w3 = wr) (fun i _ => a.length - (intOf i).toNat)
      case atStart => exact ⟨0, Nat.zero_le _, rfl, by simp, by trivial⟩
      case round =>
        obtain ⟨k, hk, rfl, hin, rfl⟩ := hrel
        have HIN := Lib.hid hin
        clear hin
        by_cases hlt : k < a.length
        · obtain ⟨b2, off2, rfl, hb2, hc0⟩ := HAW.out.cellY hlt
          have hc := (HB3.out.cell (p := ⟨b2, off2 + k, none⟩) hb2).trans hc0
          have hxm : a.getD k 0 ∈ a := by simp [List.getD, hlt]
          have HTK : Hid (a.take (k + 1) = a.take k ++ [a.getD k 0]) := by show _ = _; rw [List.take_succ_eq_append_getElem hlt]; simp [List.getD, hlt]
          have hxv := HAV.out _ hxm
          have hx64 := h64.out _ hxm
          have HAX := Lib.hid (fun X => abs5_any (a.getD k 0) X hx64.1 hx64.2)
          rw [abs5_var hxv.1] at HAX
          have HNX := Lib.hid (in5_any _ S (varC (a.getD k 0)) w3 HIV.out (by omega) (by omega))
          have HKL := Lib.hid hlt
          have HXM := Lib.hid hxm
          have hne : ¬ a = [] := by intro e; rw [e] at hlt; simp at hlt
          have hk0 : (0 : Int) ≤ (k : Int) := by omega
          have hk1 : (k : Int) < (a.length : Int) := by omega
          clear hc0 hxm hxv hx64 hlt hk hb2
          generalize a.getD k 0 = x at *
          cases hmem : memB S (varC x) with
          | true =>
            rw [hmem] at HNX
            have HXS : Hid (varC x ∈ S) := by show varC x ∈ S; unfold memB at hmem; exact of_decide_eq_true hmem
            clear hmem
            have HIX : Hid (∀ y ∈ a.take (k + 1), varC y ∈ S) := fun y hy => by
              rw [HTK.out] at hy
              rcases List.mem_append.1 hy with h | h
              · exact HIN.out y h
              · rw [List.mem_singleton] at h; subst h; exact HXS.out
            generalize varC x = v at *
            go_wp2_with (first
              | (go_at_call 38; refine (HAX.out _).mono ?_; rintro e w7 ⟨rfl, rfl⟩)
              | (go_at_call 37; refine HNX.out.mono ?_; rintro e w8 ⟨rfl, rfl⟩))
            go_roundw
            case rel => exact ⟨k + 1, HKL.out, by go_num, HIX.out, by trivial⟩
            case measure => have := HKL.out; simp [intOf]; omega
          | false =>
            rw [hmem] at HNX
            have HS : Hid (cofN P gs o a = (noNet, 6)) := by
              show _ = _
              rw [HC.out, if_neg]
              intro h
              have h1 := List.all_eq_true.1 h x HXM.out
              unfold memB at hmem
              rw [hmem] at h1
              cases h1
            clear hmem HIN HTK
            generalize varC x = v at *
            obtain ⟨⟨d0, d1, d2, e0, e1, e2⟩, hfin⟩ := HER.out w3 HB3.out
            have HFIN := Lib.hid hfin
            clear hfin
            go_wp2_with (first
              | (go_at_call 38; refine (HAX.out _).mono ?_; rintro e w7 ⟨rfl, rfl⟩)
              | (go_at_call 37; refine HNX.out.mono ?_; rintro e w8 ⟨rfl, rfl⟩))
            obtain ⟨⟨g0, g1, g2⟩, hno, hbe⟩ := HFIN.out
            refine ⟨rfl, .tuple #[.agg #[.slice none 0 0, .slice none 0 0, .int .i64 0], .int .i64 6], by simp [results, Try.f32, go_sem, g0, g1, g2], ?_⟩
            unfold NetPostE
            rw [HS.out]
            exact ⟨_, _, rfl, hno, hbe⟩
        · have hal2 : ∀ x ∈ a, varC x ∈ S := by have h := HIN.out; rwa [List.take_of_length_le (by omega)] at h
          have HS : Hid (cofN P gs o a = (simpN P gs o a, 0)) := by show _ = _; rw [HC.out, if_pos (List.all_eq_true.2 fun x hx => decide_eq_true (hal2 x hx))]
          have HSX := Lib.hid (HSI.out hal2 w3 HB3.out)
          have hsz3 : w.heap.size + 2 ≤ w3.heap.size := by have := HB3.out.size; omega
          obtain ⟨k0, k1, k2⟩ := HCL.out w3 HB3.out
          clear hal2 HIN HSI HC
          go_wp2_with (go_at_call 68; go_loud (refine HSX.out.mono ?_; rintro e w4 ⟨v4, u4, rfl, hno4, hb4⟩; have HB4 := HB3.out.trans (hb4.mono HB3.out.size); obtain ⟨⟨d0, d1, d2, e0, e1, e2⟩, hfin⟩ := net_put (w0 := w) (o := (simpN P gs o a).2.2) ((HB4.block _ (by omega)).trans HR0.out) (HB0.out.trans (HB4.mono HB0.out.size)) hno4 (Nat.le_refl _) hsz3; obtain ⟨⟨a2, c2, rfl⟩, b2, e2', rfl⟩ := hno4.shapes; have HFIN := Lib.hid hfin; clear hfin hb4 hno4 HB4))
          obtain ⟨⟨g0, g1, g2⟩, hno, hbe⟩ := HFIN.out
          refine ⟨rfl, .tuple #[.agg #[.slice a2 (simpN P gs o a).1.length c2, .slice b2 (simpN P gs o a).2.1.length e2', .int .i64 (simpN P gs o a).2.2], .int .i64 0], by simp [results, Try.f32, go_sem, g0, g1, g2], ?_⟩
          unfold NetPostE
          rw [HS.out]
          exact ⟨_, _, rfl, hno, hbe⟩
end Go.Proofs.Yticcikelapifaaa
