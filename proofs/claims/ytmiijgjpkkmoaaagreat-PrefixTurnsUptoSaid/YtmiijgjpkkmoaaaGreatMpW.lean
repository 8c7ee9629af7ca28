/- Joined texts: PxTurnE, PxLawTurn. -/
import Derived.Test.YtmiijgjpkkmoaaaGreatPxTurnD
import Derived.Test.YtmiijgjpkkmoaaaGreatPxHeadB
/- Linear of both, whatever comes in; Dqbf of both. -/
namespace Go.Proofs.YtmiijgjpkkmoaaaGreat
open Go.RowKit Go.Shelf Go.Lib
set_option linter.unusedVariables false
set_option linter.unusedSimpArgs false

set_option maxRecDepth 100000 in
theorem plin_arg (vu ve vc : Value) (U : List Int) (E : List (Int × List Int)) (C : List (List Int)) (w : World) (HU : IsInts w vu U) (HE : IsDeps w ve E) (HC : IsRows w vc C) (h64e : In64 (exOf E)) (hm : mayDB U E C = false) :
    Calls Tryz.prog 10 #[.agg #[vu, ve, vc]] w fun e w' => e = .returned (.tuple #[.slice none 0 0, .int .i64 2]) ∧ Below w.heap.size w w' := by
  obtain ⟨W, hW⟩ : ∃ W, w.alloc (.cells #[vu, ve, vc] 29) = W := ⟨_, rfl⟩
  have hb0 : Below w.heap.size w W := by rw [← hW]; exact (Below.refl w.heap.size w).alloc (Nat.le_refl _) _
  have c0 : W.cell? ⟨w.heap.size, 0, none⟩ = some vu := by rw [← hW]; exact cell_fresh rfl
  have c1 : W.cell? ⟨w.heap.size, 1, none⟩ = some ve := by rw [← hW]; exact cell_fresh rfl
  have c2 : W.cell? ⟨w.heap.size, 2, none⟩ = some vc := by rw [← hW]; exact cell_fresh rfl
  have HM := Lib.hid (pmayd_any vu ve vc U E C W (HU.below hb0 (Nat.le_refl _)) (HE.below hb0 (Nat.le_refl _)) (HC.below hb0 (Nat.le_refl _)) h64e)
  rw [hm] at HM
  have HB0 := Lib.hid hb0
  obtain ⟨ua, uc, rfl⟩ := HU.shape
  obtain ⟨ea, ec, rfl, _⟩ := HE.shape
  obtain ⟨ra, rk, rfl, _⟩ := HC.shape
  clear HU HE HC h64e hm hb0
  go_enter Tryz.func10, Tryz.ntmps10
  go_wp2_with (go_at_call 39; refine HM.out.mono ?_; rintro e w1 ⟨rfl, hb1⟩)
  go_ret2
  exact ⟨rfl, HB0.out.trans (hb1.mono HB0.out.size)⟩
set_option maxRecDepth 100000 in
theorem rlin_arg (vu ve vc : Value) (U : List Int) (E : List (Int × List Int)) (C : List (List Int)) (w : World) (HU : IsInts w vu U) (HE : IsDeps w ve E) (HC : IsRows w vc C) (h64e : In64 (exOf E)) (hm : mayDB U E C = false) (hd : U.length + E.length + totT E + (C.length + tot C) ≤ 4000000) :
    Calls Tryz.prog 11 #[.agg #[vu, ve, vc]] w fun e w' => e = .returned (.tuple #[.slice none 0 0, .int .i64 2]) ∧ Below w.heap.size w w' := by
  obtain ⟨W, hW⟩ : ∃ W, w.alloc (.cells #[vu, ve, vc] 29) = W := ⟨_, rfl⟩
  have hb0 : Below w.heap.size w W := by rw [← hW]; exact (Below.refl w.heap.size w).alloc (Nat.le_refl _) _
  have c0 : W.cell? ⟨w.heap.size, 0, none⟩ = some vu := by rw [← hW]; exact cell_fresh rfl
  have c1 : W.cell? ⟨w.heap.size, 1, none⟩ = some ve := by rw [← hW]; exact cell_fresh rfl
  have c2 : W.cell? ⟨w.heap.size, 2, none⟩ = some vc := by rw [← hW]; exact cell_fresh rfl
  have HM := Lib.hid (rmayd_any vu ve vc U E C W (HU.below hb0 (Nat.le_refl _)) (HE.below hb0 (Nat.le_refl _)) (HC.below hb0 (Nat.le_refl _)) (by omega) (by omega) h64e)
  rw [hm] at HM
  have HB0 := Lib.hid hb0
  obtain ⟨ua, uc, rfl⟩ := HU.shape
  obtain ⟨ea, ec, rfl, _⟩ := HE.shape
  obtain ⟨ra, rk, rfl, _⟩ := HC.shape
  clear HU HE HC h64e hm hb0 hd
  go_enter Tryz.func11, Tryz.ntmps11
  go_wp2_with (go_at_call 17; refine HM.out.mono ?_; rintro e w1 ⟨rfl, hb1⟩)
  go_ret2
  exact ⟨rfl, HB0.out.trans (hb1.mono HB0.out.size)⟩

set_option maxRecDepth 100000 in
set_option maxHeartbeats 6400000 in
theorem rlin_no (vu ve vc : Value) (U : List Int) (E : List (Int × List Int)) (C : List (List Int)) (w : World) (HU : IsInts w vu U) (HE : IsDeps w ve E) (HC : IsRows w vc C) (hm : mayDB U E C = true) (hall : ¬ cmpAll E) (hd : U.length + E.length + totT E + (C.length + tot C) ≤ 4000000) :
    Calls Tryz.prog 11 #[.agg #[vu, ve, vc]] w fun e w' => e = .returned (.tuple #[.slice none 0 0, .int .i64 30]) ∧ Below w.heap.size w w' := by
  have hok := (mayD_ok.1 hm).1
  have h64e : In64 (exOf E) := fun x hx => by
    have := hok.2.2.2.1 x (List.mem_append_right _ hx)
    omega
  obtain ⟨W, hW⟩ : ∃ W, w.alloc (.cells #[vu, ve, vc] 29) = W := ⟨_, rfl⟩
  have hb0 : Below w.heap.size w W := by rw [← hW]; exact (Below.refl w.heap.size w).alloc (Nat.le_refl _) _
  have hz : W.heap.size = w.heap.size + 1 := by rw [← hW]; simp
  have c0 : ∀ i v, (#[vu, ve, vc] : Array Value)[i]? = some v → W.cell? ⟨w.heap.size, i, none⟩ = some v := fun i v h => by rw [← hW]; exact cell_fresh h
  have HY : Hid (∀ X, Below W.heap.size W X → X.cell? ⟨w.heap.size, 0, none⟩ = some vu ∧ X.cell? ⟨w.heap.size, 1, none⟩ = some ve ∧ X.cell? ⟨w.heap.size, 2, none⟩ = some vc) := fun X hX =>
    ⟨(hX.cell (p := ⟨w.heap.size, 0, none⟩) (by simp; omega)).trans (c0 0 _ rfl), (hX.cell (p := ⟨w.heap.size, 1, none⟩) (by simp; omega)).trans (c0 1 _ rfl), (hX.cell (p := ⟨w.heap.size, 2, none⟩) (by simp; omega)).trans (c0 2 _ rfl)⟩
  have HB0 := Lib.hid hb0
  have HUP : Hid (∀ X, Below W.heap.size W X → IsInts X vu U ∧ IsDeps X ve E ∧ IsRows X vc C) := fun X hX => by
    have h := hb0.trans (hX.mono hb0.size)
    exact ⟨HU.below h (Nat.le_refl _), HE.below h (Nat.le_refl _), HC.below h (Nat.le_refl _)⟩
  have HRM : Hid (Calls Tryz.prog 17 #[.agg #[vu, ve, vc]] W fun e w' => e = .returned (.bool true) ∧ Below W.heap.size W w') := by
    have := rmayd_any vu ve vc U E C W (HUP.out W (Below.refl _ _)).1 (HUP.out W (Below.refl _ _)).2.1 (HUP.out W (Below.refl _ _)).2.2 (by omega) (by omega) h64e
    rw [hm] at this
    exact this
  have HEW := Lib.hid (HUP.out W (Below.refl _ _)).2.1
  obtain ⟨ua, uc, rfl⟩ := HU.shape
  obtain ⟨ea, ec, rfl, _⟩ := HE.shape
  obtain ⟨ra, rk, rfl, _⟩ := HC.shape
  obtain ⟨y0, y1, y2⟩ := HY.out W (Below.refl _ _)
  have hlens := hok.2.2.2.2
  rw [List.length_append, exOf_len] at hlens
  have HLN : Hid (U.length + E.length ≤ 1024) := hlens
  have HALL : Hid (¬ cmpAll E) := hall
  have HPT : Hid (∀ X, Below W.heap.size W X → ∀ u1 u2 l1 l2, IsInts W u1 l1 → IsInts W u2 l2 → Calls Tryz.prog 19 #[u1, u2] X fun e w' => e = .returned (.bool (partB l1 l2)) ∧ X = w') := fun X hX u1 u2 l1 l2 h1 h2 => rpart_any u1 u2 l1 l2 X (h1.below hX (Nat.le_refl _)) (h2.below hX (Nat.le_refl _))
  clear c0 hb0 HU HE HC h64e hd hm hall hok hlens hz
  go_enter Tryz.func11, Tryz.ntmps11
  go_wp2_with (go_at_call 17; refine HRM.out.mono ?_; rintro e w1 ⟨rfl, hb1⟩)
  have HB1 := Lib.hid hb1
  clear HRM y0 y1 y2 hb1
  go_loopw [4] (fun i wr => ∃ n : Nat, n ≤ E.length ∧ i = .int .i64 n ∧ Below W.heap.size W wr ∧ Hid (∀ i k, i < n → k < i → cmpOne E i k)) (fun i _ => E.length - (intOf i).toNat)
  case atStart => exact ⟨0, Nat.zero_le _, rfl, HB1.out, fun i k h => absurd h (Nat.not_lt_zero _)⟩
  case round =>
    clear HB1
    obtain ⟨n, hn, rfl, hbr, hcn⟩ := hrel
    obtain ⟨q0, q1, q2⟩ := HY.out wr hbr
    by_cases hlt : n < E.length
    · have hn0 : (0 : Int) ≤ (n : Int) := by omega
      have hn1 : (n : Int) < (E.length : Int) := by omega
      have hn2 : (n : Int) < 4000001 := by have := HLN.out; omega
      have HNL := Lib.hid hlt
      have HBR := Lib.hid hbr
      clear hbr
      go_wp2
      clear q0 q1 q2
      generalize wr = wo at *
      go_loopw [5] (fun j wr => ∃ k : Nat, k ≤ n ∧ j = .int .i64 k ∧ Below W.heap.size W wr ∧ Hid (∀ k', k' < k → cmpOne E n k')) (fun j _ => n - (intOf j).toNat)
      case atStart => exact ⟨0, Nat.zero_le _, rfl, HBR.out, fun k h => absurd h (Nat.not_lt_zero _)⟩
      case round =>
        clear HBR
        obtain ⟨k, hk, rfl, hbr, hck⟩ := hrel
        obtain ⟨q0, q1, q2⟩ := HY.out wr hbr
        by_cases hkn : k < n
        · have hk0 : (0 : Int) ≤ (k : Int) := by omega
          have hk1 : (k : Int) < (E.length : Int) := by omega
          have hk2 : (k : Int) < (n : Int) := by omega
          obtain ⟨b, off, u1, hea, hb, _, hcu1, HI1⟩ := HEW.out.at hlt
          obtain ⟨b', off', u2, hea', _, _, hcu2, HI2⟩ := HEW.out.at (show k < E.length by omega)
          subst hea
          injection hea' with hea'
          injection hea' with e1 e2 _
          subst e1; subst e2
          have hd1 := (hbr.cell (p := ⟨b, off + n * 2 + 1, none⟩) hb).trans hcu1
          have hd2 := (hbr.cell (p := ⟨b, off + k * 2 + 1, none⟩) hb).trans hcu2
          obtain ⟨xa, xc, rfl⟩ := HI1.shape
          obtain ⟨ya, yc, rfl⟩ := HI2.shape
          have hP1 := fun m => HPT.out (wr.drewN m) (hbr.trans (below_dr _ m _)) _ _ _ _ HI1 HI2
          have hP2 := fun m => HPT.out (wr.drewN m) (hbr.trans (below_dr _ m _)) _ _ _ _ HI2 HI1
          have HC1 : Hid (partB (E.getD n dD).2 (E.getD k dD).2 = true → cmpOne E n k) := fun h => Or.inl (partB_mem h)
          have HC2 : Hid (partB (E.getD k dD).2 (E.getD n dD).2 = true → cmpOne E n k) := fun h => Or.inr (partB_mem h)
          have HBR := Lib.hid hbr
          have HKN := Lib.hid hkn
          clear hcu1 hcu2 HI1 HI2 hbr
          generalize partB (E.getD n dD).2 (E.getD k dD).2 = p1 at *
          generalize partB (E.getD k dD).2 (E.getD n dD).2 = p2 at *
          generalize (E.getD n dD).2.length = nx at *
          generalize (E.getD k dD).2.length = ny at *
          cases p1 with
          | true =>
            have HCX := Lib.hid (HC1.out rfl)
            go_wp2_with fail
            go_quiet ((go_at_call 19; with_reducible exact quiet_left (hP1 _)))
            go_wp2
            go_roundw
            case rel => exact ⟨k + 1, by have := HKN.out; omega, by go_num, HBR.out.trans (below_dr _ _ _), fun k' h => (Nat.lt_succ_iff_lt_or_eq.1 h).elim (hck.out k') (fun e => by rw [e]; exact HCX.out)⟩
            case measure => have := HKN.out; simp [intOf]; omega
          | false =>
            cases p2 with
            | true =>
              have HCX := Lib.hid (HC2.out rfl)
              go_wp2_with fail
              go_quiet ((first | (go_at_call 19; with_reducible exact quiet_left (hP1 _)) | (go_at_call 19; with_reducible exact quiet_left (hP2 _))))
              go_wp2
              go_roundw
              case rel => exact ⟨k + 1, by have := HKN.out; omega, by go_num, HBR.out.trans (below_dr _ _ _), fun k' h => (Nat.lt_succ_iff_lt_or_eq.1 h).elim (hck.out k') (fun e => by rw [e]; exact HCX.out)⟩
              case measure => have := HKN.out; simp [intOf]; omega
            | false =>
              go_wp2_with fail
              go_quiet ((first | (go_at_call 19; with_reducible exact quiet_left (hP1 _)) | (go_at_call 19; with_reducible exact quiet_left (hP2 _))))
              go_wp2
              go_ret2
              exact ⟨rfl, HB0.out.trans ((HBR.out.trans (below_dr _ _ _)).mono HB0.out.size)⟩
        · obtain rfl : k = n := by omega
          have HBR := Lib.hid hbr
          clear hbr
          go_wp2
          go_roundw
          case rel => exact ⟨k + 1, by have := HNL.out; omega, by go_num, HBR.out, fun i k' h h2 => (Nat.lt_succ_iff_lt_or_eq.1 h).elim (fun h => hcn.out i k' h h2) (fun e => by subst e; exact hck.out k' h2)⟩
          case measure => have := HNL.out; simp [intOf]; omega
    · obtain rfl : n = E.length := by omega
      exact absurd (fun i k hi hki => hcn.out i k hi hki) HALL.out

theorem plin_yes (vu ve vc : Value) (U : List Int) (E : List (Int × List Int)) (C : List (List Int)) (w : World) (HU : IsInts w vu U) (HE : IsDeps w ve E) (HC : IsRows w vc C) (hm : mayDB U E C = true) (hall : cmpAll E) :
    Calls Tryz.prog 10 #[.agg #[vu, ve, vc]] w fun e w' => ∃ a n c, e = .returned (.tuple #[.slice a n c, .int .i64 0]) ∧ IsBlocks w' (.slice a n c) (refLin U E) ∧ Below w.heap.size w w' := by
  have hok := (mayD_ok.1 hm).1
  have h64e : In64 (exOf E) := fun x hx => by
    have := hok.2.2.2.1 x (List.mem_append_right _ hx)
    omega
  refine (linearA_any vu ve vc U E C w HU HE HC h64e hm).mono ?_
  rintro e w' ⟨s, hs, v, t, rfl, hst, hsh, hb⟩
  obtain ⟨hp, hk⟩ := lin_key hok hs
  have hc := chain_bwd hm hp hk hall
  have hl2 : linR ((byKey s).map (fun x => (x.v, x.l))) U = (refLin U E, 0) := refLin_is hm hp hk hc
  rw [hl2] at hsh ⊢
  simp only at hsh
  have hmp := ref_may hm hall
  have h1 := mayP_len hmp
  obtain ⟨_, _, hr, _⟩ := alt_may hmp
  have htl : t.length ≤ 1024 := by rw [← shapeT_len t, hsh]; exact h1.2
  have hbl := hst.blocks (by omega) (fun x hx => by
    have hx2 : (x.1, x.2.2) ∈ refLin U E := by rw [← hsh]; exact List.mem_map.2 ⟨x, hx, rfl⟩
    refine ⟨by have := len_flatB hx2; simp only at this; omega, fun y hy => ?_⟩
    have := hr y (mem_flatB hx2 hy)
    omega)
  rw [hsh] at hbl
  obtain ⟨a, c, rfl⟩ := hst.shape
  exact ⟨a, _, c, rfl, hbl, hb⟩

theorem plin_no (vu ve vc : Value) (U : List Int) (E : List (Int × List Int)) (C : List (List Int)) (w : World) (HU : IsInts w vu U) (HE : IsDeps w ve E) (HC : IsRows w vc C) (hm : mayDB U E C = true) (hall : ¬ cmpAll E) :
    Calls Tryz.prog 10 #[.agg #[vu, ve, vc]] w fun e w' => ∃ a n c, e = .returned (.tuple #[.slice a n c, .int .i64 30]) ∧ IsBlocks w' (.slice a n c) [] ∧ Below w.heap.size w w' := by
  have hok := (mayD_ok.1 hm).1
  have h64e : In64 (exOf E) := fun x hx => by
    have := hok.2.2.2.1 x (List.mem_append_right _ hx)
    omega
  refine (linearA_any vu ve vc U E C w HU HE HC h64e hm).mono ?_
  rintro e w' ⟨s, hs, v, t, rfl, hst, hsh, hb⟩
  obtain ⟨hp, hk⟩ := lin_key hok hs
  have hl2 : linR ((byKey s).map (fun x => (x.v, x.l))) U = ([], 30) := by
    show linR ((byKey s).map depE) U = _
    unfold linR
    rw [if_neg (fun hc => hall (chain_all hok hp hc))]
  rw [hl2] at hsh ⊢
  simp only at hsh
  have htl : t.length = 0 := by rw [← shapeT_len t, hsh]; rfl
  have hbl := hst.blocks (by omega) (fun x hx => by rw [List.eq_nil_of_length_eq_zero htl] at hx; cases hx)
  rw [hsh] at hbl
  obtain ⟨a, c, rfl⟩ := hst.shape
  exact ⟨a, _, c, rfl, hbl, hb⟩

def LinP (LB : List Blk) (LK : Int) (X : World) (e : Ending) (w' : World) : Prop := ∃ a n c, e = .returned (.tuple #[.slice a n c, .int .i64 LK]) ∧ IsBlocks w' (.slice a n c) LB ∧ Below X.heap.size X w'
theorem lin_both (U : List Int) (E : List (Int × List Int)) (C : List (List Int)) (h64e : In64 (exOf E)) (hd : U.length + E.length + totT E + (C.length + tot C) ≤ 4000000) : ∃ LB LK,
    (∀ X vu ve vc, IsInts X vu U → IsDeps X ve E → IsRows X vc C → Calls Tryz.prog 10 #[.agg #[vu, ve, vc]] X (LinP LB LK X)) ∧
    (∀ X vu ve vc, IsInts X vu U → IsDeps X ve E → IsRows X vc C → Calls Tryz.prog 11 #[.agg #[vu, ve, vc]] X (LinP LB LK X)) := by
  cases hm : mayDB U E C with
  | false =>
    exact ⟨[], 2, fun X vu ve vc h1 h2 h3 => (plin_arg vu ve vc U E C X h1 h2 h3 h64e hm).mono fun e w' h => ⟨none, 0, 0, h.1, IsTwo.nil _, h.2⟩,
      fun X vu ve vc h1 h2 h3 => (rlin_arg vu ve vc U E C X h1 h2 h3 h64e hm hd).mono fun e w' h => ⟨none, 0, 0, h.1, IsTwo.nil _, h.2⟩⟩
  | true =>
    by_cases hall : cmpAll E
    · exact ⟨refLin U E, 0, fun X vu ve vc h1 h2 h3 => plin_yes vu ve vc U E C X h1 h2 h3 hm hall, fun X vu ve vc h1 h2 h3 => rlin_yes vu ve vc U E C X h1 h2 h3 hm hall hd⟩
    · exact ⟨[], 30, fun X vu ve vc h1 h2 h3 => plin_no vu ve vc U E C X h1 h2 h3 hm hall,
        fun X vu ve vc h1 h2 h3 => (rlin_no vu ve vc U E C X h1 h2 h3 hm hall hd).mono fun e w' h => ⟨none, 0, 0, h.1, IsTwo.nil _, h.2⟩⟩
def DqP (dU : List Int) (dE : List (Int × List Int)) (dC : List (List Int)) (dK : Int) (X : World) (e : Ending) (w' : World) : Prop :=
  ∃ ua un uc ea en ec ca cn cc, e = .returned (.tuple #[.agg #[.slice ua un uc, .slice ea en ec, .slice ca cn cc], .int .i64 dK]) ∧ IsInts w' (.slice ua un uc) dU ∧ IsDeps w' (.slice ea en ec) dE ∧ IsRows w' (.slice ca cn cc) dC ∧ Below X.heap.size X w'
theorem dq_to2 {P : List Blk} {C : List (List Int)} {vc : Value} {X w' : World} {e : Ending} (HC : IsRows X vc C) (h : DqPost X P C vc e w') : DqP (if mayQB P C = true then dqU [] P else []) (if mayQB P C = true then byVar (dqE [] P) else []) (if mayQB P C = true then C else []) (if mayQB P C = true then 0 else 2) X e w' := by
  obtain ⟨⟨hm, vu, ve, rfl, hu, he⟩ | ⟨hm, rfl⟩, hb⟩ := h
  · simp only [hm, if_true]
    obtain ⟨ua, uc, rfl⟩ := hu.shape
    obtain ⟨ea, ec, rfl, _⟩ := he.shape
    have hc := HC.below hb (Nat.le_refl _)
    obtain ⟨ra, rk, rfl, _⟩ := HC.shape
    exact ⟨_, _, _, _, _, _, _, _, _, rfl, hu, he, hc, hb⟩
  · simp only [hm, Bool.false_eq_true, if_false]
    exact ⟨_, _, _, _, _, _, _, _, _, rfl, IsInts.nil _, IsTwo.nil _, IsRows.nil _, hb⟩
theorem dq_both (P : List Blk) (C : List (List Int)) (hp : P.length ≤ 4000000) (hpf : (flatB P).length ≤ 4000000) (hct : C.length + tot C ≤ 4000000) : ∃ dU dE dC dK,
    (∀ X vp vc, IsBlocks X vp P → IsRows X vc C → Calls Tryz.prog 8 #[.agg #[vp, vc]] X (DqP dU dE dC dK X)) ∧
    (∀ X vp vc, IsBlocks X vp P → IsRows X vc C → Calls Tryz.prog 9 #[.agg #[vp, vc]] X (DqP dU dE dC dK X)) :=
  ⟨_, _, _, _, fun X vp vc h1 h2 => (pdqbf_any vp vc P C X h1 h2 hp).mono fun e w' h => dq_to2 h2 h, fun X vp vc h1 h2 => (rdqbf_any vp vc P C X h1 h2 hp hpf hct).mono fun e w' h => dq_to2 h2 h⟩
end Go.Proofs.YtmiijgjpkkmoaaaGreat

/- The law PrefixTurns, walked. -/
namespace Go.Proofs.YtmiijgjpkkmoaaaGreat
open Go.RowKit Go.Shelf Go.Lib
set_option linter.unusedVariables false
set_option linter.unusedSimpArgs false

theorem samed_yes (U : List Int) (E : List (Int × List Int)) (C : List (List Int)) (vu ve vc xu xe xc : Value) (X : World) (h1 : IsInts X vu U ∧ IsDeps X ve E ∧ IsRows X vc C) (h2 : IsInts X xu U ∧ IsDeps X xe E ∧ IsRows X xc C) :
    Calls Tryz.prog 14 #[.agg #[vu, ve, vc], .agg #[xu, xe, xc]] X fun e w' => e = .returned (.bool true) ∧ Below X.heap.size X w' :=
  (rsamed_any vu ve vc xu xe xc U U E E C C X h1.1 h1.2.1 h1.2.2 h2.1 h2.2.1 h2.2.2).mono fun e w' h => ⟨by rw [h.1]; simp [sameB], h.2⟩
/-- What a result of Dqbf is in a later world, and the box in which it lies. -/
structure DBox (w2 : World) (X : World) (v0 v1 v2 : Value) (U : List Int) (E : List (Int × List Int)) (C : List (List Int)) : Prop where
  vals : IsInts X v0 U ∧ IsDeps X v1 E ∧ IsRows X v2 C
  cells : X.cell? ⟨w2.heap.size, 0, none⟩ = some v0 ∧ X.cell? ⟨w2.heap.size, 1, none⟩ = some v1 ∧ X.cell? ⟨w2.heap.size, 2, none⟩ = some v2
theorem DBox.mk0 {w2 : World} {v0 v1 v2 : Value} {U : List Int} {E : List (Int × List Int)} {C : List (List Int)} (h : IsInts w2 v0 U ∧ IsDeps w2 v1 E ∧ IsRows w2 v2 C) : DBox w2 (w2.alloc (.cells #[v0, v1, v2] 29)) v0 v1 v2 U E C := by
  have hb : Below w2.heap.size w2 (w2.alloc (.cells #[v0, v1, v2] 29)) := (Below.refl _ _).alloc (Nat.le_refl _) _
  exact ⟨⟨h.1.below hb (Nat.le_refl _), h.2.1.below hb (Nat.le_refl _), h.2.2.below hb (Nat.le_refl _)⟩, cell_fresh rfl, cell_fresh rfl, cell_fresh rfl⟩
theorem DBox.below {w2 X Y : World} {v0 v1 v2 : Value} {U : List Int} {E : List (Int × List Int)} {C : List (List Int)} (h : DBox w2 X v0 v1 v2 U E C) (hb : Below X.heap.size X Y) : DBox w2 Y v0 v1 v2 U E C :=
  ⟨⟨h.vals.1.below hb (Nat.le_refl _), h.vals.2.1.below hb (Nat.le_refl _), h.vals.2.2.below hb (Nat.le_refl _)⟩,
    (hb.cell (World.block_lt_of_cell? X _ h.cells.1)).trans h.cells.1, (hb.cell (World.block_lt_of_cell? X _ h.cells.2.1)).trans h.cells.2.1, (hb.cell (World.block_lt_of_cell? X _ h.cells.2.2)).trans h.cells.2.2⟩

set_option maxRecDepth 100000 in
set_option maxHeartbeats 6400000 in
theorem turns_any (vp vk vu ve vc : Value) (v : Int) (P : List Blk) (K : List (List Int)) (U : List Int) (E : List (Int × List Int)) (C : List (List Int)) (w : World) (HP : IsBlocks w vp P) (HK : IsRows w vk K) (HU : IsInts w vu U) (HE : IsDeps w ve E) (HC : IsRows w vc C) (h64e : In64 (exOf E))
    (hq : P.length + totT P + (K.length + tot K) ≤ 4000000) (hd : U.length + E.length + totT E + (C.length + tot C) ≤ 4000000) :
    Calls Tryz.prog 3 #[.agg #[vp, vk], .agg #[vu, ve, vc], .int .i64 v] w fun e w' => e = .returned (.bool true) ∧ Below w.heap.size w w' := by
  obtain ⟨W, hW⟩ : ∃ W, (w.alloc (.cells #[vp, vk] 25)).alloc (.cells #[vu, ve, vc] 29) = W := ⟨_, rfl⟩
  have hb0 : Below w.heap.size w W := by rw [← hW]; exact ((Below.refl w.heap.size w).alloc (Nat.le_refl _) _).alloc (by simp) _
  have hz : W.heap.size = w.heap.size + 2 := by rw [← hW]; simp
  have c0 : ∀ i v, (#[vp, vk] : Array Value)[i]? = some v → W.cell? ⟨w.heap.size, i, none⟩ = some v := fun i v h => by rw [← hW]; exact cell_old (cell_fresh h)
  have c1 : ∀ i v, (#[vu, ve, vc] : Array Value)[i]? = some v → W.cell? ⟨w.heap.size + 1, i, none⟩ = some v := fun i v h => by rw [← hW]; exact cell_fresh2 h
  have HY : Hid (∀ X, Below W.heap.size W X → X.cell? ⟨w.heap.size, 0, none⟩ = some vp ∧ X.cell? ⟨w.heap.size, 1, none⟩ = some vk ∧ X.cell? ⟨w.heap.size + 1, 0, none⟩ = some vu ∧ X.cell? ⟨w.heap.size + 1, 1, none⟩ = some ve ∧ X.cell? ⟨w.heap.size + 1, 2, none⟩ = some vc) := fun X hX =>
    ⟨(hX.cell (p := ⟨w.heap.size, 0, none⟩) (by simp; omega)).trans (c0 0 _ rfl), (hX.cell (p := ⟨w.heap.size, 1, none⟩) (by simp; omega)).trans (c0 1 _ rfl), (hX.cell (p := ⟨w.heap.size + 1, 0, none⟩) (by simp; omega)).trans (c1 0 _ rfl), (hX.cell (p := ⟨w.heap.size + 1, 1, none⟩) (by simp; omega)).trans (c1 1 _ rfl), (hX.cell (p := ⟨w.heap.size + 1, 2, none⟩) (by simp; omega)).trans (c1 2 _ rfl)⟩
  have HB0 := Lib.hid hb0
  have HUP : Hid (∀ X, Below W.heap.size W X → IsBlocks X vp P ∧ IsRows X vk K ∧ IsInts X vu U ∧ IsDeps X ve E ∧ IsRows X vc C) := fun X hX => by
    have h := hb0.trans (hX.mono hb0.size)
    exact ⟨HP.below h (Nat.le_refl _), HK.below h (Nat.le_refl _), HU.below h (Nat.le_refl _), HE.below h (Nat.le_refl _), HC.below h (Nat.le_refl _)⟩
  have hpf : (flatB P).length ≤ 4000000 := by rw [flat_totT]; omega
  have HWI := Lib.hid (wide_any vp vk P K 200 W (HUP.out W (Below.refl _ _)).1 (HUP.out W (Below.refl _ _)).2.1 (by omega))
  have HBR : Hid (Calls Tryz.prog 6 #[.agg #[vu, ve, vc], .int .i64 200] W fun e w' => e = .returned (.bool (broadB 200 U E C)) ∧ Below W.heap.size W w') := broad_any vu ve vc U E C 200 W (HUP.out W (Below.refl _ _)).2.2.1 (HUP.out W (Below.refl _ _)).2.2.2.1 (HUP.out W (Below.refl _ _)).2.2.2.2 hd
  obtain ⟨dU, dE, dC, dK, hdp, hdr⟩ := dq_both P K (by omega) hpf (by omega)
  obtain ⟨LB, LK, hlp, hlr⟩ := lin_both U E C h64e hd
  have HDP : Hid (∀ X, Below W.heap.size W X → Calls Tryz.prog 8 #[.agg #[vp, vk]] X (DqP dU dE dC dK X)) := fun X hX => hdp X vp vk (HUP.out X hX).1 (HUP.out X hX).2.1
  have HDR : Hid (∀ X, Below W.heap.size W X → Calls Tryz.prog 9 #[.agg #[vp, vk]] X (DqP dU dE dC dK X)) := fun X hX => hdr X vp vk (HUP.out X hX).1 (HUP.out X hX).2.1
  have HLP : Hid (∀ X, Below W.heap.size W X → Calls Tryz.prog 10 #[.agg #[vu, ve, vc]] X (LinP LB LK X)) := fun X hX => hlp X vu ve vc (HUP.out X hX).2.2.1 (HUP.out X hX).2.2.2.1 (HUP.out X hX).2.2.2.2
  have HLR : Hid (∀ X, Below W.heap.size W X → Calls Tryz.prog 11 #[.agg #[vu, ve, vc]] X (LinP LB LK X)) := fun X hX => hlr X vu ve vc (HUP.out X hX).2.2.1 (HUP.out X hX).2.2.2.1 (HUP.out X hX).2.2.2.2
  have HEP : Hid (∀ X, Below W.heap.size W X → Calls Tryz.prog 12 #[.agg #[vu, ve, vc], .int .i64 v] X (DepsPost X E v)) := fun X hX => pdeps_any vu ve vc E v X (HUP.out X hX).2.2.2.1
  have HER : Hid (∀ X, Below W.heap.size W X → Calls Tryz.prog 13 #[.agg #[vu, ve, vc], .int .i64 v] X (DepsPost X E v)) := fun X hX => rdeps_any vu ve vc E v X (HUP.out X hX).2.2.2.1
  obtain ⟨pa, pc, rfl, _⟩ := HP.shape
  obtain ⟨ka, kc, rfl, _⟩ := HK.shape
  obtain ⟨ua, uc, rfl⟩ := HU.shape
  obtain ⟨ea, ec, rfl, _⟩ := HE.shape
  obtain ⟨ra, rk, rfl, _⟩ := HC.shape
  obtain ⟨y0, y1, y2, y3, y4⟩ := HY.out W (Below.refl _ _)
  clear c0 c1 hb0 HP HK HU HE HC h64e hq hd hpf hdp hdr hlp hlr hz
  generalize wideB 200 P K = b1 at *
  generalize broadB 200 U E C = b2 at *
  cases b1 with
  | true =>
    go_enter Tryz.func3, Tryz.ntmps3
    go_wp2_with (first
      | (go_at_call 5; refine HWI.out.mono ?_; rintro e w1 ⟨rfl, rfl⟩)
      | (go_at_call 7; refine (head_any _).mono ?_; rintro e w2 ⟨rfl, hb2⟩))
    go_ret
    exact ⟨rfl, HB0.out.trans (hb2.mono HB0.out.size)⟩
  | false =>
    cases b2 with
    | true =>
      go_enter Tryz.func3, Tryz.ntmps3
      go_wp2_with (first
        | (go_at_call 5; refine HWI.out.mono ?_; rintro e w1 ⟨rfl, rfl⟩)
        | (go_at_call 6; refine HBR.out.mono ?_; rintro e w1 ⟨rfl, hb1⟩)
        | (go_at_call 7; refine (head_any _).mono ?_; rintro e w2 ⟨rfl, hb2⟩))
      go_ret
      exact ⟨rfl, HB0.out.trans ((hb1.trans (hb2.mono hb1.size)).mono HB0.out.size)⟩
    | false =>
      have hdk : (dK == dK) = true := by simp
      have hlk : (LK == LK) = true := by simp
      have HEP2 : Hid (∃ dl db, (∀ X, Below W.heap.size W X → Calls Tryz.prog 12 #[.agg #[.slice ua U.length uc, .slice ea E.length ec, .slice ra C.length rk], .int .i64 v] X fun e w' => ∃ a n c, e = .returned (.tuple #[.slice a n c, .bool db]) ∧ IsInts w' (.slice a n c) dl ∧ Below X.heap.size X w') ∧
          (∀ X, Below W.heap.size W X → Calls Tryz.prog 13 #[.agg #[.slice ua U.length uc, .slice ea E.length ec, .slice ra C.length rk], .int .i64 v] X fun e w' => ∃ a n c, e = .returned (.tuple #[.slice a n c, .bool db]) ∧ IsInts w' (.slice a n c) dl ∧ Below X.heap.size X w')) := by
        refine ⟨(depsL E v).1, (depsL E v).2, fun X hX => (HEP.out X hX).mono ?_, fun X hX => (HER.out X hX).mono ?_⟩ <;>
        · rintro e w' ⟨u, rfl, hi, hb⟩
          obtain ⟨a, c, rfl⟩ := hi.shape
          exact ⟨_, _, _, rfl, hi, hb⟩
      obtain ⟨dl, db, hep, her⟩ := HEP2.out
      have HEPX := Lib.hid hep
      have HERX := Lib.hid her
      clear hep her HEP2 HEP HER
      cases db <;>
      · go_enter Tryz.func3, Tryz.ntmps3
        go_wp2_with (first
          | (go_at_call 5; refine HWI.out.mono ?_; rintro e w1 ⟨rfl, rfl⟩)
          | (go_at_call 6; refine HBR.out.mono ?_; rintro e w1 ⟨rfl, hb1⟩; have HB1 := Lib.hid hb1; obtain ⟨x0, x1, x2, x3, x4⟩ := HY.out w1 hb1)
          | (go_at_call 8; refine (HDP.out w1 HB1.out).mono ?_; rintro e w2 ⟨qa, qn, qc, sa, sn, sc, ta, tn, tc, rfl, hu2, he2, hc2, hb2⟩; have HB3 := Lib.hid (HB1.out.trans ((hb2.alloc hb2.size (.cells #[.slice qa qn qc, .slice sa sn sc, .slice ta tn tc] 29)).mono HB1.out.size)); have HD3 := Lib.hid (DBox.mk0 ⟨hu2, he2, hc2⟩); obtain ⟨x5, x6, x7, x8, x9⟩ := HY.out _ HB3.out; clear hu2 he2 hc2)
          | (go_at_call 9; refine (HDR.out _ HB3.out).mono ?_; rintro e w4 ⟨qa', qn', qc', sa', sn', sc', ta', tn', tc', rfl, hu4, he4, hc4, hb4⟩; have HB5 := Lib.hid (HB3.out.trans ((hb4.alloc hb4.size (.cells #[.slice qa' qn' qc', .slice sa' sn' sc', .slice ta' tn' tc'] 29)).mono HB3.out.size)); have HD5 := Lib.hid (DBox.mk0 ⟨hu4, he4, hc4⟩); have HD35 := Lib.hid (HD3.out.below (hb4.alloc hb4.size (.cells #[.slice qa' qn' qc', .slice sa' sn' sc', .slice ta' tn' tc'] 29))); obtain ⟨x10, x11, x12, x13, x14⟩ := HY.out _ HB5.out; clear hu4 he4 hc4)
          | (go_at_call 10; refine (HLP.out _ HB5.out).mono ?_; rintro e w6 ⟨la, ln, lc, rfl, hl6, hb6⟩; have HB6 := Lib.hid (HB5.out.trans (hb6.mono HB5.out.size)); have HL6 := Lib.hid hl6; have HD36 := Lib.hid (HD35.out.below hb6); have HD56 := Lib.hid (HD5.out.below hb6); obtain ⟨x15, x16, x17, x18, x19⟩ := HY.out _ HB6.out; clear hl6)
          | (go_at_call 11; refine (HLR.out _ HB6.out).mono ?_; rintro e w7 ⟨la', ln', lc', rfl, hl7, hb7⟩; have HB7 := Lib.hid (HB6.out.trans (hb7.mono HB6.out.size)); have HL7 := Lib.hid hl7; have HL67 := Lib.hid (HL6.out.below hb7 (Nat.le_refl _)); have HD37 := Lib.hid (HD36.out.below hb7); have HD57 := Lib.hid (HD56.out.below hb7); obtain ⟨x20, x21, x22, x23, x24⟩ := HY.out _ HB7.out; clear hl7)
          | (go_at_call 12; refine (HEPX.out _ HB7.out).mono ?_; rintro e w8 ⟨ga, gn, gc, rfl, hi8, hb8⟩; have HB8 := Lib.hid (HB7.out.trans (hb8.mono HB7.out.size)); have HI8 := Lib.hid hi8; have HL68 := Lib.hid (HL67.out.below hb8 (Nat.le_refl _)); have HL78 := Lib.hid (HL7.out.below hb8 (Nat.le_refl _)); have HD38 := Lib.hid (HD37.out.below hb8); have HD58 := Lib.hid (HD57.out.below hb8); obtain ⟨x25, x26, x27, x28, x29⟩ := HY.out _ HB8.out; clear hi8)
          | (go_at_call 13; refine (HERX.out _ HB8.out).mono ?_; rintro e w9 ⟨ga', gn', gc', rfl, hi9, hb9⟩; have HB9 := Lib.hid (HB8.out.trans (hb9.mono HB8.out.size)); have HI9 := Lib.hid hi9; have HI89 := Lib.hid (HI8.out.below hb9 (Nat.le_refl _)); have HL69 := Lib.hid (HL68.out.below hb9 (Nat.le_refl _)); have HL79 := Lib.hid (HL78.out.below hb9 (Nat.le_refl _)); have HD39 := Lib.hid (HD38.out.below hb9); have HD59 := Lib.hid (HD58.out.below hb9); obtain ⟨z0, z1, z2⟩ := HD39.out.cells; obtain ⟨z3, z4, z5⟩ := HD59.out.cells; clear hi9)
          | (go_at_call 14; refine (samed_yes _ _ _ _ _ _ _ _ _ w9 HD39.out.vals HD59.out.vals).mono ?_; rintro e w10 ⟨rfl, hb10⟩; have HB10 := Lib.hid (HB9.out.trans (hb10.mono HB9.out.size)); have HK10 := Lib.hid hb10)
          | (go_at_call 15; refine (same_yes _ _ _ w10 (HL69.out.below HK10.out (Nat.le_refl _)) (HL79.out.below HK10.out (Nat.le_refl _))).mono ?_; rintro e w11 ⟨rfl, hb11⟩; have HB11 := Lib.hid (HB10.out.trans (hb11.mono HB10.out.size)); have HK11 := Lib.hid (HK10.out.trans (hb11.mono HK10.out.size)))
          | (go_at_call 16; refine (ints_yes _ _ _ w11 (HI89.out.below HK11.out (Nat.le_refl _)) (HI9.out.below HK11.out (Nat.le_refl _))).mono ?_; rintro e w12 ⟨rfl, hb12⟩; have HB12 := Lib.hid (HB11.out.trans (hb12.mono HB11.out.size)))
          | (go_at_call 7; refine (head_any _).mono ?_; rintro e w13 ⟨rfl, hb13⟩))
        go_ret
        exact ⟨rfl, HB0.out.trans ((HB12.out.trans (hb13.mono HB12.out.size)).mono HB0.out.size)⟩
end Go.Proofs.YtmiijgjpkkmoaaaGreat
