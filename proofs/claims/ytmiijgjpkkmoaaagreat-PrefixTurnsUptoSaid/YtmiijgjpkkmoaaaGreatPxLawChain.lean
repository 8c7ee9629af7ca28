/- The law PrefixChains, walked. -/
import Derived.Test.YtmiijgjpkkmoaaaGreatPxChainQ
import Derived.Test.YtmiijgjpkkmoaaaGreatPxLawBack
import Derived.Test.YtmiijgjpkkmoaaaGreatMpM
namespace Go.Proofs.YtmiijgjpkkmoaaaGreat
open Go.RowKit Go.Shelf Go.Lib
set_option linter.unusedVariables false
set_option linter.unusedSimpArgs false

def cmpAll (E : List (Int × List Int)) : Prop := ∀ i k, i < E.length → k < i → (∀ v ∈ (E.getD i dD).2, v ∈ (E.getD k dD).2) ∨ (∀ v ∈ (E.getD k dD).2, v ∈ (E.getD i dD).2)
theorem depV_lt {U : List Int} {E : List (Int × List Int)} (hok : okD U E) {s : List DepV} (hs : s.map depE = E) : s.Pairwise varLt := by
  obtain ⟨_, _, hv, _⟩ := ok_rows hok
  rw [← hs, List.pairwise_map] at hv
  exact hv
theorem lin_key {U : List Int} {E : List (Int × List Int)} (hok : okD U E) {s : List DepV} (hs : s.map depE = E) : ((byKey s).map depE).Perm E ∧ ((byKey s).map depE).Pairwise keyE := by
  refine ⟨by rw [← hs]; exact (byKey_perm s).map _, ?_⟩
  rw [List.pairwise_map]
  exact byKey_key (depV_lt hok hs)
theorem chain_all {U : List Int} {E : List (Int × List Int)} (hok : okD U E) {r : List (Int × List Int)} (hr : r.Perm E) (hc : chainB r = true) : cmpAll E := by
  obtain ⟨hU, hE, hv, hn⟩ := ok_rows hok
  have hch : chRec [] r := by
    refine chRec_of r [] (fun k hk => ?_)
    unfold chainB at hc
    rw [decide_eq_true_eq] at hc
    exact hc k hk
  have hpw := (List.pairwise_cons.1 (chRec_pair r [] (fun x hx => (hE x (hr.mem_iff.1 hx)).1) hch)).2
  rw [List.pairwise_map] at hpw
  intro i k hi hki
  have hx : E.getD i dD ∈ r := hr.mem_iff.2 (getD_mem' hi)
  have hy : E.getD k dD ∈ r := hr.mem_iff.2 (getD_mem' (by omega))
  generalize E.getD i dD = x at *
  generalize E.getD k dD = y at *
  obtain ⟨a, ha, ea⟩ := List.getElem_of_mem hx
  obtain ⟨b, hb, eb⟩ := List.getElem_of_mem hy
  rcases Nat.lt_trichotomy a b with h | h | h
  · left
    have := List.pairwise_iff_getElem.1 hpw a b ha hb h
    rw [ea, eb] at this
    exact this
  · subst h
    rw [ea] at eb
    subst eb
    exact Or.inl (fun v hv => hv)
  · right
    have := List.pairwise_iff_getElem.1 hpw b a hb ha h
    rw [ea, eb] at this
    exact this
theorem lin_yes (vu ve vc : Value) (U : List Int) (E : List (Int × List Int)) (C : List (List Int)) (w : World) (HU : IsInts w vu U) (HE : IsDeps w ve E) (HC : IsRows w vc C) (hm : mayDB U E C = true) (hall : cmpAll E) :
    Calls Tryz.prog 10 #[.agg #[vu, ve, vc]] w fun e w' => ∃ a n c p, e = .returned (.tuple #[.slice a n c, .int .i64 0]) ∧ IsBlocks w' (.slice a n c) p ∧ mayQB p C = true ∧ dqU [] p = U ∧ byVar (dqE [] p) = E ∧ Below w.heap.size w w' := by
  have hok := (mayD_ok.1 hm).1
  have h64e : In64 (exOf E) := fun x hx => by
    have := hok.2.2.2.1 x (List.mem_append_right _ hx)
    omega
  refine (linearA_any vu ve vc U E C w HU HE HC h64e hm).mono ?_
  rintro e w' ⟨s, hs, v, t, rfl, hst, hsh, hb⟩
  obtain ⟨hp, hk⟩ := lin_key hok hs
  have hc := chain_bwd hm hp hk hall
  obtain ⟨p, hl, hq, hu, he⟩ := chain_fwd hm hp hc
  have hl2 : linR ((byKey s).map (fun x => (x.v, x.l))) U = (p, 0) := hl
  rw [hl2] at hsh ⊢
  simp only at hsh
  have hmp : mayP p = true := by unfold mayQB at hq; rw [Bool.and_eq_true] at hq; exact hq.1
  have h1 := mayP_len hmp
  obtain ⟨_, _, hr, _⟩ := alt_may hmp
  have htl : t.length ≤ 1024 := by rw [← shapeT_len t, hsh]; exact h1.2
  have hbl := hst.blocks (by omega) (fun x hx => by
    have hx2 : (x.1, x.2.2) ∈ p := by rw [← hsh]; exact List.mem_map.2 ⟨x, hx, rfl⟩
    refine ⟨by have := len_flatB hx2; simp only at this; omega, fun y hy => ?_⟩
    have := hr y (mem_flatB hx2 hy)
    omega)
  rw [hsh] at hbl
  obtain ⟨a, c, rfl⟩ := hst.shape
  exact ⟨a, _, c, p, rfl, hbl, hq, hu, he, hb⟩
theorem lin_no (vu ve vc : Value) (U : List Int) (E : List (Int × List Int)) (C : List (List Int)) (w : World) (HU : IsInts w vu U) (HE : IsDeps w ve E) (HC : IsRows w vc C) (hm : mayDB U E C = true) (hall : ¬ cmpAll E) :
    Calls Tryz.prog 10 #[.agg #[vu, ve, vc]] w fun e w' => ∃ a c, e = .returned (.tuple #[.slice a 0 c, .int .i64 30]) ∧ Below w.heap.size w w' := by
  have hok := (mayD_ok.1 hm).1
  have h64e : In64 (exOf E) := fun x hx => by
    have := hok.2.2.2.1 x (List.mem_append_right _ hx)
    omega
  refine (linearA_any vu ve vc U E C w HU HE HC h64e hm).mono ?_
  rintro e w' ⟨s, hs, v, t, rfl, hst, hsh, hb⟩
  obtain ⟨hp, hk⟩ := lin_key hok hs
  have hl2 : linR ((byKey s).map (fun x => (x.v, x.l))) U = ([], 30) := by
    show linR ((byKey s).map depE) U = _
    unfold linR
    rw [if_neg (fun hc => hall (chain_all hok hp hc))]
  rw [hl2] at hsh ⊢
  simp only at hsh
  have htl : t.length = 0 := by rw [← shapeT_len t, hsh]; rfl
  obtain ⟨a, c, rfl⟩ := hst.shape
  exact ⟨a, c, by rw [htl], hb⟩

def cmpOne (E : List (Int × List Int)) (i k : Nat) : Prop := (∀ v ∈ (E.getD i dD).2, v ∈ (E.getD k dD).2) ∨ (∀ v ∈ (E.getD k dD).2, v ∈ (E.getD i dD).2)
theorem partB_mem {a b : List Int} (h : partB a b = true) : ∀ v ∈ a, v ∈ b := by
  unfold partB at h
  rw [decide_eq_true_eq] at h
  exact fun v hv => memB_iff.1 (h v hv)
theorem mayQ_p {p : List Blk} {C : List (List Int)} (h : mayQB p C = true) : mayP p = true := by unfold mayQB at h; rw [Bool.and_eq_true] at h; exact h.1
theorem below_dn (w : World) (n B : Nat) : Below B w (w.drewN n) := Quiet.below ⟨n, rfl⟩ B
theorem rmay_to {X : World} {v : Value} {p : List Blk} (H : IsBlocks X v p) (hm : mayP p = true) : Calls Tryz.prog 18 #[v] X fun e w' => e = .returned (.bool true) ∧ Below X.heap.size X w' := by
  have h1 := mayP_len hm
  have := rmay_any v p X H (by omega) (by omega) (blocks_i64 H)
  rw [hm] at this
  exact this

set_option maxRecDepth 100000 in
set_option maxHeartbeats 6400000 in
theorem chains_any (vu ve vc : Value) (U : List Int) (E : List (Int × List Int)) (C : List (List Int)) (w : World) (HU : IsInts w vu U) (HE : IsDeps w ve E) (HC : IsRows w vc C) (h64e : In64 (exOf E)) (hd : U.length + E.length + totT E + (C.length + tot C) ≤ 4000000) :
    Calls Tryz.prog 4 #[.agg #[vu, ve, vc]] w fun e w' => e = .returned (.bool true) ∧ Below w.heap.size w w' := by
  obtain ⟨W, hW⟩ : ∃ W, w.alloc (.cells #[vu, ve, vc] 29) = W := ⟨_, rfl⟩
  have hb0 : Below w.heap.size w W := by rw [← hW]; exact (Below.refl w.heap.size w).alloc (Nat.le_refl _) _
  have hz : W.heap.size = w.heap.size + 1 := by rw [← hW]; simp
  have c0 : ∀ i v, (#[vu, ve, vc] : Array Value)[i]? = some v → W.cell? ⟨w.heap.size, i, none⟩ = some v := fun i v h => by rw [← hW]; exact cell_fresh h
  have HY : Hid (∀ X, Below W.heap.size W X → X.cell? ⟨w.heap.size, 0, none⟩ = some vu ∧ X.cell? ⟨w.heap.size, 1, none⟩ = some ve ∧ X.cell? ⟨w.heap.size, 2, none⟩ = some vc) := fun X hX =>
    ⟨(hX.cell (p := ⟨w.heap.size, 0, none⟩) (by simp; omega)).trans (c0 0 _ rfl), (hX.cell (p := ⟨w.heap.size, 1, none⟩) (by simp; omega)).trans (c0 1 _ rfl), (hX.cell (p := ⟨w.heap.size, 2, none⟩) (by simp; omega)).trans (c0 2 _ rfl)⟩
  have HB0 := Lib.hid hb0
  have HUP : Hid (∀ X, Below W.heap.size W X → IsInts X vu U ∧ IsDeps X ve E ∧ IsRows X vc C) := fun X hX => by
    have h := hb0.trans (hX.mono hb0.size)
    exact ⟨HU.below h (Nat.le_refl _), HE.below h (Nat.le_refl _), HC.below h (Nat.le_refl _)⟩
  have HBR : Hid (∀ X, Below W.heap.size W X → Calls Tryz.prog 6 #[.agg #[vu, ve, vc], .int .i64 600] X fun e w' => e = .returned (.bool (broadB 600 U E C)) ∧ Below X.heap.size X w') := fun X hX => broad_any vu ve vc U E C 600 X (HUP.out X hX).1 (HUP.out X hX).2.1 (HUP.out X hX).2.2 hd
  have HRM : Hid (∀ X, Below W.heap.size W X → Calls Tryz.prog 17 #[.agg #[vu, ve, vc]] X fun e w' => e = .returned (.bool (mayDB U E C)) ∧ Below X.heap.size X w') := fun X hX => rmayd_any vu ve vc U E C X (HUP.out X hX).1 (HUP.out X hX).2.1 (HUP.out X hX).2.2 (by omega) (by omega) h64e
  have HLY : Hid (mayDB U E C = true → cmpAll E → ∀ X, Below W.heap.size W X → Calls Tryz.prog 10 #[.agg #[vu, ve, vc]] X fun e w' => ∃ a n c p, e = .returned (.tuple #[.slice a n c, .int .i64 0]) ∧ IsBlocks w' (.slice a n c) p ∧ mayQB p C = true ∧ dqU [] p = U ∧ byVar (dqE [] p) = E ∧ Below X.heap.size X w') := fun hm ha X hX => lin_yes vu ve vc U E C X (HUP.out X hX).1 (HUP.out X hX).2.1 (HUP.out X hX).2.2 hm ha
  have HLN : Hid (mayDB U E C = true → ¬ cmpAll E → ∀ X, Below W.heap.size W X → Calls Tryz.prog 10 #[.agg #[vu, ve, vc]] X fun e w' => ∃ a c, e = .returned (.tuple #[.slice a 0 c, .int .i64 30]) ∧ Below X.heap.size X w') := fun hm ha X hX => lin_no vu ve vc U E C X (HUP.out X hX).1 (HUP.out X hX).2.1 (HUP.out X hX).2.2 hm ha
  have HEW := Lib.hid HE
  obtain ⟨ua, uc, rfl⟩ := HU.shape
  obtain ⟨ea, ec, rfl, _⟩ := HE.shape
  obtain ⟨ra, rk, rfl, _⟩ := HC.shape
  obtain ⟨y0, y1, y2⟩ := HY.out W (Below.refl _ _)
  have HEL : Hid (E.length ≤ 4000000) := by show _ ≤ _; omega
  clear c0 hb0 HU HE HC h64e hd
  generalize broadB 600 U E C = b1 at *
  cases b1 with
  | true =>
    go_enter Tryz.func4, Tryz.ntmps4
    go_wp2_with (first
      | (go_at_call 6; refine (HBR.out W (Below.refl _ _)).mono ?_; rintro e w1 ⟨rfl, hb1⟩)
      | (go_at_call 7; refine (head_any _).mono ?_; rintro e w2 ⟨rfl, hb2⟩))
    go_ret
    exact ⟨rfl, HB0.out.trans ((hb1.trans (hb2.mono hb1.size)).mono HB0.out.size)⟩
  | false =>
    cases hm : mayDB U E C with
    | false =>
      rw [hm] at HRM
      clear hm HLY HLN
      go_enter Tryz.func4, Tryz.ntmps4
      go_wp2_with (first
        | (go_at_call 6; refine (HBR.out W (Below.refl _ _)).mono ?_; rintro e w1 ⟨rfl, hb1⟩; obtain ⟨x0, x1, x2⟩ := HY.out w1 hb1)
        | (go_at_call 17; refine (HRM.out w1 hb1).mono ?_; rintro e w2 ⟨rfl, hb2⟩)
        | (go_at_call 7; refine (head_any _).mono ?_; rintro e w3 ⟨rfl, hb3⟩))
      go_ret
      exact ⟨rfl, HB0.out.trans ((hb1.trans ((hb2.trans (hb3.mono hb2.size)).mono hb1.size)).mono HB0.out.size)⟩
    | true =>
      rw [hm] at HRM
      by_cases hall : cmpAll E
      · have HL := Lib.hid (HLY.out hm hall)
        have HS : Hid (∀ (X : World) (v0 v1 : Value), Below W.heap.size W X → IsInts X v0 U → IsDeps X v1 E → Calls Tryz.prog 14 #[.agg #[v0, v1, .slice ra C.length rk], .agg #[.slice ua U.length uc, .slice ea E.length ec, .slice ra C.length rk]] X fun e w' => e = .returned (.bool true) ∧ Below X.heap.size X w') := fun X v0 v1 hX h0 h1 => by
          have := rsamed_any v0 v1 (.slice ra C.length rk) (.slice ua U.length uc) (.slice ea E.length ec) (.slice ra C.length rk) U U E E C C X h0 h1 (HUP.out X hX).2.2 (HUP.out X hX).1 (HUP.out X hX).2.1 (HUP.out X hX).2.2
          refine this.mono ?_
          rintro e w' ⟨rfl, hb⟩
          exact ⟨by simp [sameB], hb⟩
        clear HLY HLN hm hall
        go_enter Tryz.func4, Tryz.ntmps4
        go_wp2_with (first
          | (go_at_call 6; refine (HBR.out W (Below.refl _ _)).mono ?_; rintro e w1 ⟨rfl, hb1⟩; obtain ⟨x0, x1, x2⟩ := HY.out w1 hb1)
          | (go_at_call 17; refine (HRM.out w1 hb1).mono ?_; rintro e w2 ⟨rfl, hb2⟩; have HB2 := Lib.hid (hb1.trans (hb2.mono hb1.size)); obtain ⟨x3, x4, x5⟩ := HY.out w2 HB2.out)
          | (go_at_call 10; refine (HL.out w2 HB2.out).mono ?_; rintro e w3 ⟨la, ln, lc, p, rfl, hp3, hq3, hu3, he3, hb3⟩; have HB3 := Lib.hid (HB2.out.trans (hb3.mono HB2.out.size)); obtain ⟨x6, x7, x8⟩ := HY.out w3 HB3.out; have HP3 := Lib.hid hp3; have HQ3 := Lib.hid hq3; have HU3 := Lib.hid hu3; have HE3 := Lib.hid he3; clear hp3 hq3 hu3 he3)
          | (go_at_call 8; refine (dq_to _ _ p C w3 HP3.out (HUP.out w3 HB3.out).2.2 (by have := (mayP_len (mayQ_p HQ3.out)).2; omega) HQ3.out).mono ?_; rintro e w4 ⟨va, vn, vk, da, dn, dk, rfl, hu4, he4, hb4⟩; rw [HU3.out] at hu4; rw [HE3.out] at he4; have hb5 := hb4.alloc hb4.size (.cells #[.slice va vn vk, .slice da dn dk, .slice ra C.length rk] 29); have HBD : Hid (Below w4.heap.size w4 (w4.alloc (.cells #[.slice va vn vk, .slice da dn dk, .slice ra C.length rk] 29)) ∧ ∀ X, Below (w4.alloc (.cells #[.slice va vn vk, .slice da dn dk, .slice ra C.length rk] 29)).heap.size (w4.alloc (.cells #[.slice va vn vk, .slice da dn dk, .slice ra C.length rk] 29)) X → X.cell? ⟨w4.heap.size, 0, none⟩ = some (.slice va vn vk) ∧ X.cell? ⟨w4.heap.size, 1, none⟩ = some (.slice da dn dk) ∧ X.cell? ⟨w4.heap.size, 2, none⟩ = some (.slice ra C.length rk)) := box3 (Below.refl _ _); have HU4 := Lib.hid hu4; have HE4 := Lib.hid he4; have HB5 := Lib.hid (HB3.out.trans (hb5.mono HB3.out.size)); clear hu4 he4)
          | (go_at_call 18; refine (rmay_to (HP3.out.below hb5 (Nat.le_refl _)) (mayQ_p HQ3.out)).mono ?_; rintro e w6 ⟨rfl, hb6⟩; have HB6 := Lib.hid (HB5.out.trans (hb6.mono HB5.out.size)); obtain ⟨x9, x10, x11⟩ := HY.out w6 HB6.out; obtain ⟨z0, z1, z2⟩ := HBD.out.2 w6 hb6; have HK6 := Lib.hid (HBD.out.1.trans (hb6.mono HBD.out.1.size)))
          | (go_at_call 14; refine (HS.out w6 _ _ HB6.out (HU4.out.below HK6.out (Nat.le_refl _)) (HE4.out.below HK6.out (Nat.le_refl _))).mono ?_; rintro e w7 ⟨rfl, hb7⟩; have HB7 := Lib.hid (HB6.out.trans (hb7.mono HB6.out.size)))
          | (go_at_call 7; refine (head_any _).mono ?_; rintro e w8 ⟨rfl, hb8⟩))
        go_ret
        exact ⟨rfl, HB0.out.trans ((HB7.out.trans (hb8.mono HB7.out.size)).mono HB0.out.size)⟩
      · have HL := Lib.hid (HLN.out hm hall)
        have HALL : Hid (¬ cmpAll E) := hall
        clear HLY HLN hm hall
        have HPT : Hid (∀ X, Below w.heap.size w X → ∀ u1 u2 l1 l2, IsInts w u1 l1 → IsInts w u2 l2 → Calls Tryz.prog 19 #[u1, u2] X fun e w' => e = .returned (.bool (partB l1 l2)) ∧ X = w') := fun X hX u1 u2 l1 l2 h1 h2 => rpart_any u1 u2 l1 l2 X (h1.below hX (Nat.le_refl _)) (h2.below hX (Nat.le_refl _))
        go_enter Tryz.func4, Tryz.ntmps4
        go_wp2_with (first
          | (go_at_call 6; refine (HBR.out W (Below.refl _ _)).mono ?_; rintro e w1 ⟨rfl, hb1⟩; obtain ⟨x0, x1, x2⟩ := HY.out w1 hb1)
          | (go_at_call 17; refine (HRM.out w1 hb1).mono ?_; rintro e w2 ⟨rfl, hb2⟩; have HB2 := Lib.hid (hb1.trans (hb2.mono hb1.size)); obtain ⟨x3, x4, x5⟩ := HY.out w2 HB2.out)
          | (go_at_call 10; refine (HL.out w2 HB2.out).mono ?_; rintro e w3 ⟨la, lc, rfl, hb3⟩; have HB3 := Lib.hid (HB2.out.trans (hb3.mono HB2.out.size))))
        clear x0 x1 x2 x3 x4 x5 y0 y1 y2 hb1 hb2 hb3 HB2 HBR HRM HL
        go_loopw [7] (fun i wr => ∃ n : Nat, n ≤ E.length ∧ i = .int .i64 n ∧ Below w3.heap.size w3 wr ∧ Hid (∀ i k, i < n → k < i → cmpOne E i k)) (fun i _ => E.length - (intOf i).toNat)
        case atStart => exact ⟨0, Nat.zero_le _, rfl, Below.refl _ _, fun i k h => absurd h (Nat.not_lt_zero _)⟩
        case round =>
          obtain ⟨n, hn, rfl, hbr, hcn⟩ := hrel
          obtain ⟨q0, q1, q2⟩ := HY.out wr (HB3.out.trans (hbr.mono HB3.out.size))
          by_cases hlt : n < E.length
          · have hn0 : (0 : Int) ≤ (n : Int) := by omega
            have hn1 : (n : Int) < (E.length : Int) := by omega
            have hn2 : (n : Int) < 4000001 := by have := HEL.out; omega
            have HNL := Lib.hid hlt
            have HBR := Lib.hid hbr
            clear hbr
            go_wp2
            clear q0 q1 q2
            generalize wr = wo at *
            go_loopw [8] (fun j wr => ∃ k : Nat, k ≤ n ∧ j = .int .i64 k ∧ Below w3.heap.size w3 wr ∧ Hid (∀ k', k' < k → cmpOne E n k')) (fun j _ => n - (intOf j).toNat)
            case atStart => exact ⟨0, Nat.zero_le _, rfl, HBR.out, fun k h => absurd h (Nat.not_lt_zero _)⟩
            case round =>
              clear HBR
              obtain ⟨k, hk, rfl, hbr, hck⟩ := hrel
              have hWr := HB3.out.trans (hbr.mono HB3.out.size)
              obtain ⟨q0, q1, q2⟩ := HY.out wr hWr
              by_cases hkn : k < n
              · have hk0 : (0 : Int) ≤ (k : Int) := by omega
                have hk1 : (k : Int) < (E.length : Int) := by omega
                have hk2 : (k : Int) < (n : Int) := by omega
                obtain ⟨b, off, u1, hea, hb, _, hcu1, HI1⟩ := HEW.out.at hlt
                obtain ⟨b', off', u2, hea', _, _, hcu2, HI2⟩ := HEW.out.at (show k < E.length by omega)
                subst hea
                injection hea' with hea'
                injection hea' with e1 e2 _
                subst e1; subst e2
                have hwr := HB0.out.trans (hWr.mono HB0.out.size)
                have hd1 := (hwr.cell (p := ⟨b, off + n * 2 + 1, none⟩) hb).trans hcu1
                have hd2 := (hwr.cell (p := ⟨b, off + k * 2 + 1, none⟩) hb).trans hcu2
                obtain ⟨xa, xc, rfl⟩ := HI1.shape
                obtain ⟨ya, yc, rfl⟩ := HI2.shape
                have hP1 := fun m => HPT.out (wr.drewN m) (hwr.trans (below_dn _ m _)) _ _ _ _ HI1 HI2
                have hP2 := fun m => HPT.out (wr.drewN m) (hwr.trans (below_dn _ m _)) _ _ _ _ HI2 HI1
                have HC1 : Hid (partB (E.getD n dD).2 (E.getD k dD).2 = true → cmpOne E n k) := fun h => Or.inl (partB_mem h)
                have HC2 : Hid (partB (E.getD k dD).2 (E.getD n dD).2 = true → cmpOne E n k) := fun h => Or.inr (partB_mem h)
                have HBR := Lib.hid hbr
                have HKN := Lib.hid hkn
                clear hcu1 hcu2 HI1 HI2 hbr hwr hWr
                generalize partB (E.getD n dD).2 (E.getD k dD).2 = p1 at *
                generalize partB (E.getD k dD).2 (E.getD n dD).2 = p2 at *
                generalize (E.getD n dD).2.length = nx at *
                generalize (E.getD k dD).2.length = ny at *
                cases p1 with
                | true =>
                  have HCX := Lib.hid (HC1.out rfl)
                  go_wp2_with fail
                  go_quiet ((go_at_call 19; with_reducible exact quiet_left (hP1 _)))
                  go_wp2
                  go_roundw
                  case rel => exact ⟨k + 1, by have := HKN.out; omega, by go_num, HBR.out.trans (below_dn _ _ _), fun k' h => (Nat.lt_succ_iff_lt_or_eq.1 h).elim (hck.out k') (fun e => by rw [e]; exact HCX.out)⟩
                  case measure => have := HKN.out; simp [intOf]; omega
                | false =>
                  cases p2 with
                  | true =>
                    have HCX := Lib.hid (HC2.out rfl)
                    go_wp2_with fail
                    go_quiet ((first | (go_at_call 19; with_reducible exact quiet_left (hP1 _)) | (go_at_call 19; with_reducible exact quiet_left (hP2 _))))
                    go_wp2
                    go_roundw
                    case rel => exact ⟨k + 1, by have := HKN.out; omega, by go_num, HBR.out.trans (below_dn _ _ _), fun k' h => (Nat.lt_succ_iff_lt_or_eq.1 h).elim (hck.out k') (fun e => by rw [e]; exact HCX.out)⟩
                    case measure => have := HKN.out; simp [intOf]; omega
                  | false =>
                    go_wp2_with fail
                    go_quiet ((first | (go_at_call 19; with_reducible exact quiet_left (hP1 _)) | (go_at_call 19; with_reducible exact quiet_left (hP2 _))))
                    have HBQ : Hid (Below W.heap.size W (wr.drewN nq)) := HB3.out.trans ((HBR.out.trans (below_dn _ _ _)).mono HB3.out.size)
                    generalize wr.drewN nq = wq at *
                    go_wp2_with (go_at_call 7; refine (head_any _).mono ?_; rintro e w8 ⟨rfl, hb8⟩)
                    go_ret
                    exact ⟨rfl, HB0.out.trans ((HBQ.out.trans (hb8.mono HBQ.out.size)).mono HB0.out.size)⟩
              · obtain rfl : k = n := by omega
                have HBR := Lib.hid hbr
                clear hbr
                go_wp2
                go_roundw
                case rel => exact ⟨k + 1, by have := HNL.out; omega, by go_num, HBR.out, fun i k' h h2 => (Nat.lt_succ_iff_lt_or_eq.1 h).elim (fun h => hcn.out i k' h h2) (fun e => by subst e; exact hck.out k' h2)⟩
                case measure => have := HNL.out; simp [intOf]; omega
          · obtain rfl : n = E.length := by omega
            exact absurd (fun i k hi hki => hcn.out i k hi hki) HALL.out
end Go.Proofs.YtmiijgjpkkmoaaaGreat
