/- Joined texts: AgTab, AgRTab. -/
import Derived.Test.YtfghjfljomcldaaGreatAgTabP
import Derived.Test.YtfghjfljomcldaaGreatAgCol
/- aig.Table. -/
namespace Go.Proofs.YtfghjfljomcldaaGreat
open Go.RowKit Go.Maps Go.Shelf
set_option linter.unusedVariables false
set_option linter.unusedSimpArgs false

def TabPost (w : World) (r : List Bool × Int) (e : Ending) (w' : World) : Prop := ∃ v, e = .returned (.tuple #[v, .int .i64 r.2]) ∧ OwnB w' w.heap.size v r.1 ∧ Below w.heap.size w w'
theorem shr_bit {z : Int} {c : Nat} (hz : W64 z) : ((z / 2 ^ c).tmod 2 == 1) = bitI z c := by
  obtain ⟨n, rfl⟩ := Int.eq_ofNat_of_zero_le hz.1
  unfold bitI
  rw [show ((n : Int)).toNat = n from rfl, Nat.testBit_eq_decide_div_mod_eq]
  rw [Bool.eq_iff_iff, beq_iff_eq, decide_eq_true_iff]
  have e : ((n : Int) / 2 ^ c).tmod 2 = ((n / 2 ^ c % 2 : Nat) : Int) := by
    rw [show ((2 : Int) ^ c) = ((2 ^ c : Nat) : Int) by simp]
    generalize 2 ^ c = d
    rw [show ((n : Int) / (d : Int)) = ((n / d : Nat) : Int) from rfl]
    rfl
  rw [e]
  omega
theorem WordsA.lenT {w : World} {B b n : Nat} {T : Nat → List Bool} (h : WordsA w B b n T) {c : Nat} (hc : c < 64) : (T c).length = n := by
  obtain ⟨xs, ho, hp⟩ := h
  rw [(hp.2 c hc).1]
  exact ho.len.symm
theorem ownB_nil (w : World) (B : Nat) : OwnB w B (.slice none 0 0) [] := World.ownsRow_nil _ _ _ _

set_option maxRecDepth 100000 in
set_option maxHeartbeats 12800000 in
theorem gtable_any (vi va vl : Value) (I : List Int) (A : List Pr) (x : Int) (a : List Int) (w : World) (HI : IsInts w vi I) (HA : IsPairs w va A) (HL : IsInts w vl a) (h1 : I.length ≤ 4000000) (h2 : A.length ≤ 4000000) (hla : a.length ≤ 4000000) (h3 : -9223372036854775808 ≤ x) (h4 : x ≤ 9223372036854775807) :
    Calls Tryz.prog 29 #[.agg #[vi, va], .int .i64 x, vl] w (TabPost w (tabR I A x a)) := by
  have hb0 := below_alloc1 w (.cells #[vi, va] 25)
  have hsz : (w.alloc (.cells #[vi, va] 25)).heap.size = w.heap.size + 1 := by simp
  have hbx := boxA_new w vi va
  have HI1 := Lib.hid (HI.below hb0 (Nat.le_refl _))
  have HA1 := Lib.hid (HA.below hb0 (Nat.le_refl _))
  have HL1 := Lib.hid (HL.below hb0 (Nat.le_refl _))
  obtain ⟨ia, ic, rfl⟩ := HI.shape
  obtain ⟨aa, ac, rfl, _⟩ := HA.shape
  obtain ⟨la, lc, rfl⟩ := HL.shape
  clear HI HA HL
  go_enter Tryz.func29, Tryz.ntmps29
  go_upto_region 1 with fail
  generalize World.alloc w _ = W at *
  have HB0 := Lib.hid hb0
  have HBX := Lib.hid hbx
  have HSZ := Lib.hid hsz
  obtain ⟨p0, p1⟩ := hbx
  clear hb0 hsz
  have hba := below_alloc1 W (.cells #[.int .i64 x] 3)
  have HBA := Lib.hid hba
  have HH := Lib.hid (ghas_any _ _ _ I A [x] (W.alloc (.cells #[.int .i64 x] 3)) (HI1.out.below hba (Nat.le_refl _)) (HA1.out.below hba (Nat.le_refl _)) (one_int W x h3 h4) h1 h2)
  have HNO : Hid (∀ X, Below W.heap.size W X → Calls Tryz.prog 83 #[.slice la a.length lc] X fun e w' => e = .returned (.bool (diffB a)) ∧ Below X.heap.size X w') := fun X hX => gdifferent_any _ a X (HL1.out.below hX (Nat.le_refl _)) hla
  clear hba
  by_cases hh : hasA I A [x] = true
  · by_cases hm : diffB a = true
    · by_cases h16 : 16 < a.length
      · have HE : Hid (tabR I A x a = ([], 3)) := by show _ = _; unfold tabR; rw [if_pos ⟨hh, hm⟩, if_pos h16]
        have d16 : decide ((16 : Int) < (a.length : Int)) = true := decide_eq_true (by omega)
        rw [hh] at HH
        rw [hm] at HNO
        clear hh hm
        generalize a.length = an at *
        clear h16
        go_wp2_with (first
          | (go_at_call 83; refine (HNO.out w1 HB1.out).mono ?_; rintro e w2 ⟨rfl, hb2⟩; have HB2 := Lib.hid (HB1.out.trans (hb2.mono HB1.out.size)); clear hb2)
          | (go_at_call 62; refine HH.out.mono ?_; rintro e w1 ⟨rfl, hb1⟩; have HB1 := Lib.hid (HBA.out.trans (hb1.mono HBA.out.size)); clear hb1))
        go_ret2
        exact ⟨_, by rw [HE.out]; rfl, by rw [HE.out]; exact ownB_nil _ _, HB0.out.trans (HB2.out.mono HB0.out.size)⟩
      · have d16 : decide ((16 : Int) < (a.length : Int)) = false := decide_eq_false (by omega)
        have HE : Hid (tabR I A x a = ((List.range (2 ^ a.length)).map (tabV I A x a), 0)) := by show _ = _; unfold tabR; rw [if_pos ⟨hh, hm⟩, if_neg h16]
        obtain ⟨hmay, hok, hed⟩ := hasA_parts hh
        obtain ⟨hnd, hvb⟩ := diffB_parts hm
        have hroom := (mayA_parts hmay).1
        have hsrt := (insB_lt (mayA_parts hmay).2.1).2
        have hxe := edgesB_true.1 hed x (by simp)
        have HOK := Lib.hid hok
        have HED := Lib.hid hed
        have HND := Lib.hid hnd
        have HSR := Lib.hid hsrt
        have HXE := Lib.hid hxe
        have HRM := Lib.hid hroom
        have ha16 : a.length ≤ 16 := by omega
        rw [hh] at HH
        rw [hm] at HNO
        clear hh hm h16 hmay hok hed hroom hsrt hxe hnd
        have HR : Hid (∀ X, Below W.heap.size W X → Calls Tryz.prog 63 #[.agg #[.slice ia I.length ic, .slice aa A.length ac], .slice (some ⟨X.heap.size, 0, none⟩) 1 1] (X.alloc (.cells #[.int .i64 x] 3)) fun r w' => ∃ u v, r = .returned (.tuple #[u, v]) ∧ Own w' (X.alloc (.cells #[.int .i64 x] 3)).heap.size u (onN (reachA (1 + I.length) A [x]) 1 I.length) ∧ Own w' (X.alloc (.cells #[.int .i64 x] 3)).heap.size v (onN (reachA (1 + I.length) A [x]) (1 + I.length) A.length) ∧ Below (X.alloc (.cells #[.int .i64 x] 3)).heap.size (X.alloc (.cells #[.int .i64 x] 3)) w') := fun X hX =>
          reached_any _ _ _ I A [x] (X.alloc (.cells #[.int .i64 x] 3)) (HI1.out.below (hX.alloc hX.size _) (Nat.le_refl _)) (HA1.out.below (hX.alloc hX.size _) (Nat.le_refl _)) (one_int X x h3 h4) h1 h2 HOK.out HED.out
        obtain ⟨n, hn⟩ : ∃ n, 1 + I.length + A.length = n := ⟨_, rfl⟩
        have HN : Hid (∀ X, Below W.heap.size W X → Calls Tryz.prog 66 #[.agg #[.slice ia I.length ic, .slice aa A.length ac]] X fun r w' => r = .returned (.int .i64 (n : Int)) ∧ Below X.heap.size X w') := fun X hX => by
          have h := nodes_any _ _ I A X (HI1.out.below hX (Nat.le_refl _)) (HA1.out.below hX (Nat.le_refl _)) h1 h2
          rw [hn] at h
          exact h
        have HNS : Hid (∀ y ∈ onN (reachA (1 + I.length) A [x]) (1 + I.length) A.length, ((1 + I.length : Nat) : Int) ≤ y ∧ y < ((1 + I.length + A.length : Nat) : Int)) := fun y hy => by
          obtain ⟨i, rfl, g1, g2, _⟩ := onN_mem.1 hy
          omega
        have HNL : Hid ((onN (reachA (1 + I.length) A [x]) (1 + I.length) A.length).length ≤ 4000000) := Nat.le_trans (onN_len _ _ _) h2
        have HNN : Hid (1 + I.length + A.length = n) := hn
        have hn2 : n ≤ 200000 := by have := HRM.out; omega
        have HROF : Hid (∀ (f : Int → Bool) (t : List Bool), t.length = n → (∀ p, p < 1 + I.length → t.getD p false = (baseV I f).getD p false) → edgeV (runOn (1 + I.length) A t (onN (reachA (1 + I.length) A [x]) (1 + I.length) A.length)) x = edgeV (runN (baseV I f) A) x) := fun f t hl ht => runOn_of HOK.out HED.out (by rw [hl, hn]) ht
        have HLOW : Hid (∀ (t : List Bool) p, p < 1 + I.length → (runOn (1 + I.length) A t (onN (reachA (1 + I.length) A [x]) (1 + I.length) A.length)).getD p false = t.getD p false) := fun t p hp => runOn_low _ A _ t (fun y hy => by have := HNS.out y hy; omega) p hp
        generalize onN (reachA (1 + I.length) A [x]) 1 I.length = ins at *
        generalize onN (reachA (1 + I.length) A [x]) (1 + I.length) A.length = ands at *
        have HN64 : Hid (In64 ands) := fun y hy => by have := HNS.out y hy; have := HNN.out; omega
        clear hn
        obtain ⟨N, hN⟩ : ∃ N : Nat, 2 ^ a.length = N := ⟨_, rfl⟩
        have hN1 : N ≤ 65536 := by rw [← hN]; exact Nat.pow_le_pow_right (by omega) ha16
        have HNP := Lib.hid hN
        clear hN
        go_upto_region 5 with (first
          | (go_at_call 83; refine (HNO.out w1 HB1.out).mono ?_; rintro e w2 ⟨rfl, hb2⟩; have HB2 := Lib.hid (HB1.out.trans (hb2.mono HB1.out.size)); clear hb2)
          | (go_at_call 62; refine HH.out.mono ?_; rintro e w1 ⟨rfl, hb1⟩; have HB1 := Lib.hid (HBA.out.trans (hb1.mono HBA.out.size)); clear hb1 p0 p1))
        clear HH HNO HBA d16
        obtain ⟨p0, p1⟩ := HBX.out.below HB2.out (by rw [HSZ.out]; omega)
        have hba := below_alloc1 w2 (.cells #[.int .i64 x] 3)
        have HBA := Lib.hid hba
        clear hba HB1
        go_upto_region 6 with (go_at_call 63; refine (HR.out w2 HB2.out).mono ?_; rintro e w3 ⟨u, v, rfl, hu, hv, hb5⟩; have HB3 := Lib.hid (HB2.out.trans ((HBA.out.trans (hb5.mono HBA.out.size)).mono HB2.out.size)); have HV3 := Lib.hid hv; obtain ⟨ua, uc, rfl⟩ := own_shC hu; obtain ⟨na, nc, rfl⟩ := own_shC hv; have HS23 : Hid (w2.heap.size ≤ w3.heap.size) := Nat.le_trans (HBA.out).size hb5.size; clear hu hv hb5 p0 p1)
        obtain ⟨p0, p1⟩ := HBX.out.below HB3.out (by rw [HSZ.out]; omega)
        go_upto_region 7 with (first
          | (at_make; refine wpList_mkWords rfl _ _ rfl n n n rfl rfl rfl rfl (by omega) ?_; intro w5 hown hg; have HO := Lib.hid hown; have HB5 := Lib.hid ((Below.refl w4.heap.size w4).grown hg (Nat.le_refl _) (fun k hk => by cases hk)); clear hown hg)
          | (go_at_call 66; refine (HN.out w3 HB3.out).mono ?_; rintro e w4 ⟨rfl, hb4⟩; have HB4 := Lib.hid (HB3.out.trans (hb4.mono HB3.out.size)); have HV4 := Lib.hid (HV3.out.below hb4 (Nat.le_refl _)); clear hb4))
        clear HN p0 p1 HR
        have HNW : Hid (wrap64 (2 ^ a.length) = (N : Int)) := by
          show _ = _
          have e : (2 : Int) ^ a.length = ((2 ^ a.length : Nat) : Int) := by simp
          rw [e, HNP.out]
          unfold wrap64
          omega
        have hN0 : 0 ≤ (N : Int) := by omega
        go_upto_region 8 with (at_make; refine wpList_mkBools2 rfl _ _ rfl N (wrap64 (2 ^ a.length)) (wrap64 (2 ^ a.length)) rfl rfl HNW.out HNW.out (by omega) ?_; intro w6 hown hg; have HOB := Lib.hid hown; have HB6 := Lib.hid ((Below.refl w5.heap.size w5).grown hg (Nat.le_refl _) (fun k hk => by cases hk)); clear hown hg)
        rw [HNP.out] at HE
        have hlt45 := HO.out.lt1
        have hlt56 := HOB.out.lt1
        obtain ⟨bi, hbi⟩ : ∃ q, w4.heap.size = q := ⟨_, rfl⟩
        obtain ⟨bo, hbo⟩ : ∃ q, w5.heap.size = q := ⟨_, rfl⟩
        have hVlt := HV4.out.lt
        have hW4 := HB4.out.size
        have HB46 : Hid (Below w4.heap.size w4 w6) := HB5.out.trans (HB6.out.mono HB5.out.size)
        have HBW6 : Hid (Below W.heap.size W w6) := HB4.out.trans (HB46.out.mono HB4.out.size)
        have HV6 := Lib.hid (HV4.out.below HB46.out (Nat.le_refl _))
        have HW6 : Hid (WordsA w6 w4.heap.size w4.heap.size n (fun _ => List.replicate n false)) := ⟨_, ownU_below HO.out HB6.out (Nat.le_refl _), ParA.zero n⟩
        rw [hbi] at HW6 hlt45 hVlt hW4
        rw [hbo] at HOB hlt45 hlt56
        have HLT : Hid (W.heap.size ≤ bi ∧ bi < bo ∧ bo < w6.heap.size) := ⟨hW4, hlt45, hlt56⟩
        have HS6 : Hid (∀ X, Kept (fun j => j = bi ∨ j = bo) w6 X → Below W.heap.size W X ∧ IsInts X (.slice na ands.length nc) ands) := fun X hX => by
          have hX0 : Below W.heap.size W X := HBW6.out.trans (hX.below HBW6.out.size (fun i hi e => by have := HLT.out; omega))
          refine ⟨hX0, ?_⟩
          have hvX : Own X _ (.slice na ands.length nc) ands := hX.row HV6.out (fun g hg e => by
            have h7 := (hVlt g hg).2
            have := HLT.out
            omega)
          exact hvX.ints (by have := HNL.out; omega) HN64.out
        simp only [hbi, hbo] at *
        clear hlt45 hlt56 hVlt hW4 HV4 HV3 HS23 HB4 HB5 HB6 HB46 HO HB2 HB3 HBA HNW hN0 HNP hbi hbo
        have hNN0 : (N : Int) ≤ 65536 := by omega
        have HPL : Hid (∀ X y, Below W.heap.size W X → Calls Tryz.prog 77 #[.slice ia I.length ic, .int .i64 y] X fun e w' => e = .returned (.int .i64 (placeA I y)) ∧ Quiet X w') := fun X y hX => place_any _ I y X (HI1.out.below hX (Nat.le_refl _)) HSR.out h1
        have HXN : Hid (0 ≤ x ∧ x / 2 < (n : Int)) := ⟨HXE.out.1, by have := HXE.out.2; have := HNN.out; omega⟩
        have HZT : Hid (WordsA w6 bi bi n (fun _ => List.replicate n false) ∧ BatT I A x a 0 (fun _ => List.replicate n false) ∧ LowT I a (fun _ => List.replicate n false)) := ⟨HW6.out, fun h => absurd rfl h, lowT_zero I a n⟩
        have HOZ : Hid (OwnB w6 bo (.slice (some ⟨bo, 0, none⟩) N N) ((List.range 0).map (tabV I A x a) ++ List.replicate (N - 0) false)) := HOB.out
        clear HW6 HOB HRM HED HNL
        go_wp2
        go_loopw [45] (fun i wr => ∃ k : Nat, k ≤ N ∧ i = .int .i64 k ∧ Kept (fun j => j = bi ∨ j = bo) w6 wr ∧ (∃ T, WordsA wr bi bi n T ∧ BatT I A x a k T ∧ LowT I a T) ∧ OwnB wr bo (.slice (some ⟨bo, 0, none⟩) N N) ((List.range k).map (tabV I A x a) ++ List.replicate (N - k) false)) (fun i _ => N - (intOf i).toNat)
        case atStart => exact ⟨0, Nat.zero_le _, rfl, Kept.refl _ _, ⟨_, HZT.out⟩, HOZ.out⟩
        case round =>
          obtain ⟨wo, rfl⟩ : ∃ q, q = wr := ⟨_, rfl⟩
          obtain ⟨k, hk, rfl, hkp, ⟨T, hT, hB, hL⟩, ho⟩ := hrel
          have HKP := Lib.hid hkp
          have HT := Lib.hid hT
          have HB := Lib.hid hB
          have HO := Lib.hid ho
          obtain ⟨h, hh1, hh2⟩ := hL
          have HH1 := Lib.hid hh1
          have HH2 := Lib.hid hh2
          have hbr := (HS6.out wo hkp).1
          have HBR := Lib.hid hbr
          clear hkp hT hB ho hh1 hh2
          by_cases hlt : k < N
          · have HKL := Lib.hid hlt
            have hk0 : (0 : Int) ≤ (k : Int) := by omega
            have hkN : (k : Int) < (N : Int) := by omega
            have hk5 : k ≤ 65535 := by omega
            clear hlt hk
            by_cases h64 : k % 64 = 0
            · have h64i : (k : Int) % 64 = 0 := by omega
              have H64 := Lib.hid h64
              clear h64
              have HIT0 := Lib.hid (inT_zero (vars := a) (k := k) HH2.out)
              go_upto_region 12 with fail
              clear h64i
              go_wp2
              go_loopw [53] (fun i wr => ∃ j : Nat, j ≤ a.length ∧ i = .int .i64 j ∧ Kept (fun q => q = bi) wo wr ∧ ∃ U, WordsA wr bi bi n U ∧ InT I a k h j U) (fun i _ => a.length - (intOf i).toNat)
              case atStart => exact ⟨0, Nat.zero_le _, rfl, Kept.refl _ _, T, HT.out, HIT0.out⟩
              case round =>
                obtain ⟨j, hj, rfl, hkq, U, hU, hIn⟩ := hrel
                have HKQ := Lib.hid hkq
                have HU := Lib.hid hU
                have HIN := Lib.hid hIn
                have HKX := Lib.hid (HKP.out.trans (hkq.mono (fun q _ e => (Or.inl e : q = bi ∨ q = bo))))
                have hbi := (HS6.out _ HKX.out).1
                have HBI := Lib.hid hbi
                obtain ⟨p0, p1⟩ := HBX.out.below hbi (by rw [HSZ.out]; omega)
                clear hkq hU hIn hbr
                by_cases hjl : j < a.length
                · have HJL := Lib.hid hjl
                  obtain ⟨b1, off1, rfl, hb1, hx1⟩ := (HL1.out.below hbi (Nat.le_refl _)).cellY hjl
                  have ha64 : (a.length : Int) ≤ 17592186044416 := by omega
                  have HSET : Hid (∀ m : Nat, placeA I (a.getD j 0) = (m : Int) → 0 < m → InT I a k h (j + 1) (fun c => (U c).set m ((k + c) / 2 ^ j % 2 == 1))) := fun m hm h0 => inT_set HSR.out HND.out HJL.out HIN.out hm h0 (fun c hc => HU.out.lenT hc) (by have := HNN.out; omega)
                  have HOUT : Hid (¬ 0 < placeA I (a.getD j 0) → InT I a k h (j + 1) U) := fun hm => inT_out HSR.out HND.out HJL.out HIN.out hm
                  have HPY : Hid (0 ≤ placeA I (a.getD j 0) ∧ placeA I (a.getD j 0) < (n : Int)) := by have := placeA_bd I (a.getD j 0); have := HNN.out; exact ⟨by omega, by omega⟩
                  have HPC := Lib.hid (HPL.out wr (a.getD j 0) hbi)
                  clear hb1 hbi
                  generalize a.getD j 0 = y at *
                  generalize placeA I y = p at *
                  go_upto_region 16 with (go_at_call 77; refine HPC.out.mono ?_; rintro e w8 ⟨rfl, hq⟩; have HQ := Lib.hid hq; clear hq)
                  clear hx1 p0 p1
                  have hw8 := HU.out.below (HQ.out.below wr.heap.size) (Nat.le_refl _)
                  have HK8 := Lib.hid (HKQ.out.trans (kept_below (S := fun q => q = bi) (HQ.out.below _)))
                  by_cases hp : 0 < p
                  · obtain ⟨m, rfl⟩ := Int.eq_ofNat_of_zero_le HPY.out.1
                    have hmn : m < n := by have := HPY.out.2; omega
                    have hm0 : (0 : Int) ≤ (m : Int) := by omega
                    have hm1 : (m : Int) < (n : Int) := by omega
                    obtain ⟨z0, m0, _, _⟩ := hw8.at m hmn
                    have m1 := hw8.frozen m
                    have HW8 := Lib.hid hw8
                    have HCL := Lib.hid (column_any j k w8 (by omega) (by omega))
                    have hp : 0 < m := by omega
                    have HIN1 := Lib.hid (HSET.out m rfl hp)
                    clear hw8 hmn
                    go_wp2_with (go_at_call 84; refine HCL.out.mono ?_; rintro e w9 ⟨z, rfl, hz1, hz2, rfl⟩; have HZ1 := Lib.hid hz1; have HZ2 := Lib.hid hz2; clear hz1 hz2)
                    go_roundw
                    case rel => exact ⟨j + 1, HJL.out, by go_num, HK8.out.trans (Kept.setCell w8 ⟨bi, m, none⟩ (.int .u64 z)), _, HW8.out.store m HZ1.out HZ2.out, HIN1.out⟩
                    case measure => have := HJL.out; simp [intOf]; omega
                  · have d3 : decide ((0 : Int) < p) = false := decide_eq_false hp
                    have HIN1 := Lib.hid (HOUT.out (by omega))
                    have HW8 := Lib.hid hw8
                    clear hw8 hp
                    go_wp2
                    go_roundw
                    case rel => exact ⟨j + 1, HJL.out, by go_num, HK8.out, _, HW8.out, HIN1.out⟩
                    case measure => have := HJL.out; simp [intOf]; omega
                · obtain rfl : j = a.length := by omega
                  have HAL := Lib.hid (inT_all HH1.out HIN.out)
                  have HRUN : Hid (Calls Tryz.prog 78 #[.agg #[.slice ia I.length ic, .slice aa A.length ac], .slice na ands.length nc, .slice (some ⟨bi, 0, none⟩) n n] wr fun r w' => r = .returned (.tuple #[]) ∧ WordsA w' bi bi n (fun c => runOn (1 + I.length) A (U c) ands) ∧ Kept (fun q => q = bi) wr w') := by
                    refine grunA_any _ _ _ I A ands n bi bi U wr (fun X hX => ?_) HU.out HNN.out (by omega) HOK.out HNS.out
                    have hX0 := HS6.out X (HKX.out.trans (hX.mono (fun q _ e => Or.inl e)))
                    exact ⟨HI1.out.below hX0.1 (Nat.le_refl _), HA1.out.below hX0.1 (Nat.le_refl _), hX0.2⟩
                  clear hjl hj hbi
                  go_upto_region 20 with (go_at_call 78; refine HRUN.out.mono ?_; rintro e w8 ⟨rfl, hw8, hk8⟩; have HX := Lib.hid hw8; have HK8 := Lib.hid hk8; clear hw8 hk8 p0 p1)
                  have HF : Hid (∀ c, c < 64 → edgeV (runOn (1 + I.length) A (U c) ands) x = tabV I A x a (64 * (k / 64) + c)) := fun c hc => by
                    rw [HROF.out (onT a (k + c)) (U c) (HU.out.lenT hc) (HAL.out c hc), show 64 * (k / 64) + c = k + c by have := H64.out; omega]
                    rfl
                  have HLW : Hid (LowT I a (fun c => runOn (1 + I.length) A (U c) ands)) := lowT_run HAL.out (fun c hc p hp => HLOW.out (U c) p hp)
                  have HKB := Lib.hid (HKQ.out.trans HK8.out)
                  have HOW := Lib.hid (ownB_kept HO.out HKB.out (fun g hg e => by simp [Value.ownBlock] at hg; have := HLT.out; omega))
                  have HKW := Lib.hid (HKP.out.trans (HKB.out.mono (fun q _ e => (Or.inl e : q = bi ∨ q = bo))))
                  have HWD := Lib.hid (wordA_any x HX.out HXN.out.1 HXN.out.2 (by omega))
                  have HOL : Hid (((List.range k).map (tabV I A x a) ++ List.replicate (N - k) false).length = N) := by
                    show _ = _
                    rw [List.length_append, List.length_map, List.length_range, List.length_replicate]
                    have := HKL.out
                    omega
                  have m0 := HOW.out.cell k (by rw [HOL.out]; exact HKL.out)
                  have m1 := HOW.out.frozen k
                  generalize (((List.range k).map (tabV I A x a) ++ List.replicate (N - k) false).getD k false) = ob at m0
                  go_wp2_with (go_at_call 79; refine HWD.out.mono ?_; rintro e w7 ⟨z, rfl, hz1, hz2, rfl⟩; have HZ1 := Lib.hid hz1; have HZ2 := Lib.hid hz2; have hz0 := hz1.1; clear hz1 hz2)
                  have HVB : Hid (((z / 2 ^ (k % 64)).tmod 2 == 1) = tabV I A x a k) := by
                    show _ = _
                    rw [shr_bit HZ1.out, HZ2.out _ (Nat.mod_lt _ (by decide)), HF.out _ (Nat.mod_lt _ (by decide)), Nat.div_add_mod]
                  have HNB : Hid (bi ≠ bo) := by have := HLT.out; show _ ≠ _; omega
                  go_roundw
                  case rel =>
                    generalize ((z / 2 ^ (k % 64)).tmod 2 == 1) = bv at *
                    have hks : Kept (fun q => q = bo) w8 (w8.setCell ⟨bo, k, none⟩ (.bool bv)) := Kept.setCell w8 ⟨bo, k, none⟩ (.bool bv)
                    have h5 := HOW.out.store k bv
                    rw [tab_next HKL.out HVB.out] at h5
                    exact ⟨k + 1, HKL.out, by go_num, HKW.out.trans (hks.mono (fun q _ e => Or.inr e)), ⟨_, HX.out.kept hks (fun e => HNB.out e), batT_next HF.out, HLW.out⟩, h5⟩
                  case measure => have := HKL.out; simp [intOf]; omega
            · have d64 : ((k : Int) % 64 == 0) = false := by rw [beq_eq_false_iff_ne]; omega
              have HF := Lib.hid (HB.out h64)
              have HX := HT
              have HOW := HO
              have HKW := HKP
              have HLW : Hid (LowT I a T) := ⟨h, HH1.out, HH2.out⟩
              clear h64
              have HWD := Lib.hid (wordA_any x HX.out HXN.out.1 HXN.out.2 (by omega))
              have HOL : Hid (((List.range k).map (tabV I A x a) ++ List.replicate (N - k) false).length = N) := by
                show _ = _
                rw [List.length_append, List.length_map, List.length_range, List.length_replicate]
                have := HKL.out
                omega
              have m0 := HOW.out.cell k (by rw [HOL.out]; exact HKL.out)
              have m1 := HOW.out.frozen k
              generalize (((List.range k).map (tabV I A x a) ++ List.replicate (N - k) false).getD k false) = ob at m0
              go_wp2_with (go_at_call 79; refine HWD.out.mono ?_; rintro e w7 ⟨z, rfl, hz1, hz2, rfl⟩; have HZ1 := Lib.hid hz1; have HZ2 := Lib.hid hz2; have hz0 := hz1.1; clear hz1 hz2)
              have HVB : Hid (((z / 2 ^ (k % 64)).tmod 2 == 1) = tabV I A x a k) := by
                show _ = _
                rw [shr_bit HZ1.out, HZ2.out _ (Nat.mod_lt _ (by decide)), HF.out _ (Nat.mod_lt _ (by decide)), Nat.div_add_mod]
              have HNB : Hid (bi ≠ bo) := by have := HLT.out; show _ ≠ _; omega
              go_roundw
              case rel =>
                generalize ((z / 2 ^ (k % 64)).tmod 2 == 1) = bv at *
                have hks : Kept (fun q => q = bo) wo (wo.setCell ⟨bo, k, none⟩ (.bool bv)) := Kept.setCell wo ⟨bo, k, none⟩ (.bool bv)
                have h5 := HOW.out.store k bv
                rw [tab_next HKL.out HVB.out] at h5
                exact ⟨k + 1, HKL.out, by go_num, HKW.out.trans (hks.mono (fun q _ e => Or.inr e)), ⟨_, HX.out.kept hks (fun e => HNB.out e), batT_next HF.out, HLW.out⟩, h5⟩
              case measure => have := HKL.out; simp [intOf]; omega
          · obtain rfl : k = N := by omega
            rw [Nat.sub_self, List.replicate_zero, List.append_nil] at HO
            have HFIN : Hid (Below w.heap.size w wo) := HB0.out.trans (hbr.mono HB0.out.size)
            have HGE : Hid (w.heap.size ≤ bo) := by have := HLT.out; have := HB0.out.size; show _ ≤ _; omega
            clear hk hlt hbr
            go_wp2
            go_ret2
            exact ⟨_, by rw [HE.out]; rfl, by rw [HE.out]; exact ownB_mono HO.out HGE.out, HFIN.out⟩
    · have HE : Hid (tabR I A x a = ([], 2)) := by show _ = _; unfold tabR; rw [if_neg (fun h => hm h.2)]
      rw [hh] at HH
      rw [show diffB a = false by simpa using hm] at HNO
      clear hm hh
      go_wp2_with (first
        | (go_at_call 83; refine (HNO.out w1 HB1.out).mono ?_; rintro e w2 ⟨rfl, hb2⟩; have HB2 := Lib.hid (HB1.out.trans (hb2.mono HB1.out.size)); clear hb2)
        | (go_at_call 62; refine HH.out.mono ?_; rintro e w1 ⟨rfl, hb1⟩; have HB1 := Lib.hid (HBA.out.trans (hb1.mono HBA.out.size)); clear hb1))
      go_ret2
      exact ⟨_, by rw [HE.out]; rfl, by rw [HE.out]; exact ownB_nil _ _, HB0.out.trans (HB2.out.mono HB0.out.size)⟩
  · have HE : Hid (tabR I A x a = ([], 2)) := by show _ = _; unfold tabR; rw [if_neg (fun h => hh h.1)]
    rw [show hasA I A [x] = false by simpa using hh] at HH
    clear hh
    go_wp2_with (go_at_call 62; refine HH.out.mono ?_; rintro e w1 ⟨rfl, hb1⟩; have HB1 := Lib.hid (HBA.out.trans (hb1.mono HBA.out.size)); clear hb1)
    go_ret2
    exact ⟨_, by rw [HE.out]; rfl, by rw [HE.out]; exact ownB_nil _ _, HB0.out.trans (HB1.out.mono HB0.out.size)⟩
end Go.Proofs.YtfghjfljomcldaaGreat

/- The reference's Table. -/
namespace Go.Proofs.YtfghjfljomcldaaGreat
open Go.RowKit Go.Maps Go.Shelf
set_option linter.unusedVariables false
set_option linter.unusedSimpArgs false

/-- 'append(s, y)' of a bool: y lies in a new block. -/
theorem wpList_app1B {w : World} {ops : Array Oper} {rest : List Oper} {o : Oper} {a : Act} {Q : Exit → Act → World → Prop} (hgd : o.guard = none) (s x : Operand)
    (ho : o.op = .call { callee := .builtin .append, args := #[s, x], argTypes := #[46, 46] }) (B : Nat) (v : Value) (xs : List Bool) (y : Bool) (g : Nat)
    (hs : a.eval s = v) (hx : a.eval x = .slice (some ⟨g, 0, none⟩) 1 1) (hown : OwnB w B v xs) (hy : w.cell? ⟨g, 0, none⟩ = some (.bool y)) (hlen : xs.length < 17592186044416) (hB : B ≤ w.heap.size)
    (h : ∀ v' w', OwnB w' B v' (xs ++ [y]) → w.grownBy w' v.ownBlock → wpList Tryz.prog ops Q rest (a.put o.dst v') w') : wpList Tryz.prog ops Q (o :: rest) a w := by
  obtain ⟨i0, hi, hz0, hz1, hz2⟩ := info_parts info_boolC
  refine wpList_append_own _ hgd s x 46 ho B 4 i0 (.bool false) 1 1 Tryz.underlying46 hi hz0 hz1 hz2 rfl (by decide) v xs.length _ hs hown ⟨g, 0, none⟩ 1 1 [.bool y] hx (by simp) ?_ (by simp [Value.oneCell']) (by unfold maxLen; omega) (by omega) hB ?_
  · intro j u hj
    match j, hj with
    | 0, hj => simp at hj; subst hj; simpa [Addr.add] using hy
  · intro v' w' h1 h2 _
    refine h v' w' ?_ h2
    unfold OwnB
    rw [List.length_append, List.map_append]
    exact h1
theorem mk_kept2 {w w' : World} {B b : Nat} {f : Int → Bool} {S : Nat → Prop} (h : Mk w B b f) (k : Kept S w w') (hb : ¬ S b) : Mk w' B b f := by
  obtain ⟨bs, h1, h2, h3⟩ := h
  exact ⟨bs, ownB_kept h1 k (fun g hg => by simp [Value.ownBlock] at hg; subst hg; exact hb), h2, h3⟩
theorem bit_at (k j : Nat) (hk : k < 4611686018427387904) : ((bits .and .i64 ((k : Int) / 2 ^ j) 1 == 1) : Bool) = (k / 2 ^ j % 2 == 1) := by
  have e : (k : Int) / 2 ^ j = ((k / 2 ^ j : Nat) : Int) := by simp
  have hle : k / 2 ^ j ≤ k := Nat.div_le_self _ _
  rw [e, and_one64 _ (by omega), Bool.eq_iff_iff, beq_iff_eq, beq_iff_eq]
  omega
set_option maxRecDepth 100000 in
set_option maxHeartbeats 12800000 in
theorem rtable6_any (vi va vl : Value) (I : List Int) (A : List Pr) (x : Int) (a : List Int) (w : World) (HI : IsInts w vi I) (HA : IsPairs w va A) (HL : IsInts w vl a) (h1 : I.length ≤ 4000000) (h2 : A.length ≤ 4000000) (hla : a.length ≤ 4000000) (h3 : -9223372036854775808 ≤ x) (h4 : x ≤ 9223372036854775807) :
    Calls Tryz.prog 30 #[.agg #[vi, va], .int .i64 x, vl] w (TabPost w (tabR I A x a)) := by
  have hb0 := below_alloc1 w (.cells #[vi, va] 25)
  have hsz : (w.alloc (.cells #[vi, va] 25)).heap.size = w.heap.size + 1 := by simp
  have hbx := boxA_new w vi va
  have HI1 := Lib.hid (HI.below hb0 (Nat.le_refl _))
  have HA1 := Lib.hid (HA.below hb0 (Nat.le_refl _))
  have HL1 := Lib.hid (HL.below hb0 (Nat.le_refl _))
  obtain ⟨ia, ic, rfl⟩ := HI.shape
  obtain ⟨aa, ac, rfl, _⟩ := HA.shape
  obtain ⟨la, lc, rfl⟩ := HL.shape
  clear HI HA HL
  go_enter Tryz.func30, Tryz.ntmps30
  go_upto_region 1 with fail
  generalize World.alloc w _ = W at *
  have HB0 := Lib.hid hb0
  have HBX := Lib.hid hbx
  have HSZ := Lib.hid hsz
  obtain ⟨p0, p1⟩ := hbx
  clear hb0 hsz
  have HH := Lib.hid (rHas6_any _ _ I A x W HI1.out HA1.out h1 h2)
  have HNO : Hid (∀ X, Below W.heap.size W X → Calls Tryz.prog 85 #[.slice la a.length lc] X fun e w' => e = .returned (.bool (diffB a)) ∧ Below X.heap.size X w') := fun X hX => rdifferent_any _ a X (HL1.out.below hX (Nat.le_refl _))
  by_cases hh : hasA I A [x] = true
  · by_cases hm : diffB a = true
    · by_cases h16 : 16 < a.length
      · have HE : Hid (tabR I A x a = ([], 3)) := by show _ = _; unfold tabR; rw [if_pos ⟨hh, hm⟩, if_pos h16]
        have d16 : decide ((16 : Int) < (a.length : Int)) = true := decide_eq_true (by omega)
        rw [hh] at HH
        rw [hm] at HNO
        clear hh hm
        generalize a.length = an at *
        clear h16
        go_wp2_with (first
          | (go_at_call 85; refine (HNO.out w1 HB1.out).mono ?_; rintro e w2 ⟨rfl, hb2⟩; have HB2 := Lib.hid (HB1.out.trans (hb2.mono HB1.out.size)); clear hb2)
          | (go_at_call 23; refine HH.out.mono ?_; rintro e w1 ⟨rfl, hb1⟩; have HB1 := Lib.hid hb1; clear hb1))
        go_ret2
        exact ⟨_, by rw [HE.out]; rfl, by rw [HE.out]; exact ownB_nil _ _, HB0.out.trans (HB2.out.mono HB0.out.size)⟩
      · have d16 : decide ((16 : Int) < (a.length : Int)) = false := decide_eq_false (by omega)
        obtain ⟨N, hN⟩ : ∃ N : Nat, 2 ^ a.length = N := ⟨_, rfl⟩
        have HE : Hid (tabR I A x a = ((List.range N).map (tabV I A x a), 0)) := by show _ = _; unfold tabR; rw [if_pos ⟨hh, hm⟩, if_neg h16, hN]
        obtain ⟨hmay, hok, hed⟩ := hasA_parts hh
        obtain ⟨hnd, hvb⟩ := diffB_parts hm
        have hroom := (mayA_parts hmay).1
        have hpos := (insB_lt (mayA_parts hmay).2.1).1
        have hxe := edgesB_true.1 hed x (by simp)
        have HOK := Lib.hid hok
        have HND := Lib.hid hnd
        have HVB := Lib.hid hvb
        have HPO := Lib.hid hpos
        have HXE := Lib.hid hxe
        have HRM := Lib.hid hroom
        have ha16 : a.length ≤ 16 := by omega
        have hN1 : N ≤ 65536 := by rw [← hN]; exact Nat.pow_le_pow_right (by omega) ha16
        have hNW : wrap64 (2 ^ a.length) = (N : Int) := by
          have e : (2 : Int) ^ a.length = ((2 ^ a.length : Nat) : Int) := by simp
          rw [e, hN]
          unfold wrap64
          omega
        have HNM := Lib.hid nM_eq
        rw [hh] at HH
        rw [hm] at HNO
        clear hh hm h16 hmay hok hed hroom hpos hxe hnd hN hvb
        go_upto_region 5 with (first
          | (go_at_call 85; refine (HNO.out w1 HB1.out).mono ?_; rintro e w2 ⟨rfl, hb2⟩; have HB2 := Lib.hid (HB1.out.trans (hb2.mono HB1.out.size)); clear hb2)
          | (go_at_call 23; refine HH.out.mono ?_; rintro e w1 ⟨rfl, hb1⟩; have HB1 := Lib.hid hb1; clear hb1 p0 p1))
        clear HH HNO d16 HB1
        go_upto_region 7 with (at_make; refine wpList_mkBools2 rfl _ _ rfl nM 65537 65537 rfl rfl (by rw [HNM.out]; rfl) (by rw [HNM.out]; rfl) (by rw [HNM.out]; decide) ?_; intro w3 hown hg; have HO := Lib.hid hown; have HB3 := Lib.hid ((Below.refl w2.heap.size w2).grown hg (Nat.le_refl _) (fun k hk => by cases hk)); clear hown hg)
        have HM0 : Hid (Mk w3 w2.heap.size w2.heap.size (fun _ => false)) := ⟨_, HO.out, by rw [List.length_replicate], fun i hi => by simp [List.getD, List.getElem?_replicate, hi]⟩
        have hbo : W.heap.size ≤ w2.heap.size := HB2.out.size
        have hb3s := HO.out.lt1
        have HB4 := Lib.hid (HB2.out.trans (HB3.out.mono HB2.out.size))
        obtain ⟨bo, hbq⟩ : ∃ q, w2.heap.size = q := ⟨_, rfl⟩
        rw [hbq] at HM0 hbo hb3s
        have HBO : Hid (W.heap.size ≤ bo ∧ bo < w3.heap.size) := ⟨hbo, hb3s⟩
        simp only [hbq] at *
        clear HO HB3 HB2 hbo hb3s hbq
        have HZ0 : Hid (OwnB w3 (bo + 1) (.slice none 0 0) ((List.range 0).map (tabV I A x a))) := ownB_nil _ _
        go_wp2
        go_loopw [8, 10] (fun s8 s10 wr => ∃ k : Nat, k ≤ N ∧ s10 = .int .i64 k ∧ Below W.heap.size W wr ∧ OwnB wr (bo + 1) s8 ((List.range k).map (tabV I A x a)) ∧ ∃ f, (∀ v, v ∉ a → f v = false) ∧ Mk wr bo bo f) (fun s8 s10 _ => N - (intOf s10).toNat)
        case atStart => exact ⟨0, Nat.zero_le _, rfl, HB4.out, HZ0.out, _, fun _ _ => rfl, HM0.out⟩
        case round =>
          obtain ⟨wo, rfl⟩ : ∃ q, q = wr := ⟨_, rfl⟩
          obtain ⟨k, hk, rfl, hb, ho, f, hf, hm⟩ := hrel
          have HB := Lib.hid hb
          have HO := Lib.hid ho
          have HF := Lib.hid hf
          have HM := Lib.hid hm
          clear hb ho hf hm
          by_cases hlt : k < N
          · have HKL := Lib.hid hlt
            have hk0 : (0 : Int) ≤ (k : Int) := by omega
            have hkN : (k : Int) < (N : Int) := by omega
            have hk5 : k ≤ 65535 := by omega
            have HI0 : Hid (Mk wo bo bo (setT a k f 0)) := HM.out.congr (fun i _ _ => (setT_zero a k f i).symm)
            clear hlt hk
            go_upto_region 11 with fail
            clear hNW
            go_loopw [11] (fun i wr => ∃ j : Nat, j ≤ a.length ∧ i = .int .i64 j ∧ Kept (fun q => q = bo) wo wr ∧ Mk wr bo bo (setT a k f j)) (fun i _ => a.length - (intOf i).toNat)
            case atStart => exact ⟨0, Nat.zero_le _, rfl, Kept.refl _ _, HI0.out⟩
            case round =>
              obtain ⟨j, hj, rfl, hkp, hmk⟩ := hrel
              have HKP := Lib.hid hkp
              have HMK := Lib.hid hmk
              have hbw : Below W.heap.size W wr := HB.out.trans (hkp.below HB.out.size (fun i hi e => by have := HBO.out; omega))
              have HBW := Lib.hid hbw
              clear hkp hmk
              by_cases hjl : j < a.length
              · have HJL := Lib.hid hjl
                obtain ⟨b1, off1, rfl, hb1, hx0⟩ := HL1.out.cellY hjl
                have hx1 := (hbw.cell (p := ⟨b1, off1 + j, none⟩) hb1).trans hx0
                have hyv := HVB.out _ (ints_getD_mem hjl)
                have HSC : Hid (∀ v, setT a k f (j + 1) v = updB (setT a k f j) (a.getD j 0) (k / 2 ^ j % 2 == 1) v) := fun v => setT_succ HND.out HJL.out v
                have hj0 : (0 : Int) ≤ (j : Int) := by omega
                have hj1 : (j : Int) < (a.length : Int) := by omega
                have ha64 : (a.length : Int) ≤ 17592186044416 := by omega
                generalize a.getD j 0 = y at *
                obtain ⟨n, rfl⟩ := Int.eq_ofNat_of_zero_le (show 0 ≤ y by omega)
                have hn : n < nM := by rw [HNM.out]; omega
                have hn0 : (0 : Int) ≤ (n : Int) := by omega
                have hn1 : (n : Int) < (nM : Int) := by omega
                have HN := Lib.hid hn
                have HBQ := Lib.hid hb1
                have HX1 := Lib.hid hx1
                clear hyv hx0 hjl hj hb1 hbw hn hx1
                go_upto_region 13 with fail
                have hBX := (Below.refl wr.heap.size wr).drew
                have HMX := Lib.hid (HMK.out.below hBX (Nat.le_refl _))
                have HKX := Lib.hid (HKP.out.trans (kept_below (S := fun q => q = bo) hBX))
                have HXX : Hid (wr.drew.cell? ⟨b1, off1 + j, none⟩ = some (.int .i64 (n : Int))) := HX1.out
                clear hBX
                refine wp_region_held_drew (S := fun Z : World => Z.cell? ⟨b1, off1 + j, none⟩ = some (.int .i64 (n : Int)) ∧ True) (by kernel_rfl) ⟨HXX.out, trivial⟩ (fun hSd => ?_)
                generalize wr.drew = X at *
                have m0 := HMX.out.cell HN.out
                have m1 := HMX.out.frozen n
                have HM9 := Lib.hid (HMX.out.set n HN.out (bits .and .i64 ((k : Int) / 2 ^ j) 1 == 1))
                have HK9 := Lib.hid (HKX.out.trans (Kept.setCell X ⟨bo, n, none⟩ (.bool (bits .and .i64 ((k : Int) / 2 ^ j) 1 == 1))))
                have hX9 : (X.setCell ⟨bo, n, none⟩ (.bool (bits .and .i64 ((k : Int) / 2 ^ j) 1 == 1))).cell? ⟨b1, off1 + j, none⟩ = some (.int .i64 (n : Int)) := ((Below.refl bo X).setCell (p := ⟨bo, n, none⟩) (u := .bool (bits .and .i64 ((k : Int) / 2 ^ j) 1 == 1)) (Nat.le_refl _)).cell (p := ⟨b1, off1 + j, none⟩) (by have := HBQ.out; have := HBO.out; show b1 < bo; omega) |>.trans HXX.out
                have HX9 := Lib.hid hX9
                clear hX9
                refine takeC (i := 0) (v := .slice (some ⟨bo, 0, none⟩) nM nM) (some 38) rfl rfl (by kernel_rfl) (by kernel_rfl) (by kernel_rfl) (fun _ _ _ h => h) (Or.inl ⟨by rfl, ?_⟩) (by assumption) ?_
                · intro wz hSw; go_simp
                try simp only [Act.put, List.setIfInBounds_toArray, List.set_cons_zero, List.set_cons_succ]
                refine takeC (i := 1) (v := .slice (some ⟨b1, off1, none⟩) a.length lc) (some 39) rfl rfl (by kernel_rfl) (by kernel_rfl) (by kernel_rfl) (fun _ _ _ h => h) (Or.inl ⟨by rfl, ?_⟩) (by assumption) ?_
                · intro wz hSw; go_simp
                try simp only [Act.put, List.setIfInBounds_toArray, List.set_cons_zero, List.set_cons_succ]
                refine takeC (i := 2) (v := .int .i64 (j : Int)) (some 40) rfl rfl (by kernel_rfl) (by kernel_rfl) (by kernel_rfl) (fun _ _ _ h => h) (Or.inl ⟨by rfl, ?_⟩) (by assumption) ?_
                · intro wz hSw; go_simp
                try simp only [Act.put, List.setIfInBounds_toArray, List.set_cons_zero, List.set_cons_succ]
                refine takeC (i := 3) (v := .pointer (some ⟨b1, off1 + j, none⟩)) (some 41) rfl rfl (by kernel_rfl) (by kernel_rfl) (by kernel_rfl) (fun _ _ _ h => h) (Or.inl ⟨by rfl, ?_⟩) (by assumption) ?_
                · intro wz hSw; go_simp
                try simp only [Act.put, List.setIfInBounds_toArray, List.set_cons_zero, List.set_cons_succ]
                refine takeC (i := 4) (v := .int .i64 (n : Int)) (some 42) rfl rfl (by kernel_rfl) (by kernel_rfl) (by kernel_rfl) (fun _ _ _ h => h) (Or.inl ⟨by rfl, ?_⟩) (by assumption) ?_
                · intro wz hSw; obtain ⟨t0, t1⟩ := hSw; go_simp
                try simp only [Act.put, List.setIfInBounds_toArray, List.set_cons_zero, List.set_cons_succ]
                refine takeC (i := 5) (v := .int .i64 (k : Int)) (some 43) rfl rfl (by kernel_rfl) (by kernel_rfl) (by kernel_rfl) (fun _ _ _ h => h) (Or.inl ⟨by rfl, ?_⟩) (by assumption) ?_
                · intro wz hSw; go_simp
                try simp only [Act.put, List.setIfInBounds_toArray, List.set_cons_zero, List.set_cons_succ]
                refine takeC (i := 6) (v := .int .i64 (j : Int)) (some 44) rfl rfl (by kernel_rfl) (by kernel_rfl) (by kernel_rfl) (fun _ _ _ h => h) (Or.inl ⟨by rfl, ?_⟩) (by assumption) ?_
                · intro wz hSw; go_simp
                try simp only [Act.put, List.setIfInBounds_toArray, List.set_cons_zero, List.set_cons_succ]
                refine takeC (i := 7) (v := .int .i64 ((k : Int) / 2 ^ j)) (some 45) rfl rfl (by kernel_rfl) (by kernel_rfl) (by kernel_rfl) (fun _ _ _ h => h) (Or.inl ⟨by rfl, ?_⟩) (by assumption) ?_
                · intro wz hSw; go_simp
                try simp only [Act.put, List.setIfInBounds_toArray, List.set_cons_zero, List.set_cons_succ]
                refine takeC (i := 8) (v := .int .i64 (bits .and .i64 ((k : Int) / 2 ^ j) 1)) (some 46) rfl rfl (by kernel_rfl) (by kernel_rfl) (by kernel_rfl) (fun _ _ _ h => h) (Or.inl ⟨by rfl, ?_⟩) (by assumption) ?_
                · intro wz hSw; go_simp
                try simp only [Act.put, List.setIfInBounds_toArray, List.set_cons_zero, List.set_cons_succ]
                refine takeC (i := 9) (v := .bool (bits .and .i64 ((k : Int) / 2 ^ j) 1 == 1)) (some 47) rfl rfl (by kernel_rfl) (by kernel_rfl) (by kernel_rfl) (fun _ _ _ h => h) (Or.inl ⟨by rfl, ?_⟩) (by assumption) ?_
                · intro wz hSw; go_simp
                try simp only [Act.put, List.setIfInBounds_toArray, List.set_cons_zero, List.set_cons_succ]
                refine takeC (i := 10) (v := .pointer (some ⟨bo, n, none⟩)) (some 48) rfl rfl (by kernel_rfl) (by kernel_rfl) (by kernel_rfl) (fun _ _ _ h => h) (Or.inl ⟨by rfl, ?_⟩) (by assumption) ?_
                · intro wz hSw; go_simp
                try simp only [Act.put, List.setIfInBounds_toArray, List.set_cons_zero, List.set_cons_succ]
                refine wpAnyH_ready (rs := [11]) (by kernel_rfl) (by simp) ?_
                refine AllReadyH.cons rfl (fun K hK => ?_) AllReadyH.nil
                go_simp
                refine hK.out _ _ ⟨HX9.out, trivial⟩ (fun hH9 => ?_)
                clear hK K
                try simp only [Act.put, List.setIfInBounds_toArray, List.set_cons_zero, List.set_cons_succ]
                refine wpAnyH_done (by kernel_rfl) ?_ _
                clear m0 m1
                go_wp2
                go_roundw
                case rel => exact ⟨j + 1, HJL.out, by go_num, HK9.out, HM9.out.congr (fun i _ _ => by rw [HSC.out, bit_at k j (by omega)])⟩
                case measure => have := HJL.out; simp [intOf]; omega
              · obtain rfl : j = a.length := by omega
                have HON : Hid (Mk wr bo bo (onT a k)) := HMK.out.congr (fun i _ _ => setT_all HF.out i)
                have HO1 := Lib.hid (ownB_kept HO.out HKP.out (fun g hg e => by have := (ownB_lt HO.out g hg).1; omega))
                have HAL := Lib.hid (rall6_any _ _ I A bo bo (onT a k) wr (HI1.out.below hbw (Nat.le_refl _)) (HA1.out.below hbw (Nat.le_refl _)) HON.out HPO.out HRM.out HOK.out)
                have HOF : Hid (∀ (Z : World) (B bv : Nat), OwnB Z B (.slice (some ⟨bv, 0, none⟩) (1 + I.length + A.length) (1 + I.length + A.length)) (runN (baseV I (onT a k)) A) → Calls Tryz.prog 80 #[.slice (some ⟨bv, 0, none⟩) (1 + I.length + A.length : Nat) (1 + I.length + A.length : Nat), .int .i64 x] Z fun r w' => r = .returned (.bool (tabV I A x a k)) ∧ Z = w') := fun Z B bv h => rof_any x h (by rw [runN_len, baseV_len]) HXE.out.1 HXE.out.2 (by have := HRM.out; omega)
                have HRS : Hid ((List.range (k + 1)).map (tabV I A x a) = (List.range k).map (tabV I A x a) ++ [tabV I A x a k]) := by show _ = _; rw [List.range_succ, List.map_append]; rfl
                have HLEN : Hid (((List.range k).map (tabV I A x a)).length < 17592186044416) := by show _ < _; rw [List.length_map, List.length_range]; omega
                have HXN : Hid (∀ v, v ∉ a → onT a k v = false) := fun v hv => onT_out hv
                obtain ⟨p0, p1⟩ := HBX.out.below hbw (by rw [HSZ.out]; omega)
                generalize runN (baseV I (onT a k)) A = tt at *
                generalize 1 + I.length + A.length = nn at *
                generalize tabV I A x a k = tv at *
                generalize (List.range k).map (tabV I A x a) = tl at *
                clear hjl hj hbw HM HI0 HMK HO
                go_upto_region 9 with (first
                  | (at_builtin; refine wpList_app1B rfl _ _ rfl (bo + 1) _ _ tv w4.heap.size rfl rfl (ownB_below HO4.out (below_alloc1 _ _) (Nat.le_refl _)) (cell_fresh rfl) HLEN.out (by simp; have := HB4S.out; have := HBO.out; omega) ?_; intro u' w' ho' hg'; have HO5 := Lib.hid ho'; have HG5 := Lib.hid hg'; clear ho' hg')
                  | (go_at_call 80; refine (HOF.out _ _ _ HT4.out).mono ?_; rintro e w5 ⟨rfl, rfl⟩)
                  | (go_at_call 81; refine HAL.out.mono ?_; rintro e w4 ⟨bv, rfl, ho4, hb4⟩; have HT4 := Lib.hid ho4; have HQ4 := Lib.hid hb4; have HO4 := Lib.hid (ownB_below HO1.out hb4 (Nat.le_refl _)); have HM4 := Lib.hid (HON.out.below hb4 (Nat.le_refl _)); have HW4 := Lib.hid (HBW.out.trans (hb4.mono HBW.out.size)); have HB4S : Hid (bo < w4.heap.size) := (HM4.out.lt).2; clear ho4 hb4 p0 p1))
                have HB6 : Hid (Below W.heap.size W w') := (HW4.out.alloc HW4.out.size _).grown HG5.out (by simp; have := HW4.out.size; omega) (fun q hq => by have := (ownB_lt HO4.out q hq).1; have := HBO.out; omega)
                have HM6 : Hid (Mk w' bo bo (onT a k)) := mk_kept2 (HM4.out.below (below_alloc1 _ _) (Nat.le_refl _)) (Kept.of_grown HG5.out) (fun e => by have := (ownB_lt HO4.out _ e).1; omega)
                go_wp2
                go_roundw
                case rel => exact ⟨k + 1, HKL.out, by go_num, HB6.out, by rw [HRS.out]; exact HO5.out, onT a k, HXN.out, HM6.out⟩
                case measure => have := HKL.out; simp [intOf]; omega
          · obtain rfl : k = N := by omega
            have HFIN : Hid (Below w.heap.size w wo) := HB0.out.trans (HB.out.mono HB0.out.size)
            have HGE : Hid (w.heap.size ≤ bo + 1) := by have := HBO.out; have := HB0.out.size; show _ ≤ _; omega
            clear hk hlt
            go_wp2
            go_ret2
            exact ⟨_, by rw [HE.out]; rfl, by rw [HE.out]; exact ownB_mono HO.out HGE.out, HFIN.out⟩
    · have HE : Hid (tabR I A x a = ([], 2)) := by show _ = _; unfold tabR; rw [if_neg (fun h => hm h.2)]
      rw [hh] at HH
      rw [show diffB a = false by simpa using hm] at HNO
      clear hm hh
      go_wp2_with (first
        | (go_at_call 85; refine (HNO.out w1 HB1.out).mono ?_; rintro e w2 ⟨rfl, hb2⟩; have HB2 := Lib.hid (HB1.out.trans (hb2.mono HB1.out.size)); clear hb2)
        | (go_at_call 23; refine HH.out.mono ?_; rintro e w1 ⟨rfl, hb1⟩; have HB1 := Lib.hid hb1; clear hb1))
      go_ret2
      exact ⟨_, by rw [HE.out]; rfl, by rw [HE.out]; exact ownB_nil _ _, HB0.out.trans (HB2.out.mono HB0.out.size)⟩
  · have HE : Hid (tabR I A x a = ([], 2)) := by show _ = _; unfold tabR; rw [if_neg (fun h => hh h.1)]
    rw [show hasA I A [x] = false by simpa using hh] at HH
    clear hh
    go_wp2_with (go_at_call 23; refine HH.out.mono ?_; rintro e w1 ⟨rfl, hb1⟩; have HB1 := Lib.hid hb1; clear hb1)
    go_ret2
    exact ⟨_, by rw [HE.out]; rfl, by rw [HE.out]; exact ownB_nil _ _, HB0.out.trans (HB1.out.mono HB0.out.size)⟩
end Go.Proofs.YtfghjfljomcldaaGreat
