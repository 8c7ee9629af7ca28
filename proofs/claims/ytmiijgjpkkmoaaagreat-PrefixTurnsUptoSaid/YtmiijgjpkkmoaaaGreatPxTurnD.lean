/- The reference's Linear of a chain of rows. -/
import Derived.Test.YtmiijgjpkkmoaaaGreatMpU
namespace Go.Proofs.YtmiijgjpkkmoaaaGreat
open Go.RowKit Go.Shelf Go.Lib
set_option linter.unusedVariables false
set_option linter.unusedSimpArgs false

section
variable {B : Nat} {wz : World} {v0 : Value} {X Y : World} {uv ev sv v' : Value} {u e s l : List Int}
theorem LSt.freeU (h : LSt B wz v0 X uv ev sv u e s) (hg : X.grownBy Y uv.ownBlock) : Y.cell? ⟨wz.heap.size, 1, none⟩ = some uv ∧ Y.frozen? ⟨wz.heap.size, 1, none⟩ = false := by
  have hl := h.l1
  have b1 : Y.heap[wz.heap.size]? = some (.cells #[.bool false, uv] 53 (0, 0)) := ((Kept.of_grown hg).block _ (by omega) (own_type h.hu h.b1 (by decide))).trans h.b1
  exact ⟨heap_cell b1 rfl, heap_froz b1⟩
theorem LSt.freeE (h : LSt B wz v0 X uv ev sv u e s) (hg : X.grownBy Y ev.ownBlock) : Y.cell? ⟨wz.heap.size + 1, 1, none⟩ = some ev ∧ Y.frozen? ⟨wz.heap.size + 1, 1, none⟩ = false := by
  have hl := h.l1
  have b2 : Y.heap[wz.heap.size + 1]? = some (.cells #[.bool true, ev] 53 (0, 0)) := ((Kept.of_grown hg).block _ hl (own_type h.he h.b2 (by decide))).trans h.b2
  exact ⟨heap_cell b2 rfl, heap_froz b2⟩
theorem LSt.cells (h : LSt B wz v0 X uv ev sv u e s) : X.cell? ⟨wz.heap.size, 0, none⟩ = some (.bool false) ∧ X.cell? ⟨wz.heap.size, 1, none⟩ = some uv ∧ X.cell? ⟨wz.heap.size + 1, 0, none⟩ = some (.bool true) ∧ X.cell? ⟨wz.heap.size + 1, 1, none⟩ = some ev :=
  ⟨heap_cell h.b1 rfl, heap_cell h.b1 rfl, heap_cell h.b2 rfl, heap_cell h.b2 rfl⟩
theorem LSt.froz (h : LSt B wz v0 X uv ev sv u e s) : X.frozen? ⟨wz.heap.size, 1, none⟩ = false ∧ X.frozen? ⟨wz.heap.size + 1, 1, none⟩ = false := ⟨heap_froz h.b1, heap_froz h.b2⟩
end
theorem ints_one1 (w : World) (x : Int) (h1 : -9223372036854775808 ≤ x) (h2 : x ≤ 9223372036854775807) : IsInts (w.alloc (.cells #[.int .i64 x] 3)) (.slice (some ⟨w.heap.size, 0, none⟩) 1 1) [x] := ints_oneX w x h1 h2
theorem below_dr (w : World) (n B : Nat) : Below B w (w.drewN n) := Quiet.below ⟨n, rfl⟩ B
theorem rows_lt {W wz : World} {pv : Value} {t : List Trp} (hr : RowB W wz W.heap.size pv t) (hi : ∀ x ∈ t, Own wz W.heap.size x.2.1 x.2.2) : ∀ x ∈ t, ∀ g, x.2.1.ownBlock = some g → g < wz.heap.size := fun x hx g hg => ((hi x hx).lt g hg).2

set_option maxRecDepth 100000 in
set_option maxHeartbeats 12800000 in
theorem rlin_yes (vu ve vc : Value) (U : List Int) (E : List (Int × List Int)) (C : List (List Int)) (w : World) (HU : IsInts w vu U) (HE : IsDeps w ve E) (HC : IsRows w vc C) (hm : mayDB U E C = true) (hall : cmpAll E) (hd : U.length + E.length + totT E + (C.length + tot C) ≤ 4000000) :
    Calls Tryz.prog 11 #[.agg #[vu, ve, vc]] w fun e w' => ∃ a n c, e = .returned (.tuple #[.slice a n c, .int .i64 0]) ∧ IsBlocks w' (.slice a n c) (refLin U E) ∧ Below w.heap.size w w' := by
  have hok := (mayD_ok.1 hm).1
  have h64e : In64 (exOf E) := fun x hx => by
    have := hok.2.2.2.1 x (List.mem_append_right _ hx)
    omega
  obtain ⟨W, hW⟩ : ∃ W, w.alloc (.cells #[vu, ve, vc] 29) = W := ⟨_, rfl⟩
  have hb0 : Below w.heap.size w W := by rw [← hW]; exact (Below.refl w.heap.size w).alloc (Nat.le_refl _) _
  have hz : W.heap.size = w.heap.size + 1 := by rw [← hW]; simp
  have c0 : ∀ i v, (#[vu, ve, vc] : Array Value)[i]? = some v → W.cell? ⟨w.heap.size, i, none⟩ = some v := fun i v h => by rw [← hW]; exact cell_fresh h
  have HY : Hid (∀ X, Below W.heap.size W X → X.cell? ⟨w.heap.size, 0, none⟩ = some vu ∧ X.cell? ⟨w.heap.size, 1, none⟩ = some ve ∧ X.cell? ⟨w.heap.size, 2, none⟩ = some vc) := fun X hX =>
    ⟨(hX.cell (p := ⟨w.heap.size, 0, none⟩) (by simp; omega)).trans (c0 0 _ rfl), (hX.cell (p := ⟨w.heap.size, 1, none⟩) (by simp; omega)).trans (c0 1 _ rfl), (hX.cell (p := ⟨w.heap.size, 2, none⟩) (by simp; omega)).trans (c0 2 _ rfl)⟩
  have HB0 := Lib.hid hb0
  have HUP : Hid (∀ X, Below W.heap.size W X → IsInts X vu U ∧ IsDeps X ve E ∧ IsRows X vc C) := fun X hX => by
    have h := hb0.trans (hX.mono hb0.size)
    exact ⟨HU.below h (Nat.le_refl _), HE.below h (Nat.le_refl _), HC.below h (Nat.le_refl _)⟩
  have HRM : Hid (Calls Tryz.prog 17 #[.agg #[vu, ve, vc]] W fun e w' => e = .returned (.bool true) ∧ Below W.heap.size W w') := by
    have := rmayd_any vu ve vc U E C W (HUP.out W (Below.refl _ _)).1 (HUP.out W (Below.refl _ _)).2.1 (HUP.out W (Below.refl _ _)).2.2 (by omega) (by omega) h64e
    rw [hm] at this
    exact this
  have HEW := Lib.hid (HUP.out W (Below.refl _ _)).2.1
  obtain ⟨ua, uc, rfl⟩ := HU.shape
  obtain ⟨ea, ec, rfl, _⟩ := HE.shape
  obtain ⟨ra, rk, rfl, _⟩ := HC.shape
  obtain ⟨y0, y1, y2⟩ := HY.out W (Below.refl _ _)
  have HG := Lib.hid (rowsG_of hok)
  have hlens := hok.2.2.2.2
  rw [List.length_append, exOf_len] at hlens
  have HLN : Hid (U.length + E.length ≤ 1024) := hlens
  have HUG : Hid (good U) := fun v hv => hok.2.2.2.1 v (List.mem_append_left _ hv)
  have HMY := Lib.hid (ref_may hm hall)
  have HALL : Hid (∀ n k, n < E.length → k < n → partB (E.getD n dD).2 (E.getD k dD).2 = false → partB (E.getD k dD).2 (E.getD n dD).2 = false → False) := fun n k hn hk h1 h2 => by
    rcases hall n k hn hk with h | h
    · have : partB (E.getD n dD).2 (E.getD k dD).2 = true := by unfold partB; rw [decide_eq_true_eq]; exact fun v hv => memB_iff.2 (h v hv)
      rw [h1] at this; cases this
    · have : partB (E.getD k dD).2 (E.getD n dD).2 = true := by unfold partB; rw [decide_eq_true_eq]; exact fun v hv => memB_iff.2 (h v hv)
      rw [h2] at this; cases this
  have HPT : Hid (∀ X, Below W.heap.size W X → ∀ u1 u2 l1 l2, IsInts W u1 l1 → IsInts W u2 l2 → Calls Tryz.prog 19 #[u1, u2] X fun e w' => e = .returned (.bool (partB l1 l2)) ∧ X = w') := fun X hX u1 u2 l1 l2 h1 h2 => rpart_any u1 u2 l1 l2 X (h1.below hX (Nat.le_refl _)) (h2.below hX (Nat.le_refl _))
  clear c0 hb0 HU HE HC h64e hd hm hall hok hlens hz
  go_enter Tryz.func11, Tryz.ntmps11
  go_wp2_with (go_at_call 17; refine HRM.out.mono ?_; rintro e w1 ⟨rfl, hb1⟩)
  have HB1 := Lib.hid hb1
  clear HRM y0 y1 y2 hb1
  go_loopw [4] (fun i wr => ∃ n : Nat, n ≤ E.length ∧ i = .int .i64 n ∧ Below W.heap.size W wr) (fun i _ => E.length - (intOf i).toNat)
  case atStart => exact ⟨0, Nat.zero_le _, rfl, HB1.out⟩
  case round =>
    clear HB1
    obtain ⟨n, hn, rfl, hbr⟩ := hrel
    obtain ⟨q0, q1, q2⟩ := HY.out wr hbr
    by_cases hlt : n < E.length
    · have hn0 : (0 : Int) ≤ (n : Int) := by omega
      have hn1 : (n : Int) < (E.length : Int) := by omega
      have hn2 : (n : Int) < 4000001 := by have := HLN.out; omega
      have HNL := Lib.hid hlt
      have HBR := Lib.hid hbr
      clear hbr
      go_wp2
      clear q0 q1 q2
      generalize wr = wo at *
      go_loopw [5] (fun j wr => ∃ k : Nat, k ≤ n ∧ j = .int .i64 k ∧ Below W.heap.size W wr) (fun j _ => n - (intOf j).toNat)
      case atStart => exact ⟨0, Nat.zero_le _, rfl, HBR.out⟩
      case round =>
        clear HBR
        obtain ⟨k, hk, rfl, hbr⟩ := hrel
        obtain ⟨q0, q1, q2⟩ := HY.out wr hbr
        by_cases hkn : k < n
        · have hk0 : (0 : Int) ≤ (k : Int) := by omega
          have hk1 : (k : Int) < (E.length : Int) := by omega
          have hk2 : (k : Int) < (n : Int) := by omega
          obtain ⟨b, off, u1, hea, hb, _, hcu1, HI1⟩ := HEW.out.at hlt
          obtain ⟨b', off', u2, hea', _, _, hcu2, HI2⟩ := HEW.out.at (show k < E.length by omega)
          subst hea
          injection hea' with hea'
          injection hea' with e1 e2 _
          subst e1; subst e2
          have hd1 := (hbr.cell (p := ⟨b, off + n * 2 + 1, none⟩) hb).trans hcu1
          have hd2 := (hbr.cell (p := ⟨b, off + k * 2 + 1, none⟩) hb).trans hcu2
          obtain ⟨xa, xc, rfl⟩ := HI1.shape
          obtain ⟨ya, yc, rfl⟩ := HI2.shape
          have hP1 := fun m => HPT.out (wr.drewN m) (hbr.trans (below_dr _ m _)) _ _ _ _ HI1 HI2
          have hP2 := fun m => HPT.out (wr.drewN m) (hbr.trans (below_dr _ m _)) _ _ _ _ HI2 HI1
          have HNO := Lib.hid (HALL.out n k hlt hkn)
          have HBR := Lib.hid hbr
          have HKN := Lib.hid hkn
          clear hcu1 hcu2 HI1 HI2 hbr
          generalize partB (E.getD n dD).2 (E.getD k dD).2 = p1 at *
          generalize partB (E.getD k dD).2 (E.getD n dD).2 = p2 at *
          generalize (E.getD n dD).2.length = nx at *
          generalize (E.getD k dD).2.length = ny at *
          cases p1 with
          | true =>
            clear HNO
            go_wp2_with fail
            go_quiet ((go_at_call 19; with_reducible exact quiet_left (hP1 _)))
            go_wp2
            go_roundw
            case rel => exact ⟨k + 1, by have := HKN.out; omega, by go_num, HBR.out.trans (below_dr _ _ _)⟩
            case measure => have := HKN.out; simp [intOf]; omega
          | false =>
            cases p2 with
            | true =>
              clear HNO
              go_wp2_with fail
              go_quiet ((first | (go_at_call 19; with_reducible exact quiet_left (hP1 _)) | (go_at_call 19; with_reducible exact quiet_left (hP2 _))))
              go_wp2
              go_roundw
              case rel => exact ⟨k + 1, by have := HKN.out; omega, by go_num, HBR.out.trans (below_dr _ _ _)⟩
              case measure => have := HKN.out; simp [intOf]; omega
            | false => exact absurd (HNO.out rfl rfl) (fun h => h)
        · obtain rfl : k = n := by omega
          have HBR := Lib.hid hbr
          clear hbr
          go_wp2
          go_roundw
          case rel => exact ⟨k + 1, by have := HNL.out; omega, by go_num, HBR.out⟩
          case measure => have := HNL.out; simp [intOf]; omega
    · obtain rfl : n = E.length := by omega
      have HBR := Lib.hid hbr
      clear hbr hlt hn
      go_wp2
      clear q0 q1 q2 HALL HPT
      generalize wr = wo at *
      go_loopw [6, 7, 8] (fun p s i wr => ∃ (n : Nat) (t : List Trp), n ≤ U.length + 1 ∧ i = .int .i64 n ∧ RowB W wr W.heap.size p t ∧ shapeT t = (refP E n).1 ∧ Own wr W.heap.size s (refP E n).2 ∧ (∀ x ∈ t, Own wr W.heap.size x.2.1 x.2.2) ∧ (∀ x ∈ t, ∀ g, x.2.1.ownBlock = some g → s.ownBlock ≠ some g)) (fun _ _ i _ => U.length + 1 - (intOf i).toNat)
      case atStart => exact ⟨0, [], Nat.zero_le _, rfl, RowB.nil HBR.out (Nat.le_refl _), rfl, Own.nil _ _, (fun x hx => by cases hx), (fun x hx => by cases hx)⟩
      case round =>
        clear HBR
        obtain ⟨n, t, hn, rfl, hrow, hsh, hown, hti, hsep⟩ := hrel
        have hbr := hrow.below
        obtain ⟨oa, oc, rfl⟩ := hrow.shape
        obtain ⟨sa, sn, sc, rfl⟩ := own_shape3 hown
        have hpo := refP_ok HG.out n
        have htn : t.length = 2 * n := by rw [← shapeT_len t, hsh]; exact hpo.2.2
        have hsb : (refP E n).2.length ≤ 1100000000 := by
          have h1 := HLN.out
          have h2 := Nat.mul_le_mul (show n ≤ 1025 by omega) (Nat.mul_le_mul (show E.length ≤ 1024 by omega) (Nat.le_refl 1024))
          omega
        have HSG : Hid ((refP E n).2.length ≤ 1100000000 ∧ good (refP E n).2) := ⟨hsb, hpo.2.1⟩
        have HTN : Hid (t.length + 2 ≤ 4000) := by have := HLN.out; show _ ≤ _; omega
        obtain ⟨q0, q1, q2⟩ := HY.out wr hbr
        clear hpo hsb htn
        by_cases hlt : n < U.length + 1
        · have hn0 : (0 : Int) ≤ (n : Int) := by omega
          have hn1 : (n : Int) ≤ (U.length : Int) := by omega
          have hn2 : (n : Int) < 4000001 := by have := HLN.out; omega
          have HRS : Hid (refP E (n + 1) = ((refP E n).1 ++ [(false, (rowsOf n (refP E n).2 E).1.1), (true, (rowsOf n (refP E n).2 E).2)], (rowsOf n (refP E n).2 E).1.2)) := rfl
          have HNU := Lib.hid hlt
          generalize wr = wz at *
          have HROW := Lib.hid hrow
          have HSH := Lib.hid hsh
          have HOW := Lib.hid hown
          have HTI := Lib.hid hti
          have HSEP := Lib.hid hsep
          have HBZ := Lib.hid hbr
          have HL0 := Lib.hid (LSt.start hown)
          clear hrow hsh hown hti hsep hbr
          generalize (refP E n).2 = seen at *
          go_wp2
          clear q0 q1 q2
          generalize (wz.alloc (.cells #[.bool false, .slice none 0 0] 53)).alloc (.cells #[.bool true, .slice none 0 0] 53) = wy at *
          go_loopw [7, 11] (fun s i wr => ∃ (k : Nat) (uv ev : Value), k ≤ E.length ∧ i = .int .i64 k ∧ LSt W.heap.size wz (.slice sa sn sc) wr uv ev s (rowsUp n seen E k).1.1 (rowsUp n seen E k).2 (rowsUp n seen E k).1.2) (fun _ i _ => E.length - (intOf i).toNat)
          case atStart => exact ⟨0, _, _, Nat.zero_le _, rfl, HL0.out⟩
          case round =>
            clear HL0
            obtain ⟨k, uv, ev, hk, rfl, hls⟩ := hrel
            have hbw : Below W.heap.size W wr := HBZ.out.trans (hls.kept.below HBZ.out.size (fun i hi e2 => by have := (HOW.out.lt i e2).1; omega))
            obtain ⟨q0, q1, q2⟩ := HY.out wr hbw
            have hru := rowsUp_ok (n := n) HG.out HSG.out.2 k hk
            obtain ⟨va, vn, vk, rfl⟩ := own_shape3 hls.hu
            obtain ⟨xa, xn, xk, rfl⟩ := own_shape3 hls.he
            rename_i sv _
            obtain ⟨ta, tn, tk, rfl⟩ := own_shape3 hls.hs
            by_cases hlk : k < E.length
            · obtain ⟨b, off, yv, rfl, hb, hcx0, hcu0, HI0⟩ := HEW.out.at hlk
              have hcx := (hbw.cell (p := ⟨b, off + k * 2, none⟩) hb).trans hcx0
              have hcu := (hbw.cell (p := ⟨b, off + k * 2 + 1, none⟩) hb).trans hcu0
              have HYR : Hid (∀ X, Below W.heap.size W X → X.cell? ⟨b, off + k * 2, none⟩ = some (.int .i64 (E.getD k dD).1) ∧ X.cell? ⟨b, off + k * 2 + 1, none⟩ = some yv ∧ IsInts X yv (E.getD k dD).2) := fun X hX => ⟨(hX.cell (p := ⟨b, off + k * 2, none⟩) hb).trans hcx0, (hX.cell (p := ⟨b, off + k * 2 + 1, none⟩) hb).trans hcu0, HI0.below hX (Nat.le_refl _)⟩
              have HRN := Lib.hid (rowsUp_snoc n seen hlk)
              have hyr := HG.out (E.getD k dD) (getD_mem' hlk)
              obtain ⟨ya, yc, rfl⟩ := HI0.shape
              have hk0 : (0 : Int) ≤ (k : Int) := by omega
              have hk1 : (k : Int) < (E.length : Int) := by omega
              have hk2 : (k : Int) < 4000001 := by have := HLN.out; omega
              have HKL := Lib.hid hlk
              have HLS := Lib.hid hls
              have HBW := Lib.hid hbw
              have HRU : Hid ((rowsUp n seen E k).1.1.length ≤ 1048576 ∧ (rowsUp n seen E k).1.2.length ≤ 1101048576 ∧ (rowsUp n seen E k).2.length ≤ 1024 ∧ good (rowsUp n seen E k).1.1 ∧ good (rowsUp n seen E k).1.2 ∧ good (rowsUp n seen E k).2) := by
                have h1 := HLN.out
                have h2 := HSG.out.1
                have h3 : k * 1024 ≤ 1048576 := by omega
                exact ⟨by omega, by omega, by omega, hru.2.2.2⟩
              clear hcx0 hcu0 HI0 hls hbw hru
              generalize E.getD k dD = y at *
              obtain ⟨y1, O⟩ := y
              simp only at hcx hcu HYR HRN hyr
              generalize rowsUp n seen E k = st at *
              obtain ⟨⟨ul, sl⟩, el⟩ := st
              simp only at HLS HRU HRN
              have HYG := Lib.hid hyr
              have hy1 : -9223372036854775808 ≤ y1 := by have := hyr.2.2; omega
              have hy2 : y1 ≤ 9223372036854775807 := by have := hyr.2.2; omega
              clear hyr
              by_cases hOn : O.length = n
              · have hne : ((O.length : Int) != (n : Int)) = false := by simp [hOn]
                have HRN2 : Hid (rowsUp n seen E (k + 1) = (seeL (ul, sl) O, el ++ [y1])) := by show _ = _; rw [HRN.out]; unfold rowStep; rw [if_pos hOn]
                have HON := Lib.hid hOn
                clear HRN hOn
                have ha1 : Below wr.heap.size wr (wr.alloc (.cells #[.int .i64 y1] 3)).drew := ((Below.refl wr.heap.size wr).alloc (Nat.le_refl _) (.cells #[.int .i64 y1] 3)).drew
                have HLA := Lib.hid (HLS.out.below ha1)
                have HIA : Hid (IsInts (wr.alloc (.cells #[.int .i64 y1] 3)).drew (.slice (some ⟨wr.heap.size, 0, none⟩) 1 1) [y1]) := ints_oneX wr y1 hy1 hy2
                have HWA := Lib.hid (HBW.out.trans (ha1.mono HBW.out.size))
                obtain ⟨p0, p1, p2⟩ := HY.out _ HWA.out
                obtain ⟨p3, p4, _⟩ := HYR.out _ HWA.out
                obtain ⟨c0, c1, c2, c3⟩ := HLS.out.cells
                obtain ⟨f0, f1, f2, f3⟩ := HLA.out.cells
                have HLE : Hid (el.length + ([y1] : List Int).length ≤ 17592186044416) := by have := HRU.out.2.2.1; show _ ≤ _; simp; omega
                have HSX : Hid (wz.heap.size + 2 ≤ (wr.alloc (.cells #[.int .i64 y1] 3)).drew.heap.size) := HLA.out.l1
                clear ha1
                go_upto_region 22 with fail
                go_region_law (refine step_appI (some 94) rfl rfl (.tmp 86) (.tmp 93) rfl (wz.heap.size + 2) (.slice xa xn xk) (.slice (some ⟨wr.heap.size, 0, none⟩) 1 1) el [y1] rfl rfl HLA.out.he HIA.out (by simp) HLE.out HSX.out ?_; intro v7 w7 ho7 hg7 hv7; obtain ⟨a7, n7, c7, rfl⟩ := own_shape3 ho7; obtain ⟨d7, g7⟩ := HLA.out.freeE hg7; have HL7 := Lib.hid (HLA.out.appE ho7 hg7 hv7); clear ho7 hg7 hv7)
                all_goals
                  clear q0 q1 q2 hcx hcu p0 p1 p2 p3 p4 c0 c1 c2 c3 f0 f1 f2 f3
                  go_wp2
                  clear HLA HIA HWA HLE HSX d7 g7
                  generalize w7.setCell ⟨wz.heap.size + 1, 1, none⟩ (.slice a7 n7 c7) = w8 at *
                  clear HLS HBW
                  go_loopw [7, 12] (fun s j wr => ∃ (k2 : Nat) (uv : Value), k2 ≤ O.length ∧ j = .int .i64 k2 ∧ LSt W.heap.size wz (.slice sa sn sc) wr uv (.slice a7 n7 c7) s (seeL (ul, sl) (O.take k2)).1 (el ++ [y1]) (seeL (ul, sl) (O.take k2)).2) (fun _ j _ => O.length - (intOf j).toNat)
                  case atStart => exact ⟨0, _, Nat.zero_le _, rfl, by simpa [seeL] using HL7.out⟩
                  case round =>
                    clear HL7
                    obtain ⟨k2, uv, hk2, rfl, hls⟩ := hrel
                    have hbw : Below W.heap.size W wr := HBZ.out.trans (hls.kept.below HBZ.out.size (fun i hi e2 => by have := (HOW.out.lt i e2).1; omega))
                    obtain ⟨q0, q1, q2⟩ := HY.out wr hbw
                    obtain ⟨q3, q4, q5⟩ := HYR.out wr hbw
                    obtain ⟨va, vn, vk, rfl⟩ := own_shape3 hls.hu
                    obtain ⟨ta, tn, tk, rfl⟩ := own_shape3 hls.hs
                    have HLS := Lib.hid hls
                    have HBW := Lib.hid hbw
                    by_cases hl2 : k2 < O.length
                    · obtain ⟨ub, uo, rfl, hub, hux0⟩ := (HYR.out W (Below.refl _ _)).2.2.cellX hl2
                      have HXC : Hid (∀ X, Below W.heap.size W X → X.cell? ⟨ub, uo + k2, none⟩ = some (.int .i64 (O.getD k2 0))) := fun X hX => (hX.cell (p := ⟨ub, uo + k2, none⟩) hub).trans hux0
                      have hux := HXC.out wr hbw
                      have hxg := HYG.out.2.1 _ (getD_mem hl2)
                      have HTS : Hid (seeL (ul, sl) (O.take (k2 + 1)) = seeStep (seeL (ul, sl) (O.take k2)) (O.getD k2 0)) := by show _ = _; rw [take_sn hl2, seeL_snoc]
                      have HS2 : Hid ((seeL (ul, sl) (O.take k2)).1.length ≤ 1050000 ∧ (seeL (ul, sl) (O.take k2)).2.length ≤ 1102048576 ∧ good (seeL (ul, sl) (O.take k2)).1 ∧ good (seeL (ul, sl) (O.take k2)).2) := by
                        have h1 := see_len (O.take k2) (ul, sl)
                        have h2 := see_good (O.take k2) (ul, sl) (fun v hv => HYG.out.2.1 v (List.mem_of_mem_take hv)) HRU.out.2.2.2.1 HRU.out.2.2.2.2.1
                        have h3 := HRU.out
                        have h4 := HYG.out.1
                        rw [List.length_take] at h1
                        simp only at h1
                        exact ⟨by omega, by omega, h2⟩
                      have hx1 : -9223372036854775808 ≤ O.getD k2 0 := by omega
                      have hx2 : O.getD k2 0 ≤ 9223372036854775807 := by omega
                      have hj0 : (0 : Int) ≤ (k2 : Int) := by omega
                      have hj1 : (k2 : Int) < (n : Int) := by have := HON.out; omega
                      have hj2 : (k2 : Int) < (O.length : Int) := by omega
                      have hj3 : (k2 : Int) < 4000001 := by have := HYG.out.1; omega
                      have HKJ := Lib.hid hl2
                      clear hls hbw q5 hub hxg hux0
                      generalize O.getD k2 0 = x at *
                      generalize seeL (ul, sl) (O.take k2) = st at *
                      obtain ⟨u2, s2⟩ := st
                      simp only at HLS HS2 HTS
                      have HHS := Lib.hid (has3_any (.slice ta tn tk) s2 x wr (HLS.out.hs.ints (by have := HS2.out.2.1; omega) HS2.out.2.2.2.i64) hx1 hx2)
                      by_cases hx : x ∈ s2
                      · have hmb : memB s2 x = true := by unfold memB; simpa using hx
                        rw [hmb] at HHS
                        have HTN2 : Hid (seeL (ul, sl) (O.take (k2 + 1)) = (u2, s2)) := by show _ = _; rw [HTS.out]; unfold seeStep; rw [if_pos hx]
                        clear hmb hx HTS
                        go_wp2_with (go_at_call 45; refine HHS.out.mono ?_; rintro e w2 ⟨rfl, rfl⟩)
                        go_roundw
                        case rel => exact ⟨k2 + 1, _, by have := HKJ.out; omega, by go_num, by rw [HTN2.out]; exact HLS.out⟩
                        case measure => have := HKJ.out; simp [intOf]; omega
                      · have hmb : memB s2 x = false := by unfold memB; simpa using hx
                        rw [hmb] at HHS
                        have HTN2 : Hid (seeL (ul, sl) (O.take (k2 + 1)) = (u2 ++ [x], s2 ++ [x])) := by show _ = _; rw [HTS.out]; unfold seeStep; rw [if_neg hx]
                        clear hmb hx HTS
                        have ha1 : Below wr.heap.size wr (wr.alloc (.cells #[.int .i64 x] 3)).drew := ((Below.refl wr.heap.size wr).alloc (Nat.le_refl _) (.cells #[.int .i64 x] 3)).drew
                        have HLA := Lib.hid (HLS.out.below ha1)
                        have HIA : Hid (IsInts (wr.alloc (.cells #[.int .i64 x] 3)).drew (.slice (some ⟨wr.heap.size, 0, none⟩) 1 1) [x]) := ints_oneX wr x hx1 hx2
                        have HWA := Lib.hid (HBW.out.trans (ha1.mono HBW.out.size))
                        obtain ⟨p0, p1, p2⟩ := HY.out _ HWA.out
                        obtain ⟨p3, p4, _⟩ := HYR.out _ HWA.out
                        have p5 := HXC.out _ HWA.out
                        obtain ⟨c0, c1, c2, c3⟩ := HLS.out.cells
                        obtain ⟨f0, f1, f2, f3⟩ := HLA.out.cells
                        have HLE : Hid (u2.length + ([x] : List Int).length ≤ 17592186044416) := by have := HS2.out.1; show _ ≤ _; simp; omega
                        have HLE2 : Hid (s2.length + ([x] : List Int).length ≤ 17592186044416) := by have := HS2.out.2.1; show _ ≤ _; simp; omega
                        have HSX : Hid (wz.heap.size + 2 ≤ (wr.alloc (.cells #[.int .i64 x] 3)).drew.heap.size) := HLA.out.l1
                        have HAK := Lib.hid ha1
                        clear ha1
                        go_upto_region 27 with (go_at_call 45; refine HHS.out.mono ?_; rintro e w2 ⟨rfl, rfl⟩)
                        go_region_law (refine step_appI (some 125) rfl rfl (.tmp 114) (.tmp 124) rfl (wz.heap.size + 2) (.slice va vn vk) (.slice (some ⟨wr.heap.size, 0, none⟩) 1 1) u2 [x] rfl rfl HLA.out.hu HIA.out (by simp) HLE.out HSX.out ?_; intro v17 w17 ho17 hg17 hv17; obtain ⟨a17, n17, c17, rfl⟩ := own_shape3 ho17; obtain ⟨d17, g17⟩ := HLA.out.freeU hg17; have HL17 := Lib.hid (HLA.out.appU ho17 hg17 hv17); clear ho17 hg17 hv17)
                        all_goals
                          clear q0 q1 q2 q3 q4 hux p0 p1 p2 p3 p4 p5 c0 c1 c2 c3 f0 f1 f2 f3
                          have HW18 : Hid (Below W.heap.size W (w17.setCell ⟨wz.heap.size, 1, none⟩ (.slice a17 n17 c17))) := HBZ.out.trans (HL17.out.kept.below HBZ.out.size (fun i hi e2 => by have := (HOW.out.lt i e2).1; omega))
                          obtain ⟨r0, r1, r2⟩ := HY.out _ HW18.out
                          obtain ⟨r3, r4, _⟩ := HYR.out _ HW18.out
                          have r5 := HXC.out _ HW18.out
                          have ha2 : Below (w17.setCell ⟨wz.heap.size, 1, none⟩ (.slice a17 n17 c17)).heap.size (w17.setCell ⟨wz.heap.size, 1, none⟩ (.slice a17 n17 c17)) ((w17.setCell ⟨wz.heap.size, 1, none⟩ (.slice a17 n17 c17)).alloc (.cells #[.int .i64 x] 3)) := (Below.refl _ _).alloc (Nat.le_refl _) _
                          have HLB := Lib.hid (HL17.out.below ha2)
                          have hsz18 : (w17.setCell ⟨wz.heap.size, 1, none⟩ (.slice a17 n17 c17)).heap.size = w17.heap.size := by simp [World.setCell]
                          have HIB : Hid (IsInts ((w17.setCell ⟨wz.heap.size, 1, none⟩ (.slice a17 n17 c17)).alloc (.cells #[.int .i64 x] 3)) (.slice (some ⟨w17.heap.size, 0, none⟩) 1 1) [x]) := by
                            have h := ints_one1 (w17.setCell ⟨wz.heap.size, 1, none⟩ (.slice a17 n17 c17)) x hx1 hx2
                            rw [hsz18] at h
                            exact h
                          have HSY := Lib.hid (HW18.out.trans (ha2.mono HW18.out.size)).size
                          clear ha2 hsz18
                          go_wp2_with (at_builtin; go_loud (refine wpList_appO rfl (.tmp 127) (.tmp 137) rfl W.heap.size (.slice ta tn tk) (.slice (some ⟨w17.heap.size, 0, none⟩) 1 1) s2 [x] rfl rfl HLB.out.hs HIB.out (by simp) HLE2.out HSY.out ?_; intro v19 w19 ho19 hg19 hv19; have HL19 := Lib.hid (HLB.out.appS ho19 hg19 hv19); clear ho19 hg19 hv19))
                          go_roundw
                          case rel => exact ⟨k2 + 1, _, by have := HKJ.out; omega, by go_num, by rw [HTN2.out]; exact HL19.out⟩
                          case measure => have := HKJ.out; simp [intOf]; omega
                    · obtain rfl : k2 = O.length := by omega
                      have hj1 : ¬ ((O.length : Int) < (n : Int)) := by have := HON.out; omega
                      rw [List.take_length] at hls
                      have HLX := Lib.hid hls
                      clear hls hbw HLS
                      go_wp2
                      go_roundw
                      case rel => exact ⟨k + 1, _, _, by have := HKL.out; omega, by go_num, by rw [HRN2.out]; exact HLX.out⟩
                      case measure => have := HKL.out; simp [intOf]; omega
              · have hne : ((O.length : Int) != (n : Int)) = true := by simp; omega
                have HRN2 : Hid (rowsUp n seen E (k + 1) = ((ul, sl), el)) := by show _ = _; rw [HRN.out]; unfold rowStep; rw [if_neg hOn]
                clear HRN hOn
                go_wp2
                go_roundw
                case rel => exact ⟨k + 1, _, _, by have := HKL.out; omega, by go_num, by rw [HRN2.out]; exact HLS.out⟩
                case measure => have := HKL.out; simp [intOf]; omega
            · obtain rfl : k = E.length := by omega
              rw [rowsUp_all] at hls
              have HGA := Lib.hid (hls.rows HOW.out HROW.out HSEP.out)
              have HSA := Lib.hid (hls.sep HROW.out (rows_lt HROW.out HTI.out) HSEP.out)
              have HTJ : Hid (∀ x ∈ t, Own wr W.heap.size x.2.1 x.2.2) := fun x hx => hls.kept.row (HTI.out x hx) (fun g hg2 e2 => HSEP.out x hx g hg2 e2)
              have HLS := Lib.hid hls
              have HBW := Lib.hid hbw
              obtain ⟨c0, c1, c2, c3⟩ := hls.cells
              clear hls hru hbw HROW HTI HSEP
              generalize rowsOf n seen E = st at *
              obtain ⟨⟨ul, sl⟩, el⟩ := st
              simp only at HLS HSA HRS
              have ha1 : Below wr.heap.size wr (wr.alloc (.cells #[.bool false, .slice va vn vk, .bool true, .slice xa xn xk] 53)) := (Below.refl _ _).alloc (Nat.le_refl _) _
              have HA1 := Lib.hid ha1
              have HR3 := Lib.hid (HGA.out.below' ha1 (Nat.le_refl _)).row
              have HC3 : Hid (∀ j y, (cellsT [(false, .slice va vn vk, ul), (true, .slice xa xn xk, el)])[j]? = some y → (wr.alloc (.cells #[.bool false, .slice va vn vk, .bool true, .slice xa xn xk] 53)).cell? (Addr.add ⟨wr.heap.size, 0, none⟩ j) = some y) := fun j y hj => cell_add (w := wr) hj
              have HO3 : Hid (∀ u ∈ cellsT [(false, .slice va vn vk, ul), (true, .slice xa xn xk, el)], u.oneCell' = true) := by
                intro u hu
                simp [cellsT] at hu
                rcases hu with rfl | rfl | rfl | rfl <;> rfl
              have HZ3 : Hid (W.heap.size ≤ (wr.alloc (.cells #[.bool false, .slice va vn vk, .bool true, .slice xa xn xk] 53)).heap.size) := (HBW.out.trans (ha1.mono HBW.out.size)).size
              have HT3 : Hid (t.length + [(false, Value.slice va vn vk, ul), (true, Value.slice xa xn xk, el)].length ≤ 1000000) := by have := HTN.out; show _ ≤ _; simp; omega
              clear ha1
              go_wp2_with (at_builtin; go_loud (refine wpList_appBx rfl (.tmp 139) (.tmp 142) rfl W.heap.size (.slice oa t.length oc) t [(false, .slice va vn vk, ul), (true, .slice xa xn xk, el)] wr.heap.size 2 rfl rfl HR3.out HC3.out HO3.out HT3.out HZ3.out ?_; intro v4 w4 hrow4 hg4))
              have hRW4 := RowB.more HGA.out HBW.out.size HA1.out (fun x hx => by
                simp only [List.mem_cons, List.not_mem_nil, or_false] at hx
                rcases hx with rfl | rfl
                · exact .inl ((HLS.out.hu.below HA1.out (Nat.le_refl _)).mono (by have := HBZ.out.size; omega))
                · exact .inl ((HLS.out.he.below HA1.out (Nat.le_refl _)).mono (by have := HBZ.out.size; omega))) hrow4 hg4
              have hneB : ∀ (u : Value) (l : List Int), Own (wr.alloc (.cells #[.bool false, .slice va vn vk, .bool true, .slice xa xn xk] 53)) W.heap.size u l → Own w4 W.heap.size u l := fun u l h => h.kept hg4 (by
                cases hk : u.ownBlock with
                | none => exact .inl rfl
                | some g => exact .inr (fun e => rowB_ne HR3.out h g hk e.symm))
              have HS4 := Lib.hid (hneB _ _ (HLS.out.hs.below HA1.out (Nat.le_refl _)))
              have HTK : Hid (∀ x ∈ t ++ [(false, Value.slice va vn vk, ul), (true, Value.slice xa xn xk, el)], Own w4 W.heap.size x.2.1 x.2.2) := fun x hx => by
                rcases List.mem_append.1 hx with hx | hx
                · exact hneB _ _ ((HTJ.out x hx).below HA1.out (Nat.le_refl _))
                · simp only [List.mem_cons, List.not_mem_nil, or_false] at hx
                  rcases hx with rfl | rfl
                  · exact hneB _ _ ((HLS.out.hu.below HA1.out (Nat.le_refl _)).mono (by have := HBZ.out.size; omega))
                  · exact hneB _ _ ((HLS.out.he.below HA1.out (Nat.le_refl _)).mono (by have := HBZ.out.size; omega))
              have HRW4 := Lib.hid hRW4
              have HSH4 : Hid (shapeT (t ++ [(false, Value.slice va vn vk, ul), (true, Value.slice xa xn xk, el)]) = (refP E (n + 1)).1) := by show _ = _; rw [shapeT_app, HSH.out, HRS.out]; rfl
              have HSN4 : Hid ((refP E (n + 1)).2 = sl) := by show _ = _; rw [HRS.out]
              clear hRW4 hneB hrow4 hg4
              go_roundw
              case rel => exact ⟨n + 1, _, by have := HNU.out; omega, by go_num, HRW4.out, HSH4.out, by rw [HSN4.out]; exact HS4.out, HTK.out, HSA.out⟩
              case measure => have := HNU.out; simp [intOf]; omega
        · have hN : U.length + 1 = n := by omega
          have hn0 : (0 : Int) ≤ (n : Int) := by omega
          have hn1 : ¬ ((n : Int) ≤ (U.length : Int)) := by omega
          have HNE := Lib.hid hN
          generalize wr = wz at *
          have HROW := Lib.hid hrow
          have HSH := Lib.hid hsh
          have HOW := Lib.hid hown
          have HBZ := Lib.hid hbr
          clear hrow hsh hown hti hsep hbr hlt hn hN
          have HBX0 : Hid ((wz.alloc (.cells #[.bool false, .slice none 0 0] 53)).heap[wz.heap.size]? = some (.cells #[.bool false, .slice none 0 0] 53 (0, 0)) ∧ Below wz.heap.size wz (wz.alloc (.cells #[.bool false, .slice none 0 0] 53))) := ⟨World.alloc_heap_new wz _, (Below.refl _ _).alloc (Nat.le_refl _) _⟩
          obtain ⟨seen, hse⟩ : ∃ l, (refP E n).2 = l := ⟨_, rfl⟩
          rw [hse] at HSG HOW
          have HFQ : Hid ((flatB ((refP E n).1 ++ [(false, withoutI U seen)])).length ≤ 1024 ∧ In64 (flatB ((refP E n).1 ++ [(false, withoutI U seen)])) ∧ refLin U E = joinL ((refP E n).1 ++ [(false, withoutI U seen)])) := by
            have h1 := ref_flat (U := U) (E := E)
            rw [HNE.out, hse] at h1
            have h2 := alt_may HMY.out
            rw [← h1]
            refine ⟨h2.2.2.2, fun v hv => by have := h2.2.2.1 v hv; omega, ?_⟩
            unfold refLin
            rw [HNE.out, hse]
          have HPL : Hid ((refP E n).1.length ≤ 3000) := by have h1 := (refP_ok HG.out n).2.2; have h2 := HNE.out; have h3 := HLN.out; show _ ≤ _; omega
          clear hse
          have hwz := HBZ.out.size
          go_wp2
          clear q0 q1 q2
          go_loopw [14] (fun j wr => ∃ (k2 : Nat) (v : Value), k2 ≤ U.length ∧ j = .int .i64 k2 ∧ wr.heap[wz.heap.size]? = some (.cells #[.bool false, v] 53 (0, 0)) ∧ Own wr (wz.heap.size + 1) v (withoutI (U.take k2) seen) ∧ Below wz.heap.size wz wr) (fun j _ => U.length - (intOf j).toNat)
          case atStart => exact ⟨0, .slice none 0 0, Nat.zero_le _, rfl, HBX0.out.1, by simpa [withoutI] using Own.nil _ _, HBX0.out.2⟩
          case round =>
            clear HBX0
            obtain ⟨k2, v, hk2, rfl, hbox, hown, hbel⟩ := hrel
            obtain ⟨va, vn, vk, rfl⟩ := own_shape3 hown
            obtain ⟨F, hF⟩ : ∃ F, withoutI (U.take k2) seen = F := ⟨_, rfl⟩
            rw [hF] at hown
            have hszi := hbel.size
            have HB2 : Hid (Below W.heap.size W wr) := HBZ.out.trans (hbel.mono hwz)
            obtain ⟨q0, q1, q2⟩ := HY.out wr HB2.out
            have HBX := Lib.hid hbox
            have HOV := Lib.hid hown
            have HBL := Lib.hid hbel
            have HF := Lib.hid hF
            have hFl : F.length ≤ 1024 := by
              have h1 := HLN.out
              rw [← hF]
              exact Nat.le_trans (List.length_filter_le _ _) (by rw [List.length_take]; omega)
            have c1 := heap_cell hbox (i := 1) rfl
            have c0 := heap_cell hbox (i := 0) rfl
            have f1 : wr.frozen? ⟨wz.heap.size, 1, none⟩ = false := heap_froz hbox
            have hhl : wz.heap.size < wr.heap.size := (Array.getElem?_eq_some_iff.1 hbox).1
            clear hbox hown hbel hF
            by_cases hlt2 : k2 < U.length
            · obtain ⟨ub, uo, rfl, hub, hux0⟩ := (HUP.out W (Below.refl _ _)).1.cellX hlt2
              have HXC : Hid (∀ X, Below W.heap.size W X → X.cell? ⟨ub, uo + k2, none⟩ = some (.int .i64 (U.getD k2 0))) := fun X hX => (hX.cell (p := ⟨ub, uo + k2, none⟩) hub).trans hux0
              have hux := HXC.out wr HB2.out
              have hxg := HUG.out _ (getD_mem hlt2)
              have hx1 : -9223372036854775808 ≤ U.getD k2 0 := by omega
              have hx2 : U.getD k2 0 ≤ 9223372036854775807 := by omega
              have HFT : Hid (withoutI (U.take (k2 + 1)) seen = F ++ (if (!decide (U.getD k2 0 ∈ seen)) = true then [U.getD k2 0] else [])) := by
                show _ = _
                rw [← HF.out]
                unfold withoutI
                rw [filter_take hlt2]
              have j0 : (0 : Int) ≤ (k2 : Int) := by omega
              have j1 : (k2 : Int) < (U.length : Int) := by omega
              have j2 : (k2 : Int) < 4000001 := by have := HLN.out; omega
              have HKJ := Lib.hid hlt2
              clear hxg hux0 hub
              generalize U.getD k2 0 = x at *
              have HHS := Lib.hid (has3_any (.slice sa sn sc) seen x wr ((HOW.out.below HBL.out (Nat.le_refl _)).ints (by have := HSG.out.1; omega) HSG.out.2.i64) hx1 hx2)
              by_cases hx : x ∈ seen
              · have hmb : memB seen x = true := by unfold memB; simpa using hx
                rw [hmb] at HHS
                have HFN : Hid (withoutI (U.take (k2 + 1)) seen = F) := by show _ = _; rw [HFT.out, if_neg (by simp [hx])]; simp
                clear hmb hx HFT
                go_wp2_with (go_at_call 45; refine HHS.out.mono ?_; rintro e w2 ⟨rfl, rfl⟩)
                go_roundw
                case rel => exact ⟨k2 + 1, _, by have := HKJ.out; omega, by go_num, HBX.out, by rw [HFN.out]; exact HOV.out, HBL.out⟩
                case measure => have := HKJ.out; simp [intOf]; omega
              · have hmb : memB seen x = false := by unfold memB; simpa using hx
                rw [hmb] at HHS
                have HFN : Hid (withoutI (U.take (k2 + 1)) seen = F ++ [x]) := by show _ = _; rw [HFT.out, if_pos (by simp [hx])]
                clear hmb hx HFT
                have ha1 : Below wr.heap.size wr (wr.alloc (.cells #[.int .i64 x] 3)).drew := ((Below.refl wr.heap.size wr).alloc (Nat.le_refl _) (.cells #[.int .i64 x] 3)).drew
                have HIA : Hid (IsInts (wr.alloc (.cells #[.int .i64 x] 3)).drew (.slice (some ⟨wr.heap.size, 0, none⟩) 1 1) [x]) := ints_oneX wr x hx1 hx2
                have HOA : Hid (Own (wr.alloc (.cells #[.int .i64 x] 3)).drew (wz.heap.size + 1) (.slice va vn vk) F) := HOV.out.alloc _
                have e1 := (ha1.cell (p := ⟨wz.heap.size, 1, none⟩) hhl).trans c1
                have HBA : Hid ((wr.alloc (.cells #[.int .i64 x] 3)).drew.heap[wz.heap.size]? = some (.cells #[.bool false, .slice va vn vk] 53 (0, 0))) := (ha1.block _ hhl).trans HBX.out
                have HBW : Hid (Below wz.heap.size wz (wr.alloc (.cells #[.int .i64 x] 3)).drew) := HBL.out.trans (ha1.mono hszi)
                have HWA := Lib.hid (HB2.out.trans (ha1.mono HB2.out.size))
                obtain ⟨p0, p1, p2⟩ := HY.out _ HWA.out
                have p5 := HXC.out _ HWA.out
                have hszx : wz.heap.size + 1 ≤ (wr.alloc (.cells #[.int .i64 x] 3)).drew.heap.size := Nat.le_trans hhl ha1.size
                have hlen : F.length + ([x] : List Int).length ≤ 17592186044416 := by simp; omega
                obtain ⟨T, hT⟩ : ∃ T, F ++ [x] = T := ⟨_, rfl⟩
                rw [hT] at HFN
                have HTT := Lib.hid hT
                clear hT
                have HLE := Lib.hid hlen
                have HSX := Lib.hid hszx
                clear ha1 hhl hlen hszx
                go_upto_region 35 with (go_at_call 45; refine HHS.out.mono ?_; rintro e w2 ⟨rfl, rfl⟩)
                go_region_law (refine step_appI (some 168) rfl rfl (.tmp 161) (.tmp 167) rfl (wz.heap.size + 1) (.slice va vn vk) (.slice (some ⟨wr.heap.size, 0, none⟩) 1 1) F [x] rfl rfl HOA.out HIA.out (by simp) HLE.out HSX.out ?_; intro v7 w7 ho7 hg7 _; rw [HTT.out] at ho7; obtain ⟨a7, n7, c7, rfl⟩ := own_shape3 ho7; have hne : (Value.slice va vn vk).ownBlock ≠ some wz.heap.size := fun e => by { have := (HOA.out.lt _ e).1; omega }; have HX7 := Lib.hid ((hg7.block wz.heap.size HSX.out (fun e => hne e.symm)).trans HBA.out); have d7 := heap_cell HX7.out (i := 1) rfl; have g7 : w7.frozen? ⟨wz.heap.size, 1, none⟩ = false := heap_froz HX7.out; have HB7 := Lib.hid (HBW.out.grown hg7 HBW.out.size (fun j hj => Nat.le_of_succ_le (HOA.out.lt j hj).1)); have HO7 := Lib.hid ho7; clear ho7 hg7 hne)
                all_goals
                  have HX8 := Lib.hid (heap_set1 (c := .slice a7 n7 c7) HX7.out)
                  have HO8 : Hid (Own (w7.setCell ⟨wz.heap.size, 1, none⟩ (.slice a7 n7 c7)) (wz.heap.size + 1) (.slice a7 n7 c7) T) := (Kept.setCell w7 ⟨wz.heap.size, 1, none⟩ _).row HO7.out (fun g hg e => by have := (HO7.out.lt g hg).1; simp only at e; omega)
                  have HB8 := Lib.hid (HB7.out.setCell (p := ⟨wz.heap.size, 1, none⟩) (Nat.le_refl _) (.slice a7 n7 c7))
                  go_wp2
                  go_roundw
                  case rel => exact ⟨k2 + 1, _, by have := HKJ.out; omega, by go_num, HX8.out, by rw [HFN.out]; exact HO8.out, HB8.out⟩
                  case measure => have := HKJ.out; simp [intOf]; omega
            · obtain rfl : k2 = U.length := by omega
              have HFY : Hid (withoutI U seen = F) := by show _ = _; rw [← HF.out, List.take_length]
              have HR3 : Hid ((wr.alloc (.cells #[.bool false, .slice va vn vk] 53)).ownsRow W.heap.size 53 2 (.slice oa t.length oc) t.length (cellsT t)) := (HROW.out.below' (HBL.out.alloc hszi _) (Nat.le_refl _)).row
              have HW3 : Hid (W.heap.size ≤ (wr.alloc (.cells #[.bool false, .slice va vn vk] 53)).heap.size) := by show _ ≤ _; simp; omega
              have HTB : Hid (t.length < 1000000) := by have := HTN.out; show _ < _; omega
              have HDN : Hid (∀ v4 w4, w4.ownsRow W.heap.size 53 2 v4 (t ++ [(false, Value.slice va vn vk, F)]).length (cellsT (t ++ [(false, Value.slice va vn vk, F)])) → (wr.alloc (.cells #[.bool false, .slice va vn vk] 53)).grownBy w4 (Value.slice oa t.length oc).ownBlock →
                  Calls Tryz.prog 46 #[v4] w4 fun e w' => ∃ a n c, e = .returned (.slice a n c) ∧ IsBlocks w' (.slice a n c) (refLin U E) ∧ Below W.heap.size W w') := fun v4 w4 hrow4 hg4 => by
                have hRW := RowB.more (s := [(false, .slice va vn vk, F)]) HROW.out hwz (HBL.out.alloc hszi (.cells #[.bool false, .slice va vn vk] 53)) (fun x hx => by
                  rw [List.mem_singleton] at hx
                  subst hx
                  exact .inl ((HOV.out.mono (Nat.le_succ_of_le hwz)).alloc _)) hrow4 hg4
                have hs4 : shapeT (t ++ [(false, Value.slice va vn vk, F)]) = (refP E n).1 ++ [(false, withoutI U seen)] := by rw [shapeT_app, HSH.out, HFY.out]; rfl
                have hq := HFQ.out
                have hbl := rows_blocks hRW hs4 (by have := HPL.out; rw [List.length_append]; simp; omega) (fun b hb => ⟨by have := len_flatB hb; omega, fun z hz => hq.2.1 z (mem_flatB hb hz)⟩)
                refine (rjoined_any v4 _ w4 hbl (by omega) hq.2.1).mono ?_
                rintro e w5 ⟨v5, t5, rfl, hr5, hs5⟩
                have h6 := joined_blocks hr5 hs5 (by omega) hq.2.1
                obtain ⟨a5, c5, rfl⟩ := hr5.shape
                exact ⟨_, _, _, rfl, by rw [hq.2.2]; exact h6, hRW.below.trans (hr5.below.mono hRW.below.size)⟩
              clear HROW HSH HFQ HPL
              go_wp2_with (first
                | (at_builtin; refine wpList_appBlk rfl (.tmp 170) (.tmp 172) rfl W.heap.size (.slice oa t.length oc) (.slice va vn vk) t false F wr.heap.size rfl rfl HR3.out (cell_fresh rfl) (cell_fresh rfl) rfl HTB.out HW3.out ?_; intro v4 w4 hrow4 hg4; have HDJ := Lib.hid (HDN.out v4 w4 hrow4 hg4); clear hrow4 hg4)
                | (go_at_call 46; refine HDJ.out.mono ?_; rintro e w5 ⟨a5, n5, c5, rfl, hb5, hbw5⟩))
              go_ret2
              exact ⟨_, _, _, rfl, hb5, HB0.out.trans (hbw5.mono HB0.out.size)⟩
end Go.Proofs.YtmiijgjpkkmoaaaGreat
