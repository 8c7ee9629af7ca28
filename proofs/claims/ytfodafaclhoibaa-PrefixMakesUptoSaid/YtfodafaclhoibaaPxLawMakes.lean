/- The law PrefixMakes, walked. -/
import Derived.Test.YtfodafaclhoibaaPxHeadB
import Derived.Test.YtfodafaclhoibaaPxLawReds
import Derived.Test.YtfodafaclhoibaaPxMakeC
namespace Go.Proofs.Ytfodafaclhoibaa
open Go.RowKit
set_option linter.unusedVariables false
set_option linter.unusedSimpArgs false

abbrev dTrp : Trp := (false, .slice none 0 0, [])
theorem own_head {w : World} {B : Nat} {v : Value} {l : List Int} (h : Own w B v l) (hl : l ≠ []) : ∃ g c u, v = .slice (some ⟨g, 0, none⟩) l.length c ∧ B ≤ g ∧ g < w.heap.size ∧ w.cell? ⟨g, 0, none⟩ = some u ∧ w.frozen? ⟨g, 0, none⟩ = false := by
  have h0 : w.ownsRow B 3 1 v l.length (l.map (Value.int .i64)) := h
  rcases h.2 with ⟨rfl, h2⟩ | ⟨g, cap, cur, rfl, hB, hg, hnc, hcm, _, _⟩
  · exact absurd (List.eq_nil_of_length_eq_zero h2) hl
  · have hlt : g < w.heap.size := (Array.getElem?_eq_some_iff.1 hg).1
    have hc := World.ownsRow.cellAt h0 0 (by have := List.length_pos_iff.2 hl; omega)
    refine ⟨g, cap, _, rfl, hB, hlt, hc.trans (List.getElem?_eq_getElem (by have := List.length_pos_iff.2 hl; simpa using this)), by simp [World.frozen?, hg]⟩
theorem own_set {w : World} {B g n c : Nat} {u : Value} {xs ys : List Int} {y : Int} (ho : Own w B u xs) (h : Own w B (.slice (some ⟨g, 0, none⟩) n c) ys) : ∃ zs, Own (w.setCell ⟨g, 0, none⟩ (.int .i64 y)) B u zs := by
  by_cases e : u.ownBlock = some g
  · rcases ho.2 with ⟨rfl, _⟩ | ⟨g1, cap, cur, rfl, _⟩
    · cases e
    · have : g1 = g := by simpa [Value.ownBlock] using e
      subst this
      exact ⟨_, ho.store 0 y⟩
  · exact ⟨xs, (Kept.setCell w ⟨g, 0, none⟩ _).row ho (fun k hk e2 => e (by rw [hk]; exact congrArg some e2))⟩
theorem own_len {w w' : World} {B B' : Nat} {v : Value} {xs ys : List Int} (h : Own w B v xs) (k : Own w' B' v ys) : xs.length = ys.length := by
  obtain ⟨a, c, e⟩ := own_shapeX h
  obtain ⟨a', c', e'⟩ := own_shapeX k
  rw [e] at e'
  injection e'

theorem makes_mid {w2 w3 w4 w5 w6 w7 w8 Y : World} {t : List Trp} {q1 q2 q3 : List Blk} {c3 : List (List Int)} {v3 v4 v5 v6 v7 v7' v8 v8' : Value}
    (hb3 : Below w2.heap.size w2 w3) (hb4 : Below w3.heap.size w3 w4) (hb5 : Below w4.heap.size w4 w5) (hb6 : Below w5.heap.size w5 w6) (hb7 : Below w6.heap.size w6 w7)
    (hb8 : Below (w7.alloc (.cells #[v7, v7'] 25)).heap.size (w7.alloc (.cells #[v7, v7'] 25)) w8) (hY : w8.alloc (.cells #[v8, v8'] 25) = Y)
    (hst : JoinSt w3 w2.heap.size v3 t) (hsh : shapeT t = q1) (hsm : Small q1) (h4 : IsBlocks w4 v4 q1) (h5 : IsBlocks w5 v5 q2) (h6 : IsBlocks w6 v6 q2)
    (h7 : IsBlocks w7 v7 q3) (r7 : IsRows w7 v7' c3) (h8 : IsBlocks w8 v8 q3) (r8 : IsRows w8 v8' c3) :
    Below w3.heap.size w3 Y ∧
    Hid (Calls Try.prog 26 #[v3, v4] Y fun e w' => e = .returned (.bool true) ∧ Below Y.heap.size Y w') ∧
    Hid (∀ X, Below Y.heap.size Y X → Calls Try.prog 26 #[v5, v6] X fun e w' => e = .returned (.bool true) ∧ Below X.heap.size X w') ∧
    Hid (∀ X, Below Y.heap.size Y X → Calls Try.prog 36 #[.agg #[v7, v7'], .agg #[v8, v8']] X fun e w' => e = .returned (.bool true) ∧ Below X.heap.size X w') ∧
    Hid (∀ X, Below Y.heap.size Y X → X.cell? ⟨w7.heap.size, 0, none⟩ = some v7 ∧ X.cell? ⟨w7.heap.size, 1, none⟩ = some v7' ∧ X.cell? ⟨w8.heap.size, 0, none⟩ = some v8 ∧ X.cell? ⟨w8.heap.size, 1, none⟩ = some v8') := by
  have hA7 : Below w7.heap.size w7 (w7.alloc (.cells #[v7, v7'] 25)) := (Below.refl _ _).alloc (Nat.le_refl _) _
  have T8 : Below w8.heap.size w8 Y := by rw [← hY]; exact (Below.refl _ _).alloc (Nat.le_refl _) _
  have TX := hb8.trans (T8.mono hb8.size)
  have T7 := hA7.trans (TX.mono hA7.size)
  have T6 := hb7.trans (T7.mono hb7.size)
  have T5 := hb6.trans (T6.mono hb6.size)
  have T4 := hb5.trans (T5.mono hb5.size)
  have T3 := hb4.trans (T4.mono hb4.size)
  have e7 : ∀ i v, (#[v7, v7'] : Array Value)[i]? = some v → Y.cell? ⟨w7.heap.size, i, none⟩ = some v := fun i v h => (TX.cell (p := ⟨w7.heap.size, i, none⟩) (by simp)).trans (cell_fresh h)
  have e8 : ∀ i v, (#[v8, v8'] : Array Value)[i]? = some v → Y.cell? ⟨w8.heap.size, i, none⟩ = some v := fun i v h => by rw [← hY]; exact cell_fresh h
  have s8 : w8.heap.size < Y.heap.size := by rw [← hY]; simp
  have s7 : w7.heap.size < Y.heap.size := by have := hb8.size; simp at this; omega
  refine ⟨T3, same_yes _ _ q1 Y ((hst.blk hsh hsm).below T3 (Nat.le_refl _)) (h4.below T4 (Nat.le_refl _)), fun X hX => same_yes _ _ q2 X ((h5.below T5 (Nat.le_refl _)).below hX (Nat.le_refl _)) ((h6.below T6 (Nat.le_refl _)).below hX (Nat.le_refl _)),
    fun X hX => rsameq_yes _ _ _ _ q3 c3 X ((h7.below T7 (Nat.le_refl _)).below hX (Nat.le_refl _)) ((r7.below T7 (Nat.le_refl _)).below hX (Nat.le_refl _)) ((h8.below T8 (Nat.le_refl _)).below hX (Nat.le_refl _)) ((r8.below T8 (Nat.le_refl _)).below hX (Nat.le_refl _)),
    fun X hX => ⟨(hX.cell (p := ⟨w7.heap.size, 0, none⟩) s7).trans (e7 0 _ rfl), (hX.cell (p := ⟨w7.heap.size, 1, none⟩) s7).trans (e7 1 _ rfl), (hX.cell (p := ⟨w8.heap.size, 0, none⟩) s8).trans (e8 0 _ rfl), (hX.cell (p := ⟨w8.heap.size, 1, none⟩) s8).trans (e8 1 _ rfl)⟩⟩

def MakeInv (w : World) (B : Nat) (a : Option Addr) (t : List Trp) : Prop := (∀ j, j < t.length → ∃ l, Own w B (t.getD j dTrp).2.1 l ∧ l ≠ []) ∧ (∀ g, a = some ⟨g, 0, none⟩ → ∀ j, j < t.length → w.cell? ⟨g, j * 2 + 1, none⟩ = some (t.getD j dTrp).2.1)
theorem MakeInv.start {w : World} {B n k : Nat} {a : Option Addr} {t : List Trp} (h : JoinSt w B (.slice a n k) t) : MakeInv w B a t := by
  refine ⟨fun j hj => ?_, fun g hg j hj => ?_⟩
  · have hm : t.getD j dTrp ∈ t := by simp [List.getD, hj]
    exact ⟨_, h.owns _ hm, h.full _ hm⟩
  · obtain ⟨g', cap, e, _, _, _, h2, _⟩ := h.at hj
    injection e with e _ _
    rw [hg] at e
    injection e with e
    injection e with e
    subst e
    exact h2
theorem MakeInv.step {w : World} {B g k : Nat} {a : Option Addr} {t : List Trp} (h : MakeInv w B a t) (ha : a = some ⟨g, 0, none⟩) (hk : k < t.length) :
    ∃ gx n c u, w.cell? ⟨g, k * 2 + 1, none⟩ = some (.slice (some ⟨gx, 0, none⟩) n c) ∧ 0 < n ∧ B ≤ gx ∧ w.cell? ⟨gx, 0, none⟩ = some u ∧ w.frozen? ⟨gx, 0, none⟩ = false ∧ MakeInv (w.setCell ⟨gx, 0, none⟩ (.int .i64 (-7))) B a t := by
  obtain ⟨l, ho, hl⟩ := h.1 k hk
  obtain ⟨gx, c, u, e, hB, _, hc, hf⟩ := own_head ho hl
  refine ⟨gx, l.length, c, u, by rw [← e]; exact h.2 g ha k hk, List.length_pos_iff.2 hl, hB, hc, hf, fun j hj => ?_, fun g2 hg2 j hj => ?_⟩
  · obtain ⟨l2, ho2, hl2⟩ := h.1 j hj
    rw [e] at ho
    obtain ⟨zs, hz⟩ := own_set (y := -7) ho2 ho
    refine ⟨zs, hz, fun e2 => hl2 ?_⟩
    have := own_len ho2 hz
    rw [e2] at this
    exact List.eq_nil_of_length_eq_zero this
  · rw [World.cell?_setCell_other _ _ _ _ (by simp)]
    exact h.2 g2 hg2 j hj

set_option maxRecDepth 100000 in
set_option maxHeartbeats 6400000 in
theorem makes_any (vp vl qp qc : Value) (p : List Blk) (vars : List Int) (P : List Blk) (C2 : List (List Int)) (w : World)
    (HP : IsBlocks w vp p) (HL : IsInts w vl vars) (HQ : IsBlocks w qp P) (HC : IsRows w qc C2)
    (hp : p.length + totT p ≤ 4000000) (hv : vars.length ≤ 4000000) (hq : P.length + totT P + (C2.length + tot C2) ≤ 4000000) :
    Calls Try.prog 5 #[vp, vl, .agg #[qp, qc]] w fun e w' => e = .returned (.bool true) ∧ Below w.heap.size w w' := by
  obtain ⟨W, hW⟩ : ∃ W, w.alloc (.cells #[qp, qc] 25) = W := ⟨_, rfl⟩
  have hb0 : Below w.heap.size w W := by rw [← hW]; exact (Below.refl w.heap.size w).alloc (Nat.le_refl _) _
  have hz : W.heap.size = w.heap.size + 1 := by rw [← hW]; simp
  have c0 : ∀ i v, (#[qp, qc] : Array Value)[i]? = some v → W.cell? ⟨w.heap.size, i, none⟩ = some v := fun i v h => by rw [← hW]; exact cell_fresh h
  have HY : Hid (∀ X, Below W.heap.size W X → X.cell? ⟨w.heap.size, 0, none⟩ = some qp ∧ X.cell? ⟨w.heap.size, 1, none⟩ = some qc) := fun X hX =>
    ⟨(hX.cell (p := ⟨w.heap.size, 0, none⟩) (by simp; omega)).trans (c0 0 _ rfl), (hX.cell (p := ⟨w.heap.size, 1, none⟩) (by simp; omega)).trans (c0 1 _ rfl)⟩
  have HB0 := Lib.hid hb0
  have up : ∀ X, Below W.heap.size W X → IsBlocks X vp p ∧ IsInts X vl vars ∧ IsBlocks X qp P ∧ IsRows X qc C2 := fun X hX => by
    have h := hb0.trans (hX.mono hb0.size)
    exact ⟨HP.below h (Nat.le_refl _), HL.below h (Nat.le_refl _), HQ.below h (Nat.le_refl _), HC.below h (Nat.le_refl _)⟩
  have i64p := blocks_i64 HP
  have i64q := blocks_i64 HQ
  have hpf : (flatB p).length ≤ 4000000 := by rw [flat_totT]; omega
  have hqf : (flatB P).length ≤ 4000000 := by rw [flat_totT]; omega
  have W1 : Hid (∀ X, Below W.heap.size W X → Calls Try.prog 16 #[vp, .slice none 0 0, .int .i64 1600] X fun e w' => e = .returned (.bool (wideB 1600 p [])) ∧ X = w') := fun X hX => wide_any vp (.slice none 0 0) p [] 1600 X (up X hX).1 (IsRows.nil X) (by simp [tot]; omega)
  have W2 : Hid (∀ X, Below W.heap.size W X → Calls Try.prog 16 #[qp, qc, .int .i64 1600] X fun e w' => e = .returned (.bool (wideB 1600 P C2)) ∧ X = w') := fun X hX => wide_any qp qc P C2 1600 X (up X hX).2.2.1 (up X hX).2.2.2 (by omega)
  have HF : Hid (∀ X, Below W.heap.size W X → Calls Try.prog 29 #[vp] X fun e w' => ∃ a c, e = .returned (.slice a (flatB p).length c) ∧ IsInts w' (.slice a (flatB p).length c) (flatB p) ∧ Below X.heap.size X w') := fun X hX => (flat_any vp p X (up X hX).1 hpf).mono fun e w' h => by
    obtain ⟨u, rfl, ho, hb⟩ := h
    have hi := ho.ints (by omega) i64p
    obtain ⟨a, c, rfl⟩ := hi.shape
    exact ⟨a, c, rfl, hi, hb⟩
  have H1 : Hid (∀ X, Below W.heap.size W X → Calls Try.prog 30 #[vp] X fun e w' => ∃ t a c, e = .returned (.tuple #[.slice a t.length c, .int .i64 (joinA p).2]) ∧ JoinSt w' X.heap.size (.slice a t.length c) t ∧ shapeT t = (joinA p).1 ∧ Below X.heap.size X w') := fun X hX => (join1_any vp p X (up X hX).1 hpf).mono fun e w' h => by
    obtain ⟨v, t, rfl, hst, hsh, hb⟩ := h
    obtain ⟨a, c, rfl⟩ := hst.shape
    exact ⟨t, a, c, rfl, hst, hsh, hb⟩
  have H2 : Hid (∀ X, Below W.heap.size W X → Calls Try.prog 31 #[vp] X (RetB X (joinA p))) := fun X hX => (rjoin_any vp p X (up X hX).1 hpf i64p).mono fun e w' h => h.to
  have H3 : Hid (∀ X, Below W.heap.size W X → Calls Try.prog 32 #[vp, vl] X (RetB X (lessR p vars))) := fun X hX => pless_to vp vl p vars X (up X hX).1 (up X hX).2.1 (by omega)
  have H4 : Hid (∀ X, Below W.heap.size W X → Calls Try.prog 33 #[vp, vl] X (RetB X (lessR p vars))) := fun X hX => (rless_any vp vl p vars X (up X hX).1 (up X hX).2.1 (by omega) hpf i64p).mono fun e w' h => h.to
  have H5 : Hid (∀ X, Below W.heap.size W X → Calls Try.prog 34 #[.agg #[qp, qc]] X (RetQ X P C2)) := fun X hX => pclose_to qp qc P C2 X (up X hX).2.2.1 (up X hX).2.2.2 (by omega)
  have H6 : Hid (∀ X, Below W.heap.size W X → Calls Try.prog 35 #[.agg #[qp, qc]] X (RetQ X P C2)) := fun X hX => rclose_to qp qc P C2 X (up X hX).2.2.1 (up X hX).2.2.2 (by omega) hqf i64q (by omega)
  have HSM : Hid (Small (joinA p).1) := (joinA_small p).1
  obtain ⟨pa, pc, rfl, _⟩ := HP.shape
  obtain ⟨la, lc, rfl⟩ := HL.shape
  obtain ⟨qa, qk, rfl, _⟩ := HQ.shape
  obtain ⟨ra, rk, rfl, _⟩ := HC.shape
  have hvl : (vars.length : Int) ≤ 4000000 := by omega
  clear up HP HL HQ HC c0 hb0 i64p i64q hpf hqf hp hv hq
  generalize wideB 1600 p [] = b1 at *
  generalize wideB 1600 P C2 = b2 at *
  obtain ⟨y0, y1⟩ := HY.out W (Below.refl _ _)
  cases b1 with
  | true =>
    go_enter Try.func5, Try.ntmps5
    go_wp2_with (first
      | (go_at_call 16; refine (W1.out W (Below.refl _ _)).mono ?_; rintro e w1 ⟨rfl, rfl⟩)
      | (go_at_call 18; refine (head_any _).mono ?_; rintro e w2 ⟨rfl, hb2⟩))
    go_ret
    exact ⟨rfl, HB0.out.trans (hb2.mono HB0.out.size)⟩
  | false =>
    cases b2 with
    | true =>
      go_enter Try.func5, Try.ntmps5
      go_wp2_with (first
        | (go_at_call_of 16 (Value.slice ra C2.length rk); refine (W2.out W (Below.refl _ _)).mono ?_; rintro e w1 ⟨rfl, rfl⟩)
        | (go_at_call_of 16 (Value.slice none 0 0); refine (W1.out W (Below.refl _ _)).mono ?_; rintro e w1 ⟨rfl, rfl⟩)
        | (go_at_call 18; refine (head_any _).mono ?_; rintro e w2 ⟨rfl, hb2⟩))
      go_ret
      exact ⟨rfl, HB0.out.trans (hb2.mono HB0.out.size)⟩
    | false =>
      by_cases hlen : 1600 < vars.length
      · have hg : decide ((1600 : Int) < (vars.length : Int)) = true := by rw [decide_eq_true_eq]; omega
        go_enter Try.func5, Try.ntmps5
        go_wp2_with (first
          | (go_at_call_of 16 (Value.slice ra C2.length rk); refine (W2.out W (Below.refl _ _)).mono ?_; rintro e w1 ⟨rfl, rfl⟩)
          | (go_at_call_of 16 (Value.slice none 0 0); refine (W1.out W (Below.refl _ _)).mono ?_; rintro e w1 ⟨rfl, rfl⟩)
          | (go_at_call 18; refine (head_any _).mono ?_; rintro e w2 ⟨rfl, hb2⟩))
        go_ret
        exact ⟨rfl, HB0.out.trans (hb2.mono HB0.out.size)⟩
      · have hg : decide ((1600 : Int) < (vars.length : Int)) = false := by rw [decide_eq_false_iff_not]; omega
        clear hlen
        obtain ⟨nf, hnf⟩ : ∃ n, (flatB p).length = n := ⟨_, rfl⟩
        rw [hnf] at HF
        clear hnf
        go_enter Try.func5, Try.ntmps5
        go_wp2_with (first
          | (go_at_call_of 16 (Value.slice ra C2.length rk); refine (W2.out W (Below.refl _ _)).mono ?_; rintro e w1 ⟨rfl, rfl⟩)
          | (go_at_call_of 16 (Value.slice none 0 0); refine (W1.out W (Below.refl _ _)).mono ?_; rintro e w1 ⟨rfl, rfl⟩)
          | (go_at_call 29; refine (HF.out W (Below.refl _ _)).mono ?_; rintro e w2 ⟨a2, k2, rfl, hi2, hb2⟩; have HI2 := Lib.hid hi2; clear hi2)
          | (go_at_call 30; refine (H1.out w2 hb2).mono ?_; rintro e w3 ⟨t, a3, k3, rfl, hst, hsh, hb3⟩; have B3 := hb2.trans (hb3.mono hb2.size); have HST := Lib.hid hst; have HSH := Lib.hid hsh; clear hst hsh)
          | (go_at_call 31; refine (H2.out w3 B3).mono ?_; rintro e w4 ⟨a4, n4, k4, rfl, hi4, hb4⟩; have B4 := B3.trans (hb4.mono B3.size); have HI4 := Lib.hid hi4; clear hi4)
          | (go_at_call 32; refine (H3.out w4 B4).mono ?_; rintro e w5 ⟨a5, n5, k5, rfl, hi5, hb5⟩; have B5 := B4.trans (hb5.mono B4.size); have HI5 := Lib.hid hi5; clear hi5)
          | (go_at_call 33; refine (H4.out w5 B5).mono ?_; rintro e w6 ⟨a6, n6, k6, rfl, hi6, hb6⟩; have B6 := B5.trans (hb6.mono B5.size); have HI6 := Lib.hid hi6; clear hi6; obtain ⟨r0, r1⟩ := HY.out w6 B6)
          | (go_at_call 34; refine (H5.out w6 B6).mono ?_; rintro e w7 ⟨a7, n7, k7, a7', n7', k7', rfl, hi7, hr7, hb7⟩; have B7 := B6.trans (hb7.mono B6.size); have HI7 := Lib.hid hi7; have HR7 := Lib.hid hr7; clear hi7 hr7; have A7 := B7.alloc B7.size (.cells #[.slice a7 n7 k7, .slice a7' n7' k7'] 25); obtain ⟨s0, s1⟩ := HY.out _ A7)
          | (go_at_call 35; go_loud (refine (H6.out _ A7).mono ?_; rintro e w8 ⟨a8, n8, k8, a8', n8', k8', rfl, hi8, hr8, hb8⟩; obtain ⟨Y, hY⟩ : ∃ Y, (w8.alloc (.cells #[.slice a8 n8 k8, .slice a8' n8' k8'] 25)) = Y := ⟨_, rfl⟩; obtain ⟨T2, MK1, MK2, MK3, MKB⟩ := makes_mid hb3 hb4 hb5 hb6 hb7 hb8 hY HST.out HSH.out HSM.out HI4.out HI5.out HI6.out HI7.out HR7.out hi8 hr8))
          | (go_at_call_of 26 (Value.slice a3 t.length k3); go_loud (refine MK1.out.mono ?_; rintro e w9 ⟨rfl, hb9⟩))
          | (go_at_call_of 26 (Value.slice a5 n5 k5); refine (MK2.out _ hb9).mono ?_; rintro e w10 ⟨rfl, hb10⟩; have hc10 := hb9.trans (hb10.mono hb9.size); obtain ⟨z0, z1, z2, z3⟩ := MKB.out w10 hc10)
          | (go_at_call 36; refine (MK3.out w10 hc10).mono ?_; rintro e w11 ⟨rfl, hb11⟩; have hc11 := hc10.trans (hb11.mono hc10.size)))
        have BL : Below w3.heap.size w3 w11 := T2.trans (hc11.mono T2.size)
        have BW2 := hb3.trans (BL.mono hb3.size)
        have HJ := Lib.hid (HST.out.below BL (Nat.le_refl _))
        have HTL : Hid (t.length ≤ 1024) := by
          show _ ≤ _
          have h1 := congrArg List.length HSH.out
          rw [shapeT_len] at h1
          rw [h1]
          exact HSM.out.1
        have HB2 := Lib.hid hb2
        clear HST HSH HSM hb2 hb3 hb4 hb5 hb6 hb7 hb9 hb10 hb11 hc10 hc11 hY T2 BL B3 B4 B5 B6 B7 A7 HI4 HI5 HI6 HI7 HR7 MK1 MK2 MK3 MKB W1 W2 H1 H2 H3 H4 H5 H6 HY y0 y1 r0 r1 s0 s1 z0 z1 z2 z3 hz hvl hg hW
        have HBW := Lib.hid BW2
        clear BW2
        go_loopw [21] (fun i wr => ∃ k : Nat, k ≤ t.length ∧ i = .int .i64 k ∧ Below w2.heap.size w2 wr ∧ MakeInv wr w2.heap.size a3 t) (fun i _ => t.length - (intOf i).toNat)
        case atStart => exact ⟨0, Nat.zero_le _, rfl, HBW.out, MakeInv.start HJ.out⟩
        case round =>
          obtain ⟨k, hk, rfl, hbr, hinv⟩ := hrel
          have HBR := Lib.hid hbr
          have HIV := Lib.hid hinv
          have htl := HTL.out
          clear hbr hinv
          by_cases hlt : k < t.length
          · obtain ⟨g, cap, e, _, _, _, _, _⟩ := HJ.out.at hlt
            injection e with e e1 e2
            subst e
            clear e1 e2
            obtain ⟨gx, n, c, u, hc0, hn, hB, hcu, hf, hi2⟩ := HIV.out.step rfl hlt
            have HI9 := Lib.hid hi2
            have HBB := Lib.hid hB
            have hi0 : (0 : Int) ≤ (k : Int) := by omega
            have hi1 : (k : Int) < (t.length : Int) := by omega
            have hn0 : (0 : Int) < (n : Int) := by omega
            clear hi2 hB
            go_wp2
            go_roundw
            case rel => exact ⟨k + 1, by omega, by go_num, HBR.out.setCell HBB.out _, HI9.out⟩
            case measure => simp [intOf]; omega
          · have hge : ¬ ((k : Int) < (t.length : Int)) := by omega
            have HBX : Hid (Below W.heap.size W wr) := HB2.out.trans (HBR.out.mono HB2.out.size)
            go_wp2_with (first
              | (go_at_call 29; refine (HF.out _ HBX.out).mono ?_; rintro e w12 ⟨a9, k9, rfl, hi9, hb12⟩; have HI3 := HI2.out.below (HBR.out.trans (hb12.mono HBR.out.size)) (Nat.le_refl _))
              | (go_at_call 37; refine (ints_yes _ _ _ _ hi9 HI3).mono ?_; rintro e w13 ⟨rfl, hb13⟩)
              | (go_at_call 18; refine (head_any _).mono ?_; rintro e w14 ⟨rfl, hb14⟩))
            go_ret
            exact ⟨rfl, HB0.out.trans ((HBX.out.trans ((hb12.trans ((hb13.trans (hb14.mono hb13.size)).mono hb12.size)).mono HBX.out.size)).mono HB0.out.size)⟩
end Go.Proofs.Ytfodafaclhoibaa
