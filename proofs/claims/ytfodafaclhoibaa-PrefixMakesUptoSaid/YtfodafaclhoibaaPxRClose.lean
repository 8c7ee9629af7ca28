/- The reference's Close. -/
import Derived.Test.YtfodafaclhoibaaPxRLess
import Derived.Test.YtfodafaclhoibaaPxRCloseP
import Derived.Test.YtfodafaclhoibaaMpC
import Derived.Deep.DeepCutAuto
namespace Go.Proofs.Ytfodafaclhoibaa
open Go.RowKit
set_option linter.unusedVariables false
set_option linter.unusedSimpArgs false

set_option maxHeartbeats 400000 in
theorem wpList_buildB {w : World} {ops : Array Oper} {rest : List Oper} {o : Oper} {a : Act} {Q : Exit → Act → World → Prop} (hgd : o.guard = none) (t : Tmp)
    (hop : o.op = Op.buildSlice 22 1 #[(0, .tmp t)]) (v : Value) (hx : a.tmps[t]?.getD undef = v) (e : Bool) (s : Option Addr) (n c : Nat) (hv : v = .agg #[.bool e, .slice s n c])
    (h : ∀ w', w' = w.alloc (.cells #[.bool e, .slice s n c] 53) → wpList Try.prog ops Q rest (a.put o.dst (.slice (some ⟨w.heap.size, 0, none⟩) 1 1)) w') : wpList Try.prog ops Q (o :: rest) a w := by
  subst hv
  refine wpList_plain hgd fun K hK => ?_
  unfold Oper.wp
  simp only [execOp, hop]
  have h2 := hK _ _ (h _ rfl)
  clear h hK
  go_simp
  exact h2
theorem row_oneB (w : World) (e : Bool) (u : Value) (B : Nat) (hB : B ≤ w.heap.size) (l : List Int) : (w.alloc (.cells #[.bool e, u] 53)).ownsRow B 53 2 (.slice (some ⟨w.heap.size, 0, none⟩) 1 1) ([(e, u, l)] : List Trp).length (cellsT [(e, u, l)]) :=
  ⟨by simp [cellsT], .inr ⟨w.heap.size, 1, #[.bool e, u], rfl, hB, World.alloc_heap_new w _, by simp, by unfold maxLen; omega, by simp, by simp [cellsT]⟩⟩
theorem blocks_64 {w : World} {v : Value} {p : List Blk} (H : IsBlocks w v p) : In64 (flatB p) := by
  intro x hx
  obtain ⟨l, hl, hxl⟩ := List.mem_flatten.1 (show x ∈ (p.map (fun y => y.2)).flatten from hx)
  obtain ⟨b, hb, rfl⟩ := List.mem_map.1 hl
  obtain ⟨i, hi, rfl⟩ := List.mem_iff_getElem.1 hb
  obtain ⟨a, cap, rfl, _⟩ := H.shape
  obtain ⟨_, _, u, _, _, _, _, HU⟩ := H.at hi
  have e : p.getD i (false, ([] : List Int)) = p[i] := by simp [List.getD, hi]
  rw [e] at HU
  obtain ⟨_, _, _, _, _, _, g, _⟩ := HU
  exact g x hxl
theorem IsInts.i64Y {w : World} {v : Value} {l : List Int} (h : IsInts w v l) : In64 l := by
  obtain ⟨_, _, _, _, _, _, g, _⟩ := h; exact g

theorem ne_of_cells {w : World} {b b0 o : Nat} {T : TypeId} {u : Value} (hh : w.heap[b0]? = some (.cells #[.slice none 0 0, .slice none 0 0] T (0, 0))) (hc : w.cell? ⟨b, o, none⟩ = some u) (hu : u ≠ .slice none 0 0) : b ≠ b0 := by
  intro e
  subst e
  simp only [World.cell?, hh] at hc
  have hlt : o < 2 := by
    have := (Array.getElem?_eq_some_iff.1 hc).1
    simpa using this
  have : o = 0 ∨ o = 1 := by omega
  rcases this with rfl | rfl <;> (simp at hc; exact hu hc.symm)
theorem set2_cell (w : World) {b b0 o : Nat} (x y : Value) (h : b ≠ b0) : ((w.setCell ⟨b0, 0, none⟩ x).setCell ⟨b0, 1, none⟩ y).cell? ⟨b, o, none⟩ = w.cell? ⟨b, o, none⟩ := by
  rw [World.cell?_setCell_other _ _ _ y (fun e => h (by injection e with e; exact e.symm)), World.cell?_setCell_other _ _ _ x (fun e => h (by injection e with e; exact e.symm))]
theorem set2_size (w : World) (b0 : Nat) (x y : Value) : ((w.setCell ⟨b0, 0, none⟩ x).setCell ⟨b0, 1, none⟩ y).heap.size = w.heap.size := by simp [World.setCell]
theorem ints_set2 {w : World} {b0 : Nat} {T : TypeId} {v x y : Value} {l : List Int} (hh : w.heap[b0]? = some (.cells #[.slice none 0 0, .slice none 0 0] T (0, 0))) (H : IsInts w v l) : IsInts ((w.setCell ⟨b0, 0, none⟩ x).setCell ⟨b0, 1, none⟩ y) v l := by
  obtain ⟨a, cap, h1, h2, h3, h4, h5, b, off, ha, hc⟩ := H
  refine ⟨a, cap, h1, h2, h3, h4, h5, b, off, fun hl => ⟨(ha hl).1, by rw [set2_size]; exact (ha hl).2⟩, fun j hj => ?_⟩
  rw [set2_cell w x y (ne_of_cells hh (hc j hj) (by simp))]
  exact hc j hj
theorem blocks_set2 {w : World} {b0 : Nat} {T : TypeId} {v x y : Value} {q : List Blk} (hh : w.heap[b0]? = some (.cells #[.slice none 0 0, .slice none 0 0] T (0, 0))) (H : IsBlocks w v q) : IsBlocks ((w.setCell ⟨b0, 0, none⟩ x).setCell ⟨b0, 1, none⟩ y) v q := by
  obtain ⟨a, cap, h1, h2, h3, h4, b, off, ha, hc⟩ := H
  refine ⟨a, cap, h1, h2, h3, h4, b, off, fun hl => ⟨(ha hl).1, by rw [set2_size]; exact (ha hl).2⟩, fun j hj => ?_⟩
  obtain ⟨h5, u, hu, hi⟩ := hc j hj
  have hne := ne_of_cells hh h5 (by simp)
  rw [set2_cell w x y hne, set2_cell w x y hne]
  exact ⟨h5, u, hu, ints_set2 hh hi⟩
theorem rowB_mk {w w' : World} {v : Value} {t : List Trp} (hb : Below w.heap.size w w') (hrow : w'.ownsRow w.heap.size 53 2 v t.length (cellsT t)) (he : ∀ x ∈ t, ElemB w w' w.heap.size x.2.1 x.2.2) : RowB w w' w.heap.size v t := ⟨hb, Nat.le_refl _, hrow, he⟩
set_option maxRecDepth 100000 in
theorem slice_run1 (X : World) (ad : Addr) (n cu : Nat) (hn : 1 ≤ n) :
    (Instr.slice 22 (.slice (some ad) n cu) (some (.int .i64 1)) none none).run Try.prog X = .ok (.slice (if cu = 1 then some ad else some (ad.add 2)) (n - 1) (cu - 1)) X := by
  have h1 : (1 : Int) ≤ (n : Int) := by omega
  by_cases hc : cu = 1
  · rw [if_pos hc]
    go_simp
  · rw [if_neg hc]
    go_simp

theorem own_shapeX {w : World} {B : Nat} {v : Value} {xs : List Int} (h : Own w B v xs) : ∃ a cap, v = .slice a xs.length cap := by
  rcases h.2 with ⟨rfl, h2⟩ | ⟨g, cap, cur, rfl, _⟩
  · exact ⟨none, 0, by rw [h2]⟩
  · exact ⟨_, _, rfl⟩
def RClosePost (w : World) (p : List Blk) (C : List (List Int)) (vc : Value) (e : Ending) (w' : World) : Prop :=
  ((((closeR p C).2 = 0 ∧ ∃ v, e = .returned (.tuple #[.agg #[v, vc], .int .i64 0]) ∧ IsBlocks w' v (closeR p C).1) ∨
   ((closeR p C).2 ≠ 0 ∧ e = .returned (.tuple #[.agg #[.slice none 0 0, .slice none 0 0], .int .i64 (closeR p C).2])))) ∧ Below w.heap.size w w'

set_option maxRecDepth 100000 in
set_option maxHeartbeats 3200000 in
theorem rclose_any (vp vc : Value) (p : List Blk) (C : List (List Int)) (w : World) (HP : IsBlocks w vp p) (HC : IsRows w vc C) (hp : p.length ≤ 4000000) (hf : (flatB p).length ≤ 4000000) (h64 : In64 (flatB p)) (hcc : C.length + tot C ≤ 4000000) :
    Calls Try.prog 35 #[.agg #[vp, vc]] w (RClosePost w p C vc) := by
  have HPP := Lib.hid HP
  have HCC := Lib.hid HC
  obtain ⟨W, hW⟩ : ∃ W, (w.alloc (.cells #[vp, vc] 25)).alloc (.cells #[.slice none 0 0, .slice none 0 0] 25) = W := ⟨_, rfl⟩
  have hb0 : Below w.heap.size w W := by rw [← hW]; exact ((Below.refl w.heap.size w).alloc (Nat.le_refl _) _).alloc (by simp) _
  have hsz : W.heap.size = w.heap.size + 2 := by rw [← hW]; simp
  have hA : W.heap[w.heap.size]? = some (.cells #[vp, vc] 25 (0, 0)) := by rw [← hW, (Below.alloc (Below.refl _ _) (Nat.le_refl _) _).block _ (by simp)]; exact World.alloc_heap_new w _
  have hB : W.heap[w.heap.size + 1]? = some (.cells #[.slice none 0 0, .slice none 0 0] 25 (0, 0)) := by
    have := World.alloc_heap_new (w.alloc (.cells #[vp, vc] 25)) (.cells #[.slice none 0 0, .slice none 0 0] 25)
    rw [hW] at this
    simpa using this
  obtain ⟨a1, c1, rfl, _⟩ := HP.shape
  obtain ⟨a3, c3, rfl, _⟩ := HC.shape
  have D0 : W.cell? ⟨w.heap.size, 0, none⟩ = some (.slice a1 p.length c1) := by simp [World.cell?, hA]
  have D1 : W.cell? ⟨w.heap.size, 1, none⟩ = some (.slice a3 C.length c3) := by simp [World.cell?, hA]
  have HB0 := Lib.hid hb0
  have HX : Hid (∀ X, Below (w.heap.size + 2) W X → X.cell? ⟨w.heap.size, 0, none⟩ = some (.slice a1 p.length c1) ∧ X.cell? ⟨w.heap.size, 1, none⟩ = some (.slice a3 C.length c3) ∧ X.cell? ⟨w.heap.size + 1, 0, none⟩ = some (.slice none 0 0) ∧ X.cell? ⟨w.heap.size + 1, 1, none⟩ = some (.slice none 0 0) ∧ X.frozen? ⟨w.heap.size + 1, 0, none⟩ = false ∧ X.frozen? ⟨w.heap.size + 1, 1, none⟩ = false) := by
    intro X hb
    have hz := qbf_zero (w.heap.size + 1) X ((hb.block _ (by omega)).trans hB)
    exact ⟨(hb.cell (p := ⟨w.heap.size, 0, none⟩) (by simp)).trans D0, (hb.cell (p := ⟨w.heap.size, 1, none⟩) (by simp)).trans D1, hz⟩
  have HPX : Hid (∀ X, Below (w.heap.size + 2) W X → IsBlocks X (.slice a1 p.length c1) p) := fun X hb => HPP.out.below (HB0.out.trans (hb.mono (by omega))) (Nat.le_refl _)
  have HCX : Hid (∀ X, Below (w.heap.size + 2) W X → IsRows X (.slice a3 C.length c3) C) := fun X hb => HCC.out.below (HB0.out.trans (hb.mono (by omega))) (Nat.le_refl _)
  have HM : Hid (∀ X, Below (w.heap.size + 2) W X → Calls Try.prog 20 #[.slice a1 p.length c1] X fun e w' => e = .returned (.bool (mayP p)) ∧ Below X.heap.size X w') := fun X hb => rmay_any _ p X (HPX.out X hb) hp hf h64
  have HN : Hid (∀ X, Below (w.heap.size + 2) W X → Calls Try.prog 79 #[.slice a3 C.length c3] X fun e w' => e = .returned (.bool (mayCnfB C)) ∧ Quiet X w') := fun X hb => rcnf3_any _ C X (HCX.out X hb) hcc
  have HSZ := Lib.hid hsz
  have HBQ : Hid (∀ X, Below (w.heap.size + 2) W X → X.heap[w.heap.size + 1]? = some (.cells #[.slice none 0 0, .slice none 0 0] 25 (0, 0))) := fun X hb => (hb.block _ (by omega)).trans hB
  clear HP HC hb0 hA hB hsz hp hf h64 hcc D0 D1
  obtain ⟨d0, d1, d2, d3, d4, d5⟩ := HX.out W (Below.refl _ _)
  cases ho : mayP p with
  | false =>
    have HR : Hid (closeR p C = ([], 2)) := by show _ = _; unfold closeR; rw [ho]; rfl
    rw [ho] at HM
    clear ho HN
    go_enter Try.func35, Try.ntmps35
    go_wp2_with (go_at_call 20; refine (HM.out _ (Below.refl _ _)).mono ?_; rintro e w1 ⟨rfl, hb1⟩; obtain ⟨f0, f1, f2, f3, f4, f5⟩ := HX.out w1 (hb1.mono (by rw [HSZ.out]; exact Nat.le_refl _)))
    obtain ⟨g0, g1⟩ := qbf_set (w.heap.size + 1) w1 _ _ (.slice none 0 0) (.slice none 0 0) f2 f3
    refine ⟨rfl, .tuple #[.agg #[.slice none 0 0, .slice none 0 0], .int .i64 2], by simp [results, Try.f35, go_sem, g0, g1], .inr ?_, ?_⟩
    · rw [HR.out]
      exact ⟨by decide, rfl⟩
    · exact ((HB0.out.trans (hb1.mono (by have := HB0.out.size; omega))).setCell (by simp) _).setCell (by simp) _
  | true =>
    rw [ho] at HM
    have HO := Lib.hid ho
    clear ho
    cases hm : mayCnfB C with
    | false =>
      have HR : Hid (closeR p C = ([], 2)) := by show _ = _; unfold closeR; rw [hm]; simp
      rw [hm] at HN
      clear hm
      go_enter Try.func35, Try.ntmps35
      go_wp2_with (first
        | (go_at_call 20; refine (HM.out _ (Below.refl _ _)).mono ?_; rintro e w1 ⟨rfl, hb1⟩; have hb1' : Below (w.heap.size + 2) W w1 := hb1.mono (by rw [HSZ.out]; exact Nat.le_refl _); obtain ⟨f0, f1, f2, f3, f4, f5⟩ := HX.out w1 hb1')
        | (go_at_call 79; refine (HN.out _ hb1').mono ?_; rintro e w2 ⟨rfl, hq2⟩; obtain ⟨h0, h1, h2, h3, h4, h5⟩ := HX.out w2 (hb1'.trans (hq2.below _))))
      obtain ⟨g0, g1⟩ := qbf_set (w.heap.size + 1) w2 _ _ (.slice none 0 0) (.slice none 0 0) h2 h3
      refine ⟨rfl, .tuple #[.agg #[.slice none 0 0, .slice none 0 0], .int .i64 2], by simp [results, Try.f35, go_sem, g0, g1], .inr ?_, ?_⟩
      · rw [HR.out]
        exact ⟨by decide, rfl⟩
      · exact ((HB0.out.trans ((hb1'.trans (hq2.below _)).mono (by omega))).setCell (by simp) _).setCell (by simp) _
    | true =>
      have HR := Lib.hid (close_is HO.out hm)
      have HCM := Lib.hid hm
      rw [hm] at HN
      have HPL := Lib.hid (mayP_len HO.out)
      have HF64 : Hid (In64 (flatB p)) := blocks_64 HPP.out
      have HFT : Hid (∀ X, Below (w.heap.size + 2) W X → Calls Try.prog 29 #[.slice a1 p.length c1] X fun e w' => ∃ u, e = .returned u ∧ Own w' X.heap.size u (flatB p) ∧ Below X.heap.size X w') := fun X hb => flat_any _ p X (HPX.out X hb) (by have := HPL.out.1; omega)
      have HOC : Hid ((occL C).length ≤ 200000 ∧ C.length ≤ 20000 ∧ ∀ c ∈ C, ∀ x ∈ c, (-65536 ≤ x ∧ x ≤ 65536)) := by
        have h1 : (occL C).length = tot C := by unfold occL tot; rw [List.length_map, List.length_flatten]
        have h2 := hm
        unfold mayCnfB at h2
        rw [decide_eq_true_eq] at h2
        refine ⟨by rw [h1]; exact h2.2.1, h2.1, fun c hc x hx => ?_⟩
        have := cnf_range hm c hc x hx
        unfold litB at this
        simp at this
        omega
      clear hm
      go_enter Try.func35, Try.ntmps35
      go_wp2_with (first
        | (go_at_call 29; refine (HFT.out _ hb2).mono ?_; rintro e w3 ⟨u3, rfl, ho3, hb3⟩; have hi3 := ho3.ints (by have := HPL.out.1; omega) HF64.out; obtain ⟨ua, uc, rfl⟩ := hi3.shape)
        | (go_at_call 20; refine (HM.out _ (Below.refl _ _)).mono ?_; rintro e w1 ⟨rfl, hb1⟩; have hb1' : Below (w.heap.size + 2) W w1 := hb1.mono (by rw [HSZ.out]; exact Nat.le_refl _); obtain ⟨f0, f1, f2, f3, f4, f5⟩ := HX.out w1 hb1')
        | (go_at_call 79; refine (HN.out _ hb1').mono ?_; rintro e w2 ⟨rfl, hq2⟩; have hb2 := hb1'.trans (hq2.below (w.heap.size + 2)); obtain ⟨h0, h1, h2, h3, h4, h5⟩ := HX.out w2 hb2))
      have hz2 : w.heap.size + 2 ≤ w2.heap.size := by rw [← HSZ.out]; exact hb2.size
      have HB3 : Hid (Below (w.heap.size + 2) W w3) := hb2.trans (hb3.mono hz2)
      have HI3 := Lib.hid hi3
      have hz3 : w.heap.size + 2 ≤ w3.heap.size := Nat.le_trans hz2 hb3.size
      have hcl : (C.length : Int) ≤ 20000 := by have := HOC.out.2.1; omega
      clear hb1 hb1' hq2 hb2 hb3 hi3 ho3 f0 f1 f2 f3 f4 f5 h0 h1 h2 h3 h4 h5 d0 d1 d2 d3 d4 d5 HM HN HFT hz2
      go_loopw [5, 6] (fun fv i wr => ∃ k : Nat, k ≤ C.length ∧ i = .int .i64 k ∧ IsInts wr fv (rfreeUp (flatB p) (occL (C.take k))) ∧ Below w3.heap.size w3 wr) (fun _ i _ => C.length - (intOf i).toNat)
      case atStart => exact ⟨0, Nat.zero_le _, rfl, by simpa [occL, rfreeUp] using IsInts.nil _, Below.refl _ _⟩
      case round =>
        obtain ⟨k, hk, rfl, hfr, hbr⟩ := hrel
        have HFR := Lib.hid hfr
        have HBR := Lib.hid hbr
        have HB4 : Hid (Below (w.heap.size + 2) W wr) := HB3.out.trans (hbr.mono hz3)
        have hzr := hbr.size
        obtain ⟨d0, d1, d2, d3, d4, d5⟩ := HX.out wr HB4.out
        clear hfr hbr
        by_cases hlt : k < C.length
        · obtain ⟨b, off, u, rfl, hbk, hcu, HU⟩ := (HCX.out W (Below.refl _ _)).at hlt
          have HCU : Hid (∀ X, Below (w.heap.size + 2) W X → X.cell? ⟨b, off + k, none⟩ = some u ∧ IsInts X u (C.getD k [])) := fun X hb => ⟨(hb.cell (p := ⟨b, off + k, none⟩) (by rw [← HSZ.out]; exact hbk)).trans hcu, HU.below hb (by rw [HSZ.out]; exact Nat.le_refl _)⟩
          obtain ⟨va, vcc, rfl⟩ := HU.shape
          have HOT : Hid (occL (C.take (k + 1)) = occL (C.take k) ++ (C.getD k []).map absOf) := occL_take hlt
          have HOP : Hid (∀ t, (occL (C.take k) ++ ((C.getD k []).take t).map absOf).length ≤ 200000) := fun t => Nat.le_trans (occL_prefix hlt t).length_le HOC.out.1
          have HRG : Hid (∀ x ∈ C.getD k [], -65536 ≤ x ∧ x ≤ 65536) := HOC.out.2.2 _ (by simp [List.getD, hlt])
          have hi0 : (0 : Int) ≤ (k : Int) := by omega
          have hi1 : (k : Int) < (C.length : Int) := by omega
          clear hcu HU
          generalize C.getD k [] = c at *
          generalize occL (C.take k) = O at *
          go_wp2
          generalize wr = wz at *
          go_loopw [5, 7] (fun fv j wr => ∃ k2 : Nat, k2 ≤ c.length ∧ j = .int .i64 k2 ∧ IsInts wr fv (rfreeUp (flatB p) (O ++ (c.take k2).map absOf)) ∧ Below w3.heap.size w3 wr) (fun _ j _ => c.length - (intOf j).toNat)
          case atStart => exact ⟨0, Nat.zero_le _, rfl, by simpa using HFR.out, HBR.out⟩
          case round =>
            obtain ⟨k2, hk2, rfl, hfr2, hbr2⟩ := hrel
            have HFR2 := Lib.hid hfr2
            have HBR2 := Lib.hid hbr2
            have HB5 : Hid (Below (w.heap.size + 2) W wr) := HB3.out.trans (hbr2.mono hz3)
            obtain ⟨d0, d1, d2, d3, d4, d5⟩ := HX.out wr HB5.out
            obtain ⟨e0, hcI⟩ := HCU.out wr HB5.out
            obtain ⟨fa, fc, rfl⟩ := hfr2.shape
            have hcl2 : (c.length : Int) ≤ 17592186044416 := by obtain ⟨_, _, _, _, _, g, _⟩ := hcI; omega
            clear hfr2 hbr2
            by_cases hlt2 : k2 < c.length
            · obtain ⟨xb, xo, rfl, hxb, hxc⟩ : ∃ ub uo, va = some ⟨ub, uo, none⟩ ∧ ub < wr.heap.size ∧ wr.cell? ⟨ub, uo + k2, none⟩ = some (.int .i64 (c.getD k2 0)) := by
                obtain ⟨a', cap', e, _, _, _, _, b, off, ha, hc⟩ := hcI
                injection e with e1 e2 e3
                subst e1
                have h := ha (by intro h; simp [h] at hlt2)
                exact ⟨b, off, h.1, h.2, hc k2 hlt2⟩
              have hxr := HRG.out _ (getD_mem hlt2)
              have HT : Hid (rfreeUp (flatB p) (O ++ (c.take (k2 + 1)).map absOf) = rfreeStep (flatB p) (rfreeUp (flatB p) (O ++ (c.take k2).map absOf)) (absOf (c.getD k2 0))) := by
                show _ = _
                rw [ints_take_succ hlt2, List.map_append, ← List.append_assoc]
                exact rfreeUp_snoc _ _ _
              have hx1 : -9223372036854775808 < c.getD k2 0 := by omega
              have hx2 : c.getD k2 0 ≤ 9223372036854775807 := by omega
              have ha1 : -9223372036854775808 ≤ absOf (c.getD k2 0) := by unfold absOf; split <;> omega
              have ha2 : absOf (c.getD k2 0) ≤ 9223372036854775807 := by unfold absOf; split <;> omega
              have HHS := Lib.hid (has3_any _ (flatB p) (absOf (c.getD k2 0)) wr (HI3.out.below HBR2.out (Nat.le_refl _)) ha1 ha2)
              have HPU := Lib.hid (rput_any _ (rfreeUp (flatB p) (O ++ (c.take k2).map absOf)) (absOf (c.getD k2 0)) wr HFR2.out (by have := rfreeUp_len (flatB p) (O ++ (c.take k2).map absOf); have := HOP.out k2; omega) ha1 ha2)
              have HAB := Lib.hid (abs3_any (c.getD k2 0) wr hx1 hx2)
              have j0 : (0 : Int) ≤ (k2 : Int) := by omega
              have j1 : (k2 : Int) < (c.length : Int) := by omega
              have hmb := Lib.hid (show memB (flatB p) (absOf (c.getD k2 0)) = decide (absOf (c.getD k2 0) ∈ flatB p) from rfl)
              clear ha1 ha2 hx1 hx2 hxr hcI
              generalize c.getD k2 0 = x at *
              generalize rfreeUp (flatB p) (O ++ (c.take k2).map absOf) = S at *
              by_cases hin : absOf x ∈ flatB p
              · have hmt : memB (flatB p) (absOf x) = true := by rw [hmb.out]; simpa using hin
                rw [hmt] at HHS
                have HTN : Hid (rfreeUp (flatB p) (O ++ (c.take (k2 + 1)).map absOf) = S) := by show _ = _; rw [HT.out]; unfold rfreeStep; rw [if_pos hin]
                clear hin hmt HT
                go_wp2_with (first
                  | (go_at_call 42; refine HAB.out.mono ?_; rintro e w4 ⟨rfl, rfl⟩)
                  | (go_at_call 40; refine HHS.out.mono ?_; rintro e w4 ⟨rfl, rfl⟩))
                go_roundw
                case rel => exact ⟨k2 + 1, by omega, by go_num, by rw [HTN.out]; exact HFR2.out, HBR2.out⟩
                case measure => simp [intOf]; omega
              · have hmt : memB (flatB p) (absOf x) = false := by rw [hmb.out]; simpa using hin
                rw [hmt] at HHS
                have HTN : Hid (rfreeUp (flatB p) (O ++ (c.take (k2 + 1)).map absOf) = putL S (absOf x)) := by show _ = _; rw [HT.out]; unfold rfreeStep; rw [if_neg hin]
                clear hin hmt HT
                go_wp2_with (first
                  | (go_at_call 42; refine HAB.out.mono ?_; rintro e w4 ⟨rfl, rfl⟩)
                  | (go_at_call 40; refine HHS.out.mono ?_; rintro e w4 ⟨rfl, rfl⟩)
                  | (go_at_call 102; refine HPU.out.mono ?_; rintro e w4 ⟨v4, rfl, hi4, hb4⟩))
                go_roundw
                case rel => exact ⟨k2 + 1, by omega, by go_num, by rw [HTN.out]; exact hi4, HBR2.out.trans (hb4.mono HBR2.out.size)⟩
                case measure => simp [intOf]; omega
            · have hke : k2 = c.length := by omega
              subst hke
              have HTN : Hid (rfreeUp (flatB p) (occL (C.take (k + 1))) = rfreeUp (flatB p) (O ++ (c.take c.length).map absOf)) := by show _ = _; rw [HOT.out, List.take_length]
              clear hcI
              go_wp2
              go_roundw
              case rel => exact ⟨k + 1, by omega, by go_num, by rw [HTN.out]; exact HFR2.out, HBR2.out⟩
              case measure => simp [intOf]; omega
        · have hke : k = C.length := by omega
          subst hke
          rw [List.take_length] at HFR
          obtain ⟨fr, hfrq⟩ : ∃ fr, rfreeUp (flatB p) (occL C) = fr := ⟨_, rfl⟩
          have hfl : fr.length ≤ 200000 := by rw [← hfrq]; exact Nat.le_trans (rfreeUp_len _ _) HOC.out.1
          rw [hfrq] at HFR HR
          have HF64' : Hid (In64 fr) := HFR.out.i64Y
          obtain ⟨fa, fc, rfl⟩ := HFR.out.shape
          obtain ⟨n1, hn1⟩ : ∃ n1, (flatB p).length = n1 := ⟨_, rfl⟩
          have hn1b : n1 ≤ 1024 := by rw [← hn1]; exact HPL.out.1
          rw [hn1] at HR ⊢
          have HN1 := Lib.hid hn1
          have hfl1 : (fr.length : Int) ≤ 200000 := by omega
          have hn1c : (n1 : Int) ≤ 1024 := by omega
          clear hfrq hn1
          by_cases hbig : n1 + fr.length ≤ 1024
          · have hgd : decide ((1024 : Int) < (n1 : Int) + (fr.length : Int)) = false := by rw [decide_eq_false_iff_not]; omega
            have HR2 : Hid (closeR p C = (joinL (rcloseB p fr), 0)) := by show _ = _; rw [HR.out, if_pos hbig]
            have HFC : Hid ((flatB (rcloseB p fr)).length ≤ 1024 ∧ In64 (flatB (rcloseB p fr))) := by
              have h1 := rclose_flat (p := p) (fr := fr)
              refine ⟨by rw [h1.1, HN1.out]; exact hbig, fun x hx => ?_⟩
              rcases h1.2 x hx with h | h
              · exact HF64.out x h
              · exact HF64'.out x h
            have hz8r := HB4.out.size
            have hpl8 : p.length ≤ 1024 := HPL.out.2
            clear hbig HR
            by_cases hex : p ≠ [] ∧ (p.getD 0 dB).1 = true
            · obtain ⟨hpe, hpt⟩ := hex
              have hpp : rcloseB p fr = (true, (p.getD 0 dB).2 ++ fr) :: p.drop 1 := by unfold rcloseB; rw [if_pos ⟨hpe, hpt⟩]
              have hlt0 : 0 < p.length := List.length_pos_iff.2 hpe
              obtain ⟨b, off, u0, rfl, hbl, hcx0, hcu0, HU0⟩ := (HPX.out wr HB4.out).at hlt0
              have hpt2 : (p.getD 0 (false, ([] : List Int))).1 = true := hpt
              rw [hpt2] at hcx0
              simp only [Nat.zero_mul, Nat.add_zero] at hcx0 hcu0
              have hx0l : (p.getD 0 dB).2.length ≤ 1024 := by
                have := len_flatB (p := p) (b := p.getD 0 dB) (by have hg : p.getD 0 dB = p[0] := by simp [List.getD, hlt0]
                                                                  rw [hg]; exact List.getElem_mem _)
                have := HPL.out.1
                omega
              have HFR1 := IsBlocks.from1 (A := if c1 = 1 then some ⟨b, off, none⟩ else some ⟨b, off + 2, none⟩) (HPX.out wr HB4.out) hlt0 rfl
              have hrun0 := fun X => slice_run1 X ⟨b, off, none⟩ p.length c1 hlt0
              rw [Addr.add_lit] at hrun0
              generalize (if c1 = 1 then some (⟨b, off, none⟩ : Addr) else some ⟨b, off + 2, none⟩) = A2 at *
              obtain ⟨pm, hpm⟩ : ∃ pm, p.length - 1 = pm := ⟨_, rfl⟩
              obtain ⟨cm, hcm⟩ : ∃ cm, c1 - 1 = cm := ⟨_, rfl⟩
              rw [hpm, hcm] at HFR1
              have hrun : ∀ X, (Instr.slice 22 (.slice (some ⟨b, off, none⟩) p.length c1) (some (.int .i64 1)) none none).run Try.prog X = .ok (.slice A2 pm cm) X := fun X => by rw [hrun0 X, hpm, hcm]
              obtain ⟨s, hs1, hs2, hs3, hs4, hs5⟩ := blk_vals HFR1
              have hcn : A2 = none → s = [] ∧ cm = 0 := fun e => by
                refine ⟨hs5 e, ?_⟩
                obtain ⟨a', cap', e', hcp, _⟩ := HFR1
                injection e' with e1 _ e3
                subst e1; subst e3
                exact hcp.2 e
              have hsl : pm = s.length := by rw [hs2, ← hs1, shapeT_len]
              have hpml : pm ≤ 1024 := by rw [← hpm]; omega
              have hpz : (0 : Int) < (p.length : Int) := by omega
              obtain ⟨x0, hx0⟩ : ∃ x0, (p.getD 0 dB).2 = x0 := ⟨_, rfl⟩
              have HU0' : IsInts wr u0 x0 := by rw [← hx0]; exact HU0
              rw [hx0] at hpp hx0l
              obtain ⟨xa, xc, rfl⟩ := HU0'.shape
              obtain ⟨T, hT⟩ : ∃ T, x0 ++ fr = T := ⟨_, rfl⟩
              have HTT := Lib.hid hT
              rw [hT] at hpp
              have hTl : T.length ≤ 201024 := by rw [← hT, List.length_append]; omega
              have HPQ := Lib.hid hpp
              have HS1 := Lib.hid hs1
              have HS3 := Lib.hid hs3
              have HS4 := Lib.hid hs4
              have HCN := Lib.hid hcn
              have HSL := Lib.hid hsl
              have HRB2 : Hid (∀ b ∈ rcloseB p fr, b.2.length ≤ 4000000 ∧ In64 b.2) := fun b hb => ⟨by have := len_flatB hb; have := HFC.out.1; omega, fun x hx => HFC.out.2 x (mem_flatB hb hx)⟩
              have HZ4 : Hid (w.heap.size + 2 ≤ wr.heap.size) := Nat.le_trans hz3 hzr
              have HAL := Lib.hid ((Below.refl wr.heap.size wr).alloc (Nat.le_refl _) (.cells #[] 3))
              have HOW0 : Hid (Own (wr.alloc (.cells #[] 3)) wr.heap.size (.slice (some ⟨wr.heap.size, 0, none⟩) 0 0) []) := Own.built3 (Nat.le_refl _)
              have HUX0 : Hid (∀ X, Below wr.heap.size wr X → IsInts X (.slice xa x0.length xc) x0 ∧ IsInts X (.slice fa fr.length fc) fr) := fun X hX => ⟨HU0'.below hX (Nat.le_refl _), HFR.out.below hX (Nat.le_refl _)⟩
              have hbw0 : b < wr.heap.size := hbl
              have HHX := Lib.hid (And.intro hcx0 hcu0)
              clear hs1 hs2 hs3 hs4 hs5 hcn hsl hpp hpe hpt hpt2 hlt0 HFR1 hrun0 hpm hcm hx0 HU0 HU0' hT
              go_upto_region 19 with (first
                | (at_builtin; refine wpList_app rfl (.tmp 81) (.tmp 82) rfl wr.heap.size _ (.slice fa fr.length fc) x0 fr rfl rfl HO7.out (HUX0.out _ HB7.out).2 (by omega) HB7.out.size ?_; intro v8 w8 ho8 hg8; rw [HTT.out] at ho8; have HB8w := Lib.hid (HB7.out.grown hg8 HB7.out.size (fun j hj => (HO7.out.lt j hj).1)); obtain ⟨va, vc8, rfl⟩ := own_shapeX ho8; have HO8 := Lib.hid ho8; clear ho8 hg8)
                | (at_builtin; refine wpList_app rfl (.tmp 76) (.tmp 80) rfl wr.heap.size (.slice (some ⟨wr.heap.size, 0, none⟩) 0 0) (.slice xa x0.length xc) [] x0 rfl rfl HOW0.out (HUX0.out _ HAL.out).1 (by simp; omega) HAL.out.size ?_; intro v7 w7 ho7 hg7; have HB7 := Lib.hid (HAL.out.grown hg7 HAL.out.size (fun j hj => (HOW0.out.lt j hj).1)); have HO7 : Hid (Own w7 wr.heap.size v7 x0) := ho7; clear ho7 hg7))
              have HROW := Lib.hid (row_oneB w8 true (.slice va T.length vc8) wr.heap.size HB8w.out.size T)
              have HAL8 := Lib.hid (HB8w.out.alloc HB8w.out.size (.cells #[.bool true, .slice va T.length vc8] 53))
              have HOW8 : Hid (Own (w8.alloc (.cells #[.bool true, .slice va T.length vc8] 53)) wr.heap.size (.slice va T.length vc8) T) := HO8.out.alloc _
              refine wp_region_lit ?_
              refine wpList_plain rfl fun K hK => ?_
              have HK0 := Lib.hid hK
              clear hK
              go_simp
              refine HK0.out _ _ ?_
              clear HK0 K
              refine wpList_plain rfl fun K hK => ?_
              have HK0 := Lib.hid hK
              clear hK
              go_simp
              refine HK0.out _ _ ?_
              clear HK0 K
              refine wpList_buildB rfl 85 rfl _ rfl true va T.length vc8 rfl ?_
              intro wb hwb
              have hrr : RowB wr wb wr.heap.size (.slice (some ⟨w8.heap.size, 0, none⟩) 1 1) [(true, .slice va T.length vc8, T)] := by
                rw [hwb]
                exact rowB_mk HAL8.out HROW.out (fun x hx => by rw [List.mem_singleton] at hx; subst hx; exact .inl HOW8.out)
              have HRR := Lib.hid hrr
              clear hwb hrr
              have hbd : ([(true, .slice va T.length vc8, T)] : List Trp).length + s.length ≤ 1000000 := by rw [← HSL.out]; simp; omega
              have HBD := Lib.hid hbd
              clear hbd
              go_wp2_with (at_builtin; refine wpList_appBs (w0 := wr) rfl (.tmp 86) (.tmp 88) rfl wr.heap.size (.slice (some ⟨w8.heap.size, 0, none⟩) 1 1) [(true, .slice va T.length vc8, T)] s A2 pm cm rfl rfl HRR.out.row HRR.out.below HSL.out HS3.out HS4.out HCN.out HBD.out HRR.out.below.size ?_; intro v4 w4 hrow4 hg4; have HR4 := Lib.hid (RowB.more (s := s) HRR.out HRR.out.below.size (Below.refl _ _) (fun x hx => .inr (HS3.out x hx)) hrow4 hg4); clear hrow4 hg4)
              have HI4 : Hid (IsBlocks w4 v4 (rcloseB p fr)) := rows_blocks HR4.out (by rw [shapeT_app, HS1.out, HPQ.out]; rfl) (by rw [HPQ.out]; simp; omega) HRB2.out
              have HB8 : Hid (Below (w.heap.size + 2) W w4) := HB4.out.trans (HR4.out.below.mono HZ4.out)
              have HJD : Hid (∀ X, Quiet w4 X → Calls Try.prog 96 #[v4] X fun e w' => ∃ v9 n9 k9, e = .returned (.slice v9 n9 k9) ∧ IsBlocks w' (.slice v9 n9 k9) (joinL (rcloseB p fr)) ∧ Below X.heap.size X w') := fun X hX =>
                (rjoined_any v4 (rcloseB p fr) X (HI4.out.quiet hX) (by have := HFC.out.1; omega) HFC.out.2).mono fun e w' h => by
                  obtain ⟨v, t, rfl, hr, hs⟩ := h
                  have hj := joined_blocks hr hs (by have := HFC.out.1; omega) HFC.out.2
                  obtain ⟨a, c, rfl⟩ := hr.shape
                  exact ⟨a, _, c, rfl, hj, hr.below⟩
              obtain ⟨m0, m1, m2, m3, m4, m5⟩ := HX.out w4 HB8.out
              refine wp_region_held_drew (S := fun X => X.cell? ⟨w.heap.size, 1, none⟩ = some (.slice a3 C.length c3)) (by kernel_rfl) m1 (fun hS0 => ?_)
              have hqx : Quiet w4 w4.drew := ⟨1, rfl⟩
              have HB8x : Hid (Below (w.heap.size + 2) W w4.drew) := HB8.out.trans (hqx.below _)
              have hz8x : w.heap.size + 2 ≤ w4.drew.heap.size := Nat.le_trans HZ4.out HR4.out.below.size
              clear m0 m1 m2 m3 m4 m5
              generalize w4.drew = x0 at *
              refine takeW (i := 0) (v := v4) (some 95) rfl rfl (by kernel_rfl) (by kernel_rfl) (by kernel_rfl) (fun _ _ _ h => h) (Or.inl ⟨by rfl, ?_⟩) (by assumption) ?_
              · intro wz hSw; have y1 := hSw; go_simp
              try simp only [Act.put, List.setIfInBounds_toArray, List.set_cons_zero, List.set_cons_succ]
              refine takeW (i := 2) (v := .pointer (some ⟨w.heap.size, 1, none⟩)) (some 97) rfl rfl (by kernel_rfl) (by kernel_rfl) (by kernel_rfl) (fun _ _ _ h => h) (Or.inl ⟨by rfl, ?_⟩) (by assumption) ?_
              · intro wz hSw; have y1 := hSw; go_simp
              try simp only [Act.put, List.setIfInBounds_toArray, List.set_cons_zero, List.set_cons_succ]
              refine takeW (i := 3) (v := .slice a3 C.length c3) (some 98) rfl rfl (by kernel_rfl) (by kernel_rfl) (by kernel_rfl) (fun _ _ _ h => h) (Or.inl ⟨by rfl, ?_⟩) (by assumption) ?_
              · intro wz hSw; have y1 := hSw; go_simp
              try simp only [Act.put, List.setIfInBounds_toArray, List.set_cons_zero, List.set_cons_succ]
              refine wpAnyH_ready (rs := [1]) (by kernel_rfl) (by simp) ?_
              refine AllReadyH.cons rfl (fun K hK => ?_) AllReadyH.nil
              go_simp
              go_wp2_with (go_at_call 96; refine (HJD.out _ hqx).mono ?_; rintro e w9 ⟨v9, n9, k9, rfl, hi9, hb9⟩)
              have hb10 : Below (w.heap.size + 2) W w9 := HB8x.out.trans (hb9.mono hz8x)
              obtain ⟨l0, l1, l2, l3, l4, l5⟩ := HX.out w9 hb10
              refine hK.out _ _ l1 (fun _ => ?_)
              clear hK K
              refine takeW (i := 4) (v := .agg #[.slice v9 n9 k9, .slice a3 C.length c3]) (some 99) rfl rfl (by kernel_rfl) (by kernel_rfl) (by kernel_rfl) (fun _ _ _ h => h) (Or.inl ⟨by rfl, ?_⟩) (by assumption) ?_
              · intro wz hSw; have y1 := hSw; go_simp
              try simp only [Act.put, List.setIfInBounds_toArray, List.set_cons_zero, List.set_cons_succ]
              refine wpAnyH_ready (rs := [5]) (by kernel_rfl) (by simp) ?_
              refine AllReadyH.cons rfl (fun K hK => ?_) AllReadyH.nil
              go_simp
              refine hK.out _ _ (by rw [set2_cell _ _ _ (by omega)]; exact l1) (fun _ => ?_)
              clear hK K
              try simp only [Act.put, List.setIfInBounds_toArray, List.set_cons_zero, List.set_cons_succ]
              refine takeW (i := 6) (v := .int .i64 0) (some 3) rfl rfl (by kernel_rfl) (by kernel_rfl) (by kernel_rfl) (fun _ _ _ h => h) (Or.inl ⟨by rfl, ?_⟩) (by assumption) ?_
              · intro wz hSw; have y1 := hSw; go_simp
              try simp only [Act.put, List.setIfInBounds_toArray, List.set_cons_zero, List.set_cons_succ]
              refine wpAnyH_done (by kernel_rfl) ?_ _
              go_wp2
              obtain ⟨g0, g1⟩ := qbf_set (w.heap.size + 1) w9 _ _ (.slice v9 n9 k9) (.slice a3 C.length c3) l2 l3
              refine ⟨rfl, .tuple #[.agg #[.slice v9 n9 k9, .slice a3 C.length c3], .int .i64 0], by simp [results, Try.f35, go_sem, g0, g1], .inl ?_, ?_⟩
              · rw [HR2.out]
                exact ⟨rfl, _, rfl, blocks_set2 (HBQ.out w9 hb10) hi9⟩
              · exact ((HB0.out.trans (hb10.mono (by omega))).setCell (by simp) _).setCell (by simp) _
            · have hpp : rcloseB p fr = (true, fr) :: p := by unfold rcloseB; rw [if_neg hex]
              have HPQ := Lib.hid hpp
              obtain ⟨s, hs1, hs2, hs3, hs4, hs5⟩ := blk_vals (HPX.out wr HB4.out)
              have hcn : a1 = none → s = [] ∧ c1 = 0 := fun e => by
                refine ⟨hs5 e, ?_⟩
                obtain ⟨a', cap', e', hcp, _⟩ := HPP.out
                injection e' with e1 _ e3
                subst e1; subst e3
                exact hcp.2 e
              have hsl : p.length = s.length := by rw [← hs1, shapeT_len]
              have HS1 := Lib.hid hs1
              have HS3 := Lib.hid hs3
              have HS4 := Lib.hid hs4
              have HCN := Lib.hid hcn
              have HSL := Lib.hid hsl
              have hbd : ([(true, .slice fa fr.length fc, fr)] : List Trp).length + s.length ≤ 1000000 := by rw [← hsl]; simp; omega
              have HBD := Lib.hid hbd
              have HROW := Lib.hid (row_oneB wr true (.slice fa fr.length fc) wr.heap.size (Nat.le_refl _) fr)
              have HAL := Lib.hid ((Below.refl wr.heap.size wr).alloc (Nat.le_refl _) (.cells #[.bool true, .slice fa fr.length fc] 53))
              have hdx : (p = []) ∨ (p ≠ [] ∧ (p.getD 0 dB).1 = false) := by
                by_cases h : p = []
                · exact .inl h
                · cases h3 : (p.getD 0 dB).1 with
                  | false => exact .inr ⟨h, rfl⟩
                  | true => exact absurd ⟨h, h3⟩ hex
              have hqq : (∃ (q : Bool), True) := ⟨true, trivial⟩
              clear hs1 hs2 hs3 hs4 hs5 hcn hsl hbd hpp hex hqq
              have HRB2 : Hid (∀ b ∈ rcloseB p fr, b.2.length ≤ 4000000 ∧ In64 b.2) := fun b hb => ⟨by have := len_flatB hb; have := HFC.out.1; omega, fun x hx => HFC.out.2 x (mem_flatB hb hx)⟩
              have HEL : Hid (∀ w4, ∀ x ∈ ([(true, .slice fa fr.length fc, fr)] ++ s : List Trp), ElemB wr w4 wr.heap.size x.2.1 x.2.2) := fun w4 x hx => by
                rcases List.mem_append.1 hx with hx | hx
                · rw [List.mem_singleton] at hx
                  subst hx
                  exact .inr HFR.out
                · exact .inr (HS3.out x hx)
              have HZ4 : Hid (w.heap.size + 2 ≤ wr.heap.size) := Nat.le_trans hz3 hzr
              rcases hdx with hpe | ⟨hpe, hpf⟩
              · have hp0 : p.length = 0 := by rw [hpe]; rfl
                rw [hp0] at d0 ⊢
                have HP0 := Lib.hid hp0
                clear hpe hp0
                go_upto_region 20 with fail
                refine wp_region_lit ?_
                refine wpList_plain rfl fun K hK => ?_
                have HK0 := Lib.hid hK
                clear hK
                go_simp
                refine HK0.out _ _ ?_
                clear HK0 K
                refine wpList_plain rfl fun K hK => ?_
                have HK0 := Lib.hid hK
                clear hK
                go_simp
                refine HK0.out _ _ ?_
                clear HK0 K
                refine wpList_buildB rfl 91 rfl _ rfl true fa fr.length fc rfl ?_
                intro wb hwb
                have hrb : wb.ownsRow wr.heap.size 53 2 (.slice (some ⟨wr.heap.size, 0, none⟩) 1 1) ([(true, .slice fa fr.length fc, fr)] : List Trp).length (cellsT [(true, .slice fa fr.length fc, fr)]) := by rw [hwb]; exact HROW.out
                have hbb : Below wr.heap.size wr wb := by rw [hwb]; exact HAL.out
                have HRB := Lib.hid hrb
                have HBB := Lib.hid hbb
                clear hwb hrb hbb
                obtain ⟨f0, f1, f2, f3, f4, f5⟩ := HX.out wb (HB4.out.trans (HBB.out.mono HZ4.out))
                go_wp2_with (at_builtin; refine wpList_appBs (w0 := wr) rfl (.tmp 92) (.tmp 93) rfl wr.heap.size (.slice (some ⟨wr.heap.size, 0, none⟩) 1 1) [(true, .slice fa fr.length fc, fr)] s a1 _ c1 rfl rfl HRB.out HBB.out (HP0.out.symm.trans HSL.out) HS3.out HS4.out HCN.out HBD.out HBB.out.size ?_; intro v4 w4 hrow4 hg4; have HR4 := Lib.hid (rowB_mk (HBB.out.grown hg4 HBB.out.size (fun j hj => (rowB_lt HRB.out j hj).1)) hrow4 (HEL.out _)); clear hrow4 hg4)
                have HI4 : Hid (IsBlocks w4 v4 (rcloseB p fr)) := rows_blocks HR4.out (by rw [shapeT_app, HS1.out, HPQ.out]; rfl) (by rw [HPQ.out]; simp; omega) HRB2.out
                have HB8 : Hid (Below (w.heap.size + 2) W w4) := HB4.out.trans (HR4.out.below.mono HZ4.out)
                have HJD : Hid (∀ X, Quiet w4 X → Calls Try.prog 96 #[v4] X fun e w' => ∃ v9 n9 k9, e = .returned (.slice v9 n9 k9) ∧ IsBlocks w' (.slice v9 n9 k9) (joinL (rcloseB p fr)) ∧ Below X.heap.size X w') := fun X hX =>
                  (rjoined_any v4 (rcloseB p fr) X (HI4.out.quiet hX) (by have := HFC.out.1; omega) HFC.out.2).mono fun e w' h => by
                    obtain ⟨v, t, rfl, hr, hs⟩ := h
                    have hj := joined_blocks hr hs (by have := HFC.out.1; omega) HFC.out.2
                    obtain ⟨a, c, rfl⟩ := hr.shape
                    exact ⟨a, _, c, rfl, hj, hr.below⟩
                obtain ⟨m0, m1, m2, m3, m4, m5⟩ := HX.out w4 HB8.out
                refine wp_region_held_drew (S := fun X => X.cell? ⟨w.heap.size, 1, none⟩ = some (.slice a3 C.length c3)) (by kernel_rfl) m1 (fun hS0 => ?_)
                have hqx : Quiet w4 w4.drew := ⟨1, rfl⟩
                have HB8x : Hid (Below (w.heap.size + 2) W w4.drew) := HB8.out.trans (hqx.below _)
                have hz8x : w.heap.size + 2 ≤ w4.drew.heap.size := Nat.le_trans HZ4.out HR4.out.below.size
                clear m0 m1 m2 m3 m4 m5
                generalize w4.drew = x0 at *
                refine takeW (i := 0) (v := v4) (some 95) rfl rfl (by kernel_rfl) (by kernel_rfl) (by kernel_rfl) (fun _ _ _ h => h) (Or.inl ⟨by rfl, ?_⟩) (by assumption) ?_
                · intro wz hSw; have y1 := hSw; go_simp
                try simp only [Act.put, List.setIfInBounds_toArray, List.set_cons_zero, List.set_cons_succ]
                refine takeW (i := 2) (v := .pointer (some ⟨w.heap.size, 1, none⟩)) (some 97) rfl rfl (by kernel_rfl) (by kernel_rfl) (by kernel_rfl) (fun _ _ _ h => h) (Or.inl ⟨by rfl, ?_⟩) (by assumption) ?_
                · intro wz hSw; have y1 := hSw; go_simp
                try simp only [Act.put, List.setIfInBounds_toArray, List.set_cons_zero, List.set_cons_succ]
                refine takeW (i := 3) (v := .slice a3 C.length c3) (some 98) rfl rfl (by kernel_rfl) (by kernel_rfl) (by kernel_rfl) (fun _ _ _ h => h) (Or.inl ⟨by rfl, ?_⟩) (by assumption) ?_
                · intro wz hSw; have y1 := hSw; go_simp
                try simp only [Act.put, List.setIfInBounds_toArray, List.set_cons_zero, List.set_cons_succ]
                refine wpAnyH_ready (rs := [1]) (by kernel_rfl) (by simp) ?_
                refine AllReadyH.cons rfl (fun K hK => ?_) AllReadyH.nil
                go_simp
                go_wp2_with (go_at_call 96; refine (HJD.out _ hqx).mono ?_; rintro e w9 ⟨v9, n9, k9, rfl, hi9, hb9⟩)
                have hb10 : Below (w.heap.size + 2) W w9 := HB8x.out.trans (hb9.mono hz8x)
                obtain ⟨l0, l1, l2, l3, l4, l5⟩ := HX.out w9 hb10
                refine hK.out _ _ l1 (fun _ => ?_)
                clear hK K
                refine takeW (i := 4) (v := .agg #[.slice v9 n9 k9, .slice a3 C.length c3]) (some 99) rfl rfl (by kernel_rfl) (by kernel_rfl) (by kernel_rfl) (fun _ _ _ h => h) (Or.inl ⟨by rfl, ?_⟩) (by assumption) ?_
                · intro wz hSw; have y1 := hSw; go_simp
                try simp only [Act.put, List.setIfInBounds_toArray, List.set_cons_zero, List.set_cons_succ]
                refine wpAnyH_ready (rs := [5]) (by kernel_rfl) (by simp) ?_
                refine AllReadyH.cons rfl (fun K hK => ?_) AllReadyH.nil
                go_simp
                refine hK.out _ _ (by rw [set2_cell _ _ _ (by omega)]; exact l1) (fun _ => ?_)
                clear hK K
                try simp only [Act.put, List.setIfInBounds_toArray, List.set_cons_zero, List.set_cons_succ]
                refine takeW (i := 6) (v := .int .i64 0) (some 3) rfl rfl (by kernel_rfl) (by kernel_rfl) (by kernel_rfl) (fun _ _ _ h => h) (Or.inl ⟨by rfl, ?_⟩) (by assumption) ?_
                · intro wz hSw; have y1 := hSw; go_simp
                try simp only [Act.put, List.setIfInBounds_toArray, List.set_cons_zero, List.set_cons_succ]
                refine wpAnyH_done (by kernel_rfl) ?_ _
                go_wp2
                obtain ⟨g0, g1⟩ := qbf_set (w.heap.size + 1) w9 _ _ (.slice v9 n9 k9) (.slice a3 C.length c3) l2 l3
                refine ⟨rfl, .tuple #[.agg #[.slice v9 n9 k9, .slice a3 C.length c3], .int .i64 0], by simp [results, Try.f35, go_sem, g0, g1], .inl ?_, ?_⟩
                · rw [HR2.out]
                  exact ⟨rfl, _, rfl, blocks_set2 (HBQ.out w9 hb10) hi9⟩
                · exact ((HB0.out.trans (hb10.mono (by omega))).setCell (by simp) _).setCell (by simp) _
              · have hlt0 : 0 < p.length := List.length_pos_iff.2 hpe
                obtain ⟨b, off, u0, rfl, hbl, hcx0, _, _⟩ := (HPX.out wr HB4.out).at hlt0
                have hpf2 : (p.getD 0 (false, ([] : List Int))).1 = false := hpf
                rw [hpf2] at hcx0
                simp only [Nat.zero_mul, Nat.add_zero] at hcx0
                have hpz : (0 : Int) < (p.length : Int) := by omega
                clear hpe hpf hpf2 hlt0
                go_upto_region 20 with fail
                refine wp_region_lit ?_
                refine wpList_plain rfl fun K hK => ?_
                have HK0 := Lib.hid hK
                clear hK
                go_simp
                refine HK0.out _ _ ?_
                clear HK0 K
                refine wpList_plain rfl fun K hK => ?_
                have HK0 := Lib.hid hK
                clear hK
                go_simp
                refine HK0.out _ _ ?_
                clear HK0 K
                refine wpList_buildB rfl 91 rfl _ rfl true fa fr.length fc rfl ?_
                intro wb hwb
                have hrb : wb.ownsRow wr.heap.size 53 2 (.slice (some ⟨wr.heap.size, 0, none⟩) 1 1) ([(true, .slice fa fr.length fc, fr)] : List Trp).length (cellsT [(true, .slice fa fr.length fc, fr)]) := by rw [hwb]; exact HROW.out
                have hbb : Below wr.heap.size wr wb := by rw [hwb]; exact HAL.out
                have HRB := Lib.hid hrb
                have HBB := Lib.hid hbb
                clear hwb hrb hbb
                obtain ⟨f0, f1, f2, f3, f4, f5⟩ := HX.out wb (HB4.out.trans (HBB.out.mono HZ4.out))
                go_wp2_with (at_builtin; refine wpList_appBs (w0 := wr) rfl (.tmp 92) (.tmp 93) rfl wr.heap.size (.slice (some ⟨wr.heap.size, 0, none⟩) 1 1) [(true, .slice fa fr.length fc, fr)] s (some ⟨b, off, none⟩) _ c1 rfl rfl HRB.out HBB.out HSL.out HS3.out HS4.out HCN.out HBD.out HBB.out.size ?_; intro v4 w4 hrow4 hg4; have HR4 := Lib.hid (rowB_mk (HBB.out.grown hg4 HBB.out.size (fun j hj => (rowB_lt HRB.out j hj).1)) hrow4 (HEL.out _)); clear hrow4 hg4)
                have HI4 : Hid (IsBlocks w4 v4 (rcloseB p fr)) := rows_blocks HR4.out (by rw [shapeT_app, HS1.out, HPQ.out]; rfl) (by rw [HPQ.out]; simp; omega) HRB2.out
                have HB8 : Hid (Below (w.heap.size + 2) W w4) := HB4.out.trans (HR4.out.below.mono HZ4.out)
                have HJD : Hid (∀ X, Quiet w4 X → Calls Try.prog 96 #[v4] X fun e w' => ∃ v9 n9 k9, e = .returned (.slice v9 n9 k9) ∧ IsBlocks w' (.slice v9 n9 k9) (joinL (rcloseB p fr)) ∧ Below X.heap.size X w') := fun X hX =>
                  (rjoined_any v4 (rcloseB p fr) X (HI4.out.quiet hX) (by have := HFC.out.1; omega) HFC.out.2).mono fun e w' h => by
                    obtain ⟨v, t, rfl, hr, hs⟩ := h
                    have hj := joined_blocks hr hs (by have := HFC.out.1; omega) HFC.out.2
                    obtain ⟨a, c, rfl⟩ := hr.shape
                    exact ⟨a, _, c, rfl, hj, hr.below⟩
                obtain ⟨m0, m1, m2, m3, m4, m5⟩ := HX.out w4 HB8.out
                refine wp_region_held_drew (S := fun X => X.cell? ⟨w.heap.size, 1, none⟩ = some (.slice a3 C.length c3)) (by kernel_rfl) m1 (fun hS0 => ?_)
                have hqx : Quiet w4 w4.drew := ⟨1, rfl⟩
                have HB8x : Hid (Below (w.heap.size + 2) W w4.drew) := HB8.out.trans (hqx.below _)
                have hz8x : w.heap.size + 2 ≤ w4.drew.heap.size := Nat.le_trans HZ4.out HR4.out.below.size
                clear m0 m1 m2 m3 m4 m5
                generalize w4.drew = x0 at *
                refine takeW (i := 0) (v := v4) (some 95) rfl rfl (by kernel_rfl) (by kernel_rfl) (by kernel_rfl) (fun _ _ _ h => h) (Or.inl ⟨by rfl, ?_⟩) (by assumption) ?_
                · intro wz hSw; have y1 := hSw; go_simp
                try simp only [Act.put, List.setIfInBounds_toArray, List.set_cons_zero, List.set_cons_succ]
                refine takeW (i := 2) (v := .pointer (some ⟨w.heap.size, 1, none⟩)) (some 97) rfl rfl (by kernel_rfl) (by kernel_rfl) (by kernel_rfl) (fun _ _ _ h => h) (Or.inl ⟨by rfl, ?_⟩) (by assumption) ?_
                · intro wz hSw; have y1 := hSw; go_simp
                try simp only [Act.put, List.setIfInBounds_toArray, List.set_cons_zero, List.set_cons_succ]
                refine takeW (i := 3) (v := .slice a3 C.length c3) (some 98) rfl rfl (by kernel_rfl) (by kernel_rfl) (by kernel_rfl) (fun _ _ _ h => h) (Or.inl ⟨by rfl, ?_⟩) (by assumption) ?_
                · intro wz hSw; have y1 := hSw; go_simp
                try simp only [Act.put, List.setIfInBounds_toArray, List.set_cons_zero, List.set_cons_succ]
                refine wpAnyH_ready (rs := [1]) (by kernel_rfl) (by simp) ?_
                refine AllReadyH.cons rfl (fun K hK => ?_) AllReadyH.nil
                go_simp
                go_wp2_with (go_at_call 96; refine (HJD.out _ hqx).mono ?_; rintro e w9 ⟨v9, n9, k9, rfl, hi9, hb9⟩)
                have hb10 : Below (w.heap.size + 2) W w9 := HB8x.out.trans (hb9.mono hz8x)
                obtain ⟨l0, l1, l2, l3, l4, l5⟩ := HX.out w9 hb10
                refine hK.out _ _ l1 (fun _ => ?_)
                clear hK K
                refine takeW (i := 4) (v := .agg #[.slice v9 n9 k9, .slice a3 C.length c3]) (some 99) rfl rfl (by kernel_rfl) (by kernel_rfl) (by kernel_rfl) (fun _ _ _ h => h) (Or.inl ⟨by rfl, ?_⟩) (by assumption) ?_
                · intro wz hSw; have y1 := hSw; go_simp
                try simp only [Act.put, List.setIfInBounds_toArray, List.set_cons_zero, List.set_cons_succ]
                refine wpAnyH_ready (rs := [5]) (by kernel_rfl) (by simp) ?_
                refine AllReadyH.cons rfl (fun K hK => ?_) AllReadyH.nil
                go_simp
                refine hK.out _ _ (by rw [set2_cell _ _ _ (by omega)]; exact l1) (fun _ => ?_)
                clear hK K
                try simp only [Act.put, List.setIfInBounds_toArray, List.set_cons_zero, List.set_cons_succ]
                refine takeW (i := 6) (v := .int .i64 0) (some 3) rfl rfl (by kernel_rfl) (by kernel_rfl) (by kernel_rfl) (fun _ _ _ h => h) (Or.inl ⟨by rfl, ?_⟩) (by assumption) ?_
                · intro wz hSw; have y1 := hSw; go_simp
                try simp only [Act.put, List.setIfInBounds_toArray, List.set_cons_zero, List.set_cons_succ]
                refine wpAnyH_done (by kernel_rfl) ?_ _
                go_wp2
                obtain ⟨g0, g1⟩ := qbf_set (w.heap.size + 1) w9 _ _ (.slice v9 n9 k9) (.slice a3 C.length c3) l2 l3
                refine ⟨rfl, .tuple #[.agg #[.slice v9 n9 k9, .slice a3 C.length c3], .int .i64 0], by simp [results, Try.f35, go_sem, g0, g1], .inl ?_, ?_⟩
                · rw [HR2.out]
                  exact ⟨rfl, _, rfl, blocks_set2 (HBQ.out w9 hb10) hi9⟩
                · exact ((HB0.out.trans (hb10.mono (by omega))).setCell (by simp) _).setCell (by simp) _
          · have hgd : decide ((1024 : Int) < (n1 : Int) + (fr.length : Int)) = true := by rw [decide_eq_true_eq]; omega
            have HR2 : Hid (closeR p C = ([], 3)) := by show _ = _; rw [HR.out, if_neg hbig]
            clear hbig HR
            go_wp2
            obtain ⟨g0, g1⟩ := qbf_set (w.heap.size + 1) wr _ _ (.slice none 0 0) (.slice none 0 0) d2 d3
            refine ⟨rfl, .tuple #[.agg #[.slice none 0 0, .slice none 0 0], .int .i64 3], by simp [results, Try.f35, go_sem, g0, g1], .inr ?_, ?_⟩
            · rw [HR2.out]
              exact ⟨by decide, rfl⟩
            · exact ((HB0.out.trans (HB4.out.mono (by omega))).setCell (by simp) _).setCell (by simp) _
end Go.Proofs.Ytfodafaclhoibaa
