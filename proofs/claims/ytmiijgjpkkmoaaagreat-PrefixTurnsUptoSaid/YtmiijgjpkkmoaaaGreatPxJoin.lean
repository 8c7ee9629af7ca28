/- prefix.Join. -/
import Derived.Test.YtmiijgjpkkmoaaaGreatMpI
import Derived.Test.YtmiijgjpkkmoaaaGreatMpB
import Derived.Test.YtmiijgjpkkmoaaaGreatMpH
import Derived.Test.YtmiijgjpkkmoaaaGreatMpF
namespace Go.Proofs.YtmiijgjpkkmoaaaGreat
open Go.RowKit Go.Shelf
set_option linter.unusedVariables false
set_option linter.unusedSimpArgs false
attribute [local go_sem] Oper.semAt_some cell_far frozen_far drew_cell drew_frozen

theorem nil_or_snoc {α : Type} (l : List α) : l = [] ∨ ∃ t x, l = t ++ [x] := by
  rcases List.eq_nil_or_concat l with h | ⟨t, x, h⟩
  · exact .inl h
  · exact .inr ⟨t, x, by rw [h, List.concat_eq_append]⟩

theorem wrap64s {n : Int} (h0 : 0 ≤ n) (h1 : n < 9223372036854775808) : wrap64 n = n := by unfold wrap64; omega
theorem bd_wrap {m n1 : Nat} (h : m + 1 ≤ n1) (h2 : ¬ 1024 < n1) : wrap64 (m : Int) = m := wrap64s (by omega) (by omega)
theorem bd_len {k n1 : Nat} (h : k ≤ n1) (h2 : ¬ 1024 < n1) : k < 1000000 := by omega
theorem bd_int {m : Nat} : (0 : Int) ≤ (m : Int) ∧ (m : Int) < (m : Int) + 1 := by omega
theorem bd_sum {a b n1 : Nat} (h : a ≤ n1) (h1 : b ≤ n1) (h2 : ¬ 1024 < n1) : a + b ≤ 17592186044416 := by omega
theorem frozen_quiet {w w' : World} (h : Quiet w w') {a : Addr} (k : w.frozen? a = false) : w'.frozen? a = false := by obtain ⟨m, rfl⟩ := h; exact k
theorem JoinSt.keptS {S : Nat → Prop} {w w' : World} {B : Nat} {v : Value} {t : List Trp} (h : JoinSt w B v t) (k : Kept S w w') (hS : ∀ g, B ≤ g → ¬ S g) : JoinSt w' B v t :=
  ⟨k.row h.row (fun g hg => hS g (h.vlt g hg).1), fun x hx => k.row (h.owns x hx) (fun g hg => hS g ((h.owns x hx).lt g hg).1), h.apart, h.full⟩
theorem Own.sh {w : World} {B : Nat} {v : Value} {xs : List Int} (h : Own w B v xs) (hne : xs ≠ []) : ∃ g cap, v = .slice (some ⟨g, 0, none⟩) xs.length cap := by
  rcases h.2 with ⟨rfl, h2⟩ | ⟨g, cap, cur, rfl, _⟩
  · exact absurd (List.eq_nil_of_length_eq_zero h2) hne
  · exact ⟨_, _, rfl⟩

def JoinPost (w : World) (p : List Blk) (e : Ending) (w' : World) : Prop :=
  ∃ v t, e = .returned (.tuple #[v, .int .i64 (joinA p).2]) ∧ JoinSt w' w.heap.size v t ∧ shapeT t = (joinA p).1 ∧ Below w.heap.size w w'

set_option maxRecDepth 100000 in
set_option maxHeartbeats 3200000 in
theorem join1_any (vp : Value) (p : List Blk) (w : World) (HP : IsBlocks w vp p) (hfl : (flatB p).length ≤ 4000000) :
    Calls Tryz.prog 24 #[vp] w (JoinPost w p) := by
  refine (callsIn_wide (n := 5)).1 ?_
  have HPP := Lib.hid HP
  obtain ⟨a, cap, rfl, hlp⟩ := HP.shape
  have hmm := @run_makeMap Tryz.prog
  have q0 := Boxed.new w 22 (.slice none 0 0)
  have q1 := Boxed.new (w.alloc (.cells #[.slice none 0 0] 22)) 33 (.int .i64 0)
  have q3 := Boxed.new (((w.alloc (.cells #[.slice none 0 0] 22)).alloc (.cells #[.int .i64 0] 33)).alloc (.map #[] 0)) 83 (.map (some (w.heap.size + 1 + 1)))
  have q2 := SetI.made ((w.alloc (.cells #[.slice none 0 0] 22)).alloc (.cells #[.int .i64 0] 33))
  simp only [World.size_alloc] at q1 q2 q3
  have b0 := ((q0.alloc (.cells #[.int .i64 0] 33)).alloc (.map #[] 0)).alloc (.cells #[.map (some (w.heap.size + 1 + 1))] 83)
  have b1 := (q1.alloc (.map #[] 0)).alloc (.cells #[.map (some (w.heap.size + 1 + 1))] 83)
  have b2 := q2.grown (World.grownBy_alloc _ (.cells #[.map (some (w.heap.size + 1 + 1))] 83) none) (by simp)
  have hB4 : Below w.heap.size w ((((w.alloc (.cells #[.slice none 0 0] 22)).alloc (.cells #[.int .i64 0] 33)).alloc (.map #[] 0)).alloc (.cells #[.map (some (w.heap.size + 1 + 1))] 83)) :=
    ((((Below.refl _ w).alloc (Nat.le_refl _) _).alloc (by simp) _).alloc (by simp; omega) _).alloc (by simp; omega) _
  have hz4 : ((((w.alloc (.cells #[.slice none 0 0] 22)).alloc (.cells #[.int .i64 0] 33)).alloc (.map #[] 0)).alloc (.cells #[.map (some (w.heap.size + 1 + 1))] 83)).heap.size = w.heap.size + 4 := by simp
  have C0 := Lib.hid b0
  have C1 := Lib.hid b1
  have C2 := Lib.hid b2
  have C3 := Lib.hid q3
  have HB4 := Lib.hid hB4
  have HZ4 := Lib.hid hz4
  have hF93 : Fence.wide.fn 61 := trivial
  clear HP q0 q1 q2 q3 b0 b1 b2 hB4 hz4
  refine callsIn_of_wp_marks Tryz.func24 rfl trivial ?_ rfl
  simp only [Tryz.ntmps24, List.size_toArray, List.length_cons, List.length_nil, Nat.reduceAdd, Nat.reduceSub, Array.replicate_succ, Array.replicate_zero, List.push_toArray, List.append_toArray, List.nil_append, List.cons_append]
  refine wpIn_wide.2 ?_
  have HPV := Lib.hid (fun W => (callsIn_wide (n := 4)).1 (vars_in 4 a p.length cap W))
  go_wp2_with (go_at_call 61; refine (HPV.out _).mono ?_; rintro e w1 ⟨rfl, rfl⟩)
  generalize hw4 : ((((w.alloc (.cells #[.slice none 0 0] 22)).alloc (.cells #[.int .i64 0] 33)).alloc (.map #[] 0)).alloc (.cells #[.map (some (w.heap.size + 1 + 1))] 83)) = w4 at *
  clear hw4
  have hz4 := HZ4.out
  have HB5 := Lib.hid (HB4.out.alloc HB4.out.size (.cells #[.slice a p.length cap] 22))
  have hsz5 : (w4.alloc (.cells #[.slice a p.length cap] 22)).heap.size = w.heap.size + 5 := by simp [hz4]
  have bF := Boxed.new w4 22 (.slice a p.length cap)
  rw [hz4] at bF
  have HFL := Lib.hid hfl
  have hpl : (pairsB p).length ≤ 4000000 := by rw [pairs_len]; exact hfl
  clear hfl
  refine (wpIn_wide (n := 5)).1 ?_
  refine wpIn_rangeFunc_ownG rfl (by omega) (gf := 80) (lb := #[.pointer (some ⟨w.heap.size + 4, 0, none⟩)]) rfl trivial (enters_of Tryz.func80 (by kernel_rfl) rfl)
    (vars_stops 4 (by omega) (w.heap.size + 4) w (w4.alloc (.cells #[.slice a p.length cap] 22)) _ p HPP.out HB5.out (by simp [hz4]) bF.cell) belowK_t (belowK_b (by simp [hz4]; omega)) (Below.refl _ _) (fun _ => rfl)
    (fun pre W => ((SetI W (w.heap.size + 1 + 1) (pre.map (fun x => x.1.2)) ∧ singleB (pre.map (fun x => x.1.2)) = true) ∧ Boxed W (w.heap.size + 1 + 1 + 1) 83 (.map (some (w.heap.size + 1 + 1))) ∧ Boxed W w.heap.size 22 (.slice none 0 0) ∧ Boxed W (w.heap.size + 1) 33 (.int .i64 0)) ∧ Below w.heap.size w W)
    (fun c pre W => ((c = .ret ∧ singleB (pre.map (fun x => x.1.2)) = false) ∧ Boxed W w.heap.size 22 (.slice none 0 0) ∧ Boxed W (w.heap.size + 1) 33 (.int .i64 2)) ∧ Below w.heap.size w W)
    (OwnFrom.and (fun s A B row hs hg hr => by
      obtain ⟨⟨h1, h2⟩, h3, h4, h5⟩ := hs
      have hne : ∀ B', B' < w.heap.size + 5 → row ≠ some B' := fun B' hB' e => by have := (hr _ e).1; rw [hsz5] at this; omega
      exact ⟨⟨h1.grown hg (hne _ (by omega)), h2⟩, h3.kept hg (fun e => hne _ (by omega) e.symm), h4.kept hg (fun e => hne _ (by omega) e.symm), h5.kept hg (fun e => hne _ (by omega) e.symm)⟩) (ownFrom_below (Nat.le_refl _) (by rw [hsz5]; omega)))
    (fun c => OwnFrom.and (fun s A B row hs hg hr => by
      obtain ⟨h1, h4, h5⟩ := hs
      have hne : ∀ B', B' < w.heap.size + 5 → row ≠ some B' := fun B' hB' e => by have := (hr _ e).1; rw [hsz5] at this; omega
      exact ⟨h1, h4.kept hg (fun e => hne _ (by omega) e.symm), h5.kept hg (fun e => hne _ (by omega) e.symm)⟩) (ownFrom_below (Nat.le_refl _) (by rw [hsz5]; omega)))
    ⟨⟨⟨C2.out.grown (World.grownBy_alloc _ _ none) (by simp), by simp [singleB]⟩, C3.out.alloc _, C0.out.alloc _, C1.out.alloc _⟩, HB5.out⟩
    (fun x => { tmps := #[.slice a p.length cap, undef, .pointer (some ⟨w.heap.size, 0, none⟩), .pointer (some ⟨w.heap.size + 1, 0, none⟩), .pointer (some ⟨w.heap.size + 1 + 1 + 1, 0, none⟩), undef, .int .i64 x.1.2, undef, undef, undef, undef, .map (some (w.heap.size + 1 + 1)), .slice a p.length cap, .func (.func 80) #[] #[.pointer (some ⟨w.heap.size + 4, 0, none⟩)], .int .i64 (x.1.1 : Int), .int .i64 x.1.2, undef, undef, undef, undef, undef, undef, undef, undef, undef, undef, undef, undef, undef, undef, undef, undef, undef, undef, undef, undef, undef, undef, undef, undef, undef, undef, undef, undef, undef, undef, undef, undef, undef, undef, undef, undef, undef, undef, undef, undef, undef, undef, undef, undef, undef, undef, undef, undef, undef, undef, undef, undef, undef, undef, undef, undef, undef], defers := [] }) ?assign ?body ?done ?stop
  case assign =>
    intro l x W K hK
    gi_wp2
    exact hK
  case body =>
    rintro lp pre ⟨⟨i, v⟩, hx⟩ W ⟨⟨⟨hset, hsing⟩, h3, h4, h5⟩, hbel⟩ hN
    simp only at hx ⊢
    have hF94 : (Fence.wide.inRound lp).fn 62 := trivial
    have hF94b : Fence.wide.fn 62 := trivial
    have hsl : (pre.map (fun x => x.1.2)).length < 4000000 := by rw [List.length_map]; omega
    have c3 := h3.cell
    have hszW := hbel.size
    have HSI := Lib.hid hset
    have HSG := Lib.hid hsing
    have K3 := Lib.hid h3
    have K4 := Lib.hid h4
    have K5 := Lib.hid h5
    have HB := Lib.hid hbel
    cases hE : entB (pre.map (fun x => x.1.2)) v with
    | false =>
      have HEN := Lib.hid (enter_no _ _ v W hset hsl hx.2.1 hx.2.2 hE)
      have HM := Lib.hid (single_noent hE)
      have d4 := h4.cell
      have f4 := h4.frozen
      have d5 := h5.cell
      have f5 := h5.frozen
      clear hset hsing hE h3 h4 h5 hbel
      gi_wp2_with (gi_at_call 62; refine (CallsIn.inRound lp (callsIn_wide.2 HEN.out)).mono ?_; rintro e w1 ⟨rfl, rfl⟩)
      exact ⟨((KeepsOthers.setCell _ _ _).trans (KeepsOthers.setCell _ _ _)).from _, ⟨⟨rfl, by rw [List.map_append]; exact HM.out⟩, (K4.out.set _).other (by omega) _, (K5.out.other (by omega) _).set _⟩, (HB.out.setCell (p := ⟨w.heap.size, 0, none⟩) (Nat.le_refl _) _).setCell (p := ⟨w.heap.size + 1, 0, none⟩) (by simp) _⟩
    | true =>
      have HEN := Lib.hid (enter_yes _ _ v W hset hsl hx.2.1 hx.2.2 hE)
      have HM := Lib.hid (single_ent hsing hE)
      clear hset hsing hE h3 h4 h5 hbel
      gi_wp2_with (gi_at_call 62; refine (CallsIn.inRound lp (callsIn_wide.2 HEN.out)).mono ?_; rintro e w1 ⟨rfl, hs1, hk1⟩)
      exact ⟨kept_from hk1 (fun k hk e => by rw [hsz5] at hk; omega), hk1.belowB (by omega) hszW, ⟨⟨by rw [List.map_append]; exact hs1, by rw [List.map_append]; exact HM.out⟩, (hk1.block _ K3.out.lt (by omega)).trans K3.out, (hk1.block _ K4.out.lt (by omega)).trans K4.out, (hk1.block _ K5.out.lt (by omega)).trans K5.out⟩, HB.out.trans (hk1.belowB (by omega) hszW)⟩
  case stop =>
    rintro D c pre W hD hpre ⟨⟨⟨rfl, hbad⟩, h4, h5⟩, hbel⟩ hK
    refine wpIn_wide.2 ?_
    go_wp2
    rw [hsz5] at hD
    refine ⟨by simp, .inl ⟨_, _, rfl, run_takeDeferred hK, ?_⟩⟩
    have g4 := (h4.kept (grownBy_putObj' W D (.deferred none)) (fun e => by injection e; omega)).cell
    have g5 := (h5.kept (grownBy_putObj' W D (.deferred none)) (fun e => by injection e; omega)).cell
    have hj : joinA p = ([], 2) := by
      unfold joinA
      rw [if_neg]
      intro h
      have h1 : pre.map (fun x => x.1.2) <+: flatB p := by
        rw [← pairs_flat, show pre.map (fun x => x.1.2) = (pre.map (fun x => x.1)).map (fun x => x.2) from by rw [List.map_map]; rfl]
        exact hpre.map _
      rw [single_prefix h1 h] at hbad
      cases hbad
    refine ⟨.tuple #[.slice none 0 0, .int .i64 2], by simp [results, Tryz.f24, go_sem, g4, g5], .slice none 0 0, [], by rw [hj], JoinSt.nil _ _, by rw [hj]; rfl, hbel.trans (belowK_b (w := w) (Nat.le_refl _) W D _ _ (by omega) hK rfl rfl)⟩
  case done =>
    rintro D ys W hD hys ⟨⟨⟨hset, hsing⟩, h3, h4, h5⟩, hbel⟩ hK
    have hm : ys.map (fun x => x.1.2) = flatB p := by
      rw [← pairs_flat, ← hys, List.map_map]; rfl
    rw [hm] at hset hsing
    rw [hsz5] at hD
    have hDlt : D < W.heap.size := (Array.getElem?_eq_some_iff.1 hK).1
    have c3 := h3.cell
    have hln := hset.len 3
    obtain ⟨n1, hn1⟩ : ∃ n1 : Nat, (flatB p).length = n1 := ⟨_, rfl⟩
    rw [hn1] at hln
    have K4 := Lib.hid h4
    have K5 := Lib.hid h5
    have HB := Lib.hid hbel
    have HKD := Lib.hid hK
    have HSG := Lib.hid hsing
    have HN1 := Lib.hid hn1
    clear hset hsing h3 hn1 hbel hys hm hK
    by_cases hbig : 1024 < n1
    · have hbi : (1024 : Int) < (n1 : Int) := by omega
      have d4 := h4.cell
      have f4 := h4.frozen
      have d5 := h5.cell
      have f5 := h5.frozen
      clear h4 h5
      go_wp2
      have e4 := (K4.out.set (.slice none 0 0)).other (B' := w.heap.size + 1) (by omega) (.int .i64 3)
      have e5 := (K5.out.other (B' := w.heap.size) (by omega) (.slice none 0 0)).set (.int .i64 3)
      have hbe := (HB.out.setCell (p := ⟨w.heap.size, 0, none⟩) (Nat.le_refl _) (.slice none 0 0)).setCell (p := ⟨w.heap.size + 1, 0, none⟩) (by simp) (.int .i64 3)
      have hK' := ((KeepsOthers.setCell W ⟨w.heap.size, 0, none⟩ (.slice none 0 0)).trans (KeepsOthers.setCell _ ⟨w.heap.size + 1, 0, none⟩ (.int .i64 3))).same D _ HKD.out rfl
      generalize (W.setCell ⟨w.heap.size, 0, none⟩ (.slice none 0 0)).setCell ⟨w.heap.size + 1, 0, none⟩ (.int .i64 3) = W3 at *
      refine ⟨by simp, .inl ⟨_, _, rfl, run_takeDeferred hK', ?_⟩⟩
      have g4 := (e4.kept (grownBy_putObj' W3 D (.deferred none)) (fun e => by injection e; omega)).cell
      have g5 := (e5.kept (grownBy_putObj' W3 D (.deferred none)) (fun e => by injection e; omega)).cell
      have hj : joinA p = ([], 3) := by
        unfold joinA
        rw [if_pos HSG.out, if_neg (by rw [HN1.out]; omega)]
      refine ⟨.tuple #[.slice none 0 0, .int .i64 3], by simp [results, Tryz.f24, go_sem, g4, g5], .slice none 0 0, [], by rw [hj], JoinSt.nil _ _, by rw [hj]; rfl, hbe.trans (belowK_b (w := w) (Nat.le_refl _) W3 D _ _ (by omega) hK' rfl rfl)⟩
    · have hbi : decide ((1024 : Int) < (n1 : Int)) = false := by rw [decide_eq_false_iff_not]; omega
      have HJ : Hid (joinA p = (joinL p, 0)) := by show _ = _; unfold joinA; rw [if_pos HSG.out, if_pos (by rw [HN1.out]; omega)]
      clear h4 h5
      go_wp2
      go_loopw [7, 25] (fun out i wr => ∃ (k : Nat) (t : List Trp), k ≤ p.length ∧ i = .int .i64 k ∧ JoinSt wr W.heap.size out t ∧ shapeT t = joinL (p.take k) ∧ Below W.heap.size W wr) (fun _ i _ => p.length - (intOf i).toNat)
      case atStart => exact ⟨0, [], Nat.zero_le _, rfl, JoinSt.nil _ _, rfl, Below.refl _ _⟩
      case round =>
        obtain ⟨k, t, hk, rfl, hst, hsh, hbel⟩ := hrel
        have HST := Lib.hid hst
        have HSH := Lib.hid hsh
        have HBW := Lib.hid hbel
        have hszr := hbel.size
        have HTOT : Hid (Below w.heap.size w wr) := HB.out.trans (hbel.mono HB.out.size)
        obtain ⟨oa, oc, rfl⟩ := hst.shape
        clear hst hsh hbel
        by_cases hlt : k < p.length
        · obtain ⟨b, off, u, rfl, hb, hcx0, hcu0, HU⟩ := HPP.out.at hlt
          have hcx := (HTOT.out.cell (p := ⟨b, off + k * 2, none⟩) hb).trans hcx0
          have hcu := (HTOT.out.cell (p := ⟨b, off + k * 2 + 1, none⟩) hb).trans hcu0
          have HJS : Hid (joinL (p.take (k + 1)) = joinStep (joinL (p.take k)) (p.getD k dB)) := by show _ = _; rw [take_two (d := dB) hlt, joinL_snoc]
          have hl2 : (p.getD k dB).2.length ≤ n1 := by
            rw [← HN1.out]
            exact len_flatB (by simp [List.getD, hlt])
          clear hcx0 hcu0
          generalize p.getD k dB = y at *
          obtain ⟨y1, y2⟩ := y
          simp only at hcx hcu HU HJS hl2
          have hbw := HTOT.out.alloc (by have := HB.out.size; omega) (.cells #[.bool y1, u] 53)
          have HUI : Hid (IsInts (wr.alloc (.cells #[.bool y1, u] 53)) u y2) := HU.below hbw (Nat.le_refl _)
          obtain ⟨ua, uc, rfl⟩ := HU.shape
          have hva0 : (wr.alloc (.cells #[.bool y1, .slice ua y2.length uc] 53)).cell? ⟨wr.heap.size, 0, none⟩ = some (.bool y1) := cell_fresh rfl
          have hva1 : (wr.alloc (.cells #[.bool y1, .slice ua y2.length uc] 53)).cell? ⟨wr.heap.size, 1, none⟩ = some (.slice ua y2.length uc) := cell_fresh rfl
          have HSA : Hid (JoinSt (wr.alloc (.cells #[.bool y1, .slice ua y2.length uc] 53)) W.heap.size (.slice oa t.length oc) t) := HST.out.below ((Below.refl wr.heap.size wr).alloc (Nat.le_refl _) _) (Nat.le_refl _)
          have HBA : Hid (Below W.heap.size W (wr.alloc (.cells #[.bool y1, .slice ua y2.length uc] 53))) := HBW.out.alloc hszr _
          have HBD : Hid ((∀ x ∈ t, x.2.2.length ≤ n1) ∧ t.length ≤ n1) := by
            have h1 : (flatB (shapeT t)).length ≤ n1 := by
              rw [HSH.out, flat_joinL, ← HN1.out]
              have h6 : flatB p = flatB (p.take k) ++ flatB (p.drop k) := by unfold flatB; rw [← List.flatten_append, ← List.map_append, List.take_append_drop]
              rw [h6, List.length_append]
              omega
            refine ⟨fun x hx => ?_, ?_⟩
            · have h2 := len_flatB (p := shapeT t) (b := (x.1, x.2.2)) (List.mem_map_of_mem hx)
              simp only at h2
              omega
            · have h2 := count_flatB (p := shapeT t) (fun b hb => by
                obtain ⟨x, hx, rfl⟩ := List.mem_map.1 hb
                exact HST.out.full x hx)
              rw [shapeT_len] at h2
              omega
          clear HU hbw
          by_cases hy : y2 = []
          · subst hy
            go_wp2
            go_roundw
            case rel => exact ⟨k + 1, t, by omega, by go_num, HSA.out, by rw [HJS.out, HSH.out, joinStep_nil], HBA.out⟩
            case measure => simp [intOf]; omega
          · have hz : ((y2.length : Int) == 0) = false := by simpa using hy
            have HY := Lib.hid hy
            clear hy
            rcases nil_or_snoc t with rfl | ⟨t', x, rfl⟩
            · clear HST
              have HSA0 : Hid (JoinSt (wr.alloc (.cells #[.bool y1, .slice ua y2.length uc] 53)) W.heap.size (.slice oa 0 oc) ([] : List Trp)) := HSA.out
              clear HSA
              have HSA := HSA0
              clear HSA0
              go_upto_region 15 with fail
              have hszwa : (wr.alloc (.cells #[.bool y1, .slice ua y2.length uc] 53)).heap.size = wr.heap.size + 1 := by simp
              generalize wr.alloc (.cells #[.bool y1, .slice ua y2.length uc] 53) = wa at *
              go_wp2_with fail
              go_quiet (fail)
              go_wp2_with fail
              obtain ⟨wb, hwb⟩ : ∃ wb, wa.drewN nq = wb := ⟨_, rfl⟩
              have hqb : Quiet wa wb := ⟨nq, hwb.symm⟩
              rw [hwb]
              have hqd : Quiet wa wb.drew := hqb.trans ⟨1, rfl⟩
              have HSB : Hid (JoinSt wb.drew W.heap.size (.slice oa 0 oc) ([] : List Trp)) := HSA.out.below (hqd.below _) (Nat.le_refl _)
              have HBB : Hid (Below W.heap.size W wb.drew) := HBA.out.trans (hqd.below _)
              have hszb : W.heap.size ≤ wb.drew.heap.size := HBB.out.size
              have hwlt : wr.heap.size < wb.drew.heap.size := by have := hqd.size; omega
              have b0 : wb.drew.cell? ⟨wr.heap.size, 0, none⟩ = some (.bool y1) := (hqb.cell _).trans hva0
              have b1 : wb.drew.cell? ⟨wr.heap.size, 1, none⟩ = some (.slice ua y2.length uc) := (hqb.cell _).trans hva1
              have HCL : Hid (Calls Tryz.prog 31 #[.slice ua y2.length uc] wb.drew (RetOwn wb.drew y2)) := clone1_any _ y2 wb.drew ((HUI.out.quiet hqb).drewN 1)
              have HB0 := Lib.hid b0
              have HTL : Hid (([] : List Trp).length < 1000000) := by show _ < _; simp
              clear hva0 hva1 hqb hqd hwb
              refine wp_onlyN ?_
              go_region_law (first
                | (refine step_appBlk (some 40) rfl rfl (.tmp 32) (.tmp 39) rfl W.heap.size (.slice oa 0 oc) (.slice (some ⟨g6, 0, none⟩) y2.length c6) ([] : List Trp) y1 w6.heap.size rfl rfl HJ6.out (cell_fresh rfl) (cell_fresh rfl) rfl HTL.out HW6.out ?_; intro v7 w7 hrow7 hg7; have HR7 := Lib.hid hrow7; have HG7 := Lib.hid hg7; clear hrow7 hg7)
                | (go_simp; go_at_call 31; refine HCL.out.mono ?_; rintro e w6 ⟨u6, rfl, ho6, hb6⟩; obtain ⟨g6, c6, rfl⟩ := ho6.sh HY.out; have l6 : w6.cell? ⟨wr.heap.size, 0, none⟩ = some (.bool y1) := (hb6.cell (p := ⟨wr.heap.size, 0, none⟩) hwlt).trans HB0.out; have HJ6 := Lib.hid (HSB.out.below (hb6.alloc hb6.size (.cells #[.bool y1, .slice (some ⟨g6, 0, none⟩) y2.length c6] 53)) (Nat.le_refl _)).row; have HW6 := Lib.hid (Nat.le_trans hszb (hb6.alloc hb6.size (.cells #[.bool y1, .slice (some ⟨g6, 0, none⟩) y2.length c6] 53)).size); have HO6 := Lib.hid ho6; have HB6 := Lib.hid hb6; clear ho6 hb6))
              all_goals
                simp only [OnlyN]
                have HS7 := Lib.hid (JoinSt.snoc HSB.out hszb HB6.out HO6.out HY.out HR7.out HG7.out)
                have HB7 := Lib.hid (((HBB.out.trans (HB6.out.mono hszb)).alloc (by have := HB6.out.size; omega) (.cells #[.bool y1, .slice (some ⟨g6, 0, none⟩) y2.length c6] 53)).grown HG7.out (by have := HB6.out.size; simp; omega) (fun g hg => (HSB.out.vlt g hg).1))
                go_wp2
                go_roundw
                case rel => exact ⟨k + 1, _, by omega, by go_num, HS7.out, by rw [shapeT_app, HJS.out, joinStep_new HY.out (fun l hl => by rw [← HSH.out] at hl; cases hl), ← HSH.out]; rfl, HB7.out⟩
                case measure => simp [intOf]; omega
            · have el2 : (t' ++ [x]).length = t'.length + 1 := by simp
              rw [el2] at HSA ⊢
              clear HST
              obtain ⟨g, ocap, eo, hBg, hglt, ce, cv, hfz, hne⟩ := HSA.out.at (j := t'.length) (by simp)
              injection eo with eo1 _ eo3
              subst eo1; subst eo3
              have egd : (t' ++ [x]).getD t'.length (false, .slice none 0 0, []) = x := by simp [List.getD]
              rw [egd] at ce cv
              obtain ⟨x1, x2, x3⟩ := x
              simp only at ce cv
              obtain ⟨m, hm⟩ : ∃ m, t'.length = m := ⟨_, rfl⟩
              rw [hm] at ce cv HSA
              rw [hm]
              have hm9 : m + 1 ≤ n1 := by
                have h1 := HBD.out.2
                rwa [List.length_append, hm] at h1
              obtain ⟨mi, hmi⟩ : ∃ x : Int, (m : Int) = x := ⟨_, rfl⟩
              have hwm : wrap64 mi = mi := by rw [← hmi]; exact bd_wrap hm9 hbig
              have hm0 : 0 ≤ mi := by rw [← hmi]; exact (bd_int (m := m)).1
              have hm1 : mi < mi + 1 := by rw [← hmi]; exact (bd_int (m := m)).2
              have htn : mi.toNat = m := by rw [← hmi]; exact Int.toNat_natCast m
              have hwlt0 : wr.heap.size < (wr.alloc (.cells #[.bool y1, .slice ua y2.length uc] 53)).heap.size := by simp
              have HSA1 : Hid (JoinSt (wr.alloc (.cells #[.bool y1, .slice ua y2.length uc] 53)) W.heap.size (.slice (some ⟨g, 0, none⟩) (m + 1) oc) (t' ++ [(x1, x2, x3)])) := HSA.out
              go_upto_region 15 with fail
              generalize wr.alloc (.cells #[.bool y1, .slice ua y2.length uc] 53) = wa at *
              go_cut [46] from 46 to 58 (fun s wx => s = .bool (x1 == y1) ∧ Quiet wa wx)
              case first =>
                have h4 : (x1 = true ∨ x1 = false) ∧ (y1 = true ∨ y1 = false) := by cases x1 <;> cases y1 <;> simp
                clear HSA HSA1 HSH HJS HBD HUI HBA
                rcases h4 with ⟨rfl | rfl, rfl | rfl⟩
                all_goals
                  go_wp2_with fail
                  go_quiet (fail)
                  go_wp2
                  go_meet
                  exact ⟨rfl, ⟨_, rfl⟩⟩
              case rest =>
                obtain ⟨rfl, hqb⟩ := hcut
                cases hbe : (x1 == y1) with
                | false =>
                  have HNE := Lib.hid hbe
                  clear hbe
                  go_wp2_with fail
                  obtain ⟨wb, hwb⟩ : ∃ wb, wc = wb := ⟨_, rfl⟩
                  rw [hwb] at hqb ⊢
                  have hqd : Quiet wa wb.drew := hqb.trans ⟨1, rfl⟩
                  have HSB : Hid (JoinSt wb.drew W.heap.size (.slice (some ⟨g, 0, none⟩) (m + 1) oc) (t' ++ [(x1, x2, x3)])) := HSA.out.below (hqd.below _) (Nat.le_refl _)
                  have HBB : Hid (Below W.heap.size W wb.drew) := HBA.out.trans (hqd.below _)
                  have hszb : W.heap.size ≤ wb.drew.heap.size := HBB.out.size
                  have hwlt : wr.heap.size < wb.drew.heap.size := by have := hqd.size; omega
                  have b0 : wb.drew.cell? ⟨wr.heap.size, 0, none⟩ = some (.bool y1) := (hqb.cell _).trans hva0
                  have b1 : wb.drew.cell? ⟨wr.heap.size, 1, none⟩ = some (.slice ua y2.length uc) := (hqb.cell _).trans hva1
                  have HCL : Hid (Calls Tryz.prog 31 #[.slice ua y2.length uc] wb.drew (RetOwn wb.drew y2)) := clone1_any _ y2 wb.drew ((HUI.out.quiet hqb).drewN 1)
                  have HB0 := Lib.hid b0
                  have HTL : Hid ((t' ++ [(x1, x2, x3)]).length < 1000000) := by show _ < _; exact bd_len HBD.out.2 hbig
                  clear hva0 hva1 hqb hqd hwb
                  refine wp_onlyN ?_
                  go_region_law (first
                    | (refine step_appBlk (some 40) rfl rfl (.tmp 32) (.tmp 39) rfl W.heap.size (.slice (some ⟨g, 0, none⟩) (m + 1) oc) (.slice (some ⟨g6, 0, none⟩) y2.length c6) (t' ++ [(x1, x2, x3)]) y1 w6.heap.size rfl rfl HJ6.out (cell_fresh rfl) (cell_fresh rfl) rfl HTL.out HW6.out ?_; intro v7 w7 hrow7 hg7; have HR7 := Lib.hid hrow7; have HG7 := Lib.hid hg7; clear hrow7 hg7)
                    | (go_simp; go_at_call 31; refine HCL.out.mono ?_; rintro e w6 ⟨u6, rfl, ho6, hb6⟩; obtain ⟨g6, c6, rfl⟩ := ho6.sh HY.out; have l6 : w6.cell? ⟨wr.heap.size, 0, none⟩ = some (.bool y1) := (hb6.cell (p := ⟨wr.heap.size, 0, none⟩) hwlt).trans HB0.out; have HJ6 := Lib.hid (HSB.out.below (hb6.alloc hb6.size (.cells #[.bool y1, .slice (some ⟨g6, 0, none⟩) y2.length c6] 53)) (Nat.le_refl _)).row; have HW6 := Lib.hid (Nat.le_trans hszb (hb6.alloc hb6.size (.cells #[.bool y1, .slice (some ⟨g6, 0, none⟩) y2.length c6] 53)).size); have HO6 := Lib.hid ho6; have HB6 := Lib.hid hb6; clear ho6 hb6))
                  all_goals
                    simp only [OnlyN]
                    have HS7 := Lib.hid (JoinSt.snoc HSB.out hszb HB6.out HO6.out HY.out HR7.out HG7.out)
                    have HB7 := Lib.hid (((HBB.out.trans (HB6.out.mono hszb)).alloc (by have := HB6.out.size; omega) (.cells #[.bool y1, .slice (some ⟨g6, 0, none⟩) y2.length c6] 53)).grown HG7.out (by have := HB6.out.size; simp; omega) (fun g hg => (HSB.out.vlt g hg).1))
                    go_wp2
                    go_roundw
                    case rel => exact ⟨k + 1, _, by omega, by go_num, HS7.out, by rw [shapeT_app, HJS.out, joinStep_new HY.out (fun l hl => by rw [← HSH.out, shapeT_app] at hl; simp [shapeT] at hl; have h2 := HNE.out; subst hl; simpa using h2), ← HSH.out]; rfl, HB7.out⟩
                    case measure => simp [intOf]; omega
                | true =>
                  have hxy : x1 = y1 := by simpa using hbe
                  clear hbe
                  have hqd : Quiet wa wc.drew := hqb.trans ⟨1, rfl⟩
                  have HSB : Hid (JoinSt wc.drew W.heap.size (.slice (some ⟨g, 0, none⟩) (m + 1) oc) (t' ++ [(x1, x2, x3)])) := HSA1.out.below (hqd.below _) (Nat.le_refl _)
                  have HBB : Hid (Below W.heap.size W wc.drew) := HBA.out.trans (hqd.below _)
                  have hszb : W.heap.size ≤ wc.drew.heap.size := HBB.out.size
                  have hx3 : x3 ≠ [] := HSB.out.full (x1, x2, x3) (by simp)
                  have hox : Own wc.drew W.heap.size x2 x3 := HSB.out.owns (x1, x2, x3) (by simp)
                  have hxg : x2.ownBlock ≠ some g := fun e1 => hne (x1, x2, x3) (by simp) g e1 rfl
                  obtain ⟨gx, cx, rfl⟩ := hox.sh hx3
                  have HOX := Lib.hid hox
                  have HX3 := Lib.hid hx3
                  have HXG := Lib.hid hxg
                  have HUX : Hid (IsInts wc.drew (.slice ua y2.length uc) y2) := HUI.out.quiet hqd
                  obtain ⟨T7, hT7⟩ : ∃ T, x3 ++ y2 = T := ⟨_, rfl⟩
                  have HT7 := Lib.hid hT7
                  have HTN : Hid (T7 ≠ []) := by rw [← hT7]; exact fun e1 => HY.out (List.append_eq_nil_iff.1 e1).2
                  have HLN : Hid (x3.length + y2.length ≤ 17592186044416) := bd_sum (HBD.out.1 (x1, .slice (some ⟨gx, 0, none⟩) x3.length cx, x3) (by simp)) hl2 hbig
                  have d0 : wc.drew.cell? ⟨g, m * 2 + 1, none⟩ = some (.slice (some ⟨gx, 0, none⟩) x3.length cx) := (hqd.cell _).trans cv
                  have d1 : wc.drew.cell? ⟨wr.heap.size, 1, none⟩ = some (.slice ua y2.length uc) := (hqd.cell _).trans hva1
                  have hgd : g < wc.drew.heap.size := by have := hqd.size; omega
                  have HD0 := Lib.hid d0
                  have HFZ : Hid (wc.drew.frozen? ⟨g, m * 2 + 1, none⟩ = false) := frozen_quiet hqd (hfz _)
                  have HG := Lib.hid hgd
                  have HM := Lib.hid hm
                  have HXY := Lib.hid hxy
                  clear hx3 hox hxg hT7 hgd hm hxy hva0 hva1 ce cv hfz hne hqb hqd HSA HSA1 HUI HBA
                  go_wp2_with fail
                  refine wp_onlyN ?_
                  go_region_law (refine step_appI (some 68) rfl rfl (.tmp 65) (.tmp 67) rfl W.heap.size (.slice (some ⟨gx, 0, none⟩) x3.length cx) (.slice ua y2.length uc) x3 y2 rfl rfl HOX.out HUX.out HY.out HLN.out hszb ?_; intro v7 w7 ho7 hg7 hl7; rw [HT7.out] at ho7; obtain ⟨g7, c7, rfl⟩ := ho7.sh HTN.out; have d7 : w7.cell? ⟨g, m * 2 + 1, none⟩ = some (.slice (some ⟨gx, 0, none⟩) x3.length cx) := (hg7.cell_far ⟨g, m * 2 + 1, none⟩ HG.out (fun e1 => HXG.out e1.symm)).trans HD0.out; have f7 : w7.frozen? ⟨g, m * 2 + 1, none⟩ = false := (hg7.frozen_far ⟨g, m * 2 + 1, none⟩ HG.out (fun e1 => HXG.out e1.symm)).trans HFZ.out; have HO7 := Lib.hid ho7; have HG7 := Lib.hid hg7; have HL7 := Lib.hid hl7; clear ho7 hg7 hl7)
                  all_goals
                    simp only [OnlyN]
                    have HS8 : Hid (JoinSt (w7.setCell ⟨g, m * 2 + 1, none⟩ (.slice (some ⟨g7, 0, none⟩) T7.length c7)) W.heap.size (.slice (some ⟨g, 0, none⟩) (m + 1) oc) (t' ++ [(x1, .slice (some ⟨g7, 0, none⟩) T7.length c7, T7)])) := by
                      have h9 := JoinSt.grow (l2 := y2) HSB.out hszb (by rw [HT7.out]; exact HTN.out) (by rw [HT7.out]; exact HO7.out) HG7.out HL7.out
                      rw [HT7.out, HM.out] at h9
                      exact h9
                    have HB8 := Lib.hid ((HBB.out.grown HG7.out hszb (fun g' hg' => (HOX.out.lt g' hg').1)).setCell (p := ⟨g, m * 2 + 1, none⟩) hBg (.slice (some ⟨g7, 0, none⟩) T7.length c7))
                    have HSP : Hid (shapeT (t' ++ [(x1, Value.slice (some ⟨g7, 0, none⟩) T7.length c7, T7)]) = joinL (p.take (k + 1))) := by
                      show _ = _
                      rw [HJS.out, ← HSH.out, shapeT_app, shapeT_app, ← HXY.out]
                      show shapeT t' ++ [(x1, T7)] = joinStep (shapeT t' ++ [(x1, x3)]) (x1, y2)
                      rw [joinStep_grow HY.out, HT7.out]
                    go_wp2
                    go_roundw
                    case rel => exact ⟨k + 1, t' ++ [(x1, .slice (some ⟨g7, 0, none⟩) T7.length c7, T7)], by omega, by go_num, HS8.out, HSP.out, HB8.out⟩
                    case measure => simp [intOf]; omega
        · have hke : k = p.length := by omega
          subst hke
          rw [List.take_length] at HSH
          have hlt4 := K4.out.lt
          have hlt5 := K5.out.lt
          have P4 : Hid (Boxed wr w.heap.size 22 (.slice none 0 0)) := (HBW.out.block _ (by omega)).trans K4.out
          have P5 : Hid (Boxed wr (w.heap.size + 1) 33 (.int .i64 0)) := (HBW.out.block _ (by omega)).trans K5.out
          have PK : Hid (wr.heap[D]? = some (.deferred (some []))) := (HBW.out.block D hDlt).trans HKD.out
          have d4 := P4.out.cell
          have f4 := P4.out.frozen
          have d5 := P5.out.cell
          have f5 := P5.out.frozen
          have hWw : w.heap.size + 2 ≤ W.heap.size := by omega
          go_wp2
          have e4 := (P4.out.set (.slice oa t.length oc)).other (B' := w.heap.size + 1) (by omega) (.int .i64 0)
          have e5 := (P5.out.other (B' := w.heap.size) (by omega) (.slice oa t.length oc)).set (.int .i64 0)
          have hbe := (HTOT.out.setCell (p := ⟨w.heap.size, 0, none⟩) (Nat.le_refl _) (.slice oa t.length oc)).setCell (p := ⟨w.heap.size + 1, 0, none⟩) (by simp) (.int .i64 0)
          have hK' := ((KeepsOthers.setCell wr ⟨w.heap.size, 0, none⟩ (.slice oa t.length oc)).trans (KeepsOthers.setCell _ ⟨w.heap.size + 1, 0, none⟩ (.int .i64 0))).same D _ PK.out rfl
          have hs2 := (HST.out.keptS (Kept.setCell wr ⟨w.heap.size, 0, none⟩ (.slice oa t.length oc)) (fun g hg e => by simp only at e; omega)).keptS (Kept.setCell _ ⟨w.heap.size + 1, 0, none⟩ (.int .i64 0)) (fun g hg e => by simp only at e; omega)
          generalize (wr.setCell ⟨w.heap.size, 0, none⟩ (.slice oa t.length oc)).setCell ⟨w.heap.size + 1, 0, none⟩ (.int .i64 0) = W3 at *
          refine ⟨by simp, .inl ⟨_, _, rfl, run_takeDeferred hK', ?_⟩⟩
          have g4 := (e4.kept (grownBy_putObj' W3 D (.deferred none)) (fun e => by injection e; omega)).cell
          have g5 := (e5.kept (grownBy_putObj' W3 D (.deferred none)) (fun e => by injection e; omega)).cell
          have hs3 := hs2.keptS (Kept.of_grown (grownBy_putObj' W3 D (.deferred none))) (fun g hg e => by injection e with e; omega)
          refine ⟨.tuple #[.slice oa t.length oc, .int .i64 0], by simp [results, Tryz.f24, go_sem, g4, g5], .slice oa t.length oc, t, by rw [HJ.out], hs3.mono (by omega), by rw [HJ.out]; exact HSH.out, hbe.trans (belowK_b (w := w) (Nat.le_refl _) W3 D _ _ (by omega) hK' rfl rfl)⟩

end Go.Proofs.YtmiijgjpkkmoaaaGreat
