/- prefix.free. -/
import Derived.Test.YtmiijgjpkkmoaaaGreatMpE
import Derived.Test.YtmiijgjpkkmoaaaGreatMpH
import Derived.Test.YtmiijgjpkkmoaaaGreatMpB
import Derived.Maps.AppendAt
namespace Go.Proofs.YtmiijgjpkkmoaaaGreat
open Go.RowKit Go.Shelf
set_option linter.unusedVariables false
set_option linter.unusedSimpArgs false
attribute [local go_sem] Oper.semAt_some

def freeStep (bd S : List Int) (v : Int) : List Int := if v ∈ bd ∨ v ∈ S then S else S ++ [v]
def freeUp (bd l : List Int) : List Int := l.foldl (freeStep bd) []
theorem freeUp_snoc (bd l : List Int) (v : Int) : freeUp bd (l ++ [v]) = freeStep bd (freeUp bd l) v := by unfold freeUp; rw [List.foldl_append]; rfl
theorem freeUp_len (bd l : List Int) : (freeUp bd l).length ≤ l.length := by
  suffices h : ∀ (l S : List Int), (l.foldl (freeStep bd) S).length ≤ S.length + l.length from by have := h l []; simpa [freeUp] using this
  intro l
  induction l with
  | nil => intro S; simp
  | cons x r ih =>
    intro S
    rw [List.foldl_cons]
    have h1 := ih (freeStep bd S x)
    have h2 : (freeStep bd S x).length ≤ S.length + 1 := by unfold freeStep; split <;> simp
    simp only [List.length_cons]
    omega
def freeL (f : List (List Int)) (bd : List Int) : List Int := ascI (freeUp bd (occL f))

theorem Own.ne_map {w : World} {B b : Nat} {v : Value} {xs : List Int} {S : List Int} (h : Own w B v xs) (k : SetI w b S) : some b ≠ v.ownBlock := by
  obtain ⟨_, D, ⟨es, clock, hb, _⟩, _⟩ := k
  rcases h.2 with ⟨rfl, _⟩ | ⟨g, cap, cur, rfl, _, hg, _⟩
  · simp [Value.ownBlock]
  · intro e
    have : b = g := by simpa [Value.ownBlock] using e
    subst this
    rw [hb] at hg
    cases hg

theorem SetI.others {w w' : World} {b : Nat} {S : List Int} (h : SetI w b S) (k : KeepsOthers w w') : SetI w' b S := by
  obtain ⟨hn, D, ⟨es, clock, hb, F, rest⟩, h2⟩ := h
  exact ⟨hn, D, ⟨es, clock, k.same b _ hb rfl, F, rest⟩, h2⟩
theorem free_bd {n : Nat} (h : n < 4000000) : n + 1 ≤ maxLen ∧ (n + 1) * 8 ≤ 140737488355328 := by unfold maxLen; omega

set_option maxRecDepth 100000 in
set_option maxHeartbeats 3200000 in
theorem free_any (vf : Value) (f : List (List Int)) (b : Nat) (S : List Int) (w : World) (H : IsRows w vf f) (hm : mayCnfB f = true) (hs : SetI w b S) :
    Calls Tryz.prog 65 #[vf, .map (some b)] w (RetOwn w (freeL f S)) := by
  refine (callsIn_wide (n := 5)).1 ?_
  have HH := Lib.hid H
  have HS := Lib.hid hs
  have hblt := hs.lt
  have HF := Lib.hid (cnf_range hm)
  have hol : (occL f).length ≤ 200000 := by
    unfold mayCnfB at hm
    rw [decide_eq_true_eq] at hm
    have h1 := hm.2.1
    unfold occL
    rw [List.length_map]
    have h2 : f.flatten.length = tot f := by unfold tot; rw [List.length_flatten]
    omega
  obtain ⟨a, cap, rfl, hl⟩ := H.shape
  have hmm := @run_makeMap Tryz.prog
  have q0 := Boxed.new w 83 (.map (some b))
  have q1 := Boxed.new (w.alloc (.cells #[.map (some b)] 83)) 26 (.slice none 0 0)
  have q2 := SetI.made ((w.alloc (.cells #[.map (some b)] 83)).alloc (.cells #[.slice none 0 0] 26))
  have q3 := Boxed.new (((w.alloc (.cells #[.map (some b)] 83)).alloc (.cells #[.slice none 0 0] 26)).alloc (.map #[] 0)) 83 (.map (some (w.heap.size + 1 + 1)))
  simp only [World.size_alloc] at q1 q2 q3
  have b0 := ((q0.alloc (.cells #[.slice none 0 0] 26)).alloc (.map #[] 0)).alloc (.cells #[.map (some (w.heap.size + 1 + 1))] 83)
  have b1 := (q1.alloc (.map #[] 0)).alloc (.cells #[.map (some (w.heap.size + 1 + 1))] 83)
  have b2 := q2.grown (World.grownBy_alloc _ (.cells #[.map (some (w.heap.size + 1 + 1))] 83) none) (by simp)
  have hB4 : Below w.heap.size w ((((w.alloc (.cells #[.map (some b)] 83)).alloc (.cells #[.slice none 0 0] 26)).alloc (.map #[] 0)).alloc (.cells #[.map (some (w.heap.size + 1 + 1))] 83)) :=
    ((((Below.refl _ w).alloc (Nat.le_refl _) _).alloc (by simp) _).alloc (by simp; omega) _).alloc (by simp; omega) _
  have hz4 : ((((w.alloc (.cells #[.map (some b)] 83)).alloc (.cells #[.slice none 0 0] 26)).alloc (.map #[] 0)).alloc (.cells #[.map (some (w.heap.size + 1 + 1))] 83)).heap.size = w.heap.size + 4 := by simp
  have C0 := Lib.hid b0
  have C1 := Lib.hid b1
  have C2 := Lib.hid b2
  have C3 := Lib.hid q3
  have HB4 := Lib.hid hB4
  have HZ4 := Lib.hid hz4
  have hF145 : Fence.wide.fn 82 := trivial
  obtain ⟨i0, hi, hzz0, hzz1, hzz2⟩ := info_parts info_int
  clear H hs q0 q1 q2 q3 b0 b1 b2 hB4 hz4 hm
  refine callsIn_of_wp_marks Tryz.func65 rfl trivial ?_ rfl
  simp only [Tryz.ntmps65, List.size_toArray, List.length_cons, List.length_nil, Nat.reduceAdd, Nat.reduceSub, Array.replicate_succ, Array.replicate_zero, List.push_toArray, List.append_toArray, List.nil_append, List.cons_append]
  gi_wp2_with (gi_at_call 82; refine (occ_in _ _ _ _ _).mono ?_; rintro e w1 ⟨rfl, rfl⟩)
  generalize hw4 : ((((w.alloc (.cells #[.map (some b)] 83)).alloc (.cells #[.slice none 0 0] 26)).alloc (.map #[] 0)).alloc (.cells #[.map (some (w.heap.size + 1 + 1))] 83)) = w4 at *
  clear hw4
  have hz4 := HZ4.out
  have HB5 := Lib.hid (HB4.out.alloc HB4.out.size (.cells #[.slice a f.length cap] 23))
  have hsz5 : (w4.alloc (.cells #[.slice a f.length cap] 23)).heap.size = w.heap.size + 5 := by simp [hz4]
  have bF := Boxed.new w4 23 (.slice a f.length cap)
  rw [hz4] at bF
  refine wpIn_rangeFunc_ownG rfl (by omega) (gf := 105) (lb := #[.pointer (some ⟨w.heap.size + 4, 0, none⟩)]) rfl trivial (enters_of Tryz.func105 (by kernel_rfl) rfl)
    (occ_stops 4 (by omega) (w.heap.size + 4) w (w4.alloc (.cells #[.slice a f.length cap] 23)) _ f HH.out HF.out HB5.out (by simp [hz4]) bF.cell) belowK_t (belowK_b (by simp [hz4]; omega)) (Below.refl _ _) (fun _ => rfl)
    (fun pre W => ((∃ v, Boxed W (w.heap.size + 1) 26 v ∧ Own W w.heap.size v (freeUp S (pre.map (fun x => x.1)))) ∧ SetI W (w.heap.size + 1 + 1) (freeUp S (pre.map (fun x => x.1))) ∧ Boxed W w.heap.size 83 (.map (some b)) ∧ Boxed W (w.heap.size + 1 + 1 + 1) 83 (.map (some (w.heap.size + 1 + 1)))) ∧ Below w.heap.size w W)
    (fun _ _ _ => False)
    (OwnFrom.and (fun s A B row hs hg hr => by
      obtain ⟨⟨v, h1, h2⟩, h3, h4, h5⟩ := hs
      have hne : ∀ B', B' < w.heap.size + 5 → row ≠ some B' := fun B' hB' e => by have := (hr _ e).1; rw [hsz5] at this; omega
      refine ⟨⟨v, h1.kept hg (fun e => hne _ (by omega) e.symm), h2.kept hg ?_⟩, h3.grown hg (hne _ (by omega)), h4.kept hg (fun e => hne _ (by omega) e.symm), h5.kept hg (fun e => hne _ (by omega) e.symm)⟩
      rcases h2.2 with ⟨rfl, _⟩ | ⟨g, cap', cur, rfl, _, hgb, _⟩
      · exact .inl rfl
      · refine .inr (fun e => ?_)
        obtain ⟨_, o, ho, hc⟩ := hr g e.symm
        rw [hgb] at ho
        cases ho
        cases hc) (ownFrom_below (Nat.le_refl _) (by rw [hsz5]; omega)))
    (fun _ _ _ _ _ hs _ _ => hs)
    ⟨⟨⟨_, C1.out.alloc _, Own.nil _ _⟩, C2.out.grown (World.grownBy_alloc _ _ none) (by simp), C0.out.alloc _, C3.out.alloc _⟩, HB5.out⟩
    (fun x => { tmps := #[.slice a f.length cap, .map (some b), undef, .pointer (some ⟨w.heap.size, 0, none⟩), .slice none 0 0, .pointer (some ⟨w.heap.size + 1, 0, none⟩), .pointer (some ⟨w.heap.size + 1 + 1 + 1, 0, none⟩), .int .i64 x.1, .map (some (w.heap.size + 1 + 1)), .slice a f.length cap, .func (.func 105) #[] #[.pointer (some ⟨w.heap.size + 4, 0, none⟩)], .int .i64 x.1, undef, undef, undef, undef, undef, undef, undef, undef, undef, undef, undef, undef, undef, undef, undef, undef], defers := [] }) ?assign ?body ?done ?stop
  case assign =>
    intro l x W K hK
    gi_wp2
    exact hK
  case body =>
    rintro lp pre ⟨x, hx⟩ W ⟨⟨⟨v, hbx, hown⟩, hset, hb0, hb3⟩, hbel⟩ hN
    simp only at hx ⊢
    have hF94 : (Fence.wide.inRound lp).fn 62 := trivial
    have hF94b : Fence.wide.fn 62 := trivial
    have c0 := hb0.cell
    have c1 := hbx.cell
    have c3 := hb3.cell
    have hszW := hbel.size
    have hz : (zeroValue 4).run Tryz.prog W = .ok (.bool false) W := rfl
    have hlk := (HS.out.below hbel (Nat.le_refl _)).look hz x (i64w (by omega) (by omega))
    have HFS : Hid (freeUp S ((pre ++ [(⟨x, hx⟩ : V16)]).map (fun x : V16 => x.1)) = freeStep S (freeUp S (pre.map (fun x => x.1))) x) := by show _ = _; rw [List.map_append]; exact freeUp_snoc _ _ _
    have hfl : (freeUp S (pre.map (fun x => x.1))).length < 4000000 := by
      have h1 := freeUp_len S (pre.map (fun x => x.1))
      rw [List.length_map] at h1
      omega
    have HST : Hid (freeStep S (freeUp S (pre.map (fun x => x.1))) x = if x ∈ S ∨ x ∈ freeUp S (pre.map (fun x => x.1)) then freeUp S (pre.map (fun x => x.1)) else freeUp S (pre.map (fun x => x.1)) ++ [x]) := rfl
    generalize freeUp S (pre.map (fun x => x.1)) = F at *
    have HBX := Lib.hid hbx
    have HO := Lib.hid hown
    have HSE := Lib.hid hset
    have K0 := Lib.hid hb0
    have K3 := Lib.hid hb3
    have HB := Lib.hid hbel
    clear hbx hown hb0 hb3 hbel
    by_cases hxS : x ∈ S
    · have hd : decide (x ∈ S) = true := by simpa using hxS
      rw [hd] at hlk
      have HV := Lib.hid (HST.out.trans (if_pos (Or.inl hxS)))
      clear HST hset hd hxS
      gi_wp2
      exact ⟨KeepsFrom.refl _ _, Below.refl _ _, ⟨⟨v, HBX.out, by rw [HFS.out, HV.out]; exact HO.out⟩, by rw [HFS.out, HV.out]; exact HSE.out, K0.out, K3.out⟩, HB.out⟩
    · have hd : decide (x ∈ S) = false := by simpa using hxS
      rw [hd] at hlk
      by_cases hxF : x ∈ F
      · have HV := Lib.hid (HST.out.trans (if_pos (Or.inr hxF)))
        have hE : entB F x = false := by unfold entB; rw [decide_eq_false_iff_not]; exact fun h => h.2.2 hxF
        have HEN := Lib.hid (enter_no _ _ x W hset hfl (by omega) (by omega) hE)
        clear HST hset hd hxS hE hxF
        gi_wp2_with (gi_at_call 62; refine (CallsIn.inRound lp (callsIn_wide.2 HEN.out)).mono ?_; rintro e w1 ⟨rfl, rfl⟩)
        exact ⟨KeepsFrom.refl _ _, Below.refl _ _, ⟨⟨v, HBX.out, by rw [HFS.out, HV.out]; exact HO.out⟩, by rw [HFS.out, HV.out]; exact HSE.out, K0.out, K3.out⟩, HB.out⟩
      · have HV := Lib.hid (HST.out.trans (if_neg (fun h => h.elim hxS hxF)))
        have hE : entB F x = true := by unfold entB; rw [decide_eq_true_eq]; exact ⟨hx.1, hx.2, hxF⟩
        have HEN := Lib.hid (enter_yes _ _ x W hset hfl (by omega) (by omega) hE)
        have hbd := free_bd hfl
        have hbd1 := hbd.1
        have hbd2 := hbd.2
        have HNM := Lib.hid (HO.out.ne_map hset)
        have HNM2 : Hid (∀ g, v.ownBlock = some g → ¬ g = w.heap.size + 1 + 1) := fun g hg e => HNM.out (by rw [hg, e])
        have hn1 : ¬ w.heap.size + 1 = w.heap.size + 1 + 1 := by omega
        have HA1 : Hid (∀ w1 : World, W.heap.size ≤ w1.heap.size → w.heap.size ≤ w1.heap.size ∧ w.heap.size ≤ (w1.alloc (.cells #[.int .i64 x] 3)).heap.size) := fun w1 h => by constructor <;> (try simp) <;> omega
        have hle1 : w.heap.size ≤ w.heap.size + 1 := by omega
        clear HST hset hd hxS hE hxF
        gi_wp2_with (first
          | (gi_at_call 62; refine (CallsIn.inRound lp (callsIn_wide.2 HEN.out)).mono ?_; rintro e w1 ⟨rfl, hs1, hk1⟩; have hbx1 : Boxed w1 (w.heap.size + 1) 26 v := (hk1.block _ HBX.out.lt hn1).trans HBX.out; have hcx1 := hbx1.cell; have hrow1 : w1.ownsRow w.heap.size 3 1 v F.length (F.map (Value.int .i64)) := hk1.row HO.out HNM2.out; have hB1 := (HA1.out w1 hk1.size).1; have hB1a := (HA1.out w1 hk1.size).2)
          | (gi_at_builtin; refine wpListIn_append_own _ rfl _ _ 26 rfl w.heap.size 3 i0 (.int .i64 0) 1 8 Tryz.underlying26 hi hzz0 hzz1 hzz2 rfl (by decide) _ _ _ rfl (hrow1.alloc _) ⟨w1.heap.size, 0, none⟩ 1 1 [.int .i64 x] rfl rfl (cell_one_new _ _ _) (by simp [Value.oneCell']) hbd1 hbd2 hB1a ?_; intro v' w2 hown' hgrow _; obtain ⟨g', cap', rfl⟩ := ownsRow_succ hown'; obtain ⟨hv1, hv2, hr2, hk2, hb2⟩ := hbx1.appended (by decide) hrow1 hB1 hle1 hown' hgrow; have hc1 := hv1.cell; have hf1 := hv1.frozen))
        have k0 : Boxed w1 w.heap.size 83 (.map (some b)) := (hk1.block _ K0.out.lt (by omega)).trans K0.out
        have k3 : Boxed w1 (w.heap.size + 1 + 1 + 1) 83 (.map (some (w.heap.size + 1 + 1))) := (hk1.block _ K3.out.lt (by omega)).trans K3.out
        have k0' := ((k0.alloc (.cells #[.int .i64 x] 3)).kept hgrow (k0.not_row (by decide) hrow1)).other (B' := w.heap.size + 1) (by omega) (.slice (some ⟨g', 0, none⟩) (F.length + 1) cap')
        have k3' := ((k3.alloc (.cells #[.int .i64 x] 3)).kept hgrow (k3.not_row (by decide) hrow1)).other (B' := w.heap.size + 1) (by omega) (.slice (some ⟨g', 0, none⟩) (F.length + 1) cap')
        refine ⟨(kept_from hk1 (fun k hk e => by rw [hsz5] at hk; omega)).trans (hk2.from _), (hk1.belowB (by omega) hszW).trans hb2, ⟨⟨_, hv2, ?_⟩, ?_, k0', k3'⟩, (HB.out.trans (hk1.belowB (by omega) hszW)).trans hb2⟩
        · rw [HFS.out, HV.out]
          unfold Own
          rw [List.length_append, List.map_append]
          exact hr2
        · rw [HFS.out, HV.out]
          exact hs1.others hk2
  case done =>
    rintro D ys W hD hys ⟨⟨⟨v, hbx, hown⟩, hset, hb0, hb3⟩, hbel⟩ hK
    have hys2 : ys.map (fun x : V16 => x.1) = occL f := hys
    rw [hys2] at hown hset
    have hszW := hbel.size
    rw [hsz5] at hD
    have hln : (freeUp S (occL f)).length ≤ 17592186044416 := by
      have h1 := freeUp_len S (occL f)
      omega
    have HFL : Hid (freeL f S = ascI (freeUp S (occL f))) := rfl
    have HSO := Lib.hid (sort2_any w.heap.size v _ W hown hszW hln)
    have hc1 := hbx.cell
    have hF103 : Fence.wide.fn 30 := trivial
    have hne1 : v.ownBlock ≠ some (w.heap.size + 1) := fun e => hbx.not_row (by decide) (show W.ownsRow w.heap.size 3 1 v _ _ from hown) e.symm
    have hne2 : v.ownBlock ≠ some D := fun e => by
      rcases hown.2 with ⟨rfl, _⟩ | ⟨g, cap', cur, rfl, _, hgb, _⟩
      · cases e
      · have : g = D := by simpa [Value.ownBlock] using e
        subst this
        rw [hgb] at hK
        cases hK
    generalize freeUp S (occL f) = F at *
    gi_wp2_with (gi_at_call 30; refine (callsIn_wide.2 HSO.out).mono ?_; rintro e w3 ⟨rfl, hown3, hb3', hk3⟩; have hbx3 : Boxed w3 (w.heap.size + 1) 26 v := (hk3.block _ hbx.lt hne1).trans hbx; have hc3 := hbx3.cell)
    have hK' : w3.heap[D]? = some (.deferred (some [])) := (hk3.block D (Array.getElem?_eq_some_iff.1 hK).1 hne2).trans hK
    refine ⟨by simp, .inl ⟨_, _, rfl, run_takeDeferred hK', ?_⟩⟩
    refine ⟨_, results_tmp rfl _ _ _, v, rfl, ?_, (hbel.trans hb3').trans (belowK_b (w := w) (Nat.le_refl _) w3 D _ _ (by omega) hK' rfl rfl)⟩
    rw [HFL.out]
    exact (Kept.of_grown (grownBy_putObj' w3 D (.deferred none))).row hown3 (fun g hg e => hne2 (by rw [hg]; exact e.symm))
  case stop =>
    rintro D c pre W _ _ h _
    exact h.elim

end Go.Proofs.YtmiijgjpkkmoaaaGreat
