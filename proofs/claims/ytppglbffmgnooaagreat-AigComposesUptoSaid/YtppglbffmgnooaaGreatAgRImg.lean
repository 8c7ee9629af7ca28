/- The reference's Image, images, Edge, edges. -/
import Derived.Test.YtppglbffmgnooaaGreatA13
import Derived.Test.YtppglbffmgnooaaGreatA07
import Derived.Test.YtppglbffmgnooaaGreatA01
import Derived.Test.YtppglbffmgnooaaGreatCxRInts
namespace Go.Proofs.YtppglbffmgnooaaGreat
open Go.RowKit Go.Maps Go.Shelf
set_option linter.unusedVariables false
set_option linter.unusedSimpArgs false

theorem notE_bdR {e : Int} (h : 0 ≤ e ∧ e ≤ 4000000) : 0 ≤ notE e ∧ notE e ≤ 4000001 := by unfold notE; split <;> omega
set_option maxRecDepth 100000 in
theorem rimage_any (v : Value) (t : List Int) (e : Int) (w : World) (H : IsInts w v t) (h0 : 0 ≤ e) (h1 : e / 2 < (t.length : Int)) (hb : ∀ x ∈ t, 0 ≤ x ∧ x ≤ 4000000) (hl : t.length ≤ 4000000) :
    Calls Tryz.prog 100 #[v, .int .i64 e] w fun r w' => r = .returned (.int .i64 (movE t e)) ∧ w = w' := by
  obtain ⟨q, hq⟩ : ∃ q : Nat, e / 2 = (q : Int) := ⟨(e / 2).toNat, by omega⟩
  have hql : q < t.length := by omega
  obtain ⟨a, cap, rfl⟩ := H.shape
  obtain ⟨g, off, rfl, hbl, hc⟩ := H.cellY hql
  have hx := hb _ (ints_getD_mem hql)
  have HM : Hid (movE t e = if e % 2 = 0 then t.getD q 0 else notE (t.getD q 0)) := by show _ = _; unfold movE; rw [hq]; rfl
  have hq0 : (0 : Int) ≤ (q : Int) := by omega
  have hq1 : (q : Int) < (t.length : Int) := by omega
  have hel : e ≤ 8000001 := by omega
  clear H hb h1 hql
  generalize t.getD q 0 = x at *
  by_cases hm : e % 2 = 1
  · have HZ : Hid (movE t e = notE x) := by show _ = _; rw [HM.out, if_neg (by omega)]
    have HN := Lib.hid (rnot_any x w hx.1 hx.2)
    clear HM hx
    go_enter Tryz.func100, Tryz.ntmps100
    go_wp2_with (go_at_call 71; refine HN.out.mono ?_; rintro r w1 ⟨rfl, rfl⟩)
    go_ret
    exact ⟨ret_int HZ.out.symm, rfl⟩
  · have hm0 : e % 2 = 0 := by omega
    have HZ : Hid (movE t e = x) := by show _ = _; rw [HM.out, if_pos hm0]
    clear HM hx hm
    go_enter Tryz.func100, Tryz.ntmps100
    go_wp2
    go_ret
    exact ⟨ret_int HZ.out.symm, rfl⟩

set_option maxRecDepth 100000 in
set_option maxHeartbeats 1600000 in
theorem rimages_any (v vl : Value) (t l : List Int) (w : World) (H : IsInts w v t) (HL : IsInts w vl l) (hle : ∀ x ∈ l, 0 ≤ x ∧ x / 2 < (t.length : Int)) (hb : ∀ x ∈ t, 0 ≤ x ∧ x ≤ 4000000) (hl : t.length ≤ 4000000) :
    Calls Tryz.prog 88 #[v, vl] w fun r w' => ∃ u, r = .returned u ∧ Own w' w.heap.size u (l.map (movE t)) ∧ Below w.heap.size w w' := by
  have hll := HL.bd
  obtain ⟨ta, tc, rfl⟩ := H.shape
  obtain ⟨la, lc, rfl⟩ := HL.shape
  have HH := Lib.hid H
  have HLH := Lib.hid HL
  have HLE := Lib.hid hle
  have HB := Lib.hid hb
  clear H HL hle hb
  go_enter Tryz.func88, Tryz.ntmps88
  go_wp2
  go_loopw [5, 6] (fun out i wr => ∃ k : Nat, k ≤ l.length ∧ i = .int .i64 k ∧ Own wr w.heap.size out ((l.take k).map (movE t)) ∧ Below w.heap.size w wr) (fun _ i _ => l.length - (intOf i).toNat)
  case atStart => exact ⟨0, Nat.zero_le _, rfl, Own.nil _ _, Below.refl _ _⟩
  case round =>
    obtain ⟨k, hk, rfl, ho, hbel⟩ := hrel
    have HO := Lib.hid ho
    have HBL := Lib.hid hbel
    clear ho hbel
    by_cases hlt : k < l.length
    · obtain ⟨b, off, rfl, hbl, hc0⟩ := HLH.out.cellY hlt
      have hc := (HBL.out.cell (p := ⟨b, off + k, none⟩) hbl).trans hc0
      have hx := HLE.out _ (ints_getD_mem hlt)
      have HT2 : Hid ((l.take (k + 1)).map (movE t) = (l.take k).map (movE t) ++ [movE t (l.getD k 0)]) := by show _ = _; rw [ints_take_succ hlt, List.map_append]; rfl
      have HKL := Lib.hid hlt
      have hk0 : (0 : Int) ≤ (k : Int) := by omega
      have hk1 : (k : Int) < (l.length : Int) := by omega
      have hlen : ((l.take k).map (movE t)).length < 17592186044416 := by rw [List.length_map, List.length_take]; omega
      have HLEN := Lib.hid hlen
      have HIM := Lib.hid (rimage_any _ t (l.getD k 0) wr (HH.out.below HBL.out (Nat.le_refl _)) hx.1 hx.2 HB.out hl)
      clear hc0 hlt hlen hx hbl
      generalize l.getD k 0 = y at *
      generalize movE t y = z at *
      generalize (l.take k).map (movE t) = acc at *
      go_wp2_with (first
        | (at_builtin; go_loud (refine wpList_app1A rfl _ _ rfl w.heap.size _ _ z wr.heap.size rfl rfl (HO.out.alloc _) (cell_fresh rfl) HLEN.out (by simp; have := HBL.out.size; omega) ?_; intro u' w' ho' hg' _; have HO' := Lib.hid ho'; have HG' := Lib.hid hg'; clear ho' hg'))
        | (go_at_call 100; refine HIM.out.mono ?_; rintro e w1 ⟨rfl, rfl⟩))
      go_roundw
      case rel => exact ⟨k + 1, HKL.out, by go_num, by rw [HT2.out]; exact HO'.out, (HBL.out.alloc HBL.out.size _).grown HG'.out (by have := HBL.out.size; simp; omega) (fun j e => (HO.out.lt j e).1)⟩
      case measure => have := HKL.out; simp [intOf]; omega
    · obtain rfl : k = l.length := by omega
      rw [List.take_length] at HO
      go_wp2
      go_ret
      exact ⟨_, rfl, HO.out, HBL.out⟩

/-- The edge of an input. -/
def edgeI (I : List Int) (v : Int) : Int := if v ∈ I then 2 * placeA I v else -1
theorem edgeI_at {I : List Int} (hs : I.Pairwise (· < ·)) {k : Nat} (hk : k < I.length) {v : Int} (e : I.getD k 0 = v) : edgeI I v = 2 * ((k : Int) + 1) := by
  subst e
  unfold edgeI
  rw [if_pos (ints_getD_mem hk), placeA_at hs hk]
theorem edgeI_no {I : List Int} {v : Int} (h : ∀ j, j < I.length → I.getD j 0 ≠ v) : edgeI I v = -1 := by
  unfold edgeI
  rw [if_neg]
  intro hm
  obtain ⟨j, hj, rfl⟩ := List.getElem_of_mem hm
  exact h j hj (by simp [List.getD, hj])
theorem edgeI_bd (I : List Int) (v : Int) (h : I.length ≤ 200000) : -1 ≤ edgeI I v ∧ edgeI I v ≤ 400000 := by
  unfold edgeI
  have := placeA_bd I v
  split <;> omega
set_option maxRecDepth 100000 in
set_option maxHeartbeats 1600000 in
theorem redge_any (vi va : Value) (I : List Int) (A : List Pr) (v : Int) (w : World) (HI : IsInts w vi I) (HA : IsPairs w va A) (hs : I.Pairwise (· < ·)) (h1 : I.length ≤ 200000) (hv1 : -9223372036854775808 ≤ v) (hv2 : v ≤ 9223372036854775807) :
    Calls Tryz.prog 51 #[.agg #[vi, va], .int .i64 v] w fun r w' => r = .returned (.int .i64 (edgeI I v)) ∧ Below w.heap.size w w' := by
  have hbl := below_alloc1 w (.cells #[vi, va] 25)
  obtain ⟨p0, p1⟩ := boxA_new w vi va
  have HI1 := Lib.hid (HI.below hbl (Nat.le_refl _))
  have HBL := Lib.hid hbl
  obtain ⟨ia, ic, rfl⟩ := HI.shape
  obtain ⟨aa, ac, rfl, _⟩ := HA.shape
  have HS := Lib.hid hs
  clear HI HA hbl hs
  go_enter Tryz.func51, Tryz.ntmps51
  go_upto_region 1 with fail
  generalize World.alloc w _ = W at *
  go_wp2
  go_loop [5] (fun s5 => ∃ k : Nat, k ≤ I.length ∧ s5 = .int .i64 k ∧ Hid (∀ j, j < k → I.getD j 0 ≠ v)) (fun s5 => I.length - (intOf s5).toNat)
  case atStart => exact ⟨0, Nat.zero_le _, rfl, fun j hj => absurd hj (Nat.not_lt_zero _)⟩
  case round =>
    obtain ⟨k, hk, rfl, HN⟩ := hrel
    by_cases hlt : k < I.length
    · obtain ⟨b2, off, rfl, hbk, hx⟩ := HI1.out.cellY hlt
      have HHIT : Hid (I.getD k 0 = v → edgeI I v = 2 * ((k : Int) + 1)) := fun e => edgeI_at HS.out hlt e
      have HKL := Lib.hid hlt
      have hk0 : (0 : Int) ≤ (k : Int) := by omega
      have hk1 : (k : Int) < (I.length : Int) := by omega
      have hk2 : (k : Int) < 4000001 := by omega
      have HNX : Hid (I.getD k 0 ≠ v → ∀ j, j < k + 1 → I.getD j 0 ≠ v) := fun e j hj => by
        rcases Nat.lt_succ_iff_lt_or_eq.1 hj with h | h
        · exact HN.out j h
        · rw [h]; exact e
      clear hlt
      generalize I.getD k 0 = y at *
      by_cases hy : y = v
      · subst hy
        have HR := Lib.hid (HHIT.out rfl)
        clear HHIT HNX
        go_wp2
        go_ret
        exact ⟨ret_int HR.out.symm, HBL.out⟩
      · have hyb : (y == v) = false := by simpa using hy
        have HNN := Lib.hid (HNX.out hy)
        clear HHIT HNX
        go_wp2
        go_round
        case rel => exact ⟨k + 1, HKL.out, by go_num, HNN.out⟩
        case measure => have := HKL.out; simp [intOf]; omega
    · have HR : Hid (edgeI I v = -1) := edgeI_no (fun j hj => HN.out j (by omega))
      go_wp2
      go_ret
      exact ⟨ret_int HR.out.symm, HBL.out⟩
/-- 'append(s, y)' over integers as a step of a region that draws its order. -/
theorem step_app1I {ops : Array Oper} {o : Oper} {a : Act} {w : World} {K : Act → World → Prop} {Q : Exit → Act → World → Prop} {E : Prop} (hgd : o.guard = none) (s x : Operand)
    (ho : o.op = .call { callee := .builtin .append, args := #[s, x], argTypes := #[22, 22] }) (B : Nat) (v : Value) (xs : List Int) (y : Int) (g : Nat)
    (hs : a.eval s = v) (hx : a.eval x = .slice (some ⟨g, 0, none⟩) 1 1) (hown : Own w B v xs) (hy : w.cell? ⟨g, 0, none⟩ = some (.int .i64 y)) (hlen : xs.length < 17592186044416) (hB : B ≤ w.heap.size)
    (h : ∀ v' w', Own w' B v' (xs ++ [y]) → w.grownBy w' v.ownBlock → K (a.put o.dst v') w') : if Region.wanted o (yielded ops a.tmps) = true then Oper.wp Tryz.prog o a w K Q else E := by
  have hw' : Region.wanted o (yielded ops a.tmps) = true := by simp [Region.wanted, hgd]
  rw [if_pos hw']
  obtain ⟨i0, hi, hz0, hz1, hz2⟩ := info_parts info_int
  refine wp_append_own w s x 22 ho B 3 i0 (.int .i64 0) 1 8 Tryz.underlying22 hi hz0 hz1 hz2 rfl (by decide) v xs.length _ hs hown ⟨g, 0, none⟩ 1 1 [.int .i64 y] hx (by simp) (fun j z hj => by
    match j, hj with
    | 0, hj => simp at hj; subst hj; simpa [Addr.add] using hy) (fun z hz => by
    rw [List.mem_singleton] at hz
    rw [hz]; rfl) (by unfold maxLen; omega) (by omega) hB fun v' w' h2 h3 _ => h v' w' ?_ h3
  unfold Own
  rw [List.length_append, List.map_append]
  exact h2
set_option maxRecDepth 100000 in
set_option maxHeartbeats 3200000 in
theorem redges_any (vi va vl : Value) (I : List Int) (A : List Pr) (l : List Int) (w : World) (HI : IsInts w vi I) (HA : IsPairs w va A) (HL : IsInts w vl l) (hs : I.Pairwise (· < ·)) (h1 : I.length ≤ 200000) :
    Calls Tryz.prog 87 #[.agg #[vi, va], vl] w fun r w' => ∃ u, r = .returned u ∧ Own w' w.heap.size u (l.map (edgeI I)) ∧ Below w.heap.size w w' := by
  have hb0 := below_alloc1 w (.cells #[vi, va] 25)
  have hbx := boxA_new w vi va
  have hsz : (w.alloc (.cells #[vi, va] 25)).heap.size = w.heap.size + 1 := by simp
  have HI1 := Lib.hid (HI.below hb0 (Nat.le_refl _))
  have HA1 := Lib.hid (HA.below hb0 (Nat.le_refl _))
  have HL1 := Lib.hid (HL.below hb0 (Nat.le_refl _))
  have hll := HL.bd
  have HL64 := Lib.hid HL.in64
  obtain ⟨ia, ic, rfl⟩ := HI.shape
  obtain ⟨aa, ac, rfl, _⟩ := HA.shape
  obtain ⟨la, lc, rfl⟩ := HL.shape
  have HS := Lib.hid hs
  clear HI HA HL hs
  go_enter Tryz.func87, Tryz.ntmps87
  go_upto_region 1 with fail
  generalize World.alloc w _ = W at *
  have HB0 := Lib.hid hb0
  have HBX := Lib.hid hbx
  have HSZ := Lib.hid hsz
  clear hb0 hbx hsz
  go_wp2
  go_loopw [5, 6] (fun out i wr => ∃ k : Nat, k ≤ l.length ∧ i = .int .i64 k ∧ Own wr W.heap.size out ((l.take k).map (edgeI I)) ∧ Below W.heap.size W wr) (fun _ i _ => l.length - (intOf i).toNat)
  case atStart => exact ⟨0, Nat.zero_le _, rfl, Own.nil _ _, Below.refl _ _⟩
  case round =>
    obtain ⟨k, hk, rfl, ho, hbel⟩ := hrel
    have HO := Lib.hid ho
    have HBL := Lib.hid hbel
    obtain ⟨oa, oc, rfl⟩ := own_shC ho
    clear ho hbel
    by_cases hlt : k < l.length
    · obtain ⟨b, off, rfl, hbl, hc0⟩ := HL1.out.cellY hlt
      have hx := HL64.out _ (ints_getD_mem hlt)
      have HT2 : Hid ((l.take (k + 1)).map (edgeI I) = (l.take k).map (edgeI I) ++ [edgeI I (l.getD k 0)]) := by show _ = _; rw [ints_take_succ hlt, List.map_append]; rfl
      have HKL := Lib.hid hlt
      have hk0 : (0 : Int) ≤ (k : Int) := by omega
      have hk1 : (k : Int) < (l.length : Int) := by omega
      have HLEN : Hid (((l.take k).map (edgeI I)).length < 17592186044416) := by show _ < _; rw [List.length_map, List.length_take]; omega
      have HED : Hid (∀ X, Below W.heap.size W X → Calls Tryz.prog 51 #[.agg #[.slice ia I.length ic, .slice aa A.length ac], .int .i64 (l.getD k 0)] X fun r w' => r = .returned (.int .i64 (edgeI I (l.getD k 0))) ∧ Below X.heap.size X w') := fun X hX => redge_any _ _ I A _ X (HI1.out.below hX (Nat.le_refl _)) (HA1.out.below hX (Nat.le_refl _)) HS.out h1 hx.1 hx.2
      have HE1 : Hid (∀ X, Below W.heap.size W X → X.cell? ⟨b, off + k, none⟩ = some (.int .i64 (l.getD k 0))) := fun X hX => (hX.cell (p := ⟨b, off + k, none⟩) hbl).trans hc0
      have HGB : Hid (∀ X, Below W.heap.size W X → X.cell? ⟨w.heap.size, 0, none⟩ = some (.slice ia I.length ic) ∧ X.cell? ⟨w.heap.size, 1, none⟩ = some (.slice aa A.length ac)) := fun X hX => HBX.out.below hX (by rw [HSZ.out]; omega)
      clear hc0 hx hbl
      generalize l.getD k 0 = y at *
      generalize edgeI I y = z at *
      generalize hacc : (l.take k).map (edgeI I) = acc at *
      go_upto_region 5 with fail
      clear hlt
      refine wp_region_held_drew (S := fun X => Below W.heap.size W X) (by kernel_rfl) HBL.out.drew (fun hSd => ?_)
      have h0d : Below wr.heap.size wr wr.drew := (Below.refl _ _).drew
      generalize wr.drew = x0 at *
      refine takeC (i := 0) (v := .slice oa acc.length oc) (some 13) rfl rfl (by kernel_rfl) (by kernel_rfl) (by kernel_rfl) (fun _ _ _ h => h) (Or.inl ⟨by rfl, ?_⟩) (by assumption) ?_
      · intro wz hSw; go_simp
      try simp only [Act.put, List.setIfInBounds_toArray, List.set_cons_zero, List.set_cons_succ]
      refine takeC (i := 1) (v := .agg #[.slice ia I.length ic, .slice aa A.length ac]) (some 14) rfl rfl (by kernel_rfl) (by kernel_rfl) (by kernel_rfl) (fun _ _ _ h => h) (Or.inl ⟨by rfl, ?_⟩) (by assumption) ?_
      · intro wz hSw; obtain ⟨t0, t1⟩ := HGB.out wz hSw; go_simp
      try simp only [Act.put, List.setIfInBounds_toArray, List.set_cons_zero, List.set_cons_succ]
      refine takeC (i := 2) (v := .slice (some ⟨b, off, none⟩) l.length lc) (some 15) rfl rfl (by kernel_rfl) (by kernel_rfl) (by kernel_rfl) (fun _ _ _ h => h) (Or.inl ⟨by rfl, ?_⟩) (by assumption) ?_
      · intro wz hSw; go_simp
      try simp only [Act.put, List.setIfInBounds_toArray, List.set_cons_zero, List.set_cons_succ]
      refine takeC (i := 3) (v := .int .i64 (k : Int)) (some 16) rfl rfl (by kernel_rfl) (by kernel_rfl) (by kernel_rfl) (fun _ _ _ h => h) (Or.inl ⟨by rfl, ?_⟩) (by assumption) ?_
      · intro wz hSw; go_simp
      try simp only [Act.put, List.setIfInBounds_toArray, List.set_cons_zero, List.set_cons_succ]
      refine takeC (i := 4) (v := .pointer (some ⟨b, off + k, none⟩)) (some 17) rfl rfl (by kernel_rfl) (by kernel_rfl) (by kernel_rfl) (fun _ _ _ h => h) (Or.inl ⟨by rfl, ?_⟩) (by assumption) ?_
      · intro wz hSw; go_simp
      try simp only [Act.put, List.setIfInBounds_toArray, List.set_cons_zero, List.set_cons_succ]
      refine takeC (i := 5) (v := .int .i64 y) (some 18) rfl rfl (by kernel_rfl) (by kernel_rfl) (by kernel_rfl) (fun _ _ _ h => h) (Or.inl ⟨by rfl, ?_⟩) (by assumption) ?_
      · intro wz hSw; have t0 := HE1.out wz hSw; go_simp
      try simp only [Act.put, List.setIfInBounds_toArray, List.set_cons_zero, List.set_cons_succ]
      refine wpAnyH_ready (rs := [6]) (by kernel_rfl) (by simp) ?_
      refine AllReadyH.cons rfl (fun K hK => ?_) AllReadyH.nil
      go_simp
      go_wp2_with (go_at_call 51; refine (HED.out x0 (HBL.out.trans (h0d.mono HBL.out.size))).mono ?_; rintro e x1 ⟨rfl, hb⟩)
      have h1d : Below wr.heap.size wr x1 := h0d.trans (hb.mono h0d.size)
      refine hK.out _ _ (HBL.out.trans (h1d.mono HBL.out.size)) (fun hS => ?_)
      clear hK K hb hS
      try simp only [Act.put, List.setIfInBounds_toArray, List.set_cons_zero, List.set_cons_succ]
      refine wpAnyH_ready (rs := [7]) (by kernel_rfl) (by simp) ?_
      refine AllReadyH.cons rfl (fun K hK => ?_) AllReadyH.nil
      go_simp
      have hbn := below_alloc1 x1 (.cells #[.int .i64 z] 3)
      have h2d : Below wr.heap.size wr (x1.alloc (.cells #[.int .i64 z] 3)) := h1d.trans (hbn.mono h1d.size)
      have hy : (x1.alloc (.cells #[.int .i64 z] 3)).cell? ⟨x1.heap.size, 0, none⟩ = some (.int .i64 z) := cell_fresh rfl
      refine hK.out _ _ (HBL.out.trans (h2d.mono HBL.out.size)) (fun hS => ?_)
      clear hK K hbn hS
      try simp only [Act.put, List.setIfInBounds_toArray, List.set_cons_zero, List.set_cons_succ]
      generalize x1.alloc (.cells #[.int .i64 z] 3) = x2 at *
      generalize x1.heap.size = gb at *
      refine wpAnyH_ready (rs := [8]) (by kernel_rfl) (by simp) ?_
      refine AllReadyH.cons rfl (fun K hK => ?_) AllReadyH.nil
      refine step_app1I rfl (.tmp 13) (.tmp 20) rfl W.heap.size (.slice oa acc.length oc) acc z gb rfl rfl (HO.out.below h2d (Nat.le_refl _)) hy HLEN.out (Nat.le_trans HBL.out.size h2d.size) ?_
      intro v9 w9 ho9 hg9
      have HO9 := Lib.hid ho9
      have HB9 : Hid (Below W.heap.size W w9) := (HBL.out.trans (h2d.mono HBL.out.size)).grown hg9 (Nat.le_trans HBL.out.size h2d.size) (fun j e => (HO.out.lt j e).1)
      obtain ⟨na, nc, rfl⟩ := own_shC ho9
      have HAC : Hid ((l.take (k + 1)).map (edgeI I) = acc ++ [z]) := HT2.out
      clear ho9 hg9 hy h2d h1d h0d
      refine hK.out _ _ HB9.out (fun hS => ?_)
      clear hK K hS
      try simp only [Act.put, List.setIfInBounds_toArray, List.set_cons_zero, List.set_cons_succ]
      generalize hac2 : acc ++ [z] = acc2 at *
      refine takeC (i := 9) (v := .slice na acc2.length nc) (some 5) rfl rfl (by kernel_rfl) (by kernel_rfl) (by kernel_rfl) (fun _ _ _ h => h) (Or.inl ⟨by rfl, ?_⟩) (by assumption) ?_
      · intro wz hSw; go_simp
      try simp only [Act.put, List.setIfInBounds_toArray, List.set_cons_zero, List.set_cons_succ]
      refine wpAnyH_done (by kernel_rfl) ?_ _
      go_wp2
      go_roundw
      case rel => exact ⟨k + 1, HKL.out, by go_num, by rw [HAC.out]; exact HO9.out, HB9.out⟩
      case measure => have := HKL.out; simp [intOf]; omega
    · obtain rfl : k = l.length := by omega
      rw [List.take_length] at HO ⊢
      go_wp2
      go_ret
      exact ⟨_, rfl, HO.out.mono HB0.out.size, HB0.out.trans (HBL.out.mono HB0.out.size)⟩
end Go.Proofs.YtppglbffmgnooaaGreat
