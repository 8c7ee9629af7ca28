/- Pure: the graph of a net has the values of the net. -/
import Derived.Test.YtfghjfljomcldaaGreatA13
import Derived.Test.YtfghjfljomcldaaGreatA11
namespace Go.Proofs.YtfghjfljomcldaaGreat
set_option linter.unusedVariables false
set_option linter.unusedSimpArgs false

/-- The values of the constant and the inputs. -/
def baseV (I : List Int) (h : Int → Bool) : List Bool := false :: I.map h
theorem baseV_len (I : List Int) (h : Int → Bool) : (baseV I h).length = 1 + I.length := by unfold baseV; simp; omega
theorem baseV_zero (I : List Int) (h : Int → Bool) : (baseV I h).getD 0 false = false := rfl
theorem baseV_at {I : List Int} {h : Int → Bool} {j : Nat} (hj : j < I.length) : (baseV I h).getD (1 + j) false = h (I.getD j 0) := by
  unfold baseV
  rw [Nat.add_comm 1 j]
  simp [List.getD, hj]
/-- The edges of these variables have these values. -/
def NetVal (b : List Bool) (S : List Int) (q : (Int → Option Int) × Mq) (h : Int → Bool) : Prop := ∀ v ∈ S, 1 ≤ v ∧ edgeV (runN b q.2.1) ((q.1 v).getD 0) = h v
theorem edgeOf_val {b : List Bool} {S : List Int} {q : (Int → Option Int) × Mq} {h : Int → Bool} (hv : NetVal b S q h) (hf : EdgF q.1 (b.length + q.2.1.length)) {x : Int} (hx : varC x ∈ S) : edgeV (runN b q.2.1) (edgeOfA q.1 x) = litV h x := by
  obtain ⟨h1, h2⟩ := hv _ hx
  unfold litV edgeOfA
  by_cases c : x < 0
  · have hc : varC x = -x := by
      unfold varC at h1 ⊢
      rw [if_pos c] at h1 ⊢
      split at h1
      · omega
      · rename_i c2; rw [if_neg c2]
    rw [hc] at h2 ⊢
    have h0 : 0 ≤ (q.1 (-x)).getD 0 := by
      cases e : q.1 (-x) with
      | none => simp
      | some y => exact (isE_true.1 (hf _ _ e)).1
    rw [if_pos c, edgeV_not h0, h2, decide_eq_false (by omega)]
    cases h (-x) <;> rfl
  · have hc : varC x = x := by unfold varC; rw [if_neg c]
    rw [hc] at h1 h2 ⊢
    rw [if_neg c, h2, decide_eq_true (by omega)]
    cases h x <;> rfl
theorem anyA_val {b : List Bool} (hb : b.getD 0 false = false) (hl : 1 ≤ b.length) (l : List Int) (s : Mq) (h : MOk b.length s) (he : ∀ e ∈ l, isE e (b.length + s.1.length) = true) (hf : (anyA b.length l s).2.2 = false) (hs : s.2 = false) :
    edgeV (runN b (anyA b.length l s).2.1) (anyA b.length l s).1 = l.any (edgeV (runN b s.1)) := by
  have h1 : isE 1 (b.length + s.1.length) = true := isE_true.2 ⟨by omega, by omega⟩
  have hn : ∀ e ∈ l.map notE, isE e (b.length + s.1.length) = true := fun e hx => by
    obtain ⟨x, hx2, rfl⟩ := List.mem_map.1 hx
    exact notE_isE (he x hx2)
  have hm := allA_made hl (l.map notE) s 1 h h1 hn
  have hv := allA_val hb hl (l.map notE) s 1 h h1 hn hf hs
  unfold anyA
  show edgeV (runN b (allA b.length (l.map notE) s 1).2.1) (notE (allA b.length (l.map notE) s 1).1) = _
  rw [edgeV_not (isE_true.1 hm.edge).1, hv, (edgeV_zero hb hl).2, Bool.true_and, List.all_map]
  rw [show l.all (edgeV (runN b s.1) ∘ notE) = l.all (fun x => !edgeV (runN b s.1) x) from all_congrM (fun x hx => edgeV_not (isE_true.1 (he x hx)).1)]
  rw [List.not_all_eq_any_not]
  simp
theorem gateMk_val {b : List Bool} (hb : b.getD 0 false = false) (hl : 1 ≤ b.length) {S : List Int} {q : (Int → Option Int) × Mq} {h : Int → Bool} {kd : Int} {l : List Int} (hq : NetOk b.length q) (hv : NetVal b S q h) (hfit : fitsB kd l.length = true) (hx : ∀ x ∈ l, varC x ∈ S)
    (hf : (gateMk b.length q.2 kd (l.map (edgeOfA q.1))).2.2 = false) (hs : q.2.2 = false) : edgeV (runN b (gateMk b.length q.2 kd (l.map (edgeOfA q.1))).2.1) (gateMk b.length q.2 kd (l.map (edgeOfA q.1))).1 = gateV h kd l := by
  have hins := hq.ins hl l
  have hn := fits_need hfit
  have hval : ∀ x ∈ l, edgeV (runN b q.2.1) (edgeOfA q.1 x) = litV h x := fun x hxl => edgeOf_val hv hq.fe (hx x hxl)
  have hgd : ∀ i, i < l.length → (l.map (edgeOfA q.1)).getD i 0 = edgeOfA q.1 (l.getD i 0) := fun i hi => by simp [List.getD, hi]
  have hmem : ∀ i, i < l.length → l.getD i 0 ∈ l := fun i hi => by simp [List.getD, hi]
  have hie : ∀ i, i < l.length → isE (edgeOfA q.1 (l.getD i 0)) (b.length + q.2.1.length) = true := fun i hi => hins _ (List.mem_map_of_mem (hmem i hi))
  unfold gateMk at hf ⊢
  unfold gateV
  by_cases c1 : kd = 1
  · rw [if_pos c1] at hf ⊢
    rw [if_pos c1, allA_val hb hl _ _ _ hq.ok (isE_true.2 ⟨by omega, by omega⟩) hins hf hs, (edgeV_zero hb hl).2, Bool.true_and, List.all_map]
    exact all_congrM hval
  · rw [if_neg c1] at hf ⊢
    rw [if_neg c1]
    by_cases c2 : kd = 2
    · rw [if_pos c2] at hf ⊢
      rw [if_pos c2, anyA_val hb hl _ _ hq.ok hins hf hs, List.any_map]
      exact any_congrM hval
    · rw [if_neg c2] at hf ⊢
      rw [if_neg c2]
      by_cases c3 : kd = 3
      · have h2 := hn.1 c3
        rw [if_pos c3] at hf ⊢
        rw [hgd 0 (by omega), hgd 1 (by omega)] at hf ⊢
        rw [if_pos c3, exclA_val hb hl hq.ok (hie 0 (by omega)) (hie 1 (by omega)) hf hs, hval _ (hmem 0 (by omega)), hval _ (hmem 1 (by omega))]
      · have h2 := hn.2.1 c1 c2 c3
        rw [if_neg c3] at hf ⊢
        rw [hgd 0 (by omega), hgd 1 (by omega), hgd 2 (by omega)] at hf ⊢
        rw [if_neg c3, iteA_val hb hl hq.ok (hie 0 (by omega)) (hie 1 (by omega)) (hie 2 (by omega)) hf hs, hval _ (hmem 0 (by omega)), hval _ (hmem 1 (by omega)), hval _ (hmem 2 (by omega))]
theorem netFold_val {b : List Bool} (hb : b.getD 0 false = false) (hl : 1 ≤ b.length) : ∀ (gs : List Gt) (S : List Int) (t : Nat) (R : List Int) (q : (Int → Option Int) × Mq) (h : Int → Bool) (acc : List Bool), namedL S t gs = some R → NetOk b.length q → NetVal b S q h →
    (gs.foldl (gStepN b.length) q).2.2 = false → NetVal b R (gs.foldl (gStepN b.length) q) (gs.foldl gStep (h, acc)).1
  | [], S, t, R, q, h, acc, hn, _, hv, _ => by
    unfold namedL at hn
    cases hn
    exact hv
  | g :: r, S, t, R, q, h, acc, hn, hq, hv, hf => by
    unfold namedL at hn
    split at hn
    · rename_i hg
      unfold gOk at hg
      simp only [Bool.and_eq_true, decide_eq_true_eq, List.all_eq_true] at hg
      obtain ⟨_, hfit, hx, hent⟩ := hg
      have hq2 := hq.step hl hfit
      have hff : ∀ (gs : List Gt) (q : (Int → Option Int) × Mq) (S : List Int) (t : Nat) (R : List Int), namedL S t gs = some R → NetOk b.length q → q.2.2 = true → (gs.foldl (gStepN b.length) q).2.2 = true := by
        intro gs
        induction gs with
        | nil => exact fun q _ _ _ _ _ h => h
        | cons y z ih =>
          intro q S t R hn hq hfu
          unfold namedL at hn
          split at hn
          · rename_i hgy
            unfold gOk at hgy
            simp only [Bool.and_eq_true, decide_eq_true_eq, List.all_eq_true] at hgy
            exact ih _ _ _ _ hn (hq.step hl hgy.2.1) ((hq.gate hl hgy.2.1).full hfu)
          · cases hn
      rw [List.foldl_cons] at hf ⊢
      have hf2 : (gStepN b.length q g).2.2 = false := by
        cases e : (gStepN b.length q g).2.2 with
        | false => rfl
        | true => rw [hff r _ _ _ _ hn hq2 e] at hf; cases hf
      have hm := hq.gate hl hfit
      have hs := full_back hm hf2
      have hgv := gateMk_val hb hl hq hv hfit hx hf2 hs
      rw [List.foldl_cons]
      refine netFold_val hb hl r _ _ R _ _ _ hn hq2 ?_ hf
      intro v hvm
      show 1 ≤ v ∧ edgeV (runN b (gateMk b.length q.2 g.2.1 (g.2.2.map (edgeOfA q.1))).2.1) ((updM q.1 g.1 (gateMk b.length q.2 g.2.1 (g.2.2.map (edgeOfA q.1))).1 v).getD 0) = updB h g.1 (gateV h g.2.1 g.2.2) v
      unfold updM updB
      by_cases c : v = g.1
      · rw [if_pos c, if_pos c]
        refine ⟨?_, hgv⟩
        unfold entB at hent
        have := of_decide_eq_true hent
        omega
      · rw [if_neg c, if_neg c]
        have hvS : v ∈ S := by
          rcases List.mem_append.1 hvm with h | h
          · exact h
          · exact absurd (List.mem_singleton.1 h) c
        obtain ⟨h1, h2⟩ := hv v hvS
        refine ⟨h1, ?_⟩
        rw [← h2]
        refine made_keeps hm ?_
        cases e : q.1 v with
        | none => exact isE_true.2 ⟨by simp, by simp; omega⟩
        | some y => exact hq.fe v y e
    · cases hn
theorem inFold_at {I : List Int} : ∀ (l : List Int) (f : Int → Option Int) (v : Int), l.foldl (fun f v => updM f v (2 * placeA I v)) f v = if v ∈ l then some (2 * placeA I v) else f v
  | [], f, v => by simp
  | x :: r, f, v => by
    rw [List.foldl_cons, inFold_at r]
    by_cases c : v ∈ r
    · rw [if_pos c, if_pos (List.mem_cons_of_mem _ c)]
    · rw [if_neg c]
      unfold updM
      by_cases e : v = x
      · rw [if_pos e, if_pos (by rw [e]; exact List.mem_cons_self), e]
      · rw [if_neg e, if_neg (by simp [e, c])]
/-- The value of a net is that of its edge. -/
theorem net_val {P : List Blk} {gs : List Gt} {o : Int} (h : mayN P gs o = true) (hf : (netQ (netI P) gs).2.2 = false) (a : List Int) :
    edgeV (runN (baseV (netI P) (setA (fun _ => false) a)) (netQ (netI P) gs).2.1) (edgeOfA (netQ (netI P) gs).1 o) = litV (runA gs a).1 o := by
  have hp := mayN_pre h
  have hnums := mayP_nums hp
  have hlt := netI_lt hp
  have hl : (netI P).length ≤ 1024 := by rw [netI_len]; exact hnums.2.2
  obtain ⟨R, hn, ho⟩ : ∃ R, namedL (flatB P) 0 gs = some R ∧ varC o ∈ R := by
    unfold mayN namedN at h
    rw [if_pos hp] at h
    cases e : namedL (flatB P) 0 gs with
    | none => rw [e] at h; cases h
    | some R => rw [e] at h; exact ⟨R, rfl, of_decide_eq_true h⟩
  have hb := baseV_len (netI P) (setA (fun _ => false) a)
  have hq0 : NetOk (baseV (netI P) (setA (fun _ => false) a)).length (inFold (netI P) (netI P), ([], false)) := ⟨by rw [hb]; simpa using inFold_edges (netI P) (netI P), ⟨rfl, by rw [hb]; simp; omega⟩⟩
  have hv0 : NetVal (baseV (netI P) (setA (fun _ => false) a)) (flatB P) (inFold (netI P) (netI P), ([], false)) (setA (fun _ => false) a) := by
    intro v hv
    refine ⟨(hnums.2.1 v hv).1, ?_⟩
    have hvI : v ∈ netI P := ascI_mem.2 hv
    show edgeV (runN _ []) ((inFold (netI P) (netI P) v).getD 0) = _
    unfold inFold
    rw [inFold_at, if_pos hvI]
    obtain ⟨j, hj, rfl⟩ := List.mem_iff_getElem.1 hvI
    have hg : (netI P).getD j 0 = (netI P)[j] := by simp [List.getD, hj]
    rw [← hg, placeA_at hlt hj, Option.getD_some, show (2 * ((j : Int) + 1)) = 2 * ((1 + j : Nat) : Int) from by omega, edgeV_even]
    show (baseV _ _).getD (1 + j) false = _
    rw [baseV_at hj]
  have hfo := netFold_val (baseV_zero _ _) (by rw [hb]; omega) gs (flatB P) 0 R _ _ [] hn hq0 hv0 (by rw [hb]; exact hf)
  rw [hb] at hfo
  have hok := netQ_ok (I := netI P) (by omega) gs (mayN_fits h)
  exact edgeOf_val hfo (by rw [hb]; exact hok.fe) ho
end Go.Proofs.YtfghjfljomcldaaGreat
