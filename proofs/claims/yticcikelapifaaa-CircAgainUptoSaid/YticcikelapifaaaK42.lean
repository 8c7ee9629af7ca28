/- Joined texts: CxPIdem. -/
import Derived.Test.YticcikelapifaaaK27
/- Simple of what Simple returns is the same. (Pure.) -/
namespace Go.Proofs.Yticcikelapifaaa
open Go.RowKit
set_option linter.unusedVariables false
set_option linter.unusedSimpArgs false

/-- A list that and, or leave as it is. -/
def goodL (idle : Int) (r : List Int) : Prop := (∀ x ∈ r, x ≠ idle ∧ x ≠ -idle) ∧ r.Nodup ∧ ∀ x ∈ r, -x ∉ r
theorem goodL_nil (idle : Int) : goodL idle [] := ⟨by simp, by simp, by simp⟩
theorem goodL_snoc {idle x : Int} {o : List Int} (h : goodL idle o) (h1 : x ≠ idle ∧ x ≠ -idle) (h2 : x ∉ o) (h3 : -x ∉ o) (h4 : x ≠ 0) : goodL idle (o ++ [x]) := by
  obtain ⟨g1, g2, g3⟩ := h
  refine ⟨fun y hy => ?_, ?_, fun y hy hn => ?_⟩
  · rcases List.mem_append.1 hy with h | h
    · exact g1 y h
    · rw [List.mem_singleton] at h; subst h; exact h1
  · rw [List.nodup_append]
    exact ⟨g2, by simp, fun a ha b hb e => by rw [List.mem_singleton] at hb; subst hb; subst e; exact h2 ha⟩
  · rcases List.mem_append.1 hy with h | h
    · rcases List.mem_append.1 hn with k | k
      · exact g3 y h k
      · rw [List.mem_singleton] at k
        have : y = -x := by omega
        subst this
        exact h3 h
    · rw [List.mem_singleton] at h
      subst h
      rcases List.mem_append.1 hn with k | k
      · exact h3 k
      · rw [List.mem_singleton] at k; omega
theorem mrg_good {idle : Int} : ∀ (l o r : List Int), mrgL idle o l = some r → (∀ x ∈ l, x ≠ 0) → goodL idle o → goodL idle r
  | [], o, r, e, _, h => by
    unfold mrgL at e
    injection e with e
    subst e
    exact h
  | y :: t, o, r, e, hl, h => by
    unfold mrgL at e
    split at e
    · cases e
    · rename_i h1
      split at e
      · rename_i h2
        exact mrg_good t _ r e (fun x hx => hl x (List.mem_cons_of_mem _ hx)) (goodL_snoc h ⟨h2.1, fun e => h1 (.inl e)⟩ h2.2 (fun e => h1 (.inr e)) (hl y List.mem_cons_self))
      · exact mrg_good t _ r e (fun x hx => hl x (List.mem_cons_of_mem _ hx)) h
theorem mrg_fix {idle : Int} : ∀ (l o : List Int), goodL idle (o ++ l) → mrgL idle o l = some (o ++ l)
  | [], o, _ => by simp [mrgL]
  | x :: l, o, h => by
    have h' := h
    obtain ⟨h1, h2, h3⟩ := h'
    unfold mrgL
    have hx := h1 x (by simp)
    have hn : -x ∉ o := fun e => h3 x (by simp) (by simp [e])
    have ho : x ∉ o := by
      rw [List.nodup_append] at h2
      exact fun e => h2.2.2 x e x (by simp) rfl
    rw [if_neg (by rintro (e | e); exact hx.2 e; exact hn e), if_pos ⟨hx.1, ho⟩]
    have e : o ++ x :: l = (o ++ [x]) ++ l := by simp
    rw [e] at h ⊢
    exact mrg_fix l (o ++ [x]) h
theorem merged_fix {k idle : Int} {l : List Int} (hl : ∀ x ∈ l, x ≠ 0) (h : (mergedF k l idle).1 ≠ 0) : (mergedF k l idle).1 = k ∧ (mergedF k l idle).2.2 = 0 ∧ mergedF k (mergedF k l idle).2.1 idle = mergedF k l idle := by
  unfold mergedF at h ⊢
  match e : mrgL idle [] l with
  | none => rw [e] at h; exact absurd rfl h
  | some [] => rw [e] at h; exact absurd rfl h
  | some [y] => rw [e] at h; exact absurd rfl h
  | some (y :: z :: r) =>
    have h1 := mrg_fix (y :: z :: r) [] (by rw [List.nil_append]; exact mrg_good l [] _ e hl (goodL_nil _))
    rw [List.nil_append] at h1
    refine ⟨rfl, rfl, ?_⟩
    show (match mrgL idle [] (y :: z :: r) with
      | none => ((0, [], -idle) : Oc)
      | some [] => (0, [], idle)
      | some [w] => (0, [], w)
      | some l => (k, l, 0)) = _
    rw [h1]
/-- A gate that simplification leaves as it is. -/
def fixedG (k : Int) (l : List Int) : Prop := k ≠ 0 ∧ outcomeF k l = (k, l, 0)
theorem many_fixed {k idle : Int} {l : List Int} (hk : (k = 1 ∧ idle = 65537) ∨ (k = 2 ∧ idle = -65537)) (hl : ∀ x ∈ l, x ≠ 0) (h : (mergedF k l idle).1 ≠ 0) : fixedG (mergedF k l idle).1 (mergedF k l idle).2.1 := by
  obtain ⟨h1, h2, h3⟩ := merged_fix hl h
  refine ⟨h, ?_⟩
  have e : outcomeF (mergedF k l idle).1 (mergedF k l idle).2.1 = mergedF k (mergedF k l idle).2.1 idle := by
    rw [h1]
    unfold outcomeF
    rcases hk with ⟨rfl, rfl⟩ | ⟨rfl, rfl⟩
    · rw [if_pos rfl]
    · rw [if_neg (by omega), if_pos rfl]
  rw [e, h3, ← h2]
theorem outcome_fixed {k : Int} {l : List Int} (hf : fitsB k l.length = true) (hl : ∀ x ∈ l, okM x) (h : (outcomeF k l).1 ≠ 0) : fixedG (outcomeF k l).1 (outcomeF k l).2.1 := by
  have hl0 : ∀ x ∈ l, x ≠ 0 := fun x hx => (hl x hx).1
  rcases fits_kind hf with rfl | rfl | ⟨rfl, hn⟩ | ⟨rfl, hn⟩
  · have e : outcomeF 1 l = mergedF 1 l 65537 := by unfold outcomeF; rw [if_pos rfl]
    rw [e] at h ⊢
    exact many_fixed (.inl ⟨rfl, rfl⟩) hl0 h
  · have e : outcomeF 2 l = mergedF 2 l (-65537) := by unfold outcomeF; rw [if_neg (by omega), if_pos rfl]
    rw [e] at h ⊢
    exact many_fixed (.inr ⟨rfl, rfl⟩) hl0 h
  · match l, hn, h with
    | [a, b], _, h =>
      have e : outcomeF 3 [a, b] = xorF a b := by unfold outcomeF; rw [if_neg (by omega), if_neg (by omega), if_pos rfl]; rfl
      rw [e] at h ⊢
      have key : xorF a b = (3, [a, b], 0) := by
        revert h
        unfold xorF
        repeat' split
        all_goals (intro h; first | exact absurd rfl h | rfl)
      rw [key]
      exact ⟨by show (3 : Int) ≠ 0; omega, by show outcomeF 3 [a, b] = _; rw [e, key]⟩
  · match l, hn, h, hl0 with
    | [c, a, b], _, h, hl0 =>
      have e : outcomeF 4 [c, a, b] = iteF c a b := by unfold outcomeF; rw [if_neg (by omega), if_neg (by omega), if_neg (by omega)]; rfl
      rw [e] at h ⊢
      have hc := hl0 c (by simp)
      have ha := hl0 a (by simp)
      have hb := hl0 b (by simp)
      have two : ∀ {k idle x y : Int}, ((k = 1 ∧ idle = 65537) ∨ (k = 2 ∧ idle = -65537)) → x ≠ 0 → y ≠ 0 → (mergedF k [x, y] idle).1 ≠ 0 → fixedG (mergedF k [x, y] idle).1 (mergedF k [x, y] idle).2.1 := fun hk hx hy h => many_fixed hk (fun z hz => by
        rcases List.mem_cons.1 hz with e | e
        · rw [e]; exact hx
        · rw [List.mem_singleton] at e; rw [e]; exact hy) h
      have hcn : -c ≠ 0 := by omega
      by_cases hd : iteF c a b = (4, [c, a, b], 0)
      · rw [hd]
        exact ⟨by show (4 : Int) ≠ 0; omega, by show outcomeF 4 [c, a, b] = _; rw [e, hd]⟩
      · revert h hd
        unfold iteF
        repeat' split
        all_goals (intro h hd)
        all_goals first
          | exact absurd rfl h
          | exact absurd rfl hd
          | exact two (.inr ⟨rfl, rfl⟩) hc hb h
          | exact two (.inl ⟨rfl, rfl⟩) hcn hb h
          | exact two (.inr ⟨rfl, rfl⟩) hcn ha h
          | exact two (.inl ⟨rfl, rfl⟩) hc ha h
/-- All gates that stay are left as they are. -/
theorem sim_fixed {S0 : List Int} {H0 : Int → Bool} : ∀ (gs : List Gt) (t : Nat) (S R : List Int) (f : Int → Option Int) (st : List Gt) (Ho : Int → Bool), namedL S t gs = some R → SimI S0 H0 t S f st Ho → (∀ g ∈ st, fixedG g.2.1 g.2.2) →
    ∀ g ∈ (gs.foldl simStep (f, st)).2, fixedG g.2.1 g.2.2
  | [], t, S, R, f, st, Ho, hn, H, h => h
  | g :: r, t, S, R, f, st, Ho, hn, H, h => by
    unfold namedL at hn
    split at hn
    · rename_i hg
      have hp := gOk_parts hg
      have key : ∀ x ∈ (simStep (f, st) g).2, fixedG x.2.1 x.2.2 := fun x hx => by
        unfold simStep at hx
        by_cases h0 : (outcomeF g.2.1 (g.2.2.map (imageF f))).1 = 0
        · rw [if_pos h0] at hx
          exact h x hx
        · rw [if_neg h0] at hx
          rcases List.mem_append.1 hx with hx | hx
          · exact h x hx
          · rw [List.mem_singleton] at hx
            subst hx
            exact outcome_fixed (by rw [List.length_map]; exact hp.2.1) (fun y hy => by
              obtain ⟨x, hx, rfl⟩ := List.mem_map.1 hy
              exact (H.lit (hp.2.2.1 x hx)).1) h0
      exact sim_fixed r _ _ R _ _ _ hn (sim_step H hg) key
    · cases hn
theorem image_one {x y v : Int} (h : varC v = x) : imageF (updM (fun _ => none) x y) v = if v < 0 then -y else y := by
  have e : updM (fun _ => none) x y (varC v) = some y := by unfold updM; rw [if_pos h]
  unfold imageF
  rw [e]
theorem image_bare (x : Int) : imageF (fun _ => none) x = x := rfl
theorem sim_none : ∀ (U acc : List Gt), (∀ g ∈ U, fixedG g.2.1 g.2.2) → U.foldl simStep ((fun _ => none), acc) = ((fun _ => none), acc ++ U)
  | [], acc, _ => by simp
  | g :: U, acc, h => by
    obtain ⟨h1, h2⟩ := h g List.mem_cons_self
    have e : g.2.2.map (imageF (fun _ => none)) = g.2.2 := by
      rw [show (imageF (fun _ => none)) = id from funext fun x => rfl, List.map_id]
    have e2 : simStep ((fun _ => none), acc) g = ((fun _ => none), acc ++ [g]) := by
      unfold simStep
      simp only [e, h2]
      rw [if_neg h1]
    rw [List.foldl_cons, e2, sim_none U (acc ++ [g]) (fun x hx => h x (List.mem_cons_of_mem _ hx)), List.append_assoc]
    rfl
theorem reach_filter (T S : List Int) : ∀ (gs : List Gt), (∀ i ∈ reachR gs S, i ∈ T) → reachR (gs.filter (fun g => decide (g.1 ∈ T))) S = reachR gs S
  | [], _ => rfl
  | g :: r, h => by
    rw [reachR_cons] at h ⊢
    have ih := reach_filter T S r (fun i hi => h i ((reachG_mono _ _).subset hi))
    by_cases hg : g.1 ∈ T
    · rw [List.filter_cons_of_pos (by simpa using hg), reachR_cons, ih]
    · rw [List.filter_cons_of_neg (by simpa using hg), ih]
      have : g.1 ∉ reachR r S := fun e => hg (h _ ((reachG_mono _ _).subset e))
      unfold reachG
      rw [if_neg this]
theorem used_again (st : List Gt) (y : Int) : usedG (usedG st y) y = usedG st y := by
  unfold usedG
  rw [List.filter_eq_self]
  intro g hg
  have h1 := (List.mem_filter.1 hg).2
  have h2 : reachL (st.filter (fun g => decide (g.1 ∈ reachL st y))) y = reachL st y := by
    rw [reachL_R (st.filter (fun g => decide (g.1 ∈ reachL st y))) y, reach_filter (reachL st y) _ st (fun i hi => by rw [reachL_R]; exact hi), ← reachL_R]
  rw [h2]
  exact h1
theorem without_none {P : List Blk} (h : mayP P = true) : withoutP P (fun _ => none) = P := by
  have e : goneB (fun _ => none) P = P := by
    unfold goneB
    have : ∀ b ∈ P, ((b.1, b.2.filter (fun v => (((fun _ => none) : Int → Option Int) v).isNone)) : Blk) = b := fun b _ => by
      rw [List.filter_eq_self.2 (by simp)]
    exact (List.map_congr_left this).trans (List.map_id _)
  unfold withoutP
  rw [e]
  have hb := (mayP_parts h).1
  have key : ∀ k, k ≤ P.length → joinL (P.take k) = P.take k := by
    intro k
    induction k with
    | zero => intro _; rfl
    | succ k ih =>
      intro hk
      have h1 := ih (by omega)
      rw [take_two (d := dB) (show k < P.length by omega), joinL_snoc, h1]
      obtain ⟨h2, h3⟩ := hb k (by omega)
      refine joinStep_new h2 (fun l hl2 => ?_)
      by_cases hk0 : k = 0
      · subst hk0; simp at hl2
      · have h4 := h3 (by omega)
        rw [List.getLast?_eq_getElem?, List.length_take, Nat.min_eq_left (by omega), List.getElem?_take, if_pos (by omega)] at hl2
        have h5 : P.getD (k - 1) dB = l := by rw [List.getD, hl2]; rfl
        rw [h5] at h4
        exact fun e => h4 e.symm
  have h1 := key P.length (Nat.le_refl _)
  rwa [List.take_length] at h1
/-- Simple of what Simple returns is the same. -/
theorem simp_again {P : List Blk} {gs : List Gt} {o : Int} (h : mayN P gs o = true) : simpN (simpN P gs o []).1 (simpN P gs o []).2.1 (simpN P gs o []).2.2 [] = simpN P gs o [] := by
  obtain ⟨R, hp, _, hn, ho, hP⟩ := mayN_named h
  have hw : withoutP P (fixM []) = P := without_none hp
  have H0 := sim_init hP (fix := []) (by simp [ascV]) (fun x hx => by cases hx) []
  obtain ⟨t', HI⟩ := sim_run gs 0 (flatB P) R (fixM []) [] _ [] hn H0
  have hfx := sim_fixed gs 0 (flatB P) R (fixM []) [] _ hn H0 (fun g hg => by cases hg)
  have hI := HI.lit ho
  have hsr : gs.foldl simStep (fixM [], []) = simRun (fixM []) gs := rfl
  rw [hsr] at HI hI hfx
  have e0 : simpN P gs o [] = if varC (imageF (simRun (fixM []) gs).1 o) = 65537 then constN P (decide (imageF (simRun (fixM []) gs).1 o = 65537)) else (P, usedG (simRun (fixM []) gs).2 (imageF (simRun (fixM []) gs).1 o), imageF (simRun (fixM []) gs).1 o) := by
    unfold simpN
    rw [hw]
  rw [e0]
  generalize simRun (fixM []) gs = sr at *
  obtain ⟨f, st⟩ := sr
  simp only at HI hI hfx ⊢
  generalize imageF f o = y at *
  by_cases hc : varC y = 65537
  · rw [if_pos hc]
    obtain ⟨x, e, h1, h2, h3⟩ := unused_flat hp
    have hcn : ∀ v : Bool, simpN (constN P v).1 (constN P v).2.1 (constN P v).2.2 [] = constN P v := fun v => by
      have ev : constN P v = (P, [(x, 1, [])], if v = true then x else -x) := by unfold constN; rw [e]
      rw [ev]
      have er : simRun (fixM []) [(x, 1, [])] = (updM (fun _ => none) x 65537, []) := by
        unfold simRun
        rw [List.foldl_cons, List.foldl_nil]
        have : outcomeF 1 (([] : List Int).map (imageF (fixM []))) = (0, [], 65537) := by unfold outcomeF; rw [if_pos rfl]; rfl
        unfold simStep
        simp only [this]
        rw [if_pos trivial]
        rfl
      unfold simpN
      simp only [er, hw]
      have hv1 : varC x = x := varC_at h1
      have hv2 : varC (-x) = x := by rw [varC_neg (by omega), hv1]
      cases v with
      | true =>
        have hi : imageF (updM (fun _ => none) x 65537) x = 65537 := by rw [image_one hv1, if_neg (by omega)]
        simp only [if_true, hi]
        rw [if_pos (by decide)]
        exact ev
      | false =>
        have hi : imageF (updM (fun _ => none) x 65537) (-x) = -65537 := by rw [image_one hv2, if_pos (by omega)]
        simp only [Bool.false_eq_true, if_false, hi]
        rw [if_pos (by decide)]
        exact ev
    exact hcn _
  · rw [if_neg hc]
    simp only
    have hu : ∀ g ∈ usedG st y, fixedG g.2.1 g.2.2 := fun g hg => hfx g (List.mem_filter.1 hg).1
    have er : simRun (fixM []) (usedG st y) = ((fun _ => none), usedG st y) := by
      have h1 := sim_none (usedG st y) [] hu
      rw [List.nil_append] at h1
      exact h1
    unfold simpN
    simp only [er, hw, image_bare]
    rw [if_neg hc, used_again]
end Go.Proofs.Yticcikelapifaaa
