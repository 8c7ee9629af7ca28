/- Pure: the prefix of a chain of rows, and its rows. -/
import Derived.Test.YtmiijgjpkkmoaaaGreatMpO
import Derived.Test.YtmiijgjpkkmoaaaGreatPxRJoined
namespace Go.Proofs.YtmiijgjpkkmoaaaGreat
open Go.RowKit
set_option linter.unusedVariables false
set_option linter.unusedSimpArgs false

/-- One block more behind universals and rows. -/
def dqStep (s : List Int × List (Int × List Int)) (b : Blk) : List Int × List (Int × List Int) := if b.1 = true then (s.1, s.2 ++ b.2.map (fun v => (v, s.1))) else (ascI (s.1 ++ b.2), s.2)
theorem dq_fold : ∀ (P : List Blk) (U : List Int) (E : List (Int × List Int)), P.foldl dqStep (U, E) = (dqU U P, E ++ dqE U P)
  | [], U, E => by simp [dqU, dqE]
  | (false, vs) :: P, U, E => dq_fold P (ascI (U ++ vs)) E
  | (true, vs) :: P, U, E => by
    show P.foldl dqStep (U, E ++ vs.map (fun v => (v, U))) = _
    rw [dq_fold P U, List.append_assoc]
    rfl
theorem asc_asc (l : List Int) : ascI (ascI l) = ascI l := asc_eq (ascI_perm _) (ascI_sorted _) (ascI_sorted _)
theorem asc_app (a b : List Int) : ascI (ascI a ++ b) = ascI (a ++ b) := asc_eq ((ascI_perm _).trans (((ascI_perm a).append_right b).trans (ascI_perm _).symm)) (ascI_sorted _) (ascI_sorted _)
theorem step_sorted (s : List Int × List (Int × List Int)) (b : Blk) (h : ascI s.1 = s.1) : ascI (dqStep s b).1 = (dqStep s b).1 := by
  unfold dqStep
  split
  · exact h
  · exact asc_asc _
theorem step_twice (s : List Int × List (Int × List Int)) (e : Bool) (a b : List Int) : dqStep (dqStep s (e, a)) (e, b) = dqStep s (e, a ++ b) := by
  cases e with
  | true => simp [dqStep]
  | false =>
    show (ascI (ascI (s.1 ++ a) ++ b), s.2) = (ascI (s.1 ++ (a ++ b)), s.2)
    rw [asc_app, List.append_assoc]
theorem step_none (s : List Int × List (Int × List Int)) (e : Bool) (h : ascI s.1 = s.1) : dqStep s (e, []) = s := by
  cases e with
  | true => simp [dqStep]
  | false =>
    show (ascI (s.1 ++ []), s.2) = s
    rw [List.append_nil, h]
theorem fold_sorted : ∀ (P : List Blk) (s : List Int × List (Int × List Int)), ascI s.1 = s.1 → ascI (P.foldl dqStep s).1 = (P.foldl dqStep s).1
  | [], s, h => h
  | b :: P, s, h => fold_sorted P _ (step_sorted s b h)
theorem fold_joinStep (out : List Blk) (b : Blk) (s : List Int × List (Int × List Int)) (h : ascI s.1 = s.1) : (joinStep out b).foldl dqStep s = dqStep (out.foldl dqStep s) b := by
  unfold joinStep
  obtain ⟨e, l⟩ := b
  by_cases hl : l = []
  · subst hl
    rw [if_pos rfl, step_none _ _ (fold_sorted out s h)]
  · rw [if_neg hl]
    split
    · rename_i x hx
      rw [List.getLast?_eq_some_iff] at hx
      obtain ⟨ys, rfl⟩ := hx
      obtain ⟨e2, l2⟩ := x
      split
      · rename_i he
        simp only at he
        subst he
        rw [List.dropLast_concat, List.foldl_append, List.foldl_append]
        exact (step_twice _ _ _ _).symm
      · rw [List.foldl_append]
        rfl
    · rw [List.foldl_append]
      rfl
theorem fold_joinL (P : List Blk) (s : List Int × List (Int × List Int)) (h : ascI s.1 = s.1) : (joinL P).foldl dqStep s = P.foldl dqStep s := by
  unfold joinL
  suffices H : ∀ (P out : List Blk), (P.foldl joinStep out).foldl dqStep s = P.foldl dqStep (out.foldl dqStep s) from H P []
  intro P
  induction P with
  | nil => intro out; rfl
  | cons b r ih => intro out; rw [List.foldl_cons, ih, fold_joinStep out b s h]; rfl
theorem dq_joinL (P : List Blk) : dqU [] (joinL P) = dqU [] P ∧ dqE [] (joinL P) = dqE [] P := by
  have h := fold_joinL P ([], []) (by simp [ascI])
  rw [dq_fold, dq_fold] at h
  injection h with h1 h2
  rw [List.nil_append, List.nil_append] at h2
  exact ⟨h1, h2⟩

/-! ### joined blocks change their quantifier -/
def altR (p : List Blk) : Prop := (∀ b ∈ p, b.2 ≠ []) ∧ p.Pairwise (fun _ _ => True) ∧ ∀ j, 0 < j → j < p.length → (p.getD j dB).1 ≠ (p.getD (j - 1) dB).1
theorem altR_step {out : List Blk} {b : Blk} (h : ∀ j, 0 < j → j < out.length → (out.getD j dB).1 ≠ (out.getD (j - 1) dB).1) : ∀ j, 0 < j → j < (joinStep out b).length → ((joinStep out b).getD j dB).1 ≠ ((joinStep out b).getD (j - 1) dB).1 := by
  have snoc : ∀ (o : List Blk) (x : Blk), (∀ j, 0 < j → j < o.length → (o.getD j dB).1 ≠ (o.getD (j - 1) dB).1) → (∀ l, o.getLast? = some l → l.1 ≠ x.1) → ∀ j, 0 < j → j < (o ++ [x]).length → ((o ++ [x]).getD j dB).1 ≠ ((o ++ [x]).getD (j - 1) dB).1 := by
    intro o x ho hx j hj hj2
    have gl : ∀ i, i < o.length → (o ++ [x]).getD i dB = o.getD i dB := fun i hi => by simp [List.getD, List.getElem?_append_left hi]
    rw [List.length_append, List.length_singleton] at hj2
    rcases Nat.lt_or_ge j o.length with h1 | h1
    · rw [gl j h1, gl (j - 1) (by omega)]; exact ho j hj h1
    · obtain rfl : j = o.length := by omega
      rw [gl (o.length - 1) (by omega)]
      have e1 : (o ++ [x]).getD o.length dB = x := by simp [List.getD]
      have e2 : o.getLast? = some (o.getD (o.length - 1) dB) := by
        rw [List.getLast?_eq_getElem?]
        simp [List.getD, show o.length - 1 < o.length by omega]
      rw [e1]
      exact fun e => hx _ e2 e.symm
  unfold joinStep
  split
  · exact h
  · split
    · rename_i x hx
      rw [List.getLast?_eq_some_iff] at hx
      obtain ⟨ys, rfl⟩ := hx
      split
      · rw [List.dropLast_concat]
        intro j hj hj2
        have e : ∀ i, ((ys ++ [(x.1, x.2 ++ b.2)]).getD i dB).1 = ((ys ++ [x]).getD i dB).1 := fun i => by
          rcases Nat.lt_trichotomy i ys.length with h1 | h1 | h1
          · simp [List.getD, List.getElem?_append_left h1]
          · subst h1; simp [List.getD]
          · simp [List.getD, List.getElem?_append_right (Nat.le_of_lt h1), show ¬ (i - ys.length = 0) by omega]
        rw [e, e]
        exact h j hj (by simpa using hj2)
      · rename_i hne
        refine snoc _ _ h (fun l hl => ?_)
        simp at hl
        rw [← hl]
        exact hne
    · rename_i hx
      refine snoc _ _ h (fun l hl => ?_)
      rw [hx] at hl
      cases hl
theorem joinL_alt (P : List Blk) : ∀ j, 0 < j → j < (joinL P).length → ((joinL P).getD j dB).1 ≠ ((joinL P).getD (j - 1) dB).1 := by
  unfold joinL
  suffices H : ∀ (P out : List Blk), (∀ j, 0 < j → j < out.length → (out.getD j dB).1 ≠ (out.getD (j - 1) dB).1) → ∀ j, 0 < j → j < (P.foldl joinStep out).length → ((P.foldl joinStep out).getD j dB).1 ≠ ((P.foldl joinStep out).getD (j - 1) dB).1 from H P [] (fun j _ h => by simp at h)
  intro P
  induction P with
  | nil => intro out h; exact h
  | cons b r ih => intro out h; exact ih _ (altR_step h)

/-! ### a chain of rows -/
theorem lin_fold (U : List Int) : ∀ (r : List (Int × List Int)) (B : List Int) (E : List (Int × List Int)), (∀ x ∈ r, x.2.Pairwise (· < ·)) → (B :: r.map (fun x => x.2)).Pairwise (fun x y => ∀ v ∈ x, v ∈ y) → B.Pairwise (· < ·) →
    (linRec B r).foldl dqStep (B, E) = (lastOn B r, E ++ r)
  | [], B, E, _, _, _ => by simp [linRec, lastOn]
  | x :: r, B, E, hr, hp, hB => by
    rw [List.map_cons, List.pairwise_cons] at hp
    have hx := hr x List.mem_cons_self
    have hsub := hp.1 x.2 List.mem_cons_self
    have e1 : ascI (B ++ withoutI x.2 B) = x.2 := by
      refine asc_eq ((ascI_perm _).trans ?_) (ascI_sorted _) (hx.imp (fun h => Int.le_of_lt h))
      have hnB : B.Nodup := hB.imp (fun h => by omega)
      have hnx : x.2.Nodup := hx.imp (fun h => by omega)
      rw [List.perm_ext_iff_of_nodup]
      · intro v
        unfold withoutI
        rw [List.mem_append, List.mem_filter]
        constructor
        · rintro (h | h)
          · exact hsub v h
          · exact h.1
        · intro h
          by_cases hv : v ∈ B
          · exact Or.inl hv
          · exact Or.inr ⟨h, by simp [hv]⟩
      · rw [List.nodup_append]
        refine ⟨hnB, hnx.sublist List.filter_sublist, fun a ha b hb e => ?_⟩
        subst e
        have := (List.mem_filter.1 hb).2
        simp [ha] at this
      · exact hnx
    show (linRec x.2 r).foldl dqStep (dqStep (dqStep (B, E) (false, withoutI x.2 B)) (true, [x.1])) = _
    have e2 : dqStep (dqStep (B, E) (false, withoutI x.2 B)) (true, [x.1]) = (x.2, E ++ [x]) := by
      show (ascI (B ++ withoutI x.2 B), E ++ [(x.1, ascI (B ++ withoutI x.2 B))]) = _
      rw [e1]
    rw [e2, lin_fold U r x.2 (E ++ [x]) (fun y hy => hr y (List.mem_cons_of_mem _ hy)) hp.2 hx, lastOn_cons, List.append_assoc]
    rfl
end Go.Proofs.YtmiijgjpkkmoaaaGreat
