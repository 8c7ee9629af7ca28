/- Pure: Linear tells a prefix exactly where the rows are a chain; its rows are the rows. -/
import Derived.Test.YtmiijgjpkkmoaaaGreatPxChainP
import Derived.Test.YtmiijgjpkkmoaaaGreatMpP
import Derived.Test.YtmiijgjpkkmoaaaGreatMpE
namespace Go.Proofs.YtmiijgjpkkmoaaaGreat
open Go.RowKit
set_option linter.unusedVariables false
set_option linter.unusedSimpArgs false

theorem asc_without {B X : List Int} (hB : B.Pairwise (· < ·)) (hX : X.Pairwise (· < ·)) (h : ∀ v ∈ B, v ∈ X) : ascI (B ++ withoutI X B) = X := by
  refine asc_eq ((ascI_perm _).trans ?_) (ascI_sorted _) (hX.imp (fun h => Int.le_of_lt h))
  have hnB : B.Nodup := hB.imp (fun h => by omega)
  have hnX : X.Nodup := hX.imp (fun h => by omega)
  rw [List.perm_ext_iff_of_nodup _ hnX]
  · intro v
    unfold withoutI
    rw [List.mem_append, List.mem_filter]
    constructor
    · rintro (k | k)
      · exact h v k
      · exact k.1
    · intro k
      by_cases hv : v ∈ B
      · exact Or.inl hv
      · exact Or.inr ⟨k, by simp [hv]⟩
  · rw [List.nodup_append]
    refine ⟨hnB, hnX.sublist List.filter_sublist, fun a ha b hb e => ?_⟩
    subst e
    have := (List.mem_filter.1 hb).2
    simp [ha] at this
def chRec : List Int → List (Int × List Int) → Prop
  | _, [] => True
  | B, x :: r => partL B x.2 = true ∧ chRec x.2 r
theorem chRec_of : ∀ (r : List (Int × List Int)) (B : List Int), (∀ k, k < r.length → partL (if k = 0 then B else (r.getD (k - 1) dD).2) (r.getD k dD).2 = true) → chRec B r
  | [], B, h => trivial
  | x :: r, B, h => by
    refine ⟨by simpa using h 0 (by simp), chRec_of r x.2 (fun k hk => ?_)⟩
    have h1 := h (k + 1) (by simp; omega)
    rw [if_neg (by omega), Nat.add_sub_cancel] at h1
    by_cases hk0 : k = 0
    · subst hk0; simpa using h1
    · rw [if_neg hk0]
      obtain ⟨i, rfl⟩ : ∃ i, k = i + 1 := ⟨k - 1, by omega⟩
      simpa using h1
theorem chRec_pair : ∀ (r : List (Int × List Int)) (B : List Int), (∀ x ∈ r, x.2.Pairwise (· < ·)) → chRec B r → (B :: r.map (fun x => x.2)).Pairwise (fun x y => ∀ v ∈ x, v ∈ y)
  | [], B, _, _ => by simp
  | x :: r, B, hr, h => by
    have ih := chRec_pair r x.2 (fun y hy => hr y (List.mem_cons_of_mem _ hy)) h.2
    have hs := ((partL_iff _ _ (hr x List.mem_cons_self)).1 h.1).2
    rw [List.map_cons, List.pairwise_cons]
    refine ⟨fun y hy v hv => ?_, ih⟩
    rcases List.mem_cons.1 hy with rfl | hy
    · exact hs v hv
    · exact (List.pairwise_cons.1 ih).1 y hy v (hs v hv)
theorem lastOn_mem : ∀ (r : List (Int × List Int)) (B : List Int), lastOn B r = B ∨ ∃ x ∈ r, lastOn B r = x.2
  | [], B => Or.inl rfl
  | x :: r, B => by
    rw [lastOn_cons]
    rcases lastOn_mem r x.2 with h | ⟨y, hy, h⟩
    · exact Or.inr ⟨x, List.mem_cons_self, h⟩
    · exact Or.inr ⟨y, List.mem_cons_of_mem _ hy, h⟩
/-- What a valid Dqbf's rows are. -/
theorem ok_rows {U : List Int} {E : List (Int × List Int)} (h : okD U E) : U.Pairwise (· < ·) ∧ (∀ x ∈ E, x.2.Pairwise (· < ·) ∧ ∀ v ∈ x.2, v ∈ U) ∧ E.Pairwise (fun x y => x.1 < y.1) ∧ numsOk (U ++ exOf E) := by
  obtain ⟨hU, hE, hn⟩ := h
  have hp := rise_pair hU
  refine ⟨hp, fun x hx => ?_, ?_, hn⟩
  · obtain ⟨j, hj, rfl⟩ := List.getElem_of_mem hx
    have := (partL_iff _ _ hp).1 (hE j hj).2
    simpa [List.getD, hj] using this
  · have h1 := rise_pair (l := exOf E) (fun j hj => (hE j (by rw [exOf_len] at hj; exact hj)).1)
    unfold exOf at h1
    rw [List.pairwise_map] at h1
    exact h1
theorem getD_memB {l : List Blk} {j : Nat} (hj : j < l.length) : l.getD j dB ∈ l := by simp [List.getD, hj]
theorem chain_fwd {U : List Int} {E : List (Int × List Int)} {C : List (List Int)} (h : mayDB U E C = true) {r : List (Int × List Int)} (hr : r.Perm E) (hc : chainB r = true) :
    ∃ p, linR r U = (p, 0) ∧ mayQB p C = true ∧ dqU [] p = U ∧ byVar (dqE [] p) = E := by
  obtain ⟨hok, hmc, hmw⟩ := mayD_ok.1 h
  obtain ⟨hU, hE, hv, hn⟩ := ok_rows hok
  have hro : ∀ x ∈ r, x.2.Pairwise (· < ·) := fun x hx => (hE x (hr.mem_iff.1 hx)).1
  have hch : chRec [] r := by
    refine chRec_of r [] (fun k hk => ?_)
    unfold chainB at hc
    rw [decide_eq_true_eq] at hc
    exact hc k hk
  have hpw := chRec_pair r [] hro hch
  have hf := lin_fold U r [] [] hro hpw List.Pairwise.nil
  have hlast : (lastOn [] r).Pairwise (· < ·) ∧ ∀ v ∈ lastOn [] r, v ∈ U := by
    rcases lastOn_mem r [] with e | ⟨x, hx, e⟩
    · rw [e]; exact ⟨List.Pairwise.nil, fun v hv => by cases hv⟩
    · rw [e]; exact hE x (hr.mem_iff.1 hx)
  have hL : (linP r r.length ++ [(false, withoutI U (befL r r.length))]).foldl dqStep ([], []) = (U, r) := by
    rw [linP_is _ _ (Nat.le_refl _), befL_is (Nat.le_refl _), List.take_length, List.foldl_append, hf]
    show (ascI (lastOn [] r ++ withoutI U (lastOn [] r)), [] ++ r) = _
    rw [asc_without hlast.1 hU hlast.2, List.nil_append]
  rw [dq_fold] at hL
  injection hL with hL1 hL2
  rw [List.nil_append] at hL2
  obtain ⟨j1, j2⟩ := dq_joinL (linP r r.length ++ [(false, withoutI U (befL r r.length))])
  have hfl := flat_joinL (linP r r.length ++ [(false, withoutI U (befL r r.length))])
  have hperm := dq_perm (linP r r.length ++ [(false, withoutI U (befL r r.length))]) []
  rw [hL1, hL2, List.nil_append] at hperm
  have hp2 : (flatB (linP r r.length ++ [(false, withoutI U (befL r r.length))])).Perm (U ++ exOf E) := hperm.symm.trans (List.Perm.append_left _ (hr.map _))
  have hnn : numsOk (flatB (linP r r.length ++ [(false, withoutI U (befL r r.length))])) := ⟨hp2.nodup_iff.2 hn.1, fun v hv => hn.2.1 v (hp2.mem_iff.1 hv), by rw [hp2.length_eq]; exact hn.2.2⟩
  refine ⟨joinL (linP r r.length ++ [(false, withoutI U (befL r r.length))]), ?_, ?_, by rw [j1, hL1], ?_⟩
  · unfold linR
    rw [if_pos hc]
    unfold joinA
    rw [if_pos (by unfold singleB; rw [decide_eq_true_eq]; exact ⟨hnn.1, hnn.2.1⟩), if_pos hnn.2.2]
  · unfold mayQB
    rw [Bool.and_eq_true, Bool.and_eq_true]
    refine ⟨?_, hmc, ?_⟩
    · unfold mayP
      rw [decide_eq_true_eq, hfl]
      refine ⟨fun j hj => ⟨joinL_full _ _ (getD_memB hj), fun h0 => joinL_alt _ j h0 hj⟩, hnn⟩
    · unfold withinB at hmw ⊢
      rw [decide_eq_true_eq] at hmw ⊢
      intro c hc x hx
      rw [memB_iff, hfl, hp2.mem_iff, ← memB_iff]
      exact hmw c hc x hx
  · rw [j2, hL2]
    refine (byVar_uniq ?_ hr.symm (hv.imp (fun h => Int.le_of_lt h))).symm
    exact (hr.map (fun x : Int × List Int => x.1)).nodup_iff.2 (List.nodup_append.1 hn.1).2.1
theorem partL_sub : ∀ (l m : List Int), partL l m = true → l.Sublist m
  | [], m, _ => List.nil_sublist _
  | x :: r, m, h => by
    unfold partL at h
    split at h
    · cases h
    · rename_i y s hd
      rw [Bool.and_eq_true, decide_eq_true_eq] at h
      obtain ⟨rfl, h2⟩ := h
      have h1 := partL_sub r s h2
      have h3 : (m.dropWhile (fun z => decide (z < y))).Sublist m := List.dropWhile_sublist _
      rw [hd] at h3
      exact (List.Sublist.cons_cons y h1).trans h3
theorem chain_bwd {U : List Int} {E : List (Int × List Int)} {C : List (List Int)} (h : mayDB U E C = true) {r : List (Int × List Int)} (hr : r.Perm E) (hk : r.Pairwise keyE)
    (hall : ∀ i k, i < E.length → k < i → (∀ v ∈ (E.getD i dD).2, v ∈ (E.getD k dD).2) ∨ (∀ v ∈ (E.getD k dD).2, v ∈ (E.getD i dD).2)) : chainB r = true := by
  obtain ⟨hok, hmc, hmw⟩ := mayD_ok.1 h
  obtain ⟨hU, hE, hv, hn⟩ := ok_rows hok
  unfold chainB
  rw [decide_eq_true_eq]
  intro k hkl
  unfold befL
  have hy : r.getD k dD ∈ E := hr.mem_iff.1 (getD_mem' hkl)
  rw [partL_iff _ _ (hE _ hy).1]
  by_cases h0 : k = 0
  · rw [if_pos h0]; exact ⟨List.Pairwise.nil, fun v hv => by cases hv⟩
  · rw [if_neg h0]
    have hx : r.getD (k - 1) dD ∈ E := hr.mem_iff.1 (getD_mem' (by omega))
    have hkey : keyE (r.getD (k - 1) dD) (r.getD k dD) := by
      have := List.pairwise_iff_getElem.1 hk (k - 1) k (by omega) hkl (by omega)
      simpa [List.getD, hkl, show k - 1 < r.length by omega] using this
    generalize r.getD (k - 1) dD = x at *
    generalize r.getD k dD = y at *
    refine ⟨(hE x hx).1, ?_⟩
    have hcmp : (∀ v ∈ x.2, v ∈ y.2) ∨ (∀ v ∈ y.2, v ∈ x.2) := by
      obtain ⟨i, hi, ei⟩ := List.getElem_of_mem hx
      obtain ⟨j, hj, ej⟩ := List.getElem_of_mem hy
      have gi : E.getD i dD = x := by simp [List.getD, hi, ei]
      have gj : E.getD j dD = y := by simp [List.getD, hj, ej]
      rcases Nat.lt_trichotomy i j with hij | hij | hij
      · have := hall j i hj hij
        rw [gi, gj] at this
        exact this.symm
      · subst hij
        rw [ei] at ej
        subst ej
        exact Or.inl (fun v hv => hv)
      · have := hall i j hi hij
        rw [gi, gj] at this
        exact this
    rcases hcmp with hc | hc
    · exact hc
    · have hs := partL_sub _ _ ((partL_iff _ _ (hE x hx).1).2 ⟨(hE y hy).1, hc⟩)
      have e : y.2 = x.2 := hs.eq_of_length_le (by unfold keyE at hkey; omega)
      rw [e]
      exact fun v hv => hv
end Go.Proofs.YtmiijgjpkkmoaaaGreat
