/- The reference's Close: facts on lists. -/
import Derived.Test.YtfodafaclhoibaaPxRPut
import Derived.Test.YtfodafaclhoibaaPxClose
namespace Go.Proofs.Ytfodafaclhoibaa
open Go.RowKit
set_option linter.unusedVariables false

theorem asc_one {a b : List Int} (ha : a.Pairwise (· < ·)) (hb : b.Pairwise (· < ·)) (h : ∀ x, x ∈ a ↔ x ∈ b) : a = b := by
  induction a generalizing b with
  | nil =>
    cases b with
    | nil => rfl
    | cons y s => exact absurd ((h y).2 (by simp)) (by simp)
  | cons x r ih =>
    cases b with
    | nil => exact absurd ((h x).1 (by simp)) (by simp)
    | cons y s =>
      rw [List.pairwise_cons] at ha hb
      have hxy : x = y := by
        rcases List.mem_cons.1 ((h x).1 (by simp)) with e | hx
        · exact e
        · rcases List.mem_cons.1 ((h y).2 (by simp)) with e | hy
          · exact e.symm
          · have := ha.1 y hy; have := hb.1 x hx; omega
      subst hxy
      have : r = s := by
        apply ih ha.2 hb.2
        intro z
        constructor
        · intro hz
          rcases List.mem_cons.1 ((h z).1 (List.mem_cons_of_mem _ hz)) with e | h'
          · subst e; have := ha.1 _ hz; omega
          · exact h'
        · intro hz
          rcases List.mem_cons.1 ((h z).2 (List.mem_cons_of_mem _ hz)) with e | h'
          · subst e; have := hb.1 _ hz; omega
          · exact h'
      rw [this]

theorem putL_mem {l : List Int} {n x : Int} : x ∈ putL l n ↔ x ∈ l ∨ x = n := by
  unfold putL
  split
  · rename_i h
    exact ⟨.inl, fun k => k.elim id (fun e => e ▸ h)⟩
  · unfold putP
    have h := List.takeWhile_append_dropWhile (p := leB n) (l := l)
    rw [List.mem_append, List.mem_cons]
    conv => rhs; rw [← h, List.mem_append]
    constructor
    · rintro (k | k | k)
      · exact .inl (.inl k)
      · exact .inr k
      · exact .inl (.inr k)
    · rintro ((k | k) | k)
      · exact .inl k
      · exact .inr (.inr k)
      · exact .inr (.inl k)
theorem tw_le {n : Int} : ∀ {l : List Int} {x : Int}, x ∈ l.takeWhile (leB n) → x ≤ n
  | [], x, h => by cases h
  | y :: r, x, h => by
    rw [List.takeWhile_cons] at h
    split at h
    · rename_i hy
      rcases List.mem_cons.1 h with rfl | h
      · unfold leB at hy; exact of_decide_eq_true hy
      · exact tw_le h
    · cases h
theorem dw_gt {n : Int} : ∀ {l : List Int}, l.Pairwise (· < ·) → ∀ {x : Int}, x ∈ l.dropWhile (leB n) → n < x
  | [], _, x, h => by cases h
  | y :: r, hp, x, h => by
    rw [List.pairwise_cons] at hp
    rw [List.dropWhile_cons] at h
    split at h
    · exact dw_gt hp.2 h
    · rename_i hy
      have hy2 : n < y := by
        unfold leB at hy
        simp at hy
        omega
      rcases List.mem_cons.1 h with rfl | h
      · exact hy2
      · have := hp.1 x h; omega
theorem putL_asc {l : List Int} {n : Int} (h : l.Pairwise (· < ·)) : (putL l n).Pairwise (· < ·) := by
  unfold putL
  split
  · exact h
  · rename_i hn
    unfold putP
    rw [List.pairwise_append, List.pairwise_cons]
    refine ⟨h.sublist (List.takeWhile_sublist _), ⟨fun x hx => dw_gt h hx, h.sublist (List.dropWhile_sublist _)⟩, fun x hx y hy => ?_⟩
    have h1 := tw_le hx
    have h2 : x ≠ n := fun e => hn (e ▸ List.takeWhile_subset _ hx)
    rcases List.mem_cons.1 hy with rfl | hy
    · omega
    · have := dw_gt h hy; omega

/-- The free variables, put in one after the other. -/
def rfreeStep (bd S : List Int) (v : Int) : List Int := if v ∈ bd then S else putL S v
def rfreeUp (bd l : List Int) : List Int := l.foldl (rfreeStep bd) []
theorem rfreeUp_snoc (bd l : List Int) (v : Int) : rfreeUp bd (l ++ [v]) = rfreeStep bd (rfreeUp bd l) v := by unfold rfreeUp; rw [List.foldl_append]; rfl
theorem rfree_fold (bd : List Int) : ∀ (l S : List Int), S.Pairwise (· < ·) → (l.foldl (rfreeStep bd) S).Pairwise (· < ·) ∧ ∀ x, x ∈ l.foldl (rfreeStep bd) S ↔ x ∈ S ∨ (x ∈ l ∧ x ∉ bd)
  | [], S, h => ⟨h, fun x => by simp⟩
  | v :: r, S, h => by
    rw [List.foldl_cons]
    by_cases hv : v ∈ bd
    · have e : rfreeStep bd S v = S := by unfold rfreeStep; rw [if_pos hv]
      rw [e]
      obtain ⟨h1, h2⟩ := rfree_fold bd r S h
      refine ⟨h1, fun x => ?_⟩
      rw [h2, List.mem_cons]
      constructor
      · rintro (k | ⟨k, k2⟩)
        · exact .inl k
        · exact .inr ⟨.inr k, k2⟩
      · rintro (k | ⟨rfl | k, k2⟩)
        · exact .inl k
        · exact absurd hv k2
        · exact .inr ⟨k, k2⟩
    · have e : rfreeStep bd S v = putL S v := by unfold rfreeStep; rw [if_neg hv]
      rw [e]
      obtain ⟨h1, h2⟩ := rfree_fold bd r (putL S v) (putL_asc h)
      refine ⟨h1, fun x => ?_⟩
      rw [h2, putL_mem, List.mem_cons]
      constructor
      · rintro ((k | rfl) | ⟨k, k2⟩)
        · exact .inl k
        · exact .inr ⟨.inl rfl, hv⟩
        · exact .inr ⟨.inr k, k2⟩
      · rintro (k | ⟨rfl | k, k2⟩)
        · exact .inl (.inl k)
        · exact .inl (.inr rfl)
        · exact .inr ⟨k, k2⟩
theorem free_fold (bd : List Int) : ∀ (l S : List Int), S.Nodup → (l.foldl (freeStep bd) S).Nodup ∧ ∀ x, x ∈ l.foldl (freeStep bd) S ↔ x ∈ S ∨ (x ∈ l ∧ x ∉ bd)
  | [], S, h => ⟨h, fun x => by simp⟩
  | v :: r, S, h => by
    rw [List.foldl_cons]
    by_cases hv : v ∈ bd ∨ v ∈ S
    · have e : freeStep bd S v = S := by unfold freeStep; rw [if_pos hv]
      rw [e]
      obtain ⟨h1, h2⟩ := free_fold bd r S h
      refine ⟨h1, fun x => ?_⟩
      rw [h2, List.mem_cons]
      constructor
      · rintro (k | ⟨k, k2⟩)
        · exact .inl k
        · exact .inr ⟨.inr k, k2⟩
      · rintro (k | ⟨rfl | k, k2⟩)
        · exact .inl k
        · exact .inl (hv.resolve_left k2)
        · exact .inr ⟨k, k2⟩
    · have e : freeStep bd S v = S ++ [v] := by unfold freeStep; rw [if_neg hv]
      rw [e]
      obtain ⟨h1, h2⟩ := free_fold bd r (S ++ [v]) (nodup_snoc.2 ⟨h, fun k => hv (.inr k)⟩)
      refine ⟨h1, fun x => ?_⟩
      rw [h2, List.mem_append, List.mem_singleton, List.mem_cons]
      constructor
      · rintro ((k | rfl) | ⟨k, k2⟩)
        · exact .inl k
        · exact .inr ⟨.inl rfl, fun k => hv (.inl k)⟩
        · exact .inr ⟨.inr k, k2⟩
      · rintro (k | ⟨rfl | k, k2⟩)
        · exact .inl (.inl k)
        · exact .inl (.inr rfl)
        · exact .inr ⟨k, k2⟩
theorem ascI_strict {l : List Int} (h : l.Nodup) : (ascI l).Pairwise (· < ·) := by
  have h1 := ascI_sorted l
  have h2 : (ascI l).Nodup := (ascI_perm l).nodup_iff.2 h
  exact (h1.and h2).imp (fun h => by have := h.1; have := h.2; omega)
theorem rfree_is (bd l : List Int) : rfreeUp bd l = ascI (freeUp bd l) := by
  obtain ⟨h1, h2⟩ := rfree_fold bd l [] List.Pairwise.nil
  obtain ⟨h3, h4⟩ := free_fold bd l [] List.nodup_nil
  refine asc_one h1 (ascI_strict h3) (fun x => ?_)
  rw [ascI_mem]
  exact (h2 x).trans (h4 x).symm
theorem rfreeUp_64 {bd l : List Int} (h : In64 l) : In64 (rfreeUp bd l) := fun x hx => by
  rcases ((rfree_fold bd l [] List.Pairwise.nil).2 x).1 hx with k | k
  · cases k
  · exact h x k.1
theorem rfreeUp_len (bd l : List Int) : (rfreeUp bd l).length ≤ l.length := by rw [rfree_is, ascI_len]; exact freeUp_len bd l

/-- What the reference joins. -/
def rcloseB (p : List Blk) (fr : List Int) : List Blk := if p ≠ [] ∧ (p.getD 0 dB).1 = true then (true, (p.getD 0 dB).2 ++ fr) :: p.drop 1 else (true, fr) :: p
theorem rclose_join {p : List Blk} (hm : mayP p = true) (fr : List Int) : joinL (rcloseB p fr) = joinL (p.take (atL p) ++ [(true, fr)] ++ p.drop (atL p)) := by
  unfold rcloseB atL
  by_cases h : p ≠ [] ∧ (p.getD 0 dB).1 = true
  · rw [if_pos h, if_pos h]
    cases p with
    | nil => exact absurd rfl h.1
    | cons b r =>
      have hb : b.1 = true := h.2
      have hm' := hm
      unfold mayP at hm'
      rw [decide_eq_true_eq] at hm'
      have hne : b.2 ≠ [] := (hm'.1 0 (by simp)).1
      obtain ⟨b1, b2⟩ := b
      simp only at hb hne
      subst hb
      have e1 : ([(true, b2)] ++ [(true, fr)] ++ r : List Blk) = (true, b2) :: (true, fr) :: r := rfl
      show joinL ((true, b2 ++ fr) :: r) = joinL ([(true, b2)] ++ [(true, fr)] ++ r)
      rw [e1]
      unfold joinL
      rw [List.foldl_cons, List.foldl_cons, List.foldl_cons]
      have e2 : joinStep [] (true, b2) = [(true, b2)] := joinStep_new (out := []) hne (fun l hl => by cases hl)
      have e3 : joinStep [] (true, b2 ++ fr) = [(true, b2 ++ fr)] := joinStep_new (out := []) (fun e => hne (List.append_eq_nil_iff.1 e).1) (fun l hl => by cases hl)
      rw [e2, e3]
      by_cases hf : fr = []
      · subst hf
        rw [joinStep_nil, List.append_nil]
      · have := joinStep_grow (out := []) (e := true) (l := b2) hf
        rw [List.nil_append, List.nil_append] at this
        rw [this]
  · rw [if_neg h, if_neg h]
    rfl
theorem flat_closeB (p : List Blk) (fr : List Int) : (flatB (p.take (atL p) ++ [(true, fr)] ++ p.drop (atL p))).Perm (flatB p ++ fr) := by
  have h1 : flatB p = flatB (p.take (atL p)) ++ flatB (p.drop (atL p)) := by rw [← flatB_app, List.take_append_drop]
  have h2 : flatB [((true, fr) : Blk)] = fr := by simp [flatB]
  rw [flatB_app, flatB_app, h2, h1, List.append_assoc, List.append_assoc]
  exact List.Perm.append_left _ List.perm_append_comm
theorem close_is {p : List Blk} {C : List (List Int)} (hm : mayP p = true) (hc : mayCnfB C = true) :
    closeR p C = if (flatB p).length + (rfreeUp (flatB p) (occL C)).length ≤ 1024 then (joinL (rcloseB p (rfreeUp (flatB p) (occL C))), 0) else ([], 3) := by
  have hf : freeL C (flatB p) = rfreeUp (flatB p) (occL C) := by rw [rfree_is]; rfl
  have hm' := hm
  unfold mayP at hm'
  rw [decide_eq_true_eq] at hm'
  obtain ⟨_, hn, hr, hl⟩ := hm'
  obtain ⟨f1, f2⟩ := rfree_fold (flatB p) (occL C) [] List.Pairwise.nil
  have hp := flat_closeB p (rfreeUp (flatB p) (occL C))
  have hs : singleB (flatB (closeB p C)) = true := by
    unfold closeB
    rw [hf]
    unfold singleB
    rw [decide_eq_true_eq]
    refine ⟨hp.nodup_iff.2 ?_, fun v hv => ?_⟩
    · rw [List.nodup_append]
      refine ⟨hn, f1.imp (fun h => by omega), fun a ha b hb e => ?_⟩
      subst e
      rcases (f2 a).1 hb with k | k
      · cases k
      · exact k.2 ha
    · rcases List.mem_append.1 (hp.mem_iff.1 hv) with k | k
      · exact hr v k
      · rcases (f2 v).1 k with k | k
        · cases k
        · unfold occL at k
          obtain ⟨x, hx, rfl⟩ := List.mem_map.1 k.1
          obtain ⟨c, hc1, hx1⟩ := List.mem_flatten.1 hx
          have hlit := cnf_range hc c hc1 x hx1
          unfold litB at hlit
          simp at hlit
          unfold absOf
          split <;> omega
  have hlen : (flatB (closeB p C)).length = (flatB p).length + (rfreeUp (flatB p) (occL C)).length := by
    unfold closeB
    rw [hf, hp.length_eq, List.length_append]
  unfold closeR joinA
  rw [if_pos ⟨hm, hc⟩, if_pos hs, hlen]
  have hj : joinL (closeB p C) = joinL (rcloseB p (rfreeUp (flatB p) (occL C))) := by rw [rclose_join hm]; unfold closeB; rw [hf]
  rw [hj]
theorem rclose_flat {p : List Blk} {fr : List Int} : (flatB (rcloseB p fr)).length = (flatB p).length + fr.length ∧ ∀ x ∈ flatB (rcloseB p fr), x ∈ flatB p ∨ x ∈ fr := by
  unfold rcloseB
  split
  · rename_i h
    cases p with
    | nil => exact absurd rfl h.1
    | cons b r =>
      show (flatB ((true, b.2 ++ fr) :: r)).length = (flatB (b :: r)).length + fr.length ∧ ∀ x ∈ flatB ((true, b.2 ++ fr) :: r), x ∈ flatB (b :: r) ∨ x ∈ fr
      have e1 : flatB (((true, b.2 ++ fr) : Blk) :: r) = b.2 ++ fr ++ flatB r := by simp [flatB]
      have e2 : flatB (b :: r) = b.2 ++ flatB r := by simp [flatB]
      rw [e1, e2]
      simp only [List.length_append, List.mem_append]
      exact ⟨by omega, fun x hx => by rcases hx with (h | h) | h <;> simp [h]⟩
  · have e1 : flatB (((true, fr) : Blk) :: p) = fr ++ flatB p := by simp [flatB]
    rw [e1]
    simp only [List.length_append, List.mem_append]
    exact ⟨by omega, fun x hx => hx.symm⟩
end Go.Proofs.Ytfodafaclhoibaa
