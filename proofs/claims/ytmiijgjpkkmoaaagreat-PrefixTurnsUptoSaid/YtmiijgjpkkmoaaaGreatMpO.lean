/- Joined texts: PxBackP, PxBackQ. -/
import Derived.Test.YtmiijgjpkkmoaaaGreatPxLinear
import Derived.Test.YtmiijgjpkkmoaaaGreatMpN
import Derived.Test.YtmiijgjpkkmoaaaGreatMpD
/- Pure: the rows of a valid prefix, and the prefix of these rows. -/
namespace Go.Proofs.YtmiijgjpkkmoaaaGreat
open Go.RowKit
set_option linter.unusedVariables false
set_option linter.unusedSimpArgs false

/-- The universals behind blocks, ascending, and the rows in the order of the blocks. -/
def dqU : List Int → List Blk → List Int
  | U, [] => U
  | U, (false, vs) :: P => dqU (ascI (U ++ vs)) P
  | U, (true, _) :: P => dqU U P
def dqE : List Int → List Blk → List (Int × List Int)
  | _, [] => []
  | U, (false, vs) :: P => dqE (ascI (U ++ vs)) P
  | U, (true, vs) :: P => vs.map (fun v => (v, U)) ++ dqE U P
def byVar (E : List (Int × List Int)) : List (Int × List Int) := E.mergeSort (fun x y => decide (x.1 ≤ y.1))
/-- The rows by blocks, each block's ascending. -/
def canL : List Int → List Blk → List (Int × List Int)
  | _, [] => []
  | U, (false, vs) :: P => canL (ascI (U ++ vs)) P
  | U, (true, vs) :: P => (ascI vs).map (fun v => (v, U)) ++ canL U P
/-- Blocks have variables and change their quantifier. -/
def altOk : Option Bool → List Blk → Prop
  | _, [] => True
  | b, (e, vs) :: P => vs ≠ [] ∧ b ≠ some e ∧ altOk (some e) P
theorem alt_of : ∀ (P : List Blk) (b : Option Bool), (∀ j, j < P.length → blkOk P j) → (∀ h : 0 < P.length, b ≠ some (P.getD 0 dB).1) → altOk b P
  | [], b, _, _ => trivial
  | (e, vs) :: P, b, h, hb => by
    have h0 := h 0 (by simp)
    refine ⟨h0.1, hb (by simp), alt_of P (some e) (fun j hj => ?_) (fun hp => ?_)⟩
    · have h1 := h (j + 1) (by simp; omega)
      refine ⟨by simpa using h1.1, fun hj0 => ?_⟩
      have h2 := h1.2 (by omega)
      obtain ⟨i, rfl⟩ : ∃ i, j = i + 1 := ⟨j - 1, by omega⟩
      simpa using h2
    · have h1 := (h 1 (by simp; omega)).2 (by omega)
      intro e2
      have : e = (P.getD 0 dB).1 := by simpa using e2
      simp at h1
      exact h1 this.symm
theorem alt_may {P : List Blk} (h : mayP P = true) : altOk none P ∧ (flatB P).Nodup ∧ (∀ v ∈ flatB P, 1 ≤ v ∧ v ≤ 65536) ∧ (flatB P).length ≤ 1024 := by
  unfold mayP at h
  rw [decide_eq_true_eq] at h
  exact ⟨alt_of P none h.1 (fun _ => by simp), h.2.1, h.2.2.1, h.2.2.2⟩
theorem flat_cons (b : Blk) (P : List Blk) : flatB (b :: P) = b.2 ++ flatB P := by unfold flatB; simp

theorem dq_perm : ∀ (P : List Blk) (U : List Int), (dqU U P ++ exOf (dqE U P)).Perm (U ++ flatB P)
  | [], U => by simp [dqU, dqE, exOf, flatB]
  | (false, vs) :: P, U => by
    rw [flat_cons]
    show (dqU (ascI (U ++ vs)) P ++ exOf (dqE (ascI (U ++ vs)) P)).Perm _
    refine (dq_perm P _).trans ?_
    rw [← List.append_assoc]
    exact List.Perm.append_right _ (ascI_perm _)
  | (true, vs) :: P, U => by
    rw [flat_cons]
    show (dqU U P ++ exOf (vs.map (fun v => (v, U)) ++ dqE U P)).Perm _
    have e : exOf (vs.map (fun v => (v, U)) ++ dqE U P) = vs ++ exOf (dqE U P) := by unfold exOf; rw [List.map_append, List.map_map]; congr 1; simp [Function.comp_def]
    rw [e]
    refine List.Perm.trans ?_ (List.perm_append_comm_assoc vs U (flatB P))
    refine List.Perm.trans (List.perm_append_comm_assoc _ vs _) ?_
    exact List.Perm.append_left _ (dq_perm P U)
theorem can_perm : ∀ (P : List Blk) (U : List Int), (canL U P).Perm (dqE U P)
  | [], U => List.Perm.refl _
  | (false, vs) :: P, U => can_perm P _
  | (true, vs) :: P, U => List.Perm.append ((ascI_perm vs).map _) (can_perm P U)
theorem asc_lt {l : List Int} (h : l.Nodup) : (ascI l).Pairwise (· < ·) := by
  have h2 : (ascI l).Nodup := (ascI_perm l).nodup_iff.2 h
  exact (List.Pairwise.and (ascI_sorted l) h2).imp (fun {a b} h => by have h1 := h.1; have h2 := h.2; omega)
theorem asc_eq {a b : List Int} (h : a.Perm b) (ha : a.Pairwise (· ≤ ·)) (hb : b.Pairwise (· ≤ ·)) : a = b :=
  List.Perm.eq_of_pairwise (fun x y _ _ h1 h2 => Int.le_antisymm h1 h2) ha hb h
theorem without_asc {U us : List Int} (h : (U ++ us).Nodup) : withoutI (ascI (U ++ us)) U = ascI us := by
  have hd := (List.nodup_append.1 h).2.2
  refine asc_eq ?_ ((ascI_sorted _).sublist List.filter_sublist) (ascI_sorted _)
  have h1 : (withoutI (ascI (U ++ us)) U).Perm ((U ++ us).filter (fun x => !decide (x ∈ U))) := (ascI_perm _).filter _
  have h2 : (U ++ us).filter (fun x => !decide (x ∈ U)) = us := by
    rw [List.filter_append]
    have e1 : U.filter (fun x => !decide (x ∈ U)) = [] := by
      rw [List.filter_eq_nil_iff]
      intro x hx
      simp [hx]
    have e2 : us.filter (fun x => !decide (x ∈ U)) = us := by
      rw [List.filter_eq_self]
      intro x hx
      have : x ∉ U := fun h2 => hd x h2 x hx rfl
      simp [this]
    rw [e1, e2, List.nil_append]
  rw [h2] at h1
  exact h1.trans (ascI_perm us).symm
theorem without_self (U : List Int) : withoutI U U = [] := by
  unfold withoutI
  rw [List.filter_eq_nil_iff]
  intro x hx
  simp [hx]

/-! ### the rows' order -/
def keyE (x y : Int × List Int) : Prop := x.2.length < y.2.length ∨ (x.2.length = y.2.length ∧ x.1 < y.1)
theorem can_props : ∀ (P : List Blk) (U : List Int) (b : Option Bool), altOk b P → (U ++ flatB P).Nodup → U.Pairwise (· < ·) →
    (canL U P).Pairwise keyE ∧ (canL U P).Pairwise (fun x y => ∀ v ∈ x.2, v ∈ y.2) ∧
    (∀ x ∈ canL U P, (∀ v ∈ U, v ∈ x.2) ∧ x.2.Pairwise (· < ·) ∧ U.length ≤ x.2.length ∧ (b = some true → U.length < x.2.length) ∧ x.1 ∈ flatB P ∧ ∀ v ∈ x.2, v ∈ dqU U P) ∧ (dqU U P).Pairwise (· < ·) ∧ ∀ v ∈ U, v ∈ dqU U P
  | [], U, b, _, _, hU => ⟨List.Pairwise.nil, List.Pairwise.nil, fun x hx => absurd hx (by simp [canL]), hU, fun v hv => hv⟩
  | (false, vs) :: P, U, b, h, hn, hU => by
    rw [flat_cons, ← List.append_assoc] at hn
    have hn2 : (ascI (U ++ vs) ++ flatB P).Nodup := ((ascI_perm _).append_right _).nodup_iff.2 hn
    obtain ⟨p1, p2, p3, p4, p5⟩ := can_props P (ascI (U ++ vs)) (some false) h.2.2 hn2 (asc_lt (List.nodup_append.1 hn).1)
    have hl : (ascI (U ++ vs)).length = U.length + vs.length := by rw [ascI_len, List.length_append]
    have hv : 0 < vs.length := List.length_pos_iff.2 h.1
    refine ⟨p1, p2, fun x hx => ?_, p4, fun v hv => p5 v (ascI_mem.2 (List.mem_append_left _ hv))⟩
    obtain ⟨q1, q2, q3, q4, q5, q6⟩ := p3 x hx
    exact ⟨fun v hv => q1 v (ascI_mem.2 (List.mem_append_left _ hv)), q2, by omega, fun _ => by omega, by rw [flat_cons]; exact List.mem_append_right _ q5, q6⟩
  | (true, vs) :: P, U, b, h, hn, hU => by
    rw [flat_cons] at hn
    have hn2 : (U ++ flatB P).Nodup := by
      refine hn.sublist ?_
      exact List.Sublist.append_left (List.sublist_append_right _ _) _
    have hnv : vs.Nodup := (List.nodup_append.1 (List.nodup_append.1 hn).2.1).1
    obtain ⟨p1, p2, p3, p4, p5⟩ := can_props P U (some true) h.2.2 hn2 hU
    have hin : ∀ x ∈ (ascI vs).map (fun v => (v, U)), x.2 = U ∧ x.1 ∈ vs := fun x hx => by
      obtain ⟨v, hv, rfl⟩ := List.mem_map.1 hx
      exact ⟨rfl, ascI_mem.1 hv⟩
    refine ⟨?_, ?_, fun x hx => ?_, p4, p5⟩
    · show List.Pairwise _ (_ ++ _)
      rw [List.pairwise_append]
      refine ⟨?_, p1, fun x hx y hy => ?_⟩
      · rw [List.pairwise_map]
        exact (asc_lt hnv).imp (fun {a b} h => Or.inr ⟨rfl, h⟩)
      · have := (hin x hx).1
        have h3 := (p3 y hy).2.2.2.1 rfl
        left
        rw [this]
        exact h3
    · show List.Pairwise _ (_ ++ _)
      rw [List.pairwise_append]
      refine ⟨?_, p2, fun x hx y hy v hv => ?_⟩
      · rw [List.pairwise_map]
        exact List.pairwise_iff_forall_sublist.2 (fun {a b} _ v hv => hv)
      · rw [(hin x hx).1] at hv
        exact (p3 y hy).1 v hv
    · rcases List.mem_append.1 hx with hx | hx
      · obtain ⟨h1, h2⟩ := hin x hx
        rw [h1, flat_cons]
        exact ⟨fun v hv => hv, hU, Nat.le_refl _, fun e => absurd e h.2.1, List.mem_append_left _ h2, p5⟩
      · obtain ⟨q1, q2, q3, q4, q5, q6⟩ := p3 x hx
        rw [flat_cons]
        exact ⟨q1, q2, q3, fun _ => q4 rfl, List.mem_append_right _ q5, q6⟩

/-! ### the blocks of the rows -/
def linRec : List Int → List (Int × List Int) → List Blk
  | _, [] => []
  | B, x :: r => (false, withoutI x.2 B) :: (true, [x.1]) :: linRec x.2 r
def lastOn (B : List Int) (r : List (Int × List Int)) : List Int := match r.getLast? with
  | some x => x.2
  | none => B
theorem lastOn_cons (B : List Int) (x : Int × List Int) (r : List (Int × List Int)) : lastOn B (x :: r) = lastOn x.2 r := by
  unfold lastOn
  cases r with
  | nil => rfl
  | cons y s => simp [List.getLast?_cons]
theorem lastOn_snoc (B : List Int) (x : Int × List Int) (r : List (Int × List Int)) : lastOn B (r ++ [x]) = x.2 := by unfold lastOn; simp
theorem linRec_snoc (x : Int × List Int) : ∀ (r : List (Int × List Int)) (B : List Int), linRec B (r ++ [x]) = linRec B r ++ [(false, withoutI x.2 (lastOn B r)), (true, [x.1])]
  | [], B => rfl
  | y :: r, B => by
    show _ :: _ :: linRec y.2 (r ++ [x]) = _
    rw [linRec_snoc x r y.2, lastOn_cons]
    rfl
theorem befL_is {r : List (Int × List Int)} {k : Nat} (hk : k ≤ r.length) : befL r k = lastOn [] (r.take k) := by
  cases k with
  | zero => rfl
  | succ k =>
    rw [take_two (d := dD) (by omega), lastOn_snoc]
    unfold befL
    rw [if_neg (by omega), Nat.add_sub_cancel]
theorem linP_is (r : List (Int × List Int)) : ∀ k, k ≤ r.length → linP r k = linRec [] (r.take k)
  | 0, _ => rfl
  | k + 1, hk => by
    rw [take_two (d := dD) (by omega), linRec_snoc, ← linP_is r k (by omega), ← befL_is (by omega)]
    rfl
def addB (out : List Blk) (l : List Int) : List Blk := if l = [] then out else out ++ [(false, l)]
theorem rows_join (U : List Int) : ∀ (vs : List Int) (out : List Blk) (l : List Int) (rest : List Blk) (r : List (Int × List Int)),
    (linRec U (vs.map (fun v => (v, U)) ++ r) ++ rest).foldl joinStep (out ++ [(true, l)]) = (linRec U r ++ rest).foldl joinStep (out ++ [(true, l ++ vs)])
  | [], out, l, rest, r => by simp
  | v :: vs, out, l, rest, r => by
    show (((false, withoutI U U) :: (true, [v]) :: linRec U (vs.map (fun v => (v, U)) ++ r)) ++ rest).foldl joinStep _ = _
    rw [List.cons_append, List.foldl_cons, without_self, joinStep_nil, List.cons_append, List.foldl_cons, joinStep_grow (by simp), rows_join U vs]
    simp
theorem back_join : ∀ (P : List Blk) (U B : List Int) (b : Option Bool) (out : List Blk), altOk b P → (U ++ flatB P).Nodup → (b ≠ some false → U = B) → (b = some false → withoutI U B ≠ []) →
    (b = none → out = []) → (∀ l, out.getLast? = some l → l.1 = true) →
    (linRec B (canL U P) ++ [(false, withoutI (dqU U P) (lastOn B (canL U P)))]).foldl joinStep out = addB out (withoutI U B) ++ P.map (fun x => (x.1, ascI x.2))
  | [], U, B, b, out, _, _, hU, hne, h0, ho => by
    show joinStep out (false, withoutI U B) = _
    unfold addB
    by_cases h : withoutI U B = []
    · rw [if_pos h, h, joinStep_nil]; simp
    · rw [if_neg h, joinStep_new h (fun l hl => by rw [ho l hl]; simp)]; simp
  | (false, us) :: P, U, B, b, out, ha, hn, hU, hne, h0, ho => by
    rw [flat_cons, ← List.append_assoc] at hn
    have hn2 : (ascI (U ++ us) ++ flatB P).Nodup := ((ascI_perm _).append_right _).nodup_iff.2 hn
    obtain rfl : U = B := hU ha.2.1
    have hw := without_asc (List.nodup_append.1 hn).1
    have hne2 : ascI us ≠ [] := fun e => ha.1 (List.eq_nil_of_length_eq_zero (by rw [← ascI_len us, e]; rfl))
    show (linRec U (canL (ascI (U ++ us)) P) ++ [(false, withoutI (dqU (ascI (U ++ us)) P) (lastOn U (canL (ascI (U ++ us)) P)))]).foldl joinStep out = _
    rw [back_join P (ascI (U ++ us)) U (some false) out ha.2.2 hn2 (fun h => absurd rfl h) (fun _ => by rw [hw]; exact hne2) (fun h => by cases h) ho, hw, without_self]
    unfold addB
    rw [if_neg hne2, if_pos rfl]
    simp
  | (true, vs) :: P, U, B, b, out, ha, hn, hU, hne, h0, ho => by
    rw [flat_cons] at hn
    have hn2 : (U ++ flatB P).Nodup := hn.sublist (List.Sublist.append_left (List.sublist_append_right _ _) _)
    have hvs : ascI vs ≠ [] := fun e => ha.1 (List.eq_nil_of_length_eq_zero (by rw [← ascI_len vs, e]; rfl))
    obtain ⟨v, r, hv⟩ := List.exists_cons_of_ne_nil hvs
    show (linRec B ((ascI vs).map (fun v => (v, U)) ++ canL U P) ++ [(false, withoutI (dqU U P) (lastOn B ((ascI vs).map (fun v => (v, U)) ++ canL U P)))]).foldl joinStep out = _
    have hl : lastOn B ((ascI vs).map (fun v => (v, U)) ++ canL U P) = lastOn U (canL U P) := by
      rw [hv, List.map_cons, List.cons_append, lastOn_cons]
      show lastOn U _ = _
      clear hv hvs
      induction r with
      | nil => rfl
      | cons x r ih => rw [List.map_cons, List.cons_append, lastOn_cons]; exact ih
    rw [hl, hv, List.map_cons, List.cons_append]
    show (((false, withoutI U B) :: (true, [v]) :: linRec U (r.map (fun v => (v, U)) ++ canL U P)) ++ _).foldl joinStep out = _
    rw [List.cons_append, List.foldl_cons, List.cons_append, List.foldl_cons]
    have e1 : joinStep (joinStep out (false, withoutI U B)) (true, [v]) = addB out (withoutI U B) ++ [(true, [v])] := by
      unfold addB
      by_cases h : withoutI U B = []
      · rw [if_pos h, h, joinStep_nil]
        refine joinStep_new (by simp) (fun l hl => ?_)
        have : b = none := by
          rcases b with _ | (_ | _)
          · rfl
          · exact absurd h (hne rfl)
          · exact absurd rfl ha.2.1
        rw [h0 this] at hl
        cases hl
      · rw [if_neg h, joinStep_new (out := out) (b := (false, withoutI U B)) h (fun l hl => by rw [ho l hl]; simp)]
        exact joinStep_new (by simp) (fun l hl => by simp at hl; rw [← hl]; simp)
    rw [e1, rows_join, List.singleton_append, ← hv, back_join P U U (some true) _ ha.2.2 hn2 (fun _ => rfl) (fun h => by cases h) (fun h => by cases h) (fun l hl => by simp at hl; rw [← hl]), without_self]
    unfold addB
    rw [if_pos rfl]
    simp
end Go.Proofs.YtmiijgjpkkmoaaaGreat

/- Pure: Linear of the rows of a valid prefix is the prefix, its blocks ascending; these rows are valid. -/
namespace Go.Proofs.YtmiijgjpkkmoaaaGreat
open Go.RowKit
set_option linter.unusedVariables false
set_option linter.unusedSimpArgs false

abbrev depE (x : DepV) : Int × List Int := (x.v, x.l)
theorem byVar_perm (E : List (Int × List Int)) : (byVar E).Perm E := List.mergeSort_perm _ _
theorem byVar_le (E : List (Int × List Int)) : (byVar E).Pairwise (fun x y => x.1 ≤ y.1) := by
  have h := List.pairwise_mergeSort (le := fun x y : Int × List Int => decide (x.1 ≤ y.1)) (fun a b c h1 h2 => by simp at h1 h2 ⊢; omega) (fun a b => by simp; omega) E
  exact h.imp (fun h => by simpa using h)
theorem byVar_lt {E : List (Int × List Int)} (h : (exOf E).Nodup) : (byVar E).Pairwise (fun x y => x.1 < y.1) := by
  have h2 : (exOf (byVar E)).Nodup := ((byVar_perm E).map _).nodup_iff.2 h
  have h3 : (byVar E).Pairwise (fun x y => x.1 ≠ y.1) := by
    unfold exOf at h2
    exact List.pairwise_map.1 h2
  exact (List.Pairwise.and (byVar_le E) h3).imp (fun {a b} h => by have := h.1; have := h.2; omega)
theorem getD_mem' {E : List (Int × List Int)} {k : Nat} (hk : k < E.length) : E.getD k dD ∈ E := by simp [List.getD, hk]
/-- The rows of a valid prefix. -/
theorem rows_may {P : List Blk} {C : List (List Int)} (hm : mayP P = true) (hc : mayCnfB C = true) (hw : withinB C (flatB P) = true) : mayDB (dqU [] P) (byVar (dqE [] P)) C = true := by
  obtain ⟨ha, hn, hr, hl⟩ := alt_may hm
  obtain ⟨p1, p2, p3, p4, p5⟩ := can_props P [] none ha (by simpa using hn) List.Pairwise.nil
  have hp := dq_perm P []
  rw [List.nil_append] at hp
  have hp2 : (dqU [] P ++ exOf (byVar (dqE [] P))).Perm (flatB P) := (List.Perm.append_left _ ((byVar_perm _).map _)).trans hp
  have hn2 : (dqU [] P ++ exOf (byVar (dqE [] P))).Nodup := hp2.nodup_iff.2 hn
  have hx := byVar_lt (hp.nodup_iff.2 hn |> fun h => (List.nodup_append.1 h).2.1)
  rw [mayD_ok]
  refine ⟨⟨pair_rise p4 (fun x hx => (hr x (hp2.mem_iff.1 (List.mem_append_left _ hx))).1), fun j hj => ⟨?_, ?_⟩, hn2, fun v hv => hr v (hp2.mem_iff.1 hv), ?_⟩, hc, ?_⟩
  · refine pair_rise ?_ (fun x hx => (hr x (hp2.mem_iff.1 (List.mem_append_right _ hx))).1) j (by rw [exOf_len]; exact hj)
    unfold exOf
    rw [List.pairwise_map]
    exact hx
  · rw [partL_iff _ _ p4]
    have hmem : (byVar (dqE [] P)).getD j dD ∈ canL [] P := (can_perm P []).mem_iff.2 ((byVar_perm _).mem_iff.1 (getD_mem' hj))
    obtain ⟨q1, q2, q3, q4, q5, q6⟩ := p3 _ hmem
    exact ⟨q2, q6⟩
  · rw [hp2.length_eq]; exact hl
  · unfold withinB at hw ⊢
    rw [decide_eq_true_eq] at hw ⊢
    intro c hc x hx
    rw [memB_iff, hp2.mem_iff, ← memB_iff]
    exact hw c hc x hx
theorem rows_var {P : List Blk} (hm : mayP P = true) {s : List DepV} (hs : s.map depE = byVar (dqE [] P)) : s.Pairwise varLt := by
  obtain ⟨ha, hn, hr, hl⟩ := alt_may hm
  have hp := dq_perm P []
  rw [List.nil_append] at hp
  have hx := byVar_lt (hp.nodup_iff.2 hn |> fun h => (List.nodup_append.1 h).2.1)
  rw [← hs, List.pairwise_map] at hx
  exact hx
theorem rows_can {P : List Blk} (hm : mayP P = true) {s : List DepV} (hs : s.map depE = byVar (dqE [] P)) : (byKey s).map depE = canL [] P := by
  obtain ⟨ha, hn, hr, hl⟩ := alt_may hm
  obtain ⟨p1, _⟩ := can_props P [] none ha (by simpa using hn) List.Pairwise.nil
  have h1 := byKey_key (rows_var hm hs)
  refine List.Perm.eq_of_pairwise (le := keyE) (fun a b _ _ h1 h2 => by unfold keyE at h1 h2; omega) ?_ p1 ?_
  · rw [List.pairwise_map]
    exact h1
  · have h2 := (byKey_perm s).map depE
    rw [hs] at h2
    exact (h2.trans (byVar_perm _)).trans (can_perm P []).symm
theorem can_chain {P : List Blk} (hm : mayP P = true) : chainB (canL [] P) = true := by
  obtain ⟨ha, hn, hr, hl⟩ := alt_may hm
  obtain ⟨p1, p2, p3, p4, p5⟩ := can_props P [] none ha (by simpa using hn) List.Pairwise.nil
  unfold chainB
  rw [decide_eq_true_eq]
  intro k hk
  rw [partL_iff _ _ (p3 _ (getD_mem' hk)).2.1]
  unfold befL
  by_cases h0 : k = 0
  · rw [if_pos h0]; exact ⟨List.Pairwise.nil, fun x hx => by cases hx⟩
  · rw [if_neg h0]
    refine ⟨(p3 _ (getD_mem' (by omega))).2.1, ?_⟩
    have := List.pairwise_iff_getElem.1 p2 (k - 1) k (by omega) hk (by omega)
    simpa [List.getD, hk, show k - 1 < (canL [] P).length by omega] using this
theorem mem_flat {P : List Blk} {v : Int} : v ∈ flatB P ↔ ∃ b ∈ P, v ∈ b.2 := by
  unfold flatB
  rw [List.mem_flatten]
  constructor
  · rintro ⟨l, hl, hv⟩
    obtain ⟨b, hb, rfl⟩ := List.mem_map.1 hl
    exact ⟨b, hb, hv⟩
  · rintro ⟨b, hb, hv⟩
    exact ⟨b.2, List.mem_map.2 ⟨b, hb, rfl⟩, hv⟩
theorem flat_asc : ∀ (P : List Blk), (flatB (P.map (fun x => (x.1, ascI x.2)))).Perm (flatB P)
  | [] => List.Perm.refl _
  | b :: P => by
    rw [List.map_cons, flat_cons, flat_cons]
    exact List.Perm.append (ascI_perm _) (flat_asc P)
theorem lin_back {P : List Blk} (hm : mayP P = true) {s : List DepV} (hs : s.map depE = byVar (dqE [] P)) : linR ((byKey s).map depE) (dqU [] P) = (P.map (fun x => (x.1, ascI x.2)), 0) := by
  obtain ⟨ha, hn, hr, hl⟩ := alt_may hm
  have hj := back_join P [] [] none [] ha (by simpa using hn) (fun _ => rfl) (fun h => by cases h) (fun _ => rfl) (fun l hl => by cases hl)
  have e0 : addB [] (withoutI [] []) = [] := rfl
  rw [e0, List.nil_append] at hj
  rw [rows_can hm hs]
  unfold linR
  rw [if_pos (can_chain hm), linP_is _ _ (Nat.le_refl _), befL_is (Nat.le_refl _), List.take_length]
  have hj2 : joinL (linRec [] (canL [] P) ++ [(false, withoutI (dqU [] P) (lastOn [] (canL [] P)))]) = P.map (fun x => (x.1, ascI x.2)) := hj
  have hf := flat_joinL (linRec [] (canL [] P) ++ [(false, withoutI (dqU [] P) (lastOn [] (canL [] P)))])
  rw [hj2] at hf
  have hfp := flat_asc P
  unfold joinA
  rw [← hf, hj2, if_pos (by unfold singleB; rw [decide_eq_true_eq]; exact ⟨hfp.nodup_iff.2 hn, fun v hv => hr v (hfp.mem_iff.1 hv)⟩), if_pos (by rw [hfp.length_eq]; exact hl)]
end Go.Proofs.YtmiijgjpkkmoaaaGreat
