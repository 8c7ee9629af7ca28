/- Joined texts: PxTurnQ, PxTurnL. -/
import Derived.Test.YtmiijgjpkkmoaaaGreatMpP
import Derived.Test.YtmiijgjpkkmoaaaGreatMpQ
import Derived.Test.YtmiijgjpkkmoaaaGreatPxChainP
import Derived.Test.YtmiijgjpkkmoaaaGreatPxSideP
import Derived.Test.YtmiijgjpkkmoaaaGreatPxChainQ
/- Pure: the rows that the reference makes of a valid prefix are the program's. -/
namespace Go.Proofs.YtmiijgjpkkmoaaaGreat
open Go.RowKit
set_option linter.unusedVariables false
set_option linter.unusedSimpArgs false

def refU (P : List Blk) (l : List Int) : List Int := l.filter (fun v => !(findL P v).2.1)
def refE (P : List Blk) (l : List Int) : List (Int × List Int) := (l.filter (fun v => (findL P v).2.1)).map (fun v => (v, (onL P v).1))
theorem refU_snoc (P : List Blk) (l : List Int) (x : Int) : refU P (l ++ [x]) = if (findL P x).2.1 = true then refU P l else refU P l ++ [x] := by
  unfold refU
  rw [List.filter_append]
  cases h : (findL P x).2.1 <;> simp [List.filter, h]
theorem refE_snoc (P : List Blk) (l : List Int) (x : Int) : refE P (l ++ [x]) = if (findL P x).2.1 = true then refE P l ++ [(x, (onL P x).1)] else refE P l := by
  unfold refE
  rw [List.filter_append, List.map_append]
  cases h : (findL P x).2.1 <;> simp [List.filter, h]
theorem dqU_take (P : List Blk) : ∀ k, k ≤ P.length → dqU [] (P.take k) = ascI (otherL true (P.take k))
  | 0, _ => by simp [dqU, otherL, flatB, ascI]
  | k + 1, hk => by
    rw [take_two (d := dB) (show k < P.length by omega), dqU_snoc, ← take_two (d := dB) (show k < P.length by omega), otherL_take (show k < P.length by omega), dqU_take P k (by omega)]
    cases h : (P.getD k dB).1
    · rw [if_neg (by simp), if_pos (by simp), asc_app]
    · rw [if_pos rfl, if_neg (by simp), List.append_nil]
theorem dqE_take (P : List Blk) {x : Int × List Int} : ∀ k, k ≤ P.length → (x ∈ dqE [] (P.take k) ↔ ∃ j, j < k ∧ (P.getD j dB).1 = true ∧ x.1 ∈ (P.getD j dB).2 ∧ x.2 = ascI (otherL true (P.take j)))
  | 0, _ => by simp [dqE]
  | k + 1, hk => by
    rw [take_two (d := dB) (show k < P.length by omega), dqE_snoc, List.mem_append, dqE_take P k (by omega), dqU_take P k (by omega)]
    constructor
    · rintro (⟨j, h1, h2⟩ | h)
      · exact ⟨j, by omega, h2⟩
      · split at h
        · rename_i he
          obtain ⟨v, hv, rfl⟩ := List.mem_map.1 h
          exact ⟨k, by omega, he, hv, rfl⟩
        · cases h
    · rintro ⟨j, h1, h2, h3, h4⟩
      rcases Nat.lt_or_ge j k with h | h
      · exact Or.inl ⟨j, h, h2, h3, h4⟩
      · obtain rfl : j = k := by omega
        right
        rw [if_pos h2]
        exact List.mem_map.2 ⟨x.1, h3, Prod.ext rfl h4.symm⟩
theorem flat_in {P : List Blk} {j : Nat} (hj : j < P.length) {v : Int} (h : v ∈ (P.getD j dB).2) : v ∈ flatB P := mem_flatB (b := P.getD j dB) (by simp [List.getD, hj]) h
theorem findL_at {P : List Blk} (hm : mayP P = true) {j : Nat} (hj : j < P.length) {v : Int} (h : v ∈ (P.getD j dB).2) : findL P v = (j, (P.getD j dB).1, true) := by
  obtain ⟨A, hA, e, hv⟩ := findL_some (flat_in hj h)
  obtain rfl := block_once hm hA hj hv h
  exact e
theorem refU_is {P : List Blk} (hm : mayP P = true) : refU P (putAll (flatB P)) = dqU [] P := by
  have hn := mayP_nodup hm
  rw [putAll_asc hn]
  have e := dqU_take P P.length (Nat.le_refl _)
  rw [List.take_length] at e
  rw [e]
  have hnA : (ascI (flatB P)).Nodup := (ascI_perm _).nodup_iff.2 hn
  have hp := dq_perm P []
  rw [List.nil_append, e] at hp
  have hnO : (ascI (otherL true P)).Nodup := (List.nodup_append.1 (hp.nodup_iff.2 hn)).1
  refine asc_eq ?_ ((ascI_sorted _).sublist List.filter_sublist) (ascI_sorted _)
  unfold refU
  rw [List.perm_ext_iff_of_nodup (hnA.sublist List.filter_sublist) hnO]
  intro v
  have mo := mem_otherL (p := P) (e := true) (A := P.length) (Nat.le_refl _) (x := v)
  rw [List.take_length] at mo
  rw [List.mem_filter, ascI_mem, ascI_mem, mo]
  constructor
  · rintro ⟨h1, h2⟩
    obtain ⟨A, hA, e1, hv⟩ := findL_some h1
    rw [e1] at h2
    exact ⟨A, hA, by simpa using h2, hv⟩
  · rintro ⟨j, hj, h1, h2⟩
    refine ⟨flat_in hj h2, ?_⟩
    rw [findL_at hm hj h2]
    simpa using h1
theorem refE_is {P : List Blk} (hm : mayP P = true) : refE P (putAll (flatB P)) = byVar (dqE [] P) := by
  have hn := mayP_nodup hm
  rw [putAll_asc hn]
  have hnA : (ascI (flatB P)).Nodup := (ascI_perm _).nodup_iff.2 hn
  have hp := dq_perm P []
  rw [List.nil_append] at hp
  have hnx : (exOf (dqE [] P)).Nodup := (List.nodup_append.1 (hp.nodup_iff.2 hn)).2.1
  have hnE : (dqE [] P).Nodup := by
    unfold exOf List.Nodup at hnx
    rw [List.pairwise_map] at hnx
    exact hnx.imp (fun h e => h (by rw [e]))
  refine byVar_uniq hnx ?_ ?_
  · have hnR : (refE P (ascI (flatB P))).Nodup := by
      unfold refE List.Nodup
      rw [List.pairwise_map]
      exact (hnA.sublist List.filter_sublist).imp (fun {a b} h e => h (congrArg Prod.fst e))
    rw [List.perm_ext_iff_of_nodup hnR hnE]
    intro x
    have me := dqE_take P (x := x) P.length (Nat.le_refl _)
    rw [List.take_length] at me
    rw [me]
    unfold refE
    rw [List.mem_map]
    have ho : ∀ {j : Nat} (hj : j < P.length) {v : Int} (h : v ∈ (P.getD j dB).2), (P.getD j dB).1 = true → (onL P v).1 = ascI (otherL true (P.take j)) := by
      intro j hj v h he
      unfold onL
      rw [if_pos hm, findL_at hm hj h, he]
      simp
    constructor
    · rintro ⟨v, hv, rfl⟩
      rw [List.mem_filter, ascI_mem] at hv
      obtain ⟨A, hA, e1, hv2⟩ := findL_some hv.1
      have he : (P.getD A dB).1 = true := by have := hv.2; rw [e1] at this; exact this
      exact ⟨A, hA, he, hv2, ho hA hv2 he⟩
    · rintro ⟨j, hj, h1, h2, h3⟩
      refine ⟨x.1, List.mem_filter.2 ⟨ascI_mem.2 (flat_in hj h2), by rw [findL_at hm hj h2]; exact h1⟩, ?_⟩
      rw [ho hj h2 h1, ← h3]
  · unfold refE
    rw [List.pairwise_map]
    exact (ascI_sorted _).sublist List.filter_sublist
end Go.Proofs.YtmiijgjpkkmoaaaGreat

/- Pure: what the reference's Linear puts together of a chain of rows is what the program's does. -/
namespace Go.Proofs.YtmiijgjpkkmoaaaGreat
open Go.RowKit
set_option linter.unusedVariables false
set_option linter.unusedSimpArgs false

/-- One number, unless it was seen: (what is new, what was seen). -/
def seeStep (s : List Int × List Int) (v : Int) : List Int × List Int := if v ∈ s.2 then s else (s.1 ++ [v], s.2 ++ [v])
def seeL (s : List Int × List Int) (l : List Int) : List Int × List Int := l.foldl seeStep s
def rowStep (n : Nat) (s : (List Int × List Int) × List Int) (x : Int × List Int) : (List Int × List Int) × List Int := if x.2.length = n then (seeL s.1 x.2, s.2 ++ [x.1]) else s
def rowsOf (n : Nat) (seen : List Int) (E : List (Int × List Int)) : (List Int × List Int) × List Int := E.foldl (rowStep n) (([], seen), [])
def refP (E : List (Int × List Int)) : Nat → List Blk × List Int
  | 0 => ([], [])
  | n + 1 => ((refP E n).1 ++ [(false, (rowsOf n (refP E n).2 E).1.1), (true, (rowsOf n (refP E n).2 E).2)], (rowsOf n (refP E n).2 E).1.2)
def refLin (U : List Int) (E : List (Int × List Int)) : List Blk := joinL ((refP E (U.length + 1)).1 ++ [(false, withoutI U (refP E (U.length + 1)).2)])

theorem withoutI_cons (x : Int) (l b : List Int) : withoutI (x :: l) b = if x ∈ b then withoutI l b else x :: withoutI l b := by
  unfold withoutI
  by_cases h : x ∈ b <;> simp [h]
theorem withoutI_snoc {l b : List Int} {x : Int} (h : x ∉ l) : withoutI l (b ++ [x]) = withoutI l b := by
  unfold withoutI
  refine List.filter_congr (fun y hy => ?_)
  have : y ≠ x := fun e => h (by rw [← e]; exact hy)
  simp [this]
theorem withoutI_congr {l b c : List Int} (h : ∀ v, v ∈ b ↔ v ∈ c) : withoutI l b = withoutI l c := by
  unfold withoutI
  refine List.filter_congr (fun y hy => ?_)
  simp [h y]
theorem see_is : ∀ (l u s : List Int), l.Nodup → seeL (u, s) l = (u ++ withoutI l s, s ++ withoutI l s)
  | [], u, s, _ => by simp [seeL, withoutI]
  | x :: l, u, s, h => by
    rw [List.nodup_cons] at h
    show seeL (seeStep (u, s) x) l = _
    rw [withoutI_cons]
    unfold seeStep
    by_cases hx : x ∈ s
    · rw [if_pos hx, if_pos hx, see_is l u s h.2]
    · rw [if_neg hx, if_neg hx, see_is l _ _ h.2, withoutI_snoc h.1]
      simp
theorem without_all {O s : List Int} (h : ∀ v ∈ O, v ∈ s) : withoutI O s = [] := by
  unfold withoutI
  rw [List.filter_eq_nil_iff]
  intro v hv
  simp [h v hv]
theorem row_filter (n : Nat) : ∀ (E : List (Int × List Int)) (s : (List Int × List Int) × List Int), E.foldl (rowStep n) s = (E.filter (fun x => decide (x.2.length = n))).foldl (rowStep n) s
  | [], s => rfl
  | x :: E, s => by
    rw [List.foldl_cons, row_filter n E]
    by_cases h : x.2.length = n
    · rw [List.filter_cons_of_pos (by simpa using h), List.foldl_cons]
    · rw [List.filter_cons_of_neg (by simpa using h)]
      congr 1
      unfold rowStep
      rw [if_neg h]
theorem row_grp (O : List Int) (hO : O.Nodup) : ∀ (vs : List Int) (u s e : List Int), (∀ v ∈ O, v ∈ s) → (vs.map (fun v => (v, O))).foldl (rowStep O.length) ((u, s), e) = ((u, s), e ++ vs)
  | [], u, s, e, h => by simp
  | v :: vs, u, s, e, h => by
    rw [List.map_cons, List.foldl_cons]
    have e1 : rowStep O.length ((u, s), e) (v, O) = ((u, s), e ++ [v]) := by
      unfold rowStep
      rw [if_pos rfl, see_is O u s hO, without_all h]
      simp
    rw [e1, row_grp O hO vs u s _ h]
    simp
theorem rows_grp (O : List Int) (hO : O.Nodup) (v : Int) (vs seen : List Int) : ((v :: vs).map (fun v => (v, O))).foldl (rowStep O.length) (([], seen), []) = ((withoutI O seen, seen ++ withoutI O seen), v :: vs) := by
  rw [List.map_cons, List.foldl_cons]
  have e1 : rowStep O.length (([], seen), []) (v, O) = ((withoutI O seen, seen ++ withoutI O seen), [v]) := by
    unfold rowStep
    rw [if_pos rfl, see_is O [] seen hO]
    simp
  rw [e1, row_grp O hO vs _ _ _ (fun w hw => ?_)]
  · simp
  · by_cases h : w ∈ seen
    · exact List.mem_append_left _ h
    · exact List.mem_append_right _ (by unfold withoutI; rw [List.mem_filter]; exact ⟨hw, by simp [h]⟩)

theorem linRec_app : ∀ (r s : List (Int × List Int)) (B : List Int), linRec B (r ++ s) = linRec B r ++ linRec (lastOn B r) s
  | [], s, B => rfl
  | x :: r, s, B => by
    show _ :: _ :: linRec x.2 (r ++ s) = _
    rw [linRec_app r s x.2, lastOn_cons]
    rfl
theorem joinStep_more (Y : List Blk) (e : Bool) (v : Int) : ∃ out l, joinStep Y (e, [v]) = out ++ [(e, l)] ∧ ∀ vs, joinStep Y (e, v :: vs) = out ++ [(e, l ++ vs)] := by
  unfold joinStep
  cases hg : Y.getLast? with
  | none => exact ⟨Y, [v], by simp, fun vs => by simp⟩
  | some x =>
    by_cases h : x.1 = e
    · exact ⟨Y.dropLast, x.2 ++ [v], by simp [h], fun vs => by simp [h]⟩
    · exact ⟨Y, [v], by simp [h], fun vs => by simp [h]⟩
theorem grp_join (U : List Int) (v : Int) (vs : List Int) (Y : List Blk) : (linRec U (vs.map (fun v => (v, U)))).foldl joinStep (joinStep Y (true, [v])) = joinStep Y (true, v :: vs) := by
  obtain ⟨out, l, h1, h2⟩ := joinStep_more Y true v
  rw [h1, h2]
  have := rows_join U vs out l [] []
  simpa [linRec] using this

/-- The rows by their lengths. -/
def grpE (E : List (Int × List Int)) (n : Nat) : List (Int × List Int) := E.filter (fun x => decide (x.2.length = n))
def lenE (E : List (Int × List Int)) : Nat → List (Int × List Int)
  | 0 => []
  | n + 1 => lenE E n ++ grpE E n
theorem lenE_mem {E : List (Int × List Int)} {x : Int × List Int} : ∀ n, x ∈ lenE E n ↔ x ∈ E ∧ x.2.length < n
  | 0 => by simp [lenE]
  | n + 1 => by
    show x ∈ lenE E n ++ grpE E n ↔ _
    rw [List.mem_append, lenE_mem n]
    unfold grpE
    rw [List.mem_filter, decide_eq_true_eq]
    constructor
    · rintro (⟨h1, h2⟩ | ⟨h1, h2⟩)
      · exact ⟨h1, by omega⟩
      · exact ⟨h1, by omega⟩
    · rintro ⟨h1, h2⟩
      rcases Nat.lt_or_ge x.2.length n with h | h
      · exact Or.inl ⟨h1, h⟩
      · exact Or.inr ⟨h1, by omega⟩
theorem lenE_key {E : List (Int × List Int)} (h : E.Pairwise (fun x y => x.1 < y.1)) : ∀ n, (lenE E n).Pairwise keyE
  | 0 => List.Pairwise.nil
  | n + 1 => by
    show (lenE E n ++ grpE E n).Pairwise _
    rw [List.pairwise_append]
    refine ⟨lenE_key h n, ?_, fun x hx y hy => ?_⟩
    · refine List.Pairwise.imp_of_mem (fun {a b} ha hb hab => ?_) (h.sublist List.filter_sublist)
      have e1 := of_decide_eq_true (List.mem_filter.1 ha).2
      have e2 := of_decide_eq_true (List.mem_filter.1 hb).2
      exact Or.inr ⟨by omega, hab⟩
    · have e1 := ((lenE_mem n).1 hx).2
      have e2 := of_decide_eq_true (List.mem_filter.1 hy).2
      exact Or.inl (by omega)
theorem key_irr (a b : Int × List Int) (h1 : keyE a b) (h2 : keyE b a) : a = b := by unfold keyE at h1 h2; omega
theorem key_nodup {l : List (Int × List Int)} (h : l.Pairwise keyE) : l.Nodup := h.imp (fun {a b} h e => by subst e; unfold keyE at h; omega)
theorem lenE_is {E r : List (Int × List Int)} (hv : E.Pairwise (fun x y => x.1 < y.1)) (hr : r.Perm E) (hk : r.Pairwise keyE) {n : Nat} (hn : ∀ x ∈ E, x.2.length < n) : lenE E n = r := by
  refine List.Perm.eq_of_pairwise (fun a b _ _ h1 h2 => key_irr a b h1 h2) (lenE_key hv n) hk ?_
  rw [List.perm_ext_iff_of_nodup (key_nodup (lenE_key hv n)) (key_nodup hk)]
  intro x
  rw [lenE_mem, hr.mem_iff]
  exact ⟨fun h => h.1, fun h => ⟨h, hn x h⟩⟩
theorem grp_same {O : List Int} {g : List (Int × List Int)} (h : ∀ x ∈ g, x.2 = O) : g = (g.map (fun x => x.1)).map (fun v => (v, O)) := by
  rw [List.map_map]
  conv => lhs; rw [← List.map_id g]
  refine List.map_congr_left (fun x hx => ?_)
  have := h x hx
  exact Prod.ext rfl this
/-- The rows so far, put together as the reference does it, and as the program does it. -/
theorem ref_inv {E : List (Int × List Int)} (hE : ∀ x ∈ E, x.2.Pairwise (· < ·)) {N : Nat} (hp : (([] : List Int) :: (lenE E N).map (fun x => x.2)).Pairwise (fun x y => ∀ v ∈ x, v ∈ y)) :
    ∀ n, n ≤ N → (refP E n).1.foldl joinStep [] = (linRec [] (lenE E n)).foldl joinStep [] ∧ (∀ v, v ∈ (refP E n).2 ↔ v ∈ lastOn [] (lenE E n))
  | 0, _ => ⟨rfl, fun v => by simp [refP, lenE, lastOn]⟩
  | n + 1, hn => by
    obtain ⟨ih1, ih2⟩ := ref_inv hE hp n (by omega)
    have hsub : ((lenE E (n + 1))).Sublist (lenE E N) := by
      have : ∀ k, n + 1 ≤ k → (lenE E (n + 1)).Sublist (lenE E k) := by
        intro k hk
        induction k with
        | zero => omega
        | succ k ihk =>
          rcases Nat.lt_or_ge n k with h | h
          · exact (ihk (by omega)).trans (List.sublist_append_left _ _)
          · obtain rfl : k = n := by omega
            exact List.Sublist.refl _
      exact this N hn
    have hpn : (([] : List Int) :: (lenE E (n + 1)).map (fun x => x.2)).Pairwise (fun x y => ∀ v ∈ x, v ∈ y) := hp.sublist (List.Sublist.cons_cons _ (hsub.map _))
    have hpp := (List.pairwise_cons.1 hpn).2
    rw [List.pairwise_map] at hpp
    have hpa := List.pairwise_append.1 (show (lenE E n ++ grpE E n).Pairwise _ from hpp)
    show ((refP E n).1 ++ _).foldl joinStep [] = (linRec [] (lenE E n ++ grpE E n)).foldl joinStep [] ∧ ∀ v, v ∈ (rowsOf n (refP E n).2 E).1.2 ↔ v ∈ lastOn [] (lenE E n ++ grpE E n)
    rw [linRec_app, List.foldl_append, List.foldl_append, ih1]
    generalize (linRec [] (lenE E n)).foldl joinStep [] = X
    have hro : rowsOf n (refP E n).2 E = (grpE E n).foldl (rowStep n) (([], (refP E n).2), []) := row_filter n E _
    rw [hro]
    have hgl : ∀ x ∈ grpE E n, x.2.length = n := fun x hx => of_decide_eq_true (List.mem_filter.1 hx).2
    have hge : ∀ x ∈ grpE E n, x.2.Pairwise (· < ·) := fun x hx => hE x (List.mem_filter.1 hx).1
    generalize (refP E n).2 = seen at *
    cases hg : grpE E n with
    | nil =>
      refine ⟨?_, fun v => ?_⟩
      · show (joinStep (joinStep X (false, [])) (true, [])) = X
        rw [joinStep_nil, joinStep_nil]
      · rw [List.append_nil]
        exact ih2 v
    | cons y g =>
      rw [hg] at hpa hgl hge
      obtain ⟨y1, O⟩ := y
      have hOn : O.Pairwise (· < ·) := hge _ List.mem_cons_self
      have hOl : O.length = n := hgl _ List.mem_cons_self
      have hsame : ∀ x ∈ g, x.2 = O := fun x hx => by
        have h1 := (List.pairwise_cons.1 hpa.2.1).1 x hx
        have h2 := partL_sub _ _ ((partL_iff O x.2 (hge x (List.mem_cons_of_mem _ hx))).2 ⟨hOn, h1⟩)
        exact (h2.eq_of_length_le (by rw [hgl x (List.mem_cons_of_mem _ hx)]; omega)).symm
      have hgs := grp_same hsame
      have hlst : ∀ v ∈ lastOn [] (lenE E n), v ∈ O := by
        intro v hv
        rcases lastOn_mem (lenE E n) [] with e | ⟨x, hx, e⟩
        · rw [e] at hv; cases hv
        · rw [e] at hv
          exact hpa.2.2 x hx _ List.mem_cons_self v hv
      generalize g.map (fun x => x.1) = vs at hgs
      subst hgs
      have hOd : O.Nodup := hOn.imp (fun h => by omega)
      have e1 := rows_grp O hOd y1 vs seen
      rw [hOl] at e1
      rw [show ((y1, O) :: vs.map (fun v => (v, O))) = (y1 :: vs).map (fun v => (v, O)) from rfl, e1]
      refine ⟨?_, fun v => ?_⟩
      · show joinStep (joinStep X (false, withoutI O seen)) (true, y1 :: vs) = (linRec O (vs.map (fun v => (v, O)))).foldl joinStep (joinStep (joinStep X (false, withoutI O (lastOn [] (lenE E n)))) (true, [y1]))
        rw [grp_join, withoutI_congr ih2]
      · have e2 : lastOn [] (lenE E n ++ (y1 :: vs).map (fun v => (v, O))) = O := by
          rcases lastOn_mem ((y1 :: vs).map (fun v => (v, O))) [] with h | ⟨x, hx, h⟩
          · unfold lastOn at h ⊢
            rw [List.getLast?_append]
            simp only [List.map_cons, List.getLast?_cons, Option.some_or] at h ⊢
            cases hq : (vs.map (fun v => (v, O))).getLast? with
            | none => simp
            | some q =>
              have := List.mem_of_getLast? hq
              obtain ⟨z, _, rfl⟩ := List.mem_map.1 this
              simp
          · unfold lastOn at h ⊢
            rw [List.getLast?_append]
            simp only [List.map_cons, List.getLast?_cons, Option.some_or] at h ⊢
            cases hq : (vs.map (fun v => (v, O))).getLast? with
            | none => simp
            | some q =>
              have := List.mem_of_getLast? hq
              obtain ⟨z, _, rfl⟩ := List.mem_map.1 this
              simp
        rw [e2]
        constructor
        · intro hv
          rcases List.mem_append.1 hv with hv | hv
          · exact hlst v ((ih2 v).1 hv)
          · exact (List.mem_filter.1 hv).1
        · intro hv
          by_cases h : v ∈ seen
          · exact List.mem_append_left _ h
          · exact List.mem_append_right _ (List.mem_filter.2 ⟨hv, by simp [h]⟩)
/-- On a chain of rows the reference's blocks are the program's. -/
theorem refLin_is {U : List Int} {E : List (Int × List Int)} {C : List (List Int)} (h : mayDB U E C = true) {r : List (Int × List Int)} (hr : r.Perm E) (hk : r.Pairwise keyE) (hc : chainB r = true) : linR r U = (refLin U E, 0) := by
  obtain ⟨p, hl, _⟩ := chain_fwd h hr hc
  obtain ⟨hok, hmc, hmw⟩ := mayD_ok.1 h
  obtain ⟨hU, hE, hv, hn⟩ := ok_rows hok
  have hro : ∀ x ∈ r, x.2.Pairwise (· < ·) := fun x hx => (hE x (hr.mem_iff.1 hx)).1
  have hch : chRec [] r := by
    refine chRec_of r [] (fun k hk => ?_)
    unfold chainB at hc
    rw [decide_eq_true_eq] at hc
    exact hc k hk
  have hpw := chRec_pair r [] hro hch
  have hlen : ∀ x ∈ E, x.2.length < U.length + 1 := fun x hx => by
    have := (partL_sub _ _ ((partL_iff _ _ hU).2 (hE x hx))).length_le
    omega
  have hle := lenE_is hv hr hk hlen
  obtain ⟨i1, i2⟩ := ref_inv (E := E) (fun x hx => (hE x hx).1) (N := U.length + 1) (by rw [hle]; exact hpw) (U.length + 1) (Nat.le_refl _)
  rw [hle] at i1 i2
  have e : refLin U E = joinL (linP r r.length ++ [(false, withoutI U (befL r r.length))]) := by
    rw [linP_is _ _ (Nat.le_refl _), befL_is (Nat.le_refl _), List.take_length]
    unfold refLin joinL
    rw [List.foldl_append, List.foldl_append, i1, withoutI_congr i2]
  rw [e]
  unfold linR at hl ⊢
  rw [if_pos hc] at hl ⊢
  unfold joinA at hl ⊢
  split at hl
  · rename_i h1
    rw [if_pos h1]
    split at hl
    · rename_i h2
      rw [if_pos h2]
    · cases hl
  · cases hl
end Go.Proofs.YtmiijgjpkkmoaaaGreat
