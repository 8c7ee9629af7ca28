/- What Reduce leaves: facts on lists. -/
import Derived.Test.YtmiijgjpkkmoaaaGreatMpF
import Derived.Test.YtmiijgjpkkmoaaaGreatMpI
namespace Go.Proofs.YtmiijgjpkkmoaaaGreat
open Go.RowKit
set_option linter.unusedVariables false

/-- The quantifier of a literal's block. -/
def kindAt (p : List Blk) (x : Int) : Bool := (p.getD (plOf p x).toNat dB).1

theorem last_fold (p : List Blk) (e : Bool) : ∀ (l : List Int) (g : Int), g ≤ l.foldl (lastStep p e) g ∧ ∀ x ∈ l, kindAt p x = e → plOf p x ≤ l.foldl (lastStep p e) g
  | [], g => ⟨Int.le_refl _, fun x hx => by cases hx⟩
  | y :: r, g => by
    obtain ⟨h1, h2⟩ := last_fold p e r (lastStep p e g y)
    have h3 : g ≤ lastStep p e g y := by unfold lastStep; split <;> omega
    have h4 : kindAt p y = e → plOf p y ≤ lastStep p e g y := by
      intro hk
      unfold kindAt at hk
      unfold lastStep
      by_cases h : g < plOf p y
      · rw [if_pos ⟨h, hk⟩]; exact Int.le_refl _
      · rw [if_neg (fun h' => h h'.1)]; omega
    rw [List.foldl_cons]
    refine ⟨by omega, fun x hx hk => ?_⟩
    rcases List.mem_cons.1 hx with rfl | hx
    · have := h4 hk; omega
    · exact h2 x hx hk
theorem last_mem (p : List Blk) (e : Bool) : ∀ (l : List Int) (g : Int), l.foldl (lastStep p e) g = g ∨ ∃ x ∈ l, kindAt p x = e ∧ plOf p x = l.foldl (lastStep p e) g
  | [], g => .inl rfl
  | y :: r, g => by
    rw [List.foldl_cons]
    rcases last_mem p e r (lastStep p e g y) with h | ⟨x, hx, h1, h2⟩
    · rw [h]
      unfold lastStep
      split
      · rename_i h3; exact .inr ⟨y, List.mem_cons_self, h3.2, rfl⟩
      · exact .inl rfl
    · exact .inr ⟨x, List.mem_cons_of_mem _ hx, h1, h2⟩
theorem lastL_up {p : List Blk} {e : Bool} {l : List Int} {x : Int} (hx : x ∈ l) (hk : kindAt p x = e) : plOf p x ≤ lastL p e l := (last_fold p e l (-1)).2 x hx hk
theorem keepR_iff (p : List Blk) (g x : Int) : keepR p g x = true ↔ plOf p x ≤ g := by unfold keepR; exact decide_eq_true_iff
theorem keepR_no (p : List Blk) (g x : Int) : keepR p g x = false ↔ g < plOf p x := by unfold keepR; rw [decide_eq_false_iff_not]; omega
/-- What is left is left again. -/
theorem reduce_again (p : List Blk) (e : Bool) (l : List Int) : (l.filter (keepR p (lastL p e l))).filter (keepR p (lastL p e (l.filter (keepR p (lastL p e l))))) = l.filter (keepR p (lastL p e l)) := by
  have hg : lastL p e l ≤ lastL p e (l.filter (keepR p (lastL p e l))) := by
    rcases last_mem p e l (-1) with h | ⟨x, hx, h1, h2⟩
    · have := (last_fold p e (l.filter (keepR p (lastL p e l))) (-1)).1
      unfold lastL at this ⊢
      rw [h] at this ⊢
      exact this
    · have h3 : plOf p x = lastL p e l := h2
      have hm : x ∈ l.filter (keepR p (lastL p e l)) := List.mem_filter.2 ⟨hx, (keepR_iff _ _ _).2 (by omega)⟩
      have := lastL_up hm h1
      omega
  rw [List.filter_eq_self]
  intro x hx
  have h1 := (keepR_iff _ _ _).1 (List.mem_filter.1 hx).2
  exact (keepR_iff _ _ _).2 (by omega)

theorem find_pl (p : List Blk) (x : Int) : (plOf p x = -1 ∧ findL p (absOf x) = (0, false, false)) ∨ (0 ≤ plOf p x ∧ findL p (absOf x) = ((plOf p x).toNat, kindAt p x, true)) := by
  unfold plOf firstIn findL
  cases h : (pairsB p).find? (fun y => y.2 == absOf x) with
  | none => exact .inl ⟨rfl, rfl⟩
  | some y =>
    refine .inr ⟨by simp only; omega, ?_⟩
    unfold kindAt plOf firstIn
    rw [h]
    simp only [Int.toNat_natCast]
theorem mem_pairsB {p : List Blk} {y : Nat × Int} (h : y ∈ pairsB p) : y.2 ∈ flatB p := by
  rw [← pairs_flat]
  exact List.mem_map_of_mem h
theorem findL_none {p : List Blk} {v : Int} (h : v ∉ flatB p) : findL p v = (0, false, false) := by
  unfold findL
  cases e : (pairsB p).find? (fun y => y.2 == v) with
  | none => rfl
  | some y =>
    have h1 := mem_pairsB (List.mem_of_find?_eq_some e)
    have h2 := List.find?_some e
    simp at h2
    rw [h2] at h1
    exact absurd h1 h
theorem findL_some {p : List Blk} {v : Int} (h : v ∈ flatB p) : ∃ i, i < p.length ∧ findL p v = (i, (p.getD i dB).1, true) ∧ v ∈ (p.getD i dB).2 := by
  unfold findL
  cases e : (pairsB p).find? (fun y => y.2 == v) with
  | none =>
    rw [List.find?_eq_none] at e
    rw [← pairs_flat] at h
    obtain ⟨y, hy, rfl⟩ := List.mem_map.1 h
    exact absurd (by simp) (e y hy)
  | some y =>
    have h1 := pairsUp_lt (List.mem_of_find?_eq_some e)
    have h2 := List.find?_some e
    simp at h2
    exact ⟨y.1, h1.1, rfl, h2 ▸ h1.2⟩

/-- The reference's absolute value, as it wraps. -/
def absW (x : Int) : Int := if x = -9223372036854775808 then x else absOf x
theorem absW_rng {x : Int} (h1 : -9223372036854775808 ≤ x) (h2 : x ≤ 9223372036854775807) : -9223372036854775808 ≤ absW x ∧ absW x ≤ 9223372036854775807 := by
  unfold absW absOf
  split
  · omega
  · split <;> omega
theorem find_absW {p : List Blk} (hm : mayP p = true) (x : Int) : findL p (absW x) = (if x = -9223372036854775808 then (0, false, false) else findL p (absOf x)) := by
  unfold absW
  split
  · rename_i h
    refine findL_none (fun hx => ?_)
    unfold mayP at hm
    rw [decide_eq_true_eq] at hm
    have := hm.2.2.1 _ hx
    omega
  · rfl
/-- A literal that is taken away. -/
theorem red_gone {p : List Blk} (hm : mayP p = true) {cube : Bool} {l : List Int} {x : Int} (hx : x ∈ l) (hk : keepR p (lastL p (!cube) l) x = false) :
    ∃ B : Nat, findL p (absW x) = (B, cube, true) ∧ lastL p (!cube) l < B ∧ B ≤ p.length := by
  have h1 := (keepR_no _ _ _).1 hk
  have h2 := (lastL_rng p (!cube) l).1
  rcases find_pl p x with ⟨h3, _⟩ | ⟨h3, h4⟩
  · omega
  · have h5 : kindAt p x = cube := by
      rcases Bool.eq_false_or_eq_true (kindAt p x) with h | h <;> rcases Bool.eq_false_or_eq_true cube with k | k
      · rw [h, k]
      · have := lastL_up hx (e := !cube) (by rw [h, k]; rfl); omega
      · have := lastL_up hx (e := !cube) (by rw [h, k]; rfl); omega
      · rw [h, k]
    have h6 : x ≠ -9223372036854775808 := by
      intro e
      have h7 : absOf x ∈ flatB p := by
        rcases Classical.em (absOf x ∈ flatB p) with h | h
        · exact h
        · rw [findL_none h] at h4; simp at h4
      unfold mayP at hm
      rw [decide_eq_true_eq] at hm
      have := hm.2.2.1 _ h7
      rw [e] at this
      unfold absOf at this
      omega
    refine ⟨(plOf p x).toNat, ?_, by omega, ?_⟩
    · rw [find_absW hm, if_neg h6, h4, h5]
    · rcases plOf_lt p x with h | h <;> omega
/-- Any literal beside it. -/
theorem red_other {p : List Blk} (hm : mayP p = true) {cube : Bool} {l : List Int} {x : Int} (hx : x ∈ l) :
    ∃ c : Nat, c ≤ p.length ∧ (findL p (absW x) = (c, false, false) ∨ findL p (absW x) = (c, cube, true) ∨ (findL p (absW x) = (c, !cube, true) ∧ (c : Int) ≤ lastL p (!cube) l)) := by
  rw [find_absW hm]
  split
  · exact ⟨0, Nat.zero_le _, .inl rfl⟩
  · rcases find_pl p x with ⟨h3, h4⟩ | ⟨h3, h4⟩
    · exact ⟨0, Nat.zero_le _, .inl h4⟩
    · refine ⟨(plOf p x).toNat, by rcases plOf_lt p x with h | h <;> omega, ?_⟩
      rw [h4]
      rcases Bool.eq_false_or_eq_true (kindAt p x) with h | h <;> rcases Bool.eq_false_or_eq_true cube with k | k
      · right; left; rw [h, k]
      · right; right; rw [h, k]; exact ⟨rfl, by have := lastL_up hx (e := !false) (by rw [h]; rfl); omega⟩
      · right; right; rw [h, k]; exact ⟨rfl, by have := lastL_up hx (e := !true) (by rw [h]; rfl); omega⟩
      · right; left; rw [h, k]

/-- How many are left of the first ones; which one stands there. -/
theorem filt_at {q : Int → Bool} {l : List Int} {i : Nat} (hi : i < l.length) (hq : q (l.getD i 0) = true) : ((l.take i).filter q).length < (l.filter q).length ∧ (l.filter q).getD ((l.take i).filter q).length 0 = l.getD i 0 ∧ ((l.take (i + 1)).filter q).length = ((l.take i).filter q).length + 1 := by
  have h1 : l = l.take i ++ (l.getD i 0 :: l.drop (i + 1)) := by
    have := List.take_append_drop i l
    rw [List.drop_eq_getElem_cons hi] at this
    simp [List.getD, hi]
  have h2 : l.filter q = (l.take i).filter q ++ (l.getD i 0 :: (l.drop (i + 1)).filter q) := by
    conv => lhs; rw [h1]
    rw [List.filter_append, List.filter_cons_of_pos hq]
  refine ⟨by rw [h2]; simp, by rw [h2]; simp [List.getD], ?_⟩
  rw [filter_take hi, if_pos hq]
  simp
theorem filt_no {q : Int → Bool} {l : List Int} {i : Nat} (hi : i < l.length) (hq : q (l.getD i 0) = false) : ((l.take (i + 1)).filter q).length = ((l.take i).filter q).length := by
  rw [filter_take hi, if_neg (by rw [hq]; simp)]
  simp
theorem filt_ne {q : Int → Bool} {l : List Int} {n : Nat} {y : Int} (hn : n < (l.filter q).length) (hq : q y = false) : (l.filter q).getD n 0 ≠ y := by
  intro e
  have : (l.filter q).getD n 0 ∈ l.filter q := by simp [List.getD, hn]
  have := (List.mem_filter.1 this).2
  rw [e, hq] at this
  cases this
end Go.Proofs.YtmiijgjpkkmoaaaGreat
