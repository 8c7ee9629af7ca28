/- LitsMany: contracts as its walk meets them. -/
import Derived.Test.YtnedpngadfkmiaaDoorLawLib
import Derived.Test.YtnedpngadfkmiaaDoorRSort
import Derived.Test.YtnedpngadfkmiaaDoorClone
import Derived.Test.YtnedpngadfkmiaaDoorRVars
namespace Go.Proofs.YtnedpngadfkmiaaDoor
open Go.RowKit
set_option linter.unusedVariables false

theorem mcX {w W : World} {v : Value} {f : List (List Int)} (hb : Below w.heap.size w W) (R : IsRows w v f) : Calls Tryd.prog 45 #[v] W (fun e w' => e = .returned (.bool (mayCnfB f)) ∧ Below w.heap.size w w') :=
  (maycnf_any v f W (R.below hb (Nat.le_refl _))).mono fun e w' h => ⟨h.1, h.2 ▸ hb⟩
theorem rmcX {w W : World} {v : Value} {f : List (List Int)} (hb : Below w.heap.size w W) (R : IsRows w v f) : Calls Tryd.prog 46 #[v] W (fun e w' => e = .returned (.bool (mayCnfB f)) ∧ Below w.heap.size w w') :=
  (rmaycnf_any v f W (R.below hb (Nat.le_refl _))).mono fun e w' h => ⟨h.1, hb.trans (h.2.below _)⟩

/-- What a call leaves that tells the variables. -/
def VarsMade (w W : World) (f : List (List Int)) (e : Ending) (w' : World) : Prop := ∃ u r, e = .returned u ∧ VarsOf f r ∧ IsInts w' u r ∧ Below W.heap.size W w' ∧ Below w.heap.size w w'
theorem RetVars.made {w W w' : World} {f : List (List Int)} {e : Ending} (h : RetVars W f e w') (hb : Below w.heap.size w W) : VarsMade w W f e w' := by
  obtain ⟨r, ⟨v, h1, h2, h3⟩, h4, h5, h6⟩ := h
  exact ⟨v, r, h1, h4, h2.ints (by omega) h6, h3, hb.trans (h3.mono hb.size)⟩
theorem vaX {w W : World} {v : Value} {f : List (List Int)} (hb : Below w.heap.size w W) (R : IsRows w v f) : Calls Tryd.prog 47 #[v] W (VarsMade w W f) :=
  (vars_any v f W (R.below hb (Nat.le_refl _))).mono fun e w' h => h.made hb
theorem rvaX {w W : World} {v : Value} {f : List (List Int)} (hb : Below w.heap.size w W) (R : IsRows w v f) : Calls Tryd.prog 48 #[v] W (VarsMade w W f) :=
  (rvars_any v f W (R.below hb (Nat.le_refl _))).mono fun e w' h => h.made hb
theorem same2X {w W : World} {v u : Value} {f : List (List Int)} {r s : List Int} (hb : Below w.heap.size w W) (H : IsInts W v r) (K : IsInts W u s) (h1 : VarsOf f r) (h2 : VarsOf f s) : Calls Tryd.prog 107 #[v, u] W (fun e w' => e = .returned (.bool true) ∧ Below w.heap.size w w') := by
  have := h1.unique h2
  subst this
  exact sameX hb H K

theorem sortL_bd {f : List (List Int)} (hF : ∀ x ∈ f, x.length ≤ 17592186044416 ∧ In64 x) : ∀ x ∈ sortL f, x.length ≤ 17592186044416 ∧ In64 x := by
  intro x hx
  unfold sortL at hx
  split at hx
  · rw [sortX_mem] at hx; exact hF x hx
  · cases hx
theorem sortL_len (f : List (List Int)) : (sortL f).length ≤ f.length := by
  unfold sortL
  split
  · have := foldl_insX_len f []; unfold sortX; simpa using this
  · simp

/-- Rows of the call's own, whatever they hold. -/
def RowsW (w : World) (B : Nat) (us : List Value) : Prop := ∀ j, j < us.length → ∃ xs, Own w B (us.getD j (.slice none 0 0)) xs
theorem RowsOwn.rowsW {w : World} {B : Nat} {us : List Value} {ls : List (List Int)} (h : RowsOwn w B us ls) : RowsW w B us := fun j hj => ⟨_, h.2 j (by rw [← h.1]; exact hj)⟩
theorem Own.len_of {w : World} {B : Nat} {a : Option Addr} {n c : Nat} {xs : List Int} (h : Own w B (.slice a n c) xs) : n = xs.length := by
  rcases h.2 with ⟨e, h2⟩ | ⟨g', cap', cur, e, _⟩
  · injection e with _ e2; rw [e2, h2]
  · injection e
/-- A store into a row turns no row into another thing. -/
theorem Own.setAny {w : World} {B B' g n c j : Nat} {u : Value} {xs ys : List Int} {y : Int} (ho : Own w B u xs) (h : Own w B' (.slice (some ⟨g, 0, none⟩) n c) ys) : ∃ zs, Own (w.setCell ⟨g, j, none⟩ (.int .i64 y)) B u zs := by
  rcases ho.2 with ⟨rfl, h2⟩ | ⟨g', cap, cur, rfl, hB, hg, hnc, hcm, hcs, htk⟩
  · exact ⟨[], Own.nil _ _⟩
  · by_cases e : g' = g
    · subst e
      have hn : xs.length = xs.length := rfl
      have := ho.store j y
      refine ⟨xs.set j y, ?_⟩
      exact this
    · refine ⟨xs, ho.1, .inr ⟨g', cap, cur, rfl, hB, ?_, hnc, hcm, hcs, htk⟩⟩
      rw [Below.heap_setCell _ _ _ _ e]
      exact hg
theorem RowsW.set {w : World} {B B' g n c j : Nat} {us : List Value} {ys : List Int} {y : Int} (h : RowsW w B us) (ho : Own w B' (.slice (some ⟨g, 0, none⟩) n c) ys) : RowsW (w.setCell ⟨g, j, none⟩ (.int .i64 y)) B us := fun i hi => by
  obtain ⟨xs, hx⟩ := h i hi
  exact hx.setAny ho
theorem OwnR.setInt {w : World} {B B' g n c j : Nat} {v : Value} {us : List Value} {ys : List Int} {x : Value} (h : OwnR w B v us) (ho : Own w B' (.slice (some ⟨g, 0, none⟩) n c) ys) : OwnR (w.setCell ⟨g, j, none⟩ x) B v us := by
  refine ⟨h.1, ?_⟩
  have hne := h.ne ho
  rcases h.2 with hn | ⟨g', cap, cur, rfl, hB, hg, rest⟩
  · exact .inl hn
  · refine .inr ⟨g', cap, cur, rfl, hB, ?_, rest⟩
    rw [Below.heap_setCell _ _ _ _ (fun e => by
      rcases hne with h1 | h1
      · cases h1
      · exact h1 (by rw [e]; rfl))]
    exact hg
theorem Own.setR {w : World} {B B' g n c j : Nat} {u : Value} {us : List Value} {xs : List Int} {x : Value} (ho : Own w B' u xs) (h : OwnR w B (.slice (some ⟨g, 0, none⟩) n c) us) : Own (w.setCell ⟨g, j, none⟩ x) B' u xs := by
  refine ⟨ho.1, ?_⟩
  have hne := h.ne ho
  rcases ho.2 with hn | ⟨g', cap, cur, rfl, hB, hg, rest⟩
  · exact .inl hn
  · refine .inr ⟨g', cap, cur, rfl, hB, ?_, rest⟩
    rw [Below.heap_setCell _ _ _ _ (fun e => by
      rcases hne with h1 | h1
      · cases h1
      · exact h1 (by rw [e]; rfl))]
    exact hg
theorem RowsOwn.setR {w : World} {B B' g n c j : Nat} {vs us : List Value} {ls : List (List Int)} {x : Value} (ho : RowsOwn w B' vs ls) (h : OwnR w B (.slice (some ⟨g, 0, none⟩) n c) us) : RowsOwn (w.setCell ⟨g, j, none⟩ x) B' vs ls :=
  ⟨ho.1, fun i hi => (ho.2 i hi).setR h⟩

theorem mid_set {us : List Value} {k n : Nat} {z y : Value} (hk : us.length = k) (h : k < n) : (us ++ List.replicate (n - k) z).set k y = (us ++ [y]) ++ List.replicate (n - (k + 1)) z := by
  rw [List.set_append, if_neg (by omega), hk, Nat.sub_self, show n - k = (n - (k + 1)) + 1 from by omega, List.replicate_succ, List.set_cons_zero]
  simp

end Go.Proofs.YtnedpngadfkmiaaDoor
