/- slices.Sort and slices.Clone over integers of the call's own. -/
import Derived.Test.YtppglbffmgnooaaGreatK02
import Derived.Test.YtppglbffmgnooaaGreatShelf
import Derived.Test.YtppglbffmgnooaaGreatK01
import Derived.Lib.OwnBridge
namespace Go.Proofs.YtppglbffmgnooaaGreat
open Go.RowKit Go.Sort Go.Lib
set_option linter.unusedVariables false
set_option linter.unusedSimpArgs false

def ascI (l : List Int) : List Int := l.mergeSort (fun x y => decide (x ≤ y))
theorem ascI_len (l : List Int) : (ascI l).length = l.length := by unfold ascI; rw [List.length_mergeSort]
theorem ascI_perm (l : List Int) : (ascI l).Perm l := List.mergeSort_perm _ _
theorem ascI_mem {l : List Int} {x : Int} : x ∈ ascI l ↔ x ∈ l := (ascI_perm l).mem_iff
theorem ascI_sorted (l : List Int) : (ascI l).Pairwise (· ≤ ·) := by
  have h := List.pairwise_mergeSort (le := fun x y : Int => decide (x ≤ y)) (fun a b c h1 h2 => by simp at h1 h2 ⊢; omega) (fun a b => by simp; omega) l
  exact h.imp (fun h => by simpa using h)

set_option maxHeartbeats 800000 in
theorem sort2_any (B : Nat) (v : Value) (l : List Int) (w : World) (hown : Own w B v l) (hB : B ≤ w.heap.size) (hl : l.length ≤ 17592186044416) :
    Calls Tryz.prog 102 #[v] w fun e w' => e = .returned (.tuple #[]) ∧ Own w' B v (ascI l) ∧ Below B w w' ∧ Kept (fun k => v.ownBlock = some k) w w' := by
  have hrow : w.ownsRow B 3 1 v l.length (l.map (Value.int .i64)) := hown
  rcases hown.2 with ⟨rfl, h2⟩ | ⟨g, cap, cur, rfl, hBg, hg, hnc, hcm, hcs, htk⟩
  · have : l = [] := List.eq_nil_of_length_eq_zero h2
    subst this
    refine (Tryz.slices_Sort_int_none none 0 w).mono ?_
    rintro e w' ⟨rfl, rfl⟩
    exact ⟨rfl, by simpa [ascI] using Own.nil _ _, Below.refl _ _, Kept.refl _ _⟩
  · obtain ⟨g', cap', e, _, _, hcap, _, hlen, hH⟩ := holds_of_ownsRow hrow (by intro h; cases h)
    injection e with e1 _ e3
    injection e1 with e1
    injection e1 with e1
    subst e1; subst e3
    have hlt : g < w.heap.size := (Array.getElem?_eq_some_iff.1 hg).1
    refine (Tryz.slices_Sort_int g 0 cap l w hH hlt (by omega)).mono ?_
    rintro e w' ⟨rfl, n, os, hw⟩
    refine ⟨rfl, ?_, ?_, ?_⟩
    · have hr := ownsRow_putRow (q := n) (k := l.length) hrow (ascI_len l) (Nat.le_refl _)
      rw [List.take_of_length_le (by rw [ascI_len]; exact Nat.le_refl _)] at hr
      have ho : Own (putRow (Value.int .i64) (Sort.ahead w n) g 0 (ascI l).toArray) B (.slice (some ⟨g, 0, none⟩) l.length cap) (ascI l) := by
        unfold Own
        rw [ascI_len]
        exact hr
      rw [hw]
      refine ho.below (C := (putRow (Value.int .i64) (Sort.ahead w n) g 0 (ascI l).toArray).heap.size) ?_ (Nat.le_refl _)
      refine ⟨rfl, rfl, rfl, by simp [grow], fun k hk => ?_⟩
      show ((putRow (Value.int .i64) (Sort.ahead w n) g 0 (ascI l).toArray).heap ++ os)[k]? = _
      rw [Array.getElem?_append_left hk]
    · rw [hw]
      have h1 : Below B w (putRow (Value.int .i64) (Sort.ahead w n) g 0 (ascI l).toArray) := below_putRow (Below.refl _ _) hBg
      refine h1.trans ⟨rfl, rfl, rfl, by simp [grow], fun k hk => ?_⟩
      show ((putRow (Value.int .i64) (Sort.ahead w n) g 0 (ascI l).toArray).heap ++ os)[k]? = _
      rw [Array.getElem?_append_left (by have := h1.size; omega)]
    · rw [hw]
      refine ⟨rfl, rfl, rfl, ?_, fun k hk hS => ?_⟩
      · have h1 : Below B w (putRow (Value.int .i64) (Sort.ahead w n) g 0 (ascI l).toArray) := below_putRow (Below.refl _ _) hBg
        have := h1.size
        show w.heap.size ≤ ((putRow (Value.int .i64) (Sort.ahead w n) g 0 (ascI l).toArray).heap ++ os).size
        rw [Array.size_append]
        omega
      · have hkg : k ≠ g := fun e => hS (by rw [e]; rfl)
        have h1 : Below B w (putRow (Value.int .i64) (Sort.ahead w n) g 0 (ascI l).toArray) := below_putRow (Below.refl _ _) hBg
        show ((putRow (Value.int .i64) (Sort.ahead w n) g 0 (ascI l).toArray).heap ++ os)[k]? = _
        rw [Array.getElem?_append_left (by have := h1.size; omega)]
        simp [putRow, mapBlock, Sort.ahead, Array.getElem?_modify, show g ≠ k by omega]
theorem sort1_any (B : Nat) (v : Value) (l : List Int) (w : World) (hown : Own w B v l) (hB : B ≤ w.heap.size) (hl : l.length ≤ 17592186044416) :
    Calls Tryz.prog 102 #[v] w fun e w' => e = .returned (.tuple #[]) ∧ Own w' B v (ascI l) ∧ Below B w w' :=
  (sort2_any B v l w hown hB hl).mono fun e w' h => ⟨h.1, h.2.1, h.2.2.1⟩

end Go.Proofs.YtppglbffmgnooaaGreat
