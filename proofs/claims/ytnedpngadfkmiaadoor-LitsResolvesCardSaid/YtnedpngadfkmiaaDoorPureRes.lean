/- Joins and resolvents are those of the reference. -/
import Derived.Test.YtnedpngadfkmiaaDoorPureTwo
import Derived.Test.YtnedpngadfkmiaaDoorRes
namespace Go.Proofs.YtnedpngadfkmiaaDoor
open Go.RowKit
set_option linter.unusedVariables false

theorem abs_var {x : Int} (h : 0 < varOf x) : absOf x = varOf x := by
  unfold varOf at *
  unfold absOf
  split at h <;> (try split at h) <;> (try split) <;> (try split) <;> omega
theorem may_sorted {p : Int} {l : List Int} (hp : 0 ≤ p) (h : mayFrom p l = true) : l.Pairwise litLt := by
  induction l generalizing p with
  | nil => exact List.Pairwise.nil
  | cons y r ih =>
    obtain ⟨h1, h2⟩ := mayFrom_tail h
    refine List.Pairwise.cons (fun z hz => ?_) (ih (varOf_bd y).1 h2)
    have h3 := mayFrom_low h2 z hz
    unfold litLt
    left
    rw [abs_var (by omega), abs_var (by omega)]
    exact h3
theorem tautR_yes {l : List Int} (h : mayB l = true) : tautR l = (l, 0) := by unfold tautR; rw [if_pos h]
theorem tautR_no {l : List Int} {x : Int} (h1 : x ∈ l) (h2 : -x ∈ l) (h3 : x ≠ 0) : tautR l = ([], 10) := by
  unfold tautR
  rw [if_neg]
  intro h
  have := mayFrom_once h x h1 (-x) h2 (varOf_neg' x).symm
  omega
theorem ins_mem (a b : List Int) (x : Int) : x ∈ b.foldl insL (sortI a) ↔ x ∈ a ∨ x ∈ b := by rw [foldl_insL_mem, sortI_mem]
theorem ins_sorted (a b : List Int) : (b.foldl insL (sortI a)).Pairwise litLt := foldl_insL_sorted b _ (sortI_sorted a)

theorem joinL_eq (a b : List Int) : joinL a b = joinR a b := by
  unfold joinL joinR
  by_cases h : (mayB a && mayB b) = true
  · rw [if_pos h, if_pos h]
    rw [Bool.and_eq_true] at h
    obtain ⟨ha, hb⟩ := h
    have la := mayFrom_low ha
    have lb := mayFrom_low hb
    rcases merge_spec (com := com1) 0 _ a b 0 (Nat.le_refl _) (Int.le_refl _) ha hb (fun x hx y hy e => by rw [if_neg (by have := la x hx; omega)]) ⟨fun ⟨x, hx, e⟩ => by have := la x hx; omega, fun ⟨x, hx, e⟩ => by have := lb x hx; omega⟩ with ⟨c, e, hc, hm⟩ | ⟨e, x, hx, hx2, hx3⟩
    · have hT : b.foldl insL (sortI a) = c := by
        refine sorted_unique (ins_sorted a b) (may_sorted (Int.le_refl _) hc) (fun x => ?_)
        rw [ins_mem, hm]
        exact ⟨fun h => ⟨h, fun e0 => by rcases h with h | h; (have := la x h; omega); (have := lb x h; omega)⟩, fun h => h.1⟩
      rw [e, hT, tautR_yes hc]
    · rw [e, tautR_no (x := x) ((ins_mem a b x).2 (.inl hx)) ((ins_mem a b _).2 (.inr hx2)) (by intro h; rw [h] at hx; have := la 0 hx; simp [varOf] at this)]
  · rw [if_neg h, if_neg h]

theorem may_filter {p : Int} {l : List Int} (q : Int → Bool) (h : mayFrom p l = true) : mayFrom p (l.filter q) = true := by
  induction l generalizing p with
  | nil => rfl
  | cons y r ih =>
    obtain ⟨h1, h2⟩ := mayFrom_tail h
    rw [List.filter_cons]
    split
    · exact mayFrom_cons h1 (ih h2)
    · exact mayFrom_weak (ih h2) (by omega)
theorem mem_without {l : List Int} (h : mayB l = true) (v x : Int) : x ∈ withoutL l v ↔ x ∈ l ∧ varOf x ≠ v := by
  unfold withoutL; rw [if_pos h, List.mem_filter]; unfold keepW; simp
theorem may_without (l : List Int) (v : Int) : mayB (withoutL l v) = true := by
  unfold withoutL
  by_cases h : mayB l = true
  · rw [if_pos h]; exact may_filter _ h
  · rw [if_neg h]; rfl

theorem resL_eq (a b : List Int) (v : Int) : resL a b v = resR a b v := by
  unfold resL resR
  by_cases h : (mayB a && mayB b) = true
  · rw [if_pos h, if_pos h]
    by_cases h0 : v ≤ 0 ∨ memB a v = false ∨ memB b (-v) = false
    · rw [if_pos h0, if_pos h0]
    · rw [if_neg h0, if_neg h0]
      rw [Bool.and_eq_true] at h
      obtain ⟨ha, hb⟩ := h
      have hv : 0 < v := by rcases Int.lt_or_le 0 v with k | k; exact k; exact absurd (.inl k) h0
      have hva : v ∈ a := by
        have : memB a v ≠ false := fun k => h0 (.inr (.inl k))
        simpa [memB] using this
      have hvb : -v ∈ b := by
        have : memB b (-v) ≠ false := fun k => h0 (.inr (.inr k))
        simpa [memB] using this
      have la := mayFrom_low ha
      have lb := mayFrom_low hb
      have hvv : varOf v = v := by have := la v hva; unfold varOf at *; split at this <;> (try split at this) <;> (try split) <;> (try split) <;> omega
      have hvn : varOf (-v) = v := by rw [varOf_neg', hvv]
      have ha' := may_without a v
      have hb' := may_without b v
      have hj : joinR (withoutL a v) (withoutL b v) = tautR ((withoutL b v).foldl insL (sortI (withoutL a v))) := by unfold joinR; rw [if_pos (by rw [ha', hb']; rfl)]
      rw [hj]
      rcases merge_spec (com := comR v) v _ a b 0 (Nat.le_refl _) (Int.le_refl _) ha hb (fun x hx y hy e => by
          unfold comR
          by_cases hxv : x = v
          · rw [if_pos hxv, hxv, if_pos hvv]
          · rw [if_neg hxv, if_neg]
            intro e2
            exact hxv (mayFrom_once ha x hx v hva (by rw [e2, hvv]))) ⟨fun _ => ⟨-v, hvb, hvn⟩, fun _ => ⟨v, hva, hvv⟩⟩ with ⟨c, e, hc, hm⟩ | ⟨e, x, hx, hx2, hx3⟩
      · have hT : (withoutL b v).foldl insL (sortI (withoutL a v)) = c := by
          refine sorted_unique (ins_sorted _ _) (may_sorted (Int.le_refl _) hc) (fun x => ?_)
          rw [ins_mem, hm, mem_without ha, mem_without hb]
          exact or_and_right.symm
        rw [e, hT, tautR_yes hc]
      · rw [e, tautR_no (x := x) ((ins_mem _ _ x).2 (.inl ((mem_without ha v x).2 ⟨hx, hx3⟩))) ((ins_mem _ _ _).2 (.inr ((mem_without hb v _).2 ⟨hx2, by rw [varOf_neg']; exact hx3⟩))) (by intro h; rw [h] at hx; have := la 0 hx; simp [varOf] at this)]
  · rw [if_neg h, if_neg h]

end Go.Proofs.YtnedpngadfkmiaaDoor
