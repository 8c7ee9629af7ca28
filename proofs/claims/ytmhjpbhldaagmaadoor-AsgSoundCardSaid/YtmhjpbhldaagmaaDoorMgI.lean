/- Joined texts: RNum, LawPts. -/
import Derived.Test.YtmhjpbhldaagmaaDoorMgN
import Derived.Test.YtmhjpbhldaagmaaDoorMgH
import Derived.Test.YtmhjpbhldaagmaaDoorAsgRPt
/- The reference's Number. -/
namespace Go.Proofs.YtmhjpbhldaagmaaDoor
open Go.RowKit
set_option linter.unusedVariables false

def numP (a : List Int) : Nat → Nat
  | 0 => 0
  | k + 1 => numP a k + if 0 < a.getD k 0 then 2 ^ k else 0
theorem numP_lt (a : List Int) (k : Nat) : numP a k < 2 ^ k := by
  induction k with
  | zero => simp [numP]
  | succ k ih =>
    unfold numP
    rw [Nat.pow_succ]
    split <;> omega
theorem varOf_lit' {x : Int} (h : litB x = true) : varOf x = (if x < 0 then -x else x) := by
  obtain ⟨h1, h2, h3⟩ := litB_bd h
  unfold varOf
  rw [if_neg (by omega)]
theorem vars_one {a : List Int} (ha : mayB a = true) : VarsOf [a] (a.map varOf) := by
  refine ⟨List.pairwise_map.2 (mayFrom_pair ha), fun v => ?_⟩
  unfold occ
  simp only [List.mem_map, List.mem_singleton, exists_eq_left]
  constructor
  · rintro ⟨x, hx, rfl⟩
    refine ⟨?_, x, hx, rfl⟩
    have h1 := litB_bd (mayB_mem ha x hx)
    rw [varOf_lit' (mayB_mem ha x hx)]
    split <;> omega
  · rintro ⟨_, x, hx, rfl⟩
    exact ⟨x, hx, rfl⟩
theorem manyB_parts {vs : List Int} (h : manyB vs = true) : vs.length ≤ 64 ∧ mayB vs = true ∧ ∀ x ∈ vs, 0 ≤ x := by unfold manyB at h; rw [decide_eq_true_eq] at h; exact h
theorem rn_fit {vs a r : List Int} (hm : manyB vs = true) (ha : mayB a = true) (hr : VarsOf [a] r) : sameB vs r = fits vs a := by
  have er : r = a.map varOf := hr.unique (vars_one ha)
  subst er
  obtain ⟨_, hmv, hpos⟩ := manyB_parts hm
  unfold sameB fits
  rw [decide_eq_decide]
  constructor
  · intro h
    have hl : a.length = vs.length := by rw [h]; simp
    refine ⟨hl, fun i hi => ?_⟩
    have e : vs.getD i 0 = varOf (a.getD i 0) := by rw [h]; simp [List.getD, show i < a.length by omega]
    rw [e, varOf_lit' (mayB_mem ha _ (getD_mem (by omega)))]
    split <;> omega
  · rintro ⟨hl, h⟩
    refine List.ext_getElem (by simp [hl]) fun i h1 h2 => ?_
    have hi : i < a.length := by omega
    have hlit := mayB_mem ha _ (getD_mem hi)
    have hp := hpos _ (getD_mem h1)
    have hlv := litB_bd (mayB_mem hmv _ (getD_mem h1))
    have hk := h i h1
    have e1 : vs.getD i 0 = vs[i] := by simp [List.getD, h1]
    have e2 : a.getD i 0 = a[i] := by simp [List.getD, hi]
    rw [e1] at hp hlv hk
    rw [e2] at hlit hk
    rw [List.getElem_map, varOf_lit' hlit]
    split <;> omega
theorem rn_num {vs a : List Int} (hm : manyB vs = true) (ha : mayB a = true) (hf : fits vs a = true) : ∀ k, k ≤ vs.length → numK vs a k = numP a k := by
  obtain ⟨_, hmv, hpos⟩ := manyB_parts hm
  unfold fits at hf
  rw [decide_eq_true_eq] at hf
  intro k hk
  induction k with
  | zero => rfl
  | succ k ih =>
    have h1 := ih (by omega)
    have h2 := hf.2 k (by omega)
    have h3 := litB_bd (mayB_mem hmv _ (getD_mem (show k < vs.length by omega)))
    have h4 := hpos _ (getD_mem (show k < vs.length by omega))
    unfold numK numP
    rw [h1]
    have : (a.getD k 0 = vs.getD k 0) ↔ 0 < a.getD k 0 := by omega
    simp only [this]

def RetNumB (w : World) (r : Nat × Int) (e : Ending) (w' : World) : Prop := e = .returned (.tuple #[.int .u64 r.1, .int .i64 r.2]) ∧ Below w.heap.size w w'

end Go.Proofs.YtmhjpbhldaagmaaDoor

/- The law on points, walked. -/
namespace Go.Proofs.YtmhjpbhldaagmaaDoor
open Go.RowKit
set_option linter.unusedVariables false
set_option linter.unusedSimpArgs false

theorem sameB_self (l : List Int) : sameB l l = true := by unfold sameB; simp
theorem samezX {w : World} {u v : Value} {l : List Int} (H : IsInts w u l) (K : IsInts w v l) : Calls Tryd.prog 68 #[u, v] w (fun e w' => e = .returned (.bool true) ∧ Below w.heap.size w w') :=
  (same_any _ _ l l w H K).mono fun e w' h => ⟨by rw [h.1, sameB_self], h.2.below _⟩

end Go.Proofs.YtmhjpbhldaagmaaDoor
