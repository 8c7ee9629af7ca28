/- Pure: what Eval works out, node by node over the nodes that its edge reaches, is the value of the edge. -/
import Derived.Test.YtppglbffmgnooaaGreatAgPNet
import Derived.Test.YtppglbffmgnooaaGreatA01
import Derived.Test.YtppglbffmgnooaaGreatA07
namespace Go.Proofs.YtppglbffmgnooaaGreat
set_option linter.unusedVariables false
set_option linter.unusedSimpArgs false

/-- One And is worked out. -/
def runS (k : Nat) (A : List Pr) (t : List Bool) (n : Int) : List Bool := t.set n.toNat (edgeV t (A.getD (n.toNat - k) dPr).1 && edgeV t (A.getD (n.toNat - k) dPr).2)
def runOn (k : Nat) (A : List Pr) (t : List Bool) (l : List Int) : List Bool := l.foldl (runS k A) t
theorem runS_len (k : Nat) (A : List Pr) (t : List Bool) (n : Int) : (runS k A t n).length = t.length := by unfold runS; rw [List.length_set]
theorem runOn_len (k : Nat) (A : List Pr) : ∀ (l : List Int) (t : List Bool), (runOn k A t l).length = t.length := by
  intro l
  induction l with
  | nil => exact fun t => rfl
  | cons x r ih => intro t; show (runOn k A (runS k A t x) r).length = _; rw [ih, runS_len]
theorem runOn_snoc (k : Nat) (A : List Pr) (t : List Bool) (l : List Int) (n : Int) : runOn k A t (l ++ [n]) = runS k A (runOn k A t l) n := by unfold runOn; rw [List.foldl_append]; rfl
/-- One input is set. -/
def inS (I : List Int) (t : List Bool) (x : Int) : List Bool := if 0 < placeA I x then t.set (placeA I x).toNat true else t
def inOn (I : List Int) (n : Nat) (a : List Int) : List Bool := a.foldl (inS I) (List.replicate n false)
theorem inS_len (I : List Int) (t : List Bool) (x : Int) : (inS I t x).length = t.length := by unfold inS; split <;> simp
theorem inOn_snoc (I : List Int) (n : Nat) (a : List Int) (x : Int) : inOn I n (a ++ [x]) = inS I (inOn I n a) x := by unfold inOn; rw [List.foldl_append]; rfl
theorem foldS_len (I : List Int) : ∀ (a : List Int) (t : List Bool), (a.foldl (inS I) t).length = t.length := by
  intro a
  induction a with
  | nil => exact fun t => rfl
  | cons x r ih => intro t; rw [List.foldl_cons, ih, inS_len]
theorem inOn_len (I : List Int) (n : Nat) (a : List Int) : (inOn I n a).length = n := by unfold inOn; rw [foldS_len, List.length_replicate]
theorem placeA_mem {I : List Int} (hs : I.Pairwise (· < ·)) {x : Int} {j : Nat} (hj : j < I.length) : placeA I x = ((1 + j : Nat) : Int) ↔ x = I.getD j 0 := by
  constructor
  · intro h
    by_cases hx : x ∈ I
    · obtain ⟨i, hi, rfl⟩ := List.getElem_of_mem hx
      have h2 := placeA_at hs hi
      rw [show I.getD i 0 = I[i] by simp [List.getD, hi]] at h2
      rw [h2] at h
      have : i = j := by omega
      subst this
      simp [List.getD, hi]
    · have : placeA I x = 0 := by unfold placeA; rw [if_neg hx]
      omega
  · rintro rfl
    rw [placeA_at hs hj]; omega
theorem inS_at {I : List Int} (hs : I.Pairwise (· < ·)) {t : List Bool} (hn : 1 + I.length ≤ t.length) (x : Int) (i : Nat) : (inS I t x).getD i false = (t.getD i false || (decide (1 ≤ i ∧ i < 1 + I.length) && decide (I.getD (i - 1) 0 = x))) := by
  by_cases hp : 0 < placeA I x
  · have hb := placeA_bd I x
    obtain ⟨j, hj⟩ : ∃ j : Nat, placeA I x = ((1 + j : Nat) : Int) := ⟨(placeA I x).toNat - 1, by omega⟩
    have hji : j < I.length := by omega
    have hx := (placeA_mem hs hji).1 hj
    have hs1 : inS I t x = t.set (1 + j) true := by unfold inS; rw [if_pos hp, hj]; rfl
    rw [hs1]
    by_cases he : i = 1 + j
    · subst he
      have h1 : (t.set (1 + j) true).getD (1 + j) false = true := by simp only [List.getD]; rw [List.getElem?_set_self (by omega)]; rfl
      rw [h1, hx, show 1 + j - 1 = j by omega, decide_eq_true (⟨by omega, by omega⟩ : 1 ≤ 1 + j ∧ 1 + j < 1 + I.length)]
      simp
    · have h1 : (t.set (1 + j) true).getD i false = t.getD i false := by simp only [List.getD]; rw [List.getElem?_set_ne (by omega)]
      rw [h1]
      by_cases hi : 1 ≤ i ∧ i < 1 + I.length
      · have hne : I.getD (i - 1) 0 ≠ x := fun e => by
          have h5 := placeA_at hs (show i - 1 < I.length by omega)
          rw [e, hj] at h5
          omega
        rw [decide_eq_false hne]; simp
      · rw [decide_eq_false hi]; simp
  · have hs1 : inS I t x = t := by unfold inS; rw [if_neg hp]
    rw [hs1]
    by_cases hi : 1 ≤ i ∧ i < 1 + I.length
    · have hne : I.getD (i - 1) 0 ≠ x := fun e => by
        have h5 := placeA_at hs (show i - 1 < I.length by omega)
        rw [e] at h5
        omega
      rw [decide_eq_false hne]; simp
    · rw [decide_eq_false hi]; simp
theorem foldS_at {I : List Int} (hs : I.Pairwise (· < ·)) (i : Nat) : ∀ (a : List Int) (t : List Bool), 1 + I.length ≤ t.length → (a.foldl (inS I) t).getD i false = (t.getD i false || (decide (1 ≤ i ∧ i < 1 + I.length) && decide (I.getD (i - 1) 0 ∈ a)))
  | [], t, _ => by simp
  | x :: r, t, hn => by
    rw [List.foldl_cons, foldS_at hs i r (inS I t x) (by rw [inS_len]; exact hn), inS_at hs hn]
    have e : decide (I.getD (i - 1) 0 ∈ x :: r) = (decide (I.getD (i - 1) 0 = x) || decide (I.getD (i - 1) 0 ∈ r)) := by
      rw [Bool.eq_iff_iff]; simp
    rw [e]
    cases t.getD i false <;> cases decide (1 ≤ i ∧ i < 1 + I.length) <;> cases decide (I.getD (i - 1) 0 = x) <;> cases decide (I.getD (i - 1) 0 ∈ r) <;> rfl
/-- After the inputs: true exactly for the variables that the list has. -/
theorem inOn_at {I : List Int} (hs : I.Pairwise (· < ·)) {n : Nat} (hn : 1 + I.length ≤ n) (a : List Int) (i : Nat) : (inOn I n a).getD i false = (decide (1 ≤ i ∧ i < 1 + I.length) && decide (I.getD (i - 1) 0 ∈ a)) := by
  unfold inOn
  rw [foldS_at hs i a _ (by rw [List.length_replicate]; exact hn)]
  have e : (List.replicate n false).getD i false = false := by
    simp only [List.getD, List.getElem?_replicate]
    split <;> rfl
  rw [e, Bool.false_or]
/-- The value of an edge of a graph, where a list says which inputs are true. -/
def evalA (I : List Int) (A : List Pr) (e : Int) (a : List Int) : Bool := edgeV (runN (baseV I (fun v => decide (v ∈ a))) A) e
theorem edgeV_eq {t s : List Bool} {e : Int} (h : t.getD (e / 2).toNat false = s.getD (e / 2).toNat false) : edgeV t e = edgeV s e := by unfold edgeV; rw [h]
theorem run_low {b : List Bool} {A : List Pr} {i : Nat} (h : i < b.length) : (runN b A).getD i false = b.getD i false := by
  obtain ⟨c, hc⟩ := runN_grow A b
  rw [hc]; simp only [List.getD]; rw [List.getElem?_append_left h]
theorem runOn_val {I : List Int} {A : List Pr} {e : Int} {a : List Int} (hs : I.Pairwise (· < ·)) (hA : okUpto (1 + I.length) A A.length = true) (he : edgesB [e] (1 + I.length + A.length) = true) :
    edgeV (runOn (1 + I.length) A (inOn I (1 + I.length + A.length) a) (onN (reachA (1 + I.length) A [e]) (1 + I.length) A.length)) e = evalA I A e a := by
  have key : ∀ m, m ≤ A.length → ∀ n, RchN (1 + I.length) A [e] n → n < 1 + I.length + m → (runOn (1 + I.length) A (inOn I (1 + I.length + A.length) a) (onN (reachA (1 + I.length) A [e]) (1 + I.length) m)).getD n false = (runN (baseV I (fun v => decide (v ∈ a))) A).getD n false := by
    intro m
    induction m with
    | zero =>
      intro _ n hr hn
      rw [onN_zero]
      show (inOn _ _ _).getD n false = _
      rw [run_low (by rw [baseV_len]; omega), inOn_at hs (by omega)]
      cases n with
      | zero => rw [baseV_zero]; simp
      | succ j =>
        have hj : j < I.length := by omega
        rw [show j + 1 = 1 + j by omega, baseV_at hj, decide_eq_true (⟨by omega, by omega⟩ : 1 ≤ 1 + j ∧ 1 + j < 1 + I.length), Bool.true_and, show 1 + j - 1 = j by omega]
    | succ m ih =>
      intro hm n hr hn
      have ih := ih (by omega)
      rw [onN_succ]
      by_cases hmk : (reachA (1 + I.length) A [e]).getD (1 + I.length + m) false = true
      · rw [if_pos hmk, runOn_snoc]
        have hrm := (reach_iff hA he).1 hmk
        unfold runS
        have hln : (runOn (1 + I.length) A (inOn I (1 + I.length + A.length) a) (onN (reachA (1 + I.length) A [e]) (1 + I.length) m)).length = 1 + I.length + A.length := by rw [runOn_len, inOn_len]
        rw [show ((1 + I.length + m : Nat) : Int).toNat = 1 + I.length + m by omega, show 1 + I.length + m - (1 + I.length) = m by omega]
        by_cases hnm : n = 1 + I.length + m
        · subst hnm
          have hp := okPair_bd hA (show m < A.length by omega)
          have hv := runN_at (b := baseV I (fun v => decide (v ∈ a))) (A := A) (i := m) (by rw [baseV_len]; exact hA) (by omega)
          rw [baseV_len] at hv
          have e1 := edgeV_eq (ih _ (RchN.fst (by omega) hrm) (by omega))
          have e2 := edgeV_eq (ih _ (RchN.snd (by omega) hrm) (by omega))
          rw [hv, ← e1, ← e2]
          simp only [List.getD]
          rw [List.getElem?_set_self (by rw [hln]; omega)]
          rfl
        · have h1 := ih n hr (by omega)
          rw [← h1]
          simp only [List.getD]
          rw [List.getElem?_set_ne (by omega)]
      · rw [if_neg hmk, List.append_nil]
        refine ih n hr ?_
        have : n ≠ 1 + I.length + m := fun h => hmk (by rw [← h]; exact (reach_iff hA he).2 hr)
        omega
  have hr : RchN (1 + I.length) A [e] (e / 2).toNat := RchN.edge (by simp)
  exact edgeV_eq (key A.length (Nat.le_refl _) _ hr (rch_lt hA he hr))
end Go.Proofs.YtppglbffmgnooaaGreat
