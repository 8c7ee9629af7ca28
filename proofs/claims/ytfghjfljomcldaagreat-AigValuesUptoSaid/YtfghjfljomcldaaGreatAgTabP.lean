/- Pure: the table of an edge. -/
import Derived.Test.YtfghjfljomcldaaGreatA18
import Derived.Test.YtfghjfljomcldaaGreatAgEvalP
namespace Go.Proofs.YtfghjfljomcldaaGreat
set_option linter.unusedVariables false
set_option linter.unusedSimpArgs false

def onT (vars : List Int) (i : Nat) (v : Int) : Bool := decide (v ∈ vars) && (i / 2 ^ (vars.idxOf v) % 2 == 1)
def tabV (I : List Int) (A : List Pr) (e : Int) (vars : List Int) (i : Nat) : Bool := edgeV (runN (baseV I (onT vars i)) A) e
def tabR (I : List Int) (A : List Pr) (e : Int) (vars : List Int) : List Bool × Int :=
  if hasA I A [e] = true ∧ diffB vars = true then (if 16 < vars.length then ([], 3) else ((List.range (2 ^ vars.length)).map (tabV I A e vars), 0)) else ([], 2)
theorem diffB_parts {l : List Int} (h : diffB l = true) : l.Nodup ∧ ∀ v ∈ l, 1 ≤ v ∧ v ≤ 65536 := of_decide_eq_true h
theorem nd_inj {l : List Int} (h : l.Nodup) {i j : Nat} (hi : i < l.length) (hj : j < l.length) (e : l[i] = l[j]) : i = j := by
  have hp := List.pairwise_iff_getElem.1 (List.nodup_iff_pairwise_ne.1 h)
  rcases Nat.lt_trichotomy i j with q | q | q
  · exact absurd e (hp i j hi hj q)
  · exact q
  · exact absurd e.symm (hp j i hj hi q)
theorem idx_at {l : List Int} (h : l.Nodup) {k : Nat} (hk : k < l.length) : l.idxOf (l.getD k 0) = k := by
  have e : l.getD k 0 = l[k] := by simp [List.getD, hk]
  rw [e]
  have hm : l[k] ∈ l := List.getElem_mem hk
  have hlt := List.idxOf_lt_length_of_mem hm
  have hg : l[l.idxOf l[k]] = l[k] := List.getElem_idxOf hlt
  exact nd_inj h hlt hk hg
theorem not_take {l : List Int} (h : l.Nodup) {k : Nat} (hk : k < l.length) : l.getD k 0 ∉ l.take k := fun hm => by
  have := difK_dup hk hm
  obtain ⟨j, hj, e⟩ := List.getElem_of_mem hm
  rw [List.length_take] at hj
  have hj2 : j < l.length := by omega
  rw [List.getElem_take] at e
  have e2 : l.getD k 0 = l[k] := by simp [List.getD, hk]
  rw [e2] at e
  have := nd_inj h hj2 hk e
  omega
/-- The marks after some variables are set for the row i, h before. -/
def setT (vars : List Int) (i : Nat) (h : Int → Bool) (k : Nat) (v : Int) : Bool := if v ∈ vars.take k then (i / 2 ^ (vars.idxOf v) % 2 == 1) else h v
theorem setT_zero (vars : List Int) (i : Nat) (h : Int → Bool) (v : Int) : setT vars i h 0 v = h v := by unfold setT; simp
theorem setT_succ {vars : List Int} (hn : vars.Nodup) {i k : Nat} {h : Int → Bool} (hk : k < vars.length) (v : Int) : setT vars i h (k + 1) v = updB (setT vars i h k) (vars.getD k 0) (i / 2 ^ k % 2 == 1) v := by
  unfold updB
  by_cases e : v = vars.getD k 0
  · rw [if_pos e]
    unfold setT
    rw [ints_take_succ hk, e, if_pos (by simp), idx_at hn hk]
  · rw [if_neg e]
    unfold setT
    rw [ints_take_succ hk]
    by_cases hm : v ∈ vars.take k
    · rw [if_pos (List.mem_append_left _ hm), if_pos hm]
    · rw [if_neg (by rw [List.mem_append, List.mem_singleton]; rintro (q | q); exact hm q; exact e q), if_neg hm]
theorem setT_all {vars : List Int} {i : Nat} {h : Int → Bool} (hh : ∀ v, v ∉ vars → h v = false) (v : Int) : setT vars i h vars.length v = onT vars i v := by
  unfold setT onT
  rw [List.take_length]
  by_cases hm : v ∈ vars
  · rw [if_pos hm, decide_eq_true hm, Bool.true_and]
  · rw [if_neg hm, decide_eq_false hm, Bool.false_and, hh v hm]
theorem onT_out {vars : List Int} {i : Nat} {v : Int} (h : v ∉ vars) : onT vars i v = false := by unfold onT; rw [decide_eq_false h]; rfl
theorem baseV_congr {I : List Int} {f g : Int → Bool} (h : ∀ v ∈ I, f v = g v) : baseV I f = baseV I g := by
  unfold baseV
  congr 1
  exact List.map_congr_left h
/-- Ands that are worked out leave the constant and the inputs. -/
theorem runOn_low (k : Nat) (A : List Pr) : ∀ (l : List Int) (t : List Bool), (∀ y ∈ l, (k : Int) ≤ y) → ∀ p, p < k → (runOn k A t l).getD p false = t.getD p false
  | [], t, _, p, hp => rfl
  | x :: r, t, hl, p, hp => by
    have h := runOn_low k A r (runS k A t x) (fun y hy => hl y (List.mem_cons_of_mem _ hy)) p hp
    show (runOn k A (runS k A t x) r).getD p false = _
    rw [h]
    unfold runS
    have hx := hl x List.mem_cons_self
    simp only [List.getD]
    rw [List.getElem?_set_ne (by omega)]
theorem runOn_of {I : List Int} {A : List Pr} {e : Int} {f : Int → Bool} {t : List Bool} (hA : okUpto (1 + I.length) A A.length = true) (he : edgesB [e] (1 + I.length + A.length) = true) (hl : t.length = 1 + I.length + A.length) (ht : ∀ p, p < 1 + I.length → t.getD p false = (baseV I f).getD p false) :
    edgeV (runOn (1 + I.length) A t (onN (reachA (1 + I.length) A [e]) (1 + I.length) A.length)) e = edgeV (runN (baseV I f) A) e := by
  have key : ∀ m, m ≤ A.length → ∀ n, RchN (1 + I.length) A [e] n → n < 1 + I.length + m → (runOn (1 + I.length) A t (onN (reachA (1 + I.length) A [e]) (1 + I.length) m)).getD n false = (runN (baseV I f) A).getD n false := by
    intro m
    induction m with
    | zero =>
      intro _ n hr hn
      rw [onN_zero]
      show t.getD n false = _
      rw [run_low (by rw [baseV_len]; omega), ht n (by omega)]
    | succ m ih =>
      intro hm n hr hn
      have ih := ih (by omega)
      rw [onN_succ]
      by_cases hmk : (reachA (1 + I.length) A [e]).getD (1 + I.length + m) false = true
      · rw [if_pos hmk, runOn_snoc]
        have hrm := (reach_iff hA he).1 hmk
        unfold runS
        have hln : (runOn (1 + I.length) A t (onN (reachA (1 + I.length) A [e]) (1 + I.length) m)).length = 1 + I.length + A.length := by rw [runOn_len, hl]
        rw [show ((1 + I.length + m : Nat) : Int).toNat = 1 + I.length + m by omega, show 1 + I.length + m - (1 + I.length) = m by omega]
        by_cases hnm : n = 1 + I.length + m
        · subst hnm
          have hp := okPair_bd hA (show m < A.length by omega)
          have hv := runN_at (b := baseV I f) (A := A) (i := m) (by rw [baseV_len]; exact hA) (by omega)
          rw [baseV_len] at hv
          have e1 := edgeV_eq (ih _ (RchN.fst (by omega) hrm) (by omega))
          have e2 := edgeV_eq (ih _ (RchN.snd (by omega) hrm) (by omega))
          rw [hv, ← e1, ← e2]
          simp only [List.getD]
          rw [List.getElem?_set_self (by rw [hln]; omega)]
          rfl
        · have h1 := ih n hr (by omega)
          rw [← h1]
          simp only [List.getD]
          rw [List.getElem?_set_ne (by omega)]
      · rw [if_neg hmk, List.append_nil]
        refine ih n hr ?_
        have : n ≠ 1 + I.length + m := fun h => hmk (by rw [← h]; exact (reach_iff hA he).2 hr)
        omega
  have hr : RchN (1 + I.length) A [e] (e / 2).toNat := RchN.edge (by simp)
  exact edgeV_eq (key A.length (Nat.le_refl _) _ hr (rch_lt hA he hr))
/-- Columns that are those of assignments in the constant and the inputs. -/
def LowT (I vars : List Int) (T : Nat → List Bool) : Prop := ∃ h : Nat → Int → Bool, (∀ c v, v ∉ vars → h c v = false) ∧ ∀ c, c < 64 → ∀ p, p < 1 + I.length → (T c).getD p false = (baseV I (h c)).getD p false
def InT (I vars : List Int) (k : Nat) (h : Nat → Int → Bool) (j : Nat) (T : Nat → List Bool) : Prop := ∀ c, c < 64 → ∀ p, p < 1 + I.length → (T c).getD p false = (baseV I (setT vars (k + c) (h c) j)).getD p false
def BatT (I : List Int) (A : List Pr) (x : Int) (vars : List Int) (k : Nat) (T : Nat → List Bool) : Prop := k % 64 ≠ 0 → ∀ c, c < 64 → edgeV (T c) x = tabV I A x vars (64 * (k / 64) + c)
theorem baseV_ext {I : List Int} {f g : Int → Bool} (h : ∀ v, f v = g v) : baseV I f = baseV I g := baseV_congr fun v _ => h v
theorem lowT_zero (I vars : List Int) (n : Nat) : LowT I vars (fun _ => List.replicate n false) := by
  refine ⟨fun _ _ => false, fun _ _ _ => rfl, fun c _ p hp => ?_⟩
  have e : (List.replicate n false).getD p false = false := by
    simp only [List.getD, List.getElem?_replicate]
    split <;> rfl
  rw [e]
  cases p with
  | zero => rfl
  | succ p => rw [show p + 1 = 1 + p by omega, baseV_at (by omega)]
theorem inT_zero {I vars : List Int} {k : Nat} {h : Nat → Int → Bool} {T : Nat → List Bool} (H : ∀ c, c < 64 → ∀ p, p < 1 + I.length → (T c).getD p false = (baseV I (h c)).getD p false) : InT I vars k h 0 T := fun c hc p hp => by
  rw [H c hc p hp, baseV_ext (fun v => setT_zero vars (k + c) (h c) v)]
theorem inT_set {I vars : List Int} (hs : I.Pairwise (· < ·)) (hn : vars.Nodup) {k j m n : Nat} {h : Nat → Int → Bool} {T : Nat → List Bool} (hj : j < vars.length) (H : InT I vars k h j T) (hm : placeA I (vars.getD j 0) = (m : Int)) (h0 : 0 < m) (hT : ∀ c, c < 64 → (T c).length = n) (hnI : 1 + I.length ≤ n) : InT I vars k h (j + 1) (fun c => (T c).set m ((k + c) / 2 ^ j % 2 == 1)) := fun c hc p hp => by
  have hb := placeA_bd I (vars.getD j 0)
  obtain ⟨q, rfl⟩ : ∃ q, m = 1 + q := ⟨m - 1, by omega⟩
  have hq : q < I.length := by omega
  have hv := (placeA_mem hs hq).1 hm
  rw [baseV_ext (fun v => setT_succ hn (i := k + c) (h := h c) hj v)]
  by_cases e : p = 1 + q
  · subst e
    rw [baseV_at hq, ← hv]
    simp only [List.getD]
    rw [List.getElem?_set_self (by rw [hT c hc]; omega)]
    unfold updB
    simp
  · have h1 : ((T c).set (1 + q) ((k + c) / 2 ^ j % 2 == 1)).getD p false = (T c).getD p false := by
      simp only [List.getD]
      rw [List.getElem?_set_ne (fun q2 => e q2.symm)]
    rw [h1, H c hc p hp]
    cases p with
    | zero => rfl
    | succ p =>
      have hp2 : p < I.length := by omega
      rw [show p + 1 = 1 + p by omega, baseV_at hp2, baseV_at hp2]
      unfold updB
      rw [if_neg]
      intro e2
      rw [hv] at e2
      have hnd : I.Nodup := by rw [List.nodup_iff_pairwise_ne]; exact hs.imp fun h => by omega
      have := nd_inj hnd hp2 hq (by simpa [List.getD, hp2, hq] using e2)
      omega
theorem inT_out {I vars : List Int} (hs : I.Pairwise (· < ·)) (hn : vars.Nodup) {k j : Nat} {h : Nat → Int → Bool} {T : Nat → List Bool} (hj : j < vars.length) (H : InT I vars k h j T) (hm : ¬ 0 < placeA I (vars.getD j 0)) : InT I vars k h (j + 1) T := fun c hc p hp => by
  rw [baseV_ext (fun v => setT_succ hn (i := k + c) (h := h c) hj v), H c hc p hp]
  cases p with
  | zero => rfl
  | succ p =>
    have hp2 : p < I.length := by omega
    rw [show p + 1 = 1 + p by omega, baseV_at hp2, baseV_at hp2]
    unfold updB
    rw [if_neg]
    intro e2
    have := (placeA_mem hs hp2).2 e2.symm
    omega
theorem inT_all {I vars : List Int} {k : Nat} {h : Nat → Int → Bool} (hh : ∀ c v, v ∉ vars → h c v = false) {T : Nat → List Bool} (H : InT I vars k h vars.length T) : ∀ c, c < 64 → ∀ p, p < 1 + I.length → (T c).getD p false = (baseV I (onT vars (k + c))).getD p false := fun c hc p hp => by
  rw [H c hc p hp, baseV_ext (fun v => setT_all (fun v hv => hh c v hv) v)]
theorem lowT_run {I vars : List Int} {k : Nat} {T U : Nat → List Bool} (H : ∀ c, c < 64 → ∀ p, p < 1 + I.length → (T c).getD p false = (baseV I (onT vars (k + c))).getD p false) (hU : ∀ c, c < 64 → ∀ p, p < 1 + I.length → (U c).getD p false = (T c).getD p false) : LowT I vars U :=
  ⟨fun c => onT vars (k + c), fun c v hv => onT_out hv, fun c hc p hp => by rw [hU c hc p hp, H c hc p hp]⟩
theorem tab_next {I : List Int} {A : List Pr} {x : Int} {a : List Int} {k N : Nat} (h : k < N) {b : Bool} (hb : b = tabV I A x a k) : ((List.range k).map (tabV I A x a) ++ List.replicate (N - k) false).set k b = (List.range (k + 1)).map (tabV I A x a) ++ List.replicate (N - (k + 1)) false := by
  obtain ⟨r, hr⟩ : ∃ r, N - k = r + 1 := ⟨N - k - 1, by omega⟩
  rw [hr, show N - (k + 1) = r by omega, List.range_succ, List.map_append, hb]
  have h1 := set_end ((List.range k).map (tabV I A x a)) r (tabV I A x a k)
  rw [List.length_map, List.length_range] at h1
  exact h1
theorem batT_next {I : List Int} {A : List Pr} {x : Int} {a : List Int} {k : Nat} {T : Nat → List Bool} (h : ∀ c, c < 64 → edgeV (T c) x = tabV I A x a (64 * (k / 64) + c)) : BatT I A x a (k + 1) T := fun hk => by
  rw [show (k + 1) / 64 = k / 64 by omega]
  exact h
end Go.Proofs.YtfghjfljomcldaaGreat
