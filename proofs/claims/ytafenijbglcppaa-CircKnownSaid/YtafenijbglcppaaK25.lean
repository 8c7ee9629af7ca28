/- Joined texts: CxOver. -/
import Derived.Test.YtafenijbglcppaaK19
import Derived.Test.YtafenijbglcppaaK16
import Derived.Test.YtafenijbglcppaaK02
/- The law's over and within. -/
namespace Go.Proofs.Ytafenijbglcppaa
open Go.RowKit Go.Maps Go.Shelf
set_option linter.unusedVariables false
set_option linter.unusedSimpArgs false

theorem insO_at : ∀ (l : List Int) (x : Int) (k : Nat), k ≤ l.length → (∀ j, j < k → varC (l.getD j 0) < varC x) → (k < l.length → ¬ varC (l.getD k 0) < varC x) →
    insO l x = if k < l.length ∧ varC (l.getD k 0) = varC x then l else l.take k ++ [x] ++ l.drop k
  | [], x, k, hk, _, _ => by
    obtain rfl : k = 0 := by simpa using hk
    simp [insO]
  | y :: r, x, 0, hk, h1, h2 => by
    have h3 : ¬ varC y < varC x := by simpa using h2 (by simp)
    unfold insO
    rw [if_neg h3]
    by_cases he : varC y = varC x
    · rw [if_pos he, if_pos ⟨by simp, by simpa using he⟩]
    · rw [if_neg he, if_neg (fun h => he (by simpa using h.2))]
      simp
  | y :: r, x, k + 1, hk, h1, h2 => by
    have h3 : varC y < varC x := by simpa using h1 0 (by omega)
    have ih := insO_at r x k (by simpa using hk) (fun j hj => by simpa using h1 (j + 1) (by omega)) (fun hkl => by simpa using h2 (by simpa using hkl))
    unfold insO
    rw [if_pos h3, ih]
    by_cases hc : k < r.length ∧ varC (r.getD k 0) = varC x
    · rw [if_pos hc, if_pos ⟨by simpa using hc.1, by simpa using hc.2⟩]
    · rw [if_neg hc, if_neg (fun h => hc ⟨by simpa using h.1, by simpa using h.2⟩)]
      simp
theorem insO_len (l : List Int) (x : Int) : (insO l x).length ≤ l.length + 1 := by
  induction l with
  | nil => simp [insO]
  | cons y r ih =>
    unfold insO
    split
    · simp; omega
    · split <;> simp
theorem foldO_len : ∀ (m l : List Int), (m.foldl insO l).length ≤ l.length + m.length
  | [], l => by simp
  | x :: r, l => by
    have h1 := foldO_len r (insO l x)
    have h2 := insO_len l x
    simp only [List.foldl_cons, List.length_cons]
    omega
theorem overL_len (a b : List Int) : (overL a b).length ≤ b.length + a.length := by have := foldO_len (b ++ a) []; simpa [overL] using this
theorem own_hit {w : World} {B : Nat} {v : Value} {xs : List Int} (h : Own w B v xs) {k : Nat} (hk : k < xs.length) : ∃ g c, v = .slice (some ⟨g, 0, none⟩) xs.length c ∧ w.cell? ⟨g, k, none⟩ = some (.int .i64 (xs.getD k 0)) := by
  have h0 : w.ownsRow B 3 1 v xs.length (xs.map (Value.int .i64)) := h
  rcases h.2 with ⟨rfl, h2⟩ | ⟨g, cap, cur, rfl, hB, hg, hnc, hcm, _, _⟩
  · omega
  · refine ⟨g, cap, rfl, ?_⟩
    rw [World.ownsRow.cellAt h0 k (by omega)]
    simp [hk, List.getD]
set_option maxRecDepth 100000 in
/-- 'append(s, x...)' over integers, nil or not, in a region that draws its order. -/
theorem step_appI2 {ops : Array Oper} {o : Oper} {a : Act} {w : World} {K : Act → World → Prop} {Q : Exit → Act → World → Prop} {E : Prop} (d : Option Tmp) (hd : o.dst = d) (hgd : o.guard = none) (s x : Operand)
    (ho : o.op = .call { callee := .builtin .append, args := #[s, x], argTypes := #[28, 28] }) (B : Nat) (v u : Value) (xs ys : List Int)
    (hs : a.eval s = v) (hx : a.eval x = u) (hown : Own w B v xs) (hu : IsInts w u ys) (hlen : xs.length + ys.length ≤ 17592186044416) (hB : B ≤ w.heap.size)
    (h : ∀ v' w', Own w' B v' (xs ++ ys) → w.grownBy w' v.ownBlock → K (a.put d v') w') :
    if Region.wanted o (yielded ops a.tmps) = true then Oper.wp Try.prog o a w K Q else E := by
  subst hd
  have hw : Region.wanted o (yielded ops a.tmps) = true := by simp [Region.wanted, hgd]
  rw [if_pos hw]
  obtain ⟨i0, hi, hz0, hz1, hz2⟩ := info_parts info_int
  obtain ⟨ad, cap, rfl, hcap, _, _, h64, b, off, ha, hc⟩ := hu
  cases ad with
  | none =>
    have hy : ys = [] := by
      by_cases e : ys = []
      · exact e
      · have := (ha e).1; cases this
    subst hy
    have hcap0 := hcap.2 rfl
    subst hcap0
    have hrun := run_append_owned_none (P := Try.prog) (w := w) B 28 o.type 3 i0 1 Try.underlying28 hi v xs.length _ hown
    unfold Oper.wp
    simp [execOp, ho, resolve, invoke, builtin, hs, hx, hrun, Result.andThen]
    exact h v w (by rw [List.append_nil]; exact hown) (World.grownBy.refl _ _)
  | some ad =>
    obtain ⟨v', w', hr, h2, h3, h4, h5⟩ := run_append_own_at (P := Try.prog) w B 28 o.type 3 i0 (.int .i64 0) 1 8 Try.underlying28 hi hz0 hz1 hz2 rfl (by decide) v xs.length _ hown ad ys.length cap (ys.map (Value.int .i64)) (by simp) (fun j u hj => by
      have hlt : j < ys.length := by have := (List.getElem?_eq_some_iff.1 hj).1; simpa using this
      have hne : ys ≠ [] := by intro e; simp [e] at hlt
      have e := Option.some.inj (ha hne).1
      subst e
      rw [Addr.add_lit, hc j hlt, ← hj]
      simp [List.getD, hlt]) (ints_oneCell _ _) (by unfold maxLen; omega) (by omega) hB
    unfold Oper.wp execOp
    simp only [ho, resolve, invoke, builtin, Sem.run_bind, Sem.run_pure, Result.andThen_ok, List.map_toArray, List.map_cons, List.map_nil, hs, hx, hr]
    refine h v' w' ?_ h3
    unfold Own
    rw [List.length_append, List.map_append]
    exact h2
theorem one_ints {X : World} {q : Nat} {x : Int} (h : X.heap[q]? = some (.cells #[.int .i64 x] 3 (0, 0))) (h1 : -9223372036854775808 ≤ x) (h2 : x ≤ 9223372036854775807) : IsInts X (.slice (some ⟨q, 0, none⟩) 1 1) [x] :=
  ints_heap [x] h (by intro y hy; rw [List.mem_singleton] at hy; subst hy; exact ⟨h1, h2⟩) (by simp)
theorem one_kept {X Y : World} {q : Nat} {row : Option Nat} {o : Obj} (h : X.heap[q]? = some o) (hg : X.grownBy Y row) (hne : row ≠ some q) : Y.heap[q]? = some o := (hg.block q (Array.getElem?_eq_some_iff.1 h).1 (fun e => hne e.symm)).trans h
theorem one_alloc {X : World} {q : Nat} {o : Obj} (h : X.heap[q]? = some o) (o' : Obj) : (X.alloc o').heap[q]? = some o := (Below.heap_alloc _ _ _ (Array.getElem?_eq_some_iff.1 h).1).trans h
theorem varC_range {x : Int} (h : 1 ≤ varC x ∧ varC x ≤ 65536) : -9223372036854775808 ≤ x ∧ x ≤ 9223372036854775807 := by
  unfold varC at h
  split at h
  · split at h <;> omega
  · omega
theorem Own.to {w : World} {B : Nat} {v : Value} {xs ys : List Int} (h : Own w B v xs) (e : ys = xs) : Own w B v ys := e ▸ h
def insideL (a V : List Int) : List Int := overL [] (a.filter (fun x => decide (varC x ∈ V)))
theorem within_test {V : List Int} (hV : ∀ y ∈ V, 1 ≤ y ∧ y ≤ 65536) {x : Int} (h1 : -9223372036854775808 ≤ x) (h2 : x ≤ 9223372036854775807) : (memB V x || memB V (wrap64 (-x))) = decide (varC x ∈ V) := by
  unfold memB
  rw [Bool.eq_iff_iff]
  simp only [Bool.or_eq_true, decide_eq_true_eq]
  have hneg : ∀ y : Int, y < 1 → y ∉ V := fun y hy h => by have := hV y h; omega
  unfold varC
  by_cases h0 : x < 0
  · rw [if_pos h0]
    by_cases hm : x = -9223372036854775808
    · rw [if_pos hm]
      have hw : wrap64 (-x) = x := by rw [hm]; unfold wrap64; rfl
      rw [hw]
      constructor
      · rintro (h | h) <;> exact h
      · exact .inl
    · rw [if_neg hm]
      have hw : wrap64 (-x) = -x := by unfold wrap64; omega
      rw [hw]
      constructor
      · rintro (h | h)
        · exact absurd h (hneg _ (by omega))
        · exact h
      · exact .inr
  · rw [if_neg h0]
    have hw : wrap64 (-x) = -x := by unfold wrap64; omega
    rw [hw]
    constructor
    · rintro (h | h)
      · exact h
      · exact absurd h (hneg _ (by omega))
    · exact .inl
theorem within_len (a V : List Int) : (insideL a V).length ≤ a.length := by
  have h1 := overL_len [] (a.filter (fun x => decide (varC x ∈ V)))
  have h2 := List.length_filter_le (fun x => decide (varC x ∈ V)) a
  unfold insideL
  simp at h1
  omega
theorem within_in {a V : List Int} (hV : ∀ y ∈ V, 1 ≤ y ∧ y ≤ 65536) : varIn (a.filter (fun x => decide (varC x ∈ V))) := fun x hx => by
  have := (List.mem_filter.1 hx).2
  exact hV _ (by simpa using this)
end Go.Proofs.Ytafenijbglcppaa
