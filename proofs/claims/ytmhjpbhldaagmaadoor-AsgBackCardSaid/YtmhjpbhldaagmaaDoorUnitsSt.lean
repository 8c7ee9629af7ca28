/- Steps of unit propagation in a row of the call's own. -/
import Derived.Test.YtmhjpbhldaagmaaDoorUnitsSet
namespace Go.Proofs.YtmhjpbhldaagmaaDoor
open Go.RowKit
set_option linter.unusedVariables false

/-- The cells of steps. -/
def stepCells (l : List (Int × Nat)) : List Value := l.flatMap (fun p => [.int .i64 p.1, .int .i64 (p.2 : Int)])
theorem stepCells_len (l : List (Int × Nat)) : (stepCells l).length = l.length * 2 := by
  induction l with
  | nil => rfl
  | cons p r ih => simp only [stepCells, List.flatMap_cons, List.length_append] at ih ⊢; rw [ih]; simp; omega
theorem stepCells_app (l m : List (Int × Nat)) : stepCells (l ++ m) = stepCells l ++ stepCells m := by simp [stepCells]
theorem stepCells_at (l : List (Int × Nat)) (j : Nat) (hj : j < l.length) : (stepCells l)[2 * j]? = some (.int .i64 (l.getD j (0, 0)).1) ∧ (stepCells l)[2 * j + 1]? = some (.int .i64 ((l.getD j (0, 0)).2 : Int)) := by
  induction l generalizing j with
  | nil => simp at hj
  | cons p r ih =>
    have e : stepCells (p :: r) = .int .i64 p.1 :: .int .i64 (p.2 : Int) :: stepCells r := by simp [stepCells]
    rw [e]
    cases j with
    | zero => simp
    | succ j =>
      have := ih j (by simpa using hj)
      rw [show 2 * (j + 1) = 2 * j + 1 + 1 from by omega]
      simpa using this
/-- The slice owns its row, which holds these steps. -/
def OwnS (w : World) (B : Nat) (v : Value) (l : List (Int × Nat)) : Prop := w.ownsRow B 34 2 v l.length (stepCells l)
theorem info_step : (Tryd.prog.info? 34).map (fun i => (i.zero, i.size, i.bytes)) = some (some (.agg #[.int .i64 0, .int .i64 0]), 2, 16) := by kernel_rfl
theorem OwnS.nil (w : World) (B : Nat) : OwnS w B (.slice none 0 0) [] := World.ownsRow_nil _ _ _ _
theorem OwnS.lt {w : World} {B : Nat} {v : Value} {l : List (Int × Nat)} (h : OwnS w B v l) : ∀ k, v.ownBlock = some k → B ≤ k ∧ k < w.heap.size := World.ownsRow.lt h
theorem OwnS.keptS {S : Nat → Prop} {w w' : World} {B : Nat} {v : Value} {l : List (Int × Nat)} (h : OwnS w B v l) (k : Kept S w w') (hS : ∀ g, v.ownBlock = some g → ¬ S g) : OwnS w' B v l := k.row h hS
theorem OwnS.shape {w : World} {B : Nat} {v : Value} {l : List (Int × Nat)} (h : OwnS w B v l) : ∃ a cap, v = .slice a l.length cap := by
  rcases h.2 with ⟨rfl, h2⟩ | ⟨g, cap, cur, rfl, _⟩
  · exact ⟨none, 0, by rw [h2]⟩
  · exact ⟨_, _, rfl⟩
theorem OwnS.mono {w : World} {B B' : Nat} {v : Value} {xs : List (Int × Nat)} (h : OwnS w B v xs) (hB : B' ≤ B) : OwnS w B' v xs := by
  refine ⟨h.1, ?_⟩
  rcases h.2 with hn | ⟨g, cap, cur, hv, hb, rest⟩
  · exact .inl hn
  · exact .inr ⟨g, cap, cur, hv, Nat.le_trans hB hb, rest⟩
/-- A row of steps is no row of ints. -/
theorem OwnS.ne {w : World} {B B' : Nat} {v u : Value} {l : List (Int × Nat)} {xs : List Int} (h : OwnS w B v l) (k : Own w B' u xs) : ∀ g, v.ownBlock = some g → u.ownBlock ≠ some g := by
  intro g hg hu
  rcases h.2 with ⟨rfl, h2⟩ | ⟨g1, cap, cur, rfl, _, hg1, _⟩
  · cases hg
  · rcases k.2 with ⟨rfl, h2⟩ | ⟨g2, cap2, cur2, rfl, _, hg2, _⟩
    · cases hu
    · simp [Value.ownBlock] at hg hu
      subst hg; subst hu
      rw [hg1] at hg2
      simp only [Option.some.injEq, Obj.cells.injEq] at hg2
      exact absurd hg2.2.1 (by decide)

/-- The value is a slice of these steps. -/
def IsSteps (w : World) (v : Value) (l : List (Int × Nat)) : Prop :=
  ∃ a cap, v = .slice a l.length cap ∧ l.length ≤ cap ∧ cap ≤ 9223372036854775807 ∧ l.length ≤ 1000000 ∧ (∀ p ∈ l, (-65536 ≤ p.1 ∧ p.1 ≤ 65536) ∧ p.2 < 20000) ∧
    ∃ b, (l ≠ [] → a = some ⟨b, 0, none⟩ ∧ b < w.heap.size) ∧ ∀ j, j < l.length → w.cell? ⟨b, 2 * j, none⟩ = some (.int .i64 (l.getD j (0, 0)).1) ∧ w.cell? ⟨b, 2 * j + 1, none⟩ = some (.int .i64 ((l.getD j (0, 0)).2 : Int))
theorem IsSteps.below {w w' : World} {B : Nat} {v : Value} {l : List (Int × Nat)} (h : IsSteps w v l) (hb : Below B w w') (hB : w.heap.size ≤ B) : IsSteps w' v l := by
  obtain ⟨a, cap, h1, h2, h3, h4, h5, b, ha, hc⟩ := h
  refine ⟨a, cap, h1, h2, h3, h4, h5, b, fun hl => ⟨(ha hl).1, Nat.lt_of_lt_of_le (ha hl).2 hb.size⟩, fun j hj => ?_⟩
  have hlt : b < w.heap.size := (ha (by intro h; simp [h] at hj)).2
  rw [hb.cell (p := ⟨b, 2 * j, none⟩) (Nat.lt_of_lt_of_le hlt hB), hb.cell (p := ⟨b, 2 * j + 1, none⟩) (Nat.lt_of_lt_of_le hlt hB)]
  exact hc j hj
theorem OwnS.steps {w : World} {B : Nat} {v : Value} {l : List (Int × Nat)} (h : OwnS w B v l) (hl : l.length ≤ 1000000) (hp : ∀ p ∈ l, (-65536 ≤ p.1 ∧ p.1 ≤ 65536) ∧ p.2 < 20000) : IsSteps w v l := by
  rcases h.2 with ⟨rfl, h2⟩ | ⟨g, cap, cur, rfl, hB, hg, hnc, hcm, hcs, htk⟩
  · have : l = [] := List.eq_nil_of_length_eq_zero h2
    subst this
    exact ⟨none, 0, rfl, Nat.le_refl _, by omega, by simp, by simp, 0, fun h => absurd rfl h, fun j hj => absurd hj (Nat.not_lt_zero _)⟩
  · have hlt : g < w.heap.size := (Array.getElem?_eq_some_iff.1 hg).1
    unfold maxLen at hcm
    refine ⟨_, cap, rfl, hnc, hcm, hl, hp, g, fun _ => ⟨rfl, hlt⟩, fun j hj => ?_⟩
    have at' : ∀ i, i < l.length * 2 → w.cell? ⟨g, i, none⟩ = (stepCells l)[i]? := fun i hi => by
      simp only [World.cell?, hg]
      rw [← htk, List.getElem?_take, if_pos hi]
      simp
    obtain ⟨e1, e2⟩ := stepCells_at l j hj
    rw [at' _ (by omega), at' _ (by omega)]
    exact ⟨e1, e2⟩

/-- 'append(l, Step{..})': the step lies in a new block. -/
theorem wpList_appS {w : World} {ops : Array Oper} {rest : List Oper} {o : Oper} {a : Act} {Q : Exit → Act → World → Prop} (hgd : o.guard = none) (s x : Operand)
    (ho : o.op = .call { callee := .builtin .append, args := #[s, x], argTypes := #[26, 26] }) (B : Nat) (v : Value) (l : List (Int × Nat)) (y : Int) (i : Nat) (g : Nat)
    (hs : a.eval s = v) (hx : a.eval x = .slice (some ⟨g, 0, none⟩) 1 1) (hown : OwnS w B v l) (hy : w.cell? ⟨g, 0, none⟩ = some (.int .i64 y)) (hi' : w.cell? ⟨g, 1, none⟩ = some (.int .i64 (i : Int))) (hlen : l.length < 1000000) (hB : B ≤ w.heap.size)
    (h : ∀ v' w', OwnS w' B v' (l ++ [(y, i)]) → w.grownBy w' v.ownBlock → wpList Tryd.prog ops Q rest (a.put o.dst v') w') : wpList Tryd.prog ops Q (o :: rest) a w := by
  obtain ⟨i0, hi, hz0, hz1, hz2⟩ := info_parts info_step
  refine wpList_append_own _ hgd s x 26 ho B 34 i0 (.agg #[.int .i64 0, .int .i64 0]) 2 16 Tryd.underlying26 hi hz0 hz1 hz2 rfl (by decide) v l.length _ hs hown ⟨g, 0, none⟩ 1 1 [.int .i64 y, .int .i64 (i : Int)] hx (by simp) ?_ (by simp [Value.oneCell']) (by unfold maxLen; omega) (by omega) hB ?_
  · intro j u hj
    match j, hj with
    | 0, hj => simp at hj; subst hj; simpa [Addr.add] using hy
    | 1, hj => simp at hj; subst hj; simpa [Addr.add] using hi'
  · intro v' w' h1 h2 _
    refine h v' w' ?_ h2
    unfold OwnS
    rw [List.length_append, stepCells_app]
    exact h1

theorem OwnS.keepT {w w' : World} {B : Nat} {v : Value} {l : List (Int × Nat)} (h : OwnS w B v l) (k : KeepT w w') : OwnS w' B v l := by
  refine ⟨h.1, ?_⟩
  rcases h.2 with hn | ⟨g, cap, cur, hv, hB, hg, rest⟩
  · exact .inl hn
  · exact .inr ⟨g, cap, cur, hv, hB, k g cur (0, 0) hg, rest⟩
/-- The block of steps, as it lies. -/
theorem OwnS.obj {w : World} {B : Nat} {v : Value} {l : List (Int × Nat)} (h : OwnS w B v l) : ∀ g, v.ownBlock = some g → ∃ cur, w.heap[g]? = some (.cells cur 34 (0, 0)) := by
  intro g hg
  rcases h.2 with ⟨rfl, h2⟩ | ⟨g1, cap, cur, rfl, _, hg1, _⟩
  · cases hg
  · have : g1 = g := by simpa [Value.ownBlock] using hg
    subst this
    exact ⟨cur, hg1⟩
/-- While a block of steps turns. -/
theorem PS.keptT {S : Nat → Prop} {n : Nat} {w w' : World} {vf vw : Value} {nh ng : Nat} {Hf : Int → Bool} {G : Int → List Nat} {left wait : List Int} (s : PS n w vf vw nh ng Hf G left wait) (k : Kept S w w')
    (hS : ∀ g, g < w.heap.size → S g → ∃ cur, w.heap[g]? = some (.cells cur 34 (0, 0))) : PS n w' vf vw nh ng Hf G left wait := by
  have hsz := s.size
  have no : ∀ g, w.heap[g]? ≠ none → (∀ cur fz, w.heap[g]? ≠ some (.cells cur 34 fz)) → ¬ S g := fun g h1 h2 h3 => by
    have hlt : g < w.heap.size := by
      rcases Nat.lt_or_ge g w.heap.size with h | h
      · exact h
      · exact absurd (Array.getElem?_eq_none h) h1
    obtain ⟨cur, e⟩ := hS g hlt h3
    exact h2 cur _ e
  have hn3 : ¬ S (n + 3) := no _ (by rw [s.obj]; simp) s.fld.noT
  have hn : ¬ S n := no _ (by obtain ⟨D, ⟨es, clock, hb, _⟩, _⟩ := s.hm; rw [hb]; simp) s.hm.noT
  have hr : ∀ {B : Nat} {v : Value} {xs : List Int}, Own w B v xs → ∀ g, v.ownBlock = some g → ¬ S g := fun h g hg => no g (by
    have := (h.lt g hg).2
    rw [Array.getElem?_eq_getElem this]; simp) (h.noT g hg)
  refine ⟨(k.block _ (by omega) hn3).trans s.obj, s.hm.kept k hn, ?_, k.row s.lr (hr s.lr), k.row s.wr (hr s.wr), s.hh⟩
  obtain ⟨D, h1, h2, h3, h4⟩ := s.gm
  have hb1 : ¬ S (n + 1) := by
    obtain ⟨es, clock, hb, _⟩ := h1
    exact no _ (by rw [hb]; simp) (fun cur fz e => by rw [hb] at e; cases e)
  refine ⟨D, ownsGroups_kept h1 k hb1 (fun es clock hb x hx g hg => ?_), h2, h3, fun es clock hb x hx g hg => ?_⟩
  · obtain ⟨es', clock', hb', F, _⟩ := h1
    obtain ⟨rfl, rfl⟩ : es' = es ∧ clock' = clock := by rw [hb'] at hb; simpa using hb
    obtain ⟨y, hy⟩ := F.reads x hx
    obtain ⟨z, hz, _⟩ := Go.WideElems.rd_val hy
    obtain ⟨zs, hoi, _⟩ := rowElem_inv hz
    exact hr (own_of hoi) g hg
  · obtain ⟨es', clock', hb', F, _⟩ := h1
    rw [k.block _ (by omega) hb1] at hb
    exact h4 es clock hb x hx g hg

end Go.Proofs.YtmhjpbhldaagmaaDoor
