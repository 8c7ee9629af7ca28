/- Rows of blocks that the call makes, whose lists are its own or lay there before. -/
import Derived.Test.YtmiijgjpkkmoaaaGreatPxJoin
namespace Go.Proofs.YtmiijgjpkkmoaaaGreat
open Go.RowKit
set_option linter.unusedVariables false
set_option linter.unusedSimpArgs false

/-- A list of integers: the call's own, or of an elder world. -/
def ElemB (w0 w : World) (B : Nat) (u : Value) (l : List Int) : Prop := Own w B u l ∨ IsInts w0 u l
structure RowB (w0 w : World) (B : Nat) (v : Value) (t : List Trp) : Prop where
  below : Below w0.heap.size w0 w
  base : w0.heap.size ≤ B
  row : w.ownsRow B 53 2 v t.length (cellsT t)
  elems : ∀ x ∈ t, ElemB w0 w B x.2.1 x.2.2
theorem ElemB.below {w0 w w' : World} {B C : Nat} {u : Value} {l : List Int} (h : ElemB w0 w B u l) (hb : Below C w w') (hC : w.heap.size ≤ C) : ElemB w0 w' B u l := h.elim (fun h => .inl (h.below hb hC)) .inr
theorem ElemB.shape {w0 w : World} {B : Nat} {u : Value} {l : List Int} (h : ElemB w0 w B u l) : ∃ a cap, u = .slice a l.length cap := by
  rcases h with h | h
  · rcases h.2 with ⟨rfl, h2⟩ | ⟨g, cap, cur, rfl, _⟩
    · exact ⟨none, 0, by rw [h2]⟩
    · exact ⟨_, _, rfl⟩
  · exact h.shape
theorem RowB.nil {w0 w : World} {B : Nat} (hb : Below w0.heap.size w0 w) (hB : w0.heap.size ≤ B) : RowB w0 w B (.slice none 0 0) [] := ⟨hb, hB, World.ownsRow_nil _ _ _ _, by simp⟩
theorem rowB_lt {w : World} {B n : Nat} {e : TypeId} {v : Value} {xs : List Value} (h : w.ownsRow B e 2 v n xs) : ∀ g, v.ownBlock = some g → B ≤ g ∧ g < w.heap.size := fun g hg => by
  rcases h.2 with ⟨rfl, _⟩ | ⟨g1, cap, cur, rfl, hB, hg1, _⟩
  · cases hg
  · have : g1 = g := by simpa [Value.ownBlock] using hg
    subst this
    exact ⟨hB, (Array.getElem?_eq_some_iff.1 hg1).1⟩
/-- A row of blocks is no row of integers. -/
theorem rowB_ne {w : World} {B B' n : Nat} {v u : Value} {xs : List Value} {l : List Int} (h : w.ownsRow B 53 2 v n xs) (k : Own w B' u l) : ∀ g, u.ownBlock = some g → v.ownBlock ≠ some g := by
  intro g hg hv
  rcases h.2 with ⟨rfl, _⟩ | ⟨g1, cap, cur, rfl, _, hg1, _⟩
  · cases hv
  · rcases k.2 with ⟨rfl, _⟩ | ⟨g2, cap2, cur2, rfl, _, hg2, _⟩
    · cases hg
    · have e1 : g1 = g := by simpa [Value.ownBlock] using hv
      have e2 : g2 = g := by simpa [Value.ownBlock] using hg
      subst e1; subst e2
      rw [hg1] at hg2
      simp only [Option.some.injEq, Obj.cells.injEq] at hg2
      exact absurd hg2.2.1 (by decide)
theorem RowB.below' {w0 w w' : World} {B C : Nat} {v : Value} {t : List Trp} (h : RowB w0 w B v t) (hb : Below C w w') (hC : w.heap.size ≤ C) : RowB w0 w' B v t := by
  refine ⟨h.below.trans (hb.mono (Nat.le_trans h.below.size hC)), h.base, ⟨h.row.1, ?_⟩, fun x hx => (h.elems x hx).below hb hC⟩
  rcases h.row.2 with hn | ⟨g, cap, cur, hv, hB, hg, rest⟩
  · exact .inl hn
  · have hlt : g < w.heap.size := (Array.getElem?_eq_some_iff.1 hg).1
    exact .inr ⟨g, cap, cur, hv, hB, by rw [hb.block g (by omega)]; exact hg, rest⟩
theorem RowB.shape {w0 w : World} {B : Nat} {v : Value} {t : List Trp} (h : RowB w0 w B v t) : ∃ a cap, v = .slice a t.length cap := by
  rcases h.row.2 with ⟨rfl, h2⟩ | ⟨g, cap, cur, rfl, _⟩
  · exact ⟨none, 0, by rw [h2]⟩
  · exact ⟨_, _, rfl⟩
/-- More blocks behind. -/
theorem RowB.more {w0 w w1 w2 : World} {B : Nat} {v v' : Value} {t s : List Trp} (h : RowB w0 w B v t) (hBw : B ≤ w.heap.size) (hb : Below w.heap.size w w1) (hs : ∀ x ∈ s, ElemB w0 w1 B x.2.1 x.2.2)
    (hrow : w2.ownsRow B 53 2 v' (t ++ s).length (cellsT (t ++ s))) (hg : w1.grownBy w2 v.ownBlock) : RowB w0 w2 B v' (t ++ s) := by
  have h1 := h.below' hb (Nat.le_refl _)
  refine ⟨h1.below.grown hg h1.below.size (fun g hg' => Nat.le_trans h.base (rowB_lt h1.row g hg').1), h.base, hrow, fun x hx => ?_⟩
  have key : ElemB w0 w1 B x.2.1 x.2.2 := by
    rcases List.mem_append.1 hx with hx | hx
    · exact h1.elems x hx
    · exact hs x hx
  rcases key with k | k
  · refine .inl (k.kept hg ?_)
    cases hk : x.2.1.ownBlock with
    | none => exact .inl rfl
    | some g => exact .inr (fun e => rowB_ne h1.row k g hk e.symm)
  · exact .inr k
theorem RowB.blocks {w0 w : World} {B : Nat} {v : Value} {t : List Trp} (h : RowB w0 w B v t) (hl : t.length ≤ 17592186044416) (hx : ∀ x ∈ t, x.2.2.length ≤ 17592186044416 ∧ In64 x.2.2) : IsBlocks w v (shapeT t) := by
  have hgd : ∀ j, j < t.length → (shapeT t).getD j dB = ((t.getD j (false, .slice none 0 0, [])).1, (t.getD j (false, .slice none 0 0, [])).2.2) := fun j hj => by
    unfold shapeT
    simp [List.getD, hj]
  have hmem : ∀ j, j < t.length → t.getD j (false, .slice none 0 0, []) ∈ t := fun j hj => by simp [List.getD, hj]
  rcases h.row.2 with ⟨rfl, h2⟩ | ⟨g, cap, cur, rfl, hB, hg, hnc, hcm, hcs, htk⟩
  · have : t = [] := List.eq_nil_of_length_eq_zero h2
    subst this
    exact IsTwo.nil _
  · have hlt : g < w.heap.size := (Array.getElem?_eq_some_iff.1 hg).1
    unfold maxLen at hcm
    refine ⟨_, cap, by rw [shapeT_len], ⟨by rw [shapeT_len]; exact hnc, fun h => by cases h⟩, hcm, by rw [shapeT_len]; exact hl, g, 0, fun _ => ⟨rfl, hlt⟩, fun j hj => ?_⟩
    rw [shapeT_len] at hj
    have at' : ∀ i, i < t.length * 2 → w.cell? ⟨g, i, none⟩ = (cellsT t)[i]? := fun i hi => by
      simp only [World.cell?, hg]
      rw [← htk, List.getElem?_take, if_pos hi]
      simp
    obtain ⟨e1, e2⟩ := cellsT_at t j hj
    have e3 := hgd j hj
    simp only [Nat.zero_add]
    rw [at' _ (by omega), at' _ (by omega)]
    refine ⟨by rw [e1]; exact congrArg some (congrArg Value.bool (congrArg Prod.fst e3).symm), _, e2, ?_⟩
    have e4 : ((shapeT t).getD j (false, [])).2 = (t.getD j (false, .slice none 0 0, [])).2.2 := congrArg Prod.snd e3
    rw [e4]
    rcases h.elems _ (hmem j hj) with k | k
    · exact k.ints (hx _ (hmem j hj)).1 (hx _ (hmem j hj)).2
    · exact k.below h.below (Nat.le_refl _)

/-- 'append(out, Block{..})' in a walk. -/
theorem wpList_appBlk {w : World} {ops : Array Oper} {rest : List Oper} {o : Oper} {a : Act} {Q : Exit → Act → World → Prop} (hgd : o.guard = none) (s x : Operand)
    (ho : o.op = .call { callee := .builtin .append, args := #[s, x], argTypes := #[22, 22] }) (B : Nat) (v u : Value) (t : List Trp) (e : Bool) (l : List Int) (g : Nat)
    (hs : a.eval s = v) (hx : a.eval x = .slice (some ⟨g, 0, none⟩) 1 1) (hrow : w.ownsRow B 53 2 v t.length (cellsT t)) (h0 : w.cell? ⟨g, 0, none⟩ = some (.bool e)) (h1 : w.cell? ⟨g, 1, none⟩ = some u) (hu1 : u.oneCell' = true) (hlen : t.length < 1000000) (hB : B ≤ w.heap.size)
    (h : ∀ v' w', w'.ownsRow B 53 2 v' (t ++ [(e, u, l)]).length (cellsT (t ++ [(e, u, l)])) → w.grownBy w' v.ownBlock → wpList Tryz.prog ops Q rest (a.put o.dst v') w') : wpList Tryz.prog ops Q (o :: rest) a w := by
  obtain ⟨i0, hi, hz0, hz1, hz2⟩ := info_parts info_blk
  refine wpList_append_own _ hgd s x 22 ho B 53 i0 (.agg #[.bool false, .slice none 0 0]) 2 32 Tryz.underlying22 hi hz0 hz1 hz2 rfl (by decide) v t.length _ hs hrow ⟨g, 0, none⟩ 1 1 [.bool e, u] hx (by simp) (fun j y hj => by
    match j, hj with
    | 0, hj => simp at hj; subst hj; simpa [Addr.add] using h0
    | 1, hj => simp at hj; subst hj; simpa [Addr.add] using h1) (fun y hy => by
    rcases List.mem_cons.1 hy with hy | hy
    · rw [hy]; rfl
    · rw [List.mem_singleton] at hy
      rw [hy]; exact hu1) (by unfold maxLen; omega) (by omega) hB fun v' w' h2 h3 _ => h v' w' ?_ h3
  rw [List.length_append, cellsT_app]
  exact h2

end Go.Proofs.YtmiijgjpkkmoaaaGreat
