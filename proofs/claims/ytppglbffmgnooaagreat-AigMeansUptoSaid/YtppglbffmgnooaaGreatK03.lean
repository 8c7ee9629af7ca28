/- Joined texts: PxClone, PxOn, PxJoinS, PxJoinT, PxJoinP, PxJoin, PxRowB, PxLess. -/
import Derived.Test.YtppglbffmgnooaaGreatPxSort
import Derived.Test.YtppglbffmgnooaaGreatK02
import Derived.Deep.RegionLaw
import Derived.Deep.AppendLies
/- slices.Clone of a list of integers (stage 3). -/
namespace Go.Proofs.YtppglbffmgnooaaGreat
open Go.RowKit
set_option linter.unusedVariables false

end Go.Proofs.YtppglbffmgnooaaGreat

/- prefix.On. -/
namespace Go.Proofs.YtppglbffmgnooaaGreat
open Go.RowKit
set_option linter.unusedVariables false
set_option linter.unusedSimpArgs false

end Go.Proofs.YtppglbffmgnooaaGreat

/- Blocks of the call's own: a row of blocks, each with a row of integers of its own. -/
namespace Go.Proofs.YtppglbffmgnooaaGreat
open Go.RowKit
set_option linter.unusedVariables false
set_option linter.unusedSimpArgs false

abbrev Trp := Bool × Value × List Int
def cellsT (t : List Trp) : List Value := t.flatMap (fun x => [.bool x.1, x.2.1])
def shapeT (t : List Trp) : List Blk := t.map (fun x => (x.1, x.2.2))
theorem cellsT_len (t : List Trp) : (cellsT t).length = t.length * 2 := by
  induction t with
  | nil => rfl
  | cons x r ih => simp only [cellsT, List.flatMap_cons, List.length_append] at ih ⊢; rw [ih]; simp; omega
theorem cellsT_app (t s : List Trp) : cellsT (t ++ s) = cellsT t ++ cellsT s := by simp [cellsT]
theorem cellsT_at (t : List Trp) (j : Nat) (hj : j < t.length) : (cellsT t)[j * 2]? = some (.bool (t.getD j (false, .slice none 0 0, [])).1) ∧ (cellsT t)[j * 2 + 1]? = some (t.getD j (false, .slice none 0 0, [])).2.1 := by
  induction t generalizing j with
  | nil => simp at hj
  | cons x r ih =>
    have e : cellsT (x :: r) = .bool x.1 :: x.2.1 :: cellsT r := by simp [cellsT]
    rw [e]
    cases j with
    | zero => simp
    | succ j =>
      have := ih j (by simpa using hj)
      rw [show (j + 1) * 2 = j * 2 + 1 + 1 from by omega]
      simpa using this
theorem shapeT_len (t : List Trp) : (shapeT t).length = t.length := by simp [shapeT]

/-- The slice owns its row of blocks, whose lists are rows of the call's own, each in another block of memory. -/
structure JoinSt (w : World) (B : Nat) (v : Value) (t : List Trp) : Prop where
  row : w.ownsRow B 118 2 v t.length (cellsT t)
  owns : ∀ x ∈ t, Own w B x.2.1 x.2.2
  apart : t.Pairwise (fun x y => ∀ g, x.2.1.ownBlock = some g → y.2.1.ownBlock ≠ some g)
  full : ∀ x ∈ t, x.2.2 ≠ []
theorem info_blk : (Tryz.prog.info? 118).map (fun i => (i.zero, i.size, i.bytes)) = some (some (.agg #[.bool false, .slice none 0 0]), 2, 32) := by kernel_rfl

theorem JoinSt.nil (w : World) (B : Nat) : JoinSt w B (.slice none 0 0) [] := ⟨World.ownsRow_nil _ _ _ _, by simp, List.Pairwise.nil, by simp⟩
theorem JoinSt.below {w w' : World} {B C : Nat} {v : Value} {t : List Trp} (h : JoinSt w B v t) (hb : Below C w w') (hC : w.heap.size ≤ C) : JoinSt w' B v t := by
  refine ⟨?_, fun x hx => (h.owns x hx).below hb hC, h.apart, h.full⟩
  refine ⟨h.row.1, ?_⟩
  rcases h.row.2 with hn | ⟨g, cap, cur, hv, hB, hg, rest⟩
  · exact .inl hn
  · have hlt : g < w.heap.size := (Array.getElem?_eq_some_iff.1 hg).1
    exact .inr ⟨g, cap, cur, hv, hB, by rw [hb.block g (by omega)]; exact hg, rest⟩
theorem JoinSt.shape {w : World} {B : Nat} {v : Value} {t : List Trp} (h : JoinSt w B v t) : ∃ a cap, v = .slice a t.length cap := by
  rcases h.row.2 with ⟨rfl, h2⟩ | ⟨g, cap, cur, rfl, _⟩
  · exact ⟨none, 0, by rw [h2]⟩
  · exact ⟨_, _, rfl⟩
theorem JoinSt.mono {w : World} {B B' : Nat} {v : Value} {t : List Trp} (h : JoinSt w B v t) (hB : B' ≤ B) : JoinSt w B' v t := by
  refine ⟨⟨h.row.1, ?_⟩, fun x hx => (h.owns x hx).mono hB, h.apart, h.full⟩
  rcases h.row.2 with hn | ⟨g, cap, cur, hv, hb, rest⟩
  · exact .inl hn
  · exact .inr ⟨g, cap, cur, hv, Nat.le_trans hB hb, rest⟩
/-- The cells of block j. -/
theorem JoinSt.at {w : World} {B : Nat} {v : Value} {t : List Trp} (h : JoinSt w B v t) {j : Nat} (hj : j < t.length) : ∃ g cap, v = .slice (some ⟨g, 0, none⟩) t.length cap ∧ B ≤ g ∧ g < w.heap.size ∧
    w.cell? ⟨g, j * 2, none⟩ = some (.bool (t.getD j (false, .slice none 0 0, [])).1) ∧ w.cell? ⟨g, j * 2 + 1, none⟩ = some (t.getD j (false, .slice none 0 0, [])).2.1 ∧ (∀ o, w.frozen? ⟨g, o, none⟩ = false) ∧ (∀ x ∈ t, ∀ k, x.2.1.ownBlock = some k → k ≠ g) := by
  rcases h.row.2 with ⟨rfl, h2⟩ | ⟨g, cap, cur, rfl, hB, hg, hnc, hcm, hcs, htk⟩
  · omega
  · have hlt : g < w.heap.size := (Array.getElem?_eq_some_iff.1 hg).1
    have at' : ∀ i, i < t.length * 2 → w.cell? ⟨g, i, none⟩ = (cellsT t)[i]? := fun i hi => by
      simp only [World.cell?, hg]
      rw [← htk, List.getElem?_take, if_pos hi]
      simp
    obtain ⟨e1, e2⟩ := cellsT_at t j hj
    refine ⟨g, cap, rfl, hB, hlt, by rw [at' _ (by omega)]; exact e1, by rw [at' _ (by omega)]; exact e2, fun o => by simp [World.frozen?, hg], fun x hx k hk e => ?_⟩
    subst e
    have ho := h.owns x hx
    rcases ho.2 with ⟨e1, _⟩ | ⟨g2, cap2, cur2, e1, _, hg2, _⟩
    · rw [e1] at hk; cases hk
    · rw [e1] at hk
      have : g2 = k := by simpa [Value.ownBlock] using hk
      subst this
      rw [hg] at hg2
      simp only [Option.some.injEq, Obj.cells.injEq] at hg2
      exact absurd hg2.2.1 (by decide)
theorem JoinSt.blocks {w : World} {B : Nat} {v : Value} {t : List Trp} (h : JoinSt w B v t) (hl : t.length ≤ 17592186044416) (hx : ∀ x ∈ t, x.2.2.length ≤ 17592186044416 ∧ In64 x.2.2) : IsBlocks w v (shapeT t) := by
  have hgd : ∀ j, j < t.length → (shapeT t).getD j dB = ((t.getD j (false, .slice none 0 0, [])).1, (t.getD j (false, .slice none 0 0, [])).2.2) := fun j hj => by
    unfold shapeT
    simp [List.getD, hj]
  have hmem : ∀ j, j < t.length → t.getD j (false, .slice none 0 0, []) ∈ t := fun j hj => by simp [List.getD, hj]
  rcases h.row.2 with ⟨rfl, h2⟩ | ⟨g, cap, cur, rfl, hB, hg, hnc, hcm, hcs, htk⟩
  · have : t = [] := List.eq_nil_of_length_eq_zero h2
    subst this
    exact IsTwo.nil _
  · have hlt : g < w.heap.size := (Array.getElem?_eq_some_iff.1 hg).1
    unfold maxLen at hcm
    refine ⟨_, cap, by rw [shapeT_len], ⟨by rw [shapeT_len]; exact hnc, fun h => by cases h⟩, hcm, by rw [shapeT_len]; exact hl, g, 0, fun _ => ⟨rfl, hlt⟩, fun j hj => ?_⟩
    rw [shapeT_len] at hj
    have at' : ∀ i, i < t.length * 2 → w.cell? ⟨g, i, none⟩ = (cellsT t)[i]? := fun i hi => by
      simp only [World.cell?, hg]
      rw [← htk, List.getElem?_take, if_pos hi]
      simp
    obtain ⟨e1, e2⟩ := cellsT_at t j hj
    have e3 := hgd j hj
    simp only [Nat.zero_add]
    rw [at' _ (by omega), at' _ (by omega)]
    refine ⟨by rw [e1]; exact congrArg some (congrArg Value.bool (congrArg Prod.fst e3).symm), _, e2, ?_⟩
    have e4 : ((shapeT t).getD j (false, [])).2 = (t.getD j (false, .slice none 0 0, [])).2.2 := congrArg Prod.snd e3
    rw [e4]
    exact (h.owns _ (hmem j hj)).ints (hx _ (hmem j hj)).1 (hx _ (hmem j hj)).2

end Go.Proofs.YtppglbffmgnooaaGreat

/- Steps on blocks of the call's own. -/
namespace Go.Proofs.YtppglbffmgnooaaGreat
open Go.RowKit
set_option linter.unusedVariables false
set_option linter.unusedSimpArgs false

/-- A block more, whose list is a new row. -/
theorem JoinSt.snoc {w w1 w2 : World} {B : Nat} {v v' u : Value} {t : List Trp} {e : Bool} {l : List Int} {tmp : Obj} (h : JoinSt w B v t) (hB : B ≤ w.heap.size) (hb : Below w.heap.size w w1) (hu : Own w1 w.heap.size u l) (hl : l ≠ [])
    (hrow : w2.ownsRow B 118 2 v' (t.length + 1) (cellsT t ++ [.bool e, u])) (hg : (w1.alloc tmp).grownBy w2 v.ownBlock) : JoinSt w2 B v' (t ++ [(e, u, l)]) := by
  have hv : ∀ g, v.ownBlock = some g → g < w.heap.size := fun g hg => by
    rcases h.row.2 with ⟨rfl, _⟩ | ⟨g1, cap, cur, rfl, _, hg1, _⟩
    · cases hg
    · have : g1 = g := by simpa [Value.ownBlock] using hg
      subst this
      exact (Array.getElem?_eq_some_iff.1 hg1).1
  have hx : ∀ x ∈ t, ∀ k, x.2.1.ownBlock = some k → v.ownBlock ≠ some k := fun x hx k hk e => by
    obtain ⟨j, hj, rfl⟩ := List.mem_iff_getElem.1 hx
    obtain ⟨g, cap, rfl, _, _, _, _, _, hne⟩ := h.at hj
    have : g = k := by simpa [Value.ownBlock] using e
    exact hne _ hx k hk this.symm
  refine ⟨by rw [List.length_append, cellsT_app]; exact hrow, fun x hxm => ?_, ?_, fun x hxm => ?_⟩
  · rcases List.mem_append.1 hxm with hxm | hxm
    · refine (((h.owns x hxm).below hb (Nat.le_refl _)).alloc tmp).kept hg ?_
      cases hk : x.2.1.ownBlock with
      | none => exact .inl rfl
      | some k => exact .inr (fun e => hx x hxm k hk e.symm)
    · rw [List.mem_singleton] at hxm
      subst hxm
      refine ((hu.mono hB).alloc tmp).kept hg ?_
      cases hk : u.ownBlock with
      | none => exact .inl rfl
      | some k => exact .inr (fun e => by have h1 := (hu.lt k hk).1; have h2 := hv k e.symm; omega)
  · rw [List.pairwise_append]
    refine ⟨h.apart, List.pairwise_singleton _ _, fun x hxm y hy g hg1 hg2 => ?_⟩
    rw [List.mem_singleton] at hy
    subst hy
    have h1 := (hu.lt g hg2).1
    have h2 := ((h.owns x hxm).lt g hg1).2
    omega
  · rcases List.mem_append.1 hxm with hxm | hxm
    · exact h.full x hxm
    · rw [List.mem_singleton] at hxm
      subst hxm
      exact hl

theorem JoinSt.vlt {w : World} {B : Nat} {v : Value} {t : List Trp} (h : JoinSt w B v t) : ∀ g, v.ownBlock = some g → B ≤ g ∧ g < w.heap.size := fun g hg => by
  rcases h.row.2 with ⟨rfl, _⟩ | ⟨g1, cap, cur, rfl, hB, hg1, _⟩
  · cases hg
  · have : g1 = g := by simpa [Value.ownBlock] using hg
    subst this
    exact ⟨hB, (Array.getElem?_eq_some_iff.1 hg1).1⟩

theorem set_last {α : Type} (a : List α) (x y z : α) : (a ++ [x, y]).set (a.length + 1) z = a ++ [x, z] := by
  rw [List.set_append_right _ _ (by omega)]
  have : a.length + 1 - a.length = 1 := by omega
  rw [this]
  rfl

/-- The last block's list grown by an append and stored. -/
theorem JoinSt.grow {w w1 : World} {B g cap : Nat} {u u' : Value} {t : List Trp} {e : Bool} {l l2 : List Int} {n : Nat} (h : JoinSt w B (.slice (some ⟨g, 0, none⟩) n cap) (t ++ [(e, u, l)])) (hB : B ≤ w.heap.size) (hl : l ++ l2 ≠ [])
    (hu : Own w1 B u' (l ++ l2)) (hg : w.grownBy w1 u.ownBlock) (hloc : u'.ownBlock = u.ownBlock ∨ u'.ownBlock = some w.heap.size) :
    JoinSt (w1.setCell ⟨g, t.length * 2 + 1, none⟩ u') B (.slice (some ⟨g, 0, none⟩) n cap) (t ++ [(e, u', l ++ l2)]) := by
  have hmem : (e, u, l) ∈ t ++ [(e, u, l)] := by simp
  have hj : t.length < (t ++ [(e, u, l)]).length := by simp
  obtain ⟨g', cap', eg, hBg, hglt, _, _, _, hne⟩ := h.at hj
  injection eg with eg1 eg2 eg3
  injection eg1 with eg1
  injection eg1 with eg1
  subst eg1; subst eg3
  have hug : u.ownBlock ≠ some g := fun e1 => hne _ hmem g e1 rfl
  have hu'g : u'.ownBlock ≠ some g := fun e1 => by
    rcases hloc with h1 | h1
    · exact hug (h1 ▸ e1)
    · rw [h1] at e1
      injection e1 with e1
      omega
  have hne2 : ∀ x ∈ t, ∀ k, x.2.1.ownBlock = some k → u.ownBlock ≠ some k := fun x hx k hk e1 => by
    have h1 := (List.pairwise_append.1 h.apart).2.2 x hx _ (List.mem_singleton.2 rfl) k hk
    exact h1 e1
  have hset := Kept.setCell w1 ⟨g, t.length * 2 + 1, none⟩ u'
  refine ⟨?_, fun x hxm => ?_, ?_, fun x hxm => ?_⟩
  · rcases h.row with ⟨h1, ⟨h2, _⟩ | ⟨g1, cap1, cur, ev, _, hg1, hnc, hcm, hcs, htk⟩⟩
    · cases h2
    · injection ev with ev1 ev2 ev3
      injection ev1 with ev1
      injection ev1 with ev1
      subst ev1; subst ev3
      have hw1 : w1.heap[g]? = some (.cells cur 118 (0, 0)) := by rw [hg.block g hglt (fun e1 => hug e1.symm)]; exact hg1
      have hn : n = t.length + 1 := by rw [ev2]; simp
      refine ⟨by rw [cellsT_len], .inr ⟨g, cap, cur.setIfInBounds (t.length * 2 + 1) u', by rw [ev2]; simp, hBg, ?_, by have := hnc; simp only [List.length_append, List.length_singleton] at this ⊢; omega, hcm, by simpa using hcs, ?_⟩⟩
      · simp [World.setCell, Array.getElem?_modify, hw1]
      · have e1 : (t ++ [(e, u', l ++ l2)]).length * 2 = (t ++ [(e, u, l)]).length * 2 := by simp
        rw [e1, Array.toList_setIfInBounds, List.take_set, htk, cellsT_app, cellsT_app]
        have e2 : cellsT [(e, u, l)] = [.bool e, u] := by simp [cellsT]
        have e3 : cellsT [(e, u', l ++ l2)] = [.bool e, u'] := by simp [cellsT]
        rw [e2, e3, ← cellsT_len]
        exact set_last _ _ _ _
  · rcases List.mem_append.1 hxm with hxm | hxm
    · have ho := h.owns x (List.mem_append_left _ hxm)
      have h1 : Own w1 B x.2.1 x.2.2 := ho.kept hg (by
        cases hk : x.2.1.ownBlock with
        | none => exact .inl rfl
        | some k => exact .inr (fun e1 => hne2 x hxm k hk e1.symm))
      exact hset.row h1 (fun k hk e1 => hne x (List.mem_append_left _ hxm) k hk e1)
    · rw [List.mem_singleton] at hxm
      subst hxm
      exact hset.row hu (fun k hk e1 => hu'g (by rw [hk, e1]))
  · rw [List.pairwise_append]
    refine ⟨(List.pairwise_append.1 h.apart).1, List.pairwise_singleton _ _, fun x hxm y hy k hk1 hk2 => ?_⟩
    rw [List.mem_singleton] at hy
    subst hy
    rcases hloc with h1 | h1
    · exact hne2 x hxm k hk1 (by rw [← h1]; exact hk2)
    · have hk2' : u'.ownBlock = some k := hk2
      rw [h1] at hk2'
      injection hk2' with hk2'
      have := ((h.owns x (List.mem_append_left _ hxm)).lt k hk1).2
      omega
  · rcases List.mem_append.1 hxm with hxm | hxm
    · exact h.full x (List.mem_append_left _ hxm)
    · rw [List.mem_singleton] at hxm
      subst hxm
      exact hl

end Go.Proofs.YtppglbffmgnooaaGreat

/- Blocks put together: the words. -/
namespace Go.Proofs.YtppglbffmgnooaaGreat
open Go.RowKit
set_option linter.unusedVariables false
set_option linter.unusedSimpArgs false

theorem count_flatB {p : List Blk} (h : ∀ b ∈ p, b.2 ≠ []) : p.length ≤ (flatB p).length := by
  induction p with
  | nil => simp
  | cons c r ih =>
    have h1 := ih (fun b hb => h b (List.mem_cons_of_mem _ hb))
    have h2 := h c List.mem_cons_self
    have h3 : 0 < c.2.length := List.length_pos_iff.2 h2
    unfold flatB at h1 ⊢
    rw [List.map_cons, List.flatten_cons, List.length_append, List.length_cons]
    omega

end Go.Proofs.YtppglbffmgnooaaGreat

/- prefix.Join. -/
namespace Go.Proofs.YtppglbffmgnooaaGreat
open Go.RowKit Go.Shelf
set_option linter.unusedVariables false
set_option linter.unusedSimpArgs false
attribute [local go_sem] Oper.semAt_some cell_far frozen_far drew_cell drew_frozen

theorem JoinSt.keptS {S : Nat → Prop} {w w' : World} {B : Nat} {v : Value} {t : List Trp} (h : JoinSt w B v t) (k : Kept S w w') (hS : ∀ g, B ≤ g → ¬ S g) : JoinSt w' B v t :=
  ⟨k.row h.row (fun g hg => hS g (h.vlt g hg).1), fun x hx => k.row (h.owns x hx) (fun g hg => hS g ((h.owns x hx).lt g hg).1), h.apart, h.full⟩
end Go.Proofs.YtppglbffmgnooaaGreat

/- Rows of blocks that the call makes, whose lists are its own or lay there before. -/
namespace Go.Proofs.YtppglbffmgnooaaGreat
open Go.RowKit
set_option linter.unusedVariables false
set_option linter.unusedSimpArgs false

/-- A list of integers: the call's own, or of an elder world. -/
def ElemB (w0 w : World) (B : Nat) (u : Value) (l : List Int) : Prop := Own w B u l ∨ IsInts w0 u l
structure RowB (w0 w : World) (B : Nat) (v : Value) (t : List Trp) : Prop where
  below : Below w0.heap.size w0 w
  base : w0.heap.size ≤ B
  row : w.ownsRow B 118 2 v t.length (cellsT t)
  elems : ∀ x ∈ t, ElemB w0 w B x.2.1 x.2.2
theorem ElemB.below {w0 w w' : World} {B C : Nat} {u : Value} {l : List Int} (h : ElemB w0 w B u l) (hb : Below C w w') (hC : w.heap.size ≤ C) : ElemB w0 w' B u l := h.elim (fun h => .inl (h.below hb hC)) .inr
theorem ElemB.shape {w0 w : World} {B : Nat} {u : Value} {l : List Int} (h : ElemB w0 w B u l) : ∃ a cap, u = .slice a l.length cap := by
  rcases h with h | h
  · rcases h.2 with ⟨rfl, h2⟩ | ⟨g, cap, cur, rfl, _⟩
    · exact ⟨none, 0, by rw [h2]⟩
    · exact ⟨_, _, rfl⟩
  · exact h.shape
theorem RowB.nil {w0 w : World} {B : Nat} (hb : Below w0.heap.size w0 w) (hB : w0.heap.size ≤ B) : RowB w0 w B (.slice none 0 0) [] := ⟨hb, hB, World.ownsRow_nil _ _ _ _, by simp⟩
theorem rowB_lt {w : World} {B n : Nat} {e : TypeId} {v : Value} {xs : List Value} (h : w.ownsRow B e 2 v n xs) : ∀ g, v.ownBlock = some g → B ≤ g ∧ g < w.heap.size := fun g hg => by
  rcases h.2 with ⟨rfl, _⟩ | ⟨g1, cap, cur, rfl, hB, hg1, _⟩
  · cases hg
  · have : g1 = g := by simpa [Value.ownBlock] using hg
    subst this
    exact ⟨hB, (Array.getElem?_eq_some_iff.1 hg1).1⟩
/-- A row of blocks is no row of integers. -/
theorem rowB_ne {w : World} {B B' n : Nat} {v u : Value} {xs : List Value} {l : List Int} (h : w.ownsRow B 118 2 v n xs) (k : Own w B' u l) : ∀ g, u.ownBlock = some g → v.ownBlock ≠ some g := by
  intro g hg hv
  rcases h.2 with ⟨rfl, _⟩ | ⟨g1, cap, cur, rfl, _, hg1, _⟩
  · cases hv
  · rcases k.2 with ⟨rfl, _⟩ | ⟨g2, cap2, cur2, rfl, _, hg2, _⟩
    · cases hg
    · have e1 : g1 = g := by simpa [Value.ownBlock] using hv
      have e2 : g2 = g := by simpa [Value.ownBlock] using hg
      subst e1; subst e2
      rw [hg1] at hg2
      simp only [Option.some.injEq, Obj.cells.injEq] at hg2
      exact absurd hg2.2.1 (by decide)
theorem RowB.below' {w0 w w' : World} {B C : Nat} {v : Value} {t : List Trp} (h : RowB w0 w B v t) (hb : Below C w w') (hC : w.heap.size ≤ C) : RowB w0 w' B v t := by
  refine ⟨h.below.trans (hb.mono (Nat.le_trans h.below.size hC)), h.base, ⟨h.row.1, ?_⟩, fun x hx => (h.elems x hx).below hb hC⟩
  rcases h.row.2 with hn | ⟨g, cap, cur, hv, hB, hg, rest⟩
  · exact .inl hn
  · have hlt : g < w.heap.size := (Array.getElem?_eq_some_iff.1 hg).1
    exact .inr ⟨g, cap, cur, hv, hB, by rw [hb.block g (by omega)]; exact hg, rest⟩
theorem RowB.shape {w0 w : World} {B : Nat} {v : Value} {t : List Trp} (h : RowB w0 w B v t) : ∃ a cap, v = .slice a t.length cap := by
  rcases h.row.2 with ⟨rfl, h2⟩ | ⟨g, cap, cur, rfl, _⟩
  · exact ⟨none, 0, by rw [h2]⟩
  · exact ⟨_, _, rfl⟩
/-- More blocks behind. -/
theorem RowB.more {w0 w w1 w2 : World} {B : Nat} {v v' : Value} {t s : List Trp} (h : RowB w0 w B v t) (hBw : B ≤ w.heap.size) (hb : Below w.heap.size w w1) (hs : ∀ x ∈ s, ElemB w0 w1 B x.2.1 x.2.2)
    (hrow : w2.ownsRow B 118 2 v' (t ++ s).length (cellsT (t ++ s))) (hg : w1.grownBy w2 v.ownBlock) : RowB w0 w2 B v' (t ++ s) := by
  have h1 := h.below' hb (Nat.le_refl _)
  refine ⟨h1.below.grown hg h1.below.size (fun g hg' => Nat.le_trans h.base (rowB_lt h1.row g hg').1), h.base, hrow, fun x hx => ?_⟩
  have key : ElemB w0 w1 B x.2.1 x.2.2 := by
    rcases List.mem_append.1 hx with hx | hx
    · exact h1.elems x hx
    · exact hs x hx
  rcases key with k | k
  · refine .inl (k.kept hg ?_)
    cases hk : x.2.1.ownBlock with
    | none => exact .inl rfl
    | some g => exact .inr (fun e => rowB_ne h1.row k g hk e.symm)
  · exact .inr k
theorem RowB.blocks {w0 w : World} {B : Nat} {v : Value} {t : List Trp} (h : RowB w0 w B v t) (hl : t.length ≤ 17592186044416) (hx : ∀ x ∈ t, x.2.2.length ≤ 17592186044416 ∧ In64 x.2.2) : IsBlocks w v (shapeT t) := by
  have hgd : ∀ j, j < t.length → (shapeT t).getD j dB = ((t.getD j (false, .slice none 0 0, [])).1, (t.getD j (false, .slice none 0 0, [])).2.2) := fun j hj => by
    unfold shapeT
    simp [List.getD, hj]
  have hmem : ∀ j, j < t.length → t.getD j (false, .slice none 0 0, []) ∈ t := fun j hj => by simp [List.getD, hj]
  rcases h.row.2 with ⟨rfl, h2⟩ | ⟨g, cap, cur, rfl, hB, hg, hnc, hcm, hcs, htk⟩
  · have : t = [] := List.eq_nil_of_length_eq_zero h2
    subst this
    exact IsTwo.nil _
  · have hlt : g < w.heap.size := (Array.getElem?_eq_some_iff.1 hg).1
    unfold maxLen at hcm
    refine ⟨_, cap, by rw [shapeT_len], ⟨by rw [shapeT_len]; exact hnc, fun h => by cases h⟩, hcm, by rw [shapeT_len]; exact hl, g, 0, fun _ => ⟨rfl, hlt⟩, fun j hj => ?_⟩
    rw [shapeT_len] at hj
    have at' : ∀ i, i < t.length * 2 → w.cell? ⟨g, i, none⟩ = (cellsT t)[i]? := fun i hi => by
      simp only [World.cell?, hg]
      rw [← htk, List.getElem?_take, if_pos hi]
      simp
    obtain ⟨e1, e2⟩ := cellsT_at t j hj
    have e3 := hgd j hj
    simp only [Nat.zero_add]
    rw [at' _ (by omega), at' _ (by omega)]
    refine ⟨by rw [e1]; exact congrArg some (congrArg Value.bool (congrArg Prod.fst e3).symm), _, e2, ?_⟩
    have e4 : ((shapeT t).getD j (false, [])).2 = (t.getD j (false, .slice none 0 0, [])).2.2 := congrArg Prod.snd e3
    rw [e4]
    rcases h.elems _ (hmem j hj) with k | k
    · exact k.ints (hx _ (hmem j hj)).1 (hx _ (hmem j hj)).2
    · exact k.below h.below (Nat.le_refl _)

end Go.Proofs.YtppglbffmgnooaaGreat

/- prefix.Less. -/
namespace Go.Proofs.YtppglbffmgnooaaGreat
open Go.RowKit Go.Maps
set_option linter.unusedVariables false
set_option linter.unusedSimpArgs false

theorem MapB.drop {w' : World} {b n : Nat} {h : Int → Bool} {D : DataW Unit} (hD : IsMap D) (h2 : ∀ k, D.atKey (.int .i64 k) (.lit (.bool false)) = .lit (.bool (h k))) {k : Int}
    (hw : w'.ownsMap Tryz.prog 3 (plainElem Tryz.prog 4) b n (D.del (.int .i64 k))) : MapB Tryz.prog 3 4 w' b n (fun j => h j && !decide (j = k)) := by
  refine ⟨_, hw, hw.isMap, fun j => ?_⟩
  by_cases e : j = k
  · subst e
    rw [atKey_del_same]
    simp
  · rw [atKey_del_other (by simpa using e), h2]
    simp [e]
theorem MapB.below {P : Program} {K E : TypeId} {w w' : World} {b n B : Nat} {h : Int → Bool} (m : MapB P K E w b n h) (hb : Below B w w') (hB : w.heap.size ≤ B) : MapB P K E w' b n h :=
  m.kept (S := fun _ => False) ⟨hb.os, hb.tape, hb.output, hb.size, fun k hk _ => hb.block k (by omega)⟩ (fun h => h)
theorem mayP_len {p : List Blk} (h : mayP p = true) : (flatB p).length ≤ 1024 ∧ p.length ≤ 1024 := by
  unfold mayP at h
  rw [decide_eq_true_eq] at h
  refine ⟨h.2.2.2, ?_⟩
  have h1 := count_flatB (p := p) (fun b hb => by
    obtain ⟨j, hj, rfl⟩ := List.mem_iff_getElem.1 hb
    have := (h.1 j hj).1
    simpa [List.getD, hj] using this)
  have := h.2.2.2
  omega

end Go.Proofs.YtppglbffmgnooaaGreat
