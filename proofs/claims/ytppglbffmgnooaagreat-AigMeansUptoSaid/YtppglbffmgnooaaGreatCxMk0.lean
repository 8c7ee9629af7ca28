/- Rows of bools of the call's own, marks. -/
import Derived.Test.YtppglbffmgnooaaGreatK08
import Derived.Test.YtppglbffmgnooaaGreatK09
namespace Go.Proofs.YtppglbffmgnooaaGreat
open Go.RowKit Go.Maps Go.Shelf
set_option linter.unusedVariables false
set_option linter.unusedSimpArgs false

theorem wpList_mkBools {w : World} {ops : Array Oper} {rest : List Oper} {o : Oper} {a : Act} {Q : Exit → Act → World → Prop} (hgd : o.guard = none) (l c : Operand)
    (hop : o.op = Op.makeSlice 46 l c) (n : Nat) (hl : a.eval l = .int .i64 (n : Int)) (hc : a.eval c = .int .i64 (n : Int)) (hn : n ≤ 17592186044416)
    (h : ∀ w', OwnB w' w.heap.size (.slice (some ⟨w.heap.size, 0, none⟩) n n) (List.replicate n false) → w.grownBy w' none → wpList Tryz.prog ops Q rest (a.put o.dst (.slice (some ⟨w.heap.size, 0, none⟩) n n)) w') : wpList Tryz.prog ops Q (o :: rest) a w := by
  obtain ⟨i0, hi, hz0, hz1, hz2⟩ := info_parts info_boolC
  refine wpList_make_full _ hgd l c 46 hop w.heap.size 4 i0 (.bool false) 1 Tryz.underlying46 hi hz0 hz1 _ _ _ _ n hl hc rfl rfl (by rw [hz2]; omega) (by unfold maxLen; omega) (Nat.le_refl _) ?_
  intro w1 hown hg
  refine h w1 ?_ hg
  unfold OwnB
  simp only [List.length_replicate]
  have e : (madeCells (Value.bool false).cells (n * 1)).toList = (List.replicate n false).map Value.bool := by
    rw [Nat.mul_one, show (Value.bool false).cells = #[.bool false] from rfl, toList_madeCells_one]; simp
  rw [e] at hown
  exact hown

theorem OwnB.cell {w : World} {B g n cap : Nat} {xs : List Bool} (h : OwnB w B (.slice (some ⟨g, 0, none⟩) n cap) xs) (j : Nat) (hj : j < xs.length) : w.cell? ⟨g, j, none⟩ = some (.bool (xs.getD j false)) := by
  have hn : n = xs.length := by
    rcases h.2 with ⟨e, _⟩ | ⟨g', cap', cur, e, _⟩
    · cases e
    · injection e
  subst hn
  rw [World.ownsRow.cellAt (show w.ownsRow B 4 1 _ xs.length (xs.map Value.bool) from h) j (by omega)]
  simp [hj, List.getD]
theorem OwnB.frozen {w : World} {B g n cap : Nat} {xs : List Bool} (h : OwnB w B (.slice (some ⟨g, 0, none⟩) n cap) xs) (j : Nat) : w.frozen? ⟨g, j, none⟩ = false := by
  have hn : n = xs.length := by
    rcases h.2 with ⟨e, _⟩ | ⟨g', cap', cur, e, _⟩
    · cases e
    · injection e
  subst hn
  exact World.ownsRow.frozenAt (show w.ownsRow B 4 1 _ xs.length (xs.map Value.bool) from h) j
theorem OwnB.store {w : World} {B g n cap : Nat} {xs : List Bool} (h : OwnB w B (.slice (some ⟨g, 0, none⟩) n cap) xs) (j : Nat) (y : Bool) : OwnB (w.setCell ⟨g, j, none⟩ (.bool y)) B (.slice (some ⟨g, 0, none⟩) n cap) (xs.set j y) := by
  have hn : n = xs.length := by
    rcases h.2 with ⟨e, _⟩ | ⟨g', cap', cur, e, _⟩
    · cases e
    · injection e
  subst hn
  have := (World.ownsRow.stored (show w.ownsRow B 4 1 _ xs.length (xs.map Value.bool) from h) j (.bool y)).1
  unfold OwnB
  rw [List.length_set, List.map_set]
  exact this

theorem wpList_mkBools2 {w : World} {ops : Array Oper} {rest : List Oper} {o : Oper} {a : Act} {Q : Exit → Act → World → Prop} (hgd : o.guard = none) (l c : Operand)
    (hop : o.op = Op.makeSlice 46 l c) (n : Nat) (L C : Int) (hl : a.eval l = .int .i64 L) (hc : a.eval c = .int .i64 C) (hL : L = n) (hC : C = n) (hn : n ≤ 17592186044416)
    (h : ∀ w', OwnB w' w.heap.size (.slice (some ⟨w.heap.size, 0, none⟩) n n) (List.replicate n false) → w.grownBy w' none → wpList Tryz.prog ops Q rest (a.put o.dst (.slice (some ⟨w.heap.size, 0, none⟩) n n)) w') : wpList Tryz.prog ops Q (o :: rest) a w :=
  wpList_mkBools hgd l c hop n (by rw [hl, hL]) (by rw [hc, hC]) hn h
/-- How many marks there are. -/
@[irreducible] def nM : Nat := 65537
theorem nM_eq : nM = 65537 := by unfold nM; rfl
/-- Marks in a block of the call's own. -/
def Mk (w : World) (B b : Nat) (f : Int → Bool) : Prop := ∃ bs, OwnB w B (.slice (some ⟨b, 0, none⟩) nM nM) bs ∧ bs.length = nM ∧ ∀ i : Nat, i < nM → bs.getD i false = f i
theorem Mk.lt {w : World} {B b : Nat} {f : Int → Bool} (h : Mk w B b f) : B ≤ b ∧ b < w.heap.size := by
  obtain ⟨bs, h1, _⟩ := h
  exact World.ownsRow.lt h1 b rfl
theorem Mk.cell {w : World} {B b : Nat} {f : Int → Bool} (h : Mk w B b f) {i : Nat} (hi : i < nM) : w.cell? ⟨b, i, none⟩ = some (.bool (f i)) := by
  obtain ⟨bs, h1, h2, h3⟩ := h
  rw [h1.cell i (by omega), h3 i hi]
theorem Mk.frozen {w : World} {B b : Nat} {f : Int → Bool} (h : Mk w B b f) (i : Nat) : w.frozen? ⟨b, i, none⟩ = false := by
  obtain ⟨bs, h1, h2, h3⟩ := h
  exact h1.frozen i
theorem Mk.set {w : World} {B b : Nat} {f : Int → Bool} (h : Mk w B b f) (i : Nat) (hi : i < nM) (y : Bool) : Mk (w.setCell ⟨b, i, none⟩ (.bool y)) B b (updB f i y) := by
  obtain ⟨bs, h1, h2, h3⟩ := h
  refine ⟨bs.set i y, h1.store i y, by rw [List.length_set, h2], fun j hj => ?_⟩
  unfold updB
  by_cases e : i = j
  · subst e
    rw [if_pos rfl]
    simp [List.getD, List.getElem?_set, h2, hj]
  · rw [if_neg (by omega), ← h3 j hj]
    simp [List.getD, List.getElem?_set, e]
theorem Mk.below {w w' : World} {B C b : Nat} {f : Int → Bool} (h : Mk w B b f) (hb : Below C w w') (hC : w.heap.size ≤ C) : Mk w' B b f := by
  obtain ⟨bs, h1, h2⟩ := h
  refine ⟨bs, ⟨h1.1, ?_⟩, h2⟩
  rcases h1.2 with hn | ⟨g, cap, cur, hv, hB, hg, rest⟩
  · exact .inl hn
  · exact .inr ⟨g, cap, cur, hv, hB, (hb.block g (Nat.lt_of_lt_of_le (Array.getElem?_eq_some_iff.1 hg).1 hC)).trans hg, rest⟩
theorem Mk.mono {w : World} {B B' b : Nat} {f : Int → Bool} (h : Mk w B b f) (hB : B' ≤ B) : Mk w B' b f := by
  obtain ⟨bs, h1, h2⟩ := h
  exact ⟨bs, ownB_mono h1 hB, h2⟩
theorem Mk.congr {w : World} {B b : Nat} {f g : Int → Bool} (h : Mk w B b f) (e : ∀ i : Int, 0 ≤ i → i ≤ 65536 → f i = g i) : Mk w B b g := by
  obtain ⟨bs, h1, h2, h3⟩ := h
  exact ⟨bs, h1, h2, fun i hi => by rw [h3 i hi]; exact e i (by omega) (by have := nM_eq; omega)⟩

end Go.Proofs.YtppglbffmgnooaaGreat
