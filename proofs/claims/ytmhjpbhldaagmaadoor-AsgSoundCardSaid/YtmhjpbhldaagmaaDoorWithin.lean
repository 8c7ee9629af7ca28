/- lits.Within. -/
import Derived.Test.YtmhjpbhldaagmaaDoorNorm
namespace Go.Proofs.YtmhjpbhldaagmaaDoor
open Go.RowKit Go.Shelf
set_option linter.unusedVariables false

theorem mayFrom_pair {p : Int} {l : List Int} (h : mayFrom p l = true) : l.Pairwise (fun x y => varOf x < varOf y) := by
  induction l generalizing p with
  | nil => exact List.Pairwise.nil
  | cons x r ih =>
    simp only [mayFrom, Bool.and_eq_true] at h
    exact List.Pairwise.cons (fun y hy => (mayFrom_mem (varOf_bd x).1 h.2 y hy).1) (ih h.2)
theorem mayB_mono {l : List Int} (h : mayB l = true) (i j : Nat) (hij : i < j) (hj : j < l.length) : varOf (l.getD i 0) < varOf (l.getD j 0) := by
  have := List.pairwise_iff_getElem.1 (mayFrom_pair h) i j (by omega) hj hij
  simpa [List.getD, hj, show i < l.length by omega] using this

def BsPost (l : List Int) (t : Int) (w : World) (e : Ending) (w' : World) : Prop :=
  ∃ (i : Nat) (f : Bool), e = .returned (.tuple #[.int .i64 i, .bool f]) ∧ w = w' ∧ (f = true → i < l.length ∧ varOf (l.getD i 0) = t) ∧ (f = false → ∀ y ∈ l, varOf y ≠ t)

/-- A row of bools of the call's own. -/
def OwnB (w : World) (B : Nat) (v : Value) (xs : List Bool) : Prop := w.ownsRow B 4 1 v xs.length (xs.map Value.bool)
theorem info_bool : (Tryd.prog.info? 4).map (fun i => (i.zero, i.size, i.bytes)) = some (some (.bool false), 1, 1) := by kernel_rfl

theorem wpList_mkBools {w : World} {ops : Array Oper} {rest : List Oper} {o : Oper} {a : Act} {Q : Exit → Act → World → Prop} (hgd : o.guard = none) (l c : Operand)
    (hop : o.op = Op.makeSlice 75 l c) (n : Nat) (hl : a.eval l = .int .i64 (n : Int)) (hc : a.eval c = .int .i64 (n : Int)) (hn : n ≤ 17592186044416)
    (h : ∀ w', OwnB w' w.heap.size (.slice (some ⟨w.heap.size, 0, none⟩) n n) (List.replicate n false) → w.grownBy w' none → wpList Tryd.prog ops Q rest (a.put o.dst (.slice (some ⟨w.heap.size, 0, none⟩) n n)) w') : wpList Tryd.prog ops Q (o :: rest) a w := by
  obtain ⟨i0, hi, hz0, hz1, hz2⟩ := info_parts info_bool
  refine wpList_make_full _ hgd l c 75 hop w.heap.size 4 i0 (.bool false) 1 Tryd.underlying75 hi hz0 hz1 _ _ _ _ n hl hc rfl rfl (by rw [hz2]; omega) (by unfold maxLen; omega) (Nat.le_refl _) ?_
  intro w1 hown hg
  refine h w1 ?_ hg
  unfold OwnB
  simp only [List.length_replicate]
  have e : (madeCells (Value.bool false).cells (n * 1)).toList = (List.replicate n false).map Value.bool := by
    rw [Nat.mul_one, show (Value.bool false).cells = #[.bool false] from rfl, toList_madeCells_one]; simp
  rw [e] at hown
  exact hown

theorem OwnB.cell {w : World} {B g n cap : Nat} {xs : List Bool} (h : OwnB w B (.slice (some ⟨g, 0, none⟩) n cap) xs) (j : Nat) (hj : j < xs.length) : w.cell? ⟨g, j, none⟩ = some (.bool (xs.getD j false)) := by
  have hn : n = xs.length := by
    rcases h.2 with ⟨e, _⟩ | ⟨g', cap', cur, e, _⟩
    · cases e
    · injection e
  subst hn
  rw [World.ownsRow.cellAt (show w.ownsRow B 4 1 _ xs.length (xs.map Value.bool) from h) j (by omega)]
  simp [hj, List.getD]
theorem OwnB.frozen {w : World} {B g n cap : Nat} {xs : List Bool} (h : OwnB w B (.slice (some ⟨g, 0, none⟩) n cap) xs) (j : Nat) : w.frozen? ⟨g, j, none⟩ = false := by
  have hn : n = xs.length := by
    rcases h.2 with ⟨e, _⟩ | ⟨g', cap', cur, e, _⟩
    · cases e
    · injection e
  subst hn
  exact World.ownsRow.frozenAt (show w.ownsRow B 4 1 _ xs.length (xs.map Value.bool) from h) j
theorem OwnB.store {w : World} {B g n cap : Nat} {xs : List Bool} (h : OwnB w B (.slice (some ⟨g, 0, none⟩) n cap) xs) (j : Nat) (y : Bool) : OwnB (w.setCell ⟨g, j, none⟩ (.bool y)) B (.slice (some ⟨g, 0, none⟩) n cap) (xs.set j y) := by
  have hn : n = xs.length := by
    rcases h.2 with ⟨e, _⟩ | ⟨g', cap', cur, e, _⟩
    · cases e
    · injection e
  subst hn
  have := (World.ownsRow.stored (show w.ownsRow B 4 1 _ xs.length (xs.map Value.bool) from h) j (.bool y)).1
  unfold OwnB
  rw [List.length_set, List.map_set]
  exact this
theorem OwnB.lt {w : World} {B : Nat} {v : Value} {xs : List Bool} (h : OwnB w B v xs) : ∀ k, v.ownBlock = some k → B ≤ k ∧ k < w.heap.size := World.ownsRow.lt h

theorem mayB_inj {l : List Int} (h : mayB l = true) {i j : Nat} (hi : i < l.length) (hj : j < l.length) (e : varOf (l.getD i 0) = varOf (l.getD j 0)) : i = j := by
  rcases Nat.lt_trichotomy i j with h1 | h1 | h1
  · have := mayB_mono h i j h1 hj; omega
  · exact h1
  · have := mayB_mono h j i h1 hi; omega

end Go.Proofs.YtmhjpbhldaagmaaDoor
