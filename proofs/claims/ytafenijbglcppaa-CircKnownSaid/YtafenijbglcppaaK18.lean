/- Joined texts: CxMark, CxKnown, CxRReach, CxRGate, CxGreat, CxBools. -/
import Derived.Test.YtafenijbglcppaaK17
/- Rows of marks: the reference's marks and known (layer 5). -/
namespace Go.Proofs.Ytafenijbglcppaa
open Go.RowKit Go.Maps Go.Shelf
set_option linter.unusedVariables false
set_option linter.unusedSimpArgs false

theorem wpList_mkBools {w : World} {ops : Array Oper} {rest : List Oper} {o : Oper} {a : Act} {Q : Exit → Act → World → Prop} (hgd : o.guard = none) (l c : Operand)
    (hop : o.op = Op.makeSlice 50 l c) (n : Nat) (hl : a.eval l = .int .i64 (n : Int)) (hc : a.eval c = .int .i64 (n : Int)) (hn : n ≤ 17592186044416)
    (h : ∀ w', OwnB w' w.heap.size (.slice (some ⟨w.heap.size, 0, none⟩) n n) (List.replicate n false) → w.grownBy w' none → wpList Try.prog ops Q rest (a.put o.dst (.slice (some ⟨w.heap.size, 0, none⟩) n n)) w') : wpList Try.prog ops Q (o :: rest) a w := by
  obtain ⟨i0, hi, hz0, hz1, hz2⟩ := info_parts info_boolC
  refine wpList_make_full _ hgd l c 50 hop w.heap.size 4 i0 (.bool false) 1 Try.underlying50 hi hz0 hz1 _ _ _ _ n hl hc rfl rfl (by rw [hz2]; omega) (by unfold maxLen; omega) (Nat.le_refl _) ?_
  intro w1 hown hg
  refine h w1 ?_ hg
  unfold OwnB
  simp only [List.length_replicate]
  have e : (madeCells (Value.bool false).cells (n * 1)).toList = (List.replicate n false).map Value.bool := by
    rw [Nat.mul_one, show (Value.bool false).cells = #[.bool false] from rfl, toList_madeCells_one]; simp
  rw [e] at hown
  exact hown

theorem OwnB.cell {w : World} {B g n cap : Nat} {xs : List Bool} (h : OwnB w B (.slice (some ⟨g, 0, none⟩) n cap) xs) (j : Nat) (hj : j < xs.length) : w.cell? ⟨g, j, none⟩ = some (.bool (xs.getD j false)) := by
  have hn : n = xs.length := by
    rcases h.2 with ⟨e, _⟩ | ⟨g', cap', cur, e, _⟩
    · cases e
    · injection e
  subst hn
  rw [World.ownsRow.cellAt (show w.ownsRow B 4 1 _ xs.length (xs.map Value.bool) from h) j (by omega)]
  simp [hj, List.getD]
theorem OwnB.frozen {w : World} {B g n cap : Nat} {xs : List Bool} (h : OwnB w B (.slice (some ⟨g, 0, none⟩) n cap) xs) (j : Nat) : w.frozen? ⟨g, j, none⟩ = false := by
  have hn : n = xs.length := by
    rcases h.2 with ⟨e, _⟩ | ⟨g', cap', cur, e, _⟩
    · cases e
    · injection e
  subst hn
  exact World.ownsRow.frozenAt (show w.ownsRow B 4 1 _ xs.length (xs.map Value.bool) from h) j
theorem OwnB.store {w : World} {B g n cap : Nat} {xs : List Bool} (h : OwnB w B (.slice (some ⟨g, 0, none⟩) n cap) xs) (j : Nat) (y : Bool) : OwnB (w.setCell ⟨g, j, none⟩ (.bool y)) B (.slice (some ⟨g, 0, none⟩) n cap) (xs.set j y) := by
  have hn : n = xs.length := by
    rcases h.2 with ⟨e, _⟩ | ⟨g', cap', cur, e, _⟩
    · cases e
    · injection e
  subst hn
  have := (World.ownsRow.stored (show w.ownsRow B 4 1 _ xs.length (xs.map Value.bool) from h) j (.bool y)).1
  unfold OwnB
  rw [List.length_set, List.map_set]
  exact this

theorem wpList_mkBools2 {w : World} {ops : Array Oper} {rest : List Oper} {o : Oper} {a : Act} {Q : Exit → Act → World → Prop} (hgd : o.guard = none) (l c : Operand)
    (hop : o.op = Op.makeSlice 50 l c) (n : Nat) (L C : Int) (hl : a.eval l = .int .i64 L) (hc : a.eval c = .int .i64 C) (hL : L = n) (hC : C = n) (hn : n ≤ 17592186044416)
    (h : ∀ w', OwnB w' w.heap.size (.slice (some ⟨w.heap.size, 0, none⟩) n n) (List.replicate n false) → w.grownBy w' none → wpList Try.prog ops Q rest (a.put o.dst (.slice (some ⟨w.heap.size, 0, none⟩) n n)) w') : wpList Try.prog ops Q (o :: rest) a w :=
  wpList_mkBools hgd l c hop n (by rw [hl, hL]) (by rw [hc, hC]) hn h
/-- How many marks there are. -/
@[irreducible] def nM : Nat := 65537
theorem nM_eq : nM = 65537 := by unfold nM; rfl
/-- Marks in a block of the call's own. -/
def Mk (w : World) (B b : Nat) (f : Int → Bool) : Prop := ∃ bs, OwnB w B (.slice (some ⟨b, 0, none⟩) nM nM) bs ∧ bs.length = nM ∧ ∀ i : Nat, i < nM → bs.getD i false = f i
theorem Mk.lt {w : World} {B b : Nat} {f : Int → Bool} (h : Mk w B b f) : B ≤ b ∧ b < w.heap.size := by
  obtain ⟨bs, h1, _⟩ := h
  exact World.ownsRow.lt h1 b rfl
theorem Mk.cell {w : World} {B b : Nat} {f : Int → Bool} (h : Mk w B b f) {i : Nat} (hi : i < nM) : w.cell? ⟨b, i, none⟩ = some (.bool (f i)) := by
  obtain ⟨bs, h1, h2, h3⟩ := h
  rw [h1.cell i (by omega), h3 i hi]
theorem Mk.frozen {w : World} {B b : Nat} {f : Int → Bool} (h : Mk w B b f) (i : Nat) : w.frozen? ⟨b, i, none⟩ = false := by
  obtain ⟨bs, h1, h2, h3⟩ := h
  exact h1.frozen i
theorem Mk.set {w : World} {B b : Nat} {f : Int → Bool} (h : Mk w B b f) (i : Nat) (hi : i < nM) (y : Bool) : Mk (w.setCell ⟨b, i, none⟩ (.bool y)) B b (updB f i y) := by
  obtain ⟨bs, h1, h2, h3⟩ := h
  refine ⟨bs.set i y, h1.store i y, by rw [List.length_set, h2], fun j hj => ?_⟩
  unfold updB
  by_cases e : i = j
  · subst e
    rw [if_pos rfl]
    simp [List.getD, List.getElem?_set, h2, hj]
  · rw [if_neg (by omega), ← h3 j hj]
    simp [List.getD, List.getElem?_set, e]
theorem Mk.below {w w' : World} {B C b : Nat} {f : Int → Bool} (h : Mk w B b f) (hb : Below C w w') (hC : w.heap.size ≤ C) : Mk w' B b f := by
  obtain ⟨bs, h1, h2⟩ := h
  refine ⟨bs, ⟨h1.1, ?_⟩, h2⟩
  rcases h1.2 with hn | ⟨g, cap, cur, hv, hB, hg, rest⟩
  · exact .inl hn
  · exact .inr ⟨g, cap, cur, hv, hB, (hb.block g (Nat.lt_of_lt_of_le (Array.getElem?_eq_some_iff.1 hg).1 hC)).trans hg, rest⟩
theorem Mk.mono {w : World} {B B' b : Nat} {f : Int → Bool} (h : Mk w B b f) (hB : B' ≤ B) : Mk w B' b f := by
  obtain ⟨bs, h1, h2⟩ := h
  exact ⟨bs, ownB_mono h1 hB, h2⟩
theorem Mk.congr {w : World} {B b : Nat} {f g : Int → Bool} (h : Mk w B b f) (e : ∀ i : Int, 0 ≤ i → i ≤ 65536 → f i = g i) : Mk w B b g := by
  obtain ⟨bs, h1, h2, h3⟩ := h
  exact ⟨bs, h1, h2, fun i hi => by rw [h3 i hi]; exact e i (by omega) (by have := nM_eq; omega)⟩

end Go.Proofs.Ytafenijbglcppaa

/- The reference's known (layer 5). -/
namespace Go.Proofs.Ytafenijbglcppaa
open Go.RowKit Go.Maps Go.Shelf
set_option linter.unusedVariables false
set_option linter.unusedSimpArgs false

/-- A literal of a marked variable. -/
def knownB (f : Int → Bool) (x : Int) : Bool := varB (abs5 x) && f (abs5 x)
end Go.Proofs.Ytafenijbglcppaa

/- The reference's reached (layer 5). -/
namespace Go.Proofs.Ytafenijbglcppaa
open Go.RowKit Go.Maps Go.Shelf
set_option linter.unusedVariables false
set_option linter.unusedSimpArgs false

def markL (f : Int → Bool) (l : List Int) : Int → Bool := fun i => f i || decide (i ∈ l.map abs5)
/-- Marks of what gates reach, from the last gate to the first. -/
def reachM : List Gt → (Int → Bool) → Int → Bool
  | [], f => f
  | g :: r, f => if reachM r f g.1 = true then markL (reachM r f) g.2.2 else reachM r f
theorem reachM_drop {gs : List Gt} {k : Nat} (h : k < gs.length) (f : Int → Bool) : reachM (gs.drop k) f = if reachM (gs.drop (k + 1)) f (gs.getD k dG).1 = true then markL (reachM (gs.drop (k + 1)) f) (gs.getD k dG).2.2 else reachM (gs.drop (k + 1)) f := by
  rw [gates_drop h]
  rfl
theorem markL_take {f : Int → Bool} {l : List Int} {k : Nat} (h : k < l.length) : ∀ i, updB (markL f (l.take k)) (abs5 (l.getD k 0)) true i = markL f (l.take (k + 1)) i := fun i => by
  have e : l.take (k + 1) = l.take k ++ [l.getD k 0] := by rw [List.take_succ_eq_append_getElem h]; simp [List.getD, h]
  unfold updB markL
  rw [e, List.map_append]
  by_cases hi : i = abs5 (l.getD k 0)
  · rw [if_pos hi]; simp [hi]
  · rw [if_neg hi]
    generalize l.getD k 0 = y at *
    simp [hi]
end Go.Proofs.Ytafenijbglcppaa

/- The reference's holds and gate (layer 5). -/
namespace Go.Proofs.Ytafenijbglcppaa
open Go.RowKit Go.Maps Go.Shelf
set_option linter.unusedVariables false
set_option linter.unusedSimpArgs false

theorem abs5_var {x : Int} (h : 0 ≤ varC x) : abs5 x = varC x := by
  unfold varC at h ⊢
  unfold abs5
  split
  · split
    · rename_i h1 h2; rw [if_pos h1, if_pos h2] at h; omega
    · rfl
  · rfl
theorem all_cut {p : Int → Bool} {l : List Int} {k : Nat} (h : k < l.length) : l.take (k + 1) = l.take k ++ [l.getD k 0] := by rw [List.take_succ_eq_append_getElem h]; simp [List.getD, h]
theorem all_no {p : Int → Bool} {l : List Int} {k : Nat} (h : k < l.length) (e : p (l.getD k 0) = false) : l.all p = false := by
  rw [← Bool.not_eq_true, List.all_eq_true]
  exact fun hh => by have := hh (l.getD k 0) (by simp [List.getD, h]); rw [e] at this; cases this
theorem any_yes {p : Int → Bool} {l : List Int} {k : Nat} (h : k < l.length) (e : p (l.getD k 0) = true) : l.any p = true :=
  List.any_eq_true.2 ⟨l.getD k 0, by simp [List.getD, h], e⟩
end Go.Proofs.Ytafenijbglcppaa

/- The law's great (layer 5). -/
namespace Go.Proofs.Ytafenijbglcppaa
open Go.RowKit Go.Maps Go.Shelf
set_option linter.unusedVariables false
set_option linter.unusedSimpArgs false

/-- A net as it lies in memory: its two lists' values, its literal, its gates. -/
abbrev Nv := Value × Value × Int × List Gt
def dNv : Nv := (undef, undef, 0, [])
end Go.Proofs.Ytafenijbglcppaa

/- The law's bools (layer 5). -/
namespace Go.Proofs.Ytafenijbglcppaa
open Go.RowKit Go.Maps Go.Shelf
set_option linter.unusedVariables false
set_option linter.unusedSimpArgs false

/-- A list of bools in memory. -/
def IsBs (w : World) (v : Value) (l : List Bool) : Prop := ∃ a c, v = .slice a l.length c ∧ l.length ≤ 17592186044416 ∧ ∀ k, k < l.length → ∃ g, a = some ⟨g, 0, none⟩ ∧ w.cell? ⟨g, k, none⟩ = some (.bool (l.getD k false))
theorem OwnB.bs {w : World} {B : Nat} {v : Value} {l : List Bool} (h : OwnB w B v l) (hl : l.length ≤ 17592186044416) : IsBs w v l := by
  rcases h.2 with ⟨rfl, h2⟩ | ⟨g, cap, cur, rfl, rest⟩
  · have e : l = [] := List.eq_nil_of_length_eq_zero h2
    subst e
    exact ⟨none, 0, rfl, hl, fun k hk => absurd hk (by simp)⟩
  · exact ⟨_, cap, rfl, hl, fun k hk => ⟨g, rfl, h.cell k hk⟩⟩
theorem IsBs.below {w w' : World} {B : Nat} {v : Value} {l : List Bool} (h : IsBs w v l) (hlt : ∀ g, v.ownBlock = some g → g < w.heap.size) (hb : Below w.heap.size w w') : IsBs w' v l := by
  obtain ⟨a, c, rfl, hl, hc⟩ := h
  refine ⟨a, c, rfl, hl, fun k hk => ?_⟩
  obtain ⟨g, rfl, hg⟩ := hc k hk
  exact ⟨g, rfl, (hb.cell (p := ⟨g, k, none⟩) (hlt g rfl)).trans hg⟩

end Go.Proofs.Ytafenijbglcppaa
