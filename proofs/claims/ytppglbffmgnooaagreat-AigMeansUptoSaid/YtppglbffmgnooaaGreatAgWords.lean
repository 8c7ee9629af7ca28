/- Words of 64 bits: rows of them, and what their lowest bits tell. -/
import Derived.Test.YtppglbffmgnooaaGreatAgEvalP
import Derived.Test.YtppglbffmgnooaaGreatA02
import Derived.Test.YtppglbffmgnooaaGreatCxMk0
namespace Go.Proofs.YtppglbffmgnooaaGreat
open Go.RowKit Go.Maps Go.Shelf
set_option linter.unusedVariables false
set_option linter.unusedSimpArgs false

def W64 (x : Int) : Prop := 0 ≤ x ∧ x < 18446744073709551616
theorem and_par {x y : Int} (hx : W64 x) (hy : W64 y) : W64 (bits .and .u64 x y) ∧ (bits .and .u64 x y % 2 = 1 ↔ x % 2 = 1 ∧ y % 2 = 1) := by
  obtain ⟨n, rfl⟩ := Int.eq_ofNat_of_zero_le hx.1
  obtain ⟨m, rfl⟩ := Int.eq_ofNat_of_zero_le hy.1
  have hn := hx.2
  have hm := hy.2
  have hle : n &&& m ≤ n := Nat.and_le_left
  have e : bits .and .u64 (n : Int) (m : Int) = ((n &&& m : Nat) : Int) := by
    show IntKind.u64.wrap ((BitVec.ofInt 64 (n : Int) &&& BitVec.ofInt 64 (m : Int)).toNat : Int) = _
    rw [BitVec.toNat_and, ofInt_u64 n (by omega), ofInt_u64 m (by omega), IntKind.wrap_u64]
    omega
  rw [e]
  have h2 : (n &&& m) % 2 = 1 ↔ n % 2 = 1 ∧ m % 2 = 1 := Nat.and_mod_two_eq_one
  exact ⟨⟨by omega, by omega⟩, by omega⟩
theorem not_par {x : Int} (hx : W64 x) : W64 (bits .xor .u64 18446744073709551615 x) ∧ (bits .xor .u64 18446744073709551615 x % 2 = 1 ↔ ¬ x % 2 = 1) := by
  obtain ⟨n, rfl⟩ := Int.eq_ofNat_of_zero_le hx.1
  have hn := hx.2
  have hlt : 18446744073709551615 ^^^ n < 2 ^ 64 := Nat.xor_lt_two_pow (by decide) (by omega)
  have e : bits .xor .u64 18446744073709551615 (n : Int) = ((18446744073709551615 ^^^ n : Nat) : Int) := by
    show IntKind.u64.wrap ((BitVec.ofInt 64 ((18446744073709551615 : Nat) : Int) ^^^ BitVec.ofInt 64 (n : Int)).toNat : Int) = _
    rw [BitVec.toNat_xor, ofInt_u64 _ (by omega), ofInt_u64 n (by omega), IntKind.wrap_u64]
    omega
  rw [e]
  have h2 : (18446744073709551615 ^^^ n) % 2 = 1 ↔ ¬ ((18446744073709551615 % 2 = 1) ↔ (n % 2 = 1)) := Nat.xor_mod_two_eq_one
  exact ⟨⟨by omega, by omega⟩, by omega⟩
abbrev OwnU (w : World) (B : Nat) (v : Value) (xs : List Int) : Prop := w.ownsRow B 130 1 v xs.length (xs.map (Value.int .u64))
theorem info_u64 : (Tryz.prog.info? 130).map (fun i => (i.zero, i.size, i.bytes)) = some (some (.int .u64 0), 1, 8) := by kernel_rfl
theorem wpList_mkWords {w : World} {ops : Array Oper} {rest : List Oper} {o : Oper} {a : Act} {Q : Exit → Act → World → Prop} (hgd : o.guard = none) (l c : Operand)
    (hop : o.op = Op.makeSlice 128 l c) (n : Nat) (L C : Int) (hl : a.eval l = .int .i64 L) (hc : a.eval c = .int .i64 C) (hL : L = n) (hC : C = n) (hn : n ≤ 17592186044416)
    (h : ∀ w', OwnU w' w.heap.size (.slice (some ⟨w.heap.size, 0, none⟩) n n) (List.replicate n 0) → w.grownBy w' none → wpList Tryz.prog ops Q rest (a.put o.dst (.slice (some ⟨w.heap.size, 0, none⟩) n n)) w') : wpList Tryz.prog ops Q (o :: rest) a w := by
  obtain ⟨i0, hi, hz0, hz1, hz2⟩ := info_parts info_u64
  refine wpList_make_full _ hgd l c 128 hop w.heap.size 130 i0 (.int .u64 0) 1 Tryz.underlying128 hi hz0 hz1 _ _ _ _ n (by rw [hl, hL]) (by rw [hc, hC]) rfl rfl (by rw [hz2]; omega) (by unfold maxLen; omega) (Nat.le_refl _) ?_
  intro w1 hown hg
  refine h w1 ?_ hg
  unfold OwnU
  simp only [List.length_replicate]
  have e : (madeCells (Value.int .u64 0).cells (n * 1)).toList = (List.replicate n 0).map (Value.int .u64) := by
    rw [Nat.mul_one, show (Value.int .u64 0).cells = #[.int .u64 0] from rfl, toList_madeCells_one]; simp
  rw [e] at hown
  exact hown
theorem OwnU.len {w : World} {B g n cap : Nat} {xs : List Int} (h : OwnU w B (.slice (some ⟨g, 0, none⟩) n cap) xs) : n = xs.length := by
  rcases h.2 with ⟨e, _⟩ | ⟨g', cap', cur, e, _⟩
  · cases e
  · injection e
theorem OwnU.cell {w : World} {B g n cap : Nat} {xs : List Int} (h : OwnU w B (.slice (some ⟨g, 0, none⟩) n cap) xs) (j : Nat) (hj : j < xs.length) : w.cell? ⟨g, j, none⟩ = some (.int .u64 (xs.getD j 0)) := by
  obtain rfl := h.len
  rw [World.ownsRow.cellAt (show w.ownsRow B 130 1 _ xs.length (xs.map (Value.int .u64)) from h) j (by omega)]
  simp [hj, List.getD]
theorem OwnU.frozen {w : World} {B g n cap : Nat} {xs : List Int} (h : OwnU w B (.slice (some ⟨g, 0, none⟩) n cap) xs) (j : Nat) : w.frozen? ⟨g, j, none⟩ = false := by
  obtain rfl := h.len
  exact World.ownsRow.frozenAt (show w.ownsRow B 130 1 _ xs.length (xs.map (Value.int .u64)) from h) j
theorem OwnU.store {w : World} {B g n cap : Nat} {xs : List Int} (h : OwnU w B (.slice (some ⟨g, 0, none⟩) n cap) xs) (j : Nat) (y : Int) : OwnU (w.setCell ⟨g, j, none⟩ (.int .u64 y)) B (.slice (some ⟨g, 0, none⟩) n cap) (xs.set j y) := by
  obtain rfl := h.len
  have := (World.ownsRow.stored (show w.ownsRow B 130 1 _ xs.length (xs.map (Value.int .u64)) from h) j (.int .u64 y)).1
  unfold OwnU
  rw [List.length_set, List.map_set]
  exact this
theorem OwnU.lt1 {w : World} {B g n cap : Nat} {xs : List Int} (h : OwnU w B (.slice (some ⟨g, 0, none⟩) n cap) xs) : g < w.heap.size := (World.ownsRow.lt h g rfl).2
theorem ownU_below {w w' : World} {B C : Nat} {v : Value} {xs : List Int} (h : OwnU w B v xs) (hb : Below C w w') (hC : w.heap.size ≤ C) : OwnU w' B v xs := by
  refine ⟨h.1, ?_⟩
  rcases h.2 with hn | ⟨g, cap, cur, hv, hB, hg, rest⟩
  · exact .inl hn
  · exact .inr ⟨g, cap, cur, hv, hB, (hb.block g (Nat.lt_of_lt_of_le (Array.getElem?_eq_some_iff.1 hg).1 hC)).trans hg, rest⟩
theorem ownU_kept {w w' : World} {B : Nat} {v : Value} {xs : List Int} {S : Nat → Prop} (h : OwnU w B v xs) (hk : Kept S w w') (hS : ∀ g, v.ownBlock = some g → ¬ S g) : OwnU w' B v xs := hk.row h hS

/-- The lowest bits of words are the values of nodes. -/
def Par (t : List Bool) (xs : List Int) : Prop := xs.length = t.length ∧ ∀ i, i < t.length → W64 (xs.getD i 0) ∧ (xs.getD i 0 % 2 = 1 ↔ t.getD i false = true)
theorem Par.zero (n : Nat) : Par (List.replicate n false) (List.replicate n 0) := ⟨by simp, fun i hi => by
  have hi : i < n := by simpa using hi
  simp [List.getD, hi, W64]⟩
theorem Par.set {t : List Bool} {xs : List Int} (h : Par t xs) (j : Nat) {y : Int} {b : Bool} (hy : W64 y) (hb : y % 2 = 1 ↔ b = true) : Par (t.set j b) (xs.set j y) := by
  refine ⟨by simp [h.1], fun i hi => ?_⟩
  rw [List.length_set] at hi
  have hx : i < xs.length := by rw [h.1]; exact hi
  by_cases e : j = i
  · subst e
    have e1 : (xs.set j y).getD j 0 = y := by simp only [List.getD]; rw [List.getElem?_set_self hx]; rfl
    have e2 : (t.set j b).getD j false = b := by simp only [List.getD]; rw [List.getElem?_set_self hi]; rfl
    rw [e1, e2]
    exact ⟨hy, hb⟩
  · have e1 : (xs.set j y).getD i 0 = xs.getD i 0 := by simp only [List.getD]; rw [List.getElem?_set_ne e]
    have e2 : (t.set j b).getD i false = t.getD i false := by simp only [List.getD]; rw [List.getElem?_set_ne e]
    rw [e1, e2]
    exact h.2 i hi
/-- A row of words in the block b, whose lowest bits are t. -/
def WordsAt (w : World) (B b n : Nat) (t : List Bool) : Prop := ∃ xs, OwnU w B (.slice (some ⟨b, 0, none⟩) n n) xs ∧ Par t xs
theorem WordsAt.at {w : World} {B b n : Nat} {t : List Bool} (h : WordsAt w B b n t) : t.length = n ∧ ∀ i, i < n → ∃ x, w.cell? ⟨b, i, none⟩ = some (.int .u64 x) ∧ W64 x ∧ (x % 2 = 1 ↔ t.getD i false = true) := by
  obtain ⟨xs, ho, hp⟩ := h
  have hl := ho.len
  exact ⟨by rw [hl, hp.1], fun i hi => ⟨_, ho.cell i (by omega), hp.2 i (by have := hp.1; omega)⟩⟩
theorem WordsAt.frozen {w : World} {B b n : Nat} {t : List Bool} (h : WordsAt w B b n t) (j : Nat) : w.frozen? ⟨b, j, none⟩ = false := by obtain ⟨xs, ho, hp⟩ := h; exact ho.frozen j
theorem WordsAt.store {w : World} {B b n : Nat} {t : List Bool} (h : WordsAt w B b n t) (j : Nat) {y : Int} {c : Bool} (hy : W64 y) (hb : y % 2 = 1 ↔ c = true) : WordsAt (w.setCell ⟨b, j, none⟩ (.int .u64 y)) B b n (t.set j c) := by
  obtain ⟨xs, ho, hp⟩ := h
  exact ⟨_, ho.store j y, hp.set j hy hb⟩
theorem WordsAt.below {w w' : World} {B b n C : Nat} {t : List Bool} (h : WordsAt w B b n t) (hb : Below C w w') (hC : w.heap.size ≤ C) : WordsAt w' B b n t := by
  obtain ⟨xs, ho, hp⟩ := h
  exact ⟨xs, ownU_below ho hb hC, hp⟩
theorem WordsAt.lt {w : World} {B b n : Nat} {t : List Bool} (h : WordsAt w B b n t) : B ≤ b ∧ b < w.heap.size := by
  obtain ⟨xs, ho, hp⟩ := h
  exact World.ownsRow.lt ho b rfl
end Go.Proofs.YtppglbffmgnooaaGreat
