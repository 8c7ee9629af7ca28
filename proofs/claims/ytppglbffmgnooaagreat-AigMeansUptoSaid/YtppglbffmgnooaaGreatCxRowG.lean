/- Rows of gates that the call makes, whose lists are its own or lay there before. -/
import Derived.Test.YtppglbffmgnooaaGreatK06
import Derived.Test.YtppglbffmgnooaaGreatK03
namespace Go.Proofs.YtppglbffmgnooaaGreat
open Go.RowKit
set_option linter.unusedVariables false
set_option linter.unusedSimpArgs false

abbrev Tg := Int × Int × Value × List Int
abbrev dT : Tg := (0, 0, .slice none 0 0, [])
def cellsG (t : List Tg) : List Value := t.flatMap (fun x => [.int .i64 x.1, .int .u8 x.2.1, x.2.2.1])
def shapeG (t : List Tg) : List Gt := t.map (fun x => (x.1, x.2.1, x.2.2.2))
theorem cellsG_app (t s : List Tg) : cellsG (t ++ s) = cellsG t ++ cellsG s := by simp [cellsG]
theorem cellsG_at (t : List Tg) (j : Nat) (hj : j < t.length) : (cellsG t)[j * 3]? = some (.int .i64 (t.getD j dT).1) ∧ (cellsG t)[j * 3 + 1]? = some (.int .u8 (t.getD j dT).2.1) ∧ (cellsG t)[j * 3 + 2]? = some (t.getD j dT).2.2.1 := by
  induction t generalizing j with
  | nil => simp at hj
  | cons x r ih =>
    have e : cellsG (x :: r) = .int .i64 x.1 :: .int .u8 x.2.1 :: x.2.2.1 :: cellsG r := by simp [cellsG]
    rw [e]
    cases j with
    | zero => simp
    | succ j =>
      have := ih j (by simpa using hj)
      rw [show (j + 1) * 3 = j * 3 + 1 + 1 + 1 from by omega]
      simpa using this
theorem shapeG_app (t s : List Tg) : shapeG (t ++ s) = shapeG t ++ shapeG s := by simp [shapeG]
theorem shapeG_len (t : List Tg) : (shapeG t).length = t.length := by simp [shapeG]
/-- What a gate's numbers are bounded by. -/
def gBd (g : Gt) : Prop := (-9223372036854775808 ≤ g.1 ∧ g.1 ≤ 9223372036854775807) ∧ (0 ≤ g.2.1 ∧ g.2.1 ≤ 255) ∧ g.2.2.length ≤ 17592186044416 ∧ In64 g.2.2
structure RowG (w0 w : World) (B : Nat) (v : Value) (t : List Tg) : Prop where
  below : Below w0.heap.size w0 w
  base : w0.heap.size ≤ B
  row : w.ownsRow B 101 3 v t.length (cellsG t)
  elems : ∀ x ∈ t, ElemB w0 w B x.2.2.1 x.2.2.2
  bd : ∀ g ∈ shapeG t, gBd g
theorem info_gate : (Tryz.prog.info? 101).map (fun i => (i.zero, i.size, i.bytes)) = some (some (.agg #[.int .i64 0, .int .u8 0, .slice none 0 0]), 3, 40) := by kernel_rfl
theorem RowG.nil {w0 w : World} {B : Nat} (hb : Below w0.heap.size w0 w) (hB : w0.heap.size ≤ B) : RowG w0 w B (.slice none 0 0) [] := ⟨hb, hB, World.ownsRow_nil _ _ _ _, by simp, by simp [shapeG]⟩
theorem rowG_lt {w : World} {B n : Nat} {e : TypeId} {v : Value} {xs : List Value} (h : w.ownsRow B e 3 v n xs) : ∀ g, v.ownBlock = some g → B ≤ g ∧ g < w.heap.size := fun g hg => by
  rcases h.2 with ⟨rfl, _⟩ | ⟨g1, cap, cur, rfl, hB, hg1, _⟩
  · cases hg
  · have : g1 = g := by simpa [Value.ownBlock] using hg
    subst this
    exact ⟨hB, (Array.getElem?_eq_some_iff.1 hg1).1⟩
/-- A row of gates is no row of integers. -/
theorem rowG_ne {w : World} {B B' n : Nat} {v u : Value} {xs : List Value} {l : List Int} (h : w.ownsRow B 101 3 v n xs) (k : Own w B' u l) : ∀ g, u.ownBlock = some g → v.ownBlock ≠ some g := by
  intro g hg hv
  rcases h.2 with ⟨rfl, _⟩ | ⟨g1, cap, cur, rfl, _, hg1, _⟩
  · cases hv
  · rcases k.2 with ⟨rfl, _⟩ | ⟨g2, cap2, cur2, rfl, _, hg2, _⟩
    · cases hg
    · have e1 : g1 = g := by simpa [Value.ownBlock] using hv
      have e2 : g2 = g := by simpa [Value.ownBlock] using hg
      subst e1; subst e2
      rw [hg1] at hg2
      simp only [Option.some.injEq, Obj.cells.injEq] at hg2
      exact absurd hg2.2.1 (by decide)
theorem RowG.below' {w0 w w' : World} {B C : Nat} {v : Value} {t : List Tg} (h : RowG w0 w B v t) (hb : Below C w w') (hC : w.heap.size ≤ C) : RowG w0 w' B v t := by
  refine ⟨h.below.trans (hb.mono (Nat.le_trans h.below.size hC)), h.base, ⟨h.row.1, ?_⟩, fun x hx => (h.elems x hx).below hb hC, h.bd⟩
  rcases h.row.2 with hn | ⟨g, cap, cur, hv, hB, hg, rest⟩
  · exact .inl hn
  · have hlt : g < w.heap.size := (Array.getElem?_eq_some_iff.1 hg).1
    exact .inr ⟨g, cap, cur, hv, hB, by rw [hb.block g (by omega)]; exact hg, rest⟩
theorem RowG.keptS {w0 w w' : World} {B : Nat} {S : Nat → Prop} {v : Value} {t : List Tg} (h : RowG w0 w B v t) (k : Kept S w w') (hS : ∀ g, B ≤ g → ¬ S g) (hS0 : ∀ g, g < w0.heap.size → ¬ S g) : RowG w0 w' B v t :=
  ⟨h.below.trans (k.below h.below.size (fun i hi => hS0 i hi)), h.base, k.row h.row (fun g hg => hS g (rowG_lt h.row g hg).1), fun x hx => (h.elems x hx).elim (fun e => .inl (k.row e (fun g hg => hS g (e.lt g hg).1))) .inr, h.bd⟩
theorem RowG.shape {w0 w : World} {B : Nat} {v : Value} {t : List Tg} (h : RowG w0 w B v t) : ∃ a cap, v = .slice a t.length cap := by
  rcases h.row.2 with ⟨rfl, h2⟩ | ⟨g, cap, cur, rfl, _⟩
  · exact ⟨none, 0, by rw [h2]⟩
  · exact ⟨_, _, rfl⟩
theorem RowG.mono {w0 w : World} {B B' : Nat} {v : Value} {t : List Tg} (h : RowG w0 w B v t) (hB : B' ≤ B) (h0 : w0.heap.size ≤ B') : RowG w0 w B' v t := by
  refine ⟨h.below, h0, ⟨h.row.1, ?_⟩, fun x hx => (h.elems x hx).elim (fun e => .inl (e.mono hB)) .inr, h.bd⟩
  rcases h.row.2 with hn | ⟨g, cap, cur, hv, hb, rest⟩
  · exact .inl hn
  · exact .inr ⟨g, cap, cur, hv, Nat.le_trans hB hb, rest⟩
theorem IsGates.bd {w : World} {v : Value} {l : List Gt} (h : IsGates w v l) : ∀ g ∈ l, gBd g := by
  intro g hg
  obtain ⟨a, cap, rfl, _⟩ := h.shape
  obtain ⟨j, hj, rfl⟩ := List.mem_iff_getElem.1 hg
  obtain ⟨b, off, u, _, _, _, _, _, hu, hr⟩ := h.at hj
  have e : l.getD j dG = l[j] := by simp [List.getD, hj]
  rw [e] at hu hr
  obtain ⟨_, _, _, _, _, h1, h2, _⟩ := hu
  exact ⟨hr.1, hr.2, h1, h2⟩
/-- More gates behind. -/
theorem RowG.more {w0 w w1 w2 : World} {B : Nat} {v v' : Value} {t s : List Tg} (h : RowG w0 w B v t) (hBw : B ≤ w.heap.size) (hb : Below w.heap.size w w1) (hs : ∀ x ∈ s, ElemB w0 w1 B x.2.2.1 x.2.2.2) (hsb : ∀ g ∈ shapeG s, gBd g)
    (hrow : w2.ownsRow B 101 3 v' (t ++ s).length (cellsG (t ++ s))) (hg : w1.grownBy w2 v.ownBlock) : RowG w0 w2 B v' (t ++ s) := by
  have h1 := h.below' hb (Nat.le_refl _)
  refine ⟨h1.below.grown hg h1.below.size (fun g hg' => Nat.le_trans h.base (rowG_lt h1.row g hg').1), h.base, hrow, fun x hx => ?_, fun g hg => ?_⟩
  · have key : ElemB w0 w1 B x.2.2.1 x.2.2.2 := by
      rcases List.mem_append.1 hx with hx | hx
      · exact h1.elems x hx
      · exact hs x hx
    rcases key with k | k
    · refine .inl (k.kept hg ?_)
      cases hk : x.2.2.1.ownBlock with
      | none => exact .inl rfl
      | some g => exact .inr (fun e => rowG_ne h1.row k g hk e.symm)
    · exact .inr k
  · rw [shapeG_app] at hg
    rcases List.mem_append.1 hg with hg | hg
    · exact h.bd g hg
    · exact hsb g hg
theorem shapeG_getD {t : List Tg} {j : Nat} (hj : j < t.length) : (shapeG t).getD j dG = ((t.getD j dT).1, (t.getD j dT).2.1, (t.getD j dT).2.2.2) := by
  unfold shapeG
  simp [List.getD, hj]
theorem RowG.gates {w0 w : World} {B : Nat} {v : Value} {t : List Tg} (h : RowG w0 w B v t) (hl : t.length ≤ 17592186044416) : IsGates w v (shapeG t) := by
  have hmem : ∀ j, j < t.length → t.getD j dT ∈ t := fun j hj => by simp [List.getD, hj]
  have hbd : ∀ x ∈ t, gBd (x.1, x.2.1, x.2.2.2) := fun x hx => h.bd _ (List.mem_map_of_mem (f := fun x : Tg => (x.1, x.2.1, x.2.2.2)) hx)
  rcases h.row.2 with ⟨rfl, h2⟩ | ⟨g, cap, cur, rfl, hB, hg, hnc, hcm, hcs, htk⟩
  · have : t = [] := List.eq_nil_of_length_eq_zero h2
    subst this
    exact IsGates.nil _
  · have hlt : g < w.heap.size := (Array.getElem?_eq_some_iff.1 hg).1
    unfold maxLen at hcm
    refine ⟨_, cap, by rw [shapeG_len], ⟨by rw [shapeG_len]; exact hnc, fun h => by cases h⟩, hcm, by rw [shapeG_len]; exact hl, fun y hy => ⟨(h.bd y hy).1, (h.bd y hy).2.1⟩, g, 0, fun _ => ⟨rfl, hlt⟩, fun j hj => ?_⟩
    rw [shapeG_len] at hj
    have at' : ∀ i, i < t.length * 3 → w.cell? ⟨g, i, none⟩ = (cellsG t)[i]? := fun i hi => by
      simp only [World.cell?, hg]
      rw [← htk, List.getElem?_take, if_pos hi]
      simp
    obtain ⟨e1, e2, e3⟩ := cellsG_at t j hj
    simp only [Nat.zero_add]
    rw [at' _ (by omega), at' _ (by omega), at' _ (by omega), shapeG_getD hj]
    refine ⟨e1, e2, _, e3, ?_⟩
    have hb := hbd _ (hmem j hj)
    rcases h.elems _ (hmem j hj) with k | k
    · exact k.ints hb.2.2.1 hb.2.2.2
    · exact k.below h.below (Nat.le_refl _)

theorem row3_mono {w : World} {B B' n : Nat} {e : TypeId} {v : Value} {xs : List Value} (h : w.ownsRow B e 3 v n xs) (hB : B' ≤ B) : w.ownsRow B' e 3 v n xs := by
  refine ⟨h.1, ?_⟩
  rcases h.2 with hn | ⟨g, cap, cur, hv, hb, rest⟩
  · exact .inl hn
  · exact .inr ⟨g, cap, cur, hv, Nat.le_trans hB hb, rest⟩
theorem row3_below {w w' : World} {B C n : Nat} {e : TypeId} {v : Value} {xs : List Value} (h : w.ownsRow B e 3 v n xs) (hb : Below C w w') (hC : w.heap.size ≤ C) : w'.ownsRow B e 3 v n xs := by
  refine ⟨h.1, ?_⟩
  rcases h.2 with hn | ⟨g, cap, cur, hv, hB, hg, rest⟩
  · exact .inl hn
  · have hlt : g < w.heap.size := (Array.getElem?_eq_some_iff.1 hg).1
    exact .inr ⟨g, cap, cur, hv, hB, by rw [hb.block g (by omega)]; exact hg, rest⟩
/-- The cells of gate j. -/
theorem RowG.at {w0 w : World} {B : Nat} {a : Option Addr} {n cap : Nat} {t : List Tg} (h : RowG w0 w B (.slice a n cap) t) {j : Nat} (hj : j < t.length) : ∃ g, a = some ⟨g, 0, none⟩ ∧ B ≤ g ∧ g < w.heap.size ∧
    w.cell? ⟨g, j * 3, none⟩ = some (.int .i64 (t.getD j dT).1) ∧ w.cell? ⟨g, j * 3 + 1, none⟩ = some (.int .u8 (t.getD j dT).2.1) ∧ w.cell? ⟨g, j * 3 + 2, none⟩ = some (t.getD j dT).2.2.1 := by
  rcases h.row.2 with ⟨e, h2⟩ | ⟨g, cap, cur, e, hB, hg, hnc, hcm, hcs, htk⟩
  · omega
  · injection e with e1 e2 e3
    subst e1
    have hlt : g < w.heap.size := (Array.getElem?_eq_some_iff.1 hg).1
    have at' : ∀ i, i < t.length * 3 → w.cell? ⟨g, i, none⟩ = (cellsG t)[i]? := fun i hi => by
      simp only [World.cell?, hg]
      rw [← htk, List.getElem?_take, if_pos hi]
      simp
    obtain ⟨e1, e2, e3⟩ := cellsG_at t j hj
    refine ⟨g, rfl, hB, hlt, ?_, ?_, ?_⟩
    · rw [at' _ (by omega)]; exact e1
    · rw [at' _ (by omega)]; exact e2
    · rw [at' _ (by omega)]; exact e3
end Go.Proofs.YtppglbffmgnooaaGreat
