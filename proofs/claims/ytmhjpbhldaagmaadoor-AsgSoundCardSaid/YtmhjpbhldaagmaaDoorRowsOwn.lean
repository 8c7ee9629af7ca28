/- Rows of slices that a call owns. -/
import Derived.Test.YtmhjpbhldaagmaaDoorMgA
import Derived.Test.YtmhjpbhldaagmaaDoorMgR
namespace Go.Proofs.YtmhjpbhldaagmaaDoor
open Go.RowKit
set_option linter.unusedVariables false

/-- The slice owns its row, which holds these slices of integers; its block's number is B at least. -/
def OwnR (w : World) (B : Nat) (v : Value) (us : List Value) : Prop := w.ownsRow B 23 1 v us.length us

theorem info_ints : (Tryd.prog.info? 23).map (fun i => (i.zero, i.size, i.bytes)) = some (some (.slice none 0 0), 1, 24) := by kernel_rfl

theorem OwnR.nil (w : World) (B : Nat) : OwnR w B (.slice none 0 0) [] := World.ownsRow_nil _ _ _ _
theorem OwnR.alloc {w : World} {B : Nat} {v : Value} {xs : List Value} (h : OwnR w B v xs) (o : Obj) : OwnR (w.alloc o) B v xs := World.ownsRow.alloc h o
theorem OwnR.drewN {w : World} {B : Nat} {v : Value} {xs : List Value} (h : OwnR w B v xs) (n : Nat) : OwnR (w.drewN n) B v xs := h
theorem OwnR.quiet {w w' : World} {B : Nat} {v : Value} {xs : List Value} (h : OwnR w B v xs) (hq : Quiet w w') : OwnR w' B v xs := by obtain ⟨m, rfl⟩ := hq; exact h
theorem OwnR.mono {w : World} {B B' : Nat} {v : Value} {xs : List Value} (h : OwnR w B v xs) (hB : B' ≤ B) : OwnR w B' v xs := by
  refine ⟨h.1, ?_⟩
  rcases h.2 with hn | ⟨g, cap, cur, hv, hb, rest⟩
  · exact .inl hn
  · exact .inr ⟨g, cap, cur, hv, Nat.le_trans hB hb, rest⟩
theorem OwnR.below {w w' : World} {B C : Nat} {v : Value} {xs : List Value} (h : OwnR w B v xs) (hb : Below C w w') (hC : w.heap.size ≤ C) : OwnR w' B v xs := by
  refine ⟨h.1, ?_⟩
  rcases h.2 with hn | ⟨g, cap, cur, hv, hB, hg, rest⟩
  · exact .inl hn
  · have hlt : g < w.heap.size := (Array.getElem?_eq_some_iff.1 hg).1
    exact .inr ⟨g, cap, cur, hv, hB, by rw [hb.block g (by omega)]; exact hg, rest⟩
theorem OwnR.kept {w w' : World} {B : Nat} {v : Value} {xs : List Value} {row : Option Nat} (h : OwnR w B v xs) (hg : w.grownBy w' row) (hne : v.ownBlock = none ∨ v.ownBlock ≠ row) : OwnR w' B v xs := World.ownsRow.kept h hg hne
theorem OwnR.lt {w : World} {B : Nat} {v : Value} {xs : List Value} (h : OwnR w B v xs) : ∀ k, v.ownBlock = some k → B ≤ k ∧ k < w.heap.size := World.ownsRow.lt h
theorem belowR {w w1 w2 : World} {B : Nat} {v : Value} {xs : List Value} (hb : Below B w w1) (hown : OwnR w1 B v xs) (hB : B ≤ w1.heap.size) (hg : w1.grownBy w2 v.ownBlock) : Below B w w2 :=
  hb.grown hg hB (fun k hk => (hown.lt k hk).1)

/-- The values are slices of these integers. -/
def RowsAre (w : World) (us : List Value) (ls : List (List Int)) : Prop := us.length = ls.length ∧ ∀ j, j < ls.length → IsInts w (us.getD j (.slice none 0 0)) (ls.getD j [])
theorem RowsAre.nil (w : World) : RowsAre w [] [] := ⟨rfl, fun j h => absurd h (Nat.not_lt_zero _)⟩
theorem RowsAre.below {w w' : World} {B : Nat} {us : List Value} {ls : List (List Int)} (h : RowsAre w us ls) (hb : Below B w w') (hB : w.heap.size ≤ B) : RowsAre w' us ls := ⟨h.1, fun j hj => (h.2 j hj).below hb hB⟩
theorem RowsAre.snoc {w : World} {us : List Value} {ls : List (List Int)} {u : Value} {l : List Int} (h : RowsAre w us ls) (hu : IsInts w u l) : RowsAre w (us ++ [u]) (ls ++ [l]) := by
  refine ⟨by simp [h.1], fun j hj => ?_⟩
  have hlen := h.1
  by_cases hjl : j < ls.length
  · have := h.2 j hjl
    simp only [List.getD] at this ⊢
    rw [List.getElem?_append_left (by omega), List.getElem?_append_left hjl]
    exact this
  · have hje : j = ls.length := by simp at hj; omega
    subst hje
    simp only [List.getD]
    rw [List.getElem?_append_right (by omega), List.getElem?_append_right (by omega)]
    simpa [hlen] using hu
theorem RowsAre.append {w : World} {us vs : List Value} {ls ms : List (List Int)} (h : RowsAre w us ls) (k : RowsAre w vs ms) : RowsAre w (us ++ vs) (ls ++ ms) := by
  refine ⟨by simp [h.1, k.1], fun j hj => ?_⟩
  have hlen := h.1
  by_cases hjl : j < ls.length
  · have := h.2 j hjl
    simp only [List.getD] at this ⊢
    rw [List.getElem?_append_left (by omega), List.getElem?_append_left hjl]
    exact this
  · have := k.2 (j - ls.length) (by simp at hj; omega)
    simp only [List.getD] at this ⊢
    rw [List.getElem?_append_right (by omega), List.getElem?_append_right (by omega), hlen]
    exact this
theorem RowsAre.replicate {w : World} {u : Value} {l : List Int} (hu : IsInts w u l) (n : Nat) : RowsAre w (List.replicate n u) (List.replicate n l) := by
  induction n with
  | zero => exact RowsAre.nil w
  | succ n ih =>
    rw [List.replicate_succ', List.replicate_succ']
    exact ih.snoc hu

theorem OwnR.rows {w : World} {B : Nat} {v : Value} {us : List Value} {ls : List (List Int)} (h : OwnR w B v us) (hr : RowsAre w us ls) (hl : ls.length ≤ 17592186044416) : IsRows w v ls := by
  have h0 : w.ownsRow B 23 1 v us.length us := h
  have hlen := hr.1
  rcases h.2 with ⟨rfl, h2⟩ | ⟨g, cap, cur, rfl, hB, hg, hnc, hcm, _, _⟩
  · have : ls = [] := List.eq_nil_of_length_eq_zero (by omega)
    subst this
    exact IsRows.nil w
  · have hlt : g < w.heap.size := (Array.getElem?_eq_some_iff.1 hg).1
    unfold maxLen at hcm
    refine ⟨_, cap, by rw [hlen], ⟨by omega, fun e => by cases e⟩, hcm, hl, g, 0, fun _ => ⟨rfl, hlt⟩, fun j hj => ⟨_, ?_, hr.2 j hj⟩⟩
    rw [Nat.zero_add, World.ownsRow.cellAt h0 j (by omega)]
    have : j < us.length := by omega
    simp [this, List.getD]

/-- 'make([][]int, n)'. -/
theorem wpList_mkRows {w : World} {ops : Array Oper} {rest : List Oper} {o : Oper} {a : Act} {Q : Exit → Act → World → Prop} (hgd : o.guard = none) (l c : Operand)
    (hop : o.op = Op.makeSlice 22 l c) (n : Nat) (hl : a.eval l = .int .i64 (n : Int)) (hc : a.eval c = .int .i64 (n : Int)) (hn : n ≤ 1000000000000)
    (h : ∀ w', OwnR w' w.heap.size (.slice (some ⟨w.heap.size, 0, none⟩) n n) (List.replicate n (.slice none 0 0)) → w.grownBy w' none → wpList Tryd.prog ops Q rest (a.put o.dst (.slice (some ⟨w.heap.size, 0, none⟩) n n)) w') : wpList Tryd.prog ops Q (o :: rest) a w := by
  obtain ⟨i0, hi, hz0, hz1, hz2⟩ := info_parts info_ints
  refine wpList_make_full _ hgd l c 22 hop w.heap.size 23 i0 (.slice none 0 0) 1 Tryd.underlying22 hi hz0 hz1 _ _ _ _ n hl hc rfl rfl (by rw [hz2]; omega) (by unfold maxLen; omega) (Nat.le_refl _) ?_
  intro w1 hown hg
  refine h w1 ?_ hg
  unfold OwnR
  simp only [List.length_replicate]
  have e : (madeCells (Value.slice none 0 0).cells (n * 1)).toList = List.replicate n (Value.slice none 0 0) := by
    rw [Nat.mul_one, show (Value.slice none 0 0).cells = #[.slice none 0 0] from rfl, toList_madeCells_one]
  rw [e] at hown
  exact hown

/-- 'append(s, y)': y lies in a new block. -/
theorem wpList_appR1 {w : World} {ops : Array Oper} {rest : List Oper} {o : Oper} {a : Act} {Q : Exit → Act → World → Prop} (hgd : o.guard = none) (s x : Operand)
    (ho : o.op = .call { callee := .builtin .append, args := #[s, x], argTypes := #[22, 22] }) (B : Nat) (v : Value) (us : List Value) (y : Value) (g : Nat)
    (hs : a.eval s = v) (hx : a.eval x = .slice (some ⟨g, 0, none⟩) 1 1) (hown : OwnR w B v us) (hy : w.cell? ⟨g, 0, none⟩ = some y) (hy1 : y.oneCell' = true) (hlen : us.length < 1000000000000) (hB : B ≤ w.heap.size)
    (h : ∀ v' w', OwnR w' B v' (us ++ [y]) → w.grownBy w' v.ownBlock → wpList Tryd.prog ops Q rest (a.put o.dst v') w') : wpList Tryd.prog ops Q (o :: rest) a w := by
  obtain ⟨i0, hi, hz0, hz1, hz2⟩ := info_parts info_ints
  refine wpList_append_own _ hgd s x 22 ho B 23 i0 (.slice none 0 0) 1 24 Tryd.underlying22 hi hz0 hz1 hz2 rfl (by decide) v us.length _ hs hown ⟨g, 0, none⟩ 1 1 [y] hx (by simp) ?_ (by simp [hy1]) (by unfold maxLen; omega) (by omega) hB ?_
  · intro j u hj
    match j, hj with
    | 0, hj => simp at hj; subst hj; simpa [Addr.add] using hy
  · intro v' w' h1 h2 _
    refine h v' w' ?_ h2
    unfold OwnR
    rw [List.length_append]
    exact h1

/-- 'append(s, x...)', s the call's own, x a row of slices. -/
theorem wpList_appR {w : World} {ops : Array Oper} {rest : List Oper} {o : Oper} {a : Act} {Q : Exit → Act → World → Prop} (hgd : o.guard = none) (s x : Operand)
    (ho : o.op = .call { callee := .builtin .append, args := #[s, x], argTypes := #[22, 22] }) (B : Nat) (v : Value) (us ys : List Value) (ad : Option Addr) (cap : Nat)
    (hs : a.eval s = v) (hx : a.eval x = .slice ad ys.length cap) (hown : OwnR w B v us) (had : ad = none → cap = 0 ∧ ys = [])
    (hc : ∀ p, ad = some p → ∀ j u, ys[j]? = some u → w.cell? (p.add j) = some u) (h1 : ∀ y ∈ ys, y.oneCell' = true) (hlen : us.length + ys.length ≤ 1000000000000) (hB : B ≤ w.heap.size)
    (h : ∀ v' w', OwnR w' B v' (us ++ ys) → w.grownBy w' v.ownBlock → wpList Tryd.prog ops Q rest (a.put o.dst v') w') : wpList Tryd.prog ops Q (o :: rest) a w := by
  obtain ⟨i0, hi, hz0, hz1, hz2⟩ := info_parts info_ints
  cases ad with
  | none =>
    obtain ⟨rfl, rfl⟩ := had rfl
    refine wpList_append_own_none hgd s x 22 ho B 23 i0 1 Tryd.underlying22 hi v us.length _ hs hown (by rw [hx]; rfl) ?_
    have := h v w (by rw [List.append_nil]; exact hown) (World.grownBy.refl _ _)
    exact this
  | some ad =>
    refine wpList_append_own _ hgd s x 22 ho B 23 i0 (.slice none 0 0) 1 24 Tryd.underlying22 hi hz0 hz1 hz2 rfl (by decide) v us.length _ hs hown ad ys.length cap ys hx (by simp) (hc ad rfl) h1 (by unfold maxLen; omega) (by omega) hB ?_
    intro v' w' h1 h2 _
    refine h v' w' ?_ h2
    unfold OwnR
    rw [List.length_append]
    exact h1

theorem OwnR.cell {w : World} {B g n cap : Nat} {xs : List Value} (h : OwnR w B (.slice (some ⟨g, 0, none⟩) n cap) xs) (j : Nat) (hj : j < xs.length) : w.cell? ⟨g, j, none⟩ = some (xs.getD j (.slice none 0 0)) := by
  have hn : n = xs.length := by
    rcases h.2 with ⟨e, _⟩ | ⟨g', cap', cur, e, _⟩
    · cases e
    · injection e
  subst hn
  rw [World.ownsRow.cellAt (show w.ownsRow B 23 1 _ xs.length xs from h) j (by omega)]
  simp [hj, List.getD]
theorem OwnR.frozen {w : World} {B g n cap : Nat} {xs : List Value} (h : OwnR w B (.slice (some ⟨g, 0, none⟩) n cap) xs) (j : Nat) : w.frozen? ⟨g, j, none⟩ = false := by
  have hn : n = xs.length := by
    rcases h.2 with ⟨e, _⟩ | ⟨g', cap', cur, e, _⟩
    · cases e
    · injection e
  subst hn
  exact World.ownsRow.frozenAt (show w.ownsRow B 23 1 _ xs.length xs from h) j
theorem OwnR.store {w : World} {B g n cap : Nat} {xs : List Value} (h : OwnR w B (.slice (some ⟨g, 0, none⟩) n cap) xs) (j : Nat) (y : Value) : OwnR (w.setCell ⟨g, j, none⟩ y) B (.slice (some ⟨g, 0, none⟩) n cap) (xs.set j y) := by
  have hn : n = xs.length := by
    rcases h.2 with ⟨e, _⟩ | ⟨g', cap', cur, e, _⟩
    · cases e
    · injection e
  subst hn
  have := (World.ownsRow.stored (show w.ownsRow B 23 1 _ xs.length xs from h) j y).1
  unfold OwnR
  rw [List.length_set]
  exact this
theorem OwnR.block {w : World} {B g n cap : Nat} {xs : List Value} (h : OwnR w B (.slice (some ⟨g, 0, none⟩) n cap) xs) : B ≤ g ∧ g < w.heap.size := h.lt g rfl

end Go.Proofs.YtmhjpbhldaagmaaDoor
