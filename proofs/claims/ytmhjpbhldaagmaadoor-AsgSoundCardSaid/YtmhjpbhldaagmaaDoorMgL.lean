/- Joined texts: PureSort, SortRows, Sort, RSort, Clone, Zero. -/
import Derived.Test.YtmhjpbhldaagmaaDoorMgC
import Derived.Test.YtmhjpbhldaagmaaDoorMgR
import Derived.Test.YtmhjpbhldaagmaaDoorRowsOwn
import Derived.Test.YtmhjpbhldaagmaaDoorNorm
import Derived.Test.YtmhjpbhldaagmaaDoorEqual
import Derived.Test.YtmhjpbhldaagmaaDoorMgB
/- Sorted lists of lists, without the program. -/
namespace Go.Proofs.YtmhjpbhldaagmaaDoor
open Go.RowKit
set_option linter.unusedVariables false

def lxLt (a b : List Int) : Prop := cmpL a b < 0
instance (a b : List Int) : Decidable (lxLt a b) := by unfold lxLt; infer_instance

theorem cmpL_swap (a b : List Int) : cmpL b a = - cmpL a b := by
  induction a generalizing b with
  | nil => cases b <;> rfl
  | cons x r ih =>
    cases b with
    | nil => rfl
    | cons y s =>
      rw [cmpL, cmpL]
      rcases litLt_tri x y with h | h | h
      · rw [if_neg (litLt_asymm h), if_pos h, if_pos h]; rfl
      · subst h; rw [if_neg (litLt_irrefl x), if_neg (litLt_irrefl x), ih]; simp [litLt_irrefl]
      · rw [if_pos h, if_neg (litLt_asymm h), if_pos h]
theorem cmpL_bd (a b : List Int) : -1 ≤ cmpL a b ∧ cmpL a b ≤ 1 := by
  rw [← cmpB_eq]
  unfold cmpB cmpLen
  have := placesL_bd a b
  have := cmpI_bd (a.length : Int) (b.length : Int)
  split <;> omega
theorem cmpL_zero (a b : List Int) : cmpL a b = 0 ↔ a = b := by
  induction a generalizing b with
  | nil => cases b <;> simp [cmpL]
  | cons x r ih =>
    cases b with
    | nil => simp [cmpL]
    | cons y s =>
      rw [cmpL]
      rcases litLt_tri x y with h | h | h
      · rw [if_pos h]
        constructor
        · intro e; exact absurd e (by decide)
        · intro e; injection e with e1 e2; subst e1; exact absurd h (litLt_irrefl _)
      · subst h; rw [if_neg (litLt_irrefl x), if_neg (litLt_irrefl x), ih]; simp
      · rw [if_neg (litLt_asymm h), if_pos h]
        constructor
        · intro e; exact absurd e (by decide)
        · intro e; injection e with e1 e2; subst e1; exact absurd h (litLt_irrefl _)
theorem lxLt_irrefl (a : List Int) : ¬ lxLt a a := by unfold lxLt; rw [(cmpL_zero a a).2 rfl]; omega
theorem lxLt_trans {a b c : List Int} (h : lxLt a b) (k : lxLt b c) : lxLt a c := by
  unfold lxLt at *
  induction a generalizing b c with
  | nil =>
    cases b with
    | nil => simp [cmpL] at h
    | cons y s =>
      cases c with
      | nil => simp [cmpL] at k
      | cons z t => simp [cmpL]
  | cons x r ih =>
    cases b with
    | nil => simp [cmpL] at h
    | cons y s =>
      cases c with
      | nil => simp [cmpL] at k
      | cons z t =>
        rw [cmpL] at h k ⊢
        rcases litLt_tri x y with h1 | h1 | h1
        · rcases litLt_tri y z with h2 | h2 | h2
          · rw [if_pos (litLt_trans h1 h2)]; omega
          · subst h2; rw [if_pos h1]; omega
          · rw [if_neg (litLt_asymm h2), if_pos h2] at k; omega
        · subst h1
          rw [if_neg (litLt_irrefl x), if_neg (litLt_irrefl x)] at h
          rcases litLt_tri x z with h2 | h2 | h2
          · rw [if_pos h2]; omega
          · subst h2
            rw [if_neg (litLt_irrefl x), if_neg (litLt_irrefl x)] at k ⊢
            exact ih h k
          · rw [if_neg (litLt_asymm h2), if_pos h2] at k; omega
        · rw [if_neg (litLt_asymm h1), if_pos h1] at h; omega
theorem lxLt_tri (a b : List Int) : lxLt a b ∨ a = b ∨ lxLt b a := by
  unfold lxLt
  rw [cmpL_swap a b]
  have := cmpL_zero a b
  rcases Int.lt_trichotomy (cmpL a b) 0 with h | h | h
  · exact .inl h
  · exact .inr (.inl (this.1 h))
  · exact .inr (.inr (by omega))
theorem lxLt_asymm {x y : List Int} (h : lxLt x y) : ¬ lxLt y x := fun k => lxLt_irrefl x (lxLt_trans h k)

def insX : List (List Int) → List Int → List (List Int)
  | [], x => [x]
  | y :: r, x => if lxLt y x then y :: insX r x else if y = x then y :: r else x :: y :: r

theorem insX_lt {l : List (List Int)} {x : List Int} {k : Nat} (h : k < l.length) (hlt : lxLt (l.getD k []) x) : l.take k ++ insX (l.drop k) x = l.take (k + 1) ++ insX (l.drop (k + 1)) x := by
  have e : l.take (k + 1) = l.take k ++ [l.getD k []] := by rw [List.take_succ_eq_append_getElem h]; simp [List.getD, h]
  have e2 : l.drop k = l.getD k [] :: l.drop (k + 1) := by rw [List.drop_eq_getElem_cons h]; simp [List.getD, h]
  rw [e2, insX, if_pos hlt, e, List.append_assoc]; rfl

theorem insX_at {l : List (List Int)} {x : List Int} {k : Nat} (h : k < l.length) (h1 : ¬ lxLt (l.getD k []) x) (h2 : ¬ l.getD k [] = x) : insX (l.drop k) x = x :: l.drop k := by
  have e2 : l.drop k = l.getD k [] :: l.drop (k + 1) := by rw [List.drop_eq_getElem_cons h]; simp [List.getD, h]
  rw [e2, insX, if_neg h1, if_neg h2]
theorem insX_is {l : List (List Int)} {x : List Int} {k : Nat} (h : k < l.length) (h1 : ¬ lxLt (l.getD k []) x) (h2 : l.getD k [] = x) : l.take k ++ insX (l.drop k) x = l := by
  have e2 : l.drop k = l.getD k [] :: l.drop (k + 1) := by rw [List.drop_eq_getElem_cons h]; simp [List.getD, h]
  rw [e2, insX, if_neg h1, if_pos h2, ← e2, List.take_append_drop]

def sortX (l : List (List Int)) : List (List Int) := l.foldl insX []
theorem insX_mem (l : List (List Int)) (x y : List Int) : y ∈ insX l x ↔ y = x ∨ y ∈ l := by
  induction l with
  | nil => simp [insX]
  | cons z r ih =>
    unfold insX
    by_cases h : lxLt z x
    · rw [if_pos h]; simp only [List.mem_cons, ih]
      constructor
      · rintro (h | h | h) <;> simp [h]
      · rintro (h | h | h) <;> simp [h]
    · rw [if_neg h]
      by_cases e : z = x
      · rw [if_pos e]; subst e; simp
      · rw [if_neg e]; simp

theorem insX_sorted {l : List (List Int)} (h : l.Pairwise lxLt) (x : List Int) : (insX l x).Pairwise lxLt := by
  induction l with
  | nil => simp [insX]
  | cons z r ih =>
    rw [List.pairwise_cons] at h
    unfold insX
    by_cases h1 : lxLt z x
    · rw [if_pos h1, List.pairwise_cons]
      refine ⟨fun y hy => ?_, ih h.2⟩
      rcases (insX_mem r x y).1 hy with rfl | hy
      · exact h1
      · exact h.1 y hy
    · rw [if_neg h1]
      by_cases e : z = x
      · rw [if_pos e, List.pairwise_cons]; exact h
      · rw [if_neg e, List.pairwise_cons, List.pairwise_cons]
        have hx : lxLt x z := by rcases lxLt_tri z x with h | h | h; exact absurd h h1; exact absurd h e; exact h
        refine ⟨fun y hy => ?_, h⟩
        rcases List.mem_cons.1 hy with rfl | hy
        · exact hx
        · exact lxLt_trans hx (h.1 y hy)

theorem foldl_insX_sorted (l acc : List (List Int)) (h : acc.Pairwise lxLt) : (l.foldl insX acc).Pairwise lxLt := by
  induction l generalizing acc with
  | nil => exact h
  | cons y r ih => exact ih _ (insX_sorted h y)
theorem foldl_insX_mem (l acc : List (List Int)) (x : List Int) : x ∈ l.foldl insX acc ↔ x ∈ acc ∨ x ∈ l := by
  induction l generalizing acc with
  | nil => simp
  | cons y r ih =>
    rw [List.foldl_cons, ih, insX_mem]; simp only [List.mem_cons]
    constructor
    · rintro ((h | h) | h) <;> simp [h]
    · rintro (h | h | h) <;> simp [h]
theorem sortX_sorted (l : List (List Int)) : (sortX l).Pairwise lxLt := foldl_insX_sorted l [] List.Pairwise.nil
theorem sortX_mem (l : List (List Int)) (x : List Int) : x ∈ sortX l ↔ x ∈ l := by unfold sortX; rw [foldl_insX_mem]; simp

/-- Two lists in strict order with the same elements are one. -/
theorem sortedX_unique {a b : List (List Int)} (ha : a.Pairwise lxLt) (hb : b.Pairwise lxLt) (h : ∀ x, x ∈ a ↔ x ∈ b) : a = b := by
  induction a generalizing b with
  | nil =>
    cases b with
    | nil => rfl
    | cons y s => exact absurd ((h y).2 (by simp)) (by simp)
  | cons x r ih =>
    cases b with
    | nil => exact absurd ((h x).1 (by simp)) (by simp)
    | cons y s =>
      rw [List.pairwise_cons] at ha hb
      have hxy : x = y := by
        rcases List.mem_cons.1 ((h x).1 (by simp)) with e | hx
        · exact e
        · rcases List.mem_cons.1 ((h y).2 (by simp)) with e | hy
          · exact e.symm
          · exact absurd (ha.1 y hy) (lxLt_asymm (hb.1 x hx))
      subst hxy
      have : r = s := by
        apply ih ha.2 hb.2
        intro z
        constructor
        · intro hz
          rcases List.mem_cons.1 ((h z).1 (List.mem_cons_of_mem _ hz)) with e | h'
          · subst e; exact absurd (ha.1 _ hz) (lxLt_irrefl _)
          · exact h'
        · intro hz
          rcases List.mem_cons.1 ((h z).2 (List.mem_cons_of_mem _ hz)) with e | h'
          · subst e; exact absurd (hb.1 _ hz) (lxLt_irrefl _)
          · exact h'
      rw [this]


/-- The first k of a row, each once, when equal ones are neighbours. -/
def firstsX (s : List (List Int)) : Nat → List (List Int)
  | 0 => []
  | k + 1 => if 0 < k ∧ s.getD (k - 1) [] = s.getD k [] then firstsX s k else firstsX s k ++ [s.getD k []]

theorem firstsX_len (s : List (List Int)) (k : Nat) : (firstsX s k).length ≤ k := by
  induction k with
  | zero => simp [firstsX]
  | succ k ih =>
    unfold firstsX
    split
    · omega
    · rw [List.length_append, List.length_singleton]; omega
theorem firstsX_mem (s : List (List Int)) (k : Nat) (hk : k ≤ s.length) (x : List Int) : x ∈ firstsX s k ↔ x ∈ s.take k := by
  induction k with
  | zero => simp [firstsX]
  | succ k ih =>
    have hlt : k < s.length := by omega
    rw [rows_take_succ hlt, List.mem_append, List.mem_singleton, firstsX]
    split
    · rename_i h
      rw [ih (by omega)]
      constructor
      · exact .inl
      · rintro (h1 | rfl)
        · exact h1
        · rw [← h.2]
          have : k - 1 < s.length := by omega
          have h2 : s.getD (k - 1) [] = s[k - 1] := by simp [List.getD, this]
          rw [h2]
          exact List.mem_take_iff_getElem.2 ⟨k - 1, by omega, rfl⟩
    · rw [List.mem_append, List.mem_singleton, ih (by omega)]
theorem firstsX_sorted (s : List (List Int)) (hs : ∀ i j, i < j → j < s.length → ¬ lxLt (s.getD j []) (s.getD i [])) (k : Nat) (hk : k ≤ s.length) : (firstsX s k).Pairwise lxLt := by
  induction k with
  | zero => simp [firstsX]
  | succ k ih =>
    rw [firstsX]
    split
    · exact ih (by omega)
    · rename_i h
      rw [List.pairwise_append]
      refine ⟨ih (by omega), by simp, fun x hx y hy => ?_⟩
      rw [List.mem_singleton] at hy
      subst hy
      rw [firstsX_mem s k (by omega)] at hx
      obtain ⟨i, hi, rfl⟩ := List.mem_take_iff_getElem.1 hx
      have hi1 : i < k := by omega
      have hil : i < s.length := by omega
      have e0 : s[i] = s.getD i [] := by simp [List.getD, hil]
      rw [e0]
      rcases lxLt_tri (s.getD i []) (s.getD k []) with h1 | h1 | h1
      · exact h1
      · exfalso
        have hk1 : 0 < k := by omega
        rcases lxLt_tri (s.getD (k - 1) []) (s.getD k []) with h2 | h2 | h2
        · rw [← h1] at h2
          by_cases hik : i = k - 1
          · subst hik; exact lxLt_irrefl _ h2
          · exact hs i (k - 1) (by omega) (by omega) h2
        · exact h ⟨hk1, h2⟩
        · exact hs (k - 1) k (by omega) (by omega) h2
      · exact absurd h1 (hs i k hi1 (by omega))

/-- What the library's sort and the walk over its result leave is the reference's insertion. -/
theorem firstsX_sortX {f s : List (List Int)} (hp : s.Perm f) (hs : ∀ i j, i < j → j < s.length → ¬ lxLt (s.getD j []) (s.getD i [])) : firstsX s s.length = sortX f := by
  refine sortedX_unique (firstsX_sorted s hs _ (Nat.le_refl _)) (sortX_sorted f) (fun x => ?_)
  rw [firstsX_mem s _ (Nat.le_refl _), List.take_of_length_le (Nat.le_refl _), sortX_mem]
  exact hp.mem_iff

end Go.Proofs.YtmhjpbhldaagmaaDoor

/- slices.SortFunc over a row of slices, by lits.Compare. -/
namespace Go.Proofs.YtmhjpbhldaagmaaDoor
open Go.RowKit Go.Shelf Go.Sort Go.Lib
set_option linter.unusedVariables false

theorem RowsAre.cons_iff {w : World} {u : Value} {us : List Value} {l : List Int} {ls : List (List Int)} : RowsAre w (u :: us) (l :: ls) ↔ IsInts w u l ∧ RowsAre w us ls := by
  constructor
  · rintro ⟨h1, h2⟩
    refine ⟨by simpa using h2 0 (by simp), by simpa using h1, fun j hj => ?_⟩
    have := h2 (j + 1) (by simpa using hj)
    simpa using this
  · rintro ⟨h, h1, h2⟩
    refine ⟨by simp [h1], fun j hj => ?_⟩
    cases j with
    | zero => simpa using h
    | succ j =>
      have := h2 j (by simpa using hj)
      simpa using this

/-- A slice with what it holds in w0. -/
abbrev RowT (w0 : World) : Type := { p : Value × List Int // IsInts w0 p.1 p.2 }
instance (w0 : World) : Inhabited (RowT w0) := ⟨⟨(.slice none 0 0, []), IsInts.nil w0⟩⟩
def encR {w0 : World} (x : RowT w0) : Value := x.1.1
def rowL {w0 : World} (x : RowT w0) : List Int := x.1.2

theorem rowsT {w0 : World} {us : List Value} {ls : List (List Int)} (h : RowsAre w0 us ls) : ∃ xs : List (RowT w0), xs.map encR = us ∧ xs.map rowL = ls := by
  induction ls generalizing us with
  | nil =>
    have : us = [] := List.eq_nil_of_length_eq_zero h.1
    subst this
    exact ⟨[], rfl, rfl⟩
  | cons l ls ih =>
    cases us with
    | nil => have := h.1; simp at this
    | cons u us =>
      rw [RowsAre.cons_iff] at h
      obtain ⟨xs, h1, h2⟩ := ih h.2
      exact ⟨⟨(u, l), h.1⟩ :: xs, by simp [encR, h1], by simp [rowL, h2]⟩
theorem rowsT_are {w0 : World} (xs : List (RowT w0)) : RowsAre w0 (xs.map encR) (xs.map rowL) := by
  induction xs with
  | nil => exact RowsAre.nil _
  | cons x xs ih => exact RowsAre.cons_iff.2 ⟨x.2, ih⟩
theorem encR_one {w0 : World} (x : RowT w0) : (encR x).oneCell' = true := by
  obtain ⟨a, cap, h⟩ := x.2.shape
  unfold encR
  rw [h]; rfl

theorem ltOf_rows {w0 : World} (x y : RowT w0) : ltOf (fun x y : RowT w0 => cmpB x.1.2 y.1.2) x y = decide (lxLt (rowL x) (rowL y)) := by
  show decide (cmpB x.1.2 y.1.2 < 0) = _
  rw [cmpB_eq]; rfl
theorem swo_rows (w0 : World) : SWO (ltOf (fun x y : RowT w0 => cmpB x.1.2 y.1.2)) := by
  constructor
  · intro x; rw [ltOf_rows]; simpa using lxLt_irrefl (rowL x)
  · intro x y z; rw [ltOf_rows, ltOf_rows, ltOf_rows]; simp only [decide_eq_true_eq]; exact lxLt_trans
  · intro x y z; rw [ltOf_rows, ltOf_rows, ltOf_rows]; simp only [decide_eq_false_iff_not]
    intro h1 h2 h3
    rcases lxLt_tri (rowL x) (rowL y) with h | h | h
    · exact h1 h
    · rw [h] at h3; exact h2 h3
    · exact h2 (lxLt_trans h h3)

def SortRPost (B g cap : Nat) (f : List (List Int)) (w0 w : World) (e : Ending) (w' : World) : Prop :=
  e = .returned (.tuple #[]) ∧ ∃ us s, s.Perm f ∧ (∀ i j, i < j → j < s.length → ¬ lxLt (s.getD j []) (s.getD i [])) ∧ RowsAre w0 us s ∧ OwnR w' B (.slice (some ⟨g, 0, none⟩) f.length cap) us ∧ Below B w w'

/-- The values of a row of slices. -/
theorem IsRows.vals {w : World} {v : Value} {f : List (List Int)} (H : IsRows w v f) : ∃ a cap us, v = .slice a f.length cap ∧ RowsAre w us f ∧ (a = none → cap = 0 ∧ us = []) ∧
    (∀ p, a = some p → ∀ j u, us[j]? = some u → w.cell? (p.add j) = some u) ∧ (∀ u ∈ us, u.oneCell' = true) ∧ (∀ p, a = some p → us ≠ [] → p.block < w.heap.size) := by
  obtain ⟨a, cap, rfl, hcap, h3, h4, b, off, ha, hc⟩ := H
  have hval : ∀ j, j < f.length → ∃ u, w.cell? ⟨b, off + j, none⟩ = some u ∧ (w.cell? ⟨b, off + j, none⟩).getD (.slice none 0 0) = u ∧ IsInts w u (f.getD j []) := fun j hj => by
    obtain ⟨u, h1, h2⟩ := hc j hj
    exact ⟨u, h1, by rw [h1]; rfl, h2⟩
  refine ⟨a, cap, (List.range f.length).map (fun j => (w.cell? ⟨b, off + j, none⟩).getD (.slice none 0 0)), rfl, ⟨by simp, fun j hj => ?_⟩, ?_, ?_, ?_, ?_⟩
  · obtain ⟨u, h1, h2, h5⟩ := hval j hj
    simp only [List.getD, List.getElem?_map, List.getElem?_range hj, Option.map_some, Option.getD_some]
    rw [h2]
    exact h5
  · intro hn
    by_cases hf : f = []
    · subst hf; exact ⟨hcap.2 hn, rfl⟩
    · have := (ha hf).1; rw [hn] at this; cases this
  · intro p hp j u hj
    have hlt : j < f.length := by have := (List.getElem?_eq_some_iff.1 hj).1; simpa using this
    have hf : f ≠ [] := by intro e; simp [e] at hlt
    have e := Option.some.inj ((ha hf).1.symm.trans hp)
    subst e
    obtain ⟨u', h1, h2, _⟩ := hval j hlt
    simp only [List.getElem?_map, List.getElem?_range hlt, Option.map_some, Option.some.injEq] at hj
    rw [Addr.add_lit, h1, ← hj, h2]
  · intro u hu
    obtain ⟨j, hj, rfl⟩ := List.mem_map.1 hu
    obtain ⟨u', h1, h2, h5⟩ := hval j (by simpa using hj)
    obtain ⟨a', cap', h6⟩ := h5.shape
    rw [h2, h6]; rfl
  · intro p hp hne
    have hf : f ≠ [] := by intro e; subst e; exact hne rfl
    have e := Option.some.inj ((ha hf).1.symm.trans hp)
    subst e
    exact (ha hf).2

/-- 'copy(v, u)' over a row of slices of the call's own, of one length. -/
theorem wpList_copyR {w : World} {ops : Array Oper} {rest : List Oper} {o : Oper} {a : Act} {Q : Exit → Act → World → Prop} (hgd : o.guard = none) (d s : Operand)
    (ho : o.op = .call { callee := .builtin .copy, args := #[d, s], argTypes := #[22, 22] }) (B : Nat) (v : Value) (us ys : List Value) (ad : Option Addr) (scap : Nat)
    (hd : a.eval d = v) (hs : a.eval s = .slice ad ys.length scap) (hown : OwnR w B v us) (had : ad = none → scap = 0 ∧ ys = [])
    (hc : ∀ p, ad = some p → ∀ j u, ys[j]? = some u → w.cell? (p.add j) = some u) (h1 : ∀ y ∈ ys, y.oneCell' = true) (hlen : ys.length = us.length) (hnn : ∃ g, v.ownBlock = some g) (w0 : World) (hb : Below B w0 w)
    (h : ∀ w' z, OwnR w' B v ys → Below B w0 w' → wpList Tryd.prog ops Q rest (a.put o.dst z) w') : wpList Tryd.prog ops Q (o :: rest) a w := by
  obtain ⟨i0, hi, hz0, hz1, hz2⟩ := info_parts info_ints
  rcases hown.2 with ⟨rfl, _⟩ | ⟨g, cap, cur, rfl, hB, hg, hnc, hcm, hcs, htk⟩
  · obtain ⟨g, hg⟩ := hnn; cases hg
  · have hcsz : cur.toList.length = cap := by simpa using hcs
    refine wpList_copy_splice hgd d s 22 22 ho 23 Tryd.underlying22 (by rw [hi]; simp [hz1]) (some ⟨g, 0, none⟩) ad us.length cap ys.length scap hd hs g 0 cur.toList 23 hg ys (by simp [hlen]) ?_ (by simp; omega) h1 B w0 hb hB ?_
    · intro hpos
      cases ad with
      | none => obtain ⟨_, rfl⟩ := had rfl; simp at hpos
      | some p => exact ⟨rfl, p, rfl, hc p rfl⟩
    · intro w' hH hb'
      refine h w' _ ?_ hb'
      refine ⟨by simp, .inr ⟨g, cap, _, by rw [hlen], hB, hH.out, by omega, hcm, ?_, ?_⟩⟩
      · simp [splice, hcsz]; omega
      · simp [splice]

end Go.Proofs.YtmhjpbhldaagmaaDoor

/- lits.Sort. -/
namespace Go.Proofs.YtmhjpbhldaagmaaDoor
open Go.RowKit
set_option linter.unusedVariables false

/-- Each row is the call's own. -/
def RowsOwn (w : World) (B : Nat) (us : List Value) (ls : List (List Int)) : Prop := us.length = ls.length ∧ ∀ j, j < ls.length → Own w B (us.getD j (.slice none 0 0)) (ls.getD j [])
theorem RowsOwn.nil (w : World) (B : Nat) : RowsOwn w B [] [] := ⟨rfl, fun j h => absurd h (Nat.not_lt_zero _)⟩
theorem RowsOwn.append {w : World} {B : Nat} {us vs : List Value} {ls ms : List (List Int)} (h : RowsOwn w B us ls) (k : RowsOwn w B vs ms) : RowsOwn w B (us ++ vs) (ls ++ ms) := by
  refine ⟨by simp [h.1, k.1], fun j hj => ?_⟩
  have hlen := h.1
  by_cases hjl : j < ls.length
  · have := h.2 j hjl
    simp only [List.getD] at this ⊢
    rw [List.getElem?_append_left (by omega), List.getElem?_append_left hjl]
    exact this
  · have := k.2 (j - ls.length) (by simp at hj; omega)
    simp only [List.getD] at this ⊢
    rw [List.getElem?_append_right (by omega), List.getElem?_append_right (by omega), hlen]
    exact this
theorem RowsOwn.one {w : World} {B : Nat} {u : Value} {l : List Int} (h : Own w B u l) : RowsOwn w B [u] [l] := ⟨rfl, fun j hj => by
  have : j = 0 := by simpa using hj
  subst this
  exact h⟩
theorem RowsOwn.mono {w : World} {B B' : Nat} {us : List Value} {ls : List (List Int)} (h : RowsOwn w B us ls) (hB : B' ≤ B) : RowsOwn w B' us ls := ⟨h.1, fun j hj => (h.2 j hj).mono hB⟩
theorem RowsOwn.below {w w' : World} {B C : Nat} {us : List Value} {ls : List (List Int)} (h : RowsOwn w B us ls) (hb : Below C w w') (hC : w.heap.size ≤ C) : RowsOwn w' B us ls := ⟨h.1, fun j hj => (h.2 j hj).below hb hC⟩
theorem RowsOwn.take {w : World} {B : Nat} {us : List Value} {ls : List (List Int)} (h : RowsOwn w B us ls) (k : Nat) : RowsOwn w B (us.take k) (ls.take k) := by
  refine ⟨by simp [h.1], fun j hj => ?_⟩
  have hj2 : j < k ∧ j < ls.length := by simp at hj; omega
  have := h.2 j hj2.2
  simp only [List.getD] at this ⊢
  rw [List.getElem?_take_of_lt hj2.1, List.getElem?_take_of_lt hj2.1]
  exact this
theorem RowsOwn.drop {w : World} {B : Nat} {us : List Value} {ls : List (List Int)} (h : RowsOwn w B us ls) (k : Nat) : RowsOwn w B (us.drop k) (ls.drop k) := by
  refine ⟨by simp [h.1], fun j hj => ?_⟩
  have hj2 : k + j < ls.length := by simp at hj; omega
  have := h.2 (k + j) hj2
  simp only [List.getD] at this ⊢
  rw [List.getElem?_drop, List.getElem?_drop]
  exact this
/-- A row of slices and a row of integers are two. -/
theorem OwnR.ne {w : World} {B B' : Nat} {v u : Value} {vs : List Value} {xs : List Int} (h : OwnR w B v vs) (ho : Own w B' u xs) : u.ownBlock = none ∨ u.ownBlock ≠ v.ownBlock := by
  rcases ho.2 with ⟨rfl, _⟩ | ⟨g, cap, cur, rfl, _, hg, _⟩
  · exact .inl rfl
  · right
    rcases h.2 with ⟨rfl, _⟩ | ⟨g2, cap2, cur2, rfl, _, hg2, _⟩
    · intro e; cases e
    · intro e
      have e1 : g = g2 := Option.some.inj e
      subst e1
      rw [hg] at hg2
      have := Option.some.inj hg2
      injection this with _ e2
      exact absurd e2 (by decide)
theorem RowsOwn.grown {w w' : World} {B B' : Nat} {us vs : List Value} {ls : List (List Int)} {v : Value} (h : RowsOwn w B us ls) (hv : OwnR w B' v vs) (hg : w.grownBy w' v.ownBlock) : RowsOwn w' B us ls :=
  ⟨h.1, fun j hj => (h.2 j hj).kept hg (hv.ne (h.2 j hj))⟩
theorem RowsOwn.alloc {w : World} {B : Nat} {us : List Value} {ls : List (List Int)} (h : RowsOwn w B us ls) (o : Obj) : RowsOwn (w.alloc o) B us ls := ⟨h.1, fun j hj => (h.2 j hj).alloc o⟩
theorem RowsOwn.are {w : World} {B : Nat} {us : List Value} {ls : List (List Int)} (h : RowsOwn w B us ls) (hl : ∀ l ∈ ls, l.length ≤ 17592186044416 ∧ In64 l) : RowsAre w us ls :=
  ⟨h.1, fun j hj => by
    have := hl _ (rows_getD_mem hj)
    exact (h.2 j hj).ints this.1 this.2⟩

/-- What a call hands back that has made rows of its own. -/
def RetSort (w : World) (ls : List (List Int)) (e : Ending) (w' : World) : Prop := ∃ v us, e = .returned v ∧ OwnR w' w.heap.size v us ∧ RowsOwn w' w.heap.size us ls ∧ Below w.heap.size w w'

def sortL (f : List (List Int)) : List (List Int) := if mayCnfB f then sortX f else []

theorem firstsX_same {s : List (List Int)} {k : Nat} (h0 : 0 < k) (h : s.getD (k - 1) [] = s.getD k []) : firstsX s (k + 1) = firstsX s k := by rw [firstsX, if_pos ⟨h0, h⟩]
theorem firstsX_new {s : List (List Int)} {k : Nat} (h : ¬ (0 < k ∧ s.getD (k - 1) [] = s.getD k [])) : firstsX s (k + 1) = firstsX s k ++ [s.getD k []] := by rw [firstsX, if_neg h]

end Go.Proofs.YtmhjpbhldaagmaaDoor

/- The reference's Sort. -/
namespace Go.Proofs.YtmhjpbhldaagmaaDoor
open Go.RowKit
set_option linter.unusedVariables false

theorem insX_len (l : List (List Int)) (x : List Int) : (insX l x).length ≤ l.length + 1 := by
  induction l with
  | nil => simp [insX]
  | cons y r ih =>
    unfold insX
    split
    · simp only [List.length_cons]; omega
    · split <;> simp
theorem foldl_insX_len (l acc : List (List Int)) : (l.foldl insX acc).length ≤ acc.length + l.length := by
  induction l generalizing acc with
  | nil => simp
  | cons y r ih =>
    have h1 := ih (insX acc y)
    have h2 := insX_len acc y
    simp only [List.foldl_cons, List.length_cons]; omega
theorem foldlX_take {f : List (List Int)} {k : Nat} (h : k < f.length) : (f.take (k + 1)).foldl insX [] = insX ((f.take k).foldl insX []) (f.getD k []) := by
  rw [rows_take_succ h, List.foldl_append]; rfl

theorem OwnR.shape {w : World} {B : Nat} {v : Value} {us : List Value} (h : OwnR w B v us) : (v = .slice none 0 0 ∧ us = []) ∨ ∃ g c, v = .slice (some ⟨g, 0, none⟩) us.length c ∧ us.length ≤ c ∧ c ≤ 9223372036854775807 := by
  rcases h.2 with ⟨rfl, h2⟩ | ⟨g, cap, cur, rfl, hB, hg, hnc, hcm, _, _⟩
  · exact .inl ⟨rfl, List.eq_nil_of_length_eq_zero h2⟩
  · unfold maxLen at hcm
    exact .inr ⟨g, cap, rfl, hnc, hcm⟩
/-- 'int slice literal of nothing'. -/
theorem Own.built {w : World} {B : Nat} (hB : B ≤ w.heap.size) : Own (w.alloc (.cells #[] 3)) B (.slice (some ⟨w.heap.size, 0, none⟩) 0 0) [] :=
  ⟨rfl, .inr ⟨w.heap.size, 0, #[], rfl, hB, by unfold World.alloc; simp, Nat.le_refl _, by unfold maxLen; omega, rfl, rfl⟩⟩

theorem RowsOwn.cells1 {w : World} {B : Nat} {us : List Value} {ls : List (List Int)} (h : RowsOwn w B us ls) : ∀ u ∈ us, u.oneCell' = true := by
  intro u hu
  obtain ⟨j, hj, rfl⟩ := List.mem_iff_getElem.1 hu
  have h1 := h.2 j (by rw [← h.1]; exact hj)
  have e : us.getD j (.slice none 0 0) = us[j] := by simp [List.getD, hj]
  rw [e] at h1
  rcases h1.2 with ⟨h2, _⟩ | ⟨g, c, cur, h2, _⟩
  · rw [h2]; rfl
  · rw [h2]; rfl
theorem Own.isSlice {w : World} {B : Nat} {u : Value} {xs : List Int} (ho : Own w B u xs) : ∃ a n c, u = .slice a n c := by
  rcases ho.2 with ⟨h2, _⟩ | ⟨g, c, cur, h2, _⟩
  · exact ⟨_, _, _, h2⟩
  · exact ⟨_, _, _, h2⟩
theorem OwnR.takeCells {w : World} {B g n c j : Nat} {us : List Value} (h : OwnR w B (.slice (some ⟨g, 0, none⟩) n c) us) :
    ∀ p, some (⟨g, 0, none⟩ : Addr) = some p → ∀ i u, (us.take j)[i]? = some u → w.cell? (p.add i) = some u := by
  intro p hp i u hi
  obtain rfl := Option.some.inj hp
  rw [List.getElem?_take] at hi
  split at hi
  · have hlt := (List.getElem?_eq_some_iff.1 hi).1
    rw [Addr.add_lit, Nat.zero_add, h.cell i hlt]
    simp [List.getD, hi]
  · cases hi
theorem OwnR.dropCells {w : World} {B g n c j : Nat} {us : List Value} (h : OwnR w B (.slice (some ⟨g, 0, none⟩) n c) us) (hc : us.length ≤ c) :
    ∀ p, (if c = j then some (⟨g, 0, none⟩ : Addr) else some ⟨g, j, none⟩) = some p → ∀ i u, (us.drop j)[i]? = some u → w.cell? (p.add i) = some u := by
  intro p hp i u hi
  rw [List.getElem?_drop] at hi
  have hlt := (List.getElem?_eq_some_iff.1 hi).1
  rw [if_neg (by omega)] at hp
  obtain rfl := Option.some.inj hp
  rw [Addr.add_lit, h.cell (j + i) hlt]
  simp [List.getD, hi]
theorem OwnR.dropCells2 {w : World} {B g n c j : Nat} {us : List Value} (h : OwnR w B (.slice (some ⟨g, 0, none⟩) n c) us) (hc : us.length ≤ c) (hj : j < us.length) :
    ∀ p, some (⟨g, j, none⟩ : Addr) = some p → ∀ i u, (us.drop j)[i]? = some u → w.cell? (p.add i) = some u := fun p hp => h.dropCells hc p (by rw [if_neg (by omega)]; exact hp)
theorem some_ne {c j g : Nat} {P : Prop} (h : (if c = j then some (⟨g, 0, none⟩ : Addr) else some ⟨g, j, none⟩) = none) : P := by split at h <;> cases h

end Go.Proofs.YtmhjpbhldaagmaaDoor

/- slices.Clone of a list of integers. -/
namespace Go.Proofs.YtmhjpbhldaagmaaDoor
open Go.RowKit
set_option linter.unusedVariables false

set_option maxHeartbeats 800000 in
set_option maxRecDepth 100000 in
theorem clone_any (v : Value) (l : List Int) (w : World) (H : IsInts w v l) : Calls Tryd.prog 12 #[v] w (RetOwn w l) := by
  have hl := H.len
  have H1 := H.below ((Below.refl w.heap.size w).alloc (Nat.le_refl _) (.cells #[] 3)) (Nat.le_refl _)
  obtain ⟨a, cap, rfl⟩ := H.shape
  cases a with
  | none =>
    have hn : l = [] ∧ cap = 0 := by
      obtain ⟨a', cap', e, hcp, _, _, _, b, off, ha, _⟩ := H
      injection e with e1 _ e3
      subst e1; subst e3
      refine ⟨?_, hcp.2 rfl⟩
      by_cases e : l = []
      · exact e
      · have := (ha e).1; cases this
    obtain ⟨rfl, rfl⟩ := hn
    have he : ∀ w : World, (binOp .eql 23 (.slice none 0 0) (.slice none 0 0)).run Tryd.prog w = .ok (.bool true) w := fun _ => rfl
    go_enter Tryd.func12, Tryd.ntmps12
    go_wp2
    go_ret
    exact ⟨_, rfl, Own.nil _ _, Below.refl _ _⟩
  | some p =>
    have he : ∀ w : World, (binOp .eql 23 (.slice (some p) l.length cap) (.slice none 0 0)).run Tryd.prog w = .ok (.bool false) w := fun _ => rfl
    go_enter Tryd.func12, Tryd.ntmps12
    go_wp2_with (at_builtin; refine wpList_app rfl (.tmp 5) (.tmp 6) rfl w.heap.size _ _ [] l rfl rfl (Own.built (Nat.le_refl _)) H1 (by simp <;> omega) (by simp) ?_; intro v1 w1 hown1 hg1)
    go_ret
    exact ⟨_, rfl, hown1, below_app ((Below.refl _ _).alloc (Nat.le_refl _) _) (Own.built (Nat.le_refl _)) (by simp) hg1⟩

end Go.Proofs.YtmhjpbhldaagmaaDoor

/- Rows of the call's own, written over. -/
namespace Go.Proofs.YtmhjpbhldaagmaaDoor
open Go.RowKit
set_option linter.unusedVariables false

/-- Rows of the call's own, whatever they hold. -/
def RowsW (w : World) (B : Nat) (us : List Value) : Prop := ∀ j, j < us.length → ∃ xs, Own w B (us.getD j (.slice none 0 0)) xs
theorem RowsOwn.rowsW {w : World} {B : Nat} {us : List Value} {ls : List (List Int)} (h : RowsOwn w B us ls) : RowsW w B us := fun j hj => ⟨_, h.2 j (by rw [← h.1]; exact hj)⟩
theorem Own.len_of {w : World} {B : Nat} {a : Option Addr} {n c : Nat} {xs : List Int} (h : Own w B (.slice a n c) xs) : n = xs.length := by
  rcases h.2 with ⟨e, h2⟩ | ⟨g', cap', cur, e, _⟩
  · injection e with _ e2; rw [e2, h2]
  · injection e
/-- A store into a row turns no row into another thing. -/
theorem Own.setAny {w : World} {B B' g n c j : Nat} {u : Value} {xs ys : List Int} {y : Int} (ho : Own w B u xs) (h : Own w B' (.slice (some ⟨g, 0, none⟩) n c) ys) : ∃ zs, Own (w.setCell ⟨g, j, none⟩ (.int .i64 y)) B u zs := by
  rcases ho.2 with ⟨rfl, h2⟩ | ⟨g', cap, cur, rfl, hB, hg, hnc, hcm, hcs, htk⟩
  · exact ⟨[], Own.nil _ _⟩
  · by_cases e : g' = g
    · subst e
      have hn : xs.length = xs.length := rfl
      have := ho.store j y
      refine ⟨xs.set j y, ?_⟩
      exact this
    · refine ⟨xs, ho.1, .inr ⟨g', cap, cur, rfl, hB, ?_, hnc, hcm, hcs, htk⟩⟩
      rw [Below.heap_setCell _ _ _ _ e]
      exact hg
theorem RowsW.set {w : World} {B B' g n c j : Nat} {us : List Value} {ys : List Int} {y : Int} (h : RowsW w B us) (ho : Own w B' (.slice (some ⟨g, 0, none⟩) n c) ys) : RowsW (w.setCell ⟨g, j, none⟩ (.int .i64 y)) B us := fun i hi => by
  obtain ⟨xs, hx⟩ := h i hi
  exact hx.setAny ho
theorem OwnR.setInt {w : World} {B B' g n c j : Nat} {v : Value} {us : List Value} {ys : List Int} {x : Value} (h : OwnR w B v us) (ho : Own w B' (.slice (some ⟨g, 0, none⟩) n c) ys) : OwnR (w.setCell ⟨g, j, none⟩ x) B v us := by
  refine ⟨h.1, ?_⟩
  have hne := h.ne ho
  rcases h.2 with hn | ⟨g', cap, cur, rfl, hB, hg, rest⟩
  · exact .inl hn
  · refine .inr ⟨g', cap, cur, rfl, hB, ?_, rest⟩
    rw [Below.heap_setCell _ _ _ _ (fun e => by
      rcases hne with h1 | h1
      · cases h1
      · exact h1 (by rw [e]; rfl))]
    exact hg
theorem Own.setR {w : World} {B B' g n c j : Nat} {u : Value} {us : List Value} {xs : List Int} {x : Value} (ho : Own w B' u xs) (h : OwnR w B (.slice (some ⟨g, 0, none⟩) n c) us) : Own (w.setCell ⟨g, j, none⟩ x) B' u xs := by
  refine ⟨ho.1, ?_⟩
  have hne := h.ne ho
  rcases ho.2 with hn | ⟨g', cap, cur, rfl, hB, hg, rest⟩
  · exact .inl hn
  · refine .inr ⟨g', cap, cur, rfl, hB, ?_, rest⟩
    rw [Below.heap_setCell _ _ _ _ (fun e => by
      rcases hne with h1 | h1
      · cases h1
      · exact h1 (by rw [e]; rfl))]
    exact hg
theorem RowsOwn.setR {w : World} {B B' g n c j : Nat} {vs us : List Value} {ls : List (List Int)} {x : Value} (ho : RowsOwn w B' vs ls) (h : OwnR w B (.slice (some ⟨g, 0, none⟩) n c) us) : RowsOwn (w.setCell ⟨g, j, none⟩ x) B' vs ls :=
  ⟨ho.1, fun i hi => (ho.2 i hi).setR h⟩

theorem mid_set {us : List Value} {k n : Nat} {z y : Value} (hk : us.length = k) (h : k < n) : (us ++ List.replicate (n - k) z).set k y = (us ++ [y]) ++ List.replicate (n - (k + 1)) z := by
  rw [List.set_append, if_neg (by omega), hk, Nat.sub_self, show n - k = (n - (k + 1)) + 1 from by omega, List.replicate_succ, List.set_cons_zero]
  simp

end Go.Proofs.YtmhjpbhldaagmaaDoor
