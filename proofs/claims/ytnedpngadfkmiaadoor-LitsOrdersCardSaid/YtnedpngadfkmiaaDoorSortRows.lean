/- slices.SortFunc over a row of slices, by lits.Compare. -/
import Derived.Test.YtnedpngadfkmiaaDoorRowsOwn
import Derived.Test.YtnedpngadfkmiaaDoorPureSort
import Derived.Test.YtnedpngadfkmiaaDoorNorm
namespace Go.Proofs.YtnedpngadfkmiaaDoor
open Go.RowKit Go.Shelf Go.Sort Go.Lib
set_option linter.unusedVariables false

theorem RowsAre.cons_iff {w : World} {u : Value} {us : List Value} {l : List Int} {ls : List (List Int)} : RowsAre w (u :: us) (l :: ls) ↔ IsInts w u l ∧ RowsAre w us ls := by
  constructor
  · rintro ⟨h1, h2⟩
    refine ⟨by simpa using h2 0 (by simp), by simpa using h1, fun j hj => ?_⟩
    have := h2 (j + 1) (by simpa using hj)
    simpa using this
  · rintro ⟨h, h1, h2⟩
    refine ⟨by simp [h1], fun j hj => ?_⟩
    cases j with
    | zero => simpa using h
    | succ j =>
      have := h2 j (by simpa using hj)
      simpa using this

/-- A slice with what it holds in w0. -/
abbrev RowT (w0 : World) : Type := { p : Value × List Int // IsInts w0 p.1 p.2 }
instance (w0 : World) : Inhabited (RowT w0) := ⟨⟨(.slice none 0 0, []), IsInts.nil w0⟩⟩
def encR {w0 : World} (x : RowT w0) : Value := x.1.1
def rowL {w0 : World} (x : RowT w0) : List Int := x.1.2

theorem rowsT {w0 : World} {us : List Value} {ls : List (List Int)} (h : RowsAre w0 us ls) : ∃ xs : List (RowT w0), xs.map encR = us ∧ xs.map rowL = ls := by
  induction ls generalizing us with
  | nil =>
    have : us = [] := List.eq_nil_of_length_eq_zero h.1
    subst this
    exact ⟨[], rfl, rfl⟩
  | cons l ls ih =>
    cases us with
    | nil => have := h.1; simp at this
    | cons u us =>
      rw [RowsAre.cons_iff] at h
      obtain ⟨xs, h1, h2⟩ := ih h.2
      exact ⟨⟨(u, l), h.1⟩ :: xs, by simp [encR, h1], by simp [rowL, h2]⟩
theorem rowsT_are {w0 : World} (xs : List (RowT w0)) : RowsAre w0 (xs.map encR) (xs.map rowL) := by
  induction xs with
  | nil => exact RowsAre.nil _
  | cons x xs ih => exact RowsAre.cons_iff.2 ⟨x.2, ih⟩
theorem encR_one {w0 : World} (x : RowT w0) : (encR x).oneCell' = true := by
  obtain ⟨a, cap, h⟩ := x.2.shape
  unfold encR
  rw [h]; rfl

theorem ltOf_rows {w0 : World} (x y : RowT w0) : ltOf (fun x y : RowT w0 => cmpB x.1.2 y.1.2) x y = decide (lxLt (rowL x) (rowL y)) := by
  show decide (cmpB x.1.2 y.1.2 < 0) = _
  rw [cmpB_eq]; rfl
theorem swo_rows (w0 : World) : SWO (ltOf (fun x y : RowT w0 => cmpB x.1.2 y.1.2)) := by
  constructor
  · intro x; rw [ltOf_rows]; simpa using lxLt_irrefl (rowL x)
  · intro x y z; rw [ltOf_rows, ltOf_rows, ltOf_rows]; simp only [decide_eq_true_eq]; exact lxLt_trans
  · intro x y z; rw [ltOf_rows, ltOf_rows, ltOf_rows]; simp only [decide_eq_false_iff_not]
    intro h1 h2 h3
    rcases lxLt_tri (rowL x) (rowL y) with h | h | h
    · exact h1 h
    · rw [h] at h3; exact h2 h3
    · exact h2 (lxLt_trans h h3)

theorem compare_enters (args : Array Value) (w : World) : (callFunc 42 args).run Tryd.prog w = .ok (.enter 42 args) w := enters_of Tryd.func42 (by kernel_rfl) rfl args w

def SortRPost (B g cap : Nat) (f : List (List Int)) (w0 w : World) (e : Ending) (w' : World) : Prop :=
  e = .returned (.tuple #[]) ∧ ∃ us s, s.Perm f ∧ (∀ i j, i < j → j < s.length → ¬ lxLt (s.getD j []) (s.getD i [])) ∧ RowsAre w0 us s ∧ OwnR w' B (.slice (some ⟨g, 0, none⟩) f.length cap) us ∧ Below B w w'

theorem sortrows_any (B g cap : Nat) (us : List Value) (f : List (List Int)) (w0 w : World) (hB : w0.heap.size = B) (h0 : Below B w0 w) (hown : OwnR w B (.slice (some ⟨g, 0, none⟩) f.length cap) us) (hr : RowsAre w0 us f) (hl : f.length ≤ 17592186044416) :
    Calls Tryd.prog 105 #[.slice (some ⟨g, 0, none⟩) f.length cap, .func (.func 42) #[] #[]] w (SortRPost B g cap f w0 w) := by
  have hb := hown.block
  obtain ⟨xs, hx1, hx2⟩ := rowsT hr
  have hlen : xs.length = f.length := by rw [← hx2]; simp
  have hrow : w.ownsRow B 22 1 (.slice (some ⟨g, 0, none⟩) f.length cap) f.length (xs.map encR) := by
    have := hown
    unfold OwnR at this
    rw [hr.1] at this
    rw [hx1]; exact this
  obtain ⟨g', cap', e, _, _, hcap, _, hlen2, hH⟩ := holds_of_ownsRow hrow (by intro h; cases h)
  injection e with e1 _ e3
  injection e1 with e1
  injection e1 with e1
  subst e1; subst e3
  have hsz : xs.toArray.size = f.length := by simp [hlen]
  have hcmp : CmpLays1 Tryd.prog 42 #[] encR (fun x y : RowT w0 => cmpB x.1.2 y.1.2) g 0 xs.toArray.size w := by
    intro m os dk _ x y
    have hW : Below B w0 (sortWorld encR w g 0 m dk os) := h0.trans (below_sortWorld hb.1 (by have := h0.size; omega))
    refine (compare_any x.1.1 y.1.1 x.1.2 y.1.2 _ (x.2.below hW (by omega)) (y.2.below hW (by omega))).mono ?_
    rintro e w' ⟨he, hw⟩
    exact ⟨he, hw⟩
  have hc := Tryd.slices_SortFunc_f105 encR encR_one (fun x y : RowT w0 => cmpB x.1.2 y.1.2) (swo_rows w0) 42 #[] g 0 cap xs.toArray w compare_enters hcmp hH hb.2 (by rw [hsz]; omega)
  rw [hsz] at hc
  refine hc.mono ?_
  rintro e w' ⟨he, d', m, os, hperm, hsort, hw⟩
  refine ⟨he, d'.toList.map encR, d'.toList.map rowL, ?_, ?_, rowsT_are _, ?_, ?_⟩
  · have h1 := hperm.2.2
    have h2 : (d'.extract 0 f.length).toList = d'.toList := by rw [show f.length = d'.size from by rw [hperm.1, hsz]]; simp
    have h3 : (xs.toArray.extract 0 f.length).toList = xs := by rw [← hsz]; simp
    rw [h2, h3] at h1
    have := h1.map rowL
    rwa [hx2] at this
  · intro i j hij hj
    have hj' : j < d'.size := by simpa using hj
    have hjl : j < f.length := by rw [← hsz, ← hperm.1]; exact hj'
    have h := hsort i j (Nat.zero_le _) hij hjl
    rw [ltOf_rows] at h
    have h' := of_decide_eq_false h
    simpa [getElem!_pos, hj', show i < d'.size by omega, List.getD] using h'
  · have hy : d'.toList.length = f.length := by rw [Array.length_toList, hperm.1, hsz]
    have hr2 := ownsRow_putRow (q := m) (k := f.length) hrow hy (Nat.le_refl _)
    rw [List.take_of_length_le (by omega)] at hr2
    have ho : OwnR (putRow encR (Sort.ahead w m) g 0 d'.toList.toArray) B (.slice (some ⟨g, 0, none⟩) f.length cap) (d'.toList.map encR) := by
      unfold OwnR
      rw [List.length_map, hy]
      exact hr2
    rw [hw]
    rw [Array.toArray_toList] at ho
    refine ho.below (C := (putRow encR (Sort.ahead w m) g 0 d').heap.size) ?_ (Nat.le_refl _)
    refine ⟨rfl, rfl, rfl, by simp [sortWorld, grow], fun k hk => ?_⟩
    show ((putRow encR (Sort.ahead w m) g 0 d').heap ++ os)[k]? = _
    rw [Array.getElem?_append_left hk]
  · rw [hw]; exact below_sortWorld hb.1 (by have := h0.size; omega)

/-- The values of a row of slices. -/
theorem IsRows.vals {w : World} {v : Value} {f : List (List Int)} (H : IsRows w v f) : ∃ a cap us, v = .slice a f.length cap ∧ RowsAre w us f ∧ (a = none → cap = 0 ∧ us = []) ∧
    (∀ p, a = some p → ∀ j u, us[j]? = some u → w.cell? (p.add j) = some u) ∧ (∀ u ∈ us, u.oneCell' = true) ∧ (∀ p, a = some p → us ≠ [] → p.block < w.heap.size) := by
  obtain ⟨a, cap, rfl, hcap, h3, h4, b, off, ha, hc⟩ := H
  have hval : ∀ j, j < f.length → ∃ u, w.cell? ⟨b, off + j, none⟩ = some u ∧ (w.cell? ⟨b, off + j, none⟩).getD (.slice none 0 0) = u ∧ IsInts w u (f.getD j []) := fun j hj => by
    obtain ⟨u, h1, h2⟩ := hc j hj
    exact ⟨u, h1, by rw [h1]; rfl, h2⟩
  refine ⟨a, cap, (List.range f.length).map (fun j => (w.cell? ⟨b, off + j, none⟩).getD (.slice none 0 0)), rfl, ⟨by simp, fun j hj => ?_⟩, ?_, ?_, ?_, ?_⟩
  · obtain ⟨u, h1, h2, h5⟩ := hval j hj
    simp only [List.getD, List.getElem?_map, List.getElem?_range hj, Option.map_some, Option.getD_some]
    rw [h2]
    exact h5
  · intro hn
    by_cases hf : f = []
    · subst hf; exact ⟨hcap.2 hn, rfl⟩
    · have := (ha hf).1; rw [hn] at this; cases this
  · intro p hp j u hj
    have hlt : j < f.length := by have := (List.getElem?_eq_some_iff.1 hj).1; simpa using this
    have hf : f ≠ [] := by intro e; simp [e] at hlt
    have e := Option.some.inj ((ha hf).1.symm.trans hp)
    subst e
    obtain ⟨u', h1, h2, _⟩ := hval j hlt
    simp only [List.getElem?_map, List.getElem?_range hlt, Option.map_some, Option.some.injEq] at hj
    rw [Addr.add_lit, h1, ← hj, h2]
  · intro u hu
    obtain ⟨j, hj, rfl⟩ := List.mem_map.1 hu
    obtain ⟨u', h1, h2, h5⟩ := hval j (by simpa using hj)
    obtain ⟨a', cap', h6⟩ := h5.shape
    rw [h2, h6]; rfl
  · intro p hp hne
    have hf : f ≠ [] := by intro e; subst e; exact hne rfl
    have e := Option.some.inj ((ha hf).1.symm.trans hp)
    subst e
    exact (ha hf).2

/-- 'copy(v, u)' over a row of slices of the call's own, of one length. -/
theorem wpList_copyR {w : World} {ops : Array Oper} {rest : List Oper} {o : Oper} {a : Act} {Q : Exit → Act → World → Prop} (hgd : o.guard = none) (d s : Operand)
    (ho : o.op = .call { callee := .builtin .copy, args := #[d, s], argTypes := #[39, 39] }) (B : Nat) (v : Value) (us ys : List Value) (ad : Option Addr) (scap : Nat)
    (hd : a.eval d = v) (hs : a.eval s = .slice ad ys.length scap) (hown : OwnR w B v us) (had : ad = none → scap = 0 ∧ ys = [])
    (hc : ∀ p, ad = some p → ∀ j u, ys[j]? = some u → w.cell? (p.add j) = some u) (h1 : ∀ y ∈ ys, y.oneCell' = true) (hlen : ys.length = us.length) (hnn : ∃ g, v.ownBlock = some g) (w0 : World) (hb : Below B w0 w)
    (h : ∀ w' z, OwnR w' B v ys → Below B w0 w' → wpList Tryd.prog ops Q rest (a.put o.dst z) w') : wpList Tryd.prog ops Q (o :: rest) a w := by
  obtain ⟨i0, hi, hz0, hz1, hz2⟩ := info_parts info_ints
  rcases hown.2 with ⟨rfl, _⟩ | ⟨g, cap, cur, rfl, hB, hg, hnc, hcm, hcs, htk⟩
  · obtain ⟨g, hg⟩ := hnn; cases hg
  · have hcsz : cur.toList.length = cap := by simpa using hcs
    refine wpList_copy_splice hgd d s 39 39 ho 22 Tryd.underlying39 (by rw [hi]; simp [hz1]) (some ⟨g, 0, none⟩) ad us.length cap ys.length scap hd hs g 0 cur.toList 22 hg ys (by simp [hlen]) ?_ (by simp; omega) h1 B w0 hb hB ?_
    · intro hpos
      cases ad with
      | none => obtain ⟨_, rfl⟩ := had rfl; simp at hpos
      | some p => exact ⟨rfl, p, rfl, hc p rfl⟩
    · intro w' hH hb'
      refine h w' _ ?_ hb'
      refine ⟨by simp, .inr ⟨g, cap, _, by rw [hlen], hB, hH.out, by omega, hcm, ?_, ?_⟩⟩
      · simp [splice, hcsz]; omega
      · simp [splice]

end Go.Proofs.YtnedpngadfkmiaaDoor
