/- Joined texts: CxEval, CxImg, CxMerg, CxAnd, CxXor. -/
import Derived.Test.YtppglbffmgnooaaGreatK08
import Derived.Maps.OwnIn
/- circ.Eval and circ.Values. -/
namespace Go.Proofs.YtppglbffmgnooaaGreat
open Go.RowKit
set_option linter.unusedVariables false
set_option linter.unusedSimpArgs false

theorem namedL_fits : ∀ (gs : List Gt) (S : List Int) (t : Nat) (R : List Int), namedL S t gs = some R → ∀ g ∈ gs, fitsB g.2.1 g.2.2.length = true
  | [], _, _, _, _, g, hg => by cases hg
  | x :: r, S, t, R, h, g, hg => by
    unfold namedL at h
    split at h
    · rename_i hx
      unfold gOk at hx
      simp only [Bool.and_eq_true] at hx
      rcases List.mem_cons.1 hg with rfl | hg
      · exact hx.2.1
      · exact namedL_fits r _ _ R h g hg
    · cases h
theorem mayN_fits {P : List Blk} {gs : List Gt} {o : Int} (h : mayN P gs o = true) : ∀ g ∈ gs, fitsB g.2.1 g.2.2.length = true := by
  unfold mayN at h
  split at h
  · rename_i S hs
    unfold namedN at hs
    split at hs
    · exact namedL_fits gs _ _ S hs
    · cases hs
  · cases h
end Go.Proofs.YtppglbffmgnooaaGreat

/- circ: maps from integers to integers; image, images. -/
namespace Go.Proofs.YtppglbffmgnooaaGreat
open Go.RowKit Go.Maps
set_option linter.unusedVariables false
set_option linter.unusedSimpArgs false

/-- Block b is a map from integers to integers, which says f. -/
def MapM (w : World) (b n : Nat) (f : Int → Option Int) : Prop :=
  ∃ D : DataW Unit, w.ownsMap Tryz.prog 3 (plainElem Tryz.prog 3) b n D ∧ IsMap D ∧ (∀ k, D.atKey (.int .i64 k) (.lit (.int .i64 0)) = .lit (.int .i64 ((f k).getD 0))) ∧ (∀ k, Maps.has D (.int .i64 k) = (f k).isSome)
theorem MapM.lt {w : World} {b n : Nat} {f : Int → Option Int} (h : MapM w b n f) : b < w.heap.size := by obtain ⟨D, h1, _⟩ := h; exact h1.lt
theorem MapM.kept {w w' : World} {b n : Nat} {f : Int → Option Int} {Q : Nat → Prop} (h : MapM w b n f) (k : Kept Q w w') (hb : ¬ Q b) : MapM w' b n f := by
  obtain ⟨D, h1, h2⟩ := h
  exact ⟨D, ownsMap_kept h1 k hb, h2⟩
theorem MapM.below {w w' : World} {b B n : Nat} {f : Int → Option Int} (h : MapM w b n f) (hb : Below B w w') (hB : w.heap.size ≤ B) : MapM w' b n f :=
  h.kept (Q := fun _ => False) ⟨hb.os, hb.tape, hb.output, hb.size, fun k hk _ => hb.block k (by omega)⟩ (fun h => h)
theorem MapM.grown {w w' : World} {row : Option Nat} {b n : Nat} {f : Int → Option Int} (h : MapM w b n f) (hg : w.grownBy w' row) (hne : row ≠ some b) : MapM w' b n f := h.kept (Kept.of_grown hg) hne
theorem MapM.made (w : World) : MapM (w.alloc (.map #[] 0)) w.heap.size 0 (fun _ => none) :=
  ⟨.map [], World.ownsMap_made w Tryz.prog 3 _, isMap_empty, fun k => rfl, fun k => rfl⟩
theorem zero_intM (w : World) : (zeroValue 3).run Tryz.prog w = .ok (.int .i64 0) w := by
  have := Tryz.zeroValue3
  exact this w
theorem MapM.look {w : World} {b n : Nat} {f : Int → Option Int} (h : MapM w b n f) (k : Int) (hw : (Lit.int .i64 k).wf = true) : (Instr.lookup 140 (.map (some b)) (.int .i64 k) false).run Tryz.prog w = .ok (.int .i64 ((f k).getD 0)) w := by
  obtain ⟨D, h1, _, h2, h3⟩ := h
  obtain ⟨c, hrun, hat, _⟩ := h1.lookup_int (int_keyed Tryz.underlying3) Tryz.underlying140 Tryz.underlying3 (zero_intM w) (keyOf_int_mk Tryz.underlying3 hw)
  rw [h2] at hat
  simp at hat
  rw [hat]
  exact hrun
theorem MapM.look_ok {w : World} {b n : Nat} {f : Int → Option Int} (h : MapM w b n f) (k : Int) (hw : (Lit.int .i64 k).wf = true) : (Instr.lookup 140 (.map (some b)) (.int .i64 k) true).run Tryz.prog w = .ok (.tuple #[.int .i64 ((f k).getD 0), .bool (f k).isSome]) w := by
  obtain ⟨D, h1, _, h2, h3⟩ := h
  obtain ⟨v, ps, hrun, hv⟩ := h1.look_ok (int_keyed Tryz.underlying3) Tryz.underlying140 (z := .int .i64 0) (zero_intM w) (plainElem_int Tryz.underlying3 (by decide)) (keyOf_int_mk Tryz.underlying3 hw)
  obtain ⟨c, rfl, hc, _⟩ := plainElem_int_inv Tryz.underlying3 hv
  have hc := congrArg Prod.fst hc
  rw [h2] at hc
  simp at hc
  rw [h3] at hrun
  rw [hc]
  exact hrun
def updM (f : Int → Option Int) (k y : Int) : Int → Option Int := fun j => if j = k then some y else f j
theorem MapM.put {w : World} {b n : Nat} {f : Int → Option Int} (h : MapM w b n f) (hn : n < maxLen) (k y : Int) (hw : (Lit.int .i64 k).wf = true) (hy : (Lit.int .i64 y).wf = true) :
    ∃ w', (Instr.mapUpdate 140 (.map (some b)) (.int .i64 k) (.int .i64 y)).run Tryz.prog w = .ok () w' ∧ MapM w' b (n + 1) (updM f k y) ∧ Kept (fun i => i = b) w w' := by
  obtain ⟨D, h1, hD, h2, h3⟩ := h
  obtain ⟨w', hrun, h4, h5⟩ := h1.update (int_keyed Tryz.underlying3) Tryz.underlying140 hn (keyOf_int_mk Tryz.underlying3 hw) (plainElem_int Tryz.underlying3 hy)
  refine ⟨w', hrun, ⟨_, h4, hD.put _ _, fun j => ?_, fun j => ?_⟩, (Kept.of_grown h5).mono fun i _ e => (Option.some.inj e).symm⟩
  · unfold updM
    by_cases e : j = k
    · subst e
      rw [atKey_put_same hD (show WideAt.IsKeyLit (Lit.int _ _) from trivial)]
      simp
    · rw [atKey_put_other (by simpa using e), h2]
      simp [e]
  · unfold updM
    by_cases e : j = k
    · subst e
      rw [has_put_same hD (show WideAt.IsKeyLit (Lit.int _ _) from trivial)]
      simp
    · rw [has_put_other (by simpa using e), h3]
      simp [e]

end Go.Proofs.YtppglbffmgnooaaGreat

/- circ: means, merged. -/
namespace Go.Proofs.YtppglbffmgnooaaGreat
open Go.RowKit Go.Maps
set_option linter.unusedVariables false
set_option linter.unusedSimpArgs false

theorem own_shC {w : World} {B : Nat} {v : Value} {xs : List Int} (h : Own w B v xs) : ∃ a c, v = .slice a xs.length c := by
  rcases h.2 with ⟨rfl, h2⟩ | ⟨g, cap, cur, rfl, _⟩
  · exact ⟨none, 0, by rw [h2]⟩
  · exact ⟨_, _, rfl⟩
end Go.Proofs.YtppglbffmgnooaaGreat

/- circ: and, or, and the functions of these kinds. -/
namespace Go.Proofs.YtppglbffmgnooaaGreat
open Go.RowKit
set_option linter.unusedVariables false
set_option linter.unusedSimpArgs false

end Go.Proofs.YtppglbffmgnooaaGreat

/- circ: xor, ite. -/
namespace Go.Proofs.YtppglbffmgnooaaGreat
open Go.RowKit
set_option linter.unusedVariables false
set_option linter.unusedSimpArgs false

theorem own_new {w : World} {l : List Int} : Own (w.alloc (.cells (l.map (Value.int .i64)).toArray 3)) w.heap.size (.slice (some ⟨w.heap.size, 0, none⟩) l.length l.length) l ∨ 1000000 < l.length := by
  by_cases h : l.length ≤ 1000000
  · refine .inl ⟨by simp, .inr ⟨w.heap.size, l.length, _, rfl, Nat.le_refl _, by rw [heapy, if_pos rfl], Nat.le_refl _, by unfold maxLen; omega, by simp, ?_⟩⟩
    simp
    exact List.take_of_length_le (by simp)
  · exact .inr (by omega)
theorem own_new2 (w : World) (a b : Int) : Own (w.alloc (.cells #[.int .i64 a, .int .i64 b] 3)) w.heap.size (.slice (some ⟨w.heap.size, 0, none⟩) 2 2) [a, b] := (own_new (w := w) (l := [a, b])).elim (fun h => h) (fun h => by simp at h)
end Go.Proofs.YtppglbffmgnooaaGreat
