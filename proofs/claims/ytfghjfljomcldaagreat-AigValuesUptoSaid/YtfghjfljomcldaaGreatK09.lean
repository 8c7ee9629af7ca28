/- Joined texts: CxEval, CxImg, CxMerg, CxAnd, CxXor. -/
import Derived.Test.YtfghjfljomcldaaGreatK08
import Derived.Maps.OwnIn
/- circ.Eval and circ.Values. -/
namespace Go.Proofs.YtfghjfljomcldaaGreat
open Go.RowKit
set_option linter.unusedVariables false
set_option linter.unusedSimpArgs false

theorem namedL_fits : ∀ (gs : List Gt) (S : List Int) (t : Nat) (R : List Int), namedL S t gs = some R → ∀ g ∈ gs, fitsB g.2.1 g.2.2.length = true
  | [], _, _, _, _, g, hg => by cases hg
  | x :: r, S, t, R, h, g, hg => by
    unfold namedL at h
    split at h
    · rename_i hx
      unfold gOk at hx
      simp only [Bool.and_eq_true] at hx
      rcases List.mem_cons.1 hg with rfl | hg
      · exact hx.2.1
      · exact namedL_fits r _ _ R h g hg
    · cases h
theorem mayN_fits {P : List Blk} {gs : List Gt} {o : Int} (h : mayN P gs o = true) : ∀ g ∈ gs, fitsB g.2.1 g.2.2.length = true := by
  unfold mayN at h
  split at h
  · rename_i S hs
    unfold namedN at hs
    split at hs
    · exact namedL_fits gs _ _ S hs
    · cases hs
  · cases h
/-- The values of the variables, and of the gates. -/
def runA (gs : List Gt) (a : List Int) : (Int → Bool) × List Bool := runG (setA (fun _ => false) a) gs
def okN (P : List Blk) (gs : List Gt) (o : Int) (a : List Int) : Bool := mayN P gs o && mayB a
def evalN (P : List Blk) (gs : List Gt) (o : Int) (a : List Int) : Bool × Int := if okN P gs o a = true then (litV (runA gs a).1 o, 0) else (false, 2)
def valuesN (P : List Blk) (gs : List Gt) (o : Int) (a : List Int) : List Bool × Int := if okN P gs o a = true then ((runA gs a).2, 0) else ([], 2)

set_option maxRecDepth 100000 in
set_option maxHeartbeats 1600000 in
theorem ceval_any (vp vg va : Value) (o : Int) (P : List Blk) (gs : List Gt) (a : List Int) (w : World) (HP : IsBlocks w vp P) (HG : IsGates w vg gs) (HA : IsInts w va a) (hp : P.length ≤ 4000000) (hg : gs.length ≤ 3000000) (ha : a.length ≤ 3000000) (ho1 : -9223372036854775808 ≤ o) (ho2 : o ≤ 9223372036854775807) :
    Calls Tryz.prog 56 #[.agg #[vp, vg, .int .i64 o], va] w fun e w' => e = .returned (.tuple #[.bool (evalN P gs o a).1, .int .i64 (evalN P gs o a).2]) ∧ Below w.heap.size w w' := by
  obtain ⟨W, hW⟩ : ∃ W, w.alloc (.cells #[vp, vg, .int .i64 o] 98) = W := ⟨_, rfl⟩
  have hb0 : Below w.heap.size w W := by rw [← hW]; exact (Below.refl w.heap.size w).alloc (Nat.le_refl _) _
  have hz : W.heap.size = w.heap.size + 1 := by rw [← hW]; simp
  have c0 : ∀ i v, (#[vp, vg, .int .i64 o] : Array Value)[i]? = some v → W.cell? ⟨w.heap.size, i, none⟩ = some v := fun i v h => by rw [← hW]; exact cell_fresh h
  have HY : Hid (∀ X, Below W.heap.size W X → X.cell? ⟨w.heap.size, 0, none⟩ = some vp ∧ X.cell? ⟨w.heap.size, 1, none⟩ = some vg ∧ X.cell? ⟨w.heap.size, 2, none⟩ = some (.int .i64 o)) := fun X hX =>
    ⟨(hX.cell (p := ⟨w.heap.size, 0, none⟩) (by simp; omega)).trans (c0 0 _ rfl), (hX.cell (p := ⟨w.heap.size, 1, none⟩) (by simp; omega)).trans (c0 1 _ rfl), (hX.cell (p := ⟨w.heap.size, 2, none⟩) (by simp; omega)).trans (c0 2 _ rfl)⟩
  have HB0 := Lib.hid hb0
  have HUP : Hid (∀ X, Below W.heap.size W X → IsBlocks X vp P ∧ IsGates X vg gs ∧ IsInts X va a) := fun X hX => by
    have h := hb0.trans (hX.mono hb0.size)
    exact ⟨HP.below h (Nat.le_refl _), HG.below h (Nat.le_refl _), HA.below h (Nat.le_refl _)⟩
  have HM := Lib.hid (cmay_any vp vg o P gs W (HUP.out W (Below.refl _ _)).1 (HUP.out W (Below.refl _ _)).2.1 hp hg ho1 ho2)
  have HN : Hid (∀ X, Below W.heap.size W X → Calls Tryz.prog 135 #[va] X fun e w' => e = .returned (.bool (mayB a)) ∧ X = w') := fun X hX => cnormal_any va a X (HUP.out X hX).2.2
  have HV : Hid (mayN P gs o = true → ∀ X, Below W.heap.size W X → Calls Tryz.prog 136 #[.agg #[vp, vg, .int .i64 o], va] X fun e w' => ∃ v, e = .returned (.tuple #[v, .bool (litV (runA gs a).1 o)]) ∧ OwnB w' X.heap.size v (runA gs a).2 ∧ Below X.heap.size X w') := fun hm X hX => cvalues_any vp vg va o P gs a X (HUP.out X hX).1 (HUP.out X hX).2.1 (HUP.out X hX).2.2 (mayN_fits hm) hg ha ho1 ho2
  have HEV : Hid (evalN P gs o a = if (mayN P gs o && mayB a) = true then (litV (runA gs a).1 o, 0) else (false, 2)) := rfl
  obtain ⟨pa, pc, rfl, _⟩ := HP.shape
  obtain ⟨ga, gc, rfl, _⟩ := HG.shape
  obtain ⟨aa, ac, rfl⟩ := HA.shape
  obtain ⟨y0, y1, y2⟩ := HY.out W (Below.refl _ _)
  clear c0 hb0 HP HG HA hz
  generalize evalN P gs o a = R at *
  cases hm : mayN P gs o with
  | false =>
    rw [hm] at HEV HM
    have HR : Hid (R = (false, 2)) := HEV.out
    clear hm HEV HV HN
    rw [HR.out]
    go_enter Tryz.func56, Tryz.ntmps56
    go_wp2_with (go_at_call 127; refine HM.out.mono ?_; rintro e w1 ⟨rfl, hb1⟩)
    go_ret2
    exact ⟨rfl, HB0.out.trans (hb1.mono HB0.out.size)⟩
  | true =>
    have HV2 := Lib.hid (HV.out hm)
    rw [hm] at HEV HM
    clear hm HV
    cases hn : mayB a with
    | false =>
      rw [hn] at HEV HN
      have HR : Hid (R = (false, 2)) := HEV.out
      clear hn HEV HV2
      rw [HR.out]
      go_enter Tryz.func56, Tryz.ntmps56
      go_wp2_with (first
        | (go_at_call 127; refine HM.out.mono ?_; rintro e w1 ⟨rfl, hb1⟩)
        | (go_at_call 135; refine (HN.out w1 hb1).mono ?_; rintro e w2 ⟨rfl, rfl⟩))
      go_ret2
      exact ⟨rfl, HB0.out.trans (hb1.mono HB0.out.size)⟩
    | true =>
      rw [hn] at HEV HN
      have HR : Hid (R = (litV (runA gs a).1 o, 0)) := HEV.out
      clear hn HEV
      rw [HR.out]
      generalize litV (runA gs a).1 o = r at *
      go_enter Tryz.func56, Tryz.ntmps56
      go_wp2_with (first
        | (go_at_call 127; refine HM.out.mono ?_; rintro e w1 ⟨rfl, hb1⟩; obtain ⟨x0, x1, x2⟩ := HY.out w1 hb1)
        | (go_at_call 135; refine (HN.out w1 hb1).mono ?_; rintro e w2 ⟨rfl, rfl⟩)
        | (go_at_call 136; refine (HV2.out w1 hb1).mono ?_; rintro e w3 ⟨v, rfl, ho3, hb3⟩))
      go_ret2
      exact ⟨rfl, HB0.out.trans ((hb1.trans (hb3.mono hb1.size)).mono HB0.out.size)⟩
end Go.Proofs.YtfghjfljomcldaaGreat

/- circ: maps from integers to integers; image, images. -/
namespace Go.Proofs.YtfghjfljomcldaaGreat
open Go.RowKit Go.Maps
set_option linter.unusedVariables false
set_option linter.unusedSimpArgs false

/-- Block b is a map from integers to integers, which says f. -/
def MapM (w : World) (b n : Nat) (f : Int → Option Int) : Prop :=
  ∃ D : DataW Unit, w.ownsMap Tryz.prog 3 (plainElem Tryz.prog 3) b n D ∧ IsMap D ∧ (∀ k, D.atKey (.int .i64 k) (.lit (.int .i64 0)) = .lit (.int .i64 ((f k).getD 0))) ∧ (∀ k, Maps.has D (.int .i64 k) = (f k).isSome)
theorem MapM.lt {w : World} {b n : Nat} {f : Int → Option Int} (h : MapM w b n f) : b < w.heap.size := by obtain ⟨D, h1, _⟩ := h; exact h1.lt
theorem MapM.kept {w w' : World} {b n : Nat} {f : Int → Option Int} {Q : Nat → Prop} (h : MapM w b n f) (k : Kept Q w w') (hb : ¬ Q b) : MapM w' b n f := by
  obtain ⟨D, h1, h2⟩ := h
  exact ⟨D, ownsMap_kept h1 k hb, h2⟩
theorem MapM.below {w w' : World} {b B n : Nat} {f : Int → Option Int} (h : MapM w b n f) (hb : Below B w w') (hB : w.heap.size ≤ B) : MapM w' b n f :=
  h.kept (Q := fun _ => False) ⟨hb.os, hb.tape, hb.output, hb.size, fun k hk _ => hb.block k (by omega)⟩ (fun h => h)
theorem MapM.grown {w w' : World} {row : Option Nat} {b n : Nat} {f : Int → Option Int} (h : MapM w b n f) (hg : w.grownBy w' row) (hne : row ≠ some b) : MapM w' b n f := h.kept (Kept.of_grown hg) hne
theorem MapM.made (w : World) : MapM (w.alloc (.map #[] 0)) w.heap.size 0 (fun _ => none) :=
  ⟨.map [], World.ownsMap_made w Tryz.prog 3 _, isMap_empty, fun k => rfl, fun k => rfl⟩
theorem zero_intM (w : World) : (zeroValue 3).run Tryz.prog w = .ok (.int .i64 0) w := by
  have := Tryz.zeroValue3
  exact this w
theorem MapM.look {w : World} {b n : Nat} {f : Int → Option Int} (h : MapM w b n f) (k : Int) (hw : (Lit.int .i64 k).wf = true) : (Instr.lookup 140 (.map (some b)) (.int .i64 k) false).run Tryz.prog w = .ok (.int .i64 ((f k).getD 0)) w := by
  obtain ⟨D, h1, _, h2, h3⟩ := h
  obtain ⟨c, hrun, hat, _⟩ := h1.lookup_int (int_keyed Tryz.underlying3) Tryz.underlying140 Tryz.underlying3 (zero_intM w) (keyOf_int_mk Tryz.underlying3 hw)
  rw [h2] at hat
  simp at hat
  rw [hat]
  exact hrun
theorem MapM.look_ok {w : World} {b n : Nat} {f : Int → Option Int} (h : MapM w b n f) (k : Int) (hw : (Lit.int .i64 k).wf = true) : (Instr.lookup 140 (.map (some b)) (.int .i64 k) true).run Tryz.prog w = .ok (.tuple #[.int .i64 ((f k).getD 0), .bool (f k).isSome]) w := by
  obtain ⟨D, h1, _, h2, h3⟩ := h
  obtain ⟨v, ps, hrun, hv⟩ := h1.look_ok (int_keyed Tryz.underlying3) Tryz.underlying140 (z := .int .i64 0) (zero_intM w) (plainElem_int Tryz.underlying3 (by decide)) (keyOf_int_mk Tryz.underlying3 hw)
  obtain ⟨c, rfl, hc, _⟩ := plainElem_int_inv Tryz.underlying3 hv
  have hc := congrArg Prod.fst hc
  rw [h2] at hc
  simp at hc
  rw [h3] at hrun
  rw [hc]
  exact hrun
def updM (f : Int → Option Int) (k y : Int) : Int → Option Int := fun j => if j = k then some y else f j
theorem MapM.put {w : World} {b n : Nat} {f : Int → Option Int} (h : MapM w b n f) (hn : n < maxLen) (k y : Int) (hw : (Lit.int .i64 k).wf = true) (hy : (Lit.int .i64 y).wf = true) :
    ∃ w', (Instr.mapUpdate 140 (.map (some b)) (.int .i64 k) (.int .i64 y)).run Tryz.prog w = .ok () w' ∧ MapM w' b (n + 1) (updM f k y) ∧ Kept (fun i => i = b) w w' := by
  obtain ⟨D, h1, hD, h2, h3⟩ := h
  obtain ⟨w', hrun, h4, h5⟩ := h1.update (int_keyed Tryz.underlying3) Tryz.underlying140 hn (keyOf_int_mk Tryz.underlying3 hw) (plainElem_int Tryz.underlying3 hy)
  refine ⟨w', hrun, ⟨_, h4, hD.put _ _, fun j => ?_, fun j => ?_⟩, (Kept.of_grown h5).mono fun i _ e => (Option.some.inj e).symm⟩
  · unfold updM
    by_cases e : j = k
    · subst e
      rw [atKey_put_same hD (show WideAt.IsKeyLit (Lit.int _ _) from trivial)]
      simp
    · rw [atKey_put_other (by simpa using e), h2]
      simp [e]
  · unfold updM
    by_cases e : j = k
    · subst e
      rw [has_put_same hD (show WideAt.IsKeyLit (Lit.int _ _) from trivial)]
      simp
    · rw [has_put_other (by simpa using e), h3]
      simp [e]


/-- What a literal becomes. -/
def imageF (f : Int → Option Int) (x : Int) : Int := match f (varC x) with
  | none => x
  | some y => if x < 0 then -y else y
def fBd (f : Int → Option Int) : Prop := ∀ k y, f k = some y → -9223372036854775807 ≤ y ∧ y ≤ 9223372036854775807
theorem imageF_bd {f : Int → Option Int} (hf : fBd f) {x : Int} (h1 : -9223372036854775808 ≤ x) (h2 : x ≤ 9223372036854775807) : -9223372036854775808 ≤ imageF f x ∧ imageF f x ≤ 9223372036854775807 := by
  unfold imageF
  split
  · omega
  · rename_i y hy
    have := hf _ y hy
    split <;> omega
end Go.Proofs.YtfghjfljomcldaaGreat

/- circ: means, merged. -/
namespace Go.Proofs.YtfghjfljomcldaaGreat
open Go.RowKit Go.Maps
set_option linter.unusedVariables false
set_option linter.unusedSimpArgs false

/-- What becomes of a gate: a kind, literals, a meaning. -/
abbrev Oc := Int × List Int × Int
theorem set_three {w : World} {b : Nat} {x y z u v t : Value} {T : TypeId} (h : w.heap[b]? = some (.cells #[x, y, z] T (0, 0))) :
    (((w.setCell ⟨b, 0, none⟩ u).setCell ⟨b, 1, none⟩ v).setCell ⟨b, 2, none⟩ t).heap[b]? = some (.cells #[u, v, t] T (0, 0)) := set_obj (set_obj (set_obj h))
theorem three_cells {w : World} {b : Nat} {x y z : Value} {T : TypeId} (h : w.heap[b]? = some (.cells #[x, y, z] T (0, 0))) :
    w.cell? ⟨b, 0, none⟩ = some x ∧ w.cell? ⟨b, 1, none⟩ = some y ∧ w.cell? ⟨b, 2, none⟩ = some z ∧ w.frozen? ⟨b, 0, none⟩ = false ∧ w.frozen? ⟨b, 1, none⟩ = false ∧ w.frozen? ⟨b, 2, none⟩ = false :=
  ⟨(arr_five h 0 rfl).1, (arr_five h 1 rfl).1, (arr_five h 2 rfl).1, (arr_five h 0 (v := x) rfl).2, (arr_five h 1 (v := y) rfl).2, (arr_five h 2 (v := z) rfl).2⟩
theorem kept_three (b : Nat) (w : World) (u v t : Value) : Kept (fun k => k = b) w (((w.setCell ⟨b, 0, none⟩ u).setCell ⟨b, 1, none⟩ v).setCell ⟨b, 2, none⟩ t) :=
  ((Kept.setCell w ⟨b, 0, none⟩ u).trans (Kept.setCell _ ⟨b, 1, none⟩ v)).trans (Kept.setCell _ ⟨b, 2, none⟩ t)
/-- The meanings that are left of a list. -/
def mrgL (idle : Int) : List Int → List Int → Option (List Int)
  | left, [] => some left
  | left, x :: r => if x = -idle ∨ -x ∈ left then none else if x ≠ idle ∧ x ∉ left then mrgL idle (left ++ [x]) r else mrgL idle left r
def mergedF (kind : Int) (l : List Int) (idle : Int) : Oc := match mrgL idle [] l with
  | none => (0, [], -idle)
  | some [] => (0, [], idle)
  | some [y] => (0, [], y)
  | some l => (kind, l, 0)
theorem mrgL_at {idle : Int} {left l : List Int} {k : Nat} (hk : k < l.length) : mrgL idle left (l.drop k) = if l.getD k 0 = -idle ∨ -(l.getD k 0) ∈ left then none else if l.getD k 0 ≠ idle ∧ l.getD k 0 ∉ left then mrgL idle (left ++ [l.getD k 0]) (l.drop (k + 1)) else mrgL idle left (l.drop (k + 1)) := by
  rw [List.drop_eq_getElem_cons hk]
  simp [mrgL, List.getD, hk]
theorem own_shC {w : World} {B : Nat} {v : Value} {xs : List Int} (h : Own w B v xs) : ∃ a c, v = .slice a xs.length c := by
  rcases h.2 with ⟨rfl, h2⟩ | ⟨g, cap, cur, rfl, _⟩
  · exact ⟨none, 0, by rw [h2]⟩
  · exact ⟨_, _, rfl⟩
def OutP (w : World) (r : Oc) (e : Ending) (w' : World) : Prop := ∃ v, e = .returned (.agg #[.int .u8 r.1, v, .int .i64 r.2.2]) ∧ Own w' w.heap.size v r.2.1 ∧ Below w.heap.size w w'

end Go.Proofs.YtfghjfljomcldaaGreat

/- circ: and, or, and the functions of these kinds. -/
namespace Go.Proofs.YtfghjfljomcldaaGreat
open Go.RowKit
set_option linter.unusedVariables false
set_option linter.unusedSimpArgs false

end Go.Proofs.YtfghjfljomcldaaGreat

/- circ: xor, ite. -/
namespace Go.Proofs.YtfghjfljomcldaaGreat
open Go.RowKit
set_option linter.unusedVariables false
set_option linter.unusedSimpArgs false

def xorF (a b : Int) : Oc := if a = -65537 then (0, [], b) else if a = 65537 then (0, [], -b) else if b = -65537 then (0, [], a) else if b = 65537 then (0, [], -a) else if a = b then (0, [], -65537) else if a = -b then (0, [], 65537) else (3, [a, b], 0)
def iteF (c a b : Int) : Oc := if c = 65537 then (0, [], a) else if c = -65537 then (0, [], b) else if a = b then (0, [], a) else if a = 65537 then mergedF 2 [c, b] (-65537) else if a = -65537 then mergedF 1 [-c, b] 65537 else if b = 65537 then mergedF 2 [-c, a] (-65537) else if b = -65537 then mergedF 1 [c, a] 65537 else (4, [c, a, b], 0)
theorem own_new {w : World} {l : List Int} : Own (w.alloc (.cells (l.map (Value.int .i64)).toArray 3)) w.heap.size (.slice (some ⟨w.heap.size, 0, none⟩) l.length l.length) l ∨ 1000000 < l.length := by
  by_cases h : l.length ≤ 1000000
  · refine .inl ⟨by simp, .inr ⟨w.heap.size, l.length, _, rfl, Nat.le_refl _, by rw [heapy, if_pos rfl], Nat.le_refl _, by unfold maxLen; omega, by simp, ?_⟩⟩
    simp
    exact List.take_of_length_le (by simp)
  · exact .inr (by omega)
theorem own_new2 (w : World) (a b : Int) : Own (w.alloc (.cells #[.int .i64 a, .int .i64 b] 3)) w.heap.size (.slice (some ⟨w.heap.size, 0, none⟩) 2 2) [a, b] := (own_new (w := w) (l := [a, b])).elim (fun h => h) (fun h => by simp at h)
theorem own_new3 (w : World) (a b c : Int) : Own (w.alloc (.cells #[.int .i64 a, .int .i64 b, .int .i64 c] 3)) w.heap.size (.slice (some ⟨w.heap.size, 0, none⟩) 3 3) [a, b, c] := (own_new (w := w) (l := [a, b, c])).elim (fun h => h) (fun h => by simp at h)
end Go.Proofs.YtfghjfljomcldaaGreat
