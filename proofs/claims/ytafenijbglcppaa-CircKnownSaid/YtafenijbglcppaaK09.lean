/- Joined texts: CxEval, CxImg, CxMerg, CxAnd, CxXor. -/
import Derived.Test.YtafenijbglcppaaK08
import Derived.Maps.OwnIn
/- circ.Eval and circ.Values. -/
namespace Go.Proofs.Ytafenijbglcppaa
open Go.RowKit
set_option linter.unusedVariables false
set_option linter.unusedSimpArgs false

theorem namedL_fits : ∀ (gs : List Gt) (S : List Int) (t : Nat) (R : List Int), namedL S t gs = some R → ∀ g ∈ gs, fitsB g.2.1 g.2.2.length = true
  | [], _, _, _, _, g, hg => by cases hg
  | x :: r, S, t, R, h, g, hg => by
    unfold namedL at h
    split at h
    · rename_i hx
      unfold gOk at hx
      simp only [Bool.and_eq_true] at hx
      rcases List.mem_cons.1 hg with rfl | hg
      · exact hx.2.1
      · exact namedL_fits r _ _ R h g hg
    · cases h
theorem mayN_fits {P : List Blk} {gs : List Gt} {o : Int} (h : mayN P gs o = true) : ∀ g ∈ gs, fitsB g.2.1 g.2.2.length = true := by
  unfold mayN at h
  split at h
  · rename_i S hs
    unfold namedN at hs
    split at hs
    · exact namedL_fits gs _ _ S hs
    · cases hs
  · cases h
/-- The values of the variables, and of the gates. -/
def runA (gs : List Gt) (a : List Int) : (Int → Bool) × List Bool := runG (setA (fun _ => false) a) gs
def okN (P : List Blk) (gs : List Gt) (o : Int) (a : List Int) : Bool := mayN P gs o && mayB a
def evalN (P : List Blk) (gs : List Gt) (o : Int) (a : List Int) : Bool × Int := if okN P gs o a = true then (litV (runA gs a).1 o, 0) else (false, 2)
def valuesN (P : List Blk) (gs : List Gt) (o : Int) (a : List Int) : List Bool × Int := if okN P gs o a = true then ((runA gs a).2, 0) else ([], 2)

set_option maxRecDepth 100000 in
set_option maxHeartbeats 1600000 in
theorem ceval_any (vp vg va : Value) (o : Int) (P : List Blk) (gs : List Gt) (a : List Int) (w : World) (HP : IsBlocks w vp P) (HG : IsGates w vg gs) (HA : IsInts w va a) (hp : P.length ≤ 4000000) (hg : gs.length ≤ 3000000) (ha : a.length ≤ 3000000) (ho1 : -9223372036854775808 ≤ o) (ho2 : o ≤ 9223372036854775807) :
    Calls Try.prog 5 #[.agg #[vp, vg, .int .i64 o], va] w fun e w' => e = .returned (.tuple #[.bool (evalN P gs o a).1, .int .i64 (evalN P gs o a).2]) ∧ Below w.heap.size w w' := by
  obtain ⟨W, hW⟩ : ∃ W, w.alloc (.cells #[vp, vg, .int .i64 o] 25) = W := ⟨_, rfl⟩
  have hb0 : Below w.heap.size w W := by rw [← hW]; exact (Below.refl w.heap.size w).alloc (Nat.le_refl _) _
  have hz : W.heap.size = w.heap.size + 1 := by rw [← hW]; simp
  have c0 : ∀ i v, (#[vp, vg, .int .i64 o] : Array Value)[i]? = some v → W.cell? ⟨w.heap.size, i, none⟩ = some v := fun i v h => by rw [← hW]; exact cell_fresh h
  have HY : Hid (∀ X, Below W.heap.size W X → X.cell? ⟨w.heap.size, 0, none⟩ = some vp ∧ X.cell? ⟨w.heap.size, 1, none⟩ = some vg ∧ X.cell? ⟨w.heap.size, 2, none⟩ = some (.int .i64 o)) := fun X hX =>
    ⟨(hX.cell (p := ⟨w.heap.size, 0, none⟩) (by simp; omega)).trans (c0 0 _ rfl), (hX.cell (p := ⟨w.heap.size, 1, none⟩) (by simp; omega)).trans (c0 1 _ rfl), (hX.cell (p := ⟨w.heap.size, 2, none⟩) (by simp; omega)).trans (c0 2 _ rfl)⟩
  have HB0 := Lib.hid hb0
  have HUP : Hid (∀ X, Below W.heap.size W X → IsBlocks X vp P ∧ IsGates X vg gs ∧ IsInts X va a) := fun X hX => by
    have h := hb0.trans (hX.mono hb0.size)
    exact ⟨HP.below h (Nat.le_refl _), HG.below h (Nat.le_refl _), HA.below h (Nat.le_refl _)⟩
  have HM := Lib.hid (cmay_any vp vg o P gs W (HUP.out W (Below.refl _ _)).1 (HUP.out W (Below.refl _ _)).2.1 hp hg ho1 ho2)
  have HN : Hid (∀ X, Below W.heap.size W X → Calls Try.prog 12 #[va] X fun e w' => e = .returned (.bool (mayB a)) ∧ X = w') := fun X hX => cnormal_any va a X (HUP.out X hX).2.2
  have HV : Hid (mayN P gs o = true → ∀ X, Below W.heap.size W X → Calls Try.prog 13 #[.agg #[vp, vg, .int .i64 o], va] X fun e w' => ∃ v, e = .returned (.tuple #[v, .bool (litV (runA gs a).1 o)]) ∧ OwnB w' X.heap.size v (runA gs a).2 ∧ Below X.heap.size X w') := fun hm X hX => cvalues_any vp vg va o P gs a X (HUP.out X hX).1 (HUP.out X hX).2.1 (HUP.out X hX).2.2 (mayN_fits hm) hg ha ho1 ho2
  have HEV : Hid (evalN P gs o a = if (mayN P gs o && mayB a) = true then (litV (runA gs a).1 o, 0) else (false, 2)) := rfl
  obtain ⟨pa, pc, rfl, _⟩ := HP.shape
  obtain ⟨ga, gc, rfl, _⟩ := HG.shape
  obtain ⟨aa, ac, rfl⟩ := HA.shape
  obtain ⟨y0, y1, y2⟩ := HY.out W (Below.refl _ _)
  clear c0 hb0 HP HG HA hz
  generalize evalN P gs o a = R at *
  cases hm : mayN P gs o with
  | false =>
    rw [hm] at HEV HM
    have HR : Hid (R = (false, 2)) := HEV.out
    clear hm HEV HV HN
    rw [HR.out]
    go_enter Try.func5, Try.ntmps5
    go_wp2_with (go_at_call 10; refine HM.out.mono ?_; rintro e w1 ⟨rfl, hb1⟩)
    go_ret2
    exact ⟨rfl, HB0.out.trans (hb1.mono HB0.out.size)⟩
  | true =>
    have HV2 := Lib.hid (HV.out hm)
    rw [hm] at HEV HM
    clear hm HV
    cases hn : mayB a with
    | false =>
      rw [hn] at HEV HN
      have HR : Hid (R = (false, 2)) := HEV.out
      clear hn HEV HV2
      rw [HR.out]
      go_enter Try.func5, Try.ntmps5
      go_wp2_with (first
        | (go_at_call 10; refine HM.out.mono ?_; rintro e w1 ⟨rfl, hb1⟩)
        | (go_at_call 12; refine (HN.out w1 hb1).mono ?_; rintro e w2 ⟨rfl, rfl⟩))
      go_ret2
      exact ⟨rfl, HB0.out.trans (hb1.mono HB0.out.size)⟩
    | true =>
      rw [hn] at HEV HN
      have HR : Hid (R = (litV (runA gs a).1 o, 0)) := HEV.out
      clear hn HEV
      rw [HR.out]
      generalize litV (runA gs a).1 o = r at *
      go_enter Try.func5, Try.ntmps5
      go_wp2_with (first
        | (go_at_call 10; refine HM.out.mono ?_; rintro e w1 ⟨rfl, hb1⟩; obtain ⟨x0, x1, x2⟩ := HY.out w1 hb1)
        | (go_at_call 12; refine (HN.out w1 hb1).mono ?_; rintro e w2 ⟨rfl, rfl⟩)
        | (go_at_call 13; refine (HV2.out w1 hb1).mono ?_; rintro e w3 ⟨v, rfl, ho3, hb3⟩))
      go_ret2
      exact ⟨rfl, HB0.out.trans ((hb1.trans (hb3.mono hb1.size)).mono HB0.out.size)⟩
end Go.Proofs.Ytafenijbglcppaa

/- circ: maps from integers to integers; image, images. -/
namespace Go.Proofs.Ytafenijbglcppaa
open Go.RowKit Go.Maps
set_option linter.unusedVariables false
set_option linter.unusedSimpArgs false

/-- Block b is a map from integers to integers, which says f. -/
def MapM (w : World) (b n : Nat) (f : Int → Option Int) : Prop :=
  ∃ D : DataW Unit, w.ownsMap Try.prog 3 (plainElem Try.prog 3) b n D ∧ IsMap D ∧ (∀ k, D.atKey (.int .i64 k) (.lit (.int .i64 0)) = .lit (.int .i64 ((f k).getD 0))) ∧ (∀ k, Maps.has D (.int .i64 k) = (f k).isSome)
theorem MapM.lt {w : World} {b n : Nat} {f : Int → Option Int} (h : MapM w b n f) : b < w.heap.size := by obtain ⟨D, h1, _⟩ := h; exact h1.lt
theorem MapM.kept {w w' : World} {b n : Nat} {f : Int → Option Int} {Q : Nat → Prop} (h : MapM w b n f) (k : Kept Q w w') (hb : ¬ Q b) : MapM w' b n f := by
  obtain ⟨D, h1, h2⟩ := h
  exact ⟨D, ownsMap_kept h1 k hb, h2⟩
theorem MapM.below {w w' : World} {b B n : Nat} {f : Int → Option Int} (h : MapM w b n f) (hb : Below B w w') (hB : w.heap.size ≤ B) : MapM w' b n f :=
  h.kept (Q := fun _ => False) ⟨hb.os, hb.tape, hb.output, hb.size, fun k hk _ => hb.block k (by omega)⟩ (fun h => h)
theorem MapM.grown {w w' : World} {row : Option Nat} {b n : Nat} {f : Int → Option Int} (h : MapM w b n f) (hg : w.grownBy w' row) (hne : row ≠ some b) : MapM w' b n f := h.kept (Kept.of_grown hg) hne
theorem MapM.made (w : World) : MapM (w.alloc (.map #[] 0)) w.heap.size 0 (fun _ => none) :=
  ⟨.map [], World.ownsMap_made w Try.prog 3 _, isMap_empty, fun k => rfl, fun k => rfl⟩
theorem zero_intM (w : World) : (zeroValue 3).run Try.prog w = .ok (.int .i64 0) w := by
  have := Try.zeroValue3
  exact this w
theorem MapM.look {w : World} {b n : Nat} {f : Int → Option Int} (h : MapM w b n f) (k : Int) (hw : (Lit.int .i64 k).wf = true) : (Instr.lookup 64 (.map (some b)) (.int .i64 k) false).run Try.prog w = .ok (.int .i64 ((f k).getD 0)) w := by
  obtain ⟨D, h1, _, h2, h3⟩ := h
  obtain ⟨c, hrun, hat, _⟩ := h1.lookup_int (int_keyed Try.underlying3) Try.underlying64 Try.underlying3 (zero_intM w) (keyOf_int_mk Try.underlying3 hw)
  rw [h2] at hat
  simp at hat
  rw [hat]
  exact hrun
theorem MapM.look_ok {w : World} {b n : Nat} {f : Int → Option Int} (h : MapM w b n f) (k : Int) (hw : (Lit.int .i64 k).wf = true) : (Instr.lookup 64 (.map (some b)) (.int .i64 k) true).run Try.prog w = .ok (.tuple #[.int .i64 ((f k).getD 0), .bool (f k).isSome]) w := by
  obtain ⟨D, h1, _, h2, h3⟩ := h
  obtain ⟨v, ps, hrun, hv⟩ := h1.look_ok (int_keyed Try.underlying3) Try.underlying64 (z := .int .i64 0) (zero_intM w) (plainElem_int Try.underlying3 (by decide)) (keyOf_int_mk Try.underlying3 hw)
  obtain ⟨c, rfl, hc, _⟩ := plainElem_int_inv Try.underlying3 hv
  have hc := congrArg Prod.fst hc
  rw [h2] at hc
  simp at hc
  rw [h3] at hrun
  rw [hc]
  exact hrun
def updM (f : Int → Option Int) (k y : Int) : Int → Option Int := fun j => if j = k then some y else f j
theorem MapM.put {w : World} {b n : Nat} {f : Int → Option Int} (h : MapM w b n f) (hn : n < maxLen) (k y : Int) (hw : (Lit.int .i64 k).wf = true) (hy : (Lit.int .i64 y).wf = true) :
    ∃ w', (Instr.mapUpdate 64 (.map (some b)) (.int .i64 k) (.int .i64 y)).run Try.prog w = .ok () w' ∧ MapM w' b (n + 1) (updM f k y) ∧ Kept (fun i => i = b) w w' := by
  obtain ⟨D, h1, hD, h2, h3⟩ := h
  obtain ⟨w', hrun, h4, h5⟩ := h1.update (int_keyed Try.underlying3) Try.underlying64 hn (keyOf_int_mk Try.underlying3 hw) (plainElem_int Try.underlying3 hy)
  refine ⟨w', hrun, ⟨_, h4, hD.put _ _, fun j => ?_, fun j => ?_⟩, (Kept.of_grown h5).mono fun i _ e => (Option.some.inj e).symm⟩
  · unfold updM
    by_cases e : j = k
    · subst e
      rw [atKey_put_same hD (show WideAt.IsKeyLit (Lit.int _ _) from trivial)]
      simp
    · rw [atKey_put_other (by simpa using e), h2]
      simp [e]
  · unfold updM
    by_cases e : j = k
    · subst e
      rw [has_put_same hD (show WideAt.IsKeyLit (Lit.int _ _) from trivial)]
      simp
    · rw [has_put_other (by simpa using e), h3]
      simp [e]


/-- What a literal becomes. -/
def imageF (f : Int → Option Int) (x : Int) : Int := match f (varC x) with
  | none => x
  | some y => if x < 0 then -y else y
def fBd (f : Int → Option Int) : Prop := ∀ k y, f k = some y → -9223372036854775807 ≤ y ∧ y ≤ 9223372036854775807
theorem imageF_bd {f : Int → Option Int} (hf : fBd f) {x : Int} (h1 : -9223372036854775808 ≤ x) (h2 : x ≤ 9223372036854775807) : -9223372036854775808 ≤ imageF f x ∧ imageF f x ≤ 9223372036854775807 := by
  unfold imageF
  split
  · omega
  · rename_i y hy
    have := hf _ y hy
    split <;> omega
set_option maxRecDepth 100000 in
theorem cimage_any (b n : Nat) (f : Int → Option Int) (x : Int) (w : World) (hm : MapM w b n f) (hf : fBd f) (h1 : -9223372036854775808 ≤ x) (h2 : x ≤ 9223372036854775807) :
    Calls Try.prog 23 #[.int .i64 x, .map (some b)] w fun e w' => e = .returned (.int .i64 (imageF f x)) ∧ w = w' := by
  have hv := varC_64 h1 h2
  have hlk := hm.look_ok (varC x) (i64w hv.1 hv.2)
  have HV := Lib.hid (cvar_any x w h1 h2)
  have HI : Hid (∀ y, f (varC x) = some y → imageF f x = if x < 0 then -y else y) := fun y hy => by unfold imageF; rw [hy]
  have HN : Hid (f (varC x) = none → imageF f x = x) := fun hy => by unfold imageF; rw [hy]
  have HB : Hid (∀ y, f (varC x) = some y → -9223372036854775807 ≤ y ∧ y ≤ 9223372036854775807) := fun y hy => hf _ y hy
  clear hv hm hf
  generalize varC x = k at *
  cases hk : f k with
  | none =>
    rw [hk] at hlk
    have HE := Lib.hid (HN.out hk)
    clear hk HI HN HB
    simp only [Option.getD_none, Option.isSome_none] at hlk
    go_enter Try.func23, Try.ntmps23
    go_wp2_with (go_at_call 27; refine HV.out.mono ?_; rintro e w1 ⟨rfl, rfl⟩)
    go_ret
    exact ⟨ret_int HE.out.symm, rfl⟩
  | some y =>
    rw [hk] at hlk
    have HE := Lib.hid (HI.out y hk)
    have hb := HB.out y hk
    have hb1 := hb.1
    have hb2 := hb.2
    clear hk HI HN HB hb
    simp only [Option.getD_some, Option.isSome_some] at hlk
    by_cases hx : x < 0
    · have HE2 : Hid (imageF f x = -y) := by show _ = _; rw [HE.out, if_pos hx]
      clear HE
      go_enter Try.func23, Try.ntmps23
      go_wp2_with (go_at_call 27; refine HV.out.mono ?_; rintro e w1 ⟨rfl, rfl⟩)
      go_ret
      exact ⟨ret_int HE2.out.symm, rfl⟩
    · have HE2 : Hid (imageF f x = y) := by show _ = _; rw [HE.out, if_neg hx]
      clear HE
      go_enter Try.func23, Try.ntmps23
      go_wp2_with (go_at_call 27; refine HV.out.mono ?_; rintro e w1 ⟨rfl, rfl⟩)
      go_ret
      exact ⟨ret_int HE2.out.symm, rfl⟩
set_option maxRecDepth 100000 in
set_option maxHeartbeats 800000 in
theorem cimages_any (b n : Nat) (f : Int → Option Int) (v : Value) (l : List Int) (w : World) (hm : MapM w b n f) (hf : fBd f) (H : IsInts w v l) :
    Calls Try.prog 45 #[v, .map (some b)] w (RetOwn w (l.map (imageF f))) := by
  have HH := Lib.hid H
  have h64 : In64 l := by obtain ⟨_, _, _, _, _, _, g, _⟩ := H; exact g
  have hll : l.length ≤ 17592186044416 := by obtain ⟨_, _, _, _, _, h, _⟩ := H; exact h
  have HI : Hid (∀ X, Below w.heap.size w X → ∀ x ∈ l, Calls Try.prog 23 #[.int .i64 x, .map (some b)] X fun e w' => e = .returned (.int .i64 (imageF f x)) ∧ X = w') := fun X hX x hx => cimage_any b n f x X (hm.below hX (Nat.le_refl _)) hf (h64 x hx).1 (h64 x hx).2
  obtain ⟨a, cap, rfl⟩ := H.shape
  clear H hm hf h64
  go_enter Try.func45, Try.ntmps45
  go_wp2
  go_loopw [5, 10] (fun o i wr => ∃ k : Nat, k ≤ l.length ∧ i = .int .i64 k ∧ Own wr w.heap.size o ((l.take k).map (imageF f)) ∧ Below w.heap.size w wr) (fun _ i _ => l.length - (intOf i).toNat)
  case atStart => exact ⟨0, Nat.zero_le _, rfl, by simpa using Own.nil _ _, Below.refl _ _⟩
  case round =>
    obtain ⟨k, hk, rfl, hown, hbel⟩ := hrel
    have hszr := hbel.size
    by_cases hlt : k < l.length
    · obtain ⟨bb, off, rfl, hb, hc0⟩ := HH.out.cellY hlt
      have hcx := (hbel.cell (p := ⟨bb, off + k, none⟩) hb).trans hc0
      have HC := Lib.hid (HI.out wr hbel _ (ints_getD_mem hlt))
      have HTS : Hid ((l.take (k + 1)).map (imageF f) = (l.take k).map (imageF f) ++ [imageF f (l.getD k 0)]) := by show _ = _; rw [ints_take_succ hlt, List.map_append]; rfl
      have hkl : ((l.take k).map (imageF f)).length < 17592186044416 := by rw [List.length_map, List.length_take]; omega
      have HKL := Lib.hid hkl
      have hk0 : (0 : Int) ≤ (k : Int) := by omega
      have hk1 : (k : Int) < (l.length : Int) := by omega
      have hk2 : (k : Int) < 17592186044416 := by omega
      have HOW := Lib.hid hown
      have HBE := Lib.hid hbel
      have HLT := Lib.hid hlt
      clear hc0 hown hbel hkl
      generalize l.getD k 0 = x at *
      generalize imageF f x = y at *
      go_wp2_with (first
        | (go_at_call 23; refine HC.out.mono ?_; rintro e w1 ⟨rfl, rfl⟩)
        | (at_builtin; refine wpList_app1 rfl (.tmp 14) (.tmp 18) rfl w.heap.size _ ((l.take k).map (imageF f)) y wr.heap.size rfl rfl (HOW.out.alloc _) (cell_fresh rfl) HKL.out (by simp; omega) ?_; intro v1 w1 ho1 hg1; have HO1 := Lib.hid ho1; have HB1 := Lib.hid (below_app (HBE.out.alloc hszr _) (HOW.out.alloc _) (by simp; omega) hg1); clear ho1 hg1))
      go_roundw
      case rel => exact ⟨k + 1, by have := HLT.out; omega, by go_num, by rw [HTS.out]; exact HO1.out, HB1.out⟩
      case measure => have := HLT.out; simp [intOf]; omega
    · obtain rfl : k = l.length := by omega
      rw [List.take_length] at hown
      go_wp2
      go_ret
      exact ⟨_, rfl, hown, hbel⟩
end Go.Proofs.Ytafenijbglcppaa

/- circ: means, merged. -/
namespace Go.Proofs.Ytafenijbglcppaa
open Go.RowKit Go.Maps
set_option linter.unusedVariables false
set_option linter.unusedSimpArgs false

/-- What becomes of a gate: a kind, literals, a meaning. -/
abbrev Oc := Int × List Int × Int
theorem set_three {w : World} {b : Nat} {x y z u v t : Value} {T : TypeId} (h : w.heap[b]? = some (.cells #[x, y, z] T (0, 0))) :
    (((w.setCell ⟨b, 0, none⟩ u).setCell ⟨b, 1, none⟩ v).setCell ⟨b, 2, none⟩ t).heap[b]? = some (.cells #[u, v, t] T (0, 0)) := set_obj (set_obj (set_obj h))
theorem three_cells {w : World} {b : Nat} {x y z : Value} {T : TypeId} (h : w.heap[b]? = some (.cells #[x, y, z] T (0, 0))) :
    w.cell? ⟨b, 0, none⟩ = some x ∧ w.cell? ⟨b, 1, none⟩ = some y ∧ w.cell? ⟨b, 2, none⟩ = some z ∧ w.frozen? ⟨b, 0, none⟩ = false ∧ w.frozen? ⟨b, 1, none⟩ = false ∧ w.frozen? ⟨b, 2, none⟩ = false :=
  ⟨(arr_five h 0 rfl).1, (arr_five h 1 rfl).1, (arr_five h 2 rfl).1, (arr_five h 0 (v := x) rfl).2, (arr_five h 1 (v := y) rfl).2, (arr_five h 2 (v := z) rfl).2⟩
theorem kept_three (b : Nat) (w : World) (u v t : Value) : Kept (fun k => k = b) w (((w.setCell ⟨b, 0, none⟩ u).setCell ⟨b, 1, none⟩ v).setCell ⟨b, 2, none⟩ t) :=
  ((Kept.setCell w ⟨b, 0, none⟩ u).trans (Kept.setCell _ ⟨b, 1, none⟩ v)).trans (Kept.setCell _ ⟨b, 2, none⟩ t)
set_option maxRecDepth 100000 in
theorem cmeans_any (x : Int) (w : World) : Calls Try.prog 84 #[.int .i64 x] w fun e w' => e = .returned (.agg #[.int .u8 0, .slice none 0 0, .int .i64 x]) ∧ Below w.heap.size w w' := by
  have hb : Below w.heap.size w (w.alloc (.cells #[.int .u8 0, .slice none 0 0, .int .i64 x] 95)) := (Below.refl _ _).alloc (Nat.le_refl _) _
  have hh : (w.alloc (.cells #[.int .u8 0, .slice none 0 0, .int .i64 0] 95)).heap[w.heap.size]? = some (.cells #[.int .u8 0, .slice none 0 0, .int .i64 0] 95 (0, 0)) := by rw [heapy, if_pos rfl]
  have hh2 : (w.alloc (.cells #[.int .u8 0, .slice none 0 0, .int .i64 x] 95)).heap[w.heap.size]? = some (.cells #[.int .u8 0, .slice none 0 0, .int .i64 x] 95 (0, 0)) := by rw [heapy, if_pos rfl]
  obtain ⟨d0, d1, d2, e0, e1, e2⟩ := three_cells hh
  have HS := Lib.hid (three_cells hh2)
  have HB := Lib.hid hb
  clear hh hh2 hb
  go_enter Try.func84, Try.ntmps84
  go_wp2
  obtain ⟨g0, g1, g2, _⟩ := HS.out
  exact ⟨rfl, .agg #[.int .u8 0, .slice none 0 0, .int .i64 x], by simp [results, Try.f84, go_sem, g0, g1, g2], rfl, HB.out⟩

/-- The meanings that are left of a list. -/
def mrgL (idle : Int) : List Int → List Int → Option (List Int)
  | left, [] => some left
  | left, x :: r => if x = -idle ∨ -x ∈ left then none else if x ≠ idle ∧ x ∉ left then mrgL idle (left ++ [x]) r else mrgL idle left r
def mergedF (kind : Int) (l : List Int) (idle : Int) : Oc := match mrgL idle [] l with
  | none => (0, [], -idle)
  | some [] => (0, [], idle)
  | some [y] => (0, [], y)
  | some l => (kind, l, 0)
theorem mrgL_at {idle : Int} {left l : List Int} {k : Nat} (hk : k < l.length) : mrgL idle left (l.drop k) = if l.getD k 0 = -idle ∨ -(l.getD k 0) ∈ left then none else if l.getD k 0 ≠ idle ∧ l.getD k 0 ∉ left then mrgL idle (left ++ [l.getD k 0]) (l.drop (k + 1)) else mrgL idle left (l.drop (k + 1)) := by
  rw [List.drop_eq_getElem_cons hk]
  simp [mrgL, List.getD, hk]
theorem own_shC {w : World} {B : Nat} {v : Value} {xs : List Int} (h : Own w B v xs) : ∃ a c, v = .slice a xs.length c := by
  rcases h.2 with ⟨rfl, h2⟩ | ⟨g, cap, cur, rfl, _⟩
  · exact ⟨none, 0, by rw [h2]⟩
  · exact ⟨_, _, rfl⟩
def OutP (w : World) (r : Oc) (e : Ending) (w' : World) : Prop := ∃ v, e = .returned (.agg #[.int .u8 r.1, v, .int .i64 r.2.2]) ∧ Own w' w.heap.size v r.2.1 ∧ Below w.heap.size w w'

set_option maxRecDepth 100000 in
set_option maxHeartbeats 3200000 in
theorem cmerged_any (kind idle : Int) (v : Value) (l : List Int) (w : World) (H : IsInts w v l) (hb : ∀ x ∈ l, -9223372036854775807 ≤ x ∧ x ≤ 9223372036854775807) (hi1 : -9223372036854775807 ≤ idle) (hi2 : idle ≤ 9223372036854775807) (hll : l.length ≤ 3000000) :
    Calls Try.prog 83 #[.int .u8 kind, v, .int .i64 idle] w (OutP w (mergedF kind l idle)) := by
  have HH := Lib.hid H
  obtain ⟨a, cap, rfl⟩ := H.shape
  have hmm := @run_makeMap Try.prog
  have hb0 : Below w.heap.size w ((w.alloc (.cells #[.int .u8 0, .slice none 0 0, .int .i64 0] 95)).alloc (.map #[] 0)) := ((Below.refl w.heap.size w).alloc (Nat.le_refl _) _).alloc (by simp) _
  have hs0 : SetI ((w.alloc (.cells #[.int .u8 0, .slice none 0 0, .int .i64 0] 95)).alloc (.map #[] 0)) (w.heap.size + 1) [] := by
    have h := SetI.made (w.alloc (.cells #[.int .u8 0, .slice none 0 0, .int .i64 0] 95))
    simpa using h
  have hh0 : ((w.alloc (.cells #[.int .u8 0, .slice none 0 0, .int .i64 0] 95)).alloc (.map #[] 0)).heap[w.heap.size]? = some (.cells #[.int .u8 0, .slice none 0 0, .int .i64 0] 95 (0, 0)) := by
    rw [heapy, if_neg (by simp), heapy, if_pos rfl]
  have HB0 := Lib.hid hb0
  have HS0 := Lib.hid hs0
  have HH0 := Lib.hid hh0
  have HBD := Lib.hid hb
  clear H hb0 hs0 hh0 hb
  go_enter Try.func83, Try.ntmps83
  go_wp2
  generalize (w.alloc (.cells #[.int .u8 0, .slice none 0 0, .int .i64 0] 95)).alloc (.map #[] 0) = W at *
  have hz : ∀ X : World, (zeroValue 4).run Try.prog X = .ok (.bool false) X := fun _ => rfl
  have HZ := Lib.hid hz
  clear hz
  go_loopw [7, 14] (fun o i wr => ∃ (k : Nat) (left : List Int), k ≤ l.length ∧ i = .int .i64 k ∧ left.length ≤ k ∧ Own wr (w.heap.size + 2) o left ∧ SetI wr (w.heap.size + 1) left ∧ wr.heap[w.heap.size]? = some (.cells #[.int .u8 0, .slice none 0 0, .int .i64 0] 95 (0, 0)) ∧ Below w.heap.size w wr ∧ w.heap.size + 2 ≤ wr.heap.size ∧ Hid (mrgL idle [] l = mrgL idle left (l.drop k)) ∧ Hid (∀ x ∈ left, x ∈ l)) (fun _ i _ => l.length - (intOf i).toNat)
  case atStart => exact ⟨0, [], Nat.zero_le _, rfl, Nat.le_refl _, Own.nil _ _, HS0.out, HH0.out, HB0.out, HS0.out.lt, rfl, fun x hx => by cases hx⟩
  case round =>
    clear HS0 HH0 HB0
    obtain ⟨k, left, hk, rfl, hlk, hown, hset, hcl, hbel, hsz, hmg, hin⟩ := hrel
    obtain ⟨oa, oc, rfl⟩ := own_shC hown
    have HCL := Lib.hid hcl
    have HBE := Lib.hid hbel
    have HOW := Lib.hid hown
    have HSE := Lib.hid hset
    by_cases hlt : k < l.length
    · obtain ⟨bb, off, rfl, hbb, hc0⟩ := HH.out.cellY hlt
      have hcx := (hbel.cell (p := ⟨bb, off + k, none⟩) hbb).trans hc0
      have hxm := ints_getD_mem hlt
      have hxb := HBD.out _ hxm
      have HAT := Lib.hid (mrgL_at (idle := idle) (left := left) hlt)
      have hk0 : (0 : Int) ≤ (k : Int) := by omega
      have hk1 : (k : Int) < (l.length : Int) := by omega
      have hk2 : (k : Int) < 4000001 := by omega
      have HKL := Lib.hid hlt
      have HXM := Lib.hid hxm
      clear hxm hc0
      generalize l.getD k 0 = x at *
      have hx1 := hxb.1
      have hx2 := hxb.2
      have hla := hset.look (HZ.out wr) (-x) (i64w (by omega) (by omega))
      have hlb := hset.look (HZ.out wr) x (i64w (by omega) (by omega))
      have HXW := Lib.hid (i64w (show -9223372036854775808 ≤ x by omega) hx2)
      clear hcl hbel hown hset hxb
      have HRET : Hid (mrgL idle [] l = none → ∀ w1, Below wr.heap.size wr w1 → (w1.cell? ⟨w.heap.size, 0, none⟩ = some (.int .u8 0) ∧ w1.cell? ⟨w.heap.size, 1, none⟩ = some (.slice none 0 0) ∧ w1.cell? ⟨w.heap.size, 2, none⟩ = some (.int .i64 0) ∧ w1.frozen? ⟨w.heap.size, 0, none⟩ = false ∧ w1.frozen? ⟨w.heap.size, 1, none⟩ = false ∧ w1.frozen? ⟨w.heap.size, 2, none⟩ = false) ∧
          (∀ y : Int, let X := ((w1.setCell ⟨w.heap.size, 0, none⟩ (.int .u8 0)).setCell ⟨w.heap.size, 1, none⟩ (.slice none 0 0)).setCell ⟨w.heap.size, 2, none⟩ (.int .i64 y); (X.cell? ⟨w.heap.size, 0, none⟩ = some (.int .u8 0) ∧ X.cell? ⟨w.heap.size, 1, none⟩ = some (.slice none 0 0) ∧ X.cell? ⟨w.heap.size, 2, none⟩ = some (.int .i64 y)) ∧ Below w.heap.size w X)) := fun _ w1 hb1 => by
        have h1 := (hb1.block w.heap.size (by omega)).trans HCL.out
        refine ⟨three_cells h1, fun y => ?_⟩
        have h2 := three_cells (set_three (u := .int .u8 0) (v := .slice none 0 0) (t := .int .i64 y) h1)
        exact ⟨⟨h2.1, h2.2.1, h2.2.2.1⟩, (HBE.out.trans (hb1.mono HBE.out.size)).trans ((kept_three w.heap.size w1 (.int .u8 0) (.slice none 0 0) (.int .i64 y)).below (Nat.le_trans HBE.out.size hb1.size) (fun i hi e => by omega))⟩
      by_cases hxe : x = -idle
      · have hxt : (x == -idle) = true := by simp [hxe]
        have HN : Hid (mrgL idle [] l = none) := by show _ = _; rw [hmg.out, HAT.out, if_pos (Or.inl hxe)]
        have HR : Hid (mergedF kind l idle = (0, [], -idle)) := by show _ = _; unfold mergedF; rw [HN.out]
        clear HAT hla hlb hmg hxe
        go_wp2_with (go_at_call 84; refine (cmeans_any _ _).mono ?_; rintro e w1 ⟨rfl, hb1⟩; obtain ⟨⟨d0, d1, d2, e0, e1, e2⟩, hrt⟩ := HRET.out HN.out w1 hb1)
        obtain ⟨⟨g0, g1, g2⟩, hbf⟩ := hrt (-idle)
        refine ⟨rfl, .agg #[.int .u8 0, .slice none 0 0, .int .i64 (-idle)], by simp [results, Try.f83, go_sem, g0, g1, g2], ?_⟩
        unfold OutP
        rw [HR.out]
        exact ⟨_, rfl, Own.nil _ _, hbf⟩
      · have hxt : (x == -idle) = false := by simpa using hxe
        by_cases hxl : -x ∈ left
        · have HN : Hid (mrgL idle [] l = none) := by show _ = _; rw [hmg.out, HAT.out, if_pos (Or.inr hxl)]
          have HR : Hid (mergedF kind l idle = (0, [], -idle)) := by show _ = _; unfold mergedF; rw [HN.out]
          have hd : decide (-x ∈ left) = true := by simpa using hxl
          rw [hd] at hla
          clear HAT hlb hmg hxe hd hxl
          go_wp2_with (go_at_call 84; refine (cmeans_any _ _).mono ?_; rintro e w1 ⟨rfl, hb1⟩; obtain ⟨⟨d0, d1, d2, e0, e1, e2⟩, hrt⟩ := HRET.out HN.out w1 hb1)
          obtain ⟨⟨g0, g1, g2⟩, hbf⟩ := hrt (-idle)
          refine ⟨rfl, .agg #[.int .u8 0, .slice none 0 0, .int .i64 (-idle)], by simp [results, Try.f83, go_sem, g0, g1, g2], ?_⟩
          unfold OutP
          rw [HR.out]
          exact ⟨_, rfl, Own.nil _ _, hbf⟩
        · have hd : decide (-x ∈ left) = false := by simpa using hxl
          rw [hd] at hla
          have HAT2 : Hid (mrgL idle [] l = if x ≠ idle ∧ x ∉ left then mrgL idle (left ++ [x]) (l.drop (k + 1)) else mrgL idle left (l.drop (k + 1))) := by
            show _ = _
            rw [hmg.out, HAT.out, if_neg (fun h => h.elim hxe hxl)]
          clear HAT hmg hd hxl hxe HRET
          by_cases hxi : x = idle
          · have hxj : (x != idle) = false := by simp [hxi]
            have HN : Hid (mrgL idle [] l = mrgL idle left (l.drop (k + 1))) := by show _ = _; rw [HAT2.out, if_neg (fun h => h.1 hxi)]
            clear HAT2 hlb hxi
            go_wp2
            go_roundw
            case rel => exact ⟨k + 1, left, by have := HKL.out; omega, by go_num, by omega, HOW.out, HSE.out, HCL.out, HBE.out, hsz, HN.out, hin⟩
            case measure => have := HKL.out; simp [intOf]; omega
          · have hxj : (x != idle) = true := by simpa using hxi
            by_cases hxk : x ∈ left
            · have hd : decide (x ∈ left) = true := by simpa using hxk
              rw [hd] at hlb
              have HN : Hid (mrgL idle [] l = mrgL idle left (l.drop (k + 1))) := by show _ = _; rw [HAT2.out, if_neg (fun h => h.2 hxk)]
              clear HAT2 hxi hd hxk
              go_wp2
              go_roundw
              case rel => exact ⟨k + 1, left, by have := HKL.out; omega, by go_num, by omega, HOW.out, HSE.out, HCL.out, HBE.out, hsz, HN.out, hin⟩
              case measure => have := HKL.out; simp [intOf]; omega
            · have hd : decide (x ∈ left) = false := by simpa using hxk
              rw [hd] at hlb
              have HN : Hid (mrgL idle [] l = mrgL idle (left ++ [x]) (l.drop (k + 1))) := by show _ = _; rw [HAT2.out, if_pos ⟨hxi, hxk⟩]
              have HXK := Lib.hid hxk
              have HIN : Hid (∀ y ∈ left ++ [x], y ∈ l) := fun y hy => by
                rcases List.mem_append.1 hy with hy | hy
                · exact hin.out y hy
                · rw [List.mem_singleton] at hy; rw [hy]; exact HXM.out
              clear HAT2 hxi hd hxk
              go_wp2_with (first
                | (at_mapUpdate; go_loud (refine wpList_putS rfl _ _ _ rfl rfl HSE.out (by unfold maxLen; omega) x rfl rfl HXW.out HXK.out ?_; intro w1 hs1 hk1; have HS1 := Lib.hid hs1; have HO1 : Hid (Own w1 (w.heap.size + 2) (.slice oa left.length oc) left) := hk1.row HOW.out (fun g hg e => by have := (HOW.out.lt g hg).1; omega); have HC1 : Hid (w1.heap[w.heap.size]? = some (.cells #[.int .u8 0, .slice none 0 0, .int .i64 0] 95 (0, 0))) := (hk1.block _ (by omega) (by omega)).trans HCL.out; have HB1 : Hid (Below w.heap.size w w1) := HBE.out.trans (hk1.below HBE.out.size (fun i hi e => by omega)); have hz1 : w.heap.size + 2 ≤ w1.heap.size := Nat.le_trans hsz hk1.size; clear hs1 hk1))
                | (at_builtin; go_loud (refine wpList_app1 rfl (.tmp 42) (.tmp 44) rfl (w.heap.size + 2) (.slice oa left.length oc) left x w1.heap.size rfl rfl (HO1.out.alloc _) (cell_fresh rfl) (by omega) (by simp; omega) ?_; intro v2 w2 ho2 hg2; have hal : Below w1.heap.size w1 (w1.alloc (.cells #[.int .i64 x] 3)) := (Below.refl _ _).alloc (Nat.le_refl _) _; have hlo : ∀ g, (Value.slice oa left.length oc).ownBlock = some g → w.heap.size + 2 ≤ g := fun g hg => (HO1.out.lt g hg).1; have HS2 : Hid (SetI w2 (w.heap.size + 1) (left ++ [x])) := (HS1.out.below hal (Nat.le_refl _)).kept (Kept.of_grown hg2) (fun e => by have := hlo _ e; omega); have HC2 : Hid (w2.heap[w.heap.size]? = some (.cells #[.int .u8 0, .slice none 0 0, .int .i64 0] 95 (0, 0))) := (hg2.block _ (by simp; omega) (fun e => by have := hlo _ e.symm; omega)).trans ((hal.block _ (by omega)).trans HC1.out); have HB2 : Hid (Below w.heap.size w w2) := (HB1.out.alloc HB1.out.size _).grown hg2 (by simp; omega) (fun g hg => by have := hlo g hg; omega); have hz2 : w.heap.size + 2 ≤ w2.heap.size := Nat.le_trans (Nat.le_trans hz1 hal.size) hg2.size; have HO2 := Lib.hid ho2; clear ho2 hg2 hal hlo)))
              go_roundw
              case rel => exact ⟨k + 1, left ++ [x], by have := HKL.out; omega, by go_num, by simp; omega, HO2.out, HS2.out, HC2.out, HB2.out, hz2, HN.out, HIN.out⟩
              case measure => have := HKL.out; simp [intOf]; omega
    · obtain rfl : k = l.length := by omega
      have HM : Hid (mrgL idle [] l = some left) := by show _ = _; rw [hmg.out, List.drop_length]; rfl
      have HRET : Hid (∀ w1, Below wr.heap.size wr w1 → (w1.cell? ⟨w.heap.size, 0, none⟩ = some (.int .u8 0) ∧ w1.cell? ⟨w.heap.size, 1, none⟩ = some (.slice none 0 0) ∧ w1.cell? ⟨w.heap.size, 2, none⟩ = some (.int .i64 0) ∧ w1.frozen? ⟨w.heap.size, 0, none⟩ = false ∧ w1.frozen? ⟨w.heap.size, 1, none⟩ = false ∧ w1.frozen? ⟨w.heap.size, 2, none⟩ = false) ∧
          (∀ u v t, ((((w1.setCell ⟨w.heap.size, 0, none⟩ u).setCell ⟨w.heap.size, 1, none⟩ v).setCell ⟨w.heap.size, 2, none⟩ t).cell? ⟨w.heap.size, 0, none⟩ = some u ∧ (((w1.setCell ⟨w.heap.size, 0, none⟩ u).setCell ⟨w.heap.size, 1, none⟩ v).setCell ⟨w.heap.size, 2, none⟩ t).cell? ⟨w.heap.size, 1, none⟩ = some v ∧ (((w1.setCell ⟨w.heap.size, 0, none⟩ u).setCell ⟨w.heap.size, 1, none⟩ v).setCell ⟨w.heap.size, 2, none⟩ t).cell? ⟨w.heap.size, 2, none⟩ = some t) ∧ Below w.heap.size w (((w1.setCell ⟨w.heap.size, 0, none⟩ u).setCell ⟨w.heap.size, 1, none⟩ v).setCell ⟨w.heap.size, 2, none⟩ t))) := fun w1 hb1 => by
        have h1 := (hb1.block w.heap.size (by omega)).trans HCL.out
        refine ⟨three_cells h1, fun u v t => ?_⟩
        have h2 := three_cells (set_three (u := u) (v := v) (t := t) h1)
        exact ⟨⟨h2.1, h2.2.1, h2.2.2.1⟩, (HBE.out.trans (hb1.mono HBE.out.size)).trans ((kept_three w.heap.size w1 u v t).below (Nat.le_trans HBE.out.size hb1.size) (fun i hi e => by omega))⟩
      clear hcl hbel hown hset hmg
      by_cases h0 : left.length = 0
      · have hl0 : ((left.length : Int) == 0) = true := by simp [h0]
        have HR : Hid (mergedF kind l idle = (0, [], idle)) := by show _ = _; unfold mergedF; rw [HM.out, List.eq_nil_of_length_eq_zero h0]
        clear h0 HM
        go_wp2_with (go_at_call 84; refine (cmeans_any _ _).mono ?_; rintro e w1 ⟨rfl, hb1⟩; obtain ⟨⟨d0, d1, d2, e0, e1, e2⟩, hrt⟩ := HRET.out w1 hb1)
        obtain ⟨⟨g0, g1, g2⟩, hbf⟩ := hrt (.int .u8 0) (.slice none 0 0) (.int .i64 idle)
        refine ⟨rfl, .agg #[.int .u8 0, .slice none 0 0, .int .i64 idle], by simp [results, Try.f83, go_sem, g0, g1, g2], ?_⟩
        unfold OutP
        rw [HR.out]
        exact ⟨_, rfl, Own.nil _ _, hbf⟩
      · have hl0 : ((left.length : Int) == 0) = false := by simpa using h0
        by_cases h1 : left.length = 1
        · have hl1 : ((left.length : Int) == 1) = true := by simp [h1]
          obtain ⟨y, hy⟩ : ∃ y, left = [y] := List.length_eq_one_iff.1 h1
          have hli : IsInts wr (.slice oa left.length oc) left := HOW.out.ints (by omega) (fun z hz => by have := HBD.out z (hin.out z hz); omega)
          obtain ⟨ub, uo, rfl, hub, huc⟩ := hli.cellY (k := 0) (by omega)
          rw [Nat.add_zero] at huc
          have hgy : left.getD 0 0 = y := by rw [hy]; rfl
          rw [hgy] at huc
          have HR : Hid (mergedF kind l idle = (0, [], y)) := by show _ = _; unfold mergedF; rw [HM.out, hy]
          have hl2 : (0 : Int) < (left.length : Int) := by omega
          clear h0 h1 HM hli hgy hy
          go_wp2_with (go_at_call 84; refine (cmeans_any _ _).mono ?_; rintro e w1 ⟨rfl, hb1⟩; obtain ⟨⟨d0, d1, d2, e0, e1, e2⟩, hrt⟩ := HRET.out w1 hb1)
          obtain ⟨⟨g0, g1, g2⟩, hbf⟩ := hrt (.int .u8 0) (.slice none 0 0) (.int .i64 y)
          refine ⟨rfl, .agg #[.int .u8 0, .slice none 0 0, .int .i64 y], by simp [results, Try.f83, go_sem, g0, g1, g2], ?_⟩
          unfold OutP
          rw [HR.out]
          exact ⟨_, rfl, Own.nil _ _, hbf⟩
        · have hl1 : ((left.length : Int) == 1) = false := by
            rw [beq_eq_false_iff_ne]
            omega
          have HR : Hid (mergedF kind l idle = (kind, left, 0)) := by
            show _ = _
            unfold mergedF
            rw [HM.out]
            match left, h0, h1 with
            | [], h0, _ => exact absurd rfl h0
            | [y], _, h1 => exact absurd rfl h1
            | y :: z :: r, _, _ => rfl
          have HOF : Hid (Own (((wr.setCell ⟨w.heap.size, 0, none⟩ (.int .u8 kind)).setCell ⟨w.heap.size, 1, none⟩ (.slice oa left.length oc)).setCell ⟨w.heap.size, 2, none⟩ (.int .i64 0)) w.heap.size (.slice oa left.length oc) left) := by
            refine Own.mono ((kept_three w.heap.size wr (.int .u8 kind) (.slice oa left.length oc) (.int .i64 0)).row HOW.out (fun g hg e => ?_)) (by omega)
            have := (HOW.out.lt g hg).1
            omega
          clear h0 h1 HM
          obtain ⟨⟨d0, d1, d2, e0, e1, e2⟩, hrt⟩ := HRET.out wr (Below.refl _ _)
          obtain ⟨⟨g0, g1, g2⟩, hbf⟩ := hrt (.int .u8 kind) (.slice oa left.length oc) (.int .i64 0)
          clear hrt
          go_wp2
          refine ⟨rfl, .agg #[.int .u8 kind, .slice oa left.length oc, .int .i64 0], by simp [results, Try.f83, go_sem, g0, g1, g2], ?_⟩
          unfold OutP
          rw [HR.out]
          exact ⟨_, rfl, HOF.out, hbf⟩
end Go.Proofs.Ytafenijbglcppaa

/- circ: and, or, and the functions of these kinds. -/
namespace Go.Proofs.Ytafenijbglcppaa
open Go.RowKit
set_option linter.unusedVariables false
set_option linter.unusedSimpArgs false

/-- A box for an outcome at the world's end: what is stored there is read, and lists of the call stay. -/
theorem box_ret {w w1 : World} (hb : Below (w.alloc (.cells #[.int .u8 0, .slice none 0 0, .int .i64 0] 95)).heap.size (w.alloc (.cells #[.int .u8 0, .slice none 0 0, .int .i64 0] 95)) w1) :
    (w1.cell? ⟨w.heap.size, 0, none⟩ = some (.int .u8 0) ∧ w1.cell? ⟨w.heap.size, 1, none⟩ = some (.slice none 0 0) ∧ w1.cell? ⟨w.heap.size, 2, none⟩ = some (.int .i64 0) ∧ w1.frozen? ⟨w.heap.size, 0, none⟩ = false ∧ w1.frozen? ⟨w.heap.size, 1, none⟩ = false ∧ w1.frozen? ⟨w.heap.size, 2, none⟩ = false) ∧
    ∀ u v t, ((((w1.setCell ⟨w.heap.size, 0, none⟩ u).setCell ⟨w.heap.size, 1, none⟩ v).setCell ⟨w.heap.size, 2, none⟩ t).cell? ⟨w.heap.size, 0, none⟩ = some u ∧ (((w1.setCell ⟨w.heap.size, 0, none⟩ u).setCell ⟨w.heap.size, 1, none⟩ v).setCell ⟨w.heap.size, 2, none⟩ t).cell? ⟨w.heap.size, 1, none⟩ = some v ∧ (((w1.setCell ⟨w.heap.size, 0, none⟩ u).setCell ⟨w.heap.size, 1, none⟩ v).setCell ⟨w.heap.size, 2, none⟩ t).cell? ⟨w.heap.size, 2, none⟩ = some t) ∧
      Below w.heap.size w (((w1.setCell ⟨w.heap.size, 0, none⟩ u).setCell ⟨w.heap.size, 1, none⟩ v).setCell ⟨w.heap.size, 2, none⟩ t) ∧
      ∀ x l, Own w1 (w.alloc (.cells #[.int .u8 0, .slice none 0 0, .int .i64 0] 95)).heap.size x l → Own (((w1.setCell ⟨w.heap.size, 0, none⟩ u).setCell ⟨w.heap.size, 1, none⟩ v).setCell ⟨w.heap.size, 2, none⟩ t) w.heap.size x l := by
  have hsz : (w.alloc (.cells #[.int .u8 0, .slice none 0 0, .int .i64 0] 95)).heap.size = w.heap.size + 1 := by simp
  have h0 : (w.alloc (.cells #[.int .u8 0, .slice none 0 0, .int .i64 0] 95)).heap[w.heap.size]? = some (.cells #[.int .u8 0, .slice none 0 0, .int .i64 0] 95 (0, 0)) := by rw [heapy, if_pos rfl]
  have h1 := (hb.block w.heap.size (by omega)).trans h0
  have hbw : Below w.heap.size w w1 := ((Below.refl w.heap.size w).alloc (Nat.le_refl _) _).trans (hb.mono (by omega))
  refine ⟨three_cells h1, fun u v t => ?_⟩
  have h2 := three_cells (set_three (u := u) (v := v) (t := t) h1)
  refine ⟨⟨h2.1, h2.2.1, h2.2.2.1⟩, hbw.trans ((kept_three w.heap.size w1 u v t).below hbw.size (fun i hi e => by omega)), fun x l ho => ?_⟩
  refine Own.mono ((kept_three w.heap.size w1 u v t).row ho (fun g hg e => ?_)) (by omega)
  have := (ho.lt g hg).1
  omega
set_option maxRecDepth 100000 in
set_option maxHeartbeats 1600000 in
theorem cand_any (v : Value) (l : List Int) (w : World) (H : IsInts w v l) (hb : ∀ x ∈ l, -9223372036854775807 ≤ x ∧ x ≤ 9223372036854775807) (hll : l.length ≤ 3000000) :
    Calls Try.prog 64 #[v] w (OutP w (mergedF 1 l (65537))) := by
  have hbW : Below w.heap.size w (w.alloc (.cells #[.int .u8 0, .slice none 0 0, .int .i64 0] 95)) := (Below.refl _ _).alloc (Nat.le_refl _) _
  have HM := Lib.hid (cmerged_any 1 65537 v l (w.alloc (.cells #[.int .u8 0, .slice none 0 0, .int .i64 0] 95)) (H.below hbW (Nat.le_refl _)) hb (by omega) (by omega) hll)
  obtain ⟨a, cap, rfl⟩ := H.shape
  clear H hb hbW
  obtain ⟨⟨rk, rl, rm⟩, hR⟩ : ∃ r, mergedF 1 l (65537) = r := ⟨_, rfl⟩
  rw [hR] at HM ⊢
  clear hR
  go_enter Try.func64, Try.ntmps64
  go_wp2_with (go_at_call 83; refine HM.out.mono ?_; rintro e w1 ⟨u, rfl, ho1, hb1⟩; simp only at ho1; obtain ⟨ua, uc, rfl⟩ := own_shC ho1; obtain ⟨⟨d0, d1, d2, e0, e1, e2⟩, hrt⟩ := box_ret hb1; have HRT := Lib.hid hrt; clear hrt; have HO1 := Lib.hid ho1; clear ho1)
  obtain ⟨⟨g0, g1, g2⟩, hbf, hof⟩ := HRT.out (.int .u8 rk) (.slice ua rl.length uc) (.int .i64 rm)
  refine ⟨rfl, .agg #[.int .u8 rk, .slice ua rl.length uc, .int .i64 rm], by simp [results, Try.f64, go_sem, g0, g1, g2], ?_⟩
  exact ⟨_, rfl, hof _ _ HO1.out, hbf⟩
set_option maxRecDepth 100000 in
set_option maxHeartbeats 1600000 in
theorem cor_any (v : Value) (l : List Int) (w : World) (H : IsInts w v l) (hb : ∀ x ∈ l, -9223372036854775807 ≤ x ∧ x ≤ 9223372036854775807) (hll : l.length ≤ 3000000) :
    Calls Try.prog 66 #[v] w (OutP w (mergedF 2 l (-65537))) := by
  have hbW : Below w.heap.size w (w.alloc (.cells #[.int .u8 0, .slice none 0 0, .int .i64 0] 95)) := (Below.refl _ _).alloc (Nat.le_refl _) _
  have HM := Lib.hid (cmerged_any 2 (-65537) v l (w.alloc (.cells #[.int .u8 0, .slice none 0 0, .int .i64 0] 95)) (H.below hbW (Nat.le_refl _)) hb (by omega) (by omega) hll)
  obtain ⟨a, cap, rfl⟩ := H.shape
  clear H hb hbW
  obtain ⟨⟨rk, rl, rm⟩, hR⟩ : ∃ r, mergedF 2 l (-65537) = r := ⟨_, rfl⟩
  rw [hR] at HM ⊢
  clear hR
  go_enter Try.func66, Try.ntmps66
  go_wp2_with (go_at_call 83; refine HM.out.mono ?_; rintro e w1 ⟨u, rfl, ho1, hb1⟩; simp only at ho1; obtain ⟨ua, uc, rfl⟩ := own_shC ho1; obtain ⟨⟨d0, d1, d2, e0, e1, e2⟩, hrt⟩ := box_ret hb1; have HRT := Lib.hid hrt; clear hrt; have HO1 := Lib.hid ho1; clear ho1)
  obtain ⟨⟨g0, g1, g2⟩, hbf, hof⟩ := HRT.out (.int .u8 rk) (.slice ua rl.length uc) (.int .i64 rm)
  refine ⟨rfl, .agg #[.int .u8 rk, .slice ua rl.length uc, .int .i64 rm], by simp [results, Try.f66, go_sem, g0, g1, g2], ?_⟩
  exact ⟨_, rfl, hof _ _ HO1.out, hbf⟩
set_option maxRecDepth 100000 in
set_option maxHeartbeats 1600000 in
theorem csim1_any (v : Value) (l : List Int) (w : World) (H : IsInts w v l) (hb : ∀ x ∈ l, -9223372036854775807 ≤ x ∧ x ≤ 9223372036854775807) (hll : l.length ≤ 3000000) :
    Calls Try.prog 63 #[v] w (OutP w (mergedF 1 l (65537))) := by
  have hbW : Below w.heap.size w (w.alloc (.cells #[.int .u8 0, .slice none 0 0, .int .i64 0] 95)) := (Below.refl _ _).alloc (Nat.le_refl _) _
  have HM := Lib.hid (cand_any v l (w.alloc (.cells #[.int .u8 0, .slice none 0 0, .int .i64 0] 95)) (H.below hbW (Nat.le_refl _)) hb hll)
  obtain ⟨a, cap, rfl⟩ := H.shape
  clear H hb hbW
  obtain ⟨⟨rk, rl, rm⟩, hR⟩ : ∃ r, mergedF 1 l (65537) = r := ⟨_, rfl⟩
  rw [hR] at HM ⊢
  clear hR
  go_enter Try.func63, Try.ntmps63
  go_wp2_with (go_at_call 64; refine HM.out.mono ?_; rintro e w1 ⟨u, rfl, ho1, hb1⟩; simp only at ho1; obtain ⟨ua, uc, rfl⟩ := own_shC ho1; obtain ⟨⟨d0, d1, d2, e0, e1, e2⟩, hrt⟩ := box_ret hb1; have HRT := Lib.hid hrt; clear hrt; have HO1 := Lib.hid ho1; clear ho1)
  obtain ⟨⟨g0, g1, g2⟩, hbf, hof⟩ := HRT.out (.int .u8 rk) (.slice ua rl.length uc) (.int .i64 rm)
  refine ⟨rfl, .agg #[.int .u8 rk, .slice ua rl.length uc, .int .i64 rm], by simp [results, Try.f63, go_sem, g0, g1, g2], ?_⟩
  exact ⟨_, rfl, hof _ _ HO1.out, hbf⟩
set_option maxRecDepth 100000 in
set_option maxHeartbeats 1600000 in
theorem csim2_any (v : Value) (l : List Int) (w : World) (H : IsInts w v l) (hb : ∀ x ∈ l, -9223372036854775807 ≤ x ∧ x ≤ 9223372036854775807) (hll : l.length ≤ 3000000) :
    Calls Try.prog 65 #[v] w (OutP w (mergedF 2 l (-65537))) := by
  have hbW : Below w.heap.size w (w.alloc (.cells #[.int .u8 0, .slice none 0 0, .int .i64 0] 95)) := (Below.refl _ _).alloc (Nat.le_refl _) _
  have HM := Lib.hid (cor_any v l (w.alloc (.cells #[.int .u8 0, .slice none 0 0, .int .i64 0] 95)) (H.below hbW (Nat.le_refl _)) hb hll)
  obtain ⟨a, cap, rfl⟩ := H.shape
  clear H hb hbW
  obtain ⟨⟨rk, rl, rm⟩, hR⟩ : ∃ r, mergedF 2 l (-65537) = r := ⟨_, rfl⟩
  rw [hR] at HM ⊢
  clear hR
  go_enter Try.func65, Try.ntmps65
  go_wp2_with (go_at_call 66; refine HM.out.mono ?_; rintro e w1 ⟨u, rfl, ho1, hb1⟩; simp only at ho1; obtain ⟨ua, uc, rfl⟩ := own_shC ho1; obtain ⟨⟨d0, d1, d2, e0, e1, e2⟩, hrt⟩ := box_ret hb1; have HRT := Lib.hid hrt; clear hrt; have HO1 := Lib.hid ho1; clear ho1)
  obtain ⟨⟨g0, g1, g2⟩, hbf, hof⟩ := HRT.out (.int .u8 rk) (.slice ua rl.length uc) (.int .i64 rm)
  refine ⟨rfl, .agg #[.int .u8 rk, .slice ua rl.length uc, .int .i64 rm], by simp [results, Try.f65, go_sem, g0, g1, g2], ?_⟩
  exact ⟨_, rfl, hof _ _ HO1.out, hbf⟩
end Go.Proofs.Ytafenijbglcppaa

/- circ: xor, ite. -/
namespace Go.Proofs.Ytafenijbglcppaa
open Go.RowKit
set_option linter.unusedVariables false
set_option linter.unusedSimpArgs false

def xorF (a b : Int) : Oc := if a = -65537 then (0, [], b) else if a = 65537 then (0, [], -b) else if b = -65537 then (0, [], a) else if b = 65537 then (0, [], -a) else if a = b then (0, [], -65537) else if a = -b then (0, [], 65537) else (3, [a, b], 0)
def iteF (c a b : Int) : Oc := if c = 65537 then (0, [], a) else if c = -65537 then (0, [], b) else if a = b then (0, [], a) else if a = 65537 then mergedF 2 [c, b] (-65537) else if a = -65537 then mergedF 1 [-c, b] 65537 else if b = 65537 then mergedF 2 [-c, a] (-65537) else if b = -65537 then mergedF 1 [c, a] 65537 else (4, [c, a, b], 0)
theorem own_new {w : World} {l : List Int} : Own (w.alloc (.cells (l.map (Value.int .i64)).toArray 3)) w.heap.size (.slice (some ⟨w.heap.size, 0, none⟩) l.length l.length) l ∨ 1000000 < l.length := by
  by_cases h : l.length ≤ 1000000
  · refine .inl ⟨by simp, .inr ⟨w.heap.size, l.length, _, rfl, Nat.le_refl _, by rw [heapy, if_pos rfl], Nat.le_refl _, by unfold maxLen; omega, by simp, ?_⟩⟩
    simp
    exact List.take_of_length_le (by simp)
  · exact .inr (by omega)
theorem own_new2 (w : World) (a b : Int) : Own (w.alloc (.cells #[.int .i64 a, .int .i64 b] 3)) w.heap.size (.slice (some ⟨w.heap.size, 0, none⟩) 2 2) [a, b] := (own_new (w := w) (l := [a, b])).elim (fun h => h) (fun h => by simp at h)
theorem own_new3 (w : World) (a b c : Int) : Own (w.alloc (.cells #[.int .i64 a, .int .i64 b, .int .i64 c] 3)) w.heap.size (.slice (some ⟨w.heap.size, 0, none⟩) 3 3) [a, b, c] := (own_new (w := w) (l := [a, b, c])).elim (fun h => h) (fun h => by simp at h)
set_option maxRecDepth 100000 in
set_option maxHeartbeats 6400000 in
theorem cxor_any (a b : Int) (w : World) (ha1 : -9223372036854775807 ≤ a) (ha2 : a ≤ 9223372036854775807) (hb1 : -9223372036854775807 ≤ b) (hb2 : b ≤ 9223372036854775807) :
    Calls Try.prog 68 #[.int .i64 a, .int .i64 b] w (OutP w (xorF a b)) := by
  have h0 : (w.alloc (.cells #[.int .u8 0, .slice none 0 0, .int .i64 0] 95)).heap[w.heap.size]? = some (.cells #[.int .u8 0, .slice none 0 0, .int .i64 0] 95 (0, 0)) := by rw [heapy, if_pos rfl]
  have HW : Hid (w.heap.size < (w.alloc (.cells #[.int .u8 0, .slice none 0 0, .int .i64 0] 95)).heap.size) := by show _ < _; simp
  clear h0
  by_cases c0 : a = -65537
  · have e0q : (a == -65537) = true := by simpa using c0
    have HR : Hid (xorF a b = (0, [], b)) := by show _ = _; unfold xorF;  rw [if_pos c0]
    clear c0
    go_enter Try.func68, Try.ntmps68
    go_wp2_with (go_at_call 84; refine (cmeans_any _ _).mono ?_; rintro e w1 ⟨rfl, hb1⟩; obtain ⟨⟨d0, d1, d2, k0, k1, k2⟩, hrt⟩ := box_ret hb1; have HRT := Lib.hid hrt; clear hrt)
    obtain ⟨⟨g0, g1, g2⟩, hbf, hof⟩ := HRT.out (.int .u8 0) (.slice none 0 0) (.int .i64 (b))
    refine ⟨rfl, .agg #[.int .u8 0, .slice none 0 0, .int .i64 (b)], by simp [results, Try.f68, go_sem, g0, g1, g2], ?_⟩
    rw [HR.out]
    exact ⟨_, rfl, Own.nil _ _, hbf⟩
  · have e0q : (a == -65537) = false := by simpa using c0
    by_cases c1 : a = 65537
    · have e1q : (a == 65537) = true := by simpa using c1
      have HR : Hid (xorF a b = (0, [], -b)) := by show _ = _; unfold xorF; rw [if_neg c0]; rw [if_pos c1]
      clear c0 c1
      go_enter Try.func68, Try.ntmps68
      go_wp2_with (go_at_call 84; refine (cmeans_any _ _).mono ?_; rintro e w1 ⟨rfl, hb1⟩; obtain ⟨⟨d0, d1, d2, k0, k1, k2⟩, hrt⟩ := box_ret hb1; have HRT := Lib.hid hrt; clear hrt)
      obtain ⟨⟨g0, g1, g2⟩, hbf, hof⟩ := HRT.out (.int .u8 0) (.slice none 0 0) (.int .i64 (-b))
      refine ⟨rfl, .agg #[.int .u8 0, .slice none 0 0, .int .i64 (-b)], by simp [results, Try.f68, go_sem, g0, g1, g2], ?_⟩
      rw [HR.out]
      exact ⟨_, rfl, Own.nil _ _, hbf⟩
    · have e1q : (a == 65537) = false := by simpa using c1
      by_cases c2 : b = -65537
      · have e2q : (b == -65537) = true := by simpa using c2
        have HR : Hid (xorF a b = (0, [], a)) := by show _ = _; unfold xorF; rw [if_neg c0]; rw [if_neg c1]; rw [if_pos c2]
        clear c0 c1 c2
        go_enter Try.func68, Try.ntmps68
        go_wp2_with (go_at_call 84; refine (cmeans_any _ _).mono ?_; rintro e w1 ⟨rfl, hb1⟩; obtain ⟨⟨d0, d1, d2, k0, k1, k2⟩, hrt⟩ := box_ret hb1; have HRT := Lib.hid hrt; clear hrt)
        obtain ⟨⟨g0, g1, g2⟩, hbf, hof⟩ := HRT.out (.int .u8 0) (.slice none 0 0) (.int .i64 (a))
        refine ⟨rfl, .agg #[.int .u8 0, .slice none 0 0, .int .i64 (a)], by simp [results, Try.f68, go_sem, g0, g1, g2], ?_⟩
        rw [HR.out]
        exact ⟨_, rfl, Own.nil _ _, hbf⟩
      · have e2q : (b == -65537) = false := by simpa using c2
        by_cases c3 : b = 65537
        · have e3q : (b == 65537) = true := by simpa using c3
          have HR : Hid (xorF a b = (0, [], -a)) := by show _ = _; unfold xorF; rw [if_neg c0]; rw [if_neg c1]; rw [if_neg c2]; rw [if_pos c3]
          clear c0 c1 c2 c3
          go_enter Try.func68, Try.ntmps68
          go_wp2_with (go_at_call 84; refine (cmeans_any _ _).mono ?_; rintro e w1 ⟨rfl, hb1⟩; obtain ⟨⟨d0, d1, d2, k0, k1, k2⟩, hrt⟩ := box_ret hb1; have HRT := Lib.hid hrt; clear hrt)
          obtain ⟨⟨g0, g1, g2⟩, hbf, hof⟩ := HRT.out (.int .u8 0) (.slice none 0 0) (.int .i64 (-a))
          refine ⟨rfl, .agg #[.int .u8 0, .slice none 0 0, .int .i64 (-a)], by simp [results, Try.f68, go_sem, g0, g1, g2], ?_⟩
          rw [HR.out]
          exact ⟨_, rfl, Own.nil _ _, hbf⟩
        · have e3q : (b == 65537) = false := by simpa using c3
          by_cases c4 : a = b
          · have e4q : (a == b) = true := by simpa using c4
            have HR : Hid (xorF a b = (0, [], -65537)) := by show _ = _; unfold xorF; rw [if_neg c0]; rw [if_neg c1]; rw [if_neg c2]; rw [if_neg c3]; rw [if_pos c4]
            clear c0 c1 c2 c3 c4
            go_enter Try.func68, Try.ntmps68
            go_wp2_with (go_at_call 84; refine (cmeans_any _ _).mono ?_; rintro e w1 ⟨rfl, hb1⟩; obtain ⟨⟨d0, d1, d2, k0, k1, k2⟩, hrt⟩ := box_ret hb1; have HRT := Lib.hid hrt; clear hrt)
            obtain ⟨⟨g0, g1, g2⟩, hbf, hof⟩ := HRT.out (.int .u8 0) (.slice none 0 0) (.int .i64 (-65537))
            refine ⟨rfl, .agg #[.int .u8 0, .slice none 0 0, .int .i64 (-65537)], by simp [results, Try.f68, go_sem, g0, g1, g2], ?_⟩
            rw [HR.out]
            exact ⟨_, rfl, Own.nil _ _, hbf⟩
          · have e4q : (a == b) = false := by simpa using c4
            by_cases c5 : a = -b
            · have e5q : (a == -b) = true := by simpa using c5
              have HR : Hid (xorF a b = (0, [], 65537)) := by show _ = _; unfold xorF; rw [if_neg c0]; rw [if_neg c1]; rw [if_neg c2]; rw [if_neg c3]; rw [if_neg c4]; rw [if_pos c5]
              clear c0 c1 c2 c3 c4 c5
              go_enter Try.func68, Try.ntmps68
              go_wp2_with (go_at_call 84; refine (cmeans_any _ _).mono ?_; rintro e w1 ⟨rfl, hb1⟩; obtain ⟨⟨d0, d1, d2, k0, k1, k2⟩, hrt⟩ := box_ret hb1; have HRT := Lib.hid hrt; clear hrt)
              obtain ⟨⟨g0, g1, g2⟩, hbf, hof⟩ := HRT.out (.int .u8 0) (.slice none 0 0) (.int .i64 (65537))
              refine ⟨rfl, .agg #[.int .u8 0, .slice none 0 0, .int .i64 (65537)], by simp [results, Try.f68, go_sem, g0, g1, g2], ?_⟩
              rw [HR.out]
              exact ⟨_, rfl, Own.nil _ _, hbf⟩
            · have e5q : (a == -b) = false := by simpa using c5
              have HR : Hid (xorF a b = (3, [a, b], 0)) := by show _ = _; unfold xorF; rw [if_neg c0]; rw [if_neg c1]; rw [if_neg c2]; rw [if_neg c3]; rw [if_neg c4]; rw [if_neg c5]
              have hsz : (w.alloc (.cells #[.int .u8 3, .slice (some ⟨w.heap.size + 1, 0, none⟩) 2 2, .int .i64 0] 95)).heap.size = w.heap.size + 1 := by simp
              have HOF : Hid (Own ((w.alloc (.cells #[.int .u8 3, .slice (some ⟨w.heap.size + 1, 0, none⟩) 2 2, .int .i64 0] 95)).alloc (.cells #[.int .i64 a, .int .i64 b] 3)) w.heap.size (.slice (some ⟨w.heap.size + 1, 0, none⟩) 2 2) [a, b]) := by
                have h := own_new2 (w.alloc (.cells #[.int .u8 3, .slice (some ⟨w.heap.size + 1, 0, none⟩) 2 2, .int .i64 0] 95)) a b
                rw [show (.slice (some ⟨(w.alloc (.cells #[.int .u8 3, .slice (some ⟨w.heap.size + 1, 0, none⟩) 2 2, .int .i64 0] 95)).heap.size, 0, none⟩) 2 2 : Value) = .slice (some ⟨w.heap.size + 1, 0, none⟩) 2 2 from by rw [hsz]] at h
                exact h.mono (by omega)
              have HBF : Hid (Below w.heap.size w ((w.alloc (.cells #[.int .u8 3, .slice (some ⟨w.heap.size + 1, 0, none⟩) 2 2, .int .i64 0] 95)).alloc (.cells #[.int .i64 a, .int .i64 b] 3))) := ((Below.refl w.heap.size w).alloc (Nat.le_refl _) _).alloc (by simp) _
              have g0 : ((w.alloc (.cells #[.int .u8 3, .slice (some ⟨w.heap.size + 1, 0, none⟩) 2 2, .int .i64 0] 95)).alloc (.cells #[.int .i64 a, .int .i64 b] 3)).cell? ⟨w.heap.size, 0, none⟩ = some (.int .u8 3) := cell_old (cell_fresh rfl)
              have g1 : ((w.alloc (.cells #[.int .u8 3, .slice (some ⟨w.heap.size + 1, 0, none⟩) 2 2, .int .i64 0] 95)).alloc (.cells #[.int .i64 a, .int .i64 b] 3)).cell? ⟨w.heap.size, 1, none⟩ = some (.slice (some ⟨w.heap.size + 1, 0, none⟩) 2 2) := cell_old (cell_fresh rfl)
              have g2 : ((w.alloc (.cells #[.int .u8 3, .slice (some ⟨w.heap.size + 1, 0, none⟩) 2 2, .int .i64 0] 95)).alloc (.cells #[.int .i64 a, .int .i64 b] 3)).cell? ⟨w.heap.size, 2, none⟩ = some (.int .i64 0) := cell_old (cell_fresh rfl)
              obtain ⟨d0, d1, d2, k0, k1, k2⟩ := (box_ret (w := w) (Below.refl _ _)).1
              obtain ⟨p0, p1, p2, p3, p4, p5⟩ := (box_ret (w := w) (w1 := ((w.alloc (.cells #[.int .u8 0, .slice none 0 0, .int .i64 0] 95)).alloc (.cells #[.int .i64 a, .int .i64 b] 3))) ((Below.refl _ _).alloc (Nat.le_refl _) _)).1
              clear hsz c0 c1 c2 c3 c4 c5
              go_enter Try.func68, Try.ntmps68
              go_wp2
              refine ⟨rfl, .agg #[.int .u8 3, .slice (some ⟨w.heap.size + 1, 0, none⟩) 2 2, .int .i64 0], by simp [results, Try.f68, go_sem, g0, g1, g2], ?_⟩
              rw [HR.out]
              exact ⟨_, rfl, HOF.out, HBF.out⟩
set_option maxRecDepth 100000 in
set_option maxHeartbeats 6400000 in
theorem cite_any (c a b : Int) (w : World) (hc1 : -9223372036854775807 ≤ c) (hc2 : c ≤ 9223372036854775807) (ha1 : -9223372036854775807 ≤ a) (ha2 : a ≤ 9223372036854775807) (hb1 : -9223372036854775807 ≤ b) (hb2 : b ≤ 9223372036854775807) :
    Calls Try.prog 70 #[.int .i64 c, .int .i64 a, .int .i64 b] w (OutP w (iteF c a b)) := by
  have h0 : (w.alloc (.cells #[.int .u8 0, .slice none 0 0, .int .i64 0] 95)).heap[w.heap.size]? = some (.cells #[.int .u8 0, .slice none 0 0, .int .i64 0] 95 (0, 0)) := by rw [heapy, if_pos rfl]
  have HW : Hid (w.heap.size < (w.alloc (.cells #[.int .u8 0, .slice none 0 0, .int .i64 0] 95)).heap.size) := by show _ < _; simp
  clear h0
  by_cases c0 : c = 65537
  · have e0q : (c == 65537) = true := by simpa using c0
    have HR : Hid (iteF c a b = (0, [], a)) := by show _ = _; unfold iteF;  rw [if_pos c0]
    clear c0
    go_enter Try.func70, Try.ntmps70
    go_wp2_with (go_at_call 84; refine (cmeans_any _ _).mono ?_; rintro e w1 ⟨rfl, hb1⟩; obtain ⟨⟨d0, d1, d2, k0, k1, k2⟩, hrt⟩ := box_ret hb1; have HRT := Lib.hid hrt; clear hrt)
    obtain ⟨⟨g0, g1, g2⟩, hbf, hof⟩ := HRT.out (.int .u8 0) (.slice none 0 0) (.int .i64 (a))
    refine ⟨rfl, .agg #[.int .u8 0, .slice none 0 0, .int .i64 (a)], by simp [results, Try.f70, go_sem, g0, g1, g2], ?_⟩
    rw [HR.out]
    exact ⟨_, rfl, Own.nil _ _, hbf⟩
  · have e0q : (c == 65537) = false := by simpa using c0
    by_cases c1 : c = -65537
    · have e1q : (c == -65537) = true := by simpa using c1
      have HR : Hid (iteF c a b = (0, [], b)) := by show _ = _; unfold iteF; rw [if_neg c0]; rw [if_pos c1]
      clear c0 c1
      go_enter Try.func70, Try.ntmps70
      go_wp2_with (go_at_call 84; refine (cmeans_any _ _).mono ?_; rintro e w1 ⟨rfl, hb1⟩; obtain ⟨⟨d0, d1, d2, k0, k1, k2⟩, hrt⟩ := box_ret hb1; have HRT := Lib.hid hrt; clear hrt)
      obtain ⟨⟨g0, g1, g2⟩, hbf, hof⟩ := HRT.out (.int .u8 0) (.slice none 0 0) (.int .i64 (b))
      refine ⟨rfl, .agg #[.int .u8 0, .slice none 0 0, .int .i64 (b)], by simp [results, Try.f70, go_sem, g0, g1, g2], ?_⟩
      rw [HR.out]
      exact ⟨_, rfl, Own.nil _ _, hbf⟩
    · have e1q : (c == -65537) = false := by simpa using c1
      by_cases c2 : a = b
      · have e2q : (a == b) = true := by simpa using c2
        have HR : Hid (iteF c a b = (0, [], a)) := by show _ = _; unfold iteF; rw [if_neg c0]; rw [if_neg c1]; rw [if_pos c2]
        clear c0 c1 c2
        go_enter Try.func70, Try.ntmps70
        go_wp2_with (go_at_call 84; refine (cmeans_any _ _).mono ?_; rintro e w1 ⟨rfl, hb1⟩; obtain ⟨⟨d0, d1, d2, k0, k1, k2⟩, hrt⟩ := box_ret hb1; have HRT := Lib.hid hrt; clear hrt)
        obtain ⟨⟨g0, g1, g2⟩, hbf, hof⟩ := HRT.out (.int .u8 0) (.slice none 0 0) (.int .i64 (a))
        refine ⟨rfl, .agg #[.int .u8 0, .slice none 0 0, .int .i64 (a)], by simp [results, Try.f70, go_sem, g0, g1, g2], ?_⟩
        rw [HR.out]
        exact ⟨_, rfl, Own.nil _ _, hbf⟩
      · have e2q : (a == b) = false := by simpa using c2
        by_cases c3 : a = 65537
        · have e3q : (a == 65537) = true := by simpa using c3
          have HR : Hid (iteF c a b = mergedF 2 [c, b] (-65537)) := by show _ = _; unfold iteF; rw [if_neg c0]; rw [if_neg c1]; rw [if_neg c2]; rw [if_pos c3]
          clear c0 c1 c2 c3
          have HB2 : Hid (Below (w.alloc (.cells #[.int .u8 0, .slice none 0 0, .int .i64 0] 95)).heap.size (w.alloc (.cells #[.int .u8 0, .slice none 0 0, .int .i64 0] 95)) ((w.alloc (.cells #[.int .u8 0, .slice none 0 0, .int .i64 0] 95)).alloc (.cells #[.int .i64 (c), .int .i64 (b)] 3))) := (Below.refl _ _).alloc (Nat.le_refl _) _
          have HC := Lib.hid (cor_any (.slice (some ⟨(w.alloc (.cells #[.int .u8 0, .slice none 0 0, .int .i64 0] 95)).heap.size, 0, none⟩) 2 2) [c, b] ((w.alloc (.cells #[.int .u8 0, .slice none 0 0, .int .i64 0] 95)).alloc (.cells #[.int .i64 (c), .int .i64 (b)] 3)) ((own_new2 (w.alloc (.cells #[.int .u8 0, .slice none 0 0, .int .i64 0] 95)) (c) (b)).ints (by simp) (by intro z hz; simp at hz; omega)) (by intro z hz; simp at hz; omega) (by simp))
          obtain ⟨⟨rk, rl, rm⟩, hR⟩ : ∃ r, mergedF 2 [c, b] (-65537) = r := ⟨_, rfl⟩
          rw [hR] at HR HC
          have hsz : (w.alloc (.cells #[.int .u8 0, .slice none 0 0, .int .i64 0] 95)).heap.size = w.heap.size + 1 := by simp
          rw [hsz] at HC
          clear hR
          go_enter Try.func70, Try.ntmps70
          go_wp2_with (go_at_call 66; refine HC.out.mono ?_; rintro e w1 ⟨u, rfl, ho1, hb1⟩; simp only at ho1; obtain ⟨ua, uc, rfl⟩ := own_shC ho1; have HO1 := Lib.hid (ho1.mono HB2.out.size); obtain ⟨⟨d0, d1, d2, k0, k1, k2⟩, hrt⟩ := box_ret (HB2.out.trans (hb1.mono HB2.out.size)); have HRT := Lib.hid hrt; clear hrt ho1)
          obtain ⟨⟨g0, g1, g2⟩, hbf, hof⟩ := HRT.out (.int .u8 rk) (.slice ua rl.length uc) (.int .i64 rm)
          refine ⟨rfl, .agg #[.int .u8 rk, .slice ua rl.length uc, .int .i64 rm], by simp [results, Try.f70, go_sem, g0, g1, g2], ?_⟩
          rw [HR.out]
          exact ⟨_, rfl, hof _ _ HO1.out, hbf⟩
        · have e3q : (a == 65537) = false := by simpa using c3
          by_cases c4 : a = -65537
          · have e4q : (a == -65537) = true := by simpa using c4
            have HR : Hid (iteF c a b = mergedF 1 [-c, b] 65537) := by show _ = _; unfold iteF; rw [if_neg c0]; rw [if_neg c1]; rw [if_neg c2]; rw [if_neg c3]; rw [if_pos c4]
            clear c0 c1 c2 c3 c4
            have HB2 : Hid (Below (w.alloc (.cells #[.int .u8 0, .slice none 0 0, .int .i64 0] 95)).heap.size (w.alloc (.cells #[.int .u8 0, .slice none 0 0, .int .i64 0] 95)) ((w.alloc (.cells #[.int .u8 0, .slice none 0 0, .int .i64 0] 95)).alloc (.cells #[.int .i64 (-c), .int .i64 (b)] 3))) := (Below.refl _ _).alloc (Nat.le_refl _) _
            have HC := Lib.hid (cand_any (.slice (some ⟨(w.alloc (.cells #[.int .u8 0, .slice none 0 0, .int .i64 0] 95)).heap.size, 0, none⟩) 2 2) [-c, b] ((w.alloc (.cells #[.int .u8 0, .slice none 0 0, .int .i64 0] 95)).alloc (.cells #[.int .i64 (-c), .int .i64 (b)] 3)) ((own_new2 (w.alloc (.cells #[.int .u8 0, .slice none 0 0, .int .i64 0] 95)) (-c) (b)).ints (by simp) (by intro z hz; simp at hz; omega)) (by intro z hz; simp at hz; omega) (by simp))
            obtain ⟨⟨rk, rl, rm⟩, hR⟩ : ∃ r, mergedF 1 [-c, b] 65537 = r := ⟨_, rfl⟩
            rw [hR] at HR HC
            have hsz : (w.alloc (.cells #[.int .u8 0, .slice none 0 0, .int .i64 0] 95)).heap.size = w.heap.size + 1 := by simp
            rw [hsz] at HC
            clear hR
            go_enter Try.func70, Try.ntmps70
            go_wp2_with (go_at_call 64; refine HC.out.mono ?_; rintro e w1 ⟨u, rfl, ho1, hb1⟩; simp only at ho1; obtain ⟨ua, uc, rfl⟩ := own_shC ho1; have HO1 := Lib.hid (ho1.mono HB2.out.size); obtain ⟨⟨d0, d1, d2, k0, k1, k2⟩, hrt⟩ := box_ret (HB2.out.trans (hb1.mono HB2.out.size)); have HRT := Lib.hid hrt; clear hrt ho1)
            obtain ⟨⟨g0, g1, g2⟩, hbf, hof⟩ := HRT.out (.int .u8 rk) (.slice ua rl.length uc) (.int .i64 rm)
            refine ⟨rfl, .agg #[.int .u8 rk, .slice ua rl.length uc, .int .i64 rm], by simp [results, Try.f70, go_sem, g0, g1, g2], ?_⟩
            rw [HR.out]
            exact ⟨_, rfl, hof _ _ HO1.out, hbf⟩
          · have e4q : (a == -65537) = false := by simpa using c4
            by_cases c5 : b = 65537
            · have e5q : (b == 65537) = true := by simpa using c5
              have HR : Hid (iteF c a b = mergedF 2 [-c, a] (-65537)) := by show _ = _; unfold iteF; rw [if_neg c0]; rw [if_neg c1]; rw [if_neg c2]; rw [if_neg c3]; rw [if_neg c4]; rw [if_pos c5]
              clear c0 c1 c2 c3 c4 c5
              have HB2 : Hid (Below (w.alloc (.cells #[.int .u8 0, .slice none 0 0, .int .i64 0] 95)).heap.size (w.alloc (.cells #[.int .u8 0, .slice none 0 0, .int .i64 0] 95)) ((w.alloc (.cells #[.int .u8 0, .slice none 0 0, .int .i64 0] 95)).alloc (.cells #[.int .i64 (-c), .int .i64 (a)] 3))) := (Below.refl _ _).alloc (Nat.le_refl _) _
              have HC := Lib.hid (cor_any (.slice (some ⟨(w.alloc (.cells #[.int .u8 0, .slice none 0 0, .int .i64 0] 95)).heap.size, 0, none⟩) 2 2) [-c, a] ((w.alloc (.cells #[.int .u8 0, .slice none 0 0, .int .i64 0] 95)).alloc (.cells #[.int .i64 (-c), .int .i64 (a)] 3)) ((own_new2 (w.alloc (.cells #[.int .u8 0, .slice none 0 0, .int .i64 0] 95)) (-c) (a)).ints (by simp) (by intro z hz; simp at hz; omega)) (by intro z hz; simp at hz; omega) (by simp))
              obtain ⟨⟨rk, rl, rm⟩, hR⟩ : ∃ r, mergedF 2 [-c, a] (-65537) = r := ⟨_, rfl⟩
              rw [hR] at HR HC
              have hsz : (w.alloc (.cells #[.int .u8 0, .slice none 0 0, .int .i64 0] 95)).heap.size = w.heap.size + 1 := by simp
              rw [hsz] at HC
              clear hR
              go_enter Try.func70, Try.ntmps70
              go_wp2_with (go_at_call 66; refine HC.out.mono ?_; rintro e w1 ⟨u, rfl, ho1, hb1⟩; simp only at ho1; obtain ⟨ua, uc, rfl⟩ := own_shC ho1; have HO1 := Lib.hid (ho1.mono HB2.out.size); obtain ⟨⟨d0, d1, d2, k0, k1, k2⟩, hrt⟩ := box_ret (HB2.out.trans (hb1.mono HB2.out.size)); have HRT := Lib.hid hrt; clear hrt ho1)
              obtain ⟨⟨g0, g1, g2⟩, hbf, hof⟩ := HRT.out (.int .u8 rk) (.slice ua rl.length uc) (.int .i64 rm)
              refine ⟨rfl, .agg #[.int .u8 rk, .slice ua rl.length uc, .int .i64 rm], by simp [results, Try.f70, go_sem, g0, g1, g2], ?_⟩
              rw [HR.out]
              exact ⟨_, rfl, hof _ _ HO1.out, hbf⟩
            · have e5q : (b == 65537) = false := by simpa using c5
              by_cases c6 : b = -65537
              · have e6q : (b == -65537) = true := by simpa using c6
                have HR : Hid (iteF c a b = mergedF 1 [c, a] 65537) := by show _ = _; unfold iteF; rw [if_neg c0]; rw [if_neg c1]; rw [if_neg c2]; rw [if_neg c3]; rw [if_neg c4]; rw [if_neg c5]; rw [if_pos c6]
                clear c0 c1 c2 c3 c4 c5 c6
                have HB2 : Hid (Below (w.alloc (.cells #[.int .u8 0, .slice none 0 0, .int .i64 0] 95)).heap.size (w.alloc (.cells #[.int .u8 0, .slice none 0 0, .int .i64 0] 95)) ((w.alloc (.cells #[.int .u8 0, .slice none 0 0, .int .i64 0] 95)).alloc (.cells #[.int .i64 (c), .int .i64 (a)] 3))) := (Below.refl _ _).alloc (Nat.le_refl _) _
                have HC := Lib.hid (cand_any (.slice (some ⟨(w.alloc (.cells #[.int .u8 0, .slice none 0 0, .int .i64 0] 95)).heap.size, 0, none⟩) 2 2) [c, a] ((w.alloc (.cells #[.int .u8 0, .slice none 0 0, .int .i64 0] 95)).alloc (.cells #[.int .i64 (c), .int .i64 (a)] 3)) ((own_new2 (w.alloc (.cells #[.int .u8 0, .slice none 0 0, .int .i64 0] 95)) (c) (a)).ints (by simp) (by intro z hz; simp at hz; omega)) (by intro z hz; simp at hz; omega) (by simp))
                obtain ⟨⟨rk, rl, rm⟩, hR⟩ : ∃ r, mergedF 1 [c, a] 65537 = r := ⟨_, rfl⟩
                rw [hR] at HR HC
                have hsz : (w.alloc (.cells #[.int .u8 0, .slice none 0 0, .int .i64 0] 95)).heap.size = w.heap.size + 1 := by simp
                rw [hsz] at HC
                clear hR
                go_enter Try.func70, Try.ntmps70
                go_wp2_with (go_at_call 64; refine HC.out.mono ?_; rintro e w1 ⟨u, rfl, ho1, hb1⟩; simp only at ho1; obtain ⟨ua, uc, rfl⟩ := own_shC ho1; have HO1 := Lib.hid (ho1.mono HB2.out.size); obtain ⟨⟨d0, d1, d2, k0, k1, k2⟩, hrt⟩ := box_ret (HB2.out.trans (hb1.mono HB2.out.size)); have HRT := Lib.hid hrt; clear hrt ho1)
                obtain ⟨⟨g0, g1, g2⟩, hbf, hof⟩ := HRT.out (.int .u8 rk) (.slice ua rl.length uc) (.int .i64 rm)
                refine ⟨rfl, .agg #[.int .u8 rk, .slice ua rl.length uc, .int .i64 rm], by simp [results, Try.f70, go_sem, g0, g1, g2], ?_⟩
                rw [HR.out]
                exact ⟨_, rfl, hof _ _ HO1.out, hbf⟩
              · have e6q : (b == -65537) = false := by simpa using c6
                have HR : Hid (iteF c a b = (4, [c, a, b], 0)) := by show _ = _; unfold iteF; rw [if_neg c0]; rw [if_neg c1]; rw [if_neg c2]; rw [if_neg c3]; rw [if_neg c4]; rw [if_neg c5]; rw [if_neg c6]
                have hsz : (w.alloc (.cells #[.int .u8 4, .slice (some ⟨w.heap.size + 1, 0, none⟩) 3 3, .int .i64 0] 95)).heap.size = w.heap.size + 1 := by simp
                have HOF : Hid (Own ((w.alloc (.cells #[.int .u8 4, .slice (some ⟨w.heap.size + 1, 0, none⟩) 3 3, .int .i64 0] 95)).alloc (.cells #[.int .i64 c, .int .i64 a, .int .i64 b] 3)) w.heap.size (.slice (some ⟨w.heap.size + 1, 0, none⟩) 3 3) [c, a, b]) := by
                  have h := own_new3 (w.alloc (.cells #[.int .u8 4, .slice (some ⟨w.heap.size + 1, 0, none⟩) 3 3, .int .i64 0] 95)) c a b
                  rw [show (.slice (some ⟨(w.alloc (.cells #[.int .u8 4, .slice (some ⟨w.heap.size + 1, 0, none⟩) 3 3, .int .i64 0] 95)).heap.size, 0, none⟩) 3 3 : Value) = .slice (some ⟨w.heap.size + 1, 0, none⟩) 3 3 from by rw [hsz]] at h
                  exact h.mono (by omega)
                have HBF : Hid (Below w.heap.size w ((w.alloc (.cells #[.int .u8 4, .slice (some ⟨w.heap.size + 1, 0, none⟩) 3 3, .int .i64 0] 95)).alloc (.cells #[.int .i64 c, .int .i64 a, .int .i64 b] 3))) := ((Below.refl w.heap.size w).alloc (Nat.le_refl _) _).alloc (by simp) _
                have g0 : ((w.alloc (.cells #[.int .u8 4, .slice (some ⟨w.heap.size + 1, 0, none⟩) 3 3, .int .i64 0] 95)).alloc (.cells #[.int .i64 c, .int .i64 a, .int .i64 b] 3)).cell? ⟨w.heap.size, 0, none⟩ = some (.int .u8 4) := cell_old (cell_fresh rfl)
                have g1 : ((w.alloc (.cells #[.int .u8 4, .slice (some ⟨w.heap.size + 1, 0, none⟩) 3 3, .int .i64 0] 95)).alloc (.cells #[.int .i64 c, .int .i64 a, .int .i64 b] 3)).cell? ⟨w.heap.size, 1, none⟩ = some (.slice (some ⟨w.heap.size + 1, 0, none⟩) 3 3) := cell_old (cell_fresh rfl)
                have g2 : ((w.alloc (.cells #[.int .u8 4, .slice (some ⟨w.heap.size + 1, 0, none⟩) 3 3, .int .i64 0] 95)).alloc (.cells #[.int .i64 c, .int .i64 a, .int .i64 b] 3)).cell? ⟨w.heap.size, 2, none⟩ = some (.int .i64 0) := cell_old (cell_fresh rfl)
                obtain ⟨d0, d1, d2, k0, k1, k2⟩ := (box_ret (w := w) (Below.refl _ _)).1
                obtain ⟨p0, p1, p2, p3, p4, p5⟩ := (box_ret (w := w) (w1 := ((w.alloc (.cells #[.int .u8 0, .slice none 0 0, .int .i64 0] 95)).alloc (.cells #[.int .i64 c, .int .i64 a, .int .i64 b] 3))) ((Below.refl _ _).alloc (Nat.le_refl _) _)).1
                clear hsz c0 c1 c2 c3 c4 c5 c6
                go_enter Try.func70, Try.ntmps70
                go_wp2
                refine ⟨rfl, .agg #[.int .u8 4, .slice (some ⟨w.heap.size + 1, 0, none⟩) 3 3, .int .i64 0], by simp [results, Try.f70, go_sem, g0, g1, g2], ?_⟩
                rw [HR.out]
                exact ⟨_, rfl, HOF.out, HBF.out⟩
end Go.Proofs.Ytafenijbglcppaa
