/- Joined texts: CxRowG, CxUsed, CxWout, CxConst. -/
import Derived.Test.YtafenijbglcppaaK06
import Derived.Test.YtafenijbglcppaaK03
import Derived.Test.YtafenijbglcppaaK10
import Derived.Test.YtafenijbglcppaaK11
import Derived.Maps.OwnIn
import Derived.Test.YtafenijbglcppaaK09
/- Rows of gates that the call makes, whose lists are its own or lay there before. -/
namespace Go.Proofs.Ytafenijbglcppaa
open Go.RowKit
set_option linter.unusedVariables false
set_option linter.unusedSimpArgs false

abbrev Tg := Int × Int × Value × List Int
abbrev dT : Tg := (0, 0, .slice none 0 0, [])
def cellsG (t : List Tg) : List Value := t.flatMap (fun x => [.int .i64 x.1, .int .u8 x.2.1, x.2.2.1])
def shapeG (t : List Tg) : List Gt := t.map (fun x => (x.1, x.2.1, x.2.2.2))
theorem cellsG_len (t : List Tg) : (cellsG t).length = t.length * 3 := by
  induction t with
  | nil => rfl
  | cons x r ih => simp only [cellsG, List.flatMap_cons, List.length_append] at ih ⊢; rw [ih]; simp; omega
theorem cellsG_app (t s : List Tg) : cellsG (t ++ s) = cellsG t ++ cellsG s := by simp [cellsG]
theorem cellsG_at (t : List Tg) (j : Nat) (hj : j < t.length) : (cellsG t)[j * 3]? = some (.int .i64 (t.getD j dT).1) ∧ (cellsG t)[j * 3 + 1]? = some (.int .u8 (t.getD j dT).2.1) ∧ (cellsG t)[j * 3 + 2]? = some (t.getD j dT).2.2.1 := by
  induction t generalizing j with
  | nil => simp at hj
  | cons x r ih =>
    have e : cellsG (x :: r) = .int .i64 x.1 :: .int .u8 x.2.1 :: x.2.2.1 :: cellsG r := by simp [cellsG]
    rw [e]
    cases j with
    | zero => simp
    | succ j =>
      have := ih j (by simpa using hj)
      rw [show (j + 1) * 3 = j * 3 + 1 + 1 + 1 from by omega]
      simpa using this
theorem shapeG_app (t s : List Tg) : shapeG (t ++ s) = shapeG t ++ shapeG s := by simp [shapeG]
theorem shapeG_len (t : List Tg) : (shapeG t).length = t.length := by simp [shapeG]
/-- What a gate's numbers are bounded by. -/
def gBd (g : Gt) : Prop := (-9223372036854775808 ≤ g.1 ∧ g.1 ≤ 9223372036854775807) ∧ (0 ≤ g.2.1 ∧ g.2.1 ≤ 255) ∧ g.2.2.length ≤ 17592186044416 ∧ In64 g.2.2
structure RowG (w0 w : World) (B : Nat) (v : Value) (t : List Tg) : Prop where
  below : Below w0.heap.size w0 w
  base : w0.heap.size ≤ B
  row : w.ownsRow B 34 3 v t.length (cellsG t)
  elems : ∀ x ∈ t, ElemB w0 w B x.2.2.1 x.2.2.2
  bd : ∀ g ∈ shapeG t, gBd g
theorem info_gate : (Try.prog.info? 34).map (fun i => (i.zero, i.size, i.bytes)) = some (some (.agg #[.int .i64 0, .int .u8 0, .slice none 0 0]), 3, 40) := by kernel_rfl
theorem RowG.nil {w0 w : World} {B : Nat} (hb : Below w0.heap.size w0 w) (hB : w0.heap.size ≤ B) : RowG w0 w B (.slice none 0 0) [] := ⟨hb, hB, World.ownsRow_nil _ _ _ _, by simp, by simp [shapeG]⟩
theorem rowG_lt {w : World} {B n : Nat} {e : TypeId} {v : Value} {xs : List Value} (h : w.ownsRow B e 3 v n xs) : ∀ g, v.ownBlock = some g → B ≤ g ∧ g < w.heap.size := fun g hg => by
  rcases h.2 with ⟨rfl, _⟩ | ⟨g1, cap, cur, rfl, hB, hg1, _⟩
  · cases hg
  · have : g1 = g := by simpa [Value.ownBlock] using hg
    subst this
    exact ⟨hB, (Array.getElem?_eq_some_iff.1 hg1).1⟩
/-- A row of gates is no row of integers. -/
theorem rowG_ne {w : World} {B B' n : Nat} {v u : Value} {xs : List Value} {l : List Int} (h : w.ownsRow B 34 3 v n xs) (k : Own w B' u l) : ∀ g, u.ownBlock = some g → v.ownBlock ≠ some g := by
  intro g hg hv
  rcases h.2 with ⟨rfl, _⟩ | ⟨g1, cap, cur, rfl, _, hg1, _⟩
  · cases hv
  · rcases k.2 with ⟨rfl, _⟩ | ⟨g2, cap2, cur2, rfl, _, hg2, _⟩
    · cases hg
    · have e1 : g1 = g := by simpa [Value.ownBlock] using hv
      have e2 : g2 = g := by simpa [Value.ownBlock] using hg
      subst e1; subst e2
      rw [hg1] at hg2
      simp only [Option.some.injEq, Obj.cells.injEq] at hg2
      exact absurd hg2.2.1 (by decide)
theorem RowG.below' {w0 w w' : World} {B C : Nat} {v : Value} {t : List Tg} (h : RowG w0 w B v t) (hb : Below C w w') (hC : w.heap.size ≤ C) : RowG w0 w' B v t := by
  refine ⟨h.below.trans (hb.mono (Nat.le_trans h.below.size hC)), h.base, ⟨h.row.1, ?_⟩, fun x hx => (h.elems x hx).below hb hC, h.bd⟩
  rcases h.row.2 with hn | ⟨g, cap, cur, hv, hB, hg, rest⟩
  · exact .inl hn
  · have hlt : g < w.heap.size := (Array.getElem?_eq_some_iff.1 hg).1
    exact .inr ⟨g, cap, cur, hv, hB, by rw [hb.block g (by omega)]; exact hg, rest⟩
theorem RowG.keptS {w0 w w' : World} {B : Nat} {S : Nat → Prop} {v : Value} {t : List Tg} (h : RowG w0 w B v t) (k : Kept S w w') (hS : ∀ g, B ≤ g → ¬ S g) (hS0 : ∀ g, g < w0.heap.size → ¬ S g) : RowG w0 w' B v t :=
  ⟨h.below.trans (k.below h.below.size (fun i hi => hS0 i hi)), h.base, k.row h.row (fun g hg => hS g (rowG_lt h.row g hg).1), fun x hx => (h.elems x hx).elim (fun e => .inl (k.row e (fun g hg => hS g (e.lt g hg).1))) .inr, h.bd⟩
theorem RowG.shape {w0 w : World} {B : Nat} {v : Value} {t : List Tg} (h : RowG w0 w B v t) : ∃ a cap, v = .slice a t.length cap := by
  rcases h.row.2 with ⟨rfl, h2⟩ | ⟨g, cap, cur, rfl, _⟩
  · exact ⟨none, 0, by rw [h2]⟩
  · exact ⟨_, _, rfl⟩
theorem RowG.mono {w0 w : World} {B B' : Nat} {v : Value} {t : List Tg} (h : RowG w0 w B v t) (hB : B' ≤ B) (h0 : w0.heap.size ≤ B') : RowG w0 w B' v t := by
  refine ⟨h.below, h0, ⟨h.row.1, ?_⟩, fun x hx => (h.elems x hx).elim (fun e => .inl (e.mono hB)) .inr, h.bd⟩
  rcases h.row.2 with hn | ⟨g, cap, cur, hv, hb, rest⟩
  · exact .inl hn
  · exact .inr ⟨g, cap, cur, hv, Nat.le_trans hB hb, rest⟩
theorem IsGates.bd {w : World} {v : Value} {l : List Gt} (h : IsGates w v l) : ∀ g ∈ l, gBd g := by
  intro g hg
  obtain ⟨a, cap, rfl, _⟩ := h.shape
  obtain ⟨j, hj, rfl⟩ := List.mem_iff_getElem.1 hg
  obtain ⟨b, off, u, _, _, _, _, _, hu, hr⟩ := h.at hj
  have e : l.getD j dG = l[j] := by simp [List.getD, hj]
  rw [e] at hu hr
  obtain ⟨_, _, _, _, _, h1, h2, _⟩ := hu
  exact ⟨hr.1, hr.2, h1, h2⟩
/-- More gates behind. -/
theorem RowG.more {w0 w w1 w2 : World} {B : Nat} {v v' : Value} {t s : List Tg} (h : RowG w0 w B v t) (hBw : B ≤ w.heap.size) (hb : Below w.heap.size w w1) (hs : ∀ x ∈ s, ElemB w0 w1 B x.2.2.1 x.2.2.2) (hsb : ∀ g ∈ shapeG s, gBd g)
    (hrow : w2.ownsRow B 34 3 v' (t ++ s).length (cellsG (t ++ s))) (hg : w1.grownBy w2 v.ownBlock) : RowG w0 w2 B v' (t ++ s) := by
  have h1 := h.below' hb (Nat.le_refl _)
  refine ⟨h1.below.grown hg h1.below.size (fun g hg' => Nat.le_trans h.base (rowG_lt h1.row g hg').1), h.base, hrow, fun x hx => ?_, fun g hg => ?_⟩
  · have key : ElemB w0 w1 B x.2.2.1 x.2.2.2 := by
      rcases List.mem_append.1 hx with hx | hx
      · exact h1.elems x hx
      · exact hs x hx
    rcases key with k | k
    · refine .inl (k.kept hg ?_)
      cases hk : x.2.2.1.ownBlock with
      | none => exact .inl rfl
      | some g => exact .inr (fun e => rowG_ne h1.row k g hk e.symm)
    · exact .inr k
  · rw [shapeG_app] at hg
    rcases List.mem_append.1 hg with hg | hg
    · exact h.bd g hg
    · exact hsb g hg
theorem shapeG_getD {t : List Tg} {j : Nat} (hj : j < t.length) : (shapeG t).getD j dG = ((t.getD j dT).1, (t.getD j dT).2.1, (t.getD j dT).2.2.2) := by
  unfold shapeG
  simp [List.getD, hj]
theorem RowG.gates {w0 w : World} {B : Nat} {v : Value} {t : List Tg} (h : RowG w0 w B v t) (hl : t.length ≤ 17592186044416) : IsGates w v (shapeG t) := by
  have hmem : ∀ j, j < t.length → t.getD j dT ∈ t := fun j hj => by simp [List.getD, hj]
  have hbd : ∀ x ∈ t, gBd (x.1, x.2.1, x.2.2.2) := fun x hx => h.bd _ (List.mem_map_of_mem (f := fun x : Tg => (x.1, x.2.1, x.2.2.2)) hx)
  rcases h.row.2 with ⟨rfl, h2⟩ | ⟨g, cap, cur, rfl, hB, hg, hnc, hcm, hcs, htk⟩
  · have : t = [] := List.eq_nil_of_length_eq_zero h2
    subst this
    exact IsGates.nil _
  · have hlt : g < w.heap.size := (Array.getElem?_eq_some_iff.1 hg).1
    unfold maxLen at hcm
    refine ⟨_, cap, by rw [shapeG_len], ⟨by rw [shapeG_len]; exact hnc, fun h => by cases h⟩, hcm, by rw [shapeG_len]; exact hl, fun y hy => ⟨(h.bd y hy).1, (h.bd y hy).2.1⟩, g, 0, fun _ => ⟨rfl, hlt⟩, fun j hj => ?_⟩
    rw [shapeG_len] at hj
    have at' : ∀ i, i < t.length * 3 → w.cell? ⟨g, i, none⟩ = (cellsG t)[i]? := fun i hi => by
      simp only [World.cell?, hg]
      rw [← htk, List.getElem?_take, if_pos hi]
      simp
    obtain ⟨e1, e2, e3⟩ := cellsG_at t j hj
    simp only [Nat.zero_add]
    rw [at' _ (by omega), at' _ (by omega), at' _ (by omega), shapeG_getD hj]
    refine ⟨e1, e2, _, e3, ?_⟩
    have hb := hbd _ (hmem j hj)
    rcases h.elems _ (hmem j hj) with k | k
    · exact k.ints hb.2.2.1 hb.2.2.2
    · exact k.below h.below (Nat.le_refl _)

theorem row3_mono {w : World} {B B' n : Nat} {e : TypeId} {v : Value} {xs : List Value} (h : w.ownsRow B e 3 v n xs) (hB : B' ≤ B) : w.ownsRow B' e 3 v n xs := by
  refine ⟨h.1, ?_⟩
  rcases h.2 with hn | ⟨g, cap, cur, hv, hb, rest⟩
  · exact .inl hn
  · exact .inr ⟨g, cap, cur, hv, Nat.le_trans hB hb, rest⟩
theorem row3_below {w w' : World} {B C n : Nat} {e : TypeId} {v : Value} {xs : List Value} (h : w.ownsRow B e 3 v n xs) (hb : Below C w w') (hC : w.heap.size ≤ C) : w'.ownsRow B e 3 v n xs := by
  refine ⟨h.1, ?_⟩
  rcases h.2 with hn | ⟨g, cap, cur, hv, hB, hg, rest⟩
  · exact .inl hn
  · have hlt : g < w.heap.size := (Array.getElem?_eq_some_iff.1 hg).1
    exact .inr ⟨g, cap, cur, hv, hB, by rw [hb.block g (by omega)]; exact hg, rest⟩
/-- A turn of a block that holds no cells. -/
theorem RowG.keptD {w0 w w' : World} {B D : Nat} {v : Value} {t : List Tg} {o : Obj} (h : RowG w0 w B v t) (hg : w.grownBy w' (some D)) (ho : w.heap[D]? = some o) (hc : (match o with | .cells _ _ _ => false | _ => true) = true) (hD : w0.heap.size ≤ D) : RowG w0 w' B v t := by
  have ne : ∀ g cur T z, w.heap[g]? = some (.cells cur T z) → g ≠ D := fun g cur T z hg' e => by subst e; rw [ho] at hg'; cases hg'; cases hc
  have kr : ∀ {e : TypeId} {n k : Nat} {u : Value} {xs : List Value}, w.ownsRow B e n u k xs → w'.ownsRow B e n u k xs := fun {e n k u xs} h => by
    refine ⟨h.1, ?_⟩
    rcases h.2 with hn | ⟨g, cap, cur, hv, hB, hg', rest⟩
    · exact .inl hn
    · exact .inr ⟨g, cap, cur, hv, hB, (hg.block g (Array.getElem?_eq_some_iff.1 hg').1 (fun e => ne _ _ _ _ hg' (by injection e))).trans hg', rest⟩
  exact ⟨h.below.grown hg h.below.size (fun k e => by injection e; omega), h.base, kr h.row, fun x hx => (h.elems x hx).elim (fun e => .inl (kr e)) .inr, h.bd⟩
/-- The cells of gate j. -/
theorem RowG.at {w0 w : World} {B : Nat} {a : Option Addr} {n cap : Nat} {t : List Tg} (h : RowG w0 w B (.slice a n cap) t) {j : Nat} (hj : j < t.length) : ∃ g, a = some ⟨g, 0, none⟩ ∧ B ≤ g ∧ g < w.heap.size ∧
    w.cell? ⟨g, j * 3, none⟩ = some (.int .i64 (t.getD j dT).1) ∧ w.cell? ⟨g, j * 3 + 1, none⟩ = some (.int .u8 (t.getD j dT).2.1) ∧ w.cell? ⟨g, j * 3 + 2, none⟩ = some (t.getD j dT).2.2.1 := by
  rcases h.row.2 with ⟨e, h2⟩ | ⟨g, cap, cur, e, hB, hg, hnc, hcm, hcs, htk⟩
  · omega
  · injection e with e1 e2 e3
    subst e1
    have hlt : g < w.heap.size := (Array.getElem?_eq_some_iff.1 hg).1
    have at' : ∀ i, i < t.length * 3 → w.cell? ⟨g, i, none⟩ = (cellsG t)[i]? := fun i hi => by
      simp only [World.cell?, hg]
      rw [← htk, List.getElem?_take, if_pos hi]
      simp
    obtain ⟨e1, e2, e3⟩ := cellsG_at t j hj
    refine ⟨g, rfl, hB, hlt, ?_, ?_, ?_⟩
    · rw [at' _ (by omega)]; exact e1
    · rw [at' _ (by omega)]; exact e2
    · rw [at' _ (by omega)]; exact e3
theorem tg_take {l : List Tg} {k : Nat} (h : k < l.length) : l.take (k + 1) = l.take k ++ [l.getD k dT] := by
  rw [List.take_add_one]
  simp [List.getD, h]
/-- 'append(out, Gate{..})' in a walk. -/
theorem wpList_appGate {w : World} {ops : Array Oper} {rest : List Oper} {o : Oper} {a : Act} {Q : Exit → Act → World → Prop} (hgd : o.guard = none) (s x : Operand)
    (ho : o.op = .call { callee := .builtin .append, args := #[s, x], argTypes := #[23, 23] }) (B : Nat) (v : Value) (t : List Tg) (y : Tg) (g : Nat)
    (hs : a.eval s = v) (hx : a.eval x = .slice (some ⟨g, 0, none⟩) 1 1) (hrow : w.ownsRow B 34 3 v t.length (cellsG t)) (h0 : w.cell? ⟨g, 0, none⟩ = some (.int .i64 y.1)) (h1 : w.cell? ⟨g, 1, none⟩ = some (.int .u8 y.2.1)) (h2 : w.cell? ⟨g, 2, none⟩ = some y.2.2.1) (hu1 : y.2.2.1.oneCell' = true) (hlen : t.length < 1000000) (hB : B ≤ w.heap.size)
    (h : ∀ v' w', w'.ownsRow B 34 3 v' (t ++ [y]).length (cellsG (t ++ [y])) → w.grownBy w' v.ownBlock → wpList Try.prog ops Q rest (a.put o.dst v') w') : wpList Try.prog ops Q (o :: rest) a w := by
  obtain ⟨i0, hi, hz0, hz1, hz2⟩ := info_parts info_gate
  refine wpList_append_own _ hgd s x 23 ho B 34 i0 (.agg #[.int .i64 0, .int .u8 0, .slice none 0 0]) 3 40 Try.underlying23 hi hz0 hz1 hz2 rfl (by decide) v t.length _ hs hrow ⟨g, 0, none⟩ 1 1 [.int .i64 y.1, .int .u8 y.2.1, y.2.2.1] hx (by simp) (fun j z hj => by
    match j, hj with
    | 0, hj => simp at hj; subst hj; simpa [Addr.add] using h0
    | 1, hj => simp at hj; subst hj; simpa [Addr.add] using h1
    | 2, hj => simp at hj; subst hj; simpa [Addr.add] using h2) (fun z hz => by
    rcases List.mem_cons.1 hz with hz | hz
    · rw [hz]; rfl
    · rcases List.mem_cons.1 hz with hz | hz
      · rw [hz]; rfl
      · rw [List.mem_singleton] at hz
        rw [hz]; exact hu1) (by unfold maxLen; omega) (by omega) hB fun v' w' h2 h3 _ => h v' w' ?_ h3
  rw [List.length_append, cellsG_app]
  exact h2

end Go.Proofs.Ytafenijbglcppaa

/- circ.used. -/
namespace Go.Proofs.Ytafenijbglcppaa
open Go.RowKit Go.Shelf Go.Maps
set_option linter.unusedVariables false
set_option linter.unusedSimpArgs false
attribute [local go_sem] Oper.semAt_some

theorem MapH.keptS {w w' : World} {b n : Nat} {h : Int → Bool} (m : MapH w b n h) {S : Nat → Prop} (k : Kept S w w') (hb : ¬ S b) : MapH w' b n h := MapB.kept m k hb
theorem MapH.below {w w' : World} {b n B : Nat} {h : Int → Bool} (m : MapH w b n h) (hb : Below B w w') (hB : w.heap.size ≤ B) : MapH w' b n h := MapB.kept (S := fun _ => False) m ⟨hb.os, hb.tape, hb.output, hb.size, fun k hk _ => hb.block k (by omega)⟩ (fun h => h)
theorem MapH.grownBy {w w' : World} {b n : Nat} {row : Option Nat} {h : Int → Bool} (m : MapH w b n h) (hg : w.grownBy w' row) (hne : row ≠ some b) : MapH w' b n h := MapB.kept m (Kept.of_grown hg) hne
theorem MapH.congr {w : World} {b n : Nat} {h h' : Int → Bool} (m : MapH w b n h) (e : h = h') : MapH w b n h' := e ▸ m

/-- A number is among those that have come. -/
def inV (pre : List V16) (k : Int) : Bool := decide (k ∈ pre.map (fun x => x.1))
theorem inV_nil : (fun _ => false) = inV [] := by funext k; simp [inV]
theorem inV_snoc (pre : List V16) (x : V16) : inV (pre ++ [x]) = updB (inV pre) x.1 true := by
  funext k
  unfold updB inV
  rw [List.map_append]
  by_cases e : k = x.1
  · rw [if_pos e, decide_eq_true_iff]
    exact List.mem_append.2 (.inr (by simp [e]))
  · rw [if_neg e]
    congr 1
    rw [List.mem_append]
    simp only [List.map_cons, List.map_nil, List.mem_singleton, e, or_false]
/-- The gates that are reached. -/
def inT (gs : List Gt) (x : Int) (g : Tg) : Bool := decide (g.1 ∈ reachL gs x)
theorem used_take {t : List Tg} (gs : List Gt) (x : Int) {k : Nat} (h : k < t.length) : (t.take (k + 1)).filter (inT gs x) = (t.take k).filter (inT gs x) ++ (if decide ((t.getD k dT).1 ∈ reachL gs x) = true then [t.getD k dT] else []) := by
  rw [tg_take h, List.filter_append]
  congr 1
  rw [List.filter_cons]
  rfl
theorem used_shape (t : List Tg) (x : Int) : shapeG (t.filter (inT (shapeG t) x)) = usedG (shapeG t) x := by
  unfold usedG
  have h : ∀ (s : List Tg) (p : Int → Bool), shapeG (s.filter (fun g => p g.1)) = (shapeG s).filter (fun g => p g.1) := by
    intro s p
    induction s with
    | nil => rfl
    | cons y r ih =>
      rw [List.filter_cons]
      show _ = ((y.1, y.2.1, y.2.2.2) :: shapeG r).filter _
      rw [List.filter_cons]
      cases hp : p y.1
      · simpa [hp] using ih
      · simp only [hp, if_true]
        show (y.1, y.2.1, y.2.2.2) :: shapeG _ = _
        rw [ih]
  exact h t (fun v => decide (v ∈ reachL (shapeG t) x))

set_option maxRecDepth 100000 in
set_option maxHeartbeats 3200000 in
theorem cused_any (w0 : World) (B0 : Nat) (vg : Value) (t0 : List Tg) (x : Int) (w : World) (HR : RowG w0 w B0 vg t0) (hB0 : B0 ≤ w.heap.size) (h1 : -9223372036854775808 ≤ x) (h2 : x ≤ 9223372036854775807) (hl : t0.length < 1000000) :
    Calls Try.prog 47 #[vg, .int .i64 x] w fun e w' => ∃ v, e = .returned v ∧ RowG w0 w' B0 v (t0.filter (inT (shapeG t0) x)) ∧ Below w.heap.size w w' := by
  refine (callsIn_wide (n := 8)).1 ?_
  have HG := HR.gates (by omega)
  have HRR := Lib.hid HR
  obtain ⟨gs, hgs⟩ : ∃ gs, shapeG t0 = gs := ⟨_, rfl⟩
  have hgl0 : gs.length = t0.length := by rw [← hgs, shapeG_len]
  rw [hgs] at HG ⊢
  have HGS := Lib.hid hgs
  have HGG := Lib.hid HG
  obtain ⟨ga, gc, rfl, hgl⟩ := HG.shape
  have HL0 := Lib.hid hgl0
  have hl2 : gs.length < 1000000 := by omega
  clear HR hgs hgl0
  have hmm := @run_makeMap Try.prog
  have q0 := MapB.made w Try.prog 3 4
  have q1 := Boxed.new (w.alloc (.map #[] 0)) 57 (.map (some w.heap.size))
  have q2 := Boxed.new ((w.alloc (.map #[] 0)).alloc (.cells #[.map (some w.heap.size)] 57)) 23 (.slice ga gs.length gc)
  have q3 := cell_fresh (w := ((w.alloc (.map #[] 0)).alloc (.cells #[.map (some w.heap.size)] 57)).alloc (.cells #[.slice ga gs.length gc] 23)) (c := #[.int .i64 x]) (T := 3) (i := 0) (v := .int .i64 x) rfl
  simp only [World.size_alloc] at q1 q2 q3
  have b1 := (q1.alloc (.cells #[.slice ga gs.length gc] 23)).alloc (.cells #[.int .i64 x] 3)
  have b2 := q2.alloc (.cells #[.int .i64 x] 3)
  have hB4 : Below w.heap.size w ((((w.alloc (.map #[] 0)).alloc (.cells #[.map (some w.heap.size)] 57)).alloc (.cells #[.slice ga gs.length gc] 23)).alloc (.cells #[.int .i64 x] 3)) :=
    ((((Below.refl _ w).alloc (Nat.le_refl _) _).alloc (by simp) _).alloc (by simp; omega) _).alloc (by simp; omega) _
  have hz4 : ((((w.alloc (.map #[] 0)).alloc (.cells #[.map (some w.heap.size)] 57)).alloc (.cells #[.slice ga gs.length gc] 23)).alloc (.cells #[.int .i64 x] 3)).heap.size = w.heap.size + 4 := by simp
  have b0 : MapH ((((w.alloc (.map #[] 0)).alloc (.cells #[.map (some w.heap.size)] 57)).alloc (.cells #[.slice ga gs.length gc] 23)).alloc (.cells #[.int .i64 x] 3)) w.heap.size 0 (fun _ => false) :=
    MapH.below q0 ((((Below.refl _ _).alloc (Nat.le_refl _) _).alloc (by simp) _).alloc (by simp) _) (Nat.le_refl _)
  have C0 := Lib.hid b0
  have C1 := Lib.hid b1
  have C2 := Lib.hid b2
  have C3 := Lib.hid q3
  have HB4 := Lib.hid hB4
  have HZ4 := Lib.hid hz4
  have f43 : Fence.wide.fn 28 := trivial
  clear HG q0 q1 q2 q3 b0 b1 b2 hB4 hz4
  refine callsIn_of_wp_marks Try.func47 rfl trivial ?_ rfl
  simp only [Try.ntmps47, List.size_toArray, List.length_cons, List.length_nil, Nat.reduceAdd, Nat.reduceSub, Array.replicate_succ, Array.replicate_zero, List.push_toArray, List.append_toArray, List.nil_append, List.cons_append]
  refine wpIn_wide.2 ?_
  have HRI := Lib.hid (fun W => (callsIn_wide (n := 7)).1 (reached_in 7 ga gs.length gc x W))
  go_wp2_with (go_at_call 28; refine (HRI.out _).mono ?_; rintro e w1 ⟨rfl, rfl⟩)
  generalize hw4 : ((((w.alloc (.map #[] 0)).alloc (.cells #[.map (some w.heap.size)] 57)).alloc (.cells #[.slice ga gs.length gc] 23)).alloc (.cells #[.int .i64 x] 3)) = w4 at *
  clear hw4
  have hz4 := HZ4.out
  have hb1 : Boxed w4 (w.heap.size + 1 + 1) 23 (.slice ga gs.length gc) := C2.out
  refine (wpIn_wide (n := 8)).1 ?_
  refine wpIn_rangeAll rfl (by omega) (gf := 49) (lb := #[.pointer (some ⟨w.heap.size + 1 + 1 + 1, 0, none⟩), .pointer (some ⟨w.heap.size + 1 + 1, 0, none⟩)]) rfl trivial (enters_of Try.func49 (by kernel_rfl) rfl)
    (reach_own 7 (by omega) w w4 _ gs x (w.heap.size + 1 + 1 + 1) (w.heap.size + 1 + 1) HGG.out h1 h2 HB4.out (by omega) C3.out C2.out) (fun h k => h.trans k)
    (fun W1 o' hl1 => ⟨(Below.refl _ W1).grown (grownBy_putObj' W1 _ o') (by omega) (fun k e => by cases e; omega), fun k o hk ho _ => (World.putObj_heap_other (by omega)).trans ho⟩) (fun _ => rfl)
    (fun pre W1 => (MapH W1 w.heap.size pre.length (inV pre) ∧ Boxed W1 (w.heap.size + 1) 57 (.map (some w.heap.size))) ∧ Below w.heap.size w W1)
    (fun s A B row hs hg hr => by
      obtain ⟨⟨h1, h2⟩, h3⟩ := hs
      have hne : ∀ B', B' < w4.heap.size → row ≠ some B' := fun B' hB' e => by have := (hr _ e).1; omega
      exact ⟨⟨h1.grownBy hg (hne _ (by omega)), h2.kept hg (fun e => hne _ (by omega) e.symm)⟩, h3.grown hg h3.size (fun k e => by have := (hr k e).1; omega)⟩)
    ⟨⟨C0.out.congr inV_nil, C1.out⟩, HB4.out⟩
    (fun e => { tmps := #[.slice ga gs.length gc, .int .i64 x, undef, undef, .slice none 0 0, .pointer (some ⟨w.heap.size + 1, 0, none⟩), .int .i64 e.1, undef, undef, undef, .map (some w.heap.size), .slice ga gs.length gc, .int .i64 x, .func (.func 49) #[] #[.pointer (some ⟨w.heap.size + 1 + 1 + 1, 0, none⟩), .pointer (some ⟨w.heap.size + 1 + 1, 0, none⟩)], .int .i64 e.1, undef, undef, undef, undef, undef, undef, undef, undef, undef, undef, undef, undef, undef, undef, undef, undef, undef, undef], defers := [] }) ?assign ?body ?done
  case assign =>
    intro l e W K hK
    gi_wp2
    exact hK
  case body =>
    rintro lp pre ⟨y, hy⟩ W1 ⟨⟨hm, hbx⟩, hbel⟩ hlen
    simp only at hy ⊢
    have cbx := hbx.cell
    obtain ⟨D, m1, mD, m2⟩ := hm
    have M1 := Lib.hid m1
    have MD := Lib.hid mD
    have M2 := Lib.hid m2
    have HX := Lib.hid hbx
    have HB := Lib.hid hbel
    have hyw : (Lit.int .i64 y).wf = true := i64w (by omega) (by omega)
    clear m1 mD m2 hbx hbel
    gi_wp2_with (gi_at_mapUpdate; go_loud (refine wpListIn_mapUpdate_own _ rfl _ _ _ 57 rfl 3 4 (int_keyed Try.underlying3) Try.underlying57 _ w.heap.size pre.length _ rfl M1.out (by unfold maxLen; omega) _ _ _ rfl rfl (keyOf_int_mk Try.underlying3 hyw) _ [] (plainElem_bool Try.underlying4 true) ?_; intro w2 hown2 hg2))
    have hsz1 := HB.out.size
    have hm2 : MapH w2 w.heap.size (pre.length + 1) (updB (inV pre) y true) := by
      refine ⟨_, hown2, MD.out.put _ _, fun j => ?_⟩
      unfold updB
      by_cases e : j = y
      · subst e
        rw [atKey_put_same MD.out (show WideAt.IsKeyLit (Lit.int _ _) from trivial)]
        simp
      · rw [atKey_put_other (by simpa using e), M2.out]
        simp [e]
    have hb2 : Below w.heap.size W1 w2 := (Below.refl _ W1).grown hg2 hsz1 (fun k e => by cases e; exact Nat.le_refl _)
    refine ⟨KeepsFrom.of_grownBy hg2 (fun j e => by cases e; omega), ⟨hb2, fun k o hk ho _ => (hg2.block k (Array.getElem?_eq_some_iff.1 ho).1 (fun e => by injection e with e; omega)).trans ho⟩, ⟨?_, ?_⟩, HB.out.trans hb2⟩
    · rw [inV_snoc, List.length_append]
      exact hm2
    · exact HX.out.kept hg2 (fun e => by injection e with e; omega)
  case done =>
    rintro D ys W hD hys ⟨⟨hm, hbx⟩, hbel⟩ hK
    have hR : inV ys = fun k => decide (k ∈ reachL gs x) := by funext k; unfold inV; rw [hys]
    rw [hR] at hm
    clear hR
    have hDlt : D < W.heap.size := (Array.getElem?_eq_some_iff.1 hK).1
    have HM := Lib.hid hm
    have HX := Lib.hid hbx
    have HB := Lib.hid hbel
    have HK := Lib.hid hK
    have hszW := hbel.size
    have hDw : w.heap.size + 4 ≤ D := by omega
    clear hm hbx hbel hK hys hD
    go_wp2
    have hB0W : B0 ≤ W.heap.size := by omega
    have HR1 : Hid (RowG w0 W B0 (.slice ga gs.length gc) t0) := HRR.out.below' HB.out (Nat.le_refl _)
    have HW0 : Hid (Below w0.heap.size w0 W) := HR1.out.below
    have HBB : Hid (w0.heap.size ≤ B0) := HR1.out.base
    go_loopw [7, 19] (fun out i wr => ∃ (k : Nat) (t : List Tg), k ≤ gs.length ∧ i = .int .i64 k ∧ RowG w0 wr B0 out t ∧ t = (t0.take k).filter (inT gs x) ∧ Below W.heap.size W wr ∧ wr.ownsRow W.heap.size 34 3 out t.length (cellsG t)) (fun _ i _ => gs.length - (intOf i).toNat)
    case atStart => exact ⟨0, [], Nat.zero_le _, rfl, RowG.nil HW0.out HBB.out, rfl, Below.refl _ _, World.ownsRow_nil _ _ _ _⟩
    case round =>
      obtain ⟨k, t, hk, rfl, hrow, hsh, hbel, hown⟩ := hrel
      have HRW := Lib.hid hrow
      have HSH := Lib.hid hsh
      have HBW := Lib.hid hbel
      have HOWN := Lib.hid hown
      have hszr := hbel.size
      have HTOT : Hid (Below w.heap.size w wr) := HB.out.trans (hbel.mono hszW)
      obtain ⟨oa, oc, rfl⟩ := hrow.shape
      have htl : t.length ≤ k := by
        have h1 := congrArg List.length hsh
        have h2 := List.length_filter_le (inT gs x) (t0.take k)
        rw [List.length_take] at h2
        omega
      have HTL : Hid (t.length < 1000000) := by show _ < _; omega
      clear hrow hsh hbel htl hown
      by_cases hlt : k < gs.length
      · have hlt0 : k < t0.length := by have := HL0.out; omega
        obtain ⟨b, rfl, hbB, hb, hcx0, hck0, hcu0⟩ := (HR1.out.below' HBW.out (Nat.le_refl _)).at hlt0
        have hmem : t0.getD k dT ∈ t0 := by simp [List.getD, hlt0]
        have HEL := Lib.hid (HR1.out.elems _ hmem)
        have HGB := Lib.hid (HRR.out.bd _ (List.mem_map_of_mem (f := fun x : Tg => (x.1, x.2.1, x.2.2.2)) hmem))
        have HUT := Lib.hid (used_take gs x hlt0)
        have hk0 : (0 : Int) ≤ (k : Int) := by omega
        have hk1 : (k : Int) < (gs.length : Int) := by omega
        have hk2 : (k : Int) < 4000001 := by omega
        have HKL := Lib.hid hlt
        obtain ⟨ua, uc, hue⟩ := HEL.out.shape
        clear hlt hlt0 hmem
        generalize t0.getD k dT = y at *
        obtain ⟨y1, y2, yu, y3⟩ := y
        simp only at hcx0 hck0 hcu0 HEL HUT HGB hue
        subst hue
        have hx1 := HGB.out.1.1
        have hx2 := HGB.out.1.2
        simp only at hx1 hx2
        have ha1 : Below wr.heap.size wr (wr.alloc (.cells #[.int .i64 y1, .int .u8 y2, .slice ua y3.length uc] 34)) := (Below.refl _ _).alloc (Nat.le_refl _) _
        have HRA := Lib.hid (HRW.out.below' ha1 (Nat.le_refl _))
        have HOA := Lib.hid (row3_below HOWN.out ha1 (Nat.le_refl _))
        have HBA := Lib.hid (HBW.out.trans (ha1.mono hszr))
        have a0 : (wr.alloc (.cells #[.int .i64 y1, .int .u8 y2, .slice ua y3.length uc] 34)).cell? ⟨wr.heap.size, 0, none⟩ = some (.int .i64 y1) := cell_fresh rfl
        have a1 : (wr.alloc (.cells #[.int .i64 y1, .int .u8 y2, .slice ua y3.length uc] 34)).cell? ⟨wr.heap.size, 1, none⟩ = some (.int .u8 y2) := cell_fresh rfl
        have a2 : (wr.alloc (.cells #[.int .i64 y1, .int .u8 y2, .slice ua y3.length uc] 34)).cell? ⟨wr.heap.size, 2, none⟩ = some (.slice ua y3.length uc) := cell_fresh rfl
        have hswa : (wr.alloc (.cells #[.int .i64 y1, .int .u8 y2, .slice ua y3.length uc] 34)).heap.size > wr.heap.size := by simp
        have hcx : wr.cell? ⟨b, 0 + k * 3, none⟩ = some (.int .i64 y1) := by rw [Nat.zero_add]; exact hcx0
        have hck : wr.cell? ⟨b, 0 + k * 3 + 1, none⟩ = some (.int .u8 y2) := by rw [Nat.zero_add]; exact hck0
        have hcu : wr.cell? ⟨b, 0 + k * 3 + 2, none⟩ = some (.slice ua y3.length uc) := by rw [Nat.zero_add]; exact hcu0
        clear ha1
        go_upto_region 9 with fail
        clear hcx hck hcu hcx0 hck0 hcu0
        generalize wr.alloc (.cells #[.int .i64 y1, .int .u8 y2, .slice ua y3.length uc] 34) = wa at *
        have cbx : wa.cell? ⟨w.heap.size + 1, 0, none⟩ = some (.map (some w.heap.size)) := (HBA.out.cell (p := ⟨w.heap.size + 1, 0, none⟩) (by simp; omega)).trans HX.out.cell
        have hla := (HM.out.below HBA.out (Nat.le_refl _)).look1 y1 hx1 hx2
        have hsza : W.heap.size ≤ wa.heap.size := HBA.out.size
        cases hmem : decide (y1 ∈ reachL gs x) with
        | true =>
          rw [hmem] at HUT hla
          rw [if_pos rfl] at HUT
          clear hmem
          go_wp2_with (at_builtin; go_loud (refine wpList_appGate rfl (.tmp 27) (.tmp 29) rfl W.heap.size (.slice oa t.length oc) t (y1, y2, .slice ua y3.length uc, y3) wa.heap.size rfl rfl (row3_below HOA.out ((Below.refl wa.heap.size wa).alloc (Nat.le_refl _) (.cells #[.int .i64 y1, .int .u8 y2, .slice ua y3.length uc] 34)) (Nat.le_refl _)) (cell_fresh rfl) (cell_fresh rfl) (cell_fresh rfl) rfl HTL.out (by simp; omega) ?_; intro v4 w4 hrow4 hg4; have HR4 := Lib.hid hrow4; have HG4 := Lib.hid hg4; clear hrow4 hg4))
          have HB3a : Below wa.heap.size wa (wa.alloc (.cells #[.int .i64 y1, .int .u8 y2, .slice ua y3.length uc] 34)) := (Below.refl _ _).alloc (Nat.le_refl _) _
          have HRN := Lib.hid (RowG.more (s := [(y1, y2, .slice ua y3.length uc, y3)]) HRA.out (Nat.le_trans hB0W hsza) HB3a (fun z hz => by
            rw [List.mem_singleton] at hz
            subst hz
            exact (HEL.out.below HBA.out (Nat.le_refl _)).below HB3a (Nat.le_refl _)) (fun g hg => by
            simp [shapeG] at hg
            subst hg
            exact HGB.out) (row3_mono HR4.out hB0W) HG4.out)
          have HBN := Lib.hid ((HBA.out.trans (HB3a.mono hsza)).grown HG4.out (by simp; omega) (fun g hg => (rowG_lt HOA.out g hg).1))
          go_roundw
          case rel => exact ⟨k + 1, _, HKL.out, by go_num, HRN.out, by rw [HUT.out, ← HSH.out], HBN.out, HR4.out⟩
          case measure => have := HKL.out; simp [intOf]; omega
        | false =>
          rw [hmem] at HUT hla
          rw [if_neg (by simp), List.append_nil] at HUT
          clear hmem
          go_wp2
          go_roundw
          case rel => exact ⟨k + 1, t, HKL.out, by go_num, HRA.out, by rw [HUT.out, ← HSH.out], HBA.out, HOA.out⟩
          case measure => have := HKL.out; simp [intOf]; omega
      · obtain rfl : k = gs.length := by omega
        rw [HL0.out, List.take_length] at HSH
        have HK' : Hid (wr.heap[D]? = some (.deferred (some []))) := (HBW.out.block D hDlt).trans HK.out
        go_wp2
        refine ⟨by simp, .inl ⟨_, _, rfl, run_takeDeferred HK'.out, ?_⟩⟩
        have hbF : Below w.heap.size w (wr.putObj D (.deferred none)) := HTOT.out.grown (grownBy_putObj' wr D (.deferred none)) HTOT.out.size (fun k e => by injection e; omega)
        have hsz1 := HB.out.size
        have hrw := HRW.out.keptD (grownBy_putObj' wr D (.deferred none)) HK'.out rfl (by have := HBB.out; omega)
        exact ⟨.slice oa t.length oc, by simp [results, Try.f47, go_sem], _, rfl, by rw [← HSH.out]; exact hrw, hbF⟩
end Go.Proofs.Ytafenijbglcppaa

/- circ.without. -/
namespace Go.Proofs.Ytafenijbglcppaa
open Go.RowKit Go.Shelf
set_option linter.unusedVariables false
set_option linter.unusedSimpArgs false
attribute [local go_sem] Oper.semAt_some cell_far frozen_far drew_cell drew_frozen

def goneF (f : Int → Option Int) (v : Int) : Bool := (f v).isNone
theorem gone_take {f : Int → Option Int} {l : List Int} {k : Nat} (h : k < l.length) : (l.take (k + 1)).filter (goneF f) = (l.take k).filter (goneF f) ++ (if goneF f (l.getD k 0) = true then [l.getD k 0] else []) := by
  rw [ints_take_succ h, List.filter_append, List.filter_cons, List.filter_nil]
theorem own_app1 {w w2 : World} {B C : Nat} {v : Value} {xs : List Int} {o : Obj} {w0 : World} (hb : Below B w0 w) (hB : B ≤ w.heap.size) (ho : Own w C v xs) (hC : B ≤ C) (hg : (w.alloc o).grownBy w2 v.ownBlock) : Below B w0 w2 :=
  (hb.alloc hB o).grown hg (by simp; omega) (fun g hg' => Nat.le_trans hC (ho.lt g hg').1)

/-- append of a row to a row of the call's own, and where it lies. -/
theorem wpList_appL {w : World} {ops : Array Oper} {rest : List Oper} {o : Oper} {a : Act} {Q : Exit → Act → World → Prop} (hgd : o.guard = none) (s x : Operand)
    (ho : o.op = .call { callee := .builtin .append, args := #[s, x], argTypes := #[28, 28] }) (B : Nat) (v u : Value) (xs ys : List Int)
    (hs : a.eval s = v) (hx : a.eval x = u) (hown : Own w B v xs) (hu : IsInts w u ys) (hne : ys ≠ []) (hlen : xs.length + ys.length ≤ 17592186044416) (hB : B ≤ w.heap.size)
    (h : ∀ v' w', Own w' B v' (xs ++ ys) → w.grownBy w' v.ownBlock → (v'.ownBlock = v.ownBlock ∨ v'.ownBlock = some w.heap.size) → wpList Try.prog ops Q rest (a.put o.dst v') w') : wpList Try.prog ops Q (o :: rest) a w :=
  wpList_plain hgd fun K hK => by
    have h9 := step_appI (ops := ops) (K := K) (Q := Q) (E := True) o.dst rfl hgd s x ho B v u xs ys hs hx hown hu hne hlen hB (fun v' w' h1 h2 h3 => hK _ _ (h v' w' h1 h2 h3))
    simpa [Region.wanted, hgd] using h9

set_option maxRecDepth 100000 in
set_option maxHeartbeats 6400000 in
theorem cwithout_any (b n : Nat) (f : Int → Option Int) (vp : Value) (p : List Blk) (w : World) (hm : MapM w b n f) (HP : IsBlocks w vp p) (hfl : (flatB p).length ≤ 1024) :
    Calls Try.prog 26 #[vp, .map (some b)] w fun e w' => ∃ v t, e = .returned v ∧ JoinSt w' w.heap.size v t ∧ shapeT t = withoutP p f ∧ Below w.heap.size w w' := by
  have HPP := Lib.hid HP
  have HMM := Lib.hid hm
  obtain ⟨a, cap, rfl, hlp⟩ := HP.shape
  have HFL := Lib.hid hfl
  have HLP := Lib.hid hlp
  clear HP hm hfl
  go_enter Try.func26, Try.ntmps26
  go_wp2
  go_loopw [5, 16] (fun out i wr => ∃ (k : Nat) (t : List Trp), k ≤ p.length ∧ i = .int .i64 k ∧ JoinSt wr w.heap.size out t ∧ shapeT t = withoutP (p.take k) f ∧ Below w.heap.size w wr) (fun _ i _ => p.length - (intOf i).toNat)
  case atStart => exact ⟨0, [], Nat.zero_le _, rfl, JoinSt.nil _ _, rfl, Below.refl _ _⟩
  case round =>
    obtain ⟨k, t, hk, rfl, hst, hsh, hbel⟩ := hrel
    have HST := Lib.hid hst
    have HSH := Lib.hid hsh
    have HBW := Lib.hid hbel
    have hszr := hbel.size
    obtain ⟨oa, oc, rfl⟩ := hst.shape
    clear hst hsh hbel
    by_cases hlt : k < p.length
    · obtain ⟨pb, off, u, rfl, hb, hcx0, hcu0, HU⟩ := HPP.out.at hlt
      have hcx := (HBW.out.cell (p := ⟨pb, off + k * 2, none⟩) hb).trans hcx0
      have hcu := (HBW.out.cell (p := ⟨pb, off + k * 2 + 1, none⟩) hb).trans hcu0
      have HJS : Hid (withoutP (p.take (k + 1)) f = joinStep (withoutP (p.take k) f) ((p.getD k dB).1, (p.getD k dB).2.filter (goneF f))) := by
        show _ = _
        unfold withoutP
        rw [goneB_take hlt, joinL_snoc]
        rfl
      have hl2 : (p.getD k dB).2.length ≤ 1024 := Nat.le_trans (len_flatB (by simp [List.getD, hlt])) HFL.out
      have HL2 := Lib.hid hl2
      have HKL := Lib.hid hlt
      have hk0 : (0 : Int) ≤ (k : Int) := by omega
      have hk1 : (k : Int) < (p.length : Int) := by omega
      have hk2 : (k : Int) < 17592186044417 := by omega
      clear hcx0 hcu0 hl2 hlt
      generalize p.getD k dB = y at *
      obtain ⟨y1, y2⟩ := y
      simp only at hcx hcu HU HJS HL2
      have hbw := HBW.out.alloc hszr (.cells #[.bool y1, u] 32)
      have HUW := Lib.hid HU
      obtain ⟨ua, uc, rfl⟩ := HU.shape
      have hva0 : (wr.alloc (.cells #[.bool y1, .slice ua y2.length uc] 32)).cell? ⟨wr.heap.size, 0, none⟩ = some (.bool y1) := cell_fresh rfl
      have hva1 : (wr.alloc (.cells #[.bool y1, .slice ua y2.length uc] 32)).cell? ⟨wr.heap.size, 1, none⟩ = some (.slice ua y2.length uc) := cell_fresh rfl
      have HSA : Hid (JoinSt (wr.alloc (.cells #[.bool y1, .slice ua y2.length uc] 32)) w.heap.size (.slice oa t.length oc) t) := HST.out.below ((Below.refl wr.heap.size wr).alloc (Nat.le_refl _) _) (Nat.le_refl _)
      have HBA : Hid (Below w.heap.size w (wr.alloc (.cells #[.bool y1, .slice ua y2.length uc] 32))) := hbw
      have HBD : Hid ((∀ x ∈ t, x.2.2.length ≤ 1024) ∧ t.length ≤ 1024) := by
        have h1 : (flatB (shapeT t)).length ≤ 1024 := by
          rw [HSH.out, without_flat]
          have h6 : flatB p = flatB (p.take k) ++ flatB (p.drop k) := by unfold flatB; rw [← List.flatten_append, ← List.map_append, List.take_append_drop]
          have h7 := HFL.out
          rw [h6, List.length_append] at h7
          have h8 := List.length_filter_le (fun v => (f v).isNone) (flatB (p.take k))
          omega
        refine ⟨fun x hx => ?_, ?_⟩
        · have h2 := len_flatB (p := shapeT t) (b := (x.1, x.2.2)) (List.mem_map_of_mem hx)
          simp only at h2
          omega
        · have h2 := count_flatB (p := shapeT t) (fun b hb => by
            obtain ⟨x, hx, rfl⟩ := List.mem_map.1 hb
            exact HST.out.full x hx)
          rw [shapeT_len] at h2
          omega
      have hgt : (wr.alloc (.cells #[.bool y1, .slice ua y2.length uc] 32)).heap.size > wr.heap.size := by simp
      have HY64 : Hid (In64 y2) := by obtain ⟨_, _, _, _, _, _, g, _⟩ := HUW.out; exact g
      clear HU hbw HST
      go_upto_region 5 with fail
      generalize hwa : wr.alloc (.cells #[.bool y1, .slice ua y2.length uc] 32) = wa at *
      clear hwa
      have hszA : w.heap.size ≤ wa.heap.size := HBA.out.size
      clear hcx hcu
      go_wp2
      obtain ⟨wq, hwq⟩ : ∃ wq, wr = wq := ⟨_, rfl⟩
      subst hwq
      generalize wr.heap.size = br at *
      go_loopw [8, 23] (fun left i wx => ∃ (j : Nat), j ≤ y2.length ∧ i = .int .i64 j ∧ Own wx wa.heap.size left ((y2.take j).filter (goneF f)) ∧ Below wa.heap.size wa wx) (fun _ i _ => y2.length - (intOf i).toNat)
      case atStart => exact ⟨0, Nat.zero_le _, rfl, by simpa using Own.nil _ _, Below.refl _ _⟩
      case round =>
        obtain ⟨j, hj, rfl, hown, hbel⟩ := hrel
        have HOW := Lib.hid hown
        have HBX := Lib.hid hbel
        have hszx := hbel.size
        obtain ⟨la, lc, rfl⟩ := own_shC hown
        clear hown hbel
        by_cases hlt2 : j < y2.length
        · obtain ⟨ub, uo, rfl, hub, hc0⟩ := HUW.out.cellY hlt2
          have HTW : Hid (Below w.heap.size w wr) := HBA.out.trans (HBX.out.mono hszA)
          have hcv := (HTW.out.cell (p := ⟨ub, uo + j, none⟩) hub).trans hc0
          have hxr := HY64.out _ (ints_getD_mem hlt2)
          have HGT := Lib.hid (gone_take (f := f) hlt2)
          have hlk := (HMM.out.below HTW.out (Nat.le_refl _)).look_ok (y2.getD j 0) (i64w hxr.1 hxr.2)
          have hfl : ((y2.take j).filter (goneF f)).length ≤ 1024 := by
            have h1 := List.length_filter_le (goneF f) (y2.take j)
            have h2 := HL2.out
            rw [List.length_take] at h1
            omega
          have HFLN := Lib.hid hfl
          have hj0 : (0 : Int) ≤ (j : Int) := by omega
          have hj1 : (j : Int) < (y2.length : Int) := by omega
          have hj2 : (j : Int) < 17592186044417 := by have := HL2.out; omega
          have HJL := Lib.hid hlt2
          clear hc0 hxr hlt2 hfl
          generalize y2.getD j 0 = x at *
          generalize (y2.take j).filter (goneF f) = F at *
          cases hfx : goneF f x with
          | true =>
            have h9 : f x = none := by unfold goneF at hfx; simpa using hfx
            rw [h9] at hlk
            simp only [Option.getD_none, Option.isSome_none] at hlk
            rw [hfx, if_pos rfl] at HGT
            clear h9 hfx
            go_wp2_with (at_builtin; go_loud (refine wpList_app1 rfl (.tmp 35) (.tmp 37) rfl wa.heap.size (.slice la F.length lc) F x wr.heap.size rfl rfl (HOW.out.alloc _) (cell_fresh rfl) (by have := HFLN.out; omega) (by simp; omega) ?_; intro v2 w2 ho2 hg2; have HO2 := Lib.hid ho2; have HB2 := Lib.hid (own_app1 HBX.out hszx HOW.out (Nat.le_refl _) hg2); clear ho2 hg2))
            go_roundw
            case rel => exact ⟨j + 1, HJL.out, by go_num, by rw [HGT.out]; exact HO2.out, HB2.out⟩
            case measure => have := HJL.out; simp [intOf]; omega
          | false =>
            have h9 : (f x).isSome = true := by unfold goneF at hfx; simpa using hfx
            rw [h9] at hlk
            rw [hfx, if_neg (by simp), List.append_nil] at HGT
            clear h9 hfx
            go_wp2
            go_roundw
            case rel => exact ⟨j + 1, HJL.out, by go_num, by rw [HGT.out]; exact HOW.out, HBX.out⟩
            case measure => have := HJL.out; simp [intOf]; omega
        · obtain rfl : j = y2.length := by omega
          rw [List.take_length] at HOW
          have hlF : (y2.filter (goneF f)).length ≤ 1024 := Nat.le_trans (List.length_filter_le _ _) HL2.out
          have HLF := Lib.hid hlF
          have HF6 : Hid (In64 (y2.filter (goneF f))) := fun z hz => HY64.out z (List.mem_filter.1 hz).1
          have HTB : Hid (Below w.heap.size w wr) := HBA.out.trans (HBX.out.mono hszA)
          have hszt : w.heap.size ≤ wr.heap.size := HTB.out.size
          have HSX : Hid (JoinSt wr w.heap.size (.slice oa t.length oc) t) := HSA.out.below HBX.out (Nat.le_refl _)
          have e0 : wr.cell? ⟨br, 0, none⟩ = some (.bool y1) := (HBX.out.cell (p := ⟨br, 0, none⟩) hgt).trans hva0
          have HE0 := Lib.hid e0
          clear hlF
          rw [List.take_length]
          generalize y2.filter (goneF f) = F at *
          by_cases hy : F = []
          · subst hy
            go_wp2
            go_roundw
            case rel => exact ⟨k + 1, t, HKL.out, by have := HLP.out; have := HKL.out; go_num, HSX.out, by rw [HJS.out, HSH.out, joinStep_nil], HTB.out⟩
            case measure => have := HKL.out; have := HLP.out; simp [intOf]; omega
          · have hz : ((F.length : Int) == 0) = false := by simpa using hy
            have HY := Lib.hid hy
            clear hy
            rcases nil_or_snoc t with rfl | ⟨t', x, rfl⟩
            · have HSX0 : Hid (JoinSt wr w.heap.size (.slice oa 0 oc) ([] : List Trp)) := HSX.out
              clear HSX
              go_upto_region 16 with fail
              go_wp2_with fail
              clear hk2 hlt2 hj hlp HUW
              go_quiet (fail)
              obtain ⟨wb, hwb⟩ : ∃ wb, wr.drewN nq = wb := ⟨_, rfl⟩
              have hqb : Quiet wr wb := ⟨nq, hwb.symm⟩
              rw [hwb]
              have HSB : Hid (JoinSt wb w.heap.size (.slice oa 0 oc) ([] : List Trp)) := HSX0.out.below (hqb.below _) (Nat.le_refl _)
              have HBB : Hid (Below wa.heap.size wa wb) := HBX.out.trans (hqb.below _)
              have HOB : Hid (Own wb wa.heap.size (.slice la F.length lc) F) := HOW.out.quiet hqb
              have hszb : w.heap.size ≤ wb.heap.size := by have := hqb.size; omega
              have b0 : wb.cell? ⟨br, 0, none⟩ = some (.bool y1) := (hqb.cell _).trans e0
              have HTL : Hid (([] : List Trp).length < 1000000) := by show _ < _; simp
              have HSAA : Hid (JoinSt wa w.heap.size (.slice oa 0 oc) ([] : List Trp)) := HSA.out
              clear e0 hva0 hva1 hqb hwb HSA HSX0
              have hk2 : (k : Int) < 17592186044417 := by have := HLP.out; have := HKL.out; omega
              go_wp2_with (at_builtin; go_loud (refine wpList_appBlk rfl (.tmp 43) (.tmp 48) rfl w.heap.size (.slice oa 0 oc) (.slice la F.length lc) ([] : List Trp) y1 F wb.heap.size rfl rfl (HSB.out.below ((Below.refl _ _).alloc (Nat.le_refl _) (.cells #[.bool y1, .slice la F.length lc] 32)) (Nat.le_refl _)).row (cell_fresh rfl) (cell_fresh rfl) rfl HTL.out (by simp; omega) ?_; intro v7 w7 hrow7 hg7; have HR7 := Lib.hid hrow7; have HG7 := Lib.hid hg7; clear hrow7 hg7))
              have hrow : w7.ownsRow w.heap.size 32 2 v7 (([] : List Trp).length + 1) (cellsT [] ++ [.bool y1, .slice la F.length lc]) := by
                have h9 := HR7.out
                rw [List.length_append, cellsT_app] at h9
                exact h9
              have HS7 := Lib.hid (JoinSt.snoc HSAA.out hszA HBB.out HOB.out HY.out hrow HG7.out)
              have HB7 := Lib.hid (((HBA.out.trans (HBB.out.mono hszA)).alloc hszb (.cells #[.bool y1, .slice la F.length lc] 32)).grown HG7.out (by simp; omega) (fun g hg => (HSAA.out.vlt g hg).1))
              go_roundw
              case rel => exact ⟨k + 1, _, HKL.out, by have := HLP.out; have := HKL.out; go_num, HS7.out, by rw [shapeT_app, HJS.out, joinStep_new HY.out (fun l hl => by rw [← HSH.out] at hl; cases hl), ← HSH.out]; rfl, HB7.out⟩
              case measure => have := HKL.out; have := HLP.out; simp [intOf]; omega
            · have el2 : (t' ++ [x]).length = t'.length + 1 := by simp
              rw [el2] at HSX HSA ⊢
              obtain ⟨g, ocap, eo, hBg, hglt, ce, cv, hfz, hne⟩ := HSX.out.at (j := t'.length) (by simp)
              injection eo with eo1 _ eo3
              subst eo1; subst eo3
              have egd : (t' ++ [x]).getD t'.length (false, .slice none 0 0, []) = x := by simp [List.getD]
              rw [egd] at ce cv
              obtain ⟨x1, x2, x3⟩ := x
              simp only at ce cv
              obtain ⟨m, hm⟩ : ∃ m, t'.length = m := ⟨_, rfl⟩
              rw [hm] at ce cv HSX HSA
              rw [hm]
              have hm9 : m + 1 ≤ 1024 := by
                have h1 := HBD.out.2
                rwa [List.length_append, hm] at h1
              obtain ⟨mi, hmi⟩ : ∃ x : Int, (m : Int) = x := ⟨_, rfl⟩
              have hwm : wrap64 mi = mi := by rw [← hmi]; exact bd_wrap hm9 (by omega)
              have hm0 : 0 ≤ mi := by rw [← hmi]; exact (bd_int (m := m)).1
              have hm1 : mi < mi + 1 := by rw [← hmi]; exact (bd_int (m := m)).2
              have htn : mi.toNat = m := by rw [← hmi]; exact Int.toNat_natCast m
              have HSA1 : Hid (JoinSt wa w.heap.size (.slice (some ⟨g, 0, none⟩) (m + 1) oc) (t' ++ [(x1, x2, x3)])) := HSA.out
              have HSX1 : Hid (JoinSt wr w.heap.size (.slice (some ⟨g, 0, none⟩) (m + 1) oc) (t' ++ [(x1, x2, x3)])) := HSX.out
              clear HSA HSX
              go_upto_region 16 with fail
              clear hk2 hlt2 hj hlp HUW
              go_cut [54] from 54 to 66 (fun s wx => s = .bool (x1 == y1) ∧ Quiet wr wx)
              case first =>
                have h4 : (x1 = true ∨ x1 = false) ∧ (y1 = true ∨ y1 = false) := by cases x1 <;> cases y1 <;> simp
                clear HSA1 HSX1 HSH HJS HBD HBA HTB HBX
                rcases h4 with ⟨rfl | rfl, rfl | rfl⟩
                all_goals
                  go_wp2_with fail
                  go_quiet (fail)
                  go_wp2
                  go_meet
                  exact ⟨rfl, ⟨_, rfl⟩⟩
              case rest =>
                obtain ⟨rfl, hqb⟩ := hcut
                have hqw : wr.heap.size ≤ wc.heap.size := by have := hqb.size; omega
                have HBB : Hid (Below wa.heap.size wa wc) := HBX.out.trans (hqb.below _)
                have HOB : Hid (Own wc wa.heap.size (.slice la F.length lc) F) := HOW.out.quiet hqb
                have HSB : Hid (JoinSt wc w.heap.size (.slice (some ⟨g, 0, none⟩) (m + 1) oc) (t' ++ [(x1, x2, x3)])) := HSX1.out.below (hqb.below _) (Nat.le_refl _)
                have HTC : Hid (Below w.heap.size w wc) := HTB.out.trans (hqb.below _)
                have hszb : w.heap.size ≤ wc.heap.size := by omega
                have hwlt : br < wc.heap.size := by omega
                have b0 : wc.cell? ⟨br, 0, none⟩ = some (.bool y1) := (hqb.cell _).trans e0
                have HTL : Hid ((t' ++ [(x1, x2, x3)]).length < 1000000) := by show _ < _; rw [List.length_append, hm]; simp; omega
                cases hbe : (x1 == y1) with
                | false =>
                  have HNE := Lib.hid hbe
                  clear hbe e0 hva0 hva1 ce cv hfz hne hqb
                  have hk2 : (k : Int) < 17592186044417 := by have := HLP.out; have := HKL.out; omega
                  go_wp2_with (at_builtin; go_loud (refine wpList_appBlk rfl (.tmp 43) (.tmp 48) rfl w.heap.size (.slice (some ⟨g, 0, none⟩) (m + 1) oc) (.slice la F.length lc) (t' ++ [(x1, x2, x3)]) y1 F wc.heap.size rfl rfl (HSB.out.below ((Below.refl _ _).alloc (Nat.le_refl _) (.cells #[.bool y1, .slice la F.length lc] 32)) (Nat.le_refl _)).row (cell_fresh rfl) (cell_fresh rfl) rfl HTL.out (by simp; omega) ?_; intro v7 w7 hrow7 hg7; have HR7 := Lib.hid hrow7; have HG7 := Lib.hid hg7; clear hrow7 hg7))
                  have hrow : w7.ownsRow w.heap.size 32 2 v7 ((t' ++ [(x1, x2, x3)]).length + 1) (cellsT (t' ++ [(x1, x2, x3)]) ++ [.bool y1, .slice la F.length lc]) := by
                    have h9 := HR7.out
                    rw [List.length_append, cellsT_app] at h9
                    exact h9
                  have HS7 := Lib.hid (JoinSt.snoc HSA1.out hszA HBB.out HOB.out HY.out hrow HG7.out)
                  have HB7 := Lib.hid (((HBA.out.trans (HBB.out.mono hszA)).alloc hszb (.cells #[.bool y1, .slice la F.length lc] 32)).grown HG7.out (by simp; omega) (fun g hg => (HSA1.out.vlt g hg).1))
                  go_roundw
                  case rel => exact ⟨k + 1, _, HKL.out, by have := HLP.out; have := HKL.out; go_num, HS7.out, by rw [shapeT_app, HJS.out, joinStep_new HY.out (fun l hl => by rw [← HSH.out, shapeT_app] at hl; simp [shapeT] at hl; have h2 := HNE.out; subst hl; simpa using h2), ← HSH.out]; rfl, HB7.out⟩
                  case measure => have := HKL.out; have := HLP.out; simp [intOf]; omega
                | true =>
                  have hxy : x1 = y1 := by simpa using hbe
                  clear hbe
                  have hx3 : x3 ≠ [] := HSB.out.full (x1, x2, x3) (by simp)
                  have hox : Own wc w.heap.size x2 x3 := HSB.out.owns (x1, x2, x3) (by simp)
                  have hxg : x2.ownBlock ≠ some g := fun e1 => hne (x1, x2, x3) (by simp) g e1 rfl
                  obtain ⟨gx, cx, rfl⟩ := hox.sh hx3
                  have HOX := Lib.hid hox
                  have HX3 := Lib.hid hx3
                  have HXG := Lib.hid hxg
                  have HF64 : Hid (In64 F ∧ F.length ≤ 1024) := ⟨HF6.out, HLF.out⟩
                  have HUX : Hid (IsInts wc (.slice la F.length lc) F) := HOB.out.ints (by have := HLF.out; omega) HF6.out
                  obtain ⟨T7, hT7⟩ : ∃ T, x3 ++ F = T := ⟨_, rfl⟩
                  have HT7 := Lib.hid hT7
                  have HTN : Hid (T7 ≠ []) := by rw [← hT7]; exact fun e1 => HY.out (List.append_eq_nil_iff.1 e1).2
                  have HLN : Hid (x3.length + F.length ≤ 17592186044416) := by have h1 := HBD.out.1 (x1, .slice (some ⟨gx, 0, none⟩) x3.length cx, x3) (by simp); have h2 := HLF.out; simp only at h1; show _ ≤ _; omega
                  have d0 : wc.cell? ⟨g, m * 2 + 1, none⟩ = some (.slice (some ⟨gx, 0, none⟩) x3.length cx) := (hqb.cell _).trans cv
                  have hgd : g < wc.heap.size := by omega
                  have HD0 := Lib.hid d0
                  have HFZ : Hid (wc.frozen? ⟨g, m * 2 + 1, none⟩ = false) := frozen_quiet hqb (hfz _)
                  have HG := Lib.hid hgd
                  have HM := Lib.hid hm
                  have HXY := Lib.hid hxy
                  clear hx3 hox hxg hT7 hgd hm hxy hva0 hva1 e0 ce cv hfz hne hqb
                  have hk2 : (k : Int) < 17592186044417 := by have := HLP.out; have := HKL.out; omega
                  go_wp2_with (at_builtin; go_loud (refine wpList_appL rfl (.tmp 73) (.tmp 74) rfl w.heap.size (.slice (some ⟨gx, 0, none⟩) x3.length cx) (.slice la F.length lc) x3 F rfl rfl HOX.out HUX.out HY.out HLN.out hszb ?_; intro v7 w7 ho7 hg7 hl7; rw [HT7.out] at ho7; obtain ⟨g7, c7, rfl⟩ := ho7.sh HTN.out; have d7 : w7.cell? ⟨g, m * 2 + 1, none⟩ = some (.slice (some ⟨gx, 0, none⟩) x3.length cx) := (hg7.cell_far ⟨g, m * 2 + 1, none⟩ HG.out (fun e1 => HXG.out e1.symm)).trans HD0.out; have f7 : w7.frozen? ⟨g, m * 2 + 1, none⟩ = false := (hg7.frozen_far ⟨g, m * 2 + 1, none⟩ HG.out (fun e1 => HXG.out e1.symm)).trans HFZ.out; have HO7 := Lib.hid ho7; have HG7 := Lib.hid hg7; have HL7 := Lib.hid hl7; clear ho7 hg7 hl7))
                  have HS8 : Hid (JoinSt (w7.setCell ⟨g, m * 2 + 1, none⟩ (.slice (some ⟨g7, 0, none⟩) T7.length c7)) w.heap.size (.slice (some ⟨g, 0, none⟩) (m + 1) oc) (t' ++ [(x1, .slice (some ⟨g7, 0, none⟩) T7.length c7, T7)])) := by
                    have h9 := JoinSt.grow (l2 := F) HSB.out hszb (by rw [HT7.out]; exact HTN.out) (by rw [HT7.out]; exact HO7.out) HG7.out HL7.out
                    rw [HT7.out, HM.out] at h9
                    exact h9
                  have HB8 := Lib.hid ((HTC.out.grown HG7.out hszb (fun g' hg' => (HOX.out.lt g' hg').1)).setCell (p := ⟨g, m * 2 + 1, none⟩) hBg (.slice (some ⟨g7, 0, none⟩) T7.length c7))
                  have HSP : Hid (shapeT (t' ++ [(x1, Value.slice (some ⟨g7, 0, none⟩) T7.length c7, T7)]) = withoutP (p.take (k + 1)) f) := by
                    show _ = _
                    rw [HJS.out, ← HSH.out, shapeT_app, shapeT_app, ← HXY.out]
                    show shapeT t' ++ [(x1, T7)] = joinStep (shapeT t' ++ [(x1, x3)]) (x1, F)
                    rw [joinStep_grow HY.out, HT7.out]
                  go_roundw
                  case rel => exact ⟨k + 1, t' ++ [(x1, .slice (some ⟨g7, 0, none⟩) T7.length c7, T7)], HKL.out, by have := HLP.out; have := HKL.out; go_num, HS8.out, HSP.out, HB8.out⟩
                  case measure => have := HKL.out; have := HLP.out; simp [intOf]; omega
    · obtain rfl : k = p.length := by omega
      rw [List.take_length] at HSH
      go_wp2
      go_ret
      exact ⟨_, t, rfl, HST.out, HSH.out, HBW.out⟩
end Go.Proofs.Ytafenijbglcppaa

/- circ.constant. -/
namespace Go.Proofs.Ytafenijbglcppaa
open Go.RowKit
set_option linter.unusedVariables false
set_option linter.unusedSimpArgs false

theorem getD_app1 {α : Type} (o : List α) (x d : α) (j : Nat) : (o ++ [x]).getD j d = if j < o.length then o.getD j d else if j = o.length then x else d := by
  unfold List.getD
  rw [List.getElem?_append]
  split
  · rfl
  · split
    · rename_i h1 h2; subst h2; simp
    · rename_i h1 h2
      rw [List.getElem?_eq_none (by simp; omega)]
      rfl
theorem blks_step {out : List Blk} (h : ∀ j, j < out.length → blkOk out j) (b : Blk) : ∀ j, j < (joinStep out b).length → blkOk (joinStep out b) j := by
  by_cases hb : b.2 = []
  · rw [show joinStep out b = out from by unfold joinStep; rw [if_pos hb]]
    exact h
  · have snoc : ∀ (o : List Blk) (x : Blk), (∀ j, j < o.length → blkOk o j) → x.2 ≠ [] → (∀ l, o.getLast? = some l → l.1 ≠ x.1) → ∀ j, j < (o ++ [x]).length → blkOk (o ++ [x]) j := by
      intro o x h1 h2 h3 j hj
      unfold blkOk
      rw [getD_app1, getD_app1]
      by_cases e : j < o.length
      · rw [if_pos e, if_pos (by omega)]
        exact h1 j e
      · have e2 : j = o.length := by simp at hj; omega
        subst e2
        rw [if_neg (by omega), if_pos rfl]
        refine ⟨h2, fun h0 => ?_⟩
        rw [if_pos (by omega)]
        have h5 := h3 (o.getD (o.length - 1) dB) (by
          rw [List.getLast?_eq_getElem?, List.getD, List.getElem?_eq_getElem (by omega)]
          rfl)
        exact fun e => h5 e.symm
    rcases nil_or_snoc out with rfl | ⟨t, x, rfl⟩
    · rw [joinStep_new hb (fun l hl => by cases hl)]
      exact snoc [] b h hb (fun l hl => by cases hl)
    · obtain ⟨x1, x2⟩ := x
      obtain ⟨b1, b2⟩ := b
      by_cases e : x1 = b1
      · subst e
        rw [joinStep_grow hb]
        have ht : ∀ j, j < t.length → blkOk t j := fun j hj => by
          have h9 := h j (by simp; omega)
          unfold blkOk at h9 ⊢
          rw [getD_app1, getD_app1, if_pos hj, if_pos (by omega)] at h9
          exact h9
        refine snoc t (x1, x2 ++ b2) ht (fun e => hb (List.append_eq_nil_iff.1 e).2) (fun l hl => ?_)
        have h9 := h t.length (by simp)
        unfold blkOk at h9
        rw [getD_app1, getD_app1, if_neg (by omega), if_pos rfl] at h9
        have hp : 0 < t.length := by
          cases t with
          | nil => cases hl
          | cons _ _ => simp
        have h10 := h9.2 hp
        rw [if_pos (by omega)] at h10
        rw [List.getLast?_eq_getElem?] at hl
        have h11 : t.getD (t.length - 1) dB = l := by rw [List.getD, hl]; rfl
        rw [h11] at h10
        exact fun e => h10 e.symm
      · rw [joinStep_new hb (fun l hl => by simp at hl; subst hl; exact e)]
        exact snoc _ _ h hb (fun l hl => by simp at hl; subst hl; exact e)
theorem blks_join (p : List Blk) : ∀ j, j < (joinL p).length → blkOk (joinL p) j := by
  unfold joinL
  suffices h : ∀ (p out : List Blk), (∀ j, j < out.length → blkOk out j) → ∀ j, j < (p.foldl joinStep out).length → blkOk (p.foldl joinStep out) j from h p [] (fun j hj => by simp at hj)
  intro p
  induction p with
  | nil => exact fun _ h => h
  | cons b r ih => exact fun out h => ih _ (blks_step h b)
theorem mayP_parts {P : List Blk} (h : mayP P = true) : (∀ j, j < P.length → blkOk P j) ∧ numsOk (flatB P) := by unfold mayP at h; exact of_decide_eq_true h
theorem mayP_short {P : List Blk} (h : mayP P = true) : (flatB P).length ≤ 1024 ∧ P.length ≤ 1024 := by
  obtain ⟨h0, h1, h2, h3⟩ := mayP_parts h
  refine ⟨h3, Nat.le_trans (count_flatB fun b hb => ?_) h3⟩
  obtain ⟨j, hj, rfl⟩ := List.mem_iff_getElem.1 hb
  have h4 := (h0 j hj).1
  have e : P.getD j dB = P[j] := by simp [List.getD, hj]
  rwa [e] at h4
theorem mayP_without {P : List Blk} (h : mayP P = true) (f : Int → Option Int) : mayP (withoutP P f) = true := by
  obtain ⟨_, h1, h2, h3⟩ := mayP_parts h
  unfold mayP
  rw [decide_eq_true_iff]
  refine ⟨blks_join _, ?_⟩
  rw [without_flat]
  exact ⟨h1.filter _, fun v hv => h2 v (List.mem_filter.1 hv).1, Nat.le_trans (List.length_filter_le _ _) h3⟩
theorem unused_one {S : List Int} (h : S.length ≤ 1024) : ∃ x, unusedL S 1 = [x] ∧ 1 ≤ x ∧ x ≤ 65536 ∧ x ∉ S := by
  have h1 := freeUp_many S 65536
  unfold unusedL
  have h2 := freeUp_bd (S := S) (m := 65536) (Nat.le_refl _)
  have h3 : ∀ v, v ∈ freeUp S 65536 → v ∉ S := fun v => freeUp_mem
  generalize freeUp S 65536 = F at *
  cases F with
  | nil => simp at h1; omega
  | cons x r =>
    have := h2 x List.mem_cons_self
    exact ⟨x, by simp, this.1, this.2, h3 x List.mem_cons_self⟩

theorem IsGates.one {W : World} {g : Nat} {x k : Int} {u : Value} {l : List Int} (h0 : W.cell? ⟨g, 0, none⟩ = some (.int .i64 x)) (h1 : W.cell? ⟨g, 1, none⟩ = some (.int .u8 k)) (h2 : W.cell? ⟨g, 2, none⟩ = some u) (hg : g < W.heap.size) (hu : IsInts W u l)
    (hx1 : -9223372036854775808 ≤ x) (hx2 : x ≤ 9223372036854775807) (hk1 : 0 ≤ k) (hk2 : k ≤ 255) : IsGates W (.slice (some ⟨g, 0, none⟩) 1 1) [(x, k, l)] :=
  ⟨_, 1, rfl, ⟨Nat.le_refl _, fun h => by cases h⟩, by omega, by simp, fun y hy => by rw [List.mem_singleton] at hy; subst hy; exact ⟨⟨hx1, hx2⟩, hk1, hk2⟩, g, 0, fun _ => ⟨rfl, hg⟩, fun j hj => by
    match j, hj with
    | 0, _ => exact ⟨h0, h1, u, h2, hu⟩⟩
/-- A net that a call hands back. -/
def NetPost (w : World) (r : Nt) (e : Ending) (w' : World) : Prop :=
  ∃ vp vg, e = .returned (.agg #[vp, vg, .int .i64 r.2.2]) ∧ IsBlocks w' vp r.1 ∧ IsGates w' vg r.2.1 ∧ Below w.heap.size w w'

/-- What circ.constant hands back: the prefix itself, and one gate in a new block. -/
def ConstPost (w : World) (P : List Blk) (vp : Value) (v : Bool) (e : Ending) (w' : World) : Prop :=
  ∃ g x, e = .returned (.agg #[vp, .slice (some ⟨g, 0, none⟩) 1 1, .int .i64 (if v = true then x else -x)]) ∧ w.heap.size < g ∧ w'.heap[g]? = some (.cells #[.int .i64 x, .int .u8 1, .slice none 0 0] 34 (0, 0)) ∧
    constN P v = (P, [(x, 1, [])], if v = true then x else -x) ∧ (1 ≤ x ∧ x ≤ 65536) ∧ Below w.heap.size w w'
theorem const_gates {W : World} {g : Nat} {x : Int} (h : W.heap[g]? = some (.cells #[.int .i64 x, .int .u8 1, .slice none 0 0] 34 (0, 0))) (h1 : 1 ≤ x) (h2 : x ≤ 65536) : IsGates W (.slice (some ⟨g, 0, none⟩) 1 1) [(x, 1, [])] :=
  IsGates.one (by simp [World.cell?, h]) (by simp [World.cell?, h]) (by simp [World.cell?, h]) (Array.getElem?_eq_some_iff.1 h).1 (IsInts.nil _) (by omega) (by omega) (by omega) (by omega)

set_option maxRecDepth 100000 in
set_option maxHeartbeats 3200000 in
theorem cconst_any (vp : Value) (P : List Blk) (v : Bool) (w : World) (HP : IsBlocks w vp P) (hP : mayP P = true) :
    Calls Try.prog 46 #[vp, .bool v] w (ConstPost w P vp v) := by
  obtain ⟨x, hx, hx1, hx2, hxS⟩ := unused_one (mayP_parts hP).2.2.2
  have hpl := (mayP_short hP).2
  have hb0 : Below w.heap.size w (w.alloc (.cells #[.slice none 0 0, .slice none 0 0, .int .i64 0] 25)) := (Below.refl w.heap.size w).alloc (Nat.le_refl _) _
  have hh0 : (w.alloc (.cells #[.slice none 0 0, .slice none 0 0, .int .i64 0] 25)).heap[w.heap.size]? = some (.cells #[.slice none 0 0, .slice none 0 0, .int .i64 0] 25 (0, 0)) := by rw [heapy, if_pos rfl]
  have hz0 : (w.alloc (.cells #[.slice none 0 0, .slice none 0 0, .int .i64 0] 25)).heap.size = w.heap.size + 1 := by simp
  have HQ := Lib.hid (quantified_any vp P (w.alloc (.cells #[.slice none 0 0, .slice none 0 0, .int .i64 0] 25)) (HP.below hb0 (Nat.le_refl _)) (by omega))
  have HQ2 : Hid (Calls Try.prog 18 #[vp] (w.alloc (.cells #[.slice none 0 0, .slice none 0 0, .int .i64 0] 25)) fun e w' => e = .returned (.tuple #[.map (some (w.heap.size + 1)), .bool true]) ∧ SetI w' (w.heap.size + 1) (flatB P) ∧ Below (w.heap.size + 1) (w.alloc (.cells #[.slice none 0 0, .slice none 0 0, .int .i64 0] 25)) w') := HQ.out.mono fun e w' h => by
    unfold QuantPost at h
    rw [hz0] at h
    obtain ⟨hb, ⟨_, h1, h2⟩ | ⟨h2, _⟩⟩ := h
    · exact ⟨h1, h2, hb⟩
    · rw [hP] at h2; cases h2
  have HB0 := Lib.hid hb0
  have HH0 := Lib.hid hh0
  have HZ0 := Lib.hid hz0
  have HX := Lib.hid hx
  have HPW := Lib.hid HP
  obtain ⟨pa, pc, rfl, _⟩ := HP.shape
  obtain ⟨y, hy⟩ : ∃ y, (if v = true then x else -x) = y := ⟨_, rfl⟩
  have HYY := Lib.hid hy
  have hRC : constN P v = (P, [(x, 1, [])], y) := by
    unfold constN
    rw [HX.out, ← hy]
    rfl
  have HRC := Lib.hid hRC
  clear hP HQ hb0 hh0 hx hxS hpl hz0 hRC hy
  cases v with
  | true =>
    have hyx := HYY.out
    rw [if_pos rfl] at hyx
    subst hyx
    go_enter Try.func46, Try.ntmps46
    go_wp2_with (first
      | (go_at_call 18; go_loud (refine HQ2.out.mono ?_; rintro e w1 ⟨rfl, hs1, hb1⟩; have HS1 := Lib.hid hs1; have HB1 := Lib.hid hb1; have hZ1 : w.heap.size + 1 ≤ w1.heap.size := by { have h8 := hb1.size; have h9 := HZ0.out; omega }; clear hs1 hb1))
      | (go_at_call 22; go_loud (refine (cunused_any (w.heap.size + 1) (flatB P) 1 w1 HS1.out (by omega) (by omega)).mono ?_; rintro e w2 ⟨v2, rfl, ho2, hb2⟩; have ho3 : Own w2 w1.heap.size v2 [x] := by { rw [← HX.out]; exact ho2 }; obtain ⟨ga, gc, rfl⟩ := own_shC ho3; obtain ⟨ub, uo, rfl, hub, huc⟩ := (ho3.ints (by simp) (fun z hz => by rw [List.mem_singleton] at hz; omega)).cellY (k := 0) (by simp); rw [Nat.add_zero] at huc; have huc2 : w2.cell? ⟨ub, uo, none⟩ = some (.int .i64 x) := huc; have HB2 := Lib.hid (HB1.out.trans (hb2.mono hZ1)); have hh2 : w2.heap[w.heap.size]? = some (.cells #[.slice none 0 0, .slice none 0 0, .int .i64 0] 25 (0, 0)) := (HB2.out.block _ (by omega)).trans HH0.out; have hh3 : ((w2.alloc (.cells #[.int .i64 x, .int .u8 1, .slice none 0 0] 34)).alloc (.cells #[.slice pa P.length pc, .slice (some ⟨w2.heap.size, 0, none⟩) 1 1, .int .i64 x] 25)).heap[w.heap.size]? = some (.cells #[.slice none 0 0, .slice none 0 0, .int .i64 0] 25 (0, 0)) := ((((Below.refl w2.heap.size w2).alloc (Nat.le_refl _) _).alloc (by simp) _).block _ (Array.getElem?_eq_some_iff.1 hh2).1).trans hh2; have HH3 := Lib.hid hh3; obtain ⟨d0, d1, d2, e0, e1, e2⟩ := three_cells hh3; clear ho2 ho3 hb2 huc hh2 hh3)))
    have HHB : Hid (Below w.heap.size w ((w2.alloc (.cells #[.int .i64 x, .int .u8 1, .slice none 0 0] 34)).alloc (.cells #[.slice pa P.length pc, .slice (some ⟨w2.heap.size, 0, none⟩) 1 1, .int .i64 x] 25))) := by
      have h8 := HB0.out.trans (HB2.out.mono (Nat.le_succ _))
      exact (h8.alloc h8.size _).alloc (by have := h8.size; simp; omega) _
    have c0 : ((w2.alloc (.cells #[.int .i64 x, .int .u8 1, .slice none 0 0] 34)).alloc (.cells #[.slice pa P.length pc, .slice (some ⟨w2.heap.size, 0, none⟩) 1 1, .int .i64 x] 25)).heap[w2.heap.size]? = some (.cells #[.int .i64 x, .int .u8 1, .slice none 0 0] 34 (0, 0)) := by rw [heapy, if_neg (by simp), heapy, if_pos rfl]
    have hsz : w2.heap.size < ((w2.alloc (.cells #[.int .i64 x, .int .u8 1, .slice none 0 0] 34)).alloc (.cells #[.slice pa P.length pc, .slice (some ⟨w2.heap.size, 0, none⟩) 1 1, .int .i64 x] 25)).heap.size := by simp; omega
    have hlt : w.heap.size < w2.heap.size := by have := HB2.out.size; have := HZ0.out; omega
    have HK := kept_three w.heap.size ((w2.alloc (.cells #[.int .i64 x, .int .u8 1, .slice none 0 0] 34)).alloc (.cells #[.slice pa P.length pc, .slice (some ⟨w2.heap.size, 0, none⟩) 1 1, .int .i64 x] 25)) (.slice pa P.length pc) (.slice (some ⟨w2.heap.size, 0, none⟩) 1 1) (.int .i64 x)
    obtain ⟨g0, g1, g2, _, _, _⟩ := three_cells (set_three (u := .slice pa P.length pc) (v := .slice (some ⟨w2.heap.size, 0, none⟩) 1 1) (t := .int .i64 x) HH3.out)
    generalize ((w2.alloc (.cells #[.int .i64 x, .int .u8 1, .slice none 0 0] 34)).alloc (.cells #[.slice pa P.length pc, .slice (some ⟨w2.heap.size, 0, none⟩) 1 1, .int .i64 x] 25)) = WA at *
    refine ⟨rfl, .agg #[.slice pa P.length pc, .slice (some ⟨w2.heap.size, 0, none⟩) 1 1, .int .i64 x], by simp [results, Try.f46, go_sem, g0, g1, g2], ?_⟩
    have HBF := HHB.out.trans (HK.below HHB.out.size (fun i hi e => by omega))
    refine ⟨w2.heap.size, x, rfl, hlt, (HK.block _ hsz (by omega)).trans c0, HRC.out, ⟨hx1, hx2⟩, HBF⟩
  | false =>
    have hyx := HYY.out
    rw [if_neg (by simp)] at hyx
    subst hyx
    go_enter Try.func46, Try.ntmps46
    go_wp2_with (first
      | (go_at_call 18; go_loud (refine HQ2.out.mono ?_; rintro e w1 ⟨rfl, hs1, hb1⟩; have HS1 := Lib.hid hs1; have HB1 := Lib.hid hb1; have hZ1 : w.heap.size + 1 ≤ w1.heap.size := by { have h8 := hb1.size; have h9 := HZ0.out; omega }; clear hs1 hb1))
      | (go_at_call 22; go_loud (refine (cunused_any (w.heap.size + 1) (flatB P) 1 w1 HS1.out (by omega) (by omega)).mono ?_; rintro e w2 ⟨v2, rfl, ho2, hb2⟩; have ho3 : Own w2 w1.heap.size v2 [x] := by { rw [← HX.out]; exact ho2 }; obtain ⟨ga, gc, rfl⟩ := own_shC ho3; obtain ⟨ub, uo, rfl, hub, huc⟩ := (ho3.ints (by simp) (fun z hz => by rw [List.mem_singleton] at hz; omega)).cellY (k := 0) (by simp); rw [Nat.add_zero] at huc; have huc2 : w2.cell? ⟨ub, uo, none⟩ = some (.int .i64 x) := huc; have HB2 := Lib.hid (HB1.out.trans (hb2.mono hZ1)); have hh2 : w2.heap[w.heap.size]? = some (.cells #[.slice none 0 0, .slice none 0 0, .int .i64 0] 25 (0, 0)) := (HB2.out.block _ (by omega)).trans HH0.out; have hh3 : ((w2.alloc (.cells #[.int .i64 x, .int .u8 1, .slice none 0 0] 34)).alloc (.cells #[.slice pa P.length pc, .slice (some ⟨w2.heap.size, 0, none⟩) 1 1, .int .i64 (-x)] 25)).heap[w.heap.size]? = some (.cells #[.slice none 0 0, .slice none 0 0, .int .i64 0] 25 (0, 0)) := ((((Below.refl w2.heap.size w2).alloc (Nat.le_refl _) _).alloc (by simp) _).block _ (Array.getElem?_eq_some_iff.1 hh2).1).trans hh2; have HH3 := Lib.hid hh3; obtain ⟨d0, d1, d2, e0, e1, e2⟩ := three_cells hh3; clear ho2 ho3 hb2 huc hh2 hh3)))
    have HHB : Hid (Below w.heap.size w ((w2.alloc (.cells #[.int .i64 x, .int .u8 1, .slice none 0 0] 34)).alloc (.cells #[.slice pa P.length pc, .slice (some ⟨w2.heap.size, 0, none⟩) 1 1, .int .i64 (-x)] 25))) := by
      have h8 := HB0.out.trans (HB2.out.mono (Nat.le_succ _))
      exact (h8.alloc h8.size _).alloc (by have := h8.size; simp; omega) _
    have c0 : ((w2.alloc (.cells #[.int .i64 x, .int .u8 1, .slice none 0 0] 34)).alloc (.cells #[.slice pa P.length pc, .slice (some ⟨w2.heap.size, 0, none⟩) 1 1, .int .i64 (-x)] 25)).heap[w2.heap.size]? = some (.cells #[.int .i64 x, .int .u8 1, .slice none 0 0] 34 (0, 0)) := by rw [heapy, if_neg (by simp), heapy, if_pos rfl]
    have hsz : w2.heap.size < ((w2.alloc (.cells #[.int .i64 x, .int .u8 1, .slice none 0 0] 34)).alloc (.cells #[.slice pa P.length pc, .slice (some ⟨w2.heap.size, 0, none⟩) 1 1, .int .i64 (-x)] 25)).heap.size := by simp; omega
    have hlt : w.heap.size < w2.heap.size := by have := HB2.out.size; have := HZ0.out; omega
    have HK := kept_three w.heap.size ((w2.alloc (.cells #[.int .i64 x, .int .u8 1, .slice none 0 0] 34)).alloc (.cells #[.slice pa P.length pc, .slice (some ⟨w2.heap.size, 0, none⟩) 1 1, .int .i64 (-x)] 25)) (.slice pa P.length pc) (.slice (some ⟨w2.heap.size, 0, none⟩) 1 1) (.int .i64 (-x))
    obtain ⟨g0, g1, g2, _, _, _⟩ := three_cells (set_three (u := .slice pa P.length pc) (v := .slice (some ⟨w2.heap.size, 0, none⟩) 1 1) (t := .int .i64 (-x)) HH3.out)
    generalize ((w2.alloc (.cells #[.int .i64 x, .int .u8 1, .slice none 0 0] 34)).alloc (.cells #[.slice pa P.length pc, .slice (some ⟨w2.heap.size, 0, none⟩) 1 1, .int .i64 (-x)] 25)) = WA at *
    refine ⟨rfl, .agg #[.slice pa P.length pc, .slice (some ⟨w2.heap.size, 0, none⟩) 1 1, .int .i64 (-x)], by simp [results, Try.f46, go_sem, g0, g1, g2], ?_⟩
    have HBF := HHB.out.trans (HK.below HHB.out.size (fun i hi e => by omega))
    refine ⟨w2.heap.size, x, rfl, hlt, (HK.block _ hsz (by omega)).trans c0, HRC.out, ⟨hx1, hx2⟩, HBF⟩
end Go.Proofs.Ytafenijbglcppaa
