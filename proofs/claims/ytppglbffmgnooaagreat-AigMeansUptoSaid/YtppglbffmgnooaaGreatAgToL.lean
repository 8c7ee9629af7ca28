/- aig.ToNet: its boxes, and rows of blocks. -/
import Derived.Test.YtppglbffmgnooaaGreatAgGates
namespace Go.Proofs.YtppglbffmgnooaaGreat
open Go.RowKit Go.Maps
set_option linter.unusedVariables false
set_option linter.unusedSimpArgs false

theorem RowB.keptS {w0 w w' : World} {B : Nat} {S : Nat → Prop} {v : Value} {t : List Trp} (h : RowB w0 w B v t) (k : Kept S w w') (hS : ∀ g, B ≤ g → ¬ S g) (hS0 : ∀ g, g < w0.heap.size → ¬ S g) : RowB w0 w' B v t :=
  ⟨h.below.trans (k.below h.below.size (fun i hi => hS0 i hi)), h.base, k.row h.row (fun g hg => hS g (rowB_lt h.row g hg).1), fun x hx => (h.elems x hx).elim (fun e => .inl (k.row e (fun g hg => hS g (e.lt g hg).1))) .inr⟩
theorem row2_below {w w' : World} {B C n : Nat} {e : TypeId} {v : Value} {xs : List Value} (h : w.ownsRow B e 2 v n xs) (hb : Below C w w') (hC : w.heap.size ≤ C) : w'.ownsRow B e 2 v n xs := by
  refine ⟨h.1, ?_⟩
  rcases h.2 with hn | ⟨g, cap, cur, hv, hB, hg, rest⟩
  · exact .inl hn
  · have hlt : g < w.heap.size := (Array.getElem?_eq_some_iff.1 hg).1
    exact .inr ⟨g, cap, cur, hv, hB, by rw [hb.block g (by omega)]; exact hg, rest⟩
theorem row2_shapeT {w : World} {B n : Nat} {e : TypeId} {v : Value} {xs : List Value} (h : w.ownsRow B e 2 v n xs) : ∃ a c, v = .slice a n c := by
  rcases h.2 with ⟨rfl, h2⟩ | ⟨g, cap, cur, rfl, _⟩
  · exact ⟨none, 0, by rw [h2]⟩
  · exact ⟨_, _, rfl⟩
theorem step_appBlkT {ops : Array Oper} {o : Oper} {a : Act} {w : World} {K : Act → World → Prop} {Q : Exit → Act → World → Prop} {E : Prop} (hgd : o.guard = none) (s x : Operand)
    (ho : o.op = .call { callee := .builtin .append, args := #[s, x], argTypes := #[95, 95] }) (B : Nat) (v u : Value) (t : List Trp) (e : Bool) (l : List Int) (g : Nat)
    (hs : a.eval s = v) (hx : a.eval x = .slice (some ⟨g, 0, none⟩) 1 1) (hrow : w.ownsRow B 118 2 v t.length (cellsT t)) (h0 : w.cell? ⟨g, 0, none⟩ = some (.bool e)) (h1 : w.cell? ⟨g, 1, none⟩ = some u) (hu1 : u.oneCell' = true) (hlen : t.length < 1000000) (hB : B ≤ w.heap.size)
    (h : ∀ v' w', w'.ownsRow B 118 2 v' (t ++ [(e, u, l)]).length (cellsT (t ++ [(e, u, l)])) → w.grownBy w' v.ownBlock → K (a.put o.dst v') w') : if Region.wanted o (yielded ops a.tmps) = true then Oper.wp Tryz.prog o a w K Q else E := by
  have hw' : Region.wanted o (yielded ops a.tmps) = true := by simp [Region.wanted, hgd]
  rw [if_pos hw']
  obtain ⟨i0, hi, hz0, hz1, hz2⟩ := info_parts info_blk
  refine wp_append_own w s x 95 ho B 118 i0 (.agg #[.bool false, .slice none 0 0]) 2 32 Tryz.underlying95 hi hz0 hz1 hz2 rfl (by decide) v t.length _ hs hrow ⟨g, 0, none⟩ 1 1 [.bool e, u] hx (by simp) (fun j y hj => by
    match j, hj with
    | 0, hj => simp at hj; subst hj; simpa [Addr.add] using h0
    | 1, hj => simp at hj; subst hj; simpa [Addr.add] using h1) (fun y hy => by
    rcases List.mem_cons.1 hy with hy | hy
    · rw [hy]; rfl
    · rw [List.mem_singleton] at hy
      rw [hy]; exact hu1) (by unfold maxLen; omega) (by omega) hB fun v' w' h2 h3 _ => h v' w' ?_ h3
  rw [List.length_append, cellsT_app]
  exact h2
/-- What ToNet answers. -/
def ToPost (w : World) (r : (List Blk × List Gt × Int) × Int) (e : Ending) (w' : World) : Prop :=
  ∃ v1 v2, e = .returned (.tuple #[.agg #[v1, v2, .int .i64 r.1.2.2], .int .i64 r.2]) ∧ IsBlocks w' v1 r.1.1 ∧ IsGates w' v2 r.1.2.1 ∧ Below w.heap.size w w'
theorem to_boxes (w : World) (vi va : Value) : Below w.heap.size w ((w.alloc (.cells #[vi, va] 25)).alloc (.cells #[.slice none 0 0, .slice none 0 0, .int .i64 0] 98)) ∧ ((w.alloc (.cells #[vi, va] 25)).alloc (.cells #[.slice none 0 0, .slice none 0 0, .int .i64 0] 98)).heap.size = w.heap.size + 2 ∧
    ((w.alloc (.cells #[vi, va] 25)).alloc (.cells #[.slice none 0 0, .slice none 0 0, .int .i64 0] 98)).heap[w.heap.size]? = some (.cells #[vi, va] 25 (0, 0)) ∧
    ((w.alloc (.cells #[vi, va] 25)).alloc (.cells #[.slice none 0 0, .slice none 0 0, .int .i64 0] 98)).heap[w.heap.size + 1]? = some (.cells #[.slice none 0 0, .slice none 0 0, .int .i64 0] 98 (0, 0)) := by
  have hb1 := below_alloc1 w (.cells #[vi, va] 25)
  have hb2 := below_alloc1 (w.alloc (.cells #[vi, va] 25)) (.cells #[.slice none 0 0, .slice none 0 0, .int .i64 0] 98)
  refine ⟨hb1.trans (hb2.mono hb1.size), by simp, (hb2.block _ (by simp)).trans (World.alloc_heap_new _ _), ?_⟩
  have h := World.alloc_heap_new (w.alloc (.cells #[vi, va] 25)) (.cells #[.slice none 0 0, .slice none 0 0, .int .i64 0] 98)
  simpa using h
/-- A net's box: its cells, and three stores. -/
theorem box3_all {W : World} {g : Nat} {a b c : Value} {T : TypeId} (hh : W.heap[g]? = some (.cells #[a, b, c] T (0, 0))) : W.cell? ⟨g, 0, none⟩ = some a ∧ W.cell? ⟨g, 1, none⟩ = some b ∧ W.cell? ⟨g, 2, none⟩ = some c ∧ W.frozen? ⟨g, 0, none⟩ = false ∧ W.frozen? ⟨g, 1, none⟩ = false ∧ W.frozen? ⟨g, 2, none⟩ = false := by
  refine ⟨?_, ?_, ?_, ?_, ?_, ?_⟩ <;> simp [World.cell?, World.frozen?, hh]
theorem box3_set0 {W : World} {g : Nat} {a b c : Value} {T : TypeId} (hh : W.heap[g]? = some (.cells #[a, b, c] T (0, 0))) (u : Value) : (W.setCell ⟨g, 0, none⟩ u).heap[g]? = some (.cells #[u, b, c] T (0, 0)) := by
  simp only [World.setCell, Array.getElem?_modify]
  simp [hh]
theorem box3_set1 {W : World} {g : Nat} {a b c : Value} {T : TypeId} (hh : W.heap[g]? = some (.cells #[a, b, c] T (0, 0))) (u : Value) : (W.setCell ⟨g, 1, none⟩ u).heap[g]? = some (.cells #[a, u, c] T (0, 0)) := by
  simp only [World.setCell, Array.getElem?_modify]
  simp [hh]
theorem box3_set2 {W : World} {g : Nat} {a b c : Value} {T : TypeId} (hh : W.heap[g]? = some (.cells #[a, b, c] T (0, 0))) (u : Value) : (W.setCell ⟨g, 2, none⟩ u).heap[g]? = some (.cells #[a, b, u] T (0, 0)) := by
  simp only [World.setCell, Array.getElem?_modify]
  simp [hh]
theorem box3_put {W : World} {g : Nat} {a b c : Value} {T : TypeId} (hh : W.heap[g]? = some (.cells #[a, b, c] T (0, 0))) (u v z : Value) :
    (((W.setCell ⟨g, 0, none⟩ u).setCell ⟨g, 1, none⟩ v).setCell ⟨g, 2, none⟩ z).cell? ⟨g, 0, none⟩ = some u ∧ (((W.setCell ⟨g, 0, none⟩ u).setCell ⟨g, 1, none⟩ v).setCell ⟨g, 2, none⟩ z).cell? ⟨g, 1, none⟩ = some v ∧ (((W.setCell ⟨g, 0, none⟩ u).setCell ⟨g, 1, none⟩ v).setCell ⟨g, 2, none⟩ z).cell? ⟨g, 2, none⟩ = some z := by
  obtain ⟨h1, h2, h3, _⟩ := box3_all (box3_set2 (box3_set1 (box3_set0 hh u) v) z)
  exact ⟨h1, h2, h3⟩
/-- Values that lie elsewhere stay when a cell is written. -/
theorem below_set3 {w0 W : World} {g : Nat} (h : Below w0.heap.size w0 W) (hg : w0.heap.size ≤ g) (u v z : Value) : Below w0.heap.size w0 (((W.setCell ⟨g, 0, none⟩ u).setCell ⟨g, 1, none⟩ v).setCell ⟨g, 2, none⟩ z) :=
  ((h.setCell (p := ⟨g, 0, none⟩) hg u).setCell (p := ⟨g, 1, none⟩) hg v).setCell (p := ⟨g, 2, none⟩) hg z
theorem kept_set3 (W : World) (g : Nat) (u v z : Value) : Kept (fun i => i = g) W (((W.setCell ⟨g, 0, none⟩ u).setCell ⟨g, 1, none⟩ v).setCell ⟨g, 2, none⟩ z) :=
  ((Kept.setCell W ⟨g, 0, none⟩ u).trans (Kept.setCell _ ⟨g, 1, none⟩ v)).trans (Kept.setCell _ ⟨g, 2, none⟩ z)
theorem const_rowT {w0 X : World} {B g : Nat} {x : Int} (hb : Below w0.heap.size w0 X) (hB : w0.heap.size ≤ B) (h : X.heap[g]? = some (.cells #[.int .i64 x, .int .u8 1, .slice none 0 0] 101 (0, 0))) (hg : B ≤ g) (h1 : 1 ≤ x) (h2 : x ≤ 65536) : RowG w0 X B (.slice (some ⟨g, 0, none⟩) 1 1) [(x, 1, .slice none 0 0, [])] :=
  ⟨hb, hB, ⟨by simp [cellsG], .inr ⟨g, 1, _, rfl, hg, h, by simp, by simp [maxLen], by simp, by simp [cellsG]⟩⟩, fun y hy => by rw [List.mem_singleton] at hy; subst hy; exact .inl (Own.nil _ _), fun y hy => by
    simp [shapeG] at hy
    subst hy
    exact ⟨⟨by simp only; omega, by simp only; omega⟩, ⟨by simp, by simp⟩, by simp, In64.nil⟩⟩
/-- The end of ToNet. -/
theorem to_fin {w Z : World} {B B' : Nat} {v vg : Value} {t : List Trp} {tg : List Tg} {P : List Blk} {G : List Gt} {r : (List Blk × List Gt × Int) × Int} {o : Int} (hrow : RowB w Z B v t) (hB : w.heap.size + 2 ≤ B) (hsh : shapeT t = P) (htl : t.length ≤ 4000000) (htb : ∀ z ∈ t, z.2.2.length ≤ 17592186044416 ∧ In64 z.2.2)
    (hg : RowG w Z B' vg tg) (hB' : w.heap.size + 2 ≤ B') (hsg : shapeG tg = G) (hgl : tg.length ≤ 4000000) (hr : Z.heap[w.heap.size + 1]? = some (.cells #[.slice none 0 0, .slice none 0 0, .int .i64 0] 98 (0, 0))) (he : r = ((P, G, o), 0)) :
    (Z.cell? ⟨w.heap.size + 1, 0, none⟩ = some (.slice none 0 0) ∧ Z.cell? ⟨w.heap.size + 1, 1, none⟩ = some (.slice none 0 0) ∧ Z.cell? ⟨w.heap.size + 1, 2, none⟩ = some (.int .i64 0) ∧ Z.frozen? ⟨w.heap.size + 1, 0, none⟩ = false ∧ Z.frozen? ⟨w.heap.size + 1, 1, none⟩ = false ∧ Z.frozen? ⟨w.heap.size + 1, 2, none⟩ = false) ∧
    ((((Z.setCell ⟨w.heap.size + 1, 0, none⟩ v).setCell ⟨w.heap.size + 1, 1, none⟩ vg).setCell ⟨w.heap.size + 1, 2, none⟩ (.int .i64 o)).cell? ⟨w.heap.size + 1, 0, none⟩ = some v ∧ (((Z.setCell ⟨w.heap.size + 1, 0, none⟩ v).setCell ⟨w.heap.size + 1, 1, none⟩ vg).setCell ⟨w.heap.size + 1, 2, none⟩ (.int .i64 o)).cell? ⟨w.heap.size + 1, 1, none⟩ = some vg ∧ (((Z.setCell ⟨w.heap.size + 1, 0, none⟩ v).setCell ⟨w.heap.size + 1, 1, none⟩ vg).setCell ⟨w.heap.size + 1, 2, none⟩ (.int .i64 o)).cell? ⟨w.heap.size + 1, 2, none⟩ = some (.int .i64 o)) ∧
    ToPost w r (.returned (.tuple #[.agg #[v, vg, .int .i64 o], .int .i64 0])) (((Z.setCell ⟨w.heap.size + 1, 0, none⟩ v).setCell ⟨w.heap.size + 1, 1, none⟩ vg).setCell ⟨w.heap.size + 1, 2, none⟩ (.int .i64 o)) := by
  have hk := kept_set3 Z (w.heap.size + 1) v vg (.int .i64 o)
  have h1 := hrow.keptS hk (fun g hg e => by omega) (fun g hg e => by omega)
  have h2 := hg.keptS hk (fun g hg e => by omega) (fun g hg e => by omega)
  refine ⟨box3_all hr, box3_put hr _ _ _, ?_⟩
  rw [he]
  refine ⟨_, _, rfl, ?_, ?_, h1.below⟩
  · rw [← hsh]
    exact h1.blocks (by omega) htb
  · rw [← hsg]
    exact h2.gates (by omega)
end Go.Proofs.YtppglbffmgnooaaGreat
