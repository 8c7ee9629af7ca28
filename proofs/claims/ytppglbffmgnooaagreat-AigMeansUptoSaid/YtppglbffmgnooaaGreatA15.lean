/- Joined texts: AgRestV, AgToP, AgFromL. -/
import Derived.Test.YtppglbffmgnooaaGreatA13
import Derived.Test.YtppglbffmgnooaaGreatA11
/- Pure: what Restrict makes is a valid, reduced graph. -/
namespace Go.Proofs.YtppglbffmgnooaaGreat
set_option linter.unusedVariables false
set_option linter.unusedSimpArgs false

/-- What Restrict makes is a valid and reduced graph that has the edges. -/
theorem rest_valid {I : List Int} {A : List Pr} {l a : List Int} (h : hasA I A l = true) (ha : mayB a = true) :
    mayA (restI a I) (restC I A l a).2.1 = true ∧ RedA (restC I A l a).2.1 ∧ edgesB (restC I A l a).1 (1 + (restI a I).length + (restC I A l a).2.1.length) = true ∧ (restC I A l a).1.length = l.length := by
  obtain ⟨hm, hA, hl⟩ := hasA_parts h
  obtain ⟨hroom, hI, _⟩ := mayA_parts hm
  have hlen : (restI a I).length ≤ I.length := List.length_filter_le _ _
  have hs : MOk (1 + (restI a I).length) ([], false) := ⟨rfl, by simp; omega⟩
  have hi : ∀ v ∈ I, isE (restImg a I v) (1 + (restI a I).length + ([] : List Pr).length) = true := fun v _ => by simpa using restImg_isE a I v
  have hc := copyA_made (k := 1 + (restI a I).length) (I := I) (A := A) (img := restImg a I) (l := l) (s := ([], false)) (by omega) hs hA hi hl
  have hr := copyA_red (k := 1 + (restI a I).length) (I := I) (A := A) (img := restImg a I) (l := l) (s := ([], false)) (by omega) hs RedA.nil hA hi
  obtain ⟨_, hok, hed, _, hln⟩ := hc
  refine ⟨?_, hr, ?_, hln⟩
  · unfold mayA
    rw [decide_eq_true (show 1 + (restI a I).length + (restC I A l a).2.1.length ≤ 200000 from hok.room), show insB (restI a I) = true from insB_filter hI _, show okUpto (1 + (restI a I).length) (restC I A l a).2.1 (restC I A l a).2.1.length = true from hok.ok]
    rfl
  · rw [edgesB_true]
    exact fun e he => isE_true.1 (hed e he)
theorem restI_nil (I : List Int) : restI [] I = I := by unfold restI fixF; simp
end Go.Proofs.YtppglbffmgnooaaGreat

/- Pure: the net of an edge; the graph of that net is the cone again. -/
namespace Go.Proofs.YtppglbffmgnooaaGreat
set_option linter.unusedVariables false
set_option linter.unusedSimpArgs false

/-- The literal of an edge, when the nodes have these names. -/
def litE (nm : List Int) (e : Int) : Int := if e % 2 = 1 then -(nm.getD (e / 2).toNat 0) else nm.getD (e / 2).toNat 0
def gateA (nm vs : List Int) (A : List Pr) (i : Nat) : Gt := (vs.getD i 0, 1, [litE nm (A.getD i dPr).1, litE nm (A.getD i dPr).2])
def gatesA (nm vs : List Int) (A : List Pr) (n : Nat) : List Gt := (List.range n).map (gateA nm vs A)
theorem gatesA_succ (nm vs : List Int) (A : List Pr) (n : Nat) : gatesA nm vs A (n + 1) = gatesA nm vs A n ++ [gateA nm vs A n] := by unfold gatesA; rw [List.range_succ, List.map_append]; rfl
def constP (S : List Int) (out : Int) : List Gt × Int := ([((unusedL S 1).getD 0 0, 1, [])], if out = 0 then -((unusedL S 1).getD 0 0) else (unusedL S 1).getD 0 0)
/-- The net of an edge of a graph. -/
def toNetC (I : List Int) (A : List Pr) (out : Int) (P : List Blk) : (List Blk × List Gt × Int) × Int :=
  if out < 2 then ((P, (constP (netI P) out).1, (constP (netI P) out).2), 0)
  else if lacksA (netI P) I A out = true then (([], [], 0), 6)
  else if (unusedL (netI P) A.length).length < A.length then (([], [], 0), 3)
  else ((P, gatesA ([0] ++ I ++ unusedL (netI P) A.length) (unusedL (netI P) A.length) A A.length, litE ([0] ++ I ++ unusedL (netI P) A.length) out), 0)
def toNetR (I : List Int) (A : List Pr) (e : Int) (P : List Blk) : (List Blk × List Gt × Int) × Int :=
  if hasA I A [e] = true ∧ mayPre P = true then toNetC (coneR I A [e]).1.1 (coneR I A [e]).1.2 ((coneR I A [e]).2.1.getD 0 0) P else (([], [], 0), 2)
end Go.Proofs.YtppglbffmgnooaaGreat

/- aig.FromNet: what a map and a maker keep of one another. -/
namespace Go.Proofs.YtppglbffmgnooaaGreat
open Go.RowKit Go.Maps
set_option linter.unusedVariables false
set_option linter.unusedSimpArgs false

/-- A map that stands apart is written: the maker stays. -/
theorem MkE.keptMap {w w' : World} {B pm bm : Nat} {I : List Int} {s : Mq} {vi : Value} {bf sl : Nat} (h : MkE w B pm I s vi bf sl) (k : Kept (fun j => j = bm) w w') {es : Array MapEntry} {clock : Nat} (hm : w.heap[bm]? = some (.map es clock)) (hne : bm ≠ bf) : MkE w' B pm I s vi bf sl := by
  obtain ⟨va, n, h⟩ := h
  have hpm : pm ≠ bm := fun e => by have := h.box; rw [e, hm] at this; simp at this
  refine ⟨va, n, ⟨(k.block pm h.lt hpm).trans h.box, h.ins.turn (fun g cur hg => k.block g (Array.getElem?_eq_some_iff.1 hg).1 (fun e => ?_)), h.i64, h.il, h.row.kept k (fun g hg e => ?_), h.map.kept k (fun e => hne e.symm), h.cap, h.slk, h.ok, h.inp, h.lb⟩⟩
  · rw [e, hm] at hg; simp at hg
  · obtain ⟨cur, hc⟩ := h.row.obj hg
    rw [e, hm] at hc; simp at hc
theorem MapM.obj {w : World} {b n : Nat} {f : Int → Option Int} (h : MapM w b n f) : ∃ es clock, w.heap[b]? = some (.map es clock) := by
  obtain ⟨D, ⟨es, clock, hb, _⟩, _⟩ := h
  exact ⟨es, clock, hb⟩
/-- A maker works: a map that stands apart stays. -/
theorem MapM.kpm {w w' : World} {B pm bf b n : Nat} {f : Int → Option Int} (h : MapM w b n f) (k : KpM B pm bf w w') (h1 : b ≠ pm) (h2 : b ≠ bf) : MapM w' b n f := by
  obtain ⟨es, clock, ho⟩ := h.obj
  have hs := k.same b _ h1 h2 ho trivial
  refine h.kept (Q := fun j => ¬ (w'.heap[j]? = w.heap[j]?)) ⟨k.below.os, k.below.tape, k.below.output, k.below.size, fun j _ hj => Classical.not_not.1 hj⟩ (fun hh => hh (hs.trans ho.symm))
theorem Kept.kpm {w w' : World} {B bm : Nat} (k : Kept (fun j => j = bm) w w') (hB : B ≤ bm) (hBw : B ≤ w.heap.size) : Below B w w' := k.below hBw (fun j hj e => by omega)
/-- What FromNet answers. -/
def NetRPost (w : World) (r : (List Int × List Pr) × Int × Int) (e : Ending) (w' : World) : Prop :=
  ∃ v1 v2, e = .returned (.tuple #[.agg #[v1, v2], .int .i64 r.2.1, .int .i64 r.2.2]) ∧ GrO w' w.heap.size v1 v2 r.1.1 r.1.2 ∧ Below w.heap.size w w'
/-- The boxes of a call's net and result. -/
theorem from_boxes (w : World) (vp vg : Value) (o : Int) : Below w.heap.size w ((w.alloc (.cells #[vp, vg, .int .i64 o] 98)).alloc (.cells #[.slice none 0 0, .slice none 0 0] 25)) ∧ ((w.alloc (.cells #[vp, vg, .int .i64 o] 98)).alloc (.cells #[.slice none 0 0, .slice none 0 0] 25)).heap.size = w.heap.size + 2 ∧
    ((w.alloc (.cells #[vp, vg, .int .i64 o] 98)).alloc (.cells #[.slice none 0 0, .slice none 0 0] 25)).heap[w.heap.size]? = some (.cells #[vp, vg, .int .i64 o] 98 (0, 0)) ∧
    ((w.alloc (.cells #[vp, vg, .int .i64 o] 98)).alloc (.cells #[.slice none 0 0, .slice none 0 0] 25)).heap[w.heap.size + 1]? = some (.cells #[.slice none 0 0, .slice none 0 0] 25 (0, 0)) := by
  have hb1 := below_alloc1 w (.cells #[vp, vg, .int .i64 o] 98)
  have hb2 := below_alloc1 (w.alloc (.cells #[vp, vg, .int .i64 o] 98)) (.cells #[.slice none 0 0, .slice none 0 0] 25)
  refine ⟨hb1.trans (hb2.mono hb1.size), by simp, (hb2.block _ (by simp)).trans (World.alloc_heap_new _ _), ?_⟩
  have h := World.alloc_heap_new (w.alloc (.cells #[vp, vg, .int .i64 o] 98)) (.cells #[.slice none 0 0, .slice none 0 0] 25)
  simpa using h
theorem box3_cells {W : World} {g : Nat} {a b c : Value} {T : TypeId} (hh : W.heap[g]? = some (.cells #[a, b, c] T (0, 0))) : W.cell? ⟨g, 0, none⟩ = some a ∧ W.cell? ⟨g, 1, none⟩ = some b ∧ W.cell? ⟨g, 2, none⟩ = some c := by
  refine ⟨?_, ?_, ?_⟩ <;> simp [World.cell?, hh]
theorem box2_mid {W : World} {g : Nat} {a b : Value} {T : TypeId} (hh : W.heap[g]? = some (.cells #[a, b] T (0, 0))) (u : Value) : (W.setCell ⟨g, 0, none⟩ u).heap[g]? = some (.cells #[u, b] T (0, 0)) := by
  simp only [World.setCell, Array.getElem?_modify]
  simp [hh]
theorem box2_set {W : World} {g : Nat} {a b : Value} {T : TypeId} (hh : W.heap[g]? = some (.cells #[a, b] T (0, 0))) (u v : Value) : ((W.setCell ⟨g, 0, none⟩ u).setCell ⟨g, 1, none⟩ v).heap[g]? = some (.cells #[u, v] T (0, 0)) := by
  have h := box2_mid hh u
  generalize W.setCell ⟨g, 0, none⟩ u = X at *
  simp only [World.setCell, Array.getElem?_modify]
  simp [h]
theorem own_setBox {W : World} {B nb : Nat} {v : Value} {xs : List Int} {cur : Array Value} (h : Own W B v xs) (hn : W.heap[nb]? = some (.cells cur 25 (0, 0))) (n : Nat) (u : Value) : Own (W.setCell ⟨nb, n, none⟩ u) B v xs :=
  own_turn h (fun g c hg => heap_set_other n u (fun e => by
    rw [e, hn] at hg
    simp only [Option.some.injEq, Obj.cells.injEq] at hg
    exact absurd hg.2.1 (by decide)))
theorem GrO.setBox {W : World} {B nb : Nat} {vi va : Value} {I : List Int} {A : List Pr} {cur : Array Value} (h : GrO W B vi va I A) (hn : W.heap[nb]? = some (.cells cur 25 (0, 0))) (n : Nat) (u : Value) : GrO (W.setCell ⟨nb, n, none⟩ u) B vi va I A :=
  ⟨h.ins.turn (fun g c hg => heap_set_other n u (fun e => by
    rw [e, hn] at hg
    simp only [Option.some.injEq, Obj.cells.injEq] at hg
    exact absurd hg.2.1 (by decide))), h.i64, h.il, h.row.turn (fun g hg => heap_set_other n u (fun e => by
    obtain ⟨c, hc⟩ := h.row.obj hg
    rw [e, hn] at hc
    simp only [Option.some.injEq, Obj.cells.injEq] at hc
    exact absurd hc.2.1 (by decide))), h.inp, h.al⟩
end Go.Proofs.YtppglbffmgnooaaGreat
