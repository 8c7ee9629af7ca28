/- Joined texts: AgMk, AgAndA, AgAnd. -/
import Derived.Test.YtppglbffmgnooaaGreatA03
import Derived.Test.YtppglbffmgnooaaGreatA02
import Derived.Test.YtppglbffmgnooaaGreatA05
import Derived.LaidEqlPtr
import Derived.Laws.Rows
import Derived.StillTailTactics
import Derived.OrdersHeld
import Derived.Deep.RegionHeld3
/- A maker in memory. -/
namespace Go.Proofs.YtppglbffmgnooaaGreat
open Go.RowKit Go.Maps
set_option linter.unusedVariables false
set_option linter.unusedSimpArgs false

/-- The node of the first And that is a pair. -/
def firstA (k : Nat) (A : List Pr) (p : Pr) : Option Int := if p ∈ A then some ((k + A.idxOf p : Nat) : Int) else none
/-- A list of the maker's own, or an empty one wherever it lies. -/
def InsO (w : World) (B : Nat) (v : Value) (I : List Int) : Prop := Own w B v I ∨ (I = [] ∧ ∃ a c, v = .slice a 0 c ∧ (a = none → c = 0) ∧ c ≤ 9223372036854775807)
theorem InsO.ints {w : World} {B : Nat} {v : Value} {I : List Int} (h : InsO w B v I) (hl : I.length ≤ 4000000) (h64 : In64 I) : IsInts w v I := by
  rcases h with h | ⟨rfl, a, c, rfl, h1, h2⟩
  · exact h.ints (by omega) h64
  · exact ⟨a, c, rfl, ⟨by simp, h1⟩, h2, by simp, In64.nil, IntsAt.nil _ _⟩
theorem InsO.below {w w' : World} {B C : Nat} {v : Value} {I : List Int} (h : InsO w B v I) (hb : Below C w w') (hC : w.heap.size ≤ C) : InsO w' B v I := by
  rcases h with h | h
  · exact .inl (h.below hb hC)
  · exact .inr h
theorem own_turn {w w' : World} {B : Nat} {v : Value} {xs : List Int} (h : Own w B v xs) (hk : ∀ (g : Nat) (cur : Array Value), w.heap[g]? = some (Obj.cells cur 3 (0, 0)) → w'.heap[g]? = w.heap[g]?) : Own w' B v xs := by
  refine ⟨h.1, ?_⟩
  rcases h.2 with hn | ⟨g, cap, cur, hv, hB, hg, rest⟩
  · exact .inl hn
  · exact .inr ⟨g, cap, cur, hv, hB, (hk g _ hg).trans hg, rest⟩
theorem InsO.turn {w w' : World} {B : Nat} {v : Value} {I : List Int} (h : InsO w B v I) (hk : ∀ (g : Nat) (cur : Array Value), w.heap[g]? = some (Obj.cells cur 3 (0, 0)) → w'.heap[g]? = w.heap[g]?) : InsO w' B v I := by
  rcases h with h | h
  · exact .inl (own_turn h hk)
  · exact .inr h
/-- A maker of a graph with k nodes before the first And; its map has at most sl entries more than there are Ands. -/
structure MkS (w : World) (B pm : Nat) (I : List Int) (s : Mq) (vi va : Value) (bf n sl : Nat) : Prop where
  box : w.heap[pm]? = some (.cells #[.pointer (some ⟨pm, 0, none⟩), vi, va, .map (some bf), .bool s.2] 111 (0, 0))
  ins : InsO w B vi I
  i64 : In64 I
  il : I.length ≤ 4000000
  row : OwnP w B va s.1
  map : MapP w bf n (firstA (1 + I.length) s.1)
  cap : n ≤ s.1.length + sl
  slk : sl ≤ 1000000000
  ok : MOk (1 + I.length) s
  inp : InP s.1
  lb : B ≤ pm ∧ B ≤ bf
/-- What does not turn while a maker works. -/
def keepM : Obj → Prop
  | .cells _ T _ => T ≠ 115
  | _ => True
structure KpM (B pm bf : Nat) (w w' : World) : Prop where
  below : Below B w w'
  same : ∀ k o, k ≠ pm → k ≠ bf → w.heap[k]? = some o → keepM o → w'.heap[k]? = some o
theorem KpM.refl (B pm bf : Nat) (w : World) : KpM B pm bf w w := ⟨Below.refl _ _, fun _ _ _ _ h _ => h⟩
theorem KpM.trans {B pm bf : Nat} {w w' w'' : World} (h : KpM B pm bf w w') (k : KpM B pm bf w' w'') : KpM B pm bf w w'' :=
  ⟨h.below.trans k.below, fun i o h1 h2 h3 h4 => k.same i o h1 h2 (h.same i o h1 h2 h3 h4) h4⟩
theorem KpM.of_below {B pm bf : Nat} {w w' : World} (h : Below w.heap.size w w') (hB : B ≤ w.heap.size) : KpM B pm bf w w' :=
  ⟨h.mono hB, fun k o _ _ ho _ => (h.block k (Array.getElem?_eq_some_iff.1 ho).1).trans ho⟩
theorem MkS.cell {w : World} {B pm : Nat} {I : List Int} {s : Mq} {vi va : Value} {bf n sl : Nat} (h : MkS w B pm I s vi va bf n sl) :
    w.cell? ⟨pm, 0, none⟩ = some (.pointer (some ⟨pm, 0, none⟩)) ∧ w.cell? ⟨pm, 1, none⟩ = some vi ∧ w.cell? ⟨pm, 2, none⟩ = some va ∧ w.cell? ⟨pm, 3, none⟩ = some (.map (some bf)) ∧ w.cell? ⟨pm, 4, none⟩ = some (.bool s.2) := by
  have hb := h.box
  refine ⟨?_, ?_, ?_, ?_, ?_⟩ <;> simp [World.cell?, hb]
theorem MkS.frozen {w : World} {B pm : Nat} {I : List Int} {s : Mq} {vi va : Value} {bf n sl : Nat} (h : MkS w B pm I s vi va bf n sl) (i : Nat) : w.frozen? ⟨pm, i, none⟩ = false := by
  simp [World.frozen?, h.box]
theorem MkS.lt {w : World} {B pm : Nat} {I : List Int} {s : Mq} {vi va : Value} {bf n sl : Nat} (h : MkS w B pm I s vi va bf n sl) : pm < w.heap.size := (Array.getElem?_eq_some_iff.1 h.box).1
theorem MapP.obj {w : World} {b n : Nat} {f : Pr → Option Int} (h : MapP w b n f) : ∃ es clock, w.heap[b]? = some (.map es clock) := by
  obtain ⟨D, ⟨es, clock, hb, _⟩, _⟩ := h
  exact ⟨es, clock, hb⟩
/-- The maker's blocks are different ones. -/
theorem MkS.apart {w : World} {B pm : Nat} {I : List Int} {s : Mq} {vi va : Value} {bf n sl : Nat} (h : MkS w B pm I s vi va bf n sl) : pm ≠ bf ∧ (∀ g, va.ownBlock = some g → g ≠ pm ∧ g ≠ bf) := by
  obtain ⟨es, clock, hm⟩ := h.map.obj
  refine ⟨fun e => ?_, fun g hg => ⟨fun e => ?_, fun e => ?_⟩⟩
  · have := h.box; rw [e, hm] at this; simp at this
  · obtain ⟨cur, hc⟩ := h.row.obj hg
    rw [e, h.box] at hc
    simp only [Option.some.injEq, Obj.cells.injEq] at hc
    exact absurd hc.2.1 (by decide)
  · obtain ⟨cur, hc⟩ := h.row.obj hg
    rw [e, hm] at hc
    simp at hc
/-- It lies there behind whatever turns elsewhere. -/
theorem MkS.below {w w' : World} {B C pm : Nat} {I : List Int} {s : Mq} {vi va : Value} {bf n sl : Nat} (h : MkS w B pm I s vi va bf n sl) (hb : Below C w w') (hC : w.heap.size ≤ C) : MkS w' B pm I s vi va bf n sl :=
  ⟨(hb.block pm (Nat.lt_of_lt_of_le h.lt hC)).trans h.box, h.ins.below hb hC, h.i64, h.il, h.row.below hb hC, h.map.below hb hC, h.cap, h.slk, h.ok, h.inp, h.lb⟩
/-- What is not the maker's row or map is kept. -/
theorem KpM.cell {B pm bf : Nat} {w w' : World} (h : KpM B pm bf w w') {b i : Nat} {o : Obj} {v : Value} (ho : w.heap[b]? = some o) (hk : keepM o) (h1 : b ≠ pm) (h2 : b ≠ bf) (hc : w.cell? ⟨b, i, none⟩ = some v) : w'.cell? ⟨b, i, none⟩ = some v :=
  (World.cell?_of_block (w := w) (a := ⟨b, i, none⟩) ((h.same b o h1 h2 ho hk).trans ho.symm)).trans hc
theorem mk_info : ∃ j, Tryz.prog.info? 111 = some j := by
  cases h : Tryz.prog.info? 111 with
  | none => exact absurd (show (Tryz.prog.info? 111).isSome = true by kernel_rfl) (by rw [h]; decide)
  | some j => exact ⟨j, rfl⟩
theorem mk_same (w : World) (a : Addr) : (binOp .eql 69 (.pointer (some a)) (.pointer (some a))).run Tryz.prog w = .ok (.bool true) w := by
  obtain ⟨j, hj⟩ := mk_info
  exact run_eql_ptr_same w a (show Tryz.prog.underlying 69 = some (.pointer 111) by kernel_rfl) hj
set_option maxRecDepth 100000 in
theorem made_any (w : World) (B pm : Nat) (I : List Int) (s : Mq) (vi va : Value) (bf n sl : Nat) (H : MkS w B pm I s vi va bf n sl) :
    Calls Tryz.prog 118 #[.pointer (some ⟨pm, 0, none⟩)] w fun r w' => r = .returned (.bool true) ∧ w = w' := by
  obtain ⟨c0, _⟩ := H.cell
  have heq := mk_same w ⟨pm, 0, none⟩
  clear H
  go_enter Tryz.func118, Tryz.ntmps118
  go_wp2
  go_ret
  exact ⟨rfl, rfl⟩
theorem store_two {W : World} {g : Nat} {a b : Value} {T : TypeId} (hh : W.heap[g]? = some (.cells #[a, b] T (0, 0))) (u v : Value) : (((W.setCell ⟨g, 0, none⟩ u).setCell ⟨g, 1, none⟩ v).drew).heap[g]? = some (.cells #[u, v] T (0, 0)) := by
  have hlt : g < W.heap.size := (Array.getElem?_eq_some_iff.1 hh).1
  have he : W.heap[g] = .cells #[a, b] T (0, 0) := (Array.getElem?_eq_some_iff.1 hh).2
  show ((W.setCell ⟨g, 0, none⟩ u).setCell ⟨g, 1, none⟩ v).heap[g]? = _
  simp only [World.setCell, Array.getElem?_modify]
  simp [hh]
theorem aig_under : ∃ fs, Tryz.prog.underlying 25 = some (.struct fs) := by
  cases h : Tryz.prog.underlying 25 with
  | none => exact absurd (show (Tryz.prog.underlying 25).isSome = true by kernel_rfl) (by rw [h]; decide)
  | some D =>
    have hk := (show (match Tryz.prog.underlying 25 with | some (.struct _) => true | _ => false) = true by kernel_rfl)
    rw [h] at hk
    cases D with
    | struct fs => exact ⟨fs, rfl⟩
    | _ => simp at hk
theorem aig_size : (Tryz.prog.info? 25).map (·.size) = some 2 := by kernel_rfl
set_option maxRecDepth 100000 in
theorem graph_any (w : World) (B pm : Nat) (I : List Int) (s : Mq) (vi va : Value) (bf n sl : Nat) (H : MkS w B pm I s vi va bf n sl) (hB : B ≤ w.heap.size) :
    Calls Tryz.prog 97 #[.pointer (some ⟨pm, 0, none⟩)] w fun r w' => r = .returned (.agg #[vi, va]) ∧ Below w.heap.size w w' := by
  obtain ⟨_, c1, c2, _⟩ := H.cell
  have hlt := H.lt
  obtain ⟨ia, ic, rfl⟩ := (H.ins.ints H.il H.i64).shape
  obtain ⟨aa, ac, rfl⟩ := H.row.shape
  clear H
  go_enter Tryz.func97, Tryz.ntmps97
  go_upto_region 1 with fail
  have d1 : (w.alloc (.cells #[.slice none 0 0, .slice none 0 0] 25)).cell? ⟨pm, 1, none⟩ = some (.slice ia I.length ic) := cell_old c1
  have d2 : (w.alloc (.cells #[.slice none 0 0, .slice none 0 0] 25)).cell? ⟨pm, 2, none⟩ = some (.slice aa s.1.length ac) := cell_old c2
  have hh : (w.alloc (.cells #[.slice none 0 0, .slice none 0 0] 25)).heap[w.heap.size]? = some (.cells #[.slice none 0 0, .slice none 0 0] 25 (0, 0)) := World.alloc_heap_new _ _
  have HB := Lib.hid (below_alloc1 w (.cells #[.slice none 0 0, .slice none 0 0] 25))
  clear c1 c2
  generalize World.alloc w _ = W at *
  generalize hg : w.heap.size = g at *
  have c0 : W.cell? ⟨g, 0, none⟩ = some (.slice none 0 0) := by simp [World.cell?, hh]
  have c1 : W.cell? ⟨g, 1, none⟩ = some (.slice none 0 0) := by simp [World.cell?, hh]
  have f0 : W.frozen? ⟨g, 0, none⟩ = false := by simp [World.frozen?, hh]
  have f1 : W.frozen? ⟨g, 1, none⟩ = false := by simp [World.frozen?, hh]
  have HHH := Lib.hid (store_two hh (.slice ia I.length ic) (.slice aa s.1.length ac))
  have HGE := Lib.hid hg
  clear hh hg
  go_still_tail 9, (by kernel_rfl)
  change wpList _ _ _ _ _ W.drew
  go_wp2
  obtain ⟨D, hD⟩ := aig_under
  refine bodyPost_ret (results_cell_row rfl _ _ g 25 #[.slice ia I.length ic, .slice aa s.1.length ac] (0, 0) (.struct D) rfl HHH.out hD rfl aig_size) rfl ?_
  refine ⟨rfl, ?_⟩
  rw [HGE.out]
  exact (((HB.out.setCell (p := ⟨g, 0, none⟩) (Nat.le_refl _) _).setCell (p := ⟨g, 1, none⟩) (Nat.le_refl _) _).drew)
end Go.Proofs.YtppglbffmgnooaaGreat

/- What the steps of (*Maker).and leave of a maker. -/
namespace Go.Proofs.YtppglbffmgnooaaGreat
open Go.RowKit Go.Maps
set_option linter.unusedVariables false
set_option linter.unusedSimpArgs false

theorem heap_set_same {W : World} {g : Nat} {cs : Array Value} {T : TypeId} {fr : Nat × Nat} (hh : W.heap[g]? = some (.cells cs T fr)) (i : Nat) (u : Value) : (W.setCell ⟨g, i, none⟩ u).heap[g]? = some (.cells (cs.setIfInBounds i u) T fr) := by
  simp only [World.setCell, Array.getElem?_modify]
  simp [hh]
theorem heap_set_other {W : World} {g k : Nat} (i : Nat) (u : Value) (h : k ≠ g) : (W.setCell ⟨g, i, none⟩ u).heap[k]? = W.heap[k]? := by
  simp only [World.setCell, Array.getElem?_modify]
  rw [if_neg (fun e => h e.symm)]
theorem KpM.setCell {B pm bf : Nat} (w : World) (i : Nat) (u : Value) (hB : B ≤ pm) : KpM B pm bf w (w.setCell ⟨pm, i, none⟩ u) :=
  ⟨(Below.refl _ _).setCell (p := ⟨pm, i, none⟩) hB u, fun k o h1 _ ho _ => (heap_set_other i u h1).trans ho⟩
theorem KpM.kept {B pm bf : Nat} {w w' : World} (h : Kept (fun i => i = bf) w w') (hB : B ≤ bf) (hw : B ≤ w.heap.size) : KpM B pm bf w w' :=
  ⟨h.below hw (fun k hk e => by omega), fun k o _ h2 ho _ => (h.block k (Array.getElem?_eq_some_iff.1 ho).1 h2).trans ho⟩
theorem KpM.grown {B pm bf : Nat} {w w' : World} {v : Value} {A : List Pr} (h : OwnP w B v A) (hg : w.grownBy w' v.ownBlock) (hw : B ≤ w.heap.size) : KpM B pm bf w w' :=
  ⟨(Below.refl B w).grown hg hw (fun k e => (h.lt k e).1), fun k o _ _ ho hk => (hg.block k (Array.getElem?_eq_some_iff.1 ho).1 (fun e => by
    obtain ⟨cur, hc⟩ := h.obj e.symm
    rw [ho] at hc
    cases hc
    exact hk rfl)).trans ho⟩
theorem MkS.full {w : World} {B pm : Nat} {I : List Int} {s : Mq} {vi va : Value} {bf n sl : Nat} (h : MkS w B pm I s vi va bf n sl) (x : Bool) : MkS (w.setCell ⟨pm, 4, none⟩ (.bool x)) B pm I (s.1, x) vi va bf n sl := by
  have ha := h.apart
  have hk := Kept.setCell w ⟨pm, 4, none⟩ (.bool x)
  refine ⟨?_, h.ins.turn (fun g cur hg => heap_set_other 4 _ (fun e => by rw [e, h.box] at hg; simp only [Option.some.injEq, Obj.cells.injEq] at hg; exact absurd hg.2.1 (by decide))), h.i64, h.il, h.row.kept hk (fun g hg => (ha.2 g hg).1), h.map.kept hk (fun e => ha.1 e.symm), h.cap, h.slk, ⟨h.ok.ok, h.ok.room⟩, h.inp, h.lb⟩
  rw [heap_set_same h.box]
  rfl
theorem firstA_snoc {k : Nat} {A : List Pr} {p : Pr} (hp : p ∉ A) (q : Pr) : firstA k (A ++ [p]) q = if q = p then some ((k + A.length : Nat) : Int) else firstA k A q := by
  unfold firstA
  by_cases e : q = p
  · subst e
    simp [List.idxOf_append, hp]
  · rw [if_neg e]
    by_cases hq : q ∈ A
    · simp [hq, List.idxOf_append]
    · simp [hq, e]
theorem MkS.drew {w : World} {B pm : Nat} {I : List Int} {s : Mq} {vi va : Value} {bf n sl : Nat} (h : MkS w B pm I s vi va bf n sl) : MkS w.drew B pm I s vi va bf n sl := h.below ((Below.refl w.heap.size w).drew) (Nat.le_refl _)
/-- The map behind the And's row has grown, and is stored. -/
theorem MkS.mapAt {w w3 : World} {B pm : Nat} {I : List Int} {s : Mq} {vi va va' : Value} {bf n sl : Nat} (H : MkS w B pm I s vi va bf n sl) (hg : w.grownBy w3 va.ownBlock) : MapP (w3.setCell ⟨pm, 2, none⟩ va') bf n (firstA (1 + I.length) s.1) := by
  have ha := H.apart
  exact (H.map.kept (Kept.of_grown hg) (fun e => (ha.2 bf e).2 rfl)).kept (Kept.setCell w3 ⟨pm, 2, none⟩ va') (fun e => ha.1 e.symm)
theorem MkS.boxAt {w w3 : World} {B pm : Nat} {I : List Int} {s : Mq} {vi va : Value} {bf n sl : Nat} (H : MkS w B pm I s vi va bf n sl) (hg : w.grownBy w3 va.ownBlock) : w3.heap[pm]? = some (.cells #[.pointer (some ⟨pm, 0, none⟩), vi, va, .map (some bf), .bool s.2] 111 (0, 0)) :=
  (hg.block pm H.lt (fun e => (H.apart.2 pm e.symm).1 rfl)).trans H.box
theorem MkS.push {w w3 w6 : World} {B pm : Nat} {I : List Int} {s : Mq} {vi va va' : Value} {bf n sl : Nat} (H : MkS w B pm I s vi va bf n sl) (hB : B ≤ w.heap.size) (hg : w.grownBy w3 va.ownBlock) {p : Pr} (hrow : OwnP w3 B va' (s.1 ++ [p]))
    (hk : Kept (fun i => i = bf) (w3.setCell ⟨pm, 2, none⟩ va') w6) (hm : MapP w6 bf (n + 1) (fun q => if q = p then some ((1 + I.length + s.1.length : Nat) : Int) else firstA (1 + I.length) s.1 q)) (hp : p ∉ s.1) (h1 : In1 p) (hok : MOk (1 + I.length) (s.1 ++ [p], s.2)) :
    MkS w6 B pm I (s.1 ++ [p], s.2) vi va' bf (n + 1) sl ∧ KpM B pm bf w w6 := by
  have ha := H.apart
  have hb3 := H.boxAt hg
  have hpl : pm < w3.heap.size := (Array.getElem?_eq_some_iff.1 hb3).1
  have hz : w3.heap.size ≤ (w3.setCell ⟨pm, 2, none⟩ va').heap.size := by simp [World.setCell]
  have hne : ∀ g cur T, w.heap[g]? = some (Obj.cells cur T (0, 0)) → T ≠ 115 → T ≠ 111 → w6.heap[g]? = w.heap[g]? := fun g cur T h t1 t2 => by
    have hgl : g < w.heap.size := (Array.getElem?_eq_some_iff.1 h).1
    have e1 : g ≠ bf := fun e => by obtain ⟨es, clock, hmm⟩ := H.map.obj; rw [e, hmm] at h; simp at h
    have e2 : g ≠ pm := fun e => by rw [e, H.box] at h; simp only [Option.some.injEq, Obj.cells.injEq] at h; exact t2 h.2.1.symm
    have e3 : some g ≠ va.ownBlock := fun e => by obtain ⟨c, hc⟩ := H.row.obj e.symm; rw [hc] at h; simp only [Option.some.injEq, Obj.cells.injEq] at h; exact t1 h.2.1.symm
    rw [hk.block g (Nat.lt_of_lt_of_le (Nat.lt_of_lt_of_le hgl hg.size) hz) e1, heap_set_other 2 _ e2, hg.block g hgl e3]
  refine ⟨⟨?_, H.ins.turn (fun g cur h => hne g cur _ h (by decide) (by decide)), H.i64, H.il, ?_, hm.congr (fun q hq => (firstA_snoc hp q).symm), by have := H.cap; rw [List.length_append]; simp; omega, H.slk, hok, fun q hq => ?_, H.lb⟩, ?_⟩
  · rw [hk.block pm (Nat.lt_of_lt_of_le hpl hz) ha.1, heap_set_same hb3]
    rfl
  · refine hrow.turn fun g hgo => ?_
    obtain ⟨cur, hc⟩ := hrow.obj hgo
    have hgl : g < w3.heap.size := (hrow.lt g hgo).2
    have e2 : g ≠ pm := fun e => by rw [e, hb3] at hc; simp only [Option.some.injEq, Obj.cells.injEq] at hc; exact absurd hc.2.1 (by decide)
    have e1 : g ≠ bf := fun e => by
      obtain ⟨es, clock, hmm⟩ := H.map.obj
      have := (hg.block bf (Array.getElem?_eq_some_iff.1 hmm).1 (fun e => (ha.2 bf e.symm).2 rfl)).trans hmm
      rw [e, this] at hc; simp at hc
    rw [hk.block g (Nat.lt_of_lt_of_le hgl hz) e1, heap_set_other 2 _ e2]
  · rcases List.mem_append.1 hq with hq | hq
    · exact H.inp q hq
    · rw [List.mem_singleton] at hq; rw [hq]; exact h1
  · exact ((KpM.grown H.row hg hB).trans (KpM.setCell w3 2 va' H.lb.1)).trans (KpM.kept hk H.lb.2 (by have := hg.size; omega))
end Go.Proofs.YtppglbffmgnooaaGreat

/- (*Maker).and. -/
namespace Go.Proofs.YtppglbffmgnooaaGreat
open Go.RowKit Go.Maps
set_option linter.unusedVariables false
set_option linter.unusedSimpArgs false

attribute [local go_sem] drew_cellq drew_frozenq
/-- What comes of making an edge. -/
def AndPost (w : World) (B pm : Nat) (I : List Int) (vi : Value) (bf sl : Nat) (r : Int × Mq) (e : Ending) (w' : World) : Prop :=
  e = .returned (.int .i64 r.1) ∧ (∃ va n, MkS w' B pm I r.2 vi va bf n sl) ∧ KpM B pm bf w w'
set_option maxRecDepth 100000 in
set_option maxHeartbeats 6400000 in
theorem and_any (w : World) (B pm : Nat) (I : List Int) (s : Mq) (vi va : Value) (bf n sl : Nat) (a b : Int) (H : MkS w B pm I s vi va bf n sl) (hB : B ≤ w.heap.size)
    (ha : isE a (1 + I.length + s.1.length) = true) (hb : isE b (1 + I.length + s.1.length) = true) :
    Calls Tryz.prog 139 #[.pointer (some ⟨pm, 0, none⟩), .int .i64 a, .int .i64 b] w (AndPost w B pm I vi bf sl (conjA (1 + I.length) s a b)) := by
  have hmade := conjA_made (k := 1 + I.length) H.ok (by omega) ha hb
  have hroom := H.ok.room
  rw [isE_true] at ha hb
  unfold conjA at hmade ⊢
  obtain ⟨x, hx⟩ : ∃ x, min a b = x := ⟨_, rfl⟩
  obtain ⟨y, hy⟩ : ∃ y, max a b = y := ⟨_, rfl⟩
  have hx0 : 0 ≤ x := by omega
  have hxy : x ≤ y := by omega
  have hxb : x < 400000 := by omega
  have hyb : y < 400000 := by omega
  have hyr : y / 2 < ((1 + I.length + s.1.length : Nat) : Int) := by omega
  have hxr : x / 2 < ((1 + I.length + s.1.length : Nat) : Int) := by omega
  rw [hx, hy] at hmade ⊢
  have HH := Lib.hid H
  have HMD := Lib.hid hmade
  have HRM := Lib.hid hroom
  have hmn : (if b < a then b else a) = x := by rw [← hx]; split <;> omega
  have hmx : (if a < b then b else a) = y := by rw [← hy]; split <;> omega
  clear ha hb hmade hroom hx hy
  unfold AndPost
  by_cases c0 : x = 0
  · subst c0
    have HE : Hid (conjO (1 + I.length) s 0 y = (0, s)) := by show _ = _; unfold conjO; rw [if_pos (.inl rfl)]
    clear hxy hxb hyr hxr H hx0
    go_enter Tryz.func139, Tryz.ntmps139
    go_wp2
    go_ret
    exact ⟨by rw [HE.out]; rfl, ⟨va, n, by rw [HE.out]; exact HH.out⟩, KpM.refl _ _ _ _⟩
  · have hd0 : (x == 0) = false := by simpa using c0
    have HOP := Lib.hid (fun X => opposite_any x X hx0 (by omega))
    by_cases c1 : y = notE x
    · have HE : Hid (conjO (1 + I.length) s x y = (0, s)) := by show _ = _; unfold conjO; rw [if_pos (.inr c1)]
      have hd1 : (y == notE x) = true := by simpa using c1
      clear c1 hxy hxb hyr hxr H
      generalize notE x = z at *
      go_enter Tryz.func139, Tryz.ntmps139
      go_wp2_with (go_at_call 70; refine (HOP.out _).mono ?_; rintro e w1 ⟨rfl, rfl⟩)
      go_ret
      exact ⟨by rw [HE.out]; rfl, ⟨va, n, by rw [HE.out]; exact HH.out⟩, KpM.refl _ _ _ _⟩
    · have hd1 : (y == notE x) = false := by simpa using c1
      by_cases c2 : x = 1 ∨ x = y
      · have HE : Hid (conjO (1 + I.length) s x y = (y, s)) := by show _ = _; unfold conjO; rw [if_neg (by rintro (h | h); exact c0 h; exact c1 h), if_pos c2]
        by_cases c3 : x = 1
        · have hd2 : (x == 1) = true := by simpa using c3
          clear c1 c2 c3 hxy hxb hyr hxr H
          generalize notE x = z at *
          go_enter Tryz.func139, Tryz.ntmps139
          go_wp2_with (go_at_call 70; refine (HOP.out _).mono ?_; rintro e w1 ⟨rfl, rfl⟩)
          go_ret
          exact ⟨by rw [HE.out]; rfl, ⟨va, n, by rw [HE.out]; exact HH.out⟩, KpM.refl _ _ _ _⟩
        · have hd2 : (x == 1) = false := by simpa using c3
          have hd3 : (x == y) = true := by simpa using c2.resolve_left c3
          clear c1 c2 c3 hxy hxb hyr hxr H
          generalize notE x = z at *
          go_enter Tryz.func139, Tryz.ntmps139
          go_wp2_with (go_at_call 70; refine (HOP.out _).mono ?_; rintro e w1 ⟨rfl, rfl⟩)
          go_ret
          exact ⟨by rw [HE.out]; rfl, ⟨va, n, by rw [HE.out]; exact HH.out⟩, KpM.refl _ _ _ _⟩
      · have hd2 : (x == 1) = false := by simpa using fun h => c2 (.inl h)
        have hd3 : (x == y) = false := by simpa using fun h => c2 (.inr h)
        have HE1 : Hid (conjO (1 + I.length) s x y = if (x, y) ∈ s.1 then (2 * ((1 + I.length + s.1.idxOf (x, y) : Nat) : Int), s) else if 1 + I.length + s.1.length = 200000 then (0, (s.1, true)) else (2 * ((1 + I.length + s.1.length : Nat) : Int), (s.1 ++ [(x, y)], s.2))) := by
          show _ = _
          unfold conjO
          rw [if_neg (by rintro (h | h); exact c0 h; exact c1 h), if_neg c2]
        have hin : In1 (x, y) := ⟨⟨by show -9223372036854775808 ≤ x; omega, by show x ≤ 9223372036854775807; omega⟩, by show -9223372036854775808 ≤ y; omega, by show y ≤ 9223372036854775807; omega⟩
        have HIN := Lib.hid hin
        clear c1 c2 hxy hyr hxr hin
        generalize notE x = z at *
        have hba := below_alloc1 w (.cells #[.int .i64 x, .int .i64 y] 115)
        have hpc : (w.alloc (.cells #[.int .i64 x, .int .i64 y] 115)).cell? ⟨w.heap.size, 0, none⟩ = some (.int .i64 x) := cell_fresh rfl
        have hpd : (w.alloc (.cells #[.int .i64 x, .int .i64 y] 115)).cell? ⟨w.heap.size, 1, none⟩ = some (.int .i64 y) := cell_fresh rfl
        have HA := Lib.hid (H.below hba (Nat.le_refl _))
        have HBA := Lib.hid hba
        have hsa : (w.alloc (.cells #[.int .i64 x, .int .i64 y] 115)).heap.size = w.heap.size + 1 := by simp
        clear H hba
        go_enter Tryz.func139, Tryz.ntmps139
        go_upto_region 7 with (go_at_call 70; refine (HOP.out _).mono ?_; rintro e w1 ⟨rfl, rfl⟩)
        generalize World.alloc w _ = W at *
        have hc := HA.out.cell
        have hcn2 : ∀ n, (W.drewN n).cell? ⟨pm, 3, none⟩ = some (.map (some bf)) := fun n => hc.2.2.2.1
        have hcn3 : ∀ n, (W.drewN n).cell? ⟨w.heap.size, 0, none⟩ = some (.int .i64 x) := fun n => hpc
        have hcn4 : ∀ n, (W.drewN n).cell? ⟨w.heap.size, 1, none⟩ = some (.int .i64 y) := fun n => hpd
        have hlk : ∀ n, (Instr.lookup 109 (.map (some bf)) (.agg #[.int .i64 x, .int .i64 y]) true).run Tryz.prog (W.drewN n) = .ok (.tuple #[.int .i64 ((firstA (1 + I.length) s.1 (x, y)).getD 0), .bool (firstA (1 + I.length) s.1 (x, y)).isSome]) (W.drewN n) := fun n =>
          (HA.out.map.below (Quiet.below ⟨n, rfl⟩ W.heap.size) (Nat.le_refl _)).look rfl HIN.out
        have HC := Lib.hid hc
        have HPC := Lib.hid hpc
        have HPD := Lib.hid hpd
        by_cases hm : (x, y) ∈ s.1
        · have hfe : firstA (1 + I.length) s.1 (x, y) = some ((1 + I.length + s.1.idxOf (x, y) : Nat) : Int) := by unfold firstA; rw [if_pos hm]
          have hil := List.idxOf_lt_length_of_mem hm
          obtain ⟨v, hv⟩ : ∃ v : Int, ((1 + I.length + s.1.idxOf (x, y) : Nat) : Int) = v := ⟨_, rfl⟩
          have hv0 : 0 ≤ v := by omega
          have hv1 : v ≤ 200000 := by have := HRM.out; omega
          rw [if_pos hm, hv] at HE1
          simp only [hfe, hv, Option.getD_some, Option.isSome_some] at hlk
          clear hm hfe hil hv hc hpc hpd
          go_quiet (fail)
          have HQ := Lib.hid (show Quiet W (W.drewN nq) from ⟨nq, rfl⟩)
          generalize W.drewN nq = wq at *
          go_wp2
          go_ret
          have hbq : Below w.heap.size w wq := HBA.out.trans (HQ.out.below _)
          exact ⟨by rw [HE1.out]; rfl, ⟨va, n, by rw [HE1.out]; exact HA.out.below (HQ.out.below _) (Nat.le_refl _)⟩, KpM.of_below hbq hB⟩
        · have hfe : firstA (1 + I.length) s.1 (x, y) = none := by unfold firstA; rw [if_neg hm]
          rw [if_neg hm] at HE1
          simp only [hfe, Option.getD_none, Option.isSome_none] at hlk
          have HFE := Lib.hid hfe
          have HM := Lib.hid hm
          clear hm hfe hc hpc hpd
          go_quiet (fail)
          have HQ := Lib.hid (show Quiet W (W.drewN nq) from ⟨nq, rfl⟩)
          clear hcn2 hcn3 hcn4 hlk
          generalize W.drewN nq = wq at *
          have HBQ : Hid (Below w.heap.size w wq) := HBA.out.trans (HQ.out.below _)
          have HMQ := Lib.hid (HA.out.below (HQ.out.below W.heap.size) (Nat.le_refl _))
          have HPQ : Hid (wq.cell? ⟨w.heap.size, 0, none⟩ = some (.int .i64 x) ∧ wq.cell? ⟨w.heap.size, 1, none⟩ = some (.int .i64 y)) := ⟨(HQ.out.cell _).trans HPC.out, (HQ.out.cell _).trans HPD.out⟩
          have HGR := Lib.hid (graph_any wq B pm I s vi va bf n sl HMQ.out (Nat.le_trans hB HBQ.out.size))
          have hsq : W.heap.size ≤ wq.heap.size := by rw [HQ.out.size]; exact Nat.le_refl _
          have HSQ : Hid (w.heap.size < wq.heap.size) := by show _ < _; omega
          have HNO : Hid (∀ X, Below wq.heap.size wq X → Calls Tryz.prog 66 #[.agg #[vi, va]] X fun r w' => r = .returned (.int .i64 ((1 + I.length + s.1.length : Nat) : Int)) ∧ Below X.heap.size X w') := fun X hX => by
            have hm := HMQ.out.below hX (Nat.le_refl _)
            exact nodes_any vi va I s.1 X (hm.ins.ints hm.il hm.i64) (hm.row.pairs (by have := HRM.out; omega) hm.inp) hm.il (by have := HRM.out; omega)
          obtain ⟨nn, hnn⟩ : ∃ nn : Nat, 1 + I.length + s.1.length = nn := ⟨_, rfl⟩
          rw [hnn] at HNO HE1
          clear hsq hsa
          by_cases hf : nn = 200000
          · have HF : Hid (nn = 200000) := hf
            have hfi : ((nn : Int) == 200000) = true := by rw [hf]; rfl
            rw [if_pos hf] at HE1
            have HNN := Lib.hid hnn
            clear hf hnn
            obtain ⟨ni, hni⟩ : ∃ ni : Int, (nn : Int) = ni := ⟨_, rfl⟩
            rw [hni] at HNO hfi
            clear hni
            go_upto_region 12 with (first
              | (go_at_call 97; refine HGR.out.mono ?_; rintro e w3 ⟨rfl, hb3⟩; have HB3 := Lib.hid hb3; clear hb3)
              | (go_at_call 66; refine (HNO.out w3 HB3.out).mono ?_; rintro e w4 ⟨rfl, hb4⟩; have HB4 := Lib.hid (HB3.out.trans (hb4.mono HB3.out.size)); clear hb4))
            have HM4 := Lib.hid (HMQ.out.below HB4.out (Nat.le_refl _))
            have HW4 : Hid (Below w.heap.size w w4) := HBQ.out.trans (HB4.out.mono HBQ.out.size)
            have c4 := HM4.out.cell.2.2.2.2
            have f4 := HM4.out.frozen 4
            have HMF := Lib.hid (HM4.out.full true)
            go_wp2
            go_ret
            exact ⟨by rw [HE1.out]; rfl, ⟨_, _, by rw [HE1.out]; exact HMF.out⟩, (KpM.of_below HW4.out hB).trans (KpM.setCell w4 4 _ HM4.out.lb.1)⟩
          · have hfi : ((nn : Int) == 200000) = false := by simp; omega
            rw [if_neg hf] at HE1
            have HF : Hid (nn < 200000) := by show _ < _; have := HRM.out; omega
            have HNN := Lib.hid hnn
            clear hf hnn
            obtain ⟨ni, hni⟩ : ∃ ni : Int, (nn : Int) = ni := ⟨_, rfl⟩
            have hni0 : 0 ≤ ni := by omega
            have hni1 : ni ≤ 200000 := by have := HF.out; omega
            have HNI := Lib.hid hni
            rw [hni] at HNO HE1 hfi
            clear hni
            go_upto_region 14 with (first
              | (go_at_call 97; refine HGR.out.mono ?_; rintro e w3 ⟨rfl, hb3⟩; have HB3 := Lib.hid hb3; clear hb3)
              | (go_at_call 66; refine (HNO.out w3 HB3.out).mono ?_; rintro e w4 ⟨rfl, hb4⟩; have HB4 := Lib.hid (HB3.out.trans (hb4.mono HB3.out.size)); clear hb4))
            have HM4 := Lib.hid (HMQ.out.below HB4.out (Nat.le_refl _))
            have HP4 : Hid (w4.cell? ⟨w.heap.size, 0, none⟩ = some (.int .i64 x) ∧ w4.cell? ⟨w.heap.size, 1, none⟩ = some (.int .i64 y)) := ⟨(HB4.out.cell (p := ⟨w.heap.size, 0, none⟩) HSQ.out).trans HPQ.out.1, (HB4.out.cell (p := ⟨w.heap.size, 1, none⟩) HSQ.out).trans HPQ.out.2⟩
            have HW4 : Hid (Below w.heap.size w w4) := HBQ.out.trans (HB4.out.mono HBQ.out.size)
            obtain ⟨g7, hg7⟩ : ∃ g7, w.heap.size = g7 := ⟨_, rfl⟩
            have HG7 := Lib.hid hg7
            rw [hg7] at HP4 ⊢
            clear hg7 HGR HNO HPC HPD HPQ HA HC
            have c2 := HM4.out.cell.2.2.1
            refine wp_region_held_drew (S := fun X : World => X.cell? ⟨pm, 3, none⟩ = some (.map (some bf)) ∧ X.cell? ⟨g7, 0, none⟩ = some (.int .i64 x) ∧ X.cell? ⟨g7, 1, none⟩ = some (.int .i64 y)) (by kernel_rfl) ⟨HM4.out.cell.2.2.2.1, HP4.out.1, HP4.out.2⟩ (fun hSd => ?_)
            refine takeC (i := 0) (v := .pointer (some ⟨pm, 0, none⟩)) (some 57) rfl rfl (by kernel_rfl) (by kernel_rfl) (by kernel_rfl) (fun _ _ _ h => h) (Or.inl ⟨by rfl, ?_⟩) (by assumption) ?_
            · intro wz hSw; go_simp
            try simp only [Act.put, List.setIfInBounds_toArray, List.set_cons_zero, List.set_cons_succ]
            refine takeC (i := 1) (v := .pointer (some ⟨pm, 0, none⟩)) (some 58) rfl rfl (by kernel_rfl) (by kernel_rfl) (by kernel_rfl) (fun _ _ _ h => h) (Or.inl ⟨by rfl, ?_⟩) (by assumption) ?_
            · intro wz hSw; go_simp
            try simp only [Act.put, List.setIfInBounds_toArray, List.set_cons_zero, List.set_cons_succ]
            refine takeC (i := 2) (v := .pointer (some ⟨pm, 0, none⟩)) (some 59) rfl rfl (by kernel_rfl) (by kernel_rfl) (by kernel_rfl) (fun _ _ _ h => h) (Or.inl ⟨by rfl, ?_⟩) (by assumption) ?_
            · intro wz hSw; go_simp
            try simp only [Act.put, List.setIfInBounds_toArray, List.set_cons_zero, List.set_cons_succ]
            refine takeC (i := 3) (v := .pointer (some ⟨pm, 3, none⟩)) (some 60) rfl rfl (by kernel_rfl) (by kernel_rfl) (by kernel_rfl) (fun _ _ _ h => h) (Or.inl ⟨by rfl, ?_⟩) (by assumption) ?_
            · intro wz hSw; go_simp
            try simp only [Act.put, List.setIfInBounds_toArray, List.set_cons_zero, List.set_cons_succ]
            refine takeC (i := 4) (v := .map (some bf)) (some 61) rfl rfl (by kernel_rfl) (by kernel_rfl) (by kernel_rfl) (fun _ _ _ h => h) (Or.inl ⟨by rfl, ?_⟩) (by assumption) ?_
            · intro wz hSw; obtain ⟨t3, t0, t1⟩ := hSw; go_simp
            try simp only [Act.put, List.setIfInBounds_toArray, List.set_cons_zero, List.set_cons_succ]
            refine takeC (i := 5) (v := .agg #[.int .i64 x, .int .i64 y]) (some 62) rfl rfl (by kernel_rfl) (by kernel_rfl) (by kernel_rfl) (fun _ _ _ h => h) (Or.inl ⟨by rfl, ?_⟩) (by assumption) ?_
            · intro wz hSw; obtain ⟨t3, t0, t1⟩ := hSw; go_simp
            try simp only [Act.put, List.setIfInBounds_toArray, List.set_cons_zero, List.set_cons_succ]
            refine takeC (i := 6) (v := .pointer (some ⟨pm, 0, none⟩)) (some 63) rfl rfl (by kernel_rfl) (by kernel_rfl) (by kernel_rfl) (fun _ _ _ h => h) (Or.inl ⟨by rfl, ?_⟩) (by assumption) ?_
            · intro wz hSw; go_simp
            try simp only [Act.put, List.setIfInBounds_toArray, List.set_cons_zero, List.set_cons_succ]
            refine takeC (i := 7) (v := .pointer (some ⟨pm, 0, none⟩)) (some 64) rfl rfl (by kernel_rfl) (by kernel_rfl) (by kernel_rfl) (fun _ _ _ h => h) (Or.inl ⟨by rfl, ?_⟩) (by assumption) ?_
            · intro wz hSw; go_simp
            try simp only [Act.put, List.setIfInBounds_toArray, List.set_cons_zero, List.set_cons_succ]
            refine takeC (i := 8) (v := .pointer (some ⟨pm, 2, none⟩)) (some 65) rfl rfl (by kernel_rfl) (by kernel_rfl) (by kernel_rfl) (fun _ _ _ h => h) (Or.inl ⟨by rfl, ?_⟩) (by assumption) ?_
            · intro wz hSw; go_simp
            try simp only [Act.put, List.setIfInBounds_toArray, List.set_cons_zero, List.set_cons_succ]
            refine takeC (i := 10) (v := .agg #[.int .i64 x, .int .i64 y]) (some 67) rfl rfl (by kernel_rfl) (by kernel_rfl) (by kernel_rfl) (fun _ _ _ h => h) (Or.inl ⟨by rfl, ?_⟩) (by assumption) ?_
            · intro wz hSw; obtain ⟨t3, t0, t1⟩ := hSw; go_simp
            try simp only [Act.put, List.setIfInBounds_toArray, List.set_cons_zero, List.set_cons_succ]
            refine takeC (i := 13) (v := .int .i64 ni) (some 70) rfl rfl (by kernel_rfl) (by kernel_rfl) (by kernel_rfl) (fun _ _ _ h => h) (Or.inl ⟨by rfl, ?_⟩) (by assumption) ?_
            · intro wz hSw; go_simp
            try simp only [Act.put, List.setIfInBounds_toArray, List.set_cons_zero, List.set_cons_succ]
            have hba := below_alloc1 w4 (.cells #[.int .i64 x, .int .i64 y] 115)
            have HMa := Lib.hid ((HM4.out.below hba (Nat.le_refl _)).drew)
            have hSa : (fun X : World => X.cell? ⟨pm, 3, none⟩ = some (.map (some bf)) ∧ X.cell? ⟨g7, 0, none⟩ = some (.int .i64 x) ∧ X.cell? ⟨g7, 1, none⟩ = some (.int .i64 y)) ((w4.alloc (.cells #[.int .i64 x, .int .i64 y] 115)).drew) := ⟨cell_old hSd.1, cell_old hSd.2.1, cell_old hSd.2.2⟩
            have c2a : ((w4.alloc (.cells #[.int .i64 x, .int .i64 y] 115)).drew).cell? ⟨pm, 2, none⟩ = some va := cell_old (w := w4) c2
            have hga : ((w4.alloc (.cells #[.int .i64 x, .int .i64 y] 115)).drew).cell? ⟨w4.heap.size, 0, none⟩ = some (.int .i64 x) ∧ ((w4.alloc (.cells #[.int .i64 x, .int .i64 y] 115)).drew).cell? ⟨w4.heap.size, 1, none⟩ = some (.int .i64 y) := ⟨cell_fresh (w := w4) rfl, cell_fresh (w := w4) rfl⟩
            have HGA := Lib.hid hga
            have HBa : Hid (Below w.heap.size w ((w4.alloc (.cells #[.int .i64 x, .int .i64 y] 115)).drew)) := (HW4.out.alloc HW4.out.size _).drew
            have HL7 : Hid (g7 < ((w4.alloc (.cells #[.int .i64 x, .int .i64 y] 115)).drew).heap.size) := by have h1 := HW4.out.size; have h2 := HG7.out; have h3 := HSQ.out; have h4 := HB4.out.size; show g7 < (w4.alloc (.cells #[.int .i64 x, .int .i64 y] 115)).heap.size; rw [World.size_alloc]; omega
            have HN7 : Hid (∀ g, va.ownBlock = some g → g ≠ g7) := fun g hgo e => by have := (HH.out.row.lt g hgo).2; have := HG7.out; omega
            have HP7 : Hid (g7 ≠ pm) := fun e => by have := HH.out.lt; have := HG7.out; omega
            have HB7 : Hid (bf ≠ g7) := fun e => by have := HH.out.map.lt; have := HG7.out; omega
            have hWA : True := trivial
            clear hba hga
            refine wpAnyH_ready (rs := [9, 11]) (by kernel_rfl) (by simp) ?_
            refine AllReadyH.cons rfl (fun K hK => ?_) (AllReadyH.cons rfl (fun K hK => ?_) AllReadyH.nil)
            · go_simp
              refine hK.out _ _ hSd (fun hH => ?_)
              clear hK K hH
              try simp only [Act.put, List.setIfInBounds_toArray, List.set_cons_zero, List.set_cons_succ]
              refine wpAnyH_ready (rs := [11]) (by kernel_rfl) (by simp) ?_
              refine AllReadyH.cons rfl (fun K hK => ?_) AllReadyH.nil
              go_simp
              refine hK.out _ _ hSa (fun hH => ?_)
              clear hK K hH
              try simp only [Act.put, List.setIfInBounds_toArray, List.set_cons_zero, List.set_cons_succ]
              clear hSd hWA c2 c2a
              generalize (w4.alloc (.cells #[.int .i64 x, .int .i64 y] 115)).drew = wa at *
              generalize w4.heap.size = g11 at *
              refine wpAnyH_ready (rs := [12]) (by kernel_rfl) (by simp) ?_
              refine AllReadyH.cons rfl (fun K hK => ?_) AllReadyH.nil
              refine step_appPr rfl (.tmp 66) (.tmp 68) rfl B va s.1 (x, y) g11 rfl rfl HMa.out.row HGA.out.1 HGA.out.2 (by have := HRM.out; omega) (Nat.le_trans hB HBa.out.size) ?_
              intro va' w5 hrow hg
              have HRW := Lib.hid hrow
              have HG := Lib.hid hg
              obtain ⟨xa, xl, xc, rfl⟩ : ∃ xa xl xc, va' = .slice xa xl xc := by obtain ⟨q1, q2, e⟩ := hrow.shape; exact ⟨_, _, _, e⟩
              have hS5 : (fun X : World => X.cell? ⟨pm, 3, none⟩ = some (.map (some bf)) ∧ X.cell? ⟨g7, 0, none⟩ = some (.int .i64 x) ∧ X.cell? ⟨g7, 1, none⟩ = some (.int .i64 y)) w5 := ⟨(World.cell?_of_block (hg.block pm HMa.out.lt (fun e => (HMa.out.apart.2 pm e.symm).1 rfl))).trans hSa.1, (World.cell?_of_block (hg.block g7 HL7.out (fun e => HN7.out g7 e.symm rfl))).trans hSa.2.1, (World.cell?_of_block (hg.block g7 HL7.out (fun e => HN7.out g7 e.symm rfl))).trans hSa.2.2⟩
              refine hK.out _ _ hS5 (fun hH12 => ?_)
              clear hK K hrow hg hSa
              try simp only [Act.put, List.setIfInBounds_toArray, List.set_cons_zero, List.set_cons_succ]
              refine takeC (i := 14) (v := .pointer (some ⟨pm, 0, none⟩)) (some 71) rfl rfl (by kernel_rfl) (by kernel_rfl) (by kernel_rfl) (fun _ _ _ h => h) (Or.inl ⟨by rfl, ?_⟩) (by assumption) ?_
              · intro wz hSw; go_simp
              try simp only [Act.put, List.setIfInBounds_toArray, List.set_cons_zero, List.set_cons_succ]
              refine takeC (i := 15) (v := .pointer (some ⟨pm, 2, none⟩)) (some 72) rfl rfl (by kernel_rfl) (by kernel_rfl) (by kernel_rfl) (fun _ _ _ h => h) (Or.inl ⟨by rfl, ?_⟩) (by assumption) ?_
              · intro wz hSw; go_simp
              try simp only [Act.put, List.setIfInBounds_toArray, List.set_cons_zero, List.set_cons_succ]
              have hb5 := HMa.out.boxAt HG.out
              have c25 : w5.cell? ⟨pm, 2, none⟩ = some va := by simp [World.cell?, hb5]
              have f25 : w5.frozen? ⟨pm, 2, none⟩ = false := by simp [World.frozen?, hb5]
              refine wpAnyH_ready (rs := [16]) (by kernel_rfl) (by simp) ?_
              refine AllReadyH.cons rfl (fun K hK => ?_) AllReadyH.nil
              go_simp
              have hS6 : (fun X : World => X.cell? ⟨pm, 3, none⟩ = some (.map (some bf)) ∧ X.cell? ⟨g7, 0, none⟩ = some (.int .i64 x) ∧ X.cell? ⟨g7, 1, none⟩ = some (.int .i64 y)) (w5.setCell ⟨pm, 2, none⟩ (.slice xa xl xc)) := by
                refine ⟨(World.cell?_setCell_other w5 _ _ _ (fun e => by injection e with _ e2; cases e2)).trans hS5.1, (World.cell?_setCell_other w5 _ _ _ (fun e => by injection e with e1; exact HP7.out e1.symm)).trans hS5.2.1, (World.cell?_setCell_other w5 _ _ _ (fun e => by injection e with e1; exact HP7.out e1.symm)).trans hS5.2.2⟩
              refine hK.out _ _ hS6 (fun hH16 => ?_)
              clear hK K hb5 c25 f25 hS5
              try simp only [Act.put, List.setIfInBounds_toArray, List.set_cons_zero, List.set_cons_succ]
              obtain ⟨w7, st, hrun7, hE7, hk7⟩ := (HMa.out.mapAt (va' := .slice xa xl xc) HG.out).entry rfl HIN.out HFE.out
              have hr7 : (Instr.mapEntry 109 (.map (some bf)) (.agg #[.int .i64 x, .int .i64 y])).run Tryz.prog (w5.setCell ⟨pm, 2, none⟩ (.slice xa xl xc)) = .ok (.tuple #[.int .i64 0, .int .i64 (st : Int)]) w7 := hrun7
              have HE7 := Lib.hid hE7
              have HK7 := Lib.hid hk7
              clear hrun7 hE7 hk7
              generalize HW6 : w5.setCell ⟨pm, 2, none⟩ (.slice xa xl xc) = w6 at *
              have hz6 : w5.heap.size ≤ w6.heap.size := by rw [← HW6]; simp [World.setCell]
              have hz5 := HG.out.size
              have HZ6 : Hid (pm < w6.heap.size ∧ g7 < w6.heap.size) := ⟨by have := HMa.out.lt; omega, by have := HL7.out; omega⟩
              have HWW6 := Lib.hid HW6
              clear HW6 hz6 hz5
              refine wpAnyH_ready (rs := [17]) (by kernel_rfl) (by simp) ?_
              refine AllReadyH.cons rfl (fun K hK => ?_) AllReadyH.nil
              go_simp
              have hS7 : (fun X : World => X.cell? ⟨pm, 3, none⟩ = some (.map (some bf)) ∧ X.cell? ⟨g7, 0, none⟩ = some (.int .i64 x) ∧ X.cell? ⟨g7, 1, none⟩ = some (.int .i64 y)) w7 := ⟨(HK7.out.cell (p := ⟨pm, 3, none⟩) HZ6.out.1 (fun e => HMa.out.apart.1 e)).trans hS6.1, (HK7.out.cell (p := ⟨g7, 0, none⟩) HZ6.out.2 (fun e => HB7.out e.symm)).trans hS6.2.1, (HK7.out.cell (p := ⟨g7, 1, none⟩) HZ6.out.2 (fun e => HB7.out e.symm)).trans hS6.2.2⟩
              refine hK.out _ _ hS7 (fun hH17 => ?_)
              clear hK K hr7 hS6
              try simp only [Act.put, List.setIfInBounds_toArray, List.set_cons_zero, List.set_cons_succ]
              refine takeC (i := 18) (v := .int .i64 (st : Int)) (some 74) rfl rfl (by kernel_rfl) (by kernel_rfl) (by kernel_rfl) (fun _ _ _ h => h) (Or.inl ⟨by rfl, ?_⟩) (by assumption) ?_
              · intro wz hSw; go_simp
              try simp only [Act.put, List.setIfInBounds_toArray, List.set_cons_zero, List.set_cons_succ]
              obtain ⟨w8, hrun8, hm8, hk8⟩ := HE7.out.store (by have h1 := HMa.out.cap; have h2 := HMa.out.slk; have h3 := HRM.out; unfold maxLen; omega) HIN.out (v := ni) (i64w (by omega) (by omega))
              have hr8 : (Instr.entryStore 109 (.map (some bf)) (.int .i64 (st : Int)) (.int .i64 ni)).run Tryz.prog w7 = .ok () w8 := hrun8
              have HM8 := Lib.hid hm8
              have HK8 := Lib.hid hk8
              clear hrun8 hm8 hk8
              refine wpAnyH_ready (rs := [19]) (by kernel_rfl) (by simp) ?_
              refine AllReadyH.cons rfl (fun K hK => ?_) AllReadyH.nil
              go_simp
              have hz7 := HK7.out.size
              have hS8 : (fun X : World => X.cell? ⟨pm, 3, none⟩ = some (.map (some bf)) ∧ X.cell? ⟨g7, 0, none⟩ = some (.int .i64 x) ∧ X.cell? ⟨g7, 1, none⟩ = some (.int .i64 y)) w8 := ⟨(HK8.out.cell (p := ⟨pm, 3, none⟩) (by have := HZ6.out.1; show pm < _; omega) (fun e => HMa.out.apart.1 e)).trans hS7.1, (HK8.out.cell (p := ⟨g7, 0, none⟩) (by have := HZ6.out.2; show g7 < _; omega) (fun e => HB7.out e.symm)).trans hS7.2.1, (HK8.out.cell (p := ⟨g7, 1, none⟩) (by have := HZ6.out.2; show g7 < _; omega) (fun e => HB7.out e.symm)).trans hS7.2.2⟩
              refine hK.out _ _ hS8 (fun hH19 => ?_)
              clear hK K hr8 hS7 hS8 hz7 hH12 hH16 hH17 hH19
              try simp only [Act.put, List.setIfInBounds_toArray, List.set_cons_zero, List.set_cons_succ]
              refine wpAnyH_done (by kernel_rfl) ?_ _
              have hfin := HMa.out.push (Nat.le_trans hB HBa.out.size) HG.out HRW.out (by rw [HWW6.out]; exact HK7.out.trans HK8.out) (by rw [HNN.out, HNI.out]; exact HM8.out) HM.out HIN.out (by have h := HMD.out.ok; rw [HE1.out] at h; exact h)
              have HFIN := Lib.hid hfin
              clear hfin
              go_wp2
              go_ret
              exact ⟨by rw [HE1.out]; rfl, ⟨_, _, by rw [HE1.out]; exact HFIN.out.1⟩, (KpM.of_below HBa.out hB).trans HFIN.out.2⟩
            · go_simp
              refine hK.out _ _ hSa (fun hH => ?_)
              clear hK K hH
              try simp only [Act.put, List.setIfInBounds_toArray, List.set_cons_zero, List.set_cons_succ]
              refine wpAnyH_ready (rs := [9]) (by kernel_rfl) (by simp) ?_
              refine AllReadyH.cons rfl (fun K hK => ?_) AllReadyH.nil
              go_simp
              refine hK.out _ _ hSa (fun hH => ?_)
              clear hK K hH
              try simp only [Act.put, List.setIfInBounds_toArray, List.set_cons_zero, List.set_cons_succ]
              clear hSd hWA c2 c2a
              generalize (w4.alloc (.cells #[.int .i64 x, .int .i64 y] 115)).drew = wa at *
              generalize w4.heap.size = g11 at *
              refine wpAnyH_ready (rs := [12]) (by kernel_rfl) (by simp) ?_
              refine AllReadyH.cons rfl (fun K hK => ?_) AllReadyH.nil
              refine step_appPr rfl (.tmp 66) (.tmp 68) rfl B va s.1 (x, y) g11 rfl rfl HMa.out.row HGA.out.1 HGA.out.2 (by have := HRM.out; omega) (Nat.le_trans hB HBa.out.size) ?_
              intro va' w5 hrow hg
              have HRW := Lib.hid hrow
              have HG := Lib.hid hg
              obtain ⟨xa, xl, xc, rfl⟩ : ∃ xa xl xc, va' = .slice xa xl xc := by obtain ⟨q1, q2, e⟩ := hrow.shape; exact ⟨_, _, _, e⟩
              have hS5 : (fun X : World => X.cell? ⟨pm, 3, none⟩ = some (.map (some bf)) ∧ X.cell? ⟨g7, 0, none⟩ = some (.int .i64 x) ∧ X.cell? ⟨g7, 1, none⟩ = some (.int .i64 y)) w5 := ⟨(World.cell?_of_block (hg.block pm HMa.out.lt (fun e => (HMa.out.apart.2 pm e.symm).1 rfl))).trans hSa.1, (World.cell?_of_block (hg.block g7 HL7.out (fun e => HN7.out g7 e.symm rfl))).trans hSa.2.1, (World.cell?_of_block (hg.block g7 HL7.out (fun e => HN7.out g7 e.symm rfl))).trans hSa.2.2⟩
              refine hK.out _ _ hS5 (fun hH12 => ?_)
              clear hK K hrow hg hSa
              try simp only [Act.put, List.setIfInBounds_toArray, List.set_cons_zero, List.set_cons_succ]
              refine takeC (i := 14) (v := .pointer (some ⟨pm, 0, none⟩)) (some 71) rfl rfl (by kernel_rfl) (by kernel_rfl) (by kernel_rfl) (fun _ _ _ h => h) (Or.inl ⟨by rfl, ?_⟩) (by assumption) ?_
              · intro wz hSw; go_simp
              try simp only [Act.put, List.setIfInBounds_toArray, List.set_cons_zero, List.set_cons_succ]
              refine takeC (i := 15) (v := .pointer (some ⟨pm, 2, none⟩)) (some 72) rfl rfl (by kernel_rfl) (by kernel_rfl) (by kernel_rfl) (fun _ _ _ h => h) (Or.inl ⟨by rfl, ?_⟩) (by assumption) ?_
              · intro wz hSw; go_simp
              try simp only [Act.put, List.setIfInBounds_toArray, List.set_cons_zero, List.set_cons_succ]
              have hb5 := HMa.out.boxAt HG.out
              have c25 : w5.cell? ⟨pm, 2, none⟩ = some va := by simp [World.cell?, hb5]
              have f25 : w5.frozen? ⟨pm, 2, none⟩ = false := by simp [World.frozen?, hb5]
              refine wpAnyH_ready (rs := [16]) (by kernel_rfl) (by simp) ?_
              refine AllReadyH.cons rfl (fun K hK => ?_) AllReadyH.nil
              go_simp
              have hS6 : (fun X : World => X.cell? ⟨pm, 3, none⟩ = some (.map (some bf)) ∧ X.cell? ⟨g7, 0, none⟩ = some (.int .i64 x) ∧ X.cell? ⟨g7, 1, none⟩ = some (.int .i64 y)) (w5.setCell ⟨pm, 2, none⟩ (.slice xa xl xc)) := by
                refine ⟨(World.cell?_setCell_other w5 _ _ _ (fun e => by injection e with _ e2; cases e2)).trans hS5.1, (World.cell?_setCell_other w5 _ _ _ (fun e => by injection e with e1; exact HP7.out e1.symm)).trans hS5.2.1, (World.cell?_setCell_other w5 _ _ _ (fun e => by injection e with e1; exact HP7.out e1.symm)).trans hS5.2.2⟩
              refine hK.out _ _ hS6 (fun hH16 => ?_)
              clear hK K hb5 c25 f25 hS5
              try simp only [Act.put, List.setIfInBounds_toArray, List.set_cons_zero, List.set_cons_succ]
              obtain ⟨w7, st, hrun7, hE7, hk7⟩ := (HMa.out.mapAt (va' := .slice xa xl xc) HG.out).entry rfl HIN.out HFE.out
              have hr7 : (Instr.mapEntry 109 (.map (some bf)) (.agg #[.int .i64 x, .int .i64 y])).run Tryz.prog (w5.setCell ⟨pm, 2, none⟩ (.slice xa xl xc)) = .ok (.tuple #[.int .i64 0, .int .i64 (st : Int)]) w7 := hrun7
              have HE7 := Lib.hid hE7
              have HK7 := Lib.hid hk7
              clear hrun7 hE7 hk7
              generalize HW6 : w5.setCell ⟨pm, 2, none⟩ (.slice xa xl xc) = w6 at *
              have hz6 : w5.heap.size ≤ w6.heap.size := by rw [← HW6]; simp [World.setCell]
              have hz5 := HG.out.size
              have HZ6 : Hid (pm < w6.heap.size ∧ g7 < w6.heap.size) := ⟨by have := HMa.out.lt; omega, by have := HL7.out; omega⟩
              have HWW6 := Lib.hid HW6
              clear HW6 hz6 hz5
              refine wpAnyH_ready (rs := [17]) (by kernel_rfl) (by simp) ?_
              refine AllReadyH.cons rfl (fun K hK => ?_) AllReadyH.nil
              go_simp
              have hS7 : (fun X : World => X.cell? ⟨pm, 3, none⟩ = some (.map (some bf)) ∧ X.cell? ⟨g7, 0, none⟩ = some (.int .i64 x) ∧ X.cell? ⟨g7, 1, none⟩ = some (.int .i64 y)) w7 := ⟨(HK7.out.cell (p := ⟨pm, 3, none⟩) HZ6.out.1 (fun e => HMa.out.apart.1 e)).trans hS6.1, (HK7.out.cell (p := ⟨g7, 0, none⟩) HZ6.out.2 (fun e => HB7.out e.symm)).trans hS6.2.1, (HK7.out.cell (p := ⟨g7, 1, none⟩) HZ6.out.2 (fun e => HB7.out e.symm)).trans hS6.2.2⟩
              refine hK.out _ _ hS7 (fun hH17 => ?_)
              clear hK K hr7 hS6
              try simp only [Act.put, List.setIfInBounds_toArray, List.set_cons_zero, List.set_cons_succ]
              refine takeC (i := 18) (v := .int .i64 (st : Int)) (some 74) rfl rfl (by kernel_rfl) (by kernel_rfl) (by kernel_rfl) (fun _ _ _ h => h) (Or.inl ⟨by rfl, ?_⟩) (by assumption) ?_
              · intro wz hSw; go_simp
              try simp only [Act.put, List.setIfInBounds_toArray, List.set_cons_zero, List.set_cons_succ]
              obtain ⟨w8, hrun8, hm8, hk8⟩ := HE7.out.store (by have h1 := HMa.out.cap; have h2 := HMa.out.slk; have h3 := HRM.out; unfold maxLen; omega) HIN.out (v := ni) (i64w (by omega) (by omega))
              have hr8 : (Instr.entryStore 109 (.map (some bf)) (.int .i64 (st : Int)) (.int .i64 ni)).run Tryz.prog w7 = .ok () w8 := hrun8
              have HM8 := Lib.hid hm8
              have HK8 := Lib.hid hk8
              clear hrun8 hm8 hk8
              refine wpAnyH_ready (rs := [19]) (by kernel_rfl) (by simp) ?_
              refine AllReadyH.cons rfl (fun K hK => ?_) AllReadyH.nil
              go_simp
              have hz7 := HK7.out.size
              have hS8 : (fun X : World => X.cell? ⟨pm, 3, none⟩ = some (.map (some bf)) ∧ X.cell? ⟨g7, 0, none⟩ = some (.int .i64 x) ∧ X.cell? ⟨g7, 1, none⟩ = some (.int .i64 y)) w8 := ⟨(HK8.out.cell (p := ⟨pm, 3, none⟩) (by have := HZ6.out.1; show pm < _; omega) (fun e => HMa.out.apart.1 e)).trans hS7.1, (HK8.out.cell (p := ⟨g7, 0, none⟩) (by have := HZ6.out.2; show g7 < _; omega) (fun e => HB7.out e.symm)).trans hS7.2.1, (HK8.out.cell (p := ⟨g7, 1, none⟩) (by have := HZ6.out.2; show g7 < _; omega) (fun e => HB7.out e.symm)).trans hS7.2.2⟩
              refine hK.out _ _ hS8 (fun hH19 => ?_)
              clear hK K hr8 hS7 hS8 hz7 hH12 hH16 hH17 hH19
              try simp only [Act.put, List.setIfInBounds_toArray, List.set_cons_zero, List.set_cons_succ]
              refine wpAnyH_done (by kernel_rfl) ?_ _
              have hfin := HMa.out.push (Nat.le_trans hB HBa.out.size) HG.out HRW.out (by rw [HWW6.out]; exact HK7.out.trans HK8.out) (by rw [HNN.out, HNI.out]; exact HM8.out) HM.out HIN.out (by have h := HMD.out.ok; rw [HE1.out] at h; exact h)
              have HFIN := Lib.hid hfin
              clear hfin
              go_wp2
              go_ret
              exact ⟨by rw [HE1.out]; rfl, ⟨_, _, by rw [HE1.out]; exact HFIN.out.1⟩, (KpM.of_below HBa.out hB).trans HFIN.out.2⟩
end Go.Proofs.YtppglbffmgnooaaGreat
