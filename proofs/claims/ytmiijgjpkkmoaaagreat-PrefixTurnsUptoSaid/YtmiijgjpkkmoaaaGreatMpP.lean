/- Joined texts: PxRowE, PxDqS, PxDqA. -/
import Derived.Test.YtmiijgjpkkmoaaaGreatMpJ
import Derived.Test.YtmiijgjpkkmoaaaGreatPxRowB
import Derived.Test.YtmiijgjpkkmoaaaGreatShelf
import Derived.Test.YtmiijgjpkkmoaaaGreatMpO
import Derived.Shelf.SlSortCmp.WholeK
import Derived.Shelf.SlSortCmp.NoneTotal
import Derived.Test.YtmiijgjpkkmoaaaGreatPxLin0
/- Rows of a Dqbf that the call makes; a box of the call's. -/
namespace Go.Proofs.YtmiijgjpkkmoaaaGreat
open Go.RowKit Go.Sort Go.Shelf Go.Lib
set_option linter.unusedVariables false
set_option linter.unusedSimpArgs false

structure RowE (w0 w : World) (v : Value) (s : List DepV) : Prop where
  below : Below w0.heap.size w0 w
  row : w.ownsRow w0.heap.size 51 2 v s.length (cellsD s)
  elems : ∀ x ∈ s, Own w w0.heap.size (.slice x.a x.l.length x.c) x.l
theorem RowE.nil {w0 w : World} (hb : Below w0.heap.size w0 w) : RowE w0 w (.slice none 0 0) [] := ⟨hb, World.ownsRow_nil _ _ _ _, by simp⟩
theorem rowE_ne {w : World} {B B' n : Nat} {v u : Value} {xs : List Value} {l : List Int} (h : w.ownsRow B 51 2 v n xs) (k : Own w B' u l) : ∀ g, u.ownBlock = some g → v.ownBlock ≠ some g := by
  intro g hg hv
  rcases h.2 with ⟨rfl, _⟩ | ⟨g1, cap, cur, rfl, _, hg1, _⟩
  · cases hv
  · rcases k.2 with ⟨rfl, _⟩ | ⟨g2, cap2, cur2, rfl, _, hg2, _⟩
    · cases hg
    · have e1 : g1 = g := by simpa [Value.ownBlock] using hv
      have e2 : g2 = g := by simpa [Value.ownBlock] using hg
      subst e1; subst e2
      rw [hg1] at hg2
      simp only [Option.some.injEq, Obj.cells.injEq] at hg2
      exact absurd hg2.2.1 (by decide)
theorem RowE.below' {w0 w w' : World} {C : Nat} {v : Value} {s : List DepV} (h : RowE w0 w v s) (hb : Below C w w') (hC : w.heap.size ≤ C) : RowE w0 w' v s := by
  refine ⟨h.below.trans (hb.mono (Nat.le_trans h.below.size hC)), ⟨h.row.1, ?_⟩, fun x hx => (h.elems x hx).below hb hC⟩
  rcases h.row.2 with hn | ⟨g, cap, cur, hv, hB, hg, rest⟩
  · exact .inl hn
  · have hlt : g < w.heap.size := (Array.getElem?_eq_some_iff.1 hg).1
    exact .inr ⟨g, cap, cur, hv, hB, by rw [hb.block g (by omega)]; exact hg, rest⟩
theorem RowE.shape {w0 w : World} {v : Value} {s : List DepV} (h : RowE w0 w v s) : ∃ a cap, v = .slice a s.length cap := by
  rcases h.row.2 with ⟨rfl, h2⟩ | ⟨g, cap, cur, rfl, _⟩
  · exact ⟨none, 0, by rw [h2]⟩
  · exact ⟨_, _, rfl⟩
theorem cellsD_app (s t : List DepV) : cellsD (s ++ t) = cellsD s ++ cellsD t := by unfold cellsD; simp
/-- One row more behind. -/
theorem RowE.more {w0 w w1 w2 : World} {v v' : Value} {s : List DepV} {x : DepV} (h : RowE w0 w v s) (hb : Below w.heap.size w w1) (hx : Own w1 w0.heap.size (.slice x.a x.l.length x.c) x.l)
    (hrow : w2.ownsRow w0.heap.size 51 2 v' (s ++ [x]).length (cellsD (s ++ [x]))) (hg : w1.grownBy w2 v.ownBlock) : RowE w0 w2 v' (s ++ [x]) := by
  have h1 := h.below' hb (Nat.le_refl _)
  refine ⟨h1.below.grown hg h1.below.size (fun g hg' => (rowB_lt h1.row g hg').1), hrow, fun y hy => ?_⟩
  have key : Own w1 w0.heap.size (.slice y.a y.l.length y.c) y.l := by
    rcases List.mem_append.1 hy with hy | hy
    · exact h1.elems y hy
    · rw [List.mem_singleton] at hy
      subst hy
      exact hx
  refine key.kept hg ?_
  cases hk : (Value.slice y.a y.l.length y.c).ownBlock with
  | none => exact .inl rfl
  | some g => exact .inr (fun e => rowE_ne h1.row key g hk e.symm)
theorem RowE.deps {w0 w : World} {v : Value} {s : List DepV} (h : RowE w0 w v s) (hl : s.length ≤ 1000000) (hx : ∀ x ∈ s, x.l.length ≤ 1000000 ∧ In64 x.l) : IsDeps w v (s.map fun x => (x.v, x.l)) := by
  have hgd : ∀ j, j < s.length → (s.map fun x => (x.v, x.l)).getD j dD = ((s.getD j default).v, (s.getD j default).l) := fun j hj => by simp [List.getD, hj]
  have hmem : ∀ j, j < s.length → s.getD j default ∈ s := fun j hj => by simp [List.getD, hj]
  have hml : (s.map fun x => (x.v, x.l)).length = s.length := by simp
  rcases h.row.2 with ⟨rfl, h2⟩ | ⟨g, cap, cur, rfl, hB, hg, hnc, hcm, hcs, htk⟩
  · have : s = [] := List.eq_nil_of_length_eq_zero h2
    subst this
    exact IsTwo.nil _
  · have hlt : g < w.heap.size := (Array.getElem?_eq_some_iff.1 hg).1
    unfold maxLen at hcm
    refine ⟨_, cap, by rw [hml], ⟨by rw [hml]; exact hnc, fun h => by cases h⟩, hcm, by rw [hml]; omega, g, 0, fun _ => ⟨rfl, hlt⟩, fun j hj => ?_⟩
    rw [hml] at hj
    have at' : ∀ i, i < s.length * 2 → w.cell? ⟨g, i, none⟩ = (cellsD s)[i]? := fun i hi => by
      simp only [World.cell?, hg]
      rw [← htk, List.getElem?_take, if_pos hi]
      simp
    have e1 := cellsD_at s (j * 2) (by omega)
    have e2 := cellsD_at s (j * 2 + 1) (by omega)
    rw [show j * 2 / 2 = j by omega, show j * 2 % 2 = 0 by omega] at e1
    rw [show (j * 2 + 1) / 2 = j by omega, show (j * 2 + 1) % 2 = 1 by omega] at e2
    have e3 := hgd j hj
    simp only [Nat.zero_add]
    rw [at' _ (by omega), at' _ (by omega)]
    refine ⟨by rw [e1]; exact congrArg some (congrArg (Value.int .i64) (congrArg Prod.fst e3).symm), _, e2, ?_⟩
    have e4 : ((s.map fun x => (x.v, x.l)).getD j (0, [])).2 = (s.getD j default).l := congrArg Prod.snd e3
    rw [e4]
    exact (h.elems _ (hmem j hj)).ints (by have := (hx _ (hmem j hj)).1; omega) (hx _ (hmem j hj)).2

theorem step_appD {ops : Array Oper} {o : Oper} {a : Act} {w : World} {K : Act → World → Prop} {Q : Exit → Act → World → Prop} {E : Prop} (d : Option Tmp) (hd : o.dst = d) (hgd : o.guard = none) (sp x : Operand)
    (ho : o.op = .call { callee := .builtin .append, args := #[sp, x], argTypes := #[27, 27] }) (B : Nat) (v : Value) (t : List DepV) (y : DepV) (g cap : Nat)
    (hs : a.eval sp = v) (hx : a.eval x = .slice (some ⟨g, 0, none⟩) 1 cap) (hrow : w.ownsRow B 51 2 v t.length (cellsD t)) (hc : ∀ j u, (cellsD [y])[j]? = some u → w.cell? (Addr.add ⟨g, 0, none⟩ j) = some u) (hlen : t.length + 1 ≤ 1000000) (hB : B ≤ w.heap.size)
    (h : ∀ v' w', w'.ownsRow B 51 2 v' (t ++ [y]).length (cellsD (t ++ [y])) → w.grownBy w' v.ownBlock → K (a.put d v') w') :
    if Region.wanted o (yielded ops a.tmps) = true then Oper.wp Tryz.prog o a w K Q else E := by
  subst hd
  have hw : Region.wanted o (yielded ops a.tmps) = true := by simp [Region.wanted, hgd]
  rw [if_pos hw]
  obtain ⟨i0, hi, hz0, hz1, hz2⟩ := info_parts info_dep
  obtain ⟨v', w', hr, h2, h3, h4, h5⟩ := run_append_own_at (P := Tryz.prog) w B 27 o.type 51 i0 (.agg #[.int .i64 0, .slice none 0 0]) 2 32 Tryz.underlying27 hi hz0 hz1 hz2 rfl (by decide) v t.length _ hrow ⟨g, 0, none⟩ 1 cap (cellsD [y]) (cellsD_len [y]) hc (cellsD_one [y]) (by unfold maxLen; omega) (by omega) hB
  unfold Oper.wp execOp
  simp only [ho, resolve, invoke, builtin, Sem.run_bind, Sem.run_pure, Result.andThen_ok, List.map_toArray, List.map_cons, List.map_nil, hs, hx, hr]
  refine h v' w' ?_ h3
  rw [List.length_append, cellsD_app]
  exact h2

/-- A box of the call's. -/
def SBox (W : World) (b : Nat) (cs : Array Value) (T : TypeId) (X : World) : Prop := Below W.heap.size W X ∧ W.heap.size ≤ b ∧ X.heap[b]? = some (.cells cs T (0, 0))
theorem SBox.lt {W : World} {b : Nat} {cs : Array Value} {T : TypeId} {X : World} (h : SBox W b cs T X) : b < X.heap.size := (Array.getElem?_eq_some_iff.1 h.2.2).1
theorem SBox.cell {W : World} {b : Nat} {cs : Array Value} {T : TypeId} {X : World} (h : SBox W b cs T X) {i : Nat} {v : Value} (hv : cs[i]? = some v) : X.cell? ⟨b, i, none⟩ = some v := by simp [World.cell?, h.2.2, hv]
theorem SBox.free {W : World} {b : Nat} {cs : Array Value} {T : TypeId} {X : World} (h : SBox W b cs T X) (i : Nat) : X.frozen? ⟨b, i, none⟩ = false := by simp [World.frozen?, h.2.2]
theorem SBox.below {W : World} {b : Nat} {cs : Array Value} {T : TypeId} {X Y : World} (h : SBox W b cs T X) (hb : Below X.heap.size X Y) : SBox W b cs T Y := ⟨h.1.trans (hb.mono h.1.size), h.2.1, (hb.block _ h.lt).trans h.2.2⟩
theorem SBox.alloc {W : World} {b : Nat} {cs : Array Value} {T : TypeId} {X : World} (h : SBox W b cs T X) (o : Obj) : SBox W b cs T (X.alloc o) := h.below ((Below.refl _ _).alloc (Nat.le_refl _) o)
theorem SBox.grown {W : World} {b : Nat} {cs : Array Value} {T : TypeId} {X Y : World} {g : Option Nat} (h : SBox W b cs T X) (hg : X.grownBy Y g) (hgB : ∀ k, g = some k → W.heap.size ≤ k) (hne : g ≠ some b) : SBox W b cs T Y :=
  ⟨h.1.grown hg h.1.size hgB, h.2.1, (hg.block _ h.lt (fun e => hne e.symm)).trans h.2.2⟩
end Go.Proofs.YtmiijgjpkkmoaaaGreat

/- slices.SortFunc at rows of a Dqbf, by their variables. -/
namespace Go.Proofs.YtmiijgjpkkmoaaaGreat
open Go.RowKit Go.Shelf Go.Lib Go.Sort
set_option linter.unusedVariables false
set_option linter.unusedSimpArgs false

def cfV (x y : DepV) : Int := cmpN x.v y.v
theorem dqbf1_any (x y : DepV) (W : World) : Calls Tryz.prog 33 #[.agg #[.int .i64 x.v, .slice x.a x.l.length x.c], .agg #[.int .i64 y.v, .slice y.a y.l.length y.c]] W fun e w' => e = .returned (.int .i64 (cfV x y)) ∧ ∃ q os', w' = grow (W.drewN q) os' := by
  have hcon := fun W' => compare_int x.v y.v W'
  unfold cfV
  generalize cmpN x.v y.v = r at hcon ⊢
  go_enter Tryz.func33, Tryz.ntmps33
  go_wp2_with (go_at_call 34; refine (hcon _).mono ?_; rintro e w' ⟨rfl, rfl⟩)
  go_ret
  exact ⟨rfl, 0, _, by rw [alloc_eq_grow, alloc_eq_grow, grow_grow]; rfl⟩
theorem cmpLaysV (blk off size : Nat) (w : World) : CmpLays Tryz.prog 33 #[] encD 2 cfV blk off size w := by
  intro m os dk hs x y
  exact dqbf1_any x y _
theorem ltV_iff (x y : DepV) : ltOf cfV x y = true ↔ x.v < y.v := by
  show decide (cmpN x.v y.v < 0) = true ↔ _
  unfold cmpN
  by_cases h1 : x.v < y.v
  · rw [if_pos h1]; simp [h1]
  · rw [if_neg h1]
    split <;> simp [h1]
theorem ltV_no (x y : DepV) : ltOf cfV x y = false ↔ y.v ≤ x.v := by
  rw [← Bool.not_eq_true, ltV_iff]
  omega
theorem swoV : SWO (ltOf cfV) := ⟨fun x => (ltV_no x x).2 (Int.le_refl _), fun x y z h k => (ltV_iff x z).2 (Int.lt_trans ((ltV_iff x y).1 h) ((ltV_iff y z).1 k)), fun x y z h k => (ltV_no x z).2 (Int.le_trans ((ltV_no y z).1 k) ((ltV_no x y).1 h))⟩
theorem kept_sortK {g m : Nat} {w : World} {d : Array DepV} {os : Array Obj} : Kept (fun k => k = g) w (sortWorldK encD 2 w g 0 m d os) := by
  have h1 : Below 0 w (putRow id (Sort.ahead w m) g 0 (flatK encD 2 d)) := below_putRow (Below.refl _ _) (Nat.zero_le _)
  refine ⟨rfl, rfl, rfl, ?_, fun k hk hS => ?_⟩
  · have := h1.size
    show w.heap.size ≤ ((putRow id (Sort.ahead w m) g 0 (flatK encD 2 d)).heap ++ os).size
    rw [Array.size_append]
    omega
  · show ((putRow id (Sort.ahead w m) g 0 (flatK encD 2 d)).heap ++ os)[k]? = _
    rw [Array.getElem?_append_left (by have := h1.size; omega)]
    simp [putRow, mapBlock, Sort.ahead, Array.getElem?_modify, show g ≠ k from fun e => hS e.symm]
set_option maxRecDepth 100000 in
theorem sortvar_any (g cap : Nat) (s : List DepV) (w : World) (hH : HoldsK encD 2 w g 0 s.toArray) (hg : g < w.heap.size) (hn : s.length ≤ 1000000) :
    Calls Tryz.prog 32 #[.slice (some ⟨g, 0, none⟩) s.length cap, .func (.func 33) #[] #[]] w fun e w' =>
      e = .returned (.tuple #[]) ∧ ∃ t : List DepV, t.Perm s ∧ t.Pairwise (fun x y => x.v ≤ y.v) ∧ HoldsK encD 2 w' g 0 t.toArray ∧ Kept (fun k => k = g) w w' := by
  have h := AnyQ.slices_SortFunc Tryz.depSort 2 (fun w => rfl) (fun w => rfl) encD (fun x => rfl) (fun x v hv => by
    simp only [encD, List.mem_cons, List.not_mem_nil, or_false] at hv
    rcases hv with rfl | rfl <;> rfl) cfV swoV 33 #[] g 0 cap s.toArray w (fun args w => rfl) (cmpLaysV g 0 _ w) hH hg (by simp; omega)
  simp only [List.size_toArray] at h
  refine h.mono ?_
  rintro e w' ⟨rfl, d', n, os, hP, hS, rfl⟩
  have hsz : d'.size = s.length := by have := hP.1; simpa using this
  refine ⟨rfl, d'.toList, by simpa using perm_whole (d0 := s.toArray) (by simpa using hP), ?_, ?_, kept_sortK⟩
  · rw [List.pairwise_iff_getElem]
    intro i j hi hj hij
    have hj2 : j < d'.size := by simpa using hj
    have := hS i j (Nat.zero_le _) hij (by omega)
    rw [ltV_no, getElem!_pos d' i (by omega), getElem!_pos d' j hj2] at this
    simpa using this
  · rw [Array.toArray_toList]
    exact holdsK_sortWorldK_c encD 2 w g 0 s.toArray _ n os hH hg (by simpa using hP.1)
theorem sortvar_none (p : Option Addr) (cap : Nat) (w : World) :
    Calls Tryz.prog 32 #[.slice p 0 cap, .func (.func 33) #[] #[]] w fun e w' => e = .returned (.tuple #[]) ∧ w' = w :=
  AnyF.slices_SortFunc_none Tryz.depSort p cap _ w
theorem byVar_uniq {E F : List (Int × List Int)} (hE : (exOf E).Nodup) (hp : F.Perm E) (hF : F.Pairwise (fun x y => x.1 ≤ y.1)) : F = byVar E := by
  refine List.Perm.eq_of_pairwise (le := fun x y => x.1 ≤ y.1) (fun a b ha hb h1 h2 => ?_) hF (byVar_le E) (hp.trans (byVar_perm E).symm)
  have ha' : a ∈ E := hp.mem_iff.1 ha
  have hb' : b ∈ E := (byVar_perm E).mem_iff.1 hb
  have e : a.1 = b.1 := Int.le_antisymm h1 h2
  clear hp hF ha hb h1 h2
  unfold exOf at hE
  induction E with
  | nil => cases ha'
  | cons x r ih =>
    rw [List.map_cons, List.nodup_cons] at hE
    rcases List.mem_cons.1 ha' with rfl | ha2
    · rcases List.mem_cons.1 hb' with rfl | hb2
      · rfl
      · exact absurd (List.mem_map.2 ⟨b, hb2, e.symm⟩) hE.1
    · rcases List.mem_cons.1 hb' with rfl | hb2
      · exact absurd (List.mem_map.2 ⟨a, ha2, e⟩) hE.1
      · exact ih hE.2 ha2 hb2
theorem deps_of_holds {w : World} {g cap : Nat} {s : List DepV} (h : HoldsK encD 2 w g 0 s.toArray) (hg : g < w.heap.size) (hc : s.length ≤ cap) (hcm : cap ≤ maxLen) (hl : s.length ≤ 1000000) (hx : ∀ x ∈ s, IsInts w (.slice x.a x.l.length x.c) x.l) : IsDeps w (.slice (some ⟨g, 0, none⟩) s.length cap) (s.map depE) := by
  have hml : (s.map depE).length = s.length := by simp
  unfold maxLen at hcm
  refine ⟨_, cap, by rw [hml], ⟨by rw [hml]; exact hc, fun h => by cases h⟩, hcm, by rw [hml]; omega, g, 0, fun _ => ⟨rfl, hg⟩, fun j hj => ?_⟩
  rw [hml] at hj
  obtain ⟨e1, e2⟩ := holdsD_at h hj
  have e3 : (s.map depE).getD j dD = ((s.getD j default).v, (s.getD j default).l) := by simp [List.getD, hj]
  simp only [Nat.zero_add]
  refine ⟨by rw [e1]; exact congrArg some (congrArg (Value.int .i64) (congrArg Prod.fst e3).symm), _, e2, ?_⟩
  have e4 : ((s.map depE).getD j (0, [])).2 = (s.getD j default).l := congrArg Prod.snd e3
  rw [e4]
  exact hx _ (by simp [List.getD, hj])
end Go.Proofs.YtmiijgjpkkmoaaaGreat

/- Helpers of prefix.Dqbf. -/
namespace Go.Proofs.YtmiijgjpkkmoaaaGreat
open Go.RowKit Go.Shelf Go.Lib Go.Sort
set_option linter.unusedVariables false
set_option linter.unusedSimpArgs false

theorem wpList_appO {w : World} {ops : Array Oper} {rest : List Oper} {o : Oper} {a : Act} {Q : Exit → Act → World → Prop} (hgd : o.guard = none) (s x : Operand)
    (ho : o.op = .call { callee := .builtin .append, args := #[s, x], argTypes := #[26, 26] }) (B : Nat) (v u : Value) (xs ys : List Int)
    (hs : a.eval s = v) (hx : a.eval x = u) (hown : Own w B v xs) (hu : IsInts w u ys) (hne : ys ≠ []) (hlen : xs.length + ys.length ≤ 17592186044416) (hB : B ≤ w.heap.size)
    (h : ∀ v' w', Own w' B v' (xs ++ ys) → w.grownBy w' v.ownBlock → (v'.ownBlock = v.ownBlock ∨ v'.ownBlock = some w.heap.size) → wpList Tryz.prog ops Q rest (a.put o.dst v') w') : wpList Tryz.prog ops Q (o :: rest) a w := by
  obtain ⟨i0, hi, hz0, hz1, hz2⟩ := info_parts info_int
  obtain ⟨ad, cap, rfl, hcap, _, _, h64, b, off, ha, hc⟩ := hu
  obtain ⟨rfl, hb⟩ := ha hne
  have hrow : w.ownsRow B 3 1 v xs.length (xs.map (Value.int .i64)) := hown
  obtain ⟨v', w', hr, h2, h3, h4, h5⟩ := run_append_own_at (P := Tryz.prog) w B 26 o.type 3 i0 (.int .i64 0) 1 8 Tryz.underlying26 hi hz0 hz1 hz2 rfl (by decide) v xs.length _ hrow ⟨b, off, none⟩ ys.length cap (ys.map (Value.int .i64)) (by simp) (fun j u hj => by
    rw [List.getElem?_map, Option.map_eq_some_iff] at hj
    obtain ⟨z, hz, rfl⟩ := hj
    obtain ⟨hj2, rfl⟩ := List.getElem?_eq_some_iff.1 hz
    rw [Addr.add_lit, hc j hj2]
    simp [List.getD, hj2]) (fun u hu => by
    obtain ⟨z, _, rfl⟩ := List.mem_map.1 hu
    rfl) (by unfold maxLen; omega) (by omega) hB
  refine wpList_plain hgd fun K hK => ?_
  unfold Oper.wp execOp
  simp only [ho, resolve, invoke, builtin, Sem.run_bind, Sem.run_pure, Result.andThen_ok, List.map_toArray, List.map_cons, List.map_nil, hs, hx, hr]
  refine hK _ _ (h v' w' ?_ h3 h5)
  have h6 := h2
  unfold Own
  rw [List.length_append, List.map_append]
  exact h6
theorem setCell_objE {w : World} {b o : Nat} {v : Value} {cs : Array Value} {T : TypeId} {fz : Nat × Nat} (h : w.heap[b]? = some (.cells cs T fz)) : (w.setCell ⟨b, o, none⟩ v).heap[b]? = some (.cells (cs.setIfInBounds o v) T fz) := by
  simp [World.setCell, Array.getElem?_modify, h]

/-- The state of Dqbf: the box of d, its universals, its rows. -/
structure DqSt (W : World) (bx : Nat) (vc : Value) (X : World) (vu ve : Value) (U : List Int) (s : List DepV) : Prop where
  box : SBox W bx #[vu, ve, vc] 29 X
  univ : Own X W.heap.size vu U
  rows : RowE W X ve s
  sep : ∀ x ∈ s, ∀ g, (Value.slice x.a x.l.length x.c).ownBlock = some g → vu.ownBlock ≠ some g
theorem own_type {w : World} {B b n k : Nat} {e : TypeId} {v : Value} {xs : List Value} {cs : Array Value} {T : TypeId} (h : w.ownsRow B e k v n xs) (hb : w.heap[b]? = some (.cells cs T (0, 0))) (hT : e ≠ T) : v.ownBlock ≠ some b := by
  intro hv
  rcases h.2 with ⟨rfl, _⟩ | ⟨g1, cap, cur, rfl, _, hg1, _⟩
  · cases hv
  · have e1 : g1 = b := by simpa [Value.ownBlock] using hv
    subst e1
    rw [hb] at hg1
    simp only [Option.some.injEq, Obj.cells.injEq] at hg1
    exact hT hg1.2.1.symm
theorem DqSt.nu {W : World} {bx : Nat} {vc : Value} {X : World} {vu ve : Value} {U : List Int} {s : List DepV} (h : DqSt W bx vc X vu ve U s) : vu.ownBlock ≠ some bx := own_type h.univ h.box.2.2 (by decide)
theorem DqSt.ne {W : World} {bx : Nat} {vc : Value} {X : World} {vu ve : Value} {U : List Int} {s : List DepV} (h : DqSt W bx vc X vu ve U s) : ve.ownBlock ≠ some bx := own_type h.rows.row h.box.2.2 (by decide)
theorem DqSt.el {W : World} {bx : Nat} {vc : Value} {X : World} {vu ve : Value} {U : List Int} {s : List DepV} (h : DqSt W bx vc X vu ve U s) {x : DepV} (hx : x ∈ s) : (Value.slice x.a x.l.length x.c).ownBlock ≠ some bx := own_type (h.rows.elems x hx) h.box.2.2 (by decide)
theorem DqSt.below {W : World} {bx : Nat} {vc : Value} {X Y : World} {vu ve : Value} {U : List Int} {s : List DepV} (h : DqSt W bx vc X vu ve U s) (hb : Below X.heap.size X Y) : DqSt W bx vc Y vu ve U s :=
  ⟨h.box.below hb, h.univ.below hb (Nat.le_refl _), h.rows.below' hb (Nat.le_refl _), h.sep⟩
theorem DqSt.start {W X : World} {vc : Value} (hb : Below W.heap.size W X) : DqSt W X.heap.size vc (X.alloc (.cells #[.slice none 0 0, .slice none 0 0, vc] 29)) (.slice none 0 0) (.slice none 0 0) [] [] :=
  ⟨⟨hb.alloc hb.size _, hb.size, World.alloc_heap_new X _⟩, Own.nil _ _, RowE.nil (hb.alloc hb.size _), by simp⟩
theorem rowE_keptS {W X Y : World} {S : Nat → Prop} {ve : Value} {s : List DepV} (h : RowE W X ve s) (k : Kept S X Y) (hB : ∀ i, i < W.heap.size → ¬ S i) (h1 : ∀ g, ve.ownBlock = some g → ¬ S g) (h2 : ∀ x ∈ s, ∀ g, (Value.slice x.a x.l.length x.c).ownBlock = some g → ¬ S g) : RowE W Y ve s :=
  ⟨h.below.trans (k.below h.below.size hB), k.row h.row h1, fun x hx => k.row (h.elems x hx) (h2 x hx)⟩
theorem SBox.keptS {W : World} {b : Nat} {cs : Array Value} {T : TypeId} {X Y : World} {S : Nat → Prop} (h : SBox W b cs T X) (k : Kept S X Y) (hB : ∀ i, i < W.heap.size → ¬ S i) (hb : ¬ S b) : SBox W b cs T Y :=
  ⟨h.1.trans (k.below h.1.size hB), h.2.1, (k.block _ h.lt hb).trans h.2.2⟩
/-- The universals change, and what lies in the box with them. -/
theorem DqSt.setU {W : World} {bx : Nat} {vc : Value} {X Y : World} {vu ve v' : Value} {U U' : List Int} {s : List DepV} (h : DqSt W bx vc X vu ve U s) (hY : Own Y W.heap.size v' U') (hg : Kept (fun k => vu.ownBlock = some k) X Y) (hv : v'.ownBlock = vu.ownBlock ∨ v'.ownBlock = some X.heap.size) :
    DqSt W bx vc (Y.setCell ⟨bx, 0, none⟩ v') v' ve U' s := by
  have hB : ∀ i, i < W.heap.size → ¬ (vu.ownBlock = some i) := fun i hi e => by
    have := (h.univ.lt i e).1
    omega
  have b1 := h.box.keptS hg hB h.nu
  have r1 : RowE W Y ve s := rowE_keptS h.rows hg hB (fun g hg2 e => rowE_ne h.rows.row h.univ g e hg2) (fun x hx g hg2 => h.sep x hx g hg2)
  have kS := Kept.setCell Y ⟨bx, 0, none⟩ v'
  refine ⟨⟨b1.1.trans (kS.below b1.1.size (fun i hi e => by simp only at e; have := b1.2.1; omega)), b1.2.1, setCell_objE b1.2.2⟩, kS.row hY (fun g hg2 e => own_type hY b1.2.2 (by decide) (by rw [hg2]; exact congrArg some e)), ?_, ?_⟩
  · exact rowE_keptS r1 kS (fun i hi e => by simp only at e; have := b1.2.1; omega) (fun g hg2 e => h.ne (by rw [hg2]; exact congrArg some e)) (fun x hx g hg2 e => h.el hx (by rw [hg2]; exact congrArg some e))
  · intro x hx g hg2 e
    rcases hv with hv | hv
    · exact h.sep x hx g hg2 (by rw [← hv]; exact e)
    · rw [hv] at e
      injection e with e
      have := ((h.rows.elems x hx).lt g hg2).2
      omega
theorem DqSt.appE {W : World} {bx : Nat} {vc : Value} {X X1 Y : World} {vu ve v' : Value} {U : List Int} {s : List DepV} {x : DepV} (h : DqSt W bx vc X vu ve U s) (hb : Below X.heap.size X X1) (hx : Own X1 X.heap.size (.slice x.a x.l.length x.c) x.l)
    (hrow : Y.ownsRow W.heap.size 51 2 v' (s ++ [x]).length (cellsD (s ++ [x]))) (hg : X1.grownBy Y ve.ownBlock) : DqSt W bx vc (Y.setCell ⟨bx, 1, none⟩ v') vu v' U (s ++ [x]) := by
  have h1 := h.below hb
  have hk := Kept.of_grown hg
  have hB : ∀ i, i < W.heap.size → ¬ (ve.ownBlock = some i) := fun i hi e => by
    have := (rowB_lt h.rows.row i e).1
    omega
  have b1 := h1.box.keptS hk hB h.ne
  have u1 : Own Y W.heap.size vu U := hk.row h1.univ (fun g hg2 e => rowE_ne h1.rows.row h1.univ g hg2 e)
  have r1 : RowE W Y v' (s ++ [x]) := RowE.more h.rows hb (hx.mono h.box.1.size) hrow hg
  have kS := Kept.setCell Y ⟨bx, 1, none⟩ v'
  refine ⟨⟨b1.1.trans (kS.below b1.1.size (fun i hi e => by simp only at e; have := b1.2.1; omega)), b1.2.1, setCell_objE b1.2.2⟩, kS.row u1 (fun g hg2 e => h.nu (by rw [hg2]; exact congrArg some e)), ?_, ?_⟩
  · exact rowE_keptS r1 kS (fun i hi e => by simp only at e; have := b1.2.1; omega) (fun g hg2 e => own_type r1.row b1.2.2 (by decide) (by rw [hg2]; exact congrArg some e)) (fun y hy g hg2 e => own_type (r1.elems y hy) b1.2.2 (by decide) (by rw [hg2]; exact congrArg some e))
  · intro y hy g hg2 e
    rcases List.mem_append.1 hy with hy | hy
    · exact h.sep y hy g hg2 e
    · rw [List.mem_singleton] at hy
      subst hy
      have k1 := (hx.lt g hg2).1
      have k2 := (h.univ.lt g e).2
      omega
theorem dqU_snoc (b : Blk) : ∀ (P : List Blk) (U : List Int), dqU U (P ++ [b]) = if b.1 = true then dqU U P else ascI (dqU U P ++ b.2)
  | [], U => by
    obtain ⟨e, vs⟩ := b
    cases e <;> simp [dqU]
  | (false, vs) :: P, U => dqU_snoc b P _
  | (true, vs) :: P, U => dqU_snoc b P U
theorem dqE_snoc (b : Blk) : ∀ (P : List Blk) (U : List Int), dqE U (P ++ [b]) = dqE U P ++ (if b.1 = true then b.2.map (fun v => (v, dqU U P)) else [])
  | [], U => by
    obtain ⟨e, vs⟩ := b
    cases e <;> simp [dqU, dqE]
  | (false, vs) :: P, U => dqE_snoc b P _
  | (true, vs) :: P, U => by
    show vs.map _ ++ dqE U (P ++ [b]) = (vs.map _ ++ dqE U P) ++ _
    rw [dqE_snoc b P U, List.append_assoc]
    rfl
end Go.Proofs.YtmiijgjpkkmoaaaGreat
