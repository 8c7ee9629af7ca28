/- Joined texts: PxClone, PxOn, PxJoinS, PxJoinT, PxJoinP, PxJoin, PxRowB, PxLess. -/
import Derived.Test.YtfghjfljomcldaaGreatPxSort
import Derived.Test.YtfghjfljomcldaaGreatK02
import Derived.Deep.RegionLaw
import Derived.Deep.AppendLies
/- slices.Clone of a list of integers (stage 3). -/
namespace Go.Proofs.YtfghjfljomcldaaGreat
open Go.RowKit
set_option linter.unusedVariables false

set_option maxHeartbeats 800000 in
set_option maxRecDepth 100000 in
theorem clone1_any (v : Value) (l : List Int) (w : World) (H : IsInts w v l) : Calls Tryz.prog 93 #[v] w (RetOwn w l) := by
  have hl := H.len
  have H1 := H.below ((Below.refl w.heap.size w).alloc (Nat.le_refl _) (.cells #[] 3)) (Nat.le_refl _)
  obtain ⟨a, cap, rfl⟩ := H.shape
  cases a with
  | none =>
    have hn : l = [] ∧ cap = 0 := by
      obtain ⟨a', cap', e, hcp, _, _, _, b, off, ha, _⟩ := H
      injection e with e1 _ e3
      subst e1; subst e3
      refine ⟨?_, hcp.2 rfl⟩
      by_cases e : l = []
      · exact e
      · have := (ha e).1; cases this
    obtain ⟨rfl, rfl⟩ := hn
    have he : ∀ w : World, (binOp .eql 22 (.slice none 0 0) (.slice none 0 0)).run Tryz.prog w = .ok (.bool true) w := fun _ => rfl
    go_enter Tryz.func93, Tryz.ntmps93
    go_wp2
    go_ret
    exact ⟨_, rfl, Own.nil _ _, Below.refl _ _⟩
  | some p =>
    have he : ∀ w : World, (binOp .eql 22 (.slice (some p) l.length cap) (.slice none 0 0)).run Tryz.prog w = .ok (.bool false) w := fun _ => rfl
    go_enter Tryz.func93, Tryz.ntmps93
    go_wp2_with (at_builtin; refine wpList_app rfl (.tmp 5) (.tmp 6) rfl w.heap.size _ _ [] l rfl rfl (Own.built3 (Nat.le_refl _)) H1 (by simp <;> omega) (by simp) ?_; intro v1 w1 hown1 hg1)
    go_ret
    exact ⟨_, rfl, hown1, below_app ((Below.refl _ _).alloc (Nat.le_refl _) _) (Own.built3 (Nat.le_refl _)) (by simp) hg1⟩

end Go.Proofs.YtfghjfljomcldaaGreat

/- prefix.On. -/
namespace Go.Proofs.YtfghjfljomcldaaGreat
open Go.RowKit
set_option linter.unusedVariables false
set_option linter.unusedSimpArgs false

/-- What stands in blocks of the other quantifier. -/
def otherL (e : Bool) (p : List Blk) : List Int := flatB (p.filter (fun b => b.1 != e))
theorem otherL_take {e : Bool} {p : List Blk} {k : Nat} (h : k < p.length) : otherL e (p.take (k + 1)) = otherL e (p.take k) ++ (if (p.getD k dB).1 != e then (p.getD k dB).2 else []) := by
  unfold otherL
  rw [take_two (d := dB) h, List.filter_append]
  unfold flatB
  generalize p.getD k dB = y
  cases hh : (y.1 != e) <;> simp [List.filter, hh]
theorem otherL_len (e : Bool) (q : List Blk) : (otherL e q).length ≤ (flatB q).length := by
  induction q with
  | nil => simp [otherL, flatB]
  | cons b r ih =>
    unfold otherL flatB at ih ⊢
    simp only [List.filter]
    split
    · simp at ih ⊢; omega
    · simp at ih ⊢; omega
theorem otherL_room {e : Bool} {p : List Blk} (hm : mayP p = true) {k : Nat} (h : k < p.length) : (otherL e (p.take k)).length + (p.getD k dB).2.length ≤ 1024 := by
  unfold mayP at hm
  rw [decide_eq_true_eq] at hm
  have h1 := hm.2.2.2
  have h2 := (flat_prefix (d := dB) h (p.getD k dB).2.length).length_le
  have h3 := otherL_len e (p.take k)
  rw [List.take_length, List.length_append] at h2
  omega
/-- The answer of On. -/
def onL (p : List Blk) (v : Int) : List Int × Int :=
  if mayP p = true then (if (findL p v).2.2 = true then (ascI (otherL (findL p v).2.1 (p.take (findL p v).1)), 0) else ([], 6)) else ([], 2)
theorem findL_le (p : List Blk) (v : Int) : (findL p v).1 ≤ p.length := by
  unfold findL
  split
  · rename_i x hx
    exact Nat.le_of_lt (pairsUp_lt (List.mem_of_find?_eq_some hx)).1
  · exact Nat.zero_le _
def RetPairI (w : World) (xs : List Int × Int) (e : Ending) (w' : World) : Prop := ∃ v, e = .returned (.tuple #[v, .int .i64 xs.2]) ∧ Own w' w.heap.size v xs.1 ∧ Below w.heap.size w w'

end Go.Proofs.YtfghjfljomcldaaGreat

/- Blocks of the call's own: a row of blocks, each with a row of integers of its own. -/
namespace Go.Proofs.YtfghjfljomcldaaGreat
open Go.RowKit
set_option linter.unusedVariables false
set_option linter.unusedSimpArgs false

abbrev Trp := Bool × Value × List Int
def cellsT (t : List Trp) : List Value := t.flatMap (fun x => [.bool x.1, x.2.1])
def shapeT (t : List Trp) : List Blk := t.map (fun x => (x.1, x.2.2))
theorem cellsT_len (t : List Trp) : (cellsT t).length = t.length * 2 := by
  induction t with
  | nil => rfl
  | cons x r ih => simp only [cellsT, List.flatMap_cons, List.length_append] at ih ⊢; rw [ih]; simp; omega
theorem cellsT_app (t s : List Trp) : cellsT (t ++ s) = cellsT t ++ cellsT s := by simp [cellsT]
theorem cellsT_at (t : List Trp) (j : Nat) (hj : j < t.length) : (cellsT t)[j * 2]? = some (.bool (t.getD j (false, .slice none 0 0, [])).1) ∧ (cellsT t)[j * 2 + 1]? = some (t.getD j (false, .slice none 0 0, [])).2.1 := by
  induction t generalizing j with
  | nil => simp at hj
  | cons x r ih =>
    have e : cellsT (x :: r) = .bool x.1 :: x.2.1 :: cellsT r := by simp [cellsT]
    rw [e]
    cases j with
    | zero => simp
    | succ j =>
      have := ih j (by simpa using hj)
      rw [show (j + 1) * 2 = j * 2 + 1 + 1 from by omega]
      simpa using this
theorem shapeT_app (t s : List Trp) : shapeT (t ++ s) = shapeT t ++ shapeT s := by simp [shapeT]
theorem shapeT_len (t : List Trp) : (shapeT t).length = t.length := by simp [shapeT]

/-- The slice owns its row of blocks, whose lists are rows of the call's own, each in another block of memory. -/
structure JoinSt (w : World) (B : Nat) (v : Value) (t : List Trp) : Prop where
  row : w.ownsRow B 118 2 v t.length (cellsT t)
  owns : ∀ x ∈ t, Own w B x.2.1 x.2.2
  apart : t.Pairwise (fun x y => ∀ g, x.2.1.ownBlock = some g → y.2.1.ownBlock ≠ some g)
  full : ∀ x ∈ t, x.2.2 ≠ []
theorem info_blk : (Tryz.prog.info? 118).map (fun i => (i.zero, i.size, i.bytes)) = some (some (.agg #[.bool false, .slice none 0 0]), 2, 32) := by kernel_rfl

theorem JoinSt.nil (w : World) (B : Nat) : JoinSt w B (.slice none 0 0) [] := ⟨World.ownsRow_nil _ _ _ _, by simp, List.Pairwise.nil, by simp⟩
theorem JoinSt.below {w w' : World} {B C : Nat} {v : Value} {t : List Trp} (h : JoinSt w B v t) (hb : Below C w w') (hC : w.heap.size ≤ C) : JoinSt w' B v t := by
  refine ⟨?_, fun x hx => (h.owns x hx).below hb hC, h.apart, h.full⟩
  refine ⟨h.row.1, ?_⟩
  rcases h.row.2 with hn | ⟨g, cap, cur, hv, hB, hg, rest⟩
  · exact .inl hn
  · have hlt : g < w.heap.size := (Array.getElem?_eq_some_iff.1 hg).1
    exact .inr ⟨g, cap, cur, hv, hB, by rw [hb.block g (by omega)]; exact hg, rest⟩
theorem JoinSt.shape {w : World} {B : Nat} {v : Value} {t : List Trp} (h : JoinSt w B v t) : ∃ a cap, v = .slice a t.length cap := by
  rcases h.row.2 with ⟨rfl, h2⟩ | ⟨g, cap, cur, rfl, _⟩
  · exact ⟨none, 0, by rw [h2]⟩
  · exact ⟨_, _, rfl⟩
theorem JoinSt.mono {w : World} {B B' : Nat} {v : Value} {t : List Trp} (h : JoinSt w B v t) (hB : B' ≤ B) : JoinSt w B' v t := by
  refine ⟨⟨h.row.1, ?_⟩, fun x hx => (h.owns x hx).mono hB, h.apart, h.full⟩
  rcases h.row.2 with hn | ⟨g, cap, cur, hv, hb, rest⟩
  · exact .inl hn
  · exact .inr ⟨g, cap, cur, hv, Nat.le_trans hB hb, rest⟩
/-- The cells of block j. -/
theorem JoinSt.at {w : World} {B : Nat} {v : Value} {t : List Trp} (h : JoinSt w B v t) {j : Nat} (hj : j < t.length) : ∃ g cap, v = .slice (some ⟨g, 0, none⟩) t.length cap ∧ B ≤ g ∧ g < w.heap.size ∧
    w.cell? ⟨g, j * 2, none⟩ = some (.bool (t.getD j (false, .slice none 0 0, [])).1) ∧ w.cell? ⟨g, j * 2 + 1, none⟩ = some (t.getD j (false, .slice none 0 0, [])).2.1 ∧ (∀ o, w.frozen? ⟨g, o, none⟩ = false) ∧ (∀ x ∈ t, ∀ k, x.2.1.ownBlock = some k → k ≠ g) := by
  rcases h.row.2 with ⟨rfl, h2⟩ | ⟨g, cap, cur, rfl, hB, hg, hnc, hcm, hcs, htk⟩
  · omega
  · have hlt : g < w.heap.size := (Array.getElem?_eq_some_iff.1 hg).1
    have at' : ∀ i, i < t.length * 2 → w.cell? ⟨g, i, none⟩ = (cellsT t)[i]? := fun i hi => by
      simp only [World.cell?, hg]
      rw [← htk, List.getElem?_take, if_pos hi]
      simp
    obtain ⟨e1, e2⟩ := cellsT_at t j hj
    refine ⟨g, cap, rfl, hB, hlt, by rw [at' _ (by omega)]; exact e1, by rw [at' _ (by omega)]; exact e2, fun o => by simp [World.frozen?, hg], fun x hx k hk e => ?_⟩
    subst e
    have ho := h.owns x hx
    rcases ho.2 with ⟨e1, _⟩ | ⟨g2, cap2, cur2, e1, _, hg2, _⟩
    · rw [e1] at hk; cases hk
    · rw [e1] at hk
      have : g2 = k := by simpa [Value.ownBlock] using hk
      subst this
      rw [hg] at hg2
      simp only [Option.some.injEq, Obj.cells.injEq] at hg2
      exact absurd hg2.2.1 (by decide)
theorem JoinSt.blocks {w : World} {B : Nat} {v : Value} {t : List Trp} (h : JoinSt w B v t) (hl : t.length ≤ 17592186044416) (hx : ∀ x ∈ t, x.2.2.length ≤ 17592186044416 ∧ In64 x.2.2) : IsBlocks w v (shapeT t) := by
  have hgd : ∀ j, j < t.length → (shapeT t).getD j dB = ((t.getD j (false, .slice none 0 0, [])).1, (t.getD j (false, .slice none 0 0, [])).2.2) := fun j hj => by
    unfold shapeT
    simp [List.getD, hj]
  have hmem : ∀ j, j < t.length → t.getD j (false, .slice none 0 0, []) ∈ t := fun j hj => by simp [List.getD, hj]
  rcases h.row.2 with ⟨rfl, h2⟩ | ⟨g, cap, cur, rfl, hB, hg, hnc, hcm, hcs, htk⟩
  · have : t = [] := List.eq_nil_of_length_eq_zero h2
    subst this
    exact IsTwo.nil _
  · have hlt : g < w.heap.size := (Array.getElem?_eq_some_iff.1 hg).1
    unfold maxLen at hcm
    refine ⟨_, cap, by rw [shapeT_len], ⟨by rw [shapeT_len]; exact hnc, fun h => by cases h⟩, hcm, by rw [shapeT_len]; exact hl, g, 0, fun _ => ⟨rfl, hlt⟩, fun j hj => ?_⟩
    rw [shapeT_len] at hj
    have at' : ∀ i, i < t.length * 2 → w.cell? ⟨g, i, none⟩ = (cellsT t)[i]? := fun i hi => by
      simp only [World.cell?, hg]
      rw [← htk, List.getElem?_take, if_pos hi]
      simp
    obtain ⟨e1, e2⟩ := cellsT_at t j hj
    have e3 := hgd j hj
    simp only [Nat.zero_add]
    rw [at' _ (by omega), at' _ (by omega)]
    refine ⟨by rw [e1]; exact congrArg some (congrArg Value.bool (congrArg Prod.fst e3).symm), _, e2, ?_⟩
    have e4 : ((shapeT t).getD j (false, [])).2 = (t.getD j (false, .slice none 0 0, [])).2.2 := congrArg Prod.snd e3
    rw [e4]
    exact (h.owns _ (hmem j hj)).ints (hx _ (hmem j hj)).1 (hx _ (hmem j hj)).2

end Go.Proofs.YtfghjfljomcldaaGreat

/- Steps on blocks of the call's own. -/
namespace Go.Proofs.YtfghjfljomcldaaGreat
open Go.RowKit
set_option linter.unusedVariables false
set_option linter.unusedSimpArgs false

/-- A block more, whose list is a new row. -/
theorem JoinSt.snoc {w w1 w2 : World} {B : Nat} {v v' u : Value} {t : List Trp} {e : Bool} {l : List Int} {tmp : Obj} (h : JoinSt w B v t) (hB : B ≤ w.heap.size) (hb : Below w.heap.size w w1) (hu : Own w1 w.heap.size u l) (hl : l ≠ [])
    (hrow : w2.ownsRow B 118 2 v' (t.length + 1) (cellsT t ++ [.bool e, u])) (hg : (w1.alloc tmp).grownBy w2 v.ownBlock) : JoinSt w2 B v' (t ++ [(e, u, l)]) := by
  have hv : ∀ g, v.ownBlock = some g → g < w.heap.size := fun g hg => by
    rcases h.row.2 with ⟨rfl, _⟩ | ⟨g1, cap, cur, rfl, _, hg1, _⟩
    · cases hg
    · have : g1 = g := by simpa [Value.ownBlock] using hg
      subst this
      exact (Array.getElem?_eq_some_iff.1 hg1).1
  have hx : ∀ x ∈ t, ∀ k, x.2.1.ownBlock = some k → v.ownBlock ≠ some k := fun x hx k hk e => by
    obtain ⟨j, hj, rfl⟩ := List.mem_iff_getElem.1 hx
    obtain ⟨g, cap, rfl, _, _, _, _, _, hne⟩ := h.at hj
    have : g = k := by simpa [Value.ownBlock] using e
    exact hne _ hx k hk this.symm
  refine ⟨by rw [List.length_append, cellsT_app]; exact hrow, fun x hxm => ?_, ?_, fun x hxm => ?_⟩
  · rcases List.mem_append.1 hxm with hxm | hxm
    · refine (((h.owns x hxm).below hb (Nat.le_refl _)).alloc tmp).kept hg ?_
      cases hk : x.2.1.ownBlock with
      | none => exact .inl rfl
      | some k => exact .inr (fun e => hx x hxm k hk e.symm)
    · rw [List.mem_singleton] at hxm
      subst hxm
      refine ((hu.mono hB).alloc tmp).kept hg ?_
      cases hk : u.ownBlock with
      | none => exact .inl rfl
      | some k => exact .inr (fun e => by have h1 := (hu.lt k hk).1; have h2 := hv k e.symm; omega)
  · rw [List.pairwise_append]
    refine ⟨h.apart, List.pairwise_singleton _ _, fun x hxm y hy g hg1 hg2 => ?_⟩
    rw [List.mem_singleton] at hy
    subst hy
    have h1 := (hu.lt g hg2).1
    have h2 := ((h.owns x hxm).lt g hg1).2
    omega
  · rcases List.mem_append.1 hxm with hxm | hxm
    · exact h.full x hxm
    · rw [List.mem_singleton] at hxm
      subst hxm
      exact hl

theorem JoinSt.vlt {w : World} {B : Nat} {v : Value} {t : List Trp} (h : JoinSt w B v t) : ∀ g, v.ownBlock = some g → B ≤ g ∧ g < w.heap.size := fun g hg => by
  rcases h.row.2 with ⟨rfl, _⟩ | ⟨g1, cap, cur, rfl, hB, hg1, _⟩
  · cases hg
  · have : g1 = g := by simpa [Value.ownBlock] using hg
    subst this
    exact ⟨hB, (Array.getElem?_eq_some_iff.1 hg1).1⟩

theorem set_last {α : Type} (a : List α) (x y z : α) : (a ++ [x, y]).set (a.length + 1) z = a ++ [x, z] := by
  rw [List.set_append_right _ _ (by omega)]
  have : a.length + 1 - a.length = 1 := by omega
  rw [this]
  rfl

/-- The last block's list grown by an append and stored. -/
theorem JoinSt.grow {w w1 : World} {B g cap : Nat} {u u' : Value} {t : List Trp} {e : Bool} {l l2 : List Int} {n : Nat} (h : JoinSt w B (.slice (some ⟨g, 0, none⟩) n cap) (t ++ [(e, u, l)])) (hB : B ≤ w.heap.size) (hl : l ++ l2 ≠ [])
    (hu : Own w1 B u' (l ++ l2)) (hg : w.grownBy w1 u.ownBlock) (hloc : u'.ownBlock = u.ownBlock ∨ u'.ownBlock = some w.heap.size) :
    JoinSt (w1.setCell ⟨g, t.length * 2 + 1, none⟩ u') B (.slice (some ⟨g, 0, none⟩) n cap) (t ++ [(e, u', l ++ l2)]) := by
  have hmem : (e, u, l) ∈ t ++ [(e, u, l)] := by simp
  have hj : t.length < (t ++ [(e, u, l)]).length := by simp
  obtain ⟨g', cap', eg, hBg, hglt, _, _, _, hne⟩ := h.at hj
  injection eg with eg1 eg2 eg3
  injection eg1 with eg1
  injection eg1 with eg1
  subst eg1; subst eg3
  have hug : u.ownBlock ≠ some g := fun e1 => hne _ hmem g e1 rfl
  have hu'g : u'.ownBlock ≠ some g := fun e1 => by
    rcases hloc with h1 | h1
    · exact hug (h1 ▸ e1)
    · rw [h1] at e1
      injection e1 with e1
      omega
  have hne2 : ∀ x ∈ t, ∀ k, x.2.1.ownBlock = some k → u.ownBlock ≠ some k := fun x hx k hk e1 => by
    have h1 := (List.pairwise_append.1 h.apart).2.2 x hx _ (List.mem_singleton.2 rfl) k hk
    exact h1 e1
  have hset := Kept.setCell w1 ⟨g, t.length * 2 + 1, none⟩ u'
  refine ⟨?_, fun x hxm => ?_, ?_, fun x hxm => ?_⟩
  · rcases h.row with ⟨h1, ⟨h2, _⟩ | ⟨g1, cap1, cur, ev, _, hg1, hnc, hcm, hcs, htk⟩⟩
    · cases h2
    · injection ev with ev1 ev2 ev3
      injection ev1 with ev1
      injection ev1 with ev1
      subst ev1; subst ev3
      have hw1 : w1.heap[g]? = some (.cells cur 118 (0, 0)) := by rw [hg.block g hglt (fun e1 => hug e1.symm)]; exact hg1
      have hn : n = t.length + 1 := by rw [ev2]; simp
      refine ⟨by rw [cellsT_len], .inr ⟨g, cap, cur.setIfInBounds (t.length * 2 + 1) u', by rw [ev2]; simp, hBg, ?_, by have := hnc; simp only [List.length_append, List.length_singleton] at this ⊢; omega, hcm, by simpa using hcs, ?_⟩⟩
      · simp [World.setCell, Array.getElem?_modify, hw1]
      · have e1 : (t ++ [(e, u', l ++ l2)]).length * 2 = (t ++ [(e, u, l)]).length * 2 := by simp
        rw [e1, Array.toList_setIfInBounds, List.take_set, htk, cellsT_app, cellsT_app]
        have e2 : cellsT [(e, u, l)] = [.bool e, u] := by simp [cellsT]
        have e3 : cellsT [(e, u', l ++ l2)] = [.bool e, u'] := by simp [cellsT]
        rw [e2, e3, ← cellsT_len]
        exact set_last _ _ _ _
  · rcases List.mem_append.1 hxm with hxm | hxm
    · have ho := h.owns x (List.mem_append_left _ hxm)
      have h1 : Own w1 B x.2.1 x.2.2 := ho.kept hg (by
        cases hk : x.2.1.ownBlock with
        | none => exact .inl rfl
        | some k => exact .inr (fun e1 => hne2 x hxm k hk e1.symm))
      exact hset.row h1 (fun k hk e1 => hne x (List.mem_append_left _ hxm) k hk e1)
    · rw [List.mem_singleton] at hxm
      subst hxm
      exact hset.row hu (fun k hk e1 => hu'g (by rw [hk, e1]))
  · rw [List.pairwise_append]
    refine ⟨(List.pairwise_append.1 h.apart).1, List.pairwise_singleton _ _, fun x hxm y hy k hk1 hk2 => ?_⟩
    rw [List.mem_singleton] at hy
    subst hy
    rcases hloc with h1 | h1
    · exact hne2 x hxm k hk1 (by rw [← h1]; exact hk2)
    · have hk2' : u'.ownBlock = some k := hk2
      rw [h1] at hk2'
      injection hk2' with hk2'
      have := ((h.owns x (List.mem_append_left _ hxm)).lt k hk1).2
      omega
  · rcases List.mem_append.1 hxm with hxm | hxm
    · exact h.full x (List.mem_append_left _ hxm)
    · rw [List.mem_singleton] at hxm
      subst hxm
      exact hl

/-- 'append(s, x...)' over integers of an elder world, in a region that draws its order: where the new row lies is said. -/
theorem step_appI {ops : Array Oper} {o : Oper} {a : Act} {w : World} {K : Act → World → Prop} {Q : Exit → Act → World → Prop} {E : Prop} (d : Option Tmp) (hd : o.dst = d) (hgd : o.guard = none) (s x : Operand)
    (ho : o.op = .call { callee := .builtin .append, args := #[s, x], argTypes := #[22, 22] }) (B : Nat) (v u : Value) (xs ys : List Int)
    (hs : a.eval s = v) (hx : a.eval x = u) (hown : Own w B v xs) (hu : IsInts w u ys) (hne : ys ≠ []) (hlen : xs.length + ys.length ≤ 17592186044416) (hB : B ≤ w.heap.size)
    (h : ∀ v' w', Own w' B v' (xs ++ ys) → w.grownBy w' v.ownBlock → (v'.ownBlock = v.ownBlock ∨ v'.ownBlock = some w.heap.size) → K (a.put d v') w') :
    if Region.wanted o (yielded ops a.tmps) = true then Oper.wp Tryz.prog o a w K Q else E := by
  subst hd
  have hw : Region.wanted o (yielded ops a.tmps) = true := by simp [Region.wanted, hgd]
  rw [if_pos hw]
  obtain ⟨i0, hi, hz0, hz1, hz2⟩ := info_parts info_int
  obtain ⟨ad, cap, rfl, hcap, _, _, h64, b, off, ha, hc⟩ := hu
  obtain ⟨rfl, hb⟩ := ha hne
  obtain ⟨v', w', hr, h2, h3, h4, h5⟩ := run_append_own_at (P := Tryz.prog) w B 22 o.type 3 i0 (.int .i64 0) 1 8 Tryz.underlying22 hi hz0 hz1 hz2 rfl (by decide) v xs.length _ hown ⟨b, off, none⟩ ys.length cap (ys.map (Value.int .i64)) (by simp) (fun j u hj => by
    have hlt : j < ys.length := by have := (List.getElem?_eq_some_iff.1 hj).1; simpa using this
    rw [Addr.add_lit, hc j hlt, ← hj]
    simp [List.getD, hlt]) (ints_oneCell _ _) (by unfold maxLen; omega) (by omega) hB
  unfold Oper.wp execOp
  simp only [ho, resolve, invoke, builtin, Sem.run_bind, Sem.run_pure, Result.andThen_ok, List.map_toArray, List.map_cons, List.map_nil, hs, hx, hr]
  refine h v' w' ?_ h3 h5
  unfold Own
  rw [List.length_append, List.map_append]
  exact h2

/-- 'append(out, Block{..})': the block lies in a new block of memory; as a step of a region that draws its order. -/
theorem step_appBlk {ops : Array Oper} {o : Oper} {a : Act} {w : World} {K : Act → World → Prop} {Q : Exit → Act → World → Prop} {E : Prop} (d : Option Tmp) (hd : o.dst = d) (hgd : o.guard = none) (s x : Operand)
    (ho : o.op = .call { callee := .builtin .append, args := #[s, x], argTypes := #[95, 95] }) (B : Nat) (v u : Value) (t : List Trp) (e : Bool) (g : Nat)
    (hs : a.eval s = v) (hx : a.eval x = .slice (some ⟨g, 0, none⟩) 1 1) (hrow : w.ownsRow B 118 2 v t.length (cellsT t)) (h0 : w.cell? ⟨g, 0, none⟩ = some (.bool e)) (h1 : w.cell? ⟨g, 1, none⟩ = some u) (hu1 : u.oneCell' = true) (hlen : t.length < 1000000) (hB : B ≤ w.heap.size)
    (h : ∀ v' w', w'.ownsRow B 118 2 v' (t.length + 1) (cellsT t ++ [.bool e, u]) → w.grownBy w' v.ownBlock → K (a.put d v') w') :
    if Region.wanted o (yielded ops a.tmps) = true then Oper.wp Tryz.prog o a w K Q else E := by
  subst hd
  have hw : Region.wanted o (yielded ops a.tmps) = true := by simp [Region.wanted, hgd]
  rw [if_pos hw]
  obtain ⟨i0, hi, hz0, hz1, hz2⟩ := info_parts info_blk
  obtain ⟨v', w', hr, h2, h3, h4, h5⟩ := run_append_own_at (P := Tryz.prog) w B 95 o.type 118 i0 (.agg #[.bool false, .slice none 0 0]) 2 32 Tryz.underlying95 hi hz0 hz1 hz2 rfl (by decide) v t.length _ hrow ⟨g, 0, none⟩ 1 1 [.bool e, u] (by simp) (fun j y hj => by
    match j, hj with
    | 0, hj => simp at hj; subst hj; simpa [Addr.add] using h0
    | 1, hj => simp at hj; subst hj; simpa [Addr.add] using h1) (fun y hy => by
    rcases List.mem_cons.1 hy with hy | hy
    · rw [hy]; rfl
    · rw [List.mem_singleton] at hy
      rw [hy]; exact hu1) (by unfold maxLen; omega) (by omega) hB
  unfold Oper.wp execOp
  simp only [ho, resolve, invoke, builtin, Sem.run_bind, Sem.run_pure, Result.andThen_ok, List.map_toArray, List.map_cons, List.map_nil, hs, hx, hr]
  exact h v' w' h2 h3

end Go.Proofs.YtfghjfljomcldaaGreat

/- Blocks put together: the words. -/
namespace Go.Proofs.YtfghjfljomcldaaGreat
open Go.RowKit
set_option linter.unusedVariables false
set_option linter.unusedSimpArgs false

/-- A block more behind those that are put together. -/
def joinStep (out : List Blk) (b : Blk) : List Blk :=
  if b.2 = [] then out else
  match out.getLast? with
  | some l => if l.1 = b.1 then out.dropLast ++ [(l.1, l.2 ++ b.2)] else out ++ [b]
  | none => out ++ [b]
def joinL (p : List Blk) : List Blk := p.foldl joinStep []
theorem joinL_snoc (p : List Blk) (b : Blk) : joinL (p ++ [b]) = joinStep (joinL p) b := by unfold joinL; rw [List.foldl_append]; rfl
theorem joinStep_nil (out : List Blk) (e : Bool) : joinStep out (e, []) = out := by unfold joinStep; rw [if_pos rfl]
theorem joinStep_new {out : List Blk} {b : Blk} (hb : b.2 ≠ []) (h : ∀ l, out.getLast? = some l → l.1 ≠ b.1) : joinStep out b = out ++ [b] := by
  unfold joinStep
  rw [if_neg hb]
  split
  · rename_i l hl
    rw [if_neg (h l hl)]
  · rfl
theorem joinStep_grow {out : List Blk} {e : Bool} {l l2 : List Int} (hb : l2 ≠ []) : joinStep (out ++ [(e, l)]) (e, l2) = out ++ [(e, l ++ l2)] := by
  unfold joinStep
  rw [if_neg hb]
  simp
theorem flatB_app (p q : List Blk) : flatB (p ++ q) = flatB p ++ flatB q := by unfold flatB; simp
theorem flat_joinStep (out : List Blk) (b : Blk) : flatB (joinStep out b) = flatB out ++ b.2 := by
  unfold joinStep
  by_cases hb : b.2 = []
  · rw [if_pos hb, hb, List.append_nil]
  · rw [if_neg hb]
    split
    · rename_i l hl
      split
      · have h1 : out = out.dropLast ++ [l] := by
          rw [List.getLast?_eq_some_iff] at hl
          obtain ⟨ys, rfl⟩ := hl
          simp
        conv => rhs; rw [h1]
        rw [flatB_app, flatB_app]
        simp [flatB]
      · rw [flatB_app]
        simp [flatB]
    · rw [flatB_app]
      simp [flatB]
theorem flat_joinL (p : List Blk) : flatB (joinL p) = flatB p := by
  suffices h : ∀ (p out : List Blk), flatB (p.foldl joinStep out) = flatB out ++ flatB p from by have := h p []; rw [show flatB ([] : List Blk) = [] from rfl, List.nil_append] at this; exact this
  intro p
  induction p with
  | nil => intro out; simp [flatB]
  | cons b r ih =>
    intro out
    rw [List.foldl_cons, ih, flat_joinStep, List.append_assoc]
    congr 1
theorem pairs_flat (p : List Blk) : (pairsB p).map (fun x => x.2) = flatB p := by
  suffices h : ∀ k, k ≤ p.length → (pairsUp p k).map (fun x => x.2) = flatB (p.take k) from by have := h p.length (Nat.le_refl _); rwa [List.take_length] at this
  intro k
  induction k with
  | zero => intro _; simp [pairsUp, flatB]
  | succ k ih =>
    intro hk
    rw [pairsUp_succ, List.map_append, ih (by omega), flat_take_succ (d := dB) (by omega)]
    congr 1
    rw [List.map_map]
    simp [Function.comp_def]
theorem pairs_len (p : List Blk) : (pairsB p).length = (flatB p).length := by rw [← pairs_flat, List.length_map]
/-- The answer of Join. -/
def joinA (p : List Blk) : List Blk × Int := if singleB (flatB p) = true then (if (flatB p).length ≤ 1024 then (joinL p, 0) else ([], 3)) else ([], 2)

theorem single_prefix {l m : List Int} (h : l <+: m) (k : singleB m = true) : singleB l = true := by
  obtain ⟨r, rfl⟩ := h
  unfold singleB at k ⊢
  rw [decide_eq_true_eq] at k ⊢
  exact ⟨(List.nodup_append.1 k.1).1, fun v hv => k.2 v (List.mem_append_left _ hv)⟩
theorem single_ent {S : List Int} {v : Int} (h : singleB S = true) (k : entB S v = true) : singleB (S ++ [v]) = true := by
  unfold entB at k
  unfold singleB at h ⊢
  rw [decide_eq_true_eq] at h k ⊢
  refine ⟨nodup_snoc.2 ⟨h.1, k.2.2⟩, fun x hx => ?_⟩
  rcases List.mem_append.1 hx with hx | hx
  · exact h.2 x hx
  · rw [List.mem_singleton] at hx
    subst hx
    exact ⟨k.1, k.2.1⟩
theorem single_noent {S : List Int} {v : Int} (k : entB S v = false) : singleB (S ++ [v]) = false := by
  unfold entB at k
  rw [decide_eq_false_iff_not] at k
  rw [Bool.eq_false_iff]
  intro h
  unfold singleB at h
  rw [decide_eq_true_eq] at h
  exact k ⟨(h.2 v (by simp)).1, (h.2 v (by simp)).2, (nodup_snoc.1 h.1).2⟩
theorem mem_flatB {p : List Blk} {b : Blk} (h : b ∈ p) {x : Int} (hx : x ∈ b.2) : x ∈ flatB p := by
  unfold flatB
  exact List.mem_flatten.2 ⟨b.2, List.mem_map_of_mem h, hx⟩
theorem len_flatB {p : List Blk} {b : Blk} (h : b ∈ p) : b.2.length ≤ (flatB p).length := by
  unfold flatB
  induction p with
  | nil => cases h
  | cons c r ih =>
    rw [List.map_cons, List.flatten_cons, List.length_append]
    rcases List.mem_cons.1 h with rfl | h
    · omega
    · have := ih h
      omega
theorem count_flatB {p : List Blk} (h : ∀ b ∈ p, b.2 ≠ []) : p.length ≤ (flatB p).length := by
  induction p with
  | nil => simp
  | cons c r ih =>
    have h1 := ih (fun b hb => h b (List.mem_cons_of_mem _ hb))
    have h2 := h c List.mem_cons_self
    have h3 : 0 < c.2.length := List.length_pos_iff.2 h2
    unfold flatB at h1 ⊢
    rw [List.map_cons, List.flatten_cons, List.length_append, List.length_cons]
    omega

end Go.Proofs.YtfghjfljomcldaaGreat

/- prefix.Join. -/
namespace Go.Proofs.YtfghjfljomcldaaGreat
open Go.RowKit Go.Shelf
set_option linter.unusedVariables false
set_option linter.unusedSimpArgs false
attribute [local go_sem] Oper.semAt_some cell_far frozen_far drew_cell drew_frozen

theorem nil_or_snoc {α : Type} (l : List α) : l = [] ∨ ∃ t x, l = t ++ [x] := by
  rcases List.eq_nil_or_concat l with h | ⟨t, x, h⟩
  · exact .inl h
  · exact .inr ⟨t, x, by rw [h, List.concat_eq_append]⟩

theorem wrap64s {n : Int} (h0 : 0 ≤ n) (h1 : n < 9223372036854775808) : wrap64 n = n := by unfold wrap64; omega
theorem bd_wrap {m n1 : Nat} (h : m + 1 ≤ n1) (h2 : ¬ 1024 < n1) : wrap64 (m : Int) = m := wrap64s (by omega) (by omega)
theorem bd_len {k n1 : Nat} (h : k ≤ n1) (h2 : ¬ 1024 < n1) : k < 1000000 := by omega
theorem bd_int {m : Nat} : (0 : Int) ≤ (m : Int) ∧ (m : Int) < (m : Int) + 1 := by omega
theorem bd_sum {a b n1 : Nat} (h : a ≤ n1) (h1 : b ≤ n1) (h2 : ¬ 1024 < n1) : a + b ≤ 17592186044416 := by omega
theorem frozen_quiet {w w' : World} (h : Quiet w w') {a : Addr} (k : w.frozen? a = false) : w'.frozen? a = false := by obtain ⟨m, rfl⟩ := h; exact k
theorem JoinSt.keptS {S : Nat → Prop} {w w' : World} {B : Nat} {v : Value} {t : List Trp} (h : JoinSt w B v t) (k : Kept S w w') (hS : ∀ g, B ≤ g → ¬ S g) : JoinSt w' B v t :=
  ⟨k.row h.row (fun g hg => hS g (h.vlt g hg).1), fun x hx => k.row (h.owns x hx) (fun g hg => hS g ((h.owns x hx).lt g hg).1), h.apart, h.full⟩
theorem Own.sh {w : World} {B : Nat} {v : Value} {xs : List Int} (h : Own w B v xs) (hne : xs ≠ []) : ∃ g cap, v = .slice (some ⟨g, 0, none⟩) xs.length cap := by
  rcases h.2 with ⟨rfl, h2⟩ | ⟨g, cap, cur, rfl, _⟩
  · exact absurd (List.eq_nil_of_length_eq_zero h2) hne
  · exact ⟨_, _, rfl⟩

def JoinPost (w : World) (p : List Blk) (e : Ending) (w' : World) : Prop :=
  ∃ v t, e = .returned (.tuple #[v, .int .i64 (joinA p).2]) ∧ JoinSt w' w.heap.size v t ∧ shapeT t = (joinA p).1 ∧ Below w.heap.size w w'

end Go.Proofs.YtfghjfljomcldaaGreat

/- Rows of blocks that the call makes, whose lists are its own or lay there before. -/
namespace Go.Proofs.YtfghjfljomcldaaGreat
open Go.RowKit
set_option linter.unusedVariables false
set_option linter.unusedSimpArgs false

/-- A list of integers: the call's own, or of an elder world. -/
def ElemB (w0 w : World) (B : Nat) (u : Value) (l : List Int) : Prop := Own w B u l ∨ IsInts w0 u l
structure RowB (w0 w : World) (B : Nat) (v : Value) (t : List Trp) : Prop where
  below : Below w0.heap.size w0 w
  base : w0.heap.size ≤ B
  row : w.ownsRow B 118 2 v t.length (cellsT t)
  elems : ∀ x ∈ t, ElemB w0 w B x.2.1 x.2.2
theorem ElemB.below {w0 w w' : World} {B C : Nat} {u : Value} {l : List Int} (h : ElemB w0 w B u l) (hb : Below C w w') (hC : w.heap.size ≤ C) : ElemB w0 w' B u l := h.elim (fun h => .inl (h.below hb hC)) .inr
theorem ElemB.shape {w0 w : World} {B : Nat} {u : Value} {l : List Int} (h : ElemB w0 w B u l) : ∃ a cap, u = .slice a l.length cap := by
  rcases h with h | h
  · rcases h.2 with ⟨rfl, h2⟩ | ⟨g, cap, cur, rfl, _⟩
    · exact ⟨none, 0, by rw [h2]⟩
    · exact ⟨_, _, rfl⟩
  · exact h.shape
theorem RowB.nil {w0 w : World} {B : Nat} (hb : Below w0.heap.size w0 w) (hB : w0.heap.size ≤ B) : RowB w0 w B (.slice none 0 0) [] := ⟨hb, hB, World.ownsRow_nil _ _ _ _, by simp⟩
theorem rowB_lt {w : World} {B n : Nat} {e : TypeId} {v : Value} {xs : List Value} (h : w.ownsRow B e 2 v n xs) : ∀ g, v.ownBlock = some g → B ≤ g ∧ g < w.heap.size := fun g hg => by
  rcases h.2 with ⟨rfl, _⟩ | ⟨g1, cap, cur, rfl, hB, hg1, _⟩
  · cases hg
  · have : g1 = g := by simpa [Value.ownBlock] using hg
    subst this
    exact ⟨hB, (Array.getElem?_eq_some_iff.1 hg1).1⟩
/-- A row of blocks is no row of integers. -/
theorem rowB_ne {w : World} {B B' n : Nat} {v u : Value} {xs : List Value} {l : List Int} (h : w.ownsRow B 118 2 v n xs) (k : Own w B' u l) : ∀ g, u.ownBlock = some g → v.ownBlock ≠ some g := by
  intro g hg hv
  rcases h.2 with ⟨rfl, _⟩ | ⟨g1, cap, cur, rfl, _, hg1, _⟩
  · cases hv
  · rcases k.2 with ⟨rfl, _⟩ | ⟨g2, cap2, cur2, rfl, _, hg2, _⟩
    · cases hg
    · have e1 : g1 = g := by simpa [Value.ownBlock] using hv
      have e2 : g2 = g := by simpa [Value.ownBlock] using hg
      subst e1; subst e2
      rw [hg1] at hg2
      simp only [Option.some.injEq, Obj.cells.injEq] at hg2
      exact absurd hg2.2.1 (by decide)
theorem RowB.below' {w0 w w' : World} {B C : Nat} {v : Value} {t : List Trp} (h : RowB w0 w B v t) (hb : Below C w w') (hC : w.heap.size ≤ C) : RowB w0 w' B v t := by
  refine ⟨h.below.trans (hb.mono (Nat.le_trans h.below.size hC)), h.base, ⟨h.row.1, ?_⟩, fun x hx => (h.elems x hx).below hb hC⟩
  rcases h.row.2 with hn | ⟨g, cap, cur, hv, hB, hg, rest⟩
  · exact .inl hn
  · have hlt : g < w.heap.size := (Array.getElem?_eq_some_iff.1 hg).1
    exact .inr ⟨g, cap, cur, hv, hB, by rw [hb.block g (by omega)]; exact hg, rest⟩
theorem RowB.shape {w0 w : World} {B : Nat} {v : Value} {t : List Trp} (h : RowB w0 w B v t) : ∃ a cap, v = .slice a t.length cap := by
  rcases h.row.2 with ⟨rfl, h2⟩ | ⟨g, cap, cur, rfl, _⟩
  · exact ⟨none, 0, by rw [h2]⟩
  · exact ⟨_, _, rfl⟩
/-- More blocks behind. -/
theorem RowB.more {w0 w w1 w2 : World} {B : Nat} {v v' : Value} {t s : List Trp} (h : RowB w0 w B v t) (hBw : B ≤ w.heap.size) (hb : Below w.heap.size w w1) (hs : ∀ x ∈ s, ElemB w0 w1 B x.2.1 x.2.2)
    (hrow : w2.ownsRow B 118 2 v' (t ++ s).length (cellsT (t ++ s))) (hg : w1.grownBy w2 v.ownBlock) : RowB w0 w2 B v' (t ++ s) := by
  have h1 := h.below' hb (Nat.le_refl _)
  refine ⟨h1.below.grown hg h1.below.size (fun g hg' => Nat.le_trans h.base (rowB_lt h1.row g hg').1), h.base, hrow, fun x hx => ?_⟩
  have key : ElemB w0 w1 B x.2.1 x.2.2 := by
    rcases List.mem_append.1 hx with hx | hx
    · exact h1.elems x hx
    · exact hs x hx
  rcases key with k | k
  · refine .inl (k.kept hg ?_)
    cases hk : x.2.1.ownBlock with
    | none => exact .inl rfl
    | some g => exact .inr (fun e => rowB_ne h1.row k g hk e.symm)
  · exact .inr k
theorem RowB.blocks {w0 w : World} {B : Nat} {v : Value} {t : List Trp} (h : RowB w0 w B v t) (hl : t.length ≤ 17592186044416) (hx : ∀ x ∈ t, x.2.2.length ≤ 17592186044416 ∧ In64 x.2.2) : IsBlocks w v (shapeT t) := by
  have hgd : ∀ j, j < t.length → (shapeT t).getD j dB = ((t.getD j (false, .slice none 0 0, [])).1, (t.getD j (false, .slice none 0 0, [])).2.2) := fun j hj => by
    unfold shapeT
    simp [List.getD, hj]
  have hmem : ∀ j, j < t.length → t.getD j (false, .slice none 0 0, []) ∈ t := fun j hj => by simp [List.getD, hj]
  rcases h.row.2 with ⟨rfl, h2⟩ | ⟨g, cap, cur, rfl, hB, hg, hnc, hcm, hcs, htk⟩
  · have : t = [] := List.eq_nil_of_length_eq_zero h2
    subst this
    exact IsTwo.nil _
  · have hlt : g < w.heap.size := (Array.getElem?_eq_some_iff.1 hg).1
    unfold maxLen at hcm
    refine ⟨_, cap, by rw [shapeT_len], ⟨by rw [shapeT_len]; exact hnc, fun h => by cases h⟩, hcm, by rw [shapeT_len]; exact hl, g, 0, fun _ => ⟨rfl, hlt⟩, fun j hj => ?_⟩
    rw [shapeT_len] at hj
    have at' : ∀ i, i < t.length * 2 → w.cell? ⟨g, i, none⟩ = (cellsT t)[i]? := fun i hi => by
      simp only [World.cell?, hg]
      rw [← htk, List.getElem?_take, if_pos hi]
      simp
    obtain ⟨e1, e2⟩ := cellsT_at t j hj
    have e3 := hgd j hj
    simp only [Nat.zero_add]
    rw [at' _ (by omega), at' _ (by omega)]
    refine ⟨by rw [e1]; exact congrArg some (congrArg Value.bool (congrArg Prod.fst e3).symm), _, e2, ?_⟩
    have e4 : ((shapeT t).getD j (false, [])).2 = (t.getD j (false, .slice none 0 0, [])).2.2 := congrArg Prod.snd e3
    rw [e4]
    rcases h.elems _ (hmem j hj) with k | k
    · exact k.ints (hx _ (hmem j hj)).1 (hx _ (hmem j hj)).2
    · exact k.below h.below (Nat.le_refl _)

/-- 'append(out, Block{..})' in a walk. -/
theorem wpList_appBlk {w : World} {ops : Array Oper} {rest : List Oper} {o : Oper} {a : Act} {Q : Exit → Act → World → Prop} (hgd : o.guard = none) (s x : Operand)
    (ho : o.op = .call { callee := .builtin .append, args := #[s, x], argTypes := #[95, 95] }) (B : Nat) (v u : Value) (t : List Trp) (e : Bool) (l : List Int) (g : Nat)
    (hs : a.eval s = v) (hx : a.eval x = .slice (some ⟨g, 0, none⟩) 1 1) (hrow : w.ownsRow B 118 2 v t.length (cellsT t)) (h0 : w.cell? ⟨g, 0, none⟩ = some (.bool e)) (h1 : w.cell? ⟨g, 1, none⟩ = some u) (hu1 : u.oneCell' = true) (hlen : t.length < 1000000) (hB : B ≤ w.heap.size)
    (h : ∀ v' w', w'.ownsRow B 118 2 v' (t ++ [(e, u, l)]).length (cellsT (t ++ [(e, u, l)])) → w.grownBy w' v.ownBlock → wpList Tryz.prog ops Q rest (a.put o.dst v') w') : wpList Tryz.prog ops Q (o :: rest) a w := by
  obtain ⟨i0, hi, hz0, hz1, hz2⟩ := info_parts info_blk
  refine wpList_append_own _ hgd s x 95 ho B 118 i0 (.agg #[.bool false, .slice none 0 0]) 2 32 Tryz.underlying95 hi hz0 hz1 hz2 rfl (by decide) v t.length _ hs hrow ⟨g, 0, none⟩ 1 1 [.bool e, u] hx (by simp) (fun j y hj => by
    match j, hj with
    | 0, hj => simp at hj; subst hj; simpa [Addr.add] using h0
    | 1, hj => simp at hj; subst hj; simpa [Addr.add] using h1) (fun y hy => by
    rcases List.mem_cons.1 hy with hy | hy
    · rw [hy]; rfl
    · rw [List.mem_singleton] at hy
      rw [hy]; exact hu1) (by unfold maxLen; omega) (by omega) hB fun v' w' h2 h3 _ => h v' w' ?_ h3
  rw [List.length_append, cellsT_app]
  exact h2

end Go.Proofs.YtfghjfljomcldaaGreat

/- prefix.Less. -/
namespace Go.Proofs.YtfghjfljomcldaaGreat
open Go.RowKit Go.Maps
set_option linter.unusedVariables false
set_option linter.unusedSimpArgs false

theorem SetI.mapB {w : World} {b : Nat} {S : List Int} (h : SetI w b S) : MapB Tryz.prog 3 4 w b S.length (fun k => decide (k ∈ S)) := by
  obtain ⟨_, D, h1, h2, _⟩ := h
  exact ⟨D, h1, h1.isMap, h2⟩
theorem zero_boolX (w : World) : (zeroValue 4).run Tryz.prog w = .ok (.bool false) w := by
  have := Tryz.zeroValue4
  exact this w
theorem mapB_look {w : World} {b n : Nat} {h : Int → Bool} (m : MapB Tryz.prog 3 4 w b n h) (k : Int) (h1 : -9223372036854775808 ≤ k) (h2 : k ≤ 9223372036854775807) :
    (Instr.lookup 181 (.map (some b)) (.int .i64 k) false).run Tryz.prog w = .ok (.bool (h k)) w := m.look Tryz.underlying3 Tryz.underlying4 Tryz.underlying181 (zero_boolX w) k (i64w h1 h2)
theorem MapB.drop {w' : World} {b n : Nat} {h : Int → Bool} {D : DataW Unit} (hD : IsMap D) (h2 : ∀ k, D.atKey (.int .i64 k) (.lit (.bool false)) = .lit (.bool (h k))) {k : Int}
    (hw : w'.ownsMap Tryz.prog 3 (plainElem Tryz.prog 4) b n (D.del (.int .i64 k))) : MapB Tryz.prog 3 4 w' b n (fun j => h j && !decide (j = k)) := by
  refine ⟨_, hw, hw.isMap, fun j => ?_⟩
  by_cases e : j = k
  · subst e
    rw [atKey_del_same]
    simp
  · rw [atKey_del_other (by simpa using e), h2]
    simp [e]
/-- 'delete(m, k)' at the operation. -/
theorem wpList_delB {w : World} {b n : Nat} {h : Int → Bool} {ops : Array Oper} {rest : List Oper} {o : Oper} {a : Act} {Q : Exit → Act → World → Prop}
    (hg : o.guard = none) (m x : Operand) (hop : o.op = Op.call { callee := Callee.builtin Builtin.delete, args := #[m, x], argTypes := #[181, 3] }) (hm : a.eval m = .map (some b)) (hb : MapB Tryz.prog 3 4 w b n h) (k : Int) (hx : a.eval x = .int .i64 k) (hw : (Lit.int .i64 k).wf = true)
    (hQ : ∀ w', MapB Tryz.prog 3 4 w' b n (fun j => h j && !decide (j = k)) → Kept (fun i => i = b) w w' → wpList Tryz.prog ops Q rest (a.put o.dst (.tuple #[])) w') : wpList Tryz.prog ops Q (o :: rest) a w := by
  obtain ⟨D, h1, hD, h2⟩ := hb
  refine wpList_delete_own w hg m x 181 3 hop 4 (int_keyed Tryz.underlying3) Tryz.underlying181 _ b n D hm h1 _ (.int .i64 k) hx (keyOf_int_mk Tryz.underlying3 hw) fun w' h3 h4 => ?_
  exact hQ w' (MapB.drop hD h2 h3) ((Kept.of_grown h4.grown).mono fun i _ e => (Option.some.inj e).symm)

/-- Blocks without some numbers. -/
def restL (p : List Blk) (vars : List Int) : List Blk := p.map (fun b => (b.1, b.2.filter (fun v => !decide (v ∈ vars))))
def lessR (p : List Blk) (vars : List Int) : List Blk × Int := if mayP p = true then joinA (restL p vars) else ([], 2)
theorem restL_take {p : List Blk} {vars : List Int} {k : Nat} (h : k < p.length) : restL (p.take (k + 1)) vars = restL (p.take k) vars ++ [((p.getD k dB).1, (p.getD k dB).2.filter (fun v => !decide (v ∈ vars)))] := by
  unfold restL
  rw [take_two (d := dB) h, List.map_append]
  rfl
theorem restL_flat (p : List Blk) (vars : List Int) : flatB (restL p vars) = (flatB p).filter (fun v => !decide (v ∈ vars)) := by
  unfold restL flatB
  induction p with
  | nil => rfl
  | cons c r ih =>
    simp only [List.map_cons, List.flatten_cons, List.filter_append]
    rw [ih]

def stayB (p : List Blk) (l : List Int) (v : Int) : Bool := decide (v ∈ flatB p) && !decide (v ∈ l)
theorem stayB_nil (p : List Blk) : stayB p [] = fun v => decide (v ∈ flatB p) := by funext v; simp [stayB]
theorem stayB_snoc (p : List Blk) (l : List Int) (x : Int) : (fun j => stayB p l j && !decide (j = x)) = stayB p (l ++ [x]) := by
  funext j
  unfold stayB
  by_cases h1 : j ∈ flatB p <;> by_cases h2 : j ∈ l <;> by_cases h3 : j = x <;> simp [h1, h2, h3]
theorem filter_stay {p : List Blk} {vars : List Int} {b : Blk} (hb : b ∈ p) : b.2.filter (stayB p vars) = b.2.filter (fun v => !decide (v ∈ vars)) := by
  refine List.filter_congr fun x hx => ?_
  unfold stayB
  rw [decide_eq_true (mem_flatB hb hx)]
  rfl
theorem MapB.below {P : Program} {K E : TypeId} {w w' : World} {b n B : Nat} {h : Int → Bool} (m : MapB P K E w b n h) (hb : Below B w w') (hB : w.heap.size ≤ B) : MapB P K E w' b n h :=
  m.kept (S := fun _ => False) ⟨hb.os, hb.tape, hb.output, hb.size, fun k hk _ => hb.block k (by omega)⟩ (fun h => h)
def LessPost (w : World) (p : List Blk) (vars : List Int) (e : Ending) (w' : World) : Prop :=
  ∃ v t, e = .returned (.tuple #[v, .int .i64 (lessR p vars).2]) ∧ JoinSt w' w.heap.size v t ∧ shapeT t = (lessR p vars).1 ∧ Below w.heap.size w w'
theorem mayP_len {p : List Blk} (h : mayP p = true) : (flatB p).length ≤ 1024 ∧ p.length ≤ 1024 := by
  unfold mayP at h
  rw [decide_eq_true_eq] at h
  refine ⟨h.2.2.2, ?_⟩
  have h1 := count_flatB (p := p) (fun b hb => by
    obtain ⟨j, hj, rfl⟩ := List.mem_iff_getElem.1 hb
    have := (h.1 j hj).1
    simpa [List.getD, hj] using this)
  have := h.2.2.2
  omega

end Go.Proofs.YtfghjfljomcldaaGreat
