/- prefix.Close. -/
import Derived.Test.YtmiijgjpkkmoaaaGreatMpJ
import Derived.Test.YtmiijgjpkkmoaaaGreatPxFree
import Derived.Test.YtmiijgjpkkmoaaaGreatPxLess
import Derived.Deep.RegionHeld3
namespace Go.Proofs.YtmiijgjpkkmoaaaGreat
open Go.RowKit
set_option linter.unusedVariables false
set_option linter.unusedSimpArgs false

def atL (p : List Blk) : Nat := if p ≠ [] ∧ (p.getD 0 dB).1 = true then 1 else 0
def closeB (p : List Blk) (C : List (List Int)) : List Blk := p.take (atL p) ++ [(true, freeL C (flatB p))] ++ p.drop (atL p)
def closeR (p : List Blk) (C : List (List Int)) : List Blk × Int := if mayP p = true ∧ mayCnfB C = true then joinA (closeB p C) else ([], 2)
theorem atL_le (p : List Blk) : atL p ≤ p.length := by
  unfold atL
  split
  · rename_i h
    exact List.length_pos_iff.2 h.1
  · omega
theorem IsBlocks.upto {w : World} {a : Option Addr} {n cap : Nat} {p : List Blk} (H : IsBlocks w (.slice a n cap) p) {i : Nat} (hi : i ≤ n) : IsBlocks w (.slice a i cap) (p.take i) := by
  obtain ⟨a', cap', e, hcp, hc2, hl, b, off, ha, hc⟩ := H
  injection e with e1 e2 e3
  subst e1; subst e3
  have hil : (p.take i).length = i := by rw [List.length_take]; omega
  refine ⟨a, cap, by rw [hil], ⟨by omega, hcp.2⟩, hc2, by omega, b, off, fun hne => ha (fun e => hne (by rw [e]; simp)), fun j hj => ?_⟩
  rw [hil] at hj
  have h1 := hc j (by omega)
  have h2 : (p.take i).getD j (false, []) = p.getD j (false, []) := by simp [List.getD, List.getElem?_take, hj]
  rw [h2]
  exact h1
theorem IsBlocks.one {w : World} {h : Nat} {e : Bool} {u : Value} {l : List Int} {T : TypeId} (hh : w.heap[h]? = some (.cells #[.bool e, u] T (0, 0))) (hu : IsInts w u l) : IsBlocks w (.slice (some ⟨h, 0, none⟩) 1 1) [(e, l)] := by
  have hlt : h < w.heap.size := (Array.getElem?_eq_some_iff.1 hh).1
  refine ⟨some ⟨h, 0, none⟩, 1, rfl, ⟨Nat.le_refl _, fun h => by cases h⟩, by omega, by simp, h, 0, fun _ => ⟨rfl, hlt⟩, fun j hj => ?_⟩
  have : j = 0 := by simpa using hj
  subst this
  exact ⟨by simp [World.cell?, hh], u, by simp [World.cell?, hh], hu⟩
theorem IsBlocks.from1 {w : World} {b off n cap : Nat} {p : List Blk} (H : IsBlocks w (.slice (some ⟨b, off, none⟩) n cap) p) (hn : 1 ≤ n) {A : Option Addr} (hA : A = if cap = 1 then some ⟨b, off, none⟩ else some ⟨b, off + 2, none⟩) : IsBlocks w (.slice A (n - 1) (cap - 1)) (p.drop 1) := by
  obtain ⟨a', cap', e, hcp, hc2, hl, b', off', ha, hc⟩ := H
  injection e with e1 e2 e3
  subst e3
  have hne : p ≠ [] := by intro e; rw [e] at e2; simp at e2; omega
  obtain ⟨g1, g2⟩ := ha hne
  rw [← e1] at g1
  injection g1 with g1
  injection g1 with g1 g3 _
  subst g1; subst g3
  have hdl : (p.drop 1).length = n - 1 := by rw [List.length_drop]; omega
  have hA1 : A ≠ none := by rw [hA]; split <;> (intro h; cases h)
  refine ⟨A, cap - 1, by rw [hdl], ⟨by omega, fun h => absurd h hA1⟩, by omega, by omega, b, off + 2, fun hne2 => ⟨?_, g2⟩, fun j hj => ?_⟩
  · have : (p.drop 1).length ≠ 0 := fun h => hne2 (List.eq_nil_of_length_eq_zero h)
    rw [hA, if_neg (by omega)]
  · rw [hdl] at hj
    have h1 := hc (j + 1) (by omega)
    have h2 : (p.drop 1).getD j (false, []) = p.getD (j + 1) (false, []) := by simp [List.getD, Nat.add_comm]
    rw [h2, show off + 2 + j * 2 = off + (j + 1) * 2 from by omega]
    exact h1

def ClosePost (w : World) (p : List Blk) (C : List (List Int)) (vc : Value) (e : Ending) (w' : World) : Prop :=
  (((closeR p C).2 = 0 ∧ ∃ v t, e = .returned (.tuple #[.agg #[v, vc], .int .i64 0]) ∧ JoinSt w' w.heap.size v t ∧ shapeT t = (closeR p C).1) ∨
   ((closeR p C).2 ≠ 0 ∧ e = .returned (.tuple #[.agg #[.slice none 0 0, .slice none 0 0], .int .i64 (closeR p C).2]))) ∧ Below w.heap.size w w'
theorem freeL_len (f : List (List Int)) (bd : List Int) : (freeL f bd).length ≤ tot f := by
  unfold freeL
  rw [ascI_len]
  refine Nat.le_trans (freeUp_len _ _) ?_
  unfold occL tot
  rw [List.length_map, List.length_flatten]
  exact Nat.le_refl _
theorem closeB_flat (p : List Blk) (C : List (List Int)) (hp : mayP p = true) (hc : mayCnfB C = true) : (flatB (closeB p C)).length ≤ 4000000 := by
  have h1 := (mayP_len hp).1
  have h2 := freeL_len C (flatB p)
  have h3 : tot C ≤ 200000 := by
    unfold mayCnfB at hc
    rw [decide_eq_true_eq] at hc
    exact hc.2.1
  have h4 : (flatB (closeB p C)).length = (flatB p).length + (freeL C (flatB p)).length := by
    unfold closeB
    have h5 : (flatB p).length = (flatB (p.take (atL p))).length + (flatB (p.drop (atL p))).length := by
      unfold flatB
      rw [← List.length_append, ← List.flatten_append, ← List.map_append, List.take_append_drop]
    rw [h5]
    unfold flatB
    simp only [List.map_append, List.flatten_append, List.length_append, List.map_cons, List.map_nil, List.flatten_cons, List.flatten_nil, List.length_nil]
    omega
  omega
theorem qbf_zero (b : Nat) (w : World) (h : w.heap[b]? = some (.cells #[.slice none 0 0, .slice none 0 0] 25 (0, 0))) : w.cell? ⟨b, 0, none⟩ = some (.slice none 0 0) ∧ w.cell? ⟨b, 1, none⟩ = some (.slice none 0 0) ∧ w.frozen? ⟨b, 0, none⟩ = false ∧ w.frozen? ⟨b, 1, none⟩ = false := by
  refine ⟨?_, ?_, ?_, ?_⟩ <;> simp [World.cell?, World.frozen?, h]

theorem qbf_set (b : Nat) (w : World) (x y u v : Value) (h : w.cell? ⟨b, 0, none⟩ = some x) (k : w.cell? ⟨b, 1, none⟩ = some y) :
    ((w.setCell ⟨b, 0, none⟩ u).setCell ⟨b, 1, none⟩ v).cell? ⟨b, 0, none⟩ = some u ∧ ((w.setCell ⟨b, 0, none⟩ u).setCell ⟨b, 1, none⟩ v).cell? ⟨b, 1, none⟩ = some v := by
  have k2 : (w.setCell ⟨b, 0, none⟩ u).cell? ⟨b, 1, none⟩ = some y := (World.cell?_setCell_other w _ _ u (by simp)).trans k
  refine ⟨?_, World.cell?_setCell_same _ _ v k2⟩
  rw [World.cell?_setCell_other _ _ _ v (by simp)]
  exact World.cell?_setCell_same w _ u h
theorem blk_box (w : World) (u : Value) : let W := w.alloc (.cells #[.bool true, u] 53)
    W.cell? ⟨w.heap.size, 0, none⟩ = some (.bool true) ∧ W.cell? ⟨w.heap.size, 1, none⟩ = some u ∧ Below w.heap.size w W ∧ W.heap.size = w.heap.size + 1 :=
  ⟨cell_fresh rfl, cell_fresh rfl, (Below.refl _ _).alloc (Nat.le_refl _) _, by simp⟩
theorem freeL_mem {C : List (List Int)} {S : List Int} {x : Int} (h : x ∈ freeL C S) : x ∈ occL C := by
  unfold freeL at h
  rw [ascI_mem] at h
  have key : ∀ (l T : List Int), x ∈ l.foldl (freeStep S) T → x ∈ T ∨ x ∈ l := by
    intro l
    induction l with
    | nil => intro T h; exact .inl h
    | cons y r ih =>
      intro T h
      rw [List.foldl_cons] at h
      rcases ih _ h with h | h
      · unfold freeStep at h
        split at h
        · exact .inl h
        · rcases List.mem_append.1 h with h | h
          · exact .inl h
          · rw [List.mem_singleton] at h
            exact .inr (by rw [h]; simp)
      · exact .inr (List.mem_cons_of_mem _ h)
  rcases key _ _ h with h | h
  · cases h
  · exact h
theorem freeL_bd {C : List (List Int)} {S : List Int} (h : mayCnfB C = true) : (freeL C S).length ≤ 17592186044416 := by
  have h1 := freeL_len C S
  unfold mayCnfB at h
  rw [decide_eq_true_eq] at h
  omega
theorem freeL_64 {C : List (List Int)} {S : List Int} (h : mayCnfB C = true) : In64 (freeL C S) := by
  intro x hx
  have h1 := freeL_mem hx
  unfold occL at h1
  obtain ⟨y, hy, rfl⟩ := List.mem_map.1 h1
  obtain ⟨l, hl, hy⟩ := List.mem_flatten.1 hy
  unfold mayCnfB at h
  rw [decide_eq_true_eq] at h
  have h2 := mayB_mem (h.2.2 l hl) y hy
  unfold litB at h2
  unfold absOf
  simp at h2
  split <;> omega
theorem blocks_cap {w : World} {a : Option Addr} {n cap : Nat} {p : List Blk} (H : IsBlocks w (.slice a n cap) p) : n ≤ cap ∧ cap ≤ 9223372036854775807 ∧ n ≤ 17592186044416 := by
  obtain ⟨a', cap', e, hcp, hc2, hl, _⟩ := H
  injection e with e1 e2 e3
  subst e3
  exact ⟨by omega, hc2, by omega⟩
theorem IsBlocks.one_ {w : World} {h : Nat} {e : Bool} {u : Value} {l : List Int} {T : TypeId} (hh : w.heap[h]? = some (.cells #[.bool e, u] T (0, 0))) (hu : IsInts w u l) : IsBlocks w (.slice (some ⟨h, 0, none⟩) 1 1) [(e, l)] := IsBlocks.one hh hu
theorem closeB_shape (p : List Blk) (C : List (List Int)) : closeB p C = [p.take (atL p), [(true, freeL C (flatB p))], p.drop (atL p)].flatten := by
  unfold closeB
  simp
theorem closeB_elem {p : List Blk} {C : List (List Int)} (ho : mayP p = true) (hc : mayCnfB C = true) : ∀ x ∈ closeB p C, x.2.length ≤ 17592186044416 ∧ In64 x.2 := by
  intro x hx
  have key : x ∈ p → x.2.length ≤ 17592186044416 ∧ In64 x.2 := by
    intro h
    unfold mayP at ho
    rw [decide_eq_true_eq] at ho
    have hm : ∀ v ∈ x.2, v ∈ flatB p := fun v hv => List.mem_flatten.2 ⟨x.2, List.mem_map.2 ⟨x, h, rfl⟩, hv⟩
    have hs : x.2.length ≤ (flatB p).length := by
      unfold flatB
      obtain ⟨s, t, rfl⟩ := List.append_of_mem h
      simp
      omega
    exact ⟨by have := ho.2.2.2; omega, fun v hv => by have := ho.2.2.1 v (hm v hv); omega⟩
  unfold closeB at hx
  rcases List.mem_append.1 hx with hx | hx
  · rcases List.mem_append.1 hx with hx | hx
    · exact key (List.mem_of_mem_take hx)
    · rw [List.mem_singleton] at hx
      subst hx
      exact ⟨freeL_bd hc, freeL_64 hc⟩
  · exact key (List.mem_of_mem_drop hx)
theorem concat_close (X w4 : World) (hX : Below w4.heap.size w4 X) (S1 S2 u : Value) (p : List Blk) (C : List (List Int)) (HU : IsInts w4 u (freeL C (flatB p))) (h1 : IsBlocks w4 S1 (p.take (atL p))) (h2 : IsBlocks w4 S2 (p.drop (atL p))) (ho : mayP p = true) (hc : mayCnfB C = true) :
    Calls Tryz.prog 66 #[.slice (some ⟨X.heap.size + 1, 0, none⟩) 3 3] ((X.alloc (.cells #[.bool true, u] 53)).alloc (.cells #[S1, .slice (some ⟨X.heap.size, 0, none⟩) 1 1, S2] 22))
      (fun e w' => ∃ v, e = .returned v ∧ IsBlocks w' v (closeB p C) ∧ Below w4.heap.size w4 w') := by
  have hsz := hX.size
  have hba : Below w4.heap.size w4 (X.alloc (.cells #[.bool true, u] 53)) := hX.alloc hsz _
  obtain ⟨Y, hY⟩ : ∃ Y, (X.alloc (.cells #[.bool true, u] 53)).alloc (.cells #[S1, .slice (some ⟨X.heap.size, 0, none⟩) 1 1, S2] 22) = Y := ⟨_, rfl⟩
  have hbY : Below w4.heap.size w4 Y := by rw [← hY]; exact hba.alloc (by simp; omega) _
  have hb2 : Below (X.heap.size + 1) (X.alloc (.cells #[.bool true, u] 53)) Y := by rw [← hY]; have := (Below.refl (X.alloc (.cells #[.bool true, u] 53)).heap.size (X.alloc (.cells #[.bool true, u] 53))).alloc (Nat.le_refl _) (.cells #[S1, .slice (some ⟨X.heap.size, 0, none⟩) 1 1, S2] 22); simpa using this
  have hc0 : ∀ j v, (#[S1, .slice (some ⟨X.heap.size, 0, none⟩) 1 1, S2] : Array Value)[j]? = some v → Y.cell? ⟨X.heap.size + 1, j, none⟩ = some v := fun j v h => by rw [← hY]; exact cell_fresh2 h
  have hblk : Y.heap[X.heap.size]? = some (.cells #[.bool true, u] 53 (0, 0)) := (hb2.block _ (by omega)).trans (World.alloc_heap_new X _)
  have hszY : Y.heap.size = X.heap.size + 2 := by rw [← hY]; simp
  have hj : ∀ j, j < 3 → j = 0 ∨ j = 1 ∨ j = 2 := fun j h => by omega
  have hl := (mayP_len ho).2
  have ht : (p.take (atL p)).length + (p.drop (atL p)).length = p.length := by rw [← List.length_append, List.take_append_drop]
  have h3 := concat_any (X.heap.size + 1) 3 [S1, .slice (some ⟨X.heap.size, 0, none⟩) 1 1, S2] [p.take (atL p), [(true, freeL C (flatB p))], p.drop (atL p)] Y (by omega) (fun j h => by
    rcases hj j h with rfl | rfl | rfl
    · exact hc0 0 _ rfl
    · exact hc0 1 _ rfl
    · exact hc0 2 _ rfl) (fun j h => by
    rcases hj j h with rfl | rfl | rfl
    · exact h1.below hbY (Nat.le_refl _)
    · exact IsBlocks.one hblk (HU.below hbY (Nat.le_refl _))
    · exact h2.below hbY (Nat.le_refl _)) (by unfold totP; simp only [List.map_cons, List.map_nil, List.sum_cons, List.sum_nil, List.length_cons, List.length_nil]; omega) (by unfold totP; simp only [List.map_cons, List.map_nil, List.sum_cons, List.sum_nil, List.length_cons, List.length_nil]; omega) (by simp)
  rw [hY]
  refine h3.mono ?_
  rintro e w' ⟨v, t, rfl, hrow, hsh⟩
  rw [← closeB_shape] at hsh
  refine ⟨v, rfl, ?_, hbY.trans (hrow.below.mono (by omega))⟩
  rw [← hsh]
  have hlen : (shapeT t).length = t.length := shapeT_len t
  refine hrow.blocks (by rw [← hlen, hsh, closeB_shape, totP_flat]; unfold totP; simp only [List.map_cons, List.map_nil, List.sum_cons, List.sum_nil, List.length_cons, List.length_nil]; omega) (fun x hx => ?_)
  have hx2 : (x.1, x.2.2) ∈ closeB p C := by rw [← hsh]; exact List.mem_map.2 ⟨x, hx, rfl⟩
  exact closeB_elem ho hc _ hx2
theorem takeW {P : Program} {md : Region.Mode} {ops : Array Oper} {Q : Exit → Act → World → Prop} {S : World → Prop} {i : Nat} {oi : Oper} {v : Value} (d : Option Tmp) {fuel : Nat} {listed : Array Bool} {a : Act} {w : World} (hi : ops[i]? = some oi) (hd : oi.dst = d)
    (hs : Region.noSelect ops = true) (hf : Region.free md ops listed i = true) (hr : (Region.ready md ops listed).contains i = true)
    (hQ : ∀ c a w, Q (.panic c) (a.put oi.dst v) w → Q (.panic c) a w) (hy : YieldsIf P ops S oi v a) (hS : S w)
    (h : wpAnyH P md ops Q S fuel (listed.setIfInBounds i true) (a.put d v) w) : wpAnyH P md ops Q S (fuel + 1) listed a w := by
  subst hd
  exact wpAnyH_take hi hs hf hr hQ hy hS h

set_option maxRecDepth 100000 in
set_option maxHeartbeats 3200000 in
theorem close_any (vp vc : Value) (p : List Blk) (C : List (List Int)) (w : World) (HP : IsBlocks w vp p) (HC : IsRows w vc C) (hp : p.length ≤ 4000000) :
    Calls Tryz.prog 28 #[.agg #[vp, vc]] w (ClosePost w p C vc) := by
  have HPP := Lib.hid HP
  have HCC := Lib.hid HC
  obtain ⟨W, hW⟩ : ∃ W, (w.alloc (.cells #[vp, vc] 25)).alloc (.cells #[.slice none 0 0, .slice none 0 0] 25) = W := ⟨_, rfl⟩
  have hb0 : Below w.heap.size w W := by rw [← hW]; exact ((Below.refl w.heap.size w).alloc (Nat.le_refl _) _).alloc (by simp) _
  have hsz : W.heap.size = w.heap.size + 2 := by rw [← hW]; simp
  have hA : W.heap[w.heap.size]? = some (.cells #[vp, vc] 25 (0, 0)) := by rw [← hW, (Below.alloc (Below.refl _ _) (Nat.le_refl _) _).block _ (by simp)]; exact World.alloc_heap_new w _
  have hB : W.heap[w.heap.size + 1]? = some (.cells #[.slice none 0 0, .slice none 0 0] 25 (0, 0)) := by
    have := World.alloc_heap_new (w.alloc (.cells #[vp, vc] 25)) (.cells #[.slice none 0 0, .slice none 0 0] 25)
    rw [hW] at this
    simpa using this
  have hq := quantified_any vp p W (HP.below hb0 (Nat.le_refl _)) hp
  obtain ⟨a1, c1, rfl, _⟩ := HP.shape
  obtain ⟨a3, c3, rfl, _⟩ := HC.shape
  have D0 : W.cell? ⟨w.heap.size, 0, none⟩ = some (.slice a1 p.length c1) := by simp [World.cell?, hA]
  have D1 : W.cell? ⟨w.heap.size, 1, none⟩ = some (.slice a3 C.length c3) := by simp [World.cell?, hA]
  have HB0 := Lib.hid hb0
  have HA := Lib.hid hA
  have HB := Lib.hid hB
  unfold QuantPost at hq
  rw [hsz] at hq
  have HX : Hid (∀ X, Below (w.heap.size + 2) W X → X.cell? ⟨w.heap.size, 0, none⟩ = some (.slice a1 p.length c1) ∧ X.cell? ⟨w.heap.size, 1, none⟩ = some (.slice a3 C.length c3) ∧ X.cell? ⟨w.heap.size + 1, 0, none⟩ = some (.slice none 0 0) ∧ X.cell? ⟨w.heap.size + 1, 1, none⟩ = some (.slice none 0 0) ∧ X.frozen? ⟨w.heap.size + 1, 0, none⟩ = false ∧ X.frozen? ⟨w.heap.size + 1, 1, none⟩ = false) := by
    intro X hb
    have hz := qbf_zero (w.heap.size + 1) X ((hb.block _ (by omega)).trans HB.out)
    exact ⟨(hb.cell (p := ⟨w.heap.size, 0, none⟩) (by simp)).trans D0, (hb.cell (p := ⟨w.heap.size, 1, none⟩) (by simp)).trans D1, hz⟩
  have HD0 := Lib.hid D0
  cases ho : mayP p with
  | false =>
    have hq2 : Calls Tryz.prog 55 #[.slice a1 p.length c1] W fun e w' => e = .returned (.tuple #[.map none, .bool false]) ∧ Below (w.heap.size + 2) W w' := hq.mono fun e w' h => by
      obtain ⟨h1, ⟨h2, _, _⟩ | ⟨_, h2⟩⟩ := h
      · rw [ho] at h2; cases h2
      · exact ⟨h2, h1⟩
    have HQ := Lib.hid hq2
    have HR : Hid (closeR p C = ([], 2)) := by show _ = _; unfold closeR; rw [ho]; rfl
    clear hq hq2 HP HC hb0 hA hB ho
    go_enter Tryz.func28, Tryz.ntmps28
    go_upto_region 1 with fail
    go_wp2_with (go_at_call 55; refine HQ.out.mono ?_; rintro e w1 ⟨rfl, hb1⟩; obtain ⟨d0, d1, d2, d3, d4, d5⟩ := HX.out w1 hb1)
    obtain ⟨g0, g1⟩ := qbf_set (w.heap.size + 1) w1 _ _ (.slice none 0 0) (.slice none 0 0) d2 d3
    refine ⟨rfl, .tuple #[.agg #[.slice none 0 0, .slice none 0 0], .int .i64 2], by simp [results, Tryz.f28, go_sem, g0, g1], .inr ?_, ?_⟩
    · rw [HR.out]
      exact ⟨by decide, rfl⟩
    · exact ((HB0.out.trans (hb1.mono (by omega))).setCell (by simp) _).setCell (by simp) _
  | true =>
    have hq2 : Calls Tryz.prog 55 #[.slice a1 p.length c1] W fun e w' => e = .returned (.tuple #[.map (some (w.heap.size + 2)), .bool true]) ∧ SetI w' (w.heap.size + 2) (flatB p) ∧ Below (w.heap.size + 2) W w' := hq.mono fun e w' h => by
      obtain ⟨h1, ⟨_, h2, h3⟩ | ⟨h2, _⟩⟩ := h
      · exact ⟨h2, h3, h1⟩
      · rw [ho] at h2; cases h2
    have HQ := Lib.hid hq2
    have HO := Lib.hid ho
    clear hq hq2 HP HC hb0 hA hB ho
    have HCW : Hid (∀ X, Below (w.heap.size + 2) W X → IsRows X (.slice a3 C.length c3) C) := fun X hb => HCC.out.below (HB0.out.trans (hb.mono (by omega))) (Nat.le_refl _)
    cases hm : mayCnfB C with
    | false =>
      have HR : Hid (closeR p C = ([], 2)) := by show _ = _; unfold closeR; rw [hm]; simp
      have HM : Hid (∀ X, Below (w.heap.size + 2) W X → Calls Tryz.prog 64 #[.slice a3 C.length c3] X fun e w' => e = .returned (.bool false) ∧ X = w') := fun X hb => by have := pcnf_any _ C X (HCW.out X hb); rw [hm] at this; exact this
      clear hm
      go_enter Tryz.func28, Tryz.ntmps28
      go_upto_region 1 with fail
      go_wp2_with (first
        | (go_at_call 55; refine HQ.out.mono ?_; rintro e w1 ⟨rfl, hs1, hb1⟩; obtain ⟨d0, d1, d2, d3, d4, d5⟩ := HX.out w1 hb1)
        | (go_at_call 64; refine (HM.out w1 hb1).mono ?_; rintro e w2 ⟨rfl, rfl⟩))
      obtain ⟨g0, g1⟩ := qbf_set (w.heap.size + 1) w1 _ _ (.slice none 0 0) (.slice none 0 0) d2 d3
      refine ⟨rfl, .tuple #[.agg #[.slice none 0 0, .slice none 0 0], .int .i64 2], by simp [results, Tryz.f28, go_sem, g0, g1], .inr ?_, ?_⟩
      · rw [HR.out]
        exact ⟨by decide, rfl⟩
      · exact ((HB0.out.trans (hb1.mono (by omega))).setCell (by simp) _).setCell (by simp) _
    | true =>
      have HCM := Lib.hid hm
      have HR : Hid (closeR p C = joinA (closeB p C)) := by show _ = _; unfold closeR; rw [if_pos ⟨HO.out, hm⟩]
      have HM : Hid (∀ X, Below (w.heap.size + 2) W X → Calls Tryz.prog 64 #[.slice a3 C.length c3] X fun e w' => e = .returned (.bool true) ∧ X = w') := fun X hb => by have := pcnf_any _ C X (HCW.out X hb); rw [hm] at this; exact this
      have HF : Hid (∀ X, Below (w.heap.size + 2) W X → SetI X (w.heap.size + 2) (flatB p) → Calls Tryz.prog 65 #[.slice a3 C.length c3, .map (some (w.heap.size + 2))] X (RetOwn X (freeL C (flatB p)))) := fun X hb hs => free_any _ C _ _ X (HCW.out X hb) hm hs
      clear hm
      go_enter Tryz.func28, Tryz.ntmps28
      go_upto_region 5 with (first
        | (go_at_call 55; refine HQ.out.mono ?_; rintro e w1 ⟨rfl, hs1, hb1⟩; obtain ⟨d0, d1, d2, d3, d4, d5⟩ := HX.out w1 hb1; have HS1 := Lib.hid hs1; clear hs1)
        | (go_at_call 64; refine (HM.out w1 hb1).mono ?_; rintro e w2 ⟨rfl, rfl⟩))
      have h2 : (p = [] ∨ p ≠ [] ∧ (p.getD 0 dB).1 = false) ∨ p ≠ [] ∧ (p.getD 0 dB).1 = true := by
        by_cases h : p = []
        · exact .inl (.inl h)
        · cases h3 : (p.getD 0 dB).1 with
          | false => exact .inl (.inr ⟨h, rfl⟩)
          | true => exact .inr ⟨h, rfl⟩
      rcases h2 with (rfl | ⟨hpe, hpf⟩) | ⟨hpe, hpt⟩
      · go_upto_region 8 with (first
          | (go_at_call 65; refine (HF.out w1 hb1 HS1.out).mono ?_; rintro e w2 ⟨u, rfl, hu, hb2⟩; have hui := hu.ints (freeL_bd HCM.out) (freeL_64 HCM.out); obtain ⟨ua, uc, rfl, _⟩ := hui.shape; have HUI := Lib.hid hui; clear hu hui))
        obtain ⟨e0, e1, eb, es⟩ := blk_box w2 (.slice ua (freeL C (flatB ([] : List Blk))).length uc)
        generalize w2.alloc (.cells #[.bool true, .slice ua (freeL C (flatB ([] : List Blk))).length uc] 53) = w4 at *
        have hb14 : Below (w.heap.size + 2) W w4 := hb1.trans ((hb2.trans (eb.mono hb2.size)).mono (by rw [← hsz]; exact hb1.size))
        have hat : atL [] = 0 := by unfold atL; simp
        have HP4 : IsBlocks w4 (.slice a1 0 c1) [] := HPP.out.below (HB0.out.trans (hb14.mono (by omega))) (Nat.le_refl _)
        have H1 : Hid (IsBlocks w4 (.slice a1 0 c1) ([].take (atL []))) := by show IsBlocks _ _ _; rw [hat]; exact HP4
        have H2 : Hid (IsBlocks w4 (.slice a1 0 c1) ([].drop (atL []))) := by show IsBlocks _ _ _; rw [hat]; exact HP4
        have HU4 : Hid (IsInts w4 (.slice ua (freeL C (flatB ([] : List Blk))).length uc) (freeL C (flatB ([] : List Blk)))) := HUI.out.below eb (Nat.le_refl _)
        have HCON : Hid (∀ X, Below w4.heap.size w4 X → Calls Tryz.prog 66 #[.slice (some ⟨X.heap.size + 1, 0, none⟩) 3 3] ((X.alloc (.cells #[.bool true, .slice ua (freeL C (flatB ([] : List Blk))).length uc] 53)).alloc (.cells #[.slice a1 0 c1, .slice (some ⟨X.heap.size, 0, none⟩) 1 1, .slice a1 0 c1] 22))
            (fun e w' => ∃ v, e = .returned v ∧ IsBlocks w' v (closeB [] C) ∧ Below w4.heap.size w4 w')) := fun X hX => concat_close X w4 hX _ _ _ [] C HU4.out H1.out H2.out HO.out HCM.out
        have HFL : Hid ((flatB (closeB [] C)).length ≤ 4000000) := closeB_flat [] C HO.out HCM.out
        have HY : Hid (∀ X, Below w4.heap.size w4 X → X.cell? ⟨w.heap.size, 0, none⟩ = some (.slice a1 0 c1) ∧ X.cell? ⟨w2.heap.size, 0, none⟩ = some (.bool true) ∧ X.cell? ⟨w2.heap.size, 1, none⟩ = some (.slice ua (freeL C (flatB ([] : List Blk))).length uc)) := fun X hX => by
          have hx := hX.trans (Below.refl _ _)
          exact ⟨(HX.out X (hb14.trans (hX.mono (by rw [← hsz]; exact hb14.size)))).1, (hX.cell (p := ⟨w2.heap.size, 0, none⟩) (by simp; omega)).trans e0, (hX.cell (p := ⟨w2.heap.size, 1, none⟩) (by simp; omega)).trans e1⟩
        have HB14 := Lib.hid hb14
        clear e0 e1 eb HP4 H1 H2 HU4 hb14 hb2 HUI hat
        go_wp2_with fail
        refine wp_region_held_drew (S := Below w4.heap.size w4) (by kernel_rfl) ((Below.refl _ _).drew) (fun hH => ?_)
        generalize w4.drew = w5 at *
        refine takeW (i := 0) (v := .pointer (some ⟨w.heap.size, 0, none⟩)) (some 42) rfl rfl (by kernel_rfl) (by kernel_rfl) (by kernel_rfl) (fun _ _ _ h => h) (Or.inl ⟨by rfl, ?_⟩) (by assumption) ?_
        · intro wz hSw; obtain ⟨y0, y1, y2⟩ := HY.out wz hSw; go_simp
        try simp only [Act.put, List.setIfInBounds_toArray, List.set_cons_zero, List.set_cons_succ]
        refine takeW (i := 1) (v := .slice a1 0 c1) (some 43) rfl rfl (by kernel_rfl) (by kernel_rfl) (by kernel_rfl) (fun _ _ _ h => h) (Or.inl ⟨by rfl, ?_⟩) (by assumption) ?_
        · intro wz hSw; obtain ⟨y0, y1, y2⟩ := HY.out wz hSw; go_simp
        try simp only [Act.put, List.setIfInBounds_toArray, List.set_cons_zero, List.set_cons_succ]
        refine takeW (i := 2) (v := .int .i64 0) (some 44) rfl rfl (by kernel_rfl) (by kernel_rfl) (by kernel_rfl) (fun _ _ _ h => h) (Or.inl ⟨by rfl, ?_⟩) (by assumption) ?_
        · intro wz hSw; obtain ⟨y0, y1, y2⟩ := HY.out wz hSw; go_simp
        try simp only [Act.put, List.setIfInBounds_toArray, List.set_cons_zero, List.set_cons_succ]
        refine takeW (i := 3) (v := .slice a1 0 c1) (some 45) rfl rfl (by kernel_rfl) (by kernel_rfl) (by kernel_rfl) (fun _ _ _ h => h) (Or.inl ⟨by rfl, ?_⟩) (by assumption) ?_
        · intro wz hSw; obtain ⟨y0, y1, y2⟩ := HY.out wz hSw; go_simp
        try simp only [Act.put, List.setIfInBounds_toArray, List.set_cons_zero, List.set_cons_succ]
        refine takeW (i := 4) (v := .agg #[.bool true, .slice ua (freeL C (flatB ([] : List Blk))).length uc]) (some 46) rfl rfl (by kernel_rfl) (by kernel_rfl) (by kernel_rfl) (fun _ _ _ h => h) (Or.inl ⟨by rfl, ?_⟩) (by assumption) ?_
        · intro wz hSw; obtain ⟨y0, y1, y2⟩ := HY.out wz hSw; go_simp
        try simp only [Act.put, List.setIfInBounds_toArray, List.set_cons_zero, List.set_cons_succ]
        refine takeW (i := 6) (v := .pointer (some ⟨w.heap.size, 0, none⟩)) (some 48) rfl rfl (by kernel_rfl) (by kernel_rfl) (by kernel_rfl) (fun _ _ _ h => h) (Or.inl ⟨by rfl, ?_⟩) (by assumption) ?_
        · intro wz hSw; obtain ⟨y0, y1, y2⟩ := HY.out wz hSw; go_simp
        try simp only [Act.put, List.setIfInBounds_toArray, List.set_cons_zero, List.set_cons_succ]
        refine takeW (i := 7) (v := .slice a1 0 c1) (some 49) rfl rfl (by kernel_rfl) (by kernel_rfl) (by kernel_rfl) (fun _ _ _ h => h) (Or.inl ⟨by rfl, ?_⟩) (by assumption) ?_
        · intro wz hSw; obtain ⟨y0, y1, y2⟩ := HY.out wz hSw; go_simp
        try simp only [Act.put, List.setIfInBounds_toArray, List.set_cons_zero, List.set_cons_succ]
        refine takeW (i := 8) (v := .int .i64 0) (some 50) rfl rfl (by kernel_rfl) (by kernel_rfl) (by kernel_rfl) (fun _ _ _ h => h) (Or.inl ⟨by rfl, ?_⟩) (by assumption) ?_
        · intro wz hSw; obtain ⟨y0, y1, y2⟩ := HY.out wz hSw; go_simp
        try simp only [Act.put, List.setIfInBounds_toArray, List.set_cons_zero, List.set_cons_succ]
        refine takeW (i := 9) (v := .slice a1 0 c1) (some 51) rfl rfl (by kernel_rfl) (by kernel_rfl) (by kernel_rfl) (fun _ _ _ h => h) (Or.inl ⟨by rfl, ?_⟩) (by assumption) ?_
        · intro wz hSw; obtain ⟨y0, y1, y2⟩ := HY.out wz hSw; go_simp
        try simp only [Act.put, List.setIfInBounds_toArray, List.set_cons_zero, List.set_cons_succ]
        refine wpAnyH_ready (rs := [5]) (by kernel_rfl) (by simp) ?_
        refine AllReadyH.cons rfl (fun K hK => ?_) AllReadyH.nil
        go_simp
        refine hK.out _ _ (Below.alloc (by assumption) (by have := hH.size; first | exact this | (simp; omega)) _) (fun hHeld5 => ?_)
        clear hK K
        refine wpAnyH_ready (rs := [10]) (by kernel_rfl) (by simp) ?_
        refine AllReadyH.cons rfl (fun K hK => ?_) AllReadyH.nil
        go_simp
        refine hK.out _ _ (Below.alloc (by assumption) (by have := hH.size; first | exact this | (simp; omega)) _) (fun hHeld10 => ?_)
        clear hK K
        refine wpAnyH_ready (rs := [11]) (by kernel_rfl) (by simp) ?_
        refine AllReadyH.cons rfl (fun K hK => ?_) AllReadyH.nil
        go_simp
        go_wp2_with (go_at_call 66; refine (HCON.out w5 hH).mono ?_; rintro e w6 ⟨v6, rfl, hv6, hb6⟩)
        refine hK.out _ _ hb6 (fun hHeld11 => ?_)
        clear hK K
        refine wpAnyH_ready (rs := [12]) (by kernel_rfl) (by simp) ?_
        refine AllReadyH.cons rfl (fun K hK => ?_) AllReadyH.nil
        go_simp
        go_wp2_with (go_at_call 24; refine (join1_any v6 _ w6 hv6 HFL.out).mono ?_; rintro e w7 ⟨v7, t7, rfl, hj7, hsh7, hb7⟩; obtain ⟨a7, c7, rfl⟩ := hj7.shape; have hb8 := hb6.trans (hb7.mono hb6.size))
        refine hK.out _ _ hb8 (fun hHeld12 => ?_)
        clear hK K
        refine takeW (i := 13) (v := .tuple #[.slice a7 t7.length c7, .int .i64 (joinA (closeB [] C)).2]) (some 41) rfl rfl (by kernel_rfl) (by kernel_rfl) (by kernel_rfl) (fun _ _ _ h => h) (Or.inl ⟨by rfl, ?_⟩) (by assumption) ?_
        · intro wz hSw; obtain ⟨y0, y1, y2⟩ := HY.out wz hSw; go_simp
        try simp only [Act.put, List.setIfInBounds_toArray, List.set_cons_zero, List.set_cons_succ]
        refine takeW (i := 14) (v := .slice a7 t7.length c7) (some 55) rfl rfl (by kernel_rfl) (by kernel_rfl) (by kernel_rfl) (fun _ _ _ h => h) (Or.inl ⟨by rfl, ?_⟩) (by assumption) ?_
        · intro wz hSw; obtain ⟨y0, y1, y2⟩ := HY.out wz hSw; go_simp
        try simp only [Act.put, List.setIfInBounds_toArray, List.set_cons_zero, List.set_cons_succ]
        refine takeW (i := 15) (v := .int .i64 (joinA (closeB [] C)).2) (some 56) rfl rfl (by kernel_rfl) (by kernel_rfl) (by kernel_rfl) (fun _ _ _ h => h) (Or.inl ⟨by rfl, ?_⟩) (by assumption) ?_
        · intro wz hSw; obtain ⟨y0, y1, y2⟩ := HY.out wz hSw; go_simp
        try simp only [Act.put, List.setIfInBounds_toArray, List.set_cons_zero, List.set_cons_succ]
        refine takeW (i := 16) (v := .slice a7 t7.length c7) (some 8) rfl rfl (by kernel_rfl) (by kernel_rfl) (by kernel_rfl) (fun _ _ _ h => h) (Or.inl ⟨by rfl, ?_⟩) (by assumption) ?_
        · intro wz hSw; obtain ⟨y0, y1, y2⟩ := HY.out wz hSw; go_simp
        try simp only [Act.put, List.setIfInBounds_toArray, List.set_cons_zero, List.set_cons_succ]
        refine takeW (i := 17) (v := .int .i64 (joinA (closeB [] C)).2) (some 9) rfl rfl (by kernel_rfl) (by kernel_rfl) (by kernel_rfl) (fun _ _ _ h => h) (Or.inl ⟨by rfl, ?_⟩) (by assumption) ?_
        · intro wz hSw; obtain ⟨y0, y1, y2⟩ := HY.out wz hSw; go_simp
        try simp only [Act.put, List.setIfInBounds_toArray, List.set_cons_zero, List.set_cons_succ]
        refine wpAnyH_done (by kernel_rfl) ?_ _
        have hx7 := HX.out w7 (HB14.out.trans (hb8.mono (by rw [← hsz]; exact HB14.out.size)))
        obtain ⟨z0, z1, z2, z3, z4, z5⟩ := hx7
        have HB7 := Lib.hid (HB0.out.trans ((HB14.out.trans (hb8.mono (by rw [← hsz]; exact HB14.out.size))).mono (by omega)))
        have hn6 : w.heap.size + 2 ≤ w6.heap.size := by have h1 := hb6.size; have h2 := HB14.out.size; omega
        have HJ7 := Lib.hid hj7
        have HSH := Lib.hid hsh7
        clear hj7 hsh7 HB14 HX HY HCON
        obtain ⟨cj, hcj⟩ : ∃ c, (joinA (closeB [] C)).2 = c := ⟨_, rfl⟩
        rw [hcj]
        by_cases hc0 : cj = 0
        · subst hc0
          go_wp2
          obtain ⟨g0, g1⟩ := qbf_set (w.heap.size + 1) w7 _ _ (.slice a7 t7.length c7) (.slice a3 C.length c3) z2 z3
          have hs2 := (HJ7.out.keptS (Kept.setCell w7 ⟨w.heap.size + 1, 0, none⟩ (.slice a7 t7.length c7)) (fun g hg e => by simp only at e; omega)).keptS (Kept.setCell _ ⟨w.heap.size + 1, 1, none⟩ (.slice a3 C.length c3)) (fun g hg e => by simp only at e; omega)
          refine ⟨rfl, .tuple #[.agg #[.slice a7 t7.length c7, .slice a3 C.length c3], .int .i64 0], by simp [results, Tryz.f28, go_sem, g0, g1], .inl ?_, ?_⟩
          · rw [HR.out]
            exact ⟨hcj, _, t7, rfl, hs2.mono (by omega), HSH.out⟩
          · exact (HB7.out.setCell (by simp) _).setCell (by simp) _
        · have hcb : (cj != 0) = true := by simpa using hc0
          have HNE := Lib.hid hc0
          clear hc0
          go_wp2
          obtain ⟨g0, g1⟩ := qbf_set (w.heap.size + 1) w7 _ _ (.slice none 0 0) (.slice none 0 0) z2 z3
          refine ⟨rfl, .tuple #[.agg #[.slice none 0 0, .slice none 0 0], .int .i64 cj], by simp [results, Tryz.f28, go_sem, g0, g1], .inr ?_, ?_⟩
          · rw [HR.out, hcj]
            exact ⟨HNE.out, rfl⟩
          · exact (HB7.out.setCell (by simp) _).setCell (by simp) _
      · have hlt0 : 0 < p.length := List.length_pos_iff.2 hpe
        obtain ⟨b, off, u0, rfl, hbl, hcx0, hcu0, HU0⟩ := HPP.out.at hlt0
        simp only [Nat.zero_mul, Nat.add_zero] at hcx0
        have hcx := ((HB0.out.trans (hb1.mono (by omega))).cell (p := ⟨b, off, none⟩) hbl).trans hcx0
        rw [hpf] at hcx
        have hcap := blocks_cap HPP.out
        clear hcx0 hcu0 HU0
        go_upto_region 8 with (first
          | (go_at_call 65; refine (HF.out w1 hb1 HS1.out).mono ?_; rintro e w2 ⟨u, rfl, hu, hb2⟩; have hui := hu.ints (freeL_bd HCM.out) (freeL_64 HCM.out); obtain ⟨ua, uc, rfl, _⟩ := hui.shape; have HUI := Lib.hid hui; clear hu hui))
        obtain ⟨e0, e1, eb, es⟩ := blk_box w2 (.slice ua (freeL C (flatB p)).length uc)
        generalize w2.alloc (.cells #[.bool true, .slice ua (freeL C (flatB p)).length uc] 53) = w4 at *
        have hb14 : Below (w.heap.size + 2) W w4 := hb1.trans ((hb2.trans (eb.mono hb2.size)).mono (by rw [← hsz]; exact hb1.size))
        have hat : atL p = 0 := by unfold atL; rw [if_neg]; rintro ⟨_, h⟩; rw [hpf] at h; cases h
        have HP4 : IsBlocks w4 (.slice (some ⟨b, off, none⟩) p.length c1) p := HPP.out.below (HB0.out.trans (hb14.mono (by omega))) (Nat.le_refl _)
        have H1 : Hid (IsBlocks w4 (.slice (some ⟨b, off, none⟩) 0 c1) (p.take (atL p))) := by show IsBlocks _ _ _; rw [hat]; exact HP4.upto (Nat.zero_le _)
        have H2 : Hid (IsBlocks w4 (.slice (some ⟨b, off, none⟩) p.length c1) (p.drop (atL p))) := by show IsBlocks _ _ _; rw [hat]; exact HP4
        have HU4 : Hid (IsInts w4 (.slice ua (freeL C (flatB p)).length uc) (freeL C (flatB p))) := HUI.out.below eb (Nat.le_refl _)
        have HCON : Hid (∀ X, Below w4.heap.size w4 X → Calls Tryz.prog 66 #[.slice (some ⟨X.heap.size + 1, 0, none⟩) 3 3] ((X.alloc (.cells #[.bool true, .slice ua (freeL C (flatB p)).length uc] 53)).alloc (.cells #[.slice (some ⟨b, off, none⟩) 0 c1, .slice (some ⟨X.heap.size, 0, none⟩) 1 1, .slice (some ⟨b, off, none⟩) p.length c1] 22))
            (fun e w' => ∃ v, e = .returned v ∧ IsBlocks w' v (closeB p C) ∧ Below w4.heap.size w4 w')) := fun X hX => concat_close X w4 hX _ _ _ p C HU4.out H1.out H2.out HO.out HCM.out
        have HFL : Hid ((flatB (closeB p C)).length ≤ 4000000) := closeB_flat p C HO.out HCM.out
        have HY : Hid (∀ X, Below w4.heap.size w4 X → X.cell? ⟨w.heap.size, 0, none⟩ = some (.slice (some ⟨b, off, none⟩) p.length c1) ∧ X.cell? ⟨w2.heap.size, 0, none⟩ = some (.bool true) ∧ X.cell? ⟨w2.heap.size, 1, none⟩ = some (.slice ua (freeL C (flatB p)).length uc)) := fun X hX => by
          have hx := hX.trans (Below.refl _ _)
          exact ⟨(HX.out X (hb14.trans (hX.mono (by rw [← hsz]; exact hb14.size)))).1, (hX.cell (p := ⟨w2.heap.size, 0, none⟩) (by simp; omega)).trans e0, (hX.cell (p := ⟨w2.heap.size, 1, none⟩) (by simp; omega)).trans e1⟩
        have HB14 := Lib.hid hb14
        clear e0 e1 eb HP4 H1 H2 HU4 hb14 hb2 HUI hat
        go_wp2_with fail
        refine wp_region_held_drew (S := Below w4.heap.size w4) (by kernel_rfl) ((Below.refl _ _).drew) (fun hH => ?_)
        generalize w4.drew = w5 at *
        refine takeW (i := 0) (v := .pointer (some ⟨w.heap.size, 0, none⟩)) (some 42) rfl rfl (by kernel_rfl) (by kernel_rfl) (by kernel_rfl) (fun _ _ _ h => h) (Or.inl ⟨by rfl, ?_⟩) (by assumption) ?_
        · intro wz hSw; obtain ⟨y0, y1, y2⟩ := HY.out wz hSw; go_simp
        try simp only [Act.put, List.setIfInBounds_toArray, List.set_cons_zero, List.set_cons_succ]
        refine takeW (i := 1) (v := .slice (some ⟨b, off, none⟩) p.length c1) (some 43) rfl rfl (by kernel_rfl) (by kernel_rfl) (by kernel_rfl) (fun _ _ _ h => h) (Or.inl ⟨by rfl, ?_⟩) (by assumption) ?_
        · intro wz hSw; obtain ⟨y0, y1, y2⟩ := HY.out wz hSw; go_simp
        try simp only [Act.put, List.setIfInBounds_toArray, List.set_cons_zero, List.set_cons_succ]
        refine takeW (i := 2) (v := .int .i64 0) (some 44) rfl rfl (by kernel_rfl) (by kernel_rfl) (by kernel_rfl) (fun _ _ _ h => h) (Or.inl ⟨by rfl, ?_⟩) (by assumption) ?_
        · intro wz hSw; obtain ⟨y0, y1, y2⟩ := HY.out wz hSw; go_simp
        try simp only [Act.put, List.setIfInBounds_toArray, List.set_cons_zero, List.set_cons_succ]
        refine takeW (i := 3) (v := .slice (some ⟨b, off, none⟩) 0 c1) (some 45) rfl rfl (by kernel_rfl) (by kernel_rfl) (by kernel_rfl) (fun _ _ _ h => h) (Or.inl ⟨by rfl, ?_⟩) (by assumption) ?_
        · intro wz hSw; obtain ⟨y0, y1, y2⟩ := HY.out wz hSw; go_simp
        try simp only [Act.put, List.setIfInBounds_toArray, List.set_cons_zero, List.set_cons_succ]
        refine takeW (i := 4) (v := .agg #[.bool true, .slice ua (freeL C (flatB p)).length uc]) (some 46) rfl rfl (by kernel_rfl) (by kernel_rfl) (by kernel_rfl) (fun _ _ _ h => h) (Or.inl ⟨by rfl, ?_⟩) (by assumption) ?_
        · intro wz hSw; obtain ⟨y0, y1, y2⟩ := HY.out wz hSw; go_simp
        try simp only [Act.put, List.setIfInBounds_toArray, List.set_cons_zero, List.set_cons_succ]
        refine takeW (i := 6) (v := .pointer (some ⟨w.heap.size, 0, none⟩)) (some 48) rfl rfl (by kernel_rfl) (by kernel_rfl) (by kernel_rfl) (fun _ _ _ h => h) (Or.inl ⟨by rfl, ?_⟩) (by assumption) ?_
        · intro wz hSw; obtain ⟨y0, y1, y2⟩ := HY.out wz hSw; go_simp
        try simp only [Act.put, List.setIfInBounds_toArray, List.set_cons_zero, List.set_cons_succ]
        refine takeW (i := 7) (v := .slice (some ⟨b, off, none⟩) p.length c1) (some 49) rfl rfl (by kernel_rfl) (by kernel_rfl) (by kernel_rfl) (fun _ _ _ h => h) (Or.inl ⟨by rfl, ?_⟩) (by assumption) ?_
        · intro wz hSw; obtain ⟨y0, y1, y2⟩ := HY.out wz hSw; go_simp
        try simp only [Act.put, List.setIfInBounds_toArray, List.set_cons_zero, List.set_cons_succ]
        refine takeW (i := 8) (v := .int .i64 0) (some 50) rfl rfl (by kernel_rfl) (by kernel_rfl) (by kernel_rfl) (fun _ _ _ h => h) (Or.inl ⟨by rfl, ?_⟩) (by assumption) ?_
        · intro wz hSw; obtain ⟨y0, y1, y2⟩ := HY.out wz hSw; go_simp
        try simp only [Act.put, List.setIfInBounds_toArray, List.set_cons_zero, List.set_cons_succ]
        refine takeW (i := 9) (v := .slice (some ⟨b, off, none⟩) p.length c1) (some 51) rfl rfl (by kernel_rfl) (by kernel_rfl) (by kernel_rfl) (fun _ _ _ h => h) (Or.inl ⟨by rfl, ?_⟩) (by assumption) ?_
        · intro wz hSw; obtain ⟨y0, y1, y2⟩ := HY.out wz hSw; go_simp
        try simp only [Act.put, List.setIfInBounds_toArray, List.set_cons_zero, List.set_cons_succ]
        refine wpAnyH_ready (rs := [5]) (by kernel_rfl) (by simp) ?_
        refine AllReadyH.cons rfl (fun K hK => ?_) AllReadyH.nil
        go_simp
        refine hK.out _ _ (Below.alloc (by assumption) (by have := hH.size; first | exact this | (simp; omega)) _) (fun hHeld5 => ?_)
        clear hK K
        refine wpAnyH_ready (rs := [10]) (by kernel_rfl) (by simp) ?_
        refine AllReadyH.cons rfl (fun K hK => ?_) AllReadyH.nil
        go_simp
        refine hK.out _ _ (Below.alloc (by assumption) (by have := hH.size; first | exact this | (simp; omega)) _) (fun hHeld10 => ?_)
        clear hK K
        refine wpAnyH_ready (rs := [11]) (by kernel_rfl) (by simp) ?_
        refine AllReadyH.cons rfl (fun K hK => ?_) AllReadyH.nil
        go_simp
        go_wp2_with (go_at_call 66; refine (HCON.out w5 hH).mono ?_; rintro e w6 ⟨v6, rfl, hv6, hb6⟩)
        refine hK.out _ _ hb6 (fun hHeld11 => ?_)
        clear hK K
        refine wpAnyH_ready (rs := [12]) (by kernel_rfl) (by simp) ?_
        refine AllReadyH.cons rfl (fun K hK => ?_) AllReadyH.nil
        go_simp
        go_wp2_with (go_at_call 24; refine (join1_any v6 _ w6 hv6 HFL.out).mono ?_; rintro e w7 ⟨v7, t7, rfl, hj7, hsh7, hb7⟩; obtain ⟨a7, c7, rfl⟩ := hj7.shape; have hb8 := hb6.trans (hb7.mono hb6.size))
        refine hK.out _ _ hb8 (fun hHeld12 => ?_)
        clear hK K
        refine takeW (i := 13) (v := .tuple #[.slice a7 t7.length c7, .int .i64 (joinA (closeB p C)).2]) (some 41) rfl rfl (by kernel_rfl) (by kernel_rfl) (by kernel_rfl) (fun _ _ _ h => h) (Or.inl ⟨by rfl, ?_⟩) (by assumption) ?_
        · intro wz hSw; obtain ⟨y0, y1, y2⟩ := HY.out wz hSw; go_simp
        try simp only [Act.put, List.setIfInBounds_toArray, List.set_cons_zero, List.set_cons_succ]
        refine takeW (i := 14) (v := .slice a7 t7.length c7) (some 55) rfl rfl (by kernel_rfl) (by kernel_rfl) (by kernel_rfl) (fun _ _ _ h => h) (Or.inl ⟨by rfl, ?_⟩) (by assumption) ?_
        · intro wz hSw; obtain ⟨y0, y1, y2⟩ := HY.out wz hSw; go_simp
        try simp only [Act.put, List.setIfInBounds_toArray, List.set_cons_zero, List.set_cons_succ]
        refine takeW (i := 15) (v := .int .i64 (joinA (closeB p C)).2) (some 56) rfl rfl (by kernel_rfl) (by kernel_rfl) (by kernel_rfl) (fun _ _ _ h => h) (Or.inl ⟨by rfl, ?_⟩) (by assumption) ?_
        · intro wz hSw; obtain ⟨y0, y1, y2⟩ := HY.out wz hSw; go_simp
        try simp only [Act.put, List.setIfInBounds_toArray, List.set_cons_zero, List.set_cons_succ]
        refine takeW (i := 16) (v := .slice a7 t7.length c7) (some 8) rfl rfl (by kernel_rfl) (by kernel_rfl) (by kernel_rfl) (fun _ _ _ h => h) (Or.inl ⟨by rfl, ?_⟩) (by assumption) ?_
        · intro wz hSw; obtain ⟨y0, y1, y2⟩ := HY.out wz hSw; go_simp
        try simp only [Act.put, List.setIfInBounds_toArray, List.set_cons_zero, List.set_cons_succ]
        refine takeW (i := 17) (v := .int .i64 (joinA (closeB p C)).2) (some 9) rfl rfl (by kernel_rfl) (by kernel_rfl) (by kernel_rfl) (fun _ _ _ h => h) (Or.inl ⟨by rfl, ?_⟩) (by assumption) ?_
        · intro wz hSw; obtain ⟨y0, y1, y2⟩ := HY.out wz hSw; go_simp
        try simp only [Act.put, List.setIfInBounds_toArray, List.set_cons_zero, List.set_cons_succ]
        refine wpAnyH_done (by kernel_rfl) ?_ _
        have hx7 := HX.out w7 (HB14.out.trans (hb8.mono (by rw [← hsz]; exact HB14.out.size)))
        obtain ⟨z0, z1, z2, z3, z4, z5⟩ := hx7
        have HB7 := Lib.hid (HB0.out.trans ((HB14.out.trans (hb8.mono (by rw [← hsz]; exact HB14.out.size))).mono (by omega)))
        have hn6 : w.heap.size + 2 ≤ w6.heap.size := by have h1 := hb6.size; have h2 := HB14.out.size; omega
        have HJ7 := Lib.hid hj7
        have HSH := Lib.hid hsh7
        clear hj7 hsh7 HB14 HX HY HCON
        obtain ⟨cj, hcj⟩ : ∃ c, (joinA (closeB p C)).2 = c := ⟨_, rfl⟩
        rw [hcj]
        by_cases hc0 : cj = 0
        · subst hc0
          go_wp2
          obtain ⟨g0, g1⟩ := qbf_set (w.heap.size + 1) w7 _ _ (.slice a7 t7.length c7) (.slice a3 C.length c3) z2 z3
          have hs2 := (HJ7.out.keptS (Kept.setCell w7 ⟨w.heap.size + 1, 0, none⟩ (.slice a7 t7.length c7)) (fun g hg e => by simp only at e; omega)).keptS (Kept.setCell _ ⟨w.heap.size + 1, 1, none⟩ (.slice a3 C.length c3)) (fun g hg e => by simp only at e; omega)
          refine ⟨rfl, .tuple #[.agg #[.slice a7 t7.length c7, .slice a3 C.length c3], .int .i64 0], by simp [results, Tryz.f28, go_sem, g0, g1], .inl ?_, ?_⟩
          · rw [HR.out]
            exact ⟨hcj, _, t7, rfl, hs2.mono (by omega), HSH.out⟩
          · exact (HB7.out.setCell (by simp) _).setCell (by simp) _
        · have hcb : (cj != 0) = true := by simpa using hc0
          have HNE := Lib.hid hc0
          clear hc0
          go_wp2
          obtain ⟨g0, g1⟩ := qbf_set (w.heap.size + 1) w7 _ _ (.slice none 0 0) (.slice none 0 0) z2 z3
          refine ⟨rfl, .tuple #[.agg #[.slice none 0 0, .slice none 0 0], .int .i64 cj], by simp [results, Tryz.f28, go_sem, g0, g1], .inr ?_, ?_⟩
          · rw [HR.out, hcj]
            exact ⟨HNE.out, rfl⟩
          · exact (HB7.out.setCell (by simp) _).setCell (by simp) _
      · have hlt0 : 0 < p.length := List.length_pos_iff.2 hpe
        obtain ⟨b, off, u0, rfl, hbl, hcx0, hcu0, HU0⟩ := HPP.out.at hlt0
        simp only [Nat.zero_mul, Nat.add_zero] at hcx0
        have hcx := ((HB0.out.trans (hb1.mono (by omega))).cell (p := ⟨b, off, none⟩) hbl).trans hcx0
        rw [hpt] at hcx
        have hcap := blocks_cap HPP.out
        clear hcx0 hcu0 HU0
        go_upto_region 8 with (first
          | (go_at_call 65; refine (HF.out w1 hb1 HS1.out).mono ?_; rintro e w2 ⟨u, rfl, hu, hb2⟩; have hui := hu.ints (freeL_bd HCM.out) (freeL_64 HCM.out); obtain ⟨ua, uc, rfl, _⟩ := hui.shape; have HUI := Lib.hid hui; clear hu hui))
        obtain ⟨e0, e1, eb, es⟩ := blk_box w2 (.slice ua (freeL C (flatB p)).length uc)
        generalize w2.alloc (.cells #[.bool true, .slice ua (freeL C (flatB p)).length uc] 53) = w4 at *
        have hb14 : Below (w.heap.size + 2) W w4 := hb1.trans ((hb2.trans (eb.mono hb2.size)).mono (by rw [← hsz]; exact hb1.size))
        have hat : atL p = 1 := by unfold atL; rw [if_pos ⟨hpe, hpt⟩]
        obtain ⟨A2, hA2⟩ : ∃ A, (if c1 = 1 then some (⟨b, off, none⟩ : Addr) else some ⟨b, off + 2, none⟩) = A := ⟨_, rfl⟩
        have HA2 := Lib.hid hA2
        have HP4 : IsBlocks w4 (.slice (some ⟨b, off, none⟩) p.length c1) p := HPP.out.below (HB0.out.trans (hb14.mono (by omega))) (Nat.le_refl _)
        have H1 : Hid (IsBlocks w4 (.slice (some ⟨b, off, none⟩) 1 c1) (p.take (atL p))) := by show IsBlocks _ _ _; rw [hat]; exact HP4.upto hlt0
        have H2 : Hid (IsBlocks w4 (.slice A2 (p.length - 1) (c1 - 1)) (p.drop (atL p))) := by show IsBlocks _ _ _; rw [hat]; exact HP4.from1 hlt0 HA2.out.symm
        have HU4 : Hid (IsInts w4 (.slice ua (freeL C (flatB p)).length uc) (freeL C (flatB p))) := HUI.out.below eb (Nat.le_refl _)
        have HCON : Hid (∀ X, Below w4.heap.size w4 X → Calls Tryz.prog 66 #[.slice (some ⟨X.heap.size + 1, 0, none⟩) 3 3] ((X.alloc (.cells #[.bool true, .slice ua (freeL C (flatB p)).length uc] 53)).alloc (.cells #[.slice (some ⟨b, off, none⟩) 1 c1, .slice (some ⟨X.heap.size, 0, none⟩) 1 1, .slice A2 (p.length - 1) (c1 - 1)] 22))
            (fun e w' => ∃ v, e = .returned v ∧ IsBlocks w' v (closeB p C) ∧ Below w4.heap.size w4 w')) := fun X hX => concat_close X w4 hX _ _ _ p C HU4.out H1.out H2.out HO.out HCM.out
        have HFL : Hid ((flatB (closeB p C)).length ≤ 4000000) := closeB_flat p C HO.out HCM.out
        have HY : Hid (∀ X, Below w4.heap.size w4 X → X.cell? ⟨w.heap.size, 0, none⟩ = some (.slice (some ⟨b, off, none⟩) p.length c1) ∧ X.cell? ⟨w2.heap.size, 0, none⟩ = some (.bool true) ∧ X.cell? ⟨w2.heap.size, 1, none⟩ = some (.slice ua (freeL C (flatB p)).length uc)) := fun X hX => by
          have hx := hX.trans (Below.refl _ _)
          exact ⟨(HX.out X (hb14.trans (hX.mono (by rw [← hsz]; exact hb14.size)))).1, (hX.cell (p := ⟨w2.heap.size, 0, none⟩) (by simp; omega)).trans e0, (hX.cell (p := ⟨w2.heap.size, 1, none⟩) (by simp; omega)).trans e1⟩
        have HB14 := Lib.hid hb14
        clear hA2 e0 e1 eb HP4 H1 H2 HU4 hb14 hb2 HUI hat
        go_wp2_with fail
        refine wp_region_held_drew (S := Below w4.heap.size w4) (by kernel_rfl) ((Below.refl _ _).drew) (fun hH => ?_)
        generalize w4.drew = w5 at *
        refine takeW (i := 0) (v := .pointer (some ⟨w.heap.size, 0, none⟩)) (some 42) rfl rfl (by kernel_rfl) (by kernel_rfl) (by kernel_rfl) (fun _ _ _ h => h) (Or.inl ⟨by rfl, ?_⟩) (by assumption) ?_
        · intro wz hSw; obtain ⟨y0, y1, y2⟩ := HY.out wz hSw; go_simp
        try simp only [Act.put, List.setIfInBounds_toArray, List.set_cons_zero, List.set_cons_succ]
        refine takeW (i := 1) (v := .slice (some ⟨b, off, none⟩) p.length c1) (some 43) rfl rfl (by kernel_rfl) (by kernel_rfl) (by kernel_rfl) (fun _ _ _ h => h) (Or.inl ⟨by rfl, ?_⟩) (by assumption) ?_
        · intro wz hSw; obtain ⟨y0, y1, y2⟩ := HY.out wz hSw; go_simp
        try simp only [Act.put, List.setIfInBounds_toArray, List.set_cons_zero, List.set_cons_succ]
        refine takeW (i := 2) (v := .int .i64 1) (some 44) rfl rfl (by kernel_rfl) (by kernel_rfl) (by kernel_rfl) (fun _ _ _ h => h) (Or.inl ⟨by rfl, ?_⟩) (by assumption) ?_
        · intro wz hSw; obtain ⟨y0, y1, y2⟩ := HY.out wz hSw; go_simp
        try simp only [Act.put, List.setIfInBounds_toArray, List.set_cons_zero, List.set_cons_succ]
        refine takeW (i := 3) (v := .slice (some ⟨b, off, none⟩) 1 c1) (some 45) rfl rfl (by kernel_rfl) (by kernel_rfl) (by kernel_rfl) (fun _ _ _ h => h) (Or.inl ⟨by rfl, ?_⟩) (by assumption) ?_
        · intro wz hSw; obtain ⟨y0, y1, y2⟩ := HY.out wz hSw; go_simp; try (intro hlt; exact absurd hlt (by omega))
        try simp only [Act.put, List.setIfInBounds_toArray, List.set_cons_zero, List.set_cons_succ]
        refine takeW (i := 4) (v := .agg #[.bool true, .slice ua (freeL C (flatB p)).length uc]) (some 46) rfl rfl (by kernel_rfl) (by kernel_rfl) (by kernel_rfl) (fun _ _ _ h => h) (Or.inl ⟨by rfl, ?_⟩) (by assumption) ?_
        · intro wz hSw; obtain ⟨y0, y1, y2⟩ := HY.out wz hSw; go_simp
        try simp only [Act.put, List.setIfInBounds_toArray, List.set_cons_zero, List.set_cons_succ]
        refine takeW (i := 6) (v := .pointer (some ⟨w.heap.size, 0, none⟩)) (some 48) rfl rfl (by kernel_rfl) (by kernel_rfl) (by kernel_rfl) (fun _ _ _ h => h) (Or.inl ⟨by rfl, ?_⟩) (by assumption) ?_
        · intro wz hSw; obtain ⟨y0, y1, y2⟩ := HY.out wz hSw; go_simp
        try simp only [Act.put, List.setIfInBounds_toArray, List.set_cons_zero, List.set_cons_succ]
        refine takeW (i := 7) (v := .slice (some ⟨b, off, none⟩) p.length c1) (some 49) rfl rfl (by kernel_rfl) (by kernel_rfl) (by kernel_rfl) (fun _ _ _ h => h) (Or.inl ⟨by rfl, ?_⟩) (by assumption) ?_
        · intro wz hSw; obtain ⟨y0, y1, y2⟩ := HY.out wz hSw; go_simp
        try simp only [Act.put, List.setIfInBounds_toArray, List.set_cons_zero, List.set_cons_succ]
        refine takeW (i := 8) (v := .int .i64 1) (some 50) rfl rfl (by kernel_rfl) (by kernel_rfl) (by kernel_rfl) (fun _ _ _ h => h) (Or.inl ⟨by rfl, ?_⟩) (by assumption) ?_
        · intro wz hSw; obtain ⟨y0, y1, y2⟩ := HY.out wz hSw; go_simp
        try simp only [Act.put, List.setIfInBounds_toArray, List.set_cons_zero, List.set_cons_succ]
        refine takeW (i := 9) (v := .slice A2 (p.length - 1) (c1 - 1)) (some 51) rfl rfl (by kernel_rfl) (by kernel_rfl) (by kernel_rfl) (fun _ _ _ h => h) (Or.inl ⟨by rfl, ?_⟩) (by assumption) ?_
        · intro wz hSw; obtain ⟨y0, y1, y2⟩ := HY.out wz hSw; rw [← HA2.out]; go_simp; try (intro hlt; exact absurd hlt (by omega))
        try simp only [Act.put, List.setIfInBounds_toArray, List.set_cons_zero, List.set_cons_succ]
        refine wpAnyH_ready (rs := [5]) (by kernel_rfl) (by simp) ?_
        refine AllReadyH.cons rfl (fun K hK => ?_) AllReadyH.nil
        go_simp
        refine hK.out _ _ (Below.alloc (by assumption) (by have := hH.size; first | exact this | (simp; omega)) _) (fun hHeld5 => ?_)
        clear hK K
        refine wpAnyH_ready (rs := [10]) (by kernel_rfl) (by simp) ?_
        refine AllReadyH.cons rfl (fun K hK => ?_) AllReadyH.nil
        go_simp
        refine hK.out _ _ (Below.alloc (by assumption) (by have := hH.size; first | exact this | (simp; omega)) _) (fun hHeld10 => ?_)
        clear hK K
        refine wpAnyH_ready (rs := [11]) (by kernel_rfl) (by simp) ?_
        refine AllReadyH.cons rfl (fun K hK => ?_) AllReadyH.nil
        go_simp
        go_wp2_with (go_at_call 66; refine (HCON.out w5 hH).mono ?_; rintro e w6 ⟨v6, rfl, hv6, hb6⟩)
        refine hK.out _ _ hb6 (fun hHeld11 => ?_)
        clear hK K
        refine wpAnyH_ready (rs := [12]) (by kernel_rfl) (by simp) ?_
        refine AllReadyH.cons rfl (fun K hK => ?_) AllReadyH.nil
        go_simp
        go_wp2_with (go_at_call 24; refine (join1_any v6 _ w6 hv6 HFL.out).mono ?_; rintro e w7 ⟨v7, t7, rfl, hj7, hsh7, hb7⟩; obtain ⟨a7, c7, rfl⟩ := hj7.shape; have hb8 := hb6.trans (hb7.mono hb6.size))
        refine hK.out _ _ hb8 (fun hHeld12 => ?_)
        clear hK K
        refine takeW (i := 13) (v := .tuple #[.slice a7 t7.length c7, .int .i64 (joinA (closeB p C)).2]) (some 41) rfl rfl (by kernel_rfl) (by kernel_rfl) (by kernel_rfl) (fun _ _ _ h => h) (Or.inl ⟨by rfl, ?_⟩) (by assumption) ?_
        · intro wz hSw; obtain ⟨y0, y1, y2⟩ := HY.out wz hSw; go_simp
        try simp only [Act.put, List.setIfInBounds_toArray, List.set_cons_zero, List.set_cons_succ]
        refine takeW (i := 14) (v := .slice a7 t7.length c7) (some 55) rfl rfl (by kernel_rfl) (by kernel_rfl) (by kernel_rfl) (fun _ _ _ h => h) (Or.inl ⟨by rfl, ?_⟩) (by assumption) ?_
        · intro wz hSw; obtain ⟨y0, y1, y2⟩ := HY.out wz hSw; go_simp
        try simp only [Act.put, List.setIfInBounds_toArray, List.set_cons_zero, List.set_cons_succ]
        refine takeW (i := 15) (v := .int .i64 (joinA (closeB p C)).2) (some 56) rfl rfl (by kernel_rfl) (by kernel_rfl) (by kernel_rfl) (fun _ _ _ h => h) (Or.inl ⟨by rfl, ?_⟩) (by assumption) ?_
        · intro wz hSw; obtain ⟨y0, y1, y2⟩ := HY.out wz hSw; go_simp
        try simp only [Act.put, List.setIfInBounds_toArray, List.set_cons_zero, List.set_cons_succ]
        refine takeW (i := 16) (v := .slice a7 t7.length c7) (some 8) rfl rfl (by kernel_rfl) (by kernel_rfl) (by kernel_rfl) (fun _ _ _ h => h) (Or.inl ⟨by rfl, ?_⟩) (by assumption) ?_
        · intro wz hSw; obtain ⟨y0, y1, y2⟩ := HY.out wz hSw; go_simp
        try simp only [Act.put, List.setIfInBounds_toArray, List.set_cons_zero, List.set_cons_succ]
        refine takeW (i := 17) (v := .int .i64 (joinA (closeB p C)).2) (some 9) rfl rfl (by kernel_rfl) (by kernel_rfl) (by kernel_rfl) (fun _ _ _ h => h) (Or.inl ⟨by rfl, ?_⟩) (by assumption) ?_
        · intro wz hSw; obtain ⟨y0, y1, y2⟩ := HY.out wz hSw; go_simp
        try simp only [Act.put, List.setIfInBounds_toArray, List.set_cons_zero, List.set_cons_succ]
        refine wpAnyH_done (by kernel_rfl) ?_ _
        have hx7 := HX.out w7 (HB14.out.trans (hb8.mono (by rw [← hsz]; exact HB14.out.size)))
        obtain ⟨z0, z1, z2, z3, z4, z5⟩ := hx7
        have HB7 := Lib.hid (HB0.out.trans ((HB14.out.trans (hb8.mono (by rw [← hsz]; exact HB14.out.size))).mono (by omega)))
        have hn6 : w.heap.size + 2 ≤ w6.heap.size := by have h1 := hb6.size; have h2 := HB14.out.size; omega
        have HJ7 := Lib.hid hj7
        have HSH := Lib.hid hsh7
        clear hj7 hsh7 HB14 HX HY HCON
        obtain ⟨cj, hcj⟩ : ∃ c, (joinA (closeB p C)).2 = c := ⟨_, rfl⟩
        rw [hcj]
        by_cases hc0 : cj = 0
        · subst hc0
          go_wp2
          obtain ⟨g0, g1⟩ := qbf_set (w.heap.size + 1) w7 _ _ (.slice a7 t7.length c7) (.slice a3 C.length c3) z2 z3
          have hs2 := (HJ7.out.keptS (Kept.setCell w7 ⟨w.heap.size + 1, 0, none⟩ (.slice a7 t7.length c7)) (fun g hg e => by simp only at e; omega)).keptS (Kept.setCell _ ⟨w.heap.size + 1, 1, none⟩ (.slice a3 C.length c3)) (fun g hg e => by simp only at e; omega)
          refine ⟨rfl, .tuple #[.agg #[.slice a7 t7.length c7, .slice a3 C.length c3], .int .i64 0], by simp [results, Tryz.f28, go_sem, g0, g1], .inl ?_, ?_⟩
          · rw [HR.out]
            exact ⟨hcj, _, t7, rfl, hs2.mono (by omega), HSH.out⟩
          · exact (HB7.out.setCell (by simp) _).setCell (by simp) _
        · have hcb : (cj != 0) = true := by simpa using hc0
          have HNE := Lib.hid hc0
          clear hc0
          go_wp2
          obtain ⟨g0, g1⟩ := qbf_set (w.heap.size + 1) w7 _ _ (.slice none 0 0) (.slice none 0 0) z2 z3
          refine ⟨rfl, .tuple #[.agg #[.slice none 0 0, .slice none 0 0], .int .i64 cj], by simp [results, Tryz.f28, go_sem, g0, g1], .inr ?_, ?_⟩
          · rw [HR.out, hcj]
            exact ⟨HNE.out, rfl⟩
          · exact (HB7.out.setCell (by simp) _).setCell (by simp) _

end Go.Proofs.YtmiijgjpkkmoaaaGreat
