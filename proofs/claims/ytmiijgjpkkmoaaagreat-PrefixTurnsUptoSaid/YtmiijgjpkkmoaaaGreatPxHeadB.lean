/- skolemlaw03.head: its contracts, its first five regions. -/
import Derived.Test.YtmiijgjpkkmoaaaGreatMpK
import Derived.Test.YtmiijgjpkkmoaaaGreatMpG
import Derived.Deep.DeepCutAuto
namespace Go.Proofs.YtmiijgjpkkmoaaaGreat
open Go.RowKit
set_option linter.unusedVariables false
set_option linter.unusedSimpArgs false

/-- On of the example. -/
theorem on_is (vp : Value) (v : Int) (xs : List Int) (n : Nat) (X : World) (H : IsBlocks X vp exP) (h : onL exP v = (xs, 0)) (h64 : In64 xs) (hl : xs.length ≤ 1000) (hn : n = xs.length) :
    Calls Tryz.prog 21 #[vp, .int .i64 v] X fun e w' => ∃ a c, e = .returned (.tuple #[.slice a n c, .int .i64 0]) ∧ IsInts w' (.slice a n c) xs ∧ Below X.heap.size X w' := by
  refine (on_any vp exP v X H (by decide)).mono ?_
  rintro e w' ⟨u, rfl, ho, hb⟩
  subst hn
  rw [h] at ho ⊢
  simp only at ho
  obtain ⟨a, c, rfl⟩ := ho.shapeA
  exact ⟨a, c, rfl, ho.ints (by omega) h64, hb⟩
/-- Reduce of the example. -/
theorem red_is (vp vl : Value) (l xs : List Int) (cube : Bool) (n : Nat) (X : World) (H : IsBlocks X vp exP) (HL : IsInts X vl l) (hl : l.length ≤ 4000000) (h : l.filter (keepR exP (lastL exP (!cube) l)) = xs) (h64 : In64 xs) (hx : xs.length ≤ 1000) (hn : n = xs.length) :
    Calls Tryz.prog 23 #[vp, vl, .bool cube] X fun e w' => ∃ a c, e = .returned (.slice a n c) ∧ IsInts w' (.slice a n c) xs ∧ Below X.heap.size X w' := by
  refine (reduce_any vp vl exP l cube X H HL hl (by decide)).mono ?_
  rintro e w' ⟨u, rfl, ho, hb⟩
  subst hn
  rw [h] at ho
  obtain ⟨a, c, rfl⟩ := ho.shapeA
  exact ⟨a, c, rfl, ho.ints (by omega) h64, hb⟩
theorem ints_yes (v u : Value) (l : List Int) (X : World) (H : IsInts X v l) (K : IsInts X u l) :
    Calls Tryz.prog 16 #[v, u] X fun e w' => e = .returned (.bool true) ∧ Below X.heap.size X w' := by
  refine (ints_any v u l l X H K).mono ?_
  rintro e w' ⟨rfl, hq⟩
  exact ⟨by unfold sameB; simp, hq.below _⟩
/-- The literal list that a call is given, and an elder list beside it. -/
theorem ints_yes_lit (v : Value) (l : List Int) (X : World) (n : Nat) (cs : Array Value) (H : IsInts X v l) (hcs : cs = (l.map (Value.int .i64)).toArray) (hn : n = l.length) (hl : l.length ≤ 1000000) :
    Calls Tryz.prog 16 #[v, .slice (some ⟨X.heap.size, 0, none⟩) n n] (X.alloc (.cells cs 3)) fun e w' => e = .returned (.bool true) ∧ Below X.heap.size X w' := by
  have hb : Below X.heap.size X (X.alloc (.cells cs 3)) := (Below.refl _ _).alloc (Nat.le_refl _) _
  exact (ints_yes v _ l _ (H.below hb (Nat.le_refl _)) (ints_lit X l cs n 3 hcs hn H.i64X hl)).mono fun e w' h => ⟨h.1, hb.trans (h.2.mono hb.size)⟩
theorem red_lit (vp : Value) (l xs : List Int) (cube : Bool) (n m : Nat) (cs : Array Value) (X : World) (H : IsBlocks X vp exP) (hcs : cs = (l.map (Value.int .i64)).toArray) (hm : m = l.length) (hl : l.length ≤ 1000) (hl64 : In64 l) (h : l.filter (keepR exP (lastL exP (!cube) l)) = xs) (h64 : In64 xs) (hx : xs.length ≤ 1000) (hn : n = xs.length) :
    Calls Tryz.prog 23 #[vp, .slice (some ⟨X.heap.size, 0, none⟩) m m, .bool cube] (X.alloc (.cells cs 3)) fun e w' => ∃ a c, e = .returned (.slice a n c) ∧ IsInts w' (.slice a n c) xs ∧ Below X.heap.size X w' := by
  have hb : Below X.heap.size X (X.alloc (.cells cs 3)) := (Below.refl _ _).alloc (Nat.le_refl _) _
  refine (red_is vp _ l xs cube n _ (H.below hb (Nat.le_refl _)) (ints_lit X l cs m 3 hcs hm hl64 (by omega)) (by omega) h h64 hx hn).mono ?_
  rintro e w' ⟨a, c, rfl, hi, hbb⟩
  exact ⟨a, c, rfl, hi, hb.trans (hbb.mono hb.size)⟩

theorem may_yes (vp : Value) (X : World) (H : IsBlocks X vp exP) : Calls Tryz.prog 22 #[vp] X fun e w' => e = .returned (.bool true) ∧ Below X.heap.size X w' := by
  have h := pmay_any vp exP X H (by decide)
  rw [exP_may] at h
  exact h

theorem join_lit (X : World) (t : List Trp) (cs : Array Value) (n : Nat) (p q : List Blk) (hcs : cs = (cellsT t).toArray) (hn : n = t.length) (h : ∀ x ∈ t, IsInts X x.2.1 x.2.2) (hp : shapeT t = p) (hj : joinA p = (q, 0)) (hl : t.length ≤ 1000) (hf : (flatB p).length ≤ 1000) (hs : smallB q = true) :
    Calls Tryz.prog 24 #[.slice (some ⟨X.heap.size, 0, none⟩) n n] (X.alloc (.cells cs 53)) fun e w' => ∃ a m c, m = q.length ∧ e = .returned (.tuple #[.slice a m c, .int .i64 0]) ∧ IsBlocks w' (.slice a m c) q ∧ Below X.heap.size X w' := by
  have hb : Below X.heap.size X (X.alloc (.cells cs 53)) := (Below.refl _ _).alloc (Nat.le_refl _) _
  have hB := blocks_lit X t cs n 53 hcs hn h (by omega)
  rw [hp] at hB
  refine (join1_any _ p _ hB (by omega)).mono ?_
  rintro e w' ⟨v, t', rfl, hst, hsh, hbb⟩
  rw [hj] at hsh ⊢
  simp only at hsh
  have h1 := joinst_blocks hbb hst hsh hs
  obtain ⟨a, c, rfl⟩ := hst.shape
  exact ⟨a, t'.length, c, by rw [← hsh, shapeT_len], rfl, h1, hb.trans (hbb.mono hb.size)⟩
theorem less_lit (vp : Value) (l : List Int) (m : Nat) (cs : Array Value) (X : World) (q : List Blk) (H : IsBlocks X vp exP) (hcs : cs = (l.map (Value.int .i64)).toArray) (hm : m = l.length) (hl : l.length ≤ 1000) (hl64 : In64 l) (hj : lessR exP l = (q, 0)) (hs : smallB q = true) :
    Calls Tryz.prog 27 #[vp, .slice (some ⟨X.heap.size, 0, none⟩) m m] (X.alloc (.cells cs 3)) fun e w' => ∃ a m c, m = q.length ∧ e = .returned (.tuple #[.slice a m c, .int .i64 0]) ∧ IsBlocks w' (.slice a m c) q ∧ Below X.heap.size X w' := by
  have hb : Below X.heap.size X (X.alloc (.cells cs 3)) := (Below.refl _ _).alloc (Nat.le_refl _) _
  refine (less_any vp _ exP l _ (H.below hb (Nat.le_refl _)) (ints_lit X l cs m 3 hcs hm hl64 (by omega)) (by decide)).mono ?_
  rintro e w' ⟨v, t', rfl, hst, hsh, hbb⟩
  rw [hj] at hsh ⊢
  simp only at hsh
  have h1 := joinst_blocks hbb hst hsh hs
  obtain ⟨a, c, rfl⟩ := hst.shape
  exact ⟨a, t'.length, c, by rw [← hsh, shapeT_len], rfl, h1, hb.trans (hbb.mono hb.size)⟩

theorem four {X : World} {e1 e2 e3 e4 : Bool} {u1 u2 u3 u4 : Value} {l1 l2 l3 l4 : List Int} (h1 : IsInts X u1 l1) (h2 : IsInts X u2 l2) (h3 : IsInts X u3 l3) (h4 : IsInts X u4 l4) : ∀ x ∈ ([(e1, u1, l1), (e2, u2, l2), (e3, u3, l3), (e4, u4, l4)] : List Trp), IsInts X x.2.1 x.2.2 := by
  intro x hx
  simp only [List.mem_cons, List.not_mem_nil, or_false] at hx
  rcases hx with rfl | rfl | rfl | rfl <;> assumption
theorem cutH {P : Program} {md : Region.Mode} {ops : Array Oper} {Q : Exit → Act → World → Prop} {S : World → Prop} {G : Nat → Nat → World → Prop} {fu : Nat} {li : Array Bool} {f : Nat → Nat → Act} {R : Prop}
    (main : (∀ x y wx, G x y wx → wpAnyH P md ops Q S fu li (f x y) wx) → R) (tail : ∀ x y wx, G x y wx → wpAnyH P md ops Q S fu li (f x y) wx) : R := main tail
theorem twoB {X : World} {e1 e2 : Bool} {u1 u2 : Value} {l1 l2 : List Int} (h1 : IsInts X u1 l1) (h2 : IsInts X u2 l2) : ∀ x ∈ ([(e1, u1, l1), (e2, u2, l2)] : List Trp), IsInts X x.2.1 x.2.2 := by
  intro x hx
  simp only [List.mem_cons, List.not_mem_nil, or_false] at hx
  rcases hx with rfl | rfl <;> assumption
theorem same_yes (v u : Value) (q : List Blk) (X : World) (H : IsBlocks X v q) (K : IsBlocks X u q) :
    Calls Tryz.prog 15 #[v, u] X fun e w' => e = .returned (.bool true) ∧ Below X.heap.size X w' := by
  refine (rsame_any v u q q X H K).mono ?_
  rintro e w' ⟨rfl, hq⟩
  exact ⟨by unfold sameB; simp, hq.below _⟩
theorem all_lit (X : World) (l : List Int) (n : Nat) (cs : Array Value) (hcs : cs = (l.map (Value.int .i64)).toArray) (hn : n = l.length) (h64 : In64 l) (hl : l.length ≤ 1000) :
    Calls Tryz.prog 25 #[.slice (some ⟨X.heap.size, 0, none⟩) n n] (X.alloc (.cells cs 3)) fun e w' => e = .returned (.agg #[.bool false, .slice (some ⟨X.heap.size, 0, none⟩) n n]) ∧ IsInts w' (.slice (some ⟨X.heap.size, 0, none⟩) n n) l ∧ Below X.heap.size X w' := by
  have hb : Below X.heap.size X (X.alloc (.cells cs 3)) := (Below.refl _ _).alloc (Nat.le_refl _) _
  have hi := ints_lit X l cs n 3 hcs hn h64 (by omega)
  exact (all_any _ _ _ _ rfl _).mono fun e w' h => ⟨h.1, hi.below h.2 (Nat.le_refl _), hb.trans (h.2.mono hb.size)⟩
theorem some_lit (X : World) (l : List Int) (n : Nat) (cs : Array Value) (hcs : cs = (l.map (Value.int .i64)).toArray) (hn : n = l.length) (h64 : In64 l) (hl : l.length ≤ 1000) :
    Calls Tryz.prog 26 #[.slice (some ⟨X.heap.size, 0, none⟩) n n] (X.alloc (.cells cs 3)) fun e w' => e = .returned (.agg #[.bool true, .slice (some ⟨X.heap.size, 0, none⟩) n n]) ∧ IsInts w' (.slice (some ⟨X.heap.size, 0, none⟩) n n) l ∧ Below X.heap.size X w' := by
  have hb : Below X.heap.size X (X.alloc (.cells cs 3)) := (Below.refl _ _).alloc (Nat.le_refl _) _
  have hi := ints_lit X l cs n 3 hcs hn h64 (by omega)
  exact (some_any _ _ _ _ rfl _).mono fun e w' h => ⟨h.1, hi.below h.2 (Nat.le_refl _), hb.trans (h.2.mono hb.size)⟩
theorem rows_one (X : World) (u : Value) (l : List Int) (T : TypeId) (H : IsInts X u l) : IsRows (X.alloc (.cells #[u] T)) (.slice (some ⟨X.heap.size, 0, none⟩) 1 1) [l] := by
  have hb : Below X.heap.size X (X.alloc (.cells #[u] T)) := (Below.refl _ _).alloc (Nat.le_refl _) _
  refine ⟨some ⟨X.heap.size, 0, none⟩, 1, rfl, ⟨Nat.le_refl _, fun h => by cases h⟩, by omega, by simp, X.heap.size, 0, fun _ => ⟨rfl, by simp⟩, fun j hj => ?_⟩
  have : j = 0 := by simpa using hj
  subst this
  exact ⟨u, cell_fresh rfl, H.below hb (Nat.le_refl _)⟩
theorem close_lit (X : World) (u : Value) (H : IsInts X u [1]) :
    Calls Tryz.prog 28 #[.agg #[.slice (some ⟨X.heap.size, 0, none⟩) 1 1, .slice (some ⟨X.heap.size + 1 + 1, 0, none⟩) 1 1]]
      (((X.alloc (.cells #[.bool false, u] 53)).alloc (.cells #[.int .i64 1, .int .i64 (-2), .int .i64 3] 3)).alloc (.cells #[.slice (some ⟨X.heap.size + 1, 0, none⟩) 3 3] 26))
      fun e w' => ∃ a c vc, e = .returned (.tuple #[.agg #[.slice a 2 c, .slice (some ⟨X.heap.size + 1 + 1, 0, none⟩) 1 1], .int .i64 0]) ∧ IsBlocks w' (.slice a 2 c) [(true, [2, 3]), (false, [1])] ∧ Below X.heap.size X w' ∧ vc = c := by
  have hB := blocks_lit X [(false, u, [1])] _ 1 53 rfl rfl (by intro x hx; rw [List.mem_singleton] at hx; subst hx; exact H) (by simp)
  obtain ⟨X1, h1⟩ : ∃ X1, X.alloc (.cells #[.bool false, u] 53) = X1 := ⟨_, rfl⟩
  have z1 : X1.heap.size = X.heap.size + 1 := by rw [← h1]; simp
  have b1 : Below X.heap.size X X1 := by rw [← h1]; exact (Below.refl _ _).alloc (Nat.le_refl _) _
  have hB1 : IsBlocks X1 (.slice (some ⟨X.heap.size, 0, none⟩) 1 1) [(false, [1])] := by rw [← h1]; exact hB
  rw [h1]
  have hI := ints_lit X1 [1, -2, 3] _ 3 3 rfl rfl (in64X _ (by decide)) (by decide)
  rw [z1] at hI
  obtain ⟨X2, h2⟩ : ∃ X2, X1.alloc (.cells #[.int .i64 1, .int .i64 (-2), .int .i64 3] 3) = X2 := ⟨_, rfl⟩
  have z2 : X2.heap.size = X.heap.size + 1 + 1 := by rw [← h2]; simp [z1]
  have b2 : Below X1.heap.size X1 X2 := by rw [← h2]; exact (Below.refl _ _).alloc (Nat.le_refl _) _
  have hI2 : IsInts X2 (.slice (some ⟨X.heap.size + 1, 0, none⟩) 3 3) [1, -2, 3] := by rw [← h2]; exact hI
  rw [h2]
  have hR := rows_one X2 _ _ 26 hI2
  rw [z2] at hR
  obtain ⟨X3, h3⟩ : ∃ X3, X2.alloc (.cells #[.slice (some ⟨X.heap.size + 1, 0, none⟩) 3 3] 26) = X3 := ⟨_, rfl⟩
  have b3 : Below X2.heap.size X2 X3 := by rw [← h3]; exact (Below.refl _ _).alloc (Nat.le_refl _) _
  rw [h3] at hR ⊢
  have hB3 : IsBlocks X3 (.slice (some ⟨X.heap.size, 0, none⟩) 1 1) [(false, [1])] := (hB1.below b2 (Nat.le_refl _)).below b3 (Nat.le_refl _)
  refine (close_any _ _ [(false, [1])] [[1, -2, 3]] X3 hB3 hR (by decide)).mono ?_
  rintro e w' ⟨h | h, hbb⟩
  · obtain ⟨_, v, t, rfl, hst, hsh⟩ := h
    rw [clo] at hsh
    simp only at hsh
    have hq := joinst_blocks hbb hst hsh (by decide)
    have hl : t.length = 2 := by
      have := congrArg List.length hsh
      rw [shapeT_len] at this
      exact this
    obtain ⟨a, c, rfl⟩ := hst.shape
    rw [hl] at hq ⊢
    exact ⟨a, c, c, rfl, hq, b1.trans ((b2.trans ((b3.trans (hbb.mono b3.size)).mono b2.size)).mono b1.size), rfl⟩
  · rw [clo] at h
    exact absurd rfl h.1

set_option maxRecDepth 100000 in
set_option maxHeartbeats 1600000 in
theorem head_any (w : World) : Calls Tryz.prog 7 #[] w fun e w' => e = .returned (.bool true) ∧ Below w.heap.size w w' := by
  go_enter Tryz.func7, Tryz.ntmps7
  go_upto_region 6 with (first
    | (go_at_call 20; refine (example_any w).mono ?_; rintro e w1 ⟨pv, rfl, hp1, hb1⟩; obtain ⟨pa, pc, rfl, _⟩ := hp1.shape)
    | (go_at_call_of 21 (Value.int .i64 3); go_loud (refine (on_is _ 3 _ 2 w1 hp1 on3 (in64X _ (by decide)) (by decide) rfl).mono ?_; rintro e w2 ⟨a2, c2, rfl, hi2, hb2⟩; have hp2 := hp1.below hb2 (Nat.le_refl _)))
    | (go_at_call_of 21 (Value.int .i64 4); refine (on_is _ 4 _ 2 w2 hp2 on4 (in64X _ (by decide)) (by decide) rfl).mono ?_; rintro e w3 ⟨a3, c3, rfl, hi3, hb3⟩; have hp3 := hp2.below hb3 (Nat.le_refl _); have hj3 := hi2.below hb3 (Nat.le_refl _))
    | (go_at_call_of 21 (Value.int .i64 5); refine (on_is _ 5 _ 0 w3 hp3 on5 (in64X _ (by decide)) (by decide) rfl).mono ?_; rintro e w4 ⟨a4, c4, rfl, hi4, hb4⟩; have hp4 := hp3.below hb4 (Nat.le_refl _); have hj4 := hj3.below hb4 (Nat.le_refl _); have hk4 := hi3.below hb4 (Nat.le_refl _))
    | (go_at_call_of 16 w4; go_loud (refine (ints_yes_lit _ [1, 2] w4 2 _ hj4 rfl rfl (by decide)).mono ?_; rintro e w5 ⟨rfl, hb5⟩; have hp5 := hp4.below hb5 (Nat.le_refl _); have hk5 := hk4.below hb5 (Nat.le_refl _)))
    | (go_at_call_of 16 w5; go_loud (refine (ints_yes_lit _ [3, 5] w5 2 _ hk5 rfl rfl (by decide)).mono ?_; rintro e w6 ⟨rfl, hb6⟩; have hp6 := hp5.below hb6 (Nat.le_refl _)))
    | (go_at_call 22; go_loud (refine (may_yes _ w6 hp6).mono ?_; rintro e w7 ⟨rfl, hb7⟩; have hp7 := hp6.below hb7 (Nat.le_refl _))))
  have hB7 : Below w.heap.size w w7 := hb1.trans ((hb2.trans ((hb3.trans ((hb4.trans ((hb5.trans ((hb6.trans (hb7.mono hb6.size)).mono hb5.size)).mono hb4.size)).mono hb3.size)).mono hb2.size)).mono hb1.size)
  clear hp1 hp2 hp3 hp4 hp5 hp6 hb1 hb2 hb3 hb4 hb5 hb6 hb7 hi2 hi3 hi4 hj3 hj4 hk4 hk5
  go_upto_region 8 with (first
    | (go_at_call_of 23 w7; go_loud (refine (red_lit _ [1, 3, -4] [1, 3] false 2 3 _ w7 hp7 rfl rfl (by decide) (in64X _ (by decide)) red1 (in64X _ (by decide)) (by decide) rfl).mono ?_; rintro e w8 ⟨a8, c8, rfl, hi8, hb8⟩; have hp8 := hp7.below hb8 (Nat.le_refl _)))
    | (go_at_call_of 16 w8; go_loud (refine (ints_yes_lit _ [1, 3] w8 2 _ hi8 rfl rfl (by decide)).mono ?_; rintro e w9 ⟨rfl, hb9⟩; have hp9 := hp8.below hb9 (Nat.le_refl _)))
    | (go_at_call_of 23 w9; go_loud (refine (red_lit _ [1, 2] [] false 0 2 _ w9 hp9 rfl rfl (by decide) (in64X _ (by decide)) red2 (in64X _ (by decide)) (by decide) rfl).mono ?_; rintro e w10 ⟨a10, c10, rfl, hi10, hb10⟩; have hp10 := hp9.below hb10 (Nat.le_refl _)))
    | (go_at_call_of 23 w10; go_loud (refine (red_lit _ [1, 3, -4] [1, 3, -4] true 3 3 _ w10 hp10 rfl rfl (by decide) (in64X _ (by decide)) red3 (in64X _ (by decide)) (by decide) rfl).mono ?_; rintro e w11 ⟨a11, c11, rfl, hi11, hb11⟩; have hp11 := hp10.below hb11 (Nat.le_refl _)))
    | (go_at_call_of 23 w11; go_loud (refine (red_lit _ [3, 5] [] true 0 2 _ w11 hp11 rfl rfl (by decide) (in64X _ (by decide)) red4 (in64X _ (by decide)) (by decide) rfl).mono ?_; rintro e w12 ⟨a12, c12, rfl, hi12, hb12⟩; have hp12 := hp11.below hb12 (Nat.le_refl _))))
  have hB12 : Below w.heap.size w w12 := hB7.trans ((hb8.trans ((hb9.trans ((hb10.trans ((hb11.trans (hb12.mono hb11.size)).mono hb10.size)).mono hb9.size)).mono hb8.size)).mono hB7.size)
  clear hp7 hp8 hp9 hp10 hp11 hb8 hb9 hb10 hb11 hb12 hi8 hi10 hi11 hi12 hB7
  go_upto_region 11 with (first
    | (go_at_call_of 25 w12; go_loud (refine (all_lit w12 [2] 1 _ rfl rfl (in64X _ (by decide)) (by decide)).mono ?_; rintro e w13 ⟨rfl, q13, hb13⟩; have hp13 := hp12.below hb13 (Nat.le_refl _)))
    | (go_at_call_of 26 (Value.slice none 0 0); go_loud (refine (some_any (.slice none 0 0) none 0 0 rfl w13).mono ?_; rintro e w14 ⟨rfl, hb14⟩; have hp14 := hp13.below hb14 (Nat.le_refl _); have q14 := q13.below hb14 (Nat.le_refl _)))
    | (go_at_call_of 25 w14; go_loud (refine (all_lit w14 [1] 1 _ rfl rfl (in64X _ (by decide)) (by decide)).mono ?_; rintro e w15 ⟨rfl, r15, hb15⟩; have hp15 := hp14.below hb15 (Nat.le_refl _); have q15 := q14.below hb15 (Nat.le_refl _)))
    | (go_at_call_of 26 w15; go_loud (refine (some_lit w15 [3] 1 _ rfl rfl (in64X _ (by decide)) (by decide)).mono ?_; rintro e w16 ⟨rfl, s16, hb16⟩; have hp16 := hp15.below hb16 (Nat.le_refl _); have q16 := q15.below hb16 (Nat.le_refl _); have r16 := r15.below hb16 (Nat.le_refl _)))
    | (go_at_call_of 24 w16; go_loud (refine (join_lit w16 [(false, .slice (some ⟨w12.heap.size, 0, none⟩) 1 1, [2]), (true, .slice none 0 0, []), (false, .slice (some ⟨w14.heap.size, 0, none⟩) 1 1, [1]), (true, .slice (some ⟨w15.heap.size, 0, none⟩) 1 1, [3])] _ 4 [(false, [2]), (true, []), (false, [1]), (true, [3])] [(false, [2, 1]), (true, [3])] rfl rfl (four q16 (IsInts.nil _) r16 s16) rfl joi (by simp) (by decide) (by decide)).mono ?_; rintro e w17 ⟨a17, m17, c17, hm17, rfl, hj17, hb17⟩; obtain rfl : m17 = 2 := hm17; have hp17 := hp16.below hb17 (Nat.le_refl _)))
    | (go_at_call_of 27 w17; go_loud (refine (less_lit _ [1, 2, 9] 3 _ w17 [(true, [5, 3]), (false, [4])] hp17 rfl rfl (by decide) (in64X _ (by decide)) les (by decide)).mono ?_; rintro e w18 ⟨a18, m18, c18, hm18, rfl, hl18, hb18⟩; obtain rfl : m18 = 2 := hm18; have hp18 := hp17.below hb18 (Nat.le_refl _); have hj18 := hj17.below hb18 (Nat.le_refl _)))
    | (go_at_call_of 25 w18; go_loud (refine (all_lit w18 [1] 1 _ rfl rfl (in64X _ (by decide)) (by decide)).mono ?_; rintro e w19 ⟨rfl, q19, hb19⟩; have hp19 := hp18.below hb19 (Nat.le_refl _); have hj19 := hj18.below hb19 (Nat.le_refl _); have hl19 := hl18.below hb19 (Nat.le_refl _)))
    | (go_at_call_of 28 w19; go_loud (refine (close_lit w19 _ q19).mono ?_; rintro e w20 ⟨a20, c20, _, rfl, hc20, hb20, -⟩; have hp20 := hp19.below hb20 (Nat.le_refl _); have hj20 := hj19.below hb20 (Nat.le_refl _); have hl20 := hl19.below hb20 (Nat.le_refl _))))
  have hB20 : Below w.heap.size w w20 := hB12.trans ((hb13.trans ((hb14.trans ((hb15.trans ((hb16.trans ((hb17.trans ((hb18.trans ((hb19.trans (hb20.mono hb19.size)).mono hb18.size)).mono hb17.size)).mono hb16.size)).mono hb15.size)).mono hb14.size)).mono hb13.size)).mono hB12.size)
  clear hb13 hb14 hb15 hb16 hb17 hb18 hb19 hb20 hp12 hp13 hp14 hp15 hp16 hp17 hp18 hp19 q13 q14 q15 q16 r15 r16 s16 q19 hj17 hj18 hj19 hl18 hl19 hB12
  go_wp2_with fail
  have hbq : Below w20.heap.size w20 (w20.alloc (.cells #[.slice a20 2 c20, .slice (some ⟨w19.heap.size + 1 + 1, 0, none⟩) 1 1] 25)) := (Below.refl _ _).alloc (Nat.le_refl _) _
  have hcq : (w20.alloc (.cells #[.slice a20 2 c20, .slice (some ⟨w19.heap.size + 1 + 1, 0, none⟩) 1 1] 25)).cell? ⟨w20.heap.size, 0, none⟩ = some (.slice a20 2 c20) := cell_fresh rfl
  have hzq : (w20.alloc (.cells #[.slice a20 2 c20, .slice (some ⟨w19.heap.size + 1 + 1, 0, none⟩) 1 1] 25)).heap.size = w20.heap.size + 1 := by simp
  generalize w20.alloc (.cells #[.slice a20 2 c20, .slice (some ⟨w19.heap.size + 1 + 1, 0, none⟩) 1 1] 25) = wq at *
  have HY : Hid (∀ X, Below wq.heap.size wq X → X.cell? ⟨w20.heap.size, 0, none⟩ = some (.slice a20 2 c20)) := fun X hX => (hX.cell (p := ⟨w20.heap.size, 0, none⟩) (by simp; omega)).trans hcq
  have HPQ := Lib.hid (hp20.below hbq (Nat.le_refl _))
  have HJQ := Lib.hid (hj20.below hbq (Nat.le_refl _))
  have HLQ := Lib.hid (hl20.below hbq (Nat.le_refl _))
  have HCQ := Lib.hid (hc20.below hbq (Nat.le_refl _))
  have HBQ := Lib.hid (hB20.trans (hbq.mono hB20.size))
  clear hcq hzq hbq hp20 hj20 hl20 hc20 hB20
  refine wp_region_held_drew (S := Below wq.heap.size wq) (by kernel_rfl) ((Below.refl _ _).drew) (fun hH => ?_)
  generalize wq.drew = wd at *
  refine takeW (i := 0) (v := .int .i64 0) (some 119) rfl rfl (by kernel_rfl) (by kernel_rfl) (by kernel_rfl) (fun _ _ _ h => h) (Or.inl ⟨by rfl, ?_⟩) (by assumption) ?_
  · intro wz hSw; have yz := HY.out wz hSw; go_simp
  try simp only [Act.put, List.setIfInBounds_toArray, List.set_cons_zero, List.set_cons_succ]
  refine takeW (i := 1) (v := .bool true) (some 120) rfl rfl (by kernel_rfl) (by kernel_rfl) (by kernel_rfl) (fun _ _ _ h => h) (Or.inl ⟨by rfl, ?_⟩) (by assumption) ?_
  · intro wz hSw; have yz := HY.out wz hSw; go_simp
  try simp only [Act.put, List.setIfInBounds_toArray, List.set_cons_zero, List.set_cons_succ]
  refine takeW (i := 2) (v := .bool true) (some 121) rfl rfl (by kernel_rfl) (by kernel_rfl) (by kernel_rfl) (fun _ _ _ h => h) (Or.inl ⟨by rfl, ?_⟩) (by assumption) ?_
  · intro wz hSw; have yz := HY.out wz hSw; go_simp
  try simp only [Act.put, List.setIfInBounds_toArray, List.set_cons_zero, List.set_cons_succ]
  refine takeW (i := 3) (v := .slice a17 2 c17) (some 122) rfl rfl (by kernel_rfl) (by kernel_rfl) (by kernel_rfl) (fun _ _ _ h => h) (Or.inl ⟨by rfl, ?_⟩) (by assumption) ?_
  · intro wz hSw; have yz := HY.out wz hSw; go_simp
  try simp only [Act.put, List.setIfInBounds_toArray, List.set_cons_zero, List.set_cons_succ]
  apply cutH (P := Tryz.prog) (md := .any) (G := fun h1 h2 wx => Below wq.heap.size wq wx ∧ IsInts wx (.slice (some ⟨h1, 0, none⟩) 2 2) [2, 1] ∧ IsInts wx (.slice (some ⟨h2, 0, none⟩) 1 1) [3])
  · intro tail
    refine wpAnyH_ready (rs := [4, 6]) (by kernel_rfl) (by simp) ?_
    refine AllReadyH.cons rfl (fun K hK => ?_) ?_
    · go_simp
      have hx1 := ints_lit wd [2, 1] #[.int .i64 2, .int .i64 1] 2 3 rfl rfl (in64X _ (by decide)) (by decide)
      have hSx1 : Below wq.heap.size wq (wd.alloc (.cells #[.int .i64 2, .int .i64 1] 3)) := hH.alloc hH.size _
      refine hK.out _ _ hSx1 (fun hS1 => ?_)
      clear hK K
      generalize wd.alloc (.cells #[.int .i64 2, .int .i64 1] 3) = x1 at *
      refine wpAnyH_ready (rs := [5, 6]) (by kernel_rfl) (by simp) ?_
      refine AllReadyH.cons rfl (fun K hK => ?_) ?_
      ·
        go_simp
        go_wp2_with (go_at_call 25; refine (all_any _ _ _ _ rfl _).mono ?_; rintro e x2 ⟨rfl, hbx2⟩)
        refine hK.out _ _ (hSx1.trans (hbx2.mono hSx1.size)) (fun hSx2 => ?_)
        clear hK K
        have hx2 := hx1.below hbx2 (Nat.le_refl _)
        refine wpAnyH_ready (rs := [6]) (by kernel_rfl) (by simp) ?_
        refine AllReadyH.cons rfl (fun K hK => ?_) AllReadyH.nil
        go_simp
        have hy2 := ints_lit x2 [3] #[.int .i64 3] 1 3 rfl rfl (in64X _ (by decide)) (by decide)
        have hx3 := hx2.below ((Below.refl _ _).alloc (Nat.le_refl _) (.cells #[.int .i64 3] 3)) (Nat.le_refl _)
        have hSx3 : Below wq.heap.size wq (x2.alloc (.cells #[.int .i64 3] 3)) := hSx2.alloc hSx2.size _
        refine hK.out _ _ hSx3 (fun hS3 => ?_)
        clear hK K
        generalize x2.alloc (.cells #[.int .i64 3] 3) = x3 at *
        refine wpAnyH_ready (rs := [7]) (by kernel_rfl) (by simp) ?_
        refine AllReadyH.cons rfl (fun K hK => ?_) AllReadyH.nil
        go_simp
        go_wp2_with (go_at_call 26; refine (some_any _ _ _ _ rfl _).mono ?_; rintro e x4 ⟨rfl, hbx4⟩)
        refine hK.out _ _ (hSx3.trans (hbx4.mono hSx3.size)) (fun hSx4 => ?_)
        clear hK K
        have hG3 := hx3.below hbx4 (Nat.le_refl _)
        have hG4 := hy2.below hbx4 (Nat.le_refl _)
        clear hx1 hx2 hx3 hy2 hbx2 hbx4 hSx1 hSx2 hSx3
        generalize wd.heap.size = g1 at *
        generalize x2.heap.size = g2 at *
        exact tail g1 g2 x4 ⟨hSx4, hG3, hG4⟩
      · refine AllReadyH.cons rfl (fun K hK => ?_) AllReadyH.nil
        go_simp
        have hy1 := ints_lit x1 [3] #[.int .i64 3] 1 3 rfl rfl (in64X _ (by decide)) (by decide)
        have hx2 := hx1.below ((Below.refl _ _).alloc (Nat.le_refl _) (.cells #[.int .i64 3] 3)) (Nat.le_refl _)
        have hSx2 : Below wq.heap.size wq (x1.alloc (.cells #[.int .i64 3] 3)) := hSx1.alloc hSx1.size _
        refine hK.out _ _ hSx2 (fun hS3 => ?_)
        clear hK K
        generalize x1.alloc (.cells #[.int .i64 3] 3) = x2 at *
        refine wpAnyH_ready (rs := [5]) (by kernel_rfl) (by simp) ?_
        refine AllReadyH.cons rfl (fun K hK => ?_) AllReadyH.nil
        go_simp
        go_wp2_with (go_at_call 25; refine (all_any _ _ _ _ rfl _).mono ?_; rintro e x3 ⟨rfl, hbx3⟩)
        refine hK.out _ _ (hSx2.trans (hbx3.mono hSx2.size)) (fun hSx3 => ?_)
        clear hK K
        refine wpAnyH_ready (rs := [7]) (by kernel_rfl) (by simp) ?_
        refine AllReadyH.cons rfl (fun K hK => ?_) AllReadyH.nil
        go_simp
        go_wp2_with (go_at_call 26; refine (some_any _ _ _ _ rfl _).mono ?_; rintro e x4 ⟨rfl, hbx4⟩)
        refine hK.out _ _ (hSx3.trans (hbx4.mono hSx3.size)) (fun hSx4 => ?_)
        clear hK K
        exact tail wd.heap.size x1.heap.size x4 ⟨hSx4, (hx2.below hbx3 (Nat.le_refl _)).below hbx4 (Nat.le_refl _), (hy1.below hbx3 (Nat.le_refl _)).below hbx4 (Nat.le_refl _)⟩
    · refine AllReadyH.cons rfl (fun K hK => ?_) AllReadyH.nil
      go_simp
      have hy1 := ints_lit wd [3] #[.int .i64 3] 1 3 rfl rfl (in64X _ (by decide)) (by decide)
      have hSx1 : Below wq.heap.size wq (wd.alloc (.cells #[.int .i64 3] 3)) := hH.alloc hH.size _
      refine hK.out _ _ hSx1 (fun hS1 => ?_)
      clear hK K
      generalize wd.alloc (.cells #[.int .i64 3] 3) = x1 at *
      refine wpAnyH_ready (rs := [4]) (by kernel_rfl) (by simp) ?_
      refine AllReadyH.cons rfl (fun K hK => ?_) AllReadyH.nil
      go_simp
      have hx1 := ints_lit x1 [2, 1] #[.int .i64 2, .int .i64 1] 2 3 rfl rfl (in64X _ (by decide)) (by decide)
      have hy2 := hy1.below ((Below.refl _ _).alloc (Nat.le_refl _) (.cells #[.int .i64 2, .int .i64 1] 3)) (Nat.le_refl _)
      have hSx2 : Below wq.heap.size wq (x1.alloc (.cells #[.int .i64 2, .int .i64 1] 3)) := hSx1.alloc hSx1.size _
      refine hK.out _ _ hSx2 (fun hS2 => ?_)
      clear hK K
      generalize x1.alloc (.cells #[.int .i64 2, .int .i64 1] 3) = x2 at *
      refine wpAnyH_ready (rs := [5]) (by kernel_rfl) (by simp) ?_
      refine AllReadyH.cons rfl (fun K hK => ?_) AllReadyH.nil
      go_simp
      go_wp2_with (go_at_call 25; refine (all_any _ _ _ _ rfl _).mono ?_; rintro e x3 ⟨rfl, hbx3⟩)
      refine hK.out _ _ (hSx2.trans (hbx3.mono hSx2.size)) (fun hSx3 => ?_)
      clear hK K
      refine wpAnyH_ready (rs := [7]) (by kernel_rfl) (by simp) ?_
      refine AllReadyH.cons rfl (fun K hK => ?_) AllReadyH.nil
      go_simp
      go_wp2_with (go_at_call 26; refine (some_any _ _ _ _ rfl _).mono ?_; rintro e x4 ⟨rfl, hbx4⟩)
      refine hK.out _ _ (hSx3.trans (hbx4.mono hSx3.size)) (fun hSx4 => ?_)
      clear hK K
      exact tail x1.heap.size wd.heap.size x4 ⟨hSx4, (hx1.below hbx3 (Nat.le_refl _)).below hbx4 (Nat.le_refl _), (hy2.below hbx3 (Nat.le_refl _)).below hbx4 (Nat.le_refl _)⟩
  · rintro h11 h12 y1 ⟨hSy1, hy1a, hy1b⟩
    refine wpAnyH_ready (rs := [8]) (by kernel_rfl) (by simp) ?_
    refine AllReadyH.cons rfl (fun K hK => ?_) AllReadyH.nil
    go_simp
    have hBy1 := blocks_lit y1 [(false, .slice (some ⟨h11, 0, none⟩) 2 2, [2, 1]), (true, .slice (some ⟨h12, 0, none⟩) 1 1, [3])] #[.bool false, .slice (some ⟨h11, 0, none⟩) 2 2, .bool true, .slice (some ⟨h12, 0, none⟩) 1 1] 2 53 rfl rfl (twoB hy1a hy1b) (by simp)
    have hSz1 : Below wq.heap.size wq (y1.alloc (.cells #[.bool false, .slice (some ⟨h11, 0, none⟩) 2 2, .bool true, .slice (some ⟨h12, 0, none⟩) 1 1] 53)) := hSy1.alloc hSy1.size _
    refine hK.out _ _ hSz1 (fun _ => ?_)
    clear hK K
    generalize y1.alloc (.cells #[.bool false, .slice (some ⟨h11, 0, none⟩) 2 2, .bool true, .slice (some ⟨h12, 0, none⟩) 1 1] 53) = z1 at *
    refine wpAnyH_ready (rs := [9]) (by kernel_rfl) (by simp) ?_
    refine AllReadyH.cons rfl (fun K hK => ?_) AllReadyH.nil
    go_simp
    go_wp2_with (go_at_call 15; refine (same_yes _ _ [(false, [2, 1]), (true, [3])] z1 (HJQ.out.below hSz1 (Nat.le_refl _)) hBy1).mono ?_; rintro e v1 ⟨rfl, hbv1⟩)
    have hSv1 : Below wq.heap.size wq v1 := hSz1.trans (hbv1.mono hSz1.size)
    refine hK.out _ _ hSv1 (fun _ => ?_)
    clear hK K
    refine takeW (i := 10) (v := .bool true) (some 129) rfl rfl (by kernel_rfl) (by kernel_rfl) (by kernel_rfl) (fun _ _ _ h => h) (Or.inl ⟨by rfl, ?_⟩) (by assumption) ?_
    · intro wz hSw; have yz := HY.out wz hSw; go_simp
    try simp only [Act.put, List.setIfInBounds_toArray, List.set_cons_zero, List.set_cons_succ]
    refine takeW (i := 11) (v := .bool true) (some 130) rfl rfl (by kernel_rfl) (by kernel_rfl) (by kernel_rfl) (fun _ _ _ h => h) (Or.inl ⟨by rfl, ?_⟩) (by assumption) ?_
    · intro wz hSw; have yz := HY.out wz hSw; go_simp
    try simp only [Act.put, List.setIfInBounds_toArray, List.set_cons_zero, List.set_cons_succ]
    refine takeW (i := 12) (v := .int .i64 0) (some 131) rfl rfl (by kernel_rfl) (by kernel_rfl) (by kernel_rfl) (fun _ _ _ h => h) (Or.inl ⟨by rfl, ?_⟩) (by assumption) ?_
    · intro wz hSw; have yz := HY.out wz hSw; go_simp
    try simp only [Act.put, List.setIfInBounds_toArray, List.set_cons_zero, List.set_cons_succ]
    refine takeW (i := 13) (v := .bool true) (some 132) rfl rfl (by kernel_rfl) (by kernel_rfl) (by kernel_rfl) (fun _ _ _ h => h) (Or.inl ⟨by rfl, ?_⟩) (by assumption) ?_
    · intro wz hSw; have yz := HY.out wz hSw; go_simp
    try simp only [Act.put, List.setIfInBounds_toArray, List.set_cons_zero, List.set_cons_succ]
    refine takeW (i := 14) (v := .bool true) (some 133) rfl rfl (by kernel_rfl) (by kernel_rfl) (by kernel_rfl) (fun _ _ _ h => h) (Or.inl ⟨by rfl, ?_⟩) (by assumption) ?_
    · intro wz hSw; have yz := HY.out wz hSw; go_simp
    try simp only [Act.put, List.setIfInBounds_toArray, List.set_cons_zero, List.set_cons_succ]
    refine takeW (i := 15) (v := .bool true) (some 134) rfl rfl (by kernel_rfl) (by kernel_rfl) (by kernel_rfl) (fun _ _ _ h => h) (Or.inl ⟨by rfl, ?_⟩) (by assumption) ?_
    · intro wz hSw; have yz := HY.out wz hSw; go_simp
    try simp only [Act.put, List.setIfInBounds_toArray, List.set_cons_zero, List.set_cons_succ]
    refine takeW (i := 16) (v := .slice a18 2 c18) (some 135) rfl rfl (by kernel_rfl) (by kernel_rfl) (by kernel_rfl) (fun _ _ _ h => h) (Or.inl ⟨by rfl, ?_⟩) (by assumption) ?_
    · intro wz hSw; have yz := HY.out wz hSw; go_simp
    try simp only [Act.put, List.setIfInBounds_toArray, List.set_cons_zero, List.set_cons_succ]
    apply cutH (P := Tryz.prog) (md := .any) (G := fun h1 h2 wx => Below wq.heap.size wq wx ∧ IsInts wx (.slice (some ⟨h1, 0, none⟩) 2 2) [5, 3] ∧ IsInts wx (.slice (some ⟨h2, 0, none⟩) 1 1) [4])
    · intro tail
      refine wpAnyH_ready (rs := [17, 19]) (by kernel_rfl) (by simp) ?_
      refine AllReadyH.cons rfl (fun K hK => ?_) ?_
      · go_simp
        have hx1 := ints_lit v1 [5, 3] #[.int .i64 5, .int .i64 3] 2 3 rfl rfl (in64X _ (by decide)) (by decide)
        have hSx1 : Below wq.heap.size wq (v1.alloc (.cells #[.int .i64 5, .int .i64 3] 3)) := hSv1.alloc hSv1.size _
        refine hK.out _ _ hSx1 (fun hS1 => ?_)
        clear hK K
        generalize v1.alloc (.cells #[.int .i64 5, .int .i64 3] 3) = x1 at *
        refine wpAnyH_ready (rs := [18, 19]) (by kernel_rfl) (by simp) ?_
        refine AllReadyH.cons rfl (fun K hK => ?_) ?_
        ·
          go_simp
          go_wp2_with (go_at_call 26; refine (some_any _ _ _ _ rfl _).mono ?_; rintro e x2 ⟨rfl, hbx2⟩)
          refine hK.out _ _ (hSx1.trans (hbx2.mono hSx1.size)) (fun hSx2 => ?_)
          clear hK K
          have hx2 := hx1.below hbx2 (Nat.le_refl _)
          refine wpAnyH_ready (rs := [19]) (by kernel_rfl) (by simp) ?_
          refine AllReadyH.cons rfl (fun K hK => ?_) AllReadyH.nil
          go_simp
          have hy2 := ints_lit x2 [4] #[.int .i64 4] 1 3 rfl rfl (in64X _ (by decide)) (by decide)
          have hx3 := hx2.below ((Below.refl _ _).alloc (Nat.le_refl _) (.cells #[.int .i64 4] 3)) (Nat.le_refl _)
          have hSx3 : Below wq.heap.size wq (x2.alloc (.cells #[.int .i64 4] 3)) := hSx2.alloc hSx2.size _
          refine hK.out _ _ hSx3 (fun hS3 => ?_)
          clear hK K
          generalize x2.alloc (.cells #[.int .i64 4] 3) = x3 at *
          refine wpAnyH_ready (rs := [20]) (by kernel_rfl) (by simp) ?_
          refine AllReadyH.cons rfl (fun K hK => ?_) AllReadyH.nil
          go_simp
          go_wp2_with (go_at_call 25; refine (all_any _ _ _ _ rfl _).mono ?_; rintro e x4 ⟨rfl, hbx4⟩)
          refine hK.out _ _ (hSx3.trans (hbx4.mono hSx3.size)) (fun hSx4 => ?_)
          clear hK K
          have hG3 := hx3.below hbx4 (Nat.le_refl _)
          have hG4 := hy2.below hbx4 (Nat.le_refl _)
          clear hx1 hx2 hx3 hy2 hbx2 hbx4 hSx1 hSx2 hSx3
          generalize v1.heap.size = g1 at *
          generalize x2.heap.size = g2 at *
          exact tail g1 g2 x4 ⟨hSx4, hG3, hG4⟩
        · refine AllReadyH.cons rfl (fun K hK => ?_) AllReadyH.nil
          go_simp
          have hy1 := ints_lit x1 [4] #[.int .i64 4] 1 3 rfl rfl (in64X _ (by decide)) (by decide)
          have hx2 := hx1.below ((Below.refl _ _).alloc (Nat.le_refl _) (.cells #[.int .i64 4] 3)) (Nat.le_refl _)
          have hSx2 : Below wq.heap.size wq (x1.alloc (.cells #[.int .i64 4] 3)) := hSx1.alloc hSx1.size _
          refine hK.out _ _ hSx2 (fun hS3 => ?_)
          clear hK K
          generalize x1.alloc (.cells #[.int .i64 4] 3) = x2 at *
          refine wpAnyH_ready (rs := [18]) (by kernel_rfl) (by simp) ?_
          refine AllReadyH.cons rfl (fun K hK => ?_) AllReadyH.nil
          go_simp
          go_wp2_with (go_at_call 26; refine (some_any _ _ _ _ rfl _).mono ?_; rintro e x3 ⟨rfl, hbx3⟩)
          refine hK.out _ _ (hSx2.trans (hbx3.mono hSx2.size)) (fun hSx3 => ?_)
          clear hK K
          refine wpAnyH_ready (rs := [20]) (by kernel_rfl) (by simp) ?_
          refine AllReadyH.cons rfl (fun K hK => ?_) AllReadyH.nil
          go_simp
          go_wp2_with (go_at_call 25; refine (all_any _ _ _ _ rfl _).mono ?_; rintro e x4 ⟨rfl, hbx4⟩)
          refine hK.out _ _ (hSx3.trans (hbx4.mono hSx3.size)) (fun hSx4 => ?_)
          clear hK K
          exact tail v1.heap.size x1.heap.size x4 ⟨hSx4, (hx2.below hbx3 (Nat.le_refl _)).below hbx4 (Nat.le_refl _), (hy1.below hbx3 (Nat.le_refl _)).below hbx4 (Nat.le_refl _)⟩
      · refine AllReadyH.cons rfl (fun K hK => ?_) AllReadyH.nil
        go_simp
        have hy1 := ints_lit v1 [4] #[.int .i64 4] 1 3 rfl rfl (in64X _ (by decide)) (by decide)
        have hSx1 : Below wq.heap.size wq (v1.alloc (.cells #[.int .i64 4] 3)) := hSv1.alloc hSv1.size _
        refine hK.out _ _ hSx1 (fun hS1 => ?_)
        clear hK K
        generalize v1.alloc (.cells #[.int .i64 4] 3) = x1 at *
        refine wpAnyH_ready (rs := [17]) (by kernel_rfl) (by simp) ?_
        refine AllReadyH.cons rfl (fun K hK => ?_) AllReadyH.nil
        go_simp
        have hx1 := ints_lit x1 [5, 3] #[.int .i64 5, .int .i64 3] 2 3 rfl rfl (in64X _ (by decide)) (by decide)
        have hy2 := hy1.below ((Below.refl _ _).alloc (Nat.le_refl _) (.cells #[.int .i64 5, .int .i64 3] 3)) (Nat.le_refl _)
        have hSx2 : Below wq.heap.size wq (x1.alloc (.cells #[.int .i64 5, .int .i64 3] 3)) := hSx1.alloc hSx1.size _
        refine hK.out _ _ hSx2 (fun hS2 => ?_)
        clear hK K
        generalize x1.alloc (.cells #[.int .i64 5, .int .i64 3] 3) = x2 at *
        refine wpAnyH_ready (rs := [18]) (by kernel_rfl) (by simp) ?_
        refine AllReadyH.cons rfl (fun K hK => ?_) AllReadyH.nil
        go_simp
        go_wp2_with (go_at_call 26; refine (some_any _ _ _ _ rfl _).mono ?_; rintro e x3 ⟨rfl, hbx3⟩)
        refine hK.out _ _ (hSx2.trans (hbx3.mono hSx2.size)) (fun hSx3 => ?_)
        clear hK K
        refine wpAnyH_ready (rs := [20]) (by kernel_rfl) (by simp) ?_
        refine AllReadyH.cons rfl (fun K hK => ?_) AllReadyH.nil
        go_simp
        go_wp2_with (go_at_call 25; refine (all_any _ _ _ _ rfl _).mono ?_; rintro e x4 ⟨rfl, hbx4⟩)
        refine hK.out _ _ (hSx3.trans (hbx4.mono hSx3.size)) (fun hSx4 => ?_)
        clear hK K
        exact tail x1.heap.size v1.heap.size x4 ⟨hSx4, (hx1.below hbx3 (Nat.le_refl _)).below hbx4 (Nat.le_refl _), (hy2.below hbx3 (Nat.le_refl _)).below hbx4 (Nat.le_refl _)⟩
    · rintro h21 h22 y2 ⟨hSy2, hy2a, hy2b⟩
      refine wpAnyH_ready (rs := [21]) (by kernel_rfl) (by simp) ?_
      refine AllReadyH.cons rfl (fun K hK => ?_) AllReadyH.nil
      go_simp
      have hBy2 := blocks_lit y2 [(true, .slice (some ⟨h21, 0, none⟩) 2 2, [5, 3]), (false, .slice (some ⟨h22, 0, none⟩) 1 1, [4])] #[.bool true, .slice (some ⟨h21, 0, none⟩) 2 2, .bool false, .slice (some ⟨h22, 0, none⟩) 1 1] 2 53 rfl rfl (twoB hy2a hy2b) (by simp)
      have hSz2 : Below wq.heap.size wq (y2.alloc (.cells #[.bool true, .slice (some ⟨h21, 0, none⟩) 2 2, .bool false, .slice (some ⟨h22, 0, none⟩) 1 1] 53)) := hSy2.alloc hSy2.size _
      refine hK.out _ _ hSz2 (fun _ => ?_)
      clear hK K
      generalize y2.alloc (.cells #[.bool true, .slice (some ⟨h21, 0, none⟩) 2 2, .bool false, .slice (some ⟨h22, 0, none⟩) 1 1] 53) = z2 at *
      refine wpAnyH_ready (rs := [22]) (by kernel_rfl) (by simp) ?_
      refine AllReadyH.cons rfl (fun K hK => ?_) AllReadyH.nil
      go_simp
      go_wp2_with (go_at_call 15; refine (same_yes _ _ [(true, [5, 3]), (false, [4])] z2 (HLQ.out.below hSz2 (Nat.le_refl _)) hBy2).mono ?_; rintro e v2 ⟨rfl, hbv2⟩)
      have hSv2 : Below wq.heap.size wq v2 := hSz2.trans (hbv2.mono hSz2.size)
      refine hK.out _ _ hSv2 (fun _ => ?_)
      clear hK K
      refine takeW (i := 23) (v := .bool true) (some 142) rfl rfl (by kernel_rfl) (by kernel_rfl) (by kernel_rfl) (fun _ _ _ h => h) (Or.inl ⟨by rfl, ?_⟩) (by assumption) ?_
      · intro wz hSw; have yz := HY.out wz hSw; go_simp
      try simp only [Act.put, List.setIfInBounds_toArray, List.set_cons_zero, List.set_cons_succ]
      refine takeW (i := 24) (v := .bool true) (some 143) rfl rfl (by kernel_rfl) (by kernel_rfl) (by kernel_rfl) (fun _ _ _ h => h) (Or.inl ⟨by rfl, ?_⟩) (by assumption) ?_
      · intro wz hSw; have yz := HY.out wz hSw; go_simp
      try simp only [Act.put, List.setIfInBounds_toArray, List.set_cons_zero, List.set_cons_succ]
      refine takeW (i := 25) (v := .int .i64 0) (some 144) rfl rfl (by kernel_rfl) (by kernel_rfl) (by kernel_rfl) (fun _ _ _ h => h) (Or.inl ⟨by rfl, ?_⟩) (by assumption) ?_
      · intro wz hSw; have yz := HY.out wz hSw; go_simp
      try simp only [Act.put, List.setIfInBounds_toArray, List.set_cons_zero, List.set_cons_succ]
      refine takeW (i := 26) (v := .bool true) (some 145) rfl rfl (by kernel_rfl) (by kernel_rfl) (by kernel_rfl) (fun _ _ _ h => h) (Or.inl ⟨by rfl, ?_⟩) (by assumption) ?_
      · intro wz hSw; have yz := HY.out wz hSw; go_simp
      try simp only [Act.put, List.setIfInBounds_toArray, List.set_cons_zero, List.set_cons_succ]
      refine takeW (i := 27) (v := .bool true) (some 146) rfl rfl (by kernel_rfl) (by kernel_rfl) (by kernel_rfl) (fun _ _ _ h => h) (Or.inl ⟨by rfl, ?_⟩) (by assumption) ?_
      · intro wz hSw; have yz := HY.out wz hSw; go_simp
      try simp only [Act.put, List.setIfInBounds_toArray, List.set_cons_zero, List.set_cons_succ]
      refine takeW (i := 28) (v := .bool true) (some 147) rfl rfl (by kernel_rfl) (by kernel_rfl) (by kernel_rfl) (fun _ _ _ h => h) (Or.inl ⟨by rfl, ?_⟩) (by assumption) ?_
      · intro wz hSw; have yz := HY.out wz hSw; go_simp
      try simp only [Act.put, List.setIfInBounds_toArray, List.set_cons_zero, List.set_cons_succ]
      refine takeW (i := 29) (v := .pointer (some ⟨w20.heap.size, 0, none⟩)) (some 148) rfl rfl (by kernel_rfl) (by kernel_rfl) (by kernel_rfl) (fun _ _ _ h => h) (Or.inl ⟨by rfl, ?_⟩) (by assumption) ?_
      · intro wz hSw; have yz := HY.out wz hSw; go_simp
      try simp only [Act.put, List.setIfInBounds_toArray, List.set_cons_zero, List.set_cons_succ]
      refine takeW (i := 30) (v := .slice a20 2 c20) (some 149) rfl rfl (by kernel_rfl) (by kernel_rfl) (by kernel_rfl) (fun _ _ _ h => h) (Or.inl ⟨by rfl, ?_⟩) (by assumption) ?_
      · intro wz hSw; have yz := HY.out wz hSw; go_simp
      try simp only [Act.put, List.setIfInBounds_toArray, List.set_cons_zero, List.set_cons_succ]
      apply cutH (P := Tryz.prog) (md := .any) (G := fun h1 h2 wx => Below wq.heap.size wq wx ∧ IsInts wx (.slice (some ⟨h1, 0, none⟩) 2 2) [2, 3] ∧ IsInts wx (.slice (some ⟨h2, 0, none⟩) 1 1) [1])
      · intro tail
        refine wpAnyH_ready (rs := [31, 33]) (by kernel_rfl) (by simp) ?_
        refine AllReadyH.cons rfl (fun K hK => ?_) ?_
        · go_simp
          have hx1 := ints_lit v2 [2, 3] #[.int .i64 2, .int .i64 3] 2 3 rfl rfl (in64X _ (by decide)) (by decide)
          have hSx1 : Below wq.heap.size wq (v2.alloc (.cells #[.int .i64 2, .int .i64 3] 3)) := hSv2.alloc hSv2.size _
          refine hK.out _ _ hSx1 (fun hS1 => ?_)
          clear hK K
          generalize v2.alloc (.cells #[.int .i64 2, .int .i64 3] 3) = x1 at *
          refine wpAnyH_ready (rs := [32, 33]) (by kernel_rfl) (by simp) ?_
          refine AllReadyH.cons rfl (fun K hK => ?_) ?_
          ·
            go_simp
            go_wp2_with (go_at_call 26; refine (some_any _ _ _ _ rfl _).mono ?_; rintro e x2 ⟨rfl, hbx2⟩)
            refine hK.out _ _ (hSx1.trans (hbx2.mono hSx1.size)) (fun hSx2 => ?_)
            clear hK K
            have hx2 := hx1.below hbx2 (Nat.le_refl _)
            refine wpAnyH_ready (rs := [33]) (by kernel_rfl) (by simp) ?_
            refine AllReadyH.cons rfl (fun K hK => ?_) AllReadyH.nil
            go_simp
            have hy2 := ints_lit x2 [1] #[.int .i64 1] 1 3 rfl rfl (in64X _ (by decide)) (by decide)
            have hx3 := hx2.below ((Below.refl _ _).alloc (Nat.le_refl _) (.cells #[.int .i64 1] 3)) (Nat.le_refl _)
            have hSx3 : Below wq.heap.size wq (x2.alloc (.cells #[.int .i64 1] 3)) := hSx2.alloc hSx2.size _
            refine hK.out _ _ hSx3 (fun hS3 => ?_)
            clear hK K
            generalize x2.alloc (.cells #[.int .i64 1] 3) = x3 at *
            refine wpAnyH_ready (rs := [34]) (by kernel_rfl) (by simp) ?_
            refine AllReadyH.cons rfl (fun K hK => ?_) AllReadyH.nil
            go_simp
            go_wp2_with (go_at_call 25; refine (all_any _ _ _ _ rfl _).mono ?_; rintro e x4 ⟨rfl, hbx4⟩)
            refine hK.out _ _ (hSx3.trans (hbx4.mono hSx3.size)) (fun hSx4 => ?_)
            clear hK K
            have hG3 := hx3.below hbx4 (Nat.le_refl _)
            have hG4 := hy2.below hbx4 (Nat.le_refl _)
            clear hx1 hx2 hx3 hy2 hbx2 hbx4 hSx1 hSx2 hSx3
            generalize v2.heap.size = g1 at *
            generalize x2.heap.size = g2 at *
            exact tail g1 g2 x4 ⟨hSx4, hG3, hG4⟩
          · refine AllReadyH.cons rfl (fun K hK => ?_) AllReadyH.nil
            go_simp
            have hy1 := ints_lit x1 [1] #[.int .i64 1] 1 3 rfl rfl (in64X _ (by decide)) (by decide)
            have hx2 := hx1.below ((Below.refl _ _).alloc (Nat.le_refl _) (.cells #[.int .i64 1] 3)) (Nat.le_refl _)
            have hSx2 : Below wq.heap.size wq (x1.alloc (.cells #[.int .i64 1] 3)) := hSx1.alloc hSx1.size _
            refine hK.out _ _ hSx2 (fun hS3 => ?_)
            clear hK K
            generalize x1.alloc (.cells #[.int .i64 1] 3) = x2 at *
            refine wpAnyH_ready (rs := [32]) (by kernel_rfl) (by simp) ?_
            refine AllReadyH.cons rfl (fun K hK => ?_) AllReadyH.nil
            go_simp
            go_wp2_with (go_at_call 26; refine (some_any _ _ _ _ rfl _).mono ?_; rintro e x3 ⟨rfl, hbx3⟩)
            refine hK.out _ _ (hSx2.trans (hbx3.mono hSx2.size)) (fun hSx3 => ?_)
            clear hK K
            refine wpAnyH_ready (rs := [34]) (by kernel_rfl) (by simp) ?_
            refine AllReadyH.cons rfl (fun K hK => ?_) AllReadyH.nil
            go_simp
            go_wp2_with (go_at_call 25; refine (all_any _ _ _ _ rfl _).mono ?_; rintro e x4 ⟨rfl, hbx4⟩)
            refine hK.out _ _ (hSx3.trans (hbx4.mono hSx3.size)) (fun hSx4 => ?_)
            clear hK K
            exact tail v2.heap.size x1.heap.size x4 ⟨hSx4, (hx2.below hbx3 (Nat.le_refl _)).below hbx4 (Nat.le_refl _), (hy1.below hbx3 (Nat.le_refl _)).below hbx4 (Nat.le_refl _)⟩
        · refine AllReadyH.cons rfl (fun K hK => ?_) AllReadyH.nil
          go_simp
          have hy1 := ints_lit v2 [1] #[.int .i64 1] 1 3 rfl rfl (in64X _ (by decide)) (by decide)
          have hSx1 : Below wq.heap.size wq (v2.alloc (.cells #[.int .i64 1] 3)) := hSv2.alloc hSv2.size _
          refine hK.out _ _ hSx1 (fun hS1 => ?_)
          clear hK K
          generalize v2.alloc (.cells #[.int .i64 1] 3) = x1 at *
          refine wpAnyH_ready (rs := [31]) (by kernel_rfl) (by simp) ?_
          refine AllReadyH.cons rfl (fun K hK => ?_) AllReadyH.nil
          go_simp
          have hx1 := ints_lit x1 [2, 3] #[.int .i64 2, .int .i64 3] 2 3 rfl rfl (in64X _ (by decide)) (by decide)
          have hy2 := hy1.below ((Below.refl _ _).alloc (Nat.le_refl _) (.cells #[.int .i64 2, .int .i64 3] 3)) (Nat.le_refl _)
          have hSx2 : Below wq.heap.size wq (x1.alloc (.cells #[.int .i64 2, .int .i64 3] 3)) := hSx1.alloc hSx1.size _
          refine hK.out _ _ hSx2 (fun hS2 => ?_)
          clear hK K
          generalize x1.alloc (.cells #[.int .i64 2, .int .i64 3] 3) = x2 at *
          refine wpAnyH_ready (rs := [32]) (by kernel_rfl) (by simp) ?_
          refine AllReadyH.cons rfl (fun K hK => ?_) AllReadyH.nil
          go_simp
          go_wp2_with (go_at_call 26; refine (some_any _ _ _ _ rfl _).mono ?_; rintro e x3 ⟨rfl, hbx3⟩)
          refine hK.out _ _ (hSx2.trans (hbx3.mono hSx2.size)) (fun hSx3 => ?_)
          clear hK K
          refine wpAnyH_ready (rs := [34]) (by kernel_rfl) (by simp) ?_
          refine AllReadyH.cons rfl (fun K hK => ?_) AllReadyH.nil
          go_simp
          go_wp2_with (go_at_call 25; refine (all_any _ _ _ _ rfl _).mono ?_; rintro e x4 ⟨rfl, hbx4⟩)
          refine hK.out _ _ (hSx3.trans (hbx4.mono hSx3.size)) (fun hSx4 => ?_)
          clear hK K
          exact tail x1.heap.size v2.heap.size x4 ⟨hSx4, (hx1.below hbx3 (Nat.le_refl _)).below hbx4 (Nat.le_refl _), (hy2.below hbx3 (Nat.le_refl _)).below hbx4 (Nat.le_refl _)⟩
      · rintro h31 h32 y3 ⟨hSy3, hy3a, hy3b⟩
        refine wpAnyH_ready (rs := [35]) (by kernel_rfl) (by simp) ?_
        refine AllReadyH.cons rfl (fun K hK => ?_) AllReadyH.nil
        go_simp
        have hBy3 := blocks_lit y3 [(true, .slice (some ⟨h31, 0, none⟩) 2 2, [2, 3]), (false, .slice (some ⟨h32, 0, none⟩) 1 1, [1])] #[.bool true, .slice (some ⟨h31, 0, none⟩) 2 2, .bool false, .slice (some ⟨h32, 0, none⟩) 1 1] 2 53 rfl rfl (twoB hy3a hy3b) (by simp)
        have hSz3 : Below wq.heap.size wq (y3.alloc (.cells #[.bool true, .slice (some ⟨h31, 0, none⟩) 2 2, .bool false, .slice (some ⟨h32, 0, none⟩) 1 1] 53)) := hSy3.alloc hSy3.size _
        refine hK.out _ _ hSz3 (fun _ => ?_)
        clear hK K
        generalize y3.alloc (.cells #[.bool true, .slice (some ⟨h31, 0, none⟩) 2 2, .bool false, .slice (some ⟨h32, 0, none⟩) 1 1] 53) = z3 at *
        refine wpAnyH_ready (rs := [36]) (by kernel_rfl) (by simp) ?_
        refine AllReadyH.cons rfl (fun K hK => ?_) AllReadyH.nil
        go_simp
        go_wp2_with (go_at_call 15; refine (same_yes _ _ [(true, [2, 3]), (false, [1])] z3 (HCQ.out.below hSz3 (Nat.le_refl _)) hBy3).mono ?_; rintro e v3 ⟨rfl, hbv3⟩)
        have hSv3 : Below wq.heap.size wq v3 := hSz3.trans (hbv3.mono hSz3.size)
        refine hK.out _ _ hSv3 (fun _ => ?_)
        clear hK K
        refine takeW (i := 37) (v := .bool true) (some 156) rfl rfl (by kernel_rfl) (by kernel_rfl) (by kernel_rfl) (fun _ _ _ h => h) (Or.inl ⟨by rfl, ?_⟩) (by assumption) ?_
        · intro wz hSw; have yz := HY.out wz hSw; go_simp
        try simp only [Act.put, List.setIfInBounds_toArray, List.set_cons_zero, List.set_cons_succ]
        refine takeW (i := 38) (v := .bool true) (some 17) rfl rfl (by kernel_rfl) (by kernel_rfl) (by kernel_rfl) (fun _ _ _ h => h) (Or.inl ⟨by rfl, ?_⟩) (by assumption) ?_
        · intro wz hSw; have yz := HY.out wz hSw; go_simp
        try simp only [Act.put, List.setIfInBounds_toArray, List.set_cons_zero, List.set_cons_succ]
        refine wpAnyH_done (by kernel_rfl) ?_ _
        have hB3 : Below w.heap.size w v3 := HBQ.out.trans (hSv3.mono HBQ.out.size)
        have HP3 := Lib.hid (HPQ.out.below hSv3 (Nat.le_refl _))
        go_wp2_with (first
          | (go_at_call_of 10 v3; go_loud (refine (lin_lit1 v3).mono ?_; rintro e u1 ⟨a21, c21, rfl, hl21, hbu1⟩; have HP4 := Lib.hid (HP3.out.below hbu1 (Nat.le_refl _))))
          | (go_at_call_of 10 u1; go_loud (refine (lin_lit2 u1).mono ?_; rintro e u2 ⟨v22, rfl, hbu2⟩; have HP5 := Lib.hid (HP4.out.below hbu2 (Nat.le_refl _)); have HL5 := Lib.hid (hl21.below hbu2 (Nat.le_refl _))))
          | (go_at_call 15; go_loud (refine (same_yes _ _ exP u2 HL5.out HP5.out).mono ?_; rintro e u3 ⟨rfl, hbu3⟩)))
        go_ret
        exact ⟨rfl, hB3.trans ((hbu1.trans ((hbu2.trans (hbu3.mono hbu2.size)).mono hbu1.size)).mono hB3.size)⟩

end Go.Proofs.YtmiijgjpkkmoaaaGreat
