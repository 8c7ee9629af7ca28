/- Joined texts: PxHeadA, PxHeadV, PxHeadL. -/
import Derived.Test.YtmiijgjpkkmoaaaGreatPxLinear
import Derived.Test.YtmiijgjpkkmoaaaGreatMpI
import Derived.Test.YtmiijgjpkkmoaaaGreatMpF
/- skolemlaw03: all, some, example. -/
namespace Go.Proofs.YtmiijgjpkkmoaaaGreat
open Go.RowKit
set_option linter.unusedVariables false
set_option linter.unusedSimpArgs false

theorem all_any (v : Value) (a : Option Addr) (n c : Nat) (hv : v = .slice a n c) (w : World) : Calls Tryz.prog 25 #[v] w fun e w' => e = .returned (.agg #[.bool false, v]) ∧ Below w.heap.size w w' := by
  subst hv
  have hb : Below w.heap.size w (w.alloc (.cells #[.bool false, .slice a n c] 53)) := (Below.refl _ _).alloc (Nat.le_refl _) _
  have c0 : (w.alloc (.cells #[.bool false, .slice a n c] 53)).cell? ⟨w.heap.size, 0, none⟩ = some (.bool false) := cell_fresh rfl
  have c1 : (w.alloc (.cells #[.bool false, .slice a n c] 53)).cell? ⟨w.heap.size, 1, none⟩ = some (.slice a n c) := cell_fresh rfl
  go_enter Tryz.func25, Tryz.ntmps25
  go_wp2
  refine ⟨rfl, .agg #[.bool false, .slice a n c], by simp [results, Tryz.f25, go_sem, c0, c1], rfl, hb⟩
theorem some_any (v : Value) (a : Option Addr) (n c : Nat) (hv : v = .slice a n c) (w : World) : Calls Tryz.prog 26 #[v] w fun e w' => e = .returned (.agg #[.bool true, v]) ∧ Below w.heap.size w w' := by
  subst hv
  have hb : Below w.heap.size w (w.alloc (.cells #[.bool true, .slice a n c] 53)) := (Below.refl _ _).alloc (Nat.le_refl _) _
  have c0 : (w.alloc (.cells #[.bool true, .slice a n c] 53)).cell? ⟨w.heap.size, 0, none⟩ = some (.bool true) := cell_fresh rfl
  have c1 : (w.alloc (.cells #[.bool true, .slice a n c] 53)).cell? ⟨w.heap.size, 1, none⟩ = some (.slice a n c) := cell_fresh rfl
  go_enter Tryz.func26, Tryz.ntmps26
  go_wp2
  refine ⟨rfl, .agg #[.bool true, .slice a n c], by simp [results, Tryz.f26, go_sem, c0, c1], rfl, hb⟩

theorem in64X (l : List Int) (h : (l.all fun x => decide (-9223372036854775808 ≤ x) && decide (x ≤ 9223372036854775807)) = true) : In64 l := fun x hx => by
  have := List.all_eq_true.1 h x hx
  simpa using this
theorem ints_lit (w : World) (l : List Int) (cs : Array Value) (n : Nat) (T : TypeId) (hcs : cs = (l.map (Value.int .i64)).toArray) (hn : n = l.length) (h64 : In64 l) (hl : l.length ≤ 1000000) : IsInts (w.alloc (.cells cs T)) (.slice (some ⟨w.heap.size, 0, none⟩) n n) l := by
  subst hcs; subst hn
  refine ⟨_, _, rfl, ⟨Nat.le_refl _, fun h => by cases h⟩, by omega, by omega, h64, w.heap.size, 0, fun _ => ⟨rfl, by simp⟩, fun j hj => ?_⟩
  have e := World.alloc_heap_new w (.cells (l.map (Value.int .i64)).toArray T)
  simp only [World.cell?, e]
  simp [hj, List.getD]
theorem blocks_lit (w : World) (t : List Trp) (cs : Array Value) (n : Nat) (T : TypeId) (hcs : cs = (cellsT t).toArray) (hn : n = t.length) (h : ∀ x ∈ t, IsInts w x.2.1 x.2.2) (hl : t.length ≤ 1000000) : IsBlocks (w.alloc (.cells cs T)) (.slice (some ⟨w.heap.size, 0, none⟩) n n) (shapeT t) := by
  subst hcs; subst hn
  have hb : Below w.heap.size w (w.alloc (.cells (cellsT t).toArray T)) := (Below.refl _ _).alloc (Nat.le_refl _) _
  have e := World.alloc_heap_new w (.cells (cellsT t).toArray T)
  refine ⟨_, t.length, by rw [shapeT_len], ⟨by rw [shapeT_len]; exact Nat.le_refl _, fun h => by cases h⟩, by omega, by rw [shapeT_len]; omega, w.heap.size, 0, fun _ => ⟨rfl, by simp⟩, fun j hj => ?_⟩
  rw [shapeT_len] at hj
  obtain ⟨e1, e2⟩ := cellsT_at t j hj
  have e3 : (shapeT t).getD j dB = ((t.getD j (false, .slice none 0 0, [])).1, (t.getD j (false, .slice none 0 0, [])).2.2) := by
    unfold shapeT
    simp [List.getD, hj]
  have hm : t.getD j (false, .slice none 0 0, []) ∈ t := by simp [List.getD, hj]
  refine ⟨?_, (t.getD j (false, .slice none 0 0, [])).2.1, ?_, ?_⟩
  · simp only [World.cell?, e, Nat.zero_add]
    rw [List.getElem?_toArray, e1]
    exact congrArg some (congrArg Value.bool (congrArg Prod.fst e3).symm)
  · simp only [World.cell?, e, Nat.zero_add]
    rw [List.getElem?_toArray, e2]
    rfl
  · have e4 : ((shapeT t).getD j (false, [])).2 = (t.getD j (false, .slice none 0 0, [])).2.2 := congrArg Prod.snd e3
    rw [e4]
    exact (h _ hm).below hb (Nat.le_refl _)
def exP : List Blk := [(true, [5]), (false, [1, 2]), (true, [3]), (false, [4])]

set_option maxRecDepth 100000 in
theorem example_any (w : World) : Calls Tryz.prog 20 #[] w fun e w' => ∃ v, e = .returned v ∧ IsBlocks w' v exP ∧ Below w.heap.size w w' := by
  go_enter Tryz.func20, Tryz.ntmps20
  go_wp2_with (first
    | (go_at_call_of 26 w; refine (some_any _ _ _ _ rfl _).mono ?_; rintro e w1 ⟨rfl, hb1⟩)
    | (go_at_call_of 25 w1; refine (all_any _ _ _ _ rfl _).mono ?_; rintro e w2 ⟨rfl, hb2⟩)
    | (go_at_call_of 26 w2; refine (some_any _ _ _ _ rfl _).mono ?_; rintro e w3 ⟨rfl, hb3⟩)
    | (go_at_call_of 25 w3; refine (all_any _ _ _ _ rfl _).mono ?_; rintro e w4 ⟨rfl, hb4⟩))
  go_ret
  have i1 := (ints_lit w [5] _ 1 3 rfl rfl (in64X _ (by decide)) (by decide)).below hb1 (Nat.le_refl _)
  have i2 := (ints_lit w1 [1, 2] _ 2 3 rfl rfl (in64X _ (by decide)) (by decide)).below hb2 (Nat.le_refl _)
  have i3 := (ints_lit w2 [3] _ 1 3 rfl rfl (in64X _ (by decide)) (by decide)).below hb3 (Nat.le_refl _)
  have i4 := (ints_lit w3 [4] _ 1 3 rfl rfl (in64X _ (by decide)) (by decide)).below hb4 (Nat.le_refl _)
  have s1 := hb1.size
  have s2 := hb2.size
  have s3 := hb3.size
  have s4 := hb4.size
  simp at s1 s2 s3 s4
  have j1 := ((i1.below ((Below.refl _ _).alloc (Nat.le_refl _) _) (Nat.le_refl _)).below hb2 (by simp)).below ((Below.refl _ _).alloc (Nat.le_refl _) (.cells #[.int .i64 3] 3)) (Nat.le_refl _)
  have j2 := i2.below ((Below.refl _ _).alloc (Nat.le_refl _) (.cells #[.int .i64 3] 3)) (Nat.le_refl _)
  have k1 := (j1.below hb3 (by simp)).below ((Below.refl _ _).alloc (Nat.le_refl _) (.cells #[.int .i64 4] 3)) (Nat.le_refl _)
  have k2 := (j2.below hb3 (by simp)).below ((Below.refl _ _).alloc (Nat.le_refl _) (.cells #[.int .i64 4] 3)) (Nat.le_refl _)
  have k3 := i3.below ((Below.refl _ _).alloc (Nat.le_refl _) (.cells #[.int .i64 4] 3)) (Nat.le_refl _)
  have hB := blocks_lit w4 [(true, .slice (some ⟨w.heap.size, 0, none⟩) 1 1, [5]), (false, .slice (some ⟨w1.heap.size, 0, none⟩) 2 2, [1, 2]), (true, .slice (some ⟨w2.heap.size, 0, none⟩) 1 1, [3]), (false, .slice (some ⟨w3.heap.size, 0, none⟩) 1 1, [4])] _ 4 53 rfl rfl (by
    intro x hx
    simp only [List.mem_cons, List.not_mem_nil, or_false] at hx
    rcases hx with rfl | rfl | rfl | rfl
    · exact k1.below hb4 (by simp)
    · exact k2.below hb4 (by simp)
    · exact k3.below hb4 (by simp)
    · exact i4) (by simp)
  exact ⟨_, rfl, hB, ((((((((Below.refl w.heap.size w).alloc (Nat.le_refl _) _).trans (hb1.mono (by (try simp only [World.size_alloc]); omega))).alloc (by (try simp only [World.size_alloc]); omega) _).trans (hb2.mono (by (try simp only [World.size_alloc]); omega))).alloc (by (try simp only [World.size_alloc]); omega) _).trans (hb3.mono (by (try simp only [World.size_alloc]); omega))).alloc (by (try simp only [World.size_alloc]); omega) _).trans (hb4.mono (by (try simp only [World.size_alloc]); omega)) |>.alloc (by (try simp only [World.size_alloc]); omega) _⟩

end Go.Proofs.YtmiijgjpkkmoaaaGreat

/- The values that head compares. -/
namespace Go.Proofs.YtmiijgjpkkmoaaaGreat
open Go.RowKit
set_option linter.unusedVariables false
set_option linter.unusedSimpArgs false

theorem exP_may : mayP exP = true := by decide
theorem asc12 : ascI [1, 2] = [1, 2] := by unfold ascI; simp [List.mergeSort, List.merge, List.MergeSort.Internal.splitInTwo]
theorem asc53 : ascI [5, 3] = [3, 5] := by unfold ascI; simp [List.mergeSort, List.merge, List.MergeSort.Internal.splitInTwo]
theorem asc23 : ascI [2, 3] = [2, 3] := by unfold ascI; simp [List.mergeSort, List.merge, List.MergeSort.Internal.splitInTwo]
theorem asc0 : ascI [] = [] := by unfold ascI; simp [List.mergeSort]
theorem on3 : onL exP 3 = ([1, 2], 0) := by
  unfold onL
  rw [if_pos exP_may, if_pos (by decide), show otherL (findL exP 3).2.1 (exP.take (findL exP 3).1) = [1, 2] by decide, asc12]
theorem on4 : onL exP 4 = ([3, 5], 0) := by
  unfold onL
  rw [if_pos exP_may, if_pos (by decide), show otherL (findL exP 4).2.1 (exP.take (findL exP 4).1) = [5, 3] by decide, asc53]
theorem on5 : onL exP 5 = ([], 0) := by
  unfold onL
  rw [if_pos exP_may, if_pos (by decide), show otherL (findL exP 5).2.1 (exP.take (findL exP 5).1) = [] by decide, asc0]
theorem red1 : [1, 3, -4].filter (keepR exP (lastL exP true [1, 3, -4])) = [1, 3] := by decide
theorem red2 : [1, 2].filter (keepR exP (lastL exP true [1, 2])) = [] := by decide
theorem red3 : [1, 3, -4].filter (keepR exP (lastL exP false [1, 3, -4])) = [1, 3, -4] := by decide
theorem red4 : [3, 5].filter (keepR exP (lastL exP false [3, 5])) = [] := by decide
theorem joi : joinA [(false, [2]), (true, []), (false, [1]), (true, [3])] = ([(false, [2, 1]), (true, [3])], 0) := by decide
theorem les : lessR exP [1, 2, 9] = ([(true, [5, 3]), (false, [4])], 0) := by decide
theorem clo : closeR [(false, [1])] [[1, -2, 3]] = ([(true, [2, 3]), (false, [1])], 0) := by
  have h1 : freeL [[1, -2, 3]] (flatB [(false, [1])]) = [2, 3] := by
    unfold freeL
    rw [show freeUp (flatB [(false, [1])]) (occL [[1, -2, 3]]) = [2, 3] by decide, asc23]
  unfold closeR
  rw [if_pos (by decide)]
  unfold closeB
  rw [h1]
  decide
theorem lin1 : linR [(5, []), (3, [1, 2])] [1, 2, 4] = (exP, 0) := by decide
theorem lin2 : linR [(3, [1]), (4, [2])] [1, 2] = ([], 30) := by decide
theorem dq1 : mayDB [1, 2, 4] [(3, [1, 2]), (5, [])] [] = true := by decide
theorem dq2 : mayDB [1, 2] [(3, [1]), (4, [2])] [] = true := by decide

end Go.Proofs.YtmiijgjpkkmoaaaGreat

/- Linear's two calls in head. -/
namespace Go.Proofs.YtmiijgjpkkmoaaaGreat
open Go.RowKit Go.Shelf Go.Sort Go.Lib
set_option linter.unusedVariables false
set_option linter.unusedSimpArgs false

theorem deps_lit (w : World) (s : List DepV) (cs : Array Value) (n : Nat) (T : TypeId) (hcs : cs = (cellsD s).toArray) (hn : n = s.length) (h : ∀ x ∈ s, IsInts w (.slice x.a x.l.length x.c) x.l) (hl : s.length ≤ 1000000) : IsDeps (w.alloc (.cells cs T)) (.slice (some ⟨w.heap.size, 0, none⟩) n n) (s.map (fun x => (x.v, x.l))) := by
  subst hcs; subst hn
  have hb : Below w.heap.size w (w.alloc (.cells (cellsD s).toArray T)) := (Below.refl _ _).alloc (Nat.le_refl _) _
  have e := World.alloc_heap_new w (.cells (cellsD s).toArray T)
  refine ⟨_, s.length, by rw [List.length_map], ⟨by rw [List.length_map]; exact Nat.le_refl _, fun h => by cases h⟩, by omega, by rw [List.length_map]; omega, w.heap.size, 0, fun _ => ⟨rfl, by simp⟩, fun j hj => ?_⟩
  rw [List.length_map] at hj
  have e1 := cellsD_at s (j * 2) (by omega)
  have e2 := cellsD_at s (j * 2 + 1) (by omega)
  rw [show j * 2 / 2 = j by omega, show j * 2 % 2 = 0 by omega] at e1
  rw [show (j * 2 + 1) / 2 = j by omega, show (j * 2 + 1) % 2 = 1 by omega] at e2
  have e3 : (s.map (fun x => (x.v, x.l))).getD j (0, []) = ((s.getD j default).v, (s.getD j default).l) := by simp [List.getD, hj]
  have hm : s.getD j default ∈ s := by simp [List.getD, hj]
  refine ⟨?_, .slice (s.getD j default).a (s.getD j default).l.length (s.getD j default).c, ?_, ?_⟩
  · simp only [World.cell?, e, Nat.zero_add]
    rw [List.getElem?_toArray, e1]
    exact congrArg some (congrArg (Value.int .i64) (congrArg Prod.fst e3).symm)
  · simp only [World.cell?, e, Nat.zero_add]
    rw [List.getElem?_toArray, e2]
    rfl
  · have e4 : ((s.map (fun x => (x.v, x.l))).getD j (0, [])).2 = (s.getD j default).l := congrArg Prod.snd e3
    rw [e4]
    exact (h _ hm).below hb (Nat.le_refl _)
theorem byLen_two {s : List DepV} {a b : Int × List Int} (h : s.map (fun x => (x.v, x.l)) = [a, b]) : (byLen s).map (fun x => (x.v, x.l)) = if b.2.length < a.2.length then [b, a] else [a, b] := by
  match s, h with
  | [x, y], h =>
    simp only [List.map_cons, List.map_nil, List.cons.injEq, and_true] at h
    obtain ⟨rfl, rfl⟩ := h
    have h2 := sort_two x y
    unfold byLen
    show (Sort.insertionSort (ltOf cfD) #[x, y] 0 2).toList.map _ = _
    rw [h2]
    split <;> rfl

theorem rows_nilX (w : World) : IsRows w (.slice none 0 0) [] := ⟨none, 0, rfl, ⟨Nat.le_refl _, fun _ => rfl⟩, by omega, by simp, 0, 0, fun h => absurd rfl h, fun j hj => absurd hj (Nat.not_lt_zero _)⟩
def smallB (q : List Blk) : Bool := decide (q.length ≤ 1000) && q.all fun x => decide (x.2.length ≤ 1000) && x.2.all fun y => decide (-9223372036854775808 ≤ y) && decide (y ≤ 9223372036854775807)
theorem joinst_blocks {w w' : World} {v : Value} {t : List Trp} {q : List Blk} (hb : Below w.heap.size w w') (hj : JoinSt w' w.heap.size v t) (hq : shapeT t = q) (hs : smallB q = true) : IsBlocks w' v q := by
  unfold smallB at hs
  rw [Bool.and_eq_true, decide_eq_true_eq] at hs
  have hR : RowB w w' w.heap.size v t := ⟨hb, Nat.le_refl _, hj.row, fun x hx => .inl (hj.owns x hx)⟩
  have hl : t.length = q.length := by rw [← hq, shapeT_len]
  have := hR.blocks (by omega) (fun x hx => by
    have hm : (x.1, x.2.2) ∈ q := by rw [← hq]; exact List.mem_map.2 ⟨x, hx, rfl⟩
    have h2 := List.all_eq_true.1 hs.2 _ hm
    rw [Bool.and_eq_true, decide_eq_true_eq] at h2
    exact ⟨by have := h2.1; simp only at this; omega, in64X _ h2.2⟩)
  rw [hq] at this
  exact this
theorem lin_lit1 (X : World) :
    Calls Tryz.prog 10 #[.agg #[.slice (some ⟨X.heap.size, 0, none⟩) 3 3, .slice (some ⟨X.heap.size + 1 + 1, 0, none⟩) 2 2, .slice none 0 0]]
      (((X.alloc (.cells #[.int .i64 1, .int .i64 2, .int .i64 4] 3)).alloc (.cells #[.int .i64 1, .int .i64 2] 3)).alloc (.cells #[.int .i64 3, .slice (some ⟨X.heap.size + 1, 0, none⟩) 2 2, .int .i64 5, .slice none 0 0] 51))
      fun e w' => ∃ a c, e = .returned (.tuple #[.slice a 4 c, .int .i64 0]) ∧ IsBlocks w' (.slice a 4 c) exP ∧ Below X.heap.size X w' := by
  have i1 := ints_lit X [1, 2, 4] #[.int .i64 1, .int .i64 2, .int .i64 4] 3 3 rfl rfl (in64X _ (by decide)) (by decide)
  obtain ⟨X1, h1⟩ : ∃ X1, X.alloc (.cells #[.int .i64 1, .int .i64 2, .int .i64 4] 3) = X1 := ⟨_, rfl⟩
  have z1 : X1.heap.size = X.heap.size + 1 := by rw [← h1]; simp
  have b1 : Below X.heap.size X X1 := by rw [← h1]; exact (Below.refl _ _).alloc (Nat.le_refl _) _
  rw [h1] at i1 ⊢
  have i2 := ints_lit X1 [1, 2] #[.int .i64 1, .int .i64 2] 2 3 rfl rfl (in64X _ (by decide)) (by decide)
  have j1 := i1.below ((Below.refl _ _).alloc (Nat.le_refl _) (.cells #[.int .i64 1, .int .i64 2] 3)) (Nat.le_refl _)
  rw [z1] at i2
  obtain ⟨X2, h2⟩ : ∃ X2, X1.alloc (.cells #[.int .i64 1, .int .i64 2] 3) = X2 := ⟨_, rfl⟩
  have z2 : X2.heap.size = X.heap.size + 1 + 1 := by rw [← h2]; simp [z1]
  have b2 : Below X1.heap.size X1 X2 := by rw [← h2]; exact (Below.refl _ _).alloc (Nat.le_refl _) _
  rw [h2] at i2 j1 ⊢
  have d3 := deps_lit X2 [⟨3, some ⟨X.heap.size + 1, 0, none⟩, 2, [1, 2]⟩, ⟨5, none, 0, []⟩] #[.int .i64 3, .slice (some ⟨X.heap.size + 1, 0, none⟩) 2 2, .int .i64 5, .slice none 0 0] 2 51 rfl rfl (by
    intro x hx
    simp only [List.mem_cons, List.not_mem_nil, or_false] at hx
    rcases hx with rfl | rfl
    · exact i2
    · exact IsInts.nil _) (by simp)
  have k1 := j1.below ((Below.refl _ _).alloc (Nat.le_refl _) (.cells #[.int .i64 3, .slice (some ⟨X.heap.size + 1, 0, none⟩) 2 2, .int .i64 5, .slice none 0 0] 51)) (Nat.le_refl _)
  rw [z2] at d3
  obtain ⟨X3, h3⟩ : ∃ X3, X2.alloc (.cells #[.int .i64 3, .slice (some ⟨X.heap.size + 1, 0, none⟩) 2 2, .int .i64 5, .slice none 0 0] 51) = X3 := ⟨_, rfl⟩
  have z3 : X3.heap.size = X.heap.size + 1 + 1 + 1 := by rw [← h3]; simp [z2]
  have b3 : Below X2.heap.size X2 X3 := by rw [← h3]; exact (Below.refl _ _).alloc (Nat.le_refl _) _
  rw [h3] at d3 k1 ⊢
  refine (linear_any _ _ _ [1, 2, 4] [(3, [1, 2]), (5, [])] [] X3 k1 d3 (rows_nilX _) (in64X _ (by decide)) (by decide) (by decide) dq1).mono ?_
  rintro e w' ⟨s, hs, v, t, rfl, hst, hsh, hb⟩
  rw [byLen_two hs, if_pos (by decide), lin1] at hsh ⊢
  have hq := joinst_blocks hb hst hsh (by decide)
  have hl : t.length = 4 := by
    have := congrArg List.length hsh
    rw [shapeT_len] at this
    exact this
  obtain ⟨a, c, rfl⟩ := hst.shape
  rw [hl] at hq ⊢
  exact ⟨a, c, rfl, hq, b1.trans ((b2.trans ((b3.trans (hb.mono b3.size)).mono b2.size)).mono b1.size)⟩
theorem lin_lit2 (X : World) :
    Calls Tryz.prog 10 #[.agg #[.slice (some ⟨X.heap.size, 0, none⟩) 2 2, .slice (some ⟨X.heap.size + 1 + 1 + 1, 0, none⟩) 2 2, .slice none 0 0]]
      ((((X.alloc (.cells #[.int .i64 1, .int .i64 2] 3)).alloc (.cells #[.int .i64 1] 3)).alloc (.cells #[.int .i64 2] 3)).alloc (.cells #[.int .i64 3, .slice (some ⟨X.heap.size + 1, 0, none⟩) 1 1, .int .i64 4, .slice (some ⟨X.heap.size + 1 + 1, 0, none⟩) 1 1] 51))
      fun e w' => ∃ v, e = .returned (.tuple #[v, .int .i64 30]) ∧ Below X.heap.size X w' := by
  have i1 := ints_lit X [1, 2] #[.int .i64 1, .int .i64 2] 2 3 rfl rfl (in64X _ (by decide)) (by decide)
  obtain ⟨X1, h1⟩ : ∃ X1, X.alloc (.cells #[.int .i64 1, .int .i64 2] 3) = X1 := ⟨_, rfl⟩
  have z1 : X1.heap.size = X.heap.size + 1 := by rw [← h1]; simp
  have b1 : Below X.heap.size X X1 := by rw [← h1]; exact (Below.refl _ _).alloc (Nat.le_refl _) _
  rw [h1] at i1 ⊢
  have i2 := ints_lit X1 [1] #[.int .i64 1] 1 3 rfl rfl (in64X _ (by decide)) (by decide)
  rw [z1] at i2
  obtain ⟨X2, h2⟩ : ∃ X2, X1.alloc (.cells #[.int .i64 1] 3) = X2 := ⟨_, rfl⟩
  have z2 : X2.heap.size = X.heap.size + 1 + 1 := by rw [← h2]; simp [z1]
  have b2 : Below X1.heap.size X1 X2 := by rw [← h2]; exact (Below.refl _ _).alloc (Nat.le_refl _) _
  rw [h2] at i2 ⊢
  have i3 := ints_lit X2 [2] #[.int .i64 2] 1 3 rfl rfl (in64X _ (by decide)) (by decide)
  rw [z2] at i3
  obtain ⟨X3, h3⟩ : ∃ X3, X2.alloc (.cells #[.int .i64 2] 3) = X3 := ⟨_, rfl⟩
  have z3 : X3.heap.size = X.heap.size + 1 + 1 + 1 := by rw [← h3]; simp [z2]
  have b3 : Below X2.heap.size X2 X3 := by rw [← h3]; exact (Below.refl _ _).alloc (Nat.le_refl _) _
  rw [h3] at i3 ⊢
  have d4 := deps_lit X3 [⟨3, some ⟨X.heap.size + 1, 0, none⟩, 1, [1]⟩, ⟨4, some ⟨X.heap.size + 1 + 1, 0, none⟩, 1, [2]⟩] #[.int .i64 3, .slice (some ⟨X.heap.size + 1, 0, none⟩) 1 1, .int .i64 4, .slice (some ⟨X.heap.size + 1 + 1, 0, none⟩) 1 1] 2 51 rfl rfl (by
    intro x hx
    simp only [List.mem_cons, List.not_mem_nil, or_false] at hx
    rcases hx with rfl | rfl
    · exact i2.below b3 (Nat.le_refl _)
    · exact i3) (by simp)
  rw [z3] at d4
  obtain ⟨X4, h4⟩ : ∃ X4, X3.alloc (.cells #[.int .i64 3, .slice (some ⟨X.heap.size + 1, 0, none⟩) 1 1, .int .i64 4, .slice (some ⟨X.heap.size + 1 + 1, 0, none⟩) 1 1] 51) = X4 := ⟨_, rfl⟩
  have b4 : Below X3.heap.size X3 X4 := by rw [← h4]; exact (Below.refl _ _).alloc (Nat.le_refl _) _
  rw [h4] at d4 ⊢
  have k1 := ((i1.below b2 (Nat.le_refl _)).below b3 (Nat.le_refl _)).below b4 (Nat.le_refl _)
  refine (linear_any _ _ _ [1, 2] [(3, [1]), (4, [2])] [] X4 k1 d4 (rows_nilX _) (in64X _ (by decide)) (by decide) (by decide) dq2).mono ?_
  rintro e w' ⟨s, hs, v, t, rfl, hst, hsh, hb⟩
  rw [byLen_two hs, if_neg (by decide), lin2]
  exact ⟨v, rfl, b1.trans ((b2.trans ((b3.trans ((b4.trans (hb.mono b4.size)).mono b3.size)).mono b2.size)).mono b1.size)⟩

end Go.Proofs.YtmiijgjpkkmoaaaGreat
