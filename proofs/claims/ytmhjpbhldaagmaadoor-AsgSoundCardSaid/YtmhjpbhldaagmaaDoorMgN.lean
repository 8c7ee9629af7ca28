/- Joined texts: Awk, Awk2, LawVals. -/
import Derived.Test.YtmhjpbhldaagmaaDoorUnitsU
import Derived.Test.YtmhjpbhldaagmaaDoorMgZ
import Derived.Test.YtmhjpbhldaagmaaDoorMgV
import Derived.Test.YtmhjpbhldaagmaaDoorMgT
import Derived.Test.YtmhjpbhldaagmaaDoorLarge2
import Derived.Test.YtmhjpbhldaagmaaDoorStepsEq
import Derived.Test.YtmhjpbhldaagmaaDoorAsgAgree
import Derived.Test.YtmhjpbhldaagmaaDoorMgU
/- The examples of the chapter on assignments, reckoned. -/
namespace Go.Proofs.YtmhjpbhldaagmaaDoor
open Go.RowKit
set_option linter.unusedVariables false
set_option linter.unusedSimpArgs false

def inzB (l : List Int) : Bool := l.all fun x => decide (-9223372036854775808 ≤ x) && decide (x ≤ 9223372036854775807)
theorem inz (l : List Int) (h : inzB l = true) : In64 l := fun x hx => by
  have := List.all_eq_true.1 h x hx
  simpa using this
theorem heapz (w : World) (o : Obj) (k : Nat) : (w.alloc o).heap[k]? = if k = w.heap.size then some o else w.heap[k]? := Array.getElem?_push
theorem sizez (w : World) (o : Obj) : (w.alloc o).heap.size = w.heap.size + 1 := by simp
theorem zat0 {w : World} {o : Obj} {k : Nat} (h : k = w.heap.size) : (w.alloc o).heap[k]? = some o := by rw [heapz, if_pos h]
theorem zat1 {w : World} {o x : Obj} {k : Nat} (hk : k ≠ w.heap.size) (h : w.heap[k]? = some x) : (w.alloc o).heap[k]? = some x := by rw [heapz, if_neg hk]; exact h
theorem zst {w W : World} {o : Obj} (h : Below w.heap.size w W) : Below w.heap.size w (W.alloc o) := h.alloc h.size _
theorem IsInts.blkz {W : World} {g : Nat} (l : List Int) {n : Nat} {c : Array Value} {T : TypeId} (h : W.heap[g]? = some (.cells c T (0, 0))) (hc : c = (l.map (Value.int .i64)).toArray) (hn : n = l.length) (h64 : inzB l = true) (hl : l.length ≤ 17592186044416) : IsInts W (.slice (some ⟨g, 0, none⟩) n n) l := by
  subst hc hn
  refine ⟨_, _, rfl, ⟨Nat.le_refl _, fun h => by cases h⟩, by omega, hl, inz l h64, g, 0, fun _ => ⟨rfl, (Array.getElem?_eq_some_iff.1 h).1⟩, fun j hj => ?_⟩
  simp only [World.cell?, h]
  simp [hj, List.getD]

theorem ru1 : Run [[1, 2], [-2], [-1, 3]] [] [(-2, 1), (1, 0), (3, 2)] (-1) :=
  .step (i := 1) (by unfold firstC decC; decide) (by decide) (.step (i := 0) (by unfold firstC decC; decide) (by decide) (.step (i := 2) (by unfold firstC decC; decide) (by decide) (.done (by unfold decC; decide))))
theorem ru2 : Run [[1], [-1]] [] [(1, 0)] 1 :=
  .step (i := 0) (by unfold firstC decC; decide) (by decide) (show Run [[1], [-1]] [1] [] ((1 : Nat) : Int) from .conf (by unfold firstC decC; decide) (by decide))
theorem ru3 : Run [[1, 2]] [-1, -2] [] 0 :=
  show Run [[1, 2]] [-1, -2] [] ((0 : Nat) : Int) from .conf (by unfold firstC decC; decide) (by decide)
theorem ex_pt1 : pointL [1, 2, 3] 6 = ([-1, 2, 3], 0) := by decide
theorem ex_pt2 : pointL [1, 2, 3] 8 = ([], 4) := by decide
theorem ex_num : numberL [1, 2] [-1, 2] = (2, 0) := by decide
theorem ex_cl : judgeL 1 2 [] [] = 2 := by decide
theorem ex_cu : judgeL 2 1 [] [] = 1 := by decide
theorem ex_cnf : cnfL [] [] = 1 := by decide
theorem ex_val : valL [-2] 2 = 2 := by decide
theorem ex_und : underL [1] [[1, 2], [-1, 3], [-1]] = [[3], []] := by decide

theorem units_is {vf va : Value} {f : List (List Int)} {a : List Int} {W : World} (HR : IsRows W vf f) (HA : IsInts W va a) (hm : mayB a = true) (hc : mayCnfB f = true) {l : List (Int × Nat)} {c : Int} (R : Run f a l c) :
    Calls Tryd.prog 9 #[vf, va] W (fun e w' => ∃ v, e = .returned (.tuple #[v, .int .i64 c, .int .i64 0]) ∧ IsSteps w' v l ∧ Below W.heap.size W w') :=
  (units_any vf va f a W HR HA).mono fun e w' h => by
    obtain ⟨v, l', c', d, he, hs, hb, h3⟩ := h
    rcases h3 with ⟨_, _, rfl, hr, _⟩ | ⟨hno, _⟩
    · obtain ⟨rfl, rfl⟩ := hr.one R
      exact ⟨v, he, hs, hb⟩
    · exact absurd ⟨hm, hc⟩ hno

def Steps3 (w : World) (n : Nat) (l : List (Int × Nat)) (c : Int) (e : Ending) (w' : World) : Prop := ∃ a cap, e = .returned (.tuple #[.slice a n cap, .int .i64 c, .int .i64 0]) ∧ IsSteps w' (.slice a n cap) l ∧ Below w.heap.size w w'
theorem steps3 {w W w' : World} {e : Ending} {n : Nat} {l : List (Int × Nat)} {c : Int} (hn : l.length = n) (h : ∃ v, e = .returned (.tuple #[v, .int .i64 c, .int .i64 0]) ∧ IsSteps w' v l ∧ Below W.heap.size W w') (hb : Below w.heap.size w W) : Steps3 w n l c e w' := by
  obtain ⟨v, he, hs, hb2⟩ := h
  have hs0 := hs
  obtain ⟨a, cap, rfl, _⟩ := hs
  subst hn
  exact ⟨a, cap, he, hs0, hb.trans (hb2.mono hb.size)⟩

theorem u1 (w : World) : Calls Tryd.prog 9 #[.slice (some ⟨w.heap.size + 3, 0, none⟩) 3 3, .slice none 0 0]
    ((((w.alloc (.cells #[.int .i64 1, .int .i64 2] 3)).alloc (.cells #[.int .i64 (-2)] 3)).alloc (.cells #[.int .i64 (-1), .int .i64 3] 3)).alloc (.cells #[.slice (some ⟨w.heap.size, 0, none⟩) 2 2, .slice (some ⟨w.heap.size + 1, 0, none⟩) 1 1, .slice (some ⟨w.heap.size + 2, 0, none⟩) 2 2] 23))
    (Steps3 w 3 [(-2, 1), (1, 0), (3, 2)] (-1)) := by
  refine (units_is (IsRows.blks (ls := [[1, 2], [-2], [-1, 3]]) (zat0 (by simp)) rfl rfl (RowsAre.cons (IsInts.blkz [1, 2] (zat1 (by simp <;> omega) (zat1 (by simp <;> omega) (zat1 (by simp <;> omega) (zat0 rfl)))) rfl rfl (by decide) (by decide)) (RowsAre.cons (IsInts.blkz [-2] (zat1 (by simp <;> omega) (zat1 (by simp <;> omega) (zat0 (by simp)))) rfl rfl (by decide) (by decide)) (RowsAre.cons (IsInts.blkz [-1, 3] (zat1 (by simp <;> omega) (zat0 (by simp))) rfl rfl (by decide) (by decide)) (RowsAre.nil _)))) (by decide)) (IsInts.nil _) (by decide) (by decide) ru1).mono fun e w' h => steps3 rfl h (zst (zst (zst (zst (Below.refl _ _)))))
theorem u2 (w : World) : Calls Tryd.prog 9 #[.slice (some ⟨w.heap.size + 2, 0, none⟩) 2 2, .slice none 0 0]
    (((w.alloc (.cells #[.int .i64 1] 3)).alloc (.cells #[.int .i64 (-1)] 3)).alloc (.cells #[.slice (some ⟨w.heap.size, 0, none⟩) 1 1, .slice (some ⟨w.heap.size + 1, 0, none⟩) 1 1] 23))
    (Steps3 w 1 [(1, 0)] 1) := by
  refine (units_is (IsRows.blks (ls := [[1], [-1]]) (zat0 (by simp)) rfl rfl (RowsAre.cons (IsInts.blkz [1] (zat1 (by simp <;> omega) (zat1 (by simp <;> omega) (zat0 rfl))) rfl rfl (by decide) (by decide)) (RowsAre.cons (IsInts.blkz [-1] (zat1 (by simp <;> omega) (zat0 (by simp))) rfl rfl (by decide) (by decide)) (RowsAre.nil _))) (by decide)) (IsInts.nil _) (by decide) (by decide) ru2).mono fun e w' h => steps3 rfl h (zst (zst (zst (Below.refl _ _))))
theorem u3 (w : World) : Calls Tryd.prog 9 #[.slice (some ⟨w.heap.size + 1, 0, none⟩) 1 1, .slice (some ⟨w.heap.size + 2, 0, none⟩) 2 2]
    (((w.alloc (.cells #[.int .i64 1, .int .i64 2] 3)).alloc (.cells #[.slice (some ⟨w.heap.size, 0, none⟩) 2 2] 23)).alloc (.cells #[.int .i64 (-1), .int .i64 (-2)] 3))
    (Steps3 w 0 [] 0) := by
  refine (units_is (IsRows.blks (ls := [[1, 2]]) (zat1 (by simp <;> omega) (zat0 (by simp))) rfl rfl (RowsAre.cons (IsInts.blkz [1, 2] (zat1 (by simp <;> omega) (zat1 (by simp <;> omega) (zat0 rfl))) rfl rfl (by decide) (by decide)) (RowsAre.nil _)) (by decide)) (IsInts.blkz [-1, -2] (zat0 (by simp)) rfl rfl (by decide) (by decide)) (by decide) (by decide) ru3).mono fun e w' h => steps3 rfl h (zst (zst (zst (Below.refl _ _))))

def PairZ (w : World) (l : List Int) (c : Int) (e : Ending) (w' : World) : Prop := ∃ v, e = .returned (.tuple #[v, .int .i64 c]) ∧ IsInts w' v l ∧ Below w.heap.size w w'
theorem pairz {w w1 w' : World} {r : List Int × Int} {l : List Int} {c : Int} {e : Ending} (h : RetPair w1 r e w') (hr : r = (l, c)) (hb : Below w.heap.size w w1) : PairZ w l c e w' := by
  subst hr
  obtain ⟨v, h1, h2, h3⟩ := h
  exact ⟨v, h1, h2, hb.trans (h3.mono hb.size)⟩
theorem p1 (w : World) : Calls Tryd.prog 17 #[.slice (some ⟨w.heap.size, 0, none⟩) 3 3, .int .u64 6] (w.alloc (.cells #[.int .i64 1, .int .i64 2, .int .i64 3] 3)) (PairZ w [-1, 2, 3] 0) :=
  (point_any _ [1, 2, 3] 6 _ (IsInts.blkz [1, 2, 3] (zat0 rfl) rfl rfl (by decide) (by decide)) (by decide)).mono fun e w' h => pairz h ex_pt1 (zst (Below.refl _ _))
theorem p2 (w : World) : Calls Tryd.prog 17 #[.slice (some ⟨w.heap.size, 0, none⟩) 3 3, .int .u64 8] (w.alloc (.cells #[.int .i64 1, .int .i64 2, .int .i64 3] 3)) (PairZ w [] 4) :=
  (point_any _ [1, 2, 3] 8 _ (IsInts.blkz [1, 2, 3] (zat0 rfl) rfl rfl (by decide) (by decide)) (by decide)).mono fun e w' h => pairz h ex_pt2 (zst (Below.refl _ _))
theorem n1 (w : World) : Calls Tryd.prog 23 #[.slice (some ⟨w.heap.size, 0, none⟩) 2 2, .slice (some ⟨w.heap.size + 1, 0, none⟩) 2 2] ((w.alloc (.cells #[.int .i64 1, .int .i64 2] 3)).alloc (.cells #[.int .i64 (-1), .int .i64 2] 3))
    (fun e w' => e = .returned (.tuple #[.int .u64 2, .int .i64 0]) ∧ Below w.heap.size w w') :=
  (number_any _ _ [1, 2] [-1, 2] _ (IsInts.blkz [1, 2] (zat1 (by simp <;> omega) (zat0 rfl)) rfl rfl (by decide) (by decide)) (IsInts.blkz [-1, 2] (zat0 (by simp)) rfl rfl (by decide) (by decide))).mono fun e w' h => by
    obtain ⟨h1, rfl⟩ := h
    rw [ex_num] at h1
    exact ⟨h1, zst (zst (Below.refl _ _))⟩

theorem IsSteps.lit3 (w : World) : IsSteps (w.alloc (.cells #[.int .i64 (-2), .int .i64 1, .int .i64 1, .int .i64 0, .int .i64 3, .int .i64 2] 34)) (.slice (some ⟨w.heap.size, 0, none⟩) 3 3) [(-2, 1), (1, 0), (3, 2)] := by
  refine ⟨_, _, rfl, by decide, by decide, by decide, by decide, w.heap.size, fun _ => ⟨rfl, by simp⟩, fun j hj => ?_⟩
  have e := heap_alloc_new w (.cells #[.int .i64 (-2), .int .i64 1, .int .i64 1, .int .i64 0, .int .i64 3, .int .i64 2] 34)
  simp only [World.cell?, e]
  match j, hj with
  | 0, _ => exact ⟨rfl, rfl⟩
  | 1, _ => exact ⟨rfl, rfl⟩
  | 2, _ => exact ⟨rfl, rfl⟩
theorem eqz (w : World) (v : Value) (h : IsSteps w v [(-2, 1), (1, 0), (3, 2)]) : Calls Tryd.prog 28 #[v, .slice (some ⟨w.heap.size, 0, none⟩) 3 3] (w.alloc (.cells #[.int .i64 (-2), .int .i64 1, .int .i64 1, .int .i64 0, .int .i64 3, .int .i64 2] 34))
    (fun e w' => e = .returned (.bool true) ∧ Below w.heap.size w w') :=
  (equals_any _ _ _ _ _ (h.below (zst (Below.refl _ _)) (Nat.le_refl _)) (IsSteps.lit3 w)).mono fun e w' h => ⟨h.1, (zst (Below.refl _ _)).trans (h.2.below _)⟩
theorem smz (w : World) (v : Value) (h : IsInts w v [-1, 2, 3]) : Calls Tryd.prog 68 #[v, .slice (some ⟨w.heap.size, 0, none⟩) 3 3] (w.alloc (.cells #[.int .i64 (-1), .int .i64 2, .int .i64 3] 3))
    (fun e w' => e = .returned (.bool true) ∧ Below w.heap.size w w') :=
  (same_any _ _ _ _ _ (h.below (zst (Below.refl _ _)) (Nat.le_refl _)) (IsInts.blkz [-1, 2, 3] (zat0 rfl) rfl rfl (by decide) (by decide))).mono fun e w' h => ⟨h.1, (zst (Below.refl _ _)).trans (h.2.below _)⟩
theorem clz (w : World) : Calls Tryd.prog 15 #[.slice none 0 0, .slice none 0 0] w (fun e w' => e = .returned (.int .u8 2) ∧ Below w.heap.size w w') :=
  (clause_any _ _ [] [] w (IsInts.nil w) (IsInts.nil w)).mono fun e w' h => ⟨by rw [h.1, ex_cl], h.2⟩
theorem cuz (w : World) : Calls Tryd.prog 29 #[.slice none 0 0, .slice none 0 0] w (fun e w' => e = .returned (.int .u8 1) ∧ Below w.heap.size w w') :=
  (cube_any _ _ [] [] w (IsInts.nil w) (IsInts.nil w)).mono fun e w' h => ⟨by rw [h.1, ex_cu], h.2⟩
theorem cnz (w : World) : Calls Tryd.prog 19 #[.slice none 0 0, .slice none 0 0] w (fun e w' => e = .returned (.int .u8 1) ∧ Below w.heap.size w w') :=
  (cnf_any _ _ [] [] w (IsInts.nil w) (IsRows.nil w)).mono fun e w' h => ⟨by rw [h.1, ex_cnf], h.2⟩
theorem vlz (w : World) : Calls Tryd.prog 30 #[.slice (some ⟨w.heap.size, 0, none⟩) 1 1, .int .i64 2] (w.alloc (.cells #[.int .i64 (-2)] 3)) (fun e w' => e = .returned (.int .u8 2) ∧ Below w.heap.size w w') :=
  (avalue_any _ [-2] 2 _ (IsInts.blkz [-2] (zat0 rfl) rfl rfl (by decide) (by decide)) (by decide) (by decide)).mono fun e w' h => ⟨by rw [h.1, ex_val], h.2 ▸ zst (Below.refl _ _)⟩
theorem unz (w : World) : Calls Tryd.prog 13 #[.slice (some ⟨w.heap.size, 0, none⟩) 1 1, .slice (some ⟨w.heap.size + 4, 0, none⟩) 3 3]
    (((((w.alloc (.cells #[.int .i64 1] 3)).alloc (.cells #[.int .i64 1, .int .i64 2] 3)).alloc (.cells #[.int .i64 (-1), .int .i64 3] 3)).alloc (.cells #[.int .i64 (-1)] 3)).alloc (.cells #[.slice (some ⟨w.heap.size + 1, 0, none⟩) 2 2, .slice (some ⟨w.heap.size + 2, 0, none⟩) 2 2, .slice (some ⟨w.heap.size + 3, 0, none⟩) 1 1] 23))
    (fun e w' => ∃ a cap, e = .returned (.slice a 2 cap) ∧ IsRows w' (.slice a 2 cap) [[3], []] ∧ Below w.heap.size w w') := by
  refine (under_any _ _ [1] [[1, 2], [-1, 3], [-1]] _ (IsInts.blkz [1] (zat1 (by simp <;> omega) (zat1 (by simp <;> omega) (zat1 (by simp <;> omega) (zat1 (by simp <;> omega) (zat0 rfl))))) rfl rfl (by decide) (by decide))
    (IsRows.blks (zat0 (by simp)) rfl rfl (RowsAre.cons (IsInts.blkz [1, 2] (zat1 (by simp <;> omega) (zat1 (by simp <;> omega) (zat1 (by simp <;> omega) (zat0 (by simp))))) rfl rfl (by decide) (by decide)) (RowsAre.cons (IsInts.blkz [-1, 3] (zat1 (by simp <;> omega) (zat1 (by simp <;> omega) (zat0 (by simp)))) rfl rfl (by decide) (by decide)) (RowsAre.cons (IsInts.blkz [-1] (zat1 (by simp <;> omega) (zat0 (by simp))) rfl rfl (by decide) (by decide)) (RowsAre.nil _)))) (by decide))).mono fun e w' h => ?_
  obtain ⟨v, us, he, ho, hr, hb⟩ := h
  rw [ex_und] at hr
  have hR : IsRows w' v [[3], []] := by
    refine ho.rows ⟨hr.1, fun j hj => (hr.2 j hj).ints ?_ ?_⟩ (by decide)
    · match j, hj with
      | 0, _ => decide
      | 1, _ => decide
    · match j, hj with
      | 0, _ => exact inz [3] (by decide)
      | 1, _ => exact inz [] (by decide)
  have hR0 := hR
  obtain ⟨a, cap, rfl, _⟩ := hR.shape
  exact ⟨a, cap, he, hR0, (zst (zst (zst (zst (zst (Below.refl _ _)))))).trans (hb.mono (by simp <;> omega))⟩
theorem saz (w : World) (v : Value) (h : IsRows w v [[3], []]) : Calls Tryd.prog 31 #[v, .slice (some ⟨w.heap.size + 1, 0, none⟩) 2 2] ((w.alloc (.cells #[.int .i64 3] 3)).alloc (.cells #[.slice (some ⟨w.heap.size, 0, none⟩) 1 1, .slice none 0 0] 23))
    (fun e w' => e = .returned (.bool true) ∧ Below w.heap.size w w') :=
  (sameall_any _ _ [[3], []] [[3], []] _ (h.below (zst (zst (Below.refl _ _))) (Nat.le_refl _)) (IsRows.blks (zat0 (by simp)) rfl rfl (RowsAre.cons (IsInts.blkz [3] (zat1 (by simp <;> omega) (zat0 rfl)) rfl rfl (by decide) (by decide)) (RowsAre.cons (IsInts.nil _) (RowsAre.nil _))) (by decide))).mono fun e w' h => ⟨h.1, (zst (zst (Below.refl _ _))).trans (h.2.below _)⟩

end Go.Proofs.YtmhjpbhldaagmaaDoor

/- awake of layer 2. -/
namespace Go.Proofs.YtmhjpbhldaagmaaDoor
open Go.RowKit
set_option linter.unusedVariables false
set_option linter.unusedSimpArgs false

def SameAz (w : World) : Prop := w.cell? ⟨0, 0, none⟩ = some (.func (.func 68) #[] #[])
theorem SameAz.lt {w : World} (h : SameAz w) : 0 < w.heap.size := World.block_lt_of_cell? w _ h
theorem SameAz.below {w w' : World} {B : Nat} (h : SameAz w) (hb : Below B w w') (hB : 0 < B) : SameAz w' := (hb.cell (p := ⟨0, 0, none⟩) hB).trans h

set_option maxHeartbeats 4000000 in
set_option maxRecDepth 100000 in
theorem awakez_any (w : World) (hS : SameAz w) : Calls Tryd.prog 8 #[] w (fun e w' => e = .returned (.bool true) ∧ Below w.heap.size w w') := by
  have hlt := hS.lt
  have HS := Lib.hid hS
  clear hS
  go_enter Tryd.func8, Tryd.ntmps8
  go_wp2_with (first
    | (go_at_call_of 9 w; refine (u1 w).mono ?_; rintro e w1 ⟨a1, c1, rfl, hi1, hb1⟩; have hs1 := hb1.size)
    | (go_at_call_of 9 w1; refine (u2 w1).mono ?_; rintro e w2 ⟨a2, c2, rfl, -, hb2⟩; have hs2 := hb2.size)
    | (go_at_call_of 9 w2; refine (u3 w2).mono ?_; rintro e w3 ⟨a3, c3, rfl, -, hb3⟩; have hs3 := hb3.size)
    | (go_at_call_of 17 w3; refine (p1 w3).mono ?_; rintro e w4 ⟨v4, rfl, hi4, hb4⟩; have hs4 := hb4.size)
    | (go_at_call_of 17 w4; refine (p2 w4).mono ?_; rintro e w5 ⟨v5, rfl, -, hb5⟩; have hs5 := hb5.size)
    | (go_at_call 23; refine (n1 w5).mono ?_; rintro e w6 ⟨rfl, hb6⟩; have hs6 := hb6.size; have hi6 := ((((hi1.below hb2 (Nat.le_refl _)).below hb3 (Nat.le_refl _)).below hb4 (Nat.le_refl _)).below hb5 (Nat.le_refl _)).below hb6 (Nat.le_refl _))
    | (go_at_call 28; refine (eqz w6 _ hi6).mono ?_; rintro e w7 ⟨rfl, hb7⟩; have hs7 := hb7.size; have hz7 := (((((hb1.trans (hb2.mono (by omega))).trans (hb3.mono (by omega))).trans (hb4.mono (by omega))).trans (hb5.mono (by omega))).trans (hb6.mono (by omega))).trans (hb7.mono (by omega)); have hg7 := HS.out.below hz7 hlt; unfold SameAz at hg7; have hi7 := ((hi4.below hb5 (Nat.le_refl _)).below hb6 (Nat.le_refl _)).below hb7 (Nat.le_refl _))
    | (go_at_call 68; refine (smz w7 _ hi7).mono ?_; rintro e w8 ⟨rfl, hb8⟩; have hs8 := hb8.size)
    | (go_at_call 15; refine (clz w8).mono ?_; rintro e w9 ⟨rfl, hb9⟩; have hs9 := hb9.size)
    | (go_at_call 29; refine (cuz w9).mono ?_; rintro e w10 ⟨rfl, hb10⟩; have hs10 := hb10.size)
    | (go_at_call 19; refine (cnz w10).mono ?_; rintro e w11 ⟨rfl, hb11⟩; have hs11 := hb11.size)
    | (go_at_call 30; refine (vlz w11).mono ?_; rintro e w12 ⟨rfl, hb12⟩; have hs12 := hb12.size)
    | (go_at_call 13; refine (unz w12).mono ?_; rintro e w13 ⟨a13, c13, rfl, hi13, hb13⟩; have hs13 := hb13.size)
    | (go_at_call 31; refine (saz w13 _ hi13).mono ?_; rintro e w14 ⟨rfl, hb14⟩; have hs14 := hb14.size; have hz14 := ((((((hz7.trans (hb8.mono (by omega))).trans (hb9.mono (by omega))).trans (hb10.mono (by omega))).trans (hb11.mono (by omega))).trans (hb12.mono (by omega))).trans (hb13.mono (by omega))).trans (hb14.mono (by omega))))
  go_ret
  exact ⟨rfl, hz14⟩

end Go.Proofs.YtmhjpbhldaagmaaDoor

/- The law on values, walked. -/
namespace Go.Proofs.YtmhjpbhldaagmaaDoor
open Go.RowKit
set_option linter.unusedVariables false
set_option linter.unusedSimpArgs false

theorem awakezX {w W : World} (hb : Below w.heap.size w W) (hS : SameAz w) : Calls Tryd.prog 8 #[] W (fun e w' => e = .returned (.bool true) ∧ Below w.heap.size w w') :=
  (awakez_any W (hS.below hb hS.lt)).mono fun e w' h => ⟨h.1, hb.trans (h.2.mono hb.size)⟩
theorem lgz {b : Bool} (a0 a1 : Option Addr) (n0 c0 n1 c1 : Nat) (w : World) (h0 : n0 ≤ 17592186044416) (h1 : n1 ≤ 17592186044416) (hb : decide (2000 < n0 + n1) = b) :
    Calls Tryd.prog 7 #[.slice none 0 0, .slice (some ⟨w.heap.size, 0, none⟩) 2 2] (w.alloc (.cells #[.slice a0 n0 c0, .slice a1 n1 c1] 23)) fun e w' => e = .returned (.bool b) ∧ Below w.heap.size w w' :=
  (large_two a0 a1 n0 c0 n1 c1 w.heap.size _ (zat0 rfl) h0 h1).mono fun e w' h => ⟨by rw [h.1, hb], (zst (Below.refl _ _)).trans (h.2.mono (by simp))⟩

end Go.Proofs.YtmhjpbhldaagmaaDoor
