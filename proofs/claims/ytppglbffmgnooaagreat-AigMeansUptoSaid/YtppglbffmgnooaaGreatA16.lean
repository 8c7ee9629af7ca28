/- Joined texts: AgLit, AgWorksV. -/
import Derived.Test.YtppglbffmgnooaaGreatAgTo
import Derived.Test.YtppglbffmgnooaaGreatAgFrom
import Derived.Test.YtppglbffmgnooaaGreatAgRSame
/- Lists, prefixes, gates and pairs that lie written out in one block. -/
namespace Go.Proofs.YtppglbffmgnooaaGreat
open Go.RowKit Go.Maps
set_option linter.unusedVariables false
set_option linter.unusedSimpArgs false

theorem block_cell {W : World} {b i : Nat} {xs : Array Value} {T : TypeId} {v : Value} (hh : W.heap[b]? = some (.cells xs T (0, 0))) (hv : xs[i]? = some v) : W.cell? ⟨b, i, none⟩ = some v := by
  simp [World.cell?, hh, hv]
theorem block_lt {W : World} {b : Nat} {o : Obj} (hh : W.heap[b]? = some o) : b < W.heap.size := (Array.getElem?_eq_some_iff.1 hh).1
/-- Cells of blocks, written out. -/
def cellsB (us : List (Bool × Value)) : List Value := (us.map (fun x => [Value.bool x.1, x.2])).flatten
theorem cellsB_at : ∀ (us : List (Bool × Value)) (j : Nat), j < us.length → (cellsB us)[j * 2]? = some (.bool (us.getD j (false, undef)).1) ∧ (cellsB us)[j * 2 + 1]? = some (us.getD j (false, undef)).2
  | [], j, h => by simp at h
  | x :: r, 0, _ => by simp [cellsB]
  | x :: r, j + 1, h => by
    have h1 := cellsB_at r j (by simpa using h)
    have e1 : (j + 1) * 2 = j * 2 + 2 := by omega
    rw [e1]
    simpa [cellsB] using h1
theorem blocks_heap {W : World} {b : Nat} {T : TypeId} (us : List (Bool × Value)) (l : List Blk) (hh : W.heap[b]? = some (.cells (cellsB us).toArray T (0, 0))) (hlen : us.length = l.length) (hl : l.length ≤ 17592186044416)
    (h : ∀ j, j < l.length → (us.getD j (false, undef)).1 = (l.getD j dB).1 ∧ IsInts W (us.getD j (false, undef)).2 (l.getD j dB).2) : IsBlocks W (.slice (some ⟨b, 0, none⟩) l.length l.length) l :=
  ⟨_, _, rfl, ⟨Nat.le_refl _, fun h => by cases h⟩, by omega, hl, b, 0, fun _ => ⟨rfl, block_lt hh⟩, fun j hj => by
    rw [Nat.zero_add]
    have h1 := cellsB_at us j (by omega)
    refine ⟨?_, _, block_cell hh (by simpa using h1.2), (h j hj).2⟩
    have h2 := block_cell (v := .bool (us.getD j (false, undef)).1) hh (by simpa using h1.1)
    rw [(h j hj).1] at h2
    exact h2⟩
/-- Cells of gates, written out. -/
def cellsU (us : List (Int × Int × Value)) : List Value := (us.map (fun x => [Value.int .i64 x.1, .int .u8 x.2.1, x.2.2])).flatten
def dU : Int × Int × Value := (0, 0, undef)
theorem cellsU_at : ∀ (us : List (Int × Int × Value)) (j : Nat), j < us.length → (cellsU us)[j * 3]? = some (.int .i64 (us.getD j dU).1) ∧ (cellsU us)[j * 3 + 1]? = some (.int .u8 (us.getD j dU).2.1) ∧ (cellsU us)[j * 3 + 2]? = some (us.getD j dU).2.2
  | [], j, h => by simp at h
  | x :: r, 0, _ => by simp [cellsU]
  | x :: r, j + 1, h => by
    have h1 := cellsU_at r j (by simpa using h)
    have e1 : (j + 1) * 3 = j * 3 + 3 := by omega
    rw [e1]
    simpa [cellsU] using h1
theorem gates_heap {W : World} {b : Nat} {T : TypeId} (us : List (Int × Int × Value)) (l : List Gt) (hh : W.heap[b]? = some (.cells (cellsU us).toArray T (0, 0))) (hlen : us.length = l.length) (hl : l.length ≤ 17592186044416) (hb : ∀ g ∈ l, (-9223372036854775808 ≤ g.1 ∧ g.1 ≤ 9223372036854775807) ∧ 0 ≤ g.2.1 ∧ g.2.1 ≤ 255)
    (h : ∀ j, j < l.length → (us.getD j dU).1 = (l.getD j dG).1 ∧ (us.getD j dU).2.1 = (l.getD j dG).2.1 ∧ IsInts W (us.getD j dU).2.2 (l.getD j dG).2.2) : IsGates W (.slice (some ⟨b, 0, none⟩) l.length l.length) l :=
  ⟨_, _, rfl, ⟨Nat.le_refl _, fun h => by cases h⟩, by omega, hl, hb, b, 0, fun _ => ⟨rfl, block_lt hh⟩, fun j hj => by
    rw [Nat.zero_add]
    have h1 := cellsU_at us j (by omega)
    obtain ⟨h2, h3, h4⟩ := h j hj
    have k1 := block_cell (v := .int .i64 (us.getD j dU).1) hh (by simpa using h1.1)
    have k2 := block_cell (v := .int .u8 (us.getD j dU).2.1) hh (by simpa using h1.2.1)
    rw [h2] at k1
    rw [h3] at k2
    exact ⟨k1, k2, _, block_cell hh (by simpa using h1.2.2), h4⟩⟩

theorem heap_hit {w : World} {o : Obj} {k : Nat} (h : k = w.heap.size) : (w.alloc o).heap[k]? = some o := by rw [heapy, if_pos h]
/-- Cells of pairs, written out. -/
def cellsQ (A : List Pr) : List Value := (A.map (fun p => [Value.int .i64 p.1, Value.int .i64 p.2])).flatten
theorem cellsQ_at : ∀ (A : List Pr) (j : Nat), j < A.length → (cellsQ A)[j * 2]? = some (.int .i64 (A.getD j dPr).1) ∧ (cellsQ A)[j * 2 + 1]? = some (.int .i64 (A.getD j dPr).2)
  | [], j, h => by simp at h
  | x :: r, 0, _ => by simp [cellsQ]
  | x :: r, j + 1, h => by
    have h1 := cellsQ_at r j (by simpa using h)
    have e1 : (j + 1) * 2 = j * 2 + 2 := by omega
    rw [e1]
    simpa [cellsQ] using h1
theorem pairs_heap {W : World} {b : Nat} {T : TypeId} (A : List Pr) (hh : W.heap[b]? = some (.cells (cellsQ A).toArray T (0, 0))) (hA : InP A) (hl : A.length ≤ 17592186044416) : IsPairs W (.slice (some ⟨b, 0, none⟩) A.length A.length) A :=
  ⟨_, _, rfl, ⟨Nat.le_refl _, fun h => by cases h⟩, by omega, hl, hA, b, 0, fun _ => ⟨rfl, block_lt hh⟩, fun j hj => by
    rw [Nat.zero_add]
    have h1 := cellsQ_at A j hj
    exact ⟨block_cell hh (by simpa using h1.1), block_cell hh (by simpa using h1.2)⟩⟩
end Go.Proofs.YtppglbffmgnooaaGreat

/- The chapter's examples of layer 6, as plain values. -/
namespace Go.Proofs.YtppglbffmgnooaaGreat
set_option linter.unusedVariables false
set_option linter.unusedSimpArgs false

def A5 : List Pr := [(2, 4), (3, 5), (2, 5), (3, 4), (11, 13)]
theorem w_may : mayA [1, 2] [] = true := by kernel_rfl
theorem w_and1 : conjA (1 + [(1 : Int), 2].length) ([], false) 4 2 = (6, ([(2, 4)], false)) := by kernel_rfl
theorem w_and2 : conjA (1 + [(1 : Int), 2].length) ([(2, 4)], false) 2 4 = (6, ([(2, 4)], false)) := by kernel_rfl
theorem w_and3 : conjA (1 + [(1 : Int), 2].length) ([(2, 4)], false) 2 3 = (0, ([(2, 4)], false)) := by kernel_rfl
theorem w_or : disjA (1 + [(1 : Int), 2].length) ([(2, 4)], false) 2 4 = (9, ([(2, 4), (3, 5)], false)) := by kernel_rfl
theorem w_xor : exclA (1 + [(1 : Int), 2].length) ([(2, 4), (3, 5)], false) 2 4 = (15, (A5, false)) := by kernel_rfl
theorem w_rest : restR [1, 2] A5 [15] [1] = (([2], []), [3], 0) := by kernel_rfl
theorem w_comp : composeR [1, 2] [(2, 4)] [6] [(1, 5)] = (([1, 2], []), [0], 0) := by kernel_rfl
def wP : List Blk := [(false, [2, 1])]
def wG : List Gt := [(3, 2, [1, -2])]
def wQ : List Blk := [(false, [1, 2])]
theorem w_netP : netI wP = [1, 2] := by unfold netI ascI wP; simp [flatB, List.mergeSort, List.merge, List.MergeSort.Internal.splitInTwo]
theorem w_netQ : netI wQ = [1, 2] := by unfold netI ascI wQ; simp [flatB, List.mergeSort, List.merge, List.MergeSort.Internal.splitInTwo]
theorem w_net : netR wP wG 3 = (([1, 2], [(3, 4)]), 7, 0) := by
  unfold netR
  rw [w_netP]
  kernel_rfl
theorem w_un : unusedL [1, 2] 1 = [3] := unused_at (S := [1, 2]) (m := 3) (by omega) (by decide) (.inr (by decide))
theorem w_to : toNetR [1, 2] [(3, 4)] 7 wQ = ((wQ, [(3, 1, [-1, 2])], -3), 0) := by
  have h1 : hasA [1, 2] [(3, 4)] [7] = true := by kernel_rfl
  have h2 : mayPre wQ = true := by kernel_rfl
  have h3 : coneR [1, 2] [(3, 4)] [7] = (([1, 2], [(3, 4)]), [7], 0) := by kernel_rfl
  have h4 : lacksA [1, 2] [1, 2] [(3, 4)] 7 = false := by kernel_rfl
  unfold toNetR
  rw [if_pos ⟨h1, h2⟩, h3]
  unfold toNetC
  rw [if_neg (by decide)]
  rw [w_netQ]
  show (if lacksA [1, 2] [1, 2] [(3, 4)] 7 = true then _ else if (unusedL [1, 2] 1).length < 1 then _ else _) = _
  rw [h4, if_neg (by decide)]
  show (if (unusedL [1, 2] 1).length < 1 then _ else ((wQ, gatesA ([0] ++ [1, 2] ++ unusedL [1, 2] 1) (unusedL [1, 2] 1) [(3, 4)] 1, litE ([0] ++ [1, 2] ++ unusedL [1, 2] 1) 7), (0 : Int))) = _
  rw [w_un]
  kernel_rfl
end Go.Proofs.YtppglbffmgnooaaGreat
