/- Joined texts: CxEx, CxExF, CxRInts, CxWorks. -/
import Derived.Test.YtafenijbglcppaaK15
import Derived.Test.YtafenijbglcppaaK01
/- skolemlaw05.example: the net of the chapter's examples; lists, prefixes and gates that lie written out in one block. -/
namespace Go.Proofs.Ytafenijbglcppaa
open Go.RowKit Go.Maps
set_option linter.unusedVariables false
set_option linter.unusedSimpArgs false

theorem block_cell {W : World} {b i : Nat} {xs : Array Value} {T : TypeId} {v : Value} (hh : W.heap[b]? = some (.cells xs T (0, 0))) (hv : xs[i]? = some v) : W.cell? ⟨b, i, none⟩ = some v := by
  simp [World.cell?, hh, hv]
theorem block_lt {W : World} {b : Nat} {o : Obj} (hh : W.heap[b]? = some o) : b < W.heap.size := (Array.getElem?_eq_some_iff.1 hh).1
theorem ints_heap {W : World} {b : Nat} {T : TypeId} (l : List Int) (hh : W.heap[b]? = some (.cells (l.map (Value.int .i64)).toArray T (0, 0))) (h64 : In64 l) (hl : l.length ≤ 17592186044416) : IsInts W (.slice (some ⟨b, 0, none⟩) l.length l.length) l :=
  ⟨_, _, rfl, ⟨Nat.le_refl _, fun h => by cases h⟩, by omega, hl, h64, b, 0, fun _ => ⟨rfl, block_lt hh⟩, fun j hj => by
    rw [Nat.zero_add]
    exact block_cell hh (by simp [List.getD, hj])⟩
/-- Cells of blocks, written out. -/
def cellsB (us : List (Bool × Value)) : List Value := (us.map (fun x => [Value.bool x.1, x.2])).flatten
theorem cellsB_at : ∀ (us : List (Bool × Value)) (j : Nat), j < us.length → (cellsB us)[j * 2]? = some (.bool (us.getD j (false, undef)).1) ∧ (cellsB us)[j * 2 + 1]? = some (us.getD j (false, undef)).2
  | [], j, h => by simp at h
  | x :: r, 0, _ => by simp [cellsB]
  | x :: r, j + 1, h => by
    have h1 := cellsB_at r j (by simpa using h)
    have e1 : (j + 1) * 2 = j * 2 + 2 := by omega
    rw [e1]
    simpa [cellsB] using h1
theorem blocks_heap {W : World} {b : Nat} {T : TypeId} (us : List (Bool × Value)) (l : List Blk) (hh : W.heap[b]? = some (.cells (cellsB us).toArray T (0, 0))) (hlen : us.length = l.length) (hl : l.length ≤ 17592186044416)
    (h : ∀ j, j < l.length → (us.getD j (false, undef)).1 = (l.getD j dB).1 ∧ IsInts W (us.getD j (false, undef)).2 (l.getD j dB).2) : IsBlocks W (.slice (some ⟨b, 0, none⟩) l.length l.length) l :=
  ⟨_, _, rfl, ⟨Nat.le_refl _, fun h => by cases h⟩, by omega, hl, b, 0, fun _ => ⟨rfl, block_lt hh⟩, fun j hj => by
    rw [Nat.zero_add]
    have h1 := cellsB_at us j (by omega)
    refine ⟨?_, _, block_cell hh (by simpa using h1.2), (h j hj).2⟩
    have h2 := block_cell (v := .bool (us.getD j (false, undef)).1) hh (by simpa using h1.1)
    rw [(h j hj).1] at h2
    exact h2⟩
/-- Cells of gates, written out. -/
def cellsU (us : List (Int × Int × Value)) : List Value := (us.map (fun x => [Value.int .i64 x.1, .int .u8 x.2.1, x.2.2])).flatten
def dU : Int × Int × Value := (0, 0, undef)
theorem cellsU_at : ∀ (us : List (Int × Int × Value)) (j : Nat), j < us.length → (cellsU us)[j * 3]? = some (.int .i64 (us.getD j dU).1) ∧ (cellsU us)[j * 3 + 1]? = some (.int .u8 (us.getD j dU).2.1) ∧ (cellsU us)[j * 3 + 2]? = some (us.getD j dU).2.2
  | [], j, h => by simp at h
  | x :: r, 0, _ => by simp [cellsU]
  | x :: r, j + 1, h => by
    have h1 := cellsU_at r j (by simpa using h)
    have e1 : (j + 1) * 3 = j * 3 + 3 := by omega
    rw [e1]
    simpa [cellsU] using h1
theorem gates_heap {W : World} {b : Nat} {T : TypeId} (us : List (Int × Int × Value)) (l : List Gt) (hh : W.heap[b]? = some (.cells (cellsU us).toArray T (0, 0))) (hlen : us.length = l.length) (hl : l.length ≤ 17592186044416) (hb : ∀ g ∈ l, (-9223372036854775808 ≤ g.1 ∧ g.1 ≤ 9223372036854775807) ∧ 0 ≤ g.2.1 ∧ g.2.1 ≤ 255)
    (h : ∀ j, j < l.length → (us.getD j dU).1 = (l.getD j dG).1 ∧ (us.getD j dU).2.1 = (l.getD j dG).2.1 ∧ IsInts W (us.getD j dU).2.2 (l.getD j dG).2.2) : IsGates W (.slice (some ⟨b, 0, none⟩) l.length l.length) l :=
  ⟨_, _, rfl, ⟨Nat.le_refl _, fun h => by cases h⟩, by omega, hl, hb, b, 0, fun _ => ⟨rfl, block_lt hh⟩, fun j hj => by
    rw [Nat.zero_add]
    have h1 := cellsU_at us j (by omega)
    obtain ⟨h2, h3, h4⟩ := h j hj
    have k1 := block_cell (v := .int .i64 (us.getD j dU).1) hh (by simpa using h1.1)
    have k2 := block_cell (v := .int .u8 (us.getD j dU).2.1) hh (by simpa using h1.2.1)
    rw [h2] at k1
    rw [h3] at k2
    exact ⟨k1, k2, _, block_cell hh (by simpa using h1.2.2), h4⟩⟩

theorem heap_hit {w : World} {o : Obj} {k : Nat} (h : k = w.heap.size) : (w.alloc o).heap[k]? = some o := by rw [heapy, if_pos h]
theorem heap_skip {w : World} {o : Obj} {k : Nat} {v : Option Obj} (h : k ≠ w.heap.size) (e : w.heap[k]? = v) : (w.alloc o).heap[k]? = v := by rw [heapy, if_neg h, e]

def exP : List Blk := [(true, [1]), (false, [2]), (true, [3])]
def exG : List Gt := [(4, 1, [1, -2]), (5, 4, [4, 3, -3])]
set_option maxRecDepth 100000 in
set_option maxHeartbeats 3200000 in
theorem example_any (w : World) : Calls Try.prog 4 #[] w fun e w' => ∃ vp vg, e = .returned (.agg #[vp, vg, .int .i64 5]) ∧ IsBlocks w' vp exP ∧ IsGates w' vg exG ∧ Below w.heap.size w w' := by
  go_enter Try.func4, Try.ntmps4
  go_wp2_with fail
  generalize hE : World.alloc (World.alloc _ _) _ = W
  have hs : W.heap.size = w.heap.size + 8 := by rw [← hE]; simp
  have hb : Below w.heap.size w W := by rw [← hE]; exact ((((((((Below.refl _ _).alloc (Nat.le_refl _) _).alloc (by simp) _).alloc (by simp; omega) _).alloc (by simp; omega) _).alloc (by simp; omega) _).alloc (by simp; omega) _).alloc (by simp; omega) _).alloc (by simp; omega) _
  have b0 : W.heap[w.heap.size]? = some (.cells #[.slice (some ⟨w.heap.size + 4, 0, none⟩) 3 3, .slice (some ⟨w.heap.size + 7, 0, none⟩) 2 2, .int .i64 5] 25 (0, 0)) := by rw [← hE]; (repeat (first | (refine heap_hit ?_; first | omega | (simp only [World.size_alloc] <;> omega)) | (refine heap_skip ?_ ?_; (first | omega | (simp only [World.size_alloc] <;> omega)))))
  have b1 : W.heap[w.heap.size + 1]? = some (.cells #[.int .i64 1] 3 (0, 0)) := by rw [← hE]; (repeat (first | (refine heap_hit ?_; first | omega | (simp only [World.size_alloc] <;> omega)) | (refine heap_skip ?_ ?_; (first | omega | (simp only [World.size_alloc] <;> omega)))))
  have b2 : W.heap[w.heap.size + 2]? = some (.cells #[.int .i64 2] 3 (0, 0)) := by rw [← hE]; (repeat (first | (refine heap_hit ?_; first | omega | (simp only [World.size_alloc] <;> omega)) | (refine heap_skip ?_ ?_; (first | omega | (simp only [World.size_alloc] <;> omega)))))
  have b3 : W.heap[w.heap.size + 3]? = some (.cells #[.int .i64 3] 3 (0, 0)) := by rw [← hE]; (repeat (first | (refine heap_hit ?_; first | omega | (simp only [World.size_alloc] <;> omega)) | (refine heap_skip ?_ ?_; (first | omega | (simp only [World.size_alloc] <;> omega)))))
  have b4 : W.heap[w.heap.size + 4]? = some (.cells #[.bool true, .slice (some ⟨w.heap.size + 1, 0, none⟩) 1 1, .bool false, .slice (some ⟨w.heap.size + 2, 0, none⟩) 1 1, .bool true, .slice (some ⟨w.heap.size + 3, 0, none⟩) 1 1] 32 (0, 0)) := by rw [← hE]; (repeat (first | (refine heap_hit ?_; first | omega | (simp only [World.size_alloc] <;> omega)) | (refine heap_skip ?_ ?_; (first | omega | (simp only [World.size_alloc] <;> omega)))))
  have b5 : W.heap[w.heap.size + 5]? = some (.cells #[.int .i64 1, .int .i64 (-2)] 3 (0, 0)) := by rw [← hE]; (repeat (first | (refine heap_hit ?_; first | omega | (simp only [World.size_alloc] <;> omega)) | (refine heap_skip ?_ ?_; (first | omega | (simp only [World.size_alloc] <;> omega)))))
  have b6 : W.heap[w.heap.size + 6]? = some (.cells #[.int .i64 4, .int .i64 3, .int .i64 (-3)] 3 (0, 0)) := by rw [← hE]; (repeat (first | (refine heap_hit ?_; first | omega | (simp only [World.size_alloc] <;> omega)) | (refine heap_skip ?_ ?_; (first | omega | (simp only [World.size_alloc] <;> omega)))))
  have b7 : W.heap[w.heap.size + 7]? = some (.cells #[.int .i64 4, .int .u8 1, .slice (some ⟨w.heap.size + 5, 0, none⟩) 2 2, .int .i64 5, .int .u8 4, .slice (some ⟨w.heap.size + 6, 0, none⟩) 3 3] 34 (0, 0)) := by rw [← hE]; (repeat (first | (refine heap_hit ?_; first | omega | (simp only [World.size_alloc] <;> omega)) | (refine heap_skip ?_ ?_; (first | omega | (simp only [World.size_alloc] <;> omega)))))
  clear hE
  have I1 := ints_heap [1] b1 (by intro x hx; simp at hx; omega) (by simp)
  have I2 := ints_heap [2] b2 (by intro x hx; simp at hx; omega) (by simp)
  have I3 := ints_heap [3] b3 (by intro x hx; simp at hx; omega) (by simp)
  have I5 := ints_heap [1, -2] b5 (by intro x hx; simp at hx; omega) (by simp)
  have I6 := ints_heap [4, 3, -3] b6 (by intro x hx; simp at hx; omega) (by simp)
  have hP : IsBlocks W (.slice (some ⟨w.heap.size + 4, 0, none⟩) 3 3) exP := blocks_heap [(true, .slice (some ⟨w.heap.size + 1, 0, none⟩) 1 1), (false, .slice (some ⟨w.heap.size + 2, 0, none⟩) 1 1), (true, .slice (some ⟨w.heap.size + 3, 0, none⟩) 1 1)] exP b4 rfl (by decide) (fun j hj => by
    match j, hj with
    | 0, _ => exact ⟨rfl, I1⟩
    | 1, _ => exact ⟨rfl, I2⟩
    | 2, _ => exact ⟨rfl, I3⟩
    | j + 3, hj => simp [exP] at hj; omega)
  have hG : IsGates W (.slice (some ⟨w.heap.size + 7, 0, none⟩) 2 2) exG := gates_heap [(4, 1, .slice (some ⟨w.heap.size + 5, 0, none⟩) 2 2), (5, 4, .slice (some ⟨w.heap.size + 6, 0, none⟩) 3 3)] exG b7 rfl (by decide) (by intro g hg; simp [exG] at hg; rcases hg with rfl | rfl <;> decide) (fun j hj => by
    match j, hj with
    | 0, _ => exact ⟨rfl, rfl, I5⟩
    | 1, _ => exact ⟨rfl, rfl, I6⟩
    | j + 2, hj => simp [exG] at hj; omega)
  have g0 : W.cell? ⟨w.heap.size, 0, none⟩ = some (.slice (some ⟨w.heap.size + 4, 0, none⟩) 3 3) := block_cell b0 rfl
  have g1 : W.cell? ⟨w.heap.size, 1, none⟩ = some (.slice (some ⟨w.heap.size + 7, 0, none⟩) 2 2) := block_cell b0 rfl
  have g2 : W.cell? ⟨w.heap.size, 2, none⟩ = some (.int .i64 5) := block_cell b0 rfl
  exact ⟨rfl, .agg #[.slice (some ⟨w.heap.size + 4, 0, none⟩) 3 3, .slice (some ⟨w.heap.size + 7, 0, none⟩) 2 2, .int .i64 5], by simp [results, Try.f4, go_sem, g0, g1, g2], _, _, rfl, hP, hG, hb⟩
end Go.Proofs.Ytafenijbglcppaa

/- The examples of the chapter, worked out. -/
namespace Go.Proofs.Ytafenijbglcppaa
open Go.RowKit Go.Maps
set_option linter.unusedVariables false
set_option linter.unusedSimpArgs false
set_option maxRecDepth 100000
theorem exE1 : evalN exP exG 5 [1, 3] = (true, 0) := by kernel_rfl
theorem exE2 : evalN exP exG 5 [1, 2, 3] = (false, 0) := by kernel_rfl
theorem exC1 : cofN exP exG 5 [2] = (([(true, [1, 3])], [], -3), 0) := by kernel_rfl
theorem exC2 : cofN exP exG 5 [-2] = (([(true, [1, 3])], [(5, 4, [1, 3, -3])], 5), 0) := by kernel_rfl
theorem exM : composeN exP exG 5 3 [(false, [2])] [(9, 2, [2])] (-9) = (([(true, [1]), (false, [2])], [(6, 2, [2]), (4, 1, [1, -2]), (5, 4, [4, -6, 6])], 5), 0) := by kernel_rfl
theorem exS : simpleN [(true, [1])] [(7, 1, [])] (-7) = (([(true, [1])], [(2, 1, [])], -2), 0) := by kernel_rfl
end Go.Proofs.Ytafenijbglcppaa

/- The reference's Ints (layer 5). -/
namespace Go.Proofs.Ytafenijbglcppaa
open Go.RowKit
set_option linter.unusedVariables false

set_option maxHeartbeats 400000 in
theorem ints5_any (v u : Value) (l m : List Int) (w : World) (H : IsInts w v l) (K : IsInts w u m) :
    Calls Try.prog 31 #[v, u] w fun e w' => e = .returned (.bool (sameB l m)) ∧ Quiet w w' := by
  obtain ⟨a, cap, rfl, _, _, hl, h64, b, off, ha, hc⟩ := H
  obtain ⟨a2, cap2, rfl, _, _, hl2, h642, b2, off2, ha2, hc2⟩ := K
  by_cases hlen : l.length = m.length
  · have hne : ((l.length : Int) != (m.length : Int)) = false := by simp [hlen]
    have HL := Lib.hid hlen
    clear hlen
    go_enter Try.func31, Try.ntmps31
    go_wp2
    go_loopw [5] (fun i wr => ∃ k : Nat, k ≤ l.length ∧ i = .int .i64 k ∧ Quiet w wr ∧ l.take k = m.take k) (fun i _ => l.length - (intOf i).toNat)
    case atStart => exact ⟨0, Nat.zero_le _, rfl, Quiet.refl _, by simp⟩
    case round =>
      obtain ⟨k, hk, rfl, hq, hn⟩ := hrel
      have HN := Lib.hid hn
      clear hn
      by_cases hlt : k < l.length
      · have hlt2 : k < m.length := by rw [← HL.out]; exact hlt
        obtain ⟨rfl, hb⟩ := ha (by intro h; simp [h] at hlt)
        obtain ⟨rfl, hb2⟩ := ha2 (by intro h; simp [h] at hlt2)
        have hy := (hq.cell _).trans (hc k hlt)
        have hz := (hq.cell _).trans (hc2 k hlt2)
        have htk : l.take (k + 1) = l.take k ++ [l.getD k 0] := by rw [List.take_succ_eq_append_getElem hlt]; simp [List.getD, hlt]
        have htk2 : m.take (k + 1) = m.take k ++ [m.getD k 0] := by rw [List.take_succ_eq_append_getElem hlt2]; simp [List.getD, hlt2]
        have hneq : l.getD k 0 ≠ m.getD k 0 → l ≠ m := fun h e => h (by rw [e])
        have HT := Lib.hid htk
        have HT2 := Lib.hid htk2
        generalize l.getD k 0 = y at *
        generalize m.getD k 0 = z at *
        clear htk htk2 hc ha hc2 ha2
        by_cases he : y = z
        · subst he
          have he : (y != y) = false := by simp
          go_wp2_with fail
          go_quiet (fail)
          go_wp2
          go_roundw
          case rel => exact ⟨k + 1, by omega, by go_num, hq.drewN _, by rw [HT.out, HT2.out, HN.out]⟩
          case measure => simp [intOf]; omega
        · have he' : (y != z) = true := by simp [he]
          have hlm := hneq he
          clear hneq
          go_wp2_with fail
          go_quiet (fail)
          go_wp2
          go_ret
          exact ⟨ret_bool (by unfold sameB; simp [hlm]), hq.drewN _⟩
      · have HE : Hid (l = m) := by
          have h := HN.out
          rw [List.take_of_length_le (by omega), List.take_of_length_le (by rw [← HL.out]; omega)] at h
          exact h
        go_wp2
        go_ret
        exact ⟨ret_bool (by unfold sameB; simp [HE.out]), hq⟩
  · have hne : ((l.length : Int) != (m.length : Int)) = true := by simp; omega
    go_enter Try.func31, Try.ntmps31
    go_wp2
    go_ret
    exact ⟨ret_bool (by unfold sameB; simp; intro h; exact hlen (by rw [h])), Quiet.refl _⟩

end Go.Proofs.Ytafenijbglcppaa

/- skolemlaw05.works: the examples of the chapter. -/
namespace Go.Proofs.Ytafenijbglcppaa
open Go.RowKit Go.Maps
set_option linter.unusedVariables false
set_option linter.unusedSimpArgs false

theorem in64_lit (l : List Int) (h : (l.all fun x => decide (-9223372036854775808 ≤ x) && decide (x ≤ 9223372036854775807)) = true) : In64 l := fun x hx => by
  have := List.all_eq_true.1 h x hx
  simpa using this
theorem ints_new (X : World) (l : List Int) (T : TypeId) (h : (l.all fun x => decide (-9223372036854775808 ≤ x) && decide (x ≤ 9223372036854775807)) = true) (hl : l.length ≤ 17592186044416) : IsInts (X.alloc (.cells (l.map (Value.int .i64)).toArray T)) (.slice (some ⟨X.heap.size, 0, none⟩) l.length l.length) l := ints_heap l (heap_hit rfl) (in64_lit l h) hl
theorem below_new (X : World) (o : Obj) : Below X.heap.size X (X.alloc o) := (Below.refl _ _).alloc (Nat.le_refl _) o
theorem exEv {vp vg : Value} {W1 : World} {l : List Int} {r : Bool × Int} (HP : IsBlocks W1 vp exP) (HG : IsGates W1 vg exG) (h : (l.all fun x => decide (-9223372036854775808 ≤ x) && decide (x ≤ 9223372036854775807)) = true) (hl : l.length ≤ 3000000) (hr : evalN exP exG 5 l = r) (X : World) (hX : Below W1.heap.size W1 X) :
    Calls Try.prog 5 #[.agg #[vp, vg, .int .i64 5], .slice (some ⟨X.heap.size, 0, none⟩) l.length l.length] (X.alloc (.cells (l.map (Value.int .i64)).toArray 3)) fun e w' => e = .returned (.tuple #[.bool r.1, .int .i64 r.2]) ∧ Below X.heap.size X w' := by
  subst hr
  have hb := hX.trans ((below_new X (.cells (l.map (Value.int .i64)).toArray 3)).mono hX.size)
  refine (ceval_any vp vg _ 5 exP exG l _ (HP.below hb (Nat.le_refl _)) (HG.below hb (Nat.le_refl _)) (ints_new X l _ h (by omega)) (by decide) (by decide) hl (by omega) (by omega)).mono ?_
  rintro e w' ⟨h1, h2⟩
  exact ⟨h1, (below_new X _).trans (h2.mono (by simp))⟩
/-- A net that came back. -/
def NetBack (X : World) (r : Nt × Int) (e : Ending) (w' : World) : Prop :=
  ∃ vp vg a c a2 c2, vp = .slice a r.1.1.length c ∧ vg = .slice a2 r.1.2.1.length c2 ∧ e = .returned (.tuple #[.agg #[vp, vg, .int .i64 r.1.2.2], .int .i64 r.2]) ∧ IsBlocks w' vp r.1.1 ∧ IsGates w' vg r.1.2.1 ∧ Below X.heap.size X w'
theorem NetBack.of {X Y : World} {r : Nt × Int} {e : Ending} {w' : World} (h : NetPostE Y Y r e w') (hb : Below X.heap.size X Y) : NetBack X r e w' := by
  obtain ⟨vp, vg, h1, h2, h3⟩ := h
  obtain ⟨⟨a, c, e1⟩, a2, c2, e2⟩ := h2.shapes
  exact ⟨vp, vg, a, c, a2, c2, e1, e2, h1, h2.blocks, h2.gates, hb.trans (h3.mono hb.size)⟩
theorem exCo {vp vg : Value} {W1 : World} {l : List Int} {r : Nt × Int} (HP : IsBlocks W1 vp exP) (HG : IsGates W1 vg exG) (h : (l.all fun x => decide (-9223372036854775808 ≤ x) && decide (x ≤ 9223372036854775807)) = true) (hl : l.length ≤ 1000000) (hr : cofN exP exG 5 l = r) (X : World) (hX : Below W1.heap.size W1 X) :
    Calls Try.prog 7 #[.agg #[vp, vg, .int .i64 5], .slice (some ⟨X.heap.size, 0, none⟩) l.length l.length] (X.alloc (.cells (l.map (Value.int .i64)).toArray 3)) (NetBack X r) := by
  subst hr
  have hb := hX.trans ((below_new X (.cells (l.map (Value.int .i64)).toArray 3)).mono hX.size)
  exact (ccof_any vp vg _ 5 exP exG l _ (HP.below hb (Nat.le_refl _)) (HG.below hb (Nat.le_refl _)) (ints_new X l _ h (by omega)) (by decide) (by decide) hl (by omega) (by omega)).mono fun e w' h => NetBack.of h (below_new X _)
theorem exCm {vp vg : Value} {W1 : World} (HP : IsBlocks W1 vp exP) (HG : IsGates W1 vg exG) (X : World) (hX : Below W1.heap.size W1 X) :
    Calls Try.prog 8 #[.agg #[vp, vg, .int .i64 5], .int .i64 3, .agg #[.slice (some ⟨X.heap.size + 1, 0, none⟩) 1 1, .slice (some ⟨X.heap.size + 1 + 1 + 1, 0, none⟩) 1 1, .int .i64 (-9)]]
      ((((X.alloc (.cells #[.int .i64 2] 3)).alloc (.cells #[.bool false, .slice (some ⟨X.heap.size, 0, none⟩) 1 1] 32)).alloc (.cells #[.int .i64 2] 3)).alloc (.cells #[.int .i64 9, .int .u8 2, .slice (some ⟨X.heap.size + 1 + 1, 0, none⟩) 1 1] 34))
      (NetBack X (([(true, [1]), (false, [2])], [(6, 2, [2]), (4, 1, [1, -2]), (5, 4, [4, -6, 6])], 5), 0)) := by
  generalize hE : World.alloc (World.alloc _ _) _ = W
  have hb : Below X.heap.size X W := by rw [← hE]; exact ((((Below.refl _ _).alloc (Nat.le_refl _) _).alloc (by simp) _).alloc (by simp; omega) _).alloc (by simp; omega) _
  have b0 : W.heap[X.heap.size]? = some (.cells #[.int .i64 2] 3 (0, 0)) := by rw [← hE]; (repeat (first | (refine heap_hit ?_; first | omega | (simp only [World.size_alloc] <;> omega)) | (refine heap_skip ?_ ?_; (first | omega | (simp only [World.size_alloc] <;> omega)))))
  have b1 : W.heap[X.heap.size + 1]? = some (.cells #[.bool false, .slice (some ⟨X.heap.size, 0, none⟩) 1 1] 32 (0, 0)) := by rw [← hE]; (repeat (first | (refine heap_hit ?_; first | omega | (simp only [World.size_alloc] <;> omega)) | (refine heap_skip ?_ ?_; (first | omega | (simp only [World.size_alloc] <;> omega)))))
  have b2 : W.heap[X.heap.size + 1 + 1]? = some (.cells #[.int .i64 2] 3 (0, 0)) := by rw [← hE]; (repeat (first | (refine heap_hit ?_; first | omega | (simp only [World.size_alloc] <;> omega)) | (refine heap_skip ?_ ?_; (first | omega | (simp only [World.size_alloc] <;> omega)))))
  have b3 : W.heap[X.heap.size + 1 + 1 + 1]? = some (.cells #[.int .i64 9, .int .u8 2, .slice (some ⟨X.heap.size + 1 + 1, 0, none⟩) 1 1] 34 (0, 0)) := by rw [← hE]; (repeat (first | (refine heap_hit ?_; first | omega | (simp only [World.size_alloc] <;> omega)) | (refine heap_skip ?_ ?_; (first | omega | (simp only [World.size_alloc] <;> omega)))))
  clear hE
  have I0 := ints_heap [2] b0 (in64_lit _ (by decide)) (by simp)
  have I2 := ints_heap [2] b2 (in64_lit _ (by decide)) (by simp)
  have hP : IsBlocks W (.slice (some ⟨X.heap.size + 1, 0, none⟩) 1 1) [(false, [2])] := blocks_heap [(false, .slice (some ⟨X.heap.size, 0, none⟩) 1 1)] [(false, [2])] b1 rfl (by decide) (fun j hj => by
    match j, hj with
    | 0, _ => exact ⟨rfl, I0⟩
    | j + 1, hj => simp at hj)
  have hG : IsGates W (.slice (some ⟨X.heap.size + 1 + 1 + 1, 0, none⟩) 1 1) [(9, 2, [2])] := gates_heap [(9, 2, .slice (some ⟨X.heap.size + 1 + 1, 0, none⟩) 1 1)] [(9, 2, [2])] b3 rfl (by decide) (by intro g hg; simp at hg; subst hg; decide) (fun j hj => by
    match j, hj with
    | 0, _ => exact ⟨rfl, rfl, I2⟩
    | j + 1, hj => simp at hj)
  have hw := hX.trans (hb.mono hX.size)
  exact (ccompose_any vp vg _ _ 5 (-9) 3 exP [(false, [2])] exG [(9, 2, [2])] W (HP.below hw (Nat.le_refl _)) (HG.below hw (Nat.le_refl _)) hP hG (by decide) (by decide) (by decide) (by decide) (by omega) (by omega) (by omega) (by omega) (by omega) (by omega)).mono fun e w' h => NetBack.of (by rw [exM] at h; exact h) hb
theorem exSm (X : World) :
    Calls Try.prog 30 #[.agg #[.slice (some ⟨X.heap.size + 1, 0, none⟩) 1 1, .slice (some ⟨X.heap.size + 1 + 1, 0, none⟩) 1 1, .int .i64 (-7)]]
      (((X.alloc (.cells #[.int .i64 1] 3)).alloc (.cells #[.bool true, .slice (some ⟨X.heap.size, 0, none⟩) 1 1] 32)).alloc (.cells #[.int .i64 7, .int .u8 1, .slice none 0 0] 34))
      (NetBack X (([(true, [1])], [(2, 1, [])], -2), 0)) := by
  generalize hE : World.alloc (World.alloc _ _) _ = W
  have hb : Below X.heap.size X W := by rw [← hE]; exact (((Below.refl _ _).alloc (Nat.le_refl _) _).alloc (by simp) _).alloc (by simp; omega) _
  have b0 : W.heap[X.heap.size]? = some (.cells #[.int .i64 1] 3 (0, 0)) := by rw [← hE]; (repeat (first | (refine heap_hit ?_; first | omega | (simp only [World.size_alloc] <;> omega)) | (refine heap_skip ?_ ?_; (first | omega | (simp only [World.size_alloc] <;> omega)))))
  have b1 : W.heap[X.heap.size + 1]? = some (.cells #[.bool true, .slice (some ⟨X.heap.size, 0, none⟩) 1 1] 32 (0, 0)) := by rw [← hE]; (repeat (first | (refine heap_hit ?_; first | omega | (simp only [World.size_alloc] <;> omega)) | (refine heap_skip ?_ ?_; (first | omega | (simp only [World.size_alloc] <;> omega)))))
  have b2 : W.heap[X.heap.size + 1 + 1]? = some (.cells #[.int .i64 7, .int .u8 1, .slice none 0 0] 34 (0, 0)) := by rw [← hE]; (repeat (first | (refine heap_hit ?_; first | omega | (simp only [World.size_alloc] <;> omega)) | (refine heap_skip ?_ ?_; (first | omega | (simp only [World.size_alloc] <;> omega)))))
  clear hE
  have I0 := ints_heap [1] b0 (in64_lit _ (by decide)) (by simp)
  have hP : IsBlocks W (.slice (some ⟨X.heap.size + 1, 0, none⟩) 1 1) [(true, [1])] := blocks_heap [(true, .slice (some ⟨X.heap.size, 0, none⟩) 1 1)] [(true, [1])] b1 rfl (by decide) (fun j hj => by
    match j, hj with
    | 0, _ => exact ⟨rfl, I0⟩
    | j + 1, hj => simp at hj)
  have hG : IsGates W (.slice (some ⟨X.heap.size + 1 + 1, 0, none⟩) 1 1) [(7, 1, [])] := gates_heap [(7, 1, .slice none 0 0)] [(7, 1, [])] b2 rfl (by decide) (by intro g hg; simp at hg; subst hg; decide) (fun j hj => by
    match j, hj with
    | 0, _ => exact ⟨rfl, rfl, IsInts.nil _⟩
    | j + 1, hj => simp at hj)
  exact (csimple_any _ _ (-7) [(true, [1])] [(7, 1, [])] W hP hG (by decide) (by decide) (by omega) (by omega)).mono fun e w' h => NetBack.of (by rw [exS] at h; exact h) hb
/-- A net in a box of its own. -/
def BoxN (X : World) (b : Nat) (vp vg : Value) (o : Int) : Prop := X.cell? ⟨b, 0, none⟩ = some vp ∧ X.cell? ⟨b, 1, none⟩ = some vg ∧ X.cell? ⟨b, 2, none⟩ = some (.int .i64 o)
theorem box_new (X : World) (vp vg : Value) (o : Int) : ∀ Y, Below (X.heap.size + 1) (X.alloc (.cells #[vp, vg, .int .i64 o] 25)) Y → BoxN Y X.heap.size vp vg o := fun Y hY => by
  have h := (hY.block X.heap.size (by omega)).trans (heap_hit rfl)
  exact ⟨block_cell h rfl, block_cell h rfl, block_cell h rfl⟩

theorem box_kept {w4 W4 W1 : World} {vp vg : Value} {o : Int} (h : w4.alloc (.cells #[vp, vg, .int .i64 o] 25) = W4) (hb : Below W1.heap.size W1 w4) : Below W1.heap.size W1 W4 ∧ Below w4.heap.size w4 W4 ∧ ∀ Y, Below W4.heap.size W4 Y → BoxN Y w4.heap.size vp vg o := by
  subst h
  have h2 := below_new w4 (.cells #[vp, vg, .int .i64 o] 25)
  exact ⟨hb.trans (h2.mono hb.size), h2, fun Y hY => box_new w4 vp vg o Y (hY.mono (by simp))⟩
theorem exIn {W : World} {u : Value} {l : List Int} (H : IsInts W u l) (h : (l.all fun x => decide (-9223372036854775808 ≤ x) && decide (x ≤ 9223372036854775807)) = true) (hl : l.length ≤ 1000000) (X : World) (hX : Below W.heap.size W X) :
    Calls Try.prog 31 #[u, .slice (some ⟨X.heap.size, 0, none⟩) l.length l.length] (X.alloc (.cells (l.map (Value.int .i64)).toArray 3)) fun e w' => e = .returned (.bool true) ∧ Below X.heap.size X w' := by
  have hb := hX.trans ((below_new X (.cells (l.map (Value.int .i64)).toArray 3)).mono hX.size)
  refine (ints5_any _ _ l l _ (H.below hb (Nat.le_refl _)) (ints_new X l _ h (by omega))).mono ?_
  rintro e w' ⟨h1, h2⟩
  have hs : sameB l l = true := by unfold sameB; exact decide_eq_true rfl
  exact ⟨by rw [h1, hs], (below_new X _).trans (h2.below X.heap.size)⟩

set_option maxRecDepth 100000 in
set_option maxHeartbeats 6400000 in
theorem works_any (w : World) : Calls Try.prog 11 #[] w fun e w' => e = .returned (.bool true) ∧ Below w.heap.size w w' := by
  have HEX := Lib.hid (example_any w)
  go_enter Try.func11, Try.ntmps11
  go_upto_region 2 with (go_at_call 4; go_loud (refine HEX.out.mono ?_; rintro e w1 ⟨vp, vg, rfl, hP, hG, hb⟩; have HP := Lib.hid hP; have HG := Lib.hid hG; have HB1 := Lib.hid hb; obtain ⟨pa, pc, rfl, _⟩ := hP.shape; obtain ⟨ga, gc, rfl, _⟩ := hG.shape; clear hP hG hb))
  obtain ⟨W1, hW1⟩ : ∃ W, w1.alloc (.cells #[.slice pa exP.length pc, .slice ga exG.length gc, .int .i64 5] 25) = W := ⟨_, rfl⟩
  have hbx := box_new w1 (.slice pa exP.length pc) (.slice ga exG.length gc) 5
  have hlw : Below w1.heap.size w1 W1 := by rw [← hW1]; exact below_new _ _
  have hsz : W1.heap.size = w1.heap.size + 1 := by rw [← hW1]; simp
  rw [hW1] at hbx ⊢
  have HW1 : Hid (Below w.heap.size w W1) := HB1.out.trans (hlw.mono HB1.out.size)
  have HPN : Hid (IsBlocks W1 (.slice pa exP.length pc) exP) := HP.out.below hlw (Nat.le_refl _)
  have HGN : Hid (IsGates W1 (.slice ga exG.length gc) exG) := HG.out.below hlw (Nat.le_refl _)
  have HBX : Hid (∀ Y, Below W1.heap.size W1 Y → BoxN Y w1.heap.size (.slice pa exP.length pc) (.slice ga exG.length gc) 5) := fun Y hY => hbx Y (hY.mono (by omega))
  have HV1 := Lib.hid (exEv HPN.out HGN.out (l := [1, 3]) (by decide) (by decide) exE1)
  have HV2 := Lib.hid (exEv HPN.out HGN.out (l := [1, 2, 3]) (by decide) (by decide) exE2)
  have HC1 := Lib.hid (exCo HPN.out HGN.out (l := [2]) (by decide) (by decide) exC1)
  have HC2 := Lib.hid (exCo HPN.out HGN.out (l := [-2]) (by decide) (by decide) exC2)
  have HCM := Lib.hid (exCm HPN.out HGN.out)
  obtain ⟨n1, hn1⟩ : ∃ n, w1.heap.size = n := ⟨_, rfl⟩
  rw [hn1] at HBX ⊢
  clear hbx hlw hW1 HP HG HB1 hsz hn1 HEX
  obtain ⟨p0, p1, p2⟩ := HBX.out W1 (Below.refl _ _)
  go_upto_region 3 with (go_at_call 5; go_loud (refine (HV1.out W1 (Below.refl _ _)).mono ?_; rintro e w2 ⟨rfl, hb2⟩; have HB2 := Lib.hid hb2; obtain ⟨q0, q1, q2⟩ := HBX.out w2 hb2; clear hb2))
  clear p0 p1 p2
  go_upto_region 4 with (go_at_call 5; go_loud (refine (HV2.out w2 HB2.out).mono ?_; rintro e w3 ⟨rfl, hb3⟩; have HB3 := Lib.hid (HB2.out.trans (hb3.mono HB2.out.size)); obtain ⟨p0, p1, p2⟩ := HBX.out w3 HB3.out; clear hb3))
  clear q0 q1 q2
  go_upto_region 5 with (go_at_call 7; go_loud (refine (HC1.out w3 HB3.out).mono ?_; rintro e w4 ⟨_, _, a4, c4, d4, e4, rfl, rfl, rfl, hP4, hG4, hb4⟩; have HP4 := Lib.hid hP4; have HG4 := Lib.hid hG4; have HB4 := Lib.hid (HB3.out.trans (hb4.mono HB3.out.size)); have HS4 := Lib.hid hb4; clear hP4 hG4 hb4))
  clear p0 p1 p2
  generalize hW4 : World.alloc w4 _ = W4
  obtain ⟨hk4, hl4, hx4⟩ := box_kept (vp := .slice a4 1 c4) (vg := .slice d4 0 e4) (o := -3) hW4 HB4.out
  have HW4 := Lib.hid hk4
  have HX4 := Lib.hid hx4
  have HT4 := Lib.hid (HS4.out.trans (hl4.mono HS4.out.size))
  have HPP4 := Lib.hid (HP4.out.below hl4 (Nat.le_refl _))
  have HGG4 := Lib.hid (HG4.out.below hl4 (Nat.le_refl _))
  obtain ⟨n4, hn4⟩ : ∃ n, w4.heap.size = n := ⟨_, rfl⟩
  rw [hn4] at HX4 ⊢
  clear hk4 hl4 hx4 hW4 hn4 HP4 HG4 HB4 HS4
  obtain ⟨p0, p1, p2⟩ := HBX.out W4 HW4.out
  go_upto_region 6 with (go_at_call 7; go_loud (refine (HC2.out W4 HW4.out).mono ?_; rintro e w5 ⟨_, _, a5, c5, d5, e5, rfl, rfl, rfl, hP5, hG5, hb5⟩; have HP5 := Lib.hid hP5; have HG5 := Lib.hid hG5; have HB5 := Lib.hid (HW4.out.trans (hb5.mono HW4.out.size)); have HS5 := Lib.hid hb5; clear hP5 hG5 hb5))
  clear p0 p1 p2
  generalize hW5 : World.alloc w5 _ = W5
  obtain ⟨hk5, hl5, hx5⟩ := box_kept (vp := .slice a5 1 c5) (vg := .slice d5 1 e5) (o := 5) hW5 HB5.out
  have HW5 := Lib.hid hk5
  have HX5 := Lib.hid hx5
  have HT5 := Lib.hid (HS5.out.trans (hl5.mono HS5.out.size))
  have HPP5 := Lib.hid (HP5.out.below hl5 (Nat.le_refl _))
  have HGG5 := Lib.hid (HG5.out.below hl5 (Nat.le_refl _))
  obtain ⟨n5, hn5⟩ : ∃ n, w5.heap.size = n := ⟨_, rfl⟩
  rw [hn5] at HX5 ⊢
  clear hk5 hl5 hx5 hW5 hn5 HP5 HG5 HB5 HS5
  obtain ⟨p0, p1, p2⟩ := HBX.out W5 HW5.out
  go_upto_region 7 with (go_at_call 8; go_loud (refine (HCM.out W5 HW5.out).mono ?_; rintro e w6 ⟨_, _, a6, c6, d6, e6, rfl, rfl, rfl, hP6, hG6, hb6⟩; have HP6 := Lib.hid hP6; have HG6 := Lib.hid hG6; have HB6 := Lib.hid (HW5.out.trans (hb6.mono HW5.out.size)); have HS6 := Lib.hid hb6; clear hP6 hG6 hb6))
  clear p0 p1 p2
  generalize hW6 : World.alloc w6 _ = W6
  obtain ⟨hk6, hl6, hx6⟩ := box_kept (vp := .slice a6 2 c6) (vg := .slice d6 3 e6) (o := 5) hW6 HB6.out
  have HW6 := Lib.hid hk6
  have HX6 := Lib.hid hx6
  have HT6 := Lib.hid (HS6.out.trans (hl6.mono HS6.out.size))
  have HPP6 := Lib.hid (HP6.out.below hl6 (Nat.le_refl _))
  have HGG6 := Lib.hid (HG6.out.below hl6 (Nat.le_refl _))
  obtain ⟨n6, hn6⟩ : ∃ n, w6.heap.size = n := ⟨_, rfl⟩
  rw [hn6] at HX6 ⊢
  clear hk6 hl6 hx6 hW6 hn6 HP6 HG6 HB6 HS6
  obtain ⟨p0, p1, p2⟩ := HBX.out W6 HW6.out
  go_upto_region 8 with (go_at_call 30; go_loud (refine (exSm W6).mono ?_; rintro e w7 ⟨_, _, a7, c7, d7, e7, rfl, rfl, rfl, hP7, hG7, hb7⟩; have HP7 := Lib.hid hP7; have HG7 := Lib.hid hG7; have HB7 := Lib.hid (HW6.out.trans (hb7.mono HW6.out.size)); have HS7 := Lib.hid hb7; clear hP7 hG7 hb7))
  clear p0 p1 p2
  generalize hW7 : World.alloc w7 _ = W7
  obtain ⟨hk7, hl7, hx7⟩ := box_kept (vp := .slice a7 1 c7) (vg := .slice d7 1 e7) (o := -2) hW7 HB7.out
  have HW7 := Lib.hid hk7
  have HX7 := Lib.hid hx7
  have HT7 := Lib.hid (HS7.out.trans (hl7.mono HS7.out.size))
  have HPP7 := Lib.hid (HP7.out.below hl7 (Nat.le_refl _))
  have HGG7 := Lib.hid (HG7.out.below hl7 (Nat.le_refl _))
  obtain ⟨n7, hn7⟩ : ∃ n, w7.heap.size = n := ⟨_, rfl⟩
  rw [hn7] at HX7 ⊢
  clear hk7 hl7 hx7 hW7 hn7 HP7 HG7 HB7 HS7
  obtain ⟨p0, p1, p2⟩ := HBX.out W7 HW7.out
  obtain ⟨b4, f4, u4, rfl, hb4, _, hc4, hi4⟩ := HPP4.out.at (k := 0) (by simp)
  have hi4 : IsInts W4 u4 [1, 3] := hi4
  obtain ⟨ua4, uc4, rfl⟩ := hi4.shape
  have hc4 : W4.cell? ⟨b4, f4 + 1, none⟩ = some (.slice ua4 2 uc4) := hc4
  obtain ⟨b5, f5, u5, rfl, hb5, _, _, hc5, hi5, _⟩ := HGG5.out.at (k := 0) (by simp)
  have hi5 : IsInts W5 u5 [1, 3, -3] := hi5
  obtain ⟨ua5, uc5, rfl⟩ := hi5.shape
  have hc5 : W5.cell? ⟨b5, f5 + 2, none⟩ = some (.slice ua5 3 uc5) := hc5
  obtain ⟨b6, f6, u6, rfl, hb6, hd6, _, _, _, _⟩ := HGG6.out.at (k := 0) (by simp)
  have hd6 : W6.cell? ⟨b6, f6, none⟩ = some (.int .i64 6) := hd6
  obtain ⟨b6', f6', u6', he, _, _, _, hc6, hi6, _⟩ := HGG6.out.at (k := 2) (by simp)
  obtain ⟨rfl, rfl⟩ : b6' = b6 ∧ f6' = f6 := by injection he with he; injection he with h1 h2; exact ⟨h1.symm, h2.symm⟩
  have hi6 : IsInts W6 u6' [4, -6, 6] := hi6
  obtain ⟨ua6, uc6, rfl⟩ := hi6.shape
  have hc6 : W6.cell? ⟨b6', f6' + 6 + 2, none⟩ = some (.slice ua6 3 uc6) := hc6
  obtain ⟨b7, f7, u7, rfl, hb7, hd7, _, _, _, _⟩ := HGG7.out.at (k := 0) (by simp)
  have hd7 : W7.cell? ⟨b7, f7, none⟩ = some (.int .i64 2) := hd7
  have h67 : Below W6.heap.size W6 W7 := HT7.out
  have h57 : Below W5.heap.size W5 W7 := HT6.out.trans (h67.mono HT6.out.size)
  have h47 : Below W4.heap.size W4 W7 := HT5.out.trans (h57.mono HT5.out.size)
  have HF : Hid (∀ Y, Below W7.heap.size W7 Y → (BoxN Y n4 (.slice (some ⟨_, _, none⟩) 1 c4) (.slice d4 0 e4) (-3) ∧ BoxN Y n5 (.slice a5 1 c5) (.slice (some ⟨_, _, none⟩) 1 e5) 5 ∧ BoxN Y n6 (.slice a6 2 c6) (.slice (some ⟨_, _, none⟩) 3 e6) 5 ∧ BoxN Y n7 (.slice a7 1 c7) (.slice (some ⟨_, _, none⟩) 1 e7) (-2)) ∧
      Y.cell? ⟨b4, f4 + 1, none⟩ = some (.slice ua4 2 uc4) ∧ Y.cell? ⟨b5, f5 + 2, none⟩ = some (.slice ua5 3 uc5) ∧ Y.cell? ⟨b6', f6', none⟩ = some (.int .i64 6) ∧ Y.cell? ⟨b6', f6' + 6 + 2, none⟩ = some (.slice ua6 3 uc6) ∧ Y.cell? ⟨b7, f7, none⟩ = some (.int .i64 2)) := fun Y hY =>
    ⟨⟨HX4.out Y (h47.trans (hY.mono h47.size)), HX5.out Y (h57.trans (hY.mono h57.size)), HX6.out Y (h67.trans (hY.mono h67.size)), HX7.out Y hY⟩,
      ((hY.mono h47.size).cell (p := ⟨b4, f4 + 1, none⟩) hb4).trans ((h47.cell (p := ⟨b4, f4 + 1, none⟩) hb4).trans hc4), ((hY.mono h57.size).cell (p := ⟨b5, f5 + 2, none⟩) hb5).trans ((h57.cell (p := ⟨b5, f5 + 2, none⟩) hb5).trans hc5),
      ((hY.mono h67.size).cell (p := ⟨b6', f6', none⟩) hb6).trans ((h67.cell (p := ⟨b6', f6', none⟩) hb6).trans hd6), ((hY.mono h67.size).cell (p := ⟨b6', f6' + 6 + 2, none⟩) hb6).trans ((h67.cell (p := ⟨b6', f6' + 6 + 2, none⟩) hb6).trans hc6), (hY.cell (p := ⟨b7, f7, none⟩) hb7).trans hd7⟩
  have HI5 := Lib.hid (exIn (hi5.below h57 (Nat.le_refl _)) (by decide) (by decide))
  have HI6 := Lib.hid (exIn (hi6.below h67 (Nat.le_refl _)) (by decide) (by decide))
  have HWW : Hid (Below w.heap.size w W7) := HW1.out.trans (HW7.out.mono HW1.out.size)
  clear p0 p1 p2 hc4 hc5 hc6 hd6 hd7 hi4 hi5 hi6 h47 h57 h67 he
  obtain ⟨⟨⟨p0, p1, p2⟩, ⟨q0, q1, q2⟩, ⟨r0, r1, r2⟩, ⟨s0, s1, s2⟩⟩, t1, t2, t3, t4, t5⟩ := HF.out W7 (Below.refl _ _)
  go_upto_region 9 with fail
  go_wp2_with (first
    | (go_at_call 31; refine (HI5.out W7 (Below.refl _ _)).mono ?_; rintro e w8 ⟨rfl, hb8⟩; have HB8 := Lib.hid hb8; clear p0 p1 p2 q0 q1 q2 r0 r1 r2 s0 s1 s2 t1 t2 t3 t4 t5; obtain ⟨⟨⟨p0, p1, p2⟩, ⟨q0, q1, q2⟩, ⟨r0, r1, r2⟩, ⟨s0, s1, s2⟩⟩, t1, t2, t3, t4, t5⟩ := HF.out w8 hb8; clear hb8 HI5)
    | (go_at_call 31; refine (HI6.out w8 HB8.out).mono ?_; rintro e w9 ⟨rfl, hb9⟩; have HB9 := Lib.hid (HB8.out.trans (hb9.mono HB8.out.size)); clear p0 p1 p2 q0 q1 q2 r0 r1 r2 s0 s1 s2 t1 t2 t3 t4 t5; obtain ⟨⟨⟨p0, p1, p2⟩, ⟨q0, q1, q2⟩, ⟨r0, r1, r2⟩, ⟨s0, s1, s2⟩⟩, t1, t2, t3, t4, t5⟩ := HF.out w9 HB9.out; clear hb9))
  go_ret
  exact ⟨rfl, HWW.out.trans (HB9.out.mono HWW.out.size)⟩
end Go.Proofs.Ytafenijbglcppaa
