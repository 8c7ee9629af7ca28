/- Joined texts: PxRJoin, PxRLess. -/
import Derived.Test.YtmiijgjpkkmoaaaGreatPxRJoined
import Derived.Test.YtmiijgjpkkmoaaaGreatMpB
import Derived.Test.YtmiijgjpkkmoaaaGreatPxLess
/- The reference's Join. -/
namespace Go.Proofs.YtmiijgjpkkmoaaaGreat
open Go.RowKit
set_option linter.unusedVariables false
set_option linter.unusedSimpArgs false

theorem joined_blocks {w w' : World} {B : Nat} {v : Value} {t : List Trp} {p : List Blk} (h : RowB w w' B v t) (hs : shapeT t = joinL p) (hf : (flatB p).length ≤ 4000) (h64 : In64 (flatB p)) : IsBlocks w' v (joinL p) := by
  have hful : ∀ x ∈ t, x.2.2 ≠ [] := fun x hx => by
    have h1 : (x.1, x.2.2) ∈ shapeT t := List.mem_map_of_mem (f := fun x : Trp => (x.1, x.2.2)) hx
    rw [hs] at h1
    exact joinL_full _ _ h1
  have h8 := count_flatB (p := shapeT t) (fun b hb => by
    obtain ⟨x, hx, rfl⟩ := List.mem_map.1 hb
    exact hful x hx)
  rw [shapeT_len, hs, flat_joinL] at h8
  have := h.blocks (by omega) (fun x hx => by
    have h1 : (x.1, x.2.2) ∈ shapeT t := List.mem_map_of_mem (f := fun x : Trp => (x.1, x.2.2)) hx
    rw [hs] at h1
    have h2 := len_flatB h1
    rw [flat_joinL] at h2
    simp only at h2
    refine ⟨by omega, fun z hz => ?_⟩
    have h3 := mem_flatB h1 hz
    rw [flat_joinL] at h3
    exact h64 z h3)
  rw [hs] at this
  exact this

def RetBlkI (w : World) (q : List Blk × Int) (e : Ending) (w' : World) : Prop := ∃ v, e = .returned (.tuple #[v, .int .i64 q.2]) ∧ IsBlocks w' v q.1 ∧ Below w.heap.size w w'

end Go.Proofs.YtmiijgjpkkmoaaaGreat

/- The reference's Less. -/
namespace Go.Proofs.YtmiijgjpkkmoaaaGreat
open Go.RowKit
set_option linter.unusedVariables false
set_option linter.unusedSimpArgs false

theorem rows_blocks {w w' : World} {B : Nat} {v : Value} {t : List Trp} {q : List Blk} (h : RowB w w' B v t) (hs : shapeT t = q) (hl : q.length ≤ 4000000) (hx : ∀ b ∈ q, b.2.length ≤ 4000000 ∧ In64 b.2) : IsBlocks w' v q := by
  have hl2 : t.length ≤ 4000000 := by rw [← shapeT_len t, hs]; exact hl
  have := h.blocks (by omega) (fun x hx2 => by
    have h1 : (x.1, x.2.2) ∈ shapeT t := List.mem_map_of_mem (f := fun x : Trp => (x.1, x.2.2)) hx2
    rw [hs] at h1
    have h2 := hx _ h1
    exact ⟨by have := h2.1; simp only at this; omega, h2.2⟩)
  rw [hs] at this
  exact this
theorem less_ok {p : List Blk} {vars : List Int} (hm : mayP p = true) : lessR p vars = (joinL (restL p vars), 0) ∧ (flatB (restL p vars)).length ≤ 1024 ∧ In64 (flatB (restL p vars)) ∧ (restL p vars).length ≤ 1024 := by
  have hm' := hm
  have hpl := mayP_len hm
  unfold mayP at hm'
  rw [decide_eq_true_eq] at hm'
  obtain ⟨_, hn, hr, hl⟩ := hm'
  have h1 := restL_flat p vars
  have h2 : (flatB (restL p vars)).length ≤ 1024 := by rw [h1]; exact Nat.le_trans (List.length_filter_le _ _) hl
  have h3 : singleB (flatB (restL p vars)) = true := by
    unfold singleB
    rw [decide_eq_true_eq, h1]
    exact ⟨hn.sublist List.filter_sublist, fun v hv => hr v (List.mem_filter.1 hv).1⟩
  refine ⟨?_, h2, fun x hx => ?_, ?_⟩
  · unfold lessR joinA
    rw [if_pos hm, if_pos h3, if_pos h2]
  · rw [h1] at hx
    have := hr x (List.mem_filter.1 hx).1
    omega
  · unfold restL
    rw [List.length_map]
    exact hpl.2
theorem ints_oneX (w : World) (x : Int) (h1 : -9223372036854775808 ≤ x) (h2 : x ≤ 9223372036854775807) : IsInts (w.alloc (.cells #[.int .i64 x] 3)) (.slice (some ⟨w.heap.size, 0, none⟩) 1 1) [x] := by
  refine ⟨_, 1, rfl, ⟨Nat.le_refl _, fun e => by cases e⟩, by omega, by simp, fun y hy => by rw [List.mem_singleton] at hy; subst hy; exact ⟨h1, h2⟩, w.heap.size, 0, fun _ => ⟨rfl, by simp⟩, fun j hj => ?_⟩
  have : j = 0 := by simpa using hj
  subst this
  exact cell_fresh rfl
theorem heap_cell {w : World} {h : Nat} {c : Array Value} {T : TypeId} {i : Nat} {v : Value} (hh : w.heap[h]? = some (.cells c T (0, 0))) (hi : c[i]? = some v) : w.cell? ⟨h, i, none⟩ = some v := by simp only [World.cell?, hh]; exact hi
theorem heap_froz {w : World} {h i : Nat} {c : Array Value} {T : TypeId} (hh : w.heap[h]? = some (.cells c T (0, 0))) : w.frozen? ⟨h, i, none⟩ = false := by simp [World.frozen?, hh]
theorem heap_set1 {w : World} {h : Nat} {a b c : Value} {T : TypeId} (hh : w.heap[h]? = some (.cells #[a, b] T (0, 0))) : (w.setCell ⟨h, 1, none⟩ c).heap[h]? = some (.cells #[a, c] T (0, 0)) := by
  simp [World.setCell, Array.getElem?_modify, hh]
theorem own_shape {w : World} {B : Nat} {v : Value} {xs : List Int} (h : Own w B v xs) : ∃ a cap, v = .slice a xs.length cap := by
  rcases h.2 with ⟨rfl, h2⟩ | ⟨g, cap, cur, rfl, _⟩
  · exact ⟨none, 0, by rw [h2]⟩
  · exact ⟨_, _, rfl⟩

end Go.Proofs.YtmiijgjpkkmoaaaGreat
