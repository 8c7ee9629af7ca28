/- skolemlaw02.large over no rows and two lists: how many integers they have. -/
import Derived.Test.YtmhjpbhldaagmaaDoorRowsOwn
namespace Go.Proofs.YtmhjpbhldaagmaaDoor
open Go.RowKit
set_option linter.unusedVariables false

/-- The rows of a new block. -/
theorem IsRows.blks {W : World} {g n : Nat} {us : List Value} {ls : List (List Int)} {c : Array Value} {T : TypeId} (h : W.heap[g]? = some (.cells c T (0, 0))) (hc : c = us.toArray) (hn : n = ls.length) (hr : RowsAre W us ls) (hle : ls.length ≤ 17592186044416) : IsRows W (.slice (some ⟨g, 0, none⟩) n n) ls := by
  subst hc hn
  refine ⟨_, _, rfl, ⟨Nat.le_refl _, fun h => by cases h⟩, by omega, hle, g, 0, fun _ => ⟨rfl, (Array.getElem?_eq_some_iff.1 h).1⟩, fun j hj => ?_⟩
  refine ⟨_, ?_, hr.2 j hj⟩
  have hj2 : j < us.length := by rw [hr.1]; exact hj
  simp only [World.cell?, h]
  simp [hj2, List.getD]
theorem RowsAre.cons {w : World} {us : List Value} {ls : List (List Int)} {u : Value} {l : List Int} (hu : IsInts w u l) (h : RowsAre w us ls) : RowsAre w (u :: us) (l :: ls) := by
  refine ⟨by simp [h.1], fun j hj => ?_⟩
  match j, hj with
  | 0, _ => exact hu
  | j + 1, hj => exact h.2 j (by simpa using hj)

set_option maxHeartbeats 800000 in
theorem large_two (a0 a1 : Option Addr) (n0 c0 n1 c1 g : Nat) (w : World) (hg : w.heap[g]? = some (.cells #[.slice a0 n0 c0, .slice a1 n1 c1] 23 (0, 0))) (h0 : n0 ≤ 17592186044416) (h1 : n1 ≤ 17592186044416) :
    Calls Tryd.prog 7 #[.slice none 0 0, .slice (some ⟨g, 0, none⟩) 2 2] w fun e w' => e = .returned (.bool (decide (2000 < n0 + n1))) ∧ Below w.heap.size w w' := by
  have hc0 : w.cell? ⟨g, 0, none⟩ = some (.slice a0 n0 c0) := by simp [World.cell?, hg]
  have hc1 : w.cell? ⟨g, 1, none⟩ = some (.slice a1 n1 c1) := by simp [World.cell?, hg]
  have HG := Lib.hid hg
  clear hg
  have hgl := (Array.getElem?_eq_some_iff.1 HG.out).1
  go_enter Tryd.func7, Tryd.ntmps7
  go_wp2
  go_loopw [5, 12] (fun n i wr => ((i = .int .i64 0 ∧ n = .int .i64 0) ∨ (i = .int .i64 1 ∧ n = .int .i64 n0) ∨ (i = .int .i64 2 ∧ n = .int .i64 ((n0 + n1 : Nat) : Int))) ∧ Below w.heap.size w wr) (fun _ i _ => 2 - (intOf i).toNat)
  case atStart => exact ⟨.inl ⟨rfl, rfl⟩, Below.refl _ _⟩
  case round =>
    obtain ⟨hcase, hbel⟩ := hrel
    have hx0 := (hbel.cell (p := ⟨g, 0, none⟩) hgl).trans hc0
    have hx1 := (hbel.cell (p := ⟨g, 1, none⟩) hgl).trans hc1
    have HB := Lib.hid hbel
    clear hbel
    rcases hcase with ⟨rfl, rfl⟩ | ⟨rfl, rfl⟩ | ⟨rfl, rfl⟩
    · go_wp2
      go_roundw
      case rel => exact ⟨.inr (.inl ⟨by go_num, by go_num⟩), HB.out⟩
      case measure => simp [intOf]
    · go_wp2
      go_roundw
      case rel => exact ⟨.inr (.inr ⟨by go_num, by go_num⟩), HB.out⟩
      case measure => simp [intOf]
    · generalize hs : n0 + n1 = n at *
      by_cases hbig : 2000 < n
      · go_wp2
        go_ret
        exact ⟨ret_bool (by simp; omega), HB.out⟩
      · go_wp2
        go_ret
        exact ⟨ret_bool (by simp; omega), HB.out⟩

end Go.Proofs.YtmhjpbhldaagmaaDoor
