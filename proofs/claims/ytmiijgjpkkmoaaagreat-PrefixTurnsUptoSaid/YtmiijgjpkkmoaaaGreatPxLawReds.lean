/- The law PrefixReduces, walked. -/
import Derived.Test.YtmiijgjpkkmoaaaGreatPxHeadB
import Derived.Test.YtmiijgjpkkmoaaaGreatMgJ
import Derived.Test.YtmiijgjpkkmoaaaGreatPxRedP
namespace Go.Proofs.YtmiijgjpkkmoaaaGreat
open Go.RowKit
set_option linter.unusedVariables false
set_option linter.unusedSimpArgs false

theorem wrap_min : wrap64 9223372036854775808 = -9223372036854775808 := by unfold wrap64; omega
set_option maxHeartbeats 400000 in
theorem rabs_any (x : Int) (w : World) (h1 : -9223372036854775808 ≤ x) (h2 : x ≤ 9223372036854775807) :
    Calls Tryz.prog 78 #[.int .i64 x] w fun e w' => e = .returned (.int .i64 (absW x)) ∧ w = w' := by
  by_cases m : x = -9223372036854775808
  · have e : absW x = x := by unfold absW; rw [if_pos m]
    rw [e]
    subst m
    go_enter Tryz.func78, Tryz.ntmps78
    go_wp2
    go_ret
    exact ⟨ret_int wrap_min, rfl⟩
  · have e0 : absW x = absOf x := by unfold absW; rw [if_neg m]
    rw [e0]
    by_cases c : x < 0
    · have e : absOf x = -x := by unfold absOf; rw [if_pos c]
      rw [e]
      clear e e0
      have h3 : -9223372036854775807 ≤ x := by omega
      go_enter Tryz.func78, Tryz.ntmps78
      go_wp2
      go_ret
      exact ⟨rfl, rfl⟩
    · have e : absOf x = x := by unfold absOf; rw [if_neg c]
      rw [e]
      clear e e0
      go_enter Tryz.func78, Tryz.ntmps78
      go_wp2
      go_ret
      exact ⟨rfl, rfl⟩

theorem find_is (vp : Value) (p : List Blk) (v : Int) (w : World) (HP : IsBlocks w vp p) {B : Nat} {e o : Bool} (h : findL p v = (B, e, o)) :
    Calls Tryz.prog 54 #[vp, .int .i64 v] w fun en w' => en = .returned (.tuple #[.int .i64 (B : Int), .bool e, .bool o]) ∧ Below w.heap.size w w' := by
  have := find_any vp p v w HP
  rw [h] at this
  exact this

theorem flat_totT {α : Type} (p : List (α × List Int)) : (flatB p).length = totT p := by
  unfold flatB totT
  rw [List.length_flatten, List.map_map]
  rfl
theorem blocks_i64 {w : World} {v : Value} {p : List Blk} (H : IsBlocks w v p) : In64 (flatB p) := by
  intro x hx
  obtain ⟨l, hl, hxl⟩ := List.mem_flatten.1 (show x ∈ (p.map (fun y => y.2)).flatten from hx)
  obtain ⟨b, hb, rfl⟩ := List.mem_map.1 hl
  obtain ⟨i, hi, rfl⟩ := List.mem_iff_getElem.1 hb
  obtain ⟨a, cap, rfl, _⟩ := H.shape
  obtain ⟨_, _, u, _, _, _, _, HU⟩ := H.at hi
  have e : p.getD i (false, ([] : List Int)) = p[i] := by simp [List.getD, hi]
  rw [e] at HU
  exact HU.i64X x hxl
theorem IsInts.cellX {w : World} {a : Option Addr} {n c : Nat} {l : List Int} (H : IsInts w (.slice a n c) l) {k : Nat} (hk : k < l.length) : ∃ b off, a = some ⟨b, off, none⟩ ∧ b < w.heap.size ∧ w.cell? ⟨b, off + k, none⟩ = some (.int .i64 (l.getD k 0)) := by
  obtain ⟨a', cap', e, _, _, _, _, b, off, ha, hc⟩ := H
  injection e with e1 e2 e3
  subst e1
  obtain ⟨h1, h2⟩ := ha (by intro h; simp [h] at hk)
  exact ⟨b, off, h1, h2, hc k hk⟩

end Go.Proofs.YtmiijgjpkkmoaaaGreat
