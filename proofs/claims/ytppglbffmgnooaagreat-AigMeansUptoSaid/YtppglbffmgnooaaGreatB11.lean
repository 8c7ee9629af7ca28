/- Joined texts: AgRImg, AgRUni. -/
import Derived.Test.YtppglbffmgnooaaGreatA13
import Derived.Test.YtppglbffmgnooaaGreatA07
import Derived.Test.YtppglbffmgnooaaGreatA01
import Derived.Test.YtppglbffmgnooaaGreatCxRInts
import Derived.Test.YtppglbffmgnooaaGreatA05
import Derived.Test.YtppglbffmgnooaaGreatAgEvalP
/- The reference's Image, images, Edge, edges. -/
namespace Go.Proofs.YtppglbffmgnooaaGreat
open Go.RowKit Go.Maps Go.Shelf
set_option linter.unusedVariables false
set_option linter.unusedSimpArgs false

/-- The edge of an input. -/
def edgeI (I : List Int) (v : Int) : Int := if v ∈ I then 2 * placeA I v else -1
theorem edgeI_at {I : List Int} (hs : I.Pairwise (· < ·)) {k : Nat} (hk : k < I.length) {v : Int} (e : I.getD k 0 = v) : edgeI I v = 2 * ((k : Int) + 1) := by
  subst e
  unfold edgeI
  rw [if_pos (ints_getD_mem hk), placeA_at hs hk]
theorem edgeI_no {I : List Int} {v : Int} (h : ∀ j, j < I.length → I.getD j 0 ≠ v) : edgeI I v = -1 := by
  unfold edgeI
  rw [if_neg]
  intro hm
  obtain ⟨j, hj, rfl⟩ := List.getElem_of_mem hm
  exact h j hj (by simp [List.getD, hj])
set_option maxRecDepth 100000 in
set_option maxHeartbeats 1600000 in
theorem redge_any (vi va : Value) (I : List Int) (A : List Pr) (v : Int) (w : World) (HI : IsInts w vi I) (HA : IsPairs w va A) (hs : I.Pairwise (· < ·)) (h1 : I.length ≤ 200000) (hv1 : -9223372036854775808 ≤ v) (hv2 : v ≤ 9223372036854775807) :
    Calls Tryz.prog 51 #[.agg #[vi, va], .int .i64 v] w fun r w' => r = .returned (.int .i64 (edgeI I v)) ∧ Below w.heap.size w w' := by
  have hbl := below_alloc1 w (.cells #[vi, va] 25)
  obtain ⟨p0, p1⟩ := boxA_new w vi va
  have HI1 := Lib.hid (HI.below hbl (Nat.le_refl _))
  have HBL := Lib.hid hbl
  obtain ⟨ia, ic, rfl⟩ := HI.shape
  obtain ⟨aa, ac, rfl, _⟩ := HA.shape
  have HS := Lib.hid hs
  clear HI HA hbl hs
  go_enter Tryz.func51, Tryz.ntmps51
  go_upto_region 1 with fail
  generalize World.alloc w _ = W at *
  go_wp2
  go_loop [5] (fun s5 => ∃ k : Nat, k ≤ I.length ∧ s5 = .int .i64 k ∧ Hid (∀ j, j < k → I.getD j 0 ≠ v)) (fun s5 => I.length - (intOf s5).toNat)
  case atStart => exact ⟨0, Nat.zero_le _, rfl, fun j hj => absurd hj (Nat.not_lt_zero _)⟩
  case round =>
    obtain ⟨k, hk, rfl, HN⟩ := hrel
    by_cases hlt : k < I.length
    · obtain ⟨b2, off, rfl, hbk, hx⟩ := HI1.out.cellY hlt
      have HHIT : Hid (I.getD k 0 = v → edgeI I v = 2 * ((k : Int) + 1)) := fun e => edgeI_at HS.out hlt e
      have HKL := Lib.hid hlt
      have hk0 : (0 : Int) ≤ (k : Int) := by omega
      have hk1 : (k : Int) < (I.length : Int) := by omega
      have hk2 : (k : Int) < 4000001 := by omega
      have HNX : Hid (I.getD k 0 ≠ v → ∀ j, j < k + 1 → I.getD j 0 ≠ v) := fun e j hj => by
        rcases Nat.lt_succ_iff_lt_or_eq.1 hj with h | h
        · exact HN.out j h
        · rw [h]; exact e
      clear hlt
      generalize I.getD k 0 = y at *
      by_cases hy : y = v
      · subst hy
        have HR := Lib.hid (HHIT.out rfl)
        clear HHIT HNX
        go_wp2
        go_ret
        exact ⟨ret_int HR.out.symm, HBL.out⟩
      · have hyb : (y == v) = false := by simpa using hy
        have HNN := Lib.hid (HNX.out hy)
        clear HHIT HNX
        go_wp2
        go_round
        case rel => exact ⟨k + 1, HKL.out, by go_num, HNN.out⟩
        case measure => have := HKL.out; simp [intOf]; omega
    · have HR : Hid (edgeI I v = -1) := edgeI_no (fun j hj => HN.out j (by omega))
      go_wp2
      go_ret
      exact ⟨ret_int HR.out.symm, HBL.out⟩
end Go.Proofs.YtppglbffmgnooaaGreat

/- The reference's Union. -/
namespace Go.Proofs.YtppglbffmgnooaaGreat
open Go.RowKit Go.Maps Go.Shelf
set_option linter.unusedVariables false
set_option linter.unusedSimpArgs false

def unionL : List Int → List Int → List Int
  | [], [] => []
  | x :: a, [] => x :: unionL a []
  | [], y :: b => y :: unionL [] b
  | x :: a, y :: b => if x < y then x :: unionL a (y :: b) else if y < x then y :: unionL (x :: a) b else unionL (x :: a) b
termination_by a b => a.length + b.length
end Go.Proofs.YtppglbffmgnooaaGreat
