/- The reference's Cone. -/
import Derived.Test.YtppglbffmgnooaaGreatAgRCop
import Derived.Test.YtppglbffmgnooaaGreatAgRResP
namespace Go.Proofs.YtppglbffmgnooaaGreat
open Go.RowKit Go.Maps Go.Shelf
set_option linter.unusedVariables false
set_option linter.unusedSimpArgs false

def RGPost (w : World) (r : (List Int × List Pr) × List Int × Int) (e : Ending) (w' : World) : Prop :=
  ∃ vi va vl, e = .returned (.tuple #[.agg #[vi, va], vl, .int .i64 r.2.2]) ∧ (IsInts w' vi r.1.1 ∧ IsPairs w' va r.1.2) ∧ IsInts w' vl r.2.1 ∧ Below w.heap.size w w'
theorem IsInts.nil' (w : World) : IsInts w (.slice none 0 0) [] := (GrO.nil w 0).ints.1
/-- A maker that is made. -/
theorem rmk_new (w : World) (vi : Value) (I : List Int) (HI : IsInts w vi I) (hI : 1 + I.length ≤ 200000) : RMk (w.alloc (.cells #[vi, .slice none 0 0, .bool false] 82)) (w.alloc (.cells #[vi, .slice none 0 0, .bool false] 82)) w.heap.size w.heap.size I ([], false) vi (.slice none 0 0) :=
  ⟨World.alloc_heap_new _ _, KpM.refl _ _ _ _, fun Z hZ => HI.below ((below_alloc1 w _).trans hZ.below) (Nat.le_refl _), by omega, OwnP.nil _ _, ⟨rfl, by simpa using hI⟩, fun p hp => (by cases hp), Nat.le_refl _⟩
theorem rcAll_ok {k : Nat} {I : List Int} {A : List Pr} {ins l : List Int} {s : Mq} (hk : 1 ≤ k) (hs : MOk k s) (hx : ins.length = I.length) (hok : okUpto (1 + I.length) A A.length = true) (hie : ∀ x ∈ ins, isE x (k + s.1.length) = true) : CpOk k (1 + I.length + A.length) s (rcAll k I A ins l s) :=
  rcTo_ok hk hok (rcIn_ok (nn := 1 + I.length + A.length) hk hs (by omega) hie) A.length (Nat.le_refl _)
theorem edgeI_isE {I : List Int} {v : Int} (h : v ∈ I) : isE (edgeI I v) (1 + I.length + ([] : List Pr).length) = true := by
  unfold edgeI
  rw [if_pos h, isE_true]
  have := placeA_bd I v
  simp only [List.length_nil]
  omega

end Go.Proofs.YtppglbffmgnooaaGreat
