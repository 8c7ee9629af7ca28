/- The law on two assignments, walked. -/
import Derived.Test.YtmhjpbhldaagmaaDoorMgN
import Derived.Test.YtmhjpbhldaagmaaDoorMgK
namespace Go.Proofs.YtmhjpbhldaagmaaDoor
open Go.RowKit
set_option linter.unusedVariables false
set_option linter.unusedSimpArgs false

theorem lgF1 {w : World} {b : Bool} {vf v1 : Value} {f : List (List Int)} {l1 : List Int} (H : IsRows w vf f) (h1 : IsInts w v1 l1) (hf : f.length * 24 ≤ 140737488351232) (hb : largeB [l1] f = b) :
    Calls Tryd.prog 7 #[vf, .slice (some ⟨w.heap.size, 0, none⟩) 1 1] (w.alloc (.cells #[v1] 23)) fun e w' => e = .returned (.bool b) ∧ Below w.heap.size w w' :=
  (large_any vf _ [v1] [l1] f w.heap.size _ (H.below (zst (Below.refl _ _)) (Nat.le_refl _)) (OwnR.litz rfl rfl (by simp)) (RowsAre.cons (h1.below (zst (Below.refl _ _)) (Nat.le_refl _)) (RowsAre.nil _)) (by simp) (by simp) hf).mono fun e w' h => ⟨by rw [h.1, hb], (zst (Below.refl _ _)).trans h.2⟩
theorem lgF2 {w : World} {b : Bool} {vf v1 v2 : Value} {f : List (List Int)} {l1 l2 : List Int} (H : IsRows w vf f) (h1 : IsInts w v1 l1) (h2 : IsInts w v2 l2) (hf : f.length * 24 ≤ 140737488351232) (hb : largeB [l1, l2] f = b) :
    Calls Tryd.prog 7 #[vf, .slice (some ⟨w.heap.size, 0, none⟩) 2 2] (w.alloc (.cells #[v1, v2] 23)) fun e w' => e = .returned (.bool b) ∧ Below w.heap.size w w' :=
  (large_any vf _ [v1, v2] [l1, l2] f w.heap.size _ (H.below (zst (Below.refl _ _)) (Nat.le_refl _)) (OwnR.litz rfl rfl (by simp)) (RowsAre.cons (h1.below (zst (Below.refl _ _)) (Nat.le_refl _)) (RowsAre.cons (h2.below (zst (Below.refl _ _)) (Nat.le_refl _)) (RowsAre.nil _))) (by simp) (by simp) hf).mono fun e w' h => ⟨by rw [h.1, hb], (zst (Below.refl _ _)).trans h.2⟩
theorem sameallX {w : World} {u v : Value} {l : List (List Int)} (H : IsRows w u l) (K : IsRows w v l) : Calls Tryd.prog 31 #[u, v] w (fun e w' => e = .returned (.bool true) ∧ Below w.heap.size w w') :=
  (sameall_any _ _ l l w H K).mono fun e w' h => ⟨by rw [h.1]; unfold sameB; simp, h.2.below _⟩

end Go.Proofs.YtmhjpbhldaagmaaDoor
