/- What the laws' walks share. -/
import Derived.Test.YtnedpngadfkmiaaDoorAwake
import Derived.Test.YtnedpngadfkmiaaDoorHas
import Derived.Deep.RegionHeld3
import Derived.Deep.RegionWith
namespace Go.Proofs.YtnedpngadfkmiaaDoor
open Go.RowKit
set_option linter.unusedVariables false

theorem sameX {w W : World} {v u : Value} {l : List Int} (hb : Below w.heap.size w W) (H : IsInts W v l) (K : IsInts W u l) : Calls Tryd.prog 107 #[v, u] W (fun e w' => e = .returned (.bool true) ∧ Below w.heap.size w w') :=
  (same_any v u l l W H K).mono fun e w' h => ⟨by rw [h.1]; unfold sameB; simp, hb.trans (h.2.below _)⟩
theorem awakeX {w W : World} (hb : Below w.heap.size w W) (hT : Pow w.heap.size w) (hS : SameAt w) : Calls Tryd.prog 19 #[] W (fun e w' => e = .returned (.bool true) ∧ Below w.heap.size w w') :=
  (awake_any W ((hT.on hb).up hb.size) (hS.below hb hS.lt)).mono fun e w' h => ⟨h.1, hb.trans (h.2.mono hb.size)⟩

end Go.Proofs.YtnedpngadfkmiaaDoor
