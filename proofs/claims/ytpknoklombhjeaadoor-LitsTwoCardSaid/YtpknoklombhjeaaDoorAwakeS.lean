/- The variable same. -/
import Derived.Test.YtpknoklombhjeaaDoorAwakeP
namespace Go.Proofs.YtpknoklombhjeaaDoor
open Go.RowKit

def SameAt (w : World) : Prop := w.cell? ⟨0, 0, none⟩ = some (.func (.func 74) #[] #[])
theorem SameAt.lt {w : World} (h : SameAt w) : 0 < w.heap.size := World.block_lt_of_cell? w _ h
theorem SameAt.below {w w' : World} {B : Nat} (h : SameAt w) (hb : Below B w w') (hB : 0 < B) : SameAt w' := (hb.cell (p := ⟨0, 0, none⟩) hB).trans h


end Go.Proofs.YtpknoklombhjeaaDoor
