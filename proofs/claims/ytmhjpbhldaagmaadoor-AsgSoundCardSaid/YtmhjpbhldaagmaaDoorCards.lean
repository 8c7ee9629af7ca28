/-
  DERIVED. GIVEN WITH THE SEED: THE CARDS: each row of YtmhjpbhldaagmaaDoorRows.lean that lists a variable, with what it lists TIED to the program's text (the seventh form; the later family's looks); each row that meets fmt, with fmt's text TOLD by the authors' own Lean function (tested against real Go, not proved from fmt's source: count such statements apart). THE CARD IS WHAT COUNTS. Prove the row's statement (the work); the ties are given (YtmhjpbhldaagmaaDoorTie.lean); close each card by the builder's one call (the guide's Derived/Test/ToyasCard.lean, 'card_holds'). Laid BY PROGRAM, IN A SANDBOX (cutbox-door.mjs). By AI agents, Wed Nov 11 2026. No macro, syntax, notation, axiom, sorry.
-/
import Derived.Test.YtmhjpbhldaagmaaDoorRows
import GoSem.ClaimSeven
namespace Go.Proofs.YtmhjpbhldaagmaaDoor
namespace Rows

/-- THE TIED CARD OF 'skolemlaw02.AsgSound'. -/
def asgSoundCard : Claim7 := { stood := { row := asgSoundRow, standIns := [], harness := (true, "e16bc037e187790a390c3eb51d930c3f753a813f1773d038972d68902a7bd5eb"), looks := true }, kinds := [], alts := [], laidByText := true, laidKinds := [.funcs], laidTests := true, laidLooks := .later }
def AsgSoundCardSaid : Prop := Claim7.holds Tryd.pinned (.plain (OpenSpec.ofChange asgSoundSpec)) asgSoundCard

/-- THE TIED CARD OF 'skolemlaw02.AsgOrder'. -/
def asgOrderCard : Claim7 := { stood := { row := asgOrderRow, standIns := [], harness := (true, "e16bc037e187790a390c3eb51d930c3f753a813f1773d038972d68902a7bd5eb"), looks := true }, kinds := [], alts := [], laidByText := true, laidKinds := [.funcs], laidTests := true, laidLooks := .later }
def AsgOrderCardSaid : Prop := Claim7.holds Tryd.pinned (.plain (OpenSpec.ofChange asgOrderSpec)) asgOrderCard

/-- THE TIED CARD OF 'skolemlaw02.AsgBack'. -/
def asgBackCard : Claim7 := { stood := { row := asgBackRow, standIns := [], harness := (true, "e16bc037e187790a390c3eb51d930c3f753a813f1773d038972d68902a7bd5eb"), looks := true }, kinds := [], alts := [], laidByText := true, laidKinds := [.funcs], laidTests := true, laidLooks := .later }
def AsgBackCardSaid : Prop := Claim7.holds Tryd.pinned (.plain (OpenSpec.ofChange asgBackSpec)) asgBackCard

/-- THE TIED CARD OF 'skolemlaw04.TruthQbf'. -/
def truthQbfCard : Claim7 := { stood := { row := truthQbfRow, standIns := [], harness := (true, "e16bc037e187790a390c3eb51d930c3f753a813f1773d038972d68902a7bd5eb"), looks := true }, kinds := [], alts := [], laidByText := true, laidKinds := [.data, .data], laidTests := true, laidLooks := .later }
def TruthQbfCardSaid : Prop := Claim7.holds Tryd.pinned (.plain (OpenSpec.ofChange truthQbfSpec)) truthQbfCard

/-- THE SECOND FORM's CARD OF 'skolemlaw02.AsgSound'. -/
def asgSoundUptoCard : Claim7 := { stood := { row := asgSoundUptoRow, standIns := [], harness := (true, "e16bc037e187790a390c3eb51d930c3f753a813f1773d038972d68902a7bd5eb"), looks := true }, kinds := [], alts := [], laidByText := true, laidKinds := [.funcs], laidTests := true, laidLooks := .later }
def AsgSoundUptoCardSaid : Prop := Claim7.holds Tryd.pinned (.plain (OpenSpec.upto asgSoundSpec)) asgSoundUptoCard

/-- THE SECOND FORM's CARD OF 'skolemlaw02.AsgOrder'. -/
def asgOrderUptoCard : Claim7 := { stood := { row := asgOrderUptoRow, standIns := [], harness := (true, "e16bc037e187790a390c3eb51d930c3f753a813f1773d038972d68902a7bd5eb"), looks := true }, kinds := [], alts := [], laidByText := true, laidKinds := [.funcs], laidTests := true, laidLooks := .later }
def AsgOrderUptoCardSaid : Prop := Claim7.holds Tryd.pinned (.plain (OpenSpec.upto asgOrderSpec)) asgOrderUptoCard

/-- THE SECOND FORM's CARD OF 'skolemlaw02.AsgBack'. -/
def asgBackUptoCard : Claim7 := { stood := { row := asgBackUptoRow, standIns := [], harness := (true, "e16bc037e187790a390c3eb51d930c3f753a813f1773d038972d68902a7bd5eb"), looks := true }, kinds := [], alts := [], laidByText := true, laidKinds := [.funcs], laidTests := true, laidLooks := .later }
def AsgBackUptoCardSaid : Prop := Claim7.holds Tryd.pinned (.plain (OpenSpec.upto asgBackSpec)) asgBackUptoCard

/-- THE SECOND FORM's CARD OF 'skolemlaw04.TruthQbf'. -/
def truthQbfUptoCard : Claim7 := { stood := { row := truthQbfUptoRow, standIns := [], harness := (true, "e16bc037e187790a390c3eb51d930c3f753a813f1773d038972d68902a7bd5eb"), looks := true }, kinds := [], alts := [], laidByText := true, laidKinds := [.data, .data], laidTests := true, laidLooks := .later }
def TruthQbfUptoCardSaid : Prop := Claim7.holds Tryd.pinned (.plain (OpenSpec.upto truthQbfSpec)) truthQbfUptoCard
end Rows
end Go.Proofs.YtmhjpbhldaagmaaDoor
