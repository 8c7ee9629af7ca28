/-
  DERIVED. GIVEN WITH THE SEED: THE CARDS: each row of YtnedpngadfkmiaaDoorRows.lean that lists a variable, with what it lists TIED to the program's text (the seventh form; the later family's looks); each row that meets fmt, with fmt's text TOLD by the authors' own Lean function (tested against real Go, not proved from fmt's source: count such statements apart). THE CARD IS WHAT COUNTS. Prove the row's statement (the work); the ties are given (YtnedpngadfkmiaaDoorTie.lean); close each card by the builder's one call (the guide's Derived/Test/ToyasCard.lean, 'card_holds'). Laid BY PROGRAM, IN A SANDBOX (cutbox-door.mjs). By AI agents, Wed Nov 11 2026. No macro, syntax, notation, axiom, sorry.
-/
import Derived.Test.YtnedpngadfkmiaaDoorRows
import GoSem.ClaimSeven
namespace Go.Proofs.YtnedpngadfkmiaaDoor
namespace Rows

/-- THE TIED CARD OF 'skolemlaw01.LitsOne'. -/
def litsOneCard : Claim7 := { stood := { row := litsOneRow, standIns := [], harness := (true, "3205cbd1384a8d384506815bded791b7a126b6d7d6bd95107f657f9f9700cb10"), looks := true }, kinds := [], alts := [], laidByText := true, laidKinds := [.data, .data, .data, .funcs], laidTests := true, laidLooks := .later }
def LitsOneCardSaid : Prop := Claim7.holds Tryd.pinned (.plain (OpenSpec.ofChange litsOneSpec)) litsOneCard

/-- THE TIED CARD OF 'skolemlaw01.LitsTwo'. -/
def litsTwoCard : Claim7 := { stood := { row := litsTwoRow, standIns := [], harness := (true, "3205cbd1384a8d384506815bded791b7a126b6d7d6bd95107f657f9f9700cb10"), looks := true }, kinds := [], alts := [], laidByText := true, laidKinds := [.data, .data, .data, .funcs], laidTests := true, laidLooks := .later }
def LitsTwoCardSaid : Prop := Claim7.holds Tryd.pinned (.plain (OpenSpec.ofChange litsTwoSpec)) litsTwoCard

/-- THE TIED CARD OF 'skolemlaw01.LitsMany'. -/
def litsManyCard : Claim7 := { stood := { row := litsManyRow, standIns := [], harness := (true, "3205cbd1384a8d384506815bded791b7a126b6d7d6bd95107f657f9f9700cb10"), looks := true }, kinds := [], alts := [], laidByText := true, laidKinds := [.data, .data, .data, .funcs], laidTests := true, laidLooks := .later }
def LitsManyCardSaid : Prop := Claim7.holds Tryd.pinned (.plain (OpenSpec.ofChange litsManySpec)) litsManyCard

/-- THE TIED CARD OF 'skolemlaw01.LitsLarge'. -/
def litsLargeCard : Claim7 := { stood := { row := litsLargeRow, standIns := [], harness := (true, "3205cbd1384a8d384506815bded791b7a126b6d7d6bd95107f657f9f9700cb10"), looks := true }, kinds := [], alts := [], laidByText := true, laidKinds := [.data, .data, .data, .funcs], laidTests := true, laidLooks := .later }
def LitsLargeCardSaid : Prop := Claim7.holds Tryd.pinned (.plain (OpenSpec.ofChange litsLargeSpec)) litsLargeCard

/-- THE TIED CARD OF 'skolemlaw01.LitsTexts'. -/
def litsTextsCard : Claim7 := { stood := { row := litsTextsRow, standIns := [], harness := (true, "3205cbd1384a8d384506815bded791b7a126b6d7d6bd95107f657f9f9700cb10"), looks := true }, kinds := [], alts := [], laidByText := true, laidKinds := [.data, .data, .data, .funcs], laidTests := true, laidLooks := .later }
def LitsTextsCardSaid : Prop := Claim7.holds Tryd.pinned (.plain (OpenSpec.ofChange litsTextsSpec)) litsTextsCard

/-- THE TIED CARD OF 'skolemlaw01.LitsResolves'. -/
def litsResolvesCard : Claim7 := { stood := { row := litsResolvesRow, standIns := [], harness := (true, "3205cbd1384a8d384506815bded791b7a126b6d7d6bd95107f657f9f9700cb10"), looks := true }, kinds := [], alts := [], laidByText := true, laidKinds := [.data, .data, .data, .funcs], laidTests := true, laidLooks := .later }
def LitsResolvesCardSaid : Prop := Claim7.holds Tryd.pinned (.plain (OpenSpec.ofChange litsResolvesSpec)) litsResolvesCard

/-- THE TIED CARD OF 'skolemlaw01.LitsOrders'. -/
def litsOrdersCard : Claim7 := { stood := { row := litsOrdersRow, standIns := [], harness := (true, "3205cbd1384a8d384506815bded791b7a126b6d7d6bd95107f657f9f9700cb10"), looks := true }, kinds := [], alts := [], laidByText := true, laidKinds := [.data, .data, .data, .funcs], laidTests := true, laidLooks := .later }
def LitsOrdersCardSaid : Prop := Claim7.holds Tryd.pinned (.plain (OpenSpec.ofChange litsOrdersSpec)) litsOrdersCard

/-- THE TIED CARD OF 'skolemlaw01.LitsBack'. -/
def litsBackCard : Claim7 := { stood := { row := litsBackRow, standIns := [], harness := (true, "3205cbd1384a8d384506815bded791b7a126b6d7d6bd95107f657f9f9700cb10"), looks := true }, kinds := [], alts := [], laidByText := true, laidKinds := [.data, .data, .data, .funcs], laidTests := true, laidLooks := .later }
def LitsBackCardSaid : Prop := Claim7.holds Tryd.pinned (.plain (OpenSpec.ofChange litsBackSpec)) litsBackCard

/-- THE TIED CARD OF 'skolemlaw02.AsgValues'. -/
def asgValuesCard : Claim7 := { stood := { row := asgValuesRow, standIns := [], harness := (true, "3205cbd1384a8d384506815bded791b7a126b6d7d6bd95107f657f9f9700cb10"), looks := true }, kinds := [], alts := [], laidByText := true, laidKinds := [.funcs], laidTests := true, laidLooks := .later }
def AsgValuesCardSaid : Prop := Claim7.holds Tryd.pinned (.plain (OpenSpec.ofChange asgValuesSpec)) asgValuesCard

/-- THE TIED CARD OF 'skolemlaw02.AsgUnder'. -/
def asgUnderCard : Claim7 := { stood := { row := asgUnderRow, standIns := [], harness := (true, "3205cbd1384a8d384506815bded791b7a126b6d7d6bd95107f657f9f9700cb10"), looks := true }, kinds := [], alts := [], laidByText := true, laidKinds := [.funcs], laidTests := true, laidLooks := .later }
def AsgUnderCardSaid : Prop := Claim7.holds Tryd.pinned (.plain (OpenSpec.ofChange asgUnderSpec)) asgUnderCard

/-- THE TIED CARD OF 'skolemlaw02.AsgUnits'. -/
def asgUnitsCard : Claim7 := { stood := { row := asgUnitsRow, standIns := [], harness := (true, "3205cbd1384a8d384506815bded791b7a126b6d7d6bd95107f657f9f9700cb10"), looks := true }, kinds := [], alts := [], laidByText := true, laidKinds := [.funcs], laidTests := true, laidLooks := .later }
def AsgUnitsCardSaid : Prop := Claim7.holds Tryd.pinned (.plain (OpenSpec.ofChange asgUnitsSpec)) asgUnitsCard

/-- THE TIED CARD OF 'skolemlaw02.AsgPoints'. -/
def asgPointsCard : Claim7 := { stood := { row := asgPointsRow, standIns := [], harness := (true, "3205cbd1384a8d384506815bded791b7a126b6d7d6bd95107f657f9f9700cb10"), looks := true }, kinds := [], alts := [], laidByText := true, laidKinds := [.funcs], laidTests := true, laidLooks := .later }
def AsgPointsCardSaid : Prop := Claim7.holds Tryd.pinned (.plain (OpenSpec.ofChange asgPointsSpec)) asgPointsCard

/-- THE TIED CARD OF 'skolemlaw02.AsgSound'. -/
def asgSoundCard : Claim7 := { stood := { row := asgSoundRow, standIns := [], harness := (true, "3205cbd1384a8d384506815bded791b7a126b6d7d6bd95107f657f9f9700cb10"), looks := true }, kinds := [], alts := [], laidByText := true, laidKinds := [.funcs], laidTests := true, laidLooks := .later }
def AsgSoundCardSaid : Prop := Claim7.holds Tryd.pinned (.plain (OpenSpec.ofChange asgSoundSpec)) asgSoundCard

/-- THE TIED CARD OF 'skolemlaw02.AsgOrder'. -/
def asgOrderCard : Claim7 := { stood := { row := asgOrderRow, standIns := [], harness := (true, "3205cbd1384a8d384506815bded791b7a126b6d7d6bd95107f657f9f9700cb10"), looks := true }, kinds := [], alts := [], laidByText := true, laidKinds := [.funcs], laidTests := true, laidLooks := .later }
def AsgOrderCardSaid : Prop := Claim7.holds Tryd.pinned (.plain (OpenSpec.ofChange asgOrderSpec)) asgOrderCard

/-- THE TIED CARD OF 'skolemlaw02.AsgBack'. -/
def asgBackCard : Claim7 := { stood := { row := asgBackRow, standIns := [], harness := (true, "3205cbd1384a8d384506815bded791b7a126b6d7d6bd95107f657f9f9700cb10"), looks := true }, kinds := [], alts := [], laidByText := true, laidKinds := [.funcs], laidTests := true, laidLooks := .later }
def AsgBackCardSaid : Prop := Claim7.holds Tryd.pinned (.plain (OpenSpec.ofChange asgBackSpec)) asgBackCard

/-- THE TIED CARD OF 'skolemlaw02.AsgTwice'. -/
def asgTwiceCard : Claim7 := { stood := { row := asgTwiceRow, standIns := [], harness := (true, "3205cbd1384a8d384506815bded791b7a126b6d7d6bd95107f657f9f9700cb10"), looks := true }, kinds := [], alts := [], laidByText := true, laidKinds := [.funcs], laidTests := true, laidLooks := .later }
def AsgTwiceCardSaid : Prop := Claim7.holds Tryd.pinned (.plain (OpenSpec.ofChange asgTwiceSpec)) asgTwiceCard

/-- THE SECOND FORM's CARD OF 'skolemlaw01.LitsOne'. -/
def litsOneUptoCard : Claim7 := { stood := { row := litsOneUptoRow, standIns := [], harness := (true, "3205cbd1384a8d384506815bded791b7a126b6d7d6bd95107f657f9f9700cb10"), looks := true }, kinds := [], alts := [], laidByText := true, laidKinds := [.data, .data, .data, .funcs], laidTests := true, laidLooks := .later }
def LitsOneUptoCardSaid : Prop := Claim7.holds Tryd.pinned (.plain (OpenSpec.upto litsOneSpec)) litsOneUptoCard

/-- THE SECOND FORM's CARD OF 'skolemlaw01.LitsTwo'. -/
def litsTwoUptoCard : Claim7 := { stood := { row := litsTwoUptoRow, standIns := [], harness := (true, "3205cbd1384a8d384506815bded791b7a126b6d7d6bd95107f657f9f9700cb10"), looks := true }, kinds := [], alts := [], laidByText := true, laidKinds := [.data, .data, .data, .funcs], laidTests := true, laidLooks := .later }
def LitsTwoUptoCardSaid : Prop := Claim7.holds Tryd.pinned (.plain (OpenSpec.upto litsTwoSpec)) litsTwoUptoCard

/-- THE SECOND FORM's CARD OF 'skolemlaw01.LitsMany'. -/
def litsManyUptoCard : Claim7 := { stood := { row := litsManyUptoRow, standIns := [], harness := (true, "3205cbd1384a8d384506815bded791b7a126b6d7d6bd95107f657f9f9700cb10"), looks := true }, kinds := [], alts := [], laidByText := true, laidKinds := [.data, .data, .data, .funcs], laidTests := true, laidLooks := .later }
def LitsManyUptoCardSaid : Prop := Claim7.holds Tryd.pinned (.plain (OpenSpec.upto litsManySpec)) litsManyUptoCard

/-- THE SECOND FORM's CARD OF 'skolemlaw01.LitsLarge'. -/
def litsLargeUptoCard : Claim7 := { stood := { row := litsLargeUptoRow, standIns := [], harness := (true, "3205cbd1384a8d384506815bded791b7a126b6d7d6bd95107f657f9f9700cb10"), looks := true }, kinds := [], alts := [], laidByText := true, laidKinds := [.data, .data, .data, .funcs], laidTests := true, laidLooks := .later }
def LitsLargeUptoCardSaid : Prop := Claim7.holds Tryd.pinned (.plain (OpenSpec.upto litsLargeSpec)) litsLargeUptoCard

/-- THE SECOND FORM's CARD OF 'skolemlaw01.LitsTexts'. -/
def litsTextsUptoCard : Claim7 := { stood := { row := litsTextsUptoRow, standIns := [], harness := (true, "3205cbd1384a8d384506815bded791b7a126b6d7d6bd95107f657f9f9700cb10"), looks := true }, kinds := [], alts := [], laidByText := true, laidKinds := [.data, .data, .data, .funcs], laidTests := true, laidLooks := .later }
def LitsTextsUptoCardSaid : Prop := Claim7.holds Tryd.pinned (.plain (OpenSpec.upto litsTextsSpec)) litsTextsUptoCard

/-- THE SECOND FORM's CARD OF 'skolemlaw01.LitsResolves'. -/
def litsResolvesUptoCard : Claim7 := { stood := { row := litsResolvesUptoRow, standIns := [], harness := (true, "3205cbd1384a8d384506815bded791b7a126b6d7d6bd95107f657f9f9700cb10"), looks := true }, kinds := [], alts := [], laidByText := true, laidKinds := [.data, .data, .data, .funcs], laidTests := true, laidLooks := .later }
def LitsResolvesUptoCardSaid : Prop := Claim7.holds Tryd.pinned (.plain (OpenSpec.upto litsResolvesSpec)) litsResolvesUptoCard

/-- THE SECOND FORM's CARD OF 'skolemlaw01.LitsOrders'. -/
def litsOrdersUptoCard : Claim7 := { stood := { row := litsOrdersUptoRow, standIns := [], harness := (true, "3205cbd1384a8d384506815bded791b7a126b6d7d6bd95107f657f9f9700cb10"), looks := true }, kinds := [], alts := [], laidByText := true, laidKinds := [.data, .data, .data, .funcs], laidTests := true, laidLooks := .later }
def LitsOrdersUptoCardSaid : Prop := Claim7.holds Tryd.pinned (.plain (OpenSpec.upto litsOrdersSpec)) litsOrdersUptoCard

/-- THE SECOND FORM's CARD OF 'skolemlaw01.LitsBack'. -/
def litsBackUptoCard : Claim7 := { stood := { row := litsBackUptoRow, standIns := [], harness := (true, "3205cbd1384a8d384506815bded791b7a126b6d7d6bd95107f657f9f9700cb10"), looks := true }, kinds := [], alts := [], laidByText := true, laidKinds := [.data, .data, .data, .funcs], laidTests := true, laidLooks := .later }
def LitsBackUptoCardSaid : Prop := Claim7.holds Tryd.pinned (.plain (OpenSpec.upto litsBackSpec)) litsBackUptoCard

/-- THE SECOND FORM's CARD OF 'skolemlaw02.AsgValues'. -/
def asgValuesUptoCard : Claim7 := { stood := { row := asgValuesUptoRow, standIns := [], harness := (true, "3205cbd1384a8d384506815bded791b7a126b6d7d6bd95107f657f9f9700cb10"), looks := true }, kinds := [], alts := [], laidByText := true, laidKinds := [.funcs], laidTests := true, laidLooks := .later }
def AsgValuesUptoCardSaid : Prop := Claim7.holds Tryd.pinned (.plain (OpenSpec.upto asgValuesSpec)) asgValuesUptoCard

/-- THE SECOND FORM's CARD OF 'skolemlaw02.AsgUnder'. -/
def asgUnderUptoCard : Claim7 := { stood := { row := asgUnderUptoRow, standIns := [], harness := (true, "3205cbd1384a8d384506815bded791b7a126b6d7d6bd95107f657f9f9700cb10"), looks := true }, kinds := [], alts := [], laidByText := true, laidKinds := [.funcs], laidTests := true, laidLooks := .later }
def AsgUnderUptoCardSaid : Prop := Claim7.holds Tryd.pinned (.plain (OpenSpec.upto asgUnderSpec)) asgUnderUptoCard

/-- THE SECOND FORM's CARD OF 'skolemlaw02.AsgUnits'. -/
def asgUnitsUptoCard : Claim7 := { stood := { row := asgUnitsUptoRow, standIns := [], harness := (true, "3205cbd1384a8d384506815bded791b7a126b6d7d6bd95107f657f9f9700cb10"), looks := true }, kinds := [], alts := [], laidByText := true, laidKinds := [.funcs], laidTests := true, laidLooks := .later }
def AsgUnitsUptoCardSaid : Prop := Claim7.holds Tryd.pinned (.plain (OpenSpec.upto asgUnitsSpec)) asgUnitsUptoCard

/-- THE SECOND FORM's CARD OF 'skolemlaw02.AsgPoints'. -/
def asgPointsUptoCard : Claim7 := { stood := { row := asgPointsUptoRow, standIns := [], harness := (true, "3205cbd1384a8d384506815bded791b7a126b6d7d6bd95107f657f9f9700cb10"), looks := true }, kinds := [], alts := [], laidByText := true, laidKinds := [.funcs], laidTests := true, laidLooks := .later }
def AsgPointsUptoCardSaid : Prop := Claim7.holds Tryd.pinned (.plain (OpenSpec.upto asgPointsSpec)) asgPointsUptoCard

/-- THE SECOND FORM's CARD OF 'skolemlaw02.AsgSound'. -/
def asgSoundUptoCard : Claim7 := { stood := { row := asgSoundUptoRow, standIns := [], harness := (true, "3205cbd1384a8d384506815bded791b7a126b6d7d6bd95107f657f9f9700cb10"), looks := true }, kinds := [], alts := [], laidByText := true, laidKinds := [.funcs], laidTests := true, laidLooks := .later }
def AsgSoundUptoCardSaid : Prop := Claim7.holds Tryd.pinned (.plain (OpenSpec.upto asgSoundSpec)) asgSoundUptoCard

/-- THE SECOND FORM's CARD OF 'skolemlaw02.AsgOrder'. -/
def asgOrderUptoCard : Claim7 := { stood := { row := asgOrderUptoRow, standIns := [], harness := (true, "3205cbd1384a8d384506815bded791b7a126b6d7d6bd95107f657f9f9700cb10"), looks := true }, kinds := [], alts := [], laidByText := true, laidKinds := [.funcs], laidTests := true, laidLooks := .later }
def AsgOrderUptoCardSaid : Prop := Claim7.holds Tryd.pinned (.plain (OpenSpec.upto asgOrderSpec)) asgOrderUptoCard

/-- THE SECOND FORM's CARD OF 'skolemlaw02.AsgBack'. -/
def asgBackUptoCard : Claim7 := { stood := { row := asgBackUptoRow, standIns := [], harness := (true, "3205cbd1384a8d384506815bded791b7a126b6d7d6bd95107f657f9f9700cb10"), looks := true }, kinds := [], alts := [], laidByText := true, laidKinds := [.funcs], laidTests := true, laidLooks := .later }
def AsgBackUptoCardSaid : Prop := Claim7.holds Tryd.pinned (.plain (OpenSpec.upto asgBackSpec)) asgBackUptoCard

/-- THE SECOND FORM's CARD OF 'skolemlaw02.AsgTwice'. -/
def asgTwiceUptoCard : Claim7 := { stood := { row := asgTwiceUptoRow, standIns := [], harness := (true, "3205cbd1384a8d384506815bded791b7a126b6d7d6bd95107f657f9f9700cb10"), looks := true }, kinds := [], alts := [], laidByText := true, laidKinds := [.funcs], laidTests := true, laidLooks := .later }
def AsgTwiceUptoCardSaid : Prop := Claim7.holds Tryd.pinned (.plain (OpenSpec.upto asgTwiceSpec)) asgTwiceUptoCard
end Rows
end Go.Proofs.YtnedpngadfkmiaaDoor
