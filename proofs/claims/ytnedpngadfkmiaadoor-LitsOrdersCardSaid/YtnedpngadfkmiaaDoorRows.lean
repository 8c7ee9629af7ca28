/-
  NARROWER THAN 'FOR EVERY INPUT', by the rows' own cells (each row's printed sentence says how): LitsOne: laid · LitsTwo: laid · LitsMany: laid · LitsLarge: laid · LitsTexts: laid · LitsResolves: laid · LitsOrders: laid · LitsBack: laid · AsgValues: laid · AsgUnder: laid · AsgUnits: laid · AsgPoints: laid · AsgSound: laid · AsgOrder: laid · AsgBack: laid · AsgTwice: laid.
  DERIVED. THE GIVEN ROWS OF THIS SEAT. 16 by the template 'for every input the law returns true; each argument reads behind the call as it read before'; 0 by the template 'total and deterministic' (their statements: YtnedpngadfkmiaaDoorTotals.lean).
  GIVEN WITH THE SEED: the statements are not yours to turn. If you find one false, say at which input.
  Laid BY PROGRAM, IN A SANDBOX (cutbox-rows.mjs): the forced cells as the released guide's own fill.sh prints them over the translation fc9ee06e1d319cd3… (all of the seat's roots in one cut). By AI agents, Wed Nov 11 2026. No macro, syntax, notation, axiom, sorry.
-/
import Derived.Test.YtnedpngadfkmiaaDoorChecked
import GoSem.Claim
import GoSem.ClaimJoined
import GoSem.ClaimMapViews
import Derived.JoinedTies
import Derived.KernelRfl
namespace Go.Proofs.YtnedpngadfkmiaaDoor
/- THE CELL 'sum', in the pinned program and in every row, IS THE sha256 OF THE DUMP (.gsa) THAT YtnedpngadfkmiaaDoorProg.lean LOADS. Nothing in Lean hashes anything: it is a label: what it is worth is what the hold of that sum in a sandbox is worth. -/
noncomputable def Tryd.pinned : Pinned := { name := "ytnedpngadfkmiaadoor", sum := "fc9ee06e1d319cd382cff209d968d706e0a46af2a3ab68606e6beb3b5ed59f04", checked := Tryd.checked }
namespace Rows
def none {H : Type} : Left H := { results := [], args := [] }

/- WHAT THE LISTED PACKAGE-LEVEL VARIABLES READ AS WHEN THE CALL BEGINS. Each datum BY PROGRAM (the guide's laid-datum.mjs) off the statement by which the dump's own 'gosem.cut.vars' lays the variable. In a bare row this is a premise. The card (YtnedpngadfkmiaaDoorCards.lean) ties it to the program's text. -/
def laid_math_bits_deBruijn32tab {H : Type} : DataW H := .agg [.lit (.int .u8 0), .lit (.int .u8 1), .lit (.int .u8 28), .lit (.int .u8 2), .lit (.int .u8 29), .lit (.int .u8 14), .lit (.int .u8 24), .lit (.int .u8 3), .lit (.int .u8 30), .lit (.int .u8 22), .lit (.int .u8 20), .lit (.int .u8 15), .lit (.int .u8 25), .lit (.int .u8 17), .lit (.int .u8 4), .lit (.int .u8 8), .lit (.int .u8 31), .lit (.int .u8 27), .lit (.int .u8 13), .lit (.int .u8 23), .lit (.int .u8 21), .lit (.int .u8 19), .lit (.int .u8 16), .lit (.int .u8 7), .lit (.int .u8 26), .lit (.int .u8 12), .lit (.int .u8 18), .lit (.int .u8 6), .lit (.int .u8 11), .lit (.int .u8 5), .lit (.int .u8 10), .lit (.int .u8 9)]
def laid_math_bits_deBruijn64tab {H : Type} : DataW H := .agg [.lit (.int .u8 0), .lit (.int .u8 1), .lit (.int .u8 56), .lit (.int .u8 2), .lit (.int .u8 57), .lit (.int .u8 49), .lit (.int .u8 28), .lit (.int .u8 3), .lit (.int .u8 61), .lit (.int .u8 58), .lit (.int .u8 42), .lit (.int .u8 50), .lit (.int .u8 38), .lit (.int .u8 29), .lit (.int .u8 17), .lit (.int .u8 4), .lit (.int .u8 62), .lit (.int .u8 47), .lit (.int .u8 59), .lit (.int .u8 36), .lit (.int .u8 45), .lit (.int .u8 43), .lit (.int .u8 51), .lit (.int .u8 22), .lit (.int .u8 53), .lit (.int .u8 39), .lit (.int .u8 33), .lit (.int .u8 30), .lit (.int .u8 24), .lit (.int .u8 18), .lit (.int .u8 12), .lit (.int .u8 5), .lit (.int .u8 63), .lit (.int .u8 55), .lit (.int .u8 48), .lit (.int .u8 27), .lit (.int .u8 60), .lit (.int .u8 41), .lit (.int .u8 37), .lit (.int .u8 16), .lit (.int .u8 46), .lit (.int .u8 35), .lit (.int .u8 44), .lit (.int .u8 21), .lit (.int .u8 52), .lit (.int .u8 32), .lit (.int .u8 23), .lit (.int .u8 11), .lit (.int .u8 54), .lit (.int .u8 26), .lit (.int .u8 40), .lit (.int .u8 15), .lit (.int .u8 34), .lit (.int .u8 20), .lit (.int .u8 31), .lit (.int .u8 10), .lit (.int .u8 25), .lit (.int .u8 14), .lit (.int .u8 19), .lit (.int .u8 9), .lit (.int .u8 13), .lit (.int .u8 8), .lit (.int .u8 7), .lit (.int .u8 6)]
def laid_internal_strconv_uint64pow10 {H : Type} : DataW H := .agg [.lit (.int .u64 1), .lit (.int .u64 10), .lit (.int .u64 100), .lit (.int .u64 1000), .lit (.int .u64 10000), .lit (.int .u64 100000), .lit (.int .u64 1000000), .lit (.int .u64 10000000), .lit (.int .u64 100000000), .lit (.int .u64 1000000000), .lit (.int .u64 10000000000), .lit (.int .u64 100000000000), .lit (.int .u64 1000000000000), .lit (.int .u64 10000000000000), .lit (.int .u64 100000000000000), .lit (.int .u64 1000000000000000), .lit (.int .u64 10000000000000000), .lit (.int .u64 100000000000000000), .lit (.int .u64 1000000000000000000), .lit (.int .u64 10000000000000000000)]
def laid_skolem_skolemlaw01_same {H : Type} : DataW H := .iface "func table" (.iface "func" (.lit (.string [115, 107, 111, 108, 101, 109, 47, 115, 107, 111, 108, 101, 109, 114, 101, 102, 48, 49, 46, 83, 97, 109, 101])))
def laid_skolem_skolemlaw02_same {H : Type} : DataW H := .iface "func table" (.iface "func" (.lit (.string [115, 107, 111, 108, 101, 109, 47, 115, 107, 111, 108, 101, 109, 114, 101, 102, 48, 49, 46, 83, 97, 109, 101])))

/-- 'skolemlaw01.LitsOne': WHATEVER THE INPUT: true; the input reads as it did. -/
def litsOneSpec : ChangeSpec := { name := "litsOne", fn := fun _ => fun
  | [d1, d2, d3] => { results := [.lit (.bool true)], args := [d1, d2, d3] }
  | _ => none }
def litsOneRow : OpenClaim := { program := "ytnedpngadfkmiaadoor", sum := "fc9ee06e1d319cd382cff209d968d706e0a46af2a3ab68606e6beb3b5ed59f04", func := "skolem/skolemlaw01.LitsOne", spec := "litsOne", unfollowed := true, recurses := true, named := ["skolem/skolemlaw01.same", "internal/strconv.uint64pow10", "math/bits.deBruijn32tab", "math/bits.deBruijn64tab"], apart := false, laid := [("math/bits.deBruijn32tab", laid_math_bits_deBruijn32tab), ("math/bits.deBruijn64tab", laid_math_bits_deBruijn64tab), ("internal/strconv.uint64pow10", laid_internal_strconv_uint64pow10), ("skolem/skolemlaw01.same", laid_skolem_skolemlaw01_same)] }
def LitsOneSaid : Prop := litsOneRow.holds Tryd.pinned (OpenSpec.ofChange litsOneSpec)

/-- ITS FALSE NEIGHBOUR: 'it returns false'. Refute it at one input. -/
def litsOneWrong : ChangeSpec := { name := "litsOne", fn := fun _ => fun
  | [d1, d2, d3] => { results := [.lit (.bool false)], args := [d1, d2, d3] }
  | _ => none }
def LitsOneWrongFalsely : Prop := litsOneRow.holds Tryd.pinned (OpenSpec.ofChange litsOneWrong)

/-- 'skolemlaw01.LitsTwo': WHATEVER THE INPUT: true; the input reads as it did. -/
def litsTwoSpec : ChangeSpec := { name := "litsTwo", fn := fun _ => fun
  | [d1, d2, d3] => { results := [.lit (.bool true)], args := [d1, d2, d3] }
  | _ => none }
def litsTwoRow : OpenClaim := { program := "ytnedpngadfkmiaadoor", sum := "fc9ee06e1d319cd382cff209d968d706e0a46af2a3ab68606e6beb3b5ed59f04", func := "skolem/skolemlaw01.LitsTwo", spec := "litsTwo", unfollowed := true, recurses := true, named := ["skolem/skolemlaw01.same", "internal/strconv.uint64pow10", "math/bits.deBruijn32tab", "math/bits.deBruijn64tab"], apart := false, laid := [("math/bits.deBruijn32tab", laid_math_bits_deBruijn32tab), ("math/bits.deBruijn64tab", laid_math_bits_deBruijn64tab), ("internal/strconv.uint64pow10", laid_internal_strconv_uint64pow10), ("skolem/skolemlaw01.same", laid_skolem_skolemlaw01_same)] }
def LitsTwoSaid : Prop := litsTwoRow.holds Tryd.pinned (OpenSpec.ofChange litsTwoSpec)

/-- ITS FALSE NEIGHBOUR: 'it returns false'. Refute it at one input. -/
def litsTwoWrong : ChangeSpec := { name := "litsTwo", fn := fun _ => fun
  | [d1, d2, d3] => { results := [.lit (.bool false)], args := [d1, d2, d3] }
  | _ => none }
def LitsTwoWrongFalsely : Prop := litsTwoRow.holds Tryd.pinned (OpenSpec.ofChange litsTwoWrong)

/-- 'skolemlaw01.LitsMany': WHATEVER THE INPUT: true; the input reads as it did. -/
def litsManySpec : ChangeSpec := { name := "litsMany", fn := fun _ => fun
  | [d] => { results := [.lit (.bool true)], args := [d] }
  | _ => none }
def litsManyRow : OpenClaim := { program := "ytnedpngadfkmiaadoor", sum := "fc9ee06e1d319cd382cff209d968d706e0a46af2a3ab68606e6beb3b5ed59f04", func := "skolem/skolemlaw01.LitsMany", spec := "litsMany", unfollowed := true, recurses := true, named := ["skolem/skolemlaw01.same", "internal/strconv.uint64pow10", "math/bits.deBruijn32tab", "math/bits.deBruijn64tab"], apart := false, laid := [("math/bits.deBruijn32tab", laid_math_bits_deBruijn32tab), ("math/bits.deBruijn64tab", laid_math_bits_deBruijn64tab), ("internal/strconv.uint64pow10", laid_internal_strconv_uint64pow10), ("skolem/skolemlaw01.same", laid_skolem_skolemlaw01_same)] }
def LitsManySaid : Prop := litsManyRow.holds Tryd.pinned (OpenSpec.ofChange litsManySpec)

/-- ITS FALSE NEIGHBOUR: 'it returns false'. Refute it at one input. -/
def litsManyWrong : ChangeSpec := { name := "litsMany", fn := fun _ => fun
  | [d] => { results := [.lit (.bool false)], args := [d] }
  | _ => none }
def LitsManyWrongFalsely : Prop := litsManyRow.holds Tryd.pinned (OpenSpec.ofChange litsManyWrong)

/-- 'skolemlaw01.LitsLarge': WHATEVER THE INPUT: true; the input reads as it did. -/
def litsLargeSpec : ChangeSpec := { name := "litsLarge", fn := fun _ => fun
  | [d1, d2, d3] => { results := [.lit (.bool true)], args := [d1, d2, d3] }
  | _ => none }
def litsLargeRow : OpenClaim := { program := "ytnedpngadfkmiaadoor", sum := "fc9ee06e1d319cd382cff209d968d706e0a46af2a3ab68606e6beb3b5ed59f04", func := "skolem/skolemlaw01.LitsLarge", spec := "litsLarge", unfollowed := true, recurses := true, named := ["skolem/skolemlaw01.same", "internal/strconv.uint64pow10", "math/bits.deBruijn32tab", "math/bits.deBruijn64tab"], apart := false, laid := [("math/bits.deBruijn32tab", laid_math_bits_deBruijn32tab), ("math/bits.deBruijn64tab", laid_math_bits_deBruijn64tab), ("internal/strconv.uint64pow10", laid_internal_strconv_uint64pow10), ("skolem/skolemlaw01.same", laid_skolem_skolemlaw01_same)] }
def LitsLargeSaid : Prop := litsLargeRow.holds Tryd.pinned (OpenSpec.ofChange litsLargeSpec)

/-- ITS FALSE NEIGHBOUR: 'it returns false'. Refute it at one input. -/
def litsLargeWrong : ChangeSpec := { name := "litsLarge", fn := fun _ => fun
  | [d1, d2, d3] => { results := [.lit (.bool false)], args := [d1, d2, d3] }
  | _ => none }
def LitsLargeWrongFalsely : Prop := litsLargeRow.holds Tryd.pinned (OpenSpec.ofChange litsLargeWrong)

/-- 'skolemlaw01.LitsTexts': WHATEVER THE INPUT: true; the input reads as it did. -/
def litsTextsSpec : ChangeSpec := { name := "litsTexts", fn := fun _ => fun
  | [d1, d2] => { results := [.lit (.bool true)], args := [d1, d2] }
  | _ => none }
def litsTextsRow : OpenClaim := { program := "ytnedpngadfkmiaadoor", sum := "fc9ee06e1d319cd382cff209d968d706e0a46af2a3ab68606e6beb3b5ed59f04", func := "skolem/skolemlaw01.LitsTexts", spec := "litsTexts", unfollowed := true, recurses := true, named := ["skolem/skolemlaw01.same", "internal/strconv.uint64pow10", "math/bits.deBruijn32tab", "math/bits.deBruijn64tab"], apart := false, laid := [("math/bits.deBruijn32tab", laid_math_bits_deBruijn32tab), ("math/bits.deBruijn64tab", laid_math_bits_deBruijn64tab), ("internal/strconv.uint64pow10", laid_internal_strconv_uint64pow10), ("skolem/skolemlaw01.same", laid_skolem_skolemlaw01_same)] }
def LitsTextsSaid : Prop := litsTextsRow.holds Tryd.pinned (OpenSpec.ofChange litsTextsSpec)

/-- ITS FALSE NEIGHBOUR: 'it returns false'. Refute it at one input. -/
def litsTextsWrong : ChangeSpec := { name := "litsTexts", fn := fun _ => fun
  | [d1, d2] => { results := [.lit (.bool false)], args := [d1, d2] }
  | _ => none }
def LitsTextsWrongFalsely : Prop := litsTextsRow.holds Tryd.pinned (OpenSpec.ofChange litsTextsWrong)

/-- 'skolemlaw01.LitsResolves': WHATEVER THE INPUT: true; the input reads as it did. -/
def litsResolvesSpec : ChangeSpec := { name := "litsResolves", fn := fun _ => fun
  | [d1, d2, d3, d4] => { results := [.lit (.bool true)], args := [d1, d2, d3, d4] }
  | _ => none }
def litsResolvesRow : OpenClaim := { program := "ytnedpngadfkmiaadoor", sum := "fc9ee06e1d319cd382cff209d968d706e0a46af2a3ab68606e6beb3b5ed59f04", func := "skolem/skolemlaw01.LitsResolves", spec := "litsResolves", unfollowed := true, recurses := true, named := ["skolem/skolemlaw01.same", "internal/strconv.uint64pow10", "math/bits.deBruijn32tab", "math/bits.deBruijn64tab"], apart := false, laid := [("math/bits.deBruijn32tab", laid_math_bits_deBruijn32tab), ("math/bits.deBruijn64tab", laid_math_bits_deBruijn64tab), ("internal/strconv.uint64pow10", laid_internal_strconv_uint64pow10), ("skolem/skolemlaw01.same", laid_skolem_skolemlaw01_same)] }
def LitsResolvesSaid : Prop := litsResolvesRow.holds Tryd.pinned (OpenSpec.ofChange litsResolvesSpec)

/-- ITS FALSE NEIGHBOUR: 'it returns false'. Refute it at one input. -/
def litsResolvesWrong : ChangeSpec := { name := "litsResolves", fn := fun _ => fun
  | [d1, d2, d3, d4] => { results := [.lit (.bool false)], args := [d1, d2, d3, d4] }
  | _ => none }
def LitsResolvesWrongFalsely : Prop := litsResolvesRow.holds Tryd.pinned (OpenSpec.ofChange litsResolvesWrong)

/-- 'skolemlaw01.LitsOrders': WHATEVER THE INPUT: true; the input reads as it did. -/
def litsOrdersSpec : ChangeSpec := { name := "litsOrders", fn := fun _ => fun
  | [d1, d2, d3] => { results := [.lit (.bool true)], args := [d1, d2, d3] }
  | _ => none }
def litsOrdersRow : OpenClaim := { program := "ytnedpngadfkmiaadoor", sum := "fc9ee06e1d319cd382cff209d968d706e0a46af2a3ab68606e6beb3b5ed59f04", func := "skolem/skolemlaw01.LitsOrders", spec := "litsOrders", unfollowed := true, recurses := true, named := ["skolem/skolemlaw01.same", "internal/strconv.uint64pow10", "math/bits.deBruijn32tab", "math/bits.deBruijn64tab"], apart := false, laid := [("math/bits.deBruijn32tab", laid_math_bits_deBruijn32tab), ("math/bits.deBruijn64tab", laid_math_bits_deBruijn64tab), ("internal/strconv.uint64pow10", laid_internal_strconv_uint64pow10), ("skolem/skolemlaw01.same", laid_skolem_skolemlaw01_same)] }
def LitsOrdersSaid : Prop := litsOrdersRow.holds Tryd.pinned (OpenSpec.ofChange litsOrdersSpec)

/-- ITS FALSE NEIGHBOUR: 'it returns false'. Refute it at one input. -/
def litsOrdersWrong : ChangeSpec := { name := "litsOrders", fn := fun _ => fun
  | [d1, d2, d3] => { results := [.lit (.bool false)], args := [d1, d2, d3] }
  | _ => none }
def LitsOrdersWrongFalsely : Prop := litsOrdersRow.holds Tryd.pinned (OpenSpec.ofChange litsOrdersWrong)

/-- 'skolemlaw01.LitsBack': WHATEVER THE INPUT: true; the input reads as it did. -/
def litsBackSpec : ChangeSpec := { name := "litsBack", fn := fun _ => fun
  | [d1, d2] => { results := [.lit (.bool true)], args := [d1, d2] }
  | _ => none }
def litsBackRow : OpenClaim := { program := "ytnedpngadfkmiaadoor", sum := "fc9ee06e1d319cd382cff209d968d706e0a46af2a3ab68606e6beb3b5ed59f04", func := "skolem/skolemlaw01.LitsBack", spec := "litsBack", unfollowed := true, recurses := true, named := ["skolem/skolemlaw01.same", "internal/strconv.uint64pow10", "math/bits.deBruijn32tab", "math/bits.deBruijn64tab"], apart := false, laid := [("math/bits.deBruijn32tab", laid_math_bits_deBruijn32tab), ("math/bits.deBruijn64tab", laid_math_bits_deBruijn64tab), ("internal/strconv.uint64pow10", laid_internal_strconv_uint64pow10), ("skolem/skolemlaw01.same", laid_skolem_skolemlaw01_same)] }
def LitsBackSaid : Prop := litsBackRow.holds Tryd.pinned (OpenSpec.ofChange litsBackSpec)

/-- ITS FALSE NEIGHBOUR: 'it returns false'. Refute it at one input. -/
def litsBackWrong : ChangeSpec := { name := "litsBack", fn := fun _ => fun
  | [d1, d2] => { results := [.lit (.bool false)], args := [d1, d2] }
  | _ => none }
def LitsBackWrongFalsely : Prop := litsBackRow.holds Tryd.pinned (OpenSpec.ofChange litsBackWrong)

/-- 'skolemlaw02.AsgValues': WHATEVER THE INPUT: true; the input reads as it did. -/
def asgValuesSpec : ChangeSpec := { name := "asgValues", fn := fun _ => fun
  | [d1, d2, d3] => { results := [.lit (.bool true)], args := [d1, d2, d3] }
  | _ => none }
def asgValuesRow : OpenClaim := { program := "ytnedpngadfkmiaadoor", sum := "fc9ee06e1d319cd382cff209d968d706e0a46af2a3ab68606e6beb3b5ed59f04", func := "skolem/skolemlaw02.AsgValues", spec := "asgValues", unfollowed := true, recurses := true, named := ["skolem/skolemlaw02.same"], apart := false, laid := [("skolem/skolemlaw02.same", laid_skolem_skolemlaw02_same)] }
def AsgValuesSaid : Prop := asgValuesRow.holds Tryd.pinned (OpenSpec.ofChange asgValuesSpec)

/-- ITS FALSE NEIGHBOUR: 'it returns false'. Refute it at one input. -/
def asgValuesWrong : ChangeSpec := { name := "asgValues", fn := fun _ => fun
  | [d1, d2, d3] => { results := [.lit (.bool false)], args := [d1, d2, d3] }
  | _ => none }
def AsgValuesWrongFalsely : Prop := asgValuesRow.holds Tryd.pinned (OpenSpec.ofChange asgValuesWrong)

/-- 'skolemlaw02.AsgUnder': WHATEVER THE INPUT: true; the input reads as it did. -/
def asgUnderSpec : ChangeSpec := { name := "asgUnder", fn := fun _ => fun
  | [d1, d2] => { results := [.lit (.bool true)], args := [d1, d2] }
  | _ => none }
def asgUnderRow : OpenClaim := { program := "ytnedpngadfkmiaadoor", sum := "fc9ee06e1d319cd382cff209d968d706e0a46af2a3ab68606e6beb3b5ed59f04", func := "skolem/skolemlaw02.AsgUnder", spec := "asgUnder", unfollowed := true, recurses := true, named := ["skolem/skolemlaw02.same"], apart := false, laid := [("skolem/skolemlaw02.same", laid_skolem_skolemlaw02_same)] }
def AsgUnderSaid : Prop := asgUnderRow.holds Tryd.pinned (OpenSpec.ofChange asgUnderSpec)

/-- ITS FALSE NEIGHBOUR: 'it returns false'. Refute it at one input. -/
def asgUnderWrong : ChangeSpec := { name := "asgUnder", fn := fun _ => fun
  | [d1, d2] => { results := [.lit (.bool false)], args := [d1, d2] }
  | _ => none }
def AsgUnderWrongFalsely : Prop := asgUnderRow.holds Tryd.pinned (OpenSpec.ofChange asgUnderWrong)

/-- 'skolemlaw02.AsgUnits': WHATEVER THE INPUT: true; the input reads as it did. -/
def asgUnitsSpec : ChangeSpec := { name := "asgUnits", fn := fun _ => fun
  | [d1, d2] => { results := [.lit (.bool true)], args := [d1, d2] }
  | _ => none }
def asgUnitsRow : OpenClaim := { program := "ytnedpngadfkmiaadoor", sum := "fc9ee06e1d319cd382cff209d968d706e0a46af2a3ab68606e6beb3b5ed59f04", func := "skolem/skolemlaw02.AsgUnits", spec := "asgUnits", unfollowed := true, recurses := true, named := ["skolem/skolemlaw02.same"], apart := false, laid := [("skolem/skolemlaw02.same", laid_skolem_skolemlaw02_same)] }
def AsgUnitsSaid : Prop := asgUnitsRow.holds Tryd.pinned (OpenSpec.ofChange asgUnitsSpec)

/-- ITS FALSE NEIGHBOUR: 'it returns false'. Refute it at one input. -/
def asgUnitsWrong : ChangeSpec := { name := "asgUnits", fn := fun _ => fun
  | [d1, d2] => { results := [.lit (.bool false)], args := [d1, d2] }
  | _ => none }
def AsgUnitsWrongFalsely : Prop := asgUnitsRow.holds Tryd.pinned (OpenSpec.ofChange asgUnitsWrong)

/-- 'skolemlaw02.AsgPoints': WHATEVER THE INPUT: true; the input reads as it did. -/
def asgPointsSpec : ChangeSpec := { name := "asgPoints", fn := fun _ => fun
  | [d1, d2, d3] => { results := [.lit (.bool true)], args := [d1, d2, d3] }
  | _ => none }
def asgPointsRow : OpenClaim := { program := "ytnedpngadfkmiaadoor", sum := "fc9ee06e1d319cd382cff209d968d706e0a46af2a3ab68606e6beb3b5ed59f04", func := "skolem/skolemlaw02.AsgPoints", spec := "asgPoints", unfollowed := true, recurses := true, named := ["skolem/skolemlaw02.same"], apart := false, laid := [("skolem/skolemlaw02.same", laid_skolem_skolemlaw02_same)] }
def AsgPointsSaid : Prop := asgPointsRow.holds Tryd.pinned (OpenSpec.ofChange asgPointsSpec)

/-- ITS FALSE NEIGHBOUR: 'it returns false'. Refute it at one input. -/
def asgPointsWrong : ChangeSpec := { name := "asgPoints", fn := fun _ => fun
  | [d1, d2, d3] => { results := [.lit (.bool false)], args := [d1, d2, d3] }
  | _ => none }
def AsgPointsWrongFalsely : Prop := asgPointsRow.holds Tryd.pinned (OpenSpec.ofChange asgPointsWrong)

/-- 'skolemlaw02.AsgSound': WHATEVER THE INPUT: true; the input reads as it did. -/
def asgSoundSpec : ChangeSpec := { name := "asgSound", fn := fun _ => fun
  | [d1, d2] => { results := [.lit (.bool true)], args := [d1, d2] }
  | _ => none }
def asgSoundRow : OpenClaim := { program := "ytnedpngadfkmiaadoor", sum := "fc9ee06e1d319cd382cff209d968d706e0a46af2a3ab68606e6beb3b5ed59f04", func := "skolem/skolemlaw02.AsgSound", spec := "asgSound", unfollowed := true, recurses := true, named := ["skolem/skolemlaw02.same"], apart := false, laid := [("skolem/skolemlaw02.same", laid_skolem_skolemlaw02_same)] }
def AsgSoundSaid : Prop := asgSoundRow.holds Tryd.pinned (OpenSpec.ofChange asgSoundSpec)

/-- ITS FALSE NEIGHBOUR: 'it returns false'. Refute it at one input. -/
def asgSoundWrong : ChangeSpec := { name := "asgSound", fn := fun _ => fun
  | [d1, d2] => { results := [.lit (.bool false)], args := [d1, d2] }
  | _ => none }
def AsgSoundWrongFalsely : Prop := asgSoundRow.holds Tryd.pinned (OpenSpec.ofChange asgSoundWrong)

/-- 'skolemlaw02.AsgOrder': WHATEVER THE INPUT: true; the input reads as it did. -/
def asgOrderSpec : ChangeSpec := { name := "asgOrder", fn := fun _ => fun
  | [d1, d2, d3] => { results := [.lit (.bool true)], args := [d1, d2, d3] }
  | _ => none }
def asgOrderRow : OpenClaim := { program := "ytnedpngadfkmiaadoor", sum := "fc9ee06e1d319cd382cff209d968d706e0a46af2a3ab68606e6beb3b5ed59f04", func := "skolem/skolemlaw02.AsgOrder", spec := "asgOrder", unfollowed := true, recurses := true, named := ["skolem/skolemlaw02.same"], apart := false, laid := [("skolem/skolemlaw02.same", laid_skolem_skolemlaw02_same)] }
def AsgOrderSaid : Prop := asgOrderRow.holds Tryd.pinned (OpenSpec.ofChange asgOrderSpec)

/-- ITS FALSE NEIGHBOUR: 'it returns false'. Refute it at one input. -/
def asgOrderWrong : ChangeSpec := { name := "asgOrder", fn := fun _ => fun
  | [d1, d2, d3] => { results := [.lit (.bool false)], args := [d1, d2, d3] }
  | _ => none }
def AsgOrderWrongFalsely : Prop := asgOrderRow.holds Tryd.pinned (OpenSpec.ofChange asgOrderWrong)

/-- 'skolemlaw02.AsgBack': WHATEVER THE INPUT: true; the input reads as it did. -/
def asgBackSpec : ChangeSpec := { name := "asgBack", fn := fun _ => fun
  | [d1, d2, d3, d4] => { results := [.lit (.bool true)], args := [d1, d2, d3, d4] }
  | _ => none }
def asgBackRow : OpenClaim := { program := "ytnedpngadfkmiaadoor", sum := "fc9ee06e1d319cd382cff209d968d706e0a46af2a3ab68606e6beb3b5ed59f04", func := "skolem/skolemlaw02.AsgBack", spec := "asgBack", unfollowed := true, recurses := true, named := ["skolem/skolemlaw02.same"], apart := false, laid := [("skolem/skolemlaw02.same", laid_skolem_skolemlaw02_same)] }
def AsgBackSaid : Prop := asgBackRow.holds Tryd.pinned (OpenSpec.ofChange asgBackSpec)

/-- ITS FALSE NEIGHBOUR: 'it returns false'. Refute it at one input. -/
def asgBackWrong : ChangeSpec := { name := "asgBack", fn := fun _ => fun
  | [d1, d2, d3, d4] => { results := [.lit (.bool false)], args := [d1, d2, d3, d4] }
  | _ => none }
def AsgBackWrongFalsely : Prop := asgBackRow.holds Tryd.pinned (OpenSpec.ofChange asgBackWrong)

/-- 'skolemlaw02.AsgTwice': WHATEVER THE INPUT: true; the input reads as it did. -/
def asgTwiceSpec : ChangeSpec := { name := "asgTwice", fn := fun _ => fun
  | [d1, d2, d3] => { results := [.lit (.bool true)], args := [d1, d2, d3] }
  | _ => none }
def asgTwiceRow : OpenClaim := { program := "ytnedpngadfkmiaadoor", sum := "fc9ee06e1d319cd382cff209d968d706e0a46af2a3ab68606e6beb3b5ed59f04", func := "skolem/skolemlaw02.AsgTwice", spec := "asgTwice", unfollowed := true, recurses := true, named := ["skolem/skolemlaw02.same"], apart := false, laid := [("skolem/skolemlaw02.same", laid_skolem_skolemlaw02_same)] }
def AsgTwiceSaid : Prop := asgTwiceRow.holds Tryd.pinned (OpenSpec.ofChange asgTwiceSpec)

/-- ITS FALSE NEIGHBOUR: 'it returns false'. Refute it at one input. -/
def asgTwiceWrong : ChangeSpec := { name := "asgTwice", fn := fun _ => fun
  | [d1, d2, d3] => { results := [.lit (.bool false)], args := [d1, d2, d3] }
  | _ => none }
def AsgTwiceWrongFalsely : Prop := asgTwiceRow.holds Tryd.pinned (OpenSpec.ofChange asgTwiceWrong)

/- THE SECOND FORM. 'bulk': how many values and letters a reading holds, each counted each time it is reached (what is shared counts as often as it is met; a slice's spare places count too). A statement '..UptoSaid' is the law's where the arguments, and the package variables that the reading takes, are together of bulk at most 1048576: NARROWER than '..Said'. Prove '..Said' where nothing that the law and all that it calls make is longer than what came in: it says more and counts as full. Else prove '..UptoSaid'. A law counts once. -/
mutual
def uptoBulk {H : Type} : DataW H → Nat
  | .lit (.string bytes) => bytes.length + 1
  | .lit _ => 1
  | .nil => 1
  | .ptr d => uptoBulk d + 1
  | .slice elems spare => uptoBulkAll elems + uptoBulkAll spare + 1
  | .agg parts => uptoBulkAll parts + 1
  | .iface _ d => uptoBulk d + 1
  | .map entries => uptoBulkEntries entries + 1
  | .held _ => 1
def uptoBulkAll {H : Type} : List (DataW H) → Nat
  | [] => 0
  | d :: r => uptoBulk d + uptoBulkAll r
def uptoBulkEntries {H : Type} : List (Lit × DataW H) → Nat
  | [] => 0
  | x :: r => uptoBulkEntry x + uptoBulkEntries r
def uptoBulkEntry {H : Type} : Lit × DataW H → Nat
  | (.string bytes, d) => bytes.length + uptoBulk d + 1
  | (_, d) => uptoBulk d + 1
 end
def uptoSmall : (H : Type) → List (DataW H) → Bool := fun _ ds => decide (uptoBulkAll ds ≤ 1048576)
def OpenSpec.upto (s : _root_.Go.ChangeSpec) : _root_.Go.OpenSpec := { _root_.Go.OpenSpec.ofChange s with cond := some uptoSmall }

/-- 'skolemlaw01.LitsOne', WHERE WHAT IT READS IS OF BULK AT MOST 1048576: true; the input reads as it did. -/
def litsOneUptoRow : OpenClaim := { program := "ytnedpngadfkmiaadoor", sum := "fc9ee06e1d319cd382cff209d968d706e0a46af2a3ab68606e6beb3b5ed59f04", func := "skolem/skolemlaw01.LitsOne", spec := "litsOne", unfollowed := true, recurses := true, named := ["skolem/skolemlaw01.same", "internal/strconv.uint64pow10", "math/bits.deBruijn32tab", "math/bits.deBruijn64tab"], apart := false, laid := [("math/bits.deBruijn32tab", laid_math_bits_deBruijn32tab), ("math/bits.deBruijn64tab", laid_math_bits_deBruijn64tab), ("internal/strconv.uint64pow10", laid_internal_strconv_uint64pow10), ("skolem/skolemlaw01.same", laid_skolem_skolemlaw01_same)], narrowed := true }
def LitsOneUptoSaid : Prop := litsOneUptoRow.holds Tryd.pinned (OpenSpec.upto litsOneSpec)

/-- 'skolemlaw01.LitsTwo', WHERE WHAT IT READS IS OF BULK AT MOST 1048576: true; the input reads as it did. -/
def litsTwoUptoRow : OpenClaim := { program := "ytnedpngadfkmiaadoor", sum := "fc9ee06e1d319cd382cff209d968d706e0a46af2a3ab68606e6beb3b5ed59f04", func := "skolem/skolemlaw01.LitsTwo", spec := "litsTwo", unfollowed := true, recurses := true, named := ["skolem/skolemlaw01.same", "internal/strconv.uint64pow10", "math/bits.deBruijn32tab", "math/bits.deBruijn64tab"], apart := false, laid := [("math/bits.deBruijn32tab", laid_math_bits_deBruijn32tab), ("math/bits.deBruijn64tab", laid_math_bits_deBruijn64tab), ("internal/strconv.uint64pow10", laid_internal_strconv_uint64pow10), ("skolem/skolemlaw01.same", laid_skolem_skolemlaw01_same)], narrowed := true }
def LitsTwoUptoSaid : Prop := litsTwoUptoRow.holds Tryd.pinned (OpenSpec.upto litsTwoSpec)

/-- 'skolemlaw01.LitsMany', WHERE WHAT IT READS IS OF BULK AT MOST 1048576: true; the input reads as it did. -/
def litsManyUptoRow : OpenClaim := { program := "ytnedpngadfkmiaadoor", sum := "fc9ee06e1d319cd382cff209d968d706e0a46af2a3ab68606e6beb3b5ed59f04", func := "skolem/skolemlaw01.LitsMany", spec := "litsMany", unfollowed := true, recurses := true, named := ["skolem/skolemlaw01.same", "internal/strconv.uint64pow10", "math/bits.deBruijn32tab", "math/bits.deBruijn64tab"], apart := false, laid := [("math/bits.deBruijn32tab", laid_math_bits_deBruijn32tab), ("math/bits.deBruijn64tab", laid_math_bits_deBruijn64tab), ("internal/strconv.uint64pow10", laid_internal_strconv_uint64pow10), ("skolem/skolemlaw01.same", laid_skolem_skolemlaw01_same)], narrowed := true }
def LitsManyUptoSaid : Prop := litsManyUptoRow.holds Tryd.pinned (OpenSpec.upto litsManySpec)

/-- 'skolemlaw01.LitsLarge', WHERE WHAT IT READS IS OF BULK AT MOST 1048576: true; the input reads as it did. -/
def litsLargeUptoRow : OpenClaim := { program := "ytnedpngadfkmiaadoor", sum := "fc9ee06e1d319cd382cff209d968d706e0a46af2a3ab68606e6beb3b5ed59f04", func := "skolem/skolemlaw01.LitsLarge", spec := "litsLarge", unfollowed := true, recurses := true, named := ["skolem/skolemlaw01.same", "internal/strconv.uint64pow10", "math/bits.deBruijn32tab", "math/bits.deBruijn64tab"], apart := false, laid := [("math/bits.deBruijn32tab", laid_math_bits_deBruijn32tab), ("math/bits.deBruijn64tab", laid_math_bits_deBruijn64tab), ("internal/strconv.uint64pow10", laid_internal_strconv_uint64pow10), ("skolem/skolemlaw01.same", laid_skolem_skolemlaw01_same)], narrowed := true }
def LitsLargeUptoSaid : Prop := litsLargeUptoRow.holds Tryd.pinned (OpenSpec.upto litsLargeSpec)

/-- 'skolemlaw01.LitsTexts', WHERE WHAT IT READS IS OF BULK AT MOST 1048576: true; the input reads as it did. -/
def litsTextsUptoRow : OpenClaim := { program := "ytnedpngadfkmiaadoor", sum := "fc9ee06e1d319cd382cff209d968d706e0a46af2a3ab68606e6beb3b5ed59f04", func := "skolem/skolemlaw01.LitsTexts", spec := "litsTexts", unfollowed := true, recurses := true, named := ["skolem/skolemlaw01.same", "internal/strconv.uint64pow10", "math/bits.deBruijn32tab", "math/bits.deBruijn64tab"], apart := false, laid := [("math/bits.deBruijn32tab", laid_math_bits_deBruijn32tab), ("math/bits.deBruijn64tab", laid_math_bits_deBruijn64tab), ("internal/strconv.uint64pow10", laid_internal_strconv_uint64pow10), ("skolem/skolemlaw01.same", laid_skolem_skolemlaw01_same)], narrowed := true }
def LitsTextsUptoSaid : Prop := litsTextsUptoRow.holds Tryd.pinned (OpenSpec.upto litsTextsSpec)

/-- 'skolemlaw01.LitsResolves', WHERE WHAT IT READS IS OF BULK AT MOST 1048576: true; the input reads as it did. -/
def litsResolvesUptoRow : OpenClaim := { program := "ytnedpngadfkmiaadoor", sum := "fc9ee06e1d319cd382cff209d968d706e0a46af2a3ab68606e6beb3b5ed59f04", func := "skolem/skolemlaw01.LitsResolves", spec := "litsResolves", unfollowed := true, recurses := true, named := ["skolem/skolemlaw01.same", "internal/strconv.uint64pow10", "math/bits.deBruijn32tab", "math/bits.deBruijn64tab"], apart := false, laid := [("math/bits.deBruijn32tab", laid_math_bits_deBruijn32tab), ("math/bits.deBruijn64tab", laid_math_bits_deBruijn64tab), ("internal/strconv.uint64pow10", laid_internal_strconv_uint64pow10), ("skolem/skolemlaw01.same", laid_skolem_skolemlaw01_same)], narrowed := true }
def LitsResolvesUptoSaid : Prop := litsResolvesUptoRow.holds Tryd.pinned (OpenSpec.upto litsResolvesSpec)

/-- 'skolemlaw01.LitsOrders', WHERE WHAT IT READS IS OF BULK AT MOST 1048576: true; the input reads as it did. -/
def litsOrdersUptoRow : OpenClaim := { program := "ytnedpngadfkmiaadoor", sum := "fc9ee06e1d319cd382cff209d968d706e0a46af2a3ab68606e6beb3b5ed59f04", func := "skolem/skolemlaw01.LitsOrders", spec := "litsOrders", unfollowed := true, recurses := true, named := ["skolem/skolemlaw01.same", "internal/strconv.uint64pow10", "math/bits.deBruijn32tab", "math/bits.deBruijn64tab"], apart := false, laid := [("math/bits.deBruijn32tab", laid_math_bits_deBruijn32tab), ("math/bits.deBruijn64tab", laid_math_bits_deBruijn64tab), ("internal/strconv.uint64pow10", laid_internal_strconv_uint64pow10), ("skolem/skolemlaw01.same", laid_skolem_skolemlaw01_same)], narrowed := true }
def LitsOrdersUptoSaid : Prop := litsOrdersUptoRow.holds Tryd.pinned (OpenSpec.upto litsOrdersSpec)

/-- 'skolemlaw01.LitsBack', WHERE WHAT IT READS IS OF BULK AT MOST 1048576: true; the input reads as it did. -/
def litsBackUptoRow : OpenClaim := { program := "ytnedpngadfkmiaadoor", sum := "fc9ee06e1d319cd382cff209d968d706e0a46af2a3ab68606e6beb3b5ed59f04", func := "skolem/skolemlaw01.LitsBack", spec := "litsBack", unfollowed := true, recurses := true, named := ["skolem/skolemlaw01.same", "internal/strconv.uint64pow10", "math/bits.deBruijn32tab", "math/bits.deBruijn64tab"], apart := false, laid := [("math/bits.deBruijn32tab", laid_math_bits_deBruijn32tab), ("math/bits.deBruijn64tab", laid_math_bits_deBruijn64tab), ("internal/strconv.uint64pow10", laid_internal_strconv_uint64pow10), ("skolem/skolemlaw01.same", laid_skolem_skolemlaw01_same)], narrowed := true }
def LitsBackUptoSaid : Prop := litsBackUptoRow.holds Tryd.pinned (OpenSpec.upto litsBackSpec)

/-- 'skolemlaw02.AsgValues', WHERE WHAT IT READS IS OF BULK AT MOST 1048576: true; the input reads as it did. -/
def asgValuesUptoRow : OpenClaim := { program := "ytnedpngadfkmiaadoor", sum := "fc9ee06e1d319cd382cff209d968d706e0a46af2a3ab68606e6beb3b5ed59f04", func := "skolem/skolemlaw02.AsgValues", spec := "asgValues", unfollowed := true, recurses := true, named := ["skolem/skolemlaw02.same"], apart := false, laid := [("skolem/skolemlaw02.same", laid_skolem_skolemlaw02_same)], narrowed := true }
def AsgValuesUptoSaid : Prop := asgValuesUptoRow.holds Tryd.pinned (OpenSpec.upto asgValuesSpec)

/-- 'skolemlaw02.AsgUnder', WHERE WHAT IT READS IS OF BULK AT MOST 1048576: true; the input reads as it did. -/
def asgUnderUptoRow : OpenClaim := { program := "ytnedpngadfkmiaadoor", sum := "fc9ee06e1d319cd382cff209d968d706e0a46af2a3ab68606e6beb3b5ed59f04", func := "skolem/skolemlaw02.AsgUnder", spec := "asgUnder", unfollowed := true, recurses := true, named := ["skolem/skolemlaw02.same"], apart := false, laid := [("skolem/skolemlaw02.same", laid_skolem_skolemlaw02_same)], narrowed := true }
def AsgUnderUptoSaid : Prop := asgUnderUptoRow.holds Tryd.pinned (OpenSpec.upto asgUnderSpec)

/-- 'skolemlaw02.AsgUnits', WHERE WHAT IT READS IS OF BULK AT MOST 1048576: true; the input reads as it did. -/
def asgUnitsUptoRow : OpenClaim := { program := "ytnedpngadfkmiaadoor", sum := "fc9ee06e1d319cd382cff209d968d706e0a46af2a3ab68606e6beb3b5ed59f04", func := "skolem/skolemlaw02.AsgUnits", spec := "asgUnits", unfollowed := true, recurses := true, named := ["skolem/skolemlaw02.same"], apart := false, laid := [("skolem/skolemlaw02.same", laid_skolem_skolemlaw02_same)], narrowed := true }
def AsgUnitsUptoSaid : Prop := asgUnitsUptoRow.holds Tryd.pinned (OpenSpec.upto asgUnitsSpec)

/-- 'skolemlaw02.AsgPoints', WHERE WHAT IT READS IS OF BULK AT MOST 1048576: true; the input reads as it did. -/
def asgPointsUptoRow : OpenClaim := { program := "ytnedpngadfkmiaadoor", sum := "fc9ee06e1d319cd382cff209d968d706e0a46af2a3ab68606e6beb3b5ed59f04", func := "skolem/skolemlaw02.AsgPoints", spec := "asgPoints", unfollowed := true, recurses := true, named := ["skolem/skolemlaw02.same"], apart := false, laid := [("skolem/skolemlaw02.same", laid_skolem_skolemlaw02_same)], narrowed := true }
def AsgPointsUptoSaid : Prop := asgPointsUptoRow.holds Tryd.pinned (OpenSpec.upto asgPointsSpec)

/-- 'skolemlaw02.AsgSound', WHERE WHAT IT READS IS OF BULK AT MOST 1048576: true; the input reads as it did. -/
def asgSoundUptoRow : OpenClaim := { program := "ytnedpngadfkmiaadoor", sum := "fc9ee06e1d319cd382cff209d968d706e0a46af2a3ab68606e6beb3b5ed59f04", func := "skolem/skolemlaw02.AsgSound", spec := "asgSound", unfollowed := true, recurses := true, named := ["skolem/skolemlaw02.same"], apart := false, laid := [("skolem/skolemlaw02.same", laid_skolem_skolemlaw02_same)], narrowed := true }
def AsgSoundUptoSaid : Prop := asgSoundUptoRow.holds Tryd.pinned (OpenSpec.upto asgSoundSpec)

/-- 'skolemlaw02.AsgOrder', WHERE WHAT IT READS IS OF BULK AT MOST 1048576: true; the input reads as it did. -/
def asgOrderUptoRow : OpenClaim := { program := "ytnedpngadfkmiaadoor", sum := "fc9ee06e1d319cd382cff209d968d706e0a46af2a3ab68606e6beb3b5ed59f04", func := "skolem/skolemlaw02.AsgOrder", spec := "asgOrder", unfollowed := true, recurses := true, named := ["skolem/skolemlaw02.same"], apart := false, laid := [("skolem/skolemlaw02.same", laid_skolem_skolemlaw02_same)], narrowed := true }
def AsgOrderUptoSaid : Prop := asgOrderUptoRow.holds Tryd.pinned (OpenSpec.upto asgOrderSpec)

/-- 'skolemlaw02.AsgBack', WHERE WHAT IT READS IS OF BULK AT MOST 1048576: true; the input reads as it did. -/
def asgBackUptoRow : OpenClaim := { program := "ytnedpngadfkmiaadoor", sum := "fc9ee06e1d319cd382cff209d968d706e0a46af2a3ab68606e6beb3b5ed59f04", func := "skolem/skolemlaw02.AsgBack", spec := "asgBack", unfollowed := true, recurses := true, named := ["skolem/skolemlaw02.same"], apart := false, laid := [("skolem/skolemlaw02.same", laid_skolem_skolemlaw02_same)], narrowed := true }
def AsgBackUptoSaid : Prop := asgBackUptoRow.holds Tryd.pinned (OpenSpec.upto asgBackSpec)

/-- 'skolemlaw02.AsgTwice', WHERE WHAT IT READS IS OF BULK AT MOST 1048576: true; the input reads as it did. -/
def asgTwiceUptoRow : OpenClaim := { program := "ytnedpngadfkmiaadoor", sum := "fc9ee06e1d319cd382cff209d968d706e0a46af2a3ab68606e6beb3b5ed59f04", func := "skolem/skolemlaw02.AsgTwice", spec := "asgTwice", unfollowed := true, recurses := true, named := ["skolem/skolemlaw02.same"], apart := false, laid := [("skolem/skolemlaw02.same", laid_skolem_skolemlaw02_same)], narrowed := true }
def AsgTwiceUptoSaid : Prop := asgTwiceUptoRow.holds Tryd.pinned (OpenSpec.upto asgTwiceSpec)

end Rows
end Go.Proofs.YtnedpngadfkmiaaDoor
