/-
  NARROWER THAN 'FOR EVERY INPUT', by the rows' own cells (each row's printed sentence says how): AsgSound: laid · AsgOrder: laid · AsgBack: laid · TruthQbf: laid.
  DERIVED. THE GIVEN ROWS OF THIS SEAT. 4 by the template 'for every input the law returns true; each argument reads behind the call as it read before'; 0 by the template 'total and deterministic' (their statements: YtmhjpbhldaagmaaDoorTotals.lean).
  GIVEN WITH THE SEED: the statements are not yours to turn. If you find one false, say at which input.
  Laid BY PROGRAM, IN A SANDBOX (cutbox-rows.mjs): the forced cells as the released guide's own fill.sh prints them over the translation a229d7ffcf4bfd46… (all of the seat's roots in one cut). By AI agents, Wed Nov 11 2026. No macro, syntax, notation, axiom, sorry.
-/
import Derived.Test.YtmhjpbhldaagmaaDoorChecked
import GoSem.Claim
import GoSem.ClaimJoined
import GoSem.ClaimMapViews
import Derived.JoinedTies
import Derived.KernelRfl
namespace Go.Proofs.YtmhjpbhldaagmaaDoor
/- THE CELL 'sum', in the pinned program and in every row, IS THE sha256 OF THE DUMP (.gsa) THAT YtmhjpbhldaagmaaDoorProg.lean LOADS. Nothing in Lean hashes anything: it is a label: what it is worth is what the hold of that sum in a sandbox is worth. -/
noncomputable def Tryd.pinned : Pinned := { name := "ytmhjpbhldaagmaadoor", sum := "a229d7ffcf4bfd46fde60305077e4ed450cc31e07a417b74401604855ac89ed9", checked := Tryd.checked }
namespace Rows
def none {H : Type} : Left H := { results := [], args := [] }

/- WHAT THE LISTED PACKAGE-LEVEL VARIABLES READ AS WHEN THE CALL BEGINS. Each datum BY PROGRAM (the guide's laid-datum.mjs) off the statement by which the dump's own 'gosem.cut.vars' lays the variable. In a bare row this is a premise. The card (YtmhjpbhldaagmaaDoorCards.lean) ties it to the program's text. -/
def laid_skolem_skolemlaw02_same {H : Type} : DataW H := .iface "func table" (.iface "func" (.lit (.string [115, 107, 111, 108, 101, 109, 47, 115, 107, 111, 108, 101, 109, 114, 101, 102, 48, 49, 46, 83, 97, 109, 101])))
def laid_math_bits_deBruijn32tab {H : Type} : DataW H := .agg [.lit (.int .u8 0), .lit (.int .u8 1), .lit (.int .u8 28), .lit (.int .u8 2), .lit (.int .u8 29), .lit (.int .u8 14), .lit (.int .u8 24), .lit (.int .u8 3), .lit (.int .u8 30), .lit (.int .u8 22), .lit (.int .u8 20), .lit (.int .u8 15), .lit (.int .u8 25), .lit (.int .u8 17), .lit (.int .u8 4), .lit (.int .u8 8), .lit (.int .u8 31), .lit (.int .u8 27), .lit (.int .u8 13), .lit (.int .u8 23), .lit (.int .u8 21), .lit (.int .u8 19), .lit (.int .u8 16), .lit (.int .u8 7), .lit (.int .u8 26), .lit (.int .u8 12), .lit (.int .u8 18), .lit (.int .u8 6), .lit (.int .u8 11), .lit (.int .u8 5), .lit (.int .u8 10), .lit (.int .u8 9)]
def laid_math_bits_deBruijn64tab {H : Type} : DataW H := .agg [.lit (.int .u8 0), .lit (.int .u8 1), .lit (.int .u8 56), .lit (.int .u8 2), .lit (.int .u8 57), .lit (.int .u8 49), .lit (.int .u8 28), .lit (.int .u8 3), .lit (.int .u8 61), .lit (.int .u8 58), .lit (.int .u8 42), .lit (.int .u8 50), .lit (.int .u8 38), .lit (.int .u8 29), .lit (.int .u8 17), .lit (.int .u8 4), .lit (.int .u8 62), .lit (.int .u8 47), .lit (.int .u8 59), .lit (.int .u8 36), .lit (.int .u8 45), .lit (.int .u8 43), .lit (.int .u8 51), .lit (.int .u8 22), .lit (.int .u8 53), .lit (.int .u8 39), .lit (.int .u8 33), .lit (.int .u8 30), .lit (.int .u8 24), .lit (.int .u8 18), .lit (.int .u8 12), .lit (.int .u8 5), .lit (.int .u8 63), .lit (.int .u8 55), .lit (.int .u8 48), .lit (.int .u8 27), .lit (.int .u8 60), .lit (.int .u8 41), .lit (.int .u8 37), .lit (.int .u8 16), .lit (.int .u8 46), .lit (.int .u8 35), .lit (.int .u8 44), .lit (.int .u8 21), .lit (.int .u8 52), .lit (.int .u8 32), .lit (.int .u8 23), .lit (.int .u8 11), .lit (.int .u8 54), .lit (.int .u8 26), .lit (.int .u8 40), .lit (.int .u8 15), .lit (.int .u8 34), .lit (.int .u8 20), .lit (.int .u8 31), .lit (.int .u8 10), .lit (.int .u8 25), .lit (.int .u8 14), .lit (.int .u8 19), .lit (.int .u8 9), .lit (.int .u8 13), .lit (.int .u8 8), .lit (.int .u8 7), .lit (.int .u8 6)]

/-- 'skolemlaw02.AsgSound': WHATEVER THE INPUT: true; the input reads as it did. -/
def asgSoundSpec : ChangeSpec := { name := "asgSound", fn := fun _ => fun
  | [d1, d2] => { results := [.lit (.bool true)], args := [d1, d2] }
  | _ => none }
def asgSoundRow : OpenClaim := { program := "ytmhjpbhldaagmaadoor", sum := "a229d7ffcf4bfd46fde60305077e4ed450cc31e07a417b74401604855ac89ed9", func := "skolem/skolemlaw02.AsgSound", spec := "asgSound", unfollowed := true, recurses := true, named := ["skolem/skolemlaw02.same"], plainKeys := false, apart := false, laid := [("skolem/skolemlaw02.same", laid_skolem_skolemlaw02_same)] }
def AsgSoundSaid : Prop := asgSoundRow.holds Tryd.pinned (OpenSpec.ofChange asgSoundSpec)

/-- ITS FALSE NEIGHBOUR: 'it returns false'. Refute it at one input. -/
def asgSoundWrong : ChangeSpec := { name := "asgSound", fn := fun _ => fun
  | [d1, d2] => { results := [.lit (.bool false)], args := [d1, d2] }
  | _ => none }
def AsgSoundWrongFalsely : Prop := asgSoundRow.holds Tryd.pinned (OpenSpec.ofChange asgSoundWrong)

/-- 'skolemlaw02.AsgOrder': WHATEVER THE INPUT: true; the input reads as it did. -/
def asgOrderSpec : ChangeSpec := { name := "asgOrder", fn := fun _ => fun
  | [d1, d2, d3] => { results := [.lit (.bool true)], args := [d1, d2, d3] }
  | _ => none }
def asgOrderRow : OpenClaim := { program := "ytmhjpbhldaagmaadoor", sum := "a229d7ffcf4bfd46fde60305077e4ed450cc31e07a417b74401604855ac89ed9", func := "skolem/skolemlaw02.AsgOrder", spec := "asgOrder", unfollowed := true, recurses := true, named := ["skolem/skolemlaw02.same"], plainKeys := false, apart := false, laid := [("skolem/skolemlaw02.same", laid_skolem_skolemlaw02_same)] }
def AsgOrderSaid : Prop := asgOrderRow.holds Tryd.pinned (OpenSpec.ofChange asgOrderSpec)

/-- ITS FALSE NEIGHBOUR: 'it returns false'. Refute it at one input. -/
def asgOrderWrong : ChangeSpec := { name := "asgOrder", fn := fun _ => fun
  | [d1, d2, d3] => { results := [.lit (.bool false)], args := [d1, d2, d3] }
  | _ => none }
def AsgOrderWrongFalsely : Prop := asgOrderRow.holds Tryd.pinned (OpenSpec.ofChange asgOrderWrong)

/-- 'skolemlaw02.AsgBack': WHATEVER THE INPUT: true; the input reads as it did. -/
def asgBackSpec : ChangeSpec := { name := "asgBack", fn := fun _ => fun
  | [d1, d2, d3, d4] => { results := [.lit (.bool true)], args := [d1, d2, d3, d4] }
  | _ => none }
def asgBackRow : OpenClaim := { program := "ytmhjpbhldaagmaadoor", sum := "a229d7ffcf4bfd46fde60305077e4ed450cc31e07a417b74401604855ac89ed9", func := "skolem/skolemlaw02.AsgBack", spec := "asgBack", unfollowed := true, recurses := true, named := ["skolem/skolemlaw02.same"], plainKeys := false, apart := false, laid := [("skolem/skolemlaw02.same", laid_skolem_skolemlaw02_same)] }
def AsgBackSaid : Prop := asgBackRow.holds Tryd.pinned (OpenSpec.ofChange asgBackSpec)

/-- ITS FALSE NEIGHBOUR: 'it returns false'. Refute it at one input. -/
def asgBackWrong : ChangeSpec := { name := "asgBack", fn := fun _ => fun
  | [d1, d2, d3, d4] => { results := [.lit (.bool false)], args := [d1, d2, d3, d4] }
  | _ => none }
def AsgBackWrongFalsely : Prop := asgBackRow.holds Tryd.pinned (OpenSpec.ofChange asgBackWrong)

/-- 'skolemlaw04.TruthQbf': WHATEVER THE INPUT: true; the input reads as it did. -/
def truthQbfSpec : ChangeSpec := { name := "truthQbf", fn := fun _ => fun
  | [d] => { results := [.lit (.bool true)], args := [d] }
  | _ => none }
def truthQbfRow : OpenClaim := { program := "ytmhjpbhldaagmaadoor", sum := "a229d7ffcf4bfd46fde60305077e4ed450cc31e07a417b74401604855ac89ed9", func := "skolem/skolemlaw04.TruthQbf", spec := "truthQbf", unfollowed := true, recurses := true, named := ["math/bits.deBruijn32tab", "math/bits.deBruijn64tab"], plainKeys := false, apart := false, laid := [("math/bits.deBruijn32tab", laid_math_bits_deBruijn32tab), ("math/bits.deBruijn64tab", laid_math_bits_deBruijn64tab)] }
def TruthQbfSaid : Prop := truthQbfRow.holds Tryd.pinned (OpenSpec.ofChange truthQbfSpec)

/-- ITS FALSE NEIGHBOUR: 'it returns false'. Refute it at one input. -/
def truthQbfWrong : ChangeSpec := { name := "truthQbf", fn := fun _ => fun
  | [d] => { results := [.lit (.bool false)], args := [d] }
  | _ => none }
def TruthQbfWrongFalsely : Prop := truthQbfRow.holds Tryd.pinned (OpenSpec.ofChange truthQbfWrong)

/- THE SECOND FORM. 'bulk': how many values and letters a reading holds, each counted each time it is reached (what is shared counts as often as it is met; a slice's spare places count too). A statement '..UptoSaid' is the law's where the arguments, and the package variables that the reading takes, are together of bulk at most 1048576: NARROWER than '..Said'. Prove '..Said' where nothing that the law and all that it calls make is longer than what came in: it says more and counts as full. Else prove '..UptoSaid'. A law counts once. -/
mutual
def uptoBulk {H : Type} : DataW H → Nat
  | .lit (.string bytes) => bytes.length + 1
  | .lit _ => 1
  | .nil => 1
  | .ptr d => uptoBulk d + 1
  | .slice elems spare => uptoBulkAll elems + uptoBulkAll spare + 1
  | .agg parts => uptoBulkAll parts + 1
  | .iface _ d => uptoBulk d + 1
  | .map entries => uptoBulkEntries entries + 1
  | .held _ => 1
def uptoBulkAll {H : Type} : List (DataW H) → Nat
  | [] => 0
  | d :: r => uptoBulk d + uptoBulkAll r
def uptoBulkEntries {H : Type} : List (Lit × DataW H) → Nat
  | [] => 0
  | x :: r => uptoBulkEntry x + uptoBulkEntries r
def uptoBulkEntry {H : Type} : Lit × DataW H → Nat
  | (.string bytes, d) => bytes.length + uptoBulk d + 1
  | (_, d) => uptoBulk d + 1
 end
def uptoSmall : (H : Type) → List (DataW H) → Bool := fun _ ds => decide (uptoBulkAll ds ≤ 1048576)
def OpenSpec.upto (s : _root_.Go.ChangeSpec) : _root_.Go.OpenSpec := { _root_.Go.OpenSpec.ofChange s with cond := some uptoSmall }

/-- 'skolemlaw02.AsgSound', WHERE WHAT IT READS IS OF BULK AT MOST 1048576: true; the input reads as it did. -/
def asgSoundUptoRow : OpenClaim := { program := "ytmhjpbhldaagmaadoor", sum := "a229d7ffcf4bfd46fde60305077e4ed450cc31e07a417b74401604855ac89ed9", func := "skolem/skolemlaw02.AsgSound", spec := "asgSound", unfollowed := true, recurses := true, named := ["skolem/skolemlaw02.same"], plainKeys := false, apart := false, laid := [("skolem/skolemlaw02.same", laid_skolem_skolemlaw02_same)], narrowed := true }
def AsgSoundUptoSaid : Prop := asgSoundUptoRow.holds Tryd.pinned (OpenSpec.upto asgSoundSpec)

/-- 'skolemlaw02.AsgOrder', WHERE WHAT IT READS IS OF BULK AT MOST 1048576: true; the input reads as it did. -/
def asgOrderUptoRow : OpenClaim := { program := "ytmhjpbhldaagmaadoor", sum := "a229d7ffcf4bfd46fde60305077e4ed450cc31e07a417b74401604855ac89ed9", func := "skolem/skolemlaw02.AsgOrder", spec := "asgOrder", unfollowed := true, recurses := true, named := ["skolem/skolemlaw02.same"], plainKeys := false, apart := false, laid := [("skolem/skolemlaw02.same", laid_skolem_skolemlaw02_same)], narrowed := true }
def AsgOrderUptoSaid : Prop := asgOrderUptoRow.holds Tryd.pinned (OpenSpec.upto asgOrderSpec)

/-- 'skolemlaw02.AsgBack', WHERE WHAT IT READS IS OF BULK AT MOST 1048576: true; the input reads as it did. -/
def asgBackUptoRow : OpenClaim := { program := "ytmhjpbhldaagmaadoor", sum := "a229d7ffcf4bfd46fde60305077e4ed450cc31e07a417b74401604855ac89ed9", func := "skolem/skolemlaw02.AsgBack", spec := "asgBack", unfollowed := true, recurses := true, named := ["skolem/skolemlaw02.same"], plainKeys := false, apart := false, laid := [("skolem/skolemlaw02.same", laid_skolem_skolemlaw02_same)], narrowed := true }
def AsgBackUptoSaid : Prop := asgBackUptoRow.holds Tryd.pinned (OpenSpec.upto asgBackSpec)

/-- 'skolemlaw04.TruthQbf', WHERE WHAT IT READS IS OF BULK AT MOST 1048576: true; the input reads as it did. -/
def truthQbfUptoRow : OpenClaim := { program := "ytmhjpbhldaagmaadoor", sum := "a229d7ffcf4bfd46fde60305077e4ed450cc31e07a417b74401604855ac89ed9", func := "skolem/skolemlaw04.TruthQbf", spec := "truthQbf", unfollowed := true, recurses := true, named := ["math/bits.deBruijn32tab", "math/bits.deBruijn64tab"], plainKeys := false, apart := false, laid := [("math/bits.deBruijn32tab", laid_math_bits_deBruijn32tab), ("math/bits.deBruijn64tab", laid_math_bits_deBruijn64tab)], narrowed := true }
def TruthQbfUptoSaid : Prop := truthQbfUptoRow.holds Tryd.pinned (OpenSpec.upto truthQbfSpec)

end Rows
end Go.Proofs.YtmhjpbhldaagmaaDoor
