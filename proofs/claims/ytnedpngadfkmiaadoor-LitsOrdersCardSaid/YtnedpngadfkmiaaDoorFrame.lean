/- What the rows' condition on the listed variables gives the walks. -/
import Derived.Test.YtnedpngadfkmiaaDoorRows
import Derived.Test.YtnedpngadfkmiaaDoorAwake
import Derived.ProofKit
import Derived.LaidMore
import Derived.LaidSub
import Derived.Lib.LaidTab
import Derived.Stop.Joined
import Derived.OpenShut
import Derived.ChangeOld
namespace Go.Proofs.YtnedpngadfkmiaaDoor
open Go.ChangeShapes Go.WideShapes Go.ChangeAt Go.RowKit
set_option linter.unusedVariables false
variable {H : Type}

theorem own : ownKnob Tryd.prog.godebug = none := by kernel_rfl
theorem laidOut : laidOutB Tryd.prog = true := by kernel_rfl
abbrev laidL : List (String × DataW Unit) := Rows.litsOneRow.laid
theorem gSame : Tryd.prog.globalNamed "skolem/skolemlaw01.same" = some 0 := by kernel_rfl
theorem tSame : (Tryd.prog.globals[0]?).map (·.type) = some 29 := by kernel_rfl
theorem gPow : Tryd.prog.globalNamed "internal/strconv.uint64pow10" = some 2 := by kernel_rfl
theorem tPow : (Tryd.prog.globals[2]?).map (·.type) = some 174 := by kernel_rfl

/-- A function's reading is of one cell. -/
theorem one_of_func {P : Program} {w : World} {base : Nat} {sp : Nat → Bool} {fuel : Nat} {t : TypeId} {ps rs : Array TypeId} {va : Bool} {cs : List Value} {x : DataW H × List MemPlace} {enc : TypeId × Value → H}
    (ht : P.underlying t = some (.func ps rs va)) (h : DataW.trod enc P w base sp true fuel t cs = some x) : ∃ v, cs = [v] := by
  cases fuel with
  | zero => simp [DataW.trod] at h
  | succ n =>
    unfold DataW.trod at h
    rw [ht] at h
    split at h <;> simp_all

set_option maxRecDepth 100000 in
theorem of_laid {W : World} (h : laidMetH Tryd.prog laidL W) : SameAt W ∧ Pow W.heap.size W := by
  constructor
  · obtain ⟨g, t, cs, fuel, p, hg, ht, hv, hd⟩ := h.funcs (n := "skolem/skolemlaw01.same") (d := .iface "func" (.lit (.string [115, 107, 111, 108, 101, 109, 47, 115, 107, 111, 108, 101, 109, 114, 101, 102, 48, 49, 46, 83, 97, 109, 101]))) (by exact List.Mem.tail _ (List.Mem.tail _ (List.Mem.tail _ (List.Mem.head _))))
    obtain rfl := Option.some.inj (gSame.symm.trans hg)
    obtain rfl := Option.some.inj (tSame.symm.trans ht)
    obtain ⟨v, hcs⟩ := one_of_func Tryd.underlying29 hd
    rw [hcs] at hd
    obtain rfl := func_of_trod (f0 := 107) Tryd.underlying29 (by kernel_rfl) hd
    have := World.var?_cell hg hv 0
    rw [Array.eq_one_of_toList hcs] at this
    unfold SameAt
    simpa using this
  · have hk : laidMetH Tryd.prog (laidL.filter fun x => x.1 == "internal/strconv.uint64pow10") W := h.filter _
    have e : (laidL.filter fun x => x.1 == "internal/strconv.uint64pow10") = [("internal/strconv.uint64pow10", Lib.tabData .u64 Lib.pow10Tab)] := by kernel_rfl
    rw [e] at hk
    have hk2 : laidMet Tryd.prog [("internal/strconv.uint64pow10", Lib.tabData .u64 Lib.pow10Tab)] W := hk
    exact Lib.tabBelow_of_tabIs (Lib.tabIs_of_head gPow tPow Tryd.underlying174 Tryd.underlying69 (by kernel_rfl) (by kernel_rfl) hk2)

end Go.Proofs.YtnedpngadfkmiaaDoor
