/- A region that draws its order, walked by hand: one operation is taken first. -/
import Derived.Test.YtmhjpbhldaagmaaDoorMgN
import Derived.Deep.RegionHeld3
namespace Go.Proofs.YtmhjpbhldaagmaaDoor
open Go.RowKit
set_option linter.unusedVariables false

/-- The variable that is listed holds what it held, and what lay there lies there. -/
def Sz (w wx : World) : Prop := SameAz wx ∧ Below w.heap.size w wx
theorem Sz.of {w wx : World} (h : SameAz w) (hb : Below w.heap.size w wx) : Sz w wx := ⟨h.below hb h.lt, hb⟩
theorem Sz.alloc {w W : World} (h : Sz w W) (o : Obj) : Sz w (W.alloc o) := ⟨h.1.below (zst (Below.refl _ _)) h.1.lt, zst (o := o) h.2⟩
theorem Sz.drew {w W : World} (h : Sz w W) : Sz w W.drew := ⟨h.1.below (Below.refl _ _).drew h.1.lt, h.2.drew⟩
theorem takeZ {P : Program} {md : Region.Mode} {ops : Array Oper} {Q : Exit → Act → World → Prop} {S : World → Prop} {i : Nat} {oi : Oper} {v : Value} (d : Option Tmp) {fuel : Nat} {listed : Array Bool} {a : Act} {w : World} (hi : ops[i]? = some oi) (hd : oi.dst = d)
    (hs : Region.noSelect ops = true) (hf : Region.free md ops listed i = true) (hr : (Region.ready md ops listed).contains i = true)
    (hQ : ∀ c a w, Q (.panic c) (a.put oi.dst v) w → Q (.panic c) a w) (hy : YieldsIf P ops S oi v a) (hS : S w)
    (h : wpAnyH P md ops Q S fuel (listed.setIfInBounds i true) (a.put d v) w) : wpAnyH P md ops Q S (fuel + 1) listed a w := by
  subst hd
  exact wpAnyH_take hi hs hf hr hQ hy hS h

end Go.Proofs.YtmhjpbhldaagmaaDoor
