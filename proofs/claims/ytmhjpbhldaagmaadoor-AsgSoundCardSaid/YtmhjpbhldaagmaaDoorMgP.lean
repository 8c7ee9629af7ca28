/- Joined texts: JoinF, UnitsV. -/
import Derived.Test.YtmhjpbhldaagmaaDoorMgB
import Derived.Test.YtmhjpbhldaagmaaDoorUnitsQ
import Derived.Test.YtmhjpbhldaagmaaDoorUnitsW
/- The reference's Join: what it hands back lies in new memory. -/
namespace Go.Proofs.YtmhjpbhldaagmaaDoor
open Go.RowKit
set_option linter.unusedVariables false

def RetIntsF (u : Value) (w : World) (xs : List Int) (e : Ending) (w' : World) : Prop := ∃ v, e = .returned v ∧ IsInts w' v xs ∧ Below w.heap.size w w' ∧ (v = u ∨ ∀ g, v.ownBlock = some g → w.heap.size ≤ g)
def RetPairF (w : World) (r : List Int × Int) (e : Ending) (w' : World) : Prop := ∃ v, e = .returned (.tuple #[v, .int .i64 r.2]) ∧ IsInts w' v r.1 ∧ Below w.heap.size w w' ∧ ∀ g, v.ownBlock = some g → w.heap.size ≤ g
theorem fresh_next {n m : Nat} {out v : Value} (h : ∀ g, out.ownBlock = some g → n ≤ g) (hs : n ≤ m) (k : v = out ∨ ∀ g, v.ownBlock = some g → m ≤ g) : ∀ g, v.ownBlock = some g → n ≤ g := fun g hg => by
  rcases k with e | e
  · subst e; exact h g hg
  · exact Nat.le_trans hs (e g hg)

end Go.Proofs.YtmhjpbhldaagmaaDoor

/- The reference's Units. -/
namespace Go.Proofs.YtmhjpbhldaagmaaDoor
open Go.RowKit
set_option linter.unusedVariables false

theorem OwnS.below {w w' : World} {B C : Nat} {v : Value} {xs : List (Int × Nat)} (h : OwnS w B v xs) (hb : Below C w w') (hC : w.heap.size ≤ C) : OwnS w' B v xs := by
  refine ⟨h.1, ?_⟩
  rcases h.2 with hn | ⟨g, cap, cur, hv, hB, hg, rest⟩
  · exact .inl hn
  · have hlt : g < w.heap.size := (Array.getElem?_eq_some_iff.1 hg).1
    exact .inr ⟨g, cap, cur, hv, hB, by rw [hb.block g (by omega)]; exact hg, rest⟩

/-- On the way in the reference: the list H is true, the steps l are made. -/
def VS (w0 : World) (f : List (List Int)) (a : List Int) (gk : Nat) (lv va : Value) (wr : World) : Prop :=
  ∃ (H : List Int) (l : List (Int × Nat)), IsInts wr va H ∧ mayB H = true ∧ OwnS wr w0.heap.size lv l ∧ Below w0.heap.size w0 wr ∧ (∀ m c, Run f H m c → Run f a (l ++ m) c) ∧ gk = untrue H f ∧ l.length + gk ≤ f.length ∧ (∀ p ∈ l, (-65536 ≤ p.1 ∧ p.1 ≤ 65536) ∧ p.2 < 20000) ∧ ∀ g, lv.ownBlock = some g → va.ownBlock ≠ some g

end Go.Proofs.YtmhjpbhldaagmaaDoor
