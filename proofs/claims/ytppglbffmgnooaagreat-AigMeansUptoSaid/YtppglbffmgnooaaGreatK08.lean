/- Joined texts: CxVals. -/
import Derived.Test.YtppglbffmgnooaaGreatK07
import Derived.Deep.RegionHeld3
import Derived.OwnWalk
/- circ.values. -/
namespace Go.Proofs.YtppglbffmgnooaaGreat
open Go.RowKit Go.Maps
set_option linter.unusedVariables false
set_option linter.unusedSimpArgs false

theorem takeC {P : Program} {md : Region.Mode} {ops : Array Oper} {Q : Exit → Act → World → Prop} {S : World → Prop} {i : Nat} {oi : Oper} {v : Value} (d : Option Tmp) {fuel : Nat} {listed : Array Bool} {a : Act} {w : World} (hi : ops[i]? = some oi) (hd : oi.dst = d)
    (hs : Region.noSelect ops = true) (hf : Region.free md ops listed i = true) (hr : (Region.ready md ops listed).contains i = true)
    (hQ : ∀ c a w, Q (.panic c) (a.put oi.dst v) w → Q (.panic c) a w) (hy : YieldsIf P ops S oi v a) (hS : S w)
    (h : wpAnyH P md ops Q S fuel (listed.setIfInBounds i true) (a.put d v) w) : wpAnyH P md ops Q S (fuel + 1) listed a w := by
  subst hd
  exact wpAnyH_take hi hs hf hr hQ hy hS h
def updB (h : Int → Bool) (k : Int) (y : Bool) : Int → Bool := fun j => if j = k then y else h j
theorem MapH.put {w : World} {b n : Nat} {h : Int → Bool} (m : MapH w b n h) (hn : n < maxLen) (k : Int) (y : Bool) (hw : (Lit.int .i64 k).wf = true) :
    ∃ w', (Instr.mapUpdate 181 (.map (some b)) (.int .i64 k) (.bool y)).run Tryz.prog w = .ok () w' ∧ MapH w' b (n + 1) (updB h k y) ∧ Kept (fun i => i = b) w w' := by
  obtain ⟨D, h1, hD, h2⟩ := m
  obtain ⟨w', hrun, h3, h4⟩ := h1.update (int_keyed Tryz.underlying3) Tryz.underlying181 hn (keyOf_int_mk Tryz.underlying3 hw) (plainElem_bool Tryz.underlying4 y)
  refine ⟨w', hrun, ⟨_, h3, hD.put _ _, fun j => ?_⟩, (Kept.of_grown h4).mono fun i _ e => (Option.some.inj e).symm⟩
  unfold updB
  by_cases e : j = k
  · subst e
    rw [atKey_put_same hD (show WideAt.IsKeyLit (Lit.int _ _) from trivial)]
    simp
  · rw [atKey_put_other (by simpa using e), h2]
    simp [e]
/-- A row of bools of the call's own. -/
def OwnB (w : World) (B : Nat) (v : Value) (bs : List Bool) : Prop := w.ownsRow B 4 1 v bs.length (bs.map Value.bool)
theorem info_boolC : (Tryz.prog.info? 4).map (fun i => (i.zero, i.size, i.bytes)) = some (some (.bool false), 1, 1) := by kernel_rfl
theorem ownB_mono {w : World} {B B' : Nat} {v : Value} {xs : List Bool} (h : OwnB w B v xs) (hB : B' ≤ B) : OwnB w B' v xs := by
  refine ⟨h.1, ?_⟩
  rcases h.2 with hn | ⟨g, cap, cur, hv, hb, rest⟩
  · exact .inl hn
  · exact .inr ⟨g, cap, cur, hv, Nat.le_trans hB hb, rest⟩
end Go.Proofs.YtppglbffmgnooaaGreat
