/- A region without calls that draws its order, inside a round: it goes as outside. -/
import Derived.Test.YtppglbffmgnooaaGreatK08
import Derived.OrdersIn
import Derived.OrdersHeld
namespace Go.Proofs.YtppglbffmgnooaaGreat
open Go.RowKit
set_option linter.unusedVariables false
set_option linter.unusedSimpArgs false

/-- No call, no statement that starts or awaits something. -/
def plainO (o : Oper) : Bool := match o.op with
  | .move _ | .assign _ | .load _ _ | .store _ _ _ | .indexAddr _ _ _ | .fieldAddr _ _ _ | .binOp _ _ _ _ _ | .alloc _ | .unOp _ _ _ => true
  | _ => false
theorem plainO_next {P : Program} {o : Oper} (h : plainO o = true) {ρ : Operand → Value} {w w' : World} {x : Next} (hr : (execOp ρ o).run P w = .ok x w') : (∃ v, x = .value v) ∨ x = .skip := by
  have hv : ∀ (s : Sem Value), (do pure (Next.value (← s)) : Sem Next).run P w = .ok x w' → (∃ v, x = .value v) ∨ x = .skip := fun s hs => by
    simp only [Sem.run_bind] at hs
    cases hq : s.run P w with
    | ok v w2 => rw [hq] at hs; simp at hs; exact .inl ⟨v, hs.1.symm⟩
    | halt e w2 => rw [hq] at hs; simp [Result.andThen] at hs
  have hu : ∀ (s : Sem Unit), (do s; pure Next.skip : Sem Next).run P w = .ok x w' → (∃ v, x = .value v) ∨ x = .skip := fun s hs => by
    simp only [Sem.run_bind] at hs
    cases hq : s.run P w with
    | ok v w2 => rw [hq] at hs; simp at hs; exact .inr hs.1.symm
    | halt e w2 => rw [hq] at hs; simp [Result.andThen] at hs
  unfold plainO at h
  unfold execOp at hr
  cases ho : o.op <;> rw [ho] at h hr <;> first | cases h | skip
  all_goals first | exact hv _ hr | exact hu _ hr | (simp at hr; exact .inl ⟨_, hr.1.symm⟩)
theorem plainO_defer {o : Oper} (h : plainO o = true) (c : _) : o.op ≠ .defer c := fun e => by unfold plainO at h; rw [e] at h; cases h
theorem plainO_about {P : Program} {o : Oper} (h : plainO o = true) (w : World) (ρ : Operand → Value) : o.about P w ρ = none := by
  unfold plainO at h
  unfold Oper.about
  cases ho : o.op <;> rw [ho] at h <;> first | rfl | cases h
theorem plainO_wpIn {F : Fence} {n : Nat} {P : Program} {o : Oper} (h : plainO o = true) {a : Act} {w : World} {K K' : Act → World → Prop} {Q : Exit → Act → World → Prop} (hK : ∀ a w, K a w → K' a w) (hw : o.wp P a w K Q) : o.wpIn F n P a w K' Q := by
  refine ⟨fun f hf => (by rw [plainO_about h] at hf; cases hf), ?_⟩
  rw [Oper.semAt_eq _ _ _ (plainO_defer h)]
  unfold Oper.wp at hw
  generalize hr : (execOp a.eval o).run P w = r at *
  cases r with
  | ok x w' =>
    rcases plainO_next h hr with ⟨v, rfl⟩ | rfl
    · exact hK _ _ hw
    · exact hK _ _ hw
  | halt x w' => cases x <;> exact hw
theorem wpAnyIn_of_any {F : Fence} {n : Nat} {P : Program} {md : Region.Mode} {ops : Array Oper} {Q : Exit → Act → World → Prop} (hp : ops.all plainO = true) (hq : ¬ LetsOut Q) :
    ∀ (fuel : Nat) (listed : Array Bool) (a : Act) (w : World), wpAny P md ops Q fuel listed a w → wpAnyIn F n P md ops Q fuel listed a w
  | 0, listed, a, w, h => h
  | fuel + 1, listed, a, w, h => by
    refine ⟨h.1, fun i hi => ?_⟩
    have h2 := h.2 i hi
    unfold wpOp at h2
    unfold wpOpIn
    cases ho : ops[i]? with
    | none => rw [ho] at h2; exact wpAnyIn_of_any hp hq fuel _ _ _ h2
    | some o =>
      rw [ho] at h2
      simp only at h2 ⊢
      have hpo : plainO o = true := by
        obtain ⟨hlt, he⟩ := Array.getElem?_eq_some_iff.1 ho
        exact Array.all_eq_true.1 hp i hlt |> fun z => by rw [he] at z; exact z
      split
      · rename_i hw
        rw [if_pos hw] at h2
        rcases h2 with h2 | ⟨_, h2⟩
        · exact plainO_wpIn hpo (fun a w hh => wpAnyIn_of_any hp hq fuel _ a w hh) h2
        · exact absurd h2 hq
      · rename_i hw
        rw [if_neg hw] at h2
        exact ⟨fun f hf => (by rw [plainO_about hpo] at hf; cases hf), wpAnyIn_of_any hp hq fuel _ _ _ h2⟩
theorem wpIn_region_heldP {F : Fence} {n : Nat} {P : Program} {id : Nat} {l : List Oper} {Q : Exit → Act → World → Prop} {a : Act} {w : World} (S : World → Prop) (hm : P.follows .mixedOrders = true) (hp : l.toArray.all plainO = true) (hq : ¬ LetsOut Q)
    (h : wpAnyH P .any l.toArray Q S l.toArray.size (Array.replicate l.toArray.size false) a w.drew) : (Code.region id l.toArray true).wpIn F n P Q a w :=
  wpIn_region_any hm (wpAnyIn_of_any hp hq _ _ _ _ (wpAny_of_held _ _ _ _ h))
end Go.Proofs.YtppglbffmgnooaaGreat
