/- Joined texts: CxRAll, CxREval. -/
import Derived.Test.YtafenijbglcppaaK19
/- The reference's all (layer 5). -/
namespace Go.Proofs.Ytafenijbglcppaa
open Go.RowKit Go.Maps Go.Shelf
set_option linter.unusedVariables false
set_option linter.unusedSimpArgs false

theorem Mk.kept {w w' : World} {B b : Nat} {f : Int → Bool} {S : Nat → Prop} (h : Mk w B b f) (k : Kept S w w') (hb : ¬ S b) : Mk w' B b f := by
  obtain ⟨bs, h1, h2⟩ := h
  exact ⟨bs, k.row h1 (fun g hg => by have e : b = g := by simpa [Value.ownBlock] using hg
                                      subst e; exact hb), h2⟩
theorem Mk.set_other {w : World} {B b c i : Nat} {f : Int → Bool} {v : Value} (h : Mk w B b f) (hc : b ≠ c) : Mk (w.setCell ⟨c, i, none⟩ v) B b f := h.kept (Kept.setCell w ⟨c, i, none⟩ v) hc
end Go.Proofs.Ytafenijbglcppaa

/- The reference's Eval and Values (layer 5). -/
namespace Go.Proofs.Ytafenijbglcppaa
open Go.RowKit Go.Maps Go.Shelf
set_option linter.unusedVariables false
set_option linter.unusedSimpArgs false

/-- All values, the reference's way. -/
def finR (P : List Blk) (gs : List Gt) (a : List Int) : Int → Bool := (gs.foldl gStep (setR (fun i => decide (i ∈ flatB P)) (fun _ => false) a, [])).1
theorem finR_out {P : List Blk} {gs : List Gt} {o : Int} (h : mayN P gs o = true) (a : List Int) : litV (finR P gs a) o = litV (runA gs a).1 o := (mayN_runs h a).2.2.2.1
theorem finR_all {P : List Blk} {gs : List Gt} {o : Int} (h : mayN P gs o = true) (a : List Int) : gs.map (fun g => finR P gs a g.1) = (runA gs a).2 := by
  rw [← (mayN_runs h a).2.2.2.2]
  exact (mayN_last h _).symm
end Go.Proofs.Ytafenijbglcppaa
