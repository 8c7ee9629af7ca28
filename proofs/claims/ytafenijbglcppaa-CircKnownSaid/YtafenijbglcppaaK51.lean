/- Joined texts: CxNetB. -/
import Derived.Test.YtafenijbglcppaaK23
import Derived.Test.YtafenijbglcppaaK25
import Derived.Test.YtafenijbglcppaaK28
import Derived.Test.YtafenijbglcppaaK17
/- Valid nets, and nets that come back. -/
namespace Go.Proofs.Ytafenijbglcppaa
open Go.RowKit Go.Maps Go.Shelf
set_option linter.unusedVariables false
set_option linter.unusedSimpArgs false

theorem mayN_len {P : List Blk} {gs : List Gt} {o : Int} (h : mayN P gs o = true) : gs.length ≤ 65536 ∧ P.length ≤ 1024 ∧ (-9223372036854775808 ≤ o ∧ o ≤ 9223372036854775807) := by
  obtain ⟨R, hp, _, hn, ho, hP⟩ := mayN_named h
  have hv := (namedL_gates gs _ _ R hn hP).2
  have hf := namedL_full gs _ _ R hn
  refine ⟨?_, (mayP_short hp).2, varC_range (hv _ ho)⟩
  have h1 := vset_len (S := gs.map (fun g => g.1)) ⟨namedL_nodup gs _ _ R hn, fun y hy => hv y (by rw [hf]; exact List.mem_append_right _ hy)⟩
  rwa [List.length_map] at h1
/-- Eval of a valid net under a list in order. -/
theorem eval_valid {P : List Blk} {gs : List Gt} {o : Int} (h : mayN P gs o = true) {l : List Int} (hl : mayB l = true) (hll : l.length ≤ 3000000) (vp vg v : Value) (X : World) (HP : IsBlocks X vp P) (HG : IsGates X vg gs) (HL : IsInts X v l) :
    Calls Try.prog 5 #[.agg #[vp, vg, .int .i64 o], v] X fun e w' => e = .returned (.tuple #[.bool (litV (runA gs l).1 o), .int .i64 0]) ∧ Below X.heap.size X w' := by
  obtain ⟨h1, h2, h3, h4⟩ := mayN_len h
  have hc := ceval_any vp vg v o P gs l X HP HG HL (by omega) (by omega) hll h3 h4
  have he : evalN P gs o l = (litV (runA gs l).1 o, 0) := by
    unfold evalN
    rw [if_pos (by unfold okN; rw [h]; exact hl)]
  rw [he] at hc
  exact hc
/-- What comes back is a net. -/
def NetGot (X : World) (P : List Blk) (gs : List Gt) (o r : Int) (e : Ending) (w' : World) : Prop :=
  ∃ a c a2 c2, e = .returned (.tuple #[.agg #[.slice a P.length c, .slice a2 gs.length c2, .int .i64 o], .int .i64 r]) ∧ IsBlocks w' (.slice a P.length c) P ∧ IsGates w' (.slice a2 gs.length c2) gs ∧ Below X.heap.size X w'
theorem NetBack.got {X : World} {P : List Blk} {gs : List Gt} {o r : Int} {e : Ending} {w' : World} (h : NetBack X ((P, gs, o), r) e w') : NetGot X P gs o r e w' := by
  obtain ⟨vp, vg, a, c, a2, c2, rfl, rfl, h3, h4, h5, h6⟩ := h
  exact ⟨a, c, a2, c2, h3, h4, h5, h6⟩
theorem same_self (P : List Blk) (gs : List Gt) (o : Int) : sameN P gs o P gs o = true := by unfold sameN; simp [sameB]
/-- A net in a new box. -/
theorem net_boxed {w2 : World} {v u : Value} {o : Int} {P : List Blk} {G : List Gt} (h1 : IsBlocks w2 v P) (h2 : IsGates w2 u G) : ∀ Y, Below (w2.alloc (.cells #[v, u, .int .i64 o] 25)).heap.size (w2.alloc (.cells #[v, u, .int .i64 o] 25)) Y → BoxN Y w2.heap.size v u o ∧ IsBlocks Y v P ∧ IsGates Y u G := fun Y hY => by
  have hs : (w2.alloc (.cells #[v, u, .int .i64 o] 25)).heap.size = w2.heap.size + 1 := by simp
  have hb : Below w2.heap.size w2 Y := (below_new w2 _).trans (hY.mono (by omega))
  exact ⟨box_new w2 v u o Y (hY.mono (by omega)), h1.below hb (Nat.le_refl _), h2.below hb (Nat.le_refl _)⟩
end Go.Proofs.Ytafenijbglcppaa
