/- Joined texts: CxClo, CxEvs. -/
import Derived.Test.YtppglbffmgnooaaGreatK06
import Derived.Laws.EntriesVeiled
/- circ: the closures by which gates are evaluated. -/
namespace Go.Proofs.YtppglbffmgnooaaGreat
open Go.RowKit
set_option linter.unusedVariables false
set_option linter.unusedSimpArgs false

/-- Block b is a map from integers to bools that says h. -/
abbrev MapH (w : World) (b n : Nat) (h : Int → Bool) : Prop := MapB Tryz.prog 3 4 w b n h
set_option maxRecDepth 100000 in
theorem MapH.look1 {w : World} {b n : Nat} {h : Int → Bool} (m : MapH w b n h) (k : Int) (h1 : -9223372036854775808 ≤ k) (h2 : k ≤ 9223372036854775807) : (Instr.lookup 181 (.map (some b)) (.int .i64 k) false).run Tryz.prog w = .ok (.bool (h k)) w  := by
  have hz : ∀ W : World, (zeroValue 4).run Tryz.prog W = .ok (.bool false) W := fun _ => rfl
  exact MapB.look m Tryz.underlying3 Tryz.underlying4 Tryz.underlying181 (hz w) k (i64w h1 h2)
theorem MapH.quiet {w w' : World} {b n : Nat} {h : Int → Bool} (m : MapH w b n h) (hq : Quiet w w') : MapH w' b n h := by
  obtain ⟨k, rfl⟩ := hq
  exact MapB.kept m (S := fun _ => False) ⟨rfl, rfl, rfl, Nat.le_refl _, fun _ _ _ => rfl⟩ (fun h => h)
/-- The value of a literal. -/
def litV (h : Int → Bool) (x : Int) : Bool := h (varC x) == decide (0 < x)
/-- What the closures read: the box of the map, and the box of the function. -/
structure Reads (w : World) (bh bm be n : Nat) (h : Int → Bool) : Prop where
  map : MapH w bm n h
  box : w.cell? ⟨bh, 0, none⟩ = some (.map (some bm))
  fn : w.cell? ⟨be, 0, none⟩ = some (.func (.func 176) #[] #[.pointer (some ⟨bh, 0, none⟩)])
theorem Reads.quiet {w w' : World} {bh bm be n : Nat} {h : Int → Bool} (r : Reads w bh bm be n h) (hq : Quiet w w') : Reads w' bh bm be n h :=
  ⟨MapH.quiet r.map hq, (hq.cell _).trans r.box, (hq.cell _).trans r.fn⟩

set_option maxRecDepth 100000 in
theorem cval_any (bh bm n : Nat) (h : Int → Bool) (x : Int) (w : World) (hm : MapH w bm n h) (hc : w.cell? ⟨bh, 0, none⟩ = some (.map (some bm))) (h1 : -9223372036854775808 ≤ x) (h2 : x ≤ 9223372036854775807) :
    Calls Tryz.prog 176 #[.int .i64 x, .pointer (some ⟨bh, 0, none⟩)] w fun e w' => e = .returned (.bool (litV h x)) ∧ Quiet w w' := by
  have hv := varC_64 h1 h2
  have hlk : ∀ k, (Instr.lookup 181 (.map (some bm)) (.int .i64 (varC x)) false).run Tryz.prog (w.drewN k) = .ok (.bool (h (varC x))) (w.drewN k) := fun k => MapH.look1 (MapH.quiet hm ⟨k, rfl⟩) (varC x) hv.1 hv.2
  have hcv : ∀ k, Calls Tryz.prog 175 #[.int .i64 x] (w.drewN k) fun e w' => e = .returned (.int .i64 (varC x)) ∧ w.drewN k = w' := fun k => cvar_any x _ h1 h2
  have hcn : ∀ k, (w.drewN k).cell? ⟨bh, 0, none⟩ = some (.map (some bm)) := fun k => hc
  have HL : Hid (litV h x = (h (varC x) == decide (0 < x))) := rfl
  generalize litV h x = r at *
  clear hv hm
  generalize varC x = y at *
  generalize h y = t at *
  by_cases hp : 0 < x
  · have hd : decide (0 < x) = true := by simpa using hp
    rw [hd] at HL
    cases t <;>
    · go_enter Tryz.func176, Tryz.ntmps176
      go_wp2_with fail
      go_quiet ((go_at_call 175; exact quiet_left (hcv _)))
      go_wp2
      go_ret
      exact ⟨ret_bool (by rw [HL.out]; rfl), _, rfl⟩
  · have hd : decide (0 < x) = false := by simpa using hp
    rw [hd] at HL
    cases t <;>
    · go_enter Tryz.func176, Tryz.ntmps176
      go_wp2_with fail
      go_quiet ((go_at_call 175; exact quiet_left (hcv _)))
      go_wp2
      go_ret
      exact ⟨ret_bool (by rw [HL.out]; rfl), _, rfl⟩
theorem Reads.val {w : World} {bh bm be n : Nat} {h : Int → Bool} (r : Reads w bh bm be n h) (x : Int) (h1 : -9223372036854775808 ≤ x) (h2 : x ≤ 9223372036854775807) {W : World} (hq : Quiet w W) :
    Calls Tryz.prog 176 #[.int .i64 x, .pointer (some ⟨bh, 0, none⟩)] W fun e w' => e = .returned (.bool (litV h x)) ∧ Quiet W w' :=
  cval_any bh bm n h x W (r.quiet hq).map (r.quiet hq).box h1 h2
end Go.Proofs.YtppglbffmgnooaaGreat

/- circ.evaluators. -/
namespace Go.Proofs.YtppglbffmgnooaaGreat
open Go.RowKit
set_option linter.unusedVariables false
set_option linter.unusedSimpArgs false

end Go.Proofs.YtppglbffmgnooaaGreat
