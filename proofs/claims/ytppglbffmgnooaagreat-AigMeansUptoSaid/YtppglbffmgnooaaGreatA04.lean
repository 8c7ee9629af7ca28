/- Joined texts: Frame0, Open. -/
import Derived.Test.YtppglbffmgnooaaGreatRows
import Derived.Test.YtppglbffmgnooaaGreatK01
import Derived.ProofKit
import Derived.LaidMore
import Derived.LaidSub
import Derived.Lib.LaidTab
import Derived.Stop.Joined
import Derived.OpenShut
import Derived.ChangeOld
import Derived.Stop.FmtTextKit
/- What every claim of the seat asks of the program, whatever its rows lay. -/
namespace Go.Proofs.YtppglbffmgnooaaGreat
open Go.ChangeShapes Go.WideShapes Go.ChangeAt Go.RowKit
set_option linter.unusedVariables false
variable {H : Type}

theorem own : ownKnob Tryz.prog.godebug = none := by kernel_rfl
theorem laidOut : laidOutB Tryz.prog = true := by kernel_rfl

end Go.Proofs.YtppglbffmgnooaaGreat

/- A slice of integers that came in, opened for the walks. -/
namespace Go.Proofs.YtppglbffmgnooaaGreat
open Go.ChangeShapes Go.WideShapes Go.ChangeAt Go.RowKit
set_option linter.unusedVariables false

theorem i64_of_wf {n : Int} (h : (Lit.int .i64 n).wf = true) : -9223372036854775808 ≤ n ∧ n ≤ 9223372036854775807 := by
  have := Go.Extern.FmtText.int_bounds h
  simpa [IntKind.min, IntKind.max, IntKind.signed, IntKind.bits] using this

theorem ints_of {H : Type} {enc : TypeId × Value → H} {W : World} {base : Nat} {sp : Nat → Bool} {held : Bool} {fuel : Nat} {a : Option Addr} {len cap : Nat} {x : DataW H × List MemPlace}
    (h : DataW.trod enc Tryz.prog W base sp held fuel 22 [.slice a len cap] = some x) : len ≤ 9223372036854775807 ∧ (len ≤ 17592186044416 → ∃ l, l.length = len ∧ IsInts W (.slice a len cap) l) := by
  rcases open_ints Tryz.underlying22 Tryz.underlying3 (by kernel_rfl) h with ⟨hcs, _⟩ | ⟨y, l, c, zs, hcs, _, hl, hm, hz, _, hcell, hwz⟩
  · simp at hcs
    obtain ⟨rfl, rfl, rfl⟩ := hcs
    exact ⟨by omega, fun _ => ⟨[], rfl, IsInts.nil W⟩⟩
  · simp at hcs
    obtain ⟨rfl, rfl, rfl⟩ := hcs
    have hm' : cap ≤ 9223372036854775807 := by simpa [maxLen] using hm
    have hz' : len ≤ zs.length := by rw [hz]; split <;> omega
    refine ⟨by omega, fun hlen => ⟨zs.take len, by simp; omega, ?_⟩⟩
    have h64 : In64 (zs.take len) := fun n hn => i64_of_wf (hwz n (List.mem_of_mem_take hn))
    have hll : (zs.take len).length = len := by simp; omega
    obtain ⟨b, off, spot⟩ := y
    refine ⟨_, cap, by rw [hll], ⟨by rw [hll]; exact hl, fun e => by cases e⟩, hm', by rw [hll]; exact hlen, h64, b, off, fun hne => ?_, fun j hj => ?_⟩
    · have h0 : 0 < zs.length := by
        rcases Nat.eq_zero_or_pos zs.length with h | h
        · exact absurd (by rw [List.eq_nil_of_length_eq_zero h]; simp) hne
        · exact h
      have hc0 := hcell 0 h0
      have hs : spot = none := by simpa [Addr.add] using World.cell?_spot hc0
      subst hs
      exact ⟨rfl, World.block_lt_of_cell? W _ hc0⟩
    · rw [hll] at hj
      have hc0 := hcell j (by omega)
      have hs : spot = none := by simpa [Addr.add] using World.cell?_spot (hcell 0 (by omega))
      subst hs
      rw [Addr.add_lit] at hc0
      rw [hc0]
      simp [List.getD, hj]

end Go.Proofs.YtppglbffmgnooaaGreat
