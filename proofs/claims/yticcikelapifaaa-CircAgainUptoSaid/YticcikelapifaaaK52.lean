/- Joined texts: CxOpU. -/
import Derived.Test.YticcikelapifaaaK22
import Derived.Test.YticcikelapifaaaK48
/- A slice of uint16 that came in, opened for the walks. -/
namespace Go.Proofs.Yticcikelapifaaa
open Go.ChangeShapes Go.WideShapes Go.ChangeAt Go.RowKit
set_option linter.unusedVariables false

theorem u16_wf {n : Int} (h : (Lit.int .u16 n).wf = true) : 0 ≤ n ∧ n ≤ 65535 := by
  have := Go.Extern.FmtText.int_bounds h
  simpa [IntKind.min, IntKind.max, IntKind.signed, IntKind.bits] using this
set_option maxRecDepth 100000 in
theorem u16s_of {H : Type} {enc : TypeId × Value → H} {W : World} {base : Nat} {sp : Nat → Bool} {held : Bool} {fuel : Nat} {a : Option Addr} {len cap : Nat} {x : DataW H × List MemPlace}
    (h : DataW.trod enc Try.prog W base sp held fuel 66 [.slice a len cap] = some x) : ∃ l, IsU16 W (.slice a len cap) l := by
  rcases open_ints Try.underlying66 Try.underlying67 (by kernel_rfl) h with ⟨hcs, _⟩ | ⟨y, l, c, zs, hcs, _, hl, hm, hz, _, hcell, hwz⟩
  · simp at hcs
    obtain ⟨rfl, rfl, rfl⟩ := hcs
    exact ⟨[], none, 0, rfl, by simp, fun x hx => (by cases hx), 0, 0, fun h => absurd rfl h, fun j hj => by simp at hj⟩
  · simp at hcs
    obtain ⟨rfl, rfl, rfl⟩ := hcs
    have hm' : cap ≤ 9223372036854775807 := by simpa [maxLen] using hm
    have hz' : len ≤ zs.length := by rw [hz]; split <;> omega
    have hll : (zs.take len).length = len := by simp; omega
    obtain ⟨b, off, spot⟩ := y
    refine ⟨zs.take len, _, cap, by rw [hll], by rw [hll]; omega, fun n hn => u16_wf (hwz n (List.mem_of_mem_take hn)), b, off, fun hne => ?_, fun j hj => ?_⟩
    · have h0 : 0 < zs.length := by
        rcases Nat.eq_zero_or_pos zs.length with h | h
        · exact absurd (by rw [List.eq_nil_of_length_eq_zero h]; simp) hne
        · exact h
      have hc0 := hcell 0 h0
      have hs : spot = none := by simpa [Addr.add] using World.cell?_spot hc0
      subst hs
      exact ⟨rfl, World.block_lt_of_cell? W _ hc0⟩
    · rw [hll] at hj
      have hc0 := hcell j (by omega)
      have hs : spot = none := by simpa [Addr.add] using World.cell?_spot (hcell 0 (by omega))
      subst hs
      rw [Addr.add_lit] at hc0
      rw [hc0]
      simp [List.getD, hj]
end Go.Proofs.Yticcikelapifaaa
