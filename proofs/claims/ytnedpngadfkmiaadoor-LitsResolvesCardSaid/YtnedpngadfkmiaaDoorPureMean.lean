/- What resolvents and struck literals mean: facts on lists alone. -/
import Derived.Test.YtnedpngadfkmiaaDoorPureRes
import Derived.Test.YtnedpngadfkmiaaDoorPureSub
namespace Go.Proofs.YtnedpngadfkmiaaDoor
open Go.RowKit
set_option linter.unusedVariables false

/-- A literal is true if exactly the variables of s are. -/
def litTB (s : List Int) (x : Int) : Bool := decide (0 < x) == memB s (absOf x)
def trueB (l s : List Int) : Bool := l.any (litTB s)

theorem tautR_ok {l : List Int} (h : (tautR l).2 = 0) : mayB l = true ∧ tautR l = (l, 0) := by
  by_cases hm : mayB l = true
  · exact ⟨hm, tautR_yes hm⟩
  · unfold tautR at h; rw [if_neg hm] at h; exact absurd h (by decide)
theorem tautR_bad {l : List Int} (h : (tautR l).2 ≠ 0) : (tautR l).1 = [] := by
  by_cases hm : mayB l = true
  · rw [tautR_yes hm] at h; exact absurd rfl h
  · unfold tautR; rw [if_neg hm]

theorem resR_bad {a b : List Int} {v : Int} (h : (resR a b v).2 ≠ 0) : (resR a b v).1 = [] := by
  unfold resR at *
  split
  · rename_i h1
    rw [if_pos h1] at h
    split
    · rfl
    · rename_i h2
      rw [if_neg h2] at h
      unfold joinR at *
      split
      · rename_i h3
        rw [if_pos h3] at h
        exact tautR_bad h
      · rfl
  · rfl

/-- What a resolvent is. -/
structure ResOk (a b : List Int) (v : Int) (r : List Int) : Prop where
  ma : mayB a = true
  mb : mayB b = true
  mr : mayB r = true
  pos : 0 < v
  va : v ∈ a
  vb : -v ∈ b
  mem : ∀ y, y ∈ r ↔ (y ∈ a ∨ y ∈ b) ∧ varOf y ≠ v

theorem resR_ok {a b : List Int} {v : Int} (h : (resR a b v).2 = 0) : ResOk a b v (resR a b v).1 := by
  unfold resR at *
  by_cases h1 : (mayB a && mayB b) = true
  · rw [if_pos h1] at h ⊢
    by_cases h2 : v ≤ 0 ∨ memB a v = false ∨ memB b (-v) = false
    · rw [if_pos h2] at h; exact absurd h (by decide)
    · rw [if_neg h2] at h ⊢
      rw [Bool.and_eq_true] at h1
      obtain ⟨ha, hb⟩ := h1
      unfold joinR at *
      rw [if_pos (by rw [may_without, may_without]; rfl)] at h ⊢
      obtain ⟨hm, he⟩ := tautR_ok h
      rw [he]
      refine ⟨ha, hb, hm, ?_, ?_, ?_, fun y => ?_⟩
      · rcases Int.lt_or_le 0 v with k | k
        · exact k
        · exact absurd (.inl k) h2
      · have : memB a v ≠ false := fun k => h2 (.inr (.inl k))
        simpa [memB] using this
      · have : memB b (-v) ≠ false := fun k => h2 (.inr (.inr k))
        simpa [memB] using this
      · show y ∈ _ ↔ _
        rw [ins_mem, mem_without ha, mem_without hb]
        exact or_and_right.symm
  · rw [if_neg h1] at h; exact absurd h (by decide)

theorem ResOk.litv {a b r : List Int} {v : Int} (h : ResOk a b v r) : varOf v = v := by
  have := mayB_mem h.ma v h.va
  have hb := litB_bd this
  have := h.pos
  unfold varOf
  rw [if_neg (by omega), if_neg (by omega)]

theorem ResOk.sound {a b r : List Int} {v : Int} (h : ResOk a b v r) (s : List Int) (ha : trueB a s = true) (hb : trueB b s = true) : trueB r s = true := by
  unfold trueB at *
  rw [List.any_eq_true] at *
  obtain ⟨y, hy, ty⟩ := ha
  obtain ⟨z, hz, tz⟩ := hb
  by_cases h1 : varOf y = v
  · by_cases h2 : varOf z = v
    · have e1 : y = v := mayFrom_once h.ma y hy v h.va (by rw [h1, h.litv])
      have e2 : z = -v := mayFrom_once h.mb z hz (-v) h.vb (by rw [h2, varOf_neg', h.litv])
      subst e1 e2
      have hp := h.pos
      unfold litTB at ty tz
      have a1 : absOf y = y := by unfold absOf; rw [if_neg (by omega)]
      have a2 : absOf (-y) = y := by unfold absOf; rw [if_pos (by omega)]; omega
      rw [a1] at ty
      rw [a2] at tz
      have d1 : decide (0 < y) = true := by simpa using hp
      have d2 : decide (0 < -y) = false := by simp; omega
      rw [d1] at ty
      rw [d2] at tz
      cases hmm : memB s y <;> rw [hmm] at ty tz <;> simp at ty tz
    · exact ⟨z, (h.mem z).2 ⟨.inr hz, h2⟩, tz⟩
  · exact ⟨y, (h.mem y).2 ⟨.inl hy, h1⟩, ty⟩

theorem strikeR_str {a b : List Int} (h : strikeR a b ≠ 0) : Str a b (strikeR a b) := by
  unfold strikeR at *
  by_cases h1 : (mayB a && mayB b) = true
  · rw [if_pos h1] at h ⊢
    rw [Bool.and_eq_true] at h1
    cases hf : b.find? (strkB a b) with
    | none => rw [hf] at h; exact absurd rfl h
    | some y => exact (strk_iff h1.1 h1.2 (List.mem_of_find?_eq_some hf)).1 (List.find?_some hf)
  · rw [if_neg h1] at h; exact absurd rfl h

theorem ResOk.struck {a b r : List Int} {v : Int} (h : ResOk a b v r) (h0 : strikeR a b ≠ 0) (hv : strikeR a b = -v) : r = withoutL b v := by
  have hs := strikeR_str h0
  rw [hv] at hs
  obtain ⟨_, _, h3⟩ := hs
  refine sorted_unique (may_sorted (Int.le_refl 0) h.mr) (may_sorted (Int.le_refl 0) (may_without b v)) (fun y => ?_)
  rw [h.mem, mem_without h.mb]
  constructor
  · rintro ⟨hy | hy, hne⟩
    · exact ⟨h3 y hy (by rw [varOf_neg', h.litv]; exact hne), hne⟩
    · exact ⟨hy, hne⟩
  · rintro ⟨hy, hne⟩
    exact ⟨.inr hy, hne⟩

end Go.Proofs.YtnedpngadfkmiaaDoor
