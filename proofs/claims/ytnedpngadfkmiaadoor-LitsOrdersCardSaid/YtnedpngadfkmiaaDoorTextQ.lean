/- The texts of normal lists are read again. -/
import Derived.Test.YtnedpngadfkmiaaDoorTextP
namespace Go.Proofs.YtnedpngadfkmiaaDoor
open Go.RowKit Go.Lib
set_option linter.unusedVariables false

theorem u8_toNat (n : Nat) (h : n < 256) : (UInt8.ofNat n).toNat = n := by rw [UInt8.toNat_ofNat']; omega

theorem Rd.run_digits (u : Nat) : ∀ s : Rd, s.num = 0 → 0 < u → u ≤ 65536 → s.run (decDigits u) = some ⟨s.list, s.before, s.minus, u⟩ := by
  induction u using Nat.strongRecOn with
  | ind u ih =>
    intro s h0 hu hle
    by_cases h : u < 10
    · rw [decDigits, dif_pos h]
      show (match s.take (UInt8.ofNat (48 + u)).toNat with | none => none | some s' => s'.run []) = _
      have : s.take (UInt8.ofNat (48 + u)).toNat = some ⟨s.list, s.before, s.minus, u⟩ := by
        unfold Rd.take
        rw [u8_toNat _ (by omega), if_neg (by omega), if_neg (by omega), if_pos (by omega), h0, if_pos (by omega)]
        congr 2; omega
      rw [this]; rfl
    · rw [decDigits, dif_neg h, Rd.run_append, ih (u / 10) (by omega) s h0 (by omega) (by omega)]
      show (match (Rd.mk s.list s.before s.minus ((u / 10 : Nat) : Int)).take (UInt8.ofNat (48 + u % 10)).toNat with | none => none | some s' => s'.run []) = _
      have : (Rd.mk s.list s.before s.minus ((u / 10 : Nat) : Int)).take (UInt8.ofNat (48 + u % 10)).toNat = some ⟨s.list, s.before, s.minus, u⟩ := by
        unfold Rd.take
        simp only
        rw [u8_toNat _ (by omega), if_neg (by omega), if_neg (by omega), if_pos (by omega), if_pos (by omega)]
        congr 2; omega
      rw [this]; rfl

theorem Rd.run_itoa (s : Rd) (x : Int) (h0 : s.num = 0) (hm : s.minus = false) (hx : litB x = true) : s.run (itoa x) = some ⟨s.list, s.before, decide (x < 0), varOf x⟩ := by
  have hb : x ≠ 0 ∧ -65536 ≤ x ∧ x ≤ 65536 := by unfold litB at hx; simpa using hx
  unfold itoa
  by_cases h : x < 0
  · rw [if_pos h]
    show (match s.take ((45 : UInt8).toNat : Int) with | none => none | some s' => s'.run (decDigits x.natAbs)) = _
    have : s.take ((45 : UInt8).toNat : Int) = some ⟨s.list, s.before, true, 0⟩ := by
      unfold Rd.take
      rw [show ((45 : UInt8).toNat : Int) = 45 from rfl, if_neg (by omega), if_pos rfl, if_neg (by simp [hm, h0]), h0]
    rw [this]
    show (Rd.mk s.list s.before true 0).run (decDigits x.natAbs) = _
    rw [Rd.run_digits _ _ rfl (by omega) (by omega)]
    have hv : varOf x = x.natAbs := by unfold varOf; rw [if_neg (by omega), if_pos h]; omega
    rw [hv]; simp [h]
  · rw [if_neg h, Rd.run_digits _ _ h0 (by omega) (by omega), hm]
    have hv : varOf x = x.toNat := by unfold varOf; rw [if_neg (by omega), if_neg h]; omega
    rw [hv]; simp [h]

theorem lit_of (x : Int) (hx : litB x = true) : (if decide (x < 0) = true then -(varOf x) else varOf x) = x := by
  have hb : x ≠ 0 ∧ -65536 ≤ x ∧ x ≤ 65536 := by unfold litB at hx; simpa using hx
  unfold varOf
  by_cases h : x < 0
  · rw [if_pos (by simp [h]), if_neg (by omega), if_pos h]; omega
  · rw [if_neg (by simp [h]), if_neg (by omega), if_neg h]

theorem mayB_init {l : List Int} {x : Int} (h : mayB (l ++ [x]) = true) : mayB l = true ∧ lastVar 0 l < varOf x := by
  unfold mayB at *
  rw [mayFrom_snoc, Bool.and_eq_true, decide_eq_true_eq] at h
  exact h

/-- A normal list's text is read to its end. -/
theorem Rd.run_text (l : List Int) (x : Int) (h : mayB (l ++ [x]) = true) : ∃ st st', Rd.start.run (textB (l ++ [x])) = some st ∧ st.endS = some st' ∧ st'.list = l ++ [x] ∧ st'.minus = false ∧ st'.num = 0 ∧ st'.Ok := by
  have hfin : ∀ (l : List Int) (x : Int) (s : Rd), mayB (l ++ [x]) = true → s.list = l → s.num = 0 → s.minus = false → s.Ok → ∃ st st', s.run (itoa x) = some st ∧ st.endS = some st' ∧ st'.list = l ++ [x] ∧ st'.minus = false ∧ st'.num = 0 ∧ st'.Ok := by
    intro l x s hm hl h0 hmi hok
    have hlit : litB x = true := by
      have : ∀ y ∈ l ++ [x], litB y = true := by
        have hh : ∀ (p : Int) (l : List Int), 0 ≤ p → mayFrom p l = true → ∀ y ∈ l, litB y = true := by
          intro p l
          induction l generalizing p with
          | nil => intro _ _ y hy; cases hy
          | cons z r ih =>
            intro hp h y hy
            simp only [mayFrom, Bool.and_eq_true, decide_eq_true_eq] at h
            rcases List.mem_cons.1 hy with rfl | hy
            · rw [litB_var]; simp; omega
            · exact ih (varOf z) (varOf_bd z).1 h.2 y hy
        exact hh 0 _ (Int.le_refl 0) hm
      exact this x (by simp)
    refine ⟨_, ⟨l ++ [x], varOf x, false, 0⟩, Rd.run_itoa s x h0 hmi hlit, ?_, rfl, rfl, rfl, ?_⟩
    · unfold Rd.endS
      have hlast := hok.last
      rw [hl] at hlast
      rw [if_neg (by show ¬ varOf x ≤ s.before; rw [hlast]; have := (mayB_init hm).2; omega)]
      unfold Rd.lit
      simp only
      rw [lit_of x hlit, hl]
    · refine ⟨hm, ?_, by simp, by simp⟩
      show varOf x = lastVar 0 (l ++ [x])
      rw [lastVar_snoc]
  have key : ∀ (n : Nat) (l : List Int) (x : Int), l.length = n → mayB (l ++ [x]) = true → ∃ st st', Rd.start.run (textB (l ++ [x])) = some st ∧ st.endS = some st' ∧ st'.list = l ++ [x] ∧ st'.minus = false ∧ st'.num = 0 ∧ st'.Ok := by
   intro n
   induction n with
   | zero =>
    intro l x hl h
    have : l = [] := List.length_eq_zero_iff.1 hl
    subst this
    rw [List.nil_append]
    exact hfin [] x Rd.start h rfl rfl rfl Rd.Ok.start
   | succ n ih' =>
    intro l' x hl h
    obtain ⟨l, y, rfl⟩ : ∃ l y, l' = l ++ [y] := by
      rcases List.eq_nil_or_concat l' with rfl | ⟨l0, y, rfl⟩
      · cases hl
      · exact ⟨l0, y, by simp⟩
    have ih := fun y => ih' l y (by simpa using hl)
    obtain ⟨st, st', h1, h2, h3, h4, h5, h6⟩ := ih y (mayB_init h).1
    obtain ⟨su, su', k1, k2, k3, k4, k5, k6⟩ := hfin (l ++ [y]) x st' h h3 h5 h4 h6
    refine ⟨su, su', ?_, k2, k3, k4, k5, k6⟩
    rw [textB_snoc, if_neg (by simp), List.append_assoc, Rd.run_append, h1]
    show st.run (32 :: itoa x) = _
    show (match st.take ((32 : UInt8).toNat : Int) with | none => none | some s' => s'.run (itoa x)) = _
    have : st.take ((32 : UInt8).toNat : Int) = some st' := by
      unfold Rd.take
      rw [show ((32 : UInt8).toNat : Int) = 32 from rfl, if_pos rfl]; exact h2
    rw [this]; exact k1
  exact key _ l x rfl h

/-- What a text is read as. -/
def readL (b : List UInt8) : List Int × Int :=
  if b = [] then ([], 0) else match Rd.start.run b with
    | none => ([], 5)
    | some st => match st.endS with | none => ([], 5) | some st' => (st'.list, 0)

theorem start_done : Rd.start.done = [] := rfl

theorem readL_text {l : List Int} (h : mayB l = true) : readL (textB l) = (l, 0) := by
  unfold readL
  rcases List.eq_nil_or_concat l with rfl | ⟨l0, x, rfl⟩
  · rfl
  · rw [List.concat_eq_append] at *
    obtain ⟨st, st', h1, h2, h3, _⟩ := Rd.run_text l0 x h
    have hne : ¬ textB (l0 ++ [x]) = [] := by
      intro e
      rw [e] at h1
      injection h1 with h1
      subst h1
      cases h2
    rw [if_neg hne, h1]
    simp only [h2, h3]
theorem readL_ok {b : List UInt8} {l : List Int} (h : readL b = (l, 0)) : mayB l = true ∧ textB l = b := by
  unfold readL at h
  by_cases hb : b = []
  · rw [if_pos hb] at h; injection h with h; subst h; subst hb; exact ⟨rfl, rfl⟩
  · rw [if_neg hb] at h
    cases h1 : Rd.start.run b with
    | none => rw [h1] at h; injection h with _ h; cases h
    | some st =>
      rw [h1] at h
      cases h2 : st.endS with
      | none => simp only [h2] at h; injection h with _ h; cases h
      | some st' =>
        simp only [h2] at h
        injection h with h
        subst h
        obtain ⟨k1, k2⟩ := Rd.run_ok Rd.Ok.start h1
        obtain ⟨m1, m2, m3⟩ := Rd.end_ok k1 h2
        exact ⟨m1.may, by rw [m3, k2, start_done]; rfl⟩
theorem readL_err {b : List UInt8} (h : (readL b).2 ≠ 0) : readL b = ([], 5) := by
  unfold readL at *
  by_cases hb : b = []
  · rw [if_pos hb] at h; exact absurd rfl h
  · rw [if_neg hb] at h ⊢
    cases h1 : Rd.start.run b with
    | none => rfl
    | some st =>
      rw [h1] at h
      cases h2 : st.endS with
      | none => simp [h2]
      | some st' => simp [h2] at h
theorem readL_iff (b : List UInt8) (l : List Int) (hm : mayB l = true) (ht : textB l = b) : readL b = (l, 0) := by rw [← ht]; exact readL_text hm
theorem readL_none {b : List UInt8} (h : ∀ l, mayB l = true → textB l ≠ b) : readL b = ([], 5) := by
  by_cases h0 : (readL b).2 = 0
  · have : readL b = ((readL b).1, 0) := by rw [← h0]
    obtain ⟨h1, h2⟩ := readL_ok this
    exact absurd h2 (h _ h1)
  · exact readL_err h0

end Go.Proofs.YtnedpngadfkmiaaDoor
