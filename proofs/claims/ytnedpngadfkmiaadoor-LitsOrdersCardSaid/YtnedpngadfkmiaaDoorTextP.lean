/- Texts of normal lists, without the program: the bytes of a list, and a reader of them. -/
import Derived.Test.YtnedpngadfkmiaaDoorMay
import Derived.Lib.ItoaNum
import Derived.Lib.ItoaLen
namespace Go.Proofs.YtnedpngadfkmiaaDoor
open Go.RowKit Go.Lib
set_option linter.unusedVariables false

def textB : List Int → List UInt8
  | [] => []
  | [x] => itoa x
  | x :: y :: r => itoa x ++ 32 :: textB (y :: r)

theorem textB_snoc (l : List Int) (x : Int) : textB (l ++ [x]) = textB l ++ (if l = [] then [] else [32]) ++ itoa x := by
  induction l with
  | nil => simp [textB]
  | cons y r ih =>
    cases r with
    | nil => simp [textB]
    | cons z s =>
      rw [List.cons_append, List.cons_append, textB, ← List.cons_append, ih]
      simp [textB]

theorem mayFrom_len {p : Int} {l : List Int} (hp : 0 ≤ p) (h : mayFrom p l = true) (hl : p ≤ 65536) : p + l.length ≤ 65536 := by
  induction l generalizing p with
  | nil => simpa using hl
  | cons y r ih =>
    simp only [mayFrom, Bool.and_eq_true, decide_eq_true_eq] at h
    have hy := varOf_bd y
    have := ih hy.1 h.2 hy.2
    simp only [List.length_cons]; omega
theorem mayB_len {l : List Int} (h : mayB l = true) : l.length ≤ 65536 := by have := mayFrom_len (Int.le_refl 0) h (by omega); omega

theorem textB_len (l : List Int) (h : ∀ x ∈ l, -9223372036854775808 ≤ x ∧ x ≤ 9223372036854775807) : (textB l).length ≤ 22 * l.length := by
  induction l with
  | nil => simp [textB]
  | cons x r ih =>
    have h1 := itoa_length_le x (h x (by simp)).1 (h x (by simp)).2
    have h2 := ih (fun y hy => h y (List.mem_cons_of_mem _ hy))
    cases r with
    | nil => simp [textB]; omega
    | cons y s => simp only [textB, List.length_append, List.length_cons] at h2 ⊢; omega

/-- A reader's state: what has been read, the last variable, a minus, the number that is being read. -/
structure Rd where
  list : List Int
  before : Int
  minus : Bool
  num : Int

def Rd.lit (s : Rd) : Int := if s.minus then -s.num else s.num
def Rd.endS (s : Rd) : Option Rd := if s.num ≤ s.before then none else some ⟨s.list ++ [s.lit], s.num, false, 0⟩
/-- The next letter, as a rune. -/
def Rd.take (s : Rd) (c : Int) : Option Rd :=
  if c = 32 then s.endS
  else if c = 45 then (if s.minus = true ∨ 0 < s.num then none else some ⟨s.list, s.before, true, s.num⟩)
  else if 48 ≤ c ∧ c ≤ 57 then (if 0 < 10 * s.num + (c - 48) ∧ 10 * s.num + (c - 48) ≤ 65536 then some ⟨s.list, s.before, s.minus, 10 * s.num + (c - 48)⟩ else none)
  else none
def Rd.run : Rd → List UInt8 → Option Rd
  | s, [] => some s
  | s, c :: r => match s.take c.toNat with | none => none | some s' => s'.run r
def Rd.start : Rd := ⟨[], 0, false, 0⟩

theorem Rd.run_append (s : Rd) (a b : List UInt8) : s.run (a ++ b) = match s.run a with | none => none | some s' => s'.run b := by
  induction a generalizing s with
  | nil => rfl
  | cons c r ih =>
    show (match s.take c.toNat with | none => none | some s' => s'.run (r ++ b)) = match (match s.take c.toNat with | none => none | some s' => s'.run r) with | none => none | some s' => s'.run b
    cases s.take c.toNat with
    | none => rfl
    | some s' => exact ih s'

/-- What has been read: the text up to here. -/
def Rd.done (s : Rd) : List UInt8 :=
  (if s.list = [] then [] else textB s.list ++ [32]) ++ (if s.minus then [45] else []) ++ (if s.num = 0 then [] else decDigits s.num.toNat)
def lastVar (p : Int) (l : List Int) : Int := match l.getLast? with | none => p | some x => varOf x
theorem lastVar_snoc (p : Int) (l : List Int) (x : Int) : lastVar p (l ++ [x]) = varOf x := by unfold lastVar; simp
structure Rd.Ok (s : Rd) : Prop where
  may : mayB s.list = true
  last : s.before = lastVar 0 s.list
  low : 0 ≤ s.num
  high : s.num ≤ 65536

theorem itoa_lit (m : Bool) (n : Int) (h : 0 < n) : itoa (if m then -n else n) = (if m then [45] else []) ++ decDigits n.toNat := by
  unfold itoa
  cases m
  · simp only [Bool.false_eq_true, if_false, List.nil_append]
    rw [if_neg (by omega)]
  · simp only [if_true]
    rw [if_pos (by omega), show (-n).natAbs = n.toNat by omega]; rfl

theorem varOf_lit (m : Bool) (n : Int) (h : 0 < n) (h2 : n ≤ 65536) : varOf (if m then -n else n) = n := by
  unfold varOf; cases m
  · simp; omega
  · simp; omega

theorem mayFrom_snoc (p : Int) (l : List Int) (x : Int) : mayFrom p (l ++ [x]) = (mayFrom p l && decide (lastVar p l < varOf x)) := by
  induction l generalizing p with
  | nil => simp only [List.nil_append, mayFrom, Bool.and_true, Bool.true_and]; exact decide_eq_decide.2 Iff.rfl
  | cons y r ih =>
    rw [List.cons_append, mayFrom, ih, mayFrom, Bool.and_assoc]
    have : lastVar p (y :: r) = lastVar (varOf y) r := by
      cases r with
      | nil => rfl
      | cons z s =>
        unfold lastVar
        rw [List.getLast?_cons_cons]
        cases h : (z :: s).getLast? with
        | none => simp at h
        | some t => rfl
    rw [this]

theorem Rd.Ok.start : Rd.start.Ok := ⟨rfl, rfl, by decide, by decide⟩

theorem Rd.Ok.before_bd {s : Rd} (h : s.Ok) : 0 ≤ s.before ∧ s.before ≤ 65536 := by
  rw [h.last]
  unfold lastVar
  cases s.list.getLast? with
  | none => simp
  | some x => exact varOf_bd x

/-- The end of a number. -/
theorem Rd.end_ok {s s' : Rd} (h : s.Ok) (he : s.endS = some s') : s'.Ok ∧ s'.done = s.done ++ [32] ∧ textB s'.list = s.done := by
  unfold Rd.endS at he
  by_cases hb : s.num ≤ s.before
  · rw [if_pos hb] at he; cases he
  · rw [if_neg hb] at he
    injection he with he
    subst he
    have hbd := h.before_bd
    have hn : 0 < s.num := by omega
    have htx : textB (s.list ++ [s.lit]) = s.done := by
      rw [textB_snoc]
      unfold Rd.done Rd.lit
      rw [itoa_lit _ _ hn, if_neg (by omega : ¬ s.num = 0)]
      by_cases hl : s.list = []
      · rw [if_pos hl, if_pos hl, hl]; simp [textB]
      · rw [if_neg hl, if_neg hl]; simp
    refine ⟨⟨?_, ?_, by simp, by simp⟩, ?_, htx⟩
    · show mayFrom 0 (s.list ++ [s.lit]) = true
      rw [mayFrom_snoc, Bool.and_eq_true]
      refine ⟨h.may, ?_⟩
      have hl := h.last
      have hv : varOf s.lit = s.num := varOf_lit s.minus s.num hn h.high
      rw [decide_eq_true_eq, hv, ← hl]
      omega
    · show s.num = lastVar 0 (s.list ++ [s.lit])
      rw [lastVar_snoc]
      exact (varOf_lit s.minus s.num hn h.high).symm
    · show (if s.list ++ [s.lit] = [] then [] else textB (s.list ++ [s.lit]) ++ [32]) ++ (if false then [45] else []) ++ (if (0 : Int) = 0 then [] else _) = _
      rw [if_neg (by simp), htx]; simp

theorem decDigits_step (v d : Nat) (hv : 0 < 10 * v + d) (hd : d < 10) : decDigits (10 * v + d) = (if v = 0 then [] else decDigits v) ++ [UInt8.ofNat (48 + d)] := by
  by_cases h : v = 0
  · subst h
    rw [decDigits, dif_pos (by omega), if_pos rfl]; simp
  · rw [decDigits, dif_neg (by omega), if_neg h]
    rw [show (10 * v + d) / 10 = v by omega, show (10 * v + d) % 10 = d by omega]

theorem Rd.take_ok {s s' : Rd} {c : UInt8} (h : s.Ok) (he : s.take c.toNat = some s') : s'.Ok ∧ s'.done = s.done ++ [c] := by
  unfold Rd.take at he
  have hcb : c.toNat < 256 := c.toNat_lt
  have hc : ∀ n : Nat, n < 256 → (c.toNat : Int) = n → c = UInt8.ofNat n := fun n hn e => by
    apply UInt8.toNat_inj.1
    rw [UInt8.toNat_ofNat']
    omega
  by_cases h1 : (c.toNat : Int) = 32
  · rw [if_pos h1] at he
    have := Rd.end_ok h he
    rw [hc 32 (by omega) h1]
    exact ⟨this.1, this.2.1⟩
  rw [if_neg h1] at he
  by_cases h2 : (c.toNat : Int) = 45
  · rw [if_pos h2] at he
    by_cases h3 : s.minus = true ∨ 0 < s.num
    · rw [if_pos h3] at he; cases he
    · rw [if_neg h3] at he
      injection he with he
      subst he
      have hl := h.low
      have hm : s.minus = false := by cases hh : s.minus with | false => rfl | true => exact absurd (Or.inl hh) h3
      have hz : s.num = 0 := by have : ¬ 0 < s.num := fun x => h3 (Or.inr x); omega
      refine ⟨⟨h.may, h.last, h.low, h.high⟩, ?_⟩
      unfold Rd.done
      simp [hm, hz, hc 45 (by omega) h2]
  rw [if_neg h2] at he
  by_cases h3 : 48 ≤ (c.toNat : Int) ∧ (c.toNat : Int) ≤ 57
  · rw [if_pos h3] at he
    by_cases h4 : 0 < 10 * s.num + ((c.toNat : Int) - 48) ∧ 10 * s.num + ((c.toNat : Int) - 48) ≤ 65536
    · rw [if_pos h4] at he
      injection he with he
      subst he
      refine ⟨⟨h.may, h.last, by show (0:Int) ≤ 10 * s.num + ((c.toNat : Int) - 48); omega, h4.2⟩, ?_⟩
      have hl := h.low
      have hst := decDigits_step s.num.toNat (c.toNat - 48) (by omega) (by omega)
      have hcc : UInt8.ofNat (48 + (c.toNat - 48)) = c := (hc (48 + (c.toNat - 48)) (by omega) (by omega)).symm
      rw [hcc] at hst
      have hn : (10 * s.num + ((c.toNat : Int) - 48)).toNat = 10 * s.num.toNat + (c.toNat - 48) := by omega
      unfold Rd.done
      simp only
      rw [if_neg (by omega : ¬ 10 * s.num + ((c.toNat : Int) - 48) = 0), hn, hst]
      have e : (if s.num.toNat = 0 then ([] : List UInt8) else decDigits s.num.toNat) = if s.num = 0 then [] else decDigits s.num.toNat := by
        by_cases hz : s.num = 0
        · simp [hz]
        · rw [if_neg (by omega), if_neg hz]
      rw [e]; simp only [List.append_assoc]
    · rw [if_neg h4] at he; cases he
  · rw [if_neg h3] at he; cases he

theorem Rd.run_ok {s s' : Rd} {b : List UInt8} (h : s.Ok) (he : s.run b = some s') : s'.Ok ∧ s'.done = s.done ++ b := by
  induction b generalizing s with
  | nil => injection he with he; subst he; exact ⟨h, by simp⟩
  | cons c r ih =>
    simp only [Rd.run] at he
    cases ht : s.take c.toNat with
    | none => rw [ht] at he; cases he
    | some t =>
      rw [ht] at he
      obtain ⟨h1, h2⟩ := Rd.take_ok h ht
      obtain ⟨h3, h4⟩ := ih h1 he
      exact ⟨h3, by rw [h4, h2]; simp⟩

end Go.Proofs.YtnedpngadfkmiaaDoor
