/- The text of a normal list as a value. -/
import Derived.Test.YtnedpngadfkmiaaDoorTextQ
import Derived.Test.YtnedpngadfkmiaaDoorCopied
namespace Go.Proofs.YtnedpngadfkmiaaDoor
open Go.RowKit
set_option linter.unusedVariables false

def strV (b : List UInt8) : Value := .string ⟨b.toArray⟩
theorem ret_strc {z z2 : Value} {b : List UInt8} {c : Int} (h : z = strV b) (h2 : z2 = .int .i64 c) : Ending.returned (.tuple #[z, z2]) = Ending.returned (.tuple #[strV b, .int .i64 c]) := by rw [h, h2]

def textL (l : List Int) : List UInt8 := if mayB l then textB l else []
def codeT (l : List Int) : Int := if mayB l then 0 else 2

theorem textB_take {l : List Int} {k : Nat} (h : k < l.length) : textB (l.take (k + 1)) = textB (l.take k) ++ (if k = 0 then [] else [32]) ++ Lib.itoa (l.getD k 0) := by
  have e : l.take (k + 1) = l.take k ++ [l.getD k 0] := by rw [List.take_succ_eq_append_getElem h]; simp [List.getD, h]
  rw [e, textB_snoc]
  congr 2
  by_cases hk : k = 0
  · subst hk; simp
  · rw [if_neg hk, if_neg]
    intro e
    have := congrArg List.length e
    rw [List.length_take, List.length_nil] at this
    omega
theorem textB_take_len {l : List Int} {k : Nat} (hm : mayB l = true) (hk : k ≤ l.length) : (textB (l.take k)).length ≤ 1441792 := by
  have h1 := mayB_len hm
  have h2 := textB_len (l.take k) (fun x hx => by have := litB_bd (mayB_mem hm x (List.mem_of_mem_take hx)); omega)
  simp only [List.length_take] at h2
  omega

end Go.Proofs.YtnedpngadfkmiaaDoor
