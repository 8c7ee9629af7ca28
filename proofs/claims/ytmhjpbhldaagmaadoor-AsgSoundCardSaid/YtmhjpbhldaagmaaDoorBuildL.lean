/- 'append([][]int{x}, ..)': the row of one that is built first, under a letter. -/
import Derived.Test.YtmhjpbhldaagmaaDoorMgS
namespace Go.Proofs.YtmhjpbhldaagmaaDoor
open Go.RowKit
set_option linter.unusedVariables false

set_option maxHeartbeats 400000 in
theorem wpList_build1 {w : World} {ops : Array Oper} {rest : List Oper} {o : Oper} {a : Act} {Q : Exit → Act → World → Prop} (hgd : o.guard = none) (t : Tmp)
    (hop : o.op = Op.buildSlice 22 1 #[(0, .tmp t)]) (v : Value) (hx : a.tmps[t]?.getD undef = v) (s : Option Addr) (n c : Nat) (hv : v = .slice s n c)
    (h : ∀ w', w' = w.alloc (.cells #[v] 23) → wpList Tryd.prog ops Q rest (a.put o.dst (.slice (some ⟨w.heap.size, 0, none⟩) 1 1)) w') : wpList Tryd.prog ops Q (o :: rest) a w := by
  subst hv
  refine wpList_plain hgd fun K hK => ?_
  unfold Oper.wp
  simp only [execOp, hop]
  have h2 := hK _ _ (h _ rfl)
  clear h hK
  go_simp
  exact h2

/-- 'append(s, f...)' over rows of an elder world. -/
theorem wpList_appRs0 {w0 w : World} {ops : Array Oper} {rest : List Oper} {o : Oper} {a : Act} {Q : Exit → Act → World → Prop} (hgd : o.guard = none) (s x : Operand)
    (ho : o.op = .call { callee := .builtin .append, args := #[s, x], argTypes := #[22, 22] }) (B : Nat) (v : Value) (us : List Value) (af : Option Addr) (m cap : Nat) (f : List (List Int))
    (hs : a.eval s = v) (hx : a.eval x = .slice af m cap) (H : IsRows w0 (.slice af m cap) f) (hb0 : Below w0.heap.size w0 w) (hown : OwnR w B v us) (ls : List (List Int)) (hr : RowsAre w0 us ls) (hus : us.length ≤ 1000000) (hm : m ≤ 1000000) (hB : B ≤ w.heap.size)
    (h : ∀ w' T A c, RowsAre w0 T (ls ++ f) → OwnR w' B (.slice A T.length c) T → w.grownBy w' v.ownBlock → wpList Tryd.prog ops Q rest (a.put o.dst (.slice A T.length c)) w') : wpList Tryd.prog ops Q (o :: rest) a w := by
  refine wpList_plain hgd fun K hK => ?_
  have h9 := step_appRs0 (w0 := w0) (ops := ops) (K := K) (Q := Q) (E := True) o.dst rfl hgd s x ho B v us af m cap f hs hx H hb0 hown ls hr hus hm hB (fun w' T A c h1 h2 h3 => hK _ _ (h w' T A c h1 h2 h3))
  have hw : Region.wanted o (yielded ops a.tmps) = true := by simp [Region.wanted, hgd]
  rw [if_pos hw] at h9
  exact h9

end Go.Proofs.YtmhjpbhldaagmaaDoor
