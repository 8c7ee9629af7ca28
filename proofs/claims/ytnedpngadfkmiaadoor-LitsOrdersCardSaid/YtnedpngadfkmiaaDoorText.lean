/- lits.Text: the text of a normal list. -/
import Derived.Test.YtnedpngadfkmiaaDoorTextD
import Derived.Test.YtnedpngadfkmiaaDoorShelf
import Derived.Test.YtnedpngadfkmiaaDoorOwn
import Derived.Test.YtnedpngadfkmiaaDoorCopied
import Derived.Test.YtnedpngadfkmiaaDoorWith
import Derived.Lib.BufferRead
import Derived.Laws.IdiomStrings
namespace Go.Proofs.YtnedpngadfkmiaaDoor
open Go.RowKit
set_option linter.unusedVariables false

def OwnS (w : World) (B : Nat) (v : Value) (b : List UInt8) : Prop := w.ownsRow B 5 1 v b.length (Lib.byteCells b)
theorem OwnS.row {w : World} {B : Nat} {v : Value} {b : List UInt8} (h : OwnS w B v b) : w.ownsRow B 5 1 v b.length (Lib.byteCells b) := h
theorem OwnS.nil (w : World) (B : Nat) : OwnS w B (.slice none 0 0) [] := World.ownsRow_nil _ _ _ _
theorem OwnS.alloc {w : World} {B : Nat} {v : Value} {xs : List UInt8} (h : OwnS w B v xs) (o : Obj) : OwnS (w.alloc o) B v xs := World.ownsRow.alloc h o
theorem OwnS.lt {w : World} {B : Nat} {v : Value} {xs : List UInt8} (h : OwnS w B v xs) : ∀ k, v.ownBlock = some k → B ≤ k ∧ k < w.heap.size := World.ownsRow.lt h

theorem info_u8 : (Tryd.prog.info? 5).map (fun i => (i.zero, i.size, i.bytes)) = some (some (.int .u8 0), 1, 1) := by kernel_rfl

theorem byteCells_append (a b : List UInt8) : Lib.byteCells a ++ Lib.byteCells b = Lib.byteCells (a ++ b) := by simp [Lib.byteCells]

theorem wpList_appS {w : World} {ops : Array Oper} {rest : List Oper} {o : Oper} {a : Act} {Q : Exit → Act → World → Prop} (hgd : o.guard = none) (s x : Operand)
    (ho : o.op = .call { callee := .builtin .append, args := #[s, x], argTypes := #[93, 93] }) (B : Nat) (v : Value) (xs : List UInt8) (y : UInt8) (g : Nat)
    (hs : a.eval s = v) (hx : a.eval x = .slice (some ⟨g, 0, none⟩) 1 1) (hown : OwnS w B v xs) (hy : w.cell? ⟨g, 0, none⟩ = some (.int .u8 (y.toNat : Int))) (hlen : xs.length < 17592186044416) (hB : B ≤ w.heap.size)
    (h : ∀ v' w', OwnS w' B v' (xs ++ [y]) → w.grownBy w' v.ownBlock → wpList Tryd.prog ops Q rest (a.put o.dst v') w') : wpList Tryd.prog ops Q (o :: rest) a w := by
  obtain ⟨i0, hi, hz0, hz1, hz2⟩ := info_parts info_u8
  refine wpList_append_own _ hgd s x 93 ho B 5 i0 (.int .u8 0) 1 1 Tryd.underlying93 hi hz0 hz1 hz2 rfl (by decide) v xs.length _ hs hown ⟨g, 0, none⟩ 1 1 [.int .u8 (y.toNat : Int)] hx (by simp) ?_ (by simp [Value.oneCell']) (by unfold maxLen; omega) (by omega) hB ?_
  · intro j u hj
    match j, hj with
    | 0, hj => simp at hj; subst hj; simpa [Addr.add] using hy
  · intro v' w' h1 h2 _
    refine h v' w' ?_ h2
    unfold OwnS
    rw [List.length_append, ← byteCells_append]
    exact h1

theorem belowS {w w1 w2 : World} {B : Nat} {v : Value} {xs : List UInt8} (hb : Below B w w1) (hown : OwnS w1 B v xs) (hB : B ≤ w1.heap.size) (hg : w1.grownBy w2 v.ownBlock) : Below B w w2 :=
  hb.grown hg hB (fun k hk => (hown.lt k hk).1)

/-- The table that AppendInt reads. -/
def Pow (B : Nat) (w : World) : Prop := Lib.TabBelow Tryd.prog B w "internal/strconv.uint64pow10" .u64 Lib.pow10Tab
theorem Pow.on {B : Nat} {w w1 : World} (h : Pow B w) (hb : Below B w w1) : Pow B w1 := Lib.TabBelow.on h hb
theorem Pow.up {B C : Nat} {w : World} (h : Pow B w) (hC : B ≤ C) : Pow C w := fun w' hb => h w' (hb.mono hC)

set_option maxHeartbeats 400000 in
set_option maxRecDepth 100000 in
theorem text_any (v : Value) (l : List Int) (w : World) (H : IsInts w v l) (hT : Pow w.heap.size w) :
    Calls Tryd.prog 52 #[v] w (fun e w' => e = .returned (.tuple #[strV (textL l), .int .i64 (codeT l)]) ∧ Below w.heap.size w w') := by
  have H0 := H
  obtain ⟨a, cap, rfl, _, _, hl, h64, b, off, ha, hc⟩ := H
  by_cases hm : mayB l = true
  · have HR : Hid (textL l = textB l ∧ codeT l = 0) := by show _ ∧ _; unfold textL codeT; rw [if_pos hm, if_pos hm]; exact ⟨rfl, rfl⟩
    go_enter Tryd.func52, Tryd.ntmps52
    go_wp2_with (go_at_call 24; refine (may_v _ l _ H0).mono ?_; rintro e w1 ⟨rfl, rfl⟩)
    go_loopw [4, 12] (fun out i wr => ∃ k : Nat, k ≤ l.length ∧ i = .int .i64 k ∧ OwnS wr w.heap.size out (textB (l.take k)) ∧ Below w.heap.size w wr) (fun _ i _ => l.length - (intOf i).toNat)
    case atStart => exact ⟨0, Nat.zero_le _, rfl, OwnS.nil _ _, Below.refl _ _⟩
    case round =>
      obtain ⟨k, hk, rfl, hown, hbel⟩ := hrel
      have hln := textB_take_len hm hk
      have hsz := hbel.size
      by_cases hlt : k < l.length
      · obtain ⟨rfl, hb⟩ := ha (by intro h; simp [h] at hlt)
        have hy := (hbel.cell (p := ⟨b, off + k, none⟩) hb).trans (hc k hlt)
        have hy1 := (h64.at k hlt).1
        have hy2 := (h64.at k hlt).2
        have HT := Lib.hid (textB_take hlt)
        have HTp := Lib.hid hT
        clear hc ha hT
        generalize l.getD k 0 = y at *
        generalize textB (l.take k) = tb at *
        by_cases h0 : k = 0
        · subst h0
          rw [Nat.add_zero] at hy
          have hT2 := HTp.out.on hbel
          go_wp2_with (go_at_call 108; refine (Tryd.strconv_AppendInt_10 w.heap.size tb.length y hy1 hy2 _ _ wr hown.row hsz (by omega) hT2).mono ?_; rintro e w2 ⟨v2, rfl, hown2, hbel2, -⟩)
          go_roundw
          case rel => exact ⟨1, by omega, by go_num, by rw [HT.out]; simp only [if_true, List.append_nil]; unfold OwnS; rw [← byteCells_append, List.length_append]; exact hown2, hbel.trans hbel2⟩
          case measure => simp [intOf]; omega
        · go_wp2_with (first | (at_builtin; refine wpList_appS rfl _ _ rfl w.heap.size _ _ 32 wr.heap.size rfl rfl (hown.alloc _) (by simp) (by omega) (by simp; omega) ?_; intro v1 w1 hown1 hg1; have hbel1 := belowS (hbel.alloc (by omega) _) (hown.alloc _) (by simp; omega) hg1; have hsz1 := hbel1.size; have hT2 := HTp.out.on hbel1) | (go_at_call 108; refine (Tryd.strconv_AppendInt_10 w.heap.size (tb ++ [32]).length y hy1 hy2 v1 _ w1 hown1.row hsz1 (by simp; omega) hT2).mono ?_; rintro e w2 ⟨v2, rfl, hown2, hbel2, -⟩))
          go_roundw
          case rel => exact ⟨k + 1, by omega, by go_num, by rw [HT.out, if_neg h0]; unfold OwnS; rw [← byteCells_append, List.length_append]; exact hown2, hbel1.trans hbel2⟩
          case measure => simp [intOf]; omega
      · have hown2 := hown
        rw [List.take_of_length_le (by omega)] at hown2 hln
        rw [← HR.out.1] at hown2 hln
        have HC := Lib.hid HR.out.2
        obtain ⟨tb, hg⟩ : ∃ tb, tb = textL l := ⟨_, rfl⟩
        rw [← hg] at hown2 hln
        have HG := Lib.hid hg
        clear hown HR hg
        rcases hown2.2 with ⟨rfl, h0⟩ | ⟨g, cap', cur, rfl, -, -, -, -, -, -⟩
        · have : tb = [] := List.eq_nil_of_length_eq_zero h0
          subst this
          have hcv := Lib.run_convert_nil_bytes (P := Tryd.prog) wr 93 9 5 0 Tryd.underlying93 Tryd.underlying5 Tryd.underlying9
          go_wp2
          go_ret2
          refine ⟨?_, hbel⟩
          rw [HC.out, ← HG.out]; exact ret_strc rfl rfl
        · have hcv := run_convert_bytes_back (P := Tryd.prog) wr 93 9 5 ⟨g, 0, none⟩ cap' tb Tryd.underlying93 Tryd.underlying5 Tryd.underlying9 (fun j hj => World.ownsRow.cells (g := g) hown2 rfl j _ (by simp [Lib.byteCells, hj]))
          go_wp2
          go_ret2
          refine ⟨?_, hbel⟩
          rw [HC.out, ← HG.out]; exact ret_strc rfl rfl
  · have hm' : mayB l = false := by simpa using hm
    have HR : Hid (textL l = [] ∧ codeT l = 2) := by show _ ∧ _; unfold textL codeT; rw [if_neg hm, if_neg hm]; exact ⟨rfl, rfl⟩
    clear hm
    go_enter Tryd.func52, Tryd.ntmps52
    go_wp2_with (go_at_call 24; refine (may_v _ l _ H0).mono ?_; rintro e w1 ⟨rfl, rfl⟩)
    go_ret2
    refine ⟨?_, Below.refl _ _⟩
    rw [HR.out.1, HR.out.2]; exact ret_strc rfl rfl

end Go.Proofs.YtnedpngadfkmiaaDoor
