/- Joined texts: Pure, Base, Own, May, Has, Filt, Copied, With, NormR, JoinR, SubR, StrikeR, Merge, Cnf. -/
import Derived.Test.YtppglbffmgnooaaGreatProg
import Derived.WalkKit
import Derived.WalkSpells
import Derived.WalkLawsBesides
import Derived.Lib.Hide
import Derived.Deep.QuietTactic
import Derived.BigQuiet
import Derived.Laws.AppendOwnNone
import Derived.Laws.CopyOwn
/- The contracts of the functions of numbers (variables, sizes, the order of two literals). -/
namespace Go.Proofs.YtppglbffmgnooaaGreat
open Go.RowKit

/-- The variable of a literal, 0 for any other integer. -/
def varOf (x : Int) : Int := if x < -65536 ∨ 65536 < x then 0 else if x < 0 then -x else x

/-- The absolute value. -/
def absOf (x : Int) : Int := if x < 0 then -x else x

/-- Whether an integer is a literal. -/
def litB (x : Int) : Bool := decide (x ≠ 0 ∧ -65536 ≤ x ∧ x ≤ 65536)

/-- The order of literals. -/
def litLt (x y : Int) : Prop := absOf x < absOf y ∨ absOf x = absOf y ∧ x < y
instance (x y : Int) : Decidable (litLt x y) := by unfold litLt; infer_instance

theorem ret_int {k : IntKind} {a b : Int} (h : a = b) : Ending.returned (.int k a) = .returned (.int k b) := by rw [h]
theorem ret_bool {a b : Bool} (h : a = b) : Ending.returned (.bool a) = .returned (.bool b) := by rw [h]

theorem litB_var (x : Int) : litB x = decide (varOf x ≠ 0) := by
  unfold litB varOf
  by_cases a : x < -65536 ∨ 65536 < x
  · rw [if_pos a]; simp; omega
  · rw [if_neg a]; split <;> (rw [Bool.eq_iff_iff]; simp; omega)

end Go.Proofs.YtppglbffmgnooaaGreat

/- Words for what a slice of integers holds, and facts on lists. -/
namespace Go.Proofs.YtppglbffmgnooaaGreat
open Go.RowKit
set_option linter.unusedVariables false

/-- The slice's address leads to these integers; of an empty one nothing is known. -/
def IntsAt (w : World) (a : Option Addr) (l : List Int) : Prop :=
  ∃ b off, (l ≠ [] → a = some ⟨b, off, none⟩ ∧ b < w.heap.size) ∧ ∀ j, j < l.length → w.cell? ⟨b, off + j, none⟩ = some (.int .i64 (l.getD j 0))

/-- All are of the kind int. -/
def In64 (l : List Int) : Prop := ∀ x ∈ l, -9223372036854775808 ≤ x ∧ x ≤ 9223372036854775807

theorem In64.at {l : List Int} (h : In64 l) (k : Nat) (hk : k < l.length) : -9223372036854775808 ≤ l.getD k 0 ∧ l.getD k 0 ≤ 9223372036854775807 := by
  have := h (l.getD k 0) (by simp [List.getD, hk])
  exact this

/-- Some draws apart, the world is as it was. -/
def Quiet (w w' : World) : Prop := ∃ m, w' = w.drewN m
theorem Quiet.refl (w : World) : Quiet w w := ⟨0, rfl⟩
theorem Quiet.trans {a b c : World} (h : Quiet a b) (k : Quiet b c) : Quiet a c := by
  obtain ⟨m, rfl⟩ := h; obtain ⟨n, rfl⟩ := k; exact ⟨m + n, by rw [World.drewN_drewN]⟩
theorem Quiet.drewN {a b : World} (h : Quiet a b) (n : Nat) : Quiet a (b.drewN n) := h.trans ⟨n, rfl⟩
theorem Quiet.cell {w w' : World} (h : Quiet w w') (a : Addr) : w'.cell? a = w.cell? a := by obtain ⟨m, rfl⟩ := h; rfl
theorem Quiet.size {w w' : World} (h : Quiet w w') : w'.heap.size = w.heap.size := by obtain ⟨m, rfl⟩ := h; rfl
theorem Quiet.below {w w' : World} (h : Quiet w w') (B : Nat) : Below B w w' := by
  obtain ⟨m, rfl⟩ := h
  exact ⟨rfl, rfl, rfl, Nat.le_refl _, fun _ _ => rfl⟩
theorem Quiet.of_eq {w w' : World} (h : w = w') : Quiet w w' := ⟨0, h.symm⟩
theorem Quiet.ints {w w' : World} (h : Quiet w w') {a : Option Addr} {l : List Int} (H : IntsAt w a l) : IntsAt w' a l := by
  obtain ⟨m, rfl⟩ := h; exact H

theorem quiet_left {P : Program} {f : FuncId} {args : Array Value} {w : World} {n : Nat} {v : Value}
    (h : Calls P f args (w.drewN n) fun e w' => e = .returned v ∧ w.drewN n = w') : Calls P f args (w.drewN n) fun e w'' => e = .returned v ∧ ∃ m, w'' = w.drewN m :=
  h.mono fun _ _ ⟨he, hm⟩ => ⟨he, n, hm.symm⟩
theorem quiet_q {P : Program} {f : FuncId} {args : Array Value} {w : World} {n : Nat} {v : Value}
    (h : Calls P f args (w.drewN n) fun e w' => e = .returned v ∧ Quiet (w.drewN n) w') : Calls P f args (w.drewN n) fun e w'' => e = .returned v ∧ ∃ m, w'' = w.drewN m :=
  h.mono fun _ _ ⟨he, m, hm⟩ => ⟨he, n + m, by rw [hm, World.drewN_drewN]⟩

theorem IntsAt.below {w w' : World} {B : Nat} {a : Option Addr} {l : List Int} (h : IntsAt w a l) (hb : Below B w w') (hB : w.heap.size ≤ B) : IntsAt w' a l := by
  obtain ⟨b, off, ha, hc⟩ := h
  refine ⟨b, off, fun hl => ⟨(ha hl).1, Nat.lt_of_lt_of_le (ha hl).2 hb.size⟩, fun j hj => ?_⟩
  have hlt : b < w.heap.size := (ha (by intro h; simp [h] at hj)).2
  rw [hb.cell (p := ⟨b, off + j, none⟩) (Nat.lt_of_lt_of_le hlt hB)]
  exact hc j hj

/-- The value is a slice that holds these integers. -/
def IsInts (w : World) (v : Value) (l : List Int) : Prop :=
  ∃ a cap, v = .slice a l.length cap ∧ (l.length ≤ cap ∧ (a = none → cap = 0)) ∧ cap ≤ 9223372036854775807 ∧ l.length ≤ 17592186044416 ∧ In64 l ∧ IntsAt w a l

theorem IsInts.below {w w' : World} {B : Nat} {v : Value} {l : List Int} (h : IsInts w v l) (hb : Below B w w') (hB : w.heap.size ≤ B) : IsInts w' v l := by
  obtain ⟨a, cap, h1, h2, h3, h4, h5, h6⟩ := h
  exact ⟨a, cap, h1, h2, h3, h4, h5, h6.below hb hB⟩
theorem IsInts.quiet {w w' : World} {v : Value} {l : List Int} (h : IsInts w v l) (hq : Quiet w w') : IsInts w' v l := h.below (hq.below _) (Nat.le_refl _)
theorem IsInts.drewN {w : World} {v : Value} {l : List Int} (h : IsInts w v l) (n : Nat) : IsInts (w.drewN n) v l := h.quiet ⟨n, rfl⟩
theorem In64.nil : In64 [] := fun x h => by cases h
theorem IntsAt.nil (w : World) (a : Option Addr) : IntsAt w a [] := ⟨0, 0, fun h => absurd rfl h, fun j hj => absurd hj (Nat.not_lt_zero _)⟩
theorem IsInts.nil (w : World) : IsInts w (.slice none 0 0) [] := ⟨none, 0, rfl, ⟨Nat.le_refl _, fun _ => rfl⟩, by omega, by simp, In64.nil, IntsAt.nil _ _⟩

/-- The value is a slice that holds slices of these integers. -/
def IsRows (w : World) (v : Value) (ls : List (List Int)) : Prop :=
  ∃ a cap, v = .slice a ls.length cap ∧ (ls.length ≤ cap ∧ (a = none → cap = 0)) ∧ cap ≤ 9223372036854775807 ∧ ls.length ≤ 17592186044416 ∧
    ∃ b off, (ls ≠ [] → a = some ⟨b, off, none⟩ ∧ b < w.heap.size) ∧ ∀ j, j < ls.length → ∃ u, w.cell? ⟨b, off + j, none⟩ = some u ∧ IsInts w u (ls.getD j [])

theorem IsRows.below {w w' : World} {B : Nat} {v : Value} {l : List (List Int)} (h : IsRows w v l) (hb : Below B w w') (hB : w.heap.size ≤ B) : IsRows w' v l := by
  obtain ⟨a, cap, h1, h2, h3, h4, b, off, ha, hc⟩ := h
  refine ⟨a, cap, h1, h2, h3, h4, b, off, fun hl => ⟨(ha hl).1, Nat.lt_of_lt_of_le (ha hl).2 hb.size⟩, fun j hj => ?_⟩
  have hlt : b < w.heap.size := (ha (by intro h; simp [h] at hj)).2
  rw [hb.cell (p := ⟨b, off + j, none⟩) (Nat.lt_of_lt_of_le hlt hB)]
  obtain ⟨u, hu, hi⟩ := hc j hj
  exact ⟨u, hu, hi.below hb hB⟩
theorem IsRows.quiet {w w' : World} {v : Value} {l : List (List Int)} (h : IsRows w v l) (hq : Quiet w w') : IsRows w' v l := h.below (hq.below _) (Nat.le_refl _)
theorem IsRows.nil (w : World) : IsRows w (.slice none 0 0) [] := ⟨none, 0, rfl, ⟨Nat.le_refl _, fun _ => rfl⟩, by omega, by simp, 0, 0, fun h => absurd rfl h, fun j hj => absurd hj (Nat.not_lt_zero _)⟩

end Go.Proofs.YtppglbffmgnooaaGreat

/- What a call owns: rows of integers that it appends to. -/
namespace Go.Proofs.YtppglbffmgnooaaGreat
open Go.RowKit
set_option linter.unusedVariables false

/-- The slice owns its row, which holds these integers; its block's number is B at least. -/
def Own (w : World) (B : Nat) (v : Value) (xs : List Int) : Prop := w.ownsRow B 3 1 v xs.length (xs.map (Value.int .i64))

theorem info_int : (Tryz.prog.info? 3).map (fun i => (i.zero, i.size, i.bytes)) = some (some (.int .i64 0), 1, 8) := by kernel_rfl

theorem Own.nil (w : World) (B : Nat) : Own w B (.slice none 0 0) [] := World.ownsRow_nil _ _ _ _
theorem Own.alloc {w : World} {B : Nat} {v : Value} {xs : List Int} (h : Own w B v xs) (o : Obj) : Own (w.alloc o) B v xs := World.ownsRow.alloc h o
theorem Own.drewN {w : World} {B : Nat} {v : Value} {xs : List Int} (h : Own w B v xs) (n : Nat) : Own (w.drewN n) B v xs := h
theorem Own.quiet {w w' : World} {B : Nat} {v : Value} {xs : List Int} (h : Own w B v xs) (hq : Quiet w w') : Own w' B v xs := by obtain ⟨m, rfl⟩ := hq; exact h
theorem Own.mono {w : World} {B B' : Nat} {v : Value} {xs : List Int} (h : Own w B v xs) (hB : B' ≤ B) : Own w B' v xs := by
  refine ⟨h.1, ?_⟩
  rcases h.2 with hn | ⟨g, cap, cur, hv, hb, rest⟩
  · exact .inl hn
  · exact .inr ⟨g, cap, cur, hv, Nat.le_trans hB hb, rest⟩
/-- What lies below its block may turn. -/
theorem Own.below {w w' : World} {B C : Nat} {v : Value} {xs : List Int} (h : Own w B v xs) (hb : Below C w w') (hC : w.heap.size ≤ C) : Own w' B v xs := by
  refine ⟨h.1, ?_⟩
  rcases h.2 with hn | ⟨g, cap, cur, hv, hB, hg, rest⟩
  · exact .inl hn
  · have hlt : g < w.heap.size := (Array.getElem?_eq_some_iff.1 hg).1
    exact .inr ⟨g, cap, cur, hv, hB, by rw [hb.block g (by omega)]; exact hg, rest⟩
theorem Own.kept {w w' : World} {B : Nat} {v : Value} {xs : List Int} {row : Option Nat} (h : Own w B v xs) (hg : w.grownBy w' row) (hne : v.ownBlock = none ∨ v.ownBlock ≠ row) : Own w' B v xs := World.ownsRow.kept h hg hne
theorem Own.lt {w : World} {B : Nat} {v : Value} {xs : List Int} (h : Own w B v xs) : ∀ k, v.ownBlock = some k → B ≤ k ∧ k < w.heap.size := World.ownsRow.lt h

theorem Own.ints {w : World} {B : Nat} {v : Value} {xs : List Int} (h : Own w B v xs) (hl : xs.length ≤ 17592186044416) (h64 : In64 xs) : IsInts w v xs := by
  have h0 : w.ownsRow B 3 1 v xs.length (xs.map (Value.int .i64)) := h
  rcases h.2 with ⟨rfl, h2⟩ | ⟨g, cap, cur, rfl, hB, hg, hnc, hcm, _, _⟩
  · have : xs = [] := List.eq_nil_of_length_eq_zero h2
    subst this
    exact IsInts.nil w
  · have hlt : g < w.heap.size := (Array.getElem?_eq_some_iff.1 hg).1
    unfold maxLen at hcm
    refine ⟨_, cap, rfl, ⟨hnc, fun e => by cases e⟩, hcm, hl, h64, g, 0, fun _ => ⟨rfl, hlt⟩, fun j hj => ?_⟩
    rw [Nat.zero_add, World.ownsRow.cellAt h0 j (by omega)]
    simp [hj, List.getD]

/-- 'append(s, x...)', s the call's own, x whatever holds integers. -/
theorem wpList_app {w : World} {ops : Array Oper} {rest : List Oper} {o : Oper} {a : Act} {Q : Exit → Act → World → Prop} (hgd : o.guard = none) (s x : Operand)
    (ho : o.op = .call { callee := .builtin .append, args := #[s, x], argTypes := #[22, 22] }) (B : Nat) (v u : Value) (xs ys : List Int)
    (hs : a.eval s = v) (hx : a.eval x = u) (hown : Own w B v xs) (hu : IsInts w u ys) (hlen : xs.length + ys.length ≤ 17592186044416) (hB : B ≤ w.heap.size)
    (h : ∀ v' w', Own w' B v' (xs ++ ys) → w.grownBy w' v.ownBlock → wpList Tryz.prog ops Q rest (a.put o.dst v') w') : wpList Tryz.prog ops Q (o :: rest) a w := by
  obtain ⟨i0, hi, hz0, hz1, hz2⟩ := info_parts info_int
  obtain ⟨ad, cap, rfl, hcap, _, _, h64, b, off, ha, hc⟩ := hu
  cases ad with
  | none =>
    have hy : ys = [] := by
      by_cases e : ys = []
      · exact e
      · have := (ha e).1; cases this
    subst hy
    have hcap0 := hcap.2 rfl
    subst hcap0
    refine wpList_append_own_none hgd s x 22 ho B 3 i0 1 Tryz.underlying22 hi v xs.length _ hs hown (by rw [hx]; rfl) ?_
    have := h v w (by rw [List.append_nil]; exact hown) (World.grownBy.refl _ _)
    exact this
  | some ad =>
    refine wpList_append_own _ hgd s x 22 ho B 3 i0 (.int .i64 0) 1 8 Tryz.underlying22 hi hz0 hz1 hz2 rfl (by decide) v xs.length _ hs hown ad ys.length cap (ys.map (Value.int .i64)) hx (by simp) ?_ (ints_oneCell _ _) (by unfold maxLen; omega) (by omega) hB ?_
    · intro j u hj
      have hlt : j < ys.length := by have := (List.getElem?_eq_some_iff.1 hj).1; simpa using this
      have hne : ys ≠ [] := by intro e; simp [e] at hlt
      have e := Option.some.inj (ha hne).1
      subst e
      rw [Addr.add_lit, hc j hlt]
      rw [← hj]
      simp [List.getD, hlt]
    · intro v' w' h1 h2 _
      refine h v' w' ?_ h2
      unfold Own
      rw [List.length_append, List.map_append]
      exact h1

/-- 'append(s, y)': y lies in a new block. -/
theorem wpList_app1 {w : World} {ops : Array Oper} {rest : List Oper} {o : Oper} {a : Act} {Q : Exit → Act → World → Prop} (hgd : o.guard = none) (s x : Operand)
    (ho : o.op = .call { callee := .builtin .append, args := #[s, x], argTypes := #[22, 22] }) (B : Nat) (v : Value) (xs : List Int) (y : Int) (g : Nat)
    (hs : a.eval s = v) (hx : a.eval x = .slice (some ⟨g, 0, none⟩) 1 1) (hown : Own w B v xs) (hy : w.cell? ⟨g, 0, none⟩ = some (.int .i64 y)) (hlen : xs.length < 17592186044416) (hB : B ≤ w.heap.size)
    (h : ∀ v' w', Own w' B v' (xs ++ [y]) → w.grownBy w' v.ownBlock → wpList Tryz.prog ops Q rest (a.put o.dst v') w') : wpList Tryz.prog ops Q (o :: rest) a w := by
  obtain ⟨i0, hi, hz0, hz1, hz2⟩ := info_parts info_int
  refine wpList_append_own _ hgd s x 22 ho B 3 i0 (.int .i64 0) 1 8 Tryz.underlying22 hi hz0 hz1 hz2 rfl (by decide) v xs.length _ hs hown ⟨g, 0, none⟩ 1 1 [.int .i64 y] hx (by simp) ?_ (by simp [Value.oneCell']) (by unfold maxLen; omega) (by omega) hB ?_
  · intro j u hj
    match j, hj with
    | 0, hj => simp at hj; subst hj; simpa [Addr.add] using hy
  · intro v' w' h1 h2 _
    refine h v' w' ?_ h2
    unfold Own
    rw [List.length_append, List.map_append]
    exact h1

/-- What a call hands back that has made its own row of integers. -/
def RetOwn (w : World) (xs : List Int) (e : Ending) (w' : World) : Prop := ∃ v, e = .returned v ∧ Own w' w.heap.size v xs ∧ Below w.heap.size w w'

theorem below_app {w w1 w2 : World} {B : Nat} {v : Value} {xs : List Int} (hb : Below B w w1) (hown : Own w1 B v xs) (hB : B ≤ w1.heap.size) (hg : w1.grownBy w2 v.ownBlock) : Below B w w2 :=
  hb.grown hg hB (fun k hk => (hown.lt k hk).1)

end Go.Proofs.YtppglbffmgnooaaGreat

/- lits.May and the reference's. -/
namespace Go.Proofs.YtppglbffmgnooaaGreat
open Go.RowKit

/-- Whether the variables ascend strictly from p on. -/
def mayFrom : Int → List Int → Bool
  | _, [] => true
  | p, x :: r => decide (p < varOf x) && mayFrom (varOf x) r
def mayB (l : List Int) : Bool := mayFrom 0 l

theorem mayFrom_drop (p : Int) (l : List Int) (k : Nat) (h : k < l.length) : mayFrom p (l.drop k) = (decide (p < varOf (l.getD k 0)) && mayFrom (varOf (l.getD k 0)) (l.drop (k + 1))) := by
  rw [List.drop_eq_getElem_cons h]
  simp [mayFrom, List.getD, h]

theorem varOf_bd (x : Int) : 0 ≤ varOf x ∧ varOf x ≤ 65536 := by
  unfold varOf; split
  · omega
  · split <;> omega

end Go.Proofs.YtppglbffmgnooaaGreat

/- Elements of lists, equality of lists. -/
namespace Go.Proofs.YtppglbffmgnooaaGreat
open Go.RowKit
set_option linter.unusedVariables false

def memB (l : List Int) (x : Int) : Bool := decide (x ∈ l)

/-- Whether two lists are equal. -/
def sameB {α : Type} [DecidableEq α] (l m : List α) : Bool := decide (l = m)

end Go.Proofs.YtppglbffmgnooaaGreat

/- Without, Within, Neg. -/
namespace Go.Proofs.YtppglbffmgnooaaGreat
open Go.RowKit
set_option linter.unusedVariables false

theorem mayFrom_mem {p : Int} {l : List Int} (hp : 0 ≤ p) (h : mayFrom p l = true) : ∀ x ∈ l, p < varOf x ∧ litB x = true := by
  induction l generalizing p with
  | nil => intro x hx; cases hx
  | cons y r ih =>
    simp only [mayFrom, Bool.and_eq_true, decide_eq_true_eq] at h
    intro x hx
    have hy := varOf_bd y
    rcases List.mem_cons.1 hx with rfl | hx
    · exact ⟨h.1, by rw [litB_var]; simp; omega⟩
    · have := ih hy.1 h.2 x hx
      exact ⟨by omega, this.2⟩
theorem mayB_mem {l : List Int} (h : mayB l = true) : ∀ x ∈ l, litB x = true := fun x hx => (mayFrom_mem (Int.le_refl 0) h x hx).2
theorem getD_mem {l : List Int} {k : Nat} (h : k < l.length) : l.getD k 0 ∈ l := by simp [List.getD, h]

end Go.Proofs.YtppglbffmgnooaaGreat

/- copied, and Neg, which turns its copy in place. -/
namespace Go.Proofs.YtppglbffmgnooaaGreat
open Go.RowKit
set_option linter.unusedVariables false

/-- 'make([]int, n)'. -/
theorem wpList_mkInts {w : World} {ops : Array Oper} {rest : List Oper} {o : Oper} {a : Act} {Q : Exit → Act → World → Prop} (hgd : o.guard = none) (l c : Operand)
    (hop : o.op = Op.makeSlice 22 l c) (n : Nat) (hl : a.eval l = .int .i64 (n : Int)) (hc : a.eval c = .int .i64 (n : Int)) (hn : n ≤ 17592186044416)
    (h : ∀ w', Own w' w.heap.size (.slice (some ⟨w.heap.size, 0, none⟩) n n) (List.replicate n 0) → w.grownBy w' none → wpList Tryz.prog ops Q rest (a.put o.dst (.slice (some ⟨w.heap.size, 0, none⟩) n n)) w') : wpList Tryz.prog ops Q (o :: rest) a w := by
  obtain ⟨i0, hi, hz0, hz1, hz2⟩ := info_parts info_int
  refine wpList_make_full _ hgd l c 22 hop w.heap.size 3 i0 (.int .i64 0) 1 Tryz.underlying22 hi hz0 hz1 _ _ _ _ n hl hc rfl rfl (by rw [hz2]; omega) (by unfold maxLen; omega) (Nat.le_refl _) ?_
  intro w1 hown hg
  refine h w1 ?_ hg
  unfold Own
  simp only [List.length_replicate]
  have e : (madeCells (Value.int .i64 0).cells (n * 1)).toList = (List.replicate n (0 : Int)).map (Value.int .i64) := by
    rw [Nat.mul_one, show (Value.int IntKind.i64 0).cells = #[.int .i64 0] from rfl, toList_madeCells_one]; simp
  rw [e] at hown
  exact hown

theorem Own.cell {w : World} {B g n cap : Nat} {xs : List Int} (h : Own w B (.slice (some ⟨g, 0, none⟩) n cap) xs) (j : Nat) (hj : j < xs.length) : w.cell? ⟨g, j, none⟩ = some (.int .i64 (xs.getD j 0)) := by
  have hn : n = xs.length := by
    rcases h.2 with ⟨e, _⟩ | ⟨g', cap', cur, e, _⟩
    · cases e
    · injection e
  subst hn
  rw [World.ownsRow.cellAt (show w.ownsRow B 3 1 _ xs.length (xs.map (Value.int .i64)) from h) j (by omega)]
  simp [hj, List.getD]
theorem Own.frozen {w : World} {B g n cap : Nat} {xs : List Int} (h : Own w B (.slice (some ⟨g, 0, none⟩) n cap) xs) (j : Nat) : w.frozen? ⟨g, j, none⟩ = false := by
  have hn : n = xs.length := by
    rcases h.2 with ⟨e, _⟩ | ⟨g', cap', cur, e, _⟩
    · cases e
    · injection e
  subst hn
  exact World.ownsRow.frozenAt (show w.ownsRow B 3 1 _ xs.length (xs.map (Value.int .i64)) from h) j
theorem Own.store {w : World} {B g n cap : Nat} {xs : List Int} (h : Own w B (.slice (some ⟨g, 0, none⟩) n cap) xs) (j : Nat) (y : Int) : Own (w.setCell ⟨g, j, none⟩ (.int .i64 y)) B (.slice (some ⟨g, 0, none⟩) n cap) (xs.set j y) := by
  have hn : n = xs.length := by
    rcases h.2 with ⟨e, _⟩ | ⟨g', cap', cur, e, _⟩
    · cases e
    · injection e
  subst hn
  have := (World.ownsRow.stored (show w.ownsRow B 3 1 _ xs.length (xs.map (Value.int .i64)) from h) j (.int .i64 y)).1
  unfold Own
  rw [List.length_set, List.map_set]
  exact this
theorem Own.block {w : World} {B g n cap : Nat} {xs : List Int} (h : Own w B (.slice (some ⟨g, 0, none⟩) n cap) xs) : B ≤ g ∧ g < w.heap.size := h.lt g rfl

end Go.Proofs.YtppglbffmgnooaaGreat

/- The reference's insertion. -/
namespace Go.Proofs.YtppglbffmgnooaaGreat
open Go.RowKit
set_option linter.unusedVariables false

theorem IsInts.drop {w : World} {b off cap k : Nat} {l : List Int} (H : IsInts w (.slice (some ⟨b, off, none⟩) l.length cap) l) (hk : k ≤ l.length) : IsInts w (.slice (some ⟨b, off + k, none⟩) (l.length - k) (cap - k)) (l.drop k) := by
  obtain ⟨a, cap', e, ⟨h1, h2⟩, h3, h4, h5, b', off', ha, hc⟩ := H
  injection e with e1 e2 e3
  subst e1; subst e3
  refine ⟨_, _, by rw [List.length_drop], ⟨by rw [List.length_drop]; omega, fun e => by cases e⟩, by omega, by rw [List.length_drop]; omega, fun x hx => h5 x (List.mem_of_mem_drop hx), b, off + k, fun hne => ⟨rfl, ?_⟩, fun j hj => ?_⟩
  · exact (ha (by rintro rfl; simp at hne)).2 |> fun h => by
      have := (ha (by rintro rfl; simp at hne)).1
      injection this with this; injection this with q1 q2
      subst q1; exact h
  · rw [List.length_drop] at hj
    have := (ha (by rintro rfl; simp at hj)).1
    injection this with this; injection this with q1 q2
    subst q1; subst q2
    rw [Nat.add_assoc, hc (k + j) (by omega)]
    simp [List.getD]
theorem IsInts.take {w : World} {b off cap k : Nat} {l : List Int} (H : IsInts w (.slice (some ⟨b, off, none⟩) l.length cap) l) (hk : k ≤ l.length) : IsInts w (.slice (some ⟨b, off, none⟩) k cap) (l.take k) := by
  obtain ⟨a, cap', e, ⟨h1, h2⟩, h3, h4, h5, b', off', ha, hc⟩ := H
  injection e with e1 e2 e3
  subst e1; subst e3
  refine ⟨_, _, by rw [List.length_take, Nat.min_eq_left hk], ⟨by rw [List.length_take]; omega, fun e => by cases e⟩, h3, by rw [List.length_take]; omega, fun x hx => h5 x (List.mem_of_mem_take hx), b', off', fun hne => ha (by rintro rfl; simp at hne), fun j hj => ?_⟩
  rw [List.length_take] at hj
  rw [hc j (by omega)]
  simp [List.getD, show j < k by omega]

theorem In64.append {l m : List Int} (h : In64 l) (k : In64 m) : In64 (l ++ m) := fun x hx => by
  rcases List.mem_append.1 hx with hx | hx
  · exact h x hx
  · exact k x hx
theorem In64.take {l : List Int} (h : In64 l) (k : Nat) : In64 (l.take k) := fun x hx => h x (List.mem_of_mem_take hx)
theorem In64.drop {l : List Int} (h : In64 l) (k : Nat) : In64 (l.drop k) := fun x hx => h x (List.mem_of_mem_drop hx)
theorem IsInts.none_of {w : World} {ad : Addr} {c : Nat} (hc : c ≤ 9223372036854775807) : IsInts w (.slice (some ad) 0 c) [] :=
  ⟨_, _, rfl, ⟨Nat.zero_le _, fun e => by cases e⟩, hc, by simp, In64.nil, IntsAt.nil _ _⟩

end Go.Proofs.YtppglbffmgnooaaGreat

/- The reference's Norm and Join. -/
namespace Go.Proofs.YtppglbffmgnooaaGreat
open Go.RowKit
set_option linter.unusedVariables false

/-- What a call hands back that returns a list and an error number. -/
def RetPair (w : World) (r : List Int × Int) (e : Ending) (w' : World) : Prop := ∃ v, e = .returned (.tuple #[v, .int .i64 r.2]) ∧ IsInts w' v r.1 ∧ Below w.heap.size w w'

theorem RetPair.mono {w w1 w' : World} {r : List Int × Int} {e : Ending} (h : RetPair w1 r e w') (hb : Below w.heap.size w w1) (hs : w.heap.size ≤ w1.heap.size) : RetPair w r e w' := by
  obtain ⟨v, h1, h2, h3⟩ := h
  exact ⟨v, h1, h2, hb.trans (h3.mono hs)⟩

end Go.Proofs.YtppglbffmgnooaaGreat

/- The reference's Join and Resolve. -/
namespace Go.Proofs.YtppglbffmgnooaaGreat
open Go.RowKit
set_option linter.unusedVariables false

theorem RetOwn.ints {w w' : World} {v : Value} {B : Nat} {xs : List Int} (h : Own w' B v xs) (hl : xs.length ≤ 17592186044416) (h64 : In64 xs) : IsInts w' v xs := h.ints hl h64
theorem IsInts.len {w : World} {v : Value} {l : List Int} (h : IsInts w v l) : l.length ≤ 17592186044416 := by obtain ⟨_, _, _, _, _, h, _⟩ := h; exact h
theorem IsInts.in64 {w : World} {v : Value} {l : List Int} (h : IsInts w v l) : In64 l := by obtain ⟨_, _, _, _, _, _, h, _⟩ := h; exact h

end Go.Proofs.YtppglbffmgnooaaGreat

/- The reference's Sub, Strike and Compare. -/
namespace Go.Proofs.YtppglbffmgnooaaGreat
open Go.RowKit
set_option linter.unusedVariables false

end Go.Proofs.YtppglbffmgnooaaGreat

/- The reference's Strike. -/
namespace Go.Proofs.YtppglbffmgnooaaGreat
open Go.RowKit
set_option linter.unusedVariables false

end Go.Proofs.YtppglbffmgnooaaGreat

/- lits.merge, Join and Resolve. -/
namespace Go.Proofs.YtppglbffmgnooaaGreat
open Go.RowKit
set_option linter.unusedVariables false

theorem IsInts.shape {w : World} {v : Value} {l : List Int} (H : IsInts w v l) : ∃ a cap, v = .slice a l.length cap := by obtain ⟨a, cap, h, _⟩ := H; exact ⟨a, cap, h⟩

end Go.Proofs.YtppglbffmgnooaaGreat

/- MayCnf, SameAll. -/
namespace Go.Proofs.YtppglbffmgnooaaGreat
open Go.RowKit
set_option linter.unusedVariables false

/-- The k-th list of a list of lists: where it lies. -/
theorem IsRows.at {w : World} {a : Option Addr} {n cap : Nat} {f : List (List Int)} (H : IsRows w (.slice a n cap) f) {k : Nat} (hk : k < f.length) :
    ∃ b off u, a = some ⟨b, off, none⟩ ∧ b < w.heap.size ∧ w.cell? ⟨b, off + k, none⟩ = some u ∧ IsInts w u (f.getD k []) := by
  obtain ⟨a', cap', e, _, _, _, b, off, ha, hc⟩ := H
  injection e with e1 e2 e3
  subst e1
  obtain ⟨h1, h2⟩ := ha (by intro h; simp [h] at hk)
  obtain ⟨u, hu, hi⟩ := hc k hk
  exact ⟨b, off, u, h1, h2, hu, hi⟩
theorem IsRows.shape {w : World} {v : Value} {f : List (List Int)} (H : IsRows w v f) : ∃ a cap, v = .slice a f.length cap ∧ f.length ≤ 17592186044416 := by
  obtain ⟨a, cap, h, _, _, h4, _⟩ := H; exact ⟨a, cap, h, h4⟩

end Go.Proofs.YtppglbffmgnooaaGreat
