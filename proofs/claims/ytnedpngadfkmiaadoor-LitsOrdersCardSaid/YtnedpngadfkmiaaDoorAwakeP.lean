/- The examples of the chapter, reckoned. -/
import Derived.Test.YtnedpngadfkmiaaDoorRead
import Derived.Test.YtnedpngadfkmiaaDoorNorm
import Derived.Test.YtnedpngadfkmiaaDoorRes
import Derived.Test.YtnedpngadfkmiaaDoorSub
import Derived.Test.YtnedpngadfkmiaaDoorCmp2
import Derived.Test.YtnedpngadfkmiaaDoorVars
namespace Go.Proofs.YtnedpngadfkmiaaDoor
open Go.RowKit
set_option linter.unusedVariables false

theorem ex1 : normR [3, -1, 3] = ([-1, 3], 0) := by decide
theorem ex2 : normR [2, 1, -2] = ([], 10) := by decide
theorem ex3 : normR [65537] = ([], 2) := by decide
theorem mg1 : mergeL (comR 2) [1, 2] [-2, 3] = ([1, 3], 0) := by simp [mergeL, comR, consE, varOf]
theorem mg2 : mergeL (comR 2) [1, 2] [-1, -2] = ([], 10) := by simp [mergeL, comR, com1, varOf]
theorem ex4 : resL [1, 2] [-2, 3] 2 = ([1, 3], 0) := by unfold resL; rw [mg1]; decide
theorem ex5 : resL [1, 2] [-1, -2] 2 = ([], 10) := by unfold resL; rw [mg2]; decide
theorem ex6 : resL [1, 2] [-1, -2] 3 = ([], 6) := by decide
theorem dd (n : Nat) (h : n < 10) : Lib.decDigits n = [UInt8.ofNat (48 + n)] := by rw [Lib.decDigits, dif_pos h]
theorem ex7 : textL [-1, 3] = [45, 49, 32, 51] ∧ codeT [-1, 3] = 0 := by
  refine ⟨?_, by decide⟩
  have hm : mayB [-1, 3] = true := by decide
  unfold textL
  rw [if_pos hm]
  simp [textB, Lib.itoa, dd]
theorem ex8 : readL [50, 32, 49] = ([], 5) := by decide
theorem ex9 : strikeL [-1, 2] [1, 2, 3] = 1 := by decide
theorem ex10 : strikeL [-1, 2] [1, 3] = 0 := by decide
theorem ex11 : cmpB [2] [1, 5] = 1 := by decide
theorem ex12 : VarsOf [[2, -7], [7, 0]] [2, 7] := by
  refine ⟨by decide, fun v => ?_⟩
  simp [occ, varOf]
  omega
theorem sa1 : sameB [-1, 3] [-1, 3] = true := by decide
theorem sa2 : sameB [1, 3] [1, 3] = true := by decide
theorem sa3 : sameB [2, 7] [2, 7] = true := by decide

/-- A literal's block. -/
theorem IsInts.lit (w : World) (l : List Int) (T : TypeId) (h64 : In64 l) (hl : l.length ≤ 17592186044416) : IsInts (w.alloc (.cells (l.map (Value.int .i64)).toArray T)) (.slice (some ⟨w.heap.size, 0, none⟩) l.length l.length) l := by
  refine ⟨_, _, rfl, ⟨Nat.le_refl _, fun h => by cases h⟩, by omega, hl, h64, w.heap.size, 0, fun _ => ⟨rfl, by simp⟩, fun j hj => ?_⟩
  have e := heap_alloc_new w (.cells (l.map (Value.int .i64)).toArray T)
  simp only [World.cell?, e]
  simp [hj, List.getD]

theorem in64 (l : List Int) (h : (l.all fun x => decide (-9223372036854775808 ≤ x) && decide (x ≤ 9223372036854775807)) = true) : In64 l := fun x hx => by
  have := List.all_eq_true.1 h x hx
  simpa using this

def Pair (w : World) (l : List Int) (c : Int) (e : Ending) (w' : World) : Prop := ∃ v, e = .returned (.tuple #[v, .int .i64 c]) ∧ IsInts w' v l ∧ Below w.heap.size w w'
theorem RetPair.to {w w1 w' : World} {r : List Int × Int} {l : List Int} {c : Int} {e : Ending} (h : RetPair w1 r e w') (hr : r = (l, c)) (hb : Below w.heap.size w w1) : Pair w l c e w' := by
  subst hr
  obtain ⟨v, h1, h2, h3⟩ := h
  exact ⟨v, h1, h2, hb.trans (h3.mono hb.size)⟩

theorem bl1 (w : World) (o : Obj) : Below w.heap.size w (w.alloc o) := (Below.refl _ w).alloc (Nat.le_refl _) o
theorem bl2 (w : World) (o p : Obj) : Below w.heap.size w ((w.alloc o).alloc p) := (bl1 w o).alloc (by simp) p
theorem lit1 (w : World) (l : List Int) (T : TypeId) (h64 : In64 l) (hl : l.length ≤ 17592186044416) (p : Obj) : IsInts ((w.alloc (.cells (l.map (Value.int .i64)).toArray T)).alloc p) (.slice (some ⟨w.heap.size, 0, none⟩) l.length l.length) l := (IsInts.lit w l T h64 hl).below (bl1 _ p) (Nat.le_refl _)
theorem lit2 (w : World) (l : List Int) (T : TypeId) (h64 : In64 l) (hl : l.length ≤ 17592186044416) (o : Obj) : IsInts ((w.alloc o).alloc (.cells (l.map (Value.int .i64)).toArray T)) (.slice (some ⟨w.heap.size + 1, 0, none⟩) l.length l.length) l := by
  have := IsInts.lit (w.alloc o) l T h64 hl
  simpa using this

theorem aw1 (w : World) : Calls Tryd.prog 20 #[.slice (some ⟨w.heap.size, 0, none⟩) 3 3] (w.alloc (.cells #[.int .i64 3, .int .i64 (-1), .int .i64 3] 3)) (Pair w [-1, 3] 0) :=
  (norm_any _ [3, -1, 3] _ (IsInts.lit w [3, -1, 3] _ (in64 _ (by decide)) (by decide))).mono fun e w' h => h.to ex1 (bl1 _ _)
theorem aw2 (w : World) : Calls Tryd.prog 20 #[.slice (some ⟨w.heap.size, 0, none⟩) 3 3] (w.alloc (.cells #[.int .i64 2, .int .i64 1, .int .i64 (-2)] 3)) (Pair w [] 10) :=
  (norm_any _ [2, 1, -2] _ (IsInts.lit w [2, 1, -2] _ (in64 _ (by decide)) (by decide))).mono fun e w' h => h.to ex2 (bl1 _ _)
theorem aw3 (w : World) : Calls Tryd.prog 20 #[.slice (some ⟨w.heap.size, 0, none⟩) 1 1] (w.alloc (.cells #[.int .i64 65537] 3)) (Pair w [] 2) :=
  (norm_any _ [65537] _ (IsInts.lit w [65537] _ (in64 _ (by decide)) (by decide))).mono fun e w' h => h.to ex3 (bl1 _ _)
theorem aw4 (w : World) : Calls Tryd.prog 36 #[.slice (some ⟨w.heap.size, 0, none⟩) 2 2, .slice (some ⟨w.heap.size + 1, 0, none⟩) 2 2, .int .i64 2] ((w.alloc (.cells #[.int .i64 1, .int .i64 2] 3)).alloc (.cells #[.int .i64 (-2), .int .i64 3] 3)) (Pair w [1, 3] 0) :=
  (resolve_any _ _ [1, 2] [-2, 3] 2 _ (lit1 w [1, 2] _ (in64 _ (by decide)) (by decide) _) (lit2 w [-2, 3] _ (in64 _ (by decide)) (by decide) _) (by decide) (by decide) (by decide)).mono fun e w' h => h.to ex4 (bl2 _ _ _)
theorem aw5 (w : World) : Calls Tryd.prog 36 #[.slice (some ⟨w.heap.size, 0, none⟩) 2 2, .slice (some ⟨w.heap.size + 1, 0, none⟩) 2 2, .int .i64 2] ((w.alloc (.cells #[.int .i64 1, .int .i64 2] 3)).alloc (.cells #[.int .i64 (-1), .int .i64 (-2)] 3)) (Pair w [] 10) :=
  (resolve_any _ _ [1, 2] [-1, -2] 2 _ (lit1 w [1, 2] _ (in64 _ (by decide)) (by decide) _) (lit2 w [-1, -2] _ (in64 _ (by decide)) (by decide) _) (by decide) (by decide) (by decide)).mono fun e w' h => h.to ex5 (bl2 _ _ _)
theorem aw6 (w : World) : Calls Tryd.prog 36 #[.slice (some ⟨w.heap.size, 0, none⟩) 2 2, .slice (some ⟨w.heap.size + 1, 0, none⟩) 2 2, .int .i64 3] ((w.alloc (.cells #[.int .i64 1, .int .i64 2] 3)).alloc (.cells #[.int .i64 (-1), .int .i64 (-2)] 3)) (Pair w [] 6) :=
  (resolve_any _ _ [1, 2] [-1, -2] 3 _ (lit1 w [1, 2] _ (in64 _ (by decide)) (by decide) _) (lit2 w [-1, -2] _ (in64 _ (by decide)) (by decide) _) (by decide) (by decide) (by decide)).mono fun e w' h => h.to ex6 (bl2 _ _ _)
theorem aw7 (w : World) (hT : Pow w.heap.size w) : Calls Tryd.prog 52 #[.slice (some ⟨w.heap.size, 0, none⟩) 2 2] (w.alloc (.cells #[.int .i64 (-1), .int .i64 3] 3)) (fun e w' => e = .returned (.tuple #[.string ⟨#[45, 49, 32, 51]⟩, .int .i64 0]) ∧ Below w.heap.size w w') :=
  (text_any _ [-1, 3] _ (IsInts.lit w [-1, 3] _ (in64 _ (by decide)) (by decide)) ((hT.on (bl1 _ _)).up (by simp))).mono fun e w' h => ⟨by rw [h.1, ex7.1, ex7.2]; rfl, (bl1 _ _).trans (h.2.mono (by simp))⟩
theorem aw8 (w : World) : Calls Tryd.prog 54 #[.string ⟨#[50, 32, 49]⟩] w (Pair w [] 5) :=
  (read_any ⟨#[50, 32, 49]⟩ w (by decide)).mono fun e w' h => h.to ex8 (Below.refl _ _)

end Go.Proofs.YtnedpngadfkmiaaDoor
