/- Words of 64 bits: all their bits; rows of words, a column of nodes' values for each bit. -/
import Derived.Test.YtfghjfljomcldaaGreatAgWords
namespace Go.Proofs.YtfghjfljomcldaaGreat
open Go.RowKit Go.Maps Go.Shelf
set_option linter.unusedVariables false
set_option linter.unusedSimpArgs false

def bitI (x : Int) (b : Nat) : Bool := x.toNat.testBit b
theorem and_bit {x y : Int} (hx : W64 x) (hy : W64 y) : W64 (bits .and .u64 x y) ∧ ∀ b, bitI (bits .and .u64 x y) b = (bitI x b && bitI y b) := by
  obtain ⟨n, rfl⟩ := Int.eq_ofNat_of_zero_le hx.1
  obtain ⟨m, rfl⟩ := Int.eq_ofNat_of_zero_le hy.1
  have hn := hx.2
  have hm := hy.2
  have hle : n &&& m ≤ n := Nat.and_le_left
  have e : bits .and .u64 (n : Int) (m : Int) = ((n &&& m : Nat) : Int) := by
    show IntKind.u64.wrap ((BitVec.ofInt 64 (n : Int) &&& BitVec.ofInt 64 (m : Int)).toNat : Int) = _
    rw [BitVec.toNat_and, ofInt_u64 n (by omega), ofInt_u64 m (by omega), IntKind.wrap_u64]
    omega
  rw [e]
  exact ⟨⟨by omega, by omega⟩, fun b => Nat.testBit_and n m b⟩
theorem or_bit {x y : Int} (hx : W64 x) (hy : W64 y) : W64 (bits .or .u64 x y) ∧ ∀ b, bitI (bits .or .u64 x y) b = (bitI x b || bitI y b) := by
  obtain ⟨n, rfl⟩ := Int.eq_ofNat_of_zero_le hx.1
  obtain ⟨m, rfl⟩ := Int.eq_ofNat_of_zero_le hy.1
  have hn := hx.2
  have hm := hy.2
  have hlt : n ||| m < 2 ^ 64 := Nat.or_lt_two_pow (by omega) (by omega)
  have e : bits .or .u64 (n : Int) (m : Int) = ((n ||| m : Nat) : Int) := by
    show IntKind.u64.wrap ((BitVec.ofInt 64 (n : Int) ||| BitVec.ofInt 64 (m : Int)).toNat : Int) = _
    rw [BitVec.toNat_or, ofInt_u64 n (by omega), ofInt_u64 m (by omega), IntKind.wrap_u64]
    omega
  rw [e]
  exact ⟨⟨by omega, by omega⟩, fun b => Nat.testBit_or n m b⟩
theorem ones_bit (b : Nat) : (18446744073709551615 : Nat).testBit b = decide (b < 64) := by
  rw [show (18446744073709551615 : Nat) = 2 ^ 64 - 1 from by decide]
  exact Nat.testBit_two_pow_sub_one 64 b
theorem not_bit {x : Int} (hx : W64 x) : W64 (bits .xor .u64 18446744073709551615 x) ∧ ∀ b, b < 64 → bitI (bits .xor .u64 18446744073709551615 x) b = !bitI x b := by
  obtain ⟨n, rfl⟩ := Int.eq_ofNat_of_zero_le hx.1
  have hn := hx.2
  have hlt : 18446744073709551615 ^^^ n < 2 ^ 64 := Nat.xor_lt_two_pow (by decide) (by omega)
  have e : bits .xor .u64 18446744073709551615 (n : Int) = ((18446744073709551615 ^^^ n : Nat) : Int) := by
    show IntKind.u64.wrap ((BitVec.ofInt 64 ((18446744073709551615 : Nat) : Int) ^^^ BitVec.ofInt 64 (n : Int)).toNat : Int) = _
    rw [BitVec.toNat_xor, ofInt_u64 _ (by omega), ofInt_u64 n (by omega), IntKind.wrap_u64]
    omega
  rw [e]
  refine ⟨⟨by omega, by omega⟩, fun b hb => ?_⟩
  show (18446744073709551615 ^^^ n).testBit b = !n.testBit b
  rw [Nat.testBit_xor, ones_bit, decide_eq_true hb, Bool.true_xor]
/-- The bit b of the words are the values of nodes in the column b. -/
def ParA (T : Nat → List Bool) (xs : List Int) : Prop := (∀ i, i < xs.length → W64 (xs.getD i 0)) ∧ ∀ b, b < 64 → (T b).length = xs.length ∧ ∀ i, i < xs.length → bitI (xs.getD i 0) b = (T b).getD i false
theorem ParA.zero (n : Nat) : ParA (fun _ => List.replicate n false) (List.replicate n 0) := by
  refine ⟨fun i hi => ?_, fun b _ => ⟨by simp, fun i hi => ?_⟩⟩
  · have hi : i < n := by simpa using hi
    simp [List.getD, hi, W64]
  · have hi : i < n := by simpa using hi
    simp [List.getD, hi, bitI]
theorem ParA.set {T : Nat → List Bool} {xs : List Int} (h : ParA T xs) (j : Nat) {y : Int} {c : Nat → Bool} (hy : W64 y) (hb : ∀ b, b < 64 → bitI y b = c b) : ParA (fun b => (T b).set j (c b)) (xs.set j y) := by
  have e1 : ∀ i, i < xs.length → (xs.set j y).getD i 0 = if i = j then y else xs.getD i 0 := fun i hi => by
    by_cases e : i = j
    · subst e; rw [if_pos rfl]; simp only [List.getD]; rw [List.getElem?_set_self hi]; rfl
    · rw [if_neg e]; simp only [List.getD]; rw [List.getElem?_set_ne (fun q => e q.symm)]
  refine ⟨fun i hi => ?_, fun b hb2 => ⟨by simp [(h.2 b hb2).1], fun i hi => ?_⟩⟩
  · rw [List.length_set] at hi
    rw [e1 i hi]
    split
    · exact hy
    · exact h.1 i hi
  · rw [List.length_set] at hi
    have hT := h.2 b hb2
    rw [e1 i hi]
    by_cases e : i = j
    · subst e
      rw [if_pos rfl, hb b hb2]
      simp only [List.getD]
      rw [List.getElem?_set_self (by rw [hT.1]; exact hi)]
      rfl
    · rw [if_neg e, hT.2 i hi]
      simp only [List.getD]
      rw [List.getElem?_set_ne (fun q => e q.symm)]
/-- A row of words in the block b, whose bits are T. -/
def WordsA (w : World) (B b n : Nat) (T : Nat → List Bool) : Prop := ∃ xs, OwnU w B (.slice (some ⟨b, 0, none⟩) n n) xs ∧ ParA T xs
theorem WordsA.at {w : World} {B b n : Nat} {T : Nat → List Bool} (h : WordsA w B b n T) : ∀ i, i < n → ∃ x, w.cell? ⟨b, i, none⟩ = some (.int .u64 x) ∧ W64 x ∧ ∀ c, c < 64 → bitI x c = (T c).getD i false := by
  obtain ⟨xs, ho, hp⟩ := h
  have hl := ho.len
  exact fun i hi => ⟨_, ho.cell i (by omega), hp.1 i (by omega), fun c hc => (hp.2 c hc).2 i (by omega)⟩
theorem WordsA.frozen {w : World} {B b n : Nat} {T : Nat → List Bool} (h : WordsA w B b n T) (j : Nat) : w.frozen? ⟨b, j, none⟩ = false := by obtain ⟨xs, ho, hp⟩ := h; exact ho.frozen j
theorem WordsA.store {w : World} {B b n : Nat} {T : Nat → List Bool} (h : WordsA w B b n T) (j : Nat) {y : Int} {c : Nat → Bool} (hy : W64 y) (hb : ∀ b, b < 64 → bitI y b = c b) : WordsA (w.setCell ⟨b, j, none⟩ (.int .u64 y)) B b n (fun b => (T b).set j (c b)) := by
  obtain ⟨xs, ho, hp⟩ := h
  exact ⟨_, ho.store j y, hp.set j hy hb⟩
theorem WordsA.below {w w' : World} {B b n C : Nat} {T : Nat → List Bool} (h : WordsA w B b n T) (hb : Below C w w') (hC : w.heap.size ≤ C) : WordsA w' B b n T := by
  obtain ⟨xs, ho, hp⟩ := h
  exact ⟨xs, ownU_below ho hb hC, hp⟩
theorem WordsA.lt {w : World} {B b n : Nat} {T : Nat → List Bool} (h : WordsA w B b n T) : B ≤ b ∧ b < w.heap.size := by
  obtain ⟨xs, ho, hp⟩ := h
  exact World.ownsRow.lt ho b rfl
theorem WordsA.kept {w w' : World} {B b n : Nat} {T : Nat → List Bool} {S : Nat → Prop} (h : WordsA w B b n T) (hk : Kept S w w') (hS : ¬ S b) : WordsA w' B b n T := by
  obtain ⟨xs, ho, hp⟩ := h
  exact ⟨xs, ownU_kept ho hk (fun g hg => by simp [Value.ownBlock] at hg; subst hg; exact hS), hp⟩
theorem WordsA.congr {w : World} {B b n : Nat} {T U : Nat → List Bool} (h : WordsA w B b n T) (e : ∀ c, c < 64 → T c = U c) : WordsA w B b n U := by
  obtain ⟨xs, ho, hp⟩ := h
  exact ⟨xs, ho, hp.1, fun c hc => by rw [← e c hc]; exact hp.2 c hc⟩
end Go.Proofs.YtfghjfljomcldaaGreat
