/- aig.column. -/
import Derived.Test.YtfghjfljomcldaaGreatAgEvalB
namespace Go.Proofs.YtfghjfljomcldaaGreat
open Go.RowKit Go.Maps Go.Shelf
set_option linter.unusedVariables false
set_option linter.unusedSimpArgs false

theorem and_one64 (n : Nat) (hn : n < 4611686018427387904) : bits .and .i64 (n : Int) 1 = ((n % 2 : Nat) : Int) := by
  show IntKind.i64.wrap ((BitVec.ofInt 64 (n : Int) &&& BitVec.ofInt 64 ((1 : Nat) : Int)).toNat : Int) = _
  rw [BitVec.toNat_and, ofInt_u64 n (by omega), ofInt_u64 1 (by omega), Nat.and_one_is_mod]
  simp only [IntKind.wrap, IntKind.bits, IntKind.signed]
  simp
  omega
theorem col_bit (d i : Nat) (hd : d < 2) (hi : i < 64) : W64 (IntKind.u64.wrap (IntKind.u64.wrap (d : Int) * 2 ^ i)) ∧ ∀ c, bitI (IntKind.u64.wrap (IntKind.u64.wrap (d : Int) * 2 ^ i)) c = (decide (c = i) && (d == 1)) := by
  have hp : 2 ^ i < 2 ^ 64 := Nat.pow_lt_pow_right (by omega) hi
  have hdp : d * 2 ^ i < 18446744073709551616 := by
    have : d * 2 ^ i ≤ 1 * 2 ^ i := Nat.mul_le_mul_right _ (by omega)
    omega
  have e1 : IntKind.u64.wrap (d : Int) = (d : Int) := by rw [IntKind.wrap_u64]; omega
  have e2 : IntKind.u64.wrap ((d : Int) * 2 ^ i) = ((d * 2 ^ i : Nat) : Int) := by
    rw [show (d : Int) * 2 ^ i = ((d * 2 ^ i : Nat) : Int) by simp, IntKind.wrap_u64]
    omega
  rw [e1, e2]
  refine ⟨⟨by omega, by omega⟩, fun c => ?_⟩
  show (d * 2 ^ i).testBit c = _
  rcases (show d = 0 ∨ d = 1 by omega) with rfl | rfl
  · simp
  · rw [Nat.one_mul, Nat.testBit_two_pow]
    simp [eq_comm]
theorem col_step {z : Int} {k row i : Nat} (hz : W64 z ∧ ∀ c, bitI z c = (decide (c < i) && ((row + c) / 2 ^ k % 2 == 1))) (hi : i < 64) (hr : row ≤ 200000) :
    W64 (bits .or .u64 z (IntKind.u64.wrap (IntKind.u64.wrap (bits .and .i64 (((row : Int) + (i : Int)) / 2 ^ k) 1) * 2 ^ i))) ∧ ∀ c, bitI (bits .or .u64 z (IntKind.u64.wrap (IntKind.u64.wrap (bits .and .i64 (((row : Int) + (i : Int)) / 2 ^ k) 1) * 2 ^ i))) c = (decide (c < i + 1) && ((row + c) / 2 ^ k % 2 == 1)) := by
  have e : ((row : Int) + (i : Int)) / 2 ^ k = (((row + i) / 2 ^ k : Nat) : Int) := by simp
  have hle : (row + i) / 2 ^ k ≤ row + i := Nat.div_le_self _ _
  rw [e, and_one64 _ (by omega)]
  obtain ⟨h1, h2⟩ := col_bit ((row + i) / 2 ^ k % 2) i (by omega) hi
  obtain ⟨h3, h4⟩ := or_bit hz.1 h1
  refine ⟨h3, fun c => ?_⟩
  rw [h4, hz.2, h2]
  by_cases hc : c = i
  · subst hc
    simp
  · have e2 : decide (c < i + 1) = decide (c < i) := by rw [Bool.eq_iff_iff]; simp; omega
    rw [e2, decide_eq_false hc, Bool.false_and, Bool.or_false]
set_option maxRecDepth 100000 in
set_option maxHeartbeats 1600000 in
theorem column_any (k row : Nat) (w : World) (hk : k ≤ 16) (hr : row ≤ 200000) :
    Calls Tryz.prog 84 #[.int .i64 (k : Int), .int .i64 (row : Int)] w fun r w' => ∃ z, r = .returned (.int .u64 z) ∧ W64 z ∧ (∀ c, c < 64 → bitI z c = ((row + c) / 2 ^ k % 2 == 1)) ∧ w = w' := by
  go_enter Tryz.func84, Tryz.ntmps84
  go_wp2
  go_loop [5, 7] (fun s5 s7 => ∃ (i : Nat) (z : Int), i ≤ 64 ∧ s7 = .int .i64 i ∧ s5 = .int .u64 z ∧ Hid (W64 z ∧ (∀ c, bitI z c = (decide (c < i) && ((row + c) / 2 ^ k % 2 == 1)))))  (fun s5 s7 => 64 - (intOf s7).toNat)
  case atStart => exact ⟨0, 0, by omega, rfl, rfl, ⟨by unfold W64; omega, fun c => by simp [bitI]⟩⟩
  case round =>
    obtain ⟨i, z, hi, rfl, rfl, HZ⟩ := hrel
    by_cases hlt : i < 64
    · have hi0 : (0 : Int) ≤ (i : Int) := by omega
      have hi1 : (i : Int) < 64 := by omega
      have HS := Lib.hid (col_step HZ.out hlt hr)
      have HLT := Lib.hid hlt
      clear hlt
      go_wp2
      go_round
      case rel => exact ⟨i + 1, _, by have := HLT.out; omega, by go_num, rfl, HS.out⟩
      case measure => have := HLT.out; simp [intOf]; omega
    · obtain rfl : i = 64 := by omega
      go_wp2
      go_ret
      exact ⟨z, rfl, HZ.out.1, fun c hc => by rw [HZ.out.2, decide_eq_true hc, Bool.true_and], rfl⟩
end Go.Proofs.YtfghjfljomcldaaGreat
