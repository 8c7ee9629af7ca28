/- asg.Number. -/
import Derived.Laws.BitsLemmas
import Derived.Lib.EndianBits
import Derived.Test.YtmhjpbhldaagmaaDoorAsgPts
namespace Go.Proofs.YtmhjpbhldaagmaaDoor
open Go.RowKit
set_option linter.unusedVariables false

def numK (vs a : List Int) : Nat → Nat
  | 0 => 0
  | k + 1 => numK vs a k + if a.getD k 0 = vs.getD k 0 then 2 ^ k else 0
def fits (vs a : List Int) : Bool := decide (a.length = vs.length ∧ ∀ i, i < vs.length → a.getD i 0 = vs.getD i 0 ∨ a.getD i 0 = -(vs.getD i 0))
def numberL (vs a : List Int) : Nat × Int := if manyB vs && mayB a then (if fits vs a then (numK vs a vs.length, 0) else (0, 6)) else (0, 2)
def RetNum (w : World) (r : Nat × Int) (e : Ending) (w' : World) : Prop := e = .returned (.tuple #[.int .u64 r.1, .int .i64 r.2]) ∧ w = w'

theorem numK_lt (vs a : List Int) (k : Nat) : numK vs a k < 2 ^ k := by
  induction k with
  | zero => simp [numK]
  | succ k ih =>
    unfold numK
    rw [Nat.pow_succ]
    split <;> omega
theorem or_of (n k : Nat) (hk : k < 64) (hn : n < 2 ^ k) : bits BinOp.or IntKind.u64 (n : Int) (IntKind.u64.wrap (2 ^ k)) = ((n + 2 ^ k : Nat) : Int) := by
  have hp : 2 ^ k ≤ 2 ^ 63 := Nat.pow_le_pow_right (by decide) (by omega)
  have hpz : ((2 ^ k : Nat) : Int) = (2 : Int) ^ k := by simp
  rw [wraps64 (2 ^ k) (by omega) (by omega), bits_join_low .u64 64 (by decide) wraps64 k (n : Int) (2 ^ k) (by omega) (by omega) (by omega) (by omega) (by simp) (by omega)]
  push_cast
  rfl

set_option maxHeartbeats 800000 in
set_option maxRecDepth 100000 in
theorem number_any (v u : Value) (vs xs : List Int) (w : World) (H : IsInts w v vs) (HA : IsInts w u xs) :
    Calls Tryd.prog 23 #[v, u] w (RetNum w (numberL vs xs)) := by
  have H0 := H
  have HA0 := HA
  by_cases hm : manyB vs = true
  · have hmb : mayB vs = true := by unfold manyB at hm; rw [decide_eq_true_eq] at hm; exact hm.2.1
    have h64 : vs.length ≤ 64 := by unfold manyB at hm; rw [decide_eq_true_eq] at hm; exact hm.1
    by_cases hma : mayB xs = true
    · obtain ⟨a, cap, rfl, _, _, hl, hi64, b, off, ha, hc⟩ := H
      obtain ⟨a2, cap2, rfl, _, _, hl2, hi642, b2, off2, ha2, hc2⟩ := HA
      have HC := Lib.hid hc
      have HC2 := Lib.hid hc2
      clear hc hc2
      by_cases hle : xs.length = vs.length
      · have HA1 : IsInts w (.slice a2 vs.length cap2) xs := by rw [← hle]; exact HA0
        go_enter Tryd.func23, Tryd.ntmps23
        go_wp2_with (first | (go_at_call_of 47 (Value.slice a vs.length cap); refine (mayvars_any _ vs _ H0).mono ?_; rintro e w' ⟨rfl, rfl⟩) | (go_at_call_of 32 (Value.slice a2 vs.length cap2); refine (may_v _ xs _ HA1).mono ?_; rintro e w1 ⟨rfl, rfl⟩))
        go_loop [6, 24] (fun n i => ∃ k : Nat, k ≤ vs.length ∧ n = .int .u64 (numK vs xs k) ∧ i = .int .i64 k ∧ ∀ i, i < k → xs.getD i 0 = vs.getD i 0 ∨ xs.getD i 0 = -(vs.getD i 0)) (fun _ i => vs.length - (intOf i).toNat)
        case atStart => exact ⟨0, Nat.zero_le _, rfl, rfl, fun i h => by omega⟩
        case round =>
          obtain ⟨k, hk, rfl, rfl, hi⟩ := hrel
          by_cases hlt : k < vs.length
          · have hlt2 : k < xs.length := by omega
            obtain ⟨rfl, hbs⟩ := ha (by intro h; simp [h] at hlt)
            obtain ⟨rfl, hbs2⟩ := ha2 (by intro h; simp [h] at hlt2)
            have hy := HC.out k hlt
            have hx := HC2.out k hlt2
            obtain ⟨_, hy3, hy4⟩ := litB_bd (mayB_mem hmb _ (getD_mem hlt))
            obtain ⟨_, hx3, hx4⟩ := litB_bd (mayB_mem hma _ (getD_mem hlt2))
            have hlt64 : k < 64 := by omega
            have hno := numK_lt vs xs k
            have hor := or_of (numK vs xs k) k hlt64 hno
            have HN : Hid (numK vs xs (k + 1) = numK vs xs k + if xs.getD k 0 = vs.getD k 0 then 2 ^ k else 0) := rfl
            have HB : Hid ((xs.getD k 0 = vs.getD k 0 ∨ xs.getD k 0 = -(vs.getD k 0)) → ∀ i, i < k + 1 → xs.getD i 0 = vs.getD i 0 ∨ xs.getD i 0 = -(vs.getD i 0)) := by
              show _ → _
              intro h i hik
              by_cases e : i = k
              · rw [e]; exact h
              · exact hi i (by omega)
            have HD : Hid (¬ (xs.getD k 0 = vs.getD k 0 ∨ xs.getD k 0 = -(vs.getD k 0)) → numberL vs xs = (0, 6)) := by
              show _ → _
              intro h
              unfold numberL
              rw [hm, hma, Bool.and_self, if_pos rfl, if_neg]
              unfold fits
              rw [decide_eq_true_eq]
              intro hf
              exact h (hf.2 k hlt)
            clear hi
            generalize xs.getD k 0 = x at *
            generalize vs.getD k 0 = y at *
            generalize numK vs xs k = m at *
            by_cases h1 : x = y
            · subst h1
              have HM : Hid (numK vs xs (k + 1) = m + 2 ^ k) := by have := HN.out; rw [if_pos rfl] at this; exact this
              clear HN HD hno
              go_wp2
              go_round
              case rel => exact ⟨k + 1, by omega, by rw [HM.out, Int.natCast_add]; simp, by go_num, HB.out (Or.inl rfl)⟩
              case measure => simp [intOf]; omega
            · by_cases h2 : x = -y
              · have HM : Hid (numK vs xs (k + 1) = m) := by have := HN.out; rw [if_neg h1] at this; exact this
                clear HN HD hno hor
                have h1' : (x == y) = false := by simpa using h1
                have h2' : (x == -y) = true := by simpa using h2
                go_wp2
                go_round
                case rel => exact ⟨k + 1, by omega, by rw [HM.out], by go_num, HB.out (Or.inr h2)⟩
                case measure => simp [intOf]; omega
              · have HE : Hid (numberL vs xs = (0, 6)) := HD.out (by rintro (h | h); exact h1 h; exact h2 h)
                clear HN HD HB hno hor
                have h1' : (x == y) = false := by simpa using h1
                have h2' : (x == -y) = false := by simpa using h2
                go_wp2
                go_ret2
                exact ⟨by rw [HE.out]; rfl, rfl⟩
          · have hk2 : k = vs.length := by omega
            subst hk2
            have HE : Hid (numberL vs xs = (numK vs xs vs.length, 0)) := by
              show _ = _
              unfold numberL
              rw [hm, hma, Bool.and_self, if_pos rfl, if_pos]
              unfold fits
              rw [decide_eq_true_eq]
              exact ⟨hle, hi⟩
            clear hi
            go_wp2
            go_ret2
            exact ⟨by rw [HE.out]; rfl, rfl⟩
      · have HE : Hid (numberL vs xs = (0, 6)) := by
          show _ = _
          unfold numberL
          rw [hm, hma, Bool.and_self, if_pos rfl, if_neg]
          unfold fits
          rw [decide_eq_true_eq]
          intro hf
          exact hle hf.1
        go_enter Tryd.func23, Tryd.ntmps23
        go_wp2_with (first | (go_at_call_of 47 (Value.slice a vs.length cap); refine (mayvars_any _ vs _ H0).mono ?_; rintro e w' ⟨rfl, rfl⟩) | (go_at_call_of 32 (Value.slice a2 xs.length cap2); refine (may_v _ xs _ HA0).mono ?_; rintro e w1 ⟨rfl, rfl⟩))
        go_ret2
        exact ⟨by rw [HE.out]; rfl, rfl⟩
    · have HE : Hid (numberL vs xs = (0, 2)) := by
        show _ = _
        unfold numberL
        rw [if_neg]
        simp [hma]
      have hma' : mayB xs = false := by simpa using hma
      clear hma
      obtain ⟨a, cap, rfl⟩ := H.shape
      obtain ⟨a2, cap2, rfl⟩ := HA.shape
      go_enter Tryd.func23, Tryd.ntmps23
      go_wp2_with (first | (go_at_call_of 47 (Value.slice a vs.length cap); refine (mayvars_any _ vs _ H0).mono ?_; rintro e w' ⟨rfl, rfl⟩) | (go_at_call_of 32 (Value.slice a2 xs.length cap2); refine (may_v _ xs _ HA0).mono ?_; rintro e w1 ⟨rfl, rfl⟩))
      go_ret2
      exact ⟨by rw [HE.out]; rfl, rfl⟩
  · have HE : Hid (numberL vs xs = (0, 2)) := by
      show _ = _
      unfold numberL
      rw [if_neg]
      simp [hm]
    have hm' : manyB vs = false := by simpa using hm
    clear hm
    obtain ⟨a, cap, rfl⟩ := H.shape
    obtain ⟨a2, cap2, rfl⟩ := HA.shape
    go_enter Tryd.func23, Tryd.ntmps23
    go_wp2_with (first | (go_at_call_of 47 (Value.slice a vs.length cap); refine (mayvars_any _ vs _ H0).mono ?_; rintro e w' ⟨rfl, rfl⟩) | (go_at_call_of 32 (Value.slice a2 xs.length cap2); refine (may_v _ xs _ HA0).mono ?_; rintro e w1 ⟨rfl, rfl⟩))
    go_ret2
    exact ⟨by rw [HE.out]; rfl, rfl⟩

end Go.Proofs.YtmhjpbhldaagmaaDoor
