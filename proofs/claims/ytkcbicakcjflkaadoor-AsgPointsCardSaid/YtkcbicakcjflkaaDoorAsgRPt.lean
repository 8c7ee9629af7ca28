/- The reference's Point. -/
import Derived.Test.YtkcbicakcjflkaaDoorAsgNum
namespace Go.Proofs.YtkcbicakcjflkaaDoor
open Go.RowKit
set_option linter.unusedVariables false

def ptH (vs : List Int) (n k : Nat) : List Int := (List.range k).map (ptAt vs n)
theorem ptH_hit (vs : List Int) (n k : Nat) : ptH vs n (k + 1) = ptH vs n k ++ [ptAt vs n k] := by unfold ptH; rw [List.range_succ]; simp
theorem ptH_len (vs : List Int) (n k : Nat) : (ptH vs n k).length = k := by simp [ptH]

set_option maxHeartbeats 800000 in
set_option maxRecDepth 100000 in
theorem rpoint_any (v : Value) (vs : List Int) (n : Nat) (w : World) (H : IsInts w v vs) (hn : n < 18446744073709551616) :
    Calls Tryd.prog 33 #[v, .int .u64 n] w (RetPair w (pointL vs n)) := by
  have H0 := H
  by_cases hm : manyB vs = true
  · have hmb : mayB vs = true := by unfold manyB at hm; rw [decide_eq_true_eq] at hm; exact hm.2.1
    have h64 : vs.length ≤ 64 := by unfold manyB at hm; rw [decide_eq_true_eq] at hm; exact hm.1
    obtain ⟨a, cap, rfl, _, _, hl, hi64, b, off, ha, hc⟩ := H
    have HC := Lib.hid hc
    clear hc
    have hpz : ((2 ^ vs.length : Nat) : Int) = (2 : Int) ^ vs.length := by simp
    have HW : Hid (vs.length < 64 → (2 : Int) ^ vs.length < 2 ^ 64) := by
      show _ → _
      intro h
      have : 2 ^ vs.length < 2 ^ 64 := Nat.pow_lt_pow_right (by decide) h
      rw [← hpz]; omega
    by_cases hz : n / 2 ^ vs.length = 0
    · have HF : Hid (pointL vs n = (ptL vs n, 0)) := by show _ = _; unfold pointL; rw [if_pos hm, if_pos hz]
      have hz1 : n < 2 ^ vs.length := by
        rcases Nat.div_eq_zero_iff.1 hz with h | h
        · have := Nat.two_pow_pos vs.length; omega
        · exact h
      have hz2 : (n : Int) < (2 : Int) ^ vs.length := by rw [← hpz]; omega
      have HP := Lib.hid hpz
      clear hz hz1 hpz
      by_cases hlt : vs.length < 64
      · have hz3 : (n : Int) < IntKind.u64.wrap (2 ^ vs.length) := by rw [wraps64 (2 ^ vs.length) (by rw [← HP.out]; exact Int.natCast_nonneg _) (HW.out hlt)]; exact hz2
        clear hz2
        go_enter Tryd.func33, Tryd.ntmps33
        go_wp2_with (go_at_call 66; refine (rmany_any _ vs _ H0).mono ?_; rintro e w1 ⟨rfl, hq⟩)
        go_loopw [6, 7] (fun out i wr => ∃ k : Nat, k ≤ vs.length ∧ i = .int .i64 k ∧ Own wr w.heap.size out (ptH vs n k) ∧ Below w.heap.size w wr) (fun _ i _ => vs.length - (intOf i).toNat)
        case atStart => exact ⟨0, Nat.zero_le _, rfl, Own.nil _ _, hq.below _⟩
        case round =>
          obtain ⟨k, hk, rfl, hown, hbel⟩ := hrel
          by_cases hlt2 : k < vs.length
          · obtain ⟨rfl, hb⟩ := ha (by intro h; simp [h] at hlt2)
            have hy := (hbel.cell (p := ⟨b, off + k, none⟩) hb).trans (HC.out k hlt2)
            obtain ⟨_, hy1, hy2⟩ := litB_bd (mayB_mem hmb _ (getD_mem hlt2))
            have hle := ptH_len vs n k
            have hsz := hbel.size
            have hk64 : k < 64 := by omega
            have hbit := bit_of n k hn
            have HT := Lib.hid (ptH_hit vs n k)
            by_cases hp : n / 2 ^ k % 2 = 1
            · have HV : Hid (ptAt vs n k = vs.getD k 0) := by show _ = _; unfold ptAt; rw [if_pos hp]
              have hz9 : (bits BinOp.and IntKind.u64 ((n : Int) / 2 ^ k) 1 == 1) = true := by rw [hbit, hp]; rfl
              clear hbit hp
              generalize vs.getD k 0 = y at *
              generalize ptH vs n k = P at *
              go_wp2_with (at_builtin; refine wpList_app1 rfl _ _ rfl w.heap.size _ _ y wr.heap.size rfl rfl (hown.alloc _) (by simp) (by omega) (by simp; omega) ?_; intro v' w' hown' hg')
              go_roundw
              case rel => exact ⟨k + 1, by omega, by go_num, by rw [HT.out, HV.out]; exact hown', below_app (hbel.alloc (by omega) _) (hown.alloc _) (by simp; omega) hg'⟩
              case measure => simp [intOf]; omega
            · have hp0 : n / 2 ^ k % 2 = 0 := by omega
              have HV : Hid (ptAt vs n k = -(vs.getD k 0)) := by show _ = _; unfold ptAt; rw [if_neg hp]
              have hz9 : (bits BinOp.and IntKind.u64 ((n : Int) / 2 ^ k) 1 == 1) = false := by rw [hbit, hp0]; rfl
              clear hbit hp hp0
              generalize vs.getD k 0 = y at *
              generalize ptH vs n k = P at *
              go_wp2_with (at_builtin; refine wpList_app1 rfl _ _ rfl w.heap.size _ _ (-y) wr.heap.size rfl rfl (hown.alloc _) (by simp) (by omega) (by simp; omega) ?_; intro v' w' hown' hg')
              go_roundw
              case rel => exact ⟨k + 1, by omega, by go_num, by rw [HT.out, HV.out]; exact hown', below_app (hbel.alloc (by omega) _) (hown.alloc _) (by simp; omega) hg'⟩
              case measure => simp [intOf]; omega
          · have hk2 : k = vs.length := by omega
            subst hk2
            have hown2 : Own _ w.heap.size _ (ptL vs n) := hown
            clear hown
            go_wp2
            go_ret2
            exact ⟨_, ret_pair (by rw [HF.out]), by rw [HF.out]; exact hown2.ints (by rw [ptL_len]; exact hl) (ptL_64 vs n hmb), hbel⟩
      · clear hz2
        go_enter Tryd.func33, Tryd.ntmps33
        go_wp2_with (go_at_call 66; refine (rmany_any _ vs _ H0).mono ?_; rintro e w1 ⟨rfl, hq⟩)
        go_loopw [6, 7] (fun out i wr => ∃ k : Nat, k ≤ vs.length ∧ i = .int .i64 k ∧ Own wr w.heap.size out (ptH vs n k) ∧ Below w.heap.size w wr) (fun _ i _ => vs.length - (intOf i).toNat)
        case atStart => exact ⟨0, Nat.zero_le _, rfl, Own.nil _ _, hq.below _⟩
        case round =>
          obtain ⟨k, hk, rfl, hown, hbel⟩ := hrel
          by_cases hlt2 : k < vs.length
          · obtain ⟨rfl, hb⟩ := ha (by intro h; simp [h] at hlt2)
            have hy := (hbel.cell (p := ⟨b, off + k, none⟩) hb).trans (HC.out k hlt2)
            obtain ⟨_, hy1, hy2⟩ := litB_bd (mayB_mem hmb _ (getD_mem hlt2))
            have hle := ptH_len vs n k
            have hsz := hbel.size
            have hk64 : k < 64 := by omega
            have hbit := bit_of n k hn
            have HT := Lib.hid (ptH_hit vs n k)
            by_cases hp : n / 2 ^ k % 2 = 1
            · have HV : Hid (ptAt vs n k = vs.getD k 0) := by show _ = _; unfold ptAt; rw [if_pos hp]
              have hz9 : (bits BinOp.and IntKind.u64 ((n : Int) / 2 ^ k) 1 == 1) = true := by rw [hbit, hp]; rfl
              clear hbit hp
              generalize vs.getD k 0 = y at *
              generalize ptH vs n k = P at *
              go_wp2_with (at_builtin; refine wpList_app1 rfl _ _ rfl w.heap.size _ _ y wr.heap.size rfl rfl (hown.alloc _) (by simp) (by omega) (by simp; omega) ?_; intro v' w' hown' hg')
              go_roundw
              case rel => exact ⟨k + 1, by omega, by go_num, by rw [HT.out, HV.out]; exact hown', below_app (hbel.alloc (by omega) _) (hown.alloc _) (by simp; omega) hg'⟩
              case measure => simp [intOf]; omega
            · have hp0 : n / 2 ^ k % 2 = 0 := by omega
              have HV : Hid (ptAt vs n k = -(vs.getD k 0)) := by show _ = _; unfold ptAt; rw [if_neg hp]
              have hz9 : (bits BinOp.and IntKind.u64 ((n : Int) / 2 ^ k) 1 == 1) = false := by rw [hbit, hp0]; rfl
              clear hbit hp hp0
              generalize vs.getD k 0 = y at *
              generalize ptH vs n k = P at *
              go_wp2_with (at_builtin; refine wpList_app1 rfl _ _ rfl w.heap.size _ _ (-y) wr.heap.size rfl rfl (hown.alloc _) (by simp) (by omega) (by simp; omega) ?_; intro v' w' hown' hg')
              go_roundw
              case rel => exact ⟨k + 1, by omega, by go_num, by rw [HT.out, HV.out]; exact hown', below_app (hbel.alloc (by omega) _) (hown.alloc _) (by simp; omega) hg'⟩
              case measure => simp [intOf]; omega
          · have hk2 : k = vs.length := by omega
            subst hk2
            have hown2 : Own _ w.heap.size _ (ptL vs n) := hown
            clear hown
            go_wp2
            go_ret2
            exact ⟨_, ret_pair (by rw [HF.out]), by rw [HF.out]; exact hown2.ints (by rw [ptL_len]; exact hl) (ptL_64 vs n hmb), hbel⟩
    · have HF : Hid (pointL vs n = ([], 4)) := by show _ = _; unfold pointL; rw [if_pos hm, if_neg hz]
      have hz1 : 2 ^ vs.length ≤ n := by
        rcases Nat.lt_or_ge n (2 ^ vs.length) with h | h
        · exact absurd (Nat.div_eq_of_lt h) hz
        · exact h
      have hlt : vs.length < 64 := by
        rcases Nat.lt_or_ge vs.length 64 with h | h
        · exact h
        · have e : vs.length = 64 := by omega
          rw [e] at hz1
          omega
      have hz2 : (2 : Int) ^ vs.length ≤ (n : Int) := by rw [← hpz]; omega
      have hz3 : IntKind.u64.wrap (2 ^ vs.length) ≤ (n : Int) := by rw [wraps64 (2 ^ vs.length) (by rw [← hpz]; exact Int.natCast_nonneg _) (HW.out hlt)]; exact hz2
      clear hz hz1 hz2 hpz
      go_enter Tryd.func33, Tryd.ntmps33
      go_wp2_with (go_at_call 66; refine (rmany_any _ vs _ H0).mono ?_; rintro e w1 ⟨rfl, hq⟩)
      go_ret2
      exact ⟨_, ret_pair (by rw [HF.out]), by rw [HF.out]; exact IsInts.nil _, hq.below _⟩
  · have HF : Hid (pointL vs n = ([], 2)) := by show _ = _; unfold pointL; rw [if_neg hm]
    have hm' : manyB vs = false := by simpa using hm
    clear hm
    obtain ⟨a, cap, rfl⟩ := H.shape
    go_enter Tryd.func33, Tryd.ntmps33
    go_wp2_with (go_at_call 66; refine (rmany_any _ vs _ H0).mono ?_; rintro e w1 ⟨rfl, hq⟩)
    go_ret2
    exact ⟨_, ret_pair (by rw [HF.out]), by rw [HF.out]; exact IsInts.nil _, hq.below _⟩

end Go.Proofs.YtkcbicakcjflkaaDoor
