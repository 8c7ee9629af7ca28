/- LitsLarge: the walk. -/
import Derived.Test.YtnedpngadfkmiaaDoorPureLarge
import Derived.Test.YtnedpngadfkmiaaDoorLawLib
namespace Go.Proofs.YtnedpngadfkmiaaDoor
open Go.RowKit
set_option linter.unusedVariables false


set_option maxHeartbeats 1600000 in
set_option maxRecDepth 100000 in
theorem large_any (x y z : Int) (w : World) (hT : Pow w.heap.size w) (hS : SameAt w) (hx0 : 0 ≤ x) (hx1 : x ≤ 255) (hy0 : 0 ≤ y) (hy1 : y ≤ 65535) (hz0 : 0 ≤ z) (hz1 : z ≤ 255) :
    Calls Tryd.prog 6 #[.int .u8 x, .int .u16 y, .int .u8 z] w (fun e w' => e = .returned (.bool true) ∧ Below w.heap.size w w') := by
  have HT := Lib.hid hT
  have HS := Lib.hid hS
  clear hT hS
  obtain ⟨d, hd, hand⟩ := and3_of x hx0 hx1
  obtain ⟨p, hp⟩ : ∃ p : Nat, p = 19997 + d := ⟨_, rfl⟩
  obtain ⟨n, hn⟩ : ∃ n : Nat, n = p + 1 := ⟨_, rfl⟩
  obtain ⟨q, hq⟩ : ∃ q : Nat, q = (z % 11).toNat := ⟨_, rfl⟩
  have e1 : 19998 + (d : Int) = (n : Int) := by omega
  have e2 : (n : Int) - 1 = (p : Int) := by omega
  have e3 : z % 11 = (q : Int) := by omega
  have b1 : 19998 ≤ n := by omega
  have b2 : n ≤ 20001 := by omega
  have b3 : q ≤ 10 := by omega
  have b5 : p < n := by omega
  have b6 : 0 ≤ y % 20002 := by omega
  have HP := Lib.hid hn
  clear hp hn hq
  have hten : IsInts (w.alloc (.cells #[.int .i64 1, .int .i64 (-2), .int .i64 3, .int .i64 4, .int .i64 5, .int .i64 6, .int .i64 7, .int .i64 8, .int .i64 9, .int .i64 4096] 3)) (.slice (some ⟨w.heap.size, 0, none⟩) 10 10) tenL := by
    refine ⟨_, 10, rfl, ⟨by decide, fun e => by cases e⟩, by omega, by decide, tenL_64, w.heap.size, 0, fun _ => ⟨rfl, by simp⟩, fun j hj => ?_⟩
    have hj' : j < 10 := hj
    have : j = 0 ∨ j = 1 ∨ j = 2 ∨ j = 3 ∨ j = 4 ∨ j = 5 ∨ j = 6 ∨ j = 7 ∨ j = 8 ∨ j = 9 := by omega
    rcases this with rfl | rfl | rfl | rfl | rfl | rfl | rfl | rfl | rfl | rfl <;> simp [tenL]
  have hbel1 := (Below.refl w.heap.size w).alloc (Nat.le_refl _) (.cells #[.int .i64 1, .int .i64 (-2), .int .i64 3, .int .i64 4, .int .i64 5, .int .i64 6, .int .i64 7, .int .i64 8, .int .i64 9, .int .i64 4096] 3)
  obtain ⟨w1, hw1⟩ : ∃ w1, w1 = w.alloc (.cells #[.int .i64 1, .int .i64 (-2), .int .i64 3, .int .i64 4, .int .i64 5, .int .i64 6, .int .i64 7, .int .i64 8, .int .i64 9, .int .i64 4096] 3) := ⟨_, rfl⟩
  have hs1 : w1.heap.size = w.heap.size + 1 := by rw [hw1]; simp
  rw [← hw1] at hten hbel1
  have HW1 := Lib.hid hw1
  have HS1 := Lib.hid hs1
  clear hw1 hs1
  by_cases hmin : y % 20002 ≤ (p : Int)
  · obtain ⟨m, hm⟩ : ∃ m : Nat, m = (y % 20002).toNat := ⟨_, rfl⟩
    have e4 : y % 20002 = (m : Int) := by omega
    have b4 : m ≤ p := by omega
    clear hm hmin
    go_enter Tryd.func6, Tryd.ntmps6
    go_wp2_with (at_make; refine wpList_mkRows rfl _ _ rfl n rfl rfl (by omega) ?_; intro w2 hown2 hg2)
    rw [← HW1.out] at hown2 hg2
    have hs2 := HS1.out
    have hbel2 : Below w1.heap.size w1 w2 := (Below.refl w1.heap.size w1).grown hg2 (Nat.le_refl _) (fun k hk => by cases hk)
    rw [hs2] at hown2 hbel2
    have HLE : Hid (w1.heap.size ≤ w.heap.size + 1) := Lib.hid (by rw [hs2]; exact Nat.le_refl _)
    clear hg2 hs2
    go_loopw [10] (fun i wr => ∃ k : Nat, k ≤ m ∧ i = .int .i64 k ∧ OwnR wr (w.heap.size + 1) (.slice (some ⟨w.heap.size + 1, 0, none⟩) n n) (List.replicate k (.slice (some ⟨w.heap.size, 0, none⟩) 10 10) ++ List.replicate (n - k) (.slice none 0 0)) ∧ Below (w.heap.size + 1) w1 wr) (fun i _ => m - (intOf i).toNat)
    case atStart => exact ⟨0, Nat.zero_le _, rfl, by simpa using hown2, hbel2⟩
    case round =>
      clear hown2 hbel2
      obtain ⟨k, hk, rfl, hown, hbel⟩ := hrel
      by_cases hlt : k < m
      · have hy := hown.cell k (by simp; omega)
        have hfz := hown.frozen k
        have hown2 := hown.store k (.slice (some ⟨w.heap.size, 0, none⟩) 10 10)
        rw [rep_set k n _ _ (by omega)] at hown2
        go_wp2
        go_roundw
        case rel => exact ⟨k + 1, by omega, by go_num, hown2, hbel.setCell (by simp) _⟩
        case measure => simp [intOf]; omega
      · obtain rfl : k = m := by omega
        have hy := hown.cell p (by simp; omega)
        have hfz := hown.frozen p
        have hown2 := hown.store p (.slice (some ⟨w.heap.size, 0, none⟩) q 10)
        rw [HP.out] at hown2
        rw [rep_last k p _ _ _ b4] at hown2
        have hbel2 := hbel.setCell (p := ⟨w.heap.size + 1, p, none⟩) (by simp) (.slice (some ⟨w.heap.size, 0, none⟩) q 10)
        have hten2 := hten.below hbel2 HLE.out
        have hrows : IsRows (wr.setCell ⟨w.heap.size + 1, p, none⟩ (.slice (some ⟨w.heap.size, 0, none⟩) q 10)) (.slice (some ⟨w.heap.size + 1, 0, none⟩) (p + 1) (p + 1)) (largeL k p q) := by
          refine hown2.rows (((RowsAre.replicate hten2 k).append (RowsAre.replicate (IsInts.nil _) (p - k))).snoc ?_) (by rw [largeL_len _ _ _ b4]; omega)
          exact IsInts.take (l := tenL) (cap := 10) hten2 b3
        rw [← HP.out] at hrows
        have hbel3 := hbel1.trans (hbel2.mono (by omega))
        have hc := maycnf_any _ _ _ hrows
        rw [largeL_may k p q b4 b3] at hc
        have HC := Lib.hid hc
        clear hc hrows hown2 hown hten2 hbel hbel2 hten
        have h3 : (n ≤ 20000 ∧ k * 10 + q ≤ 200000) ∨ 20000 < n ∨ (n ≤ 20000 ∧ 200000 < k * 10 + q) := by omega
        rcases h3 with ⟨c1, c2⟩ | c1 | ⟨c1, c2⟩
        · have HB : Hid (decide (p + 1 ≤ 20000 ∧ k * 10 + q ≤ 200000) = true) := by show _ = _; rw [decide_eq_true_eq, ← HP.out]; exact ⟨c1, c2⟩
          rw [HB.out] at HC
          go_wp2_with (first
            | (go_at_call 45; refine HC.out.mono ?_; rintro e w5 ⟨rfl, rfl⟩)
            | (go_at_call 19; refine (awakeX hbel3 HT.out HS.out).mono ?_; rintro e w6 ⟨rfl, hz6⟩))
          go_ret
          exact ⟨rfl, hz6⟩
        · have HB : Hid (decide (p + 1 ≤ 20000 ∧ k * 10 + q ≤ 200000) = false) := by show _ = _; rw [decide_eq_false_iff_not, ← HP.out]; intro h; omega
          rw [HB.out] at HC
          go_wp2_with (first
            | (go_at_call 45; refine HC.out.mono ?_; rintro e w5 ⟨rfl, rfl⟩)
            | (go_at_call 19; refine (awakeX hbel3 HT.out HS.out).mono ?_; rintro e w6 ⟨rfl, hz6⟩))
          go_ret
          exact ⟨rfl, hz6⟩
        · exfalso; omega
  · have e4 : (p : Int) < y % 20002 := by omega
    clear hmin
    go_enter Tryd.func6, Tryd.ntmps6
    go_wp2_with (at_make; refine wpList_mkRows rfl _ _ rfl n rfl rfl (by omega) ?_; intro w2 hown2 hg2)
    rw [← HW1.out] at hown2 hg2
    have hs2 := HS1.out
    have hbel2 : Below w1.heap.size w1 w2 := (Below.refl w1.heap.size w1).grown hg2 (Nat.le_refl _) (fun k hk => by cases hk)
    rw [hs2] at hown2 hbel2
    have HLE : Hid (w1.heap.size ≤ w.heap.size + 1) := Lib.hid (by rw [hs2]; exact Nat.le_refl _)
    clear hg2 hs2
    go_loopw [10] (fun i wr => ∃ k : Nat, k ≤ p ∧ i = .int .i64 k ∧ OwnR wr (w.heap.size + 1) (.slice (some ⟨w.heap.size + 1, 0, none⟩) n n) (List.replicate k (.slice (some ⟨w.heap.size, 0, none⟩) 10 10) ++ List.replicate (n - k) (.slice none 0 0)) ∧ Below (w.heap.size + 1) w1 wr) (fun i _ => p - (intOf i).toNat)
    case atStart => exact ⟨0, Nat.zero_le _, rfl, by simpa using hown2, hbel2⟩
    case round =>
      clear hown2 hbel2
      obtain ⟨k, hk, rfl, hown, hbel⟩ := hrel
      by_cases hlt : k < p
      · have hy := hown.cell k (by simp; omega)
        have hfz := hown.frozen k
        have hown2 := hown.store k (.slice (some ⟨w.heap.size, 0, none⟩) 10 10)
        rw [rep_set k n _ _ (by omega)] at hown2
        go_wp2
        go_roundw
        case rel => exact ⟨k + 1, by omega, by go_num, hown2, hbel.setCell (by simp) _⟩
        case measure => simp [intOf]; omega
      · have hkp : k = p := by omega
        have hkp2 : ¬ k < p := by omega
        have b4 : k ≤ p := by omega
        have HKP := Lib.hid hkp
        clear hkp hlt
        have hy := hown.cell p (by simp; omega)
        have hfz := hown.frozen p
        have hown2 := hown.store p (.slice (some ⟨w.heap.size, 0, none⟩) q 10)
        rw [HP.out] at hown2
        rw [rep_last k p _ _ _ b4] at hown2
        have hbel2 := hbel.setCell (p := ⟨w.heap.size + 1, p, none⟩) (by simp) (.slice (some ⟨w.heap.size, 0, none⟩) q 10)
        have hten2 := hten.below hbel2 HLE.out
        have hrows : IsRows (wr.setCell ⟨w.heap.size + 1, p, none⟩ (.slice (some ⟨w.heap.size, 0, none⟩) q 10)) (.slice (some ⟨w.heap.size + 1, 0, none⟩) (p + 1) (p + 1)) (largeL k p q) := by
          refine hown2.rows (((RowsAre.replicate hten2 k).append (RowsAre.replicate (IsInts.nil _) (p - k))).snoc ?_) (by rw [largeL_len _ _ _ b4]; omega)
          exact IsInts.take (l := tenL) (cap := 10) hten2 b3
        rw [← HP.out] at hrows
        have hbel3 := hbel1.trans (hbel2.mono (by omega))
        have hc := maycnf_any _ _ _ hrows
        rw [largeL_may k p q b4 b3] at hc
        have HC := Lib.hid hc
        clear hc hrows hown2 hown hten2 hbel hbel2 hten
        have h3 : (n ≤ 20000 ∧ k * 10 + q ≤ 200000) ∨ 20000 < n ∨ (n ≤ 20000 ∧ 200000 < k * 10 + q) := by omega
        rcases h3 with ⟨c1, c2⟩ | c1 | ⟨c1, c2⟩
        · have HB : Hid (decide (p + 1 ≤ 20000 ∧ k * 10 + q ≤ 200000) = true) := by show _ = _; rw [decide_eq_true_eq, ← HP.out]; exact ⟨c1, c2⟩
          rw [HB.out] at HC
          go_wp2_with (first
            | (go_at_call 45; refine HC.out.mono ?_; rintro e w5 ⟨rfl, rfl⟩)
            | (go_at_call 19; refine (awakeX hbel3 HT.out HS.out).mono ?_; rintro e w6 ⟨rfl, hz6⟩))
          go_ret
          exact ⟨rfl, hz6⟩
        · have HB : Hid (decide (p + 1 ≤ 20000 ∧ k * 10 + q ≤ 200000) = false) := by show _ = _; rw [decide_eq_false_iff_not, ← HP.out]; intro h; omega
          rw [HB.out] at HC
          go_wp2_with (first
            | (go_at_call 45; refine HC.out.mono ?_; rintro e w5 ⟨rfl, rfl⟩)
            | (go_at_call 19; refine (awakeX hbel3 HT.out HS.out).mono ?_; rintro e w6 ⟨rfl, hz6⟩))
          go_ret
          exact ⟨rfl, hz6⟩
        · exfalso; omega

end Go.Proofs.YtnedpngadfkmiaaDoor
