/- asg.Point and the reference's. -/
import Derived.Laws.BitsLemmas
import Derived.Test.YtmhjpbhldaagmaaDoorAsgMany
import Derived.Test.YtmhjpbhldaagmaaDoorMgB
import Derived.Test.YtmhjpbhldaagmaaDoorMgA
namespace Go.Proofs.YtmhjpbhldaagmaaDoor
open Go.RowKit
set_option linter.unusedVariables false

/-- The assignment number n. -/
def ptAt (vs : List Int) (n i : Nat) : Int := if n / 2 ^ i % 2 = 1 then vs.getD i 0 else -(vs.getD i 0)
def ptL (vs : List Int) (n : Nat) : List Int := (List.range vs.length).map (ptAt vs n)
def pointL (vs : List Int) (n : Nat) : List Int × Int := if manyB vs then (if n / 2 ^ vs.length = 0 then (ptL vs n, 0) else ([], 4)) else ([], 2)
def ptK (vs : List Int) (n k : Nat) : List Int := (List.range k).map (ptAt vs n) ++ List.replicate (vs.length - k) 0

theorem ptK_zero (vs : List Int) (n : Nat) : ptK vs n 0 = List.replicate vs.length 0 := by simp [ptK]
theorem ptK_full (vs : List Int) (n : Nat) : ptK vs n vs.length = ptL vs n := by simp [ptK, ptL]
theorem ptK_len (vs : List Int) (n k : Nat) (h : k ≤ vs.length) : (ptK vs n k).length = vs.length := by simp [ptK]; omega
theorem ptK_set (vs : List Int) (n k : Nat) (h : k < vs.length) : (ptK vs n k).set k (ptAt vs n k) = ptK vs n (k + 1) := by
  unfold ptK
  rw [List.set_append, if_neg (by simp), show k - ((List.range k).map (ptAt vs n)).length = 0 from by simp, show vs.length - k = (vs.length - (k + 1)) + 1 from by omega, List.replicate_succ, List.set_cons_zero, List.range_succ]
  simp
theorem ptK_set2 (vs : List Int) (n k : Nat) (y : Int) (h : k < vs.length) : ((ptK vs n k).set k y).set k (ptAt vs n k) = ptK vs n (k + 1) := by
  rw [List.set_set, ptK_set vs n k h]

theorem wraps64 (n : Int) (h₀ : 0 ≤ n) (h₁ : n < 2 ^ 64) : IntKind.u64.wrap n = n := by rw [IntKind.wrap_u64]; omega
theorem bit_of (n k : Nat) (hn : n < 18446744073709551616) : bits BinOp.and IntKind.u64 ((n : Int) / 2 ^ k) 1 = ((n / 2 ^ k % 2 : Nat) : Int) := by
  have e : (n : Int) / 2 ^ k = ((n / 2 ^ k : Nat) : Int) := by simp
  have hb : n / 2 ^ k < 18446744073709551616 := Nat.lt_of_le_of_lt (Nat.div_le_self _ _) hn
  rw [e]
  generalize n / 2 ^ k = m at *
  have h := bits_mask .u64 64 (by decide) wraps64 1 (by decide) (m : Int) (by omega) (by omega)
  have e1 : ((2 : Int) ^ 1 - 1) = 1 := by decide
  rw [e1] at h
  rw [h]; simp

theorem ptL_len (vs : List Int) (n : Nat) : (ptL vs n).length = vs.length := by simp [ptL]
theorem ptL_64 (vs : List Int) (n : Nat) (h : mayB vs = true) : In64 (ptL vs n) := by
  intro x hx
  unfold ptL at hx
  obtain ⟨i, hi, rfl⟩ := List.mem_map.1 hx
  rw [List.mem_range] at hi
  obtain ⟨_, h1, h2⟩ := litB_bd (mayB_mem h _ (getD_mem hi))
  unfold ptAt
  split <;> omega

set_option maxHeartbeats 800000 in
set_option maxRecDepth 100000 in
theorem point_any (v : Value) (vs : List Int) (n : Nat) (w : World) (H : IsInts w v vs) (hn : n < 18446744073709551616) :
    Calls Tryd.prog 17 #[v, .int .u64 n] w (RetPair w (pointL vs n)) := by
  have H0 := H
  by_cases hm : manyB vs = true
  · have hmb : mayB vs = true := by unfold manyB at hm; rw [decide_eq_true_eq] at hm; exact hm.2.1
    have h64 : vs.length ≤ 64 := by unfold manyB at hm; rw [decide_eq_true_eq] at hm; exact hm.1
    obtain ⟨a, cap, rfl, _, _, hl, hi64, b, off, ha, hc⟩ := H
    by_cases hz : n / 2 ^ vs.length = 0
    · have HF : Hid (pointL vs n = (ptL vs n, 0)) := by show _ = _; unfold pointL; rw [if_pos hm, if_pos hz]
      have hz' : ((n : Int) / 2 ^ vs.length != 0) = false := by
        have : (n : Int) / 2 ^ vs.length = ((n / 2 ^ vs.length : Nat) : Int) := by simp
        rw [this, hz]; rfl
      clear hz
      have HC := Lib.hid hc
      clear hc
      go_enter Tryd.func17, Tryd.ntmps17
      go_wp2_with (first | (go_at_call 47; refine (mayvars_any _ vs _ H0).mono ?_; rintro e w' ⟨rfl, rfl⟩) | (at_make; refine wpList_mkInts rfl _ _ rfl vs.length rfl rfl hl ?_; intro w1 hown1 hg; have hbel := (Below.refl w.heap.size w).grown hg (Nat.le_refl _) (fun k hk => by cases hk)))
      go_loopw [22] (fun i wr => ∃ k : Nat, k ≤ vs.length ∧ i = .int .i64 k ∧ Own wr w.heap.size (.slice (some ⟨w.heap.size, 0, none⟩) vs.length vs.length) (ptK vs n k) ∧ Below w.heap.size w wr) (fun i _ => vs.length - (intOf i).toNat)
      case atStart => exact ⟨0, Nat.zero_le _, rfl, by rw [ptK_zero]; exact hown1, hbel⟩
      case round =>
        obtain ⟨k, hk, rfl, hown, hb⟩ := hrel
        by_cases hlt : k < vs.length
        · obtain ⟨rfl, hbs⟩ := ha (by intro h; simp [h] at hlt)
          have hy := (hb.cell (p := ⟨b, off + k, none⟩) hbs).trans (HC.out k hlt)
          have hy1 := (hi64.at k hlt).1
          have hy2 := (hi64.at k hlt).2
          have hlen := ptK_len vs n k hk
          have hc0 := hown.cell k (by omega)
          have hfz := hown.frozen k
          have hgd := hown.block.1
          have hst := hown.store k (vs.getD k 0)
          have hc1 := hst.cell k (by simp; omega)
          have hfz1 := hst.frozen k
          have hst2 := hst.store k (-(vs.getD k 0))
          have hk64 : k < 64 := by omega
          have hbit := bit_of n k hn
          obtain ⟨_, hy3, hy4⟩ := litB_bd (mayB_mem hmb _ (getD_mem hlt))
          by_cases hp : n / 2 ^ k % 2 = 1
          · have hv : ptAt vs n k = vs.getD k 0 := by unfold ptAt; rw [if_pos hp]
            have hz2 : (bits BinOp.and IntKind.u64 ((n : Int) / 2 ^ k) 1 == 0) = false := by rw [hbit, hp]; rfl
            rw [show (ptK vs n k).set k (vs.getD k 0) = ptK vs n (k + 1) from by rw [← ptK_set vs n k hlt, hv]] at hst
            have HO := Lib.hid hst
            clear hst hst2 hc1 hfz1 hv hbit hp hown
            generalize ptK vs n k = P at *
            generalize vs.getD k 0 = y at *
            go_wp2
            go_roundw
            case rel => exact ⟨k + 1, by omega, by go_num, HO.out, hb.setCell (by simp) _⟩
            case measure => simp [intOf]; omega
          · have hv : ptAt vs n k = -(vs.getD k 0) := by unfold ptAt; rw [if_neg hp]
            have hp0 : n / 2 ^ k % 2 = 0 := by omega
            have hz2 : (bits BinOp.and IntKind.u64 ((n : Int) / 2 ^ k) 1 == 0) = true := by rw [hbit, hp0]; rfl
            rw [show ((ptK vs n k).set k (vs.getD k 0)).set k (-(vs.getD k 0)) = ptK vs n (k + 1) from by rw [← ptK_set2 vs n k _ hlt, hv]] at hst2
            have HO := Lib.hid hst2
            clear hst hst2 hv hbit hp hp0 hown
            generalize ptK vs n k = P at *
            generalize vs.getD k 0 = y at *
            go_wp2
            go_roundw
            case rel => exact ⟨k + 1, by omega, by go_num, HO.out, (hb.setCell (by simp) _).setCell (by simp) _⟩
            case measure => simp [intOf]; omega
        · have hk2 : k = vs.length := by omega
          subst hk2
          rw [ptK_full] at hown
          go_wp2
          go_ret2
          exact ⟨_, ret_pair (by rw [HF.out]), by rw [HF.out]; exact hown.ints (by rw [ptL_len]; exact hl) (ptL_64 vs n hmb), hb⟩
    · have HF : Hid (pointL vs n = ([], 4)) := by show _ = _; unfold pointL; rw [if_pos hm, if_neg hz]
      have hz' : ((n : Int) / 2 ^ vs.length != 0) = true := by
        have : (n : Int) / 2 ^ vs.length = ((n / 2 ^ vs.length : Nat) : Int) := by simp
        rw [this]; simp; intro h; apply hz; exact_mod_cast h
      clear hz hc
      go_enter Tryd.func17, Tryd.ntmps17
      go_wp2_with (go_at_call 47; refine (mayvars_any _ vs _ H0).mono ?_; rintro e w' ⟨rfl, rfl⟩)
      go_ret2
      exact ⟨_, ret_pair (by rw [HF.out]), by rw [HF.out]; exact IsInts.nil _, Below.refl _ _⟩
  · have HF : Hid (pointL vs n = ([], 2)) := by show _ = _; unfold pointL; rw [if_neg hm]
    have hm' : manyB vs = false := by simpa using hm
    clear hm
    obtain ⟨a, cap, rfl⟩ := H.shape
    go_enter Tryd.func17, Tryd.ntmps17
    go_wp2_with (go_at_call 47; refine (mayvars_any _ vs _ H0).mono ?_; rintro e w' ⟨rfl, rfl⟩)
    go_ret2
    exact ⟨_, ret_pair (by rw [HF.out]), by rw [HF.out]; exact IsInts.nil _, Below.refl _ _⟩

end Go.Proofs.YtmhjpbhldaagmaaDoor
