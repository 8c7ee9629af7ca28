/- The reference's Sub, Strike and Compare. -/
import Derived.Test.YtnedpngadfkmiaaDoorJoinR
namespace Go.Proofs.YtnedpngadfkmiaaDoor
open Go.RowKit
set_option linter.unusedVariables false

def allIn (a b : List Int) : Bool := decide (∀ x ∈ a, x ∈ b)
def subR (a b : List Int) : Bool := mayB a && mayB b && allIn a b

set_option maxHeartbeats 800000 in
theorem rsub_any (v u : Value) (l m : List Int) (w : World) (H : IsInts w v l) (K : IsInts w u m) :
    Calls Tryd.prog 39 #[v, u] w fun e w' => e = .returned (.bool (subR l m)) ∧ Quiet w w' := by
  have H0 := H
  obtain ⟨a, cap, rfl, _, _, hl, h64, b, off, ha, hc⟩ := H
  by_cases hm1 : mayB l = true
  · by_cases hm2 : mayB m = true
    · have HF : Hid (subR l m = allIn l m) := by show _ = _; unfold subR; rw [hm1, hm2]; rfl
      go_enter Tryd.func39, Tryd.ntmps39
      go_wp2_with fail
      refine (rmay_v _ l _ H0).mono ?_
      rintro e w1 ⟨rfl, hq1⟩
      go_wp2_with fail
      refine (rmay_v _ m _ (K.quiet hq1)).mono ?_
      rintro e w2 ⟨rfl, hq2⟩
      have hqq := hq1.trans hq2
      have K2 := K.quiet hqq
      have hc2 : ∀ j, j < l.length → w2.cell? ⟨b, off + j, none⟩ = some (.int .i64 (l.getD j 0)) := fun j hj => (hqq.cell _).trans (hc j hj)
      clear hq1 hq2 hc H0
      go_wp2_with fail
      go_loop [5] (fun i => ∃ k : Nat, k ≤ l.length ∧ i = .int .i64 k ∧ ∀ x ∈ l.take k, x ∈ m) (fun i => l.length - (intOf i).toNat)
      case atStart => exact ⟨0, Nat.zero_le _, rfl, by simp⟩
      case round =>
        obtain ⟨k, hk, rfl, hi⟩ := hrel
        by_cases hlt : k < l.length
        · obtain ⟨rfl, hb⟩ := ha (by intro h; simp [h] at hlt)
          have hy := hc2 k hlt
          have hy1 := (h64.at k hlt).1
          have hy2 := (h64.at k hlt).2
          have hmem := getD_mem hlt
          have htk : l.take (k + 1) = l.take k ++ [l.getD k 0] := by rw [List.take_succ_eq_append_getElem hlt]; simp [List.getD, hlt]
          have HC := Lib.hid hc2
          by_cases hp : memB m (l.getD k 0) = true
          · have HN : Hid (∀ x ∈ l.take (k + 1), x ∈ m) := by
              show ∀ x ∈ l.take (k + 1), x ∈ m
              rw [htk]
              intro x hx
              rcases List.mem_append.1 hx with hx | hx
              · exact hi x hx
              · rw [List.mem_singleton] at hx; rw [hx]; unfold memB at hp; simpa using hp
            clear hi hc2 htk hmem
            generalize l.getD k 0 = y at *
            go_wp2_with (go_at_call 27; refine (rhas_any u m _ _ K2 (by omega) (by omega)).mono ?_; rintro e w' ⟨rfl, rfl⟩)
            go_round
            case rel => exact ⟨k + 1, by omega, by go_num, HN.out⟩
            case measure => simp [intOf]; omega
          · have HG : Hid (subR l m = false) := HF.out.trans (by unfold allIn; rw [decide_eq_false_iff_not]; intro h; apply hp; unfold memB; simp only [decide_eq_true_eq]; exact h _ hmem)
            have hp' : memB m (l.getD k 0) = false := by simpa using hp
            clear hi hc2 htk hp hmem
            generalize l.getD k 0 = y at *
            go_wp2_with (go_at_call 27; refine (rhas_any u m _ _ K2 (by omega) (by omega)).mono ?_; rintro e w' ⟨rfl, rfl⟩)
            go_ret
            exact ⟨ret_bool HG.out.symm, hqq⟩
        · have HG : Hid (subR l m = true) := by
            rw [List.take_of_length_le (by omega)] at hi
            exact HF.out.trans (by unfold allIn; rw [decide_eq_true_eq]; exact hi)
          clear hi
          go_wp2
          go_ret
          exact ⟨ret_bool HG.out.symm, hqq⟩
    · have hm2' : mayB m = false := by simpa using hm2
      have HF : Hid (subR l m = false) := by show _ = _; unfold subR; rw [hm1, hm2']; rfl
      clear hm2
      go_enter Tryd.func39, Tryd.ntmps39
      go_wp2_with fail
      refine (rmay_v _ l _ H0).mono ?_
      rintro e w1 ⟨rfl, hq1⟩
      go_wp2_with fail
      refine (rmay_v _ m _ (K.quiet hq1)).mono ?_
      rintro e w2 ⟨rfl, hq2⟩
      go_wp2
      go_ret
      exact ⟨ret_bool HF.out.symm, hq1.trans hq2⟩
  · have hm1' : mayB l = false := by simpa using hm1
    have HF : Hid (subR l m = false) := by show _ = _; unfold subR; rw [hm1']; rfl
    clear hm1
    go_enter Tryd.func39, Tryd.ntmps39
    go_wp2_with fail
    refine (rmay_v _ l _ H0).mono ?_
    rintro e w1 ⟨rfl, hq1⟩
    go_wp2
    go_ret
    exact ⟨ret_bool HF.out.symm, hq1⟩

def cmpL : List Int → List Int → Int
  | [], [] => 0
  | [], _ :: _ => -1
  | _ :: _, [] => 1
  | x :: r, y :: s => if litLt x y then -1 else if litLt y x then 1 else cmpL r s

theorem cmpL_drop {a b : List Int} {k : Nat} (h : k < a.length) (h2 : k < b.length) :
    cmpL (a.drop k) (b.drop k) = if litLt (a.getD k 0) (b.getD k 0) then -1 else if litLt (b.getD k 0) (a.getD k 0) then 1 else cmpL (a.drop (k + 1)) (b.drop (k + 1)) := by
  have e1 : a.drop k = a.getD k 0 :: a.drop (k + 1) := by rw [List.drop_eq_getElem_cons h]; simp [List.getD, h]
  have e2 : b.drop k = b.getD k 0 :: b.drop (k + 1) := by rw [List.drop_eq_getElem_cons h2]; simp [List.getD, h2]
  rw [e1, e2, cmpL]
theorem cmpL_end {a b : List Int} {k : Nat} (hk1 : k ≤ a.length) (hk2 : k ≤ b.length) (h : ¬ (k < a.length ∧ k < b.length)) :
    cmpL (a.drop k) (b.drop k) = if a.length < b.length then -1 else if b.length < a.length then 1 else 0 := by
  by_cases h1 : k < a.length
  · have h2 : b.drop k = [] := List.drop_eq_nil_of_le (by omega)
    rw [h2, List.drop_eq_getElem_cons h1, cmpL, if_neg (by omega), if_pos (by omega)]
  · have h1' : a.drop k = [] := List.drop_eq_nil_of_le (by omega)
    by_cases h2 : k < b.length
    · rw [h1', List.drop_eq_getElem_cons h2, cmpL, if_pos (by omega)]
    · rw [h1', List.drop_eq_nil_of_le (by omega), cmpL, if_neg (by omega), if_neg (by omega)]

set_option maxHeartbeats 800000 in
theorem rcompare_any (v u : Value) (l m : List Int) (w : World) (H : IsInts w v l) (K : IsInts w u m) :
    Calls Tryd.prog 43 #[v, u] w fun e w' => e = .returned (.int .i64 (cmpL l m)) ∧ Quiet w w' := by
  obtain ⟨a, cap, rfl, _, _, hl, h64, b, off, ha, hc⟩ := H
  obtain ⟨a2, cap2, rfl, _, _, hl2, h642, b2, off2, ha2, hc2⟩ := K
  go_enter Tryd.func43, Tryd.ntmps43
  go_wp2
  go_loopw [5] (fun i wr => ∃ k : Nat, k ≤ l.length ∧ k ≤ m.length ∧ i = .int .i64 k ∧ Quiet w wr ∧ cmpL l m = cmpL (l.drop k) (m.drop k)) (fun i _ => l.length - (intOf i).toNat)
  case atStart => exact ⟨0, Nat.zero_le _, Nat.zero_le _, rfl, Quiet.refl _, rfl⟩
  case round =>
    obtain ⟨k, hk, hkm, rfl, hq, hi⟩ := hrel
    have HI := Lib.hid hi
    clear hi
    by_cases hboth : k < l.length ∧ k < m.length
    · obtain ⟨hlt, hlt2⟩ := hboth
      obtain ⟨rfl, hb⟩ := ha (by intro h; simp [h] at hlt)
      obtain ⟨rfl, hb2⟩ := ha2 (by intro h; simp [h] at hlt2)
      have hy := (hq.cell _).trans (hc k hlt)
      have hy1 := (h64.at k hlt).1
      have hy2 := (h64.at k hlt).2
      have hz := (hq.cell _).trans (hc2 k hlt2)
      have hz1 := (h642.at k hlt2).1
      have hz2 := (h642.at k hlt2).2
      have HD := Lib.hid (cmpL_drop hlt hlt2)
      have HC := Lib.hid hc
      have HC2 := Lib.hid hc2
      clear hc hc2 ha ha2
      generalize l.getD k 0 = y at *
      generalize m.getD k 0 = z at *
      by_cases h1 : litLt y z
      · have h1' : decide (litLt y z) = true := by simpa using h1
        have HG : Hid (cmpL l m = -1) := HI.out.trans (HD.out.trans (if_pos h1))
        go_wp2_with fail
        go_quiet ((go_at_call 104; exact quiet_left (rbefore_any _ _ _ (by omega) (by omega) (by omega) (by omega))))
        go_wp2
        go_ret
        exact ⟨ret_int HG.out.symm, hq.drewN _⟩
      · have h1' : decide (litLt y z) = false := by simpa using h1
        by_cases h2 : litLt z y
        · have h2' : decide (litLt z y) = true := by simpa using h2
          have HG : Hid (cmpL l m = 1) := HI.out.trans (HD.out.trans ((if_neg h1).trans (if_pos h2)))
          go_wp2_with fail
          go_quiet ((go_at_call 104; exact quiet_left (rbefore_any _ _ _ (by omega) (by omega) (by omega) (by omega))))
          go_wp2_with fail
          have hq2 := hq.drewN nq
          have hy3 : (wr.drewN nq).cell? ⟨b, off + k, none⟩ = some (.int .i64 y) := hy
          have hz3 : (wr.drewN nq).cell? ⟨b2, off2 + k, none⟩ = some (.int .i64 z) := hz
          generalize wr.drewN nq = wq at *
          go_quiet ((go_at_call 104; exact quiet_left (rbefore_any _ _ _ (by omega) (by omega) (by omega) (by omega))))
          go_wp2
          go_ret
          exact ⟨ret_int HG.out.symm, hq2.drewN _⟩
        · have h2' : decide (litLt z y) = false := by simpa using h2
          have HG : Hid (cmpL l m = cmpL (l.drop (k + 1)) (m.drop (k + 1))) := HI.out.trans (HD.out.trans ((if_neg h1).trans (if_neg h2)))
          go_wp2_with fail
          go_quiet ((go_at_call 104; exact quiet_left (rbefore_any _ _ _ (by omega) (by omega) (by omega) (by omega))))
          go_wp2_with fail
          have hq2 := hq.drewN nq
          have hy3 : (wr.drewN nq).cell? ⟨b, off + k, none⟩ = some (.int .i64 y) := hy
          have hz3 : (wr.drewN nq).cell? ⟨b2, off2 + k, none⟩ = some (.int .i64 z) := hz
          generalize wr.drewN nq = wq at *
          go_quiet ((go_at_call 104; exact quiet_left (rbefore_any _ _ _ (by omega) (by omega) (by omega) (by omega))))
          go_wp2
          go_roundw
          case rel => exact ⟨k + 1, by omega, by omega, by go_num, hq2.drewN _, HG.out⟩
          case measure => simp [intOf]; omega
    · have HE := Lib.hid (cmpL_end hk hkm hboth)
      by_cases h1 : l.length < m.length
      · have HG : Hid (cmpL l m = -1) := HI.out.trans (HE.out.trans (if_pos h1))
        have hk1 : ¬ k < l.length := by omega
        clear hboth
        go_wp2
        go_ret
        exact ⟨ret_int HG.out.symm, hq⟩
      · by_cases h2 : m.length < l.length
        · have HG : Hid (cmpL l m = 1) := HI.out.trans (HE.out.trans ((if_neg h1).trans (if_pos h2)))
          have hk1 : ¬ k < m.length := by omega
          have hk2 : k < l.length := by omega
          clear hboth
          go_wp2
          go_ret
          exact ⟨ret_int HG.out.symm, hq⟩
        · have HG : Hid (cmpL l m = 0) := HI.out.trans (HE.out.trans ((if_neg h1).trans (if_neg h2)))
          have hk1 : ¬ k < l.length := by omega
          clear hboth
          go_wp2
          go_ret
          exact ⟨ret_int HG.out.symm, hq⟩

end Go.Proofs.YtnedpngadfkmiaaDoor
