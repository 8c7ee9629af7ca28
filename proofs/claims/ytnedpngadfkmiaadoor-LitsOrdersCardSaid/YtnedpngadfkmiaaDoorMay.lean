/- lits.May and the reference's. -/
import Derived.Test.YtnedpngadfkmiaaDoorPure
import Derived.Test.YtnedpngadfkmiaaDoorBase
namespace Go.Proofs.YtnedpngadfkmiaaDoor
open Go.RowKit

/-- Whether the variables ascend strictly from p on. -/
def mayFrom : Int → List Int → Bool
  | _, [] => true
  | p, x :: r => decide (p < varOf x) && mayFrom (varOf x) r
def mayB (l : List Int) : Bool := mayFrom 0 l

theorem mayFrom_drop (p : Int) (l : List Int) (k : Nat) (h : k < l.length) : mayFrom p (l.drop k) = (decide (p < varOf (l.getD k 0)) && mayFrom (varOf (l.getD k 0)) (l.drop (k + 1))) := by
  rw [List.drop_eq_getElem_cons h]
  simp [mayFrom, List.getD, h]

theorem varOf_bd (x : Int) : 0 ≤ varOf x ∧ varOf x ≤ 65536 := by
  unfold varOf; split
  · omega
  · split <;> omega

set_option maxHeartbeats 400000 in
theorem may_any (a : Option Addr) (cap : Nat) (l : List Int) (w : World) (hl : l.length ≤ 9223372036854775807) (h64 : In64 l) (H : IntsAt w a l) :
    Calls Tryd.prog 24 #[.slice a l.length cap] w fun e w' => e = .returned (.bool (mayB l)) ∧ w = w' := by
  obtain ⟨b, off, ha, hc⟩ := H
  go_enter Tryd.func24, Tryd.ntmps24
  go_wp2
  go_loop [3, 9] (fun p i => ∃ (k : Nat) (q : Int), k ≤ l.length ∧ i = .int .i64 k ∧ p = .int .i64 q ∧ 0 ≤ q ∧ q ≤ 65536 ∧ mayB l = mayFrom q (l.drop k)) (fun _ i => l.length - (intOf i).toNat)
  case atStart => exact ⟨0, 0, Nat.zero_le _, rfl, rfl, by omega, by omega, rfl⟩
  case round =>
    obtain ⟨k, q, hk, rfl, rfl, hq1, hq2, hm⟩ := hrel
    by_cases hlt : k < l.length
    · obtain ⟨rfl, hb⟩ := ha (by intro h; simp [h] at hlt)
      have hx := hc k hlt
      have hx1 := (h64.at k hlt).1
      have hx2 := (h64.at k hlt).2
      have hd := mayFrom_drop q l k hlt
      obtain ⟨x, hX⟩ : ∃ x, x = l.getD k 0 := ⟨_, rfl⟩
      rw [← hX] at hx hx1 hx2 hd
      have hv1 := (varOf_bd x).1
      have hv2 := (varOf_bd x).2
      rw [hd] at hm
      have HM := Lib.hid hm
      clear hm hd hX hc ha
      by_cases hle : varOf x ≤ q
      · go_wp2_with (go_at_call 22; refine (var_any _ _ (by omega) (by omega)).mono ?_; rintro e w' ⟨rfl, rfl⟩)
        go_ret
        exact ⟨ret_bool (by rw [HM.out]; simp; omega), rfl⟩
      · go_wp2_with (go_at_call 22; refine (var_any _ _ (by omega) (by omega)).mono ?_; rintro e w' ⟨rfl, rfl⟩)
        go_round
        case rel => exact ⟨k + 1, varOf x, by omega, by go_num, rfl, by omega, by omega, by rw [HM.out]; simp; omega⟩
        case measure => simp [intOf]; omega
    · have HM := Lib.hid hm
      clear hm
      go_wp2
      go_ret
      exact ⟨ret_bool (by rw [HM.out, List.drop_eq_nil_of_le (by omega)]; rfl), rfl⟩

theorem mayFrom_lit {p x : Int} {r : List Int} (hp : 0 ≤ p) (h : litB x = false) : mayFrom p (x :: r) = false := by
  rw [litB_var] at h
  have h0 : varOf x = 0 := by simpa using h
  simp [mayFrom, h0]; omega

set_option maxHeartbeats 400000 in
theorem rmay_any (a : Option Addr) (cap : Nat) (l : List Int) (w : World) (hl : l.length ≤ 9223372036854775807) (h64 : In64 l) (H : IntsAt w a l) :
    Calls Tryd.prog 25 #[.slice a l.length cap] w fun e w' => e = .returned (.bool (mayB l)) ∧ Quiet w w' := by
  obtain ⟨b, off, ha, hc⟩ := H
  go_enter Tryd.func25, Tryd.ntmps25
  go_wp2
  go_loopw [3] (fun i wr => ∃ (k : Nat), k ≤ l.length ∧ i = .int .i64 k ∧ Quiet w wr ∧ mayB l = mayFrom (if k = 0 then 0 else varOf (l.getD (k - 1) 0)) (l.drop k)) (fun i _ => l.length - (intOf i).toNat)
  case atStart => exact ⟨0, Nat.zero_le _, rfl, Quiet.refl _, rfl⟩
  case round =>
    obtain ⟨k, hk, rfl, hq, hm⟩ := hrel
    by_cases hlt : k < l.length
    · obtain ⟨rfl, hb⟩ := ha (by intro h; simp [h] at hlt)
      have hx := (hq.cell _).trans (hc k hlt)
      have hx1 := (h64.at k hlt).1
      have hx2 := (h64.at k hlt).2
      rw [mayFrom_drop _ l k hlt] at hm
      have hnx : varOf (l.getD (k + 1 - 1) 0) = varOf (l.getD k 0) := rfl
      cases k with
      | zero =>
        rw [if_pos rfl] at hm
        rw [Nat.add_zero] at hx
        obtain ⟨x, hX⟩ : ∃ x, x = l.getD 0 0 := ⟨_, rfl⟩
        rw [← hX] at hm hx hx1 hx2
        have hv := varOf_bd x
        have HM := Lib.hid hm
        have HX := Lib.hid hX
        clear hX
        clear hm hc ha hnx
        by_cases hlit : litB x = true
        · have hpos : 0 < varOf x := by rw [litB_var] at hlit; simp at hlit; omega
          go_wp2_with fail
          go_quiet ((first | (go_at_call 89; exact quiet_left (rlit_any _ _ (by omega) (by omega))) | (go_at_call 23; exact quiet_left (rvar_any _ _ (by omega) (by omega)))))
          go_wp2
          go_roundw
          case rel => exact ⟨1, by omega, by go_num, hq.drewN _, by rw [HM.out, if_neg (by omega), show (1 - 1 : Nat) = 0 from rfl, ← HX.out]; simp; omega⟩
          case measure => simp [intOf]; omega
        · have hlit' : litB x = false := by simpa using hlit
          have h0 : varOf x = 0 := by rw [litB_var] at hlit'; simpa using hlit'
          have H0 := Lib.hid h0
          clear h0 hlit
          go_wp2_with fail
          go_quiet ((first | (go_at_call 89; exact quiet_left (rlit_any _ _ (by omega) (by omega))) | (go_at_call 23; exact quiet_left (rvar_any _ _ (by omega) (by omega)))))
          go_wp2
          go_ret
          exact ⟨ret_bool (by rw [HM.out, H0.out]; rfl), hq.drewN _⟩
      | succ j =>
        rw [if_neg (by omega)] at hm
        have hy := (hq.cell _).trans (hc j (by omega))
        have hy1 := (h64.at j (by omega)).1
        have hy2 := (h64.at j (by omega)).2
        simp only [Nat.add_sub_cancel] at hm
        generalize l.getD (j + 1) 0 = x at *
        generalize l.getD j 0 = y at *
        have hvx := varOf_bd x
        have hvy := varOf_bd y
        have HM := Lib.hid hm
        have HN := Lib.hid hnx
        clear hm hc ha hnx
        have hj : (0 : Int) < (j : Int) + 1 := by omega
        by_cases hlit : litB x = true
        · by_cases hge : varOf x ≤ varOf y
          · go_wp2_with fail
            go_quiet ((first | (go_at_call 89; exact quiet_left (rlit_any _ _ (by omega) (by omega))) | (go_at_call 23; exact quiet_left (rvar_any _ _ (by omega) (by omega)))))
            go_wp2
            go_ret
            exact ⟨ret_bool (by rw [HM.out]; simp; omega), hq.drewN _⟩
          · go_wp2_with fail
            go_quiet ((first | (go_at_call 89; exact quiet_left (rlit_any _ _ (by omega) (by omega))) | (go_at_call 23; exact quiet_left (rvar_any _ _ (by omega) (by omega)))))
            go_wp2
            go_roundw
            case rel => exact ⟨j + 1 + 1, by omega, by go_num, hq.drewN _, by rw [HM.out, if_neg (by omega), HN.out]; simp; omega⟩
            case measure => simp [intOf]; omega
        · have hlit' : litB x = false := by simpa using hlit
          have h0 : varOf x = 0 := by rw [litB_var] at hlit'; simpa using hlit'
          have H0 := Lib.hid h0
          clear h0 hlit
          go_wp2_with fail
          go_quiet ((first | (go_at_call 89; exact quiet_left (rlit_any _ _ (by omega) (by omega))) | (go_at_call 23; exact quiet_left (rvar_any _ _ (by omega) (by omega)))))
          go_wp2
          go_ret
          exact ⟨ret_bool (by rw [HM.out, H0.out]; simp; omega), hq.drewN _⟩
    · have HM := Lib.hid hm
      clear hm
      go_wp2
      go_ret
      exact ⟨ret_bool (by rw [HM.out, List.drop_eq_nil_of_le (by omega)]; simp [mayFrom]), hq⟩

end Go.Proofs.YtnedpngadfkmiaaDoor
