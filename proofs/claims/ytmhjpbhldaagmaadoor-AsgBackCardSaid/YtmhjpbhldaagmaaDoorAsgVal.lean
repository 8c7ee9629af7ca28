/- asg.Value and the reference's. -/
import Derived.Test.YtmhjpbhldaagmaaDoorWithin
import Derived.Test.YtmhjpbhldaagmaaDoorMgA
import Derived.Test.YtmhjpbhldaagmaaDoorMgG
namespace Go.Proofs.YtmhjpbhldaagmaaDoor
open Go.RowKit Go.Shelf
set_option linter.unusedVariables false

set_option maxHeartbeats 400000 in
theorem valc_any (x t : Int) (w : World) (h1 : -9223372036854775808 ≤ x) (h2 : x ≤ 9223372036854775807) (h3 : -9223372036854775808 ≤ t) (h4 : t ≤ 9223372036854775807) :
    Calls Tryd.prog 77 #[.int .i64 x, .int .i64 t] w fun e w' => e = .returned (.int .i64 (cmpI (varOf x) t)) ∧ w = w' := by
  have hv := varOf_bd x
  have hc := cmpi_any (varOf x) t w (by omega) (by omega) h3 h4
  generalize cmpI (varOf x) t = z at *
  go_enter Tryd.func77, Tryd.ntmps77
  go_wp2_with (first | (go_at_call 46; refine (var_any _ _ (by omega) (by omega)).mono ?_; rintro e w' ⟨rfl, rfl⟩) | (go_at_call 78; refine hc.mono ?_; rintro e w' ⟨rfl, rfl⟩))
  go_ret
  exact ⟨rfl, rfl⟩
theorem valc_enters (args : Array Value) (w : World) : (callFunc 77 args).run Tryd.prog w = .ok (.enter 77 args) w := enters_of Tryd.func77 (by kernel_rfl) rfl args w

set_option maxHeartbeats 800000 in
set_option maxRecDepth 100000 in
theorem bs2_any (v : Value) (l : List Int) (t : Int) (w : World) (H : IsInts w v l) (hm : mayB l = true) (h3 : -9223372036854775808 ≤ t) (h4 : t ≤ 9223372036854775807) :
    Calls Tryd.prog 76 #[v, .int .i64 t, .func (.func 77) #[] #[]] w (BsPost l t w) := by
  obtain ⟨a, cap, rfl, _, _, hl, h64, b, off, ha, hc⟩ := H
  have eg := valc_enters
  have HM := Lib.hid (mayB_mono hm)
  go_enter Tryd.func76, Tryd.ntmps76
  go_wp2
  go_loop [9, 10] (fun si sj => ∃ i j : Nat, i ≤ j ∧ j ≤ l.length ∧ si = .int .i64 i ∧ sj = .int .i64 j ∧ (∀ k, k < i → varOf (l.getD k 0) < t) ∧ (∀ k, j ≤ k → k < l.length → t ≤ varOf (l.getD k 0))) (fun si sj => (intOf sj).toNat - (intOf si).toNat)
  case atStart => exact ⟨0, l.length, Nat.zero_le _, Nat.le_refl _, rfl, rfl, by omega, by omega⟩
  case round =>
    obtain ⟨i, j, hij, hj, rfl, rfl, hlo, hhi⟩ := hrel
    have HLO := Lib.hid hlo
    have HHI := Lib.hid hhi
    clear hlo hhi
    by_cases hlt : i < j
    · obtain ⟨rfl, hb⟩ := ha (by intro h; simp [h] at hj; omega)
      have hy := hc ((i + j) / 2) (by omega)
      have hy1 := (h64.at ((i + j) / 2) (by omega)).1
      have hy2 := (h64.at ((i + j) / 2) (by omega)).2
      have HX : Hid (∃ x, x = l.getD ((i + j) / 2) 0) := ⟨_, rfl⟩
      obtain ⟨x, hX⟩ := HX.out
      rw [← hX] at hy hy1 hy2
      have HXX := Lib.hid hX
      clear hX HX
      have hcl := valc_any x t w hy1 hy2 h3 h4
      have hzb := cmpI_bd (varOf x) t
      by_cases hc1 : varOf x < t
      · have hz : cmpI (varOf x) t < 0 := by unfold cmpI; rw [if_pos hc1]; omega
        have HN : Hid (∀ k, k < (i + j) / 2 + 1 → varOf (l.getD k 0) < t) := by
          intro k hk
          by_cases e : k = (i + j) / 2
          · rw [e, ← HXX.out]; exact hc1
          · have := HM.out k ((i + j) / 2) (by omega) (by omega)
            rw [← HXX.out] at this
            omega
        clear hc1
        generalize cmpI (varOf x) t = z at *
        have HC := Lib.hid hc
        clear hc
        go_wp2_with fail
        refine hcl.mono ?_
        rintro e w' ⟨rfl, rfl⟩
        go_wp2
        go_round
        case rel => exact ⟨(i + j) / 2 + 1, j, by omega, hj, by go_num, rfl, HN.out, HHI.out⟩
        case measure => simp [intOf]; omega
      · have hz : ¬ cmpI (varOf x) t < 0 := by unfold cmpI; rw [if_neg hc1]; split <;> omega
        have HN : Hid (∀ k, (i + j) / 2 ≤ k → k < l.length → t ≤ varOf (l.getD k 0)) := by
          intro k hk hk2
          by_cases e : k = (i + j) / 2
          · rw [e, ← HXX.out]; omega
          · have := HM.out ((i + j) / 2) k (by omega) (by omega)
            rw [← HXX.out] at this
            omega
        clear hc1
        generalize cmpI (varOf x) t = z at *
        have HC := Lib.hid hc
        clear hc
        go_wp2_with fail
        refine hcl.mono ?_
        rintro e w' ⟨rfl, rfl⟩
        go_wp2
        go_round
        case rel => exact ⟨i, (i + j) / 2, by omega, by omega, rfl, by go_num, HLO.out, HN.out⟩
        case measure => simp [intOf]; omega
    · have hej : j = i := by omega
      subst hej
      have HC := Lib.hid hc
      clear hc
      by_cases hin : j < l.length
      · obtain ⟨rfl, hb⟩ := ha (by intro h; simp [h] at hin)
        have hy := HC.out j hin
        have hy1 := (h64.at j hin).1
        have hy2 := (h64.at j hin).2
        have HX : Hid (∃ x, x = l.getD j 0) := ⟨_, rfl⟩
        obtain ⟨x, hX⟩ := HX.out
        rw [← hX] at hy hy1 hy2
        have HXX := Lib.hid hX
        clear hX HX
        have hcl := valc_any x t w hy1 hy2 h3 h4
        have hge : t ≤ varOf x := by rw [HXX.out]; exact HHI.out j (Nat.le_refl _) hin
        by_cases he : varOf x = t
        · have hz : cmpI (varOf x) t = 0 := by unfold cmpI; rw [if_neg (by omega), if_neg (by omega)]
          rw [hz] at hcl
          have HE : Hid (varOf (l.getD j 0) = t) := by show _ = _; rw [← HXX.out]; exact he
          clear he hz
          go_wp2_with fail
          refine hcl.mono ?_
          rintro e w' ⟨rfl, rfl⟩
          go_wp2
          go_ret2
          exact ⟨j, true, rfl, rfl, fun _ => ⟨hin, HE.out⟩, (fun h => by cases h)⟩
        · have hz : cmpI (varOf x) t = 1 := by unfold cmpI; rw [if_neg (by omega), if_pos (by omega)]
          rw [hz] at hcl
          have HE : Hid (∀ y ∈ l, varOf y ≠ t) := by
            intro y hy3 e
            obtain ⟨k, hk, ek⟩ := List.getElem_of_mem hy3
            have ek' : l.getD k 0 = y := by simp [List.getD, hk, ek]
            rcases Nat.lt_trichotomy k j with h | h | h
            · have := HLO.out k h; rw [ek', e] at this; omega
            · subst h; rw [ek'] at HXX; exact he (by rw [HXX.out]; exact e)
            · have := HM.out j k h hk; rw [ek', e, ← HXX.out] at this; omega
          clear he hz
          go_wp2_with fail
          refine hcl.mono ?_
          rintro e w' ⟨rfl, rfl⟩
          go_wp2
          go_ret2
          exact ⟨j, false, rfl, rfl, (fun h => by cases h), fun _ => HE.out⟩
      · have HE : Hid (∀ y ∈ l, varOf y ≠ t) := by
          intro y hy3 e
          obtain ⟨k, hk, ek⟩ := List.getElem_of_mem hy3
          have ek' : l.getD k 0 = y := by simp [List.getD, hk, ek]
          have := HLO.out k (by omega)
          rw [ek', e] at this; omega
        go_wp2
        go_ret2
        exact ⟨j, false, rfl, rfl, (fun h => by cases h), fun _ => HE.out⟩


/-- The value of a literal under a normal list: 0 unknown, 1 true, 2 false. -/
def valN (a : List Int) (x : Int) : Int := if x ∈ a then 1 else if -x ∈ a then 2 else 0
def valL (a : List Int) (x : Int) : Int := if mayB a = true ∧ varOf x ≠ 0 then valN a x else 0
theorem valN_bd (a : List Int) (x : Int) : 0 ≤ valN a x ∧ valN a x ≤ 2 := by unfold valN; split <;> (try split) <;> omega

theorem valN_at {a : List Int} {x : Int} {i : Nat} (hm : mayB a = true) (hx : litB x = true) (hi : i < a.length) (hv : varOf (a.getD i 0) = varOf x) : valN a x = if a.getD i 0 = x then 1 else 2 := by
  have hmem := getD_mem hi
  have hlx := hx
  rw [litB_var] at hlx
  have hpos : 0 < varOf x := by have := varOf_bd x; simp at hlx; omega
  unfold valN
  by_cases e : a.getD i 0 = x
  · rw [if_pos e, if_pos (by rw [← e]; exact hmem)]
  · rw [if_neg e]
    rcases varOf_eq hv.symm hpos with h | h
    · exact absurd h e
    · have hn : x ∉ a := fun hxa => e (mayFrom_once hm _ hmem x hxa hv)
      rw [if_neg hn, if_pos (by rw [← h]; exact hmem)]
theorem valN_none {a : List Int} {x : Int} (h : ∀ y ∈ a, varOf y ≠ varOf x) : valN a x = 0 := by
  unfold valN
  rw [if_neg (fun hx => h x hx rfl), if_neg (fun hx => h (-x) hx (varOf_neg' x))]

set_option maxHeartbeats 800000 in
set_option maxRecDepth 100000 in
theorem value_any (v : Value) (a : List Int) (x : Int) (w : World) (H : IsInts w v a) (hm : mayB a = true) (hx : litB x = true) :
    Calls Tryd.prog 43 #[v, .int .i64 x] w fun e w' => e = .returned (.int .u8 (valN a x)) ∧ w = w' := by
  obtain ⟨h0, h1, h2⟩ := litB_bd hx
  have hv := varOf_bd x
  have hc := bs2_any v a (varOf x) w H hm (by omega) (by omega)
  have hA := fun i hi hv => valN_at (a := a) (x := x) (i := i) hm hx hi hv
  have hN := valN_none (a := a) (x := x)
  have HA := Lib.hid hA
  have HN := Lib.hid hN
  have H0 := H
  obtain ⟨ad, cap, rfl, _, _, hl, h64, b, off, ha, hcell⟩ := H
  have HC := Lib.hid hc
  clear hc hA hN
  go_enter Tryd.func43, Tryd.ntmps43
  go_wp2_with fail
  refine (var_any x _ (by omega) (by omega)).mono ?_
  rintro e w' ⟨rfl, rfl⟩
  go_wp2_with fail
  refine HC.out.mono ?_
  rintro e w' ⟨i, f, rfl, rfl, hf1, hf2⟩
  cases f with
  | false =>
    have HR := Lib.hid (HN.out (hf2 rfl))
    clear hf1 hf2 hcell ha
    go_wp2
    go_ret
    exact ⟨ret_int HR.out.symm, rfl⟩
  | true =>
    obtain ⟨hi, hiv⟩ := hf1 rfl
    have HR := Lib.hid (HA.out i hi hiv)
    obtain ⟨rfl, _⟩ := ha (by intro h; simp [h] at hi)
    have hy := hcell i hi
    clear hf1 hf2 hcell ha hiv
    generalize a.getD i 0 = y at *
    by_cases he : y = x
    · have hb : (y == x) = true := by simpa using he
      have HE := Lib.hid he
      clear he
      go_wp2
      go_ret
      exact ⟨ret_int (by rw [HR.out, if_pos HE.out]), rfl⟩
    · have hb : (y == x) = false := by simpa using he
      have HE := Lib.hid he
      clear he
      go_wp2
      go_ret
      exact ⟨ret_int (by rw [HR.out, if_neg HE.out]), rfl⟩

set_option maxHeartbeats 800000 in
set_option maxRecDepth 100000 in
theorem avalue_any (v : Value) (a : List Int) (x : Int) (w : World) (H : IsInts w v a) (hx1 : -9223372036854775808 ≤ x) (hx2 : x ≤ 9223372036854775807) :
    Calls Tryd.prog 30 #[v, .int .i64 x] w fun e w' => e = .returned (.int .u8 (valL a x)) ∧ w = w' := by
  by_cases hm : mayB a = true
  · by_cases hx : litB x = true
    · have hl := hx
      rw [litB_var] at hl
      have hne : (varOf x == 0) = false := by rw [beq_eq_false_iff_ne]; simpa using hl
      have HR : Hid (valL a x = valN a x) := by show _ = _; unfold valL; rw [if_pos ⟨hm, by simpa using hl⟩]
      go_enter Tryd.func30, Tryd.ntmps30
      go_wp2_with (first
        | (go_at_call 32; refine (may_v _ a _ H).mono ?_; rintro e w' ⟨rfl, rfl⟩)
        | (go_at_call 46; refine (var_any x _ hx1 hx2).mono ?_; rintro e w' ⟨rfl, rfl⟩)
        | (go_at_call 43; refine (value_any _ a x _ H hm hx).mono ?_; rintro e w' ⟨rfl, rfl⟩))
      go_ret
      exact ⟨ret_int HR.out.symm, rfl⟩
    · have hl : litB x = false := by simpa using hx
      rw [litB_var] at hl
      have hv0 : varOf x = 0 := by simpa using hl
      have hne : (varOf x == 0) = true := by simpa using hv0
      have HR : Hid (valL a x = 0) := by show _ = _; unfold valL; rw [if_neg (fun h => h.2 hv0)]
      clear hv0 hl
      go_enter Tryd.func30, Tryd.ntmps30
      go_wp2_with (first
        | (go_at_call 32; refine (may_v _ a _ H).mono ?_; rintro e w' ⟨rfl, rfl⟩)
        | (go_at_call 46; refine (var_any x _ hx1 hx2).mono ?_; rintro e w' ⟨rfl, rfl⟩))
      go_ret
      exact ⟨ret_int HR.out.symm, rfl⟩
  · have hm' : mayB a = false := by simpa using hm
    have HR : Hid (valL a x = 0) := by show _ = _; unfold valL; rw [if_neg (fun h => hm h.1)]
    clear hm
    go_enter Tryd.func30, Tryd.ntmps30
    go_wp2_with (go_at_call 32; refine (may_v _ a _ H).mono ?_; rintro e w' ⟨rfl, rfl⟩)
    go_ret
    exact ⟨ret_int HR.out.symm, rfl⟩

end Go.Proofs.YtmhjpbhldaagmaaDoor
