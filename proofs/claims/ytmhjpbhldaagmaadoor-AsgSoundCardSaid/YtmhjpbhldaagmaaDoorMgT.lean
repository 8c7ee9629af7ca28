/- Joined texts: AsgVal, AsgMany, AsgPts, AsgNum. -/
import Derived.Test.YtmhjpbhldaagmaaDoorWithin
import Derived.Test.YtmhjpbhldaagmaaDoorMgA
import Derived.Test.YtmhjpbhldaagmaaDoorMgG
import Derived.Laws.BitsLemmas
import Derived.Test.YtmhjpbhldaagmaaDoorMgB
import Derived.Lib.EndianBits
/- asg.Value and the reference's. -/
namespace Go.Proofs.YtmhjpbhldaagmaaDoor
open Go.RowKit Go.Shelf
set_option linter.unusedVariables false

set_option maxHeartbeats 400000 in
theorem valc_any (x t : Int) (w : World) (h1 : -9223372036854775808 ≤ x) (h2 : x ≤ 9223372036854775807) (h3 : -9223372036854775808 ≤ t) (h4 : t ≤ 9223372036854775807) :
    Calls Tryd.prog 77 #[.int .i64 x, .int .i64 t] w fun e w' => e = .returned (.int .i64 (cmpI (varOf x) t)) ∧ w = w' := by
  have hv := varOf_bd x
  have hc := cmpi_any (varOf x) t w (by omega) (by omega) h3 h4
  generalize cmpI (varOf x) t = z at *
  go_enter Tryd.func77, Tryd.ntmps77
  go_wp2_with (first | (go_at_call 46; refine (var_any _ _ (by omega) (by omega)).mono ?_; rintro e w' ⟨rfl, rfl⟩) | (go_at_call 78; refine hc.mono ?_; rintro e w' ⟨rfl, rfl⟩))
  go_ret
  exact ⟨rfl, rfl⟩
theorem valc_enters (args : Array Value) (w : World) : (callFunc 77 args).run Tryd.prog w = .ok (.enter 77 args) w := enters_of Tryd.func77 (by kernel_rfl) rfl args w

set_option maxHeartbeats 800000 in
set_option maxRecDepth 100000 in
theorem bs2_any (v : Value) (l : List Int) (t : Int) (w : World) (H : IsInts w v l) (hm : mayB l = true) (h3 : -9223372036854775808 ≤ t) (h4 : t ≤ 9223372036854775807) :
    Calls Tryd.prog 76 #[v, .int .i64 t, .func (.func 77) #[] #[]] w (BsPost l t w) := by
  obtain ⟨a, cap, rfl, _, _, hl, h64, b, off, ha, hc⟩ := H
  have eg := valc_enters
  have HM := Lib.hid (mayB_mono hm)
  go_enter Tryd.func76, Tryd.ntmps76
  go_wp2
  go_loop [9, 10] (fun si sj => ∃ i j : Nat, i ≤ j ∧ j ≤ l.length ∧ si = .int .i64 i ∧ sj = .int .i64 j ∧ (∀ k, k < i → varOf (l.getD k 0) < t) ∧ (∀ k, j ≤ k → k < l.length → t ≤ varOf (l.getD k 0))) (fun si sj => (intOf sj).toNat - (intOf si).toNat)
  case atStart => exact ⟨0, l.length, Nat.zero_le _, Nat.le_refl _, rfl, rfl, by omega, by omega⟩
  case round =>
    obtain ⟨i, j, hij, hj, rfl, rfl, hlo, hhi⟩ := hrel
    have HLO := Lib.hid hlo
    have HHI := Lib.hid hhi
    clear hlo hhi
    by_cases hlt : i < j
    · obtain ⟨rfl, hb⟩ := ha (by intro h; simp [h] at hj; omega)
      have hy := hc ((i + j) / 2) (by omega)
      have hy1 := (h64.at ((i + j) / 2) (by omega)).1
      have hy2 := (h64.at ((i + j) / 2) (by omega)).2
      have HX : Hid (∃ x, x = l.getD ((i + j) / 2) 0) := ⟨_, rfl⟩
      obtain ⟨x, hX⟩ := HX.out
      rw [← hX] at hy hy1 hy2
      have HXX := Lib.hid hX
      clear hX HX
      have hcl := valc_any x t w hy1 hy2 h3 h4
      have hzb := cmpI_bd (varOf x) t
      by_cases hc1 : varOf x < t
      · have hz : cmpI (varOf x) t < 0 := by unfold cmpI; rw [if_pos hc1]; omega
        have HN : Hid (∀ k, k < (i + j) / 2 + 1 → varOf (l.getD k 0) < t) := by
          intro k hk
          by_cases e : k = (i + j) / 2
          · rw [e, ← HXX.out]; exact hc1
          · have := HM.out k ((i + j) / 2) (by omega) (by omega)
            rw [← HXX.out] at this
            omega
        clear hc1
        generalize cmpI (varOf x) t = z at *
        have HC := Lib.hid hc
        clear hc
        go_wp2_with fail
        refine hcl.mono ?_
        rintro e w' ⟨rfl, rfl⟩
        go_wp2
        go_round
        case rel => exact ⟨(i + j) / 2 + 1, j, by omega, hj, by go_num, rfl, HN.out, HHI.out⟩
        case measure => simp [intOf]; omega
      · have hz : ¬ cmpI (varOf x) t < 0 := by unfold cmpI; rw [if_neg hc1]; split <;> omega
        have HN : Hid (∀ k, (i + j) / 2 ≤ k → k < l.length → t ≤ varOf (l.getD k 0)) := by
          intro k hk hk2
          by_cases e : k = (i + j) / 2
          · rw [e, ← HXX.out]; omega
          · have := HM.out ((i + j) / 2) k (by omega) (by omega)
            rw [← HXX.out] at this
            omega
        clear hc1
        generalize cmpI (varOf x) t = z at *
        have HC := Lib.hid hc
        clear hc
        go_wp2_with fail
        refine hcl.mono ?_
        rintro e w' ⟨rfl, rfl⟩
        go_wp2
        go_round
        case rel => exact ⟨i, (i + j) / 2, by omega, by omega, rfl, by go_num, HLO.out, HN.out⟩
        case measure => simp [intOf]; omega
    · have hej : j = i := by omega
      subst hej
      have HC := Lib.hid hc
      clear hc
      by_cases hin : j < l.length
      · obtain ⟨rfl, hb⟩ := ha (by intro h; simp [h] at hin)
        have hy := HC.out j hin
        have hy1 := (h64.at j hin).1
        have hy2 := (h64.at j hin).2
        have HX : Hid (∃ x, x = l.getD j 0) := ⟨_, rfl⟩
        obtain ⟨x, hX⟩ := HX.out
        rw [← hX] at hy hy1 hy2
        have HXX := Lib.hid hX
        clear hX HX
        have hcl := valc_any x t w hy1 hy2 h3 h4
        have hge : t ≤ varOf x := by rw [HXX.out]; exact HHI.out j (Nat.le_refl _) hin
        by_cases he : varOf x = t
        · have hz : cmpI (varOf x) t = 0 := by unfold cmpI; rw [if_neg (by omega), if_neg (by omega)]
          rw [hz] at hcl
          have HE : Hid (varOf (l.getD j 0) = t) := by show _ = _; rw [← HXX.out]; exact he
          clear he hz
          go_wp2_with fail
          refine hcl.mono ?_
          rintro e w' ⟨rfl, rfl⟩
          go_wp2
          go_ret2
          exact ⟨j, true, rfl, rfl, fun _ => ⟨hin, HE.out⟩, (fun h => by cases h)⟩
        · have hz : cmpI (varOf x) t = 1 := by unfold cmpI; rw [if_neg (by omega), if_pos (by omega)]
          rw [hz] at hcl
          have HE : Hid (∀ y ∈ l, varOf y ≠ t) := by
            intro y hy3 e
            obtain ⟨k, hk, ek⟩ := List.getElem_of_mem hy3
            have ek' : l.getD k 0 = y := by simp [List.getD, hk, ek]
            rcases Nat.lt_trichotomy k j with h | h | h
            · have := HLO.out k h; rw [ek', e] at this; omega
            · subst h; rw [ek'] at HXX; exact he (by rw [HXX.out]; exact e)
            · have := HM.out j k h hk; rw [ek', e, ← HXX.out] at this; omega
          clear he hz
          go_wp2_with fail
          refine hcl.mono ?_
          rintro e w' ⟨rfl, rfl⟩
          go_wp2
          go_ret2
          exact ⟨j, false, rfl, rfl, (fun h => by cases h), fun _ => HE.out⟩
      · have HE : Hid (∀ y ∈ l, varOf y ≠ t) := by
          intro y hy3 e
          obtain ⟨k, hk, ek⟩ := List.getElem_of_mem hy3
          have ek' : l.getD k 0 = y := by simp [List.getD, hk, ek]
          have := HLO.out k (by omega)
          rw [ek', e] at this; omega
        go_wp2
        go_ret2
        exact ⟨j, false, rfl, rfl, (fun h => by cases h), fun _ => HE.out⟩


/-- The value of a literal under a normal list: 0 unknown, 1 true, 2 false. -/
def valN (a : List Int) (x : Int) : Int := if x ∈ a then 1 else if -x ∈ a then 2 else 0
def valL (a : List Int) (x : Int) : Int := if mayB a = true ∧ varOf x ≠ 0 then valN a x else 0
theorem valN_bd (a : List Int) (x : Int) : 0 ≤ valN a x ∧ valN a x ≤ 2 := by unfold valN; split <;> (try split) <;> omega

theorem valN_at {a : List Int} {x : Int} {i : Nat} (hm : mayB a = true) (hx : litB x = true) (hi : i < a.length) (hv : varOf (a.getD i 0) = varOf x) : valN a x = if a.getD i 0 = x then 1 else 2 := by
  have hmem := getD_mem hi
  have hlx := hx
  rw [litB_var] at hlx
  have hpos : 0 < varOf x := by have := varOf_bd x; simp at hlx; omega
  unfold valN
  by_cases e : a.getD i 0 = x
  · rw [if_pos e, if_pos (by rw [← e]; exact hmem)]
  · rw [if_neg e]
    rcases varOf_eq hv.symm hpos with h | h
    · exact absurd h e
    · have hn : x ∉ a := fun hxa => e (mayFrom_once hm _ hmem x hxa hv)
      rw [if_neg hn, if_pos (by rw [← h]; exact hmem)]
theorem valN_none {a : List Int} {x : Int} (h : ∀ y ∈ a, varOf y ≠ varOf x) : valN a x = 0 := by
  unfold valN
  rw [if_neg (fun hx => h x hx rfl), if_neg (fun hx => h (-x) hx (varOf_neg' x))]

set_option maxHeartbeats 800000 in
set_option maxRecDepth 100000 in
theorem value_any (v : Value) (a : List Int) (x : Int) (w : World) (H : IsInts w v a) (hm : mayB a = true) (hx : litB x = true) :
    Calls Tryd.prog 43 #[v, .int .i64 x] w fun e w' => e = .returned (.int .u8 (valN a x)) ∧ w = w' := by
  obtain ⟨h0, h1, h2⟩ := litB_bd hx
  have hv := varOf_bd x
  have hc := bs2_any v a (varOf x) w H hm (by omega) (by omega)
  have hA := fun i hi hv => valN_at (a := a) (x := x) (i := i) hm hx hi hv
  have hN := valN_none (a := a) (x := x)
  have HA := Lib.hid hA
  have HN := Lib.hid hN
  have H0 := H
  obtain ⟨ad, cap, rfl, _, _, hl, h64, b, off, ha, hcell⟩ := H
  have HC := Lib.hid hc
  clear hc hA hN
  go_enter Tryd.func43, Tryd.ntmps43
  go_wp2_with fail
  refine (var_any x _ (by omega) (by omega)).mono ?_
  rintro e w' ⟨rfl, rfl⟩
  go_wp2_with fail
  refine HC.out.mono ?_
  rintro e w' ⟨i, f, rfl, rfl, hf1, hf2⟩
  cases f with
  | false =>
    have HR := Lib.hid (HN.out (hf2 rfl))
    clear hf1 hf2 hcell ha
    go_wp2
    go_ret
    exact ⟨ret_int HR.out.symm, rfl⟩
  | true =>
    obtain ⟨hi, hiv⟩ := hf1 rfl
    have HR := Lib.hid (HA.out i hi hiv)
    obtain ⟨rfl, _⟩ := ha (by intro h; simp [h] at hi)
    have hy := hcell i hi
    clear hf1 hf2 hcell ha hiv
    generalize a.getD i 0 = y at *
    by_cases he : y = x
    · have hb : (y == x) = true := by simpa using he
      have HE := Lib.hid he
      clear he
      go_wp2
      go_ret
      exact ⟨ret_int (by rw [HR.out, if_pos HE.out]), rfl⟩
    · have hb : (y == x) = false := by simpa using he
      have HE := Lib.hid he
      clear he
      go_wp2
      go_ret
      exact ⟨ret_int (by rw [HR.out, if_neg HE.out]), rfl⟩

set_option maxHeartbeats 800000 in
set_option maxRecDepth 100000 in
theorem avalue_any (v : Value) (a : List Int) (x : Int) (w : World) (H : IsInts w v a) (hx1 : -9223372036854775808 ≤ x) (hx2 : x ≤ 9223372036854775807) :
    Calls Tryd.prog 30 #[v, .int .i64 x] w fun e w' => e = .returned (.int .u8 (valL a x)) ∧ w = w' := by
  by_cases hm : mayB a = true
  · by_cases hx : litB x = true
    · have hl := hx
      rw [litB_var] at hl
      have hne : (varOf x == 0) = false := by rw [beq_eq_false_iff_ne]; simpa using hl
      have HR : Hid (valL a x = valN a x) := by show _ = _; unfold valL; rw [if_pos ⟨hm, by simpa using hl⟩]
      go_enter Tryd.func30, Tryd.ntmps30
      go_wp2_with (first
        | (go_at_call 32; refine (may_v _ a _ H).mono ?_; rintro e w' ⟨rfl, rfl⟩)
        | (go_at_call 46; refine (var_any x _ hx1 hx2).mono ?_; rintro e w' ⟨rfl, rfl⟩)
        | (go_at_call 43; refine (value_any _ a x _ H hm hx).mono ?_; rintro e w' ⟨rfl, rfl⟩))
      go_ret
      exact ⟨ret_int HR.out.symm, rfl⟩
    · have hl : litB x = false := by simpa using hx
      rw [litB_var] at hl
      have hv0 : varOf x = 0 := by simpa using hl
      have hne : (varOf x == 0) = true := by simpa using hv0
      have HR : Hid (valL a x = 0) := by show _ = _; unfold valL; rw [if_neg (fun h => h.2 hv0)]
      clear hv0 hl
      go_enter Tryd.func30, Tryd.ntmps30
      go_wp2_with (first
        | (go_at_call 32; refine (may_v _ a _ H).mono ?_; rintro e w' ⟨rfl, rfl⟩)
        | (go_at_call 46; refine (var_any x _ hx1 hx2).mono ?_; rintro e w' ⟨rfl, rfl⟩))
      go_ret
      exact ⟨ret_int HR.out.symm, rfl⟩
  · have hm' : mayB a = false := by simpa using hm
    have HR : Hid (valL a x = 0) := by show _ = _; unfold valL; rw [if_neg (fun h => hm h.1)]
    clear hm
    go_enter Tryd.func30, Tryd.ntmps30
    go_wp2_with (go_at_call 32; refine (may_v _ a _ H).mono ?_; rintro e w' ⟨rfl, rfl⟩)
    go_ret
    exact ⟨ret_int HR.out.symm, rfl⟩

end Go.Proofs.YtmhjpbhldaagmaaDoor

/- Which variables a number has bits for. -/
namespace Go.Proofs.YtmhjpbhldaagmaaDoor
open Go.RowKit
set_option linter.unusedVariables false

/-- Positive, strictly ascending, at most 64. -/
def manyB (vs : List Int) : Bool := decide (vs.length ≤ 64 ∧ mayB vs = true ∧ ∀ x ∈ vs, 0 ≤ x)

set_option maxHeartbeats 400000 in
theorem negc_any (x : Int) (w : World) : Calls Tryd.prog 80 #[.int .i64 x] w fun e w' => e = .returned (.bool (decide (x < 0))) ∧ w = w' := by
  by_cases h : x < 0
  · have hd : decide (x < 0) = true := decide_eq_true h
    rw [hd]
    clear hd
    go_enter Tryd.func80, Tryd.ntmps80
    go_wp2
    go_ret
    exact ⟨rfl, rfl⟩
  · have hd : decide (x < 0) = false := decide_eq_false h
    rw [hd]
    clear hd
    go_enter Tryd.func80, Tryd.ntmps80
    go_wp2
    go_ret
    exact ⟨rfl, rfl⟩
theorem negc_enters (args : Array Value) (w : World) : (callFunc 80 args).run Tryd.prog w = .ok (.enter 80 args) w := enters_of Tryd.func80 (by kernel_rfl) rfl args w

def IdxN (l : List Int) (w : World) (e : Ending) (w' : World) : Prop := ∃ r : Int, e = .returned (.int .i64 r) ∧ w = w' ∧ (0 ≤ r ↔ ∃ x ∈ l, x < 0)

set_option maxHeartbeats 800000 in
set_option maxRecDepth 100000 in
theorem indexneg_any (v : Value) (l : List Int) (w : World) (H : IsInts w v l) :
    Calls Tryd.prog 111 #[v, .func (.func 80) #[] #[]] w (IdxN l w) := by
  obtain ⟨a, cap, rfl, _, _, hl, h64, b, off, ha, hc⟩ := H
  have eg := negc_enters
  go_enter Tryd.func111, Tryd.ntmps111
  go_wp2
  go_loop [8] (fun i => ∃ k : Nat, k ≤ l.length ∧ i = .int .i64 k ∧ ∀ x ∈ l.take k, 0 ≤ x) (fun i => l.length - (intOf i).toNat)
  case atStart => exact ⟨0, Nat.zero_le _, rfl, by simp⟩
  case round =>
    obtain ⟨k, hk, rfl, hn⟩ := hrel
    have HN := Lib.hid hn
    clear hn
    by_cases hlt : k < l.length
    · obtain ⟨rfl, hb⟩ := ha (by intro h; simp [h] at hlt)
      have hy := hc k hlt
      have HM := Lib.hid (getD_mem hlt)
      have HT := Lib.hid (forall_take_succ (p := fun x => 0 ≤ x) hlt HN.out)
      clear hc ha
      generalize l.getD k 0 = y at *
      have hcall := negc_any y
      by_cases hy0 : y < 0
      · have hd : decide (y < 0) = true := by simpa using hy0
        rw [hd] at hcall
        have HC := Lib.hid hcall
        have HP : Hid (∃ x ∈ l, x < 0) := Lib.hid ⟨y, HM.out, hy0⟩
        clear hcall hd hy0
        go_wp2_with fail
        refine (HC.out _).mono ?_
        rintro e w' ⟨rfl, rfl⟩
        go_wp2
        go_ret
        exact ⟨k, rfl, rfl, fun _ => HP.out, fun _ => by omega⟩
      · have hd : decide (y < 0) = false := by simpa using hy0
        rw [hd] at hcall
        have HC := Lib.hid hcall
        have HP := Lib.hid (HT.out (by omega))
        clear hcall hd hy0
        go_wp2_with fail
        refine (HC.out _).mono ?_
        rintro e w' ⟨rfl, rfl⟩
        go_wp2
        go_round
        case rel => exact ⟨k + 1, by omega, by go_num, HP.out⟩
        case measure => simp [intOf]; omega
    · have HP : Hid (¬ ∃ x ∈ l, x < 0) := by
        intro ⟨x, hx, h⟩
        have := HN.out x (by rw [List.take_of_length_le (by omega)]; exact hx)
        omega
      go_wp2
      go_ret
      exact ⟨-1, rfl, rfl, fun h => by omega, fun h => absurd h HP.out⟩

def anyNeg (l : List Int) : Bool := decide (∃ x ∈ l, x < 0)

set_option maxHeartbeats 800000 in
set_option maxRecDepth 100000 in
theorem containsneg_any (v : Value) (l : List Int) (w : World) (H : IsInts w v l) :
    Calls Tryd.prog 79 #[v, .func (.func 80) #[] #[]] w fun e w' => e = .returned (.bool (anyNeg l)) ∧ w = w' := by
  have hc := indexneg_any v l w H
  have hA : anyNeg l = true ↔ ∃ x ∈ l, x < 0 := by unfold anyNeg; rw [decide_eq_true_eq]
  generalize anyNeg l = c at *
  have HA := Lib.hid hA
  clear hA
  go_enter Tryd.func79, Tryd.ntmps79
  go_wp2_with fail
  refine hc.mono ?_
  rintro e w1 ⟨r, rfl, rfl, hr⟩
  have HR := Lib.hid hr
  clear hr
  go_wp2
  go_ret
  exact ⟨ret_bool (by rw [Bool.eq_iff_iff, decide_eq_true_eq, HA.out]; exact HR.out), rfl⟩

set_option maxHeartbeats 800000 in
set_option maxRecDepth 100000 in
theorem mayvars_any (v : Value) (l : List Int) (w : World) (H : IsInts w v l) :
    Calls Tryd.prog 47 #[v] w fun e w' => e = .returned (.bool (manyB l)) ∧ w = w' := by
  have hA : anyNeg l = true ↔ ∃ x ∈ l, x < 0 := by unfold anyNeg; rw [decide_eq_true_eq]
  have hR : manyB l = (decide (l.length ≤ 64) && mayB l && !anyNeg l) := by
    unfold manyB
    rw [Bool.eq_iff_iff]
    simp only [decide_eq_true_eq, Bool.and_eq_true, Bool.not_eq_true', Bool.eq_false_iff, ne_eq, hA]
    constructor
    · rintro ⟨h1, h2, h3⟩; exact ⟨⟨h1, h2⟩, fun ⟨x, hx, h⟩ => by have := h3 x hx; omega⟩
    · rintro ⟨⟨h1, h2⟩, h3⟩; exact ⟨h1, h2, fun x hx => by rcases Int.lt_or_le x 0 with h | h; exact absurd ⟨x, hx, h⟩ h3; exact h⟩
  have HR := Lib.hid hR
  have c1 := fun w => may_v v l w
  have c2 := containsneg_any v l w H
  have c3 := may_v v l w H
  obtain ⟨a, cap, rfl⟩ := H.shape
  generalize manyB l = mb at *
  generalize mayB l = m1 at *
  generalize anyNeg l = m2 at *
  have C2 := Lib.hid c2
  have C3 := Lib.hid c3
  clear hA hR c1 c2 c3
  by_cases h : l.length ≤ 64
  · cases m1
    · go_enter Tryd.func47, Tryd.ntmps47
      go_wp2_with (go_at_call 32; refine C3.out.mono ?_; rintro e w' ⟨rfl, rfl⟩)
      go_ret
      exact ⟨ret_bool (by rw [HR.out]; simp), rfl⟩
    · cases m2
      · go_enter Tryd.func47, Tryd.ntmps47
        go_wp2_with (first | (go_at_call 32; refine C3.out.mono ?_; rintro e w' ⟨rfl, rfl⟩) | (go_at_call 79; refine C2.out.mono ?_; rintro e w' ⟨rfl, rfl⟩))
        go_ret
        exact ⟨ret_bool (by rw [HR.out]; simp; omega), rfl⟩
      · go_enter Tryd.func47, Tryd.ntmps47
        go_wp2_with (first | (go_at_call 32; refine C3.out.mono ?_; rintro e w' ⟨rfl, rfl⟩) | (go_at_call 79; refine C2.out.mono ?_; rintro e w' ⟨rfl, rfl⟩))
        go_ret
        exact ⟨ret_bool (by rw [HR.out]; simp), rfl⟩
  · go_enter Tryd.func47, Tryd.ntmps47
    go_wp2
    go_ret
    exact ⟨ret_bool (by rw [HR.out]; simp; omega), rfl⟩

end Go.Proofs.YtmhjpbhldaagmaaDoor

/- asg.Point and the reference's. -/
namespace Go.Proofs.YtmhjpbhldaagmaaDoor
open Go.RowKit
set_option linter.unusedVariables false

/-- The assignment number n. -/
def ptAt (vs : List Int) (n i : Nat) : Int := if n / 2 ^ i % 2 = 1 then vs.getD i 0 else -(vs.getD i 0)
def ptL (vs : List Int) (n : Nat) : List Int := (List.range vs.length).map (ptAt vs n)
def pointL (vs : List Int) (n : Nat) : List Int × Int := if manyB vs then (if n / 2 ^ vs.length = 0 then (ptL vs n, 0) else ([], 4)) else ([], 2)
def ptK (vs : List Int) (n k : Nat) : List Int := (List.range k).map (ptAt vs n) ++ List.replicate (vs.length - k) 0

theorem ptK_zero (vs : List Int) (n : Nat) : ptK vs n 0 = List.replicate vs.length 0 := by simp [ptK]
theorem ptK_full (vs : List Int) (n : Nat) : ptK vs n vs.length = ptL vs n := by simp [ptK, ptL]
theorem ptK_len (vs : List Int) (n k : Nat) (h : k ≤ vs.length) : (ptK vs n k).length = vs.length := by simp [ptK]; omega
theorem ptK_set (vs : List Int) (n k : Nat) (h : k < vs.length) : (ptK vs n k).set k (ptAt vs n k) = ptK vs n (k + 1) := by
  unfold ptK
  rw [List.set_append, if_neg (by simp), show k - ((List.range k).map (ptAt vs n)).length = 0 from by simp, show vs.length - k = (vs.length - (k + 1)) + 1 from by omega, List.replicate_succ, List.set_cons_zero, List.range_succ]
  simp
theorem ptK_set2 (vs : List Int) (n k : Nat) (y : Int) (h : k < vs.length) : ((ptK vs n k).set k y).set k (ptAt vs n k) = ptK vs n (k + 1) := by
  rw [List.set_set, ptK_set vs n k h]

theorem wraps64 (n : Int) (h₀ : 0 ≤ n) (h₁ : n < 2 ^ 64) : IntKind.u64.wrap n = n := by rw [IntKind.wrap_u64]; omega
theorem bit_of (n k : Nat) (hn : n < 18446744073709551616) : bits BinOp.and IntKind.u64 ((n : Int) / 2 ^ k) 1 = ((n / 2 ^ k % 2 : Nat) : Int) := by
  have e : (n : Int) / 2 ^ k = ((n / 2 ^ k : Nat) : Int) := by simp
  have hb : n / 2 ^ k < 18446744073709551616 := Nat.lt_of_le_of_lt (Nat.div_le_self _ _) hn
  rw [e]
  generalize n / 2 ^ k = m at *
  have h := bits_mask .u64 64 (by decide) wraps64 1 (by decide) (m : Int) (by omega) (by omega)
  have e1 : ((2 : Int) ^ 1 - 1) = 1 := by decide
  rw [e1] at h
  rw [h]; simp

theorem ptL_len (vs : List Int) (n : Nat) : (ptL vs n).length = vs.length := by simp [ptL]
theorem ptL_64 (vs : List Int) (n : Nat) (h : mayB vs = true) : In64 (ptL vs n) := by
  intro x hx
  unfold ptL at hx
  obtain ⟨i, hi, rfl⟩ := List.mem_map.1 hx
  rw [List.mem_range] at hi
  obtain ⟨_, h1, h2⟩ := litB_bd (mayB_mem h _ (getD_mem hi))
  unfold ptAt
  split <;> omega

set_option maxHeartbeats 800000 in
set_option maxRecDepth 100000 in
theorem point_any (v : Value) (vs : List Int) (n : Nat) (w : World) (H : IsInts w v vs) (hn : n < 18446744073709551616) :
    Calls Tryd.prog 17 #[v, .int .u64 n] w (RetPair w (pointL vs n)) := by
  have H0 := H
  by_cases hm : manyB vs = true
  · have hmb : mayB vs = true := by unfold manyB at hm; rw [decide_eq_true_eq] at hm; exact hm.2.1
    have h64 : vs.length ≤ 64 := by unfold manyB at hm; rw [decide_eq_true_eq] at hm; exact hm.1
    obtain ⟨a, cap, rfl, _, _, hl, hi64, b, off, ha, hc⟩ := H
    by_cases hz : n / 2 ^ vs.length = 0
    · have HF : Hid (pointL vs n = (ptL vs n, 0)) := by show _ = _; unfold pointL; rw [if_pos hm, if_pos hz]
      have hz' : ((n : Int) / 2 ^ vs.length != 0) = false := by
        have : (n : Int) / 2 ^ vs.length = ((n / 2 ^ vs.length : Nat) : Int) := by simp
        rw [this, hz]; rfl
      clear hz
      have HC := Lib.hid hc
      clear hc
      go_enter Tryd.func17, Tryd.ntmps17
      go_wp2_with (first | (go_at_call 47; refine (mayvars_any _ vs _ H0).mono ?_; rintro e w' ⟨rfl, rfl⟩) | (at_make; refine wpList_mkInts rfl _ _ rfl vs.length rfl rfl hl ?_; intro w1 hown1 hg; have hbel := (Below.refl w.heap.size w).grown hg (Nat.le_refl _) (fun k hk => by cases hk)))
      go_loopw [22] (fun i wr => ∃ k : Nat, k ≤ vs.length ∧ i = .int .i64 k ∧ Own wr w.heap.size (.slice (some ⟨w.heap.size, 0, none⟩) vs.length vs.length) (ptK vs n k) ∧ Below w.heap.size w wr) (fun i _ => vs.length - (intOf i).toNat)
      case atStart => exact ⟨0, Nat.zero_le _, rfl, by rw [ptK_zero]; exact hown1, hbel⟩
      case round =>
        obtain ⟨k, hk, rfl, hown, hb⟩ := hrel
        by_cases hlt : k < vs.length
        · obtain ⟨rfl, hbs⟩ := ha (by intro h; simp [h] at hlt)
          have hy := (hb.cell (p := ⟨b, off + k, none⟩) hbs).trans (HC.out k hlt)
          have hy1 := (hi64.at k hlt).1
          have hy2 := (hi64.at k hlt).2
          have hlen := ptK_len vs n k hk
          have hc0 := hown.cell k (by omega)
          have hfz := hown.frozen k
          have hgd := hown.block.1
          have hst := hown.store k (vs.getD k 0)
          have hc1 := hst.cell k (by simp; omega)
          have hfz1 := hst.frozen k
          have hst2 := hst.store k (-(vs.getD k 0))
          have hk64 : k < 64 := by omega
          have hbit := bit_of n k hn
          obtain ⟨_, hy3, hy4⟩ := litB_bd (mayB_mem hmb _ (getD_mem hlt))
          by_cases hp : n / 2 ^ k % 2 = 1
          · have hv : ptAt vs n k = vs.getD k 0 := by unfold ptAt; rw [if_pos hp]
            have hz2 : (bits BinOp.and IntKind.u64 ((n : Int) / 2 ^ k) 1 == 0) = false := by rw [hbit, hp]; rfl
            rw [show (ptK vs n k).set k (vs.getD k 0) = ptK vs n (k + 1) from by rw [← ptK_set vs n k hlt, hv]] at hst
            have HO := Lib.hid hst
            clear hst hst2 hc1 hfz1 hv hbit hp hown
            generalize ptK vs n k = P at *
            generalize vs.getD k 0 = y at *
            go_wp2
            go_roundw
            case rel => exact ⟨k + 1, by omega, by go_num, HO.out, hb.setCell (by simp) _⟩
            case measure => simp [intOf]; omega
          · have hv : ptAt vs n k = -(vs.getD k 0) := by unfold ptAt; rw [if_neg hp]
            have hp0 : n / 2 ^ k % 2 = 0 := by omega
            have hz2 : (bits BinOp.and IntKind.u64 ((n : Int) / 2 ^ k) 1 == 0) = true := by rw [hbit, hp0]; rfl
            rw [show ((ptK vs n k).set k (vs.getD k 0)).set k (-(vs.getD k 0)) = ptK vs n (k + 1) from by rw [← ptK_set2 vs n k _ hlt, hv]] at hst2
            have HO := Lib.hid hst2
            clear hst hst2 hv hbit hp hp0 hown
            generalize ptK vs n k = P at *
            generalize vs.getD k 0 = y at *
            go_wp2
            go_roundw
            case rel => exact ⟨k + 1, by omega, by go_num, HO.out, (hb.setCell (by simp) _).setCell (by simp) _⟩
            case measure => simp [intOf]; omega
        · have hk2 : k = vs.length := by omega
          subst hk2
          rw [ptK_full] at hown
          go_wp2
          go_ret2
          exact ⟨_, ret_pair (by rw [HF.out]), by rw [HF.out]; exact hown.ints (by rw [ptL_len]; exact hl) (ptL_64 vs n hmb), hb⟩
    · have HF : Hid (pointL vs n = ([], 4)) := by show _ = _; unfold pointL; rw [if_pos hm, if_neg hz]
      have hz' : ((n : Int) / 2 ^ vs.length != 0) = true := by
        have : (n : Int) / 2 ^ vs.length = ((n / 2 ^ vs.length : Nat) : Int) := by simp
        rw [this]; simp; intro h; apply hz; exact_mod_cast h
      clear hz hc
      go_enter Tryd.func17, Tryd.ntmps17
      go_wp2_with (go_at_call 47; refine (mayvars_any _ vs _ H0).mono ?_; rintro e w' ⟨rfl, rfl⟩)
      go_ret2
      exact ⟨_, ret_pair (by rw [HF.out]), by rw [HF.out]; exact IsInts.nil _, Below.refl _ _⟩
  · have HF : Hid (pointL vs n = ([], 2)) := by show _ = _; unfold pointL; rw [if_neg hm]
    have hm' : manyB vs = false := by simpa using hm
    clear hm
    obtain ⟨a, cap, rfl⟩ := H.shape
    go_enter Tryd.func17, Tryd.ntmps17
    go_wp2_with (go_at_call 47; refine (mayvars_any _ vs _ H0).mono ?_; rintro e w' ⟨rfl, rfl⟩)
    go_ret2
    exact ⟨_, ret_pair (by rw [HF.out]), by rw [HF.out]; exact IsInts.nil _, Below.refl _ _⟩

end Go.Proofs.YtmhjpbhldaagmaaDoor

/- asg.Number. -/
namespace Go.Proofs.YtmhjpbhldaagmaaDoor
open Go.RowKit
set_option linter.unusedVariables false

def numK (vs a : List Int) : Nat → Nat
  | 0 => 0
  | k + 1 => numK vs a k + if a.getD k 0 = vs.getD k 0 then 2 ^ k else 0
def fits (vs a : List Int) : Bool := decide (a.length = vs.length ∧ ∀ i, i < vs.length → a.getD i 0 = vs.getD i 0 ∨ a.getD i 0 = -(vs.getD i 0))
def numberL (vs a : List Int) : Nat × Int := if manyB vs && mayB a then (if fits vs a then (numK vs a vs.length, 0) else (0, 6)) else (0, 2)
def RetNum (w : World) (r : Nat × Int) (e : Ending) (w' : World) : Prop := e = .returned (.tuple #[.int .u64 r.1, .int .i64 r.2]) ∧ w = w'

theorem numK_lt (vs a : List Int) (k : Nat) : numK vs a k < 2 ^ k := by
  induction k with
  | zero => simp [numK]
  | succ k ih =>
    unfold numK
    rw [Nat.pow_succ]
    split <;> omega
theorem or_of (n k : Nat) (hk : k < 64) (hn : n < 2 ^ k) : bits BinOp.or IntKind.u64 (n : Int) (IntKind.u64.wrap (2 ^ k)) = ((n + 2 ^ k : Nat) : Int) := by
  have hp : 2 ^ k ≤ 2 ^ 63 := Nat.pow_le_pow_right (by decide) (by omega)
  have hpz : ((2 ^ k : Nat) : Int) = (2 : Int) ^ k := by simp
  rw [wraps64 (2 ^ k) (by omega) (by omega), bits_join_low .u64 64 (by decide) wraps64 k (n : Int) (2 ^ k) (by omega) (by omega) (by omega) (by omega) (by simp) (by omega)]
  push_cast
  rfl

set_option maxHeartbeats 800000 in
set_option maxRecDepth 100000 in
theorem number_any (v u : Value) (vs xs : List Int) (w : World) (H : IsInts w v vs) (HA : IsInts w u xs) :
    Calls Tryd.prog 23 #[v, u] w (RetNum w (numberL vs xs)) := by
  have H0 := H
  have HA0 := HA
  by_cases hm : manyB vs = true
  · have hmb : mayB vs = true := by unfold manyB at hm; rw [decide_eq_true_eq] at hm; exact hm.2.1
    have h64 : vs.length ≤ 64 := by unfold manyB at hm; rw [decide_eq_true_eq] at hm; exact hm.1
    by_cases hma : mayB xs = true
    · obtain ⟨a, cap, rfl, _, _, hl, hi64, b, off, ha, hc⟩ := H
      obtain ⟨a2, cap2, rfl, _, _, hl2, hi642, b2, off2, ha2, hc2⟩ := HA
      have HC := Lib.hid hc
      have HC2 := Lib.hid hc2
      clear hc hc2
      by_cases hle : xs.length = vs.length
      · have HA1 : IsInts w (.slice a2 vs.length cap2) xs := by rw [← hle]; exact HA0
        go_enter Tryd.func23, Tryd.ntmps23
        go_wp2_with (first | (go_at_call_of 47 (Value.slice a vs.length cap); refine (mayvars_any _ vs _ H0).mono ?_; rintro e w' ⟨rfl, rfl⟩) | (go_at_call_of 32 (Value.slice a2 vs.length cap2); refine (may_v _ xs _ HA1).mono ?_; rintro e w1 ⟨rfl, rfl⟩))
        go_loop [6, 24] (fun n i => ∃ k : Nat, k ≤ vs.length ∧ n = .int .u64 (numK vs xs k) ∧ i = .int .i64 k ∧ ∀ i, i < k → xs.getD i 0 = vs.getD i 0 ∨ xs.getD i 0 = -(vs.getD i 0)) (fun _ i => vs.length - (intOf i).toNat)
        case atStart => exact ⟨0, Nat.zero_le _, rfl, rfl, fun i h => by omega⟩
        case round =>
          obtain ⟨k, hk, rfl, rfl, hi⟩ := hrel
          by_cases hlt : k < vs.length
          · have hlt2 : k < xs.length := by omega
            obtain ⟨rfl, hbs⟩ := ha (by intro h; simp [h] at hlt)
            obtain ⟨rfl, hbs2⟩ := ha2 (by intro h; simp [h] at hlt2)
            have hy := HC.out k hlt
            have hx := HC2.out k hlt2
            obtain ⟨_, hy3, hy4⟩ := litB_bd (mayB_mem hmb _ (getD_mem hlt))
            obtain ⟨_, hx3, hx4⟩ := litB_bd (mayB_mem hma _ (getD_mem hlt2))
            have hlt64 : k < 64 := by omega
            have hno := numK_lt vs xs k
            have hor := or_of (numK vs xs k) k hlt64 hno
            have HN : Hid (numK vs xs (k + 1) = numK vs xs k + if xs.getD k 0 = vs.getD k 0 then 2 ^ k else 0) := rfl
            have HB : Hid ((xs.getD k 0 = vs.getD k 0 ∨ xs.getD k 0 = -(vs.getD k 0)) → ∀ i, i < k + 1 → xs.getD i 0 = vs.getD i 0 ∨ xs.getD i 0 = -(vs.getD i 0)) := by
              show _ → _
              intro h i hik
              by_cases e : i = k
              · rw [e]; exact h
              · exact hi i (by omega)
            have HD : Hid (¬ (xs.getD k 0 = vs.getD k 0 ∨ xs.getD k 0 = -(vs.getD k 0)) → numberL vs xs = (0, 6)) := by
              show _ → _
              intro h
              unfold numberL
              rw [hm, hma, Bool.and_self, if_pos rfl, if_neg]
              unfold fits
              rw [decide_eq_true_eq]
              intro hf
              exact h (hf.2 k hlt)
            clear hi
            generalize xs.getD k 0 = x at *
            generalize vs.getD k 0 = y at *
            generalize numK vs xs k = m at *
            by_cases h1 : x = y
            · subst h1
              have HM : Hid (numK vs xs (k + 1) = m + 2 ^ k) := by have := HN.out; rw [if_pos rfl] at this; exact this
              clear HN HD hno
              go_wp2
              go_round
              case rel => exact ⟨k + 1, by omega, by rw [HM.out, Int.natCast_add]; simp, by go_num, HB.out (Or.inl rfl)⟩
              case measure => simp [intOf]; omega
            · by_cases h2 : x = -y
              · have HM : Hid (numK vs xs (k + 1) = m) := by have := HN.out; rw [if_neg h1] at this; exact this
                clear HN HD hno hor
                have h1' : (x == y) = false := by simpa using h1
                have h2' : (x == -y) = true := by simpa using h2
                go_wp2
                go_round
                case rel => exact ⟨k + 1, by omega, by rw [HM.out], by go_num, HB.out (Or.inr h2)⟩
                case measure => simp [intOf]; omega
              · have HE : Hid (numberL vs xs = (0, 6)) := HD.out (by rintro (h | h); exact h1 h; exact h2 h)
                clear HN HD HB hno hor
                have h1' : (x == y) = false := by simpa using h1
                have h2' : (x == -y) = false := by simpa using h2
                go_wp2
                go_ret2
                exact ⟨by rw [HE.out]; rfl, rfl⟩
          · have hk2 : k = vs.length := by omega
            subst hk2
            have HE : Hid (numberL vs xs = (numK vs xs vs.length, 0)) := by
              show _ = _
              unfold numberL
              rw [hm, hma, Bool.and_self, if_pos rfl, if_pos]
              unfold fits
              rw [decide_eq_true_eq]
              exact ⟨hle, hi⟩
            clear hi
            go_wp2
            go_ret2
            exact ⟨by rw [HE.out]; rfl, rfl⟩
      · have HE : Hid (numberL vs xs = (0, 6)) := by
          show _ = _
          unfold numberL
          rw [hm, hma, Bool.and_self, if_pos rfl, if_neg]
          unfold fits
          rw [decide_eq_true_eq]
          intro hf
          exact hle hf.1
        go_enter Tryd.func23, Tryd.ntmps23
        go_wp2_with (first | (go_at_call_of 47 (Value.slice a vs.length cap); refine (mayvars_any _ vs _ H0).mono ?_; rintro e w' ⟨rfl, rfl⟩) | (go_at_call_of 32 (Value.slice a2 xs.length cap2); refine (may_v _ xs _ HA0).mono ?_; rintro e w1 ⟨rfl, rfl⟩))
        go_ret2
        exact ⟨by rw [HE.out]; rfl, rfl⟩
    · have HE : Hid (numberL vs xs = (0, 2)) := by
        show _ = _
        unfold numberL
        rw [if_neg]
        simp [hma]
      have hma' : mayB xs = false := by simpa using hma
      clear hma
      obtain ⟨a, cap, rfl⟩ := H.shape
      obtain ⟨a2, cap2, rfl⟩ := HA.shape
      go_enter Tryd.func23, Tryd.ntmps23
      go_wp2_with (first | (go_at_call_of 47 (Value.slice a vs.length cap); refine (mayvars_any _ vs _ H0).mono ?_; rintro e w' ⟨rfl, rfl⟩) | (go_at_call_of 32 (Value.slice a2 xs.length cap2); refine (may_v _ xs _ HA0).mono ?_; rintro e w1 ⟨rfl, rfl⟩))
      go_ret2
      exact ⟨by rw [HE.out]; rfl, rfl⟩
  · have HE : Hid (numberL vs xs = (0, 2)) := by
      show _ = _
      unfold numberL
      rw [if_neg]
      simp [hm]
    have hm' : manyB vs = false := by simpa using hm
    clear hm
    obtain ⟨a, cap, rfl⟩ := H.shape
    obtain ⟨a2, cap2, rfl⟩ := HA.shape
    go_enter Tryd.func23, Tryd.ntmps23
    go_wp2_with (first | (go_at_call_of 47 (Value.slice a vs.length cap); refine (mayvars_any _ vs _ H0).mono ?_; rintro e w' ⟨rfl, rfl⟩) | (go_at_call_of 32 (Value.slice a2 xs.length cap2); refine (may_v _ xs _ HA0).mono ?_; rintro e w1 ⟨rfl, rfl⟩))
    go_ret2
    exact ⟨by rw [HE.out]; rfl, rfl⟩

end Go.Proofs.YtmhjpbhldaagmaaDoor
