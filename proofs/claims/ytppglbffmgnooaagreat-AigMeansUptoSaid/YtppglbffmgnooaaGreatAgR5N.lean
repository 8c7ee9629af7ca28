/- The reference of stage 5: Abs, variable, In, Vars, shape, marks, known, Normal, Prefix, May (texts of stage 5, joined). -/
import Derived.Test.YtppglbffmgnooaaGreatCxRInts
import Derived.Test.YtppglbffmgnooaaGreatCxMk0
import Derived.Test.YtppglbffmgnooaaGreatK01
import Derived.Test.YtppglbffmgnooaaGreatK02
import Derived.Test.YtppglbffmgnooaaGreatK09
import Derived.Test.YtppglbffmgnooaaGreatCxRowG
namespace Go.Proofs.YtppglbffmgnooaaGreat
open Go.RowKit
theorem below_newR (X : World) (o : Obj) : Below X.heap.size X (X.alloc o) := (Below.refl _ _).alloc (Nat.le_refl _) o
theorem block_cellR {W : World} {b i : Nat} {xs : Array Value} {T : TypeId} {v : Value} (hh : W.heap[b]? = some (.cells xs T (0, 0))) (hv : xs[i]? = some v) : W.cell? ⟨b, i, none⟩ = some v := by simp [World.cell?, hh, hv]
theorem heap_hitR {w : World} {o : Obj} {k : Nat} (h : k = w.heap.size) : (w.alloc o).heap[k]? = some o := by subst h; exact World.alloc_heap_new _ _
def sizeR (gs : List Gt) : Nat := (gs.map (fun g => g.2.2.length)).sum
end Go.Proofs.YtppglbffmgnooaaGreat
namespace Go.Proofs.YtppglbffmgnooaaGreat
open Go.RowKit Go.Maps
set_option linter.unusedVariables false
set_option linter.unusedSimpArgs false

/-- The variable of a number: its size; 0 for the least integer. -/
def abs5 (x : Int) : Int := if x < 0 then (if x = -9223372036854775808 then 0 else -x) else x
set_option maxRecDepth 100000 in
theorem abs5_any (x : Int) (w : World) (h1 : -9223372036854775808 ≤ x) (h2 : x ≤ 9223372036854775807) :
    Calls Tryz.prog 121 #[.int .i64 x] w fun e w' => e = .returned (.int .i64 (abs5 x)) ∧ w = w' := by
  by_cases hx : x < 0
  · by_cases hm : x = -9223372036854775808
    · subst hm
      have hw0 : wrap64 9223372036854775808 = -9223372036854775808 := by unfold wrap64; rfl
      have hmx : max (0 : Int) (-9223372036854775808) = 0 := by decide
      go_enter Tryz.func121, Tryz.ntmps121
      go_wp2
      go_ret
      exact ⟨ret_int (by simp [abs5]), rfl⟩
    · have he : abs5 x = -x := by unfold abs5; rw [if_pos hx, if_neg hm]
      have HE := Lib.hid he
      have hwr : wrap64 (-x) = -x := by unfold wrap64; omega
      have hmx : max 0 (-x) = -x := by omega
      clear he hm
      go_enter Tryz.func121, Tryz.ntmps121
      go_wp2
      go_ret
      exact ⟨ret_int (by rw [HE.out]), rfl⟩
  · have he : abs5 x = x := by unfold abs5; rw [if_neg hx]
    have HE := Lib.hid he
    clear he
    go_enter Tryz.func121, Tryz.ntmps121
    go_wp2
    go_ret
    exact ⟨ret_int (by rw [HE.out]), rfl⟩
def varB (x : Int) : Bool := decide (1 ≤ x) && decide (x ≤ 65536)
theorem vari5_any (x : Int) (w : World) : Calls Tryz.prog 120 #[.int .i64 x] w fun e w' => e = .returned (.bool (varB x)) ∧ w = w' := by
  by_cases hx : 1 ≤ x
  · have hd : decide (1 ≤ x) = true := by simpa using hx
    have HR : Hid (varB x = decide (x ≤ 65536)) := by show _ = _; unfold varB; rw [hd]; rfl
    go_enter Tryz.func120, Tryz.ntmps120
    go_wp2
    go_ret
    exact ⟨ret_bool HR.out.symm, rfl⟩
  · have hd : decide (1 ≤ x) = false := by simpa using hx
    have HR : Hid (varB x = false) := by show _ = _; unfold varB; rw [hd]; rfl
    go_enter Tryz.func120, Tryz.ntmps120
    go_wp2
    go_ret
    exact ⟨ret_bool HR.out.symm, rfl⟩
set_option maxHeartbeats 400000 in
theorem in5_any (v : Value) (l : List Int) (x : Int) (w : World) (H : IsInts w v l) (hx1 : -9223372036854775808 ≤ x) (hx2 : x ≤ 9223372036854775807) :
    Calls Tryz.prog 98 #[v, .int .i64 x] w fun e w' => e = .returned (.bool (memB l x)) ∧ w = w' := by
  obtain ⟨a, cap, rfl, _, _, hl, h64, b, off, ha, hc⟩ := H
  go_enter Tryz.func98, Tryz.ntmps98
  go_wp2
  go_loop [5] (fun i => ∃ k : Nat, k ≤ l.length ∧ i = .int .i64 k ∧ x ∉ l.take k) (fun i => l.length - (intOf i).toNat)
  case atStart => exact ⟨0, Nat.zero_le _, rfl, by simp⟩
  case round =>
    obtain ⟨k, hk, rfl, hn⟩ := hrel
    by_cases hlt : k < l.length
    · obtain ⟨rfl, hb⟩ := ha (by intro h; simp [h] at hlt)
      have hy := hc k hlt
      have hmem : l.getD k 0 ∈ l := by simp [List.getD, hlt]
      have htk : l.take (k + 1) = l.take k ++ [l.getD k 0] := by rw [List.take_succ_eq_append_getElem hlt]; simp [List.getD, hlt]
      have HT := Lib.hid htk
      generalize l.getD k 0 = y at *
      clear htk hc ha
      by_cases he : y = x
      · subst he
        have he : (y == y) = true := by simp
        clear HT
        go_wp2
        go_ret
        exact ⟨ret_bool (by unfold memB; simp [hmem]), rfl⟩
      · have he' : (y == x) = false := by simp [he]
        go_wp2
        go_round
        case rel => exact ⟨k + 1, by omega, by go_num, by rw [HT.out]; simp [hn, Ne.symm he]⟩
        case measure => simp [intOf]; omega
    · rw [List.take_of_length_le (by omega)] at hn
      go_wp2
      go_ret
      exact ⟨ret_bool (by unfold memB; simp [hn]), rfl⟩

/-- More gates, or literals, than a law looks at. -/
def manyG (gs : List Gt) : Bool := decide (300 < gs.length) || decide (1500 < sizeR gs)
end Go.Proofs.YtppglbffmgnooaaGreat
namespace Go.Proofs.YtppglbffmgnooaaGreat
open Go.RowKit Go.Maps Go.Shelf
set_option linter.unusedVariables false
set_option linter.unusedSimpArgs false

theorem abs5_vo (x : Int) : varOf x = if 65536 < abs5 x then 0 else abs5 x := by
  unfold varOf abs5
  split <;> split <;> (try split) <;> (try split) <;> omega
theorem abs5_pos {x : Int} (h1 : -9223372036854775808 ≤ x) : 0 ≤ abs5 x := by unfold abs5; split <;> (try split) <;> omega
set_option maxHeartbeats 3200000 in
set_option maxRecDepth 100000 in
theorem rnormal5_any (v : Value) (l : List Int) (w : World) (H : IsInts w v l) :
    Calls Tryz.prog 46 #[v] w fun e w' => e = .returned (.bool (mayB l)) ∧ Quiet w w' := by
  have h64 : In64 l := by obtain ⟨_, _, _, _, _, _, g, _⟩ := H; exact g
  have hll : l.length ≤ 17592186044416 := H.len
  have HU := Lib.hid H
  have H64 := Lib.hid h64
  obtain ⟨a, cap, rfl⟩ := H.shape
  clear H h64
  go_enter Tryz.func46, Tryz.ntmps46
  go_wp2
  go_loopw [3] (fun i wr => ∃ (k : Nat) (m : Int), k ≤ l.length ∧ i = .int .i64 k ∧ Quiet w wr ∧ mayB l = mayFrom m (l.drop k) ∧ (k = 0 → m = 0) ∧ (0 < k → abs5 (l.getD (k - 1) 0) = m)) (fun i _ => l.length - (intOf i).toNat)
  case atStart => exact ⟨0, 0, Nat.zero_le _, rfl, Quiet.refl _, by simp [mayB], fun _ => rfl, fun h => by omega⟩
  case round =>
    obtain ⟨k, m, hk, rfl, hq, hi, hk0, hkp⟩ := hrel
    have HI := Lib.hid hi
    have HK0 := Lib.hid hk0
    have HKP := Lib.hid hkp
    clear hi hk0 hkp
    by_cases hlt : k < l.length
    · obtain ⟨b, off, rfl, hb, hc0⟩ := HU.out.cellY hlt
      have hy := (hq.cell _).trans hc0
      have HPC : Hid (0 < k → wr.cell? ⟨b, off + (k - 1), none⟩ = some (.int .i64 (l.getD (k - 1) 0))) := fun h => by
        obtain ⟨b', off', e, _, hc⟩ := HU.out.cellY (k := k - 1) (by omega)
        injection e with e
        injection e with e1 e2
        subst e1; subst e2
        exact (hq.cell _).trans hc
      have hne : ¬ l = [] := by intro e; rw [e] at hlt; simp at hlt
      have HD := Lib.hid (mayFrom_drop m l k hlt)
      have HAV := Lib.hid (abs5_vo (l.getD k 0))
      have hr := H64.out (l.getD k 0) (by simp [List.getD, hlt])
      have HPX : Hid (0 < k → -9223372036854775808 ≤ l.getD (k - 1) 0 ∧ l.getD (k - 1) 0 ≤ 9223372036854775807) := fun h => H64.out _ (by simp [List.getD, show k - 1 < l.length by omega])
      have HCY := Lib.hid (fun W => abs5_any (l.getD k 0) W hr.1 hr.2)
      have hi0 : (0 : Int) ≤ (k : Int) := by omega
      have hi1 : (k : Int) < (l.length : Int) := by omega
      have HNX : Hid (0 < k + 1 → abs5 (l.getD (k + 1 - 1) 0) = abs5 (l.getD k 0)) := fun _ => by rw [Nat.add_sub_cancel]
      have HKL := Lib.hid hlt
      have hp := abs5_pos hr.1
      clear hc0 hr hlt
      generalize varOf (l.getD k 0) = z at *
      generalize abs5 (l.getD k 0) = q at *
      generalize l.getD k 0 = y at *
      have HV := Lib.hid (fun W => vari5_any q W)
      have HVD : Hid (varB q = (decide (1 ≤ q) && decide (q ≤ 65536))) := rfl
      cases hv : varB q with
      | false =>
        rw [hv] at HV
        have HM : Hid (mayB l = false) := by
          show _ = _
          rw [HI.out, HD.out, HAV.out]
          have h1 := HVD.out
          rw [hv] at h1
          by_cases h6 : 65536 < q
          · rw [if_pos h6]
            cases k with
            | zero => rw [HK0.out rfl]; rfl
            | succ k' =>
              have hm : 0 ≤ m := by rw [← HKP.out (by omega)]; exact abs5_pos (HPX.out (by omega)).1
              have : decide (m < 0) = false := by simpa using hm
              rw [this]; rfl
          · rw [if_neg h6]
            have h7 : q = 0 := by
              have h8 : ¬ (1 ≤ q ∧ q ≤ 65536) := by intro hh; simp [hh.1, hh.2] at h1
              omega
            rw [h7]
            cases k with
            | zero => rw [HK0.out rfl]; rfl
            | succ k' =>
              have hm : 0 ≤ m := by rw [← HKP.out (by omega)]; exact abs5_pos (HPX.out (by omega)).1
              have : decide (m < 0) = false := by simpa using hm
              rw [this]; rfl
        clear hv hp
        go_wp2_with fail
        go_quiet ((first
          | (go_at_call 121; exact quiet_left (HCY.out _))
          | (go_at_call 120; exact quiet_left (HV.out _))))
        go_wp2
        go_ret
        exact ⟨ret_bool HM.out.symm, hq.drewN _⟩
      | true =>
        rw [hv] at HV
        have hb2 : 1 ≤ q ∧ q ≤ 65536 := by have h1 := HVD.out; rw [hv] at h1; simpa using h1.symm
        have HSTEP : Hid (mayB l = (decide (m < q) && mayFrom q (l.drop (k + 1)))) := by
          show _ = _
          rw [HI.out, HD.out, HAV.out, if_neg (by omega)]
        have HQ1 := Lib.hid hb2
        clear hv hp hb2 HVD HAV HD HI
        cases k with
        | zero =>
          have hm : m = 0 := HK0.out rfl
          subst hm
          rw [Nat.add_zero] at hy
          have HM : Hid (mayB l = mayFrom q (l.drop (0 + 1))) := by
            show _ = _
            rw [HSTEP.out]
            have : decide ((0 : Int) < q) = true := by have := HQ1.out; simp; omega
            rw [this]
            rfl
          clear HSTEP HPC HPX
          go_wp2_with fail
          go_quiet ((first
            | (go_at_call 121; exact quiet_left (HCY.out _))
            | (go_at_call 120; exact quiet_left (HV.out _))))
          go_wp2
          go_roundw
          case rel => exact ⟨0 + 1, q, HKL.out, by go_num, hq.drewN _, HM.out, fun h => by omega, fun h => HNX.out h⟩
          case measure => have := HKL.out; simp [intOf]; omega
        | succ k' =>
          have hx1 := HKP.out (by omega)
          have hcx := HPC.out (by omega)
          have hxr := HPX.out (by omega)
          simp only [Nat.add_sub_cancel] at hx1 hxr hcx
          have hcallx := fun (W : World) => abs5_any (l.getD k' 0) W hxr.1 hxr.2
          rw [hx1] at hcallx
          have hi2 : (0 : Int) < (k' : Int) + 1 := by omega
          have hi3 : (0 : Int) ≤ (k' : Int) := by omega
          have hi4 : (k' : Int) < (l.length : Int) := by omega
          have HCX := Lib.hid hcallx
          clear hcallx HPC HKP HK0 hx1 HPX hxr
          generalize l.getD k' 0 = x at *
          by_cases hge : q ≤ m
          · have HM : Hid (mayB l = false) := by
              show _ = _
              rw [HSTEP.out]
              have : decide (m < q) = false := by simp; omega
              rw [this]
              rfl
            clear HSTEP HNX
            go_wp2_with fail
            go_quiet ((first
              | (go_at_call 120; exact quiet_left (HV.out _))
              | (go_at_call_of 121 (Value.int .i64 x); exact quiet_left (HCX.out _))
              | (go_at_call_of 121 (Value.int .i64 y); exact quiet_left (HCY.out _))))
            go_wp2
            go_ret
            exact ⟨ret_bool HM.out.symm, hq.drewN _⟩
          · have hge' : decide (q ≤ m) = false := by simpa using hge
            have HM : Hid (mayB l = mayFrom q (l.drop (k' + 1 + 1))) := by
              show _ = _
              rw [HSTEP.out]
              have : decide (m < q) = true := by simp; omega
              rw [this]
              rfl
            clear HSTEP
            go_wp2_with fail
            go_quiet ((first
              | (go_at_call 120; exact quiet_left (HV.out _))
              | (go_at_call_of 121 (Value.int .i64 x); exact quiet_left (HCX.out _))
              | (go_at_call_of 121 (Value.int .i64 y); exact quiet_left (HCY.out _))))
            go_wp2
            go_roundw
            case rel => exact ⟨k' + 1 + 1, q, HKL.out, by go_num, hq.drewN _, HM.out, fun h => by omega, fun h => HNX.out h⟩
            case measure => have := HKL.out; simp [intOf]; omega
    · have HE : Hid (mayB l = true) := by
        have h := HI.out
        rw [List.drop_of_length_le (by omega)] at h
        exact h
      go_wp2
      go_ret
      exact ⟨ret_bool HE.out.symm, hq⟩
end Go.Proofs.YtppglbffmgnooaaGreat
