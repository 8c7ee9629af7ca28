/- Joined texts: PxTurnA, PxTurnB, PxTurnC. -/
import Derived.Test.YtmiijgjpkkmoaaaGreatMpT
import Derived.Test.YtmiijgjpkkmoaaaGreatPxChainQ
import Derived.Test.YtmiijgjpkkmoaaaGreatPxLawBack
import Derived.Test.YtmiijgjpkkmoaaaGreatPxDqbf
import Derived.Test.YtmiijgjpkkmoaaaGreatPxRMayQ
import Derived.Test.YtmiijgjpkkmoaaaGreatMpR
import Derived.StillTailTactics
import Derived.Test.YtmiijgjpkkmoaaaGreatPxLawChain
/- The reference's Find and On of a variable of a valid prefix; Deps of both. -/
namespace Go.Proofs.YtmiijgjpkkmoaaaGreat
open Go.RowKit
set_option linter.unusedVariables false
set_option linter.unusedSimpArgs false

set_option maxRecDepth 100000 in
set_option maxHeartbeats 1600000 in
theorem rfind_to (vp : Value) (P : List Blk) (v : Int) (w : World) (HP : IsBlocks w vp P) (hm : mayP P = true) (hv : v ∈ flatB P) :
    Calls Tryz.prog 37 #[vp, .int .i64 v] w fun e w' => e = .returned (.tuple #[.int .i64 ((findL P v).1 : Nat), .bool (findL P v).2.1, .bool true]) ∧ Quiet w w' := by
  have HPP := Lib.hid HP
  have HM := Lib.hid hm
  have HV := Lib.hid hv
  have hr := (alt_may hm).2.2.1 v hv
  have hx1 : -9223372036854775808 ≤ v := by omega
  have hx2 : v ≤ 9223372036854775807 := by omega
  have hpl := (mayP_len hm).2
  obtain ⟨a, cap, rfl, hlp⟩ := HP.shape
  clear HP hm hv hr
  go_enter Tryz.func37, Tryz.ntmps37
  go_wp2
  go_loop [7] (fun i => ∃ k : Nat, k ≤ P.length ∧ i = .int .i64 k ∧ Hid (∀ j, j < k → v ∉ (P.getD j dB).2)) (fun i => P.length - (intOf i).toNat)
  case atStart => exact ⟨0, Nat.zero_le _, rfl, fun j hj => absurd hj (Nat.not_lt_zero _)⟩
  case round =>
    obtain ⟨k, hk, rfl, hn⟩ := hrel
    by_cases hlt : k < P.length
    · obtain ⟨b, off, u, rfl, hb, hcx, hcu, HU⟩ := HPP.out.at hlt
      have HAT : Hid (v ∈ (P.getD k dB).2 → findL P v = (k, (P.getD k dB).1, true)) := fun h => findL_at HM.out hlt h
      have HNN : Hid (v ∉ (P.getD k dB).2 → ∀ j, j < k + 1 → v ∉ (P.getD j dB).2) := fun h j hj => by
        rcases Nat.lt_or_ge j k with h1 | h1
        · exact hn.out j h1
        · obtain rfl : j = k := by omega
          exact h
      have HHS := Lib.hid (has3_any u (P.getD k dB).2 v w HU hx1 hx2)
      obtain ⟨ua, uc, rfl⟩ := HU.shape
      have hi0 : (0 : Int) ≤ (k : Int) := by omega
      have hi1 : (k : Int) < (P.length : Int) := by omega
      clear HU
      generalize P.getD k dB = y at *
      obtain ⟨y1, y2⟩ := y
      simp only at hcx hcu HAT HNN HHS
      by_cases hx : v ∈ y2
      · have hmb : memB y2 v = true := by unfold memB; simpa using hx
        rw [hmb] at HHS
        have HF := Lib.hid (HAT.out hx)
        clear hmb hx HAT HNN hn
        go_wp2_with (go_at_call 45; refine HHS.out.mono ?_; rintro e w1 ⟨rfl, rfl⟩)
        go_quiet (fail)
        go_wp2
        go_ret3
        rw [HF.out]
        exact ⟨rfl, _, rfl⟩
      · have hmb : memB y2 v = false := by unfold memB; simpa using hx
        rw [hmb] at HHS
        have HF := Lib.hid (HNN.out hx)
        clear hmb hx HAT HNN hn
        go_wp2_with (go_at_call 45; refine HHS.out.mono ?_; rintro e w1 ⟨rfl, rfl⟩)
        go_round
        case rel => exact ⟨k + 1, by omega, by go_num, HF.out⟩
        case measure => simp [intOf]; omega
    · obtain rfl : k = P.length := by omega
      obtain ⟨A, hA, _, hvA⟩ := findL_some HV.out
      exact absurd hvA (hn.out A hA)

theorem rmay_yes {X : World} {v : Value} {p : List Blk} (H : IsBlocks X v p) (hm : mayP p = true) : Calls Tryz.prog 18 #[v] X fun e w' => e = .returned (.bool true) ∧ Below X.heap.size X w' := by
  have h1 := mayP_len hm
  have := rmay_any v p X H (by omega) (by omega) (blocks_i64 H)
  rw [hm] at this
  exact this
theorem other_sub (e : Bool) : ∀ q : List Blk, (otherL e q).Sublist (flatB q)
  | [] => List.Sublist.refl _
  | b :: q => by
    have ih := other_sub e q
    unfold otherL flatB at ih ⊢
    simp only [List.filter]
    split
    · simp only [List.map_cons, List.flatten_cons]
      exact List.Sublist.append_left ih _
    · simp only [List.map_cons, List.flatten_cons]
      exact ih.trans (List.sublist_append_right _ _)
theorem putAll_le (l : List Int) : (putAll l).length ≤ l.length := by
  have := putAll_len l l.length (Nat.le_refl _)
  rwa [List.take_length] at this
theorem putAll_in {l : List Int} (h : In64 l) : In64 (putAll l) := by
  have := putAll_64 l h l.length (Nat.le_refl _)
  rwa [List.take_length] at this
theorem mayP_take {P : List Blk} (hm : mayP P = true) (k : Nat) : (flatB (P.take k)).length ≤ 1024 := by
  have := (alt_may hm).2.2.2
  have h2 := flat_take_len P k
  omega
theorem other64 {P : List Blk} (hm : mayP P = true) (e : Bool) {k : Nat} (hk : k ≤ P.length) {v : Int} (h : v ∈ otherL e (P.take k)) : 1 ≤ v ∧ v ≤ 65536 := (alt_may hm).2.2.1 v (otherL_sub hk h)

set_option maxRecDepth 100000 in
set_option maxHeartbeats 3200000 in
theorem ron_to (vp : Value) (P : List Blk) (v : Int) (w : World) (HP : IsBlocks w vp P) (hm : mayP P = true) (hv : v ∈ flatB P) :
    Calls Tryz.prog 38 #[vp, .int .i64 v] w fun e w' => ∃ u, e = .returned (.tuple #[u, .int .i64 0]) ∧ Own w' w.heap.size u (onL P v).1 ∧ Below w.heap.size w w' := by
  have HPP := Lib.hid HP
  have HM := Lib.hid hm
  have HMY := Lib.hid (rmay_yes HP hm)
  have HFI : Hid (∀ W, Below w.heap.size w W → Calls Tryz.prog 37 #[vp, .int .i64 v] W fun e w' => e = .returned (.tuple #[.int .i64 ((findL P v).1 : Nat), .bool (findL P v).2.1, .bool true]) ∧ Below W.heap.size W w') := fun W hW => (rfind_to vp P v W (HP.below hW (Nat.le_refl _)) hm hv).mono fun e w' h => ⟨h.1, h.2.below _⟩
  have hpl := (mayP_len hm).2
  have HO : Hid (onL P v = (ascI (otherL (findL P v).2.1 (P.take (findL P v).1)), 0)) := by
    obtain ⟨A, hA, e, _⟩ := findL_some hv
    show _ = _
    unfold onL
    rw [if_pos hm, e]
    simp
  have hil : (findL P v).1 ≤ P.length := findL_le P v
  have HND := Lib.hid (mayP_nodup hm)
  obtain ⟨a, cap, rfl, hlp⟩ := HP.shape
  generalize findL P v = fd at *
  obtain ⟨i, ex, fo⟩ := fd
  simp only at HFI HO hil
  clear HP hm
  go_enter Tryz.func38, Tryz.ntmps38
  go_wp2_with (first
    | (go_at_call 18; refine HMY.out.mono ?_; rintro e w1 ⟨rfl, hb1⟩)
    | (go_at_call 37; refine (HFI.out w1 hb1).mono ?_; rintro e w2 ⟨rfl, hb2⟩))
  have HB2 := Lib.hid (hb1.trans (hb2.mono hb1.size))
  have hs2 := HB2.out.size
  clear hb1 hb2 HFI HMY
  have hnd : ∀ k, k ≤ P.length → (otherL ex (P.take k)).Nodup := fun k hk => by
    have h1 : (otherL ex (P.take k)).Sublist (flatB P) := (other_sub ex _).trans (by
      have : flatB P = flatB (P.take k) ++ flatB (P.drop k) := by unfold flatB; rw [← List.flatten_append, ← List.map_append, List.take_append_drop]
      rw [this]
      exact List.sublist_append_left _ _)
    exact HND.out.sublist h1
  have HNO := Lib.hid hnd
  clear hnd
  go_loopw [9, 10] (fun o j wr => ∃ k : Nat, k ≤ i ∧ j = .int .i64 k ∧ Own wr w.heap.size o (putAll (otherL ex (P.take k))) ∧ Below w.heap.size w wr) (fun _ j _ => i - (intOf j).toNat)
  case atStart => exact ⟨0, Nat.zero_le _, rfl, by simpa [otherL, flatB, putAll] using Own.nil _ _, HB2.out⟩
  case round =>
    obtain ⟨k, hk, rfl, hown, hbel⟩ := hrel
    by_cases hlt : k < i
    · have hlt2 : k < P.length := by omega
      obtain ⟨b, off, u, rfl, hb, hcx0, hcu0, HU⟩ := HPP.out.at hlt2
      have HT := Lib.hid (otherL_take (e := ex) hlt2)
      have HRM := Lib.hid (otherL_room (e := ex) HM.out hlt2)
      have HCX : Hid (∀ X, Below w.heap.size w X → X.cell? ⟨b, off + k * 2, none⟩ = some (.bool (P.getD k dB).1) ∧ X.cell? ⟨b, off + k * 2 + 1, none⟩ = some u) := fun X hX => ⟨(hX.cell (p := ⟨b, off + k * 2, none⟩) hb).trans hcx0, (hX.cell (p := ⟨b, off + k * 2 + 1, none⟩) hb).trans hcu0⟩
      have HUX : Hid (∀ X, Below w.heap.size w X → IsInts X u (P.getD k dB).2) := fun X hX => HU.below hX (Nat.le_refl _)
      have H64 : Hid (∀ x ∈ (P.getD k dB).2, 1 ≤ x ∧ x ≤ 65536) := fun x hx => (alt_may HM.out).2.2.1 x (flat_in hlt2 hx)
      have HO64 : Hid (∀ x ∈ otherL ex (P.take k), 1 ≤ x ∧ x ≤ 65536) := fun x hx => other64 HM.out ex (by omega) hx
      have HOW := Lib.hid hown
      have HBE := Lib.hid hbel
      have hszr := hbel.size
      have HNE : (P.getD k dB).2 ≠ [] := dq_full (alt_may HM.out).1 _ (getD_memB hlt2)
      have hk0 : (0 : Int) ≤ (k : Int) := by omega
      have hk1 : (k : Int) < (P.length : Int) := by omega
      have hk2 : (k : Int) < (i : Int) := by omega
      have hk3 : (k : Int) < 100000 := by omega
      obtain ⟨ua, uc, rfl⟩ := HU.shape
      have HKI := Lib.hid hlt
      clear hcx0 hcu0 HU hown hbel
      generalize P.getD k dB = y at *
      obtain ⟨y1, y2⟩ := y
      simp only at HT HRM HCX HUX H64 HNE
      obtain ⟨F, hF⟩ : ∃ F, otherL ex (P.take k) = F := ⟨_, rfl⟩
      rw [hF] at HT HRM HOW HO64
      have hy2 : (y2.length : Int) ≤ 1024 := by have := HRM.out; omega
      have HYN : Hid (y2 ≠ []) := HNE
      obtain ⟨oa, on, oc, rfl⟩ := own_shape3 HOW.out
      clear hF
      by_cases hye : y1 = ex
      · have hyl : (0 : Int) < (y2.length : Int) := by
          have := List.length_pos_iff.2 HYN.out
          omega
        have HTN : Hid (otherL ex (P.take (k + 1)) = F) := by show _ = _; rw [HT.out, hye]; simp
        clear HT
        have h2 : (y1 = true ∧ ex = true) ∨ (y1 = false ∧ ex = false) := by cases y1 <;> cases ex <;> simp at hye ⊢
        clear hye
        rcases h2 with ⟨rfl, rfl⟩ | ⟨rfl, rfl⟩
        all_goals
          clear HUX HYN H64 HRM HNE
          generalize y2.length = ny at *
          go_wp2
          generalize wr = wz at *
          go_loopw [9, 11] (fun o j wr => ∃ t : Nat, Hid (t = 0) ∧ o = .slice oa on oc ∧ j = .int .i64 t ∧ wr = wz) (fun _ _ _ => 0)
          case atStart => exact ⟨0, rfl, rfl, rfl, rfl⟩
          case round =>
            obtain ⟨t, ht, rfl, rfl, rfl⟩ := hrel
            obtain ⟨r0, r1⟩ := HCX.out wr HBE.out
            have ht1 : (t : Int) < (ny : Int) := by have := ht.out; omega
            have ht0 : (0 : Int) ≤ (t : Int) := by omega
            clear hyl
            go_wp2
            go_roundw
            case rel => exact ⟨k + 1, by have := HKI.out; omega, by go_num, by rw [HTN.out]; exact HOW.out, HBE.out⟩
            case measure => have := HKI.out; simp [intOf]; omega
      · have HTN : Hid (otherL ex (P.take (k + 1)) = F ++ y2) := by
          show _ = _
          rw [HT.out, if_pos (by simpa using hye)]
        clear HT
        have HY64 : Hid (∀ t, In64 (F ++ y2.take t)) := fun t x hx => by
          rcases List.mem_append.1 hx with h | h
          · have := HO64.out x h; omega
          · have := H64.out x (List.mem_of_mem_take h); omega
        have HFL : Hid (F.length + y2.length ≤ 1024) := HRM.out
        have h2 : (y1 = true ∧ ex = false) ∨ (y1 = false ∧ ex = true) := by cases y1 <;> cases ex <;> simp at hye ⊢
        clear hye
        rcases h2 with ⟨rfl, rfl⟩ | ⟨rfl, rfl⟩
        all_goals
          go_wp2
          generalize wr = wz at *
          go_loopw [9, 11] (fun o j wr => ∃ t : Nat, t ≤ y2.length ∧ j = .int .i64 t ∧ Own wr w.heap.size o (putAll (F ++ y2.take t)) ∧ Below w.heap.size w wr) (fun _ j _ => y2.length - (intOf j).toNat)
          case atStart => exact ⟨0, Nat.zero_le _, rfl, by simpa using HOW.out, HBE.out⟩
          case round =>
            clear HOW HBE
            obtain ⟨t, ht, rfl, hown, hbel⟩ := hrel
            obtain ⟨r0, r1⟩ := HCX.out wr hbel
            by_cases htl : t < y2.length
            · obtain ⟨b2, off2, rfl, hb2, hc2⟩ := (HUX.out wr hbel).cellX htl
              have HTK : Hid (F ++ y2.take (t + 1) = F ++ y2.take t ++ [y2.getD t 0]) := by show _ = _; rw [take_sn htl, List.append_assoc]
              have hx := H64.out _ (getD_mem htl)
              obtain ⟨va, vn, vk, rfl⟩ := own_shape3 hown
              have HPU := Lib.hid (rputO_any w.heap.size (.slice va vn vk) (putAll (F ++ y2.take t)) (y2.getD t 0) wr hown hbel.size (putAll_in (HY64.out t)) (by
                have h1 := putAll_le (F ++ y2.take t)
                have h2 := HFL.out
                rw [List.length_append, List.length_take] at h1
                omega) (by omega) (by omega))
              have ht0 : (0 : Int) ≤ (t : Int) := by omega
              have ht1 : (t : Int) < (y2.length : Int) := by omega
              have ht2 : (t : Int) < 100000 := by omega
              have HTL := Lib.hid htl
              have HBL := Lib.hid hbel
              clear hown hbel hx
              generalize y2.getD t 0 = x at *
              go_wp2_with (go_at_call 72; refine HPU.out.mono ?_; rintro e w3 ⟨u3, rfl, ho3, hb3⟩)
              go_roundw
              case rel => exact ⟨t + 1, by have := HTL.out; omega, by go_num, by rw [HTK.out, putAll_snoc]; exact ho3, HBL.out.trans (hb3.mono HBL.out.size)⟩
              case measure => have := HTL.out; simp [intOf]; omega
            · obtain rfl : t = y2.length := by omega
              rw [List.take_length] at hown
              have HOX := Lib.hid hown
              have HBX := Lib.hid hbel
              clear hown hbel
              go_wp2
              go_roundw
              case rel => exact ⟨k + 1, by have := HKI.out; omega, by go_num, by rw [HTN.out]; exact HOX.out, HBX.out⟩
              case measure => have := HKI.out; simp [intOf]; omega
    · obtain rfl : k = i := by omega
      have hpa := putAll_asc (HNO.out k (by omega))
      rw [hpa] at hown
      go_wp2
      go_ret2
      rw [HO.out]
      exact ⟨_, rfl, hown, hbel⟩

/-- What Deps answers. -/
def depsL (E : List (Int × List Int)) (v : Int) : List Int × Bool := match E.find? (fun x => x.1 == v) with
  | some x => (x.2, true)
  | none => ([], false)
theorem depsL_at {E : List (Int × List Int)} {v : Int} {k : Nat} (hk : k < E.length) (h : ∀ j, j < k → (E.getD j dD).1 ≠ v) (hv : (E.getD k dD).1 = v) : depsL E v = ((E.getD k dD).2, true) := by
  unfold depsL
  have e : E.find? (fun x => x.1 == v) = some (E.getD k dD) := by
    rw [List.find?_eq_some_iff_getElem]
    refine ⟨by simpa using hv, k, hk, by simp [List.getD, hk], fun j hj => ?_⟩
    have := h j hj
    simpa [List.getD, show j < E.length by omega] using this
  rw [e]
theorem depsL_no {E : List (Int × List Int)} {v : Int} (h : ∀ j, j < E.length → (E.getD j dD).1 ≠ v) : depsL E v = ([], false) := by
  unfold depsL
  have e : E.find? (fun x => x.1 == v) = none := by
    rw [List.find?_eq_none]
    intro x hx
    obtain ⟨j, hj, rfl⟩ := List.getElem_of_mem hx
    have := h j hj
    simpa [List.getD, hj] using this
  rw [e]
def DepsPost (w : World) (E : List (Int × List Int)) (v : Int) (e : Ending) (w' : World) : Prop := ∃ u, e = .returned (.tuple #[u, .bool (depsL E v).2]) ∧ IsInts w' u (depsL E v).1 ∧ Below w.heap.size w w'

set_option maxRecDepth 100000 in
set_option maxHeartbeats 1600000 in
theorem rdeps_any (vu ve vc : Value) (E : List (Int × List Int)) (v : Int) (w : World) (HE : IsDeps w ve E) :
    Calls Tryz.prog 13 #[.agg #[vu, ve, vc], .int .i64 v] w (DepsPost w E v) := by
  obtain ⟨W, hW⟩ : ∃ W, w.alloc (.cells #[vu, ve, vc] 29) = W := ⟨_, rfl⟩
  have hb0 : Below w.heap.size w W := by rw [← hW]; exact (Below.refl w.heap.size w).alloc (Nat.le_refl _) _
  have HB0 := Lib.hid hb0
  have c1 : W.cell? ⟨w.heap.size, 1, none⟩ = some ve := by rw [← hW]; exact cell_fresh rfl
  have HEW := Lib.hid (HE.below hb0 (Nat.le_refl _))
  obtain ⟨ea, ec, rfl, hel⟩ := HE.shape
  clear HE hb0
  go_enter Tryz.func13, Tryz.ntmps13
  go_wp2
  go_loop [6] (fun i => ∃ k : Nat, k ≤ E.length ∧ i = .int .i64 k ∧ Hid (∀ j, j < k → (E.getD j dD).1 ≠ v)) (fun i => E.length - (intOf i).toNat)
  case atStart => exact ⟨0, Nat.zero_le _, rfl, fun j hj => absurd hj (Nat.not_lt_zero _)⟩
  case round =>
    obtain ⟨k, hk, rfl, hn⟩ := hrel
    by_cases hlt : k < E.length
    · obtain ⟨b, off, u, rfl, hb, hcx, hcu, HU⟩ := HEW.out.at hlt
      have HAT : Hid ((E.getD k dD).1 = v → depsL E v = ((E.getD k dD).2, true)) := fun h => depsL_at hlt hn.out h
      have HNN : Hid ((E.getD k dD).1 ≠ v → ∀ j, j < k + 1 → (E.getD j dD).1 ≠ v) := fun h j hj => by
        rcases Nat.lt_or_ge j k with h1 | h1
        · exact hn.out j h1
        · obtain rfl : j = k := by omega
          exact h
      have HUI := Lib.hid HU
      have hi0 : (0 : Int) ≤ (k : Int) := by omega
      have hi1 : (k : Int) < (E.length : Int) := by omega
      clear HU
      generalize E.getD k dD = y at *
      obtain ⟨y1, y2⟩ := y
      simp only at hcx hcu HAT HNN HUI
      by_cases he : y1 = v
      · have HF := Lib.hid (HAT.out he)
        subst he
        have heq : (y1 == y1) = true := by simp
        clear HAT HNN hn
        go_wp2
        go_ret2
        unfold DepsPost
        rw [HF.out]
        exact ⟨_, rfl, HUI.out, HB0.out⟩
      · have HF := Lib.hid (HNN.out he)
        have heq : (y1 == v) = false := by simpa using he
        clear HAT HNN hn he
        go_wp2
        go_round
        case rel => exact ⟨k + 1, by omega, by go_num, HF.out⟩
        case measure => simp [intOf]; omega
    · obtain rfl : k = E.length := by omega
      have HF := Lib.hid (depsL_no hn.out)
      clear hn
      go_wp2
      go_ret2
      unfold DepsPost
      rw [HF.out]
      exact ⟨_, rfl, IsInts.nil _, HB0.out⟩

set_option maxRecDepth 100000 in
set_option maxHeartbeats 1600000 in
theorem pdeps_any (vu ve vc : Value) (E : List (Int × List Int)) (v : Int) (w : World) (HE : IsDeps w ve E) :
    Calls Tryz.prog 12 #[.agg #[vu, ve, vc], .int .i64 v] w (DepsPost w E v) := by
  obtain ⟨W, hW⟩ : ∃ W, w.alloc (.cells #[vu, ve, vc] 29) = W := ⟨_, rfl⟩
  have hb0 : Below w.heap.size w W := by rw [← hW]; exact (Below.refl w.heap.size w).alloc (Nat.le_refl _) _
  have HB0 := Lib.hid hb0
  have c1 : W.cell? ⟨w.heap.size, 1, none⟩ = some ve := by rw [← hW]; exact cell_fresh rfl
  have HEW := Lib.hid (HE.below hb0 (Nat.le_refl _))
  obtain ⟨ea, ec, rfl, hel⟩ := HE.shape
  clear HE hb0
  go_enter Tryz.func12, Tryz.ntmps12
  go_wp2
  go_loopw [11] (fun i wr => ∃ k : Nat, k ≤ E.length ∧ i = .int .i64 k ∧ Below W.heap.size W wr ∧ Hid (∀ j, j < k → (E.getD j dD).1 ≠ v)) (fun i _ => E.length - (intOf i).toNat)
  case atStart => exact ⟨0, Nat.zero_le _, rfl, Below.refl _ _, fun j hj => absurd hj (Nat.not_lt_zero _)⟩
  case round =>
    obtain ⟨k, hk, rfl, hbel, hn⟩ := hrel
    have hszr := hbel.size
    by_cases hlt : k < E.length
    · obtain ⟨b, off, u, rfl, hb, hcx0, hcu0, HU⟩ := HEW.out.at hlt
      have hcx := (hbel.cell (p := ⟨b, off + k * 2, none⟩) hb).trans hcx0
      have hcu := (hbel.cell (p := ⟨b, off + k * 2 + 1, none⟩) hb).trans hcu0
      have HAT : Hid ((E.getD k dD).1 = v → depsL E v = ((E.getD k dD).2, true)) := fun h => depsL_at hlt hn.out h
      have HNN : Hid ((E.getD k dD).1 ≠ v → ∀ j, j < k + 1 → (E.getD j dD).1 ≠ v) := fun h j hj => by
        rcases Nat.lt_or_ge j k with h1 | h1
        · exact hn.out j h1
        · obtain rfl : j = k := by omega
          exact h
      have HUI : Hid (∀ X, Below W.heap.size W X → IsInts X u (E.getD k dD).2) := fun X hX => HU.below hX (Nat.le_refl _)
      have hi0 : (0 : Int) ≤ (k : Int) := by omega
      have hi1 : (k : Int) < (E.length : Int) := by omega
      obtain ⟨ua, uc, rfl⟩ := HU.shape
      have HBL := Lib.hid hbel
      have HKL := Lib.hid hlt
      clear HU hcx0 hcu0 hbel
      generalize E.getD k dD = y at *
      obtain ⟨y1, y2⟩ := y
      simp only at hcx hcu HAT HNN HUI
      have HBA : Hid (Below W.heap.size W (wr.alloc (.cells #[.int .i64 y1, .slice ua y2.length uc] 51))) := HBL.out.alloc hszr _
      by_cases he : y1 = v
      · have HF := Lib.hid (HAT.out he)
        subst he
        have heq : (y1 == y1) = true := by simp
        have HCL := Lib.hid (clone1_any (.slice ua y2.length uc) y2 _ (HUI.out _ HBA.out))
        have HI := Lib.hid (HUI.out _ HBA.out)
        clear HAT HNN hn
        go_wp2_with (go_at_call 31; refine HCL.out.mono ?_; rintro e w1 ⟨u1, rfl, ho1, hb1⟩)
        go_ret2
        unfold DepsPost
        rw [HF.out]
        obtain ⟨_, _, _, _, _, hl, h64, _⟩ := HI.out
        exact ⟨_, rfl, ho1.ints hl h64, HB0.out.trans ((HBA.out.trans (hb1.mono HBA.out.size)).mono HB0.out.size)⟩
      · have HF := Lib.hid (HNN.out he)
        have heq : (y1 == v) = false := by simpa using he
        clear HAT HNN hn he
        go_wp2
        go_roundw
        case rel => exact ⟨k + 1, by have := HKL.out; omega, by go_num, HBA.out, HF.out⟩
        case measure => have := HKL.out; simp [intOf]; omega
    · obtain rfl : k = E.length := by omega
      have HF := Lib.hid (depsL_no hn.out)
      clear hn
      go_wp2
      go_ret2
      unfold DepsPost
      rw [HF.out]
      exact ⟨_, rfl, IsInts.nil _, HB0.out.trans (hbel.mono HB0.out.size)⟩
end Go.Proofs.YtmiijgjpkkmoaaaGreat

/- The reference's Dqbf. -/
namespace Go.Proofs.YtmiijgjpkkmoaaaGreat
open Go.RowKit Go.Shelf Go.Lib Go.Sort
set_option linter.unusedVariables false
set_option linter.unusedSimpArgs false

theorem rq_fin {W X : World} {bx : Nat} {vc vu ve : Value} {U : List Int} {s : List DepV} (h : DqSt W bx vc X vu ve U s) (hl : s.length ≤ 1024) (hel : ∀ x ∈ s, x.l.length ≤ 1024 ∧ In64 x.l) (hU : U.length ≤ 1024) (hU64 : In64 U) (r : Nat) (hr : r < W.heap.size) :
    ∀ wf, Kept (fun k => k = r) X wf → IsInts wf vu U ∧ IsDeps wf ve (s.map depE) := by
  intro wf hk
  have hrB : ∀ g, vu.ownBlock = some g → ¬ (g = r) := fun g hg e => by have := (h.univ.lt g hg).1; omega
  refine ⟨Own.ints (show Own wf W.heap.size vu U from hk.row h.univ hrB) (by omega) hU64, ?_⟩
  rcases h.rows.row.2 with ⟨rfl, h2⟩ | ⟨g, cap, cur, rfl, hBg, hgh, hnc, hcm, hcs, htk⟩
  · have hs0 : s = [] := List.eq_nil_of_length_eq_zero h2
    rw [hs0]
    exact IsTwo.nil wf
  · have hgl : g < X.heap.size := (Array.getElem?_eq_some_iff.1 hgh).1
    obtain ⟨hH, _, _, _⟩ := holds_own (s := s) (w := X) (B := W.heap.size) (g := g) (n := s.length) (cap := cap) ⟨h.rows.row.1, .inr ⟨g, cap, cur, rfl, hBg, hgh, hnc, hcm, hcs, htk⟩⟩
    refine deps_of_holds (holds_kept hH hk hgl (by omega)) (Nat.lt_of_lt_of_le hgl hk.size) hnc hcm (by omega) (fun x hx => ?_)
    have k2 : Own wf W.heap.size (.slice x.a x.l.length x.c) x.l := hk.row (h.rows.elems x hx) (fun i hi e => by have := ((h.rows.elems x hx).lt i hi).1; omega)
    exact k2.ints (by have := (hel x hx).1; omega) (hel x hx).2

/-- The state of the reference's Dqbf: the list of all variables beside. -/
structure RqSt (W : World) (bx : Nat) (vc : Value) (X : World) (vu ve : Value) (U : List Int) (s : List DepV) (vl : Value) (L : List Int) : Prop where
  st : DqSt W bx vc X vu ve U s
  lst : Own X W.heap.size vl L
  ne : ∀ g, vl.ownBlock = some g → vu.ownBlock ≠ some g
theorem RqSt.below {W : World} {bx : Nat} {vc : Value} {X Y : World} {vu ve vl : Value} {U L : List Int} {s : List DepV} (h : RqSt W bx vc X vu ve U s vl L) (hb : Below X.heap.size X Y) : RqSt W bx vc Y vu ve U s vl L :=
  ⟨h.st.below hb, h.lst.below hb (Nat.le_refl _), h.ne⟩
theorem RqSt.setU {W : World} {bx : Nat} {vc : Value} {X Y : World} {vu ve v' vl : Value} {U U' L : List Int} {s : List DepV} (h : RqSt W bx vc X vu ve U s vl L) (hY : Own Y W.heap.size v' U') (hg : Kept (fun k => vu.ownBlock = some k) X Y) (hv : v'.ownBlock = vu.ownBlock ∨ v'.ownBlock = some X.heap.size) :
    RqSt W bx vc (Y.setCell ⟨bx, 0, none⟩ v') v' ve U' s vl L := by
  have hB : ∀ i, i < W.heap.size → ¬ (vu.ownBlock = some i) := fun i hi e => by
    have := (h.st.univ.lt i e).1
    omega
  have b1 := h.st.box.keptS hg hB h.st.nu
  have l1 : Own Y W.heap.size vl L := hg.row h.lst (fun g hg2 e => h.ne g hg2 e)
  refine ⟨h.st.setU hY hg hv, (Kept.setCell Y ⟨bx, 0, none⟩ v').row l1 (fun g hg2 e => own_type l1 b1.2.2 (by decide) (by rw [hg2]; exact congrArg some e)), fun g hg2 e => ?_⟩
  rcases hv with hv | hv
  · exact h.ne g hg2 (by rw [← hv]; exact e)
  · rw [hv] at e
    injection e with e
    have := (h.lst.lt g hg2).2
    omega
theorem RqSt.appE {W : World} {bx : Nat} {vc : Value} {X X1 Y : World} {vu ve v' vl : Value} {U L : List Int} {s : List DepV} {x : DepV} (h : RqSt W bx vc X vu ve U s vl L) (hb : Below X.heap.size X X1) (hx : Own X1 X.heap.size (.slice x.a x.l.length x.c) x.l)
    (hrow : Y.ownsRow W.heap.size 51 2 v' (s ++ [x]).length (cellsD (s ++ [x]))) (hg : X1.grownBy Y ve.ownBlock) : RqSt W bx vc (Y.setCell ⟨bx, 1, none⟩ v') vu v' U (s ++ [x]) vl L := by
  have h1 := h.below hb
  have hk := Kept.of_grown hg
  have hB : ∀ i, i < W.heap.size → ¬ (ve.ownBlock = some i) := fun i hi e => by
    have := (rowB_lt h.st.rows.row i e).1
    omega
  have b1 := h1.st.box.keptS hk hB h.st.ne
  have l1 : Own Y W.heap.size vl L := hk.row h1.lst (fun g hg2 e => rowE_ne h1.st.rows.row h1.lst g hg2 e)
  exact ⟨h.st.appE hb hx hrow hg, (Kept.setCell Y ⟨bx, 1, none⟩ v').row l1 (fun g hg2 e => own_type l1 b1.2.2 (by decide) (by rw [hg2]; exact congrArg some e)), h.ne⟩

theorem rows_shape {w : World} {B n k : Nat} {e : TypeId} {v : Value} {xs : List Value} (h : w.ownsRow B e k v n xs) : ∃ a m c, v = .slice a m c := by
  rcases h.2 with ⟨rfl, _⟩ | ⟨g, cap, cur, rfl, _⟩
  · exact ⟨_, _, _, rfl⟩
  · exact ⟨_, _, _, rfl⟩
theorem putAll_mem {l : List Int} (hn : l.Nodup) {x : Int} (h : x ∈ putAll l) : x ∈ l := by
  rw [putAll_asc hn] at h
  exact ascI_mem.1 h
theorem refU_le (P : List Blk) (l : List Int) : (refU P l).length ≤ l.length := List.length_filter_le _ _
theorem refE_le (P : List Blk) (l : List Int) : (refE P l).length ≤ l.length := by
  unfold refE
  rw [List.length_map]
  exact List.length_filter_le _ _
theorem onL_ok {P : List Blk} (hm : mayP P = true) (v : Int) : (onL P v).1.length ≤ 1024 ∧ In64 (onL P v).1 := by
  unfold onL
  rw [if_pos hm]
  split
  · refine ⟨?_, fun x hx => ?_⟩
    · simp only
      rw [ascI_len]
      have h1 := otherL_len (findL P v).2.1 (P.take (findL P v).1)
      have h2 := mayP_take hm (findL P v).1
      omega
    · have := other64 hm _ (findL_le P v) (ascI_mem.1 hx)
      omega
  · exact ⟨by simp, fun x hx => by cases hx⟩

set_option maxRecDepth 100000 in
set_option maxHeartbeats 6400000 in
theorem rdqbf_any (vp vc : Value) (P : List Blk) (C : List (List Int)) (w : World) (HP : IsBlocks w vp P) (HC : IsRows w vc C) (hp : P.length ≤ 4000000) (hpf : (flatB P).length ≤ 4000000) (hct : C.length + tot C ≤ 4000000) :
    Calls Tryz.prog 9 #[.agg #[vp, vc]] w (DqPost w P C vc) := by
  have HPP := Lib.hid HP
  obtain ⟨W, hW⟩ : ∃ W, (w.alloc (.cells #[vp, vc] 25)).alloc (.cells #[.slice none 0 0, .slice none 0 0, .slice none 0 0] 29) = W := ⟨_, rfl⟩
  have hb0 : Below w.heap.size w W := by rw [← hW]; exact ((Below.refl w.heap.size w).alloc (Nat.le_refl _) _).alloc (by simp) _
  have hsz : W.heap.size = w.heap.size + 2 := by rw [← hW]; simp
  have hA : W.heap[w.heap.size]? = some (.cells #[vp, vc] 25 (0, 0)) := by rw [← hW, (Below.alloc (Below.refl _ _) (Nat.le_refl _) _).block _ (by simp)]; exact World.alloc_heap_new w _
  have hB : W.heap[w.heap.size + 1]? = some (.cells #[.slice none 0 0, .slice none 0 0, .slice none 0 0] 29 (0, 0)) := by
    have := World.alloc_heap_new (w.alloc (.cells #[vp, vc] 25)) (.cells #[.slice none 0 0, .slice none 0 0, .slice none 0 0] 29)
    rw [hW] at this
    simpa using this
  have hq := rmayq_any vp vc P C W (HP.below hb0 (Nat.le_refl _)) (HC.below hb0 (Nat.le_refl _)) hp hpf (blocks_i64 HP) hct
  obtain ⟨a1, c1, rfl, _⟩ := HP.shape
  obtain ⟨a3, c3, rfl, _⟩ := HC.shape
  have HB0 := Lib.hid hb0
  have D0 : W.cell? ⟨w.heap.size, 0, none⟩ = some (.slice a1 P.length c1) := by simp [World.cell?, hA]
  have D1 : W.cell? ⟨w.heap.size, 1, none⟩ = some (.slice a3 C.length c3) := by simp [World.cell?, hA]
  have HX : Hid (∀ X, Below W.heap.size W X → X.cell? ⟨w.heap.size, 0, none⟩ = some (.slice a1 P.length c1) ∧ X.cell? ⟨w.heap.size, 1, none⟩ = some (.slice a3 C.length c3) ∧ X.cell? ⟨w.heap.size + 1, 0, none⟩ = some (.slice none 0 0) ∧ X.cell? ⟨w.heap.size + 1, 1, none⟩ = some (.slice none 0 0) ∧ X.cell? ⟨w.heap.size + 1, 2, none⟩ = some (.slice none 0 0) ∧
      X.frozen? ⟨w.heap.size + 1, 0, none⟩ = false ∧ X.frozen? ⟨w.heap.size + 1, 1, none⟩ = false ∧ X.frozen? ⟨w.heap.size + 1, 2, none⟩ = false) := by
    intro X hb
    exact ⟨(hb.cell (p := ⟨w.heap.size, 0, none⟩) (by simp; omega)).trans D0, (hb.cell (p := ⟨w.heap.size, 1, none⟩) (by simp; omega)).trans D1, dqbf_zero (w.heap.size + 1) X ((hb.block _ (by omega)).trans hB)⟩
  have HSZ := Lib.hid hsz
  have HQ := Lib.hid hq
  obtain ⟨d0, d1, d2, d3, d4, d5, d6, d7⟩ := HX.out W (Below.refl _ _)
  have HPI : Hid (∀ X, Below W.heap.size W X → IsBlocks X (.slice a1 P.length c1) P) := fun X hX => HP.below (hb0.trans (hX.mono hb0.size)) (Nat.le_refl _)
  clear hq HP HC hb0 hA hB hsz D0 D1
  cases ho : mayQB P C with
  | false =>
    rw [ho] at HQ
    have HO := Lib.hid ho
    clear ho
    go_enter Tryz.func9, Tryz.ntmps9
    go_wp2_with (go_at_call 35; refine HQ.out.mono ?_; rintro e w1 ⟨rfl, hb1⟩; obtain ⟨e0, e1, e2, e3, e4, e5, e6, e7⟩ := HX.out w1 hb1)
    obtain ⟨g0, g1, g2⟩ := dqbf_set (w.heap.size + 1) w1 _ _ _ (.slice none 0 0) (.slice none 0 0) (.slice none 0 0) e2 e3 e4
    refine ⟨rfl, .tuple #[.agg #[.slice none 0 0, .slice none 0 0, .slice none 0 0], .int .i64 2], by simp [results, Tryz.f9, go_sem, g0, g1, g2], .inr ⟨HO.out, rfl⟩, ?_⟩
    have h2 := HSZ.out
    exact (((HB0.out.trans (hb1.mono (by omega))).setCell (by simp) _).setCell (by simp) _).setCell (by simp) _
  | true =>
    rw [ho] at HQ
    have HO := Lib.hid ho
    have hmp : mayP P = true := by
      unfold mayQB at ho
      rw [Bool.and_eq_true] at ho
      exact ho.1
    have HMY := Lib.hid hmp
    have HMP := Lib.hid (alt_may hmp)
    have hi64 : In64 (flatB P) := fun v hv => by have := (alt_may hmp).2.2.1 v hv; omega
    have HVA : Hid (∀ X, Below W.heap.size W X → Calls Tryz.prog 36 #[.slice a1 P.length c1] X (RetOwn X (putAll (flatB P)))) := fun X hX => rvarsP_any _ P X (HPI.out X hX) hpf hi64
    clear ho hmp hi64
    go_enter Tryz.func9, Tryz.ntmps9
    go_wp2_with (first
      | (go_at_call 35; refine HQ.out.mono ?_; rintro e w1 ⟨rfl, hb1⟩; obtain ⟨e0, e1, e2, e3, e4, e5, e6, e7⟩ := HX.out w1 hb1; have HS0 := Lib.hid (DqSt.start (vc := .slice a3 C.length c3) hb1); obtain ⟨f0, f1, f2, f3, f4, f5, f6, f7⟩ := HX.out _ (hb1.alloc hb1.size (.cells #[.slice none 0 0, .slice none 0 0, .slice a3 C.length c3] 29)))
      | (go_at_call 36; refine (HVA.out _ HS0.out.box.1).mono ?_; rintro e w2 ⟨vl, rfl, ho2, hb2⟩; obtain ⟨la, lc, rfl⟩ := ho2.shapeA))
    have HR0 : Hid (RqSt W w1.heap.size (.slice a3 C.length c3) w2 (.slice none 0 0) (.slice none 0 0) [] [] (.slice la (putAll (flatB P)).length lc) (putAll (flatB P))) := ⟨HS0.out.below hb2, ho2.mono HS0.out.box.1.size, fun g _ e => by cases e⟩
    have hll : (putAll (flatB P)).length ≤ 1024 := by have := putAll_le (flatB P); have := HMP.out.2.2.2; omega
    have HLM : Hid (∀ x ∈ putAll (flatB P), x ∈ flatB P) := fun x hx => putAll_mem HMP.out.2.1 hx
    have HRU : Hid (refU P (putAll (flatB P)) = dqU [] P) := refU_is HMY.out
    have HRE : Hid (refE P (putAll (flatB P)) = byVar (dqE [] P)) := refE_is HMY.out
    clear d0 d1 d2 d3 d4 d5 d6 d7 e0 e1 e2 e3 e4 e5 e6 e7 f0 f1 f2 f3 f4 f5 f6 f7 hb1 HQ HS0 hb2 ho2 HVA
    generalize w1.heap.size = bx at *
    generalize putAll (flatB P) = L at *
    go_loopw [6] (fun i wr => ∃ (k : Nat) (vu ve : Value) (s : List DepV), k ≤ L.length ∧ i = .int .i64 k ∧ RqSt W bx (.slice a3 C.length c3) wr vu ve (refU P (L.take k)) s (.slice la L.length lc) L ∧ s.map depE = refE P (L.take k)) (fun i _ => L.length - (intOf i).toNat)
    case atStart => exact ⟨0, _, _, [], Nat.zero_le _, rfl, HR0.out, rfl⟩
    case round =>
      clear HR0
      obtain ⟨k, vu, ve, s, hk, rfl, hst, hse⟩ := hrel
      by_cases hlt : k < L.length
      · have hxf := HLM.out _ (getD_mem hlt)
        have hxr := HMP.out.2.2.1 _ hxf
        obtain ⟨lb, lo, rfl, hlb, hlc⟩ := (hst.lst.ints (by omega) (fun x hx => by have := HMP.out.2.2.1 x (HLM.out x hx); omega)).cellX hlt
        have HT : Hid (L.take (k + 1) = L.take k ++ [L.getD k 0]) := take_sn hlt
        have HFD : Hid (∀ X, Below W.heap.size W X → Calls Tryz.prog 37 #[.slice a1 P.length c1, .int .i64 (L.getD k 0)] X fun e w' => e = .returned (.tuple #[.int .i64 ((findL P (L.getD k 0)).1 : Nat), .bool (findL P (L.getD k 0)).2.1, .bool true]) ∧ Quiet X w') := fun X hX => rfind_to _ P _ X (HPI.out X hX) HMY.out hxf
        have HON : Hid (∀ X, Below W.heap.size W X → Calls Tryz.prog 38 #[.slice a1 P.length c1, .int .i64 (L.getD k 0)] X fun e w' => ∃ u, e = .returned (.tuple #[u, .int .i64 0]) ∧ Own w' X.heap.size u (onL P (L.getD k 0)).1 ∧ Below X.heap.size X w') := fun X hX => ron_to _ P _ X (HPI.out X hX) HMY.out hxf
        have HUS := Lib.hid (refU_snoc P (L.take k) (L.getD k 0))
        have HES := Lib.hid (refE_snoc P (L.take k) (L.getD k 0))
        have hx1 : -9223372036854775808 ≤ L.getD k 0 := by omega
        have hx2 : L.getD k 0 ≤ 9223372036854775807 := by omega
        have HUL : Hid ((refU P (L.take k)).length ≤ 1024 ∧ s.length ≤ 1024) := by
          have h1 := refU_le P (L.take k)
          have h2 := refE_le P (L.take k)
          have h3 := congrArg List.length hse
          rw [List.length_map] at h3
          rw [List.length_take] at h1 h2
          exact ⟨by omega, by omega⟩
        have HKL := Lib.hid hlt
        have hk0 : (0 : Int) ≤ (k : Int) := by omega
        have hk1 : (k : Int) < (L.length : Int) := by omega
        have HST := Lib.hid hst
        have HSE := Lib.hid hse
        clear hxf hxr hst hse
        generalize L.getD k 0 = x at *
        have HBQ : Hid (∀ n, Below W.heap.size W (wr.drewN n)) := fun n => HST.out.st.box.1.trans (Quiet.below ⟨n, rfl⟩ _)
        have q0 := (HX.out wr HST.out.st.box.1).1
        obtain ⟨ON, hON⟩ : ∃ l, (onL P x).1 = l := ⟨_, rfl⟩
        have HOK : Hid (ON.length ≤ 1024 ∧ In64 ON) := by rw [← hON]; exact onL_ok HMY.out x
        rw [hON] at HON HES
        clear hON
        generalize findL P x = fd at *
        obtain ⟨fi, fe, fo⟩ := fd
        simp only at HFD HUS HES
        have HIC : Hid (∀ X, Below wr.heap.size wr X → X.cell? ⟨lb, lo + k, none⟩ = some (.int .i64 x) ∧ X.cell? ⟨w.heap.size, 0, none⟩ = some (.slice a1 P.length c1)) := fun X hX => ⟨(hX.cell (p := ⟨lb, lo + k, none⟩) hlb).trans hlc, (HX.out X (HST.out.st.box.1.trans (hX.mono HST.out.st.box.1.size))).1⟩
        rw [← HT.out] at HUS HES
        obtain ⟨UK, hUK⟩ : ∃ U, refU P (L.take k) = U := ⟨_, rfl⟩
        rw [hUK] at HUS HST HUL
        go_wp2_with fail
        go_quiet ((go_at_call 37; exact quiet_q (HFD.out _ (HBQ.out _))))
        have hqb : Below wr.heap.size wr (wr.drewN nq) := Quiet.below ⟨nq, rfl⟩ _
        have HSQ := Lib.hid (HST.out.below hqb)
        have HQB := Lib.hid hqb
        have hlb2 : lb < (wr.drewN nq).heap.size := Nat.lt_of_lt_of_le hlb hqb.size
        obtain ⟨r0, r1⟩ := HIC.out _ hqb
        clear q0 hlc HFD HBQ hUK HST hqb hlb
        generalize wr.drewN nq = wq at *
        obtain ⟨va, vn, vk, rfl⟩ := own_shape3 HSQ.out.st.univ
        cases fe with
        | false =>
          have HUN : Hid (refU P (L.take (k + 1)) = UK ++ [x]) := HUS.out
          have HEN : Hid (refE P (L.take (k + 1)) = refE P (L.take k)) := HES.out
          have ha1 : Below wq.heap.size wq (wq.alloc (.cells #[.int .i64 x] 3)).drew := ((Below.refl wq.heap.size wq).alloc (Nat.le_refl _) (.cells #[.int .i64 x] 3)).drew
          have HSA := Lib.hid (HSQ.out.below ha1)
          have HIA : Hid (IsInts (wq.alloc (.cells #[.int .i64 x] 3)).drew (.slice (some ⟨wq.heap.size, 0, none⟩) 1 1) [x]) := ints_oneX wq x hx1 hx2
          obtain ⟨s0, s1⟩ := HIC.out _ (HQB.out.trans (ha1.mono HQB.out.size))
          have c0 := HSQ.out.st.box.cell (i := 0) rfl
          have e0 := HSA.out.st.box.cell (i := 0) rfl
          have HLE : Hid (UK.length + ([x] : List Int).length ≤ 17592186044416) := by have := HUL.out.1; show _ ≤ _; simp; omega
          have HSX := Lib.hid HSA.out.st.box.1.size
          clear ha1 HUS HES HON
          go_upto_region 12 with fail
          go_region_law (refine step_appI (some 68) rfl rfl (.tmp 62) (.tmp 67) rfl W.heap.size (.slice va vn vk) (.slice (some ⟨wq.heap.size, 0, none⟩) 1 1) UK [x] rfl rfl HSA.out.st.univ HIA.out (by simp) HLE.out HSX.out ?_; intro v7 w7 ho7 hg7 hv7; obtain ⟨a7, n7, c7, rfl⟩ := own_shape3 ho7; obtain ⟨d7, g7⟩ := HSA.out.st.free (v' := .slice a7 n7 c7) hg7; have HS7 := Lib.hid (HSA.out.setU ho7 (Kept.of_grown hg7) hv7); clear ho7 hg7 hv7)
          all_goals
            go_wp2
            go_roundw
            case rel => exact ⟨k + 1, _, ve, s, by have := HKL.out; omega, by go_num, by rw [HUN.out]; exact HS7.out, by rw [HEN.out]; exact HSE.out⟩
            case measure => have := HKL.out; simp [intOf]; omega
        | true =>
          have HUN : Hid (refU P (L.take (k + 1)) = UK) := HUS.out
          have HEN : Hid (refE P (L.take (k + 1)) = refE P (L.take k) ++ [(x, ON)]) := HES.out
          clear HUS HES
          go_upto_region 10 with fail
          refine wp_region_held_drew (S := fun X => Below wq.heap.size wq X) (by kernel_rfl) ((Below.refl wq.heap.size wq).drew) (fun hSd => ?_)
          have HSP := Lib.hid (HSQ.out.below hSd)
          have HQP := Lib.hid (HQB.out.trans (hSd.mono HQB.out.size))
          have HSd := Lib.hid hSd
          generalize wq.drew = wp at *
          refine takeW (i := 0) (v := .pointer (some ⟨w.heap.size, 0, none⟩)) (some 41) rfl rfl (by kernel_rfl) (by kernel_rfl) (by kernel_rfl) (fun _ _ _ h => h) (Or.inl ⟨by rfl, ?_⟩) (by assumption) ?_
          · intro wz hSw; obtain ⟨y0, y1⟩ := HIC.out wz (HQB.out.trans (hSw.mono HQB.out.size)); go_simp
          try simp only [Act.put, List.setIfInBounds_toArray, List.set_cons_zero, List.set_cons_succ]
          refine takeW (i := 1) (v := .slice a1 P.length c1) (some 42) rfl rfl (by kernel_rfl) (by kernel_rfl) (by kernel_rfl) (fun _ _ _ h => h) (Or.inl ⟨by rfl, ?_⟩) (by assumption) ?_
          · intro wz hSw; obtain ⟨y0, y1⟩ := HIC.out wz (HQB.out.trans (hSw.mono HQB.out.size)); go_simp
          try simp only [Act.put, List.setIfInBounds_toArray, List.set_cons_zero, List.set_cons_succ]
          refine takeW (i := 2) (v := .slice (some ⟨lb, lo, none⟩) L.length lc) (some 43) rfl rfl (by kernel_rfl) (by kernel_rfl) (by kernel_rfl) (fun _ _ _ h => h) (Or.inl ⟨by rfl, ?_⟩) (by assumption) ?_
          · intro wz hSw; obtain ⟨y0, y1⟩ := HIC.out wz (HQB.out.trans (hSw.mono HQB.out.size)); go_simp
          try simp only [Act.put, List.setIfInBounds_toArray, List.set_cons_zero, List.set_cons_succ]
          refine takeW (i := 3) (v := .int .i64 k) (some 44) rfl rfl (by kernel_rfl) (by kernel_rfl) (by kernel_rfl) (fun _ _ _ h => h) (Or.inl ⟨by rfl, ?_⟩) (by assumption) ?_
          · intro wz hSw; obtain ⟨y0, y1⟩ := HIC.out wz (HQB.out.trans (hSw.mono HQB.out.size)); go_simp
          try simp only [Act.put, List.setIfInBounds_toArray, List.set_cons_zero, List.set_cons_succ]
          refine takeW (i := 4) (v := .pointer (some ⟨lb, lo + k, none⟩)) (some 45) rfl rfl (by kernel_rfl) (by kernel_rfl) (by kernel_rfl) (fun _ _ _ h => h) (Or.inl ⟨by rfl, ?_⟩) (by assumption) ?_
          · intro wz hSw; obtain ⟨y0, y1⟩ := HIC.out wz (HQB.out.trans (hSw.mono HQB.out.size)); go_simp
          try simp only [Act.put, List.setIfInBounds_toArray, List.set_cons_zero, List.set_cons_succ]
          refine takeW (i := 5) (v := .int .i64 x) (some 46) rfl rfl (by kernel_rfl) (by kernel_rfl) (by kernel_rfl) (fun _ _ _ h => h) (Or.inl ⟨by rfl, ?_⟩) (by assumption) ?_
          · intro wz hSw; obtain ⟨y0, y1⟩ := HIC.out wz (HQB.out.trans (hSw.mono HQB.out.size)); go_simp
          try simp only [Act.put, List.setIfInBounds_toArray, List.set_cons_zero, List.set_cons_succ]
          refine wpAnyH_ready (rs := [6]) (by kernel_rfl) (by simp) ?_
          refine AllReadyH.cons rfl (fun K hK => ?_) AllReadyH.nil
          go_simp
          go_wp2_with (go_at_call 38; refine (HON.out wp HSP.out.st.box.1).mono ?_; rintro e w5 ⟨u5, rfl, ho5, hb5⟩; obtain ⟨oa, oc, rfl⟩ := ho5.shapeA)
          refine hK.out _ _ (HSd.out.trans (hb5.mono HSd.out.size)) (fun hH5 => ?_)
          clear hK K
          refine takeW (i := 7) (v := .tuple #[.slice oa ON.length oc, .int .i64 0]) (some 40) rfl rfl (by kernel_rfl) (by kernel_rfl) (by kernel_rfl) (fun _ _ _ h => h) (Or.inl ⟨by rfl, ?_⟩) (by assumption) ?_
          · intro wz hSw; go_simp
          try simp only [Act.put, List.setIfInBounds_toArray, List.set_cons_zero, List.set_cons_succ]
          refine takeW (i := 8) (v := .slice oa ON.length oc) (some 48) rfl rfl (by kernel_rfl) (by kernel_rfl) (by kernel_rfl) (fun _ _ _ h => h) (Or.inl ⟨by rfl, ?_⟩) (by assumption) ?_
          · intro wz hSw; go_simp
          try simp only [Act.put, List.setIfInBounds_toArray, List.set_cons_zero, List.set_cons_succ]
          refine takeW (i := 9) (v := .int .i64 0) (some 49) rfl rfl (by kernel_rfl) (by kernel_rfl) (by kernel_rfl) (fun _ _ _ h => h) (Or.inl ⟨by rfl, ?_⟩) (by assumption) ?_
          · intro wz hSw; go_simp
          try simp only [Act.put, List.setIfInBounds_toArray, List.set_cons_zero, List.set_cons_succ]
          refine takeW (i := 10) (v := .slice oa ON.length oc) (some 10) rfl rfl (by kernel_rfl) (by kernel_rfl) (by kernel_rfl) (fun _ _ _ h => h) (Or.inl ⟨by rfl, ?_⟩) (by assumption) ?_
          · intro wz hSw; go_simp
          try simp only [Act.put, List.setIfInBounds_toArray, List.set_cons_zero, List.set_cons_succ]
          refine takeW (i := 11) (v := .int .i64 0) (some 11) rfl rfl (by kernel_rfl) (by kernel_rfl) (by kernel_rfl) (fun _ _ _ h => h) (Or.inl ⟨by rfl, ?_⟩) (by assumption) ?_
          · intro wz hSw; go_simp
          try simp only [Act.put, List.setIfInBounds_toArray, List.set_cons_zero, List.set_cons_succ]
          refine wpAnyH_done (by kernel_rfl) ?_ _
          obtain ⟨s0, s1⟩ := HIC.out w5 (HQP.out.trans (hb5.mono HQP.out.size))
          clear hSd hH5
          go_wp2_with fail
          obtain ⟨t0, t1⟩ : w5.cell? ⟨bx, 1, none⟩ = some ve ∧ w5.heap.size = w5.heap.size := ⟨(HSP.out.st.below hb5).box.cell rfl, rfl⟩
          have hs5 := (HSP.out.st.below hb5).box.1.size
          have ha6 : Below w5.heap.size w5 (w5.alloc (.cells #[.int .i64 x, .slice oa ON.length oc] 51)).drew := ((Below.refl w5.heap.size w5).alloc (Nat.le_refl _) _).drew
          have hb6 := hb5.trans (ha6.mono hb5.size)
          have HSB := Lib.hid (HSP.out.below hb6)
          have HO6 : Hid (Own (w5.alloc (.cells #[.int .i64 x, .slice oa ON.length oc] 51)).drew wp.heap.size (.slice oa ON.length oc) ON) := ho5.alloc _
          have hc6 : ∀ j u, (cellsD [(⟨x, oa, oc, ON⟩ : DepV)])[j]? = some u → (w5.alloc (.cells #[.int .i64 x, .slice oa ON.length oc] 51)).drew.cell? (Addr.add ⟨w5.heap.size, 0, none⟩ j) = some u := fun j u hj => cell_add (w := w5) (by simpa [cellsD, encD] using hj)
          have HC6 := Lib.hid hc6
          have HB6 := Lib.hid hb6
          have e1 := HSB.out.st.box.cell (i := 1) rfl
          have HSL : Hid (s.length + 1 ≤ 1000000) := by have := HUL.out.2; show _ ≤ _; omega
          have HSX := Lib.hid HSB.out.st.box.1.size
          have HVE : Hid (∃ a c, ve = .slice a s.length c) := HSB.out.st.rows.shape
          clear hb5 ho5 ha6 hb6 hc6 HON
          go_region_law (refine step_appD (some 59) rfl rfl (.tmp 51) (.tmp 58) rfl W.heap.size ve s ⟨x, oa, oc, ON⟩ w5.heap.size 1 rfl rfl HSB.out.st.rows.row HC6.out HSL.out HSX.out ?_; intro v8 w8 hrow8 hg8; obtain ⟨v8a, v8n, v8c, rfl⟩ := rows_shape hrow8; have hb8 := HSB.out.st.box.grown hg8 (fun g hg => (rowB_lt HSB.out.st.rows.row g hg).1) HSB.out.st.ne; have d8 := hb8.cell (i := 1) rfl; have g8 := hb8.free 1; have HS9 := Lib.hid (HSP.out.appE (x := ⟨x, oa, oc, ON⟩) HB6.out HO6.out hrow8 hg8); clear hrow8 hg8 hb8)
          all_goals
            go_wp2
            go_roundw
            case rel => exact ⟨k + 1, _, _, _, by have := HKL.out; omega, by go_num, by rw [HUN.out]; exact HS9.out, by rw [List.map_append, HSE.out, HEN.out]; rfl⟩
            case measure => have := HKL.out; simp [intOf]; omega
      · obtain rfl : k = L.length := by omega
        rw [List.take_length, HRU.out] at hst
        rw [List.take_length, HRE.out] at hse
        have HSE := Lib.hid hse
        have hul := dqU_sub P []
        simp only [List.length_nil, Nat.zero_add] at hul
        have hsl : s.length ≤ 1024 := by
          have h1 := congrArg List.length hse
          have h2 := HMP.out.2.2.2
          rw [List.length_map, (byVar_perm _).length_eq] at h1
          rw [exOf_len] at hul
          omega
        have hel : ∀ y ∈ s, y.l.length ≤ 1024 ∧ In64 y.l := fun y hy => by
          have h1 : depE y ∈ refE P L := by rw [HRE.out, ← hse]; exact List.mem_map.2 ⟨y, hy, rfl⟩
          unfold refE at h1
          obtain ⟨v, _, e⟩ := List.mem_map.1 h1
          have h2 := onL_ok HMY.out v
          have h3 : y.l = (onL P v).1 := (congrArg Prod.snd e).symm
          rw [h3]
          exact h2
        have hu64 : In64 (dqU [] P) := fun v hv => by
          rw [← HRU.out] at hv
          have := HMP.out.2.2.1 v (HLM.out v (List.mem_filter.1 hv).1)
          omega
        have HFIN := Lib.hid (rq_fin hst.st hsl hel (by have := HMP.out.2.2.2; omega) hu64 (w.heap.size + 1) (by have := HSZ.out; omega))
        obtain ⟨ua, un, uc, rfl⟩ := own_shape3 hst.st.univ
        obtain ⟨ea, ec, rfl⟩ := hst.st.rows.shape
        have z0 := hst.st.box.cell (i := 0) rfl
        have z1 := hst.st.box.cell (i := 1) rfl
        have z2 := hst.st.box.cell (i := 2) rfl
        have HBX := Lib.hid hst.st.box.1
        obtain ⟨e0, e1, e2, e3, e4, e5, e6, e7⟩ := HX.out wr hst.st.box.1
        clear hst hse hel hu64 hul hsl
        generalize s.length = sn at *
        go_wp2
        obtain ⟨g0, g1, g2⟩ := dqbf_set (w.heap.size + 1) wr _ _ _ (.slice ua un uc) (.slice ea sn ec) (.slice a3 C.length c3) e2 e3 e4
        have hfin2 := HFIN.out _ (kept_set3 (w.heap.size + 1) wr (.slice ua un uc) (.slice ea sn ec) (.slice a3 C.length c3))
        rw [HSE.out] at hfin2
        have h2 := HSZ.out
        refine ⟨rfl, .tuple #[.agg #[.slice ua un uc, .slice ea sn ec, .slice a3 C.length c3], .int .i64 0], by simp [results, Tryz.f9, go_sem, g0, g1, g2], .inl ⟨HO.out, _, _, rfl, hfin2.1, hfin2.2⟩, ?_⟩
        exact (((HB0.out.trans (HBX.out.mono (by omega))).setCell (by simp) _).setCell (by simp) _).setCell (by simp) _
end Go.Proofs.YtmiijgjpkkmoaaaGreat

/- For the reference's Linear: the state of its inner loops; what its blocks are like. -/
namespace Go.Proofs.YtmiijgjpkkmoaaaGreat
open Go.RowKit Go.Shelf Go.Lib
set_option linter.unusedVariables false
set_option linter.unusedSimpArgs false

theorem ref_may {U : List Int} {E : List (Int × List Int)} {C : List (List Int)} (h : mayDB U E C = true) (hall : cmpAll E) : mayP (refLin U E) = true := by
  obtain ⟨hok, _, _⟩ := mayD_ok.1 h
  obtain ⟨hU, hE, hv, hn⟩ := ok_rows hok
  have hlen : ∀ x ∈ E, x.2.length < U.length + 1 := fun x hx => by
    have := (partL_sub _ _ ((partL_iff _ _ hU).2 (hE x hx))).length_le
    omega
  have hp : (lenE E (U.length + 1)).Perm E := by
    have hne : E.Nodup := hv.imp (fun h e => by rw [e] at h; omega)
    rw [List.perm_ext_iff_of_nodup (key_nodup (lenE_key hv _)) hne]
    intro x
    rw [lenE_mem]
    exact ⟨fun h => h.1, fun h => ⟨h, hlen x h⟩⟩
  have hc := chain_bwd h hp (lenE_key hv _) hall
  obtain ⟨p, h1, h2, _⟩ := chain_fwd h hp hc
  have h3 := refLin_is h hp (lenE_key hv _) hc
  rw [h1] at h3
  have : p = refLin U E := congrArg Prod.fst h3
  rw [← this]
  exact mayQ_p h2
theorem ref_flat {U : List Int} {E : List (Int × List Int)} : flatB (refLin U E) = flatB ((refP E (U.length + 1)).1 ++ [(false, withoutI U (refP E (U.length + 1)).2)]) := by
  unfold refLin
  rw [flat_joinL]

def good (l : List Int) : Prop := ∀ v ∈ l, 1 ≤ v ∧ v ≤ 65536
theorem good.i64 {l : List Int} (h : good l) : In64 l := fun v hv => by have := h v hv; omega
theorem seeL_snoc (s : List Int × List Int) (l : List Int) (v : Int) : seeL s (l ++ [v]) = seeStep (seeL s l) v := by unfold seeL; rw [List.foldl_append]; rfl
theorem see_len : ∀ (l : List Int) (s : List Int × List Int), (seeL s l).1.length ≤ s.1.length + l.length ∧ (seeL s l).2.length ≤ s.2.length + l.length
  | [], s => ⟨Nat.le_refl _, Nat.le_refl _⟩
  | x :: l, s => by
    have h := see_len l (seeStep s x)
    have h2 : (seeStep s x).1.length ≤ s.1.length + 1 ∧ (seeStep s x).2.length ≤ s.2.length + 1 := by
      unfold seeStep
      split
      · omega
      · simp
    show (seeL (seeStep s x) l).1.length ≤ _ ∧ (seeL (seeStep s x) l).2.length ≤ _
    simp only [List.length_cons]
    omega
theorem see_good : ∀ (l : List Int) (s : List Int × List Int), good l → good s.1 → good s.2 → good (seeL s l).1 ∧ good (seeL s l).2
  | [], s, _, h1, h2 => ⟨h1, h2⟩
  | x :: l, s, hl, h1, h2 => by
    have hx := hl x List.mem_cons_self
    have ap : ∀ m : List Int, good m → good (m ++ [x]) := fun m hm v hv => by
      rcases List.mem_append.1 hv with hv | hv
      · exact hm v hv
      · rw [List.mem_singleton] at hv; rw [hv]; exact hx
    refine see_good l (seeStep s x) (fun v hv => hl v (List.mem_cons_of_mem _ hv)) ?_ ?_ <;> unfold seeStep <;> split
    · exact h1
    · exact ap _ h1
    · exact h2
    · exact ap _ h2
def rowsUp (n : Nat) (seen : List Int) (E : List (Int × List Int)) (i : Nat) : (List Int × List Int) × List Int := (E.take i).foldl (rowStep n) (([], seen), [])
theorem rowsUp_snoc (n : Nat) (seen : List Int) {E : List (Int × List Int)} {i : Nat} (h : i < E.length) : rowsUp n seen E (i + 1) = rowStep n (rowsUp n seen E i) (E.getD i dD) := by
  unfold rowsUp
  rw [take_two (d := dD) h, List.foldl_append]
  rfl
theorem rowsUp_all (n : Nat) (seen : List Int) (E : List (Int × List Int)) : rowsUp n seen E E.length = rowsOf n seen E := by unfold rowsUp rowsOf; rw [List.take_length]
/-- The rows of a valid Dqbf are short, and hold variables. -/
def rowsG (E : List (Int × List Int)) : Prop := ∀ x ∈ E, x.2.length ≤ 1024 ∧ good x.2 ∧ 1 ≤ x.1 ∧ x.1 ≤ 65536
theorem rowsUp_ok {n : Nat} {seen : List Int} {E : List (Int × List Int)} (hE : rowsG E) (hs : good seen) : ∀ i, i ≤ E.length →
    (rowsUp n seen E i).1.1.length ≤ i * 1024 ∧ (rowsUp n seen E i).1.2.length ≤ seen.length + i * 1024 ∧ (rowsUp n seen E i).2.length ≤ i ∧ good (rowsUp n seen E i).1.1 ∧ good (rowsUp n seen E i).1.2 ∧ good (rowsUp n seen E i).2
  | 0, _ => ⟨by simp [rowsUp], by simp [rowsUp], by simp [rowsUp], fun v hv => by simp [rowsUp] at hv, hs, fun v hv => by simp [rowsUp] at hv⟩
  | i + 1, hi => by
    obtain ⟨h1, h2, h3, h4, h5, h6⟩ := rowsUp_ok hE hs i (by omega)
    have hx := hE (E.getD i dD) (getD_mem' (by omega))
    rw [rowsUp_snoc n seen (by omega)]
    generalize E.getD i dD = x at *
    generalize rowsUp n seen E i = s at *
    unfold rowStep
    split
    · have k1 := see_len x.2 s.1
      have k2 := see_good x.2 s.1 hx.2.1 h4 h5
      refine ⟨by simp only; omega, by simp only; omega, by simp; omega, k2.1, k2.2, fun v hv => ?_⟩
      rcases List.mem_append.1 hv with hv | hv
      · exact h6 v hv
      · rw [List.mem_singleton] at hv; rw [hv]; exact hx.2.2
    · exact ⟨Nat.le_trans h1 (Nat.mul_le_mul_right _ (Nat.le_succ i)), Nat.le_trans h2 (Nat.add_le_add_left (Nat.mul_le_mul_right _ (Nat.le_succ i)) _), Nat.le_succ_of_le h3, h4, h5, h6⟩
theorem refP_ok {E : List (Int × List Int)} (hE : rowsG E) : ∀ n, (refP E n).2.length ≤ n * (E.length * 1024) ∧ good (refP E n).2 ∧ (refP E n).1.length = 2 * n
  | 0 => ⟨by simp [refP], fun v hv => by simp [refP] at hv, rfl⟩
  | n + 1 => by
    obtain ⟨h1, h2, h3⟩ := refP_ok hE n
    have h := rowsUp_ok (n := n) hE h2 E.length (Nat.le_refl _)
    rw [rowsUp_all] at h
    refine ⟨?_, h.2.2.2.2.1, ?_⟩
    · show (rowsOf n (refP E n).2 E).1.2.length ≤ _
      have e : (n + 1) * (E.length * 1024) = n * (E.length * 1024) + E.length * 1024 := by rw [Nat.add_mul, Nat.one_mul]
      omega
    · show ((refP E n).1 ++ _).length = _
      rw [List.length_append, h3]
      simp
      omega
theorem rowsG_of {U : List Int} {E : List (Int × List Int)} (h : okD U E) : rowsG E := by
  have h1 := rows_ok h
  obtain ⟨hU, hE, hv, hn⟩ := ok_rows h
  intro x hx
  refine ⟨(h1.rise x hx).2, fun v hv => hn.2.1 v (List.mem_append_left _ ((hE x hx).2 v hv)), h1.small x hx⟩

theorem Kept.ofBelow {S : Nat → Prop} {w w' : World} (h : Below w.heap.size w w') : Kept S w w' := ⟨h.os, h.tape, h.output, h.size, fun k hk _ => h.block k hk⟩
/-- The state of the inner loops: two boxes with their lists, and the list of what was seen. -/
structure LSt (B : Nat) (wz : World) (v0 : Value) (X : World) (uv ev sv : Value) (u e s : List Int) : Prop where
  kept : Kept (fun k => v0.ownBlock = some k) wz X
  b1 : X.heap[wz.heap.size]? = some (.cells #[.bool false, uv] 53 (0, 0))
  b2 : X.heap[wz.heap.size + 1]? = some (.cells #[.bool true, ev] 53 (0, 0))
  hu : Own X (wz.heap.size + 2) uv u
  he : Own X (wz.heap.size + 2) ev e
  hs : Own X B sv s
  nue : ∀ g, uv.ownBlock = some g → ev.ownBlock ≠ some g
  nus : ∀ g, uv.ownBlock = some g → sv.ownBlock ≠ some g
  nes : ∀ g, ev.ownBlock = some g → sv.ownBlock ≠ some g
  old : sv.ownBlock = v0.ownBlock ∨ ∀ g, sv.ownBlock = some g → wz.heap.size ≤ g
theorem LSt.start {B : Nat} {wz : World} {v0 : Value} {s : List Int} (h : Own wz B v0 s) : LSt B wz v0 ((wz.alloc (.cells #[.bool false, .slice none 0 0] 53)).alloc (.cells #[.bool true, .slice none 0 0] 53)) (.slice none 0 0) (.slice none 0 0) v0 [] [] s := by
  refine ⟨(Kept.alloc _ wz _).trans (Kept.alloc _ _ _), ?_, ?_, Own.nil _ _, Own.nil _ _, (h.alloc _).alloc _, (fun g hg => by cases hg), (fun g hg => by cases hg), (fun g hg => by cases hg), .inl rfl⟩
  · rw [(Below.alloc (Below.refl _ _) (Nat.le_refl _) _).block _ (by simp)]
    exact World.alloc_heap_new wz _
  · have := World.alloc_heap_new (wz.alloc (.cells #[.bool false, .slice none 0 0] 53)) (.cells #[.bool true, .slice none 0 0] 53)
    simpa using this
section
variable {B : Nat} {wz : World} {v0 : Value} {X Y : World} {uv ev sv v' : Value} {u e s l : List Int}
theorem LSt.l1 (h : LSt B wz v0 X uv ev sv u e s) : wz.heap.size + 1 < X.heap.size := (Array.getElem?_eq_some_iff.1 h.b2).1
theorem LSt.below (h : LSt B wz v0 X uv ev sv u e s) (hb : Below X.heap.size X Y) : LSt B wz v0 Y uv ev sv u e s := by
  have := h.l1
  exact ⟨h.kept.trans (Kept.ofBelow hb), (hb.block _ (by omega)).trans h.b1, (hb.block _ (by omega)).trans h.b2, h.hu.below hb (Nat.le_refl _), h.he.below hb (Nat.le_refl _), h.hs.below hb (Nat.le_refl _), h.nue, h.nus, h.nes, h.old⟩
theorem LSt.appU (h : LSt B wz v0 X uv ev sv u e s) (hY : Own Y (wz.heap.size + 2) v' l) (hg : X.grownBy Y uv.ownBlock) (hv : v'.ownBlock = uv.ownBlock ∨ v'.ownBlock = some X.heap.size) :
    LSt B wz v0 (Y.setCell ⟨wz.heap.size, 1, none⟩ v') v' ev sv l e s := by
  have hl := h.l1
  have hk := Kept.of_grown hg
  have kS := Kept.setCell Y ⟨wz.heap.size, 1, none⟩ v'
  have b1 : Y.heap[wz.heap.size]? = some (.cells #[.bool false, uv] 53 (0, 0)) := (hk.block _ (by omega) (own_type h.hu h.b1 (by decide))).trans h.b1
  have b2 : Y.heap[wz.heap.size + 1]? = some (.cells #[.bool true, ev] 53 (0, 0)) := (hk.block _ hl (own_type h.hu h.b2 (by decide))).trans h.b2
  have he : Own Y (wz.heap.size + 2) ev e := hk.row h.he (fun g hg2 e2 => h.nue g e2 hg2)
  have hs : Own Y B sv s := hk.row h.hs (fun g hg2 e2 => h.nus g e2 hg2)
  refine ⟨(h.kept.next hk (fun i hi e2 => by have := (h.hu.lt i e2).1; omega)).next kS (fun i hi e2 => by simp only at e2; omega), setCell_objE b1, ?_,
    kS.row hY (fun g hg2 e2 => own_type hY b1 (by decide) (by rw [hg2]; exact congrArg some e2)), kS.row he (fun g hg2 e2 => own_type he b1 (by decide) (by rw [hg2]; exact congrArg some e2)), kS.row hs (fun g hg2 e2 => own_type hs b1 (by decide) (by rw [hg2]; exact congrArg some e2)), ?_, ?_, h.nes, h.old⟩
  · rw [kS.block _ (by have := hk.size; omega) (by simp)]
    exact b2
  · intro g hg2 e2
    rcases hv with hv | hv
    · exact h.nue g (by rw [← hv]; exact hg2) e2
    · rw [hv] at hg2
      injection hg2 with hg2
      have := (h.he.lt g e2).2
      omega
  · intro g hg2 e2
    rcases hv with hv | hv
    · exact h.nus g (by rw [← hv]; exact hg2) e2
    · rw [hv] at hg2
      injection hg2 with hg2
      have := (h.hs.lt g e2).2
      omega
theorem LSt.appE (h : LSt B wz v0 X uv ev sv u e s) (hY : Own Y (wz.heap.size + 2) v' l) (hg : X.grownBy Y ev.ownBlock) (hv : v'.ownBlock = ev.ownBlock ∨ v'.ownBlock = some X.heap.size) :
    LSt B wz v0 (Y.setCell ⟨wz.heap.size + 1, 1, none⟩ v') uv v' sv u l s := by
  have hl := h.l1
  have hk := Kept.of_grown hg
  have kS := Kept.setCell Y ⟨wz.heap.size + 1, 1, none⟩ v'
  have b1 : Y.heap[wz.heap.size]? = some (.cells #[.bool false, uv] 53 (0, 0)) := (hk.block _ (by omega) (own_type h.he h.b1 (by decide))).trans h.b1
  have b2 : Y.heap[wz.heap.size + 1]? = some (.cells #[.bool true, ev] 53 (0, 0)) := (hk.block _ hl (own_type h.he h.b2 (by decide))).trans h.b2
  have hu : Own Y (wz.heap.size + 2) uv u := hk.row h.hu (fun g hg2 e2 => h.nue g hg2 e2)
  have hs : Own Y B sv s := hk.row h.hs (fun g hg2 e2 => h.nes g e2 hg2)
  refine ⟨(h.kept.next hk (fun i hi e2 => by have := (h.he.lt i e2).1; omega)).next kS (fun i hi e2 => by simp only at e2; omega), ?_, setCell_objE b2,
    kS.row hu (fun g hg2 e2 => own_type hu b2 (by decide) (by rw [hg2]; exact congrArg some e2)), kS.row hY (fun g hg2 e2 => own_type hY b2 (by decide) (by rw [hg2]; exact congrArg some e2)), kS.row hs (fun g hg2 e2 => own_type hs b2 (by decide) (by rw [hg2]; exact congrArg some e2)), ?_, h.nus, ?_, h.old⟩
  · rw [kS.block _ (by have := hk.size; omega) (by simp)]
    exact b1
  · intro g hg2 e2
    rcases hv with hv | hv
    · exact h.nue g hg2 (by rw [← hv]; exact e2)
    · rw [hv] at e2
      injection e2 with e2
      have := (h.hu.lt g hg2).2
      omega
  · intro g hg2 e2
    rcases hv with hv | hv
    · exact h.nes g (by rw [← hv]; exact hg2) e2
    · rw [hv] at hg2
      injection hg2 with hg2
      have := (h.hs.lt g e2).2
      omega
theorem LSt.appS (h : LSt B wz v0 X uv ev sv u e s) (hY : Own Y B v' l) (hg : X.grownBy Y sv.ownBlock) (hv : v'.ownBlock = sv.ownBlock ∨ v'.ownBlock = some X.heap.size) :
    LSt B wz v0 Y uv ev v' u e l := by
  have hl := h.l1
  have hk := Kept.of_grown hg
  refine ⟨h.kept.next hk (fun i hi e2 => ?_), (hk.block _ (by omega) (own_type h.hs h.b1 (by decide))).trans h.b1, (hk.block _ hl (own_type h.hs h.b2 (by decide))).trans h.b2,
    hk.row h.hu (fun g hg2 e2 => h.nus g hg2 e2), hk.row h.he (fun g hg2 e2 => h.nes g hg2 e2), hY, h.nue, ?_, ?_, ?_⟩
  · rcases h.old with h1 | h1
    · rw [← h1]; exact e2
    · have := h1 i e2; omega
  · intro g hg2 e2
    rcases hv with hv | hv
    · exact h.nus g hg2 (by rw [← hv]; exact e2)
    · rw [hv] at e2
      injection e2 with e2
      have := (h.hu.lt g hg2).2
      omega
  · intro g hg2 e2
    rcases hv with hv | hv
    · exact h.nes g hg2 (by rw [← hv]; exact e2)
    · rw [hv] at e2
      injection e2 with e2
      have := (h.he.lt g hg2).2
      omega
  · rcases hv with hv | hv
    · rw [hv]; exact h.old
    · right
      intro g hg2
      rw [hv] at hg2
      injection hg2 with hg2
      omega
end
/-- The rows of blocks outlive the inner loops. -/
theorem LSt.rows {W wz X : World} {v0 uv ev sv pv : Value} {u e s : List Int} {t : List Trp} (h : LSt W.heap.size wz v0 X uv ev sv u e s) {l0 : List Int} (hv0 : Own wz W.heap.size v0 l0) (hr : RowB W wz W.heap.size pv t) (hsep : ∀ x ∈ t, ∀ g, x.2.1.ownBlock = some g → v0.ownBlock ≠ some g) : RowB W X W.heap.size pv t :=
  ⟨hr.below.trans (h.kept.below hr.below.size (fun i hi e2 => by have := (hv0.lt i e2).1; omega)), hr.base, h.kept.row hr.row (fun g hg2 e2 => rowB_ne hr.row hv0 g e2 hg2), fun x hx => (hr.elems x hx).elim (fun k => .inl (h.kept.row k (fun g hg2 e2 => hsep x hx g hg2 e2))) .inr⟩
theorem LSt.sep {W wz X : World} {v0 uv ev sv pv : Value} {u e s : List Int} {t : List Trp} (h : LSt W.heap.size wz v0 X uv ev sv u e s) (hr : RowB W wz W.heap.size pv t) (hel : ∀ x ∈ t, ∀ g, x.2.1.ownBlock = some g → g < wz.heap.size) (hsep : ∀ x ∈ t, ∀ g, x.2.1.ownBlock = some g → v0.ownBlock ≠ some g) :
    ∀ x ∈ t ++ [(false, uv, u), (true, ev, e)], ∀ g, x.2.1.ownBlock = some g → sv.ownBlock ≠ some g := by
  intro x hx g hg e2
  rcases List.mem_append.1 hx with hx | hx
  · rcases h.old with h1 | h1
    · rw [h1] at e2; exact hsep x hx g hg e2
    · have h2 := h1 g e2
      have := hel x hx g hg
      omega
  · simp only [List.mem_cons, List.not_mem_nil, or_false] at hx
    rcases hx with rfl | rfl
    · exact h.nus g hg e2
    · exact h.nes g hg e2
theorem wpList_appBx {w : World} {ops : Array Oper} {rest : List Oper} {o : Oper} {a : Act} {Q : Exit → Act → World → Prop} (hgd : o.guard = none) (sp x : Operand)
    (ho : o.op = .call { callee := .builtin .append, args := #[sp, x], argTypes := #[22, 22] }) (B : Nat) (v : Value) (t s : List Trp) (g cap : Nat)
    (hs : a.eval sp = v) (hx : a.eval x = .slice (some ⟨g, 0, none⟩) s.length cap) (hrow : w.ownsRow B 53 2 v t.length (cellsT t)) (hc : ∀ j y, (cellsT s)[j]? = some y → w.cell? (Addr.add ⟨g, 0, none⟩ j) = some y) (h1 : ∀ u ∈ cellsT s, u.oneCell' = true) (hlen : t.length + s.length ≤ 1000000) (hB : B ≤ w.heap.size)
    (h : ∀ v' w', w'.ownsRow B 53 2 v' (t ++ s).length (cellsT (t ++ s)) → w.grownBy w' v.ownBlock → wpList Tryz.prog ops Q rest (a.put o.dst v') w') : wpList Tryz.prog ops Q (o :: rest) a w := by
  obtain ⟨i0, hi, hz0, hz1, hz2⟩ := info_parts info_blk
  obtain ⟨v', w', hr, h2, h3, h4, h5⟩ := run_append_own_at (P := Tryz.prog) w B 22 o.type 53 i0 (.agg #[.bool false, .slice none 0 0]) 2 32 Tryz.underlying22 hi hz0 hz1 hz2 rfl (by decide) v t.length _ hrow ⟨g, 0, none⟩ s.length cap (cellsT s) (cellsT_len s) hc h1 (by unfold maxLen; omega) (by omega) hB
  refine wpList_plain hgd fun K hK => ?_
  unfold Oper.wp execOp
  simp only [ho, resolve, invoke, builtin, Sem.run_bind, Sem.run_pure, Result.andThen_ok, List.map_toArray, List.map_cons, List.map_nil, hs, hx, hr]
  refine hK _ _ (h v' w' ?_ h3)
  rw [List.length_append, cellsT_app]
  exact h2
end Go.Proofs.YtmiijgjpkkmoaaaGreat
