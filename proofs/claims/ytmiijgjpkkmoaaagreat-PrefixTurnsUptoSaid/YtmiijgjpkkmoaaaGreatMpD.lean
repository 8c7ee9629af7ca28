/- Joined texts: PxRPart, PxPart, PxQRows, PxRRise, PxRAll, PxFrom, PxAgree. -/
import Derived.Test.YtmiijgjpkkmoaaaGreatMpC
import Derived.Test.YtmiijgjpkkmoaaaGreatMpB
import Derived.Test.YtmiijgjpkkmoaaaGreatMgR
import Derived.Test.YtmiijgjpkkmoaaaGreatMgB
import Derived.Test.YtmiijgjpkkmoaaaGreatMgA
/- The reference's Part and within. -/
namespace Go.Proofs.YtmiijgjpkkmoaaaGreat
open Go.RowKit
set_option linter.unusedVariables false
set_option linter.unusedSimpArgs false

def partB (a b : List Int) : Bool := decide (∀ x ∈ a, memB b x = true)

def withinB (f : List (List Int)) (vars : List Int) : Bool := decide (∀ c ∈ f, ∀ x ∈ c, memB vars (absOf x) = true)

theorem ints_take_succ {l : List Int} {k : Nat} (h : k < l.length) : l.take (k + 1) = l.take k ++ [l.getD k 0] := by
  rw [List.take_add_one, List.getElem?_eq_getElem h, List.getD_eq_getElem?_getD, List.getElem?_eq_getElem h]; rfl

theorem ints_getD_mem {l : List Int} {k : Nat} (h : k < l.length) : l.getD k 0 ∈ l := by
  rw [List.getD_eq_getElem?_getD, List.getElem?_eq_getElem h]; exact List.getElem_mem h

set_option maxHeartbeats 800000 in
theorem rpart_any (v u : Value) (l m : List Int) (w : World) (H : IsInts w v l) (HM : IsInts w u m) :
    Calls Tryz.prog 19 #[v, u] w fun e w' => e = .returned (.bool (partB l m)) ∧ w = w' := by
  have HB := Lib.hid (fun x h1 h2 => has3_any u m x w HM h1 h2)
  obtain ⟨um, cm, rfl⟩ := HM.shape
  obtain ⟨a, cap, rfl, hcap, _, hl, h64, b, off, ha, hc⟩ := H
  have HC := Lib.hid hc
  have HA := Lib.hid ha
  have H64 := Lib.hid h64
  clear hc ha h64 HM
  go_enter Tryz.func19, Tryz.ntmps19
  go_wp2
  go_loop [5] (fun i => ∃ k : Nat, k ≤ l.length ∧ i = .int .i64 k ∧ ∀ x ∈ l.take k, memB m x = true) (fun i => l.length - (intOf i).toNat)
  case atStart => exact ⟨0, Nat.zero_le _, rfl, by simp⟩
  case round =>
    obtain ⟨k, hk, rfl, hn⟩ := hrel
    have HN := Lib.hid hn
    clear hn
    by_cases hlt : k < l.length
    · obtain ⟨rfl, hb⟩ := HA.out (by intro h; simp [h] at hlt)
      have hy := HC.out k hlt
      have HTS := Lib.hid (ints_take_succ hlt)
      have HME := Lib.hid (ints_getD_mem hlt)
      have hr := H64.out _ HME.out
      have HCX := Lib.hid (HB.out (l.getD k 0) hr.1 hr.2)
      have hi0 : (0 : Int) ≤ (k : Int) := by omega
      have hi1 : (k : Int) < (l.length : Int) := by omega
      generalize l.getD k 0 = x at *
      cases hm : memB m x with
      | false =>
        have HF : Hid (partB l m = false) := by
          show _ = _; unfold partB; rw [decide_eq_false_iff_not]
          intro h
          rw [h x HME.out] at hm
          cases hm
        rw [hm] at HCX
        clear hm hr
        go_wp2_with (go_at_call 45; refine HCX.out.mono ?_; rintro e w1 ⟨rfl, rfl⟩)
        go_ret
        exact ⟨ret_bool HF.out.symm, rfl⟩
      | true =>
        have HAX : Hid (∀ y ∈ l.take (k + 1), memB m y = true) := by
          show ∀ y ∈ l.take (k + 1), memB m y = true
          rw [HTS.out]
          intro y hy
          rcases List.mem_append.1 hy with hy | hy
          · exact HN.out y hy
          · rw [List.mem_singleton] at hy; rw [hy]; exact hm
        rw [hm] at HCX
        clear hm hr
        go_wp2_with (go_at_call 45; refine HCX.out.mono ?_; rintro e w1 ⟨rfl, rfl⟩)
        go_round
        case rel => exact ⟨k + 1, by omega, by go_num, HAX.out⟩
        case measure => simp [intOf]; omega
    · have HF : Hid (partB l m = true) := by
        show _ = _; unfold partB
        have h2 := HN.out
        rw [List.take_of_length_le (by omega)] at h2
        rw [decide_eq_true_eq]; exact h2
      go_wp2
      go_ret
      exact ⟨ret_bool HF.out.symm, rfl⟩

set_option maxHeartbeats 1600000 in
set_option maxRecDepth 100000 in
theorem rwithin3_any (v u : Value) (f : List (List Int)) (m : List Int) (w : World) (H : IsRows w v f) (HM : IsInts w u m)
    (hlo : ∀ c ∈ f, ∀ x ∈ c, -9223372036854775808 < x) (hhi : ∀ c ∈ f, ∀ x ∈ c, x ≤ 9223372036854775807) :
    Calls Tryz.prog 52 #[v, u] w fun e w' => e = .returned (.bool (withinB f m)) ∧ w = w' := by
  have HB := Lib.hid (fun x h1 h2 => has3_any u m x w HM h1 h2)
  obtain ⟨um, cm, rfl⟩ := HM.shape
  obtain ⟨a, cap, rfl, hl⟩ := H.shape
  have HH := Lib.hid H
  have HLO := Lib.hid hlo
  have HHI := Lib.hid hhi
  clear H HM hlo hhi
  go_enter Tryz.func52, Tryz.ntmps52
  go_wp2
  go_loop [5] (fun i => ∃ k : Nat, k ≤ f.length ∧ i = .int .i64 k ∧ ∀ c ∈ f.take k, ∀ x ∈ c, memB m (absOf x) = true) (fun i => f.length - (intOf i).toNat)
  case atStart => exact ⟨0, Nat.zero_le _, rfl, by simp⟩
  case round =>
    obtain ⟨k, hk, rfl, hn⟩ := hrel
    have HN := Lib.hid hn
    clear hn
    by_cases hlt : k < f.length
    · obtain ⟨b, off, u1, rfl, hb, hcu, HU0⟩ := HH.out.at hlt
      have HTS := Lib.hid (rows_take_succ hlt)
      have HMEM := Lib.hid (rows_getD_mem hlt)
      have HLY := Lib.hid (HLO.out _ HMEM.out)
      have HHY := Lib.hid (HHI.out _ HMEM.out)
      generalize f.getD k [] = y at *
      obtain ⟨ua, uc, rfl, hcap, _, hyl, h64, b1, off1, ha, hc⟩ := HU0
      have HC := Lib.hid hc
      have HA := Lib.hid ha
      clear hc ha h64
      have hi0 : (0 : Int) ≤ (k : Int) := by omega
      have hi1 : (k : Int) < (f.length : Int) := by omega
      go_wp2
      go_loop [6] (fun i => ∃ j : Nat, j ≤ y.length ∧ i = .int .i64 j ∧ ∀ x ∈ y.take j, memB m (absOf x) = true) (fun i => y.length - (intOf i).toNat)
      case atStart => exact ⟨0, Nat.zero_le _, rfl, by simp⟩
      case round =>
        obtain ⟨j, hj, rfl, hnj⟩ := hrel
        have HNJ := Lib.hid hnj
        clear hnj
        by_cases hltj : j < y.length
        · obtain ⟨rfl, hb1⟩ := HA.out (by intro h; simp [h] at hltj)
          have hy := HC.out j hltj
          have HTJ := Lib.hid (ints_take_succ hltj)
          have HME := Lib.hid (ints_getD_mem hltj)
          have hj0 : (0 : Int) ≤ (j : Int) := by omega
          have hj1 : (j : Int) < (y.length : Int) := by omega
          have hx1 := HLY.out _ HME.out
          have hx2 := HHY.out _ HME.out
          have HAB := Lib.hid (fun W => abs3_any (y.getD j 0) W hx1 hx2)
          have ha1 : -9223372036854775808 ≤ absOf (y.getD j 0) := by unfold absOf; split <;> omega
          have ha2 : absOf (y.getD j 0) ≤ 9223372036854775807 := by unfold absOf; split <;> omega
          have HCX := Lib.hid (HB.out _ ha1 ha2)
          have HQ : Hid (memB m (absOf (y.getD j 0)) = true → ∀ x ∈ y.take (j + 1), memB m (absOf x) = true) := by
            intro hm x hx
            rw [HTJ.out] at hx
            rcases List.mem_append.1 hx with hx | hx
            · exact HNJ.out x hx
            · rw [List.mem_singleton] at hx; rw [hx]; exact hm
          have HQ2 : Hid (memB m (absOf (y.getD j 0)) = false → withinB f m = false) := by
            intro hm
            unfold withinB; rw [decide_eq_false_iff_not]
            intro h
            rw [h _ HMEM.out _ HME.out] at hm
            cases hm
          generalize absOf (y.getD j 0) = q at *
          generalize y.getD j 0 = x at *
          clear ha1 ha2 hx1 hx2
          cases hm : memB m q with
          | false =>
            have HF := Lib.hid (HQ2.out hm)
            rw [hm] at HCX
            clear hm
            go_wp2_with (first
              | (go_at_call 78; refine (HAB.out _).mono ?_; rintro e w1 ⟨rfl, rfl⟩)
              | (go_at_call 45; refine HCX.out.mono ?_; rintro e w1 ⟨rfl, rfl⟩))
            go_ret
            exact ⟨ret_bool HF.out.symm, rfl⟩
          | true =>
            have HAX := Lib.hid (HQ.out hm)
            rw [hm] at HCX
            clear hm
            go_wp2_with (first
              | (go_at_call 78; refine (HAB.out _).mono ?_; rintro e w1 ⟨rfl, rfl⟩)
              | (go_at_call 45; refine HCX.out.mono ?_; rintro e w1 ⟨rfl, rfl⟩))
            go_round
            case rel => exact ⟨j + 1, by omega, by go_num, HAX.out⟩
            case measure => simp [intOf]; omega
        · have HAX : Hid (∀ c ∈ f.take (k + 1), ∀ x ∈ c, memB m (absOf x) = true) := by
            show ∀ c ∈ f.take (k + 1), ∀ x ∈ c, memB m (absOf x) = true
            have h2 := HNJ.out
            rw [List.take_of_length_le (by omega)] at h2
            rw [HTS.out]
            intro c hc
            rcases List.mem_append.1 hc with hc | hc
            · exact HN.out c hc
            · rw [List.mem_singleton] at hc; rw [hc]; exact h2
          go_wp2
          go_round
          case rel => exact ⟨k + 1, by omega, by go_num, HAX.out⟩
          case measure => simp [intOf]; omega
    · have HF : Hid (withinB f m = true) := by
        show _ = _; unfold withinB
        have h2 := HN.out
        rw [List.take_of_length_le (by omega)] at h2
        rw [decide_eq_true_eq]; exact h2
      go_wp2
      go_ret
      exact ⟨ret_bool HF.out.symm, rfl⟩

end Go.Proofs.YtmiijgjpkkmoaaaGreat

/- prefix.isPart. -/
namespace Go.Proofs.YtmiijgjpkkmoaaaGreat
open Go.RowKit
set_option linter.unusedVariables false
set_option linter.unusedSimpArgs false

def partL : List Int → List Int → Bool
  | [], _ => true
  | x :: r, b => match b.dropWhile (fun y => decide (y < x)) with
    | [] => false
    | y :: s => decide (y = x) && partL r s

theorem partL_nil {x : Int} {r : List Int} : partL (x :: r) [] = false := by simp [partL]
theorem partL_lt {x y : Int} {r s : List Int} (h : y < x) : partL (x :: r) (y :: s) = partL (x :: r) s := by
  simp [partL, List.dropWhile_cons, h]
theorem partL_eq {x : Int} {r s : List Int} : partL (x :: r) (x :: s) = partL r s := by
  simp [partL, List.dropWhile_cons]
theorem partL_ne {x y : Int} {r s : List Int} (h : ¬ y < x) (h2 : y ≠ x) : partL (x :: r) (y :: s) = false := by
  simp [partL, List.dropWhile_cons, h, h2]

/-- Where the second list ascends: the first one ascends and is part of it. -/
theorem partL_iff : ∀ (l m : List Int), m.Pairwise (· < ·) → (partL l m = true ↔ l.Pairwise (· < ·) ∧ ∀ x ∈ l, x ∈ m)
  | [], m, _ => by simp [partL]
  | x :: r, [], _ => by
    rw [partL_nil]
    simp only [Bool.false_eq_true, false_iff]
    rintro ⟨_, h⟩
    cases h x (by simp)
  | x :: r, y :: s, hm => by
    rw [List.pairwise_cons] at hm
    by_cases h : y < x
    · rw [partL_lt h, partL_iff (x :: r) s hm.2]
      constructor
      · rintro ⟨h1, h2⟩; exact ⟨h1, fun z hz => List.mem_cons_of_mem _ (h2 z hz)⟩
      · rintro ⟨h1, h2⟩
        refine ⟨h1, fun z hz => ?_⟩
        rcases List.mem_cons.1 (h2 z hz) with e | e
        · exfalso
          rcases List.mem_cons.1 hz with e2 | e2
          · omega
          · have := (List.pairwise_cons.1 h1).1 z e2; omega
        · exact e
    · by_cases h2 : y = x
      · subst h2
        rw [partL_eq, partL_iff r s hm.2, List.pairwise_cons]
        constructor
        · rintro ⟨h1, h3⟩
          refine ⟨⟨fun z hz => hm.1 z (h3 z hz), h1⟩, fun z hz => ?_⟩
          rcases List.mem_cons.1 hz with e | e
          · rw [e]; simp
          · exact List.mem_cons_of_mem _ (h3 z e)
        · rintro ⟨⟨h1, h3⟩, h4⟩
          refine ⟨h3, fun z hz => ?_⟩
          have := h1 z hz
          rcases List.mem_cons.1 (h4 z (List.mem_cons_of_mem _ hz)) with e | e
          · omega
          · exact e
      · rw [partL_ne h h2]
        simp only [Bool.false_eq_true, false_iff]
        rintro ⟨_, h4⟩
        rcases List.mem_cons.1 (h4 x (by simp)) with e | e
        · exact h2 e.symm
        · have := hm.1 x e; omega

theorem partL_drop {l m : List Int} {k : Nat} (h : k < l.length) : l.drop k = l.getD k 0 :: l.drop (k + 1) := by
  rw [List.drop_eq_getElem_cons h, List.getD_eq_getElem?_getD, List.getElem?_eq_getElem h]; rfl

set_option maxHeartbeats 1600000 in
set_option maxRecDepth 100000 in
theorem ispart_any (v u : Value) (l m : List Int) (w : World) (H : IsInts w v l) (HM : IsInts w u m) :
    Calls Tryz.prog 43 #[v, u] w fun e w' => e = .returned (.bool (partL l m)) ∧ w = w' := by
  have HM0 := HM
  obtain ⟨um, cm, rfl⟩ := HM.shape
  obtain ⟨a, cap, rfl, hcap, _, hl, h64, b, off, ha, hc⟩ := H
  have HC := Lib.hid hc
  have HA := Lib.hid ha
  have H64 := Lib.hid h64
  clear hc ha h64 HM
  go_enter Tryz.func43, Tryz.ntmps43
  go_wp2
  go_loop [1, 9] (fun vb i => ∃ (k : Nat) (B : List Int), k ≤ l.length ∧ i = .int .i64 k ∧ IsInts w vb B ∧ partL l m = partL (l.drop k) B) (fun _ i => l.length - (intOf i).toNat)
  case atStart => exact ⟨0, m, Nat.zero_le _, rfl, HM0, by simp⟩
  case round =>
    obtain ⟨k, B, hk, rfl, HB, hn⟩ := hrel
    have HN := Lib.hid hn
    clear hn
    obtain ⟨bv, bc, rfl⟩ := HB.shape
    have HBH := Lib.hid HB
    clear HB
    by_cases hlt : k < l.length
    · obtain ⟨rfl, hb⟩ := HA.out (by intro h; simp [h] at hlt)
      have hy := HC.out k hlt
      have HD := Lib.hid (partL_drop (m := m) hlt)
      have hi0 : (0 : Int) ≤ (k : Int) := by omega
      have hi1 : (k : Int) < (l.length : Int) := by omega
      have hr := H64.out _ (ints_getD_mem hlt)
      generalize l.getD k 0 = x at *
      obtain ⟨r, HR⟩ : ∃ r, Hid (l.drop (k + 1) = r) := ⟨_, rfl⟩
      have HN2 : Hid (partL l m = partL (x :: r) B) := by show _ = _; rw [HN.out, HD.out, HR.out]
      go_wp2
      go_loop [1] (fun vb => ∃ B : List Int, IsInts w vb B ∧ partL l m = partL (x :: r) B) (fun vb => lenOf vb)
      case atStart => exact ⟨B, HBH.out, HN2.out⟩
      case round =>
        obtain ⟨B2, HB2, hn2⟩ := hrel
        have HN3 := Lib.hid hn2
        clear hn2
        obtain ⟨bv2, bc2, rfl⟩ := HB2.shape
        cases B2 with
        | nil =>
          have HF : Hid (partL l m = false) := HN3.out.trans partL_nil
          go_wp2
          go_ret
          exact ⟨ret_bool HF.out.symm, rfl⟩
        | cons y s =>
          obtain ⟨bb, ob, cb', eb, hcb, hcy, hy1, hy2⟩ := HB2.head
          injection eb with eb1 eb2 eb3
          subst eb1; subst eb3
          have HTB : IsInts w _ s := IsInts.tail HB2
          have hcb1 : (1 : Int) ≤ (bc2 : Int) := by omega
          by_cases h1 : y < x
          · have HNY : Hid (partL l m = partL (x :: r) s) := HN3.out.trans (partL_lt h1)
            go_wp2
            go_round
            case rel => exact ⟨s, HTB, HNY.out⟩
            case measure => simp [lenOf]
          · have h1' : decide (y < x) = false := by simpa using h1
            by_cases h2 : y = x
            · subst h2
              have HNY : Hid (partL l m = partL r s) := HN3.out.trans partL_eq
              have hbb : (y != y) = false := by simp
              go_wp2
              go_round
              case rel => exact ⟨k + 1, s, by omega, by go_num, HTB, by rw [HR.out]; exact HNY.out⟩
              case measure => simp [intOf]; omega
            · have hbb : (y != x) = true := by simpa using h2
              have HF : Hid (partL l m = false) := HN3.out.trans (partL_ne h1 h2)
              go_wp2
              go_ret
              exact ⟨ret_bool HF.out.symm, rfl⟩
    · have HF : Hid (partL l m = true) := by
        show _ = _
        rw [HN.out, List.drop_eq_nil_of_le (by omega)]
        rfl
      go_wp2
      go_ret
      exact ⟨ret_bool HF.out.symm, rfl⟩

end Go.Proofs.YtmiijgjpkkmoaaaGreat

/- prefix.quantifiedByRows. -/
namespace Go.Proofs.YtmiijgjpkkmoaaaGreat
open Go.RowKit
set_option linter.unusedVariables false
set_option linter.unusedSimpArgs false

abbrev dD : Int × List Int := (0, [])
/-- The number before place j of a list, 0 before the first. -/
def prevOf (l : List Int) (j : Nat) : Int := if j = 0 then 0 else l.getD (j - 1) 0
def riseAt (l : List Int) (j : Nat) : Prop := prevOf l j < l.getD j 0
def exOf (E : List (Int × List Int)) : List Int := E.map (fun x => x.1)
def okD (U : List Int) (E : List (Int × List Int)) : Prop :=
  (∀ j, j < U.length → riseAt U j) ∧ (∀ j, j < E.length → riseAt (exOf E) j ∧ partL (E.getD j dD).2 U = true) ∧ numsOk (U ++ exOf E)

theorem prevOf_succ {l : List Int} {k : Nat} : prevOf l (k + 1) = l.getD k 0 := by unfold prevOf; rw [if_neg (by omega), Nat.add_sub_cancel]
theorem exOf_len {E : List (Int × List Int)} : (exOf E).length = E.length := by unfold exOf; simp
theorem exOf_getD {E : List (Int × List Int)} {k : Nat} (h : k < E.length) : (exOf E).getD k 0 = (E.getD k dD).1 := by
  unfold exOf
  simp [List.getD, h]
theorem okD_num1 {U : List Int} {E : List (Int × List Int)} {k : Nat} (h : ¬ numsOk (U.take k)) : ¬ okD U E := fun ⟨_, _, h3⟩ =>
  h (numsOk_prefix ((List.take_prefix k U).trans (List.prefix_append _ _)) h3)
theorem okD_num2 {U : List Int} {E : List (Int × List Int)} {k : Nat} (h : ¬ numsOk (U ++ (exOf E).take k)) : ¬ okD U E := fun ⟨_, _, h3⟩ =>
  h (numsOk_prefix ((List.prefix_append_right_inj _).2 (List.take_prefix k (exOf E))) h3)

def RowsPostQ (w : World) (U : List Int) (E : List (Int × List Int)) (e : Ending) (w' : World) : Prop :=
  Below w.heap.size w w' ∧ ((okD U E ∧ e = .returned (.tuple #[.map (some (w.heap.size + 1)), .bool true]) ∧ SetI w' (w.heap.size + 1) (U ++ exOf E)) ∨ (¬ okD U E ∧ e = .returned (.tuple #[.map none, .bool false])))

set_option maxHeartbeats 3200000 in
set_option maxRecDepth 100000 in
theorem qrows_any (vu ve vc : Value) (U : List Int) (E : List (Int × List Int)) (C : List (List Int)) (w : World)
    (HU : IsInts w vu U) (HE : IsDeps w ve E) (HC : IsRows w vc C) (h64e : In64 (exOf E)) :
    Calls Tryz.prog 73 #[.agg #[vu, ve, vc]] w (RowsPostQ w U E) := by
  have HUU := Lib.hid HU
  have HHE := Lib.hid HE
  have H64E := Lib.hid h64e
  obtain ⟨a2, c2, rfl, hl⟩ := HE.shape
  obtain ⟨a3, c3, rfl, _⟩ := HC.shape
  obtain ⟨a1, c1, rfl, hcap, _, hlu, h64, bu, ou, hau, hcu⟩ := HU
  have HCU := Lib.hid hcu
  have HAU := Lib.hid hau
  have H64 := Lib.hid h64
  have D0 : Hid ((w.alloc (.cells #[.slice a1 U.length c1, .slice a2 E.length c2, .slice a3 C.length c3] 29)).cell? ⟨w.heap.size, 0, none⟩ = some (.slice a1 U.length c1)) := cell_fresh rfl
  have D1 : Hid ((w.alloc (.cells #[.slice a1 U.length c1, .slice a2 E.length c2, .slice a3 C.length c3] 29)).cell? ⟨w.heap.size, 1, none⟩ = some (.slice a2 E.length c2)) := cell_fresh rfl
  have hb00 : Below w.heap.size w (w.alloc (.cells #[.slice a1 U.length c1, .slice a2 E.length c2, .slice a3 C.length c3] 29)) := (Below.refl w.heap.size w).alloc (Nat.le_refl _) _
  have hz00 : (w.alloc (.cells #[.slice a1 U.length c1, .slice a2 E.length c2, .slice a3 C.length c3] 29)).heap.size = w.heap.size + 1 := by simp
  have HB00 := Lib.hid hb00
  have HZ00 := Lib.hid hz00
  have hx0 := cell_old (o := .map #[] 0) D0.out
  have hmm := @run_makeMap Tryz.prog
  clear HC HE hcu hau h64 hb00 hz00 h64e
  go_enter Tryz.func73, Tryz.ntmps73
  go_wp2
  clear hx0
  generalize (w.alloc (.cells #[.slice a1 U.length c1, .slice a2 E.length c2, .slice a3 C.length c3] 29)) = w0 at *
  have HB0 : Hid (Below (w.heap.size + 1) w0 (w0.alloc (.map #[] 0))) := (Below.refl _ w0).alloc (by rw [HZ00.out]; exact Nat.le_refl _) _
  have HS0 : Hid (SetI (w0.alloc (.map #[] 0)) (w.heap.size + 1) []) := by have := SetI.made w0; rw [HZ00.out] at this; exact this
  go_loopw [5, 15] (fun pv i wr => ∃ k : Nat, k ≤ U.length ∧ i = .int .i64 k ∧ pv = .int .i64 (prevOf U k) ∧ Below (w.heap.size + 1) w0 wr ∧ SetI wr (w.heap.size + 1) (U.take k) ∧ numsOk (U.take k) ∧ ∀ j, j < k → riseAt U j) (fun _ i _ => U.length - (intOf i).toNat)
  case atStart => exact ⟨0, Nat.zero_le _, rfl, rfl, HB0.out, by simpa using HS0.out, by simpa using nums_nil, fun j h => by omega⟩
  case round =>
    obtain ⟨k, hk, rfl, rfl, hbel, hset, hnums, hri⟩ := hrel
    have hsz := hbel.size
    have hszt : w.heap.size + 1 ≤ wr.heap.size := by have := HZ00.out; omega
    have HS := Lib.hid hset
    have HN := Lib.hid hnums
    have HR := Lib.hid hri
    have HB := Lib.hid hbel
    have HTOT : Hid (Below w.heap.size w wr) := HB00.out.trans (hbel.mono (by omega))
    clear hri
    by_cases hlt : k < U.length
    · obtain ⟨rfl, hb⟩ := HAU.out (by intro h; simp [h] at hlt)
      have hcv := (HTOT.out.cell (p := ⟨bu, ou + k, none⟩) hb).trans (HCU.out k hlt)
      have hv64 := H64.out.at k hlt
      have hv1 := hv64.1
      have hv2 := hv64.2
      have HTK := Lib.hid (ints_take_succ hlt)
      have hsl := hnums.2.2
      have HRA : Hid (riseAt U k ↔ prevOf U k < U.getD k 0) := Iff.rfl
      have HPS : Hid (prevOf U (k + 1) = U.getD k 0) := prevOf_succ
      have HNB : Hid (¬ riseAt U k → ¬ okD U E) := fun h h2 => h (h2.1 k hlt)
      have HNB2 : Hid (¬ numsOk (U.take k ++ [U.getD k 0]) → ¬ okD U E) := fun h => okD_num1 (k := k + 1) (by rw [HTK.out]; exact h)
      generalize U.getD k 0 = v at *
      generalize prevOf U k = pv at *
      have hi0 : (0 : Int) ≤ (k : Int) := by omega
      have hi1 : (k : Int) < (U.length : Int) := by omega
      by_cases g1 : v ≤ pv
      · have HM := Lib.hid (HNB.out (fun h => by have := HRA.out.1 h; omega))
        clear hset hnums hbel hv64
        go_wp2
        go_ret2
        exact ⟨HTOT.out, .inr ⟨HM.out, rfl⟩⟩
      · have HRK := Lib.hid (HRA.out.2 (by omega))
        have g1' : decide (v ≤ pv) = false := by simpa using g1
        cases hE : entB (U.take k) v with
        | false =>
          have HEN := Lib.hid (enter_no (w.heap.size + 1) _ v wr hset (by omega) hv1 hv2 hE)
          have HM := Lib.hid (HNB2.out (nums_noent hE))
          clear hset hnums hE hbel hv64
          go_wp2_with (go_at_call 62; refine HEN.out.mono ?_; rintro e w1 ⟨rfl, rfl⟩)
          go_ret2
          exact ⟨HTOT.out, .inr ⟨HM.out, rfl⟩⟩
        | true =>
          have HEN := Lib.hid (enter_yes (w.heap.size + 1) _ v wr hset (by omega) hv1 hv2 hE)
          by_cases hbig : (U.take k).length = 1024
          · have HM := Lib.hid (HNB2.out (nums_long (by rw [List.length_append, hbig]; simp)))
            have hlx : ((U.take k ++ [v]).length : Int) = 1025 := by rw [List.length_append, hbig]; simp
            clear hset hnums hE hbel hv64 hbig
            go_wp2_with (go_at_call 62; refine HEN.out.mono ?_; rintro e w1 ⟨rfl, hs1, hk1⟩; have hln := hs1.len 3; rw [hlx] at hln)
            go_ret2
            exact ⟨HTOT.out.trans (hk1.belowB (by omega) (by omega)), .inr ⟨HM.out, rfl⟩⟩
          · have HNX := Lib.hid (nums_ent hnums hE (by omega))
            obtain ⟨n1, hn1, hn2⟩ : ∃ n1 : Nat, (U.take k ++ [v]).length = n1 ∧ n1 ≤ 1024 := ⟨_, rfl, by rw [List.length_append]; simp only [List.length_singleton]; omega⟩
            have hlx : ((U.take k ++ [v]).length : Int) = (n1 : Int) := by rw [hn1]
            have hn3 : (n1 : Int) ≤ 1024 := by omega
            clear hset hnums hE hbel hv64 hbig
            go_wp2_with (go_at_call 62; refine HEN.out.mono ?_; rintro e w1 ⟨rfl, hs1, hk1⟩; have hln := hs1.len 3; rw [hlx] at hln)
            go_roundw
            case rel => exact ⟨k + 1, by omega, by go_num, by rw [HPS.out], HB.out.trans (hk1.belowB (Nat.le_refl _) (by omega)), by rw [HTK.out]; exact hs1, by rw [HTK.out]; exact HNX.out, fun j hj => by
              by_cases e : j = k
              · subst e; exact HRK.out
              · exact HR.out j (by omega)⟩
            case measure => simp [intOf]; omega
    · have hke : k = U.length := by omega
      subst hke
      rw [List.take_length] at hset hnums
      have HST := Lib.hid hset
      have HNU := Lib.hid hnums
      have hd1 := (hbel.cell (p := ⟨w.heap.size, 1, none⟩) (by simp)).trans D1.out
      have HBM := Lib.hid hbel
      clear hset hnums hbel HS HN
      have HRU : Hid (∀ j, j < U.length → riseAt U j) := HR.out
      clear HR HB hszt hsz hlt hk HTOT
      generalize wr = wm at *
      go_wp2
      go_loopw [5, 38] (fun pv i wr => ∃ k : Nat, k ≤ E.length ∧ i = .int .i64 k ∧ pv = .int .i64 (prevOf (exOf E) k) ∧ Below (w.heap.size + 1) w0 wr ∧ SetI wr (w.heap.size + 1) (U ++ (exOf E).take k) ∧ numsOk (U ++ (exOf E).take k) ∧ ∀ j, j < k → riseAt (exOf E) j ∧ partL (E.getD j dD).2 U = true) (fun _ i _ => E.length - (intOf i).toNat)
      case atStart => exact ⟨0, Nat.zero_le _, rfl, rfl, HBM.out, by simpa using HST.out, by simpa using HNU.out, fun j h => by omega⟩
      case round =>
        obtain ⟨k, hk, rfl, rfl, hbel, hset, hnums, hri⟩ := hrel
        have hlt1 := hset.lt
        have HS := Lib.hid hset
        have HN := Lib.hid hnums
        have HR := Lib.hid hri
        have HB := Lib.hid hbel
        have HTOT : Hid (Below w.heap.size w wr) := HB00.out.trans (hbel.mono (by omega))
        clear hri
        by_cases hlt : k < E.length
        · obtain ⟨b, off, u, rfl, hb, hcx0, hcu0, HU0⟩ := HHE.out.at hlt
          have hcx := (HTOT.out.cell (p := ⟨b, off + k * 2, none⟩) hb).trans hcx0
          have hcu := (HTOT.out.cell (p := ⟨b, off + k * 2 + 1, none⟩) hb).trans hcu0
          obtain ⟨ua, uc, rfl⟩ := HU0.shape
          have HY := Lib.hid HU0
          have hd0 := (hbel.cell (p := ⟨w.heap.size, 0, none⟩) (by simp)).trans D0.out
          have hlt2 : k < (exOf E).length := by rw [exOf_len]; exact hlt
          have HTK := Lib.hid (ints_take_succ hlt2)
          have HGD := Lib.hid (exOf_getD hlt)
          have hsl := hnums.2.2
          have hv64 := H64E.out.at k hlt2
          rw [HGD.out] at hv64
          have hv1 := hv64.1
          have hv2 := hv64.2
          clear hv64
          have HRA : Hid (riseAt (exOf E) k ↔ prevOf (exOf E) k < (exOf E).getD k 0) := Iff.rfl
          have HPS : Hid (prevOf (exOf E) (k + 1) = (exOf E).getD k 0) := prevOf_succ
          have HNB : Hid (¬ riseAt (exOf E) k → ¬ okD U E) := fun h h2 => h (h2.2.1 k hlt).1
          have HNB2 : Hid (¬ numsOk (U ++ (exOf E).take k ++ [(exOf E).getD k 0]) → ¬ okD U E) := fun h => okD_num2 (k := k + 1) (by rw [HTK.out, ← List.append_assoc]; exact h)
          have HNB3 : Hid (partL (E.getD k dD).2 U = false → ¬ okD U E) := fun h h2 => by rw [(h2.2.1 k hlt).2] at h; cases h
          have HPY : Hid (∀ j, j = k → partL (E.getD k dD).2 U = true → partL (E.getD j dD).2 U = true) := fun j h h2 => by rw [h]; exact h2
          rw [HGD.out] at HTK HRA HPS HNB2
          clear hcx0 hcu0 HU0 HGD hlt2
          generalize E.getD k dD = y at *
          obtain ⟨y1, y2⟩ := y
          simp only at hcx hcu hv1 hv2 HTK HRA HPS HNB2 HNB3 HPY HY
          generalize prevOf (exOf E) k = pv at *
          have hba := hbel.alloc (by omega) (.cells #[.int .i64 y1, .slice ua y2.length uc] 51)
          have hta := HTOT.out.alloc (HTOT.out.size) (.cells #[.int .i64 y1, .slice ua y2.length uc] 51)
          have hva0 : (wr.alloc (.cells #[.int .i64 y1, .slice ua y2.length uc] 51)).cell? ⟨wr.heap.size, 0, none⟩ = some (.int .i64 y1) := cell_fresh rfl
          have hva1 : (wr.alloc (.cells #[.int .i64 y1, .slice ua y2.length uc] 51)).cell? ⟨wr.heap.size, 1, none⟩ = some (.slice ua y2.length uc) := cell_fresh rfl
          have hd0a := cell_old (o := (.cells #[.int .i64 y1, .slice ua y2.length uc] 51)) hd0
          have hsa := hset.below ((Below.refl wr.heap.size wr).alloc (Nat.le_refl _) (.cells #[.int .i64 y1, .slice ua y2.length uc] 51)) (Nat.le_refl _)
          have hza : (wr.alloc (.cells #[.int .i64 y1, .slice ua y2.length uc] 51)).heap.size = wr.heap.size + 1 := by simp
          have HBA := Lib.hid hba
          have HTA := Lib.hid hta
          have HVA0 := Lib.hid hva0
          have HVA1 := Lib.hid hva1
          have HD0A := Lib.hid hd0a
          have HSA := Lib.hid hsa
          have HZA := Lib.hid hza
          clear hba hta hva0 hva1 hd0a hsa hza hset hbel hd0 HB HTOT HS
          have hi0 : (0 : Int) ≤ (k : Int) := by omega
          have hi1 : (k : Int) < (E.length : Int) := by omega
          go_upto_region 14 with fail
          clear hcx hcu
          generalize wr.alloc (.cells #[.int .i64 y1, .slice ua y2.length uc] 51) = wa at *
          generalize wr.heap.size = gw at *
          have hva0 := HVA0.out
          have hgz := HZA.out
          by_cases g1 : y1 ≤ pv
          · have HM := Lib.hid (HNB.out (fun h => by have := HRA.out.1 h; omega))
            clear hnums
            go_wp2
            go_ret2
            exact ⟨HTA.out, .inr ⟨HM.out, rfl⟩⟩
          · have HRK := Lib.hid (HRA.out.2 (by omega))
            have g1' : decide (y1 ≤ pv) = false := by simpa using g1
            cases hE : entB (U ++ (exOf E).take k) y1 with
            | false =>
              have HEN := Lib.hid (enter_no (w.heap.size + 1) _ y1 wa HSA.out (by omega) hv1 hv2 hE)
              have HM := Lib.hid (HNB2.out (nums_noent hE))
              clear hnums hE
              go_wp2_with (go_at_call 62; refine HEN.out.mono ?_; rintro e w1 ⟨rfl, rfl⟩)
              go_ret2
              exact ⟨HTA.out, .inr ⟨HM.out, rfl⟩⟩
            | true =>
              have HEN := Lib.hid (enter_yes (w.heap.size + 1) _ y1 wa HSA.out (by omega) hv1 hv2 hE)
              by_cases hbig : (U ++ (exOf E).take k).length = 1024
              · have HM := Lib.hid (HNB2.out (nums_long (by rw [List.length_append, hbig]; simp)))
                have hlx : ((U ++ (exOf E).take k ++ [y1]).length : Int) = 1025 := by rw [List.length_append, hbig]; simp
                clear hnums hE hbig
                go_wp2_with (go_at_call 62; refine HEN.out.mono ?_; rintro e w1 ⟨rfl, hs1, hk1⟩; have hln := hs1.len 3; rw [hlx] at hln)
                go_ret2
                exact ⟨HTA.out.trans (hk1.belowB (by omega) (by omega)), .inr ⟨HM.out, rfl⟩⟩
              · have HNX := Lib.hid (nums_ent hnums hE (by omega))
                obtain ⟨n1, hn1, hn2⟩ : ∃ n1 : Nat, (U ++ (exOf E).take k ++ [y1]).length = n1 ∧ n1 ≤ 1024 := ⟨_, rfl, by rw [List.length_append]; simp only [List.length_singleton]; omega⟩
                have hlx : ((U ++ (exOf E).take k ++ [y1]).length : Int) = (n1 : Int) := by rw [hn1]
                have hn3 : (n1 : Int) ≤ 1024 := by omega
                have hbx : decide ((1024 : Int) < (n1 : Int)) = false := by simpa using hn3
                have hip := fun (W : World) (h1 : IsInts W (.slice ua y2.length uc) y2) (h2 : IsInts W (.slice a1 U.length c1) U) => ispart_any _ _ y2 U W h1 h2
                have HX := Lib.hid (fun (W : World) (hk : Kept (fun i => i = w.heap.size + 1) wa W) => (⟨(hk.cell (p := ⟨gw, 1, none⟩) (by simp; omega) (show ¬ gw = w.heap.size + 1 by omega)).trans HVA1.out,
                  (hk.cell (p := ⟨w.heap.size, 0, none⟩) (by simp; omega) (show ¬ w.heap.size = w.heap.size + 1 by omega)).trans HD0A.out,
                  HY.out.below (HTA.out.trans (hk.belowB (by omega) (by omega))) (Nat.le_refl _),
                  HUU.out.below (HTA.out.trans (hk.belowB (by omega) (by omega))) (Nat.le_refl _)⟩ : W.cell? ⟨gw, 1, none⟩ = some (.slice ua y2.length uc) ∧ W.cell? ⟨w.heap.size, 0, none⟩ = some (.slice a1 U.length c1) ∧ IsInts W (.slice ua y2.length uc) y2 ∧ IsInts W (.slice a1 U.length c1) U))
                cases hp : partL y2 U with
                | false =>
                  have HM := Lib.hid (HNB3.out hp)
                  rw [hp] at hip
                  have HIP := Lib.hid hip
                  clear hnums hE hbig hip hp
                  go_wp2_with (first
                    | (go_at_call 62; refine HEN.out.mono ?_; rintro e w1 ⟨rfl, hs1, hk1⟩; have hln := hs1.len 3; rw [hlx] at hln; obtain ⟨hl1, hl2, hi1, hi2⟩ := HX.out w1 hk1; have HI1 := Lib.hid hi1; have HI2 := Lib.hid hi2; clear hi1 hi2)
                    | (go_at_call 43; refine (HIP.out _ HI1.out HI2.out).mono ?_; rintro e w2 ⟨rfl, rfl⟩))
                  go_ret2
                  exact ⟨HTA.out.trans (hk1.belowB (by omega) (by omega)), .inr ⟨HM.out, rfl⟩⟩
                | true =>
                  have HPT := Lib.hid hp
                  rw [hp] at hip
                  have HIP := Lib.hid hip
                  clear hnums hE hbig hip hp
                  go_wp2_with (first
                    | (go_at_call 62; refine HEN.out.mono ?_; rintro e w1 ⟨rfl, hs1, hk1⟩; have hln := hs1.len 3; rw [hlx] at hln; obtain ⟨hl1, hl2, hi1, hi2⟩ := HX.out w1 hk1; have HI1 := Lib.hid hi1; have HI2 := Lib.hid hi2; clear hi1 hi2)
                    | (go_at_call 43; refine (HIP.out _ HI1.out HI2.out).mono ?_; rintro e w2 ⟨rfl, rfl⟩))
                  go_roundw
                  case rel => exact ⟨k + 1, by omega, by go_num, by rw [HPS.out], HBA.out.trans (hk1.belowB (Nat.le_refl _) (by omega)), by rw [HTK.out, ← List.append_assoc]; exact hs1, by rw [HTK.out, ← List.append_assoc]; exact HNX.out, fun j hj => by
                    by_cases e : j = k
                    · subst e; exact ⟨HRK.out, HPY.out _ rfl HPT.out⟩
                    · exact HR.out j (by omega)⟩
                  case measure => simp [intOf]; omega
        · have hke : k = E.length := by omega
          subst hke
          have hte : (exOf E).take E.length = exOf E := by rw [← exOf_len, List.take_length]
          rw [hte] at hset hnums
          have HM : Hid (okD U E) := ⟨HRU.out, HR.out, hnums⟩
          have HF := Lib.hid hset
          clear hset hnums HS HN HR hte
          go_wp2
          go_ret2
          exact ⟨HTOT.out, .inl ⟨HM.out, rfl, HF.out⟩⟩

end Go.Proofs.YtmiijgjpkkmoaaaGreat

/- The reference's Rises. -/
namespace Go.Proofs.YtmiijgjpkkmoaaaGreat
open Go.RowKit
set_option linter.unusedVariables false
set_option linter.unusedSimpArgs false

instance (l : List Int) (j : Nat) : Decidable (riseAt l j) := by unfold riseAt; exact inferInstance
def risesB (l : List Int) : Bool := decide (∀ j, j < l.length → riseAt l j ∧ l.getD j 0 ≤ 65536)
theorem risesB_no {l : List Int} {k : Nat} (hk : k < l.length) (h : ¬ (prevOf l k < l.getD k 0 ∧ l.getD k 0 ≤ 65536)) : risesB l = false := by
  unfold risesB
  rw [decide_eq_false_iff_not]
  exact fun h2 => h (h2 k hk)

set_option maxHeartbeats 1600000 in
set_option maxRecDepth 100000 in
theorem rrises_any (v : Value) (l : List Int) (w : World) (H : IsInts w v l) :
    Calls Tryz.prog 50 #[v] w fun e w' => e = .returned (.bool (risesB l)) ∧ Quiet w w' := by
  obtain ⟨a, cap, rfl, hcap, _, hl, h64, b, off, ha, hc⟩ := H
  have HC := Lib.hid hc
  have HA := Lib.hid ha
  clear hc ha h64
  go_enter Tryz.func50, Tryz.ntmps50
  go_wp2
  go_loopw [3] (fun i wr => ∃ k : Nat, k ≤ l.length ∧ i = .int .i64 k ∧ Quiet w wr ∧ 0 ≤ prevOf l k ∧ ∀ j, j < k → riseAt l j ∧ l.getD j 0 ≤ 65536) (fun i _ => l.length - (intOf i).toNat)
  case atStart => exact ⟨0, Nat.zero_le _, rfl, Quiet.refl _, by simp [prevOf], fun j h => by omega⟩
  case round =>
    obtain ⟨k, hk, rfl, hq, hp0, hn⟩ := hrel
    have HN := Lib.hid hn
    clear hn
    by_cases hlt : k < l.length
    · obtain ⟨rfl, hb⟩ := HA.out (by intro h; simp [h] at hlt)
      have hy := (hq.cell _).trans (HC.out k hlt)
      have HPC : Hid (0 < k → wr.cell? ⟨b, off + (k - 1), none⟩ = some (.int .i64 (l.getD (k - 1) 0))) := fun h => (hq.cell _).trans (HC.out (k - 1) (by omega))
      have hi0 : (0 : Int) ≤ (k : Int) := by omega
      have hi1 : (k : Int) < (l.length : Int) := by omega
      have HNO := Lib.hid (fun h => risesB_no hlt h)
      have HPS : Hid (prevOf l (k + 1) = l.getD k 0) := prevOf_succ
      have HNX : Hid (prevOf l k < l.getD k 0 ∧ l.getD k 0 ≤ 65536 → ∀ j, j < k + 1 → riseAt l j ∧ l.getD j 0 ≤ 65536) := fun h j hj => by
        by_cases e : j = k
        · subst e; exact h
        · exact HN.out j (by omega)
      have HPV : Hid (prevOf l k = if k = 0 then 0 else l.getD (k - 1) 0) := rfl
      generalize l.getD k 0 = y at *
      generalize prevOf l k = pv at *
      by_cases g1 : y < 1
      · have HM := Lib.hid (HNO.out (by omega))
        clear hp0
        go_wp2_with fail
        go_quiet (fail)
        go_wp2
        go_ret
        exact ⟨ret_bool HM.out.symm, hq.drewN _⟩
      · have g1' : decide (y < 1) = false := by simpa using g1
        by_cases g2 : 65536 < y
        · have HM := Lib.hid (HNO.out (by omega))
          clear hp0
          go_wp2_with fail
          go_quiet (fail)
          go_wp2
          go_ret
          exact ⟨ret_bool HM.out.symm, hq.drewN _⟩
        · have g2' : decide (65536 < y) = false := by simpa using g2
          cases k with
          | zero =>
            have hpe := HPV.out
            simp at hpe
            subst hpe
            rw [Nat.add_zero] at hy
            have HM := Lib.hid (HNX.out ⟨by omega, by omega⟩)
            have HP1 : Hid (0 ≤ prevOf l (0 + 1)) := by show _ ≤ _; rw [HPS.out]; omega
            clear hp0 HPC HNO HNX HPS HPV g1 g2
            go_wp2_with fail
            go_quiet (fail)
            go_wp2
            go_roundw
            case rel => exact ⟨0 + 1, by omega, by go_num, hq.drewN _, HP1.out, HM.out⟩
            case measure => simp [intOf]; omega
          | succ k' =>
            have hpe := HPV.out
            rw [if_neg (by omega)] at hpe
            have hcx := HPC.out (by omega)
            simp only [Nat.add_sub_cancel] at hpe hcx
            rw [← hpe] at hcx
            have hi2 : (0 : Int) < (k' : Int) + 1 := by omega
            have hi3 : (0 : Int) ≤ (k' : Int) := by omega
            have hi4 : (k' : Int) < (l.length : Int) := by omega
            by_cases hge : y ≤ pv
            · have HM := Lib.hid (HNO.out (by omega))
              clear hp0 HPC HNO HNX HPS HPV g1 g2 hpe
              go_wp2_with fail
              go_quiet (fail)
              go_wp2
              go_ret
              exact ⟨ret_bool HM.out.symm, hq.drewN _⟩
            · have hge' : decide (y ≤ pv) = false := by simpa using hge
              have HM := Lib.hid (HNX.out ⟨by omega, by omega⟩)
              have HP1 : Hid (0 ≤ prevOf l (k' + 1 + 1)) := by show _ ≤ _; rw [HPS.out]; omega
              clear hp0 HPC HNO HNX HPS HPV g1 g2 hpe
              go_wp2_with fail
              go_quiet (fail)
              go_wp2
              go_roundw
              case rel => exact ⟨k' + 1 + 1, by omega, by go_num, hq.drewN _, HP1.out, HM.out⟩
              case measure => simp [intOf]; omega
    · have HM : Hid (risesB l = true) := by
        show _ = _
        unfold risesB
        rw [decide_eq_true_eq]
        exact fun j hj => HN.out j (by omega)
      go_wp2
      go_ret
      exact ⟨ret_bool HM.out.symm, hq⟩

end Go.Proofs.YtmiijgjpkkmoaaaGreat

/- The reference's All. -/
namespace Go.Proofs.YtmiijgjpkkmoaaaGreat
open Go.RowKit
set_option linter.unusedVariables false
set_option linter.unusedSimpArgs false

theorem Own.built3 {w : World} {B : Nat} (hB : B ≤ w.heap.size) : Own (w.alloc (.cells #[] 3)) B (.slice (some ⟨w.heap.size, 0, none⟩) 0 0) [] :=
  ⟨rfl, .inr ⟨w.heap.size, 0, #[], rfl, hB, by unfold World.alloc; simp, Nat.le_refl _, by unfold maxLen; omega, rfl, rfl⟩⟩

set_option maxHeartbeats 1600000 in
set_option maxRecDepth 100000 in
theorem rall_any (vu ve vc : Value) (U : List Int) (E : List (Int × List Int)) (C : List (List Int)) (w : World)
    (HU : IsInts w vu U) (HE : IsDeps w ve E) (HC : IsRows w vc C) (hlen : U.length + E.length ≤ 4000000) :
    Calls Tryz.prog 48 #[.agg #[vu, ve, vc]] w fun e w' => ∃ u, e = .returned u ∧ Own w' w.heap.size u (U ++ exOf E) ∧ Below w.heap.size w w' := by
  have HHE := Lib.hid HE
  have HL := Lib.hid hlen
  have HUU := Lib.hid HU
  obtain ⟨a1, c1, rfl⟩ := HU.shape
  obtain ⟨a2, c2, rfl, hl⟩ := HE.shape
  obtain ⟨a3, c3, rfl, _⟩ := HC.shape
  have D0 : Hid ((w.alloc (.cells #[.slice a1 U.length c1, .slice a2 E.length c2, .slice a3 C.length c3] 29)).cell? ⟨w.heap.size, 0, none⟩ = some (.slice a1 U.length c1)) := cell_fresh rfl
  have D1 : Hid ((w.alloc (.cells #[.slice a1 U.length c1, .slice a2 E.length c2, .slice a3 C.length c3] 29)).cell? ⟨w.heap.size, 1, none⟩ = some (.slice a2 E.length c2)) := cell_fresh rfl
  have HB00 : Hid (Below w.heap.size w (w.alloc (.cells #[.slice a1 U.length c1, .slice a2 E.length c2, .slice a3 C.length c3] 29))) := (Below.refl w.heap.size w).alloc (Nat.le_refl _) _
  have HZ00 : Hid ((w.alloc (.cells #[.slice a1 U.length c1, .slice a2 E.length c2, .slice a3 C.length c3] 29)).heap.size = w.heap.size + 1) := by show _ = _; simp
  clear HC HE HU hlen
  generalize hw0 : (w.alloc (.cells #[.slice a1 U.length c1, .slice a2 E.length c2, .slice a3 C.length c3] 29)) = w0 at HB00 HZ00 D0 D1
  have hd0 := cell_old (o := .cells #[] 3) D0.out
  have hO0 : Own (w0.alloc (.cells #[] 3)) (w.heap.size + 1) (.slice (some ⟨w0.heap.size, 0, none⟩) 0 0) [] := Own.built3 (by rw [HZ00.out]; exact Nat.le_refl _)
  have hB0 : Below (w.heap.size + 1) w0 (w0.alloc (.cells #[] 3)) := (Below.refl _ w0).alloc (by rw [HZ00.out]; exact Nat.le_refl _) _
  have hI0 : IsInts (w0.alloc (.cells #[] 3)) (.slice a1 U.length c1) U := HUU.out.below (HB00.out.trans (hB0.mono (by omega))) (Nat.le_refl _)
  have HO0 := Lib.hid hO0
  have HI0 := Lib.hid hI0
  have HB0 := Lib.hid hB0
  have hlU : U.length ≤ 4000000 := by have := HL.out; omega
  clear hO0 hI0 hB0
  go_enter Tryz.func48, Tryz.ntmps48
  go_wp2_with (at_builtin; refine wpList_app rfl (.tmp 5) (.tmp 7) rfl (w.heap.size + 1) _ _ [] U rfl rfl HO0.out HI0.out (by simp; omega) (by have := HZ00.out; simp; omega) ?_; intro v1 w1 hown1 hg1)
  have HB1 := Lib.hid (below_app HB0.out HO0.out (by have := HZ00.out; simp; omega) hg1)
  rw [List.nil_append] at hown1
  have HO1 := Lib.hid hown1
  clear hown1 hg1 hd0 HO0 HI0 HB0 hw0
  go_loopw [3, 4] (fun out i wr => ∃ k : Nat, k ≤ E.length ∧ i = .int .i64 k ∧ Own wr (w.heap.size + 1) out (U ++ (exOf E).take k) ∧ Below (w.heap.size + 1) w0 wr) (fun _ i _ => E.length - (intOf i).toNat)
  case atStart => exact ⟨0, Nat.zero_le _, rfl, by simpa using HO1.out, HB1.out⟩
  case round =>
    obtain ⟨k, hk, rfl, hown, hbel⟩ := hrel
    have hsz0 := hbel.size
    have hsz : w.heap.size + 1 ≤ wr.heap.size := by have := HZ00.out; omega
    have hd1 := (hbel.cell (p := ⟨w.heap.size, 1, none⟩) (by simp)).trans D1.out
    have HTOT : Hid (Below w.heap.size w wr) := HB00.out.trans (hbel.mono (by omega))
    by_cases hlt : k < E.length
    · obtain ⟨b, off, u, rfl, hb, hcx0, hcu0, HU0⟩ := HHE.out.at hlt
      have hcx := (HTOT.out.cell (p := ⟨b, off + k * 2, none⟩) hb).trans hcx0
      have hlt2 : k < (exOf E).length := by rw [exOf_len]; exact hlt
      have HTK := Lib.hid (ints_take_succ hlt2)
      have HGD := Lib.hid (exOf_getD hlt)
      have hln : (U ++ (exOf E).take k).length < 17592186044416 := by rw [List.length_append, List.length_take, exOf_len]; have := HL.out; omega
      rw [HGD.out] at HTK
      have hi0 : (0 : Int) ≤ (k : Int) := by omega
      have hi1 : (k : Int) < (E.length : Int) := by omega
      clear hcx0 hcu0 HU0 HGD hlt2
      generalize E.getD k dD = y at *
      obtain ⟨x, y2⟩ := y
      simp only at hcx HTK
      have HB := Lib.hid hbel
      have HO := Lib.hid hown
      clear hbel hown
      go_wp2_with (at_builtin; refine wpList_app1 rfl (.tmp 16) (.tmp 23) rfl (w.heap.size + 1) _ _ x wr.heap.size rfl rfl (HO.out.alloc _) (by simp) hln (by simp; omega) ?_; intro v' w2 hown2 hg2)
      have HB2 := Lib.hid (below_app (HB.out.alloc hsz _) (HO.out.alloc _) (by simp; omega) hg2)
      have HO2 := Lib.hid hown2
      clear hown2 hg2
      go_roundw
      case rel => exact ⟨k + 1, by omega, by go_num, by rw [HTK.out, ← List.append_assoc]; exact HO2.out, HB2.out⟩
      case measure => simp [intOf]; omega
    · have hke : k = E.length := by omega
      subst hke
      have hte : (exOf E).take E.length = exOf E := by rw [← exOf_len, List.take_length]
      rw [hte] at hown
      go_wp2
      go_ret
      exact ⟨_, rfl, hown.mono (by omega), HTOT.out⟩

end Go.Proofs.YtmiijgjpkkmoaaaGreat

/- A part of integers that came in, from a place on. -/
namespace Go.Proofs.YtmiijgjpkkmoaaaGreat
open Go.RowKit
set_option linter.unusedVariables false
set_option linter.unusedSimpArgs false

theorem IsInts.from {w : World} {b off n cap : Nat} {l : List Int} (H : IsInts w (.slice (some ⟨b, off, none⟩) n cap) l) {i : Nat} (hi : i ≤ n) {A : Option Addr} (hA : A = if cap = i then some ⟨b, off, none⟩ else some ⟨b, off + i, none⟩) :
    IsInts w (.slice A (n - i) (cap - i)) (l.drop i) := by
  have hn : n = l.length := by obtain ⟨a', cap', e, _⟩ := H; injection e
  subst hn
  by_cases hc : cap = i
  · have h1 : l.length ≤ cap := by
      obtain ⟨a', cap', e, ⟨h1, _⟩, _⟩ := H
      injection e with _ _ e3
      subst e3
      exact h1
    have hl : l.drop i = [] := List.drop_eq_nil_of_le (by omega)
    have h0 : l.length - i = 0 := by omega
    rw [hA, if_pos hc, hl, h0]
    exact IsInts.none_of (by omega)
  · rw [hA, if_neg hc]
    exact H.drop hi

theorem cnf_range {f : List (List Int)} (h : mayCnfB f = true) : ∀ c ∈ f, ∀ x ∈ c, litB x = true := by
  unfold mayCnfB at h
  rw [decide_eq_true_eq] at h
  exact fun c hc x hx => (mayFrom_mem (Int.le_refl 0) (h.2.2 c hc) x hx).2

/-- The words of the reference's MayDqbf, in its order. -/
def rowsB (U : List Int) (E : List (Int × List Int)) : Bool := decide (∀ j, j < E.length → risesB (E.getD j dD).2 = true ∧ partB (E.getD j dD).2 U = true)
def mayDB (U : List Int) (E : List (Int × List Int)) (C : List (List Int)) : Bool :=
  decide ((U ++ exOf E).length ≤ 1024) && (singleB (U ++ exOf E) && (risesB U && (risesB (exOf E) && (mayCnfB C && (withinB C (U ++ exOf E) && rowsB U E)))))

theorem risesB_iff {l : List Int} : risesB l = true ↔ ∀ j, j < l.length → riseAt l j ∧ l.getD j 0 ≤ 65536 := by unfold risesB; rw [decide_eq_true_eq]
theorem rise_pair : ∀ {l : List Int}, (∀ j, j < l.length → riseAt l j) → l.Pairwise (· < ·) := by
  intro l h
  rw [List.pairwise_iff_getElem]
  intro i j hi hj hij
  induction j with
  | zero => omega
  | succ j ih =>
    have h1 := h (j + 1) hj
    unfold riseAt at h1
    rw [prevOf_succ, List.getD_eq_getElem?_getD, List.getElem?_eq_getElem (by omega), List.getD_eq_getElem?_getD, List.getElem?_eq_getElem hj] at h1
    simp only [Option.getD_some] at h1
    by_cases e : i = j
    · subst e; exact h1
    · have := ih (by omega) (by omega); omega

end Go.Proofs.YtmiijgjpkkmoaaaGreat

/- Both sides' words for a valid Dqbf say the same. -/
namespace Go.Proofs.YtmiijgjpkkmoaaaGreat
open Go.RowKit
set_option linter.unusedVariables false
set_option linter.unusedSimpArgs false

theorem pair_rise {l : List Int} (h : l.Pairwise (· < ·)) (h1 : ∀ x ∈ l, 1 ≤ x) : ∀ j, j < l.length → riseAt l j := by
  intro j hj
  cases j with
  | zero =>
    have := h1 _ (ints_getD_mem hj)
    unfold riseAt prevOf
    rw [if_pos rfl]
    omega
  | succ j =>
    unfold riseAt
    rw [prevOf_succ, List.getD_eq_getElem?_getD, List.getElem?_eq_getElem (by omega), List.getD_eq_getElem?_getD, List.getElem?_eq_getElem hj]
    simp only [Option.getD_some]
    exact List.pairwise_iff_getElem.1 h j (j + 1) (by omega) hj (by omega)

theorem mem_getD {l : List Int} {x : Int} (h : x ∈ l) : ∃ j, j < l.length ∧ l.getD j 0 = x := by
  obtain ⟨j, hj, rfl⟩ := List.mem_iff_getElem.1 h
  exact ⟨j, hj, by rw [List.getD_eq_getElem?_getD, List.getElem?_eq_getElem hj]; rfl⟩

theorem memB_iff {l : List Int} {x : Int} : memB l x = true ↔ x ∈ l := by unfold memB; simp

theorem mayD_ok {U : List Int} {E : List (Int × List Int)} {C : List (List Int)} :
    mayDB U E C = true ↔ okD U E ∧ mayCnfB C = true ∧ withinB C (U ++ exOf E) = true := by
  unfold mayDB okD numsOk singleB rowsB
  simp only [Bool.and_eq_true, decide_eq_true_eq]
  constructor
  · rintro ⟨h1, ⟨h2, h3⟩, h4, h5, h6, h7, h8⟩
    have hU := fun j hj => (risesB_iff.1 h4 j hj).1
    have hE := fun j hj => (risesB_iff.1 h5 j hj).1
    refine ⟨⟨hU, fun j hj => ⟨hE j (by rw [exOf_len]; exact hj), ?_⟩, h2, h3, h1⟩, h6, h7⟩
    obtain ⟨g1, g2⟩ := h8 j hj
    rw [partL_iff _ _ (rise_pair hU)]
    unfold partB at g2
    rw [decide_eq_true_eq] at g2
    exact ⟨rise_pair fun i hi => (risesB_iff.1 g1 i hi).1, fun x hx => memB_iff.1 (g2 x hx)⟩
  · rintro ⟨⟨hU, hE, h2, h3, h1⟩, h6, h7⟩
    have hE2 : ∀ j, j < (exOf E).length → riseAt (exOf E) j := fun j hj => (hE j (by rw [exOf_len] at hj; exact hj)).1
    have b1 : risesB U = true := risesB_iff.2 fun j hj => ⟨hU j hj, (h3 _ (List.mem_append_left _ (ints_getD_mem hj))).2⟩
    have b2 : risesB (exOf E) = true := risesB_iff.2 fun j hj => ⟨hE2 j hj, (h3 _ (List.mem_append_right _ (ints_getD_mem hj))).2⟩
    refine ⟨h1, ⟨h2, h3⟩, b1, b2, h6, h7, fun j hj => ?_⟩
    have g := (hE j hj).2
    rw [partL_iff _ _ (rise_pair hU)] at g
    have g3 : ∀ x ∈ (E.getD j dD).2, 1 ≤ x ∧ x ≤ 65536 := fun x hx => h3 x (List.mem_append_left _ (g.2 x hx))
    refine ⟨risesB_iff.2 fun i hi => ⟨pair_rise g.1 (fun x hx => (g3 x hx).1) i hi, (g3 _ (ints_getD_mem hi)).2⟩, ?_⟩
    unfold partB
    rw [decide_eq_true_eq]
    exact fun x hx => memB_iff.2 (g.2 x hx)

end Go.Proofs.YtmiijgjpkkmoaaaGreat
