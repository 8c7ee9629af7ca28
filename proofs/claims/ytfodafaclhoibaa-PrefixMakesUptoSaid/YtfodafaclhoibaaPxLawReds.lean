/- The law PrefixReduces, walked. -/
import Derived.Test.YtfodafaclhoibaaPxHeadB
import Derived.Test.YtfodafaclhoibaaMgJ
import Derived.Test.YtfodafaclhoibaaPxRedP
namespace Go.Proofs.Ytfodafaclhoibaa
open Go.RowKit
set_option linter.unusedVariables false
set_option linter.unusedSimpArgs false

theorem wrap_min : wrap64 9223372036854775808 = -9223372036854775808 := by unfold wrap64; omega
set_option maxHeartbeats 400000 in
theorem rabs_any (x : Int) (w : World) (h1 : -9223372036854775808 ≤ x) (h2 : x ≤ 9223372036854775807) :
    Calls Try.prog 42 #[.int .i64 x] w fun e w' => e = .returned (.int .i64 (absW x)) ∧ w = w' := by
  by_cases m : x = -9223372036854775808
  · have e : absW x = x := by unfold absW; rw [if_pos m]
    rw [e]
    subst m
    go_enter Try.func42, Try.ntmps42
    go_wp2
    go_ret
    exact ⟨ret_int wrap_min, rfl⟩
  · have e0 : absW x = absOf x := by unfold absW; rw [if_neg m]
    rw [e0]
    by_cases c : x < 0
    · have e : absOf x = -x := by unfold absOf; rw [if_pos c]
      rw [e]
      clear e e0
      have h3 : -9223372036854775807 ≤ x := by omega
      go_enter Try.func42, Try.ntmps42
      go_wp2
      go_ret
      exact ⟨rfl, rfl⟩
    · have e : absOf x = x := by unfold absOf; rw [if_neg c]
      rw [e]
      clear e e0
      go_enter Try.func42, Try.ntmps42
      go_wp2
      go_ret
      exact ⟨rfl, rfl⟩

theorem find_is (vp : Value) (p : List Blk) (v : Int) (w : World) (HP : IsBlocks w vp p) {B : Nat} {e o : Bool} (h : findL p v = (B, e, o)) :
    Calls Try.prog 39 #[vp, .int .i64 v] w fun en w' => en = .returned (.tuple #[.int .i64 (B : Int), .bool e, .bool o]) ∧ Below w.heap.size w w' := by
  have := find_any vp p v w HP
  rw [h] at this
  exact this

theorem flat_totT {α : Type} (p : List (α × List Int)) : (flatB p).length = totT p := by
  unfold flatB totT
  rw [List.length_flatten, List.map_map]
  rfl
theorem blocks_i64 {w : World} {v : Value} {p : List Blk} (H : IsBlocks w v p) : In64 (flatB p) := by
  intro x hx
  obtain ⟨l, hl, hxl⟩ := List.mem_flatten.1 (show x ∈ (p.map (fun y => y.2)).flatten from hx)
  obtain ⟨b, hb, rfl⟩ := List.mem_map.1 hl
  obtain ⟨i, hi, rfl⟩ := List.mem_iff_getElem.1 hb
  obtain ⟨a, cap, rfl, _⟩ := H.shape
  obtain ⟨_, _, u, _, _, _, _, HU⟩ := H.at hi
  have e : p.getD i (false, ([] : List Int)) = p[i] := by simp [List.getD, hi]
  rw [e] at HU
  exact HU.i64X x hxl
theorem IsInts.cellX {w : World} {a : Option Addr} {n c : Nat} {l : List Int} (H : IsInts w (.slice a n c) l) {k : Nat} (hk : k < l.length) : ∃ b off, a = some ⟨b, off, none⟩ ∧ b < w.heap.size ∧ w.cell? ⟨b, off + k, none⟩ = some (.int .i64 (l.getD k 0)) := by
  obtain ⟨a', cap', e, _, _, _, _, b, off, ha, hc⟩ := H
  injection e with e1 e2 e3
  subst e1
  obtain ⟨h1, h2⟩ := ha (by intro h; simp [h] at hk)
  exact ⟨b, off, h1, h2, hc k hk⟩

set_option maxRecDepth 100000 in
set_option maxHeartbeats 3200000 in
theorem reds_any (vp vl : Value) (p : List Blk) (l : List Int) (cube : Bool) (w : World) (HP : IsBlocks w vp p) (HL : IsInts w vl l) (hp : p.length + totT p ≤ 1048576) (hll : l.length ≤ 1048576) :
    Calls Try.prog 7 #[vp, vl, .bool cube] w fun e w' => e = .returned (.bool true) ∧ Below w.heap.size w w' := by
  have hfl : (flatB p).length ≤ 1048576 := by rw [flat_totT]; omega
  have HWD := Lib.hid (wide_any vp (.slice none 0 0) p [] 300 w HP (IsRows.nil w) (by simp [tot]; omega))
  have HMY := Lib.hid (rmay_any vp p w HP (by omega) (by omega) (blocks_i64 HP))
  have HPP := Lib.hid HP
  have HLL := Lib.hid HL
  obtain ⟨pa, pc, rfl, hpl⟩ := HP.shape
  obtain ⟨la, lc, rfl⟩ := HL.shape
  have hl1 : (l.length : Int) ≤ 1048576 := by omega
  have HFL := Lib.hid hfl
  have HBD := Lib.hid hp
  have HLB := Lib.hid hll
  clear HP HL hp hfl hll
  cases hwd : wideB 300 p [] with
  | true =>
    rw [hwd] at HWD
    clear hwd
    go_enter Try.func7, Try.ntmps7
    go_wp2_with (first
      | (go_at_call 16; refine HWD.out.mono ?_; rintro e w1 ⟨rfl, rfl⟩)
      | (go_at_call 18; refine (head_any _).mono ?_; rintro e w2 ⟨rfl, hb2⟩))
    go_ret
    exact ⟨rfl, hb2⟩
  | false =>
    rw [hwd] at HWD
    clear hwd
    by_cases hlen : 100 < l.length
    · have hg : decide ((100 : Int) < (l.length : Int)) = true := by rw [decide_eq_true_eq]; omega
      go_enter Try.func7, Try.ntmps7
      go_wp2_with (first
        | (go_at_call 16; refine HWD.out.mono ?_; rintro e w1 ⟨rfl, rfl⟩)
        | (go_at_call 18; refine (head_any _).mono ?_; rintro e w2 ⟨rfl, hb2⟩))
      go_ret
      exact ⟨rfl, hb2⟩
    · have hg : decide ((100 : Int) < (l.length : Int)) = false := by rw [decide_eq_false_iff_not]; omega
      cases hm : mayP p with
      | false =>
        rw [hm] at HMY
        clear hm
        go_enter Try.func7, Try.ntmps7
        go_wp2_with (first
          | (go_at_call 16; refine HWD.out.mono ?_; rintro e w1 ⟨rfl, rfl⟩)
          | (go_at_call 20; refine HMY.out.mono ?_; rintro e w1 ⟨rfl, hb1⟩)
          | (go_at_call 18; refine (head_any _).mono ?_; rintro e w2 ⟨rfl, hb2⟩))
        go_ret
        exact ⟨rfl, hb1.trans (hb2.mono hb1.size)⟩
      | true =>
        rw [hm] at HMY
        have HM := Lib.hid hm
        clear hm
        obtain ⟨m, hmm⟩ : ∃ m, l.filter (keepR p (lastL p (!cube) l)) = m := ⟨_, rfl⟩
        have hml : m.length ≤ l.length := by rw [← hmm]; exact List.length_filter_le _ _
        have HML := Lib.hid hml
        have HMM := Lib.hid hmm
        have HR := Lib.hid (fun (X : World) (hb : Below w.heap.size w X) => reduce_any (.slice pa p.length pc) (.slice la l.length lc) p l cube X (HPP.out.below hb (Nat.le_refl _)) (HLL.out.below hb (Nat.le_refl _)) (by have := HLB.out; omega) (by rw [pairs_len]; have := HFL.out; omega))
        have HR2 : Hid (∀ X, Below w.heap.size w X → Calls Try.prog 41 #[.slice pa p.length pc, .slice la l.length lc, .bool cube] X fun e w' => ∃ a c, e = .returned (.slice a m.length c) ∧ IsInts w' (.slice a m.length c) m ∧ Below X.heap.size X w') := fun X hb => (HR.out X hb).mono fun e w' h => by
          obtain ⟨v, rfl, ho, hbx⟩ := h
          rw [HMM.out] at ho
          have hi := ho.ints (by have := HML.out; have := HLB.out; omega) (fun y hy => HLL.out.i64X y (by rw [← HMM.out] at hy; exact (List.mem_filter.1 hy).1))
          obtain ⟨a, c, rfl⟩ := hi.shape
          exact ⟨a, c, rfl, hi, hbx⟩
        clear hmm hml HR
        have c1 : (cube == cube) = true := by simp
        have c2 : (cube != cube) = false := by simp
        go_enter Try.func7, Try.ntmps7
        go_wp2_with (first
          | (go_at_call 16; refine HWD.out.mono ?_; rintro e w0 ⟨rfl, rfl⟩)
          | (go_at_call 20; refine HMY.out.mono ?_; rintro e w1 ⟨rfl, hb1⟩)
          | (go_at_call 41; refine (HR2.out w1 hb1).mono ?_; rintro e w2 ⟨ma, mc, rfl, hi2, hb2⟩))
        have HB2 := Lib.hid (hb1.trans (hb2.mono hb1.size))
        have UP : Hid (∀ X, Below w2.heap.size w2 X → IsBlocks X (.slice pa p.length pc) p ∧ IsInts X (.slice la l.length lc) l ∧ IsInts X (.slice ma m.length mc) m) := fun X hX =>
          have h := HB2.out.trans (hX.mono HB2.out.size)
          ⟨HPP.out.below h (Nat.le_refl _), HLL.out.below h (Nat.le_refl _), hi2.below hX (Nat.le_refl _)⟩
        have hz2 : w.heap.size ≤ w2.heap.size := HB2.out.size
        clear hb1 hb2 hi2 hlen hg HWD HMY HR2
        go_loopw [8, 9] (fun n i wr => ∃ k c : Nat, k ≤ l.length ∧ i = .int .i64 k ∧ n = .int .i64 c ∧ c = ((l.take k).filter (keepR p (lastL p (!cube) l))).length ∧ c ≤ m.length ∧ Below w2.heap.size w2 wr) (fun _ i _ => l.length - (intOf i).toNat)
        case atStart => exact ⟨0, 0, Nat.zero_le _, rfl, rfl, by simp, Nat.zero_le _, Below.refl _ _⟩
        case round =>
          obtain ⟨k, c, hk, rfl, rfl, hc, hcm, hbr⟩ := hrel
          have HC := Lib.hid hc
          clear hc
          obtain ⟨hp3, hl3, hm3⟩ := UP.out wr hbr
          by_cases hlt : k < l.length
          · obtain ⟨b, off, rfl, hbb, hcx⟩ := hl3.cellX hlt
            have hx64 := hl3.i64X.at k hlt
            have hx1 := hx64.1
            have hx2 := hx64.2
            have hmem : l.getD k 0 ∈ l := getD_mem hlt
            have F1 : Hid (keepR p (lastL p (!cube) l) (l.getD k 0) = true → c < m.length ∧ m.getD c 0 = l.getD k 0 ∧ ((l.take (k + 1)).filter (keepR p (lastL p (!cube) l))).length = c + 1) := fun h => by
              have := filt_at hlt h
              rw [← HC.out, HMM.out] at this
              exact this
            have F2 : Hid (keepR p (lastL p (!cube) l) (l.getD k 0) = false → ((l.take (k + 1)).filter (keepR p (lastL p (!cube) l))).length = c ∧ (c < m.length → m.getD c 0 ≠ l.getD k 0)) := fun h => by
              refine ⟨by rw [filt_no hlt h, ← HC.out], fun h2 => ?_⟩
              rw [← HMM.out] at h2 ⊢
              exact filt_ne h2 h
            have HGO := Lib.hid (fun h => red_gone HM.out (cube := cube) hmem h)
            clear hx64 hmem
            generalize l.getD k 0 = x at *
            have hc1 : (0 : Int) ≤ (c : Int) := by omega
            have hc3 : (c : Int) ≤ 1048576 := by have := HML.out; omega
            have hk1 : (0 : Int) ≤ (k : Int) := by omega
            have hk2 : (k : Int) < (l.length : Int) := by omega
            obtain ⟨q, hq⟩ : ∃ q, keepR p (lastL p (!cube) l) x = q := ⟨_, rfl⟩
            rw [hq] at F1 F2 HGO
            clear hq
            go_upto_region 8 with fail
            go_cut [54] (fun t wx => t = .bool q ∧ Quiet wr wx)
            case first =>
              clear hl3 hp3
              cases q with
              | true =>
                obtain ⟨hcl, hmx, _⟩ := F1.out rfl
                obtain ⟨b2, off2, rfl, hbb2, hcm2⟩ := hm3.cellX hcl
                rw [hmx] at hcm2
                have hcl2 : (c : Int) < (m.length : Int) := by omega
                have hxx : (x == x) = true := by simp
                clear hmx hm3
                go_wp2_with fail
                go_quiet (fail)
                go_wp2
                go_meet
                exact ⟨rfl, ⟨_, rfl⟩⟩
              | false =>
                obtain ⟨_, hnx⟩ := F2.out rfl
                by_cases hcl : c < m.length
                · obtain ⟨b2, off2, rfl, hbb2, hcm2⟩ := hm3.cellX hcl
                  have hne := hnx hcl
                  generalize m.getD c 0 = z at *
                  have hcl2 : (c : Int) < (m.length : Int) := by omega
                  have hxx : (z == x) = false := by simpa using hne
                  clear hnx hne hm3
                  go_wp2_with fail
                  go_quiet (fail)
                  go_wp2
                  go_meet
                  exact ⟨rfl, ⟨_, rfl⟩⟩
                · have hcl2 : decide (c < m.length) = false := by simpa using hcl
                  clear hnx hm3
                  go_wp2_with fail
                  go_quiet (fail)
                  go_wp2
                  go_meet
                  exact ⟨rfl, ⟨_, rfl⟩⟩
            case rest =>
              obtain ⟨rfl, hqc⟩ := hcut
              cases q with
              | true =>
                have h3 := F1.out rfl
                have H3 := Lib.hid h3.2.2
                have h4 := h3.1
                clear h3
                go_wp2
                go_roundw
                case rel => exact ⟨k + 1, c + 1, by omega, by go_num, by go_num, H3.out.symm, by omega, hbr.trans (hqc.below _)⟩
                case measure => simp [intOf]; omega
              | false =>
                have h3 := F2.out rfl
                have H3 := Lib.hid h3.1
                clear h3
                obtain ⟨B, hfB, hgB, hBl⟩ := HGO.out rfl
                have hcx2 := (hqc.cell _).trans hcx
                have HFI := Lib.hid (find_is _ p (absW x) wc (hp3.quiet hqc) hfB)
                have HBQ := Lib.hid (hbr.trans (hqc.below _))
                have HGB := Lib.hid hgB
                have hqz := hqc.size
                clear hfB hgB hp3 hl3 hm3 hcx HGO F1 F2 hqc
                go_wp2_with (first
                  | (go_at_call 42; refine (rabs_any _ _ hx1 hx2).mono ?_; rintro e w3 ⟨rfl, rfl⟩)
                  | (go_at_call 39; refine HFI.out.mono ?_; rintro e w4 ⟨rfl, hb4⟩))
                have HB4 := Lib.hid (HBQ.out.trans (hb4.mono HBQ.out.size))
                clear hb4 hbr hcx2 HFI
                generalize wr = wq at *
                go_loopw [13] (fun j wr => ∃ k2 : Nat, k2 ≤ l.length ∧ j = .int .i64 k2 ∧ Below w2.heap.size w2 wr) (fun j _ => l.length - (intOf j).toNat)
                case atStart => exact ⟨0, Nat.zero_le _, rfl, HB4.out⟩
                case round =>
                  obtain ⟨k2, hk3, rfl, hbr2⟩ := hrel
                  obtain ⟨hp4, hl4, _⟩ := UP.out wr hbr2
                  by_cases hlt2 : k2 < l.length
                  · obtain ⟨b', off', e', _, hcy⟩ := hl4.cellX hlt2
                    injection e' with e'
                    injection e' with e1 e2 _
                    subst e1
                    subst e2
                    have hy64 := hl4.i64X.at k2 hlt2
                    have hy1 := hy64.1
                    have hy2 := hy64.2
                    have HOT := red_other HM.out (cube := cube) (getD_mem hlt2)
                    have hk5 : (0 : Int) ≤ (k2 : Int) := by omega
                    have hk6 : (k2 : Int) < (l.length : Int) := by omega
                    clear hy64 hl4
                    generalize l.getD k2 0 = y at *
                    obtain ⟨c', hcl', h⟩ := HOT
                    rcases h with h | h | ⟨h, hle⟩
                    · have HFJ := Lib.hid (find_is _ p (absW y) wr hp4 h)
                      clear h hp4
                      go_wp2_with (first
                        | (go_at_call 42; refine (rabs_any _ _ hy1 hy2).mono ?_; rintro e w3 ⟨rfl, rfl⟩)
                        | (go_at_call 39; refine HFJ.out.mono ?_; rintro e w5 ⟨rfl, hb5⟩))
                      go_roundw
                      case rel => exact ⟨k2 + 1, by omega, by go_num, hbr2.trans (hb5.mono hbr2.size)⟩
                      case measure => simp [intOf]; omega
                    · have HFJ := Lib.hid (find_is _ p (absW y) wr hp4 h)
                      clear h hp4
                      go_wp2_with (first
                        | (go_at_call 42; refine (rabs_any _ _ hy1 hy2).mono ?_; rintro e w3 ⟨rfl, rfl⟩)
                        | (go_at_call 39; refine HFJ.out.mono ?_; rintro e w5 ⟨rfl, hb5⟩))
                      go_roundw
                      case rel => exact ⟨k2 + 1, by omega, by go_num, hbr2.trans (hb5.mono hbr2.size)⟩
                      case measure => simp [intOf]; omega
                    · have HFJ := Lib.hid (find_is _ p (absW y) wr hp4 h)
                      have hcb : decide (B < c') = false := by have := HGB.out; rw [decide_eq_false_iff_not]; omega
                      have hcn : ((!cube) != cube) = true := by cases cube <;> rfl
                      clear h hp4 hle
                      go_wp2_with (first
                        | (go_at_call 42; refine (rabs_any _ _ hy1 hy2).mono ?_; rintro e w3 ⟨rfl, rfl⟩)
                        | (go_at_call 39; refine HFJ.out.mono ?_; rintro e w5 ⟨rfl, hb5⟩))
                      go_roundw
                      case rel => exact ⟨k2 + 1, by omega, by go_num, hbr2.trans (hb5.mono hbr2.size)⟩
                      case measure => simp [intOf]; omega
                  · go_wp2
                    go_roundw
                    case rel => exact ⟨k + 1, c, by omega, by go_num, rfl, H3.out.symm, hcm, hbr2⟩
                    case measure => simp [intOf]; omega
          · have hke : k = l.length := by omega
            subst hke
            have hce : c = m.length := by rw [HC.out, List.take_length, HMM.out]
            subst hce
            have hmm : ((m.length : Int) == (m.length : Int)) = true := by simp
            have HRB : Hid (Calls Try.prog 41 #[.slice pa p.length pc, .slice ma m.length mc, .bool cube] wr fun e w' => ∃ a c, e = .returned (.slice a m.length c) ∧ IsInts w' (.slice a m.length c) m ∧ Below wr.heap.size wr w') :=
              (reduce_any (.slice pa p.length pc) (.slice ma m.length mc) p m cube wr hp3 hm3 (by have := HML.out; have := HLB.out; omega) (by rw [pairs_len]; have := HFL.out; omega)).mono fun e w' h => by
                obtain ⟨v, rfl, ho, hbx⟩ := h
                have ha := reduce_again p (!cube) l
                rw [HMM.out] at ha
                rw [ha] at ho
                have hi := ho.ints (by have := HML.out; have := HLB.out; omega) hm3.i64X
                obtain ⟨a, c, rfl⟩ := hi.shape
                exact ⟨a, c, rfl, hi, hbx⟩
            clear hl3 hp3
            go_wp2_with (first
              | (go_at_call 41; refine HRB.out.mono ?_; rintro e w5 ⟨a5, c5, rfl, hi5, hb5⟩)
              | (go_at_call 37; refine (ints_yes _ _ m w5 hi5 (hm3.below hb5 (Nat.le_refl _))).mono ?_; rintro e w6 ⟨rfl, hb6⟩)
              | (go_at_call 18; refine (head_any _).mono ?_; rintro e w7 ⟨rfl, hb7⟩))
            go_ret
            exact ⟨rfl, HB2.out.trans ((hbr.trans ((hb5.trans ((hb6.trans (hb7.mono hb6.size)).mono hb5.size)).mono hbr.size)).mono HB2.out.size)⟩
end Go.Proofs.Ytfodafaclhoibaa
