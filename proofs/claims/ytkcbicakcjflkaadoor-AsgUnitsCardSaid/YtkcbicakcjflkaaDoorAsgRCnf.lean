/- The reference's Cnf. -/
import Derived.Test.YtkcbicakcjflkaaDoorAsgRCl
import Derived.Test.YtkcbicakcjflkaaDoorCnf
namespace Go.Proofs.YtkcbicakcjflkaaDoor
open Go.RowKit
set_option linter.unusedVariables false

def anyC (a : List Int) (f : List (List Int)) (t : Int) : Bool := f.any (fun c => judgeL 1 2 a c == t)
def cnfL (a : List Int) (f : List (List Int)) : Int := if mayB a && mayCnfB f then (if anyC a f 2 then 2 else if anyC a f 0 then 0 else 1) else 0
theorem anyC_take {a : List Int} {f : List (List Int)} {k : Nat} (h : k < f.length) (t : Int) : anyC a (f.take (k + 1)) t = (anyC a (f.take k) t || (judgeL 1 2 a (f.getD k []) == t)) := by
  have e : f.take (k + 1) = f.take k ++ [f.getD k []] := by rw [List.take_succ_eq_append_getElem h]; simp [List.getD, h]
  unfold anyC
  rw [e, List.any_append]
  simp
theorem anyC_at {a : List Int} {f : List (List Int)} {k : Nat} (h : k < f.length) {t : Int} (ht : judgeL 1 2 a (f.getD k []) = t) : anyC a f t = true := by
  unfold anyC
  rw [List.any_eq_true]
  exact ⟨_, rows_getD_mem h, by simpa using ht⟩

set_option maxHeartbeats 800000 in
set_option maxRecDepth 100000 in
theorem rcnf_any (u v : Value) (m : List Int) (f : List (List Int)) (w : World) (K : IsInts w u m) (H : IsRows w v f) :
    Calls Tryd.prog 26 #[u, v] w fun e w' => e = .returned (.int .u8 (cnfL m f)) ∧ Quiet w w' := by
  obtain ⟨a, cap, rfl, hl⟩ := H.shape
  obtain ⟨a2, cap2, rfl⟩ := K.shape
  by_cases hm : mayB m = true
  · by_cases hml : mayCnfB f = true
    · have HJ : Hid (cnfL m f = if anyC m f 2 then 2 else if anyC m f 0 then 0 else 1) := by show _ = _; unfold cnfL; rw [hm, hml]; rfl
      go_enter Tryd.func26, Tryd.ntmps26
      go_wp2_with (first | (go_at_call_of 36 (Value.slice a2 m.length cap2); refine (rmay_v _ m _ K).mono ?_; rintro e w1 ⟨rfl, hq1⟩) | (go_at_call_of 37 (Value.slice a f.length cap); refine (rmaycnf_any _ f _ (H.quiet hq1)).mono ?_; rintro e w2 ⟨rfl, hq2⟩))
      go_loopw [5, 6] (fun o i wr => ∃ k : Nat, k ≤ f.length ∧ i = .int .i64 k ∧ o = .bool (anyC m (f.take k) 0) ∧ anyC m (f.take k) 2 = false ∧ Quiet w wr) (fun _ i _ => f.length - (intOf i).toNat)
      case atStart => exact ⟨0, Nat.zero_le _, rfl, rfl, rfl, hq1.trans hq2⟩
      case round =>
        obtain ⟨k, hk, rfl, rfl, hno, hqr⟩ := hrel
        by_cases hlt : k < f.length
        · obtain ⟨b, off, u, rfl, hb, hu0, HU0⟩ := H.at hlt
          have hu := (hqr.cell _).trans hu0
          have HU := HU0.quiet hqr
          have HK0 := Lib.hid (anyC_take (a := m) hlt 0)
          have HK1 := Lib.hid (anyC_take (a := m) hlt 2)
          have HA := Lib.hid (anyC_at (a := m) hlt (t := 2))
          have HN := Lib.hid hno
          clear hno hu0 HU0
          generalize f.getD k [] = c at *
          generalize anyC m (f.take k) 0 = o at *
          generalize hval : judgeL 1 2 m c = z at *
          obtain ⟨a', cap', rfl⟩ := HU.shape
          by_cases h1 : z = 2
          · have HF : Hid (cnfL m f = 2) := by show _ = _; rw [HJ.out, HA.out h1]; rfl
            subst h1
            go_wp2_with (go_at_call 16; refine (rclause_any _ _ m c _ (K.quiet hqr) HU).mono ?_; rintro e wv ⟨rfl, hq⟩; have hqw := hqr.trans hq)
            go_ret
            exact ⟨by rw [HF.out]; rfl, hqw⟩
          · have h1' : (z == 2) = false := by simpa using h1
            clear h1
            cases o
            · by_cases h0 : z = 0
              · subst h0
                go_wp2_with (go_at_call 16; refine (rclause_any _ _ m c _ (K.quiet hqr) HU).mono ?_; rintro e wv ⟨rfl, hq⟩; have hqw := hqr.trans hq)
                go_roundw
                case rel => exact ⟨k + 1, by omega, by go_num, by rw [HK0.out]; rfl, by rw [HK1.out, HN.out]; rfl, hqw⟩
                case measure => simp [intOf]; omega
              · have h0' : (z == 0) = false := by simpa using h0
                clear h0
                go_wp2_with (go_at_call 16; refine (rclause_any _ _ m c _ (K.quiet hqr) HU).mono ?_; rintro e wv ⟨rfl, hq⟩; have hqw := hqr.trans hq)
                go_roundw
                case rel => exact ⟨k + 1, by omega, by go_num, by rw [HK0.out, h0']; rfl, by rw [HK1.out, HN.out, h1']; rfl, hqw⟩
                case measure => simp [intOf]; omega
            · go_wp2_with (go_at_call 16; refine (rclause_any _ _ m c _ (K.quiet hqr) HU).mono ?_; rintro e wv ⟨rfl, hq⟩; have hqw := hqr.trans hq)
              go_roundw
              case rel => exact ⟨k + 1, by omega, by go_num, by rw [HK0.out]; rfl, by rw [HK1.out, HN.out, h1']; rfl, hqw⟩
              case measure => simp [intOf]; omega
        · rw [List.take_of_length_le (by omega)] at hno
          rw [List.take_of_length_le (by omega)]
          have HN := Lib.hid hno
          clear hno
          cases ho : anyC m f 0
          · have HF : Hid (cnfL m f = 1) := by show _ = _; rw [HJ.out, HN.out, ho]; rfl
            go_wp2
            go_ret
            exact ⟨by rw [HF.out]; rfl, hqr⟩
          · have HF : Hid (cnfL m f = 0) := by show _ = _; rw [HJ.out, HN.out, ho]; rfl
            go_wp2
            go_ret
            exact ⟨by rw [HF.out]; rfl, hqr⟩
    · have HF : Hid (cnfL m f = 0) := by show _ = _; unfold cnfL; rw [if_neg]; simp [hml]
      have hml' : mayCnfB f = false := by simpa using hml
      clear hml
      go_enter Tryd.func26, Tryd.ntmps26
      go_wp2_with (first | (go_at_call_of 36 (Value.slice a2 m.length cap2); refine (rmay_v _ m _ K).mono ?_; rintro e w1 ⟨rfl, hq1⟩) | (go_at_call_of 37 (Value.slice a f.length cap); refine (rmaycnf_any _ f _ (H.quiet hq1)).mono ?_; rintro e w2 ⟨rfl, hq2⟩))
      go_ret
      exact ⟨by rw [HF.out]; rfl, hq1.trans hq2⟩
  · have HF : Hid (cnfL m f = 0) := by show _ = _; unfold cnfL; rw [if_neg]; simp [hm]
    have hm' : mayB m = false := by simpa using hm
    clear hm
    go_enter Tryd.func26, Tryd.ntmps26
    go_wp2_with (go_at_call_of 36 (Value.slice a2 m.length cap2); refine (rmay_v _ m _ K).mono ?_; rintro e w1 ⟨rfl, hq1⟩)
    go_ret
    exact ⟨by rw [HF.out]; rfl, hq1⟩

end Go.Proofs.YtkcbicakcjflkaaDoor
