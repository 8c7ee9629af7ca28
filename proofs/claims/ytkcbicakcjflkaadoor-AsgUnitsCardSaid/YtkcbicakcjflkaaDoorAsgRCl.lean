/- The reference's Clause and Cube. -/
import Derived.Test.YtkcbicakcjflkaaDoorAsgRest
namespace Go.Proofs.YtkcbicakcjflkaaDoor
open Go.RowKit
set_option linter.unusedVariables false

def anyV (a c : List Int) (t : Int) : Bool := c.any (fun x => valL a x == t)
/-- What a list of literals is: t settles it, 0 leaves it open, f when neither is there. -/
def judgeL (t f : Int) (a c : List Int) : Int := if mayB a && mayB c then (if anyV a c t then t else if anyV a c 0 then 0 else f) else 0
theorem anyV_take {a c : List Int} {k : Nat} (h : k < c.length) (t : Int) : anyV a (c.take (k + 1)) t = (anyV a (c.take k) t || (valL a (c.getD k 0) == t)) := by
  have e : c.take (k + 1) = c.take k ++ [c.getD k 0] := by rw [List.take_succ_eq_append_getElem h]; simp [List.getD, h]
  unfold anyV
  rw [e, List.any_append]
  simp
theorem anyV_at {a c : List Int} {k : Nat} (h : k < c.length) {t : Int} (ht : valL a (c.getD k 0) = t) : anyV a c t = true := by
  unfold anyV
  rw [List.any_eq_true]
  exact ⟨_, getD_mem h, by simpa using ht⟩

set_option maxHeartbeats 800000 in
set_option maxRecDepth 100000 in
theorem rclause_any (u v : Value) (m l : List Int) (w : World) (K : IsInts w u m) (H : IsInts w v l) :
    Calls Tryd.prog 16 #[u, v] w fun e w' => e = .returned (.int .u8 (judgeL 1 2 m l)) ∧ Quiet w w' := by
  have H0 := H
  obtain ⟨a, cap, rfl, _, _, hl, h64, b, off, ha, hc⟩ := H
  obtain ⟨a2, cap2, rfl⟩ := K.shape
  have HC := Lib.hid hc
  clear hc
  by_cases hm : mayB m = true
  · by_cases hml : mayB l = true
    · have HJ : Hid (judgeL 1 2 m l = if anyV m l 1 then 1 else if anyV m l 0 then 0 else 2) := by show _ = _; unfold judgeL; rw [hm, hml]; rfl
      go_enter Tryd.func16, Tryd.ntmps16
      go_wp2_with (first | (go_at_call_of 36 (Value.slice a2 m.length cap2); refine (rmay_v _ m _ K).mono ?_; rintro e w1 ⟨rfl, hq1⟩) | (go_at_call_of 36 (Value.slice a l.length cap); refine (rmay_v _ l _ (H0.quiet hq1)).mono ?_; rintro e w2 ⟨rfl, hq2⟩))
      go_loopw [5, 6] (fun o i wr => ∃ k : Nat, k ≤ l.length ∧ i = .int .i64 k ∧ o = .bool (anyV m (l.take k) 0) ∧ anyV m (l.take k) 1 = false ∧ Quiet w wr) (fun _ i _ => l.length - (intOf i).toNat)
      case atStart => exact ⟨0, Nat.zero_le _, rfl, rfl, rfl, hq1.trans hq2⟩
      case round =>
        obtain ⟨k, hk, rfl, rfl, hno, hqr⟩ := hrel
        by_cases hlt : k < l.length
        · obtain ⟨rfl, hb⟩ := ha (by intro h; simp [h] at hlt)
          have hy := (hqr.cell ⟨b, off + k, none⟩).trans (HC.out k hlt)
          have hy1 := (h64.at k hlt).1
          have hy2 := (h64.at k hlt).2
          have HK0 := Lib.hid (anyV_take (a := m) hlt 0)
          have HK1 := Lib.hid (anyV_take (a := m) hlt 1)
          have HA := Lib.hid (anyV_at (a := m) hlt (t := 1))
          have HN := Lib.hid hno
          clear hno
          generalize l.getD k 0 = y at *
          generalize anyV m (l.take k) 0 = o at *
          generalize hval : valL m y = z at *
          by_cases h1 : z = 1
          · have HF : Hid (judgeL 1 2 m l = 1) := by show _ = _; rw [HJ.out, HA.out h1]; rfl
            subst h1
            go_wp2_with (go_at_call 14; refine (ravalue_any _ m y _ (K.quiet hqr) hy1 hy2).mono ?_; rintro e wv ⟨rfl, hq⟩; have hqw := hqr.trans hq)
            go_ret
            exact ⟨by rw [HF.out]; rfl, hqw⟩
          · have h1' : (z == 1) = false := by simpa using h1
            clear h1
            cases o
            · by_cases h0 : z = 0
              · subst h0
                go_wp2_with (go_at_call 14; refine (ravalue_any _ m y _ (K.quiet hqr) hy1 hy2).mono ?_; rintro e wv ⟨rfl, hq⟩; have hqw := hqr.trans hq)
                go_roundw
                case rel => exact ⟨k + 1, by omega, by go_num, by rw [HK0.out]; rfl, by rw [HK1.out, HN.out]; rfl, hqw⟩
                case measure => simp [intOf]; omega
              · have h0' : (z == 0) = false := by simpa using h0
                clear h0
                go_wp2_with (go_at_call 14; refine (ravalue_any _ m y _ (K.quiet hqr) hy1 hy2).mono ?_; rintro e wv ⟨rfl, hq⟩; have hqw := hqr.trans hq)
                go_roundw
                case rel => exact ⟨k + 1, by omega, by go_num, by rw [HK0.out, h0']; rfl, by rw [HK1.out, HN.out, h1']; rfl, hqw⟩
                case measure => simp [intOf]; omega
            · go_wp2_with (go_at_call 14; refine (ravalue_any _ m y _ (K.quiet hqr) hy1 hy2).mono ?_; rintro e wv ⟨rfl, hq⟩; have hqw := hqr.trans hq)
              go_roundw
              case rel => exact ⟨k + 1, by omega, by go_num, by rw [HK0.out]; rfl, by rw [HK1.out, HN.out, h1']; rfl, hqw⟩
              case measure => simp [intOf]; omega
        · rw [List.take_of_length_le (by omega)] at hno
          rw [List.take_of_length_le (by omega)]
          have HN := Lib.hid hno
          clear hno
          cases ho : anyV m l 0
          · have HF : Hid (judgeL 1 2 m l = 2) := by show _ = _; rw [HJ.out, HN.out, ho]; rfl
            go_wp2
            go_ret
            exact ⟨by rw [HF.out]; rfl, hqr⟩
          · have HF : Hid (judgeL 1 2 m l = 0) := by show _ = _; rw [HJ.out, HN.out, ho]; rfl
            go_wp2
            go_ret
            exact ⟨by rw [HF.out]; rfl, hqr⟩
    · have HF : Hid (judgeL 1 2 m l = 0) := by show _ = _; unfold judgeL; rw [if_neg]; simp [hml]
      have hml' : mayB l = false := by simpa using hml
      clear hml
      go_enter Tryd.func16, Tryd.ntmps16
      go_wp2_with (first | (go_at_call_of 36 (Value.slice a2 m.length cap2); refine (rmay_v _ m _ K).mono ?_; rintro e w1 ⟨rfl, hq1⟩) | (go_at_call_of 36 (Value.slice a l.length cap); refine (rmay_v _ l _ (H0.quiet hq1)).mono ?_; rintro e w2 ⟨rfl, hq2⟩))
      go_ret
      exact ⟨by rw [HF.out]; rfl, hq1.trans hq2⟩
  · have HF : Hid (judgeL 1 2 m l = 0) := by show _ = _; unfold judgeL; rw [if_neg]; simp [hm]
    have hm' : mayB m = false := by simpa using hm
    clear hm
    go_enter Tryd.func16, Tryd.ntmps16
    go_wp2_with (go_at_call_of 36 (Value.slice a2 m.length cap2); refine (rmay_v _ m _ K).mono ?_; rintro e w1 ⟨rfl, hq1⟩)
    go_ret
    exact ⟨by rw [HF.out]; rfl, hq1⟩

set_option maxHeartbeats 800000 in
set_option maxRecDepth 100000 in
theorem rcube_any (u v : Value) (m l : List Int) (w : World) (K : IsInts w u m) (H : IsInts w v l) :
    Calls Tryd.prog 18 #[u, v] w fun e w' => e = .returned (.int .u8 (judgeL 2 1 m l)) ∧ Quiet w w' := by
  have H0 := H
  obtain ⟨a, cap, rfl, _, _, hl, h64, b, off, ha, hc⟩ := H
  obtain ⟨a2, cap2, rfl⟩ := K.shape
  have HC := Lib.hid hc
  clear hc
  by_cases hm : mayB m = true
  · by_cases hml : mayB l = true
    · have HJ : Hid (judgeL 2 1 m l = if anyV m l 2 then 2 else if anyV m l 0 then 0 else 1) := by show _ = _; unfold judgeL; rw [hm, hml]; rfl
      go_enter Tryd.func18, Tryd.ntmps18
      go_wp2_with (first | (go_at_call_of 36 (Value.slice a2 m.length cap2); refine (rmay_v _ m _ K).mono ?_; rintro e w1 ⟨rfl, hq1⟩) | (go_at_call_of 36 (Value.slice a l.length cap); refine (rmay_v _ l _ (H0.quiet hq1)).mono ?_; rintro e w2 ⟨rfl, hq2⟩))
      go_loopw [5, 6] (fun o i wr => ∃ k : Nat, k ≤ l.length ∧ i = .int .i64 k ∧ o = .bool (anyV m (l.take k) 0) ∧ anyV m (l.take k) 2 = false ∧ Quiet w wr) (fun _ i _ => l.length - (intOf i).toNat)
      case atStart => exact ⟨0, Nat.zero_le _, rfl, rfl, rfl, hq1.trans hq2⟩
      case round =>
        obtain ⟨k, hk, rfl, rfl, hno, hqr⟩ := hrel
        by_cases hlt : k < l.length
        · obtain ⟨rfl, hb⟩ := ha (by intro h; simp [h] at hlt)
          have hy := (hqr.cell ⟨b, off + k, none⟩).trans (HC.out k hlt)
          have hy1 := (h64.at k hlt).1
          have hy2 := (h64.at k hlt).2
          have HK0 := Lib.hid (anyV_take (a := m) hlt 0)
          have HK1 := Lib.hid (anyV_take (a := m) hlt 2)
          have HA := Lib.hid (anyV_at (a := m) hlt (t := 2))
          have HN := Lib.hid hno
          clear hno
          generalize l.getD k 0 = y at *
          generalize anyV m (l.take k) 0 = o at *
          generalize hval : valL m y = z at *
          by_cases h1 : z = 2
          · have HF : Hid (judgeL 2 1 m l = 2) := by show _ = _; rw [HJ.out, HA.out h1]; rfl
            subst h1
            go_wp2_with (go_at_call 14; refine (ravalue_any _ m y _ (K.quiet hqr) hy1 hy2).mono ?_; rintro e wv ⟨rfl, hq⟩; have hqw := hqr.trans hq)
            go_ret
            exact ⟨by rw [HF.out]; rfl, hqw⟩
          · have h1' : (z == 2) = false := by simpa using h1
            clear h1
            cases o
            · by_cases h0 : z = 0
              · subst h0
                go_wp2_with (go_at_call 14; refine (ravalue_any _ m y _ (K.quiet hqr) hy1 hy2).mono ?_; rintro e wv ⟨rfl, hq⟩; have hqw := hqr.trans hq)
                go_roundw
                case rel => exact ⟨k + 1, by omega, by go_num, by rw [HK0.out]; rfl, by rw [HK1.out, HN.out]; rfl, hqw⟩
                case measure => simp [intOf]; omega
              · have h0' : (z == 0) = false := by simpa using h0
                clear h0
                go_wp2_with (go_at_call 14; refine (ravalue_any _ m y _ (K.quiet hqr) hy1 hy2).mono ?_; rintro e wv ⟨rfl, hq⟩; have hqw := hqr.trans hq)
                go_roundw
                case rel => exact ⟨k + 1, by omega, by go_num, by rw [HK0.out, h0']; rfl, by rw [HK1.out, HN.out, h1']; rfl, hqw⟩
                case measure => simp [intOf]; omega
            · go_wp2_with (go_at_call 14; refine (ravalue_any _ m y _ (K.quiet hqr) hy1 hy2).mono ?_; rintro e wv ⟨rfl, hq⟩; have hqw := hqr.trans hq)
              go_roundw
              case rel => exact ⟨k + 1, by omega, by go_num, by rw [HK0.out]; rfl, by rw [HK1.out, HN.out, h1']; rfl, hqw⟩
              case measure => simp [intOf]; omega
        · rw [List.take_of_length_le (by omega)] at hno
          rw [List.take_of_length_le (by omega)]
          have HN := Lib.hid hno
          clear hno
          cases ho : anyV m l 0
          · have HF : Hid (judgeL 2 1 m l = 1) := by show _ = _; rw [HJ.out, HN.out, ho]; rfl
            go_wp2
            go_ret
            exact ⟨by rw [HF.out]; rfl, hqr⟩
          · have HF : Hid (judgeL 2 1 m l = 0) := by show _ = _; rw [HJ.out, HN.out, ho]; rfl
            go_wp2
            go_ret
            exact ⟨by rw [HF.out]; rfl, hqr⟩
    · have HF : Hid (judgeL 2 1 m l = 0) := by show _ = _; unfold judgeL; rw [if_neg]; simp [hml]
      have hml' : mayB l = false := by simpa using hml
      clear hml
      go_enter Tryd.func18, Tryd.ntmps18
      go_wp2_with (first | (go_at_call_of 36 (Value.slice a2 m.length cap2); refine (rmay_v _ m _ K).mono ?_; rintro e w1 ⟨rfl, hq1⟩) | (go_at_call_of 36 (Value.slice a l.length cap); refine (rmay_v _ l _ (H0.quiet hq1)).mono ?_; rintro e w2 ⟨rfl, hq2⟩))
      go_ret
      exact ⟨by rw [HF.out]; rfl, hq1.trans hq2⟩
  · have HF : Hid (judgeL 2 1 m l = 0) := by show _ = _; unfold judgeL; rw [if_neg]; simp [hm]
    have hm' : mayB m = false := by simpa using hm
    clear hm
    go_enter Tryd.func18, Tryd.ntmps18
    go_wp2_with (go_at_call_of 36 (Value.slice a2 m.length cap2); refine (rmay_v _ m _ K).mono ?_; rintro e w1 ⟨rfl, hq1⟩)
    go_ret
    exact ⟨by rw [HF.out]; rfl, hq1⟩

end Go.Proofs.YtkcbicakcjflkaaDoor
