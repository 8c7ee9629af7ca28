/- asg.whole over a list of ints, with the function handed to it. -/
import Derived.Test.YtmhjpbhldaagmaaDoorAsgRCl
namespace Go.Proofs.YtmhjpbhldaagmaaDoor
open Go.RowKit
set_option linter.unusedVariables false

/-- The function that is handed over answers q of a number of the list, and leaves the world. -/
def TellsI (P : Program) (g : Nat) (cb : Array Value) (q : Int → Int) (l : List Int) (w : World) : Prop :=
  ∀ x ∈ l, Calls P g (#[.int .i64 x] ++ cb) w fun e w' => e = .returned (.int .u8 (q x)) ∧ w = w'

def anyQ (q : Int → Int) (l : List Int) (t : Int) : Bool := l.any (fun x => q x == t)
def wholeL (q : Int → Int) (t f : Int) (l : List Int) : Int := if anyQ q l t then t else if anyQ q l 0 then 0 else f
theorem anyQ_take {q : Int → Int} {c : List Int} {k : Nat} (h : k < c.length) (t : Int) : anyQ q (c.take (k + 1)) t = (anyQ q (c.take k) t || (q (c.getD k 0) == t)) := by
  have e : c.take (k + 1) = c.take k ++ [c.getD k 0] := by rw [List.take_succ_eq_append_getElem h]; simp [List.getD, h]
  unfold anyQ
  rw [e, List.any_append]
  simp
theorem anyQ_at {q : Int → Int} {c : List Int} {k : Nat} (h : k < c.length) {t : Int} (ht : q (c.getD k 0) = t) : anyQ q c t = true := by
  unfold anyQ
  rw [List.any_eq_true]
  exact ⟨_, getD_mem h, by simpa using ht⟩

set_option maxHeartbeats 800000 in
set_option maxRecDepth 100000 in
theorem whole_any (q : Int → Int) (g : Nat) (cb : Array Value) (t f : Int) (v : Value) (l : List Int) (w : World)
    (eg : ∀ args w, (callFunc g args).run Tryd.prog w = .ok (.enter g args) w) (ht : TellsI Tryd.prog g cb q l w) (H : IsInts w v l) :
    Calls Tryd.prog 66 #[v, .func (.func g) #[] cb, .int .u8 t, .int .u8 f] w fun e w' => e = .returned (.int .u8 (wholeL q t f l)) ∧ w = w' := by
  have H0 := H
  obtain ⟨a, cap, rfl, _, _, hl, h64, b, off, ha, hc⟩ := H
  have HC := Lib.hid hc
  have HTE := Lib.hid ht
  clear hc ht
  go_enter Tryd.func66, Tryd.ntmps66
  go_wp2
  go_loop [3, 13] (fun r i => ∃ k : Nat, k ≤ l.length ∧ i = .int .i64 k ∧ r = .int .u8 (if anyQ q (l.take k) 0 then 0 else f) ∧ anyQ q (l.take k) t = false) (fun _ i => l.length - (intOf i).toNat)
  case atStart => exact ⟨0, Nat.zero_le _, rfl, rfl, rfl⟩
  case round =>
    obtain ⟨k, hk, rfl, rfl, hno⟩ := hrel
    by_cases hlt : k < l.length
    · obtain ⟨rfl, hb⟩ := ha (by intro h; simp [h] at hlt)
      have hy := HC.out k hlt
      have hct := HTE.out _ (getD_mem hlt)
      have HK0 := Lib.hid (anyQ_take (q := q) hlt 0)
      have HK1 := Lib.hid (anyQ_take (q := q) hlt t)
      have HA := Lib.hid (anyQ_at (q := q) hlt (t := t))
      have HN := Lib.hid hno
      clear hno
      generalize l.getD k 0 = y at *
      generalize anyQ q (l.take k) 0 = o at *
      generalize q y = z at *
      generalize hr : (if o = true then 0 else f) = r at *
      have HR := Lib.hid hr
      clear hr
      by_cases h1 : z = t
      · have HF : Hid (wholeL q t f l = t) := by show _ = _; unfold wholeL; rw [HA.out h1]; rfl
        subst h1
        go_wp2_with fail
        refine hct.mono ?_
        rintro e w1 ⟨rfl, rfl⟩
        go_wp2
        go_ret
        exact ⟨by rw [HF.out]; rfl, rfl⟩
      · have h1' : (z == t) = false := by simpa using h1
        clear h1
        by_cases h0 : z = 0
        · subst h0
          go_wp2_with fail
          refine hct.mono ?_
          rintro e w1 ⟨rfl, rfl⟩
          go_wp2
          go_round
          case rel => exact ⟨k + 1, by omega, by go_num, by rw [HK0.out]; simp, by rw [HK1.out, HN.out, h1']; rfl⟩
          case measure => simp [intOf]; omega
        · have h0' : (z == 0) = false := by simpa using h0
          clear h0
          go_wp2_with fail
          refine hct.mono ?_
          rintro e w1 ⟨rfl, rfl⟩
          go_wp2
          go_round
          case rel => exact ⟨k + 1, by omega, by go_num, by rw [HK0.out, h0', Bool.or_false, HR.out], by rw [HK1.out, HN.out, h1']; rfl⟩
          case measure => simp [intOf]; omega
    · rw [List.take_of_length_le (by omega)] at hno
      rw [List.take_of_length_le (by omega)]
      have HF : Hid (wholeL q t f l = if anyQ q l 0 = true then 0 else f) := by show _ = _; unfold wholeL; rw [hno]; rfl
      clear hno
      generalize (if anyQ q l 0 = true then 0 else f) = r at *
      go_wp2
      go_ret
      exact ⟨by rw [HF.out]; rfl, rfl⟩

end Go.Proofs.YtmhjpbhldaagmaaDoor
