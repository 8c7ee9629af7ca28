/- Joined texts: AsgWhole, AsgCl, AsgCu. -/
import Derived.Test.YtmhjpbhldaagmaaDoorMgU
import Derived.Test.YtmhjpbhldaagmaaDoorRowsOwn
/- asg.whole over a list of ints, with the function handed to it. -/
namespace Go.Proofs.YtmhjpbhldaagmaaDoor
open Go.RowKit
set_option linter.unusedVariables false

/-- The function that is handed over answers q of a number of the list, and leaves the world. -/
def TellsI (P : Program) (g : Nat) (cb : Array Value) (q : Int → Int) (l : List Int) (w : World) : Prop :=
  ∀ x ∈ l, Calls P g (#[.int .i64 x] ++ cb) w fun e w' => e = .returned (.int .u8 (q x)) ∧ w = w'

def anyQ (q : Int → Int) (l : List Int) (t : Int) : Bool := l.any (fun x => q x == t)
def wholeL (q : Int → Int) (t f : Int) (l : List Int) : Int := if anyQ q l t then t else if anyQ q l 0 then 0 else f
theorem anyQ_take {q : Int → Int} {c : List Int} {k : Nat} (h : k < c.length) (t : Int) : anyQ q (c.take (k + 1)) t = (anyQ q (c.take k) t || (q (c.getD k 0) == t)) := by
  have e : c.take (k + 1) = c.take k ++ [c.getD k 0] := by rw [List.take_succ_eq_append_getElem h]; simp [List.getD, h]
  unfold anyQ
  rw [e, List.any_append]
  simp
theorem anyQ_at {q : Int → Int} {c : List Int} {k : Nat} (h : k < c.length) {t : Int} (ht : q (c.getD k 0) = t) : anyQ q c t = true := by
  unfold anyQ
  rw [List.any_eq_true]
  exact ⟨_, getD_mem h, by simpa using ht⟩

set_option maxHeartbeats 800000 in
set_option maxRecDepth 100000 in
theorem whole_any (q : Int → Int) (g : Nat) (cb : Array Value) (t f : Int) (v : Value) (l : List Int) (w : World)
    (eg : ∀ args w, (callFunc g args).run Tryd.prog w = .ok (.enter g args) w) (ht : TellsI Tryd.prog g cb q l w) (H : IsInts w v l) :
    Calls Tryd.prog 66 #[v, .func (.func g) #[] cb, .int .u8 t, .int .u8 f] w fun e w' => e = .returned (.int .u8 (wholeL q t f l)) ∧ w = w' := by
  have H0 := H
  obtain ⟨a, cap, rfl, _, _, hl, h64, b, off, ha, hc⟩ := H
  have HC := Lib.hid hc
  have HTE := Lib.hid ht
  clear hc ht
  go_enter Tryd.func66, Tryd.ntmps66
  go_wp2
  go_loop [3, 13] (fun r i => ∃ k : Nat, k ≤ l.length ∧ i = .int .i64 k ∧ r = .int .u8 (if anyQ q (l.take k) 0 then 0 else f) ∧ anyQ q (l.take k) t = false) (fun _ i => l.length - (intOf i).toNat)
  case atStart => exact ⟨0, Nat.zero_le _, rfl, rfl, rfl⟩
  case round =>
    obtain ⟨k, hk, rfl, rfl, hno⟩ := hrel
    by_cases hlt : k < l.length
    · obtain ⟨rfl, hb⟩ := ha (by intro h; simp [h] at hlt)
      have hy := HC.out k hlt
      have hct := HTE.out _ (getD_mem hlt)
      have HK0 := Lib.hid (anyQ_take (q := q) hlt 0)
      have HK1 := Lib.hid (anyQ_take (q := q) hlt t)
      have HA := Lib.hid (anyQ_at (q := q) hlt (t := t))
      have HN := Lib.hid hno
      clear hno
      generalize l.getD k 0 = y at *
      generalize anyQ q (l.take k) 0 = o at *
      generalize q y = z at *
      generalize hr : (if o = true then 0 else f) = r at *
      have HR := Lib.hid hr
      clear hr
      by_cases h1 : z = t
      · have HF : Hid (wholeL q t f l = t) := by show _ = _; unfold wholeL; rw [HA.out h1]; rfl
        subst h1
        go_wp2_with fail
        refine hct.mono ?_
        rintro e w1 ⟨rfl, rfl⟩
        go_wp2
        go_ret
        exact ⟨by rw [HF.out]; rfl, rfl⟩
      · have h1' : (z == t) = false := by simpa using h1
        clear h1
        by_cases h0 : z = 0
        · subst h0
          go_wp2_with fail
          refine hct.mono ?_
          rintro e w1 ⟨rfl, rfl⟩
          go_wp2
          go_round
          case rel => exact ⟨k + 1, by omega, by go_num, by rw [HK0.out]; simp, by rw [HK1.out, HN.out, h1']; rfl⟩
          case measure => simp [intOf]; omega
        · have h0' : (z == 0) = false := by simpa using h0
          clear h0
          go_wp2_with fail
          refine hct.mono ?_
          rintro e w1 ⟨rfl, rfl⟩
          go_wp2
          go_round
          case rel => exact ⟨k + 1, by omega, by go_num, by rw [HK0.out, h0', Bool.or_false, HR.out], by rw [HK1.out, HN.out, h1']; rfl⟩
          case measure => simp [intOf]; omega
    · rw [List.take_of_length_le (by omega)] at hno
      rw [List.take_of_length_le (by omega)]
      have HF : Hid (wholeL q t f l = if anyQ q l 0 = true then 0 else f) := by show _ = _; unfold wholeL; rw [hno]; rfl
      clear hno
      generalize (if anyQ q l 0 = true then 0 else f) = r at *
      go_wp2
      go_ret
      exact ⟨by rw [HF.out]; rfl, rfl⟩

end Go.Proofs.YtmhjpbhldaagmaaDoor

/- asg.clauseValue and asg.Clause. -/
namespace Go.Proofs.YtmhjpbhldaagmaaDoor
open Go.RowKit
set_option linter.unusedVariables false

set_option maxHeartbeats 800000 in
set_option maxRecDepth 100000 in
theorem cvf_any (a : Option Addr) (cap g : Nat) (m : List Int) (x : Int) (w : World) (K : IsInts w (.slice a m.length cap) m) (hm : mayB m = true) (hx : litB x = true) (hg : w.cell? ⟨g, 0, none⟩ = some (.slice a m.length cap)) :
    Calls Tryd.prog 75 (#[.int .i64 x] ++ #[.pointer (some ⟨g, 0, none⟩)]) w fun e w' => e = .returned (.int .u8 (valN m x)) ∧ w = w' := by
  show Calls Tryd.prog 75 #[.int .i64 x, .pointer (some ⟨g, 0, none⟩)] w _
  go_enter Tryd.func75, Tryd.ntmps75
  go_wp2_with (go_at_call 43; refine (value_any _ m x _ K hm hx).mono ?_; rintro e w1 ⟨rfl, rfl⟩)
  go_ret
  exact ⟨rfl, rfl⟩
theorem cvf_enters (args : Array Value) (w : World) : (callFunc 75 args).run Tryd.prog w = .ok (.enter 75 args) w := enters_of Tryd.func75 (by kernel_rfl) rfl args w

set_option maxHeartbeats 800000 in
set_option maxRecDepth 100000 in
theorem clausevalue_any (u v : Value) (m l : List Int) (w : World) (K : IsInts w u m) (H : IsInts w v l) (hm : mayB m = true) (hl : mayB l = true) :
    Calls Tryd.prog 40 #[u, v] w fun e w' => e = .returned (.int .u8 (wholeL (valN m) 1 2 l)) ∧ Below w.heap.size w w' := by
  obtain ⟨a, cap, rfl⟩ := H.shape
  obtain ⟨a2, cap2, rfl⟩ := K.shape
  have hbel : Below w.heap.size w (w.alloc (.cells #[.slice a2 m.length cap2] 23)) := (Below.refl _ w).alloc (Nat.le_refl _) _
  have H1 := H.below hbel (Nat.le_refl _)
  have K1 := K.below hbel (Nat.le_refl _)
  have hcell : (w.alloc (.cells #[.slice a2 m.length cap2] 23)).cell? ⟨w.heap.size, 0, none⟩ = some (.slice a2 m.length cap2) := World.cell?_alloc_at _ _ _ _ rfl
  have hc := whole_any (valN m) 75 #[.pointer (some ⟨w.heap.size, 0, none⟩)] 1 2 _ l _ cvf_enters (fun x hx => cvf_any a2 cap2 w.heap.size m x _ K1 hm (mayB_mem hl _ hx) hcell) H1
  go_enter Tryd.func40, Tryd.ntmps40
  go_wp2_with fail
  refine hc.mono ?_
  rintro e w1 ⟨rfl, rfl⟩
  go_wp2
  go_ret
  exact ⟨rfl, hbel⟩

theorem anyQ_eq (m l : List Int) (t : Int) (hm : mayB m = true) (hl : mayB l = true) : anyQ (valN m) l t = anyV m l t := by
  have h : ∀ x ∈ l, valL m x = valN m x := by
    intro x hx
    have := mayB_mem hl _ hx
    rw [litB_var] at this
    unfold valL
    rw [if_pos]
    exact ⟨hm, by simpa using this⟩
  unfold anyQ anyV
  rw [Bool.eq_iff_iff, List.any_eq_true, List.any_eq_true]
  constructor
  · rintro ⟨x, hx, e⟩; exact ⟨x, hx, by rw [h x hx]; exact e⟩
  · rintro ⟨x, hx, e⟩; exact ⟨x, hx, by rw [h x hx] at e; exact e⟩
theorem wholeL_eq (m l : List Int) (t f : Int) (hm : mayB m = true) (hl : mayB l = true) : wholeL (valN m) t f l = judgeL t f m l := by
  unfold wholeL judgeL
  rw [anyQ_eq m l t hm hl, anyQ_eq m l 0 hm hl, hm, hl]
  rfl

set_option maxHeartbeats 800000 in
set_option maxRecDepth 100000 in
theorem clause_any (u v : Value) (m l : List Int) (w : World) (K : IsInts w u m) (H : IsInts w v l) :
    Calls Tryd.prog 15 #[u, v] w fun e w' => e = .returned (.int .u8 (judgeL 1 2 m l)) ∧ Below w.heap.size w w' := by
  by_cases hm : mayB m = true
  · by_cases hl : mayB l = true
    · have hc := clausevalue_any u v m l w K H hm hl
      rw [wholeL_eq m l 1 2 hm hl] at hc
      have K0 := K
      have H0 := H
      obtain ⟨a, cap, rfl⟩ := H.shape
      obtain ⟨a2, cap2, rfl⟩ := K.shape
      go_enter Tryd.func15, Tryd.ntmps15
      go_wp2_with (first | (go_at_call_of 32 (Value.slice a2 m.length cap2); refine (may_v _ m _ K).mono ?_; rintro e w1 ⟨rfl, rfl⟩) | (go_at_call_of 32 (Value.slice a l.length cap); refine (may_v _ l _ H).mono ?_; rintro e w2 ⟨rfl, rfl⟩) | (go_at_call 40; refine hc.mono ?_; rintro e w3 ⟨rfl, hb⟩))
      go_ret
      exact ⟨rfl, hb⟩
    · have HF : Hid (judgeL 1 2 m l = 0) := by show _ = _; unfold judgeL; rw [if_neg]; simp [hl]
      have hl' : mayB l = false := by simpa using hl
      clear hl
      obtain ⟨a, cap, rfl⟩ := H.shape
      obtain ⟨a2, cap2, rfl⟩ := K.shape
      go_enter Tryd.func15, Tryd.ntmps15
      go_wp2_with (first | (go_at_call_of 32 (Value.slice a2 m.length cap2); refine (may_v _ m _ K).mono ?_; rintro e w1 ⟨rfl, rfl⟩) | (go_at_call_of 32 (Value.slice a l.length cap); refine (may_v _ l _ H).mono ?_; rintro e w2 ⟨rfl, rfl⟩))
      go_ret
      exact ⟨by rw [HF.out]; rfl, Below.refl _ _⟩
  · have HF : Hid (judgeL 1 2 m l = 0) := by show _ = _; unfold judgeL; rw [if_neg]; simp [hm]
    have hm' : mayB m = false := by simpa using hm
    clear hm
    obtain ⟨a, cap, rfl⟩ := H.shape
    obtain ⟨a2, cap2, rfl⟩ := K.shape
    go_enter Tryd.func15, Tryd.ntmps15
    go_wp2_with (go_at_call_of 32 (Value.slice a2 m.length cap2); refine (may_v _ m _ K).mono ?_; rintro e w1 ⟨rfl, rfl⟩)
    go_ret
    exact ⟨by rw [HF.out]; rfl, Below.refl _ _⟩

end Go.Proofs.YtmhjpbhldaagmaaDoor

/- asg.Cube. -/
namespace Go.Proofs.YtmhjpbhldaagmaaDoor
open Go.RowKit
set_option linter.unusedVariables false

set_option maxHeartbeats 800000 in
set_option maxRecDepth 100000 in
theorem cuf_any (a : Option Addr) (cap g : Nat) (m : List Int) (x : Int) (w : World) (K : IsInts w (.slice a m.length cap) m) (hm : mayB m = true) (hx : litB x = true) (hg : w.cell? ⟨g, 0, none⟩ = some (.slice a m.length cap)) :
    Calls Tryd.prog 67 (#[.int .i64 x] ++ #[.pointer (some ⟨g, 0, none⟩)]) w fun e w' => e = .returned (.int .u8 (valN m x)) ∧ w = w' := by
  show Calls Tryd.prog 67 #[.int .i64 x, .pointer (some ⟨g, 0, none⟩)] w _
  go_enter Tryd.func67, Tryd.ntmps67
  go_wp2_with (go_at_call 43; refine (value_any _ m x _ K hm hx).mono ?_; rintro e w1 ⟨rfl, rfl⟩)
  go_ret
  exact ⟨rfl, rfl⟩
theorem cuf_enters (args : Array Value) (w : World) : (callFunc 67 args).run Tryd.prog w = .ok (.enter 67 args) w := enters_of Tryd.func67 (by kernel_rfl) rfl args w

set_option maxHeartbeats 800000 in
set_option maxRecDepth 100000 in
theorem cube_any (u v : Value) (m l : List Int) (w : World) (K : IsInts w u m) (H : IsInts w v l) :
    Calls Tryd.prog 29 #[u, v] w fun e w' => e = .returned (.int .u8 (judgeL 2 1 m l)) ∧ Below w.heap.size w w' := by
  obtain ⟨a, cap, rfl⟩ := H.shape
  obtain ⟨a2, cap2, rfl⟩ := K.shape
  have hbel : Below w.heap.size w (w.alloc (.cells #[.slice a2 m.length cap2] 23)) := (Below.refl _ w).alloc (Nat.le_refl _) _
  have H1 := H.below hbel (Nat.le_refl _)
  have K1 := K.below hbel (Nat.le_refl _)
  have hcell : (w.alloc (.cells #[.slice a2 m.length cap2] 23)).cell? ⟨w.heap.size, 0, none⟩ = some (.slice a2 m.length cap2) := World.cell?_alloc_at _ _ _ _ rfl
  by_cases hm : mayB m = true
  · by_cases hl : mayB l = true
    · have hc := whole_any (valN m) 67 #[.pointer (some ⟨w.heap.size, 0, none⟩)] 2 1 _ l _ cuf_enters (fun x hx => cuf_any a2 cap2 w.heap.size m x _ K1 hm (mayB_mem hl _ hx) hcell) H1
      rw [wholeL_eq m l 2 1 hm hl] at hc
      go_enter Tryd.func29, Tryd.ntmps29
      go_wp2_with (first | (go_at_call_of 32 (Value.slice a2 m.length cap2); refine (may_v _ m _ K1).mono ?_; rintro e w1 ⟨rfl, rfl⟩) | (go_at_call_of 32 (Value.slice a l.length cap); refine (may_v _ l _ H1).mono ?_; rintro e w2 ⟨rfl, rfl⟩) | (go_at_call 66; refine hc.mono ?_; rintro e w3 ⟨rfl, rfl⟩))
      go_ret
      exact ⟨rfl, hbel⟩
    · have HF : Hid (judgeL 2 1 m l = 0) := by show _ = _; unfold judgeL; rw [if_neg]; simp [hl]
      have hl' : mayB l = false := by simpa using hl
      clear hl
      go_enter Tryd.func29, Tryd.ntmps29
      go_wp2_with (first | (go_at_call_of 32 (Value.slice a2 m.length cap2); refine (may_v _ m _ K1).mono ?_; rintro e w1 ⟨rfl, rfl⟩) | (go_at_call_of 32 (Value.slice a l.length cap); refine (may_v _ l _ H1).mono ?_; rintro e w2 ⟨rfl, rfl⟩))
      go_ret
      exact ⟨by rw [HF.out]; rfl, hbel⟩
  · have HF : Hid (judgeL 2 1 m l = 0) := by show _ = _; unfold judgeL; rw [if_neg]; simp [hm]
    have hm' : mayB m = false := by simpa using hm
    clear hm
    go_enter Tryd.func29, Tryd.ntmps29
    go_wp2_with (go_at_call_of 32 (Value.slice a2 m.length cap2); refine (may_v _ m _ K1).mono ?_; rintro e w1 ⟨rfl, rfl⟩)
    go_ret
    exact ⟨by rw [HF.out]; rfl, hbel⟩

end Go.Proofs.YtmhjpbhldaagmaaDoor
