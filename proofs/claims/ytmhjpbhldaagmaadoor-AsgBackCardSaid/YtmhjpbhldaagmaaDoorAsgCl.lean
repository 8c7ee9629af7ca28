/- asg.clauseValue and asg.Clause. -/
import Derived.Test.YtmhjpbhldaagmaaDoorAsgWhole
import Derived.Test.YtmhjpbhldaagmaaDoorRowsOwn
namespace Go.Proofs.YtmhjpbhldaagmaaDoor
open Go.RowKit
set_option linter.unusedVariables false

set_option maxHeartbeats 800000 in
set_option maxRecDepth 100000 in
theorem cvf_any (a : Option Addr) (cap g : Nat) (m : List Int) (x : Int) (w : World) (K : IsInts w (.slice a m.length cap) m) (hm : mayB m = true) (hx : litB x = true) (hg : w.cell? ⟨g, 0, none⟩ = some (.slice a m.length cap)) :
    Calls Tryd.prog 75 (#[.int .i64 x] ++ #[.pointer (some ⟨g, 0, none⟩)]) w fun e w' => e = .returned (.int .u8 (valN m x)) ∧ w = w' := by
  show Calls Tryd.prog 75 #[.int .i64 x, .pointer (some ⟨g, 0, none⟩)] w _
  go_enter Tryd.func75, Tryd.ntmps75
  go_wp2_with (go_at_call 43; refine (value_any _ m x _ K hm hx).mono ?_; rintro e w1 ⟨rfl, rfl⟩)
  go_ret
  exact ⟨rfl, rfl⟩
theorem cvf_enters (args : Array Value) (w : World) : (callFunc 75 args).run Tryd.prog w = .ok (.enter 75 args) w := enters_of Tryd.func75 (by kernel_rfl) rfl args w

set_option maxHeartbeats 800000 in
set_option maxRecDepth 100000 in
theorem clausevalue_any (u v : Value) (m l : List Int) (w : World) (K : IsInts w u m) (H : IsInts w v l) (hm : mayB m = true) (hl : mayB l = true) :
    Calls Tryd.prog 40 #[u, v] w fun e w' => e = .returned (.int .u8 (wholeL (valN m) 1 2 l)) ∧ Below w.heap.size w w' := by
  obtain ⟨a, cap, rfl⟩ := H.shape
  obtain ⟨a2, cap2, rfl⟩ := K.shape
  have hbel : Below w.heap.size w (w.alloc (.cells #[.slice a2 m.length cap2] 23)) := (Below.refl _ w).alloc (Nat.le_refl _) _
  have H1 := H.below hbel (Nat.le_refl _)
  have K1 := K.below hbel (Nat.le_refl _)
  have hcell : (w.alloc (.cells #[.slice a2 m.length cap2] 23)).cell? ⟨w.heap.size, 0, none⟩ = some (.slice a2 m.length cap2) := World.cell?_alloc_at _ _ _ _ rfl
  have hc := whole_any (valN m) 75 #[.pointer (some ⟨w.heap.size, 0, none⟩)] 1 2 _ l _ cvf_enters (fun x hx => cvf_any a2 cap2 w.heap.size m x _ K1 hm (mayB_mem hl _ hx) hcell) H1
  go_enter Tryd.func40, Tryd.ntmps40
  go_wp2_with fail
  refine hc.mono ?_
  rintro e w1 ⟨rfl, rfl⟩
  go_wp2
  go_ret
  exact ⟨rfl, hbel⟩

theorem anyQ_eq (m l : List Int) (t : Int) (hm : mayB m = true) (hl : mayB l = true) : anyQ (valN m) l t = anyV m l t := by
  have h : ∀ x ∈ l, valL m x = valN m x := by
    intro x hx
    have := mayB_mem hl _ hx
    rw [litB_var] at this
    unfold valL
    rw [if_pos]
    exact ⟨hm, by simpa using this⟩
  unfold anyQ anyV
  rw [Bool.eq_iff_iff, List.any_eq_true, List.any_eq_true]
  constructor
  · rintro ⟨x, hx, e⟩; exact ⟨x, hx, by rw [h x hx]; exact e⟩
  · rintro ⟨x, hx, e⟩; exact ⟨x, hx, by rw [h x hx] at e; exact e⟩
theorem wholeL_eq (m l : List Int) (t f : Int) (hm : mayB m = true) (hl : mayB l = true) : wholeL (valN m) t f l = judgeL t f m l := by
  unfold wholeL judgeL
  rw [anyQ_eq m l t hm hl, anyQ_eq m l 0 hm hl, hm, hl]
  rfl

set_option maxHeartbeats 800000 in
set_option maxRecDepth 100000 in
theorem clause_any (u v : Value) (m l : List Int) (w : World) (K : IsInts w u m) (H : IsInts w v l) :
    Calls Tryd.prog 15 #[u, v] w fun e w' => e = .returned (.int .u8 (judgeL 1 2 m l)) ∧ Below w.heap.size w w' := by
  by_cases hm : mayB m = true
  · by_cases hl : mayB l = true
    · have hc := clausevalue_any u v m l w K H hm hl
      rw [wholeL_eq m l 1 2 hm hl] at hc
      have K0 := K
      have H0 := H
      obtain ⟨a, cap, rfl⟩ := H.shape
      obtain ⟨a2, cap2, rfl⟩ := K.shape
      go_enter Tryd.func15, Tryd.ntmps15
      go_wp2_with (first | (go_at_call_of 32 (Value.slice a2 m.length cap2); refine (may_v _ m _ K).mono ?_; rintro e w1 ⟨rfl, rfl⟩) | (go_at_call_of 32 (Value.slice a l.length cap); refine (may_v _ l _ H).mono ?_; rintro e w2 ⟨rfl, rfl⟩) | (go_at_call 40; refine hc.mono ?_; rintro e w3 ⟨rfl, hb⟩))
      go_ret
      exact ⟨rfl, hb⟩
    · have HF : Hid (judgeL 1 2 m l = 0) := by show _ = _; unfold judgeL; rw [if_neg]; simp [hl]
      have hl' : mayB l = false := by simpa using hl
      clear hl
      obtain ⟨a, cap, rfl⟩ := H.shape
      obtain ⟨a2, cap2, rfl⟩ := K.shape
      go_enter Tryd.func15, Tryd.ntmps15
      go_wp2_with (first | (go_at_call_of 32 (Value.slice a2 m.length cap2); refine (may_v _ m _ K).mono ?_; rintro e w1 ⟨rfl, rfl⟩) | (go_at_call_of 32 (Value.slice a l.length cap); refine (may_v _ l _ H).mono ?_; rintro e w2 ⟨rfl, rfl⟩))
      go_ret
      exact ⟨by rw [HF.out]; rfl, Below.refl _ _⟩
  · have HF : Hid (judgeL 1 2 m l = 0) := by show _ = _; unfold judgeL; rw [if_neg]; simp [hm]
    have hm' : mayB m = false := by simpa using hm
    clear hm
    obtain ⟨a, cap, rfl⟩ := H.shape
    obtain ⟨a2, cap2, rfl⟩ := K.shape
    go_enter Tryd.func15, Tryd.ntmps15
    go_wp2_with (go_at_call_of 32 (Value.slice a2 m.length cap2); refine (may_v _ m _ K).mono ?_; rintro e w1 ⟨rfl, rfl⟩)
    go_ret
    exact ⟨by rw [HF.out]; rfl, Below.refl _ _⟩

end Go.Proofs.YtmhjpbhldaagmaaDoor
