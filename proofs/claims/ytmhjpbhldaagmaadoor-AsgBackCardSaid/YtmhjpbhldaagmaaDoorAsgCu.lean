/- asg.Cube. -/
import Derived.Test.YtmhjpbhldaagmaaDoorAsgCl
namespace Go.Proofs.YtmhjpbhldaagmaaDoor
open Go.RowKit
set_option linter.unusedVariables false

set_option maxHeartbeats 800000 in
set_option maxRecDepth 100000 in
theorem cuf_any (a : Option Addr) (cap g : Nat) (m : List Int) (x : Int) (w : World) (K : IsInts w (.slice a m.length cap) m) (hm : mayB m = true) (hx : litB x = true) (hg : w.cell? ⟨g, 0, none⟩ = some (.slice a m.length cap)) :
    Calls Tryd.prog 67 (#[.int .i64 x] ++ #[.pointer (some ⟨g, 0, none⟩)]) w fun e w' => e = .returned (.int .u8 (valN m x)) ∧ w = w' := by
  show Calls Tryd.prog 67 #[.int .i64 x, .pointer (some ⟨g, 0, none⟩)] w _
  go_enter Tryd.func67, Tryd.ntmps67
  go_wp2_with (go_at_call 43; refine (value_any _ m x _ K hm hx).mono ?_; rintro e w1 ⟨rfl, rfl⟩)
  go_ret
  exact ⟨rfl, rfl⟩
theorem cuf_enters (args : Array Value) (w : World) : (callFunc 67 args).run Tryd.prog w = .ok (.enter 67 args) w := enters_of Tryd.func67 (by kernel_rfl) rfl args w

set_option maxHeartbeats 800000 in
set_option maxRecDepth 100000 in
theorem cube_any (u v : Value) (m l : List Int) (w : World) (K : IsInts w u m) (H : IsInts w v l) :
    Calls Tryd.prog 29 #[u, v] w fun e w' => e = .returned (.int .u8 (judgeL 2 1 m l)) ∧ Below w.heap.size w w' := by
  obtain ⟨a, cap, rfl⟩ := H.shape
  obtain ⟨a2, cap2, rfl⟩ := K.shape
  have hbel : Below w.heap.size w (w.alloc (.cells #[.slice a2 m.length cap2] 23)) := (Below.refl _ w).alloc (Nat.le_refl _) _
  have H1 := H.below hbel (Nat.le_refl _)
  have K1 := K.below hbel (Nat.le_refl _)
  have hcell : (w.alloc (.cells #[.slice a2 m.length cap2] 23)).cell? ⟨w.heap.size, 0, none⟩ = some (.slice a2 m.length cap2) := World.cell?_alloc_at _ _ _ _ rfl
  by_cases hm : mayB m = true
  · by_cases hl : mayB l = true
    · have hc := whole_any (valN m) 67 #[.pointer (some ⟨w.heap.size, 0, none⟩)] 2 1 _ l _ cuf_enters (fun x hx => cuf_any a2 cap2 w.heap.size m x _ K1 hm (mayB_mem hl _ hx) hcell) H1
      rw [wholeL_eq m l 2 1 hm hl] at hc
      go_enter Tryd.func29, Tryd.ntmps29
      go_wp2_with (first | (go_at_call_of 32 (Value.slice a2 m.length cap2); refine (may_v _ m _ K1).mono ?_; rintro e w1 ⟨rfl, rfl⟩) | (go_at_call_of 32 (Value.slice a l.length cap); refine (may_v _ l _ H1).mono ?_; rintro e w2 ⟨rfl, rfl⟩) | (go_at_call 66; refine hc.mono ?_; rintro e w3 ⟨rfl, rfl⟩))
      go_ret
      exact ⟨rfl, hbel⟩
    · have HF : Hid (judgeL 2 1 m l = 0) := by show _ = _; unfold judgeL; rw [if_neg]; simp [hl]
      have hl' : mayB l = false := by simpa using hl
      clear hl
      go_enter Tryd.func29, Tryd.ntmps29
      go_wp2_with (first | (go_at_call_of 32 (Value.slice a2 m.length cap2); refine (may_v _ m _ K1).mono ?_; rintro e w1 ⟨rfl, rfl⟩) | (go_at_call_of 32 (Value.slice a l.length cap); refine (may_v _ l _ H1).mono ?_; rintro e w2 ⟨rfl, rfl⟩))
      go_ret
      exact ⟨by rw [HF.out]; rfl, hbel⟩
  · have HF : Hid (judgeL 2 1 m l = 0) := by show _ = _; unfold judgeL; rw [if_neg]; simp [hm]
    have hm' : mayB m = false := by simpa using hm
    clear hm
    go_enter Tryd.func29, Tryd.ntmps29
    go_wp2_with (go_at_call_of 32 (Value.slice a2 m.length cap2); refine (may_v _ m _ K1).mono ?_; rintro e w1 ⟨rfl, rfl⟩)
    go_ret
    exact ⟨by rw [HF.out]; rfl, hbel⟩

end Go.Proofs.YtmhjpbhldaagmaaDoor
