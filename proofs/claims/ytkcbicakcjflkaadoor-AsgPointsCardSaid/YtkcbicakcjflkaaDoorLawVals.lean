/- The law on values, walked. -/
import Derived.Test.YtkcbicakcjflkaaDoorAwk2
import Derived.Test.YtkcbicakcjflkaaDoorAsgAgree
import Derived.Test.YtkcbicakcjflkaaDoorAsgRCl
namespace Go.Proofs.YtkcbicakcjflkaaDoor
open Go.RowKit
set_option linter.unusedVariables false
set_option linter.unusedSimpArgs false

theorem awakezX {w W : World} (hb : Below w.heap.size w W) (hS : SameAz w) : Calls Tryd.prog 12 #[] W (fun e w' => e = .returned (.bool true) ∧ Below w.heap.size w w') :=
  (awakez_any W (hS.below hb hS.lt)).mono fun e w' h => ⟨h.1, hb.trans (h.2.mono hb.size)⟩
theorem lgz {b : Bool} (a0 a1 : Option Addr) (n0 c0 n1 c1 : Nat) (w : World) (h0 : n0 ≤ 17592186044416) (h1 : n1 ≤ 17592186044416) (hb : decide (2000 < n0 + n1) = b) :
    Calls Tryd.prog 11 #[.slice none 0 0, .slice (some ⟨w.heap.size, 0, none⟩) 2 2] (w.alloc (.cells #[.slice a0 n0 c0, .slice a1 n1 c1] 22)) fun e w' => e = .returned (.bool b) ∧ Below w.heap.size w w' :=
  (large_two a0 a1 n0 c0 n1 c1 w.heap.size _ (zat0 rfl) h0 h1).mono fun e w' h => ⟨by rw [h.1, hb], (zst (Below.refl _ _)).trans (h.2.mono (by simp))⟩

set_option maxHeartbeats 4000000 in
set_option maxRecDepth 100000 in
theorem values_big (va vb : Value) (l m : List Int) (x : Int) (w : World) (hS : SameAz w) (H : IsInts w va l) (K : IsInts w vb m) (hbig : 2000 < l.length + m.length) :
    Calls Tryd.prog 3 #[va, vb, .int .i64 x] w (fun e w' => e = .returned (.bool true) ∧ Below w.heap.size w w') := by
  have HS := Lib.hid hS
  clear hS
  have hl0 : l.length ≤ 17592186044416 := by obtain ⟨_, _, _, _, _, h, _⟩ := H; exact h
  have hl1 : m.length ≤ 17592186044416 := by obtain ⟨_, _, _, _, _, h, _⟩ := K; exact h
  obtain ⟨a0, c0, rfl⟩ := H.shape
  obtain ⟨a1, c1, rfl⟩ := K.shape
  have HD : Hid (decide (2000 < l.length + m.length) = true) := by show _ = _; simpa using hbig
  clear H K hbig
  go_enter Tryd.func3, Tryd.ntmps3
  go_wp2_with (first
    | (go_at_call 11; refine (lgz _ _ _ _ _ _ w hl0 hl1 HD.out).mono ?_; rintro e w1 ⟨rfl, hb1⟩)
    | (go_at_call 12; refine (awakezX hb1 HS.out).mono ?_; rintro e w2 ⟨rfl, hb2⟩))
  go_ret
  exact ⟨rfl, hb2⟩

set_option maxHeartbeats 4000000 in
set_option maxRecDepth 100000 in
theorem values_small (va vb : Value) (l m : List Int) (x : Int) (w : World) (hS : SameAz w) (H : IsInts w va l) (K : IsInts w vb m) (hsm : l.length + m.length ≤ 2000) (hx1 : -9223372036854775808 ≤ x) (hx2 : x ≤ 9223372036854775807) :
    Calls Tryd.prog 3 #[va, vb, .int .i64 x] w (fun e w' => e = .returned (.bool true) ∧ Below w.heap.size w w') := by
  have HS := Lib.hid hS
  have HA := Lib.hid H
  have HK := Lib.hid K
  clear hS
  have hl0 : l.length ≤ 17592186044416 := by obtain ⟨_, _, _, _, _, h, _⟩ := H; exact h
  have hl1 : m.length ≤ 17592186044416 := by obtain ⟨_, _, _, _, _, h, _⟩ := K; exact h
  obtain ⟨a0, c0, rfl⟩ := H.shape
  obtain ⟨a1, c1, rfl⟩ := K.shape
  have HD : Hid (decide (2000 < l.length + m.length) = false) := by show _ = _; simpa using hsm
  have hlen : l.length + m.length ≤ 17592186044416 := by omega
  clear H K hsm
  go_enter Tryd.func3, Tryd.ntmps3
  go_wp2_with (first
    | (go_at_call 11; refine (lgz _ _ _ _ _ _ w hl0 hl1 HD.out).mono ?_; rintro e w1 ⟨rfl, hb1⟩; have hs1 := hb1.size; have hA1 := HA.out.below hb1 (Nat.le_refl _); have hK1 := HK.out.below hb1 (Nat.le_refl _))
    | (go_at_call 13; refine (avalue_any _ l x w1 hA1 hx1 hx2).mono ?_; rintro e w' ⟨rfl, rfl⟩)
    | (go_at_call 14; refine (ravalue_any _ l x w1 hA1 hx1 hx2).mono ?_; rintro e w2 ⟨rfl, hq2⟩; have hb2 := hb1.trans (hq2.below _); have hs2 := hb2.size; have hA2 := HA.out.below hb2 (Nat.le_refl _); have hK2 := HK.out.below hb2 (Nat.le_refl _))
    | (go_at_call 15; refine (clause_any _ _ l m w2 hA2 hK2).mono ?_; rintro e w3 ⟨rfl, hz3⟩; have hb3 := hb2.trans (hz3.mono hs2); have hs3 := hb3.size; have hA3 := HA.out.below hb3 (Nat.le_refl _); have hK3 := HK.out.below hb3 (Nat.le_refl _))
    | (go_at_call 16; refine (rclause_any _ _ l m w3 hA3 hK3).mono ?_; rintro e w4 ⟨rfl, hq4⟩; have hb4 := hb3.trans (hq4.below _); have hs4 := hb4.size; have hA4 := HA.out.below hb4 (Nat.le_refl _); have hK4 := HK.out.below hb4 (Nat.le_refl _))
    | (go_at_call 17; refine (cube_any _ _ l m w4 hA4 hK4).mono ?_; rintro e w5 ⟨rfl, hz5⟩; have hb5 := hb4.trans (hz5.mono hs4); have hs5 := hb5.size; have hA5 := HA.out.below hb5 (Nat.le_refl _); have hK5 := HK.out.below hb5 (Nat.le_refl _))
    | (go_at_call 18; refine (rcube_any _ _ l m w5 hA5 hK5).mono ?_; rintro e w6 ⟨rfl, hq6⟩; have hb6 := hb5.trans (hq6.below _); have hs6 := hb6.size; have hA6 := HA.out.below hb6 (Nat.le_refl _); have hK6 := HK.out.below hb6 (Nat.le_refl _))
    | (go_at_call 19; refine (agree_any _ _ l m w6 hA6 hK6 hlen).mono ?_; rintro e w7 ⟨rfl, hz7⟩; have hb7 := hb6.trans (hz7.mono hs6); have hs7 := hb7.size; have hA7 := HA.out.below hb7 (Nat.le_refl _); have hK7 := HK.out.below hb7 (Nat.le_refl _))
    | (go_at_call 20; refine (ragree_any _ _ l m w7 hA7 hK7 hlen).mono ?_; rintro e w8 ⟨rfl, hz8⟩; have hb8 := hb7.trans (hz8.mono hs7))
    | (go_at_call 12; refine (awakezX hb8 HS.out).mono ?_; rintro e w9 ⟨rfl, hb9⟩))
  go_ret
  exact ⟨rfl, hb9⟩

end Go.Proofs.YtkcbicakcjflkaaDoor
