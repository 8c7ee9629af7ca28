/- LitsTwo: the walk. -/
import Derived.Test.YtpknoklombhjeaaDoorLawLib
import Derived.Test.YtpknoklombhjeaaDoorPureSub
import Derived.Test.YtpknoklombhjeaaDoorCmp2
namespace Go.Proofs.YtpknoklombhjeaaDoor
open Go.RowKit
set_option linter.unusedVariables false

theorem sameQ {w W : World} {v u : Value} {l : List Int} (hb : Below w.heap.size w W) (H : IsInts W v l) (K : IsInts W u l) : Calls Tryd.prog 74 #[v, u] W (fun e w' => e = .returned (.bool true) ∧ Below w.heap.size w w' ∧ Quiet W w') :=
  (same_any v u l l W H K).mono fun e w' h => ⟨by rw [h.1]; unfold sameB; simp, hb.trans (h.2.below _), h.2⟩
set_option maxHeartbeats 400000 in
set_option maxRecDepth 100000 in
theorem two_big (a0 a1 : Option Addr) (n0 c0 n1 c1 : Nat) (x : Int) (w : World) (hT : Pow w.heap.size w) (hS : SameAt w) (h : 1000 < n0 ∨ 1000 < n1) (h0 : n0 ≤ 9223372036854775807) (h1 : n1 ≤ 9223372036854775807) :
    Calls Tryd.prog 4 #[.slice a0 n0 c0, .slice a1 n1 c1, .int .i64 x] w (fun e w' => e = .returned (.bool true) ∧ Below w.heap.size w w') := by
  have HT := Lib.hid hT
  have HS := Lib.hid hS
  clear hT hS
  by_cases hn : 1000 < n0
  · go_enter Tryd.func4, Tryd.ntmps4
    go_wp2_with (go_at_call 11; refine (awakeX (Below.refl _ w) HT.out HS.out).mono ?_; rintro e w1 ⟨rfl, hb1⟩)
    go_ret
    exact ⟨rfl, hb1⟩
  · have hn1 : 1000 < n1 := by omega
    go_enter Tryd.func4, Tryd.ntmps4
    go_wp2_with (go_at_call 11; refine (awakeX (Below.refl _ w) HT.out HS.out).mono ?_; rintro e w1 ⟨rfl, hb1⟩)
    go_ret
    exact ⟨rfl, hb1⟩

set_option maxHeartbeats 4000000 in
set_option maxRecDepth 100000 in
theorem two_small (va vb : Value) (l m : List Int) (x : Int) (w : World) (hT : Pow w.heap.size w) (hS : SameAt w) (H : IsInts w va l) (K : IsInts w vb m) (hl : l.length ≤ 1000) (hm : m.length ≤ 1000) (hx1 : -9223372036854775808 ≤ x) (hx2 : x ≤ 9223372036854775807) :
    Calls Tryd.prog 4 #[va, vb, .int .i64 x] w (fun e w' => e = .returned (.bool true) ∧ Below w.heap.size w w') := by
  have hlt := hS.lt
  have HT := Lib.hid hT
  have HS := Lib.hid hS
  clear hT hS
  have hlen : l.length + m.length ≤ 17592186044416 := by omega
  obtain ⟨a0, c0, rfl, hl0⟩ := H.shape
  obtain ⟨a1, c1, rfl, hl1⟩ := K.shape
  have e1 := joinL_eq l m
  have e2 := resL_eq l m x
  have e3 := subL_eq l m
  have e4 := strikeL_eq l m
  have e5 := cmpB_eq l m
  have hj1 : ∀ v w', IsInts w' v (joinL l m).1 → IsInts w' v (joinR l m).1 := fun v w' h => by rw [← e1]; exact h
  have hr1 : ∀ v w', IsInts w' v (resL l m x).1 → IsInts w' v (resR l m x).1 := fun v w' h => by rw [← e2]; exact h
  have HJ := Lib.hid hj1
  have HR := Lib.hid hr1
  have f1 : (joinL l m).2 = (joinR l m).2 := by rw [e1]
  have f2 : (resL l m x).2 = (resR l m x).2 := by rw [e2]
  clear hj1 hr1
  have E1 := Lib.hid e1
  have E2 := Lib.hid e2
  clear e1 e2
  go_enter Tryd.func4, Tryd.ntmps4
  go_wp2_with (first
    | (go_at_call 26; refine (join_any _ _ l m w H K hlen).mono ?_; rintro e w1 ⟨v1, rfl, hi1, hz1⟩; have hs1 := hz1.size; have H1 := H.below hz1 (Nat.le_refl _); have K1 := K.below hz1 (Nat.le_refl _))
    | (go_at_call 27; refine (rjoin_any _ _ l m w1 H1 K1 hlen).mono ?_; rintro e w2 ⟨v2, rfl, hi2, hb2⟩; have hj2 := hi1.below hb2 (Nat.le_refl _); have hz2 := hz1.trans (hb2.mono hs1); have hs2 := hz2.size; have H2 := H.below hz2 (Nat.le_refl _); have K2 := K.below hz2 (Nat.le_refl _))
    | (go_at_call 28; refine (resolve_any _ _ l m x w2 H2 K2 hlen hx1 hx2).mono ?_; rintro e w3 ⟨v3, rfl, hi3, hb3⟩; have hj3 := hj2.below hb3 (Nat.le_refl _); have hk3 := hi2.below hb3 (Nat.le_refl _); have hz3 := hz2.trans (hb3.mono hs2); have hs3 := hz3.size; have H3 := H.below hz3 (Nat.le_refl _); have K3 := K.below hz3 (Nat.le_refl _))
    | (go_at_call 29; refine (rresolve_any _ _ l m x w3 H3 K3 hlen hx1 hx2).mono ?_; rintro e w4 ⟨v4, rfl, hi4, hb4⟩; have hj4 := HJ.out _ _ (hj3.below hb4 (Nat.le_refl _)); have hk4 := hk3.below hb4 (Nat.le_refl _); have hr4 := HR.out _ _ (hi3.below hb4 (Nat.le_refl _)); have hz4 := hz3.trans (hb4.mono hs3); have hs4 := hz4.size; have hg4 : w4.cell? ⟨0, 0, none⟩ = _ := SameAt.below HS.out hz4 hlt)
    | (go_at_call_of 74 v1; refine (sameQ hz4 hj4 hk4).mono ?_; rintro e w5 ⟨rfl, hz5, hq5⟩; have hs5 := hz5.size; have hg5 : w5.cell? ⟨0, 0, none⟩ = _ := SameAt.below HS.out hz5 hlt; have hr5 := hr4.quiet hq5; have hi5 := hi4.quiet hq5)
    | (go_at_call_of 74 v3; refine (sameX hz5 hr5 hi5).mono ?_; rintro e w6 ⟨rfl, hz6⟩; have hs6 := hz6.size; have hg6 : w6.cell? ⟨0, 0, none⟩ = _ := SameAt.below HS.out hz6 hlt; have H6 := H.below hz6 (Nat.le_refl _); have K6 := K.below hz6 (Nat.le_refl _))
    | (go_at_call 30; refine (sub_any _ _ l m _ H6 K6).mono ?_; rintro e w' ⟨rfl, rfl⟩)
    | (go_at_call 31; refine (rsub_any _ _ l m _ H6 K6).mono ?_; rintro e w7 ⟨rfl, hq7⟩; have hz7 := hz6.trans (hq7.below _); have hs7 := hz7.size; have hg7 : w7.cell? ⟨0, 0, none⟩ = _ := SameAt.below HS.out hz7 hlt; have H7 := H.below hz7 (Nat.le_refl _); have K7 := K.below hz7 (Nat.le_refl _))
    | (go_at_call 32; refine (strike_any _ _ l m _ H7 K7).mono ?_; rintro e w8 ⟨rfl, hb8⟩; have hz8 := hz7.trans (hb8.mono hs7); have hs8 := hz8.size; have hg8 : w8.cell? ⟨0, 0, none⟩ = _ := SameAt.below HS.out hz8 hlt; have H8 := H.below hz8 (Nat.le_refl _); have K8 := K.below hz8 (Nat.le_refl _))
    | (go_at_call 33; refine (rstrike_any _ _ l m _ H8 K8).mono ?_; rintro e w9 ⟨rfl, hb9⟩; have hz9 := hz8.trans (hb9.mono hs8); have hs9 := hz9.size; have hg9 : w9.cell? ⟨0, 0, none⟩ = _ := SameAt.below HS.out hz9 hlt; have H9 := H.below hz9 (Nat.le_refl _); have K9 := K.below hz9 (Nat.le_refl _))
    | (go_at_call 34; refine (compare_any _ _ l m _ H9 K9).mono ?_; rintro e w10 ⟨rfl, hb10⟩; have hz10 := hz9.trans (hb10.below.mono hs9); have hs10 := hz10.size; have hg10 : w10.cell? ⟨0, 0, none⟩ = _ := SameAt.below HS.out hz10 hlt; have H10 := H.below hz10 (Nat.le_refl _); have K10 := K.below hz10 (Nat.le_refl _))
    | (go_at_call 35; refine (rcompare_any _ _ l m _ H10 K10).mono ?_; rintro e w11 ⟨rfl, hq11⟩; have hz11 := hz10.trans (hq11.below _))
    | (go_at_call 11; refine (awakeX hz11 HT.out HS.out).mono ?_; rintro e w12 ⟨rfl, hz12⟩))
  go_ret
  exact ⟨rfl, hz12⟩

end Go.Proofs.YtpknoklombhjeaaDoor
