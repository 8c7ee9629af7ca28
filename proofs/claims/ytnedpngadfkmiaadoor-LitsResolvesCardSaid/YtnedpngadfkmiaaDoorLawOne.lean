/- LitsOne: the walk. -/
import Derived.Test.YtnedpngadfkmiaaDoorLawLib
import Derived.Test.YtnedpngadfkmiaaDoorWithin
import Derived.Test.YtnedpngadfkmiaaDoorCopied
import Derived.Test.YtnedpngadfkmiaaDoorJoinR
namespace Go.Proofs.YtnedpngadfkmiaaDoor
open Go.RowKit
set_option linter.unusedVariables false

theorem negL_len (l : List Int) : (negL l).length ≤ l.length := by unfold negL; split <;> simp
theorem negL_64 (l : List Int) : In64 (negL l) := by
  unfold negL
  by_cases h : mayB l = true
  · rw [if_pos h]
    intro x hx
    obtain ⟨y, hy, rfl⟩ := List.mem_map.1 hx
    have := litB_bd (mayB_mem h y hy)
    omega
  · rw [if_neg h]; exact In64.nil
theorem withinL_len (l m : List Int) : (withinL l m).length ≤ l.length := by unfold withinL; split; exact List.length_filter_le _ _; simp
theorem withinL_64 {l : List Int} (h : In64 l) (m : List Int) : In64 (withinL l m) := by
  unfold withinL; split
  · exact fun y hy => h y (List.mem_filter.1 hy).1
  · exact In64.nil
theorem IsInts.i64 {w : World} {v : Value} {l : List Int} (h : IsInts w v l) : In64 l := by obtain ⟨_, _, _, _, _, _, h, _⟩ := h; exact h

/-- What a call that makes a list leaves, seen from an earlier world. -/
def Made (w W : World) (xs : List Int) (e : Ending) (w' : World) : Prop := ∃ u, e = .returned u ∧ IsInts w' u xs ∧ Below W.heap.size W w' ∧ Below w.heap.size w w'
theorem RetOwn.made {w W w' : World} {xs : List Int} {e : Ending} (h : RetOwn W xs e w') (hb : Below w.heap.size w W) (hl : xs.length ≤ 17592186044416) (h64 : In64 xs) : Made w W xs e w' := by
  obtain ⟨v, h1, h2, h3⟩ := h
  exact ⟨v, h1, h2.ints hl h64, h3, hb.trans (h3.mono hb.size)⟩
theorem negX {w W : World} {v : Value} {l : List Int} (H : IsInts w v l) (hb : Below w.heap.size w W) : Calls Tryd.prog 28 #[v] W (Made w W (negL l)) :=
  (neg_any v l W (H.below hb (Nat.le_refl _))).mono fun e w' h => h.made hb (Nat.le_trans (negL_len l) H.len) (negL_64 l)
theorem rnegX {w W : World} {v : Value} {l : List Int} (H : IsInts w v l) (hb : Below w.heap.size w W) : Calls Tryd.prog 29 #[v] W (Made w W (negL l)) :=
  (rneg_any v l W (H.below hb (Nat.le_refl _))).mono fun e w' h => h.made hb (Nat.le_trans (negL_len l) H.len) (negL_64 l)
theorem withoutX {w W : World} {v : Value} {l : List Int} {x : Int} (H : IsInts w v l) (hx1 : -9223372036854775808 ≤ x) (hx2 : x ≤ 9223372036854775807) (hb : Below w.heap.size w W) : Calls Tryd.prog 30 #[v, .int .i64 x] W (Made w W (withoutL l x)) :=
  (without_any v l x W (H.below hb (Nat.le_refl _)) hx1 hx2).mono fun e w' h => h.made hb (Nat.le_trans (withoutL_len l x) H.len) (withoutL_64 H.i64 x)
theorem rwithoutX {w W : World} {v : Value} {l : List Int} {x : Int} (H : IsInts w v l) (hx1 : -9223372036854775808 ≤ x) (hx2 : x ≤ 9223372036854775807) (hb : Below w.heap.size w W) : Calls Tryd.prog 31 #[v, .int .i64 x] W (Made w W (withoutL l x)) :=
  (rwithout_any v l x W (H.below hb (Nat.le_refl _)) hx1 hx2).mono fun e w' h => h.made hb (Nat.le_trans (withoutL_len l x) H.len) (withoutL_64 H.i64 x)
theorem withinX {w W : World} {v u : Value} {l m : List Int} (H : IsInts w v l) (K : IsInts w u m) (hb : Below w.heap.size w W) : Calls Tryd.prog 32 #[v, u] W (Made w W (withinL l m)) :=
  (within_any v u l m W (H.below hb (Nat.le_refl _)) (K.below hb (Nat.le_refl _))).mono fun e w' h => h.made hb (Nat.le_trans (withinL_len l m) H.len) (withinL_64 H.i64 m)
theorem rwithinX {w W : World} {v u : Value} {l m : List Int} (H : IsInts w v l) (K : IsInts w u m) (hb : Below w.heap.size w W) : Calls Tryd.prog 33 #[v, u] W (Made w W (withinL l m)) :=
  (rwithin_any v u l m W (H.below hb (Nat.le_refl _)) (K.below hb (Nat.le_refl _))).mono fun e w' h => h.made hb (Nat.le_trans (withinL_len l m) H.len) (withinL_64 H.i64 m)
set_option maxHeartbeats 400000 in
set_option maxRecDepth 100000 in
theorem one_big (a0 a2 : Option Addr) (n0 c0 n2 c2 : Nat) (x : Int) (w : World) (hT : Pow w.heap.size w) (hS : SameAt w) (h : 2000 < n0 ∨ 2000 < n2) (h0 : n0 ≤ 9223372036854775807) (h2 : n2 ≤ 9223372036854775807) :
    Calls Tryd.prog 3 #[.slice a0 n0 c0, .int .i64 x, .slice a2 n2 c2] w (fun e w' => e = .returned (.bool true) ∧ Below w.heap.size w w') := by
  have HT := Lib.hid hT
  have HS := Lib.hid hS
  clear hT hS
  by_cases hn : 2000 < n0
  · go_enter Tryd.func3, Tryd.ntmps3
    go_wp2_with (go_at_call 19; refine (awakeX (Below.refl _ w) HT.out HS.out).mono ?_; rintro e w1 ⟨rfl, hb1⟩)
    go_ret
    exact ⟨rfl, hb1⟩
  · have hn2 : 2000 < n2 := by omega
    go_enter Tryd.func3, Tryd.ntmps3
    go_wp2_with (go_at_call 19; refine (awakeX (Below.refl _ w) HT.out HS.out).mono ?_; rintro e w1 ⟨rfl, hb1⟩)
    go_ret
    exact ⟨rfl, hb1⟩

set_option maxHeartbeats 4000000 in
set_option maxRecDepth 100000 in
theorem one_small (va vb : Value) (l m : List Int) (x : Int) (w : World) (hT : Pow w.heap.size w) (hS : SameAt w) (H : IsInts w va l) (K : IsInts w vb m) (hl : l.length ≤ 2000) (hm : m.length ≤ 2000) (hx1 : -9223372036854775808 ≤ x) (hx2 : x ≤ 9223372036854775807) :
    Calls Tryd.prog 3 #[va, .int .i64 x, vb] w (fun e w' => e = .returned (.bool true) ∧ Below w.heap.size w w') := by
  have hlt := hS.lt
  have HT := Lib.hid hT
  have HS := Lib.hid hS
  clear hT hS
  have H0 := H
  have K0 := K
  obtain ⟨a0, c0, rfl, hl0⟩ := H.shape
  obtain ⟨a2, c2, rfl, hl2⟩ := K.shape
  have hbr := Below.refl w.heap.size w
  go_enter Tryd.func3, Tryd.ntmps3
  go_wp2_with (first
    | (go_at_call 20; refine (norm_any _ l w H).mono ?_; rintro e w1 ⟨v1, rfl, hi1, hz1⟩; have hs1 := hz1.size; have H1 := H.below hz1 (Nat.le_refl _))
    | (go_at_call 21; refine (rnorm_any _ l w1 H1).mono ?_; rintro e w2 ⟨v2, rfl, hi2, hb2⟩; have hj2 := hi1.below hb2 (Nat.le_refl _); have hz2 := hz1.trans (hb2.mono hs1); have hs2 := hz2.size; have H2 := H.below hz2 (Nat.le_refl _))
    | (go_at_call 22; refine (var_any x _ hx1 hx2).mono ?_; rintro e w' ⟨rfl, rfl⟩)
    | (go_at_call 23; refine (rvar_any x _ hx1 hx2).mono ?_; rintro e w' ⟨rfl, rfl⟩)
    | (go_at_call 24; refine (may_v _ l _ H2).mono ?_; rintro e w' ⟨rfl, rfl⟩)
    | (go_at_call 25; refine (rmay_v _ l _ H2).mono ?_; rintro e w3 ⟨rfl, hq3⟩; have hz3 := hz2.trans (hq3.below _); have hj3 := hj2.quiet hq3; have hi3 := hi2.quiet hq3; have hs3 := hz3.size; have hg3 : w3.cell? ⟨0, 0, none⟩ = _ := SameAt.below HS.out hz3 hlt)
    | (go_at_call 107; refine (sameX hz3 hj3 hi3).mono ?_; rintro e w4 ⟨rfl, hz4⟩; have H4 := H.below hz4 (Nat.le_refl _); have hs4 := hz4.size; have hg4 : w4.cell? ⟨0, 0, none⟩ = _ := SameAt.below HS.out hz4 hlt)
    | (go_at_call 26; refine (has_any _ l x _ H4 hx1 hx2).mono ?_; rintro e w' ⟨rfl, rfl⟩)
    | (go_at_call 27; refine (rhas_any _ l x _ H4 hx1 hx2).mono ?_; rintro e w' ⟨rfl, rfl⟩))
  have hnew := World.new_ne w4 ⟨0, 0, none⟩ hg4
  clear hi1 hj2 hi2 hj3 hi3 H1 H2 H4 hz1 hz2 hz3 hb2 hq3 hg3
  have hzd : Below w.heap.size w w4.drew := hz4.trans ((bd0 w4).mono hs4)
  go_region_held3 (fun w' => w'.cell? ⟨0, 0, none⟩ = some (.func (.func 107) #[] #[])) (go_keep)
    (first
      | (go_at_call 28; refine (negX H ?_).mono ?_; (first | exact hzd | exact hz6); rintro e w5 ⟨v5, rfl, hi5, hb5, hz5⟩; have hs5 := hz5.size; have hg5 : w5.cell? ⟨0, 0, none⟩ = _ := SameAt.below HS.out hz5 hlt)
      | (go_at_call 29; refine (rnegX H ?_).mono ?_; (first | exact hzd | exact hz5); rintro e w6 ⟨v6, rfl, hi6, hb6, hz6⟩; have hs6 := hz6.size; have hg6 : w6.cell? ⟨0, 0, none⟩ = _ := SameAt.below HS.out hz6 hlt)
      | (go_at_call_of 107 v6; refine (sameX hz6 (hi5.below hb6 (Nat.le_refl _)) hi6).mono ?_; rintro e w7 ⟨rfl, hz7⟩; have hs7 := hz7.size; have hg7 : w7.cell? ⟨0, 0, none⟩ = _ := SameAt.below HS.out hz7 hlt)
      | (go_at_call_of 107 v6; refine (sameX hz5 hi5 (hi6.below hb5 (Nat.le_refl _))).mono ?_; rintro e w7 ⟨rfl, hz7⟩; have hs7 := hz7.size; have hg7 : w7.cell? ⟨0, 0, none⟩ = _ := SameAt.below HS.out hz7 hlt)
      | (go_at_call 30; refine (withoutX H hx1 hx2 ?_).mono ?_; (first | exact hz7 | exact hz9); rintro e w8 ⟨v8, rfl, hi8, hb8, hz8⟩; have hs8 := hz8.size; have hg8 : w8.cell? ⟨0, 0, none⟩ = _ := SameAt.below HS.out hz8 hlt)
      | (go_at_call 31; refine (rwithoutX H hx1 hx2 ?_).mono ?_; (first | exact hz7 | exact hz8); rintro e w9 ⟨v9, rfl, hi9, hb9, hz9⟩; have hs9 := hz9.size; have hg9 : w9.cell? ⟨0, 0, none⟩ = _ := SameAt.below HS.out hz9 hlt)
      | (go_at_call_of 107 v9; refine (sameX hz9 (hi8.below hb9 (Nat.le_refl _)) hi9).mono ?_; rintro e w10 ⟨rfl, hz10⟩; have hs10 := hz10.size; have hg10 : w10.cell? ⟨0, 0, none⟩ = _ := SameAt.below HS.out hz10 hlt)
      | (go_at_call_of 107 v9; refine (sameX hz8 hi8 (hi9.below hb8 (Nat.le_refl _))).mono ?_; rintro e w10 ⟨rfl, hz10⟩; have hs10 := hz10.size; have hg10 : w10.cell? ⟨0, 0, none⟩ = _ := SameAt.below HS.out hz10 hlt)
      | (go_at_call 32; refine (withinX H K ?_).mono ?_; (first | exact hz10 | exact hz12); rintro e w11 ⟨v11, rfl, hi11, hb11, hz11⟩; have hs11 := hz11.size; have hg11 : w11.cell? ⟨0, 0, none⟩ = _ := SameAt.below HS.out hz11 hlt)
      | (go_at_call 33; refine (rwithinX H K ?_).mono ?_; (first | exact hz10 | exact hz11); rintro e w12 ⟨v12, rfl, hi12, hb12, hz12⟩; have hs12 := hz12.size; have hg12 : w12.cell? ⟨0, 0, none⟩ = _ := SameAt.below HS.out hz12 hlt)
      | (go_at_call_of 107 v12; refine (sameX hz12 (hi11.below hb12 (Nat.le_refl _)) hi12).mono ?_; rintro e w13 ⟨rfl, hz13⟩; have hs13 := hz13.size; have hg13 : w13.cell? ⟨0, 0, none⟩ = _ := SameAt.below HS.out hz13 hlt)
      | (go_at_call_of 107 v12; refine (sameX hz11 hi11 (hi12.below hb11 (Nat.le_refl _))).mono ?_; rintro e w13 ⟨rfl, hz13⟩; have hs13 := hz13.size; have hg13 : w13.cell? ⟨0, 0, none⟩ = _ := SameAt.below HS.out hz13 hlt)
      | (go_at_call 19; refine (awakeX hz13 HT.out HS.out).mono ?_; rintro e w14 ⟨rfl, hz14⟩; have hs14 := hz14.size; have hg14 : w14.cell? ⟨0, 0, none⟩ = _ := SameAt.below HS.out hz14 hlt))
  all_goals (go_wp2; go_ret; exact ⟨rfl, hz14⟩)

end Go.Proofs.YtnedpngadfkmiaaDoor
