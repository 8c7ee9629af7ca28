/- LitsResolves: the walk. -/
import Derived.Test.YtnedpngadfkmiaaDoorLawLib
import Derived.Test.YtnedpngadfkmiaaDoorLawOne
import Derived.Test.YtnedpngadfkmiaaDoorTrue
import Derived.Test.YtnedpngadfkmiaaDoorRes
import Derived.Test.YtnedpngadfkmiaaDoorSub
namespace Go.Proofs.YtnedpngadfkmiaaDoor
open Go.RowKit
set_option linter.unusedVariables false

set_option maxHeartbeats 400000 in
set_option maxRecDepth 100000 in
theorem resolves_big (a0 a1 a3 : Option Addr) (n0 c0 n1 c1 n3 c3 : Nat) (x : Int) (w : World) (hT : Pow w.heap.size w) (hS : SameAt w) (h : 200 < n0 ∨ 200 < n1 ∨ 200 < n3) (h0 : n0 ≤ 9223372036854775807) (h1 : n1 ≤ 9223372036854775807) (h3 : n3 ≤ 9223372036854775807) :
    Calls Tryd.prog 8 #[.slice a0 n0 c0, .slice a1 n1 c1, .int .i64 x, .slice a3 n3 c3] w (fun e w' => e = .returned (.bool true) ∧ Below w.heap.size w w') := by
  have HT := Lib.hid hT
  have HS := Lib.hid hS
  clear hT hS
  by_cases hn : 200 < n0
  · go_enter Tryd.func8, Tryd.ntmps8
    go_wp2_with (go_at_call 19; refine (awakeX (Below.refl _ w) HT.out HS.out).mono ?_; rintro e w1 ⟨rfl, hb1⟩)
    go_ret
    exact ⟨rfl, hb1⟩
  · by_cases hn1 : 200 < n1
    · go_enter Tryd.func8, Tryd.ntmps8
      go_wp2_with (go_at_call 19; refine (awakeX (Below.refl _ w) HT.out HS.out).mono ?_; rintro e w1 ⟨rfl, hb1⟩)
      go_ret
      exact ⟨rfl, hb1⟩
    · have hn3 : 200 < n3 := by omega
      go_enter Tryd.func8, Tryd.ntmps8
      go_wp2_with (go_at_call 19; refine (awakeX (Below.refl _ w) HT.out HS.out).mono ?_; rintro e w1 ⟨rfl, hb1⟩)
      go_ret
      exact ⟨rfl, hb1⟩

set_option maxHeartbeats 1600000 in
set_option maxRecDepth 100000 in
/-- There is no resolvent. -/
theorem resolves_err (va vb vc : Value) (l m s : List Int) (x : Int) (w : World) (hT : Pow w.heap.size w) (hS : SameAt w) (H : IsInts w va l) (K : IsInts w vb m) (J : IsInts w vc s) (hl : l.length ≤ 200) (hm : m.length ≤ 200) (hs : s.length ≤ 200) (hx1 : -9223372036854775808 ≤ x) (hx2 : x ≤ 9223372036854775807) (e0 : (resL l m x).2 ≠ 0) :
    Calls Tryd.prog 8 #[va, vb, .int .i64 x, vc] w (fun e w' => e = .returned (.bool true) ∧ Below w.heap.size w w') := by
  have hr : (resL l m x).1 = [] := by
    have h1 := resL_eq l m x
    rw [h1] at e0 ⊢
    exact resR_bad e0
  have hne : ((resL l m x).2 != 0) = true := by simpa using e0
  have hlt := hS.lt
  have HT := Lib.hid hT
  have HS := Lib.hid hS
  have hc := resolve_any va vb l m x w H K (by omega) hx1 hx2
  obtain ⟨a0, c0, rfl⟩ := H.shape
  obtain ⟨a1, c1, rfl⟩ := K.shape
  obtain ⟨a3, c3, rfl⟩ := J.shape
  unfold RetPair at hc
  rw [hr] at hc
  generalize (resL l m x).2 = er at *
  have HC := Lib.hid hc
  clear hc hr hT hS e0
  go_enter Tryd.func8, Tryd.ntmps8
  go_wp2_with fail
  refine HC.out.mono ?_
  rintro e w1 ⟨v1, rfl, hi1, hz1⟩
  obtain ⟨a5, c5, rfl⟩ := hi1.shape
  clear HC
  go_wp2_with (go_at_call 19; refine (awakeX hz1 HT.out HS.out).mono ?_; rintro e w2 ⟨rfl, hb2⟩)
  go_ret
  exact ⟨rfl, hb2⟩

theorem IsInts.at {w : World} {a : Option Addr} {n cap : Nat} {l : List Int} (H : IsInts w (.slice a n cap) l) {k : Nat} (hk : k < l.length) :
    ∃ b off, a = some ⟨b, off, none⟩ ∧ w.cell? ⟨b, off + k, none⟩ = some (.int .i64 (l.getD k 0)) := by
  obtain ⟨a', cap', e, _, _, _, _, b, off, ha, hc⟩ := H
  injection e with e1
  subst e1
  exact ⟨b, off, (ha (by intro h; simp [h] at hk)).1, hc k hk⟩

/-- What stands behind the loop. -/
def ResEnd (l m r : List Int) (x : Int) : Prop := strikeL l m ≠ 0 → strikeL l m = -x → r = withoutL m x

set_option maxHeartbeats 4000000 in
set_option maxRecDepth 100000 in
/-- There is one. -/
theorem resolves_ok (va vb vc : Value) (l m s r : List Int) (x : Int) (w : World) (hT : Pow w.heap.size w) (hS : SameAt w) (H : IsInts w va l) (K : IsInts w vb m) (J : IsInts w vc s) (hl : l.length ≤ 200) (hm : m.length ≤ 200) (hs : s.length ≤ 200) (er : resL l m x = (r, 0)) (ok : ResOk l m x r) :
    Calls Tryd.prog 8 #[va, vb, .int .i64 x, vc] w (fun e w' => e = .returned (.bool true) ∧ Below w.heap.size w w') := by
  obtain ⟨_, hx1, hx2⟩ := litB_bd (mayB_mem ok.ma x ok.va)
  have hend : ResEnd l m r x := fun h0 h1 => by
    rw [strikeL_eq] at h0 h1
    exact ok.struck h0 h1
  have hmem : ∀ y ∈ r, memB l y = false → memB m y = true := fun y hy h => by
    rcases ((ok.mem y).1 hy).1 with h1 | h1
    · exact absurd h1 (by simpa [memB] using h)
    · simpa [memB] using h1
  have hso : trueB l s = true → trueB m s = true → trueB r s = true := ok.sound s
  have hma := ok.ma
  have hmb := ok.mb
  have hmr := ok.mr
  have hlt := hS.lt
  have HT := Lib.hid hT
  have HS := Lib.hid hS
  have HEND := Lib.hid hend
  have HMEM := Lib.hid hmem
  have hc := resolve_any va vb l m x w H K (by omega) (by omega) (by omega)
  obtain ⟨a0, c0, rfl⟩ := H.shape
  obtain ⟨a1, c1, rfl⟩ := K.shape
  obtain ⟨a3, c3, rfl⟩ := J.shape
  rw [er] at hc
  have HC := Lib.hid hc
  clear hc hT hS hend hmem er ok
  have hcase : (trueB l s = false) ∨ (trueB l s = true ∧ trueB m s = false) ∨ (trueB l s = true ∧ trueB m s = true ∧ trueB r s = true) := by
    cases h1 : trueB l s
    · exact .inl rfl
    · cases h2 : trueB m s
      · exact .inr (.inl ⟨rfl, rfl⟩)
      · exact .inr (.inr ⟨rfl, rfl, hso h1 h2⟩)
  clear hso
  rcases hcase with hA | ⟨hA, hB⟩ | ⟨hA, hB, hC⟩
  all_goals
    go_enter Tryd.func8, Tryd.ntmps8
    go_wp2_with fail
    refine HC.out.mono ?_
    rintro e w1 ⟨v1, rfl, hi1, hz1⟩
    clear HC
    have hs1 := hz1.size
    have H1 := H.below hz1 (Nat.le_refl _)
    have K1 := K.below hz1 (Nat.le_refl _)
    have J1 := J.below hz1 (Nat.le_refl _)
    obtain ⟨a5, c5, rfl⟩ := hi1.shape
    have h64 := hi1.i64
    have hrl := hi1.len
    go_wp2_with (first
      | (go_at_call_of 56 (Value.slice a0 l.length c0); refine (true1_any _ _ l s _ H1 J1 hma).mono ?_; rintro e w' ⟨rfl, rfl⟩)
      | (go_at_call_of 56 (Value.slice a1 m.length c1); refine (true1_any _ _ m s _ K1 J1 hmb).mono ?_; rintro e w' ⟨rfl, rfl⟩)
      | (go_at_call_of 56 (Value.slice a5 r.length c5); refine (true1_any _ _ r s _ hi1 J1 hmr).mono ?_; rintro e w' ⟨rfl, rfl⟩)
      | (go_at_call 25; refine (rmay_v _ r _ hi1).mono ?_; rintro e w2 ⟨rfl, hq2⟩))
    have hi2 := hi1.quiet hq2
    have hz2 := hz1.trans (hq2.below _)
    have hs2 := hz2.size
    have H2 := H.below hz2 (Nat.le_refl _)
    have K2 := K.below hz2 (Nat.le_refl _)
    clear H1 K1 J1 hi1 hz1 hq2 hs1
    go_loop [64] (fun i => ∃ k : Nat, k ≤ r.length ∧ i = .int .i64 k) (fun i => r.length - (intOf i).toNat)
    case atStart => exact ⟨0, Nat.zero_le _, rfl⟩
    case round =>
      obtain ⟨k, hk, rfl⟩ := hrel
      by_cases hkl : k < r.length
      · obtain ⟨b, off, rfl, hy⟩ := hi2.at hkl
        have hy1 := (h64.at k hkl).1
        have hy2 := (h64.at k hkl).2
        have HME := Lib.hid (HMEM.out _ (getD_mem hkl))
        generalize r.getD k 0 = y at *
        cases hml : memB l y
        · have hmm := HME.out hml
          go_wp2_with (first
            | (go_at_call_of 57 (Value.slice a0 l.length c0); refine (contains_any _ l y _ H2 hy1 hy2).mono ?_; rintro e w' ⟨rfl, rfl⟩)
            | (go_at_call_of 57 (Value.slice a1 m.length c1); refine (contains_any _ m y _ K2 hy1 hy2).mono ?_; rintro e w' ⟨rfl, rfl⟩))
          go_round
          case rel => exact ⟨k + 1, by omega, by go_num⟩
          case measure => simp [intOf]; omega
        · go_wp2_with (first
            | (go_at_call_of 57 (Value.slice a0 l.length c0); refine (contains_any _ l y _ H2 hy1 hy2).mono ?_; rintro e w' ⟨rfl, rfl⟩)
            | (go_at_call_of 57 (Value.slice a1 m.length c1); refine (contains_any _ m y _ K2 hy1 hy2).mono ?_; rintro e w' ⟨rfl, rfl⟩))
          go_round
          case rel => exact ⟨k + 1, by omega, by go_num⟩
          case measure => simp [intOf]; omega
      · have hst := strike_any _ _ l m _ H2 K2
        have HEND2 : Hid (strikeL l m ≠ 0 → strikeL l m = -x → r = withoutL m x) := Lib.hid HEND.out
        generalize strikeL l m = t at *
        have HST := Lib.hid hst
        clear hst HEND
        by_cases ht0 : t = 0
        · have ht : (t == 0) = true := by simpa using ht0
          clear ht0
          go_wp2_with (first
            | (go_at_call 40; refine HST.out.mono ?_; rintro e w3 ⟨rfl, hb3⟩; have hz3 := hz2.trans (hb3.mono hs2))
            | (go_at_call 19; refine (awakeX hz3 HT.out HS.out).mono ?_; rintro e w4 ⟨rfl, hz4⟩))
          go_ret
          exact ⟨rfl, hz4⟩
        · have ht : (t == 0) = false := by simpa using ht0
          by_cases htx : t = -x
          · have HR : Hid (r = withoutL m x) := Lib.hid (HEND2.out ht0 htx)
            have ht2 : (t != -x) = false := by simpa using htx
            clear ht0 htx
            go_wp2_with (go_at_call 40; refine HST.out.mono ?_; rintro e w3 ⟨rfl, hb3⟩; have hz3 := hz2.trans (hb3.mono hs2); have hi3 := hi2.below hb3 (Nat.le_refl _))
            have hs3 := hz3.size
            have hg3 : w3.cell? ⟨0, 0, none⟩ = _ := SameAt.below HS.out hz3 hlt
            have hnew := World.new_ne w3 ⟨0, 0, none⟩ hg3
            have hzd : Below w.heap.size w w3.drew := hz3.trans ((bd0 w3).mono hs3)
            have hid : IsInts w3.drew _ r := hi3.below (bd0 w3) (Nat.le_refl _)
            clear hb3 HST HEND2 HMEM hi2 H2 K2 hz2
            go_region_held3 (fun w' => w'.cell? ⟨0, 0, none⟩ = some (.func (.func 107) #[] #[])) (go_keep)
              (first
                | (go_at_call 30; refine (withoutX K (by omega) (by omega) hzd).mono ?_; rintro e w5 ⟨v5, rfl, hi5, hb5, hz5⟩; have hi5r : IsInts w5 v5 r := (by rw [HR.out]; exact hi5); have hs5 := hz5.size; have hg5 : w5.cell? ⟨0, 0, none⟩ = _ := SameAt.below HS.out hz5 hlt)
                | (go_at_call_of 107 v5; refine (sameX hz5 (hid.below hb5 (Nat.le_refl _)) hi5r).mono ?_; rintro e w6 ⟨rfl, hz6⟩; have hs6 := hz6.size; have hg6 : w6.cell? ⟨0, 0, none⟩ = _ := SameAt.below HS.out hz6 hlt)
                | (go_at_call 19; refine (awakeX hz6 HT.out HS.out).mono ?_; rintro e w7 ⟨rfl, hz7⟩; have hs7 := hz7.size; have hg7 : w7.cell? ⟨0, 0, none⟩ = _ := SameAt.below HS.out hz7 hlt))
            all_goals (go_wp2; go_ret; exact ⟨rfl, hz7⟩)
          · have ht2 : (t != -x) = true := by simpa using htx
            clear ht0 htx
            go_wp2_with (first
              | (go_at_call 40; refine HST.out.mono ?_; rintro e w3 ⟨rfl, hb3⟩; have hz3 := hz2.trans (hb3.mono hs2))
              | (go_at_call 19; refine (awakeX hz3 HT.out HS.out).mono ?_; rintro e w4 ⟨rfl, hz4⟩))
            go_ret
            exact ⟨rfl, hz4⟩

end Go.Proofs.YtnedpngadfkmiaaDoor
