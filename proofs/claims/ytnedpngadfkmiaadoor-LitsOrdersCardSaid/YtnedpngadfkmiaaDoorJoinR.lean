/- The reference's Join and Resolve. -/
import Derived.Test.YtnedpngadfkmiaaDoorNormR
namespace Go.Proofs.YtnedpngadfkmiaaDoor
open Go.RowKit
set_option linter.unusedVariables false

theorem sortI_len (l : List Int) : (sortI l).length ≤ l.length := by have := foldl_insL_len l []; unfold sortI; simpa using this

set_option maxHeartbeats 800000 in
set_option maxRecDepth 100000 in
theorem rjoin_any (v u : Value) (l m : List Int) (w : World) (H : IsInts w v l) (K : IsInts w u m) (hlen : l.length + m.length ≤ 17592186044416) :
    Calls Tryd.prog 35 #[v, u] w (RetPair w (joinR l m)) := by
  have H0 := H
  have K0 := K
  obtain ⟨a, cap, rfl, _, _, hl, h64, b, off, ha, hc⟩ := H
  obtain ⟨a2, cap2, rfl, _, _, hl2, h642, b2, off2, ha2, hc2⟩ := K
  by_cases hm1 : mayB l = true
  · by_cases hm2 : mayB m = true
    · have HF : Hid (joinR l m = tautR (m.foldl insL (sortI l))) := by show _ = _; unfold joinR; rw [hm1, hm2]; rfl
      go_enter Tryd.func35, Tryd.ntmps35
      go_wp2_with fail
      refine (rmay_v _ l _ H0).mono ?_
      rintro e w1 ⟨rfl, hq1⟩
      go_wp2_with fail
      refine (rmay_v _ m _ (K0.quiet hq1)).mono ?_
      rintro e w2 ⟨rfl, hq2⟩
      have hbel2 := (hq1.trans hq2).below w.heap.size
      clear hq1 hq2
      go_wp2_with fail
      go_loopw [6, 7] (fun out i wr => ∃ j : Nat, j ≤ l.length ∧ i = .int .i64 j ∧ IsInts wr out ((l.take j).foldl insL []) ∧ Below w.heap.size w wr) (fun _ i _ => l.length - (intOf i).toNat)
      case atStart => exact ⟨0, Nat.zero_le _, rfl, IsInts.nil _, hbel2⟩
      case round =>
        obtain ⟨j, hj, rfl, hout, hbel⟩ := hrel
        by_cases hlt2 : j < l.length
        · obtain ⟨rfl, hb⟩ := ha (by intro h; simp [h] at hlt2)
          have hy := (hbel.cell (p := ⟨b, off + j, none⟩) hb).trans (hc j hlt2)
          have hy1 := (h64.at j hlt2).1
          have hy2 := (h64.at j hlt2).2
          have HT := Lib.hid (foldl_take (acc := []) hlt2)
          have hln := foldl_insL_len (l.take j) []
          rw [List.length_take] at hln
          simp only [List.length_nil] at hln
          have HC := Lib.hid hc
          clear hc
          generalize l.getD j 0 = y at *
          go_wp2_with (go_at_call 90; refine (rwith_any _ _ y _ hout (by omega) (by omega) (by omega)).mono ?_; rintro e w' ⟨v', rfl, hout', hbel'⟩)
          go_roundw
          case rel => exact ⟨j + 1, by omega, by go_num, by rw [HT.out]; exact hout', hbel.trans (hbel'.mono hbel.size)⟩
          case measure => simp [intOf]; omega
        · have hout2 := hout
          rw [List.take_of_length_le (by omega)] at hout2
          have hout3 : IsInts _ _ (sortI l) := hout2
          have hbel0 := hbel
          clear hout hout2 hbel
          go_wp2
          go_loopw [6, 8] (fun out i wr => ∃ j : Nat, j ≤ m.length ∧ i = .int .i64 j ∧ IsInts wr out ((m.take j).foldl insL (sortI l)) ∧ Below w.heap.size w wr) (fun _ i _ => m.length - (intOf i).toNat)
          case atStart => exact ⟨0, Nat.zero_le _, rfl, hout3, hbel0⟩
          case round =>
            obtain ⟨j2, hj2, rfl, hout, hbel⟩ := hrel
            by_cases hlt3 : j2 < m.length
            · obtain ⟨rfl, hb⟩ := ha2 (by intro h; simp [h] at hlt3)
              have hy := (hbel.cell (p := ⟨b2, off2 + j2, none⟩) hb).trans (hc2 j2 hlt3)
              have hy1 := (h642.at j2 hlt3).1
              have hy2 := (h642.at j2 hlt3).2
              have HT := Lib.hid (foldl_take (acc := sortI l) hlt3)
              have hln := foldl_insL_len (m.take j2) (sortI l)
              have hsl := sortI_len l
              rw [List.length_take] at hln
              have HC := Lib.hid hc
              have HC2 := Lib.hid hc2
              clear hc hc2 hout3 hbel0
              generalize m.getD j2 0 = y at *
              go_wp2_with (go_at_call 90; refine (rwith_any _ _ y _ hout (by omega) (by omega) (by omega)).mono ?_; rintro e w' ⟨v', rfl, hout', hbel'⟩)
              go_roundw
              case rel => exact ⟨j2 + 1, by omega, by go_num, by rw [HT.out]; exact hout', hbel.trans (hbel'.mono hbel.size)⟩
              case measure => simp [intOf]; omega
            · have hout5 := hout
              rw [List.take_of_length_le (by omega)] at hout5
              clear hout hout3 hbel0
              generalize m.foldl insL (sortI l) = r at *
              by_cases hm : mayB r = true
              · have HG : Hid (joinR l m = (r, 0)) := HF.out.trans (by unfold tautR; rw [if_pos hm])
                go_wp2_with (go_at_call 25; refine (rmay_v _ _ _ hout5).mono ?_; rintro e w' ⟨rfl, hq⟩)
                go_ret2
                exact ⟨_, ret_pair (by rw [HG.out]), by rw [HG.out]; exact hout5.quiet hq, hbel.trans (hq.below _)⟩
              · have HG : Hid (joinR l m = ([], 10)) := HF.out.trans (by unfold tautR; rw [if_neg hm])
                have hm' : mayB r = false := by simpa using hm
                clear hm
                go_wp2_with (go_at_call 25; refine (rmay_v _ _ _ hout5).mono ?_; rintro e w' ⟨rfl, hq⟩)
                go_ret2
                exact ⟨_, ret_pair (by rw [HG.out]), by rw [HG.out]; exact IsInts.nil _, hbel.trans (hq.below _)⟩
    · have hm2' : mayB m = false := by simpa using hm2
      have HF : Hid (joinR l m = ([], 2)) := by show _ = _; unfold joinR; rw [hm1, hm2']; rfl
      clear hm2
      go_enter Tryd.func35, Tryd.ntmps35
      go_wp2_with fail
      refine (rmay_v _ l _ H0).mono ?_
      rintro e w1 ⟨rfl, hq1⟩
      go_wp2_with fail
      refine (rmay_v _ m _ (K0.quiet hq1)).mono ?_
      rintro e w2 ⟨rfl, hq2⟩
      go_wp2
      go_ret2
      exact ⟨_, ret_pair (by rw [HF.out]), by rw [HF.out]; exact IsInts.nil _, (hq1.trans hq2).below _⟩
  · have hm1' : mayB l = false := by simpa using hm1
    have HF : Hid (joinR l m = ([], 2)) := by show _ = _; unfold joinR; rw [hm1']; rfl
    clear hm1
    go_enter Tryd.func35, Tryd.ntmps35
    go_wp2_with fail
    refine (rmay_v _ l _ H0).mono ?_
    rintro e w1 ⟨rfl, hq1⟩
    go_wp2
    go_ret2
    exact ⟨_, ret_pair (by rw [HF.out]), by rw [HF.out]; exact IsInts.nil _, hq1.below _⟩

def resR (a b : List Int) (v : Int) : List Int × Int :=
  if mayB a && mayB b then (if v ≤ 0 ∨ memB a v = false ∨ memB b (-v) = false then ([], 6) else joinR (withoutL a v) (withoutL b v)) else ([], 2)

theorem RetOwn.ints {w w' : World} {v : Value} {B : Nat} {xs : List Int} (h : Own w' B v xs) (hl : xs.length ≤ 17592186044416) (h64 : In64 xs) : IsInts w' v xs := h.ints hl h64
theorem withoutL_len (l : List Int) (x : Int) : (withoutL l x).length ≤ l.length := by
  unfold withoutL; split
  · exact List.length_filter_le _ _
  · simp
theorem withoutL_64 {l : List Int} (h : In64 l) (x : Int) : In64 (withoutL l x) := by
  unfold withoutL; split
  · exact fun y hy => h y (List.mem_filter.1 hy).1
  · exact In64.nil

theorem IsInts.len {w : World} {v : Value} {l : List Int} (h : IsInts w v l) : l.length ≤ 17592186044416 := by obtain ⟨_, _, _, _, _, h, _⟩ := h; exact h
theorem IsInts.in64 {w : World} {v : Value} {l : List Int} (h : IsInts w v l) : In64 l := by obtain ⟨_, _, _, _, _, _, h, _⟩ := h; exact h

set_option maxHeartbeats 800000 in
set_option maxRecDepth 100000 in
theorem rresolve_any (v u : Value) (l m : List Int) (x : Int) (w : World) (H : IsInts w v l) (K : IsInts w u m) (hlen : l.length + m.length ≤ 17592186044416) (hx1 : -9223372036854775808 ≤ x) (hx2 : x ≤ 9223372036854775807) :
    Calls Tryd.prog 37 #[v, u, .int .i64 x] w (RetPair w (resR l m x)) := by
  have hwl := withoutL_len l x
  have hwm := withoutL_len m x
  have hl64 := H.in64
  have hm64 := K.in64
  by_cases hm1 : mayB l = true
  · by_cases hm2 : mayB m = true
    · by_cases hx0 : x ≤ 0
      · have HF : Hid (resR l m x = ([], 6)) := by show _ = _; unfold resR; rw [hm1, hm2]; simp [hx0]
        go_enter Tryd.func37, Tryd.ntmps37
        go_wp2_with fail
        refine (rmay_v _ l _ H).mono ?_
        rintro e w1 ⟨rfl, hq1⟩
        go_wp2_with fail
        refine (rmay_v _ m _ (K.quiet hq1)).mono ?_
        rintro e w2 ⟨rfl, hq2⟩
        go_wp2
        go_ret2
        exact ⟨_, ret_pair (by rw [HF.out]), by rw [HF.out]; exact IsInts.nil _, (hq1.trans hq2).below _⟩
      · by_cases hh1 : memB l x = true
        · by_cases hh2 : memB m (-x) = true
          · have HF : Hid (resR l m x = joinR (withoutL l x) (withoutL m x)) := by show _ = _; unfold resR; rw [hm1, hm2, if_pos (show (true && true) = true from rfl), if_neg (by rw [hh1, hh2]; simp; omega)]
            go_enter Tryd.func37, Tryd.ntmps37
            go_wp2_with fail
            refine (rmay_v _ l _ H).mono ?_
            rintro e w1 ⟨rfl, hq1⟩
            go_wp2_with fail
            refine (rmay_v _ m _ (K.quiet hq1)).mono ?_
            rintro e w2 ⟨rfl, hq2⟩
            have hbel2 := (hq1.trans hq2).below w.heap.size
            have H2 := H.below hbel2 (Nat.le_refl _)
            have K2 := K.below hbel2 (Nat.le_refl _)
            clear hq1 hq2
            go_wp2_with fail
            refine (rhas_any v l x _ H2 (by omega) (by omega)).mono ?_
            rintro e w3 ⟨rfl, rfl⟩
            go_wp2_with fail
            refine (rhas_any u m (-x) _ K2 (by omega) (by omega)).mono ?_
            rintro e w3 ⟨rfl, rfl⟩
            go_wp2_with fail
            refine (rwithout_any v l x _ H2 (by omega) (by omega)).mono ?_
            rintro e w3 ⟨v1, rfl, hown1, hbel3⟩
            have K3 := K2.below hbel3 (Nat.le_refl _)
            go_wp2_with fail
            refine (rwithout_any u m x _ K3 (by omega) (by omega)).mono ?_
            rintro e w4 ⟨v2, rfl, hown2, hbel4⟩
            have A1 := (hown1.ints (by omega) (withoutL_64 hl64 x)).below hbel4 (Nat.le_refl _)
            have A2 := hown2.ints (by omega) (withoutL_64 hm64 x)
            have hbel5 := hbel2.trans ((hbel3.mono hbel2.size).trans (hbel4.mono (Nat.le_trans hbel2.size hbel3.size)))
            have hsz5 := hbel5.size
            go_wp2_with fail
            refine (rjoin_any v1 v2 _ _ _ A1 A2 (by omega)).mono ?_
            rintro e w5 ⟨v3, rfl, A3, hbel6⟩
            go_wp2
            go_ret2
            exact ⟨_, ret_pair (by rw [HF.out]), by rw [HF.out]; exact A3, hbel5.trans (hbel6.mono hsz5)⟩
          · have hh2' : memB m (-x) = false := by simpa using hh2
            have HF : Hid (resR l m x = ([], 6)) := by show _ = _; unfold resR; rw [hm1, hm2, if_pos (show (true && true) = true from rfl), if_pos (by rw [hh2']; simp)]
            clear hh2
            go_enter Tryd.func37, Tryd.ntmps37
            go_wp2_with fail
            refine (rmay_v _ l _ H).mono ?_
            rintro e w1 ⟨rfl, hq1⟩
            go_wp2_with fail
            refine (rmay_v _ m _ (K.quiet hq1)).mono ?_
            rintro e w2 ⟨rfl, hq2⟩
            have H2 := H.quiet (hq1.trans hq2)
            have K2 := K.quiet (hq1.trans hq2)
            go_wp2_with fail
            refine (rhas_any v l x _ H2 (by omega) (by omega)).mono ?_
            rintro e w3 ⟨rfl, rfl⟩
            go_wp2_with fail
            refine (rhas_any u m (-x) _ K2 (by omega) (by omega)).mono ?_
            rintro e w3 ⟨rfl, rfl⟩
            go_wp2
            go_ret2
            exact ⟨_, ret_pair (by rw [HF.out]), by rw [HF.out]; exact IsInts.nil _, (hq1.trans hq2).below _⟩
        · have hh1' : memB l x = false := by simpa using hh1
          have HF : Hid (resR l m x = ([], 6)) := by show _ = _; unfold resR; rw [hm1, hm2, if_pos (show (true && true) = true from rfl), if_pos (by rw [hh1']; simp)]
          clear hh1
          go_enter Tryd.func37, Tryd.ntmps37
          go_wp2_with fail
          refine (rmay_v _ l _ H).mono ?_
          rintro e w1 ⟨rfl, hq1⟩
          go_wp2_with fail
          refine (rmay_v _ m _ (K.quiet hq1)).mono ?_
          rintro e w2 ⟨rfl, hq2⟩
          have H2 := H.quiet (hq1.trans hq2)
          go_wp2_with fail
          refine (rhas_any v l x _ H2 (by omega) (by omega)).mono ?_
          rintro e w3 ⟨rfl, rfl⟩
          go_wp2
          go_ret2
          exact ⟨_, ret_pair (by rw [HF.out]), by rw [HF.out]; exact IsInts.nil _, (hq1.trans hq2).below _⟩
    · have hm2' : mayB m = false := by simpa using hm2
      have HF : Hid (resR l m x = ([], 2)) := by show _ = _; unfold resR; rw [hm1, hm2']; rfl
      clear hm2
      go_enter Tryd.func37, Tryd.ntmps37
      go_wp2_with fail
      refine (rmay_v _ l _ H).mono ?_
      rintro e w1 ⟨rfl, hq1⟩
      go_wp2_with fail
      refine (rmay_v _ m _ (K.quiet hq1)).mono ?_
      rintro e w2 ⟨rfl, hq2⟩
      go_wp2
      go_ret2
      exact ⟨_, ret_pair (by rw [HF.out]), by rw [HF.out]; exact IsInts.nil _, (hq1.trans hq2).below _⟩
  · have hm1' : mayB l = false := by simpa using hm1
    have HF : Hid (resR l m x = ([], 2)) := by show _ = _; unfold resR; rw [hm1']; rfl
    clear hm1
    go_enter Tryd.func37, Tryd.ntmps37
    go_wp2_with fail
    refine (rmay_v _ l _ H).mono ?_
    rintro e w1 ⟨rfl, hq1⟩
    go_wp2
    go_ret2
    exact ⟨_, ret_pair (by rw [HF.out]), by rw [HF.out]; exact IsInts.nil _, hq1.below _⟩

end Go.Proofs.YtnedpngadfkmiaaDoor
