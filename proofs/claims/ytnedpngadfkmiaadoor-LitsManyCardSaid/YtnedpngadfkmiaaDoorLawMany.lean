/- LitsMany: the walk. -/
import Derived.Test.YtnedpngadfkmiaaDoorManyLib
namespace Go.Proofs.YtnedpngadfkmiaaDoor
open Go.RowKit
set_option linter.unusedVariables false

theorem OwnR.isSlice {w : World} {B : Nat} {v : Value} {us : List Value} (h : OwnR w B v us) : ∃ A c, v = .slice A us.length c := by
  rcases h.shape with ⟨rfl, rfl⟩ | ⟨g, c, rfl, _, _⟩
  · exact ⟨none, 0, rfl⟩
  · exact ⟨_, c, rfl⟩

set_option maxHeartbeats 1600000 in
set_option maxRecDepth 100000 in
/-- Many rows. -/
theorem many_big (va : Value) (f : List (List Int)) (w : World) (hT : Pow w.heap.size w) (hS : SameAt w) (H : IsRows w va f) (hbig : 300 < f.length) :
    Calls Tryd.prog 5 #[va] w (fun e w' => e = .returned (.bool true) ∧ Below w.heap.size w w') := by
  have HT := Lib.hid hT
  have HS := Lib.hid hS
  clear hT hS
  obtain ⟨a, cap, rfl, hfl⟩ := H.shape
  go_enter Tryd.func5, Tryd.ntmps5
  go_wp2
  go_loop [3, 17] (fun n i => ∃ (k : Nat) (x : Int), k ≤ f.length ∧ i = .int .i64 k ∧ n = .int .i64 x) (fun _ i => f.length - (intOf i).toNat)
  case atStart => exact ⟨0, 0, Nat.zero_le _, rfl, rfl⟩
  case round =>
    obtain ⟨k, x, hk, rfl, rfl⟩ := hrel
    by_cases hlt : k < f.length
    · obtain ⟨b, off, u, rfl, hb, hu, HU⟩ := H.at hlt
      obtain ⟨a', c', rfl⟩ := HU.shape
      go_wp2
      go_round
      case rel => exact ⟨k + 1, _, by omega, by go_num, rfl⟩
      case measure => simp [intOf]; omega
    · go_wp2_with (go_at_call 19; refine (awakeX (Below.refl _ w) HT.out HS.out).mono ?_; rintro e w1 ⟨rfl, hb1⟩)
      go_ret
      exact ⟨rfl, hb1⟩

set_option maxHeartbeats 1600000 in
set_option maxRecDepth 100000 in
/-- Few rows, with many integers. -/
theorem many_wide (va : Value) (f : List (List Int)) (w : World) (hT : Pow w.heap.size w) (hS : SameAt w) (H : IsRows w va f) (hsm : f.length ≤ 300) (htot : 3000 < tot f) :
    Calls Tryd.prog 5 #[va] w (fun e w' => e = .returned (.bool true) ∧ Below w.heap.size w w') := by
  have HT := Lib.hid hT
  have HS := Lib.hid hS
  obtain ⟨a, cap, rfl, hfl⟩ := H.shape
  have hbd : ∀ k, k ≤ f.length → tot (f.take k) ≤ k * 17592186044416 := by
    intro k
    induction k with
    | zero => intro _; simp [tot]
    | succ k ih =>
      intro hk
      have hkl : k < f.length := by omega
      obtain ⟨b, off, u, _, hb, hu, HU⟩ := H.at hkl
      have h1 := ih (by omega)
      have h2 := HU.len
      rw [tot_take_succ hkl]
      omega
  have HBD := Lib.hid hbd
  have HTOT := Lib.hid htot
  clear hT hS hbd htot
  go_enter Tryd.func5, Tryd.ntmps5
  go_wp2
  go_loop [3, 17] (fun n i => ∃ (k m : Nat), k ≤ f.length ∧ i = .int .i64 k ∧ n = .int .i64 m ∧ m = tot (f.take k)) (fun _ i => f.length - (intOf i).toNat)
  case atStart => exact ⟨0, 0, Nat.zero_le _, rfl, rfl, by simp [tot]⟩
  case round =>
    obtain ⟨k, m, hk, rfl, rfl, hm⟩ := hrel
    have hmb : m ≤ 300 * 17592186044416 := by have := HBD.out k hk; have : k * 17592186044416 ≤ 300 * 17592186044416 := Nat.mul_le_mul_right _ (by omega); omega
    have HM := Lib.hid hm
    clear hm
    by_cases hlt : k < f.length
    · obtain ⟨b, off, u, rfl, hb, hu, HU⟩ := H.at hlt
      have HTS := Lib.hid (tot_take_succ hlt)
      generalize f.getD k [] = l at *
      have hll := HU.len
      obtain ⟨a', c', rfl⟩ := HU.shape
      go_wp2
      go_round
      case rel => exact ⟨k + 1, m + l.length, by omega, by go_num, by go_num, by rw [HTS.out, ← HM.out]⟩
      case measure => simp [intOf]; omega
    · have h3 : (3000 : Int) < (m : Int) := by
        have h1 := HM.out
        have h2 := HTOT.out
        rw [List.take_of_length_le (by omega)] at h1
        omega
      go_wp2_with (go_at_call 19; refine (awakeX (Below.refl _ w) HT.out HS.out).mono ?_; rintro e w1 ⟨rfl, hb1⟩)
      go_ret
      exact ⟨rfl, hb1⟩

set_option maxHeartbeats 4000000 in
set_option maxRecDepth 100000 in
/-- Few rows, with few integers. -/
theorem many_small (va : Value) (f : List (List Int)) (w : World) (hT : Pow w.heap.size w) (hS : SameAt w) (H : IsRows w va f) (hsm : f.length ≤ 300) (htot : tot f ≤ 3000) :
    Calls Tryd.prog 5 #[va] w (fun e w' => e = .returned (.bool true) ∧ Below w.heap.size w w') := by
  have hlt0 := hS.lt
  obtain ⟨a, cap, rfl, hfl⟩ := H.shape
  have hF : ∀ x ∈ f, x.length ≤ 17592186044416 ∧ In64 x := by
    intro x hx
    obtain ⟨j, hj, rfl⟩ := List.mem_iff_getElem.1 hx
    obtain ⟨b, off, u, _, _, _, HU⟩ := H.at hj
    have e : f.getD j [] = f[j] := by simp [List.getD, hj]
    rw [e] at HU
    exact ⟨HU.len, HU.in64⟩
  have HF := Lib.hid hF
  have HT := Lib.hid hT
  have HS := Lib.hid hS
  have HTOT := Lib.hid (fun k => Nat.le_trans (tot_take_le f k) htot)
  clear hT hS htot hF
  go_enter Tryd.func5, Tryd.ntmps5
  go_wp2
  go_loop [3, 17] (fun n i => ∃ (k m : Nat), k ≤ f.length ∧ i = .int .i64 k ∧ n = .int .i64 m ∧ m ≤ 3000 ∧ m = tot (f.take k)) (fun _ i => f.length - (intOf i).toNat)
  case atStart => exact ⟨0, 0, Nat.zero_le _, rfl, rfl, by omega, by simp [tot]⟩
  case round =>
    obtain ⟨k, m, hk, rfl, rfl, hmb, hm⟩ := hrel
    have HM := Lib.hid hm
    clear hm
    by_cases hlt : k < f.length
    · obtain ⟨b, off, u, rfl, hb, hu, HU⟩ := H.at hlt
      have HTS := Lib.hid (tot_take_succ hlt)
      have hnx := HTOT.out (k + 1)
      rw [HTS.out, ← HM.out] at hnx
      generalize f.getD k [] = l at *
      have hll := HU.len
      obtain ⟨a', c', rfl⟩ := HU.shape
      go_wp2
      go_round
      case rel => exact ⟨k + 1, m + l.length, by omega, by go_num, by go_num, hnx, by rw [HTS.out, ← HM.out]⟩
      case measure => simp [intOf]; omega
    · clear HM hk
      go_wp2_with (at_make; refine wpList_mkRows rfl _ _ rfl f.length rfl rfl (by omega) ?_; intro w1 hown1 hg1; have hb1 := (Below.refl w.heap.size w).grown hg1 (Nat.le_refl _) (fun k hk => by cases hk))
      clear hg1
      go_loopw [39] (fun i wr => ∃ (k : Nat) (us : List Value), k ≤ f.length ∧ i = .int .i64 k ∧ us.length = k ∧ OwnR wr w.heap.size (.slice (some ⟨w.heap.size, 0, none⟩) f.length f.length) (us ++ List.replicate (f.length - k) (.slice none 0 0)) ∧ RowsOwn wr w.heap.size us (f.take k) ∧ Below w.heap.size w wr) (fun i _ => f.length - (intOf i).toNat)
      case atStart => exact ⟨0, [], Nat.zero_le _, rfl, rfl, by simpa using hown1, RowsOwn.nil _ _, hb1⟩
      case round =>
        clear hown1 hb1
        obtain ⟨k, us, hk, rfl, hul, hown, hro, hbel⟩ := hrel
        have HUL := Lib.hid hul
        clear hul
        have hsz := hbel.size
        by_cases hlt : k < f.length
        · obtain ⟨b, off, u, rfl, hb, hu0, HU0⟩ := H.at hlt
          have hu := (hbel.cell (p := ⟨b, off + k, none⟩) hb).trans hu0
          have HU := HU0.below hbel (Nat.le_refl _)
          have HTK := Lib.hid (rows_take_succ hlt)
          have HMS := Lib.hid (fun (z y : Value) => mid_set (z := z) (y := y) HUL.out hlt)
          generalize f.getD k [] = l at *
          obtain ⟨a', c', rfl⟩ := HU.shape
          go_wp2_with fail
          refine (clone_any _ l wr HU).mono ?_
          rintro e w2 ⟨v2, rfl, hown2, hb2⟩
          obtain ⟨ar, nr, cr, rfl⟩ := hown2.isSlice
          have hownr := hown.below hb2 (Nat.le_refl _)
          have hy := hownr.cell k (by simp [HUL.out]; omega)
          have hfz := hownr.frozen k
          have hst := hownr.store k (.slice ar nr cr)
          have hro2 := ((hro.below hb2 (Nat.le_refl _)).append (RowsOwn.one (hown2.mono hsz))).setR (j := k) (x := .slice ar nr cr) hownr
          rw [HMS.out] at hst
          have hbel2 := (hbel.trans (hb2.mono hsz)).setCell (p := ⟨w.heap.size, k, none⟩) (Nat.le_refl _) (.slice ar nr cr)
          go_wp2
          go_roundw
          case rel => exact ⟨k + 1, us ++ [.slice ar nr cr], by omega, by go_num, by simp [HUL.out], hst, by rw [HTK.out]; exact hro2, hbel2⟩
          case measure => simp [intOf]; omega
        · have hke : f.length ≤ k := by omega
          have hown3 := hown
          have hro3 := hro
          rw [show f.length - k = 0 from by omega, List.replicate_zero, List.append_nil] at hown3
          rw [List.take_of_length_le hke] at hro3
          have RO : IsRows wr (.slice (some ⟨w.heap.size, 0, none⟩) f.length f.length) f := hown3.rows (hro3.are HF.out) (by omega)
          have hlt1 : 0 < wr.heap.size := by omega
          have HS0 : SameAt wr := HS.out.below hbel hlt0
          have hltw := HS0.lt
          have HSW := Lib.hid HS0
          have HR0 : IsRows wr (.slice a f.length cap) f := H.below hbel (Nat.le_refl _)
          have hg0 : wr.cell? ⟨0, 0, none⟩ = _ := HS0
          clear hown hro hown3 hro3 HS0 HUL hk
          generalize wr = wo at *
          have hnew := World.new_ne wo ⟨0, 0, none⟩ hg0
          have hyd : Below wo.heap.size wo wo.drew := bd0 wo
          go_wp2_with fail
          go_region_held3 (fun w' => w'.cell? ⟨0, 0, none⟩ = some (.func (.func 107) #[] #[])) (go_keep)
            (first
              | (go_at_call 45; refine (mcX ?_ RO).mono ?_; (first | exact hyd | exact hy6); rintro e w5 ⟨rfl, hy5⟩; have hg5 : w5.cell? ⟨0, 0, none⟩ = _ := SameAt.below HSW.out hy5 hltw)
              | (go_at_call 46; refine (rmcX ?_ HR0).mono ?_; (first | exact hyd | exact hy5); rintro e w6 ⟨rfl, hy6⟩; have hg6 : w6.cell? ⟨0, 0, none⟩ = _ := SameAt.below HSW.out hy6 hltw)
              | (go_at_call 47; refine (vaX ?_ RO).mono ?_; (first | exact hy8 | exact hy6 | exact hy5); rintro e w7 ⟨v7, r7, rfl, hv7, hi7, hb7, hy7⟩; have hg7 : w7.cell? ⟨0, 0, none⟩ = _ := SameAt.below HSW.out hy7 hltw)
              | (go_at_call 48; refine (rvaX ?_ HR0).mono ?_; (first | exact hy7 | exact hy6 | exact hy5); rintro e w8 ⟨v8, r8, rfl, hv8, hi8, hb8, hy8⟩; have hg8 : w8.cell? ⟨0, 0, none⟩ = _ := SameAt.below HSW.out hy8 hltw)
              | (go_at_call_of 107 v8; refine (same2X hy8 (hi7.below hb8 (Nat.le_refl _)) hi8 hv7 hv8).mono ?_; rintro e w9 ⟨rfl, hy9⟩; have hg9 : w9.cell? ⟨0, 0, none⟩ = _ := SameAt.below HSW.out hy9 hltw)
              | (go_at_call_of 107 v8; refine (same2X hy7 hi7 (hi8.below hb7 (Nat.le_refl _)) hv7 hv8).mono ?_; rintro e w9 ⟨rfl, hy9⟩; have hg9 : w9.cell? ⟨0, 0, none⟩ = _ := SameAt.below HSW.out hy9 hltw))
          have R9 := RO.below hy9 (Nat.le_refl _)
          have HR9 := HR0.below hy9 (Nat.le_refl _)
          have hbel9 : Below w.heap.size w w9 := hbel.trans (hy9.mono hsz)
          have hsb : sameB (sortL f) (sortL f) = true := by unfold sameB; simp
          have hsb2 : sameB f f = true := by unfold sameB; simp
          have hslen : (sortL f).length ≤ 17592186044416 := by have := sortL_len f; omega
          have HBD := Lib.hid (sortL_bd HF.out)
          clear hi7 hi8 hb7 hb8 hv7 hv8 hy7 hy8 hy6 hy5 hyd hnew hg5 hg6 hg7 hg8 hg9 hg0 RO HR0 H
          go_wp2_with (first
            | (go_at_call 49; refine (sort_any _ f w9 R9).mono ?_; rintro e w10 ⟨vs, us10, rfl, hos, hrs, hb10⟩; have hs10 := hb10.size; obtain ⟨A, cs, rfl⟩ := hos.isSlice)
            | (go_at_call 51; refine (rsort_any _ f w10 (HR9.below hb10 (Nat.le_refl _))).mono ?_; rintro e w11 ⟨vr, us11, rfl, hor, hrr, hb11⟩; have hs11 := hb11.size; have hos11 := hos.below hb11 (Nat.le_refl _); have hrs11 := hrs.below hb11 (Nat.le_refl _); have K1 := hos11.rows (hrs11.are HBD.out) hslen; have K2 := hor.rows (hrr.are HBD.out) hslen)
            | (go_at_call 50; refine (sameall_any _ _ _ _ w11 K1 K2).mono ?_; rintro e w12 ⟨rfl, hq12⟩))
          have hos12 := hos11.quiet hq12
          have hrw12 := (hrs11.below (hq12.below w11.heap.size) (Nat.le_refl _)).rowsW
          have hb12 : Below w9.heap.size w9 w12 := (hb10.trans (hb11.mono hs10)).trans (hq12.below _)
          have hsz12 := hb12.size
          have husl : us10.length ≤ 17592186044416 := by have := hrs.1; omega
          clear hos hrs hb10 hor hrr hb11 hos11 hrs11 K1 K2 hq12
          go_loopw [71] (fun i wr => ∃ k : Nat, k ≤ us10.length ∧ i = .int .i64 k ∧ OwnR wr w9.heap.size (.slice A us10.length cs) us10 ∧ RowsW wr w9.heap.size us10 ∧ Below w9.heap.size w9 wr) (fun i _ => us10.length - (intOf i).toNat)
          case atStart => exact ⟨0, Nat.zero_le _, rfl, hos12, hrw12, hb12⟩
          case round =>
            clear hos12 hrw12 hb12 hsz12
            obtain ⟨k, hk, rfl, hos, hrw, hb⟩ := hrel
            by_cases hlt : k < us10.length
            · obtain ⟨gs, rfl⟩ : ∃ g, A = some ⟨g, 0, none⟩ := by
                rcases hos.shape with ⟨e, e2⟩ | ⟨g, c, e, _, _⟩
                · rw [e2] at hlt; exact absurd hlt (Nat.not_lt_zero _)
                · injection e with e1; exact ⟨g, e1⟩
              have hy := hos.cell k hlt
              obtain ⟨xs, hx⟩ := hrw k hlt
              generalize us10.getD k (.slice none 0 0) = u at *
              have hx2 : (u = .slice none 0 0) ∨ ∃ g c, u = .slice (some ⟨g, 0, none⟩) xs.length c ∧ w9.heap.size ≤ g ∧ xs.length ≤ 9223372036854775807 := by
                rcases hx.2 with ⟨e, _⟩ | ⟨g, c, cur, e, h1, _, h3, h4, _⟩
                · exact .inl e
                · unfold maxLen at h4; exact .inr ⟨g, c, e, h1, by omega⟩
              rcases hx2 with rfl | ⟨g, c, rfl, hg9, hxl⟩
              · generalize wr = wp at *
                go_wp2_with fail
                go_loopw [77] (fun i wr => i = .int .i64 0 ∧ OwnR wr w9.heap.size (.slice (some ⟨gs, 0, none⟩) us10.length cs) us10 ∧ RowsW wr w9.heap.size us10 ∧ Below w9.heap.size w9 wr) (fun i _ => 0)
                case atStart => exact ⟨rfl, hos, hrw, hb⟩
                case round =>
                  obtain ⟨rfl, hos2, hrw2, hb2⟩ := hrel
                  go_wp2
                  go_roundw
                  case rel => exact ⟨k + 1, by omega, by go_num, hos2, hrw2, hb2⟩
                  case measure => simp [intOf]; omega
              · generalize wr = wp at *
                go_wp2_with fail
                go_loopw [77] (fun i wr => ∃ (j : Nat) (ys : List Int), j ≤ xs.length ∧ i = .int .i64 j ∧ ys.length = xs.length ∧ Own wr w9.heap.size (.slice (some ⟨g, 0, none⟩) xs.length c) ys ∧ OwnR wr w9.heap.size (.slice (some ⟨gs, 0, none⟩) us10.length cs) us10 ∧ RowsW wr w9.heap.size us10 ∧ Below w9.heap.size w9 wr) (fun i _ => xs.length - (intOf i).toNat)
                case atStart => exact ⟨0, xs, Nat.zero_le _, rfl, rfl, hx, hos, hrw, hb⟩
                case round =>
                  obtain ⟨j, ys, hj, rfl, hyl, hown, hos2, hrw2, hb2⟩ := hrel
                  have HYL := Lib.hid hyl
                  clear hyl
                  by_cases hjl : j < xs.length
                  · have hc := hown.cell j (by rw [HYL.out]; exact hjl)
                    have hfz := hown.frozen j
                    have hst := hown.store j 0
                    have hos3 := hos2.setInt (j := j) (x := .int .i64 0) hown
                    have hrw3 := hrw2.set (j := j) (y := 0) hown
                    have hb3 := hb2.setCell (p := ⟨g, j, none⟩) hg9 (.int .i64 0)
                    go_wp2
                    go_roundw
                    case rel => exact ⟨j + 1, ys.set j 0, by omega, by go_num, by rw [List.length_set]; exact HYL.out, hst, hos3, hrw3, hb3⟩
                    case measure => simp [intOf]; omega
                  · go_wp2
                    go_roundw
                    case rel => exact ⟨k + 1, by omega, by go_num, hos2, hrw2, hb2⟩
                    case measure => simp [intOf]; omega
            · have K3 := R9.below hb (Nat.le_refl _)
              have K4 := HR9.below hb (Nat.le_refl _)
              have hbelf := hbel9.trans (hb.mono hbel9.size)
              go_wp2_with (first
                | (go_at_call 50; refine (sameall_any _ _ _ _ wr K3 K4).mono ?_; rintro e w13 ⟨rfl, hq13⟩)
                | (go_at_call 19; refine (awakeX (hbelf.trans (hq13.below _)) HT.out HS.out).mono ?_; rintro e w14 ⟨rfl, hz14⟩))
              go_ret
              exact ⟨rfl, hz14⟩

end Go.Proofs.YtnedpngadfkmiaaDoor
