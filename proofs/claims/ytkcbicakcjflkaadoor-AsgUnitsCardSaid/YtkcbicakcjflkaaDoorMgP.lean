/- Joined texts: JoinF, UnitsV. -/
import Derived.Test.YtkcbicakcjflkaaDoorMgB
import Derived.Test.YtkcbicakcjflkaaDoorUnitsQ
import Derived.Test.YtkcbicakcjflkaaDoorUnitsW
/- The reference's Join: what it hands back lies in new memory. -/
namespace Go.Proofs.YtkcbicakcjflkaaDoor
open Go.RowKit
set_option linter.unusedVariables false

def RetIntsF (u : Value) (w : World) (xs : List Int) (e : Ending) (w' : World) : Prop := ∃ v, e = .returned v ∧ IsInts w' v xs ∧ Below w.heap.size w w' ∧ (v = u ∨ ∀ g, v.ownBlock = some g → w.heap.size ≤ g)
def RetPairF (w : World) (r : List Int × Int) (e : Ending) (w' : World) : Prop := ∃ v, e = .returned (.tuple #[v, .int .i64 r.2]) ∧ IsInts w' v r.1 ∧ Below w.heap.size w w' ∧ ∀ g, v.ownBlock = some g → w.heap.size ≤ g
theorem fresh_next {n m : Nat} {out v : Value} (h : ∀ g, out.ownBlock = some g → n ≤ g) (hs : n ≤ m) (k : v = out ∨ ∀ g, v.ownBlock = some g → m ≤ g) : ∀ g, v.ownBlock = some g → n ≤ g := fun g hg => by
  rcases k with e | e
  · subst e; exact h g hg
  · exact Nat.le_trans hs (e g hg)

set_option maxHeartbeats 400000 in
set_option maxRecDepth 100000 in
theorem rwithF_any (v : Value) (l : List Int) (x : Int) (w : World) (H : IsInts w v l) (hx1 : -9223372036854775808 ≤ x) (hx2 : x ≤ 9223372036854775807) (hlen : l.length < 17592186044416) :
    Calls Tryd.prog 78 #[v, .int .i64 x] w (RetIntsF v w (insL l x)) := by
  have H0 := H
  obtain ⟨a, cap, rfl, ⟨hcap1, hcap2⟩, hcap3, hl, h64, b, off, ha, hc⟩ := H
  go_enter Tryd.func78, Tryd.ntmps78
  go_wp2
  go_loop [5] (fun i => ∃ k : Nat, k ≤ l.length ∧ i = .int .i64 k ∧ insL l x = l.take k ++ insL (l.drop k) x) (fun i => l.length - (intOf i).toNat)
  case atStart => exact ⟨0, Nat.zero_le _, rfl, by simp⟩
  case round =>
    obtain ⟨k, hk, rfl, hi⟩ := hrel
    by_cases hlt : k < l.length
    · obtain ⟨rfl, hb⟩ := ha (by intro h; simp [h] at hlt)
      have hy := hc k hlt
      have hy1 := (h64.at k hlt).1
      have hy2 := (h64.at k hlt).2
      by_cases hp : litLt (l.getD k 0) x
      · have HI : Hid (insL l x = l.take (k + 1) ++ insL (l.drop (k + 1)) x) := hi.trans (insL_lt hlt hp)
        have hp' : decide (litLt (l.getD k 0) x) = true := by simpa using hp
        clear hi hc ha
        generalize l.getD k 0 = y at *
        go_wp2_with (go_at_call 91; refine (rbefore_any _ _ _ (by omega) (by omega) (by omega) (by omega)).mono ?_; rintro e w' ⟨rfl, rfl⟩)
        go_round
        case rel => exact ⟨k + 1, by omega, by go_num, HI.out⟩
        case measure => simp [intOf]; omega
      · have hp' : decide (litLt (l.getD k 0) x) = false := by simpa using hp
        have HI := Lib.hid hi
        have HC := Lib.hid hc
        clear hi hc ha
        by_cases he : l.getD k 0 = x
        · have HF : Hid (insL l x = l) := HI.out.trans (insL_is hlt hp he)
          have he' : (l.getD k 0 == x) = true := by rw [he]; simp
          rw [he] at hy hp'
          clear hp hy1 hy2 he he'
          have he' : (x == x) = true := by simp
          go_wp2_with (go_at_call 91; refine (rbefore_any _ _ _ (by omega) (by omega) (by omega) (by omega)).mono ?_; rintro e w' ⟨rfl, rfl⟩)
          go_ret
          exact ⟨_, rfl, by rw [HF.out]; exact H0, Below.refl _ _, Or.inl rfl⟩
        · have HF : Hid (insL l x = [] ++ l.take k ++ [x] ++ l.drop k) := HI.out.trans (by rw [insL_at hlt hp he]; simp)
          have he' : (l.getD k 0 == x) = false := beq_eq_false_iff_ne.2 he
          have HT := H0.take hk
          have HD := H0.drop hk
          have hck : ¬ cap = k := by omega
          clear he hp
          generalize l.getD k 0 = y at *
          go_wp2_with (first | (go_at_call 91; refine (rbefore_any _ _ _ (by omega) (by omega) (by omega) (by omega)).mono ?_; rintro e w' ⟨rfl, rfl⟩) | (at_builtin; refine wpList_app rfl (.tmp 34) (.tmp 37) rfl w.heap.size _ _ [] (l.take k) rfl rfl (Own.nil _ _) HT (by simp; omega) (Nat.le_refl _) ?_; intro v1 w1 hown1 hg1; have hbel1 := below_app (Below.refl w.heap.size w) (Own.nil w w.heap.size) (Nat.le_refl _) hg1; have hs1 := hbel1.size) | (at_builtin; refine wpList_app1 rfl (.tmp 39) (.tmp 41) rfl w.heap.size _ _ x w1.heap.size rfl rfl (hown1.alloc _) (by simp) (by simp; omega) (by simp; omega) ?_; intro v2 w2 hown2 hg2; have hbel2 := below_app (hbel1.alloc hs1 _) (hown1.alloc _) (by simp; omega) hg2; have hs2 := hbel2.size; have HD2 := HD.below hbel2 (Nat.le_refl _)) | (at_builtin; refine wpList_app rfl (.tmp 43) (.tmp 46) rfl w.heap.size _ _ _ (l.drop k) rfl rfl hown2 HD2 (by simp; omega) hs2 ?_; intro v3 w3 hown3 hg3; have hbel3 := below_app hbel2 hown2 hs2 hg3))
          go_ret
          exact ⟨_, rfl, by rw [HF.out]; exact hown3.ints (by simp; omega) ((((In64.nil.append (h64.take k)).append (In64.one hx1 hx2))).append (h64.drop k)), hbel3, Or.inr (fun g hg => (hown3.lt g hg).1)⟩
    · have hkl : k = l.length := by omega
      have HF : Hid (insL l x = [] ++ l ++ [x]) := by
        show _ = _
        rw [hi, List.take_of_length_le (by omega), List.drop_eq_nil_of_le (by omega)]; rfl
      clear hi
      subst hkl
      by_cases hne : l = []
      · subst hne
        clear ha hc hlt
        cases a with
        | none =>
          have hc0 := hcap2 rfl
          subst hc0
          go_wp2_with (first | (at_builtin; refine wpList_app rfl (.tmp 34) (.tmp 37) rfl w.heap.size _ _ [] [] rfl rfl (Own.nil _ _) (IsInts.nil _) (by simp <;> omega) (Nat.le_refl _) ?_; intro v1 w1 hown1 hg1; have hbel1 := below_app (Below.refl w.heap.size w) (Own.nil w w.heap.size) (Nat.le_refl _) hg1; have hs1 := hbel1.size) | (at_builtin; refine wpList_app1 rfl (.tmp 39) (.tmp 41) rfl w.heap.size _ _ x w1.heap.size rfl rfl (hown1.alloc _) (by simp) (by simp <;> omega) (by simp <;> omega) ?_; intro v2 w2 hown2 hg2; have hbel2 := below_app (hbel1.alloc hs1 _) (hown1.alloc _) (by simp <;> omega) hg2; have hs2 := hbel2.size) | (at_builtin; refine wpList_app rfl (.tmp 43) (.tmp 46) rfl w.heap.size _ _ _ [] rfl rfl hown2 (IsInts.nil _) (by simp <;> omega) hs2 ?_; intro v3 w3 hown3 hg3; have hbel3 := below_app hbel2 hown2 hs2 hg3))
          go_ret
          exact ⟨_, rfl, by rw [HF.out]; rw [List.append_nil] at hown3; exact hown3.ints (by simp <;> omega) ((In64.nil.append h64).append (In64.one hx1 hx2)), hbel3, Or.inr (fun g hg => (hown3.lt g hg).1)⟩
        | some ad =>
          by_cases hck : cap = 0
          · subst hck
            go_wp2_with (first | (at_builtin; refine wpList_app rfl (.tmp 34) (.tmp 37) rfl w.heap.size _ _ [] [] rfl rfl (Own.nil _ _) (IsInts.none_of (by omega)) (by simp <;> omega) (Nat.le_refl _) ?_; intro v1 w1 hown1 hg1; have hbel1 := below_app (Below.refl w.heap.size w) (Own.nil w w.heap.size) (Nat.le_refl _) hg1; have hs1 := hbel1.size) | (at_builtin; refine wpList_app1 rfl (.tmp 39) (.tmp 41) rfl w.heap.size _ _ x w1.heap.size rfl rfl (hown1.alloc _) (by simp) (by simp <;> omega) (by simp <;> omega) ?_; intro v2 w2 hown2 hg2; have hbel2 := below_app (hbel1.alloc hs1 _) (hown1.alloc _) (by simp <;> omega) hg2; have hs2 := hbel2.size) | (at_builtin; refine wpList_app rfl (.tmp 43) (.tmp 46) rfl w.heap.size _ _ _ [] rfl rfl hown2 (IsInts.none_of (by omega)) (by simp <;> omega) hs2 ?_; intro v3 w3 hown3 hg3; have hbel3 := below_app hbel2 hown2 hs2 hg3))
            go_ret
            exact ⟨_, rfl, by rw [HF.out]; rw [List.append_nil] at hown3; exact hown3.ints (by simp <;> omega) ((In64.nil.append h64).append (In64.one hx1 hx2)), hbel3, Or.inr (fun g hg => (hown3.lt g hg).1)⟩
          · go_wp2_with (first | (at_builtin; refine wpList_app rfl (.tmp 34) (.tmp 37) rfl w.heap.size _ _ [] [] rfl rfl (Own.nil _ _) (IsInts.none_of (by omega)) (by simp <;> omega) (Nat.le_refl _) ?_; intro v1 w1 hown1 hg1; have hbel1 := below_app (Below.refl w.heap.size w) (Own.nil w w.heap.size) (Nat.le_refl _) hg1; have hs1 := hbel1.size) | (at_builtin; refine wpList_app1 rfl (.tmp 39) (.tmp 41) rfl w.heap.size _ _ x w1.heap.size rfl rfl (hown1.alloc _) (by simp) (by simp <;> omega) (by simp <;> omega) ?_; intro v2 w2 hown2 hg2; have hbel2 := below_app (hbel1.alloc hs1 _) (hown1.alloc _) (by simp <;> omega) hg2; have hs2 := hbel2.size) | (at_builtin; refine wpList_app rfl (.tmp 43) (.tmp 46) rfl w.heap.size _ _ _ [] rfl rfl hown2 (IsInts.none_of (by omega)) (by simp <;> omega) hs2 ?_; intro v3 w3 hown3 hg3; have hbel3 := below_app hbel2 hown2 hs2 hg3))
            go_ret
            exact ⟨_, rfl, by rw [HF.out]; rw [List.append_nil] at hown3; exact hown3.ints (by simp <;> omega) ((In64.nil.append h64).append (In64.one hx1 hx2)), hbel3, Or.inr (fun g hg => (hown3.lt g hg).1)⟩
      · obtain ⟨rfl, hb⟩ := ha hne
        clear ha hc hlt
        by_cases hck : cap = l.length
        · subst hck
          go_wp2_with (first | (at_builtin; refine wpList_app rfl (.tmp 34) (.tmp 37) rfl w.heap.size _ _ [] l rfl rfl (Own.nil _ _) H0 (by simp; omega) (Nat.le_refl _) ?_; intro v1 w1 hown1 hg1; have hbel1 := below_app (Below.refl w.heap.size w) (Own.nil w w.heap.size) (Nat.le_refl _) hg1; have hs1 := hbel1.size) | (at_builtin; refine wpList_app1 rfl (.tmp 39) (.tmp 41) rfl w.heap.size _ _ x w1.heap.size rfl rfl (hown1.alloc _) (by simp) (by simp; omega) (by simp; omega) ?_; intro v2 w2 hown2 hg2; have hbel2 := below_app (hbel1.alloc hs1 _) (hown1.alloc _) (by simp; omega) hg2; have hs2 := hbel2.size) | (at_builtin; refine wpList_app rfl (.tmp 43) (.tmp 46) rfl w.heap.size _ _ _ [] rfl rfl hown2 (IsInts.none_of (by omega)) (by simp; omega) hs2 ?_; intro v3 w3 hown3 hg3; have hbel3 := below_app hbel2 hown2 hs2 hg3))
          go_ret
          exact ⟨_, rfl, by rw [HF.out]; rw [List.append_nil] at hown3; exact hown3.ints (by simp; omega) ((In64.nil.append h64).append (In64.one hx1 hx2)), hbel3, Or.inr (fun g hg => (hown3.lt g hg).1)⟩
        · go_wp2_with (first | (at_builtin; refine wpList_app rfl (.tmp 34) (.tmp 37) rfl w.heap.size _ _ [] l rfl rfl (Own.nil _ _) H0 (by simp; omega) (Nat.le_refl _) ?_; intro v1 w1 hown1 hg1; have hbel1 := below_app (Below.refl w.heap.size w) (Own.nil w w.heap.size) (Nat.le_refl _) hg1; have hs1 := hbel1.size) | (at_builtin; refine wpList_app1 rfl (.tmp 39) (.tmp 41) rfl w.heap.size _ _ x w1.heap.size rfl rfl (hown1.alloc _) (by simp) (by simp; omega) (by simp; omega) ?_; intro v2 w2 hown2 hg2; have hbel2 := below_app (hbel1.alloc hs1 _) (hown1.alloc _) (by simp; omega) hg2; have hs2 := hbel2.size) | (at_builtin; refine wpList_app rfl (.tmp 43) (.tmp 46) rfl w.heap.size _ _ _ [] rfl rfl hown2 (IsInts.none_of (by omega)) (by simp; omega) hs2 ?_; intro v3 w3 hown3 hg3; have hbel3 := below_app hbel2 hown2 hs2 hg3))
          go_ret
          exact ⟨_, rfl, by rw [HF.out]; rw [List.append_nil] at hown3; exact hown3.ints (by simp; omega) ((In64.nil.append h64).append (In64.one hx1 hx2)), hbel3, Or.inr (fun g hg => (hown3.lt g hg).1)⟩


set_option maxHeartbeats 800000 in
set_option maxRecDepth 100000 in
theorem rjoinF_any (v u : Value) (l m : List Int) (w : World) (H : IsInts w v l) (K : IsInts w u m) (hlen : l.length + m.length ≤ 17592186044416) :
    Calls Tryd.prog 51 #[v, u] w (RetPairF w (joinR l m)) := by
  have H0 := H
  have K0 := K
  obtain ⟨a, cap, rfl, _, _, hl, h64, b, off, ha, hc⟩ := H
  obtain ⟨a2, cap2, rfl, _, _, hl2, h642, b2, off2, ha2, hc2⟩ := K
  by_cases hm1 : mayB l = true
  · by_cases hm2 : mayB m = true
    · have HF : Hid (joinR l m = tautR (m.foldl insL (sortI l))) := by show _ = _; unfold joinR; rw [hm1, hm2]; rfl
      go_enter Tryd.func51, Tryd.ntmps51
      go_wp2_with fail
      refine (rmay_v _ l _ H0).mono ?_
      rintro e w1 ⟨rfl, hq1⟩
      go_wp2_with fail
      refine (rmay_v _ m _ (K0.quiet hq1)).mono ?_
      rintro e w2 ⟨rfl, hq2⟩
      have hbel2 := (hq1.trans hq2).below w.heap.size
      clear hq1 hq2
      go_wp2_with fail
      go_loopw [6, 7] (fun out i wr => ∃ j : Nat, j ≤ l.length ∧ i = .int .i64 j ∧ IsInts wr out ((l.take j).foldl insL []) ∧ Below w.heap.size w wr ∧ ∀ g, out.ownBlock = some g → w.heap.size ≤ g) (fun _ i _ => l.length - (intOf i).toNat)
      case atStart => exact ⟨0, Nat.zero_le _, rfl, IsInts.nil _, hbel2, fun g hg => by cases hg⟩
      case round =>
        obtain ⟨j, hj, rfl, hout, hbel, hfr⟩ := hrel
        by_cases hlt2 : j < l.length
        · obtain ⟨rfl, hb⟩ := ha (by intro h; simp [h] at hlt2)
          have hy := (hbel.cell (p := ⟨b, off + j, none⟩) hb).trans (hc j hlt2)
          have hy1 := (h64.at j hlt2).1
          have hy2 := (h64.at j hlt2).2
          have HT := Lib.hid (foldl_take (acc := []) hlt2)
          have hln := foldl_insL_len (l.take j) []
          rw [List.length_take] at hln
          simp only [List.length_nil] at hln
          have HC := Lib.hid hc
          clear hc
          generalize l.getD j 0 = y at *
          have HFR := Lib.hid hfr
          clear hfr
          go_wp2_with (go_at_call 78; refine (rwithF_any _ _ y _ hout (by omega) (by omega) (by omega)).mono ?_; rintro e w' ⟨v', rfl, hout', hbel', hfr'⟩)
          go_roundw
          case rel => exact ⟨j + 1, by omega, by go_num, by rw [HT.out]; exact hout', hbel.trans (hbel'.mono hbel.size), fresh_next HFR.out hbel.size hfr'⟩
          case measure => simp [intOf]; omega
        · have hout2 := hout
          rw [List.take_of_length_le (by omega)] at hout2
          have hout3 : IsInts _ _ (sortI l) := hout2
          have hbel0 := hbel
          have hfr0 := Lib.hid hfr
          clear hfr
          clear hout hout2 hbel
          go_wp2
          go_loopw [6, 8] (fun out i wr => ∃ j : Nat, j ≤ m.length ∧ i = .int .i64 j ∧ IsInts wr out ((m.take j).foldl insL (sortI l)) ∧ Below w.heap.size w wr ∧ ∀ g, out.ownBlock = some g → w.heap.size ≤ g) (fun _ i _ => m.length - (intOf i).toNat)
          case atStart => exact ⟨0, Nat.zero_le _, rfl, hout3, hbel0, hfr0.out⟩
          case round =>
            obtain ⟨j2, hj2, rfl, hout, hbel, hfr⟩ := hrel
            by_cases hlt3 : j2 < m.length
            · obtain ⟨rfl, hb⟩ := ha2 (by intro h; simp [h] at hlt3)
              have hy := (hbel.cell (p := ⟨b2, off2 + j2, none⟩) hb).trans (hc2 j2 hlt3)
              have hy1 := (h642.at j2 hlt3).1
              have hy2 := (h642.at j2 hlt3).2
              have HT := Lib.hid (foldl_take (acc := sortI l) hlt3)
              have hln := foldl_insL_len (m.take j2) (sortI l)
              have hsl := sortI_len l
              rw [List.length_take] at hln
              have HC := Lib.hid hc
              have HC2 := Lib.hid hc2
              clear hc hc2 hout3 hbel0
              generalize m.getD j2 0 = y at *
              have HFR := Lib.hid hfr
              clear hfr hfr0
              go_wp2_with (go_at_call 78; refine (rwithF_any _ _ y _ hout (by omega) (by omega) (by omega)).mono ?_; rintro e w' ⟨v', rfl, hout', hbel', hfr'⟩)
              go_roundw
              case rel => exact ⟨j2 + 1, by omega, by go_num, by rw [HT.out]; exact hout', hbel.trans (hbel'.mono hbel.size), fresh_next HFR.out hbel.size hfr'⟩
              case measure => simp [intOf]; omega
            · have hout5 := hout
              rw [List.take_of_length_le (by omega)] at hout5
              have HFR := Lib.hid hfr
              clear hout hout3 hbel0 hfr hfr0
              generalize m.foldl insL (sortI l) = r at *
              by_cases hm : mayB r = true
              · have HG : Hid (joinR l m = (r, 0)) := HF.out.trans (by unfold tautR; rw [if_pos hm])
                go_wp2_with (go_at_call 36; refine (rmay_v _ _ _ hout5).mono ?_; rintro e w' ⟨rfl, hq⟩)
                go_ret2
                exact ⟨_, ret_pair (by rw [HG.out]), by rw [HG.out]; exact hout5.quiet hq, hbel.trans (hq.below _), HFR.out⟩
              · have HG : Hid (joinR l m = ([], 10)) := HF.out.trans (by unfold tautR; rw [if_neg hm])
                have hm' : mayB r = false := by simpa using hm
                clear hm
                go_wp2_with (go_at_call 36; refine (rmay_v _ _ _ hout5).mono ?_; rintro e w' ⟨rfl, hq⟩)
                go_ret2
                exact ⟨_, ret_pair (by rw [HG.out]), by rw [HG.out]; exact IsInts.nil _, hbel.trans (hq.below _), fun g hg => by cases hg⟩
    · have hm2' : mayB m = false := by simpa using hm2
      have HF : Hid (joinR l m = ([], 2)) := by show _ = _; unfold joinR; rw [hm1, hm2']; rfl
      clear hm2
      go_enter Tryd.func51, Tryd.ntmps51
      go_wp2_with fail
      refine (rmay_v _ l _ H0).mono ?_
      rintro e w1 ⟨rfl, hq1⟩
      go_wp2_with fail
      refine (rmay_v _ m _ (K0.quiet hq1)).mono ?_
      rintro e w2 ⟨rfl, hq2⟩
      go_wp2
      go_ret2
      exact ⟨_, ret_pair (by rw [HF.out]), by rw [HF.out]; exact IsInts.nil _, (hq1.trans hq2).below _, fun g hg => by cases hg⟩
  · have hm1' : mayB l = false := by simpa using hm1
    have HF : Hid (joinR l m = ([], 2)) := by show _ = _; unfold joinR; rw [hm1']; rfl
    clear hm1
    go_enter Tryd.func51, Tryd.ntmps51
    go_wp2_with fail
    refine (rmay_v _ l _ H0).mono ?_
    rintro e w1 ⟨rfl, hq1⟩
    go_wp2
    go_ret2
    exact ⟨_, ret_pair (by rw [HF.out]), by rw [HF.out]; exact IsInts.nil _, hq1.below _, fun g hg => by cases hg⟩


end Go.Proofs.YtkcbicakcjflkaaDoor

/- The reference's Units. -/
namespace Go.Proofs.YtkcbicakcjflkaaDoor
open Go.RowKit
set_option linter.unusedVariables false

theorem OwnS.below {w w' : World} {B C : Nat} {v : Value} {xs : List (Int × Nat)} (h : OwnS w B v xs) (hb : Below C w w') (hC : w.heap.size ≤ C) : OwnS w' B v xs := by
  refine ⟨h.1, ?_⟩
  rcases h.2 with hn | ⟨g, cap, cur, hv, hB, hg, rest⟩
  · exact .inl hn
  · have hlt : g < w.heap.size := (Array.getElem?_eq_some_iff.1 hg).1
    exact .inr ⟨g, cap, cur, hv, hB, by rw [hb.block g (by omega)]; exact hg, rest⟩

/-- On the way in the reference: the list H is true, the steps l are made. -/
def VS (w0 : World) (f : List (List Int)) (a : List Int) (gk : Nat) (lv va : Value) (wr : World) : Prop :=
  ∃ (H : List Int) (l : List (Int × Nat)), IsInts wr va H ∧ mayB H = true ∧ OwnS wr w0.heap.size lv l ∧ Below w0.heap.size w0 wr ∧ (∀ m c, Run f H m c → Run f a (l ++ m) c) ∧ gk = untrue H f ∧ l.length + gk ≤ f.length ∧ (∀ p ∈ l, (-65536 ≤ p.1 ∧ p.1 ≤ 65536) ∧ p.2 < 20000) ∧ ∀ g, lv.ownBlock = some g → va.ownBlock ≠ some g

set_option maxHeartbeats 3200000 in
set_option maxRecDepth 100000 in
theorem runits_any (vf va : Value) (f : List (List Int)) (a : List Int) (w : World) (HR : IsRows w vf f) (HA : IsInts w va a) :
    Calls Tryd.prog 28 #[vf, va] w (UnitsPost w f a) := by
  have hmay := rmay_v va a w HA
  have hcnf := fun (W : World) (hq : Quiet w W) => rmaycnf_any vf f W (HR.quiet hq)
  obtain ⟨av, cap, rfl, hfl⟩ := HR.shape
  have HRR := Lib.hid HR
  have HAA := Lib.hid HA
  by_cases hm : mayB a = true
  · by_cases hc : mayCnfB f = true
    · rw [hm] at hmay
      rw [hc] at hcnf
      have HM := Lib.hid hmay
      have HC := Lib.hid hcnf
      have HF := Lib.hid (fine_of hc)
      have HFM := Lib.hid (cnf_may hc)
      have hlen := HF.out.len
      have HMM := Lib.hid hm
      have HCC := Lib.hid hc
      have HST : Hid (∀ w2, Quiet w w2 → VS w f a (untrue a f) (.slice none 0 0) va w2) := fun w2 hq => ⟨a, [], HAA.out.quiet hq, HMM.out, OwnS.nil _ _, hq.below _, fun m c h => h, rfl, by simpa using untrue_le a f, by simp, fun g hg => by cases hg⟩
      obtain ⟨aa, ca, rfl⟩ := HA.shape
      clear hm hc hmay hcnf HR HA
      go_enter Tryd.func28, Tryd.ntmps28
      go_wp2_with (first
        | (go_at_call 36; refine HM.out.mono ?_; rintro e w1 ⟨rfl, hq1⟩; have HQ1 := Lib.hid hq1; clear hq1)
        | (go_at_call 37; refine (HC.out _ HQ1.out).mono ?_; rintro e w2 ⟨rfl, hq2⟩; have HQ2 := Lib.hid (HQ1.out.trans hq2); clear hq2))
      go_loopg [7, 1] (untrue a f) (fun gk lv sa wr => VS w f a gk lv sa wr)
      case atStart => exact HST.out _ HQ2.out
      case round =>
        clear HST
        obtain ⟨H, l, hin, hmH, hos, hbel, hrun, hgk, hlg, hpl, hap⟩ := hrel
        obtain ⟨al, cl, rfl⟩ := hos.shape
        obtain ⟨ah, ch, rfl⟩ := hin.shape
        have hsz := hbel.size
        have HR1 := HRR.out.below hbel (Nat.le_refl _)
        have HDE := Lib.hid (rdecides_any _ _ f H wr HR1 hin hmH HFM.out)
        have HIN := Lib.hid hin
        have HMH := Lib.hid hmH
        have HO := Lib.hid hos
        have HB := Lib.hid hbel
        have HRun := Lib.hid hrun
        have HPL := Lib.hid hpl
        have HGK := Lib.hid hgk
        have HAP := Lib.hid hap
        have hHl : H.length ≤ 65536 := by have := may_len (p := 0) (by decide) hmH; omega
        clear hin hmH hos hbel hrun hpl hgk HR1 hap
        go_wp2_with fail
        refine HDE.out.mono ?_
        rintro e w2 ⟨r, rfl, hb2, hdr⟩
        rcases hdr with ⟨i, rfl, hfc⟩ | ⟨rfl, hno⟩
        · have hif := hfc.1
          have HFC := Lib.hid hfc
          have HB2 := Lib.hid (HB.out.trans (hb2.mono hsz))
          have HIN2 := HIN.out.below hb2 (Nat.le_refl _)
          obtain ⟨b, off, u, rfl, hbk, hu, HU⟩ := HRR.out.at hif
          have hu2 := (HB2.out.cell (p := ⟨b, off + i, none⟩) hbk).trans hu
          have HU2 := HU.below HB2.out (Nat.le_refl _)
          have HRe := Lib.hid (rrest_any _ u H (f.getD i []) w2 HIN2 HU2)
          have hro := restL_open HMH.out (HFM.out _ (rows_getD_mem hif))
          have HO2 := Lib.hid (HO.out.below hb2 (Nat.le_refl _))
          have HI2 := Lib.hid HIN2
          have hi2 : i < 20000 := by omega
          have hlit := HF.out.lit _ (HF.out.at hif)
          have hin0 : ((i : Int) < 0) = False := by simp
          rw [hro] at HRe
          rcases open_one hfc.2.1 with ho | ⟨x, ho⟩
          · rw [ho] at HRe
            have HY : Hid (∀ w3, Below w2.heap.size w2 w3 → UnitsPost w f a (.returned (.tuple #[.slice al l.length cl, .int .i64 (i : Int), .int .i64 0])) w3) := fun w3 h3 =>
              ⟨_, l, i, 0, rfl, (HO2.out.below h3 (Nat.le_refl _)).steps (by omega) HPL.out, HB2.out.trans (h3.mono HB2.out.size), Or.inl ⟨HMM.out, HCC.out, rfl, by have := HRun.out [] i (.conf HFC.out ho); rw [List.append_nil] at this; exact this, by omega⟩⟩
            clear hfc ho hu HU HU2 HIN2 hro hb2 hlit
            go_wp2_with (go_at_call 58; refine HRe.out.mono ?_; rintro e w3 ⟨v3, rfl, ho3, hb3⟩; obtain ⟨a3, c3, rfl⟩ := ho3.shapeL; have HE := Lib.hid (HY.out w3 hb3); clear ho3 hb3)
            go_ret3
            exact HE.out
          · rw [ho] at HRe
            obtain ⟨hxc, hxH, hxn⟩ := mem_openL.1 (by rw [ho]; simp : x ∈ openL H (f.getD i []))
            have hxl := hlit x hxc
            obtain ⟨x0, x1, x2⟩ := litB_bd hxl
            obtain ⟨hj1, hj2⟩ := join_unit HMH.out hxl hxH hxn
            have hus := untrue_step HFC.out ho
            have HY : Hid (∀ w4 lv4 va4, IsInts w4 va4 (insL H x) → OwnS w4 w.heap.size lv4 (l ++ [(x, i)]) → Below w.heap.size w w4 → (∀ g, lv4.ownBlock = some g → va4.ownBlock ≠ some g) → VS w f a (untrue (insL H x) f) lv4 va4 w4) := by
              intro w4 lv4 va4 h1 h2 h3 h4
              have hsm : untrue (insL H x) f = untrue (x :: H) f := untrue_same f (fun y => by rw [insL_mem]; simp)
              refine ⟨insL H x, l ++ [(x, i)], h1, hj2, h2, h3, fun m c hr => ?_, rfl, by rw [hsm]; have := HGK.out; simp; omega, fun p hp => ?_, h4⟩
              · rw [List.append_assoc]
                exact HRun.out _ _ (.step HFC.out ho (hr.same fun y => by rw [insL_mem]; simp))
              · rcases List.mem_append.1 hp with h | h
                · exact HPL.out p h
                · have : p = (x, i) := by simpa using h
                  rw [this]
                  exact ⟨⟨x1, x2⟩, hi2⟩
            have HLT : Hid (untrue (insL H x) f < gk) := by
              show _ < _
              rw [HGK.out, untrue_same (K := x :: H) f (fun y => by rw [insL_mem]; simp)]
              exact hus
            have HJ := Lib.hid hj1
            clear hfc ho hu HU HU2 HIN2 hro hlit hxc hxH hxn hxl hj1 hj2 hus
            go_wp2_with fail
            refine HRe.out.mono ?_
            rintro e w3 ⟨v3, rfl, ho3, hb3⟩
            obtain ⟨g3, c3, rfl, hg3, _⟩ := ho3.at (by simp)
            have hx3 : w3.cell? ⟨g3, 0, none⟩ = some (.int .i64 x) := by have := ho3.cell 0 (by simp); simpa using this
            have HO3 := Lib.hid (HO2.out.below hb3 (Nat.le_refl _))
            have HI3 := Lib.hid (HI2.out.below hb3 (Nat.le_refl _))
            have HX3 := Lib.hid (ho3.ints (by simp) (fun y hy => by simp at hy; omega))
            have HB3 := Lib.hid (HB2.out.trans (hb3.mono HB2.out.size))
            have hs3 := HB3.out.size
            have HL2 := Lib.hid HO2.out.lt
            clear ho3 hb3 hb2
            go_wp2_with (first
              | (at_builtin; refine wpList_appS rfl _ _ rfl w.heap.size _ l x i w3.heap.size rfl rfl (HO3.out.keepT (KeepT.alloc _ _)) (by simp) (by simp) (by omega) (by simp; omega) ?_; intro v4 w4 ho4 hg4; have hb4 : Below w.heap.size w w4 := (HB3.out.alloc (by omega) _).grown hg4 (by simp; omega) (fun k hk => (HO3.out.lt k hk).1); have HI4 := Lib.hid (ints_grown HI3.out hg4 (fun a' n' c' g' e1 e2 _ e3 => HAP.out g' e3 (by rw [e1, ← e2]; rfl))); have HX4 := Lib.hid (ints_grown HX3.out hg4 (fun a' n' c' g' e1 e2 _ e3 => by have h9 := (HL2.out g' e3).2; injection e1 with e4 _ _; injection e4 with e4; rw [← e4] at e2; simp at e2; omega)); have HO4 := Lib.hid ho4; have HB4 := Lib.hid hb4; obtain ⟨a4, c4, rfl⟩ := ho4.shape; clear ho4 hb4 hg4)
              | (go_at_call 51; refine (rjoinF_any _ _ H [x] _ HI4.out HX4.out (by simp; omega)).mono ?_; rintro e w5 ⟨v5, rfl, hi5, hb5, hf5⟩; rw [HJ.out] at hi5; have HE := Lib.hid (HY.out w5 _ v5 hi5 (HO4.out.below hb5 (Nat.le_refl _)) (HB4.out.trans (hb5.mono HB4.out.size)) (fun g hg hg' => by have h1 := (HO4.out.lt g hg).2; have h2 := hf5 g hg'; omega)); clear hi5 hb5 hf5))
            go_roundg (untrue (insL H x) f)
            case measure => exact HLT.out
            case rel => have h9 := HE.out; rw [show (l ++ [(x, i)]).length = l.length + 1 from by simp] at h9; exact h9
        · have HY : Hid (∀ w3, w3 = w2 → UnitsPost w f a (.returned (.tuple #[.slice al l.length cl, .int .i64 (-1), .int .i64 0])) w3) := by
            rintro w3 rfl
            exact ⟨_, l, -1, 0, rfl, (HO.out.below hb2 (Nat.le_refl _)).steps (by omega) HPL.out, HB.out.trans (hb2.mono hsz), Or.inl ⟨HMM.out, HCC.out, rfl, by have := HRun.out [] (-1) (.done hno); rw [List.append_nil] at this; exact this, by omega⟩⟩
          clear hno hb2
          go_wp2
          go_ret3
          exact HY.out _ rfl
    · have hc' : mayCnfB f = false := by simpa using hc
      rw [hm] at hmay
      rw [hc'] at hcnf
      have HM := Lib.hid hmay
      have HC := Lib.hid hcnf
      have HFN : Hid (∀ w2, Quiet w w2 → UnitsPost w f a (.returned (.tuple #[.slice none 0 0, .int .i64 (-1), .int .i64 2])) w2) := fun w2 hq => ⟨_, [], -1, 2, rfl, IsSteps.nil w2, hq.below _, Or.inr ⟨fun h => hc h.2, rfl, rfl, rfl⟩⟩
      clear hm hc hc' hmay hcnf HR HA
      go_enter Tryd.func28, Tryd.ntmps28
      go_wp2_with (first
        | (go_at_call 36; refine HM.out.mono ?_; rintro e w1 ⟨rfl, hq1⟩; have HQ1 := Lib.hid hq1; clear hq1)
        | (go_at_call 37; refine (HC.out _ HQ1.out).mono ?_; rintro e w2 ⟨rfl, hq2⟩; have HQ2 := Lib.hid (HQ1.out.trans hq2); clear hq2))
      go_ret3
      exact HFN.out _ HQ2.out
  · have hm' : mayB a = false := by simpa using hm
    rw [hm'] at hmay
    have HM := Lib.hid hmay
    have HFN : Hid (∀ w2, Quiet w w2 → UnitsPost w f a (.returned (.tuple #[.slice none 0 0, .int .i64 (-1), .int .i64 2])) w2) := fun w2 hq => ⟨_, [], -1, 2, rfl, IsSteps.nil w2, hq.below _, Or.inr ⟨fun h => hm h.1, rfl, rfl, rfl⟩⟩
    clear hm hm' hmay hcnf HR HA
    go_enter Tryd.func28, Tryd.ntmps28
    go_wp2_with (go_at_call 36; refine HM.out.mono ?_; rintro e w1 ⟨rfl, hq1⟩; have HQ1 := Lib.hid hq1; clear hq1)
    go_ret3
    exact HFN.out _ HQ1.out

end Go.Proofs.YtkcbicakcjflkaaDoor
