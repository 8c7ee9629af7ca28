/- The reference's insertion. -/
import Derived.Test.YtnedpngadfkmiaaDoorCopied
namespace Go.Proofs.YtnedpngadfkmiaaDoor
open Go.RowKit
set_option linter.unusedVariables false

def insL : List Int → Int → List Int
  | [], x => [x]
  | y :: r, x => if litLt y x then y :: insL r x else if y = x then y :: r else x :: y :: r

theorem insL_lt {l : List Int} {x : Int} {k : Nat} (h : k < l.length) (hlt : litLt (l.getD k 0) x) : l.take k ++ insL (l.drop k) x = l.take (k + 1) ++ insL (l.drop (k + 1)) x := by
  have e : l.take (k + 1) = l.take k ++ [l.getD k 0] := by rw [List.take_succ_eq_append_getElem h]; simp [List.getD, h]
  have e2 : l.drop k = l.getD k 0 :: l.drop (k + 1) := by rw [List.drop_eq_getElem_cons h]; simp [List.getD, h]
  rw [e2, insL, if_pos hlt, e, List.append_assoc]; rfl

theorem IsInts.drop {w : World} {b off cap k : Nat} {l : List Int} (H : IsInts w (.slice (some ⟨b, off, none⟩) l.length cap) l) (hk : k ≤ l.length) : IsInts w (.slice (some ⟨b, off + k, none⟩) (l.length - k) (cap - k)) (l.drop k) := by
  obtain ⟨a, cap', e, ⟨h1, h2⟩, h3, h4, h5, b', off', ha, hc⟩ := H
  injection e with e1 e2 e3
  subst e1; subst e3
  refine ⟨_, _, by rw [List.length_drop], ⟨by rw [List.length_drop]; omega, fun e => by cases e⟩, by omega, by rw [List.length_drop]; omega, fun x hx => h5 x (List.mem_of_mem_drop hx), b, off + k, fun hne => ⟨rfl, ?_⟩, fun j hj => ?_⟩
  · exact (ha (by rintro rfl; simp at hne)).2 |> fun h => by
      have := (ha (by rintro rfl; simp at hne)).1
      injection this with this; injection this with q1 q2
      subst q1; exact h
  · rw [List.length_drop] at hj
    have := (ha (by rintro rfl; simp at hj)).1
    injection this with this; injection this with q1 q2
    subst q1; subst q2
    rw [Nat.add_assoc, hc (k + j) (by omega)]
    simp [List.getD]
theorem IsInts.take {w : World} {b off cap k : Nat} {l : List Int} (H : IsInts w (.slice (some ⟨b, off, none⟩) l.length cap) l) (hk : k ≤ l.length) : IsInts w (.slice (some ⟨b, off, none⟩) k cap) (l.take k) := by
  obtain ⟨a, cap', e, ⟨h1, h2⟩, h3, h4, h5, b', off', ha, hc⟩ := H
  injection e with e1 e2 e3
  subst e1; subst e3
  refine ⟨_, _, by rw [List.length_take, Nat.min_eq_left hk], ⟨by rw [List.length_take]; omega, fun e => by cases e⟩, h3, by rw [List.length_take]; omega, fun x hx => h5 x (List.mem_of_mem_take hx), b', off', fun hne => ha (by rintro rfl; simp at hne), fun j hj => ?_⟩
  rw [List.length_take] at hj
  rw [hc j (by omega)]
  simp [List.getD, show j < k by omega]

theorem In64.append {l m : List Int} (h : In64 l) (k : In64 m) : In64 (l ++ m) := fun x hx => by
  rcases List.mem_append.1 hx with hx | hx
  · exact h x hx
  · exact k x hx
theorem In64.take {l : List Int} (h : In64 l) (k : Nat) : In64 (l.take k) := fun x hx => h x (List.mem_of_mem_take hx)
theorem In64.drop {l : List Int} (h : In64 l) (k : Nat) : In64 (l.drop k) := fun x hx => h x (List.mem_of_mem_drop hx)
theorem In64.one {x : Int} (h1 : -9223372036854775808 ≤ x) (h2 : x ≤ 9223372036854775807) : In64 [x] := fun y hy => by
  rw [List.mem_singleton] at hy; subst hy; exact ⟨h1, h2⟩

theorem insL_at {l : List Int} {x : Int} {k : Nat} (h : k < l.length) (h1 : ¬ litLt (l.getD k 0) x) (h2 : ¬ l.getD k 0 = x) : insL (l.drop k) x = x :: l.drop k := by
  have e2 : l.drop k = l.getD k 0 :: l.drop (k + 1) := by rw [List.drop_eq_getElem_cons h]; simp [List.getD, h]
  rw [e2, insL, if_neg h1, if_neg h2]
theorem insL_is {l : List Int} {x : Int} {k : Nat} (h : k < l.length) (h1 : ¬ litLt (l.getD k 0) x) (h2 : l.getD k 0 = x) : l.take k ++ insL (l.drop k) x = l := by
  have e2 : l.drop k = l.getD k 0 :: l.drop (k + 1) := by rw [List.drop_eq_getElem_cons h]; simp [List.getD, h]
  rw [e2, insL, if_neg h1, if_pos h2, ← e2, List.take_append_drop]

theorem IsInts.none_of {w : World} {ad : Addr} {c : Nat} (hc : c ≤ 9223372036854775807) : IsInts w (.slice (some ad) 0 c) [] :=
  ⟨_, _, rfl, ⟨Nat.zero_le _, fun e => by cases e⟩, hc, by simp, In64.nil, IntsAt.nil _ _⟩

def RetInts (w : World) (xs : List Int) (e : Ending) (w' : World) : Prop := ∃ v, e = .returned v ∧ IsInts w' v xs ∧ Below w.heap.size w w'

set_option maxHeartbeats 400000 in
set_option maxRecDepth 100000 in
theorem rwith_any (v : Value) (l : List Int) (x : Int) (w : World) (H : IsInts w v l) (hx1 : -9223372036854775808 ≤ x) (hx2 : x ≤ 9223372036854775807) (hlen : l.length < 17592186044416) :
    Calls Tryd.prog 90 #[v, .int .i64 x] w (RetInts w (insL l x)) := by
  have H0 := H
  obtain ⟨a, cap, rfl, ⟨hcap1, hcap2⟩, hcap3, hl, h64, b, off, ha, hc⟩ := H
  go_enter Tryd.func90, Tryd.ntmps90
  go_wp2
  go_loop [5] (fun i => ∃ k : Nat, k ≤ l.length ∧ i = .int .i64 k ∧ insL l x = l.take k ++ insL (l.drop k) x) (fun i => l.length - (intOf i).toNat)
  case atStart => exact ⟨0, Nat.zero_le _, rfl, by simp⟩
  case round =>
    obtain ⟨k, hk, rfl, hi⟩ := hrel
    by_cases hlt : k < l.length
    · obtain ⟨rfl, hb⟩ := ha (by intro h; simp [h] at hlt)
      have hy := hc k hlt
      have hy1 := (h64.at k hlt).1
      have hy2 := (h64.at k hlt).2
      by_cases hp : litLt (l.getD k 0) x
      · have HI : Hid (insL l x = l.take (k + 1) ++ insL (l.drop (k + 1)) x) := hi.trans (insL_lt hlt hp)
        have hp' : decide (litLt (l.getD k 0) x) = true := by simpa using hp
        clear hi hc ha
        generalize l.getD k 0 = y at *
        go_wp2_with (go_at_call 104; refine (rbefore_any _ _ _ (by omega) (by omega) (by omega) (by omega)).mono ?_; rintro e w' ⟨rfl, rfl⟩)
        go_round
        case rel => exact ⟨k + 1, by omega, by go_num, HI.out⟩
        case measure => simp [intOf]; omega
      · have hp' : decide (litLt (l.getD k 0) x) = false := by simpa using hp
        have HI := Lib.hid hi
        have HC := Lib.hid hc
        clear hi hc ha
        by_cases he : l.getD k 0 = x
        · have HF : Hid (insL l x = l) := HI.out.trans (insL_is hlt hp he)
          have he' : (l.getD k 0 == x) = true := by rw [he]; simp
          rw [he] at hy hp'
          clear hp hy1 hy2 he he'
          have he' : (x == x) = true := by simp
          go_wp2_with (go_at_call 104; refine (rbefore_any _ _ _ (by omega) (by omega) (by omega) (by omega)).mono ?_; rintro e w' ⟨rfl, rfl⟩)
          go_ret
          exact ⟨_, rfl, by rw [HF.out]; exact H0, Below.refl _ _⟩
        · have HF : Hid (insL l x = [] ++ l.take k ++ [x] ++ l.drop k) := HI.out.trans (by rw [insL_at hlt hp he]; simp)
          have he' : (l.getD k 0 == x) = false := beq_eq_false_iff_ne.2 he
          have HT := H0.take hk
          have HD := H0.drop hk
          have hck : ¬ cap = k := by omega
          clear he hp
          generalize l.getD k 0 = y at *
          go_wp2_with (first | (go_at_call 104; refine (rbefore_any _ _ _ (by omega) (by omega) (by omega) (by omega)).mono ?_; rintro e w' ⟨rfl, rfl⟩) | (at_builtin; refine wpList_app rfl (.tmp 34) (.tmp 37) rfl w.heap.size _ _ [] (l.take k) rfl rfl (Own.nil _ _) HT (by simp; omega) (Nat.le_refl _) ?_; intro v1 w1 hown1 hg1; have hbel1 := below_app (Below.refl w.heap.size w) (Own.nil w w.heap.size) (Nat.le_refl _) hg1; have hs1 := hbel1.size) | (at_builtin; refine wpList_app1 rfl (.tmp 39) (.tmp 41) rfl w.heap.size _ _ x w1.heap.size rfl rfl (hown1.alloc _) (by simp) (by simp; omega) (by simp; omega) ?_; intro v2 w2 hown2 hg2; have hbel2 := below_app (hbel1.alloc hs1 _) (hown1.alloc _) (by simp; omega) hg2; have hs2 := hbel2.size; have HD2 := HD.below hbel2 (Nat.le_refl _)) | (at_builtin; refine wpList_app rfl (.tmp 43) (.tmp 46) rfl w.heap.size _ _ _ (l.drop k) rfl rfl hown2 HD2 (by simp; omega) hs2 ?_; intro v3 w3 hown3 hg3; have hbel3 := below_app hbel2 hown2 hs2 hg3))
          go_ret
          exact ⟨_, rfl, by rw [HF.out]; exact hown3.ints (by simp; omega) ((((In64.nil.append (h64.take k)).append (In64.one hx1 hx2))).append (h64.drop k)), hbel3⟩
    · have hkl : k = l.length := by omega
      have HF : Hid (insL l x = [] ++ l ++ [x]) := by
        show _ = _
        rw [hi, List.take_of_length_le (by omega), List.drop_eq_nil_of_le (by omega)]; rfl
      clear hi
      subst hkl
      by_cases hne : l = []
      · subst hne
        clear ha hc hlt
        cases a with
        | none =>
          have hc0 := hcap2 rfl
          subst hc0
          go_wp2_with (first | (at_builtin; refine wpList_app rfl (.tmp 34) (.tmp 37) rfl w.heap.size _ _ [] [] rfl rfl (Own.nil _ _) (IsInts.nil _) (by simp <;> omega) (Nat.le_refl _) ?_; intro v1 w1 hown1 hg1; have hbel1 := below_app (Below.refl w.heap.size w) (Own.nil w w.heap.size) (Nat.le_refl _) hg1; have hs1 := hbel1.size) | (at_builtin; refine wpList_app1 rfl (.tmp 39) (.tmp 41) rfl w.heap.size _ _ x w1.heap.size rfl rfl (hown1.alloc _) (by simp) (by simp <;> omega) (by simp <;> omega) ?_; intro v2 w2 hown2 hg2; have hbel2 := below_app (hbel1.alloc hs1 _) (hown1.alloc _) (by simp <;> omega) hg2; have hs2 := hbel2.size) | (at_builtin; refine wpList_app rfl (.tmp 43) (.tmp 46) rfl w.heap.size _ _ _ [] rfl rfl hown2 (IsInts.nil _) (by simp <;> omega) hs2 ?_; intro v3 w3 hown3 hg3; have hbel3 := below_app hbel2 hown2 hs2 hg3))
          go_ret
          exact ⟨_, rfl, by rw [HF.out]; rw [List.append_nil] at hown3; exact hown3.ints (by simp <;> omega) ((In64.nil.append h64).append (In64.one hx1 hx2)), hbel3⟩
        | some ad =>
          by_cases hck : cap = 0
          · subst hck
            go_wp2_with (first | (at_builtin; refine wpList_app rfl (.tmp 34) (.tmp 37) rfl w.heap.size _ _ [] [] rfl rfl (Own.nil _ _) (IsInts.none_of (by omega)) (by simp <;> omega) (Nat.le_refl _) ?_; intro v1 w1 hown1 hg1; have hbel1 := below_app (Below.refl w.heap.size w) (Own.nil w w.heap.size) (Nat.le_refl _) hg1; have hs1 := hbel1.size) | (at_builtin; refine wpList_app1 rfl (.tmp 39) (.tmp 41) rfl w.heap.size _ _ x w1.heap.size rfl rfl (hown1.alloc _) (by simp) (by simp <;> omega) (by simp <;> omega) ?_; intro v2 w2 hown2 hg2; have hbel2 := below_app (hbel1.alloc hs1 _) (hown1.alloc _) (by simp <;> omega) hg2; have hs2 := hbel2.size) | (at_builtin; refine wpList_app rfl (.tmp 43) (.tmp 46) rfl w.heap.size _ _ _ [] rfl rfl hown2 (IsInts.none_of (by omega)) (by simp <;> omega) hs2 ?_; intro v3 w3 hown3 hg3; have hbel3 := below_app hbel2 hown2 hs2 hg3))
            go_ret
            exact ⟨_, rfl, by rw [HF.out]; rw [List.append_nil] at hown3; exact hown3.ints (by simp <;> omega) ((In64.nil.append h64).append (In64.one hx1 hx2)), hbel3⟩
          · go_wp2_with (first | (at_builtin; refine wpList_app rfl (.tmp 34) (.tmp 37) rfl w.heap.size _ _ [] [] rfl rfl (Own.nil _ _) (IsInts.none_of (by omega)) (by simp <;> omega) (Nat.le_refl _) ?_; intro v1 w1 hown1 hg1; have hbel1 := below_app (Below.refl w.heap.size w) (Own.nil w w.heap.size) (Nat.le_refl _) hg1; have hs1 := hbel1.size) | (at_builtin; refine wpList_app1 rfl (.tmp 39) (.tmp 41) rfl w.heap.size _ _ x w1.heap.size rfl rfl (hown1.alloc _) (by simp) (by simp <;> omega) (by simp <;> omega) ?_; intro v2 w2 hown2 hg2; have hbel2 := below_app (hbel1.alloc hs1 _) (hown1.alloc _) (by simp <;> omega) hg2; have hs2 := hbel2.size) | (at_builtin; refine wpList_app rfl (.tmp 43) (.tmp 46) rfl w.heap.size _ _ _ [] rfl rfl hown2 (IsInts.none_of (by omega)) (by simp <;> omega) hs2 ?_; intro v3 w3 hown3 hg3; have hbel3 := below_app hbel2 hown2 hs2 hg3))
            go_ret
            exact ⟨_, rfl, by rw [HF.out]; rw [List.append_nil] at hown3; exact hown3.ints (by simp <;> omega) ((In64.nil.append h64).append (In64.one hx1 hx2)), hbel3⟩
      · obtain ⟨rfl, hb⟩ := ha hne
        clear ha hc hlt
        by_cases hck : cap = l.length
        · subst hck
          go_wp2_with (first | (at_builtin; refine wpList_app rfl (.tmp 34) (.tmp 37) rfl w.heap.size _ _ [] l rfl rfl (Own.nil _ _) H0 (by simp; omega) (Nat.le_refl _) ?_; intro v1 w1 hown1 hg1; have hbel1 := below_app (Below.refl w.heap.size w) (Own.nil w w.heap.size) (Nat.le_refl _) hg1; have hs1 := hbel1.size) | (at_builtin; refine wpList_app1 rfl (.tmp 39) (.tmp 41) rfl w.heap.size _ _ x w1.heap.size rfl rfl (hown1.alloc _) (by simp) (by simp; omega) (by simp; omega) ?_; intro v2 w2 hown2 hg2; have hbel2 := below_app (hbel1.alloc hs1 _) (hown1.alloc _) (by simp; omega) hg2; have hs2 := hbel2.size) | (at_builtin; refine wpList_app rfl (.tmp 43) (.tmp 46) rfl w.heap.size _ _ _ [] rfl rfl hown2 (IsInts.none_of (by omega)) (by simp; omega) hs2 ?_; intro v3 w3 hown3 hg3; have hbel3 := below_app hbel2 hown2 hs2 hg3))
          go_ret
          exact ⟨_, rfl, by rw [HF.out]; rw [List.append_nil] at hown3; exact hown3.ints (by simp; omega) ((In64.nil.append h64).append (In64.one hx1 hx2)), hbel3⟩
        · go_wp2_with (first | (at_builtin; refine wpList_app rfl (.tmp 34) (.tmp 37) rfl w.heap.size _ _ [] l rfl rfl (Own.nil _ _) H0 (by simp; omega) (Nat.le_refl _) ?_; intro v1 w1 hown1 hg1; have hbel1 := below_app (Below.refl w.heap.size w) (Own.nil w w.heap.size) (Nat.le_refl _) hg1; have hs1 := hbel1.size) | (at_builtin; refine wpList_app1 rfl (.tmp 39) (.tmp 41) rfl w.heap.size _ _ x w1.heap.size rfl rfl (hown1.alloc _) (by simp) (by simp; omega) (by simp; omega) ?_; intro v2 w2 hown2 hg2; have hbel2 := below_app (hbel1.alloc hs1 _) (hown1.alloc _) (by simp; omega) hg2; have hs2 := hbel2.size) | (at_builtin; refine wpList_app rfl (.tmp 43) (.tmp 46) rfl w.heap.size _ _ _ [] rfl rfl hown2 (IsInts.none_of (by omega)) (by simp; omega) hs2 ?_; intro v3 w3 hown3 hg3; have hbel3 := below_app hbel2 hown2 hs2 hg3))
          go_ret
          exact ⟨_, rfl, by rw [HF.out]; rw [List.append_nil] at hown3; exact hown3.ints (by simp; omega) ((In64.nil.append h64).append (In64.one hx1 hx2)), hbel3⟩

end Go.Proofs.YtnedpngadfkmiaaDoor
