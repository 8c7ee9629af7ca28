/- Without, Within, Neg. -/
import Derived.Test.YtnedpngadfkmiaaDoorOwn
import Derived.Test.YtnedpngadfkmiaaDoorHas
namespace Go.Proofs.YtnedpngadfkmiaaDoor
open Go.RowKit
set_option linter.unusedVariables false

def keepW (x : Int) (y : Int) : Bool := decide (varOf y ≠ x)
def withoutL (l : List Int) (x : Int) : List Int := if mayB l then l.filter (keepW x) else []

theorem filter_take_hit {p : Int → Bool} {l : List Int} {k : Nat} (h : k < l.length) (hp : p (l.getD k 0) = true) : (l.take (k + 1)).filter p = (l.take k).filter p ++ [l.getD k 0] := by
  have e : l.take (k + 1) = l.take k ++ [l.getD k 0] := by rw [List.take_succ_eq_append_getElem h]; simp [List.getD, h]
  rw [e, List.filter_append, List.filter_cons, if_pos hp]; rfl
theorem filter_take_miss {p : Int → Bool} {l : List Int} {k : Nat} (h : k < l.length) (hp : p (l.getD k 0) = false) : (l.take (k + 1)).filter p = (l.take k).filter p := by
  have e : l.take (k + 1) = l.take k ++ [l.getD k 0] := by rw [List.take_succ_eq_append_getElem h]; simp [List.getD, h]
  rw [e, List.filter_append, List.filter_cons, if_neg (by rw [hp]; simp)]; simp
theorem filter_take_le (p : Int → Bool) (l : List Int) (k : Nat) (h : k ≤ l.length) : ((l.take k).filter p).length ≤ k := by
  have := List.length_filter_le p (l.take k); simp at this; omega

set_option maxHeartbeats 400000 in
theorem rwithout_any (v : Value) (l : List Int) (x : Int) (w : World) (H : IsInts w v l) (hx1 : -9223372036854775808 ≤ x) (hx2 : x ≤ 9223372036854775807) :
    Calls Tryd.prog 31 #[v, .int .i64 x] w (RetOwn w (withoutL l x)) := by
  have H0 := H
  obtain ⟨a, cap, rfl, _, _, hl, h64, b, off, ha, hc⟩ := H
  by_cases hm : mayB l = true
  · have HR : Hid (withoutL l x = l.filter (keepW x)) := by show _ = _; unfold withoutL; rw [if_pos hm]
    go_enter Tryd.func31, Tryd.ntmps31
    go_wp2_with (go_at_call 25; refine (rmay_v _ l _ H0).mono ?_; rintro e w1 ⟨rfl, hq⟩)
    go_loopw [5, 6] (fun out i wr => ∃ k : Nat, k ≤ l.length ∧ i = .int .i64 k ∧ Own wr w.heap.size out ((l.take k).filter (keepW x)) ∧ Below w.heap.size w wr) (fun _ i _ => l.length - (intOf i).toNat)
    case atStart => exact ⟨0, Nat.zero_le _, rfl, Own.nil _ _, hq.below _⟩
    case round =>
      obtain ⟨k, hk, rfl, hown, hbel⟩ := hrel
      by_cases hlt : k < l.length
      · obtain ⟨rfl, hb⟩ := ha (by intro h; simp [h] at hlt)
        have hy := (hbel.cell (p := ⟨b, off + k, none⟩) hb).trans (hc k hlt)
        have hy1 := (h64.at k hlt).1
        have hy2 := (h64.at k hlt).2
        have hle := filter_take_le (keepW x) l k hk
        have hsz := hbel.size
        by_cases hp : keepW x (l.getD k 0) = true
        · have HT := Lib.hid (filter_take_hit hlt hp)
          have hne : (varOf (l.getD k 0) != x) = true := by unfold keepW at hp; simp only [decide_eq_true_eq] at hp; simp only [bne_iff_ne]; exact hp
          clear hp hc ha
          generalize l.getD k 0 = y at *
          go_wp2_with (first | (go_at_call 23; refine (rvar_any _ _ (by omega) (by omega)).mono ?_; rintro e w' ⟨rfl, rfl⟩) | (at_builtin; refine wpList_app1 rfl _ _ rfl w.heap.size _ _ y wr.heap.size rfl rfl (hown.alloc _) (by simp) (by omega) (by simp; omega) ?_; intro v' w' hown' hg'))
          go_roundw
          case rel => exact ⟨k + 1, by omega, by go_num, by rw [HT.out]; exact hown', below_app (hbel.alloc (by omega) _) (hown.alloc _) (by simp; omega) hg'⟩
          case measure => simp [intOf]; omega
        · have hp' : keepW x (l.getD k 0) = false := by simpa using hp
          have HT := Lib.hid (filter_take_miss hlt hp')
          have hne : (varOf (l.getD k 0) != x) = false := by unfold keepW at hp'; simp only [decide_eq_false_iff_not, ne_eq, Decidable.not_not] at hp'; simp only [bne_eq_false_iff_eq]; exact hp'
          clear hp hp' hc ha
          generalize l.getD k 0 = y at *
          go_wp2_with (go_at_call 23; refine (rvar_any _ _ (by omega) (by omega)).mono ?_; rintro e w' ⟨rfl, rfl⟩)
          go_roundw
          case rel => exact ⟨k + 1, by omega, by go_num, by rw [HT.out]; exact hown, hbel⟩
          case measure => simp [intOf]; omega
      · have hown2 := hown
        rw [List.take_of_length_le (by omega), ← HR.out] at hown2
        clear hown
        go_wp2
        go_ret
        exact ⟨_, rfl, hown2, hbel⟩
  · have hm' : mayB l = false := by simpa using hm
    have HR : Hid (withoutL l x = []) := by show _ = _; unfold withoutL; rw [if_neg hm]
    clear hm
    go_enter Tryd.func31, Tryd.ntmps31
    go_wp2_with (go_at_call 25; refine (rmay_v _ l _ H0).mono ?_; rintro e w1 ⟨rfl, hq⟩)
    go_ret
    exact ⟨_, rfl, by rw [HR.out]; exact Own.nil _ _, hq.below _⟩
set_option maxHeartbeats 400000 in
theorem without_any (v : Value) (l : List Int) (x : Int) (w : World) (H : IsInts w v l) (hx1 : -9223372036854775808 ≤ x) (hx2 : x ≤ 9223372036854775807) :
    Calls Tryd.prog 30 #[v, .int .i64 x] w (RetOwn w (withoutL l x)) := by
  have H0 := H
  obtain ⟨a, cap, rfl, _, _, hl, h64, b, off, ha, hc⟩ := H
  by_cases hm : mayB l = true
  · have HR : Hid (withoutL l x = l.filter (keepW x)) := by show _ = _; unfold withoutL; rw [if_pos hm]
    go_enter Tryd.func30, Tryd.ntmps30
    go_wp2_with (go_at_call 24; refine (may_v _ l _ H0).mono ?_; rintro e w1 ⟨rfl, rfl⟩)
    go_loopw [5, 13] (fun out i wr => ∃ k : Nat, k ≤ l.length ∧ i = .int .i64 k ∧ Own wr w.heap.size out ((l.take k).filter (keepW x)) ∧ Below w.heap.size w wr) (fun _ i _ => l.length - (intOf i).toNat)
    case atStart => exact ⟨0, Nat.zero_le _, rfl, Own.nil _ _, Below.refl _ _⟩
    case round =>
      obtain ⟨k, hk, rfl, hown, hbel⟩ := hrel
      by_cases hlt : k < l.length
      · obtain ⟨rfl, hb⟩ := ha (by intro h; simp [h] at hlt)
        have hy := (hbel.cell (p := ⟨b, off + k, none⟩) hb).trans (hc k hlt)
        have hy1 := (h64.at k hlt).1
        have hy2 := (h64.at k hlt).2
        have hle := filter_take_le (keepW x) l k hk
        have hsz := hbel.size
        by_cases hp : keepW x (l.getD k 0) = true
        · have HT := Lib.hid (filter_take_hit hlt hp)
          have hne : (varOf (l.getD k 0) != x) = true := by unfold keepW at hp; simp only [decide_eq_true_eq] at hp; simp only [bne_iff_ne]; exact hp
          clear hp hc ha
          generalize l.getD k 0 = y at *
          go_wp2_with (first | (go_at_call 22; refine (var_any _ _ (by omega) (by omega)).mono ?_; rintro e w' ⟨rfl, rfl⟩) | (at_builtin; refine wpList_app1 rfl _ _ rfl w.heap.size _ _ y wr.heap.size rfl rfl (hown.alloc _) (by simp) (by omega) (by simp; omega) ?_; intro v' w' hown' hg'))
          go_roundw
          case rel => exact ⟨k + 1, by omega, by go_num, by rw [HT.out]; exact hown', below_app (hbel.alloc (by omega) _) (hown.alloc _) (by simp; omega) hg'⟩
          case measure => simp [intOf]; omega
        · have hp' : keepW x (l.getD k 0) = false := by simpa using hp
          have HT := Lib.hid (filter_take_miss hlt hp')
          have hne : (varOf (l.getD k 0) != x) = false := by unfold keepW at hp'; simp only [decide_eq_false_iff_not, ne_eq, Decidable.not_not] at hp'; simp only [bne_eq_false_iff_eq]; exact hp'
          clear hp hp' hc ha
          generalize l.getD k 0 = y at *
          go_wp2_with (go_at_call 22; refine (var_any _ _ (by omega) (by omega)).mono ?_; rintro e w' ⟨rfl, rfl⟩)
          go_roundw
          case rel => exact ⟨k + 1, by omega, by go_num, by rw [HT.out]; exact hown, hbel⟩
          case measure => simp [intOf]; omega
      · have hown2 := hown
        rw [List.take_of_length_le (by omega), ← HR.out] at hown2
        clear hown
        go_wp2
        go_ret
        exact ⟨_, rfl, hown2, hbel⟩
  · have hm' : mayB l = false := by simpa using hm
    have HR : Hid (withoutL l x = []) := by show _ = _; unfold withoutL; rw [if_neg hm]
    clear hm
    go_enter Tryd.func30, Tryd.ntmps30
    go_wp2_with (go_at_call 24; refine (may_v _ l _ H0).mono ?_; rintro e w1 ⟨rfl, rfl⟩)
    go_ret
    exact ⟨_, rfl, by rw [HR.out]; exact Own.nil _ _, Below.refl _ _⟩

def inB (m : List Int) (y : Int) : Bool := memB m (varOf y)
def withinL (l m : List Int) : List Int := if mayB l then l.filter (inB m) else []

set_option maxHeartbeats 400000 in
theorem rwithin_any (v u : Value) (l m : List Int) (w : World) (H : IsInts w v l) (K : IsInts w u m) :
    Calls Tryd.prog 33 #[v, u] w (RetOwn w (withinL l m)) := by
  have H0 := H
  obtain ⟨a, cap, rfl, _, _, hl, h64, b, off, ha, hc⟩ := H
  by_cases hm : mayB l = true
  · have HR : Hid (withinL l m = l.filter (inB m)) := by show _ = _; unfold withinL; rw [if_pos hm]
    go_enter Tryd.func33, Tryd.ntmps33
    go_wp2_with (go_at_call 25; refine (rmay_v _ l _ H0).mono ?_; rintro e w1 ⟨rfl, hq⟩)
    go_loopw [5, 6] (fun out i wr => ∃ k : Nat, k ≤ l.length ∧ i = .int .i64 k ∧ Own wr w.heap.size out ((l.take k).filter (inB m)) ∧ Below w.heap.size w wr) (fun _ i _ => l.length - (intOf i).toNat)
    case atStart => exact ⟨0, Nat.zero_le _, rfl, Own.nil _ _, hq.below _⟩
    case round =>
      obtain ⟨k, hk, rfl, hown, hbel⟩ := hrel
      by_cases hlt : k < l.length
      · obtain ⟨rfl, hb⟩ := ha (by intro h; simp [h] at hlt)
        have hy := (hbel.cell (p := ⟨b, off + k, none⟩) hb).trans (hc k hlt)
        have hy1 := (h64.at k hlt).1
        have hy2 := (h64.at k hlt).2
        have hle := filter_take_le (inB m) l k hk
        have hsz := hbel.size
        by_cases hp : inB m (l.getD k 0) = true
        · have HT := Lib.hid (filter_take_hit hlt hp)
          have hpv : memB m (varOf (l.getD k 0)) = true := hp
          have hv := varOf_bd (l.getD k 0)
          have K' := K.below hbel (Nat.le_refl _)
          clear hp hc ha
          generalize l.getD k 0 = y at *
          go_wp2_with (first | (go_at_call 23; refine (rvar_any _ _ (by omega) (by omega)).mono ?_; rintro e w' ⟨rfl, rfl⟩) | (go_at_call 27; refine (rhas_any u m _ _ K' (by omega) (by omega)).mono ?_; rintro e w' ⟨rfl, rfl⟩) | (at_builtin; refine wpList_app1 rfl _ _ rfl w.heap.size _ _ y wr.heap.size rfl rfl (hown.alloc _) (by simp) (by omega) (by simp; omega) ?_; intro v' w' hown' hg'))
          go_roundw
          case rel => exact ⟨k + 1, by omega, by go_num, by rw [HT.out]; exact hown', below_app (hbel.alloc (by omega) _) (hown.alloc _) (by simp; omega) hg'⟩
          case measure => simp [intOf]; omega
        · have hp' : inB m (l.getD k 0) = false := by simpa using hp
          have HT := Lib.hid (filter_take_miss hlt hp')
          have hpv : memB m (varOf (l.getD k 0)) = false := hp'
          have hv := varOf_bd (l.getD k 0)
          have K' := K.below hbel (Nat.le_refl _)
          clear hp hp' hc ha
          generalize l.getD k 0 = y at *
          go_wp2_with (first | (go_at_call 23; refine (rvar_any _ _ (by omega) (by omega)).mono ?_; rintro e w' ⟨rfl, rfl⟩) | (go_at_call 27; refine (rhas_any u m _ _ K' (by omega) (by omega)).mono ?_; rintro e w' ⟨rfl, rfl⟩))
          go_roundw
          case rel => exact ⟨k + 1, by omega, by go_num, by rw [HT.out]; exact hown, hbel⟩
          case measure => simp [intOf]; omega
      · have hown2 := hown
        rw [List.take_of_length_le (by omega), ← HR.out] at hown2
        clear hown
        go_wp2
        go_ret
        exact ⟨_, rfl, hown2, hbel⟩
  · have hm' : mayB l = false := by simpa using hm
    have HR : Hid (withinL l m = []) := by show _ = _; unfold withinL; rw [if_neg hm]
    clear hm
    go_enter Tryd.func33, Tryd.ntmps33
    go_wp2_with (go_at_call 25; refine (rmay_v _ l _ H0).mono ?_; rintro e w1 ⟨rfl, hq⟩)
    go_ret
    exact ⟨_, rfl, by rw [HR.out]; exact Own.nil _ _, hq.below _⟩

theorem mayFrom_mem {p : Int} {l : List Int} (hp : 0 ≤ p) (h : mayFrom p l = true) : ∀ x ∈ l, p < varOf x ∧ litB x = true := by
  induction l generalizing p with
  | nil => intro x hx; cases hx
  | cons y r ih =>
    simp only [mayFrom, Bool.and_eq_true, decide_eq_true_eq] at h
    intro x hx
    have hy := varOf_bd y
    rcases List.mem_cons.1 hx with rfl | hx
    · exact ⟨h.1, by rw [litB_var]; simp; omega⟩
    · have := ih hy.1 h.2 x hx
      exact ⟨by omega, this.2⟩
theorem mayB_mem {l : List Int} (h : mayB l = true) : ∀ x ∈ l, litB x = true := fun x hx => (mayFrom_mem (Int.le_refl 0) h x hx).2
theorem litB_bd {x : Int} (h : litB x = true) : x ≠ 0 ∧ -65536 ≤ x ∧ x ≤ 65536 := by unfold litB at h; simpa using h
theorem getD_mem {l : List Int} {k : Nat} (h : k < l.length) : l.getD k 0 ∈ l := by simp [List.getD, h]

def negL (l : List Int) : List Int := if mayB l then l.map (fun x => -x) else []
theorem map_take_hit {f : Int → Int} {l : List Int} {k : Nat} (h : k < l.length) : (l.take (k + 1)).map f = (l.take k).map f ++ [f (l.getD k 0)] := by
  have e : l.take (k + 1) = l.take k ++ [l.getD k 0] := by rw [List.take_succ_eq_append_getElem h]; simp [List.getD, h]
  rw [e, List.map_append]; rfl

set_option maxHeartbeats 400000 in
theorem rneg_any (v : Value) (l : List Int) (w : World) (H : IsInts w v l) :
    Calls Tryd.prog 29 #[v] w (RetOwn w (negL l)) := by
  have H0 := H
  obtain ⟨a, cap, rfl, _, _, hl, h64, b, off, ha, hc⟩ := H
  by_cases hm : mayB l = true
  · have HR : Hid (negL l = l.map (fun x => -x)) := by show _ = _; unfold negL; rw [if_pos hm]
    go_enter Tryd.func29, Tryd.ntmps29
    go_wp2_with (go_at_call 25; refine (rmay_v _ l _ H0).mono ?_; rintro e w1 ⟨rfl, hq⟩)
    go_loopw [3, 4] (fun out i wr => ∃ k : Nat, k ≤ l.length ∧ i = .int .i64 k ∧ Own wr w.heap.size out ((l.take k).map (fun x => -x)) ∧ Below w.heap.size w wr) (fun _ i _ => l.length - (intOf i).toNat)
    case atStart => exact ⟨0, Nat.zero_le _, rfl, Own.nil _ _, hq.below _⟩
    case round =>
      obtain ⟨k, hk, rfl, hown, hbel⟩ := hrel
      by_cases hlt : k < l.length
      · obtain ⟨rfl, hb⟩ := ha (by intro h; simp [h] at hlt)
        have hy := (hbel.cell (p := ⟨b, off + k, none⟩) hb).trans (hc k hlt)
        obtain ⟨_, hy1, hy2⟩ := litB_bd (mayB_mem hm _ (getD_mem hlt))
        have hle : ((l.take k).map (fun x : Int => -x)).length ≤ k := by simp; omega
        have hsz := hbel.size
        have HT := Lib.hid (map_take_hit (f := fun x => -x) hlt)
        clear hc ha
        generalize l.getD k 0 = y at *
        go_wp2_with (at_builtin; refine wpList_app1 rfl _ _ rfl w.heap.size _ _ (-y) wr.heap.size rfl rfl (hown.alloc _) (by simp) (by omega) (by simp; omega) ?_; intro v' w' hown' hg')
        go_roundw
        case rel => exact ⟨k + 1, by omega, by go_num, by rw [HT.out]; exact hown', below_app (hbel.alloc (by omega) _) (hown.alloc _) (by simp; omega) hg'⟩
        case measure => simp [intOf]; omega
      · have hown2 := hown
        rw [List.take_of_length_le (by omega), ← HR.out] at hown2
        clear hown
        go_wp2
        go_ret
        exact ⟨_, rfl, hown2, hbel⟩
  · have hm' : mayB l = false := by simpa using hm
    have HR : Hid (negL l = []) := by show _ = _; unfold negL; rw [if_neg hm]
    clear hm
    go_enter Tryd.func29, Tryd.ntmps29
    go_wp2_with (go_at_call 25; refine (rmay_v _ l _ H0).mono ?_; rintro e w1 ⟨rfl, hq⟩)
    go_ret
    exact ⟨_, rfl, by rw [HR.out]; exact Own.nil _ _, hq.below _⟩

end Go.Proofs.YtnedpngadfkmiaaDoor
