/- lits.Resolve. -/
import Derived.Test.YtnedpngadfkmiaaDoorJoin
namespace Go.Proofs.YtnedpngadfkmiaaDoor
open Go.RowKit Go.Shelf
set_option linter.unusedVariables false

theorem RetPair.under {w w1 w' : World} {r : List Int × Int} {e : Ending} (h : RetPair w1 r e w') (hb : Below w.heap.size w w1) : RetPair w r e w' := h.mono hb hb.size

set_option maxHeartbeats 800000 in
set_option maxRecDepth 100000 in
theorem res_1 (v u : Value) (l m : List Int) (x : Int) (w : World) (H : IsInts w v l) (K : IsInts w u m) (hlen : l.length + m.length ≤ 17592186044416) (hx1 : -9223372036854775808 ≤ x) (hx2 : x ≤ 9223372036854775807) (hm1 : mayB l = false) :
    Calls Tryd.prog 36 #[v, u, .int .i64 x] w (RetPair w (resL l m x)) := by
  have hbel := (Below.refl w.heap.size w).alloc (Nat.le_refl _) (.cells #[.int .i64 x] 3)
  have H2 := H.below hbel (Nat.le_refl _)
  have K2 := K.below hbel (Nat.le_refl _)
  have HF : Hid (resL l m x = ([], 2)) := by show _ = _; unfold resL; rw [hm1]; rfl
  go_enter Tryd.func36, Tryd.ntmps36
  go_wp2_with fail
  refine (may_v _ l _ H2).mono ?_
  rintro e w1 ⟨rfl, rfl⟩
  go_wp2
  go_ret2
  exact ⟨_, ret_pair (by rw [HF.out]), by rw [HF.out]; exact IsInts.nil _, hbel⟩

set_option maxHeartbeats 800000 in
set_option maxRecDepth 100000 in
theorem res_2 (v u : Value) (l m : List Int) (x : Int) (w : World) (H : IsInts w v l) (K : IsInts w u m) (hlen : l.length + m.length ≤ 17592186044416) (hx1 : -9223372036854775808 ≤ x) (hx2 : x ≤ 9223372036854775807) (hm1 : mayB l = true) (hm2 : mayB m = false) :
    Calls Tryd.prog 36 #[v, u, .int .i64 x] w (RetPair w (resL l m x)) := by
  have hbel := (Below.refl w.heap.size w).alloc (Nat.le_refl _) (.cells #[.int .i64 x] 3)
  have H2 := H.below hbel (Nat.le_refl _)
  have K2 := K.below hbel (Nat.le_refl _)
  have HF : Hid (resL l m x = ([], 2)) := by show _ = _; unfold resL; rw [hm1, hm2]; rfl
  go_enter Tryd.func36, Tryd.ntmps36
  go_wp2_with fail
  refine (may_v _ l _ H2).mono ?_
  rintro e w1 ⟨rfl, rfl⟩
  go_wp2_with fail
  refine (may_v _ m _ K2).mono ?_
  rintro e w1 ⟨rfl, rfl⟩
  go_wp2
  go_ret2
  exact ⟨_, ret_pair (by rw [HF.out]), by rw [HF.out]; exact IsInts.nil _, hbel⟩

set_option maxHeartbeats 800000 in
set_option maxRecDepth 100000 in
theorem res_3 (v u : Value) (l m : List Int) (x : Int) (w : World) (H : IsInts w v l) (K : IsInts w u m) (hlen : l.length + m.length ≤ 17592186044416) (hx1 : -9223372036854775808 ≤ x) (hx2 : x ≤ 9223372036854775807) (hm1 : mayB l = true) (hm2 : mayB m = true) (h0 : x ≤ 0) :
    Calls Tryd.prog 36 #[v, u, .int .i64 x] w (RetPair w (resL l m x)) := by
  have hbel := (Below.refl w.heap.size w).alloc (Nat.le_refl _) (.cells #[.int .i64 x] 3)
  have H2 := H.below hbel (Nat.le_refl _)
  have K2 := K.below hbel (Nat.le_refl _)
  have HF : Hid (resL l m x = ([], 6)) := by show _ = _; unfold resL; rw [hm1, hm2, if_pos (show (true && true) = true from rfl), if_pos (Or.inl h0)]
  go_enter Tryd.func36, Tryd.ntmps36
  go_wp2_with fail
  refine (may_v _ l _ H2).mono ?_
  rintro e w1 ⟨rfl, rfl⟩
  go_wp2_with fail
  refine (may_v _ m _ K2).mono ?_
  rintro e w1 ⟨rfl, rfl⟩
  go_wp2
  go_ret2
  exact ⟨_, ret_pair (by rw [HF.out]), by rw [HF.out]; exact IsInts.nil _, hbel⟩

set_option maxHeartbeats 800000 in
set_option maxRecDepth 100000 in
theorem res_4 (v u : Value) (l m : List Int) (x : Int) (w : World) (H : IsInts w v l) (K : IsInts w u m) (hlen : l.length + m.length ≤ 17592186044416) (hx1 : -9223372036854775808 ≤ x) (hx2 : x ≤ 9223372036854775807) (hm1 : mayB l = true) (hm2 : mayB m = true) (h0 : ¬ x ≤ 0) (hh1 : memB l x = false) :
    Calls Tryd.prog 36 #[v, u, .int .i64 x] w (RetPair w (resL l m x)) := by
  have hbel := (Below.refl w.heap.size w).alloc (Nat.le_refl _) (.cells #[.int .i64 x] 3)
  have H2 := H.below hbel (Nat.le_refl _)
  have K2 := K.below hbel (Nat.le_refl _)
  have HF : Hid (resL l m x = ([], 6)) := by show _ = _; unfold resL; rw [hm1, hm2, if_pos (show (true && true) = true from rfl), if_pos (Or.inr (Or.inl hh1))]
  go_enter Tryd.func36, Tryd.ntmps36
  go_wp2_with fail
  refine (may_v _ l _ H2).mono ?_
  rintro e w1 ⟨rfl, rfl⟩
  go_wp2_with fail
  refine (may_v _ m _ K2).mono ?_
  rintro e w1 ⟨rfl, rfl⟩
  go_wp2_with fail
  refine (has_any _ l x _ H2 (by omega) (by omega)).mono ?_
  rintro e w1 ⟨rfl, rfl⟩
  go_wp2
  go_ret2
  exact ⟨_, ret_pair (by rw [HF.out]), by rw [HF.out]; exact IsInts.nil _, hbel⟩

set_option maxHeartbeats 800000 in
set_option maxRecDepth 100000 in
theorem res_5 (v u : Value) (l m : List Int) (x : Int) (w : World) (H : IsInts w v l) (K : IsInts w u m) (hlen : l.length + m.length ≤ 17592186044416) (hx1 : -9223372036854775808 ≤ x) (hx2 : x ≤ 9223372036854775807) (hm1 : mayB l = true) (hm2 : mayB m = true) (h0 : ¬ x ≤ 0) (hh1 : memB l x = true) (hh2 : memB m (-x) = false) :
    Calls Tryd.prog 36 #[v, u, .int .i64 x] w (RetPair w (resL l m x)) := by
  have hbel := (Below.refl w.heap.size w).alloc (Nat.le_refl _) (.cells #[.int .i64 x] 3)
  have H2 := H.below hbel (Nat.le_refl _)
  have K2 := K.below hbel (Nat.le_refl _)
  have HF : Hid (resL l m x = ([], 6)) := by show _ = _; unfold resL; rw [hm1, hm2, if_pos (show (true && true) = true from rfl), if_pos (Or.inr (Or.inr hh2))]
  go_enter Tryd.func36, Tryd.ntmps36
  go_wp2_with fail
  refine (may_v _ l _ H2).mono ?_
  rintro e w1 ⟨rfl, rfl⟩
  go_wp2_with fail
  refine (may_v _ m _ K2).mono ?_
  rintro e w1 ⟨rfl, rfl⟩
  go_wp2_with fail
  refine (has_any _ l x _ H2 (by omega) (by omega)).mono ?_
  rintro e w1 ⟨rfl, rfl⟩
  go_wp2_with fail
  refine (has_any _ m (-x) _ K2 (by omega) (by omega)).mono ?_
  rintro e w1 ⟨rfl, rfl⟩
  go_wp2
  go_ret2
  exact ⟨_, ret_pair (by rw [HF.out]), by rw [HF.out]; exact IsInts.nil _, hbel⟩

set_option maxHeartbeats 800000 in
set_option maxRecDepth 100000 in
theorem res_6 (v u : Value) (l m : List Int) (x : Int) (w : World) (H : IsInts w v l) (K : IsInts w u m) (hlen : l.length + m.length ≤ 17592186044416) (hx1 : -9223372036854775808 ≤ x) (hx2 : x ≤ 9223372036854775807) (hm1 : mayB l = true) (hm2 : mayB m = true) (h0 : ¬ x ≤ 0) (hh1 : memB l x = true) (hh2 : memB m (-x) = true) :
    Calls Tryd.prog 36 #[v, u, .int .i64 x] w (RetPair w (resL l m x)) := by
  have hbel := (Below.refl w.heap.size w).alloc (Nat.le_refl _) (.cells #[.int .i64 x] 3)
  have H2 := H.below hbel (Nat.le_refl _)
  have K2 := K.below hbel (Nat.le_refl _)
  have HF : Hid (resL l m x = mergeL (comR x) l m) := by show _ = _; unfold resL; rw [hm1, hm2, if_pos (show (true && true) = true from rfl), if_neg (by rw [hh1, hh2]; simp; omega)]
  have hmf : ∀ (fn : Fn) (first cap : Array Value) (w : World), (Instr.makeFunc fn first cap).run Tryd.prog w = .ok (.func fn first cap) w := fun _ _ _ _ => rfl
  have hc := merge_any (comR x) (comR_bd x) 97 #[.pointer (some ⟨w.heap.size, 0, none⟩)] v u l m (w.alloc (.cells #[.int .i64 x] 3)) rclos_enters (rclos_tells _ x w.heap.size (by simp) (by simp)) H2 K2 hlen
  go_enter Tryd.func36, Tryd.ntmps36
  go_wp2_with fail
  refine (may_v _ l _ H2).mono ?_
  rintro e w1 ⟨rfl, rfl⟩
  go_wp2_with fail
  refine (may_v _ m _ K2).mono ?_
  rintro e w1 ⟨rfl, rfl⟩
  go_wp2_with fail
  refine (has_any _ l x _ H2 (by omega) (by omega)).mono ?_
  rintro e w1 ⟨rfl, rfl⟩
  go_wp2_with fail
  refine (has_any _ m (-x) _ K2 (by omega) (by omega)).mono ?_
  rintro e w1 ⟨rfl, rfl⟩
  go_wp2_with fail
  refine hc.mono ?_
  rintro e w1 ⟨v1, rfl, h1, h2⟩
  go_wp2
  go_ret2
  exact ⟨_, ret_pair (by rw [HF.out]), by rw [HF.out]; exact h1, hbel.trans (h2.mono (by simp))⟩

theorem resolve_any (v u : Value) (l m : List Int) (x : Int) (w : World) (H : IsInts w v l) (K : IsInts w u m) (hlen : l.length + m.length ≤ 17592186044416) (hx1 : -9223372036854775808 ≤ x) (hx2 : x ≤ 9223372036854775807) :
    Calls Tryd.prog 36 #[v, u, .int .i64 x] w (RetPair w (resL l m x)) := by
  by_cases hm1 : mayB l = true
  · by_cases hm2 : mayB m = true
    · by_cases h0 : x ≤ 0
      · exact res_3 v u l m x w H K hlen hx1 hx2 hm1 hm2 h0
      · by_cases hh1 : memB l x = true
        · by_cases hh2 : memB m (-x) = true
          · exact res_6 v u l m x w H K hlen hx1 hx2 hm1 hm2 h0 hh1 hh2
          · exact res_5 v u l m x w H K hlen hx1 hx2 hm1 hm2 h0 hh1 (by simpa using hh2)
        · exact res_4 v u l m x w H K hlen hx1 hx2 hm1 hm2 h0 (by simpa using hh1)
    · exact res_2 v u l m x w H K hlen hx1 hx2 hm1 (by simpa using hm2)
  · exact res_1 v u l m x w H K hlen hx1 hx2 (by simpa using hm1)

end Go.Proofs.YtnedpngadfkmiaaDoor
