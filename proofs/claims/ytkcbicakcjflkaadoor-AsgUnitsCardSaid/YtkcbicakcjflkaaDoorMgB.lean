/- Joined texts: With, NormR, JoinR, SubR, StrikeR. -/
import Derived.Test.YtkcbicakcjflkaaDoorMgA
/- The reference's insertion. -/
namespace Go.Proofs.YtkcbicakcjflkaaDoor
open Go.RowKit
set_option linter.unusedVariables false

def insL : List Int → Int → List Int
  | [], x => [x]
  | y :: r, x => if litLt y x then y :: insL r x else if y = x then y :: r else x :: y :: r

theorem insL_lt {l : List Int} {x : Int} {k : Nat} (h : k < l.length) (hlt : litLt (l.getD k 0) x) : l.take k ++ insL (l.drop k) x = l.take (k + 1) ++ insL (l.drop (k + 1)) x := by
  have e : l.take (k + 1) = l.take k ++ [l.getD k 0] := by rw [List.take_succ_eq_append_getElem h]; simp [List.getD, h]
  have e2 : l.drop k = l.getD k 0 :: l.drop (k + 1) := by rw [List.drop_eq_getElem_cons h]; simp [List.getD, h]
  rw [e2, insL, if_pos hlt, e, List.append_assoc]; rfl

theorem IsInts.drop {w : World} {b off cap k : Nat} {l : List Int} (H : IsInts w (.slice (some ⟨b, off, none⟩) l.length cap) l) (hk : k ≤ l.length) : IsInts w (.slice (some ⟨b, off + k, none⟩) (l.length - k) (cap - k)) (l.drop k) := by
  obtain ⟨a, cap', e, ⟨h1, h2⟩, h3, h4, h5, b', off', ha, hc⟩ := H
  injection e with e1 e2 e3
  subst e1; subst e3
  refine ⟨_, _, by rw [List.length_drop], ⟨by rw [List.length_drop]; omega, fun e => by cases e⟩, by omega, by rw [List.length_drop]; omega, fun x hx => h5 x (List.mem_of_mem_drop hx), b, off + k, fun hne => ⟨rfl, ?_⟩, fun j hj => ?_⟩
  · exact (ha (by rintro rfl; simp at hne)).2 |> fun h => by
      have := (ha (by rintro rfl; simp at hne)).1
      injection this with this; injection this with q1 q2
      subst q1; exact h
  · rw [List.length_drop] at hj
    have := (ha (by rintro rfl; simp at hj)).1
    injection this with this; injection this with q1 q2
    subst q1; subst q2
    rw [Nat.add_assoc, hc (k + j) (by omega)]
    simp [List.getD]
theorem IsInts.take {w : World} {b off cap k : Nat} {l : List Int} (H : IsInts w (.slice (some ⟨b, off, none⟩) l.length cap) l) (hk : k ≤ l.length) : IsInts w (.slice (some ⟨b, off, none⟩) k cap) (l.take k) := by
  obtain ⟨a, cap', e, ⟨h1, h2⟩, h3, h4, h5, b', off', ha, hc⟩ := H
  injection e with e1 e2 e3
  subst e1; subst e3
  refine ⟨_, _, by rw [List.length_take, Nat.min_eq_left hk], ⟨by rw [List.length_take]; omega, fun e => by cases e⟩, h3, by rw [List.length_take]; omega, fun x hx => h5 x (List.mem_of_mem_take hx), b', off', fun hne => ha (by rintro rfl; simp at hne), fun j hj => ?_⟩
  rw [List.length_take] at hj
  rw [hc j (by omega)]
  simp [List.getD, show j < k by omega]

theorem In64.append {l m : List Int} (h : In64 l) (k : In64 m) : In64 (l ++ m) := fun x hx => by
  rcases List.mem_append.1 hx with hx | hx
  · exact h x hx
  · exact k x hx
theorem In64.take {l : List Int} (h : In64 l) (k : Nat) : In64 (l.take k) := fun x hx => h x (List.mem_of_mem_take hx)
theorem In64.drop {l : List Int} (h : In64 l) (k : Nat) : In64 (l.drop k) := fun x hx => h x (List.mem_of_mem_drop hx)
theorem In64.one {x : Int} (h1 : -9223372036854775808 ≤ x) (h2 : x ≤ 9223372036854775807) : In64 [x] := fun y hy => by
  rw [List.mem_singleton] at hy; subst hy; exact ⟨h1, h2⟩

theorem insL_at {l : List Int} {x : Int} {k : Nat} (h : k < l.length) (h1 : ¬ litLt (l.getD k 0) x) (h2 : ¬ l.getD k 0 = x) : insL (l.drop k) x = x :: l.drop k := by
  have e2 : l.drop k = l.getD k 0 :: l.drop (k + 1) := by rw [List.drop_eq_getElem_cons h]; simp [List.getD, h]
  rw [e2, insL, if_neg h1, if_neg h2]
theorem insL_is {l : List Int} {x : Int} {k : Nat} (h : k < l.length) (h1 : ¬ litLt (l.getD k 0) x) (h2 : l.getD k 0 = x) : l.take k ++ insL (l.drop k) x = l := by
  have e2 : l.drop k = l.getD k 0 :: l.drop (k + 1) := by rw [List.drop_eq_getElem_cons h]; simp [List.getD, h]
  rw [e2, insL, if_neg h1, if_pos h2, ← e2, List.take_append_drop]

theorem IsInts.none_of {w : World} {ad : Addr} {c : Nat} (hc : c ≤ 9223372036854775807) : IsInts w (.slice (some ad) 0 c) [] :=
  ⟨_, _, rfl, ⟨Nat.zero_le _, fun e => by cases e⟩, hc, by simp, In64.nil, IntsAt.nil _ _⟩

def RetInts (w : World) (xs : List Int) (e : Ending) (w' : World) : Prop := ∃ v, e = .returned v ∧ IsInts w' v xs ∧ Below w.heap.size w w'

set_option maxHeartbeats 400000 in
set_option maxRecDepth 100000 in
theorem rwith_any (v : Value) (l : List Int) (x : Int) (w : World) (H : IsInts w v l) (hx1 : -9223372036854775808 ≤ x) (hx2 : x ≤ 9223372036854775807) (hlen : l.length < 17592186044416) :
    Calls Tryd.prog 78 #[v, .int .i64 x] w (RetInts w (insL l x)) := by
  have H0 := H
  obtain ⟨a, cap, rfl, ⟨hcap1, hcap2⟩, hcap3, hl, h64, b, off, ha, hc⟩ := H
  go_enter Tryd.func78, Tryd.ntmps78
  go_wp2
  go_loop [5] (fun i => ∃ k : Nat, k ≤ l.length ∧ i = .int .i64 k ∧ insL l x = l.take k ++ insL (l.drop k) x) (fun i => l.length - (intOf i).toNat)
  case atStart => exact ⟨0, Nat.zero_le _, rfl, by simp⟩
  case round =>
    obtain ⟨k, hk, rfl, hi⟩ := hrel
    by_cases hlt : k < l.length
    · obtain ⟨rfl, hb⟩ := ha (by intro h; simp [h] at hlt)
      have hy := hc k hlt
      have hy1 := (h64.at k hlt).1
      have hy2 := (h64.at k hlt).2
      by_cases hp : litLt (l.getD k 0) x
      · have HI : Hid (insL l x = l.take (k + 1) ++ insL (l.drop (k + 1)) x) := hi.trans (insL_lt hlt hp)
        have hp' : decide (litLt (l.getD k 0) x) = true := by simpa using hp
        clear hi hc ha
        generalize l.getD k 0 = y at *
        go_wp2_with (go_at_call 91; refine (rbefore_any _ _ _ (by omega) (by omega) (by omega) (by omega)).mono ?_; rintro e w' ⟨rfl, rfl⟩)
        go_round
        case rel => exact ⟨k + 1, by omega, by go_num, HI.out⟩
        case measure => simp [intOf]; omega
      · have hp' : decide (litLt (l.getD k 0) x) = false := by simpa using hp
        have HI := Lib.hid hi
        have HC := Lib.hid hc
        clear hi hc ha
        by_cases he : l.getD k 0 = x
        · have HF : Hid (insL l x = l) := HI.out.trans (insL_is hlt hp he)
          have he' : (l.getD k 0 == x) = true := by rw [he]; simp
          rw [he] at hy hp'
          clear hp hy1 hy2 he he'
          have he' : (x == x) = true := by simp
          go_wp2_with (go_at_call 91; refine (rbefore_any _ _ _ (by omega) (by omega) (by omega) (by omega)).mono ?_; rintro e w' ⟨rfl, rfl⟩)
          go_ret
          exact ⟨_, rfl, by rw [HF.out]; exact H0, Below.refl _ _⟩
        · have HF : Hid (insL l x = [] ++ l.take k ++ [x] ++ l.drop k) := HI.out.trans (by rw [insL_at hlt hp he]; simp)
          have he' : (l.getD k 0 == x) = false := beq_eq_false_iff_ne.2 he
          have HT := H0.take hk
          have HD := H0.drop hk
          have hck : ¬ cap = k := by omega
          clear he hp
          generalize l.getD k 0 = y at *
          go_wp2_with (first | (go_at_call 91; refine (rbefore_any _ _ _ (by omega) (by omega) (by omega) (by omega)).mono ?_; rintro e w' ⟨rfl, rfl⟩) | (at_builtin; refine wpList_app rfl (.tmp 34) (.tmp 37) rfl w.heap.size _ _ [] (l.take k) rfl rfl (Own.nil _ _) HT (by simp; omega) (Nat.le_refl _) ?_; intro v1 w1 hown1 hg1; have hbel1 := below_app (Below.refl w.heap.size w) (Own.nil w w.heap.size) (Nat.le_refl _) hg1; have hs1 := hbel1.size) | (at_builtin; refine wpList_app1 rfl (.tmp 39) (.tmp 41) rfl w.heap.size _ _ x w1.heap.size rfl rfl (hown1.alloc _) (by simp) (by simp; omega) (by simp; omega) ?_; intro v2 w2 hown2 hg2; have hbel2 := below_app (hbel1.alloc hs1 _) (hown1.alloc _) (by simp; omega) hg2; have hs2 := hbel2.size; have HD2 := HD.below hbel2 (Nat.le_refl _)) | (at_builtin; refine wpList_app rfl (.tmp 43) (.tmp 46) rfl w.heap.size _ _ _ (l.drop k) rfl rfl hown2 HD2 (by simp; omega) hs2 ?_; intro v3 w3 hown3 hg3; have hbel3 := below_app hbel2 hown2 hs2 hg3))
          go_ret
          exact ⟨_, rfl, by rw [HF.out]; exact hown3.ints (by simp; omega) ((((In64.nil.append (h64.take k)).append (In64.one hx1 hx2))).append (h64.drop k)), hbel3⟩
    · have hkl : k = l.length := by omega
      have HF : Hid (insL l x = [] ++ l ++ [x]) := by
        show _ = _
        rw [hi, List.take_of_length_le (by omega), List.drop_eq_nil_of_le (by omega)]; rfl
      clear hi
      subst hkl
      by_cases hne : l = []
      · subst hne
        clear ha hc hlt
        cases a with
        | none =>
          have hc0 := hcap2 rfl
          subst hc0
          go_wp2_with (first | (at_builtin; refine wpList_app rfl (.tmp 34) (.tmp 37) rfl w.heap.size _ _ [] [] rfl rfl (Own.nil _ _) (IsInts.nil _) (by simp <;> omega) (Nat.le_refl _) ?_; intro v1 w1 hown1 hg1; have hbel1 := below_app (Below.refl w.heap.size w) (Own.nil w w.heap.size) (Nat.le_refl _) hg1; have hs1 := hbel1.size) | (at_builtin; refine wpList_app1 rfl (.tmp 39) (.tmp 41) rfl w.heap.size _ _ x w1.heap.size rfl rfl (hown1.alloc _) (by simp) (by simp <;> omega) (by simp <;> omega) ?_; intro v2 w2 hown2 hg2; have hbel2 := below_app (hbel1.alloc hs1 _) (hown1.alloc _) (by simp <;> omega) hg2; have hs2 := hbel2.size) | (at_builtin; refine wpList_app rfl (.tmp 43) (.tmp 46) rfl w.heap.size _ _ _ [] rfl rfl hown2 (IsInts.nil _) (by simp <;> omega) hs2 ?_; intro v3 w3 hown3 hg3; have hbel3 := below_app hbel2 hown2 hs2 hg3))
          go_ret
          exact ⟨_, rfl, by rw [HF.out]; rw [List.append_nil] at hown3; exact hown3.ints (by simp <;> omega) ((In64.nil.append h64).append (In64.one hx1 hx2)), hbel3⟩
        | some ad =>
          by_cases hck : cap = 0
          · subst hck
            go_wp2_with (first | (at_builtin; refine wpList_app rfl (.tmp 34) (.tmp 37) rfl w.heap.size _ _ [] [] rfl rfl (Own.nil _ _) (IsInts.none_of (by omega)) (by simp <;> omega) (Nat.le_refl _) ?_; intro v1 w1 hown1 hg1; have hbel1 := below_app (Below.refl w.heap.size w) (Own.nil w w.heap.size) (Nat.le_refl _) hg1; have hs1 := hbel1.size) | (at_builtin; refine wpList_app1 rfl (.tmp 39) (.tmp 41) rfl w.heap.size _ _ x w1.heap.size rfl rfl (hown1.alloc _) (by simp) (by simp <;> omega) (by simp <;> omega) ?_; intro v2 w2 hown2 hg2; have hbel2 := below_app (hbel1.alloc hs1 _) (hown1.alloc _) (by simp <;> omega) hg2; have hs2 := hbel2.size) | (at_builtin; refine wpList_app rfl (.tmp 43) (.tmp 46) rfl w.heap.size _ _ _ [] rfl rfl hown2 (IsInts.none_of (by omega)) (by simp <;> omega) hs2 ?_; intro v3 w3 hown3 hg3; have hbel3 := below_app hbel2 hown2 hs2 hg3))
            go_ret
            exact ⟨_, rfl, by rw [HF.out]; rw [List.append_nil] at hown3; exact hown3.ints (by simp <;> omega) ((In64.nil.append h64).append (In64.one hx1 hx2)), hbel3⟩
          · go_wp2_with (first | (at_builtin; refine wpList_app rfl (.tmp 34) (.tmp 37) rfl w.heap.size _ _ [] [] rfl rfl (Own.nil _ _) (IsInts.none_of (by omega)) (by simp <;> omega) (Nat.le_refl _) ?_; intro v1 w1 hown1 hg1; have hbel1 := below_app (Below.refl w.heap.size w) (Own.nil w w.heap.size) (Nat.le_refl _) hg1; have hs1 := hbel1.size) | (at_builtin; refine wpList_app1 rfl (.tmp 39) (.tmp 41) rfl w.heap.size _ _ x w1.heap.size rfl rfl (hown1.alloc _) (by simp) (by simp <;> omega) (by simp <;> omega) ?_; intro v2 w2 hown2 hg2; have hbel2 := below_app (hbel1.alloc hs1 _) (hown1.alloc _) (by simp <;> omega) hg2; have hs2 := hbel2.size) | (at_builtin; refine wpList_app rfl (.tmp 43) (.tmp 46) rfl w.heap.size _ _ _ [] rfl rfl hown2 (IsInts.none_of (by omega)) (by simp <;> omega) hs2 ?_; intro v3 w3 hown3 hg3; have hbel3 := below_app hbel2 hown2 hs2 hg3))
            go_ret
            exact ⟨_, rfl, by rw [HF.out]; rw [List.append_nil] at hown3; exact hown3.ints (by simp <;> omega) ((In64.nil.append h64).append (In64.one hx1 hx2)), hbel3⟩
      · obtain ⟨rfl, hb⟩ := ha hne
        clear ha hc hlt
        by_cases hck : cap = l.length
        · subst hck
          go_wp2_with (first | (at_builtin; refine wpList_app rfl (.tmp 34) (.tmp 37) rfl w.heap.size _ _ [] l rfl rfl (Own.nil _ _) H0 (by simp; omega) (Nat.le_refl _) ?_; intro v1 w1 hown1 hg1; have hbel1 := below_app (Below.refl w.heap.size w) (Own.nil w w.heap.size) (Nat.le_refl _) hg1; have hs1 := hbel1.size) | (at_builtin; refine wpList_app1 rfl (.tmp 39) (.tmp 41) rfl w.heap.size _ _ x w1.heap.size rfl rfl (hown1.alloc _) (by simp) (by simp; omega) (by simp; omega) ?_; intro v2 w2 hown2 hg2; have hbel2 := below_app (hbel1.alloc hs1 _) (hown1.alloc _) (by simp; omega) hg2; have hs2 := hbel2.size) | (at_builtin; refine wpList_app rfl (.tmp 43) (.tmp 46) rfl w.heap.size _ _ _ [] rfl rfl hown2 (IsInts.none_of (by omega)) (by simp; omega) hs2 ?_; intro v3 w3 hown3 hg3; have hbel3 := below_app hbel2 hown2 hs2 hg3))
          go_ret
          exact ⟨_, rfl, by rw [HF.out]; rw [List.append_nil] at hown3; exact hown3.ints (by simp; omega) ((In64.nil.append h64).append (In64.one hx1 hx2)), hbel3⟩
        · go_wp2_with (first | (at_builtin; refine wpList_app rfl (.tmp 34) (.tmp 37) rfl w.heap.size _ _ [] l rfl rfl (Own.nil _ _) H0 (by simp; omega) (Nat.le_refl _) ?_; intro v1 w1 hown1 hg1; have hbel1 := below_app (Below.refl w.heap.size w) (Own.nil w w.heap.size) (Nat.le_refl _) hg1; have hs1 := hbel1.size) | (at_builtin; refine wpList_app1 rfl (.tmp 39) (.tmp 41) rfl w.heap.size _ _ x w1.heap.size rfl rfl (hown1.alloc _) (by simp) (by simp; omega) (by simp; omega) ?_; intro v2 w2 hown2 hg2; have hbel2 := below_app (hbel1.alloc hs1 _) (hown1.alloc _) (by simp; omega) hg2; have hs2 := hbel2.size) | (at_builtin; refine wpList_app rfl (.tmp 43) (.tmp 46) rfl w.heap.size _ _ _ [] rfl rfl hown2 (IsInts.none_of (by omega)) (by simp; omega) hs2 ?_; intro v3 w3 hown3 hg3; have hbel3 := below_app hbel2 hown2 hs2 hg3))
          go_ret
          exact ⟨_, rfl, by rw [HF.out]; rw [List.append_nil] at hown3; exact hown3.ints (by simp; omega) ((In64.nil.append h64).append (In64.one hx1 hx2)), hbel3⟩

end Go.Proofs.YtkcbicakcjflkaaDoor

/- The reference's Norm and Join. -/
namespace Go.Proofs.YtkcbicakcjflkaaDoor
open Go.RowKit
set_option linter.unusedVariables false

/-- What a call hands back that returns a list and an error number. -/
def RetPair (w : World) (r : List Int × Int) (e : Ending) (w' : World) : Prop := ∃ v, e = .returned (.tuple #[v, .int .i64 r.2]) ∧ IsInts w' v r.1 ∧ Below w.heap.size w w'

def sortI (l : List Int) : List Int := l.foldl insL []
def tautR (l : List Int) : List Int × Int := if mayB l then (l, 0) else ([], 10)
def normR (l : List Int) : List Int × Int := if 200000 < l.length ∨ ¬ (∀ x ∈ l, litB x = true) then ([], 2) else tautR (sortI l)
def joinR (a b : List Int) : List Int × Int := if mayB a && mayB b then tautR (b.foldl insL (sortI a)) else ([], 2)

theorem insL_len (l : List Int) (x : Int) : (insL l x).length ≤ l.length + 1 := by
  induction l with
  | nil => simp [insL]
  | cons y r ih =>
    unfold insL
    by_cases h : litLt y x
    · rw [if_pos h]; simp; omega
    · rw [if_neg h]; split <;> simp
theorem foldl_insL_len (l acc : List Int) : (l.foldl insL acc).length ≤ acc.length + l.length := by
  induction l generalizing acc with
  | nil => simp
  | cons y r ih => have := ih (insL acc y); have := insL_len acc y; simp; omega
theorem foldl_take {acc l : List Int} {k : Nat} (h : k < l.length) : (l.take (k + 1)).foldl insL acc = insL ((l.take k).foldl insL acc) (l.getD k 0) := by
  have e : l.take (k + 1) = l.take k ++ [l.getD k 0] := by rw [List.take_succ_eq_append_getElem h]; simp [List.getD, h]
  rw [e, List.foldl_append]; rfl

theorem ret_pair {v : Value} {a b : Int} (h : a = b) : Ending.returned (.tuple #[v, .int .i64 a]) = .returned (.tuple #[v, .int .i64 b]) := by rw [h]

theorem RetPair.mono {w w1 w' : World} {r : List Int × Int} {e : Ending} (h : RetPair w1 r e w') (hb : Below w.heap.size w w1) (hs : w.heap.size ≤ w1.heap.size) : RetPair w r e w' := by
  obtain ⟨v, h1, h2, h3⟩ := h
  exact ⟨v, h1, h2, hb.trans (h3.mono hs)⟩

end Go.Proofs.YtkcbicakcjflkaaDoor

/- The reference's Join and Resolve. -/
namespace Go.Proofs.YtkcbicakcjflkaaDoor
open Go.RowKit
set_option linter.unusedVariables false

theorem sortI_len (l : List Int) : (sortI l).length ≤ l.length := by have := foldl_insL_len l []; unfold sortI; simpa using this

set_option maxHeartbeats 800000 in
set_option maxRecDepth 100000 in
theorem rjoin_any (v u : Value) (l m : List Int) (w : World) (H : IsInts w v l) (K : IsInts w u m) (hlen : l.length + m.length ≤ 17592186044416) :
    Calls Tryd.prog 51 #[v, u] w (RetPair w (joinR l m)) := by
  have H0 := H
  have K0 := K
  obtain ⟨a, cap, rfl, _, _, hl, h64, b, off, ha, hc⟩ := H
  obtain ⟨a2, cap2, rfl, _, _, hl2, h642, b2, off2, ha2, hc2⟩ := K
  by_cases hm1 : mayB l = true
  · by_cases hm2 : mayB m = true
    · have HF : Hid (joinR l m = tautR (m.foldl insL (sortI l))) := by show _ = _; unfold joinR; rw [hm1, hm2]; rfl
      go_enter Tryd.func51, Tryd.ntmps51
      go_wp2_with fail
      refine (rmay_v _ l _ H0).mono ?_
      rintro e w1 ⟨rfl, hq1⟩
      go_wp2_with fail
      refine (rmay_v _ m _ (K0.quiet hq1)).mono ?_
      rintro e w2 ⟨rfl, hq2⟩
      have hbel2 := (hq1.trans hq2).below w.heap.size
      clear hq1 hq2
      go_wp2_with fail
      go_loopw [6, 7] (fun out i wr => ∃ j : Nat, j ≤ l.length ∧ i = .int .i64 j ∧ IsInts wr out ((l.take j).foldl insL []) ∧ Below w.heap.size w wr) (fun _ i _ => l.length - (intOf i).toNat)
      case atStart => exact ⟨0, Nat.zero_le _, rfl, IsInts.nil _, hbel2⟩
      case round =>
        obtain ⟨j, hj, rfl, hout, hbel⟩ := hrel
        by_cases hlt2 : j < l.length
        · obtain ⟨rfl, hb⟩ := ha (by intro h; simp [h] at hlt2)
          have hy := (hbel.cell (p := ⟨b, off + j, none⟩) hb).trans (hc j hlt2)
          have hy1 := (h64.at j hlt2).1
          have hy2 := (h64.at j hlt2).2
          have HT := Lib.hid (foldl_take (acc := []) hlt2)
          have hln := foldl_insL_len (l.take j) []
          rw [List.length_take] at hln
          simp only [List.length_nil] at hln
          have HC := Lib.hid hc
          clear hc
          generalize l.getD j 0 = y at *
          go_wp2_with (go_at_call 78; refine (rwith_any _ _ y _ hout (by omega) (by omega) (by omega)).mono ?_; rintro e w' ⟨v', rfl, hout', hbel'⟩)
          go_roundw
          case rel => exact ⟨j + 1, by omega, by go_num, by rw [HT.out]; exact hout', hbel.trans (hbel'.mono hbel.size)⟩
          case measure => simp [intOf]; omega
        · have hout2 := hout
          rw [List.take_of_length_le (by omega)] at hout2
          have hout3 : IsInts _ _ (sortI l) := hout2
          have hbel0 := hbel
          clear hout hout2 hbel
          go_wp2
          go_loopw [6, 8] (fun out i wr => ∃ j : Nat, j ≤ m.length ∧ i = .int .i64 j ∧ IsInts wr out ((m.take j).foldl insL (sortI l)) ∧ Below w.heap.size w wr) (fun _ i _ => m.length - (intOf i).toNat)
          case atStart => exact ⟨0, Nat.zero_le _, rfl, hout3, hbel0⟩
          case round =>
            obtain ⟨j2, hj2, rfl, hout, hbel⟩ := hrel
            by_cases hlt3 : j2 < m.length
            · obtain ⟨rfl, hb⟩ := ha2 (by intro h; simp [h] at hlt3)
              have hy := (hbel.cell (p := ⟨b2, off2 + j2, none⟩) hb).trans (hc2 j2 hlt3)
              have hy1 := (h642.at j2 hlt3).1
              have hy2 := (h642.at j2 hlt3).2
              have HT := Lib.hid (foldl_take (acc := sortI l) hlt3)
              have hln := foldl_insL_len (m.take j2) (sortI l)
              have hsl := sortI_len l
              rw [List.length_take] at hln
              have HC := Lib.hid hc
              have HC2 := Lib.hid hc2
              clear hc hc2 hout3 hbel0
              generalize m.getD j2 0 = y at *
              go_wp2_with (go_at_call 78; refine (rwith_any _ _ y _ hout (by omega) (by omega) (by omega)).mono ?_; rintro e w' ⟨v', rfl, hout', hbel'⟩)
              go_roundw
              case rel => exact ⟨j2 + 1, by omega, by go_num, by rw [HT.out]; exact hout', hbel.trans (hbel'.mono hbel.size)⟩
              case measure => simp [intOf]; omega
            · have hout5 := hout
              rw [List.take_of_length_le (by omega)] at hout5
              clear hout hout3 hbel0
              generalize m.foldl insL (sortI l) = r at *
              by_cases hm : mayB r = true
              · have HG : Hid (joinR l m = (r, 0)) := HF.out.trans (by unfold tautR; rw [if_pos hm])
                go_wp2_with (go_at_call 36; refine (rmay_v _ _ _ hout5).mono ?_; rintro e w' ⟨rfl, hq⟩)
                go_ret2
                exact ⟨_, ret_pair (by rw [HG.out]), by rw [HG.out]; exact hout5.quiet hq, hbel.trans (hq.below _)⟩
              · have HG : Hid (joinR l m = ([], 10)) := HF.out.trans (by unfold tautR; rw [if_neg hm])
                have hm' : mayB r = false := by simpa using hm
                clear hm
                go_wp2_with (go_at_call 36; refine (rmay_v _ _ _ hout5).mono ?_; rintro e w' ⟨rfl, hq⟩)
                go_ret2
                exact ⟨_, ret_pair (by rw [HG.out]), by rw [HG.out]; exact IsInts.nil _, hbel.trans (hq.below _)⟩
    · have hm2' : mayB m = false := by simpa using hm2
      have HF : Hid (joinR l m = ([], 2)) := by show _ = _; unfold joinR; rw [hm1, hm2']; rfl
      clear hm2
      go_enter Tryd.func51, Tryd.ntmps51
      go_wp2_with fail
      refine (rmay_v _ l _ H0).mono ?_
      rintro e w1 ⟨rfl, hq1⟩
      go_wp2_with fail
      refine (rmay_v _ m _ (K0.quiet hq1)).mono ?_
      rintro e w2 ⟨rfl, hq2⟩
      go_wp2
      go_ret2
      exact ⟨_, ret_pair (by rw [HF.out]), by rw [HF.out]; exact IsInts.nil _, (hq1.trans hq2).below _⟩
  · have hm1' : mayB l = false := by simpa using hm1
    have HF : Hid (joinR l m = ([], 2)) := by show _ = _; unfold joinR; rw [hm1']; rfl
    clear hm1
    go_enter Tryd.func51, Tryd.ntmps51
    go_wp2_with fail
    refine (rmay_v _ l _ H0).mono ?_
    rintro e w1 ⟨rfl, hq1⟩
    go_wp2
    go_ret2
    exact ⟨_, ret_pair (by rw [HF.out]), by rw [HF.out]; exact IsInts.nil _, hq1.below _⟩

def resR (a b : List Int) (v : Int) : List Int × Int :=
  if mayB a && mayB b then (if v ≤ 0 ∨ memB a v = false ∨ memB b (-v) = false then ([], 6) else joinR (withoutL a v) (withoutL b v)) else ([], 2)

theorem RetOwn.ints {w w' : World} {v : Value} {B : Nat} {xs : List Int} (h : Own w' B v xs) (hl : xs.length ≤ 17592186044416) (h64 : In64 xs) : IsInts w' v xs := h.ints hl h64
theorem withoutL_len (l : List Int) (x : Int) : (withoutL l x).length ≤ l.length := by
  unfold withoutL; split
  · exact List.length_filter_le _ _
  · simp
theorem withoutL_64 {l : List Int} (h : In64 l) (x : Int) : In64 (withoutL l x) := by
  unfold withoutL; split
  · exact fun y hy => h y (List.mem_filter.1 hy).1
  · exact In64.nil

theorem IsInts.len {w : World} {v : Value} {l : List Int} (h : IsInts w v l) : l.length ≤ 17592186044416 := by obtain ⟨_, _, _, _, _, h, _⟩ := h; exact h
theorem IsInts.in64 {w : World} {v : Value} {l : List Int} (h : IsInts w v l) : In64 l := by obtain ⟨_, _, _, _, _, _, h, _⟩ := h; exact h

end Go.Proofs.YtkcbicakcjflkaaDoor

/- The reference's Sub, Strike and Compare. -/
namespace Go.Proofs.YtkcbicakcjflkaaDoor
open Go.RowKit
set_option linter.unusedVariables false

def allIn (a b : List Int) : Bool := decide (∀ x ∈ a, x ∈ b)
def subR (a b : List Int) : Bool := mayB a && mayB b && allIn a b

def cmpL : List Int → List Int → Int
  | [], [] => 0
  | [], _ :: _ => -1
  | _ :: _, [] => 1
  | x :: r, y :: s => if litLt x y then -1 else if litLt y x then 1 else cmpL r s

theorem cmpL_drop {a b : List Int} {k : Nat} (h : k < a.length) (h2 : k < b.length) :
    cmpL (a.drop k) (b.drop k) = if litLt (a.getD k 0) (b.getD k 0) then -1 else if litLt (b.getD k 0) (a.getD k 0) then 1 else cmpL (a.drop (k + 1)) (b.drop (k + 1)) := by
  have e1 : a.drop k = a.getD k 0 :: a.drop (k + 1) := by rw [List.drop_eq_getElem_cons h]; simp [List.getD, h]
  have e2 : b.drop k = b.getD k 0 :: b.drop (k + 1) := by rw [List.drop_eq_getElem_cons h2]; simp [List.getD, h2]
  rw [e1, e2, cmpL]
theorem cmpL_end {a b : List Int} {k : Nat} (hk1 : k ≤ a.length) (hk2 : k ≤ b.length) (h : ¬ (k < a.length ∧ k < b.length)) :
    cmpL (a.drop k) (b.drop k) = if a.length < b.length then -1 else if b.length < a.length then 1 else 0 := by
  by_cases h1 : k < a.length
  · have h2 : b.drop k = [] := List.drop_eq_nil_of_le (by omega)
    rw [h2, List.drop_eq_getElem_cons h1, cmpL, if_neg (by omega), if_pos (by omega)]
  · have h1' : a.drop k = [] := List.drop_eq_nil_of_le (by omega)
    by_cases h2 : k < b.length
    · rw [h1', List.drop_eq_getElem_cons h2, cmpL, if_pos (by omega)]
    · rw [h1', List.drop_eq_nil_of_le (by omega), cmpL, if_neg (by omega), if_neg (by omega)]

end Go.Proofs.YtkcbicakcjflkaaDoor

/- The reference's Strike. -/
namespace Go.Proofs.YtkcbicakcjflkaaDoor
open Go.RowKit
set_option linter.unusedVariables false

def strkB (a b : List Int) (y : Int) : Bool := memB a (-y) && subR (withoutL a (varOf y)) b
def strikeR (a b : List Int) : Int := if mayB a && mayB b then (b.find? (strkB a b)).getD 0 else 0

theorem find_at {p : Int → Bool} {l : List Int} {k : Nat} (h : k < l.length) (hn : ∀ y ∈ l.take k, p y = false) (hp : p (l.getD k 0) = true) : l.find? p = some (l.getD k 0) := by
  have e : l = l.take k ++ (l.getD k 0 :: l.drop (k + 1)) := by
    have e2 : l.drop k = l.getD k 0 :: l.drop (k + 1) := by rw [List.drop_eq_getElem_cons h]; simp [List.getD, h]
    rw [← e2, List.take_append_drop]
  have hf : (l.take k).find? p = none := by rw [List.find?_eq_none]; intro x hx; simp [hn x hx]
  generalize l.getD k 0 = y at *
  rw [e, List.find?_append, hf, List.find?_cons, hp]; rfl
theorem find_none {p : Int → Bool} {l : List Int} (hn : ∀ y ∈ l, p y = false) : l.find? p = none := by
  rw [List.find?_eq_none]; intro x hx; simp [hn x hx]
theorem forall_take_succ {p : Int → Prop} {l : List Int} {k : Nat} (h : k < l.length) (hn : ∀ y ∈ l.take k, p y) (hp : p (l.getD k 0)) : ∀ y ∈ l.take (k + 1), p y := by
  have e : l.take (k + 1) = l.take k ++ [l.getD k 0] := by rw [List.take_succ_eq_append_getElem h]; simp [List.getD, h]
  rw [e]
  intro y hy
  rcases List.mem_append.1 hy with hy | hy
  · exact hn y hy
  · rw [List.mem_singleton] at hy; rw [hy]; exact hp

end Go.Proofs.YtkcbicakcjflkaaDoor
