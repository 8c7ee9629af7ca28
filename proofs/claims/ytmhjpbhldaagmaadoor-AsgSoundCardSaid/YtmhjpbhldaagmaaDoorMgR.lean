/- Joined texts: Merge, Cnf. -/
import Derived.Test.YtmhjpbhldaagmaaDoorMgB
/- lits.merge, Join and Resolve. -/
namespace Go.Proofs.YtmhjpbhldaagmaaDoor
open Go.RowKit
set_option linter.unusedVariables false

def consE (x : Int) (r : List Int × Int) : List Int × Int := if r.2 ≠ 0 then ([], r.2) else (x :: r.1, 0)
def mergeL (com : Int → Int → Int × Int) : List Int → List Int → List Int × Int
  | [], b => (b, 0)
  | x :: r, [] => (x :: r, 0)
  | x :: r, y :: s =>
    if varOf x < varOf y then consE x (mergeL com r (y :: s))
    else if varOf y < varOf x then consE y (mergeL com (x :: r) s)
    else if (com x y).2 ≠ 0 then ([], (com x y).2)
    else if (com x y).1 ≠ 0 then consE (com x y).1 (mergeL com r s) else mergeL com r s
termination_by a b => a.length + b.length

/-- What has been put out, then what is left. -/
def finE (o : List Int) (r : List Int × Int) : List Int × Int := if r.2 ≠ 0 then ([], r.2) else (o ++ r.1, 0)
theorem finE_nil (r : List Int × Int) (h : r.2 ≠ 0 → r.1 = []) : finE [] r = r := by
  unfold finE; split
  · rename_i h1; rw [← h h1]
  · rename_i h1
    have : r.2 = 0 := by omega
    rw [List.nil_append, ← this]
theorem finE_cons (o : List Int) (x : Int) (r : List Int × Int) : finE o (consE x r) = finE (o ++ [x]) r := by
  unfold finE consE
  by_cases h : r.2 ≠ 0
  · simp [h]
  · have h0 : r.2 = 0 := by omega
    simp [h0]
theorem mergeL_err (com : Int → Int → Int × Int) (a b : List Int) : (mergeL com a b).2 ≠ 0 → (mergeL com a b).1 = [] := by
  have hc : ∀ x r, (consE x r).2 ≠ 0 → (consE x r).1 = [] := by
    intro x r; unfold consE; split <;> simp
  fun_induction mergeL com a b <;> first | (intro h; exact hc _ _ h) | (intro h; rfl) | assumption | (intro h; exact absurd rfl h)

theorem mergeL_lt {com : Int → Int → Int × Int} {x y : Int} {r s : List Int} (h : varOf x < varOf y) : mergeL com (x :: r) (y :: s) = consE x (mergeL com r (y :: s)) := by rw [mergeL, if_pos h]
theorem mergeL_gt {com : Int → Int → Int × Int} {x y : Int} {r s : List Int} (h1 : ¬ varOf x < varOf y) (h : varOf y < varOf x) : mergeL com (x :: r) (y :: s) = consE y (mergeL com (x :: r) s) := by rw [mergeL, if_neg h1, if_pos h]
theorem mergeL_bad {com : Int → Int → Int × Int} {x y : Int} {r s : List Int} (h1 : ¬ varOf x < varOf y) (h2 : ¬ varOf y < varOf x) (h : (com x y).2 ≠ 0) : mergeL com (x :: r) (y :: s) = ([], (com x y).2) := by rw [mergeL, if_neg h1, if_neg h2, if_pos h]
theorem mergeL_one {com : Int → Int → Int × Int} {x y : Int} {r s : List Int} (h1 : ¬ varOf x < varOf y) (h2 : ¬ varOf y < varOf x) (h : (com x y).2 = 0) (h3 : (com x y).1 ≠ 0) : mergeL com (x :: r) (y :: s) = consE (com x y).1 (mergeL com r s) := by rw [mergeL, if_neg h1, if_neg h2, if_neg (by simp [h]), if_pos h3]
theorem mergeL_no {com : Int → Int → Int × Int} {x y : Int} {r s : List Int} (h1 : ¬ varOf x < varOf y) (h2 : ¬ varOf y < varOf x) (h : (com x y).2 = 0) (h3 : (com x y).1 = 0) : mergeL com (x :: r) (y :: s) = mergeL com r s := by rw [mergeL, if_neg h1, if_neg h2, if_neg (by simp [h]), if_neg (by simp [h3])]
theorem mergeL_end {com : Int → Int → Int × Int} {a b : List Int} (h : a = [] ∨ b = []) : mergeL com a b = (a ++ b, 0) := by
  rcases h with rfl | rfl
  · rw [mergeL]; rfl
  · cases a <;> simp [mergeL]

theorem IsInts.tail {w : World} {b o cap : Nat} {x : Int} {r : List Int} (H : IsInts w (.slice (some ⟨b, o, none⟩) (r.length + 1) cap) (x :: r)) :
    IsInts w (.slice (if cap = 1 then some ⟨b, o, none⟩ else some ⟨b, o + 1, none⟩) r.length (cap - 1)) r := by
  by_cases hc : cap = 1
  · rw [if_pos hc]
    have : r = [] := by
      obtain ⟨a, cap', e, ⟨h1, _⟩, _⟩ := H
      injection e with _ _ e3
      subst e3
      cases r with
      | nil => rfl
      | cons y s => simp at h1; omega
    subst this
    exact IsInts.none_of (by omega)
  · rw [if_neg hc]
    have := IsInts.drop (k := 1) (l := x :: r) H (by simp)
    simpa using this

/-- The function that is handed to merge: it tells what com does, and turns nothing. -/
def Tells (P : Program) (g : Nat) (cb : Array Value) (com : Int → Int → Int × Int) (w : World) : Prop :=
  ∀ W x y, Below w.heap.size w W → -9223372036854775808 ≤ x → x ≤ 9223372036854775807 → -9223372036854775808 ≤ y → y ≤ 9223372036854775807 →
    Calls P g (#[.int .i64 x, .int .i64 y] ++ cb) W fun e w' => e = .returned (.tuple #[.int .i64 (com x y).1, .int .i64 (com x y).2]) ∧ W = w'

theorem IsInts.head {w : World} {v : Value} {x : Int} {r : List Int} (H : IsInts w v (x :: r)) :
    ∃ b o cap, v = .slice (some ⟨b, o, none⟩) (r.length + 1) cap ∧ r.length + 1 ≤ cap ∧ w.cell? ⟨b, o, none⟩ = some (.int .i64 x) ∧ -9223372036854775808 ≤ x ∧ x ≤ 9223372036854775807 := by
  obtain ⟨a, cap, rfl, ⟨h1, _⟩, h3, h4, h5, b, o, ha, hc⟩ := H
  have := (ha (by simp)).1
  subst this
  exact ⟨b, o, cap, rfl, h1, hc 0 (by simp), h5 x (by simp)⟩
theorem IsInts.shape {w : World} {v : Value} {l : List Int} (H : IsInts w v l) : ∃ a cap, v = .slice a l.length cap := by obtain ⟨a, cap, h, _⟩ := H; exact ⟨a, cap, h⟩

def lenOf : Value → Nat | .slice _ n _ => n | _ => 0

set_option maxHeartbeats 1600000 in
set_option maxRecDepth 100000 in
theorem merge_any (com : Int → Int → Int × Int) (hcom : ∀ x y, -9223372036854775808 ≤ x → x ≤ 9223372036854775807 → -9223372036854775808 ≤ (com x y).1 ∧ (com x y).1 ≤ 9223372036854775807) (g : Nat) (cb : Array Value) (v u : Value) (l m : List Int) (w : World)
    (eg : ∀ args w, (callFunc g args).run Tryd.prog w = .ok (.enter g args) w) (ht : Tells Tryd.prog g cb com w) (H : IsInts w v l) (K : IsInts w u m) (hlen : l.length + m.length ≤ 17592186044416) :
    Calls Tryd.prog 44 #[v, u, .func (.func g) #[] cb] w (RetPair w (mergeL com l m)) := by
  obtain ⟨i0, hi, hz0, hz1, hz2⟩ := info_parts info_int
  obtain ⟨a1, c1, rfl⟩ := H.shape
  obtain ⟨a2, c2, rfl⟩ := K.shape
  have HE := Lib.hid (finE_nil _ (mergeL_err com l m))
  go_enter Tryd.func44, Tryd.ntmps44
  go_wp2_with (at_make; refine wpList_make_own _ rfl _ _ 23 rfl w.heap.size 3 i0 (.int .i64 0) 1 Tryd.underlying23 hi hz0 hz1 _ _ _ (l.length + m.length) rfl rfl (by omega) (by rw [hz2]; omega) (by unfold maxLen; omega) (Nat.le_refl _) ?_; intro w0 hown0 hgrow0)
  have hown00 : Own w0 w.heap.size (.slice (some ⟨w.heap.size, 0, none⟩) 0 (l.length + m.length)) [] := hown0
  have hbel0 := (Below.refl w.heap.size w).grown hgrow0 (Nat.le_refl _) (fun k hk => by cases hk)
  clear hown0 hgrow0
  go_loopw [0, 1, 8] (fun va vb out wr => ∃ (A B o : List Int), IsInts w va A ∧ IsInts w vb B ∧ Own wr w.heap.size out o ∧ Below w.heap.size w wr ∧ In64 o ∧ o.length + A.length + B.length ≤ 17592186044416 ∧ mergeL com l m = finE o (mergeL com A B))
    (fun va vb _ _ => lenOf va + lenOf vb)
  case atStart => exact ⟨l, m, [], H, K, hown00, hbel0, In64.nil, by simpa using hlen, HE.out.symm⟩
  case round =>
    obtain ⟨A, B, o, HA, HB, hown, hbel, ho64, hle, hm⟩ := hrel
    have HM := Lib.hid hm
    clear hm
    obtain ⟨av, ac, rfl⟩ := HA.shape
    obtain ⟨bv, bc, rfl⟩ := HB.shape
    cases A with
    | nil =>
      have HG : Hid (mergeL com l m = (o ++ [] ++ B, 0)) := HM.out.trans (by rw [mergeL_end (by simp)]; unfold finE; simp)
      have hA64 := HA.in64
      have hB64 := HB.in64
      have HA1 := HA.below hbel (Nat.le_refl _)
      have HLE := Lib.hid hle
      clear hle
      have hle0 : o.length ≤ 17592186044416 := by have := HLE.out; omega
      go_wp2_with (first | (at_builtin; refine wpList_app rfl (.tmp 77) (.tmp 78) rfl w.heap.size _ _ o [] rfl rfl hown HA1 (by have := HLE.out; simp at this ⊢; omega) hbel.size ?_; intro v1 w1 hown1 hg1; have hbel1 := below_app hbel hown hbel.size hg1; have hs1 := hbel1.size; have HB1 := HB.below hbel1 (Nat.le_refl _)) | (at_builtin; refine wpList_app rfl (.tmp 80) (.tmp 81) rfl w.heap.size _ _ (o ++ []) B rfl rfl hown1 HB1 (by have := HLE.out; simp at this ⊢; omega) hs1 ?_; intro v2 w2 hown2 hg2; have hbel2 := below_app hbel1 hown1 hs1 hg2))
      go_ret2
      exact ⟨_, ret_pair (by rw [HG.out]), by rw [HG.out]; exact hown2.ints (by have := HLE.out; simp at this ⊢; omega) ((ho64.append hA64).append hB64), hbel2⟩
    | cons x r =>
      cases B with
      | nil =>
        have HG : Hid (mergeL com l m = (o ++ (x :: r) ++ [], 0)) := HM.out.trans (by rw [mergeL_end (by simp)]; unfold finE; simp)
        have hA64 := HA.in64
        have hB64 := HB.in64
        have HA1 := HA.below hbel (Nat.le_refl _)
        have HLE := Lib.hid hle
        clear hle
        have hle0 : o.length ≤ 17592186044416 := by have := HLE.out; omega
        go_wp2_with (first | (at_builtin; refine wpList_app rfl (.tmp 77) (.tmp 78) rfl w.heap.size _ _ o (x :: r) rfl rfl hown HA1 (by have := HLE.out; simp at this ⊢; omega) hbel.size ?_; intro v1 w1 hown1 hg1; have hbel1 := below_app hbel hown hbel.size hg1; have hs1 := hbel1.size; have HB1 := HB.below hbel1 (Nat.le_refl _)) | (at_builtin; refine wpList_app rfl (.tmp 80) (.tmp 81) rfl w.heap.size _ _ (o ++ (x :: r)) [] rfl rfl hown1 HB1 (by have := HLE.out; simp at this ⊢; omega) hs1 ?_; intro v2 w2 hown2 hg2; have hbel2 := below_app hbel1 hown1 hs1 hg2))
        go_ret2
        exact ⟨_, ret_pair (by rw [HG.out]), by rw [HG.out]; exact hown2.ints (by have := HLE.out; simp at this ⊢; omega) ((ho64.append hA64).append hB64), hbel2⟩
      | cons y s =>
        obtain ⟨ba, oa, ca, ea, hca, hx, hx1, hx2⟩ := HA.head
        obtain ⟨bb, ob, cb', eb, hcb, hy, hy1, hy2⟩ := HB.head
        injection ea with ea1 ea2 ea3
        injection eb with eb1 eb2 eb3
        subst ea1; subst ea3; subst eb1; subst eb3
        have hxr := (HA.below hbel (Nat.le_refl _)).head
        have hyr := (HB.below hbel (Nat.le_refl _)).head
        have hcx : wr.cell? ⟨ba, oa, none⟩ = some (.int .i64 x) := by
          obtain ⟨b', o', c', e, _, h, _⟩ := hxr; injection e with e1; injection e1 with e1; injection e1 with e1 e2; subst e1; subst e2; exact h
        have hcy : wr.cell? ⟨bb, ob, none⟩ = some (.int .i64 y) := by
          obtain ⟨b', o', c', e, _, h, _⟩ := hyr; injection e with e1; injection e1 with e1; injection e1 with e1 e2; subst e1; subst e2; exact h
        clear hxr hyr hx hy
        have hsz := hbel.size
        have HTA : IsInts w _ r := IsInts.tail HA
        have HTB : IsInts w _ s := IsInts.tail HB
        have HLE := Lib.hid hle
        have hle1 : o.length < 17592186044416 := by simp at hle; omega
        clear hle
        have hvx := varOf_bd x
        have hvy := varOf_bd y
        by_cases h1 : varOf x < varOf y
        · have HN : Hid (mergeL com l m = finE (o ++ [x]) (mergeL com r (y :: s))) := HM.out.trans (by rw [mergeL_lt h1, finE_cons])
          go_wp2_with fail
          go_quiet (fail)
          have hown1 := hown.drewN nq
          have hbel1 : Below w.heap.size w (wr.drewN nq) := hbel.trans ((Quiet.refl wr).drewN nq |>.below _)
          have hsz1 := hbel1.size
          have hcx1 : (wr.drewN nq).cell? ⟨ba, oa, none⟩ = some (.int .i64 x) := hcx
          have hcy1 : (wr.drewN nq).cell? ⟨bb, ob, none⟩ = some (.int .i64 y) := hcy
          generalize wr.drewN nq = wq at *
          go_wp2_with (first | (go_at_call 46; refine (var_any _ _ (by omega) (by omega)).mono ?_; rintro e w' ⟨rfl, rfl⟩) | (at_builtin; refine wpList_app1 rfl (.tmp 59) (.tmp 61) rfl w.heap.size _ _ x wq.heap.size rfl rfl (hown1.alloc _) (by simp) (by omega) (by simp; omega) ?_; intro v' w2 hown2 hg2))
          go_roundw
          case rel => exact ⟨r, y :: s, o ++ [x], HTA, HB, hown2, below_app (hbel1.alloc hsz1 _) (hown1.alloc _) (by simp; omega) hg2, ho64.append (In64.one hx1 hx2), by have := HLE.out; simp at this ⊢; omega, HN.out⟩
          case measure => simp [lenOf]
        by_cases h2 : varOf y < varOf x
        · have HN : Hid (mergeL com l m = finE (o ++ [y]) (mergeL com (x :: r) s)) := HM.out.trans (by rw [mergeL_gt h1 h2, finE_cons])
          go_wp2_with fail
          go_quiet (fail)
          have hown1 := hown.drewN nq
          have hbel1 : Below w.heap.size w (wr.drewN nq) := hbel.trans ((Quiet.refl wr).drewN nq |>.below _)
          have hsz1 := hbel1.size
          have hcx1 : (wr.drewN nq).cell? ⟨ba, oa, none⟩ = some (.int .i64 x) := hcx
          have hcy1 : (wr.drewN nq).cell? ⟨bb, ob, none⟩ = some (.int .i64 y) := hcy
          generalize wr.drewN nq = wq at *
          go_wp2_with (first | (go_at_call 46; refine (var_any _ _ (by omega) (by omega)).mono ?_; rintro e w' ⟨rfl, rfl⟩) | (at_builtin; refine wpList_app1 rfl (.tmp 71) (.tmp 73) rfl w.heap.size _ _ y wq.heap.size rfl rfl (hown1.alloc _) (by simp) (by omega) (by simp; omega) ?_; intro v' w2 hown2 hg2))
          go_roundw
          case rel => exact ⟨x :: r, s, o ++ [y], HA, HTB, hown2, below_app (hbel1.alloc hsz1 _) (hown1.alloc _) (by simp; omega) hg2, ho64.append (In64.one hy1 hy2), by have := HLE.out; simp at this ⊢; omega, HN.out⟩
          case measure => simp [lenOf]
        have HB0 := Lib.hid (fun h => mergeL_bad (com := com) (r := r) (s := s) h1 h2 h)
        have HB1 := Lib.hid (fun h h3 => mergeL_one (com := com) (r := r) (s := s) h1 h2 h h3)
        have HB2 := Lib.hid (fun h h3 => mergeL_no (com := com) (r := r) (s := s) h1 h2 h h3)
        have hcm := hcom x y hx1 hx2
        by_cases h3 : (com x y).2 ≠ 0
        · have HN : Hid (mergeL com l m = ([], (com x y).2)) := HM.out.trans (by rw [HB0.out h3]; unfold finE; rw [if_pos h3])
          go_wp2_with fail
          go_quiet (fail)
          have hown1 := hown.drewN nq
          have hbel1 : Below w.heap.size w (wr.drewN nq) := hbel.trans ((Quiet.refl wr).drewN nq |>.below _)
          have hsz1 := hbel1.size
          have hcx1 : (wr.drewN nq).cell? ⟨ba, oa, none⟩ = some (.int .i64 x) := hcx
          have hcy1 : (wr.drewN nq).cell? ⟨bb, ob, none⟩ = some (.int .i64 y) := hcy
          generalize wr.drewN nq = wq at *
          have hc := ht wq x y hbel1 hx1 hx2 hy1 hy2
          have h3' : ((com x y).2 != 0) = true := by simpa using h3
          clear h3
          generalize com x y = z at *
          go_wp2_with (go_at_call 46; refine (var_any _ _ (by omega) (by omega)).mono ?_; rintro e w' ⟨rfl, rfl⟩)
          refine hc.mono ?_
          rintro e w' ⟨rfl, rfl⟩
          go_wp2
          go_ret2
          exact ⟨_, ret_pair (by rw [HN.out]), by rw [HN.out]; exact IsInts.nil _, hbel1⟩
        have h30 : (com x y).2 = 0 := by omega
        by_cases h4 : (com x y).1 ≠ 0
        · have HN : Hid (mergeL com l m = finE (o ++ [(com x y).1]) (mergeL com r s)) := HM.out.trans (by rw [HB1.out h30 h4, finE_cons])
          go_wp2_with fail
          go_quiet (fail)
          have hown1 := hown.drewN nq
          have hbel1 : Below w.heap.size w (wr.drewN nq) := hbel.trans ((Quiet.refl wr).drewN nq |>.below _)
          have hsz1 := hbel1.size
          have hcx1 : (wr.drewN nq).cell? ⟨ba, oa, none⟩ = some (.int .i64 x) := hcx
          have hcy1 : (wr.drewN nq).cell? ⟨bb, ob, none⟩ = some (.int .i64 y) := hcy
          generalize wr.drewN nq = wq at *
          have hc := ht wq x y hbel1 hx1 hx2 hy1 hy2
          have h4' : ((com x y).1 != 0) = true := by simpa using h4
          have h3' : ((com x y).2 != 0) = false := by simpa using h30
          clear h4 h3 h30
          generalize com x y = z at *
          go_wp2_with (go_at_call 46; refine (var_any _ _ (by omega) (by omega)).mono ?_; rintro e w' ⟨rfl, rfl⟩)
          refine hc.mono ?_
          rintro e w' ⟨rfl, rfl⟩
          go_wp2_with (at_builtin; refine wpList_app1 rfl (.tmp 45) (.tmp 47) rfl w.heap.size _ _ z.1 wq.heap.size rfl rfl (hown1.alloc _) (by simp) (by omega) (by simp; omega) ?_; intro v' w2 hown2 hg2)
          have hbel2 := below_app (hbel1.alloc hsz1 _) (hown1.alloc _) (by simp; omega) hg2
          go_quiet (fail)
          go_wp2
          go_roundw
          case rel => exact ⟨r, s, o ++ [z.1], HTA, HTB, hown2.drewN _, hbel2.trans ((Quiet.refl _).drewN _ |>.below _), ho64.append (In64.one hcm.1 hcm.2), by have := HLE.out; simp at this ⊢; omega, HN.out⟩
          case measure => simp [lenOf]; omega
        · have h40 : (com x y).1 = 0 := by omega
          have HN : Hid (mergeL com l m = finE o (mergeL com r s)) := HM.out.trans (by rw [HB2.out h30 h40])
          go_wp2_with fail
          go_quiet (fail)
          have hown1 := hown.drewN nq
          have hbel1 : Below w.heap.size w (wr.drewN nq) := hbel.trans ((Quiet.refl wr).drewN nq |>.below _)
          have hsz1 := hbel1.size
          have hcx1 : (wr.drewN nq).cell? ⟨ba, oa, none⟩ = some (.int .i64 x) := hcx
          have hcy1 : (wr.drewN nq).cell? ⟨bb, ob, none⟩ = some (.int .i64 y) := hcy
          generalize wr.drewN nq = wq at *
          have hc := ht wq x y hbel1 hx1 hx2 hy1 hy2
          have h4' : ((com x y).1 != 0) = false := by simpa using h40
          have h3' : ((com x y).2 != 0) = false := by simpa using h30
          clear h4 h3 h30 h40
          generalize com x y = z at *
          go_wp2_with (go_at_call 46; refine (var_any _ _ (by omega) (by omega)).mono ?_; rintro e w' ⟨rfl, rfl⟩)
          refine hc.mono ?_
          rintro e w' ⟨rfl, rfl⟩
          go_wp2_with fail
          go_quiet (fail)
          go_wp2
          go_roundw
          case rel => exact ⟨r, s, o, HTA, HTB, hown1.drewN _, hbel1.trans ((Quiet.refl _).drewN _ |>.below _), ho64, by have := HLE.out; simp at this ⊢; omega, HN.out⟩
          case measure => simp [lenOf]; omega

end Go.Proofs.YtmhjpbhldaagmaaDoor

/- MayCnf, SameAll. -/
namespace Go.Proofs.YtmhjpbhldaagmaaDoor
open Go.RowKit
set_option linter.unusedVariables false

def tot (f : List (List Int)) : Nat := (f.map List.length).sum
def mayCnfB (f : List (List Int)) : Bool := decide (f.length ≤ 20000 ∧ tot f ≤ 200000 ∧ ∀ l ∈ f, mayB l = true)

theorem rows_getD_mem {f : List (List Int)} {k : Nat} (h : k < f.length) : f.getD k [] ∈ f := by simp [List.getD, h]
theorem rows_take_succ {f : List (List Int)} {k : Nat} (h : k < f.length) : f.take (k + 1) = f.take k ++ [f.getD k []] := by rw [List.take_succ_eq_append_getElem h]; simp [List.getD, h]
theorem tot_append (f g : List (List Int)) : tot (f ++ g) = tot f + tot g := by unfold tot; simp
theorem tot_take_succ {f : List (List Int)} {k : Nat} (h : k < f.length) : tot (f.take (k + 1)) = tot (f.take k) + (f.getD k []).length := by
  rw [rows_take_succ h, tot_append]; simp [tot]
theorem tot_take_le (f : List (List Int)) (k : Nat) : tot (f.take k) ≤ tot f := by
  have := tot_append (f.take k) (f.drop k)
  rw [List.take_append_drop] at this
  omega
theorem rows_forall_take_succ {p : List Int → Prop} {f : List (List Int)} {k : Nat} (h : k < f.length) (hn : ∀ y ∈ f.take k, p y) (hp : p (f.getD k [])) : ∀ y ∈ f.take (k + 1), p y := by
  rw [rows_take_succ h]
  intro y hy
  rcases List.mem_append.1 hy with hy | hy
  · exact hn y hy
  · rw [List.mem_singleton] at hy; rw [hy]; exact hp

/-- The k-th list of a list of lists: where it lies. -/
theorem IsRows.at {w : World} {a : Option Addr} {n cap : Nat} {f : List (List Int)} (H : IsRows w (.slice a n cap) f) {k : Nat} (hk : k < f.length) :
    ∃ b off u, a = some ⟨b, off, none⟩ ∧ b < w.heap.size ∧ w.cell? ⟨b, off + k, none⟩ = some u ∧ IsInts w u (f.getD k []) := by
  obtain ⟨a', cap', e, _, _, _, b, off, ha, hc⟩ := H
  injection e with e1 e2 e3
  subst e1
  obtain ⟨h1, h2⟩ := ha (by intro h; simp [h] at hk)
  obtain ⟨u, hu, hi⟩ := hc k hk
  exact ⟨b, off, u, h1, h2, hu, hi⟩
theorem IsRows.shape {w : World} {v : Value} {f : List (List Int)} (H : IsRows w v f) : ∃ a cap, v = .slice a f.length cap ∧ f.length ≤ 17592186044416 := by
  obtain ⟨a, cap, h, _, _, h4, _⟩ := H; exact ⟨a, cap, h, h4⟩

set_option maxHeartbeats 800000 in
set_option maxRecDepth 100000 in
theorem maycnf_any (v : Value) (f : List (List Int)) (w : World) (H : IsRows w v f) :
    Calls Tryd.prog 33 #[v] w fun e w' => e = .returned (.bool (mayCnfB f)) ∧ w = w' := by
  obtain ⟨a, cap, rfl, hl⟩ := H.shape
  by_cases hbig : 20000 < f.length
  · have HF : Hid (mayCnfB f = false) := by show _ = _; unfold mayCnfB; rw [decide_eq_false_iff_not]; intro h; have := h.1; omega
    go_enter Tryd.func33, Tryd.ntmps33
    go_wp2
    go_ret
    exact ⟨ret_bool HF.out.symm, rfl⟩
  · have hbig' : ¬ (20000 : Int) < (f.length : Int) := by omega
    go_enter Tryd.func33, Tryd.ntmps33
    go_wp2
    go_loop [3, 11] (fun t i => ∃ (k m : Nat), k ≤ f.length ∧ i = .int .i64 k ∧ t = .int .i64 m ∧ m ≤ 200000 ∧ m = tot (f.take k) ∧ ∀ l ∈ f.take k, mayB l = true) (fun _ i => f.length - (intOf i).toNat)
    case atStart => exact ⟨0, 0, Nat.zero_le _, rfl, rfl, by omega, by simp [tot], by simp⟩
    case round =>
      obtain ⟨k, m, hk, rfl, rfl, hm, hmt, hi⟩ := hrel
      have HMT := Lib.hid hmt
      have HI := Lib.hid hi
      clear hmt hi
      by_cases hlt : k < f.length
      · obtain ⟨b, off, u, rfl, hb, hu, HU⟩ := H.at hlt
        have HS := Lib.hid (tot_take_succ hlt)
        have HLE := Lib.hid (tot_take_le f (k + 1))
        have hmem := rows_getD_mem hlt
        have HMEM := Lib.hid hmem
        have HFA := Lib.hid (fun h => rows_forall_take_succ (p := fun l => mayB l = true) hlt HI.out h)
        clear hmem
        generalize f.getD k [] = l at *
        have hll := HU.len
        obtain ⟨a', cap', rfl⟩ := HU.shape
        by_cases htl : m + l.length ≤ 200000
        · by_cases hml : mayB l = true
          · have HN := Lib.hid (HFA.out hml)
            go_wp2_with (go_at_call 32; refine (may_v _ l _ HU).mono ?_; rintro e w' ⟨rfl, rfl⟩)
            go_round
            case rel => exact ⟨k + 1, m + l.length, by omega, by go_num, by go_num, htl, by rw [HS.out, ← HMT.out], HN.out⟩
            case measure => simp [intOf]; omega
          · have HF : Hid (mayCnfB f = false) := by show _ = _; unfold mayCnfB; rw [decide_eq_false_iff_not]; intro h; exact hml (h.2.2 l HMEM.out)
            have hml' : mayB l = false := by simpa using hml
            clear hml
            go_wp2_with (go_at_call 32; refine (may_v _ l _ HU).mono ?_; rintro e w' ⟨rfl, rfl⟩)
            go_ret
            exact ⟨ret_bool HF.out.symm, rfl⟩
        · have HF : Hid (mayCnfB f = false) := by
            show _ = _; unfold mayCnfB; rw [decide_eq_false_iff_not]; intro h
            have h1 := h.2.1
            have h2 := HLE.out
            rw [HS.out, ← HMT.out] at h2
            omega
          have hgt : (200000 : Int) < (m : Int) + (l.length : Int) := by omega
          go_wp2
          go_ret
          exact ⟨ret_bool HF.out.symm, rfl⟩
      · have HF : Hid (mayCnfB f = true) := by
          show _ = _
          unfold mayCnfB
          have h1 := HMT.out
          have h2 := HI.out
          rw [List.take_of_length_le (by omega)] at h1 h2
          rw [decide_eq_true_eq]
          exact ⟨by omega, by omega, h2⟩
        go_wp2
        go_ret
        exact ⟨ret_bool HF.out.symm, rfl⟩

set_option maxHeartbeats 800000 in
set_option maxRecDepth 100000 in
theorem rmaycnf_any (v : Value) (f : List (List Int)) (w : World) (H : IsRows w v f) :
    Calls Tryd.prog 11 #[v] w fun e w' => e = .returned (.bool (mayCnfB f)) ∧ Quiet w w' := by
  obtain ⟨a, cap, rfl, hl⟩ := H.shape
  go_enter Tryd.func11, Tryd.ntmps11
  go_wp2
  go_loopw [3, 4] (fun t i wr => ∃ (k m : Nat), k ≤ f.length ∧ i = .int .i64 k ∧ t = .int .i64 m ∧ k ≤ 20000 ∧ m ≤ 200000 ∧ Quiet w wr ∧ m = tot (f.take k) ∧ ∀ l ∈ f.take k, mayB l = true) (fun _ i _ => f.length - (intOf i).toNat)
  case atStart => exact ⟨0, 0, Nat.zero_le _, rfl, rfl, by omega, by omega, Quiet.refl _, by simp [tot], by simp⟩
  case round =>
    obtain ⟨k, m, hk, rfl, rfl, hk2, hm, hq, hmt, hi⟩ := hrel
    have HMT := Lib.hid hmt
    have HI := Lib.hid hi
    clear hmt hi
    by_cases hlt : k < f.length
    · obtain ⟨b, off, u, rfl, hb, hu0, HU0⟩ := H.at hlt
      have hu := (hq.cell _).trans hu0
      have HU := HU0.quiet hq
      have HS := Lib.hid (tot_take_succ hlt)
      have HLE := Lib.hid (tot_take_le f (k + 1))
      have hmem := rows_getD_mem hlt
      have HMEM := Lib.hid hmem
      have HFA := Lib.hid (fun h => rows_forall_take_succ (p := fun l => mayB l = true) hlt HI.out h)
      clear hmem hu0 HU0
      generalize f.getD k [] = l at *
      have hll := HU.len
      obtain ⟨a', cap', rfl⟩ := HU.shape
      by_cases hk20 : k = 20000
      · have HF : Hid (mayCnfB f = false) := by show _ = _; unfold mayCnfB; rw [decide_eq_false_iff_not]; intro h; have := h.1; omega
        have hk21 : (20000 : Int) ≤ (k : Int) := by omega
        clear hk20
        go_wp2
        go_ret
        exact ⟨ret_bool HF.out.symm, hq⟩
      have hk21 : ¬ (20000 : Int) ≤ (k : Int) := by omega
      by_cases htl : m + l.length ≤ 200000
      · by_cases hml : mayB l = true
        · have HN := Lib.hid (HFA.out hml)
          go_wp2_with (go_at_call 10; refine (rmay_v _ l _ HU).mono ?_; rintro e w' ⟨rfl, hq'⟩)
          go_roundw
          case rel => exact ⟨k + 1, m + l.length, by omega, by go_num, by go_num, by omega, htl, hq.trans hq', by rw [HS.out, ← HMT.out], HN.out⟩
          case measure => simp [intOf]; omega
        · have HF : Hid (mayCnfB f = false) := by show _ = _; unfold mayCnfB; rw [decide_eq_false_iff_not]; intro h; exact hml (h.2.2 l HMEM.out)
          have hml' : mayB l = false := by simpa using hml
          clear hml
          go_wp2_with (go_at_call 10; refine (rmay_v _ l _ HU).mono ?_; rintro e w' ⟨rfl, hq'⟩)
          go_ret
          exact ⟨ret_bool HF.out.symm, hq.trans hq'⟩
      · have HF : Hid (mayCnfB f = false) := by
          show _ = _; unfold mayCnfB; rw [decide_eq_false_iff_not]; intro h
          have h1 := h.2.1
          have h2 := HLE.out
          rw [HS.out, ← HMT.out] at h2
          omega
        have hgt : (200000 : Int) < (m : Int) + (l.length : Int) := by omega
        go_wp2
        go_ret
        exact ⟨ret_bool HF.out.symm, hq⟩
    · have HF : Hid (mayCnfB f = true) := by
        show _ = _
        unfold mayCnfB
        have h1 := HMT.out
        have h2 := HI.out
        rw [List.take_of_length_le (by omega)] at h1 h2
        rw [decide_eq_true_eq]
        exact ⟨by omega, by omega, h2⟩
      go_wp2
      go_ret
      exact ⟨ret_bool HF.out.symm, hq⟩

set_option maxHeartbeats 800000 in
set_option maxRecDepth 100000 in
theorem sameall_any (v u : Value) (l m : List (List Int)) (w : World) (H : IsRows w v l) (K : IsRows w u m) :
    Calls Tryd.prog 31 #[v, u] w fun e w' => e = .returned (.bool (sameB l m)) ∧ Quiet w w' := by
  obtain ⟨a, cap, rfl, hl⟩ := H.shape
  obtain ⟨a2, cap2, rfl, hl2⟩ := K.shape
  by_cases hlen : l.length = m.length
  · have hne : ((l.length : Int) != (m.length : Int)) = false := by simp [hlen]
    have HL := Lib.hid hlen
    clear hlen
    go_enter Tryd.func31, Tryd.ntmps31
    go_wp2
    go_loopw [5] (fun i wr => ∃ k : Nat, k ≤ l.length ∧ i = .int .i64 k ∧ Quiet w wr ∧ l.take k = m.take k) (fun i _ => l.length - (intOf i).toNat)
    case atStart => exact ⟨0, Nat.zero_le _, rfl, Quiet.refl _, by simp⟩
    case round =>
      obtain ⟨k, hk, rfl, hq, hn⟩ := hrel
      have HN := Lib.hid hn
      clear hn
      by_cases hlt : k < l.length
      · have hlt2 : k < m.length := by rw [← HL.out]; exact hlt
        obtain ⟨b, off, u1, rfl, hb, hu0, HU0⟩ := H.at hlt
        obtain ⟨b2, off2, u2, rfl, hb2, hv0, HV0⟩ := K.at hlt2
        have hy := (hq.cell _).trans hu0
        have hz := (hq.cell _).trans hv0
        have HT := Lib.hid (rows_take_succ hlt)
        have HT2 := Lib.hid (rows_take_succ hlt2)
        have HNE := Lib.hid (show l.getD k [] ≠ m.getD k [] → l ≠ m from fun h e => h (by rw [e]))
        have hc := fun n => same_any u1 u2 _ _ (wr.drewN n) ((HU0.quiet hq).drewN n) ((HV0.quiet hq).drewN n)
        generalize l.getD k [] = y at *
        generalize m.getD k [] = z at *
        by_cases he : y = z
        · have hs : sameB y z = true := by unfold sameB; simp [he]
          have HE := Lib.hid he
          clear he
          go_wp2_with fail
          go_quiet ((go_at_call 68; exact quiet_q (hc _)))
          go_wp2
          go_roundw
          case rel => exact ⟨k + 1, by omega, by go_num, hq.drewN _, by rw [HT.out, HT2.out, HN.out, HE.out]⟩
          case measure => simp [intOf]; omega
        · have hs : sameB y z = false := by unfold sameB; simp [he]
          have HLM : Hid (sameB l m = false) := by show _ = _; unfold sameB; rw [decide_eq_false_iff_not]; exact HNE.out he
          clear he
          go_wp2_with fail
          go_quiet ((go_at_call 68; exact quiet_q (hc _)))
          go_wp2
          go_ret
          exact ⟨ret_bool HLM.out.symm, hq.drewN _⟩
      · have HE : Hid (sameB l m = true) := by
          have h := HN.out
          rw [List.take_of_length_le (by omega), List.take_of_length_le (by rw [← HL.out]; omega)] at h
          show _ = _; unfold sameB; simp [h]
        go_wp2
        go_ret
        exact ⟨ret_bool HE.out.symm, hq⟩
  · have hne : ((l.length : Int) != (m.length : Int)) = true := by simp; omega
    have HE : Hid (sameB l m = false) := by show _ = _; unfold sameB; rw [decide_eq_false_iff_not]; intro h; exact hlen (by rw [h])
    clear hlen
    go_enter Tryd.func31, Tryd.ntmps31
    go_wp2
    go_ret
    exact ⟨ret_bool HE.out.symm, Quiet.refl _⟩

end Go.Proofs.YtmhjpbhldaagmaaDoor
