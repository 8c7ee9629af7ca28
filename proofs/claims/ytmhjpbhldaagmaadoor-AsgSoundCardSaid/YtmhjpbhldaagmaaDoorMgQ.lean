/- Joined texts: OrderP, OrderQ, PureSub, SoundP. -/
import Derived.Test.YtmhjpbhldaagmaaDoorMgO
import Derived.Test.YtmhjpbhldaagmaaDoorMgK
import Derived.Test.YtmhjpbhldaagmaaDoorMgG
import Derived.Test.YtmhjpbhldaagmaaDoorMgC
import Derived.Test.YtmhjpbhldaagmaaDoorMgB
/- What unit propagation closes to does not hang on the order of the clauses: reckoned. -/
namespace Go.Proofs.YtmhjpbhldaagmaaDoor
open Go.RowKit
set_option linter.unusedVariables false

/-- What follows by units, in whatever order. -/
inductive Der (f : List (List Int)) (a : List Int) : Int → Prop
  | base {x : Int} : x ∈ a → Der f a x
  | unit {c : List Int} {x : Int} : c ∈ f → x ∈ c → (∀ y ∈ c, y ≠ x → Der f a (-y)) → Der f a x
theorem Der.mono {f g : List (List Int)} {a : List Int} {x : Int} (h : Der f a x) (hs : ∀ r, r ∈ f → r ∈ g) : Der g a x := by
  induction h with
  | base h => exact .base h
  | unit h1 h2 _ ih => exact .unit (hs _ h1) h2 ih

theorem run_der {f : List (List Int)} {a H : List Int} {l : List (Int × Nat)} {c : Int} (h : Run f H l c) (hH : ∀ x ∈ H, Der f a x) :
    (∀ x ∈ l.map (·.1), Der f a x) ∧ (0 ≤ c → ∃ r ∈ f, ∀ y ∈ r, Der f a (-y)) := by
  induction h with
  | done _ => exact ⟨fun x hx => by simp at hx, fun h => by omega⟩
  | @conf H i h1 h2 =>
    refine ⟨fun x hx => by simp at hx, fun _ => ⟨_, rows_getD_mem h1.1, fun y hy => hH _ ?_⟩⟩
    by_cases hn : -y ∈ H
    · exact hn
    · have : y ∈ openL H (f.getD i []) := mem_openL.2 ⟨hy, h1.2.1.1 y hy, hn⟩
      rw [h2] at this
      cases this
  | @step H i x l c h1 h2 _ ih =>
    have hx : x ∈ openL H (f.getD i []) := by rw [h2]; simp
    have hd : Der f a x := by
      refine .unit (rows_getD_mem h1.1) (mem_openL.1 hx).1 fun y hy hne => hH _ ?_
      by_cases hn : -y ∈ H
      · exact hn
      · have : y ∈ openL H (f.getD i []) := mem_openL.2 ⟨hy, h1.2.1.1 y hy, hn⟩
        rw [h2, List.mem_singleton] at this
        exact absurd this hne
    obtain ⟨g1, g2⟩ := ih (fun z hz => by
      rcases List.mem_cons.1 hz with rfl | hz
      · exact hd
      · exact hH z hz)
    refine ⟨fun z hz => ?_, g2⟩
    rw [List.map_cons] at hz
    rcases List.mem_cons.1 hz with rfl | hz
    · exact hd
    · exact g1 z hz
theorem run_closed {f : List (List Int)} {H : List Int} {l : List (Int × Nat)} {c : Int} (h : Run f H l c) (hc : c = -1) :
    ∀ S, (∀ x, x ∈ S ↔ x ∈ H ∨ x ∈ l.map (·.1)) → ∀ r ∈ f, ¬ decC S r := by
  induction h with
  | @done H hn =>
    intro S hS r hr
    obtain ⟨i, hi, rfl⟩ := List.mem_iff_getElem.1 hr
    have h1 := hn i hi
    have e : f.getD i [] = f[i] := by simp [List.getD, hi]
    rw [e] at h1
    intro h2
    exact h1 ((decC_same (fun x => by rw [hS]; simp)).1 h2)
  | @conf H i h1 h2 => omega
  | @step H i x l c h1 h2 _ ih =>
    intro S hS
    refine ih hc S fun z => ?_
    rw [hS, List.map_cons, List.mem_cons, List.mem_cons]
    constructor
    · rintro (h | h | h)
      · exact .inl (.inr h)
      · exact .inl (.inl h)
      · exact .inr h
    · rintro ((h | h) | h)
      · exact .inr (.inl h)
      · exact .inl h
      · exact .inr (.inr h)
theorem der_sub {f : List (List Int)} {a S : List Int} (hcl : ∀ r ∈ f, ¬ decC S r) (hS : Cons S) (ha : ∀ x ∈ a, x ∈ S) (hnd : ∀ r ∈ f, r.Nodup) {x : Int} (h : Der f a x) : x ∈ S := by
  induction h with
  | base h => exact ha _ h
  | @unit c x h1 h2 _ ih =>
    by_cases hx : x ∈ S
    · exact hx
    · exfalso
      refine hcl c h1 ⟨fun z hz hzS => ?_, ?_⟩
      · by_cases e : z = x
        · exact hx (e ▸ hzS)
        · exact hS z hzS (ih z hz e)
      · have hall : ∀ z ∈ openL S c, z = x := fun z hz => by
          obtain ⟨g1, g2, g3⟩ := mem_openL.1 hz
          by_cases e : z = x
          · exact e
          · exact absurd (ih z g1 e) g3
        have hn : (openL S c).Nodup := (hnd c h1).sublist List.filter_sublist
        match hop : openL S c with
        | [] => simp
        | [_] => simp
        | y :: z :: r =>
          rw [hop] at hall hn
          have e1 := hall y (by simp)
          have e2 := hall z (by simp)
          rw [e1, e2] at hn
          simp at hn
theorem der_no {f : List (List Int)} {a S : List Int} (hcl : ∀ r ∈ f, ¬ decC S r) (hS : Cons S) (hd : ∀ x, Der f a x → x ∈ S) : ¬ ∃ r ∈ f, ∀ y ∈ r, Der f a (-y) := by
  rintro ⟨r, hr, h⟩
  refine hcl r hr ⟨fun z hz hzS => hS z hzS (hd _ (h z hz)), ?_⟩
  have : openL S r = [] := by
    refine List.filter_eq_nil_iff.2 fun z hz => ?_
    have := hd _ (h z hz)
    simp [this]
  rw [this]
  simp

theorem CloseOf.order {f g : List (List Int)} {a r s : List Int} {p q : Bool} {d e : Int} (hfg : ∀ x, x ∈ f ↔ x ∈ g) (hmay : mayCnfB f = mayCnfB g) (h : CloseOf f a r p d) (k : CloseOf g a s q e) : r = s ∧ p = q ∧ d = e := by
  rcases h with ⟨h1, h2, rfl, l, c, hr, h3⟩ | ⟨h1, rfl, rfl, rfl⟩
  · rcases k with ⟨_, k2, rfl, m, c', hs, k3⟩ | ⟨k1, _⟩
    · have hmf := cnf_may h2
      have hmg := cnf_may k2
      obtain ⟨d1, d2⟩ := run_der (a := a) hr (fun x hx => .base hx)
      obtain ⟨d3, d4⟩ := run_der (a := a) hs (fun x hx => .base hx)
      have fin : ∀ {F : List (List Int)} {L : List (Int × Nat)}, Run F a L (-1) → (∀ r ∈ F, mayB r = true) → (∀ x, Der F a x ↔ x ∈ closeK a L L.length) ∧ ¬ ∃ r ∈ F, ∀ y ∈ r, Der F a (-y) := fun {F L} hR hF => by
        have hmem : ∀ x, x ∈ closeK a L L.length ↔ x ∈ a ∨ x ∈ L.map (·.1) := fun x => by rw [closeK_mem, List.take_of_length_le (by simp)]
        have hcl := run_closed hR rfl _ hmem
        have hcons := may_cons (closeK_may hR hF h1 _ (Nat.le_refl _))
        have hsub := fun x (hx : Der F a x) => der_sub hcl hcons (fun z hz => (hmem z).2 (.inl hz)) (fun r hr => may_nodup (hF r hr)) hx
        refine ⟨fun x => ⟨hsub x, fun hx => ?_⟩, der_no hcl hcons hsub⟩
        rcases (hmem x).1 hx with hx | hx
        · exact .base hx
        · exact (run_der (a := a) hR (fun x hx => .base hx)).1 x hx
      rcases h3 with ⟨rfl, rfl, rfl⟩ | ⟨h4, rfl, rfl⟩
      · obtain ⟨f1, f2⟩ := fin hr hmf
        rcases k3 with ⟨rfl, rfl, rfl⟩ | ⟨k4, rfl, rfl⟩
        · obtain ⟨g1, g2⟩ := fin hs hmg
          refine ⟨?_, rfl, rfl⟩
          refine sorted_unique (may_sorted (Int.le_refl 0) (closeK_may hr hmf h1 _ (Nat.le_refl _))) (may_sorted (Int.le_refl 0) (closeK_may hs hmg h1 _ (Nat.le_refl _))) fun x => ?_
          rw [← f1, ← g1]
          exact ⟨fun h => h.mono fun r => (hfg r).1, fun h => h.mono fun r => (hfg r).2⟩
        · obtain ⟨r, hr1, hr2⟩ := d4 k4
          exact absurd ⟨r, (hfg r).2 hr1, fun y hy => (hr2 y hy).mono fun r => (hfg r).2⟩ f2
      · rcases k3 with ⟨rfl, rfl, rfl⟩ | ⟨k4, rfl, rfl⟩
        · obtain ⟨g1, g2⟩ := fin hs hmg
          obtain ⟨r, hr1, hr2⟩ := d2 h4
          exact absurd ⟨r, (hfg r).1 hr1, fun y hy => (hr2 y hy).mono fun r => (hfg r).1⟩ g2
        · exact ⟨rfl, rfl, rfl⟩
    · exact absurd ⟨h1, by rw [← hmay]; exact h2⟩ k1
  · rcases k with ⟨k1, k2, _⟩ | ⟨_, rfl, rfl, rfl⟩
    · exact absurd ⟨k1, by rw [hmay]; exact k2⟩ h1
    · exact ⟨rfl, rfl, rfl⟩

end Go.Proofs.YtmhjpbhldaagmaaDoor

/- What is closed stays so: reckoned. -/
namespace Go.Proofs.YtmhjpbhldaagmaaDoor
open Go.RowKit
set_option linter.unusedVariables false

theorem close_more {f : List (List Int)} {a x : List Int} {d : Int} (h : CloseOf f a x true d) :
    d = 0 ∧ mayB a = true ∧ mayB x = true ∧ (∀ y ∈ a, y ∈ x) ∧ (∀ u ∈ underL x f, 2 ≤ u.length) ∧ CloseOf f x x true 0 := by
  rcases h with ⟨h1, h2, rfl, l, c, hr, h3⟩ | ⟨_, _, h, _⟩
  · rcases h3 with ⟨rfl, _, rfl⟩ | ⟨_, h, _⟩
    · have hmf := cnf_may h2
      have hmem : ∀ x, x ∈ closeK a l l.length ↔ x ∈ a ∨ x ∈ l.map (·.1) := fun x => by rw [closeK_mem, List.take_of_length_le (by simp)]
      have hcl := run_closed hr rfl _ hmem
      have hmx := closeK_may hr hmf h1 _ (Nat.le_refl _)
      refine ⟨rfl, h1, hmx, fun y hy => (hmem y).2 (.inl hy), fun u hu => ?_, ?_⟩
      · rw [under_is hmx h2] at hu
        obtain ⟨r, hr1, rfl⟩ := List.mem_map.1 hu
        obtain ⟨hrf, hj⟩ := List.mem_filter.1 hr1
        have hj' : judgeL 1 2 (closeK a l l.length) r ≠ 1 := by simpa using hj
        have hn := hcl r hrf
        rw [restL_open hmx (hmf r hrf)]
        by_cases h : 2 ≤ (openL (closeK a l l.length) r).length
        · exact h
        · exact absurd ⟨fun y hy hyx => hj' ((judge_true hmx (hmf r hrf)).2 ⟨y, hy, hyx⟩), by omega⟩ hn
      · refine .inl ⟨hmx, h2, rfl, [], -1, .done fun i hi => ?_, .inl ⟨rfl, rfl, rfl⟩⟩
        exact hcl _ (rows_getD_mem hi)
    · cases h
  · cases h

end Go.Proofs.YtmhjpbhldaagmaaDoor

/- Sub and Strike are those of the reference. -/
namespace Go.Proofs.YtmhjpbhldaagmaaDoor
open Go.RowKit
set_option linter.unusedVariables false

theorem drop_may {q : Int} {m : List Int} (f : Int → Bool) (h : mayFrom q m = true) : mayFrom q (m.dropWhile f) = true := by
  induction m generalizing q with
  | nil => exact h
  | cons y r ih =>
    obtain ⟨h1, h2⟩ := mayFrom_tail h
    rw [List.dropWhile_cons]
    split
    · exact mayFrom_weak (ih h2) (by omega)
    · exact h
theorem drop_keep {m : List Int} {x z : Int} (hz : z ∈ m) (h : varOf x ≤ varOf z) : z ∈ m.dropWhile (lessV x) := by
  induction m with
  | nil => exact hz
  | cons y r ih =>
    rw [List.dropWhile_cons]
    split
    · rename_i hy
      rcases List.mem_cons.1 hz with e | hz'
      · unfold lessV at hy; rw [← e] at hy; simp at hy; omega
      · exact ih hz'
    · exact hz
theorem drop_sub {m : List Int} {f : Int → Bool} {z : Int} (hz : z ∈ m.dropWhile f) : z ∈ m := (List.dropWhile_sublist f).mem hz
theorem drop_head {m : List Int} {x y : Int} {t : List Int} (h : m.dropWhile (lessV x) = y :: t) : ¬ varOf y < varOf x := by
  induction m with
  | nil => cases h
  | cons z r ih =>
    rw [List.dropWhile_cons] at h
    split at h
    · exact ih h
    · rename_i hz
      injection h with h1 h2
      rw [← h1]
      unfold lessV at hz; simpa using hz
/-- Where x's variable stands in m: nowhere, or at the head of what is left. -/
theorem drop_cases {q : Int} {m : List Int} (h : mayFrom q m = true) (x : Int) :
    (m.dropWhile (lessV x) = [] ∧ ∀ z ∈ m, varOf z ≠ varOf x) ∨ ∃ y t, m.dropWhile (lessV x) = y :: t ∧ ((varOf y ≠ varOf x ∧ ∀ z ∈ m, varOf z ≠ varOf x) ∨ (varOf y = varOf x ∧ y ∈ m)) := by
  cases hd : m.dropWhile (lessV x) with
  | nil =>
    refine .inl ⟨rfl, fun z hz e => ?_⟩
    have := drop_keep (x := x) hz (by omega)
    rw [hd] at this
    cases this
  | cons y t =>
    refine .inr ⟨y, t, rfl, ?_⟩
    have hh := drop_head hd
    have hm := drop_may (lessV x) h
    rw [hd] at hm
    have hlow := mayFrom_low (mayFrom_tail hm).2
    by_cases e : varOf y = varOf x
    · exact .inr ⟨e, drop_sub (f := lessV x) (by rw [hd]; simp)⟩
    · refine .inl ⟨e, fun z hz e2 => ?_⟩
      have hz' := drop_keep (x := x) hz (by omega)
      rw [hd] at hz'
      rcases List.mem_cons.1 hz' with e3 | hz'
      · rw [e3] at e2; exact e e2
      · have := hlow z hz'; omega
/-- What comes behind x is in m if it is in what is left. -/
theorem drop_rest {m : List Int} {x y : Int} {r t : List Int} (hd : m.dropWhile (lessV x) = y :: t) (hr : mayFrom (varOf x) r = true) : ∀ z ∈ r, (z ∈ m ↔ z ∈ y :: t) := fun z hz => by
  have := mayFrom_low hr z hz
  rw [← hd]
  exact ⟨fun h => drop_keep h (by omega), drop_sub⟩

theorem paired_all {fit : Int → Int → Int → Bool × Int} {s : Int} (hfit : ∀ x y, fit s x y = (decide (x = y), s)) (l : List Int) : ∀ (m : List Int) (p q : Int), mayFrom p l = true → mayFrom q m = true → 0 ≤ p →
    pairedL fit s l m = (decide (∀ x ∈ l, x ∈ m), s) := by
  induction l with
  | nil => intro m p q _ _ _; rw [pairedL]; simp
  | cons x r ih =>
    intro m p q hl hm hp
    obtain ⟨h1, h2⟩ := mayFrom_tail hl
    have hno : (∀ z ∈ m, varOf z ≠ varOf x) → decide (∀ z ∈ x :: r, z ∈ m) = false := fun h => by
      rw [decide_eq_false_iff_not]
      intro k
      exact h x (k x (by simp)) rfl
    rcases drop_cases hm x with ⟨hd, hn⟩ | ⟨y, t, hd, ⟨hne, hn⟩ | ⟨he, hy⟩⟩
    · rw [pairedL_nil hd, hno hn]
    · rw [pairedL_ne hd hne, hno hn]
    · by_cases hxy : x = y
      · have hf : (fit s x y).1 = true := by rw [hfit]; simp [hxy]
        have hm2 := drop_may (lessV x) hm
        rw [hd] at hm2
        rw [pairedL_yes hd he hf, hfit, ih (y :: t) (varOf x) q h2 hm2 (varOf_bd x).1]
        congr 1
        apply decide_eq_decide.2
        have hrest := drop_rest hd h2
        constructor
        · intro k z hz
          rcases List.mem_cons.1 hz with e | hz
          · rw [e, hxy]; exact hy
          · exact (hrest z hz).2 (k z hz)
        · intro k z hz
          exact (hrest z hz).1 (k z (List.mem_cons_of_mem _ hz))
      · have hf : (fit s x y).1 = false := by rw [hfit]; simp [hxy]
        rw [pairedL_no hd he hf, hfit]
        congr 1
        rw [eq_comm, decide_eq_false_iff_not]
        intro k
        exact hxy (mayFrom_once hm x (k x (by simp)) y hy he.symm)

theorem subL_eq (a b : List Int) : subL a b = subR a b := by
  unfold subL subR allIn
  by_cases h : (mayB a && mayB b) = true
  · rw [h]
    rw [Bool.and_eq_true] at h
    rw [paired_all (fit := fitS) (s := 0) (fun x y => rfl) a b 0 0 h.1 h.2 (Int.le_refl _)]
  · have h' : (mayB a && mayB b) = false := by simpa using h
    rw [h']; rfl

/-- y can be struck: -y is in l, and what else is in l is in m. -/
def Str (l m : List Int) (y : Int) : Prop := y ∈ m ∧ -y ∈ l ∧ ∀ x ∈ l, varOf x ≠ varOf y → x ∈ m

theorem paired_str (l : List Int) : ∀ (m : List Int) (p q : Int), mayFrom p l = true → mayFrom q m = true → 0 ≤ p → 0 ≤ q →
    ((∀ x ∈ l, x ∈ m) → pairedL fitK 0 l m = (true, 0)) ∧ (∀ y, Str l m y → pairedL fitK 0 l m = (true, y)) ∧
    ((pairedL fitK 0 l m).1 = true → (pairedL fitK 0 l m).2 = 0 ∨ Str l m (pairedL fitK 0 l m).2) := by
  induction l with
  | nil =>
    intro m p q _ _ _ _
    refine ⟨fun _ => by rw [pairedL], fun y h => ?_, fun _ => .inl (by rw [pairedL])⟩
    cases h.2.1
  | cons x r ih =>
    intro m p q hl hm hp hq
    obtain ⟨h1, h2⟩ := mayFrom_tail hl
    have hlow := mayFrom_low h2
    have hmlow := mayFrom_low hm
    have hno : (∀ z ∈ m, varOf z ≠ varOf x) → ¬ (∀ z ∈ x :: r, z ∈ m) ∧ ∀ y, ¬ Str (x :: r) m y := fun h => by
      refine ⟨fun k => h x (k x (by simp)) rfl, fun y k => ?_⟩
      by_cases e : varOf x = varOf y
      · exact h y k.1 e.symm
      · exact h x (k.2.2 x (by simp) e) rfl
    rcases drop_cases hm x with ⟨hd, hn⟩ | ⟨y, t, hd, ⟨hne, hn⟩ | ⟨he, hy⟩⟩
    · obtain ⟨k1, k2⟩ := hno hn
      rw [pairedL_nil hd]
      exact ⟨fun h => absurd h k1, fun y h => absurd h (k2 y), fun h => by cases h⟩
    · obtain ⟨k1, k2⟩ := hno hn
      rw [pairedL_ne hd hne]
      exact ⟨fun h => absurd h k1, fun y h => absurd h (k2 y), fun h => by cases h⟩
    · have hm2 := drop_may (lessV x) hm
      rw [hd] at hm2
      have hrest := drop_rest hd h2
      by_cases hxy : x = y
      · have hf : (fitK 0 x y) = (true, 0) := by unfold fitK; rw [if_pos hxy]
        rw [pairedL_yes hd he (by rw [hf]), hf]
        obtain ⟨i1, i2, i3⟩ := ih (y :: t) (varOf x) q h2 hm2 (varOf_bd x).1 hq
        have hxm : x ∈ m := by rw [hxy]; exact hy
        have hstr : ∀ z, Str (x :: r) m z ↔ Str r (y :: t) z := fun z => by
          constructor
          · rintro ⟨a1, a2, a3⟩
            have hzr : -z ∈ r := by
              rcases List.mem_cons.1 a2 with e | h
              · have e2 : varOf z = varOf x := by rw [← e, varOf_neg']
                have e3 := mayFrom_once hm z a1 x hxm e2
                have h0 := hmlow x hxm
                rw [e3] at e
                have : x = 0 := by omega
                rw [this] at h0
                simp [varOf] at h0
                omega
              · exact h
            refine ⟨?_, hzr, fun u hu hne => (hrest u hu).1 (a3 u (List.mem_cons_of_mem _ hu) hne)⟩
            rw [← hd]
            refine drop_keep a1 ?_
            have := hlow (-z) hzr
            rw [varOf_neg'] at this
            omega
          · rintro ⟨a1, a2, a3⟩
            refine ⟨drop_sub (f := lessV x) (by rw [hd]; exact a1), List.mem_cons_of_mem _ a2, fun u hu hne => ?_⟩
            rcases List.mem_cons.1 hu with e | hu
            · rw [e]; exact hxm
            · exact (hrest u hu).2 (a3 u hu hne)
        refine ⟨fun k => i1 (fun z hz => (hrest z hz).1 (k z (List.mem_cons_of_mem _ hz))), fun z k => i2 z ((hstr z).1 k), fun k => (i3 k).imp id (hstr _).2⟩
      · have hf : (fitK 0 x y) = (true, y) := by unfold fitK; rw [if_neg hxy, if_neg (by simp)]
        have hyl := hmlow y hy
        have hy0 : y ≠ 0 := by intro e; rw [e] at hyl; simp [varOf] at hyl; omega
        have hyx : x = -y := by
          rcases varOf_eq he (by omega) with h | h
          · exact absurd h hxy
          · exact h
        rw [pairedL_yes hd he (by rw [hf]), hf]
        have hall : pairedL fitK y r (y :: t) = (decide (∀ z ∈ r, z ∈ y :: t), y) := paired_all (fit := fitK) (s := y) (fun u v => by unfold fitK; by_cases e : u = v <;> simp [e, hy0]) r (y :: t) (varOf x) q h2 hm2 (varOf_bd x).1
        rw [hall]
        have hxm : x ∉ m := fun h => hxy (mayFrom_once hm x h y hy he.symm)
        refine ⟨fun k => absurd (k x (by simp)) hxm, fun z k => ?_, fun k => .inr ⟨hy, by rw [hyx]; simp, fun u hu hne => ?_⟩⟩
        · have ez : z = y := by
            by_cases e : varOf x = varOf z
            · exact mayFrom_once hm z k.1 y hy (by rw [← e, he])
            · exact absurd (k.2.2 x (by simp) e) hxm
          subst ez
          congr 1
          rw [decide_eq_true_eq]
          intro u hu
          exact (hrest u hu).1 (k.2.2 u (List.mem_cons_of_mem _ hu) (by have := hlow u hu; omega))
        · have k' : ∀ z ∈ r, z ∈ y :: t := by simpa using k
          rcases List.mem_cons.1 hu with e | hu
          · rw [e] at hne; exact absurd he.symm hne
          · exact (hrest u hu).2 (k' u hu)

theorem strk_iff {a b : List Int} (ha : mayB a = true) (hb : mayB b = true) {y : Int} (hy : y ∈ b) : strkB a b y = true ↔ Str a b y := by
  unfold strkB subR allIn memB Str
  rw [may_without, hb]
  simp only [Bool.and_self, Bool.true_and, Bool.and_eq_true, decide_eq_true_eq]
  constructor
  · rintro ⟨h1, h2⟩
    exact ⟨hy, h1, fun x hx hne => h2 x ((mem_without ha _ _).2 ⟨hx, hne⟩)⟩
  · rintro ⟨_, h1, h2⟩
    refine ⟨h1, fun x hx => ?_⟩
    have := (mem_without ha _ _).1 hx
    exact h2 x this.1 this.2

theorem strikeL_eq (a b : List Int) : strikeL a b = strikeR a b := by
  unfold strikeL strikeR
  by_cases h : (mayB a && mayB b) = true
  · rw [if_pos h, if_pos h]
    rw [Bool.and_eq_true] at h
    obtain ⟨ha, hb⟩ := h
    obtain ⟨i1, i2, i3⟩ := paired_str a b 0 0 ha hb (Int.le_refl _) (Int.le_refl _)
    cases hf : b.find? (strkB a b) with
    | none =>
      rw [List.find?_eq_none] at hf
      show _ = 0
      by_cases hp : (pairedL fitK 0 a b).1 = true
      · rw [if_pos hp]
        rcases i3 hp with h | h
        · exact h
        · exact absurd ((strk_iff ha hb h.1).2 h) (hf _ h.1)
      · rw [if_neg hp]
    | some y =>
      have hy := List.mem_of_find?_eq_some hf
      have hs := (strk_iff ha hb hy).1 (List.find?_some hf)
      rw [i2 y hs]
      rfl
  · rw [if_neg h, if_neg h]

end Go.Proofs.YtmhjpbhldaagmaaDoor

/- What unit propagation finds follows, step by step: reckoned. -/
namespace Go.Proofs.YtmhjpbhldaagmaaDoor
open Go.RowKit
set_option linter.unusedVariables false

theorem mem_three {S H L : List Int} {x : Int} (hS : ∀ z, z ∈ S ↔ z ∈ H ∨ z ∈ x :: L) : ∀ z, z ∈ S ↔ z ∈ x :: H ∨ z ∈ L := fun z => by
  rw [hS, List.mem_cons, List.mem_cons]
  constructor
  · rintro (h | h | h)
    · exact .inl (.inr h)
    · exact .inl (.inl h)
    · exact .inr h
  · rintro ((h | h) | h)
    · exact .inr (.inl h)
    · exact .inl h
    · exact .inr (.inr h)
theorem run_at {f : List (List Int)} {H : List Int} {l : List (Int × Nat)} {c : Int} (h : Run f H l c) :
    ∀ j, j < l.length → ∀ S, (∀ x, x ∈ S ↔ x ∈ H ∨ x ∈ (l.map (·.1)).take j) → firstC f S (l.getD j (0, 0)).2 ∧ openL S (f.getD (l.getD j (0, 0)).2 []) = [(l.getD j (0, 0)).1] := by
  induction h with
  | done _ => intro j hj; exact absurd hj (Nat.not_lt_zero _)
  | conf _ _ => intro j hj; exact absurd hj (Nat.not_lt_zero _)
  | @step H i x l c h1 h2 _ ih =>
    intro j hj S hS
    cases j with
    | zero =>
      have e : ∀ x, x ∈ S ↔ x ∈ H := fun x => by rw [hS]; simp
      simp only [List.getD_cons_zero]
      exact ⟨(firstC_same e).2 h1, by rw [openL_same e]; exact h2⟩
    | succ j =>
      simp only [List.getD_cons_succ]
      refine ih j (by simpa using hj) S (mem_three fun z => ?_)
      rw [hS, List.map_cons, List.take_succ_cons]
theorem run_fin {f : List (List Int)} {H : List Int} {l : List (Int × Nat)} {c : Int} (h : Run f H l c) : 0 ≤ c → ∀ S : List Int, (∀ x, x ∈ S ↔ x ∈ H ∨ x ∈ l.map (·.1)) → ∃ i : Nat, c = i ∧ i < f.length ∧ ∀ y ∈ f.getD i [], -y ∈ S := by
  induction h with
  | done _ => intro h; omega
  | @conf H i h1 h2 =>
    intro _ S hS
    have e : ∀ x, x ∈ S ↔ x ∈ H := fun x => by rw [hS]; simp
    refine ⟨i, rfl, h1.1, fun y hy => ?_⟩
    rw [e]
    by_cases hn : -y ∈ H
    · exact hn
    · have : y ∈ openL H (f.getD i []) := mem_openL.2 ⟨hy, h1.2.1.1 y hy, hn⟩
      rw [h2] at this
      cases this
  | @step H i x l c h1 h2 _ ih =>
    intro hc S hS
    refine ih hc S (mem_three fun z => ?_)
    rw [hS, List.map_cons]
theorem judge_false {a r : List Int} (ha : mayB a = true) (hr : mayB r = true) (h : ∀ y ∈ r, -y ∈ a) : judgeL 1 2 a r = 2 := by
  have key : ∀ x ∈ r, valL a x = 2 := fun x hx => by
    rw [valL_norm ha hr hx]
    have h1 := h x hx
    have h2 : x ∉ a := fun h3 => may_cons ha x h3 h1
    unfold valN
    rw [if_neg h2, if_pos h1]
  have e : ∀ t : Int, t ≠ 2 → anyV a r t = false := fun t ht => by
    unfold anyV
    rw [List.any_eq_false]
    intro x hx
    rw [key x hx]
    simp
    exact fun h => ht h.symm
  unfold judgeL
  rw [ha, hr, Bool.and_self, if_pos rfl, e 1 (by decide), e 0 (by decide)]
  rfl
theorem judge_bd (a r : List Int) : judgeL 1 2 a r = 0 ∨ judgeL 1 2 a r = 1 ∨ judgeL 1 2 a r = 2 := by
  unfold judgeL
  split
  · split
    · exact .inr (.inl rfl)
    · split
      · exact .inl rfl
      · exact .inr (.inr rfl)
  · exact .inl rfl
theorem may_take {f : List (List Int)} (h : mayCnfB f = true) (k : Nat) : mayCnfB (f.take k) = true := by
  have h2 := cnf_may h
  have h3 := tot_take_le f k
  unfold mayCnfB at h ⊢
  rw [decide_eq_true_eq] at h ⊢
  exact ⟨by rw [List.length_take]; omega, by omega, fun l hl => h2 l (List.mem_of_mem_take hl)⟩
theorem may_single {f : List (List Int)} (h : mayCnfB f = true) {i : Nat} (hi : i < f.length) : mayCnfB [f.getD i []] = true := by
  have h2 := cnf_may h
  have h3 := tot_take_succ hi
  have h4 := tot_take_le f (i + 1)
  have h5 : tot [f.getD i []] = (f.getD i []).length := by simp [tot]
  unfold mayCnfB at h ⊢
  rw [decide_eq_true_eq] at h ⊢
  refine ⟨by simp, by omega, fun l hl => ?_⟩
  rw [List.mem_singleton] at hl
  rw [hl]
  exact h2 _ (rows_getD_mem hi)
theorem under_one {f : List (List Int)} {S : List Int} {i : Nat} {x : Int} (hS : mayB S = true) (h : mayCnfB f = true) (hi : i < f.length) (h1 : ∀ y ∈ f.getD i [], y ∉ S) (h2 : openL S (f.getD i []) = [x]) : underL S [f.getD i []] = [[x]] := by
  have hm := cnf_may h _ (rows_getD_mem hi)
  rw [under_is hS (may_single h hi)]
  have hj : judgeL 1 2 S (f.getD i []) ≠ 1 := fun e => by
    obtain ⟨y, hy, hyS⟩ := (judge_true hS hm).1 e
    exact h1 y hy hyS
  have hb : (judgeL 1 2 S (f.getD i []) != 1) = true := by simpa using hj
  rw [List.filter_cons, if_pos hb, List.filter_nil, List.map_cons, List.map_nil, restL_open hS hm, h2]
theorem under_before {f : List (List Int)} {S : List Int} {i : Nat} (hS : mayB S = true) (h : mayCnfB f = true) (hi : i ≤ f.length) (hf : ∀ j, j < i → ¬ decC S (f.getD j [])) : ∀ u ∈ underL S (f.take i), 2 ≤ u.length := by
  intro u hu
  have hmf := cnf_may h
  rw [under_is hS (may_take h i)] at hu
  obtain ⟨r, hr1, rfl⟩ := List.mem_map.1 hu
  obtain ⟨hrf, hj⟩ := List.mem_filter.1 hr1
  obtain ⟨j, hj1, rfl⟩ := List.mem_iff_getElem.1 hrf
  have hjl : j < i := by simp at hj1; omega
  have e : (f.take i)[j] = f.getD j [] := by simp [List.getD, show j < f.length by omega]
  rw [e] at hj ⊢
  have hm := hmf _ (rows_getD_mem (show j < f.length by omega))
  have hj' : judgeL 1 2 S (f.getD j []) ≠ 1 := by simpa using hj
  rw [restL_open hS hm]
  by_cases h9 : 2 ≤ (openL S (f.getD j [])).length
  · exact h9
  · exact absurd ⟨fun y hy hyx => hj' ((judge_true hS hm).2 ⟨y, hy, hyx⟩), by omega⟩ (hf j hjl)

theorem der_model {f : List (List Int)} {a P : List Int} (hP : mayB P = true) (ha : ∀ x ∈ a, x ∈ P) (hf : ∀ r ∈ f, ∃ y ∈ r, y ∈ P) {x : Int} (h : Der f a x) : x ∈ P := by
  induction h with
  | base h => exact ha _ h
  | @unit c x h1 h2 _ ih =>
    obtain ⟨y, hy, hyP⟩ := hf c h1
    by_cases e : y = x
    · rw [← e]; exact hyP
    · exact absurd (ih y hy e) (may_cons hP y hyP)
theorem cnf_model {f : List (List Int)} {P : List Int} (h : cnfL P f = 1) : mayB P = true ∧ mayCnfB f = true ∧ ∀ r ∈ f, ∃ y ∈ r, y ∈ P := by
  unfold cnfL at h
  split at h
  · rename_i hm
    rw [Bool.and_eq_true] at hm
    refine ⟨hm.1, hm.2, fun r hr => (judge_true hm.1 (cnf_may hm.2 r hr)).1 ?_⟩
    split at h
    · omega
    · rename_i h2
      split at h
      · omega
      · rename_i h0
        rcases judge_bd P r with e | e | e
        · exact absurd (show anyC P f 0 = true by unfold anyC; rw [List.any_eq_true]; exact ⟨r, hr, by rw [e]; rfl⟩) h0
        · exact e
        · exact absurd (show anyC P f 2 = true by unfold anyC; rw [List.any_eq_true]; exact ⟨r, hr, by rw [e]; rfl⟩) h2
  · omega
theorem subL_true {a x : List Int} (ha : mayB a = true) (hx : mayB x = true) (h : ∀ y ∈ a, y ∈ x) : subL a x = true := by
  rw [subL_eq]
  unfold subR allIn
  rw [ha, hx, Bool.and_self, Bool.true_and, decide_eq_true_eq]
  exact h
theorem subL_of {a x : List Int} (h : subL a x = true) : mayB a = true ∧ mayB x = true ∧ ∀ y ∈ a, y ∈ x := by
  rw [subL_eq] at h
  unfold subR allIn at h
  rw [Bool.and_eq_true, Bool.and_eq_true, decide_eq_true_eq] at h
  exact ⟨h.1.1, h.1.2, h.2⟩
theorem sound_point {f : List (List Int)} {a P : List Int} {l : List (Int × Nat)} {c : Int} (hr : Run f a l c) (hs : subL a P = true) (hc : cnfL P f = 1) : c = -1 ∧ subL (closeK a l l.length) P = true := by
  obtain ⟨h1, h3, h4⟩ := subL_of hs
  obtain ⟨_, h2, h5⟩ := cnf_model hc
  obtain ⟨d1, d2⟩ := run_der (a := a) hr (fun x hx => .base hx)
  have hd := fun x (hx : Der f a x) => der_model h3 h4 h5 hx
  refine ⟨?_, ?_⟩
  · rcases run_c hr with e | e | e
    · exact e
    · exfalso
      obtain ⟨r, hr1, hr2⟩ := d2 e.1
      obtain ⟨y, hy, hyP⟩ := h5 r hr1
      exact may_cons h3 y hyP (hd _ (hr2 y hy))
    · exfalso
      obtain ⟨r, hr1, hr2⟩ := d2 e
      obtain ⟨y, hy, hyP⟩ := h5 r hr1
      exact may_cons h3 y hyP (hd _ (hr2 y hy))
  · refine subL_true (closeK_may hr (cnf_may h2) h1 _ (Nat.le_refl _)) h3 fun y hy => ?_
    rw [closeK_mem, List.take_of_length_le (by simp)] at hy
    rcases hy with hy | hy
    · exact h4 y hy
    · exact hd y (d1 y hy)
/-- The step k of a run: what is known when it is made, the clause, what is left of it and of the clauses before. -/
theorem sound_step {f : List (List Int)} {a : List Int} {l : List (Int × Nat)} {c : Int} (hr : Run f a l c) (h1 : mayB a = true) (h2 : mayCnfB f = true) {k : Nat} (hk : k < l.length) :
    (l.getD k (0, 0)).2 < f.length ∧ underL (closeK a l k) [f.getD (l.getD k (0, 0)).2 []] = [[(l.getD k (0, 0)).1]] ∧ (∀ u ∈ underL (closeK a l k) (f.take (l.getD k (0, 0)).2), 2 ≤ u.length) ∧
      joinR (closeK a l k) [(l.getD k (0, 0)).1] = (closeK a l (k + 1), 0) := by
  have hmf := cnf_may h2
  have hmk := closeK_may hr hmf h1 k (by omega)
  obtain ⟨g1, g2⟩ := run_at hr k hk (closeK a l k) (closeK_mem a l k)
  exact ⟨g1.1, under_one hmk h2 g1.1 g1.2.1.1 g2, under_before hmk h2 (Nat.le_of_lt g1.1) g1.2.2, (closeK_step hr hmf h1 hmk hk).1⟩
theorem sound_conf {f : List (List Int)} {a : List Int} {l : List (Int × Nat)} {c : Int} (hr : Run f a l c) (h1 : mayB a = true) (h2 : mayCnfB f = true) : c = -1 ∨ ∃ i : Nat, c = i ∧ i < f.length ∧ judgeL 1 2 (closeK a l l.length) (f.getD i []) = 2 := by
  have hmf := cnf_may h2
  have key : 0 ≤ c → ∃ i : Nat, c = i ∧ i < f.length ∧ judgeL 1 2 (closeK a l l.length) (f.getD i []) = 2 := fun hc => by
    obtain ⟨i, e, hi, h⟩ := run_fin hr hc (closeK a l l.length) fun x => by rw [closeK_mem, List.take_of_length_le (by simp)]
    exact ⟨i, e, hi, judge_false (closeK_may hr hmf h1 _ (Nat.le_refl _)) (hmf _ (rows_getD_mem hi)) h⟩
  rcases run_c hr with e | e | e
  · exact .inl e
  · exact .inr (key e.1)
  · exact .inr (key e)

end Go.Proofs.YtmhjpbhldaagmaaDoor
