/- Sub and Strike are those of the reference. -/
import Derived.Test.YtnedpngadfkmiaaDoorPureRes
import Derived.Test.YtnedpngadfkmiaaDoorSub
import Derived.Test.YtnedpngadfkmiaaDoorStrikeR
namespace Go.Proofs.YtnedpngadfkmiaaDoor
open Go.RowKit
set_option linter.unusedVariables false

theorem drop_may {q : Int} {m : List Int} (f : Int → Bool) (h : mayFrom q m = true) : mayFrom q (m.dropWhile f) = true := by
  induction m generalizing q with
  | nil => exact h
  | cons y r ih =>
    obtain ⟨h1, h2⟩ := mayFrom_tail h
    rw [List.dropWhile_cons]
    split
    · exact mayFrom_weak (ih h2) (by omega)
    · exact h
theorem drop_keep {m : List Int} {x z : Int} (hz : z ∈ m) (h : varOf x ≤ varOf z) : z ∈ m.dropWhile (lessV x) := by
  induction m with
  | nil => exact hz
  | cons y r ih =>
    rw [List.dropWhile_cons]
    split
    · rename_i hy
      rcases List.mem_cons.1 hz with e | hz'
      · unfold lessV at hy; rw [← e] at hy; simp at hy; omega
      · exact ih hz'
    · exact hz
theorem drop_sub {m : List Int} {f : Int → Bool} {z : Int} (hz : z ∈ m.dropWhile f) : z ∈ m := (List.dropWhile_sublist f).mem hz
theorem drop_head {m : List Int} {x y : Int} {t : List Int} (h : m.dropWhile (lessV x) = y :: t) : ¬ varOf y < varOf x := by
  induction m with
  | nil => cases h
  | cons z r ih =>
    rw [List.dropWhile_cons] at h
    split at h
    · exact ih h
    · rename_i hz
      injection h with h1 h2
      rw [← h1]
      unfold lessV at hz; simpa using hz
/-- Where x's variable stands in m: nowhere, or at the head of what is left. -/
theorem drop_cases {q : Int} {m : List Int} (h : mayFrom q m = true) (x : Int) :
    (m.dropWhile (lessV x) = [] ∧ ∀ z ∈ m, varOf z ≠ varOf x) ∨ ∃ y t, m.dropWhile (lessV x) = y :: t ∧ ((varOf y ≠ varOf x ∧ ∀ z ∈ m, varOf z ≠ varOf x) ∨ (varOf y = varOf x ∧ y ∈ m)) := by
  cases hd : m.dropWhile (lessV x) with
  | nil =>
    refine .inl ⟨rfl, fun z hz e => ?_⟩
    have := drop_keep (x := x) hz (by omega)
    rw [hd] at this
    cases this
  | cons y t =>
    refine .inr ⟨y, t, rfl, ?_⟩
    have hh := drop_head hd
    have hm := drop_may (lessV x) h
    rw [hd] at hm
    have hlow := mayFrom_low (mayFrom_tail hm).2
    by_cases e : varOf y = varOf x
    · exact .inr ⟨e, drop_sub (f := lessV x) (by rw [hd]; simp)⟩
    · refine .inl ⟨e, fun z hz e2 => ?_⟩
      have hz' := drop_keep (x := x) hz (by omega)
      rw [hd] at hz'
      rcases List.mem_cons.1 hz' with e3 | hz'
      · rw [e3] at e2; exact e e2
      · have := hlow z hz'; omega
/-- What comes behind x is in m if it is in what is left. -/
theorem drop_rest {m : List Int} {x y : Int} {r t : List Int} (hd : m.dropWhile (lessV x) = y :: t) (hr : mayFrom (varOf x) r = true) : ∀ z ∈ r, (z ∈ m ↔ z ∈ y :: t) := fun z hz => by
  have := mayFrom_low hr z hz
  rw [← hd]
  exact ⟨fun h => drop_keep h (by omega), drop_sub⟩

theorem paired_all {fit : Int → Int → Int → Bool × Int} {s : Int} (hfit : ∀ x y, fit s x y = (decide (x = y), s)) (l : List Int) : ∀ (m : List Int) (p q : Int), mayFrom p l = true → mayFrom q m = true → 0 ≤ p →
    pairedL fit s l m = (decide (∀ x ∈ l, x ∈ m), s) := by
  induction l with
  | nil => intro m p q _ _ _; rw [pairedL]; simp
  | cons x r ih =>
    intro m p q hl hm hp
    obtain ⟨h1, h2⟩ := mayFrom_tail hl
    have hno : (∀ z ∈ m, varOf z ≠ varOf x) → decide (∀ z ∈ x :: r, z ∈ m) = false := fun h => by
      rw [decide_eq_false_iff_not]
      intro k
      exact h x (k x (by simp)) rfl
    rcases drop_cases hm x with ⟨hd, hn⟩ | ⟨y, t, hd, ⟨hne, hn⟩ | ⟨he, hy⟩⟩
    · rw [pairedL_nil hd, hno hn]
    · rw [pairedL_ne hd hne, hno hn]
    · by_cases hxy : x = y
      · have hf : (fit s x y).1 = true := by rw [hfit]; simp [hxy]
        have hm2 := drop_may (lessV x) hm
        rw [hd] at hm2
        rw [pairedL_yes hd he hf, hfit, ih (y :: t) (varOf x) q h2 hm2 (varOf_bd x).1]
        congr 1
        apply decide_eq_decide.2
        have hrest := drop_rest hd h2
        constructor
        · intro k z hz
          rcases List.mem_cons.1 hz with e | hz
          · rw [e, hxy]; exact hy
          · exact (hrest z hz).2 (k z hz)
        · intro k z hz
          exact (hrest z hz).1 (k z (List.mem_cons_of_mem _ hz))
      · have hf : (fit s x y).1 = false := by rw [hfit]; simp [hxy]
        rw [pairedL_no hd he hf, hfit]
        congr 1
        rw [eq_comm, decide_eq_false_iff_not]
        intro k
        exact hxy (mayFrom_once hm x (k x (by simp)) y hy he.symm)

theorem subL_eq (a b : List Int) : subL a b = subR a b := by
  unfold subL subR allIn
  by_cases h : (mayB a && mayB b) = true
  · rw [h]
    rw [Bool.and_eq_true] at h
    rw [paired_all (fit := fitS) (s := 0) (fun x y => rfl) a b 0 0 h.1 h.2 (Int.le_refl _)]
  · have h' : (mayB a && mayB b) = false := by simpa using h
    rw [h']; rfl

/-- y can be struck: -y is in l, and what else is in l is in m. -/
def Str (l m : List Int) (y : Int) : Prop := y ∈ m ∧ -y ∈ l ∧ ∀ x ∈ l, varOf x ≠ varOf y → x ∈ m

theorem paired_str (l : List Int) : ∀ (m : List Int) (p q : Int), mayFrom p l = true → mayFrom q m = true → 0 ≤ p → 0 ≤ q →
    ((∀ x ∈ l, x ∈ m) → pairedL fitK 0 l m = (true, 0)) ∧ (∀ y, Str l m y → pairedL fitK 0 l m = (true, y)) ∧
    ((pairedL fitK 0 l m).1 = true → (pairedL fitK 0 l m).2 = 0 ∨ Str l m (pairedL fitK 0 l m).2) := by
  induction l with
  | nil =>
    intro m p q _ _ _ _
    refine ⟨fun _ => by rw [pairedL], fun y h => ?_, fun _ => .inl (by rw [pairedL])⟩
    cases h.2.1
  | cons x r ih =>
    intro m p q hl hm hp hq
    obtain ⟨h1, h2⟩ := mayFrom_tail hl
    have hlow := mayFrom_low h2
    have hmlow := mayFrom_low hm
    have hno : (∀ z ∈ m, varOf z ≠ varOf x) → ¬ (∀ z ∈ x :: r, z ∈ m) ∧ ∀ y, ¬ Str (x :: r) m y := fun h => by
      refine ⟨fun k => h x (k x (by simp)) rfl, fun y k => ?_⟩
      by_cases e : varOf x = varOf y
      · exact h y k.1 e.symm
      · exact h x (k.2.2 x (by simp) e) rfl
    rcases drop_cases hm x with ⟨hd, hn⟩ | ⟨y, t, hd, ⟨hne, hn⟩ | ⟨he, hy⟩⟩
    · obtain ⟨k1, k2⟩ := hno hn
      rw [pairedL_nil hd]
      exact ⟨fun h => absurd h k1, fun y h => absurd h (k2 y), fun h => by cases h⟩
    · obtain ⟨k1, k2⟩ := hno hn
      rw [pairedL_ne hd hne]
      exact ⟨fun h => absurd h k1, fun y h => absurd h (k2 y), fun h => by cases h⟩
    · have hm2 := drop_may (lessV x) hm
      rw [hd] at hm2
      have hrest := drop_rest hd h2
      by_cases hxy : x = y
      · have hf : (fitK 0 x y) = (true, 0) := by unfold fitK; rw [if_pos hxy]
        rw [pairedL_yes hd he (by rw [hf]), hf]
        obtain ⟨i1, i2, i3⟩ := ih (y :: t) (varOf x) q h2 hm2 (varOf_bd x).1 hq
        have hxm : x ∈ m := by rw [hxy]; exact hy
        have hstr : ∀ z, Str (x :: r) m z ↔ Str r (y :: t) z := fun z => by
          constructor
          · rintro ⟨a1, a2, a3⟩
            have hzr : -z ∈ r := by
              rcases List.mem_cons.1 a2 with e | h
              · have e2 : varOf z = varOf x := by rw [← e, varOf_neg']
                have e3 := mayFrom_once hm z a1 x hxm e2
                have h0 := hmlow x hxm
                rw [e3] at e
                have : x = 0 := by omega
                rw [this] at h0
                simp [varOf] at h0
                omega
              · exact h
            refine ⟨?_, hzr, fun u hu hne => (hrest u hu).1 (a3 u (List.mem_cons_of_mem _ hu) hne)⟩
            rw [← hd]
            refine drop_keep a1 ?_
            have := hlow (-z) hzr
            rw [varOf_neg'] at this
            omega
          · rintro ⟨a1, a2, a3⟩
            refine ⟨drop_sub (f := lessV x) (by rw [hd]; exact a1), List.mem_cons_of_mem _ a2, fun u hu hne => ?_⟩
            rcases List.mem_cons.1 hu with e | hu
            · rw [e]; exact hxm
            · exact (hrest u hu).2 (a3 u hu hne)
        refine ⟨fun k => i1 (fun z hz => (hrest z hz).1 (k z (List.mem_cons_of_mem _ hz))), fun z k => i2 z ((hstr z).1 k), fun k => (i3 k).imp id (hstr _).2⟩
      · have hf : (fitK 0 x y) = (true, y) := by unfold fitK; rw [if_neg hxy, if_neg (by simp)]
        have hyl := hmlow y hy
        have hy0 : y ≠ 0 := by intro e; rw [e] at hyl; simp [varOf] at hyl; omega
        have hyx : x = -y := by
          rcases varOf_eq he (by omega) with h | h
          · exact absurd h hxy
          · exact h
        rw [pairedL_yes hd he (by rw [hf]), hf]
        have hall : pairedL fitK y r (y :: t) = (decide (∀ z ∈ r, z ∈ y :: t), y) := paired_all (fit := fitK) (s := y) (fun u v => by unfold fitK; by_cases e : u = v <;> simp [e, hy0]) r (y :: t) (varOf x) q h2 hm2 (varOf_bd x).1
        rw [hall]
        have hxm : x ∉ m := fun h => hxy (mayFrom_once hm x h y hy he.symm)
        refine ⟨fun k => absurd (k x (by simp)) hxm, fun z k => ?_, fun k => .inr ⟨hy, by rw [hyx]; simp, fun u hu hne => ?_⟩⟩
        · have ez : z = y := by
            by_cases e : varOf x = varOf z
            · exact mayFrom_once hm z k.1 y hy (by rw [← e, he])
            · exact absurd (k.2.2 x (by simp) e) hxm
          subst ez
          congr 1
          rw [decide_eq_true_eq]
          intro u hu
          exact (hrest u hu).1 (k.2.2 u (List.mem_cons_of_mem _ hu) (by have := hlow u hu; omega))
        · have k' : ∀ z ∈ r, z ∈ y :: t := by simpa using k
          rcases List.mem_cons.1 hu with e | hu
          · rw [e] at hne; exact absurd he.symm hne
          · exact (hrest u hu).2 (k' u hu)

theorem strk_iff {a b : List Int} (ha : mayB a = true) (hb : mayB b = true) {y : Int} (hy : y ∈ b) : strkB a b y = true ↔ Str a b y := by
  unfold strkB subR allIn memB Str
  rw [may_without, hb]
  simp only [Bool.and_self, Bool.true_and, Bool.and_eq_true, decide_eq_true_eq]
  constructor
  · rintro ⟨h1, h2⟩
    exact ⟨hy, h1, fun x hx hne => h2 x ((mem_without ha _ _).2 ⟨hx, hne⟩)⟩
  · rintro ⟨_, h1, h2⟩
    refine ⟨h1, fun x hx => ?_⟩
    have := (mem_without ha _ _).1 hx
    exact h2 x this.1 this.2

theorem strikeL_eq (a b : List Int) : strikeL a b = strikeR a b := by
  unfold strikeL strikeR
  by_cases h : (mayB a && mayB b) = true
  · rw [if_pos h, if_pos h]
    rw [Bool.and_eq_true] at h
    obtain ⟨ha, hb⟩ := h
    obtain ⟨i1, i2, i3⟩ := paired_str a b 0 0 ha hb (Int.le_refl _) (Int.le_refl _)
    cases hf : b.find? (strkB a b) with
    | none =>
      rw [List.find?_eq_none] at hf
      show _ = 0
      by_cases hp : (pairedL fitK 0 a b).1 = true
      · rw [if_pos hp]
        rcases i3 hp with h | h
        · exact h
        · exact absurd ((strk_iff ha hb h.1).2 h) (hf _ h.1)
      · rw [if_neg hp]
    | some y =>
      have hy := List.mem_of_find?_eq_some hf
      have hs := (strk_iff ha hb hy).1 (List.find?_some hf)
      rw [i2 y hs]
      rfl
  · rw [if_neg h, if_neg h]

end Go.Proofs.YtnedpngadfkmiaaDoor
