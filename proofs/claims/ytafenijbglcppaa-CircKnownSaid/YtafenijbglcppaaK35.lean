/- Joined texts: HeapP, CxPOrd, CxHpW, CxHpM, CxHpU, CxHpD, CxHpO, CxHpQ, CxHpR. -/
import Derived.Test.YtafenijbglcppaaK19
import Derived.Test.YtafenijbglcppaaK02
import Derived.Test.YtafenijbglcppaaK01
import Derived.RegionTactic
import Derived.ChangeAlike
import Derived.BigRegion
import Derived.Deep.RegionLaw
/- A heap of integers in a list: what exchanging two of them does. -/
namespace Go.Proofs.Ytafenijbglcppaa
set_option linter.unusedVariables false

def swp (l : List Int) (i j : Nat) : List Int := (l.set i (l.getD j 0)).set j (l.getD i 0)
/-- Of the first n, no one is less than the one above it. -/
def hp (l : List Int) (n : Nat) : Prop := ∀ k, 0 < k → k < n → l.getD ((k - 1) / 2) 0 ≤ l.getD k 0
/-- .. but perhaps the one at j. -/
def hpU (l : List Int) (n j : Nat) : Prop :=
  (∀ k, 0 < k → k < n → k ≠ j → l.getD ((k - 1) / 2) 0 ≤ l.getD k 0) ∧ ∀ k, 0 < k → k < n → (k - 1) / 2 = j → 0 < j → l.getD ((j - 1) / 2) 0 ≤ l.getD k 0
/-- .. but perhaps those below the one at i. -/
def hpD (l : List Int) (n i : Nat) : Prop :=
  (∀ k, 0 < k → k < n → (k - 1) / 2 ≠ i → l.getD ((k - 1) / 2) 0 ≤ l.getD k 0) ∧ ∀ k, 0 < k → k < n → (k - 1) / 2 = i → 0 < i → l.getD ((i - 1) / 2) 0 ≤ l.getD k 0
def inN (l : List Int) (n : Nat) (x : Int) : Prop := ∃ k, k < n ∧ l.getD k 0 = x

theorem getD_set (l : List Int) (i k : Nat) (x : Int) (hi : i < l.length) : (l.set i x).getD k 0 = if k = i then x else l.getD k 0 := by
  simp only [List.getD_eq_getElem?_getD, List.getElem?_set]
  by_cases h : i = k
  · subst h; simp [hi]
  · rw [if_neg h, if_neg (fun e => h e.symm)]
theorem swp_len (l : List Int) (i j : Nat) : (swp l i j).length = l.length := by simp [swp]
theorem swp_at (l : List Int) (i j k : Nat) (hi : i < l.length) (hj : j < l.length) : (swp l i j).getD k 0 = if k = j then l.getD i 0 else if k = i then l.getD j 0 else l.getD k 0 := by
  unfold swp
  rw [getD_set _ _ _ _ (by simpa using hj)]
  by_cases h : k = j
  · rw [if_pos h, if_pos h]
  · rw [if_neg h, if_neg h, getD_set _ _ _ _ hi]
theorem swp_in (l : List Int) (i j n : Nat) (x : Int) (hi : i < n) (hj : j < n) (hn : n ≤ l.length) : inN (swp l i j) n x ↔ inN l n x := by
  constructor
  · rintro ⟨k, hk, e⟩
    rw [swp_at _ _ _ _ (by omega) (by omega)] at e
    by_cases h1 : k = j
    · rw [if_pos h1] at e; exact ⟨i, hi, e⟩
    · rw [if_neg h1] at e
      by_cases h2 : k = i
      · rw [if_pos h2] at e; exact ⟨j, hj, e⟩
      · rw [if_neg h2] at e; exact ⟨k, hk, e⟩
  · rintro ⟨k, hk, e⟩
    by_cases h1 : k = j
    · subst h1
      by_cases h2 : i = k
      · subst h2; exact ⟨i, hi, by rw [swp_at _ _ _ _ (by omega) (by omega), if_pos rfl, e]⟩
      · exact ⟨i, hi, by rw [swp_at _ _ _ _ (by omega) (by omega), if_neg h2, if_pos rfl, e]⟩
    · by_cases h2 : k = i
      · subst h2; exact ⟨j, hj, by rw [swp_at _ _ _ _ (by omega) (by omega), if_pos rfl, e]⟩
      · exact ⟨k, hk, by rw [swp_at _ _ _ _ (by omega) (by omega), if_neg h1, if_neg h2, e]⟩
theorem swp_self (l : List Int) (i : Nat) (hi : i < l.length) : ∀ k, (swp l i i).getD k 0 = l.getD k 0 := by
  intro k
  rw [swp_at _ _ _ _ hi hi]
  by_cases h : k = i
  · rw [if_pos h, h]
  · rw [if_neg h, if_neg h]

theorem hp_least {l : List Int} {n : Nat} (h : hp l n) : ∀ k, k < n → l.getD 0 0 ≤ l.getD k 0 := by
  intro k
  induction k using Nat.strongRecOn with
  | ind k ih =>
    intro hk
    by_cases h0 : k = 0
    · rw [h0]; exact Int.le_refl _
    · have h1 := h k (by omega) hk
      have h2 := ih ((k - 1) / 2) (by omega) (by omega)
      omega
theorem up_top {l : List Int} {n : Nat} (h : hpU l n 0) : hp l n := fun k h0 hk => h.1 k h0 hk (by omega)
theorem up_stop {l : List Int} {n j : Nat} (h : hpU l n j) (hj : l.getD ((j - 1) / 2) 0 ≤ l.getD j 0) : hp l n := fun k h0 hk => by
  by_cases e : k = j
  · rw [e]; exact hj
  · exact h.1 k h0 hk e
theorem up_swap {l : List Int} {n j : Nat} (h : hpU l n j) (h0 : 0 < j) (hj : j < n) (hn : n ≤ l.length) (hlt : l.getD j 0 < l.getD ((j - 1) / 2) 0) : hpU (swp l ((j - 1) / 2) j) n ((j - 1) / 2) := by
  obtain ⟨h1, h2⟩ := h
  have sw := fun k => swp_at l ((j - 1) / 2) j k (by omega) (by omega)
  have hij : (j - 1) / 2 < j := by omega
  generalize hi : (j - 1) / 2 = i at *
  refine ⟨fun k k0 kn ki => ?_, fun k k0 kn ki i0 => ?_⟩
  · rw [sw, sw]
    by_cases e1 : k = j
    · subst e1
      rw [if_pos rfl, hi, if_neg (by omega), if_pos rfl]; omega
    · rw [if_neg e1 (α := Int), if_neg ki (α := Int)]
      have := h1 k k0 kn e1
      by_cases e2 : (k - 1) / 2 = j
      · rw [if_pos e2]; exact h2 k k0 kn e2 h0
      · rw [if_neg e2]
        by_cases e3 : (k - 1) / 2 = i
        · rw [if_pos e3]; rw [e3] at this; omega
        · rw [if_neg e3]; exact this
  · rw [sw, sw, if_neg (by omega), if_neg (by omega)]
    have hpi := h1 i i0 (by omega) (by omega)
    by_cases e1 : k = j
    · rw [if_pos e1]; exact hpi
    · rw [if_neg e1, if_neg (by omega)]
      have := h1 k k0 kn e1
      rw [ki] at this
      omega
theorem down_stop {l : List Int} {n i : Nat} (h : hpD l n i) (hc : ∀ k, 0 < k → k < n → (k - 1) / 2 = i → l.getD i 0 ≤ l.getD k 0) : hp l n := fun k h0 hk => by
  by_cases e : (k - 1) / 2 = i
  · rw [e]; exact hc k h0 hk e
  · exact h.1 k h0 hk e
theorem down_swap {l : List Int} {n i j : Nat} (h : hpD l n i) (h0 : 0 < j) (hj : j < n) (hp : (j - 1) / 2 = i) (hn : n ≤ l.length) (hlt : l.getD j 0 < l.getD i 0)
    (hc : ∀ k, 0 < k → k < n → (k - 1) / 2 = i → l.getD j 0 ≤ l.getD k 0) : hpD (swp l i j) n j := by
  obtain ⟨h1, h2⟩ := h
  have sw := fun k => swp_at l i j k (by omega) (by omega)
  refine ⟨fun k k0 kn ki => ?_, fun k k0 kn ki _ => ?_⟩
  · rw [sw, sw, if_neg ki (α := Int)]
    by_cases e1 : (k - 1) / 2 = i
    · rw [if_pos e1]
      have := hc k k0 kn e1
      by_cases e2 : k = j
      · rw [if_pos e2]; omega
      · rw [if_neg e2, if_neg (by omega)]; exact this
    · rw [if_neg e1]
      have e2 : k ≠ j := fun e => e1 (by rw [e]; exact hp)
      rw [if_neg e2]
      by_cases e3 : k = i
      · rw [if_pos e3, e3]; exact h2 j h0 hj hp (by omega)
      · rw [if_neg e3]; exact h1 k k0 kn e1
  · have := h1 k k0 kn (by omega)
    rw [ki] at this
    rw [sw, sw, if_neg (by omega), if_pos hp, if_neg (by omega), if_neg (by omega)]
    exact this
theorem hp_push {l : List Int} (x : Int) (h : hp l l.length) : hpU (l ++ [x]) (l.length + 1) l.length := by
  have ga : ∀ k, k < l.length → (l ++ [x]).getD k 0 = l.getD k 0 := fun k hk => by simp [List.getD, hk, List.getElem?_append]
  refine ⟨fun k k0 kn kl => ?_, fun k k0 kn ki => by omega⟩
  rw [ga _ (by omega), ga _ (by omega)]
  exact h k k0 (by omega)
theorem hp_pop {l : List Int} {n : Nat} (h : hp l (n + 1)) (hn : n < l.length) : hpD (swp l 0 n) n 0 := by
  have sw := fun k => swp_at l 0 n k (by omega) hn
  refine ⟨fun k k0 kn kp => ?_, fun k k0 kn _ h0 => by omega⟩
  rw [sw, sw, if_neg (by omega), if_neg kp (α := Int), if_neg (by omega), if_neg (by omega)]
  exact h k k0 (by omega)

end Go.Proofs.Ytafenijbglcppaa

/- Gates in order: what Order answers, on plain lists. -/
namespace Go.Proofs.Ytafenijbglcppaa
set_option linter.unusedVariables false
set_option linter.unusedSimpArgs false

/-- Different variables. -/
def varsOk (S : List Int) : Prop := S.Nodup ∧ ∀ y ∈ S, 1 ≤ y ∧ y ≤ 65536
theorem varsOk_snoc {S : List Int} {v : Int} : varsOk (S ++ [v]) ↔ varsOk S ∧ entB S v = true := by
  unfold varsOk entB
  rw [decide_eq_true_eq, List.nodup_append]
  constructor
  · rintro ⟨⟨h1, _, h3⟩, h4⟩
    exact ⟨⟨h1, fun y hy => h4 y (by simp [hy])⟩, (h4 v (by simp)).1, (h4 v (by simp)).2, fun e => h3 v e v (by simp) rfl⟩
  · rintro ⟨⟨h1, h2⟩, h3, h4, h5⟩
    refine ⟨⟨h1, by simp, fun a ha b hb e => ?_⟩, fun y hy => ?_⟩
    · rw [List.mem_singleton] at hb; subst hb; subst e; exact h5 ha
    · rcases List.mem_append.1 hy with h | h
      · exact h2 y h
      · rw [List.mem_singleton] at h; subst h; exact ⟨h3, h4⟩
theorem varsOk_pre {S T : List Int} (h : varsOk (S ++ T)) : varsOk S :=
  ⟨(List.nodup_append.1 h.1).1, fun y hy => h.2 y (by simp [hy])⟩
theorem varsOk_nil : varsOk [] := ⟨by simp, by simp⟩
/-- The variables of gates. -/
def gv (gs : List Gt) : List Int := gs.map (fun g => g.1)
def gIn (S : List Int) (g : Gt) : Bool := fitsB g.2.1 g.2.2.length && g.2.2.all (fun x => decide (varC x ∈ S))
/-- Gates, in any order, over these variables. -/
def looseN (ins : List Int) (gs : List Gt) : Bool := decide ((ins ++ gv gs).Nodup ∧ ∀ y ∈ ins ++ gv gs, 1 ≤ y ∧ y ≤ 65536) && gs.all (gIn (ins ++ gv gs))
theorem gv_take {gs : List Gt} {k : Nat} (h : k < gs.length) : gv (gs.take (k + 1)) = gv (gs.take k) ++ [(gs.getD k dG).1] := by unfold gv; rw [gates_take h]; simp
theorem gv_mem {gs : List Gt} {k : Nat} (h : k < gs.length) : (gs.getD k dG).1 ∈ gv gs := List.mem_map.2 ⟨gs.getD k dG, by simp [List.getD, h], rfl⟩
theorem loose_off {ins : List Int} {gs : List Gt} (h : ¬ varsOk (ins ++ gv gs)) : looseN ins gs = false := by
  unfold looseN
  rw [decide_eq_false (show ¬ ((ins ++ gv gs).Nodup ∧ ∀ y ∈ ins ++ gv gs, 1 ≤ y ∧ y ≤ 65536) from h)]; rfl
theorem loose_on {ins : List Int} {gs : List Gt} (h : varsOk (ins ++ gv gs)) : looseN ins gs = gs.all (gIn (ins ++ gv gs)) := by
  unfold looseN
  rw [decide_eq_true (show ((ins ++ gv gs).Nodup ∧ ∀ y ∈ ins ++ gv gs, 1 ≤ y ∧ y ≤ 65536) from h), Bool.true_and]
theorem loose_parts {ins : List Int} {gs : List Gt} (h : looseN ins gs = true) : varsOk (ins ++ gv gs) ∧ ∀ g ∈ gs, gIn (ins ++ gv gs) g = true := by
  unfold looseN at h
  rw [Bool.and_eq_true, decide_eq_true_eq] at h
  exact ⟨h.1, List.all_eq_true.1 h.2⟩
theorem ins_off {ins : List Int} {gs : List Gt} {k : Nat} (hk : k < ins.length) (h : entB (ins.take k) (ins.getD k 0) = false) : looseN ins gs = false := by
  refine loose_off fun e => ?_
  have h1 : varsOk (ins.take (k + 1)) := varsOk_pre (T := ins.drop (k + 1) ++ gv gs) (by rw [← List.append_assoc, List.take_append_drop]; exact e)
  have h2 : ins.take (k + 1) = ins.take k ++ [ins.getD k 0] := by rw [List.take_succ_eq_append_getElem hk]; simp [List.getD, hk]
  rw [h2, varsOk_snoc, h] at h1
  cases h1.2
theorem gv_off {ins : List Int} {gs : List Gt} {k : Nat} (hk : k < gs.length) (h : entB (ins ++ gv (gs.take k)) (gs.getD k dG).1 = false) : looseN ins gs = false := by
  refine loose_off fun e => ?_
  have h0 : gv gs = gv (gs.take (k + 1)) ++ gv (gs.drop (k + 1)) := by unfold gv; rw [← List.map_append, List.take_append_drop]
  have h1 : varsOk (ins ++ gv (gs.take (k + 1))) := varsOk_pre (T := gv (gs.drop (k + 1))) (by rw [List.append_assoc, ← h0]; exact e)
  rw [gv_take hk, ← List.append_assoc, varsOk_snoc, h] at h1
  cases h1.2
theorem gate_off {ins : List Int} {gs : List Gt} {k : Nat} (hk : k < gs.length) (h : gIn (ins ++ gv gs) (gs.getD k dG) = false) : looseN ins gs = false := by
  cases e : looseN ins gs with
  | false => rfl
  | true =>
    have := (loose_parts e).2 (gs.getD k dG) (by simp [List.getD, hk])
    rw [h] at this; cases this

def vT (gs : List Gt) (T : List Nat) : List Int := T.map (fun i => (gs.getD i dG).1)
/-- All literals of gate i are of the inputs or of gates that have been taken. -/
def rdy (ins : List Int) (gs : List Gt) (T : List Nat) (i : Nat) : Bool := (gs.getD i dG).2.2.all (fun x => decide (varC x ∈ ins ++ vT gs T))
def noNext (ins : List Int) (gs : List Gt) (T : List Nat) : Prop := ∀ i, i < gs.length → i ∉ T → rdy ins gs T i = false
def isNext (ins : List Int) (gs : List Gt) (T : List Nat) (i : Nat) : Prop := i < gs.length ∧ i ∉ T ∧ rdy ins gs T i = true ∧ ∀ j, j < i → j ∉ T → rdy ins gs T j = false
/-- Behind those of T these are taken, and then no more. -/
inductive OrdR (ins : List Int) (gs : List Gt) : List Nat → List Nat → Prop
  | done {T : List Nat} : noNext ins gs T → OrdR ins gs T []
  | step {T : List Nat} {i : Nat} {r : List Nat} : isNext ins gs T i → OrdR ins gs (T ++ [i]) r → OrdR ins gs T (i :: r)
theorem ordR_one {ins : List Int} {gs : List Gt} {T a : List Nat} (h : OrdR ins gs T a) : ∀ b, OrdR ins gs T b → a = b := by
  induction h with
  | done h =>
    intro b hb
    cases hb with
    | done _ => rfl
    | step h1 _ => have := h _ h1.1 h1.2.1; rw [h1.2.2.1] at this; cases this
  | @step T i r h1 _ ih =>
    intro b hb
    cases hb with
    | done h => have := h _ h1.1 h1.2.1; rw [h1.2.2.1] at this; cases this
    | @step _ j r2 h2 h3 =>
      have e : i = j := by
        rcases Nat.lt_trichotomy i j with h | h | h
        · have := h2.2.2.2 _ h h1.2.1; rw [h1.2.2.1] at this; cases this
        · exact h
        · have := h1.2.2.2 _ h h2.2.1; rw [h2.2.2.1] at this; cases this
      subst e
      rw [ih _ h3]
theorem noNext_full {ins : List Int} {gs : List Gt} {T : List Nat} (hnd : T.Nodup) (hT : ∀ i ∈ T, i < gs.length) (hl : gs.length ≤ T.length) : noNext ins gs T := by
  intro i hi hn
  have h1 : (i :: T).Nodup := List.nodup_cons.2 ⟨hn, hnd⟩
  have h2 : (i :: T).length ≤ (List.range gs.length).length := h1.length_le_of_subset (fun j hj => by
    rw [List.mem_range]
    rcases List.mem_cons.1 hj with h | h
    · subst h; exact hi
    · exact hT j h)
  rw [List.length_range, List.length_cons] at h2
  omega
theorem order_len {gs : List Gt} {T : List Nat} (hnd : T.Nodup) (hT : ∀ i ∈ T, i < gs.length) : T.length ≤ gs.length := by
  have h2 : T.length ≤ (List.range gs.length).length := hnd.length_le_of_subset (fun j hj => by rw [List.mem_range]; exact hT j hj)
  rwa [List.length_range] at h2

/-! ### who uses whom -/
/-- How many of the first t literals of gate i are of gates. -/
def cnt0 (gs : List Gt) (i t : Nat) : Nat := ((gs.getD i dG).2.2.take t).countP (fun x => decide (varC x ∈ gv gs))
def usesAt (gs : List Gt) (k t i : Nat) : Nat := if i < k then cnt0 gs i (gs.getD i dG).2.2.length else if i = k then cnt0 gs k t else 0
def usrG (gs : List Gt) (i t : Nat) (v : Int) : List Nat := if v ∈ gv gs then List.replicate (((gs.getD i dG).2.2.take t).countP (fun x => decide (varC x = v))) i else []
def usrs (gs : List Gt) (k t : Nat) (v : Int) : List Nat := (List.range k).flatMap (fun i => usrG gs i (gs.getD i dG).2.2.length v) ++ usrG gs k t v
theorem usrs_zero (gs : List Gt) (v : Int) : usrs gs 0 0 v = [] := by simp [usrs, usrG]
theorem usrs_next (gs : List Gt) (k : Nat) : usrs gs (k + 1) 0 = usrs gs k (gs.getD k dG).2.2.length := by
  funext v
  unfold usrs
  rw [List.range_succ, List.flatMap_append]
  simp [usrG]
theorem take_snoc {l : List Int} {t : Nat} (h : t < l.length) : l.take (t + 1) = l.take t ++ [l.getD t 0] := by rw [List.take_succ_eq_append_getElem h]; simp [List.getD, h]
theorem usrs_miss {gs : List Gt} {k t : Nat} (ht : t < (gs.getD k dG).2.2.length) (hv : varC ((gs.getD k dG).2.2.getD t 0) ∉ gv gs) : usrs gs k (t + 1) = usrs gs k t := by
  funext v
  unfold usrs usrG
  split
  · rename_i h
    rw [take_snoc ht, List.countP_append, List.countP_singleton, if_neg (by rw [decide_eq_true_eq]; intro e; rw [e] at hv; exact hv h)]
    rfl
  · rfl
theorem usrs_hit {gs : List Gt} {k t : Nat} (ht : t < (gs.getD k dG).2.2.length) (hv : varC ((gs.getD k dG).2.2.getD t 0) ∈ gv gs) :
    usrs gs k (t + 1) = fun j => if j = varC ((gs.getD k dG).2.2.getD t 0) then usrs gs k t (varC ((gs.getD k dG).2.2.getD t 0)) ++ [k] else usrs gs k t j := by
  funext j
  split
  · rename_i e
    subst e
    unfold usrs usrG
    rw [if_pos hv, if_pos hv, take_snoc ht, List.countP_append, List.countP_singleton, if_pos (by simp), List.replicate_succ', List.append_assoc]
  · rename_i e
    unfold usrs usrG
    split
    · rw [take_snoc ht, List.countP_append, List.countP_singleton, if_neg (by rw [decide_eq_true_eq]; exact fun h => e h.symm)]
      rfl
    · rfl
theorem usesAt_hit {gs : List Gt} {k t : Nat} (ht : t < (gs.getD k dG).2.2.length) (hv : varC ((gs.getD k dG).2.2.getD t 0) ∈ gv gs) (i : Nat) : usesAt gs k (t + 1) i = if i = k then usesAt gs k t k + 1 else usesAt gs k t i := by
  unfold usesAt
  split
  · rw [if_neg (by omega)]
  · split
    · rw [if_neg (by omega), if_pos rfl]
      unfold cnt0
      rw [take_snoc ht, List.countP_append, List.countP_singleton, if_pos (by rw [decide_eq_true_eq]; exact hv)]
    · rfl
theorem usesAt_miss {gs : List Gt} {k t : Nat} (ht : t < (gs.getD k dG).2.2.length) (hv : varC ((gs.getD k dG).2.2.getD t 0) ∉ gv gs) (i : Nat) : usesAt gs k (t + 1) i = usesAt gs k t i := by
  unfold usesAt
  split
  · rfl
  · split
    · unfold cnt0
      rw [take_snoc ht, List.countP_append, List.countP_singleton, if_neg (by rw [decide_eq_true_eq]; exact hv)]
      rfl
    · rfl
theorem usesAt_next (gs : List Gt) (k i : Nat) : usesAt gs (k + 1) 0 i = usesAt gs k (gs.getD k dG).2.2.length i := by
  unfold usesAt
  by_cases h1 : i < k
  · rw [if_pos (by omega), if_pos h1]
  · rw [if_neg h1]
    by_cases h2 : i = k
    · subst h2; rw [if_pos (by omega), if_pos rfl]
    · rw [if_neg (by omega), if_neg h2]
      split
      · unfold cnt0; simp
      · rfl

/-! ### how many literals still wait -/
def cntL (gs : List Gt) (T : List Nat) (i : Nat) : Nat := (gs.getD i dG).2.2.countP (fun x => decide (varC x ∈ gv gs) && !decide (varC x ∈ vT gs T))
theorem cntL_nil (gs : List Gt) (i : Nat) : cntL gs [] i = cnt0 gs i (gs.getD i dG).2.2.length := by
  unfold cntL cnt0 vT
  simp
theorem countP_split {p q r : Int → Bool} {l : List Int} (h : ∀ x ∈ l, p x = (q x || r x)) (hd : ∀ x ∈ l, q x = true → r x = false) : l.countP p = l.countP q + l.countP r := by
  induction l with
  | nil => rfl
  | cons x l ih =>
    rw [List.countP_cons, List.countP_cons, List.countP_cons, ih (fun y hy => h y (List.mem_cons_of_mem _ hy)) (fun y hy => hd y (List.mem_cons_of_mem _ hy))]
    have h1 := h x List.mem_cons_self
    have h2 := hd x List.mem_cons_self
    rw [h1]
    cases hq : q x <;> cases hr : r x
    · simp
    · simp; omega
    · simp; omega
    · rw [h2 hq] at hr; cases hr
theorem count_flat {α : Type} [BEq α] [LawfulBEq α] (f : Nat → List α) (u : α) (n : Nat) : ((List.range n).flatMap f).count u = ((List.range n).map (fun i => (f i).count u)).sum := by
  rw [List.count_flatMap]; rfl
theorem sum_one (c n u : Nat) : ((List.range n).map (fun i => if i = u then c else 0)).sum = if u < n then c else 0 := by
  induction n with
  | zero => simp
  | succ n ih =>
    rw [List.range_succ, List.map_append, List.sum_append, ih]
    by_cases h1 : u < n
    · rw [if_pos h1, if_pos (by omega)]; simp; omega
    · rw [if_neg h1]
      by_cases h2 : n = u
      · rw [if_pos (by omega)]; simp [h2]
      · rw [if_neg (by omega)]; simp [h2]
theorem usrs_count {gs : List Gt} {v : Int} (hv : v ∈ gv gs) {u : Nat} (hu : u < gs.length) : (usrs gs gs.length 0 v).count u = (gs.getD u dG).2.2.countP (fun x => decide (varC x = v)) := by
  unfold usrs
  rw [List.count_append, count_flat]
  have e1 : (usrG gs gs.length 0 v).count u = 0 := by unfold usrG; simp
  have e2 : ((List.range gs.length).map (fun i => (usrG gs i (gs.getD i dG).2.2.length v).count u)) = ((List.range gs.length).map (fun i => if i = u then (gs.getD u dG).2.2.countP (fun x => decide (varC x = v)) else 0)) := by
    apply List.map_congr_left
    intro i _
    unfold usrG
    rw [if_pos hv, List.take_length, List.count_replicate]
    by_cases e : i = u
    · subst e; simp
    · simp [e]
  rw [e1, e2, sum_one, if_pos hu]
  rfl
theorem usrs_mem {gs : List Gt} {v : Int} {u : Nat} (h : u ∈ usrs gs gs.length 0 v) : u < gs.length := by
  unfold usrs at h
  rcases List.mem_append.1 h with h | h
  · obtain ⟨i, hi, h⟩ := List.mem_flatMap.1 h
    rw [List.mem_range] at hi
    unfold usrG at h
    split at h
    · have := (List.mem_replicate.1 h).2; omega
    · simp at h
  · unfold usrG at h
    split at h
    · simp at h
    · simp at h
theorem vT_snoc (gs : List Gt) (T : List Nat) (i : Nat) : vT gs (T ++ [i]) = vT gs T ++ [(gs.getD i dG).1] := by unfold vT; simp
theorem vT_sub {gs : List Gt} {T : List Nat} (hT : ∀ i ∈ T, i < gs.length) {v : Int} (h : v ∈ vT gs T) : v ∈ gv gs := by
  obtain ⟨i, hi, rfl⟩ := List.mem_map.1 h
  exact gv_mem (hT i hi)
theorem vT_new {gs : List Gt} {T : List Nat} (hnd : (gv gs).Nodup) (hT : ∀ i ∈ T, i < gs.length) {i : Nat} (hi : i < gs.length) (hn : i ∉ T) : (gs.getD i dG).1 ∉ vT gs T := by
  intro h
  obtain ⟨j, hj, e⟩ := List.mem_map.1 h
  have hjl := hT j hj
  have e1 : ∀ k (hk : k < gs.length), (gs.getD k dG).1 = (gv gs)[k]'(by unfold gv; simpa using hk) := fun k hk => by unfold gv; simp [List.getD, hk]
  rw [e1 j hjl, e1 i hi] at e
  have hp := List.pairwise_iff_getElem.1 hnd
  rcases Nat.lt_trichotomy j i with h | h | h
  · exact hp j i _ _ h e
  · subst h; exact hn hj
  · exact hp i j _ _ h e.symm
theorem cntL_step {gs : List Gt} {T : List Nat} (hnd : (gv gs).Nodup) (hT : ∀ i ∈ T, i < gs.length) {i : Nat} (hi : i < gs.length) (hn : i ∉ T) {u : Nat} (hu : u < gs.length) :
    cntL gs T u = cntL gs (T ++ [i]) u + (usrs gs gs.length 0 (gs.getD i dG).1).count u := by
  rw [usrs_count (gv_mem hi) hu]
  unfold cntL
  have hnew := vT_new hnd hT hi hn
  have hm := gv_mem hi
  have hsn := vT_snoc gs T i
  generalize (gs.getD i dG).1 = v0 at *
  apply countP_split
  · intro x _
    rw [hsn, Bool.eq_iff_iff]
    simp only [Bool.and_eq_true, Bool.or_eq_true, Bool.not_eq_true', decide_eq_true_eq, decide_eq_false_iff_not, List.mem_append, List.mem_singleton]
    by_cases e : varC x = v0
    · rw [e]; simp [hnew, hm]
    · simp [e]
  · intro x _ h
    rw [hsn] at h
    simp only [Bool.and_eq_true, Bool.not_eq_true', decide_eq_true_eq, decide_eq_false_iff_not, List.mem_append, List.mem_singleton] at h ⊢
    exact fun e => h.2 (Or.inr e)
theorem cntL_rdy {ins : List Int} {gs : List Gt} {T : List Nat} (hl : looseN ins gs = true) (hT : ∀ i ∈ T, i < gs.length) {i : Nat} (hi : i < gs.length) : rdy ins gs T i = decide (cntL gs T i = 0) := by
  obtain ⟨hv, hg⟩ := loose_parts hl
  have hgi := hg (gs.getD i dG) (by simp [List.getD, hi])
  unfold gIn at hgi
  rw [Bool.and_eq_true] at hgi
  have hgl := List.all_eq_true.1 hgi.2
  have hdis := (List.nodup_append.1 hv.1).2.2
  rw [Bool.eq_iff_iff, decide_eq_true_eq]
  unfold rdy cntL
  rw [List.all_eq_true, List.countP_eq_zero]
  constructor
  · intro h x hx
    have h1 := h x hx
    simp only [decide_eq_true_eq, List.mem_append, Bool.and_eq_true, Bool.not_eq_true', decide_eq_false_iff_not] at h1 ⊢
    rintro ⟨h2, h3⟩
    rcases h1 with h1 | h1
    · exact hdis _ h1 _ h2 rfl
    · exact h3 h1
  · intro h x hx
    have h1 := h x hx
    have h2 := hgl x hx
    simp only [decide_eq_true_eq, List.mem_append, Bool.and_eq_true, Bool.not_eq_true', decide_eq_false_iff_not] at h1 h2 ⊢
    rcases h2 with h2 | h2
    · exact Or.inl h2
    · right
      exact Classical.byContradiction fun e => h1 ⟨h2, e⟩

/-! ### the state on the way -/
/-- T is taken; left says how many literals of a gate wait, wait holds the gates that wait for none. -/
structure OInv (ins : List Int) (gs : List Gt) (T : List Nat) (left wait : List Int) : Prop where
  nd : T.Nodup
  lt : ∀ i ∈ T, i < gs.length
  zero : ∀ i ∈ T, cntL gs T i = 0
  len : left.length = gs.length
  lf : ∀ u, u < gs.length → left.getD u 0 = (cntL gs T u : Int)
  wn : wait.Nodup
  wt : ∀ y, y ∈ wait ↔ ∃ u : Nat, y = (u : Int) ∧ u < gs.length ∧ u ∉ T ∧ cntL gs T u = 0
/-- i is taken, and m of those that use it have been told. -/
structure MInv (ins : List Int) (gs : List Gt) (T : List Nat) (i m : Nat) (left wait : List Int) : Prop where
  nd : T.Nodup
  lt : ∀ j ∈ T, j < gs.length
  zero : ∀ j ∈ T, cntL gs T j = 0
  il : i < gs.length
  inT : i ∉ T
  iz : cntL gs T i = 0
  len : left.length = gs.length
  lf : ∀ u, u < gs.length → left.getD u 0 + (((usrs gs gs.length 0 (gs.getD i dG).1).take m).count u : Int) = (cntL gs T u : Int)
  wn : wait.Nodup
  wt : ∀ y, y ∈ wait ↔ ∃ u : Nat, y = (u : Int) ∧ u < gs.length ∧ u ∉ T ∧ u ≠ i ∧ left.getD u 0 = 0
/-- A list as long as one without repetitions, which holds all of it, has none. -/
theorem nodup_cover {l k : List Int} (hl : l.Nodup) (hs : ∀ x ∈ l, x ∈ k) (hk : k.length ≤ l.length) : k.Nodup := by
  induction k generalizing l with
  | nil => simp
  | cons a k ih =>
    have hlen : l.length ≤ (a :: k).length := hl.length_le_of_subset hs
    have ha : a ∈ l := Classical.byContradiction fun e => by
      have h1 : l.length ≤ k.length := hl.length_le_of_subset (fun x hx => by
        rcases List.mem_cons.1 (hs x hx) with h | h
        · subst h; exact absurd hx e
        · exact h)
      simp at hk; omega
    have hle : (l.erase a).length = l.length - 1 := List.length_erase_of_mem ha
    have hk2 : k.Nodup := ih (l := l.erase a) (hl.erase a) (fun x hx => by
      rw [hl.mem_erase_iff] at hx
      rcases List.mem_cons.1 (hs x hx.2) with h | h
      · exact absurd h hx.1
      · exact h) (by rw [hle]; simp at hk; omega)
    rw [List.nodup_cons]
    refine ⟨fun hak => ?_, hk2⟩
    have h1 : l.length ≤ k.length := hl.length_le_of_subset (fun x hx => by
      rcases List.mem_cons.1 (hs x hx) with h | h
      · subst h; exact hak
      · exact h)
    simp at hk; omega
theorem OInv.pop {ins : List Int} {gs : List Gt} {T : List Nat} {left wait m : List Int} {x : Int} (h : OInv ins gs T left wait) (hm : ∀ y, y ∈ wait ↔ y = x ∨ y ∈ m) (hl : m.length + 1 = wait.length) : ∃ i : Nat, x = (i : Int) ∧ MInv ins gs T i 0 left m := by
  obtain ⟨i, rfl, hi, hT, hz⟩ := (h.wt x).1 ((hm x).2 (Or.inl rfl))
  have hnd : ((i : Int) :: m).Nodup := nodup_cover h.wn (fun y hy => by rw [List.mem_cons]; exact (hm y).1 hy) (by simp; omega)
  rw [List.nodup_cons] at hnd
  refine ⟨i, rfl, h.nd, h.lt, h.zero, hi, hT, hz, h.len, fun u hu => by rw [h.lf u hu, List.take_zero]; simp, hnd.2, fun y => ?_⟩
  constructor
  · intro hy
    obtain ⟨u, rfl, h1, h2, h3⟩ := (h.wt y).1 ((hm y).2 (Or.inr hy))
    exact ⟨u, rfl, h1, h2, fun e => by subst e; exact hnd.1 hy, by rw [h.lf u h1, h3]; rfl⟩
  · rintro ⟨u, rfl, h1, h2, h3, h4⟩
    rw [h.lf u h1] at h4
    rcases (hm (u : Int)).1 ((h.wt _).2 ⟨u, rfl, h1, h2, by omega⟩) with e | e
    · exact absurd (Int.ofNat.inj e) h3
    · exact e
theorem OInv.next {ins : List Int} {gs : List Gt} {T : List Nat} {left wait : List Int} {i : Nat} (h : OInv ins gs T left wait) (hl : looseN ins gs = true) (hi : (i : Int) ∈ wait) (hmin : ∀ y ∈ wait, (i : Int) ≤ y) : isNext ins gs T i := by
  obtain ⟨i', e, h1, h2, h3⟩ := (h.wt _).1 hi
  obtain rfl : i = i' := Int.ofNat.inj e
  refine ⟨h1, h2, by rw [cntL_rdy hl h.lt h1]; simpa using h3, fun j hj hn => ?_⟩
  rw [cntL_rdy hl h.lt (by omega), decide_eq_false_iff_not]
  intro e0
  have := hmin _ ((h.wt (j : Int)).2 ⟨j, rfl, by omega, hn, e0⟩)
  omega
theorem OInv.over {ins : List Int} {gs : List Gt} {T : List Nat} {left : List Int} (h : OInv ins gs T left []) (hl : looseN ins gs = true) : noNext ins gs T := fun i hi hn => by
  rw [cntL_rdy hl h.lt hi, decide_eq_false_iff_not]
  intro e
  have := (h.wt (i : Int)).2 ⟨i, rfl, hi, hn, e⟩
  simp at this
theorem MInv.fin {ins : List Int} {gs : List Gt} {T : List Nat} {i : Nat} {left wait : List Int} (h : MInv ins gs T i (usrs gs gs.length 0 (gs.getD i dG).1).length left wait) (hl : looseN ins gs = true) : OInv ins gs (T ++ [i]) left wait := by
  have hv : (gv gs).Nodup := (List.nodup_append.1 (loose_parts hl).1.1).2.1
  have key : ∀ u, u < gs.length → left.getD u 0 = (cntL gs (T ++ [i]) u : Int) := fun u hu => by
    have h1 := h.lf u hu
    have h2 := cntL_step hv h.lt h.il h.inT hu
    rw [List.take_length] at h1
    omega
  refine ⟨?_, fun j hj => ?_, fun j hj => ?_, h.len, key, h.wn, fun y => ?_⟩
  · rw [List.nodup_append]
    exact ⟨h.nd, by simp, fun a ha b hb e => by rw [List.mem_singleton] at hb; subst hb; subst e; exact h.inT ha⟩
  · rcases List.mem_append.1 hj with hj | hj
    · exact h.lt j hj
    · rw [List.mem_singleton] at hj; subst hj; exact h.il
  · have hjl : j < gs.length := by
      rcases List.mem_append.1 hj with hj | hj
      · exact h.lt j hj
      · rw [List.mem_singleton] at hj; subst hj; exact h.il
    have h2 := cntL_step hv h.lt h.il h.inT hjl
    have h3 : cntL gs T j = 0 := by
      rcases List.mem_append.1 hj with hj | hj
      · exact h.zero j hj
      · rw [List.mem_singleton] at hj; subst hj; exact h.iz
    omega
  · rw [h.wt]
    constructor
    · rintro ⟨u, rfl, h1, h2, h3, h4⟩
      refine ⟨u, rfl, h1, by simp [h2, h3], ?_⟩
      rw [key u h1] at h4; omega
    · rintro ⟨u, rfl, h1, h2, h3⟩
      simp only [List.mem_append, List.mem_singleton, not_or] at h2
      exact ⟨u, rfl, h1, h2.1, h2.2, by rw [key u h1, h3]; rfl⟩
/-- One more of those that use it is told. -/
theorem MInv.told {ins : List Int} {gs : List Gt} {T : List Nat} {i m u : Nat} {left wait : List Int} (h : MInv ins gs T i m left wait) (hl : looseN ins gs = true) (hm : m < (usrs gs gs.length 0 (gs.getD i dG).1).length) (hu : (usrs gs gs.length 0 (gs.getD i dG).1).getD m 0 = u) :
    u < gs.length ∧ 1 ≤ left.getD u 0 ∧ left.getD u 0 ≤ (cntL gs T u : Int) ∧ (left.getD u 0 - 1 ≠ 0 → MInv ins gs T i (m + 1) (left.set u (left.getD u 0 - 1)) wait) ∧
      (left.getD u 0 - 1 = 0 → (u : Int) ∉ wait ∧ ∀ w2 : List Int, w2.length = wait.length + 1 → (∀ y, y ∈ w2 ↔ y = (u : Int) ∨ y ∈ wait) → MInv ins gs T i (m + 1) (left.set u (left.getD u 0 - 1)) w2) := by
  have hv : (gv gs).Nodup := (List.nodup_append.1 (loose_parts hl).1.1).2.1
  have gm : ∀ (l : List Nat) (k : Nat), k < l.length → l.getD k 0 ∈ l ∧ l.take (k + 1) = l.take k ++ [l.getD k 0] := fun l k hk => ⟨by simp [List.getD, hk], by rw [List.take_succ_eq_append_getElem hk]; simp [List.getD, hk]⟩
  have hmem : u ∈ usrs gs gs.length 0 (gs.getD i dG).1 := by rw [← hu]; exact (gm _ _ hm).1
  have hul := usrs_mem hmem
  have htk : (usrs gs gs.length 0 (gs.getD i dG).1).take (m + 1) = (usrs gs gs.length 0 (gs.getD i dG).1).take m ++ [u] := by
    rw [(gm _ _ hm).2, hu]
  have hcs : ((usrs gs gs.length 0 (gs.getD i dG).1).take (m + 1)).count u ≤ (usrs gs gs.length 0 (gs.getD i dG).1).count u := (List.take_sublist _ _).count_le u
  have h1 := h.lf u hul
  have h2 := cntL_step hv h.lt h.il h.inT hul
  have h3 : ((usrs gs gs.length 0 (gs.getD i dG).1).take (m + 1)).count u = ((usrs gs gs.length 0 (gs.getD i dG).1).take m).count u + 1 := by rw [htk, List.count_append]; simp
  have hpos : 1 ≤ left.getD u 0 := by omega
  have huT : u ∉ T := fun e => by have := h.zero u e; omega
  have hui : u ≠ i := fun e => by subst e; have := h.iz; omega
  have hget : ∀ k, (left.set u (left.getD u 0 - 1)).getD k 0 = if k = u then left.getD u 0 - 1 else left.getD k 0 := fun k => getD_set left u k _ (by rw [h.len]; exact hul)
  have hlf : ∀ k, k < gs.length → (left.set u (left.getD u 0 - 1)).getD k 0 + (((usrs gs gs.length 0 (gs.getD i dG).1).take (m + 1)).count k : Int) = (cntL gs T k : Int) := fun k hk => by
    rw [hget]
    by_cases e : k = u
    · subst e; rw [if_pos rfl]; omega
    · rw [if_neg e, htk, List.count_append]
      have h5 := h.lf k hk
      have h6 : List.count k [u] = 0 := List.count_eq_zero.2 (by rw [List.mem_singleton]; exact e)
      rw [h6]; simpa using h5
  refine ⟨hul, hpos, by omega, fun hne => ?_, fun he => ?_⟩
  · refine ⟨h.nd, h.lt, h.zero, h.il, h.inT, h.iz, by rw [List.length_set, h.len], hlf, h.wn, fun y => ?_⟩
    rw [h.wt]
    constructor
    · rintro ⟨k, rfl, a1, a2, a3, a4⟩
      have ek : k ≠ u := fun e => by subst e; omega
      exact ⟨k, rfl, a1, a2, a3, by rw [hget, if_neg ek]; exact a4⟩
    · rintro ⟨k, rfl, a1, a2, a3, a4⟩
      rw [hget] at a4
      have ek : k ≠ u := fun e => by subst e; rw [if_pos rfl] at a4; exact hne a4
      rw [if_neg ek] at a4
      exact ⟨k, rfl, a1, a2, a3, a4⟩
  · have hnw : (u : Int) ∉ wait := fun e => by
      obtain ⟨k, e1, _, _, _, a4⟩ := (h.wt _).1 e
      obtain rfl : u = k := Int.ofNat.inj e1
      omega
    refine ⟨hnw, fun w2 hwl hw2 => ?_⟩
    refine ⟨h.nd, h.lt, h.zero, h.il, h.inT, h.iz, by rw [List.length_set, h.len], hlf, nodup_cover (List.nodup_cons.2 ⟨hnw, h.wn⟩) (fun y hy => (hw2 y).2 (by rw [List.mem_cons] at hy; exact hy)) (by simp; omega), fun y => ?_⟩
    rw [hw2, h.wt]
    constructor
    · rintro (rfl | ⟨k, rfl, a1, a2, a3, a4⟩)
      · exact ⟨u, rfl, hul, huT, hui, by rw [hget, if_pos rfl]; exact he⟩
      · have ek : k ≠ u := fun e => by subst e; omega
        exact ⟨k, rfl, a1, a2, a3, by rw [hget, if_neg ek]; exact a4⟩
    · rintro ⟨k, rfl, a1, a2, a3, a4⟩
      by_cases ek : k = u
      · subst ek; exact Or.inl rfl
      · rw [hget, if_neg ek] at a4
        exact Or.inr ⟨k, rfl, a1, a2, a3, a4⟩
end Go.Proofs.Ytafenijbglcppaa

/- circ.ready: Len, Less, Swap on the call's own row. -/
namespace Go.Proofs.Ytafenijbglcppaa
open Go.RowKit
set_option linter.unusedVariables false

/-- Cells of an own row, as a value that owns something shows them. -/
theorem Own.at {w : World} {B : Nat} {v : Value} {xs : List Int} (h : Own w B v xs) (hne : 0 < xs.length) : ∃ g cap, v = .slice (some ⟨g, 0, none⟩) xs.length cap ∧ B ≤ g ∧ g < w.heap.size := by
  rcases h.2 with ⟨rfl, h2⟩ | ⟨g, cap, cur, rfl, hB, hg, rest⟩
  · omega
  · exact ⟨g, cap, rfl, hB, (Array.getElem?_eq_some_iff.1 hg).1⟩

set_option maxHeartbeats 400000 in
theorem wlen_any (v : Value) (l : List Int) (B : Nat) (w : World) (H : Own w B v l) :
    Calls Try.prog 40 #[v] w fun e w' => e = .returned (.int .i64 l.length) ∧ w = w' := by
  obtain ⟨a, cap, rfl⟩ : ∃ a cap, v = .slice a l.length cap := by
    rcases H.2 with ⟨rfl, h2⟩ | ⟨g, cap, cur, rfl, _⟩
    · exact ⟨none, 0, by rw [h2]⟩
    · exact ⟨_, _, rfl⟩
  go_enter Try.func40, Try.ntmps40
  go_wp2
  go_ret
  exact ⟨rfl, rfl⟩

set_option maxHeartbeats 400000 in
theorem wless_any (v : Value) (l : List Int) (B i j : Nat) (w : World) (H : Own w B v l) (hl : l.length ≤ 1000000) (hi : i < l.length) (hj : j < l.length) :
    Calls Try.prog 109 #[v, .int .i64 i, .int .i64 j] w fun e w' => e = .returned (.bool (decide (l.getD i 0 < l.getD j 0))) ∧ Quiet w w' := by
  obtain ⟨g, cap, rfl, hB, hg⟩ := H.at (by omega)
  have hci := H.cell i hi
  have hcj := H.cell j hj
  generalize l.getD i 0 = x at *
  generalize l.getD j 0 = y at *
  have HH := Lib.hid H
  clear H
  go_enter Try.func109, Try.ntmps109
  go_wp2_with fail
  go_quiet (fail)
  go_wp2
  go_ret
  exact ⟨rfl, ⟨_, rfl⟩⟩

/-- The world but for the count of draws. -/
def Same4 (w W : World) : Prop := w.heap = W.heap ∧ w.os = W.os ∧ w.output = W.output ∧ w.tape = W.tape

set_option maxHeartbeats 1600000 in
theorem wswap_two (g cap : Nat) (l : List Int) (B i j : Nat) (w : World) (H : Own w B (.slice (some ⟨g, 0, none⟩) l.length cap) l) (hl : l.length ≤ 1000000) (hi : i < l.length) (hj : j < l.length) (hne : i ≠ j) :
    Calls Try.prog 110 #[.slice (some ⟨g, 0, none⟩) l.length cap, .int .i64 i, .int .i64 j] w fun e w' => e = .returned (.tuple #[]) ∧ Same4 w' ((w.setCell ⟨g, i, none⟩ (.int .i64 (l.getD j 0))).setCell ⟨g, j, none⟩ (.int .i64 (l.getD i 0))) := by
  have hci := H.cell i hi
  have hcj := H.cell j hj
  have hfi := H.frozen i
  have hfj := H.frozen j
  generalize l.getD i 0 = x at *
  generalize l.getD j 0 = y at *
  have HH := Lib.hid H
  clear H
  go_enter Try.func110, Try.ntmps110
  go_wp2
  go_region
  all_goals (go_end0; exact ⟨rfl, rfl, rfl, rfl, rfl⟩)
set_option maxHeartbeats 1600000 in
theorem wswap_one (g cap : Nat) (l : List Int) (B i : Nat) (w : World) (H : Own w B (.slice (some ⟨g, 0, none⟩) l.length cap) l) (hl : l.length ≤ 1000000) (hi : i < l.length) :
    Calls Try.prog 110 #[.slice (some ⟨g, 0, none⟩) l.length cap, .int .i64 i, .int .i64 i] w fun e w' => e = .returned (.tuple #[]) ∧ Same4 w' ((w.setCell ⟨g, i, none⟩ (.int .i64 (l.getD i 0))).setCell ⟨g, i, none⟩ (.int .i64 (l.getD i 0))) := by
  have hci := H.cell i hi
  have hfi := H.frozen i
  generalize l.getD i 0 = x at *
  have HH := Lib.hid H
  clear H
  go_enter Try.func110, Try.ntmps110
  go_wp2
  go_region
  all_goals (go_end0; exact ⟨rfl, rfl, rfl, rfl, rfl⟩)

theorem Own.heapEq {w w' : World} {B : Nat} {v : Value} {xs : List Int} (h : Own w B v xs) (e : w'.heap = w.heap) : Own w' B v xs := by
  refine ⟨h.1, ?_⟩
  rcases h.2 with hn | ⟨g, cap, cur, hv, hB, hg, rest⟩
  · exact .inl hn
  · exact .inr ⟨g, cap, cur, hv, hB, by rw [e]; exact hg, rest⟩
/-- Two of them have changed places; nothing else has turned. -/
def Swapped (w : World) (B g cap : Nat) (l m : List Int) (e : Ending) (w' : World) : Prop := e = .returned (.tuple #[]) ∧ Own w' B (.slice (some ⟨g, 0, none⟩) l.length cap) m ∧ Kept (fun k => k = g) w w'
theorem wswap_any (g cap : Nat) (l : List Int) (B i j : Nat) (w : World) (H : Own w B (.slice (some ⟨g, 0, none⟩) l.length cap) l) (hl : l.length ≤ 1000000) (hi : i < l.length) (hj : j < l.length) :
    Calls Try.prog 110 #[.slice (some ⟨g, 0, none⟩) l.length cap, .int .i64 i, .int .i64 j] w (Swapped w B g cap l (swp l i j)) := by
  have done : ∀ (w' : World), Same4 w' ((w.setCell ⟨g, i, none⟩ (.int .i64 (l.getD j 0))).setCell ⟨g, j, none⟩ (.int .i64 (l.getD i 0))) → Own w' B (.slice (some ⟨g, 0, none⟩) l.length cap) (swp l i j) ∧ Kept (fun k => k = g) w w' := by
    rintro w' ⟨h1, h2, h3, h4⟩
    have k := (Kept.setCell w ⟨g, i, none⟩ (.int .i64 (l.getD j 0))).trans (Kept.setCell _ ⟨g, j, none⟩ (.int .i64 (l.getD i 0)))
    exact ⟨((H.store i (l.getD j 0)).store j (l.getD i 0)).heapEq h1, ⟨h2.trans k.os, h4.trans k.tape, h3.trans k.output, by rw [h1]; exact k.size, fun b hb hS => by rw [h1]; exact k.block b hb hS⟩⟩
  by_cases e : i = j
  · subst e
    exact (wswap_one g cap l B i w H hl hi).mono fun e w' h => ⟨h.1, done w' h.2⟩
  · exact (wswap_two g cap l B i j w H hl hi hj e).mono fun e w' h => ⟨h.1, done w' h.2⟩

end Go.Proofs.Ytafenijbglcppaa

/- The methods of *circ.ready through an interface. -/
namespace Go.Proofs.Ytafenijbglcppaa
open Go.RowKit
set_option linter.unusedVariables false

theorem run_load_of {P : Program} {w : World} {a : Addr} {v : Value} (h : w.cell? a = some v) : (load a).run P w = .ok v w := by
  simp [go_sem, h]
theorem ti (name : String) (f : Nat) (h : (Try.prog.info? 87).any (fun m => match m.methods.find? (·.name == name) with | some r => r.path.isEmpty && (match r.func with | some (g, b) => g == f && !b | none => false) | none => false) = true) (w : World) :
    ∃ m r, (typeInfo 87).run Try.prog w = .ok m w ∧ m.methods.find? (·.name == name) = some r ∧ r.path = #[] ∧ r.func = some (f, false) := by
  cases hi : Try.prog.info? 87 with
  | none => rw [hi] at h; cases h
  | some m =>
    rw [hi] at h
    simp only [Option.any_some] at h
    cases hr : m.methods.find? (·.name == name) with
    | none => rw [hr] at h; cases h
    | some r =>
      rw [hr] at h
      simp only at h
      refine ⟨m, r, by simp [typeInfo, hi, go_sem], hr, ?_⟩
      cases hf : r.func with
      | none => rw [hf] at h; simp at h
      | some p =>
        obtain ⟨g, b⟩ := p
        rw [hf] at h
        simp at h
        exact ⟨h.1, by rw [h.2.1, h.2.2]⟩
theorem loadVarW {w : World} {a : Addr} {v : Value} (h : w.cell? a = some v) : (loadVar 85 a).run Try.prog w = .ok v w := by
  have e : ∀ w, (isAgg 85).run Try.prog w = .ok false w := fun w => by kernel_rfl
  unfold loadVar
  simp only [Sem.run_bind, e, Result.andThen_ok]
  exact run_load_of h
theorem m_val (name : String) (f : Nat) (h : (Try.prog.info? 87).any (fun m => match m.methods.find? (·.name == name) with | some r => r.path.isEmpty && (match r.func with | some (g, b) => g == f && !b | none => false) | none => false) = true) {w : World} {a : Addr} {v : Value} (hc : w.cell? a = some v) (n : Nat) :
    (method (n + 1) 87 (.pointer (some a)) name).run Try.prog w = .ok (f, v) w := by
  obtain ⟨m, r, h1, h2, h3, h4⟩ := ti name f h w
  have hu : (underlying 87).run Try.prog w = .ok (.pointer 85) w := run_underlying Try.underlying87 w
  have hk : ∀ nm : String, (Builtin.ssaWrapNilChk_ #[87] 87 #[.pointer (some a), strVal "", strVal nm]).run Try.prog w = .ok (.pointer (some a)) w := fun _ => rfl
  unfold method
  simp only [Sem.run_bind, h1, Result.andThen_ok, h2, h3, h4, follow, receiverAt, Sem.run_pure, hu, Place.get, asAddr]
  have e : (#[] : Array FieldStep).isEmpty = true := rfl
  simp only [e, if_true, Sem.run_bind, Sem.run_pure, Result.andThen_ok, hk, loadVarW hc]
theorem m_less {w : World} {a : Addr} {v : Value} (hc : w.cell? a = some v) (n : Nat) : (method (n + 1) 87 (.pointer (some a)) "Less").run Try.prog w = .ok (109, v) w := m_val "Less" 109 (by kernel_rfl) hc n
theorem m_swap {w : World} {a : Addr} {v : Value} (hc : w.cell? a = some v) (n : Nat) : (method (n + 1) 87 (.pointer (some a)) "Swap").run Try.prog w = .ok (110, v) w := m_val "Swap" 110 (by kernel_rfl) hc n
theorem m_len {w : World} {a : Addr} {v : Value} (hc : w.cell? a = some v) (n : Nat) : (method (n + 1) 87 (.pointer (some a)) "Len").run Try.prog w = .ok (40, v) w := m_val "Len" 40 (by kernel_rfl) hc n
theorem m_push (n : Nat) (a : Addr) (w : World) : (method (n + 1) 87 (.pointer (some a)) "Push").run Try.prog w = .ok (112, .pointer (some a)) w := by kernel_rfl
theorem m_pop (n : Nat) (a : Addr) (w : World) : (method (n + 1) 87 (.pointer (some a)) "Pop").run Try.prog w = .ok (111, .pointer (some a)) w := by kernel_rfl

end Go.Proofs.Ytafenijbglcppaa

/- container/heap.up over circ.ready. -/
namespace Go.Proofs.Ytafenijbglcppaa
open Go.RowKit
set_option linter.unusedVariables false

theorem Kept.quiet (S : Nat → Prop) {w w' : World} (h : Quiet w w') : Kept S w w' := by
  obtain ⟨m, rfl⟩ := h
  exact ⟨rfl, rfl, rfl, Nat.le_refl _, fun _ _ _ => rfl⟩
/-- What the heap has become. -/
def Heaped (w : World) (B g cap : Nat) (l : List Int) (e : Ending) (w' : World) : Prop :=
  ∃ m, e = .returned (.tuple #[]) ∧ Own w' B (.slice (some ⟨g, 0, none⟩) l.length cap) m ∧ m.length = l.length ∧ hp m l.length ∧ (∀ x, inN m l.length x ↔ inN l l.length x) ∧ Kept (fun k => k = g) w w'

set_option maxRecDepth 100000 in
set_option maxHeartbeats 1600000 in
theorem up_any (g cap : Nat) (a : Addr) (l : List Int) (B j : Nat) (w : World) (H : Own w B (.slice (some ⟨g, 0, none⟩) l.length cap) l) (ha : w.cell? a = some (.slice (some ⟨g, 0, none⟩) l.length cap)) (hab : a.block ≠ g) (hl : l.length ≤ 1000000) (hj : j < l.length) (hu : hpU l l.length j) :
    Calls Try.prog 60 #[.iface 87 (.pointer (some a)), .int .i64 j] w (Heaped w B g cap l) := by
  go_enter Try.func60, Try.ntmps60
  go_wp2
  go_loopw [1] (fun sj wr => ∃ (k : Nat) (m : List Int), k < l.length ∧ sj = .int .i64 k ∧ m.length = l.length ∧ Own wr B (.slice (some ⟨g, 0, none⟩) l.length cap) m ∧ hpU m l.length k ∧ (∀ x, inN m l.length x ↔ inN l l.length x) ∧ Kept (fun k => k = g) w wr) (fun sj wr => (intOf sj).toNat)
  case atStart => exact ⟨j, l, hj, rfl, rfl, H, hu, fun x => Iff.rfl, Kept.refl _ _⟩
  case round =>
    obtain ⟨k, m, hk, rfl, hm, hown, hup, hin, hkept⟩ := hrel
    have hca : wr.cell? a = some (.slice (some ⟨g, 0, none⟩) l.length cap) := (hkept.cell (World.block_lt_of_cell? w _ ha) hab).trans ha
    by_cases h0 : k = 0
    · subst h0
      go_wp2
      go_end0
      exact ⟨m, rfl, hown, hm, up_top hup, hin, hkept⟩
    · have h1 : (1 : Int) ≤ (k : Int) := by omega
      have hp : ((k : Int) - 1) / 2 = (((k - 1) / 2 : Nat) : Int) := by omega
      have hne : ((((k - 1) / 2 : Nat) : Int) == (k : Int)) = false := by rw [beq_eq_false_iff_ne]; omega
      have hii : (k - 1) / 2 < l.length := by omega
      generalize (k - 1) / 2 = i at *
      have hml := m_less hca
      have hlt := wless_any _ m B k i wr hown (by omega) (by omega) (by omega)
      have hsw := fun (W : World) (hq : Quiet wr W) => wswap_any g cap m B i k W (by rw [hm]; exact hown.quiet hq) (by omega) (by omega) (by omega)
      rw [hm] at hsw
      have HS := Lib.hid hsw
      have HU := Lib.hid hup
      have HI := Lib.hid hin
      have HM := Lib.hid hm
      have HN : Hid (i = (k - 1) / 2) := by show _ = _; omega
      clear hsw hup hin hm
      by_cases hd : m.getD k 0 < m.getD i 0
      · rw [show decide (m.getD k 0 < m.getD i 0) = true from by simpa using hd] at hlt
        have HD := Lib.hid hd
        have HL := Lib.hid hlt
        clear hd hlt
        go_wp2_with (first | (go_at_call 109; refine HL.out.mono ?_; rintro e w1 ⟨rfl, hq⟩; have hmw := m_swap ((hq.cell a).trans hca)) | (go_at_call 110; refine (HS.out _ (by assumption)).mono ?_; rintro e w2 ⟨rfl, hown2, hk2⟩))
        go_roundw
        case rel =>
          have hup2 := up_swap HU.out (by omega) hk (by rw [HM.out]; exact Nat.le_refl _) (by rw [← HN.out]; exact HD.out)
          rw [← HN.out] at hup2
          refine ⟨i, swp m i k, hii, rfl, by rw [swp_len, HM.out], by rw [← HM.out]; exact hown2, hup2, fun x => ?_, hkept.trans ((Kept.quiet _ hq).trans hk2)⟩
          rw [swp_in _ _ _ _ _ hii hk (by rw [HM.out]; exact Nat.le_refl _)]
          exact HI.out x
        case measure => simp [intOf]; omega
      · rw [show decide (m.getD k 0 < m.getD i 0) = false from by simpa using hd] at hlt
        have HD := Lib.hid hd
        have HL := Lib.hid hlt
        clear hd hlt
        go_wp2_with (go_at_call 109; refine HL.out.mono ?_; rintro e w1 ⟨rfl, hq⟩)
        go_end0
        exact ⟨m, rfl, hown.quiet hq, HM.out, up_stop HU.out (by rw [← HN.out]; have := HD.out; omega), HI.out, hkept.trans (Kept.quiet _ hq)⟩

end Go.Proofs.Ytafenijbglcppaa

/- container/heap.down over circ.ready. -/
namespace Go.Proofs.Ytafenijbglcppaa
open Go.RowKit
set_option linter.unusedVariables false

/-- What the first n of the heap have become. -/
def HeapedN (w : World) (B g cap : Nat) (l : List Int) (n : Nat) (e : Ending) (w' : World) : Prop :=
  ∃ b m, e = .returned (.bool b) ∧ Own w' B (.slice (some ⟨g, 0, none⟩) l.length cap) m ∧ m.length = l.length ∧ hp m n ∧ (∀ x, inN m n x ↔ inN l n x) ∧ (∀ k, n ≤ k → m.getD k 0 = l.getD k 0) ∧ Kept (fun k => k = g) w w'

set_option maxRecDepth 100000 in
set_option maxHeartbeats 3200000 in
theorem down_any (g cap : Nat) (a : Addr) (l : List Int) (B i0 n : Nat) (w : World) (H : Own w B (.slice (some ⟨g, 0, none⟩) l.length cap) l) (ha : w.cell? a = some (.slice (some ⟨g, 0, none⟩) l.length cap)) (hab : a.block ≠ g) (hl : l.length ≤ 1000000) (hn : n ≤ l.length) (hi0 : i0 ≤ n) (hd : hpD l n i0) :
    Calls Try.prog 61 #[.iface 87 (.pointer (some a)), .int .i64 i0, .int .i64 n] w (HeapedN w B g cap l n) := by
  go_enter Try.func61, Try.ntmps61
  go_wp2
  go_loopw [7] (fun si wr => ∃ (i : Nat) (m : List Int), i ≤ n ∧ si = .int .i64 i ∧ m.length = l.length ∧ Own wr B (.slice (some ⟨g, 0, none⟩) l.length cap) m ∧ hpD m n i ∧ (∀ x, inN m n x ↔ inN l n x) ∧ (∀ k, n ≤ k → m.getD k 0 = l.getD k 0) ∧ Kept (fun k => k = g) w wr) (fun si wr => n - (intOf si).toNat)
  case atStart => exact ⟨i0, l, hi0, rfl, rfl, H, hd, fun x => Iff.rfl, fun _ _ => rfl, Kept.refl _ _⟩
  case round =>
    obtain ⟨i, m, hi, rfl, hm, hown, hdn, hin, hrest, hkept⟩ := hrel
    have hca : wr.cell? a = some (.slice (some ⟨g, 0, none⟩) l.length cap) := (hkept.cell (World.block_lt_of_cell? w _ ha) hab).trans ha
    obtain ⟨p, hp⟩ : ∃ p : Nat, p = 2 * i + 1 := ⟨_, rfl⟩
    obtain ⟨q, hq⟩ : ∃ q : Nat, q = p + 1 := ⟨_, rfl⟩
    have hp1 : 2 * (i : Int) + 1 = (p : Int) := by omega
    have hq1 : (p : Int) + 1 = (q : Int) := by omega
    have hle := fun (W : World) (hqq : Quiet wr W) (x y : Nat) (hx : x < n) (hy : y < n) => wless_any _ m B x y W (hown.quiet hqq) (by omega) (by omega) (by omega)
    have hsw := fun (W : World) (hqq : Quiet wr W) (y : Nat) (hx : i < n) (hy : y < n) => wswap_any g cap m B i y W (by rw [hm]; exact hown.quiet hqq) (by omega) (by omega) (by omega)
    rw [hm] at hsw
    have hle2 := fun (W : World) (hqq : Quiet wr W) (x y : Nat) (hx : x < n) (hy : y < n) (b : Bool) (hb : decide (m.getD x 0 < m.getD y 0) = b) => hb ▸ hle W hqq x y hx hy
    have HL := Lib.hid hle2
    clear hle2
    have HS := Lib.hid hsw
    have HDN := Lib.hid hdn
    have HI := Lib.hid hin
    have HR := Lib.hid hrest
    have HM := Lib.hid hm
    have HP := Lib.hid hp
    have HQ := Lib.hid hq
    clear hle hsw hdn hin hrest hm
    by_cases h1 : p < n
    · have h1' : ¬ n ≤ p := by omega
      have hin2 : i < n := by omega
      clear hp hq
      -- the rest, for the child c that is the lesser one
      have done : ∀ (c : Nat) (W : World), (c = p ∨ c = q) → c < n → (∀ k, 0 < k → k < n → (k - 1) / 2 = i → m.getD c 0 ≤ m.getD k 0) → m.getD c 0 < m.getD i 0 → Quiet wr W → ∀ e w2, Swapped W B g cap m (swp m i c) e w2 →
          ∃ m', m'.length = l.length ∧ Own w2 B (.slice (some ⟨g, 0, none⟩) l.length cap) m' ∧ hpD m' n c ∧ (∀ x, inN m' n x ↔ inN l n x) ∧ (∀ k, n ≤ k → m'.getD k 0 = l.getD k 0) ∧ Kept (fun k => k = g) w w2 := by
        rintro c W hc hcn hmin hlt hqq e w2 ⟨_, hown2, hk2⟩
        have e1 := HP.out
        have e2 := HQ.out
        have e3 := HM.out
        rw [e3] at hown2
        refine ⟨swp m i c, by rw [swp_len, e3], hown2, down_swap HDN.out (by omega) hcn (by omega) (by omega) hlt hmin, fun x => ?_, fun k hk => ?_, hkept.trans ((Kept.quiet _ hqq).trans hk2)⟩
        · rw [swp_in _ _ _ _ _ hin2 hcn (by omega)]; exact HI.out x
        · rw [swp_at _ _ _ _ (by omega) (by omega), if_neg (by omega), if_neg (by omega)]; exact HR.out k hk
      have stop : ∀ (c : Nat), (∀ k, 0 < k → k < n → (k - 1) / 2 = i → m.getD c 0 ≤ m.getD k 0) → ¬ m.getD c 0 < m.getD i 0 → hp m n := fun c hmin hlt =>
        down_stop HDN.out fun k k0 kn ki => by have := hmin k k0 kn ki; omega
      have HDONE := Lib.hid done
      have HSTOP := Lib.hid stop
      clear done stop
      have hml := m_less hca
      by_cases h2 : q < n
      · have h2' : ¬ n ≤ q := by omega
        have hpq : ∀ k, 0 < k → k < n → (k - 1) / 2 = i → k = p ∨ k = q := fun k k0 kn ki => by have := HP.out; have := HQ.out; omega
        have HPQ := Lib.hid hpq
        clear hpq
        by_cases hqp : m.getD q 0 < m.getD p 0
        · have HQP := Lib.hid (decide_eq_true hqp)
          have HMIN : Hid (∀ k, 0 < k → k < n → (k - 1) / 2 = i → m.getD q 0 ≤ m.getD k 0) := fun k k0 kn ki => by
            rcases HPQ.out k k0 kn ki with e | e <;> subst e <;> omega
          clear hqp
          go_wp2_with fail
          refine (HL.out _ (Quiet.refl wr) q p h2 h1 true HQP.out).mono ?_
          rintro e w1 ⟨rfl, hq1⟩
          have hml1 := m_less ((hq1.cell a).trans hca)
          by_cases hlt : m.getD q 0 < m.getD i 0
          · have HLT := Lib.hid (decide_eq_true hlt)
            clear hlt
            go_wp2_with fail
            refine (HL.out _ hq1 q i (by omega) hin2 true HLT.out).mono ?_
            rintro e w2 ⟨rfl, hqB⟩
            have hq2 := hq1.trans hqB
            have hmw := m_swap ((hq2.cell a).trans hca)
            go_wp2_with fail
            refine (HS.out _ hq2 q hin2 (by omega)).mono ?_
            rintro e w9 hsw
            have HW := Lib.hid (HDONE.out q _ (by omega) (by omega) HMIN.out (of_decide_eq_true HLT.out) hq2 e w9 hsw)
            obtain ⟨rfl, _⟩ := hsw
            go_wp2
            go_roundw
            case rel =>
              obtain ⟨m', a1, a2, a3, a4, a5, a6⟩ := HW.out
              exact ⟨q, m', by omega, rfl, a1, a2, a3, a4, a5, a6⟩
            case measure => simp [intOf]; have := HP.out; have := HQ.out; omega
          · have HLT := Lib.hid hlt
            have HLF := Lib.hid (decide_eq_false hlt)
            clear hlt
            go_wp2_with fail
            refine (HL.out _ hq1 q i (by omega) hin2 false HLF.out).mono ?_
            rintro e w2 ⟨rfl, hqB⟩
            have hq2 := hq1.trans hqB
            go_wp2
            go_ret
            exact ⟨_, m, rfl, hown.quiet hq2, HM.out, HSTOP.out q HMIN.out HLT.out, HI.out, HR.out, hkept.trans (Kept.quiet _ hq2)⟩
        · have HQP := Lib.hid (decide_eq_false hqp)
          have HMIN : Hid (∀ k, 0 < k → k < n → (k - 1) / 2 = i → m.getD p 0 ≤ m.getD k 0) := fun k k0 kn ki => by
            rcases HPQ.out k k0 kn ki with e | e <;> subst e <;> omega
          clear hqp
          go_wp2_with fail
          refine (HL.out _ (Quiet.refl wr) q p h2 h1 false HQP.out).mono ?_
          rintro e w1 ⟨rfl, hq1⟩
          have hml1 := m_less ((hq1.cell a).trans hca)
          by_cases hlt : m.getD p 0 < m.getD i 0
          · have HLT := Lib.hid (decide_eq_true hlt)
            clear hlt
            go_wp2_with fail
            refine (HL.out _ hq1 p i (by omega) hin2 true HLT.out).mono ?_
            rintro e w2 ⟨rfl, hqB⟩
            have hq2 := hq1.trans hqB
            have hmw := m_swap ((hq2.cell a).trans hca)
            go_wp2_with fail
            refine (HS.out _ hq2 p hin2 (by omega)).mono ?_
            rintro e w9 hsw
            have HW := Lib.hid (HDONE.out p _ (by omega) (by omega) HMIN.out (of_decide_eq_true HLT.out) hq2 e w9 hsw)
            obtain ⟨rfl, _⟩ := hsw
            go_wp2
            go_roundw
            case rel =>
              obtain ⟨m', a1, a2, a3, a4, a5, a6⟩ := HW.out
              exact ⟨p, m', by omega, rfl, a1, a2, a3, a4, a5, a6⟩
            case measure => simp [intOf]; have := HP.out; have := HQ.out; omega
          · have HLT := Lib.hid hlt
            have HLF := Lib.hid (decide_eq_false hlt)
            clear hlt
            go_wp2_with fail
            refine (HL.out _ hq1 p i (by omega) hin2 false HLF.out).mono ?_
            rintro e w2 ⟨rfl, hqB⟩
            have hq2 := hq1.trans hqB
            go_wp2
            go_ret
            exact ⟨_, m, rfl, hown.quiet hq2, HM.out, HSTOP.out p HMIN.out HLT.out, HI.out, HR.out, hkept.trans (Kept.quiet _ hq2)⟩
      · have h2' : n ≤ q := by omega
        have HMIN : Hid (∀ k, 0 < k → k < n → (k - 1) / 2 = i → m.getD p 0 ≤ m.getD k 0) := fun k k0 kn ki => by
          have e1 := HP.out
          have e2 := HQ.out
          have : k = p := by omega
          rw [this]; exact Int.le_refl _
        have hq1 := Quiet.refl wr
        by_cases hlt : m.getD p 0 < m.getD i 0
        · have HLT := Lib.hid (decide_eq_true hlt)
          clear hlt
          go_wp2_with fail
          refine (HL.out _ hq1 p i (by omega) hin2 true HLT.out).mono ?_
          rintro e w2 ⟨rfl, hqB⟩
          have hq2 := hq1.trans hqB
          have hmw := m_swap ((hq2.cell a).trans hca)
          go_wp2_with fail
          refine (HS.out _ hq2 p hin2 (by omega)).mono ?_
          rintro e w9 hsw
          have HW := Lib.hid (HDONE.out p _ (by omega) (by omega) HMIN.out (of_decide_eq_true HLT.out) hq2 e w9 hsw)
          obtain ⟨rfl, _⟩ := hsw
          go_wp2
          go_roundw
          case rel =>
            obtain ⟨m', a1, a2, a3, a4, a5, a6⟩ := HW.out
            exact ⟨p, m', by omega, rfl, a1, a2, a3, a4, a5, a6⟩
          case measure => simp [intOf]; have := HP.out; have := HQ.out; omega
        · have HLT := Lib.hid hlt
          have HLF := Lib.hid (decide_eq_false hlt)
          clear hlt
          go_wp2_with fail
          refine (HL.out _ hq1 p i (by omega) hin2 false HLF.out).mono ?_
          rintro e w2 ⟨rfl, hqB⟩
          have hq2 := hq1.trans hqB
          go_wp2
          go_ret
          exact ⟨_, m, rfl, hown.quiet hq2, HM.out, HSTOP.out p HMIN.out HLT.out, HI.out, HR.out, hkept.trans (Kept.quiet _ hq2)⟩
    · have h1' : n ≤ p := by omega
      clear hp hq
      go_wp2
      go_ret
      exact ⟨_, m, rfl, hown, HM.out, down_stop HDN.out (fun k k0 kn ki => by have := HP.out; omega), HI.out, HR.out, hkept⟩

end Go.Proofs.Ytafenijbglcppaa

/- heap.Push and heap.Pop of circ.ready in a field. -/
namespace Go.Proofs.Ytafenijbglcppaa
open Go.RowKit
set_option linter.unusedVariables false

/-- 'append(s, y)' at a named slice type t of ints. -/
theorem wpList_app1T {w : World} {ops : Array Oper} {rest : List Oper} {o : Oper} {a : Act} {Q : Exit → Act → World → Prop} (hgd : o.guard = none) (s x : Operand) (t : TypeId) (ht : Try.prog.underlying t = some (.slice 3))
    (ho : o.op = .call { callee := .builtin .append, args := #[s, x], argTypes := #[t, t] }) (B : Nat) (v : Value) (xs : List Int) (y : Int) (g : Nat)
    (hs : a.eval s = v) (hx : a.eval x = .slice (some ⟨g, 0, none⟩) 1 1) (hown : Own w B v xs) (hy : w.cell? ⟨g, 0, none⟩ = some (.int .i64 y)) (hlen : xs.length < 17592186044416) (hB : B ≤ w.heap.size)
    (h : ∀ v' w', Own w' B v' (xs ++ [y]) → w.grownBy w' v.ownBlock → (v'.ownBlock = v.ownBlock ∨ v'.ownBlock = some w.heap.size) → wpList Try.prog ops Q rest (a.put o.dst v') w') : wpList Try.prog ops Q (o :: rest) a w := by
  obtain ⟨i0, hi, hz0, hz1, hz2⟩ := info_parts info_int
  refine wpList_append_own_at _ hgd s x t ho B 3 i0 (.int .i64 0) 1 8 ht hi hz0 hz1 hz2 rfl (by decide) v xs.length _ hs hown ⟨g, 0, none⟩ 1 1 [.int .i64 y] hx (by simp) ?_ (by simp [Value.oneCell']) (by unfold maxLen; omega) (by omega) hB ?_
  · intro j u hj
    match j, hj with
    | 0, hj => simp at hj; subst hj; simpa [Addr.add] using hy
  · intro v' w' h1 h2 _ h3
    refine h v' w' ?_ h2 h3
    unfold Own
    rw [List.length_append, List.map_append]
    exact h1

/-- .. as a step of a region that draws its order. -/
theorem step_app1T {ops : Array Oper} {o : Oper} {a : Act} {w : World} {K : Act → World → Prop} {Q : Exit → Act → World → Prop} {E : Prop} (hg : o.guard = none) (s x : Operand) (t : TypeId) (ht : Try.prog.underlying t = some (.slice 3))
    (ho : o.op = .call { callee := .builtin .append, args := #[s, x], argTypes := #[t, t] }) (B : Nat) (v : Value) (xs : List Int) (y : Int) (g : Nat)
    (hs : a.eval s = v) (hx : a.eval x = .slice (some ⟨g, 0, none⟩) 1 1) (hown : Own w B v xs) (hy : w.cell? ⟨g, 0, none⟩ = some (.int .i64 y)) (hlen : xs.length < 17592186044416) (hB : B ≤ w.heap.size)
    (h : ∀ v' w', Own w' B v' (xs ++ [y]) → w.grownBy w' v.ownBlock → (v'.ownBlock = v.ownBlock ∨ v'.ownBlock = some w.heap.size) → K (a.put o.dst v') w') :
    if Region.wanted o (yielded ops a.tmps) = true then Oper.wp Try.prog o a w K Q else E := by
  have hw : Region.wanted o (yielded ops a.tmps) = true := by simp [Region.wanted, hg]
  rw [if_pos hw]
  obtain ⟨i0, hi, hz0, hz1, hz2⟩ := info_parts info_int
  obtain ⟨v', w', hr, h2, h3, h4, h5⟩ := run_append_own_at (P := Try.prog) w B t o.type 3 i0 (.int .i64 0) 1 8 ht hi hz0 hz1 hz2 rfl (by decide) v xs.length _ hown ⟨g, 0, none⟩ 1 1 [.int .i64 y] (by simp) (fun j u hj => by
    match j, hj with
    | 0, hj => simp at hj; subst hj; simpa [Addr.add] using hy) (by simp [Value.oneCell']) (by unfold maxLen; omega) (by omega) hB
  unfold Oper.wp execOp
  simp only [ho, resolve, invoke, builtin, Sem.run_bind, Sem.run_pure, Result.andThen_ok, List.map_toArray, List.map_cons, List.map_nil, hs, hx, hr]
  refine h v' w' ?_ h3 h5
  unfold Own
  rw [List.length_append, List.map_append]
  exact h2

theorem setCell_obj {w : World} {b o : Nat} {v : Value} {cs : Array Value} {T : TypeId} {fz : Nat × Nat} (h : w.heap[b]? = some (.cells cs T fz)) : (w.setCell ⟨b, o, none⟩ v).heap[b]? = some (.cells (cs.setIfInBounds o v) T fz) := by
  simp [World.setCell, Array.getElem?_modify, h]
/-- The field at offset po of the block pb, whose cells are cs, holds v. -/
def Fld (w : World) (pb po : Nat) (cs : Array Value) (T : TypeId) (v : Value) : Prop := w.heap[pb]? = some (.cells cs T (0, 0)) ∧ cs[po]? = some v
theorem Fld.lt {w : World} {pb po : Nat} {cs : Array Value} {T : TypeId} {v : Value} (h : Fld w pb po cs T v) : pb < w.heap.size := (Array.getElem?_eq_some_iff.1 h.1).1
theorem Fld.cell {w : World} {pb po : Nat} {cs : Array Value} {T : TypeId} {v : Value} (h : Fld w pb po cs T v) : w.cell? ⟨pb, po, none⟩ = some v := by
  simp [World.cell?, h.1, h.2]
theorem Fld.frozen {w : World} {pb po : Nat} {cs : Array Value} {T : TypeId} {v : Value} (h : Fld w pb po cs T v) : w.frozen? ⟨pb, po, none⟩ = false := by
  simp [World.frozen?, h.1]
theorem Fld.kept {S : Nat → Prop} {w w' : World} {pb po : Nat} {cs : Array Value} {T : TypeId} {v : Value} (h : Fld w pb po cs T v) (k : Kept S w w') (hS : ¬ S pb) : Fld w' pb po cs T v := ⟨(k.block pb h.lt hS).trans h.1, h.2⟩
theorem Fld.store {w : World} {pb po : Nat} {cs : Array Value} {T : TypeId} {v : Value} (h : Fld w pb po cs T v) (u : Value) : Fld (w.setCell ⟨pb, po, none⟩ u) pb po (cs.setIfInBounds po u) T u := by
  have hlt : po < cs.size := (Array.getElem?_eq_some_iff.1 h.2).1
  exact ⟨setCell_obj h.1, by simp [hlt]⟩
theorem Fld.heapEq {w w' : World} {pb po : Nat} {cs : Array Value} {T : TypeId} {v : Value} (h : Fld w pb po cs T v) (e : w'.heap = w.heap) : Fld w' pb po cs T v := ⟨by rw [e]; exact h.1, h.2⟩

/-- What becomes of a slice of the call's own in a field: it holds m, its row is the old one or new; but for the two blocks nothing has turned. -/
def FldNow (w : World) (B pb po : Nat) (cs : Array Value) (T : TypeId) (v : Value) (v' : Value) (m : List Int) (w' : World) : Prop :=
  Own w' B v' m ∧ Fld w' pb po (cs.setIfInBounds po v') T v' ∧ (v'.ownBlock = v.ownBlock ∨ ∃ g, v'.ownBlock = some g ∧ w.heap.size ≤ g) ∧ Kept (fun k => v.ownBlock = some k ∨ k = pb) w w'

set_option maxHeartbeats 1600000 in
set_option maxRecDepth 100000 in
theorem wpush_any (v : Value) (l : List Int) (x : Int) (B : Nat) (pb po : Nat) (cs : Array Value) (T : TypeId) (w : World) (H : Own w B v l) (hF : Fld w pb po cs T v) (hl : l.length ≤ 1000000) (hB : B ≤ w.heap.size) (hne : v.ownBlock ≠ some pb) :
    Calls Try.prog 112 #[.pointer (some ⟨pb, po, none⟩), .iface 3 (.int .i64 x)] w (fun e w' => ∃ v', e = .returned (.tuple #[]) ∧ FldNow w B pb po cs T v v' (l ++ [x]) w') := by
  have hpb := hF.lt
  have ha := hF.cell
  have hf := hF.frozen
  have HO := Lib.hid H
  have HF := Lib.hid hF
  have HNE := Lib.hid hne
  have HB := Lib.hid hB
  have HL := Lib.hid hl
  clear H hne hB hl hF
  have hta : ∀ w : World, (Instr.typeAssert (.iface 3 (.int .i64 x)) 20 3 false).run Try.prog w = .ok (.int .i64 x) w := fun _ => by kernel_rfl
  go_enter Try.func112, Try.ntmps112
  go_wp2_with fail
  go_region_law (refine step_app1T rfl (.tmp 7) (.tmp 10) 85 Try.underlying85 rfl B v l x w.heap.size rfl rfl (HO.out.alloc _) (by simp) (by have := HL.out; omega) (by have := HB.out; simp; omega) ?_; intro v' w1 hown1 hgr1 hloc1; obtain ⟨g', cap', rfl, _, _⟩ := hown1.at (by simp); have hk1 : Kept (fun k => v.ownBlock = some k) w w1 := (Kept.quiet _ (⟨1, rfl⟩ : Quiet w w.drew)).trans ((Kept.alloc _ _ _).trans (Kept.of_grown hgr1)); have hF1 := HF.out.kept hk1 HNE.out; have hc1 := hF1.cell; have hf1 := hF1.frozen; have HK1 := Lib.hid hk1; have HF1 := Lib.hid hF1; have HW1 := Lib.hid hown1; have HLC := Lib.hid hloc1; clear hk1 hF1 hown1 hloc1 hgr1)
  all_goals
    go_end0
    have hk1 := HK1.out
    have el : (l ++ [x]).length = l.length + 1 := by simp
    have hw := HW1.out
    rw [el] at hw
    have hlc := HLC.out
    have hg' : g' ≠ pb := by
      rcases hlc with h | h
      · exact fun e => HNE.out (by rw [← h, e]; rfl)
      · simp [Value.ownBlock] at h; omega
    refine ⟨_, rfl, (Kept.setCell w1 ⟨pb, po, none⟩ _).row hw (fun g hg => by simp [Value.ownBlock] at hg; subst hg; exact hg'), HF1.out.store _, ?_, ?_⟩
    · rcases hlc with h | h
      · exact Or.inl h
      · exact Or.inr ⟨_, h, by simp⟩
    · exact Kept.next (S := fun k => v.ownBlock = some k ∨ k = pb) (hk1.mono (fun k _ h => Or.inl h)) (Kept.setCell w1 ⟨pb, po, none⟩ _) (fun i _ h => Or.inr h)

/-- The slice shortened by one. -/
theorem Own.init {w : World} {B g n c : Nat} {xs : List Int} {x : Int} (h : Own w B (.slice (some ⟨g, 0, none⟩) n c) (xs ++ [x])) : Own w B (.slice (some ⟨g, 0, none⟩) xs.length c) xs := by
  refine ⟨by simp, ?_⟩
  rcases h.2 with ⟨hv, _⟩ | ⟨g', cap, cur, hv, hB, hg, hnc, hcm, hcs, htk⟩
  · cases hv
  · simp at hv
    obtain ⟨rfl, rfl, rfl⟩ := hv
    refine .inr ⟨g, c, cur, rfl, hB, hg, by simp at hnc; omega, hcm, hcs, ?_⟩
    have := congrArg (List.take xs.length) htk
    rw [List.take_take] at this
    simp at this ⊢
    exact this
theorem last_of {l : List Int} {n : Nat} (h : l.length = n + 1) : l = l.take n ++ [l.getD n 0] := by
  have e : l.take (n + 1) = l.take n ++ [l.getD n 0] := by rw [List.take_succ_eq_append_getElem (by omega)]; simp [List.getD, show n < l.length by omega]
  rw [← e, List.take_of_length_le (by omega)]

set_option maxHeartbeats 1600000 in
set_option maxRecDepth 100000 in
theorem wpop_any (g cap : Nat) (l : List Int) (x : Int) (B : Nat) (pb po : Nat) (cs : Array Value) (T : TypeId) (w : World) (H : Own w B (.slice (some ⟨g, 0, none⟩) (l.length + 1) cap) (l ++ [x])) (hF : Fld w pb po cs T (.slice (some ⟨g, 0, none⟩) (l.length + 1) cap)) (hl : l.length ≤ 1000000) (hne : g ≠ pb) :
    Calls Try.prog 111 #[.pointer (some ⟨pb, po, none⟩)] w (fun e w' => e = .returned (.iface 3 (.int .i64 x)) ∧ FldNow w B pb po cs T (.slice (some ⟨g, 0, none⟩) (l.length + 1) cap) (.slice (some ⟨g, 0, none⟩) l.length cap) l w') := by
  have hpb := hF.lt
  have ha := hF.cell
  have hf := hF.frozen
  have hx := H.cell l.length (by simp)
  rw [show (l ++ [x]).getD l.length 0 = x from by simp] at hx
  have hcap : l.length + 1 ≤ cap := by
    rcases H.2 with ⟨hv, _⟩ | ⟨g', cap', cur, hv, hB, hg, hnc, hcm, hcs, htk⟩
    · cases hv
    · simp at hv hnc
      omega
  have hI := H.init
  have hres := (Kept.setCell w ⟨pb, po, none⟩ (.slice (some ⟨g, 0, none⟩) l.length cap)).row hI (fun k hk => by simp [Value.ownBlock] at hk; subst hk; exact hne)
  have HR : Hid (FldNow w B pb po cs T (.slice (some ⟨g, 0, none⟩) (l.length + 1) cap) (.slice (some ⟨g, 0, none⟩) l.length cap) l (w.setCell ⟨pb, po, none⟩ (.slice (some ⟨g, 0, none⟩) l.length cap))) :=
    ⟨hres, hF.store _, Or.inl rfl, (Kept.setCell w ⟨pb, po, none⟩ _).mono fun k _ h => Or.inr h⟩
  clear H hF hI hres
  go_enter Try.func111, Try.ntmps111
  go_wp2
  go_ret
  exact ⟨rfl, HR.out⟩

end Go.Proofs.Ytafenijbglcppaa

/- heap.Push and heap.Pop over circ.ready. -/
namespace Go.Proofs.Ytafenijbglcppaa
open Go.RowKit
set_option linter.unusedVariables false

theorem inN_mem (l : List Int) (x : Int) : inN l l.length x ↔ x ∈ l := by
  constructor
  · rintro ⟨k, hk, e⟩; rw [← e]; simp [List.getD, hk]
  · intro h
    obtain ⟨k, hk, e⟩ := List.getElem_of_mem h
    exact ⟨k, hk, by simp [List.getD, hk, e]⟩
theorem FldNow.next {w w1 w2 : World} {B pb po : Nat} {cs : Array Value} {T : TypeId} {v v1 : Value} {m m2 : List Int} {g : Nat} (h : FldNow w B pb po cs T v v1 m w1) (hpb : pb < w.heap.size) (hg : v1.ownBlock = some g) (hne : g ≠ pb) (ho : Own w2 B v1 m2) (hk : Kept (fun k => k = g) w1 w2) : FldNow w B pb po cs T v v1 m2 w2 := by
  obtain ⟨h1, h2, h3, h4⟩ := h
  refine ⟨ho, h2.kept hk (fun e => hne e.symm), h3, h4.next hk fun i hi e => ?_⟩
  subst e
  rcases h3 with h | ⟨g', h, hge⟩
  · exact Or.inl (by rw [← h, hg])
  · rw [hg] at h
    have : i = g' := by simpa using h
    omega

/-- What a push onto the heap leaves. -/
def HPush (w : World) (B pb po : Nat) (cs : Array Value) (T : TypeId) (v : Value) (l : List Int) (x : Int) (e : Ending) (w' : World) : Prop :=
  ∃ v' m, e = .returned (.tuple #[]) ∧ FldNow w B pb po cs T v v' m w' ∧ hp m m.length ∧ m.length = l.length + 1 ∧ ∀ y, y ∈ m ↔ y = x ∨ y ∈ l

set_option maxHeartbeats 1600000 in
set_option maxRecDepth 100000 in
theorem hpush_any (v : Value) (l : List Int) (x : Int) (B : Nat) (pb po : Nat) (cs : Array Value) (T : TypeId) (w : World) (H : Own w B v l) (hF : Fld w pb po cs T v) (hl : l.length < 1000000) (hB : B ≤ w.heap.size) (hne : v.ownBlock ≠ some pb) (hh : hp l l.length) :
    Calls Try.prog 39 #[.iface 87 (.pointer (some ⟨pb, po, none⟩)), .iface 3 (.int .i64 x)] w (HPush w B pb po cs T v l x) := by
  have hpb := hF.lt
  have HC := Lib.hid (wpush_any v l x B pb po cs T w H hF (by omega) hB hne)
  have HH := Lib.hid hh
  have HNE := Lib.hid hne
  clear H hF hB hne hh
  have hm1 := fun n => m_push n ⟨pb, po, none⟩ w
  go_enter Try.func39, Try.ntmps39
  go_wp2_with fail
  refine HC.out.mono ?_
  rintro e w1 ⟨v1, rfl, hnow⟩
  have hown := hnow.1
  have el : (l ++ [x]).length = l.length + 1 := by simp
  obtain ⟨g1, cap1, rfl, hB1, hg1⟩ := hown.at (by omega)
  have hne1 : g1 ≠ pb := by
    rcases hnow.2.2.1 with h | ⟨g', h, hge⟩
    · exact fun e => HNE.out (by rw [← h, e]; rfl)
    · simp [Value.ownBlock] at h; omega
  have hml := m_len hnow.2.1.cell
  have HN := Lib.hid hnow
  have HW := Lib.hid (wlen_any _ (l ++ [x]) B w1 hown)
  have HUP := Lib.hid (up_any g1 cap1 ⟨pb, po, none⟩ (l ++ [x]) B l.length w1 hown hnow.2.1.cell (fun e => hne1 e.symm) (by omega) (by omega) (by rw [el]; exact hp_push x HH.out))
  clear hown hnow
  rw [el] at hml
  go_wp2_with fail
  refine ((by have := HW.out; rw [el] at this; exact this : Calls _ _ _ _ _)).mono ?_
  rintro e w2 ⟨rfl, rfl⟩
  have hcast : ((l.length + 1 : Nat) : Int) - 1 = (l.length : Int) := by omega
  go_wp2_with fail
  refine ((by have := HUP.out; exact this : Calls _ _ _ _ _)).mono ?_
  rintro e w3 ⟨m, rfl, hown3, hlen3, hhp, hin, hk3⟩
  have hres : FldNow w B pb po cs T v (.slice (some ⟨g1, 0, none⟩) (l ++ [x]).length cap1) m w3 := HN.out.next hpb rfl hne1 hown3 hk3
  have HR : Hid (HPush w B pb po cs T v l x (.returned (.tuple #[])) w3) := ⟨_, m, rfl, hres, by rw [hlen3]; exact hhp, by rw [hlen3, el], fun y => by
    rw [← inN_mem, hlen3, hin, inN_mem]
    simp [or_comm]⟩
  clear hres hhp hin hown3
  go_wp2
  go_end0
  exact HR.out

end Go.Proofs.Ytafenijbglcppaa

/- heap.Pop over circ.ready. -/
namespace Go.Proofs.Ytafenijbglcppaa
open Go.RowKit
set_option linter.unusedVariables false

/-- What a pop off the heap leaves: x was the least one. -/
def HPop (w : World) (B pb po : Nat) (cs : Array Value) (T : TypeId) (v : Value) (l : List Int) (e : Ending) (w' : World) : Prop :=
  ∃ v' m, e = .returned (.iface 3 (.int .i64 (l.getD 0 0))) ∧ FldNow w B pb po cs T v v' m w' ∧ hp m m.length ∧ m.length + 1 = l.length ∧ (∀ y, y ∈ l ↔ y = l.getD 0 0 ∨ y ∈ m) ∧ ∀ y ∈ l, l.getD 0 0 ≤ y

theorem hp_take {l : List Int} {n : Nat} (h : hp l n) (hn : n ≤ l.length) : hp (l.take n) (l.take n).length := by
  have e : (l.take n).length = n := by simp; omega
  have g : ∀ k, k < n → (l.take n).getD k 0 = l.getD k 0 := fun k hk => by simp [List.getD, hk]
  rw [e]
  intro k k0 hk
  rw [g _ (by omega), g _ hk]
  exact h k k0 hk
theorem inN_take {l : List Int} {n : Nat} (hn : n ≤ l.length) (y : Int) : inN l n y ↔ y ∈ l.take n := by
  have e : (l.take n).length = n := by simp; omega
  have g : ∀ k, k < n → (l.take n).getD k 0 = l.getD k 0 := fun k hk => by simp [List.getD, hk]
  rw [← inN_mem, e]
  constructor
  · rintro ⟨k, hk, h⟩; exact ⟨k, hk, by rw [g k hk]; exact h⟩
  · rintro ⟨k, hk, h⟩; exact ⟨k, hk, by rw [← g k hk]; exact h⟩

set_option maxHeartbeats 1600000 in
set_option maxRecDepth 100000 in
theorem hpop_n (g cap : Nat) (l : List Int) (n : Nat) (B : Nat) (pb po : Nat) (cs : Array Value) (T : TypeId) (w : World) (H : Own w B (.slice (some ⟨g, 0, none⟩) (n + 1) cap) l) (hF : Fld w pb po cs T (.slice (some ⟨g, 0, none⟩) (n + 1) cap)) (hn : l.length = n + 1) (hl : n < 1000000) (hne1 : g ≠ pb) (hh : hp l (n + 1)) :
    Calls Try.prog 41 #[.iface 87 (.pointer (some ⟨pb, po, none⟩))] w (HPop w B pb po cs T (.slice (some ⟨g, 0, none⟩) (n + 1) cap) l) := by
  have hpb := hF.lt
  have hml := m_len hF.cell
  have hms := m_swap hF.cell
  have HW : Hid (Calls Try.prog 40 #[.slice (some ⟨g, 0, none⟩) (n + 1) cap] w fun e w' => e = .returned (.int .i64 ((n + 1 : Nat) : Int)) ∧ w = w') := by
    have := wlen_any _ l B w H; rw [hn] at this; exact this
  have HSW : Hid (Calls Try.prog 110 #[.slice (some ⟨g, 0, none⟩) (n + 1) cap, .int .i64 0, .int .i64 n] w fun e w' => e = .returned (.tuple #[]) ∧ Own w' B (.slice (some ⟨g, 0, none⟩) (n + 1) cap) (swp l 0 n) ∧ Kept (fun k => k = g) w w') := by
    have := wswap_any g cap l B 0 n w (by rw [hn]; exact H) (by omega) (by omega) (by omega); unfold Swapped at this; rw [hn] at this; exact this
  have hsl : (swp l 0 n).length = n + 1 := by rw [swp_len]; exact hn
  have HD : Hid (∀ w2, Own w2 B (.slice (some ⟨g, 0, none⟩) (n + 1) cap) (swp l 0 n) → Fld w2 pb po cs T (.slice (some ⟨g, 0, none⟩) (n + 1) cap) → Calls Try.prog 61 #[.iface 87 (.pointer (some ⟨pb, po, none⟩)), .int .i64 0, .int .i64 n] w2 fun e w' =>
      ∃ b m, e = .returned (.bool b) ∧ Own w' B (.slice (some ⟨g, 0, none⟩) (n + 1) cap) m ∧ m.length = n + 1 ∧ hp m n ∧ (∀ x, inN m n x ↔ inN (swp l 0 n) n x) ∧ (∀ k, n ≤ k → m.getD k 0 = (swp l 0 n).getD k 0) ∧ Kept (fun k => k = g) w2 w') := by
    intro w2 ho hf
    have := down_any g cap ⟨pb, po, none⟩ (swp l 0 n) B 0 n w2 (by rw [hsl]; exact ho) (by rw [hsl]; exact hf.cell) (fun e => hne1 e.symm) (by omega) (by omega) (by omega) (hp_pop hh (by omega))
    unfold HeapedN at this; rw [hsl] at this; exact this
  have HR : Hid (∀ w2 w3 m, Kept (fun k => k = g) w w2 → Own w3 B (.slice (some ⟨g, 0, none⟩) (n + 1) cap) m → m.length = n + 1 → hp m n → (∀ x, inN m n x ↔ inN (swp l 0 n) n x) → (∀ k, n ≤ k → m.getD k 0 = (swp l 0 n).getD k 0) → Kept (fun k => k = g) w2 w3 →
      Calls Try.prog 111 #[.pointer (some ⟨pb, po, none⟩)] w3 fun e w4 => e = .returned (.iface 3 (.int .i64 (l.getD 0 0))) ∧ HPop w B pb po cs T (.slice (some ⟨g, 0, none⟩) (n + 1) cap) l e w4) := by
    intro w2 w3 m hk2 hown3 hlen3 hhp hin hrest hk3
    have hkk : Kept (fun k => k = g) w w3 := hk2.trans hk3
    have hF3 := hF.kept hkk (fun e => hne1 e.symm)
    have e2 : (swp l 0 n).getD n 0 = l.getD 0 0 := by rw [swp_at _ _ _ _ (by omega) (by omega), if_pos rfl]
    have hsp : m = m.take n ++ [l.getD 0 0] := by
      have := last_of hlen3
      rw [hrest n (Nat.le_refl _), e2] at this
      exact this
    have htl : (m.take n).length = n := by simp; omega
    have hmem : ∀ y, y ∈ l ↔ y = l.getD 0 0 ∨ y ∈ m.take n := fun y => by
      rw [← inN_take (by omega), hin]
      have e1 : inN l (n + 1) y ↔ inN (swp l 0 n) (n + 1) y := (swp_in l 0 n (n + 1) y (by omega) (by omega) (by omega)).symm
      rw [← inN_mem, hn, e1]
      constructor
      · rintro ⟨k, hk, e⟩
        by_cases h : k = n
        · subst h; exact Or.inl (by rw [← e, e2])
        · exact Or.inr ⟨k, by omega, e⟩
      · rintro (e | ⟨k, hk, e⟩)
        · exact ⟨n, by omega, by rw [e2, e]⟩
        · exact ⟨k, by omega, e⟩
    have hmin : ∀ y ∈ l, l.getD 0 0 ≤ y := fun y hy => by
      obtain ⟨k, hk, e⟩ := (inN_mem l y).2 hy
      rw [← e]
      exact hp_least hh k (by omega)
    have hc := wpop_any g cap (m.take n) (l.getD 0 0) B pb po cs T w3 (by rw [htl, ← hsp]; exact hown3) (by rw [htl]; exact hF3) (by omega) hne1
    refine hc.mono ?_
    rintro e w4 ⟨he, h1, h2, h3, h4⟩
    refine ⟨he, .slice (some ⟨g, 0, none⟩) (m.take n).length cap, m.take n, he, ⟨h1, h2, Or.inl rfl, ?_⟩, hp_take hhp (by omega), by omega, hmem, hmin⟩
    exact (hkk.mono fun k _ e => Or.inl (by rw [e]; rfl)).next h4 fun i _ e => by
      rcases e with e | e
      · exact Or.inl (by rw [← e]; rfl)
      · exact Or.inr e
  have HF := Lib.hid hF
  have hcast : ((n + 1 : Nat) : Int) - 1 = (n : Int) := by omega
  clear H hF hh hsl hn
  generalize l.getD 0 0 = x at *
  go_enter Try.func41, Try.ntmps41
  go_wp2_with fail
  refine HW.out.mono ?_
  rintro e w1 ⟨rfl, rfl⟩
  go_wp2_with fail
  refine HSW.out.mono ?_
  rintro e w2 ⟨rfl, hown2, hk2⟩
  go_wp2_with fail
  refine (HD.out w2 hown2 (HF.out.kept hk2 (fun e => hne1 e.symm))).mono ?_
  rintro e w3 ⟨b, m, rfl, hown3, hlen3, hhp, hin, hrest, hk3⟩
  have HP := Lib.hid (HR.out w2 w3 m hk2 hown3 hlen3 hhp hin hrest hk3)
  have hmp := fun k => m_pop k ⟨pb, po, none⟩ w3
  clear hown3 hlen3 hhp hin hrest hk3 hown2 hk2
  go_wp2_with fail
  refine HP.out.mono ?_
  rintro e w4 ⟨rfl, h4⟩
  have HQ := Lib.hid h4
  clear h4
  go_wp2
  go_ret
  exact HQ.out
theorem hpop_any (v : Value) (l : List Int) (n : Nat) (B : Nat) (pb po : Nat) (cs : Array Value) (T : TypeId) (w : World) (H : Own w B v l) (hF : Fld w pb po cs T v) (hn : l.length = n + 1) (hl : n < 1000000) (hne : v.ownBlock ≠ some pb) (hh : hp l l.length) :
    Calls Try.prog 41 #[.iface 87 (.pointer (some ⟨pb, po, none⟩))] w (HPop w B pb po cs T v l) := by
  obtain ⟨g, cap, rfl, hB1, hg1⟩ := H.at (by omega)
  rw [hn] at H hF hh ⊢
  exact hpop_n g cap l n B pb po cs T w H hF hn hl (fun e => hne (by rw [e]; rfl)) hh

end Go.Proofs.Ytafenijbglcppaa
