/- Joined texts: HeapP, UnitsP. -/
/- A heap of integers in a list: what exchanging two of them does. -/
namespace Go.Proofs.YtmhjpbhldaagmaaDoor
set_option linter.unusedVariables false

def swp (l : List Int) (i j : Nat) : List Int := (l.set i (l.getD j 0)).set j (l.getD i 0)
/-- Of the first n, no one is less than the one above it. -/
def hp (l : List Int) (n : Nat) : Prop := ∀ k, 0 < k → k < n → l.getD ((k - 1) / 2) 0 ≤ l.getD k 0
/-- .. but perhaps the one at j. -/
def hpU (l : List Int) (n j : Nat) : Prop :=
  (∀ k, 0 < k → k < n → k ≠ j → l.getD ((k - 1) / 2) 0 ≤ l.getD k 0) ∧ ∀ k, 0 < k → k < n → (k - 1) / 2 = j → 0 < j → l.getD ((j - 1) / 2) 0 ≤ l.getD k 0
/-- .. but perhaps those below the one at i. -/
def hpD (l : List Int) (n i : Nat) : Prop :=
  (∀ k, 0 < k → k < n → (k - 1) / 2 ≠ i → l.getD ((k - 1) / 2) 0 ≤ l.getD k 0) ∧ ∀ k, 0 < k → k < n → (k - 1) / 2 = i → 0 < i → l.getD ((i - 1) / 2) 0 ≤ l.getD k 0
def inN (l : List Int) (n : Nat) (x : Int) : Prop := ∃ k, k < n ∧ l.getD k 0 = x

theorem getD_set (l : List Int) (i k : Nat) (x : Int) (hi : i < l.length) : (l.set i x).getD k 0 = if k = i then x else l.getD k 0 := by
  simp only [List.getD_eq_getElem?_getD, List.getElem?_set]
  by_cases h : i = k
  · subst h; simp [hi]
  · rw [if_neg h, if_neg (fun e => h e.symm)]
theorem swp_len (l : List Int) (i j : Nat) : (swp l i j).length = l.length := by simp [swp]
theorem swp_at (l : List Int) (i j k : Nat) (hi : i < l.length) (hj : j < l.length) : (swp l i j).getD k 0 = if k = j then l.getD i 0 else if k = i then l.getD j 0 else l.getD k 0 := by
  unfold swp
  rw [getD_set _ _ _ _ (by simpa using hj)]
  by_cases h : k = j
  · rw [if_pos h, if_pos h]
  · rw [if_neg h, if_neg h, getD_set _ _ _ _ hi]
theorem swp_in (l : List Int) (i j n : Nat) (x : Int) (hi : i < n) (hj : j < n) (hn : n ≤ l.length) : inN (swp l i j) n x ↔ inN l n x := by
  constructor
  · rintro ⟨k, hk, e⟩
    rw [swp_at _ _ _ _ (by omega) (by omega)] at e
    by_cases h1 : k = j
    · rw [if_pos h1] at e; exact ⟨i, hi, e⟩
    · rw [if_neg h1] at e
      by_cases h2 : k = i
      · rw [if_pos h2] at e; exact ⟨j, hj, e⟩
      · rw [if_neg h2] at e; exact ⟨k, hk, e⟩
  · rintro ⟨k, hk, e⟩
    by_cases h1 : k = j
    · subst h1
      by_cases h2 : i = k
      · subst h2; exact ⟨i, hi, by rw [swp_at _ _ _ _ (by omega) (by omega), if_pos rfl, e]⟩
      · exact ⟨i, hi, by rw [swp_at _ _ _ _ (by omega) (by omega), if_neg h2, if_pos rfl, e]⟩
    · by_cases h2 : k = i
      · subst h2; exact ⟨j, hj, by rw [swp_at _ _ _ _ (by omega) (by omega), if_pos rfl, e]⟩
      · exact ⟨k, hk, by rw [swp_at _ _ _ _ (by omega) (by omega), if_neg h1, if_neg h2, e]⟩
theorem swp_self (l : List Int) (i : Nat) (hi : i < l.length) : ∀ k, (swp l i i).getD k 0 = l.getD k 0 := by
  intro k
  rw [swp_at _ _ _ _ hi hi]
  by_cases h : k = i
  · rw [if_pos h, h]
  · rw [if_neg h, if_neg h]

theorem hp_least {l : List Int} {n : Nat} (h : hp l n) : ∀ k, k < n → l.getD 0 0 ≤ l.getD k 0 := by
  intro k
  induction k using Nat.strongRecOn with
  | ind k ih =>
    intro hk
    by_cases h0 : k = 0
    · rw [h0]; exact Int.le_refl _
    · have h1 := h k (by omega) hk
      have h2 := ih ((k - 1) / 2) (by omega) (by omega)
      omega
theorem up_top {l : List Int} {n : Nat} (h : hpU l n 0) : hp l n := fun k h0 hk => h.1 k h0 hk (by omega)
theorem up_stop {l : List Int} {n j : Nat} (h : hpU l n j) (hj : l.getD ((j - 1) / 2) 0 ≤ l.getD j 0) : hp l n := fun k h0 hk => by
  by_cases e : k = j
  · rw [e]; exact hj
  · exact h.1 k h0 hk e
theorem up_swap {l : List Int} {n j : Nat} (h : hpU l n j) (h0 : 0 < j) (hj : j < n) (hn : n ≤ l.length) (hlt : l.getD j 0 < l.getD ((j - 1) / 2) 0) : hpU (swp l ((j - 1) / 2) j) n ((j - 1) / 2) := by
  obtain ⟨h1, h2⟩ := h
  have sw := fun k => swp_at l ((j - 1) / 2) j k (by omega) (by omega)
  have hij : (j - 1) / 2 < j := by omega
  generalize hi : (j - 1) / 2 = i at *
  refine ⟨fun k k0 kn ki => ?_, fun k k0 kn ki i0 => ?_⟩
  · rw [sw, sw]
    by_cases e1 : k = j
    · subst e1
      rw [if_pos rfl, hi, if_neg (by omega), if_pos rfl]; omega
    · rw [if_neg e1 (α := Int), if_neg ki (α := Int)]
      have := h1 k k0 kn e1
      by_cases e2 : (k - 1) / 2 = j
      · rw [if_pos e2]; exact h2 k k0 kn e2 h0
      · rw [if_neg e2]
        by_cases e3 : (k - 1) / 2 = i
        · rw [if_pos e3]; rw [e3] at this; omega
        · rw [if_neg e3]; exact this
  · rw [sw, sw, if_neg (by omega), if_neg (by omega)]
    have hpi := h1 i i0 (by omega) (by omega)
    by_cases e1 : k = j
    · rw [if_pos e1]; exact hpi
    · rw [if_neg e1, if_neg (by omega)]
      have := h1 k k0 kn e1
      rw [ki] at this
      omega
theorem down_stop {l : List Int} {n i : Nat} (h : hpD l n i) (hc : ∀ k, 0 < k → k < n → (k - 1) / 2 = i → l.getD i 0 ≤ l.getD k 0) : hp l n := fun k h0 hk => by
  by_cases e : (k - 1) / 2 = i
  · rw [e]; exact hc k h0 hk e
  · exact h.1 k h0 hk e
theorem down_swap {l : List Int} {n i j : Nat} (h : hpD l n i) (h0 : 0 < j) (hj : j < n) (hp : (j - 1) / 2 = i) (hn : n ≤ l.length) (hlt : l.getD j 0 < l.getD i 0)
    (hc : ∀ k, 0 < k → k < n → (k - 1) / 2 = i → l.getD j 0 ≤ l.getD k 0) : hpD (swp l i j) n j := by
  obtain ⟨h1, h2⟩ := h
  have sw := fun k => swp_at l i j k (by omega) (by omega)
  refine ⟨fun k k0 kn ki => ?_, fun k k0 kn ki _ => ?_⟩
  · rw [sw, sw, if_neg ki (α := Int)]
    by_cases e1 : (k - 1) / 2 = i
    · rw [if_pos e1]
      have := hc k k0 kn e1
      by_cases e2 : k = j
      · rw [if_pos e2]; omega
      · rw [if_neg e2, if_neg (by omega)]; exact this
    · rw [if_neg e1]
      have e2 : k ≠ j := fun e => e1 (by rw [e]; exact hp)
      rw [if_neg e2]
      by_cases e3 : k = i
      · rw [if_pos e3, e3]; exact h2 j h0 hj hp (by omega)
      · rw [if_neg e3]; exact h1 k k0 kn e1
  · have := h1 k k0 kn (by omega)
    rw [ki] at this
    rw [sw, sw, if_neg (by omega), if_pos hp, if_neg (by omega), if_neg (by omega)]
    exact this
theorem hp_push {l : List Int} (x : Int) (h : hp l l.length) : hpU (l ++ [x]) (l.length + 1) l.length := by
  have ga : ∀ k, k < l.length → (l ++ [x]).getD k 0 = l.getD k 0 := fun k hk => by simp [List.getD, hk, List.getElem?_append]
  refine ⟨fun k k0 kn kl => ?_, fun k k0 kn ki => by omega⟩
  rw [ga _ (by omega), ga _ (by omega)]
  exact h k k0 (by omega)
theorem hp_pop {l : List Int} {n : Nat} (h : hp l (n + 1)) (hn : n < l.length) : hpD (swp l 0 n) n 0 := by
  have sw := fun k => swp_at l 0 n k (by omega) hn
  refine ⟨fun k k0 kn kp => ?_, fun k k0 kn _ h0 => by omega⟩
  rw [sw, sw, if_neg (by omega), if_neg kp (α := Int), if_neg (by omega), if_neg (by omega)]
  exact h k k0 (by omega)

end Go.Proofs.YtmhjpbhldaagmaaDoor

/- Unit propagation, reckoned: what a run is, and what the counters and the waiting clauses tell of it. -/
namespace Go.Proofs.YtmhjpbhldaagmaaDoor
set_option linter.unusedVariables false

def nonF (H c : List Int) : List Int := c.filter (fun x => decide (-x ∉ H))
def openL (H c : List Int) : List Int := c.filter (fun x => decide (x ∉ H ∧ -x ∉ H))
def decC (H c : List Int) : Prop := (∀ x ∈ c, x ∉ H) ∧ (openL H c).length ≤ 1
def firstC (f : List (List Int)) (H : List Int) (i : Nat) : Prop := i < f.length ∧ decC H (f.getD i []) ∧ ∀ j, j < i → ¬ decC H (f.getD j [])

/-- From the literals H on: the steps and the clause that is false (-1: none). -/
inductive Run (f : List (List Int)) : List Int → List (Int × Nat) → Int → Prop
  | done {H : List Int} : (∀ i, i < f.length → ¬ decC H (f.getD i [])) → Run f H [] (-1)
  | conf {H : List Int} {i : Nat} : firstC f H i → openL H (f.getD i []) = [] → Run f H [] i
  | step {H : List Int} {i : Nat} {x : Int} {l : List (Int × Nat)} {c : Int} : firstC f H i → openL H (f.getD i []) = [x] → Run f (x :: H) l c → Run f H ((x, i) :: l) c

theorem firstC_one {f : List (List Int)} {H : List Int} {i j : Nat} (h : firstC f H i) (k : firstC f H j) : i = j := by
  rcases Nat.lt_trichotomy i j with h1 | h1 | h1
  · exact absurd h.2.1 (k.2.2 i h1)
  · exact h1
  · exact absurd k.2.1 (h.2.2 j h1)
theorem Run.one {f : List (List Int)} {H : List Int} {l m : List (Int × Nat)} {c d : Int} (h : Run f H l c) (k : Run f H m d) : l = m ∧ c = d := by
  induction h generalizing m d with
  | done hn =>
    cases k with
    | done _ => exact ⟨rfl, rfl⟩
    | conf h1 _ => exact absurd h1.2.1 (hn _ h1.1)
    | step h1 _ _ => exact absurd h1.2.1 (hn _ h1.1)
  | conf h1 h2 =>
    cases k with
    | done hn => exact absurd h1.2.1 (hn _ h1.1)
    | conf h3 _ => exact ⟨rfl, by rw [firstC_one h1 h3]⟩
    | step h3 h4 _ => rw [firstC_one h3 h1, h2] at h4; cases h4
  | step h1 h2 _ ih =>
    cases k with
    | done hn => exact absurd h1.2.1 (hn _ h1.1)
    | conf h3 h4 => rw [firstC_one h3 h1, h2] at h4; cases h4
    | step h3 h4 h5 =>
      have e := firstC_one h3 h1
      subst e
      rw [h2] at h4
      have e2 : _ = _ := (List.cons.inj h4).1
      subst e2
      obtain ⟨r1, r2⟩ := ih h5
      exact ⟨by rw [r1], r2⟩

theorem openL_same {H K c : List Int} (h : ∀ x, x ∈ H ↔ x ∈ K) : openL H c = openL K c := by
  unfold openL
  apply List.filter_congr
  intro x _
  simp [h x, h (-x)]
theorem decC_same {H K c : List Int} (h : ∀ x, x ∈ H ↔ x ∈ K) : decC H c ↔ decC K c := by
  unfold decC
  rw [openL_same h]
  constructor <;> rintro ⟨h1, h2⟩ <;> refine ⟨fun x hx => ?_, h2⟩
  · rw [← h x]; exact h1 x hx
  · rw [h x]; exact h1 x hx
theorem firstC_same {f : List (List Int)} {H K : List Int} {i : Nat} (h : ∀ x, x ∈ H ↔ x ∈ K) : firstC f H i ↔ firstC f K i := by
  unfold firstC
  rw [decC_same h]
  constructor <;> rintro ⟨h1, h2, h3⟩ <;> refine ⟨h1, h2, fun j hj => ?_⟩
  · rw [← decC_same h]; exact h3 j hj
  · rw [decC_same h]; exact h3 j hj
theorem Run.same {f : List (List Int)} {H K : List Int} {l : List (Int × Nat)} {c : Int} (r : Run f H l c) (h : ∀ x, x ∈ H ↔ x ∈ K) : Run f K l c := by
  induction r generalizing K with
  | done hn => exact .done fun i hi => by rw [← decC_same h]; exact hn i hi
  | conf h1 h2 => exact .conf ((firstC_same h).1 h1) (by rw [← openL_same h]; exact h2)
  | step h1 h2 _ ih => exact .step ((firstC_same h).1 h1) (by rw [← openL_same h]; exact h2) (ih fun x => by simp [h x])

/-- No literal is true and false. -/
def Cons (H : List Int) : Prop := ∀ x ∈ H, -x ∉ H
def bigs (l : List Int) : Nat := l.countP (fun x => decide (2 ≤ x))
def atI (f : List (List Int)) (i : Nat) : List Int := f.getD i []

structure UInv (f : List (List Int)) (H left wait : List Int) : Prop where
  len : left.length = f.length
  cnt : ∀ i, i < f.length → left.getD i 0 = ((nonF H (f.getD i [])).length : Int)
  win : ∀ j ∈ wait, ∃ i : Nat, j = i ∧ i < f.length ∧ left.getD i 0 ≤ 1
  all : ∀ i, i < f.length → left.getD i 0 ≤ 1 → (i : Int) ∈ wait ∨ ∃ x ∈ f.getD i [], x ∈ H
  con : Cons H

theorem len_le_one {l : List Int} (h : l.length ≤ 1) {x : Int} (hx : x ∈ l) : l = [x] := by
  match l, h with
  | [], _ => cases hx
  | [y], _ => simp at hx; rw [hx]
theorem open_of_nonF {H c : List Int} (hn : ∀ x ∈ c, x ∉ H) : openL H c = nonF H c := by
  unfold openL nonF
  apply List.filter_congr
  intro x hx
  have := hn x hx
  simp [this]
theorem mem_nonF {H c : List Int} {x : Int} : x ∈ nonF H c ↔ x ∈ c ∧ -x ∉ H := by simp [nonF]
theorem mem_openL {H c : List Int} {x : Int} : x ∈ openL H c ↔ x ∈ c ∧ x ∉ H ∧ -x ∉ H := by simp [openL]

section
variable {f : List (List Int)} {H left wait : List Int}

/-- Nothing waits: nothing decides. -/
theorem UInv.over (u : UInv f H left []) : ∀ i, i < f.length → ¬ decC H (f.getD i []) := by
  intro i hi hd
  have e := open_of_nonF hd.1
  have h1 := u.cnt i hi
  have h2 := hd.2
  rw [e] at h2
  rcases u.all i hi (by omega) with h | ⟨x, hx, hH⟩
  · cases h
  · exact hd.1 x hx hH
/-- The least one that waits: no clause before it decides. -/
theorem UInv.before (u : UInv f H left wait) {m : Nat} (hm : (m : Int) ∈ wait) (hl : ∀ j ∈ wait, (m : Int) ≤ j) : ∀ j, j < m → ¬ decC H (f.getD j []) := by
  intro i hi hd
  obtain ⟨m', e', hml, _⟩ := u.win m hm
  have e := open_of_nonF hd.1
  have h1 := u.cnt i (by omega)
  have h2 := hd.2
  rw [e] at h2
  rcases u.all i (by omega) (by omega) with h | ⟨x, hx, hH⟩
  · have := hl _ h; omega
  · exact hd.1 x hx hH
/-- It is false. -/
theorem UInv.conf (u : UInv f H left wait) {m : Nat} (hm : (m : Int) ∈ wait) (hl : ∀ j ∈ wait, (m : Int) ≤ j) (hn : nonF H (f.getD m []) = []) : firstC f H m ∧ openL H (f.getD m []) = [] := by
  obtain ⟨m', e', hml, _⟩ := u.win m hm
  have hno : ∀ x ∈ f.getD m [], x ∉ H := by
    intro x hx hH
    have : x ∈ nonF H (f.getD m []) := mem_nonF.2 ⟨hx, u.con x hH⟩
    rw [hn] at this
    cases this
  have e := open_of_nonF hno
  rw [hn] at e
  exact ⟨⟨by omega, ⟨hno, by rw [e]; simp⟩, u.before hm hl⟩, e⟩
/-- Its first literal that is not false is open: it is unit. -/
theorem UInv.unit (u : UInv f H left wait) {m : Nat} (hm : (m : Int) ∈ wait) (hl : ∀ j ∈ wait, (m : Int) ≤ j) {x : Int} (hx : x ∈ f.getD m []) (hxn : -x ∉ H) (hxH : x ∉ H) : firstC f H m ∧ openL H (f.getD m []) = [x] := by
  obtain ⟨m', e', hml, hle⟩ := u.win m hm
  obtain rfl : m = m' := by omega
  have hc := u.cnt m hml
  have hn : nonF H (f.getD m []) = [x] := len_le_one (by omega) (mem_nonF.2 ⟨hx, hxn⟩)
  have hno : ∀ y ∈ f.getD m [], y ∉ H := by
    intro y hy hH
    have : y ∈ nonF H (f.getD m []) := mem_nonF.2 ⟨hy, u.con y hH⟩
    rw [hn] at this
    simp at this
    rw [this] at hH
    exact hxH hH
  have e := open_of_nonF hno
  rw [hn] at e
  exact ⟨⟨hml, ⟨hno, by rw [e]; simp⟩, u.before hm hl⟩, e⟩
/-- It is true: it is struck. -/
theorem UInv.skip (u : UInv f H left wait) {m : Nat} {wait' : List Int} (hs : ∀ j, j ∈ wait ↔ j = (m : Int) ∨ j ∈ wait') {x : Int} (hx : x ∈ f.getD m []) (hxH : x ∈ H) : UInv f H left wait' where
  len := u.len
  cnt := u.cnt
  win := fun j hj => u.win j ((hs j).2 (Or.inr hj))
  all := fun i hi hl => by
    rcases u.all i hi hl with h | h
    · rcases (hs _).1 h with h | h
      · obtain rfl : i = m := by omega
        exact Or.inr ⟨x, hx, hxH⟩
      · exact Or.inl h
    · exact Or.inr h
  con := u.con

/-- A literal is made true: t of the clauses g with its negative have been looked at. -/
structure SInv (n : Nat) (left0 wait0 : List Int) (g : List Nat) (t : Nat) (left wait : List Int) : Prop where
  len : left.length = n
  lf : ∀ i, i < n → left.getD i 0 = left0.getD i 0 - if i ∈ g.take t then 1 else 0
  nn : ∀ x ∈ wait, ∃ i : Nat, x = i ∧ i < n
  wt : ∀ j : Nat, (j : Int) ∈ wait ↔ (j : Int) ∈ wait0 ∨ (j ∈ g.take t ∧ left0.getD j 0 = 2)
  ms : bigs left + wait.length = bigs left0 + wait0.length

theorem SInv.start {n : Nat} {left0 wait0 : List Int} (g : List Nat) (h : left0.length = n) (hw : ∀ x ∈ wait0, ∃ i : Nat, x = i ∧ i < n) : SInv n left0 wait0 g 0 left0 wait0 :=
  ⟨h, fun i _ => by simp, hw, fun j => by simp, rfl⟩

theorem bigs_set (l : List Int) (i : Nat) (x : Int) (h : i < l.length) : bigs (l.set i x) + (if 2 ≤ l.getD i 0 then 1 else 0) = bigs l + if 2 ≤ x then 1 else 0 := by
  unfold bigs
  induction l generalizing i with
  | nil => simp at h
  | cons y r ih =>
    cases i with
    | zero => simp [List.countP_cons]; by_cases h1 : 2 ≤ y <;> by_cases h2 : 2 ≤ x <;> simp [h1, h2]
    | succ i =>
      have := ih i (by simpa using h)
      simp only [List.set_cons_succ, List.countP_cons, List.getD_cons_succ]
      omega
theorem take_succ_mem {g : List Nat} {t : Nat} (h : t < g.length) (j : Nat) : j ∈ g.take (t + 1) ↔ j ∈ g.take t ∨ j = g.getD t 0 := by
  have e : g.take (t + 1) = g.take t ++ [g.getD t 0] := by rw [List.take_succ_eq_append_getElem h]; simp [List.getD, h]
  rw [e]; simp
theorem not_mem_take {g : List Nat} {t : Nat} (hnd : g.Nodup) (h : t < g.length) : g.getD t 0 ∉ g.take t := by
  have e : g.take (t + 1) = g.take t ++ [g.getD t 0] := by rw [List.take_succ_eq_append_getElem h]; simp [List.getD, h]
  have h2 : (g.take (t + 1)).Nodup := hnd.sublist (List.take_sublist _ _)
  rw [e, List.nodup_append] at h2
  exact fun hm => h2.2.2 _ hm _ (by simp) rfl

theorem SInv.step {n : Nat} {left0 wait0 left wait : List Int} {g : List Nat} {t : Nat} (s : SInv n left0 wait0 g t left wait) (hnd : g.Nodup) (ht : t < g.length) (hin : g.getD t 0 < n) (wait' : List Int)
    (hw : if left.getD (g.getD t 0) 0 - 1 = 1 then (∀ x, x ∈ wait' ↔ x = ((g.getD t 0 : Nat) : Int) ∨ x ∈ wait) ∧ wait'.length = wait.length + 1 else wait' = wait) :
    SInv n left0 wait0 g (t + 1) (left.set (g.getD t 0) (left.getD (g.getD t 0) 0 - 1)) wait' := by
  have hit := not_mem_take hnd ht
  have tm := take_succ_mem ht
  generalize g.getD t 0 = i at *
  have hlt : i < left.length := by rw [s.len]; exact hin
  have hl0 : left.getD i 0 = left0.getD i 0 := by rw [s.lf i hin, if_neg hit]; omega
  refine ⟨by simp [s.len], fun k hk => ?_, fun x hx => ?_, fun j => ?_, ?_⟩
  · rw [getD_set _ _ _ _ hlt]
    by_cases e : k = i
    · subst e
      rw [if_pos rfl, hl0, if_pos ((tm _).2 (Or.inr rfl))]
    · rw [if_neg e, s.lf k hk]
      by_cases h : k ∈ g.take t
      · rw [if_pos h, if_pos ((tm _).2 (Or.inl h))]
      · rw [if_neg h, if_neg (fun h' => by rcases (tm _).1 h' with h' | h'; exact h h'; exact e h')]
  · by_cases h1 : left.getD i 0 - 1 = 1
    · rw [if_pos h1] at hw
      rcases (hw.1 x).1 hx with h | h
      · exact ⟨i, h, hin⟩
      · exact s.nn x h
    · rw [if_neg h1] at hw
      subst hw
      exact s.nn x hx
  · rw [tm]
    by_cases h1 : left.getD i 0 - 1 = 1
    · rw [if_pos h1] at hw
      rw [hw.1, s.wt]
      constructor
      · rintro (h | h | h)
        · have : j = i := by omega
          exact Or.inr ⟨Or.inr this, by rw [this]; omega⟩
        · exact Or.inl h
        · exact Or.inr ⟨Or.inl h.1, h.2⟩
      · rintro (h | ⟨h | h, h2⟩)
        · exact Or.inr (Or.inl h)
        · exact Or.inr (Or.inr ⟨h, h2⟩)
        · exact Or.inl (by rw [h])
    · rw [if_neg h1] at hw
      subst hw
      rw [s.wt]
      constructor
      · rintro (h | h)
        · exact Or.inl h
        · exact Or.inr ⟨Or.inl h.1, h.2⟩
      · rintro (h | ⟨h | h, h2⟩)
        · exact Or.inl h
        · exact Or.inr ⟨h, h2⟩
        · subst h; omega
  · have hb := bigs_set left i (left.getD i 0 - 1) hlt
    have := s.ms
    by_cases h1 : left.getD i 0 - 1 = 1
    · rw [if_pos h1] at hw
      rw [if_pos (by omega), if_neg (by omega)] at hb
      omega
    · rw [if_neg h1] at hw
      subst hw
      by_cases h2 : 2 ≤ left.getD i 0
      · rw [if_pos h2, if_pos (by omega)] at hb; omega
      · rw [if_neg h2, if_neg (by omega)] at hb; omega

theorem filter_strike {p : Int → Bool} {a : Int} {c : List Int} (hnd : c.Nodup) : ((c.filter (fun y => decide (y ≠ a) && p y)).length : Int) = ((c.filter p).length : Int) - if a ∈ c ∧ p a = true then 1 else 0 := by
  induction c with
  | nil => simp
  | cons y r ih =>
    obtain ⟨h1, h2⟩ := List.nodup_cons.1 hnd
    have := ih h2
    by_cases e : y = a
    · subst e
      have e0 : (if y ∈ r ∧ p y = true then (1 : Int) else 0) = 0 := by rw [if_neg (fun h => h1 h.1)]
      rw [e0] at this
      by_cases hp : p y = true
      · simp [hp] at this ⊢; omega
      · simp [hp] at this ⊢; omega
    · have e2 : ¬ a = y := fun h => e h.symm
      have e1 : (a ∈ y :: r ∧ p a = true) ↔ (a ∈ r ∧ p a = true) := by simp [e2]
      simp only [e1]
      by_cases hp : p y = true
      · simp [hp, e] at this ⊢; omega
      · simp [hp] at this ⊢; omega

/-- All clauses with its negative have been looked at. -/
theorem UInv.set {f : List (List Int)} {H left0 wait0 left wait : List Int} {g : List Nat} {x : Int} (u : UInv f H left0 wait0) (s : SInv f.length left0 wait0 g g.length left wait) (hnd : ∀ c ∈ f, c.Nodup)
    (hg : ∀ i, i ∈ g ↔ i < f.length ∧ -x ∈ f.getD i []) (hx0 : x ≠ 0) (hxH : x ∉ H) (hxn : -x ∉ H) : UInv f (x :: H) left wait := by
  have s2 := s.lf
  have s4 := s.wt
  rw [List.take_length] at s2 s4
  have hc : ∀ i, i < f.length → (f.getD i []).Nodup := fun i hi => hnd _ (by simp [List.getD, hi])
  have cnt : ∀ i, i < f.length → left.getD i 0 = ((nonF (x :: H) (f.getD i [])).length : Int) := by
    intro i hi
    have e : nonF (x :: H) (f.getD i []) = (f.getD i []).filter (fun y => decide (y ≠ -x) && decide (-y ∉ H)) := by
      unfold nonF
      apply List.filter_congr
      intro y _
      by_cases e1 : y = -x
      · subst e1; simp
      · have : -y ≠ x := fun h => e1 (by omega)
        simp [e1, this]
    rw [e, filter_strike (hc i hi), s2 i hi, u.cnt i hi]
    have e3 : (-x ∈ f.getD i [] ∧ decide (-(-x) ∉ H) = true) ↔ i ∈ g := by
      rw [hg, Int.neg_neg]; simp [hxH, hi]
    simp only [e3]
    rfl
  refine ⟨s.len, cnt, fun j hj => ?_, fun i hi hl => ?_, fun y hy hn => ?_⟩
  · obtain ⟨i, e, hi⟩ := s.nn j hj
    refine ⟨i, e, hi, ?_⟩
    rw [s2 i hi]
    rw [e] at hj
    rcases (s4 i).1 hj with h | ⟨h, h2⟩
    · obtain ⟨i', e', _, hle⟩ := u.win _ h
      obtain rfl : i = i' := by omega
      split <;> omega
    · rw [if_pos h]; omega
  · rw [s2 i hi] at hl
    by_cases h1 : left0.getD i 0 ≤ 1
    · rcases u.all i hi h1 with h | ⟨y, hy, hH⟩
      · exact Or.inl ((s4 i).2 (Or.inl h))
      · exact Or.inr ⟨y, hy, List.mem_cons_of_mem _ hH⟩
    · by_cases h2 : i ∈ g
      · rw [if_pos h2] at hl
        exact Or.inl ((s4 i).2 (Or.inr ⟨h2, by omega⟩))
      · rw [if_neg h2] at hl; omega
  · rcases List.mem_cons.1 hy with h | h
    · subst h
      rcases List.mem_cons.1 hn with h | h
      · omega
      · exact hxn h
    · rcases List.mem_cons.1 hn with h2 | h2
      · exact hxn (by rw [← h2, Int.neg_neg]; exact h)
      · exact u.con y h h2

/-- Behind k clauses, and t literals of the next one: the numbers of the clauses with the literal l. -/
def gOf (f : List (List Int)) (k t : Nat) (l : Int) : List Nat := (List.range k).filter (fun i => decide (l ∈ f.getD i [])) ++ if l ∈ (f.getD k []).take t then [k] else []
theorem gOf_zero (f : List (List Int)) (l : Int) : gOf f 0 0 l = [] := by simp [gOf]
theorem gOf_next (f : List (List Int)) (k : Nat) : gOf f (k + 1) 0 = gOf f k (f.getD k []).length := by
  funext l
  unfold gOf
  rw [List.take_length, List.range_succ, List.filter_append, List.filter_cons, List.filter_nil, List.take_zero, if_neg (List.not_mem_nil : l ∉ []), List.append_nil]
  by_cases h : l ∈ f.getD k []
  · rw [if_pos h, if_pos (by simpa using h)]
  · rw [if_neg h, if_neg (by simpa using h)]
theorem takeI_succ {c : List Int} {t : Nat} (h : t < c.length) : c.take (t + 1) = c.take t ++ [c.getD t 0] := by rw [List.take_succ_eq_append_getElem h]; simp [List.getD, h]
theorem not_mem_takeI {c : List Int} {t : Nat} (hnd : c.Nodup) (h : t < c.length) : c.getD t 0 ∉ c.take t := by
  have h2 : (c.take (t + 1)).Nodup := hnd.sublist (List.take_sublist _ _)
  rw [takeI_succ h, List.nodup_append] at h2
  exact fun hm => h2.2.2 _ hm _ (by simp) rfl
theorem gOf_step (f : List (List Int)) (k t : Nat) (hnd : (f.getD k []).Nodup) (h : t < (f.getD k []).length) (l : Int) : gOf f k (t + 1) l = if l = (f.getD k []).getD t 0 then gOf f k t l ++ [k] else gOf f k t l := by
  have hn := not_mem_takeI hnd h
  unfold gOf
  rw [takeI_succ h]
  generalize (f.getD k []).getD t 0 = y at *
  generalize (f.getD k []).take t = c at *
  generalize (List.range k).filter (fun i => decide (l ∈ f.getD i [])) = r
  by_cases e : l = y
  · subst e
    rw [if_pos rfl, if_neg hn, if_pos (by simp)]
    simp
  · rw [if_neg e]
    have : l ∈ c ++ [y] ↔ l ∈ c := by simp [e]
    simp only [this]
theorem gOf_len (f : List (List Int)) (k t : Nat) (l : Int) : (gOf f k t l).length ≤ k + 1 := by
  unfold gOf
  rw [List.length_append]
  have := List.length_filter_le (fun i => decide (l ∈ f.getD i [])) (List.range k)
  rw [List.length_range] at this
  generalize (List.range k).filter (fun i => decide (l ∈ f.getD i [])) = r at *
  split <;> simp <;> omega
theorem gOf_lt (f : List (List Int)) (k t : Nat) (l : Int) : ∀ i ∈ gOf f k t l, i ≤ k := by
  intro i hi
  unfold gOf at hi
  rcases List.mem_append.1 hi with h | h
  · have := (List.mem_filter.1 h).1; rw [List.mem_range] at this; omega
  · split at h
    · simp at h; omega
    · cases h
theorem gOf_mem (f : List (List Int)) (l : Int) (i : Nat) : i ∈ gOf f f.length 0 l ↔ i < f.length ∧ l ∈ f.getD i [] := by
  unfold gOf
  simp
theorem gOf_nodup (f : List (List Int)) (l : Int) : (gOf f f.length 0 l).Nodup := by
  unfold gOf
  simp only [List.take_zero, List.not_mem_nil, if_false, List.append_nil]
  exact List.nodup_range.sublist List.filter_sublist

/-- Behind k clauses. -/
structure BInv (f : List (List Int)) (a : List Int) (k : Nat) (left wait : List Int) : Prop where
  len : left.length = f.length
  cnt : ∀ i, i < k → left.getD i 0 = ((nonF a (f.getD i [])).length : Int)
  nul : ∀ i, k ≤ i → left.getD i 0 = 0
  win : ∀ x ∈ wait, ∃ i : Nat, x = i ∧ i < k ∧ left.getD i 0 ≤ 1
  all : ∀ i, i < k → left.getD i 0 ≤ 1 → (i : Int) ∈ wait
  ms : bigs left + wait.length = k
/-- .. and t literals of the next one. -/
structure CInv (f : List (List Int)) (a : List Int) (k t : Nat) (left wait : List Int) : Prop where
  len : left.length = f.length
  cnt : ∀ i, i < k → left.getD i 0 = ((nonF a (f.getD i [])).length : Int)
  cur : left.getD k 0 = ((nonF a ((f.getD k []).take t)).length : Int)
  nul : ∀ i, k < i → left.getD i 0 = 0
  win : ∀ x ∈ wait, ∃ i : Nat, x = i ∧ i < k ∧ left.getD i 0 ≤ 1
  all : ∀ i, i < k → left.getD i 0 ≤ 1 → (i : Int) ∈ wait
  ms : bigs left + wait.length = k + if 2 ≤ left.getD k 0 then 1 else 0

theorem bigs_nul (n : Nat) : bigs (List.replicate n 0) = 0 := by simp [bigs]
theorem BInv.start (f : List (List Int)) (a : List Int) : BInv f a 0 (List.replicate f.length 0) [] :=
  ⟨by simp, by omega, fun i _ => by simp only [List.getD_eq_getElem?_getD, List.getElem?_replicate]; split <;> rfl, by simp, by omega, by rw [bigs_nul]; rfl⟩
theorem BInv.into {f : List (List Int)} {a : List Int} {k : Nat} {left wait : List Int} (b : BInv f a k left wait) : CInv f a k 0 left wait :=
  ⟨b.len, b.cnt, by rw [b.nul k (Nat.le_refl _)]; simp [nonF], fun i h => b.nul i (by omega), b.win, b.all, by rw [b.ms, b.nul k (Nat.le_refl _)]; simp⟩
theorem nonF_take {a c : List Int} {t : Nat} (h : t < c.length) : ((nonF a (c.take (t + 1))).length : Int) = ((nonF a (c.take t)).length : Int) + if -(c.getD t 0) ∈ a then 0 else 1 := by
  unfold nonF
  rw [takeI_succ h, List.filter_append, List.length_append]
  by_cases e : -(c.getD t 0) ∈ a
  · simp only [List.filter_cons, e, if_pos]; simp
  · simp only [List.filter_cons, e]; simp
theorem CInv.hold {f : List (List Int)} {a : List Int} {k t : Nat} {left wait : List Int} (c : CInv f a k t left wait) (h : t < (f.getD k []).length) (hf : -((f.getD k []).getD t 0) ∈ a) : CInv f a k (t + 1) left wait :=
  ⟨c.len, c.cnt, by rw [c.cur, nonF_take h, if_pos hf]; omega, c.nul, c.win, c.all, c.ms⟩
theorem CInv.more {f : List (List Int)} {a : List Int} {k t : Nat} {left wait : List Int} (c : CInv f a k t left wait) (hk : k < f.length) (h : t < (f.getD k []).length) (hf : -((f.getD k []).getD t 0) ∉ a) : CInv f a k (t + 1) (left.set k (left.getD k 0 + 1)) wait := by
  have hlt : k < left.length := by rw [c.len]; exact hk
  have gs := fun i => getD_set left k i (left.getD k 0 + 1) hlt
  refine ⟨by simp [c.len], fun i hi => ?_, ?_, fun i hi => ?_, fun x hx => ?_, fun i hi hl => ?_, ?_⟩
  · rw [gs, if_neg (by omega)]; exact c.cnt i hi
  · rw [gs, if_pos rfl, c.cur, nonF_take h, if_neg hf]
  · rw [gs, if_neg (by omega)]; exact c.nul i hi
  · obtain ⟨i, e, h1, h2⟩ := c.win x hx
    exact ⟨i, e, h1, by rw [gs, if_neg (by omega)]; exact h2⟩
  · rw [gs, if_neg (by omega)] at hl; exact c.all i hi hl
  · have hb := bigs_set left k (left.getD k 0 + 1) hlt
    have := c.ms
    rw [gs, if_pos rfl]
    by_cases h1 : 2 ≤ left.getD k 0
    · rw [if_pos h1] at hb this; rw [if_pos (by omega)] at hb ⊢; omega
    · rw [if_neg h1] at hb this
      by_cases h2 : 2 ≤ left.getD k 0 + 1
      · rw [if_pos h2] at hb ⊢; omega
      · rw [if_neg h2] at hb ⊢; omega
theorem CInv.out {f : List (List Int)} {a : List Int} {k : Nat} {left wait wait' : List Int} (c : CInv f a k (f.getD k []).length left wait)
    (hw : if left.getD k 0 ≤ 1 then (∀ x, x ∈ wait' ↔ x = (k : Int) ∨ x ∈ wait) ∧ wait'.length = wait.length + 1 else wait' = wait) : BInv f a (k + 1) left wait' := by
  have hm := c.ms
  refine ⟨c.len, fun i hi => ?_, fun i hi => c.nul i (by omega), fun x hx => ?_, fun i hi hl => ?_, ?_⟩
  · by_cases e : i = k
    · subst e; rw [c.cur, List.take_length]
    · exact c.cnt i (by omega)
  · by_cases h : left.getD k 0 ≤ 1
    · rw [if_pos h] at hw
      rcases (hw.1 x).1 hx with e | e
      · exact ⟨k, e, by omega, h⟩
      · obtain ⟨i, h1, h2, h3⟩ := c.win x e; exact ⟨i, h1, by omega, h3⟩
    · rw [if_neg h] at hw
      subst hw
      obtain ⟨i, h1, h2, h3⟩ := c.win x hx; exact ⟨i, h1, by omega, h3⟩
  · by_cases h : left.getD k 0 ≤ 1
    · rw [if_pos h] at hw
      rw [hw.1]
      by_cases e : i = k
      · exact Or.inl (by rw [e])
      · exact Or.inr (c.all i (by omega) hl)
    · rw [if_neg h] at hw
      subst hw
      by_cases e : i = k
      · subst e; exact absurd hl h
      · exact c.all i (by omega) hl
  · by_cases h : left.getD k 0 ≤ 1
    · rw [if_pos h] at hw; rw [if_neg (by omega)] at hm; omega
    · rw [if_neg h] at hw; subst hw; rw [if_pos (by omega)] at hm; omega
theorem BInv.done {f : List (List Int)} {a left wait : List Int} (b : BInv f a f.length left wait) (hc : Cons a) : UInv f a left wait ∧ bigs left + wait.length = f.length :=
  ⟨⟨b.len, b.cnt, b.win, fun i hi hl => Or.inl (b.all i hi hl), hc⟩, b.ms⟩
end

end Go.Proofs.YtmhjpbhldaagmaaDoor
