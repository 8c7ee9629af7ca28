/- Joined texts: AgPure, AgCopyP, AgPVal, AgPReach, AgPCopy. -/
import Derived.Test.YtppglbffmgnooaaGreatK01
/- Pure: and-inverter graphs as lists: which are valid, what edges reach, conjunctions that are made. -/
namespace Go.Proofs.YtppglbffmgnooaaGreat
set_option linter.unusedVariables false
set_option linter.unusedSimpArgs false

abbrev Pr := Int × Int
abbrev dPr : Pr := (0, 0)
/-- How many nodes: k inputs and the constant, and these Ands. -/
def isE (e : Int) (n : Nat) : Bool := decide (0 ≤ e) && decide (e / 2 < n)
theorem isE_true {e : Int} {n : Nat} : isE e n = true ↔ 0 ≤ e ∧ e / 2 < n := by unfold isE; simp
theorem isE_mono {e : Int} {n m : Nat} (h : isE e n = true) (hm : n ≤ m) : isE e m = true := by rw [isE_true] at h ⊢; omega
theorem isE_two {e : Int} {n : Nat} : isE e n = (decide (0 ≤ e) && decide (e < 2 * n)) := by
  unfold isE
  have : (e / 2 < (n : Int)) ↔ e < 2 * n := by omega
  simp [this]
def okPair (k : Nat) (A : List Pr) (i : Nat) : Bool := isE (A.getD i dPr).1 (k + i) && isE (A.getD i dPr).2 (k + i)
/-- The first n pairs are of edges before them; k nodes stand before the first one. -/
def okUpto (k : Nat) (A : List Pr) (n : Nat) : Bool := (List.range n).all (okPair k A)
theorem okUpto_zero (k : Nat) (A : List Pr) : okUpto k A 0 = true := rfl
theorem okUpto_succ (k : Nat) (A : List Pr) (n : Nat) : okUpto k A (n + 1) = (okUpto k A n && okPair k A n) := by
  unfold okUpto
  rw [List.range_succ, List.all_append]
  simp
theorem okUpto_all {k : Nat} {A : List Pr} {n : Nat} : okUpto k A n = true ↔ ∀ i, i < n → okPair k A i = true := by
  unfold okUpto
  rw [List.all_eq_true]
  exact ⟨fun h i hi => h i (List.mem_range.2 hi), fun h i hi => h i (List.mem_range.1 hi)⟩
theorem okUpto_bad {k : Nat} {A : List Pr} {n i : Nat} (hi : i < n) (h : okPair k A i = false) : okUpto k A n = false := by
  cases e : okUpto k A n with
  | false => rfl
  | true => rw [okUpto_all.1 e i hi] at h; cases h
theorem okUpto_app {k : Nat} {A B : List Pr} {n : Nat} (hn : n ≤ A.length) : okUpto k (A ++ B) n = okUpto k A n := by
  unfold okUpto
  rw [Bool.eq_iff_iff, List.all_eq_true, List.all_eq_true]
  have he : ∀ i, i ∈ List.range n → okPair k (A ++ B) i = okPair k A i := fun i hi => by
    have : i < A.length := Nat.lt_of_lt_of_le (List.mem_range.1 hi) hn
    unfold okPair
    simp [List.getD, List.getElem?_append_left this]
  exact ⟨fun h i hi => (he i hi) ▸ h i hi, fun h i hi => (he i hi).symm ▸ h i hi⟩

/-- Inputs: variables that ascend. -/
def insB (I : List Int) : Bool := mayB I && !I.any (fun v => decide (v < 0))
def mayA (I : List Int) (A : List Pr) : Bool := decide (1 + I.length + A.length ≤ 200000) && insB I && okUpto (1 + I.length) A A.length
def edgesB (l : List Int) (n : Nat) : Bool := !l.any (fun e => !isE e n)
def hasA (I : List Int) (A : List Pr) (l : List Int) : Bool := mayA I A && edgesB l (1 + I.length + A.length)
theorem edgesB_true {l : List Int} {n : Nat} : edgesB l n = true ↔ ∀ e ∈ l, 0 ≤ e ∧ e / 2 < n := by
  unfold edgesB
  simp [isE_true]
theorem mayA_parts {I : List Int} {A : List Pr} (h : mayA I A = true) : 1 + I.length + A.length ≤ 200000 ∧ insB I = true ∧ okUpto (1 + I.length) A A.length = true := by
  unfold mayA at h
  simpa [and_assoc] using h

/-- The opposite edge. -/
def notE (e : Int) : Int := if e % 2 = 0 then e + 1 else e - 1
theorem notE_half {e : Int} (h : 0 ≤ e) : notE e / 2 = e / 2 ∧ 0 ≤ notE e := by unfold notE; split <;> omega
theorem notE_isE {e : Int} {n : Nat} (h : isE e n = true) : isE (notE e) n = true := by
  rw [isE_true] at h ⊢
  have := notE_half h.1
  omega
theorem notE_notE (e : Int) : notE (notE e) = e := by unfold notE; split <;> split <;> omega
/-- The image of an edge. -/
def movE (to : List Int) (e : Int) : Int := if e % 2 = 0 then to.getD (e / 2).toNat 0 else notE (to.getD (e / 2).toNat 0)

/-- What edges reach, among the nodes. -/
def mark0 (n : Nat) (l : List Int) : List Bool := l.foldl (fun m e => m.set (e / 2).toNat true) (List.replicate n false)
def backA (k : Nat) (A : List Pr) : Nat → List Bool → List Bool
  | 0, m => m
  | i + 1, m => backA k A i (if m.getD (k + i) false = true then (m.set ((A.getD i dPr).1 / 2).toNat true).set ((A.getD i dPr).2 / 2).toNat true else m)
def reachA (k : Nat) (A : List Pr) (l : List Int) : List Bool := backA k A A.length (mark0 (k + A.length) l)
theorem mark_len (l : List Int) : ∀ m : List Bool, (l.foldl (fun m e => m.set (e / 2).toNat true) m).length = m.length := by
  induction l with
  | nil => exact fun m => rfl
  | cons x r ih => intro m; rw [List.foldl_cons, ih, List.length_set]
theorem mark0_len (n : Nat) (l : List Int) : (mark0 n l).length = n := by unfold mark0; rw [mark_len, List.length_replicate]
theorem backA_len (k : Nat) (A : List Pr) : ∀ (i : Nat) (m : List Bool), (backA k A i m).length = m.length
  | 0, m => rfl
  | i + 1, m => by
    unfold backA
    rw [backA_len k A i]
    split
    · rw [List.length_set, List.length_set]
    · rfl
theorem reachA_len (k : Nat) (A : List Pr) (l : List Int) : (reachA k A l).length = k + A.length := by unfold reachA; rw [backA_len, mark0_len]
def stepA (k : Nat) (A : List Pr) (m : List Bool) (i : Nat) : List Bool := if m.getD (k + i) false = true then (m.set ((A.getD i dPr).1 / 2).toNat true).set ((A.getD i dPr).2 / 2).toNat true else m
theorem stepA_len (k : Nat) (A : List Pr) (m : List Bool) (i : Nat) : (stepA k A m i).length = m.length := by
  unfold stepA
  split
  · rw [List.length_set, List.length_set]
  · rfl
theorem stepsA_len (k : Nat) (A : List Pr) : ∀ (l : List Nat) (m : List Bool), (l.foldl (stepA k A) m).length = m.length
  | [], m => rfl
  | i :: r, m => by rw [List.foldl_cons, stepsA_len k A r, stepA_len]
/-- The nodes from a on, n of them, that are marked. -/
def onN (m : List Bool) (a n : Nat) : List Int := ((List.range' a n).filter (fun i => m.getD i false)).map (fun i : Nat => (i : Int))
theorem onN_zero (m : List Bool) (a : Nat) : onN m a 0 = [] := rfl
theorem onN_succ (m : List Bool) (a n : Nat) : onN m a (n + 1) = onN m a n ++ (if m.getD (a + n) false = true then [((a + n : Nat) : Int)] else []) := by
  unfold onN
  rw [List.range'_1_concat, List.filter_append, List.map_append]
  congr 1
  by_cases h : m.getD (a + n) false = true
  · rw [if_pos h]; simp at h ⊢; simp [h]
  · rw [if_neg h]; simp at h ⊢; simp [h]
theorem onN_mem {m : List Bool} {a n : Nat} {x : Int} : x ∈ onN m a n ↔ ∃ i : Nat, x = i ∧ a ≤ i ∧ i < a + n ∧ m.getD i false = true := by
  unfold onN
  simp only [List.mem_map, List.mem_filter, List.mem_range'_1]
  constructor
  · rintro ⟨i, ⟨⟨h1, h2⟩, h3⟩, rfl⟩
    exact ⟨i, rfl, h1, h2, h3⟩
  · rintro ⟨i, rfl, h1, h2, h3⟩
    exact ⟨i, ⟨⟨h1, h2⟩, h3⟩, rfl⟩
theorem onN_len (m : List Bool) (a n : Nat) : (onN m a n).length ≤ n := by
  unfold onN
  rw [List.length_map]
  exact Nat.le_trans (List.length_filter_le _ _) (by simp)
/-- The inputs that are marked. -/
def supA (I : List Int) (m : List Bool) : List Int := (onN m 1 I.length).map (fun n => I.getD (n.toNat - 1) 0)

/-- A graph that is made: its Ands, and whether an And found no room. -/
abbrev Mq := List Pr × Bool
/-- The conjunction of two edges; k nodes stand before the first And. -/
def conjO (k : Nat) (s : Mq) (a b : Int) : Int × Mq :=
  if a = 0 ∨ b = notE a then (0, s)
  else if a = 1 ∨ a = b then (b, s)
  else if (a, b) ∈ s.1 then (2 * ((k + s.1.idxOf (a, b) : Nat) : Int), s)
  else if k + s.1.length = 200000 then (0, (s.1, true))
  else (2 * ((k + s.1.length : Nat) : Int), (s.1 ++ [(a, b)], s.2))
def conjA (k : Nat) (s : Mq) (a b : Int) : Int × Mq := conjO k s (min a b) (max a b)
def disjA (k : Nat) (s : Mq) (a b : Int) : Int × Mq := let r := conjA k s (notE a) (notE b); (notE r.1, r.2)
def exclA (k : Nat) (s : Mq) (a b : Int) : Int × Mq := let u := conjA k s a (notE b); let v := conjA k u.2 (notE a) b; disjA k v.2 u.1 v.1
def iteA (k : Nat) (s : Mq) (c a b : Int) : Int × Mq := let u := conjA k s c a; let v := conjA k u.2 (notE c) b; disjA k v.2 u.1 v.1
def allA (k : Nat) (l : List Int) (s : Mq) (x : Int) : Int × Mq := l.foldl (fun r e => conjA k r.2 r.1 e) (x, s)
/-- What a graph that is made keeps: it grows, its pairs are of edges before them. -/
structure MOk (k : Nat) (s : Mq) : Prop where
  ok : okUpto k s.1 s.1.length = true
  room : k + s.1.length ≤ 200000
/-- What comes of making. -/
structure Made (k : Nat) (s : Mq) (r : Int × Mq) : Prop where
  grow : ∃ B, r.2.1 = s.1 ++ B
  ok : MOk k r.2
  edge : isE r.1 (k + r.2.1.length) = true
  full : s.2 = true → r.2.2 = true
theorem okPair_app {k : Nat} {A B : List Pr} {i : Nat} (hi : i < A.length) : okPair k (A ++ B) i = okPair k A i := by
  unfold okPair
  simp [List.getD, List.getElem?_append_left hi]
theorem conjO_made {k : Nat} {s : Mq} {a b : Int} (h : MOk k s) (hk : 1 ≤ k) (ha : isE a (k + s.1.length) = true) (hb : isE b (k + s.1.length) = true) (hab : a ≤ b) : Made k s (conjO k s a b) := by
  have ha' := isE_true.1 ha
  have hb' := isE_true.1 hb
  unfold conjO
  split
  · exact ⟨⟨[], by simp⟩, h, isE_true.2 ⟨by simp, by simp; omega⟩, fun e => e⟩
  · split
    · exact ⟨⟨[], by simp⟩, h, hb, fun e => e⟩
    · split
      · rename_i hm
        have hi := List.idxOf_lt_length_of_mem hm
        exact ⟨⟨[], by simp⟩, h, isE_true.2 ⟨by simp only; omega, by simp only; omega⟩, fun e => e⟩
      · split
        · exact ⟨⟨[], by simp⟩, ⟨h.ok, h.room⟩, isE_true.2 ⟨by simp, by simp; omega⟩, fun _ => rfl⟩
        · rename_i hr
          have hroom := h.room
          refine ⟨⟨_, rfl⟩, ⟨?_, by simp only [List.length_append, List.length_singleton]; omega⟩, isE_true.2 ⟨by simp only; omega, by simp only [List.length_append, List.length_singleton]; omega⟩, fun e => e⟩
          simp only [List.length_append, List.length_singleton]
          rw [okUpto_succ, okUpto_app (Nat.le_refl _), h.ok]
          unfold okPair
          simp [List.getD, ha, hb]
theorem conjA_made {k : Nat} {s : Mq} {a b : Int} (h : MOk k s) (hk : 1 ≤ k) (ha : isE a (k + s.1.length) = true) (hb : isE b (k + s.1.length) = true) : Made k s (conjA k s a b) := by
  unfold conjA
  refine conjO_made h hk ?_ ?_ (by omega)
  · by_cases e : a ≤ b
    · rw [Int.min_eq_left e]; exact ha
    · rw [Int.min_eq_right (by omega)]; exact hb
  · by_cases e : a ≤ b
    · rw [Int.max_eq_right e]; exact hb
    · rw [Int.max_eq_left (by omega)]; exact ha
theorem Made.more {k : Nat} {s : Mq} {r : Int × Mq} (h : Made k s r) {e : Int} (he : isE e (k + s.1.length) = true) : isE e (k + r.2.1.length) = true := by
  obtain ⟨B, hB⟩ := h.grow
  exact isE_mono he (by rw [hB, List.length_append]; omega)
theorem Made.trans {k : Nat} {s : Mq} {r : Int × Mq} {q : Int × Mq} (h : Made k s r) (g : Made k r.2 q) : Made k s q := by
  obtain ⟨B, hB⟩ := h.grow
  obtain ⟨C, hC⟩ := g.grow
  exact ⟨⟨B ++ C, by rw [hC, hB, List.append_assoc]⟩, g.ok, g.edge, fun e => g.full (h.full e)⟩
theorem Made.opp {k : Nat} {s : Mq} {r : Int × Mq} (h : Made k s r) : Made k s (notE r.1, r.2) := ⟨h.grow, h.ok, notE_isE h.edge, h.full⟩
theorem disjA_made {k : Nat} {s : Mq} {a b : Int} (h : MOk k s) (hk : 1 ≤ k) (ha : isE a (k + s.1.length) = true) (hb : isE b (k + s.1.length) = true) : Made k s (disjA k s a b) := by
  unfold disjA
  exact (conjA_made h hk (notE_isE ha) (notE_isE hb)).opp
theorem exclA_made {k : Nat} {s : Mq} {a b : Int} (h : MOk k s) (hk : 1 ≤ k) (ha : isE a (k + s.1.length) = true) (hb : isE b (k + s.1.length) = true) : Made k s (exclA k s a b) := by
  unfold exclA
  have u := conjA_made h hk ha (notE_isE hb)
  have v := conjA_made u.ok hk (notE_isE (u.more ha)) (u.more hb)
  exact (u.trans v).trans (disjA_made v.ok hk (v.more u.edge) v.edge)
theorem iteA_made {k : Nat} {s : Mq} {c a b : Int} (h : MOk k s) (hk : 1 ≤ k) (hc : isE c (k + s.1.length) = true) (ha : isE a (k + s.1.length) = true) (hb : isE b (k + s.1.length) = true) : Made k s (iteA k s c a b) := by
  unfold iteA
  have u := conjA_made h hk hc ha
  have v := conjA_made u.ok hk (notE_isE (u.more hc)) (u.more hb)
  exact (u.trans v).trans (disjA_made v.ok hk (v.more u.edge) v.edge)
theorem allA_made {k : Nat} (hk : 1 ≤ k) : ∀ (l : List Int) (s : Mq) (x : Int), MOk k s → isE x (k + s.1.length) = true → (∀ e ∈ l, isE e (k + s.1.length) = true) → Made k s (allA k l s x)
  | [], s, x, h, hx, _ => ⟨⟨[], by simp [allA]⟩, h, hx, fun e => e⟩
  | e :: r, s, x, h, hx, hl => by
    have u := conjA_made h hk hx (hl e List.mem_cons_self)
    show Made k s (allA k r (conjA k s x e).2 (conjA k s x e).1)
    exact u.trans (allA_made hk r _ _ u.ok u.edge (fun y hy => u.more (hl y (List.mem_cons_of_mem _ hy))))
end Go.Proofs.YtppglbffmgnooaaGreat

/- Pure: what a copier makes of a graph's edges. -/
namespace Go.Proofs.YtppglbffmgnooaaGreat
set_option linter.unusedVariables false
set_option linter.unusedSimpArgs false

def cpIn (I : List Int) (img : Int → Int) (t : List Int) (n : Int) : List Int := t.set n.toNat (img (I.getD (n.toNat - 1) 0))
def cpAnd (kg : Nat) (A : List Pr) (k : Nat) (st : List Int × Mq) (n : Int) : List Int × Mq :=
  (st.1.set n.toNat (conjA k st.2 (movE st.1 (A.getD (n.toNat - kg) dPr).1) (movE st.1 (A.getD (n.toNat - kg) dPr).2)).1, (conjA k st.2 (movE st.1 (A.getD (n.toNat - kg) dPr).1) (movE st.1 (A.getD (n.toNat - kg) dPr).2)).2)
/-- The images of the nodes, and the graph made, when the inputs have these images. -/
def cpIns (I : List Int) (A : List Pr) (img : Int → Int) (l : List Int) : List Int := (onN (reachA (1 + I.length) A l) 1 I.length).foldl (cpIn I img) (List.replicate (1 + I.length + A.length) 0)
def cpAll (k : Nat) (I : List Int) (A : List Pr) (img : Int → Int) (l : List Int) (s : Mq) : List Int × Mq := (onN (reachA (1 + I.length) A l) (1 + I.length) A.length).foldl (cpAnd (1 + I.length) A k) (cpIns I A img l, s)
def copyA (k : Nat) (I : List Int) (A : List Pr) (img : Int → Int) (l : List Int) (s : Mq) : List Int × Mq := (l.map (movE (cpAll k I A img l s).1), (cpAll k I A img l s).2)

structure CpOk (k nn : Nat) (s : Mq) (st : List Int × Mq) : Prop where
  len : st.1.length = nn
  ent : ∀ x ∈ st.1, isE x (k + st.2.1.length) = true
  grow : ∃ B, st.2.1 = s.1 ++ B
  ok : MOk k st.2
  full : s.2 = true → st.2.2 = true
theorem movE_isE {to : List Int} {e : Int} {n : Nat} (h : ∀ x ∈ to, isE x n = true) (h0 : 0 ≤ e) (h1 : e / 2 < to.length) : isE (movE to e) n = true := by
  have hl : (e / 2).toNat < to.length := by omega
  have hm : to.getD (e / 2).toNat 0 ∈ to := by simp [List.getD, hl]
  unfold movE
  split
  · exact h _ hm
  · exact notE_isE (h _ hm)
theorem CpOk.bd {k nn : Nat} {s : Mq} {st : List Int × Mq} (h : CpOk k nn s st) : ∀ x ∈ st.1, 0 ≤ x ∧ x ≤ 4000000 := fun x hx => by
  have h1 := isE_true.1 (h.ent x hx)
  have h2 := h.ok.room
  omega
theorem CpOk.step {k nn : Nat} {s : Mq} {st : List Int × Mq} (h : CpOk k nn s st) (hk : 1 ≤ k) {p1 p2 : Int} (h1 : 0 ≤ p1 ∧ p1 / 2 < nn) (h2 : 0 ≤ p2 ∧ p2 / 2 < nn) (n : Nat) :
    CpOk k nn s (st.1.set n (conjA k st.2 (movE st.1 p1) (movE st.1 p2)).1, (conjA k st.2 (movE st.1 p1) (movE st.1 p2)).2) := by
  have hm := conjA_made (s := st.2) h.ok hk (movE_isE (e := p1) h.ent h1.1 (by rw [h.len]; exact h1.2)) (movE_isE (e := p2) h.ent h2.1 (by rw [h.len]; exact h2.2))
  refine ⟨by rw [List.length_set]; exact h.len, fun x hx => ?_, ?_, hm.ok, fun e => hm.full (h.full e)⟩
  · rcases List.mem_or_eq_of_mem_set hx with hx | rfl
    · exact hm.more (h.ent x hx)
    · exact hm.edge
  · obtain ⟨C, hC⟩ := h.grow
    obtain ⟨D, hD⟩ := hm.grow
    exact ⟨C ++ D, by rw [hD, hC, List.append_assoc]⟩
theorem okPair_bd {k : Nat} {A : List Pr} {i : Nat} (h : okUpto k A A.length = true) (hi : i < A.length) : (0 ≤ (A.getD i dPr).1 ∧ (A.getD i dPr).1 / 2 < (k + i : Nat)) ∧ 0 ≤ (A.getD i dPr).2 ∧ (A.getD i dPr).2 / 2 < (k + i : Nat) := by
  have hp := okUpto_all.1 h i hi
  unfold okPair at hp
  rw [Bool.and_eq_true, isE_true, isE_true] at hp
  exact hp
/-- The inputs' images. -/
theorem cpIns_len (I : List Int) (img : Int → Int) : ∀ (ns t : List Int), (ns.foldl (cpIn I img) t).length = t.length
  | [], t => rfl
  | n :: r, t => by rw [List.foldl_cons, cpIns_len I img r]; unfold cpIn; rw [List.length_set]
theorem cpIns_ent (I : List Int) (img : Int → Int) (n : Nat) : ∀ (ns t : List Int), (∀ x ∈ t, isE x n = true) → (∀ y ∈ ns, isE (img (I.getD (y.toNat - 1) 0)) n = true) → ∀ x ∈ ns.foldl (cpIn I img) t, isE x n = true
  | [], t, h, _ => h
  | y :: r, t, h, hi => by
    rw [List.foldl_cons]
    refine cpIns_ent I img n r _ (fun x hx => ?_) (fun z hz => hi z (List.mem_cons_of_mem _ hz))
    unfold cpIn at hx
    rcases List.mem_or_eq_of_mem_set hx with hx | rfl
    · exact h x hx
    · exact hi y List.mem_cons_self
theorem cpIns_ok {k : Nat} {I : List Int} {A : List Pr} {img : Int → Int} {l : List Int} {s : Mq} (hk : 1 ≤ k) (hs : MOk k s) (hi : ∀ v ∈ I, isE (img v) (k + s.1.length) = true) : CpOk k (1 + I.length + A.length) s (cpIns I A img l, s) := by
  refine ⟨by unfold cpIns; rw [cpIns_len, List.length_replicate], ?_, ⟨[], by simp⟩, hs, fun e => e⟩
  unfold cpIns
  refine cpIns_ent I img _ _ _ (fun x hx => ?_) (fun y hy => ?_)
  · rw [List.eq_of_mem_replicate hx]
    exact isE_true.2 ⟨by omega, by omega⟩
  · obtain ⟨n, rfl, h1, h2, _⟩ := onN_mem.1 hy
    have hn : n - 1 < I.length := by omega
    exact hi _ (by simp [List.getD, hn])
theorem cpAll_ok {k kg : Nat} {A : List Pr} {s : Mq} (hk : 1 ≤ k) (hA : okUpto kg A A.length = true) : ∀ (ns : List Int) (st : List Int × Mq), (∀ y ∈ ns, ∃ n : Nat, y = n ∧ kg ≤ n ∧ n < kg + A.length) → CpOk k (kg + A.length) s st → CpOk k (kg + A.length) s (ns.foldl (cpAnd kg A k) st)
  | [], st, _, h => h
  | y :: r, st, hn, h => by
    rw [List.foldl_cons]
    obtain ⟨n, rfl, h1, h2⟩ := hn y List.mem_cons_self
    refine cpAll_ok hk hA r _ (fun z hz => hn z (List.mem_cons_of_mem _ hz)) ?_
    have hb := okPair_bd hA (i := n - kg) (by omega)
    exact h.step hk (p1 := (A.getD (n - kg) dPr).1) (p2 := (A.getD (n - kg) dPr).2) ⟨hb.1.1, by omega⟩ ⟨hb.2.1, by omega⟩ n
theorem cpTake_ok {k : Nat} {I : List Int} {A : List Pr} {img : Int → Int} {l : List Int} {s : Mq} (hk : 1 ≤ k) (hs : MOk k s) (hA : okUpto (1 + I.length) A A.length = true) (hi : ∀ v ∈ I, isE (img v) (k + s.1.length) = true) (j : Nat) :
    CpOk k (1 + I.length + A.length) s (((onN (reachA (1 + I.length) A l) (1 + I.length) A.length).take j).foldl (cpAnd (1 + I.length) A k) (cpIns I A img l, s)) := by
  refine cpAll_ok hk hA _ _ (fun y hy => ?_) (cpIns_ok hk hs hi)
  obtain ⟨n, rfl, h1, h2, _⟩ := onN_mem.1 (List.mem_of_mem_take hy)
  exact ⟨n, rfl, h1, h2⟩
theorem cpAll_eq (k : Nat) (I : List Int) (A : List Pr) (img : Int → Int) (l : List Int) (s : Mq) : cpAll k I A img l s = ((onN (reachA (1 + I.length) A l) (1 + I.length) A.length).take (onN (reachA (1 + I.length) A l) (1 + I.length) A.length).length).foldl (cpAnd (1 + I.length) A k) (cpIns I A img l, s) := by
  rw [List.take_length]; rfl
theorem copyA_made {k : Nat} {I : List Int} {A : List Pr} {img : Int → Int} {l : List Int} {s : Mq} (hk : 1 ≤ k) (hs : MOk k s) (hA : okUpto (1 + I.length) A A.length = true) (hi : ∀ v ∈ I, isE (img v) (k + s.1.length) = true) (hl : edgesB l (1 + I.length + A.length) = true) :
    (∃ B, (copyA k I A img l s).2.1 = s.1 ++ B) ∧ MOk k (copyA k I A img l s).2 ∧ (∀ x ∈ (copyA k I A img l s).1, isE x (k + (copyA k I A img l s).2.1.length) = true) ∧ (s.2 = true → (copyA k I A img l s).2.2 = true) ∧ (copyA k I A img l s).1.length = l.length := by
  have h := cpTake_ok (img := img) (l := l) hk hs hA hi (onN (reachA (1 + I.length) A l) (1 + I.length) A.length).length
  rw [← cpAll_eq] at h
  refine ⟨h.grow, h.ok, fun x hx => ?_, h.full, by unfold copyA; simp⟩
  unfold copyA at hx ⊢
  simp only [List.mem_map] at hx
  obtain ⟨e, he, rfl⟩ := hx
  have hb := edgesB_true.1 hl e he
  exact movE_isE h.ent hb.1 (by rw [h.len]; exact hb.2)
end Go.Proofs.YtppglbffmgnooaaGreat

/- Pure: the values of nodes and edges; conjunctions and copies have the values that they should. -/
namespace Go.Proofs.YtppglbffmgnooaaGreat
set_option linter.unusedVariables false
set_option linter.unusedSimpArgs false

/-- The value of an edge, from those of nodes. -/
def edgeV (t : List Bool) (e : Int) : Bool := t.getD (e / 2).toNat false != decide (e % 2 = 1)
def stepV (t : List Bool) (p : Pr) : List Bool := t ++ [edgeV t p.1 && edgeV t p.2]
/-- The values of all nodes, behind those of the constant and the inputs. -/
def runN (b : List Bool) (A : List Pr) : List Bool := A.foldl stepV b
theorem runN_len (A : List Pr) : ∀ b : List Bool, (runN b A).length = b.length + A.length := by
  induction A with
  | nil => intro b; simp [runN]
  | cons p r ih => intro b; show (runN (stepV b p) r).length = _; rw [ih]; unfold stepV; simp; omega
theorem runN_app (b : List Bool) (A B : List Pr) : runN b (A ++ B) = runN (runN b A) B := by unfold runN; rw [List.foldl_append]
theorem runN_grow (A : List Pr) : ∀ b : List Bool, ∃ c, runN b A = b ++ c := by
  induction A with
  | nil => exact fun b => ⟨[], by simp [runN]⟩
  | cons p r ih =>
    intro b
    obtain ⟨c, hc⟩ := ih (stepV b p)
    exact ⟨[edgeV b p.1 && edgeV b p.2] ++ c, by show runN (stepV b p) r = _; rw [hc]; unfold stepV; rw [List.append_assoc]⟩
theorem edgeV_app {t c : List Bool} {e : Int} (h : isE e t.length = true) : edgeV (t ++ c) e = edgeV t e := by
  have := isE_true.1 h
  unfold edgeV
  simp only [List.getD]
  rw [List.getElem?_append_left (by omega)]
theorem edgeV_grow {b : List Bool} {A B : List Pr} {e : Int} (h : isE e (b.length + A.length) = true) : edgeV (runN b (A ++ B)) e = edgeV (runN b A) e := by
  rw [runN_app]
  obtain ⟨c, hc⟩ := runN_grow B (runN b A)
  rw [hc]
  exact edgeV_app (by rw [runN_len]; exact h)
theorem edgeV_not {t : List Bool} {e : Int} (h : 0 ≤ e) : edgeV t (notE e) = !edgeV t e := by
  have hh := (notE_half h).1
  have hm : (notE e % 2 = 1) ↔ ¬ (e % 2 = 1) := by unfold notE; split <;> omega
  unfold edgeV
  rw [hh]
  by_cases c : e % 2 = 1
  · rw [decide_eq_false (fun h => hm.1 h c), decide_eq_true c]
    cases t.getD (e / 2).toNat false <;> rfl
  · rw [decide_eq_true (hm.2 c), decide_eq_false c]
    cases t.getD (e / 2).toNat false <;> rfl
/-- The value of a node that is an And. -/
theorem runN_at {b : List Bool} {A : List Pr} {i : Nat} (hA : okUpto b.length A A.length = true) (hi : i < A.length) : (runN b A).getD (b.length + i) false = (edgeV (runN b A) (A.getD i dPr).1 && edgeV (runN b A) (A.getD i dPr).2) := by
  have hs : A = A.take i ++ (A.getD i dPr :: A.drop (i + 1)) := by
    have h1 : A.getD i dPr = A[i] := by simp [List.getD, hi]
    rw [h1, ← List.drop_eq_getElem_cons hi, List.take_append_drop]
  have hp := okPair_bd hA hi
  have hlt : (A.take i).length = i := by rw [List.length_take]; omega
  have e1 : isE (A.getD i dPr).1 (b.length + (A.take i).length) = true := isE_true.2 ⟨hp.1.1, by rw [hlt]; exact hp.1.2⟩
  have e2 : isE (A.getD i dPr).2 (b.length + (A.take i).length) = true := isE_true.2 ⟨hp.2.1, by rw [hlt]; exact hp.2.2⟩
  have g1 : edgeV (runN b A) (A.getD i dPr).1 = edgeV (runN b (A.take i)) (A.getD i dPr).1 := by
    have h := edgeV_grow (b := b) (A := A.take i) (B := A.getD i dPr :: A.drop (i + 1)) e1
    rwa [← hs] at h
  have g2 : edgeV (runN b A) (A.getD i dPr).2 = edgeV (runN b (A.take i)) (A.getD i dPr).2 := by
    have h := edgeV_grow (b := b) (A := A.take i) (B := A.getD i dPr :: A.drop (i + 1)) e2
    rwa [← hs] at h
  rw [g1, g2]
  have hr : runN b A = runN (runN b (A.take i) ++ [edgeV (runN b (A.take i)) (A.getD i dPr).1 && edgeV (runN b (A.take i)) (A.getD i dPr).2]) (A.drop (i + 1)) := by
    conv => lhs; rw [hs]
    rw [runN_app]
    rfl
  rw [hr]
  obtain ⟨c, hc⟩ := runN_grow (A.drop (i + 1)) (runN b (A.take i) ++ [edgeV (runN b (A.take i)) (A.getD i dPr).1 && edgeV (runN b (A.take i)) (A.getD i dPr).2])
  have hl : (runN b (A.take i)).length = b.length + i := by rw [runN_len, hlt]
  rw [hc, List.append_assoc]
  simp only [List.getD]
  rw [List.getElem?_append_right (by omega)]
  simp [hl]
theorem runN_base {b : List Bool} {A : List Pr} {i : Nat} (hi : i < b.length) : (runN b A).getD i false = b.getD i false := by
  obtain ⟨c, hc⟩ := runN_grow A b
  rw [hc]
  simp only [List.getD]
  rw [List.getElem?_append_left hi]
theorem edgeV_base {b : List Bool} {A : List Pr} {e : Int} (h : isE e b.length = true) : edgeV (runN b A) e = edgeV b e := by
  obtain ⟨c, hc⟩ := runN_grow A b
  rw [hc]
  exact edgeV_app h
theorem edgeV_even {t : List Bool} {n : Nat} : edgeV t (2 * (n : Int)) = t.getD n false := by
  unfold edgeV
  rw [show ((2 * (n : Int)) / 2).toNat = n from by omega, decide_eq_false (by omega)]
  cases t.getD n false <;> rfl
theorem edgeV_zero {b : List Bool} {A : List Pr} (hb : b.getD 0 false = false) (hl : 1 ≤ b.length) : edgeV (runN b A) 0 = false ∧ edgeV (runN b A) 1 = true := by
  have h0 : (runN b A).getD 0 false = false := by rw [runN_base (by omega), hb]
  unfold edgeV
  constructor
  · show ((runN b A).getD 0 false != false) = false
    rw [h0]; rfl
  · show ((runN b A).getD 0 false != true) = true
    rw [h0]; rfl
/-- What making keeps of values: those of edges that were there stay. -/
theorem made_keeps {b : List Bool} {s : Mq} {r : Int × Mq} (h : Made b.length s r) {e : Int} (he : isE e (b.length + s.1.length) = true) : edgeV (runN b r.2.1) e = edgeV (runN b s.1) e := by
  obtain ⟨B, hB⟩ := h.grow
  rw [hB]
  exact edgeV_grow he
theorem conjO_val {b : List Bool} {s : Mq} {x y : Int} (hb : b.getD 0 false = false) (hl : 1 ≤ b.length) (h : MOk b.length s) (hx : isE x (b.length + s.1.length) = true) (hy : isE y (b.length + s.1.length) = true) (hxy : x ≤ y) (hf : (conjO b.length s x y).2.2 = false) (hs : s.2 = false) :
    edgeV (runN b (conjO b.length s x y).2.1) (conjO b.length s x y).1 = (edgeV (runN b s.1) x && edgeV (runN b s.1) y) := by
  have hz := edgeV_zero (A := s.1) hb hl
  have hx0 := (isE_true.1 hx).1
  have hy0 := (isE_true.1 hy).1
  unfold conjO at hf ⊢
  split at hf
  · rename_i c
    rw [if_pos c]
    show edgeV (runN b s.1) 0 = _
    rw [hz.1]
    rcases c with rfl | rfl
    · rw [hz.1]; rfl
    · rw [edgeV_not hx0]; cases edgeV (runN b s.1) x <;> rfl
  · rename_i c
    rw [if_neg c]
    split at hf
    · rename_i c2
      rw [if_pos c2]
      show edgeV (runN b s.1) y = _
      rcases c2 with rfl | rfl
      · rw [hz.2]; rfl
      · cases edgeV (runN b s.1) x <;> rfl
    · rename_i c2
      rw [if_neg c2]
      split at hf
      · rename_i c3
        rw [if_pos c3]
        show edgeV (runN b s.1) (2 * ((b.length + s.1.idxOf (x, y) : Nat) : Int)) = _
        have hi := List.idxOf_lt_length_of_mem c3
        rw [edgeV_even, runN_at h.ok hi]
        have hg : s.1.getD (s.1.idxOf (x, y)) dPr = (x, y) := by
          simp [List.getD, hi]
        rw [hg]
      · rename_i c3
        rw [if_neg c3]
        split at hf
        · cases hf
        · rename_i c4
          rw [if_neg c4]
          show edgeV (runN b (s.1 ++ [(x, y)])) (2 * ((b.length + s.1.length : Nat) : Int)) = _
          rw [edgeV_even, runN_app]
          show ((runN b s.1) ++ [edgeV (runN b s.1) x && edgeV (runN b s.1) y]).getD _ false = _
          have hlr : (runN b s.1).length = b.length + s.1.length := runN_len _ _
          simp only [List.getD]
          rw [List.getElem?_append_right (by omega)]
          simp [hlr]
theorem conjA_val {b : List Bool} {s : Mq} {x y : Int} (hb : b.getD 0 false = false) (hl : 1 ≤ b.length) (h : MOk b.length s) (hx : isE x (b.length + s.1.length) = true) (hy : isE y (b.length + s.1.length) = true) (hf : (conjA b.length s x y).2.2 = false) (hs : s.2 = false) :
    edgeV (runN b (conjA b.length s x y).2.1) (conjA b.length s x y).1 = (edgeV (runN b s.1) x && edgeV (runN b s.1) y) := by
  unfold conjA at hf ⊢
  by_cases e : x ≤ y
  · rw [Int.min_eq_left e, Int.max_eq_right e] at hf ⊢
    exact conjO_val hb hl h hx hy e hf hs
  · rw [Int.min_eq_right (by omega), Int.max_eq_left (by omega)] at hf ⊢
    rw [conjO_val hb hl h hy hx (by omega) hf hs, Bool.and_comm]
/-- Nothing found no room: so it was before. -/
theorem full_back {k : Nat} {s : Mq} {r : Int × Mq} (h : Made k s r) (hf : r.2.2 = false) : s.2 = false := by
  cases e : s.2 with
  | false => rfl
  | true => rw [h.full e] at hf; cases hf
theorem disjA_val {b : List Bool} {s : Mq} {x y : Int} (hb : b.getD 0 false = false) (hl : 1 ≤ b.length) (h : MOk b.length s) (hx : isE x (b.length + s.1.length) = true) (hy : isE y (b.length + s.1.length) = true) (hf : (disjA b.length s x y).2.2 = false) (hs : s.2 = false) :
    edgeV (runN b (disjA b.length s x y).2.1) (disjA b.length s x y).1 = (edgeV (runN b s.1) x || edgeV (runN b s.1) y) := by
  have hx0 := (isE_true.1 hx).1
  have hy0 := (isE_true.1 hy).1
  have hm := conjA_made h hl (notE_isE hx) (notE_isE hy)
  have hv := conjA_val hb hl h (notE_isE hx) (notE_isE hy) hf hs
  unfold disjA
  show edgeV (runN b (conjA b.length s (notE x) (notE y)).2.1) (notE (conjA b.length s (notE x) (notE y)).1) = _
  rw [edgeV_not (isE_true.1 hm.edge).1, hv, edgeV_not hx0, edgeV_not hy0]
  cases edgeV (runN b s.1) x <;> cases edgeV (runN b s.1) y <;> rfl
theorem exclA_val {b : List Bool} {s : Mq} {x y : Int} (hb : b.getD 0 false = false) (hl : 1 ≤ b.length) (h : MOk b.length s) (hx : isE x (b.length + s.1.length) = true) (hy : isE y (b.length + s.1.length) = true) (hf : (exclA b.length s x y).2.2 = false) (hs : s.2 = false) :
    edgeV (runN b (exclA b.length s x y).2.1) (exclA b.length s x y).1 = (edgeV (runN b s.1) x != edgeV (runN b s.1) y) := by
  have hx0 := (isE_true.1 hx).1
  have hy0 := (isE_true.1 hy).1
  have m1 := conjA_made h hl hx (notE_isE hy)
  have m2 := conjA_made (s := (conjA b.length s x (notE y)).2) m1.ok hl (m1.more (notE_isE hx)) (m1.more hy)
  have m3 := disjA_made (s := (conjA b.length (conjA b.length s x (notE y)).2 (notE x) y).2) m2.ok hl (m2.more m1.edge) m2.edge
  have f2 := full_back m3 hf
  have f1 := full_back m2 f2
  have v1 := conjA_val hb hl h hx (notE_isE hy) f1 hs
  have v2 := conjA_val hb hl m1.ok (m1.more (notE_isE hx)) (m1.more hy) f2 f1
  have v3 := disjA_val hb hl m2.ok (m2.more m1.edge) m2.edge hf f2
  unfold exclA
  rw [v3, made_keeps m2 m1.edge, v1, v2, made_keeps m1 (notE_isE hx), made_keeps m1 hy, edgeV_not hx0, edgeV_not hy0]
  cases edgeV (runN b s.1) x <;> cases edgeV (runN b s.1) y <;> rfl
theorem iteA_val {b : List Bool} {s : Mq} {c x y : Int} (hb : b.getD 0 false = false) (hl : 1 ≤ b.length) (h : MOk b.length s) (hc : isE c (b.length + s.1.length) = true) (hx : isE x (b.length + s.1.length) = true) (hy : isE y (b.length + s.1.length) = true) (hf : (iteA b.length s c x y).2.2 = false) (hs : s.2 = false) :
    edgeV (runN b (iteA b.length s c x y).2.1) (iteA b.length s c x y).1 = (if edgeV (runN b s.1) c then edgeV (runN b s.1) x else edgeV (runN b s.1) y) := by
  have hc0 := (isE_true.1 hc).1
  have m1 := conjA_made h hl hc hx
  have m2 := conjA_made (s := (conjA b.length s c x).2) m1.ok hl (m1.more (notE_isE hc)) (m1.more hy)
  have m3 := disjA_made (s := (conjA b.length (conjA b.length s c x).2 (notE c) y).2) m2.ok hl (m2.more m1.edge) m2.edge
  have f2 := full_back m3 hf
  have f1 := full_back m2 f2
  have v1 := conjA_val hb hl h hc hx f1 hs
  have v2 := conjA_val hb hl m1.ok (m1.more (notE_isE hc)) (m1.more hy) f2 f1
  have v3 := disjA_val hb hl m2.ok (m2.more m1.edge) m2.edge hf f2
  unfold iteA
  rw [v3, made_keeps m2 m1.edge, v1, v2, made_keeps m1 (notE_isE hc), made_keeps m1 hy, edgeV_not hc0]
  cases edgeV (runN b s.1) c <;> cases edgeV (runN b s.1) x <;> cases edgeV (runN b s.1) y <;> rfl
theorem all_congrM {α : Type} {p q : α → Bool} : ∀ {l : List α}, (∀ x ∈ l, p x = q x) → l.all p = l.all q
  | [], _ => rfl
  | x :: r, h => by rw [List.all_cons, List.all_cons, h x List.mem_cons_self, all_congrM (fun y hy => h y (List.mem_cons_of_mem _ hy))]
theorem any_congrM {α : Type} {p q : α → Bool} : ∀ {l : List α}, (∀ x ∈ l, p x = q x) → l.any p = l.any q
  | [], _ => rfl
  | x :: r, h => by rw [List.any_cons, List.any_cons, h x List.mem_cons_self, any_congrM (fun y hy => h y (List.mem_cons_of_mem _ hy))]
theorem allA_val {b : List Bool} (hb : b.getD 0 false = false) (hl : 1 ≤ b.length) : ∀ (l : List Int) (s : Mq) (x : Int), MOk b.length s → isE x (b.length + s.1.length) = true → (∀ e ∈ l, isE e (b.length + s.1.length) = true) → (allA b.length l s x).2.2 = false → s.2 = false →
    edgeV (runN b (allA b.length l s x).2.1) (allA b.length l s x).1 = (edgeV (runN b s.1) x && l.all (edgeV (runN b s.1)))
  | [], s, x, h, hx, _, _, _ => by simp [allA]
  | e :: r, s, x, h, hx, he, hf, hs => by
    have m1 := conjA_made h hl hx (he e List.mem_cons_self)
    have hr : ∀ y ∈ r, isE y (b.length + (conjA b.length s x e).2.1.length) = true := fun y hy => m1.more (he y (List.mem_cons_of_mem _ hy))
    have m2 := allA_made hl r _ _ m1.ok m1.edge hr
    have f1 := full_back m2 hf
    have v1 := conjA_val hb hl h hx (he e List.mem_cons_self) f1 hs
    have v2 := allA_val hb hl r _ _ m1.ok m1.edge hr hf f1
    show edgeV (runN b (allA b.length r (conjA b.length s x e).2 (conjA b.length s x e).1).2.1) (allA b.length r (conjA b.length s x e).2 (conjA b.length s x e).1).1 = _
    rw [v2, v1, List.all_cons, Bool.and_assoc]
    congr 2
    exact all_congrM (fun y hy => made_keeps m1 (he y (List.mem_cons_of_mem _ hy)))
end Go.Proofs.YtppglbffmgnooaaGreat

/- Pure: what edges reach, as the least set that is closed. -/
namespace Go.Proofs.YtppglbffmgnooaaGreat
set_option linter.unusedVariables false
set_option linter.unusedSimpArgs false

theorem getD_set {m : List Bool} {i n : Nat} : (m.set i true).getD n false = true ↔ (n = i ∧ i < m.length) ∨ m.getD n false = true := by
  simp only [List.getD, List.getElem?_set]
  by_cases e : i = n
  · subst e
    by_cases h : i < m.length
    · simp [h]
    · simp [h]
  · rw [if_neg e]
    constructor
    · exact .inr
    · rintro (⟨rfl, _⟩ | h)
      · exact absurd rfl e
      · exact h
inductive RchN (k : Nat) (A : List Pr) (l : List Int) : Nat → Prop
  | edge {e : Int} : e ∈ l → RchN k A l (e / 2).toNat
  | fst {i : Nat} : i < A.length → RchN k A l (k + i) → RchN k A l ((A.getD i dPr).1 / 2).toNat
  | snd {i : Nat} : i < A.length → RchN k A l (k + i) → RchN k A l ((A.getD i dPr).2 / 2).toNat
theorem mark_says (l : List Int) : ∀ (m : List Bool) (n : Nat), ((l.foldl (fun m e => m.set (e / 2).toNat true) m).getD n false = true) ↔ (∃ e ∈ l, n = (e / 2).toNat ∧ n < m.length) ∨ m.getD n false = true := by
  induction l with
  | nil => intro m n; simp
  | cons x r ih =>
    intro m n
    rw [List.foldl_cons, ih, List.length_set, getD_set]
    constructor
    · rintro (⟨e, he, h1, h2⟩ | (⟨h1, h2⟩ | h))
      · exact .inl ⟨e, List.mem_cons_of_mem _ he, h1, h2⟩
      · exact .inl ⟨x, List.mem_cons_self, h1, by omega⟩
      · exact .inr h
    · rintro (⟨e, he, h1, h2⟩ | h)
      · rcases List.mem_cons.1 he with rfl | he
        · exact .inr (.inl ⟨h1, by omega⟩)
        · exact .inl ⟨e, he, h1, h2⟩
      · exact .inr (.inr h)
theorem mark0_says {n0 n : Nat} {l : List Int} : (mark0 n0 l).getD n false = true ↔ ∃ e ∈ l, n = (e / 2).toNat ∧ n < n0 := by
  unfold mark0
  rw [mark_says, List.length_replicate]
  constructor
  · rintro (h | h)
    · exact h
    · simp [List.getD, List.getElem?_replicate] at h
      split at h <;> simp at h
  · exact .inl
theorem backA_more (k : Nat) (A : List Pr) : ∀ (i : Nat) (m : List Bool) (n : Nat), m.getD n false = true → (backA k A i m).getD n false = true
  | 0, m, n, h => h
  | i + 1, m, n, h => by
    unfold backA
    refine backA_more k A i _ n ?_
    split
    · exact getD_set.2 (.inr (getD_set.2 (.inr h)))
    · exact h
theorem backA_high {k : Nat} {A : List Pr} (hA : okUpto k A A.length = true) : ∀ (i : Nat) (m : List Bool) (n : Nat), i ≤ A.length → k + i ≤ n + 1 → (backA k A i m).getD n false = true → m.getD n false = true
  | 0, m, n, _, _, h => h
  | i + 1, m, n, hi, hn, h => by
    unfold backA at h
    have h2 := backA_high hA i _ n (by omega) (by omega) h
    have hp := okPair_bd hA (i := i) (by omega)
    split at h2
    · rcases getD_set.1 h2 with ⟨e, _⟩ | h2
      · omega
      · rcases getD_set.1 h2 with ⟨e, _⟩ | h2
        · omega
        · exact h2
    · exact h2
theorem backA_closed {k : Nat} {A : List Pr} (hA : okUpto k A A.length = true) : ∀ (i : Nat) (m : List Bool), i ≤ A.length → m.length = k + A.length → ∀ j, j < i → (backA k A i m).getD (k + j) false = true → (backA k A i m).getD ((A.getD j dPr).1 / 2).toNat false = true ∧ (backA k A i m).getD ((A.getD j dPr).2 / 2).toNat false = true
  | 0, m, _, _, j, hj, _ => absurd hj (Nat.not_lt_zero _)
  | i + 1, m, hi, hm, j, hj, h => by
    have hp := okPair_bd hA (i := i) (by omega)
    unfold backA at h ⊢
    by_cases e : j = i
    · subst e
      have h2 := backA_high hA j _ (k + j) (by omega) (by omega) h
      have h3 : m.getD (k + j) false = true := by
        split at h2
        · rcases getD_set.1 h2 with ⟨e, _⟩ | h2
          · omega
          · rcases getD_set.1 h2 with ⟨e, _⟩ | h2
            · omega
            · exact h2
        · exact h2
      rw [if_pos h3]
      refine ⟨backA_more k A j _ _ (getD_set.2 (.inr (getD_set.2 (.inl ⟨rfl, by omega⟩)))), backA_more k A j _ _ (getD_set.2 (.inl ⟨rfl, by rw [List.length_set]; omega⟩))⟩
    · refine backA_closed hA i _ (by omega) ?_ j (by omega) h
      split
      · rw [List.length_set, List.length_set]; exact hm
      · exact hm
theorem backA_only {k : Nat} {A : List Pr} {l : List Int} : ∀ (i : Nat) (m : List Bool), i ≤ A.length → (∀ n, m.getD n false = true → RchN k A l n) → ∀ n, (backA k A i m).getD n false = true → RchN k A l n
  | 0, m, _, h, n, hn => h n hn
  | i + 1, m, hi, h, n, hn => by
    unfold backA at hn
    refine backA_only i _ (by omega) (fun n hn => ?_) n hn
    split at hn
    · rename_i c
      have hr := h _ c
      rcases getD_set.1 hn with ⟨rfl, _⟩ | hn
      · exact .snd (by omega) hr
      · rcases getD_set.1 hn with ⟨rfl, _⟩ | hn
        · exact .fst (by omega) hr
        · exact h n hn
    · exact h n hn
theorem reach_iff {k : Nat} {A : List Pr} {l : List Int} (hA : okUpto k A A.length = true) (hl : edgesB l (k + A.length) = true) {n : Nat} : (reachA k A l).getD n false = true ↔ RchN k A l n := by
  constructor
  · unfold reachA
    refine backA_only A.length _ (Nat.le_refl _) (fun n hn => ?_) n
    obtain ⟨e, he, rfl, _⟩ := mark0_says.1 hn
    exact .edge he
  · intro h
    induction h with
    | edge he =>
      unfold reachA
      have := edgesB_true.1 hl _ he
      exact backA_more _ _ _ _ _ (mark0_says.2 ⟨_, he, rfl, by omega⟩)
    | fst hi _ ih =>
      unfold reachA at ih ⊢
      exact (backA_closed hA A.length _ (Nat.le_refl _) (mark0_len _ _) _ hi ih).1
    | snd hi _ ih =>
      unfold reachA at ih ⊢
      exact (backA_closed hA A.length _ (Nat.le_refl _) (mark0_len _ _) _ hi ih).2
theorem rch_lt {k : Nat} {A : List Pr} {l : List Int} (hA : okUpto k A A.length = true) (hl : edgesB l (k + A.length) = true) {n : Nat} (h : RchN k A l n) : n < k + A.length := by
  have h2 := (reach_iff hA hl).2 h
  rw [← reachA_len k A l]
  exact Nat.lt_of_not_le (fun hh => by simp [List.getD, List.getElem?_eq_none hh] at h2)
end Go.Proofs.YtppglbffmgnooaaGreat

/- Pure: copies have the values of what they are copies of. -/
namespace Go.Proofs.YtppglbffmgnooaaGreat
set_option linter.unusedVariables false
set_option linter.unusedSimpArgs false

theorem onN_sorted (m : List Bool) (a n : Nat) : (onN m a n).Pairwise (· < ·) := by
  unfold onN
  rw [List.pairwise_map]
  refine List.Pairwise.imp (fun h => by omega) (List.Pairwise.filter _ (List.pairwise_lt_range' (s := a) (n := n)))
theorem cpIns_at {I : List Int} {img : Int → Int} : ∀ (ns t : List Int), (∀ y ∈ ns, 0 ≤ y) → ∀ n : Nat, n < t.length → (ns.foldl (cpIn I img) t).getD n 0 = if (n : Int) ∈ ns then img (I.getD (n - 1) 0) else t.getD n 0
  | [], t, _, n, _ => by simp
  | y :: r, t, h, n, hn => by
    rw [List.foldl_cons, cpIns_at r _ (fun z hz => h z (List.mem_cons_of_mem _ hz)) n (by unfold cpIn; rw [List.length_set]; exact hn)]
    have hy := h y List.mem_cons_self
    by_cases c : (n : Int) ∈ r
    · rw [if_pos c, if_pos (List.mem_cons_of_mem _ c)]
    · rw [if_neg c]
      unfold cpIn
      by_cases e : (n : Int) = y
      · rw [if_pos (by rw [e]; exact List.mem_cons_self)]
        have : y.toNat = n := by omega
        rw [this]
        simp [List.getD, hn]
      · rw [if_neg (by simp [e, c])]
        simp only [List.getD]
        rw [List.getElem?_set_ne (by omega)]
theorem getD_setI {t : List Int} {i n : Nat} {x : Int} (hi : i < t.length) : (t.set i x).getD n 0 = if n = i then x else t.getD n 0 := by
  simp only [List.getD]
  by_cases e : n = i
  · subst e; simp [hi]
  · rw [if_neg e, List.getElem?_set_ne (by omega)]
/-- An image of an edge has the value of the edge. -/
theorem movE_val {t : List Int} {u v : List Bool} {e : Int} (h0 : 0 ≤ e) (hp : ∀ n : Nat, n = (e / 2).toNat → 0 ≤ t.getD n 0 ∧ edgeV u (t.getD n 0) = v.getD n false) : edgeV u (movE t e) = edgeV v e := by
  obtain ⟨hp0, hp1⟩ := hp _ rfl
  unfold movE
  by_cases c : e % 2 = 0
  · rw [if_pos c, hp1]
    unfold edgeV
    rw [decide_eq_false (by omega)]
    cases v.getD (e / 2).toNat false <;> rfl
  · rw [if_neg c, edgeV_not hp0, hp1]
    unfold edgeV
    rw [decide_eq_true (by omega)]
    cases v.getD (e / 2).toNat false <;> rfl
/-- What the copier keeps: the nodes below m that are reached have images of their values. -/
def CpVal (b b0 : List Bool) (A : List Pr) (R : List Bool) (st : List Int × Mq) (m : Nat) : Prop := ∀ n, n < m → R.getD n false = true → edgeV (runN b st.2.1) (st.1.getD n 0) = (runN b0 A).getD n false
theorem cpFold_val {b b0 : List Bool} {A : List Pr} {l : List Int} {s : Mq} (hb : b.getD 0 false = false) (hl : 1 ≤ b.length) (hA : okUpto b0.length A A.length = true) (hle : edgesB l (b0.length + A.length) = true) :
    ∀ (ns : List Int) (m : Nat) (st : List Int × Mq), b0.length ≤ m → m ≤ b0.length + A.length → ns = onN (reachA b0.length A l) m (b0.length + A.length - m) → CpOk b.length (b0.length + A.length) s st → CpVal b b0 A (reachA b0.length A l) st m →
      (ns.foldl (cpAnd b0.length A b.length) st).2.2 = false → CpVal b b0 A (reachA b0.length A l) (ns.foldl (cpAnd b0.length A b.length) st) (b0.length + A.length) := by
  intro ns
  induction ns with
  | nil =>
    intro m st h1 h2 hn hok hv hf n hlt hr
    refine hv n (Nat.lt_of_not_le (fun hle => ?_)) hr
    have : (n : Int) ∈ onN (reachA b0.length A l) m (b0.length + A.length - m) := onN_mem.2 ⟨n, rfl, hle, by omega, hr⟩
    rw [← hn] at this
    cases this
  | cons y r ih =>
    intro m st h1 h2 hn hok hv hf
    have hy : y ∈ onN (reachA b0.length A l) m (b0.length + A.length - m) := by rw [← hn]; exact List.mem_cons_self
    obtain ⟨n, rfl, n1, n2, n3⟩ := onN_mem.1 hy
    have hsort := onN_sorted (reachA b0.length A l) m (b0.length + A.length - m)
    rw [← hn] at hsort
    obtain ⟨hs1, hs2⟩ := List.pairwise_cons.1 hsort
    have hrest : r = onN (reachA b0.length A l) (n + 1) (b0.length + A.length - (n + 1)) := by
      refine List.Perm.eq_of_pairwise (le := (· < ·)) (fun a b _ _ h1 h2 => by omega) hs2 (onN_sorted _ _ _) ?_
      refine (List.perm_ext_iff_of_nodup (hs2.imp (fun h => by omega)) ((onN_sorted _ _ _).imp (fun h => by omega))).2 (fun x => ?_)
      constructor
      · intro hx
        have h3 := hs1 x hx
        have hx2 : x ∈ onN (reachA b0.length A l) m (b0.length + A.length - m) := by rw [← hn]; exact List.mem_cons_of_mem _ hx
        obtain ⟨q, rfl, q1, q2, q3⟩ := onN_mem.1 hx2
        exact onN_mem.2 ⟨q, rfl, by omega, by omega, q3⟩
      · intro hx
        obtain ⟨q, rfl, q1, q2, q3⟩ := onN_mem.1 hx
        have hx2 : (q : Int) ∈ onN (reachA b0.length A l) m (b0.length + A.length - m) := onN_mem.2 ⟨q, rfl, by omega, by omega, q3⟩
        rw [← hn] at hx2
        rcases List.mem_cons.1 hx2 with e | hx2
        · omega
        · exact hx2
    obtain ⟨i, rfl⟩ : ∃ i, n = b0.length + i := ⟨n - b0.length, by omega⟩
    have hi : i < A.length := by omega
    have hp := okPair_bd hA hi
    have hcl : (reachA b0.length A l).getD ((A.getD i dPr).1 / 2).toNat false = true ∧ (reachA b0.length A l).getD ((A.getD i dPr).2 / 2).toNat false = true := by
      have hr := (reach_iff hA hle).1 n3
      exact ⟨(reach_iff hA hle).2 (.fst hi hr), (reach_iff hA hle).2 (.snd hi hr)⟩
    have hst : cpAnd b0.length A b.length st ((b0.length + i : Nat) : Int) = (st.1.set (b0.length + i) (conjA b.length st.2 (movE st.1 (A.getD i dPr).1) (movE st.1 (A.getD i dPr).2)).1, (conjA b.length st.2 (movE st.1 (A.getD i dPr).1) (movE st.1 (A.getD i dPr).2)).2) := by
      unfold cpAnd
      rw [show ((b0.length + i : Nat) : Int).toNat = b0.length + i from by omega, show b0.length + i - b0.length = i from by omega]
    have hok2 : CpOk b.length (b0.length + A.length) s (cpAnd b0.length A b.length st ((b0.length + i : Nat) : Int)) := by
      rw [hst]
      exact hok.step hl (p1 := (A.getD i dPr).1) (p2 := (A.getD i dPr).2) ⟨hp.1.1, by have := hp.1.2; omega⟩ ⟨hp.2.1, by have := hp.2.2; omega⟩ (b0.length + i)
    have hok3 : CpOk b.length (b0.length + A.length) s (r.foldl (cpAnd b0.length A b.length) (cpAnd b0.length A b.length st ((b0.length + i : Nat) : Int))) :=
      cpAll_ok hl hA r _ (fun z hz => by rw [hrest] at hz; obtain ⟨q, rfl, q1, q2, _⟩ := onN_mem.1 hz; exact ⟨q, rfl, by omega, by omega⟩) hok2
    have hfm : ∀ (r : List Int) (st : List Int × Mq), (∀ z ∈ r, ∃ q : Nat, z = q ∧ b0.length ≤ q ∧ q < b0.length + A.length) → CpOk b.length (b0.length + A.length) s st → st.2.2 = true → (r.foldl (cpAnd b0.length A b.length) st).2.2 = true := by
      intro r
      induction r with
      | nil => exact fun st _ _ h => h
      | cons z q ihq =>
        intro st hz hs hfull
        rw [List.foldl_cons]
        obtain ⟨c, rfl, c1, c2⟩ := hz z List.mem_cons_self
        have hpc := okPair_bd hA (i := c - b0.length) (by omega)
        have hcs := hs.step hl (p1 := (A.getD (c - b0.length) dPr).1) (p2 := (A.getD (c - b0.length) dPr).2) ⟨hpc.1.1, by have := hpc.1.2; omega⟩ ⟨hpc.2.1, by have := hpc.2.2; omega⟩ c
        refine ihq _ (fun x hx => hz x (List.mem_cons_of_mem _ hx)) hcs ?_
        exact (conjA_made (s := st.2) hs.ok hl (movE_isE hs.ent hpc.1.1 (by rw [hs.len]; have := hpc.1.2; omega)) (movE_isE hs.ent hpc.2.1 (by rw [hs.len]; have := hpc.2.2; omega))).full hfull
    have hrn : ∀ z ∈ r, ∃ q : Nat, z = q ∧ b0.length ≤ q ∧ q < b0.length + A.length := fun z hz => by rw [hrest] at hz; obtain ⟨q, rfl, q1, q2, _⟩ := onN_mem.1 hz; exact ⟨q, rfl, by omega, by omega⟩
    rw [List.foldl_cons] at hf ⊢
    refine ih (b0.length + i + 1) _ (by omega) (by omega) hrest hok2 ?_ hf
    have hf2 : (cpAnd b0.length A b.length st ((b0.length + i : Nat) : Int)).2.2 = false := by
      cases e : (cpAnd b0.length A b.length st ((b0.length + i : Nat) : Int)).2.2 with
      | false => rfl
      | true => rw [hfm r _ hrn hok2 e] at hf; cases hf
    have e1 : isE (movE st.1 (A.getD i dPr).1) (b.length + st.2.1.length) = true := movE_isE hok.ent hp.1.1 (by rw [hok.len]; have := hp.1.2; omega)
    have e2 : isE (movE st.1 (A.getD i dPr).2) (b.length + st.2.1.length) = true := movE_isE hok.ent hp.2.1 (by rw [hok.len]; have := hp.2.2; omega)
    have hm := conjA_made (s := st.2) hok.ok hl e1 e2
    rw [hst] at hf2 ⊢
    have hf1 := full_back hm hf2
    have hcv := conjA_val hb hl hok.ok e1 e2 hf2 hf1
    have hbd := hok.bd
    have hent : ∀ c, c < b0.length + A.length → isE (st.1.getD c 0) (b.length + st.2.1.length) = true := fun c hc => hok.ent _ (getD_mem (by rw [hok.len]; exact hc))
    have hlow : ∀ (c : Int), 0 ≤ c → c / 2 < ((b0.length + i : Nat) : Int) → (reachA b0.length A l).getD (c / 2).toNat false = true → edgeV (runN b st.2.1) (movE st.1 c) = edgeV (runN b0 A) c := fun c c0 c1 cr => by
      refine movE_val c0 (fun q hq => ?_)
      subst hq
      have hqm : (c / 2).toNat < b0.length + i := by omega
      refine ⟨(isE_true.1 (hent _ (by omega))).1, ?_⟩
      by_cases hcm : (c / 2).toNat < m
      · exact hv _ hcm cr
      · exfalso
        have hin : (((c / 2).toNat : Nat) : Int) ∈ onN (reachA b0.length A l) m (b0.length + A.length - m) := onN_mem.2 ⟨_, rfl, by omega, by omega, cr⟩
        rw [← hn] at hin
        rcases List.mem_cons.1 hin with e | hin
        · omega
        · have := hs1 _ hin; omega
    have hl1 := hlow _ hp.1.1 hp.1.2 hcl.1
    have hl2 := hlow _ hp.2.1 hp.2.2 hcl.2
    intro c hc hcr
    show edgeV (runN b (conjA b.length st.2 _ _).2.1) ((st.1.set (b0.length + i) _).getD c 0) = _
    rw [getD_setI (by rw [hok.len]; omega)]
    by_cases ce : c = b0.length + i
    · subst ce
      rw [if_pos rfl, hcv, hl1, hl2, runN_at hA hi]
    · rw [if_neg ce, made_keeps hm (hent c (by omega))]
      by_cases hcm : c < m
      · exact hv c hcm hcr
      · exfalso
        have hin : (c : Int) ∈ onN (reachA b0.length A l) m (b0.length + A.length - m) := onN_mem.2 ⟨c, rfl, by omega, by omega, hcr⟩
        rw [← hn] at hin
        rcases List.mem_cons.1 hin with e | hin
        · omega
        · have := hs1 _ hin; omega
/-- The values of the copies. -/
theorem copyA_val {b b0 : List Bool} {I : List Int} {A : List Pr} {img : Int → Int} {l : List Int} {s : Mq} (hb : b.getD 0 false = false) (hl : 1 ≤ b.length) (hb0 : b0.getD 0 false = false) (hlen : b0.length = 1 + I.length) (hs : MOk b.length s) (hsf : s.2 = false)
    (hA : okUpto (1 + I.length) A A.length = true) (hle : edgesB l (1 + I.length + A.length) = true) (hi : ∀ v ∈ I, isE (img v) (b.length + s.1.length) = true) (hv : ∀ j, j < I.length → (reachA (1 + I.length) A l).getD (1 + j) false = true → edgeV (runN b s.1) (img (I.getD j 0)) = b0.getD (1 + j) false)
    (hf : (copyA b.length I A img l s).2.2 = false) : ∀ j, j < l.length → edgeV (runN b (copyA b.length I A img l s).2.1) ((copyA b.length I A img l s).1.getD j 0) = edgeV (runN b0 A) (l.getD j 0) := by
  have hz := edgeV_zero (A := s.1) hb hl
  have hok := cpIns_ok (l := l) (A := A) (img := img) hl hs hi
  have hinit : CpVal b b0 A (reachA (1 + I.length) A l) (cpIns I A img l, s) b0.length := by
    intro n hn hr
    rw [runN_base hn]
    show edgeV (runN b s.1) ((cpIns I A img l).getD n 0) = _
    unfold cpIns
    rw [cpIns_at _ _ (fun y hy => by obtain ⟨q, rfl, _⟩ := onN_mem.1 hy; omega) n (by rw [List.length_replicate]; omega)]
    cases n with
    | zero =>
      rw [if_neg (fun h => by obtain ⟨q, hq, h1, _⟩ := onN_mem.1 h; omega), hb0]
      simp [List.getD, List.getElem?_replicate]
      split <;> exact hz.1
    | succ j =>
      rw [if_pos (onN_mem.2 ⟨j + 1, rfl, by omega, by omega, hr⟩)]
      have := hv j (by omega) (by rw [Nat.add_comm 1 j]; exact hr)
      rw [Nat.add_comm 1 j] at this
      exact this
  have hall := cpFold_val (l := l) (s := s) hb hl (by rw [hlen]; exact hA) (by rw [hlen]; exact hle) _ b0.length (cpIns I A img l, s) (Nat.le_refl _) (by omega) rfl (by rw [hlen]; exact hok) (by rw [hlen]; rw [hlen] at hinit; exact hinit)
  have hcp := cpTake_ok (img := img) (l := l) hl hs hA hi (onN (reachA (1 + I.length) A l) (1 + I.length) A.length).length
  rw [← cpAll_eq] at hcp
  rw [show b0.length + A.length - b0.length = A.length from by omega] at hall
  rw [hlen] at hall
  intro j hj
  have hm : l.getD j 0 ∈ l := by simp [List.getD, hj]
  have hbd := edgesB_true.1 hle _ hm
  have hget : (copyA b.length I A img l s).1.getD j 0 = movE (cpAll b.length I A img l s).1 (l.getD j 0) := by
    unfold copyA
    simp [List.getD, hj]
  rw [hget]
  refine movE_val hbd.1 (fun n hn => ?_)
  subst hn
  have hlt : (l.getD j 0 / 2).toNat < 1 + I.length + A.length := by omega
  refine ⟨(isE_true.1 (hcp.ent _ (getD_mem (by rw [hcp.len]; exact hlt)))).1, ?_⟩
  exact hall hf _ hlt ((reach_iff hA hle).2 (.edge hm))
end Go.Proofs.YtppglbffmgnooaaGreat
