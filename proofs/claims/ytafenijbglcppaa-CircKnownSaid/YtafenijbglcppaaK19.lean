/- Joined texts: CxRNorm, CxRPre, CxRMay, CxPAll, CxPNam, CxPSup, CxPOver. -/
import Derived.Test.YtafenijbglcppaaK18
/- The reference's Normal (layer 5). -/
namespace Go.Proofs.Ytafenijbglcppaa
open Go.RowKit Go.Maps Go.Shelf
set_option linter.unusedVariables false
set_option linter.unusedSimpArgs false

theorem abs5_vo (x : Int) : varOf x = if 65536 < abs5 x then 0 else abs5 x := by
  unfold varOf abs5
  split <;> split <;> (try split) <;> (try split) <;> omega
theorem abs5_pos {x : Int} (h1 : -9223372036854775808 ≤ x) : 0 ≤ abs5 x := by unfold abs5; split <;> (try split) <;> omega
end Go.Proofs.Ytafenijbglcppaa

/- The reference's Prefix (layer 5). -/
namespace Go.Proofs.Ytafenijbglcppaa
open Go.RowKit Go.Maps Go.Shelf
set_option linter.unusedVariables false
set_option linter.unusedSimpArgs false

theorem ent_var {S : List Int} {v : Int} : entB S v = (varB v && !memB S v) := by
  unfold entB varB memB
  rw [Bool.eq_iff_iff]
  simp [and_assoc]
theorem own_to {w w' : World} {B : Nat} {v : Value} {xs : List Int} (h : Own w B v xs) (hb : Below w.heap.size w w') : Own w' B v xs := (keptOf (S := fun _ => False) hb).row h (fun _ _ h => h)
end Go.Proofs.Ytafenijbglcppaa

/- The reference's May (layer 5). -/
namespace Go.Proofs.Ytafenijbglcppaa
open Go.RowKit Go.Maps Go.Shelf
set_option linter.unusedVariables false
set_option linter.unusedSimpArgs false

theorem known_mem {S : List Int} (hS : ∀ y ∈ S, 1 ≤ y ∧ y ≤ 65536) {x : Int} (h1 : -9223372036854775808 ≤ x) (h2 : x ≤ 9223372036854775807) : knownB (fun i => decide (i ∈ S)) x = decide (varC x ∈ S) := by
  unfold knownB varB
  rw [Bool.eq_iff_iff]
  simp only [Bool.and_eq_true, decide_eq_true_eq]
  constructor
  · rintro ⟨⟨h3, h4⟩, h5⟩
    have e : abs5 x = varC x := by
      unfold abs5 at h3 ⊢
      unfold varC
      split
      · split
        · rename_i h6 h7; rw [if_pos h6, if_pos h7] at h3; omega
        · rfl
      · rfl
    rwa [e] at h5
  · intro h
    have h3 := hS _ h
    rw [abs5_var (by omega)]
    exact ⟨h3, h⟩
theorem gOk_no {S : List Int} {t : Nat} {g : Gt} (h : (t + g.2.2.length ≤ 200000 ∧ fitsB g.2.1 g.2.2.length = true ∧ (g.2.2.all (fun x => decide (varC x ∈ S))) = true ∧ entB S g.1 = true) → False) : gOk S t g = false := by
  unfold gOk
  rw [← Bool.not_eq_true]
  intro e
  simp only [Bool.and_eq_true, decide_eq_true_eq] at e
  exact h e
end Go.Proofs.Ytafenijbglcppaa

/- Values that agree on the names of a net give the same values of its gates (no program). -/
namespace Go.Proofs.Ytafenijbglcppaa
open Go.RowKit Go.Maps
set_option linter.unusedVariables false
set_option linter.unusedSimpArgs false

/-- The reference's way: a literal counts only if its variable is one of some. -/
def setR (p h : Int → Bool) (l : List Int) : Int → Bool := l.foldl (fun h x => updB h (varC x) (decide (0 < x) && p (varC x))) h
theorem setR_snoc (p h : Int → Bool) (l : List Int) (x : Int) : setR p h (l ++ [x]) = updB (setR p h l) (varC x) (decide (0 < x) && p (varC x)) := by unfold setR; rw [List.foldl_append]; rfl
theorem setR_eq {p : Int → Bool} {i : Int} (hp : p i = true) : ∀ (l : List Int) (h h' : Int → Bool), h i = h' i → setR p h l i = setA h' l i
  | [], h, h', e => e
  | x :: r, h, h', e => by
    show setR p (updB h (varC x) (decide (0 < x) && p (varC x))) r i = setA (updB h' (varC x) (decide (0 < x))) r i
    refine setR_eq hp r _ _ ?_
    unfold updB
    by_cases hi : i = varC x
    · rw [if_pos hi, if_pos hi, ← hi, hp, Bool.and_true]
    · rw [if_neg hi, if_neg hi, e]
theorem litV_congr {h h' : Int → Bool} {x : Int} (e : h (varC x) = h' (varC x)) : litV h x = litV h' x := by unfold litV; rw [e]
theorem all_congrV {p q : Int → Bool} : ∀ (l : List Int), (∀ x ∈ l, p x = q x) → l.all p = l.all q ∧ l.any p = l.any q
  | [], _ => ⟨rfl, rfl⟩
  | x :: r, h => by
    have h1 := all_congrV r (fun y hy => h y (List.mem_cons_of_mem _ hy))
    have h2 := h x (List.mem_cons_self ..)
    simp only [List.all_cons, List.any_cons, h1.1, h1.2, h2, and_self]
theorem gateV_congr {h h' : Int → Bool} {k : Int} {l : List Int} (e : ∀ x ∈ l, h (varC x) = h' (varC x)) (hf : fitsB k l.length = true) : gateV h k l = gateV h' k l := by
  have hc := all_congrV l (fun x hx => litV_congr (e x hx))
  have hg : ∀ j, j < l.length → litV h (l.getD j 0) = litV h' (l.getD j 0) := fun j hj => litV_congr (e _ (by simp [List.getD, hj]))
  rcases fits_kind hf with rfl | rfl | ⟨rfl, hn⟩ | ⟨rfl, hn⟩
  · have e1 : ∀ f, gateV f 1 l = l.all (litV f) := fun f => rfl
    rw [e1, e1, hc.1]
  · have e1 : ∀ f, gateV f 2 l = l.any (litV f) := fun f => rfl
    rw [e1, e1, hc.2]
  · have e1 : ∀ f, gateV f 3 l = (litV f (l.getD 0 0) != litV f (l.getD 1 0)) := fun f => rfl
    rw [e1, e1, hg 0 (by omega), hg 1 (by omega)]
  · have e1 : ∀ f, gateV f 4 l = if litV f (l.getD 0 0) = true then litV f (l.getD 1 0) else litV f (l.getD 2 0) := fun f => rfl
    rw [e1, e1, hg 0 (by omega), hg 1 (by omega), hg 2 (by omega)]
theorem gOk_parts {S : List Int} {t : Nat} {g : Gt} (h : gOk S t g = true) : t + g.2.2.length ≤ 200000 ∧ fitsB g.2.1 g.2.2.length = true ∧ (∀ x ∈ g.2.2, varC x ∈ S) ∧ entB S g.1 = true := by
  unfold gOk at h
  simp only [Bool.and_eq_true, decide_eq_true_eq, List.all_eq_true] at h
  exact h
theorem runG_congr : ∀ (gs : List Gt) (S : List Int) (t : Nat) (R : List Int) (h h' : Int → Bool) (acc : List Bool), namedL S t gs = some R → (∀ i ∈ S, h i = h' i) →
    (gs.foldl gStep (h, acc)).2 = (gs.foldl gStep (h', acc)).2 ∧ ∀ i ∈ R, (gs.foldl gStep (h, acc)).1 i = (gs.foldl gStep (h', acc)).1 i
  | [], S, t, R, h, h', acc, hn, e => by
    unfold namedL at hn
    injection hn with hn
    subst hn
    exact ⟨rfl, e⟩
  | g :: r, S, t, R, h, h', acc, hn, e => by
    unfold namedL at hn
    split at hn
    · rename_i hg
      have hp := gOk_parts hg
      have hv := gateV_congr (h := h) (h' := h') (fun x hx => e _ (hp.2.2.1 x hx)) hp.2.1
      rw [List.foldl_cons, List.foldl_cons]
      unfold gStep
      simp only
      rw [hv]
      refine runG_congr r _ _ R _ _ _ hn (fun i hi => ?_)
      unfold updB
      by_cases hig : i = g.1
      · rw [if_pos hig, if_pos hig]
      · rw [if_neg hig, if_neg hig]
        rcases List.mem_append.1 hi with h1 | h1
        · exact e i h1
        · rw [List.mem_singleton] at h1; exact absurd h1 hig
    · cases hn
end Go.Proofs.Ytafenijbglcppaa

/- What a valid net's names tell of its gates (no program). -/
namespace Go.Proofs.Ytafenijbglcppaa
open Go.RowKit Go.Maps
set_option linter.unusedVariables false
set_option linter.unusedSimpArgs false

theorem namedL_gates : ∀ (gs : List Gt) (S : List Int) (t : Nat) (R : List Int), namedL S t gs = some R → (∀ y ∈ S, 1 ≤ y ∧ y ≤ 65536) →
    (∀ g ∈ gs, (0 ≤ g.1 ∧ g.1 ≤ 65536) ∧ fitsB g.2.1 g.2.2.length = true ∧ ∀ y ∈ g.2.2, 0 ≤ varC y ∧ varC y ≤ 65536) ∧ ∀ y ∈ R, 1 ≤ y ∧ y ≤ 65536
  | [], S, t, R, h, hS => by
    unfold namedL at h
    injection h with h
    subst h
    exact ⟨fun g hg => by simp at hg, hS⟩
  | g :: r, S, t, R, h, hS => by
    unfold namedL at h
    split at h
    · rename_i hg
      have hp := gOk_parts hg
      have he : 1 ≤ g.1 ∧ g.1 ≤ 65536 := by have h1 := hp.2.2.2; unfold entB at h1; simp only [decide_eq_true_eq] at h1; exact ⟨h1.1, h1.2.1⟩
      have ih := namedL_gates r _ _ R h (fun y hy => by
        rcases List.mem_append.1 hy with h1 | h1
        · exact hS y h1
        · rw [List.mem_singleton] at h1; rw [h1]; exact he)
      refine ⟨fun x hx => ?_, ih.2⟩
      rcases List.mem_cons.1 hx with h1 | h1
      · subst h1
        exact ⟨⟨by omega, he.2⟩, hp.2.1, fun y hy => by have := hS _ (hp.2.2.1 y hy); omega⟩
      · exact ih.1 x h1
    · cases h
/-- A valid net's value, the reference's way. -/
theorem mayN_runs {P : List Blk} {gs : List Gt} {o : Int} (h : mayN P gs o = true) (a : List Int) :
    mayP P = true ∧ (∀ g ∈ gs, (0 ≤ g.1 ∧ g.1 ≤ 65536) ∧ fitsB g.2.1 g.2.2.length = true ∧ ∀ y ∈ g.2.2, 0 ≤ varC y ∧ varC y ≤ 65536) ∧ (1 ≤ varC o ∧ varC o ≤ 65536) ∧
    litV (gs.foldl gStep (setR (fun i => decide (i ∈ flatB P)) (fun _ => false) a, [])).1 o = litV (runA gs a).1 o ∧ (gs.foldl gStep (setR (fun i => decide (i ∈ flatB P)) (fun _ => false) a, [])).2 = (runA gs a).2 := by
  unfold mayN namedN at h
  by_cases hp : mayP P = true
  · rw [if_pos hp] at h
    cases hn : namedL (flatB P) 0 gs with
    | none => rw [hn] at h; cases h
    | some R =>
      rw [hn] at h
      have ho : varC o ∈ R := by simpa using h
      have h1 := namedL_gates gs _ _ R hn (mayP_parts hp).2.2.1
      have h2 := runG_congr gs _ _ R (setR (fun i => decide (i ∈ flatB P)) (fun _ => false) a) (setA (fun _ => false) a) [] hn (fun i hi => setR_eq (by simpa using hi) a _ _ rfl)
      exact ⟨hp, h1.1, h1.2 _ ho, litV_congr (h2.2 _ ho), h2.1⟩
  · rw [if_neg hp] at h; cases h
end Go.Proofs.Ytafenijbglcppaa

/- What the reference marks is what the program reaches; the support (no program). -/
namespace Go.Proofs.Ytafenijbglcppaa
open Go.RowKit Go.Maps
set_option linter.unusedVariables false
set_option linter.unusedSimpArgs false

theorem ascending_one {a b : List Int} (ha : a.Pairwise (· < ·)) (hb : b.Pairwise (· < ·)) (h : ∀ x, x ∈ a ↔ x ∈ b) : a = b := by
  induction a generalizing b with
  | nil =>
    cases b with
    | nil => rfl
    | cons y s => exact absurd ((h y).2 (by simp)) (by simp)
  | cons x r ih =>
    cases b with
    | nil => exact absurd ((h x).1 (by simp)) (by simp)
    | cons y s =>
      rw [List.pairwise_cons] at ha hb
      have hxy : x = y := by
        rcases List.mem_cons.1 ((h x).1 (by simp)) with e | hx
        · exact e
        · rcases List.mem_cons.1 ((h y).2 (by simp)) with e | hy
          · exact e.symm
          · have := ha.1 y hy; have := hb.1 x hx; omega
      subst hxy
      have : r = s := by
        apply ih ha.2 hb.2
        intro z
        constructor
        · intro hz
          rcases List.mem_cons.1 ((h z).1 (List.mem_cons_of_mem _ hz)) with e | h'
          · subst e; have := ha.1 _ hz; omega
          · exact h'
        · intro hz
          rcases List.mem_cons.1 ((h z).2 (List.mem_cons_of_mem _ hz)) with e | h'
          · subst e; have := hb.1 _ hz; omega
          · exact h'
      rw [this]
/-- The variables from 1 on, up to k, of which something holds. -/
def fromOne (p : Nat → Bool) (k : Nat) : List Int := ((List.range k).filter (fun i => p (i + 1))).map (fun i : Nat => (i : Int) + 1)
theorem fromOne_hit {p : Nat → Bool} {k : Nat} (h : p (k + 1) = true) : fromOne p (k + 1) = fromOne p k ++ [(k : Int) + 1] := by
  unfold fromOne; rw [List.range_succ, List.filter_append, List.map_append]; simp [h]
theorem fromOne_miss {p : Nat → Bool} {k : Nat} (h : p (k + 1) = false) : fromOne p (k + 1) = fromOne p k := by
  unfold fromOne; rw [List.range_succ, List.filter_append, List.map_append]; simp [h]
theorem fromOne_len (p : Nat → Bool) (k : Nat) : (fromOne p k).length ≤ k := by
  unfold fromOne; rw [List.length_map]; have := List.length_filter_le (fun i => p (i + 1)) (List.range k); simpa using this
theorem fromOne_asc (p : Nat → Bool) (k : Nat) : (fromOne p k).Pairwise (· < ·) := by
  unfold fromOne
  rw [List.pairwise_map]
  exact (List.pairwise_lt_range.filter _).imp (fun h => by omega)
theorem fromOne_mem (p : Nat → Bool) (k : Nat) (v : Int) : v ∈ fromOne p k ↔ ∃ i : Nat, i < k ∧ p (i + 1) = true ∧ v = (i : Int) + 1 := by
  unfold fromOne
  simp only [List.mem_map, List.mem_filter, List.mem_range]
  constructor
  · rintro ⟨i, ⟨h1, h2⟩, h3⟩; exact ⟨i, h1, h2, h3.symm⟩
  · rintro ⟨i, h1, h2, h3⟩; exact ⟨i, ⟨h1, h2⟩, h3.symm⟩

theorem tell_mem {S : List Int} {y i : Int} (hy : 1 ≤ varC y ∧ varC y ≤ 65536) : i ∈ tellL S y ↔ i ∈ S ∨ i = varC y := by
  unfold tellL
  by_cases h : entB S (varC y) = true
  · rw [if_pos h]; simp
  · rw [if_neg h]
    have h1 : varC y ∈ S := by
      rw [ent_iff] at h
      exact Decidable.byContradiction fun hn => h ⟨hy.1, hy.2, hn⟩
    constructor
    · exact .inl
    · rintro (h2 | rfl)
      · exact h2
      · exact h1
theorem tells_mem : ∀ (l : List Int) (S : List Int) (i : Int), (∀ y ∈ l, 1 ≤ varC y ∧ varC y ≤ 65536) → (i ∈ tellsL S l ↔ i ∈ S ∨ ∃ y ∈ l, i = varC y)
  | [], S, i, _ => by simp [tellsL]
  | y :: r, S, i, h => by
    have ih := tells_mem r (tellL S y) i (fun z hz => h z (List.mem_cons_of_mem _ hz))
    show i ∈ tellsL (tellL S y) r ↔ _
    rw [ih, tell_mem (h y (List.mem_cons_self ..))]
    simp only [List.mem_cons]
    constructor
    · rintro ((h1 | h1) | ⟨z, hz, h1⟩)
      · exact .inl h1
      · exact .inr ⟨y, .inl rfl, h1⟩
      · exact .inr ⟨z, .inr hz, h1⟩
    · rintro (h1 | ⟨z, rfl | hz, h1⟩)
      · exact .inl (.inl h1)
      · exact .inl (.inr h1)
      · exact .inr ⟨z, hz, h1⟩
/-- What gates reach from some variables, from the last gate to the first. -/
def reachR (gs : List Gt) (S : List Int) : List Int := gs.reverse.foldl reachG S
theorem reachR_cons (g : Gt) (r : List Gt) (S : List Int) : reachR (g :: r) S = reachG (reachR r S) g := by unfold reachR; rw [List.reverse_cons, List.foldl_append]; rfl
theorem reachL_R (gs : List Gt) (x : Int) : reachL gs x = reachR gs (tellL [] x) := by unfold reachL reachUp reachR; rw [List.take_of_length_le (by simp)]
theorem reachG_mem {S : List Int} {g : Gt} (h : ∀ y ∈ g.2.2, 1 ≤ varC y ∧ varC y ≤ 65536) (i : Int) : i ∈ reachG S g ↔ i ∈ S ∨ (g.1 ∈ S ∧ ∃ y ∈ g.2.2, i = varC y) := by
  unfold reachG
  by_cases hg : g.1 ∈ S
  · rw [if_pos hg, tells_mem _ _ _ h]
    constructor
    · rintro (h1 | h1)
      · exact .inl h1
      · exact .inr ⟨hg, h1⟩
    · rintro (h1 | h1)
      · exact .inl h1
      · exact .inr h1.2
  · rw [if_neg hg]
    constructor
    · exact .inl
    · rintro (h1 | h1)
      · exact h1
      · exact absurd h1.1 hg
theorem reach_same {S : List Int} {f : Int → Bool} (hf : ∀ i, f i = true ↔ i ∈ S) : ∀ (gs : List Gt), (∀ g ∈ gs, ∀ y ∈ g.2.2, 1 ≤ varC y ∧ varC y ≤ 65536) → ∀ i, reachM gs f i = true ↔ i ∈ reachR gs S
  | [], _, i => hf i
  | g :: r, h, i => by
    have ih := reach_same hf r (fun x hx => h x (List.mem_cons_of_mem _ hx))
    have hg := h g (List.mem_cons_self ..)
    rw [reachR_cons, reachG_mem hg]
    unfold reachM
    by_cases hm : reachM r f g.1 = true
    · rw [if_pos hm]
      unfold markL
      simp only [Bool.or_eq_true, decide_eq_true_eq, List.mem_map]
      rw [ih i]
      constructor
      · rintro (h1 | ⟨y, hy, rfl⟩)
        · exact .inl h1
        · exact .inr ⟨(ih _).1 hm, y, hy, abs5_var (by have := hg y hy; omega)⟩
      · rintro (h1 | ⟨_, y, hy, rfl⟩)
        · exact .inl h1
        · exact .inr ⟨y, hy, abs5_var (by have := hg y hy; omega)⟩
    · rw [if_neg hm, ih i]
      constructor
      · exact .inl
      · rintro (h1 | h1)
        · exact h1
        · exact absurd ((ih _).2 h1.1) hm
/-- The variables of the prefix on which a literal depends. -/
def supL (P : List Blk) (gs : List Gt) (x : Int) : List Int := fromOne (fun i => decide ((i : Int) ∈ reachL gs x) && decide ((i : Int) ∈ flatB P)) 65536
theorem supL_mem {P : List Blk} {gs : List Gt} {x i : Int} (hP : ∀ y ∈ flatB P, 1 ≤ y ∧ y ≤ 65536) : i ∈ supL P gs x ↔ i ∈ reachL gs x ∧ i ∈ flatB P := by
  unfold supL
  rw [fromOne_mem]
  simp only [Bool.and_eq_true, decide_eq_true_eq]
  constructor
  · rintro ⟨j, h1, ⟨h2, h3⟩, rfl⟩
    exact ⟨by simpa using h2, by simpa using h3⟩
  · rintro ⟨h1, h2⟩
    have := hP i h2
    refine ⟨i.toNat - 1, by omega, ?_, by omega⟩
    rw [show ((i.toNat - 1 + 1 : Nat) : Int) = i by omega]
    exact ⟨h1, h2⟩
def supN (P : List Blk) (gs : List Gt) (o x : Int) : List Int × Int := match namedN P gs with
  | none => ([], 2)
  | some S => if decide (varC o ∈ S) = true then (if decide (varC x ∈ S) = true then (supL P gs x, 0) else ([], 6)) else ([], 2)
theorem sup_bd (P : List Blk) (gs : List Gt) (o x : Int) : (supN P gs o x).1.length ≤ 65536 ∧ In64 (supN P gs o x).1 := by
  have h1 : (supL P gs x).length ≤ 65536 ∧ In64 (supL P gs x) := ⟨fromOne_len _ _, fun y hy => by
    unfold supL at hy
    obtain ⟨i, h1, _, rfl⟩ := (fromOne_mem _ _ _).1 hy
    omega⟩
  have h0 : ([] : List Int).length ≤ 65536 ∧ In64 ([] : List Int) := ⟨by simp, fun y hy => by cases hy⟩
  unfold supN
  generalize supL P gs x = Q at *
  split
  · exact h0
  · split
    · split
      · exact h1
      · exact h0
    · exact h0
theorem namedL_full : ∀ (gs : List Gt) (S : List Int) (t : Nat) (R : List Int), namedL S t gs = some R → R = S ++ gs.map (fun g => g.1)
  | [], S, t, R, h => by unfold namedL at h; injection h with h; simp [h]
  | g :: r, S, t, R, h => by
    unfold namedL at h
    split at h
    · rw [namedL_full r _ _ R h]; simp
    · cases h
theorem namedL_lits : ∀ (gs : List Gt) (S : List Int) (t : Nat) (R : List Int), namedL S t gs = some R → (∀ y ∈ S, 1 ≤ y ∧ y ≤ 65536) → ∀ g ∈ gs, ∀ y ∈ g.2.2, 1 ≤ varC y ∧ varC y ≤ 65536
  | [], S, t, R, h, hS, g, hg => by cases hg
  | g :: r, S, t, R, h, hS, x, hx => by
    unfold namedL at h
    split at h
    · rename_i hg
      have hp := gOk_parts hg
      have he : 1 ≤ g.1 ∧ g.1 ≤ 65536 := by have h1 := hp.2.2.2; unfold entB at h1; simp only [decide_eq_true_eq] at h1; exact ⟨h1.1, h1.2.1⟩
      rcases List.mem_cons.1 hx with h1 | h1
      · subst h1
        exact fun y hy => hS _ (hp.2.2.1 y hy)
      · exact namedL_lits r _ _ R h (fun y hy => by
          rcases List.mem_append.1 hy with h2 | h2
          · exact hS y h2
          · rw [List.mem_singleton] at h2; rw [h2]; exact he) x h1
    · cases h
/-- The final values are those the gates had. -/
theorem runG_last : ∀ (gs : List Gt) (S : List Int) (t : Nat) (R : List Int) (h : Int → Bool) (acc : List Bool), namedL S t gs = some R →
    (∀ i ∈ S, (gs.foldl gStep (h, acc)).1 i = h i) ∧ (gs.foldl gStep (h, acc)).2 = acc ++ gs.map (fun g => (gs.foldl gStep (h, acc)).1 g.1)
  | [], S, t, R, h, acc, hn => ⟨fun i _ => rfl, by simp⟩
  | g :: r, S, t, R, h, acc, hn => by
    unfold namedL at hn
    split at hn
    · rename_i hg
      have hp := gOk_parts hg
      have hns : g.1 ∉ S := by have h1 := hp.2.2.2; unfold entB at h1; simp only [decide_eq_true_eq] at h1; exact h1.2.2
      rw [List.foldl_cons]
      have ih := runG_last r _ _ R (updB h g.1 (gateV h g.2.1 g.2.2)) (acc ++ [gateV h g.2.1 g.2.2]) hn
      have e : gStep (h, acc) g = (updB h g.1 (gateV h g.2.1 g.2.2), acc ++ [gateV h g.2.1 g.2.2]) := rfl
      rw [e]
      generalize hF : r.foldl gStep (updB h g.1 (gateV h g.2.1 g.2.2), acc ++ [gateV h g.2.1 g.2.2]) = F at *
      refine ⟨fun i hi => ?_, ?_⟩
      · rw [ih.1 i (List.mem_append_left _ hi)]
        unfold updB
        rw [if_neg (show ¬ i = g.1 from fun e => hns (by rw [← e]; exact hi))]
      · rw [ih.2, List.map_cons, ih.1 g.1 (List.mem_append_right _ (List.mem_singleton.2 rfl))]
        unfold updB
        rw [if_pos rfl, List.append_assoc]
        rfl
    · cases hn
theorem mayFrom_vars : ∀ (l : List Int) (p : Int), 0 ≤ p → mayFrom p l = true → ∀ x ∈ l, 1 ≤ varC x ∧ varC x ≤ 65536
  | [], _, _, _, x, hx => by cases hx
  | y :: r, p, hp, h, x, hx => by
    unfold mayFrom at h
    simp only [Bool.and_eq_true, decide_eq_true_eq] at h
    have hb := varOf_bd y
    rcases List.mem_cons.1 hx with e | hx
    · subst e
      have h1 := h.1
      unfold varOf at h1
      unfold varC
      split at h1
      · omega
      · split at h1
        · rename_i h2 h3
          rw [if_pos h3, if_neg (by omega)]
          omega
        · rename_i h2 h3
          rw [if_neg h3]
          omega
    · exact mayFrom_vars r _ hb.1 h.2 x hx
theorem mayB_vars {a : List Int} (h : mayB a = true) : ∀ x ∈ a, 0 ≤ varC x ∧ varC x ≤ 65536 := fun x hx => by have := mayFrom_vars a 0 (Int.le_refl 0) h x hx; omega
/-- A valid net's gates' values are the final ones. -/
theorem mayN_last {P : List Blk} {gs : List Gt} {o : Int} (h : mayN P gs o = true) (f : Int → Bool) : (gs.foldl gStep (f, [])).2 = gs.map (fun g => (gs.foldl gStep (f, [])).1 g.1) := by
  unfold mayN namedN at h
  by_cases hp : mayP P = true
  · rw [if_pos hp] at h
    cases hn : namedL (flatB P) 0 gs with
    | none => rw [hn] at h; cases h
    | some R => simpa using (runG_last gs _ _ R f [] hn).2
  · rw [if_neg hp] at h; cases h
end Go.Proofs.Ytafenijbglcppaa

/- Lists of literals, ascending by their variables; what an assignment says; what does not depend (no program). -/
namespace Go.Proofs.Ytafenijbglcppaa
open Go.RowKit Go.Maps
set_option linter.unusedVariables false
set_option linter.unusedSimpArgs false

/-- A literal put into its place; if its variable is there already, nothing. -/
def insO : List Int → Int → List Int
  | [], x => [x]
  | y :: r, x => if varC y < varC x then y :: insO r x else if varC y = varC x then y :: r else x :: y :: r
def overL (a b : List Int) : List Int := (b ++ a).foldl insO []
def ascV (l : List Int) : Prop := l.Pairwise (fun x y => varC x < varC y)
/-- What the first literal of a variable says. -/
def firstL : List Int → Int → Option Bool
  | [], _ => none
  | x :: r, i => if varC x = i then some (decide (0 < x)) else firstL r i
theorem first_cons (x : Int) (r : List Int) (i : Int) : firstL (x :: r) i = if varC x = i then some (decide (0 < x)) else firstL r i := rfl
def varIn (l : List Int) : Prop := ∀ x ∈ l, 1 ≤ varC x ∧ varC x ≤ 65536
theorem insO_mem : ∀ (l : List Int) (x z : Int), z ∈ insO l x → z ∈ l ∨ z = x
  | [], x, z, h => by unfold insO at h; exact .inr (by simpa using h)
  | y :: r, x, z, h => by
    unfold insO at h
    split at h
    · rcases List.mem_cons.1 h with h | h
      · exact .inl (h ▸ List.mem_cons_self ..)
      · rcases insO_mem r x z h with h | h
        · exact .inl (List.mem_cons_of_mem _ h)
        · exact .inr h
    · split at h
      · exact .inl h
      · rcases List.mem_cons.1 h with h | h
        · exact .inr h
        · exact .inl h
theorem insO_asc : ∀ (l : List Int) (x : Int), ascV l → ascV (insO l x)
  | [], x, _ => by unfold insO ascV; simp
  | y :: r, x, h => by
    unfold ascV at h
    rw [List.pairwise_cons] at h
    unfold insO
    split
    · rename_i hlt
      refine List.pairwise_cons.2 ⟨fun z hz => ?_, insO_asc r x h.2⟩
      rcases insO_mem r x z hz with h1 | h1
      · exact h.1 z h1
      · rw [h1]; exact hlt
    · split
      · exact List.pairwise_cons.2 h
      · refine List.pairwise_cons.2 ⟨fun z hz => ?_, List.pairwise_cons.2 h⟩
        rcases List.mem_cons.1 hz with h1 | h1
        · subst h1; omega
        · have := h.1 z h1; omega
theorem first_none {l : List Int} {i : Int} (h : ∀ x ∈ l, varC x ≠ i) : firstL l i = none := by
  induction l with
  | nil => rfl
  | cons y r ih =>
    rw [first_cons, if_neg (h y (List.mem_cons_self ..))]
    exact ih (fun x hx => h x (List.mem_cons_of_mem _ hx))
theorem first_snoc : ∀ (l : List Int) (x i : Int), firstL (l ++ [x]) i = (firstL l i).orElse (fun _ => if varC x = i then some (decide (0 < x)) else none)
  | [], x, i => by simp [firstL]
  | y :: r, x, i => by
    rw [List.cons_append, first_cons, first_cons]
    split
    · rfl
    · exact first_snoc r x i
theorem first_app : ∀ (l m : List Int) (i : Int), firstL (l ++ m) i = (firstL l i).orElse (fun _ => firstL m i)
  | [], m, i => by simp [firstL]
  | y :: r, m, i => by
    rw [List.cons_append, first_cons, first_cons]
    split
    · rfl
    · exact first_app r m i
theorem insO_first : ∀ (l : List Int) (x i : Int), ascV l → firstL (insO l x) i = (firstL l i).orElse (fun _ => if varC x = i then some (decide (0 < x)) else none)
  | [], x, i, _ => by simp [insO, firstL]
  | y :: r, x, i, h => by
    unfold ascV at h
    rw [List.pairwise_cons] at h
    unfold insO
    split
    · rename_i hlt
      rw [first_cons, first_cons]
      split
      · rfl
      · exact insO_first r x i h.2
    · rename_i hnl
      split
      · rename_i he
        rw [first_cons]
        split
        · rfl
        · rename_i hi
          rw [if_neg (by rw [← he]; exact hi)]
          cases firstL r i <;> rfl
      · rename_i hne
        rw [first_cons x]
        by_cases hx : varC x = i
        · rw [if_pos hx, if_pos hx]
          have : firstL (y :: r) i = none := first_none (fun z hz => by
            rcases List.mem_cons.1 hz with h1 | h1
            · subst h1; omega
            · have := h.1 z h1; omega)
          rw [this]
          rfl
        · rw [if_neg hx, if_neg hx]
          cases firstL (y :: r) i <;> rfl
theorem foldO : ∀ (m l : List Int), ascV l → ascV (m.foldl insO l) ∧ (∀ i, firstL (m.foldl insO l) i = firstL (l ++ m) i) ∧ ∀ z ∈ m.foldl insO l, z ∈ l ++ m
  | [], l, h => ⟨h, fun i => by simp, fun z hz => by simpa using hz⟩
  | x :: r, l, h => by
    have ih := foldO r (insO l x) (insO_asc l x h)
    rw [List.foldl_cons]
    refine ⟨ih.1, fun i => ?_, fun z hz => ?_⟩
    · rw [ih.2.1 i, first_app, insO_first l x i h, first_app l (x :: r)]
      cases firstL l i
      · show (if varC x = i then some (decide (0 < x)) else none).orElse (fun _ => firstL r i) = firstL (x :: r) i
        rw [first_cons]
        split <;> rfl
      · rfl
    · rcases List.mem_append.1 (ih.2.2 z hz) with h1 | h1
      · rcases insO_mem l x z h1 with h2 | h2
        · exact List.mem_append_left _ h2
        · rw [h2]; exact List.mem_append_right _ (List.mem_cons_self ..)
      · exact List.mem_append_right _ (List.mem_cons_of_mem _ h1)
theorem overL_asc (a b : List Int) : ascV (overL a b) := (foldO _ [] List.Pairwise.nil).1
theorem overL_first (a b : List Int) (i : Int) : firstL (overL a b) i = firstL (b ++ a) i := (foldO (b ++ a) [] List.Pairwise.nil).2.1 i
theorem overL_mem {a b : List Int} {z : Int} (h : z ∈ overL a b) : z ∈ b ∨ z ∈ a := by
  have := (foldO (b ++ a) [] List.Pairwise.nil).2.2 z h
  simpa using this
theorem overL_in {a b : List Int} (ha : varIn a) (hb : varIn b) : varIn (overL a b) := fun x hx => by
  rcases overL_mem hx with h | h
  · exact hb x h
  · exact ha x h
theorem varOf_in {x : Int} (h : 1 ≤ varC x ∧ varC x ≤ 65536) : varOf x = varC x := by
  unfold varC at h ⊢
  unfold varOf
  split at h
  · rename_i h1
    split at h
    · omega
    · rename_i h2
      rw [if_neg (by omega), if_pos h1, if_pos h1, if_neg h2]
  · rename_i h1
    rw [if_neg (by omega), if_neg h1, if_neg h1]
theorem asc_may : ∀ (l : List Int) (p : Int), (∀ x ∈ l, p < varC x) → ascV l → varIn l → mayFrom p l = true
  | [], p, _, _, _ => rfl
  | x :: r, p, hp, h, hv => by
    unfold ascV at h
    rw [List.pairwise_cons] at h
    have hx := hv x (List.mem_cons_self ..)
    unfold mayFrom
    rw [varOf_in hx, Bool.and_eq_true]
    exact ⟨by simpa using hp x (List.mem_cons_self ..), asc_may r _ h.1 h.2 (fun z hz => hv z (List.mem_cons_of_mem _ hz))⟩
theorem asc_mayB {l : List Int} (h : ascV l) (hv : varIn l) : mayB l = true := asc_may l 0 (fun x hx => by have := hv x hx; omega) h hv
theorem setA_first : ∀ (l : List Int) (h : Int → Bool) (i : Int), ascV l → setA h l i = (firstL l i).getD (h i)
  | [], h, i, _ => rfl
  | x :: r, h, i, ha => by
    unfold ascV at ha
    rw [List.pairwise_cons] at ha
    show setA (updB h (varC x) (decide (0 < x))) r i = _
    rw [setA_first r _ i ha.2, first_cons]
    unfold updB
    by_cases hi : varC x = i
    · rw [if_pos hi, if_pos hi.symm, first_none (fun z hz => by have := ha.1 z hz; omega)]
      rfl
    · rw [if_neg hi, if_neg (fun e => hi e.symm)]
/-- What an assignment made so says. -/
theorem over_says (a b : List Int) (i : Int) : setA (fun _ => false) (overL a b) i = ((firstL b i).orElse (fun _ => firstL a i)).getD false := by rw [setA_first _ _ _ (overL_asc a b), overL_first, first_app]

/-- Values that agree on what some variables reach agree there behind the gates. -/
theorem runG_reach : ∀ (gs : List Gt) (S : List Int) (t : Nat) (R T : List Int) (h h' : Int → Bool) (acc acc' : List Bool), namedL S t gs = some R → (∀ y ∈ S, 1 ≤ y ∧ y ≤ 65536) → (∀ i ∈ T, i ∈ R) →
    (∀ i ∈ S, i ∈ reachR gs T → h i = h' i) → ∀ i ∈ T, (gs.foldl gStep (h, acc)).1 i = (gs.foldl gStep (h', acc')).1 i
  | [], S, t, R, T, h, h', acc, acc', hn, hS, hT, e, i, hi => by
    unfold namedL at hn
    injection hn with hn
    subst hn
    exact e i (hT i hi) hi
  | g :: r, S, t, R, T, h, h', acc, acc', hn, hS, hT, e, i, hi => by
    have hlit := namedL_lits _ _ _ _ hn hS g (List.mem_cons_self ..)
    unfold namedL at hn
    split at hn
    · rename_i hg
      have hp := gOk_parts hg
      have he : 1 ≤ g.1 ∧ g.1 ≤ 65536 := by have h1 := hp.2.2.2; unfold entB at h1; simp only [decide_eq_true_eq] at h1; exact ⟨h1.1, h1.2.1⟩
      rw [List.foldl_cons, List.foldl_cons]
      unfold gStep
      simp only
      refine runG_reach r _ _ R T _ _ _ _ hn (fun y hy => ?_) hT (fun j hj hjr => ?_) i hi
      · rcases List.mem_append.1 hy with h1 | h1
        · exact hS y h1
        · rw [List.mem_singleton] at h1; rw [h1]; exact he
      · unfold updB
        by_cases hjg : j = g.1
        · rw [if_pos hjg, if_pos hjg]
          rw [hjg] at hjr
          refine gateV_congr (fun x hx => e _ (hp.2.2.1 x hx) ?_) hp.2.1
          rw [reachR_cons, reachG_mem hlit]
          exact .inr ⟨hjr, x, hx, rfl⟩
        · rw [if_neg hjg, if_neg hjg]
          rcases List.mem_append.1 hj with h1 | h1
          · refine e j h1 ?_
            rw [reachR_cons, reachG_mem hlit]
            exact .inl hjr
          · rw [List.mem_singleton] at h1; exact absurd h1 hjg
    · cases hn
theorem mayN_named {P : List Blk} {gs : List Gt} {o : Int} (h : mayN P gs o = true) : ∃ R, mayP P = true ∧ namedN P gs = some R ∧ namedL (flatB P) 0 gs = some R ∧ varC o ∈ R ∧ ∀ y ∈ flatB P, 1 ≤ y ∧ y ≤ 65536 := by
  unfold mayN at h
  cases hn : namedN P gs with
  | none => rw [hn] at h; cases h
  | some R =>
    rw [hn] at h
    have h1 := hn
    unfold namedN at h1
    by_cases hp : mayP P = true
    · rw [if_pos hp] at h1
      exact ⟨R, hp, rfl, h1, by simpa using h, (mayP_parts hp).2.2.1⟩
    · rw [if_neg hp] at h1; cases h1
theorem mayN_of {P : List Blk} {gs : List Gt} {o : Int} {R : List Int} (h : namedN P gs = some R) (ho : varC o ∈ R) : mayN P gs o = true := by unfold mayN; rw [h]; simpa using ho
/-- A change of variables outside the support does not change the value. -/
theorem depends_on {P : List Blk} {gs : List Gt} {x : Int} (h : mayN P gs x = true) (a b : List Int) (e : ∀ i ∈ supL P gs x, setA (fun _ => false) a i = setA (fun _ => false) b i) : litV (runA gs a).1 x = litV (runA gs b).1 x := by
  obtain ⟨R, hp, _, hn, hx, hP⟩ := mayN_named h
  refine litV_congr ?_
  have hxr := (namedL_gates gs _ _ R hn hP).2 _ hx
  refine runG_reach gs _ _ R (tellL [] x) _ _ [] [] hn hP (fun i hi => ?_) (fun i hi hir => ?_) _ ?_
  · rw [tell_mem hxr] at hi
    rcases hi with hi | hi
    · cases hi
    · rw [hi]; exact hx
  · rw [← reachL_R] at hir
    exact e i ((supL_mem hP).2 ⟨hir, hi⟩)
  · rw [tell_mem hxr]; exact .inr rfl
end Go.Proofs.Ytafenijbglcppaa
