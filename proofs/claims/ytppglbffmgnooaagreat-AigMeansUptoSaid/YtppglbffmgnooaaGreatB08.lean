/- Joined texts: AgMeanP, AgMeanQ. -/
import Derived.Test.YtppglbffmgnooaaGreatAgEvalP
import Derived.Test.YtppglbffmgnooaaGreatAgRResP
import Derived.Test.YtppglbffmgnooaaGreatA15
import Derived.Test.YtppglbffmgnooaaGreatB02
/- Pure: lists of literals that come first for their variables; the values of what Restrict, Join and Compose make. -/
namespace Go.Proofs.YtppglbffmgnooaaGreat
set_option linter.unusedVariables false
set_option linter.unusedSimpArgs false

theorem litB_iff {x : Int} : litB x = true ↔ x ≠ 0 ∧ -65536 ≤ x ∧ x ≤ 65536 := by unfold litB; simp
theorem varOf_lit {x : Int} (h : litB x = true) : varOf x = if x < 0 then -x else x := by
  have := litB_iff.1 h
  unfold varOf
  rw [if_neg (by omega)]
theorem varC_of {x : Int} (h : litB x = true) : varC x = if x < 0 then -x else x := by
  have := litB_iff.1 h
  unfold varC
  split
  · rw [if_neg (by omega)]
  · rfl
theorem varOC {x : Int} (h : litB x = true) : varOf x = varC x := by rw [varOf_lit h, varC_of h]
theorem mayFrom_up : ∀ (l : List Int) (p : Int), (∀ x ∈ l, litB x = true ∧ p < varC x) → l.Pairwise (fun x y => varC x < varC y) → mayFrom p l = true
  | [], p, _, _ => rfl
  | x :: r, p, h, hp => by
    obtain ⟨h1, h2⟩ := List.pairwise_cons.1 hp
    obtain ⟨h3, h4⟩ := h x List.mem_cons_self
    unfold mayFrom
    rw [varOC h3, Bool.and_eq_true, decide_eq_true_eq]
    exact ⟨h4, mayFrom_up r _ (fun y hy => ⟨(h y (List.mem_cons_of_mem _ hy)).1, h1 y hy⟩) h2⟩
theorem may_low : ∀ (l : List Int) (p : Int), mayFrom p l = true → ∀ x ∈ l, p < varOf x
  | [], p, _, x, hx => by cases hx
  | y :: r, p, h, x, hx => by
    unfold mayFrom at h
    rw [Bool.and_eq_true, decide_eq_true_eq] at h
    rcases List.mem_cons.1 hx with rfl | hx
    · exact h.1
    · exact Int.lt_trans h.1 (may_low r _ h.2 x hx)
theorem may_pair : ∀ (l : List Int) (p : Int), mayFrom p l = true → l.Pairwise (fun x y => varOf x < varOf y)
  | [], _, _ => List.Pairwise.nil
  | y :: r, p, h => by
    unfold mayFrom at h
    rw [Bool.and_eq_true] at h
    exact List.pairwise_cons.2 ⟨fun x hx => may_low r _ h.2 x hx, may_pair r _ h.2⟩
theorem may_up {l : List Int} (h : mayB l = true) : (∀ x ∈ l, litB x = true) ∧ l.Pairwise (fun x y => varC x < varC y) := by
  have h1 := mayB_mem h
  refine ⟨h1, ?_⟩
  exact (may_pair l 0 h).imp_of_mem (fun ha hb hab => by rw [← varOC (h1 _ ha), ← varOC (h1 _ hb)]; exact hab)
/-- A literal is put into its place, where none of its variable stands. -/
def insM (x : Int) : List Int → List Int
  | [] => [x]
  | y :: r => if varC y < varC x then y :: insM x r else if varC y = varC x then y :: r else x :: y :: r
def mergedL (l : List Int) : List Int := l.foldl (fun out x => insM x out) []
theorem insM_low {x : Int} {out : List Int} : ∀ {i : Nat}, i ≤ out.length → (∀ j, j < i → varC (out.getD j 0) < varC x) → insM x out = out.take i ++ insM x (out.drop i) := by
  induction out with
  | nil => intro i h _; simp at h; subst h; rfl
  | cons y r ih =>
    intro i h hl
    cases i with
    | zero => rfl
    | succ i =>
      have h0 := hl 0 (by omega)
      rw [List.take_succ_cons, List.drop_succ_cons, List.cons_append]
      rw [← ih (i := i) (by simpa using h) (fun j hj => hl (j + 1) (by omega))]
      show (if varC y < varC x then y :: insM x r else _) = _
      rw [if_pos (show varC y < varC x from h0)]
theorem insM_is {x : Int} {out : List Int} {i : Nat} (hi : i < out.length) (hl : ∀ j, j < i → varC (out.getD j 0) < varC x) (he : varC (out.getD i 0) = varC x) : insM x out = out := by
  rw [insM_low (Nat.le_of_lt hi) hl, List.drop_eq_getElem_cons hi]
  have e : out[i] = out.getD i 0 := by simp [List.getD, hi]
  show out.take i ++ (if varC out[i] < varC x then _ else _) = _
  rw [e, if_neg (by omega), if_pos he, ← e, ← List.drop_eq_getElem_cons hi, List.take_append_drop]
theorem insM_at {x : Int} {out : List Int} {i : Nat} (hi : i ≤ out.length) (hl : ∀ j, j < i → varC (out.getD j 0) < varC x) (he : i < out.length → varC x < varC (out.getD i 0)) : insM x out = out.take i ++ [x] ++ out.drop i := by
  rw [insM_low hi hl, List.append_assoc]
  congr 1
  by_cases hlt : i < out.length
  · rw [List.drop_eq_getElem_cons hlt]
    have e : out[i] = out.getD i 0 := by simp [List.getD, hlt]
    have h2 := he hlt
    show (if varC out[i] < varC x then _ else _) = _
    rw [e, if_neg (by omega), if_neg (by omega)]
    rfl
  · rw [List.drop_eq_nil_of_le (by omega)]
    rfl
theorem insM_len (x : Int) : ∀ out : List Int, (insM x out).length ≤ out.length + 1
  | [] => Nat.le_refl _
  | y :: r => by
    unfold insM
    split
    · have := insM_len x r
      simp only [List.length_cons]
      omega
    · split <;> simp
theorem insM_mem {x : Int} : ∀ {out : List Int}, out.Pairwise (fun x y => varC x < varC y) → ∀ z, z ∈ insM x out ↔ z ∈ out ∨ (z = x ∧ ∀ y ∈ out, varC y ≠ varC x)
  | [], _, z => by simp [insM]
  | y :: r, h, z => by
    obtain ⟨h1, h2⟩ := List.pairwise_cons.1 h
    unfold insM
    split
    · rename_i hlt
      rw [List.mem_cons, insM_mem h2 z, List.mem_cons]
      constructor
      · rintro (h3 | h3 | ⟨h3, h4⟩)
        · exact .inl (.inl h3)
        · exact .inl (.inr h3)
        · refine .inr ⟨h3, fun u hu => ?_⟩
          rcases List.mem_cons.1 hu with rfl | hu
          · omega
          · exact h4 u hu
      · rintro ((h3 | h3) | ⟨h3, h4⟩)
        · exact .inl h3
        · exact .inr (.inl h3)
        · exact .inr (.inr ⟨h3, fun u hu => h4 u (List.mem_cons_of_mem _ hu)⟩)
    · split
      · rename_i he
        refine ⟨fun h3 => .inl h3, ?_⟩
        rintro (h3 | ⟨_, h4⟩)
        · exact h3
        · exact absurd he (h4 y List.mem_cons_self)
      · rename_i h5 h6
        rw [List.mem_cons]
        constructor
        · rintro (h3 | h3)
          · refine .inr ⟨h3, fun u hu => ?_⟩
            rcases List.mem_cons.1 hu with rfl | hu
            · exact h6
            · have := h1 u hu; omega
          · exact .inl h3
        · rintro (h3 | ⟨h3, _⟩)
          · exact .inr h3
          · exact .inl h3
theorem insM_up {x : Int} : ∀ {out : List Int}, out.Pairwise (fun x y => varC x < varC y) → (insM x out).Pairwise (fun x y => varC x < varC y)
  | [], _ => by simp [insM]
  | y :: r, h => by
    obtain ⟨h1, h2⟩ := List.pairwise_cons.1 h
    unfold insM
    split
    · rename_i hlt
      refine List.pairwise_cons.2 ⟨fun z hz => ?_, insM_up h2⟩
      rcases (insM_mem h2 z).1 hz with h3 | ⟨rfl, _⟩
      · exact h1 z h3
      · exact hlt
    · split
      · exact h
      · refine List.pairwise_cons.2 ⟨fun z hz => ?_, h⟩
        rcases List.mem_cons.1 hz with rfl | hz
        · omega
        · have := h1 z hz; omega
/-- The literal that comes first for a variable. -/
def firstM (l : List Int) (v : Int) : Option Int := l.find? (fun x => decide (varC x = v))
theorem merged_snoc (l : List Int) (x : Int) : mergedL (l ++ [x]) = insM x (mergedL l) := by unfold mergedL; rw [List.foldl_append]; rfl
theorem merged_all : ∀ n : Nat, ∀ l : List Int, l.length = n → (mergedL l).Pairwise (fun x y => varC x < varC y) ∧ (∀ z, z ∈ mergedL l ↔ firstM l (varC z) = some z) ∧ (mergedL l).length ≤ l.length
  | 0, l, h => by
    obtain rfl := List.eq_nil_of_length_eq_zero h
    exact ⟨List.Pairwise.nil, fun z => by simp [mergedL, firstM], Nat.le_refl _⟩
  | n + 1, l, h => by
    rcases List.eq_nil_or_concat l with rfl | ⟨r, x, rfl⟩
    · simp at h
    · rw [List.concat_eq_append] at h ⊢
      obtain ⟨i1, i2, i3⟩ := merged_all n r (by simpa using h)
      rw [merged_snoc]
      refine ⟨insM_up i1, fun z => ?_, by have := insM_len x (mergedL r); simp; omega⟩
      rw [insM_mem i1 z, i2 z]
      have hex : (∀ y ∈ mergedL r, varC y ≠ varC x) ↔ firstM r (varC x) = none := by
        constructor
        · intro hn
          cases e : firstM r (varC x) with
          | none => rfl
          | some y =>
            have hy : varC y = varC x := by have h9 := List.find?_some (show List.find? (fun u => decide (varC u = varC x)) r = some y from e); exact of_decide_eq_true h9
            have := (i2 y).2 (by rw [hy]; exact e)
            exact absurd hy (hn y this)
        · intro hn y hy e
          have := (i2 y).1 hy
          rw [e, hn] at this
          cases this
      rw [hex]
      unfold firstM
      rw [List.find?_append]
      constructor
      · rintro (h3 | ⟨rfl, h4⟩)
        · rw [h3]; rfl
        · rw [h4]; simp
      · intro h3
        cases e : r.find? (fun y => decide (varC y = varC z)) with
        | some y => rw [e] at h3; exact .inl h3
        | none =>
          rw [e] at h3
          simp only [Option.none_or, List.find?_cons, List.find?_nil] at h3
          split at h3
          · rename_i hd
            injection h3 with h3
            subst h3
            exact .inr ⟨rfl, e⟩
          · cases h3
theorem merged_mem {l : List Int} {z : Int} : z ∈ mergedL l ↔ firstM l (varC z) = some z := (merged_all _ l rfl).2.1 z
theorem merged_may {l : List Int} (h : ∀ x ∈ l, litB x = true) : mayB (mergedL l) = true := by
  refine mayFrom_up _ 0 (fun x hx => ?_) (merged_all _ l rfl).1
  have h1 := merged_mem.1 hx
  have h2 := h x (List.mem_of_find?_eq_some h1)
  exact ⟨h2, by rw [varC_of h2]; have := litB_iff.1 h2; split <;> omega⟩
theorem merged_sub {l : List Int} {x : Int} (h : x ∈ mergedL l) : x ∈ l := List.mem_of_find?_eq_some (merged_mem.1 h)
theorem first_may {a : List Int} (h : mayB a = true) {v : Int} (hv : 0 < v) : firstM a v = if v ∈ a then some v else if -v ∈ a then some (-v) else none := by
  obtain ⟨h1, h2⟩ := may_up h
  have once : ∀ x ∈ a, varC x = v → x = v ∨ x = -v := fun x hx e => by
    rw [varC_of (h1 x hx)] at e
    split at e <;> omega
  have hcv : varC v = v := by unfold varC; rw [if_neg (by omega)]
  have uniq : ∀ x ∈ a, ∀ y ∈ a, varC x = varC y → x = y := by
    intro x hx y hy e
    obtain ⟨i, hi, rfl⟩ := List.getElem_of_mem hx
    obtain ⟨j, hj, rfl⟩ := List.getElem_of_mem hy
    rcases Nat.lt_trichotomy i j with c | c | c
    · have := (List.pairwise_iff_getElem.1 h2) i j hi hj c; omega
    · subst c; rfl
    · have := (List.pairwise_iff_getElem.1 h2) j i hj hi c; omega
  cases e : firstM a v with
  | some x =>
    have hx := List.mem_of_find?_eq_some e
    have hxv : varC x = v := by have h9 := List.find?_some (show List.find? (fun u => decide (varC u = v)) a = some x from e); exact of_decide_eq_true h9
    rcases once x hx hxv with rfl | rfl
    · rw [if_pos hx]
    · by_cases c : v ∈ a
      · have := uniq v c (-v) hx (by rw [hcv, hxv])
        omega
      · rw [if_neg c, if_pos hx]
  | none =>
    have hn := List.find?_eq_none.1 e
    rw [if_neg (fun c => hn v c (decide_eq_true hcv)), if_neg (fun c => hn (-v) c (decide_eq_true (by
      have h3 := litB_iff.1 (h1 _ c)
      rw [varC_of (h1 _ c), if_pos (by omega)]; omega)))]
theorem first_app (p q : List Int) (v : Int) : firstM (p ++ q) v = (firstM p v).or (firstM q v) := List.find?_append
/-- What is fixed, and else the assignment. -/
theorem fixed_on {fix a : List Int} (hf : mayB fix = true) (ha : mayB a = true) {v : Int} (hv : 0 < v) : decide (v ∈ mergedL (fix ++ a)) = match fixF fix v with
      | some y => decide (y = 1)
      | none => decide (v ∈ a) := by
  have hcv : varC v = v := by unfold varC; rw [if_neg (by omega)]
  have hm : v ∈ mergedL (fix ++ a) ↔ (firstM fix v).or (firstM a v) = some v := by rw [merged_mem, hcv, first_app]
  rw [first_may hf hv, first_may ha hv] at hm
  rw [fixF_at hf hv]
  by_cases c1 : v ∈ fix
  · have h1 : v ∈ mergedL (fix ++ a) := hm.2 (by simp [c1])
    simp [c1, h1]
  · by_cases c2 : -v ∈ fix
    · have h1 : v ∉ mergedL (fix ++ a) := fun h => by
        have h2 := hm.1 h
        simp only [c1, c2, if_false, if_true, Option.some_or, Option.some.injEq] at h2
        omega
      simp [c1, c2, h1]
    · by_cases c3 : v ∈ a
      · have h1 : v ∈ mergedL (fix ++ a) := hm.2 (by simp [c1, c2, c3])
        simp [c1, c2, c3, h1]
      · have h1 : v ∉ mergedL (fix ++ a) := fun h => by
          have h2 := hm.1 h
          by_cases c4 : -v ∈ a
          · simp only [c1, c2, c3, c4, if_false, if_true, Option.none_or, Option.some.injEq] at h2
            omega
          · simp [c1, c2, c3, c4] at h2
        simp [c1, c2, c3, h1]
end Go.Proofs.YtppglbffmgnooaaGreat

/- Pure: what Cone, Restrict, Join and Compose make is reduced and has the values that it should. -/
namespace Go.Proofs.YtppglbffmgnooaaGreat
set_option linter.unusedVariables false
set_option linter.unusedSimpArgs false

theorem conjA_grM (k : Nat) (s : Mq) (a b : Int) : (conjA k s a b).2.1.length ≤ s.1.length + 1 ∧ (k + s.1.length + 1 ≤ 200000 → (conjA k s a b).2.2 = s.2) := by
  unfold conjA conjO
  split
  · exact ⟨by simp, fun _ => rfl⟩
  · split
    · exact ⟨by simp, fun _ => rfl⟩
    · split
      · exact ⟨by simp, fun _ => rfl⟩
      · split
        · exact ⟨by simp, fun e => by omega⟩
        · exact ⟨by simp, fun _ => rfl⟩
theorem cpAll_grM (k kg : Nat) (A : List Pr) : ∀ (ns : List Int) (st : List Int × Mq), (ns.foldl (cpAnd kg A k) st).2.1.length ≤ st.2.1.length + ns.length ∧ (k + st.2.1.length + ns.length ≤ 200000 → (ns.foldl (cpAnd kg A k) st).2.2 = st.2.2)
  | [], st => ⟨Nat.le_refl _, fun _ => rfl⟩
  | y :: r, st => by
    rw [List.foldl_cons, List.length_cons]
    have h1 := conjA_grM k st.2 (movE st.1 (A.getD (y.toNat - kg) dPr).1) (movE st.1 (A.getD (y.toNat - kg) dPr).2)
    have h2 := cpAll_grM k kg A r (cpAnd kg A k st y)
    have e1 : (cpAnd kg A k st y).2 = (conjA k st.2 (movE st.1 (A.getD (y.toNat - kg) dPr).1) (movE st.1 (A.getD (y.toNat - kg) dPr).2)).2 := rfl
    rw [e1] at h2
    exact ⟨by omega, fun e => by rw [h2.2 (by omega), h1.2 (by omega)]⟩
theorem copyA_grM (k : Nat) (I : List Int) (A : List Pr) (img : Int → Int) (l : List Int) (s : Mq) : (copyA k I A img l s).2.1.length ≤ s.1.length + A.length ∧ (k + s.1.length + A.length ≤ 200000 → (copyA k I A img l s).2.2 = s.2) := by
  have h := cpAll_grM k (1 + I.length) A (onN (reachA (1 + I.length) A l) (1 + I.length) A.length) (cpIns I A img l, s)
  have hl : (onN (reachA (1 + I.length) A l) (1 + I.length) A.length).length ≤ A.length := by
    unfold onN
    rw [List.length_map]
    exact Nat.le_trans (List.length_filter_le _ _) (Nat.le_of_eq List.length_range')
  exact ⟨Nat.le_trans h.1 (by show s.1.length + _ ≤ _; omega), fun e => h.2 (by show k + s.1.length + _ ≤ _; omega)⟩
theorem copy_valM {U I : List Int} {A : List Pr} {img : Int → Int} {l : List Int} {s : Mq} {h h1 : Int → Bool} (hs : MOk (1 + U.length) s) (hsf : s.2 = false) (hA : okUpto (1 + I.length) A A.length = true) (hle : edgesB l (1 + I.length + A.length) = true)
    (hi : ∀ v ∈ I, isE (img v) (1 + U.length + s.1.length) = true) (hv : ∀ v ∈ I, edgeV (runN (baseV U h) s.1) (img v) = h1 v) (hf : (copyA (1 + U.length) I A img l s).2.2 = false) :
    ∀ j, j < l.length → edgeV (runN (baseV U h) (copyA (1 + U.length) I A img l s).2.1) ((copyA (1 + U.length) I A img l s).1.getD j 0) = edgeV (runN (baseV I h1) A) (l.getD j 0) := by
  have hb := baseV_len U h
  have key := copyA_val (b := baseV U h) (b0 := baseV I h1) (I := I) (A := A) (img := img) (l := l) (s := s) (baseV_zero _ _) (by rw [hb]; omega) (baseV_zero _ _) (baseV_len I h1) (by rw [hb]; exact hs) hsf hA hle (fun v hv => by rw [hb]; exact hi v hv)
    (fun j hj _ => by rw [baseV_at hj]; exact hv _ (by simp [List.getD, hj])) (by rw [hb]; exact hf)
  rw [hb] at key
  exact key
theorem inp_val {U : List Int} (hs : U.Pairwise (· < ·)) (h : Int → Bool) (A : List Pr) {v : Int} (hv : v ∈ U) : edgeV (runN (baseV U h) A) (inpA U v) = h v := by
  rw [edgeV_base (by rw [baseV_len]; exact inpA_isE U v)]
  obtain ⟨j, hj, rfl⟩ := List.getElem_of_mem hv
  have hp := placeA_at hs hj
  have hg : U.getD j 0 = U[j] := by simp [List.getD, hj]
  rw [hg] at hp
  unfold inpA
  rw [hp, show 2 * ((j : Int) + 1) = 2 * ((1 + j : Nat) : Int) by omega, edgeV_even, baseV_at hj, hg]
theorem copy_self {I : List Int} {A : List Pr} {l : List Int} {r : List Int × Mq} (h : Int → Bool) (hI : I.Pairwise (· < ·)) (hroom : 1 + I.length ≤ 200000) (hA : okUpto (1 + I.length) A A.length = true) (hle : edgesB l (1 + I.length + A.length) = true) (hr : copyA (1 + I.length) I A (inpA I) l ([], false) = r) (hf : r.2.2 = false) :
    ∀ j, j < l.length → edgeV (runN (baseV I h) r.2.1) (r.1.getD j 0) = edgeV (runN (baseV I h) A) (l.getD j 0) := by
  subst hr
  exact copy_valM (U := I) (I := I) (A := A) (img := inpA I) (l := l) (s := ([], false)) (h := h) (h1 := h) ⟨rfl, by simpa using hroom⟩ rfl hA hle (fun v _ => by have := inpA_isE I v; simpa using this) (fun u hu => inp_val hI h [] hu) hf
theorem has_one {I : List Int} {A : List Pr} {l : List Int} (h : hasA I A l = true) {j : Nat} (hj : j < l.length) : hasA I A [l.getD j 0] = true := by
  obtain ⟨hm, _, he⟩ := hasA_parts h
  unfold hasA
  rw [hm, edgesB_true.2 (fun e he' => by
    obtain rfl := List.mem_singleton.1 he'
    exact edgesB_true.1 he _ (by simp [List.getD, hj]))]
  rfl
theorem has_of {I : List Int} {A : List Pr} {l : List Int} (hr : MOk (1 + I.length) (A, false)) (hI : insB I = true) (hl : ∀ x ∈ l, isE x (1 + I.length + A.length) = true) : hasA I A l = true := by
  have h1 : mayA I A = true := by
    unfold mayA
    rw [decide_eq_true (show 1 + I.length + A.length ≤ 200000 from hr.room), hI, show okUpto (1 + I.length) A A.length = true from hr.ok]
    rfl
  unfold hasA
  rw [h1, edgesB_true.2 (fun e he => isE_true.1 (hl e he))]
  rfl
/-- What a graph with edges should be, next to another one. -/
structure Means (I : List Int) (A : List Pr) (x : List Int) (J : List Int) (D : List Pr) (u : List Int) (a b : List Int) : Prop where
  red : redB J D = true
  len : u.length = x.length
  has : hasA J D u = true
  val : ∀ j, j < x.length → evalA J D (u.getD j 0) a = evalA I A (x.getD j 0) b
theorem rest_mean {I : List Int} {A : List Pr} {x fix a b : List Int} (hx : hasA I A x = true) (hf : mayB fix = true) (hb : ∀ v ∈ I, decide (v ∈ b) = match fixF fix v with
      | some y => decide (y = 1)
      | none => decide (v ∈ a)) : ∃ D u, restR I A x fix = ((restI fix I, D), u, 0) ∧ Means I A x (restI fix I) D u a b := by
  obtain ⟨hm, hA, hl⟩ := hasA_parts hx
  obtain ⟨hroom, hI, _⟩ := mayA_parts hm
  have hlen : (restI fix I).length ≤ I.length := List.length_filter_le _ _
  obtain ⟨v1, v2, v3, v4⟩ := rest_valid hx hf
  have hlt := (insB_lt hI).2
  have hlt2 : (restI fix I).Pairwise (· < ·) := hlt.sublist List.filter_sublist
  have hs : MOk (1 + (restI fix I).length) ([], false) := ⟨rfl, by simp; omega⟩
  have hgr := copyA_grM (1 + (restI fix I).length) I A (restImg fix I) x ([], false)
  refine ⟨(restC I A x fix).2.1, (restC I A x fix).1, by unfold restR; rw [if_pos ⟨hx, hf⟩], redB_iff.2 ⟨v1, v2⟩, v4, by unfold hasA; rw [v1, v3]; rfl, ?_⟩
  refine copy_valM (U := restI fix I) (I := I) (h := fun v => decide (v ∈ a)) (h1 := fun v => decide (v ∈ b)) hs rfl hA hl (fun v _ => by simpa using restImg_isE fix I v) (fun v hv => ?_) (hgr.2 (by simp; omega))
  have hbv := hb v hv
  have hz := edgeV_zero (A := ([] : List Pr)) (baseV_zero (restI fix I) (fun v => decide (v ∈ a))) (by rw [baseV_len]; omega)
  show edgeV _ (restImg fix I v) = decide (v ∈ b)
  rw [hbv]
  unfold restImg orA
  cases e : fixF fix v with
  | some y =>
    rw [Option.getD_some]
    rcases fixF_01 fix _ y e with rfl | rfl
    · exact hz.1
    · exact hz.2
  | none =>
    rw [Option.getD_none]
    have hin : v ∈ restI fix I := by
      unfold restI
      rw [List.mem_filter]
      exact ⟨hv, by rw [e]; rfl⟩
    exact inp_val hlt2 (fun v => decide (v ∈ a)) [] hin
theorem join_mean {I : List Int} {A : List Pr} {x J : List Int} {C : List Pr} {y a : List Int} (hx : hasA I A x = true) (hy : hasA J C y = true) (hsz : 1 + (unionL I J).length + A.length + C.length ≤ 200000) :
    ∃ D u v, gjoinR I A x J C y = ((unionL I J, D), u, v, 0) ∧ Means I A x (unionL I J) D u a a ∧ Means J C y (unionL I J) D v a a := by
  obtain ⟨m1, ok1, l1⟩ := hasA_parts hx
  obtain ⟨m2, ok2, l2⟩ := hasA_parts hy
  obtain ⟨hU1, hU2⟩ := union_ins (mayA_parts m1).2.1 (mayA_parts m2).2.1
  have hlt := (insB_lt hU1).2
  have hin1 : ∀ v ∈ I, v ∈ unionL I J := fun v hv => (union_mem I J v).2 (.inl hv)
  have hin2 : ∀ v ∈ J, v ∈ unionL I J := fun v hv => (union_mem I J v).2 (.inr hv)
  have hs : MOk (1 + (unionL I J).length) ([], false) := ⟨rfl, by simp; omega⟩
  have hi1 : ∀ v ∈ I, isE (inpA (unionL I J) v) (1 + (unionL I J).length + ([] : List Pr).length) = true := fun v _ => by have := inpA_isE (unionL I J) v; simpa using this
  have d1 := copyA_made (k := 1 + (unionL I J).length) (I := I) (A := A) (img := inpA (unionL I J)) (l := x) (s := ([], false)) (by omega) hs ok1 hi1 l1
  have g1 := copyA_grM (1 + (unionL I J).length) I A (inpA (unionL I J)) x ([], false)
  have r1 := copyA_red (k := 1 + (unionL I J).length) (I := I) (A := A) (img := inpA (unionL I J)) (l := x) (s := ([], false)) (by omega) hs RedA.nil ok1 hi1
  have f1 : (gjoin1 I A x J).2.2 = false := g1.2 (by simp; omega)
  have hi2 : ∀ v ∈ J, isE (inpA (unionL I J) v) (1 + (unionL I J).length + (gjoin1 I A x J).2.1.length) = true := fun v _ => isE_mono (inpA_isE (unionL I J) v) (by omega)
  have d2 := copyA_made (k := 1 + (unionL I J).length) (I := J) (A := C) (img := inpA (unionL I J)) (l := y) (s := (gjoin1 I A x J).2) (by omega) d1.2.1 ok2 hi2 l2
  have g2 := copyA_grM (1 + (unionL I J).length) J C (inpA (unionL I J)) y (gjoin1 I A x J).2
  have r2 := copyA_red (k := 1 + (unionL I J).length) (I := J) (A := C) (img := inpA (unionL I J)) (l := y) (s := (gjoin1 I A x J).2) (by omega) d1.2.1 r1 ok2 hi2
  have hl1 : (gjoin1 I A x J).2.1.length ≤ A.length := by have := g1.1; simp at this; exact this
  have f2 : (gjoin2 I A x J C y).2.2 = false := (g2.2 (by show _ + (gjoin1 I A x J).2.1.length + _ ≤ _; omega)).trans f1
  have hmk : MOk (1 + (unionL I J).length) ((gjoin2 I A x J C y).2.1, false) := ⟨d2.2.1.ok, d2.2.1.room⟩
  obtain ⟨B2, hB2⟩ := d2.1
  have hgrow : (gjoin2 I A x J C y).2.1 = (gjoin1 I A x J).2.1 ++ B2 := hB2
  have e1 : ∀ z ∈ (gjoin1 I A x J).1, isE z (1 + (unionL I J).length + (gjoin2 I A x J C y).2.1.length) = true := fun z hz => isE_mono (d1.2.2.1 z hz) (by rw [hgrow, List.length_append]; exact Nat.add_le_add_left (Nat.le_add_right _ _) _)
  have hh1 := has_of hmk hU1 e1
  have hh2 := has_of hmk hU1 d2.2.2.1
  have hred : redB (unionL I J) (gjoin2 I A x J C y).2.1 = true := redB_iff.2 ⟨(hasA_parts hh1).1, r2⟩
  refine ⟨(gjoin2 I A x J C y).2.1, (gjoin1 I A x J).1, (gjoin2 I A x J C y).1, by unfold gjoinR; rw [if_pos ⟨hx, hy⟩, f2]; rfl, ⟨hred, d1.2.2.2.2, hh1, fun j hj => ?_⟩, ⟨hred, d2.2.2.2.2, hh2, fun j hj => ?_⟩⟩
  · have hv := copy_valM (U := unionL I J) (I := I) (A := A) (img := inpA (unionL I J)) (l := x) (s := ([], false)) (h := fun v => decide (v ∈ a)) (h1 := fun v => decide (v ∈ a)) hs rfl ok1 l1 hi1 (fun v hv => inp_val hlt _ [] (hin1 v hv)) f1 j hj
    have hj1 : j < (gjoin1 I A x J).1.length := by rw [show (gjoin1 I A x J).1.length = x.length from d1.2.2.2.2]; exact hj
    have hk := edgeV_grow (b := baseV (unionL I J) (fun v => decide (v ∈ a))) (A := (gjoin1 I A x J).2.1) (B := B2) (e := (gjoin1 I A x J).1.getD j 0) (by rw [baseV_len]; exact d1.2.2.1 _ (getD_mem hj1))
    unfold evalA
    rw [hgrow, hk]
    exact hv
  · exact copy_valM (U := unionL I J) (I := J) (A := C) (img := inpA (unionL I J)) (l := y) (s := (gjoin1 I A x J).2) (h := fun v => decide (v ∈ a)) (h1 := fun v => decide (v ∈ a)) d1.2.1 f1 ok2 l2 hi2 (fun v hv => inp_val hlt _ _ (hin2 v hv)) f2 j hj
/-- The literal that tells the value of a replacement. -/
def litM (I : List Int) (A : List Pr) (a : List Int) (o : Pr) : Int := if evalA I A o.2 a = true then o.1 else -o.1
def bL (I : List Int) (A : List Pr) (a : List Int) (own : List Pr) : List Int := own.foldl (fun b o => litM I A a o :: b) a
theorem bL_snoc (I : List Int) (A : List Pr) (a : List Int) (own : List Pr) (o : Pr) : bL I A a (own ++ [o]) = litM I A a o :: bL I A a own := by unfold bL; rw [List.foldl_append]; rfl
theorem litM_var {I : List Int} {A : List Pr} {a : List Int} {o : Pr} (h : 0 < o.1 ∧ o.1 ≤ 65536) : varC (litM I A a o) = o.1 ∧ litB (litM I A a o) = true := by
  have hb : litB (litM I A a o) = true := by rw [litB_iff]; unfold litM; split <;> omega
  refine ⟨?_, hb⟩
  rw [varC_of hb]
  unfold litM
  split <;> split <;> omega
theorem bL_all {I : List Int} {A : List Pr} {a : List Int} : ∀ n : Nat, ∀ own : List Pr, own.length = n → (∀ o ∈ own, 0 < o.1 ∧ o.1 ≤ 65536) → (own.map (·.1)).Nodup →
    (∀ o ∈ own, firstM (bL I A a own) o.1 = some (litM I A a o)) ∧ (∀ v, v ∉ own.map (·.1) → firstM (bL I A a own) v = firstM a v) ∧ ((∀ x ∈ a, litB x = true) → ∀ x ∈ bL I A a own, litB x = true) ∧ (bL I A a own).length = own.length + a.length
  | 0, own, h, _, _ => by
    obtain rfl := List.eq_nil_of_length_eq_zero h
    exact ⟨fun o ho => (by cases ho), fun v _ => rfl, fun h => h, by simp [bL]⟩
  | n + 1, own, h, hp, hn => by
    rcases List.eq_nil_or_concat own with rfl | ⟨r, o, rfl⟩
    · simp at h
    · rw [List.concat_eq_append] at h hp hn ⊢
      rw [List.map_append, List.nodup_append] at hn
      obtain ⟨n1, _, n3⟩ := hn
      obtain ⟨i1, i2, i3, i4⟩ := bL_all (a := a) n r (by simpa using h) (fun p hp' => hp p (List.mem_append_left _ hp')) n1
      have ho := hp o (List.mem_append_right _ (List.mem_singleton.2 rfl))
      obtain ⟨w1, w2⟩ := litM_var (I := I) (A := A) (a := a) ho
      rw [bL_snoc]
      have step : ∀ v, firstM (litM I A a o :: bL I A a r) v = if o.1 = v then some (litM I A a o) else firstM (bL I A a r) v := fun v => by
        unfold firstM
        rw [List.find?_cons, w1]
        by_cases c : o.1 = v
        · rw [if_pos c, decide_eq_true c]
        · rw [if_neg c, decide_eq_false c]
      refine ⟨fun p hp' => ?_, fun v hv => ?_, fun hl x hx => ?_, by rw [List.length_cons, i4, List.length_append, List.length_singleton]; omega⟩
      · rw [step]
        rcases List.mem_append.1 hp' with hp' | hp'
        · rw [if_neg (fun e => n3 p.1 (List.mem_map.2 ⟨p, hp', rfl⟩) o.1 (by simp) e.symm)]
          exact i1 p hp'
        · obtain rfl := List.mem_singleton.1 hp'
          rw [if_pos rfl]
      · rw [List.map_append] at hv
        rw [step, if_neg (fun e => hv (List.mem_append_right _ (by simp [e])))]
        exact i2 v (fun e => hv (List.mem_append_left _ e))
      · rcases List.mem_cons.1 hx with rfl | hx
        · exact w2
        · exact i3 hl x hx
theorem zipF_at {B : List Pr} {xs : List Int} {f : Int → Option Int} (hn : (B.map (·.1)).Nodup) (hl : xs.length = B.length) : ∀ k, k ≤ B.length → (∀ j, j < k → zipF (B.take k) (xs.take k) f (B.getD j dPr).1 = some (xs.getD j 0)) ∧ ∀ v, v ∉ (B.take k).map (·.1) → zipF (B.take k) (xs.take k) f v = f v
  | 0, _ => ⟨fun j hj => absurd hj (Nat.not_lt_zero _), fun v _ => rfl⟩
  | k + 1, hk => by
    obtain ⟨i1, i2⟩ := zipF_at (f := f) hn hl k (by omega)
    have hkB : k < B.length := hk
    rw [zipF_succ hkB (by rw [hl]; exact hkB)]
    have ne : ∀ j, j < k → (B.getD j dPr).1 ≠ (B.getD k dPr).1 := fun j hj e => by
      have hjB : j < B.length := by omega
      have h1 := List.pairwise_iff_getElem.1 hn j k (by rw [List.length_map]; exact hjB) (by rw [List.length_map]; exact hkB) hj
      rw [List.getElem_map, List.getElem_map] at h1
      apply h1
      simpa [List.getD, hjB, hkB] using e
    refine ⟨fun j hj => ?_, fun v hv => ?_⟩
    · unfold updM
      rcases Nat.lt_succ_iff_lt_or_eq.1 hj with h | rfl
      · rw [if_neg (ne j h)]
        exact i1 j h
      · rw [if_pos rfl]
    · rw [take_prS hkB, List.map_append] at hv
      unfold updM
      rw [if_neg (fun e => hv (List.mem_append_right _ (by simp [e])))]
      exact i2 v (fun e => hv (List.mem_append_left _ e))
set_option maxHeartbeats 400000 in
theorem comp_mean {I : List Int} {A : List Pr} {x a : List Int} {own : List Pr} (hx : hasA I A x = true) (ha : mayB a = true) (hsz : 1 + I.length + A.length + A.length ≤ 200000) (hin : ∀ o ∈ own, o.1 ∈ I) (hnd : (own.map (·.1)).Nodup) (hed : edgesB (own.map (·.2)) (1 + I.length + A.length) = true) :
    ∃ D u, composeR I A x own = ((I, D), u, 0) ∧ Means I A x I D u a (mergedL (bL I A a own)) ∧ mayB (mergedL (bL I A a own)) = true := by
  obtain ⟨hm, ok, le⟩ := hasA_parts hx
  obtain ⟨hroom, hI, _⟩ := mayA_parts hm
  obtain ⟨hpos, hlt⟩ := insB_lt hI
  have hdup : ∀ k, k < own.length → (own.getD k dPr).1 ∉ (own.take k).map (·.1) := fun k hk hmem => by
    obtain ⟨p, hp, hpe⟩ := List.mem_map.1 hmem
    obtain ⟨j, hj, rfl⟩ := List.getElem_of_mem hp
    rw [List.length_take] at hj
    have hjB : j < own.length := by omega
    have h1 := List.pairwise_iff_getElem.1 hnd j k (by rw [List.length_map]; exact hjB) (by rw [List.length_map]; exact hk) (by omega)
    rw [List.getElem_map, List.getElem_map] at h1
    apply h1
    rw [List.getElem_take] at hpe
    simpa [List.getD, hk] using hpe
  obtain ⟨f, hf, hfd⟩ := puts_ok hed hdup own.length (Nat.le_refl _)
  rw [List.take_length] at hf hfd
  have hall : hasAll I own = true := by
    unfold hasAll
    rw [List.all_eq_true]
    intro o ho
    have := place_in (hin o ho)
    exact decide_eq_true (by omega)
  obtain ⟨⟨hi, hm1⟩, hm2, he2, hl2⟩ := comp_made hf hx
  have hs : MOk (1 + I.length) ([], false) := ⟨rfl, by simp; omega⟩
  have hi1 : ∀ v ∈ I, isE (inpA I v) (1 + I.length + ([] : List Pr).length) = true := fun v _ => by have := inpA_isE I v; simpa using this
  have g1 := copyA_grM (1 + I.length) I A (inpA I) (own.map (·.2)) ([], false)
  have f1 : (comp1 I A own).2.2 = false := g1.2 (by simp; omega)
  have l1 : (comp1 I A own).2.1.length ≤ A.length := by have := g1.1; simp at this; exact this
  have g2 := copyA_grM (1 + I.length) I A (orA (zipF own (comp1 I A own).1 f) (inpA I)) x (comp1 I A own).2
  have f2 : (comp2 I A x own f).2.2 = false := (g2.2 (by show _ + (comp1 I A own).2.1.length + _ ≤ _; omega)).trans f1
  have r1 := copyA_red (k := 1 + I.length) (I := I) (A := A) (img := inpA I) (l := own.map (·.2)) (s := ([], false)) (by omega) hs RedA.nil ok hi1
  have r2 := copyA_red (k := 1 + I.length) (I := I) (A := A) (img := orA (zipF own (comp1 I A own).1 f) (inpA I)) (l := x) (s := (comp1 I A own).2) (by omega) hm1 r1 ok (fun v _ => hi v)
  have hmk : MOk (1 + I.length) ((comp2 I A x own f).2.1, false) := ⟨hm2.ok, hm2.room⟩
  have hh := has_of hmk hI he2
  have hlen1 : (comp1 I A own).1.length = own.length := by
    have := (copyA_made (k := 1 + I.length) (I := I) (A := A) (img := inpA I) (l := own.map (·.2)) (s := ([], false)) (by omega) hs ok hi1 hed).2.2.2.2
    rw [List.length_map] at this
    exact this
  have f2c : (copyA (1 + I.length) I A (orA (zipF own (comp1 I A own).1 f) (inpA I)) x (comp1 I A own).2).2.2 = false := by
    have h9 := f2
    unfold comp2 at h9
    exact h9
  have hvalc : ∀ (h : Int → Bool) j, j < own.length → edgeV (runN (baseV I h) (comp1 I A own).2.1) ((comp1 I A own).1.getD j 0) = edgeV (runN (baseV I h) A) ((own.map (·.2)).getD j 0) := fun h j hj => copy_self h hlt (by omega) ok hed (r := comp1 I A own) (by unfold comp1; rfl) f1 j (by rw [List.length_map]; exact hj)
  obtain ⟨b1, b2, b3, b4⟩ := bL_all (I := I) (A := A) (a := a) own.length own rfl (fun o ho => hpos _ (hin o ho)) hnd
  have hmb := merged_may (b3 (may_up ha).1)
  have r2c : RedA (comp2 I A x own f).2.1 := by
    unfold comp2
    exact r2
  have hredc : redB I (comp2 I A x own f).2.1 = true := redB_iff.2 ⟨(hasA_parts hh).1, r2c⟩
  have hvalx : ∀ (h h1 : Int → Bool), (∀ v ∈ I, edgeV (runN (baseV I h) (comp1 I A own).2.1) (orA (zipF own (comp1 I A own).1 f) (inpA I) v) = h1 v) → ∀ j, j < x.length → edgeV (runN (baseV I h) (comp2 I A x own f).2.1) ((comp2 I A x own f).1.getD j 0) = edgeV (runN (baseV I h1) A) (x.getD j 0) := fun h h1 hv => by
    unfold comp2
    exact copy_valM (U := I) (I := I) (A := A) (l := x) (s := (comp1 I A own).2) (h := h) (h1 := h1) hm1 f1 ok le (fun v _ => hi v) hv f2c
  refine ⟨(comp2 I A x own f).2.1, (comp2 I A x own f).1, ?_, ⟨hredc, hl2, hh, ?_⟩, hmb⟩
  · unfold composeR
    rw [hf]
    simp only [hx, hall, f2, Bool.true_eq_false, Bool.false_eq_true, if_false]
  · refine hvalx (fun v => decide (v ∈ a)) (fun v => decide (v ∈ mergedL (bL I A a own))) (fun v hv => ?_)
    have hv0 := (hpos v hv).1
    have hcv : varC v = v := by unfold varC; rw [if_neg (by omega)]
    have hmm : v ∈ mergedL (bL I A a own) ↔ firstM (bL I A a own) v = some v := by rw [merged_mem, hcv]
    obtain ⟨z1, z2⟩ := zipF_at (f := f) hnd hlen1 own.length (Nat.le_refl _)
    rw [List.take_length, show (comp1 I A own).1.take own.length = (comp1 I A own).1 by rw [← hlen1, List.take_length]] at z1 z2
    show edgeV _ (orA (zipF own (comp1 I A own).1 f) (inpA I) v) = decide (v ∈ mergedL (bL I A a own))
    by_cases c : v ∈ own.map (·.1)
    · obtain ⟨o, ho, rfl⟩ := List.mem_map.1 c
      obtain ⟨j, hj, rfl⟩ := List.getElem_of_mem ho
      have hg : own.getD j dPr = own[j] := by simp [List.getD, hj]
      have h1 := z1 j hj
      rw [hg] at h1
      unfold orA
      rw [h1, Option.getD_some]
      have hval := hvalc (fun v => decide (v ∈ a)) j hj
      have hg2 : (own.map (·.2)).getD j 0 = own[j].2 := by simp [List.getD, hj]
      rw [hg2] at hval
      have hfi := b1 own[j] ho
      rw [hfi] at hmm
      refine hval.trans ?_
      show evalA I A own[j].2 a = decide _
      cases ev : evalA I A own[j].2 a with
      | true =>
        have h9 : own[j].1 ∈ mergedL (bL I A a own) := hmm.2 (by unfold litM; rw [if_pos ev])
        exact (decide_eq_true h9).symm
      | false =>
        have h9 : own[j].1 ∉ mergedL (bL I A a own) := fun h => by
          have h8 := hmm.1 h
          unfold litM at h8
          rw [if_neg (by rw [ev]; simp)] at h8
          injection h8 with h8
          omega
        exact (decide_eq_false h9).symm
    · have h1 := z2 v c
      have hfn : f v = none := by
        cases e : f v with
        | none => rfl
        | some y => exact absurd (hfd v (by rw [e]; rfl)) c
      unfold orA
      rw [h1, hfn, Option.getD_none, inp_val hlt _ _ hv]
      rw [b2 v c, first_may ha hv0] at hmm
      by_cases c1 : v ∈ a
      · have h9 : v ∈ mergedL (bL I A a own) := hmm.2 (by rw [if_pos c1])
        rw [decide_eq_true c1, decide_eq_true h9]
      · have h9 : v ∉ mergedL (bL I A a own) := fun h => by
          have h8 := hmm.1 h
          rw [if_neg c1] at h8
          split at h8
          · injection h8 with h8
            omega
          · cases h8
        rw [decide_eq_false c1, decide_eq_false h9]
/-- The replacements that the law keeps. -/
def ownStep (I : List Int) (g : Int → Int) (own : List Pr) (o : Pr) : List Pr := if o.1 ∈ I ∧ o.1 ∉ own.map (·.1) then own ++ [(o.1, g o.2)] else own
def ownL (I : List Int) (g : Int → Int) (B : List Pr) : List Pr := B.foldl (ownStep I g) []
theorem ownL_succ {I : List Int} {g : Int → Int} {B : List Pr} {k : Nat} (h : k < B.length) : ownL I g (B.take (k + 1)) = ownStep I g (ownL I g (B.take k)) (B.getD k dPr) := by
  unfold ownL
  rw [take_prS h, List.foldl_append]
  rfl
theorem ownL_ok {I : List Int} {g : Int → Int} {n : Nat} (hg : ∀ e, isE (g e) n = true) {B : List Pr} : ∀ k, k ≤ B.length → (∀ o ∈ ownL I g (B.take k), o.1 ∈ I ∧ isE o.2 n = true) ∧ ((ownL I g (B.take k)).map (·.1)).Nodup ∧ (ownL I g (B.take k)).length ≤ k
  | 0, _ => ⟨fun o ho => (by cases ho), List.nodup_nil, Nat.le_refl _⟩
  | k + 1, hk => by
    obtain ⟨i1, i2, i3⟩ := ownL_ok hg (B := B) k (by omega)
    rw [ownL_succ (show k < B.length from hk)]
    unfold ownStep
    split
    · rename_i c
      refine ⟨fun o ho => ?_, ?_, by rw [List.length_append]; simp; omega⟩
      · rcases List.mem_append.1 ho with ho | ho
        · exact i1 o ho
        · obtain rfl := List.mem_singleton.1 ho
          exact ⟨c.1, hg _⟩
      · rw [List.map_append, List.nodup_append]
        refine ⟨i2, by simp, fun u hu v hv e => ?_⟩
        simp at hv
        subst hv
        subst e
        exact c.2 hu
    · exact ⟨i1, i2, by omega⟩
end Go.Proofs.YtppglbffmgnooaaGreat
