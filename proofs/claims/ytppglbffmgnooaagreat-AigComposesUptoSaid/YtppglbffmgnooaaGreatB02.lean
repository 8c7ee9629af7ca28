/- Joined texts: AgJoinP, AgRCompP, AgCompM. -/
import Derived.Test.YtppglbffmgnooaaGreatB05
import Derived.Test.YtppglbffmgnooaaGreatAgRCopP
import Derived.Test.YtppglbffmgnooaaGreatAgRImg
import Derived.Test.YtppglbffmgnooaaGreatA09
/- Pure: what the reference's Join makes is what aig.Join makes. -/
namespace Go.Proofs.YtppglbffmgnooaaGreat
set_option linter.unusedVariables false
set_option linter.unusedSimpArgs false

def rjoin1 (I : List Int) (A : List Pr) (x J : List Int) : List Int × Mq := rcAll (1 + (unionL I J).length) I A (I.map (edgeI (unionL I J))) x ([], false)
def rjoin2 (I : List Int) (A : List Pr) (x J : List Int) (B : List Pr) (y : List Int) : List Int × Mq := rcAll (1 + (unionL I J).length) J B (J.map (edgeI (unionL I J))) y (rjoin1 I A x J).2
theorem edges_union {I J K : List Int} (h : ∀ v ∈ K, v ∈ unionL I J) : K.map (edgeI (unionL I J)) = K.map (inpA (unionL I J)) :=
  List.map_congr_left fun v hv => by unfold edgeI inpA; rw [if_pos (h v hv)]
theorem join_parts {I : List Int} {A : List Pr} {x J : List Int} {B : List Pr} {y : List Int} (hx : hasA I A x = true) (hy : hasA J B y = true) :
    (x.map (movE (rjoin1 I A x J).1) = (gjoin1 I A x J).1 ∧ (rjoin1 I A x J).2 = (gjoin1 I A x J).2) ∧ (y.map (movE (rjoin2 I A x J B y).1) = (gjoin2 I A x J B y).1 ∧ (rjoin2 I A x J B y).2 = (gjoin2 I A x J B y).2) := by
  obtain ⟨_, ok1, l1⟩ := hasA_parts hx
  obtain ⟨_, ok2, l2⟩ := hasA_parts hy
  have e1 := rcAll_eq (k := 1 + (unionL I J).length) (img := inpA (unionL I J)) (s := ([], false)) ok1 l1
  rw [← edges_union (I := I) (J := J) (K := I) (fun v hv => (union_mem I J v).2 (.inl hv))] at e1
  have e2 := rcAll_eq (k := 1 + (unionL I J).length) (img := inpA (unionL I J)) (s := (gjoin1 I A x J).2) ok2 l2
  rw [← edges_union (I := I) (J := J) (K := J) (fun v hv => (union_mem I J v).2 (.inr hv))] at e2
  refine ⟨e1, ?_⟩
  unfold rjoin2 gjoin2
  rw [show (rjoin1 I A x J).2 = (gjoin1 I A x J).2 from e1.2]
  exact e2
theorem join_ref {I : List Int} {A : List Pr} {x J : List Int} {B : List Pr} {y : List Int} (hx : hasA I A x = true) (hy : hasA J B y = true) :
    gjoinR I A x J B y = if (rjoin2 I A x J B y).2.2 = true then errJ 3 else ((unionL I J, (rjoin2 I A x J B y).2.1), x.map (movE (rjoin1 I A x J).1), y.map (movE (rjoin2 I A x J B y).1), 0) := by
  obtain ⟨⟨h1, h2⟩, h3, h4⟩ := join_parts hx hy
  unfold gjoinR
  rw [if_pos ⟨hx, hy⟩, h1, h3, h4]
/-- The graph that Join makes has room: the reference's second test never tells. -/
theorem join_room {I : List Int} {A : List Pr} {x J : List Int} {B : List Pr} {y : List Int} (hx : hasA I A x = true) (hy : hasA J B y = true) : MOk (1 + (unionL I J).length) (rjoin2 I A x J B y).2 := by
  obtain ⟨m1, ok1, l1⟩ := hasA_parts hx
  obtain ⟨m2, ok2, l2⟩ := hasA_parts hy
  obtain ⟨hU1, hU2⟩ := union_ins (mayA_parts m1).2.1 (mayA_parts m2).2.1
  obtain ⟨_, _, h4⟩ := join_parts hx hy
  rw [h4]
  have d1 := copyA_made (k := 1 + (unionL I J).length) (I := I) (A := A) (img := inpA (unionL I J)) (l := x) (s := ([], false)) (by omega) ⟨rfl, by simp; omega⟩ ok1 (fun v _ => by have := inpA_isE (unionL I J) v; simpa using this) l1
  exact (copyA_made (k := 1 + (unionL I J).length) (I := J) (A := B) (img := inpA (unionL I J)) (l := y) (s := (gjoin1 I A x J).2) (by omega) d1.2.1 ok2 (fun v _ => isE_mono (inpA_isE (unionL I J) v) (by omega)) l2).2.1
end Go.Proofs.YtppglbffmgnooaaGreat

/- Pure: what the reference's Compose makes is what aig.Compose makes. -/
namespace Go.Proofs.YtppglbffmgnooaaGreat
set_option linter.unusedVariables false
set_option linter.unusedSimpArgs false

def insStep (I first : List Int) (ins : List Int) (o : Pr) : List Int := ins.set ((placeA I o.1).toNat - 1) (movE first o.2)
def insR (I : List Int) (B : List Pr) (first ins : List Int) : List Int := B.foldl (insStep I first) ins
theorem insR_succ {I : List Int} {B : List Pr} {first ins : List Int} {k : Nat} (h : k < B.length) : insR I (B.take (k + 1)) first ins = insStep I first (insR I (B.take k) first ins) (B.getD k dPr) := by
  unfold insR
  rw [take_prS h, List.foldl_append]
  rfl
theorem insR_len {I first : List Int} : ∀ (B : List Pr) (ins : List Int), (insR I B first ins).length = ins.length
  | [], ins => rfl
  | o :: r, ins => by
    show (insR I r first (insStep I first ins o)).length = _
    rw [insR_len r]
    unfold insStep
    rw [List.length_set]
def rcomp1 (I : List Int) (A B : List Pr) : List Int × Mq := rcAll (1 + I.length) I A (I.map (edgeI I)) (B.map (·.2)) ([], false)
def rcompI (I : List Int) (A B : List Pr) : List Int := insR I B (rcomp1 I A B).1 (I.map (edgeI I))
def rcomp2 (I : List Int) (A : List Pr) (l : List Int) (B : List Pr) : List Int × Mq := rcAll (1 + I.length) I A (rcompI I A B) l (rcomp1 I A B).2

theorem orA_upd (F : Int → Option Int) (g : Int → Int) (v y u : Int) : orA (updM F v y) g u = if u = v then y else orA F g u := by
  unfold orA updM
  split <;> rfl
theorem ins_one {I : List Int} (hs : I.Pairwise (· < ·)) {v : Int} (hv : v ∈ I) (g h : Int → Int) (y : Int) (hh : ∀ u, h u = if u = v then y else g u) : (I.map g).set ((placeA I v).toNat - 1) y = I.map h := by
  obtain ⟨j, hj, rfl⟩ := List.getElem_of_mem hv
  have hp := placeA_at hs hj
  rw [show I.getD j 0 = I[j] by simp [List.getD, hj]] at hp
  rw [hp, show ((j : Int) + 1).toNat - 1 = j from by omega]
  apply List.ext_getElem
  · simp
  · intro i h1 h2
    have hi : i < I.length := by simpa using h2
    rw [List.getElem_set, List.getElem_map, List.getElem_map, hh]
    by_cases e : j = i
    · subst e
      rw [if_pos rfl, if_pos rfl]
    · rw [if_neg e, if_neg]
      intro e2
      have hq := placeA_at hs hi
      rw [show I.getD i 0 = I[i] by simp [List.getD, hi], e2, hp] at hq
      omega
theorem insR_eq {I first : List Int} (hs : I.Pairwise (· < ·)) : ∀ (B : List Pr) (F : Int → Option Int), (∀ o ∈ B, o.1 ∈ I) → insR I B first (I.map (orA F (inpA I))) = I.map (orA (zipF B (B.map (fun o => movE first o.2)) F) (inpA I))
  | [], F, _ => rfl
  | o :: r, F, h => by
    show insR I r first (insStep I first (I.map (orA F (inpA I))) o) = _
    have h1 : insStep I first (I.map (orA F (inpA I))) o = I.map (orA (updM F o.1 (movE first o.2)) (inpA I)) :=
      ins_one hs (h o List.mem_cons_self) _ _ _ (fun u => orA_upd F (inpA I) o.1 (movE first o.2) u)
    rw [h1, insR_eq hs r _ (fun p hp => h p (List.mem_cons_of_mem _ hp))]
    rfl
theorem zipF_from : ∀ (B : List Pr) (xs : List Int) (f g : Int → Option Int) (v : Int), xs.length = B.length → (f v = g v ∨ v ∈ B.map (·.1)) → zipF B xs f v = zipF B xs g v
  | [], xs, f, g, v, _, h => by
    rcases h with h | h
    · exact h
    · cases h
  | o :: r, [], f, g, v, e, _ => by cases e
  | o :: r, x :: xs, f, g, v, e, h => by
    show zipF r xs (updM f o.1 x) v = zipF r xs (updM g o.1 x) v
    refine zipF_from r xs _ _ v (by simpa using e) ?_
    by_cases hv : v = o.1
    · exact .inl (by unfold updM; rw [if_pos hv, if_pos hv])
    · rcases h with h | h
      · exact .inl (by unfold updM; rw [if_neg hv, if_neg hv]; exact h)
      · rw [List.map_cons] at h
        rcases List.mem_cons.1 h with h | h
        · exact absurd h hv
        · exact .inr h
theorem edges_self (I : List Int) : I.map (edgeI I) = I.map (inpA I) := List.map_congr_left fun v hv => by unfold edgeI inpA; rw [if_pos hv]
theorem hasAll_mem {I : List Int} {B : List Pr} (h : hasAll I B = true) : ∀ o ∈ B, o.1 ∈ I := fun o ho => by
  unfold hasAll at h
  have h1 := of_decide_eq_true (List.all_eq_true.1 h o ho)
  by_cases c : o.1 ∈ I
  · exact c
  · exact absurd (by unfold placeA; rw [if_neg c]) h1
theorem hasA_snd {I : List Int} {A B : List Pr} {f : Int → Option Int} (hm : mayA I A = true) (hf : putsA (1 + I.length + A.length) B = some f) : hasA I A (B.map (·.2)) = true := by
  unfold hasA
  rw [hm, puts_edges hf]
  rfl
theorem comp_parts {I : List Int} {A : List Pr} {l : List Int} {B : List Pr} {f : Int → Option Int} (hf : putsA (1 + I.length + A.length) B = some f) (hl : hasA I A l = true) (ha : hasAll I B = true) :
    ((B.map (·.2)).map (movE (rcomp1 I A B).1) = (comp1 I A B).1 ∧ (rcomp1 I A B).2 = (comp1 I A B).2) ∧ rcompI I A B = I.map (orA (zipF B (comp1 I A B).1 f) (inpA I)) ∧ (l.map (movE (rcomp2 I A l B).1) = (comp2 I A l B f).1 ∧ (rcomp2 I A l B).2 = (comp2 I A l B f).2) := by
  obtain ⟨hm, ok, le⟩ := hasA_parts hl
  have hs := (insB_lt (mayA_parts hm).2.1).2
  obtain ⟨_, _, lb⟩ := hasA_parts (hasA_snd hm hf)
  have e1 := rcAll_eq (k := 1 + I.length) (img := inpA I) (s := ([], false)) ok lb
  rw [← edges_self] at e1
  have e1' : (B.map (·.2)).map (movE (rcomp1 I A B).1) = (comp1 I A B).1 ∧ (rcomp1 I A B).2 = (comp1 I A B).2 := e1
  have hxs : B.map (fun o => movE (rcomp1 I A B).1 o.2) = (comp1 I A B).1 := by rw [← e1'.1, List.map_map]; rfl
  have hI : rcompI I A B = I.map (orA (zipF B (comp1 I A B).1 f) (inpA I)) := by
    unfold rcompI
    rw [edges_self, show I.map (inpA I) = I.map (orA (fun _ => none) (inpA I)) from List.map_congr_left fun v _ => rfl, insR_eq hs B _ (hasAll_mem ha), hxs]
    refine List.map_congr_left fun v _ => ?_
    unfold orA
    rw [zipF_from B (comp1 I A B).1 (fun _ => none) f v (by rw [← hxs, List.length_map]) ?_]
    cases e : f v with
    | none => exact .inl rfl
    | some y =>
      rcases puts_dom _ B _ f hf v y e with h | ⟨o, ho, h, _⟩
      · cases h
      · exact .inr (List.mem_map.2 ⟨o, ho, h⟩)
  refine ⟨e1', hI, ?_⟩
  have e2 := rcAll_eq (k := 1 + I.length) (img := orA (zipF B (comp1 I A B).1 f) (inpA I)) (s := (comp1 I A B).2) ok le
  rw [← hI, ← e1'.2] at e2
  refine ⟨e2.1.trans ?_, e2.2.trans ?_⟩ <;> rw [e1'.2] <;> rfl
theorem puts_has (n : Nat) : ∀ (B : List Pr) (f g : Int → Option Int), B.foldl (fun s o => s.bind (fun f => putStep n f o)) (some f) = some g → ∀ v, (f v).isSome = true ∨ v ∈ B.map (·.1) → (g v).isSome = true
  | [], f, g, h, v, hv => by
    injection h with h
    rw [← h]
    rcases hv with hv | hv
    · exact hv
    · cases hv
  | o :: r, f, g, h, v, hv => by
    rw [List.foldl_cons, show (some f).bind (fun f => putStep n f o) = putStep n f o from rfl] at h
    by_cases hno : (f o.1).isSome = true ∨ isE o.2 n = false
    · rw [show putStep n f o = none from if_pos hno, puts_none] at h; cases h
    · rw [show putStep n f o = some (updM f o.1 o.2) from if_neg hno] at h
      refine puts_has n r _ g h v ?_
      by_cases e : v = o.1
      · exact .inl (by unfold updM; rw [if_pos e]; rfl)
      · rcases hv with hv | hv
        · exact .inl (by unfold updM; rw [if_neg e]; exact hv)
        · rw [List.map_cons] at hv
          rcases List.mem_cons.1 hv with hv | hv
          · exact absurd hv e
          · exact .inr hv
theorem puts_dup {n : Nat} {B : List Pr} {k : Nat} (hk : k < B.length) (hd : (B.getD k dPr).1 ∈ (B.take k).map (·.1)) : putsA n B = none := by
  cases h : putsA n (B.take k) with
  | none => exact puts_stop h
  | some f =>
    refine puts_stop (k := k + 1) ?_
    rw [puts_succ hk h]
    exact if_pos (.inl (puts_has n _ _ f h _ (.inr hd)))
theorem puts_ok {n : Nat} {B : List Pr} (he : edgesB (B.map (·.2)) n = true) (hd : ∀ k, k < B.length → (B.getD k dPr).1 ∉ (B.take k).map (·.1)) : ∀ k, k ≤ B.length → ∃ f, putsA n (B.take k) = some f ∧ ∀ v, (f v).isSome = true → v ∈ (B.take k).map (·.1)
  | 0, _ => ⟨_, rfl, fun v hv => by cases hv⟩
  | k + 1, hk => by
    obtain ⟨f, h1, h2⟩ := puts_ok he hd k (by omega)
    have hlt : k < B.length := hk
    have hb : B.getD k dPr ∈ B := by simp [List.getD, hlt]
    have hi : isE (B.getD k dPr).2 n = true := isE_true.2 (edgesB_true.1 he _ (List.mem_map.2 ⟨_, hb, rfl⟩))
    refine ⟨updM f (B.getD k dPr).1 (B.getD k dPr).2, ?_, fun v hv => ?_⟩
    · rw [puts_succ hlt h1]
      exact if_neg (by rintro (h | h); exact hd k hlt (h2 _ h); rw [hi] at h; cases h)
    · rw [take_prS hlt, List.map_append]
      unfold updM at hv
      split at hv
      · rename_i e
        exact List.mem_append_right _ (by rw [e]; simp)
      · exact List.mem_append_left _ (h2 v hv)
theorem comp_dup {I : List Int} {A : List Pr} {l : List Int} {B : List Pr} {k : Nat} (hk : k < B.length) (hd : (B.getD k dPr).1 ∈ (B.take k).map (·.1)) : composeR I A l B = errR 2 := by
  unfold composeR
  rw [puts_dup hk hd]
theorem comp_bad1 {I : List Int} {A : List Pr} {l : List Int} {B : List Pr} (h : hasA I A l = false) : composeR I A l B = errR 2 := by
  unfold composeR
  cases putsA (1 + I.length + A.length) B with
  | none => rfl
  | some f => simp only [h, if_true]
theorem comp_bad2 {I : List Int} {A : List Pr} {l : List Int} {B : List Pr} (h : hasA I A (B.map (·.2)) = false) : composeR I A l B = errR 2 := by
  unfold composeR
  cases e : putsA (1 + I.length + A.length) B with
  | none => rfl
  | some f =>
    have hl : hasA I A l = false := by
      cases c : hasA I A l with
      | false => rfl
      | true => rw [hasA_snd (hasA_parts c).1 e] at h; cases h
    simp only [hl, if_true]
theorem comp_ref {I : List Int} {A : List Pr} {l : List Int} {B : List Pr} (hl : hasA I A l = true) (he : hasA I A (B.map (·.2)) = true) (hd : ∀ k, k < B.length → (B.getD k dPr).1 ∉ (B.take k).map (·.1)) :
    (hasAll I B = false → composeR I A l B = errR 6) ∧ (hasAll I B = true → (composeR I A l B = if (rcomp2 I A l B).2.2 = true then errR 3 else ((I, (rcomp2 I A l B).2.1), l.map (movE (rcomp2 I A l B).1), 0)) ∧ (∀ x ∈ rcompI I A B, isE x (1 + I.length + (rcomp1 I A B).2.1.length) = true)) := by
  obtain ⟨f, hf, _⟩ := puts_ok (hasA_parts he).2.2 hd B.length (Nat.le_refl _)
  rw [List.take_length] at hf
  refine ⟨fun h => ?_, fun h => ?_⟩
  · unfold composeR
    rw [hf]
    simp only [hl, h, if_true, Bool.true_eq_false, if_false]
  · obtain ⟨⟨p1, p2⟩, p3, p4, p5⟩ := comp_parts hf hl h
    refine ⟨?_, fun x hx => ?_⟩
    · unfold composeR
      rw [hf]
      simp only [hl, h, Bool.true_eq_false, if_false]
      rw [p4, p5]
    · have hm := (hasA_parts hl).1
      have hr := (mayA_parts hm).1
      have d1 := copyA_made (k := 1 + I.length) (I := I) (A := A) (img := inpA I) (l := B.map (·.2)) (s := ([], false)) (by omega) ⟨rfl, by simp; omega⟩ (hasA_parts hl).2.1 (fun v _ => by have := inpA_isE I v; simpa using this) (hasA_parts he).2.2
      rw [p3] at hx
      obtain ⟨v, hv, rfl⟩ := List.mem_map.1 hx
      rw [p2]
      unfold orA
      cases e : zipF B (comp1 I A B).1 f v with
      | none => exact isE_mono (inpA_isE I v) (by omega)
      | some y =>
        have hy := zip_img hf (by rw [← p1, List.length_map, List.length_map]) e
        exact d1.2.2.1 y hy
end Go.Proofs.YtppglbffmgnooaaGreat

/- Pure: what Compose and Join hand back is of bounded length and range. -/
namespace Go.Proofs.YtppglbffmgnooaaGreat
set_option linter.unusedVariables false
set_option linter.unusedSimpArgs false

/-- What Compose makes is valid, where it is made. -/
theorem comp_made {I : List Int} {A : List Pr} {l : List Int} {B : List Pr} {f : Int → Option Int} (hf : putsA (1 + I.length + A.length) B = some f) (hl : hasA I A l = true) :
    ((∀ v, isE (orA (zipF B (comp1 I A B).1 f) (inpA I) v) (1 + I.length + (comp1 I A B).2.1.length) = true) ∧ MOk (1 + I.length) (comp1 I A B).2) ∧ MOk (1 + I.length) (comp2 I A l B f).2 ∧ (∀ x ∈ (comp2 I A l B f).1, isE x (1 + I.length + (comp2 I A l B f).2.1.length) = true) ∧ (comp2 I A l B f).1.length = l.length := by
  obtain ⟨hm, ok, le⟩ := hasA_parts hl
  have hr := (mayA_parts hm).1
  have d1 := copyA_made (k := 1 + I.length) (I := I) (A := A) (img := inpA I) (l := B.map (·.2)) (s := ([], false)) (by omega) ⟨rfl, by simp; omega⟩ ok (fun v _ => by have := inpA_isE I v; simpa using this) (puts_edges hf)
  have hi : ∀ v, isE (orA (zipF B (comp1 I A B).1 f) (inpA I) v) (1 + I.length + (comp1 I A B).2.1.length) = true := fun v => by
    unfold orA
    cases e : zipF B (comp1 I A B).1 f v with
    | none => exact isE_mono (inpA_isE I v) (by omega)
    | some y =>
      have hy := zip_img hf (by rw [show (comp1 I A B).1.length = (B.map (·.2)).length from d1.2.2.2.2, List.length_map]) e
      exact d1.2.2.1 y hy
  have d2 := copyA_made (k := 1 + I.length) (I := I) (A := A) (img := orA (zipF B (comp1 I A B).1 f) (inpA I)) (l := l) (s := (comp1 I A B).2) (by omega) d1.2.1 ok (fun v _ => hi v) le
  exact ⟨⟨hi, d1.2.1⟩, d2.2.1, d2.2.2.1, d2.2.2.2.2⟩
theorem comp_bd {I : List Int} {A : List Pr} {l : List Int} {B : List Pr} : (composeR I A l B).2.1.length ≤ l.length ∧ In64 (composeR I A l B).2.1 := by
  unfold composeR
  cases hf : putsA (1 + I.length + A.length) B with
  | none => exact ⟨Nat.zero_le _, fun y hy => absurd hy (by simp [errR])⟩
  | some f =>
    simp only
    split
    · exact ⟨Nat.zero_le _, fun y hy => absurd hy (by simp [errR])⟩
    · rename_i hl
      have hl : hasA I A l = true := by simpa using hl
      split
      · exact ⟨Nat.zero_le _, fun y hy => absurd hy (by simp [errR])⟩
      · split
        · exact ⟨Nat.zero_le _, fun y hy => absurd hy (by simp [errR])⟩
        · obtain ⟨_, d1, d2, d3⟩ := comp_made hf hl
          refine ⟨Nat.le_of_eq d3, fun y hy => ?_⟩
          have h5 := isE_true.1 (d2 y hy)
          have h6 := d1.room
          omega
theorem join_bd {I : List Int} {A : List Pr} {x J : List Int} {B : List Pr} {y : List Int} : ((gjoinR I A x J B y).2.1.length ≤ x.length ∧ In64 (gjoinR I A x J B y).2.1) ∧ (gjoinR I A x J B y).2.2.1.length ≤ y.length ∧ In64 (gjoinR I A x J B y).2.2.1 := by
  by_cases h : hasA I A x = true ∧ hasA J B y = true
  · obtain ⟨hx, hy⟩ := h
    obtain ⟨m1, ok1, l1⟩ := hasA_parts hx
    obtain ⟨m2, ok2, l2⟩ := hasA_parts hy
    obtain ⟨hU1, hU2⟩ := union_ins (mayA_parts m1).2.1 (mayA_parts m2).2.1
    have d1 := copyA_made (k := 1 + (unionL I J).length) (I := I) (A := A) (img := inpA (unionL I J)) (l := x) (s := ([], false)) (by omega) ⟨rfl, by simp; omega⟩ ok1 (fun v _ => by have := inpA_isE (unionL I J) v; simpa using this) l1
    have d2 := copyA_made (k := 1 + (unionL I J).length) (I := J) (A := B) (img := inpA (unionL I J)) (l := y) (s := (gjoin1 I A x J).2) (by omega) d1.2.1 ok2 (fun v _ => isE_mono (inpA_isE (unionL I J) v) (by omega)) l2
    unfold gjoinR
    rw [if_pos ⟨hx, hy⟩]
    split
    · exact ⟨⟨Nat.zero_le _, fun y hy => absurd hy (by simp [errJ])⟩, Nat.zero_le _, fun y hy => absurd hy (by simp [errJ])⟩
    · refine ⟨⟨Nat.le_of_eq d1.2.2.2.2, fun z hz => ?_⟩, Nat.le_of_eq d2.2.2.2.2, fun z hz => ?_⟩
      · have h5 := isE_true.1 (d1.2.2.1 z hz)
        have h6 := d1.2.1.room
        omega
      · have h5 := isE_true.1 (d2.2.2.1 z hz)
        have h6 := d2.2.1.room
        omega
  · unfold gjoinR
    rw [if_neg h]
    exact ⟨⟨Nat.zero_le _, fun y hy => absurd hy (by simp [errJ])⟩, Nat.zero_le _, fun y hy => absurd hy (by simp [errJ])⟩
end Go.Proofs.YtppglbffmgnooaaGreat
