/- Joined texts: CxPFin. -/
import Derived.Test.YticcikelapifaaaK39
import Derived.Test.YticcikelapifaaaK27
import Derived.Test.YticcikelapifaaaK18
import Derived.Test.YticcikelapifaaaK14
/- The reference's simple: its meanings at each gate, and its end. (Pure.) -/
namespace Go.Proofs.Yticcikelapifaaa
open Go.RowKit
set_option linter.unusedVariables false
set_option linter.unusedSimpArgs false

theorem namedL_split : ∀ (xs ys : List Gt) (S R : List Int) (t : Nat), namedL S t (xs ++ ys) = some R → ∃ M, namedL S t xs = some M ∧ namedL M (t + sizeG xs) ys = some R
  | [], ys, S, R, t, h => ⟨S, rfl, by simpa [sizeG] using h⟩
  | g :: xs, ys, S, R, t, h => by
    rw [List.cons_append] at h
    unfold namedL at h
    by_cases hg : gOk S t g = true
    · rw [if_pos hg] at h
      obtain ⟨M, h1, h2⟩ := namedL_split xs ys _ _ _ h
      refine ⟨M, by unfold namedL; rw [if_pos hg]; exact h1, ?_⟩
      have e : t + sizeG (g :: xs) = t + g.2.2.length + sizeG xs := by simp [sizeG]; omega
      rw [e]; exact h2
    · rw [if_neg hg] at h; cases h
theorem varC_in {x : Int} (h : 1 ≤ varC x ∧ varC x ≤ 65536) : (-65536 ≤ x ∧ x ≤ 65536) ∧ varC x = if x < 0 then -x else x := by
  unfold varC at h ⊢
  by_cases h1 : x < 0
  · rw [if_pos h1] at h
    by_cases h2 : x = -9223372036854775808
    · rw [if_pos h2] at h; omega
    · rw [if_neg h2] at h
      rw [if_pos h1, if_neg h2, if_pos h1]
      omega
  · rw [if_neg h1] at h
    rw [if_neg h1, if_neg h1]
    omega
theorem phi_bd {x : Int} (h : -65537 ≤ x ∧ x ≤ 65537) : -1000000 ≤ phi x ∧ phi x ≤ 1000000 := by unfold phi; split <;> (try split) <;> omega
/-- What is known of a literal's meaning. -/
def LitOk (m : Int → Int) (x : Int) : Prop := (-65536 ≤ x ∧ x ≤ 65536) ∧ (-1000000 ≤ m (if x < 0 then -x else x) ∧ m (if x < 0 then -x else x) ≤ 1000000) ∧ (-1000000 ≤ meantF m x ∧ meantF m x ≤ 1000000) ∧ meantF m x ≠ 0
theorem agree_lit {S : List Int} {f : Int → Option Int} {m : Int → Int} (h : Agree S f m) (hS : ∀ y ∈ S, 1 ≤ y ∧ y ≤ 65536) {x : Int} (hx : varC x ∈ S) : LitOk m x := by
  have hv := varC_in (hS _ hx)
  have h1 := h _ hx
  have h2 := image_meant h hS hx
  refine ⟨hv.1, ?_, ?_, ?_⟩
  · rw [← hv.2, h1.1]; exact phi_bd h1.2.1
  · rw [h2.1]; exact phi_bd h2.2.1
  · rw [h2.1]; exact fun e => h2.2.2 (phi_zero.1 e)
/-- The meanings some gates in. -/
def refM (S a : List Int) (gs : List Gt) (k : Nat) : RefS := (gs.take k).foldl refStep (fixR S a, [])
theorem refM_zero (S a : List Int) (gs : List Gt) : refM S a gs 0 = (fixR S a, []) := by unfold refM; rw [List.take_zero]; rfl
theorem refM_succ {S a : List Int} {gs : List Gt} {k : Nat} (hk : k < gs.length) : refM S a gs (k + 1) = refStep (refM S a gs k) (gs.getD k dG) := by unfold refM; rw [gates_take hk, List.foldl_append]; rfl
theorem ref_at {S R a : List Int} {gs : List Gt} (hS : ∀ y ∈ S, 1 ≤ y ∧ y ≤ 65536) (ha : ∀ x ∈ a, varC x ∈ S) (hn : namedL S 0 gs = some R) {k : Nat} (hk : k < gs.length) :
    (1 ≤ (gs.getD k dG).1 ∧ (gs.getD k dG).1 ≤ 65536) ∧ fitsB (gs.getD k dG).2.1 (gs.getD k dG).2.2.length = true ∧ (gs.getD k dG).2.2.length ≤ 200000 ∧ ∀ x ∈ (gs.getD k dG).2.2, LitOk (refM S a gs k).1 x := by
  have e : gs = gs.take k ++ gs.getD k dG :: gs.drop (k + 1) := by
    rw [← gates_drop hk, List.take_append_drop]
  rw [e] at hn
  obtain ⟨M, h1, h2⟩ := namedL_split _ _ _ _ _ hn
  have hM := (namedL_gates _ _ _ M h1 hS).2
  obtain ⟨_, h3⟩ := ref_all hS ha h1
  unfold namedL at h2
  by_cases hg : gOk M (0 + sizeG (gs.take k)) (gs.getD k dG) = true
  · unfold gOk at hg
    simp only [Bool.and_eq_true, decide_eq_true_eq] at hg
    obtain ⟨h4, h5, h6, h7⟩ := hg
    rw [ent_iff] at h7
    exact ⟨⟨h7.1, h7.2.1⟩, h5, by omega, fun x hx => agree_lit h3 hM (by have := List.all_eq_true.1 h6 x hx; simpa using this)⟩
  · rw [if_neg hg] at h2; cases h2
theorem reach_is {st : List Gt} {y : Int} (hy : 1 ≤ varC y ∧ varC y ≤ 65536) (hl : ∀ g ∈ st, ∀ z ∈ g.2.2, 1 ≤ varC z ∧ varC z ≤ 65536) (i : Int) : reachM st (fun j => decide (j = abs5 y)) i = decide (i ∈ reachL st y) := by
  rw [Bool.eq_iff_iff, reach_same (S := tellL [] y) (fun j => ?_) st hl, reachL_R]
  · simp
  · rw [tell_mem hy, abs5_var (by omega)]
    simp
/-- All gates that stay are in range. -/
theorem ref_bd {P : List Blk} {gs : List Gt} {o : Int} {a : List Int} (h : mayN P gs o = true) (ha : ∀ x ∈ a, varC x ∈ flatB P) (hg : ∀ g ∈ gs, gBd g) (k : Nat) : ∀ g ∈ (refM (flatB P) a gs k).2, gBd g := by
  obtain ⟨R, hp, _, hn, ho, hP⟩ := mayN_named h
  have hR := (namedL_gates _ _ _ R hn hP).2
  have hor := (varC_in (hR _ ho)).1
  obtain ⟨_, hok, _⟩ := mayN_parts h hg (by omega) (by omega)
  rw [← List.take_append_drop k gs] at hn
  obtain ⟨M, h1, _⟩ := namedL_split _ _ _ _ _ hn
  have h2 := (ref_all hP ha h1).1
  unfold refM
  rw [h2]
  have h3 := (simRun_ok (Int.le_refl 65537) (fixM_bd (Int.le_refl 65537) a) (gs.take k) (fun g hg => hok g (List.mem_of_mem_take hg))).2
  intro g hg
  obtain ⟨g1, g2, g3, g4⟩ := h3 g hg
  unfold bdI at g1
  exact ⟨by omega, by omega, by omega, fun x hx => by have := g4 x hx; unfold bdI at this; omega⟩
/-- All that simple comes to. -/
theorem ref_end {P : List Blk} {gs : List Gt} {o : Int} {a : List Int} (h : mayN P gs o = true) (hfa : ascV a) (ha : ∀ x ∈ a, varC x ∈ flatB P) :
    ∃ y st, imageF (simRun (fixM a) gs).1 o = y ∧ (simRun (fixM a) gs).2 = st ∧ refM (flatB P) a gs gs.length = ((refM (flatB P) a gs gs.length).1, st) ∧ okM y ∧ LitOk (refM (flatB P) a gs gs.length).1 o ∧ meantF (refM (flatB P) a gs gs.length).1 o = phi y ∧ mayP (withoutP P (fixM a)) = true ∧
      (∀ g ∈ st, (1 ≤ g.1 ∧ g.1 ≤ 65536) ∧ fitsB g.2.1 g.2.2.length = true ∧ ∀ z ∈ g.2.2, 1 ≤ varC z ∧ varC z ≤ 65536) ∧
      (varC y ≠ 65537 → (1 ≤ varC y ∧ varC y ≤ 65536) ∧ ∀ i, reachM st (fun j => decide (j = abs5 y)) i = decide (i ∈ reachL st y)) := by
  obtain ⟨R, hp, _, hn, ho, hP⟩ := mayN_named h
  have hmp := mayP_without hp (fixM a)
  obtain ⟨t', HI⟩ := sim_run gs 0 (flatB P) R (fixM a) [] _ [] hn (sim_init hP hfa ha [])
  have hI := HI.lit ho
  have hsr : gs.foldl simStep (fixM a, []) = simRun (fixM a) gs := rfl
  rw [hsr] at HI hI
  obtain ⟨h1, h2⟩ := ref_all hP ha hn
  have hR := (namedL_gates _ _ _ R hn hP).2
  have hm : gs.foldl refStep (fixR (flatB P) a, []) = refM (flatB P) a gs gs.length := by unfold refM; rw [List.take_length]
  rw [hm] at h1 h2
  have hS0 : ∀ y ∈ flatB (withoutP P (fixM a)), 1 ≤ y ∧ y ≤ 65536 := (mayP_parts hmp).2.2.1
  have hl : ∀ g ∈ (simRun (fixM a) gs).2, ∀ z ∈ g.2.2, 1 ≤ varC z ∧ varC z ≤ 65536 := namedL_lits _ _ _ _ HI.named hS0
  have hfit := namedL_fits _ _ _ _ HI.named
  refine ⟨_, _, rfl, rfl, by rw [← h1], hI.1, agree_lit h2 hR ho, (image_meant h2 hR ho).1, hmp, fun g hg => ⟨?_, hfit g hg, hl g hg⟩, fun hc => ?_⟩
  · exact HI.vars _ (HI.sub _ (List.mem_append.2 (.inr (List.mem_map_of_mem (f := fun g : Gt => g.1) hg))))
  · have hyn := hI.2.1
    have hyv := HI.vars _ (HI.sub _ (hyn.resolve_left hc))
    exact ⟨hyv, fun i => reach_is hyv hl i⟩
/-- The least variable that is in no list. -/
theorem freeUp_least (S : List Int) : ∀ (m : Nat), (freeUp S m = [] → ∀ v : Int, 1 ≤ v → v ≤ m → v ∈ S) ∧ ∀ x r, freeUp S m = x :: r → ∀ v : Int, 1 ≤ v → v < x → v ∈ S
  | 0 => ⟨fun _ v h1 h2 => by omega, fun x r h => by simp [freeUp] at h⟩
  | m + 1 => by
    obtain ⟨h1, h2⟩ := freeUp_least S m
    rw [freeUp_succ]
    refine ⟨fun e v hv1 hv2 => ?_, fun x r e v hv1 hv2 => ?_⟩
    · obtain ⟨e1, e2⟩ := List.append_eq_nil_iff.1 e
      by_cases hm : v ≤ m
      · exact h1 e1 v hv1 hm
      · have : v = (m : Int) + 1 := by omega
        rw [this]
        by_cases h3 : (m : Int) + 1 ∈ S
        · exact h3
        · rw [if_neg h3] at e2; cases e2
    · cases hf : freeUp S m with
      | nil =>
        rw [hf, List.nil_append] at e
        by_cases h3 : (m : Int) + 1 ∈ S
        · rw [if_pos h3] at e; cases e
        · rw [if_neg h3] at e
          injection e with e
          exact h1 hf v hv1 (by omega)
      | cons y t =>
        rw [hf, List.cons_append] at e
        injection e with e
        exact h2 y t hf v hv1 (by omega)
theorem unused_least {S : List Int} {x : Int} (h : unusedL S 1 = [x]) : ∀ v : Int, 1 ≤ v → v < x → v ∈ S := by
  unfold unusedL at h
  cases hf : freeUp S 65536 with
  | nil => rw [hf] at h; cases h
  | cons y t =>
    rw [hf] at h
    simp at h
    subst h
    exact (freeUp_least S 65536).2 y t hf
theorem withoutP_congr {P : List Blk} {f g : Int → Option Int} (h : ∀ v ∈ flatB P, (f v).isNone = (g v).isNone) : withoutP P f = withoutP P g := by
  unfold withoutP
  congr 1
  unfold goneB
  refine List.map_congr_left fun b hb => ?_
  congr 1
  refine List.filter_congr fun v hv => h v ?_
  unfold flatB
  exact List.mem_flatten.2 ⟨b.2, List.mem_map_of_mem (f := fun b : Blk => b.2) hb, hv⟩
theorem fixM_none : ∀ (a : List Int) (f : Int → Option Int) (v : Int), ((a.foldl (fun f x => updM f (varC x) (if 0 < x then 65537 else -65537)) f) v).isNone = ((f v).isNone && !decide (v ∈ a.map varC))
  | [], f, v => by simp
  | x :: a, f, v => by
    rw [List.foldl_cons, fixM_none a]
    unfold updM
    by_cases e : v = varC x
    · rw [if_pos e]; simp [e]
    · rw [if_neg e]; simp [e]
/-- The prefix without the variables that an assignment fixes. -/
theorem out_fixed {P : List Blk} {a : List Int} (ha : ∀ x ∈ a, 0 ≤ varC x) : withoutP P (fun v => if decide (v ∈ a.map abs5) = true then some 0 else none) = withoutP P (fixM a) := by
  have e : a.map abs5 = a.map varC := List.map_congr_left fun x hx => abs5_var (ha x hx)
  refine withoutP_congr fun v _ => ?_
  unfold fixM
  rw [fixM_none, e]
  by_cases h : v ∈ a.map varC
  · simp [h]
  · simp [h]
end Go.Proofs.Yticcikelapifaaa
