/- Joined texts: PureTwo, PureRes. -/
import Derived.Test.YtmhjpbhldaagmaaDoorMgC
import Derived.Test.YtmhjpbhldaagmaaDoorMgB
/- Joins and resolvents: the merge of the program and the insertions of the reference give the same. -/
namespace Go.Proofs.YtmhjpbhldaagmaaDoor
open Go.RowKit
set_option linter.unusedVariables false

theorem mayFrom_low {p : Int} {l : List Int} (h : mayFrom p l = true) : ∀ x ∈ l, p < varOf x := by
  induction l generalizing p with
  | nil => intro x hx; cases hx
  | cons y r ih =>
    simp only [mayFrom, Bool.and_eq_true, decide_eq_true_eq] at h
    intro x hx
    rcases List.mem_cons.1 hx with rfl | hx
    · exact h.1
    · have := ih h.2 x hx; omega
theorem mayFrom_weak {p q : Int} {l : List Int} (h : mayFrom p l = true) (hq : q ≤ p) : mayFrom q l = true := by
  cases l with
  | nil => rfl
  | cons y r =>
    simp only [mayFrom, Bool.and_eq_true, decide_eq_true_eq] at h ⊢
    exact ⟨by omega, h.2⟩
theorem mayFrom_tail {p x : Int} {r : List Int} (h : mayFrom p (x :: r) = true) : p < varOf x ∧ mayFrom (varOf x) r = true := by
  simpa [mayFrom] using h
theorem mayFrom_cons {p x : Int} {r : List Int} (h1 : p < varOf x) (h2 : mayFrom (varOf x) r = true) : mayFrom p (x :: r) = true := by
  simp [mayFrom, h1, h2]
/-- A variable is there once. -/
theorem mayFrom_once {p : Int} {l : List Int} (h : mayFrom p l = true) : ∀ x ∈ l, ∀ y ∈ l, varOf x = varOf y → x = y := by
  induction l generalizing p with
  | nil => intro x hx; cases hx
  | cons z r ih =>
    obtain ⟨h1, h2⟩ := mayFrom_tail h
    have hl := mayFrom_low h2
    intro x hx y hy e
    rcases List.mem_cons.1 hx with e1 | hx'
    · rcases List.mem_cons.1 hy with e2 | hy'
      · rw [e1, e2]
      · have := hl y hy'; rw [e1] at e; omega
    · rcases List.mem_cons.1 hy with e2 | hy'
      · have := hl x hx'; rw [e2] at e; omega
      · exact ih h2 x hx' y hy' e
theorem varOf_eq {x y : Int} (h : varOf x = varOf y) (hx : 0 < varOf x) : y = x ∨ y = -x := by
  unfold varOf at *
  split at h <;> split at hx <;> split at h <;> (try split at h) <;> (try split at hx) <;> omega
theorem varOf_neg' (x : Int) : varOf (-x) = varOf x := by
  unfold varOf
  repeat' split
  all_goals omega

theorem pp1 {A R B V : Prop} (h : A → V) : (A ∨ (R ∨ B) ∧ V) ↔ ((A ∨ R) ∨ B) ∧ V := by by_cases A <;> by_cases R <;> by_cases B <;> by_cases V <;> simp_all
theorem pp2 {A R B V : Prop} (h : A → V) : (A ∨ (R ∨ B) ∧ V) ↔ (R ∨ A ∨ B) ∧ V := by by_cases A <;> by_cases R <;> by_cases B <;> by_cases V <;> simp_all
theorem pp3 {A R B S V : Prop} (h : A → ¬ V) (h2 : B → ¬ V) : ((R ∨ S) ∧ V) ↔ ((A ∨ R) ∨ B ∨ S) ∧ V := by by_cases A <;> by_cases R <;> by_cases B <;> by_cases S <;> by_cases V <;> simp_all
theorem pp4 {A R S V : Prop} (h : A → V) : (A ∨ (R ∨ S) ∧ V) ↔ ((A ∨ R) ∨ A ∨ S) ∧ V := by by_cases A <;> by_cases R <;> by_cases S <;> by_cases V <;> simp_all

/-- The merge of two normal lists, in which a variable v is in both or in none. -/
theorem merge_spec {com : Int → Int → Int × Int} (v : Int) (n : Nat) : ∀ (a b : List Int) (p : Int), a.length + b.length ≤ n → 0 ≤ p → mayFrom p a = true → mayFrom p b = true →
    (∀ x ∈ a, ∀ y ∈ b, varOf x = varOf y → com x y = if varOf x = v then (0, 0) else com1 x y) → ((∃ x ∈ a, varOf x = v) ↔ ∃ y ∈ b, varOf y = v) →
    (∃ c, mergeL com a b = (c, 0) ∧ mayFrom p c = true ∧ ∀ x, x ∈ c ↔ (x ∈ a ∨ x ∈ b) ∧ varOf x ≠ v) ∨ (mergeL com a b = ([], 10) ∧ ∃ x ∈ a, -x ∈ b ∧ varOf x ≠ v) := by
  induction n with
  | zero =>
    intro a b p hn hp ha hb hcom hv
    have h1 : a = [] := List.eq_nil_of_length_eq_zero (by omega)
    have h2 : b = [] := List.eq_nil_of_length_eq_zero (by omega)
    subst h1 h2
    exact .inl ⟨[], by rw [mergeL], rfl, by simp⟩
  | succ n ih =>
    intro a b p hn hp ha hb hcom hv
    match a, b with
    | [], b =>
      refine .inl ⟨b, by rw [mergeL], hb, fun x => ⟨fun h => ⟨Or.inr h, fun e => ?_⟩, fun h => by simpa using h.1⟩⟩
      obtain ⟨y, hy, _⟩ := hv.2 ⟨x, h, e⟩
      cases hy
    | x :: r, [] =>
      refine .inl ⟨x :: r, by rw [mergeL], ha, fun z => ⟨fun h => ⟨Or.inl h, fun e => ?_⟩, fun h => by simpa using h.1⟩⟩
      obtain ⟨y, hy, _⟩ := hv.1 ⟨z, h, e⟩
      cases hy
    | x :: r, y :: s =>
      obtain ⟨ha1, ha2⟩ := mayFrom_tail ha
      obtain ⟨hb1, hb2⟩ := mayFrom_tail hb
      have la := mayFrom_low ha2
      have lb := mayFrom_low hb2
      simp only [List.length_cons] at hn
      by_cases h1 : varOf x < varOf y
      · have hxv : varOf x ≠ v := fun e => by
          obtain ⟨z, hz, e2⟩ := hv.1 ⟨x, by simp, e⟩
          rcases List.mem_cons.1 hz with rfl | hz
          · omega
          · have := lb z hz; omega
        have hv' : (∃ z ∈ r, varOf z = v) ↔ ∃ z ∈ y :: s, varOf z = v := by
          rw [← hv]
          constructor
          · rintro ⟨z, hz, e⟩; exact ⟨z, List.mem_cons_of_mem _ hz, e⟩
          · rintro ⟨z, hz, e⟩
            rcases List.mem_cons.1 hz with rfl | hz
            · exact absurd e hxv
            · exact ⟨z, hz, e⟩
        rw [mergeL_lt h1]
        rcases ih r (y :: s) (varOf x) (by simp only [List.length_cons]; omega) (varOf_bd x).1 ha2 (mayFrom_cons h1 hb2) (fun z hz => hcom z (List.mem_cons_of_mem _ hz)) hv' with ⟨c, e, hc, hm⟩ | ⟨e, z, hz, hz2, hz3⟩
        · refine .inl ⟨x :: c, by rw [e]; simp [consE], mayFrom_cons ha1 hc, fun z => ?_⟩
          rw [List.mem_cons, hm]
          exact (pp1 (fun h => by rw [h]; exact hxv)).trans (and_congr (or_congr List.mem_cons.symm Iff.rfl) Iff.rfl)
        · exact .inr ⟨by rw [e]; simp [consE], z, List.mem_cons_of_mem _ hz, hz2, hz3⟩
      · by_cases h2 : varOf y < varOf x
        · have hyv : varOf y ≠ v := fun e => by
            obtain ⟨z, hz, e2⟩ := hv.2 ⟨y, by simp, e⟩
            rcases List.mem_cons.1 hz with rfl | hz
            · omega
            · have := la z hz; omega
          have hv' : (∃ z ∈ x :: r, varOf z = v) ↔ ∃ z ∈ s, varOf z = v := by
            rw [hv]
            constructor
            · rintro ⟨z, hz, e⟩
              rcases List.mem_cons.1 hz with rfl | hz
              · exact absurd e hyv
              · exact ⟨z, hz, e⟩
            · rintro ⟨z, hz, e⟩; exact ⟨z, List.mem_cons_of_mem _ hz, e⟩
          rw [mergeL_gt h1 h2]
          rcases ih (x :: r) s (varOf y) (by simp only [List.length_cons]; omega) (varOf_bd y).1 (mayFrom_cons h2 ha2) hb2 (fun z hz u hu => hcom z hz u (List.mem_cons_of_mem _ hu)) hv' with ⟨c, e, hc, hm⟩ | ⟨e, z, hz, hz2, hz3⟩
          · refine .inl ⟨y :: c, by rw [e]; simp [consE], mayFrom_cons hb1 hc, fun z => ?_⟩
            rw [List.mem_cons, hm]
            exact (pp2 (fun h => by rw [h]; exact hyv)).trans (and_congr (or_congr Iff.rfl List.mem_cons.symm) Iff.rfl)
          · exact .inr ⟨by rw [e]; simp [consE], z, hz, List.mem_cons_of_mem _ hz2, hz3⟩
        · have he : varOf x = varOf y := by omega
          have hc0 := hcom x (by simp) y (by simp) he
          by_cases hxv : varOf x = v
          · rw [if_pos hxv] at hc0
            rw [mergeL_no h1 h2 (by rw [hc0]) (by rw [hc0])]
            have hv' : (∃ z ∈ r, varOf z = v) ↔ ∃ z ∈ s, varOf z = v := by
              constructor
              · rintro ⟨z, hz, e⟩; have := la z hz; omega
              · rintro ⟨z, hz, e⟩; have := lb z hz; omega
            rcases ih r s (varOf x) (by omega) (varOf_bd x).1 ha2 (by rw [he]; exact hb2) (fun z hz u hu => hcom z (List.mem_cons_of_mem _ hz) u (List.mem_cons_of_mem _ hu)) hv' with ⟨c, e, hc, hm⟩ | ⟨e, z, hz, hz2, hz3⟩
            · refine .inl ⟨c, e, mayFrom_weak hc (by omega), fun z => ?_⟩
              rw [hm]
              exact (pp3 (A := z = x) (B := z = y) (fun h => by rw [h]; exact fun k => k hxv) (fun h => by rw [h]; exact fun k => k (he ▸ hxv))).trans (and_congr (or_congr List.mem_cons.symm List.mem_cons.symm) Iff.rfl)
            · exact .inr ⟨e, z, List.mem_cons_of_mem _ hz, List.mem_cons_of_mem _ hz2, hz3⟩
          · rw [if_neg hxv] at hc0
            have hx0 : 0 < varOf x := by omega
            by_cases hxy : x = y
            · subst hxy
              have hc1 : com x x = (x, 0) := by rw [hc0]; simp [com1]
              have hxne : x ≠ 0 := by intro e; rw [e] at hx0; simp [varOf] at hx0
              rw [mergeL_one h1 h2 (by rw [hc1]) (by rw [hc1]; exact hxne), hc1]
              have hv' : (∃ z ∈ r, varOf z = v) ↔ ∃ z ∈ s, varOf z = v := by
                constructor
                · rintro ⟨z, hz, e⟩
                  obtain ⟨u, hu, e2⟩ := hv.1 ⟨z, List.mem_cons_of_mem _ hz, e⟩
                  rcases List.mem_cons.1 hu with rfl | hu
                  · exact absurd e2 hxv
                  · exact ⟨u, hu, e2⟩
                · rintro ⟨z, hz, e⟩
                  obtain ⟨u, hu, e2⟩ := hv.2 ⟨z, List.mem_cons_of_mem _ hz, e⟩
                  rcases List.mem_cons.1 hu with rfl | hu
                  · exact absurd e2 hxv
                  · exact ⟨u, hu, e2⟩
              rcases ih r s (varOf x) (by omega) (varOf_bd x).1 ha2 hb2 (fun z hz u hu => hcom z (List.mem_cons_of_mem _ hz) u (List.mem_cons_of_mem _ hu)) hv' with ⟨c, e, hc, hm⟩ | ⟨e, z, hz, hz2, hz3⟩
              · refine .inl ⟨x :: c, by rw [e]; simp [consE], mayFrom_cons ha1 hc, fun z => ?_⟩
                rw [List.mem_cons, hm]
                exact (pp4 (fun h => by rw [h]; exact hxv)).trans (and_congr (or_congr List.mem_cons.symm List.mem_cons.symm) Iff.rfl)
              · exact .inr ⟨by rw [e]; simp [consE], z, List.mem_cons_of_mem _ hz, List.mem_cons_of_mem _ hz2, hz3⟩
            · have hc1 : com x y = (0, 10) := by rw [hc0]; simp [com1, hxy]
              rw [mergeL_bad h1 h2 (by rw [hc1]; decide), hc1]
              refine .inr ⟨rfl, x, by simp, ?_, hxv⟩
              rcases varOf_eq he hx0 with h | h
              · exact absurd h.symm hxy
              · rw [← h]; simp

end Go.Proofs.YtmhjpbhldaagmaaDoor

/- Joins and resolvents are those of the reference. -/
namespace Go.Proofs.YtmhjpbhldaagmaaDoor
open Go.RowKit
set_option linter.unusedVariables false

theorem abs_var {x : Int} (h : 0 < varOf x) : absOf x = varOf x := by
  unfold varOf at *
  unfold absOf
  split at h <;> (try split at h) <;> (try split) <;> (try split) <;> omega
theorem may_sorted {p : Int} {l : List Int} (hp : 0 ≤ p) (h : mayFrom p l = true) : l.Pairwise litLt := by
  induction l generalizing p with
  | nil => exact List.Pairwise.nil
  | cons y r ih =>
    obtain ⟨h1, h2⟩ := mayFrom_tail h
    refine List.Pairwise.cons (fun z hz => ?_) (ih (varOf_bd y).1 h2)
    have h3 := mayFrom_low h2 z hz
    unfold litLt
    left
    rw [abs_var (by omega), abs_var (by omega)]
    exact h3
theorem tautR_yes {l : List Int} (h : mayB l = true) : tautR l = (l, 0) := by unfold tautR; rw [if_pos h]
theorem tautR_no {l : List Int} {x : Int} (h1 : x ∈ l) (h2 : -x ∈ l) (h3 : x ≠ 0) : tautR l = ([], 10) := by
  unfold tautR
  rw [if_neg]
  intro h
  have := mayFrom_once h x h1 (-x) h2 (varOf_neg' x).symm
  omega
theorem ins_mem (a b : List Int) (x : Int) : x ∈ b.foldl insL (sortI a) ↔ x ∈ a ∨ x ∈ b := by rw [foldl_insL_mem, sortI_mem]
theorem ins_sorted (a b : List Int) : (b.foldl insL (sortI a)).Pairwise litLt := foldl_insL_sorted b _ (sortI_sorted a)

theorem joinL_eq (a b : List Int) : joinL a b = joinR a b := by
  unfold joinL joinR
  by_cases h : (mayB a && mayB b) = true
  · rw [if_pos h, if_pos h]
    rw [Bool.and_eq_true] at h
    obtain ⟨ha, hb⟩ := h
    have la := mayFrom_low ha
    have lb := mayFrom_low hb
    rcases merge_spec (com := com1) 0 _ a b 0 (Nat.le_refl _) (Int.le_refl _) ha hb (fun x hx y hy e => by rw [if_neg (by have := la x hx; omega)]) ⟨fun ⟨x, hx, e⟩ => by have := la x hx; omega, fun ⟨x, hx, e⟩ => by have := lb x hx; omega⟩ with ⟨c, e, hc, hm⟩ | ⟨e, x, hx, hx2, hx3⟩
    · have hT : b.foldl insL (sortI a) = c := by
        refine sorted_unique (ins_sorted a b) (may_sorted (Int.le_refl _) hc) (fun x => ?_)
        rw [ins_mem, hm]
        exact ⟨fun h => ⟨h, fun e0 => by rcases h with h | h; (have := la x h; omega); (have := lb x h; omega)⟩, fun h => h.1⟩
      rw [e, hT, tautR_yes hc]
    · rw [e, tautR_no (x := x) ((ins_mem a b x).2 (.inl hx)) ((ins_mem a b _).2 (.inr hx2)) (by intro h; rw [h] at hx; have := la 0 hx; simp [varOf] at this)]
  · rw [if_neg h, if_neg h]

theorem may_filter {p : Int} {l : List Int} (q : Int → Bool) (h : mayFrom p l = true) : mayFrom p (l.filter q) = true := by
  induction l generalizing p with
  | nil => rfl
  | cons y r ih =>
    obtain ⟨h1, h2⟩ := mayFrom_tail h
    rw [List.filter_cons]
    split
    · exact mayFrom_cons h1 (ih h2)
    · exact mayFrom_weak (ih h2) (by omega)
theorem mem_without {l : List Int} (h : mayB l = true) (v x : Int) : x ∈ withoutL l v ↔ x ∈ l ∧ varOf x ≠ v := by
  unfold withoutL; rw [if_pos h, List.mem_filter]; unfold keepW; simp
theorem may_without (l : List Int) (v : Int) : mayB (withoutL l v) = true := by
  unfold withoutL
  by_cases h : mayB l = true
  · rw [if_pos h]; exact may_filter _ h
  · rw [if_neg h]; rfl

theorem resL_eq (a b : List Int) (v : Int) : resL a b v = resR a b v := by
  unfold resL resR
  by_cases h : (mayB a && mayB b) = true
  · rw [if_pos h, if_pos h]
    by_cases h0 : v ≤ 0 ∨ memB a v = false ∨ memB b (-v) = false
    · rw [if_pos h0, if_pos h0]
    · rw [if_neg h0, if_neg h0]
      rw [Bool.and_eq_true] at h
      obtain ⟨ha, hb⟩ := h
      have hv : 0 < v := by rcases Int.lt_or_le 0 v with k | k; exact k; exact absurd (.inl k) h0
      have hva : v ∈ a := by
        have : memB a v ≠ false := fun k => h0 (.inr (.inl k))
        simpa [memB] using this
      have hvb : -v ∈ b := by
        have : memB b (-v) ≠ false := fun k => h0 (.inr (.inr k))
        simpa [memB] using this
      have la := mayFrom_low ha
      have lb := mayFrom_low hb
      have hvv : varOf v = v := by have := la v hva; unfold varOf at *; split at this <;> (try split at this) <;> (try split) <;> (try split) <;> omega
      have hvn : varOf (-v) = v := by rw [varOf_neg', hvv]
      have ha' := may_without a v
      have hb' := may_without b v
      have hj : joinR (withoutL a v) (withoutL b v) = tautR ((withoutL b v).foldl insL (sortI (withoutL a v))) := by unfold joinR; rw [if_pos (by rw [ha', hb']; rfl)]
      rw [hj]
      rcases merge_spec (com := comR v) v _ a b 0 (Nat.le_refl _) (Int.le_refl _) ha hb (fun x hx y hy e => by
          unfold comR
          by_cases hxv : x = v
          · rw [if_pos hxv, hxv, if_pos hvv]
          · rw [if_neg hxv, if_neg]
            intro e2
            exact hxv (mayFrom_once ha x hx v hva (by rw [e2, hvv]))) ⟨fun _ => ⟨-v, hvb, hvn⟩, fun _ => ⟨v, hva, hvv⟩⟩ with ⟨c, e, hc, hm⟩ | ⟨e, x, hx, hx2, hx3⟩
      · have hT : (withoutL b v).foldl insL (sortI (withoutL a v)) = c := by
          refine sorted_unique (ins_sorted _ _) (may_sorted (Int.le_refl _) hc) (fun x => ?_)
          rw [ins_mem, hm, mem_without ha, mem_without hb]
          exact or_and_right.symm
        rw [e, hT, tautR_yes hc]
      · rw [e, tautR_no (x := x) ((ins_mem _ _ x).2 (.inl ((mem_without ha v x).2 ⟨hx, hx3⟩))) ((ins_mem _ _ _).2 (.inr ((mem_without hb v _).2 ⟨hx2, by rw [varOf_neg']; exact hx3⟩))) (by intro h; rw [h] at hx; have := la 0 hx; simp [varOf] at this)]
  · rw [if_neg h, if_neg h]

end Go.Proofs.YtmhjpbhldaagmaaDoor
