/- The reference's words for unit propagation, and what a run is. -/
import Derived.Test.YtmhjpbhldaagmaaDoorMgU
import Derived.Test.YtmhjpbhldaagmaaDoorMgG
import Derived.Test.YtmhjpbhldaagmaaDoorMgD
namespace Go.Proofs.YtmhjpbhldaagmaaDoor
open Go.RowKit
set_option linter.unusedVariables false

theorem may_of_sorted {l : List Int} (hs : l.Pairwise litLt) (hl : ∀ x ∈ l, litB x = true) (hc : Cons l) : mayB l = true := by
  have go : ∀ (l : List Int) (p : Int), l.Pairwise litLt → (∀ x ∈ l, litB x = true) → Cons l → (∀ x ∈ l, p < varOf x) → mayFrom p l = true := by
    intro l
    induction l with
    | nil => intros; rfl
    | cons y r ih =>
      intro p hs hl hc hp
      obtain ⟨h1, h2⟩ := List.pairwise_cons.1 hs
      refine mayFrom_cons (hp y (by simp)) (ih _ h2 (fun x hx => hl x (by simp [hx])) (fun x hx hn => hc x (by simp [hx]) (by simp [hn])) fun z hz => ?_)
      have hy := absOf_var y (hl y (by simp))
      have hz' := absOf_var z (hl z (by simp [hz]))
      rcases h1 z hz with h | ⟨h, h'⟩
      · omega
      · have : z = -y := by unfold absOf at h; split at h <;> split at h <;> omega
        exact absurd (this ▸ List.mem_cons_of_mem y hz : -y ∈ y :: r) (hc y (by simp))
  exact go l 0 hs hl hc fun x hx => by
    have := litB_var x
    rw [hl x hx] at this
    have hb := varOf_bd x
    have hne : varOf x ≠ 0 := by simpa using this.symm
    omega
theorem may_cons {a : List Int} (h : mayB a = true) : Cons a := by
  intro x hx hn
  have h0 := mayFrom_once h x hx (-x) hn (varOf_neg' x).symm
  have := (litB_bd (mayB_mem h x hx)).1
  omega
theorem may_nodup {c : List Int} (h : mayB c = true) : c.Nodup := by
  have hs := may_sorted (Int.le_refl 0) h
  exact hs.imp fun {a b} hab e => by subst e; exact litLt_irrefl _ hab
theorem sortI_may {a : List Int} (h : mayB a = true) : sortI a = a := sorted_unique (sortI_sorted a) (may_sorted (Int.le_refl 0) h) (sortI_mem a)

/-- A new literal is joined. -/
theorem join_unit {a : List Int} {x : Int} (ha : mayB a = true) (hx : litB x = true) (h1 : x ∉ a) (h2 : -x ∉ a) : joinR a [x] = (insL a x, 0) ∧ mayB (insL a x) = true := by
  have hm : ∀ y, y ∈ insL a x ↔ y = x ∨ y ∈ a := insL_mem a x
  have hb := litB_bd hx
  have hmay : mayB (insL a x) = true := by
    refine may_of_sorted (insL_sorted (may_sorted (Int.le_refl 0) ha) x) (fun y hy => ?_) (fun y hy hn => ?_)
    · rcases (hm y).1 hy with rfl | h
      · exact hx
      · exact mayB_mem ha y h
    · rcases (hm y).1 hy with rfl | h
      · rcases (hm _).1 hn with h | h
        · omega
        · exact h2 h
      · rcases (hm _).1 hn with h3 | h3
        · exact h2 (by rw [← h3, Int.neg_neg]; exact h)
        · exact may_cons ha y h h3
  have h1x : mayB [x] = true := may_of_sorted (by simp) (by simpa using hx) (fun y hy hn => by simp at hy hn; omega)
  refine ⟨?_, hmay⟩
  unfold joinR
  rw [ha, h1x, Bool.and_self, if_pos rfl, sortI_may ha]
  show tautR (insL a x) = _
  exact tautR_yes hmay

theorem valL_norm {a c : List Int} (ha : mayB a = true) (hc : mayB c = true) {x : Int} (hx : x ∈ c) : valL a x = valN a x := by
  have := mayB_mem hc x hx
  rw [litB_var] at this
  unfold valL
  rw [if_pos ⟨ha, by simpa using this⟩]
theorem valN_zero (a : List Int) (x : Int) : valN a x = 0 ↔ x ∉ a ∧ -x ∉ a := by
  unfold valN
  by_cases h1 : x ∈ a
  · rw [if_pos h1]; simp [h1]
  · rw [if_neg h1]
    by_cases h2 : -x ∈ a
    · rw [if_pos h2]; simp [h2]
    · rw [if_neg h2]; simp [h1, h2]
theorem valN_one (a : List Int) (x : Int) : valN a x = 1 ↔ x ∈ a := by
  unfold valN
  by_cases h1 : x ∈ a
  · rw [if_pos h1]; simp [h1]
  · rw [if_neg h1]
    by_cases h2 : -x ∈ a
    · rw [if_pos h2]; simp [h1]
    · rw [if_neg h2]; simp [h1]
theorem restL_open {a c : List Int} (ha : mayB a = true) (hc : mayB c = true) : restL a c = openL a c := by
  unfold restL openL
  apply List.filter_congr
  intro x hx
  unfold openB
  rw [valL_norm ha hc hx]
  rw [Bool.eq_iff_iff, beq_iff_eq, decide_eq_true_eq, valN_zero]
theorem judge_true {a c : List Int} (ha : mayB a = true) (hc : mayB c = true) : judgeL 1 2 a c = 1 ↔ ∃ x ∈ c, x ∈ a := by
  unfold judgeL
  rw [ha, hc, Bool.and_self, if_pos rfl]
  have e : anyV a c 1 = true ↔ ∃ x ∈ c, x ∈ a := by
    unfold anyV
    rw [List.any_eq_true]
    constructor
    · rintro ⟨x, hx, h⟩; exact ⟨x, hx, (valN_one a x).1 (by rw [← valL_norm ha hc hx]; simpa using h)⟩
    · rintro ⟨x, hx, h⟩; exact ⟨x, hx, by rw [valL_norm ha hc hx, (valN_one a x).2 h]; rfl⟩
  by_cases h : anyV a c 1 = true
  · rw [if_pos h]; exact ⟨fun _ => e.1 h, fun _ => rfl⟩
  · rw [if_neg h]
    constructor
    · intro h'; split at h' <;> omega
    · intro h'; exact absurd (e.2 h') h
def decB (a c : List Int) : Bool := (judgeL 1 2 a c != 1) && decide ((restL a c).length ≤ 1)
theorem decB_iff {a c : List Int} (ha : mayB a = true) (hc : mayB c = true) : decB a c = true ↔ decC a c := by
  unfold decB decC
  rw [Bool.and_eq_true, restL_open ha hc, decide_eq_true_eq, bne_iff_ne, ne_eq, judge_true ha hc]
  constructor
  · rintro ⟨h1, h2⟩; exact ⟨fun x hx hn => h1 ⟨x, hx, hn⟩, h2⟩
  · rintro ⟨h1, h2⟩; exact ⟨fun ⟨x, hx, hn⟩ => h1 x hx hn, h2⟩

/-- How many clauses are not true. -/
def untrue (H : List Int) (f : List (List Int)) : Nat := f.countP (fun c => decide (∀ x ∈ c, x ∉ H))
theorem untrue_le (H : List Int) (f : List (List Int)) : untrue H f ≤ f.length := List.countP_le_length
theorem untrue_same {H K : List Int} (f : List (List Int)) (h : ∀ x, x ∈ H ↔ x ∈ K) : untrue H f = untrue K f := by
  unfold untrue
  congr 1
  funext c
  rw [decide_eq_decide]
  constructor <;> intro g x hx
  · rw [← h]; exact g x hx
  · rw [h]; exact g x hx
theorem countP_less {α : Type} {p q : α → Bool} {l : List α} (h : ∀ x, q x = true → p x = true) {y : α} (hy : y ∈ l) (hp : p y = true) (hq : q y = false) : l.countP q < l.countP p := by
  induction l with
  | nil => cases hy
  | cons z r ih =>
    rw [List.countP_cons, List.countP_cons]
    have hle : r.countP q ≤ r.countP p := List.countP_mono_left fun x _ hx => h x hx
    rcases List.mem_cons.1 hy with rfl | hy
    · rw [hp, hq]; simp; omega
    · have := ih hy
      by_cases hz : q z = true
      · rw [hz, h z hz]; simp; omega
      · have hz' : q z = false := by simpa using hz
        rw [hz']; simp only [Bool.false_eq_true, if_false]; omega
theorem untrue_step {H : List Int} {f : List (List Int)} {i : Nat} {x : Int} (h : firstC f H i) (ho : openL H (f.getD i []) = [x]) : untrue (x :: H) f < untrue H f := by
  have hx : x ∈ f.getD i [] := (mem_openL.1 (by rw [ho]; simp : x ∈ openL H (f.getD i []))).1
  refine countP_less (y := f.getD i []) (fun c hc => ?_) (by simp [List.getD, h.1]) (by simpa using h.2.1.1) ?_
  · rw [decide_eq_true_eq] at hc ⊢
    exact fun y hy hn => hc y hy (List.mem_cons_of_mem _ hn)
  · rw [decide_eq_false_iff_not]
    exact fun hc => hc x hx (by simp)
theorem open_one {H : List Int} {c : List Int} (hd : decC H c) : openL H c = [] ∨ ∃ x, openL H c = [x] := by
  have := hd.2
  match h : openL H c, this with
  | [], _ => exact Or.inl rfl
  | [x], _ => exact Or.inr ⟨x, rfl⟩

end Go.Proofs.YtmhjpbhldaagmaaDoor
