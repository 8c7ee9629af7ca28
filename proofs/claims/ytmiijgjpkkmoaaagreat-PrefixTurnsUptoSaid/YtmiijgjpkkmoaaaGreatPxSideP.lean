/- Two variables of a valid prefix: which of them is in On of the other one. -/
import Derived.Test.YtmiijgjpkkmoaaaGreatPxRedP
import Derived.Test.YtmiijgjpkkmoaaaGreatMpI
namespace Go.Proofs.YtmiijgjpkkmoaaaGreat
open Go.RowKit
set_option linter.unusedVariables false

theorem mayP_nodup {p : List Blk} (hm : mayP p = true) : (flatB p).Nodup := by
  unfold mayP at hm
  rw [decide_eq_true_eq] at hm
  exact hm.2.1
theorem block_once {p : List Blk} (hm : mayP p = true) {i j : Nat} (hi : i < p.length) (hj : j < p.length) {x : Int} (h1 : x ∈ (p.getD i dB).2) (h2 : x ∈ (p.getD j dB).2) : i = j := by
  have h := mayP_nodup hm
  unfold flatB List.Nodup at h
  rw [List.pairwise_flatten] at h
  have h3 := List.pairwise_iff_getElem.1 h.2
  have e : ∀ k (hk : k < p.length), (p.getD k dB).2 = (p.map (fun x => x.2))[k]'(by simpa using hk) := fun k hk => by simp [List.getD, hk]
  rw [e i hi] at h1
  rw [e j hj] at h2
  rcases Nat.lt_trichotomy i j with h4 | h4 | h4
  · exact absurd rfl (h3 i j (by simpa using hi) (by simpa using hj) h4 x h1 x h2)
  · exact h4
  · exact absurd rfl (h3 j i (by simpa using hj) (by simpa using hi) h4 x h2 x h1)
theorem mem_otherL {p : List Blk} {e : Bool} {A : Nat} (hA : A ≤ p.length) {x : Int} : x ∈ otherL e (p.take A) ↔ ∃ i, i < A ∧ (p.getD i dB).1 ≠ e ∧ x ∈ (p.getD i dB).2 := by
  unfold otherL flatB
  constructor
  · intro h
    obtain ⟨l, hl, hx⟩ := List.mem_flatten.1 h
    obtain ⟨b, hb, rfl⟩ := List.mem_map.1 hl
    obtain ⟨hb1, hb2⟩ := List.mem_filter.1 hb
    obtain ⟨i, hi, rfl⟩ := List.mem_iff_getElem.1 hb1
    have hi' : i < A := by have := hi; simp at this; omega
    have hg : p.getD i dB = (p.take A)[i] := by simp [List.getD, show i < p.length by omega]
    exact ⟨i, hi', by rw [hg]; simpa using hb2, by rw [hg]; exact hx⟩
  · rintro ⟨i, hi, h1, h2⟩
    refine List.mem_flatten.2 ⟨(p.getD i dB).2, List.mem_map.2 ⟨p.getD i dB, List.mem_filter.2 ⟨?_, by simpa using h1⟩, rfl⟩, h2⟩
    have hg : p.getD i dB = (p.take A)[i]'(by simp; omega) := by simp [List.getD, show i < p.length by omega]
    rw [hg]
    exact List.getElem_mem _

/-- What the law asks of two variables. -/
structure SideFact (p : List Blk) (a b : Int) (s t β γ : Bool) (A B : Nat) (xs ys : List Int) : Prop where
  fa : findL p a = (A, s, true)
  fb : findL p b = (B, t, true)
  oa : onL p a = (xs, 0)
  ob : onL p b = (ys, 0)
  ha : memB xs b = β
  hb : memB ys a = γ
  lx : xs.length ≤ 1024
  ly : ys.length ≤ 1024
  ix : ∀ v ∈ xs, 1 ≤ v ∧ v ≤ 65536
  iy : ∀ v ∈ ys, 1 ≤ v ∧ v ≤ 65536
  eq : s = t → β = false ∧ γ = false
  ne : s ≠ t → (β = true ∧ γ = false) ∨ (β = false ∧ γ = true)
  lA : A ≤ p.length
  lB : B ≤ p.length

theorem otherL_sub {p : List Blk} {e : Bool} {A : Nat} {x : Int} (hA : A ≤ p.length) (h : x ∈ otherL e (p.take A)) : x ∈ flatB p := by
  obtain ⟨i, hi, _, hx⟩ := (mem_otherL hA).1 h
  have : p.getD i dB ∈ p := by
    have hg : p.getD i dB = p[i]'(by omega) := by simp [List.getD, show i < p.length by omega]
    rw [hg]; exact List.getElem_mem _
  exact mem_flatB this hx
theorem sides_fact {p : List Blk} (hm : mayP p = true) {a b : Int} (ha : a ∈ flatB p) (hb : b ∈ flatB p) : ∃ s t β γ A B xs ys, SideFact p a b s t β γ A B xs ys := by
  obtain ⟨A, hA, fa, a2⟩ := findL_some ha
  obtain ⟨B, hB, fb, b2⟩ := findL_some hb
  have hm' := hm
  unfold mayP at hm'
  rw [decide_eq_true_eq] at hm'
  have rng := hm'.2.2.1
  have len := hm'.2.2.2
  have oa : onL p a = (ascI (otherL (p.getD A dB).1 (p.take A)), 0) := by unfold onL; rw [if_pos hm, fa]; simp
  have ob : onL p b = (ascI (otherL (p.getD B dB).1 (p.take B)), 0) := by unfold onL; rw [if_pos hm, fb]; simp
  have ll : ∀ e K, (ascI (otherL e (p.take K))).length ≤ 1024 := by
    intro e K
    rw [ascI_len]
    have h1 := otherL_len e (p.take K)
    have h2 : (flatB (p.take K)).length ≤ (flatB p).length := by
      have : flatB p = flatB (p.take K) ++ flatB (p.drop K) := by rw [← flatB_app, List.take_append_drop]
      rw [this]; simp
    omega
  have m1 : b ∈ ascI (otherL (p.getD A dB).1 (p.take A)) ↔ B < A ∧ (p.getD B dB).1 ≠ (p.getD A dB).1 := by
    rw [ascI_mem, mem_otherL (Nat.le_of_lt hA)]
    constructor
    · rintro ⟨i, hi, h1, h2⟩
      have := block_once hm (show i < p.length by omega) hB h2 b2
      subst this
      exact ⟨hi, h1⟩
    · rintro ⟨h1, h2⟩; exact ⟨B, h1, h2, b2⟩
  have m2 : a ∈ ascI (otherL (p.getD B dB).1 (p.take B)) ↔ A < B ∧ (p.getD A dB).1 ≠ (p.getD B dB).1 := by
    rw [ascI_mem, mem_otherL (Nat.le_of_lt hB)]
    constructor
    · rintro ⟨i, hi, h1, h2⟩
      have := block_once hm (show i < p.length by omega) hA h2 a2
      subst this
      exact ⟨hi, h1⟩
    · rintro ⟨h1, h2⟩; exact ⟨A, h1, h2, a2⟩
  refine ⟨_, _, _, _, A, B, _, _, fa, fb, oa, ob, rfl, rfl, ll _ _, ll _ _, fun v hv => rng v (otherL_sub (Nat.le_of_lt hA) (ascI_mem.1 hv)), fun v hv => rng v (otherL_sub (Nat.le_of_lt hB) (ascI_mem.1 hv)), fun e => ?_, fun e => ?_, by omega, by omega⟩
  · unfold memB
    rw [decide_eq_false_iff_not, decide_eq_false_iff_not, m1, m2]
    exact ⟨fun h => h.2 e.symm, fun h => h.2 e⟩
  · have hne : A ≠ B := fun h => e (by rw [h])
    unfold memB
    rw [decide_eq_true_eq, decide_eq_false_iff_not, decide_eq_true_eq, decide_eq_false_iff_not, m1, m2]
    rcases Nat.lt_or_ge A B with h | h
    · exact .inr ⟨by omega, h, e⟩
    · exact .inl ⟨⟨by omega, fun h => e h.symm⟩, by omega⟩

/-- A valid prefix is joined already. -/
theorem joinL_may {p : List Blk} (hm : mayP p = true) : joinA p = (p, 0) := by
  have hm' := hm
  unfold mayP at hm'
  rw [decide_eq_true_eq] at hm'
  obtain ⟨hb, hn, hr, hl⟩ := hm'
  have hs : singleB (flatB p) = true := by unfold singleB; rw [decide_eq_true_eq]; exact ⟨hn, hr⟩
  have key : ∀ k, k ≤ p.length → joinL (p.take k) = p.take k := by
    intro k
    induction k with
    | zero => intro _; rfl
    | succ k ih =>
      intro hk
      have h1 := ih (by omega)
      rw [take_two (d := dB) (show k < p.length by omega), joinL_snoc, h1]
      obtain ⟨h2, h3⟩ := hb k (by omega)
      refine joinStep_new h2 (fun l hl2 => ?_)
      rcases Nat.eq_zero_or_pos k with h0 | h0
      · subst h0; simp at hl2
      · have e : (p.take k).getLast? = some (p.getD (k - 1) dB) := by
          rw [List.getLast?_eq_getElem?]
          simp [List.getD, show min k p.length - 1 = k - 1 by omega, show k - 1 < p.length by omega, show k - 1 < k by omega]
        rw [e] at hl2
        obtain rfl := Option.some.inj hl2
        exact fun h => h3 h0 h.symm
  have := key p.length (Nat.le_refl _)
  rw [List.take_length] at this
  unfold joinA
  rw [if_pos hs, if_pos hl, this]
end Go.Proofs.YtmiijgjpkkmoaaaGreat
