/- Joined texts: PxStabP, PxStabQ, PxStabD, PxStabW. -/
import Derived.Sort.Lot0
import Derived.Sort.Defs
import Derived.Test.YtmiijgjpkkmoaaaGreatPxStable
import Derived.Shelf.SlSortCmp.KitK
import Derived.Deep.LoopGhost
/- Pure: the exchanges, rotations and merges of slices.SortStableFunc, on arrays. -/
namespace Go.Proofs.YtmiijgjpkkmoaaaGreat
open Go.Sort
set_option linter.unusedVariables false
set_option linter.unusedSimpArgs false
section
variable {α : Type} [Inhabited α]

/-- [a, a+n) and [b, b+n) exchanged. -/
def SwR (d d' : Array α) (a b n : Nat) : Prop :=
  d'.size = d.size ∧ (∀ t, t < n → d'[a + t]! = d[b + t]!) ∧ (∀ t, t < n → d'[b + t]! = d[a + t]!) ∧ (∀ t, (t < a ∨ a + n ≤ t) → (t < b ∨ b + n ≤ t) → d'[t]! = d[t]!)
theorem SwR.zero (d : Array α) (a b : Nat) : SwR d d a b 0 := ⟨rfl, fun t h => absurd h (Nat.not_lt_zero _), fun t h => absurd h (Nat.not_lt_zero _), fun _ _ _ => rfl⟩
theorem SwR.step {d dk : Array α} {a b k n : Nat} (h : SwR d dk a b k) (hab : a + n ≤ b) (hk : k < n) (hb : b + n ≤ d.size) : SwR d (swp dk (a + k) (b + k)) a b (k + 1) := by
  obtain ⟨h0, h1, h2, h3⟩ := h
  have hl := swp_left dk (a + k) (b + k) (by omega) (by omega)
  have hr := swp_right dk (a + k) (b + k) (by omega)
  have ho := fun t h h' => swp_other dk (a + k) (b + k) t h h'
  refine ⟨by rw [size_swp]; exact h0, fun t ht => ?_, fun t ht => ?_, fun t ht ht' => ?_⟩
  · rcases Nat.lt_or_ge t k with h | h
    · rw [ho _ (by omega) (by omega)]; exact h1 t h
    · obtain rfl : t = k := by omega
      rw [hl]; exact h3 _ (by omega) (by omega)
  · rcases Nat.lt_or_ge t k with h | h
    · rw [ho _ (by omega) (by omega)]; exact h2 t h
    · obtain rfl : t = k := by omega
      rw [hr]; exact h3 _ (by omega) (by omega)
  · rw [ho _ (by omega) (by omega)]; exact h3 t (by omega) (by omega)

/-- [s, m) and [m, e) in the other order. -/
def RotP (d d' : Array α) (s m e : Nat) : Prop :=
  (∀ k, k < e - m → d'[s + k]! = d[m + k]!) ∧ (∀ k, k < m - s → d'[s + (e - m) + k]! = d[s + k]!) ∧ (∀ t, (t < s ∨ e ≤ t) → d'[t]! = d[t]!)
theorem RotP.more {d dk d' : Array α} {m i j : Nat} (h : SwR d dk (m - i) m j) (him : i ≤ m) (hij : j < i) (hr : RotP dk d' (m - (i - j)) m (m + j)) : RotP d d' (m - i) m (m + j) := by
  obtain ⟨h0, h1, h2, h3⟩ := h
  obtain ⟨r1, r2, r3⟩ := hr
  refine ⟨fun k hk => ?_, fun k hk => ?_, fun t ht => ?_⟩
  · rw [r3 _ (by omega)]; exact h1 k (by omega)
  · rcases Nat.lt_or_ge k j with h | h
    · have := r1 k (by omega)
      rw [show m - i + (m + j - m) + k = m - (i - j) + k by omega, this]
      exact h2 k h
    · have := r2 (k - j) (by omega)
      rw [show m - (i - j) + (m + j - m) + (k - j) = m - i + (m + j - m) + k by omega] at this
      rw [this, show m - (i - j) + (k - j) = m - i + k by omega]
      exact h3 _ (by omega) (by omega)
  · rw [r3 _ (by omega)]; exact h3 _ (by omega) (by omega)
theorem RotP.less {d dk d' : Array α} {m i j : Nat} (h : SwR d dk (m - i) (m + j - i) i) (him : i ≤ m) (hij : i < j) (hr : RotP dk d' (m - i) m (m + (j - i))) : RotP d d' (m - i) m (m + j) := by
  obtain ⟨h0, h1, h2, h3⟩ := h
  obtain ⟨r1, r2, r3⟩ := hr
  refine ⟨fun k hk => ?_, fun k hk => ?_, fun t ht => ?_⟩
  · rcases Nat.lt_or_ge k (j - i) with h | h
    · rw [r1 k (by omega)]; exact h3 _ (by omega) (by omega)
    · have := r2 (k - (j - i)) (by omega)
      rw [show m - i + (m + (j - i) - m) + (k - (j - i)) = m - i + k by omega] at this
      rw [this, h1 _ (by omega), show m + j - i + (k - (j - i)) = m + k by omega]
  · rw [r3 _ (by omega)]
    have := h2 k (by omega)
    rw [show m + j - i + k = m - i + (m + j - m) + k by omega] at this
    exact this
  · rw [r3 _ (by omega)]; exact h3 _ (by omega) (by omega)
theorem RotP.same {d d' : Array α} {m i : Nat} (h : SwR d d' (m - i) m i) (him : i ≤ m) : RotP d d' (m - i) m (m + i) := by
  obtain ⟨h0, h1, h2, h3⟩ := h
  refine ⟨fun k hk => h1 k (by omega), fun k hk => ?_, fun t ht => h3 t (by omega) (by omega)⟩
  rw [show m - i + (m + i - m) + k = m + k by omega]; exact h2 k (by omega)

/-! ### the merge -/
variable (lt : α → α → Bool) (R : α → α → Prop)
/-- Strictly ascending on [a, b). -/
def Asc (d : Array α) (a b : Nat) : Prop := ∀ i j, a ≤ i → i < j → j < b → R d[i]! d[j]!
/-- The test between what stands before and what stands behind tells the order. -/
def Crs (d : Array α) (a m m' b : Nat) : Prop := ∀ i j, a ≤ i → i < m → m' ≤ j → j < b → (lt d[j]! d[i]! = true → R d[j]! d[i]!) ∧ (lt d[j]! d[i]! = false → R d[i]! d[j]!)
def Mrg (d : Array α) (a m b : Nat) : Prop := Asc R d a m ∧ Asc R d m b ∧ Crs lt R d a m m b
variable {lt R} {d d' d1 d2 : Array α}

theorem Asc.congr {a b a' : Nat} (h : Asc R d a b) (he : ∀ k, k < b - a → d'[a' + k]! = d[a + k]!) : Asc R d' a' (a' + (b - a)) := by
  intro i j hi hij hj
  have e1 := he (i - a') (by omega)
  have e2 := he (j - a') (by omega)
  rw [show a' + (i - a') = i by omega] at e1
  rw [show a' + (j - a') = j by omega] at e2
  rw [e1, e2]
  exact h _ _ (by omega) (by omega) (by omega)
theorem Asc.sub {a b a' b' : Nat} (h : Asc R d a b) (ha : a ≤ a') (hb : b' ≤ b) : Asc R d a' b' := fun i j hi hij hj => h i j (by omega) hij (by omega)
theorem Asc.join {a m b : Nat} (h1 : Asc R d a m) (h2 : Asc R d m b) (hc : ∀ i j, a ≤ i → i < m → m ≤ j → j < b → R d[i]! d[j]!) : Asc R d a b := by
  intro i j hi hij hj
  rcases Nat.lt_or_ge j m with h | h
  · exact h1 i j hi hij h
  · rcases Nat.lt_or_ge i m with h' | h'
    · exact hc i j hi h' h hj
    · exact h2 i j h' hij hj
/-- What holds of each pair of two ranges holds when both are permuted. -/
theorem cross_perm {a b c e : Nat} {p : α → α → Prop} (h1 : PermIn a b d d1) (h2 : PermIn c e d1 d2) (hb : b ≤ c) (he : e ≤ d.size) (hce : c ≤ e) (h : ∀ i j, a ≤ i → i < b → c ≤ j → j < e → p d[i]! d[j]!) :
    ∀ i j, a ≤ i → i < b → c ≤ j → j < e → p d2[i]! d2[j]! := by
  have k1 : ∀ j, c ≤ j → j < e → ∀ i, a ≤ i → i < b → p d1[i]! d1[j]! := fun j hj hj' => by
    have := permIn_all d d1 a b (fun x => p x d[j]!) (by omega) h1 (fun i hi hi' => h i j hi hi' hj hj')
    intro i hi hi'
    rw [h1.2.1 j (by omega)]
    exact this i hi hi'
  intro i j hi hi' hj hj'
  have := permIn_all d1 d2 c e (fun x => p d1[i]! x) (by rw [h1.1]; omega) h2 (fun j hj hj' => k1 j hj hj' i hi hi')
  rw [h2.2.1 i (by omega)]
  exact this j hj hj'

/-- What the search tells of the place that it found. -/
structure Found (lt : α → α → Bool) (R : α → α → Prop) (d : Array α) (a m b mid start : Nat) : Prop where
  lo : a ≤ start
  hi : start ≤ m
  hi2 : start ≤ mid
  en : mid + m - start ≤ b
  left : start = a ∨ mid + m - start = b ∨ R d[start - 1]! d[mid + m - start]!
  right : start = m ∨ start = mid ∨ R d[mid + m - start - 1]! d[start]!
theorem found_halves {a m b mid start : Nat} (hT : ∀ x y z, R x y → R y z → R x z) (h : Mrg lt R d a m b) (hm : mid < b) (ha : a ≤ mid) (F : Found lt R d a m b mid start) (hr : RotP d d1 start m (mid + m - start)) :
    Asc R d1 a start ∧ Asc R d1 start mid ∧ Asc R d1 mid (mid + m - start) ∧ Asc R d1 (mid + m - start) b ∧ Crs lt R d1 a start start mid ∧ Crs lt R d1 mid (mid + m - start) (mid + m - start) b ∧
    (∀ i j, a ≤ i → i < mid → mid ≤ j → j < b → R d1[i]! d1[j]!) := by
  obtain ⟨hl, hrt, hc⟩ := h
  obtain ⟨r1, r2, r3⟩ := hr
  obtain ⟨f1, f2, f3, f4, f5, f6⟩ := F
  have e1 : ∀ i, i < start → d1[i]! = d[i]! := fun i hi => r3 i (by omega)
  have e2 : ∀ i, start ≤ i → i < mid → d1[i]! = d[m + (i - start)]! := fun i hi hi' => by
    have := r1 (i - start) (by omega)
    rw [show start + (i - start) = i by omega] at this
    exact this
  have e3 : ∀ i, mid ≤ i → i < mid + m - start → d1[i]! = d[start + (i - mid)]! := fun i hi hi' => by
    have := r2 (i - mid) (by omega)
    rw [show start + (mid + m - start - m) + (i - mid) = i by omega] at this
    exact this
  have e4 : ∀ i, mid + m - start ≤ i → d1[i]! = d[i]! := fun i hi => r3 i (by omega)
  refine ⟨fun i j hi hij hj => ?_, fun i j hi hij hj => ?_, fun i j hi hij hj => ?_, fun i j hi hij hj => ?_, fun i j hi hi' hj hj' => ?_, fun i j hi hi' hj hj' => ?_, fun i j hi hi' hj hj' => ?_⟩
  · rw [e1 i (by omega), e1 j hj]; exact hl i j hi hij (by omega)
  · rw [e2 i hi (by omega), e2 j (by omega) hj]; exact hrt _ _ (by omega) (by omega) (by omega)
  · rw [e3 i hi (by omega), e3 j (by omega) hj]; exact hl _ _ (by omega) (by omega) (by omega)
  · rw [e4 i hi, e4 j (by omega)]; exact hrt _ _ (by omega) (by omega) (by omega)
  · rw [e1 i hi', e2 j hj hj']; exact hc _ _ hi (by omega) (by omega) (by omega)
  · rw [e3 i hi hi', e4 j hj]; exact hc _ _ (by omega) (by omega) (by omega) (by omega)
  · -- the halves
    have leL : ∀ p q, a ≤ p → p ≤ q → q < m → p = q ∨ R d[p]! d[q]! := fun p q hp hpq hq => by
      rcases Nat.lt_or_ge p q with h | h
      · exact Or.inr (hl p q hp h hq)
      · exact Or.inl (by omega)
    have leR : ∀ p q, m ≤ p → p ≤ q → q < b → p = q ∨ R d[p]! d[q]! := fun p q hp hpq hq => by
      rcases Nat.lt_or_ge p q with h | h
      · exact Or.inr (hrt p q hp h hq)
      · exact Or.inl (by omega)
    rcases Nat.lt_or_ge i start with h | h
    · rw [e1 i h]
      rcases Nat.lt_or_ge j (mid + m - start) with h' | h'
      · rw [e3 j hj h']; exact hl _ _ hi (by omega) (by omega)
      · rw [e4 j h']
        rcases f5 with f | f | f
        · omega
        · omega
        · have k1 := leL i (start - 1) hi (by omega) (by omega)
          have k2 := leR (mid + m - start) j (by omega) h' hj'
          rcases k1 with k1 | k1
          · rw [k1]
            rcases k2 with k2 | k2
            · rw [← k2]; exact f
            · exact hT _ _ _ f k2
          · rcases k2 with k2 | k2
            · rw [← k2]; exact hT _ _ _ k1 f
            · exact hT _ _ _ k1 (hT _ _ _ f k2)
    · rw [e2 i h hi']
      rcases Nat.lt_or_ge j (mid + m - start) with h' | h'
      · rw [e3 j hj h']
        rcases f6 with f | f | f
        · omega
        · omega
        · have k1 := leR (m + (i - start)) (mid + m - start - 1) (by omega) (by omega) (by omega)
          have k2 := leL start (start + (j - mid)) (by omega) (by omega) (by omega)
          rcases k1 with k1 | k1
          · rw [k1]
            rcases k2 with k2 | k2
            · rw [← k2]; exact f
            · exact hT _ _ _ f k2
          · rcases k2 with k2 | k2
            · rw [← k2]; exact hT _ _ _ k1 f
            · exact hT _ _ _ k1 (hT _ _ _ f k2)
      · rw [e4 j h']; exact hrt _ _ (by omega) (by omega) (by omega)
/-- The halves, each put in order, are in order together. -/
theorem halves_done {a b mid : Nat} (h1 : PermIn a mid d d1) (h2 : PermIn mid b d1 d2) (hb : b ≤ d.size) (hm : mid ≤ b) (ha : a ≤ mid) (s1 : Asc R d1 a mid) (s2 : Asc R d2 mid b)
    (hc : ∀ i j, a ≤ i → i < mid → mid ≤ j → j < b → R d[i]! d[j]!) : PermIn a b d d2 ∧ Asc R d2 a b := by
  refine ⟨permIn_trans _ _ _ _ _ (permIn_mono _ _ _ _ _ _ (Nat.le_refl _) hm hb h1) (permIn_mono _ _ _ _ _ _ ha (Nat.le_refl _) (by rw [h1.1]; exact hb) h2), ?_⟩
  refine Asc.join (m := mid) (fun i j hi hij hj => ?_) s2 (cross_perm h1 h2 (Nat.le_refl _) hb hm hc)
  rw [h2.2.1 i (by omega), h2.2.1 j (by omega)]
  exact s1 i j hi hij hj

/-- The search of the merge, a state of it: what stands below start tells one way, what stands at r and above the other way. -/
def Srch (lt : α → α → Bool) (d : Array α) (n lo hi start r : Nat) : Prop :=
  lo ≤ start ∧ start ≤ r ∧ r ≤ hi ∧ (start = lo ∨ lt d[n - 1 - (start - 1)]! d[start - 1]! = false) ∧ (r = hi ∨ lt d[n - 1 - r]! d[r]! = true)
theorem Srch.found {a m b mid lo hi s : Nat} (h : Srch lt d (mid + m) lo hi s s) (hM : Mrg lt R d a m b) (ham : a < m) (hmb : m < b) (h1 : a < mid) (h2 : mid < b) (hmid : mid = (a + b) / 2)
    (hlo : (mid < m ∧ lo = mid + m - b ∧ hi = mid) ∨ (m ≤ mid ∧ lo = a ∧ hi = m)) : Found lt R d a m b mid s := by
  obtain ⟨q1, q2, q3, q4, q5⟩ := h
  have hs : a ≤ s ∧ s ≤ m ∧ s ≤ mid ∧ mid + m - s ≤ b := by omega
  refine ⟨hs.1, hs.2.1, hs.2.2.1, hs.2.2.2, ?_, ?_⟩
  · rcases q4 with q | q
    · rcases hlo with hlo | hlo
      · exact Or.inr (Or.inl (by omega))
      · exact Or.inl (by omega)
    · by_cases h0 : s = a
      · exact Or.inl h0
      by_cases h3 : mid + m - s = b
      · exact Or.inr (Or.inl h3)
      · refine Or.inr (Or.inr ?_)
        have := (hM.2.2 (s - 1) (mid + m - s) (by omega) (by omega) (by omega) (by omega)).2
        rw [show mid + m - 1 - (s - 1) = mid + m - s by omega] at q
        exact this q
  · rcases q5 with q | q
    · rcases hlo with hlo | hlo
      · exact Or.inr (Or.inl (by omega))
      · exact Or.inl (by omega)
    · by_cases h0 : s = m
      · exact Or.inl h0
      by_cases h3 : s = mid
      · exact Or.inr (Or.inl h3)
      · refine Or.inr (Or.inr ?_)
        have := (hM.2.2 s (mid + m - s - 1) (by omega) (by omega) (by omega) (by omega)).1
        rw [show mid + m - 1 - s = mid + m - s - 1 by omega] at q
        exact this q

/-! ### one element before, or behind -/
/-- d' is d with the element at a moved up to k. -/
def Ups (d d' : Array α) (a k : Nat) : Prop := (∀ t, a ≤ t → t < k → d'[t]! = d[t + 1]!) ∧ d'[k]! = d[a]! ∧ ∀ t, (t < a ∨ k < t) → d'[t]! = d[t]!
theorem Ups.zero (d : Array α) (a : Nat) : Ups d d a a := ⟨fun t h h' => by omega, rfl, fun _ _ => rfl⟩
theorem Ups.step {a k : Nat} (h : Ups d d1 a k) (hak : a ≤ k) (hk : k + 1 < d1.size) : Ups d (swp d1 k (k + 1)) a (k + 1) := by
  obtain ⟨h1, h2, h3⟩ := h
  refine ⟨fun t ht ht' => ?_, ?_, fun t ht => ?_⟩
  · rcases Nat.lt_or_ge t k with h | h
    · rw [swp_other _ _ _ _ (by omega) (by omega)]; exact h1 t ht h
    · obtain rfl : t = k := by omega
      rw [swp_left _ _ _ (by omega) (by omega)]; exact h3 _ (by omega)
  · rw [swp_right _ _ _ hk]; exact h2
  · rw [swp_other _ _ _ _ (by omega) (by omega)]; exact h3 t (by omega)
/-- d' is d with the element at m moved down to k. -/
def Downs (d d' : Array α) (m k : Nat) : Prop := (∀ t, k < t → t ≤ m → d'[t]! = d[t - 1]!) ∧ d'[k]! = d[m]! ∧ ∀ t, (t < k ∨ m < t) → d'[t]! = d[t]!
theorem Downs.zero (d : Array α) (m : Nat) : Downs d d m m := ⟨fun t h h' => by omega, rfl, fun _ _ => rfl⟩
theorem Downs.step {m k : Nat} (h : Downs d d1 m (k + 1)) (hk : k + 1 ≤ m) (hm : m < d1.size) : Downs d (swp d1 (k + 1) k) m k := by
  obtain ⟨h1, h2, h3⟩ := h
  refine ⟨fun t ht ht' => ?_, ?_, fun t ht => ?_⟩
  · rcases Nat.lt_or_ge (k + 1) t with h | h
    · rw [swp_other _ _ _ _ (by omega) (by omega)]; exact h1 t h ht'
    · obtain rfl : t = k + 1 := by omega
      rw [swp_left _ _ _ (by omega) (by omega)]
      rw [show k + 1 - 1 = k by omega]
      exact h3 _ (by omega)
  · rw [swp_right _ _ _ (by omega)]; exact h2
  · rw [swp_other _ _ _ _ (by omega) (by omega)]; exact h3 t (by omega)
/-- The search for the place of the first element: below i they stand before it, from j on behind it. -/
def SrU (lt : α → α → Bool) (d : Array α) (a b i j : Nat) : Prop := a < i ∧ i ≤ j ∧ j ≤ b ∧ (i = a + 1 ∨ lt d[i - 1]! d[a]! = true) ∧ (j = b ∨ lt d[j]! d[a]! = false)
theorem SrU.done {a b i : Nat} (hT : ∀ x y z, R x y → R y z → R x z) (h : SrU lt d a b i i) (hM : Mrg lt R d a (a + 1) b) (hu : Ups d d' a (i - 1)) : Asc R d' a b := by
  obtain ⟨q1, q2, q3, q4, q5⟩ := h
  obtain ⟨u1, u2, u3⟩ := hu
  obtain ⟨_, hr, hc⟩ := hM
  have below : ∀ t, a + 1 ≤ t → t < i → R d[t]! d[a]! := fun t ht ht' => by
    rcases q4 with q | q
    · omega
    · have h1 := (hc a (i - 1) (Nat.le_refl _) (by omega) (by omega) (by omega)).1 q
      rcases Nat.lt_or_ge t (i - 1) with h | h
      · exact hT _ _ _ (hr t (i - 1) ht h (by omega)) h1
      · obtain rfl : t = i - 1 := by omega
        exact h1
  have above : ∀ t, i ≤ t → t < b → R d[a]! d[t]! := fun t ht ht' => by
    rcases q5 with q | q
    · omega
    · have h1 := (hc a i (Nat.le_refl _) (by omega) (by omega) (by omega)).2 q
      rcases Nat.lt_or_ge i t with h | h
      · exact hT _ _ _ h1 (hr i t (by omega) h ht')
      · obtain rfl : t = i := by omega
        exact h1
  intro p q hp hpq hq
  rcases Nat.lt_trichotomy q (i - 1) with h | h | h
  · rw [u1 p hp (by omega), u1 q (by omega) h]; exact hr _ _ (by omega) (by omega) (by omega)
  · subst h
    rw [u2, u1 p hp (by omega)]; exact below _ (by omega) (by omega)
  · rw [u3 q (by omega)]
    rcases Nat.lt_trichotomy p (i - 1) with h' | h' | h'
    · rw [u1 p hp h']; exact hr _ _ (by omega) (by omega) hq
    · subst h'
      rw [u2]; exact above _ (by omega) hq
    · rw [u3 p (by omega)]; exact hr _ _ (by omega) (by omega) hq
def SrD (lt : α → α → Bool) (d : Array α) (a m i j : Nat) : Prop := a ≤ i ∧ i ≤ j ∧ j ≤ m ∧ (i = a ∨ lt d[m]! d[i - 1]! = false) ∧ (j = m ∨ lt d[m]! d[j]! = true)
theorem SrD.done {a m i : Nat} (hT : ∀ x y z, R x y → R y z → R x z) (h : SrD lt d a m i i) (hM : Mrg lt R d a m (m + 1)) (hu : Downs d d' m i) : Asc R d' a (m + 1) := by
  obtain ⟨q1, q2, q3, q4, q5⟩ := h
  obtain ⟨u1, u2, u3⟩ := hu
  obtain ⟨hl, _, hc⟩ := hM
  have below : ∀ t, a ≤ t → t < i → R d[t]! d[m]! := fun t ht ht' => by
    rcases q4 with q | q
    · omega
    · have h1 := (hc (i - 1) m (by omega) (by omega) (Nat.le_refl _) (by omega)).2 q
      rcases Nat.lt_or_ge t (i - 1) with h | h
      · exact hT _ _ _ (hl t (i - 1) ht h (by omega)) h1
      · obtain rfl : t = i - 1 := by omega
        exact h1
  have above : ∀ t, i ≤ t → t < m → R d[m]! d[t]! := fun t ht ht' => by
    rcases q5 with q | q
    · omega
    · have h1 := (hc i m (by omega) (by omega) (Nat.le_refl _) (by omega)).1 q
      rcases Nat.lt_or_ge i t with h | h
      · exact hT _ _ _ h1 (hl i t (by omega) h ht')
      · obtain rfl : t = i := by omega
        exact h1
  intro p q hp hpq hq
  rcases Nat.lt_trichotomy q i with h | h | h
  · rw [u3 p (by omega), u3 q (by omega)]; exact hl _ _ hp hpq (by omega)
  · subst h
    rw [u2, u3 p (by omega)]; exact below _ hp hpq
  · rw [u1 q h (by omega)]
    rcases Nat.lt_trichotomy p i with h' | h' | h'
    · rw [u3 p (by omega)]; exact hl _ _ hp (by omega) (by omega)
    · subst h'
      rw [u2]; exact above _ (by omega) (by omega)
    · rw [u1 p h' (by omega)]; exact hl _ _ (by omega) (by omega) (by omega)

/-! ### the insertion sort is stable -/
def InsR (lt : α → α → Bool) (R : α → α → Prop) (a j i : Nat) (d : Array α) : Prop :=
  (∀ p q, a ≤ p → p < q → q ≤ i → p ≠ j → q ≠ j → R d[p]! d[q]!) ∧ (∀ q, j < q → q ≤ i → R d[j]! d[q]!) ∧
  ∀ p, a ≤ p → p < j → (lt d[j]! d[p]! = true → R d[j]! d[p]!) ∧ (lt d[j]! d[p]! = false → R d[p]! d[j]!)
theorem insInner_asc (hT : ∀ x y z, R x y → R y z → R x z) (a i : Nat) : ∀ (j : Nat) (d : Array α), a ≤ j → j ≤ i → i < d.size → InsR lt R a j i d → Asc R (insInner lt a j d) a (i + 1) ∧ PermIn a (i + 1) d (insInner lt a j d) := by
  intro j
  induction j with
  | zero =>
    intro d haj hji hi ⟨h1, h2, h3⟩
    unfold insInner
    refine ⟨fun p q hp hpq hq => ?_, permIn_refl _ _ _⟩
    rcases Nat.eq_zero_or_pos p with h | h
    · subst h; exact h2 q (by omega) (by omega)
    · exact h1 p q hp hpq (by omega) (by omega) (by omega)
  | succ j ih =>
    intro d haj hji hi ⟨h1, h2, h3⟩
    unfold insInner
    by_cases hg : a < j + 1 ∧ lt d[j + 1]! d[j]! = true
    · have hc : (decide (a < j + 1) && lt d[j + 1]! d[j]!) = true := by simp [hg.1, hg.2]
      first
        | rw [if_pos hg]
        | rw [if_pos hc]
        | (simp only [hg.1, hg.2, and_self, if_true, decide_true, Bool.and_self, ↓reduceIte])
      have hl := swp_left d (j + 1) j (by omega) (by omega)
      have hr := swp_right d (j + 1) j (by omega)
      have ho := fun t h h' => swp_other d (j + 1) j t h h'
      have hps : PermIn a (i + 1) d (swp d (j + 1) j) := swp_permIn d a (i + 1) (j + 1) j (by omega) (by omega) (by omega) (by omega) (by omega)
      have := ih (swp d (j + 1) j) (by omega) (by omega) (by rw [size_swp]; exact hi) ⟨fun p q hp hpq hq hpj hqj => ?_, fun q hq hq' => ?_, fun p hp hp' => ?_⟩
      · exact ⟨this.1, permIn_trans _ _ _ _ _ hps this.2⟩
      · have e : ∀ t, t ≠ j → ∃ s, (swp d (j + 1) j)[t]! = d[s]! ∧ ((t = j + 1 ∧ s = j) ∨ (t ≠ j + 1 ∧ s = t)) := fun t ht => by
          by_cases h : t = j + 1
          · subst h; exact ⟨j, hl, Or.inl ⟨rfl, rfl⟩⟩
          · exact ⟨t, ho t h ht, Or.inr ⟨h, rfl⟩⟩
        obtain ⟨s, es, hs⟩ := e p hpj
        obtain ⟨s', es', hs'⟩ := e q hqj
        rw [es, es']
        exact h1 s s' (by omega) (by omega) (by omega) (by omega) (by omega)
      · rw [hr]
        by_cases h : q = j + 1
        · subst h; rw [hl]; exact (h3 j (by omega) (by omega)).1 hg.2
        · rw [ho q h (by omega)]; exact h2 q (by omega) hq'
      · rw [hr, ho p (by omega) (by omega)]; exact h3 p hp (by omega)
    · have hc : ¬ (decide (a < j + 1) && lt d[j + 1]! d[j]!) = true := by simpa using hg
      first
        | rw [if_neg hg]
        | rw [if_neg hc]
      refine ⟨fun p q hp hpq hq => ?_, permIn_refl _ _ _⟩
      by_cases hpj : p = j + 1
      · subst hpj; exact h2 q hpq (by omega)
      · by_cases hqj : q = j + 1
        · subst hqj
          have hlt : lt d[j + 1]! d[j]! = false := by
            by_cases h : lt d[j + 1]! d[j]! = true
            · exact absurd ⟨by omega, h⟩ hg
            · simpa using h
          have k := (h3 j (by omega) (by omega)).2 hlt
          rcases Nat.lt_or_ge p j with h | h
          · exact hT _ _ _ (h1 p j hp h (by omega) (by omega) (by omega)) k
          · obtain rfl : p = j := by omega
            exact k
        · exact h1 p q hp hpq (by omega) hpj hqj
theorem insOuter_asc (hT : ∀ x y z, R x y → R y z → R x z) (a b : Nat) : ∀ (n i : Nat) (d : Array α), b - i = n → a < i → b ≤ d.size → Asc R d a i →
    (∀ p q, a ≤ p → p < q → i ≤ q → q < b → (lt d[q]! d[p]! = true → R d[q]! d[p]!) ∧ (lt d[q]! d[p]! = false → R d[p]! d[q]!)) →
    Asc R (insOuter lt a b i d) a b ∧ PermIn a b d (insOuter lt a b i d) := by
  intro n
  induction n with
  | zero =>
    intro i d hn hai hb hA hC
    rw [insOuter, if_neg (by omega)]
    exact ⟨hA.sub (Nat.le_refl _) (by omega), permIn_refl _ _ _⟩
  | succ n ih =>
    intro i d hn hai hb hA hC
    rw [insOuter, if_pos (by omega)]
    have h1 := insInner_asc hT a i i d (by omega) (Nat.le_refl _) (by omega) ⟨fun p q hp hpq hq hpi hqi => hA p q hp hpq (by omega), fun q hq hq' => by omega, fun p hp hp' => hC p i hp hp' (Nat.le_refl _) (by omega)⟩
    have hsz : b ≤ (insInner lt a i d).size := by rw [h1.2.1]; exact hb
    have := ih (i + 1) (insInner lt a i d) (by omega) (by omega) hsz h1.1 (fun p q hp hpq hq hq' => by
      have eq := h1.2.2.1 q (by omega)
      rw [eq]
      rcases Nat.lt_or_ge p (i + 1) with h | h
      · exact permIn_all d _ a (i + 1) (fun x => (lt d[q]! x = true → R d[q]! x) ∧ (lt d[q]! x = false → R x d[q]!)) (by omega) h1.2 (fun t ht ht' => hC t q ht (by omega) (by omega) hq') p hp h
      · rw [h1.2.2.1 p (by omega)]; exact hC p q hp hpq (by omega) hq')
    exact ⟨this.1, permIn_trans _ _ _ _ _ (permIn_mono _ _ _ _ _ _ (Nat.le_refl _) (by omega) hb h1.2) this.2⟩
theorem insertionSort_asc (hT : ∀ x y z, R x y → R y z → R x z) (d : Array α) (a b : Nat) (hb : b ≤ d.size)
    (hC : ∀ p q, a ≤ p → p < q → q < b → (lt d[q]! d[p]! = true → R d[q]! d[p]!) ∧ (lt d[q]! d[p]! = false → R d[p]! d[q]!)) :
    Asc R (insertionSort lt d a b) a b ∧ PermIn a b d (insertionSort lt d a b) :=
  insOuter_asc hT a b _ (a + 1) d rfl (Nat.lt_succ_self _) hb (fun i j hi hij hj => by omega) (fun p q hp hpq hq hq' => hC p q hp hpq hq')
end
end Go.Proofs.YtmiijgjpkkmoaaaGreat

/- Pure: the blocks of slices.SortStableFunc. -/
namespace Go.Proofs.YtmiijgjpkkmoaaaGreat
open Go.Sort
set_option linter.unusedVariables false
section
variable {α : Type} [Inhabited α] {lt : α → α → Bool} {R V : α → α → Prop} {d0 d1 d d' : Array α}

/-- What stands before a border of blocks comes before what stands behind it. -/
def SepB (V : α → α → Prop) (d : Array α) (n bs : Nat) : Prop := ∀ r i j, i < r * bs → r * bs ≤ j → j < n → V d[i]! d[j]!
/-- The blocks below a are in order. -/
def SortB (R : α → α → Prop) (d : Array α) (bs a : Nat) : Prop := ∀ r i j, r * bs ≤ i → i < j → j < (r + 1) * bs → j < a → R d[i]! d[j]!
theorem SepB.perm {n w a b : Nat} (h : SepB V d n w) (hp : PermIn a b d d') (hb : b ≤ d.size) (hn : b ≤ n) (ha : ∀ r, r * w ≤ a ∨ b ≤ r * w ∨ n ≤ r * w) : SepB V d' n w := by
  intro r i j hi hj hjn
  rcases ha r with h1 | h1 | h1
  · rw [hp.2.1 i (by omega)]
    by_cases hj' : a ≤ j ∧ j < b
    · exact permIn_all d d' a b (fun x => V d[i]! x) hb hp (fun t ht ht' => h r i t hi (by omega) (by omega)) j hj'.1 hj'.2
    · rw [hp.2.1 j (by omega)]; exact h r i j hi hj hjn
  · rw [hp.2.1 j (by omega)]
    by_cases hi' : a ≤ i ∧ i < b
    · exact permIn_all d d' a b (fun x => V x d[j]!) hb hp (fun t ht ht' => h r t j (by omega) hj hjn) i hi'.1 hi'.2
    · rw [hp.2.1 i (by omega)]; exact h r i j hi hj hjn
  · omega
theorem SepB.double {n w : Nat} (h : SepB V d n w) : SepB V d n (2 * w) := by
  intro r i j hi hj hjn
  have e : r * (2 * w) = (2 * r) * w := by rw [Nat.mul_comm 2 r, Nat.mul_assoc]
  rw [e] at hi hj
  exact h (2 * r) i j hi hj hjn
theorem borders (q w b n : Nat) (hb : b = (q + 1) * w ∨ (b = n ∧ n ≤ (q + 1) * w)) : ∀ r, r * w ≤ q * w ∨ b ≤ r * w ∨ n ≤ r * w := by
  intro r
  rcases Nat.lt_or_ge q r with h | h
  · have := Nat.mul_le_mul_right w (show q + 1 ≤ r from h)
    omega
  · exact Or.inl (Nat.mul_le_mul_right w h)
/-- One block more is in order. -/
theorem SortB.more {q w b a2 : Nat} (h : SortB R d w (q * w)) (hp : PermIn (q * w) b d d') (hs : Asc R d' (q * w) b) (hb : b = (q + 1) * w ∨ b = a2) (ha2 : a2 ≤ (q + 1) * w) (hb2 : a2 ≤ b) : SortB R d' w a2 := by
  intro r i j hi hij hj hja
  rcases Nat.lt_trichotomy r q with h1 | h1 | h1
  · have := Nat.mul_le_mul_right w (show r + 1 ≤ q from h1)
    rw [hp.2.1 i (by omega), hp.2.1 j (by omega)]
    exact h r i j hi hij hj (by omega)
  · subst h1; exact hs i j hi hij (by omega)
  · have := Nat.mul_le_mul_right w (show q + 1 ≤ r from h1)
    omega

/-! ### the first loop: blocks of 20 by insertion -/
structure InvA (R V : α → α → Prop) (d0 d : Array α) (q a : Nat) : Prop where
  ea : a = q * 20
  le : a ≤ d0.size
  old : ∀ t, a ≤ t → d[t]! = d0[t]!
  srt : SortB R d 20 a
  per : PermIn 0 d0.size d0 d
  sep : SepB V d d0.size 20
theorem InvA.start (hV : ∀ i j, i < j → j < d0.size → V d0[i]! d0[j]!) : InvA R V d0 d0 0 0 :=
  ⟨rfl, Nat.zero_le _, fun _ _ => rfl, fun r i j hi hij hj hja => by omega, permIn_refl _ _ _, fun r i j hi hj hjn => hV i j (by omega) hjn⟩
theorem InvA.ins {q a b : Nat} (hT : ∀ x y z, R x y → R y z → R x z) (hX : ∀ x y, V x y → (lt y x = true → R y x) ∧ (lt y x = false → R x y)) (hV : ∀ i j, i < j → j < d0.size → V d0[i]! d0[j]!)
    (h : InvA R V d0 d q a) (hab : a ≤ b) (hb : b ≤ d0.size) (hbq : b = (q + 1) * 20 ∨ (b = d0.size ∧ d0.size ≤ (q + 1) * 20)) :
    (b = (q + 1) * 20 → InvA R V d0 (insertionSort lt d a b) (q + 1) b) ∧ (b = d0.size → SortB R (insertionSort lt d a b) 20 d0.size) ∧ PermIn 0 d0.size d0 (insertionSort lt d a b) ∧ SepB V (insertionSort lt d a b) d0.size 20 := by
  have hsz : d.size = d0.size := h.per.1
  have k := insertionSort_asc (lt := lt) hT d a b (by omega) (fun p q hp hpq hq => by
    rw [h.old p hp, h.old q (by omega)]
    exact hX _ _ (hV p q hpq (by omega)))
  have kp := permIn_trans _ _ _ _ _ h.per (permIn_mono _ _ _ _ _ _ (Nat.zero_le _) hb (by omega) k.2)
  have ksep : SepB V (insertionSort lt d a b) d0.size 20 := h.sep.perm k.2 (by omega) hb (by rw [h.ea]; exact borders q 20 b _ hbq)
  have hh := h.srt
  have k2 := k.2
  have k1 := k.1
  have ea := h.ea
  refine ⟨fun e => ⟨e, hb, fun t ht => by rw [k.2.2.1 t (by omega)]; exact h.old t (by omega), ?_, kp, ksep⟩, fun e => ?_, kp, ksep⟩
  · rw [ea] at hh k1 k2 ⊢
    exact hh.more k2 k1 (Or.inl e) (by omega) (by omega)
  · rw [ea] at hh k1 k2 ⊢
    exact hh.more k2 k1 (Or.inr e) (by omega) (by omega)

/-! ### the second loop: blocks joined by twos -/
structure InvB (R V : α → α → Prop) (d0 d1 d : Array α) (bs q a : Nat) : Prop where
  ea : a = q * (2 * bs)
  le : a ≤ d0.size
  old : ∀ t, a ≤ t → d[t]! = d1[t]!
  srt1 : SortB R d1 bs d0.size
  sep1 : SepB V d1 d0.size bs
  srt : SortB R d (2 * bs) a
  per : PermIn 0 d0.size d0 d
  sep : SepB V d d0.size (2 * bs)
theorem InvB.start {bs : Nat} (h1 : SortB R d1 bs d0.size) (h2 : SepB V d1 d0.size bs) (hp : PermIn 0 d0.size d0 d1) : InvB R V d0 d1 d1 bs 0 0 :=
  ⟨by omega, Nat.zero_le _, fun _ _ => rfl, h1, h2, fun r i j hi hij hj hja => by omega, hp, h2.double⟩
theorem InvB.mrg {bs q a b : Nat} (hX : ∀ x y, V x y → (lt y x = true → R y x) ∧ (lt y x = false → R x y)) (h : InvB R V d0 d1 d bs q a) (hm : a + bs < b) (hb : b ≤ a + 2 * bs) (hn : b ≤ d0.size) : Mrg lt R d a (a + bs) b := by
  have e1 : (2 * q) * bs = a := by rw [h.ea, Nat.mul_comm 2 q, Nat.mul_assoc]
  have e2 : (2 * q + 1) * bs = a + bs := by rw [Nat.add_mul, e1]; omega
  have e3 : (2 * q + 1 + 1) * bs = a + 2 * bs := by rw [Nat.add_mul, e2]; omega
  refine ⟨fun i j hi hij hj => ?_, fun i j hi hij hj => ?_, fun i j hi hi' hj hj' => ?_⟩
  · rw [h.old i hi, h.old j (by omega)]
    exact h.srt1 (2 * q) i j (by omega) hij (by omega) (by omega)
  · rw [h.old i (by omega), h.old j (by omega)]
    exact h.srt1 (2 * q + 1) i j (by omega) hij (by omega) (by omega)
  · rw [h.old i hi, h.old j (by omega)]
    exact hX _ _ (h.sep1 (2 * q + 1) i j (by omega) (by omega) (by omega))
theorem InvB.next {bs q a b : Nat} (h : InvB R V d0 d1 d bs q a) (hb : b = a + 2 * bs) (hn : b ≤ d0.size) (hp : PermIn a b d d') (hs : Asc R d' a b) : InvB R V d0 d1 d' bs (q + 1) b := by
  have ea := h.ea
  have eb : b = (q + 1) * (2 * bs) := by rw [Nat.add_mul, ← ea]; omega
  have hsz : d.size = d0.size := h.per.1
  refine ⟨eb, hn, fun t ht => by rw [hp.2.1 t (by omega)]; exact h.old t (by omega), h.srt1, h.sep1, ?_, permIn_trans _ _ _ _ _ h.per (permIn_mono _ _ _ _ _ _ (Nat.zero_le _) hn (by omega) hp), ?_⟩
  · have hh := h.srt
    rw [ea] at hh hp hs
    exact hh.more hp hs (Or.inl eb) (by omega) (Nat.le_refl _)
  · refine h.sep.perm hp (by omega) hn ?_
    rw [ea]
    exact borders q (2 * bs) b _ (Or.inl eb)
theorem InvB.last {bs q a : Nat} (h : InvB R V d0 d1 d bs q a) (hb : d0.size ≤ a + 2 * bs) (hp : PermIn a d0.size d d') (hs : Asc R d' a d0.size) : SortB R d' (2 * bs) d0.size ∧ SepB V d' d0.size (2 * bs) ∧ PermIn 0 d0.size d0 d' := by
  have ea := h.ea
  have eb : a + 2 * bs = (q + 1) * (2 * bs) := by rw [Nat.add_mul, ← ea]; omega
  have hsz : d.size = d0.size := h.per.1
  refine ⟨?_, ?_, permIn_trans _ _ _ _ _ h.per (permIn_mono _ _ _ _ _ _ (Nat.zero_le _) (Nat.le_refl _) (by omega) hp)⟩
  · have hh := h.srt
    rw [ea] at hh hp hs
    exact hh.more hp hs (Or.inr rfl) (by omega) (Nat.le_refl _)
  · refine h.sep.perm hp (by omega) (Nat.le_refl _) ?_
    rw [ea]
    exact borders q (2 * bs) _ _ (Or.inr ⟨rfl, by omega⟩)
/-- A last block that has no partner. -/
theorem InvB.rest {bs q a : Nat} (h : InvB R V d0 d1 d bs q a) (hb : d0.size ≤ a + bs) : SortB R d (2 * bs) d0.size ∧ SepB V d d0.size (2 * bs) ∧ PermIn 0 d0.size d0 d := by
  refine h.last (by omega) (permIn_refl _ _ _) (fun i j hi hij hj => ?_)
  have e1 : (2 * q) * bs = a := by rw [h.ea, Nat.mul_comm 2 q, Nat.mul_assoc]
  have e2 : (2 * q + 1) * bs = a + bs := by rw [Nat.add_mul, e1]; omega
  rw [h.old i hi, h.old j (by omega)]
  exact h.srt1 (2 * q) i j (by omega) hij (by omega) hj
theorem SortB.done {bs : Nat} (h : SortB R d bs d0.size) (hb : d0.size ≤ bs) : Asc R d 0 d0.size := fun i j hi hij hj => h 0 i j (by omega) hij (by omega) hj
end
end Go.Proofs.YtmiijgjpkkmoaaaGreat

/- Pure: rows of a Dqbf by the length of their lists; rows of the same length keep their order. -/
namespace Go.Proofs.YtmiijgjpkkmoaaaGreat
open Go.Sort Go.Shelf
set_option linter.unusedVariables false

def keyLt (x y : DepV) : Prop := x.l.length < y.l.length ∨ (x.l.length = y.l.length ∧ x.v < y.v)
def varLt (x y : DepV) : Prop := x.v < y.v
theorem keyLt_trans (x y z : DepV) (h : keyLt x y) (k : keyLt y z) : keyLt x z := by
  unfold keyLt at *
  omega
theorem ltN_iff (x y : DepV) : ltOf cfD x y = true ↔ x.l.length < y.l.length := by
  show decide (cmpN (x.l.length : Int) (y.l.length : Int) < 0) = true ↔ _
  unfold cmpN
  by_cases h1 : x.l.length < y.l.length
  · rw [if_pos (by omega)]; simp [h1]
  · rw [if_neg (by omega)]
    split <;> simp [h1]
theorem ltN_no (x y : DepV) : ltOf cfD x y = false ↔ y.l.length ≤ x.l.length := by
  rw [← Bool.not_eq_true, ltN_iff]
  omega
theorem keyLt_cross (x y : DepV) (h : varLt x y) : (ltOf cfD y x = true → keyLt y x) ∧ (ltOf cfD y x = false → keyLt x y) := by
  unfold varLt at h
  rw [ltN_iff, ltN_no]
  unfold keyLt
  omega
def leD (x y : DepV) : Bool := decide (x.l.length < y.l.length ∨ (x.l.length = y.l.length ∧ x.v ≤ y.v))
def byKey (s : List DepV) : List DepV := s.mergeSort leD
theorem byKey_perm (s : List DepV) : (byKey s).Perm s := List.mergeSort_perm _ _
theorem byKey_len (s : List DepV) : (byKey s).length = s.length := (byKey_perm s).length_eq
theorem byKey_le (s : List DepV) : (byKey s).Pairwise (fun x y => leD x y = true) :=
  List.pairwise_mergeSort (le := leD) (fun a b c h1 h2 => by unfold leD at *; rw [decide_eq_true_eq] at *; omega) (fun a b => by unfold leD; rw [Bool.or_eq_true, decide_eq_true_eq, decide_eq_true_eq]; omega) s
theorem inj_var {s : List DepV} (hs : s.Pairwise varLt) {a b : DepV} (ha : a ∈ s) (hb : b ∈ s) (h : a.v = b.v) : a = b := by
  induction s with
  | nil => cases ha
  | cons x r ih =>
    rw [List.pairwise_cons] at hs
    rcases List.mem_cons.1 ha with rfl | ha'
    · rcases List.mem_cons.1 hb with rfl | hb'
      · rfl
      · have := hs.1 b hb'; unfold varLt at this; omega
    · rcases List.mem_cons.1 hb with rfl | hb'
      · have := hs.1 a ha'; unfold varLt at this; omega
      · exact ih hs.2 ha' hb'
theorem byKey_uniq {s t : List DepV} (hs : s.Pairwise varLt) (hp : t.Perm s) (ht : t.Pairwise keyLt) : t = byKey s := by
  refine List.Perm.eq_of_pairwise (le := fun x y => leD x y = true) (fun a b ha hb h1 h2 => ?_) (ht.imp (fun {a b} h => ?_)) (byKey_le s) (hp.trans (byKey_perm s).symm)
  · unfold leD at h1 h2
    rw [decide_eq_true_eq] at h1 h2
    exact inj_var hs (hp.mem_iff.1 ha) ((byKey_perm s).mem_iff.1 hb) (by omega)
  · unfold keyLt at h
    unfold leD
    rw [decide_eq_true_eq]
    omega
theorem byKey_key {s : List DepV} (hs : s.Pairwise varLt) : (byKey s).Pairwise keyLt := by
  have h1 := byKey_le s
  have h2 : (byKey s).Nodup := (byKey_perm s).nodup_iff.2 (hs.imp (fun {a b} h e => by subst e; unfold varLt at h; omega))
  have h3 : (byKey s).Pairwise (fun x y => leD x y = true ∧ x ≠ y) := List.Pairwise.and h1 h2
  refine h3.imp_of_mem (fun {a b} ha hb h => ?_)
  have h4 := inj_var hs ((byKey_perm s).mem_iff.1 ha) ((byKey_perm s).mem_iff.1 hb)
  have h5 := h.1
  unfold leD at h5
  rw [decide_eq_true_eq] at h5
  unfold keyLt
  by_cases e : a.v = b.v
  · exact absurd (h4 e) h.2
  · omega
theorem asc_pairwise {s : List DepV} {d : Array DepV} (hd : d.size = s.length) (h : Asc keyLt d 0 d.size) : d.toList.Pairwise keyLt := by
  rw [List.pairwise_iff_getElem]
  intro i j hi hj hij
  have := h i j (Nat.zero_le _) hij (by simpa using hj)
  rw [getElem!_pos d i (by simpa using hi), getElem!_pos d j (by simpa using hj)] at this
  simpa using this
theorem perm_whole {d0 d : Array DepV} (h : PermIn 0 d0.size d0 d) : d.toList.Perm d0.toList := by
  have h2 := h.2.2
  have e1 : d.extract 0 d0.size = d := by
    conv => lhs; arg 3; rw [← h.1]
    simp
  have e2 : d0.extract 0 d0.size = d0 := by simp
  rw [e1, e2] at h2
  exact h2
theorem sorted_is {s : List DepV} {d : Array DepV} (hs : s.Pairwise varLt) (hp : PermIn 0 s.toArray.size s.toArray d) (h : Asc keyLt d 0 s.toArray.size) : d.toList = byKey s := by
  have hsz := hp.1
  refine byKey_uniq hs (by simpa using perm_whole hp) (asc_pairwise (s := s) (by simpa using hsz) (by rw [hsz]; exact h))
end Go.Proofs.YtmiijgjpkkmoaaaGreat

/- slices.swapRangeCmpFunc, rotateCmpFunc at rows of a Dqbf. -/
namespace Go.Proofs.YtmiijgjpkkmoaaaGreat
open Go.RowKit Go.Shelf Go.Lib Go.Sort
set_option linter.unusedVariables false
set_option linter.unusedSimpArgs false

abbrev SWD (w0 : World) (blk : Nat) (d : Array DepV) (w : World) : Prop := SWK encD 2 w0 blk 0 d w
abbrev RowD (w0 : World) (blk : Nat) (d0 : Array DepV) : Prop := RowK encD 2 w0 blk 0 d0

theorem swd_at {w0 w : World} {blk : Nat} {d0 d : Array DepV} (S : SWD w0 blk d w) (R : RowD w0 blk d0) (hs : d0.size = d.size) {k : Nat} (hk : k < d.size) :
    w.cell? ⟨blk, k * 2, none⟩ = some (.int .i64 d[k]!.v) ∧ w.cell? ⟨blk, k * 2 + 1, none⟩ = some (.slice d[k]!.a d[k]!.l.length d[k]!.c) ∧ w.frozen? ⟨blk, k * 2, none⟩ = false ∧ w.frozen? ⟨blk, k * 2 + 1, none⟩ = false := by
  have H := S.holds R.hblk R.hH hs.symm
  have key : ∀ j, j < d.size * 2 → w.cell? ⟨blk, j, none⟩ = some ((encD d[j / 2]!)[j % 2]!) ∧ w.frozen? ⟨blk, j, none⟩ = false := fun j hj => by
    have h1 := H j (by rw [size_flatK]; exact hj)
    rw [get_flatK encD 2 d j hj, Nat.zero_add] at h1
    exact h1
  have h1 := key (k * 2) (by omega)
  have h2 := key (k * 2 + 1) (by omega)
  rw [show k * 2 / 2 = k by omega, show k * 2 % 2 = 0 by omega] at h1
  rw [show (k * 2 + 1) / 2 = k by omega, show (k * 2 + 1) % 2 = 1 by omega] at h2
  exact ⟨h1.1, h2.1, h1.2, h2.2⟩

theorem swap_cells {w : World} {blk p q : Nat} {x1 y0 y1 : Value} (hpq : p + 1 < q ∨ q + 1 < p) (hx1 : w.cell? ⟨blk, p + 1, none⟩ = some x1) (hy0 : w.cell? ⟨blk, q, none⟩ = some y0) (hy1 : w.cell? ⟨blk, q + 1, none⟩ = some y1)
    (fx1 : w.frozen? ⟨blk, p + 1, none⟩ = false) (fy0 : w.frozen? ⟨blk, q, none⟩ = false) (fy1 : w.frozen? ⟨blk, q + 1, none⟩ = false) (u0 u1 v0 : Value) :
    (w.setCell ⟨blk, p, none⟩ u0).cell? ⟨blk, p + 1, none⟩ = some x1 ∧ (w.setCell ⟨blk, p, none⟩ u0).frozen? ⟨blk, p + 1, none⟩ = false ∧
    ((w.setCell ⟨blk, p, none⟩ u0).setCell ⟨blk, p + 1, none⟩ u1).cell? ⟨blk, q, none⟩ = some y0 ∧ ((w.setCell ⟨blk, p, none⟩ u0).setCell ⟨blk, p + 1, none⟩ u1).frozen? ⟨blk, q, none⟩ = false ∧
    (((w.setCell ⟨blk, p, none⟩ u0).setCell ⟨blk, p + 1, none⟩ u1).setCell ⟨blk, q, none⟩ v0).cell? ⟨blk, q + 1, none⟩ = some y1 ∧ (((w.setCell ⟨blk, p, none⟩ u0).setCell ⟨blk, p + 1, none⟩ u1).setCell ⟨blk, q, none⟩ v0).frozen? ⟨blk, q + 1, none⟩ = false := by
  have ne : ∀ m n : Nat, m ≠ n → (⟨blk, m, none⟩ : Addr) ≠ ⟨blk, n, none⟩ := fun m n h e => h (by injection e)
  have o : ∀ (W : World) (m n : Nat) (v : Value), m ≠ n → (W.setCell ⟨blk, m, none⟩ v).cell? ⟨blk, n, none⟩ = W.cell? ⟨blk, n, none⟩ := fun W m n v h => World.cell?_setCell_other _ _ _ _ (ne _ _ h)
  refine ⟨?_, ?_, ?_, ?_, ?_, ?_⟩
  · rw [o _ _ _ _ (by omega)]; exact hx1
  · rw [World.frozen?_setCell]; exact fx1
  · rw [o _ _ _ _ (by omega), o _ _ _ _ (by omega)]; exact hy0
  · rw [World.frozen?_setCell, World.frozen?_setCell]; exact fy0
  · rw [o _ _ _ _ (by omega), o _ _ _ _ (by omega), o _ _ _ _ (by omega)]; exact hy1
  · rw [World.frozen?_setCell, World.frozen?_setCell, World.frozen?_setCell]; exact fy1

theorem swd_swap {w0 w : World} {blk : Nat} {d0 d : Array DepV} (S : SWD w0 blk d w) (R : RowD w0 blk d0) (hs : d0.size = d.size) (p q : Nat) (hp : p < d.size) (hq : q < d.size) (hpq : p ≠ q) :
    ∃ X Y : DepV, (w.cell? ⟨blk, p * 2, none⟩ = some (.int .i64 X.v) ∧ w.cell? ⟨blk, p * 2 + 1, none⟩ = some (.slice X.a X.l.length X.c) ∧ w.frozen? ⟨blk, p * 2, none⟩ = false ∧ w.frozen? ⟨blk, p * 2 + 1, none⟩ = false) ∧
    (w.cell? ⟨blk, q * 2, none⟩ = some (.int .i64 Y.v) ∧ w.cell? ⟨blk, q * 2 + 1, none⟩ = some (.slice Y.a Y.l.length Y.c) ∧ w.frozen? ⟨blk, q * 2, none⟩ = false ∧ w.frozen? ⟨blk, q * 2 + 1, none⟩ = false) ∧
    ((w.setCell ⟨blk, p * 2, none⟩ (.int .i64 Y.v)).cell? ⟨blk, p * 2 + 1, none⟩ = some (.slice X.a X.l.length X.c) ∧ (w.setCell ⟨blk, p * 2, none⟩ (.int .i64 Y.v)).frozen? ⟨blk, p * 2 + 1, none⟩ = false ∧
    ((w.setCell ⟨blk, p * 2, none⟩ (.int .i64 Y.v)).setCell ⟨blk, p * 2 + 1, none⟩ (.slice Y.a Y.l.length Y.c)).cell? ⟨blk, q * 2, none⟩ = some (.int .i64 Y.v) ∧ ((w.setCell ⟨blk, p * 2, none⟩ (.int .i64 Y.v)).setCell ⟨blk, p * 2 + 1, none⟩ (.slice Y.a Y.l.length Y.c)).frozen? ⟨blk, q * 2, none⟩ = false ∧
    (((w.setCell ⟨blk, p * 2, none⟩ (.int .i64 Y.v)).setCell ⟨blk, p * 2 + 1, none⟩ (.slice Y.a Y.l.length Y.c)).setCell ⟨blk, q * 2, none⟩ (.int .i64 X.v)).cell? ⟨blk, q * 2 + 1, none⟩ = some (.slice Y.a Y.l.length Y.c) ∧ (((w.setCell ⟨blk, p * 2, none⟩ (.int .i64 Y.v)).setCell ⟨blk, p * 2 + 1, none⟩ (.slice Y.a Y.l.length Y.c)).setCell ⟨blk, q * 2, none⟩ (.int .i64 X.v)).frozen? ⟨blk, q * 2 + 1, none⟩ = false) ∧
    Aside (SWD w0 blk (swp d p q) ((((w.setCell ⟨blk, p * 2, none⟩ (.int .i64 Y.v)).setCell ⟨blk, p * 2 + 1, none⟩ (.slice Y.a Y.l.length Y.c)).setCell ⟨blk, q * 2, none⟩ (.int .i64 X.v)).setCell ⟨blk, q * 2 + 1, none⟩ (.slice X.a X.l.length X.c)).drew) := by
  have hx := swd_at S R hs hp
  have hy := swd_at S R hs hq
  refine ⟨d[p]!, d[q]!, hx, hy, swap_cells (by omega) hx.2.1 hy.1 hy.2.1 hx.2.2.2 hy.2.2.1 hy.2.2.2 _ _ _, ?_⟩
  have S2 : SWD w0 blk (swp d p q) ((w.drew.setCells blk (0 + p * 2) (encD d[q]!)).setCells blk (0 + q * 2) (encD d[p]!)) := S.swapped R p q hp hq
  simp only [Nat.zero_add, encD, World.setCells, World.setCell_drew] at S2
  exact S2

set_option maxHeartbeats 4000000 in
set_option maxRecDepth 1000000 in
theorem swaprange_any (cb : Array Value) (blk cap a b n : Nat) (d0 d : Array DepV) (w0 w : World) (R : RowD w0 blk d0) (hs : d0.size = d.size) (S : SWD w0 blk d w) (hab : a + n ≤ b) (hb : b + n ≤ d.size) (hsz : d.size < 4611686018427387904) :
    Calls Tryz.prog 117 #[.slice (some ⟨blk, 0, none⟩) d.size cap, .int .i64 a, .int .i64 b, .int .i64 n, .func (.func 42) #[] cb] w fun e w' =>
      e = .returned (.tuple #[]) ∧ ∃ d', SWD w0 blk d' w' ∧ SwR d d' a b n ∧ PermIn a (b + n) d d' := by
  have S0 : Aside (SWD w0 blk d w) := S
  clear S
  go_enter Tryz.func117, Tryz.ntmps117
  go_wp2
  go_loopg [10] n (fun kx si wr => ∃ (i : Nat) (dk : Array DepV), si = .int .i64 i ∧ i ≤ n ∧ n - i ≤ kx ∧ Aside (SWD w0 blk dk wr) ∧ Hid (SwR d dk a b i) ∧ Hid (PermIn a (b + n) d dk))
  case atStart => exact ⟨0, d, rfl, Nat.zero_le _, Nat.le_refl _, S0, SwR.zero _ _ _, permIn_refl _ _ _⟩
  case round =>
    clear S0
    obtain ⟨i, dk, rfl, hin, hkx, S1, HSW, HP⟩ := hrel
    by_cases hlt : i < n
    · have hltz : (i : Int) < (n : Int) := by omega
      have hds : dk.size = d.size := HSW.out.1
      have HN : Hid (SwR d (swp dk (a + i) (b + i)) a b (i + 1) ∧ PermIn a (b + n) d (swp dk (a + i) (b + i))) := ⟨HSW.out.step hab hlt hb, permIn_trans _ _ _ _ _ HP.out (swp_permIn dk a (b + n) (a + i) (b + i) (by omega) (by omega) (by omega) (by omega) (by omega))⟩
      go_wp2_with fail
      have ea : ((a : Int) + (i : Int)).toNat = a + i := by omega
      have pa : (0 : Int) ≤ (a : Int) + (i : Int) := by omega
      have ba : (a : Int) + (i : Int) < (d.size : Int) := by omega
      have ra : IntKind.i64.wrap ((a : Int) + (i : Int)) = (a : Int) + (i : Int) := by rw [IntKind.wrap_i64]; omega
      have ec : ((b : Int) + (i : Int)).toNat = b + i := by omega
      have pc : (0 : Int) ≤ (b : Int) + (i : Int) := by omega
      have bc : (b : Int) + (i : Int) < (d.size : Int) := by omega
      have rc : IntKind.i64.wrap ((b : Int) + (i : Int)) = (b : Int) + (i : Int) := by rw [IntKind.wrap_i64]; omega
      obtain ⟨X, Y, ⟨x0, x1, x2, x3⟩, ⟨y0, y1, y2, y3⟩, ⟨g0, g1, g2, g3, g4, g5⟩, S2⟩ := swd_swap S1.out R (by omega) (a + i) (b + i) (by omega) (by omega) (by omega)
      clear S1
      go_region
      clear g0 g1 g2 g3 g4 g5 x0 x1 x2 x3 y0 y1 y2 y3
      generalize ((((wr.setCell ⟨blk, (a + i) * 2, none⟩ (Value.int .i64 Y.v)).setCell ⟨blk, (a + i) * 2 + 1, none⟩ (Value.slice Y.a Y.l.length Y.c)).setCell ⟨blk, (b + i) * 2, none⟩ (Value.int .i64 X.v)).setCell ⟨blk, (b + i) * 2 + 1, none⟩ (Value.slice X.a X.l.length X.c)).drew = w2 at S2 ⊢
      go_wp2
      go_roundg (n - (i + 1))
      case measure => omega
      case rel => exact ⟨i + 1, swp dk (a + i) (b + i), by go_num, by omega, Nat.le_refl _, S2, HN.out.1, HN.out.2⟩
    · have hge : ¬ ((i : Int) < (n : Int)) := by omega
      obtain rfl : i = n := by omega
      go_wp2
      go_end0
      exact ⟨rfl, dk, S1.out, HSW.out, HP.out⟩
set_option maxHeartbeats 4000000 in
set_option maxRecDepth 1000000 in
theorem rotate_any (cb : Array Value) (blk cap a m b : Nat) (d0 d : Array DepV) (w0 w : World) (R : RowD w0 blk d0) (hs : d0.size = d.size) (S : SWD w0 blk d w) (ham : a < m) (hmb : m < b) (hb : b ≤ d.size) (hsz : d.size < 2305843009213693952) :
    Calls Tryz.prog 114 #[.slice (some ⟨blk, 0, none⟩) d.size cap, .int .i64 a, .int .i64 m, .int .i64 b, .func (.func 42) #[] cb] w fun e w' =>
      e = .returned (.tuple #[]) ∧ ∃ d', SWD w0 blk d' w' ∧ RotP d d' a m b ∧ PermIn a b d d' := by
  have S0 : Aside (SWD w0 blk d w) := S
  clear S
  go_enter Tryz.func114, Tryz.ntmps114
  go_wp2
  go_loopg [10, 11] (b - a) (fun kx si sj wr => ∃ (i j : Nat) (dk : Array DepV), si = .int .i64 i ∧ sj = .int .i64 j ∧ 1 ≤ i ∧ 1 ≤ j ∧ i + a ≤ m ∧ m + j ≤ b ∧ i + j ≤ kx ∧ Aside (SWD w0 blk dk wr) ∧ Hid (PermIn a b d dk) ∧ Hid (∀ d', RotP dk d' (m - i) m (m + j) → RotP d d' a m b))
  case atStart =>
    refine ⟨m - a, b - m, d, by go_num, by go_num, by omega, by omega, by omega, by omega, by omega, S0, permIn_refl _ _ _, fun d' h => ?_⟩
    rw [show m - (m - a) = a by omega, show m + (b - m) = b by omega] at h
    exact h
  case round =>
    clear S0
    obtain ⟨i, j, dk, rfl, rfl, hi, hj, him, hjb, hkx, S1, HP, HR⟩ := hrel
    have hds : dk.size = d.size := HP.out.1
    have hmi : ((m : Int) - (i : Int)) = ((m - i : Nat) : Int) := by omega
    rcases Nat.lt_trichotomy i j with h | h | h
    · have hne : ¬ ((i : Int) = (j : Int)) := by omega
      have hgt : ¬ ((j : Int) < (i : Int)) := by omega
      have hmj : ((m : Int) + (j : Int) - (i : Int)) = ((m + j - i : Nat) : Int) := by omega
      have hcall := swaprange_any cb blk cap (m - i) (m + j - i) i d0 dk w0 wr R (by omega) S1.out (by omega) (by omega) (by omega)
      rw [hds, ← hmi, ← hmj] at hcall
      have HC := Lib.hid hcall
      clear hcall hmi hmj S1
      go_wp2_with (go_at_call 117; refine HC.out.mono ?_; rintro e w1 ⟨rfl, d2, hs2, hw2, hp2⟩)
      have S2 : Aside (SWD w0 blk d2 w1) := hs2
      have HP2 : Hid (PermIn a b d d2) := permIn_trans _ _ _ _ _ HP.out (permIn_mono _ _ _ _ _ _ (by omega) (by omega) (by omega) hp2)
      have HR2 : Hid (∀ d', RotP d2 d' (m - i) m (m + (j - i)) → RotP d d' a m b) := fun d' h2 => HR.out d' (RotP.less hw2 (by omega) h h2)
      clear hs2 hw2 hp2 HP HR HC
      go_wp2
      go_roundg (i + (j - i))
      case measure => omega
      case rel => exact ⟨i, j - i, d2, rfl, by go_num, hi, by omega, him, by omega, Nat.le_refl _, S2, HP2, HR2⟩
    · subst h
      have hcall := swaprange_any cb blk cap (m - i) m i d0 dk w0 wr R (by omega) S1.out (by omega) (by omega) (by omega)
      rw [hds, ← hmi] at hcall
      have HC := Lib.hid hcall
      clear hcall hmi S1
      go_wp2_with (go_at_call 117; refine HC.out.mono ?_; rintro e w1 ⟨rfl, d2, hs2, hw2, hp2⟩)
      go_end0
      exact ⟨rfl, d2, hs2, HR.out d2 (RotP.same hw2 (by omega)), permIn_trans _ _ _ _ _ HP.out (permIn_mono _ _ _ _ _ _ (by omega) (by omega) (by omega) hp2)⟩
    · have hne : ¬ ((i : Int) = (j : Int)) := by omega
      have hgt : ((j : Int) < (i : Int)) := by omega
      have hcall := swaprange_any cb blk cap (m - i) m j d0 dk w0 wr R (by omega) S1.out (by omega) (by omega) (by omega)
      rw [hds, ← hmi] at hcall
      have HC := Lib.hid hcall
      clear hcall hmi S1
      go_wp2_with (go_at_call 117; refine HC.out.mono ?_; rintro e w1 ⟨rfl, d2, hs2, hw2, hp2⟩)
      have S2 : Aside (SWD w0 blk d2 w1) := hs2
      have HP2 : Hid (PermIn a b d d2) := permIn_trans _ _ _ _ _ HP.out (permIn_mono _ _ _ _ _ _ (by omega) (by omega) (by omega) hp2)
      have HR2 : Hid (∀ d', RotP d2 d' (m - (i - j)) m (m + j) → RotP d d' a m b) := fun d' h2 => HR.out d' (RotP.more hw2 (by omega) h h2)
      clear hs2 hw2 hp2 HP HR HC
      go_wp2
      go_roundg ((i - j) + j)
      case measure => omega
      case rel => exact ⟨i - j, j, d2, by go_num, rfl, by omega, hj, by omega, hjb, Nat.le_refl _, S2, HP2, HR2⟩
end Go.Proofs.YtmiijgjpkkmoaaaGreat
