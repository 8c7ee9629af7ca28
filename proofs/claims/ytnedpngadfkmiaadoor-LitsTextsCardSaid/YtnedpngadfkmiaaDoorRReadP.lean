/- The reference's Read, without the program. -/
import Derived.Test.YtnedpngadfkmiaaDoorRText
namespace Go.Proofs.YtnedpngadfkmiaaDoor
open Go.RowKit Go.Lib
set_option linter.unusedVariables false

/-- The number that is read, and what is left. -/
def scanN : Int → List UInt8 → Int × List UInt8
  | n, [] => (n, [])
  | n, c :: r => if 48 ≤ (c.toNat : Int) ∧ (c.toNat : Int) ≤ 57 ∧ n ≤ 65536 then scanN (10 * n + ((c.toNat : Int) - 48)) r else (n, c :: r)

theorem scanN_yes {n : Int} {c : UInt8} {r : List UInt8} (h : 48 ≤ (c.toNat : Int) ∧ (c.toNat : Int) ≤ 57 ∧ n ≤ 65536) : scanN n (c :: r) = scanN (10 * n + ((c.toNat : Int) - 48)) r := by rw [scanN, if_pos h]
theorem scanN_no {n : Int} {c : UInt8} {r : List UInt8} (h : ¬ (48 ≤ (c.toNat : Int) ∧ (c.toNat : Int) ≤ 57 ∧ n ≤ 65536)) : scanN n (c :: r) = (n, c :: r) := by rw [scanN, if_neg h]

theorem scanN_num (n : Nat) : n ≤ 65536 → ∀ rest, scanN 0 (numB n ++ rest) = scanN (n : Int) rest := by
  induction n using Nat.strongRecOn with
  | ind n ih =>
    intro hn rest
    have dig : ∀ d : Nat, d < 10 → ∀ m : Int, m ≤ 65536 → ∀ t, scanN m (UInt8.ofNat (48 + d) :: t) = scanN (10 * m + d) t := by
      intro d hd m hm t
      have h8 : ((UInt8.ofNat (48 + d)).toNat : Int) = 48 + d := by rw [u8_toNat _ (by omega)]; omega
      rw [scanN_yes (by rw [h8]; omega), h8]
      congr 1; omega
    by_cases h1 : n < 10
    · rw [numB_lo h1, List.singleton_append, dig n h1 0 (by omega)]
      congr 1; omega
    · rw [numB_hi h1, List.append_assoc, ih (n / 10) (by omega) (by omega), numB_lo (by omega : n % 10 < 10), List.singleton_append, dig (n % 10) (by omega) _ (by omega)]
      congr 1; omega

theorem numB_head (n : Nat) : ∃ c r, numB n = c :: r ∧ 48 ≤ c.toNat ∧ c.toNat ≤ 57 := by
  induction n using Nat.strongRecOn with
  | ind n ih =>
    by_cases h1 : n < 10
    · exact ⟨_, [], numB_lo h1, by rw [u8_toNat _ (by omega)]; omega, by rw [u8_toNat _ (by omega)]; omega⟩
    · obtain ⟨c, r, e, h⟩ := ih (n / 10) (by omega)
      exact ⟨c, r ++ numB (n % 10), by rw [numB_hi h1, e]; rfl, h⟩

def sgn (c : UInt8) : Int := if c = 45 then -1 else 1
def tailOf (c : UInt8) (r : List UInt8) : List UInt8 := if c = 45 then r else c :: r

theorem scan_itoa {x : Int} {t : List UInt8} {c : UInt8} {r : List UInt8} (hx : litB x = true) (ht : t = [] ∨ ∃ s, t = 32 :: s) (e : c :: r = itoa x ++ t) :
    sgn c * (scanN 0 (tailOf c r)).1 = x ∧ (scanN 0 (tailOf c r)).2 = t := by
  obtain ⟨h0, h1, h2⟩ := litB_bd hx
  have hend : ∀ n : Int, scanN n t = (n, t) := by
    intro n
    rcases ht with rfl | ⟨s, rfl⟩
    · rfl
    · exact scanN_no (by simp)
  have hn := scanN_num x.natAbs (by omega) t
  rw [numB_itoa x h0] at e
  by_cases hneg : x < 0
  · rw [if_pos hneg] at e
    simp only [List.cons_append, List.nil_append, List.cons.injEq] at e
    obtain ⟨rfl, rfl⟩ := e
    unfold sgn tailOf
    rw [if_pos rfl, if_pos rfl, hn, hend]
    exact ⟨by show -1 * (x.natAbs : Int) = x; omega, rfl⟩
  · rw [if_neg hneg] at e
    obtain ⟨d, q, hd, hd1, hd2⟩ := numB_head x.natAbs
    rw [List.nil_append] at e
    have e0 := e
    rw [hd, List.cons_append] at e
    injection e with e1 e2
    have hc : ¬ c = 45 := by rw [e1]; intro h; rw [h] at hd1; exact absurd hd1 (by decide)
    unfold sgn tailOf
    rw [if_neg hc, if_neg hc, e0, hn, hend]
    exact ⟨by show 1 * (x.natAbs : Int) = x; omega, rfl⟩

theorem itoa_ne {x : Int} (hx : litB x = true) : itoa x ≠ [] := by
  obtain ⟨h0, _, _⟩ := litB_bd hx
  rw [numB_itoa x h0]
  have := (numB_len x.natAbs).1
  intro e
  have h2 := (List.append_eq_nil_iff.1 e).2
  rw [h2] at this
  simp at this
theorem textB_cons (x : Int) (r : List Int) : textB (x :: r) = itoa x ++ (if r = [] then [] else 32 :: textB r) := by
  cases r with
  | nil => simp [textB]
  | cons y s => rw [textB, if_neg (by simp)]
theorem textB_ne {l : List Int} (h : ∀ x ∈ l, litB x = true) (e : textB l = []) : l = [] := by
  cases l with
  | nil => rfl
  | cons x r =>
    rw [textB_cons] at e
    exact absurd (List.append_eq_nil_iff.1 e).1 (itoa_ne (h x (by simp)))

/-- What has been read is the beginning of the list whose text this is, if there is one. -/
def Fol (b : List UInt8) (k : Nat) (acc : List Int) : Prop := ∀ l, mayB l = true → textB l = b → ∃ rest, l = acc ++ rest ∧ b.drop k = textB rest

theorem Fol.start (b : List UInt8) : Fol b 0 [] := fun l _ h => ⟨l, rfl, h.symm⟩

theorem Fol.one {b : List UInt8} {k j : Nat} {acc : List Int} {n : Int} (hk : k < b.length) (h : Fol b k acc) (hj : j ≤ b.length)
    (hs : scanN 0 (tailOf (b.getD k 0) (b.drop (k + 1))) = (n, b.drop j)) (l : List Int) (hm : mayB l = true) (ht : textB l = b) :
    ∃ rest, l = acc ++ (sgn (b.getD k 0) * n) :: rest ∧ b.drop j = (if rest = [] then [] else 32 :: textB rest) := by
  obtain ⟨rest, e1, e2⟩ := h l hm ht
  have hd : b.drop k = b.getD k 0 :: b.drop (k + 1) := by rw [List.drop_eq_getElem_cons hk]; simp [List.getD, hk]
  cases rest with
  | nil => rw [hd] at e2; simp [textB] at e2
  | cons x r =>
    have hx : litB x = true := mayB_mem hm x (by rw [e1]; simp)
    rw [textB_cons, hd] at e2
    have := scan_itoa hx (by by_cases hr : r = []; exact .inl (by rw [if_pos hr]); exact .inr ⟨_, by rw [if_neg hr]⟩) e2
    rw [hs] at this
    exact ⟨r, by rw [this.1]; exact e1, this.2⟩

theorem Fol.step {b : List UInt8} {k j : Nat} {acc : List Int} {n : Int} (hk : k < b.length) (h : Fol b k acc) (hj : j ≤ b.length)
    (hs : scanN 0 (tailOf (b.getD k 0) (b.drop (k + 1))) = (n, b.drop j)) : Fol b (j + 1) (acc ++ [sgn (b.getD k 0) * n]) := by
  intro l hm ht
  obtain ⟨rest, e1, e2⟩ := h.one hk hj hs l hm ht
  refine ⟨rest, by rw [e1]; simp, ?_⟩
  rw [← List.drop_drop, e2]
  by_cases hr : rest = []
  · rw [if_pos hr, hr]; rfl
  · rw [if_neg hr]; rfl

theorem Fol.bad {b : List UInt8} {k j : Nat} {acc : List Int} {n : Int} (hk : k < b.length) (h : Fol b k acc) (hj : j < b.length)
    (hs : scanN 0 (tailOf (b.getD k 0) (b.drop (k + 1))) = (n, b.drop j)) (hb : b.getD j 0 ≠ 32) : readL b = ([], 5) := by
  refine readL_none fun l hm ht => ?_
  obtain ⟨rest, e1, e2⟩ := h.one hk (by omega) hs l hm ht
  have hd : b.drop j = b.getD j 0 :: b.drop (j + 1) := by rw [List.drop_eq_getElem_cons hj]; simp [List.getD, hj]
  rw [hd] at e2
  by_cases hr : rest = []
  · rw [if_pos hr] at e2; simp at e2
  · rw [if_neg hr] at e2; injection e2 with e3; exact hb e3

theorem Fol.fin {b : List UInt8} {k : Nat} {acc : List Int} (h : Fol b k acc) (hk : b.length ≤ k) (hne : ¬ (mayB acc = true ∧ textB acc = b)) : readL b = ([], 5) := by
  refine readL_none fun l hm ht => ?_
  obtain ⟨rest, e1, e2⟩ := h l hm ht
  rw [List.drop_eq_nil_of_le hk] at e2
  have : rest = [] := textB_ne (fun x hx => mayB_mem hm x (by rw [e1]; simp [hx])) e2.symm
  subst this
  rw [List.append_nil] at e1
  subst e1
  exact hne ⟨hm, ht⟩

theorem scan_drop_yes {b : List UInt8} {j : Nat} {n : Int} (hj : j < b.length) (h : 48 ≤ ((b.getD j 0).toNat : Int) ∧ ((b.getD j 0).toNat : Int) ≤ 57 ∧ n ≤ 65536) :
    scanN n (b.drop j) = scanN (10 * n + (((b.getD j 0).toNat : Int) - 48)) (b.drop (j + 1)) := by
  have hd : b.drop j = b.getD j 0 :: b.drop (j + 1) := by rw [List.drop_eq_getElem_cons hj]; simp [List.getD, hj]
  rw [hd, scanN_yes h]
theorem scan_drop_no {b : List UInt8} {j : Nat} {n : Int} (h : ¬ (j < b.length ∧ 48 ≤ ((b.getD j 0).toNat : Int) ∧ ((b.getD j 0).toNat : Int) ≤ 57 ∧ n ≤ 65536)) :
    scanN n (b.drop j) = (n, b.drop j) := by
  by_cases hj : j < b.length
  · have hd : b.drop j = b.getD j 0 :: b.drop (j + 1) := by rw [List.drop_eq_getElem_cons hj]; simp [List.getD, hj]
    rw [hd, scanN_no (fun h' => h ⟨hj, h'⟩)]
  · rw [List.drop_eq_nil_of_le (by omega)]; rfl
theorem tail_drop {b : List UInt8} {k : Nat} (hk : k < b.length) : tailOf (b.getD k 0) (b.drop (k + 1)) = b.drop (if b.getD k 0 = 45 then k + 1 else k) := by
  have hd : b.drop k = b.getD k 0 :: b.drop (k + 1) := by rw [List.drop_eq_getElem_cons hk]; simp [List.getD, hk]
  unfold tailOf
  split
  · rfl
  · exact hd.symm

end Go.Proofs.YtnedpngadfkmiaaDoor
