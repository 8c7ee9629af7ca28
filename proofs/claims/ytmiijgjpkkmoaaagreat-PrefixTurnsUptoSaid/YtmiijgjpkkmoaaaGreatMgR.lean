/- Joined texts: Merge, Cnf. -/
import Derived.Test.YtmiijgjpkkmoaaaGreatMgB
/- lits.merge, Join and Resolve. -/
namespace Go.Proofs.YtmiijgjpkkmoaaaGreat
open Go.RowKit
set_option linter.unusedVariables false

def consE (x : Int) (r : List Int × Int) : List Int × Int := if r.2 ≠ 0 then ([], r.2) else (x :: r.1, 0)
def mergeL (com : Int → Int → Int × Int) : List Int → List Int → List Int × Int
  | [], b => (b, 0)
  | x :: r, [] => (x :: r, 0)
  | x :: r, y :: s =>
    if varOf x < varOf y then consE x (mergeL com r (y :: s))
    else if varOf y < varOf x then consE y (mergeL com (x :: r) s)
    else if (com x y).2 ≠ 0 then ([], (com x y).2)
    else if (com x y).1 ≠ 0 then consE (com x y).1 (mergeL com r s) else mergeL com r s
termination_by a b => a.length + b.length

/-- What has been put out, then what is left. -/
def finE (o : List Int) (r : List Int × Int) : List Int × Int := if r.2 ≠ 0 then ([], r.2) else (o ++ r.1, 0)
theorem finE_nil (r : List Int × Int) (h : r.2 ≠ 0 → r.1 = []) : finE [] r = r := by
  unfold finE; split
  · rename_i h1; rw [← h h1]
  · rename_i h1
    have : r.2 = 0 := by omega
    rw [List.nil_append, ← this]
theorem finE_cons (o : List Int) (x : Int) (r : List Int × Int) : finE o (consE x r) = finE (o ++ [x]) r := by
  unfold finE consE
  by_cases h : r.2 ≠ 0
  · simp [h]
  · have h0 : r.2 = 0 := by omega
    simp [h0]
theorem mergeL_err (com : Int → Int → Int × Int) (a b : List Int) : (mergeL com a b).2 ≠ 0 → (mergeL com a b).1 = [] := by
  have hc : ∀ x r, (consE x r).2 ≠ 0 → (consE x r).1 = [] := by
    intro x r; unfold consE; split <;> simp
  fun_induction mergeL com a b <;> first | (intro h; exact hc _ _ h) | (intro h; rfl) | assumption | (intro h; exact absurd rfl h)

theorem mergeL_lt {com : Int → Int → Int × Int} {x y : Int} {r s : List Int} (h : varOf x < varOf y) : mergeL com (x :: r) (y :: s) = consE x (mergeL com r (y :: s)) := by rw [mergeL, if_pos h]
theorem mergeL_gt {com : Int → Int → Int × Int} {x y : Int} {r s : List Int} (h1 : ¬ varOf x < varOf y) (h : varOf y < varOf x) : mergeL com (x :: r) (y :: s) = consE y (mergeL com (x :: r) s) := by rw [mergeL, if_neg h1, if_pos h]
theorem mergeL_bad {com : Int → Int → Int × Int} {x y : Int} {r s : List Int} (h1 : ¬ varOf x < varOf y) (h2 : ¬ varOf y < varOf x) (h : (com x y).2 ≠ 0) : mergeL com (x :: r) (y :: s) = ([], (com x y).2) := by rw [mergeL, if_neg h1, if_neg h2, if_pos h]
theorem mergeL_one {com : Int → Int → Int × Int} {x y : Int} {r s : List Int} (h1 : ¬ varOf x < varOf y) (h2 : ¬ varOf y < varOf x) (h : (com x y).2 = 0) (h3 : (com x y).1 ≠ 0) : mergeL com (x :: r) (y :: s) = consE (com x y).1 (mergeL com r s) := by rw [mergeL, if_neg h1, if_neg h2, if_neg (by simp [h]), if_pos h3]
theorem mergeL_no {com : Int → Int → Int × Int} {x y : Int} {r s : List Int} (h1 : ¬ varOf x < varOf y) (h2 : ¬ varOf y < varOf x) (h : (com x y).2 = 0) (h3 : (com x y).1 = 0) : mergeL com (x :: r) (y :: s) = mergeL com r s := by rw [mergeL, if_neg h1, if_neg h2, if_neg (by simp [h]), if_neg (by simp [h3])]
theorem mergeL_end {com : Int → Int → Int × Int} {a b : List Int} (h : a = [] ∨ b = []) : mergeL com a b = (a ++ b, 0) := by
  rcases h with rfl | rfl
  · rw [mergeL]; rfl
  · cases a <;> simp [mergeL]

theorem IsInts.tail {w : World} {b o cap : Nat} {x : Int} {r : List Int} (H : IsInts w (.slice (some ⟨b, o, none⟩) (r.length + 1) cap) (x :: r)) :
    IsInts w (.slice (if cap = 1 then some ⟨b, o, none⟩ else some ⟨b, o + 1, none⟩) r.length (cap - 1)) r := by
  by_cases hc : cap = 1
  · rw [if_pos hc]
    have : r = [] := by
      obtain ⟨a, cap', e, ⟨h1, _⟩, _⟩ := H
      injection e with _ _ e3
      subst e3
      cases r with
      | nil => rfl
      | cons y s => simp at h1; omega
    subst this
    exact IsInts.none_of (by omega)
  · rw [if_neg hc]
    have := IsInts.drop (k := 1) (l := x :: r) H (by simp)
    simpa using this

/-- The function that is handed to merge: it tells what com does, and turns nothing. -/
def Tells (P : Program) (g : Nat) (cb : Array Value) (com : Int → Int → Int × Int) (w : World) : Prop :=
  ∀ W x y, Below w.heap.size w W → -9223372036854775808 ≤ x → x ≤ 9223372036854775807 → -9223372036854775808 ≤ y → y ≤ 9223372036854775807 →
    Calls P g (#[.int .i64 x, .int .i64 y] ++ cb) W fun e w' => e = .returned (.tuple #[.int .i64 (com x y).1, .int .i64 (com x y).2]) ∧ W = w'

theorem IsInts.head {w : World} {v : Value} {x : Int} {r : List Int} (H : IsInts w v (x :: r)) :
    ∃ b o cap, v = .slice (some ⟨b, o, none⟩) (r.length + 1) cap ∧ r.length + 1 ≤ cap ∧ w.cell? ⟨b, o, none⟩ = some (.int .i64 x) ∧ -9223372036854775808 ≤ x ∧ x ≤ 9223372036854775807 := by
  obtain ⟨a, cap, rfl, ⟨h1, _⟩, h3, h4, h5, b, o, ha, hc⟩ := H
  have := (ha (by simp)).1
  subst this
  exact ⟨b, o, cap, rfl, h1, hc 0 (by simp), h5 x (by simp)⟩
theorem IsInts.shape {w : World} {v : Value} {l : List Int} (H : IsInts w v l) : ∃ a cap, v = .slice a l.length cap := by obtain ⟨a, cap, h, _⟩ := H; exact ⟨a, cap, h⟩

def lenOf : Value → Nat | .slice _ n _ => n | _ => 0

end Go.Proofs.YtmiijgjpkkmoaaaGreat

/- MayCnf, SameAll. -/
namespace Go.Proofs.YtmiijgjpkkmoaaaGreat
open Go.RowKit
set_option linter.unusedVariables false

def tot (f : List (List Int)) : Nat := (f.map List.length).sum
def mayCnfB (f : List (List Int)) : Bool := decide (f.length ≤ 20000 ∧ tot f ≤ 200000 ∧ ∀ l ∈ f, mayB l = true)

theorem rows_getD_mem {f : List (List Int)} {k : Nat} (h : k < f.length) : f.getD k [] ∈ f := by simp [List.getD, h]
theorem rows_take_succ {f : List (List Int)} {k : Nat} (h : k < f.length) : f.take (k + 1) = f.take k ++ [f.getD k []] := by rw [List.take_succ_eq_append_getElem h]; simp [List.getD, h]
theorem tot_append (f g : List (List Int)) : tot (f ++ g) = tot f + tot g := by unfold tot; simp
theorem tot_take_succ {f : List (List Int)} {k : Nat} (h : k < f.length) : tot (f.take (k + 1)) = tot (f.take k) + (f.getD k []).length := by
  rw [rows_take_succ h, tot_append]; simp [tot]
theorem tot_take_le (f : List (List Int)) (k : Nat) : tot (f.take k) ≤ tot f := by
  have := tot_append (f.take k) (f.drop k)
  rw [List.take_append_drop] at this
  omega
theorem rows_forall_take_succ {p : List Int → Prop} {f : List (List Int)} {k : Nat} (h : k < f.length) (hn : ∀ y ∈ f.take k, p y) (hp : p (f.getD k [])) : ∀ y ∈ f.take (k + 1), p y := by
  rw [rows_take_succ h]
  intro y hy
  rcases List.mem_append.1 hy with hy | hy
  · exact hn y hy
  · rw [List.mem_singleton] at hy; rw [hy]; exact hp

/-- The k-th list of a list of lists: where it lies. -/
theorem IsRows.at {w : World} {a : Option Addr} {n cap : Nat} {f : List (List Int)} (H : IsRows w (.slice a n cap) f) {k : Nat} (hk : k < f.length) :
    ∃ b off u, a = some ⟨b, off, none⟩ ∧ b < w.heap.size ∧ w.cell? ⟨b, off + k, none⟩ = some u ∧ IsInts w u (f.getD k []) := by
  obtain ⟨a', cap', e, _, _, _, b, off, ha, hc⟩ := H
  injection e with e1 e2 e3
  subst e1
  obtain ⟨h1, h2⟩ := ha (by intro h; simp [h] at hk)
  obtain ⟨u, hu, hi⟩ := hc k hk
  exact ⟨b, off, u, h1, h2, hu, hi⟩
theorem IsRows.shape {w : World} {v : Value} {f : List (List Int)} (H : IsRows w v f) : ∃ a cap, v = .slice a f.length cap ∧ f.length ≤ 17592186044416 := by
  obtain ⟨a, cap, h, _, _, h4, _⟩ := H; exact ⟨a, cap, h, h4⟩

end Go.Proofs.YtmiijgjpkkmoaaaGreat
