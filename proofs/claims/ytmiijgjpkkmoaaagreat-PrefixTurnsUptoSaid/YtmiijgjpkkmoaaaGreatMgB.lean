/- Joined texts: With, NormR, JoinR, SubR, StrikeR. -/
import Derived.Test.YtmiijgjpkkmoaaaGreatMgA
/- The reference's insertion. -/
namespace Go.Proofs.YtmiijgjpkkmoaaaGreat
open Go.RowKit
set_option linter.unusedVariables false

def insL : List Int → Int → List Int
  | [], x => [x]
  | y :: r, x => if litLt y x then y :: insL r x else if y = x then y :: r else x :: y :: r

theorem insL_lt {l : List Int} {x : Int} {k : Nat} (h : k < l.length) (hlt : litLt (l.getD k 0) x) : l.take k ++ insL (l.drop k) x = l.take (k + 1) ++ insL (l.drop (k + 1)) x := by
  have e : l.take (k + 1) = l.take k ++ [l.getD k 0] := by rw [List.take_succ_eq_append_getElem h]; simp [List.getD, h]
  have e2 : l.drop k = l.getD k 0 :: l.drop (k + 1) := by rw [List.drop_eq_getElem_cons h]; simp [List.getD, h]
  rw [e2, insL, if_pos hlt, e, List.append_assoc]; rfl

theorem IsInts.drop {w : World} {b off cap k : Nat} {l : List Int} (H : IsInts w (.slice (some ⟨b, off, none⟩) l.length cap) l) (hk : k ≤ l.length) : IsInts w (.slice (some ⟨b, off + k, none⟩) (l.length - k) (cap - k)) (l.drop k) := by
  obtain ⟨a, cap', e, ⟨h1, h2⟩, h3, h4, h5, b', off', ha, hc⟩ := H
  injection e with e1 e2 e3
  subst e1; subst e3
  refine ⟨_, _, by rw [List.length_drop], ⟨by rw [List.length_drop]; omega, fun e => by cases e⟩, by omega, by rw [List.length_drop]; omega, fun x hx => h5 x (List.mem_of_mem_drop hx), b, off + k, fun hne => ⟨rfl, ?_⟩, fun j hj => ?_⟩
  · exact (ha (by rintro rfl; simp at hne)).2 |> fun h => by
      have := (ha (by rintro rfl; simp at hne)).1
      injection this with this; injection this with q1 q2
      subst q1; exact h
  · rw [List.length_drop] at hj
    have := (ha (by rintro rfl; simp at hj)).1
    injection this with this; injection this with q1 q2
    subst q1; subst q2
    rw [Nat.add_assoc, hc (k + j) (by omega)]
    simp [List.getD]
theorem IsInts.take {w : World} {b off cap k : Nat} {l : List Int} (H : IsInts w (.slice (some ⟨b, off, none⟩) l.length cap) l) (hk : k ≤ l.length) : IsInts w (.slice (some ⟨b, off, none⟩) k cap) (l.take k) := by
  obtain ⟨a, cap', e, ⟨h1, h2⟩, h3, h4, h5, b', off', ha, hc⟩ := H
  injection e with e1 e2 e3
  subst e1; subst e3
  refine ⟨_, _, by rw [List.length_take, Nat.min_eq_left hk], ⟨by rw [List.length_take]; omega, fun e => by cases e⟩, h3, by rw [List.length_take]; omega, fun x hx => h5 x (List.mem_of_mem_take hx), b', off', fun hne => ha (by rintro rfl; simp at hne), fun j hj => ?_⟩
  rw [List.length_take] at hj
  rw [hc j (by omega)]
  simp [List.getD, show j < k by omega]

theorem In64.append {l m : List Int} (h : In64 l) (k : In64 m) : In64 (l ++ m) := fun x hx => by
  rcases List.mem_append.1 hx with hx | hx
  · exact h x hx
  · exact k x hx
theorem In64.take {l : List Int} (h : In64 l) (k : Nat) : In64 (l.take k) := fun x hx => h x (List.mem_of_mem_take hx)
theorem In64.drop {l : List Int} (h : In64 l) (k : Nat) : In64 (l.drop k) := fun x hx => h x (List.mem_of_mem_drop hx)
theorem In64.one {x : Int} (h1 : -9223372036854775808 ≤ x) (h2 : x ≤ 9223372036854775807) : In64 [x] := fun y hy => by
  rw [List.mem_singleton] at hy; subst hy; exact ⟨h1, h2⟩

theorem insL_at {l : List Int} {x : Int} {k : Nat} (h : k < l.length) (h1 : ¬ litLt (l.getD k 0) x) (h2 : ¬ l.getD k 0 = x) : insL (l.drop k) x = x :: l.drop k := by
  have e2 : l.drop k = l.getD k 0 :: l.drop (k + 1) := by rw [List.drop_eq_getElem_cons h]; simp [List.getD, h]
  rw [e2, insL, if_neg h1, if_neg h2]
theorem insL_is {l : List Int} {x : Int} {k : Nat} (h : k < l.length) (h1 : ¬ litLt (l.getD k 0) x) (h2 : l.getD k 0 = x) : l.take k ++ insL (l.drop k) x = l := by
  have e2 : l.drop k = l.getD k 0 :: l.drop (k + 1) := by rw [List.drop_eq_getElem_cons h]; simp [List.getD, h]
  rw [e2, insL, if_neg h1, if_pos h2, ← e2, List.take_append_drop]

theorem IsInts.none_of {w : World} {ad : Addr} {c : Nat} (hc : c ≤ 9223372036854775807) : IsInts w (.slice (some ad) 0 c) [] :=
  ⟨_, _, rfl, ⟨Nat.zero_le _, fun e => by cases e⟩, hc, by simp, In64.nil, IntsAt.nil _ _⟩

def RetInts (w : World) (xs : List Int) (e : Ending) (w' : World) : Prop := ∃ v, e = .returned v ∧ IsInts w' v xs ∧ Below w.heap.size w w'

end Go.Proofs.YtmiijgjpkkmoaaaGreat

/- The reference's Norm and Join. -/
namespace Go.Proofs.YtmiijgjpkkmoaaaGreat
open Go.RowKit
set_option linter.unusedVariables false

/-- What a call hands back that returns a list and an error number. -/
def RetPair (w : World) (r : List Int × Int) (e : Ending) (w' : World) : Prop := ∃ v, e = .returned (.tuple #[v, .int .i64 r.2]) ∧ IsInts w' v r.1 ∧ Below w.heap.size w w'

def sortI (l : List Int) : List Int := l.foldl insL []
def tautR (l : List Int) : List Int × Int := if mayB l then (l, 0) else ([], 10)
def normR (l : List Int) : List Int × Int := if 200000 < l.length ∨ ¬ (∀ x ∈ l, litB x = true) then ([], 2) else tautR (sortI l)
def joinR (a b : List Int) : List Int × Int := if mayB a && mayB b then tautR (b.foldl insL (sortI a)) else ([], 2)

theorem insL_len (l : List Int) (x : Int) : (insL l x).length ≤ l.length + 1 := by
  induction l with
  | nil => simp [insL]
  | cons y r ih =>
    unfold insL
    by_cases h : litLt y x
    · rw [if_pos h]; simp; omega
    · rw [if_neg h]; split <;> simp
theorem foldl_insL_len (l acc : List Int) : (l.foldl insL acc).length ≤ acc.length + l.length := by
  induction l generalizing acc with
  | nil => simp
  | cons y r ih => have := ih (insL acc y); have := insL_len acc y; simp; omega
theorem foldl_take {acc l : List Int} {k : Nat} (h : k < l.length) : (l.take (k + 1)).foldl insL acc = insL ((l.take k).foldl insL acc) (l.getD k 0) := by
  have e : l.take (k + 1) = l.take k ++ [l.getD k 0] := by rw [List.take_succ_eq_append_getElem h]; simp [List.getD, h]
  rw [e, List.foldl_append]; rfl

theorem ret_pair {v : Value} {a b : Int} (h : a = b) : Ending.returned (.tuple #[v, .int .i64 a]) = .returned (.tuple #[v, .int .i64 b]) := by rw [h]

theorem RetPair.mono {w w1 w' : World} {r : List Int × Int} {e : Ending} (h : RetPair w1 r e w') (hb : Below w.heap.size w w1) (hs : w.heap.size ≤ w1.heap.size) : RetPair w r e w' := by
  obtain ⟨v, h1, h2, h3⟩ := h
  exact ⟨v, h1, h2, hb.trans (h3.mono hs)⟩

end Go.Proofs.YtmiijgjpkkmoaaaGreat

/- The reference's Join and Resolve. -/
namespace Go.Proofs.YtmiijgjpkkmoaaaGreat
open Go.RowKit
set_option linter.unusedVariables false

theorem sortI_len (l : List Int) : (sortI l).length ≤ l.length := by have := foldl_insL_len l []; unfold sortI; simpa using this

def resR (a b : List Int) (v : Int) : List Int × Int :=
  if mayB a && mayB b then (if v ≤ 0 ∨ memB a v = false ∨ memB b (-v) = false then ([], 6) else joinR (withoutL a v) (withoutL b v)) else ([], 2)

theorem RetOwn.ints {w w' : World} {v : Value} {B : Nat} {xs : List Int} (h : Own w' B v xs) (hl : xs.length ≤ 17592186044416) (h64 : In64 xs) : IsInts w' v xs := h.ints hl h64
theorem withoutL_len (l : List Int) (x : Int) : (withoutL l x).length ≤ l.length := by
  unfold withoutL; split
  · exact List.length_filter_le _ _
  · simp
theorem withoutL_64 {l : List Int} (h : In64 l) (x : Int) : In64 (withoutL l x) := by
  unfold withoutL; split
  · exact fun y hy => h y (List.mem_filter.1 hy).1
  · exact In64.nil

theorem IsInts.len {w : World} {v : Value} {l : List Int} (h : IsInts w v l) : l.length ≤ 17592186044416 := by obtain ⟨_, _, _, _, _, h, _⟩ := h; exact h
theorem IsInts.in64 {w : World} {v : Value} {l : List Int} (h : IsInts w v l) : In64 l := by obtain ⟨_, _, _, _, _, _, h, _⟩ := h; exact h

end Go.Proofs.YtmiijgjpkkmoaaaGreat

/- The reference's Sub, Strike and Compare. -/
namespace Go.Proofs.YtmiijgjpkkmoaaaGreat
open Go.RowKit
set_option linter.unusedVariables false

def allIn (a b : List Int) : Bool := decide (∀ x ∈ a, x ∈ b)
def subR (a b : List Int) : Bool := mayB a && mayB b && allIn a b

def cmpL : List Int → List Int → Int
  | [], [] => 0
  | [], _ :: _ => -1
  | _ :: _, [] => 1
  | x :: r, y :: s => if litLt x y then -1 else if litLt y x then 1 else cmpL r s

theorem cmpL_drop {a b : List Int} {k : Nat} (h : k < a.length) (h2 : k < b.length) :
    cmpL (a.drop k) (b.drop k) = if litLt (a.getD k 0) (b.getD k 0) then -1 else if litLt (b.getD k 0) (a.getD k 0) then 1 else cmpL (a.drop (k + 1)) (b.drop (k + 1)) := by
  have e1 : a.drop k = a.getD k 0 :: a.drop (k + 1) := by rw [List.drop_eq_getElem_cons h]; simp [List.getD, h]
  have e2 : b.drop k = b.getD k 0 :: b.drop (k + 1) := by rw [List.drop_eq_getElem_cons h2]; simp [List.getD, h2]
  rw [e1, e2, cmpL]
theorem cmpL_end {a b : List Int} {k : Nat} (hk1 : k ≤ a.length) (hk2 : k ≤ b.length) (h : ¬ (k < a.length ∧ k < b.length)) :
    cmpL (a.drop k) (b.drop k) = if a.length < b.length then -1 else if b.length < a.length then 1 else 0 := by
  by_cases h1 : k < a.length
  · have h2 : b.drop k = [] := List.drop_eq_nil_of_le (by omega)
    rw [h2, List.drop_eq_getElem_cons h1, cmpL, if_neg (by omega), if_pos (by omega)]
  · have h1' : a.drop k = [] := List.drop_eq_nil_of_le (by omega)
    by_cases h2 : k < b.length
    · rw [h1', List.drop_eq_getElem_cons h2, cmpL, if_pos (by omega)]
    · rw [h1', List.drop_eq_nil_of_le (by omega), cmpL, if_neg (by omega), if_neg (by omega)]

end Go.Proofs.YtmiijgjpkkmoaaaGreat

/- The reference's Strike. -/
namespace Go.Proofs.YtmiijgjpkkmoaaaGreat
open Go.RowKit
set_option linter.unusedVariables false

def strkB (a b : List Int) (y : Int) : Bool := memB a (-y) && subR (withoutL a (varOf y)) b
def strikeR (a b : List Int) : Int := if mayB a && mayB b then (b.find? (strkB a b)).getD 0 else 0

theorem find_at {p : Int → Bool} {l : List Int} {k : Nat} (h : k < l.length) (hn : ∀ y ∈ l.take k, p y = false) (hp : p (l.getD k 0) = true) : l.find? p = some (l.getD k 0) := by
  have e : l = l.take k ++ (l.getD k 0 :: l.drop (k + 1)) := by
    have e2 : l.drop k = l.getD k 0 :: l.drop (k + 1) := by rw [List.drop_eq_getElem_cons h]; simp [List.getD, h]
    rw [← e2, List.take_append_drop]
  have hf : (l.take k).find? p = none := by rw [List.find?_eq_none]; intro x hx; simp [hn x hx]
  generalize l.getD k 0 = y at *
  rw [e, List.find?_append, hf, List.find?_cons, hp]; rfl
theorem find_none {p : Int → Bool} {l : List Int} (hn : ∀ y ∈ l, p y = false) : l.find? p = none := by
  rw [List.find?_eq_none]; intro x hx; simp [hn x hx]
theorem forall_take_succ {p : Int → Prop} {l : List Int} {k : Nat} (h : k < l.length) (hn : ∀ y ∈ l.take k, p y) (hp : p (l.getD k 0)) : ∀ y ∈ l.take (k + 1), p y := by
  have e : l.take (k + 1) = l.take k ++ [l.getD k 0] := by rw [List.take_succ_eq_append_getElem h]; simp [List.getD, h]
  rw [e]
  intro y hy
  rcases List.mem_append.1 hy with hy | hy
  · exact hn y hy
  · rw [List.mem_singleton] at hy; rw [hy]; exact hp

end Go.Proofs.YtmiijgjpkkmoaaaGreat
