/- The reader of lits.Read: its block, end, take. -/
import Derived.Test.YtnedpngadfkmiaaDoorText
import Derived.Lib.OthersKept
import Derived.Lib.BufferMore
namespace Go.Proofs.YtnedpngadfkmiaaDoor
open Go.RowKit
set_option linter.unusedVariables false

def IsRd (w : World) (b : Nat) (v : Value) (s : Rd) : Prop := w.heap[b]? = some (.cells #[v, .int .i64 s.before, .bool s.minus, .int .i64 s.num] 97 (0, 0))
theorem IsRd.c0 {w : World} {b : Nat} {v : Value} {s : Rd} (h : IsRd w b v s) : w.cell? ⟨b, 0, none⟩ = some v := by simp [World.cell?, show w.heap[b]? = _ from h]
theorem IsRd.c1 {w : World} {b : Nat} {v : Value} {s : Rd} (h : IsRd w b v s) : w.cell? ⟨b, 1, none⟩ = some (.int .i64 s.before) := by simp [World.cell?, show w.heap[b]? = _ from h]
theorem IsRd.c2 {w : World} {b : Nat} {v : Value} {s : Rd} (h : IsRd w b v s) : w.cell? ⟨b, 2, none⟩ = some (.bool s.minus) := by simp [World.cell?, show w.heap[b]? = _ from h]
theorem IsRd.c3 {w : World} {b : Nat} {v : Value} {s : Rd} (h : IsRd w b v s) : w.cell? ⟨b, 3, none⟩ = some (.int .i64 s.num) := by simp [World.cell?, show w.heap[b]? = _ from h]
theorem IsRd.fz {w : World} {b : Nat} {v : Value} {s : Rd} (h : IsRd w b v s) (j : Nat) : w.frozen? ⟨b, j, none⟩ = false := by simp [World.frozen?, show w.heap[b]? = _ from h]
theorem IsRd.lt {w : World} {b : Nat} {v : Value} {s : Rd} (h : IsRd w b v s) : b < w.heap.size := (Array.getElem?_eq_some_iff.1 h).1
theorem IsRd.heap {w w' : World} {b : Nat} {v : Value} {s : Rd} (h : IsRd w b v s) (e : w'.heap[b]? = w.heap[b]?) : IsRd w' b v s := e.trans h
/-- An own row of integers is not the reader's block. -/
theorem IsRd.ne {w : World} {B b : Nat} {v u : Value} {s : Rd} {xs : List Int} (h : IsRd w b v s) (ho : Own w B u xs) : u.ownBlock ≠ some b := by
  intro e
  rcases ho.2 with ⟨rfl, _⟩ | ⟨g, cap, cur, rfl, _, hg, _⟩
  · cases e
  · injection e with e
    subst e
    rw [show w.heap[g]? = _ from h] at hg
    injection hg with hg
    injection hg with _ ht _
    revert ht; decide
theorem Own.rows {w : World} {B : Nat} {u : Value} {xs : List Int} (ho : Own w B u xs) : ∀ g, u.ownBlock = some g → ∃ c fz, w.heap[g]? = some (.cells c 3 fz) := by
  intro g e
  rcases ho.2 with ⟨rfl, _⟩ | ⟨g', cap, cur, rfl, _, hg, _⟩
  · cases e
  · injection e with e
    subst e
    exact ⟨_, _, hg⟩
theorem Own.slice {w : World} {B : Nat} {u : Value} {xs : List Int} (ho : Own w B u xs) : ∃ a n c, u = .slice a n c := by
  rcases ho.2 with ⟨rfl, _⟩ | ⟨g', cap, cur, rfl, _, hg, _⟩
  · exact ⟨_, _, _, rfl⟩
  · exact ⟨_, _, _, rfl⟩
theorem IsRd.alloc {w : World} {b : Nat} {v : Value} {s : Rd} (h : IsRd w b v s) (o : Obj) : IsRd (w.alloc o) b v s := (Lib.alloc_old w o b h.lt).trans h
theorem IsRd.grown {w w' : World} {B b : Nat} {v u : Value} {s : Rd} {xs : List Int} (h : IsRd w b v s) (ho : Own w B u xs) (hg : w.grownBy w' u.ownBlock) : IsRd w' b v s :=
  h.heap (hg.block b h.lt (fun e => h.ne ho e.symm))
/-- A store into the reader's block leaves an own row as it is. -/
theorem Own.setRd {w : World} {B b : Nat} {v u : Value} {s : Rd} {xs : List Int} (ho : Own w B u xs) (h : IsRd w b v s) (j : Nat) (x : Value) : Own (w.setCell ⟨b, j, none⟩ x) B u xs := by
  refine ⟨ho.1, ?_⟩
  have hne := h.ne ho
  rcases ho.2 with hn | ⟨g, cap, cur, rfl, hB, hg, rest⟩
  · exact .inl hn
  · refine .inr ⟨g, cap, cur, rfl, hB, ?_, rest⟩
    rw [Below.heap_setCell _ _ _ _ (fun e => hne (by rw [show g = b from e]; rfl))]
    exact hg

/-- What a step of the reader leaves: the state that it has come to, or no. -/
def StepPost (B b : Nat) (w : World) (r : Option Rd) (e : Ending) (w' : World) : Prop :=
  Below B w w' ∧ Lib.OthersKept 3 (some b) w w' ∧ (r = none → e = .returned (.bool false)) ∧ ∀ s', r = some s' → e = .returned (.bool true) ∧ ∃ v', IsRd w' b v' s' ∧ Own w' B v' s'.list

theorem endS_none {s : Rd} (h : s.num ≤ s.before) : s.endS = none := by unfold Rd.endS; rw [if_pos h]
theorem endS_some {s : Rd} (h : ¬ s.num ≤ s.before) {x : Int} (hx : x = s.lit) : s.endS = some ⟨s.list ++ [x], s.num, false, 0⟩ := by unfold Rd.endS; rw [if_neg h, hx]
theorem stepNo {B b : Nat} {w w' : World} {r : Option Rd} {e : Ending} (hr : r = none) (he : e = .returned (.bool false)) (h1 : Below B w w') (h2 : Lib.OthersKept 3 (some b) w w') : StepPost B b w r e w' :=
  ⟨h1, h2, fun _ => he, fun s' h => by rw [hr] at h; cases h⟩
theorem stepYes {B b : Nat} {w w' : World} {r : Option Rd} {s : Rd} {v : Value} {e : Ending} (hr : r = some s) (he : e = .returned (.bool true)) (h1 : Below B w w') (h2 : Lib.OthersKept 3 (some b) w w') (h3 : IsRd w' b v s) (h4 : Own w' B v s.list) : StepPost B b w r e w' :=
  ⟨h1, h2, (fun h => by rw [hr] at h; cases h), fun s' h => by rw [hr] at h; injection h with h; subst h; exact ⟨he, v, h3, h4⟩⟩

/-- What end stores. -/
theorem end_world {B b : Nat} {w w2 : World} {v v2 : Value} {s : Rd} {x : Int} (hB : B ≤ b) (h : IsRd w2 b v s) (ho : Own w2 B v2 (s.list ++ [x])) (h1 : Below B w w2) (h2 : Lib.OthersKept 3 (some b) w w2) :
    ∀ w3, w3 = (((w2.setCell ⟨b, 0, none⟩ v2).setCell ⟨b, 1, none⟩ (.int .i64 s.num)).setCell ⟨b, 2, none⟩ (.bool false)).setCell ⟨b, 3, none⟩ (.int .i64 0) →
    Below B w w3 ∧ Lib.OthersKept 3 (some b) w w3 ∧ IsRd w3 b v2 ⟨s.list ++ [x], s.num, false, 0⟩ ∧ Own w3 B v2 (s.list ++ [x]) := by
  rintro w3 rfl
  have k0 : IsRd (w2.setCell ⟨b, 0, none⟩ v2) b v2 s := by have := Lib.heap_setCell_same (i := 0) h v2; simpa [IsRd] using this
  have k1 : IsRd ((w2.setCell ⟨b, 0, none⟩ v2).setCell ⟨b, 1, none⟩ (.int .i64 s.num)) b v2 ⟨s.list, s.num, s.minus, s.num⟩ := by have := Lib.heap_setCell_same (i := 1) k0 (.int .i64 s.num); simpa [IsRd] using this
  have k2 : IsRd (((w2.setCell ⟨b, 0, none⟩ v2).setCell ⟨b, 1, none⟩ (.int .i64 s.num)).setCell ⟨b, 2, none⟩ (.bool false)) b v2 ⟨s.list, s.num, false, s.num⟩ := by have := Lib.heap_setCell_same (i := 2) k1 (.bool false); simpa [IsRd] using this
  have k3 : IsRd ((((w2.setCell ⟨b, 0, none⟩ v2).setCell ⟨b, 1, none⟩ (.int .i64 s.num)).setCell ⟨b, 2, none⟩ (.bool false)).setCell ⟨b, 3, none⟩ (.int .i64 0)) b v2 ⟨s.list ++ [x], s.num, false, 0⟩ := by have := Lib.heap_setCell_same (i := 3) k2 (.int .i64 0); simpa [IsRd] using this
  exact ⟨(((h1.setCell (p := ⟨b, 0, none⟩) hB _).setCell (p := ⟨b, 1, none⟩) hB _).setCell (p := ⟨b, 2, none⟩) hB _).setCell (p := ⟨b, 3, none⟩) hB _, (((h2.setCell ⟨b, 0, none⟩ rfl _).setCell ⟨b, 1, none⟩ rfl _).setCell ⟨b, 2, none⟩ rfl _).setCell ⟨b, 3, none⟩ rfl _, k3, (((ho.setRd h 0 _).setRd k0 1 _).setRd k1 2 _).setRd k2 3 _⟩

set_option maxHeartbeats 400000 in
set_option maxRecDepth 100000 in
theorem end_any (B b : Nat) (v : Value) (s : Rd) (w : World) (hB : B ≤ b) (hr : IsRd w b v s) (ho : Own w B v s.list) (hBw : B ≤ w.heap.size) (hlen : s.list.length < 17592186044416)
    (hn1 : 0 ≤ s.num) (hn2 : s.num ≤ 9223372036854775807) (hb1 : -9223372036854775808 ≤ s.before) (hb2 : s.before ≤ 9223372036854775807) :
    Calls Tryd.prog 111 #[.pointer (some ⟨b, 0, none⟩)] w (StepPost B b w s.endS) := by
  have hbq : ∀ n, Below B w (w.drewN n) := fun n => (Quiet.below ⟨n, rfl⟩ B)
  have hkq : ∀ n, Lib.OthersKept 3 (some b) w (w.drewN n) := fun n _ _ h _ _ => h
  have HBQ := Lib.hid hbq
  have HKQ := Lib.hid hkq
  clear hbq hkq
  by_cases hle : s.num ≤ s.before
  · have HE := Lib.hid (endS_none hle)
    have hc1 := hr.c1
    have hc3 := hr.c3
    go_enter Tryd.func111, Tryd.ntmps111
    go_wp2_with fail
    go_quiet (fail)
    go_wp2
    go_ret
    exact stepNo HE.out rfl (HBQ.out _) (HKQ.out _)
  · cases hm : s.minus
    · have HE := Lib.hid (endS_some hle (x := s.num) (by unfold Rd.lit; rw [hm]; rfl))
      have hc1 := hr.c1
      have hc3 := hr.c3
      go_enter Tryd.func111, Tryd.ntmps111
      go_wp2_with fail
      go_quiet (fail)
      have hrq : IsRd (w.drewN nq) b v s := hr
      have hoq : Own (w.drewN nq) B v s.list := ho
      have hbq := HBQ.out nq
      have hkq := HKQ.out nq
      have hBq : B ≤ (w.drewN nq).heap.size := hBw
      clear hc1 hc3 hr ho hBw
      generalize w.drewN nq = wq at *
      have hc0 := hrq.c0
      have hc2 := hrq.c2
      have hc3 := hrq.c3
      rw [hm] at hc2
      go_wp2_with (at_builtin; refine wpList_app1 rfl _ _ rfl B v s.list (s.num) wq.heap.size rfl rfl (hoq.alloc _) (by simp) hlen (by simp; omega) ?_; intro v2 w2 hown2 hg2; have hr2 := (hrq.alloc _).grown (hoq.alloc _) hg2; have hb2 := below_app (hbq.alloc hBq _) (hoq.alloc _) (by simp; omega) hg2; have hk2 := (hkq.alloc _).grown hg2 (hoq.alloc _).rows; have e0 := hr2.c0; have e1 := hr2.c1; have e2 := hr2.c2; have e3 := hr2.c3; have f0 := hr2.fz 0; have f1 := hr2.fz 1; have f2 := hr2.fz 2; have f3 := hr2.fz 3; obtain ⟨ad2, n2, c2, rfl⟩ := hown2.slice)
      go_ret
      obtain ⟨k1, k2, k3, k4⟩ := end_world hB hr2 hown2 hb2 hk2 _ rfl
      exact stepYes HE.out rfl k1 k2 k3 k4
    · have HE := Lib.hid (endS_some hle (x := -s.num) (by unfold Rd.lit; rw [hm]; rfl))
      have hc1 := hr.c1
      have hc3 := hr.c3
      go_enter Tryd.func111, Tryd.ntmps111
      go_wp2_with fail
      go_quiet (fail)
      have hrq : IsRd (w.drewN nq) b v s := hr
      have hoq : Own (w.drewN nq) B v s.list := ho
      have hbq := HBQ.out nq
      have hkq := HKQ.out nq
      have hBq : B ≤ (w.drewN nq).heap.size := hBw
      clear hc1 hc3 hr ho hBw
      generalize w.drewN nq = wq at *
      have hc0 := hrq.c0
      have hc2 := hrq.c2
      have hc3 := hrq.c3
      rw [hm] at hc2
      go_wp2_with (at_builtin; refine wpList_app1 rfl _ _ rfl B v s.list (-s.num) wq.heap.size rfl rfl (hoq.alloc _) (by simp) hlen (by simp; omega) ?_; intro v2 w2 hown2 hg2; have hr2 := (hrq.alloc _).grown (hoq.alloc _) hg2; have hb2 := below_app (hbq.alloc hBq _) (hoq.alloc _) (by simp; omega) hg2; have hk2 := (hkq.alloc _).grown hg2 (hoq.alloc _).rows; have e0 := hr2.c0; have e1 := hr2.c1; have e2 := hr2.c2; have e3 := hr2.c3; have f0 := hr2.fz 0; have f1 := hr2.fz 1; have f2 := hr2.fz 2; have f3 := hr2.fz 3; obtain ⟨ad2, n2, c2, rfl⟩ := hown2.slice)
      go_ret
      obtain ⟨k1, k2, k3, k4⟩ := end_world hB hr2 hown2 hb2 hk2 _ rfl
      exact stepYes HE.out rfl k1 k2 k3 k4

end Go.Proofs.YtnedpngadfkmiaaDoor
