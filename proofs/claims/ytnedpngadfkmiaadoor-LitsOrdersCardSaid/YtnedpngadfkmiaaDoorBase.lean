/- Words for what a slice of integers holds, and facts on lists. -/
import Derived.Test.YtnedpngadfkmiaaDoorProg
import Derived.WalkKit
import Derived.WalkSpells
import Derived.WalkLawsBesides
import Derived.Lib.Hide
import Derived.Deep.QuietTactic
import Derived.BigQuiet
namespace Go.Proofs.YtnedpngadfkmiaaDoor
open Go.RowKit
set_option linter.unusedVariables false

/-- The slice's address leads to these integers; of an empty one nothing is known. -/
def IntsAt (w : World) (a : Option Addr) (l : List Int) : Prop :=
  ∃ b off, (l ≠ [] → a = some ⟨b, off, none⟩ ∧ b < w.heap.size) ∧ ∀ j, j < l.length → w.cell? ⟨b, off + j, none⟩ = some (.int .i64 (l.getD j 0))

/-- All are of the kind int. -/
def In64 (l : List Int) : Prop := ∀ x ∈ l, -9223372036854775808 ≤ x ∧ x ≤ 9223372036854775807

theorem In64.at {l : List Int} (h : In64 l) (k : Nat) (hk : k < l.length) : -9223372036854775808 ≤ l.getD k 0 ∧ l.getD k 0 ≤ 9223372036854775807 := by
  have := h (l.getD k 0) (by simp [List.getD, hk])
  exact this

/-- Some draws apart, the world is as it was. -/
def Quiet (w w' : World) : Prop := ∃ m, w' = w.drewN m
theorem Quiet.refl (w : World) : Quiet w w := ⟨0, rfl⟩
theorem Quiet.trans {a b c : World} (h : Quiet a b) (k : Quiet b c) : Quiet a c := by
  obtain ⟨m, rfl⟩ := h; obtain ⟨n, rfl⟩ := k; exact ⟨m + n, by rw [World.drewN_drewN]⟩
theorem Quiet.drewN {a b : World} (h : Quiet a b) (n : Nat) : Quiet a (b.drewN n) := h.trans ⟨n, rfl⟩
theorem Quiet.cell {w w' : World} (h : Quiet w w') (a : Addr) : w'.cell? a = w.cell? a := by obtain ⟨m, rfl⟩ := h; rfl
theorem Quiet.size {w w' : World} (h : Quiet w w') : w'.heap.size = w.heap.size := by obtain ⟨m, rfl⟩ := h; rfl
theorem Quiet.below {w w' : World} (h : Quiet w w') (B : Nat) : Below B w w' := by
  obtain ⟨m, rfl⟩ := h
  exact ⟨rfl, rfl, rfl, Nat.le_refl _, fun _ _ => rfl⟩
theorem Quiet.of_eq {w w' : World} (h : w = w') : Quiet w w' := ⟨0, h.symm⟩
theorem Quiet.ints {w w' : World} (h : Quiet w w') {a : Option Addr} {l : List Int} (H : IntsAt w a l) : IntsAt w' a l := by
  obtain ⟨m, rfl⟩ := h; exact H

theorem quiet_left {P : Program} {f : FuncId} {args : Array Value} {w : World} {n : Nat} {v : Value}
    (h : Calls P f args (w.drewN n) fun e w' => e = .returned v ∧ w.drewN n = w') : Calls P f args (w.drewN n) fun e w'' => e = .returned v ∧ ∃ m, w'' = w.drewN m :=
  h.mono fun _ _ ⟨he, hm⟩ => ⟨he, n, hm.symm⟩
theorem quiet_q {P : Program} {f : FuncId} {args : Array Value} {w : World} {n : Nat} {v : Value}
    (h : Calls P f args (w.drewN n) fun e w' => e = .returned v ∧ Quiet (w.drewN n) w') : Calls P f args (w.drewN n) fun e w'' => e = .returned v ∧ ∃ m, w'' = w.drewN m :=
  h.mono fun _ _ ⟨he, m, hm⟩ => ⟨he, n + m, by rw [hm, World.drewN_drewN]⟩

theorem IntsAt.below {w w' : World} {B : Nat} {a : Option Addr} {l : List Int} (h : IntsAt w a l) (hb : Below B w w') (hB : w.heap.size ≤ B) : IntsAt w' a l := by
  obtain ⟨b, off, ha, hc⟩ := h
  refine ⟨b, off, fun hl => ⟨(ha hl).1, Nat.lt_of_lt_of_le (ha hl).2 hb.size⟩, fun j hj => ?_⟩
  have hlt : b < w.heap.size := (ha (by intro h; simp [h] at hj)).2
  rw [hb.cell (p := ⟨b, off + j, none⟩) (Nat.lt_of_lt_of_le hlt hB)]
  exact hc j hj

/-- The value is a slice that holds these integers. -/
def IsInts (w : World) (v : Value) (l : List Int) : Prop :=
  ∃ a cap, v = .slice a l.length cap ∧ (l.length ≤ cap ∧ (a = none → cap = 0)) ∧ cap ≤ 9223372036854775807 ∧ l.length ≤ 17592186044416 ∧ In64 l ∧ IntsAt w a l

theorem IsInts.below {w w' : World} {B : Nat} {v : Value} {l : List Int} (h : IsInts w v l) (hb : Below B w w') (hB : w.heap.size ≤ B) : IsInts w' v l := by
  obtain ⟨a, cap, h1, h2, h3, h4, h5, h6⟩ := h
  exact ⟨a, cap, h1, h2, h3, h4, h5, h6.below hb hB⟩
theorem IsInts.quiet {w w' : World} {v : Value} {l : List Int} (h : IsInts w v l) (hq : Quiet w w') : IsInts w' v l := h.below (hq.below _) (Nat.le_refl _)
theorem IsInts.drewN {w : World} {v : Value} {l : List Int} (h : IsInts w v l) (n : Nat) : IsInts (w.drewN n) v l := h.quiet ⟨n, rfl⟩
theorem In64.nil : In64 [] := fun x h => by cases h
theorem IntsAt.nil (w : World) (a : Option Addr) : IntsAt w a [] := ⟨0, 0, fun h => absurd rfl h, fun j hj => absurd hj (Nat.not_lt_zero _)⟩
theorem IsInts.nil (w : World) : IsInts w (.slice none 0 0) [] := ⟨none, 0, rfl, ⟨Nat.le_refl _, fun _ => rfl⟩, by omega, by simp, In64.nil, IntsAt.nil _ _⟩

/-- The value is a slice that holds slices of these integers. -/
def IsRows (w : World) (v : Value) (ls : List (List Int)) : Prop :=
  ∃ a cap, v = .slice a ls.length cap ∧ (ls.length ≤ cap ∧ (a = none → cap = 0)) ∧ cap ≤ 9223372036854775807 ∧ ls.length ≤ 17592186044416 ∧
    ∃ b off, (ls ≠ [] → a = some ⟨b, off, none⟩ ∧ b < w.heap.size) ∧ ∀ j, j < ls.length → ∃ u, w.cell? ⟨b, off + j, none⟩ = some u ∧ IsInts w u (ls.getD j [])

theorem IsRows.below {w w' : World} {B : Nat} {v : Value} {l : List (List Int)} (h : IsRows w v l) (hb : Below B w w') (hB : w.heap.size ≤ B) : IsRows w' v l := by
  obtain ⟨a, cap, h1, h2, h3, h4, b, off, ha, hc⟩ := h
  refine ⟨a, cap, h1, h2, h3, h4, b, off, fun hl => ⟨(ha hl).1, Nat.lt_of_lt_of_le (ha hl).2 hb.size⟩, fun j hj => ?_⟩
  have hlt : b < w.heap.size := (ha (by intro h; simp [h] at hj)).2
  rw [hb.cell (p := ⟨b, off + j, none⟩) (Nat.lt_of_lt_of_le hlt hB)]
  obtain ⟨u, hu, hi⟩ := hc j hj
  exact ⟨u, hu, hi.below hb hB⟩
theorem IsRows.quiet {w w' : World} {v : Value} {l : List (List Int)} (h : IsRows w v l) (hq : Quiet w w') : IsRows w' v l := h.below (hq.below _) (Nat.le_refl _)
theorem IsRows.nil (w : World) : IsRows w (.slice none 0 0) [] := ⟨none, 0, rfl, ⟨Nat.le_refl _, fun _ => rfl⟩, by omega, by simp, 0, 0, fun h => absurd rfl h, fun j hj => absurd hj (Nat.not_lt_zero _)⟩

end Go.Proofs.YtnedpngadfkmiaaDoor
