/- lits.Join and Resolve. -/
import Derived.Test.YtnedpngadfkmiaaDoorMerge
import Derived.Shelf.Abstract
namespace Go.Proofs.YtnedpngadfkmiaaDoor
open Go.RowKit Go.Shelf
set_option linter.unusedVariables false

def com1 (x y : Int) : Int × Int := if x = y then (x, 0) else (0, 10)
def comR (v x y : Int) : Int × Int := if x = v then (0, 0) else com1 x y
def joinL (l m : List Int) : List Int × Int := if mayB l && mayB m then mergeL com1 l m else ([], 2)
def resL (a b : List Int) (v : Int) : List Int × Int :=
  if mayB a && mayB b then (if v ≤ 0 ∨ memB a v = false ∨ memB b (-v) = false then ([], 6) else mergeL (comR v) a b) else ([], 2)

theorem com1_bd (x y : Int) (h1 : -9223372036854775808 ≤ x) (h2 : x ≤ 9223372036854775807) : -9223372036854775808 ≤ (com1 x y).1 ∧ (com1 x y).1 ≤ 9223372036854775807 := by
  unfold com1; split <;> simp <;> omega
theorem comR_bd (v x y : Int) (h1 : -9223372036854775808 ≤ x) (h2 : x ≤ 9223372036854775807) : -9223372036854775808 ≤ (comR v x y).1 ∧ (comR v x y).1 ≤ 9223372036854775807 := by
  unfold comR; split
  · simp
  · exact com1_bd x y h1 h2

set_option maxHeartbeats 400000 in
theorem agreed_any (x y : Int) (w : World) (h1 : -9223372036854775808 ≤ x) (h2 : x ≤ 9223372036854775807) (h3 : -9223372036854775808 ≤ y) (h4 : y ≤ 9223372036854775807) :
    Calls Tryd.prog 96 #[.int .i64 x, .int .i64 y] w fun e w' => e = .returned (.tuple #[.int .i64 (com1 x y).1, .int .i64 (com1 x y).2]) ∧ w = w' := by
  by_cases h : x = y
  · have e : com1 x y = (x, 0) := by unfold com1; rw [if_pos h]
    rw [e]
    subst h
    have hb : (x != x) = false := by simp
    clear e
    go_enter Tryd.func96, Tryd.ntmps96
    go_wp2
    go_ret2
    exact ⟨rfl, rfl⟩
  · have e : com1 x y = (0, 10) := by unfold com1; rw [if_neg h]
    rw [e]
    have hb : (x != y) = true := by simpa using h
    clear e
    go_enter Tryd.func96, Tryd.ntmps96
    go_wp2
    go_ret2
    exact ⟨rfl, rfl⟩

theorem agreed_enters (args : Array Value) (w : World) : (callFunc 96 args).run Tryd.prog w = .ok (.enter 96 args) w := enters_of Tryd.func96 (by kernel_rfl) rfl args w

theorem agreed_tells (w : World) : Tells Tryd.prog 96 #[] com1 w := fun W x y _ h1 h2 h3 h4 => agreed_any x y W h1 h2 h3 h4

set_option maxHeartbeats 800000 in
set_option maxRecDepth 100000 in
theorem join_any (v u : Value) (l m : List Int) (w : World) (H : IsInts w v l) (K : IsInts w u m) (hlen : l.length + m.length ≤ 17592186044416) :
    Calls Tryd.prog 34 #[v, u] w (RetPair w (joinL l m)) := by
  by_cases hm1 : mayB l = true
  · by_cases hm2 : mayB m = true
    · have HF : Hid (joinL l m = mergeL com1 l m) := by show _ = _; unfold joinL; rw [hm1, hm2]; rfl
      have hc := merge_any com1 com1_bd 96 #[] v u l m w agreed_enters (agreed_tells w) H K hlen
      go_enter Tryd.func34, Tryd.ntmps34
      go_wp2_with fail
      refine (may_v _ l _ H).mono ?_
      rintro e w1 ⟨rfl, rfl⟩
      go_wp2_with fail
      refine (may_v _ m _ K).mono ?_
      rintro e w1 ⟨rfl, rfl⟩
      go_wp2_with fail
      refine hc.mono ?_
      rintro e w1 ⟨v1, rfl, h1, h2⟩
      go_wp2
      go_ret2
      exact ⟨_, ret_pair (by rw [HF.out]), by rw [HF.out]; exact h1, h2⟩
    · have hm2' : mayB m = false := by simpa using hm2
      have HF : Hid (joinL l m = ([], 2)) := by show _ = _; unfold joinL; rw [hm1, hm2']; rfl
      clear hm2
      go_enter Tryd.func34, Tryd.ntmps34
      go_wp2_with fail
      refine (may_v _ l _ H).mono ?_
      rintro e w1 ⟨rfl, rfl⟩
      go_wp2_with fail
      refine (may_v _ m _ K).mono ?_
      rintro e w1 ⟨rfl, rfl⟩
      go_wp2
      go_ret2
      exact ⟨_, ret_pair (by rw [HF.out]), by rw [HF.out]; exact IsInts.nil _, Below.refl _ _⟩
  · have hm1' : mayB l = false := by simpa using hm1
    have HF : Hid (joinL l m = ([], 2)) := by show _ = _; unfold joinL; rw [hm1']; rfl
    clear hm1
    go_enter Tryd.func34, Tryd.ntmps34
    go_wp2_with fail
    refine (may_v _ l _ H).mono ?_
    rintro e w1 ⟨rfl, rfl⟩
    go_wp2
    go_ret2
    exact ⟨_, ret_pair (by rw [HF.out]), by rw [HF.out]; exact IsInts.nil _, Below.refl _ _⟩

set_option maxHeartbeats 400000 in
theorem rclos_any (x y v : Int) (b : Nat) (w : World) (h1 : -9223372036854775808 ≤ x) (h2 : x ≤ 9223372036854775807) (h3 : -9223372036854775808 ≤ y) (h4 : y ≤ 9223372036854775807) (hv : w.cell? ⟨b, 0, none⟩ = some (.int .i64 v)) :
    Calls Tryd.prog 97 #[.int .i64 x, .int .i64 y, .pointer (some ⟨b, 0, none⟩)] w fun e w' => e = .returned (.tuple #[.int .i64 (comR v x y).1, .int .i64 (comR v x y).2]) ∧ w = w' := by
  by_cases h : x = v
  · have e : comR v x y = (0, 0) := by unfold comR; rw [if_pos h]
    rw [e]
    subst h
    have hb : (x == x) = true := by simp
    clear e
    go_enter Tryd.func97, Tryd.ntmps97
    go_wp2
    go_ret2
    exact ⟨rfl, rfl⟩
  · have e : comR v x y = com1 x y := by unfold comR; rw [if_neg h]
    rw [e]
    have hb : (x == v) = false := by simpa using h
    have hc := agreed_any x y w h1 h2 h3 h4
    clear e h
    generalize com1 x y = z at *
    go_enter Tryd.func97, Tryd.ntmps97
    go_wp2_with fail
    refine hc.mono ?_
    rintro e w' ⟨rfl, rfl⟩
    go_wp2
    go_ret2
    exact ⟨rfl, rfl⟩

theorem rclos_enters (args : Array Value) (w : World) : (callFunc 97 args).run Tryd.prog w = .ok (.enter 97 args) w := enters_of Tryd.func97 (by kernel_rfl) rfl args w
theorem rclos_tells (w : World) (v : Int) (b : Nat) (hv : w.cell? ⟨b, 0, none⟩ = some (.int .i64 v)) (hb : b < w.heap.size) : Tells Tryd.prog 97 #[.pointer (some ⟨b, 0, none⟩)] (comR v) w :=
  fun W x y hbel h1 h2 h3 h4 => rclos_any x y v b W h1 h2 h3 h4 ((hbel.cell (p := ⟨b, 0, none⟩) hb).trans hv)

end Go.Proofs.YtnedpngadfkmiaaDoor
