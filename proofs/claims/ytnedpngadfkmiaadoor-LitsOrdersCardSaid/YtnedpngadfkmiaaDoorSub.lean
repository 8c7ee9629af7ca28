/- lits.Sub and Strike. -/
import Derived.Test.YtnedpngadfkmiaaDoorPaired
namespace Go.Proofs.YtnedpngadfkmiaaDoor
open Go.RowKit Go.Shelf
set_option linter.unusedVariables false

def fitS (s x y : Int) : Bool × Int := (decide (x = y), s)
def fitK (s x y : Int) : Bool × Int := if x = y then (true, s) else if s ≠ 0 then (false, s) else (true, y)
def subL (l m : List Int) : Bool := mayB l && mayB m && (pairedL fitS 0 l m).1
def strikeL (l m : List Int) : Int := if mayB l && mayB m then (if (pairedL fitK 0 l m).1 then (pairedL fitK 0 l m).2 else 0) else 0

set_option maxHeartbeats 400000 in
theorem subc_any (x y : Int) (w : World) (h1 : -9223372036854775808 ≤ x) (h2 : x ≤ 9223372036854775807) (h3 : -9223372036854775808 ≤ y) (h4 : y ≤ 9223372036854775807) :
    Calls Tryd.prog 99 #[.int .i64 x, .int .i64 y] w fun e w' => e = .returned (.bool (decide (x = y))) ∧ w = w' := by
  have e : decide (x = y) = (x == y) := by rw [Bool.eq_iff_iff]; simp
  rw [e]
  clear e
  go_enter Tryd.func99, Tryd.ntmps99
  go_wp2
  go_ret
  exact ⟨rfl, rfl⟩
theorem subc_enters (args : Array Value) (w : World) : (callFunc 99 args).run Tryd.prog w = .ok (.enter 99 args) w := enters_of Tryd.func99 (by kernel_rfl) rfl args w

theorem subc_fits (w : World) : Fits Tryd.prog 99 #[] (fun W s => w = W ∧ s = 0) fitS := fun W s x y hs h1 h2 h3 h4 =>
  (subc_any x y W h1 h2 h3 h4).mono fun _ _ ⟨he, hw⟩ => ⟨he, hs.1.trans hw, hs.2⟩

set_option maxHeartbeats 800000 in
theorem sub_any (v u : Value) (l m : List Int) (w : World) (H : IsInts w v l) (K : IsInts w u m) :
    Calls Tryd.prog 38 #[v, u] w fun e w' => e = .returned (.bool (subL l m)) ∧ w = w' := by
  have hc := paired_any fitS 99 #[] (fun W s => w = W ∧ s = 0) v u l m w w 0 subc_enters (subc_fits w) (fun W s h => by rw [← h.1]; exact Below.refl _ _) ⟨rfl, rfl⟩ H K
  by_cases hm1 : mayB l = true
  · by_cases hm2 : mayB m = true
    · have HF : Hid (subL l m = (pairedL fitS 0 l m).1) := by show _ = _; unfold subL; rw [hm1, hm2]; rfl
      generalize pairedL fitS 0 l m = z at *
      go_enter Tryd.func38, Tryd.ntmps38
      go_wp2_with fail
      refine (may_v _ l _ H).mono ?_
      rintro e w1 ⟨rfl, rfl⟩
      go_wp2_with fail
      refine (may_v _ m _ K).mono ?_
      rintro e w1 ⟨rfl, rfl⟩
      go_wp2_with fail
      refine hc.mono ?_
      rintro e w1 ⟨rfl, rfl, _⟩
      go_wp2
      go_ret
      exact ⟨ret_bool (by rw [HF.out]), rfl⟩
    · have hm2' : mayB m = false := by simpa using hm2
      have HF : Hid (subL l m = false) := by show _ = _; unfold subL; rw [hm1, hm2']; rfl
      clear hm2 hc
      go_enter Tryd.func38, Tryd.ntmps38
      go_wp2_with fail
      refine (may_v _ l _ H).mono ?_
      rintro e w1 ⟨rfl, rfl⟩
      go_wp2_with fail
      refine (may_v _ m _ K).mono ?_
      rintro e w1 ⟨rfl, rfl⟩
      go_wp2
      go_ret
      exact ⟨ret_bool HF.out.symm, rfl⟩
  · have hm1' : mayB l = false := by simpa using hm1
    have HF : Hid (subL l m = false) := by show _ = _; unfold subL; rw [hm1']; rfl
    clear hm1 hc
    go_enter Tryd.func38, Tryd.ntmps38
    go_wp2_with fail
    refine (may_v _ l _ H).mono ?_
    rintro e w1 ⟨rfl, rfl⟩
    go_wp2
    go_ret
    exact ⟨ret_bool HF.out.symm, rfl⟩

/-- The struck literal lies in its own block behind w. -/
def SK (w : World) (W : World) (s : Int) : Prop :=
  Below w.heap.size w W ∧ W.cell? ⟨w.heap.size, 0, none⟩ = some (.int .i64 s) ∧ W.frozen? ⟨w.heap.size, 0, none⟩ = false ∧ -9223372036854775808 ≤ s ∧ s ≤ 9223372036854775807

set_option maxHeartbeats 400000 in
theorem strc_any (w W : World) (s x y : Int) (hs : SK w W s) (h1 : -9223372036854775808 ≤ x) (h2 : x ≤ 9223372036854775807) (h3 : -9223372036854775808 ≤ y) (h4 : y ≤ 9223372036854775807) :
    Calls Tryd.prog 100 #[.int .i64 x, .int .i64 y, .pointer (some ⟨w.heap.size, 0, none⟩)] W fun e w' => e = .returned (.bool (fitK s x y).1) ∧ SK w w' (fitK s x y).2 := by
  have hs0 := hs
  obtain ⟨hbel, hcell, hfz, hb1, hb2⟩ := hs
  by_cases h : x = y
  · have e : fitK s x y = (true, s) := by unfold fitK; rw [if_pos h]
    rw [e]
    subst h
    have hb : (x == x) = true := by simp
    clear e
    go_enter Tryd.func100, Tryd.ntmps100
    go_wp2
    go_ret
    exact ⟨rfl, hs0⟩
  · have hb : (x == y) = false := by simpa using h
    by_cases hz : s = 0
    · have e : fitK s x y = (true, y) := by unfold fitK; rw [if_neg h, if_neg (by simp [hz])]
      rw [e]
      have hb2 : (s != 0) = false := by simpa using hz
      clear e h hz
      go_enter Tryd.func100, Tryd.ntmps100
      go_wp2
      go_ret
      exact ⟨rfl, hbel.setCell (by simp) _, World.cell?_setCell_same' _ _ _ (by rw [hcell]; rfl), by rw [World.frozen?_setCell]; exact hfz, h3, h4⟩
    · have e : fitK s x y = (false, s) := by unfold fitK; rw [if_neg h, if_pos hz]
      rw [e]
      have hb2 : (s != 0) = true := by simpa using hz
      clear e h hz
      go_enter Tryd.func100, Tryd.ntmps100
      go_wp2
      go_ret
      exact ⟨rfl, hs0⟩

theorem strc_enters (args : Array Value) (w : World) : (callFunc 100 args).run Tryd.prog w = .ok (.enter 100 args) w := enters_of Tryd.func100 (by kernel_rfl) rfl args w
theorem strc_fits (w : World) : Fits Tryd.prog 100 #[.pointer (some ⟨w.heap.size, 0, none⟩)] (SK w) fitK := fun W s x y hs h1 h2 h3 h4 => strc_any w W s x y hs h1 h2 h3 h4

set_option maxHeartbeats 800000 in
set_option maxRecDepth 100000 in
theorem strike_any (v u : Value) (l m : List Int) (w : World) (H : IsInts w v l) (K : IsInts w u m) :
    Calls Tryd.prog 40 #[v, u] w fun e w' => e = .returned (.int .i64 (strikeL l m)) ∧ Below w.heap.size w w' := by
  have hmf : ∀ (fn : Fn) (first cap : Array Value) (w : World), (Instr.makeFunc fn first cap).run Tryd.prog w = .ok (.func fn first cap) w := fun _ _ _ _ => rfl
  by_cases hm1 : mayB l = true
  · by_cases hm2 : mayB m = true
    · have HF : Hid (strikeL l m = if (pairedL fitK 0 l m).1 then (pairedL fitK 0 l m).2 else 0) := by show _ = _; unfold strikeL; rw [hm1, hm2]; rfl
      have hc := fun W (h : SK w W 0) => paired_any fitK 100 #[.pointer (some ⟨w.heap.size, 0, none⟩)] (SK w) v u l m w W 0 strc_enters (strc_fits w) (fun W s h => h.1) h H K
      by_cases hz : (pairedL fitK 0 l m).1 = true
      · rw [if_pos hz] at HF
        generalize pairedL fitK 0 l m = z at *
        go_enter Tryd.func40, Tryd.ntmps40
        go_wp2_with fail
        refine (may_v _ l _ H).mono ?_
        rintro e w1 ⟨rfl, rfl⟩
        go_wp2_with fail
        refine (may_v _ m _ K).mono ?_
        rintro e w1 ⟨rfl, rfl⟩
        go_wp2_with fail
        refine (hc _ ?hs).mono ?_
        case hs => exact ⟨(Below.refl _ _).alloc (Nat.le_refl _) _, by simp, by simp, by omega, by omega⟩
        rintro e w1 ⟨rfl, hbel, hcell, hfz, _, _⟩
        go_wp2
        go_ret
        exact ⟨ret_int (by rw [HF.out]), hbel⟩
      · rw [if_neg hz] at HF
        have hz' : (pairedL fitK 0 l m).1 = false := by simpa using hz
        clear hz
        generalize pairedL fitK 0 l m = z at *
        go_enter Tryd.func40, Tryd.ntmps40
        go_wp2_with fail
        refine (may_v _ l _ H).mono ?_
        rintro e w1 ⟨rfl, rfl⟩
        go_wp2_with fail
        refine (may_v _ m _ K).mono ?_
        rintro e w1 ⟨rfl, rfl⟩
        go_wp2_with fail
        refine (hc _ ?hs).mono ?_
        case hs => exact ⟨(Below.refl _ _).alloc (Nat.le_refl _) _, by simp, by simp, by omega, by omega⟩
        rintro e w1 ⟨rfl, hbel, hcell, hfz, _, _⟩
        go_wp2
        go_ret
        exact ⟨ret_int (by rw [HF.out]), hbel⟩
    · have hm2' : mayB m = false := by simpa using hm2
      have HF : Hid (strikeL l m = 0) := by show _ = _; unfold strikeL; rw [hm1, hm2']; rfl
      clear hm2
      go_enter Tryd.func40, Tryd.ntmps40
      go_wp2_with fail
      refine (may_v _ l _ H).mono ?_
      rintro e w1 ⟨rfl, rfl⟩
      go_wp2_with fail
      refine (may_v _ m _ K).mono ?_
      rintro e w1 ⟨rfl, rfl⟩
      go_wp2
      go_ret
      exact ⟨ret_int HF.out.symm, Below.refl _ _⟩
  · have hm1' : mayB l = false := by simpa using hm1
    have HF : Hid (strikeL l m = 0) := by show _ = _; unfold strikeL; rw [hm1']; rfl
    clear hm1
    go_enter Tryd.func40, Tryd.ntmps40
    go_wp2_with fail
    refine (may_v _ l _ H).mono ?_
    rintro e w1 ⟨rfl, rfl⟩
    go_wp2
    go_ret
    exact ⟨ret_int HF.out.symm, Below.refl _ _⟩

end Go.Proofs.YtnedpngadfkmiaaDoor
