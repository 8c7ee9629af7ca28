/- lits.paired, Sub and Strike. -/
import Derived.Test.YtnedpngadfkmiaaDoorRes
namespace Go.Proofs.YtnedpngadfkmiaaDoor
open Go.RowKit Go.Shelf
set_option linter.unusedVariables false

def lessV (x y : Int) : Bool := decide (varOf y < varOf x)
def pairedL (fit : Int → Int → Int → Bool × Int) : Int → List Int → List Int → Bool × Int
  | s, [], _ => (true, s)
  | s, x :: r, b =>
    match b.dropWhile (lessV x) with
    | [] => (false, s)
    | y :: t => if varOf y ≠ varOf x then (false, s) else if (fit s x y).1 then pairedL fit (fit s x y).2 r (y :: t) else (false, (fit s x y).2)

theorem pairedL_nil {fit : Int → Int → Int → Bool × Int} {s x : Int} {r b : List Int} (h : b.dropWhile (lessV x) = []) : pairedL fit s (x :: r) b = (false, s) := by rw [pairedL, h]
theorem pairedL_ne {fit : Int → Int → Int → Bool × Int} {s x y : Int} {r b t : List Int} (h : b.dropWhile (lessV x) = y :: t) (h1 : varOf y ≠ varOf x) : pairedL fit s (x :: r) b = (false, s) := by rw [pairedL, h]; simp only; rw [if_pos h1]
theorem pairedL_yes {fit : Int → Int → Int → Bool × Int} {s x y : Int} {r b t : List Int} (h : b.dropWhile (lessV x) = y :: t) (h1 : varOf y = varOf x) (h2 : (fit s x y).1 = true) : pairedL fit s (x :: r) b = pairedL fit (fit s x y).2 r (y :: t) := by rw [pairedL, h]; simp only; rw [if_neg (by simp [h1]), if_pos h2]
theorem pairedL_no {fit : Int → Int → Int → Bool × Int} {s x y : Int} {r b t : List Int} (h : b.dropWhile (lessV x) = y :: t) (h1 : varOf y = varOf x) (h2 : (fit s x y).1 = false) : pairedL fit s (x :: r) b = (false, (fit s x y).2) := by rw [pairedL, h]; simp only; rw [if_neg (by simp [h1]), if_neg (by simp [h2])]

/-- The function handed to paired: in a world of the kind S, in its state s, it tells what fit does, and goes on to the next state. -/
def Fits (P : Program) (g : Nat) (cb : Array Value) (S : World → Int → Prop) (fit : Int → Int → Int → Bool × Int) : Prop :=
  ∀ W s x y, S W s → -9223372036854775808 ≤ x → x ≤ 9223372036854775807 → -9223372036854775808 ≤ y → y ≤ 9223372036854775807 →
    Calls P g (#[.int .i64 x, .int .i64 y] ++ cb) W fun e w' => e = .returned (.bool (fit s x y).1) ∧ S w' (fit s x y).2

set_option maxHeartbeats 1600000 in
set_option maxRecDepth 100000 in
theorem paired_any (fit : Int → Int → Int → Bool × Int) (g : Nat) (cb : Array Value) (S : World → Int → Prop) (v u : Value) (l m : List Int) (w w0 : World) (s0 : Int)
    (eg : ∀ args w, (callFunc g args).run Tryd.prog w = .ok (.enter g args) w) (hf : Fits Tryd.prog g cb S fit) (hS : ∀ W s, S W s → Below w.heap.size w W) (h0 : S w0 s0) (H : IsInts w v l) (K : IsInts w u m) :
    Calls Tryd.prog 98 #[v, u, .func (.func g) #[] cb] w0 fun e w' => e = .returned (.bool (pairedL fit s0 l m).1) ∧ S w' (pairedL fit s0 l m).2 := by
  obtain ⟨a, cap, rfl, _, _, hl, h64, b, off, ha, hc⟩ := H
  obtain ⟨a2, c2, rfl⟩ := K.shape
  go_enter Tryd.func98, Tryd.ntmps98
  go_wp2
  go_loopw [1, 11] (fun vb i wr => ∃ (k : Nat) (B : List Int) (s : Int), k ≤ l.length ∧ i = .int .i64 k ∧ IsInts w vb B ∧ S wr s ∧ pairedL fit s0 l m = pairedL fit s (l.drop k) B) (fun _ i _ => l.length - (intOf i).toNat)
  case atStart => exact ⟨0, m, s0, Nat.zero_le _, rfl, K, h0, rfl⟩
  case round =>
    obtain ⟨k, B, s, hk, rfl, HB, hs, hm⟩ := hrel
    have hbel := hS _ _ hs
    by_cases hlt : k < l.length
    · obtain ⟨rfl, hb⟩ := ha (by intro h; simp [h] at hlt)
      have hx := (hbel.cell (p := ⟨b, off + k, none⟩) hb).trans (hc k hlt)
      have hx1 := (h64.at k hlt).1
      have hx2 := (h64.at k hlt).2
      have ed : l.drop k = l.getD k 0 :: l.drop (k + 1) := by rw [List.drop_eq_getElem_cons hlt]; simp [List.getD, hlt]
      rw [ed] at hm
      have HM := Lib.hid hm
      have HC := Lib.hid hc
      clear hm hc ed ha
      generalize l.getD k 0 = x at *
      obtain ⟨ab, cbb, rfl⟩ := HB.shape
      go_wp2
      go_loop [1] (fun vb => ∃ (B2 : List Int), IsInts w vb B2 ∧ B2.dropWhile (lessV x) = B.dropWhile (lessV x)) (fun vb => lenOf vb)
      case atStart => exact ⟨B, HB, rfl⟩
      case round =>
        obtain ⟨B2, HB2, hd⟩ := hrel
        have HD := Lib.hid hd
        clear hd
        obtain ⟨av, ac, rfl⟩ := HB2.shape
        have hvx := varOf_bd x
        cases B2 with
        | nil =>
          have HG : Hid (pairedL fit s0 l m = (false, s)) := HM.out.trans (pairedL_nil HD.out.symm)
          go_wp2
          go_ret
          exact ⟨ret_bool (by rw [HG.out]), by rw [HG.out]; exact hs⟩
        | cons y t =>
          obtain ⟨ba, oa, ca, ea, hca, hy, hy1, hy2⟩ := HB2.head
          injection ea with ea1 ea2 ea3
          subst ea1; subst ea3
          have hcy : wr.cell? ⟨ba, oa, none⟩ = some (.int .i64 y) := by
            obtain ⟨b', o', c', e, _, h, _⟩ := (HB2.below hbel (Nat.le_refl _)).head
            injection e with e1; injection e1 with e1; injection e1 with e1 e2; subst e1; subst e2; exact h
          have hvy := varOf_bd y
          have HT : IsInts w _ t := IsInts.tail HB2
          by_cases h1 : varOf y < varOf x
          · have HN : Hid (t.dropWhile (lessV x) = B.dropWhile (lessV x)) := by
              show _ = _
              rw [← HD.out, List.dropWhile_cons, if_pos (by unfold lessV; simpa using h1)]
            go_wp2_with (go_at_call 22; refine (var_any _ _ (by omega) (by omega)).mono ?_; rintro e w' ⟨rfl, rfl⟩)
            go_round
            case rel => exact ⟨t, HT, HN.out⟩
            case measure => simp [lenOf]
          · have HE : Hid (B.dropWhile (lessV x) = y :: t) := by
              show _ = _
              rw [← HD.out, List.dropWhile_cons, if_neg (by unfold lessV; simpa using h1)]
            by_cases h2 : varOf y = varOf x
            · have hc := hf wr s x y hs hx1 hx2 hy1 hy2
              have h2' : (varOf y != varOf x) = false := by simpa using h2
              have H2 := Lib.hid h2
              clear h2
              by_cases h3 : (fit s x y).1 = true
              · have HG : Hid (pairedL fit s0 l m = pairedL fit (fit s x y).2 (l.drop (k + 1)) (y :: t)) := HM.out.trans (pairedL_yes HE.out H2.out h3)
                generalize fit s x y = z at *
                go_wp2_with (go_at_call 22; refine (var_any _ _ (by omega) (by omega)).mono ?_; rintro e w' ⟨rfl, rfl⟩)
                refine hc.mono ?_
                rintro e w' ⟨rfl, hs'⟩
                go_wp2
                go_roundw
                case rel => exact ⟨k + 1, y :: t, z.2, by omega, by go_num, HB2, hs', HG.out⟩
                case measure => simp [intOf]; omega
              · have h3' : (fit s x y).1 = false := by simpa using h3
                have HG : Hid (pairedL fit s0 l m = (false, (fit s x y).2)) := HM.out.trans (pairedL_no HE.out H2.out h3')
                clear h3
                generalize fit s x y = z at *
                go_wp2_with (go_at_call 22; refine (var_any _ _ (by omega) (by omega)).mono ?_; rintro e w' ⟨rfl, rfl⟩)
                refine hc.mono ?_
                rintro e w' ⟨rfl, hs'⟩
                go_wp2
                go_ret
                exact ⟨ret_bool (by rw [HG.out]), by rw [HG.out]; exact hs'⟩
            · have HG : Hid (pairedL fit s0 l m = (false, s)) := HM.out.trans (pairedL_ne HE.out h2)
              have h2' : (varOf y != varOf x) = true := by simpa using h2
              go_wp2_with (go_at_call 22; refine (var_any _ _ (by omega) (by omega)).mono ?_; rintro e w' ⟨rfl, rfl⟩)
              go_ret
              exact ⟨ret_bool (by rw [HG.out]), by rw [HG.out]; exact hs⟩
    · have HG : Hid (pairedL fit s0 l m = (true, s)) := by
        show _ = _
        rw [hm, List.drop_eq_nil_of_le (by omega)]; rfl
      clear hm
      go_wp2
      go_ret
      exact ⟨ret_bool (by rw [HG.out]), by rw [HG.out]; exact hs⟩

end Go.Proofs.YtnedpngadfkmiaaDoor
