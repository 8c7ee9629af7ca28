/- Joined texts: Join, Res, Paired, Sub, Cmp, Cmp2, Sorted. -/
import Derived.Test.YtmhjpbhldaagmaaDoorMgR
import Derived.Shelf.Abstract
import Derived.StillTailTactics
import Derived.Sort.Grow
import Derived.Lib.SlicesCompact
import Derived.Lib.OwnBridge
import Derived.Shelf.SlSortCmp.Whole1
/- lits.Join and Resolve. -/
namespace Go.Proofs.YtmhjpbhldaagmaaDoor
open Go.RowKit Go.Shelf
set_option linter.unusedVariables false

def com1 (x y : Int) : Int × Int := if x = y then (x, 0) else (0, 10)
def comR (v x y : Int) : Int × Int := if x = v then (0, 0) else com1 x y
def joinL (l m : List Int) : List Int × Int := if mayB l && mayB m then mergeL com1 l m else ([], 2)
def resL (a b : List Int) (v : Int) : List Int × Int :=
  if mayB a && mayB b then (if v ≤ 0 ∨ memB a v = false ∨ memB b (-v) = false then ([], 6) else mergeL (comR v) a b) else ([], 2)

theorem com1_bd (x y : Int) (h1 : -9223372036854775808 ≤ x) (h2 : x ≤ 9223372036854775807) : -9223372036854775808 ≤ (com1 x y).1 ∧ (com1 x y).1 ≤ 9223372036854775807 := by
  unfold com1; split <;> simp <;> omega
theorem comR_bd (v x y : Int) (h1 : -9223372036854775808 ≤ x) (h2 : x ≤ 9223372036854775807) : -9223372036854775808 ≤ (comR v x y).1 ∧ (comR v x y).1 ≤ 9223372036854775807 := by
  unfold comR; split
  · simp
  · exact com1_bd x y h1 h2

set_option maxHeartbeats 400000 in
theorem agreed_any (x y : Int) (w : World) (h1 : -9223372036854775808 ≤ x) (h2 : x ≤ 9223372036854775807) (h3 : -9223372036854775808 ≤ y) (h4 : y ≤ 9223372036854775807) :
    Calls Tryd.prog 45 #[.int .i64 x, .int .i64 y] w fun e w' => e = .returned (.tuple #[.int .i64 (com1 x y).1, .int .i64 (com1 x y).2]) ∧ w = w' := by
  by_cases h : x = y
  · have e : com1 x y = (x, 0) := by unfold com1; rw [if_pos h]
    rw [e]
    subst h
    have hb : (x != x) = false := by simp
    clear e
    go_enter Tryd.func45, Tryd.ntmps45
    go_wp2
    go_ret2
    exact ⟨rfl, rfl⟩
  · have e : com1 x y = (0, 10) := by unfold com1; rw [if_neg h]
    rw [e]
    have hb : (x != y) = true := by simpa using h
    clear e
    go_enter Tryd.func45, Tryd.ntmps45
    go_wp2
    go_ret2
    exact ⟨rfl, rfl⟩

theorem agreed_enters (args : Array Value) (w : World) : (callFunc 45 args).run Tryd.prog w = .ok (.enter 45 args) w := enters_of Tryd.func45 (by kernel_rfl) rfl args w

theorem agreed_tells (w : World) : Tells Tryd.prog 45 #[] com1 w := fun W x y _ h1 h2 h3 h4 => agreed_any x y W h1 h2 h3 h4

set_option maxHeartbeats 800000 in
set_option maxRecDepth 100000 in
theorem join_any (v u : Value) (l m : List Int) (w : World) (H : IsInts w v l) (K : IsInts w u m) (hlen : l.length + m.length ≤ 17592186044416) :
    Calls Tryd.prog 14 #[v, u] w (RetPair w (joinL l m)) := by
  by_cases hm1 : mayB l = true
  · by_cases hm2 : mayB m = true
    · have HF : Hid (joinL l m = mergeL com1 l m) := by show _ = _; unfold joinL; rw [hm1, hm2]; rfl
      have hc := merge_any com1 com1_bd 45 #[] v u l m w agreed_enters (agreed_tells w) H K hlen
      go_enter Tryd.func14, Tryd.ntmps14
      go_wp2_with fail
      refine (may_v _ l _ H).mono ?_
      rintro e w1 ⟨rfl, rfl⟩
      go_wp2_with fail
      refine (may_v _ m _ K).mono ?_
      rintro e w1 ⟨rfl, rfl⟩
      go_wp2_with fail
      refine hc.mono ?_
      rintro e w1 ⟨v1, rfl, h1, h2⟩
      go_wp2
      go_ret2
      exact ⟨_, ret_pair (by rw [HF.out]), by rw [HF.out]; exact h1, h2⟩
    · have hm2' : mayB m = false := by simpa using hm2
      have HF : Hid (joinL l m = ([], 2)) := by show _ = _; unfold joinL; rw [hm1, hm2']; rfl
      clear hm2
      go_enter Tryd.func14, Tryd.ntmps14
      go_wp2_with fail
      refine (may_v _ l _ H).mono ?_
      rintro e w1 ⟨rfl, rfl⟩
      go_wp2_with fail
      refine (may_v _ m _ K).mono ?_
      rintro e w1 ⟨rfl, rfl⟩
      go_wp2
      go_ret2
      exact ⟨_, ret_pair (by rw [HF.out]), by rw [HF.out]; exact IsInts.nil _, Below.refl _ _⟩
  · have hm1' : mayB l = false := by simpa using hm1
    have HF : Hid (joinL l m = ([], 2)) := by show _ = _; unfold joinL; rw [hm1']; rfl
    clear hm1
    go_enter Tryd.func14, Tryd.ntmps14
    go_wp2_with fail
    refine (may_v _ l _ H).mono ?_
    rintro e w1 ⟨rfl, rfl⟩
    go_wp2
    go_ret2
    exact ⟨_, ret_pair (by rw [HF.out]), by rw [HF.out]; exact IsInts.nil _, Below.refl _ _⟩

end Go.Proofs.YtmhjpbhldaagmaaDoor

/- lits.Resolve. -/
namespace Go.Proofs.YtmhjpbhldaagmaaDoor
open Go.RowKit Go.Shelf
set_option linter.unusedVariables false

theorem RetPair.under {w w1 w' : World} {r : List Int × Int} {e : Ending} (h : RetPair w1 r e w') (hb : Below w.heap.size w w1) : RetPair w r e w' := h.mono hb hb.size

end Go.Proofs.YtmhjpbhldaagmaaDoor

/- lits.paired, Sub and Strike. -/
namespace Go.Proofs.YtmhjpbhldaagmaaDoor
open Go.RowKit Go.Shelf
set_option linter.unusedVariables false

def lessV (x y : Int) : Bool := decide (varOf y < varOf x)
def pairedL (fit : Int → Int → Int → Bool × Int) : Int → List Int → List Int → Bool × Int
  | s, [], _ => (true, s)
  | s, x :: r, b =>
    match b.dropWhile (lessV x) with
    | [] => (false, s)
    | y :: t => if varOf y ≠ varOf x then (false, s) else if (fit s x y).1 then pairedL fit (fit s x y).2 r (y :: t) else (false, (fit s x y).2)

theorem pairedL_nil {fit : Int → Int → Int → Bool × Int} {s x : Int} {r b : List Int} (h : b.dropWhile (lessV x) = []) : pairedL fit s (x :: r) b = (false, s) := by rw [pairedL, h]
theorem pairedL_ne {fit : Int → Int → Int → Bool × Int} {s x y : Int} {r b t : List Int} (h : b.dropWhile (lessV x) = y :: t) (h1 : varOf y ≠ varOf x) : pairedL fit s (x :: r) b = (false, s) := by rw [pairedL, h]; simp only; rw [if_pos h1]
theorem pairedL_yes {fit : Int → Int → Int → Bool × Int} {s x y : Int} {r b t : List Int} (h : b.dropWhile (lessV x) = y :: t) (h1 : varOf y = varOf x) (h2 : (fit s x y).1 = true) : pairedL fit s (x :: r) b = pairedL fit (fit s x y).2 r (y :: t) := by rw [pairedL, h]; simp only; rw [if_neg (by simp [h1]), if_pos h2]
theorem pairedL_no {fit : Int → Int → Int → Bool × Int} {s x y : Int} {r b t : List Int} (h : b.dropWhile (lessV x) = y :: t) (h1 : varOf y = varOf x) (h2 : (fit s x y).1 = false) : pairedL fit s (x :: r) b = (false, (fit s x y).2) := by rw [pairedL, h]; simp only; rw [if_neg (by simp [h1]), if_neg (by simp [h2])]

/-- The function handed to paired: in a world of the kind S, in its state s, it tells what fit does, and goes on to the next state. -/
def Fits (P : Program) (g : Nat) (cb : Array Value) (S : World → Int → Prop) (fit : Int → Int → Int → Bool × Int) : Prop :=
  ∀ W s x y, S W s → -9223372036854775808 ≤ x → x ≤ 9223372036854775807 → -9223372036854775808 ≤ y → y ≤ 9223372036854775807 →
    Calls P g (#[.int .i64 x, .int .i64 y] ++ cb) W fun e w' => e = .returned (.bool (fit s x y).1) ∧ S w' (fit s x y).2

set_option maxHeartbeats 1600000 in
set_option maxRecDepth 100000 in
theorem paired_any (fit : Int → Int → Int → Bool × Int) (g : Nat) (cb : Array Value) (S : World → Int → Prop) (v u : Value) (l m : List Int) (w w0 : World) (s0 : Int)
    (eg : ∀ args w, (callFunc g args).run Tryd.prog w = .ok (.enter g args) w) (hf : Fits Tryd.prog g cb S fit) (hS : ∀ W s, S W s → Below w.heap.size w W) (h0 : S w0 s0) (H : IsInts w v l) (K : IsInts w u m) :
    Calls Tryd.prog 48 #[v, u, .func (.func g) #[] cb] w0 fun e w' => e = .returned (.bool (pairedL fit s0 l m).1) ∧ S w' (pairedL fit s0 l m).2 := by
  obtain ⟨a, cap, rfl, _, _, hl, h64, b, off, ha, hc⟩ := H
  obtain ⟨a2, c2, rfl⟩ := K.shape
  go_enter Tryd.func48, Tryd.ntmps48
  go_wp2
  go_loopw [1, 11] (fun vb i wr => ∃ (k : Nat) (B : List Int) (s : Int), k ≤ l.length ∧ i = .int .i64 k ∧ IsInts w vb B ∧ S wr s ∧ pairedL fit s0 l m = pairedL fit s (l.drop k) B) (fun _ i _ => l.length - (intOf i).toNat)
  case atStart => exact ⟨0, m, s0, Nat.zero_le _, rfl, K, h0, rfl⟩
  case round =>
    obtain ⟨k, B, s, hk, rfl, HB, hs, hm⟩ := hrel
    have hbel := hS _ _ hs
    by_cases hlt : k < l.length
    · obtain ⟨rfl, hb⟩ := ha (by intro h; simp [h] at hlt)
      have hx := (hbel.cell (p := ⟨b, off + k, none⟩) hb).trans (hc k hlt)
      have hx1 := (h64.at k hlt).1
      have hx2 := (h64.at k hlt).2
      have ed : l.drop k = l.getD k 0 :: l.drop (k + 1) := by rw [List.drop_eq_getElem_cons hlt]; simp [List.getD, hlt]
      rw [ed] at hm
      have HM := Lib.hid hm
      have HC := Lib.hid hc
      clear hm hc ed ha
      generalize l.getD k 0 = x at *
      obtain ⟨ab, cbb, rfl⟩ := HB.shape
      go_wp2
      go_loop [1] (fun vb => ∃ (B2 : List Int), IsInts w vb B2 ∧ B2.dropWhile (lessV x) = B.dropWhile (lessV x)) (fun vb => lenOf vb)
      case atStart => exact ⟨B, HB, rfl⟩
      case round =>
        obtain ⟨B2, HB2, hd⟩ := hrel
        have HD := Lib.hid hd
        clear hd
        obtain ⟨av, ac, rfl⟩ := HB2.shape
        have hvx := varOf_bd x
        cases B2 with
        | nil =>
          have HG : Hid (pairedL fit s0 l m = (false, s)) := HM.out.trans (pairedL_nil HD.out.symm)
          go_wp2
          go_ret
          exact ⟨ret_bool (by rw [HG.out]), by rw [HG.out]; exact hs⟩
        | cons y t =>
          obtain ⟨ba, oa, ca, ea, hca, hy, hy1, hy2⟩ := HB2.head
          injection ea with ea1 ea2 ea3
          subst ea1; subst ea3
          have hcy : wr.cell? ⟨ba, oa, none⟩ = some (.int .i64 y) := by
            obtain ⟨b', o', c', e, _, h, _⟩ := (HB2.below hbel (Nat.le_refl _)).head
            injection e with e1; injection e1 with e1; injection e1 with e1 e2; subst e1; subst e2; exact h
          have hvy := varOf_bd y
          have HT : IsInts w _ t := IsInts.tail HB2
          by_cases h1 : varOf y < varOf x
          · have HN : Hid (t.dropWhile (lessV x) = B.dropWhile (lessV x)) := by
              show _ = _
              rw [← HD.out, List.dropWhile_cons, if_pos (by unfold lessV; simpa using h1)]
            go_wp2_with (go_at_call 46; refine (var_any _ _ (by omega) (by omega)).mono ?_; rintro e w' ⟨rfl, rfl⟩)
            go_round
            case rel => exact ⟨t, HT, HN.out⟩
            case measure => simp [lenOf]
          · have HE : Hid (B.dropWhile (lessV x) = y :: t) := by
              show _ = _
              rw [← HD.out, List.dropWhile_cons, if_neg (by unfold lessV; simpa using h1)]
            by_cases h2 : varOf y = varOf x
            · have hc := hf wr s x y hs hx1 hx2 hy1 hy2
              have h2' : (varOf y != varOf x) = false := by simpa using h2
              have H2 := Lib.hid h2
              clear h2
              by_cases h3 : (fit s x y).1 = true
              · have HG : Hid (pairedL fit s0 l m = pairedL fit (fit s x y).2 (l.drop (k + 1)) (y :: t)) := HM.out.trans (pairedL_yes HE.out H2.out h3)
                generalize fit s x y = z at *
                go_wp2_with (go_at_call 46; refine (var_any _ _ (by omega) (by omega)).mono ?_; rintro e w' ⟨rfl, rfl⟩)
                refine hc.mono ?_
                rintro e w' ⟨rfl, hs'⟩
                go_wp2
                go_roundw
                case rel => exact ⟨k + 1, y :: t, z.2, by omega, by go_num, HB2, hs', HG.out⟩
                case measure => simp [intOf]; omega
              · have h3' : (fit s x y).1 = false := by simpa using h3
                have HG : Hid (pairedL fit s0 l m = (false, (fit s x y).2)) := HM.out.trans (pairedL_no HE.out H2.out h3')
                clear h3
                generalize fit s x y = z at *
                go_wp2_with (go_at_call 46; refine (var_any _ _ (by omega) (by omega)).mono ?_; rintro e w' ⟨rfl, rfl⟩)
                refine hc.mono ?_
                rintro e w' ⟨rfl, hs'⟩
                go_wp2
                go_ret
                exact ⟨ret_bool (by rw [HG.out]), by rw [HG.out]; exact hs'⟩
            · have HG : Hid (pairedL fit s0 l m = (false, s)) := HM.out.trans (pairedL_ne HE.out h2)
              have h2' : (varOf y != varOf x) = true := by simpa using h2
              go_wp2_with (go_at_call 46; refine (var_any _ _ (by omega) (by omega)).mono ?_; rintro e w' ⟨rfl, rfl⟩)
              go_ret
              exact ⟨ret_bool (by rw [HG.out]), by rw [HG.out]; exact hs⟩
    · have HG : Hid (pairedL fit s0 l m = (true, s)) := by
        show _ = _
        rw [hm, List.drop_eq_nil_of_le (by omega)]; rfl
      clear hm
      go_wp2
      go_ret
      exact ⟨ret_bool (by rw [HG.out]), by rw [HG.out]; exact hs⟩

end Go.Proofs.YtmhjpbhldaagmaaDoor

/- lits.Sub and Strike. -/
namespace Go.Proofs.YtmhjpbhldaagmaaDoor
open Go.RowKit Go.Shelf
set_option linter.unusedVariables false

def fitS (s x y : Int) : Bool × Int := (decide (x = y), s)
def fitK (s x y : Int) : Bool × Int := if x = y then (true, s) else if s ≠ 0 then (false, s) else (true, y)
def subL (l m : List Int) : Bool := mayB l && mayB m && (pairedL fitS 0 l m).1
def strikeL (l m : List Int) : Int := if mayB l && mayB m then (if (pairedL fitK 0 l m).1 then (pairedL fitK 0 l m).2 else 0) else 0

set_option maxHeartbeats 400000 in
theorem subc_any (x y : Int) (w : World) (h1 : -9223372036854775808 ≤ x) (h2 : x ≤ 9223372036854775807) (h3 : -9223372036854775808 ≤ y) (h4 : y ≤ 9223372036854775807) :
    Calls Tryd.prog 49 #[.int .i64 x, .int .i64 y] w fun e w' => e = .returned (.bool (decide (x = y))) ∧ w = w' := by
  have e : decide (x = y) = (x == y) := by rw [Bool.eq_iff_iff]; simp
  rw [e]
  clear e
  go_enter Tryd.func49, Tryd.ntmps49
  go_wp2
  go_ret
  exact ⟨rfl, rfl⟩
theorem subc_enters (args : Array Value) (w : World) : (callFunc 49 args).run Tryd.prog w = .ok (.enter 49 args) w := enters_of Tryd.func49 (by kernel_rfl) rfl args w

theorem subc_fits (w : World) : Fits Tryd.prog 49 #[] (fun W s => w = W ∧ s = 0) fitS := fun W s x y hs h1 h2 h3 h4 =>
  (subc_any x y W h1 h2 h3 h4).mono fun _ _ ⟨he, hw⟩ => ⟨he, hs.1.trans hw, hs.2⟩

set_option maxHeartbeats 800000 in
theorem sub_any (v u : Value) (l m : List Int) (w : World) (H : IsInts w v l) (K : IsInts w u m) :
    Calls Tryd.prog 18 #[v, u] w fun e w' => e = .returned (.bool (subL l m)) ∧ w = w' := by
  have hc := paired_any fitS 49 #[] (fun W s => w = W ∧ s = 0) v u l m w w 0 subc_enters (subc_fits w) (fun W s h => by rw [← h.1]; exact Below.refl _ _) ⟨rfl, rfl⟩ H K
  by_cases hm1 : mayB l = true
  · by_cases hm2 : mayB m = true
    · have HF : Hid (subL l m = (pairedL fitS 0 l m).1) := by show _ = _; unfold subL; rw [hm1, hm2]; rfl
      generalize pairedL fitS 0 l m = z at *
      go_enter Tryd.func18, Tryd.ntmps18
      go_wp2_with fail
      refine (may_v _ l _ H).mono ?_
      rintro e w1 ⟨rfl, rfl⟩
      go_wp2_with fail
      refine (may_v _ m _ K).mono ?_
      rintro e w1 ⟨rfl, rfl⟩
      go_wp2_with fail
      refine hc.mono ?_
      rintro e w1 ⟨rfl, rfl, _⟩
      go_wp2
      go_ret
      exact ⟨ret_bool (by rw [HF.out]), rfl⟩
    · have hm2' : mayB m = false := by simpa using hm2
      have HF : Hid (subL l m = false) := by show _ = _; unfold subL; rw [hm1, hm2']; rfl
      clear hm2 hc
      go_enter Tryd.func18, Tryd.ntmps18
      go_wp2_with fail
      refine (may_v _ l _ H).mono ?_
      rintro e w1 ⟨rfl, rfl⟩
      go_wp2_with fail
      refine (may_v _ m _ K).mono ?_
      rintro e w1 ⟨rfl, rfl⟩
      go_wp2
      go_ret
      exact ⟨ret_bool HF.out.symm, rfl⟩
  · have hm1' : mayB l = false := by simpa using hm1
    have HF : Hid (subL l m = false) := by show _ = _; unfold subL; rw [hm1']; rfl
    clear hm1 hc
    go_enter Tryd.func18, Tryd.ntmps18
    go_wp2_with fail
    refine (may_v _ l _ H).mono ?_
    rintro e w1 ⟨rfl, rfl⟩
    go_wp2
    go_ret
    exact ⟨ret_bool HF.out.symm, rfl⟩

/-- The struck literal lies in its own block behind w. -/
def SK (w : World) (W : World) (s : Int) : Prop :=
  Below w.heap.size w W ∧ W.cell? ⟨w.heap.size, 0, none⟩ = some (.int .i64 s) ∧ W.frozen? ⟨w.heap.size, 0, none⟩ = false ∧ -9223372036854775808 ≤ s ∧ s ≤ 9223372036854775807

end Go.Proofs.YtmhjpbhldaagmaaDoor

/- The orders: compareLits, Compare and their parts. -/
namespace Go.Proofs.YtmhjpbhldaagmaaDoor
open Go.RowKit Go.Shelf
set_option linter.unusedVariables false

def cmpI (x y : Int) : Int := if x < y then -1 else if y < x then 1 else 0

set_option maxHeartbeats 400000 in
theorem cmpi_any (x y : Int) (w : World) (h1 : -9223372036854775808 ≤ x) (h2 : x ≤ 9223372036854775807) (h3 : -9223372036854775808 ≤ y) (h4 : y ≤ 9223372036854775807) :
    Calls Tryd.prog 78 #[.int .i64 x, .int .i64 y] w fun e w' => e = .returned (.int .i64 (cmpI x y)) ∧ w = w' := by
  have hx : (x != x) = false := by simp
  have hy : (y != y) = false := by simp
  by_cases a : x < y
  · have e : cmpI x y = -1 := if_pos a
    rw [e]
    go_enter Tryd.func78, Tryd.ntmps78
    go_wp2
    go_ret
    exact ⟨rfl, rfl⟩
  by_cases b : y < x
  · have e : cmpI x y = 1 := (if_neg a).trans (if_pos b)
    rw [e]
    go_enter Tryd.func78, Tryd.ntmps78
    go_wp2
    go_ret
    exact ⟨rfl, rfl⟩
  · have e : cmpI x y = 0 := (if_neg a).trans (if_neg b)
    rw [e]
    go_enter Tryd.func78, Tryd.ntmps78
    go_wp2
    go_ret
    exact ⟨rfl, rfl⟩

set_option maxHeartbeats 400000 in
theorem cmpu_any (x y : Int) (w : World) (h1 : 0 ≤ x) (h2 : x ≤ 9223372036854775808) (h3 : 0 ≤ y) (h4 : y ≤ 9223372036854775808) :
    Calls Tryd.prog 144 #[.int .u64 x, .int .u64 y] w fun e w' => e = .returned (.int .i64 (cmpI x y)) ∧ w = w' := by
  have hx : (x != x) = false := by simp
  have hy : (y != y) = false := by simp
  by_cases a : x < y
  · have e : cmpI x y = -1 := if_pos a
    rw [e]
    go_enter Tryd.func144, Tryd.ntmps144
    go_wp2
    go_ret
    exact ⟨rfl, rfl⟩
  by_cases b : y < x
  · have e : cmpI x y = 1 := (if_neg a).trans (if_pos b)
    rw [e]
    go_enter Tryd.func144, Tryd.ntmps144
    go_wp2
    go_ret
    exact ⟨rfl, rfl⟩
  · have e : cmpI x y = 0 := (if_neg a).trans (if_neg b)
    rw [e]
    go_enter Tryd.func144, Tryd.ntmps144
    go_wp2
    go_ret
    exact ⟨rfl, rfl⟩

set_option maxHeartbeats 400000 in
theorem magn_any (x : Int) (w : World) (h1 : -9223372036854775808 ≤ x) (h2 : x ≤ 9223372036854775807) :
    Calls Tryd.prog 145 #[.int .i64 x] w fun e w' => e = .returned (.int .u64 (absOf x)) ∧ w = w' := by
  by_cases c : x < 0
  · have e : absOf x = -x := by unfold absOf; rw [if_pos c]
    rw [e]
    go_enter Tryd.func145, Tryd.ntmps145
    go_wp2
    go_ret
    refine ⟨ret_int ?_, rfl⟩
    simp [IntKind.wrap, IntKind.bits, IntKind.signed]
    omega
  · have e : absOf x = x := by unfold absOf; rw [if_neg c]
    rw [e]
    go_enter Tryd.func145, Tryd.ntmps145
    go_wp2
    go_ret
    exact ⟨rfl, rfl⟩

set_option maxHeartbeats 400000 in
theorem bymag_any (x y : Int) (w : World) (h1 : -9223372036854775808 ≤ x) (h2 : x ≤ 9223372036854775807) (h3 : -9223372036854775808 ≤ y) (h4 : y ≤ 9223372036854775807) :
    Calls Tryd.prog 115 #[.int .i64 x, .int .i64 y] w fun e w' => e = .returned (.int .i64 (cmpI (absOf x) (absOf y))) ∧ w = w' := by
  have hb1 := absOf_bd x h1 h2
  have hb2 := absOf_bd y h3 h4
  have hc := cmpu_any (absOf x) (absOf y) w (by omega) (by omega) (by omega) (by omega)
  generalize cmpI (absOf x) (absOf y) = z at *
  go_enter Tryd.func115, Tryd.ntmps115
  go_wp2_with (first | (go_at_call 145; refine (magn_any _ _ (by omega) (by omega)).mono ?_; rintro e w' ⟨rfl, rfl⟩) | (go_at_call 144; refine hc.mono ?_; rintro e w' ⟨rfl, rfl⟩))
  go_ret
  exact ⟨rfl, rfl⟩

set_option maxHeartbeats 400000 in
theorem bysign_any (x y : Int) (w : World) (h1 : -9223372036854775808 ≤ x) (h2 : x ≤ 9223372036854775807) (h3 : -9223372036854775808 ≤ y) (h4 : y ≤ 9223372036854775807) :
    Calls Tryd.prog 116 #[.int .i64 x, .int .i64 y] w fun e w' => e = .returned (.int .i64 (cmpI x y)) ∧ w = w' := by
  have hc := cmpi_any x y w (by omega) (by omega) (by omega) (by omega)
  generalize cmpI x y = z at *
  go_enter Tryd.func116, Tryd.ntmps116
  go_wp2_with (go_at_call 78; refine hc.mono ?_; rintro e w' ⟨rfl, rfl⟩)
  go_ret
  exact ⟨rfl, rfl⟩

def cmpLit (x y : Int) : Int := if cmpI (absOf x) (absOf y) ≠ 0 then cmpI (absOf x) (absOf y) else cmpI x y
theorem cmpLit_eq (x y : Int) : cmpLit x y = if litLt x y then -1 else if litLt y x then 1 else 0 := by
  unfold cmpLit cmpI litLt
  by_cases a : absOf x < absOf y
  · simp [a]
  · by_cases b : absOf y < absOf x
    · have hn : ¬ (absOf x = absOf y) := by omega
      simp [a, b, hn]
    · have he : absOf x = absOf y := by omega
      simp [he]
theorem cmpI_bd (x y : Int) : -1 ≤ cmpI x y ∧ cmpI x y ≤ 1 := by
  unfold cmpI; split
  · omega
  · split <;> omega

set_option maxHeartbeats 800000 in
set_option maxRecDepth 100000 in
theorem cmpby_any (x y : Int) (b : Nat) (w : World) (h1 : -9223372036854775808 ≤ x) (h2 : x ≤ 9223372036854775807) (h3 : -9223372036854775808 ≤ y) (h4 : y ≤ 9223372036854775807)
    (c0 : w.cell? ⟨b, 0, none⟩ = some (.func (.func 115) #[] #[])) (c1 : w.cell? ⟨b, 1, none⟩ = some (.func (.func 116) #[] #[])) :
    Calls Tryd.prog 114 #[.int .i64 x, .int .i64 y, .slice (some ⟨b, 0, none⟩) 2 2] w fun e w' => e = .returned (.int .i64 (cmpLit x y)) ∧ w = w' := by
  have hm := bymag_any x y w h1 h2 h3 h4
  have hs := bysign_any x y w h1 h2 h3 h4
  have hb1 := cmpI_bd (absOf x) (absOf y)
  have hb2 := cmpI_bd x y
  have HD : Hid (cmpLit x y = if cmpI (absOf x) (absOf y) ≠ 0 then cmpI (absOf x) (absOf y) else cmpI x y) := rfl
  generalize cmpI (absOf x) (absOf y) = z1 at *
  generalize cmpI x y = z2 at *
  go_enter Tryd.func114, Tryd.ntmps114
  go_wp2
  go_loop [12] (fun i => ∃ k : Nat, k ≤ 2 ∧ i = .int .i64 k ∧ (1 ≤ k → z1 = 0) ∧ (2 ≤ k → z2 = 0)) (fun i => 2 - (intOf i).toNat)
  case atStart => exact ⟨0, by omega, rfl, by omega, by omega⟩
  case round =>
    obtain ⟨k, hk, rfl, hz1, hz2⟩ := hrel
    match k, hk with
    | 0, _ =>
      clear hz1 hz2
      by_cases h : z1 = 0
      · have hb : (z1 != 0) = false := by simpa using h
        have HH := Lib.hid h
        clear h
        go_wp2_with fail
        refine hm.mono ?_
        rintro e w' ⟨rfl, rfl⟩
        go_wp2
        go_round
        case rel => exact ⟨1, by omega, by go_num, fun _ => HH.out, by omega⟩
        case measure => simp [intOf]
      · have hb : (z1 != 0) = true := by simpa using h
        have HG : Hid (cmpLit x y = z1) := HD.out.trans (if_pos h)
        go_wp2_with fail
        refine hm.mono ?_
        rintro e w' ⟨rfl, rfl⟩
        go_wp2
        go_ret
        exact ⟨ret_int HG.out.symm, rfl⟩
    | 1, _ =>
      have HZ := Lib.hid (hz1 (by omega))
      clear hz1 hz2
      by_cases h : z2 = 0
      · have hb : (z2 != 0) = false := by simpa using h
        have HH := Lib.hid h
        clear h
        go_wp2_with fail
        refine hs.mono ?_
        rintro e w' ⟨rfl, rfl⟩
        go_wp2
        go_round
        case rel => exact ⟨2, by omega, by go_num, fun _ => HZ.out, fun _ => HH.out⟩
        case measure => simp [intOf]
      · have hb : (z2 != 0) = true := by simpa using h
        have HG : Hid (cmpLit x y = z2) := HD.out.trans (if_neg (by simp [HZ.out]))
        go_wp2_with fail
        refine hs.mono ?_
        rintro e w' ⟨rfl, rfl⟩
        go_wp2
        go_ret
        exact ⟨ret_int HG.out.symm, rfl⟩
    | 2, _ =>
      have HG : Hid (cmpLit x y = 0) := HD.out.trans ((if_neg (by simp [hz1 (by omega)])).trans (hz2 (by omega)))
      clear hz1 hz2
      go_wp2
      go_ret
      exact ⟨ret_int HG.out.symm, rfl⟩

def litKeys : Array Value := #[.func (.func 115) #[] #[], .func (.func 116) #[] #[]]

set_option maxHeartbeats 800000 in
set_option maxRecDepth 100000 in
theorem cmplits_any (x y : Int) (w : World) (h1 : -9223372036854775808 ≤ x) (h2 : x ≤ 9223372036854775807) (h3 : -9223372036854775808 ≤ y) (h4 : y ≤ 9223372036854775807) :
    Calls Tryd.prog 83 #[.int .i64 x, .int .i64 y] w fun e w' => e = .returned (.int .i64 (cmpLit x y)) ∧ w' = w.alloc (.cells litKeys 124) := by
  have hc := cmpby_any x y w.heap.size (w.alloc (.cells litKeys 124)) h1 h2 h3 h4 (by simp [litKeys]) (by simp [litKeys])
  generalize cmpLit x y = z at *
  go_enter Tryd.func83, Tryd.ntmps83
  go_wp2_with fail
  refine hc.mono ?_
  rintro e w' ⟨rfl, rfl⟩
  go_wp2
  go_ret
  exact ⟨rfl, rfl⟩

end Go.Proofs.YtmhjpbhldaagmaaDoor

/- The order of lists. -/
namespace Go.Proofs.YtmhjpbhldaagmaaDoor
open Go.RowKit Go.Shelf Go.Sort
set_option linter.unusedVariables false

/-- Draws and new blocks apart, the world is as it was. -/
def Grows (w w' : World) : Prop := ∃ q os, w' = grow (w.drewN q) os
theorem Grows.refl (w : World) : Grows w w := ⟨0, #[], by rw [grow_empty]; rfl⟩
theorem Grows.trans {a b c : World} (h : Grows a b) (k : Grows b c) : Grows a c := by
  obtain ⟨q, os, rfl⟩ := h
  obtain ⟨q', os', rfl⟩ := k
  refine ⟨q + q', os ++ os', ?_⟩
  rw [← World.drewN_drewN, ← grow_grow]; rfl
theorem Grows.quiet {a b : World} (h : Quiet a b) : Grows a b := by
  obtain ⟨q, rfl⟩ := h
  exact ⟨q, #[], by rw [grow_empty]⟩
theorem Grows.alloc (w : World) (o : Obj) : Grows w (w.alloc o) := ⟨0, #[o], by unfold grow World.alloc; simp [World.drewN]⟩
theorem Grows.below {w w' : World} (h : Grows w w') : Below w.heap.size w w' := by
  obtain ⟨q, os, rfl⟩ := h
  refine ⟨rfl, rfl, rfl, by simp [grow, World.drewN], fun k hk => ?_⟩
  show (w.heap ++ os)[k]? = w.heap[k]?
  rw [Array.getElem?_append_left hk]
theorem Grows.drewN {a b : World} (h : Grows a b) (n : Nat) : Grows a (b.drewN n) := h.trans (Grows.quiet ⟨n, rfl⟩)

def placesL : List Int → List Int → Int
  | x :: r, y :: s => if x = y then placesL r s else cmpLit x y
  | _, _ => 0
theorem placesL_drop {a b : List Int} {k : Nat} (h : k < a.length) (h2 : k < b.length) :
    placesL (a.drop k) (b.drop k) = if a.getD k 0 = b.getD k 0 then placesL (a.drop (k + 1)) (b.drop (k + 1)) else cmpLit (a.getD k 0) (b.getD k 0) := by
  have e1 : a.drop k = a.getD k 0 :: a.drop (k + 1) := by rw [List.drop_eq_getElem_cons h]; simp [List.getD, h]
  have e2 : b.drop k = b.getD k 0 :: b.drop (k + 1) := by rw [List.drop_eq_getElem_cons h2]; simp [List.getD, h2]
  rw [e1, e2, placesL]
theorem placesL_end {a b : List Int} {k : Nat} (h : ¬ (k < a.length ∧ k < b.length)) : placesL (a.drop k) (b.drop k) = 0 := by
  by_cases h1 : k < a.length
  · rw [show b.drop k = [] from List.drop_eq_nil_of_le (by omega)]; cases a.drop k <;> rfl
  · rw [show a.drop k = [] from List.drop_eq_nil_of_le (by omega)]; rfl

def cmpLen (l m : List Int) : Int := cmpI l.length m.length

def cmpB (l m : List Int) : Int := if placesL l m ≠ 0 then placesL l m else cmpLen l m

theorem cmpLit_bd (x y : Int) : -1 ≤ cmpLit x y ∧ cmpLit x y ≤ 1 := by
  unfold cmpLit; have := cmpI_bd (absOf x) (absOf y); have := cmpI_bd x y; split <;> omega
theorem placesL_bd (l m : List Int) : -1 ≤ placesL l m ∧ placesL l m ≤ 1 := by
  fun_induction placesL l m
  · assumption
  · exact cmpLit_bd _ _
  · omega

/-- The order of lists is the reference's. -/
theorem cmpB_eq (l m : List Int) : cmpB l m = cmpL l m := by
  induction l generalizing m with
  | nil => cases m <;> simp [cmpB, placesL, cmpLen, cmpI, cmpL]
  | cons x r ih =>
    cases m with
    | nil => simp [cmpB, placesL, cmpLen, cmpI, cmpL]; omega
    | cons y s =>
      unfold cmpB placesL cmpL
      by_cases h : x = y
      · subst h
        have hn : ¬ litLt x x := by unfold litLt; omega
        rw [if_pos rfl, if_neg hn, if_neg hn, ← ih s]
        have : cmpLen (x :: r) (x :: s) = cmpLen r s := by unfold cmpLen cmpI; simp
        rw [this]; rfl
      · rw [if_neg h, cmpLit_eq]
        by_cases h1 : litLt x y
        · simp [h1]
        · by_cases h2 : litLt y x
          · simp [h1, h2]
          · exfalso
            unfold litLt absOf at h1 h2
            apply h
            split at h1 <;> split at h1 <;> omega

end Go.Proofs.YtmhjpbhldaagmaaDoor

/- Sorted lists of integers: what the library's sort and compaction leave is the reference's insertion. -/
namespace Go.Proofs.YtmhjpbhldaagmaaDoor
open Go.RowKit Go.Shelf Go.Sort
set_option linter.unusedVariables false

theorem litLt_irrefl (x : Int) : ¬ litLt x x := by unfold litLt; omega
theorem litLt_trans {x y z : Int} (h : litLt x y) (k : litLt y z) : litLt x z := by unfold litLt at *; omega
theorem litLt_tri (x y : Int) : litLt x y ∨ x = y ∨ litLt y x := by
  unfold litLt absOf; split <;> split <;> omega
theorem litLt_asymm {x y : Int} (h : litLt x y) : ¬ litLt y x := fun k => litLt_irrefl x (litLt_trans h k)

theorem insL_mem (l : List Int) (x y : Int) : y ∈ insL l x ↔ y = x ∨ y ∈ l := by
  induction l with
  | nil => simp [insL]
  | cons z r ih =>
    unfold insL
    by_cases h : litLt z x
    · rw [if_pos h]; simp only [List.mem_cons, ih]
      constructor
      · rintro (h | h | h) <;> simp [h]
      · rintro (h | h | h) <;> simp [h]
    · rw [if_neg h]
      by_cases e : z = x
      · rw [if_pos e]; subst e; simp
      · rw [if_neg e]; simp

theorem insL_sorted {l : List Int} (h : l.Pairwise litLt) (x : Int) : (insL l x).Pairwise litLt := by
  induction l with
  | nil => simp [insL]
  | cons z r ih =>
    rw [List.pairwise_cons] at h
    unfold insL
    by_cases h1 : litLt z x
    · rw [if_pos h1, List.pairwise_cons]
      refine ⟨fun y hy => ?_, ih h.2⟩
      rcases (insL_mem r x y).1 hy with rfl | hy
      · exact h1
      · exact h.1 y hy
    · rw [if_neg h1]
      by_cases e : z = x
      · rw [if_pos e, List.pairwise_cons]; exact h
      · rw [if_neg e, List.pairwise_cons, List.pairwise_cons]
        have hx : litLt x z := by rcases litLt_tri z x with h | h | h; exact absurd h h1; exact absurd h e; exact h
        refine ⟨fun y hy => ?_, h⟩
        rcases List.mem_cons.1 hy with rfl | hy
        · exact hx
        · exact litLt_trans hx (h.1 y hy)

theorem foldl_insL_sorted (l acc : List Int) (h : acc.Pairwise litLt) : (l.foldl insL acc).Pairwise litLt := by
  induction l generalizing acc with
  | nil => exact h
  | cons y r ih => exact ih _ (insL_sorted h y)
theorem foldl_insL_mem (l acc : List Int) (x : Int) : x ∈ l.foldl insL acc ↔ x ∈ acc ∨ x ∈ l := by
  induction l generalizing acc with
  | nil => simp
  | cons y r ih =>
    rw [List.foldl_cons, ih, insL_mem]; simp only [List.mem_cons]
    constructor
    · rintro ((h | h) | h) <;> simp [h]
    · rintro (h | h | h) <;> simp [h]
theorem sortI_sorted (l : List Int) : (sortI l).Pairwise litLt := foldl_insL_sorted l [] List.Pairwise.nil
theorem sortI_mem (l : List Int) (x : Int) : x ∈ sortI l ↔ x ∈ l := by unfold sortI; rw [foldl_insL_mem]; simp

/-- Two lists in strict order with the same elements are one. -/
theorem sorted_unique {a b : List Int} (ha : a.Pairwise litLt) (hb : b.Pairwise litLt) (h : ∀ x, x ∈ a ↔ x ∈ b) : a = b := by
  induction a generalizing b with
  | nil =>
    cases b with
    | nil => rfl
    | cons y s => exact absurd ((h y).2 (by simp)) (by simp)
  | cons x r ih =>
    cases b with
    | nil => exact absurd ((h x).1 (by simp)) (by simp)
    | cons y s =>
      rw [List.pairwise_cons] at ha hb
      have hxy : x = y := by
        rcases List.mem_cons.1 ((h x).1 (by simp)) with e | hx
        · exact e
        · rcases List.mem_cons.1 ((h y).2 (by simp)) with e | hy
          · exact e.symm
          · exact absurd (ha.1 y hy) (litLt_asymm (hb.1 x hx))
      subst hxy
      have : r = s := by
        apply ih ha.2 hb.2
        intro z
        constructor
        · intro hz
          rcases List.mem_cons.1 ((h z).1 (List.mem_cons_of_mem _ hz)) with e | h'
          · subst e; exact absurd (ha.1 _ hz) (litLt_irrefl _)
          · exact h'
        · intro hz
          rcases List.mem_cons.1 ((h z).2 (List.mem_cons_of_mem _ hz)) with e | h'
          · subst e; exact absurd (hb.1 _ hz) (litLt_irrefl _)
          · exact h'
      rw [this]

open Go.Lib in
/-- Compaction of an ascending array: strict, with the same elements. -/
theorem compact_sorted (d : Array Int) (hs : ∀ i j, i < j → j < d.size → ¬ litLt d[j]! d[i]!) (m : Nat) (hm : m ≤ d.size) :
    (compactUpTo d m).Pairwise litLt ∧ (∀ x, x ∈ compactUpTo d m ↔ ∃ j, j < m ∧ d[j]! = x) := by
  induction m with
  | zero => simp [compactUpTo]
  | succ m ih =>
    obtain ⟨h1, h2⟩ := ih (by omega)
    rw [compactUpTo_succ]
    by_cases hk : keeps d m = true
    · rw [if_pos hk]
      refine ⟨?_, fun x => ?_⟩
      · rw [List.pairwise_append]
        refine ⟨h1, by simp, fun a ha b hb => ?_⟩
        rw [List.mem_singleton] at hb
        subst hb
        obtain ⟨j, hj, rfl⟩ := (h2 a).1 ha
        have hne : d[m - 1]! ≠ d[m]! := by
          intro e
          rw [keeps_neg (by omega) e.symm] at hk
          cases hk
        have hlt : litLt d[m - 1]! d[m]! := by
          rcases litLt_tri d[m - 1]! d[m]! with h | h | h
          · exact h
          · exact absurd h hne
          · exact absurd h (hs (m - 1) m (by omega) (by omega))
        by_cases e : j = m - 1
        · subst e; exact hlt
        · rcases litLt_tri d[j]! d[m - 1]! with h | h | h
          · exact litLt_trans h hlt
          · rw [h]; exact hlt
          · exact absurd h (hs j (m - 1) (by omega) (by omega))
      · rw [List.mem_append, h2, List.mem_singleton]
        constructor
        · rintro (⟨j, hj, e⟩ | e)
          · exact ⟨j, by omega, e⟩
          · exact ⟨m, by omega, e.symm⟩
        · rintro ⟨j, hj, e⟩
          by_cases ej : j = m
          · subst ej; exact .inr e.symm
          · exact .inl ⟨j, by omega, e⟩
    · rw [if_neg hk, List.append_nil]
      refine ⟨h1, fun x => ?_⟩
      rw [h2]
      have hm0 : 0 < m := by
        rcases Nat.eq_zero_or_pos m with e | e
        · subst e; exact absurd (keeps_lt_one d 0 (by omega)) hk
        · exact e
      have he : d[m]! = d[m - 1]! := by
        by_cases e : d[m]! = d[m - 1]!
        · exact e
        · exact absurd (keeps_pos e) hk
      constructor
      · rintro ⟨j, hj, e⟩; exact ⟨j, by omega, e⟩
      · rintro ⟨j, hj, e⟩
        by_cases ej : j = m
        · subst ej; exact ⟨j - 1, by omega, by rw [← he]; exact e⟩
        · exact ⟨j, by omega, e⟩

/-- What the sort and the compaction leave is what insertion gives. -/
theorem compact_sortI {l s : List Int} (hp : s.Perm l) (hs : ∀ i j, i < j → j < s.length → ¬ litLt (s.getD j 0) (s.getD i 0)) : Lib.compact s = sortI l := by
  have hs' : ∀ i j, i < j → j < s.toArray.size → ¬ litLt s.toArray[j]! s.toArray[i]! := by
    intro i j hij hj
    have hj' : j < s.length := by simpa using hj
    have := hs i j hij hj'
    simpa [getElem!_pos, hj', show i < s.length by omega, List.getD] using this
  have h := compact_sorted s.toArray hs' s.length (by simp)
  apply sorted_unique h.1 (sortI_sorted l)
  intro x
  rw [show x ∈ Lib.compactUpTo s.toArray s.length ↔ _ from h.2 x, sortI_mem, ← hp.mem_iff]
  constructor
  · rintro ⟨j, hj, rfl⟩
    simp [getElem!_pos, hj]
  · intro hx
    obtain ⟨j, hj, e⟩ := List.getElem_of_mem hx
    exact ⟨j, hj, by simp [getElem!_pos, hj, e]⟩

end Go.Proofs.YtmhjpbhldaagmaaDoor
