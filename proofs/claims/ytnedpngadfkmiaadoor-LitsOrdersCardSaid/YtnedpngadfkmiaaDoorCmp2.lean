/- The order of lists. -/
import Derived.Test.YtnedpngadfkmiaaDoorCmp
import Derived.StillTailTactics
import Derived.Sort.Grow
namespace Go.Proofs.YtnedpngadfkmiaaDoor
open Go.RowKit Go.Shelf Go.Sort
set_option linter.unusedVariables false

/-- Draws and new blocks apart, the world is as it was. -/
def Grows (w w' : World) : Prop := ∃ q os, w' = grow (w.drewN q) os
theorem Grows.refl (w : World) : Grows w w := ⟨0, #[], by rw [grow_empty]; rfl⟩
theorem Grows.trans {a b c : World} (h : Grows a b) (k : Grows b c) : Grows a c := by
  obtain ⟨q, os, rfl⟩ := h
  obtain ⟨q', os', rfl⟩ := k
  refine ⟨q + q', os ++ os', ?_⟩
  rw [← World.drewN_drewN, ← grow_grow]; rfl
theorem Grows.quiet {a b : World} (h : Quiet a b) : Grows a b := by
  obtain ⟨q, rfl⟩ := h
  exact ⟨q, #[], by rw [grow_empty]⟩
theorem Grows.alloc (w : World) (o : Obj) : Grows w (w.alloc o) := ⟨0, #[o], by unfold grow World.alloc; simp [World.drewN]⟩
theorem Grows.below {w w' : World} (h : Grows w w') : Below w.heap.size w w' := by
  obtain ⟨q, os, rfl⟩ := h
  refine ⟨rfl, rfl, rfl, by simp [grow, World.drewN], fun k hk => ?_⟩
  show (w.heap ++ os)[k]? = w.heap[k]?
  rw [Array.getElem?_append_left hk]
theorem Grows.drewN {a b : World} (h : Grows a b) (n : Nat) : Grows a (b.drewN n) := h.trans (Grows.quiet ⟨n, rfl⟩)

def placesL : List Int → List Int → Int
  | x :: r, y :: s => if x = y then placesL r s else cmpLit x y
  | _, _ => 0
theorem placesL_drop {a b : List Int} {k : Nat} (h : k < a.length) (h2 : k < b.length) :
    placesL (a.drop k) (b.drop k) = if a.getD k 0 = b.getD k 0 then placesL (a.drop (k + 1)) (b.drop (k + 1)) else cmpLit (a.getD k 0) (b.getD k 0) := by
  have e1 : a.drop k = a.getD k 0 :: a.drop (k + 1) := by rw [List.drop_eq_getElem_cons h]; simp [List.getD, h]
  have e2 : b.drop k = b.getD k 0 :: b.drop (k + 1) := by rw [List.drop_eq_getElem_cons h2]; simp [List.getD, h2]
  rw [e1, e2, placesL]
theorem placesL_end {a b : List Int} {k : Nat} (h : ¬ (k < a.length ∧ k < b.length)) : placesL (a.drop k) (b.drop k) = 0 := by
  by_cases h1 : k < a.length
  · rw [show b.drop k = [] from List.drop_eq_nil_of_le (by omega)]; cases a.drop k <;> rfl
  · rw [show a.drop k = [] from List.drop_eq_nil_of_le (by omega)]; rfl

set_option maxHeartbeats 800000 in
set_option maxRecDepth 100000 in
theorem byplaces_any (v u : Value) (l m : List Int) (w : World) (H : IsInts w v l) (K : IsInts w u m) :
    Calls Tryd.prog 102 #[v, u] w fun e w' => e = .returned (.int .i64 (placesL l m)) ∧ Grows w w' := by
  obtain ⟨a, cap, rfl, _, _, hl, h64, b, off, ha, hc⟩ := H
  obtain ⟨a2, cap2, rfl, _, _, hl2, h642, b2, off2, ha2, hc2⟩ := K
  by_cases hml : m.length < l.length
  all_goals
    go_enter Tryd.func102, Tryd.ntmps102
    go_wp2
    go_loopw [11] (fun i wr => ∃ k : Nat, k ≤ l.length ∧ k ≤ m.length ∧ i = .int .i64 k ∧ Quiet w wr ∧ placesL l m = placesL (l.drop k) (m.drop k)) (fun i _ => l.length - (intOf i).toNat)
    case atStart => exact ⟨0, Nat.zero_le _, Nat.zero_le _, rfl, Quiet.refl _, rfl⟩
    case round =>
      obtain ⟨k, hk, hkm, rfl, hq, hi⟩ := hrel
      have HI := Lib.hid hi
      clear hi
      by_cases hboth : k < l.length ∧ k < m.length
      · obtain ⟨hlt, hlt2⟩ := hboth
        obtain ⟨rfl, hb⟩ := ha (by intro h; simp [h] at hlt)
        obtain ⟨rfl, hb2⟩ := ha2 (by intro h; simp [h] at hlt2)
        have hy := (hq.cell _).trans (hc k hlt)
        have hy1 := (h64.at k hlt).1
        have hy2 := (h64.at k hlt).2
        have hz := (hq.cell _).trans (hc2 k hlt2)
        have hz1 := (h642.at k hlt2).1
        have hz2 := (h642.at k hlt2).2
        have HD := Lib.hid (placesL_drop hlt hlt2)
        have HC := Lib.hid hc
        have HC2 := Lib.hid hc2
        clear hc hc2 ha ha2
        generalize l.getD k 0 = y at *
        generalize m.getD k 0 = z at *
        by_cases h1 : y = z
        · have hb0 : (y != z) = false := by simpa using h1
          have HG : Hid (placesL l m = placesL (l.drop (k + 1)) (m.drop (k + 1))) := HI.out.trans (HD.out.trans (if_pos h1))
          clear h1
          go_wp2_with fail
          go_quiet (fail)
          go_wp2
          go_roundw
          case rel => exact ⟨k + 1, by omega, by omega, by go_num, hq.drewN _, HG.out⟩
          case measure => simp [intOf]; omega
        · have hb0 : (y != z) = true := by simpa using h1
          have HG : Hid (placesL l m = cmpLit y z) := HI.out.trans (HD.out.trans (if_neg h1))
          clear h1
          go_wp2_with fail
          go_quiet (fail)
          go_wp2_with fail
          have hq2 := hq.drewN nq
          have hy3 : (wr.drewN nq).cell? ⟨b, off + k, none⟩ = some (.int .i64 y) := hy
          have hz3 : (wr.drewN nq).cell? ⟨b2, off2 + k, none⟩ = some (.int .i64 z) := hz
          generalize wr.drewN nq = wq at *
          go_still_tail 8, (by kernel_rfl)
          change wpList _ _ _ _ _ wq.drew
          have hq3 : Quiet w wq.drew := hq2.trans ⟨1, rfl⟩
          generalize wq.drew = wp at *
          go_wp2_with (go_at_call 87; refine (cmplits_any y z _ (by omega) (by omega) (by omega) (by omega)).mono ?_; rintro e w' ⟨rfl, rfl⟩)
          go_ret
          exact ⟨ret_int HG.out.symm, (Grows.quiet hq3).trans (Grows.alloc _ _)⟩
      · have HG : Hid (placesL l m = 0) := HI.out.trans (placesL_end hboth)
        rcases Nat.lt_or_ge k l.length with hkl | hkl
        · have hkm2 : ¬ k < m.length := fun h => hboth ⟨hkl, h⟩
          clear hboth
          first
          | (go_wp2; go_ret; exact ⟨ret_int HG.out.symm, Grows.quiet hq⟩)
          | (exfalso; omega)
        · clear hboth
          first
          | (go_wp2; go_ret; exact ⟨ret_int HG.out.symm, Grows.quiet hq⟩)
          | (exfalso; omega)

def cmpLen (l m : List Int) : Int := cmpI l.length m.length

set_option maxHeartbeats 400000 in
theorem bylength_any (v u : Value) (l m : List Int) (w : World) (H : IsInts w v l) (K : IsInts w u m) :
    Calls Tryd.prog 103 #[v, u] w fun e w' => e = .returned (.int .i64 (cmpLen l m)) ∧ w = w' := by
  have hl := H.len
  have hm := K.len
  obtain ⟨a, cap, rfl⟩ := H.shape
  obtain ⟨a2, cap2, rfl⟩ := K.shape
  have hc := cmpi_any l.length m.length w (by omega) (by omega) (by omega) (by omega)
  have HD : Hid (cmpLen l m = cmpI l.length m.length) := rfl
  generalize cmpI l.length m.length = z at *
  go_enter Tryd.func103, Tryd.ntmps103
  go_wp2_with (go_at_call 94; refine hc.mono ?_; rintro e w' ⟨rfl, rfl⟩)
  go_ret
  exact ⟨ret_int HD.out.symm, rfl⟩

def cmpB (l m : List Int) : Int := if placesL l m ≠ 0 then placesL l m else cmpLen l m

theorem cmpLit_bd (x y : Int) : -1 ≤ cmpLit x y ∧ cmpLit x y ≤ 1 := by
  unfold cmpLit; have := cmpI_bd (absOf x) (absOf y); have := cmpI_bd x y; split <;> omega
theorem placesL_bd (l m : List Int) : -1 ≤ placesL l m ∧ placesL l m ≤ 1 := by
  fun_induction placesL l m
  · assumption
  · exact cmpLit_bd _ _
  · omega

set_option maxHeartbeats 800000 in
set_option maxRecDepth 100000 in
theorem cmpbyL_any (v u : Value) (l m : List Int) (b : Nat) (w : World) (H : IsInts w v l) (K : IsInts w u m) (hb : b < w.heap.size)
    (c0 : w.cell? ⟨b, 0, none⟩ = some (.func (.func 102) #[] #[])) (c1 : w.cell? ⟨b, 1, none⟩ = some (.func (.func 103) #[] #[])) :
    Calls Tryd.prog 101 #[v, u, .slice (some ⟨b, 0, none⟩) 2 2] w fun e w' => e = .returned (.int .i64 (cmpB l m)) ∧ Grows w w' := by
  have hm := byplaces_any v u l m w H K
  have hs := fun W (h : Grows w W) => bylength_any v u l m W (H.below h.below (Nat.le_refl _)) (K.below h.below (Nat.le_refl _))
  have hb1 := placesL_bd l m
  have hb2 := cmpI_bd l.length m.length
  have HD : Hid (cmpB l m = if placesL l m ≠ 0 then placesL l m else cmpLen l m) := rfl
  have hb3 : -1 ≤ cmpLen l m ∧ cmpLen l m ≤ 1 := hb2
  generalize placesL l m = z1 at *
  generalize cmpLen l m = z2 at *
  go_enter Tryd.func101, Tryd.ntmps101
  go_wp2
  go_loopw [12] (fun i wr => ∃ k : Nat, k ≤ 2 ∧ i = .int .i64 k ∧ (k = 0 → w = wr) ∧ Grows w wr ∧ (1 ≤ k → z1 = 0) ∧ (2 ≤ k → z2 = 0)) (fun i _ => 2 - (intOf i).toNat)
  case atStart => exact ⟨0, by omega, rfl, fun _ => rfl, Grows.refl _, by omega, by omega⟩
  case round =>
    obtain ⟨k, hk, rfl, hw0, hg, hz1, hz2⟩ := hrel
    match k, hk with
    | 0, _ =>
      clear hz1 hz2
      have hw1 := hw0 rfl
      clear hw0
      subst hw1
      by_cases h : z1 = 0
      · have hbb : (z1 != 0) = false := by simpa using h
        have HH := Lib.hid h
        clear h
        go_wp2_with fail
        refine hm.mono ?_
        rintro e w' ⟨rfl, hg'⟩
        go_wp2
        go_roundw
        case rel => exact ⟨1, by omega, by go_num, by omega, hg', fun _ => HH.out, by omega⟩
        case measure => simp [intOf]
      · have hbb : (z1 != 0) = true := by simpa using h
        have HG : Hid (cmpB l m = z1) := HD.out.trans (if_pos h)
        go_wp2_with fail
        refine hm.mono ?_
        rintro e w' ⟨rfl, hg'⟩
        go_wp2
        go_ret
        exact ⟨ret_int HG.out.symm, hg'⟩
    | 1, _ =>
      have HZ := Lib.hid (hz1 (by omega))
      have d1 := (hg.below.cell (p := ⟨b, 1, none⟩) hb).trans c1
      clear hz1 hz2 hw0
      by_cases h : z2 = 0
      · have hbb : (z2 != 0) = false := by simpa using h
        have HH := Lib.hid h
        clear h
        go_wp2_with fail
        refine (hs _ hg).mono ?_
        rintro e w' ⟨rfl, rfl⟩
        go_wp2
        go_roundw
        case rel => exact ⟨2, by omega, by go_num, by omega, hg, fun _ => HZ.out, fun _ => HH.out⟩
        case measure => simp [intOf]
      · have hbb : (z2 != 0) = true := by simpa using h
        have HG : Hid (cmpB l m = z2) := HD.out.trans (if_neg (by simp [HZ.out]))
        go_wp2_with fail
        refine (hs _ hg).mono ?_
        rintro e w' ⟨rfl, rfl⟩
        go_wp2
        go_ret
        exact ⟨ret_int HG.out.symm, hg⟩
    | 2, _ =>
      have HG : Hid (cmpB l m = 0) := HD.out.trans ((if_neg (by simp [hz1 (by omega)])).trans (hz2 (by omega)))
      clear hz1 hz2 hw0
      go_wp2
      go_ret
      exact ⟨ret_int HG.out.symm, hg⟩

def listKeys : Array Value := #[.func (.func 102) #[] #[], .func (.func 103) #[] #[]]

set_option maxHeartbeats 800000 in
set_option maxRecDepth 100000 in
theorem compare_any (v u : Value) (l m : List Int) (w : World) (H : IsInts w v l) (K : IsInts w u m) :
    Calls Tryd.prog 42 #[v, u] w fun e w' => e = .returned (.int .i64 (cmpB l m)) ∧ Grows w w' := by
  have hg := Grows.alloc w (.cells listKeys 37)
  have hc := cmpbyL_any v u l m w.heap.size (w.alloc (.cells listKeys 37)) (H.below hg.below (Nat.le_refl _)) (K.below hg.below (Nat.le_refl _)) (by simp) (by simp [listKeys]) (by simp [listKeys])
  generalize cmpB l m = z at *
  go_enter Tryd.func42, Tryd.ntmps42
  go_wp2_with fail
  refine hc.mono ?_
  rintro e w' ⟨rfl, hg2⟩
  go_wp2
  go_ret
  exact ⟨rfl, hg.trans hg2⟩

/-- The order of lists is the reference's. -/
theorem cmpB_eq (l m : List Int) : cmpB l m = cmpL l m := by
  induction l generalizing m with
  | nil => cases m <;> simp [cmpB, placesL, cmpLen, cmpI, cmpL]
  | cons x r ih =>
    cases m with
    | nil => simp [cmpB, placesL, cmpLen, cmpI, cmpL]; omega
    | cons y s =>
      unfold cmpB placesL cmpL
      by_cases h : x = y
      · subst h
        have hn : ¬ litLt x x := by unfold litLt; omega
        rw [if_pos rfl, if_neg hn, if_neg hn, ← ih s]
        have : cmpLen (x :: r) (x :: s) = cmpLen r s := by unfold cmpLen cmpI; simp
        rw [this]; rfl
      · rw [if_neg h, cmpLit_eq]
        by_cases h1 : litLt x y
        · simp [h1]
        · by_cases h2 : litLt y x
          · simp [h1, h2]
          · exfalso
            unfold litLt absOf at h1 h2
            apply h
            split at h1 <;> split at h1 <;> omega

end Go.Proofs.YtnedpngadfkmiaaDoor
