/- lits.Sort. -/
import Derived.Test.YtnedpngadfkmiaaDoorSortRows
import Derived.Test.YtnedpngadfkmiaaDoorEqual
namespace Go.Proofs.YtnedpngadfkmiaaDoor
open Go.RowKit
set_option linter.unusedVariables false

/-- Each row is the call's own. -/
def RowsOwn (w : World) (B : Nat) (us : List Value) (ls : List (List Int)) : Prop := us.length = ls.length ∧ ∀ j, j < ls.length → Own w B (us.getD j (.slice none 0 0)) (ls.getD j [])
theorem RowsOwn.nil (w : World) (B : Nat) : RowsOwn w B [] [] := ⟨rfl, fun j h => absurd h (Nat.not_lt_zero _)⟩
theorem RowsOwn.append {w : World} {B : Nat} {us vs : List Value} {ls ms : List (List Int)} (h : RowsOwn w B us ls) (k : RowsOwn w B vs ms) : RowsOwn w B (us ++ vs) (ls ++ ms) := by
  refine ⟨by simp [h.1, k.1], fun j hj => ?_⟩
  have hlen := h.1
  by_cases hjl : j < ls.length
  · have := h.2 j hjl
    simp only [List.getD] at this ⊢
    rw [List.getElem?_append_left (by omega), List.getElem?_append_left hjl]
    exact this
  · have := k.2 (j - ls.length) (by simp at hj; omega)
    simp only [List.getD] at this ⊢
    rw [List.getElem?_append_right (by omega), List.getElem?_append_right (by omega), hlen]
    exact this
theorem RowsOwn.one {w : World} {B : Nat} {u : Value} {l : List Int} (h : Own w B u l) : RowsOwn w B [u] [l] := ⟨rfl, fun j hj => by
  have : j = 0 := by simpa using hj
  subst this
  exact h⟩
theorem RowsOwn.mono {w : World} {B B' : Nat} {us : List Value} {ls : List (List Int)} (h : RowsOwn w B us ls) (hB : B' ≤ B) : RowsOwn w B' us ls := ⟨h.1, fun j hj => (h.2 j hj).mono hB⟩
theorem RowsOwn.below {w w' : World} {B C : Nat} {us : List Value} {ls : List (List Int)} (h : RowsOwn w B us ls) (hb : Below C w w') (hC : w.heap.size ≤ C) : RowsOwn w' B us ls := ⟨h.1, fun j hj => (h.2 j hj).below hb hC⟩
theorem RowsOwn.take {w : World} {B : Nat} {us : List Value} {ls : List (List Int)} (h : RowsOwn w B us ls) (k : Nat) : RowsOwn w B (us.take k) (ls.take k) := by
  refine ⟨by simp [h.1], fun j hj => ?_⟩
  have hj2 : j < k ∧ j < ls.length := by simp at hj; omega
  have := h.2 j hj2.2
  simp only [List.getD] at this ⊢
  rw [List.getElem?_take_of_lt hj2.1, List.getElem?_take_of_lt hj2.1]
  exact this
theorem RowsOwn.drop {w : World} {B : Nat} {us : List Value} {ls : List (List Int)} (h : RowsOwn w B us ls) (k : Nat) : RowsOwn w B (us.drop k) (ls.drop k) := by
  refine ⟨by simp [h.1], fun j hj => ?_⟩
  have hj2 : k + j < ls.length := by simp at hj; omega
  have := h.2 (k + j) hj2
  simp only [List.getD] at this ⊢
  rw [List.getElem?_drop, List.getElem?_drop]
  exact this
/-- A row of slices and a row of integers are two. -/
theorem OwnR.ne {w : World} {B B' : Nat} {v u : Value} {vs : List Value} {xs : List Int} (h : OwnR w B v vs) (ho : Own w B' u xs) : u.ownBlock = none ∨ u.ownBlock ≠ v.ownBlock := by
  rcases ho.2 with ⟨rfl, _⟩ | ⟨g, cap, cur, rfl, _, hg, _⟩
  · exact .inl rfl
  · right
    rcases h.2 with ⟨rfl, _⟩ | ⟨g2, cap2, cur2, rfl, _, hg2, _⟩
    · intro e; cases e
    · intro e
      have e1 : g = g2 := Option.some.inj e
      subst e1
      rw [hg] at hg2
      have := Option.some.inj hg2
      injection this with _ e2
      exact absurd e2 (by decide)
theorem RowsOwn.grown {w w' : World} {B B' : Nat} {us vs : List Value} {ls : List (List Int)} {v : Value} (h : RowsOwn w B us ls) (hv : OwnR w B' v vs) (hg : w.grownBy w' v.ownBlock) : RowsOwn w' B us ls :=
  ⟨h.1, fun j hj => (h.2 j hj).kept hg (hv.ne (h.2 j hj))⟩
theorem RowsOwn.alloc {w : World} {B : Nat} {us : List Value} {ls : List (List Int)} (h : RowsOwn w B us ls) (o : Obj) : RowsOwn (w.alloc o) B us ls := ⟨h.1, fun j hj => (h.2 j hj).alloc o⟩
theorem RowsOwn.are {w : World} {B : Nat} {us : List Value} {ls : List (List Int)} (h : RowsOwn w B us ls) (hl : ∀ l ∈ ls, l.length ≤ 17592186044416 ∧ In64 l) : RowsAre w us ls :=
  ⟨h.1, fun j hj => by
    have := hl _ (rows_getD_mem hj)
    exact (h.2 j hj).ints this.1 this.2⟩

/-- What a call hands back that has made rows of its own. -/
def RetSort (w : World) (ls : List (List Int)) (e : Ending) (w' : World) : Prop := ∃ v us, e = .returned v ∧ OwnR w' w.heap.size v us ∧ RowsOwn w' w.heap.size us ls ∧ Below w.heap.size w w'

def sortL (f : List (List Int)) : List (List Int) := if mayCnfB f then sortX f else []

theorem firstsX_same {s : List (List Int)} {k : Nat} (h0 : 0 < k) (h : s.getD (k - 1) [] = s.getD k []) : firstsX s (k + 1) = firstsX s k := by rw [firstsX, if_pos ⟨h0, h⟩]
theorem firstsX_new {s : List (List Int)} {k : Nat} (h : ¬ (0 < k ∧ s.getD (k - 1) [] = s.getD k [])) : firstsX s (k + 1) = firstsX s k ++ [s.getD k []] := by rw [firstsX, if_neg h]

set_option maxHeartbeats 1600000 in
set_option maxRecDepth 100000 in
theorem sort_any (v : Value) (f : List (List Int)) (w : World) (H : IsRows w v f) :
    Calls Tryd.prog 49 #[v] w (RetSort w (sortL f)) := by
  obtain ⟨a, cap, ys, rfl, hra, hnone, hcells, hone, hblk⟩ := H.vals
  have hyl := hra.1
  by_cases hm : mayCnfB f = true
  · have hfl : f.length ≤ 20000 := by unfold mayCnfB at hm; simp at hm; exact hm.1
    have HS : Hid (sortL f = sortX f) := by show _ = _; unfold sortL; rw [if_pos hm]
    have HC := Lib.hid hcells
    have HO := Lib.hid hone
    have HBK := Lib.hid hblk
    have HN := Lib.hid hnone
    have HYL := Lib.hid hyl
    clear hcells hone hblk hnone hyl
    go_enter Tryd.func49, Tryd.ntmps49
    have hblk2 : ∀ (p : Addr) (j : Nat), (p.add j).block = p.block := fun p j => by unfold Addr.add; split <;> rfl
    go_wp2_with (first
      | (go_at_call 45; refine (maycnf_any _ f _ H).mono ?_; rintro e w' ⟨rfl, rfl⟩)
      | (at_make; refine wpList_mkRows rfl _ _ rfl f.length rfl rfl (by omega) ?_; intro w1 hown1 hg1; have hb1 := (Below.refl w.heap.size w).grown hg1 (Nat.le_refl _) (fun k hk => by cases hk))
      | ((with_reducible show wpList _ _ _ _ _ _); refine wpList_copyR (o := ⟨some 15, _, _, _, _, _⟩) rfl (.tmp 13) (.tmp 14) rfl w.heap.size _ (List.replicate f.length (.slice none 0 0)) ys a cap rfl (by rw [HYL.out]; rfl) hown1 HN.out (fun p hp j u hj => by rw [hb1.cell (p := p.add j) (by rw [hblk2]; exact HBK.out p hp (by intro e; rw [e] at hj; simp at hj))]; exact HC.out p hp j u hj) HO.out (by rw [HYL.out]; simp) ⟨_, rfl⟩ w hb1 ?_; intro w2 z hown2 hb2)
      | (go_at_call 105; refine (sortrows_any w.heap.size w.heap.size f.length ys f w w2 rfl hb2 hown2 hra (by omega)).mono ?_; rintro e w3 ⟨rfl, us, s, hp, hs, hrs, hown3, hb23⟩))
    have hsl := hp.length_eq
    have hb03 := hb2.trans hb23
    have hs03 := hb03.size
    have HP := Lib.hid hp
    have HSS := Lib.hid hs
    have HFIN := Lib.hid (firstsX_sortX hp hs)
    have hul := hrs.1
    clear hp hs hown2 hown1 hg1 hb1 hb2 hb23 HC HO HBK HN HYL hblk2 hra
    go_loopw [4, 20] (fun out i wr => ∃ (k : Nat) (os : List Value), k ≤ f.length ∧ i = .int .i64 k ∧ OwnR wr w3.heap.size out os ∧ RowsOwn wr w3.heap.size os (firstsX s k) ∧ Below w3.heap.size w3 wr) (fun _ i _ => f.length - (intOf i).toNat)
    case atStart => exact ⟨0, [], Nat.zero_le _, rfl, OwnR.nil _ _, RowsOwn.nil _ _, Below.refl _ _⟩
    case round =>
      obtain ⟨k, os, hk, rfl, hown, hro, hbel⟩ := hrel
      have hrow := hown3.below hbel (Nat.le_refl _)
      have hsz := hbel.size
      have hall : Below w.heap.size w wr := hb03.trans (hbel.mono hs03)
      have hol : os.length ≤ 20000 := by have h1 := hro.1; have h2 := firstsX_len s k; omega
      by_cases hlt : k < f.length
      · have hy := hrow.cell k (by omega)
        have HU2 := (hrs.2 k (by omega)).below hall (Nat.le_refl _)
        cases k with
        | zero =>
          have HFN := Lib.hid (firstsX_new (s := s) (k := 0) (fun h => absurd h.1 (by omega)))
          generalize us.getD 0 (.slice none 0 0) = u at *
          generalize s.getD 0 [] = l at *
          obtain ⟨a', c', rfl⟩ := HU2.shape
          go_wp2_with (first
            | (go_at_call 85; refine (copied_any _ l wr HU2).mono ?_; rintro e w4 ⟨rfl, hcop, hb4⟩; have hs4 := hb4.size; have hown4 := hown.below hb4 (Nat.le_refl _); have hro4 := (hro.below hb4 (Nat.le_refl _)).append (RowsOwn.one (hcop.mono (B' := w3.heap.size) (by omega))); have hbel4 := hbel.trans (hb4.mono (by omega)))
            | (at_builtin; refine wpList_appR1 rfl _ _ rfl w3.heap.size _ os (.slice (some ⟨wr.heap.size, 0, none⟩) l.length l.length) w4.heap.size rfl rfl (hown4.alloc _) (by simp) rfl (by omega) (by simp; omega) ?_; intro v5 w5 hown5 hg5))
          go_roundw
          case rel => exact ⟨1, _, by omega, by go_num, hown5, by rw [HFN.out]; exact (hro4.alloc _).grown (hown4.alloc _) hg5, belowR (hbel4.alloc (by omega) _) (hown4.alloc _) (by simp; omega) hg5⟩
          case measure => simp [intOf]; omega
        | succ j =>
          have hz := hrow.cell j (by omega)
          have HV2 := (hrs.2 j (by omega)).below hall (Nat.le_refl _)
          have ht : (((j : Int) + 1) == 0) = false := by rw [beq_eq_false_iff_ne]; omega
          have hj0 : (0 : Int) < (j : Int) + 1 := by omega
          by_cases he : s.getD j [] = s.getD (j + 1) []
          · have HFN := Lib.hid (firstsX_same (s := s) (k := j + 1) (by omega) he)
            have hsb : sameB (s.getD j []) (s.getD (j + 1) []) = true := by unfold sameB; rw [decide_eq_true_eq]; exact he
            clear he
            generalize us.getD (j + 1) (.slice none 0 0) = u at *
            generalize s.getD (j + 1) [] = l at *
            generalize us.getD j (.slice none 0 0) = u0 at *
            generalize s.getD j [] = l0 at *
            obtain ⟨a', c', rfl⟩ := HU2.shape
            obtain ⟨a0, c0, rfl⟩ := HV2.shape
            go_wp2_with (go_at_call 106; refine (equal_any _ _ l0 l wr HV2 HU2).mono ?_; rintro e w6 ⟨rfl, hq6⟩)
            go_roundw
            case rel => exact ⟨j + 1 + 1, _, by omega, by go_num, hown.quiet hq6, by rw [HFN.out]; exact hro.below (hq6.below wr.heap.size) (Nat.le_refl _), hbel.trans (hq6.below _)⟩
            case measure => simp [intOf]; omega
          · have HFN := Lib.hid (firstsX_new (s := s) (k := j + 1) (fun h => he h.2))
            have hsb : sameB (s.getD j []) (s.getD (j + 1) []) = false := by unfold sameB; rw [decide_eq_false_iff_not]; exact he
            clear he
            generalize us.getD (j + 1) (.slice none 0 0) = u at *
            generalize s.getD (j + 1) [] = l at *
            generalize us.getD j (.slice none 0 0) = u0 at *
            generalize s.getD j [] = l0 at *
            have HU1 := HU2
            clear HU2
            obtain ⟨a', c', rfl⟩ := HU1.shape
            obtain ⟨a0, c0, rfl⟩ := HV2.shape
            go_wp2_with (first
              | (go_at_call 106; refine (equal_any _ _ l0 l wr HV2 HU1).mono ?_; rintro e w6 ⟨rfl, hq6⟩; have hown6 := hown.quiet hq6; have hro6 := hro.below (hq6.below wr.heap.size) (Nat.le_refl _); have hbel6 := hbel.trans (hq6.below _); have hs6 := hbel6.size; have HU2 := HU1.quiet hq6)
              | (go_at_call 85; refine (copied_any _ l w6 HU2).mono ?_; rintro e w4 ⟨rfl, hcop, hb4⟩; have hs4 := hb4.size; have hown4 := hown6.below hb4 (Nat.le_refl _); have hro4 := (hro6.below hb4 (Nat.le_refl _)).append (RowsOwn.one (hcop.mono (B' := w3.heap.size) (by omega))); have hbel4 := hbel6.trans (hb4.mono (by omega)))
              | (at_builtin; refine wpList_appR1 rfl _ _ rfl w3.heap.size _ os (.slice (some ⟨w6.heap.size, 0, none⟩) l.length l.length) w4.heap.size rfl rfl (hown4.alloc _) (by simp) rfl (by omega) (by simp; omega) ?_; intro v5 w5 hown5 hg5))
            go_roundw
            case rel => exact ⟨j + 1 + 1, _, by omega, by go_num, hown5, by rw [HFN.out]; exact (hro4.alloc _).grown (hown4.alloc _) hg5, belowR (hbel4.alloc (by omega) _) (hown4.alloc _) (by simp; omega) hg5⟩
            case measure => simp [intOf]; omega
      · have hks : k = s.length := by omega
        have HK := Lib.hid hks
        clear hks
        go_wp2
        go_ret
        refine ⟨_, os, rfl, hown.mono hs03, ?_, hall⟩
        rw [HS.out, ← HFIN.out, ← HK.out]
        exact hro.mono hs03
  · have hm' : mayCnfB f = false := by simpa using hm
    have HS : Hid (sortL f = []) := by show _ = _; unfold sortL; rw [if_neg hm]
    clear hm hcells hone hblk hnone
    go_enter Tryd.func49, Tryd.ntmps49
    go_wp2_with (go_at_call 45; refine (maycnf_any _ f _ H).mono ?_; rintro e w' ⟨rfl, rfl⟩)
    go_ret
    exact ⟨_, [], rfl, OwnR.nil _ _, by rw [HS.out]; exact RowsOwn.nil _ _, Below.refl _ _⟩

end Go.Proofs.YtnedpngadfkmiaaDoor
