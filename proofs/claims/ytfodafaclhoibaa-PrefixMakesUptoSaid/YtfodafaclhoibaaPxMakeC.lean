/- The contracts that PrefixMakes calls, in one form. -/
import Derived.Test.YtfodafaclhoibaaPxRClose
import Derived.Test.YtfodafaclhoibaaMpG
namespace Go.Proofs.Ytfodafaclhoibaa
open Go.RowKit
set_option linter.unusedVariables false
set_option linter.unusedSimpArgs false

def Small (q : List Blk) : Prop := q.length ≤ 1024 ∧ ∀ b ∈ q, b.2.length ≤ 1024 ∧ In64 b.2 ∧ b.2 ≠ []
theorem small_nil : Small [] := ⟨by simp, fun b hb => by cases hb⟩
theorem joinA_small (p : List Blk) : Small (joinA p).1 ∧ ((joinA p).2 ≠ 0 → (joinA p).1 = []) := by
  unfold joinA
  by_cases hs : singleB (flatB p) = true
  · rw [if_pos hs]
    by_cases hl : (flatB p).length ≤ 1024
    · rw [if_pos hl]
      unfold singleB at hs
      rw [decide_eq_true_eq] at hs
      have hf := flat_joinL p
      refine ⟨⟨?_, fun b hb => ⟨?_, fun x hx => ?_, joinL_full p b hb⟩⟩, fun h => absurd rfl h⟩
      · have := count_flatB (p := joinL p) (joinL_full p)
        simp only
        rw [hf] at this
        omega
      · have := len_flatB hb
        rw [hf] at this
        omega
      · have h1 := mem_flatB hb hx
        rw [hf] at h1
        have := hs.2 x h1
        omega
    · rw [if_neg hl]
      exact ⟨small_nil, fun _ => rfl⟩
  · rw [if_neg hs]
    exact ⟨small_nil, fun _ => rfl⟩
theorem lessR_small (p : List Blk) (vars : List Int) : Small (lessR p vars).1 := by
  unfold lessR
  split
  · exact (joinA_small _).1
  · exact small_nil
theorem closeR_small (p : List Blk) (C : List (List Int)) : Small (closeR p C).1 ∧ ((closeR p C).2 ≠ 0 → (closeR p C).1 = []) := by
  unfold closeR
  split
  · exact joinA_small _
  · exact ⟨small_nil, fun _ => rfl⟩
theorem JoinSt.blk {w : World} {B : Nat} {v : Value} {t : List Trp} {q : List Blk} (h : JoinSt w B v t) (hs : shapeT t = q) (hq : Small q) : IsBlocks w v q := by
  have hl : t.length ≤ 1024 := by rw [← shapeT_len t, hs]; exact hq.1
  have := h.blocks (by omega) (fun x hx => by
    have h1 : (x.1, x.2.2) ∈ shapeT t := List.mem_map_of_mem (f := fun x : Trp => (x.1, x.2.2)) hx
    rw [hs] at h1
    have h2 := hq.2 _ h1
    exact ⟨by have := h2.1; simp only at this; omega, h2.2.1⟩)
  rw [hs] at this
  exact this

def RetB (w : World) (q : List Blk × Int) (e : Ending) (w' : World) : Prop := ∃ a n c, e = .returned (.tuple #[.slice a n c, .int .i64 q.2]) ∧ IsBlocks w' (.slice a n c) q.1 ∧ Below w.heap.size w w'
theorem RetBlkI.to {w : World} {q : List Blk × Int} {e : Ending} {w' : World} (h : RetBlkI w q e w') : RetB w q e w' := by
  obtain ⟨v, rfl, hi, hb⟩ := h
  obtain ⟨a, c, rfl, _⟩ := hi.shape
  exact ⟨a, _, c, rfl, hi, hb⟩
theorem pless_to (vp vl : Value) (p : List Blk) (vars : List Int) (w : World) (HP : IsBlocks w vp p) (HL : IsInts w vl vars) (hp : p.length ≤ 4000000) :
    Calls Try.prog 32 #[vp, vl] w (RetB w (lessR p vars)) :=
  (less_any vp vl p vars w HP HL hp).mono fun e w' h => by
    obtain ⟨v, t, rfl, hst, hsh, hb⟩ := h
    have hi := hst.blk hsh (lessR_small p vars)
    obtain ⟨a, c, rfl, _⟩ := hi.shape
    exact ⟨a, _, c, rfl, hi, hb⟩
def clR (p : List Blk) (C : List (List Int)) : List (List Int) := if (closeR p C).2 = 0 then C else []
def RetQ (w : World) (p : List Blk) (C : List (List Int)) (e : Ending) (w' : World) : Prop := ∃ a n c a' n' c', e = .returned (.tuple #[.agg #[.slice a n c, .slice a' n' c'], .int .i64 (closeR p C).2]) ∧ IsBlocks w' (.slice a n c) (closeR p C).1 ∧ IsRows w' (.slice a' n' c') (clR p C) ∧ Below w.heap.size w w'
theorem pclose_to (vp vc : Value) (p : List Blk) (C : List (List Int)) (w : World) (HP : IsBlocks w vp p) (HC : IsRows w vc C) (hp : p.length ≤ 4000000) :
    Calls Try.prog 34 #[.agg #[vp, vc]] w (RetQ w p C) :=
  (close_any vp vc p C w HP HC hp).mono fun e w' h => by
    obtain ⟨h | h, hb⟩ := h
    · obtain ⟨h0, v, t, rfl, hst, hsh⟩ := h
      have hi := hst.blk hsh (closeR_small p C).1
      obtain ⟨a, c, rfl, _⟩ := hi.shape
      have hr := HC.below hb (Nat.le_refl _)
      obtain ⟨a', c', rfl, _⟩ := HC.shape
      exact ⟨a, _, c, a', _, c', by rw [h0], hi, by unfold clR; rw [if_pos h0]; exact hr, hb⟩
    · obtain ⟨h0, rfl⟩ := h
      exact ⟨none, 0, 0, none, 0, 0, rfl, by rw [(closeR_small p C).2 h0]; exact IsTwo.nil _, by unfold clR; rw [if_neg h0]; exact IsRows.nil _, hb⟩
theorem rclose_to (vp vc : Value) (p : List Blk) (C : List (List Int)) (w : World) (HP : IsBlocks w vp p) (HC : IsRows w vc C) (hp : p.length ≤ 4000000) (hf : (flatB p).length ≤ 4000000) (h64 : In64 (flatB p)) (hcc : C.length + tot C ≤ 4000000) :
    Calls Try.prog 35 #[.agg #[vp, vc]] w (RetQ w p C) :=
  (rclose_any vp vc p C w HP HC hp hf h64 hcc).mono fun e w' h => by
    obtain ⟨h | h, hb⟩ := h
    · obtain ⟨h0, v, rfl, hi⟩ := h
      obtain ⟨a, c, rfl, _⟩ := hi.shape
      have hr := HC.below hb (Nat.le_refl _)
      obtain ⟨a', c', rfl, _⟩ := HC.shape
      exact ⟨a, _, c, a', _, c', by rw [h0], hi, by unfold clR; rw [if_pos h0]; exact hr, hb⟩
    · obtain ⟨h0, rfl⟩ := h
      exact ⟨none, 0, 0, none, 0, 0, rfl, by rw [(closeR_small p C).2 h0]; exact IsTwo.nil _, by unfold clR; rw [if_neg h0]; exact IsRows.nil _, hb⟩

set_option maxRecDepth 100000 in
set_option maxHeartbeats 1600000 in
theorem rsameq_yes (v1 v2 u1 u2 : Value) (p : List Blk) (C : List (List Int)) (w : World) (HP : IsBlocks w v1 p) (HC : IsRows w v2 C) (KP : IsBlocks w u1 p) (KC : IsRows w u2 C) :
    Calls Try.prog 36 #[.agg #[v1, v2], .agg #[u1, u2]] w fun e w' => e = .returned (.bool true) ∧ Below w.heap.size w w' := by
  obtain ⟨W, hW⟩ : ∃ W, (w.alloc (.cells #[v1, v2] 25)).alloc (.cells #[u1, u2] 25) = W := ⟨_, rfl⟩
  have hb0 : Below w.heap.size w W := by rw [← hW]; exact ((Below.refl w.heap.size w).alloc (Nat.le_refl _) _).alloc (by simp) _
  have hz : W.heap.size = w.heap.size + 2 := by rw [← hW]; simp
  have c0 : ∀ i v, (#[v1, v2] : Array Value)[i]? = some v → W.cell? ⟨w.heap.size, i, none⟩ = some v := fun i v h => by rw [← hW]; exact cell_old (cell_fresh h)
  have c1 : ∀ i v, (#[u1, u2] : Array Value)[i]? = some v → W.cell? ⟨w.heap.size + 1, i, none⟩ = some v := fun i v h => by rw [← hW]; exact cell_fresh2 h
  have HB0 := Lib.hid hb0
  have HS := Lib.hid (rsame_any v1 u1 p p W (HP.below hb0 (Nat.le_refl _)) (KP.below hb0 (Nat.le_refl _)))
  have HL : Hid (∀ X, Quiet W X → Calls Try.prog 92 #[v2, u2] X fun e w' => e = .returned (.bool true) ∧ Quiet X w') := fun X hX =>
    (lists_any v2 u2 C C X ((HC.below hb0 (Nat.le_refl _)).quiet hX) ((KC.below hb0 (Nat.le_refl _)).quiet hX)).mono fun e w' h => ⟨by rw [h.1]; simp [sameB], h.2⟩
  have hs1 : sameB p p = true := by simp [sameB]
  rw [hs1] at HS
  obtain ⟨a1, k1, rfl, _⟩ := HP.shape
  obtain ⟨a2, k2, rfl, _⟩ := HC.shape
  obtain ⟨a3, k3, rfl, _⟩ := KP.shape
  obtain ⟨a4, k4, rfl, _⟩ := KC.shape
  have HX : Hid (∀ X, Quiet W X → X.cell? ⟨w.heap.size, 1, none⟩ = some (.slice a2 C.length k2) ∧ X.cell? ⟨w.heap.size + 1, 1, none⟩ = some (.slice a4 C.length k4)) := fun X hX => ⟨(hX.cell _).trans (c0 1 _ rfl), (hX.cell _).trans (c1 1 _ rfl)⟩
  have d0 := c0 0 _ rfl
  have d1 := c1 0 _ rfl
  clear HP HC KP KC c0 c1 hb0 hs1
  go_enter Try.func36, Try.ntmps36
  go_wp2_with (first
    | (go_at_call 26; refine HS.out.mono ?_; rintro e w1 ⟨rfl, hq1⟩; obtain ⟨e0, e1⟩ := HX.out w1 hq1)
    | (go_at_call 92; refine (HL.out w1 hq1).mono ?_; rintro e w2 ⟨rfl, hq2⟩))
  go_ret
  exact ⟨rfl, HB0.out.trans ((hq1.trans hq2).below _)⟩
end Go.Proofs.Ytfodafaclhoibaa
