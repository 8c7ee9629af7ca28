/- The reference's Join. -/
import Derived.Test.YtfodafaclhoibaaPxRJoined
import Derived.Test.YtfodafaclhoibaaMpB
namespace Go.Proofs.Ytfodafaclhoibaa
open Go.RowKit
set_option linter.unusedVariables false
set_option linter.unusedSimpArgs false

theorem joined_blocks {w w' : World} {B : Nat} {v : Value} {t : List Trp} {p : List Blk} (h : RowB w w' B v t) (hs : shapeT t = joinL p) (hf : (flatB p).length ≤ 4000) (h64 : In64 (flatB p)) : IsBlocks w' v (joinL p) := by
  have hful : ∀ x ∈ t, x.2.2 ≠ [] := fun x hx => by
    have h1 : (x.1, x.2.2) ∈ shapeT t := List.mem_map_of_mem (f := fun x : Trp => (x.1, x.2.2)) hx
    rw [hs] at h1
    exact joinL_full _ _ h1
  have h8 := count_flatB (p := shapeT t) (fun b hb => by
    obtain ⟨x, hx, rfl⟩ := List.mem_map.1 hb
    exact hful x hx)
  rw [shapeT_len, hs, flat_joinL] at h8
  have := h.blocks (by omega) (fun x hx => by
    have h1 : (x.1, x.2.2) ∈ shapeT t := List.mem_map_of_mem (f := fun x : Trp => (x.1, x.2.2)) hx
    rw [hs] at h1
    have h2 := len_flatB h1
    rw [flat_joinL] at h2
    simp only at h2
    refine ⟨by omega, fun z hz => ?_⟩
    have h3 := mem_flatB h1 hz
    rw [flat_joinL] at h3
    exact h64 z h3)
  rw [hs] at this
  exact this

def RetBlkI (w : World) (q : List Blk × Int) (e : Ending) (w' : World) : Prop := ∃ v, e = .returned (.tuple #[v, .int .i64 q.2]) ∧ IsBlocks w' v q.1 ∧ Below w.heap.size w w'

set_option maxRecDepth 100000 in
set_option maxHeartbeats 1600000 in
theorem rjoin_any (vp : Value) (p : List Blk) (w : World) (HP : IsBlocks w vp p) (hfl : (flatB p).length ≤ 4000000) (h64 : In64 (flatB p)) :
    Calls Try.prog 31 #[vp] w (RetBlkI w (joinA p)) := by
  have HPP := Lib.hid HP
  have HF := Lib.hid (flat_any vp p w HP hfl)
  obtain ⟨a, cap, rfl, hlp⟩ := HP.shape
  have HFL := Lib.hid hfl
  have H64 := Lib.hid h64
  have HS : Hid (∀ X u, IsInts X u (flatB p) → Calls Try.prog 77 #[u] X fun e w' => e = .returned (.bool (singleB (flatB p))) ∧ Quiet X w') := fun X u h => single_any u (flatB p) X h
  have HJ : Hid ((flatB p).length ≤ 1024 → ∀ X, Below w.heap.size w X → Calls Try.prog 96 #[.slice a p.length cap] X fun e w' => ∃ b m c, e = .returned (.slice b m c) ∧ IsBlocks w' (.slice b m c) (joinL p) ∧ Below X.heap.size X w') := fun hl X hX =>
    (rjoined_any _ p X (HPP.out.below hX (Nat.le_refl _)) (by omega) H64.out).mono fun e w' h => by
      obtain ⟨v, t, rfl, hr, hs⟩ := h
      obtain ⟨b, c, rfl⟩ := hr.shape
      exact ⟨b, t.length, c, rfl, joined_blocks hr hs (by omega) H64.out, hr.below⟩
  have HA : Hid (joinA p = if singleB (flatB p) = true then (if (flatB p).length ≤ 1024 then (joinL p, 0) else ([], 3)) else ([], 2)) := rfl
  clear HP hfl h64
  generalize joinA p = A at *
  cases hs : singleB (flatB p) with
  | false =>
    rw [hs] at HS HA
    have hA : A = ([], 2) := by rw [HA.out]; rfl
    subst hA
    clear hs HA
    generalize flatB p = l at *
    go_enter Try.func31, Try.ntmps31
    go_wp2_with (first
      | (go_at_call 29; refine HF.out.mono ?_; rintro e w1 ⟨u1, rfl, ho1, hb1⟩; have hi1 := ho1.ints (by have := HFL.out; omega) H64.out; obtain ⟨a1, c1, rfl⟩ := hi1.shape)
      | (go_at_call 77; refine (HS.out w1 _ hi1).mono ?_; rintro e w2 ⟨rfl, hq2⟩))
    go_ret2
    exact ⟨_, rfl, IsTwo.nil _, hb1.trans (hq2.below _)⟩
  | true =>
    rw [hs] at HS HA
    clear hs
    by_cases hbig : (flatB p).length ≤ 1024
    · have hA : A = (joinL p, 0) := by rw [HA.out, if_pos rfl, if_pos hbig]
      have HJ2 := Lib.hid (HJ.out hbig)
      have hg : decide ((1024 : Int) < ((flatB p).length : Int)) = false := by rw [decide_eq_false_iff_not]; omega
      subst hA
      clear HA hbig
      generalize flatB p = l at *
      go_enter Try.func31, Try.ntmps31
      go_wp2_with (first
        | (go_at_call 29; refine HF.out.mono ?_; rintro e w1 ⟨u1, rfl, ho1, hb1⟩; have hi1 := ho1.ints (by have := HFL.out; omega) H64.out; obtain ⟨a1, c1, rfl⟩ := hi1.shape)
        | (go_at_call 77; refine (HS.out w1 _ hi1).mono ?_; rintro e w2 ⟨rfl, hq2⟩)
        | (go_at_call 96; refine (HJ2.out w2 (hb1.trans (hq2.below _))).mono ?_; rintro e w3 ⟨b3, m3, c3, rfl, hi3, hb3⟩))
      go_ret2
      exact ⟨_, rfl, hi3, (hb1.trans (hq2.below _)).trans (hb3.mono (Nat.le_trans hb1.size (hq2.below w1.heap.size).size))⟩
    · have hA : A = ([], 3) := by rw [HA.out, if_pos rfl, if_neg hbig]
      have hg : decide ((1024 : Int) < ((flatB p).length : Int)) = true := by rw [decide_eq_true_eq]; omega
      subst hA
      clear HA hbig
      generalize flatB p = l at *
      go_enter Try.func31, Try.ntmps31
      go_wp2_with (first
        | (go_at_call 29; refine HF.out.mono ?_; rintro e w1 ⟨u1, rfl, ho1, hb1⟩; have hi1 := ho1.ints (by have := HFL.out; omega) H64.out; obtain ⟨a1, c1, rfl⟩ := hi1.shape)
        | (go_at_call 77; refine (HS.out w1 _ hi1).mono ?_; rintro e w2 ⟨rfl, hq2⟩))
      go_ret2
      exact ⟨_, rfl, IsTwo.nil _, hb1.trans (hq2.below _)⟩
end Go.Proofs.Ytfodafaclhoibaa
