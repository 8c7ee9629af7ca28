/- prefix.without. -/
import Derived.Test.YtmiijgjpkkmoaaaGreatMpE
import Derived.Test.YtmiijgjpkkmoaaaGreatShelf
namespace Go.Proofs.YtmiijgjpkkmoaaaGreat
open Go.RowKit
set_option linter.unusedVariables false
set_option linter.unusedSimpArgs false

theorem bs1_any (v : Value) (l : List Int) (x : Int) (w : World) (H : IsInts w v l) (hs : l.Pairwise (· ≤ ·)) :
    Calls Tryz.prog 76 #[v, .int .i64 x] w fun e w' => (∃ r : Int, e = .returned (.tuple #[.int .i64 r, .bool (decide (x ∈ l))])) ∧ Quiet w w' := by
  obtain ⟨a, cap, rfl, _, _, hl, h64, b, off, ha, hc⟩ := H
  by_cases hn : l = []
  · subst hn
    refine (Tryz.slices_BinarySearch_int_empty a cap x w).mono ?_
    rintro e w' ⟨rfl, rfl⟩
    exact ⟨⟨0, by simp⟩, Quiet.refl _⟩
  · obtain ⟨rfl, hb⟩ := ha hn
    refine (Tryz.slices_BinarySearch_int b off l.length cap l x w (Nat.le_refl _) (by omega) hc (by rw [List.take_length]; exact hs)).mono ?_
    rintro e w' ⟨rfl, q, rfl⟩
    refine ⟨⟨((l.take l.length).countP (fun y => decide (y < x)) : Nat), ?_⟩, ⟨q, rfl⟩⟩
    rw [List.take_length]
    simp

theorem wo_enters (args : Array Value) (w : World) : (callFunc 75 args).run Tryz.prog w = .ok (.enter 75 args) w := enters_of Tryz.func75 (by kernel_rfl) rfl args w
set_option maxHeartbeats 400000 in
theorem woc_any (vb : Value) (b : List Int) (B1 : Nat) (x : Int) (w : World) (H : IsInts w vb b) (hs : b.Pairwise (· ≤ ·)) (c1 : w.cell? ⟨B1, 0, none⟩ = some vb) :
    Calls Tryz.prog 75 #[.int .i64 x, .pointer (some ⟨B1, 0, none⟩)] w fun e w' => e = .returned (.bool (!decide (x ∈ b))) ∧ Quiet w w' := by
  have HB := Lib.hid (bs1_any vb b x w H hs)
  obtain ⟨a, cap, rfl⟩ := H.shape
  clear H hs
  generalize decide (x ∈ b) = r at *
  go_enter Tryz.func75, Tryz.ntmps75
  go_wp2_with (go_at_call 76; refine HB.out.mono ?_; rintro e w1 ⟨⟨q, rfl⟩, hq⟩)
  go_ret
  exact ⟨rfl, hq⟩

def withoutI (a b : List Int) : List Int := a.filter (fun x => !decide (x ∈ b))
set_option maxHeartbeats 800000 in
theorem without1_any (va vb : Value) (a b : List Int) (w : World) (HA : IsInts w va a) (HB : IsInts w vb b) (hs : b.Pairwise (· ≤ ·)) (hl : a.length ≤ 4000000) :
    Calls Tryz.prog 44 #[va, vb] w (RetOwn w (withoutI a b)) := by
  have HCH := Lib.hid (chosen_any (fun x => !decide (x ∈ b)) 75 #[.pointer (some ⟨w.heap.size, 0, none⟩)] va a (w.alloc (.cells #[vb] 26)) wo_enters (fun W hW x hx => by
    have c1 : W.cell? ⟨w.heap.size, 0, none⟩ = some vb := (hW.cell (p := ⟨w.heap.size, 0, none⟩) (by simp)).trans (cell_fresh rfl)
    exact (woc_any vb b w.heap.size x W ((HB.below ((Below.refl w.heap.size w).alloc (Nat.le_refl _) _) (Nat.le_refl _)).below hW (Nat.le_refl _)) hs c1).mono fun e w' h => ⟨h.1, h.2.below _⟩)
    (HA.below ((Below.refl w.heap.size w).alloc (Nat.le_refl _) _) (Nat.le_refl _)) hl)
  obtain ⟨aa, ac, rfl⟩ := HA.shape
  obtain ⟨ba, bc, rfl⟩ := HB.shape
  clear HA HB
  go_enter Tryz.func44, Tryz.ntmps44
  go_wp2_with (go_at_call 58; refine HCH.out.mono ?_; rintro e w3 ⟨v, rfl, hown, hb3⟩)
  go_ret
  exact ⟨v, rfl, hown.mono (by simp), ((Below.refl w.heap.size w).alloc (Nat.le_refl _) _).trans (hb3.mono (by simp))⟩

end Go.Proofs.YtmiijgjpkkmoaaaGreat
