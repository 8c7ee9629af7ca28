/- Joined texts: OpenRows, OpenRowsZ. -/
import Derived.Test.YtmhjpbhldaagmaaDoorMgY
import Derived.Deep.Matrix
import Derived.SizedLaws
/- A slice of slices of integers that came in, opened for the walks. -/
namespace Go.Proofs.YtmhjpbhldaagmaaDoor
open Go.ChangeShapes Go.WideShapes Go.ChangeAt Go.RowKit Go.Deep
set_option linter.unusedVariables false

theorem mem_weightsAll {H : Type} {P : Program} {e : TypeId} {l : List (DataW H)} {d : DataW H} {n : Nat} (h : d ∈ l) (hn : n ∈ d.weights P e) : n ∈ DataW.weightsAll P e l := by
  induction l with
  | nil => cases h
  | cons x r ih =>
    unfold DataW.weightsAll
    rcases List.mem_cons.1 h with rfl | h
    · exact List.mem_append_left _ hn
    · exact List.mem_append_right _ (ih h)
theorem bytes_ints : Tryd.prog.bytesOf 23 = 24 := by kernel_rfl
theorem bytes_int : Tryd.prog.bytesOf 3 = 8 := by kernel_rfl
theorem cells_ints : Tryd.prog.cellsOf 23 = 1 := by kernel_rfl
theorem cells_int : Tryd.prog.cellsOf 3 = 1 := by kernel_rfl

theorem rows_of {H : Type} {enc : TypeId × Value → H} {W : World} {base : Nat} {held : Bool} {fuel : Nat} {a : Option Addr} {len cap : Nat} {x : DataW H × List MemPlace}
    (h : DataW.trod enc Tryd.prog W base (fun _ => true) held fuel 22 [.slice a len cap] = some x) (hw : ∀ n ∈ x.1.weights Tryd.prog 22, n ≤ 140737488351232) : ∃ f, f.length = len ∧ IsRows W (.slice a len cap) f := by
  rcases open_int_rows Tryd.underlying22 Tryd.underlying23 Tryd.underlying3 cells_ints cells_int h with ⟨hcs, _⟩ | ⟨y, len', cap', A, L, C, Z, hcs, hb, hl, hm, hx, hr⟩
  · simp at hcs
    obtain ⟨rfl, rfl, rfl⟩ := hcs
    exact ⟨[], rfl, IsRows.nil W⟩
  · simp at hcs
    obtain ⟨rfl, rfl, rfl⟩ := hcs
    have hcap : cap * 24 ≤ 140737488351232 := by
      have := hw ((len + (cap - len)) * 24) (by
        rw [hx]
        simp only [DataW.weights, Tryd.underlying22, bytes_ints, List.length_map, List.length_range]
        exact List.mem_cons_self)
      rw [show len + (cap - len) = cap from by omega] at this
      exact this
    have hrow : ∀ r, r < len → C r ≤ 17592186044416 := by
      intro r hrl
      obtain ⟨_, _, _, h4, _, h6, _⟩ := hr r (by omega)
      cases hA : A r with
      | none => rw [h6 hA]; omega
      | some q =>
        have := hw (C r * 8) (by
          rw [hx]
          simp only [DataW.weights, Tryd.underlying22]
          refine List.mem_cons_of_mem _ (List.mem_append_left _ (mem_weightsAll (d := intRow .i64 (A r) (L r) (Z r)) (List.mem_map.2 ⟨r, List.mem_range.2 hrl, rfl⟩) ?_))
          rw [hA]
          simp only [intRow, DataW.weights, Tryd.underlying23, bytes_int]
          have e : ((lits (H := H) .i64 ((Z r).take (L r))).length + (lits (H := H) .i64 ((Z r).drop (L r))).length) = C r := by
            simp only [lits, List.length_map, List.length_take, List.length_drop]
            omega
          rw [e]
          exact List.mem_cons_self)
        omega
    obtain ⟨b, off, spot⟩ := y
    refine ⟨(List.range len).map (fun r => (Z r).take (L r)), by simp, some ⟨b, off, spot⟩, cap, by simp, ⟨by simpa using hl, fun e => by cases e⟩, by omega, by simp; omega, b, off, fun hne => ?_, fun j hj => ?_⟩
    · have h0 : 0 < len := by
        rcases Nat.eq_zero_or_pos len with h | h
        · subst h; exact absurd rfl hne
        · exact h
      have hc0 := (hr 0 (by omega)).1
      have hs : spot = none := by simpa [Addr.add] using World.cell?_spot hc0
      subst hs
      exact ⟨rfl, World.block_lt_of_cell? W _ hc0⟩
    · have hjl : j < len := by simpa using hj
      obtain ⟨h1, h2, h3, h4, h5, h6, h7⟩ := hr j (by omega)
      have hs : spot = none := by simpa [Addr.add] using World.cell?_spot (hr 0 (by omega)).1
      subst hs
      rw [Addr.add_lit] at h1
      refine ⟨_, h1, ?_⟩
      have eg : ((List.range len).map (fun r => (Z r).take (L r))).getD j [] = (Z j).take (L j) := by simp [List.getD, hjl]
      rw [eg]
      have hll : ((Z j).take (L j)).length = L j := by rw [List.length_take]; omega
      have hC := hrow j hjl
      have h64 : In64 ((Z j).take (L j)) := fun n hn => i64_of_wf (h5 n (List.mem_of_mem_take hn))
      cases hA : A j with
      | none =>
        have hc := h6 hA
        have hL : L j = 0 := by omega
        rw [hL, hc, List.take_zero]
        exact IsInts.nil W
      | some q =>
        obtain ⟨_, hcell⟩ := h7 q hA
        obtain ⟨b2, off2, spot2⟩ := q
        refine ⟨_, C j, by rw [hll], ⟨by rw [hll]; exact h2, fun e => by cases e⟩, by omega, by rw [hll]; omega, h64, b2, off2, fun hne => ?_, fun i hi => ?_⟩
        · have h0 : 0 < L j := by
            rcases Nat.eq_zero_or_pos (L j) with h | h
            · rw [h, List.take_zero] at hne; exact absurd rfl hne
            · exact h
          have hc0 := hcell 0 (by omega)
          have hs : spot2 = none := by simpa [Addr.add] using World.cell?_spot hc0
          subst hs
          exact ⟨rfl, World.block_lt_of_cell? W _ hc0⟩
        · rw [hll] at hi
          have hs : spot2 = none := by simpa [Addr.add] using World.cell?_spot (hcell 0 (by omega))
          subst hs
          have hci := hcell i (by omega)
          rw [Addr.add_lit] at hci
          rw [hci]
          have : i < (Z j).length := by omega
          simp [List.getD, List.getElem?_take_of_lt hi]

end Go.Proofs.YtmhjpbhldaagmaaDoor

/- A slice of slices of integers that came in: how many rows a machine reaches. -/
namespace Go.Proofs.YtmhjpbhldaagmaaDoor
open Go.ChangeShapes Go.WideShapes Go.ChangeAt Go.RowKit Go.Deep
set_option linter.unusedVariables false

theorem rows_cap {H : Type} {enc : TypeId × Value → H} {W : World} {base : Nat} {held : Bool} {fuel : Nat} {a : Option Addr} {len cap : Nat} {x : DataW H × List MemPlace}
    (h : DataW.trod enc Tryd.prog W base (fun _ => true) held fuel 22 [.slice a len cap] = some x) (hw : ∀ n ∈ x.1.weights Tryd.prog 22, n ≤ 140737488351232) : len * 24 ≤ 140737488351232 := by
  rcases open_int_rows Tryd.underlying22 Tryd.underlying23 Tryd.underlying3 cells_ints cells_int h with ⟨hcs, _⟩ | ⟨y, len', cap', A, L, C, Z, hcs, hb, hl, hm, hx, hr⟩
  · simp at hcs
    omega
  · simp at hcs
    obtain ⟨rfl, rfl, rfl⟩ := hcs
    have hcap : cap * 24 ≤ 140737488351232 := by
      have := hw ((len + (cap - len)) * 24) (by
        rw [hx]
        simp only [DataW.weights, Tryd.underlying22, bytes_ints, List.length_map, List.length_range]
        exact List.mem_cons_self)
      rw [show len + (cap - len) = cap from by omega] at this
      exact this
    omega

end Go.Proofs.YtmhjpbhldaagmaaDoor
