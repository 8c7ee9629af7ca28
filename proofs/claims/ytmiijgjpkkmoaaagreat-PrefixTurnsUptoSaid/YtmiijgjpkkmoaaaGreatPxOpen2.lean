/- What came in, opened for the walks, with what it holds in all. -/
import Derived.Test.YtmiijgjpkkmoaaaGreatMgJ
import Derived.Test.YtmiijgjpkkmoaaaGreatMpD
namespace Go.Proofs.YtmiijgjpkkmoaaaGreat
open Go.ChangeShapes Go.WideShapes Go.ChangeAt Go.RowKit Go.Deep
set_option linter.unusedVariables false

theorem bulk_rows {H : Type} (q : Nat → List Int) (D : Nat → DataW H) : ∀ n, (∀ i, i < n → (q i).length ≤ Rows.uptoBulk (D i)) → tot ((List.range n).map q) ≤ Rows.uptoBulkAll ((List.range n).map D)
  | 0, _ => by simp [tot]
  | n + 1, h => by
    have h1 := bulk_rows q D n (fun i hi => h i (by omega))
    have h2 := h n (by omega)
    rw [List.range_succ, List.map_append, List.map_append, bulk_app]
    have h4 : tot ((List.range n).map q ++ [n].map q) = tot ((List.range n).map q) + (q n).length := by unfold tot; simp
    rw [h4]
    have h5 : Rows.uptoBulkAll ([n].map D) = Rows.uptoBulk (D n) := by simp [Rows.uptoBulkAll]
    rw [h5]
    omega

section
variable {H : Type} {enc : TypeId × Value → H} {W : World} {base : Nat} {held : Bool}

/-- A slice of structs of two fields, the second a list of integers. -/
theorem two_ofR {α : Type} {R : α → Prop} {e1 : α → Value} {d : α × List Int} {t e : TypeId} {f0 f1 : Field} {fuel : Nat} {v : Value} {x : DataW H × List MemPlace}
    (ht : Tryz.prog.underlying t = some (.slice e)) (he : Tryz.prog.underlying e = some (.struct #[f0, f1]))
    (ce : Tryz.prog.cellsOf e = 2) (o0 : f0.offset = 0) (o1 : f1.offset = 1) (c0 : Tryz.prog.cellsOf f0.type = 1) (c1 : Tryz.prog.cellsOf f1.type = 1) (t1 : f1.type = 26) (hby : Tryz.prog.bytesOf e = 32)
    (hf : ∀ n v y, DataW.trod enc Tryz.prog W base (fun _ => true) held n f0.type [v] = some y → ∃ z : α, v = e1 z ∧ R z)
    (h : DataW.trod enc Tryz.prog W base (fun _ => true) held fuel t [v] = some x) (hw : ∀ n ∈ x.1.weights Tryz.prog t, n ≤ 140737488351232) : ∃ l, IsTwo e1 d W v l ∧ l.length + totT l ≤ Rows.uptoBulk x.1 ∧ ∀ y ∈ l, R y.1 := by
  rcases open_slice_pairs ht he ce o0 o1 c0 c1 h with ⟨hcs, _⟩ | ⟨a, len, cap, m, n, V0, V1, D0, D1, P0, P1, hcs, hb, hl, hm, hmm, hx, hr⟩
  · simp at hcs
    subst hcs
    exact ⟨[], IsTwo.nil W, Nat.zero_le _, fun y hy => by cases hy⟩
  · simp at hcs
    subst hcs
    simp only [if_true] at hmm
    subst hmm
    have hcap : m * 32 ≤ 140737488351232 := by
      have := hw ((len + (m - len)) * 32) (by
        rw [hx]
        simp only [DataW.weights, ht, hby, List.length_map, List.length_range]
        exact List.mem_cons_self)
      rw [show len + (m - len) = m from by omega] at this
      exact this
    have hm' : m ≤ 9223372036854775807 := by simpa [maxLen] using hm
    have each : ∀ i, i < len → ∃ q : α × List Int, V0 i = e1 q.1 ∧ IsInts W (V1 i) q.2 ∧ q.2.length ≤ Rows.uptoBulk (D1 i) ∧ R q.1 := by
      intro i hi
      obtain ⟨_, _, h0, h1⟩ := hr i (by omega)
      obtain ⟨z, hz, hR⟩ := hf _ _ _ h0
      rw [t1] at h1
      obtain ⟨l, hl, hlb⟩ := intv_of h1 (fun k hk => hw k (by
        rw [hx]
        simp only [DataW.weights, ht]
        refine List.mem_cons_of_mem _ (List.mem_append_left _ (mem_weightsAll (d := .agg [D0 i, D1 i]) (List.mem_map.2 ⟨i, List.mem_range.2 hi, rfl⟩) ?_))
        simp only [DataW.weights, he, List.map, DataW.weightsEach, t1]
        exact List.mem_append_right _ (List.mem_append_left _ hk)))
      exact ⟨(z, l), hz, hl, hlb, hR⟩
    haveI : Inhabited (α × List Int) := ⟨d⟩
    obtain ⟨q, hq⟩ := choose_lt each
    obtain ⟨b, off, spot⟩ := a
    refine ⟨(List.range len).map q, ⟨some ⟨b, off, spot⟩, m, by simp, ⟨by simpa using hl, fun e => by cases e⟩, hm', by simp; omega, b, off, fun hne => ?_, fun j hj => ?_⟩, ?_, fun y hy => ?_⟩
    · have h0 : 0 < len := by
        rcases Nat.eq_zero_or_pos len with h | h
        · subst h; exact absurd rfl hne
        · exact h
      have hc0 := (hr 0 (by omega)).1
      have hs : spot = none := by simpa [Addr.add] using World.cell?_spot hc0
      subst hs
      exact ⟨rfl, World.block_lt_of_cell? W _ hc0⟩
    · have hjl : j < len := by simpa using hj
      obtain ⟨h1, h2, _, _⟩ := hr j (by omega)
      have hs : spot = none := by simpa [Addr.add] using World.cell?_spot (hr 0 (by omega)).1
      subst hs
      rw [Addr.add_lit] at h1 h2
      have eg : ((List.range len).map q).getD j d = q j := by simp [List.getD, hjl]
      rw [eg]
      exact ⟨by rw [h1, (hq j hjl).1], V1 j, h2, (hq j hjl).2.1⟩
    · have hb := bulk_pairs q D0 D1 len (fun i hi => (hq i hi).2.2.1)
      rw [hx]
      simp only [Rows.uptoBulk, List.length_map, List.length_range]
      omega
    · obtain ⟨i, hi, rfl⟩ := List.mem_map.1 hy
      exact (hq i (List.mem_range.1 hi)).2.2.2

theorem depb_of {fuel : Nat} {v : Value} {x : DataW H × List MemPlace} (h : DataW.trod enc Tryz.prog W base (fun _ => true) held fuel 27 [v] = some x)
    (hw : ∀ n ∈ x.1.weights Tryz.prog 27, n ≤ 140737488351232) : ∃ l, IsDeps W v l ∧ l.length + totT l ≤ Rows.uptoBulk x.1 ∧ In64 (exOf l) := by
  obtain ⟨l, h1, h2, h3⟩ := two_ofR (R := fun z : Int => -9223372036854775808 ≤ z ∧ z ≤ 9223372036854775807) Tryz.underlying27 Tryz.underlying51 cells_dep rfl rfl cells_int cells_ints rfl bytes_dep
    (fun n v y hy => by obtain ⟨z, hz, _, hwf⟩ := DataW.trod_int Tryz.underlying3 hy; exact ⟨z, by simpa using hz, i64_of_wf hwf⟩) h hw
  refine ⟨l, h1, h2, fun z hz => ?_⟩
  obtain ⟨y, hy, rfl⟩ := List.mem_map.1 (show z ∈ l.map (fun x => x.1) from hz)
  exact h3 y hy
theorem rowb_of {fuel : Nat} {v : Value} {x : DataW H × List MemPlace} (h : DataW.trod enc Tryz.prog W base (fun _ => true) held fuel 23 [v] = some x)
    (hw : ∀ n ∈ x.1.weights Tryz.prog 23, n ≤ 140737488351232) : ∃ f, IsRows W v f ∧ f.length + tot f ≤ 2 * Rows.uptoBulk x.1 := by
  rcases open_slice1 Tryz.underlying23 cells_ints h with ⟨hcs, _⟩ | ⟨a, len, cap, m, n, V, D, Pl, hcs, hb, hl, hm, hmm, hx, hr⟩
  · simp at hcs
    subst hcs
    exact ⟨[], IsRows.nil W, Nat.zero_le _⟩
  · simp at hcs
    subst hcs
    simp only [if_true] at hmm
    subst hmm
    have hcap : m * 24 ≤ 140737488351232 := by
      have := hw ((len + (m - len)) * 24) (by
        rw [hx]
        simp only [DataW.weights, Tryz.underlying23, bytes_ints, List.length_map, List.length_range]
        exact List.mem_cons_self)
      rw [show len + (m - len) = m from by omega] at this
      exact this
    have hm' : m ≤ 9223372036854775807 := by simpa [maxLen] using hm
    have each : ∀ i, i < len → ∃ q : List Int, IsInts W (V i) q ∧ q.length ≤ Rows.uptoBulk (D i) := by
      intro i hi
      obtain ⟨_, h1⟩ := hr i (by omega)
      exact intv_of h1 (fun k hk => hw k (by
        rw [hx]
        simp only [DataW.weights, Tryz.underlying23]
        exact List.mem_cons_of_mem _ (List.mem_append_left _ (mem_weightsAll (d := D i) (List.mem_map.2 ⟨i, List.mem_range.2 hi, rfl⟩) hk))))
    obtain ⟨q, hq⟩ := choose_lt each
    obtain ⟨b, off, spot⟩ := a
    refine ⟨(List.range len).map q, ⟨some ⟨b, off, spot⟩, m, by simp, ⟨by simpa using hl, fun e => by cases e⟩, hm', by simp; omega, b, off, fun hne => ?_, fun j hj => ?_⟩, ?_⟩
    · have h0 : 0 < len := by
        rcases Nat.eq_zero_or_pos len with h | h
        · subst h; exact absurd rfl hne
        · exact h
      have hc0 := (hr 0 (by omega)).1
      have hs : spot = none := by simpa [Addr.add] using World.cell?_spot hc0
      subst hs
      exact ⟨rfl, World.block_lt_of_cell? W _ hc0⟩
    · have hjl : j < len := by simpa using hj
      obtain ⟨h1, _⟩ := hr j (by omega)
      have hs : spot = none := by simpa [Addr.add] using World.cell?_spot (hr 0 (by omega)).1
      subst hs
      rw [Addr.add_lit] at h1
      have eg : ((List.range len).map q).getD j [] = q j := by simp [List.getD, hjl]
      rw [eg]
      exact ⟨V j, h1, (hq j hjl).1⟩
    · have hb := bulk_rows q D len (fun i hi => (hq i hi).2)
      have hb2 := bulk_len ((List.range len).map D)
      rw [hx]
      simp only [Rows.uptoBulk, List.length_map, List.length_range] at hb2 ⊢
      omega
set_option maxRecDepth 100000 in
theorem qbfb_of {r : Reach} {b0 : Nat} {v : Value} {d : DataW H} {p : List MemPlace} (hv : Value.okWide Tryz.prog W r b0 25 v) (h : DataW.Trod enc Tryz.prog W base (fun _ => true) held 25 v d p)
    (hw : ∀ n ∈ d.weights Tryz.prog 25, n ≤ 140737488351232) : ∃ vp vc P C, v = .agg #[vp, vc] ∧ IsBlocks W vp P ∧ IsRows W vc C ∧ P.length + totT P + (C.length + tot C) ≤ 2 * Rows.uptoBulk d := by
  obtain ⟨v0, v1, y0, y1, n, rfl, rfl, rfl, h0, h1⟩ := Go.Joins.open_agg2 Tryz.underlying25 (by kernel_rfl) (by kernel_rfl) hv h
  obtain ⟨P, hP, b1⟩ := blocks_of h0 (fun k hk => hw k (by simp only [DataW.weights, Tryz.underlying25, List.map, DataW.weightsEach]; exact List.mem_append_left _ hk))
  obtain ⟨C, hC, b2⟩ := rowb_of h1 (fun k hk => hw k (by simp only [DataW.weights, Tryz.underlying25, List.map, DataW.weightsEach]; exact List.mem_append_right _ (List.mem_append_left _ hk)))
  exact ⟨v0, v1, P, C, rfl, hP, hC, by simp only [Rows.uptoBulk, Rows.uptoBulkAll]; omega⟩
set_option maxRecDepth 100000 in
theorem dqbfb_of {r : Reach} {b0 : Nat} {v : Value} {d : DataW H} {p : List MemPlace} (hv : Value.okWide Tryz.prog W r b0 29 v) (h : DataW.Trod enc Tryz.prog W base (fun _ => true) held 29 v d p)
    (hw : ∀ n ∈ d.weights Tryz.prog 29, n ≤ 140737488351232) : ∃ vu ve vc U E C, v = .agg #[vu, ve, vc] ∧ IsInts W vu U ∧ IsDeps W ve E ∧ IsRows W vc C ∧ In64 (exOf E) ∧ U.length + E.length + totT E + (C.length + tot C) ≤ 2 * Rows.uptoBulk d := by
  obtain ⟨v0, v1, v2, y0, y1, y2, n, rfl, rfl, rfl, h0, h1, h2⟩ := Go.Joins.open_agg3 Tryz.underlying29 (by kernel_rfl) (by kernel_rfl) hv h
  obtain ⟨U, hU, b1⟩ := intv_of h0 (fun k hk => hw k (by simp only [DataW.weights, Tryz.underlying29, List.map, DataW.weightsEach]; exact List.mem_append_left _ hk))
  obtain ⟨E, hE, b2, e64⟩ := depb_of h1 (fun k hk => hw k (by simp only [DataW.weights, Tryz.underlying29, List.map, DataW.weightsEach]; exact List.mem_append_right _ (List.mem_append_left _ hk)))
  obtain ⟨C, hC, b3⟩ := rowb_of h2 (fun k hk => hw k (by simp only [DataW.weights, Tryz.underlying29, List.map, DataW.weightsEach]; exact List.mem_append_right _ (List.mem_append_right _ (List.mem_append_left _ hk))))
  exact ⟨v0, v1, v2, U, E, C, rfl, hU, hE, hC, e64, by simp only [Rows.uptoBulk, Rows.uptoBulkAll]; omega⟩
end
end Go.Proofs.YtmiijgjpkkmoaaaGreat
