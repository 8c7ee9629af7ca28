/- Joined texts: CxOpen. -/
import Derived.Test.YticcikelapifaaaK05
import Derived.Test.YticcikelapifaaaK11
import Derived.Deep.Strs
/- Gates and nets that came in, opened for the walks. -/
namespace Go.Proofs.Yticcikelapifaaa
open Go.ChangeShapes Go.WideShapes Go.ChangeAt Go.RowKit Go.Deep
set_option linter.unusedVariables false

theorem bulk_threes {H : Type} (q : Nat → Gt) (D0 D1 D2 : Nat → DataW H) : ∀ n, (∀ i, i < n → (q i).2.2.length ≤ Rows.uptoBulk (D2 i)) → 3 * n + sizeG ((List.range n).map q) ≤ Rows.uptoBulkAll ((List.range n).map fun i => .agg [D0 i, D1 i, D2 i])
  | 0, _ => by simp [sizeG]
  | n + 1, h => by
    have h1 := bulk_threes q D0 D1 D2 n (fun i hi => h i (by omega))
    have h2 := h n (by omega)
    rw [List.range_succ, List.map_append, List.map_append, bulk_app]
    have h4 : sizeG ((List.range n).map q ++ [n].map q) = sizeG ((List.range n).map q) + (q n).2.2.length := by unfold sizeG; simp
    rw [h4]
    have h5 : Rows.uptoBulkAll ([n].map fun i => DataW.agg [D0 i, D1 i, D2 i]) = Rows.uptoBulk (D0 n) + Rows.uptoBulk (D1 n) + Rows.uptoBulk (D2 n) + 1 := by simp [Rows.uptoBulkAll, Rows.uptoBulk]; omega
    rw [h5]
    have h6 := bulk_pos (D0 n)
    have h7 := bulk_pos (D1 n)
    omega

section
variable {H : Type} {enc : TypeId × Value → H} {W : World} {base : Nat} {held : Bool}
theorem open_slice_threes {P : Program} {w : World} {spare : Nat → Bool} {t e : TypeId} {f0 f1 f2 : Field} {fuel : Nat} {cs : List Value} {x : DataW H × List MemPlace} (ht : P.underlying t = some (.slice e)) (he : P.underlying e = some (.struct #[f0, f1, f2]))
    (ce : P.cellsOf e = 3) (o0 : f0.offset = 0) (o1 : f1.offset = 1) (o2 : f2.offset = 2) (c0 : P.cellsOf f0.type = 1) (c1 : P.cellsOf f1.type = 1) (c2 : P.cellsOf f2.type = 1)
    (h : DataW.trod enc P w base spare held fuel t cs = some x) :
    (cs = [.slice none 0 0] ∧ x = (.nil, [])) ∨
    ∃ (a : Addr) (len cap m n : Nat) (V0 V1 V2 : Nat → Value) (D0 D1 D2 : Nat → DataW H), cs = [.slice (some a) len cap] ∧ base ≤ a.block ∧ len ≤ cap ∧ cap ≤ maxLen ∧ m = (if spare a.block then cap else len) ∧
      x.1 = .slice ((List.range len).map fun i => .agg [D0 i, D1 i, D2 i]) ((List.range (m - len)).map fun j => .agg [D0 (len + j), D1 (len + j), D2 (len + j)]) ∧
      ∀ i, i < m → w.cell? (a.add (i * 3)) = some (V0 i) ∧ w.cell? (a.add (i * 3 + 1)) = some (V1 i) ∧ w.cell? (a.add (i * 3 + 2)) = some (V2 i) ∧
        (∃ p, DataW.trod enc P w base spare held n f0.type [V0 i] = some (D0 i, p)) ∧ (∃ p, DataW.trod enc P w base spare held n f1.type [V1 i] = some (D1 i, p)) ∧ ∃ p, DataW.trod enc P w base spare held n f2.type [V2 i] = some (D2 i, p) := by
  rcases open_slice ht h with h0 | ⟨a, len, cap, m, n, D, Pl, rfl, hb, hl, hm, hmm, rfl, hx⟩
  · exact Or.inl h0
  right
  have hlm : len ≤ m := by rw [hmm]; split <;> omega
  have each : ∀ i, i < m → ∃ q : (Value × Value × Value) × (DataW H × List MemPlace) × (DataW H × List MemPlace) × (DataW H × List MemPlace), w.cell? (a.add (i * 3)) = some q.1.1 ∧ w.cell? (a.add (i * 3 + 1)) = some q.1.2.1 ∧ w.cell? (a.add (i * 3 + 2)) = some q.1.2.2 ∧
      DataW.trod enc P w base spare held (n - 1) f0.type [q.1.1] = some q.2.1 ∧ DataW.trod enc P w base spare held (n - 1) f1.type [q.1.2.1] = some q.2.2.1 ∧ DataW.trod enc P w base spare held (n - 1) f2.type [q.1.2.2] = some q.2.2.2 ∧ D i = .agg [q.2.1.1, q.2.2.1.1, q.2.2.2.1] := by
    intro i hi
    obtain ⟨cs', h1, h2⟩ := hx i hi
    rw [ce] at h1
    obtain ⟨_, hlen, hcell⟩ := World.cells?_some h1
    obtain ⟨xs, k, hk, hxy, _, hxl, hf⟩ := DataW.trod_struct he h2
    have hk' : k = n - 1 := by omega
    subst hk'
    match xs, hxl, cs', hlen with
    | [y0, y1, y2], _, [v0, v1, v2], _ =>
      have g0 := hf 0 f0 rfl
      have g1 := hf 1 f1 rfl
      have g2 := hf 2 f2 rfl
      simp [o0, o1, o2, c0, c1, c2] at g0 g1 g2
      have e0 := hcell 0 (by omega)
      have e1 := hcell 1 (by omega)
      have e2 := hcell 2 (by omega)
      rw [add_add] at e0 e1 e2
      simp only [Prod.mk.injEq] at hxy
      exact ⟨((v0, v1, v2), y0, y1, y2), by simpa using e0, by simpa using e1, by simpa using e2, g0, g1, g2, by simpa using hxy.1⟩
  haveI : Inhabited ((Value × Value × Value) × (DataW H × List MemPlace) × (DataW H × List MemPlace) × (DataW H × List MemPlace)) := ⟨((undef, undef, undef), (.nil, []), (.nil, []), (.nil, []))⟩
  obtain ⟨q, hq⟩ := choose_lt each
  refine ⟨a, len, cap, m, n - 1, fun i => (q i).1.1, fun i => (q i).1.2.1, fun i => (q i).1.2.2, fun i => (q i).2.1.1, fun i => (q i).2.2.1.1, fun i => (q i).2.2.2.1, rfl, hb, hl, hm, hmm, ?_,
    fun i hi => ⟨(hq i hi).1, (hq i hi).2.1, (hq i hi).2.2.1, ⟨_, (hq i hi).2.2.2.1⟩, ⟨_, (hq i hi).2.2.2.2.1⟩, ⟨_, (hq i hi).2.2.2.2.2.1⟩⟩⟩
  show DataW.slice _ _ = _
  rw [List.map_congr_left (fun i hi => (hq i (by have := List.mem_range.1 hi; omega)).2.2.2.2.2.2), List.map_congr_left (fun j hj => (hq (len + j) (by have := List.mem_range.1 hj; omega)).2.2.2.2.2.2)]

theorem cells_gate : Try.prog.cellsOf 71 = 3 := by kernel_rfl
theorem bytes_gate : Try.prog.bytesOf 71 = 40 := by kernel_rfl
theorem cells_kind : Try.prog.cellsOf 69 = 1 := by kernel_rfl
theorem u8_of_wf {n : Int} (h : (Lit.int .u8 n).wf = true) : 0 ≤ n ∧ n ≤ 255 := by
  have := Go.Extern.FmtText.int_bounds h
  simpa [IntKind.min, IntKind.max, IntKind.signed, IntKind.bits] using this

/-- A slice of gates that came in. -/
theorem gates_of {fuel : Nat} {v : Value} {x : DataW H × List MemPlace} (h : DataW.trod enc Try.prog W base (fun _ => true) held fuel 23 [v] = some x)
    (hw : ∀ n ∈ x.1.weights Try.prog 23, n ≤ 140737488351232) : ∃ l, IsGates W v l ∧ 3 * l.length + sizeG l ≤ Rows.uptoBulk x.1 := by
  rcases open_slice_threes Try.underlying23 Try.underlying71 cells_gate rfl rfl rfl cells_int cells_kind cells_ints h with ⟨hcs, _⟩ | ⟨a, len, cap, m, n, V0, V1, V2, D0, D1, D2, hcs, hb, hl, hm, hmm, hx, hr⟩
  · simp at hcs
    subst hcs
    exact ⟨[], IsGates.nil W, Nat.zero_le _⟩
  · simp at hcs
    subst hcs
    simp only [if_true] at hmm
    subst hmm
    have hcap : m * 40 ≤ 140737488351232 := by
      have := hw ((len + (m - len)) * 40) (by
        rw [hx]
        simp only [DataW.weights, Try.underlying23, bytes_gate, List.length_map, List.length_range]
        exact List.mem_cons_self)
      rw [show len + (m - len) = m from by omega] at this
      exact this
    have hm' : m ≤ 9223372036854775807 := by simpa [maxLen] using hm
    have each : ∀ i, i < len → ∃ q : Gt, V0 i = .int .i64 q.1 ∧ V1 i = .int .u8 q.2.1 ∧ IsInts W (V2 i) q.2.2 ∧ q.2.2.length ≤ Rows.uptoBulk (D2 i) ∧ (-9223372036854775808 ≤ q.1 ∧ q.1 ≤ 9223372036854775807) ∧ 0 ≤ q.2.1 ∧ q.2.1 ≤ 255 := by
      intro i hi
      obtain ⟨_, _, _, ⟨_, h0⟩, ⟨_, h1⟩, ⟨_, h2⟩⟩ := hr i (by omega)
      obtain ⟨z, hz, _, hwf⟩ := DataW.trod_int Try.underlying3 h0
      obtain ⟨z1, hz1, _, hwf1⟩ := DataW.trod_int Try.underlying69 h1
      obtain ⟨l, hl, hlb⟩ := intv_of h2 (fun k hk => hw k (by
        rw [hx]
        simp only [DataW.weights, Try.underlying23]
        refine List.mem_cons_of_mem _ (List.mem_append_left _ (mem_weightsAll (d := .agg [D0 i, D1 i, D2 i]) (List.mem_map.2 ⟨i, List.mem_range.2 hi, rfl⟩) ?_))
        simp only [DataW.weights, Try.underlying71, List.map, DataW.weightsEach]
        exact List.mem_append_right _ (List.mem_append_right _ (List.mem_append_left _ hk))))
      exact ⟨(z, z1, l), by simpa using hz, by simpa using hz1, hl, hlb, i64_of_wf hwf, u8_of_wf hwf1⟩
    haveI : Inhabited Gt := ⟨dG⟩
    obtain ⟨q, hq⟩ := choose_lt each
    obtain ⟨b, off, spot⟩ := a
    refine ⟨(List.range len).map q, ⟨some ⟨b, off, spot⟩, m, by simp, ⟨by simpa using hl, fun e => by cases e⟩, hm', by simp; omega, fun g hg => ?_, b, off, fun hne => ?_, fun j hj => ?_⟩, ?_⟩
    · obtain ⟨i, hi, rfl⟩ := List.mem_map.1 hg
      exact (hq i (List.mem_range.1 hi)).2.2.2.2
    · have h0 : 0 < len := by
        rcases Nat.eq_zero_or_pos len with h | h
        · subst h; exact absurd rfl hne
        · exact h
      have hc0 := (hr 0 (by omega)).1
      have hs : spot = none := by simpa [Addr.add] using World.cell?_spot hc0
      subst hs
      exact ⟨rfl, World.block_lt_of_cell? W _ hc0⟩
    · have hjl : j < len := by simpa using hj
      obtain ⟨h1, h2, h3, _⟩ := hr j (by omega)
      have hs : spot = none := by simpa [Addr.add] using World.cell?_spot (hr 0 (by omega)).1
      subst hs
      rw [Addr.add_lit] at h1 h2 h3
      have eg : ((List.range len).map q).getD j dG = q j := by simp [List.getD, hjl]
      rw [eg]
      exact ⟨by rw [h1, (hq j hjl).1], by rw [Nat.add_assoc, h2, (hq j hjl).2.1], V2 j, by rw [Nat.add_assoc, h3], (hq j hjl).2.2.1⟩
    · have hb := bulk_threes q D0 D1 D2 len (fun i hi => (hq i hi).2.2.2.1)
      rw [hx]
      simp only [Rows.uptoBulk, List.length_map, List.length_range]
      omega
set_option maxRecDepth 100000 in
/-- A net that came in. -/
theorem net_of {r : Reach} {b0 : Nat} {v : Value} {d : DataW H} {p : List MemPlace} (hv : Value.okWide Try.prog W r b0 25 v) (h : DataW.Trod enc Try.prog W base (fun _ => true) held 25 v d p)
    (hw : ∀ n ∈ d.weights Try.prog 25, n ≤ 140737488351232) : ∃ vp vg o P gs, v = .agg #[vp, vg, .int .i64 o] ∧ IsBlocks W vp P ∧ IsGates W vg gs ∧ (-9223372036854775808 ≤ o ∧ o ≤ 9223372036854775807) ∧ P.length + totT P + (3 * gs.length + sizeG gs) ≤ Rows.uptoBulk d := by
  obtain ⟨v0, v1, v2, y0, y1, y2, n, rfl, rfl, rfl, h0, h1, h2⟩ := Go.Joins.open_agg3 Try.underlying25 (by kernel_rfl) (by kernel_rfl) hv h
  obtain ⟨P, hP, b1⟩ := blocks_of h0 (fun k hk => hw k (by simp only [DataW.weights, Try.underlying25, List.map, DataW.weightsEach]; exact List.mem_append_left _ hk))
  obtain ⟨gs, hG, b2⟩ := gates_of h1 (fun k hk => hw k (by simp only [DataW.weights, Try.underlying25, List.map, DataW.weightsEach]; exact List.mem_append_right _ (List.mem_append_left _ hk)))
  obtain ⟨z, hz, _, hwf⟩ := DataW.trod_int Try.underlying3 h2
  have hz' : v2 = .int .i64 z := by simpa using hz
  subst hz'
  exact ⟨v0, v1, z, P, gs, rfl, hP, hG, i64_of_wf hwf, by simp only [Rows.uptoBulk, Rows.uptoBulkAll]; omega⟩
end
end Go.Proofs.Yticcikelapifaaa
