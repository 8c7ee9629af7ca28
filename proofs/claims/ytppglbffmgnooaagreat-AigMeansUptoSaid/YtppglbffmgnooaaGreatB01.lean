/- Joined texts: AgOpen, AgOpenO. -/
import Derived.Test.YtppglbffmgnooaaGreatA04
import Derived.Test.YtppglbffmgnooaaGreatA02
import Derived.Deep.SlicePairs
import Derived.Lib.SmallJoins
import Derived.SizedLaws
/- Graphs that came in, opened for the walks. -/
namespace Go.Proofs.YtppglbffmgnooaaGreat
open Go.ChangeShapes Go.WideShapes Go.ChangeAt Go.RowKit Go.Deep
set_option linter.unusedVariables false

theorem bulkg_pos {H : Type} (d : DataW H) : 1 ≤ Rows.uptoBulk d := by
  cases d with
  | lit l => cases l <;> simp [Rows.uptoBulk]
  | nil => simp [Rows.uptoBulk]
  | ptr d => simp [Rows.uptoBulk]
  | slice elems spare => simp [Rows.uptoBulk]
  | agg parts => simp [Rows.uptoBulk]
  | iface t d => simp [Rows.uptoBulk]
  | map entries => simp [Rows.uptoBulk]
  | held h => simp [Rows.uptoBulk]
theorem bulkg_len {H : Type} (l : List (DataW H)) : l.length ≤ Rows.uptoBulkAll l := by
  induction l with
  | nil => simp
  | cons x r ih => have := bulkg_pos x; simp only [Rows.uptoBulkAll, List.length_cons]; omega
theorem bytesg_int : Tryz.prog.bytesOf 3 = 8 := by kernel_rfl
theorem cellsg_int : Tryz.prog.cellsOf 3 = 1 := by kernel_rfl
theorem cellsg_pair : Tryz.prog.cellsOf 115 = 2 := by kernel_rfl
theorem bytesg_pair : Tryz.prog.bytesOf 115 = 16 := by kernel_rfl
theorem i64g_of_wf {n : Int} (h : (Lit.int .i64 n).wf = true) : -9223372036854775808 ≤ n ∧ n ≤ 9223372036854775807 := by
  have := Go.Extern.FmtText.int_bounds h
  simpa [IntKind.min, IntKind.max, IntKind.signed, IntKind.bits] using this

section
variable {H : Type} {enc : TypeId × Value → H} {W : World} {base : Nat} {held : Bool}

/-- A slice of integers that came in, of a size that a machine reaches. -/
theorem gintv_of {sp : Nat → Bool} {fuel : Nat} {v : Value} {x : DataW H × List MemPlace} (h : DataW.trod enc Tryz.prog W base sp held fuel 22 [v] = some x)
    (hw : ∀ n ∈ x.1.weights Tryz.prog 22, n ≤ 140737488351232) : ∃ l, IsInts W v l ∧ l.length ≤ Rows.uptoBulk x.1 := by
  rcases open_ints Tryz.underlying22 Tryz.underlying3 (by kernel_rfl) h with ⟨hcs, _⟩ | ⟨y, l, c, zs, hcs, _, hl, hm, hz, hx, _, _⟩
  · simp at hcs
    subst hcs
    exact ⟨[], IsInts.nil W, Nat.zero_le _⟩
  · simp at hcs
    subst hcs
    have hz' : l ≤ zs.length := by rw [hz]; split <;> omega
    have := hw (zs.length * 8) (by
      rw [hx]
      simp only [DataW.weights, Tryz.underlying22, bytesg_int]
      have e : ((lits (H := H) .i64 (zs.take l)).length + (lits (H := H) .i64 (zs.drop l)).length) = zs.length := by
        simp only [lits, List.length_map, List.length_take, List.length_drop]
        omega
      rw [e]
      exact List.mem_cons_self)
    obtain ⟨q, hql, hq⟩ := (ints_of h).2 (by omega)
    refine ⟨q, hq, ?_⟩
    have hb := bulkg_len (lits (H := H) .i64 (zs.take l))
    have hl2 : (lits (H := H) .i64 (zs.take l)).length = l := by simp only [lits, List.length_map, List.length_take]; omega
    rw [hx]
    simp only [Rows.uptoBulk]
    omega

/-- A slice of arrays of two integers that came in. -/
theorem gpairs_of {fuel : Nat} {v : Value} {x : DataW H × List MemPlace} (h : DataW.trod enc Tryz.prog W base (fun _ => true) held fuel 23 [v] = some x)
    (hw : ∀ n ∈ x.1.weights Tryz.prog 23, n ≤ 140737488351232) : ∃ A, IsPairs W v A ∧ A.length ≤ Rows.uptoBulk x.1 := by
  rcases open_slice Tryz.underlying23 h with ⟨rfl', rfl⟩ | ⟨a, len, cap, m, n, D, Pl, hcs, hb, hl, hm, hmm, rfl, hx⟩
  · simp at rfl'
    subst rfl'
    exact ⟨[], ⟨none, 0, rfl, ⟨Nat.le_refl _, fun _ => rfl⟩, by omega, by simp, (fun p hp => absurd hp (by simp)), 0, 0, fun hne => absurd rfl hne, fun j hj => absurd hj (by simp)⟩, Nat.zero_le _⟩
  · simp at hcs
    subst hcs
    simp only [if_true] at hmm
    subst hmm
    have hcap : m * 16 ≤ 140737488351232 := by
      have := hw ((len + (m - len)) * 16) (by
        simp only [DataW.weights, Tryz.underlying23, bytesg_pair, List.length_map, List.length_range]
        exact List.mem_cons_self)
      rw [show len + (m - len) = m from by omega] at this
      exact this
    have hm' : m ≤ 9223372036854775807 := by simpa [maxLen] using hm
    have each : ∀ i, i < len → ∃ q : Pr, W.cell? (a.add (i * 2)) = some (.int .i64 q.1) ∧ W.cell? (a.add (i * 2 + 1)) = some (.int .i64 q.2) ∧ (-9223372036854775808 ≤ q.1 ∧ q.1 ≤ 9223372036854775807) ∧ -9223372036854775808 ≤ q.2 ∧ q.2 ≤ 9223372036854775807 := by
      intro i hi
      obtain ⟨cs', h1, h2⟩ := hx i (by omega)
      rw [cellsg_pair] at h1
      obtain ⟨_, hlen, hcell⟩ := World.cells?_some h1
      obtain ⟨xs, k, hk, hxy, _, hxl, hf⟩ := DataW.trod_array Tryz.underlying115 h2
      clear hx hw hcap
      obtain ⟨v0, v1, rfl⟩ : ∃ v0 v1, cs' = [v0, v1] := by
        rcases cs' with _ | ⟨v0, _ | ⟨v1, _ | ⟨v2, r⟩⟩⟩
        · cases hlen
        · cases hlen
        · exact ⟨v0, v1, rfl⟩
        · simp at hlen
      obtain ⟨y0, y1, rfl⟩ : ∃ y0 y1, xs = [y0, y1] := by
        rcases xs with _ | ⟨y0, _ | ⟨y1, _ | ⟨y2, r⟩⟩⟩
        · cases hxl
        · cases hxl
        · exact ⟨y0, y1, rfl⟩
        · simp at hxl
      have g0 := hf 0 (by omega)
      have g1 := hf 1 (by omega)
      simp [cellsg_int] at g0 g1
      have e0 := hcell 0 (by omega)
      have e1 := hcell 1 (by omega)
      rw [add_add] at e0 e1
      obtain ⟨z0, hz0, _, hwf0⟩ := DataW.trod_int Tryz.underlying3 g0
      obtain ⟨z1, hz1, _, hwf1⟩ := DataW.trod_int Tryz.underlying3 g1
      have hz0' : v0 = .int .i64 z0 := by simpa using hz0
      have hz1' : v1 = .int .i64 z1 := by simpa using hz1
      subst hz0' hz1'
      exact ⟨(z0, z1), by simpa using e0, by simpa using e1, i64g_of_wf hwf0, i64g_of_wf hwf1⟩
    haveI : Inhabited Pr := ⟨dPr⟩
    obtain ⟨q, hq⟩ := choose_lt each
    obtain ⟨b, off, spot⟩ := a
    refine ⟨(List.range len).map q, ⟨some ⟨b, off, spot⟩, m, by simp, ⟨by simpa using hl, fun e => by cases e⟩, hm', by simp; omega, fun g hg => ?_, b, off, fun hne => ?_, fun j hj => ?_⟩, ?_⟩
    · obtain ⟨i, hi, rfl⟩ := List.mem_map.1 hg
      exact (hq i (List.mem_range.1 hi)).2.2
    · have h0 : 0 < len := by
        rcases Nat.eq_zero_or_pos len with h | h
        · subst h; exact absurd rfl hne
        · exact h
      have hc0 := (hq 0 h0).1
      have hs : spot = none := by simpa [Addr.add] using World.cell?_spot hc0
      subst hs
      exact ⟨rfl, World.block_lt_of_cell? W _ hc0⟩
    · have hjl : j < len := by simpa using hj
      obtain ⟨h1, h2, _⟩ := hq j hjl
      have hs : spot = none := by simpa [Addr.add] using World.cell?_spot (hq 0 (by omega)).1
      subst hs
      rw [Addr.add_lit] at h1 h2
      have eg : ((List.range len).map q).getD j dPr = q j := by simp [List.getD, hjl]
      rw [eg]
      exact ⟨h1, by rw [Nat.add_assoc]; exact h2⟩
    · have hb := bulkg_len ((List.range len).map D)
      simp only [List.length_map, List.length_range] at hb ⊢
      simp only [Rows.uptoBulk]
      omega
set_option maxRecDepth 100000 in
/-- A graph that came in. -/
theorem graph_of {r : Reach} {b0 : Nat} {v : Value} {d : DataW H} {p : List MemPlace} (hv : Value.okWide Tryz.prog W r b0 25 v) (h : DataW.Trod enc Tryz.prog W base (fun _ => true) held 25 v d p)
    (hw : ∀ n ∈ d.weights Tryz.prog 25, n ≤ 140737488351232) : ∃ vi va I A, v = .agg #[vi, va] ∧ IsInts W vi I ∧ IsPairs W va A ∧ I.length + A.length ≤ Rows.uptoBulk d := by
  obtain ⟨v0, v1, y0, y1, n, rfl, rfl, rfl, h0, h1⟩ := Go.Joins.open_agg2 Tryz.underlying25 (by kernel_rfl) (by kernel_rfl) hv h
  obtain ⟨I, hI, b1⟩ := gintv_of h0 (fun k hk => hw k (by simp only [DataW.weights, Tryz.underlying25, List.map, DataW.weightsEach]; exact List.mem_append_left _ hk))
  obtain ⟨A, hA, b2⟩ := gpairs_of h1 (fun k hk => hw k (by simp only [DataW.weights, Tryz.underlying25, List.map, DataW.weightsEach]; exact List.mem_append_right _ (List.mem_append_left _ hk)))
  exact ⟨v0, v1, I, A, rfl, hI, hA, by simp only [Rows.uptoBulk, Rows.uptoBulkAll]; omega⟩
end
end Go.Proofs.YtppglbffmgnooaaGreat

/- Replacements that came in, opened for the walks. -/
namespace Go.Proofs.YtppglbffmgnooaaGreat
open Go.ChangeShapes Go.WideShapes Go.ChangeAt Go.RowKit Go.Deep
set_option linter.unusedVariables false

theorem cellsg_out : Tryz.prog.cellsOf 90 = 2 := by kernel_rfl
theorem bytesg_out : Tryz.prog.bytesOf 90 = 16 := by kernel_rfl
section
variable {H : Type} {enc : TypeId × Value → H} {W : World} {base : Nat} {held : Bool}
/-- A slice of replacements that came in. -/
theorem gouts_of {fuel : Nat} {v : Value} {x : DataW H × List MemPlace} (h : DataW.trod enc Tryz.prog W base (fun _ => true) held fuel 60 [v] = some x)
    (hw : ∀ n ∈ x.1.weights Tryz.prog 60, n ≤ 140737488351232) : ∃ A, IsPairs W v A ∧ A.length ≤ Rows.uptoBulk x.1 := by
  rcases open_slice Tryz.underlying60 h with ⟨rfl', rfl⟩ | ⟨a, len, cap, m, n, D, Pl, hcs, hb, hl, hm, hmm, rfl, hx⟩
  · simp at rfl'
    subst rfl'
    exact ⟨[], ⟨none, 0, rfl, ⟨Nat.le_refl _, fun _ => rfl⟩, by omega, by simp, (fun p hp => absurd hp (by simp)), 0, 0, fun hne => absurd rfl hne, fun j hj => absurd hj (by simp)⟩, Nat.zero_le _⟩
  · simp at hcs
    subst hcs
    simp only [if_true] at hmm
    subst hmm
    have hcap : m * 16 ≤ 140737488351232 := by
      have := hw ((len + (m - len)) * 16) (by
        simp only [DataW.weights, Tryz.underlying60, bytesg_out, List.length_map, List.length_range]
        exact List.mem_cons_self)
      rw [show len + (m - len) = m from by omega] at this
      exact this
    have hm' : m ≤ 9223372036854775807 := by simpa [maxLen] using hm
    have each : ∀ i, i < len → ∃ q : Pr, W.cell? (a.add (i * 2)) = some (.int .i64 q.1) ∧ W.cell? (a.add (i * 2 + 1)) = some (.int .i64 q.2) ∧ (-9223372036854775808 ≤ q.1 ∧ q.1 ≤ 9223372036854775807) ∧ -9223372036854775808 ≤ q.2 ∧ q.2 ≤ 9223372036854775807 := by
      intro i hi
      obtain ⟨cs', h1, h2⟩ := hx i (by omega)
      rw [cellsg_out] at h1
      obtain ⟨_, hlen, hcell⟩ := World.cells?_some h1
      obtain ⟨xs, k, hk, hxy, _, hxl, hf⟩ := DataW.trod_struct Tryz.underlying90 h2
      clear hx hw hcap
      obtain ⟨v0, v1, rfl⟩ : ∃ v0 v1, cs' = [v0, v1] := by
        rcases cs' with _ | ⟨v0, _ | ⟨v1, _ | ⟨v2, r⟩⟩⟩
        · cases hlen
        · cases hlen
        · exact ⟨v0, v1, rfl⟩
        · simp at hlen
      obtain ⟨y0, y1, rfl⟩ : ∃ y0 y1, xs = [y0, y1] := by
        rcases xs with _ | ⟨y0, _ | ⟨y1, _ | ⟨y2, r⟩⟩⟩
        · cases hxl
        · cases hxl
        · exact ⟨y0, y1, rfl⟩
        · simp at hxl
      have g0 := hf 0 _ rfl
      have g1 := hf 1 _ rfl
      simp [cellsg_int] at g0 g1
      have e0 := hcell 0 (by omega)
      have e1 := hcell 1 (by omega)
      rw [add_add] at e0 e1
      obtain ⟨z0, hz0, _, hwf0⟩ := DataW.trod_int Tryz.underlying3 g0
      obtain ⟨z1, hz1, _, hwf1⟩ := DataW.trod_int Tryz.underlying3 g1
      have hz0' : v0 = .int .i64 z0 := by simpa using hz0
      have hz1' : v1 = .int .i64 z1 := by simpa using hz1
      subst hz0' hz1'
      exact ⟨(z0, z1), by simpa using e0, by simpa using e1, i64g_of_wf hwf0, i64g_of_wf hwf1⟩
    haveI : Inhabited Pr := ⟨dPr⟩
    obtain ⟨q, hq⟩ := choose_lt each
    obtain ⟨b, off, spot⟩ := a
    refine ⟨(List.range len).map q, ⟨some ⟨b, off, spot⟩, m, by simp, ⟨by simpa using hl, fun e => by cases e⟩, hm', by simp; omega, fun g hg => ?_, b, off, fun hne => ?_, fun j hj => ?_⟩, ?_⟩
    · obtain ⟨i, hi, rfl⟩ := List.mem_map.1 hg
      exact (hq i (List.mem_range.1 hi)).2.2
    · have h0 : 0 < len := by
        rcases Nat.eq_zero_or_pos len with h | h
        · subst h; exact absurd rfl hne
        · exact h
      have hc0 := (hq 0 h0).1
      have hs : spot = none := by simpa [Addr.add] using World.cell?_spot hc0
      subst hs
      exact ⟨rfl, World.block_lt_of_cell? W _ hc0⟩
    · have hjl : j < len := by simpa using hj
      obtain ⟨h1, h2, _⟩ := hq j hjl
      have hs : spot = none := by simpa [Addr.add] using World.cell?_spot (hq 0 (by omega)).1
      subst hs
      rw [Addr.add_lit] at h1 h2
      have eg : ((List.range len).map q).getD j dPr = q j := by simp [List.getD, hjl]
      rw [eg]
      exact ⟨h1, by rw [Nat.add_assoc]; exact h2⟩
    · have hb := bulkg_len ((List.range len).map D)
      simp only [List.length_map, List.length_range] at hb ⊢
      simp only [Rows.uptoBulk]
      omega
end
end Go.Proofs.YtppglbffmgnooaaGreat
