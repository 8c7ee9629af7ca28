/- Nets that came in (texts of stages 1, 3 and 5, joined). -/
import Derived.Test.YtfghjfljomcldaaGreatA04
import Derived.Test.YtfghjfljomcldaaGreatK02
import Derived.Test.YtfghjfljomcldaaGreatK06
import Derived.Test.YtfghjfljomcldaaGreatK04
import Derived.Test.YtfghjfljomcldaaGreatA15
import Derived.Deep.Matrix
import Derived.SizedLaws
import Derived.Deep.SlicePairs
import Derived.Lib.SmallJoins
import Derived.Deep.Strs
namespace Go.Proofs.YtfghjfljomcldaaGreat
def totT {α : Type} (l : List (α × List Int)) : Nat := (l.map (fun x => x.2.length)).sum
end Go.Proofs.YtfghjfljomcldaaGreat
namespace Go.Proofs.YtfghjfljomcldaaGreat
open Go.ChangeShapes Go.WideShapes Go.ChangeAt Go.RowKit Go.Deep
set_option linter.unusedVariables false

theorem mem_weightsAll {H : Type} {P : Program} {e : TypeId} {l : List (DataW H)} {d : DataW H} {n : Nat} (h : d ∈ l) (hn : n ∈ d.weights P e) : n ∈ DataW.weightsAll P e l := by
  induction l with
  | nil => cases h
  | cons x r ih =>
    unfold DataW.weightsAll
    rcases List.mem_cons.1 h with rfl | h
    · exact List.mem_append_left _ hn
    · exact List.mem_append_right _ (ih h)
theorem bytes_ints : Tryz.prog.bytesOf 22 = 24 := by kernel_rfl
theorem bytes_int : Tryz.prog.bytesOf 3 = 8 := by kernel_rfl
theorem cells_ints : Tryz.prog.cellsOf 22 = 1 := by kernel_rfl
theorem cells_int : Tryz.prog.cellsOf 3 = 1 := by kernel_rfl

theorem rows_of {H : Type} {enc : TypeId × Value → H} {W : World} {base : Nat} {held : Bool} {fuel : Nat} {a : Option Addr} {len cap : Nat} {x : DataW H × List MemPlace}
    (h : DataW.trod enc Tryz.prog W base (fun _ => true) held fuel 184 [.slice a len cap] = some x) (hw : ∀ n ∈ x.1.weights Tryz.prog 184, n ≤ 140737488351232) : ∃ f, f.length = len ∧ IsRows W (.slice a len cap) f := by
  rcases open_int_rows Tryz.underlying184 Tryz.underlying22 Tryz.underlying3 cells_ints cells_int h with ⟨hcs, _⟩ | ⟨y, len', cap', A, L, C, Z, hcs, hb, hl, hm, hx, hr⟩
  · simp at hcs
    obtain ⟨rfl, rfl, rfl⟩ := hcs
    exact ⟨[], rfl, IsRows.nil W⟩
  · simp at hcs
    obtain ⟨rfl, rfl, rfl⟩ := hcs
    have hcap : cap * 24 ≤ 140737488351232 := by
      have := hw ((len + (cap - len)) * 24) (by
        rw [hx]
        simp only [DataW.weights, Tryz.underlying184, bytes_ints, List.length_map, List.length_range]
        exact List.mem_cons_self)
      rw [show len + (cap - len) = cap from by omega] at this
      exact this
    have hrow : ∀ r, r < len → C r ≤ 17592186044416 := by
      intro r hrl
      obtain ⟨_, _, _, h4, _, h6, _⟩ := hr r (by omega)
      cases hA : A r with
      | none => rw [h6 hA]; omega
      | some q =>
        have := hw (C r * 8) (by
          rw [hx]
          simp only [DataW.weights, Tryz.underlying184]
          refine List.mem_cons_of_mem _ (List.mem_append_left _ (mem_weightsAll (d := intRow .i64 (A r) (L r) (Z r)) (List.mem_map.2 ⟨r, List.mem_range.2 hrl, rfl⟩) ?_))
          rw [hA]
          simp only [intRow, DataW.weights, Tryz.underlying22, bytes_int]
          have e : ((lits (H := H) .i64 ((Z r).take (L r))).length + (lits (H := H) .i64 ((Z r).drop (L r))).length) = C r := by
            simp only [lits, List.length_map, List.length_take, List.length_drop]
            omega
          rw [e]
          exact List.mem_cons_self)
        omega
    obtain ⟨b, off, spot⟩ := y
    refine ⟨(List.range len).map (fun r => (Z r).take (L r)), by simp, some ⟨b, off, spot⟩, cap, by simp, ⟨by simpa using hl, fun e => by cases e⟩, by omega, by simp; omega, b, off, fun hne => ?_, fun j hj => ?_⟩
    · have h0 : 0 < len := by
        rcases Nat.eq_zero_or_pos len with h | h
        · subst h; exact absurd rfl hne
        · exact h
      have hc0 := (hr 0 (by omega)).1
      have hs : spot = none := by simpa [Addr.add] using World.cell?_spot hc0
      subst hs
      exact ⟨rfl, World.block_lt_of_cell? W _ hc0⟩
    · have hjl : j < len := by simpa using hj
      obtain ⟨h1, h2, h3, h4, h5, h6, h7⟩ := hr j (by omega)
      have hs : spot = none := by simpa [Addr.add] using World.cell?_spot (hr 0 (by omega)).1
      subst hs
      rw [Addr.add_lit] at h1
      refine ⟨_, h1, ?_⟩
      have eg : ((List.range len).map (fun r => (Z r).take (L r))).getD j [] = (Z j).take (L j) := by simp [List.getD, hjl]
      rw [eg]
      have hll : ((Z j).take (L j)).length = L j := by rw [List.length_take]; omega
      have hC := hrow j hjl
      have h64 : In64 ((Z j).take (L j)) := fun n hn => i64_of_wf (h5 n (List.mem_of_mem_take hn))
      cases hA : A j with
      | none =>
        have hc := h6 hA
        have hL : L j = 0 := by omega
        rw [hL, hc, List.take_zero]
        exact IsInts.nil W
      | some q =>
        obtain ⟨_, hcell⟩ := h7 q hA
        obtain ⟨b2, off2, spot2⟩ := q
        refine ⟨_, C j, by rw [hll], ⟨by rw [hll]; exact h2, fun e => by cases e⟩, by omega, by rw [hll]; omega, h64, b2, off2, fun hne => ?_, fun i hi => ?_⟩
        · have h0 : 0 < L j := by
            rcases Nat.eq_zero_or_pos (L j) with h | h
            · rw [h, List.take_zero] at hne; exact absurd rfl hne
            · exact h
          have hc0 := hcell 0 (by omega)
          have hs : spot2 = none := by simpa [Addr.add] using World.cell?_spot hc0
          subst hs
          exact ⟨rfl, World.block_lt_of_cell? W _ hc0⟩
        · rw [hll] at hi
          have hs : spot2 = none := by simpa [Addr.add] using World.cell?_spot (hcell 0 (by omega))
          subst hs
          have hci := hcell i (by omega)
          rw [Addr.add_lit] at hci
          rw [hci]
          have : i < (Z j).length := by omega
          simp [List.getD, List.getElem?_take_of_lt hi]

end Go.Proofs.YtfghjfljomcldaaGreat
namespace Go.Proofs.YtfghjfljomcldaaGreat
open Go.ChangeShapes Go.WideShapes Go.ChangeAt Go.RowKit Go.Deep
set_option linter.unusedVariables false

/-- What a bound on the bulk gives. -/
theorem bulk_pos {H : Type} (d : DataW H) : 1 ≤ Rows.uptoBulk d := by
  cases d with
  | lit l => cases l <;> simp [Rows.uptoBulk]
  | nil => simp [Rows.uptoBulk]
  | ptr d => simp [Rows.uptoBulk]
  | slice elems spare => simp [Rows.uptoBulk]
  | agg parts => simp [Rows.uptoBulk]
  | iface t d => simp [Rows.uptoBulk]
  | map entries => simp [Rows.uptoBulk]
  | held h => simp [Rows.uptoBulk]
theorem bulk_app {H : Type} (l r : List (DataW H)) : Rows.uptoBulkAll (l ++ r) = Rows.uptoBulkAll l + Rows.uptoBulkAll r := by
  induction l with
  | nil => simp [Rows.uptoBulkAll]
  | cons x l ih => simp only [List.cons_append, Rows.uptoBulkAll, ih]; omega
theorem bulk_len {H : Type} (l : List (DataW H)) : l.length ≤ Rows.uptoBulkAll l := by
  induction l with
  | nil => simp
  | cons x r ih => have := bulk_pos x; simp only [Rows.uptoBulkAll, List.length_cons]; omega
theorem bulk_pairs {H α : Type} (q : Nat → α × List Int) (D0 D1 : Nat → DataW H) : ∀ n, (∀ i, i < n → (q i).2.length ≤ Rows.uptoBulk (D1 i)) → n + totT ((List.range n).map q) ≤ Rows.uptoBulkAll ((List.range n).map fun i => .agg [D0 i, D1 i])
  | 0, _ => by simp [totT]
  | n + 1, h => by
    have h1 := bulk_pairs q D0 D1 n (fun i hi => h i (by omega))
    have h2 := h n (by omega)
    have h3 := bulk_pos (D0 n)
    rw [List.range_succ, List.map_append, List.map_append, bulk_app]
    have h4 : totT ((List.range n).map q ++ [n].map q) = totT ((List.range n).map q) + (q n).2.length := by unfold totT; simp
    rw [h4]
    have h5 : Rows.uptoBulkAll ([n].map fun i => DataW.agg [D0 i, D1 i]) = Rows.uptoBulk (D0 n) + Rows.uptoBulk (D1 n) + 1 := by simp [Rows.uptoBulkAll, Rows.uptoBulk]
    rw [h5]
    omega

section
variable {H : Type} {enc : TypeId × Value → H} {W : World} {base : Nat} {held : Bool}

/-- A slice of integers that came in, of a size that a machine reaches. -/
theorem intv_of {sp : Nat → Bool} {fuel : Nat} {v : Value} {x : DataW H × List MemPlace} (h : DataW.trod enc Tryz.prog W base sp held fuel 22 [v] = some x)
    (hw : ∀ n ∈ x.1.weights Tryz.prog 22, n ≤ 140737488351232) : ∃ l, IsInts W v l ∧ l.length ≤ Rows.uptoBulk x.1 := by
  rcases open_ints Tryz.underlying22 Tryz.underlying3 (by kernel_rfl) h with ⟨hcs, _⟩ | ⟨y, l, c, zs, hcs, _, hl, hm, hz, hx, _, _⟩
  · simp at hcs
    subst hcs
    exact ⟨[], IsInts.nil W, Nat.zero_le _⟩
  · simp at hcs
    subst hcs
    have hz' : l ≤ zs.length := by rw [hz]; split <;> omega
    have := hw (zs.length * 8) (by
      rw [hx]
      simp only [DataW.weights, Tryz.underlying22, bytes_int]
      have e : ((lits (H := H) .i64 (zs.take l)).length + (lits (H := H) .i64 (zs.drop l)).length) = zs.length := by
        simp only [lits, List.length_map, List.length_take, List.length_drop]
        omega
      rw [e]
      exact List.mem_cons_self)
    obtain ⟨q, hql, hq⟩ := (ints_of h).2 (by omega)
    refine ⟨q, hq, ?_⟩
    have hb := bulk_len (lits (H := H) .i64 (zs.take l))
    have hl2 : (lits (H := H) .i64 (zs.take l)).length = l := by simp only [lits, List.length_map, List.length_take]; omega
    rw [hx]
    simp only [Rows.uptoBulk]
    omega

/-- A slice of structs of two fields, the second a list of integers. -/
theorem two_of {α : Type} {e1 : α → Value} {d : α × List Int} {t e : TypeId} {f0 f1 : Field} {fuel : Nat} {v : Value} {x : DataW H × List MemPlace}
    (ht : Tryz.prog.underlying t = some (.slice e)) (he : Tryz.prog.underlying e = some (.struct #[f0, f1]))
    (ce : Tryz.prog.cellsOf e = 2) (o0 : f0.offset = 0) (o1 : f1.offset = 1) (c0 : Tryz.prog.cellsOf f0.type = 1) (c1 : Tryz.prog.cellsOf f1.type = 1) (t1 : f1.type = 22) (hby : Tryz.prog.bytesOf e = 32)
    (hf : ∀ n v y, DataW.trod enc Tryz.prog W base (fun _ => true) held n f0.type [v] = some y → ∃ z : α, v = e1 z)
    (h : DataW.trod enc Tryz.prog W base (fun _ => true) held fuel t [v] = some x) (hw : ∀ n ∈ x.1.weights Tryz.prog t, n ≤ 140737488351232) : ∃ l, IsTwo e1 d W v l ∧ l.length + totT l ≤ Rows.uptoBulk x.1 := by
  rcases open_slice_pairs ht he ce o0 o1 c0 c1 h with ⟨hcs, _⟩ | ⟨a, len, cap, m, n, V0, V1, D0, D1, P0, P1, hcs, hb, hl, hm, hmm, hx, hr⟩
  · simp at hcs
    subst hcs
    exact ⟨[], IsTwo.nil W, Nat.zero_le _⟩
  · simp at hcs
    subst hcs
    simp only [if_true] at hmm
    subst hmm
    have hcap : m * 32 ≤ 140737488351232 := by
      have := hw ((len + (m - len)) * 32) (by
        rw [hx]
        simp only [DataW.weights, ht, hby, List.length_map, List.length_range]
        exact List.mem_cons_self)
      rw [show len + (m - len) = m from by omega] at this
      exact this
    have hm' : m ≤ 9223372036854775807 := by simpa [maxLen] using hm
    have each : ∀ i, i < len → ∃ q : α × List Int, V0 i = e1 q.1 ∧ IsInts W (V1 i) q.2 ∧ q.2.length ≤ Rows.uptoBulk (D1 i) := by
      intro i hi
      obtain ⟨_, _, h0, h1⟩ := hr i (by omega)
      obtain ⟨z, hz⟩ := hf _ _ _ h0
      rw [t1] at h1
      obtain ⟨l, hl, hlb⟩ := intv_of h1 (fun k hk => hw k (by
        rw [hx]
        simp only [DataW.weights, ht]
        refine List.mem_cons_of_mem _ (List.mem_append_left _ (mem_weightsAll (d := .agg [D0 i, D1 i]) (List.mem_map.2 ⟨i, List.mem_range.2 hi, rfl⟩) ?_))
        simp only [DataW.weights, he, List.map, DataW.weightsEach, t1]
        exact List.mem_append_right _ (List.mem_append_left _ hk)))
      exact ⟨(z, l), hz, hl, hlb⟩
    haveI : Inhabited (α × List Int) := ⟨d⟩
    obtain ⟨q, hq⟩ := choose_lt each
    obtain ⟨b, off, spot⟩ := a
    refine ⟨(List.range len).map q, ⟨some ⟨b, off, spot⟩, m, by simp, ⟨by simpa using hl, fun e => by cases e⟩, hm', by simp; omega, b, off, fun hne => ?_, fun j hj => ?_⟩, ?_⟩
    · have h0 : 0 < len := by
        rcases Nat.eq_zero_or_pos len with h | h
        · subst h; exact absurd rfl hne
        · exact h
      have hc0 := (hr 0 (by omega)).1
      have hs : spot = none := by simpa [Addr.add] using World.cell?_spot hc0
      subst hs
      exact ⟨rfl, World.block_lt_of_cell? W _ hc0⟩
    · have hjl : j < len := by simpa using hj
      obtain ⟨h1, h2, _, _⟩ := hr j (by omega)
      have hs : spot = none := by simpa [Addr.add] using World.cell?_spot (hr 0 (by omega)).1
      subst hs
      rw [Addr.add_lit] at h1 h2
      have eg : ((List.range len).map q).getD j d = q j := by simp [List.getD, hjl]
      rw [eg]
      exact ⟨by rw [h1, (hq j hjl).1], V1 j, h2, (hq j hjl).2.1⟩
    · have hb := bulk_pairs q D0 D1 len (fun i hi => (hq i hi).2.2)
      rw [hx]
      simp only [Rows.uptoBulk, List.length_map, List.length_range]
      omega

theorem cells_blk : Tryz.prog.cellsOf 118 = 2 := by kernel_rfl
theorem bytes_blk : Tryz.prog.bytesOf 118 = 32 := by kernel_rfl
theorem cells_bool : Tryz.prog.cellsOf 4 = 1 := by kernel_rfl

theorem blocks_of {fuel : Nat} {v : Value} {x : DataW H × List MemPlace} (h : DataW.trod enc Tryz.prog W base (fun _ => true) held fuel 95 [v] = some x)
    (hw : ∀ n ∈ x.1.weights Tryz.prog 95, n ≤ 140737488351232) : ∃ l, IsBlocks W v l ∧ l.length + totT l ≤ Rows.uptoBulk x.1 :=
  two_of Tryz.underlying95 Tryz.underlying118 cells_blk rfl rfl cells_bool cells_ints rfl bytes_blk
    (fun n v y hy => by obtain ⟨z, hz, _⟩ := DataW.trod_bool Tryz.underlying4 hy; exact ⟨z, by simpa using hz⟩) h hw
/-- A slice of slices that came in. -/
theorem rowv_of {fuel : Nat} {v : Value} {x : DataW H × List MemPlace} (h : DataW.trod enc Tryz.prog W base (fun _ => true) held fuel 184 [v] = some x)
    (hw : ∀ n ∈ x.1.weights Tryz.prog 184, n ≤ 140737488351232) : ∃ f, IsRows W v f := by
  rcases open_int_rows Tryz.underlying184 Tryz.underlying22 Tryz.underlying3 cells_ints cells_int h with ⟨hcs, _⟩ | ⟨y, len', cap', A, L, C, Z, hcs, _⟩
  · simp at hcs
    subst hcs
    exact ⟨[], IsRows.nil W⟩
  · simp at hcs
    subst hcs
    obtain ⟨f, _, hf⟩ := rows_of h hw
    exact ⟨f, hf⟩
end
end Go.Proofs.YtfghjfljomcldaaGreat
namespace Go.Proofs.YtfghjfljomcldaaGreat
open Go.ChangeShapes Go.WideShapes Go.ChangeAt Go.RowKit Go.Deep
set_option linter.unusedVariables false

theorem bulk_threes {H : Type} (q : Nat → Gt) (D0 D1 D2 : Nat → DataW H) : ∀ n, (∀ i, i < n → (q i).2.2.length ≤ Rows.uptoBulk (D2 i)) → 3 * n + litsN ((List.range n).map q) ≤ Rows.uptoBulkAll ((List.range n).map fun i => .agg [D0 i, D1 i, D2 i])
  | 0, _ => by simp [litsN]
  | n + 1, h => by
    have h1 := bulk_threes q D0 D1 D2 n (fun i hi => h i (by omega))
    have h2 := h n (by omega)
    rw [List.range_succ, List.map_append, List.map_append, bulk_app]
    have h4 : litsN ((List.range n).map q ++ [n].map q) = litsN ((List.range n).map q) + (q n).2.2.length := by unfold litsN; simp
    rw [h4]
    have h5 : Rows.uptoBulkAll ([n].map fun i => DataW.agg [D0 i, D1 i, D2 i]) = Rows.uptoBulk (D0 n) + Rows.uptoBulk (D1 n) + Rows.uptoBulk (D2 n) + 1 := by simp [Rows.uptoBulkAll, Rows.uptoBulk]; omega
    rw [h5]
    have h6 := bulk_pos (D0 n)
    have h7 := bulk_pos (D1 n)
    omega

section
variable {H : Type} {enc : TypeId × Value → H} {W : World} {base : Nat} {held : Bool}
theorem open_slice_threes {P : Program} {w : World} {spare : Nat → Bool} {t e : TypeId} {f0 f1 f2 : Field} {fuel : Nat} {cs : List Value} {x : DataW H × List MemPlace} (ht : P.underlying t = some (.slice e)) (he : P.underlying e = some (.struct #[f0, f1, f2]))
    (ce : P.cellsOf e = 3) (o0 : f0.offset = 0) (o1 : f1.offset = 1) (o2 : f2.offset = 2) (c0 : P.cellsOf f0.type = 1) (c1 : P.cellsOf f1.type = 1) (c2 : P.cellsOf f2.type = 1)
    (h : DataW.trod enc P w base spare held fuel t cs = some x) :
    (cs = [.slice none 0 0] ∧ x = (.nil, [])) ∨
    ∃ (a : Addr) (len cap m n : Nat) (V0 V1 V2 : Nat → Value) (D0 D1 D2 : Nat → DataW H), cs = [.slice (some a) len cap] ∧ base ≤ a.block ∧ len ≤ cap ∧ cap ≤ maxLen ∧ m = (if spare a.block then cap else len) ∧
      x.1 = .slice ((List.range len).map fun i => .agg [D0 i, D1 i, D2 i]) ((List.range (m - len)).map fun j => .agg [D0 (len + j), D1 (len + j), D2 (len + j)]) ∧
      ∀ i, i < m → w.cell? (a.add (i * 3)) = some (V0 i) ∧ w.cell? (a.add (i * 3 + 1)) = some (V1 i) ∧ w.cell? (a.add (i * 3 + 2)) = some (V2 i) ∧
        (∃ p, DataW.trod enc P w base spare held n f0.type [V0 i] = some (D0 i, p)) ∧ (∃ p, DataW.trod enc P w base spare held n f1.type [V1 i] = some (D1 i, p)) ∧ ∃ p, DataW.trod enc P w base spare held n f2.type [V2 i] = some (D2 i, p) := by
  rcases open_slice ht h with h0 | ⟨a, len, cap, m, n, D, Pl, rfl, hb, hl, hm, hmm, rfl, hx⟩
  · exact Or.inl h0
  right
  have hlm : len ≤ m := by rw [hmm]; split <;> omega
  have each : ∀ i, i < m → ∃ q : (Value × Value × Value) × (DataW H × List MemPlace) × (DataW H × List MemPlace) × (DataW H × List MemPlace), w.cell? (a.add (i * 3)) = some q.1.1 ∧ w.cell? (a.add (i * 3 + 1)) = some q.1.2.1 ∧ w.cell? (a.add (i * 3 + 2)) = some q.1.2.2 ∧
      DataW.trod enc P w base spare held (n - 1) f0.type [q.1.1] = some q.2.1 ∧ DataW.trod enc P w base spare held (n - 1) f1.type [q.1.2.1] = some q.2.2.1 ∧ DataW.trod enc P w base spare held (n - 1) f2.type [q.1.2.2] = some q.2.2.2 ∧ D i = .agg [q.2.1.1, q.2.2.1.1, q.2.2.2.1] := by
    intro i hi
    obtain ⟨cs', h1, h2⟩ := hx i hi
    rw [ce] at h1
    obtain ⟨_, hlen, hcell⟩ := World.cells?_some h1
    obtain ⟨xs, k, hk, hxy, _, hxl, hf⟩ := DataW.trod_struct he h2
    have hk' : k = n - 1 := by omega
    subst hk'
    match xs, hxl, cs', hlen with
    | [y0, y1, y2], _, [v0, v1, v2], _ =>
      have g0 := hf 0 f0 rfl
      have g1 := hf 1 f1 rfl
      have g2 := hf 2 f2 rfl
      simp [o0, o1, o2, c0, c1, c2] at g0 g1 g2
      have e0 := hcell 0 (by omega)
      have e1 := hcell 1 (by omega)
      have e2 := hcell 2 (by omega)
      rw [add_add] at e0 e1 e2
      simp only [Prod.mk.injEq] at hxy
      exact ⟨((v0, v1, v2), y0, y1, y2), by simpa using e0, by simpa using e1, by simpa using e2, g0, g1, g2, by simpa using hxy.1⟩
  haveI : Inhabited ((Value × Value × Value) × (DataW H × List MemPlace) × (DataW H × List MemPlace) × (DataW H × List MemPlace)) := ⟨((undef, undef, undef), (.nil, []), (.nil, []), (.nil, []))⟩
  obtain ⟨q, hq⟩ := choose_lt each
  refine ⟨a, len, cap, m, n - 1, fun i => (q i).1.1, fun i => (q i).1.2.1, fun i => (q i).1.2.2, fun i => (q i).2.1.1, fun i => (q i).2.2.1.1, fun i => (q i).2.2.2.1, rfl, hb, hl, hm, hmm, ?_,
    fun i hi => ⟨(hq i hi).1, (hq i hi).2.1, (hq i hi).2.2.1, ⟨_, (hq i hi).2.2.2.1⟩, ⟨_, (hq i hi).2.2.2.2.1⟩, ⟨_, (hq i hi).2.2.2.2.2.1⟩⟩⟩
  show DataW.slice _ _ = _
  rw [List.map_congr_left (fun i hi => (hq i (by have := List.mem_range.1 hi; omega)).2.2.2.2.2.2), List.map_congr_left (fun j hj => (hq (len + j) (by have := List.mem_range.1 hj; omega)).2.2.2.2.2.2)]

theorem cells_gate : Tryz.prog.cellsOf 101 = 3 := by kernel_rfl
theorem bytes_gate : Tryz.prog.bytesOf 101 = 40 := by kernel_rfl
theorem cells_kind : Tryz.prog.cellsOf 99 = 1 := by kernel_rfl
theorem u8_of_wf {n : Int} (h : (Lit.int .u8 n).wf = true) : 0 ≤ n ∧ n ≤ 255 := by
  have := Go.Extern.FmtText.int_bounds h
  simpa [IntKind.min, IntKind.max, IntKind.signed, IntKind.bits] using this

/-- A slice of gates that came in. -/
theorem gates_of {fuel : Nat} {v : Value} {x : DataW H × List MemPlace} (h : DataW.trod enc Tryz.prog W base (fun _ => true) held fuel 96 [v] = some x)
    (hw : ∀ n ∈ x.1.weights Tryz.prog 96, n ≤ 140737488351232) : ∃ l, IsGates W v l ∧ 3 * l.length + litsN l ≤ Rows.uptoBulk x.1 := by
  rcases open_slice_threes Tryz.underlying96 Tryz.underlying101 cells_gate rfl rfl rfl cells_int cells_kind cells_ints h with ⟨hcs, _⟩ | ⟨a, len, cap, m, n, V0, V1, V2, D0, D1, D2, hcs, hb, hl, hm, hmm, hx, hr⟩
  · simp at hcs
    subst hcs
    exact ⟨[], IsGates.nil W, Nat.zero_le _⟩
  · simp at hcs
    subst hcs
    simp only [if_true] at hmm
    subst hmm
    have hcap : m * 40 ≤ 140737488351232 := by
      have := hw ((len + (m - len)) * 40) (by
        rw [hx]
        simp only [DataW.weights, Tryz.underlying96, bytes_gate, List.length_map, List.length_range]
        exact List.mem_cons_self)
      rw [show len + (m - len) = m from by omega] at this
      exact this
    have hm' : m ≤ 9223372036854775807 := by simpa [maxLen] using hm
    have each : ∀ i, i < len → ∃ q : Gt, V0 i = .int .i64 q.1 ∧ V1 i = .int .u8 q.2.1 ∧ IsInts W (V2 i) q.2.2 ∧ q.2.2.length ≤ Rows.uptoBulk (D2 i) ∧ (-9223372036854775808 ≤ q.1 ∧ q.1 ≤ 9223372036854775807) ∧ 0 ≤ q.2.1 ∧ q.2.1 ≤ 255 := by
      intro i hi
      obtain ⟨_, _, _, ⟨_, h0⟩, ⟨_, h1⟩, ⟨_, h2⟩⟩ := hr i (by omega)
      obtain ⟨z, hz, _, hwf⟩ := DataW.trod_int Tryz.underlying3 h0
      obtain ⟨z1, hz1, _, hwf1⟩ := DataW.trod_int Tryz.underlying99 h1
      obtain ⟨l, hl, hlb⟩ := intv_of h2 (fun k hk => hw k (by
        rw [hx]
        simp only [DataW.weights, Tryz.underlying96]
        refine List.mem_cons_of_mem _ (List.mem_append_left _ (mem_weightsAll (d := .agg [D0 i, D1 i, D2 i]) (List.mem_map.2 ⟨i, List.mem_range.2 hi, rfl⟩) ?_))
        simp only [DataW.weights, Tryz.underlying101, List.map, DataW.weightsEach]
        exact List.mem_append_right _ (List.mem_append_right _ (List.mem_append_left _ hk))))
      exact ⟨(z, z1, l), by simpa using hz, by simpa using hz1, hl, hlb, i64_of_wf hwf, u8_of_wf hwf1⟩
    haveI : Inhabited Gt := ⟨dG⟩
    obtain ⟨q, hq⟩ := choose_lt each
    obtain ⟨b, off, spot⟩ := a
    refine ⟨(List.range len).map q, ⟨some ⟨b, off, spot⟩, m, by simp, ⟨by simpa using hl, fun e => by cases e⟩, hm', by simp; omega, fun g hg => ?_, b, off, fun hne => ?_, fun j hj => ?_⟩, ?_⟩
    · obtain ⟨i, hi, rfl⟩ := List.mem_map.1 hg
      exact (hq i (List.mem_range.1 hi)).2.2.2.2
    · have h0 : 0 < len := by
        rcases Nat.eq_zero_or_pos len with h | h
        · subst h; exact absurd rfl hne
        · exact h
      have hc0 := (hr 0 (by omega)).1
      have hs : spot = none := by simpa [Addr.add] using World.cell?_spot hc0
      subst hs
      exact ⟨rfl, World.block_lt_of_cell? W _ hc0⟩
    · have hjl : j < len := by simpa using hj
      obtain ⟨h1, h2, h3, _⟩ := hr j (by omega)
      have hs : spot = none := by simpa [Addr.add] using World.cell?_spot (hr 0 (by omega)).1
      subst hs
      rw [Addr.add_lit] at h1 h2 h3
      have eg : ((List.range len).map q).getD j dG = q j := by simp [List.getD, hjl]
      rw [eg]
      exact ⟨by rw [h1, (hq j hjl).1], by rw [Nat.add_assoc, h2, (hq j hjl).2.1], V2 j, by rw [Nat.add_assoc, h3], (hq j hjl).2.2.1⟩
    · have hb := bulk_threes q D0 D1 D2 len (fun i hi => (hq i hi).2.2.2.1)
      rw [hx]
      simp only [Rows.uptoBulk, List.length_map, List.length_range]
      omega
set_option maxRecDepth 100000 in
/-- A net that came in. -/
theorem net_of {r : Reach} {b0 : Nat} {v : Value} {d : DataW H} {p : List MemPlace} (hv : Value.okWide Tryz.prog W r b0 98 v) (h : DataW.Trod enc Tryz.prog W base (fun _ => true) held 98 v d p)
    (hw : ∀ n ∈ d.weights Tryz.prog 98, n ≤ 140737488351232) : ∃ vp vg o P gs, v = .agg #[vp, vg, .int .i64 o] ∧ IsBlocks W vp P ∧ IsGates W vg gs ∧ (-9223372036854775808 ≤ o ∧ o ≤ 9223372036854775807) ∧ P.length + totT P + (3 * gs.length + litsN gs) ≤ Rows.uptoBulk d := by
  obtain ⟨v0, v1, v2, y0, y1, y2, n, rfl, rfl, rfl, h0, h1, h2⟩ := Go.Joins.open_agg3 Tryz.underlying98 (by kernel_rfl) (by kernel_rfl) hv h
  obtain ⟨P, hP, b1⟩ := blocks_of h0 (fun k hk => hw k (by simp only [DataW.weights, Tryz.underlying98, List.map, DataW.weightsEach]; exact List.mem_append_left _ hk))
  obtain ⟨gs, hG, b2⟩ := gates_of h1 (fun k hk => hw k (by simp only [DataW.weights, Tryz.underlying98, List.map, DataW.weightsEach]; exact List.mem_append_right _ (List.mem_append_left _ hk)))
  obtain ⟨z, hz, _, hwf⟩ := DataW.trod_int Tryz.underlying3 h2
  have hz' : v2 = .int .i64 z := by simpa using hz
  subst hz'
  exact ⟨v0, v1, z, P, gs, rfl, hP, hG, i64_of_wf hwf, by simp only [Rows.uptoBulk, Rows.uptoBulkAll]; omega⟩
end
end Go.Proofs.YtfghjfljomcldaaGreat
