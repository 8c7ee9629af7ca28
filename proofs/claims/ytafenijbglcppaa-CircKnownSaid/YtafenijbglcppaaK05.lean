/- Joined texts: Frame0, Open, OpenRows, OpenRowsZ, PxWide, PxBroad, PxOpen. -/
import Derived.Test.YtafenijbglcppaaRows
import Derived.Test.YtafenijbglcppaaK01
import Derived.ProofKit
import Derived.LaidMore
import Derived.LaidSub
import Derived.Lib.LaidTab
import Derived.Stop.Joined
import Derived.OpenShut
import Derived.ChangeOld
import Derived.Stop.FmtTextKit
import Derived.Deep.Matrix
import Derived.SizedLaws
import Derived.Test.YtafenijbglcppaaK02
import Derived.Deep.SlicePairs
import Derived.Lib.SmallJoins
/- What every claim of the seat asks of the program, whatever its rows lay. -/
namespace Go.Proofs.Ytafenijbglcppaa
open Go.ChangeShapes Go.WideShapes Go.ChangeAt Go.RowKit
set_option linter.unusedVariables false
variable {H : Type}

theorem own : ownKnob Try.prog.godebug = none := by kernel_rfl
theorem laidOut : laidOutB Try.prog = true := by kernel_rfl

/-- A function's reading is of one cell. -/
theorem one_of_func {P : Program} {w : World} {base : Nat} {sp : Nat → Bool} {fuel : Nat} {t : TypeId} {ps rs : Array TypeId} {va : Bool} {cs : List Value} {x : DataW H × List MemPlace} {enc : TypeId × Value → H}
    (ht : P.underlying t = some (.func ps rs va)) (h : DataW.trod enc P w base sp true fuel t cs = some x) : ∃ v, cs = [v] := by
  cases fuel with
  | zero => simp [DataW.trod] at h
  | succ n =>
    unfold DataW.trod at h
    rw [ht] at h
    split at h <;> simp_all

end Go.Proofs.Ytafenijbglcppaa

/- A slice of integers that came in, opened for the walks. -/
namespace Go.Proofs.Ytafenijbglcppaa
open Go.ChangeShapes Go.WideShapes Go.ChangeAt Go.RowKit
set_option linter.unusedVariables false

theorem i64_of_wf {n : Int} (h : (Lit.int .i64 n).wf = true) : -9223372036854775808 ≤ n ∧ n ≤ 9223372036854775807 := by
  have := Go.Extern.FmtText.int_bounds h
  simpa [IntKind.min, IntKind.max, IntKind.signed, IntKind.bits] using this

theorem ints_of {H : Type} {enc : TypeId × Value → H} {W : World} {base : Nat} {sp : Nat → Bool} {held : Bool} {fuel : Nat} {a : Option Addr} {len cap : Nat} {x : DataW H × List MemPlace}
    (h : DataW.trod enc Try.prog W base sp held fuel 28 [.slice a len cap] = some x) : len ≤ 9223372036854775807 ∧ (len ≤ 17592186044416 → ∃ l, l.length = len ∧ IsInts W (.slice a len cap) l) := by
  rcases open_ints Try.underlying28 Try.underlying3 (by kernel_rfl) h with ⟨hcs, _⟩ | ⟨y, l, c, zs, hcs, _, hl, hm, hz, _, hcell, hwz⟩
  · simp at hcs
    obtain ⟨rfl, rfl, rfl⟩ := hcs
    exact ⟨by omega, fun _ => ⟨[], rfl, IsInts.nil W⟩⟩
  · simp at hcs
    obtain ⟨rfl, rfl, rfl⟩ := hcs
    have hm' : cap ≤ 9223372036854775807 := by simpa [maxLen] using hm
    have hz' : len ≤ zs.length := by rw [hz]; split <;> omega
    refine ⟨by omega, fun hlen => ⟨zs.take len, by simp; omega, ?_⟩⟩
    have h64 : In64 (zs.take len) := fun n hn => i64_of_wf (hwz n (List.mem_of_mem_take hn))
    have hll : (zs.take len).length = len := by simp; omega
    obtain ⟨b, off, spot⟩ := y
    refine ⟨_, cap, by rw [hll], ⟨by rw [hll]; exact hl, fun e => by cases e⟩, hm', by rw [hll]; exact hlen, h64, b, off, fun hne => ?_, fun j hj => ?_⟩
    · have h0 : 0 < zs.length := by
        rcases Nat.eq_zero_or_pos zs.length with h | h
        · exact absurd (by rw [List.eq_nil_of_length_eq_zero h]; simp) hne
        · exact h
      have hc0 := hcell 0 h0
      have hs : spot = none := by simpa [Addr.add] using World.cell?_spot hc0
      subst hs
      exact ⟨rfl, World.block_lt_of_cell? W _ hc0⟩
    · rw [hll] at hj
      have hc0 := hcell j (by omega)
      have hs : spot = none := by simpa [Addr.add] using World.cell?_spot (hcell 0 (by omega))
      subst hs
      rw [Addr.add_lit] at hc0
      rw [hc0]
      simp [List.getD, hj]

end Go.Proofs.Ytafenijbglcppaa

/- A slice of slices of integers that came in, opened for the walks. -/
namespace Go.Proofs.Ytafenijbglcppaa
open Go.ChangeShapes Go.WideShapes Go.ChangeAt Go.RowKit Go.Deep
set_option linter.unusedVariables false

theorem mem_weightsAll {H : Type} {P : Program} {e : TypeId} {l : List (DataW H)} {d : DataW H} {n : Nat} (h : d ∈ l) (hn : n ∈ d.weights P e) : n ∈ DataW.weightsAll P e l := by
  induction l with
  | nil => cases h
  | cons x r ih =>
    unfold DataW.weightsAll
    rcases List.mem_cons.1 h with rfl | h
    · exact List.mem_append_left _ hn
    · exact List.mem_append_right _ (ih h)
theorem bytes_ints : Try.prog.bytesOf 28 = 24 := by kernel_rfl
theorem bytes_int : Try.prog.bytesOf 3 = 8 := by kernel_rfl
theorem cells_ints : Try.prog.cellsOf 28 = 1 := by kernel_rfl
theorem cells_int : Try.prog.cellsOf 3 = 1 := by kernel_rfl

theorem rows_of {H : Type} {enc : TypeId × Value → H} {W : World} {base : Nat} {held : Bool} {fuel : Nat} {a : Option Addr} {len cap : Nat} {x : DataW H × List MemPlace}
    (h : DataW.trod enc Try.prog W base (fun _ => true) held fuel 35 [.slice a len cap] = some x) (hw : ∀ n ∈ x.1.weights Try.prog 35, n ≤ 140737488351232) : ∃ f, f.length = len ∧ IsRows W (.slice a len cap) f := by
  rcases open_int_rows Try.underlying35 Try.underlying28 Try.underlying3 cells_ints cells_int h with ⟨hcs, _⟩ | ⟨y, len', cap', A, L, C, Z, hcs, hb, hl, hm, hx, hr⟩
  · simp at hcs
    obtain ⟨rfl, rfl, rfl⟩ := hcs
    exact ⟨[], rfl, IsRows.nil W⟩
  · simp at hcs
    obtain ⟨rfl, rfl, rfl⟩ := hcs
    have hcap : cap * 24 ≤ 140737488351232 := by
      have := hw ((len + (cap - len)) * 24) (by
        rw [hx]
        simp only [DataW.weights, Try.underlying35, bytes_ints, List.length_map, List.length_range]
        exact List.mem_cons_self)
      rw [show len + (cap - len) = cap from by omega] at this
      exact this
    have hrow : ∀ r, r < len → C r ≤ 17592186044416 := by
      intro r hrl
      obtain ⟨_, _, _, h4, _, h6, _⟩ := hr r (by omega)
      cases hA : A r with
      | none => rw [h6 hA]; omega
      | some q =>
        have := hw (C r * 8) (by
          rw [hx]
          simp only [DataW.weights, Try.underlying35]
          refine List.mem_cons_of_mem _ (List.mem_append_left _ (mem_weightsAll (d := intRow .i64 (A r) (L r) (Z r)) (List.mem_map.2 ⟨r, List.mem_range.2 hrl, rfl⟩) ?_))
          rw [hA]
          simp only [intRow, DataW.weights, Try.underlying28, bytes_int]
          have e : ((lits (H := H) .i64 ((Z r).take (L r))).length + (lits (H := H) .i64 ((Z r).drop (L r))).length) = C r := by
            simp only [lits, List.length_map, List.length_take, List.length_drop]
            omega
          rw [e]
          exact List.mem_cons_self)
        omega
    obtain ⟨b, off, spot⟩ := y
    refine ⟨(List.range len).map (fun r => (Z r).take (L r)), by simp, some ⟨b, off, spot⟩, cap, by simp, ⟨by simpa using hl, fun e => by cases e⟩, by omega, by simp; omega, b, off, fun hne => ?_, fun j hj => ?_⟩
    · have h0 : 0 < len := by
        rcases Nat.eq_zero_or_pos len with h | h
        · subst h; exact absurd rfl hne
        · exact h
      have hc0 := (hr 0 (by omega)).1
      have hs : spot = none := by simpa [Addr.add] using World.cell?_spot hc0
      subst hs
      exact ⟨rfl, World.block_lt_of_cell? W _ hc0⟩
    · have hjl : j < len := by simpa using hj
      obtain ⟨h1, h2, h3, h4, h5, h6, h7⟩ := hr j (by omega)
      have hs : spot = none := by simpa [Addr.add] using World.cell?_spot (hr 0 (by omega)).1
      subst hs
      rw [Addr.add_lit] at h1
      refine ⟨_, h1, ?_⟩
      have eg : ((List.range len).map (fun r => (Z r).take (L r))).getD j [] = (Z j).take (L j) := by simp [List.getD, hjl]
      rw [eg]
      have hll : ((Z j).take (L j)).length = L j := by rw [List.length_take]; omega
      have hC := hrow j hjl
      have h64 : In64 ((Z j).take (L j)) := fun n hn => i64_of_wf (h5 n (List.mem_of_mem_take hn))
      cases hA : A j with
      | none =>
        have hc := h6 hA
        have hL : L j = 0 := by omega
        rw [hL, hc, List.take_zero]
        exact IsInts.nil W
      | some q =>
        obtain ⟨_, hcell⟩ := h7 q hA
        obtain ⟨b2, off2, spot2⟩ := q
        refine ⟨_, C j, by rw [hll], ⟨by rw [hll]; exact h2, fun e => by cases e⟩, by omega, by rw [hll]; omega, h64, b2, off2, fun hne => ?_, fun i hi => ?_⟩
        · have h0 : 0 < L j := by
            rcases Nat.eq_zero_or_pos (L j) with h | h
            · rw [h, List.take_zero] at hne; exact absurd rfl hne
            · exact h
          have hc0 := hcell 0 (by omega)
          have hs : spot2 = none := by simpa [Addr.add] using World.cell?_spot hc0
          subst hs
          exact ⟨rfl, World.block_lt_of_cell? W _ hc0⟩
        · rw [hll] at hi
          have hs : spot2 = none := by simpa [Addr.add] using World.cell?_spot (hcell 0 (by omega))
          subst hs
          have hci := hcell i (by omega)
          rw [Addr.add_lit] at hci
          rw [hci]
          have : i < (Z j).length := by omega
          simp [List.getD, List.getElem?_take_of_lt hi]

end Go.Proofs.Ytafenijbglcppaa

/- A slice of slices of integers that came in: how many rows a machine reaches. -/
namespace Go.Proofs.Ytafenijbglcppaa
open Go.ChangeShapes Go.WideShapes Go.ChangeAt Go.RowKit Go.Deep
set_option linter.unusedVariables false

theorem rows_cap {H : Type} {enc : TypeId × Value → H} {W : World} {base : Nat} {held : Bool} {fuel : Nat} {a : Option Addr} {len cap : Nat} {x : DataW H × List MemPlace}
    (h : DataW.trod enc Try.prog W base (fun _ => true) held fuel 35 [.slice a len cap] = some x) (hw : ∀ n ∈ x.1.weights Try.prog 35, n ≤ 140737488351232) : len * 24 ≤ 140737488351232 := by
  rcases open_int_rows Try.underlying35 Try.underlying28 Try.underlying3 cells_ints cells_int h with ⟨hcs, _⟩ | ⟨y, len', cap', A, L, C, Z, hcs, hb, hl, hm, hx, hr⟩
  · simp at hcs
    omega
  · simp at hcs
    obtain ⟨rfl, rfl, rfl⟩ := hcs
    have hcap : cap * 24 ≤ 140737488351232 := by
      have := hw ((len + (cap - len)) * 24) (by
        rw [hx]
        simp only [DataW.weights, Try.underlying35, bytes_ints, List.length_map, List.length_range]
        exact List.mem_cons_self)
      rw [show len + (cap - len) = cap from by omega] at this
      exact this
    omega

end Go.Proofs.Ytafenijbglcppaa

/- skolemlaw03.wide and broad. -/
namespace Go.Proofs.Ytafenijbglcppaa
open Go.RowKit
set_option linter.unusedVariables false
set_option linter.unusedSimpArgs false

def totT {α : Type} (l : List (α × List Int)) : Nat := (l.map (fun x => x.2.length)).sum
theorem totT_take_succ {α : Type} {d : α × List Int} {l : List (α × List Int)} {k : Nat} (h : k < l.length) : totT (l.take (k + 1)) = totT (l.take k) + (l.getD k d).2.length := by
  rw [take_two (d := d) h]
  unfold totT
  simp
theorem totT_take_le {α : Type} (l : List (α × List Int)) (k : Nat) : totT (l.take k) ≤ totT l := by
  have : totT (l.take k) + totT (l.drop k) = totT l := by
    unfold totT
    rw [← List.sum_append, ← List.map_append, List.take_append_drop]
  omega
def wideB (most : Int) (p : List (Bool × List Int)) (c : List (List Int)) : Bool := decide (most < (p.length + c.length + totT p + tot c : Nat))

def broadB (most : Int) (U : List Int) (E : List (Int × List Int)) (C : List (List Int)) : Bool := decide (most < (U.length + E.length + totT E : Nat)) || wideB most [] C
end Go.Proofs.Ytafenijbglcppaa

/- skolemlaw03.wide and broad, for lists of any length: the sums wrap. -/
namespace Go.Proofs.Ytafenijbglcppaa
open Go.RowKit
set_option linter.unusedVariables false
set_option linter.unusedSimpArgs false

/-- A number and some lengths, summed as Go's int does. -/
def sumW (n : Int) (l : List Nat) : Int := l.foldl (fun (m : Int) (z : Nat) => wrap64 (m + (z : Int))) n
theorem sumW_snoc (n : Int) (l : List Nat) (z : Nat) : sumW n (l ++ [z]) = wrap64 (sumW n l + (z : Int)) := by unfold sumW; rw [List.foldl_append]; rfl
theorem sumW_map_take {α : Type} {d : α × List Int} (n : Int) {l : List (α × List Int)} {k : Nat} (h : k < l.length) : sumW n ((l.take (k + 1)).map (fun x => x.2.length)) = wrap64 (sumW n ((l.take k).map (fun x => x.2.length)) + ((l.getD k d).2.length : Int)) := by
  rw [take_two (d := d) h, List.map_append]
  exact sumW_snoc _ _ _
theorem sumW_rows_take (n : Int) {l : List (List Int)} {k : Nat} (h : k < l.length) : sumW n ((l.take (k + 1)).map List.length) = wrap64 (sumW n ((l.take k).map List.length) + ((l.getD k []).length : Int)) := by
  rw [List.take_succ_eq_append_getElem h, List.map_append]
  have : l.getD k [] = l[k] := by simp [List.getD, h]
  rw [this]
  exact sumW_snoc _ _ _
/-- Are there more than so many? -/
def wideW (most : Int) (p : List (Bool × List Int)) (c : List (List Int)) : Bool := decide (most < sumW (sumW ((p.length : Int) + (c.length : Int)) (p.map (fun x => x.2.length))) (c.map List.length))

/-- The same of a Dqbf. -/
def broadW (most : Int) (U : List Int) (E : List (Int × List Int)) (C : List (List Int)) : Bool := decide (most < sumW ((U.length : Int) + (E.length : Int)) (E.map (fun x => x.2.length))) || wideW most [] C
end Go.Proofs.Ytafenijbglcppaa

/- What came in, opened for the walks: slices of integers and slices of structs of two fields. -/
namespace Go.Proofs.Ytafenijbglcppaa
open Go.ChangeShapes Go.WideShapes Go.ChangeAt Go.RowKit Go.Deep
set_option linter.unusedVariables false

/-- What a bound on the bulk gives. -/
theorem bulk_pos {H : Type} (d : DataW H) : 1 ≤ Rows.uptoBulk d := by
  cases d with
  | lit l => cases l <;> simp [Rows.uptoBulk]
  | nil => simp [Rows.uptoBulk]
  | ptr d => simp [Rows.uptoBulk]
  | slice elems spare => simp [Rows.uptoBulk]
  | agg parts => simp [Rows.uptoBulk]
  | iface t d => simp [Rows.uptoBulk]
  | map entries => simp [Rows.uptoBulk]
  | held h => simp [Rows.uptoBulk]
theorem bulk_app {H : Type} (l r : List (DataW H)) : Rows.uptoBulkAll (l ++ r) = Rows.uptoBulkAll l + Rows.uptoBulkAll r := by
  induction l with
  | nil => simp [Rows.uptoBulkAll]
  | cons x l ih => simp only [List.cons_append, Rows.uptoBulkAll, ih]; omega
theorem bulk_len {H : Type} (l : List (DataW H)) : l.length ≤ Rows.uptoBulkAll l := by
  induction l with
  | nil => simp
  | cons x r ih => have := bulk_pos x; simp only [Rows.uptoBulkAll, List.length_cons]; omega
theorem bulk_pairs {H α : Type} (q : Nat → α × List Int) (D0 D1 : Nat → DataW H) : ∀ n, (∀ i, i < n → (q i).2.length ≤ Rows.uptoBulk (D1 i)) → n + totT ((List.range n).map q) ≤ Rows.uptoBulkAll ((List.range n).map fun i => .agg [D0 i, D1 i])
  | 0, _ => by simp [totT]
  | n + 1, h => by
    have h1 := bulk_pairs q D0 D1 n (fun i hi => h i (by omega))
    have h2 := h n (by omega)
    have h3 := bulk_pos (D0 n)
    rw [List.range_succ, List.map_append, List.map_append, bulk_app]
    have h4 : totT ((List.range n).map q ++ [n].map q) = totT ((List.range n).map q) + (q n).2.length := by unfold totT; simp
    rw [h4]
    have h5 : Rows.uptoBulkAll ([n].map fun i => DataW.agg [D0 i, D1 i]) = Rows.uptoBulk (D0 n) + Rows.uptoBulk (D1 n) + 1 := by simp [Rows.uptoBulkAll, Rows.uptoBulk]
    rw [h5]
    omega

section
variable {H : Type} {enc : TypeId × Value → H} {W : World} {base : Nat} {held : Bool}

/-- A slice of integers that came in, of a size that a machine reaches. -/
theorem intv_of {sp : Nat → Bool} {fuel : Nat} {v : Value} {x : DataW H × List MemPlace} (h : DataW.trod enc Try.prog W base sp held fuel 28 [v] = some x)
    (hw : ∀ n ∈ x.1.weights Try.prog 28, n ≤ 140737488351232) : ∃ l, IsInts W v l ∧ l.length ≤ Rows.uptoBulk x.1 := by
  rcases open_ints Try.underlying28 Try.underlying3 (by kernel_rfl) h with ⟨hcs, _⟩ | ⟨y, l, c, zs, hcs, _, hl, hm, hz, hx, _, _⟩
  · simp at hcs
    subst hcs
    exact ⟨[], IsInts.nil W, Nat.zero_le _⟩
  · simp at hcs
    subst hcs
    have hz' : l ≤ zs.length := by rw [hz]; split <;> omega
    have := hw (zs.length * 8) (by
      rw [hx]
      simp only [DataW.weights, Try.underlying28, bytes_int]
      have e : ((lits (H := H) .i64 (zs.take l)).length + (lits (H := H) .i64 (zs.drop l)).length) = zs.length := by
        simp only [lits, List.length_map, List.length_take, List.length_drop]
        omega
      rw [e]
      exact List.mem_cons_self)
    obtain ⟨q, hql, hq⟩ := (ints_of h).2 (by omega)
    refine ⟨q, hq, ?_⟩
    have hb := bulk_len (lits (H := H) .i64 (zs.take l))
    have hl2 : (lits (H := H) .i64 (zs.take l)).length = l := by simp only [lits, List.length_map, List.length_take]; omega
    rw [hx]
    simp only [Rows.uptoBulk]
    omega

/-- A slice of structs of two fields, the second a list of integers. -/
theorem two_of {α : Type} {e1 : α → Value} {d : α × List Int} {t e : TypeId} {f0 f1 : Field} {fuel : Nat} {v : Value} {x : DataW H × List MemPlace}
    (ht : Try.prog.underlying t = some (.slice e)) (he : Try.prog.underlying e = some (.struct #[f0, f1]))
    (ce : Try.prog.cellsOf e = 2) (o0 : f0.offset = 0) (o1 : f1.offset = 1) (c0 : Try.prog.cellsOf f0.type = 1) (c1 : Try.prog.cellsOf f1.type = 1) (t1 : f1.type = 28) (hby : Try.prog.bytesOf e = 32)
    (hf : ∀ n v y, DataW.trod enc Try.prog W base (fun _ => true) held n f0.type [v] = some y → ∃ z : α, v = e1 z)
    (h : DataW.trod enc Try.prog W base (fun _ => true) held fuel t [v] = some x) (hw : ∀ n ∈ x.1.weights Try.prog t, n ≤ 140737488351232) : ∃ l, IsTwo e1 d W v l ∧ l.length + totT l ≤ Rows.uptoBulk x.1 := by
  rcases open_slice_pairs ht he ce o0 o1 c0 c1 h with ⟨hcs, _⟩ | ⟨a, len, cap, m, n, V0, V1, D0, D1, P0, P1, hcs, hb, hl, hm, hmm, hx, hr⟩
  · simp at hcs
    subst hcs
    exact ⟨[], IsTwo.nil W, Nat.zero_le _⟩
  · simp at hcs
    subst hcs
    simp only [if_true] at hmm
    subst hmm
    have hcap : m * 32 ≤ 140737488351232 := by
      have := hw ((len + (m - len)) * 32) (by
        rw [hx]
        simp only [DataW.weights, ht, hby, List.length_map, List.length_range]
        exact List.mem_cons_self)
      rw [show len + (m - len) = m from by omega] at this
      exact this
    have hm' : m ≤ 9223372036854775807 := by simpa [maxLen] using hm
    have each : ∀ i, i < len → ∃ q : α × List Int, V0 i = e1 q.1 ∧ IsInts W (V1 i) q.2 ∧ q.2.length ≤ Rows.uptoBulk (D1 i) := by
      intro i hi
      obtain ⟨_, _, h0, h1⟩ := hr i (by omega)
      obtain ⟨z, hz⟩ := hf _ _ _ h0
      rw [t1] at h1
      obtain ⟨l, hl, hlb⟩ := intv_of h1 (fun k hk => hw k (by
        rw [hx]
        simp only [DataW.weights, ht]
        refine List.mem_cons_of_mem _ (List.mem_append_left _ (mem_weightsAll (d := .agg [D0 i, D1 i]) (List.mem_map.2 ⟨i, List.mem_range.2 hi, rfl⟩) ?_))
        simp only [DataW.weights, he, List.map, DataW.weightsEach, t1]
        exact List.mem_append_right _ (List.mem_append_left _ hk)))
      exact ⟨(z, l), hz, hl, hlb⟩
    haveI : Inhabited (α × List Int) := ⟨d⟩
    obtain ⟨q, hq⟩ := choose_lt each
    obtain ⟨b, off, spot⟩ := a
    refine ⟨(List.range len).map q, ⟨some ⟨b, off, spot⟩, m, by simp, ⟨by simpa using hl, fun e => by cases e⟩, hm', by simp; omega, b, off, fun hne => ?_, fun j hj => ?_⟩, ?_⟩
    · have h0 : 0 < len := by
        rcases Nat.eq_zero_or_pos len with h | h
        · subst h; exact absurd rfl hne
        · exact h
      have hc0 := (hr 0 (by omega)).1
      have hs : spot = none := by simpa [Addr.add] using World.cell?_spot hc0
      subst hs
      exact ⟨rfl, World.block_lt_of_cell? W _ hc0⟩
    · have hjl : j < len := by simpa using hj
      obtain ⟨h1, h2, _, _⟩ := hr j (by omega)
      have hs : spot = none := by simpa [Addr.add] using World.cell?_spot (hr 0 (by omega)).1
      subst hs
      rw [Addr.add_lit] at h1 h2
      have eg : ((List.range len).map q).getD j d = q j := by simp [List.getD, hjl]
      rw [eg]
      exact ⟨by rw [h1, (hq j hjl).1], V1 j, h2, (hq j hjl).2.1⟩
    · have hb := bulk_pairs q D0 D1 len (fun i hi => (hq i hi).2.2)
      rw [hx]
      simp only [Rows.uptoBulk, List.length_map, List.length_range]
      omega

theorem cells_blk : Try.prog.cellsOf 32 = 2 := by kernel_rfl
theorem bytes_blk : Try.prog.bytesOf 32 = 32 := by kernel_rfl
theorem cells_bool : Try.prog.cellsOf 4 = 1 := by kernel_rfl

theorem blocks_of {fuel : Nat} {v : Value} {x : DataW H × List MemPlace} (h : DataW.trod enc Try.prog W base (fun _ => true) held fuel 22 [v] = some x)
    (hw : ∀ n ∈ x.1.weights Try.prog 22, n ≤ 140737488351232) : ∃ l, IsBlocks W v l ∧ l.length + totT l ≤ Rows.uptoBulk x.1 :=
  two_of Try.underlying22 Try.underlying32 cells_blk rfl rfl cells_bool cells_ints rfl bytes_blk
    (fun n v y hy => by obtain ⟨z, hz, _⟩ := DataW.trod_bool Try.underlying4 hy; exact ⟨z, by simpa using hz⟩) h hw
/-- A slice of slices that came in. -/
theorem rowv_of {fuel : Nat} {v : Value} {x : DataW H × List MemPlace} (h : DataW.trod enc Try.prog W base (fun _ => true) held fuel 35 [v] = some x)
    (hw : ∀ n ∈ x.1.weights Try.prog 35, n ≤ 140737488351232) : ∃ f, IsRows W v f := by
  rcases open_int_rows Try.underlying35 Try.underlying28 Try.underlying3 cells_ints cells_int h with ⟨hcs, _⟩ | ⟨y, len', cap', A, L, C, Z, hcs, _⟩
  · simp at hcs
    subst hcs
    exact ⟨[], IsRows.nil W⟩
  · simp at hcs
    subst hcs
    obtain ⟨f, _, hf⟩ := rows_of h hw
    exact ⟨f, hf⟩
end
end Go.Proofs.Ytafenijbglcppaa
