/- Joined texts: CxSwap. -/
import Derived.Test.YticcikelapifaaaK14
/- Gates that are copied and change places; lists of uint16. -/
namespace Go.Proofs.Yticcikelapifaaa
open Go.RowKit
set_option linter.unusedVariables false
set_option linter.unusedSimpArgs false

/-- The value is a slice that holds these uint16. -/
def IsU16 (w : World) (v : Value) (l : List Int) : Prop :=
  ∃ a cap, v = .slice a l.length cap ∧ l.length ≤ 9223372036854775807 ∧ (∀ x ∈ l, 0 ≤ x ∧ x ≤ 65535) ∧ ∃ b off, (l ≠ [] → a = some ⟨b, off, none⟩ ∧ b < w.heap.size) ∧ ∀ j, j < l.length → w.cell? ⟨b, off + j, none⟩ = some (.int .u16 (l.getD j 0))
theorem IsU16.shape {w : World} {v : Value} {l : List Int} (h : IsU16 w v l) : ∃ a cap, v = .slice a l.length cap ∧ l.length ≤ 9223372036854775807 := by
  obtain ⟨a, cap, e, h1, _⟩ := h
  exact ⟨a, cap, e, h1⟩
theorem IsU16.at {w : World} {a : Option Addr} {n c : Nat} {l : List Int} (h : IsU16 w (.slice a n c) l) {k : Nat} (hk : k < l.length) : ∃ b off, a = some ⟨b, off, none⟩ ∧ b < w.heap.size ∧ w.cell? ⟨b, off + k, none⟩ = some (.int .u16 (l.getD k 0)) ∧ 0 ≤ l.getD k 0 ∧ l.getD k 0 ≤ 65535 := by
  obtain ⟨a', cap', e, _, hr, b, off, ha, hc⟩ := h
  injection e with e1 e2 e3
  subst e1
  obtain ⟨h1, h2⟩ := ha (by intro h; simp [h] at hk)
  exact ⟨b, off, h1, h2, hc k hk, hr _ (by simp [List.getD, hk])⟩
theorem IsU16.below {w w' : World} {B : Nat} {v : Value} {l : List Int} (h : IsU16 w v l) (hb : Below B w w') (hB : w.heap.size ≤ B) : IsU16 w' v l := by
  obtain ⟨a, cap, e, h1, h2, b, off, ha, hc⟩ := h
  refine ⟨a, cap, e, h1, h2, b, off, fun hne => ⟨(ha hne).1, Nat.lt_of_lt_of_le (ha hne).2 hb.size⟩, fun j hj => ?_⟩
  have hne : l ≠ [] := by intro e; rw [e] at hj; simp at hj
  exact (hb.cell (p := ⟨b, off + j, none⟩) (Nat.lt_of_lt_of_le (ha hne).2 hB)).trans (hc j hj)

theorem rowG3_shape {w : World} {B n : Nat} {e : TypeId} {v : Value} {xs : List Value} (h : w.ownsRow B e 3 v n xs) : ∃ a c, v = .slice a n c := by
  rcases h.2 with ⟨rfl, h2⟩ | ⟨g, cap, cur, rfl, _⟩
  · exact ⟨none, 0, by rw [h2]⟩
  · exact ⟨_, _, rfl⟩
theorem cellsG_set : ∀ (t : List Tg) (i : Nat) (y : Tg), i < t.length → (((cellsG t).set (i * 3) (.int .i64 y.1)).set (i * 3 + 1) (.int .u8 y.2.1)).set (i * 3 + 2) y.2.2.1 = cellsG (t.set i y)
  | x :: t, 0, y, _ => by simp [cellsG]
  | x :: t, i + 1, y, h => by
    have ih := cellsG_set t i y (by simpa using h)
    have e : ∀ (z : Tg) (s : List Tg), cellsG (z :: s) = .int .i64 z.1 :: .int .u8 z.2.1 :: z.2.2.1 :: cellsG s := fun z s => by simp [cellsG]
    rw [List.set_cons_succ, e, e, show (i + 1) * 3 + 2 = i * 3 + 2 + 1 + 1 + 1 by omega, show (i + 1) * 3 + 1 = i * 3 + 1 + 1 + 1 + 1 by omega, show (i + 1) * 3 = i * 3 + 1 + 1 + 1 by omega]
    simp only [List.set_cons_succ]
    rw [← ih]
/-- A gate is put at place i of a row in block g. -/
def setG (w : World) (g of0 i : Nat) (y : Tg) : World := ((w.setCell ⟨g, of0 + i * 3, none⟩ (.int .i64 y.1)).setCell ⟨g, of0 + i * 3 + 1, none⟩ (.int .u8 y.2.1)).setCell ⟨g, of0 + i * 3 + 2, none⟩ y.2.2.1
theorem RowG.setG {w0 w : World} {B g c : Nat} {t : List Tg} (h : RowG w0 w B (.slice (some ⟨g, 0, none⟩) t.length c) t) {i : Nat} (hi : i < t.length) (y : Tg) (hy : ElemB w0 w B y.2.2.1 y.2.2.2) (hb : gBd (y.1, y.2.1, y.2.2.2)) :
    RowG w0 (setG w g 0 i y) B (.slice (some ⟨g, 0, none⟩) t.length c) (t.set i y) ∧ Kept (fun k => k = g) w (setG w g 0 i y) ∧ ∀ u l, ElemB w0 w B u l → ElemB w0 (setG w g 0 i y) B u l := by
  have hk : Kept (fun k => k = g) w (Go.Proofs.Yticcikelapifaaa.setG w g 0 i y) := ((Kept.setCell w ⟨g, 0 + i * 3, none⟩ _).trans (Kept.setCell _ ⟨g, 0 + i * 3 + 1, none⟩ _)).trans (Kept.setCell _ ⟨g, 0 + i * 3 + 2, none⟩ _)
  have hg := rowG_lt h.row g rfl
  have hE : ∀ u l, ElemB w0 w B u l → ElemB w0 (Go.Proofs.Yticcikelapifaaa.setG w g 0 i y) B u l := fun u l e => e.elim (fun e => .inl (hk.row e (fun g' hg' e2 => by
    have e3 : g' = g := e2
    exact rowG_ne h.row e g' hg' (by rw [e3]; rfl)))) .inr
  have h1 := (World.ownsRow.stored h.row (i * 3) (.int .i64 y.1)).1
  have h2 := (World.ownsRow.stored h1 (i * 3 + 1) (.int .u8 y.2.1)).1
  have h3 := (World.ownsRow.stored h2 (i * 3 + 2) y.2.2.1).1
  rw [cellsG_set t i y hi] at h3
  refine ⟨⟨h.below.trans (hk.below h.below.size (fun j hj e => by have := h.base; have e2 : j = g := e; omega)), h.base, ?_, fun x hx => ?_, fun x hx => ?_⟩, hk, hE⟩
  · rw [List.length_set]
    unfold Go.Proofs.Yticcikelapifaaa.setG
    simp only [Nat.zero_add]
    exact h3
  · rcases List.mem_or_eq_of_mem_set hx with hx | rfl
    · exact hE _ _ (h.elems x hx)
    · exact hE _ _ hy
  · obtain ⟨z, hz, rfl⟩ := List.mem_map.1 hx
    rcases List.mem_or_eq_of_mem_set hz with hz | rfl
    · exact h.bd _ (List.mem_map_of_mem (f := fun x : Tg => (x.1, x.2.1, x.2.2.2)) hz)
    · exact hb
/-- Two gates change places. -/
def swapT (t : List Tg) (i k : Nat) : List Tg := (t.set i (t.getD k dT)).set k (t.getD i dT)
theorem swapT_len (t : List Tg) (i k : Nat) : (swapT t i k).length = t.length := by unfold swapT; rw [List.length_set, List.length_set]
theorem swapT_perm {t : List Tg} {i k : Nat} (hi : i < t.length) (hk : k < t.length) : (swapT t i k).Perm t := by
  have h := @List.set_set_perm _ t i k hi hk
  unfold swapT
  simp only [List.getD, List.getElem?_eq_getElem hi, List.getElem?_eq_getElem hk, Option.getD_some]
  exact h
theorem RowG.swap {w0 w : World} {B g c : Nat} {t : List Tg} (h : RowG w0 w B (.slice (some ⟨g, 0, none⟩) t.length c) t) {i k : Nat} (hi : i < t.length) (hk : k < t.length) :
    RowG w0 (Go.Proofs.Yticcikelapifaaa.setG (Go.Proofs.Yticcikelapifaaa.setG w g 0 i (t.getD k dT)) g 0 k (t.getD i dT)) B (.slice (some ⟨g, 0, none⟩) t.length c) (swapT t i k) ∧ Kept (fun j => j = g) w (Go.Proofs.Yticcikelapifaaa.setG (Go.Proofs.Yticcikelapifaaa.setG w g 0 i (t.getD k dT)) g 0 k (t.getD i dT)) := by
  have mi : t.getD i dT ∈ t := by simp [List.getD, hi]
  have mk : t.getD k dT ∈ t := by simp [List.getD, hk]
  have bd : ∀ x ∈ t, gBd (x.1, x.2.1, x.2.2.2) := fun x hx => h.bd _ (List.mem_map_of_mem (f := fun x : Tg => (x.1, x.2.1, x.2.2.2)) hx)
  obtain ⟨h1, h2, h3⟩ := h.setG hi (t.getD k dT) (h.elems _ mk) (bd _ mk)
  have e : (t.set i (t.getD k dT)).length = t.length := List.length_set
  have h1' : RowG w0 (Go.Proofs.Yticcikelapifaaa.setG w g 0 i (t.getD k dT)) B (.slice (some ⟨g, 0, none⟩) (t.set i (t.getD k dT)).length c) (t.set i (t.getD k dT)) := by rw [e]; exact h1
  obtain ⟨h4, h5, _⟩ := h1'.setG (i := k) (by rw [e]; exact hk) (t.getD i dT) (h3 _ _ (h.elems _ mi)) (bd _ mi)
  rw [e] at h4
  exact ⟨h4, h2.trans h5⟩
/-- The cells of gates that came in. -/
theorem IsGates.tg {w : World} {a : Option Addr} {n cap : Nat} {gs : List Gt} (h : IsGates w (.slice a n cap) gs) : ∃ tg : List Tg, shapeG tg = gs ∧ (∀ x ∈ tg, IsInts w x.2.2.1 x.2.2.2) ∧ (a = none → tg = [] ∧ cap = 0) ∧
    ∀ ad, a = some ad → ad.block < w.heap.size ∨ tg = [] → ∀ X : World, (∀ p : Addr, p.block < w.heap.size → X.cell? p = w.cell? p) → ∀ (j : Nat) u, (cellsG tg)[j]? = some u → X.cell? (ad.add j) = some u := by
  have h' := h
  obtain ⟨a', cap', e, ⟨_, hcap⟩, _, _, _, b, off, ha, hc⟩ := h'
  injection e with e1 e2 e3
  subst e1; subst e2; subst e3
  have hex : ∀ j, ∃ u : Value, j < gs.length → w.cell? ⟨b, off + j * 3 + 2, none⟩ = some u ∧ IsInts w u (gs.getD j dG).2.2 := fun j => by
    by_cases hj : j < gs.length
    · obtain ⟨_, _, u, h3, h4⟩ := hc j hj
      exact ⟨u, fun _ => ⟨h3, h4⟩⟩
    · exact ⟨undef, fun h => absurd h hj⟩
  obtain ⟨U, hU⟩ : ∃ U : Nat → Value, ∀ j, j < gs.length → w.cell? ⟨b, off + j * 3 + 2, none⟩ = some (U j) ∧ IsInts w (U j) (gs.getD j dG).2.2 := ⟨fun j => Classical.choose (hex j), fun j => Classical.choose_spec (hex j)⟩
  obtain ⟨tg, htg⟩ : ∃ tg : List Tg, tg = (List.range gs.length).map (fun j => ((gs.getD j dG).1, (gs.getD j dG).2.1, U j, (gs.getD j dG).2.2)) := ⟨_, rfl⟩
  have hlen : tg.length = gs.length := by rw [htg]; simp
  have hat : ∀ j, j < gs.length → tg.getD j dT = ((gs.getD j dG).1, (gs.getD j dG).2.1, U j, (gs.getD j dG).2.2) := fun j hj => by rw [htg]; simp [List.getD, hj]
  have hsh : shapeG tg = gs := by
    rw [htg]
    unfold shapeG
    rw [List.map_map]
    refine List.ext_getElem (by simp) (fun j h1 h2 => ?_)
    simp [List.getD, h2]
  refine ⟨tg, hsh, fun x hx => ?_, fun hn => ?_, fun ad had hor X hX j u hj => ?_⟩
  · rw [htg] at hx
    obtain ⟨j, hj, rfl⟩ := List.mem_map.1 hx
    exact (hU j (List.mem_range.1 hj)).2
  · have hg : gs = [] := by
      by_cases hne : gs = []
      · exact hne
      · have := (ha hne).1; rw [hn] at this; cases this
    refine ⟨?_, hcap hn⟩
    rw [htg, hg]; rfl
  · have hjl : j < tg.length * 3 := by have := (List.getElem?_eq_some_iff.1 hj).1; rwa [cellsG_len] at this
    have hne : gs ≠ [] := by intro e; rw [e] at hlen; rw [hlen] at hjl; simp at hjl
    obtain ⟨h1, h2⟩ := ha hne
    rw [had] at h1
    injection h1 with h1
    subst h1
    have hq : j / 3 < gs.length := by omega
    obtain ⟨e1, e2, _⟩ := hc (j / 3) hq
    have e3 := (hU (j / 3) hq).1
    obtain ⟨f1, f2, f3⟩ := cellsG_at tg (j / 3) (by omega)
    rw [hat _ hq] at f1 f2 f3
    have hadd : ∀ m, (⟨b, off, none⟩ : Addr).add m = ⟨b, off + m, none⟩ := fun m => by rw [Addr.add_lit]
    rw [hadd, hX ⟨b, off + j, none⟩ h2]
    have h012 : j = j / 3 * 3 ∨ j = j / 3 * 3 + 1 ∨ j = j / 3 * 3 + 2 := by omega
    rcases h012 with h0 | h0 | h0
    · rw [h0] at hj ⊢
      rw [f1] at hj
      injection hj with hj
      subst hj
      exact e1
    · rw [h0] at hj ⊢
      rw [f2] at hj
      injection hj with hj
      subst hj
      exact e2
    · rw [h0] at hj ⊢
      rw [f3] at hj
      injection hj with hj
      subst hj
      exact e3
theorem emp_rowG (w : World) : (w.alloc (.cells #[] 71)).ownsRow w.heap.size 71 3 (.slice (some ⟨w.heap.size, 0, none⟩) 0 0) 0 [] :=
  ⟨by simp, .inr ⟨w.heap.size, 0, _, rfl, Nat.le_refl _, by rw [heapy, if_pos rfl], Nat.le_refl _, by simp [maxLen], by simp, by simp⟩⟩
/-- 'append([]Gate{}, gs...)' of gates that came in. -/
theorem wpList_appGi {w : World} {ops : Array Oper} {rest : List Oper} {o : Oper} {a : Act} {Q : Exit → Act → World → Prop} (hgd : o.guard = none) (sp x : Operand)
    (ho : o.op = .call { callee := .builtin .append, args := #[sp, x], argTypes := #[23, 23] }) (B : Nat) (v : Value) (s : List Tg) (af : Option Addr) (cap : Nat)
    (n : Nat) (hs : a.eval sp = v) (hx : a.eval x = .slice af n cap) (hn : n = s.length) (hrow : w.ownsRow B 71 3 v 0 []) (hno : af = none → s = [] ∧ cap = 0) (hsc : ∀ ad, af = some ad → ∀ j u, (cellsG s)[j]? = some u → w.cell? (ad.add j) = some u) (hone : ∀ u ∈ cellsG s, u.oneCell' = true)
    (hlen : s.length ≤ 1000000) (hB : B ≤ w.heap.size)
    (h : ∀ v' w', w'.ownsRow B 71 3 v' s.length (cellsG s) → w.grownBy w' v.ownBlock → wpList Try.prog ops Q rest (a.put o.dst v') w') : wpList Try.prog ops Q (o :: rest) a w := by
  subst hn
  obtain ⟨i0, hi, hz0, hz1, hz2⟩ := info_parts info_gate
  cases af with
  | none =>
    obtain ⟨rfl, rfl⟩ := hno rfl
    refine wpList_append_own_none hgd sp x 23 ho B 71 i0 3 Try.underlying23 hi v 0 _ hs hrow (by rw [hx]; rfl) ?_
    exact h v w (by simpa [cellsG] using hrow) (World.grownBy.refl _ _)
  | some ad =>
    refine wpList_append_own _ hgd sp x 23 ho B 71 i0 (.agg #[.int .i64 0, .int .u8 0, .slice none 0 0]) 3 40 Try.underlying23 hi hz0 hz1 hz2 rfl (by decide) v 0 _ hs hrow ad s.length cap (cellsG s) hx (cellsG_len s) (fun j u hj => hsc ad rfl j u hj) hone (by unfold maxLen; omega) (by omega) hB fun v' w' h2 h3 _ => h v' w' (by simpa using h2) h3
end Go.Proofs.Yticcikelapifaaa
