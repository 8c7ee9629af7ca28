/- Maps from ints: to bools, and to slices of ints of the call's own; what is kept while some blocks turn. -/
import Derived.Maps.OwnOps
import Derived.Maps.OwnRows
import Derived.Maps.OwnSet
import Derived.Maps.Views
import Derived.Below
namespace Go.Proofs.YtmiijgjpkkmoaaaGreat
open Go.RowKit Go.Maps
open Go.WideElems (Fit rd rg pl rd_val elemAt)
set_option linter.unusedVariables false

/-- But for the blocks of which S holds, and new ones, the world is as it was. -/
structure Kept (S : Nat → Prop) (w w' : World) : Prop where
  os : w'.os = w.os
  tape : w'.tape = w.tape
  output : w'.output = w.output
  size : w.heap.size ≤ w'.heap.size
  block : ∀ k, k < w.heap.size → ¬ S k → w'.heap[k]? = w.heap[k]?

theorem Kept.refl (S : Nat → Prop) (w : World) : Kept S w w := ⟨rfl, rfl, rfl, Nat.le_refl _, fun _ _ _ => rfl⟩
theorem Kept.of_grown {w w' : World} {row : Option Nat} (h : w.grownBy w' row) : Kept (fun k => row = some k) w w' := ⟨h.os, h.tape, h.output, h.size, fun k hk hS => h.block k hk (fun e => hS e.symm)⟩
theorem Kept.alloc (S : Nat → Prop) (w : World) (o : Obj) : Kept S w (w.alloc o) := ⟨rfl, rfl, rfl, by simp, fun k hk _ => Below.heap_alloc _ _ _ hk⟩
theorem Kept.setCell (w : World) (a : Addr) (u : Value) : Kept (fun k => k = a.block) w (w.setCell a u) := ⟨rfl, rfl, rfl, by simp [World.setCell], fun k _ hS => Below.heap_setCell _ _ _ _ hS⟩
theorem Kept.mono {S T : Nat → Prop} {w w' : World} (h : Kept S w w') (hS : ∀ k, k < w.heap.size → S k → T k) : Kept T w w' := ⟨h.os, h.tape, h.output, h.size, fun k hk hT => h.block k hk (fun hs => hT (hS k hk hs))⟩
theorem Kept.trans {S : Nat → Prop} {a b c : World} (h : Kept S a b) (k : Kept S b c) : Kept S a c :=
  ⟨k.os.trans h.os, k.tape.trans h.tape, k.output.trans h.output, Nat.le_trans h.size k.size, fun i hi hS => (k.block i (Nat.lt_of_lt_of_le hi h.size) hS).trans (h.block i hi hS)⟩
/-- What follows may turn what was new. -/
theorem Kept.next {S T : Nat → Prop} {a b c : World} (h : Kept S a b) (k : Kept T b c) (hT : ∀ i, i < a.heap.size → T i → S i) : Kept S a c :=
  ⟨k.os.trans h.os, k.tape.trans h.tape, k.output.trans h.output, Nat.le_trans h.size k.size, fun i hi hS => (k.block i (Nat.lt_of_lt_of_le hi h.size) (fun ht => hS (hT i hi ht))).trans (h.block i hi hS)⟩
theorem Kept.below {S : Nat → Prop} {B : Nat} {w w' : World} (h : Kept S w w') (hB : B ≤ w.heap.size) (hS : ∀ k, k < B → ¬ S k) : Below B w w' := ⟨h.os, h.tape, h.output, h.size, fun k hk => h.block k (by omega) (hS k hk)⟩
theorem Kept.cell {S : Nat → Prop} {w w' : World} (h : Kept S w w') {p : Addr} (hp : p.block < w.heap.size) (hS : ¬ S p.block) : w'.cell? p = w.cell? p := World.cell?_of_block (w := w) (h.block p.block hp hS)
theorem Kept.row {S : Nat → Prop} {w w' : World} (h : Kept S w w') {B : Nat} {e : TypeId} {size : Nat} {v : Value} {n : Nat} {xs : List Value} (hr : w.ownsRow B e size v n xs) (hS : ∀ g, v.ownBlock = some g → ¬ S g) : w'.ownsRow B e size v n xs := by
  refine ⟨hr.1, ?_⟩
  rcases hr.2 with hn | ⟨g, cap, cur, hv, hB, hg, rest⟩
  · exact .inl hn
  · subst hv
    have hlt : g < w.heap.size := (Array.getElem?_eq_some_iff.1 hg).1
    exact .inr ⟨g, cap, cur, rfl, hB, by rw [h.block g hlt (hS g rfl)]; exact hg, rest⟩

section
variable {P : Program} {K E : TypeId} {w w' : World} {b n : Nat}

theorem ownsMap_kept {H : Type} {R : Value → Option (DataW H × List MemPlace)} {D : DataW H} {S : Nat → Prop} (h : w.ownsMap P K R b n D) (k : Kept S w w') (hb : ¬ S b) : w'.ownsMap P K R b n D := by
  have hlt := h.lt
  obtain ⟨es, clock, hh, F, hs, hD⟩ := h
  exact ⟨es, clock, (k.block b hlt hb).trans hh, F, hs, hD⟩

/-- Block b is a map from ints to bools of at most n entries, which says h. -/
def MapB (P : Program) (K E : TypeId) (w : World) (b n : Nat) (h : Int → Bool) : Prop :=
  ∃ D : DataW Unit, w.ownsMap P K (plainElem P E) b n D ∧ IsMap D ∧ ∀ k, D.atKey (.int .i64 k) (.lit (.bool false)) = .lit (.bool (h k))

theorem MapB.kept {h : Int → Bool} {S : Nat → Prop} (m : MapB P K E w b n h) (k : Kept S w w') (hb : ¬ S b) : MapB P K E w' b n h := by
  obtain ⟨D, h1, h2⟩ := m
  exact ⟨D, ownsMap_kept h1 k hb, h2⟩
theorem MapB.lt {h : Int → Bool} (m : MapB P K E w b n h) : b < w.heap.size := by obtain ⟨D, h1, _⟩ := m; exact h1.lt
theorem MapB.mono {h : Int → Bool} (m : MapB P K E w b n h) {n' : Nat} (hn : n ≤ n') : MapB P K E w b n' h := by obtain ⟨D, h1, h2⟩ := m; exact ⟨D, h1.mono hn, h2⟩
theorem MapB.made (w : World) (P : Program) (K E : TypeId) : MapB P K E (w.alloc (.map #[] 0)) w.heap.size 0 (fun _ => false) :=
  ⟨.map [], World.ownsMap_made w P K _, isMap_empty, fun k => rfl⟩

theorem plainElem_bool_inv {H : Type} (he : P.underlying E = some .bool) {v : Value} {z : DataW H × List MemPlace} (h : plainElem P E v = some z) : ∃ x, v = .bool x ∧ z = (.lit (.bool x), []) := by
  unfold plainElem at h
  rw [he] at h
  cases v <;> simp at h
  subst h
  exact ⟨_, rfl, rfl⟩

theorem MapB.look {t : TypeId} {h : Int → Bool} (m : MapB P K E w b n h) (hK : P.underlying K = some (.int .i64)) (hE : P.underlying E = some .bool) (ht : P.underlying t = some (.map K E)) (hz : (zeroValue E).run P w = .ok (.bool false) w)
    (k : Int) (hw : (Lit.int .i64 k).wf = true) : (Instr.lookup t (.map (some b)) (.int .i64 k) false).run P w = .ok (.bool (h k)) w := by
  obtain ⟨D, h1, _, h2⟩ := m
  obtain ⟨v, ps, hrun, hv⟩ := h1.lookup (int_keyed hK) ht hz (plainElem_bool hE false) (keyOf_int_mk hK hw)
  obtain ⟨x, rfl, hx⟩ := plainElem_bool_inv hE hv
  simp only [Prod.mk.injEq] at hx
  have := hx.1
  rw [h2] at this
  simp at this
  rw [this]
  exact hrun

/-- 'm[k]' at the operation. -/
theorem wpList_lookB {ops : Array Oper} {rest : List Oper} {o : Oper} {a : Act} {Q : Exit → Act → World → Prop} {h : Int → Bool}
    (hg : o.guard = none) (m x : Operand) (t : TypeId) (hop : o.op = Op.lookup t m x false) (K E : TypeId) (hK : P.underlying K = some (.int .i64)) (hE : P.underlying E = some .bool) (ht : P.underlying t = some (.map K E))
    (hz : (zeroValue E).run P w = .ok (.bool false) w) (hm : a.eval m = .map (some b)) (hb : MapB P K E w b n h) (k : Int) (hx : a.eval x = .int .i64 k) (hw : (Lit.int .i64 k).wf = true)
    (hQ : wpList P ops Q rest (a.put o.dst (.bool (h k))) w) : wpList P ops Q (o :: rest) a w := by
  refine wpList_plain hg fun K' hK' => ?_
  have hrun := hb.look hK hE ht hz k hw
  unfold Oper.wp
  simp [execOp, hop, hm, hx, hrun, Result.andThen]
  exact hK' _ _ hQ

/-- 'm[k] = x' at the operation. -/
theorem wpList_putB {ops : Array Oper} {rest : List Oper} {o : Oper} {a : Act} {Q : Exit → Act → World → Prop} {h : Int → Bool}
    (hg : o.guard = none) (m x v : Operand) (t : TypeId) (hop : o.op = Op.mapUpdate t m x v) (K E : TypeId) (hK : P.underlying K = some (.int .i64)) (hE : P.underlying E = some .bool) (ht : P.underlying t = some (.map K E))
    (hm : a.eval m = .map (some b)) (hb : MapB P K E w b n h) (hn : n < maxLen) (k : Int) (y : Bool) (hx : a.eval x = .int .i64 k) (hv : a.eval v = .bool y) (hw : (Lit.int .i64 k).wf = true)
    (hQ : ∀ w', MapB P K E w' b (n + 1) (fun j => if j = k then y else h j) → Kept (fun i => i = b) w w' → wpList P ops Q rest (a.put o.dst undef) w') : wpList P ops Q (o :: rest) a w := by
  obtain ⟨D, h1, hD, h2⟩ := hb
  refine wpList_mapUpdate_own w hg m x v t hop K E (int_keyed hK) ht _ b n D hm h1 hn _ _ (.int .i64 k) hx hv (keyOf_int_mk hK hw) _ [] (plainElem_bool hE y) fun w' h3 h4 => ?_
  refine hQ w' ⟨_, h3, hD.put _ _, fun j => ?_⟩ ((Kept.of_grown h4).mono fun i _ e => (Option.some.inj e).symm)
  by_cases e : j = k
  · subst e
    show _ = DataW.lit (Lit.bool (if j = j then y else h j))
    rw [if_pos rfl, atKey_put_same hD (show WideAt.IsKeyLit (Lit.int _ _) from trivial)]
  · show _ = DataW.lit (Lit.bool (if j = k then y else h j))
    rw [if_neg e, atKey_put_other (by simpa using e), h2]

end

/-! ### groups -/
def ofN (l : List Nat) : List Int := l.map (fun i : Nat => (i : Int))
theorem ofN_len (l : List Nat) : (ofN l).length = l.length := by simp [ofN]
def itemsD {H : Type} : DataW H → List (DataW H) | .slice es _ => es | _ => []

section
variable {P : Program} {K E e : TypeId} {w w' : World} {b n base : Nat}

theorem lits_inj {H : Type} {q : IntKind} {zs ys : List Int} (h : (Go.ChangeShapes.lits q zs : List (DataW H)) = Go.ChangeShapes.lits q ys) : zs = ys := by
  unfold Go.ChangeShapes.lits at h
  exact (List.map_inj_right (fun a b hab => by cases hab; rfl)).1 h
theorem items_row {H : Type} {q : IntKind} {v : Value} {zs : List Int} (h : w.ownsInts base e q v zs) : itemsD (rowDatum (H := H) q v zs) = Go.ChangeShapes.lits q zs := by
  rcases h.datum (H := H) with ⟨h1, h2⟩ | h1
  · rw [h1, h2]; rfl
  · rw [h1]; rfl

theorem ownsGroups_kept {H : Type} {q : IntKind} {D : DataW H} {S : Nat → Prop} (h : w.ownsGroups P K base e q b n D) (k : Kept S w w') (hb' : ¬ S b)
    (hrow : ∀ es clock, w.heap[b]? = some (.map es clock) → ∀ x ∈ es.toList, ∀ g, x.val.ownBlock = some g → ¬ S g) : w'.ownsGroups P K base e q b n D := by
  obtain ⟨es, clock, hb, F, hs, rfl, hbb, hlen, hap⟩ := h
  have hblt : b < w.heap.size := (Array.getElem?_eq_some_iff.1 hb).1
  have hk : ∀ x ∈ es.toList, ∀ zs, w.ownsInts base e q x.val zs → w'.ownsInts base e q x.val zs := fun x hx zs ho => ⟨k.row ho.1 (hrow es clock hb x hx), ho.2⟩
  have hst : ∀ x ∈ es.toList, ∀ z, rowElem (H := H) w base e q x.val = some z → rowElem w' base e q x.val = some z := fun x hx z hz => by
    obtain ⟨zs, ho, rfl⟩ := rowElem_inv hz
    exact rowElem_mk (hk x hx zs ho)
  obtain ⟨F1, hmap, _⟩ := F.stay hst
  refine ⟨es, clock, (k.block b hblt hb').trans hb, F1, hs, by rw [hmap], hbb, fun x hx zs ho => ?_, hap⟩
  obtain ⟨y, hy⟩ := F.reads x hx
  obtain ⟨z, hz, _⟩ := rd_val hy
  obtain ⟨zs0, ho0, _⟩ := rowElem_inv hz
  rw [ho.unique (hk x hx zs0 ho0)]
  exact hlen x hx zs0 ho0

/-- No group's row is a block of which No holds. -/
def Shuns (w : World) (b : Nat) (No : Nat → Prop) : Prop := ∀ es clock, w.heap[b]? = some (.map es clock) → ∀ x ∈ es.toList, ∀ g, x.val.ownBlock = some g → ¬ No g

/-- Block b is a map from ints to slices of the call's own (rows from base on), of at most n entries and numbers; the slice at l holds G l; no row is a block of which No holds. -/
def MapG (P : Program) (K e : TypeId) (w : World) (base b n : Nat) (No : Nat → Prop) (G : Int → List Nat) : Prop :=
  ∃ D : DataW Unit, w.ownsGroups P K base e .i64 b n D ∧ IsMap D ∧ (∀ k, itemsD (D.atKey (.int .i64 k) .nil) = Go.ChangeShapes.lits .i64 (ofN (G k))) ∧ Shuns w b No

theorem MapG.lt {No : Nat → Prop} {G : Int → List Nat} (m : MapG P K e w base b n No G) : b < w.heap.size := by
  obtain ⟨D, ⟨es, clock, hb, _⟩, _⟩ := m
  exact (Array.getElem?_eq_some_iff.1 hb).1
theorem MapG.lb {No : Nat → Prop} {G : Int → List Nat} (m : MapG P K e w base b n No G) : b < base := by
  obtain ⟨D, ⟨es, clock, hb, _, _, _, h, _⟩, _⟩ := m
  exact h
theorem MapG.made (w : World) (P : Program) (K e : TypeId) (No : Nat → Prop) : MapG P K e (w.alloc (.map #[] 0)) (w.heap.size + 1) w.heap.size 0 No (fun _ => []) :=
  ⟨.map [], World.ownsGroups_made w P K e .i64, isMap_empty, fun k => rfl, fun es clock hb x hx => by
    rw [(MapKept.heap_alloc w _).1] at hb
    cases hb
    simp at hx⟩
theorem MapG.madeAt (w : World) (P : Program) (K e : TypeId) (base : Nat) (hb : w.heap.size < base) (No : Nat → Prop) : MapG P K e (w.alloc (.map #[] 0)) base w.heap.size 0 No (fun _ => []) :=
  ⟨.map [], ⟨#[], 0, (MapKept.heap_alloc w _).1, ⟨by simp, Go.MapKept.stamped_empty 0, by simp⟩, Nat.le_refl _, rfl, hb, by simp, by simp⟩, isMap_empty, fun k => rfl, fun es clock hb x hx => by
    rw [(MapKept.heap_alloc w _).1] at hb
    cases hb
    simp at hx⟩
theorem MapG.rows {No : Nat → Prop} {G : Int → List Nat} (m : MapG P K e w base b n No G) : ∀ es clock, w.heap[b]? = some (.map es clock) → ∀ x ∈ es.toList, ∀ g, x.val.ownBlock = some g → base ≤ g ∧ g < w.heap.size ∧ ¬ No g := fun es clock hb x hx g hg => by
  obtain ⟨D, ⟨es', clock', hb', F, _⟩, _, _, hs⟩ := m
  have hn := hs es clock hb x hx g hg
  obtain ⟨rfl, rfl⟩ : es' = es ∧ clock' = clock := by rw [hb'] at hb; simpa using hb
  obtain ⟨y, hy⟩ := F.reads x hx
  obtain ⟨z, hz, _⟩ := rd_val hy
  obtain ⟨zs, hoi, _⟩ := rowElem_inv hz
  have := hoi.1.lt g hg
  exact ⟨this.1, this.2, hn⟩
/-- While other blocks turn; and another No, which beyond the old one holds of new blocks alone. -/
theorem MapG.kept {No No' S : Nat → Prop} {G : Int → List Nat} (m : MapG P K e w base b n No G) (k : Kept S w w') (hS : ∀ g, g < w.heap.size → S g → g ≠ b ∧ (No g ∨ g < base)) (hN : ∀ g, No' g → No g ∨ w.heap.size ≤ g) : MapG P K e w' base b n No' G := by
  have hr := m.rows
  have hlt := m.lt
  obtain ⟨D, h1, h2, h3, h4⟩ := m
  have hbS : ¬ S b := fun h => (hS b hlt h).1 rfl
  refine ⟨D, ownsGroups_kept h1 k hbS (fun es clock hb x hx g hg hs => ?_), h2, h3, fun es clock hb x hx g hg hn => ?_⟩
  · obtain ⟨r1, r2, r3⟩ := hr es clock hb x hx g hg
    rcases (hS g r2 hs).2 with h | h
    · exact r3 h
    · omega
  · rw [k.block b hlt hbS] at hb
    obtain ⟨r1, r2, r3⟩ := hr es clock hb x hx g hg
    rcases hN g hn with h | h
    · exact r3 h
    · omega

theorem i64w {k : Int} (h1 : -9223372036854775808 ≤ k) (h2 : k ≤ 9223372036854775807) : (Lit.int .i64 k).wf = true := by
  simp [Lit.wf, IntKind.min, IntKind.max, IntKind.signed, IntKind.bits]
  omega

/-- What a store at k of a slice that grew out of the one at k leaves. -/
def BackG (P : Program) (t K e : TypeId) (w : World) (base b n : Nat) (No : Nat → Prop) (G : Int → List Nat) (k : Int) (v : Value) : Prop :=
  ∀ (w1 : World) (v' : Value) (x' : Nat), w.grownBy w1 v.ownBlock → w1.ownsInts base e .i64 v' (ofN (G k ++ [x'])) → (v'.ownBlock = v.ownBlock ∨ ∃ g, v'.ownBlock = some g ∧ w.heap.size ≤ g) → (∀ g, v'.ownBlock = some g → ¬ No g) →
    ∃ w2, (Instr.mapUpdate t (.map (some b)) (.int .i64 k) v').run P w1 = .ok () w2 ∧ MapG P K e w2 base b (n + 1) No (fun j => if j = k then G k ++ [x'] else G j) ∧ w1.grownBy w2 (some b)
/-- 'm[k]', and the way back. -/
theorem MapG.at {t : TypeId} {No : Nat → Prop} {G : Int → List Nat} (hb : MapG P K e w base b n No G) (hK : P.underlying K = some (.int .i64)) (ht : P.underlying t = some (.map K E))
    (hz : (zeroValue E).run P w = .ok (.slice none 0 0) w) (hn : n < maxLen) (k : Int) (hw : (Lit.int .i64 k).wf = true) :
    ∃ v, (Instr.lookup t (.map (some b)) (.int .i64 k) false).run P w = .ok v w ∧ w.ownsInts base e .i64 v (ofN (G k)) ∧ (G k).length ≤ n ∧ (∀ g, v.ownBlock = some g → ¬ No g) ∧ BackG P t K e w base b n No G k v := by
  have hrs := hb.rows
  obtain ⟨D, h1, hD, h2, h3⟩ := hb
  obtain ⟨v, zs, hrun, hat, hoi, hzl, hback⟩ := h1.at (int_keyed hK) ht hz hn (keyOf_int_mk hK hw)
  have hzs : zs = ofN (G k) := by
    have := h2 k
    rw [hat, items_row hoi] at this
    exact lits_inj this
  subst hzs
  have hsh : ∀ g, v.ownBlock = some g → ¬ No g := by
    obtain ⟨es, clock, hb, F, _⟩ := h1
    rcases Maps.fit_look false (int_keyed hK) ht hz hb F (keyOf_int_mk hK hw) with ⟨hrun', _, _⟩ | ⟨e0, y, hm0, _, hrun', _, _, _⟩
    · rw [hrun] at hrun'
      obtain rfl : v = .slice none 0 0 := by simpa using hrun'
      intro g hg'
      cases hg'
    · rw [hrun] at hrun'
      obtain rfl : v = e0.val := by simpa using hrun'
      exact fun g hg' => h3 es clock hb e0 hm0 g hg'
  refine ⟨v, hrun, hoi, by rw [ofN_len] at hzl; exact hzl, hsh, fun w1 v' x' hgr hown' hloc hno => ?_⟩
  obtain ⟨w2, r0, r1, r2⟩ := hback w1 v' _ hgr hown' (by rw [ofN_len] at hzl ⊢; simp; omega) hloc
  refine ⟨w2, r0, ⟨_, r1, hD.put _ _, fun j => ?_, ?_⟩, r2⟩
  · by_cases ej : j = k
    · subst ej
      show _ = Go.ChangeShapes.lits .i64 (ofN (if j = j then G j ++ [x'] else G j))
      rw [if_pos rfl, atKey_put_same hD (show WideAt.IsKeyLit (Lit.int _ _) from trivial), items_row hown']
    · show _ = Go.ChangeShapes.lits .i64 (ofN (if j = k then G k ++ [x'] else G j))
      rw [if_neg ej, atKey_put_other (by simpa using ej), h2]
  · obtain ⟨es, clock, hb, F, hs, _, hbb, _⟩ := h1
    have hblt : b < w.heap.size := (Array.getElem?_eq_some_iff.1 hb).1
    have hb1 : w1.heap[b]? = some (.map es clock) := (hgr.block b hblt (fun e1 => by have := (hoi.1.lt b e1.symm).1; omega)).trans hb
    have F0 : Fit P K (fun _ => some ((.nil : DataW Unit), ([] : List MemPlace))) es clock := ⟨F.size, F.stamped, fun x hx => by
      obtain ⟨y, hy⟩ := F.reads x hx
      exact ⟨(y.1, .nil), by simp [rd, Go.WideElems.rd_key hy]⟩⟩
    obtain ⟨es', clock', hrun', _, _, _, _, hwho⟩ := Maps.fit_store (R' := fun _ => some ((.nil : DataW Unit), ([] : List MemPlace))) (val := v') (int_keyed hK) ht hb1 F0 (Nat.lt_of_le_of_lt hs hn) (fun _ _ _ _ h => h) (keyOf_int_mk hK hw) rfl
    rw [r0] at hrun'
    obtain rfl : w2 = Go.ChangeMaps.setBlock w1 b (.map es' clock') := by simpa using hrun'
    intro es2 clock2 hb2' y hy g hyg
    obtain ⟨rfl, rfl⟩ : es' = es2 ∧ clock' = clock2 := by rw [Go.ChangeMaps.heap_setBlock_same hb1 _] at hb2'; simpa using hb2'
    rcases hwho y hy with ⟨hy0, _⟩ | ⟨_, hval⟩
    · exact h3 es clock hb y hy0 g hyg
    · exact hno g (hval ▸ hyg)
/-- 'm[k]' at the operation. -/
theorem wpList_lookG {ops : Array Oper} {rest : List Oper} {o : Oper} {a : Act} {Q : Exit → Act → World → Prop} {v : Value}
    (hg : o.guard = none) (m x : Operand) (t : TypeId) (hop : o.op = Op.lookup t m x false) (k : Int) (hm : a.eval m = .map (some b)) (hx : a.eval x = .int .i64 k)
    (hrun : (Instr.lookup t (.map (some b)) (.int .i64 k) false).run P w = .ok v w) (hQ : wpList P ops Q rest (a.put o.dst v) w) : wpList P ops Q (o :: rest) a w := by
  refine wpList_plain hg fun K' hK' => ?_
  unfold Oper.wp
  simp [execOp, hop, hm, hx, hrun, Result.andThen]
  exact hK' _ _ hQ

/-- 'm[k] = v' at the operation, by the way back. -/
theorem wpList_putG {ops : Array Oper} {rest : List Oper} {o : Oper} {a : Act} {Q : Exit → Act → World → Prop} {No : Nat → Prop} {G : Int → List Nat}
    (hg : o.guard = none) (m x v : Operand) (t : TypeId) (hop : o.op = Op.mapUpdate t m x v) (k : Int) (v' : Value) (G' : Int → List Nat) (n : Nat)
    (hm : a.eval m = .map (some b)) (hx : a.eval x = .int .i64 k) (hv : a.eval v = v')
    (hback : ∃ w2, (Instr.mapUpdate t (.map (some b)) (.int .i64 k) v').run P w = .ok () w2 ∧ MapG P K e w2 base b n No G' ∧ w.grownBy w2 (some b))
    (hQ : ∀ w2, MapG P K e w2 base b n No G' → Kept (fun i => i = b) w w2 → wpList P ops Q rest (a.put o.dst undef) w2) : wpList P ops Q (o :: rest) a w := by
  refine wpList_plain hg fun K' hK' => ?_
  obtain ⟨w2, hrun, r1, r2⟩ := hback
  unfold Oper.wp
  simp [execOp, hop, hm, hx, hv, hrun, Result.andThen]
  exact hK' _ _ (hQ w2 r1 ((Kept.of_grown r2).mono fun i _ e => (Option.some.inj e).symm))

end

end Go.Proofs.YtmiijgjpkkmoaaaGreat
