/- Joined texts: MapsB, PxTwo, PxSet, PxQuant, PxRMay, PxRMay2, PxNorm, PxRNorm, PxRPart, PxPart, PxQRows, PxRRise, PxRAll, PxFrom, PxAgree, PxOcc, PxMayOf, PxMays, PxChosen, PxVarIt, PxPlaces, PxReduce, PxFind. -/
import Derived.Maps.OwnOps
import Derived.Maps.OwnRows
import Derived.Maps.OwnSet
import Derived.Maps.Views
import Derived.Below
import Derived.Test.YtppglbffmgnooaaGreatK01
import Derived.Deep.DeepCutAuto
import Derived.RangeFuncNested
import Derived.RangeFuncBound
import Derived.RangeFuncCalls
import Derived.RangeFuncLeaves
import Derived.RangeFuncBox
import Derived.Shelf.Abstract
import Derived.Shelf.RegionOpen
import Derived.OwnWalkIn
import Derived.TacticsInMore
import Derived.LoopNIn
import Derived.LoopIn
import Derived.Maps.OwnIn
import Derived.Deep.RegionWith
import Derived.Deep.QuietTactic
/- Maps from ints: to bools, and to slices of ints of the call's own; what is kept while some blocks turn. -/
namespace Go.Proofs.YtppglbffmgnooaaGreat
open Go.RowKit Go.Maps
open Go.WideElems (Fit rd rg pl rd_val elemAt)
set_option linter.unusedVariables false

/-- But for the blocks of which S holds, and new ones, the world is as it was. -/
structure Kept (S : Nat → Prop) (w w' : World) : Prop where
  os : w'.os = w.os
  tape : w'.tape = w.tape
  output : w'.output = w.output
  size : w.heap.size ≤ w'.heap.size
  block : ∀ k, k < w.heap.size → ¬ S k → w'.heap[k]? = w.heap[k]?

theorem Kept.refl (S : Nat → Prop) (w : World) : Kept S w w := ⟨rfl, rfl, rfl, Nat.le_refl _, fun _ _ _ => rfl⟩
theorem Kept.of_grown {w w' : World} {row : Option Nat} (h : w.grownBy w' row) : Kept (fun k => row = some k) w w' := ⟨h.os, h.tape, h.output, h.size, fun k hk hS => h.block k hk (fun e => hS e.symm)⟩
theorem Kept.alloc (S : Nat → Prop) (w : World) (o : Obj) : Kept S w (w.alloc o) := ⟨rfl, rfl, rfl, by simp, fun k hk _ => Below.heap_alloc _ _ _ hk⟩
theorem Kept.setCell (w : World) (a : Addr) (u : Value) : Kept (fun k => k = a.block) w (w.setCell a u) := ⟨rfl, rfl, rfl, by simp [World.setCell], fun k _ hS => Below.heap_setCell _ _ _ _ hS⟩
theorem Kept.mono {S T : Nat → Prop} {w w' : World} (h : Kept S w w') (hS : ∀ k, k < w.heap.size → S k → T k) : Kept T w w' := ⟨h.os, h.tape, h.output, h.size, fun k hk hT => h.block k hk (fun hs => hT (hS k hk hs))⟩
theorem Kept.trans {S : Nat → Prop} {a b c : World} (h : Kept S a b) (k : Kept S b c) : Kept S a c :=
  ⟨k.os.trans h.os, k.tape.trans h.tape, k.output.trans h.output, Nat.le_trans h.size k.size, fun i hi hS => (k.block i (Nat.lt_of_lt_of_le hi h.size) hS).trans (h.block i hi hS)⟩
/-- What follows may turn what was new. -/
theorem Kept.next {S T : Nat → Prop} {a b c : World} (h : Kept S a b) (k : Kept T b c) (hT : ∀ i, i < a.heap.size → T i → S i) : Kept S a c :=
  ⟨k.os.trans h.os, k.tape.trans h.tape, k.output.trans h.output, Nat.le_trans h.size k.size, fun i hi hS => (k.block i (Nat.lt_of_lt_of_le hi h.size) (fun ht => hS (hT i hi ht))).trans (h.block i hi hS)⟩
theorem Kept.below {S : Nat → Prop} {B : Nat} {w w' : World} (h : Kept S w w') (hB : B ≤ w.heap.size) (hS : ∀ k, k < B → ¬ S k) : Below B w w' := ⟨h.os, h.tape, h.output, h.size, fun k hk => h.block k (by omega) (hS k hk)⟩
theorem Kept.cell {S : Nat → Prop} {w w' : World} (h : Kept S w w') {p : Addr} (hp : p.block < w.heap.size) (hS : ¬ S p.block) : w'.cell? p = w.cell? p := World.cell?_of_block (w := w) (h.block p.block hp hS)
theorem Kept.row {S : Nat → Prop} {w w' : World} (h : Kept S w w') {B : Nat} {e : TypeId} {size : Nat} {v : Value} {n : Nat} {xs : List Value} (hr : w.ownsRow B e size v n xs) (hS : ∀ g, v.ownBlock = some g → ¬ S g) : w'.ownsRow B e size v n xs := by
  refine ⟨hr.1, ?_⟩
  rcases hr.2 with hn | ⟨g, cap, cur, hv, hB, hg, rest⟩
  · exact .inl hn
  · subst hv
    have hlt : g < w.heap.size := (Array.getElem?_eq_some_iff.1 hg).1
    exact .inr ⟨g, cap, cur, rfl, hB, by rw [h.block g hlt (hS g rfl)]; exact hg, rest⟩

section
variable {P : Program} {K E : TypeId} {w w' : World} {b n : Nat}

theorem ownsMap_kept {H : Type} {R : Value → Option (DataW H × List MemPlace)} {D : DataW H} {S : Nat → Prop} (h : w.ownsMap P K R b n D) (k : Kept S w w') (hb : ¬ S b) : w'.ownsMap P K R b n D := by
  have hlt := h.lt
  obtain ⟨es, clock, hh, F, hs, hD⟩ := h
  exact ⟨es, clock, (k.block b hlt hb).trans hh, F, hs, hD⟩

/-- Block b is a map from ints to bools of at most n entries, which says h. -/
def MapB (P : Program) (K E : TypeId) (w : World) (b n : Nat) (h : Int → Bool) : Prop :=
  ∃ D : DataW Unit, w.ownsMap P K (plainElem P E) b n D ∧ IsMap D ∧ ∀ k, D.atKey (.int .i64 k) (.lit (.bool false)) = .lit (.bool (h k))

theorem MapB.kept {h : Int → Bool} {S : Nat → Prop} (m : MapB P K E w b n h) (k : Kept S w w') (hb : ¬ S b) : MapB P K E w' b n h := by
  obtain ⟨D, h1, h2⟩ := m
  exact ⟨D, ownsMap_kept h1 k hb, h2⟩
theorem MapB.lt {h : Int → Bool} (m : MapB P K E w b n h) : b < w.heap.size := by obtain ⟨D, h1, _⟩ := m; exact h1.lt
theorem MapB.mono {h : Int → Bool} (m : MapB P K E w b n h) {n' : Nat} (hn : n ≤ n') : MapB P K E w b n' h := by obtain ⟨D, h1, h2⟩ := m; exact ⟨D, h1.mono hn, h2⟩
theorem MapB.made (w : World) (P : Program) (K E : TypeId) : MapB P K E (w.alloc (.map #[] 0)) w.heap.size 0 (fun _ => false) :=
  ⟨.map [], World.ownsMap_made w P K _, isMap_empty, fun k => rfl⟩

theorem plainElem_bool_inv {H : Type} (he : P.underlying E = some .bool) {v : Value} {z : DataW H × List MemPlace} (h : plainElem P E v = some z) : ∃ x, v = .bool x ∧ z = (.lit (.bool x), []) := by
  unfold plainElem at h
  rw [he] at h
  cases v <;> simp at h
  subst h
  exact ⟨_, rfl, rfl⟩

theorem MapB.look {t : TypeId} {h : Int → Bool} (m : MapB P K E w b n h) (hK : P.underlying K = some (.int .i64)) (hE : P.underlying E = some .bool) (ht : P.underlying t = some (.map K E)) (hz : (zeroValue E).run P w = .ok (.bool false) w)
    (k : Int) (hw : (Lit.int .i64 k).wf = true) : (Instr.lookup t (.map (some b)) (.int .i64 k) false).run P w = .ok (.bool (h k)) w := by
  obtain ⟨D, h1, _, h2⟩ := m
  obtain ⟨v, ps, hrun, hv⟩ := h1.lookup (int_keyed hK) ht hz (plainElem_bool hE false) (keyOf_int_mk hK hw)
  obtain ⟨x, rfl, hx⟩ := plainElem_bool_inv hE hv
  simp only [Prod.mk.injEq] at hx
  have := hx.1
  rw [h2] at this
  simp at this
  rw [this]
  exact hrun

end

/-! ### groups -/
def ofN (l : List Nat) : List Int := l.map (fun i : Nat => (i : Int))
theorem ofN_len (l : List Nat) : (ofN l).length = l.length := by simp [ofN]
def itemsD {H : Type} : DataW H → List (DataW H) | .slice es _ => es | _ => []

section
variable {P : Program} {K E e : TypeId} {w w' : World} {b n base : Nat}

theorem lits_inj {H : Type} {q : IntKind} {zs ys : List Int} (h : (Go.ChangeShapes.lits q zs : List (DataW H)) = Go.ChangeShapes.lits q ys) : zs = ys := by
  unfold Go.ChangeShapes.lits at h
  exact (List.map_inj_right (fun a b hab => by cases hab; rfl)).1 h
theorem items_row {H : Type} {q : IntKind} {v : Value} {zs : List Int} (h : w.ownsInts base e q v zs) : itemsD (rowDatum (H := H) q v zs) = Go.ChangeShapes.lits q zs := by
  rcases h.datum (H := H) with ⟨h1, h2⟩ | h1
  · rw [h1, h2]; rfl
  · rw [h1]; rfl

theorem ownsGroups_kept {H : Type} {q : IntKind} {D : DataW H} {S : Nat → Prop} (h : w.ownsGroups P K base e q b n D) (k : Kept S w w') (hb' : ¬ S b)
    (hrow : ∀ es clock, w.heap[b]? = some (.map es clock) → ∀ x ∈ es.toList, ∀ g, x.val.ownBlock = some g → ¬ S g) : w'.ownsGroups P K base e q b n D := by
  obtain ⟨es, clock, hb, F, hs, rfl, hbb, hlen, hap⟩ := h
  have hblt : b < w.heap.size := (Array.getElem?_eq_some_iff.1 hb).1
  have hk : ∀ x ∈ es.toList, ∀ zs, w.ownsInts base e q x.val zs → w'.ownsInts base e q x.val zs := fun x hx zs ho => ⟨k.row ho.1 (hrow es clock hb x hx), ho.2⟩
  have hst : ∀ x ∈ es.toList, ∀ z, rowElem (H := H) w base e q x.val = some z → rowElem w' base e q x.val = some z := fun x hx z hz => by
    obtain ⟨zs, ho, rfl⟩ := rowElem_inv hz
    exact rowElem_mk (hk x hx zs ho)
  obtain ⟨F1, hmap, _⟩ := F.stay hst
  refine ⟨es, clock, (k.block b hblt hb').trans hb, F1, hs, by rw [hmap], hbb, fun x hx zs ho => ?_, hap⟩
  obtain ⟨y, hy⟩ := F.reads x hx
  obtain ⟨z, hz, _⟩ := rd_val hy
  obtain ⟨zs0, ho0, _⟩ := rowElem_inv hz
  rw [ho.unique (hk x hx zs0 ho0)]
  exact hlen x hx zs0 ho0

/-- No group's row is a block of which No holds. -/
def Shuns (w : World) (b : Nat) (No : Nat → Prop) : Prop := ∀ es clock, w.heap[b]? = some (.map es clock) → ∀ x ∈ es.toList, ∀ g, x.val.ownBlock = some g → ¬ No g

/-- Block b is a map from ints to slices of the call's own (rows from base on), of at most n entries and numbers; the slice at l holds G l; no row is a block of which No holds. -/
def MapG (P : Program) (K e : TypeId) (w : World) (base b n : Nat) (No : Nat → Prop) (G : Int → List Nat) : Prop :=
  ∃ D : DataW Unit, w.ownsGroups P K base e .i64 b n D ∧ IsMap D ∧ (∀ k, itemsD (D.atKey (.int .i64 k) .nil) = Go.ChangeShapes.lits .i64 (ofN (G k))) ∧ Shuns w b No

theorem MapG.lt {No : Nat → Prop} {G : Int → List Nat} (m : MapG P K e w base b n No G) : b < w.heap.size := by
  obtain ⟨D, ⟨es, clock, hb, _⟩, _⟩ := m
  exact (Array.getElem?_eq_some_iff.1 hb).1
theorem MapG.lb {No : Nat → Prop} {G : Int → List Nat} (m : MapG P K e w base b n No G) : b < base := by
  obtain ⟨D, ⟨es, clock, hb, _, _, _, h, _⟩, _⟩ := m
  exact h
theorem MapG.made (w : World) (P : Program) (K e : TypeId) (No : Nat → Prop) : MapG P K e (w.alloc (.map #[] 0)) (w.heap.size + 1) w.heap.size 0 No (fun _ => []) :=
  ⟨.map [], World.ownsGroups_made w P K e .i64, isMap_empty, fun k => rfl, fun es clock hb x hx => by
    rw [(MapKept.heap_alloc w _).1] at hb
    cases hb
    simp at hx⟩
theorem MapG.rows {No : Nat → Prop} {G : Int → List Nat} (m : MapG P K e w base b n No G) : ∀ es clock, w.heap[b]? = some (.map es clock) → ∀ x ∈ es.toList, ∀ g, x.val.ownBlock = some g → base ≤ g ∧ g < w.heap.size ∧ ¬ No g := fun es clock hb x hx g hg => by
  obtain ⟨D, ⟨es', clock', hb', F, _⟩, _, _, hs⟩ := m
  have hn := hs es clock hb x hx g hg
  obtain ⟨rfl, rfl⟩ : es' = es ∧ clock' = clock := by rw [hb'] at hb; simpa using hb
  obtain ⟨y, hy⟩ := F.reads x hx
  obtain ⟨z, hz, _⟩ := rd_val hy
  obtain ⟨zs, hoi, _⟩ := rowElem_inv hz
  have := hoi.1.lt g hg
  exact ⟨this.1, this.2, hn⟩
/-- While other blocks turn; and another No, which beyond the old one holds of new blocks alone. -/
theorem MapG.kept {No No' S : Nat → Prop} {G : Int → List Nat} (m : MapG P K e w base b n No G) (k : Kept S w w') (hS : ∀ g, g < w.heap.size → S g → g ≠ b ∧ (No g ∨ g < base)) (hN : ∀ g, No' g → No g ∨ w.heap.size ≤ g) : MapG P K e w' base b n No' G := by
  have hr := m.rows
  have hlt := m.lt
  obtain ⟨D, h1, h2, h3, h4⟩ := m
  have hbS : ¬ S b := fun h => (hS b hlt h).1 rfl
  refine ⟨D, ownsGroups_kept h1 k hbS (fun es clock hb x hx g hg hs => ?_), h2, h3, fun es clock hb x hx g hg hn => ?_⟩
  · obtain ⟨r1, r2, r3⟩ := hr es clock hb x hx g hg
    rcases (hS g r2 hs).2 with h | h
    · exact r3 h
    · omega
  · rw [k.block b hlt hbS] at hb
    obtain ⟨r1, r2, r3⟩ := hr es clock hb x hx g hg
    rcases hN g hn with h | h
    · exact r3 h
    · omega

theorem i64w {k : Int} (h1 : -9223372036854775808 ≤ k) (h2 : k ≤ 9223372036854775807) : (Lit.int .i64 k).wf = true := by
  simp [Lit.wf, IntKind.min, IntKind.max, IntKind.signed, IntKind.bits]
  omega

/-- What a store at k of a slice that grew out of the one at k leaves. -/
def BackG (P : Program) (t K e : TypeId) (w : World) (base b n : Nat) (No : Nat → Prop) (G : Int → List Nat) (k : Int) (v : Value) : Prop :=
  ∀ (w1 : World) (v' : Value) (x' : Nat), w.grownBy w1 v.ownBlock → w1.ownsInts base e .i64 v' (ofN (G k ++ [x'])) → (v'.ownBlock = v.ownBlock ∨ ∃ g, v'.ownBlock = some g ∧ w.heap.size ≤ g) → (∀ g, v'.ownBlock = some g → ¬ No g) →
    ∃ w2, (Instr.mapUpdate t (.map (some b)) (.int .i64 k) v').run P w1 = .ok () w2 ∧ MapG P K e w2 base b (n + 1) No (fun j => if j = k then G k ++ [x'] else G j) ∧ w1.grownBy w2 (some b)
/-- 'm[k]', and the way back. -/
theorem MapG.at {t : TypeId} {No : Nat → Prop} {G : Int → List Nat} (hb : MapG P K e w base b n No G) (hK : P.underlying K = some (.int .i64)) (ht : P.underlying t = some (.map K E))
    (hz : (zeroValue E).run P w = .ok (.slice none 0 0) w) (hn : n < maxLen) (k : Int) (hw : (Lit.int .i64 k).wf = true) :
    ∃ v, (Instr.lookup t (.map (some b)) (.int .i64 k) false).run P w = .ok v w ∧ w.ownsInts base e .i64 v (ofN (G k)) ∧ (G k).length ≤ n ∧ (∀ g, v.ownBlock = some g → ¬ No g) ∧ BackG P t K e w base b n No G k v := by
  have hrs := hb.rows
  obtain ⟨D, h1, hD, h2, h3⟩ := hb
  obtain ⟨v, zs, hrun, hat, hoi, hzl, hback⟩ := h1.at (int_keyed hK) ht hz hn (keyOf_int_mk hK hw)
  have hzs : zs = ofN (G k) := by
    have := h2 k
    rw [hat, items_row hoi] at this
    exact lits_inj this
  subst hzs
  have hsh : ∀ g, v.ownBlock = some g → ¬ No g := by
    obtain ⟨es, clock, hb, F, _⟩ := h1
    rcases Maps.fit_look false (int_keyed hK) ht hz hb F (keyOf_int_mk hK hw) with ⟨hrun', _, _⟩ | ⟨e0, y, hm0, _, hrun', _, _, _⟩
    · rw [hrun] at hrun'
      obtain rfl : v = .slice none 0 0 := by simpa using hrun'
      intro g hg'
      cases hg'
    · rw [hrun] at hrun'
      obtain rfl : v = e0.val := by simpa using hrun'
      exact fun g hg' => h3 es clock hb e0 hm0 g hg'
  refine ⟨v, hrun, hoi, by rw [ofN_len] at hzl; exact hzl, hsh, fun w1 v' x' hgr hown' hloc hno => ?_⟩
  obtain ⟨w2, r0, r1, r2⟩ := hback w1 v' _ hgr hown' (by rw [ofN_len] at hzl ⊢; simp; omega) hloc
  refine ⟨w2, r0, ⟨_, r1, hD.put _ _, fun j => ?_, ?_⟩, r2⟩
  · by_cases ej : j = k
    · subst ej
      show _ = Go.ChangeShapes.lits .i64 (ofN (if j = j then G j ++ [x'] else G j))
      rw [if_pos rfl, atKey_put_same hD (show WideAt.IsKeyLit (Lit.int _ _) from trivial), items_row hown']
    · show _ = Go.ChangeShapes.lits .i64 (ofN (if j = k then G k ++ [x'] else G j))
      rw [if_neg ej, atKey_put_other (by simpa using ej), h2]
  · obtain ⟨es, clock, hb, F, hs, _, hbb, _⟩ := h1
    have hblt : b < w.heap.size := (Array.getElem?_eq_some_iff.1 hb).1
    have hb1 : w1.heap[b]? = some (.map es clock) := (hgr.block b hblt (fun e1 => by have := (hoi.1.lt b e1.symm).1; omega)).trans hb
    have F0 : Fit P K (fun _ => some ((.nil : DataW Unit), ([] : List MemPlace))) es clock := ⟨F.size, F.stamped, fun x hx => by
      obtain ⟨y, hy⟩ := F.reads x hx
      exact ⟨(y.1, .nil), by simp [rd, Go.WideElems.rd_key hy]⟩⟩
    obtain ⟨es', clock', hrun', _, _, _, _, hwho⟩ := Maps.fit_store (R' := fun _ => some ((.nil : DataW Unit), ([] : List MemPlace))) (val := v') (int_keyed hK) ht hb1 F0 (Nat.lt_of_le_of_lt hs hn) (fun _ _ _ _ h => h) (keyOf_int_mk hK hw) rfl
    rw [r0] at hrun'
    obtain rfl : w2 = Go.ChangeMaps.setBlock w1 b (.map es' clock') := by simpa using hrun'
    intro es2 clock2 hb2' y hy g hyg
    obtain ⟨rfl, rfl⟩ : es' = es2 ∧ clock' = clock2 := by rw [Go.ChangeMaps.heap_setBlock_same hb1 _] at hb2'; simpa using hb2'
    rcases hwho y hy with ⟨hy0, _⟩ | ⟨_, hval⟩
    · exact h3 es clock hb y hy0 g hyg
    · exact hno g (hval ▸ hyg)
end

end Go.Proofs.YtppglbffmgnooaaGreat

/- Words for slices of structs of two fields, the second a list of integers. -/
namespace Go.Proofs.YtppglbffmgnooaaGreat
open Go.RowKit
set_option linter.unusedVariables false

/-- The value is a slice that holds these rows: a plain value, and a slice of these integers. -/
def IsTwo {α : Type} (enc : α → Value) (d : α × List Int) (w : World) (v : Value) (l : List (α × List Int)) : Prop :=
  ∃ a cap, v = .slice a l.length cap ∧ (l.length ≤ cap ∧ (a = none → cap = 0)) ∧ cap ≤ 9223372036854775807 ∧ l.length ≤ 17592186044416 ∧
    ∃ b off, (l ≠ [] → a = some ⟨b, off, none⟩ ∧ b < w.heap.size) ∧ ∀ j, j < l.length → w.cell? ⟨b, off + j * 2, none⟩ = some (enc (l.getD j d).1) ∧ ∃ u, w.cell? ⟨b, off + j * 2 + 1, none⟩ = some u ∧ IsInts w u (l.getD j d).2
section
variable {α : Type} {enc : α → Value} {d : α × List Int}
theorem IsTwo.below {w w' : World} {B : Nat} {v : Value} {l : List (α × List Int)} (h : IsTwo enc d w v l) (hb : Below B w w') (hB : w.heap.size ≤ B) : IsTwo enc d w' v l := by
  obtain ⟨a, cap, h1, h2, h3, h4, b, off, ha, hc⟩ := h
  refine ⟨a, cap, h1, h2, h3, h4, b, off, fun hl => ⟨(ha hl).1, Nat.lt_of_lt_of_le (ha hl).2 hb.size⟩, fun j hj => ?_⟩
  have hlt : b < w.heap.size := (ha (by intro h; simp [h] at hj)).2
  rw [hb.cell (p := ⟨b, off + j * 2, none⟩) (Nat.lt_of_lt_of_le hlt hB), hb.cell (p := ⟨b, off + j * 2 + 1, none⟩) (Nat.lt_of_lt_of_le hlt hB)]
  obtain ⟨h5, u, hu, hi⟩ := hc j hj
  exact ⟨h5, u, hu, hi.below hb hB⟩
theorem IsTwo.quiet {w w' : World} {v : Value} {l : List (α × List Int)} (h : IsTwo enc d w v l) (hq : Quiet w w') : IsTwo enc d w' v l := h.below (hq.below _) (Nat.le_refl _)
theorem IsTwo.nil (w : World) : IsTwo enc d w (.slice none 0 0) [] := ⟨none, 0, rfl, ⟨Nat.le_refl _, fun _ => rfl⟩, by omega, by simp, 0, 0, fun h => absurd rfl h, fun j hj => absurd hj (Nat.not_lt_zero _)⟩
theorem IsTwo.shape {w : World} {v : Value} {l : List (α × List Int)} (h : IsTwo enc d w v l) : ∃ a cap, v = .slice a l.length cap ∧ l.length ≤ 17592186044416 := by
  obtain ⟨a, cap, e, _, _, h4, _⟩ := h; exact ⟨a, cap, e, h4⟩
theorem IsTwo.at {w : World} {a : Option Addr} {n cap : Nat} {l : List (α × List Int)} (h : IsTwo enc d w (.slice a n cap) l) {k : Nat} (hk : k < l.length) :
    ∃ b off u, a = some ⟨b, off, none⟩ ∧ b < w.heap.size ∧ w.cell? ⟨b, off + k * 2, none⟩ = some (enc (l.getD k d).1) ∧ w.cell? ⟨b, off + k * 2 + 1, none⟩ = some u ∧ IsInts w u (l.getD k d).2 := by
  obtain ⟨a', cap', e, _, _, _, b, off, ha, hc⟩ := h
  injection e with e1 e2 e3
  subst e1
  obtain ⟨h1, h2⟩ := ha (by intro h; simp [h] at hk)
  obtain ⟨h5, u, hu, hi⟩ := hc k hk
  exact ⟨b, off, u, h1, h2, h5, hu, hi⟩
theorem take_two {l : List (α × List Int)} {k : Nat} (h : k < l.length) : l.take (k + 1) = l.take k ++ [l.getD k d] := by rw [List.take_succ_eq_append_getElem h]; simp [List.getD, h]
end

theorem heapy (w : World) (o : Obj) (k : Nat) : (w.alloc o).heap[k]? = if k = w.heap.size then some o else w.heap[k]? := Array.getElem?_push
theorem cell_fresh {w : World} {c : Array Value} {T : TypeId} {i : Nat} {v : Value} (h : c[i]? = some v) : (w.alloc (.cells c T)).cell? ⟨w.heap.size, i, none⟩ = some v := by
  simp only [World.cell?, heapy]
  exact h
theorem cell_old {w : World} {o : Obj} {p : Addr} {v : Value} (h : w.cell? p = some v) : (w.alloc o).cell? p = some v :=
  ((Below.refl w.heap.size w).alloc (Nat.le_refl _) o).cell (World.block_lt_of_cell? w p h) |>.trans h
theorem cell_fresh2 {w : World} {o : Obj} {c : Array Value} {T : TypeId} {i : Nat} {v : Value} (h : c[i]? = some v) : ((w.alloc o).alloc (.cells c T)).cell? ⟨w.heap.size + 1, i, none⟩ = some v := by
  have := cell_fresh (w := w.alloc o) (T := T) h
  simpa using this

abbrev IsBlocks := IsTwo Value.bool (false, ([] : List Int))

end Go.Proofs.YtppglbffmgnooaaGreat

/- Sets of integers: maps from ints to bools that the call makes. prefix.enter. -/
namespace Go.Proofs.YtppglbffmgnooaaGreat
open Go.RowKit Go.Maps
open Go.WideElems (Fit rd rg pl rd_val elemAt)
set_option linter.unusedVariables false
set_option linter.unusedSimpArgs false

theorem plain_bool (b : Bool) : plainElem (H := Unit) Tryz.prog 4 (.bool b) = some (.lit (.bool b), []) := plainElem_bool Tryz.underlying4 b
/-- Block b is a map that says 'true' of just these, each told once. -/
def SetI (w : World) (b : Nat) (S : List Int) : Prop :=
  S.Nodup ∧ ∃ D : DataW Unit, w.ownsMap Tryz.prog 3 (plainElem Tryz.prog 4) b S.length D ∧ (∀ k, D.atKey (.int .i64 k) (.lit (.bool false)) = .lit (.bool (decide (k ∈ S)))) ∧ (∀ k, Maps.has D (.int .i64 k) = decide (k ∈ S)) ∧ Maps.size D = S.length

theorem SetI.lt {w : World} {b : Nat} {S : List Int} (h : SetI w b S) : b < w.heap.size := by obtain ⟨_, D, h1, _⟩ := h; exact h1.lt
theorem SetI.kept {w w' : World} {b : Nat} {S : List Int} {Q : Nat → Prop} (h : SetI w b S) (k : Kept Q w w') (hb : ¬ Q b) : SetI w' b S := by
  obtain ⟨hn, D, h1, h2⟩ := h
  exact ⟨hn, D, ownsMap_kept h1 k hb, h2⟩
theorem SetI.below {w w' : World} {b B : Nat} {S : List Int} (h : SetI w b S) (hb : Below B w w') (hB : w.heap.size ≤ B) : SetI w' b S :=
  h.kept (Q := fun _ => False) ⟨hb.os, hb.tape, hb.output, hb.size, fun k hk _ => hb.block k (by omega)⟩ (fun h => h)
theorem SetI.made (w : World) : SetI (w.alloc (.map #[] 0)) w.heap.size [] :=
  ⟨List.nodup_nil, .map [], World.ownsMap_made w Tryz.prog 3 _, fun k => by simp; rfl, fun k => by simp; rfl, rfl⟩
theorem SetI.look {w : World} {b : Nat} {S : List Int} (h : SetI w b S) (hz : (zeroValue 4).run Tryz.prog w = .ok (.bool false) w) (k : Int) (hw : (Lit.int .i64 k).wf = true) : (Instr.lookup 181 (.map (some b)) (.int .i64 k) false).run Tryz.prog w = .ok (.bool (decide (k ∈ S))) w := by
  obtain ⟨_, D, h1, h2, _⟩ := h
  have hm : MapB Tryz.prog 3 4 w b S.length (fun k => decide (k ∈ S)) := ⟨D, h1, h1.isMap, h2⟩
  exact hm.look Tryz.underlying3 Tryz.underlying4 Tryz.underlying181 hz k hw
theorem SetI.len {w : World} {b : Nat} {S : List Int} (h : SetI w b S) (ty : TypeId) : (Builtin.len_ #[181] ty #[.map (some b)]).run Tryz.prog w = .ok (.int .i64 S.length) w := by
  obtain ⟨_, D, h1, _, _, h4⟩ := h
  rw [← h4]
  exact h1.len Tryz.underlying181 ty

/-- 'm[k] = true' at the operation, k new. -/
theorem wpList_putS {w : World} {b : Nat} {S : List Int} {ops : Array Oper} {rest : List Oper} {o : Oper} {a : Act} {Q : Exit → Act → World → Prop}
    (hg : o.guard = none) (m x v : Operand) (hop : o.op = Op.mapUpdate 181 m x v) (hm : a.eval m = .map (some b)) (h : SetI w b S) (hn : S.length < maxLen) (k : Int) (hx : a.eval x = .int .i64 k) (hv : a.eval v = .bool true) (hw : (Lit.int .i64 k).wf = true) (hk : k ∉ S)
    (hQ : ∀ w', SetI w' b (S ++ [k]) → Kept (fun i => i = b) w w' → wpList Tryz.prog ops Q rest (a.put o.dst undef) w') : wpList Tryz.prog ops Q (o :: rest) a w := by
  obtain ⟨hnd, D, h1, h2, h3, h4⟩ := h
  have hD := h1.isMap
  have hT := h1.tidy (int_keyed Tryz.underlying3)
  refine wpList_mapUpdate_own w hg m x v 181 hop 3 4 (int_keyed Tryz.underlying3) Tryz.underlying181 _ b S.length D hm h1 hn _ _ (.int .i64 k) hx hv (keyOf_int_mk Tryz.underlying3 hw) _ [] (plain_bool true) fun w' h5 h6 => ?_
  refine hQ w' ⟨?_, D.put (.int .i64 k) (.lit (.bool true)), ?_, fun j => ?_, fun j => ?_, ?_⟩ ((Kept.of_grown h6).mono fun i _ e => (Option.some.inj e).symm)
  · rw [List.nodup_append]
    exact ⟨hnd, by simp, fun z hz y hy e => by rw [List.mem_singleton] at hy; rw [hy] at e; rw [e] at hz; exact hk hz⟩
  · rw [List.length_append]
    exact h5
  · by_cases e : j = k
    · subst e
      rw [atKey_put_same hD (show WideAt.IsKeyLit (Lit.int _ _) from trivial)]
      simp
    · rw [atKey_put_other (by simpa using e), h2]
      simp [e]
  · by_cases e : j = k
    · subst e
      rw [has_put_same hD (show WideAt.IsKeyLit (Lit.int _ _) from trivial)]
      simp
    · rw [has_put_other (by simpa using e), h3]
      simp [e]
  · rw [size_put hT, h3, h4]
    simp [hk]

/-- The number may be entered. -/
def entB (S : List Int) (v : Int) : Bool := decide (1 ≤ v ∧ v ≤ 65536 ∧ v ∉ S)
def EnterPost (w : World) (b : Nat) (S : List Int) (v : Int) (e : Ending) (w' : World) : Prop :=
  (entB S v = true ∧ e = .returned (.bool true) ∧ SetI w' b (S ++ [v]) ∧ Kept (fun i => i = b) w w') ∨ (entB S v = false ∧ e = .returned (.bool false) ∧ w' = w)

end Go.Proofs.YtppglbffmgnooaaGreat

/- prefix.quantified and May. -/
namespace Go.Proofs.YtppglbffmgnooaaGreat
open Go.RowKit
set_option linter.unusedVariables false
set_option linter.unusedSimpArgs false

abbrev Blk := Bool × List Int
abbrev dB : Blk := (false, [])
def flatB {α : Type} (p : List (α × List Int)) : List Int := (p.map (fun x => x.2)).flatten
theorem flat_take_succ {α : Type} {d : α × List Int} {p : List (α × List Int)} {k : Nat} (h : k < p.length) : flatB (p.take (k + 1)) = flatB (p.take k) ++ (p.getD k d).2 := by
  rw [take_two (d := d) h]
  unfold flatB
  simp
theorem flat_prefix {α : Type} {d : α × List Int} {p : List (α × List Int)} {k : Nat} (h : k < p.length) (t : Nat) : flatB (p.take k) ++ (p.getD k d).2.take t <+: flatB p := by
  have h1 : flatB (p.take (k + 1)) ++ flatB (p.drop (k + 1)) = flatB p := by
    unfold flatB
    rw [← List.flatten_append, ← List.map_append, List.take_append_drop]
  rw [← h1, flat_take_succ (d := d) h, List.append_assoc]
  refine List.prefix_append_right_inj _ |>.2 ?_
  exact (List.take_prefix _ _).trans (List.prefix_append _ _)
/-- Block j has variables, and another quantifier than the one before. -/
def blkOk (p : List Blk) (j : Nat) : Prop := (p.getD j dB).2 ≠ [] ∧ (0 < j → (p.getD j dB).1 ≠ (p.getD (j - 1) dB).1)
def numsOk (l : List Int) : Prop := l.Nodup ∧ (∀ v ∈ l, 1 ≤ v ∧ v ≤ 65536) ∧ l.length ≤ 1024
instance (l : List Int) : Decidable (numsOk l) := by unfold numsOk; exact inferInstance
instance (p : List Blk) (j : Nat) : Decidable (blkOk p j) := by unfold blkOk; exact inferInstance
def mayP (p : List Blk) : Bool := decide ((∀ j, j < p.length → blkOk p j) ∧ numsOk (flatB p))
theorem mayP_blk {p : List Blk} {k : Nat} (hk : k < p.length) (h : ¬ blkOk p k) : mayP p = false := by
  unfold mayP
  rw [decide_eq_false_iff_not]
  exact fun h2 => h (h2.1 k hk)
theorem numsOk_prefix {l m : List Int} (h : l <+: m) (k : numsOk m) : numsOk l := by
  obtain ⟨r, rfl⟩ := h
  refine ⟨(List.nodup_append.1 k.1).1, fun v hv => k.2.1 v (List.mem_append_left _ hv), ?_⟩
  have := k.2.2
  simp at this
  omega
theorem mayP_num {p : List Blk} {l : List Int} (h : l <+: flatB p) (k : ¬ numsOk l) : mayP p = false := by
  unfold mayP
  rw [decide_eq_false_iff_not]
  exact fun h2 => k (numsOk_prefix h h2.2)
theorem nums_ent {S : List Int} {v : Int} (h : numsOk S) (k : entB S v = true) (hl : S.length < 1024) : numsOk (S ++ [v]) := by
  unfold entB at k
  rw [decide_eq_true_eq] at k
  refine ⟨?_, fun x hx => ?_, by simp; omega⟩
  · rw [List.nodup_append]
    exact ⟨h.1, by simp, fun z hz y hy e => by rw [List.mem_singleton] at hy; rw [hy] at e; rw [e] at hz; exact k.2.2 hz⟩
  · rcases List.mem_append.1 hx with hx | hx
    · exact h.2.1 x hx
    · rw [List.mem_singleton] at hx
      subst hx
      exact ⟨k.1, k.2.1⟩
theorem nums_noent {S : List Int} {v : Int} (k : entB S v = false) : ¬ numsOk (S ++ [v]) := by
  unfold entB at k
  rw [decide_eq_false_iff_not] at k
  intro h
  refine k ⟨(h.2.1 v (by simp)).1, (h.2.1 v (by simp)).2, fun hv => ?_⟩
  have := (List.nodup_append.1 h.1).2.2
  exact this v hv v (by simp) rfl
theorem nums_long {S : List Int} (h : 1024 < S.length) : ¬ numsOk S := fun k => by have := k.2.2; omega
theorem nums_nil : numsOk [] := ⟨List.nodup_nil, by simp, by simp⟩

def QuantPost (w : World) (p : List Blk) (e : Ending) (w' : World) : Prop :=
  Below w.heap.size w w' ∧ ((mayP p = true ∧ e = .returned (.tuple #[.map (some w.heap.size), .bool true]) ∧ SetI w' w.heap.size (flatB p)) ∨ (mayP p = false ∧ e = .returned (.tuple #[.map none, .bool false])))

theorem Kept.belowB {w w' : World} {b B : Nat} (h : Kept (fun i => i = b) w w') (hb : B ≤ b) (hB : B ≤ w.heap.size) : Below B w w' := h.below hB fun k hk e => by omega

end Go.Proofs.YtppglbffmgnooaaGreat

/- The reference's Has, Flat, single and May. -/
namespace Go.Proofs.YtppglbffmgnooaaGreat
open Go.RowKit
set_option linter.unusedVariables false
set_option linter.unusedSimpArgs false

theorem IsInts.upto {w : World} {a : Option Addr} {n cap : Nat} {l : List Int} (H : IsInts w (.slice a n cap) l) {j : Nat} (hj : j ≤ n) : IsInts w (.slice a j cap) (l.take j) := by
  obtain ⟨a', cap', e, ⟨h1, h2⟩, h3, h4, h64, b, off, ha, hc⟩ := H
  injection e with e1 e2 e3
  subst e1; subst e2; subst e3
  have hl : (l.take j).length = j := by simp; omega
  refine ⟨a, cap, by rw [hl], ⟨by rw [hl]; omega, h2⟩, h3, by rw [hl]; omega, fun x hx => h64 x (List.mem_of_mem_take hx), b, off, fun hne => ha fun h => hne (by rw [h]; simp), fun t ht => ?_⟩
  rw [hl] at ht
  rw [hc t (by omega)]
  simp only [List.getD, List.getElem?_take, if_pos ht]

end Go.Proofs.YtppglbffmgnooaaGreat

/- The reference's May. -/
namespace Go.Proofs.YtppglbffmgnooaaGreat
open Go.RowKit
set_option linter.unusedVariables false
set_option linter.unusedSimpArgs false

end Go.Proofs.YtppglbffmgnooaaGreat

/- prefix.magnitude, normal and mayCnf. -/
namespace Go.Proofs.YtppglbffmgnooaaGreat
open Go.RowKit
set_option linter.unusedVariables false
set_option linter.unusedSimpArgs false

end Go.Proofs.YtppglbffmgnooaaGreat

/- The reference's Abs, Normal and Cnf. -/
namespace Go.Proofs.YtppglbffmgnooaaGreat
open Go.RowKit
set_option linter.unusedVariables false
set_option linter.unusedSimpArgs false

end Go.Proofs.YtppglbffmgnooaaGreat

/- The reference's Part and within. -/
namespace Go.Proofs.YtppglbffmgnooaaGreat
open Go.RowKit
set_option linter.unusedVariables false
set_option linter.unusedSimpArgs false

theorem ints_take_succ {l : List Int} {k : Nat} (h : k < l.length) : l.take (k + 1) = l.take k ++ [l.getD k 0] := by
  rw [List.take_add_one, List.getElem?_eq_getElem h, List.getD_eq_getElem?_getD, List.getElem?_eq_getElem h]; rfl

theorem ints_getD_mem {l : List Int} {k : Nat} (h : k < l.length) : l.getD k 0 ∈ l := by
  rw [List.getD_eq_getElem?_getD, List.getElem?_eq_getElem h]; exact List.getElem_mem h

end Go.Proofs.YtppglbffmgnooaaGreat

/- prefix.isPart. -/
namespace Go.Proofs.YtppglbffmgnooaaGreat
open Go.RowKit
set_option linter.unusedVariables false
set_option linter.unusedSimpArgs false

end Go.Proofs.YtppglbffmgnooaaGreat

/- prefix.quantifiedByRows. -/
namespace Go.Proofs.YtppglbffmgnooaaGreat
open Go.RowKit
set_option linter.unusedVariables false
set_option linter.unusedSimpArgs false

/-- The number before place j of a list, 0 before the first. -/
def prevOf (l : List Int) (j : Nat) : Int := if j = 0 then 0 else l.getD (j - 1) 0
def riseAt (l : List Int) (j : Nat) : Prop := prevOf l j < l.getD j 0
end Go.Proofs.YtppglbffmgnooaaGreat

/- The reference's Rises. -/
namespace Go.Proofs.YtppglbffmgnooaaGreat
open Go.RowKit
set_option linter.unusedVariables false
set_option linter.unusedSimpArgs false

instance (l : List Int) (j : Nat) : Decidable (riseAt l j) := by unfold riseAt; exact inferInstance
end Go.Proofs.YtppglbffmgnooaaGreat

/- The reference's All. -/
namespace Go.Proofs.YtppglbffmgnooaaGreat
open Go.RowKit
set_option linter.unusedVariables false
set_option linter.unusedSimpArgs false

end Go.Proofs.YtppglbffmgnooaaGreat

/- A part of integers that came in, from a place on. -/
namespace Go.Proofs.YtppglbffmgnooaaGreat
open Go.RowKit
set_option linter.unusedVariables false
set_option linter.unusedSimpArgs false

theorem IsInts.from {w : World} {b off n cap : Nat} {l : List Int} (H : IsInts w (.slice (some ⟨b, off, none⟩) n cap) l) {i : Nat} (hi : i ≤ n) {A : Option Addr} (hA : A = if cap = i then some ⟨b, off, none⟩ else some ⟨b, off + i, none⟩) :
    IsInts w (.slice A (n - i) (cap - i)) (l.drop i) := by
  have hn : n = l.length := by obtain ⟨a', cap', e, _⟩ := H; injection e
  subst hn
  by_cases hc : cap = i
  · have h1 : l.length ≤ cap := by
      obtain ⟨a', cap', e, ⟨h1, _⟩, _⟩ := H
      injection e with _ _ e3
      subst e3
      exact h1
    have hl : l.drop i = [] := List.drop_eq_nil_of_le (by omega)
    have h0 : l.length - i = 0 := by omega
    rw [hA, if_pos hc, hl, h0]
    exact IsInts.none_of (by omega)
  · rw [hA, if_neg hc]
    exact H.drop hi

end Go.Proofs.YtppglbffmgnooaaGreat

/- Both sides' words for a valid Dqbf say the same. -/
namespace Go.Proofs.YtppglbffmgnooaaGreat
open Go.RowKit
set_option linter.unusedVariables false
set_option linter.unusedSimpArgs false

end Go.Proofs.YtppglbffmgnooaaGreat

/- prefix.occurring: an iterator over the variables of the literals of clauses, in order. -/
namespace Go.Proofs.YtppglbffmgnooaaGreat
open Go.RowKit Go.Shelf
set_option linter.unusedVariables false
set_option linter.unusedSimpArgs false
attribute [local go_sem] Oper.semAt_some

end Go.Proofs.YtppglbffmgnooaaGreat

/- prefix.mayCnfOf. -/
namespace Go.Proofs.YtppglbffmgnooaaGreat
open Go.RowKit Go.Shelf
set_option linter.unusedVariables false
set_option linter.unusedSimpArgs false
attribute [local go_sem] Oper.semAt_some

theorem SetI.grown {w w' : World} {row : Option Nat} {b : Nat} {S : List Int} (h : SetI w b S) (hg : w.grownBy w' row) (hne : row ≠ some b) : SetI w' b S := h.kept (Kept.of_grown hg) hne

end Go.Proofs.YtppglbffmgnooaaGreat

/- prefix.MayDqbf and MayQbf. -/
namespace Go.Proofs.YtppglbffmgnooaaGreat
open Go.RowKit
set_option linter.unusedVariables false
set_option linter.unusedSimpArgs false

end Go.Proofs.YtppglbffmgnooaaGreat

/- prefix.chosen over any predicate handed over. -/
namespace Go.Proofs.YtppglbffmgnooaaGreat
open Go.RowKit
set_option linter.unusedVariables false
set_option linter.unusedSimpArgs false

end Go.Proofs.YtppglbffmgnooaaGreat

/- prefix.variables: an iterator over the numbers in blocks, each with the index of its block. -/
namespace Go.Proofs.YtppglbffmgnooaaGreat
open Go.RowKit Go.Shelf
set_option linter.unusedVariables false
set_option linter.unusedSimpArgs false
attribute [local go_sem] Oper.semAt_some

end Go.Proofs.YtppglbffmgnooaaGreat

/- prefix.placesOf: a map from the variables of literals to the indices of their blocks. -/
namespace Go.Proofs.YtppglbffmgnooaaGreat
open Go.RowKit Go.Maps Go.Shelf
set_option linter.unusedVariables false
set_option linter.unusedSimpArgs false
attribute [local go_sem] Oper.semAt_some

/-- Block b is a map from magnitudes to indices, which says f. -/
def PlI (w : World) (b n : Nat) (f : Int → Option Int) : Prop :=
  ∃ D : DataW Unit, w.ownsMap Tryz.prog 187 (plainElem Tryz.prog 3) b n D ∧ IsMap D ∧ (∀ k, D.atKey (.int .u64 k) (.lit (.int .i64 0)) = .lit (.int .i64 ((f k).getD 0))) ∧ (∀ k, Maps.has D (.int .u64 k) = (f k).isSome)
theorem PlI.lt {w : World} {b n : Nat} {f : Int → Option Int} (h : PlI w b n f) : b < w.heap.size := by obtain ⟨D, h1, _⟩ := h; exact h1.lt
theorem PlI.kept {w w' : World} {b n : Nat} {f : Int → Option Int} {Q : Nat → Prop} (h : PlI w b n f) (k : Kept Q w w') (hb : ¬ Q b) : PlI w' b n f := by
  obtain ⟨D, h1, h2⟩ := h
  exact ⟨D, ownsMap_kept h1 k hb, h2⟩
theorem PlI.below {w w' : World} {b B n : Nat} {f : Int → Option Int} (h : PlI w b n f) (hb : Below B w w') (hB : w.heap.size ≤ B) : PlI w' b n f :=
  h.kept (Q := fun _ => False) ⟨hb.os, hb.tape, hb.output, hb.size, fun k hk _ => hb.block k (by omega)⟩ (fun h => h)
theorem PlI.grown {w w' : World} {row : Option Nat} {b n : Nat} {f : Int → Option Int} (h : PlI w b n f) (hg : w.grownBy w' row) (hne : row ≠ some b) : PlI w' b n f := h.kept (Kept.of_grown hg) hne
theorem PlI.made (w : World) : PlI (w.alloc (.map #[] 0)) w.heap.size 0 (fun _ => none) :=
  ⟨.map [], World.ownsMap_made w Tryz.prog 187 _, isMap_empty, fun k => rfl, fun k => rfl⟩
end Go.Proofs.YtppglbffmgnooaaGreat

/- prefix.Reduce. -/
namespace Go.Proofs.YtppglbffmgnooaaGreat
open Go.RowKit Go.Maps
set_option linter.unusedVariables false
set_option linter.unusedSimpArgs false

end Go.Proofs.YtppglbffmgnooaaGreat

/- prefix.Find. -/
namespace Go.Proofs.YtppglbffmgnooaaGreat
open Go.RowKit Go.Shelf
set_option linter.unusedVariables false
set_option linter.unusedSimpArgs false
attribute [local go_sem] Oper.semAt_some

theorem cell_far (w : World) {B b : Nat} (o : Nat) (u : Value) (h : ¬ B = b) : (w.setCell ⟨B, 0, none⟩ u).cell? ⟨b, o, none⟩ = w.cell? ⟨b, o, none⟩ := World.cell?_setCell_other w _ _ u (fun e => h (by injection e))
theorem frozen_far (w : World) {B b : Nat} (o : Nat) (u : Value) : (w.setCell ⟨B, 0, none⟩ u).frozen? ⟨b, o, none⟩ = w.frozen? ⟨b, o, none⟩ := by rw [World.frozen?_setCell]
theorem drew_cell (w : World) (a : Addr) : w.drew.cell? a = w.cell? a := rfl
theorem drew_frozen (w : World) (a : Addr) : w.drew.frozen? a = w.frozen? a := rfl
attribute [local go_sem] cell_far frozen_far drew_cell drew_frozen
end Go.Proofs.YtppglbffmgnooaaGreat
