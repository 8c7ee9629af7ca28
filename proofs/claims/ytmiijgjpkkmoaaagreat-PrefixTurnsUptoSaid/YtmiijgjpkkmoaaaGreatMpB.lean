/- Joined texts: PxTwo, PxSet, PxQuant, PxRMay, PxRMay2. -/
import Derived.Test.YtmiijgjpkkmoaaaGreatMgA
import Derived.Test.YtmiijgjpkkmoaaaGreatMgR
import Derived.Test.YtmiijgjpkkmoaaaGreatMapsB
import Derived.Deep.DeepCutAuto
/- Words for slices of structs of two fields, the second a list of integers. -/
namespace Go.Proofs.YtmiijgjpkkmoaaaGreat
open Go.RowKit
set_option linter.unusedVariables false

/-- The value is a slice that holds these rows: a plain value, and a slice of these integers. -/
def IsTwo {α : Type} (enc : α → Value) (d : α × List Int) (w : World) (v : Value) (l : List (α × List Int)) : Prop :=
  ∃ a cap, v = .slice a l.length cap ∧ (l.length ≤ cap ∧ (a = none → cap = 0)) ∧ cap ≤ 9223372036854775807 ∧ l.length ≤ 17592186044416 ∧
    ∃ b off, (l ≠ [] → a = some ⟨b, off, none⟩ ∧ b < w.heap.size) ∧ ∀ j, j < l.length → w.cell? ⟨b, off + j * 2, none⟩ = some (enc (l.getD j d).1) ∧ ∃ u, w.cell? ⟨b, off + j * 2 + 1, none⟩ = some u ∧ IsInts w u (l.getD j d).2
section
variable {α : Type} {enc : α → Value} {d : α × List Int}
theorem IsTwo.below {w w' : World} {B : Nat} {v : Value} {l : List (α × List Int)} (h : IsTwo enc d w v l) (hb : Below B w w') (hB : w.heap.size ≤ B) : IsTwo enc d w' v l := by
  obtain ⟨a, cap, h1, h2, h3, h4, b, off, ha, hc⟩ := h
  refine ⟨a, cap, h1, h2, h3, h4, b, off, fun hl => ⟨(ha hl).1, Nat.lt_of_lt_of_le (ha hl).2 hb.size⟩, fun j hj => ?_⟩
  have hlt : b < w.heap.size := (ha (by intro h; simp [h] at hj)).2
  rw [hb.cell (p := ⟨b, off + j * 2, none⟩) (Nat.lt_of_lt_of_le hlt hB), hb.cell (p := ⟨b, off + j * 2 + 1, none⟩) (Nat.lt_of_lt_of_le hlt hB)]
  obtain ⟨h5, u, hu, hi⟩ := hc j hj
  exact ⟨h5, u, hu, hi.below hb hB⟩
theorem IsTwo.quiet {w w' : World} {v : Value} {l : List (α × List Int)} (h : IsTwo enc d w v l) (hq : Quiet w w') : IsTwo enc d w' v l := h.below (hq.below _) (Nat.le_refl _)
theorem IsTwo.nil (w : World) : IsTwo enc d w (.slice none 0 0) [] := ⟨none, 0, rfl, ⟨Nat.le_refl _, fun _ => rfl⟩, by omega, by simp, 0, 0, fun h => absurd rfl h, fun j hj => absurd hj (Nat.not_lt_zero _)⟩
theorem IsTwo.shape {w : World} {v : Value} {l : List (α × List Int)} (h : IsTwo enc d w v l) : ∃ a cap, v = .slice a l.length cap ∧ l.length ≤ 17592186044416 := by
  obtain ⟨a, cap, e, _, _, h4, _⟩ := h; exact ⟨a, cap, e, h4⟩
theorem IsTwo.at {w : World} {a : Option Addr} {n cap : Nat} {l : List (α × List Int)} (h : IsTwo enc d w (.slice a n cap) l) {k : Nat} (hk : k < l.length) :
    ∃ b off u, a = some ⟨b, off, none⟩ ∧ b < w.heap.size ∧ w.cell? ⟨b, off + k * 2, none⟩ = some (enc (l.getD k d).1) ∧ w.cell? ⟨b, off + k * 2 + 1, none⟩ = some u ∧ IsInts w u (l.getD k d).2 := by
  obtain ⟨a', cap', e, _, _, _, b, off, ha, hc⟩ := h
  injection e with e1 e2 e3
  subst e1
  obtain ⟨h1, h2⟩ := ha (by intro h; simp [h] at hk)
  obtain ⟨h5, u, hu, hi⟩ := hc k hk
  exact ⟨b, off, u, h1, h2, h5, hu, hi⟩
theorem take_two {l : List (α × List Int)} {k : Nat} (h : k < l.length) : l.take (k + 1) = l.take k ++ [l.getD k d] := by rw [List.take_succ_eq_append_getElem h]; simp [List.getD, h]
end

theorem heapy (w : World) (o : Obj) (k : Nat) : (w.alloc o).heap[k]? = if k = w.heap.size then some o else w.heap[k]? := Array.getElem?_push
theorem cell_fresh {w : World} {c : Array Value} {T : TypeId} {i : Nat} {v : Value} (h : c[i]? = some v) : (w.alloc (.cells c T)).cell? ⟨w.heap.size, i, none⟩ = some v := by
  simp only [World.cell?, heapy]
  exact h
theorem cell_old {w : World} {o : Obj} {p : Addr} {v : Value} (h : w.cell? p = some v) : (w.alloc o).cell? p = some v :=
  ((Below.refl w.heap.size w).alloc (Nat.le_refl _) o).cell (World.block_lt_of_cell? w p h) |>.trans h
theorem cell_fresh2 {w : World} {o : Obj} {c : Array Value} {T : TypeId} {i : Nat} {v : Value} (h : c[i]? = some v) : ((w.alloc o).alloc (.cells c T)).cell? ⟨w.heap.size + 1, i, none⟩ = some v := by
  have := cell_fresh (w := w.alloc o) (T := T) h
  simpa using this

abbrev IsDeps := IsTwo (Value.int .i64) ((0 : Int), ([] : List Int))
abbrev IsBlocks := IsTwo Value.bool (false, ([] : List Int))

end Go.Proofs.YtmiijgjpkkmoaaaGreat

/- Sets of integers: maps from ints to bools that the call makes. prefix.enter. -/
namespace Go.Proofs.YtmiijgjpkkmoaaaGreat
open Go.RowKit Go.Maps
open Go.WideElems (Fit rd rg pl rd_val elemAt)
set_option linter.unusedVariables false
set_option linter.unusedSimpArgs false

theorem plain_bool (b : Bool) : plainElem (H := Unit) Tryz.prog 4 (.bool b) = some (.lit (.bool b), []) := plainElem_bool Tryz.underlying4 b
/-- Block b is a map that says 'true' of just these, each told once. -/
def SetI (w : World) (b : Nat) (S : List Int) : Prop :=
  S.Nodup ∧ ∃ D : DataW Unit, w.ownsMap Tryz.prog 3 (plainElem Tryz.prog 4) b S.length D ∧ (∀ k, D.atKey (.int .i64 k) (.lit (.bool false)) = .lit (.bool (decide (k ∈ S)))) ∧ (∀ k, Maps.has D (.int .i64 k) = decide (k ∈ S)) ∧ Maps.size D = S.length

theorem SetI.lt {w : World} {b : Nat} {S : List Int} (h : SetI w b S) : b < w.heap.size := by obtain ⟨_, D, h1, _⟩ := h; exact h1.lt
theorem SetI.kept {w w' : World} {b : Nat} {S : List Int} {Q : Nat → Prop} (h : SetI w b S) (k : Kept Q w w') (hb : ¬ Q b) : SetI w' b S := by
  obtain ⟨hn, D, h1, h2⟩ := h
  exact ⟨hn, D, ownsMap_kept h1 k hb, h2⟩
theorem SetI.below {w w' : World} {b B : Nat} {S : List Int} (h : SetI w b S) (hb : Below B w w') (hB : w.heap.size ≤ B) : SetI w' b S :=
  h.kept (Q := fun _ => False) ⟨hb.os, hb.tape, hb.output, hb.size, fun k hk _ => hb.block k (by omega)⟩ (fun h => h)
theorem SetI.made (w : World) : SetI (w.alloc (.map #[] 0)) w.heap.size [] :=
  ⟨List.nodup_nil, .map [], World.ownsMap_made w Tryz.prog 3 _, fun k => by simp; rfl, fun k => by simp; rfl, rfl⟩
theorem SetI.look {w : World} {b : Nat} {S : List Int} (h : SetI w b S) (hz : (zeroValue 4).run Tryz.prog w = .ok (.bool false) w) (k : Int) (hw : (Lit.int .i64 k).wf = true) : (Instr.lookup 83 (.map (some b)) (.int .i64 k) false).run Tryz.prog w = .ok (.bool (decide (k ∈ S))) w := by
  obtain ⟨_, D, h1, h2, _⟩ := h
  have hm : MapB Tryz.prog 3 4 w b S.length (fun k => decide (k ∈ S)) := ⟨D, h1, h1.isMap, h2⟩
  exact hm.look Tryz.underlying3 Tryz.underlying4 Tryz.underlying83 hz k hw
theorem SetI.len {w : World} {b : Nat} {S : List Int} (h : SetI w b S) (ty : TypeId) : (Builtin.len_ #[83] ty #[.map (some b)]).run Tryz.prog w = .ok (.int .i64 S.length) w := by
  obtain ⟨_, D, h1, _, _, h4⟩ := h
  rw [← h4]
  exact h1.len Tryz.underlying83 ty

/-- 'm[k]' at the operation. -/
theorem wpList_lookS {w : World} {b : Nat} {S : List Int} {ops : Array Oper} {rest : List Oper} {o : Oper} {a : Act} {Q : Exit → Act → World → Prop}
    (hg : o.guard = none) (m x : Operand) (hop : o.op = Op.lookup 83 m x false) (hz : (zeroValue 4).run Tryz.prog w = .ok (.bool false) w) (hm : a.eval m = .map (some b)) (h : SetI w b S) (k : Int) (hx : a.eval x = .int .i64 k) (hw : (Lit.int .i64 k).wf = true)
    (hQ : wpList Tryz.prog ops Q rest (a.put o.dst (.bool (decide (k ∈ S)))) w) : wpList Tryz.prog ops Q (o :: rest) a w := by
  refine wpList_plain hg fun K' hK' => ?_
  have hrun := h.look hz k hw
  unfold Oper.wp
  simp [execOp, hop, hm, hx, hrun, Result.andThen]
  exact hK' _ _ hQ
/-- 'm[k] = true' at the operation, k new. -/
theorem wpList_putS {w : World} {b : Nat} {S : List Int} {ops : Array Oper} {rest : List Oper} {o : Oper} {a : Act} {Q : Exit → Act → World → Prop}
    (hg : o.guard = none) (m x v : Operand) (hop : o.op = Op.mapUpdate 83 m x v) (hm : a.eval m = .map (some b)) (h : SetI w b S) (hn : S.length < maxLen) (k : Int) (hx : a.eval x = .int .i64 k) (hv : a.eval v = .bool true) (hw : (Lit.int .i64 k).wf = true) (hk : k ∉ S)
    (hQ : ∀ w', SetI w' b (S ++ [k]) → Kept (fun i => i = b) w w' → wpList Tryz.prog ops Q rest (a.put o.dst undef) w') : wpList Tryz.prog ops Q (o :: rest) a w := by
  obtain ⟨hnd, D, h1, h2, h3, h4⟩ := h
  have hD := h1.isMap
  have hT := h1.tidy (int_keyed Tryz.underlying3)
  refine wpList_mapUpdate_own w hg m x v 83 hop 3 4 (int_keyed Tryz.underlying3) Tryz.underlying83 _ b S.length D hm h1 hn _ _ (.int .i64 k) hx hv (keyOf_int_mk Tryz.underlying3 hw) _ [] (plain_bool true) fun w' h5 h6 => ?_
  refine hQ w' ⟨?_, D.put (.int .i64 k) (.lit (.bool true)), ?_, fun j => ?_, fun j => ?_, ?_⟩ ((Kept.of_grown h6).mono fun i _ e => (Option.some.inj e).symm)
  · rw [List.nodup_append]
    exact ⟨hnd, by simp, fun z hz y hy e => by rw [List.mem_singleton] at hy; rw [hy] at e; rw [e] at hz; exact hk hz⟩
  · rw [List.length_append]
    exact h5
  · by_cases e : j = k
    · subst e
      rw [atKey_put_same hD (show WideAt.IsKeyLit (Lit.int _ _) from trivial)]
      simp
    · rw [atKey_put_other (by simpa using e), h2]
      simp [e]
  · by_cases e : j = k
    · subst e
      rw [has_put_same hD (show WideAt.IsKeyLit (Lit.int _ _) from trivial)]
      simp
    · rw [has_put_other (by simpa using e), h3]
      simp [e]
  · rw [size_put hT, h3, h4]
    simp [hk]

/-- The number may be entered. -/
def entB (S : List Int) (v : Int) : Bool := decide (1 ≤ v ∧ v ≤ 65536 ∧ v ∉ S)
def EnterPost (w : World) (b : Nat) (S : List Int) (v : Int) (e : Ending) (w' : World) : Prop :=
  (entB S v = true ∧ e = .returned (.bool true) ∧ SetI w' b (S ++ [v]) ∧ Kept (fun i => i = b) w w') ∨ (entB S v = false ∧ e = .returned (.bool false) ∧ w' = w)

set_option maxHeartbeats 800000 in
set_option maxRecDepth 100000 in
theorem enter_any (b : Nat) (S : List Int) (v : Int) (w : World) (h : SetI w b S) (hn : S.length < 4000000) (h1 : -9223372036854775808 ≤ v) (h2 : v ≤ 9223372036854775807) :
    Calls Tryz.prog 62 #[.map (some b), .int .i64 v] w (EnterPost w b S v) := by
  have hz : ∀ W : World, (zeroValue 4).run Tryz.prog W = .ok (.bool false) W := fun _ => rfl
  have HZ := Lib.hid hz
  have HH := Lib.hid h
  have hw := i64w h1 h2
  have HW := Lib.hid hw
  clear hz h hw
  by_cases g1 : v < 1
  · have HE : Hid (entB S v = false) := by show _ = _; unfold entB; rw [decide_eq_false_iff_not]; omega
    go_enter Tryz.func62, Tryz.ntmps62
    go_wp2
    go_ret
    exact .inr ⟨HE.out, rfl, rfl⟩
  · by_cases g2 : 65536 < v
    · have HE : Hid (entB S v = false) := by show _ = _; unfold entB; rw [decide_eq_false_iff_not]; omega
      go_enter Tryz.func62, Tryz.ntmps62
      go_wp2
      go_ret
      exact .inr ⟨HE.out, rfl, rfl⟩
    · have hlk := HH.out.look (HZ.out w) v HW.out
      by_cases g3 : v ∈ S
      · have HE : Hid (entB S v = false) := by show _ = _; unfold entB; rw [decide_eq_false_iff_not]; exact fun h => h.2.2 g3
        have hd : decide (v ∈ S) = true := by simpa using g3
        rw [hd] at hlk
        clear hd g3
        go_enter Tryz.func62, Tryz.ntmps62
        go_wp2
        go_ret
        exact .inr ⟨HE.out, rfl, rfl⟩
      · have HE : Hid (entB S v = true) := by show _ = _; unfold entB; rw [decide_eq_true_eq]; exact ⟨by omega, by omega, g3⟩
        have hd : decide (v ∈ S) = false := by simpa using g3
        rw [hd] at hlk
        have G3 := Lib.hid g3
        clear hd g3
        go_enter Tryz.func62, Tryz.ntmps62
        go_wp2_with (at_mapUpdate; refine wpList_putS rfl _ _ _ rfl rfl HH.out (by unfold maxLen; omega) v rfl rfl HW.out G3.out ?_; intro w1 hs1 hk1)
        go_ret
        exact .inl ⟨HE.out, rfl, hs1, hk1⟩

end Go.Proofs.YtmiijgjpkkmoaaaGreat

/- prefix.quantified and May. -/
namespace Go.Proofs.YtmiijgjpkkmoaaaGreat
open Go.RowKit
set_option linter.unusedVariables false
set_option linter.unusedSimpArgs false

abbrev Blk := Bool × List Int
abbrev dB : Blk := (false, [])
def flatB {α : Type} (p : List (α × List Int)) : List Int := (p.map (fun x => x.2)).flatten
theorem flat_take_succ {α : Type} {d : α × List Int} {p : List (α × List Int)} {k : Nat} (h : k < p.length) : flatB (p.take (k + 1)) = flatB (p.take k) ++ (p.getD k d).2 := by
  rw [take_two (d := d) h]
  unfold flatB
  simp
theorem flat_prefix {α : Type} {d : α × List Int} {p : List (α × List Int)} {k : Nat} (h : k < p.length) (t : Nat) : flatB (p.take k) ++ (p.getD k d).2.take t <+: flatB p := by
  have h1 : flatB (p.take (k + 1)) ++ flatB (p.drop (k + 1)) = flatB p := by
    unfold flatB
    rw [← List.flatten_append, ← List.map_append, List.take_append_drop]
  rw [← h1, flat_take_succ (d := d) h, List.append_assoc]
  refine List.prefix_append_right_inj _ |>.2 ?_
  exact (List.take_prefix _ _).trans (List.prefix_append _ _)
/-- Block j has variables, and another quantifier than the one before. -/
def blkOk (p : List Blk) (j : Nat) : Prop := (p.getD j dB).2 ≠ [] ∧ (0 < j → (p.getD j dB).1 ≠ (p.getD (j - 1) dB).1)
def numsOk (l : List Int) : Prop := l.Nodup ∧ (∀ v ∈ l, 1 ≤ v ∧ v ≤ 65536) ∧ l.length ≤ 1024
instance (l : List Int) : Decidable (numsOk l) := by unfold numsOk; exact inferInstance
instance (p : List Blk) (j : Nat) : Decidable (blkOk p j) := by unfold blkOk; exact inferInstance
def mayP (p : List Blk) : Bool := decide ((∀ j, j < p.length → blkOk p j) ∧ numsOk (flatB p))
theorem mayP_blk {p : List Blk} {k : Nat} (hk : k < p.length) (h : ¬ blkOk p k) : mayP p = false := by
  unfold mayP
  rw [decide_eq_false_iff_not]
  exact fun h2 => h (h2.1 k hk)
theorem numsOk_prefix {l m : List Int} (h : l <+: m) (k : numsOk m) : numsOk l := by
  obtain ⟨r, rfl⟩ := h
  refine ⟨(List.nodup_append.1 k.1).1, fun v hv => k.2.1 v (List.mem_append_left _ hv), ?_⟩
  have := k.2.2
  simp at this
  omega
theorem mayP_num {p : List Blk} {l : List Int} (h : l <+: flatB p) (k : ¬ numsOk l) : mayP p = false := by
  unfold mayP
  rw [decide_eq_false_iff_not]
  exact fun h2 => k (numsOk_prefix h h2.2)
theorem nums_ent {S : List Int} {v : Int} (h : numsOk S) (k : entB S v = true) (hl : S.length < 1024) : numsOk (S ++ [v]) := by
  unfold entB at k
  rw [decide_eq_true_eq] at k
  refine ⟨?_, fun x hx => ?_, by simp; omega⟩
  · rw [List.nodup_append]
    exact ⟨h.1, by simp, fun z hz y hy e => by rw [List.mem_singleton] at hy; rw [hy] at e; rw [e] at hz; exact k.2.2 hz⟩
  · rcases List.mem_append.1 hx with hx | hx
    · exact h.2.1 x hx
    · rw [List.mem_singleton] at hx
      subst hx
      exact ⟨k.1, k.2.1⟩
theorem nums_noent {S : List Int} {v : Int} (k : entB S v = false) : ¬ numsOk (S ++ [v]) := by
  unfold entB at k
  rw [decide_eq_false_iff_not] at k
  intro h
  refine k ⟨(h.2.1 v (by simp)).1, (h.2.1 v (by simp)).2, fun hv => ?_⟩
  have := (List.nodup_append.1 h.1).2.2
  exact this v hv v (by simp) rfl
theorem nums_long {S : List Int} (h : 1024 < S.length) : ¬ numsOk S := fun k => by have := k.2.2; omega
theorem nums_nil : numsOk [] := ⟨List.nodup_nil, by simp, by simp⟩

theorem enter_yes (b : Nat) (S : List Int) (v : Int) (w : World) (h : SetI w b S) (hn : S.length < 4000000) (h1 : -9223372036854775808 ≤ v) (h2 : v ≤ 9223372036854775807) (hE : entB S v = true) :
    Calls Tryz.prog 62 #[.map (some b), .int .i64 v] w (fun e w' => e = .returned (.bool true) ∧ SetI w' b (S ++ [v]) ∧ Kept (fun i => i = b) w w') :=
  (enter_any b S v w h hn h1 h2).mono fun e w' k => by
    rcases k with ⟨_, k1, k2, k3⟩ | ⟨k1, _⟩
    · exact ⟨k1, k2, k3⟩
    · rw [hE] at k1; cases k1
theorem enter_no (b : Nat) (S : List Int) (v : Int) (w : World) (h : SetI w b S) (hn : S.length < 4000000) (h1 : -9223372036854775808 ≤ v) (h2 : v ≤ 9223372036854775807) (hE : entB S v = false) :
    Calls Tryz.prog 62 #[.map (some b), .int .i64 v] w (fun e w' => e = .returned (.bool false) ∧ w = w') :=
  (enter_any b S v w h hn h1 h2).mono fun e w' k => by
    rcases k with ⟨k1, _⟩ | ⟨_, k1, k2⟩
    · rw [hE] at k1; cases k1
    · exact ⟨k1, k2.symm⟩
def QuantPost (w : World) (p : List Blk) (e : Ending) (w' : World) : Prop :=
  Below w.heap.size w w' ∧ ((mayP p = true ∧ e = .returned (.tuple #[.map (some w.heap.size), .bool true]) ∧ SetI w' w.heap.size (flatB p)) ∨ (mayP p = false ∧ e = .returned (.tuple #[.map none, .bool false])))

theorem Kept.belowB {w w' : World} {b B : Nat} (h : Kept (fun i => i = b) w w') (hb : B ≤ b) (hB : B ≤ w.heap.size) : Below B w w' := h.below hB fun k hk e => by omega

set_option maxHeartbeats 3200000 in
set_option maxRecDepth 100000 in
theorem quantified_any (v : Value) (p : List Blk) (w : World) (H : IsBlocks w v p) (hp : p.length ≤ 4000000) :
    Calls Tryz.prog 55 #[v] w (QuantPost w p) := by
  obtain ⟨a, cap, rfl, hl⟩ := H.shape
  have HH := Lib.hid H
  have hb0 := (Below.refl w.heap.size w).alloc (Nat.le_refl _) (.map #[] 0)
  have hs0 := SetI.made w
  have HB0 := Lib.hid hb0
  have HS0 := Lib.hid hs0
  have hmm := @run_makeMap Tryz.prog
  clear H hb0 hs0
  go_enter Tryz.func55, Tryz.ntmps55
  go_wp2
  go_loopw [12] (fun i wr => ∃ k : Nat, k ≤ p.length ∧ i = .int .i64 k ∧ Below w.heap.size w wr ∧ SetI wr w.heap.size (flatB (p.take k)) ∧ numsOk (flatB (p.take k)) ∧ ∀ j, j < k → blkOk p j) (fun i _ => p.length - (intOf i).toNat)
  case atStart => exact ⟨0, Nat.zero_le _, rfl, HB0.out, by simpa [flatB] using HS0.out, by simpa [flatB] using nums_nil, fun j h => by omega⟩
  case round =>
    obtain ⟨k, hk, rfl, hbel, hset, hnums, hblk⟩ := hrel
    have hsz := hbel.size
    have HS := Lib.hid hset
    have HN := Lib.hid hnums
    have HK := Lib.hid hblk
    have HB := Lib.hid hbel
    by_cases hlt : k < p.length
    · obtain ⟨b, off, u, rfl, hb, hcx0, hcu0, HU0⟩ := HH.out.at hlt
      have hcx := (hbel.cell (p := ⟨b, off + k * 2, none⟩) hb).trans hcx0
      have hcu := (hbel.cell (p := ⟨b, off + k * 2 + 1, none⟩) hb).trans hcu0
      obtain ⟨ua, uc, rfl⟩ := HU0.shape
      have HU := Lib.hid HU0
      have HFT := Lib.hid (flat_take_succ (d := dB) hlt)
      have HPF := Lib.hid (fun t => flat_prefix (d := dB) hlt t)
      have HNB := Lib.hid (mayP_blk hlt)
      have HBD : Hid (blkOk p k ↔ (p.getD k dB).2 ≠ [] ∧ (0 < k → (p.getD k dB).1 ≠ (p.getD (k - 1) dB).1)) := Iff.rfl
      have hpr : Hid (0 < k → ∃ e, (p.getD (k - 1) dB).1 = e ∧ wr.cell? ⟨b, off + (k - 1) * 2, none⟩ = some (.bool e)) := by
        intro hk0
        obtain ⟨b', off', u', e1, hb', hc', _, _⟩ := HH.out.at (show k - 1 < p.length by omega)
        injection e1 with e1
        injection e1 with e1 e2 _
        subst e1; subst e2
        exact ⟨_, rfl, (hbel.cell (p := ⟨b, off + (k - 1) * 2, none⟩) hb).trans hc'⟩
      clear hcx0 hcu0 HU0 hset hnums hblk
      generalize p.getD k dB = y at *
      obtain ⟨y1, y2⟩ := y
      simp only at hcx hcu
      have hbw := hbel.alloc hsz (.cells #[.bool y1, .slice ua y2.length uc] 53)
      have hva0 : (wr.alloc (.cells #[.bool y1, .slice ua y2.length uc] 53)).cell? ⟨wr.heap.size, 0, none⟩ = some (.bool y1) := cell_fresh rfl
      have hva1 : (wr.alloc (.cells #[.bool y1, .slice ua y2.length uc] 53)).cell? ⟨wr.heap.size, 1, none⟩ = some (.slice ua y2.length uc) := cell_fresh rfl
      have hsa := HS.out.below ((Below.refl wr.heap.size wr).alloc (Nat.le_refl _) (.cells #[.bool y1, .slice ua y2.length uc] 53)) (Nat.le_refl _)
      have hpr2 : Hid (0 < k → ∃ e, (p.getD (k - 1) dB).1 = e ∧ (wr.alloc (.cells #[.bool y1, .slice ua y2.length uc] 53)).cell? ⟨b, off + (k - 1) * 2, none⟩ = some (.bool e)) := fun h => by
        obtain ⟨e, h1, h2⟩ := hpr.out h
        exact ⟨e, h1, cell_old h2⟩
      have HBW := Lib.hid hbw
      have HSA := Lib.hid hsa
      have HV0 := Lib.hid hva0
      have HV1 := Lib.hid hva1
      clear hpr hbel hbw hsa hva0 hva1
      go_upto_region 5 with fail
      clear hcx hcu
      generalize wr.alloc (.cells #[.bool y1, .slice ua y2.length uc] 53) = wa at *
      generalize wr.heap.size = g at *
      have hva0 := HV0.out
      have hva1 := HV1.out
      go_cut [35] (fun t wx => t = .bool (decide (¬ blkOk p k)) ∧ Quiet wa wx)
      case first =>
        by_cases hn0 : y2 = []
        · subst hn0
          have hd : decide (¬ blkOk p k) = true := by rw [decide_eq_true_eq, HBD.out]; simp
          have HD := Lib.hid hd
          clear hpr2 HU HFT HPF hd
          go_wp2_with fail
          go_quiet (fail)
          go_wp2
          go_meet
          exact ⟨by rw [HD.out], ⟨_, rfl⟩⟩
        · have hz : ((y2.length : Int) == 0) = false := by simpa using hn0
          cases k with
          | zero =>
            have hd : decide (¬ blkOk p 0) = false := by rw [decide_eq_false_iff_not, HBD.out]; simp [hn0]
            have HD := Lib.hid hd
            clear hpr2 HU HFT HPF hd hn0
            go_wp2_with fail
            go_quiet (fail)
            go_wp2
            go_meet
            exact ⟨by rw [HD.out], ⟨_, rfl⟩⟩
          | succ k' =>
            obtain ⟨e0, he0, hce⟩ := hpr2.out (by omega)
            have hi0 : (0 : Int) ≤ (k' : Int) := by omega
            have hi1 : (k' : Int) < (p.length : Int) := by omega
            have hi2 : (0 : Int) < (k' : Int) + 1 := by omega
            simp only [Nat.add_sub_cancel] at hce he0
            by_cases hee : y1 = e0
            · subst hee
              have hbb : (y1 == y1) = true := by simp
              have hd : decide (¬ blkOk p (k' + 1)) = true := by rw [decide_eq_true_eq, HBD.out]; exact fun h => h.2 (by omega) he0.symm
              have HD := Lib.hid hd
              clear hpr2 HU HFT HPF hd hn0 he0
              go_wp2_with fail
              go_quiet (fail)
              go_wp2
              go_meet
              exact ⟨by rw [HD.out], ⟨_, rfl⟩⟩
            · have hd : decide (¬ blkOk p (k' + 1)) = false := by rw [decide_eq_false_iff_not, HBD.out]; exact fun h => h ⟨hn0, fun _ e => hee (e.trans he0)⟩
              have HD := Lib.hid hd
              have h2 : (y1 = true ∧ e0 = false) ∨ (y1 = false ∧ e0 = true) := by cases y1 <;> cases e0 <;> simp at hee ⊢
              clear hpr2 HU HFT HPF hd hn0 he0 HBD hee HNB HBW HSA HV0 HV1
              rcases h2 with ⟨rfl, rfl⟩ | ⟨rfl, rfl⟩
              · go_wp2_with fail
                go_quiet (fail)
                go_wp2
                go_meet
                exact ⟨by rw [HD.out], ⟨_, rfl⟩⟩
              · go_wp2_with fail
                go_quiet (fail)
                go_wp2
                go_meet
                exact ⟨by rw [HD.out], ⟨_, rfl⟩⟩
      case rest =>
        obtain ⟨rfl, hqc⟩ := hcut
        have hbc := HBW.out.trans (hqc.below _)
        have hsc := HSA.out.below (hqc.below _) (Nat.le_refl _)
        have hvc := (hqc.cell _).trans hva1
        clear hva0 hva1 hpr2
        by_cases hok : blkOk p k
        · have hd : decide (¬ blkOk p k) = false := by rw [decide_eq_false_iff_not]; exact fun h => h hok
          rw [hd]
          have HOK := Lib.hid hok
          clear hd hok HNB HBD
          have HBC := Lib.hid hbc
          have HSC := Lib.hid hsc
          clear hbc hsc hqc
          obtain ⟨_, _, eU, _, _, hyl, h64, bu, ou, hau, hcu⟩ := HU.out
          injection eU with eU1 _ eU3
          subst eU1; subst eU3
          have HAU := Lib.hid hau
          have HCU := Lib.hid hcu
          have H64 := Lib.hid h64
          have hst0 : SetI wc w.heap.size (flatB (p.take k) ++ y2.take 0) := by simpa using HSC.out
          have hno0 : numsOk (flatB (p.take k) ++ y2.take 0) := by simpa using HN.out
          have HST0 := Lib.hid hst0
          have HNO0 := Lib.hid hno0
          clear hau hcu h64 hst0 hno0
          generalize wr = wq at *
          go_wp2
          go_loopw [39] (fun i wr => ∃ t : Nat, t ≤ y2.length ∧ i = .int .i64 t ∧ Below w.heap.size w wr ∧ SetI wr w.heap.size (flatB (p.take k) ++ y2.take t) ∧ numsOk (flatB (p.take k) ++ y2.take t)) (fun i _ => y2.length - (intOf i).toNat)
          case atStart => exact ⟨0, Nat.zero_le _, rfl, HBC.out, HST0.out, HNO0.out⟩
          case round =>
            obtain ⟨t, ht, rfl, hbt, hst, hno⟩ := hrel
            have hszt := hbt.size
            by_cases hlt2 : t < y2.length
            · obtain ⟨rfl, hbu⟩ := HAU.out (by intro h; simp [h] at hlt2)
              have hcv := (hbt.cell (p := ⟨bu, ou + t, none⟩) hbu).trans (HCU.out t hlt2)
              have hv64 := H64.out.at t hlt2
              have HTK : Hid (y2.take (t + 1) = y2.take t ++ [y2.getD t 0]) := by show _ = _; rw [List.take_succ_eq_append_getElem hlt2]; simp [List.getD, hlt2]
              have hsl := hno.2.2
              have hpx : flatB (p.take k) ++ y2.take (t + 1) <+: flatB p := HPF.out (t + 1)
              rw [HTK.out, ← List.append_assoc] at hpx
              have hbad := Lib.hid (fun h => mayP_num hpx h)
              clear hpx
              have hv1 := hv64.1
              have hv2 := hv64.2
              generalize y2.getD t 0 = v at *
              have HPREV := Lib.hid hno
              have HBT := Lib.hid hbt
              cases hE : entB (flatB (p.take k) ++ y2.take t) v with
              | false =>
                have hen := enter_no w.heap.size _ v wr hst (by omega) hv1 hv2 hE
                have HEN := Lib.hid hen
                have HM := Lib.hid (hbad.out (nums_noent hE))
                clear hen hst hno hE hbt hv64
                go_wp2_with (go_at_call 62; refine HEN.out.mono ?_; rintro e w1 ⟨rfl, rfl⟩)
                go_ret2
                exact ⟨HBT.out, .inr ⟨HM.out, rfl⟩⟩
              | true =>
                have hen := enter_yes w.heap.size _ v wr hst (by omega) hv1 hv2 hE
                have HEN := Lib.hid hen
                by_cases hbig : (flatB (p.take k) ++ y2.take t).length = 1024
                · have HM := Lib.hid (hbad.out (nums_long (by simp at hbig ⊢; omega)))
                  have hlx : ((flatB (p.take k) ++ y2.take t ++ [v]).length : Int) = 1025 := by simp at hbig ⊢; omega
                  clear hen hst hno hE hbt hv64 hbig
                  go_wp2_with (go_at_call 62; refine HEN.out.mono ?_; rintro e w1 ⟨rfl, hs1, hk1⟩; have hln := hs1.len 3; rw [hlx] at hln)
                  go_ret2
                  exact ⟨HBT.out.trans (hk1.belowB (Nat.le_refl _) hszt), .inr ⟨HM.out, rfl⟩⟩
                · have HNX := Lib.hid (nums_ent hno hE (by omega))
                  obtain ⟨n1, hn1, hn2⟩ : ∃ n1 : Nat, (flatB (p.take k) ++ y2.take t ++ [v]).length = n1 ∧ n1 ≤ 1024 := ⟨_, rfl, by simp at hbig hsl ⊢; omega⟩
                  have hlx : ((flatB (p.take k) ++ y2.take t ++ [v]).length : Int) = (n1 : Int) := by rw [hn1]
                  have hn3 : (n1 : Int) ≤ 1024 := by omega
                  clear hen hst hno hE hbt hv64 hbig
                  go_wp2_with (go_at_call 62; refine HEN.out.mono ?_; rintro e w1 ⟨rfl, hs1, hk1⟩; have hln := hs1.len 3; rw [hlx] at hln)
                  go_roundw
                  case rel => exact ⟨t + 1, by omega, by go_num, HBT.out.trans (hk1.belowB (Nat.le_refl _) hszt), by rw [HTK.out, ← List.append_assoc]; exact hs1, by rw [HTK.out, ← List.append_assoc]; exact HNX.out⟩
                  case measure => simp [intOf]; omega
            · have hte : t = y2.length := by omega
              subst hte
              rw [List.take_length] at hst hno
              have HFF : Hid (flatB (p.take (k + 1)) = flatB (p.take k) ++ y2) := HFT.out
              have HST := Lib.hid hst
              have HNO := Lib.hid hno
              have HBT := Lib.hid hbt
              clear hst hno hbt
              go_wp2
              go_roundw
              case rel => exact ⟨k + 1, by omega, by go_num, HBT.out, by rw [HFF.out]; exact HST.out, by rw [HFF.out]; exact HNO.out, fun j hj => by
                by_cases e : j = k
                · subst e; exact HOK.out
                · exact HK.out j (by omega)⟩
              case measure => simp [intOf]; omega
        · have hd : decide (¬ blkOk p k) = true := by rw [decide_eq_true_eq]; exact hok
          rw [hd]
          have HM := Lib.hid (HNB.out hok)
          clear hd hok
          go_wp2
          go_ret2
          exact ⟨hbc, .inr ⟨HM.out, rfl⟩⟩
    · have hke : k = p.length := by omega
      subst hke
      rw [List.take_length] at hset hnums
      have HM : Hid (mayP p = true) := by
        show _ = _
        unfold mayP
        rw [decide_eq_true_eq]
        exact ⟨hblk, hnums⟩
      have HF := Lib.hid hset
      clear hset hnums hblk HS HN HK
      go_wp2
      go_ret2
      exact ⟨hbel, .inl ⟨HM.out, rfl, HF.out⟩⟩

set_option maxHeartbeats 800000 in
theorem pmay_any (v : Value) (p : List Blk) (w : World) (H : IsBlocks w v p) (hp : p.length ≤ 4000000) :
    Calls Tryz.prog 22 #[v] w fun e w' => e = .returned (.bool (mayP p)) ∧ Below w.heap.size w w' := by
  have hq := quantified_any v p w H hp
  obtain ⟨a, cap, rfl, hl⟩ := H.shape
  unfold QuantPost at hq
  cases hm : mayP p with
  | false =>
    have hq2 : Calls Tryz.prog 55 #[.slice a p.length cap] w fun e w' => e = .returned (.tuple #[.map none, .bool false]) ∧ Below w.heap.size w w' := hq.mono fun e w' h => by
      obtain ⟨h1, ⟨h2, _⟩ | ⟨_, h2⟩⟩ := h
      · rw [hm] at h2; cases h2
      · exact ⟨h2, h1⟩
    have HQ := Lib.hid hq2
    clear hq hq2 H
    go_enter Tryz.func22, Tryz.ntmps22
    go_wp2_with (go_at_call 55; refine HQ.out.mono ?_; rintro e w1 ⟨rfl, hb1⟩)
    go_ret
    exact ⟨rfl, hb1⟩
  | true =>
    have hq2 : Calls Tryz.prog 55 #[.slice a p.length cap] w fun e w' => e = .returned (.tuple #[.map (some w.heap.size), .bool true]) ∧ Below w.heap.size w w' := hq.mono fun e w' h => by
      obtain ⟨h1, ⟨_, h2, _⟩ | ⟨h2, _⟩⟩ := h
      · exact ⟨h2, h1⟩
      · rw [hm] at h2; cases h2
    have HQ := Lib.hid hq2
    clear hq hq2 H
    go_enter Tryz.func22, Tryz.ntmps22
    go_wp2_with (go_at_call 55; refine HQ.out.mono ?_; rintro e w1 ⟨rfl, hb1⟩)
    go_ret
    exact ⟨rfl, hb1⟩

end Go.Proofs.YtmiijgjpkkmoaaaGreat

/- The reference's Has, Flat, single and May. -/
namespace Go.Proofs.YtmiijgjpkkmoaaaGreat
open Go.RowKit
set_option linter.unusedVariables false
set_option linter.unusedSimpArgs false

set_option maxHeartbeats 400000 in
theorem has3_any (v : Value) (l : List Int) (x : Int) (w : World) (H : IsInts w v l) (hx1 : -9223372036854775808 ≤ x) (hx2 : x ≤ 9223372036854775807) :
    Calls Tryz.prog 45 #[v, .int .i64 x] w fun e w' => e = .returned (.bool (memB l x)) ∧ w = w' := by
  obtain ⟨a, cap, rfl, _, _, hl, h64, b, off, ha, hc⟩ := H
  go_enter Tryz.func45, Tryz.ntmps45
  go_wp2
  go_loop [5] (fun i => ∃ k : Nat, k ≤ l.length ∧ i = .int .i64 k ∧ x ∉ l.take k) (fun i => l.length - (intOf i).toNat)
  case atStart => exact ⟨0, Nat.zero_le _, rfl, by simp⟩
  case round =>
    obtain ⟨k, hk, rfl, hn⟩ := hrel
    by_cases hlt : k < l.length
    · obtain ⟨rfl, hb⟩ := ha (by intro h; simp [h] at hlt)
      have hy := hc k hlt
      have hmem : l.getD k 0 ∈ l := by simp [List.getD, hlt]
      have htk : l.take (k + 1) = l.take k ++ [l.getD k 0] := by rw [List.take_succ_eq_append_getElem hlt]; simp [List.getD, hlt]
      have HT := Lib.hid htk
      generalize l.getD k 0 = y at *
      clear htk hc ha
      by_cases he : y = x
      · subst he
        have he : (y == y) = true := by simp
        clear HT
        go_wp2
        go_ret
        exact ⟨ret_bool (by unfold memB; simp [hmem]), rfl⟩
      · have he' : (y == x) = false := by simp [he]
        go_wp2
        go_round
        case rel => exact ⟨k + 1, by omega, by go_num, by rw [HT.out]; simp [hn, Ne.symm he]⟩
        case measure => simp [intOf]; omega
    · rw [List.take_of_length_le (by omega)] at hn
      go_wp2
      go_ret
      exact ⟨ret_bool (by unfold memB; simp [hn]), rfl⟩


theorem flat_take_len {α : Type} (p : List (α × List Int)) (k : Nat) : (flatB (p.take k)).length ≤ (flatB p).length := by
  have h1 : flatB (p.take k) ++ flatB (p.drop k) = flatB p := by
    unfold flatB
    rw [← List.flatten_append, ← List.map_append, List.take_append_drop]
  rw [← h1]
  simp

set_option maxHeartbeats 800000 in
set_option maxRecDepth 100000 in
theorem flat_any (v : Value) (p : List Blk) (w : World) (H : IsBlocks w v p) (hp : (flatB p).length ≤ 4000000) :
    Calls Tryz.prog 53 #[v] w fun e w' => ∃ u, e = .returned u ∧ Own w' w.heap.size u (flatB p) ∧ Below w.heap.size w w' := by
  obtain ⟨a, cap, rfl, hl⟩ := H.shape
  have HH := Lib.hid H
  have HP := Lib.hid hp
  clear H hp
  go_enter Tryz.func53, Tryz.ntmps53
  go_wp2
  go_loopw [3, 4] (fun out i wr => ∃ k : Nat, k ≤ p.length ∧ i = .int .i64 k ∧ Own wr w.heap.size out (flatB (p.take k)) ∧ Below w.heap.size w wr) (fun _ i _ => p.length - (intOf i).toNat)
  case atStart => exact ⟨0, Nat.zero_le _, rfl, by simpa [flatB] using Own.nil w w.heap.size, Below.refl _ _⟩
  case round =>
    obtain ⟨k, hk, rfl, hown, hbel⟩ := hrel
    have hsz := hbel.size
    by_cases hlt : k < p.length
    · obtain ⟨b, off, u, rfl, hb, hcx0, hcu0, HU0⟩ := HH.out.at hlt
      have hcu := (hbel.cell (p := ⟨b, off + k * 2 + 1, none⟩) hb).trans hcu0
      have HU := Lib.hid (HU0.below hbel (Nat.le_refl _))
      have HFT := Lib.hid (flat_take_succ (d := dB) hlt)
      have hlen : (flatB (p.take k)).length + (p.getD k dB).2.length ≤ 17592186044416 := by
        have h1 := flat_take_len p (k + 1)
        have h2 := HFT.out
        have h3 := HP.out
        rw [h2, List.length_append] at h1
        omega
      have HLN := Lib.hid hlen
      obtain ⟨ua, uc, rfl⟩ := HU0.shape
      clear hcx0 hcu0 HU0 hlen
      generalize p.getD k dB = y at *
      obtain ⟨y1, y2⟩ := y
      simp only at hcu
      have HB := Lib.hid hbel
      have HO := Lib.hid hown
      have HL2 : Hid ((flatB (p.take k)).length + y2.length ≤ 17592186044416) := HLN.out
      have HFT2 : Hid (flatB (p.take (k + 1)) = flatB (p.take k) ++ y2) := HFT.out
      have HU2 : Hid (IsInts wr (.slice ua y2.length uc) y2) := HU.out
      clear hbel hown HLN HFT HU
      go_wp2_with (at_builtin; refine wpList_app rfl (.tmp 11) (.tmp 16) rfl w.heap.size _ _ (flatB (p.take k)) y2 rfl rfl HO.out HU2.out HL2.out hsz ?_; intro v' w1 hown1 hg1)
      have HB1 := Lib.hid (below_app HB.out HO.out hsz hg1)
      have HO1 := Lib.hid hown1
      clear hown1 hg1
      go_roundw
      case rel => exact ⟨k + 1, by omega, by go_num, by rw [HFT2.out]; exact HO1.out, HB1.out⟩
      case measure => simp [intOf]; omega
    · have hke : k = p.length := by omega
      subst hke
      rw [List.take_length] at hown
      go_wp2
      go_ret
      exact ⟨_, rfl, hown, hbel⟩

theorem IsInts.upto {w : World} {a : Option Addr} {n cap : Nat} {l : List Int} (H : IsInts w (.slice a n cap) l) {j : Nat} (hj : j ≤ n) : IsInts w (.slice a j cap) (l.take j) := by
  obtain ⟨a', cap', e, ⟨h1, h2⟩, h3, h4, h64, b, off, ha, hc⟩ := H
  injection e with e1 e2 e3
  subst e1; subst e2; subst e3
  have hl : (l.take j).length = j := by simp; omega
  refine ⟨a, cap, by rw [hl], ⟨by rw [hl]; omega, h2⟩, h3, by rw [hl]; omega, fun x hx => h64 x (List.mem_of_mem_take hx), b, off, fun hne => ha fun h => hne (by rw [h]; simp), fun t ht => ?_⟩
  rw [hl] at ht
  rw [hc t (by omega)]
  simp only [List.getD, List.getElem?_take, if_pos ht]

def singleB (l : List Int) : Bool := decide (l.Nodup ∧ ∀ v ∈ l, 1 ≤ v ∧ v ≤ 65536)
theorem nodup_snoc {l : List Int} {x : Int} : (l ++ [x]).Nodup ↔ l.Nodup ∧ x ∉ l := by
  rw [List.nodup_append]
  constructor
  · rintro ⟨h1, _, h3⟩
    exact ⟨h1, fun hx => h3 x hx x (by simp) rfl⟩
  · rintro ⟨h1, h2⟩
    exact ⟨h1, by simp, fun z hz y hy e => by rw [List.mem_singleton] at hy; rw [hy] at e; rw [e] at hz; exact h2 hz⟩
theorem single_no {l : List Int} {k : Nat} (hk : k < l.length) (h : ¬ (1 ≤ l.getD k 0 ∧ l.getD k 0 ≤ 65536 ∧ l.getD k 0 ∉ l.take k)) : singleB l = false := by
  unfold singleB
  rw [decide_eq_false_iff_not]
  rintro ⟨h1, h2⟩
  have hm : l.getD k 0 ∈ l := getD_mem hk
  have e : l.take (k + 1) = l.take k ++ [l.getD k 0] := by rw [List.take_succ_eq_append_getElem hk]; simp [List.getD, hk]
  have h3 : (l.take (k + 1)).Nodup := h1.sublist (List.take_sublist _ _)
  rw [e, nodup_snoc] at h3
  exact h ⟨(h2 _ hm).1, (h2 _ hm).2, h3.2⟩

set_option maxHeartbeats 1600000 in
set_option maxRecDepth 100000 in
theorem single_any (v : Value) (l : List Int) (w : World) (H : IsInts w v l) :
    Calls Tryz.prog 49 #[v] w fun e w' => e = .returned (.bool (singleB l)) ∧ Quiet w w' := by
  have H0 := Lib.hid H
  obtain ⟨a, cap, rfl, hcap, _, hl, h64, b, off, ha, hc⟩ := H
  have HC := Lib.hid hc
  have HA := Lib.hid ha
  have H64 := Lib.hid h64
  clear hc ha h64
  go_enter Tryz.func49, Tryz.ntmps49
  go_wp2
  go_loopw [3] (fun i wr => ∃ k : Nat, k ≤ l.length ∧ i = .int .i64 k ∧ Quiet w wr ∧ ((l.take k).Nodup ∧ ∀ v ∈ l.take k, 1 ≤ v ∧ v ≤ 65536)) (fun i _ => l.length - (intOf i).toNat)
  case atStart => exact ⟨0, Nat.zero_le _, rfl, Quiet.refl _, by simp⟩
  case round =>
    obtain ⟨k, hk, rfl, hq, hn⟩ := hrel
    have HN := Lib.hid hn
    clear hn
    by_cases hlt : k < l.length
    · obtain ⟨rfl, hb⟩ := HA.out (by intro h; simp [h] at hlt)
      have hy := (hq.cell _).trans (HC.out k hlt)
      have h64k := H64.out.at k hlt
      have hy1 := h64k.1
      have hy2 := h64k.2
      have htk : l.take (k + 1) = l.take k ++ [l.getD k 0] := by rw [List.take_succ_eq_append_getElem hlt]; simp [List.getD, hlt]
      have HT := Lib.hid htk
      have HNO := Lib.hid (fun h => single_no hlt h)
      have hcall := fun n => has3_any (.slice (some ⟨b, off, none⟩) k cap) (l.take k) (l.getD k 0) (wr.drewN n) (((H0.out.quiet hq).drewN n).upto (by omega)) hy1 hy2
      have hk1 : (k : Int) ≤ (cap : Int) := by omega
      have hk2 : (0 : Int) ≤ (k : Int) := by omega
      have hk3 : (k : Int) < (l.length : Int) := by omega
      have hk4 : (k : Int) ≤ (l.length : Int) := by omega
      clear htk h64k
      generalize l.getD k 0 = y at *
      by_cases g1 : y < 1
      · have HM := Lib.hid (HNO.out (by omega))
        clear hcall
        go_wp2_with fail
        go_quiet (fail)
        go_wp2
        go_ret
        exact ⟨ret_bool HM.out.symm, hq.drewN _⟩
      · have g1' : decide (y < 1) = false := by simpa using g1
        by_cases g2 : 65536 < y
        · have HM := Lib.hid (HNO.out (by omega))
          clear hcall
          go_wp2_with fail
          go_quiet (fail)
          go_wp2
          go_ret
          exact ⟨ret_bool HM.out.symm, hq.drewN _⟩
        · have g2' : decide (65536 < y) = false := by simpa using g2
          by_cases g3 : y ∈ l.take k
          · have HM := Lib.hid (HNO.out (fun h => h.2.2 g3))
            have hm : memB (l.take k) y = true := by unfold memB; simpa using g3
            rw [hm] at hcall
            have HCL := Lib.hid hcall
            clear hcall hm g3
            go_wp2_with fail
            go_quiet ((go_at_call 45; exact quiet_left (HCL.out _)))
            go_wp2
            go_ret
            exact ⟨ret_bool HM.out.symm, hq.drewN _⟩
          · have hm : memB (l.take k) y = false := by unfold memB; simpa using g3
            have HNX : Hid ((l.take (k + 1)).Nodup ∧ ∀ v ∈ l.take (k + 1), 1 ≤ v ∧ v ≤ 65536) := by
              show _ ∧ _
              rw [HT.out, nodup_snoc]
              refine ⟨⟨HN.out.1, g3⟩, fun z hz => ?_⟩
              rcases List.mem_append.1 hz with hz | hz
              · exact HN.out.2 z hz
              · rw [List.mem_singleton] at hz
                subst hz
                omega
            rw [hm] at hcall
            have HCL := Lib.hid hcall
            clear hcall hm g3
            go_wp2_with fail
            go_quiet ((go_at_call 45; exact quiet_left (HCL.out _)))
            go_wp2
            go_roundw
            case rel => exact ⟨k + 1, by omega, by go_num, hq.drewN _, HNX.out⟩
            case measure => simp [intOf]; omega
    · have HM : Hid (singleB l = true) := by
        show _ = _
        have h := HN.out
        rw [List.take_of_length_le (by omega)] at h
        unfold singleB
        rw [decide_eq_true_eq]
        exact h
      go_wp2
      go_ret
      exact ⟨ret_bool HM.out.symm, hq⟩

end Go.Proofs.YtmiijgjpkkmoaaaGreat

/- The reference's May. -/
namespace Go.Proofs.YtmiijgjpkkmoaaaGreat
open Go.RowKit
set_option linter.unusedVariables false
set_option linter.unusedSimpArgs false

theorem mayP_single {p : List Blk} (h : ∀ j, j < p.length → blkOk p j) : mayP p = (decide ((flatB p).length ≤ 1024) && singleB (flatB p)) := by
  unfold mayP singleB numsOk
  rw [← Bool.decide_and, decide_eq_decide]
  constructor
  · rintro ⟨_, h1, h2, h3⟩; exact ⟨h3, h1, h2⟩
  · rintro ⟨h3, h1, h2⟩; exact ⟨h, h1, h2, h3⟩

set_option maxHeartbeats 3200000 in
set_option maxRecDepth 100000 in
theorem rmay_any (v : Value) (p : List Blk) (w : World) (H : IsBlocks w v p) (hp : p.length ≤ 4000000) (hf : (flatB p).length ≤ 4000000) (h64 : In64 (flatB p)) :
    Calls Tryz.prog 18 #[v] w fun e w' => e = .returned (.bool (mayP p)) ∧ Below w.heap.size w w' := by
  obtain ⟨a, cap, rfl, hl⟩ := H.shape
  have HH := Lib.hid H
  have HF := Lib.hid hf
  have H64 := Lib.hid h64
  clear H hf h64
  go_enter Tryz.func18, Tryz.ntmps18
  go_wp2
  go_loopw [3] (fun i wr => ∃ k : Nat, k ≤ p.length ∧ i = .int .i64 k ∧ Quiet w wr ∧ ∀ j, j < k → blkOk p j) (fun i _ => p.length - (intOf i).toNat)
  case atStart => exact ⟨0, Nat.zero_le _, rfl, Quiet.refl _, fun j h => by omega⟩
  case round =>
    obtain ⟨k, hk, rfl, hq, hblk⟩ := hrel
    have HK := Lib.hid hblk
    clear hblk
    by_cases hlt : k < p.length
    · obtain ⟨b, off, u, rfl, hb, hcx0, hcu0, HU0⟩ := HH.out.at hlt
      have hcx := (hq.cell _).trans hcx0
      have hcu := (hq.cell _).trans hcu0
      obtain ⟨ua, uc, rfl⟩ := HU0.shape
      have HNB := Lib.hid (mayP_blk hlt)
      have HBD : Hid (blkOk p k ↔ (p.getD k dB).2 ≠ [] ∧ (0 < k → (p.getD k dB).1 ≠ (p.getD (k - 1) dB).1)) := Iff.rfl
      have hpr : Hid (0 < k → ∃ e, (p.getD (k - 1) dB).1 = e ∧ wr.cell? ⟨b, off + (k - 1) * 2, none⟩ = some (.bool e)) := by
        intro hk0
        obtain ⟨b', off', u', e1, hb', hc', _, _⟩ := HH.out.at (show k - 1 < p.length by omega)
        injection e1 with e1
        injection e1 with e1 e2 _
        subst e1; subst e2
        exact ⟨_, rfl, (hq.cell _).trans hc'⟩
      have hi0 : (0 : Int) ≤ (k : Int) := by omega
      have hi1 : (k : Int) < (p.length : Int) := by omega
      clear hcx0 hcu0 HU0
      generalize p.getD k dB = y at *
      obtain ⟨y1, y2⟩ := y
      simp only at hcx hcu
      go_upto_region 4 with fail
      go_cut [35] (fun t wx => t = .bool (decide (¬ blkOk p k)) ∧ Quiet w wx)
      case first =>
        by_cases hn0 : y2 = []
        · subst hn0
          have hd : decide (¬ blkOk p k) = true := by rw [decide_eq_true_eq, HBD.out]; simp
          have HD := Lib.hid hd
          clear hpr hd
          go_wp2_with fail
          go_quiet (fail)
          go_wp2
          go_meet
          exact ⟨by rw [HD.out], hq.drewN _⟩
        · have hz : ((y2.length : Int) == 0) = false := by simpa using hn0
          cases k with
          | zero =>
            have hd : decide (¬ blkOk p 0) = false := by rw [decide_eq_false_iff_not, HBD.out]; simp [hn0]
            have HD := Lib.hid hd
            clear hpr hd hn0
            go_wp2_with fail
            go_quiet (fail)
            go_wp2
            go_meet
            exact ⟨by rw [HD.out], hq.drewN _⟩
          | succ k' =>
            obtain ⟨e0, he0, hce⟩ := hpr.out (by omega)
            have hi2 : (0 : Int) < (k' : Int) + 1 := by omega
            have hi3 : (0 : Int) ≤ (k' : Int) := by omega
            have hi4 : (k' : Int) < (p.length : Int) := by omega
            simp only [Nat.add_sub_cancel] at hce he0
            by_cases hee : y1 = e0
            · subst hee
              have hbb : (y1 == y1) = true := by simp
              have hd : decide (¬ blkOk p (k' + 1)) = true := by rw [decide_eq_true_eq, HBD.out]; exact fun h => h.2 (by omega) he0.symm
              have HD := Lib.hid hd
              clear hpr hd hn0 he0
              go_wp2_with fail
              go_quiet (fail)
              go_wp2
              go_meet
              exact ⟨by rw [HD.out], hq.drewN _⟩
            · have hd : decide (¬ blkOk p (k' + 1)) = false := by rw [decide_eq_false_iff_not, HBD.out]; exact fun h => h ⟨hn0, fun _ e => hee (e.trans he0)⟩
              have HD := Lib.hid hd
              have h2 : (y1 = true ∧ e0 = false) ∨ (y1 = false ∧ e0 = true) := by cases y1 <;> cases e0 <;> simp at hee ⊢
              clear hpr hd hn0 he0 HBD hee HNB
              rcases h2 with ⟨rfl, rfl⟩ | ⟨rfl, rfl⟩
              · go_wp2_with fail
                go_quiet (fail)
                go_wp2
                go_meet
                exact ⟨by rw [HD.out], hq.drewN _⟩
              · go_wp2_with fail
                go_quiet (fail)
                go_wp2
                go_meet
                exact ⟨by rw [HD.out], hq.drewN _⟩
      case rest =>
        obtain ⟨rfl, hqc⟩ := hcut
        clear hpr hcx hcu
        by_cases hok : blkOk p k
        · have hd : decide (¬ blkOk p k) = false := by rw [decide_eq_false_iff_not]; exact fun h => h hok
          rw [hd]
          have HOK := Lib.hid hok
          clear hd hok HNB HBD
          go_wp2
          go_roundw
          case rel => exact ⟨k + 1, by omega, by go_num, hqc, fun j hj => by
            by_cases e : j = k
            · subst e; exact HOK.out
            · exact HK.out j (by omega)⟩
          case measure => simp [intOf]; omega
        · have hd : decide (¬ blkOk p k) = true := by rw [decide_eq_true_eq]; exact hok
          rw [hd]
          have HM := Lib.hid (HNB.out hok)
          clear hd hok
          go_wp2
          go_ret
          exact ⟨ret_bool HM.out.symm, hqc.below _⟩
    · have hke : k = p.length := by omega
      subst hke
      have HM := Lib.hid (mayP_single HK.out)
      have hfl := flat_any _ p wr (HH.out.quiet hq) HF.out
      have HFL := Lib.hid hfl
      have hsg := fun (W : World) (u : Value) (h : IsInts W u (flatB p)) => single_any u (flatB p) W h
      have HFB := HF.out
      generalize flatB p = l at *
      clear hfl
      cases hs : singleB l with
      | true =>
        rw [hs] at hsg HM
        have HSG := Lib.hid hsg
        clear hsg hs
        by_cases hbig : l.length ≤ 1024
        · have hM : Hid (mayP p = true) := by show _ = _; rw [HM.out]; simp [hbig]
          go_wp2_with (first
            | (go_at_call 53; refine HFL.out.mono ?_; rintro e w1 ⟨u1, rfl, hown, hb1⟩; have hi1 := hown.ints (by omega) H64.out; obtain ⟨a1, c1, rfl⟩ := hi1.shape)
            | (go_at_call 49; refine (HSG.out w1 _ hi1).mono ?_; rintro e w2 ⟨rfl, hq2⟩))
          go_ret
          exact ⟨ret_bool hM.out.symm, ((hq.below w.heap.size).trans (hb1.mono (by rw [hq.size]; exact Nat.le_refl _))).trans (hq2.below _)⟩
        · have hM : Hid (mayP p = false) := by show _ = _; rw [HM.out]; simp; omega
          go_wp2_with (first
            | (go_at_call 53; refine HFL.out.mono ?_; rintro e w1 ⟨u1, rfl, hown, hb1⟩; have hi1 := hown.ints (by omega) H64.out; obtain ⟨a1, c1, rfl⟩ := hi1.shape))
          go_ret
          exact ⟨ret_bool hM.out.symm, (hq.below w.heap.size).trans (hb1.mono (by rw [hq.size]; exact Nat.le_refl _))⟩
      | false =>
        rw [hs] at hsg HM
        have HSG := Lib.hid hsg
        have hM : Hid (mayP p = false) := by show _ = _; rw [HM.out]; simp
        clear hsg hs
        by_cases hbig : l.length ≤ 1024
        · go_wp2_with (first
            | (go_at_call 53; refine HFL.out.mono ?_; rintro e w1 ⟨u1, rfl, hown, hb1⟩; have hi1 := hown.ints (by omega) H64.out; obtain ⟨a1, c1, rfl⟩ := hi1.shape)
            | (go_at_call 49; refine (HSG.out w1 _ hi1).mono ?_; rintro e w2 ⟨rfl, hq2⟩))
          go_ret
          exact ⟨ret_bool hM.out.symm, ((hq.below w.heap.size).trans (hb1.mono (by rw [hq.size]; exact Nat.le_refl _))).trans (hq2.below _)⟩
        · go_wp2_with (first
            | (go_at_call 53; refine HFL.out.mono ?_; rintro e w1 ⟨u1, rfl, hown, hb1⟩; have hi1 := hown.ints (by omega) H64.out; obtain ⟨a1, c1, rfl⟩ := hi1.shape))
          go_ret
          exact ⟨ret_bool hM.out.symm, (hq.below w.heap.size).trans (hb1.mono (by rw [hq.size]; exact Nat.le_refl _))⟩

end Go.Proofs.YtmiijgjpkkmoaaaGreat
