/- heap.Push and heap.Pop of asg.waiting in a field. -/
import Derived.Test.YtmhjpbhldaagmaaDoorMgE
import Derived.Deep.RegionLaw
namespace Go.Proofs.YtmhjpbhldaagmaaDoor
open Go.RowKit
set_option linter.unusedVariables false

/-- 'append(s, y)' at a named slice type t of ints. -/
theorem wpList_app1T {w : World} {ops : Array Oper} {rest : List Oper} {o : Oper} {a : Act} {Q : Exit → Act → World → Prop} (hgd : o.guard = none) (s x : Operand) (t : TypeId) (ht : Tryd.prog.underlying t = some (.slice 3))
    (ho : o.op = .call { callee := .builtin .append, args := #[s, x], argTypes := #[t, t] }) (B : Nat) (v : Value) (xs : List Int) (y : Int) (g : Nat)
    (hs : a.eval s = v) (hx : a.eval x = .slice (some ⟨g, 0, none⟩) 1 1) (hown : Own w B v xs) (hy : w.cell? ⟨g, 0, none⟩ = some (.int .i64 y)) (hlen : xs.length < 17592186044416) (hB : B ≤ w.heap.size)
    (h : ∀ v' w', Own w' B v' (xs ++ [y]) → w.grownBy w' v.ownBlock → (v'.ownBlock = v.ownBlock ∨ v'.ownBlock = some w.heap.size) → wpList Tryd.prog ops Q rest (a.put o.dst v') w') : wpList Tryd.prog ops Q (o :: rest) a w := by
  obtain ⟨i0, hi, hz0, hz1, hz2⟩ := info_parts info_int
  refine wpList_append_own_at _ hgd s x t ho B 3 i0 (.int .i64 0) 1 8 ht hi hz0 hz1 hz2 rfl (by decide) v xs.length _ hs hown ⟨g, 0, none⟩ 1 1 [.int .i64 y] hx (by simp) ?_ (by simp [Value.oneCell']) (by unfold maxLen; omega) (by omega) hB ?_
  · intro j u hj
    match j, hj with
    | 0, hj => simp at hj; subst hj; simpa [Addr.add] using hy
  · intro v' w' h1 h2 _ h3
    refine h v' w' ?_ h2 h3
    unfold Own
    rw [List.length_append, List.map_append]
    exact h1

/-- .. as a step of a region that draws its order. -/
theorem step_app1T {ops : Array Oper} {o : Oper} {a : Act} {w : World} {K : Act → World → Prop} {Q : Exit → Act → World → Prop} {E : Prop} (hg : o.guard = none) (s x : Operand) (t : TypeId) (ht : Tryd.prog.underlying t = some (.slice 3))
    (ho : o.op = .call { callee := .builtin .append, args := #[s, x], argTypes := #[t, t] }) (B : Nat) (v : Value) (xs : List Int) (y : Int) (g : Nat)
    (hs : a.eval s = v) (hx : a.eval x = .slice (some ⟨g, 0, none⟩) 1 1) (hown : Own w B v xs) (hy : w.cell? ⟨g, 0, none⟩ = some (.int .i64 y)) (hlen : xs.length < 17592186044416) (hB : B ≤ w.heap.size)
    (h : ∀ v' w', Own w' B v' (xs ++ [y]) → w.grownBy w' v.ownBlock → (v'.ownBlock = v.ownBlock ∨ v'.ownBlock = some w.heap.size) → K (a.put o.dst v') w') :
    if Region.wanted o (yielded ops a.tmps) = true then Oper.wp Tryd.prog o a w K Q else E := by
  have hw : Region.wanted o (yielded ops a.tmps) = true := by simp [Region.wanted, hg]
  rw [if_pos hw]
  obtain ⟨i0, hi, hz0, hz1, hz2⟩ := info_parts info_int
  obtain ⟨v', w', hr, h2, h3, h4, h5⟩ := run_append_own_at (P := Tryd.prog) w B t o.type 3 i0 (.int .i64 0) 1 8 ht hi hz0 hz1 hz2 rfl (by decide) v xs.length _ hown ⟨g, 0, none⟩ 1 1 [.int .i64 y] (by simp) (fun j u hj => by
    match j, hj with
    | 0, hj => simp at hj; subst hj; simpa [Addr.add] using hy) (by simp [Value.oneCell']) (by unfold maxLen; omega) (by omega) hB
  unfold Oper.wp execOp
  simp only [ho, resolve, invoke, builtin, Sem.run_bind, Sem.run_pure, Result.andThen_ok, List.map_toArray, List.map_cons, List.map_nil, hs, hx, hr]
  refine h v' w' ?_ h3 h5
  unfold Own
  rw [List.length_append, List.map_append]
  exact h2

theorem setCell_obj {w : World} {b o : Nat} {v : Value} {cs : Array Value} {T : TypeId} {fz : Nat × Nat} (h : w.heap[b]? = some (.cells cs T fz)) : (w.setCell ⟨b, o, none⟩ v).heap[b]? = some (.cells (cs.setIfInBounds o v) T fz) := by
  simp [World.setCell, Array.getElem?_modify, h]
/-- The field at offset po of the block pb, whose cells are cs, holds v. -/
def Fld (w : World) (pb po : Nat) (cs : Array Value) (T : TypeId) (v : Value) : Prop := w.heap[pb]? = some (.cells cs T (0, 0)) ∧ cs[po]? = some v
theorem Fld.lt {w : World} {pb po : Nat} {cs : Array Value} {T : TypeId} {v : Value} (h : Fld w pb po cs T v) : pb < w.heap.size := (Array.getElem?_eq_some_iff.1 h.1).1
theorem Fld.cell {w : World} {pb po : Nat} {cs : Array Value} {T : TypeId} {v : Value} (h : Fld w pb po cs T v) : w.cell? ⟨pb, po, none⟩ = some v := by
  simp [World.cell?, h.1, h.2]
theorem Fld.frozen {w : World} {pb po : Nat} {cs : Array Value} {T : TypeId} {v : Value} (h : Fld w pb po cs T v) : w.frozen? ⟨pb, po, none⟩ = false := by
  simp [World.frozen?, h.1]
theorem Fld.kept {S : Nat → Prop} {w w' : World} {pb po : Nat} {cs : Array Value} {T : TypeId} {v : Value} (h : Fld w pb po cs T v) (k : Kept S w w') (hS : ¬ S pb) : Fld w' pb po cs T v := ⟨(k.block pb h.lt hS).trans h.1, h.2⟩
theorem Fld.store {w : World} {pb po : Nat} {cs : Array Value} {T : TypeId} {v : Value} (h : Fld w pb po cs T v) (u : Value) : Fld (w.setCell ⟨pb, po, none⟩ u) pb po (cs.setIfInBounds po u) T u := by
  have hlt : po < cs.size := (Array.getElem?_eq_some_iff.1 h.2).1
  exact ⟨setCell_obj h.1, by simp [hlt]⟩
theorem Fld.heapEq {w w' : World} {pb po : Nat} {cs : Array Value} {T : TypeId} {v : Value} (h : Fld w pb po cs T v) (e : w'.heap = w.heap) : Fld w' pb po cs T v := ⟨by rw [e]; exact h.1, h.2⟩

/-- What becomes of a slice of the call's own in a field: it holds m, its row is the old one or new; but for the two blocks nothing has turned. -/
def FldNow (w : World) (B pb po : Nat) (cs : Array Value) (T : TypeId) (v : Value) (v' : Value) (m : List Int) (w' : World) : Prop :=
  Own w' B v' m ∧ Fld w' pb po (cs.setIfInBounds po v') T v' ∧ (v'.ownBlock = v.ownBlock ∨ ∃ g, v'.ownBlock = some g ∧ w.heap.size ≤ g) ∧ Kept (fun k => v.ownBlock = some k ∨ k = pb) w w'

set_option maxHeartbeats 1600000 in
set_option maxRecDepth 100000 in
theorem wpush_any (v : Value) (l : List Int) (x : Int) (B : Nat) (pb po : Nat) (cs : Array Value) (T : TypeId) (w : World) (H : Own w B v l) (hF : Fld w pb po cs T v) (hl : l.length ≤ 1000000) (hB : B ≤ w.heap.size) (hne : v.ownBlock ≠ some pb) :
    Calls Tryd.prog 202 #[.pointer (some ⟨pb, po, none⟩), .iface 3 (.int .i64 x)] w (fun e w' => ∃ v', e = .returned (.tuple #[]) ∧ FldNow w B pb po cs T v v' (l ++ [x]) w') := by
  have hpb := hF.lt
  have ha := hF.cell
  have hf := hF.frozen
  have HO := Lib.hid H
  have HF := Lib.hid hF
  have HNE := Lib.hid hne
  have HB := Lib.hid hB
  have HL := Lib.hid hl
  clear H hne hB hl hF
  have hta : ∀ w : World, (Instr.typeAssert (.iface 3 (.int .i64 x)) 20 3 false).run Tryd.prog w = .ok (.int .i64 x) w := fun _ => by kernel_rfl
  go_enter Tryd.func202, Tryd.ntmps202
  go_wp2_with fail
  go_region_law (refine step_app1T rfl (.tmp 7) (.tmp 10) 113 Tryd.underlying113 rfl B v l x w.heap.size rfl rfl (HO.out.alloc _) (by simp) (by have := HL.out; omega) (by have := HB.out; simp; omega) ?_; intro v' w1 hown1 hgr1 hloc1; obtain ⟨g', cap', rfl, _, _⟩ := hown1.at (by simp); have hk1 : Kept (fun k => v.ownBlock = some k) w w1 := (Kept.quiet _ (⟨1, rfl⟩ : Quiet w w.drew)).trans ((Kept.alloc _ _ _).trans (Kept.of_grown hgr1)); have hF1 := HF.out.kept hk1 HNE.out; have hc1 := hF1.cell; have hf1 := hF1.frozen; have HK1 := Lib.hid hk1; have HF1 := Lib.hid hF1; have HW1 := Lib.hid hown1; have HLC := Lib.hid hloc1; clear hk1 hF1 hown1 hloc1 hgr1)
  all_goals
    go_end0
    have hk1 := HK1.out
    have el : (l ++ [x]).length = l.length + 1 := by simp
    have hw := HW1.out
    rw [el] at hw
    have hlc := HLC.out
    have hg' : g' ≠ pb := by
      rcases hlc with h | h
      · exact fun e => HNE.out (by rw [← h, e]; rfl)
      · simp [Value.ownBlock] at h; omega
    refine ⟨_, rfl, (Kept.setCell w1 ⟨pb, po, none⟩ _).row hw (fun g hg => by simp [Value.ownBlock] at hg; subst hg; exact hg'), HF1.out.store _, ?_, ?_⟩
    · rcases hlc with h | h
      · exact Or.inl h
      · exact Or.inr ⟨_, h, by simp⟩
    · exact Kept.next (S := fun k => v.ownBlock = some k ∨ k = pb) (hk1.mono (fun k _ h => Or.inl h)) (Kept.setCell w1 ⟨pb, po, none⟩ _) (fun i _ h => Or.inr h)

/-- The slice shortened by one. -/
theorem Own.init {w : World} {B g n c : Nat} {xs : List Int} {x : Int} (h : Own w B (.slice (some ⟨g, 0, none⟩) n c) (xs ++ [x])) : Own w B (.slice (some ⟨g, 0, none⟩) xs.length c) xs := by
  refine ⟨by simp, ?_⟩
  rcases h.2 with ⟨hv, _⟩ | ⟨g', cap, cur, hv, hB, hg, hnc, hcm, hcs, htk⟩
  · cases hv
  · simp at hv
    obtain ⟨rfl, rfl, rfl⟩ := hv
    refine .inr ⟨g, c, cur, rfl, hB, hg, by simp at hnc; omega, hcm, hcs, ?_⟩
    have := congrArg (List.take xs.length) htk
    rw [List.take_take] at this
    simp at this ⊢
    exact this
theorem last_of {l : List Int} {n : Nat} (h : l.length = n + 1) : l = l.take n ++ [l.getD n 0] := by
  have e : l.take (n + 1) = l.take n ++ [l.getD n 0] := by rw [List.take_succ_eq_append_getElem (by omega)]; simp [List.getD, show n < l.length by omega]
  rw [← e, List.take_of_length_le (by omega)]

set_option maxHeartbeats 1600000 in
set_option maxRecDepth 100000 in
theorem wpop_any (g cap : Nat) (l : List Int) (x : Int) (B : Nat) (pb po : Nat) (cs : Array Value) (T : TypeId) (w : World) (H : Own w B (.slice (some ⟨g, 0, none⟩) (l.length + 1) cap) (l ++ [x])) (hF : Fld w pb po cs T (.slice (some ⟨g, 0, none⟩) (l.length + 1) cap)) (hl : l.length ≤ 1000000) (hne : g ≠ pb) :
    Calls Tryd.prog 201 #[.pointer (some ⟨pb, po, none⟩)] w (fun e w' => e = .returned (.iface 3 (.int .i64 x)) ∧ FldNow w B pb po cs T (.slice (some ⟨g, 0, none⟩) (l.length + 1) cap) (.slice (some ⟨g, 0, none⟩) l.length cap) l w') := by
  have hpb := hF.lt
  have ha := hF.cell
  have hf := hF.frozen
  have hx := H.cell l.length (by simp)
  rw [show (l ++ [x]).getD l.length 0 = x from by simp] at hx
  have hcap : l.length + 1 ≤ cap := by
    rcases H.2 with ⟨hv, _⟩ | ⟨g', cap', cur, hv, hB, hg, hnc, hcm, hcs, htk⟩
    · cases hv
    · simp at hv hnc
      omega
  have hI := H.init
  have hres := (Kept.setCell w ⟨pb, po, none⟩ (.slice (some ⟨g, 0, none⟩) l.length cap)).row hI (fun k hk => by simp [Value.ownBlock] at hk; subst hk; exact hne)
  have HR : Hid (FldNow w B pb po cs T (.slice (some ⟨g, 0, none⟩) (l.length + 1) cap) (.slice (some ⟨g, 0, none⟩) l.length cap) l (w.setCell ⟨pb, po, none⟩ (.slice (some ⟨g, 0, none⟩) l.length cap))) :=
    ⟨hres, hF.store _, Or.inl rfl, (Kept.setCell w ⟨pb, po, none⟩ _).mono fun k _ h => Or.inr h⟩
  clear H hF hI hres
  go_enter Tryd.func201, Tryd.ntmps201
  go_wp2
  go_ret
  exact ⟨rfl, HR.out⟩

end Go.Proofs.YtmhjpbhldaagmaaDoor
