/- Joined texts: HeapO, HeapQ, HeapR. -/
import Derived.Test.YtmhjpbhldaagmaaDoorMgE
import Derived.Deep.RegionLaw
/- heap.Push and heap.Pop of asg.waiting in a field. -/
namespace Go.Proofs.YtmhjpbhldaagmaaDoor
open Go.RowKit
set_option linter.unusedVariables false

/-- 'append(s, y)' at a named slice type t of ints. -/
theorem wpList_app1T {w : World} {ops : Array Oper} {rest : List Oper} {o : Oper} {a : Act} {Q : Exit → Act → World → Prop} (hgd : o.guard = none) (s x : Operand) (t : TypeId) (ht : Tryd.prog.underlying t = some (.slice 3))
    (ho : o.op = .call { callee := .builtin .append, args := #[s, x], argTypes := #[t, t] }) (B : Nat) (v : Value) (xs : List Int) (y : Int) (g : Nat)
    (hs : a.eval s = v) (hx : a.eval x = .slice (some ⟨g, 0, none⟩) 1 1) (hown : Own w B v xs) (hy : w.cell? ⟨g, 0, none⟩ = some (.int .i64 y)) (hlen : xs.length < 17592186044416) (hB : B ≤ w.heap.size)
    (h : ∀ v' w', Own w' B v' (xs ++ [y]) → w.grownBy w' v.ownBlock → (v'.ownBlock = v.ownBlock ∨ v'.ownBlock = some w.heap.size) → wpList Tryd.prog ops Q rest (a.put o.dst v') w') : wpList Tryd.prog ops Q (o :: rest) a w := by
  obtain ⟨i0, hi, hz0, hz1, hz2⟩ := info_parts info_int
  refine wpList_append_own_at _ hgd s x t ho B 3 i0 (.int .i64 0) 1 8 ht hi hz0 hz1 hz2 rfl (by decide) v xs.length _ hs hown ⟨g, 0, none⟩ 1 1 [.int .i64 y] hx (by simp) ?_ (by simp [Value.oneCell']) (by unfold maxLen; omega) (by omega) hB ?_
  · intro j u hj
    match j, hj with
    | 0, hj => simp at hj; subst hj; simpa [Addr.add] using hy
  · intro v' w' h1 h2 _ h3
    refine h v' w' ?_ h2 h3
    unfold Own
    rw [List.length_append, List.map_append]
    exact h1

/-- .. as a step of a region that draws its order. -/
theorem step_app1T {ops : Array Oper} {o : Oper} {a : Act} {w : World} {K : Act → World → Prop} {Q : Exit → Act → World → Prop} {E : Prop} (hg : o.guard = none) (s x : Operand) (t : TypeId) (ht : Tryd.prog.underlying t = some (.slice 3))
    (ho : o.op = .call { callee := .builtin .append, args := #[s, x], argTypes := #[t, t] }) (B : Nat) (v : Value) (xs : List Int) (y : Int) (g : Nat)
    (hs : a.eval s = v) (hx : a.eval x = .slice (some ⟨g, 0, none⟩) 1 1) (hown : Own w B v xs) (hy : w.cell? ⟨g, 0, none⟩ = some (.int .i64 y)) (hlen : xs.length < 17592186044416) (hB : B ≤ w.heap.size)
    (h : ∀ v' w', Own w' B v' (xs ++ [y]) → w.grownBy w' v.ownBlock → (v'.ownBlock = v.ownBlock ∨ v'.ownBlock = some w.heap.size) → K (a.put o.dst v') w') :
    if Region.wanted o (yielded ops a.tmps) = true then Oper.wp Tryd.prog o a w K Q else E := by
  have hw : Region.wanted o (yielded ops a.tmps) = true := by simp [Region.wanted, hg]
  rw [if_pos hw]
  obtain ⟨i0, hi, hz0, hz1, hz2⟩ := info_parts info_int
  obtain ⟨v', w', hr, h2, h3, h4, h5⟩ := run_append_own_at (P := Tryd.prog) w B t o.type 3 i0 (.int .i64 0) 1 8 ht hi hz0 hz1 hz2 rfl (by decide) v xs.length _ hown ⟨g, 0, none⟩ 1 1 [.int .i64 y] (by simp) (fun j u hj => by
    match j, hj with
    | 0, hj => simp at hj; subst hj; simpa [Addr.add] using hy) (by simp [Value.oneCell']) (by unfold maxLen; omega) (by omega) hB
  unfold Oper.wp execOp
  simp only [ho, resolve, invoke, builtin, Sem.run_bind, Sem.run_pure, Result.andThen_ok, List.map_toArray, List.map_cons, List.map_nil, hs, hx, hr]
  refine h v' w' ?_ h3 h5
  unfold Own
  rw [List.length_append, List.map_append]
  exact h2

theorem setCell_obj {w : World} {b o : Nat} {v : Value} {cs : Array Value} {T : TypeId} {fz : Nat × Nat} (h : w.heap[b]? = some (.cells cs T fz)) : (w.setCell ⟨b, o, none⟩ v).heap[b]? = some (.cells (cs.setIfInBounds o v) T fz) := by
  simp [World.setCell, Array.getElem?_modify, h]
/-- The field at offset po of the block pb, whose cells are cs, holds v. -/
def Fld (w : World) (pb po : Nat) (cs : Array Value) (T : TypeId) (v : Value) : Prop := w.heap[pb]? = some (.cells cs T (0, 0)) ∧ cs[po]? = some v
theorem Fld.lt {w : World} {pb po : Nat} {cs : Array Value} {T : TypeId} {v : Value} (h : Fld w pb po cs T v) : pb < w.heap.size := (Array.getElem?_eq_some_iff.1 h.1).1
theorem Fld.cell {w : World} {pb po : Nat} {cs : Array Value} {T : TypeId} {v : Value} (h : Fld w pb po cs T v) : w.cell? ⟨pb, po, none⟩ = some v := by
  simp [World.cell?, h.1, h.2]
theorem Fld.frozen {w : World} {pb po : Nat} {cs : Array Value} {T : TypeId} {v : Value} (h : Fld w pb po cs T v) : w.frozen? ⟨pb, po, none⟩ = false := by
  simp [World.frozen?, h.1]
theorem Fld.kept {S : Nat → Prop} {w w' : World} {pb po : Nat} {cs : Array Value} {T : TypeId} {v : Value} (h : Fld w pb po cs T v) (k : Kept S w w') (hS : ¬ S pb) : Fld w' pb po cs T v := ⟨(k.block pb h.lt hS).trans h.1, h.2⟩
theorem Fld.store {w : World} {pb po : Nat} {cs : Array Value} {T : TypeId} {v : Value} (h : Fld w pb po cs T v) (u : Value) : Fld (w.setCell ⟨pb, po, none⟩ u) pb po (cs.setIfInBounds po u) T u := by
  have hlt : po < cs.size := (Array.getElem?_eq_some_iff.1 h.2).1
  exact ⟨setCell_obj h.1, by simp [hlt]⟩
theorem Fld.heapEq {w w' : World} {pb po : Nat} {cs : Array Value} {T : TypeId} {v : Value} (h : Fld w pb po cs T v) (e : w'.heap = w.heap) : Fld w' pb po cs T v := ⟨by rw [e]; exact h.1, h.2⟩

/-- What becomes of a slice of the call's own in a field: it holds m, its row is the old one or new; but for the two blocks nothing has turned. -/
def FldNow (w : World) (B pb po : Nat) (cs : Array Value) (T : TypeId) (v : Value) (v' : Value) (m : List Int) (w' : World) : Prop :=
  Own w' B v' m ∧ Fld w' pb po (cs.setIfInBounds po v') T v' ∧ (v'.ownBlock = v.ownBlock ∨ ∃ g, v'.ownBlock = some g ∧ w.heap.size ≤ g) ∧ Kept (fun k => v.ownBlock = some k ∨ k = pb) w w'

set_option maxHeartbeats 1600000 in
set_option maxRecDepth 100000 in
theorem wpush_any (v : Value) (l : List Int) (x : Int) (B : Nat) (pb po : Nat) (cs : Array Value) (T : TypeId) (w : World) (H : Own w B v l) (hF : Fld w pb po cs T v) (hl : l.length ≤ 1000000) (hB : B ≤ w.heap.size) (hne : v.ownBlock ≠ some pb) :
    Calls Tryd.prog 202 #[.pointer (some ⟨pb, po, none⟩), .iface 3 (.int .i64 x)] w (fun e w' => ∃ v', e = .returned (.tuple #[]) ∧ FldNow w B pb po cs T v v' (l ++ [x]) w') := by
  have hpb := hF.lt
  have ha := hF.cell
  have hf := hF.frozen
  have HO := Lib.hid H
  have HF := Lib.hid hF
  have HNE := Lib.hid hne
  have HB := Lib.hid hB
  have HL := Lib.hid hl
  clear H hne hB hl hF
  have hta : ∀ w : World, (Instr.typeAssert (.iface 3 (.int .i64 x)) 20 3 false).run Tryd.prog w = .ok (.int .i64 x) w := fun _ => by kernel_rfl
  go_enter Tryd.func202, Tryd.ntmps202
  go_wp2_with fail
  go_region_law (refine step_app1T rfl (.tmp 7) (.tmp 10) 113 Tryd.underlying113 rfl B v l x w.heap.size rfl rfl (HO.out.alloc _) (by simp) (by have := HL.out; omega) (by have := HB.out; simp; omega) ?_; intro v' w1 hown1 hgr1 hloc1; obtain ⟨g', cap', rfl, _, _⟩ := hown1.at (by simp); have hk1 : Kept (fun k => v.ownBlock = some k) w w1 := (Kept.quiet _ (⟨1, rfl⟩ : Quiet w w.drew)).trans ((Kept.alloc _ _ _).trans (Kept.of_grown hgr1)); have hF1 := HF.out.kept hk1 HNE.out; have hc1 := hF1.cell; have hf1 := hF1.frozen; have HK1 := Lib.hid hk1; have HF1 := Lib.hid hF1; have HW1 := Lib.hid hown1; have HLC := Lib.hid hloc1; clear hk1 hF1 hown1 hloc1 hgr1)
  all_goals
    go_end0
    have hk1 := HK1.out
    have el : (l ++ [x]).length = l.length + 1 := by simp
    have hw := HW1.out
    rw [el] at hw
    have hlc := HLC.out
    have hg' : g' ≠ pb := by
      rcases hlc with h | h
      · exact fun e => HNE.out (by rw [← h, e]; rfl)
      · simp [Value.ownBlock] at h; omega
    refine ⟨_, rfl, (Kept.setCell w1 ⟨pb, po, none⟩ _).row hw (fun g hg => by simp [Value.ownBlock] at hg; subst hg; exact hg'), HF1.out.store _, ?_, ?_⟩
    · rcases hlc with h | h
      · exact Or.inl h
      · exact Or.inr ⟨_, h, by simp⟩
    · exact Kept.next (S := fun k => v.ownBlock = some k ∨ k = pb) (hk1.mono (fun k _ h => Or.inl h)) (Kept.setCell w1 ⟨pb, po, none⟩ _) (fun i _ h => Or.inr h)

/-- The slice shortened by one. -/
theorem Own.init {w : World} {B g n c : Nat} {xs : List Int} {x : Int} (h : Own w B (.slice (some ⟨g, 0, none⟩) n c) (xs ++ [x])) : Own w B (.slice (some ⟨g, 0, none⟩) xs.length c) xs := by
  refine ⟨by simp, ?_⟩
  rcases h.2 with ⟨hv, _⟩ | ⟨g', cap, cur, hv, hB, hg, hnc, hcm, hcs, htk⟩
  · cases hv
  · simp at hv
    obtain ⟨rfl, rfl, rfl⟩ := hv
    refine .inr ⟨g, c, cur, rfl, hB, hg, by simp at hnc; omega, hcm, hcs, ?_⟩
    have := congrArg (List.take xs.length) htk
    rw [List.take_take] at this
    simp at this ⊢
    exact this
theorem last_of {l : List Int} {n : Nat} (h : l.length = n + 1) : l = l.take n ++ [l.getD n 0] := by
  have e : l.take (n + 1) = l.take n ++ [l.getD n 0] := by rw [List.take_succ_eq_append_getElem (by omega)]; simp [List.getD, show n < l.length by omega]
  rw [← e, List.take_of_length_le (by omega)]

set_option maxHeartbeats 1600000 in
set_option maxRecDepth 100000 in
theorem wpop_any (g cap : Nat) (l : List Int) (x : Int) (B : Nat) (pb po : Nat) (cs : Array Value) (T : TypeId) (w : World) (H : Own w B (.slice (some ⟨g, 0, none⟩) (l.length + 1) cap) (l ++ [x])) (hF : Fld w pb po cs T (.slice (some ⟨g, 0, none⟩) (l.length + 1) cap)) (hl : l.length ≤ 1000000) (hne : g ≠ pb) :
    Calls Tryd.prog 201 #[.pointer (some ⟨pb, po, none⟩)] w (fun e w' => e = .returned (.iface 3 (.int .i64 x)) ∧ FldNow w B pb po cs T (.slice (some ⟨g, 0, none⟩) (l.length + 1) cap) (.slice (some ⟨g, 0, none⟩) l.length cap) l w') := by
  have hpb := hF.lt
  have ha := hF.cell
  have hf := hF.frozen
  have hx := H.cell l.length (by simp)
  rw [show (l ++ [x]).getD l.length 0 = x from by simp] at hx
  have hcap : l.length + 1 ≤ cap := by
    rcases H.2 with ⟨hv, _⟩ | ⟨g', cap', cur, hv, hB, hg, hnc, hcm, hcs, htk⟩
    · cases hv
    · simp at hv hnc
      omega
  have hI := H.init
  have hres := (Kept.setCell w ⟨pb, po, none⟩ (.slice (some ⟨g, 0, none⟩) l.length cap)).row hI (fun k hk => by simp [Value.ownBlock] at hk; subst hk; exact hne)
  have HR : Hid (FldNow w B pb po cs T (.slice (some ⟨g, 0, none⟩) (l.length + 1) cap) (.slice (some ⟨g, 0, none⟩) l.length cap) l (w.setCell ⟨pb, po, none⟩ (.slice (some ⟨g, 0, none⟩) l.length cap))) :=
    ⟨hres, hF.store _, Or.inl rfl, (Kept.setCell w ⟨pb, po, none⟩ _).mono fun k _ h => Or.inr h⟩
  clear H hF hI hres
  go_enter Tryd.func201, Tryd.ntmps201
  go_wp2
  go_ret
  exact ⟨rfl, HR.out⟩

end Go.Proofs.YtmhjpbhldaagmaaDoor

/- heap.Push and heap.Pop over asg.waiting. -/
namespace Go.Proofs.YtmhjpbhldaagmaaDoor
open Go.RowKit
set_option linter.unusedVariables false

theorem inN_mem (l : List Int) (x : Int) : inN l l.length x ↔ x ∈ l := by
  constructor
  · rintro ⟨k, hk, e⟩; rw [← e]; simp [List.getD, hk]
  · intro h
    obtain ⟨k, hk, e⟩ := List.getElem_of_mem h
    exact ⟨k, hk, by simp [List.getD, hk, e]⟩
theorem FldNow.next {w w1 w2 : World} {B pb po : Nat} {cs : Array Value} {T : TypeId} {v v1 : Value} {m m2 : List Int} {g : Nat} (h : FldNow w B pb po cs T v v1 m w1) (hpb : pb < w.heap.size) (hg : v1.ownBlock = some g) (hne : g ≠ pb) (ho : Own w2 B v1 m2) (hk : Kept (fun k => k = g) w1 w2) : FldNow w B pb po cs T v v1 m2 w2 := by
  obtain ⟨h1, h2, h3, h4⟩ := h
  refine ⟨ho, h2.kept hk (fun e => hne e.symm), h3, h4.next hk fun i hi e => ?_⟩
  subst e
  rcases h3 with h | ⟨g', h, hge⟩
  · exact Or.inl (by rw [← h, hg])
  · rw [hg] at h
    have : i = g' := by simpa using h
    omega

/-- What a push onto the heap leaves. -/
def HPush (w : World) (B pb po : Nat) (cs : Array Value) (T : TypeId) (v : Value) (l : List Int) (x : Int) (e : Ending) (w' : World) : Prop :=
  ∃ v' m, e = .returned (.tuple #[]) ∧ FldNow w B pb po cs T v v' m w' ∧ hp m m.length ∧ m.length = l.length + 1 ∧ ∀ y, y ∈ m ↔ y = x ∨ y ∈ l

set_option maxHeartbeats 1600000 in
set_option maxRecDepth 100000 in
theorem hpush_any (v : Value) (l : List Int) (x : Int) (B : Nat) (pb po : Nat) (cs : Array Value) (T : TypeId) (w : World) (H : Own w B v l) (hF : Fld w pb po cs T v) (hl : l.length < 1000000) (hB : B ≤ w.heap.size) (hne : v.ownBlock ≠ some pb) (hh : hp l l.length) :
    Calls Tryd.prog 69 #[.iface 117 (.pointer (some ⟨pb, po, none⟩)), .iface 3 (.int .i64 x)] w (HPush w B pb po cs T v l x) := by
  have hpb := hF.lt
  have HC := Lib.hid (wpush_any v l x B pb po cs T w H hF (by omega) hB hne)
  have HH := Lib.hid hh
  have HNE := Lib.hid hne
  clear H hF hB hne hh
  have hm1 := fun n => m_push n ⟨pb, po, none⟩ w
  go_enter Tryd.func69, Tryd.ntmps69
  go_wp2_with fail
  refine HC.out.mono ?_
  rintro e w1 ⟨v1, rfl, hnow⟩
  have hown := hnow.1
  have el : (l ++ [x]).length = l.length + 1 := by simp
  obtain ⟨g1, cap1, rfl, hB1, hg1⟩ := hown.at (by omega)
  have hne1 : g1 ≠ pb := by
    rcases hnow.2.2.1 with h | ⟨g', h, hge⟩
    · exact fun e => HNE.out (by rw [← h, e]; rfl)
    · simp [Value.ownBlock] at h; omega
  have hml := m_len hnow.2.1.cell
  have HN := Lib.hid hnow
  have HW := Lib.hid (wlen_any _ (l ++ [x]) B w1 hown)
  have HUP := Lib.hid (up_any g1 cap1 ⟨pb, po, none⟩ (l ++ [x]) B l.length w1 hown hnow.2.1.cell (fun e => hne1 e.symm) (by omega) (by omega) (by rw [el]; exact hp_push x HH.out))
  clear hown hnow
  rw [el] at hml
  go_wp2_with fail
  refine ((by have := HW.out; rw [el] at this; exact this : Calls _ _ _ _ _)).mono ?_
  rintro e w2 ⟨rfl, rfl⟩
  have hcast : ((l.length + 1 : Nat) : Int) - 1 = (l.length : Int) := by omega
  go_wp2_with fail
  refine ((by have := HUP.out; exact this : Calls _ _ _ _ _)).mono ?_
  rintro e w3 ⟨m, rfl, hown3, hlen3, hhp, hin, hk3⟩
  have hres : FldNow w B pb po cs T v (.slice (some ⟨g1, 0, none⟩) (l ++ [x]).length cap1) m w3 := HN.out.next hpb rfl hne1 hown3 hk3
  have HR : Hid (HPush w B pb po cs T v l x (.returned (.tuple #[])) w3) := ⟨_, m, rfl, hres, by rw [hlen3]; exact hhp, by rw [hlen3, el], fun y => by
    rw [← inN_mem, hlen3, hin, inN_mem]
    simp [or_comm]⟩
  clear hres hhp hin hown3
  go_wp2
  go_end0
  exact HR.out

end Go.Proofs.YtmhjpbhldaagmaaDoor

/- heap.Pop over asg.waiting. -/
namespace Go.Proofs.YtmhjpbhldaagmaaDoor
open Go.RowKit
set_option linter.unusedVariables false

/-- What a pop off the heap leaves: x was the least one. -/
def HPop (w : World) (B pb po : Nat) (cs : Array Value) (T : TypeId) (v : Value) (l : List Int) (e : Ending) (w' : World) : Prop :=
  ∃ v' m, e = .returned (.iface 3 (.int .i64 (l.getD 0 0))) ∧ FldNow w B pb po cs T v v' m w' ∧ hp m m.length ∧ m.length + 1 = l.length ∧ (∀ y, y ∈ l ↔ y = l.getD 0 0 ∨ y ∈ m) ∧ ∀ y ∈ l, l.getD 0 0 ≤ y

theorem hp_take {l : List Int} {n : Nat} (h : hp l n) (hn : n ≤ l.length) : hp (l.take n) (l.take n).length := by
  have e : (l.take n).length = n := by simp; omega
  have g : ∀ k, k < n → (l.take n).getD k 0 = l.getD k 0 := fun k hk => by simp [List.getD, hk]
  rw [e]
  intro k k0 hk
  rw [g _ (by omega), g _ hk]
  exact h k k0 hk
theorem inN_take {l : List Int} {n : Nat} (hn : n ≤ l.length) (y : Int) : inN l n y ↔ y ∈ l.take n := by
  have e : (l.take n).length = n := by simp; omega
  have g : ∀ k, k < n → (l.take n).getD k 0 = l.getD k 0 := fun k hk => by simp [List.getD, hk]
  rw [← inN_mem, e]
  constructor
  · rintro ⟨k, hk, h⟩; exact ⟨k, hk, by rw [g k hk]; exact h⟩
  · rintro ⟨k, hk, h⟩; exact ⟨k, hk, by rw [← g k hk]; exact h⟩

set_option maxHeartbeats 1600000 in
set_option maxRecDepth 100000 in
theorem hpop_n (g cap : Nat) (l : List Int) (n : Nat) (B : Nat) (pb po : Nat) (cs : Array Value) (T : TypeId) (w : World) (H : Own w B (.slice (some ⟨g, 0, none⟩) (n + 1) cap) l) (hF : Fld w pb po cs T (.slice (some ⟨g, 0, none⟩) (n + 1) cap)) (hn : l.length = n + 1) (hl : n < 1000000) (hne1 : g ≠ pb) (hh : hp l (n + 1)) :
    Calls Tryd.prog 71 #[.iface 117 (.pointer (some ⟨pb, po, none⟩))] w (HPop w B pb po cs T (.slice (some ⟨g, 0, none⟩) (n + 1) cap) l) := by
  have hpb := hF.lt
  have hml := m_len hF.cell
  have hms := m_swap hF.cell
  have HW : Hid (Calls Tryd.prog 70 #[.slice (some ⟨g, 0, none⟩) (n + 1) cap] w fun e w' => e = .returned (.int .i64 ((n + 1 : Nat) : Int)) ∧ w = w') := by
    have := wlen_any _ l B w H; rw [hn] at this; exact this
  have HSW : Hid (Calls Tryd.prog 200 #[.slice (some ⟨g, 0, none⟩) (n + 1) cap, .int .i64 0, .int .i64 n] w fun e w' => e = .returned (.tuple #[]) ∧ Own w' B (.slice (some ⟨g, 0, none⟩) (n + 1) cap) (swp l 0 n) ∧ Kept (fun k => k = g) w w') := by
    have := wswap_any g cap l B 0 n w (by rw [hn]; exact H) (by omega) (by omega) (by omega); unfold Swapped at this; rw [hn] at this; exact this
  have hsl : (swp l 0 n).length = n + 1 := by rw [swp_len]; exact hn
  have HD : Hid (∀ w2, Own w2 B (.slice (some ⟨g, 0, none⟩) (n + 1) cap) (swp l 0 n) → Fld w2 pb po cs T (.slice (some ⟨g, 0, none⟩) (n + 1) cap) → Calls Tryd.prog 109 #[.iface 117 (.pointer (some ⟨pb, po, none⟩)), .int .i64 0, .int .i64 n] w2 fun e w' =>
      ∃ b m, e = .returned (.bool b) ∧ Own w' B (.slice (some ⟨g, 0, none⟩) (n + 1) cap) m ∧ m.length = n + 1 ∧ hp m n ∧ (∀ x, inN m n x ↔ inN (swp l 0 n) n x) ∧ (∀ k, n ≤ k → m.getD k 0 = (swp l 0 n).getD k 0) ∧ Kept (fun k => k = g) w2 w') := by
    intro w2 ho hf
    have := down_any g cap ⟨pb, po, none⟩ (swp l 0 n) B 0 n w2 (by rw [hsl]; exact ho) (by rw [hsl]; exact hf.cell) (fun e => hne1 e.symm) (by omega) (by omega) (by omega) (hp_pop hh (by omega))
    unfold HeapedN at this; rw [hsl] at this; exact this
  have HR : Hid (∀ w2 w3 m, Kept (fun k => k = g) w w2 → Own w3 B (.slice (some ⟨g, 0, none⟩) (n + 1) cap) m → m.length = n + 1 → hp m n → (∀ x, inN m n x ↔ inN (swp l 0 n) n x) → (∀ k, n ≤ k → m.getD k 0 = (swp l 0 n).getD k 0) → Kept (fun k => k = g) w2 w3 →
      Calls Tryd.prog 201 #[.pointer (some ⟨pb, po, none⟩)] w3 fun e w4 => e = .returned (.iface 3 (.int .i64 (l.getD 0 0))) ∧ HPop w B pb po cs T (.slice (some ⟨g, 0, none⟩) (n + 1) cap) l e w4) := by
    intro w2 w3 m hk2 hown3 hlen3 hhp hin hrest hk3
    have hkk : Kept (fun k => k = g) w w3 := hk2.trans hk3
    have hF3 := hF.kept hkk (fun e => hne1 e.symm)
    have e2 : (swp l 0 n).getD n 0 = l.getD 0 0 := by rw [swp_at _ _ _ _ (by omega) (by omega), if_pos rfl]
    have hsp : m = m.take n ++ [l.getD 0 0] := by
      have := last_of hlen3
      rw [hrest n (Nat.le_refl _), e2] at this
      exact this
    have htl : (m.take n).length = n := by simp; omega
    have hmem : ∀ y, y ∈ l ↔ y = l.getD 0 0 ∨ y ∈ m.take n := fun y => by
      rw [← inN_take (by omega), hin]
      have e1 : inN l (n + 1) y ↔ inN (swp l 0 n) (n + 1) y := (swp_in l 0 n (n + 1) y (by omega) (by omega) (by omega)).symm
      rw [← inN_mem, hn, e1]
      constructor
      · rintro ⟨k, hk, e⟩
        by_cases h : k = n
        · subst h; exact Or.inl (by rw [← e, e2])
        · exact Or.inr ⟨k, by omega, e⟩
      · rintro (e | ⟨k, hk, e⟩)
        · exact ⟨n, by omega, by rw [e2, e]⟩
        · exact ⟨k, by omega, e⟩
    have hmin : ∀ y ∈ l, l.getD 0 0 ≤ y := fun y hy => by
      obtain ⟨k, hk, e⟩ := (inN_mem l y).2 hy
      rw [← e]
      exact hp_least hh k (by omega)
    have hc := wpop_any g cap (m.take n) (l.getD 0 0) B pb po cs T w3 (by rw [htl, ← hsp]; exact hown3) (by rw [htl]; exact hF3) (by omega) hne1
    refine hc.mono ?_
    rintro e w4 ⟨he, h1, h2, h3, h4⟩
    refine ⟨he, .slice (some ⟨g, 0, none⟩) (m.take n).length cap, m.take n, he, ⟨h1, h2, Or.inl rfl, ?_⟩, hp_take hhp (by omega), by omega, hmem, hmin⟩
    exact (hkk.mono fun k _ e => Or.inl (by rw [e]; rfl)).next h4 fun i _ e => by
      rcases e with e | e
      · exact Or.inl (by rw [← e]; rfl)
      · exact Or.inr e
  have HF := Lib.hid hF
  have hcast : ((n + 1 : Nat) : Int) - 1 = (n : Int) := by omega
  clear H hF hh hsl hn
  generalize l.getD 0 0 = x at *
  go_enter Tryd.func71, Tryd.ntmps71
  go_wp2_with fail
  refine HW.out.mono ?_
  rintro e w1 ⟨rfl, rfl⟩
  go_wp2_with fail
  refine HSW.out.mono ?_
  rintro e w2 ⟨rfl, hown2, hk2⟩
  go_wp2_with fail
  refine (HD.out w2 hown2 (HF.out.kept hk2 (fun e => hne1 e.symm))).mono ?_
  rintro e w3 ⟨b, m, rfl, hown3, hlen3, hhp, hin, hrest, hk3⟩
  have HP := Lib.hid (HR.out w2 w3 m hk2 hown3 hlen3 hhp hin hrest hk3)
  have hmp := fun k => m_pop k ⟨pb, po, none⟩ w3
  clear hown3 hlen3 hhp hin hrest hk3 hown2 hk2
  go_wp2_with fail
  refine HP.out.mono ?_
  rintro e w4 ⟨rfl, h4⟩
  have HQ := Lib.hid h4
  clear h4
  go_wp2
  go_ret
  exact HQ.out
theorem hpop_any (v : Value) (l : List Int) (n : Nat) (B : Nat) (pb po : Nat) (cs : Array Value) (T : TypeId) (w : World) (H : Own w B v l) (hF : Fld w pb po cs T v) (hn : l.length = n + 1) (hl : n < 1000000) (hne : v.ownBlock ≠ some pb) (hh : hp l l.length) :
    Calls Tryd.prog 71 #[.iface 117 (.pointer (some ⟨pb, po, none⟩))] w (HPop w B pb po cs T v l) := by
  obtain ⟨g, cap, rfl, hB1, hg1⟩ := H.at (by omega)
  rw [hn] at H hF hh ⊢
  exact hpop_n g cap l n B pb po cs T w H hF hn hl (fun e => hne (by rw [e]; rfl)) hh

end Go.Proofs.YtmhjpbhldaagmaaDoor
