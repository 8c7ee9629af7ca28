/- Joined texts: CxReachP, CxSeq, CxBack, CxTell, CxReach. -/
import Derived.Test.YtafenijbglcppaaK06
import Derived.Test.YtafenijbglcppaaK02
import Derived.RangeFuncNested
import Derived.RangeFuncBound
import Derived.RangeFuncCalls
import Derived.RangeFuncLeaves
import Derived.RangeFuncBox
import Derived.Shelf.Abstract
import Derived.Shelf.RegionOpen
import Derived.OwnWalkIn
import Derived.TacticsInMore
import Derived.LoopNIn
import Derived.LoopIn
import Derived.Laws.EntriesVeiled
/- What is reached from a literal in a list of gates; which variables are free. (Plain lists.) -/
namespace Go.Proofs.Ytafenijbglcppaa
open Go.RowKit
set_option linter.unusedVariables false
set_option linter.unusedSimpArgs false

def tellL (S : List Int) (x : Int) : List Int := if entB S (varC x) = true then S ++ [varC x] else S
def tellsL (S : List Int) (l : List Int) : List Int := l.foldl tellL S
def reachG (S : List Int) (g : Gt) : List Int := if g.1 ∈ S then tellsL S g.2.2 else S
/-- What is reached when the last k gates have been looked at. -/
def reachUp (gs : List Gt) (x : Int) (k : Nat) : List Int := (gs.reverse.take k).foldl reachG (tellL [] x)
def reachL (gs : List Gt) (x : Int) : List Int := reachUp gs x gs.length
theorem ent_iff {S : List Int} {v : Int} : entB S v = true ↔ 1 ≤ v ∧ v ≤ 65536 ∧ v ∉ S := by unfold entB; exact decide_eq_true_iff
/-- The sets that grow so: variables, each once. -/
def Vset (S : List Int) : Prop := S.Nodup ∧ ∀ v ∈ S, 1 ≤ v ∧ v ≤ 65536
theorem vset_nil : Vset [] := ⟨List.nodup_nil, by simp⟩
theorem vset_add {S : List Int} {v : Int} (h : Vset S) (k : entB S v = true) : Vset (S ++ [v]) := by
  rw [ent_iff] at k
  refine ⟨List.nodup_append.2 ⟨h.1, by simp, fun a ha b hb => ?_⟩, fun y hy => ?_⟩
  · rw [List.mem_singleton] at hb
    subst hb
    exact fun e => k.2.2 (e ▸ ha)
  · rcases List.mem_append.1 hy with hy | hy
    · exact h.2 y hy
    · rw [List.mem_singleton] at hy
      subst hy
      exact ⟨k.1, k.2.1⟩
theorem vset_tell {S : List Int} (h : Vset S) (x : Int) : Vset (tellL S x) := by
  unfold tellL
  split
  · rename_i k; exact vset_add h k
  · exact h
theorem vset_tells {S : List Int} (h : Vset S) (l : List Int) : Vset (tellsL S l) := by
  unfold tellsL
  induction l generalizing S with
  | nil => exact h
  | cons x r ih => exact ih (vset_tell h x)
theorem vset_reachG {S : List Int} (h : Vset S) (g : Gt) : Vset (reachG S g) := by
  unfold reachG
  split
  · exact vset_tells h _
  · exact h
theorem vset_fold {S : List Int} (h : Vset S) (l : List Gt) : Vset (l.foldl reachG S) := by
  induction l generalizing S with
  | nil => exact h
  | cons x r ih => exact ih (vset_reachG h x)
theorem vset_up (gs : List Gt) (x : Int) (k : Nat) : Vset (reachUp gs x k) := vset_fold (vset_tell vset_nil x) _
theorem nodup_sub_len {l : List Int} : ∀ {m : List Int}, l.Nodup → (∀ x ∈ l, x ∈ m) → l.length ≤ m.length := by
  induction l with
  | nil => intro m _ _; simp
  | cons x r ih =>
    intro m hn hs
    rw [List.nodup_cons] at hn
    have h1 := ih (m := m.erase x) hn.2 (fun y hy => by
      have hne : y ≠ x := fun e => hn.1 (by rw [← e]; exact hy)
      exact (List.mem_erase_of_ne hne).2 (hs y (List.mem_cons_of_mem _ hy)))
    have h2 := List.length_erase_of_mem (hs x List.mem_cons_self)
    have h3 := List.length_pos_of_mem (hs x List.mem_cons_self)
    simp only [List.length_cons]
    omega
theorem vset_len {S : List Int} (h : Vset S) : S.length ≤ 65536 := by
  have h1 := nodup_sub_len (m := (List.range 65536).map (fun i : Nat => (i : Int) + 1)) h.1 (fun v hv => by
    have := h.2 v hv
    exact List.mem_map.2 ⟨v.toNat - 1, List.mem_range.2 (by omega), by omega⟩)
  rwa [List.length_map, List.length_range] at h1
theorem tell_len (S : List Int) (x : Int) : (tellL S x).length ≤ S.length + 1 := by
  unfold tellL
  split
  · simp
  · omega
theorem tells_len (S : List Int) (l : List Int) : (tellsL S l).length ≤ S.length + l.length := by
  unfold tellsL
  induction l generalizing S with
  | nil => simp
  | cons x r ih =>
    have h1 := ih (tellL S x)
    have h2 := tell_len S x
    simp only [List.foldl_cons, List.length_cons]
    omega
theorem tells_snoc (S : List Int) (l : List Int) (x : Int) : tellsL S (l ++ [x]) = tellL (tellsL S l) x := by unfold tellsL; rw [List.foldl_append]; rfl
theorem reach_zero (gs : List Gt) (x : Int) : reachUp gs x 0 = tellL [] x := by simp [reachUp]
theorem reach_succ {gs : List Gt} (x : Int) {k : Nat} (hk : k < gs.length) : reachUp gs x (k + 1) = reachG (reachUp gs x k) (gs.getD (gs.length - 1 - k) dG) := by
  unfold reachUp
  rw [List.take_add_one, List.foldl_append]
  have h1 : gs.reverse[k]? = some (gs.getD (gs.length - 1 - k) dG) := by
    rw [List.getElem?_reverse hk]
    rw [List.getD, List.getElem?_eq_getElem (by omega)]
    rfl
  rw [h1]
  rfl
theorem tell_mono (S : List Int) (x : Int) : S <+: tellL S x := by
  unfold tellL
  split
  · exact List.prefix_append _ _
  · exact List.prefix_refl _
theorem tells_mono (S : List Int) (l : List Int) : S <+: tellsL S l := by
  unfold tellsL
  induction l generalizing S with
  | nil => exact List.prefix_refl _
  | cons x r ih => exact (tell_mono S x).trans (ih _)
theorem reachG_mono (S : List Int) (g : Gt) : S <+: reachG S g := by
  unfold reachG
  split
  · exact tells_mono _ _
  · exact List.prefix_refl _
theorem fold_mono (S : List Int) (l : List Gt) : S <+: l.foldl reachG S := by
  induction l generalizing S with
  | nil => exact List.prefix_refl _
  | cons x r ih => exact (reachG_mono S x).trans (ih _)

/-- The variables up to m that are not in a set. -/
def freeUp (S : List Int) (m : Nat) : List Int := ((List.range m).map (fun i : Nat => (i : Int) + 1)).filter (fun v => !decide (v ∈ S))
def unusedL (S : List Int) (k : Nat) : List Int := (freeUp S 65536).take k
theorem freeUp_succ (S : List Int) (m : Nat) : freeUp S (m + 1) = freeUp S m ++ (if ((m : Int) + 1) ∈ S then [] else [(m : Int) + 1]) := by
  unfold freeUp
  rw [List.range_succ, List.map_append, List.filter_append]
  congr 1
  by_cases h : ((m : Int) + 1) ∈ S <;> simp [h]
theorem freeUp_pre (S : List Int) {m n : Nat} (h : m ≤ n) : freeUp S m <+: freeUp S n := by
  induction n with
  | zero => obtain rfl : m = 0 := by omega
            exact List.prefix_refl _
  | succ n ih =>
    by_cases e : m = n + 1
    · subst e; exact List.prefix_refl _
    · rw [freeUp_succ]
      exact (ih (by omega)).trans (List.prefix_append _ _)
theorem unused_at {S : List Int} {k m : Nat} (hm : m ≤ 65536) (hl : (freeUp S m).length ≤ k) (h : m = 65536 ∨ k ≤ (freeUp S m).length) : unusedL S k = freeUp S m := by
  unfold unusedL
  rcases h with rfl | h
  · exact List.take_of_length_le hl
  · obtain ⟨r, hr⟩ := freeUp_pre S hm
    rw [← hr, List.take_append_of_le_length h]
    exact List.take_of_length_le hl
theorem freeUp_len (S : List Int) (m : Nat) : (freeUp S m).length ≤ m := by
  unfold freeUp
  refine Nat.le_trans (List.length_filter_le _ _) ?_
  simp
theorem freeUp_bd {S : List Int} {m : Nat} (hm : m ≤ 65536) : ∀ v ∈ freeUp S m, 1 ≤ v ∧ v ≤ 65536 := by
  intro v hv
  unfold freeUp at hv
  obtain ⟨h1, _⟩ := List.mem_filter.1 hv
  obtain ⟨i, hi, rfl⟩ := List.mem_map.1 h1
  rw [List.mem_range] at hi
  omega
theorem freeUp_mem {S : List Int} {m : Nat} {v : Int} (h : v ∈ freeUp S m) : v ∉ S := by
  unfold freeUp at h
  have := (List.mem_filter.1 h).2
  simpa using this
theorem filter_two (p : Int → Bool) (l : List Int) : (l.filter (fun x => !p x)).length + (l.filter p).length = l.length := by
  induction l with
  | nil => rfl
  | cons x r ih => cases h : p x <;> simp [List.filter_cons, h] <;> omega
/-- Where few are used, some are free. -/
theorem freeUp_many (S : List Int) (m : Nat) : m ≤ (freeUp S m).length + S.length := by
  have h2 : ((List.range m).map (fun i : Nat => (i : Int) + 1)).Nodup := by
    refine List.pairwise_map.2 (List.nodup_range.imp ?_)
    intro a b h e
    exact h (by omega)
  have h3 := filter_two (fun v => decide (v ∈ S)) ((List.range m).map (fun i : Nat => (i : Int) + 1))
  have h4 := nodup_sub_len (l := ((List.range m).map (fun i : Nat => (i : Int) + 1)).filter (fun v => decide (v ∈ S))) (m := S) (h2.filter _) (fun v hv => by simpa using (List.mem_filter.1 hv).2)
  rw [List.length_map, List.length_range] at h3
  unfold freeUp
  omega

end Go.Proofs.Ytafenijbglcppaa

/- A range over an iterator that keeps things of its own which are no cells (a map, a loop's record), where each round goes on: one law for the caller. -/
namespace Go.Proofs.Ytafenijbglcppaa
open Go.RowKit Go.Shelf
set_option linter.unusedVariables false
set_option linter.unusedSimpArgs false

/-- An iterator whose rounds all go on: what the caller says of the worlds between the rounds may not lean on things that are no cells and that were made since the call began. -/
def SeqOwn {α : Type} (F : Fence) (n : Nat) (P : Program) (g : Nat) (lb : Array Value) (encs : α → Array Value) (Kp : World → World → Prop) (S : List α → Prop) (N : Nat) (w : World) : Prop :=
  ∀ (l : Nat) (J : List α → World → Prop) (W : World), Below w.heap.size w W → w.heap.size + 2 ≤ W.heap.size → OwnFrom W.heap.size J →
    (∀ pre x W1, J pre W1 → pre.length < N → YieldAt F (n - 1) P l (encs x) W1 fun e W' => e = .returned (.bool true) ∧ J (pre ++ [x]) W' ∧ Kp W1 W') →
    J [] W →
    CallsIn F n P g (#[.func (.yield l) #[] #[]] ++ lb) W fun e W' => (∃ v, e = .returned v) ∧ ∃ xs, S xs ∧ J xs W'

abbrev noStop {α : Type} : Code → List α → World → Prop := fun _ _ _ => False

/-- The caller of such an iterator. -/
theorem wpIn_rangeAll {α : Type} {F : Fence} {n : Nat} {P : Program} {g : Operand} {ps : Array Tmp} {assign body : Code} {Q : Exit → Act → World → Prop} {a : Act} {w : World}
    (hro : F.round = none) (h1 : 1 ≤ n) {gf : Nat} {lb : Array Value} (hg : a.eval g = .func (.func gf) #[] lb) (hFg : F.fn gf) (eg : ∀ args w, (callFunc gf args).run P w = .ok (.enter gf args) w)
    {encs : α → Array Value} {Kp : World → World → Prop} {S : List α → Prop} {N : Nat} (hseq : SeqOwn F (n - 1) P gf lb encs Kp S N w)
    (hKt : ∀ {A B C : World}, Kp A B → Kp B C → Kp A C) (hKb : ∀ (W : World) (o' : Obj), w.heap.size + 1 < W.heap.size → Kp W (W.putObj (w.heap.size + 1) o')) (hps : ∀ x, (encs x).size = ps.size)
    (I : List α → World → Prop) (hI : OwnFrom w.heap.size I) (h0 : I [] w) (a₁ : α → Act)
    (hassign : ∀ (l : Nat) (x : α) (W : World) (K : Act → World → Prop), K (a₁ x) W →
      assign.wpIn (F.inRound l) (n - 1 - 1) P (Exit.then K (fun _ _ _ => False)) { tmps := (ps.zip (encs x)).foldl (fun t (p, v) => t.setIfInBounds p v) a.tmps, defers := [] } W)
    (hbody : ∀ (l : Nat) (pre : List α) (x : α) (W : World), I pre W → pre.length < N → body.wpIn (F.inRound l) (n - 1 - 1) P (ownPostG w.heap.size Kp I noStop (pre ++ [x]) W) (a₁ x) W)
    (hdone : ∀ (D : Nat) (xs : List α) (W : World), w.heap.size ≤ D → S xs → I xs W → W.heap[D]? = some (.deferred (some [])) → Q .normal { a with defers := { target := .collected D, args := #[] } :: a.defers } W) :
    (Code.rangeFunc g ps assign body).wpIn F n P Q a w := by
  refine wpIn_rangeFunc ?_
  intro fn hfn
  rw [hro]
  obtain ⟨rec, hrec⟩ : ∃ rec : LoopState → Option Code → Loop, rec = fun st pe => { state := st, pending := pe, fn, tmps := a.tmps, params := ps, assign, body, defers := w.heap.size } := ⟨_, rfl⟩
  obtain ⟨W1, hW1⟩ : ∃ W1, (w.alloc (.deferred (some []))).alloc (.loop (rec .ready none)) = W1 := ⟨_, rfl⟩
  have hz1 : W1.heap.size = w.heap.size + 2 := by rw [← hW1]; simp
  have hL1 : W1.heap[w.heap.size + 1]? = some (.loop (rec .ready none)) := by
    rw [← hW1]; have := World.alloc_heap_new (w.alloc (.deferred (some []))) (.loop (rec .ready none)); rwa [World.size_alloc] at this
  have hK1 : W1.heap[w.heap.size]? = some (.deferred (some [])) := by
    rw [← hW1]; exact (Below.heap_alloc _ _ _ (by simp)).trans (World.alloc_heap_new w _)
  have hI1 : I [] W1 := by rw [← hW1]; exact hI.alloc _ (hI.alloc _ h0)
  have hb1 : Below w.heap.size w W1 := by
    rw [← hW1]; exact ((Below.refl _ w).alloc (Nat.le_refl _) _).alloc (by simp) _
  refine ⟨w.heap.size + 1, [{ target := .collected w.heap.size, args := #[] }], W1, { target := .fn (.func gf) lb, args := #[.func (.yield (w.heap.size + 1)) #[] #[]] }, W1, gf,
    #[.func (.yield (w.heap.size + 1)) #[] #[]] ++ lb, W1, ?_, ?_, ?_, ?_, fun _ => h1, ?_⟩
  · rw [← hW1, hrec]; exact run_enterLoop_outer _ _ _ _ _
  · simp only [resolve, hg]
    simp [go_sem]
  · intro f' hf'; simp [Target.leads] at hf'; subst hf'; exact hFg
  · simp [invoke, go_sem, eg]
  · have far : ∀ {A B : World} {row : Option Nat} {k : Nat} {o : Obj}, A.grownBy B row → (∀ r, row = some r → W1.heap.size ≤ r ∧ ∃ o : Obj, A.heap[r]? = some o ∧ o.isCells = false) → k < w.heap.size + 2 → A.heap[k]? = some o → B.heap[k]? = some o :=
      fun hgr hr hk ho => (hgr.block _ (Array.getElem?_eq_some_iff.1 ho).1 (fun e => by have := (hr _ e.symm).1; omega)).trans ho
    refine (hseq (w.heap.size + 1)
      (fun pre W => I pre W ∧ W.heap[w.heap.size + 1]? = some (.loop (rec .ready none)) ∧ W.heap[w.heap.size]? = some (.deferred (some [])))
      W1 hb1 (by omega)
      (fun s A B row hs hg' hr => ⟨hI s A B row hs.1 hg' (fun r e => ⟨by have := (hr r e).1; omega, (hr r e).2⟩), far hg' hr (by omega) hs.2.1, far hg' hr (by omega) hs.2.2⟩)
      ?_ ⟨hI1, hL1, hK1⟩).mono ?_
    · rintro pre x W ⟨hi, hl, hk⟩ hlen
      have hlt : w.heap.size + 1 < W.heap.size := (Array.getElem?_eq_some_iff.1 hl).1
      have hy := run_yield (P := P) (args := encs x) hl (by rw [hrec]; exact hps x)
      rw [hrec] at hy
      refine ⟨fn, _, assign, body, hy, roundIn_of_wpIn hfn (hassign _ x W _ ⟨_, run_beginRound hl (by rw [hrec]), ?_⟩)⟩
      have hl2 : (W.putObj (w.heap.size + 1) (.loop { rec .ready none with state := .busy })).heap[w.heap.size + 1]? = some (.loop { rec .ready none with state := .busy }) := World.putObj_heap_same hlt
      have hk2 : (W.putObj (w.heap.size + 1) (.loop { rec .ready none with state := .busy })).heap[w.heap.size]? = some (.deferred (some [])) := (World.putObj_heap_other (by omega)).trans hk
      have hw2 : Kp W (W.putObj (w.heap.size + 1) (.loop { rec .ready none with state := .busy })) := hKb _ _ hlt
      refine wpIn_mono (hbody _ pre x _ (hI.putObj _ hi (by omega) hl rfl) hlen) ?_
      rintro e a3 W3 hp
      cases e with
      | normal =>
        obtain ⟨hk3, hkp3, hi3⟩ := hp
        have hl3 := hk3.same _ _ (by omega) hl2 rfl
        have hr := run_endRound (P := P) none hl3
        rw [hrec] at hr
        refine ⟨_, _, hr, rfl, ⟨hI.putObj _ hi3 (by omega) hl3 rfl, ?_, (World.putObj_heap_other (by omega)).trans (hk3.same _ _ (Nat.le_refl _) hk2 rfl)⟩, hKt (hKt hw2 hkp3) (hKb _ _ (Array.getElem?_eq_some_iff.1 hl3).1)⟩
        rw [hrec]
        exact World.putObj_heap_same (Array.getElem?_eq_some_iff.1 hl3).1
      | ret => exact hp.2.elim
      | exit id => exact hp.2.elim
      | goto t => exact hp.2.elim
      | panic ch => exact hp.elim
      | outgrown => exact hp.elim
    · rintro e W2 ⟨⟨v, rfl⟩, xs, hS, hi, hl, hk⟩
      exact ⟨none, _, by have := run_endLoop (P := P) hl (by rw [hrec]; simp); rw [hrec] at this; exact this, hdone _ xs _ (Nat.le_refl _) hS (hI.putObj _ hi (by omega) hl rfl) ((World.putObj_heap_other (by omega)).trans hk)⟩

end Go.Proofs.Ytafenijbglcppaa

/- slices.Backward over gates: an iterator over the gates from the last to the first, each with its index. -/
namespace Go.Proofs.Ytafenijbglcppaa
open Go.RowKit Go.Shelf
set_option linter.unusedVariables false
set_option linter.unusedSimpArgs false
attribute [local go_sem] Oper.semAt_some

/-- Gate i of a list. -/
def gAt (gs : List Gt) (i : Nat) : Gt := gs.getD i dG
/-- A gate of a list: its index, and the value of its literals. -/
abbrev GE (w0 : World) (gs : List Gt) : Type := { x : Nat × Value // x.1 < gs.length ∧ IsInts w0 x.2 (gAt gs x.1).2.2 ∧ (-9223372036854775808 ≤ (gAt gs x.1).1 ∧ (gAt gs x.1).1 ≤ 9223372036854775807) ∧ 0 ≤ (gAt gs x.1).2.1 ∧ (gAt gs x.1).2.1 ≤ 255 }
abbrev encGE {w0 : World} {gs : List Gt} (x : GE w0 gs) : Array Value := #[.int .i64 (x.1.1 : Int), .agg #[.int .i64 (gAt gs x.1.1).1, .int .u8 (gAt gs x.1.1).2.1, x.1.2]]
/-- The indices n-1, n-2, .., k of them. -/
def downL (n k : Nat) : List Nat := (List.range k).map (fun i => n - 1 - i)
theorem downL_succ (n k : Nat) : downL n (k + 1) = downL n k ++ [n - 1 - k] := by unfold downL; rw [List.range_succ, List.map_append]; rfl
theorem downL_prefix (n : Nat) {k m : Nat} (h : k ≤ m) : downL n k <+: downL n m := by
  induction m with
  | zero => obtain rfl : k = 0 := by omega
            exact List.prefix_refl _
  | succ m ih =>
    by_cases e : k = m + 1
    · subst e; exact List.prefix_refl _
    · rw [downL_succ]
      exact (ih (by omega)).trans (List.prefix_append _ _)
/-- What a round keeps: all below n0, and a box. -/
def KpB (n0 bx : Nat) (A B : World) : Prop := Below n0 A B ∧ B.heap[bx]? = A.heap[bx]?
theorem KpB.cell {n0 bx : Nat} {A B : World} (h : KpB n0 bx A B) : B.cell? ⟨bx, 0, none⟩ = A.cell? ⟨bx, 0, none⟩ := World.cell?_of_block (w := A) (a := ⟨bx, 0, none⟩) h.2

set_option maxRecDepth 100000 in
set_option maxHeartbeats 2000000 in
theorem back1_in (n : Nat) (hn : 1 ≤ n) (l bx : Nat) (w0 : World) (vg : Value) (gs : List Gt) (H : IsGates w0 vg gs) (J Jx : List (GE w0 gs) → World → Prop)
    (W : World) (hW : Below w0.heap.size w0 W)
    (hY : ∀ pre x W, J pre W → pre.length < gs.length → YieldAt Fence.wide (n - 1) Try.prog l (encGE x) W fun e W' =>
      (e = .returned (.bool true) ∧ J (pre ++ [x]) W' ∧ KpB w0.heap.size bx W W') ∨ (e = .returned (.bool false) ∧ Jx (pre ++ [x]) W'))
    (hbx : W.cell? ⟨bx, 0, none⟩ = some vg) (h0 : J [] W) :
    CallsIn Fence.wide n Try.prog 71 #[.func (.yield l) #[] #[], .pointer (some ⟨bx, 0, none⟩)] W fun e W' => (∃ v, e = .returned v) ∧
      ((∃ ys : List (GE w0 gs), ys.map (fun x => x.1.1) = downL gs.length gs.length ∧ J ys W') ∨ (∃ pre : List (GE w0 gs), pre.map (fun x => x.1.1) <+: downL gs.length gs.length ∧ Jx pre W')) := by
  obtain ⟨a, cap, rfl, hlf⟩ := H.shape
  have HH := Lib.hid H
  have HY := Lib.hid hY
  have HJ0 := Lib.hid h0
  have HW := Lib.hid hW
  have HBX := Lib.hid hbx
  clear H hY h0 hW
  refine callsIn_of_wp Try.func71 rfl trivial ?_ rfl
  simp only [Try.ntmps71, List.size_toArray, List.length_cons, List.length_nil, Nat.reduceAdd, Nat.reduceSub, Array.replicate_succ, Array.replicate_zero, List.push_toArray, List.append_toArray, List.nil_append, List.cons_append]
  gi_wp2
  gi_loopw [3] (fun i wr => ∃ (k : Nat) (pre : List (GE w0 gs)), k ≤ gs.length ∧ i = .int .i64 ((k : Int) - 1) ∧ pre.map (fun x => x.1.1) = downL gs.length (gs.length - k) ∧ J pre wr ∧ Below w0.heap.size w0 wr ∧ wr.cell? ⟨bx, 0, none⟩ = some (.slice a gs.length cap)) (fun i _ => (intOf i + 1).toNat)
  case atStart => exact ⟨gs.length, [], Nat.le_refl _, by go_num, by rw [Nat.sub_self]; rfl, HJ0.out, HW.out, HBX.out⟩
  case round =>
    clear hbx
    obtain ⟨k, pre, hk, rfl, hpre, hJs, hbel, hbx⟩ := hrel
    have HPRE := Lib.hid hpre
    have HJS := Lib.hid hJs
    have HB := Lib.hid hbel
    have HBK := Lib.hid hbx
    clear hpre hJs hbel
    match k, hk, HPRE with
    | k + 1, hk, HPRE =>
      have hlt : k < gs.length := by omega
      obtain ⟨b, off, u, rfl, hb, hcx0, hck0, hcu0, HU0, hrg⟩ := HH.out.at hlt
      have hcx := (HB.out.cell (p := ⟨b, off + k * 3, none⟩) hb).trans hcx0
      have hck := (HB.out.cell (p := ⟨b, off + k * 3 + 1, none⟩) hb).trans hck0
      have hcu := (HB.out.cell (p := ⟨b, off + k * 3 + 2, none⟩) hb).trans hcu0
      have hkk : ((k + 1 : Nat) : Int) - 1 = (k : Int) := by omega
      rw [hkk]
      have hk0 : (0 : Int) ≤ (k : Int) := by omega
      have hk1 : (k : Int) < (gs.length : Int) := by omega
      have hk2 : (k : Int) < 17592186044417 := by omega
      have HDN : Hid (downL gs.length (gs.length - k) = downL gs.length (gs.length - (k + 1)) ++ [k]) := by
        show _ = _
        rw [show gs.length - k = (gs.length - (k + 1)) + 1 from by omega, downL_succ]
        congr 2
        omega
      have HDP : Hid (downL gs.length (gs.length - k) <+: downL gs.length gs.length) := downL_prefix _ (by omega)
      have hlen : pre.length < gs.length := by
        have h1 := congrArg List.length HPRE.out
        unfold downL at h1
        rw [List.length_map, List.length_map, List.length_range] at h1
        omega
      obtain ⟨x, hx, he⟩ : ∃ x : GE w0 gs, x.1.1 = k ∧ encGE x = #[.int .i64 (k : Int), .agg #[.int .i64 (gs.getD k dG).1, .int .u8 (gs.getD k dG).2.1, u]] := ⟨⟨(k, u), hlt, HU0, hrg.1, hrg.2⟩, rfl, rfl⟩
      obtain ⟨fn, tmps, assign, body, hy, hR⟩ := HY.out pre x wr HJS.out hlen
      rw [he] at hy
      have HX := Lib.hid hx
      have HR := Lib.hid hR
      have HKL := Lib.hid hlt
      clear hcx0 hck0 hcu0 hlt hkk hR hrg HU0 hlen hx he
      generalize gs.getD k dG = y at *
      obtain ⟨y1, y2, y3⟩ := y
      simp only at hcx hck hcu hy
      gi_wp2
      refine HR.out.mono ?_
      rintro e W3 (⟨rfl, hJ3, hk3⟩ | ⟨rfl, hJx3⟩)
      · have hbx3 : W3.cell? ⟨bx, 0, none⟩ = some (.slice (some ⟨b, off, none⟩) gs.length cap) := hk3.cell.trans HBK.out
        gi_wp2
        go_roundw
        case rel => exact ⟨k, _, by omega, by go_num, by rw [List.map_append, HPRE.out, HDN.out]; simp [HX.out], hJ3, HB.out.trans hk3.1, hbx3⟩
        case measure => simp [intOf]
      · gi_wp2
        refine bodyPost_ret (results_none rfl _ _ _) rfl ?_
        exact ⟨⟨_, rfl⟩, .inr ⟨_, by have := HDP.out; rw [HDN.out, ← HPRE.out] at this; rw [List.map_append]; simpa [HX.out] using this, hJx3⟩⟩
    | 0, hk, HPRE =>
      have hkk : ((0 : Nat) : Int) - 1 = -1 := by omega
      rw [hkk]
      gi_wp2
      go_end0
      exact ⟨⟨_, rfl⟩, .inl ⟨pre, by simpa using HPRE.out, HJS.out⟩⟩

theorem back_in (n : Nat) (a : Option Addr) (k cap : Nat) (w : World) : CallsIn Fence.wide n Try.prog 51 #[.slice a k cap] w fun e w' => e = .returned (.func (.func 71) #[] #[.pointer (some ⟨w.heap.size, 0, none⟩)]) ∧ w' = w.alloc (.cells #[.slice a k cap] 23) := by
  refine callsIn_of_wp Try.func51 rfl trivial ?_ rfl
  simp only [Try.ntmps51, List.size_toArray, List.length_cons, List.length_nil, Nat.reduceAdd, Nat.reduceSub, Array.replicate_succ, Array.replicate_zero, List.push_toArray, List.append_toArray, List.nil_append, List.cons_append]
  gi_wp2
  go_ret
  exact ⟨rfl, rfl⟩

theorem back_stops (n : Nat) (hn : 1 ≤ n) (bx : Nat) (w0 w : World) (vg : Value) (gs : List Gt) (H : IsGates w0 vg gs) (hW : Below w0.heap.size w0 w) (hB : bx < w.heap.size) (hc : w.cell? ⟨bx, 0, none⟩ = some vg) :
    SeqStopsK Fence.wide n Try.prog 71 #[.pointer (some ⟨bx, 0, none⟩)] (encGE (w0 := w0) (gs := gs)) (KpB w0.heap.size bx) (fun ys => ys.map (fun x => x.1.1) = downL gs.length gs.length) (fun pre => pre.map (fun x => x.1.1) <+: downL gs.length gs.length) gs.length w := fun l J Jx W hWW _ _ hY h0 =>
  back1_in n hn l bx w0 vg gs H J Jx W (hW.trans (hWW.mono hW.size)) hY ((hWW.cell (p := ⟨bx, 0, none⟩) hB).trans hc) h0

end Go.Proofs.Ytafenijbglcppaa

/- circ.reached's function tell: it tells the variable of a literal, once. -/
namespace Go.Proofs.Ytafenijbglcppaa
open Go.RowKit Go.Shelf
set_option linter.unusedVariables false
set_option linter.unusedSimpArgs false
attribute [local go_sem] Oper.semAt_some

theorem roomNone {F : Fence} (hd : F.depth = none) (k : Nat) : F.room k := fun d h => by rw [hd] at h; cases h
theorem roundAny {F : Fence} (hd : F.depth = none) {m m' : Nat} {P : Program} {l : Nat} {f : FuncId} {tmps : Array Value} {assign body : Code} {w : World} {R : Ending → World → Prop}
    (h : RoundIn F m P l f tmps assign body w R) : RoundIn F m' P l f tmps assign body w R := ⟨h.1, fun c cs _ => h.2 c cs (roomNone hd _)⟩
theorem yieldAny {F : Fence} (hd : F.depth = none) {m : Nat} (m' : Nat) {P : Program} {l : Nat} {args : Array Value} {W : World} {R : Ending → World → Prop} (h : YieldAt F m P l args W R) : YieldAt F m' P l args W R := by
  obtain ⟨fn, tmps, assign, body, hy, hR⟩ := h
  exact ⟨fn, tmps, assign, body, hy, roundAny hd hR⟩

/-- What a round over such an iterator keeps: all but rows of integers. -/
def keepO : Obj → Prop
  | .cells _ T _ => T ≠ 3
  | _ => True
structure KpR (n0 bg B0 : Nat) (A B : World) : Prop where
  below : Below n0 A B
  same : ∀ k o, (k = bg ∨ B0 ≤ k) → A.heap[k]? = some o → keepO o → B.heap[k]? = some o
theorem KpR.refl (n0 bg B0 : Nat) (A : World) : KpR n0 bg B0 A A := ⟨Below.refl _ _, fun _ _ _ h _ => h⟩
theorem KpR.trans {n0 bg B0 : Nat} {A B C : World} (h : KpR n0 bg B0 A B) (k : KpR n0 bg B0 B C) : KpR n0 bg B0 A C := ⟨h.below.trans k.below, fun i o hi ho hk => k.same i o hi (h.same i o hi ho hk) hk⟩
/-- The same but for one block. -/
structure KpX (n0 bg B0 bm : Nat) (A B : World) : Prop where
  below : Below n0 A B
  same : ∀ k o, (k = bg ∨ B0 ≤ k) → k ≠ bm → A.heap[k]? = some o → keepO o → B.heap[k]? = some o
theorem KpX.refl (n0 bg B0 bm : Nat) (A : World) : KpX n0 bg B0 bm A A := ⟨Below.refl _ _, fun _ _ _ _ h _ => h⟩
theorem KpX.trans {n0 bg B0 bm : Nat} {A B C : World} (h : KpX n0 bg B0 bm A B) (k : KpX n0 bg B0 bm B C) : KpX n0 bg B0 bm A C := ⟨h.below.trans k.below, fun i o hi hn ho hk => k.same i o hi hn (h.same i o hi hn ho hk) hk⟩
theorem KpR.x {n0 bg B0 : Nat} {A B : World} (h : KpR n0 bg B0 A B) (bm : Nat) : KpX n0 bg B0 bm A B := ⟨h.below, fun i o hi _ ho hk => h.same i o hi ho hk⟩
theorem Kept.kpx {n0 bg B0 bm : Nat} {A B : World} (h : Kept (fun i => i = bm) A B) (hn : n0 ≤ bm) (hA : n0 ≤ A.heap.size) : KpX n0 bg B0 bm A B :=
  ⟨h.below hA (fun k hk e => by omega), fun i o _ hne ho _ => (h.block i (Array.getElem?_eq_some_iff.1 ho).1 hne).trans ho⟩
theorem KpX.boxed {n0 bg B0 bm b : Nat} {A B : World} {t : TypeId} {v : Value} (h : KpX n0 bg B0 bm A B) (hb : Boxed A b t v) (hi : b = bg ∨ B0 ≤ b) (hn : b ≠ bm) (ht : t ≠ 3) : Boxed B b t v := h.same b _ hi hn hb ht
theorem SetI.obj {w : World} {b : Nat} {S : List Int} (h : SetI w b S) : ∃ o : Obj, w.heap[b]? = some o ∧ o.isCells = false ∧ keepO o := by
  obtain ⟨_, D, h1, _⟩ := h
  obtain ⟨es, clock, hb, _⟩ := h1
  exact ⟨_, hb, rfl, trivial⟩
theorem SetI.sameObj {w w' : World} {b : Nat} {S : List Int} (h : SetI w b S) (hs : w'.heap[b]? = w.heap[b]?) (hos : w'.os = w.os) (ht : w'.tape = w.tape) (ho : w'.output = w.output) (hsz : w.heap.size ≤ w'.heap.size) : SetI w' b S :=
  h.kept (Q := fun i => i ≠ b) ⟨hos, ht, ho, hsz, fun k _ hk => by
    have : k = b := Decidable.byContradiction hk
    rw [this]; exact hs⟩ (fun e => e rfl)
theorem KpR.set {n0 bg B0 b : Nat} {A B : World} {S : List Int} (h : KpR n0 bg B0 A B) (hs : SetI A b S) (hb : B0 ≤ b) : SetI B b S := by
  obtain ⟨o, ho, _, hk⟩ := hs.obj
  exact hs.sameObj ((h.same b o (.inr hb) ho hk).trans ho.symm) h.below.os h.below.tape h.below.output h.below.size
theorem Kept.grown {b : Nat} {A B : World} (h : Kept (fun i => i = b) A B) : A.grownBy B (some b) := ⟨h.os, h.tape, h.output, h.size, fun k hk hne => h.block k hk (fun e => hne (by rw [e]))⟩

/-- What is behind a call of tell. -/
def TellPost (n0 bg B0 bm : Nat) (S : List Int) (x : Int) (J : List V16 → World → Prop) (W : World) (e : Ending) (W' : World) : Prop :=
  e = .returned (.bool true) ∧ SetI W' bm (tellL S x) ∧ (∃ q : List V16, q.map (fun x => x.1) = tellL S x ∧ J q W') ∧ KpX n0 bg B0 bm W W'

set_option maxRecDepth 100000 in
set_option maxHeartbeats 2000000 in
theorem tell_in (n : Nat) (hn : 1 ≤ n) (m l bs bm byy n0 bg B0 B : Nat) (S : List Int) (x : Int) (J : List V16 → World → Prop) (pre : List V16) (W : World)
    (hbs : Boxed W bs 57 (.map (some bm))) (hby : Boxed W byy 76 (.func (.yield l) #[] #[]))
    (hset : SetI W bm S) (hv : Vset S) (hpre : pre.map (fun x => x.1) = S) (hJ : J pre W) (hJo : OwnFrom B J) (hB : B ≤ bm) (hn0 : n0 ≤ bm) (hB0 : B0 ≤ bm) (hyy : B0 ≤ byy)
    (h1 : -9223372036854775808 ≤ x) (h2 : x ≤ 9223372036854775807)
    (hY : ∀ pre x W, J pre W → pre.length < 65536 → YieldAt Fence.wide m Try.prog l (encV x) W fun e W' => e = .returned (.bool true) ∧ J (pre ++ [x]) W' ∧ KpR n0 bg B0 W W') :
    CallsIn Fence.wide n Try.prog 50 #[.int .i64 x, .pointer (some ⟨bs, 0, none⟩), .pointer (some ⟨byy, 0, none⟩)] W (TellPost n0 bg B0 bm S x J W) := by
  have hvr := varC_64 h1 h2
  have HV := Lib.hid (cvar_any x W h1 h2)
  have hlen : S.length ≤ 65536 := vset_len hv
  have hwn : n0 ≤ W.heap.size := by have := hset.lt; omega
  have hne : byy ≠ bm := fun e => by
    obtain ⟨o, ho, hc, _⟩ := hset.obj
    rw [← e, show W.heap[byy]? = _ from hby] at ho
    cases ho
    cases hc
  have cbs := hbs.cell
  have cby := hby.cell
  have f41 : Fence.wide.fn 27 := trivial
  have f76 : Fence.wide.fn 34 := trivial
  unfold TellPost
  by_cases hE : entB S (varC x) = true
  · have HT : Hid (tellL S x = S ++ [varC x]) := by show _ = _; unfold tellL; rw [if_pos hE]
    have hsl : S.length < 65536 := by
      have := vset_len (vset_add hv hE)
      rw [List.length_append] at this
      simp at this
      omega
    have hx16 : 1 ≤ varC x ∧ varC x ≤ 65536 := by rw [ent_iff] at hE; exact ⟨hE.1, hE.2.1⟩
    have HEN := Lib.hid (enter_yes bm S (varC x) W hset (by omega) hvr.1 hvr.2 hE)
    obtain ⟨oo, hoo, hcc, _⟩ := hset.obj
    have HOO := Lib.hid hoo
    have HCC := Lib.hid hcc
    have HJ1 : Hid (∀ W1, Kept (fun i => i = bm) W W1 → J pre W1) := fun W1 hk => hJo _ W W1 (some bm) hJ hk.grown (fun r e => by cases e; exact ⟨hB, _, HOO.out, HCC.out⟩)
    have HYY := Lib.hid hY
    have HPL : Hid (pre.length < 65536) := by
      show _ < _
      have := congrArg List.length hpre
      rw [List.length_map] at this
      omega
    have HPM : Hid (pre.map (fun x => x.1) ++ [varC x] = S ++ [varC x]) := by show _ = _; rw [hpre]
    have HB := Lib.hid hby
    clear hE hset hv hpre hJ hJo hY hoo hcc hlen hby hbs hvr
    generalize varC x = y at *
    refine callsIn_of_wp Try.func50 rfl trivial ?_ rfl
    simp only [Try.ntmps50, List.size_toArray, List.length_cons, List.length_nil, Nat.reduceAdd, Nat.reduceSub, Array.replicate_succ, Array.replicate_zero, List.push_toArray, List.append_toArray, List.nil_append, List.cons_append]
    gi_wp2_with (first
      | (gi_at_call 27; refine (callsIn_wide.2 HV.out).mono ?_; rintro e w1 ⟨rfl, rfl⟩)
      | (gi_at_call 34; go_loud (refine (callsIn_wide.2 HEN.out).mono ?_; rintro e w1 ⟨rfl, hs1, hk1⟩; have cb1 : w1.cell? ⟨byy, 0, none⟩ = some (.func (.yield l) #[] #[]) := Boxed.cell (t := 76) ((hk1.block byy HB.out.lt hne).trans HB.out); have HS1 := Lib.hid hs1; have HK1 := Lib.hid hk1; obtain ⟨fn, tmps, assign, body, hy, hR⟩ := yieldAny rfl (n - 1) (HYY.out pre ⟨y, hx16⟩ w1 (HJ1.out w1 hk1) HPL.out); dsimp only [encV] at hy; have HR := Lib.hid hR; clear hs1 hk1 hR)))
    refine HR.out.mono ?_
    rintro e W3 ⟨rfl, hJ3, hk3⟩
    gi_wp2
    go_ret
    refine ⟨rfl, ?_, ⟨_, ?_, hJ3⟩, ?_⟩
    · rw [HT.out]; exact hk3.set HS1.out hB0
    · rw [HT.out, List.map_append]; exact HPM.out
    · exact (HK1.out.kpx hn0 hwn).trans (hk3.x bm)
  · have hE' : entB S (varC x) = false := by simpa using hE
    have HT : Hid (tellL S x = S) := by show _ = _; unfold tellL; rw [if_neg hE]
    have HEN := Lib.hid (enter_no bm S (varC x) W hset (by omega) hvr.1 hvr.2 hE')
    have HS := Lib.hid hset
    have HP := Lib.hid hpre
    have HJJ := Lib.hid hJ
    clear hE hE' hset hv hpre hJ hJo hY hlen hby hbs hvr
    generalize varC x = y at *
    refine callsIn_of_wp Try.func50 rfl trivial ?_ rfl
    simp only [Try.ntmps50, List.size_toArray, List.length_cons, List.length_nil, Nat.reduceAdd, Nat.reduceSub, Array.replicate_succ, Array.replicate_zero, List.push_toArray, List.append_toArray, List.nil_append, List.cons_append]
    gi_wp2_with (first
      | (gi_at_call 27; refine (callsIn_wide.2 HV.out).mono ?_; rintro e w1 ⟨rfl, rfl⟩)
      | (gi_at_call 34; refine (callsIn_wide.2 HEN.out).mono ?_; rintro e w1 ⟨rfl, rfl⟩))
    refine ⟨fun _ h => (by cases h), ?_⟩
    gi_wp2
    go_ret
    exact ⟨rfl, by rw [HT.out]; exact HS.out, ⟨pre, by rw [HT.out]; exact HP.out, HJJ.out⟩, KpX.refl _ _ _ _ _⟩
end Go.Proofs.Ytafenijbglcppaa

/- circ.reached: an iterator over the variables that are reached from a literal. -/
namespace Go.Proofs.Ytafenijbglcppaa
open Go.RowKit Go.Shelf
set_option linter.unusedVariables false
set_option linter.unusedSimpArgs false
attribute [local go_sem] Oper.semAt_some

theorem reached_in (n : Nat) (a : Option Addr) (k cap : Nat) (x : Int) (w : World) : CallsIn Fence.wide n Try.prog 28 #[.slice a k cap, .int .i64 x] w fun e w' => e = .returned (.func (.func 49) #[] #[.pointer (some ⟨w.heap.size + 1, 0, none⟩), .pointer (some ⟨w.heap.size, 0, none⟩)]) ∧ w' = (w.alloc (.cells #[.slice a k cap] 23)).alloc (.cells #[.int .i64 x] 3) := by
  refine callsIn_of_wp Try.func28 rfl trivial ?_ rfl
  simp only [Try.ntmps28, List.size_toArray, List.length_cons, List.length_nil, Nat.reduceAdd, Nat.reduceSub, Array.replicate_succ, Array.replicate_zero, List.push_toArray, List.append_toArray, List.nil_append, List.cons_append]
  gi_wp2
  go_ret
  exact ⟨by simp, rfl⟩

/-- The gates that have come. -/
abbrev cameG {w0 : World} {gs : List Gt} (pre : List (GE w0 gs)) : List Gt := pre.map (fun e => gAt gs e.1.1)
theorem came_all {w0 : World} {gs : List Gt} {ys : List (GE w0 gs)} (h : ys.map (fun x => x.1.1) = downL gs.length gs.length) : cameG ys = gs.reverse := by
  have h1 : cameG ys = (ys.map (fun x => x.1.1)).map (fun i => gAt gs i) := by unfold cameG; rw [List.map_map]; rfl
  rw [h1, h]
  apply List.ext_getElem
  · simp [downL]
  · intro i h2 h3
    simp [downL, gAt] at h2 h3 ⊢
    rw [List.getElem?_eq_getElem (by omega)]
    rfl

theorem keep_of {o : Obj} (h : o.isCells = false) : keepO o := by cases o <;> simp_all [Obj.isCells, keepO]

def bodyFin (FIN : World → Prop) : Exit → Act → World → Prop
  | .normal, _, W => FIN W
  | _, _, _ => False

set_option maxRecDepth 100000 in
set_option maxHeartbeats 2000000 in
theorem reach_own (n : Nat) (hn : 6 ≤ n) (w0 w : World) (vg : Value) (gs : List Gt) (x : Int) (bl bg : Nat) (HG : IsGates w0 vg gs) (h1 : -9223372036854775808 ≤ x) (h2 : x ≤ 9223372036854775807) (hb0 : Below w0.heap.size w0 w)
    (hbl : bl < w.heap.size) (cl : w.cell? ⟨bl, 0, none⟩ = some (.int .i64 x)) (hbg : Boxed w bg 23 vg) :
    SeqOwn Fence.wide n Try.prog 49 #[.pointer (some ⟨bl, 0, none⟩), .pointer (some ⟨bg, 0, none⟩)] encV (KpR w0.heap.size bg (w.heap.size + 2)) (fun ys => ys.map (fun x => x.1) = reachL gs x) 65536 w := by
  intro l J W hWW hsz hJ hY h0
  have hn1 : 1 ≤ n := by omega
  have hn2 : 1 ≤ n - 1 := by omega
  have hn3 : 1 ≤ n - 1 - 1 := by omega
  have hn4 : 1 ≤ n - 1 - 1 - 1 := by omega
  have hmm := @run_makeMap Try.prog
  have q0 := Boxed.new W 76 (.func (.yield l) #[] #[])
  have q1 := SetI.made (W.alloc (.cells #[.func (.yield l) #[] #[]] 76))
  have q2 := Boxed.new ((W.alloc (.cells #[.func (.yield l) #[] #[]] 76)).alloc (.map #[] 0)) 57 (.map (some (W.heap.size + 1)))
  have q3 := Boxed.new (((W.alloc (.cells #[.func (.yield l) #[] #[]] 76)).alloc (.map #[] 0)).alloc (.cells #[.map (some (W.heap.size + 1))] 57)) 76 (.func (.func 50) #[] #[.pointer (some ⟨W.heap.size + 1 + 1, 0, none⟩), .pointer (some ⟨W.heap.size, 0, none⟩)])
  simp only [World.size_alloc] at q1 q2 q3
  have b0 := ((q0.alloc (.map #[] 0)).alloc (.cells #[.map (some (W.heap.size + 1))] 57)).alloc (.cells #[.func (.func 50) #[] #[.pointer (some ⟨W.heap.size + 1 + 1, 0, none⟩), .pointer (some ⟨W.heap.size, 0, none⟩)]] 76)
  have b2 := q2.alloc (.cells #[.func (.func 50) #[] #[.pointer (some ⟨W.heap.size + 1 + 1, 0, none⟩), .pointer (some ⟨W.heap.size, 0, none⟩)]] 76)
  have bA : Below W.heap.size W ((((W.alloc (.cells #[.func (.yield l) #[] #[]] 76)).alloc (.map #[] 0)).alloc (.cells #[.map (some (W.heap.size + 1))] 57)).alloc (.cells #[.func (.func 50) #[] #[.pointer (some ⟨W.heap.size + 1 + 1, 0, none⟩), .pointer (some ⟨W.heap.size, 0, none⟩)]] 76)) :=
    ((((Below.refl _ W).alloc (Nat.le_refl _) _).alloc (by simp) _).alloc (by simp; omega) _).alloc (by simp; omega) _
  have s1 : SetI ((((W.alloc (.cells #[.func (.yield l) #[] #[]] 76)).alloc (.map #[] 0)).alloc (.cells #[.map (some (W.heap.size + 1))] 57)).alloc (.cells #[.func (.func 50) #[] #[.pointer (some ⟨W.heap.size + 1 + 1, 0, none⟩), .pointer (some ⟨W.heap.size, 0, none⟩)]] 76)) (W.heap.size + 1) [] :=
    q1.below ((((Below.refl _ _).alloc (Nat.le_refl _) _).alloc (by simp) _)) (by simp)
  have j1 : J [] ((((W.alloc (.cells #[.func (.yield l) #[] #[]] 76)).alloc (.map #[] 0)).alloc (.cells #[.map (some (W.heap.size + 1))] 57)).alloc (.cells #[.func (.func 50) #[] #[.pointer (some ⟨W.heap.size + 1 + 1, 0, none⟩), .pointer (some ⟨W.heap.size, 0, none⟩)]] 76)) :=
    hJ.alloc _ (hJ.alloc _ (hJ.alloc _ (hJ.alloc _ h0)))
  have c1 : ((((W.alloc (.cells #[.func (.yield l) #[] #[]] 76)).alloc (.map #[] 0)).alloc (.cells #[.map (some (W.heap.size + 1))] 57)).alloc (.cells #[.func (.func 50) #[] #[.pointer (some ⟨W.heap.size + 1 + 1, 0, none⟩), .pointer (some ⟨W.heap.size, 0, none⟩)]] 76)).cell? ⟨bl, 0, none⟩ = some (.int .i64 x) := (bA.cell (p := ⟨bl, 0, none⟩) (by show bl < _; omega)).trans ((hWW.cell (p := ⟨bl, 0, none⟩) hbl).trans cl)
  have hbgW : Boxed W bg 23 vg := (hWW.block bg hbg.lt).trans hbg
  have hz4 : ((((W.alloc (.cells #[.func (.yield l) #[] #[]] 76)).alloc (.map #[] 0)).alloc (.cells #[.map (some (W.heap.size + 1))] 57)).alloc (.cells #[.func (.func 50) #[] #[.pointer (some ⟨W.heap.size + 1 + 1, 0, none⟩), .pointer (some ⟨W.heap.size, 0, none⟩)]] 76)).heap.size = W.heap.size + 4 := by simp
  have hbgl : bg < W.heap.size := hbgW.lt
  have hb0W : Below w0.heap.size w0 W := hb0.trans (hWW.mono hb0.size)
  have hsz0 : w0.heap.size ≤ W.heap.size := hb0W.size
  have b4 : Boxed ((((W.alloc (.cells #[.func (.yield l) #[] #[]] 76)).alloc (.map #[] 0)).alloc (.cells #[.map (some (W.heap.size + 1))] 57)).alloc (.cells #[.func (.func 50) #[] #[.pointer (some ⟨W.heap.size + 1 + 1, 0, none⟩), .pointer (some ⟨W.heap.size, 0, none⟩)]] 76)) bg 23 vg := (bA.block bg hbgl).trans hbgW
  have HTELL := Lib.hid (tell_in (n - 1) (by omega) (n - 1) l (W.heap.size + 1 + 1) (W.heap.size + 1) W.heap.size w0.heap.size bg (w.heap.size + 2) W.heap.size [] x J [] _ b2 b0 s1 vset_nil rfl j1 hJ (by omega) (by omega) (by omega) (by omega) h1 h2 hY)
  unfold TellPost at HTELL
  obtain ⟨ga, gc, rfl, hgl⟩ := HG.shape
  have C0 := Lib.hid b0
  have C2 := Lib.hid b2
  have C3 := Lib.hid q3
  have C4 := Lib.hid b4
  have HBA := Lib.hid bA
  have HB0 := Lib.hid hb0W
  have HJO := Lib.hid hJ
  have HYY := Lib.hid hY
  have HGG := Lib.hid HG
  have f78 : Fence.wide.fn 50 := trivial
  have f79 : Fence.wide.fn 51 := trivial
  clear q0 q1 q2 q3 b0 b2 b4 bA s1 j1 hJ hY h0 HG hbgW hbg cl hWW hb0 hb0W
  refine callsIn_of_wp_marks Try.func49 rfl trivial ?_ rfl
  simp only [Try.ntmps49, List.size_toArray, List.length_cons, List.length_nil, Nat.reduceAdd, Nat.reduceSub, Array.replicate_succ, Array.replicate_zero, List.push_toArray, List.append_toArray, List.nil_append, List.cons_append]
  gi_wp2_with (first
    | (gi_at_call 50; go_loud (refine HTELL.out.mono ?_; rintro e w5 ⟨rfl, hs5, ⟨q5, hq5, hj5⟩, hk5⟩; have d5 := (hk5.boxed C4.out (.inl rfl) (by omega) (by decide)); have d5c := d5.cell; have D5 := Lib.hid d5; have S5 := Lib.hid hs5; have Q5 := Lib.hid hq5; have J5 := Lib.hid hj5; have K5 := Lib.hid hk5; clear hs5 hq5 hj5 hk5 d5))
    | (gi_at_call 51; go_loud (refine (back_in _ _ _ _ _).mono ?_; rintro e w6 ⟨rfl, rfl⟩)))
  have hz5 : W.heap.size + 4 ≤ w5.heap.size := by have := K5.out.below.size; omega
  obtain ⟨w6, hw6⟩ : ∃ w6, w5.alloc (.cells #[.slice ga gs.length gc] 23) = w6 := ⟨_, rfl⟩
  obtain ⟨bx, hbx⟩ : ∃ bx, w5.heap.size = bx := ⟨_, rfl⟩
  have hz6 : w6.heap.size = bx + 1 := by rw [← hw6, ← hbx]; simp
  have X6 : Hid (Boxed w6 bx 23 (.slice ga gs.length gc)) := by show Boxed _ _ _ _; rw [← hw6, ← hbx]; exact Boxed.new _ _ _
  have D0 : Hid (Boxed w6 W.heap.size 76 (.func (.yield l) #[] #[])) := by show Boxed _ _ _ _; rw [← hw6]; exact (K5.out.boxed C0.out (.inr (by omega)) (by omega) (by decide)).alloc _
  have D2 : Hid (Boxed w6 (W.heap.size + 1 + 1) 57 (.map (some (W.heap.size + 1)))) := by show Boxed _ _ _ _; rw [← hw6]; exact (K5.out.boxed C2.out (.inr (by omega)) (by omega) (by decide)).alloc _
  have D3 : Hid (Boxed w6 (W.heap.size + 1 + 1 + 1) 76 (.func (.func 50) #[] #[.pointer (some ⟨W.heap.size + 1 + 1, 0, none⟩), .pointer (some ⟨W.heap.size, 0, none⟩)])) := by show Boxed _ _ _ _; rw [← hw6]; exact (K5.out.boxed C3.out (.inr (by omega)) (by omega) (by decide)).alloc _
  have S6 : Hid (SetI w6 (W.heap.size + 1) (tellL [] x)) := by show SetI _ _ _; rw [← hw6]; exact S5.out.below ((Below.refl _ _).alloc (Nat.le_refl _) _) (Nat.le_refl _)
  have J6 : Hid (J q5 w6) := by show J _ _; rw [← hw6]; exact HJO.out.alloc _ J5.out
  have B6 : Hid (Below w0.heap.size w0 w6) := by
    show Below _ _ _
    rw [← hw6]
    have h9 := HB0.out.trans ((HBA.out.mono hsz0).trans K5.out.below)
    exact h9.alloc h9.size _
  rw [hw6, hbx]
  clear D5 S5 J5 K5 C0 C2 C3 C4 HTELL HBA HB0 hw6
  have fB : Fence.wide.fn 71 := trivial
  refine wpIn_rangeFunc_ownH rfl (by omega) (gf := 71) (lb := #[.pointer (some ⟨bx, 0, none⟩)]) rfl trivial (enters_of Try.func71 (by kernel_rfl) rfl)
    (back_stops (n - 1) (by omega) bx w0 w6 _ gs HGG.out B6.out (by omega) X6.out.cell) (fun h k => ⟨h.1.trans k.1, k.2.trans h.2⟩)
    (fun W1 l1 o o' hl1 h _ _ => ⟨(Below.refl _ W1).grown (grownBy_putObj' W1 l1 o') (by have := (Array.getElem?_eq_some_iff.1 h).1; have := B6.out.size; omega) (fun k e => by cases e; have := B6.out.size; omega), World.putObj_heap_other (by omega)⟩) (Below.refl _ _) (fun _ => rfl)
    (fun pre W1 => (((SetI W1 (W.heap.size + 1) ((cameG pre).foldl reachG (tellL [] x)) ∧ ∃ q : List V16, q.map (fun x => x.1) = (cameG pre).foldl reachG (tellL [] x) ∧ J q W1) ∧ Boxed W1 (W.heap.size + 1 + 1) 57 (.map (some (W.heap.size + 1))) ∧ Boxed W1 W.heap.size 76 (.func (.yield l) #[] #[]) ∧ Boxed W1 (W.heap.size + 1 + 1 + 1) 76 (.func (.func 50) #[] #[.pointer (some ⟨W.heap.size + 1 + 1, 0, none⟩), .pointer (some ⟨W.heap.size, 0, none⟩)])) ∧ Boxed W1 bx 23 (.slice ga gs.length gc)) ∧ Below w0.heap.size w0 W1)
    (fun _ _ _ => False)
    (fun s A B row hs hg hr => by
      obtain ⟨⟨⟨⟨h1, q, h2, h3⟩, h4, h5, h6⟩, h7⟩, h8⟩ := hs
      have hne : ∀ B', B' < w6.heap.size → row ≠ some B' := fun B' hB' e => by have := (hr _ e).1; omega
      exact ⟨⟨⟨⟨h1.grown hg (hne _ (by omega)), q, h2, HJO.out _ A B row h3 hg (fun r e => ⟨by have := (hr r e).1; omega, (hr r e).2⟩)⟩, h4.kept hg (fun e => hne _ (by omega) e.symm), h5.kept hg (fun e => hne _ (by omega) e.symm), h6.kept hg (fun e => hne _ (by omega) e.symm)⟩, h7.kept hg (fun e => hne _ (by omega) e.symm)⟩, h8.grown hg h8.size (fun k e => by have := (hr k e).1; omega)⟩)
    (fun _ _ _ _ _ hs _ _ => hs)
    ⟨⟨⟨⟨S6.out, q5, Q5.out, J6.out⟩, D2.out, D0.out, D3.out⟩, X6.out⟩, B6.out⟩
    (fun e a' W1 => ∃ Bx, w6.heap.size ≤ Bx ∧ W1.heap[Bx]? = some (.cells #[.int .i64 (gAt gs e.1.1).1, .int .u8 (gAt gs e.1.1).2.1, e.1.2] 34 (0, 0)) ∧
      a' = { tmps := #[.func (.yield l) #[] #[], .pointer (some ⟨bl, 0, none⟩), .pointer (some ⟨bg, 0, none⟩), .pointer (some ⟨W.heap.size, 0, none⟩), .pointer (some ⟨W.heap.size + 1 + 1, 0, none⟩), .pointer (some ⟨W.heap.size + 1 + 1 + 1, 0, none⟩), undef, .pointer (some ⟨Bx, 0, none⟩), undef, undef, .map (some (W.heap.size + 1)), .func (.func 50) #[] #[.pointer (some ⟨W.heap.size + 1 + 1, 0, none⟩), .pointer (some ⟨W.heap.size, 0, none⟩)], .func (.func 50) #[] #[.pointer (some ⟨W.heap.size + 1 + 1, 0, none⟩), .pointer (some ⟨W.heap.size, 0, none⟩)], .int .i64 x, .bool true, .bool false, .slice ga gs.length gc, .func (.func 71) #[] #[.pointer (some ⟨bx, 0, none⟩)], .int .i64 (e.1.1 : Int), .agg #[.int .i64 (gAt gs e.1.1).1, .int .u8 (gAt gs e.1.1).2.1, e.1.2], undef, undef, undef, undef, undef, undef, undef, undef, undef, undef, undef, undef, undef, undef, undef, undef, undef], defers := [] })
    (fun e a' s A B row hs hg hr => by
      obtain ⟨Bx, h1, h2, h3⟩ := hs
      refine ⟨Bx, h1, (hg.block Bx (Array.getElem?_eq_some_iff.1 h2).1 (fun e1 => ?_)).trans h2, h3⟩
      obtain ⟨o, ho, hc⟩ := (hr _ e1.symm).2
      rw [h2] at ho
      cases ho
      cases hc) ?assign ?body ?done ?stop
  case assign =>
    rintro lp pre ⟨⟨i, u⟩, hi, hu, hr⟩ W6 K hI hK
    obtain ⟨⟨⟨⟨h1, q, h2, h3⟩, h4, h5, h6⟩, h7⟩, h8⟩ := hI
    obtain ⟨ua, uc, hue⟩ := hu.shape
    simp only at hue
    subst hue
    have hW6 : w6.heap.size ≤ W6.heap.size := by have := h7.lt; omega
    have hal : Below W6.heap.size W6 (W6.alloc (.cells #[.int .i64 (gAt gs i).1, .int .u8 (gAt gs i).2.1, .slice ua (gAt gs i).2.2.length uc] 34)) := (Below.refl _ _).alloc (Nat.le_refl _) _
    have HAL := Lib.hid hal
    have HK := Lib.hid hK
    have A1 := Lib.hid h1
    have A2 := Lib.hid h2
    have A3 := Lib.hid h3
    have A4 := Lib.hid h4
    have A5 := Lib.hid h5
    have A6 := Lib.hid h6
    have A7 := Lib.hid h7
    have A8 := Lib.hid h8
    have AI := Lib.hid hi
    have AU := Lib.hid hu
    have AR := Lib.hid hr
    clear hal hK h1 h2 h3 h4 h5 h6 h7 h8
    gi_wp2
    refine HK.out _ _ ((KeepsOthers.alloc _ _).from _) ⟨HAL.out.mono A8.out.size, HAL.out.block _ A7.out.lt⟩ ?_ ⟨W6.heap.size, hW6, World.alloc_heap_new _ _, rfl⟩
    exact ⟨⟨⟨⟨A1.out.below HAL.out (Nat.le_refl _), q, A2.out, HJO.out.alloc _ A3.out⟩, A4.out.alloc _, A5.out.alloc _, A6.out.alloc _⟩, A7.out.alloc _⟩, A8.out.trans (HAL.out.mono A8.out.size)⟩
  case body => 
    rintro lp pre ⟨⟨i, u⟩, hi, hu, hr⟩ a' W6 hl ⟨r, hlr⟩ ⟨⟨⟨⟨h1, q, h2, h3⟩, h4, h5, h6⟩, h7⟩, h8⟩ ⟨Bx, hBx, hcX, rfl⟩ hlen
    obtain ⟨ua, uc, hue⟩ := hu.shape
    simp only at hue
    subst hue
    simp only at hi hu hr hcX
    have x0 : W6.cell? ⟨Bx, 0, none⟩ = some (.int .i64 (gAt gs i).1) := by simp [World.cell?, hcX]
    have x2 : W6.cell? ⟨Bx, 2, none⟩ = some (.slice ua (gAt gs i).2.2.length uc) := by simp [World.cell?, hcX]
    have hsz6 : w6.heap.size ≤ W6.heap.size := by have := h7.lt; omega
    have HNX : Hid ((cameG (pre ++ [(⟨(i, .slice ua (gAt gs i).2.2.length uc), hi, hu, hr⟩ : GE w0 gs)])).foldl reachG (tellL [] x) = reachG ((cameG pre).foldl reachG (tellL [] x)) (gAt gs i)) := by
      show _ = _
      rw [show cameG (pre ++ [(⟨(i, .slice ua (gAt gs i).2.2.length uc), hi, hu, hr⟩ : GE w0 gs)]) = cameG pre ++ [gAt gs i] from by simp [cameG], List.foldl_append]
      rfl
    have HVS : Hid (Vset ((cameG pre).foldl reachG (tellL [] x))) := vset_fold (vset_tell vset_nil x) _
    generalize (cameG pre).foldl reachG (tellL [] x) = S at *
    have HNE : Hid (reachG S (gAt gs i) = (cameG (pre ++ [(⟨(i, .slice ua (gAt gs i).2.2.length uc), hi, hu, hr⟩ : GE w0 gs)])).foldl reachG (tellL [] x)) := HNX.out.symm
    clear HNX
    obtain ⟨S', hS'⟩ : ∃ S', reachG S (gAt gs i) = S' := ⟨_, rfl⟩
    have HNX : Hid (S' = reachG S (gAt gs i)) := hS'.symm
    rw [hS'] at HNE
    have HR := Lib.hid hr
    have hu2 := hu
    have HU := Lib.hid hu2
    have HHX := Lib.hid hcX
    have H2 := Lib.hid h2
    have H3 := Lib.hid h3
    have H7 := Lib.hid h7
    have H8 := Lib.hid h8
    have H4 := Lib.hid h4
    have H5 := Lib.hid h5
    have H6 := Lib.hid h6
    have cbs := h4.cell
    have cbt := h6.cell
    have hz : ∀ X : World, (zeroValue 4).run Try.prog X = .ok (.bool false) X := fun _ => rfl
    have HS := Lib.hid h1
    have hbxl : W.heap.size + 4 ≤ bx := by omega
    clear hcX h2 h3 h5 h6 h7 h8 h4
    refine wpIn_mono (Q := bodyFin (fun W1 => KeepsFrom w6.heap.size W6 W1 ∧ KpB w0.heap.size bx W6 W1 ∧ (((SetI W1 (W.heap.size + 1) S' ∧ ∃ q : List V16, q.map (fun x => x.1) = S' ∧ J q W1) ∧ Boxed W1 (W.heap.size + 1 + 1) 57 (.map (some (W.heap.size + 1))) ∧ Boxed W1 W.heap.size 76 (.func (.yield l) #[] #[]) ∧ Boxed W1 (W.heap.size + 1 + 1 + 1) 76 (.func (.func 50) #[] #[.pointer (some ⟨W.heap.size + 1 + 1, 0, none⟩), .pointer (some ⟨W.heap.size, 0, none⟩)])) ∧ Boxed W1 bx 23 (.slice ga gs.length gc)) ∧ Below w0.heap.size w0 W1)) ?_ ?fin
    case fin =>
      intro e a3 W3 hp
      cases e with
      | normal =>
        rw [HNE.out] at hp
        exact hp
      | _ => exact hp.elim
    clear HNE hS'
    dsimp only
    clear hi hu hr hu2
    generalize gAt gs i = y at *
    obtain ⟨y1, y2, y3⟩ := y
    simp only at x0 x2 HU HR HNX
    have b1 := HR.out.1.1
    have b2 := HR.out.1.2
    have hla := HS.out.look (hz W6) y1 (i64w b1 b2)
    have hyl : y3.length ≤ 17592186044416 := by obtain ⟨_, _, _, _, _, h, _⟩ := HU.out; exact h
    clear h1 hz b1 b2
    by_cases hm : y1 ∈ S
    · have hd : decide (y1 ∈ S) = true := by simpa using hm
      rw [hd] at hla
      have HNY : Hid (S' = tellsL S y3) := by show _ = _; rw [HNX.out]; unfold reachG; rw [if_pos hm]
      clear hm hd HNX
      gi_wp2
      gi_loopw [28] (fun i wr => ∃ (t : Nat) (T : List Int) (q : List V16), t ≤ y3.length ∧ i = .int .i64 t ∧ T = tellsL S (y3.take t) ∧ Vset T ∧ SetI wr (W.heap.size + 1) T ∧ q.map (fun x => x.1) = T ∧ J q wr ∧ KpX w0.heap.size bg (w.heap.size + 2) (W.heap.size + 1) W6 wr) (fun i _ => y3.length - (intOf i).toNat)
      case atStart => exact ⟨0, S, q, Nat.zero_le _, rfl, by simp [tellsL], HVS.out, HS.out, H2.out, H3.out, KpX.refl _ _ _ _ _⟩
      case round =>
        clear hla x0 x2 cbs cbt
        obtain ⟨t, T, q1, ht, rfl, hT, hv, hset, hq, hj, hkx⟩ := hrel
        have HT := Lib.hid hT
        have HV := Lib.hid hv
        have HSE := Lib.hid hset
        have HQ := Lib.hid hq
        have HJ := Lib.hid hj
        have HX := Lib.hid hkx
        clear hT hv hset hq hj hkx
        by_cases hlt : t < y3.length
        · obtain ⟨b, off, rfl, hb, hc0⟩ := HU.out.cellY hlt
          have hcx := ((H8.out.trans HX.out.below).cell (p := ⟨b, off + t, none⟩) hb).trans hc0
          have h64 : In64 y3 := by obtain ⟨_, _, _, _, _, _, g, _⟩ := HU.out; exact g
          have hxr := h64 _ (ints_getD_mem hlt)
          have HTK : Hid (tellsL S (y3.take (t + 1)) = tellL T (y3.getD t 0)) := by show _ = _; rw [HT.out, ints_take_succ hlt, tells_snoc]
          have bsr := HX.out.boxed H4.out (.inr (by omega)) (by omega) (by decide)
          have byr := HX.out.boxed H5.out (.inr (by omega)) (by omega) (by decide)
          have btr := HX.out.boxed H6.out (.inr (by omega)) (by omega) (by decide)
          have HTL := Lib.hid (tell_in (n - 1 - 1 - 1) hn4 (n - 1) l (W.heap.size + 1 + 1) (W.heap.size + 1) W.heap.size w0.heap.size bg (w.heap.size + 2) W.heap.size T (y3.getD t 0) J q1 wr bsr byr HSE.out HV.out HQ.out HJ.out HJO.out (by omega) (by omega) (by omega) (by omega) hxr.1 hxr.2 HYY.out)
          unfold TellPost at HTL
          have btc := btr.cell
          have HVN : Hid (Vset (tellL T (y3.getD t 0))) := vset_tell HV.out _
          have hk0 : (0 : Int) ≤ (t : Int) := by omega
          have hk1 : (t : Int) < (y3.length : Int) := by omega
          have hk2 : (t : Int) < 17592186044417 := by omega
          have HKL := Lib.hid hlt
          clear hc0 h64 hxr bsr byr btr hlt
          generalize y3.getD t 0 = z at *
          gi_wp2_with (gi_at_call 50; go_loud (refine (CallsIn.inRound lp HTL.out).mono ?_; rintro e w7 ⟨rfl, hs7, ⟨q7, hq7, hj7⟩, hk7⟩; have S7 := Lib.hid hs7; have Q7 := Lib.hid hq7; have J7 := Lib.hid hj7; have K7 := Lib.hid hk7; clear hs7 hq7 hj7 hk7))
          go_roundw
          case rel => exact ⟨t + 1, _, q7, HKL.out, by go_num, HTK.out.symm, HVN.out, S7.out, Q7.out, J7.out, HX.out.trans K7.out⟩
          case measure => have := HKL.out; simp [intOf]; omega
        · obtain rfl : t = y3.length := by omega
          rw [List.take_length, ← HNY.out] at HT
          have hTS := HT.out
          subst hTS
          gi_wp2
          exact ⟨⟨HX.out.below.size, fun k o hk ho hc => HX.out.same k o (.inr (by omega)) (by omega) ho (keep_of hc)⟩, ⟨HX.out.below, (HX.out.same bx _ (.inr (by omega)) (by omega) H7.out (by simp [keepO])).trans H7.out.symm⟩,
            ⟨⟨⟨HSE.out, q1, HQ.out, HJ.out⟩, HX.out.boxed H4.out (.inr (by omega)) (by omega) (by decide), HX.out.boxed H5.out (.inr (by omega)) (by omega) (by decide), HX.out.boxed H6.out (.inr (by omega)) (by omega) (by decide)⟩, HX.out.boxed H7.out (.inr (by omega)) (by omega) (by decide)⟩, H8.out.trans HX.out.below⟩
    · have hd : decide (y1 ∈ S) = false := by simpa using hm
      rw [hd] at hla
      have HNY : Hid (S' = S) := by show _ = _; rw [HNX.out]; unfold reachG; rw [if_neg hm]
      clear hm hd HNX
      have hSS := HNY.out
      subst hSS
      gi_wp2
      exact ⟨KeepsFrom.refl _ _, ⟨Below.refl _ _, rfl⟩, ⟨⟨⟨HS.out, q, H2.out, H3.out⟩, H4.out, H5.out, H6.out⟩, H7.out⟩, H8.out⟩
  case done =>
    rintro D ys W6 hD hys ⟨⟨⟨⟨h1, q, h2, h3⟩, h4, h5, h6⟩, h7⟩, h8⟩ hK
    have hx : (cameG ys).foldl reachG (tellL [] x) = reachL gs x := by
      rw [came_all hys]
      unfold reachL reachUp
      rw [List.take_of_length_le (by simp)]
    rw [hx] at h2
    gi_wp2
    refine ⟨by simp, .inl ⟨_, _, rfl, run_takeDeferred hK, ?_⟩⟩
    refine ⟨_, results_none rfl _ _ _, ⟨_, rfl⟩, q, h2, HJO.out.putObj _ h3 (by omega) hK rfl⟩
  case stop => 
    rintro D c pre W6 hD hpre h
    exact h.elim
end Go.Proofs.Ytafenijbglcppaa
