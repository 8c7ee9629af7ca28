/- Joined texts: CxReachP, CxSeq, CxBack. -/
import Derived.Test.YtfghjfljomcldaaGreatK06
import Derived.Test.YtfghjfljomcldaaGreatK02
import Derived.RangeFuncNested
import Derived.RangeFuncBound
import Derived.RangeFuncCalls
import Derived.RangeFuncLeaves
import Derived.RangeFuncBox
import Derived.Shelf.Abstract
import Derived.Shelf.RegionOpen
import Derived.OwnWalkIn
import Derived.TacticsInMore
import Derived.LoopNIn
import Derived.LoopIn
/- What is reached from a literal in a list of gates; which variables are free. (Plain lists.) -/
namespace Go.Proofs.YtfghjfljomcldaaGreat
open Go.RowKit
set_option linter.unusedVariables false
set_option linter.unusedSimpArgs false

def tellL (S : List Int) (x : Int) : List Int := if entB S (varC x) = true then S ++ [varC x] else S
def tellsL (S : List Int) (l : List Int) : List Int := l.foldl tellL S
def reachG (S : List Int) (g : Gt) : List Int := if g.1 ∈ S then tellsL S g.2.2 else S
/-- What is reached when the last k gates have been looked at. -/
def reachUp (gs : List Gt) (x : Int) (k : Nat) : List Int := (gs.reverse.take k).foldl reachG (tellL [] x)
def reachL (gs : List Gt) (x : Int) : List Int := reachUp gs x gs.length
theorem ent_iff {S : List Int} {v : Int} : entB S v = true ↔ 1 ≤ v ∧ v ≤ 65536 ∧ v ∉ S := by unfold entB; exact decide_eq_true_iff
/-- The sets that grow so: variables, each once. -/
def Vset (S : List Int) : Prop := S.Nodup ∧ ∀ v ∈ S, 1 ≤ v ∧ v ≤ 65536
theorem vset_nil : Vset [] := ⟨List.nodup_nil, by simp⟩
theorem vset_add {S : List Int} {v : Int} (h : Vset S) (k : entB S v = true) : Vset (S ++ [v]) := by
  rw [ent_iff] at k
  refine ⟨List.nodup_append.2 ⟨h.1, by simp, fun a ha b hb => ?_⟩, fun y hy => ?_⟩
  · rw [List.mem_singleton] at hb
    subst hb
    exact fun e => k.2.2 (e ▸ ha)
  · rcases List.mem_append.1 hy with hy | hy
    · exact h.2 y hy
    · rw [List.mem_singleton] at hy
      subst hy
      exact ⟨k.1, k.2.1⟩
theorem vset_tell {S : List Int} (h : Vset S) (x : Int) : Vset (tellL S x) := by
  unfold tellL
  split
  · rename_i k; exact vset_add h k
  · exact h
theorem vset_tells {S : List Int} (h : Vset S) (l : List Int) : Vset (tellsL S l) := by
  unfold tellsL
  induction l generalizing S with
  | nil => exact h
  | cons x r ih => exact ih (vset_tell h x)
theorem vset_reachG {S : List Int} (h : Vset S) (g : Gt) : Vset (reachG S g) := by
  unfold reachG
  split
  · exact vset_tells h _
  · exact h
theorem vset_fold {S : List Int} (h : Vset S) (l : List Gt) : Vset (l.foldl reachG S) := by
  induction l generalizing S with
  | nil => exact h
  | cons x r ih => exact ih (vset_reachG h x)
theorem vset_up (gs : List Gt) (x : Int) (k : Nat) : Vset (reachUp gs x k) := vset_fold (vset_tell vset_nil x) _
theorem nodup_sub_len {l : List Int} : ∀ {m : List Int}, l.Nodup → (∀ x ∈ l, x ∈ m) → l.length ≤ m.length := by
  induction l with
  | nil => intro m _ _; simp
  | cons x r ih =>
    intro m hn hs
    rw [List.nodup_cons] at hn
    have h1 := ih (m := m.erase x) hn.2 (fun y hy => by
      have hne : y ≠ x := fun e => hn.1 (by rw [← e]; exact hy)
      exact (List.mem_erase_of_ne hne).2 (hs y (List.mem_cons_of_mem _ hy)))
    have h2 := List.length_erase_of_mem (hs x List.mem_cons_self)
    have h3 := List.length_pos_of_mem (hs x List.mem_cons_self)
    simp only [List.length_cons]
    omega
theorem vset_len {S : List Int} (h : Vset S) : S.length ≤ 65536 := by
  have h1 := nodup_sub_len (m := (List.range 65536).map (fun i : Nat => (i : Int) + 1)) h.1 (fun v hv => by
    have := h.2 v hv
    exact List.mem_map.2 ⟨v.toNat - 1, List.mem_range.2 (by omega), by omega⟩)
  rwa [List.length_map, List.length_range] at h1
theorem tell_len (S : List Int) (x : Int) : (tellL S x).length ≤ S.length + 1 := by
  unfold tellL
  split
  · simp
  · omega
theorem tells_len (S : List Int) (l : List Int) : (tellsL S l).length ≤ S.length + l.length := by
  unfold tellsL
  induction l generalizing S with
  | nil => simp
  | cons x r ih =>
    have h1 := ih (tellL S x)
    have h2 := tell_len S x
    simp only [List.foldl_cons, List.length_cons]
    omega
theorem tells_snoc (S : List Int) (l : List Int) (x : Int) : tellsL S (l ++ [x]) = tellL (tellsL S l) x := by unfold tellsL; rw [List.foldl_append]; rfl
theorem reach_zero (gs : List Gt) (x : Int) : reachUp gs x 0 = tellL [] x := by simp [reachUp]
theorem reach_succ {gs : List Gt} (x : Int) {k : Nat} (hk : k < gs.length) : reachUp gs x (k + 1) = reachG (reachUp gs x k) (gs.getD (gs.length - 1 - k) dG) := by
  unfold reachUp
  rw [List.take_add_one, List.foldl_append]
  have h1 : gs.reverse[k]? = some (gs.getD (gs.length - 1 - k) dG) := by
    rw [List.getElem?_reverse hk]
    rw [List.getD, List.getElem?_eq_getElem (by omega)]
    rfl
  rw [h1]
  rfl
theorem tell_mono (S : List Int) (x : Int) : S <+: tellL S x := by
  unfold tellL
  split
  · exact List.prefix_append _ _
  · exact List.prefix_refl _
theorem tells_mono (S : List Int) (l : List Int) : S <+: tellsL S l := by
  unfold tellsL
  induction l generalizing S with
  | nil => exact List.prefix_refl _
  | cons x r ih => exact (tell_mono S x).trans (ih _)
theorem reachG_mono (S : List Int) (g : Gt) : S <+: reachG S g := by
  unfold reachG
  split
  · exact tells_mono _ _
  · exact List.prefix_refl _
theorem fold_mono (S : List Int) (l : List Gt) : S <+: l.foldl reachG S := by
  induction l generalizing S with
  | nil => exact List.prefix_refl _
  | cons x r ih => exact (reachG_mono S x).trans (ih _)

/-- The variables up to m that are not in a set. -/
def freeUp (S : List Int) (m : Nat) : List Int := ((List.range m).map (fun i : Nat => (i : Int) + 1)).filter (fun v => !decide (v ∈ S))
def unusedL (S : List Int) (k : Nat) : List Int := (freeUp S 65536).take k
theorem freeUp_succ (S : List Int) (m : Nat) : freeUp S (m + 1) = freeUp S m ++ (if ((m : Int) + 1) ∈ S then [] else [(m : Int) + 1]) := by
  unfold freeUp
  rw [List.range_succ, List.map_append, List.filter_append]
  congr 1
  by_cases h : ((m : Int) + 1) ∈ S <;> simp [h]
theorem freeUp_pre (S : List Int) {m n : Nat} (h : m ≤ n) : freeUp S m <+: freeUp S n := by
  induction n with
  | zero => obtain rfl : m = 0 := by omega
            exact List.prefix_refl _
  | succ n ih =>
    by_cases e : m = n + 1
    · subst e; exact List.prefix_refl _
    · rw [freeUp_succ]
      exact (ih (by omega)).trans (List.prefix_append _ _)
theorem unused_at {S : List Int} {k m : Nat} (hm : m ≤ 65536) (hl : (freeUp S m).length ≤ k) (h : m = 65536 ∨ k ≤ (freeUp S m).length) : unusedL S k = freeUp S m := by
  unfold unusedL
  rcases h with rfl | h
  · exact List.take_of_length_le hl
  · obtain ⟨r, hr⟩ := freeUp_pre S hm
    rw [← hr, List.take_append_of_le_length h]
    exact List.take_of_length_le hl
theorem freeUp_len (S : List Int) (m : Nat) : (freeUp S m).length ≤ m := by
  unfold freeUp
  refine Nat.le_trans (List.length_filter_le _ _) ?_
  simp
theorem freeUp_bd {S : List Int} {m : Nat} (hm : m ≤ 65536) : ∀ v ∈ freeUp S m, 1 ≤ v ∧ v ≤ 65536 := by
  intro v hv
  unfold freeUp at hv
  obtain ⟨h1, _⟩ := List.mem_filter.1 hv
  obtain ⟨i, hi, rfl⟩ := List.mem_map.1 h1
  rw [List.mem_range] at hi
  omega
theorem freeUp_mem {S : List Int} {m : Nat} {v : Int} (h : v ∈ freeUp S m) : v ∉ S := by
  unfold freeUp at h
  have := (List.mem_filter.1 h).2
  simpa using this
theorem filter_two (p : Int → Bool) (l : List Int) : (l.filter (fun x => !p x)).length + (l.filter p).length = l.length := by
  induction l with
  | nil => rfl
  | cons x r ih => cases h : p x <;> simp [List.filter_cons, h] <;> omega
/-- Where few are used, some are free. -/
theorem freeUp_many (S : List Int) (m : Nat) : m ≤ (freeUp S m).length + S.length := by
  have h2 : ((List.range m).map (fun i : Nat => (i : Int) + 1)).Nodup := by
    refine List.pairwise_map.2 (List.nodup_range.imp ?_)
    intro a b h e
    exact h (by omega)
  have h3 := filter_two (fun v => decide (v ∈ S)) ((List.range m).map (fun i : Nat => (i : Int) + 1))
  have h4 := nodup_sub_len (l := ((List.range m).map (fun i : Nat => (i : Int) + 1)).filter (fun v => decide (v ∈ S))) (m := S) (h2.filter _) (fun v hv => by simpa using (List.mem_filter.1 hv).2)
  rw [List.length_map, List.length_range] at h3
  unfold freeUp
  omega

end Go.Proofs.YtfghjfljomcldaaGreat

/- A range over an iterator that keeps things of its own which are no cells (a map, a loop's record), where each round goes on: one law for the caller. -/
namespace Go.Proofs.YtfghjfljomcldaaGreat
open Go.RowKit Go.Shelf
set_option linter.unusedVariables false
set_option linter.unusedSimpArgs false

/-- An iterator whose rounds all go on: what the caller says of the worlds between the rounds may not lean on things that are no cells and that were made since the call began. -/
def SeqOwn {α : Type} (F : Fence) (n : Nat) (P : Program) (g : Nat) (lb : Array Value) (encs : α → Array Value) (Kp : World → World → Prop) (S : List α → Prop) (N : Nat) (w : World) : Prop :=
  ∀ (l : Nat) (J : List α → World → Prop) (W : World), Below w.heap.size w W → w.heap.size + 2 ≤ W.heap.size → OwnFrom W.heap.size J →
    (∀ pre x W1, J pre W1 → pre.length < N → YieldAt F (n - 1) P l (encs x) W1 fun e W' => e = .returned (.bool true) ∧ J (pre ++ [x]) W' ∧ Kp W1 W') →
    J [] W →
    CallsIn F n P g (#[.func (.yield l) #[] #[]] ++ lb) W fun e W' => (∃ v, e = .returned v) ∧ ∃ xs, S xs ∧ J xs W'

abbrev noStop {α : Type} : Code → List α → World → Prop := fun _ _ _ => False

/-- The caller of such an iterator. -/
theorem wpIn_rangeAll {α : Type} {F : Fence} {n : Nat} {P : Program} {g : Operand} {ps : Array Tmp} {assign body : Code} {Q : Exit → Act → World → Prop} {a : Act} {w : World}
    (hro : F.round = none) (h1 : 1 ≤ n) {gf : Nat} {lb : Array Value} (hg : a.eval g = .func (.func gf) #[] lb) (hFg : F.fn gf) (eg : ∀ args w, (callFunc gf args).run P w = .ok (.enter gf args) w)
    {encs : α → Array Value} {Kp : World → World → Prop} {S : List α → Prop} {N : Nat} (hseq : SeqOwn F (n - 1) P gf lb encs Kp S N w)
    (hKt : ∀ {A B C : World}, Kp A B → Kp B C → Kp A C) (hKb : ∀ (W : World) (o' : Obj), w.heap.size + 1 < W.heap.size → Kp W (W.putObj (w.heap.size + 1) o')) (hps : ∀ x, (encs x).size = ps.size)
    (I : List α → World → Prop) (hI : OwnFrom w.heap.size I) (h0 : I [] w) (a₁ : α → Act)
    (hassign : ∀ (l : Nat) (x : α) (W : World) (K : Act → World → Prop), K (a₁ x) W →
      assign.wpIn (F.inRound l) (n - 1 - 1) P (Exit.then K (fun _ _ _ => False)) { tmps := (ps.zip (encs x)).foldl (fun t (p, v) => t.setIfInBounds p v) a.tmps, defers := [] } W)
    (hbody : ∀ (l : Nat) (pre : List α) (x : α) (W : World), I pre W → pre.length < N → body.wpIn (F.inRound l) (n - 1 - 1) P (ownPostG w.heap.size Kp I noStop (pre ++ [x]) W) (a₁ x) W)
    (hdone : ∀ (D : Nat) (xs : List α) (W : World), w.heap.size ≤ D → S xs → I xs W → W.heap[D]? = some (.deferred (some [])) → Q .normal { a with defers := { target := .collected D, args := #[] } :: a.defers } W) :
    (Code.rangeFunc g ps assign body).wpIn F n P Q a w := by
  refine wpIn_rangeFunc ?_
  intro fn hfn
  rw [hro]
  obtain ⟨rec, hrec⟩ : ∃ rec : LoopState → Option Code → Loop, rec = fun st pe => { state := st, pending := pe, fn, tmps := a.tmps, params := ps, assign, body, defers := w.heap.size } := ⟨_, rfl⟩
  obtain ⟨W1, hW1⟩ : ∃ W1, (w.alloc (.deferred (some []))).alloc (.loop (rec .ready none)) = W1 := ⟨_, rfl⟩
  have hz1 : W1.heap.size = w.heap.size + 2 := by rw [← hW1]; simp
  have hL1 : W1.heap[w.heap.size + 1]? = some (.loop (rec .ready none)) := by
    rw [← hW1]; have := World.alloc_heap_new (w.alloc (.deferred (some []))) (.loop (rec .ready none)); rwa [World.size_alloc] at this
  have hK1 : W1.heap[w.heap.size]? = some (.deferred (some [])) := by
    rw [← hW1]; exact (Below.heap_alloc _ _ _ (by simp)).trans (World.alloc_heap_new w _)
  have hI1 : I [] W1 := by rw [← hW1]; exact hI.alloc _ (hI.alloc _ h0)
  have hb1 : Below w.heap.size w W1 := by
    rw [← hW1]; exact ((Below.refl _ w).alloc (Nat.le_refl _) _).alloc (by simp) _
  refine ⟨w.heap.size + 1, [{ target := .collected w.heap.size, args := #[] }], W1, { target := .fn (.func gf) lb, args := #[.func (.yield (w.heap.size + 1)) #[] #[]] }, W1, gf,
    #[.func (.yield (w.heap.size + 1)) #[] #[]] ++ lb, W1, ?_, ?_, ?_, ?_, fun _ => h1, ?_⟩
  · rw [← hW1, hrec]; exact run_enterLoop_outer _ _ _ _ _
  · simp only [resolve, hg]
    simp [go_sem]
  · intro f' hf'; simp [Target.leads] at hf'; subst hf'; exact hFg
  · simp [invoke, go_sem, eg]
  · have far : ∀ {A B : World} {row : Option Nat} {k : Nat} {o : Obj}, A.grownBy B row → (∀ r, row = some r → W1.heap.size ≤ r ∧ ∃ o : Obj, A.heap[r]? = some o ∧ o.isCells = false) → k < w.heap.size + 2 → A.heap[k]? = some o → B.heap[k]? = some o :=
      fun hgr hr hk ho => (hgr.block _ (Array.getElem?_eq_some_iff.1 ho).1 (fun e => by have := (hr _ e.symm).1; omega)).trans ho
    refine (hseq (w.heap.size + 1)
      (fun pre W => I pre W ∧ W.heap[w.heap.size + 1]? = some (.loop (rec .ready none)) ∧ W.heap[w.heap.size]? = some (.deferred (some [])))
      W1 hb1 (by omega)
      (fun s A B row hs hg' hr => ⟨hI s A B row hs.1 hg' (fun r e => ⟨by have := (hr r e).1; omega, (hr r e).2⟩), far hg' hr (by omega) hs.2.1, far hg' hr (by omega) hs.2.2⟩)
      ?_ ⟨hI1, hL1, hK1⟩).mono ?_
    · rintro pre x W ⟨hi, hl, hk⟩ hlen
      have hlt : w.heap.size + 1 < W.heap.size := (Array.getElem?_eq_some_iff.1 hl).1
      have hy := run_yield (P := P) (args := encs x) hl (by rw [hrec]; exact hps x)
      rw [hrec] at hy
      refine ⟨fn, _, assign, body, hy, roundIn_of_wpIn hfn (hassign _ x W _ ⟨_, run_beginRound hl (by rw [hrec]), ?_⟩)⟩
      have hl2 : (W.putObj (w.heap.size + 1) (.loop { rec .ready none with state := .busy })).heap[w.heap.size + 1]? = some (.loop { rec .ready none with state := .busy }) := World.putObj_heap_same hlt
      have hk2 : (W.putObj (w.heap.size + 1) (.loop { rec .ready none with state := .busy })).heap[w.heap.size]? = some (.deferred (some [])) := (World.putObj_heap_other (by omega)).trans hk
      have hw2 : Kp W (W.putObj (w.heap.size + 1) (.loop { rec .ready none with state := .busy })) := hKb _ _ hlt
      refine wpIn_mono (hbody _ pre x _ (hI.putObj _ hi (by omega) hl rfl) hlen) ?_
      rintro e a3 W3 hp
      cases e with
      | normal =>
        obtain ⟨hk3, hkp3, hi3⟩ := hp
        have hl3 := hk3.same _ _ (by omega) hl2 rfl
        have hr := run_endRound (P := P) none hl3
        rw [hrec] at hr
        refine ⟨_, _, hr, rfl, ⟨hI.putObj _ hi3 (by omega) hl3 rfl, ?_, (World.putObj_heap_other (by omega)).trans (hk3.same _ _ (Nat.le_refl _) hk2 rfl)⟩, hKt (hKt hw2 hkp3) (hKb _ _ (Array.getElem?_eq_some_iff.1 hl3).1)⟩
        rw [hrec]
        exact World.putObj_heap_same (Array.getElem?_eq_some_iff.1 hl3).1
      | ret => exact hp.2.elim
      | exit id => exact hp.2.elim
      | goto t => exact hp.2.elim
      | panic ch => exact hp.elim
      | outgrown => exact hp.elim
    · rintro e W2 ⟨⟨v, rfl⟩, xs, hS, hi, hl, hk⟩
      exact ⟨none, _, by have := run_endLoop (P := P) hl (by rw [hrec]; simp); rw [hrec] at this; exact this, hdone _ xs _ (Nat.le_refl _) hS (hI.putObj _ hi (by omega) hl rfl) ((World.putObj_heap_other (by omega)).trans hk)⟩

end Go.Proofs.YtfghjfljomcldaaGreat

/- slices.Backward over gates: an iterator over the gates from the last to the first, each with its index. -/
namespace Go.Proofs.YtfghjfljomcldaaGreat
open Go.RowKit Go.Shelf
set_option linter.unusedVariables false
set_option linter.unusedSimpArgs false
attribute [local go_sem] Oper.semAt_some

/-- Gate i of a list. -/
def gAt (gs : List Gt) (i : Nat) : Gt := gs.getD i dG
/-- A gate of a list: its index, and the value of its literals. -/
abbrev GE (w0 : World) (gs : List Gt) : Type := { x : Nat × Value // x.1 < gs.length ∧ IsInts w0 x.2 (gAt gs x.1).2.2 ∧ (-9223372036854775808 ≤ (gAt gs x.1).1 ∧ (gAt gs x.1).1 ≤ 9223372036854775807) ∧ 0 ≤ (gAt gs x.1).2.1 ∧ (gAt gs x.1).2.1 ≤ 255 }
abbrev encGE {w0 : World} {gs : List Gt} (x : GE w0 gs) : Array Value := #[.int .i64 (x.1.1 : Int), .agg #[.int .i64 (gAt gs x.1.1).1, .int .u8 (gAt gs x.1.1).2.1, x.1.2]]
/-- The indices n-1, n-2, .., k of them. -/
def downL (n k : Nat) : List Nat := (List.range k).map (fun i => n - 1 - i)
theorem downL_succ (n k : Nat) : downL n (k + 1) = downL n k ++ [n - 1 - k] := by unfold downL; rw [List.range_succ, List.map_append]; rfl
theorem downL_prefix (n : Nat) {k m : Nat} (h : k ≤ m) : downL n k <+: downL n m := by
  induction m with
  | zero => obtain rfl : k = 0 := by omega
            exact List.prefix_refl _
  | succ m ih =>
    by_cases e : k = m + 1
    · subst e; exact List.prefix_refl _
    · rw [downL_succ]
      exact (ih (by omega)).trans (List.prefix_append _ _)
/-- What a round keeps: all below n0, and a box. -/
def KpB (n0 bx : Nat) (A B : World) : Prop := Below n0 A B ∧ B.heap[bx]? = A.heap[bx]?
theorem KpB.cell {n0 bx : Nat} {A B : World} (h : KpB n0 bx A B) : B.cell? ⟨bx, 0, none⟩ = A.cell? ⟨bx, 0, none⟩ := World.cell?_of_block (w := A) (a := ⟨bx, 0, none⟩) h.2

end Go.Proofs.YtfghjfljomcldaaGreat
