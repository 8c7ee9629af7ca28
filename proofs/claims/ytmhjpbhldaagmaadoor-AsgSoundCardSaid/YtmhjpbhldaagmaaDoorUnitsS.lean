/- The state of unit propagation in memory. -/
import Derived.Test.YtmhjpbhldaagmaaDoorMgX
import Derived.Test.YtmhjpbhldaagmaaDoorMgD
namespace Go.Proofs.YtmhjpbhldaagmaaDoor
open Go.RowKit
set_option linter.unusedVariables false

/-- Four blocks from n on: the literals that are true, the clauses of each literal, the counters, the struct; whatever else is the call's own lies behind them. -/
structure PS (n : Nat) (w : World) (vf vw : Value) (nh ng : Nat) (Hf : Int → Bool) (G : Int → List Nat) (left wait : List Int) : Prop where
  obj : w.heap[n + 3]? = some (.cells #[vf, .map (some n), .map (some (n + 1)), .slice (some ⟨n + 2, 0, none⟩) left.length left.length, vw] 115 (0, 0))
  hm : MapB Tryd.prog 3 4 w n nh Hf
  gm : MapG Tryd.prog 3 3 w (n + 4) (n + 1) ng (fun g => vw.ownBlock = some g) G
  lr : Own w (n + 2) (.slice (some ⟨n + 2, 0, none⟩) left.length left.length) left
  wr : Own w (n + 4) vw wait
  hh : hp wait wait.length

section
variable {n : Nat} {w w' : World} {vf vw : Value} {nh ng : Nat} {Hf : Int → Bool} {G : Int → List Nat} {left wait : List Int}

theorem PS.size (s : PS n w vf vw nh ng Hf G left wait) : n + 4 ≤ w.heap.size := by have := (Array.getElem?_eq_some_iff.1 s.obj).1; omega
theorem PS.fld (s : PS n w vf vw nh ng Hf G left wait) : Fld w (n + 3) 4 #[vf, .map (some n), .map (some (n + 1)), .slice (some ⟨n + 2, 0, none⟩) left.length left.length, vw] 115 vw := ⟨s.obj, rfl⟩
theorem PS.cells (s : PS n w vf vw nh ng Hf G left wait) : w.cell? ⟨n + 3, 0, none⟩ = some vf ∧ w.cell? ⟨n + 3, 1, none⟩ = some (.map (some n)) ∧ w.cell? ⟨n + 3, 2, none⟩ = some (.map (some (n + 1))) ∧ w.cell? ⟨n + 3, 3, none⟩ = some (.slice (some ⟨n + 2, 0, none⟩) left.length left.length) ∧ w.cell? ⟨n + 3, 4, none⟩ = some vw := by
  refine ⟨?_, ?_, ?_, ?_, ?_⟩ <;> simp [World.cell?, s.obj]
theorem PS.far (s : PS n w vf vw nh ng Hf G left wait) : ∀ g, vw.ownBlock = some g → n + 4 ≤ g := fun g hg => (s.wr.lt g hg).1

/-- While blocks turn that are none of the state's. -/
theorem PS.kept {S : Nat → Prop} (s : PS n w vf vw nh ng Hf G left wait) (k : Kept S w w') (hS : ∀ g, g < w.heap.size → S g → g < n) : PS n w' vf vw nh ng Hf G left wait := by
  have hsz := s.size
  have no : ∀ g, n ≤ g → g < w.heap.size → ¬ S g := fun g h1 h2 h3 => by have := hS g h2 h3; omega
  refine ⟨(k.block _ (by omega) (no _ (by omega) (by omega))).trans s.obj, s.hm.kept k (no n (Nat.le_refl _) (by omega)), s.gm.kept k (fun g hg h => ?_) (fun g h => Or.inl h), k.row s.lr (fun g hg => ?_), k.row s.wr (fun g hg => ?_), s.hh⟩
  · have := hS g hg h; exact ⟨by omega, Or.inr (by omega)⟩
  · have : g = n + 2 := by simpa [Value.ownBlock] using hg.symm
    exact no g (by omega) (by omega)
  · have := s.wr.lt g hg
    exact no g (by omega) this.2
theorem PS.alloc (s : PS n w vf vw nh ng Hf G left wait) (o : Obj) : PS n (w.alloc o) vf vw nh ng Hf G left wait := s.kept (Kept.alloc (fun _ => False) w o) (fun _ _ h => h.elim)
theorem PS.quiet (s : PS n w vf vw nh ng Hf G left wait) (q : Quiet w w') : PS n w' vf vw nh ng Hf G left wait := s.kept (Kept.quiet (fun _ => False) q) (fun _ _ h => h.elim)
/-- A counter is written. -/
theorem PS.setLeft (s : PS n w vf vw nh ng Hf G left wait) (i : Nat) (y : Int) : PS n (w.setCell ⟨n + 2, i, none⟩ (.int .i64 y)) vf vw nh ng Hf G (left.set i y) wait := by
  have k := Kept.setCell w ⟨n + 2, i, none⟩ (.int .i64 y)
  refine ⟨?_, s.hm.kept k (fun h => by simp at h), s.gm.kept k (fun g hg h => ?_) (fun g h => Or.inl h), ?_, k.row s.wr (fun g hg h => ?_), s.hh⟩
  · rw [Below.heap_setCell _ _ _ _ (by simp), List.length_set]; exact s.obj
  · simp at h; exact ⟨by omega, Or.inr (by omega)⟩
  · rw [List.length_set]; exact s.lr.store i y
  · simp at h; have := s.far g hg; omega
/-- A literal is put into the map. -/
theorem PS.putH {h' : Int → Bool} {nh' : Nat} (s : PS n w vf vw nh ng Hf G left wait) (k : Kept (fun i => i = n) w w') (m : MapB Tryd.prog 3 4 w' n nh' h') : PS n w' vf vw nh' ng h' G left wait := by
  have hsz := s.size
  refine ⟨(k.block _ (by omega) (by omega)).trans s.obj, m, s.gm.kept k (fun g hg h => ⟨by omega, Or.inr (by omega)⟩) (fun g h => Or.inl h), k.row s.lr (fun g hg h => ?_), k.row s.wr (fun g hg h => ?_), s.hh⟩
  · have : g = n + 2 := by simpa [Value.ownBlock] using hg.symm
    omega
  · have := s.far g hg; omega
/-- Something waits that did not. -/
theorem PS.now {vw' : Value} {m : List Int} (s : PS n w vf vw nh ng Hf G left wait) (h : FldNow w (n + 4) (n + 3) 4 #[vf, .map (some n), .map (some (n + 1)), .slice (some ⟨n + 2, 0, none⟩) left.length left.length, vw] 115 vw vw' m w') (hm : hp m m.length) : PS n w' vf vw' nh ng Hf G left m := by
  obtain ⟨h1, h2, h3, k⟩ := h
  have hsz := s.size
  have hfar := s.far
  refine ⟨h2.1, s.hm.kept k (fun h => ?_), s.gm.kept k (fun g hg h => ?_) (fun g h => ?_), k.row s.lr (fun g hg h => ?_), h1, hm⟩
  · rcases h with h | h
    · have := hfar _ h; omega
    · omega
  · rcases h with h | h
    · have := hfar _ h; exact ⟨by omega, Or.inl h⟩
    · exact ⟨by omega, Or.inr (by omega)⟩
  · rcases h3 with e | ⟨g', e, hge⟩
    · exact Or.inl (by rw [← e]; exact h)
    · rw [e] at h
      have : g' = g := by simpa using h
      exact Or.inr (by omega)
  · have : g = n + 2 := by simpa [Value.ownBlock] using hg.symm
    rcases h with h | h
    · have := hfar _ h; omega
    · omega
theorem below_now {vw' : Value} {m : List Int} {cs : Array Value} {T : TypeId} (h : FldNow w (n + 4) (n + 3) 4 cs T vw vw' m w') (hf : ∀ g, vw.ownBlock = some g → n + 4 ≤ g) (hn : n ≤ w.heap.size) : Below n w w' :=
  h.2.2.2.below hn (fun k hk e => by rcases e with e | e; (have := hf _ e; omega); omega)
/-- A slice of the map's stays while something is pushed. -/
theorem ints_now {vw' v : Value} {m : List Int} {cs : Array Value} {T : TypeId} {zs : List Int} (h : FldNow w (n + 4) (n + 3) 4 cs T vw vw' m w') (ho : w.ownsInts (n + 4) 3 .i64 v zs) (hv : ∀ g, v.ownBlock = some g → vw.ownBlock ≠ some g) :
    w'.ownsInts (n + 4) 3 .i64 v zs ∧ ∀ g, v.ownBlock = some g → vw'.ownBlock ≠ some g := by
  obtain ⟨h1, h2, h3, k⟩ := h
  refine ⟨⟨k.row ho.1 (fun g hg e => ?_), ho.2⟩, fun g hg e => ?_⟩
  · rcases e with e | e
    · exact hv g hg e
    · have := (ho.1.lt g hg).1; omega
  · rcases h3 with e2 | ⟨g', e2, hge⟩
    · exact hv g hg (by rw [← e2]; exact e)
    · rw [e2] at e
      have : g' = g := by simpa using e
      have := (ho.1.lt g hg).2
      omega

end

end Go.Proofs.YtmhjpbhldaagmaaDoor
