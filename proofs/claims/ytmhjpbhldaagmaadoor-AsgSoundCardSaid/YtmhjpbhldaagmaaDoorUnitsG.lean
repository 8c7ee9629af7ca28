/- A clause's number is put with one of its literals. -/
import Derived.Test.YtmhjpbhldaagmaaDoorMgW
namespace Go.Proofs.YtmhjpbhldaagmaaDoor
open Go.RowKit
set_option linter.unusedVariables false

theorem PS.putG {S : Nat → Prop} {n : Nat} {w w' : World} {vf vw : Value} {nh ng ng' : Nat} {Hf : Int → Bool} {G G' : Int → List Nat} {left wait : List Int} (s : PS n w vf vw nh ng Hf G left wait) (k : Kept S w w')
    (hS : ∀ g, g < w.heap.size → S g → g = n + 1 ∨ (n + 4 ≤ g ∧ vw.ownBlock ≠ some g)) (m : MapG Tryd.prog 3 3 w' (n + 4) (n + 1) ng' (fun g => vw.ownBlock = some g) G') : PS n w' vf vw nh ng' Hf G' left wait := by
  have hsz := s.size
  refine ⟨(k.block _ (by omega) (fun h => by have := hS _ (by omega) h; omega)).trans s.obj, s.hm.kept k (fun h => by have := hS _ (by omega) h; omega), m, k.row s.lr (fun g hg h => ?_), k.row s.wr (fun g hg h => ?_), s.hh⟩
  · have e : g = n + 2 := by simpa [Value.ownBlock] using hg.symm
    have := hS g (by omega) h; omega
  · have h1 := s.wr.lt g hg
    rcases hS g h1.2 h with e | e
    · omega
    · exact e.2 hg
theorem ofN_app (l : List Nat) (k : Nat) : ofN (l ++ [k]) = ofN l ++ [(k : Int)] := by simp [ofN]
theorem In64_ofN {l : List Nat} (h : ∀ i ∈ l, i ≤ 1000000) : ∀ z ∈ ofN l, (Lit.int .i64 z).wf = true := by
  intro z hz
  simp only [ofN, List.mem_map] at hz
  obtain ⟨i, hi, rfl⟩ := hz
  have := h i hi
  exact i64w (by omega) (by omega)

/-- What a store behind the append leaves. -/
def GStep (n : Nat) (wr W : World) (vf vw : Value) (nh ng : Nat) (Hf : Int → Bool) (G : Int → List Nat) (left wait : List Int) (x : Int) (k : Nat) (v : Value) : Prop :=
  ∀ (v' : Value) (w1 : World), Own w1 (n + 4) v' (ofN (G x) ++ [(k : Int)]) → W.grownBy w1 v.ownBlock → (v'.ownBlock = v.ownBlock ∨ v'.ownBlock = some W.heap.size) →
    ∃ w2, (Instr.mapUpdate 112 (.map (some (n + 1))) (.int .i64 x) v').run Tryd.prog w1 = .ok () w2 ∧ PS n w2 vf vw nh (ng + 1) Hf (fun j => if j = x then G x ++ [k] else G j) left wait ∧ Below n wr w2 ∧ w1.cell? ⟨n + 3, 2, none⟩ = some (.map (some (n + 1)))

theorem grp_step {n : Nat} {wr : World} {vf vw : Value} {nh ng : Nat} {Hf : Int → Bool} {G : Int → List Nat} {left wait : List Int} (s : PS n wr vf vw nh ng Hf G left wait) (x : Int) (hx1 : -65536 ≤ x) (hx2 : x ≤ 65536) (k : Nat) (hk : k ≤ 1000000) (hng : ng ≤ 1000000) (hG : ∀ i ∈ G x, i ≤ 1000000) (o : Obj) :
    ∃ v1 v2, (Instr.lookup 112 (.map (some (n + 1))) (.int .i64 x) false).run Tryd.prog wr.drew = .ok v1 wr.drew ∧ (Instr.lookup 112 (.map (some (n + 1))) (.int .i64 x) false).run Tryd.prog (wr.alloc o).drew = .ok v2 (wr.alloc o).drew ∧
      Own (wr.alloc o).drew (n + 4) v1 (ofN (G x)) ∧ Own (wr.alloc o).drew (n + 4) v2 (ofN (G x)) ∧ (ofN (G x)).length ≤ ng ∧ GStep n wr (wr.alloc o).drew vf vw nh ng Hf G left wait x k v1 ∧ GStep n wr (wr.alloc o).drew vf vw nh ng Hf G left wait x k v2 := by
  have hsz := s.size
  have s1 : PS n wr.drew vf vw nh ng Hf G left wait := s.quiet ⟨1, rfl⟩
  have s2 : PS n (wr.alloc o).drew vf vw nh ng Hf G left wait := (s.alloc o).quiet ⟨1, rfl⟩
  obtain ⟨v1, r1, o1, l1, h1, b1⟩ := s1.gm.at (t := 112) Tryd.underlying3 Tryd.underlying112 (zero_ints _) (by unfold maxLen; omega) x (i64w (by omega) (by omega))
  obtain ⟨v2, r2, o2, l2, h2, b2⟩ := s2.gm.at (t := 112) Tryd.underlying3 Tryd.underlying112 (zero_ints _) (by unfold maxLen; omega) x (i64w (by omega) (by omega))
  have far : ∀ g, vw.ownBlock = some g → n + 4 ≤ g ∧ g < wr.heap.size := fun g hg => s.wr.lt g hg
  have wf : ∀ z ∈ ofN (G x ++ [k]), (Lit.int .i64 z).wf = true := In64_ofN (fun i hi => by
    rcases List.mem_append.1 hi with h | h
    · exact hG i h
    · have : i = k := by simpa using h
      omega)
  have hl : (wr.alloc o).drew.heap.size = wr.heap.size + 1 := by simp
  refine ⟨v1, v2, r1, r2, (own_of o1).alloc o, own_of o2, by rw [ofN_len]; exact l1, ?_, ?_⟩
  · intro v' w1 ho hg hloc
    have hg0 : wr.drew.grownBy w1 v1.ownBlock := (World.grownBy_alloc wr.drew o _).trans hg
    obtain ⟨w2, hr, hm, hg2⟩ := b1 w1 v' k hg0 ⟨by rw [← ofN_app] at ho; exact ho, wf⟩ (by
      rcases hloc with h | h
      · exact Or.inl h
      · exact Or.inr ⟨_, h, by rw [hl]; show wr.heap.size ≤ _; omega⟩) (fun g hgv hgw => by
      rcases hloc with h | h
      · exact h1 g (by rw [← h]; exact hgv) hgw
      · rw [h, hl] at hgv
        have := (far g hgw).2
        simp at hgv; omega)
    have hc5 : w1.cell? ⟨n + 3, 2, none⟩ = some (.map (some (n + 1))) := ((Kept.of_grown hg0).cell (p := ⟨n + 3, 2, none⟩) (by show n + 3 < wr.heap.size; omega) (fun e => by have h9 := (o1.1.lt _ e).1; simp at h9)).trans s1.cells.2.2.1
    refine ⟨w2, hr, s1.putG ((Kept.of_grown hg0).mono (T := fun g => v1.ownBlock = some g ∨ g = n + 1) (fun i _ e => Or.inl e) |>.next (Kept.of_grown hg2) (fun i _ e => Or.inr (by simpa using e.symm))) (fun g hgl e => ?_) hm, ?_, hc5⟩
    · rcases e with e | e
      · exact Or.inr ⟨(o1.1.lt g e).1, h1 g e⟩
      · exact Or.inl e
    · have hbb := ((Below.refl n wr).trans (Quiet.below (⟨1, rfl⟩ : Quiet wr wr.drew) n)).grown hg0 (by show n ≤ wr.heap.size; omega) (fun g e => by have := (o1.1.lt g e).1; omega)
      exact hbb.grown hg2 (by have h3 : wr.heap.size ≤ w1.heap.size := hg0.size; omega) (fun g e => by have h4 : g = n + 1 := (by simpa using e.symm); omega)
  · intro v' w1 ho hg hloc
    obtain ⟨w2, hr, hm, hg2⟩ := b2 w1 v' k hg ⟨by rw [← ofN_app] at ho; exact ho, wf⟩ (by
      rcases hloc with h | h
      · exact Or.inl h
      · exact Or.inr ⟨_, h, Nat.le_refl _⟩) (fun g hgv hgw => by
      rcases hloc with h | h
      · exact h2 g (by rw [← h]; exact hgv) hgw
      · rw [h, hl] at hgv
        have := (far g hgw).2
        simp at hgv; omega)
    have hc5 : w1.cell? ⟨n + 3, 2, none⟩ = some (.map (some (n + 1))) := ((Kept.of_grown hg).cell (p := ⟨n + 3, 2, none⟩) (by show n + 3 < (wr.alloc o).drew.heap.size; omega) (fun e => by have h9 := (o2.1.lt _ e).1; simp at h9)).trans s2.cells.2.2.1
    refine ⟨w2, hr, s2.putG ((Kept.of_grown hg).mono (T := fun g => v2.ownBlock = some g ∨ g = n + 1) (fun i _ e => Or.inl e) |>.next (Kept.of_grown hg2) (fun i _ e => Or.inr (by simpa using e.symm))) (fun g hgl e => ?_) hm, ?_, hc5⟩
    · rcases e with e | e
      · exact Or.inr ⟨(o2.1.lt g e).1, h2 g e⟩
      · exact Or.inl e
    · have h0 : Below n wr (wr.alloc o).drew := ((Below.refl n wr).alloc (by omega) o).trans (Quiet.below (⟨1, rfl⟩ : Quiet (wr.alloc o) (wr.alloc o).drew) n)
      have hbb := h0.grown hg (by rw [hl]; omega) (fun g e => by have := (o2.1.lt g e).1; omega)
      exact hbb.grown hg2 (by have h3 := hg.size; rw [hl] at h3; omega) (fun g e => by have h4 : g = n + 1 := (by simpa using e.symm); omega)

end Go.Proofs.YtmhjpbhldaagmaaDoor
