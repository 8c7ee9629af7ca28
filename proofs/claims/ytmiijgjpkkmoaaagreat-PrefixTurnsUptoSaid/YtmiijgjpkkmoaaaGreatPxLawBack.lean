/- The law PrefixBack, walked. -/
import Derived.Test.YtmiijgjpkkmoaaaGreatPxDqbf
import Derived.Test.YtmiijgjpkkmoaaaGreatMpQ
import Derived.Test.YtmiijgjpkkmoaaaGreatPxHeadB
import Derived.Test.YtmiijgjpkkmoaaaGreatPxRMayQ
import Derived.Test.YtmiijgjpkkmoaaaGreatPxRMayD
namespace Go.Proofs.YtmiijgjpkkmoaaaGreat
open Go.RowKit Go.Shelf Go.Lib
set_option linter.unusedVariables false
set_option linter.unusedSimpArgs false

theorem asc_blocks {P : List Blk} (hm : mayP P = true) : (P.map (fun x => (x.1, ascI x.2))).length ≤ 1024 ∧ ∀ b ∈ P.map (fun x => (x.1, ascI x.2)), b.2.length ≤ 17592186044416 ∧ In64 b.2 := by
  have h1 := mayP_len hm
  obtain ⟨_, _, hr, _⟩ := alt_may hm
  refine ⟨by rw [List.length_map]; exact h1.2, fun b hb => ?_⟩
  obtain ⟨x, hx, rfl⟩ := List.mem_map.1 hb
  refine ⟨by rw [ascI_len]; have := len_flatB hx; omega, fun v hv => ?_⟩
  have := hr v (mem_flatB hx (ascI_mem.1 hv))
  omega
theorem dq_to (vp vc : Value) (P : List Blk) (C : List (List Int)) (w : World) (HP : IsBlocks w vp P) (HC : IsRows w vc C) (hp : P.length ≤ 4000000) (hm : mayQB P C = true) :
    Calls Tryz.prog 8 #[.agg #[vp, vc]] w fun e w' => ∃ ua un uc ea en ec, e = .returned (.tuple #[.agg #[.slice ua un uc, .slice ea en ec, vc], .int .i64 0]) ∧ IsInts w' (.slice ua un uc) (dqU [] P) ∧ IsDeps w' (.slice ea en ec) (byVar (dqE [] P)) ∧ Below w.heap.size w w' :=
  (pdqbf_any vp vc P C w HP HC hp).mono fun e w' h => by
    obtain ⟨⟨_, vu, ve, rfl, hu, he⟩ | ⟨h2, _⟩, hb⟩ := h
    · obtain ⟨ua, uc, rfl, _⟩ := hu.shape
      obtain ⟨ea, ec, rfl, _⟩ := he.shape
      exact ⟨_, _, _, _, _, _, rfl, hu, he, hb⟩
    · rw [hm] at h2; cases h2
theorem dq_no (vp vc : Value) (P : List Blk) (C : List (List Int)) (w : World) (HP : IsBlocks w vp P) (HC : IsRows w vc C) (hp : P.length ≤ 4000000) (hm : mayQB P C = false) :
    Calls Tryz.prog 8 #[.agg #[vp, vc]] w fun e w' => e = .returned (.tuple #[.agg #[.slice none 0 0, .slice none 0 0, .slice none 0 0], .int .i64 2]) ∧ Below w.heap.size w w' :=
  (pdqbf_any vp vc P C w HP HC hp).mono fun e w' h => by
    obtain ⟨⟨h2, _⟩ | ⟨_, h2⟩, hb⟩ := h
    · rw [hm] at h2; cases h2
    · exact ⟨h2, hb⟩
theorem lin_to (vu ve vc : Value) (P : List Blk) (C : List (List Int)) (w : World) (HU : IsInts w vu (dqU [] P)) (HE : IsDeps w ve (byVar (dqE [] P))) (HC : IsRows w vc C) (hm : mayQB P C = true) :
    Calls Tryz.prog 10 #[.agg #[vu, ve, vc]] w fun e w' => ∃ a n c, e = .returned (.tuple #[.slice a n c, .int .i64 0]) ∧ IsBlocks w' (.slice a n c) (P.map (fun x => (x.1, ascI x.2))) ∧ Below w.heap.size w w' := by
  have hmq := hm
  unfold mayQB at hmq
  simp only [Bool.and_eq_true] at hmq
  obtain ⟨hmp, hmc, hmw⟩ := hmq
  have hmd := rows_may hmp hmc hmw
  have h64e : In64 (exOf (byVar (dqE [] P))) := by
    intro x hx
    have h1 := (mayD_ok.1 hmd).1.2.2.2.1 x (List.mem_append_right _ hx)
    omega
  refine (linearA_any vu ve vc _ _ C w HU HE HC h64e hmd).mono ?_
  rintro e w' ⟨s, hs, v, t, rfl, hst, hsh, hb⟩
  have hl : linR ((byKey s).map (fun x => (x.v, x.l))) (dqU [] P) = (P.map (fun x => (x.1, ascI x.2)), 0) := lin_back hmp hs
  rw [hl] at hsh ⊢
  simp only at hsh
  have hab := asc_blocks hmp
  have htl : t.length ≤ 1024 := by rw [← shapeT_len t, hsh]; exact hab.1
  have hbl := hst.blocks (by omega) (fun x hx => hab.2 (x.1, x.2.2) (by rw [← hsh]; exact List.mem_map.2 ⟨x, hx, rfl⟩))
  rw [hsh] at hbl
  obtain ⟨a, c, rfl⟩ := hst.shape
  exact ⟨a, _, c, rfl, hbl, hb⟩
theorem lists_yes (v u : Value) (l : List (List Int)) (w : World) (H : IsRows w v l) (K : IsRows w u l) : Calls Tryz.prog 47 #[v, u] w fun e w' => e = .returned (.bool true) ∧ Below w.heap.size w w' :=
  (lists_any v u l l w H K).mono fun e w' h => ⟨by rw [h.1]; simp [sameB], h.2.below _⟩

theorem box3 {w2 w4 : World} {v0 v1 v2 : Value} (hb4 : Below (w2.alloc (.cells #[v0, v1, v2] 29)).heap.size (w2.alloc (.cells #[v0, v1, v2] 29)) w4) :
    Below w2.heap.size w2 w4 ∧ ∀ X, Below w4.heap.size w4 X → X.cell? ⟨w2.heap.size, 0, none⟩ = some v0 ∧ X.cell? ⟨w2.heap.size, 1, none⟩ = some v1 ∧ X.cell? ⟨w2.heap.size, 2, none⟩ = some v2 := by
  have h1 : Below w2.heap.size w2 (w2.alloc (.cells #[v0, v1, v2] 29)) := (Below.refl _ _).alloc (Nat.le_refl _) _
  have h2 := hb4.size
  simp only [World.alloc, Array.size_push] at h2
  have key : ∀ X, Below w4.heap.size w4 X → ∀ i v, (#[v0, v1, v2] : Array Value)[i]? = some v → X.cell? ⟨w2.heap.size, i, none⟩ = some v := fun X hX i v hv =>
    (hX.cell (p := ⟨w2.heap.size, i, none⟩) (by simp only; omega)).trans ((hb4.cell (p := ⟨w2.heap.size, i, none⟩) (by simp)).trans (cell_fresh hv))
  exact ⟨h1.trans (hb4.mono h1.size), fun X hX => ⟨key X hX 0 _ rfl, key X hX 1 _ rfl, key X hX 2 _ rfl⟩⟩

end Go.Proofs.YtmiijgjpkkmoaaaGreat
