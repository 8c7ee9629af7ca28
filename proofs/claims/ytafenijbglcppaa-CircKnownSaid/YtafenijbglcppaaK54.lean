/- Joined texts: CxKnMem. -/
import Derived.Test.YtafenijbglcppaaK51
import Derived.Test.YtafenijbglcppaaK36
import Derived.Test.YtafenijbglcppaaK21
import Derived.Test.YtafenijbglcppaaK16
/- What the law CircKnown writes down: its tables in memory, and what the calls answer. -/
namespace Go.Proofs.Ytafenijbglcppaa
open Go.RowKit Go.Maps Go.Shelf
set_option linter.unusedVariables false
set_option linter.unusedSimpArgs false

/-- The law's first table: a kind, its literals, and what it is under the four lists. -/
def knT : List (Int × List Int × List Bool) := [(1, [], [true, true, true, true]), (1, [1, -2], [false, true, false, false]), (2, [], [false, false, false, false]), (2, [1, -2], [true, true, false, true]), (3, [1, 2], [false, true, true, false]), (3, [1, 1], [false, false, false, false]), (4, [1, 2, -2], [true, false, false, true]), (4, [-1, 2, 1], [false, true, true, true])]
def knA : List (List Int) := [[-1, -2], [1], [2], [1, 2]]
abbrev dK : Int × List Int × List Bool := (0, [], [])
set_option maxRecDepth 100000 in
theorem kn_all : (List.range 8).all (fun k => (List.range 4).all (fun j => decide (evalN [(false, [2, 1])] [(3, (knT.getD k dK).1, (knT.getD k dK).2.1)] 3 (knA.getD j []) = ((knT.getD k dK).2.2.getD j false, 0)))) = true := by kernel_rfl
theorem kn_eval {k j : Nat} (hk : k < 8) (hj : j < 4) : evalN [(false, [2, 1])] [(3, (knT.getD k dK).1, (knT.getD k dK).2.1)] 3 (knA.getD j []) = ((knT.getD k dK).2.2.getD j false, 0) := by
  have h1 := List.all_eq_true.1 kn_all k (List.mem_range.2 hk)
  have h2 := List.all_eq_true.1 h1 j (List.mem_range.2 hj)
  exact of_decide_eq_true h2

theorem knC1 : cofN exP exG 5 [4] = (noNet, 6) := by kernel_rfl
theorem knC2 : cofN exP exG 5 [2, 1] = (noNet, 2) := by kernel_rfl
theorem knM1 : composeN exP exG 5 4 exP exG 5 = (noNet, 6) := by kernel_rfl
theorem knM2 : composeN exP exG 5 3 exP exG 5 = (noNet, 4) := by kernel_rfl
theorem knE : evalN [] [] 0 [] = (false, 2) := by kernel_rfl
theorem knS : supN exP exG 5 0 = ([], 6) := by kernel_rfl
theorem knO1 : looseN [1] [(4, 2, [5]), (5, 2, [4, 1])] = true := by kernel_rfl
theorem knO2 : looseN [1, 1] [] = false := by kernel_rfl
theorem knO3 : OrdR [1] [(4, 2, [5]), (5, 2, [4, 1])] [] [] := .done (fun i hi _ => by
  have hi2 : i < 2 := hi
  obtain rfl | rfl : i = 0 ∨ i = 1 := by omega
  · show rdy [1] [(4, 2, [5]), (5, 2, [4, 1])] [] 0 = false
    decide
  · show rdy [1] [(4, 2, [5]), (5, 2, [4, 1])] [] 1 = false
    decide)
/-- The nets that are not valid. -/
def knB : List (List Blk × List Gt × Int) := [([], [], 1), ([(false, [])], [], 1), ([(false, [1]), (false, [2])], [], 1), ([(false, [1, 1])], [], 1), ([(false, [1])], [(2, 1, [2])], 2), ([(false, [1])], [(2, 3, [1])], 2), ([(false, [65537])], [], 1)]
theorem knB_all : knB.all (fun n => !mayN n.1 n.2.1 n.2.2) = true := by kernel_rfl
/-- Order of gates that use each other in a circle. -/
theorem kn_cycle {vi vg : Value} (X : World) (HI : IsInts X vi [1]) (HG : IsGates X vg [(4, 2, [5]), (5, 2, [4, 1])]) :
    Calls Try.prog 6 #[vi, vg] X fun e w' => e = .returned (.tuple #[.slice none 0 0, .int .i64 50]) ∧ Below X.heap.size X w' := by
  refine (corder_any vi vg _ _ X HI HG (by decide) (by decide) (by decide)).mono ?_
  rintro e w' ⟨hb, ⟨k1, _⟩ | ⟨_, k1, _⟩ | ⟨_, _, T, hT, _, _, hk⟩⟩
  · rw [knO1] at k1; cases k1
  · exact absurd k1 (by decide)
  · have hTe := ordR_one hT _ knO3
    subst hTe
    rcases hk with ⟨_, he⟩ | ⟨h1, _⟩
    · exact ⟨he, hb⟩
    · exact absurd h1 (by decide)
theorem kn_twice {vi : Value} (X : World) (HI : IsInts X vi [1, 1]) :
    Calls Try.prog 6 #[vi, .slice none 0 0] X fun e w' => e = .returned (.tuple #[.slice none 0 0, .int .i64 2]) ∧ Below X.heap.size X w' := by
  refine (corder_any vi _ [1, 1] [] X HI (IsGates.nil _) (by decide) (by decide) (by decide)).mono ?_
  rintro e w' ⟨hb, ⟨_, he⟩ | ⟨k1, _⟩ | ⟨k1, _⟩⟩
  · exact ⟨he, hb⟩
  · rw [knO2] at k1; cases k1
  · rw [knO2] at k1; cases k1

theorem kn_table (W1 W : World) (h : ((((((W1.alloc (.cells #[.int .i64 1, .int .i64 (-2)] 3)).alloc (.cells #[.int .i64 1, .int .i64 (-2)] 3)).alloc (.cells #[.int .i64 1, .int .i64 2] 3)).alloc (.cells #[.int .i64 1, .int .i64 1] 3)).alloc (.cells #[.int .i64 1, .int .i64 2, .int .i64 (-2)] 3)).alloc (.cells #[.int .i64 (-1), .int .i64 2, .int .i64 1] 3)).alloc (.cells #[.int .u8 1, .slice none 0 0, .string ⟨#[49, 49, 49, 49]⟩, .int .u8 1, .slice (some ⟨W1.heap.size, 0, none⟩) 2 2, .string ⟨#[48, 49, 48, 48]⟩, .int .u8 2, .slice none 0 0, .string ⟨#[48, 48, 48, 48]⟩, .int .u8 2, .slice (some ⟨W1.heap.size + 1, 0, none⟩) 2 2, .string ⟨#[49, 49, 48, 49]⟩, .int .u8 3, .slice (some ⟨W1.heap.size + 1 + 1, 0, none⟩) 2 2, .string ⟨#[48, 49, 49, 48]⟩, .int .u8 3, .slice (some ⟨W1.heap.size + 1 + 1 + 1, 0, none⟩) 2 2, .string ⟨#[48, 48, 48, 48]⟩, .int .u8 4, .slice (some ⟨W1.heap.size + 1 + 1 + 1 + 1, 0, none⟩) 3 3, .string ⟨#[49, 48, 48, 49]⟩, .int .u8 4, .slice (some ⟨W1.heap.size + 1 + 1 + 1 + 1 + 1, 0, none⟩) 3 3, .string ⟨#[48, 49, 49, 49]⟩] 29) = W) : Below W1.heap.size W1 W ∧ W.heap.size = W1.heap.size + 7 ∧ (W.heap[W1.heap.size]? = some (.cells #[.int .i64 1, .int .i64 (-2)] 3 (0, 0)) ∧ W.heap[W1.heap.size + 1]? = some (.cells #[.int .i64 1, .int .i64 (-2)] 3 (0, 0)) ∧ W.heap[W1.heap.size + 1 + 1]? = some (.cells #[.int .i64 1, .int .i64 2] 3 (0, 0)) ∧ W.heap[W1.heap.size + 1 + 1 + 1]? = some (.cells #[.int .i64 1, .int .i64 1] 3 (0, 0)) ∧ W.heap[W1.heap.size + 1 + 1 + 1 + 1]? = some (.cells #[.int .i64 1, .int .i64 2, .int .i64 (-2)] 3 (0, 0)) ∧ W.heap[W1.heap.size + 1 + 1 + 1 + 1 + 1]? = some (.cells #[.int .i64 (-1), .int .i64 2, .int .i64 1] 3 (0, 0)) ∧ W.heap[W1.heap.size + 1 + 1 + 1 + 1 + 1 + 1]? = some (.cells #[.int .u8 1, .slice none 0 0, .string ⟨#[49, 49, 49, 49]⟩, .int .u8 1, .slice (some ⟨W1.heap.size, 0, none⟩) 2 2, .string ⟨#[48, 49, 48, 48]⟩, .int .u8 2, .slice none 0 0, .string ⟨#[48, 48, 48, 48]⟩, .int .u8 2, .slice (some ⟨W1.heap.size + 1, 0, none⟩) 2 2, .string ⟨#[49, 49, 48, 49]⟩, .int .u8 3, .slice (some ⟨W1.heap.size + 1 + 1, 0, none⟩) 2 2, .string ⟨#[48, 49, 49, 48]⟩, .int .u8 3, .slice (some ⟨W1.heap.size + 1 + 1 + 1, 0, none⟩) 2 2, .string ⟨#[48, 48, 48, 48]⟩, .int .u8 4, .slice (some ⟨W1.heap.size + 1 + 1 + 1 + 1, 0, none⟩) 3 3, .string ⟨#[49, 48, 48, 49]⟩, .int .u8 4, .slice (some ⟨W1.heap.size + 1 + 1 + 1 + 1 + 1, 0, none⟩) 3 3, .string ⟨#[48, 49, 49, 49]⟩] 29 (0, 0))) := by
  subst h
  refine ⟨((((((((Below.refl W1.heap.size W1).alloc (by simp) _).alloc (by simp <;> omega) _).alloc (by simp <;> omega) _).alloc (by simp <;> omega) _).alloc (by simp <;> omega) _).alloc (by simp <;> omega) _).alloc (by simp <;> omega) _), by simp, ?_⟩
  refine ⟨?_, ?_, ?_, ?_, ?_, ?_, ?_⟩
  all_goals (repeat (first | (refine heap_hit ?_; simp; done) | refine heap_skip (by simp <;> omega) ?_))
theorem kn_table2 (W1 W : World) (h : ((((((W1.alloc (.cells #[.int .i64 1, .int .i64 (-2)] 3)).alloc (.cells #[.int .i64 1, .int .i64 (-2)] 3)).alloc (.cells #[.int .i64 1, .int .i64 2] 3)).alloc (.cells #[.int .i64 1, .int .i64 1] 3)).alloc (.cells #[.int .i64 1, .int .i64 2, .int .i64 (-2)] 3)).alloc (.cells #[.int .i64 (-1), .int .i64 2, .int .i64 1] 3)).alloc (.cells #[.int .u8 1, .slice none 0 0, .string ⟨#[49, 49, 49, 49]⟩, .int .u8 1, .slice (some ⟨W1.heap.size, 0, none⟩) 2 2, .string ⟨#[48, 49, 48, 48]⟩, .int .u8 2, .slice none 0 0, .string ⟨#[48, 48, 48, 48]⟩, .int .u8 2, .slice (some ⟨W1.heap.size + 1, 0, none⟩) 2 2, .string ⟨#[49, 49, 48, 49]⟩, .int .u8 3, .slice (some ⟨W1.heap.size + 1 + 1, 0, none⟩) 2 2, .string ⟨#[48, 49, 49, 48]⟩, .int .u8 3, .slice (some ⟨W1.heap.size + 1 + 1 + 1, 0, none⟩) 2 2, .string ⟨#[48, 48, 48, 48]⟩, .int .u8 4, .slice (some ⟨W1.heap.size + 1 + 1 + 1 + 1, 0, none⟩) 3 3, .string ⟨#[49, 48, 48, 49]⟩, .int .u8 4, .slice (some ⟨W1.heap.size + 1 + 1 + 1 + 1 + 1, 0, none⟩) 3 3, .string ⟨#[48, 49, 49, 49]⟩] 29) = W) (X : World) (hX : Below W.heap.size W X) : X.heap[W1.heap.size + 1 + 1 + 1 + 1 + 1 + 1]? = some (.cells #[.int .u8 1, .slice none 0 0, .string ⟨#[49, 49, 49, 49]⟩, .int .u8 1, .slice (some ⟨W1.heap.size, 0, none⟩) 2 2, .string ⟨#[48, 49, 48, 48]⟩, .int .u8 2, .slice none 0 0, .string ⟨#[48, 48, 48, 48]⟩, .int .u8 2, .slice (some ⟨W1.heap.size + 1, 0, none⟩) 2 2, .string ⟨#[49, 49, 48, 49]⟩, .int .u8 3, .slice (some ⟨W1.heap.size + 1 + 1, 0, none⟩) 2 2, .string ⟨#[48, 49, 49, 48]⟩, .int .u8 3, .slice (some ⟨W1.heap.size + 1 + 1 + 1, 0, none⟩) 2 2, .string ⟨#[48, 48, 48, 48]⟩, .int .u8 4, .slice (some ⟨W1.heap.size + 1 + 1 + 1 + 1, 0, none⟩) 3 3, .string ⟨#[49, 48, 48, 49]⟩, .int .u8 4, .slice (some ⟨W1.heap.size + 1 + 1 + 1 + 1 + 1, 0, none⟩) 3 3, .string ⟨#[48, 49, 49, 49]⟩] 29 (0, 0)) ∧ IsInts X (.slice (some ⟨W1.heap.size, 0, none⟩) 2 2) [1, -2] ∧ IsInts X (.slice (some ⟨W1.heap.size + 1, 0, none⟩) 2 2) [1, -2] ∧ IsInts X (.slice (some ⟨W1.heap.size + 1 + 1, 0, none⟩) 2 2) [1, 2] ∧ IsInts X (.slice (some ⟨W1.heap.size + 1 + 1 + 1, 0, none⟩) 2 2) [1, 1] ∧ IsInts X (.slice (some ⟨W1.heap.size + 1 + 1 + 1 + 1, 0, none⟩) 3 3) [1, 2, -2] ∧ IsInts X (.slice (some ⟨W1.heap.size + 1 + 1 + 1 + 1 + 1, 0, none⟩) 3 3) [-1, 2, 1] := by
  obtain ⟨_, hs, h0, h1, h2, h3, h4, h5, h6⟩ := kn_table W1 W h
  exact ⟨(hX.block _ (by omega)).trans h6, ints_heap [1, -2] ((hX.block _ (by omega)).trans h0) (in64_lit _ (by decide)) (by decide), ints_heap [1, -2] ((hX.block _ (by omega)).trans h1) (in64_lit _ (by decide)) (by decide), ints_heap [1, 2] ((hX.block _ (by omega)).trans h2) (in64_lit _ (by decide)) (by decide), ints_heap [1, 1] ((hX.block _ (by omega)).trans h3) (in64_lit _ (by decide)) (by decide), ints_heap [1, 2, -2] ((hX.block _ (by omega)).trans h4) (in64_lit _ (by decide)) (by decide), ints_heap [-1, 2, 1] ((hX.block _ (by omega)).trans h5) (in64_lit _ (by decide)) (by decide)⟩
theorem kn_loop (wk W : World) (h : ((wk.alloc (.cells #[.int .i64 5] 3)).alloc (.cells #[.int .i64 4, .int .i64 1] 3)).alloc (.cells #[.int .i64 4, .int .u8 2, .slice (some ⟨wk.heap.size, 0, none⟩) 1 1, .int .i64 5, .int .u8 2, .slice (some ⟨wk.heap.size + 1, 0, none⟩) 2 2] 34) = W) : Below wk.heap.size wk W ∧ ∀ X, Below W.heap.size W X → IsGates X (.slice (some ⟨wk.heap.size + 1 + 1, 0, none⟩) 2 2) [(4, 2, [5]), (5, 2, [4, 1])] := by
  have hb : Below wk.heap.size wk W := by rw [← h]; exact (((Below.refl _ _).alloc (Nat.le_refl _) _).alloc (by simp) _).alloc (by simp; omega) _
  have hs : W.heap.size = wk.heap.size + 3 := by rw [← h]; simp
  have h0 : W.heap[wk.heap.size]? = some (.cells #[.int .i64 5] 3 (0, 0)) := by
    rw [← h]
    (repeat (first | (refine heap_hit ?_; first | omega | (simp only [World.size_alloc] <;> omega)) | (refine heap_skip ?_ ?_; (first | omega | (simp only [World.size_alloc] <;> omega)))))
  have h1 : W.heap[wk.heap.size + 1]? = some (.cells #[.int .i64 4, .int .i64 1] 3 (0, 0)) := by
    rw [← h]
    (repeat (first | (refine heap_hit ?_; first | omega | (simp only [World.size_alloc] <;> omega)) | (refine heap_skip ?_ ?_; (first | omega | (simp only [World.size_alloc] <;> omega)))))
  have h2 : W.heap[wk.heap.size + 1 + 1]? = some (.cells #[.int .i64 4, .int .u8 2, .slice (some ⟨wk.heap.size, 0, none⟩) 1 1, .int .i64 5, .int .u8 2, .slice (some ⟨wk.heap.size + 1, 0, none⟩) 2 2] 34 (0, 0)) := by
    rw [← h]
    (repeat (first | (refine heap_hit ?_; first | omega | (simp only [World.size_alloc] <;> omega)) | (refine heap_skip ?_ ?_; (first | omega | (simp only [World.size_alloc] <;> omega)))))
  refine ⟨hb, fun X hX => ?_⟩
  have I0 := ints_heap [5] ((hX.block _ (by omega)).trans h0) (in64_lit _ (by decide)) (by decide)
  have I1 := ints_heap [4, 1] ((hX.block _ (by omega)).trans h1) (in64_lit _ (by decide)) (by decide)
  exact gates_heap [(4, 2, .slice (some ⟨wk.heap.size, 0, none⟩) 1 1), (5, 2, .slice (some ⟨wk.heap.size + 1, 0, none⟩) 2 2)] [(4, 2, [5]), (5, 2, [4, 1])] ((hX.block _ (by omega)).trans h2) rfl (by simp) (by intro g hg; simp at hg; rcases hg with rfl | rfl <;> decide) (fun j hj => by
    match j, hj with
    | 0, _ => exact ⟨rfl, rfl, I0⟩
    | 1, _ => exact ⟨rfl, rfl, I1⟩
    | j + 2, hj => have h9 : j + 2 < 2 := hj; omega)
theorem kn_inner (wk W : World) (kk : Int) (u s : Value) (h : (((((((((wk.alloc (.cells #[.int .u8 kk, u, s] 29)).alloc (.cells #[.int .i64 2, .int .i64 1] 3)).alloc (.cells #[.bool false, .slice (some ⟨wk.heap.size + 1, 0, none⟩) 2 2] 32)).alloc (.cells #[.int .i64 3, .int .u8 kk, u] 34)).alloc (.cells #[.slice (some ⟨wk.heap.size + 1 + 1, 0, none⟩) 1 1, .slice (some ⟨wk.heap.size + 1 + 1 + 1, 0, none⟩) 1 1, .int .i64 3] 25)).alloc (.cells #[.int .i64 (-1), .int .i64 (-2)] 3)).alloc (.cells #[.int .i64 1] 3)).alloc (.cells #[.int .i64 2] 3)).alloc (.cells #[.int .i64 1, .int .i64 2] 3)).alloc (.cells #[.slice (some ⟨wk.heap.size + 1 + 1 + 1 + 1 + 1, 0, none⟩) 2 2, .slice (some ⟨wk.heap.size + 1 + 1 + 1 + 1 + 1 + 1, 0, none⟩) 1 1, .slice (some ⟨wk.heap.size + 1 + 1 + 1 + 1 + 1 + 1 + 1, 0, none⟩) 1 1, .slice (some ⟨wk.heap.size + 1 + 1 + 1 + 1 + 1 + 1 + 1 + 1, 0, none⟩) 2 2] 28) = W) : Below wk.heap.size wk W ∧ W.heap.size = wk.heap.size + 10 ∧ (W.heap[wk.heap.size]? = some (.cells #[.int .u8 kk, u, s] 29 (0, 0)) ∧ W.heap[wk.heap.size + 1]? = some (.cells #[.int .i64 2, .int .i64 1] 3 (0, 0)) ∧ W.heap[wk.heap.size + 1 + 1]? = some (.cells #[.bool false, .slice (some ⟨wk.heap.size + 1, 0, none⟩) 2 2] 32 (0, 0)) ∧ W.heap[wk.heap.size + 1 + 1 + 1]? = some (.cells #[.int .i64 3, .int .u8 kk, u] 34 (0, 0)) ∧ W.heap[wk.heap.size + 1 + 1 + 1 + 1]? = some (.cells #[.slice (some ⟨wk.heap.size + 1 + 1, 0, none⟩) 1 1, .slice (some ⟨wk.heap.size + 1 + 1 + 1, 0, none⟩) 1 1, .int .i64 3] 25 (0, 0)) ∧ W.heap[wk.heap.size + 1 + 1 + 1 + 1 + 1]? = some (.cells #[.int .i64 (-1), .int .i64 (-2)] 3 (0, 0)) ∧ W.heap[wk.heap.size + 1 + 1 + 1 + 1 + 1 + 1]? = some (.cells #[.int .i64 1] 3 (0, 0)) ∧ W.heap[wk.heap.size + 1 + 1 + 1 + 1 + 1 + 1 + 1]? = some (.cells #[.int .i64 2] 3 (0, 0)) ∧ W.heap[wk.heap.size + 1 + 1 + 1 + 1 + 1 + 1 + 1 + 1]? = some (.cells #[.int .i64 1, .int .i64 2] 3 (0, 0)) ∧ W.heap[wk.heap.size + 1 + 1 + 1 + 1 + 1 + 1 + 1 + 1 + 1]? = some (.cells #[.slice (some ⟨wk.heap.size + 1 + 1 + 1 + 1 + 1, 0, none⟩) 2 2, .slice (some ⟨wk.heap.size + 1 + 1 + 1 + 1 + 1 + 1, 0, none⟩) 1 1, .slice (some ⟨wk.heap.size + 1 + 1 + 1 + 1 + 1 + 1 + 1, 0, none⟩) 1 1, .slice (some ⟨wk.heap.size + 1 + 1 + 1 + 1 + 1 + 1 + 1 + 1, 0, none⟩) 2 2] 28 (0, 0))) := by
  subst h
  refine ⟨(((((((((((Below.refl wk.heap.size wk).alloc (by simp) _).alloc (by simp <;> omega) _).alloc (by simp <;> omega) _).alloc (by simp <;> omega) _).alloc (by simp <;> omega) _).alloc (by simp <;> omega) _).alloc (by simp <;> omega) _).alloc (by simp <;> omega) _).alloc (by simp <;> omega) _).alloc (by simp <;> omega) _), by simp, ?_⟩
  refine ⟨?_, ?_, ?_, ?_, ?_, ?_, ?_, ?_, ?_, ?_⟩
  all_goals (repeat (first | exact heap_hit (by simp) | refine heap_skip (by simp <;> omega) ?_))
theorem kn_inner2 (wk W : World) (kk : Int) (u s : Value) (l : List Int) (h : (((((((((wk.alloc (.cells #[.int .u8 kk, u, s] 29)).alloc (.cells #[.int .i64 2, .int .i64 1] 3)).alloc (.cells #[.bool false, .slice (some ⟨wk.heap.size + 1, 0, none⟩) 2 2] 32)).alloc (.cells #[.int .i64 3, .int .u8 kk, u] 34)).alloc (.cells #[.slice (some ⟨wk.heap.size + 1 + 1, 0, none⟩) 1 1, .slice (some ⟨wk.heap.size + 1 + 1 + 1, 0, none⟩) 1 1, .int .i64 3] 25)).alloc (.cells #[.int .i64 (-1), .int .i64 (-2)] 3)).alloc (.cells #[.int .i64 1] 3)).alloc (.cells #[.int .i64 2] 3)).alloc (.cells #[.int .i64 1, .int .i64 2] 3)).alloc (.cells #[.slice (some ⟨wk.heap.size + 1 + 1 + 1 + 1 + 1, 0, none⟩) 2 2, .slice (some ⟨wk.heap.size + 1 + 1 + 1 + 1 + 1 + 1, 0, none⟩) 1 1, .slice (some ⟨wk.heap.size + 1 + 1 + 1 + 1 + 1 + 1 + 1, 0, none⟩) 1 1, .slice (some ⟨wk.heap.size + 1 + 1 + 1 + 1 + 1 + 1 + 1 + 1, 0, none⟩) 2 2] 28) = W) (hu : IsInts wk u l) (hk : 0 ≤ kk ∧ kk ≤ 255) (X : World) (hX : Below W.heap.size W X) : X.cell? ⟨wk.heap.size, 2, none⟩ = some s ∧ BoxN X (wk.heap.size + 1 + 1 + 1 + 1) (.slice (some ⟨wk.heap.size + 1 + 1, 0, none⟩) 1 1) (.slice (some ⟨wk.heap.size + 1 + 1 + 1, 0, none⟩) 1 1) 3 ∧ IsBlocks X (.slice (some ⟨wk.heap.size + 1 + 1, 0, none⟩) 1 1) [(false, [2, 1])] ∧ IsGates X (.slice (some ⟨wk.heap.size + 1 + 1 + 1, 0, none⟩) 1 1) [(3, kk, l)] ∧ X.heap[wk.heap.size + 1 + 1 + 1 + 1 + 1 + 1 + 1 + 1 + 1]? = some (.cells #[.slice (some ⟨wk.heap.size + 1 + 1 + 1 + 1 + 1, 0, none⟩) 2 2, .slice (some ⟨wk.heap.size + 1 + 1 + 1 + 1 + 1 + 1, 0, none⟩) 1 1, .slice (some ⟨wk.heap.size + 1 + 1 + 1 + 1 + 1 + 1 + 1, 0, none⟩) 1 1, .slice (some ⟨wk.heap.size + 1 + 1 + 1 + 1 + 1 + 1 + 1 + 1, 0, none⟩) 2 2] 28 (0, 0)) ∧ IsInts X (.slice (some ⟨wk.heap.size + 1 + 1 + 1 + 1 + 1, 0, none⟩) 2 2) [-1, -2] ∧ IsInts X (.slice (some ⟨wk.heap.size + 1 + 1 + 1 + 1 + 1 + 1, 0, none⟩) 1 1) [1] ∧ IsInts X (.slice (some ⟨wk.heap.size + 1 + 1 + 1 + 1 + 1 + 1 + 1, 0, none⟩) 1 1) [2] ∧ IsInts X (.slice (some ⟨wk.heap.size + 1 + 1 + 1 + 1 + 1 + 1 + 1 + 1, 0, none⟩) 2 2) [1, 2] := by
  obtain ⟨hb, hs, h0, h1, h2, h3, h4, h5, h6, h7, h8, h9⟩ := kn_inner wk W kk u s h
  have hux : IsInts X u l := hu.below (hb.trans (hX.mono hb.size)) (Nat.le_refl _)
  have hi21 : IsInts X (.slice (some ⟨wk.heap.size + 1, 0, none⟩) 2 2) [2, 1] := ints_heap [2, 1] ((hX.block _ (by omega)).trans h1) (in64_lit _ (by decide)) (by decide)
  refine ⟨block_cell ((hX.block _ (by omega)).trans h0) rfl, ⟨block_cell ((hX.block _ (by omega)).trans h4) rfl, block_cell ((hX.block _ (by omega)).trans h4) rfl, block_cell ((hX.block _ (by omega)).trans h4) rfl⟩, ?_, ?_, ((hX.block _ (by omega)).trans h9), ints_heap [-1, -2] ((hX.block _ (by omega)).trans h5) (in64_lit _ (by decide)) (by decide), ints_heap [1] ((hX.block _ (by omega)).trans h6) (in64_lit _ (by decide)) (by decide), ints_heap [2] ((hX.block _ (by omega)).trans h7) (in64_lit _ (by decide)) (by decide), ints_heap [1, 2] ((hX.block _ (by omega)).trans h8) (in64_lit _ (by decide)) (by decide)⟩
  · exact blocks_heap [(false, .slice (some ⟨wk.heap.size + 1, 0, none⟩) 2 2)] [(false, [2, 1])] ((hX.block _ (by omega)).trans h2) rfl (by simp) (fun j hj => by
      obtain rfl : j = 0 := by simpa using hj
      exact ⟨rfl, hi21⟩)
  · exact gates_heap [(3, kk, u)] [(3, kk, l)] ((hX.block _ (by omega)).trans h3) rfl (by simp) (fun g hg => by rw [List.mem_singleton] at hg; subst hg; exact ⟨⟨by simp only; omega, by simp only; omega⟩, hk⟩) (fun j hj => by
      obtain rfl : j = 0 := by simpa using hj
      exact ⟨rfl, rfl, hux⟩)
end Go.Proofs.Ytafenijbglcppaa
