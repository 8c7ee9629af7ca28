/- slices.SortStableFunc of at most 20 rows of a Dqbf, by the length of their lists. -/
import Derived.Test.YtmiijgjpkkmoaaaGreatShelf
import Derived.Test.YtmiijgjpkkmoaaaGreatMpB
import Derived.Shelf.SlSortCmp.InsertionK
namespace Go.Proofs.YtmiijgjpkkmoaaaGreat
open Go.RowKit Go.Shelf Go.Lib Go.Sort
set_option linter.unusedVariables false
set_option linter.unusedSimpArgs false

theorem isnan_any (x : Int) (w : World) : Calls Tryz.prog 71 #[.int .i64 x] w (fun e w' => e = .returned (.bool false) ∧ w = w') := by
  go_enter Tryz.func71, Tryz.ntmps71
  go_wp2
  go_ret
  exact ⟨by simp, rfl⟩
def cmpN (x y : Int) : Int := if x < y then -1 else if y < x then 1 else 0
theorem compare_int (x y : Int) (w : World) : Calls Tryz.prog 34 #[.int .i64 x, .int .i64 y] w (fun e w' => e = .returned (.int .i64 (cmpN x y)) ∧ w = w') := by
  have H := fun v W => isnan_any v W
  by_cases h1 : x < y
  · have HR : Hid (cmpN x y = -1) := by show _ = _; unfold cmpN; rw [if_pos h1]
    go_enter Tryz.func34, Tryz.ntmps34
    go_wp2_with (go_at_call 71; refine (H _ _).mono ?_; rintro e w1 ⟨rfl, rfl⟩)
    go_ret
    rw [HR.out]
    exact ⟨rfl, rfl⟩
  · by_cases h2 : y < x
    · have HR : Hid (cmpN x y = 1) := by show _ = _; unfold cmpN; rw [if_neg h1, if_pos h2]
      go_enter Tryz.func34, Tryz.ntmps34
      go_wp2_with (go_at_call 71; refine (H _ _).mono ?_; rintro e w1 ⟨rfl, rfl⟩)
      go_ret
      rw [HR.out]
      exact ⟨rfl, rfl⟩
    · have HR : Hid (cmpN x y = 0) := by show _ = _; unfold cmpN; rw [if_neg h1, if_neg h2]
      go_enter Tryz.func34, Tryz.ntmps34
      go_wp2_with (go_at_call 71; refine (H _ _).mono ?_; rintro e w1 ⟨rfl, rfl⟩)
      go_ret
      rw [HR.out]
      exact ⟨rfl, rfl⟩

/-- A row's two cells, and the list that its slice holds. -/
structure DepV where
  v : Int
  a : Option Addr
  c : Nat
  l : List Int
deriving Inhabited
def encD (x : DepV) : List Value := [.int .i64 x.v, .slice x.a x.l.length x.c]
def cfD (x y : DepV) : Int := cmpN x.l.length y.l.length
theorem linear1_any (x y : DepV) (W : World) : Calls Tryz.prog 42 #[.agg #[.int .i64 x.v, .slice x.a x.l.length x.c], .agg #[.int .i64 y.v, .slice y.a y.l.length y.c]] W fun e w' => e = .returned (.int .i64 (cfD x y)) ∧ ∃ q os', w' = grow (W.drewN q) os' := by
  have hcon := fun W' => compare_int x.l.length y.l.length W'
  unfold cfD
  generalize cmpN x.l.length y.l.length = r at hcon ⊢
  go_enter Tryz.func42, Tryz.ntmps42
  go_wp2_with (go_at_call 34; refine (hcon _).mono ?_; rintro e w' ⟨rfl, rfl⟩)
  go_ret
  exact ⟨rfl, 0, _, by rw [alloc_eq_grow, alloc_eq_grow, grow_grow]; rfl⟩
theorem cmpLaysD (blk off size : Nat) (w : World) : CmpLays Tryz.prog 42 #[] encD 2 cfD blk off size w := by
  intro m os dk hs x y
  exact linear1_any x y _

set_option maxRecDepth 100000 in
theorem inserted_any (blk cap b : Nat) (d : Array DepV) (w : World) (hH : HoldsK encD 2 w blk 0 d) (hblk : blk < w.heap.size) (hb : b ≤ d.size) (hsz : d.size < 4611686018427387904) :
    Calls Tryz.prog 95 #[.slice (some ⟨blk, 0, none⟩) d.size cap, .int .i64 0, .int .i64 b, .func (.func 42) #[] #[]] w fun e w' =>
      e = .returned (.tuple #[]) ∧ ∃ n os, w' = sortWorldK encD 2 w blk 0 n (Sort.insertionSort (ltOf cfD) d 0 b) os :=
  AnyQ.insertionSortCmpFunc Tryz.depIns 2 (fun w => rfl) (fun w => rfl) encD (fun x => rfl) (fun x v hv => by
    simp only [encD, List.mem_cons, List.not_mem_nil, or_false] at hv
    rcases hv with rfl | rfl <;> rfl) cfD 42 #[] blk 0 cap 0 b d w (fun args w => rfl) (cmpLaysD blk 0 d.size w) hH hblk (Nat.zero_le _) hb hsz

set_option maxRecDepth 100000 in
set_option maxHeartbeats 1600000 in
theorem stable_any (blk cap : Nat) (d : Array DepV) (w : World) (hH : HoldsK encD 2 w blk 0 d) (hblk : blk < w.heap.size) (h20 : d.size < 20) :
    Calls Tryz.prog 74 #[.slice (some ⟨blk, 0, none⟩) d.size cap, .int .i64 d.size, .func (.func 42) #[] #[]] w fun e w' =>
      e = .returned (.tuple #[]) ∧ ∃ n os, w' = sortWorldK encD 2 w blk 0 n (Sort.insertionSort (ltOf cfD) d 0 d.size) os := by
  have HI := Lib.hid (inserted_any blk cap d.size d w hH hblk (Nat.le_refl _) (by omega))
  clear hH hblk
  have hlt : ¬ ((20 : Int) ≤ (d.size : Int)) := by omega
  have hlt2 : ¬ ((20 : Int) < (d.size : Int)) := by omega
  go_enter Tryz.func74, Tryz.ntmps74
  go_wp2
  go_loop [7, 8] (fun a b => a = .int .i64 0 ∧ b = .int .i64 20) (fun _ _ => 0)
  case atStart => exact ⟨rfl, rfl⟩
  case round =>
    obtain ⟨rfl, rfl⟩ := hrel
    go_wp2_with (go_at_call 95; refine HI.out.mono ?_; rintro e w1 ⟨rfl, hw1⟩)
    go_loop [6] (fun a => a = .int .i64 20) (fun _ => 0)
    case atStart => rfl
    case round =>
      obtain rfl := hrel
      go_wp2
      go_end0
      exact ⟨rfl, hw1⟩
theorem stable0_any (blk cap : Nat) (d : Array DepV) (w : World) (hH : HoldsK encD 2 w blk 0 d) (hblk : blk < w.heap.size) (h20 : d.size < 20) :
    Calls Tryz.prog 41 #[.slice (some ⟨blk, 0, none⟩) d.size cap, .func (.func 42) #[] #[]] w fun e w' =>
      e = .returned (.tuple #[]) ∧ ∃ n os, w' = sortWorldK encD 2 w blk 0 n (Sort.insertionSort (ltOf cfD) d 0 d.size) os := by
  have HI := Lib.hid (stable_any blk cap d w hH hblk h20)
  clear hH hblk
  go_enter Tryz.func41, Tryz.ntmps41
  go_wp2_with (go_at_call 74; refine HI.out.mono ?_; rintro e w1 ⟨rfl, hw1⟩)
  go_end0
  exact ⟨rfl, hw1⟩

/-- Two rows: they change places where the second list is shorter. -/
theorem sort_two (x y : DepV) : Sort.insertionSort (ltOf cfD) #[x, y] 0 2 = if y.l.length < x.l.length then #[y, x] else #[x, y] := by
  unfold Sort.insertionSort
  rw [insOuter, if_pos (by decide), insOuter, if_neg (by decide)]
  unfold insInner insInner
  have h : ltOf cfD (#[x, y] : Array DepV)[0 + 1]! (#[x, y] : Array DepV)[0]! = decide (y.l.length < x.l.length) := by
    show decide (cmpN (y.l.length : Int) (x.l.length : Int) < 0) = _
    unfold cmpN
    by_cases h1 : y.l.length < x.l.length
    · rw [if_pos (by omega)]; simp [h1]
    · rw [if_neg (by omega)]
      split <;> simp [h1]
  rw [h]
  by_cases h1 : y.l.length < x.l.length
  · simp [h1, swp]
  · simp [h1]

end Go.Proofs.YtmiijgjpkkmoaaaGreat
