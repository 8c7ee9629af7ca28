/- Joined texts: PxSort, PxStable, PxClone. -/
import Derived.Test.YtfodafaclhoibaaMpB
import Derived.Test.YtfodafaclhoibaaShelf
import Derived.Test.YtfodafaclhoibaaMgA
import Derived.Lib.OwnBridge
import Derived.Test.YtfodafaclhoibaaMapsB
import Derived.Shelf.SlSortCmp.InsertionK
import Derived.Test.YtfodafaclhoibaaMpD
/- slices.Sort and slices.Clone over integers of the call's own. -/
namespace Go.Proofs.Ytfodafaclhoibaa
open Go.RowKit Go.Sort Go.Lib
set_option linter.unusedVariables false
set_option linter.unusedSimpArgs false

def ascI (l : List Int) : List Int := l.mergeSort (fun x y => decide (x ≤ y))
theorem ascI_len (l : List Int) : (ascI l).length = l.length := by unfold ascI; rw [List.length_mergeSort]
theorem ascI_perm (l : List Int) : (ascI l).Perm l := List.mergeSort_perm _ _
theorem ascI_mem {l : List Int} {x : Int} : x ∈ ascI l ↔ x ∈ l := (ascI_perm l).mem_iff
theorem ascI_sorted (l : List Int) : (ascI l).Pairwise (· ≤ ·) := by
  have h := List.pairwise_mergeSort (le := fun x y : Int => decide (x ≤ y)) (fun a b c h1 h2 => by simp at h1 h2 ⊢; omega) (fun a b => by simp; omega) l
  exact h.imp (fun h => by simpa using h)

set_option maxHeartbeats 800000 in
theorem sort2_any (B : Nat) (v : Value) (l : List Int) (w : World) (hown : Own w B v l) (hB : B ≤ w.heap.size) (hl : l.length ≤ 17592186044416) :
    Calls Try.prog 103 #[v] w fun e w' => e = .returned (.tuple #[]) ∧ Own w' B v (ascI l) ∧ Below B w w' ∧ Kept (fun k => v.ownBlock = some k) w w' := by
  have hrow : w.ownsRow B 3 1 v l.length (l.map (Value.int .i64)) := hown
  rcases hown.2 with ⟨rfl, h2⟩ | ⟨g, cap, cur, rfl, hBg, hg, hnc, hcm, hcs, htk⟩
  · have : l = [] := List.eq_nil_of_length_eq_zero h2
    subst this
    refine (Try.slices_Sort_int_none none 0 w).mono ?_
    rintro e w' ⟨rfl, rfl⟩
    exact ⟨rfl, by simpa [ascI] using Own.nil _ _, Below.refl _ _, Kept.refl _ _⟩
  · obtain ⟨g', cap', e, _, _, hcap, _, hlen, hH⟩ := holds_of_ownsRow hrow (by intro h; cases h)
    injection e with e1 _ e3
    injection e1 with e1
    injection e1 with e1
    subst e1; subst e3
    have hlt : g < w.heap.size := (Array.getElem?_eq_some_iff.1 hg).1
    refine (Try.slices_Sort_int g 0 cap l w hH hlt (by omega)).mono ?_
    rintro e w' ⟨rfl, n, os, hw⟩
    refine ⟨rfl, ?_, ?_, ?_⟩
    · have hr := ownsRow_putRow (q := n) (k := l.length) hrow (ascI_len l) (Nat.le_refl _)
      rw [List.take_of_length_le (by rw [ascI_len]; exact Nat.le_refl _)] at hr
      have ho : Own (putRow (Value.int .i64) (Sort.ahead w n) g 0 (ascI l).toArray) B (.slice (some ⟨g, 0, none⟩) l.length cap) (ascI l) := by
        unfold Own
        rw [ascI_len]
        exact hr
      rw [hw]
      refine ho.below (C := (putRow (Value.int .i64) (Sort.ahead w n) g 0 (ascI l).toArray).heap.size) ?_ (Nat.le_refl _)
      refine ⟨rfl, rfl, rfl, by simp [grow], fun k hk => ?_⟩
      show ((putRow (Value.int .i64) (Sort.ahead w n) g 0 (ascI l).toArray).heap ++ os)[k]? = _
      rw [Array.getElem?_append_left hk]
    · rw [hw]
      have h1 : Below B w (putRow (Value.int .i64) (Sort.ahead w n) g 0 (ascI l).toArray) := below_putRow (Below.refl _ _) hBg
      refine h1.trans ⟨rfl, rfl, rfl, by simp [grow], fun k hk => ?_⟩
      show ((putRow (Value.int .i64) (Sort.ahead w n) g 0 (ascI l).toArray).heap ++ os)[k]? = _
      rw [Array.getElem?_append_left (by have := h1.size; omega)]
    · rw [hw]
      refine ⟨rfl, rfl, rfl, ?_, fun k hk hS => ?_⟩
      · have h1 : Below B w (putRow (Value.int .i64) (Sort.ahead w n) g 0 (ascI l).toArray) := below_putRow (Below.refl _ _) hBg
        have := h1.size
        show w.heap.size ≤ ((putRow (Value.int .i64) (Sort.ahead w n) g 0 (ascI l).toArray).heap ++ os).size
        rw [Array.size_append]
        omega
      · have hkg : k ≠ g := fun e => hS (by rw [e]; rfl)
        have h1 : Below B w (putRow (Value.int .i64) (Sort.ahead w n) g 0 (ascI l).toArray) := below_putRow (Below.refl _ _) hBg
        show ((putRow (Value.int .i64) (Sort.ahead w n) g 0 (ascI l).toArray).heap ++ os)[k]? = _
        rw [Array.getElem?_append_left (by have := h1.size; omega)]
        simp [putRow, mapBlock, Sort.ahead, Array.getElem?_modify, show g ≠ k by omega]
theorem sort1_any (B : Nat) (v : Value) (l : List Int) (w : World) (hown : Own w B v l) (hB : B ≤ w.heap.size) (hl : l.length ≤ 17592186044416) :
    Calls Try.prog 103 #[v] w fun e w' => e = .returned (.tuple #[]) ∧ Own w' B v (ascI l) ∧ Below B w w' :=
  (sort2_any B v l w hown hB hl).mono fun e w' h => ⟨h.1, h.2.1, h.2.2.1⟩

end Go.Proofs.Ytfodafaclhoibaa

/- slices.SortStableFunc of at most 20 rows of a Dqbf, by the length of their lists. -/
namespace Go.Proofs.Ytfodafaclhoibaa
open Go.RowKit Go.Shelf Go.Lib Go.Sort
set_option linter.unusedVariables false
set_option linter.unusedSimpArgs false

theorem isnan_any (x : Int) (w : World) : Calls Try.prog 178 #[.int .i64 x] w (fun e w' => e = .returned (.bool false) ∧ w = w') := by
  go_enter Try.func178, Try.ntmps178
  go_wp2
  go_ret
  exact ⟨by simp, rfl⟩
def cmpN (x y : Int) : Int := if x < y then -1 else if y < x then 1 else 0
theorem compare_int (x y : Int) (w : World) : Calls Try.prog 142 #[.int .i64 x, .int .i64 y] w (fun e w' => e = .returned (.int .i64 (cmpN x y)) ∧ w = w') := by
  have H := fun v W => isnan_any v W
  by_cases h1 : x < y
  · have HR : Hid (cmpN x y = -1) := by show _ = _; unfold cmpN; rw [if_pos h1]
    go_enter Try.func142, Try.ntmps142
    go_wp2_with (go_at_call 178; refine (H _ _).mono ?_; rintro e w1 ⟨rfl, rfl⟩)
    go_ret
    rw [HR.out]
    exact ⟨rfl, rfl⟩
  · by_cases h2 : y < x
    · have HR : Hid (cmpN x y = 1) := by show _ = _; unfold cmpN; rw [if_neg h1, if_pos h2]
      go_enter Try.func142, Try.ntmps142
      go_wp2_with (go_at_call 178; refine (H _ _).mono ?_; rintro e w1 ⟨rfl, rfl⟩)
      go_ret
      rw [HR.out]
      exact ⟨rfl, rfl⟩
    · have HR : Hid (cmpN x y = 0) := by show _ = _; unfold cmpN; rw [if_neg h1, if_neg h2]
      go_enter Try.func142, Try.ntmps142
      go_wp2_with (go_at_call 178; refine (H _ _).mono ?_; rintro e w1 ⟨rfl, rfl⟩)
      go_ret
      rw [HR.out]
      exact ⟨rfl, rfl⟩

/-- A row's two cells, and the list that its slice holds. -/
structure DepV where
  v : Int
  a : Option Addr
  c : Nat
  l : List Int
deriving Inhabited
def encD (x : DepV) : List Value := [.int .i64 x.v, .slice x.a x.l.length x.c]
def cfD (x y : DepV) : Int := cmpN x.l.length y.l.length
theorem linear1_any (x y : DepV) (W : World) : Calls Try.prog 141 #[.agg #[.int .i64 x.v, .slice x.a x.l.length x.c], .agg #[.int .i64 y.v, .slice y.a y.l.length y.c]] W fun e w' => e = .returned (.int .i64 (cfD x y)) ∧ ∃ q os', w' = grow (W.drewN q) os' := by
  have hcon := fun W' => compare_int x.l.length y.l.length W'
  unfold cfD
  generalize cmpN x.l.length y.l.length = r at hcon ⊢
  go_enter Try.func141, Try.ntmps141
  go_wp2_with (go_at_call 142; refine (hcon _).mono ?_; rintro e w' ⟨rfl, rfl⟩)
  go_ret
  exact ⟨rfl, 0, _, by rw [alloc_eq_grow, alloc_eq_grow, grow_grow]; rfl⟩
theorem cmpLaysD (blk off size : Nat) (w : World) : CmpLays Try.prog 141 #[] encD 2 cfD blk off size w := by
  intro m os dk hs x y
  exact linear1_any x y _

set_option maxRecDepth 100000 in
theorem inserted_any (blk cap b : Nat) (d : Array DepV) (w : World) (hH : HoldsK encD 2 w blk 0 d) (hblk : blk < w.heap.size) (hb : b ≤ d.size) (hsz : d.size < 4611686018427387904) :
    Calls Try.prog 212 #[.slice (some ⟨blk, 0, none⟩) d.size cap, .int .i64 0, .int .i64 b, .func (.func 141) #[] #[]] w fun e w' =>
      e = .returned (.tuple #[]) ∧ ∃ n os, w' = sortWorldK encD 2 w blk 0 n (Sort.insertionSort (ltOf cfD) d 0 b) os :=
  AnyQ.insertionSortCmpFunc Try.depIns 2 (fun w => rfl) (fun w => rfl) encD (fun x => rfl) (fun x v hv => by
    simp only [encD, List.mem_cons, List.not_mem_nil, or_false] at hv
    rcases hv with rfl | rfl <;> rfl) cfD 141 #[] blk 0 cap 0 b d w (fun args w => rfl) (cmpLaysD blk 0 d.size w) hH hblk (Nat.zero_le _) hb hsz

set_option maxRecDepth 100000 in
set_option maxHeartbeats 1600000 in
theorem stable_any (blk cap : Nat) (d : Array DepV) (w : World) (hH : HoldsK encD 2 w blk 0 d) (hblk : blk < w.heap.size) (h20 : d.size < 20) :
    Calls Try.prog 177 #[.slice (some ⟨blk, 0, none⟩) d.size cap, .int .i64 d.size, .func (.func 141) #[] #[]] w fun e w' =>
      e = .returned (.tuple #[]) ∧ ∃ n os, w' = sortWorldK encD 2 w blk 0 n (Sort.insertionSort (ltOf cfD) d 0 d.size) os := by
  have HI := Lib.hid (inserted_any blk cap d.size d w hH hblk (Nat.le_refl _) (by omega))
  clear hH hblk
  have hlt : ¬ ((20 : Int) ≤ (d.size : Int)) := by omega
  have hlt2 : ¬ ((20 : Int) < (d.size : Int)) := by omega
  go_enter Try.func177, Try.ntmps177
  go_wp2
  go_loop [7, 8] (fun a b => a = .int .i64 0 ∧ b = .int .i64 20) (fun _ _ => 0)
  case atStart => exact ⟨rfl, rfl⟩
  case round =>
    obtain ⟨rfl, rfl⟩ := hrel
    go_wp2_with (go_at_call 212; refine HI.out.mono ?_; rintro e w1 ⟨rfl, hw1⟩)
    go_loop [6] (fun a => a = .int .i64 20) (fun _ => 0)
    case atStart => rfl
    case round =>
      obtain rfl := hrel
      go_wp2
      go_end0
      exact ⟨rfl, hw1⟩
theorem stable0_any (blk cap : Nat) (d : Array DepV) (w : World) (hH : HoldsK encD 2 w blk 0 d) (hblk : blk < w.heap.size) (h20 : d.size < 20) :
    Calls Try.prog 140 #[.slice (some ⟨blk, 0, none⟩) d.size cap, .func (.func 141) #[] #[]] w fun e w' =>
      e = .returned (.tuple #[]) ∧ ∃ n os, w' = sortWorldK encD 2 w blk 0 n (Sort.insertionSort (ltOf cfD) d 0 d.size) os := by
  have HI := Lib.hid (stable_any blk cap d w hH hblk h20)
  clear hH hblk
  go_enter Try.func140, Try.ntmps140
  go_wp2_with (go_at_call 177; refine HI.out.mono ?_; rintro e w1 ⟨rfl, hw1⟩)
  go_end0
  exact ⟨rfl, hw1⟩

/-- Two rows: they change places where the second list is shorter. -/
theorem sort_two (x y : DepV) : Sort.insertionSort (ltOf cfD) #[x, y] 0 2 = if y.l.length < x.l.length then #[y, x] else #[x, y] := by
  unfold Sort.insertionSort
  rw [insOuter, if_pos (by decide), insOuter, if_neg (by decide)]
  unfold insInner insInner
  have h : ltOf cfD (#[x, y] : Array DepV)[0 + 1]! (#[x, y] : Array DepV)[0]! = decide (y.l.length < x.l.length) := by
    show decide (cmpN (y.l.length : Int) (x.l.length : Int) < 0) = _
    unfold cmpN
    by_cases h1 : y.l.length < x.l.length
    · rw [if_pos (by omega)]; simp [h1]
    · rw [if_neg (by omega)]
      split <;> simp [h1]
  rw [h]
  by_cases h1 : y.l.length < x.l.length
  · simp [h1, swp]
  · simp [h1]

end Go.Proofs.Ytfodafaclhoibaa

/- slices.Clone of a list of integers (stage 3). -/
namespace Go.Proofs.Ytfodafaclhoibaa
open Go.RowKit
set_option linter.unusedVariables false

set_option maxHeartbeats 800000 in
set_option maxRecDepth 100000 in
theorem clone1_any (v : Value) (l : List Int) (w : World) (H : IsInts w v l) : Calls Try.prog 95 #[v] w (RetOwn w l) := by
  have hl := H.len
  have H1 := H.below ((Below.refl w.heap.size w).alloc (Nat.le_refl _) (.cells #[] 3)) (Nat.le_refl _)
  obtain ⟨a, cap, rfl⟩ := H.shape
  cases a with
  | none =>
    have hn : l = [] ∧ cap = 0 := by
      obtain ⟨a', cap', e, hcp, _, _, _, b, off, ha, _⟩ := H
      injection e with e1 _ e3
      subst e1; subst e3
      refine ⟨?_, hcp.2 rfl⟩
      by_cases e : l = []
      · exact e
      · have := (ha e).1; cases this
    obtain ⟨rfl, rfl⟩ := hn
    have he : ∀ w : World, (binOp .eql 26 (.slice none 0 0) (.slice none 0 0)).run Try.prog w = .ok (.bool true) w := fun _ => rfl
    go_enter Try.func95, Try.ntmps95
    go_wp2
    go_ret
    exact ⟨_, rfl, Own.nil _ _, Below.refl _ _⟩
  | some p =>
    have he : ∀ w : World, (binOp .eql 26 (.slice (some p) l.length cap) (.slice none 0 0)).run Try.prog w = .ok (.bool false) w := fun _ => rfl
    go_enter Try.func95, Try.ntmps95
    go_wp2_with (at_builtin; refine wpList_app rfl (.tmp 5) (.tmp 6) rfl w.heap.size _ _ [] l rfl rfl (Own.built3 (Nat.le_refl _)) H1 (by simp <;> omega) (by simp) ?_; intro v1 w1 hown1 hg1)
    go_ret
    exact ⟨_, rfl, hown1, below_app ((Below.refl _ _).alloc (Nat.le_refl _) _) (Own.built3 (Nat.le_refl _)) (by simp) hg1⟩

end Go.Proofs.Ytfodafaclhoibaa
