/- Joined texts: AgUniP, AgJoin. -/
import Derived.Test.YtppglbffmgnooaaGreatB11
import Derived.Test.YtppglbffmgnooaaGreatPxSort
import Derived.Test.YtppglbffmgnooaaGreatA10
import Derived.Test.YtppglbffmgnooaaGreatA11
/- slices.Compact of integers of the call's own; the union of two ascending lists is what the join of both is, sorted and compacted. -/
namespace Go.Proofs.YtppglbffmgnooaaGreat
open Go.RowKit Go.Sort Go.Lib Go.Maps
set_option linter.unusedVariables false
set_option linter.unusedSimpArgs false

theorem union_mem : ∀ (a b : List Int) (v : Int), v ∈ unionL a b ↔ v ∈ a ∨ v ∈ b
  | [], [], v => by simp [unionL]
  | x :: a, [], v => by
    have := union_mem a [] v
    rw [unionL, List.mem_cons, this]
    simp
  | [], y :: b, v => by
    have := union_mem [] b v
    rw [unionL, List.mem_cons, this]
    simp
  | x :: a, y :: b, v => by
    rw [unionL]
    split
    · have := union_mem a (y :: b) v
      rw [List.mem_cons, this, List.mem_cons, List.mem_cons, or_assoc]
    · split
      · have := union_mem (x :: a) b v
        rw [List.mem_cons, this, List.mem_cons, List.mem_cons]
        constructor
        · rintro (h | h | h)
          · exact .inr (.inl h)
          · exact .inl h
          · exact .inr (.inr h)
        · rintro (h | h | h)
          · exact .inr (.inl h)
          · exact .inl h
          · exact .inr (.inr h)
      · have := union_mem (x :: a) b v
        have e : x = y := by omega
        rw [this, List.mem_cons, List.mem_cons]
        constructor
        · rintro (h | h)
          · exact .inl h
          · exact .inr (.inr h)
        · rintro (h | h | h)
          · exact .inl h
          · exact .inl (.inl (by rw [h, e]))
          · exact .inr h
termination_by a b => a.length + b.length
theorem union_lt : ∀ (a b : List Int), a.Pairwise (· < ·) → b.Pairwise (· < ·) → (unionL a b).Pairwise (· < ·)
  | [], [], _, _ => by simp [unionL]
  | x :: a, [], ha, hb => by
    rw [List.pairwise_cons] at ha
    rw [unionL, List.pairwise_cons]
    exact ⟨fun z hz => by rcases (union_mem _ _ _).1 hz with h | h; exact ha.1 _ h; simp at h, union_lt a [] ha.2 hb⟩
  | [], y :: b, ha, hb => by
    rw [List.pairwise_cons] at hb
    rw [unionL, List.pairwise_cons]
    exact ⟨fun z hz => by rcases (union_mem _ _ _).1 hz with h | h; simp at h; exact hb.1 _ h, union_lt [] b ha hb.2⟩
  | x :: a, y :: b, ha, hb => by
    have ha0 := ha
    have hb0 := hb
    rw [List.pairwise_cons] at ha hb
    rw [unionL]
    split
    · rename_i hxy
      rw [List.pairwise_cons]
      refine ⟨fun z hz => ?_, union_lt a (y :: b) ha.2 hb0⟩
      rcases (union_mem _ _ _).1 hz with h | h
      · exact ha.1 _ h
      · rcases List.mem_cons.1 h with h | h
        · rw [h]; exact hxy
        · have := hb.1 _ h; omega
    · split
      · rename_i hxy hyx
        rw [List.pairwise_cons]
        refine ⟨fun z hz => ?_, union_lt (x :: a) b ha0 hb.2⟩
        rcases (union_mem _ _ _).1 hz with h | h
        · rcases List.mem_cons.1 h with h | h
          · rw [h]; exact hyx
          · have := ha.1 _ h; omega
        · exact hb.1 _ h
      · exact union_lt (x :: a) b ha0 hb.2
termination_by a b => a.length + b.length
theorem asc_one : ∀ {a b : List Int}, a.Pairwise (· < ·) → b.Pairwise (· < ·) → (∀ v, v ∈ a ↔ v ∈ b) → a = b
  | [], [], _, _, _ => rfl
  | x :: a, [], _, _, h => absurd ((h x).1 (by simp)) (by simp)
  | [], y :: b, _, _, h => absurd ((h y).2 (by simp)) (by simp)
  | x :: a, y :: b, ha, hb, h => by
    rw [List.pairwise_cons] at ha hb
    have e : x = y := by
      rcases List.mem_cons.1 ((h x).1 (by simp)) with q | q
      · exact q
      · have h1 := hb.1 _ q
        rcases List.mem_cons.1 ((h y).2 (by simp)) with r | r
        · exact r.symm
        · have h2 := ha.1 _ r
          omega
    subst e
    congr 1
    refine asc_one ha.2 hb.2 fun v => ?_
    constructor
    · intro hv
      rcases List.mem_cons.1 ((h v).1 (List.mem_cons_of_mem _ hv)) with q | q
      · have := ha.1 _ hv; omega
      · exact q
    · intro hv
      rcases List.mem_cons.1 ((h v).2 (List.mem_cons_of_mem _ hv)) with q | q
      · have := hb.1 _ hv; omega
      · exact q
theorem compact_asc (d : Array Int) (hs : ∀ i j, i < j → j < d.size → d[i]! ≤ d[j]!) (m : Nat) (hm : m ≤ d.size) :
    (compactUpTo d m).Pairwise (· < ·) ∧ (∀ x, x ∈ compactUpTo d m ↔ ∃ j, j < m ∧ d[j]! = x) := by
  induction m with
  | zero => simp [compactUpTo]
  | succ m ih =>
    obtain ⟨h1, h2⟩ := ih (by omega)
    rw [compactUpTo_succ]
    by_cases hk : keeps d m = true
    · rw [if_pos hk]
      refine ⟨?_, fun x => ?_⟩
      · rw [List.pairwise_append]
        refine ⟨h1, by simp, fun a ha b hb => ?_⟩
        rw [List.mem_singleton] at hb
        subst hb
        obtain ⟨j, hj, rfl⟩ := (h2 a).1 ha
        have hne : d[m - 1]! ≠ d[m]! := by
          intro e
          rw [keeps_neg (by omega) e.symm] at hk
          cases hk
        have hlt := hs (m - 1) m (by omega) (by omega)
        have hle : d[j]! ≤ d[m - 1]! := by
          by_cases e : j = m - 1
          · subst e; exact Int.le_refl _
          · exact hs j (m - 1) (by omega) (by omega)
        omega
      · rw [List.mem_append, h2, List.mem_singleton]
        constructor
        · rintro (⟨j, hj, e⟩ | e)
          · exact ⟨j, by omega, e⟩
          · exact ⟨m, by omega, e.symm⟩
        · rintro ⟨j, hj, e⟩
          by_cases ej : j = m
          · subst ej; exact .inr e.symm
          · exact .inl ⟨j, by omega, e⟩
    · rw [if_neg hk, List.append_nil]
      refine ⟨h1, fun x => ?_⟩
      rw [h2]
      have hm0 : 0 < m := by
        rcases Nat.eq_zero_or_pos m with e | e
        · subst e; exact absurd (keeps_lt_one d 0 (by omega)) hk
        · exact e
      have he : d[m]! = d[m - 1]! := by
        by_cases e : d[m]! = d[m - 1]!
        · exact e
        · exact absurd (keeps_pos e) hk
      constructor
      · rintro ⟨j, hj, e⟩; exact ⟨j, by omega, e⟩
      · rintro ⟨j, hj, e⟩
        by_cases ej : j = m
        · subst ej; exact ⟨j - 1, by omega, by rw [← he]; exact e⟩
        · exact ⟨j, by omega, e⟩
/-- What aig.Join makes of the inputs of two graphs is what the reference's Union does. -/
theorem join_union {I J : List Int} (hI : I.Pairwise (· < ·)) (hJ : J.Pairwise (· < ·)) : Lib.compact (ascI (I ++ J)) = unionL I J := by
  have hsrt := ascI_sorted (I ++ J)
  have hs : ∀ i j, i < j → j < (ascI (I ++ J)).toArray.size → (ascI (I ++ J)).toArray[i]! ≤ (ascI (I ++ J)).toArray[j]! := by
    intro i j hij hj
    have hj' : j < (ascI (I ++ J)).length := by simpa using hj
    have := List.pairwise_iff_getElem.1 hsrt i j (by omega) hj' hij
    simpa [getElem!_pos, hj', show i < (ascI (I ++ J)).length by omega] using this
  have h := compact_asc (ascI (I ++ J)).toArray hs (ascI (I ++ J)).length (by simp)
  refine asc_one h.1 (union_lt I J hI hJ) fun x => ?_
  rw [show x ∈ Lib.compact (ascI (I ++ J)) ↔ _ from h.2 x, union_mem, ← List.mem_append, ← ascI_mem (l := I ++ J)]
  constructor
  · rintro ⟨j, hj, rfl⟩
    simp [getElem!_pos, hj]
  · intro hx
    obtain ⟨j, hj, e⟩ := List.getElem_of_mem hx
    exact ⟨j, hj, by simp [getElem!_pos, hj, e]⟩
theorem compact_le (l : List Int) : (Lib.compact l).length ≤ l.length := by
  unfold Lib.compact compactUpTo
  rw [List.length_map]
  have := List.length_filter_le (keeps l.toArray) (List.range l.length)
  simpa using this
theorem compactI_any (B : Nat) (v : Value) (l : List Int) (w : World) (hown : Own w B v l) (hB : B ≤ w.heap.size) (hl : l.length ≤ 17592186044416) :
    Calls Tryz.prog 103 #[v] w fun e w' => ∃ v', e = .returned v' ∧ Own w' B v' (Lib.compact l) ∧ Below B w w' := by
  have hrow : w.ownsRow B 3 1 v l.length (l.map (Value.int .i64)) := hown
  rcases hown.2 with ⟨rfl, h2⟩ | ⟨g, cap, cur, rfl, hBg, hg, hnc, hcm, hcs, htk⟩
  · have : l = [] := List.eq_nil_of_length_eq_zero h2
    subst this
    refine (Tryz.slices_Compact_int_empty none 0 w).mono ?_
    rintro e w' ⟨rfl, rfl⟩
    exact ⟨_, rfl, Own.nil _ _, Below.refl _ _⟩
  · obtain ⟨g', cap', e, _, _, hcap, _, hlen, hH⟩ := holds_of_ownsRow hrow (by intro h; cases h)
    injection e with e1 _ e3
    injection e1 with e1
    injection e1 with e1
    subst e1; subst e3
    refine (Tryz.slices_Compact_int g 0 cap l w hH (by omega) (by omega)).mono ?_
    rintro e w' ⟨rfl, q, hw⟩
    have hcl := compact_le l
    have hr := ownsRow_putRow (q := q) (k := (Lib.compact l).length) (ys := Lib.compact l ++ List.replicate (l.length - (Lib.compact l).length) 0) hrow (by rw [List.length_append, List.length_replicate]; omega) hcl
    rw [List.take_left' rfl] at hr
    rw [hw]
    exact ⟨_, rfl, hr, below_putRow (Below.refl _ _) hBg⟩
end Go.Proofs.YtppglbffmgnooaaGreat

/- aig.Join. -/
namespace Go.Proofs.YtppglbffmgnooaaGreat
open Go.RowKit Go.Maps
set_option linter.unusedVariables false
set_option linter.unusedSimpArgs false

def errJ (c : Int) : (List Int × List Pr) × List Int × List Int × Int := (([], []), [], [], c)
def gjoin1 (I : List Int) (A : List Pr) (x J : List Int) : List Int × Mq := copyA (1 + (unionL I J).length) I A (inpA (unionL I J)) x ([], false)
def gjoin2 (I : List Int) (A : List Pr) (x J : List Int) (B : List Pr) (y : List Int) : List Int × Mq := copyA (1 + (unionL I J).length) J B (inpA (unionL I J)) y (gjoin1 I A x J).2
def gjoinR (I : List Int) (A : List Pr) (x J : List Int) (B : List Pr) (y : List Int) : (List Int × List Pr) × List Int × List Int × Int :=
  if hasA I A x = true ∧ hasA J B y = true then (if (gjoin2 I A x J B y).2.2 = true then errJ 3 else ((unionL I J, (gjoin2 I A x J B y).2.1), (gjoin1 I A x J).1, (gjoin2 I A x J B y).1, 0)) else errJ 2
def GJoinPost (w : World) (r : (List Int × List Pr) × List Int × List Int × Int) (e : Ending) (w' : World) : Prop :=
  ∃ vi va vu vv, e = .returned (.tuple #[.agg #[vi, va], vu, vv, .int .i64 r.2.2.2]) ∧ GrO w' w.heap.size vi va r.1.1 r.1.2 ∧ Own w' w.heap.size vu r.2.1 ∧ Own w' w.heap.size vv r.2.2.1 ∧ Below w.heap.size w w'
theorem asc_fits : ∀ (l : List Int) (lo hi : Int), l.Pairwise (· < ·) → (∀ x ∈ l, lo < x ∧ x ≤ hi) → lo ≤ hi → (l.length : Int) ≤ hi - lo
  | [], lo, hi, _, _, h => by simp; omega
  | x :: l, lo, hi, hp, hb, h => by
    rw [List.pairwise_cons] at hp
    have hx := hb x (by simp)
    have := asc_fits l x hi hp.2 (fun z hz => ⟨hp.1 z hz, (hb z (by simp [hz])).2⟩) hx.2
    rw [List.length_cons]
    omega
theorem union_ins {I J : List Int} (hI : insB I = true) (hJ : insB J = true) : insB (unionL I J) = true ∧ (unionL I J).length ≤ 65536 := by
  obtain ⟨a1, a2⟩ := insB_lt hI
  obtain ⟨b1, b2⟩ := insB_lt hJ
  have hp := union_lt I J a2 b2
  have hb : ∀ x ∈ unionL I J, 0 < x ∧ x ≤ 65536 := fun x hx => by
    rcases (union_mem I J x).1 hx with h | h
    · exact a1 x h
    · exact b1 x h
  refine ⟨insB_of hb hp, ?_⟩
  have := asc_fits _ 0 65536 hp hb (by omega)
  omega
set_option maxRecDepth 100000 in
set_option maxHeartbeats 12800000 in
theorem gjoin_any (vi va vx vj vb vy : Value) (I : List Int) (A : List Pr) (x : List Int) (J : List Int) (B : List Pr) (y : List Int) (w : World) (HI : IsInts w vi I) (HA : IsPairs w va A) (HX : IsInts w vx x) (HJ : IsInts w vj J) (HB : IsPairs w vb B) (HY : IsInts w vy y) (h1 : I.length ≤ 4000000) (h2 : A.length ≤ 4000000) (h3 : J.length ≤ 4000000) (h4 : B.length ≤ 4000000) :
    Calls Tryz.prog 38 #[.agg #[vi, va], vx, .agg #[vj, vb], vy] w (GJoinPost w (gjoinR I A x J B y)) := by
  have hb1 := below_alloc1 w (.cells #[vi, va] 25)
  have hb2 := below_alloc1 (w.alloc (.cells #[vi, va] 25)) (.cells #[vj, vb] 25)
  have hb3 := below_alloc1 ((w.alloc (.cells #[vi, va] 25)).alloc (.cells #[vj, vb] 25)) (.cells #[.slice none 0 0, .slice none 0 0] 25)
  have hb0 : Below w.heap.size w (((w.alloc (.cells #[vi, va] 25)).alloc (.cells #[vj, vb] 25)).alloc (.cells #[.slice none 0 0, .slice none 0 0] 25)) := hb1.trans ((hb2.trans (hb3.mono hb2.size)).mono hb1.size)
  have hsz : (((w.alloc (.cells #[vi, va] 25)).alloc (.cells #[vj, vb] 25)).alloc (.cells #[.slice none 0 0, .slice none 0 0] 25)).heap.size = w.heap.size + 3 := by simp
  have hgx : (((w.alloc (.cells #[vi, va] 25)).alloc (.cells #[vj, vb] 25)).alloc (.cells #[.slice none 0 0, .slice none 0 0] 25)).heap[w.heap.size]? = some (.cells #[vi, va] 25 (0, 0)) := ((hb2.trans (hb3.mono hb2.size)).block _ (by simp)).trans (World.alloc_heap_new _ _)
  have hgy : (((w.alloc (.cells #[vi, va] 25)).alloc (.cells #[vj, vb] 25)).alloc (.cells #[.slice none 0 0, .slice none 0 0] 25)).heap[w.heap.size + 1]? = some (.cells #[vj, vb] 25 (0, 0)) := by
    have h9 := World.alloc_heap_new (w.alloc (.cells #[vi, va] 25)) (.cells #[vj, vb] 25)
    rw [World.size_alloc] at h9
    exact (hb3.block (w.heap.size + 1) (by simp)).trans h9
  have hrx : (((w.alloc (.cells #[vi, va] 25)).alloc (.cells #[vj, vb] 25)).alloc (.cells #[.slice none 0 0, .slice none 0 0] 25)).heap[w.heap.size + 2]? = some (.cells #[.slice none 0 0, .slice none 0 0] 25 (0, 0)) := by
    have h := World.alloc_heap_new ((w.alloc (.cells #[vi, va] 25)).alloc (.cells #[vj, vb] 25)) (.cells #[.slice none 0 0, .slice none 0 0] 25)
    simpa using h
  have HI1 := Lib.hid (HI.below hb0 (Nat.le_refl _))
  have HA1 := Lib.hid (HA.below hb0 (Nat.le_refl _))
  have HX1 := Lib.hid (HX.below hb0 (Nat.le_refl _))
  have HJ1 := Lib.hid (HJ.below hb0 (Nat.le_refl _))
  have HB1 := Lib.hid (HB.below hb0 (Nat.le_refl _))
  have HY1 := Lib.hid (HY.below hb0 (Nat.le_refl _))
  obtain ⟨ia, ic, rfl⟩ := HI.shape
  obtain ⟨aa, ac, rfl, _⟩ := HA.shape
  obtain ⟨xa, xc, rfl⟩ := HX.shape
  obtain ⟨ja, jc, rfl⟩ := HJ.shape
  obtain ⟨ba, bc, rfl, _⟩ := HB.shape
  obtain ⟨ya, yc, rfl⟩ := HY.shape
  clear HI HA HX HJ HB HY hb1 hb2 hb3
  go_enter Tryz.func38, Tryz.ntmps38
  go_upto_region 1 with fail
  generalize World.alloc (World.alloc (World.alloc w _) _) _ = W at *
  have HB0 := Lib.hid hb0
  have HSZ := Lib.hid hsz
  have HGX := Lib.hid hgx
  have HGY := Lib.hid hgy
  have HRX := Lib.hid hrx
  clear hb0 hsz hgx hgy hrx
  have HHX : Hid (∀ X, Below W.heap.size W X → Calls Tryz.prog 62 #[.agg #[.slice ia I.length ic, .slice aa A.length ac], .slice xa x.length xc] X fun r w' => r = .returned (.bool (hasA I A x)) ∧ Below X.heap.size X w') := fun X hX =>
    ghas_any _ _ _ I A x X (HI1.out.below hX (Nat.le_refl _)) (HA1.out.below hX (Nat.le_refl _)) (HX1.out.below hX (Nat.le_refl _)) h1 h2
  have HHY : Hid (∀ X, Below W.heap.size W X → Calls Tryz.prog 62 #[.agg #[.slice ja J.length jc, .slice ba B.length bc], .slice ya y.length yc] X fun r w' => r = .returned (.bool (hasA J B y)) ∧ Below X.heap.size X w') := fun X hX =>
    ghas_any _ _ _ J B y X (HJ1.out.below hX (Nat.le_refl _)) (HB1.out.below hX (Nat.le_refl _)) (HY1.out.below hX (Nat.le_refl _)) h3 h4
  have HBAD : Hid (∀ X c, Below W.heap.size W X → gjoinR I A x J B y = errJ c → (X.cell? ⟨w.heap.size + 2, 0, none⟩ = some (.slice none 0 0) ∧ X.cell? ⟨w.heap.size + 2, 1, none⟩ = some (.slice none 0 0) ∧ X.frozen? ⟨w.heap.size + 2, 0, none⟩ = false ∧ X.frozen? ⟨w.heap.size + 2, 1, none⟩ = false) ∧
      (((X.setCell ⟨w.heap.size + 2, 0, none⟩ (.slice none 0 0)).setCell ⟨w.heap.size + 2, 1, none⟩ (.slice none 0 0)).cell? ⟨w.heap.size + 2, 0, none⟩ = some (.slice none 0 0) ∧ ((X.setCell ⟨w.heap.size + 2, 0, none⟩ (.slice none 0 0)).setCell ⟨w.heap.size + 2, 1, none⟩ (.slice none 0 0)).cell? ⟨w.heap.size + 2, 1, none⟩ = some (.slice none 0 0)) ∧
      GJoinPost w (gjoinR I A x J B y) (.returned (.tuple #[.agg #[.slice none 0 0, .slice none 0 0], .slice none 0 0, .slice none 0 0, .int .i64 c])) ((X.setCell ⟨w.heap.size + 2, 0, none⟩ (.slice none 0 0)).setCell ⟨w.heap.size + 2, 1, none⟩ (.slice none 0 0))) := fun X c hX he => by
    have hr := (hX.block _ (by have := HSZ.out; omega)).trans HRX.out
    refine ⟨box2_cells hr, box2_put hr _ _, ?_⟩
    rw [he]
    exact ⟨_, _, _, _, rfl, GrO.nil _ _, Own.nil _ _, Own.nil _ _, ((HB0.out.trans (hX.mono HB0.out.size)).setCell (p := ⟨w.heap.size + 2, 0, none⟩) (by show _ ≤ _ + 2; omega) _).setCell (p := ⟨w.heap.size + 2, 1, none⟩) (by show _ ≤ _ + 2; omega) _⟩
  have HGB : Hid (∀ X, Below W.heap.size W X → (X.cell? ⟨w.heap.size, 0, none⟩ = some (.slice ia I.length ic) ∧ X.cell? ⟨w.heap.size, 1, none⟩ = some (.slice aa A.length ac)) ∧ X.cell? ⟨w.heap.size + 1, 0, none⟩ = some (.slice ja J.length jc) ∧ X.cell? ⟨w.heap.size + 1, 1, none⟩ = some (.slice ba B.length bc)) := fun X hX => by
    obtain ⟨q0, q1, _, _⟩ := box2_cells ((hX.block w.heap.size (by have := HSZ.out; omega)).trans HGX.out)
    obtain ⟨r0, r1, _, _⟩ := box2_cells ((hX.block (w.heap.size + 1) (by have := HSZ.out; omega)).trans HGY.out)
    exact ⟨⟨q0, q1⟩, r0, r1⟩
  obtain ⟨⟨p0, p1⟩, q0, q1⟩ := HGB.out W (Below.refl _ _)
  by_cases hx : hasA I A x = true
  · by_cases hy : hasA J B y = true
    · have HE0 : Hid (gjoinR I A x J B y = if (gjoin2 I A x J B y).2.2 = true then errJ 3 else ((unionL I J, (gjoin2 I A x J B y).2.1), (gjoin1 I A x J).1, (gjoin2 I A x J B y).1, 0)) := by show _ = _; unfold gjoinR; rw [if_pos ⟨hx, hy⟩]
      have hpx := hasA_parts hx
      have hpy := hasA_parts hy
      have hmx := mayA_parts hpx.1
      have hmy := mayA_parts hpy.1
      have HPX := Lib.hid hpx
      have HPY := Lib.hid hpy
      have HMX := Lib.hid hmx
      have HMY := Lib.hid hmy
      rw [hx] at HHX
      rw [hy] at HHY
      obtain ⟨hU1, hU2⟩ := union_ins hmx.2.1 hmy.2.1
      have HU := Lib.hid hU1
      have HUL : Hid ((unionL I J).length ≤ 65536) := hU2
      have HCC : Hid (∀ X, Below W.heap.size W X → Calls Tryz.prog 101 #[.slice (some ⟨X.heap.size, 0, none⟩) 2 2] (X.alloc (.cells #[.slice ia I.length ic, .slice ja J.length jc] 22)) fun e w' => ∃ v, e = .returned v ∧ Own w' (X.heap.size + 1) v (I ++ J) ∧ Below X.heap.size X w' ∧ X.heap.size + 1 ≤ w'.heap.size) := fun X hX => by
        have hba := below_alloc1 X (.cells #[.slice ia I.length ic, .slice ja J.length jc] 22)
        have hX1 : Below W.heap.size W (X.alloc (.cells #[.slice ia I.length ic, .slice ja J.length jc] 22)) := hX.trans (hba.mono hX.size)
        refine (concI_any X.heap.size 2 [.slice ia I.length ic, .slice ja J.length jc] [I, J] _ (by simp) (fun j hj => ?_) (fun j hj => ?_) (by simp [totI]; have := HMX.out.1; have := HMY.out.1; omega) (by simp)).mono ?_
        · match j, hj with
          | 0, _ => exact cell_fresh rfl
          | 1, _ => exact cell_fresh rfl
          | j + 2, hj => exact absurd (show j + 2 < 2 from hj) (by omega)
        · match j, hj with
          | 0, _ => exact HI1.out.below hX1 (Nat.le_refl _)
          | 1, _ => exact HJ1.out.below hX1 (Nat.le_refl _)
          | j + 2, hj => exact absurd (show j + 2 < 2 from hj) (by omega)
        · rintro e w' ⟨v, rfl, ho, hb⟩
          have ho2 : Own w' (X.heap.size + 1) v (I ++ J) := by simpa using ho
          exact ⟨v, rfl, ho2, hba.trans (hb.mono hba.size), by simpa using hb.size⟩
      have HIJ : Hid ((I ++ J).length ≤ 400000 ∧ Lib.compact (ascI (I ++ J)) = unionL I J ∧ (ascI (I ++ J)).length = (I ++ J).length) := ⟨by rw [List.length_append]; have := hmx.1; have := hmy.1; omega, join_union (insB_lt hmx.2.1).2 (insB_lt hmy.2.1).2, ascI_len _⟩
      have HU64 : Hid (In64 (unionL I J)) := fun v hv => by have := (insB_lt hU1).1 v hv; omega
      clear hx hy hpx hpy hmx hmy hU1 hU2
      go_upto_region 3 with (first
        | (go_at_call 62; refine (HHY.out w1 HC1x.out).mono ?_; rintro e w2 ⟨rfl, hb⟩; have HB2 := Lib.hid (HC1x.out.trans (hb.mono HC1x.out.size)); clear hb p0 p1 q0 q1)
        | (go_at_call 62; refine (HHX.out W (Below.refl _ _)).mono ?_; rintro e w1 ⟨rfl, hb⟩; have HC1x := Lib.hid hb; clear hb p0 p1 q0 q1; obtain ⟨⟨p0, p1⟩, q0, q1⟩ := HGB.out w1 HC1x.out))
      clear HHX HHY HC1x
      obtain ⟨⟨p0, p1⟩, q0, q1⟩ := HGB.out w2 HB2.out
      have HG1 : Hid (gjoin1 I A x J = copyA (1 + (unionL I J).length) I A (inpA (unionL I J)) x ([], false)) := rfl
      have HG2 : Hid (∀ s, (gjoin1 I A x J).2 = s → gjoin2 I A x J B y = copyA (1 + (unionL I J).length) J B (inpA (unionL I J)) y s) := fun s e => by unfold gjoin2; rw [e]
      generalize unionL I J = U at *
      have HCX := Lib.hid (HCC.out w2 HB2.out)
      clear HCC
      generalize I ++ J = IJ at *
      go_upto_region 4 with (go_at_call 101; go_loud (refine HCX.out.mono ?_; rintro e w3 ⟨cv, rfl, ho, hb, hz⟩; obtain ⟨ca, cc, rfl⟩ := own_shC ho; have HO3 := Lib.hid ho; have HB3 := Lib.hid (HB2.out.trans (hb.mono HB2.out.size)); have HZ3 := Lib.hid hz; clear ho hb hz p0 p1 q0 q1))
      clear HCX
      go_upto_region 5 with (go_at_call 102; go_loud (refine (sort1_any (w2.heap.size + 1) _ IJ w3 HO3.out HZ3.out (by have := HIJ.out.1; omega)).mono ?_; rintro e w4 ⟨rfl, ho, hb⟩; have HO4 := Lib.hid ho; have HB4 := Lib.hid (HB3.out.trans (hb.mono (by have := HB2.out.size; omega))); have HZ4 := Lib.hid (Nat.le_trans HZ3.out hb.size); clear ho hb))
      have HCM : Hid (Calls Tryz.prog 103 #[.slice ca IJ.length cc] w4 fun e w' => ∃ v' c', e = .returned (.slice v' U.length c') ∧ IsInts w' (.slice v' U.length c') U ∧ Below W.heap.size W w') := by
        refine (compactI_any (w2.heap.size + 1) _ (ascI IJ) w4 HO4.out HZ4.out (by rw [HIJ.out.2.2]; have := HIJ.out.1; omega)).mono ?_
        rintro e w' ⟨v', rfl, ho, hb⟩
        rw [HIJ.out.2.1] at ho
        obtain ⟨qa, qc, rfl⟩ := own_shC ho
        exact ⟨qa, qc, rfl, ho.ints (by have := HUL.out; omega) HU64.out, HB4.out.trans (hb.mono (by have := HB2.out.size; omega))⟩
      clear HO3 HB3 HZ3
      go_upto_region 6 with (first
        | (go_at_call 91; go_loud (refine (maker0_any _ (.slice none 0 0) U w5 HI5.out (GrO.nil w5 0).ints.2 HU.out (by have := HUL.out; omega)).mono ?_; rintro e w6 ⟨pm, vi6, bf, rfl, hm, hb⟩; have HM6 := Lib.hid hm; have HB6 := Lib.hid hb; clear hm hb))
        | (go_at_call 103; go_loud (refine HCM.out.mono ?_; rintro e w5 ⟨ua, uc, rfl, hi, hb⟩; have HI5 := Lib.hid hi; have HBW5 := Lib.hid hb; clear hi hb)))
      have HW6 := Lib.hid (HBW5.out.trans (HB6.out.mono HBW5.out.size))
      obtain ⟨⟨p0, p1⟩, q0, q1⟩ := HGB.out w6 HW6.out
      have HOLD := Lib.hid HM6.out.old
      have HMD1 := Lib.hid (copyA_made (k := 1 + U.length) (I := I) (A := A) (img := inpA U) (l := x) (s := ([], false)) (by omega) ⟨rfl, by have := HUL.out; simp; omega⟩ HPX.out.2.1 (fun v _ => by have := inpA_isE U v; simpa using this) HPX.out.2.2)
      rw [← HG1.out] at HMD1
      have HSRT := Lib.hid (insB_lt HU.out).2
      have HCOP := Lib.hid (gcopier_any pm _ _ I A w6 (HI1.out.below HW6.out (Nat.le_refl _)) (HA1.out.below HW6.out (Nat.le_refl _)) h1)
      have HI5a := Lib.hid (HI1.out.below HBW5.out (Nat.le_refl _))
      have HA5a := Lib.hid (HA1.out.below HBW5.out (Nat.le_refl _))
      have HX5a := Lib.hid (HX1.out.below HBW5.out (Nat.le_refl _))
      have HJ5a := Lib.hid (HJ1.out.below HBW5.out (Nat.le_refl _))
      have HB5a := Lib.hid (HB1.out.below HBW5.out (Nat.le_refl _))
      have HY5a := Lib.hid (HY1.out.below HBW5.out (Nat.le_refl _))
      have HCPD : Hid (∀ Y cg ck cm, Below w6.heap.size w6 Y → (Y.heap[cm]? = some (.cells #[.pointer (some ⟨pm, 0, none⟩)] 69 (0, 0)) ∧ Y.heap[cg]? = some (.cells #[.slice ia I.length ic, .slice aa A.length ac] 25 (0, 0)) ∧ Y.heap[ck]? = some (.cells #[.int .i64 ((1 + I.length : Nat) : Int)] 3 (0, 0))) → (w6.heap.size ≤ cm ∧ w6.heap.size ≤ cg ∧ w6.heap.size ≤ ck) →
          Calls Tryz.prog 151 #[.slice xa x.length xc, .func (.func 96) #[.pointer (some ⟨pm, 0, none⟩)] #[], .pointer (some ⟨cg, 0, none⟩), .pointer (some ⟨ck, 0, none⟩), .pointer (some ⟨cm, 0, none⟩)] Y fun e w' => ∃ v, e = .returned v ∧ Own w' Y.heap.size v (gjoin1 I A x J).1 ∧ MkE w' w5.heap.size pm U (gjoin1 I A x J).2 vi6 bf 0 ∧ KpM w5.heap.size pm bf Y w') := fun Y cg ck cm hY ho hg => by
        have ho1 := HOLD.out
        have hM7 := HM6.out.below hY (Nat.le_refl _)
        have hW57 := HB6.out.trans (hY.mono HB6.out.size)
        rw [HG1.out]
        refine gcopied_any hM7 hW57.size (.slice ia I.length ic) (.slice aa A.length ac) _ _ I A x cg ck cm (inpA U) ?_ ?_ HPX.out.2.1 HPX.out.2.2 (fun v _ => by have := inpA_isE U v; simpa using this) HMX.out.1
        · exact copyAt_kp HI5a.out HA5a.out HX5a.out hW57 (Nat.le_refl _) ho.1 ho.2.1 ho.2.2 ⟨by omega, by omega⟩ ⟨by omega, by omega⟩ ⟨by omega, by omega⟩
        · refine ⟨96, #[.pointer (some ⟨pm, 0, none⟩)], #[], rfl, input_enters, fun X hX v hv => ?_⟩
          exact input_any v (hM7.below hX (Nat.le_refl _)) HSRT.out
      have ecop := copier1_enters
      go_upto_region 7 with (first
        | (go_at_call 151; go_loud (refine (HCPD.out w7 cg ck cm HB7.out HOB.out HGE.out).mono ?_; rintro e w8 ⟨v8, rfl, ho, hm, hk⟩; obtain ⟨za, zc, rfl⟩ := own_shC ho; have HV8 := Lib.hid ho; have HM8 := Lib.hid hm; have HK8 := Lib.hid hk; clear ho hm hk p0 p1 q0 q1))
        | (go_at_call 94; go_loud (refine HCOP.out.mono ?_; rintro e w7 ⟨cm, cg, ck, rfl, hb, hobj, hge⟩; have HB7 := Lib.hid hb; have HOB := Lib.hid hobj; have HGE := Lib.hid hge; clear hb hobj hge)))
      have HW58 := Lib.hid (HB6.out.trans ((HB7.out.mono HB6.out.size).trans (HK8.out.below.mono (Nat.le_refl _))))
      have HW8 := Lib.hid (HBW5.out.trans (HW58.out.mono HBW5.out.size))
      have HS68 : Hid (w6.heap.size ≤ w8.heap.size) := Nat.le_trans HB7.out.size HK8.out.below.size
      clear HCOP HCPD HOB HGE HI5a HA5a HX5a HG1
      generalize gjoin1 I A x J = g1 at *
      have HG3 := Lib.hid (HG2.out g1.2 rfl)
      clear HG2
      obtain ⟨⟨p0, p1⟩, q0, q1⟩ := HGB.out w8 HW8.out
      have HCOP := Lib.hid (gcopier_any pm _ _ J B w8 (HJ1.out.below HW8.out (Nat.le_refl _)) (HB1.out.below HW8.out (Nat.le_refl _)) h3)
      have HCPD : Hid (∀ Y cg ck cm, Below w8.heap.size w8 Y → (Y.heap[cm]? = some (.cells #[.pointer (some ⟨pm, 0, none⟩)] 69 (0, 0)) ∧ Y.heap[cg]? = some (.cells #[.slice ja J.length jc, .slice ba B.length bc] 25 (0, 0)) ∧ Y.heap[ck]? = some (.cells #[.int .i64 ((1 + J.length : Nat) : Int)] 3 (0, 0))) → (w8.heap.size ≤ cm ∧ w8.heap.size ≤ cg ∧ w8.heap.size ≤ ck) →
          Calls Tryz.prog 151 #[.slice ya y.length yc, .func (.func 96) #[.pointer (some ⟨pm, 0, none⟩)] #[], .pointer (some ⟨cg, 0, none⟩), .pointer (some ⟨ck, 0, none⟩), .pointer (some ⟨cm, 0, none⟩)] Y fun e w' => ∃ v, e = .returned v ∧ Own w' Y.heap.size v (gjoin2 I A x J B y).1 ∧ MkE w' w5.heap.size pm U (gjoin2 I A x J B y).2 vi6 bf 0 ∧ KpM w5.heap.size pm bf Y w') := fun Y cg ck cm hY ho hg => by
        have ho1 := HOLD.out
        have hs := HS68.out
        have hM7 := HM8.out.below hY (Nat.le_refl _)
        have hW57 := HW58.out.trans (hY.mono HW58.out.size)
        rw [HG3.out]
        refine gcopied_any hM7 hW57.size (.slice ja J.length jc) (.slice ba B.length bc) _ _ J B y cg ck cm (inpA U) ?_ ?_ HPY.out.2.1 HPY.out.2.2 (fun v _ => isE_mono (inpA_isE U v) (by omega)) HMY.out.1
        · exact copyAt_kp HJ5a.out HB5a.out HY5a.out hW57 (Nat.le_refl _) ho.1 ho.2.1 ho.2.2 ⟨by omega, by omega⟩ ⟨by omega, by omega⟩ ⟨by omega, by omega⟩
        · refine ⟨96, #[.pointer (some ⟨pm, 0, none⟩)], #[], rfl, input_enters, fun X hX v hv => ?_⟩
          exact input_any v (hM7.below hX (Nat.le_refl _)) HSRT.out
      go_upto_region 8 with (first
        | (go_at_call 151; go_loud (refine (HCPD.out w9 dg dk dm HB9.out HOB.out HGE.out).mono ?_; rintro e w10 ⟨v10, rfl, ho, hm, hk⟩; obtain ⟨ya2, yc2, rfl⟩ := own_shC ho; have HV10 := Lib.hid ho; have HM10 := Lib.hid hm; have HK10 := Lib.hid hk; clear ho hm hk p0 p1 q0 q1))
        | (go_at_call 94; go_loud (refine HCOP.out.mono ?_; rintro e w9 ⟨dm, dg, dk, rfl, hb, hobj, hge⟩; have HB9 := Lib.hid hb; have HOB := Lib.hid hobj; have HGE := Lib.hid hge; clear hb hobj hge)))
      have HU10 := Lib.hid (kpM_own (HM8.out.below HB9.out (Nat.le_refl _)) HK10.out (HV8.out.below HB9.out (Nat.le_refl _)))
      have HW10 : Hid (Below W.heap.size W w10) := HW8.out.trans ((HB9.out.mono HW8.out.size).trans (HK10.out.below.mono HBW5.out.size))
      have HS7 : Hid (w5.heap.size ≤ w7.heap.size ∧ w5.heap.size ≤ w9.heap.size) := ⟨Nat.le_trans HB6.out.size HB7.out.size, Nat.le_trans HW58.out.size HB9.out.size⟩
      obtain ⟨_, _, m4⟩ := HM10.out.cell
      clear HCOP HCPD HOB HGE
      by_cases hfull : (gjoin2 I A x J B y).2.2 = true
      · have HE : Hid (gjoinR I A x J B y = errJ 3) := by show _ = _; rw [HE0.out, if_pos hfull]
        rw [hfull] at m4
        obtain ⟨⟨c0, c1, f0, f1⟩, ⟨g0, g1⟩, hpost⟩ := HBAD.out w10 3 HW10.out HE.out
        have HPO := Lib.hid hpost
        clear hpost hfull
        go_wp2
        exact ⟨rfl, .tuple #[.agg #[.slice none 0 0, .slice none 0 0], .slice none 0 0, .slice none 0 0, .int .i64 3], by simp [results, Tryz.f38, go_sem, g0, g1], HPO.out⟩
      · have hfull : (gjoin2 I A x J B y).2.2 = false := by simpa using hfull
        have HE : Hid (gjoinR I A x J B y = ((U, (gjoin2 I A x J B y).2.1), g1.1, (gjoin2 I A x J B y).1, 0)) := by show _ = _; rw [HE0.out, hfull]; rfl
        rw [hfull] at m4
        obtain ⟨i7, j7, rfl⟩ := HM10.out.ins.1.shape
        have hle : w5.heap.size ≤ w10.heap.size := Nat.le_of_lt (Nat.lt_of_le_of_lt HM6.out.lbs HM10.out.old.1)
        have HGRA := Lib.hid (graph_e HM10.out hle)
        have HFIN : Hid (∀ X va, w10.cell? ⟨pm, 2, none⟩ = some va → Below w10.heap.size w10 X → (X.cell? ⟨w.heap.size + 2, 0, none⟩ = some (.slice none 0 0) ∧ X.cell? ⟨w.heap.size + 2, 1, none⟩ = some (.slice none 0 0) ∧ X.frozen? ⟨w.heap.size + 2, 0, none⟩ = false ∧ X.frozen? ⟨w.heap.size + 2, 1, none⟩ = false) ∧
            (((X.setCell ⟨w.heap.size + 2, 0, none⟩ (.slice i7 U.length j7)).setCell ⟨w.heap.size + 2, 1, none⟩ va).cell? ⟨w.heap.size + 2, 0, none⟩ = some (.slice i7 U.length j7) ∧ ((X.setCell ⟨w.heap.size + 2, 0, none⟩ (.slice i7 U.length j7)).setCell ⟨w.heap.size + 2, 1, none⟩ va).cell? ⟨w.heap.size + 2, 1, none⟩ = some va) ∧
            GJoinPost w (gjoinR I A x J B y) (.returned (.tuple #[.agg #[.slice i7 U.length j7, va], .slice za g1.1.length zc, .slice ya2 (gjoin2 I A x J B y).1.length yc2, .int .i64 0])) ((X.setCell ⟨w.heap.size + 2, 0, none⟩ (.slice i7 U.length j7)).setCell ⟨w.heap.size + 2, 1, none⟩ va)) := fun X va hva hX => by
          have hwX := HW10.out.trans (hX.mono HW10.out.size)
          have hs := HSZ.out
          have hr := (hwX.block (w.heap.size + 2) (by omega)).trans HRX.out
          have hb5 := HBW5.out.size
          have hs7 := HS7.out
          have hc : w.heap.size + 2 < w5.heap.size := by omega
          have hg := (HM10.out.gr hva).below hX (Nat.le_refl _)
          have hx := HV10.out.below hX (Nat.le_refl _)
          have hu := HU10.out.below hX (Nat.le_refl _)
          refine ⟨box2_cells hr, box2_put hr _ _, ?_⟩
          rw [HE.out]
          refine ⟨_, _, _, _, rfl, ?_, ?_, ?_, ?_⟩
          · exact ((hg.set_far (n := 0) (u := .slice i7 U.length j7) hc).set_far (n := 1) (u := va) hc).mono (by omega)
          · exact ((hu.set_far (n := 0) (u := .slice i7 U.length j7) (by omega)).set_far (n := 1) (u := va) (by omega)).mono (by omega)
          · exact ((hx.set_far (n := 0) (u := .slice i7 U.length j7) (by omega)).set_far (n := 1) (u := va) (by omega)).mono (by omega)
          · exact ((HB0.out.trans (hwX.mono HB0.out.size)).setCell (p := ⟨w.heap.size + 2, 0, none⟩) (by show _ ≤ _ + 2; omega) _).setCell (p := ⟨w.heap.size + 2, 1, none⟩) (by show _ ≤ _ + 2; omega) _
        clear hfull
        go_wp2_with (go_at_call 97; go_loud (refine HGRA.out.mono ?_; rintro e w12 ⟨va, rfl, hva, hb12, hp12, _⟩; obtain ⟨va1, vc1, rfl, _⟩ := hp12.shape; clear hp12; obtain ⟨⟨c0, c1, f0, f1⟩, ⟨g0, g1x⟩, hpost⟩ := HFIN.out w12 _ hva hb12; have HPO := Lib.hid hpost; clear hpost hb12 hva))
        exact ⟨rfl, .tuple #[.agg #[.slice i7 U.length j7, .slice va1 (gjoin2 I A x J B y).2.1.length vc1], .slice za g1.1.length zc, .slice ya2 (gjoin2 I A x J B y).1.length yc2, .int .i64 0], by simp [results, Tryz.f38, go_sem, g0, g1x], HPO.out⟩
    · have hy : hasA J B y = false := by simpa using hy
      have HE : Hid (gjoinR I A x J B y = errJ 2) := by show _ = _; unfold gjoinR; rw [if_neg (fun h => by rw [hy] at h; cases h.2)]
      rw [hx] at HHX
      rw [hy] at HHY
      clear hx hy
      go_wp2_with (first
        | (go_at_call 62; refine (HHY.out w1 HC1x.out).mono ?_; rintro e w2 ⟨rfl, hb⟩; obtain ⟨⟨c0, c1, f0, f1⟩, ⟨g0, g1⟩, hpost⟩ := HBAD.out w2 2 (HC1x.out.trans (hb.mono HC1x.out.size)) HE.out; have HPO := Lib.hid hpost; clear hpost hb p0 p1 q0 q1)
        | (go_at_call 62; refine (HHX.out W (Below.refl _ _)).mono ?_; rintro e w1 ⟨rfl, hb⟩; have HC1x := Lib.hid hb; clear hb p0 p1 q0 q1; obtain ⟨⟨p0, p1⟩, q0, q1⟩ := HGB.out w1 HC1x.out))
      exact ⟨rfl, .tuple #[.agg #[.slice none 0 0, .slice none 0 0], .slice none 0 0, .slice none 0 0, .int .i64 2], by simp [results, Tryz.f38, go_sem, g0, g1], HPO.out⟩
  · have hx : hasA I A x = false := by simpa using hx
    have HE : Hid (gjoinR I A x J B y = errJ 2) := by show _ = _; unfold gjoinR; rw [if_neg (fun h => by rw [hx] at h; cases h.1)]
    rw [hx] at HHX
    clear hx
    go_wp2_with (go_at_call 62; refine (HHX.out W (Below.refl _ _)).mono ?_; rintro e w1 ⟨rfl, hb⟩; obtain ⟨⟨c0, c1, f0, f1⟩, ⟨g0, g1⟩, hpost⟩ := HBAD.out w1 2 hb HE.out; have HPO := Lib.hid hpost; clear hpost hb p0 p1 q0 q1)
    exact ⟨rfl, .tuple #[.agg #[.slice none 0 0, .slice none 0 0], .slice none 0 0, .slice none 0 0, .int .i64 2], by simp [results, Tryz.f38, go_sem, g0, g1], HPO.out⟩
end Go.Proofs.YtppglbffmgnooaaGreat
