/- Joined texts: AgRSupp, AgRFind, AgRRed, AgGreat, AgPRed. -/
import Derived.Test.YtppglbffmgnooaaGreatA12
import Derived.Test.YtppglbffmgnooaaGreatA01
/- skolemref06.Support. -/
namespace Go.Proofs.YtppglbffmgnooaaGreat
open Go.RowKit Go.Maps
set_option linter.unusedVariables false
set_option linter.unusedSimpArgs false

/-- The marked inputs among the first k. -/
def supK (I : List Int) (m : List Bool) (k : Nat) : List Int := (onN m 1 k).map (fun n => I.getD (n.toNat - 1) 0)
theorem supK_succ (I : List Int) (m : List Bool) (k : Nat) : supK I m (k + 1) = supK I m k ++ (if m.getD (1 + k) false = true then [I.getD k 0] else []) := by
  unfold supK
  rw [onN_succ, List.map_append]
  congr 1
  split
  · simp only [List.map_cons, List.map_nil]
    rw [show (((1 + k : Nat) : Int)).toNat - 1 = k from by omega]
  · rfl
set_option maxRecDepth 100000 in
set_option maxHeartbeats 1600000 in
theorem rsupport6_any (vi va : Value) (I : List Int) (A : List Pr) (x : Int) (w : World) (HI : IsInts w vi I) (HA : IsPairs w va A) (h1 : I.length ≤ 4000000) (h2 : A.length ≤ 4000000) (h3 : -9223372036854775808 ≤ x) (h4 : x ≤ 9223372036854775807) :
    Calls Tryz.prog 15 #[.agg #[vi, va], .int .i64 x] w fun r w' => ∃ v, r = .returned (.tuple #[v, .int .i64 (supportA I A x).2]) ∧ Own w' w.heap.size v (supportA I A x).1 ∧ Below w.heap.size w w' := by
  have hb0 := below_alloc1 w (.cells #[vi, va] 25)
  have hsz : (w.alloc (.cells #[vi, va] 25)).heap.size = w.heap.size + 1 := by simp
  have hbx := boxA_new w vi va
  have HI1 := Lib.hid (HI.below hb0 (Nat.le_refl _))
  have HA1 := Lib.hid (HA.below hb0 (Nat.le_refl _))
  obtain ⟨ia, ic, rfl⟩ := HI.shape
  obtain ⟨aa, ac, rfl, _⟩ := HA.shape
  clear HI HA
  go_enter Tryz.func15, Tryz.ntmps15
  go_upto_region 1 with fail
  generalize World.alloc w _ = W at *
  have HB0 := Lib.hid hb0
  have HBX := Lib.hid hbx
  have HSZ := Lib.hid hsz
  obtain ⟨p0, p1⟩ := hbx
  clear hb0 hsz
  have HH := Lib.hid (rHas6_any _ _ I A x W HI1.out HA1.out h1 h2)
  by_cases hh : hasA I A [x] = true
  · have HE : Hid (supportA I A x = (supK I (reachA (1 + I.length) A [x]) I.length, 0)) := by show _ = _; unfold supportA; rw [if_pos hh]; rfl
    have HR : Hid (∀ X, Below W.heap.size W X → Calls Tryz.prog 64 #[.agg #[.slice ia I.length ic, .slice aa A.length ac], .slice (some ⟨X.heap.size, 0, none⟩) 1 1] (X.alloc (.cells #[.int .i64 x] 3)) fun r w' => ∃ g, r = .returned (.slice (some ⟨g, 0, none⟩) (1 + I.length + A.length) (1 + I.length + A.length)) ∧ OwnB w' (X.alloc (.cells #[.int .i64 x] 3)).heap.size (.slice (some ⟨g, 0, none⟩) (1 + I.length + A.length) (1 + I.length + A.length)) (reachA (1 + I.length) A [x]) ∧ Below (X.alloc (.cells #[.int .i64 x] 3)).heap.size (X.alloc (.cells #[.int .i64 x] 3)) w') := fun X hX =>
      rreached_any _ _ _ I A [x] (X.alloc (.cells #[.int .i64 x] 3)) (HI1.out.below (hX.alloc hX.size _) (Nat.le_refl _)) (HA1.out.below (hX.alloc hX.size _) (Nat.le_refl _)) (one_int X x h3 h4) h1 h2 (hasA_parts hh).2.1 (hasA_parts hh).2.2
    have HLN := Lib.hid (reachA_len (1 + I.length) A [x])
    rw [hh] at HH
    clear hh
    obtain ⟨nn, hnn⟩ : ∃ nn : Nat, 1 + I.length + A.length = nn := ⟨_, rfl⟩
    rw [hnn] at HR HLN
    have HNN := Lib.hid hnn
    clear hnn
    generalize reachA (1 + I.length) A [x] = m at *
    go_upto_region 4 with (first
      | (go_at_call 64; go_loud (refine (HR.out w1 HB1.out).mono ?_; rintro r w2 ⟨g, rfl, ho, hb⟩; have HO := Lib.hid ho; have HB2 : Hid (Below W.heap.size W w2) := (HB1.out.alloc HB1.out.size _).trans (hb.mono (by have := HB1.out.size; simp; omega)); clear ho hb))
      | (go_at_call 23; go_loud (refine HH.out.mono ?_; rintro r w1 ⟨rfl, hb⟩; have HB1 := Lib.hid hb; obtain ⟨q0, q1⟩ := HBX.out.below hb (by rw [HSZ.out]; omega); clear hb)))
    obtain ⟨r0, r1⟩ := HBX.out.below HB2.out (by rw [HSZ.out]; omega)
    have HOZ := Lib.hid (HO.out.lt1)
    have HWG : Hid (Below W.heap.size W w2) := HB2.out
    clear q0 q1 p0 p1 HH HR
    go_wp2
    go_loopw [7, 8] (fun s7 s8 wr => ∃ k : Nat, k ≤ I.length ∧ s8 = .int .i64 k ∧ Own wr w2.heap.size s7 (supK I m k) ∧ Below w2.heap.size w2 wr) (fun _ s8 _ => I.length - (intOf s8).toNat)
    case atStart => exact ⟨0, Nat.zero_le _, rfl, Own.nil _ _, Below.refl _ _⟩
    case round =>
      clear r0 r1
      obtain ⟨k, hk, rfl, ho, hb⟩ := hrel
      have HOR := Lib.hid ho
      have HB := Lib.hid hb
      have HBW : Hid (Below W.heap.size W wr) := HB2.out.trans (hb.mono HB2.out.size)
      obtain ⟨r0, r1⟩ := HBX.out.below HBW.out (by rw [HSZ.out]; omega)
      clear hb ho
      by_cases hlt : k < I.length
      · obtain ⟨b, off, rfl, hbl, hx0⟩ := HI1.out.cellY hlt
        have hx := (HBW.out.cell (p := ⟨b, off + k, none⟩) hbl).trans hx0
        obtain ⟨j, hj⟩ : ∃ j : Nat, 1 + k = j := ⟨_, rfl⟩
        have hjz : (k : Int) + 1 = (j : Int) := by omega
        have hjn : j < nn := by have := HNN.out; omega
        have j1 := HO.out.cell j (by rw [HLN.out]; exact hjn)
        have j0 := (HB.out.cell (p := ⟨g, j, none⟩) HOZ.out).trans j1
        have HSK := Lib.hid (supK_succ I m k)
        rw [hj] at HSK
        have hj0 : (0 : Int) ≤ (j : Int) := by omega
        have hj1 : (j : Int) < (nn : Int) := by omega
        have hkz : (k : Int) < (I.length : Int) := by omega
        have HKL := Lib.hid hlt
        have hkb : k < 4000000 := by omega
        have hlen : (supK I m k).length < 17592186044416 := by unfold supK; rw [List.length_map]; have := onN_len m 1 k; omega
        have HLEN := Lib.hid hlen
        clear hj hjn j1 hx0 hlt hlen
        generalize I.getD k 0 = y at *
        generalize supK I m k = acc at *
        cases ht : m.getD j false with
        | true =>
          rw [ht] at j0 HSK
          rw [if_pos rfl] at HSK
          clear ht
          go_wp2_with (at_builtin; refine wpList_app1A rfl _ _ rfl w2.heap.size _ _ y wr.heap.size rfl rfl (HOR.out.alloc _) (cell_fresh rfl) HLEN.out (by simp; have := HB.out.size; omega) ?_; intro u' w' ho' hg' _; have HO' := Lib.hid ho'; have HG' := Lib.hid hg'; clear ho' hg')
          go_roundw
          case rel => exact ⟨k + 1, HKL.out, by go_num, by rw [HSK.out]; exact HO'.out, (HB.out.alloc HB.out.size _).grown HG'.out (by have := HB.out.size; simp; omega) (fun j e => (HOR.out.lt j e).1)⟩
          case measure => have := HKL.out; simp [intOf]; omega
        | false =>
          rw [ht] at j0 HSK
          rw [if_neg (by decide), List.append_nil] at HSK
          clear ht
          go_wp2
          go_roundw
          case rel => exact ⟨k + 1, HKL.out, by go_num, by rw [HSK.out]; exact HOR.out, HB.out⟩
          case measure => have := HKL.out; simp [intOf]; omega
      · obtain rfl : k = I.length := by omega
        go_wp2
        go_ret2
        exact ⟨_, by rw [HE.out]; rfl, by rw [HE.out]; exact HOR.out.mono (Nat.le_trans HB0.out.size HB2.out.size), HB0.out.trans (HBW.out.mono HB0.out.size)⟩
  · have hh : hasA I A [x] = false := by simpa using hh
    have HE : Hid (supportA I A x = ([], 2)) := by show _ = _; unfold supportA; rw [hh]; rfl
    rw [hh] at HH
    clear hh
    go_wp2_with (go_at_call 23; refine HH.out.mono ?_; rintro e w1 ⟨rfl, hb1⟩; have HB1 := Lib.hid hb1; clear hb1)
    go_ret2
    exact ⟨_, by rw [HE.out]; rfl, by rw [HE.out]; exact Own.nil _ _, HB0.out.trans (HB1.out.mono HB0.out.size)⟩
end Go.Proofs.YtppglbffmgnooaaGreat

/- skolemref06.find. -/
namespace Go.Proofs.YtppglbffmgnooaaGreat
open Go.RowKit Go.Maps
set_option linter.unusedVariables false
set_option linter.unusedSimpArgs false

def findA (A : List Pr) (p : Pr) : Int := if p ∈ A then ((A.idxOf p : Nat) : Int) else -1
theorem findA_hit {A : List Pr} {p : Pr} {k : Nat} (hk : k < A.length) (hp : A.getD k dPr = p) (hn : ∀ j, j < k → A.getD j dPr ≠ p) : findA A p = (k : Int) := by
  have he : A[k] = p := by rw [← hp]; simp [List.getD, hk]
  have hm : p ∈ A := by rw [← he]; exact List.getElem_mem hk
  have hlt := List.idxOf_lt_length_of_mem hm
  have hg : A[A.idxOf p] = p := List.getElem_idxOf hlt
  have hi : A.idxOf p = k := by
    rcases Nat.lt_trichotomy (A.idxOf p) k with h | h | h
    · exact absurd (by simp [List.getD, hlt]) (hn _ h)
    · exact h
    · exfalso
      have := List.not_of_lt_findIdx (p := fun x => x == p) (xs := A) (i := k) h
      rw [he] at this
      simp at this
  unfold findA
  rw [if_pos hm, hi]
theorem findA_no {A : List Pr} {p : Pr} (hn : ∀ j, j < A.length → A.getD j dPr ≠ p) : findA A p = -1 := by
  unfold findA
  rw [if_neg]
  intro hm
  obtain ⟨j, hj, he⟩ := List.mem_iff_getElem.1 hm
  exact hn j hj (by rw [← he]; simp [List.getD, hj])
set_option maxRecDepth 100000 in
set_option maxHeartbeats 1600000 in
theorem rfind6_any (vi va : Value) (I : List Int) (A : List Pr) (a b : Int) (w : World) (HI : IsInts w vi I) (HA : IsPairs w va A) (h1 : I.length ≤ 4000000) (h2 : A.length ≤ 4000000) (hok : okUpto (1 + I.length) A A.length = true) (hb0 : 0 ≤ b) (hb1 : b ≤ 4000000) :
    Calls Tryz.prog 72 #[.agg #[vi, va], .int .i64 a, .int .i64 b] w fun r w' => r = .returned (.int .i64 (findA A (a, b))) ∧ Below w.heap.size w w' := by
  have hbl := below_alloc1 w (.cells #[vi, va] 25)
  obtain ⟨p0, p1⟩ := boxA_new w vi va
  have HA1 := Lib.hid (HA.below hbl (Nat.le_refl _))
  have HBL := Lib.hid hbl
  obtain ⟨ia, ic, rfl⟩ := HI.shape
  obtain ⟨aa, ac, rfl, _⟩ := HA.shape
  obtain ⟨q, hq⟩ : ∃ q : Nat, b / 2 = (q : Int) := ⟨(b / 2).toNat, by omega⟩
  obtain ⟨st, hst⟩ : ∃ st : Nat, q - I.length = st := ⟨_, rfl⟩
  have HMX : Hid (max 0 ((q : Int) - (I.length : Int)) = (st : Int)) := by show _ = _; omega
  have hstb : st ≤ 4000000 := by omega
  have HLOW : Hid (∀ j, j < st → j < A.length → A.getD j dPr ≠ (a, b)) := fun j hj hjA e => by
    have h := (okPair_bd hok hjA).2.2
    rw [e] at h
    simp only at h
    omega
  clear HI HA hbl hok hst
  go_enter Tryz.func72, Tryz.ntmps72
  go_upto_region 1 with fail
  generalize World.alloc w _ = W at *
  go_wp2
  go_loop [7] (fun s7 => ∃ k : Nat, k ≤ 4000000 ∧ s7 = .int .i64 k ∧ Hid (∀ j, j < k → j < A.length → A.getD j dPr ≠ (a, b))) (fun s7 => A.length - (intOf s7).toNat)
  case atStart => exact ⟨st, hstb, by rw [HMX.out], HLOW.out⟩
  case round =>
    obtain ⟨k, hk, rfl, HN⟩ := hrel
    by_cases hlt : k < A.length
    · obtain ⟨b2, off, rfl, hbk, hx, hy⟩ := HA1.out.at hlt
      have HHIT : Hid (A.getD k dPr = (a, b) → findA A (a, b) = (k : Int)) := fun e => findA_hit hlt e (fun j hj => HN.out j hj (by omega))
      have HNX : Hid (A.getD k dPr ≠ (a, b) → ∀ j, j < k + 1 → j < A.length → A.getD j dPr ≠ (a, b)) := fun e j hj hjA => by
        by_cases ej : j = k
        · subst ej; exact e
        · exact HN.out j (by omega) hjA
      have HKL := Lib.hid hlt
      have hkz : (k : Int) < (A.length : Int) := by omega
      have hkb : k < 4000000 := by omega
      clear hlt HN
      generalize A.getD k dPr = o at *
      obtain ⟨x, y⟩ := o
      simp only at hx hy
      by_cases c1 : x = a
      · by_cases c2 : y = b
        · subst c1
          subst c2
          have HF := Lib.hid (HHIT.out rfl)
          clear HHIT HNX
          go_wp2
          go_ret
          exact ⟨ret_int HF.out.symm, HBL.out⟩
        · have d2 : (y == b) = false := by simpa using c2
          have HX := Lib.hid (HNX.out (fun e => c2 (by injection e)))
          subst c1
          clear HHIT HNX c2
          go_wp2
          go_round
          case rel => exact ⟨k + 1, by omega, by go_num, HX.out⟩
          case measure => have := HKL.out; simp [intOf]; omega
      · have d1 : (x == a) = false := by simpa using c1
        have HX := Lib.hid (HNX.out (fun e => c1 (by injection e)))
        clear HHIT HNX c1
        go_wp2
        go_round
        case rel => exact ⟨k + 1, by omega, by go_num, HX.out⟩
        case measure => have := HKL.out; simp [intOf]; omega
    · have HF : Hid (findA A (a, b) = -1) := findA_no (fun j hj => HN.out j (by omega) hj)
      have hkz : ¬ ((k : Int) < (A.length : Int)) := by omega
      clear HN
      go_wp2
      go_ret
      exact ⟨ret_int HF.out.symm, HBL.out⟩
end Go.Proofs.YtppglbffmgnooaaGreat

/- skolemref06.Reduced. -/
namespace Go.Proofs.YtppglbffmgnooaaGreat
open Go.RowKit Go.Maps
set_option linter.unusedVariables false
set_option linter.unusedSimpArgs false

/-- And i is one that a maker could have made. -/
def okRed (A : List Pr) (i : Nat) : Prop := 2 ≤ (A.getD i dPr).1 ∧ (A.getD i dPr).1 < (A.getD i dPr).2 ∧ notE (A.getD i dPr).1 ≠ (A.getD i dPr).2 ∧ findA A (A.getD i dPr) = (i : Int)
instance (A : List Pr) (i : Nat) : Decidable (okRed A i) := by unfold okRed; exact inferInstance
def redB (I : List Int) (A : List Pr) : Bool := mayA I A && (List.range A.length).all (fun i => decide (okRed A i))
theorem redB_bad {I : List Int} {A : List Pr} {k : Nat} (hk : k < A.length) (h : ¬ okRed A k) : redB I A = false := by
  unfold redB
  rw [Bool.and_eq_false_iff]
  refine .inr ?_
  rw [List.all_eq_false]
  exact ⟨k, List.mem_range.2 hk, by rw [decide_eq_true_eq]; exact h⟩
theorem redB_good {I : List Int} {A : List Pr} (hm : mayA I A = true) (h : ∀ j, j < A.length → okRed A j) : redB I A = true := by
  unfold redB
  rw [hm, Bool.true_and, List.all_eq_true]
  intro j hj
  rw [decide_eq_true_eq]
  exact h j (List.mem_range.1 hj)
set_option maxRecDepth 100000 in
set_option maxHeartbeats 3200000 in
theorem rreduced6_any (vi va : Value) (I : List Int) (A : List Pr) (w : World) (HI : IsInts w vi I) (HA : IsPairs w va A) (h1 : I.length ≤ 4000000) (h2 : A.length ≤ 4000000) :
    Calls Tryz.prog 21 #[.agg #[vi, va]] w fun r w' => r = .returned (.bool (redB I A)) ∧ Below w.heap.size w w' := by
  have hb0 := below_alloc1 w (.cells #[vi, va] 25)
  have hsz : (w.alloc (.cells #[vi, va] 25)).heap.size = w.heap.size + 1 := by simp
  have hbx := boxA_new w vi va
  have HI1 := Lib.hid (HI.below hb0 (Nat.le_refl _))
  have HA1 := Lib.hid (HA.below hb0 (Nat.le_refl _))
  obtain ⟨ia, ic, rfl⟩ := HI.shape
  obtain ⟨aa, ac, rfl, _⟩ := HA.shape
  clear HI HA
  go_enter Tryz.func21, Tryz.ntmps21
  go_upto_region 1 with fail
  generalize World.alloc w _ = W at *
  have HB0 := Lib.hid hb0
  have HBX := Lib.hid hbx
  have HSZ := Lib.hid hsz
  obtain ⟨p0, p1⟩ := hbx
  clear hb0 hsz
  have HM := Lib.hid (rmay6_any _ _ I A W HI1.out HA1.out h1 h2)
  by_cases cm : mayA I A = true
  · have HGOOD : Hid ((∀ j, j < A.length → okRed A j) → redB I A = true) := fun h => redB_good cm h
    have hmp := mayA_parts cm
    have HOB := Lib.hid (fun i => okPair_bd (k := 1 + I.length) (A := A) (i := i) hmp.2.2)
    have HOK := Lib.hid hmp.2.2
    have hnn : 1 + I.length + A.length ≤ 200000 := hmp.1
    rw [cm] at HM
    clear cm hmp
    go_upto_region 3 with (go_at_call 19; go_loud (refine HM.out.mono ?_; rintro r w1 ⟨rfl, hb⟩; have HB1 := Lib.hid hb; obtain ⟨r0, r1⟩ := HBX.out.below hb (by rw [HSZ.out]; omega); clear hb))
    clear p0 p1 HM
    go_wp2
    go_loopw [3] (fun s3 wr => ∃ k : Nat, k ≤ A.length ∧ s3 = .int .i64 k ∧ Below W.heap.size W wr ∧ Hid (∀ j, j < k → okRed A j)) (fun s3 _ => A.length - (intOf s3).toNat)
    case atStart => exact ⟨0, Nat.zero_le _, rfl, HB1.out, fun j hj => absurd hj (Nat.not_lt_zero _)⟩
    case round =>
      clear r0 r1
      obtain ⟨k, hk, rfl, hb, HN⟩ := hrel
      have HBR := Lib.hid hb
      obtain ⟨r0, r1⟩ := HBX.out.below hb (by rw [HSZ.out]; omega)
      clear hb
      by_cases hlt : k < A.length
      · obtain ⟨b, off, rfl, hbl, hx0, hy0⟩ := HA1.out.at hlt
        have hx := (HBR.out.cell (p := ⟨b, off + k * 2, none⟩) hbl).trans hx0
        have hy := (HBR.out.cell (p := ⟨b, off + k * 2 + 1, none⟩) hbl).trans hy0
        obtain ⟨⟨u0, u1⟩, v0, v1⟩ := HOB.out k hlt
        have HBD : Hid (¬ okRed A k → redB I A = false) := fun h => redB_bad hlt h
        have HNX : Hid (okRed A k → ∀ j, j < k + 1 → okRed A j) := fun h j hj => by
          by_cases e : j = k
          · subst e; exact h
          · exact HN.out j (by omega)
        have HDF : Hid (okRed A k ↔ (2 ≤ (A.getD k dPr).1 ∧ (A.getD k dPr).1 < (A.getD k dPr).2 ∧ notE (A.getD k dPr).1 ≠ (A.getD k dPr).2 ∧ findA A (A.getD k dPr) = (k : Int))) := Iff.rfl
        have HKL := Lib.hid hlt
        have hkb : k < 4000000 := by omega
        have hkz0 : (0 : Int) ≤ (k : Int) := by omega
        have hkz1 : (k : Int) < (A.length : Int) := by omega
        generalize A.getD k dPr = o at *
        obtain ⟨x, y⟩ := o
        simp only at hx hy u0 u1 v0 v1 HDF
        have hxb : x ≤ 4000000 := by omega
        have hyb : y ≤ 4000000 := by omega
        have HFD : Hid (∀ X, Below W.heap.size W X → Calls Tryz.prog 72 #[.agg #[.slice ia I.length ic, .slice (some ⟨b, off, none⟩) A.length ac], .int .i64 x, .int .i64 y] X fun r w' => r = .returned (.int .i64 (findA A (x, y))) ∧ Below X.heap.size X w') := fun X hX => rfind6_any _ _ I A x y X (HI1.out.below hX (Nat.le_refl _)) (HA1.out.below hX (Nat.le_refl _)) h1 h2 HOK.out v0 hyb
        have HNT := Lib.hid (fun X => rnot_any x X u0 hxb)
        generalize okRed A k = OK at *
        generalize findA A (x, y) = fd at *
        generalize notE x = nx at *
        clear hx0 hy0 hlt HN hbl u1 v1
        go_upto_region 6 with fail
        go_wp2_with fail
        go_quiet (fail)
        have HBQ : Hid (Below W.heap.size W (wr.drewN nq)) := HBR.out.trans (Quiet.below (⟨nq, rfl⟩ : Quiet wr (wr.drewN nq)) _)
        clear r0 r1 hx hy
        obtain ⟨r0, r1⟩ := HBX.out.below HBQ.out (by rw [HSZ.out]; omega)
        generalize wr.drewN nq = wq at *
        by_cases c1 : x < 2
        · have d1 : decide (x < 2) = true := decide_eq_true c1
          have HF : Hid (redB I A = false) := HBD.out (fun h => by have h := HDF.out.1 h; omega)
          clear HBD HNX HDF
          go_wp2_with fail
          go_ret
          exact ⟨ret_bool HF.out.symm, HB0.out.trans (HBQ.out.mono HB0.out.size)⟩
        · have d1 : decide (x < 2) = false := decide_eq_false c1
          by_cases c2 : y ≤ x
          · have d2 : decide (y ≤ x) = true := decide_eq_true c2
            have HF : Hid (redB I A = false) := HBD.out (fun h => by have h := HDF.out.1 h; omega)
            clear HBD HNX HDF
            go_wp2_with fail
            go_ret
            exact ⟨ret_bool HF.out.symm, HB0.out.trans (HBQ.out.mono HB0.out.size)⟩
          · have d2 : decide (y ≤ x) = false := decide_eq_false c2
            by_cases c3 : nx = y
            · subst c3
              have HF : Hid (redB I A = false) := HBD.out (fun h => by have h := HDF.out.1 h; exact h.2.2.1 rfl)
              clear HBD HNX HDF
              go_wp2_with ((go_at_call 71; go_loud (refine (HNT.out _).mono ?_; rintro r w9 ⟨rfl, rfl⟩)))
              go_ret
              exact ⟨ret_bool HF.out.symm, HB0.out.trans (HBQ.out.mono HB0.out.size)⟩
            · have d3 : (nx == y) = false := by simpa using c3
              by_cases c4 : fd = (k : Int)
              · have d4 : (fd != (k : Int)) = false := by simp [c4]
                have HX := Lib.hid (HNX.out (HDF.out.2 ⟨by omega, by omega, c3, c4⟩))
                clear HBD HNX HDF c4 c3
                go_wp2_with (first
                  | (go_at_call 72; go_loud (refine (HFD.out _ HBQ.out).mono ?_; rintro r w5 ⟨rfl, hb5⟩; have HB5 := Lib.hid (HBQ.out.trans (hb5.mono HBQ.out.size)); clear hb5))
                  | (go_at_call 71; go_loud (refine (HNT.out _).mono ?_; rintro r w9 ⟨rfl, rfl⟩)))
                go_roundw
                case rel => exact ⟨k + 1, HKL.out, by go_num, HB5.out, HX.out⟩
                case measure => have := HKL.out; simp [intOf]; omega
              · have d4 : (fd != (k : Int)) = true := by simp [c4]
                have HF : Hid (redB I A = false) := HBD.out (fun h => c4 (HDF.out.1 h).2.2.2)
                clear HBD HNX HDF c4 c3
                go_wp2_with (first
                  | (go_at_call 72; go_loud (refine (HFD.out _ HBQ.out).mono ?_; rintro r w5 ⟨rfl, hb5⟩; have HB5 := Lib.hid (HBQ.out.trans (hb5.mono HBQ.out.size)); clear hb5))
                  | (go_at_call 71; go_loud (refine (HNT.out _).mono ?_; rintro r w9 ⟨rfl, rfl⟩)))
                go_ret
                exact ⟨ret_bool HF.out.symm, HB0.out.trans (HB5.out.mono HB0.out.size)⟩
      · obtain rfl : k = A.length := by omega
        have HF := Lib.hid (HGOOD.out HN.out)
        go_wp2
        go_ret
        exact ⟨ret_bool HF.out.symm, HB0.out.trans (HBR.out.mono HB0.out.size)⟩
  · have cm : mayA I A = false := by simpa using cm
    have HE : Hid (redB I A = false) := by show _ = _; unfold redB; rw [cm]; rfl
    rw [cm] at HM
    clear cm
    go_wp2_with (go_at_call 19; go_loud (refine HM.out.mono ?_; rintro r w1 ⟨rfl, hb⟩; have HB1 := Lib.hid hb; clear hb))
    go_ret
    exact ⟨ret_bool HE.out.symm, HB0.out.trans (HB1.out.mono HB0.out.size)⟩
end Go.Proofs.YtppglbffmgnooaaGreat

/- The law's great (layer 6). -/
namespace Go.Proofs.YtppglbffmgnooaaGreat
open Go.RowKit Go.Maps
set_option linter.unusedVariables false
set_option linter.unusedSimpArgs false

/-- A graph as it lies in memory: its two lists' values, the lists. -/
abbrev Gv := Value × Value × List Int × List Pr
def dGv : Gv := (undef, undef, [], [])
def manyA (I : List Int) (A : List Pr) : Bool := decide (600 < A.length) || decide (100 < I.length)
set_option maxHeartbeats 1600000 in
set_option maxRecDepth 100000 in
theorem great6_any (ns : List Gv) (b : Nat) (w : World) (hbl : b < w.heap.size) (hn : ns.length ≤ 100)
    (hc : ∀ j, j < ns.length → w.cell? ⟨b, j * 2, none⟩ = some (ns.getD j dGv).1 ∧ w.cell? ⟨b, j * 2 + 1, none⟩ = some (ns.getD j dGv).2.1 ∧ IsInts w (ns.getD j dGv).1 (ns.getD j dGv).2.2.1 ∧ IsPairs w (ns.getD j dGv).2.1 (ns.getD j dGv).2.2.2 ∧ (ns.getD j dGv).2.2.1.length ≤ 4000000 ∧ (ns.getD j dGv).2.2.2.length ≤ 4000000) :
    Calls Tryz.prog 12 #[.slice (some ⟨b, 0, none⟩) ns.length ns.length] w fun e w' => e = .returned (.bool (ns.any (fun x => manyA x.2.2.1 x.2.2.2))) ∧ Below w.heap.size w w' := by
  have HC := Lib.hid hc
  clear hc
  go_enter Tryz.func12, Tryz.ntmps12
  go_wp2
  go_loopw [7] (fun i wr => ∃ k : Nat, k ≤ ns.length ∧ i = .int .i64 k ∧ Below w.heap.size w wr ∧ Hid ((ns.take k).any (fun x => manyA x.2.2.1 x.2.2.2) = false)) (fun i _ => ns.length - (intOf i).toNat)
  case atStart => exact ⟨0, Nat.zero_le _, rfl, Below.refl _ _, rfl⟩
  case round =>
    obtain ⟨k, hk, rfl, hbel, HAN⟩ := hrel
    have HB := Lib.hid hbel
    have hszr := hbel.size
    by_cases hlt : k < ns.length
    · obtain ⟨hx0, hy0, hI, hA, hL, hS⟩ := HC.out k hlt
      have hcx := (hbel.cell (p := ⟨b, k * 2, none⟩) hbl).trans hx0
      have hcy := (hbel.cell (p := ⟨b, k * 2 + 1, none⟩) hbl).trans hy0
      have HTK : Hid (ns.take (k + 1) = ns.take k ++ [ns.getD k dGv]) := by show _ = _; rw [List.take_succ_eq_append_getElem hlt]; simp [List.getD, hlt]
      have HMEM : Hid (ns.getD k dGv ∈ ns) := by show _ ∈ _; simp [List.getD, hlt]
      have hk0 : (0 : Int) ≤ (k : Int) := by omega
      have hk1 : (k : Int) < (ns.length : Int) := by omega
      have hk2 : (k : Int) < 4000001 := by omega
      have HKL := Lib.hid hlt
      clear hx0 hy0 hlt
      generalize ns.getD k dGv = y at *
      obtain ⟨y1, y2, y3, y4⟩ := y
      simp only at hcx hcy hI hA hL hS
      obtain ⟨ia, ic, rfl⟩ := hI.shape
      obtain ⟨ga, gc, rfl, _⟩ := hA.shape
      have hba := (Below.refl wr.heap.size wr).alloc (Nat.le_refl _) (.cells #[.slice ia y3.length ic, .slice ga y4.length gc] 25)
      have HBA := Lib.hid (hbel.trans (hba.mono hszr))
      have HMN : Hid (manyA y3 y4 = (decide (600 < y4.length) || decide (100 < y3.length))) := rfl
      clear hbel hba hI hA
      generalize y3.length = n3 at *
      generalize y4.length = n4 at *
      by_cases c1 : 600 < n4
      · have d1 : decide ((600 : Int) < (n4 : Int)) = true := decide_eq_true (by omega)
        have HR : Hid (ns.any (fun x => manyA x.2.2.1 x.2.2.2) = true) := List.any_eq_true.2 ⟨_, HMEM.out, by rw [show manyA _ _ = _ from HMN.out, decide_eq_true c1]; rfl⟩
        clear c1
        go_wp2_with fail
        go_ret
        exact ⟨ret_bool HR.out.symm, HBA.out⟩
      · have d1 : decide ((600 : Int) < (n4 : Int)) = false := decide_eq_false (by omega)
        by_cases c2 : 100 < n3
        · have d2 : decide ((100 : Int) < (n3 : Int)) = true := decide_eq_true (by omega)
          have HR : Hid (ns.any (fun x => manyA x.2.2.1 x.2.2.2) = true) := List.any_eq_true.2 ⟨_, HMEM.out, by rw [show manyA _ _ = _ from HMN.out, decide_eq_true c2, Bool.or_true]⟩
          clear c1 c2
          go_wp2_with fail
          go_ret
          exact ⟨ret_bool HR.out.symm, HBA.out⟩
        · have d2 : decide ((100 : Int) < (n3 : Int)) = false := decide_eq_false (by omega)
          have HR : Hid ((ns.take (k + 1)).any (fun x => manyA x.2.2.1 x.2.2.2) = false) := by show _ = _; rw [HTK.out, List.any_append, HAN.out, List.any_cons, HMN.out, decide_eq_false c1, decide_eq_false c2]; rfl
          clear c1 c2
          go_wp2_with fail
          go_roundw
          case rel => exact ⟨k + 1, HKL.out, by go_num, HBA.out, HR.out⟩
          case measure => have := HKL.out; simp [intOf]; omega
    · have HR : Hid (ns.any (fun x => manyA x.2.2.1 x.2.2.2) = false) := by have h := HAN.out; rw [List.take_of_length_le (by omega)] at h; exact h
      clear hbel
      go_wp2
      go_ret
      exact ⟨ret_bool HR.out.symm, HB.out⟩
end Go.Proofs.YtppglbffmgnooaaGreat

/- Pure: graphs that are reduced: what makers make is, and their cones. -/
namespace Go.Proofs.YtppglbffmgnooaaGreat
set_option linter.unusedVariables false
set_option linter.unusedSimpArgs false

def RedA (A : List Pr) : Prop := ∀ i, i < A.length → okRed A i
theorem redB_iff {I : List Int} {A : List Pr} : redB I A = true ↔ mayA I A = true ∧ RedA A := by
  unfold redB RedA
  rw [Bool.and_eq_true, List.all_eq_true]
  constructor
  · rintro ⟨h1, h2⟩
    exact ⟨h1, fun i hi => of_decide_eq_true (h2 i (List.mem_range.2 hi))⟩
  · rintro ⟨h1, h2⟩
    exact ⟨h1, fun i hi => decide_eq_true (h2 i (List.mem_range.1 hi))⟩
theorem RedA.nil : RedA [] := fun i hi => absurd hi (Nat.not_lt_zero _)
theorem find_app {A B : List Pr} {p : Pr} (h : p ∈ A) : findA (A ++ B) p = findA A p := by
  unfold findA
  rw [if_pos h, if_pos (List.mem_append_left _ h), List.idxOf_append, if_pos h]
theorem RedA.snoc {A : List Pr} {x y : Int} (h : RedA A) (h1 : 2 ≤ x) (h2 : x < y) (h3 : notE x ≠ y) (h4 : (x, y) ∉ A) : RedA (A ++ [(x, y)]) := by
  intro i hi
  rw [List.length_append, List.length_singleton] at hi
  by_cases e : i < A.length
  · have hg : (A ++ [(x, y)]).getD i dPr = A.getD i dPr := by simp [List.getD, List.getElem?_append_left e]
    obtain ⟨a1, a2, a3, a4⟩ := h i e
    have hm : A.getD i dPr ∈ A := by simp [List.getD, e]
    unfold okRed
    rw [hg]
    exact ⟨a1, a2, a3, by rw [find_app hm]; exact a4⟩
  · have hi2 : i = A.length := by omega
    subst hi2
    have hg : (A ++ [(x, y)]).getD A.length dPr = (x, y) := by simp [List.getD]
    unfold okRed
    rw [hg]
    refine ⟨h1, h2, h3, ?_⟩
    unfold findA
    rw [if_pos (by simp), List.idxOf_append, if_neg h4]
    simp
theorem conjO_red {k : Nat} {s : Mq} {x y : Int} (h : RedA s.1) (hx : 0 ≤ x) (hxy : x ≤ y) : RedA (conjO k s x y).2.1 := by
  unfold conjO
  split
  · exact h
  · split
    · exact h
    · split
      · exact h
      · split
        · exact h
        · rename_i c1 c2 c3 _
          rw [not_or] at c1 c2
          exact h.snoc (by omega) (by omega) (fun e => c1.2 e.symm) c3
theorem conjA_red {k : Nat} {s : Mq} {x y : Int} (h : RedA s.1) (hx : 0 ≤ x) (hy : 0 ≤ y) : RedA (conjA k s x y).2.1 := conjO_red h (by omega) (by omega)
theorem disjA_red {k : Nat} {s : Mq} {x y : Int} (h : RedA s.1) (hx : 0 ≤ x) (hy : 0 ≤ y) : RedA (disjA k s x y).2.1 := conjA_red h (notE_half hx).2 (notE_half hy).2
theorem exclA_red {k : Nat} {s : Mq} {x y : Int} (hk : 1 ≤ k) (hs : MOk k s) (h : RedA s.1) (hx : isE x (k + s.1.length) = true) (hy : isE y (k + s.1.length) = true) : RedA (exclA k s x y).2.1 := by
  have m1 := conjA_made hs hk hx (notE_isE hy)
  have m2 := conjA_made (s := (conjA k s x (notE y)).2) m1.ok hk (m1.more (notE_isE hx)) (m1.more hy)
  have r1 := conjA_red (k := k) h (isE_true.1 hx).1 (isE_true.1 (notE_isE hy)).1
  have r2 := conjA_red (k := k) (s := (conjA k s x (notE y)).2) r1 (isE_true.1 (notE_isE hx)).1 (isE_true.1 hy).1
  exact disjA_red r2 (isE_true.1 m1.edge).1 (isE_true.1 m2.edge).1
theorem iteA_red {k : Nat} {s : Mq} {c x y : Int} (hk : 1 ≤ k) (hs : MOk k s) (h : RedA s.1) (hc : isE c (k + s.1.length) = true) (hx : isE x (k + s.1.length) = true) (hy : isE y (k + s.1.length) = true) : RedA (iteA k s c x y).2.1 := by
  have m1 := conjA_made hs hk hc hx
  have m2 := conjA_made (s := (conjA k s c x).2) m1.ok hk (m1.more (notE_isE hc)) (m1.more hy)
  have r1 := conjA_red (k := k) h (isE_true.1 hc).1 (isE_true.1 hx).1
  have r2 := conjA_red (k := k) (s := (conjA k s c x).2) r1 (isE_true.1 (notE_isE hc)).1 (isE_true.1 hy).1
  exact disjA_red r2 (isE_true.1 m1.edge).1 (isE_true.1 m2.edge).1
theorem allA_red {k : Nat} (hk : 1 ≤ k) : ∀ (l : List Int) (s : Mq) (x : Int), MOk k s → RedA s.1 → isE x (k + s.1.length) = true → (∀ e ∈ l, isE e (k + s.1.length) = true) → RedA (allA k l s x).2.1
  | [], s, x, _, h, _, _ => h
  | e :: r, s, x, hs, h, hx, he => by
    have m1 := conjA_made hs hk hx (he e List.mem_cons_self)
    exact allA_red hk r _ _ m1.ok (conjA_red h (isE_true.1 hx).1 (isE_true.1 (he e List.mem_cons_self)).1) m1.edge (fun y hy => m1.more (he y (List.mem_cons_of_mem _ hy)))
theorem cpAll_red {k kg : Nat} {A : List Pr} {s : Mq} (hk : 1 ≤ k) (hA : okUpto kg A A.length = true) : ∀ (ns : List Int) (st : List Int × Mq), (∀ y ∈ ns, ∃ n : Nat, y = n ∧ kg ≤ n ∧ n < kg + A.length) → CpOk k (kg + A.length) s st → RedA st.2.1 → RedA (ns.foldl (cpAnd kg A k) st).2.1
  | [], st, _, _, h => h
  | y :: r, st, hn, hok, h => by
    rw [List.foldl_cons]
    obtain ⟨n, rfl, h1, h2⟩ := hn y List.mem_cons_self
    have hb := okPair_bd hA (i := n - kg) (by omega)
    have e1 : isE (movE st.1 (A.getD (n - kg) dPr).1) (k + st.2.1.length) = true := movE_isE hok.ent hb.1.1 (by rw [hok.len]; have := hb.1.2; omega)
    have e2 : isE (movE st.1 (A.getD (n - kg) dPr).2) (k + st.2.1.length) = true := movE_isE hok.ent hb.2.1 (by rw [hok.len]; have := hb.2.2; omega)
    refine cpAll_red hk hA r _ (fun z hz => hn z (List.mem_cons_of_mem _ hz)) (hok.step hk (p1 := (A.getD (n - kg) dPr).1) (p2 := (A.getD (n - kg) dPr).2) ⟨hb.1.1, by have := hb.1.2; omega⟩ ⟨hb.2.1, by have := hb.2.2; omega⟩ n) ?_
    exact conjA_red h (isE_true.1 e1).1 (isE_true.1 e2).1
theorem copyA_red {k : Nat} {I : List Int} {A : List Pr} {img : Int → Int} {l : List Int} {s : Mq} (hk : 1 ≤ k) (hs : MOk k s) (h : RedA s.1) (hA : okUpto (1 + I.length) A A.length = true) (hi : ∀ v ∈ I, isE (img v) (k + s.1.length) = true) : RedA (copyA k I A img l s).2.1 := by
  refine cpAll_red hk hA _ _ (fun y hy => ?_) (cpIns_ok hk hs hi) h
  obtain ⟨n, rfl, h1, h2, _⟩ := onN_mem.1 hy
  exact ⟨n, rfl, h1, h2⟩
end Go.Proofs.YtppglbffmgnooaaGreat
