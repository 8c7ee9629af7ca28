/- Joined texts: CxLawDep. -/
import Derived.Test.YtldgdfchemjcmaaK21
import Derived.Test.YtldgdfchemjcmaaK23
import Derived.Test.YtldgdfchemjcmaaK25
/- The law CircDepends, walked. -/
namespace Go.Proofs.Ytldgdfchemjcmaa
open Go.RowKit Go.Maps Go.Shelf
set_option linter.unusedVariables false
set_option linter.unusedSimpArgs false

/-- The literals whose variables are not in a list. -/
def offL (b L : List Int) : List Int := b.filter (fun x => !decide (varC x ∈ L))
theorem dep_same {P : List Blk} {gs : List Gt} {x : Int} (h : mayN P gs x = true) (a b : List Int) : evalN P gs x (insideL a (flatB P)) = evalN P gs x (overL (insideL a (flatB P)) (offL (insideL b (flatB P)) (supL P gs x))) := by
  obtain ⟨R, hmp, _, hn, hx, hP⟩ := mayN_named h
  have hva : varIn (insideL a (flatB P)) := overL_in (fun x hx => by cases hx) (within_in hP)
  have hvb : varIn (insideL b (flatB P)) := overL_in (fun x hx => by cases hx) (within_in hP)
  have hvc : varIn (offL (insideL b (flatB P)) (supL P gs x)) := fun z hz => hvb z (List.mem_filter.1 hz).1
  have m1 := asc_mayB (overL_asc [] (a.filter (fun x => decide (varC x ∈ flatB P)))) hva
  have m2 := asc_mayB (overL_asc (insideL a (flatB P)) (offL (insideL b (flatB P)) (supL P gs x))) (overL_in hva hvc)
  have e1 : okN P gs x (insideL a (flatB P)) = true := by unfold okN; rw [h]; exact m1
  have e2 : okN P gs x (overL (insideL a (flatB P)) (offL (insideL b (flatB P)) (supL P gs x))) = true := by unfold okN; rw [h]; exact m2
  have key : litV (runA gs (insideL a (flatB P))).1 x = litV (runA gs (overL (insideL a (flatB P)) (offL (insideL b (flatB P)) (supL P gs x)))).1 x := by
    refine depends_on h _ _ (fun i hi => ?_)
    have hn0 : firstL (offL (insideL b (flatB P)) (supL P gs x)) i = none := first_none (fun z hz e => by
      have := (List.mem_filter.1 hz).2
      rw [e] at this
      simp [hi] at this)
    have e := setA_first (insideL a (flatB P)) (fun _ => false) i (overL_asc [] (a.filter (fun x => decide (varC x ∈ flatB P))))
    rw [over_says, hn0, e]
    rfl
  unfold evalN
  rw [if_pos e1, if_pos e2, key]
theorem dep_ok {P : List Blk} {gs : List Gt} {x : Int} (h : mayN P gs x = true) (a : List Int) : evalN P gs x (insideL a (flatB P)) = (litV (runA gs (insideL a (flatB P))).1 x, 0) := by
  obtain ⟨R, hmp, _, hn, hx, hP⟩ := mayN_named h
  have hva : varIn (insideL a (flatB P)) := overL_in (fun x hx => by cases hx) (within_in hP)
  have m1 := asc_mayB (overL_asc [] (a.filter (fun x => decide (varC x ∈ flatB P)))) hva
  unfold evalN
  rw [if_pos (by unfold okN; rw [h]; exact m1)]
theorem offL_take {b L : List Int} {k : Nat} (h : k < b.length) : offL (b.take (k + 1)) L = offL (b.take k) L ++ (if decide (varC (b.getD k 0) ∈ L) = true then [] else [b.getD k 0]) := by
  unfold offL
  rw [List.take_succ_eq_append_getElem h, List.filter_append]
  congr 1
  by_cases hv : varC b[k] ∈ L <;> simp [List.getD, h, List.filter_cons, hv]
theorem net_set {X : World} {b : Nat} {p g : Value} {o : Int} {T : TypeId} (x : Int) (h : X.heap[b]? = some (.cells #[p, g, .int .i64 o] T (0, 0))) : (X.setCell ⟨b, 2, none⟩ (.int .i64 x)).heap[b]? = some (.cells #[p, g, .int .i64 x] T (0, 0)) := by
  have := heap_setCell_same X b 2 _ T (.int .i64 x) h
  simpa using this
theorem net_box {X : World} {b : Nat} {p g : Value} {o : Int} {T : TypeId} (h : X.heap[b]? = some (.cells #[p, g, .int .i64 o] T (0, 0))) : BoxN X b p g o := ⟨block_cell h rfl, block_cell h rfl, block_cell h rfl⟩

set_option maxRecDepth 100000 in
set_option maxHeartbeats 12800000 in
theorem circdeps_any (vp vg va vb : Value) (o x : Int) (P : List Blk) (gs : List Gt) (a b : List Int) (w : World) (HP : IsBlocks w vp P) (HG : IsGates w vg gs) (HA : IsInts w va a) (HB : IsInts w vb b) (hp : P.length ≤ 2000000) (hg : gs.length ≤ 900000) (hs : sizeG gs ≤ 2000000) (hal : a.length ≤ 1100000) (hbl : b.length ≤ 1100000) (ho1 : -9223372036854775808 ≤ o) (ho2 : o ≤ 9223372036854775807) (hx1 : -9223372036854775808 ≤ x) (hx2 : x ≤ 9223372036854775807) :
    Calls Try.prog 9 #[.agg #[vp, vg, .int .i64 o], .int .i64 x, va, vb] w fun e w' => e = .returned (.bool true) ∧ Below w.heap.size w w' := by
  obtain ⟨pa, pc, rfl, _⟩ := HP.shape
  obtain ⟨ga, gc, rfl, _⟩ := HG.shape
  obtain ⟨aa, ac, rfl⟩ := HA.shape
  obtain ⟨ba, bc, rfl⟩ := HB.shape
  obtain ⟨W0, hW0⟩ : ∃ W0, w.alloc (.cells #[.slice pa P.length pc, .slice ga gs.length gc, .int .i64 o] 25) = W0 := ⟨_, rfl⟩
  have hb0 : Below w.heap.size w W0 := by rw [← hW0]; exact below_new _ _
  have hs1 : W0.heap.size = w.heap.size + 1 := by rw [← hW0]; simp
  have hh0 : W0.heap[w.heap.size]? = some (.cells #[.slice pa P.length pc, .slice ga gs.length gc, .int .i64 o] 25 (0, 0)) := by rw [← hW0]; exact heap_hit rfl
  have HHX : Hid (∀ X, Below W0.heap.size W0 X → X.heap[w.heap.size]? = some (.cells #[.slice pa P.length pc, .slice ga gs.length gc, .int .i64 o] 25 (0, 0))) := fun X hX => (hX.block w.heap.size (by omega)).trans hh0
  have HW0 := Lib.hid hW0
  have HB0 := Lib.hid hb0
  have HS1 := Lib.hid hs1
  have HIN : Hid (∀ X, Below w.heap.size w X → IsBlocks X (.slice pa P.length pc) P ∧ IsGates X (.slice ga gs.length gc) gs ∧ IsInts X (.slice aa a.length ac) a ∧ IsInts X (.slice ba b.length bc) b) := fun X hX => ⟨HP.below hX (Nat.le_refl _), HG.below hX (Nat.le_refl _), HA.below hX (Nat.le_refl _), HB.below hX (Nat.le_refl _)⟩
  have hW00 := HIN.out W0 hb0
  have H1 := Lib.hid (great_one _ _ o P gs W0 hW00.1 hW00.2.1 (by omega) (by omega))
  have HMY : Hid (∀ (z : Int) X, Below w.heap.size w X → -9223372036854775808 ≤ z → z ≤ 9223372036854775807 → Calls Try.prog 16 #[.agg #[.slice pa P.length pc, .slice ga gs.length gc, .int .i64 z]] X fun e w' => e = .returned (.bool (mayN P gs z)) ∧ Below X.heap.size X w') := fun z X hX h1 h2 => rmay5_any _ _ z P gs X (HIN.out X hX).1 (HIN.out X hX).2.1 (by omega) (by omega) h1 h2
  have HSU : Hid (∀ X, Below w.heap.size w X → Calls Try.prog 13 #[.agg #[.slice pa P.length pc, .slice ga gs.length gc, .int .i64 o], .int .i64 x] X fun e w' => ∃ v, e = .returned (.tuple #[v, .int .i64 (supN P gs o x).2]) ∧ Own w' X.heap.size v (supN P gs o x).1 ∧ Below X.heap.size X w') := fun X hX => csup_any _ _ o x P gs X (HIN.out X hX).1 (HIN.out X hX).2.1 (by omega) (by omega) ho1 ho2 hx1 hx2
  have HEV : Hid (∀ (v : Value) (l : List Int) X, Below w.heap.size w X → IsInts X v l → l.length ≤ 3000000 → Calls Try.prog 20 #[.agg #[.slice pa P.length pc, .slice ga gs.length gc, .int .i64 x], v] X fun e w' => e = .returned (.tuple #[.bool (evalN P gs x l).1, .int .i64 (evalN P gs x l).2]) ∧ Below X.heap.size X w') := fun v l X hX hl hll => ceval_any _ _ _ x P gs l X (HIN.out X hX).1 (HIN.out X hX).2.1 hl (by omega) (by omega) hll hx1 hx2
  have HSB := Lib.hid (sup_bd P gs o x)
  have HM1 := Lib.hid (HMY.out o)
  have HM2 := Lib.hid (HMY.out x)
  have HAL := Lib.hid hal
  have HBL := Lib.hid hbl
  have HO12 := Lib.hid (And.intro ho1 ho2)
  have HX12 := Lib.hid (And.intro hx1 hx2)
  obtain ⟨p0, p1, p2⟩ := net_box (HHX.out W0 (Below.refl _ _))
  clear HP HG HA HB hp hg hs hal hbl ho1 ho2 hW0 hb0 hs1 hh0 hW00 HMY
  have stop : ∀ (q : Bool), (manyG gs || (decide ((2000 : Int) < (a.length : Int)) || (decide ((2000 : Int) < (b.length : Int)) || !mayN P gs o))) = q → q = true → Calls Try.prog 9 #[.agg #[.slice pa P.length pc, .slice ga gs.length gc, .int .i64 o], .int .i64 x, .slice aa a.length ac, .slice ba b.length bc] w fun e w' => e = .returned (.bool true) ∧ Below w.heap.size w w' := by
    intro q hq hq1
    subst hq1
    clear HSU HEV HSB HM2
    cases hm : manyG gs with
    | true =>
      rw [hm] at H1
      clear hq hm
      go_enter Try.func9, Try.ntmps9
      go_upto_region 1 with fail
      rw [HW0.out]
      go_wp2_with (first
        | (go_at_call 11; refine H1.out.mono ?_; rintro e w1 ⟨rfl, hb1⟩)
        | (go_at_call 12; refine (works_any _).mono ?_; rintro e w2 ⟨rfl, hb2⟩))
      go_ret
      exact ⟨rfl, HB0.out.trans ((hb1.trans (hb2.mono hb1.size)).mono HB0.out.size)⟩
    | false =>
      rw [hm] at H1 hq
      clear hm
      by_cases ha : (2000 : Int) < (a.length : Int)
      · clear hq
        go_enter Try.func9, Try.ntmps9
        go_upto_region 1 with fail
        rw [HW0.out]
        go_wp2_with (first
          | (go_at_call 11; refine H1.out.mono ?_; rintro e w1 ⟨rfl, hb1⟩)
          | (go_at_call 12; refine (works_any _).mono ?_; rintro e w2 ⟨rfl, hb2⟩))
        go_ret
        exact ⟨rfl, HB0.out.trans ((hb1.trans (hb2.mono hb1.size)).mono HB0.out.size)⟩
      · have hab : decide ((2000 : Int) < (a.length : Int)) = false := by simpa using ha
        rw [hab] at hq
        clear ha
        by_cases hb : (2000 : Int) < (b.length : Int)
        · clear hq
          go_enter Try.func9, Try.ntmps9
          go_upto_region 1 with fail
          rw [HW0.out]
          go_wp2_with (first
            | (go_at_call 11; refine H1.out.mono ?_; rintro e w1 ⟨rfl, hb1⟩)
            | (go_at_call 12; refine (works_any _).mono ?_; rintro e w2 ⟨rfl, hb2⟩))
          go_ret
          exact ⟨rfl, HB0.out.trans ((hb1.trans (hb2.mono hb1.size)).mono HB0.out.size)⟩
        · have hbb : decide ((2000 : Int) < (b.length : Int)) = false := by simpa using hb
          rw [hbb] at hq
          have hmo : mayN P gs o = false := by simpa using hq
          rw [hmo] at HM1
          clear hb hq hmo
          go_enter Try.func9, Try.ntmps9
          go_upto_region 1 with fail
          rw [HW0.out]
          go_wp2_with (first
            | (go_at_call 11; refine H1.out.mono ?_; rintro e w1 ⟨rfl, hb1⟩; clear p0 p1 p2; obtain ⟨p0, p1, p2⟩ := net_box (HHX.out w1 hb1))
            | (go_at_call 16; refine (HM1.out w1 (HB0.out.trans (hb1.mono HB0.out.size)) HO12.out.1 HO12.out.2).mono ?_; rintro e w3 ⟨rfl, hb3⟩)
            | (go_at_call 12; refine (works_any _).mono ?_; rintro e w2 ⟨rfl, hb2⟩))
          go_ret
          exact ⟨rfl, HB0.out.trans ((hb1.trans ((hb3.trans (hb2.mono hb3.size)).mono hb1.size)).mono HB0.out.size)⟩
  by_cases hq : (manyG gs || (decide ((2000 : Int) < (a.length : Int)) || (decide ((2000 : Int) < (b.length : Int)) || !mayN P gs o))) = true
  · exact stop _ rfl hq
  clear stop
  have hq2 : manyG gs = false ∧ decide ((2000 : Int) < (a.length : Int)) = false ∧ decide ((2000 : Int) < (b.length : Int)) = false ∧ mayN P gs o = true := by
    revert hq
    cases manyG gs <;> cases decide ((2000 : Int) < (a.length : Int)) <;> cases decide ((2000 : Int) < (b.length : Int)) <;> cases mayN P gs o <;> simp
  clear hq
  obtain ⟨hmg, hab, hbb, hmo⟩ := hq2
  rw [hmg] at H1
  rw [hmo] at HM1
  obtain ⟨R, hmp, hnm, hnl, ho, hPv⟩ := mayN_named hmo
  have HPV := Lib.hid hPv
  have HMP := Lib.hid hmp
  have HSUP : Hid (supN P gs o x = if decide (varC x ∈ R) = true then (supL P gs x, 0) else ([], 6)) := by
    show _ = _
    unfold supN
    rw [hnm]
    simp only
    rw [if_pos (by simpa using ho)]
  have HMX : Hid (mayN P gs x = decide (varC x ∈ R)) := by show _ = _; unfold mayN; rw [hnm]
  clear hmg hmo hmp hnm hnl ho hPv
  have HSET : Hid (∀ (X : World), Below W0.heap.size W0 X → (X.setCell ⟨w.heap.size, 2, none⟩ (.int .i64 x)).heap[w.heap.size]? = some (.cells #[.slice pa P.length pc, .slice ga gs.length gc, .int .i64 x] 25 (0, 0)) ∧ Below w.heap.size w (X.setCell ⟨w.heap.size, 2, none⟩ (.int .i64 x)) ∧ X.frozen? ⟨w.heap.size, 2, none⟩ = false ∧ ∀ B v l, W0.heap.size ≤ B → Own X B v l → Own (X.setCell ⟨w.heap.size, 2, none⟩ (.int .i64 x)) B v l) := fun X hX =>
    ⟨net_set x (HHX.out X hX), (HB0.out.trans (hX.mono HB0.out.size)).setCell (p := ⟨w.heap.size, 2, none⟩) (Nat.le_refl _) _, by simp [World.frozen?, HHX.out X hX], fun B v l hB h => (Kept.setCell X ⟨w.heap.size, 2, none⟩ (.int .i64 x)).row h (fun g hg e => by
      have h1 := (h.lt g hg).1
      have h2 := HS1.out
      have h3 : g = w.heap.size := e
      omega)⟩
  cases hk : decide (varC x ∈ R) with
  | false =>
    rw [hk] at HSUP HMX
    have HS : Hid (supN P gs o x = ([], 6)) := HSUP.out
    rw [HS.out] at HSU
    rw [HMX.out] at HM2
    clear hk HSUP HMX HS HEV HSB
    go_enter Try.func9, Try.ntmps9
    go_upto_region 1 with fail
    rw [HW0.out]
    go_upto_region 5 with (first
      | (go_at_call 11; refine H1.out.mono ?_; rintro e w1 ⟨rfl, hb1⟩; have HB1 := Lib.hid hb1; clear hb1 p0 p1 p2; obtain ⟨p0, p1, p2⟩ := net_box (HHX.out w1 HB1.out))
      | (go_at_call 16; refine (HM1.out w1 (HB0.out.trans (HB1.out.mono HB0.out.size)) HO12.out.1 HO12.out.2).mono ?_; rintro e w3 ⟨rfl, hb3⟩; have HB3 := Lib.hid (HB1.out.trans (hb3.mono HB1.out.size)); clear hb3 p0 p1 p2; obtain ⟨p0, p1, p2⟩ := net_box (HHX.out w3 HB3.out))
      | (go_at_call 13; refine (HSU.out w3 (HB0.out.trans (HB3.out.mono HB0.out.size))).mono ?_; rintro e w4 ⟨v4, rfl, ho4, hb4⟩; have HB4 := Lib.hid (HB3.out.trans (hb4.mono HB3.out.size)); clear hb4 p0 p1 p2; obtain ⟨p0, p1, p2⟩ := net_box (HHX.out w4 HB4.out); have fz := (HSET.out w4 HB4.out).2.2.1; obtain ⟨oa, oc, rfl⟩ : ∃ oa oc, v4 = .slice oa 0 oc := own_shC ho4; clear ho4))
    obtain ⟨W1, hW1⟩ : ∃ W, w4.setCell ⟨w.heap.size, 2, none⟩ (.int .i64 x) = W := ⟨_, rfl⟩
    have hst := HSET.out w4 HB4.out
    rw [hW1] at hst ⊢
    have HBW := Lib.hid hst.2.1
    clear p0 p1 p2 fz
    obtain ⟨p0, p1, p2⟩ := net_box hst.1
    clear hst hW1
    go_wp2_with (first
      | (go_at_call 16; refine (HM2.out W1 HBW.out HX12.out.1 HX12.out.2).mono ?_; rintro e w5 ⟨rfl, hb5⟩; have HB5 := Lib.hid (HBW.out.trans (hb5.mono HBW.out.size)); clear hb5)
      | (go_at_call 12; refine (works_any _).mono ?_; rintro e w6 ⟨rfl, hb6⟩))
    go_ret
    exact ⟨rfl, HB5.out.trans (hb6.mono HB5.out.size)⟩
  | true =>
    rw [hk] at HSUP HMX
    have HS : Hid (supN P gs o x = (supL P gs x, 0)) := HSUP.out
    rw [HS.out] at HSU HSB
    have hmx := HMX.out
    rw [HMX.out] at HM2
    have hE1 := dep_ok hmx a
    have hE2 := dep_same hmx a b
    rw [hE1] at hE2
    have HPL := Lib.hid (mayP_short HMP.out).1
    have HLP : Hid (∀ i ∈ supL P gs x, i ∈ flatB P) := fun i hi => ((supL_mem HPV.out).1 hi).2
    have HLA : Hid ((supL P gs x).Pairwise (· < ·)) := fromOne_asc _ _
    have HVA : Hid (∀ X, Below w.heap.size w X → Calls Try.prog 33 #[.slice pa P.length pc] X fun e w' => ∃ u, e = .returned u ∧ Own w' X.heap.size u (flatB P) ∧ Below X.heap.size X w') := fun X hX => vars5_any _ P X (HIN.out X hX).1 (by have := HPL.out; omega)
    have HWA : Hid (∀ X v, Below w.heap.size w X → IsInts X v (flatB P) → Calls Try.prog 34 #[.slice aa a.length ac, v] X (RetOwn X (insideL a (flatB P)))) := fun X v hX hv => within5_any _ _ a _ X (HIN.out X hX).2.2.1 hv HPV.out (by have := HAL.out; omega)
    have HWB : Hid (∀ X v, Below w.heap.size w X → IsInts X v (flatB P) → Calls Try.prog 34 #[.slice ba b.length bc, v] X (RetOwn X (insideL b (flatB P)))) := fun X v hX hv => within5_any _ _ b _ X (HIN.out X hX).2.2.2 hv HPV.out (by have := HBL.out; omega)
    have hva : varIn (insideL a (flatB P)) := overL_in (fun x hx => by cases hx) (within_in HPV.out)
    have hvb : varIn (insideL b (flatB P)) := overL_in (fun x hx => by cases hx) (within_in HPV.out)
    have HVIA := Lib.hid hva
    have HVIB := Lib.hid hvb
    have HLNA : Hid ((insideL a (flatB P)).length ≤ 1100000) := Nat.le_trans (within_len a _) HAL.out
    have HLNB : Hid ((insideL b (flatB P)).length ≤ 1100000) := Nat.le_trans (within_len b _) HBL.out
    have HP64 : Hid (In64 (flatB P)) := fun y hy => by have := HPV.out y hy; omega
    have HEA : Hid (∀ (v : Value) X, Below w.heap.size w X → IsInts X v (insideL a (flatB P)) → Calls Try.prog 20 #[.agg #[.slice pa P.length pc, .slice ga gs.length gc, .int .i64 x], v] X fun e w' => e = .returned (.tuple #[.bool (litV (runA gs (insideL a (flatB P))).1 x), .int .i64 0]) ∧ Below X.heap.size X w') := fun v X hX hv => by
      have h := HEV.out v _ X hX hv (by have := HLNA.out; omega)
      rw [hE1] at h
      exact h
    have HEC : Hid (∀ (v : Value) X, Below w.heap.size w X → IsInts X v (overL (insideL a (flatB P)) (offL (insideL b (flatB P)) (supL P gs x))) → Calls Try.prog 20 #[.agg #[.slice pa P.length pc, .slice ga gs.length gc, .int .i64 x], v] X fun e w' => e = .returned (.tuple #[.bool (litV (runA gs (insideL a (flatB P))).1 x), .int .i64 0]) ∧ Below X.heap.size X w') := fun v X hX hv => by
      have h := HEV.out v _ X hX hv (by
        have h1 := overL_len (insideL a (flatB P)) (offL (insideL b (flatB P)) (supL P gs x))
        have h2 := List.length_filter_le (fun z => !decide (varC z ∈ supL P gs x)) (insideL b (flatB P))
        have h3 := HLNA.out
        have h4 := HLNB.out
        unfold offL at h1 ⊢
        omega)
      rw [← hE2] at h
      exact h
    clear hk HSUP HMX HS HEV hmx hE1 hE2 hva hvb
    generalize supL P gs x = L at *
    generalize litV (runA gs (insideL a (flatB P))).1 x = r at *
    generalize insideL a (flatB P) = A1 at *
    generalize insideL b (flatB P) = B1 at *
    generalize flatB P = V at *
    go_enter Try.func9, Try.ntmps9
    go_upto_region 1 with fail
    rw [HW0.out]
    go_upto_region 5 with (first
      | (go_at_call 11; refine H1.out.mono ?_; rintro e w1 ⟨rfl, hb1⟩; have HB1 := Lib.hid hb1; clear hb1 p0 p1 p2; obtain ⟨p0, p1, p2⟩ := net_box (HHX.out w1 HB1.out))
      | (go_at_call 16; refine (HM1.out w1 (HB0.out.trans (HB1.out.mono HB0.out.size)) HO12.out.1 HO12.out.2).mono ?_; rintro e w3 ⟨rfl, hb3⟩; have HB3 := Lib.hid (HB1.out.trans (hb3.mono HB1.out.size)); clear hb3 p0 p1 p2; obtain ⟨p0, p1, p2⟩ := net_box (HHX.out w3 HB3.out))
      | (go_at_call 13; refine (HSU.out w3 (HB0.out.trans (HB3.out.mono HB0.out.size))).mono ?_; rintro e w4 ⟨v4, rfl, ho4, hb4⟩; have HB4 := Lib.hid (HB3.out.trans (hb4.mono HB3.out.size)); clear hb4 p0 p1 p2; obtain ⟨p0, p1, p2⟩ := net_box (HHX.out w4 HB4.out); have fz := (HSET.out w4 HB4.out).2.2.1; have HO4 := Lib.hid ((HSET.out w4 HB4.out).2.2.2 _ _ _ HB3.out.size ho4); obtain ⟨oa, oc, rfl⟩ := own_shC ho4; clear ho4))
    obtain ⟨W1, hW1⟩ : ∃ W, w4.setCell ⟨w.heap.size, 2, none⟩ (.int .i64 x) = W := ⟨_, rfl⟩
    have hst := HSET.out w4 HB4.out
    rw [hW1] at hst HO4 ⊢
    have HBW := Lib.hid hst.2.1
    have hlt1 : w.heap.size < W1.heap.size := (Array.getElem?_eq_some_iff.1 hst.1).1
    have hh1 := hst.1
    have HHY : Hid (∀ X, Below W1.heap.size W1 X → BoxN X w.heap.size (.slice pa P.length pc) (.slice ga gs.length gc) x ∧ IsInts X (.slice oa L.length oc) L ∧ Below w.heap.size w X) := fun X hX => ⟨net_box ((hX.block _ hlt1).trans hh1), (HO4.out.ints (by have := HSB.out.1; omega) HSB.out.2).below hX (Nat.le_refl _), HBW.out.trans (hX.mono HBW.out.size)⟩
    clear p0 p1 p2 fz hst hh1 hlt1 hW1
    obtain ⟨⟨p0, p1, p2⟩, hli, hbw⟩ := HHY.out W1 (Below.refl _ _)
    clear hli hbw
    go_wp2_with (first
      | (go_at_call 16; refine (HM2.out W1 HBW.out HX12.out.1 HX12.out.2).mono ?_; rintro e w5 ⟨rfl, hb5⟩; have HB5 := Lib.hid hb5; clear hb5 p0 p1 p2; obtain ⟨⟨p0, p1, p2⟩, hli, hbw⟩ := HHY.out w5 HB5.out; clear hli hbw)
      | (go_at_call 33; refine (HVA.out w5 (HHY.out w5 HB5.out).2.2).mono ?_; rintro e w6 ⟨v6, rfl, ho6, hb6⟩; have HB6 := Lib.hid (HB5.out.trans (hb6.mono HB5.out.size)); have HI6 := Lib.hid (ho6.ints (by have := HPL.out; omega) HP64.out); clear hb6 ho6)
      | (go_at_call_of 34 (Value.slice aa a.length ac); refine (HWA.out w6 v6 (HHY.out w6 HB6.out).2.2 HI6.out).mono ?_; rintro e w7 ⟨v7, rfl, ho7, hb7⟩; have HB67 := Lib.hid hb7; have HB7 := Lib.hid (HB6.out.trans (hb7.mono HB6.out.size)); have HI7 := Lib.hid (ho7.ints (by have := HLNA.out; omega) (fun z hz => varC_range (HVIA.out z hz))); clear hb7 ho7)
      | (go_at_call_of 34 (Value.slice ba b.length bc); refine (HWB.out w7 v6 (HHY.out w7 HB7.out).2.2 (HI6.out.below HB67.out (Nat.le_refl _))).mono ?_; rintro e w8 ⟨v8, rfl, ho8, hb8⟩; have HB78 := Lib.hid hb8; have HB8 := Lib.hid (HB7.out.trans (hb8.mono HB7.out.size)); have HI8 := Lib.hid (ho8.ints (by have := HLNB.out; omega) (fun z hz => varC_range (HVIB.out z hz))); clear hb8 ho8 p0 p1 p2; obtain ⟨b8, c8, rfl⟩ := HI8.out.shape))
    have HU8 : Hid (∀ X, Below w8.heap.size w8 X → IsInts X v6 V ∧ IsInts X v7 A1 ∧ IsInts X (.slice b8 B1.length c8) B1 ∧ IsInts X (.slice oa L.length oc) L ∧ Below W1.heap.size W1 X) := fun X hX => ⟨((HI6.out.below HB67.out (Nat.le_refl _)).below HB78.out (Nat.le_refl _)).below hX (Nat.le_refl _), (HI7.out.below HB78.out (Nat.le_refl _)).below hX (Nat.le_refl _), HI8.out.below hX (Nat.le_refl _), (HHY.out w8 HB8.out).2.1.below hX (Nat.le_refl _), HB8.out.trans (hX.mono HB8.out.size)⟩
    clear HI6 HI7 HI8 HB67 HB78 HWA HWB HVA HSU H1 HM1 HM2
    go_loopw [12, 72] (fun out i wr => ∃ k : Nat, k ≤ B1.length ∧ i = .int .i64 k ∧ Own wr w8.heap.size out (offL (B1.take k) L) ∧ Below w8.heap.size w8 wr) (fun _ i _ => B1.length - (intOf i).toNat)
    case atStart => exact ⟨0, Nat.zero_le _, rfl, Own.nil _ _, Below.refl _ _⟩
    case round =>
      obtain ⟨k, hk, rfl, hown, hbel⟩ := hrel
      obtain ⟨hi6, hi7, hi8, hi4, hbw⟩ := HU8.out wr hbel
      have HI8 := Lib.hid hi8
      have HI4 := Lib.hid hi4
      have HI7 := Lib.hid hi7
      have HB := Lib.hid hbel
      have HO := Lib.hid hown
      have hszr := hbel.size
      have HFL : Hid ((offL (B1.take k) L).length ≤ 1100000) := by
        show _ ≤ _
        have h1 := List.length_filter_le (fun z => !decide (varC z ∈ L)) (B1.take k)
        rw [List.length_take] at h1
        have h2 := HLNB.out
        unfold offL
        omega
      obtain ⟨ca, cc, rfl⟩ := own_shC hown
      clear hi6 hi7 hi8 hi4 hbw hbel hown
      by_cases hlt : k < B1.length
      · obtain ⟨q0, off, rfl, hq0, hc⟩ := HI8.out.cellY hlt
        have HTK := Lib.hid (offL_take (L := L) hlt)
        have hyv := HVIB.out (B1.getD k 0) (by simp [List.getD, hlt])
        have hyr := varC_range hyv
        have HAB : Hid (∀ X, Calls Try.prog 38 #[.int .i64 (B1.getD k 0)] X fun e w' => e = .returned (.int .i64 (varC (B1.getD k 0))) ∧ X = w') := fun X => by
          have h9 := abs5_any (B1.getD k 0) X hyr.1 hyr.2
          rw [abs5_var (by omega)] at h9
          exact h9
        have HII := Lib.hid (in5_any _ L (varC (B1.getD k 0)) wr HI4.out (by omega) (by omega))
        have hk0 : (0 : Int) ≤ (k : Int) := by omega
        have hk1 : (k : Int) < (B1.length : Int) := by omega
        have hk2 : (k : Int) < 4000001 := by have := HLNB.out; omega
        have HKL := Lib.hid hlt
        have HMB : Hid (memB L (varC (B1.getD k 0)) = decide (varC (B1.getD k 0) ∈ L)) := rfl
        clear hlt hyv hyr hk
        generalize offL (B1.take k) L = F at *
        generalize varC (B1.getD k 0) = vy at *
        generalize B1.getD k 0 = y at *
        generalize memB L vy = t at *
        cases t with
        | true =>
          have HF2 : Hid (offL (B1.take (k + 1)) L = F) := by show _ = _; rw [HTK.out, if_pos HMB.out.symm, List.append_nil]
          clear HTK HMB
          go_wp2_with (first
            | (go_at_call 38; refine (HAB.out _).mono ?_; rintro e w9 ⟨rfl, rfl⟩)
            | (go_at_call 37; refine HII.out.mono ?_; rintro e w9 ⟨rfl, rfl⟩))
          go_roundw
          case rel => exact ⟨k + 1, HKL.out, by go_num, HO.out.to HF2.out, HB.out⟩
          case measure => have := HKL.out; simp [intOf]; omega
        | false =>
          have HF2 : Hid (offL (B1.take (k + 1)) L = F ++ [y]) := by show _ = _; rw [HTK.out, if_neg (by rw [← HMB.out]; simp)]
          clear HTK HMB
          go_wp2_with (first
            | (go_at_call 38; refine (HAB.out _).mono ?_; rintro e w9 ⟨rfl, rfl⟩)
            | (go_at_call 37; refine HII.out.mono ?_; rintro e w9 ⟨rfl, rfl⟩)
            | (at_builtin; go_loud (refine wpList_app1 rfl (.tmp 81) (.tmp 83) rfl w8.heap.size (.slice ca F.length cc) F y wr.heap.size rfl rfl (HO.out.alloc _) (cell_fresh rfl) (by have := HFL.out; omega) (by simp; omega) ?_; intro v9 w9 ho9 hg9; have HB9 : Hid (Below w8.heap.size w8 w9) := (HB.out.alloc hszr _).grown hg9 (by simp; omega) (fun g hg => (HO.out.lt g hg).1); have HO9 := Lib.hid ho9; clear ho9 hg9)))
          go_roundw
          case rel => exact ⟨k + 1, HKL.out, by go_num, HO9.out.to HF2.out, HB9.out⟩
          case measure => have := HKL.out; simp [intOf]; omega
      · have hF : offL (B1.take k) L = offL B1 L := by rw [List.take_of_length_le (by omega)]
        rw [hF] at HO HFL
        have HCV : Hid (varIn (offL B1 L)) := fun z hz => HVIB.out z (List.mem_filter.1 hz).1
        have HCI : Hid (IsInts wr (.slice ca (offL (B1.take k) L).length cc) (offL B1 L)) := by
          have h := HO.out.ints (by have := HFL.out; omega) (fun z hz => varC_range (HCV.out z hz))
          exact hF ▸ h
        have hbw := (HU8.out wr HB.out).2.2.2.2
        obtain ⟨⟨p0, p1, p2⟩, hli, hbw2⟩ := HHY.out wr hbw
        have HBWR := Lib.hid hbw
        clear hF hli hbw2 hbw HO
        generalize (offL (B1.take k) L).length = cn at *
        go_wp2_with (go_at_call 20; refine (HEA.out v7 wr (HHY.out wr HBWR.out).2.2 HI7.out).mono ?_; rintro e w10 ⟨rfl, hb10⟩; have HB10 := Lib.hid hb10; clear hb10 p0 p1 p2)
        have HB10W : Hid (Below W1.heap.size W1 w10) := HBWR.out.trans (HB10.out.mono HBWR.out.size)
        have HUW : Hid (∀ X, Below w10.heap.size w10 X → Below W1.heap.size W1 X ∧ IsInts X v7 A1 ∧ IsInts X (.slice ca cn cc) (offL B1 L) ∧ IsInts X v6 V ∧ IsInts X (.slice oa L.length oc) L) := fun X hX => by
          have h1 := HB10.out.trans (hX.mono HB10.out.size)
          have h2 := HB.out.trans (h1.mono HB.out.size)
          exact ⟨HBWR.out.trans (h1.mono HBWR.out.size), HI7.out.below h1 (Nat.le_refl _), HCI.out.below h1 (Nat.le_refl _), (HU8.out X h2).1, (HU8.out X h2).2.2.2.1⟩
        have HXC : Hid (∀ X, Below w10.heap.size w10 X → BoxN X w.heap.size (.slice pa P.length pc) (.slice ga gs.length gc) x) := fun X hX => (HHY.out X (HUW.out X hX).1).1
        refine wp_region_held_drew (S := fun X => Below w10.heap.size w10 X) (by kernel_rfl) (Below.refl _ _).drew (fun hSd => ?_)
        have hbd : Below w10.heap.size w10 w10.drew := (Below.refl _ _).drew
        generalize w10.drew = x0 at *
        refine takeC (i := 0) (v := .agg #[.slice pa P.length pc, .slice ga gs.length gc, .int .i64 x]) (some 93) rfl rfl (by kernel_rfl) (by kernel_rfl) (by kernel_rfl) (fun _ _ _ h => h) (Or.inl ⟨by rfl, ?_⟩) (by assumption) ?_
        · intro wz hSw; obtain ⟨t0x, t1x, t2x⟩ := HXC.out wz hSw; go_simp
        try simp only [Act.put, List.setIfInBounds_toArray, List.set_cons_zero, List.set_cons_succ]
        refine takeC (i := 1) (v := v7) (some 94) rfl rfl (by kernel_rfl) (by kernel_rfl) (by kernel_rfl) (fun _ _ _ h => h) (Or.inl ⟨by rfl, ?_⟩) (by assumption) ?_
        · intro wz hSw; go_simp
        try simp only [Act.put, List.setIfInBounds_toArray, List.set_cons_zero, List.set_cons_succ]
        refine takeC (i := 2) (v := .slice ca cn cc) (some 95) rfl rfl (by kernel_rfl) (by kernel_rfl) (by kernel_rfl) (fun _ _ _ h => h) (Or.inl ⟨by rfl, ?_⟩) (by assumption) ?_
        · intro wz hSw; go_simp
        try simp only [Act.put, List.setIfInBounds_toArray, List.set_cons_zero, List.set_cons_succ]
        refine wpAnyH_ready (rs := [3]) (by kernel_rfl) (by simp) ?_
        refine AllReadyH.cons rfl (fun K hK => ?_) AllReadyH.nil
        go_simp
        go_wp2_with (go_at_call 35; refine (over5_any v7 (.slice ca cn cc) A1 (offL B1 L) x0 (HUW.out x0 hbd).2.1 (HUW.out x0 hbd).2.2.1 HVIA.out HCV.out (by have := HLNA.out; omega) (by have := HFL.out; omega)).mono ?_; rintro e x1 ⟨v11, rfl, ho11, hb11⟩)
        have hb1 : Below w10.heap.size w10 x1 := hbd.trans (hb11.mono hbd.size)
        have HI11 : Hid (IsInts x1 v11 (overL A1 (offL B1 L))) := ho11.ints (by have h1 := overL_len A1 (offL B1 L); have := HFL.out; have := HLNA.out; omega) (fun z hz => varC_range (overL_in HVIA.out HCV.out z hz))
        refine hK.out _ _ hb1 (fun hS1 => ?_)
        clear hK K
        try simp only [Act.put, List.setIfInBounds_toArray, List.set_cons_zero, List.set_cons_succ]
        refine wpAnyH_ready (rs := [4]) (by kernel_rfl) (by simp) ?_
        refine AllReadyH.cons rfl (fun K hK => ?_) AllReadyH.nil
        go_simp
        go_wp2_with (go_at_call 20; refine (HEC.out v11 x1 (HHY.out x1 (HUW.out x1 hb1).1).2.2 HI11.out).mono ?_; rintro e x2 ⟨rfl, hb12⟩)
        have hb2 : Below w10.heap.size w10 x2 := hb1.trans (hb12.mono hb1.size)
        refine hK.out _ _ hb2 (fun hS2 => ?_)
        clear hK K
        try simp only [Act.put, List.setIfInBounds_toArray, List.set_cons_zero, List.set_cons_succ]
        refine takeC (i := 5) (v := .tuple #[.bool r, .int .i64 0]) (some 92) rfl rfl (by kernel_rfl) (by kernel_rfl) (by kernel_rfl) (fun _ _ _ h => h) (Or.inl ⟨by rfl, ?_⟩) (by assumption) ?_
        · intro wz hSw; go_simp
        try simp only [Act.put, List.setIfInBounds_toArray, List.set_cons_zero, List.set_cons_succ]
        refine takeC (i := 6) (v := .bool r) (some 98) rfl rfl (by kernel_rfl) (by kernel_rfl) (by kernel_rfl) (fun _ _ _ h => h) (Or.inl ⟨by rfl, ?_⟩) (by assumption) ?_
        · intro wz hSw; go_simp
        try simp only [Act.put, List.setIfInBounds_toArray, List.set_cons_zero, List.set_cons_succ]
        refine takeC (i := 7) (v := .int .i64 0) (some 99) rfl rfl (by kernel_rfl) (by kernel_rfl) (by kernel_rfl) (fun _ _ _ h => h) (Or.inl ⟨by rfl, ?_⟩) (by assumption) ?_
        · intro wz hSw; go_simp
        try simp only [Act.put, List.setIfInBounds_toArray, List.set_cons_zero, List.set_cons_succ]
        refine takeC (i := 8) (v := .bool r) (some 17) rfl rfl (by kernel_rfl) (by kernel_rfl) (by kernel_rfl) (fun _ _ _ h => h) (Or.inl ⟨by rfl, ?_⟩) (by assumption) ?_
        · intro wz hSw; go_simp
        try simp only [Act.put, List.setIfInBounds_toArray, List.set_cons_zero, List.set_cons_succ]
        refine takeC (i := 9) (v := .int .i64 0) (some 18) rfl rfl (by kernel_rfl) (by kernel_rfl) (by kernel_rfl) (fun _ _ _ h => h) (Or.inl ⟨by rfl, ?_⟩) (by assumption) ?_
        · intro wz hSw; go_simp
        try simp only [Act.put, List.setIfInBounds_toArray, List.set_cons_zero, List.set_cons_succ]
        refine wpAnyH_done (by kernel_rfl) ?_ _
        have HB2 := Lib.hid hb2
        have HIV := Lib.hid (HUW.out x2 hb2).2.2.2.1
        have HIL := Lib.hid (HUW.out x2 hb2).2.2.2.2
        have HFIN : Hid (Below w.heap.size w x2) := (HHY.out x2 (HUW.out x2 hb2).1).2.2
        clear hb2 hb1 hbd hb11 hb12 ho11 hS1 hS2 hSd HHY HU8 HI11 HUW HXC HEA HEC HCI HBWR HB10W HB10 HI7 HI8 HI4
        have HLLN := Lib.hid HSB.out.1
        go_wp2
        go_loop [102] (fun i => ∃ j : Nat, j ≤ L.length ∧ i = .int .i64 j) (fun i => L.length - (intOf i).toNat)
        case atStart => exact ⟨0, Nat.zero_le _, rfl⟩
        case round =>
          obtain ⟨j, hj, rfl⟩ := hrel
          by_cases hjl : j < L.length
          · obtain ⟨q1, off1, rfl, hq1, hcj⟩ := HIL.out.cellY hjl
            have hmem : L.getD j 0 ∈ L := by simp [List.getD, hjl]
            have h64j := HSB.out.2 _ hmem
            have HINV := in5_any _ V (L.getD j 0) x2 HIV.out h64j.1 h64j.2
            have hmb : memB V (L.getD j 0) = true := by unfold memB; simpa using HLP.out _ hmem
            rw [hmb] at HINV
            have HIH := Lib.hid HINV
            have hj0 : (0 : Int) ≤ (j : Int) := by omega
            have hj1 : (j : Int) < (L.length : Int) := by omega
            have hj2 : (j : Int) < 4000001 := by have := HLLN.out; omega
            have HJL := Lib.hid hjl
            clear HINV hmb hmem h64j
            cases j with
            | zero =>
              rw [Nat.add_zero] at hcj
              clear hjl hj
              generalize L.getD 0 0 = y at *
              go_wp2_with (go_at_call 37; refine HIH.out.mono ?_; rintro e w13 ⟨rfl, rfl⟩)
              go_round
              case rel => exact ⟨0 + 1, HJL.out, by go_num⟩
              case measure => have := HJL.out; simp [intOf]; omega
            | succ j' =>
              obtain ⟨q2, off2, e2, _, hcp⟩ := HIL.out.cellY (k := j') (by omega)
              injection e2 with e2
              injection e2 with e21 e22
              subst e21; subst e22
              have hlt2 : L.getD j' 0 < L.getD (j' + 1) 0 := by
                have h1 := List.pairwise_iff_getElem.1 HLA.out j' (j' + 1) (by omega) hjl (by omega)
                simpa [List.getD, hjl, show j' < L.length by omega] using h1
              have hgeb : decide (L.getD (j' + 1) 0 ≤ L.getD j' 0) = false := by rw [decide_eq_false_iff_not]; omega
              have hp0 : (0 : Int) ≤ (j' : Int) := by omega
              have hp1 : (j' : Int) < (L.length : Int) := by omega
              have hp2 : (0 : Int) < (j' : Int) + 1 := by omega
              have hp3 : (0 : Int) ≤ (j' : Int) + 1 := by omega
              have hp4 : (j' : Int) + 1 < (L.length : Int) := by omega
              have hp5 : (j' : Int) < 4000001 := by omega
              clear hjl hj hlt2 hj0 hj1 hj2 hx1 hx2
              generalize L.getD (j' + 1) 0 = y at *
              generalize L.getD j' 0 = y2 at *
              go_wp2_with (go_at_call 37; refine HIH.out.mono ?_; rintro e w13 ⟨rfl, rfl⟩)
              go_round
              case rel => exact ⟨j' + 1 + 1, HJL.out, by go_num⟩
              case measure => have := HJL.out; simp [intOf]; omega
          · go_wp2_with (go_at_call 12; refine (works_any _).mono ?_; rintro e w14 ⟨rfl, hb14⟩)
            go_ret
            exact ⟨rfl, HFIN.out.trans (hb14.mono HFIN.out.size)⟩
end Go.Proofs.Ytldgdfchemjcmaa
