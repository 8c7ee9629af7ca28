/- Joined texts: AgRLeaf, AgRMay, AgRHas, AgRReach, AgRSup. -/
import Derived.Test.YtppglbffmgnooaaGreatA11
/- skolemref06: Nodes, Not, has, Inputs. -/
namespace Go.Proofs.YtppglbffmgnooaaGreat
open Go.RowKit Go.Maps
set_option linter.unusedVariables false
set_option linter.unusedSimpArgs false

theorem rnodes_any (vi va : Value) (I : List Int) (A : List Pr) (w : World) (HI : IsInts w vi I) (HA : IsPairs w va A) (h1 : I.length ≤ 4000000) (h2 : A.length ≤ 4000000) :
    Calls Tryz.prog 48 #[.agg #[vi, va]] w fun r w' => r = .returned (.int .i64 ((1 + I.length + A.length : Nat) : Int)) ∧ Below w.heap.size w w' := by
  obtain ⟨ia, ic, rfl⟩ := HI.shape
  obtain ⟨aa, ac, rfl, _⟩ := HA.shape
  have hb := (Below.refl w.heap.size w).alloc (Nat.le_refl _) (.cells #[.slice ia I.length ic, .slice aa A.length ac] 25)
  have HB := Lib.hid hb
  clear HI HA hb
  go_enter Tryz.func48, Tryz.ntmps48
  go_wp2
  go_ret
  exact ⟨ret_int (by omega), HB.out⟩
theorem rnot_any (e : Int) (w : World) (h1 : 0 ≤ e) (h2 : e ≤ 4000000) :
    Calls Tryz.prog 71 #[.int .i64 e] w fun r w' => r = .returned (.int .i64 (notE e)) ∧ w = w' := by
  have hm0 : 0 ≤ e % 2 := by omega
  have hm1 : e % 2 ≤ 1 := by omega
  have HE : Hid (notE e = e + 1 - 2 * (e % 2)) := by show _ = _; unfold notE; split <;> omega
  go_enter Tryz.func71, Tryz.ntmps71
  go_wp2
  go_ret
  exact ⟨ret_int HE.out.symm, rfl⟩
def okIn (I : List Int) (i : Nat) : Prop := 1 ≤ I.getD i 0 ∧ I.getD i 0 ≤ 65536 ∧ (0 < i → I.getD (i - 1) 0 < I.getD i 0)
theorem okIn_all {I : List Int} (h : ∀ i, i < I.length → okIn I i) : insB I = true := by
  have hlt : ∀ j i, i < j → j < I.length → I.getD i 0 < I.getD j 0 := by
    intro j
    induction j with
    | zero => intro i hi; omega
    | succ j ih =>
      intro i hi hj
      have h1 := (h (j + 1) hj).2.2 (by omega)
      rw [Nat.add_sub_cancel] at h1
      by_cases e : i = j
      · subst e; exact h1
      · have := ih i (by omega) (by omega)
        omega
  refine insB_of (fun x hx => ?_) (List.pairwise_iff_getElem.2 (fun i j hi hj hij => ?_))
  · obtain ⟨i, hi, rfl⟩ := List.mem_iff_getElem.1 hx
    have := h i hi
    unfold okIn at this
    rw [show I.getD i 0 = I[i] from by simp [List.getD, hi]] at this
    omega
  · have := hlt j i hij hj
    rwa [show I.getD i 0 = I[i] from by simp [List.getD, hi], show I.getD j 0 = I[j] from by simp [List.getD, hj]] at this
theorem okIn_of {I : List Int} (h : insB I = true) {i : Nat} (hi : i < I.length) : okIn I i := by
  obtain ⟨h1, h2⟩ := insB_lt h
  have hm := h1 (I.getD i 0) (by simp [List.getD, hi])
  refine ⟨by omega, hm.2, fun h0 => ?_⟩
  have := List.pairwise_iff_getElem.1 h2 (i - 1) i (by omega) hi (by omega)
  rwa [show I.getD i 0 = I[i] from by simp [List.getD, hi], show I.getD (i - 1) 0 = I[i - 1] from by simp [List.getD, show i - 1 < I.length by omega]]
theorem okIn_bad {I : List Int} {i : Nat} (hi : i < I.length) (h : ¬ okIn I i) : insB I = false := by
  cases e : insB I with
  | false => rfl
  | true => exact absurd (okIn_of e hi) h
set_option maxRecDepth 100000 in
set_option maxHeartbeats 1600000 in
theorem rinputs_any (v : Value) (I : List Int) (w : World) (H : IsInts w v I) (hl : I.length ≤ 4000000) :
    Calls Tryz.prog 69 #[v] w fun e w' => e = .returned (.bool (insB I)) ∧ Quiet w w' := by
  obtain ⟨a, cap, rfl⟩ := H.shape
  have HH := Lib.hid H
  clear H
  go_enter Tryz.func69, Tryz.ntmps69
  go_wp2
  go_loopw [3] (fun s3 wr => ∃ k : Nat, k ≤ I.length ∧ s3 = .int .i64 k ∧ Quiet w wr ∧ Hid (∀ j, j < k → okIn I j)) (fun s3 _ => I.length - (intOf s3).toNat)
  case atStart => exact ⟨0, Nat.zero_le _, rfl, Quiet.refl _, fun j hj => absurd hj (Nat.not_lt_zero _)⟩
  case round =>
    obtain ⟨k, hk, rfl, hq, HN⟩ := hrel
    by_cases hlt : k < I.length
    · obtain ⟨b, off, rfl, hbl, hc0⟩ := HH.out.cellY hlt
      have hc := (hq.cell _).trans hc0
      obtain ⟨x, hyx⟩ : ∃ x, I.getD k 0 = x := ⟨_, rfl⟩
      rw [hyx] at hc
      have h64 := HH.out.in64 _ (ints_getD_mem hlt)
      rw [hyx] at h64
      have hkb : k < 4000000 := by omega
      have hkz0 : (0 : Int) ≤ (k : Int) := by omega
      have hkz1 : (k : Int) < (I.length : Int) := by omega
      clear hc0
      by_cases c1 : x < 1
      · have d1 : decide (x < 1) = true := decide_eq_true c1
        have HF : Hid (insB I = false) := okIn_bad hlt (by unfold okIn; rw [hyx]; intro h; omega)
        clear hlt
        go_wp2_with fail
        go_quiet (fail)
        go_wp2
        go_ret
        exact ⟨ret_bool HF.out.symm, hq.drewN nq⟩
      · have d1 : decide (x < 1) = false := decide_eq_false c1
        by_cases c2 : 65536 < x
        · have d2 : decide (65536 < x) = true := decide_eq_true c2
          have HF : Hid (insB I = false) := okIn_bad hlt (by unfold okIn; rw [hyx]; intro h; omega)
          clear hlt
          go_wp2_with fail
          go_quiet (fail)
          go_wp2
          go_ret
          exact ⟨ret_bool HF.out.symm, hq.drewN nq⟩
        · have d2 : decide (65536 < x) = false := decide_eq_false c2
          by_cases c3 : k = 0
          · subst c3
            simp only [Nat.add_zero] at hc
            have HX : Hid (∀ j, j < 0 + 1 → okIn I j) := fun j hj => by
              obtain rfl : j = 0 := by omega
              exact ⟨by omega, by omega, fun h => absurd h (Nat.lt_irrefl _)⟩
            have HKL := Lib.hid hlt
            clear hyx HN
            go_wp2_with fail
            go_quiet (fail)
            generalize hwq : wr.drewN nq = wq at *
            have HQ : Hid (Quiet w wq) := by rw [← hwq]; exact hq.drewN nq
            clear hwq
            go_wp2_with fail
            go_roundw
            case rel => exact ⟨0 + 1, HKL.out, by go_num, HQ.out, HX.out⟩
            case measure => have := HKL.out; simp [intOf]; omega
          · have d3 : decide (0 < k) = true := decide_eq_true (by omega)
            have d3' : 0 < k := by omega
            obtain ⟨p, hp⟩ : ∃ p, k = p + 1 := ⟨k - 1, by omega⟩
            have hkp : (k : Int) - 1 = (p : Int) := by omega
            have hpI : p < I.length := by omega
            obtain ⟨b', off', e', _, hp0⟩ := HH.out.cellY hpI
            cases e'
            have hcp := (hq.cell _).trans hp0
            obtain ⟨y, hyy⟩ : ∃ y, I.getD p 0 = y := ⟨_, rfl⟩
            rw [hyy] at hcp
            have hpz0 : (0 : Int) ≤ (p : Int) := by omega
            have hpz1 : (p : Int) < (I.length : Int) := by omega
            have hkm : k - 1 = p := by omega
            clear hp0 c3
            by_cases c4 : x ≤ y
            · have d4 : decide (x ≤ y) = true := decide_eq_true c4
              have HF : Hid (insB I = false) := okIn_bad hlt (by unfold okIn; rw [hyx]; intro h; rw [hkm, hyy] at h; omega)
              clear hlt
              clear hkm hp hpI hyy hyx
              go_wp2_with fail
              go_quiet (fail)
              go_wp2
              go_ret
              exact ⟨ret_bool HF.out.symm, hq.drewN nq⟩
            · have d4 : decide (x ≤ y) = false := decide_eq_false c4
              have HX : Hid (∀ j, j < k + 1 → okIn I j) := fun j hj => by
                by_cases e : j = k
                · subst e
                  refine ⟨by omega, by omega, fun _ => ?_⟩
                  rw [hkm, hyy, hyx]; omega
                · exact HN.out j (by omega)
              have HKL := Lib.hid hlt
              clear hyx hyy hkm hp hpI HN hlt
              go_wp2_with fail
              go_quiet (fail)
              generalize hwq : wr.drewN nq = wq at *
              have HQ : Hid (Quiet w wq) := by rw [← hwq]; exact hq.drewN nq
              clear hwq
              go_wp2_with fail
              go_roundw
              case rel => exact ⟨k + 1, HKL.out, by go_num, HQ.out, HX.out⟩
              case measure => have := HKL.out; simp [intOf]; omega
    · obtain rfl : k = I.length := by omega
      have HF : Hid (insB I = true) := okIn_all HN.out
      go_wp2
      go_ret
      exact ⟨ret_bool HF.out.symm, hq⟩
set_option maxRecDepth 100000 in
theorem rhas6_any (vi va : Value) (I : List Int) (A : List Pr) (e : Int) (w : World) (HI : IsInts w vi I) (HA : IsPairs w va A) (h1 : I.length ≤ 4000000) (h2 : A.length ≤ 4000000) :
    Calls Tryz.prog 73 #[.agg #[vi, va], .int .i64 e] w fun r w' => r = .returned (.bool (isE e (1 + I.length + A.length))) ∧ Below w.heap.size w w' := by
  have hb0 := below_alloc1 w (.cells #[vi, va] 25)
  have HB0 := Lib.hid hb0
  have HN := Lib.hid (rnodes_any vi va I A (w.alloc (.cells #[vi, va] 25)) (HI.below hb0 (Nat.le_refl _)) (HA.below hb0 (Nat.le_refl _)) h1 h2)
  have HE := Lib.hid (isE_two (e := e) (n := 1 + I.length + A.length))
  obtain ⟨p0, p1⟩ := boxA_new w vi va
  obtain ⟨ia, ic, rfl⟩ := HI.shape
  obtain ⟨aa, ac, rfl, _⟩ := HA.shape
  clear HI HA hb0
  obtain ⟨nn, hnn⟩ : ∃ nn, 1 + I.length + A.length = nn := ⟨_, rfl⟩
  have hnb : nn ≤ 8000001 := by omega
  rw [hnn] at HN HE
  have HNN := Lib.hid hnn
  clear hnn
  go_enter Tryz.func73, Tryz.ntmps73
  go_upto_region 1 with fail
  generalize World.alloc w _ = W at *
  by_cases hx : 0 ≤ e
  · have hd : decide (0 ≤ e) = true := decide_eq_true hx
    rw [hd, Bool.true_and] at HE
    go_wp2_with (go_at_call 48; go_loud (refine HN.out.mono ?_; rintro r w1 ⟨rfl, hb⟩; have HB1 := Lib.hid hb; clear hb))
    go_ret
    exact ⟨ret_bool (by rw [HNN.out]; exact HE.out.symm), HB0.out.trans (HB1.out.mono HB0.out.size)⟩
  · have hd : decide (0 ≤ e) = false := decide_eq_false hx
    rw [hd, Bool.false_and] at HE
    go_wp2
    go_ret
    exact ⟨ret_bool (by rw [HNN.out]; exact HE.out.symm), HB0.out⟩
end Go.Proofs.YtppglbffmgnooaaGreat

/- skolemref06.May. -/
namespace Go.Proofs.YtppglbffmgnooaaGreat
open Go.RowKit Go.Maps
set_option linter.unusedVariables false
set_option linter.unusedSimpArgs false

def comp (p : Pr) (j : Nat) : Int := if j = 0 then p.1 else p.2
theorem okPair_comp {k : Nat} {A : List Pr} {i : Nat} : okPair k A i = true ↔ ∀ j, j < 2 → 0 ≤ comp (A.getD i dPr) j ∧ comp (A.getD i dPr) j < 2 * ((k + i : Nat) : Int) := by
  unfold okPair
  rw [Bool.and_eq_true, isE_two, isE_two]
  simp only [Bool.and_eq_true, decide_eq_true_eq]
  constructor
  · rintro ⟨h1, h2⟩ j hj
    unfold comp
    split <;> assumption
  · intro h
    exact ⟨h 0 (by omega), h 1 (by omega)⟩
set_option maxRecDepth 100000 in
set_option maxHeartbeats 3200000 in
theorem rmay6_any (vi va : Value) (I : List Int) (A : List Pr) (w : World) (HI : IsInts w vi I) (HA : IsPairs w va A) (h1 : I.length ≤ 4000000) (h2 : A.length ≤ 4000000) :
    Calls Tryz.prog 19 #[.agg #[vi, va]] w fun r w' => r = .returned (.bool (mayA I A)) ∧ Below w.heap.size w w' := by
  have hb0 := below_alloc1 w (.cells #[vi, va] 25)
  have hsz : (w.alloc (.cells #[vi, va] 25)).heap.size = w.heap.size + 1 := by simp
  have hbx := boxA_new w vi va
  have HI1 := Lib.hid (HI.below hb0 (Nat.le_refl _))
  have HA1 := Lib.hid (HA.below hb0 (Nat.le_refl _))
  have HP := Lib.hid HA.inP
  obtain ⟨ia, ic, rfl⟩ := HI.shape
  obtain ⟨aa, ac, rfl, _⟩ := HA.shape
  clear HI HA
  go_enter Tryz.func19, Tryz.ntmps19
  go_upto_region 1 with fail
  generalize World.alloc w _ = W at *
  have HB0 := Lib.hid hb0
  have HBX := Lib.hid hbx
  have HSZ := Lib.hid hsz
  obtain ⟨p0, p1⟩ := hbx
  clear hb0 hsz
  have HIN := Lib.hid (rinputs_any _ I W HI1.out h1)
  have HND : Hid (∀ X, Quiet W X → Calls Tryz.prog 48 #[.agg #[.slice ia I.length ic, .slice aa A.length ac]] X fun r w' => r = .returned (.int .i64 ((1 + I.length + A.length : Nat) : Int)) ∧ Below X.heap.size X w') := fun X hX => rnodes_any _ _ I A X (HI1.out.below (hX.below W.heap.size) (Nat.le_refl _)) (HA1.out.below (hX.below W.heap.size) (Nat.le_refl _)) h1 h2
  have HBQ : Hid (∀ X, Quiet W X → X.cell? ⟨w.heap.size, 0, none⟩ = some (.slice ia I.length ic) ∧ X.cell? ⟨w.heap.size, 1, none⟩ = some (.slice aa A.length ac)) := fun X hX => HBX.out.below (hX.below W.heap.size) (by rw [HSZ.out]; omega)
  by_cases ci : insB I = true
  · rw [ci] at HIN
    by_cases cn : 1 + I.length + A.length ≤ 200000
    · have HM : Hid (mayA I A = okUpto (1 + I.length) A A.length) := by show _ = _; unfold mayA; rw [ci, decide_eq_true cn]; rfl
      have hgt : decide ((200000 : Int) < ((1 + I.length + A.length : Nat) : Int)) = false := decide_eq_false (by omega)
      obtain ⟨nn, hnn⟩ : ∃ nn : Int, ((1 + I.length + A.length : Nat) : Int) = nn := ⟨_, rfl⟩
      rw [hnn] at HND hgt
      have hnb : nn ≤ 8000001 := by omega
      have hil : I.length ≤ 200000 := by omega
      have hal : A.length ≤ 200000 := by omega
      clear ci cn hnn
      go_upto_region 3 with (first
        | (go_at_call 48; go_loud (refine (HND.out w1 HQ1.out).mono ?_; rintro r w2 ⟨rfl, hb⟩; have HB2 := Lib.hid ((HQ1.out.below W.heap.size).trans (hb.mono (HQ1.out.below W.heap.size).size)); clear hb))
        | (go_at_call 69; go_loud (refine HIN.out.mono ?_; rintro r w1 ⟨rfl, hq⟩; have HQ1 := Lib.hid hq; obtain ⟨r0, r1⟩ := HBQ.out w1 hq; clear hq)))
      obtain ⟨q0, q1⟩ := HBX.out.below HB2.out (by rw [HSZ.out]; omega)
      clear r0 r1 p0 p1 HND HIN HBQ hgt
      go_wp2
      go_loopw [3] (fun s3 wr => ∃ k : Nat, k ≤ A.length ∧ s3 = .int .i64 k ∧ Below W.heap.size W wr ∧ okUpto (1 + I.length) A k = true) (fun s3 _ => A.length - (intOf s3).toNat)
      case atStart => exact ⟨0, Nat.zero_le _, rfl, HB2.out, rfl⟩
      case round =>
        obtain ⟨k, hk, rfl, hbk, hok⟩ := hrel
        clear q0 q1
        have HBK := Lib.hid hbk
        obtain ⟨q0, q1⟩ := HBX.out.below hbk (by rw [HSZ.out]; omega)
        clear hbk HB2
        have HOK := Lib.hid hok
        clear hok
        by_cases hlt : k < A.length
        · obtain ⟨b, off, rfl, hbl, hx0, hy0⟩ := HA1.out.at hlt
          have HXY : Hid (∀ X, Below W.heap.size W X → X.cell? ⟨b, off + k * 2, none⟩ = some (.int .i64 (A.getD k dPr).1) ∧ X.cell? ⟨b, off + k * 2 + 1, none⟩ = some (.int .i64 (A.getD k dPr).2)) := fun X hX => ⟨(hX.cell (p := ⟨b, off + k * 2, none⟩) hbl).trans hx0, (hX.cell (p := ⟨b, off + k * 2 + 1, none⟩) hbl).trans hy0⟩
          have hin := HP.out _ (show A.getD k dPr ∈ A by simp [List.getD, hlt])
          have HOC := Lib.hid (@okPair_comp (1 + I.length) A k)
          have HUS := Lib.hid (okUpto_succ (1 + I.length) A k)
          have HBD : Hid (okPair (1 + I.length) A k = false → okUpto (1 + I.length) A A.length = false) := fun h => okUpto_bad hlt h
          have HKL := Lib.hid hlt
          have hkb : k < 4000000 := by omega
          have hkz : (k : Int) < (A.length : Int) := by omega
          clear hx0 hy0 hlt
          generalize A.getD k dPr = o at *
          generalize okPair (1 + I.length) A k = t at *
          obtain ⟨x, y⟩ := o
          simp only at HXY hin
          obtain ⟨⟨x0, x1⟩, y0, y1⟩ := hin
          obtain ⟨mo, hmo⟩ : ∃ mo : Int, 2 * (1 + (I.length : Int) + (k : Int)) = mo := ⟨_, rfl⟩
          have HMO : Hid (2 * ((1 + I.length + k : Nat) : Int) = mo) := by show _ = _; omega
          rw [HMO.out] at HOC
          go_upto_region 8 with fail
          try rw [hmo]
          clear hmo
          go_loopw [5] (fun s5 wz => ∃ j : Nat, j ≤ 2 ∧ s5 = .int .i64 j ∧ Below W.heap.size W wz ∧ Hid (∀ i, i < j → 0 ≤ comp (x, y) i ∧ comp (x, y) i < mo)) (fun s5 _ => 2 - (intOf s5).toNat)
          case atStart => exact ⟨0, by omega, rfl, HBK.out, fun i hi => absurd hi (Nat.not_lt_zero _)⟩
          case round =>
            obtain ⟨j, hj, rfl, hbz, HCJ⟩ := hrel
            have HBZ := Lib.hid hbz
            clear q0 q1
            obtain ⟨q0, q1⟩ := HBX.out.below hbz (by rw [HSZ.out]; omega)
            obtain ⟨hx, hy⟩ := HXY.out _ hbz
            clear hbz
            match j, hj with
            | 0, _ =>
              have HT : Hid (t = true → 0 ≤ x ∧ x < mo) := fun e => HOC.out.1 e 0 (by omega)
              by_cases c1 : x < 0
              · have HF : Hid (okUpto (1 + I.length) A A.length = false) := HBD.out (by
                  cases e : t with
                  | false => rfl
                  | true => have := HT.out e; omega)
                have d1 : decide (x < 0) = true := decide_eq_true c1
                clear HT HOC HUS HBD
                go_wp2
                go_ret
                exact ⟨ret_bool (by rw [HM.out, HF.out]), HB0.out.trans (HBZ.out.mono HB0.out.size)⟩
              · have d1 : decide (x < 0) = false := decide_eq_false c1
                by_cases c2 : mo ≤ x
                · have HF : Hid (okUpto (1 + I.length) A A.length = false) := HBD.out (by
                    cases e : t with
                    | false => rfl
                    | true => have := HT.out e; omega)
                  have d2 : decide (mo ≤ x) = true := decide_eq_true c2
                  clear HT HOC HUS HBD
                  go_wp2
                  go_ret
                  exact ⟨ret_bool (by rw [HM.out, HF.out]), HB0.out.trans (HBZ.out.mono HB0.out.size)⟩
                · have d2 : decide (mo ≤ x) = false := decide_eq_false c2
                  have HC : Hid (0 ≤ x ∧ x < mo) := ⟨by omega, by omega⟩
                  have HN : Hid (∀ i, i < 1 → 0 ≤ comp (x, y) i ∧ comp (x, y) i < mo) := fun i hi => by
                    by_cases e : i = 0
                    · subst e; exact HC.out
                    · exact HCJ.out i (by omega)
                  clear HT
                  go_wp2
                  go_roundw
                  case rel => exact ⟨1, by omega, by go_num, HBZ.out, HN.out⟩
                  case measure => simp [intOf]
            | 1, _ =>
              have HT : Hid (t = true → 0 ≤ y ∧ y < mo) := fun e => HOC.out.1 e 1 (by omega)
              by_cases c1 : y < 0
              · have HF : Hid (okUpto (1 + I.length) A A.length = false) := HBD.out (by
                  cases e : t with
                  | false => rfl
                  | true => have := HT.out e; omega)
                have d1 : decide (y < 0) = true := decide_eq_true c1
                clear HT HOC HUS HBD
                go_wp2
                go_ret
                exact ⟨ret_bool (by rw [HM.out, HF.out]), HB0.out.trans (HBZ.out.mono HB0.out.size)⟩
              · have d1 : decide (y < 0) = false := decide_eq_false c1
                by_cases c2 : mo ≤ y
                · have HF : Hid (okUpto (1 + I.length) A A.length = false) := HBD.out (by
                    cases e : t with
                    | false => rfl
                    | true => have := HT.out e; omega)
                  have d2 : decide (mo ≤ y) = true := decide_eq_true c2
                  clear HT HOC HUS HBD
                  go_wp2
                  go_ret
                  exact ⟨ret_bool (by rw [HM.out, HF.out]), HB0.out.trans (HBZ.out.mono HB0.out.size)⟩
                · have d2 : decide (mo ≤ y) = false := decide_eq_false c2
                  have HC : Hid (0 ≤ y ∧ y < mo) := ⟨by omega, by omega⟩
                  have HN : Hid (∀ i, i < 2 → 0 ≤ comp (x, y) i ∧ comp (x, y) i < mo) := fun i hi => by
                    by_cases e : i = 1
                    · subst e; exact HC.out
                    · exact HCJ.out i (by omega)
                  clear HT
                  go_wp2
                  go_roundw
                  case rel => exact ⟨2, by omega, by go_num, HBZ.out, HN.out⟩
                  case measure => simp [intOf]
            | 2, _ =>
              have HT : Hid (t = true) := HOC.out.2 HCJ.out
              rw [HT.out, Bool.and_true] at HUS
              go_wp2
              go_roundw
              case rel => exact ⟨k + 1, HKL.out, by go_num, HBZ.out, by rw [HUS.out]; exact HOK.out⟩
              case measure => have := HKL.out; simp [intOf]; omega
        · obtain rfl : k = A.length := by omega
          go_wp2
          go_ret
          exact ⟨ret_bool (by rw [HM.out, HOK.out]), HB0.out.trans (HBK.out.mono HB0.out.size)⟩
    · have HM : Hid (mayA I A = false) := by show _ = _; unfold mayA; rw [decide_eq_false cn]; rfl
      have hgt : decide ((200000 : Int) < ((1 + I.length + A.length : Nat) : Int)) = true := decide_eq_true (by omega)
      obtain ⟨nn, hnn⟩ : ∃ nn : Int, ((1 + I.length + A.length : Nat) : Int) = nn := ⟨_, rfl⟩
      rw [hnn] at HND hgt
      clear ci cn hnn
      go_wp2_with (first
        | (go_at_call 48; go_loud (refine (HND.out w1 HQ1.out).mono ?_; rintro r w2 ⟨rfl, hb⟩; have HB2 := Lib.hid ((HQ1.out.below W.heap.size).trans (hb.mono (HQ1.out.below W.heap.size).size)); clear hb))
        | (go_at_call 69; go_loud (refine HIN.out.mono ?_; rintro r w1 ⟨rfl, hq⟩; have HQ1 := Lib.hid hq; obtain ⟨r0, r1⟩ := HBQ.out w1 hq; clear hq)))
      go_ret
      exact ⟨ret_bool HM.out.symm, HB0.out.trans (HB2.out.mono HB0.out.size)⟩
  · have ci : insB I = false := by simpa using ci
    have HM : Hid (mayA I A = false) := by show _ = _; unfold mayA; rw [ci]; simp
    rw [ci] at HIN
    clear ci
    go_wp2_with (go_at_call 69; go_loud (refine HIN.out.mono ?_; rintro r w1 ⟨rfl, hq⟩; have HQ1 := Lib.hid hq; clear hq))
    go_ret
    exact ⟨ret_bool HM.out.symm, HB0.out.trans ((HQ1.out.below W.heap.size).mono HB0.out.size)⟩
end Go.Proofs.YtppglbffmgnooaaGreat

/- skolemref06.HasAll. Written by gen-hasall.py. -/
namespace Go.Proofs.YtppglbffmgnooaaGreat
open Go.RowKit Go.Maps
set_option linter.unusedVariables false
set_option linter.unusedSimpArgs false
attribute [local go_sem] drew_cellq drew_frozenq

theorem edgesB_bad {l : List Int} {n k : Nat} (h : k < l.length) (he : isE (l.getD k 0) n = false) : edgesB l n = false := by
  cases e : edgesB l n with
  | false => rfl
  | true =>
    have := edgesB_true.1 e (l.getD k 0) (by simp [List.getD, h])
    rw [show isE (l.getD k 0) n = true from isE_true.2 this] at he
    cases he
theorem edgesB_all {l : List Int} {n : Nat} (h : ∀ j, j < l.length → isE (l.getD j 0) n = true) : edgesB l n = true := by
  rw [edgesB_true]
  intro e he
  obtain ⟨j, hj, rfl⟩ := List.mem_iff_getElem.1 he
  have := h j hj
  rw [show l.getD j 0 = l[j] from by simp [List.getD, hj]] at this
  exact isE_true.1 this
set_option maxRecDepth 100000 in
set_option maxHeartbeats 3200000 in
theorem rhasall_any (vi va vl : Value) (I : List Int) (A : List Pr) (l : List Int) (w : World) (HI : IsInts w vi I) (HA : IsPairs w va A) (HL : IsInts w vl l) (h1 : I.length ≤ 4000000) (h2 : A.length ≤ 4000000) :
    Calls Tryz.prog 65 #[.agg #[vi, va], vl] w fun r w' => r = .returned (.bool (hasA I A l)) ∧ Below w.heap.size w w' := by
  have hb0 := below_alloc1 w (.cells #[vi, va] 25)
  have hsz : (w.alloc (.cells #[vi, va] 25)).heap.size = w.heap.size + 1 := by simp
  have hbx := boxA_new w vi va
  have HI1 := Lib.hid (HI.below hb0 (Nat.le_refl _))
  have HA1 := Lib.hid (HA.below hb0 (Nat.le_refl _))
  have HL1 := Lib.hid (HL.below hb0 (Nat.le_refl _))
  have hll := HL.len
  obtain ⟨ia, ic, rfl⟩ := HI.shape
  obtain ⟨aa, ac, rfl, _⟩ := HA.shape
  obtain ⟨la, lc, rfl⟩ := HL.shape
  clear HI HA HL
  go_enter Tryz.func65, Tryz.ntmps65
  go_upto_region 1 with fail
  generalize World.alloc w _ = W at *
  have HB0 := Lib.hid hb0
  have HBX := Lib.hid hbx
  have HSZ := Lib.hid hsz
  obtain ⟨p0, p1⟩ := hbx
  clear hb0 hsz
  have HM := Lib.hid (rmay6_any _ _ I A W HI1.out HA1.out h1 h2)
  by_cases cm : mayA I A = true
  · have HE : Hid (hasA I A l = edgesB l (1 + I.length + A.length)) := by show _ = _; unfold hasA; rw [cm]; rfl
    rw [cm] at HM
    clear cm
    go_upto_region 3 with (go_at_call 19; go_loud (refine HM.out.mono ?_; rintro r w1 ⟨rfl, hb⟩; have HB1 := Lib.hid hb; clear hb))
    clear p0 p1 HM
    go_wp2
    go_loopw [5] (fun s5 wr => ∃ k : Nat, k ≤ l.length ∧ s5 = .int .i64 k ∧ Below W.heap.size W wr ∧ Hid (∀ j, j < k → isE (l.getD j 0) (1 + I.length + A.length) = true)) (fun s5 _ => l.length - (intOf s5).toNat)
    case atStart => exact ⟨0, Nat.zero_le _, rfl, HB1.out, fun j hj => absurd hj (Nat.not_lt_zero _)⟩
    case round =>
      obtain ⟨k, hk, rfl, hb, HN⟩ := hrel
      have HBR := Lib.hid hb
      clear hb
      by_cases hlt : k < l.length
      · obtain ⟨b, off, rfl, hbl, hc0⟩ := HL1.out.cellY hlt
        have HBD : Hid (isE (l.getD k 0) (1 + I.length + A.length) = false → edgesB l (1 + I.length + A.length) = false) := fun h => edgesB_bad hlt h
        have HNX : Hid (isE (l.getD k 0) (1 + I.length + A.length) = true → ∀ j, j < k + 1 → isE (l.getD j 0) (1 + I.length + A.length) = true) := fun h j hj => by
          by_cases e : j = k
          · subst e; exact h
          · exact HN.out j (by omega)
        have HKL := Lib.hid hlt
        have hkb : k < 17592186044416 := by omega
        have hkz0 : (0 : Int) ≤ (k : Int) := by omega
        have hkz1 : (k : Int) < (l.length : Int) := by omega
        have HC : Hid (∀ X, Below W.heap.size W X → X.cell? ⟨b, off + k, none⟩ = some (.int .i64 (l.getD k 0))) := fun X hX => (hX.cell (p := ⟨b, off + k, none⟩) hbl).trans hc0
        clear hlt hc0 HN
        generalize l.getD k 0 = x at *
        have HH := Lib.hid (fun X (hX : Below W.heap.size W X) => rhas6_any _ _ I A x X (HI1.out.below hX (Nat.le_refl _)) (HA1.out.below hX (Nat.le_refl _)) h1 h2)
        generalize isE x (1 + I.length + A.length) = t at *
        go_upto_region 6 with fail
        have HS0 := Lib.hid (HBR.out.drew)
        refine wp_region_held_drew (S := fun X : World => Below W.heap.size W X) (by kernel_rfl) HS0.out (fun hSd => ?_)
        refine takeC (i := 0) (v := .agg #[.slice ia I.length ic, .slice aa A.length ac]) (some 15) rfl rfl (by kernel_rfl) (by kernel_rfl) (by kernel_rfl) (fun _ _ _ h => h) (Or.inl ⟨by rfl, ?_⟩) (by assumption) ?_
        · intro wz hSw; obtain ⟨t0, t1⟩ := HBX.out.below hSw (by rw [HSZ.out]; omega); go_simp
        try simp only [Act.put, List.setIfInBounds_toArray, List.set_cons_zero, List.set_cons_succ]
        refine takeC (i := 1) (v := .slice (some ⟨b, off, none⟩) l.length lc) (some 16) rfl rfl (by kernel_rfl) (by kernel_rfl) (by kernel_rfl) (fun _ _ _ h => h) (Or.inl ⟨by rfl, ?_⟩) (by assumption) ?_
        · intro wz hSw; go_simp
        try simp only [Act.put, List.setIfInBounds_toArray, List.set_cons_zero, List.set_cons_succ]
        refine takeC (i := 2) (v := .int .i64 (k : Int)) (some 17) rfl rfl (by kernel_rfl) (by kernel_rfl) (by kernel_rfl) (fun _ _ _ h => h) (Or.inl ⟨by rfl, ?_⟩) (by assumption) ?_
        · intro wz hSw; go_simp
        try simp only [Act.put, List.setIfInBounds_toArray, List.set_cons_zero, List.set_cons_succ]
        refine takeC (i := 3) (v := .pointer (some ⟨b, off + k, none⟩)) (some 18) rfl rfl (by kernel_rfl) (by kernel_rfl) (by kernel_rfl) (fun _ _ _ h => h) (Or.inl ⟨by rfl, ?_⟩) (by assumption) ?_
        · intro wz hSw; go_simp
        try simp only [Act.put, List.setIfInBounds_toArray, List.set_cons_zero, List.set_cons_succ]
        refine takeC (i := 4) (v := .int .i64 x) (some 19) rfl rfl (by kernel_rfl) (by kernel_rfl) (by kernel_rfl) (fun _ _ _ h => h) (Or.inl ⟨by rfl, ?_⟩) (by assumption) ?_
        · intro wz hSw; have t0 := HC.out wz hSw; go_simp
        try simp only [Act.put, List.setIfInBounds_toArray, List.set_cons_zero, List.set_cons_succ]
        refine wpAnyH_ready (rs := [5]) (by kernel_rfl) (by simp) ?_
        refine AllReadyH.cons rfl (fun K hK => ?_) AllReadyH.nil
        go_simp
        go_wp2_with (go_at_call 73; go_loud (refine (HH.out _ HS0.out).mono ?_; rintro r w2 ⟨rfl, hb⟩; have HB2 := Lib.hid (HS0.out.trans (hb.mono HS0.out.size)); clear hb))
        have hSw := HB2.out
        refine hK.out _ _ HB2.out (fun hHn => ?_)
        clear hK K hHn
        try simp only [Act.put, List.setIfInBounds_toArray, List.set_cons_zero, List.set_cons_succ]
        refine takeC (i := 6) (v := .bool (!t)) (some 21) rfl rfl (by kernel_rfl) (by kernel_rfl) (by kernel_rfl) (fun _ _ _ h => h) (Or.inl ⟨by rfl, ?_⟩) (by assumption) ?_
        · intro wz hSw; go_simp
        try simp only [Act.put, List.setIfInBounds_toArray, List.set_cons_zero, List.set_cons_succ]
        refine wpAnyH_done (by kernel_rfl) ?_ _
        cases ht : t with
        | true =>
          have HX := Lib.hid (HNX.out ht)
          clear ht HNX HBD
          go_wp2
          go_roundw
          case rel => exact ⟨k + 1, HKL.out, by go_num, HB2.out, HX.out⟩
          case measure => have := HKL.out; simp [intOf]; omega
        | false =>
          have HX := Lib.hid (HBD.out ht)
          clear ht HNX HBD
          go_wp2
          go_ret
          exact ⟨ret_bool (by rw [HE.out, HX.out]), HB0.out.trans (HB2.out.mono HB0.out.size)⟩
      · obtain rfl : k = l.length := by omega
        have HX : Hid (edgesB l (1 + I.length + A.length) = true) := edgesB_all HN.out
        go_wp2
        go_ret
        exact ⟨ret_bool (by rw [HE.out, HX.out]), HB0.out.trans (HBR.out.mono HB0.out.size)⟩
  · have cm : mayA I A = false := by simpa using cm
    have HE : Hid (hasA I A l = false) := by show _ = _; unfold hasA; rw [cm]; rfl
    rw [cm] at HM
    clear cm
    go_wp2_with (go_at_call 19; go_loud (refine HM.out.mono ?_; rintro r w1 ⟨rfl, hb⟩; have HB1 := Lib.hid hb; clear hb))
    go_ret
    exact ⟨ret_bool HE.out.symm, HB0.out.trans (HB1.out.mono HB0.out.size)⟩
end Go.Proofs.YtppglbffmgnooaaGreat

/- skolemref06.Reached. -/
namespace Go.Proofs.YtppglbffmgnooaaGreat
open Go.RowKit Go.Maps
set_option linter.unusedVariables false
set_option linter.unusedSimpArgs false

theorem ownB_lower {w : World} {B B' : Nat} {v : Value} {xs : List Bool} (h : OwnB w B v xs) (hB : B' ≤ B) : OwnB w B' v xs := by
  refine ⟨h.1, ?_⟩
  rcases h.2 with hn | ⟨g, cap, cur, hv, hb, rest⟩
  · exact .inl hn
  · exact .inr ⟨g, cap, cur, hv, Nat.le_trans hB hb, rest⟩
set_option maxRecDepth 100000 in
set_option maxHeartbeats 3200000 in
theorem rreached_any (vi va vl : Value) (I : List Int) (A : List Pr) (l : List Int) (w : World) (HI : IsInts w vi I) (HA : IsPairs w va A) (HL : IsInts w vl l) (h1 : I.length ≤ 4000000) (h2 : A.length ≤ 4000000)
    (hok : okUpto (1 + I.length) A A.length = true) (hel : edgesB l (1 + I.length + A.length) = true) :
    Calls Tryz.prog 64 #[.agg #[vi, va], vl] w fun r w' => ∃ g, r = .returned (.slice (some ⟨g, 0, none⟩) (1 + I.length + A.length) (1 + I.length + A.length)) ∧ OwnB w' w.heap.size (.slice (some ⟨g, 0, none⟩) (1 + I.length + A.length) (1 + I.length + A.length)) (reachA (1 + I.length) A l) ∧ Below w.heap.size w w' := by
  have hb0 := below_alloc1 w (.cells #[vi, va] 25)
  have hsz : (w.alloc (.cells #[vi, va] 25)).heap.size = w.heap.size + 1 := by simp
  have hbx := boxA_new w vi va
  have HI1 := Lib.hid (HI.below hb0 (Nat.le_refl _))
  have HA1 := Lib.hid (HA.below hb0 (Nat.le_refl _))
  have HL1 := Lib.hid (HL.below hb0 (Nat.le_refl _))
  obtain ⟨ia, ic, rfl⟩ := HI.shape
  obtain ⟨aa, ac, rfl, _⟩ := HA.shape
  obtain ⟨la, lc, rfl⟩ := HL.shape
  have HL0 := HL.bd
  have HEL := Lib.hid (edgesB_true.1 hel)
  have HOB := Lib.hid (fun i => okPair_bd (k := 1 + I.length) (A := A) (i := i) hok)
  clear HI HA HL hel hok
  obtain ⟨kg, hkg⟩ : ∃ kg : Nat, 1 + I.length = kg := ⟨_, rfl⟩
  obtain ⟨nn, hnn⟩ : ∃ nn : Nat, kg + A.length = nn := ⟨_, rfl⟩
  rw [hkg] at HEL HOB ⊢
  rw [hnn] at HEL ⊢
  have hn1 : nn ≤ 8000001 := by omega
  have hkI : (1 : Int) + (I.length : Int) = (kg : Int) := by omega
  have HNN := Lib.hid hnn
  have HKG := Lib.hid hkg
  have HRE : Hid (reachA kg A l = backA kg A A.length (mark0 nn l)) := by show _ = _; unfold reachA; rw [hnn]
  clear hnn hkg
  go_enter Tryz.func64, Tryz.ntmps64
  go_upto_region 1 with fail
  generalize World.alloc w _ = W at *
  have HB0 := Lib.hid hb0
  have HBX := Lib.hid hbx
  have HSZ := Lib.hid hsz
  obtain ⟨p0, p1⟩ := hbx
  clear hb0 hsz
  have HN := Lib.hid (rnodes_any _ _ I A W HI1.out HA1.out h1 h2)
  rw [HKG.out, HNN.out] at HN
  go_upto_region 2 with (first
    | (at_make; refine wpList_mkBools2 rfl _ _ rfl nn nn nn rfl rfl rfl rfl (by omega) ?_; intro w2 hown hg; have HO := Lib.hid hown; have HB2 := Lib.hid ((Below.refl w1.heap.size w1).grown hg (Nat.le_refl _) (fun k hk => by cases hk)); clear hown hg)
    | (go_at_call 48; go_loud (refine HN.out.mono ?_; rintro e w1 ⟨rfl, hb1⟩; have HB1 := Lib.hid hb1; clear hb1)))
  have HBW := Lib.hid (HB1.out.trans (HB2.out.mono HB1.out.size))
  have HT : Hid (W.heap.size ≤ w1.heap.size) := HB1.out.size
  clear HB1 HB2 HN p0 p1
  generalize w1.heap.size = bi at *
  go_wp2
  go_loopw [6] (fun i wr => ∃ k : Nat, k ≤ l.length ∧ i = .int .i64 k ∧ OwnB wr bi (.slice (some ⟨bi, 0, none⟩) nn nn) (mark0 nn (l.take k)) ∧ Kept (fun j => j = bi) w2 wr) (fun i _ => l.length - (intOf i).toNat)
  case atStart => exact ⟨0, Nat.zero_le _, rfl, HO.out, Kept.refl _ _⟩
  case round =>
    obtain ⟨k, hk, rfl, ho, hkp⟩ := hrel
    have HOR := Lib.hid ho
    have HK := Lib.hid hkp
    have HBR := Lib.hid (HBW.out.trans (hkp.below HBW.out.size (fun j hj e => by have := HT.out; have : j = bi := e; omega)))
    clear ho hkp
    by_cases hlt : k < l.length
    · obtain ⟨b, off, rfl, hb, hc0⟩ := HL1.out.cellY hlt
      have hc := (HBR.out.cell (p := ⟨b, off + k, none⟩) hb).trans hc0
      have hx := HEL.out _ (ints_getD_mem hlt)
      have HST := Lib.hid (mark0_step nn l k hlt)
      have HKL := Lib.hid hlt
      have hkb : k < 17592186044416 := by omega
      clear hc0 hlt
      generalize l.getD k 0 = x at *
      obtain ⟨hx0, hx1⟩ := hx
      obtain ⟨q, hq⟩ : ∃ q : Nat, x / 2 = (q : Int) := ⟨(x / 2).toNat, by omega⟩
      have hqn : q < (mark0 nn (l.take k)).length := by rw [mark0_len]; omega
      have hq0 : (0 : Int) ≤ (q : Int) := by omega
      have hq1 : (q : Int) < (nn : Int) := by omega
      have m0 := HOR.out.cell q hqn
      have m1 := HOR.out.frozen q
      have HO3 := Lib.hid (HOR.out.store q true)
      have HK3 := Lib.hid (HK.out.trans (Kept.setCell wr ⟨bi, q, none⟩ (.bool true)))
      have HQ : Hid ((x / 2).toNat = q) := by show _ = _; rw [hq]; rfl
      clear hqn
      go_wp2
      go_roundw
      case rel => exact ⟨k + 1, HKL.out, by go_num, by rw [HST.out, HQ.out]; exact HO3.out, HK3.out⟩
      case measure => have := HKL.out; simp [intOf]; omega
    · obtain rfl : k = l.length := by omega
      rw [List.take_length] at HOR
      obtain ⟨r0, r1⟩ := HBX.out.below HBR.out (by rw [HSZ.out]; omega)
      have hAz : A.length ≤ 4000000 := h2
      have HML : Hid ((mark0 nn l).length = nn) := mark0_len nn l
      have HBR2 := Lib.hid HBR.out
      have HOR2 := Lib.hid HOR.out
      clear hk HL1 HEL HO HK HBR HOR HBW
      generalize wr = w3 at *
      generalize mark0 nn l = M0 at *
      go_wp2
      go_loopw [7] (fun s7 wr => ∃ (k : Nat) (m : List Bool), k ≤ A.length ∧ s7 = .int .i64 ((k : Int) - 1) ∧ m.length = nn ∧ backA kg A k m = reachA kg A l ∧ OwnB wr bi (.slice (some ⟨bi, 0, none⟩) nn nn) m ∧ Below W.heap.size W wr) (fun s7 _ => (intOf s7 + 1).toNat)
      case atStart => exact ⟨A.length, M0, Nat.le_refl _, rfl, HML.out, HRE.out.symm, HOR2.out, HBR2.out⟩
      case round =>
        clear r0 r1
        obtain ⟨k, m, hk, rfl, hml, hbk, ho, hbe⟩ := hrel
        have HO := Lib.hid ho
        have HB := Lib.hid hbe
        have HBK := Lib.hid hbk
        have HLN := Lib.hid hml
        obtain ⟨r0, r1⟩ := HBX.out.below hbe (by rw [HSZ.out]; omega)
        clear ho hbe hbk hml
        match k, hk, HBK with
        | 0, _, HBK =>
          have HE : Hid (m = reachA kg A l) := HBK.out
          go_wp2
          go_ret
          exact ⟨bi, rfl, by rw [← HE.out]; exact (ownB_lower HO.out (Nat.le_trans HB0.out.size HT.out)), HB0.out.trans (HB.out.mono HB0.out.size)⟩
        | i + 1, hk, HBK =>
          rw [show ((i + 1 : Nat) : Int) - 1 = (i : Int) from by omega]
          have hiA : i < A.length := by omega
          obtain ⟨b, off, rfl, hbl, hx0, hy0⟩ := HA1.out.at hiA
          have hx := (HB.out.cell (p := ⟨b, off + i * 2, none⟩) hbl).trans hx0
          have hy := (HB.out.cell (p := ⟨b, off + i * 2 + 1, none⟩) hbl).trans hy0
          obtain ⟨⟨u0, u1⟩, v0, v1⟩ := HOB.out i hiA
          obtain ⟨j, hj⟩ : ∃ j : Nat, kg + i = j := ⟨_, rfl⟩
          have hjz : (kg : Int) + (i : Int) = (j : Int) := by omega
          have hjn : j < nn := by have := HNN.out; omega
          have HST : Hid (backA kg A i (if m.getD j false = true then (m.set ((A.getD i dPr).1 / 2).toNat true).set ((A.getD i dPr).2 / 2).toNat true else m) = reachA kg A l) := by
            show _ = _
            rw [← HBK.out, ← hj]
            rfl
          have j0 := HO.out.cell j (by rw [HLN.out]; exact hjn)
          have hj0 : (0 : Int) ≤ (j : Int) := by omega
          have hj1 : (j : Int) < (nn : Int) := by omega
          have hi0 : (0 : Int) ≤ (i : Int) := by omega
          have hi1 : (i : Int) < (A.length : Int) := by omega
          have hib : i < 4000000 := by omega
          have HIK : Hid (i ≤ A.length) := Nat.le_of_lt hiA
          have HW : Hid (W.heap.size ≤ bi) := HT.out
          clear hx0 hy0 hiA HBK hj
          generalize A.getD i dPr = y at *
          obtain ⟨a1, a2⟩ := y
          simp only at hx hy u0 u1 v0 v1 HST
          cases ht : m.getD j false with
          | false =>
            rw [ht] at j0 HST
            have HE : Hid (backA kg A i m = reachA kg A l) := by have h := HST.out; rw [if_neg (by decide)] at h; exact h
            clear ht HST u1 v1
            go_wp2
            go_roundw
            case rel => exact ⟨i, m, HIK.out, by go_num, HLN.out, HE.out, HO.out, HB.out⟩
            case measure => simp [intOf]
          | true =>
            rw [ht] at j0 HST
            obtain ⟨q1, hq1⟩ : ∃ q : Nat, a1 / 2 = (q : Int) := ⟨(a1 / 2).toNat, by omega⟩
            obtain ⟨q2, hq2⟩ : ∃ q : Nat, a2 / 2 = (q : Int) := ⟨(a2 / 2).toNat, by omega⟩
            have n1 : q1 < m.length := by rw [HLN.out]; omega
            have n2 : q2 < m.length := by rw [HLN.out]; omega
            have HE : Hid (backA kg A i ((m.set q1 true).set q2 true) = reachA kg A l) := by
              have h := HST.out
              rw [if_pos rfl, hq1, hq2] at h
              exact h
            have hq10 : (0 : Int) ≤ (q1 : Int) := by omega
            have hq11 : (q1 : Int) < (nn : Int) := by have := HLN.out; omega
            have hq20 : (0 : Int) ≤ (q2 : Int) := by omega
            have hq21 : (q2 : Int) < (nn : Int) := by have := HLN.out; omega
            have k1 := HO.out.cell q1 n1
            have f1 := HO.out.frozen q1
            have hs1 := HO.out.store q1 true
            have k2 := hs1.cell q2 (by rw [List.length_set]; exact n2)
            have f2 := hs1.frozen q2
            have HS2 := Lib.hid (hs1.store q2 true)
            have HLS : Hid (((m.set q1 true).set q2 true).length = nn) := by show _ = _; rw [List.length_set, List.length_set]; exact HLN.out
            have HB2 := Lib.hid ((HB.out.setCell (p := ⟨bi, q1, none⟩) HW.out (.bool true)).setCell (p := ⟨bi, q2, none⟩) HW.out (.bool true))
            have HBM := Lib.hid (HB.out.setCell (p := ⟨bi, q1, none⟩) HW.out (.bool true))
            obtain ⟨e0, e1⟩ := HBX.out.below HBM.out (by rw [HSZ.out]; omega)
            have hx' := (HBM.out.cell (p := ⟨b, off + i * 2, none⟩) hbl).trans ((HB.out.cell (p := ⟨b, off + i * 2, none⟩) hbl).symm.trans hx)
            have hy' := (HBM.out.cell (p := ⟨b, off + i * 2 + 1, none⟩) hbl).trans ((HB.out.cell (p := ⟨b, off + i * 2 + 1, none⟩) hbl).symm.trans hy)
            clear hs1 n1 n2 u1 v1 ht HST
            go_wp2
            go_roundw
            case rel => exact ⟨i, _, HIK.out, by go_num, HLS.out, HE.out, HS2.out, HB2.out⟩
            case measure => simp [intOf]
end Go.Proofs.YtppglbffmgnooaaGreat

/- skolemref06: Has, Size. -/
namespace Go.Proofs.YtppglbffmgnooaaGreat
open Go.RowKit Go.Maps
set_option linter.unusedVariables false
set_option linter.unusedSimpArgs false

theorem hasA_one (I : List Int) (A : List Pr) (e : Int) : hasA I A [e] = (mayA I A && isE e (1 + I.length + A.length)) := by
  unfold hasA edgesB
  simp
set_option maxRecDepth 100000 in
theorem rHas6_any (vi va : Value) (I : List Int) (A : List Pr) (e : Int) (w : World) (HI : IsInts w vi I) (HA : IsPairs w va A) (h1 : I.length ≤ 4000000) (h2 : A.length ≤ 4000000) :
    Calls Tryz.prog 23 #[.agg #[vi, va], .int .i64 e] w fun r w' => r = .returned (.bool (hasA I A [e])) ∧ Below w.heap.size w w' := by
  have hb0 := below_alloc1 w (.cells #[vi, va] 25)
  have hsz : (w.alloc (.cells #[vi, va] 25)).heap.size = w.heap.size + 1 := by simp
  have hbx := boxA_new w vi va
  have HI1 := Lib.hid (HI.below hb0 (Nat.le_refl _))
  have HA1 := Lib.hid (HA.below hb0 (Nat.le_refl _))
  have HE := Lib.hid (hasA_one I A e)
  obtain ⟨ia, ic, rfl⟩ := HI.shape
  obtain ⟨aa, ac, rfl, _⟩ := HA.shape
  clear HI HA
  go_enter Tryz.func23, Tryz.ntmps23
  go_upto_region 1 with fail
  generalize World.alloc w _ = W at *
  have HB0 := Lib.hid hb0
  have HBX := Lib.hid hbx
  have HSZ := Lib.hid hsz
  obtain ⟨p0, p1⟩ := hbx
  clear hb0 hsz
  have HM := Lib.hid (rmay6_any _ _ I A W HI1.out HA1.out h1 h2)
  have HH : Hid (∀ X, Below W.heap.size W X → Calls Tryz.prog 73 #[.agg #[.slice ia I.length ic, .slice aa A.length ac], .int .i64 e] X fun r w' => r = .returned (.bool (isE e (1 + I.length + A.length))) ∧ Below X.heap.size X w') := fun X hX => rhas6_any _ _ I A e X (HI1.out.below hX (Nat.le_refl _)) (HA1.out.below hX (Nat.le_refl _)) h1 h2
  cases cm : mayA I A with
  | true =>
    rw [cm] at HM HE
    rw [Bool.true_and] at HE
    clear cm
    generalize isE e (1 + I.length + A.length) = t at *
    go_wp2_with (first
      | (go_at_call 73; go_loud (refine (HH.out w1 HB1.out).mono ?_; rintro r w2 ⟨rfl, hb⟩; have HB2 := Lib.hid (HB1.out.trans (hb.mono HB1.out.size)); clear hb))
      | (go_at_call 19; go_loud (refine HM.out.mono ?_; rintro r w1 ⟨rfl, hb⟩; have HB1 := Lib.hid hb; obtain ⟨q0, q1⟩ := HBX.out.below hb (by rw [HSZ.out]; omega); clear hb)))
    go_ret
    exact ⟨ret_bool HE.out.symm, HB0.out.trans (HB2.out.mono HB0.out.size)⟩
  | false =>
    rw [cm] at HM HE
    rw [Bool.false_and] at HE
    clear cm
    go_wp2_with (go_at_call 19; go_loud (refine HM.out.mono ?_; rintro r w1 ⟨rfl, hb⟩; have HB1 := Lib.hid hb; clear hb))
    go_ret
    exact ⟨ret_bool HE.out.symm, HB0.out.trans (HB1.out.mono HB0.out.size)⟩
set_option maxRecDepth 100000 in
set_option maxHeartbeats 1600000 in
theorem rsize6_any (vi va vl : Value) (I : List Int) (A : List Pr) (l : List Int) (w : World) (HI : IsInts w vi I) (HA : IsPairs w va A) (HL : IsInts w vl l) (h1 : I.length ≤ 4000000) (h2 : A.length ≤ 4000000) :
    Calls Tryz.prog 17 #[.agg #[vi, va], vl] w fun r w' => r = .returned (.tuple #[.int .i64 ((sizeA I A l).1 : Int), .int .i64 (sizeA I A l).2]) ∧ Below w.heap.size w w' := by
  have hb0 := below_alloc1 w (.cells #[vi, va] 25)
  have hsz : (w.alloc (.cells #[vi, va] 25)).heap.size = w.heap.size + 1 := by simp
  have hbx := boxA_new w vi va
  have HI1 := Lib.hid (HI.below hb0 (Nat.le_refl _))
  have HA1 := Lib.hid (HA.below hb0 (Nat.le_refl _))
  have HL1 := Lib.hid (HL.below hb0 (Nat.le_refl _))
  obtain ⟨ia, ic, rfl⟩ := HI.shape
  obtain ⟨aa, ac, rfl, _⟩ := HA.shape
  obtain ⟨la, lc, rfl⟩ := HL.shape
  clear HI HA HL
  go_enter Tryz.func17, Tryz.ntmps17
  go_upto_region 1 with fail
  generalize World.alloc w _ = W at *
  have HB0 := Lib.hid hb0
  have HBX := Lib.hid hbx
  have HSZ := Lib.hid hsz
  obtain ⟨p0, p1⟩ := hbx
  clear hb0 hsz
  have HH := Lib.hid (rhasall_any _ _ _ I A l W HI1.out HA1.out HL1.out h1 h2)
  by_cases hh : hasA I A l = true
  · have HE : Hid (sizeA I A l = ((onN (reachA (1 + I.length) A l) (1 + I.length) A.length).length, 0)) := by show _ = _; unfold sizeA; rw [if_pos hh]
    have HR : Hid (∀ X, Below W.heap.size W X → Calls Tryz.prog 64 #[.agg #[.slice ia I.length ic, .slice aa A.length ac], .slice la l.length lc] X fun r w' => ∃ g, r = .returned (.slice (some ⟨g, 0, none⟩) (1 + I.length + A.length) (1 + I.length + A.length)) ∧ OwnB w' X.heap.size (.slice (some ⟨g, 0, none⟩) (1 + I.length + A.length) (1 + I.length + A.length)) (reachA (1 + I.length) A l) ∧ Below X.heap.size X w') := fun X hX =>
      rreached_any _ _ _ I A l X (HI1.out.below hX (Nat.le_refl _)) (HA1.out.below hX (Nat.le_refl _)) (HL1.out.below hX (Nat.le_refl _)) h1 h2 (hasA_parts hh).2.1 (hasA_parts hh).2.2
    have HLN := Lib.hid (reachA_len (1 + I.length) A l)
    rw [hh] at HH
    clear hh
    obtain ⟨kg, hkg⟩ : ∃ kg : Nat, 1 + I.length = kg := ⟨_, rfl⟩
    obtain ⟨nn, hnn⟩ : ∃ nn : Nat, kg + A.length = nn := ⟨_, rfl⟩
    rw [hkg] at HE HR HLN
    rw [hnn] at HR HLN
    have hkI : (1 : Int) + (I.length : Int) = (kg : Int) := by omega
    have HNN := Lib.hid hnn
    clear hkg hnn
    generalize reachA kg A l = m at *
    go_upto_region 4 with (first
      | (go_at_call 64; go_loud (refine (HR.out w1 HB1.out).mono ?_; rintro r w2 ⟨g, rfl, ho, hb⟩; have HO := Lib.hid ho; have HB2 := Lib.hid (HB1.out.trans (hb.mono HB1.out.size)); clear ho hb))
      | (go_at_call 65; go_loud (refine HH.out.mono ?_; rintro r w1 ⟨rfl, hb⟩; have HB1 := Lib.hid hb; obtain ⟨q0, q1⟩ := HBX.out.below hb (by rw [HSZ.out]; omega); clear hb)))
    obtain ⟨r0, r1⟩ := HBX.out.below HB2.out (by rw [HSZ.out]; omega)
    clear q0 q1 p0 p1 HH HR
    go_wp2
    go_loopw [7, 8] (fun s7 s8 wr => ∃ k : Nat, k ≤ A.length ∧ s8 = .int .i64 k ∧ s7 = .int .i64 ((onN m kg k).length : Int) ∧ OwnB wr w1.heap.size (.slice (some ⟨g, 0, none⟩) nn nn) m ∧ Below W.heap.size W wr) (fun _ s8 _ => A.length - (intOf s8).toNat)
    case atStart => exact ⟨0, Nat.zero_le _, rfl, rfl, HO.out, HB2.out⟩
    case round =>
      clear r0 r1
      obtain ⟨k, hk, rfl, rfl, ho, hb⟩ := hrel
      have HOR := Lib.hid ho
      have HBR := Lib.hid hb
      obtain ⟨r0, r1⟩ := HBX.out.below hb (by rw [HSZ.out]; omega)
      clear hb ho
      by_cases hlt : k < A.length
      · obtain ⟨j, hj⟩ : ∃ j : Nat, kg + k = j := ⟨_, rfl⟩
        have hjz : (kg : Int) + (k : Int) = (j : Int) := by omega
        have hjn : j < nn := by have := HNN.out; omega
        have j0 := HOR.out.cell j (by rw [HLN.out]; exact hjn)
        have HOS := Lib.hid (onN_succ m kg k)
        rw [hj] at HOS
        have hj0 : (0 : Int) ≤ (j : Int) := by omega
        have hj1 : (j : Int) < (nn : Int) := by omega
        have HOL := Lib.hid (onN_len m kg k)
        have HKL := Lib.hid hlt
        have hkb : k < 4000000 := by omega
        clear hj hjn
        obtain ⟨c, hc⟩ : ∃ c, (onN m kg k).length = c := ⟨_, rfl⟩
        have hcb : c ≤ 4000000 := by have := HOL.out; omega
        rw [hc]
        cases ht : m.getD j false with
        | true =>
          rw [ht] at j0 HOS
          have HN : Hid ((onN m kg (k + 1)).length = c + 1) := by show _ = _; rw [HOS.out, if_pos rfl, List.length_append, hc]; rfl
          clear ht HOS HOL hc
          go_wp2
          go_roundw
          case rel => exact ⟨k + 1, HKL.out, by go_num, by rw [HN.out]; go_num, HOR.out, HBR.out⟩
          case measure => have := HKL.out; simp [intOf]; omega
        | false =>
          rw [ht] at j0 HOS
          have HN : Hid ((onN m kg (k + 1)).length = c) := by show _ = _; rw [HOS.out, if_neg (by decide), List.append_nil, hc]
          clear ht HOS HOL hc
          go_wp2
          go_roundw
          case rel => exact ⟨k + 1, HKL.out, by go_num, by rw [HN.out], HOR.out, HBR.out⟩
          case measure => have := HKL.out; simp [intOf]; omega
      · obtain rfl : k = A.length := by omega
        go_wp2
        go_ret2
        exact ⟨by rw [HE.out]; rfl, HB0.out.trans (HBR.out.mono HB0.out.size)⟩
  · have hh : hasA I A l = false := by simpa using hh
    have HE : Hid (sizeA I A l = (0, 2)) := by show _ = _; unfold sizeA; rw [hh]; rfl
    rw [hh] at HH
    clear hh
    go_wp2_with (go_at_call 65; refine HH.out.mono ?_; rintro e w1 ⟨rfl, hb1⟩)
    go_ret2
    exact ⟨by rw [HE.out]; rfl, HB0.out.trans (hb1.mono HB0.out.size)⟩
end Go.Proofs.YtppglbffmgnooaaGreat
