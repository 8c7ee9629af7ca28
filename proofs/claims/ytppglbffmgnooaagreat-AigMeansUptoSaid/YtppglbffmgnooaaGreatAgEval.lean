/- aig.Eval and what it calls: word, run. -/
import Derived.Test.YtppglbffmgnooaaGreatAgWords
import Derived.Test.YtppglbffmgnooaaGreatA05
import Derived.Test.YtppglbffmgnooaaGreatA03
namespace Go.Proofs.YtppglbffmgnooaaGreat
open Go.RowKit Go.Maps Go.Shelf
set_option linter.unusedVariables false
set_option linter.unusedSimpArgs false

set_option maxRecDepth 100000 in
theorem word_any {w : World} {B b n : Nat} {t : List Bool} (e : Int) (HW : WordsAt w B b n t) (h0 : 0 ≤ e) (h1 : e / 2 < (n : Int)) (hn : n ≤ 8000001) :
    Calls Tryz.prog 79 #[.slice (some ⟨b, 0, none⟩) n n, .int .i64 e] w fun r w' => ∃ z, r = .returned (.int .u64 z) ∧ W64 z ∧ (z % 2 = 1 ↔ edgeV t e = true) ∧ w = w' := by
  obtain ⟨q, hq⟩ : ∃ q : Nat, e / 2 = (q : Int) := ⟨(e / 2).toNat, by omega⟩
  have hqn : q < n := by omega
  obtain ⟨x, hc, hx, hp⟩ := HW.at.2 q hqn
  have hq0 : (0 : Int) ≤ (q : Int) := by omega
  have hq1 : (q : Int) < (n : Int) := by omega
  have HE : Hid (edgeV t e = (t.getD q false != decide (e % 2 = 1))) := by show _ = _; unfold edgeV; rw [hq]; rfl
  have HX := Lib.hid hx
  have HP := Lib.hid hp
  have HN := Lib.hid (not_par hx)
  clear hx hp HW hqn h1
  by_cases hm : e % 2 = 1
  · have HZ : Hid (bits .xor .u64 18446744073709551615 x % 2 = 1 ↔ edgeV t e = true) := by
      show _ ↔ _
      rw [HN.out.2, HP.out, HE.out, decide_eq_true hm]
      cases t.getD q false <;> simp
    clear HE HP
    go_enter Tryz.func79, Tryz.ntmps79
    go_wp2
    go_ret
    exact ⟨_, rfl, HN.out.1, HZ.out, rfl⟩
  · have hm0 : e % 2 = 0 := by omega
    have HZ : Hid (x % 2 = 1 ↔ edgeV t e = true) := by
      show _ ↔ _
      rw [HP.out, HE.out, decide_eq_false hm]
      cases t.getD q false <;> simp
    clear HE HP hm
    go_enter Tryz.func79, Tryz.ntmps79
    go_wp2
    go_ret
    exact ⟨_, rfl, HX.out, HZ.out, rfl⟩
theorem WordsAt.kept {w w' : World} {B b n : Nat} {t : List Bool} {S : Nat → Prop} (h : WordsAt w B b n t) (hk : Kept S w w') (hS : ¬ S b) : WordsAt w' B b n t := by
  obtain ⟨xs, ho, hp⟩ := h
  exact ⟨xs, ownU_kept ho hk (fun g hg => by simp [Value.ownBlock] at hg; subst hg; exact hS), hp⟩
theorem kept_below {S : Nat → Prop} {w w' : World} (h : Below w.heap.size w w') : Kept S w w' := ⟨h.os, h.tape, h.output, h.size, fun k hk _ => h.block k hk⟩
theorem runOn_take {k : Nat} {A : List Pr} {t : List Bool} {l : List Int} {i : Nat} (h : i < l.length) : runOn k A t (l.take (i + 1)) = runS k A (runOn k A t (l.take i)) (l.getD i 0) := by
  rw [List.take_succ_eq_append_getElem h, runOn_snoc]; simp [List.getD, h]

set_option maxRecDepth 100000 in
set_option maxHeartbeats 3200000 in
theorem grun_any (vi va vn : Value) (I : List Int) (A : List Pr) (ns : List Int) (n B b : Nat) (t : List Bool) (w : World) (HK : ∀ X, Kept (fun j => j = b) w X → IsInts X vi I ∧ IsPairs X va A ∧ IsInts X vn ns) (HW : WordsAt w B b n t)
    (hn : 1 + I.length + A.length = n) (hn2 : n ≤ 8000001) (hok : okUpto (1 + I.length) A A.length = true) (hns : ∀ x ∈ ns, ((1 + I.length : Nat) : Int) ≤ x ∧ x < ((1 + I.length + A.length : Nat) : Int)) :
    Calls Tryz.prog 78 #[.agg #[vi, va], vn, .slice (some ⟨b, 0, none⟩) n n] w fun r w' => r = .returned (.tuple #[]) ∧ WordsAt w' B b n (runOn (1 + I.length) A t ns) ∧ Kept (fun j => j = b) w w' := by
  obtain ⟨HI, HA, HN⟩ := HK w (Kept.refl _ _)
  have hb0 := below_alloc1 w (.cells #[vi, va] 25)
  have hsz : (w.alloc (.cells #[vi, va] 25)).heap.size = w.heap.size + 1 := by simp
  have hbx := boxA_new w vi va
  have hlt := HW.lt.2
  have hW1 := HW.below hb0 (Nat.le_refl _)
  have hk0 : Kept (fun j => j = b) w (w.alloc (.cells #[vi, va] 25)) := Kept.alloc _ _ _
  obtain ⟨ia, ic, rfl⟩ := HI.shape
  obtain ⟨aa, ac, rfl, _⟩ := HA.shape
  obtain ⟨na, nc, rfl⟩ := HN.shape
  have hkn := hn
  have HHK := Lib.hid HK
  clear HI HA HN HK HW
  go_enter Tryz.func78, Tryz.ntmps78
  go_upto_region 1 with fail
  have HKW : Hid (∀ X, Kept (fun j => j = b) (w.alloc (.cells #[.slice ia I.length ic, .slice aa A.length ac] 25)) X → IsInts X (.slice ia I.length ic) I ∧ IsPairs X (.slice aa A.length ac) A ∧ IsInts X (.slice na ns.length nc) ns) := fun X hX => HHK.out X (hk0.trans hX)
  have HK0 := Lib.hid hk0
  clear HHK hk0 hb0
  generalize World.alloc w _ = W at *
  have HBX := Lib.hid hbx
  have HSZ := Lib.hid hsz
  have HLT := Lib.hid hlt
  have HW1 := Lib.hid hW1
  obtain ⟨p0, p1⟩ := hbx
  clear hsz hlt hW1
  have HNS := Lib.hid hns
  have HOK := Lib.hid hok
  have HNN := Lib.hid hn
  have hIl : I.length ≤ 8000001 := by omega
  clear hns hok hn hkn
  go_upto_region 2 with fail
  clear p0 p1
  go_wp2
  go_loopw [16] (fun i wr => ∃ k : Nat, k ≤ ns.length ∧ i = .int .i64 k ∧ WordsAt wr B b n (runOn (1 + I.length) A t (ns.take k)) ∧ Kept (fun j => j = b) W wr) (fun i _ => ns.length - (intOf i).toNat)
  case atStart => exact ⟨0, Nat.zero_le _, rfl, HW1.out, Kept.refl _ _⟩
  case round =>
    obtain ⟨k, hk, rfl, ho, hkp⟩ := hrel
    have HO := Lib.hid ho
    have HKP := Lib.hid hkp
    clear ho hkp
    by_cases hlt : k < ns.length
    · have HKL := Lib.hid hlt
      obtain ⟨xi, xa, xn⟩ := HKW.out wr HKP.out
      obtain ⟨b1, off1, rfl, hb1, hx1⟩ := xn.cellY hlt
      have hy := HNS.out _ (ints_getD_mem hlt)
      have HST := Lib.hid (runOn_take (k := 1 + I.length) (A := A) (t := t) hlt)
      have hk64 : (ns.length : Int) ≤ 17592186044416 := by have := xn.bd; omega
      generalize ns.getD k 0 = y at *
      obtain ⟨m, rfl⟩ := Int.eq_ofNat_of_zero_le (show 0 ≤ y by omega)
      obtain ⟨j, hj⟩ : ∃ j : Nat, (m : Int) - (1 + (I.length : Int)) = (j : Int) := ⟨m - (1 + I.length), by omega⟩
      have hjA : j < A.length := by omega
      have hnn := HNN.out
      have hmn : m < n := by omega
      obtain ⟨ab, aoff, rfl, habl, hq0, hq1⟩ := xa.at hjA
      have hpb := okPair_bd HOK.out hjA
      have hj0 : (0 : Int) ≤ (j : Int) := by omega
      have hj1 : (j : Int) < (A.length : Int) := by omega
      have hm0 : (0 : Int) ≤ (m : Int) := by omega
      have hm1 : (m : Int) < (n : Int) := by omega
      have hmj : m - (1 + I.length) = j := by omega
      have HMJ := Lib.hid hmj
      obtain ⟨p0, p1⟩ : BoxA wr w.heap.size (.slice ia I.length ic) (.slice (some ⟨ab, aoff, none⟩) A.length ac) := ⟨(HKP.out.cell (p := ⟨w.heap.size, 0, none⟩) (by show w.heap.size < _; rw [HSZ.out]; omega) (by show ¬ w.heap.size = b; have := HLT.out; omega)).trans HBX.out.1, (HKP.out.cell (p := ⟨w.heap.size, 1, none⟩) (by show w.heap.size < _; rw [HSZ.out]; omega) (by show ¬ w.heap.size = b; have := HLT.out; omega)).trans HBX.out.2⟩
      have HPB : Hid ((0 ≤ (A.getD j dPr).1 ∧ (A.getD j dPr).1 / 2 < (n : Int)) ∧ 0 ≤ (A.getD j dPr).2 ∧ (A.getD j dPr).2 / 2 < (n : Int)) := ⟨⟨hpb.1.1, by have := hpb.1.2; omega⟩, hpb.2.1, by have := hpb.2.2; omega⟩
      have HSS : Hid (runS (1 + I.length) A (runOn (1 + I.length) A t (ns.take k)) (m : Int) = (runOn (1 + I.length) A t (ns.take k)).set m (edgeV (runOn (1 + I.length) A t (ns.take k)) (A.getD j dPr).1 && edgeV (runOn (1 + I.length) A t (ns.take k)) (A.getD j dPr).2)) := by
        show _ = _
        unfold runS
        rw [show (m : Int).toNat = m from rfl, hmj]
      clear xi xa xn hy hjA hpb habl hb1 hmj hmn hnn
      generalize A.getD j dPr = q at *
      obtain ⟨q1, q2⟩ := q
      simp only at hq0 hq1
      go_upto_region 6 with fail
      clear hlt hx1 p0 p1 hq0 hq1 hj0 hj1
      have hba := below_alloc1 wr (.cells #[.int .i64 q1, .int .i64 q2] 115)
      have hbd : (wr.alloc (.cells #[.int .i64 q1, .int .i64 q2] 115)).drew.heap[wr.heap.size]? = some (.cells #[.int .i64 q1, .int .i64 q2] 115 (0, 0)) := World.alloc_heap_new _ _
      have hBW : Below wr.heap.size wr (wr.alloc (.cells #[.int .i64 q1, .int .i64 q2] 115)).drew := hba.drew
      have hOX := HO.out.below hBW (Nat.le_refl _)
      have HBD := Lib.hid hbd
      have HOX := Lib.hid hOX
      have HKX := Lib.hid (HKP.out.trans (kept_below (S := fun j => j = b) hBW))
      have HNB : Hid (b ≠ wr.heap.size) := by have := HO.out.lt.2; show _ ≠ _; omega
      refine wp_region_held_drew (S := fun Z : World => Z.heap[wr.heap.size]? = some (.cells #[.int .i64 q1, .int .i64 q2] 115 (0, 0)) ∧ True) (by kernel_rfl) ⟨hbd, trivial⟩ (fun hSd => ?_)
      clear hba hbd hBW
      generalize (wr.alloc (.cells #[.int .i64 q1, .int .i64 q2] 115)).drew = X at *
      obtain ⟨z0, m0, _, _⟩ := hOX.at.2 m (by omega)
      have m1 := hOX.frozen m
      clear hOX
      have HV1 := Lib.hid (word_any q1 HOX.out HPB.out.1.1 HPB.out.1.2 hn2)
      have HV2 := Lib.hid (word_any q2 HOX.out HPB.out.2.1 HPB.out.2.2 hn2)
      refine takeC (i := 0) (v := .slice (some ⟨b, 0, none⟩) n n) (some 27) rfl rfl (by kernel_rfl) (by kernel_rfl) (by kernel_rfl) (fun _ _ _ h => h) (Or.inl ⟨by rfl, ?_⟩) (by assumption) ?_
      · intro wz hSw; go_simp
      try simp only [Act.put, List.setIfInBounds_toArray, List.set_cons_zero, List.set_cons_succ]
      refine takeC (i := 1) (v := .int .i64 (m : Int)) (some 28) rfl rfl (by kernel_rfl) (by kernel_rfl) (by kernel_rfl) (fun _ _ _ h => h) (Or.inl ⟨by rfl, ?_⟩) (by assumption) ?_
      · intro wz hSw; go_simp
      try simp only [Act.put, List.setIfInBounds_toArray, List.set_cons_zero, List.set_cons_succ]
      refine takeC (i := 2) (v := .slice (some ⟨b, 0, none⟩) n n) (some 29) rfl rfl (by kernel_rfl) (by kernel_rfl) (by kernel_rfl) (fun _ _ _ h => h) (Or.inl ⟨by rfl, ?_⟩) (by assumption) ?_
      · intro wz hSw; go_simp
      try simp only [Act.put, List.setIfInBounds_toArray, List.set_cons_zero, List.set_cons_succ]
      refine takeC (i := 3) (v := .pointer (some ⟨wr.heap.size, 0, none⟩)) (some 30) rfl rfl (by kernel_rfl) (by kernel_rfl) (by kernel_rfl) (fun _ _ _ h => h) (Or.inl ⟨by rfl, ?_⟩) (by assumption) ?_
      · intro wz hSw; go_simp
      try simp only [Act.put, List.setIfInBounds_toArray, List.set_cons_zero, List.set_cons_succ]
      refine takeC (i := 4) (v := .int .i64 q1) (some 31) rfl rfl (by kernel_rfl) (by kernel_rfl) (by kernel_rfl) (fun _ _ _ h => h) (Or.inl ⟨by rfl, ?_⟩) (by assumption) ?_
      · intro wz hSw; obtain ⟨t0, t1, _, _⟩ := box2_cells hSw.1; go_simp
      try simp only [Act.put, List.setIfInBounds_toArray, List.set_cons_zero, List.set_cons_succ]
      refine takeC (i := 6) (v := .slice (some ⟨b, 0, none⟩) n n) (some 33) rfl rfl (by kernel_rfl) (by kernel_rfl) (by kernel_rfl) (fun _ _ _ h => h) (Or.inl ⟨by rfl, ?_⟩) (by assumption) ?_
      · intro wz hSw; go_simp
      try simp only [Act.put, List.setIfInBounds_toArray, List.set_cons_zero, List.set_cons_succ]
      refine takeC (i := 7) (v := .pointer (some ⟨wr.heap.size, 1, none⟩)) (some 34) rfl rfl (by kernel_rfl) (by kernel_rfl) (by kernel_rfl) (fun _ _ _ h => h) (Or.inl ⟨by rfl, ?_⟩) (by assumption) ?_
      · intro wz hSw; go_simp
      try simp only [Act.put, List.setIfInBounds_toArray, List.set_cons_zero, List.set_cons_succ]
      refine takeC (i := 8) (v := .int .i64 q2) (some 35) rfl rfl (by kernel_rfl) (by kernel_rfl) (by kernel_rfl) (fun _ _ _ h => h) (Or.inl ⟨by rfl, ?_⟩) (by assumption) ?_
      · intro wz hSw; obtain ⟨t0, t1, _, _⟩ := box2_cells hSw.1; go_simp
      try simp only [Act.put, List.setIfInBounds_toArray, List.set_cons_zero, List.set_cons_succ]
      refine wpAnyH_ready (rs := [5]) (by kernel_rfl) (by simp) ?_
      refine AllReadyH.cons rfl (fun K hK => ?_) AllReadyH.nil
      go_simp
      go_wp2_with (go_at_call 79; refine HV1.out.mono ?_; rintro er w9 ⟨z1, rfl, hz1, hz2, rfl⟩)
      refine hK.out _ _ ⟨HBD.out, trivial⟩ (fun hHn => ?_)
      clear hK K hHn
      try simp only [Act.put, List.setIfInBounds_toArray, List.set_cons_zero, List.set_cons_succ]
      refine wpAnyH_ready (rs := [9]) (by kernel_rfl) (by simp) ?_
      refine AllReadyH.cons rfl (fun K hK => ?_) AllReadyH.nil
      go_simp
      go_wp2_with (go_at_call 79; refine HV2.out.mono ?_; rintro er w9 ⟨z2, rfl, hy1, hy2, rfl⟩)
      refine hK.out _ _ ⟨HBD.out, trivial⟩ (fun hHn => ?_)
      clear hK K hHn
      try simp only [Act.put, List.setIfInBounds_toArray, List.set_cons_zero, List.set_cons_succ]
      have HZA := Lib.hid (and_par hz1 hy1)
      have HZP : Hid (bits .and .u64 z1 z2 % 2 = 1 ↔ (edgeV (runOn (1 + I.length) A t (ns.take k)) q1 && edgeV (runOn (1 + I.length) A t (ns.take k)) q2) = true) := by
        show _ ↔ _
        rw [HZA.out.2, hz2, hy2, Bool.and_eq_true]
      clear hz1 hz2 hy1 hy2 HV1 HV2
      refine takeC (i := 10) (v := .int .u64 (bits .and .u64 z1 z2)) (some 37) rfl rfl (by kernel_rfl) (by kernel_rfl) (by kernel_rfl) (fun _ _ _ h => h) (Or.inl ⟨by rfl, ?_⟩) (by assumption) ?_
      · intro wz hSw; go_simp
      try simp only [Act.put, List.setIfInBounds_toArray, List.set_cons_zero, List.set_cons_succ]
      refine takeC (i := 11) (v := .pointer (some ⟨b, m, none⟩)) (some 38) rfl rfl (by kernel_rfl) (by kernel_rfl) (by kernel_rfl) (fun _ _ _ h => h) (Or.inl ⟨by rfl, ?_⟩) (by assumption) ?_
      · intro wz hSw; go_simp
      try simp only [Act.put, List.setIfInBounds_toArray, List.set_cons_zero, List.set_cons_succ]
      have HM9 := Lib.hid (HOX.out.store m HZA.out.1 HZP.out)
      have HK9 := Lib.hid (HKX.out.trans (Kept.setCell X ⟨b, m, none⟩ (.int .u64 (bits .and .u64 z1 z2))))
      have HB9 : Hid ((X.setCell ⟨b, m, none⟩ (.int .u64 (bits .and .u64 z1 z2))).heap[wr.heap.size]? = some (.cells #[.int .i64 q1, .int .i64 q2] 115 (0, 0))) := (heap_set_other m _ HNB.out.symm).trans HBD.out
      refine wpAnyH_ready (rs := [12]) (by kernel_rfl) (by simp) ?_
      refine AllReadyH.cons rfl (fun K hK => ?_) AllReadyH.nil
      go_simp
      refine hK.out _ _ ⟨HB9.out, trivial⟩ (fun hH9 => ?_)
      clear hK K
      try simp only [Act.put, List.setIfInBounds_toArray, List.set_cons_zero, List.set_cons_succ]
      refine wpAnyH_done (by kernel_rfl) ?_ _
      go_wp2
      go_roundw
      case rel => exact ⟨k + 1, HKL.out, by go_num, by rw [HST.out, HSS.out]; exact HM9.out, HK9.out⟩
      case measure => have := HKL.out; simp [intOf]; omega
    · obtain rfl : k = ns.length := by omega
      rw [List.take_length] at HO
      go_wp2
      go_end0
      exact ⟨rfl, HO.out, HK0.out.trans HKP.out⟩
def evalC (I : List Int) (A : List Pr) (e : Int) (a : List Int) : Bool × Int := if hasA I A [e] = true ∧ mayB a = true then (evalA I A e a, 0) else (false, 2)
theorem inOn_take {I : List Int} {n : Nat} {a : List Int} {k : Nat} (h : k < a.length) : inOn I n (a.take (k + 1)) = inS I (inOn I n (a.take k)) (a.getD k 0) := by
  rw [List.take_succ_eq_append_getElem h, inOn_snoc]; simp [List.getD, h]

set_option maxRecDepth 100000 in
set_option maxHeartbeats 6400000 in
theorem geval_any (vi va vl : Value) (I : List Int) (A : List Pr) (x : Int) (a : List Int) (w : World) (HI : IsInts w vi I) (HA : IsPairs w va A) (HL : IsInts w vl a) (h1 : I.length ≤ 4000000) (h2 : A.length ≤ 4000000) (h3 : -9223372036854775808 ≤ x) (h4 : x ≤ 9223372036854775807) :
    Calls Tryz.prog 27 #[.agg #[vi, va], .int .i64 x, vl] w fun r w' => r = .returned (.tuple #[.bool (evalC I A x a).1, .int .i64 (evalC I A x a).2]) ∧ Below w.heap.size w w' := by
  have hb0 := below_alloc1 w (.cells #[vi, va] 25)
  have hsz : (w.alloc (.cells #[vi, va] 25)).heap.size = w.heap.size + 1 := by simp
  have hbx := boxA_new w vi va
  have HI1 := Lib.hid (HI.below hb0 (Nat.le_refl _))
  have HA1 := Lib.hid (HA.below hb0 (Nat.le_refl _))
  have HL1 := Lib.hid (HL.below hb0 (Nat.le_refl _))
  obtain ⟨ia, ic, rfl⟩ := HI.shape
  obtain ⟨aa, ac, rfl, _⟩ := HA.shape
  obtain ⟨la, lc, rfl⟩ := HL.shape
  have hal := HL.bd
  clear HI HA HL
  go_enter Tryz.func27, Tryz.ntmps27
  go_upto_region 1 with fail
  generalize World.alloc w _ = W at *
  have HB0 := Lib.hid hb0
  have HBX := Lib.hid hbx
  have HSZ := Lib.hid hsz
  obtain ⟨p0, p1⟩ := hbx
  clear hb0 hsz
  have hba := below_alloc1 W (.cells #[.int .i64 x] 3)
  have HBA := Lib.hid hba
  have HH := Lib.hid (ghas_any _ _ _ I A [x] (W.alloc (.cells #[.int .i64 x] 3)) (HI1.out.below hba (Nat.le_refl _)) (HA1.out.below hba (Nat.le_refl _)) (one_int W x h3 h4) h1 h2)
  have HNO : Hid (∀ X, Below W.heap.size W X → Calls Tryz.prog 76 #[.slice la a.length lc] X fun e w' => e = .returned (.bool (mayB a)) ∧ X = w') := fun X hX => anormal_any _ a X (HL1.out.below hX (Nat.le_refl _))
  clear hba
  by_cases hh : hasA I A [x] = true
  · by_cases hm : mayB a = true
    · have HE : Hid (evalC I A x a = (evalA I A x a, 0)) := by show _ = _; unfold evalC; rw [if_pos ⟨hh, hm⟩]
      obtain ⟨hmay, hok, hed⟩ := hasA_parts hh
      have hroom := (mayA_parts hmay).1
      have hsrt := (insB_lt (mayA_parts hmay).2.1).2
      have hxe := edgesB_true.1 hed x (by simp)
      rw [hh] at HH
      rw [hm] at HNO
      clear hh hm
      have HRV := Lib.hid (runOn_val (a := a) hsrt hok hed)
      have HR : Hid (∀ X, Below W.heap.size W X → Calls Tryz.prog 63 #[.agg #[.slice ia I.length ic, .slice aa A.length ac], .slice (some ⟨X.heap.size, 0, none⟩) 1 1] (X.alloc (.cells #[.int .i64 x] 3)) fun r w' => ∃ u v, r = .returned (.tuple #[u, v]) ∧ Own w' (X.alloc (.cells #[.int .i64 x] 3)).heap.size u (onN (reachA (1 + I.length) A [x]) 1 I.length) ∧ Own w' (X.alloc (.cells #[.int .i64 x] 3)).heap.size v (onN (reachA (1 + I.length) A [x]) (1 + I.length) A.length) ∧ Below (X.alloc (.cells #[.int .i64 x] 3)).heap.size (X.alloc (.cells #[.int .i64 x] 3)) w') := fun X hX =>
        reached_any _ _ _ I A [x] (X.alloc (.cells #[.int .i64 x] 3)) (HI1.out.below (hX.alloc hX.size _) (Nat.le_refl _)) (HA1.out.below (hX.alloc hX.size _) (Nat.le_refl _)) (one_int X x h3 h4) h1 h2 hok hed
      obtain ⟨n, hn⟩ : ∃ n, 1 + I.length + A.length = n := ⟨_, rfl⟩
      have HN : Hid (∀ X, Below W.heap.size W X → Calls Tryz.prog 66 #[.agg #[.slice ia I.length ic, .slice aa A.length ac]] X fun r w' => r = .returned (.int .i64 (n : Int)) ∧ Below X.heap.size X w') := fun X hX => by
        have h := nodes_any _ _ I A X (HI1.out.below hX (Nat.le_refl _)) (HA1.out.below hX (Nat.le_refl _)) h1 h2
        rw [hn] at h
        exact h
      have HNS : Hid (∀ y ∈ onN (reachA (1 + I.length) A [x]) (1 + I.length) A.length, ((1 + I.length : Nat) : Int) ≤ y ∧ y < ((1 + I.length + A.length : Nat) : Int)) := fun y hy => by
        obtain ⟨i, rfl, g1, g2, _⟩ := onN_mem.1 hy
        omega
      have HNL : Hid ((onN (reachA (1 + I.length) A [x]) (1 + I.length) A.length).length ≤ 4000000) := Nat.le_trans (onN_len _ _ _) h2
      have HOK := Lib.hid hok
      have HXE := Lib.hid hxe
      have HNN : Hid (1 + I.length + A.length = n) := hn
      have HN2 : Hid (n ≤ 200000) := by show _ ≤ _; omega
      rw [hn] at HRV
      have HPL : Hid (∀ X y, Below W.heap.size W X → Calls Tryz.prog 77 #[.slice ia I.length ic, .int .i64 y] X fun e w' => e = .returned (.int .i64 (placeA I y)) ∧ Quiet X w') := fun X y hX => place_any _ I y X (HI1.out.below hX (Nat.le_refl _)) hsrt h1
      have HIN : Hid (∀ k, k < a.length → inOn I n (a.take (k + 1)) = inS I (inOn I n (a.take k)) (a.getD k 0)) := fun k hk => inOn_take hk
      have HPB : Hid (∀ y, 0 ≤ placeA I y ∧ placeA I y < (n : Int)) := fun y => by have := placeA_bd I y; omega
      have HIS : Hid (∀ t y, inS I t y = if 0 < placeA I y then t.set (placeA I y).toNat true else t) := fun t y => rfl
      have HZE : Hid (inOn I n (a.take 0) = List.replicate n false) := rfl
      have HTL : Hid (inOn I n (a.take a.length) = inOn I n a) := by show _ = _; rw [List.take_length]
      generalize onN (reachA (1 + I.length) A [x]) 1 I.length = ins at *
      generalize onN (reachA (1 + I.length) A [x]) (1 + I.length) A.length = ands at *
      have HN64 : Hid (In64 ands) := fun y hy => by have := HNS.out y hy; have := HNN.out; have := HN2.out; omega
      clear hmay hok hed hroom hsrt hxe hn
      go_upto_region 3 with (first
        | (go_at_call 76; refine (HNO.out w1 HB1.out).mono ?_; rintro e w2 ⟨rfl, rfl⟩)
        | (go_at_call 62; refine HH.out.mono ?_; rintro e w1 ⟨rfl, hb1⟩; have HB1 := Lib.hid (HBA.out.trans (hb1.mono HBA.out.size)); clear hb1 p0 p1; obtain ⟨p0, p1⟩ := HBX.out.below HB1.out (by rw [HSZ.out]; omega)))
      clear HH HNO HBA
      go_upto_region 4 with (first
        | (at_make; refine wpList_mkWords rfl _ _ rfl n n n rfl rfl rfl rfl (by have := HN2.out; omega) ?_; intro w3 hown hg; have HO := Lib.hid hown; have HB3 := Lib.hid ((Below.refl w2.heap.size w2).grown hg (Nat.le_refl _) (fun k hk => by cases hk)); clear hown hg)
        | (go_at_call 66; refine (HN.out w1 HB1.out).mono ?_; rintro e w2 ⟨rfl, hb2⟩; have HB2 := Lib.hid (HB1.out.trans (hb2.mono HB1.out.size)); clear hb2))
      clear HN p0 p1
      have hlt0 : W.heap.size ≤ w2.heap.size := HB2.out.size
      have HW3 : Hid (WordsAt w3 w2.heap.size w2.heap.size n (List.replicate n false)) := ⟨_, HO.out, Par.zero n⟩
      have HB4 := Lib.hid (HB2.out.trans (HB3.out.mono HB2.out.size))
      generalize w2.heap.size = bi at *
      have HLT := Lib.hid hlt0
      clear HO HB3 HB2 HB1 hlt0
      go_wp2
      go_loopw [29] (fun i wr => ∃ k : Nat, k ≤ a.length ∧ i = .int .i64 k ∧ WordsAt wr bi bi n (inOn I n (a.take k)) ∧ Kept (fun j => j = bi) w3 wr) (fun i _ => a.length - (intOf i).toNat)
      case atStart => exact ⟨0, Nat.zero_le _, rfl, by rw [HZE.out]; exact HW3.out, Kept.refl _ _⟩
      case round =>
        obtain ⟨k, hk, rfl, ho, hkp⟩ := hrel
        have HO := Lib.hid ho
        have HKP := Lib.hid hkp
        have hbr : Below W.heap.size W wr := HB4.out.trans (hkp.below HB4.out.size (fun i hi e => by have := HLT.out; omega))
        have HBR := Lib.hid hbr
        obtain ⟨p0, p1⟩ := HBX.out.below hbr (by rw [HSZ.out]; omega)
        clear ho hkp hbr
        by_cases hlt : k < a.length
        · have HKL := Lib.hid hlt
          obtain ⟨b1, off1, rfl, hb1, hx1⟩ := (HL1.out.below HBR.out (Nat.le_refl _)).cellY hlt
          have hk64 : (a.length : Int) ≤ 17592186044416 := by omega
          have HSK := Lib.hid (HIN.out k hlt)
          rw [HIS.out] at HSK
          have HPY := Lib.hid (HPB.out (a.getD k 0))
          have HPC := Lib.hid (HPL.out wr (a.getD k 0) HBR.out)
          clear hb1
          generalize a.getD k 0 = y at *
          generalize placeA I y = p at *
          go_upto_region 8 with (go_at_call 77; refine HPC.out.mono ?_; rintro e w4 ⟨rfl, hq⟩; have HQ := Lib.hid hq; clear hq)
          clear hlt hx1 p0 p1
          have hw4 := HO.out.below (HQ.out.below wr.heap.size) (Nat.le_refl _)
          have HK4 := Lib.hid (HKP.out.trans (kept_below (S := fun j => j = bi) (HQ.out.below _)))
          by_cases hp : 0 < p
          · rw [if_pos hp] at HSK
            obtain ⟨m, rfl⟩ := Int.eq_ofNat_of_zero_le HPY.out.1
            have hmn : m < n := by have := HPY.out.2; omega
            have hm0 : (0 : Int) ≤ (m : Int) := by omega
            have hm1 : (m : Int) < (n : Int) := by omega
            obtain ⟨z0, m0, _, _⟩ := hw4.at.2 m hmn
            have m1 := hw4.frozen m
            have HM9 := Lib.hid (hw4.store m (y := 1) (c := true) (by unfold W64; omega) (by simp))
            have HK9 := Lib.hid (HK4.out.trans (Kept.setCell w4 ⟨bi, m, none⟩ (.int .u64 1)))
            have hp : 0 < m := by omega
            clear hw4 hmn
            go_wp2
            go_roundw
            case rel => exact ⟨k + 1, HKL.out, by go_num, by rw [HSK.out]; exact HM9.out, HK9.out⟩
            case measure => have := HKL.out; simp [intOf]; omega
          · rw [if_neg hp] at HSK
            have d3 : decide ((0 : Int) < p) = false := decide_eq_false hp
            have HM9 := Lib.hid hw4
            clear hw4 hp
            go_wp2
            go_roundw
            case rel => exact ⟨k + 1, HKL.out, by go_num, by rw [HSK.out]; exact HM9.out, HK4.out⟩
            case measure => have := HKL.out; simp [intOf]; omega
        · obtain rfl : k = a.length := by omega
          rw [HTL.out] at HO
          have hba := below_alloc1 wr (.cells #[.int .i64 x] 3)
          have HBA := Lib.hid hba
          clear hba hk
          go_upto_region 12 with (go_at_call 63; refine (HR.out wr HBR.out).mono ?_; rintro e w5 ⟨u, v, rfl, hu, hv, hb5⟩; have HB5 := Lib.hid (HBA.out.trans (hb5.mono HBA.out.size)); have HV5 := Lib.hid hv; obtain ⟨ua, uc, rfl⟩ := own_shC hu; obtain ⟨na, nc, rfl⟩ := own_shC hv; clear hu hv hb5 p0 p1)
          have HB6 := Lib.hid (HBR.out.trans (HB5.out.mono HBR.out.size))
          have hlt5 := HO.out.lt.2
          have HW5 := Lib.hid (HO.out.below HB5.out (Nat.le_refl _))
          have HRUN : Hid (Calls Tryz.prog 78 #[.agg #[.slice ia I.length ic, .slice aa A.length ac], .slice na ands.length nc, .slice (some ⟨bi, 0, none⟩) n n] w5 fun r w' => r = .returned (.tuple #[]) ∧ WordsAt w' bi bi n (runOn (1 + I.length) A (inOn I n a) ands) ∧ Kept (fun j => j = bi) w5 w') := by
            refine grun_any _ _ _ I A ands n bi bi (inOn I n a) w5 (fun X hX => ?_) HW5.out HNN.out (by have := HN2.out; omega) HOK.out HNS.out
            have hX0 : Below W.heap.size W X := HB6.out.trans (hX.below HB6.out.size (fun i hi e => by have := HLT.out; omega))
            refine ⟨HI1.out.below hX0 (Nat.le_refl _), HA1.out.below hX0 (Nat.le_refl _), ?_⟩
            have hvX : Own X _ (.slice na ands.length nc) ands := hX.row HV5.out (fun g hg e => by
              have h7 := (HV5.out.lt g hg).1
              simp at h7
              omega)
            exact hvX.ints (by have := HNL.out; omega) HN64.out
          obtain ⟨p0, p1⟩ := HBX.out.below HB6.out (by rw [HSZ.out]; omega)
          go_upto_region 13 with (go_at_call 78; refine HRUN.out.mono ?_; rintro e w6 ⟨rfl, hw6, hk6⟩; have HW6 := Lib.hid hw6; have HK6 := Lib.hid hk6; clear hw6 hk6 p0 p1)
          have HWD := Lib.hid (word_any x HW6.out HXE.out.1 (by have h := HXE.out.2; have h8 := HNN.out; omega) (by have := HN2.out; omega))
          have HFIN : Hid (Below w.heap.size w w6) := HB0.out.trans ((HB6.out.trans (HK6.out.below HB6.out.size (fun i hi e => by have := HLT.out; omega))).mono HB0.out.size)
          clear HRUN HR HPL hlt5
          go_upto_region 14 with (go_at_call 79; refine HWD.out.mono ?_; rintro e w7 ⟨z, rfl, hz1, hz2, rfl⟩; have HZ1 := Lib.hid hz1; have HZ2 := Lib.hid hz2; have hz0 := hz1.1; clear hz1 hz2)
          go_wp2
          go_ret2
          have hzz : (z % 2 == 1) = evalA I A x a := by rw [Bool.eq_iff_iff, beq_iff_eq, HZ2.out, HRV.out]
          exact ⟨by rw [HE.out, ← hzz]; rfl, HFIN.out⟩
    · have HE : Hid (evalC I A x a = (false, 2)) := by show _ = _; unfold evalC; rw [if_neg (fun h => hm h.2)]
      rw [hh] at HH
      rw [show mayB a = false by simpa using hm] at HNO
      clear hm hh
      go_wp2_with (first
        | (go_at_call 76; refine (HNO.out w1 HB1.out).mono ?_; rintro e w2 ⟨rfl, rfl⟩)
        | (go_at_call 62; refine HH.out.mono ?_; rintro e w1 ⟨rfl, hb1⟩; have HB1 := Lib.hid (HBA.out.trans (hb1.mono HBA.out.size)); clear hb1))
      go_ret2
      exact ⟨by rw [HE.out]; rfl, HB0.out.trans (HB1.out.mono HB0.out.size)⟩
  · have HE : Hid (evalC I A x a = (false, 2)) := by show _ = _; unfold evalC; rw [if_neg (fun h => hh h.1)]
    rw [show hasA I A [x] = false by simpa using hh] at HH
    clear hh
    go_wp2_with (go_at_call 62; refine HH.out.mono ?_; rintro e w1 ⟨rfl, hb1⟩; have HB1 := Lib.hid (HBA.out.trans (hb1.mono HBA.out.size)); clear hb1)
    go_ret2
    exact ⟨by rw [HE.out]; rfl, HB0.out.trans (HB1.out.mono HB0.out.size)⟩
end Go.Proofs.YtppglbffmgnooaaGreat
