/- aig.word and aig.run, with all the bits of words. -/
import Derived.Test.YtfghjfljomcldaaGreatAgBits
import Derived.Test.YtfghjfljomcldaaGreatAgEval
namespace Go.Proofs.YtfghjfljomcldaaGreat
open Go.RowKit Go.Maps Go.Shelf
set_option linter.unusedVariables false
set_option linter.unusedSimpArgs false

set_option maxRecDepth 100000 in
theorem wordA_any {w : World} {B b n : Nat} {T : Nat → List Bool} (e : Int) (HW : WordsA w B b n T) (h0 : 0 ≤ e) (h1 : e / 2 < (n : Int)) (hn : n ≤ 8000001) :
    Calls Tryz.prog 79 #[.slice (some ⟨b, 0, none⟩) n n, .int .i64 e] w fun r w' => ∃ z, r = .returned (.int .u64 z) ∧ W64 z ∧ (∀ c, c < 64 → bitI z c = edgeV (T c) e) ∧ w = w' := by
  obtain ⟨q, hq⟩ : ∃ q : Nat, e / 2 = (q : Int) := ⟨(e / 2).toNat, by omega⟩
  have hqn : q < n := by omega
  obtain ⟨x, hc, hx, hp⟩ := HW.at q hqn
  have hq0 : (0 : Int) ≤ (q : Int) := by omega
  have hq1 : (q : Int) < (n : Int) := by omega
  have HE : Hid (∀ c, edgeV (T c) e = ((T c).getD q false != decide (e % 2 = 1))) := fun c => by unfold edgeV; rw [hq]; rfl
  have HX := Lib.hid hx
  have HP := Lib.hid hp
  have HN := Lib.hid (not_bit hx)
  clear hx hp HW hqn h1
  by_cases hm : e % 2 = 1
  · have HZ : Hid (∀ c, c < 64 → bitI (bits .xor .u64 18446744073709551615 x) c = edgeV (T c) e) := fun c hc => by
      rw [HN.out.2 c hc, HP.out c hc, HE.out, decide_eq_true hm]
      cases (T c).getD q false <;> simp
    clear HE HP
    go_enter Tryz.func79, Tryz.ntmps79
    go_wp2
    go_ret
    exact ⟨_, rfl, HN.out.1, HZ.out, rfl⟩
  · have hm0 : e % 2 = 0 := by omega
    have HZ : Hid (∀ c, c < 64 → bitI x c = edgeV (T c) e) := fun c hc => by
      rw [HP.out c hc, HE.out, decide_eq_false hm]
      cases (T c).getD q false <;> simp
    clear HE HP hm
    go_enter Tryz.func79, Tryz.ntmps79
    go_wp2
    go_ret
    exact ⟨_, rfl, HX.out, HZ.out, rfl⟩
set_option maxRecDepth 100000 in
set_option maxHeartbeats 3200000 in
theorem grunA_any (vi va vn : Value) (I : List Int) (A : List Pr) (ns : List Int) (n B b : Nat) (T : Nat → List Bool) (w : World) (HK : ∀ X, Kept (fun j => j = b) w X → IsInts X vi I ∧ IsPairs X va A ∧ IsInts X vn ns) (HW : WordsA w B b n T)
    (hn : 1 + I.length + A.length = n) (hn2 : n ≤ 8000001) (hok : okUpto (1 + I.length) A A.length = true) (hns : ∀ x ∈ ns, ((1 + I.length : Nat) : Int) ≤ x ∧ x < ((1 + I.length + A.length : Nat) : Int)) :
    Calls Tryz.prog 78 #[.agg #[vi, va], vn, .slice (some ⟨b, 0, none⟩) n n] w fun r w' => r = .returned (.tuple #[]) ∧ WordsA w' B b n (fun c => runOn (1 + I.length) A (T c) ns) ∧ Kept (fun j => j = b) w w' := by
  obtain ⟨HI, HA, HN⟩ := HK w (Kept.refl _ _)
  have hb0 := below_alloc1 w (.cells #[vi, va] 25)
  have hsz : (w.alloc (.cells #[vi, va] 25)).heap.size = w.heap.size + 1 := by simp
  have hbx := boxA_new w vi va
  have hlt := HW.lt.2
  have hW1 := HW.below hb0 (Nat.le_refl _)
  have hk0 : Kept (fun j => j = b) w (w.alloc (.cells #[vi, va] 25)) := Kept.alloc _ _ _
  obtain ⟨ia, ic, rfl⟩ := HI.shape
  obtain ⟨aa, ac, rfl, _⟩ := HA.shape
  obtain ⟨na, nc, rfl⟩ := HN.shape
  have hkn := hn
  have HHK := Lib.hid HK
  clear HI HA HN HK HW
  go_enter Tryz.func78, Tryz.ntmps78
  go_upto_region 1 with fail
  have HKW : Hid (∀ X, Kept (fun j => j = b) (w.alloc (.cells #[.slice ia I.length ic, .slice aa A.length ac] 25)) X → IsInts X (.slice ia I.length ic) I ∧ IsPairs X (.slice aa A.length ac) A ∧ IsInts X (.slice na ns.length nc) ns) := fun X hX => HHK.out X (hk0.trans hX)
  have HK0 := Lib.hid hk0
  clear HHK hk0 hb0
  generalize World.alloc w _ = W at *
  have HBX := Lib.hid hbx
  have HSZ := Lib.hid hsz
  have HLT := Lib.hid hlt
  have HW1 := Lib.hid hW1
  obtain ⟨p0, p1⟩ := hbx
  clear hsz hlt hW1
  have HNS := Lib.hid hns
  have HOK := Lib.hid hok
  have HNN := Lib.hid hn
  have hIl : I.length ≤ 8000001 := by omega
  clear hns hok hn hkn
  go_upto_region 2 with fail
  clear p0 p1
  go_wp2
  go_loopw [16] (fun i wr => ∃ k : Nat, k ≤ ns.length ∧ i = .int .i64 k ∧ WordsA wr B b n (fun c => runOn (1 + I.length) A (T c) (ns.take k)) ∧ Kept (fun j => j = b) W wr) (fun i _ => ns.length - (intOf i).toNat)
  case atStart => exact ⟨0, Nat.zero_le _, rfl, HW1.out, Kept.refl _ _⟩
  case round =>
    obtain ⟨k, hk, rfl, ho, hkp⟩ := hrel
    have HO := Lib.hid ho
    have HKP := Lib.hid hkp
    clear ho hkp
    by_cases hlt : k < ns.length
    · have HKL := Lib.hid hlt
      obtain ⟨xi, xa, xn⟩ := HKW.out wr HKP.out
      obtain ⟨b1, off1, rfl, hb1, hx1⟩ := xn.cellY hlt
      have hy := HNS.out _ (ints_getD_mem hlt)
      have HST := Lib.hid (fun c => runOn_take (k := 1 + I.length) (A := A) (t := T c) hlt)
      have hk64 : (ns.length : Int) ≤ 17592186044416 := by have := xn.bd; omega
      generalize ns.getD k 0 = y at *
      obtain ⟨m, rfl⟩ := Int.eq_ofNat_of_zero_le (show 0 ≤ y by omega)
      obtain ⟨j, hj⟩ : ∃ j : Nat, (m : Int) - (1 + (I.length : Int)) = (j : Int) := ⟨m - (1 + I.length), by omega⟩
      have hjA : j < A.length := by omega
      have hnn := HNN.out
      have hmn : m < n := by omega
      obtain ⟨ab, aoff, rfl, habl, hq0, hq1⟩ := xa.at hjA
      have hpb := okPair_bd HOK.out hjA
      have hj0 : (0 : Int) ≤ (j : Int) := by omega
      have hj1 : (j : Int) < (A.length : Int) := by omega
      have hm0 : (0 : Int) ≤ (m : Int) := by omega
      have hm1 : (m : Int) < (n : Int) := by omega
      have hmj : m - (1 + I.length) = j := by omega
      have HMJ := Lib.hid hmj
      obtain ⟨p0, p1⟩ : BoxA wr w.heap.size (.slice ia I.length ic) (.slice (some ⟨ab, aoff, none⟩) A.length ac) := ⟨(HKP.out.cell (p := ⟨w.heap.size, 0, none⟩) (by show w.heap.size < _; rw [HSZ.out]; omega) (by show ¬ w.heap.size = b; have := HLT.out; omega)).trans HBX.out.1, (HKP.out.cell (p := ⟨w.heap.size, 1, none⟩) (by show w.heap.size < _; rw [HSZ.out]; omega) (by show ¬ w.heap.size = b; have := HLT.out; omega)).trans HBX.out.2⟩
      have HPB : Hid ((0 ≤ (A.getD j dPr).1 ∧ (A.getD j dPr).1 / 2 < (n : Int)) ∧ 0 ≤ (A.getD j dPr).2 ∧ (A.getD j dPr).2 / 2 < (n : Int)) := ⟨⟨hpb.1.1, by have := hpb.1.2; omega⟩, hpb.2.1, by have := hpb.2.2; omega⟩
      have HSS : Hid (∀ c, runS (1 + I.length) A (runOn (1 + I.length) A (T c) (ns.take k)) (m : Int) = (runOn (1 + I.length) A (T c) (ns.take k)).set m (edgeV (runOn (1 + I.length) A (T c) (ns.take k)) (A.getD j dPr).1 && edgeV (runOn (1 + I.length) A (T c) (ns.take k)) (A.getD j dPr).2)) := fun c => by
        unfold runS
        rw [show (m : Int).toNat = m from rfl, hmj]
      clear xi xa xn hy hjA hpb habl hb1 hmj hmn hnn
      generalize A.getD j dPr = q at *
      obtain ⟨q1, q2⟩ := q
      simp only at hq0 hq1
      go_upto_region 6 with fail
      clear hlt hx1 p0 p1 hq0 hq1 hj0 hj1
      have hba := below_alloc1 wr (.cells #[.int .i64 q1, .int .i64 q2] 115)
      have hbd : (wr.alloc (.cells #[.int .i64 q1, .int .i64 q2] 115)).drew.heap[wr.heap.size]? = some (.cells #[.int .i64 q1, .int .i64 q2] 115 (0, 0)) := World.alloc_heap_new _ _
      have hBW : Below wr.heap.size wr (wr.alloc (.cells #[.int .i64 q1, .int .i64 q2] 115)).drew := hba.drew
      have hOX := HO.out.below hBW (Nat.le_refl _)
      have HBD := Lib.hid hbd
      have HOX := Lib.hid hOX
      have HKX := Lib.hid (HKP.out.trans (kept_below (S := fun j => j = b) hBW))
      have HNB : Hid (b ≠ wr.heap.size) := by have := HO.out.lt.2; show _ ≠ _; omega
      refine wp_region_held_drew (S := fun Z : World => Z.heap[wr.heap.size]? = some (.cells #[.int .i64 q1, .int .i64 q2] 115 (0, 0)) ∧ True) (by kernel_rfl) ⟨hbd, trivial⟩ (fun hSd => ?_)
      clear hba hbd hBW
      generalize (wr.alloc (.cells #[.int .i64 q1, .int .i64 q2] 115)).drew = X at *
      obtain ⟨z0, m0, _, _⟩ := hOX.at m (by omega)
      have m1 := hOX.frozen m
      clear hOX
      have HV1 := Lib.hid (wordA_any q1 HOX.out HPB.out.1.1 HPB.out.1.2 hn2)
      have HV2 := Lib.hid (wordA_any q2 HOX.out HPB.out.2.1 HPB.out.2.2 hn2)
      refine takeC (i := 0) (v := .slice (some ⟨b, 0, none⟩) n n) (some 27) rfl rfl (by kernel_rfl) (by kernel_rfl) (by kernel_rfl) (fun _ _ _ h => h) (Or.inl ⟨by rfl, ?_⟩) (by assumption) ?_
      · intro wz hSw; go_simp
      try simp only [Act.put, List.setIfInBounds_toArray, List.set_cons_zero, List.set_cons_succ]
      refine takeC (i := 1) (v := .int .i64 (m : Int)) (some 28) rfl rfl (by kernel_rfl) (by kernel_rfl) (by kernel_rfl) (fun _ _ _ h => h) (Or.inl ⟨by rfl, ?_⟩) (by assumption) ?_
      · intro wz hSw; go_simp
      try simp only [Act.put, List.setIfInBounds_toArray, List.set_cons_zero, List.set_cons_succ]
      refine takeC (i := 2) (v := .slice (some ⟨b, 0, none⟩) n n) (some 29) rfl rfl (by kernel_rfl) (by kernel_rfl) (by kernel_rfl) (fun _ _ _ h => h) (Or.inl ⟨by rfl, ?_⟩) (by assumption) ?_
      · intro wz hSw; go_simp
      try simp only [Act.put, List.setIfInBounds_toArray, List.set_cons_zero, List.set_cons_succ]
      refine takeC (i := 3) (v := .pointer (some ⟨wr.heap.size, 0, none⟩)) (some 30) rfl rfl (by kernel_rfl) (by kernel_rfl) (by kernel_rfl) (fun _ _ _ h => h) (Or.inl ⟨by rfl, ?_⟩) (by assumption) ?_
      · intro wz hSw; go_simp
      try simp only [Act.put, List.setIfInBounds_toArray, List.set_cons_zero, List.set_cons_succ]
      refine takeC (i := 4) (v := .int .i64 q1) (some 31) rfl rfl (by kernel_rfl) (by kernel_rfl) (by kernel_rfl) (fun _ _ _ h => h) (Or.inl ⟨by rfl, ?_⟩) (by assumption) ?_
      · intro wz hSw; obtain ⟨t0, t1, _, _⟩ := box2_cells hSw.1; go_simp
      try simp only [Act.put, List.setIfInBounds_toArray, List.set_cons_zero, List.set_cons_succ]
      refine takeC (i := 6) (v := .slice (some ⟨b, 0, none⟩) n n) (some 33) rfl rfl (by kernel_rfl) (by kernel_rfl) (by kernel_rfl) (fun _ _ _ h => h) (Or.inl ⟨by rfl, ?_⟩) (by assumption) ?_
      · intro wz hSw; go_simp
      try simp only [Act.put, List.setIfInBounds_toArray, List.set_cons_zero, List.set_cons_succ]
      refine takeC (i := 7) (v := .pointer (some ⟨wr.heap.size, 1, none⟩)) (some 34) rfl rfl (by kernel_rfl) (by kernel_rfl) (by kernel_rfl) (fun _ _ _ h => h) (Or.inl ⟨by rfl, ?_⟩) (by assumption) ?_
      · intro wz hSw; go_simp
      try simp only [Act.put, List.setIfInBounds_toArray, List.set_cons_zero, List.set_cons_succ]
      refine takeC (i := 8) (v := .int .i64 q2) (some 35) rfl rfl (by kernel_rfl) (by kernel_rfl) (by kernel_rfl) (fun _ _ _ h => h) (Or.inl ⟨by rfl, ?_⟩) (by assumption) ?_
      · intro wz hSw; obtain ⟨t0, t1, _, _⟩ := box2_cells hSw.1; go_simp
      try simp only [Act.put, List.setIfInBounds_toArray, List.set_cons_zero, List.set_cons_succ]
      refine wpAnyH_ready (rs := [5]) (by kernel_rfl) (by simp) ?_
      refine AllReadyH.cons rfl (fun K hK => ?_) AllReadyH.nil
      go_simp
      go_wp2_with (go_at_call 79; refine HV1.out.mono ?_; rintro er w9 ⟨z1, rfl, hz1, hz2, rfl⟩)
      refine hK.out _ _ ⟨HBD.out, trivial⟩ (fun hHn => ?_)
      clear hK K hHn
      try simp only [Act.put, List.setIfInBounds_toArray, List.set_cons_zero, List.set_cons_succ]
      refine wpAnyH_ready (rs := [9]) (by kernel_rfl) (by simp) ?_
      refine AllReadyH.cons rfl (fun K hK => ?_) AllReadyH.nil
      go_simp
      go_wp2_with (go_at_call 79; refine HV2.out.mono ?_; rintro er w9 ⟨z2, rfl, hy1, hy2, rfl⟩)
      refine hK.out _ _ ⟨HBD.out, trivial⟩ (fun hHn => ?_)
      clear hK K hHn
      try simp only [Act.put, List.setIfInBounds_toArray, List.set_cons_zero, List.set_cons_succ]
      have HZA := Lib.hid (and_bit hz1 hy1)
      have HZP : Hid (∀ c, c < 64 → bitI (bits .and .u64 z1 z2) c = (edgeV (runOn (1 + I.length) A (T c) (ns.take k)) q1 && edgeV (runOn (1 + I.length) A (T c) (ns.take k)) q2)) := fun c hc => by rw [HZA.out.2, hz2 c hc, hy2 c hc]
      clear hz1 hz2 hy1 hy2 HV1 HV2
      refine takeC (i := 10) (v := .int .u64 (bits .and .u64 z1 z2)) (some 37) rfl rfl (by kernel_rfl) (by kernel_rfl) (by kernel_rfl) (fun _ _ _ h => h) (Or.inl ⟨by rfl, ?_⟩) (by assumption) ?_
      · intro wz hSw; go_simp
      try simp only [Act.put, List.setIfInBounds_toArray, List.set_cons_zero, List.set_cons_succ]
      refine takeC (i := 11) (v := .pointer (some ⟨b, m, none⟩)) (some 38) rfl rfl (by kernel_rfl) (by kernel_rfl) (by kernel_rfl) (fun _ _ _ h => h) (Or.inl ⟨by rfl, ?_⟩) (by assumption) ?_
      · intro wz hSw; go_simp
      try simp only [Act.put, List.setIfInBounds_toArray, List.set_cons_zero, List.set_cons_succ]
      have HM9 := Lib.hid (HOX.out.store m HZA.out.1 HZP.out)
      have HK9 := Lib.hid (HKX.out.trans (Kept.setCell X ⟨b, m, none⟩ (.int .u64 (bits .and .u64 z1 z2))))
      have HB9 : Hid ((X.setCell ⟨b, m, none⟩ (.int .u64 (bits .and .u64 z1 z2))).heap[wr.heap.size]? = some (.cells #[.int .i64 q1, .int .i64 q2] 115 (0, 0))) := (heap_set_other m _ HNB.out.symm).trans HBD.out
      refine wpAnyH_ready (rs := [12]) (by kernel_rfl) (by simp) ?_
      refine AllReadyH.cons rfl (fun K hK => ?_) AllReadyH.nil
      go_simp
      refine hK.out _ _ ⟨HB9.out, trivial⟩ (fun hH9 => ?_)
      clear hK K
      try simp only [Act.put, List.setIfInBounds_toArray, List.set_cons_zero, List.set_cons_succ]
      refine wpAnyH_done (by kernel_rfl) ?_ _
      go_wp2
      go_roundw
      case rel => exact ⟨k + 1, HKL.out, by go_num, HM9.out.congr (fun c _ => by rw [HST.out c, HSS.out c]), HK9.out⟩
      case measure => have := HKL.out; simp [intOf]; omega
    · obtain rfl : k = ns.length := by omega
      rw [List.take_length] at HO
      go_wp2
      go_end0
      exact ⟨rfl, HO.out, HK0.out.trans HKP.out⟩
end Go.Proofs.YtfghjfljomcldaaGreat
