/- Joined texts: AgBools, AgDifs. -/
import Derived.Test.YtfghjfljomcldaaGreatAgREv
import Derived.Test.YtfghjfljomcldaaGreatK02
/- The law's bools. -/
namespace Go.Proofs.YtfghjfljomcldaaGreat
open Go.RowKit Go.Maps Go.Shelf
set_option linter.unusedVariables false
set_option linter.unusedSimpArgs false

theorem ownB_at {w : World} {B : Nat} {v : Value} {t : List Bool} (h : OwnB w B v t) : ∃ a c, v = .slice a t.length c ∧ ∀ k, k < t.length → ∃ g, a = some ⟨g, 0, none⟩ ∧ g < w.heap.size ∧ w.cell? ⟨g, k, none⟩ = some (.bool (t.getD k false)) := by
  have h0 := h
  rcases h.2 with ⟨rfl, h2⟩ | ⟨g, cap, cur, rfl, hB, hg, _⟩
  · exact ⟨none, 0, by rw [h2], fun k hk => by omega⟩
  · exact ⟨_, _, rfl, fun k hk => ⟨g, rfl, (Array.getElem?_eq_some_iff.1 hg).1, OwnB.cell h0 k hk⟩⟩
set_option maxRecDepth 100000 in
set_option maxHeartbeats 1600000 in
theorem bools6_any (va vb : Value) (t : List Bool) (B C : Nat) (w : World) (HA : OwnB w B va t) (HB : OwnB w C vb t) (hl : t.length ≤ 4000000) :
    Calls Tryz.prog 31 #[va, vb] w fun r w' => r = .returned (.bool true) ∧ Below w.heap.size w w' := by
  obtain ⟨aa, ac, rfl, hca⟩ := ownB_at HA
  obtain ⟨ba, bc, rfl, hcb⟩ := ownB_at HB
  have HCA := Lib.hid hca
  have HCB := Lib.hid hcb
  clear HA HB hca hcb
  go_enter Tryz.func31, Tryz.ntmps31
  go_wp2
  go_loopw [13] (fun i wr => ∃ k : Nat, k ≤ t.length ∧ i = .int .i64 k ∧ Below w.heap.size w wr) (fun i _ => t.length - (intOf i).toNat)
  case atStart => exact ⟨0, Nat.zero_le _, rfl, Below.refl _ _⟩
  case round =>
    obtain ⟨k, hk, rfl, hb⟩ := hrel
    have HB := Lib.hid hb
    clear hb
    by_cases hlt : k < t.length
    · obtain ⟨g1, rfl, hg1, hc1⟩ := HCA.out k hlt
      obtain ⟨g2, rfl, hg2, hc2⟩ := HCB.out k hlt
      have HKL := Lib.hid hlt
      have hk0 : (0 : Int) ≤ (k : Int) := by omega
      have hk1 : (k : Int) < (t.length : Int) := by omega
      have hk2 : (k : Int) < 4000001 := by omega
      have HSB : Hid (∀ Z, Below w.heap.size w Z → Z.cell? ⟨g1, k, none⟩ = some (.bool (t.getD k false)) ∧ Z.cell? ⟨g2, k, none⟩ = some (.bool (t.getD k false))) := fun Z hZ => ⟨(hZ.cell (p := ⟨g1, k, none⟩) hg1).trans hc1, (hZ.cell (p := ⟨g2, k, none⟩) hg2).trans hc2⟩
      clear hlt hg1 hc1 hg2 hc2
      go_upto_region 6 with fail
      have HBD := Lib.hid (HB.out.drew)
      cases hx : t.getD k false with
      | true =>
        rw [hx] at HSB
        clear hx
        refine wp_region_held_drew (S := fun Z : World => Z.cell? ⟨g1, k, none⟩ = some (.bool true) ∧ Z.cell? ⟨g2, k, none⟩ = some (.bool true)) (by kernel_rfl) (HSB.out _ HBD.out) (fun hSd => ?_)
        generalize wr.drew = X at *
        refine takeC (i := 0) (v := .slice (some ⟨g1, 0, none⟩) t.length ac) (some 16) rfl rfl (by kernel_rfl) (by kernel_rfl) (by kernel_rfl) (fun _ _ _ h => h) (Or.inl ⟨by rfl, ?_⟩) (by assumption) ?_
        · intro wz hSw; go_simp
        try simp only [Act.put, List.setIfInBounds_toArray, List.set_cons_zero, List.set_cons_succ]
        refine takeC (i := 1) (v := .int .i64 (k : Int)) (some 17) rfl rfl (by kernel_rfl) (by kernel_rfl) (by kernel_rfl) (fun _ _ _ h => h) (Or.inl ⟨by rfl, ?_⟩) (by assumption) ?_
        · intro wz hSw; go_simp
        try simp only [Act.put, List.setIfInBounds_toArray, List.set_cons_zero, List.set_cons_succ]
        refine takeC (i := 2) (v := .pointer (some ⟨g1, k, none⟩)) (some 18) rfl rfl (by kernel_rfl) (by kernel_rfl) (by kernel_rfl) (fun _ _ _ h => h) (Or.inl ⟨by rfl, ?_⟩) (by assumption) ?_
        · intro wz hSw; go_simp
        try simp only [Act.put, List.setIfInBounds_toArray, List.set_cons_zero, List.set_cons_succ]
        refine takeC (i := 3) (v := .bool true) (some 19) rfl rfl (by kernel_rfl) (by kernel_rfl) (by kernel_rfl) (fun _ _ _ h => h) (Or.inl ⟨by rfl, ?_⟩) (by assumption) ?_
        · intro wz hSw; obtain ⟨t0, t1⟩ := hSw; go_simp
        try simp only [Act.put, List.setIfInBounds_toArray, List.set_cons_zero, List.set_cons_succ]
        refine takeC (i := 4) (v := .slice (some ⟨g2, 0, none⟩) t.length bc) (some 20) rfl rfl (by kernel_rfl) (by kernel_rfl) (by kernel_rfl) (fun _ _ _ h => h) (Or.inl ⟨by rfl, ?_⟩) (by assumption) ?_
        · intro wz hSw; go_simp
        try simp only [Act.put, List.setIfInBounds_toArray, List.set_cons_zero, List.set_cons_succ]
        refine takeC (i := 5) (v := .int .i64 (k : Int)) (some 21) rfl rfl (by kernel_rfl) (by kernel_rfl) (by kernel_rfl) (fun _ _ _ h => h) (Or.inl ⟨by rfl, ?_⟩) (by assumption) ?_
        · intro wz hSw; go_simp
        try simp only [Act.put, List.setIfInBounds_toArray, List.set_cons_zero, List.set_cons_succ]
        refine takeC (i := 6) (v := .pointer (some ⟨g2, k, none⟩)) (some 22) rfl rfl (by kernel_rfl) (by kernel_rfl) (by kernel_rfl) (fun _ _ _ h => h) (Or.inl ⟨by rfl, ?_⟩) (by assumption) ?_
        · intro wz hSw; go_simp
        try simp only [Act.put, List.setIfInBounds_toArray, List.set_cons_zero, List.set_cons_succ]
        refine takeC (i := 7) (v := .bool true) (some 23) rfl rfl (by kernel_rfl) (by kernel_rfl) (by kernel_rfl) (fun _ _ _ h => h) (Or.inl ⟨by rfl, ?_⟩) (by assumption) ?_
        · intro wz hSw; obtain ⟨t0, t1⟩ := hSw; go_simp
        try simp only [Act.put, List.setIfInBounds_toArray, List.set_cons_zero, List.set_cons_succ]
        refine takeC (i := 8) (v := .bool false) (some 24) rfl rfl (by kernel_rfl) (by kernel_rfl) (by kernel_rfl) (fun _ _ _ h => h) (Or.inl ⟨by rfl, ?_⟩) (by assumption) ?_
        · intro wz hSw; go_simp
        try simp only [Act.put, List.setIfInBounds_toArray, List.set_cons_zero, List.set_cons_succ]
        refine wpAnyH_done (by kernel_rfl) ?_ _
        go_wp2
        go_roundw
        case rel => exact ⟨k + 1, HKL.out, by go_num, HBD.out⟩
        case measure => have := HKL.out; simp [intOf]; omega
      | false =>
        rw [hx] at HSB
        clear hx
        refine wp_region_held_drew (S := fun Z : World => Z.cell? ⟨g1, k, none⟩ = some (.bool false) ∧ Z.cell? ⟨g2, k, none⟩ = some (.bool false)) (by kernel_rfl) (HSB.out _ HBD.out) (fun hSd => ?_)
        generalize wr.drew = X at *
        refine takeC (i := 0) (v := .slice (some ⟨g1, 0, none⟩) t.length ac) (some 16) rfl rfl (by kernel_rfl) (by kernel_rfl) (by kernel_rfl) (fun _ _ _ h => h) (Or.inl ⟨by rfl, ?_⟩) (by assumption) ?_
        · intro wz hSw; go_simp
        try simp only [Act.put, List.setIfInBounds_toArray, List.set_cons_zero, List.set_cons_succ]
        refine takeC (i := 1) (v := .int .i64 (k : Int)) (some 17) rfl rfl (by kernel_rfl) (by kernel_rfl) (by kernel_rfl) (fun _ _ _ h => h) (Or.inl ⟨by rfl, ?_⟩) (by assumption) ?_
        · intro wz hSw; go_simp
        try simp only [Act.put, List.setIfInBounds_toArray, List.set_cons_zero, List.set_cons_succ]
        refine takeC (i := 2) (v := .pointer (some ⟨g1, k, none⟩)) (some 18) rfl rfl (by kernel_rfl) (by kernel_rfl) (by kernel_rfl) (fun _ _ _ h => h) (Or.inl ⟨by rfl, ?_⟩) (by assumption) ?_
        · intro wz hSw; go_simp
        try simp only [Act.put, List.setIfInBounds_toArray, List.set_cons_zero, List.set_cons_succ]
        refine takeC (i := 3) (v := .bool false) (some 19) rfl rfl (by kernel_rfl) (by kernel_rfl) (by kernel_rfl) (fun _ _ _ h => h) (Or.inl ⟨by rfl, ?_⟩) (by assumption) ?_
        · intro wz hSw; obtain ⟨t0, t1⟩ := hSw; go_simp
        try simp only [Act.put, List.setIfInBounds_toArray, List.set_cons_zero, List.set_cons_succ]
        refine takeC (i := 4) (v := .slice (some ⟨g2, 0, none⟩) t.length bc) (some 20) rfl rfl (by kernel_rfl) (by kernel_rfl) (by kernel_rfl) (fun _ _ _ h => h) (Or.inl ⟨by rfl, ?_⟩) (by assumption) ?_
        · intro wz hSw; go_simp
        try simp only [Act.put, List.setIfInBounds_toArray, List.set_cons_zero, List.set_cons_succ]
        refine takeC (i := 5) (v := .int .i64 (k : Int)) (some 21) rfl rfl (by kernel_rfl) (by kernel_rfl) (by kernel_rfl) (fun _ _ _ h => h) (Or.inl ⟨by rfl, ?_⟩) (by assumption) ?_
        · intro wz hSw; go_simp
        try simp only [Act.put, List.setIfInBounds_toArray, List.set_cons_zero, List.set_cons_succ]
        refine takeC (i := 6) (v := .pointer (some ⟨g2, k, none⟩)) (some 22) rfl rfl (by kernel_rfl) (by kernel_rfl) (by kernel_rfl) (fun _ _ _ h => h) (Or.inl ⟨by rfl, ?_⟩) (by assumption) ?_
        · intro wz hSw; go_simp
        try simp only [Act.put, List.setIfInBounds_toArray, List.set_cons_zero, List.set_cons_succ]
        refine takeC (i := 7) (v := .bool false) (some 23) rfl rfl (by kernel_rfl) (by kernel_rfl) (by kernel_rfl) (fun _ _ _ h => h) (Or.inl ⟨by rfl, ?_⟩) (by assumption) ?_
        · intro wz hSw; obtain ⟨t0, t1⟩ := hSw; go_simp
        try simp only [Act.put, List.setIfInBounds_toArray, List.set_cons_zero, List.set_cons_succ]
        refine takeC (i := 8) (v := .bool false) (some 24) rfl rfl (by kernel_rfl) (by kernel_rfl) (by kernel_rfl) (fun _ _ _ h => h) (Or.inl ⟨by rfl, ?_⟩) (by assumption) ?_
        · intro wz hSw; go_simp
        try simp only [Act.put, List.setIfInBounds_toArray, List.set_cons_zero, List.set_cons_succ]
        refine wpAnyH_done (by kernel_rfl) ?_ _
        go_wp2
        go_roundw
        case rel => exact ⟨k + 1, HKL.out, by go_num, HBD.out⟩
        case measure => have := HKL.out; simp [intOf]; omega
    · obtain rfl : k = t.length := by omega
      go_wp2
      go_ret
      exact ⟨rfl, HB.out⟩
end Go.Proofs.YtfghjfljomcldaaGreat

/- Lists of different variables: the program's and the reference's. -/
namespace Go.Proofs.YtfghjfljomcldaaGreat
open Go.RowKit Go.Maps Go.Shelf
set_option linter.unusedVariables false
set_option linter.unusedSimpArgs false

def diffB (l : List Int) : Bool := decide (l.Nodup ∧ ∀ v ∈ l, 1 ≤ v ∧ v ≤ 65536)
def DifK (l : List Int) (k : Nat) : Prop := (l.take k).Nodup ∧ ∀ v ∈ l.take k, 1 ≤ v ∧ v ≤ 65536
theorem difK_zero (l : List Int) : DifK l 0 := ⟨by simp, by simp⟩
theorem difK_bad {l : List Int} {k : Nat} (h : k < l.length) (hv : ¬ (1 ≤ l.getD k 0 ∧ l.getD k 0 ≤ 65536)) : diffB l = false := by
  unfold diffB
  rw [decide_eq_false_iff_not]
  exact fun hd => hv (hd.2 _ (ints_getD_mem h))
theorem difK_dup {l : List Int} {k : Nat} (h : k < l.length) (hm : l.getD k 0 ∈ l.take k) : diffB l = false := by
  unfold diffB
  rw [decide_eq_false_iff_not]
  intro hd
  obtain ⟨j, hj, e⟩ := List.getElem_of_mem hm
  rw [List.length_take] at hj
  have hj2 : j < l.length := by omega
  have hn := List.nodup_iff_pairwise_ne.1 hd.1
  have := List.pairwise_iff_getElem.1 hn j k hj2 h (by omega)
  apply this
  rw [List.getElem_take] at e
  rw [e]
  simp [List.getD, h]
theorem difK_next {l : List Int} {k : Nat} (h : k < l.length) (hk : DifK l k) (hv : 1 ≤ l.getD k 0 ∧ l.getD k 0 ≤ 65536) (hm : l.getD k 0 ∉ l.take k) : DifK l (k + 1) := by
  unfold DifK
  rw [ints_take_succ h]
  refine ⟨?_, fun v hx => ?_⟩
  · rw [List.nodup_append]
    exact ⟨hk.1, by simp, fun z hz y hy e => by rw [List.mem_singleton] at hy; rw [hy] at e; rw [e] at hz; exact hm hz⟩
  · rcases List.mem_append.1 hx with hx | hx
    · exact hk.2 v hx
    · rw [List.mem_singleton] at hx
      subst hx
      exact hv
theorem difK_all {l : List Int} (h : DifK l l.length) : diffB l = true := by
  unfold DifK at h
  rw [List.take_length] at h
  exact decide_eq_true h

set_option maxRecDepth 100000 in
set_option maxHeartbeats 3200000 in
theorem rdifferent_any (v : Value) (l : List Int) (w : World) (H : IsInts w v l) :
    Calls Tryz.prog 85 #[v] w fun e w' => e = .returned (.bool (diffB l)) ∧ Below w.heap.size w w' := by
  have HH := Lib.hid H
  have hnm := nM_eq
  have HNM := Lib.hid hnm
  obtain ⟨a, cap, rfl⟩ := H.shape
  have hll := H.len
  clear H hnm
  go_enter Tryz.func85, Tryz.ntmps85
  go_wp2_with (refine wpList_mkBools2 rfl _ _ rfl nM 65537 65537 rfl rfl (by rw [HNM.out]; rfl) (by rw [HNM.out]; rfl) (by rw [HNM.out]; decide) ?_; intro w1 hown hg; have HO := Lib.hid hown; have HB1 := Lib.hid ((Below.refl w.heap.size w).grown hg (Nat.le_refl _) (fun k hk => by cases hk)); clear hown hg)
  have HM0 : Hid (Mk w1 w.heap.size w.heap.size (fun x => decide (x ∈ l.take 0))) := ⟨_, HO.out, by rw [List.length_replicate], fun i hi => by simp [List.getD, List.getElem?_replicate, hi]⟩
  clear HO
  go_loopw [4] (fun i wr => ∃ k : Nat, k ≤ l.length ∧ i = .int .i64 k ∧ Hid (DifK l k) ∧ Mk wr w.heap.size w.heap.size (fun x => decide (x ∈ l.take k)) ∧ Below w.heap.size w wr) (fun i _ => l.length - (intOf i).toNat)
  case atStart => exact ⟨0, Nat.zero_le _, rfl, difK_zero l, HM0.out, HB1.out⟩
  case round =>
    obtain ⟨k, hk, rfl, HD, hmk, hbel⟩ := hrel
    have HM := Lib.hid hmk
    have HB := Lib.hid hbel
    clear hmk hbel
    by_cases hlt : k < l.length
    · obtain ⟨b, off, rfl, hb, hc0⟩ := HH.out.cellY hlt
      have hc := (HB.out.cell (p := ⟨b, off + k, none⟩) hb).trans hc0
      have HTK : Hid (l.take (k + 1) = l.take k ++ [l.getD k 0]) := ints_take_succ hlt
      have HKL := Lib.hid hlt
      have HBAD := Lib.hid (fun h => difK_bad (l := l) hlt h)
      have HDUP := Lib.hid (fun h => difK_dup (l := l) hlt h)
      have HNX := Lib.hid (fun h1 h2 => difK_next (l := l) hlt HD.out h1 h2)
      clear hc0 hlt
      generalize l.getD k 0 = x at *
      by_cases h1 : x < 1
      · have HR := Lib.hid (HBAD.out (by omega))
        clear HBAD HDUP HNX HTK
        have d1 : decide (x < 1) = true := decide_eq_true h1
        go_wp2
        go_ret
        exact ⟨ret_bool HR.out.symm, HB.out⟩
      · have d1 : decide (x < 1) = false := decide_eq_false h1
        by_cases h2 : 65536 < x
        · have HR := Lib.hid (HBAD.out (by omega))
          clear HBAD HDUP HNX HTK
          have d2 : decide ((65536 : Int) < x) = true := decide_eq_true h2
          go_wp2
          go_ret
          exact ⟨ret_bool HR.out.symm, HB.out⟩
        · have d2 : decide ((65536 : Int) < x) = false := decide_eq_false h2
          obtain ⟨n, rfl⟩ := Int.eq_ofNat_of_zero_le (show 0 ≤ x by omega)
          have hn : n < nM := by rw [HNM.out]; omega
          have hn0 : (0 : Int) ≤ (n : Int) := by omega
          have hn1 : (n : Int) < (nM : Int) := by omega
          have hn2 : 1 ≤ (n : Int) := by omega
          have hn3 : (n : Int) ≤ 65536 := by omega
          have m0 := HM.out.cell hn
          have m1 := HM.out.frozen n
          by_cases hm : (n : Int) ∈ l.take k
          · have HR := Lib.hid (HDUP.out hm)
            rw [decide_eq_true hm] at m0
            clear HBAD HDUP HNX HTK hm h1 h2 m1
            go_wp2
            go_ret
            exact ⟨ret_bool HR.out.symm, HB.out⟩
          · have HN2 := Lib.hid (HNX.out ⟨hn2, hn3⟩ hm)
            rw [decide_eq_false hm] at m0
            have HM2 := Lib.hid (HM.out.set n hn true)
            have HB2 := Lib.hid (HB.out.setCell (p := ⟨w.heap.size, n, none⟩) (u := .bool true) (Nat.le_refl _))
            clear HBAD HDUP HNX hm h1 h2
            go_wp2
            go_roundw
            case rel => exact ⟨k + 1, HKL.out, by go_num, HN2.out, HM2.out.congr (fun i hi1 hi2 => by
              rw [HTK.out]
              unfold updB
              by_cases e : i = (n : Int)
              · subst e; simp
              · rw [if_neg e]; simp [e]), HB2.out⟩
            case measure => have := HKL.out; simp [intOf]; omega
    · have hke : k = l.length := by omega
      have HR : Hid (diffB l = true) := difK_all (by rw [← hke]; exact HD.out)
      go_wp2
      go_ret
      exact ⟨ret_bool HR.out.symm, HB.out⟩

set_option maxRecDepth 100000 in
set_option maxHeartbeats 3200000 in
theorem gdifferent_any (v : Value) (l : List Int) (w : World) (H : IsInts w v l) (hl0 : l.length ≤ 4000000) :
    Calls Tryz.prog 83 #[v] w fun e w' => e = .returned (.bool (diffB l)) ∧ Below w.heap.size w w' := by
  have HH := Lib.hid H
  have HL64 := Lib.hid H.in64
  obtain ⟨a, cap, rfl⟩ := H.shape
  have hll := H.len
  clear H
  have hmm := @run_makeMap Tryz.prog
  go_enter Tryz.func83, Tryz.ntmps83
  have hb0 := below_alloc1 w (.map #[] 0)
  have HS0 := Lib.hid (SetI.made w)
  go_upto_region 2 with fail
  generalize w.alloc (.map #[] 0) = W at *
  have HB0 := Lib.hid hb0
  clear hb0 hmm
  go_wp2
  go_loopw [9] (fun i wr => ∃ k : Nat, k ≤ l.length ∧ i = .int .i64 k ∧ Hid (DifK l k) ∧ SetI wr w.heap.size (l.take k) ∧ Below w.heap.size w wr) (fun i _ => l.length - (intOf i).toNat)
  case atStart => exact ⟨0, Nat.zero_le _, rfl, difK_zero l, HS0.out, HB0.out⟩
  case round =>
    obtain ⟨k, hk, rfl, HD, hs, hbel⟩ := hrel
    have HS := Lib.hid hs
    have HB := Lib.hid hbel
    clear hs hbel
    by_cases hlt : k < l.length
    · obtain ⟨b, off, rfl, hb, hc0⟩ := HH.out.cellY hlt
      have hc := (HB.out.cell (p := ⟨b, off + k, none⟩) hb).trans hc0
      have HTK : Hid (l.take (k + 1) = l.take k ++ [l.getD k 0]) := ints_take_succ hlt
      have HKL := Lib.hid hlt
      have HBAD := Lib.hid (fun h => difK_bad (l := l) hlt h)
      have HDUP := Lib.hid (fun h => difK_dup (l := l) hlt h)
      have HNX := Lib.hid (fun h1 h2 => difK_next (l := l) hlt HD.out h1 h2)
      have HTL : Hid ((l.take k).length < maxLen) := by show _ < _; rw [List.length_take]; unfold maxLen; omega
      clear hc0 hlt
      generalize l.getD k 0 = x at *
      by_cases h1 : x < 1
      · have HR := Lib.hid (HBAD.out (by omega))
        clear HBAD HDUP HNX HTK
        have d1 : decide (x < 1) = true := decide_eq_true h1
        go_wp2
        go_ret
        exact ⟨ret_bool HR.out.symm, HB.out⟩
      · have d1 : decide (x < 1) = false := decide_eq_false h1
        by_cases h2 : 65536 < x
        · have HR := Lib.hid (HBAD.out (by omega))
          clear HBAD HDUP HNX HTK
          have d2 : decide ((65536 : Int) < x) = true := decide_eq_true h2
          go_wp2
          go_ret
          exact ⟨ret_bool HR.out.symm, HB.out⟩
        · have d2 : decide ((65536 : Int) < x) = false := decide_eq_false h2
          have hx1 : 1 ≤ x := by omega
          have hx2 : x ≤ 65536 := by omega
          have hw : (Lit.int .i64 x).wf = true := i64w (by omega) (by omega)
          have HW := Lib.hid hw
          have hlk := HS.out.look (show (zeroValue 4).run Tryz.prog wr = .ok (.bool false) wr from rfl) x hw
          clear hw
          by_cases hm : x ∈ l.take k
          · have HR := Lib.hid (HDUP.out hm)
            rw [decide_eq_true hm] at hlk
            clear HBAD HDUP HNX HTK hm h1 h2
            go_wp2
            go_ret
            exact ⟨ret_bool HR.out.symm, HB.out⟩
          · have HN2 := Lib.hid (HNX.out ⟨hx1, hx2⟩ hm)
            have HNM := Lib.hid hm
            rw [decide_eq_false hm] at hlk
            clear HBAD HDUP HNX hm h1 h2
            go_wp2_with (at_mapUpdate; refine wpList_putS rfl _ _ _ rfl rfl HS.out HTL.out x rfl rfl HW.out HNM.out ?_; intro w3 hs3 hk3; have HS3 := Lib.hid hs3; have HK3 := Lib.hid hk3; clear hs3 hk3)
            go_roundw
            case rel => exact ⟨k + 1, HKL.out, by go_num, HN2.out, by rw [HTK.out]; exact HS3.out, HB.out.trans (HK3.out.below HB.out.size (fun i hi e => by omega))⟩
            case measure => have := HKL.out; simp [intOf]; omega
    · have hke : k = l.length := by omega
      have HR : Hid (diffB l = true) := difK_all (by rw [← hke]; exact HD.out)
      go_wp2
      go_ret
      exact ⟨ret_bool HR.out.symm, HB.out⟩
end Go.Proofs.YtfghjfljomcldaaGreat
