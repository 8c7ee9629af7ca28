/- The reference's Restrict. -/
import Derived.Test.YtfghjfljomcldaaGreatAgRCone
import Derived.Test.YtfghjfljomcldaaGreatAgR5N
namespace Go.Proofs.YtfghjfljomcldaaGreat
open Go.RowKit Go.Maps Go.Shelf
set_option linter.unusedVariables false
set_option linter.unusedSimpArgs false

theorem box3_set0 {W : World} {g : Nat} {a b c : Value} {T : TypeId} (hh : W.heap[g]? = some (.cells #[a, b, c] T (0, 0))) (u : Value) : (W.setCell ⟨g, 0, none⟩ u).heap[g]? = some (.cells #[u, b, c] T (0, 0)) := by
  have h := heap_set_same hh 0 u
  simpa using h
theorem keepL_take {a I : List Int} {k : Nat} (h : k < I.length) : keepL a (I.take (k + 1)) = keepL a (I.take k) ++ (if (!decide (I.getD k 0 ∈ a) && !decide (-(I.getD k 0) ∈ a)) = true then [I.getD k 0] else []) := by
  unfold keepL
  rw [ints_take_succ h, List.filter_append]
  congr 1
  rw [List.filter_cons, List.filter_nil]
theorem keepL_len (a I : List Int) : (keepL a I).length ≤ I.length := List.length_filter_le _ _
theorem keepL_mem {a I : List Int} {v : Int} (h : v ∈ keepL a I) : v ∈ I := (List.mem_filter.1 h).1
theorem imgL_isE {a I : List Int} {v : Int} (h : v ∈ I) : isE (imgL a I v) (1 + (keepL a I).length + ([] : List Pr).length) = true := by
  unfold imgL
  split
  · rw [isE_true]; omega
  · split
    · rw [isE_true]; omega
    · rename_i h1 h2
      exact edgeI_isE (List.mem_filter.2 ⟨h, by simp [h1, h2]⟩)
theorem imgL_bd {a I : List Int} {v : Int} (h : I.length ≤ 200000) : -1 ≤ imgL a I v ∧ imgL a I v ≤ 400000 := by
  unfold imgL
  split
  · omega
  · split
    · omega
    · exact edgeI_bd _ _ (Nat.le_trans (keepL_len a I) h)

set_option maxRecDepth 100000 in
set_option maxHeartbeats 12800000 in
theorem rrestrict_any (vi va vl vx : Value) (I : List Int) (A : List Pr) (l a : List Int) (w : World) (HI : IsInts w vi I) (HA : IsPairs w va A) (HL : IsInts w vl l) (HX : IsInts w vx a) (h1 : I.length ≤ 4000000) (h2 : A.length ≤ 4000000) :
    Calls Tryz.prog 35 #[.agg #[vi, va], vl, vx] w (RGPost w (restR I A l a)) := by
  have hb1 := below_alloc1 w (.cells #[vi, va] 25)
  have hb2 := below_alloc1 (w.alloc (.cells #[vi, va] 25)) (.cells #[.slice none 0 0, .slice none 0 0] 25)
  have hb0 : Below w.heap.size w ((w.alloc (.cells #[vi, va] 25)).alloc (.cells #[.slice none 0 0, .slice none 0 0] 25)) := hb1.trans (hb2.mono hb1.size)
  have hsz : ((w.alloc (.cells #[vi, va] 25)).alloc (.cells #[.slice none 0 0, .slice none 0 0] 25)).heap.size = w.heap.size + 2 := by simp
  have hgx : ((w.alloc (.cells #[vi, va] 25)).alloc (.cells #[.slice none 0 0, .slice none 0 0] 25)).heap[w.heap.size]? = some (.cells #[vi, va] 25 (0, 0)) := (hb2.block _ (by simp)).trans (World.alloc_heap_new _ _)
  have hrx : ((w.alloc (.cells #[vi, va] 25)).alloc (.cells #[.slice none 0 0, .slice none 0 0] 25)).heap[w.heap.size + 1]? = some (.cells #[.slice none 0 0, .slice none 0 0] 25 (0, 0)) := by
    have h := World.alloc_heap_new (w.alloc (.cells #[vi, va] 25)) (.cells #[.slice none 0 0, .slice none 0 0] 25)
    simpa using h
  have HI1 := Lib.hid (HI.below hb0 (Nat.le_refl _))
  have HA1 := Lib.hid (HA.below hb0 (Nat.le_refl _))
  have HL1 := Lib.hid (HL.below hb0 (Nat.le_refl _))
  have HX1 := Lib.hid (HX.below hb0 (Nat.le_refl _))
  obtain ⟨ia, ic, rfl⟩ := HI.shape
  obtain ⟨aa, ac, rfl, _⟩ := HA.shape
  obtain ⟨la, lc, rfl⟩ := HL.shape
  obtain ⟨xa, xc, rfl⟩ := HX.shape
  have HLL := Lib.hid HL.bd
  clear HI HA HL HX hb1 hb2
  go_enter Tryz.func35, Tryz.ntmps35
  go_upto_region 1 with fail
  generalize World.alloc (World.alloc w _) _ = W at *
  have HB0 := Lib.hid hb0
  have HSZ := Lib.hid hsz
  have HGX := Lib.hid hgx
  have HRX := Lib.hid hrx
  obtain ⟨p0, p1, _, _⟩ := box2_cells hgx
  have HH := Lib.hid (rhasall_any _ _ _ I A l W HI1.out HA1.out HL1.out h1 h2)
  have HNO : Hid (∀ X, Below W.heap.size W X → Calls Tryz.prog 46 #[.slice xa a.length xc] X fun e w' => e = .returned (.bool (mayB a)) ∧ Quiet X w') := fun X hX => rnormal5_any _ a X (HX1.out.below hX (Nat.le_refl _))
  have HBAD : Hid (∀ X, Below W.heap.size W X → restR I A l a = (([], []), [], 2) → (X.cell? ⟨w.heap.size + 1, 0, none⟩ = some (.slice none 0 0) ∧ X.cell? ⟨w.heap.size + 1, 1, none⟩ = some (.slice none 0 0) ∧ X.frozen? ⟨w.heap.size + 1, 0, none⟩ = false ∧ X.frozen? ⟨w.heap.size + 1, 1, none⟩ = false) ∧
      (((X.setCell ⟨w.heap.size + 1, 0, none⟩ (.slice none 0 0)).setCell ⟨w.heap.size + 1, 1, none⟩ (.slice none 0 0)).cell? ⟨w.heap.size + 1, 0, none⟩ = some (.slice none 0 0) ∧ ((X.setCell ⟨w.heap.size + 1, 0, none⟩ (.slice none 0 0)).setCell ⟨w.heap.size + 1, 1, none⟩ (.slice none 0 0)).cell? ⟨w.heap.size + 1, 1, none⟩ = some (.slice none 0 0)) ∧
      RGPost w (restR I A l a) (.returned (.tuple #[.agg #[.slice none 0 0, .slice none 0 0], .slice none 0 0, .int .i64 2])) ((X.setCell ⟨w.heap.size + 1, 0, none⟩ (.slice none 0 0)).setCell ⟨w.heap.size + 1, 1, none⟩ (.slice none 0 0))) := fun X hX he => by
    have hr := (hX.block _ (by have := HSZ.out; omega)).trans HRX.out
    refine ⟨box2_cells hr, box2_put hr _ _, ?_⟩
    rw [he]
    exact ⟨_, _, _, rfl, (GrO.nil _ 0).ints, IsInts.nil' _, ((HB0.out.trans (hX.mono HB0.out.size)).setCell (p := ⟨w.heap.size + 1, 0, none⟩) (by show _ ≤ _ + 1; omega) _).setCell (p := ⟨w.heap.size + 1, 1, none⟩) (by show _ ≤ _ + 1; omega) _⟩
  clear hb0 hsz hgx hrx
  by_cases hh : hasA I A l = true
  · by_cases hm : mayB a = true
    · rw [hh] at HH
      rw [hm] at HNO
      have HE := Lib.hid (rest_ref hh hm)
      obtain ⟨hma, hok, hl⟩ := hasA_parts hh
      have hroom := (mayA_parts hma).1
      obtain ⟨hpos, hsrt⟩ := insB_lt (mayA_parts hma).2.1
      have HOK := Lib.hid hok
      have HLE := Lib.hid hl
      have HRM := Lib.hid hroom
      have HPO := Lib.hid hpos
      have HSR : Hid ((keepL a I).Pairwise (· < ·)) := hsrt.sublist List.filter_sublist
      have hI0 : I.length ≤ 200000 := by omega
      have HJL : Hid ((keepL a I).length ≤ I.length) := keepL_len a I
      have HJB : Hid (∀ v ∈ keepL a I, 0 < v ∧ v ≤ 65536) := fun v hv => hpos v (keepL_mem hv)
      have HIE : Hid (∀ y ∈ I.map (imgL a I), isE y (1 + (keepL a I).length + ([] : List Pr).length) = true) := fun y hy => by
        obtain ⟨v, hv, rfl⟩ := List.mem_map.1 hy
        exact imgL_isE hv
      have HIB : Hid (∀ y ∈ I.map (imgL a I), -9223372036854775808 ≤ y ∧ y ≤ 9223372036854775807) := fun y hy => by
        obtain ⟨v, hv, rfl⟩ := List.mem_map.1 hy
        have := imgL_bd (a := a) (v := v) hI0
        omega
      clear hh hm hma hok hl hsrt hroom hpos HBAD
      go_upto_region 3 with (first
        | (go_at_call 46; refine (HNO.out w1 HB1.out).mono ?_; rintro e w2 ⟨rfl, hq⟩; have HB2 := Lib.hid (HB1.out.trans ((hq.below _).mono HB1.out.size)); clear hq)
        | (go_at_call 65; refine HH.out.mono ?_; rintro e w1 ⟨rfl, hb1⟩; have HB1 := Lib.hid hb1; clear hb1 p0 p1))
      clear HH HNO HB1
      go_upto_region 4 with fail
      have hbn := below_alloc1 w2 (.cells #[.slice none 0 0, .slice none 0 0, .bool false] 82)
      have HBN := Lib.hid (HB2.out.trans (hbn.mono HB2.out.size))
      have hmx : (w2.alloc (.cells #[.slice none 0 0, .slice none 0 0, .bool false] 82)).heap[w2.heap.size]? = some (.cells #[.slice none 0 0, .slice none 0 0, .bool false] 82 (0, 0)) := World.alloc_heap_new _ _
      have HMX := Lib.hid hmx
      have HS2 : Hid ((w2.alloc (.cells #[.slice none 0 0, .slice none 0 0, .bool false] 82)).heap.size = w2.heap.size + 1) := by show _ = _; simp
      have HPB : Hid (∀ Z, Below w2.heap.size (w2.alloc (.cells #[.slice none 0 0, .slice none 0 0, .bool false] 82)) Z → Below W.heap.size W Z) := fun Z hZ => HBN.out.trans (hZ.mono HB2.out.size)
      clear hbn hmx
      generalize w2.alloc (.cells #[.slice none 0 0, .slice none 0 0, .bool false] 82) = W2 at *
      have HPS : Hid (W.heap.size ≤ w2.heap.size) := HB2.out.size
      generalize w2.heap.size = pm at *
      clear HB2
      go_wp2
      go_loopw [10] (fun i wr => ∃ (k : Nat) (vq : Value), k ≤ I.length ∧ i = .int .i64 k ∧ wr.heap[pm]? = some (.cells #[vq, .slice none 0 0, .bool false] 82 (0, 0)) ∧ Own wr (pm + 1) vq (keepL a (I.take k)) ∧ Below pm W2 wr) (fun i _ => I.length - (intOf i).toNat)
      case atStart => exact ⟨0, _, Nat.zero_le _, rfl, HMX.out, Own.nil _ _, Below.refl _ _⟩
      case round =>
        obtain ⟨k, vq, hk, rfl, hbox, ho, hbl⟩ := hrel
        have HBX := Lib.hid hbox
        have HO := Lib.hid ho
        have HBP := Lib.hid hbl
        have HBR := Lib.hid (HPB.out wr hbl)
        obtain ⟨qa, qc, rfl⟩ := own_shC ho
        clear hbox ho hbl
        have hgr := (HBR.out.block _ (Array.getElem?_eq_some_iff.1 HGX.out).1).trans HGX.out
        have HGR := Lib.hid hgr
        obtain ⟨p0, p1, _, _⟩ := box2_cells hgr
        clear hgr
        by_cases hlt : k < I.length
        · obtain ⟨b, off, rfl, hbk, hc0⟩ := (HI1.out.below HBR.out (Nat.le_refl _)).cellY hlt
          have hv := HPO.out _ (ints_getD_mem hlt)
          have HKT := Lib.hid (keepL_take (a := a) hlt)
          have HKL := Lib.hid hlt
          have hk0 : (0 : Int) ≤ (k : Int) := by omega
          have hk1 : (k : Int) < (I.length : Int) := by omega
          have hk2 : (k : Int) < 4000001 := by omega
          have hwx : wrap64 (-(I.getD k 0)) = -(I.getD k 0) := by unfold wrap64; omega
          have HIN1 := Lib.hid (in5_any _ a (I.getD k 0) wr (HX1.out.below HBR.out (Nat.le_refl _)) (by omega) (by omega))
          have HIN2 := Lib.hid (in5_any _ a (-(I.getD k 0)) wr (HX1.out.below HBR.out (Nat.le_refl _)) (by omega) (by omega))
          unfold memB at HIN1 HIN2
          clear hlt hv
          generalize I.getD k 0 = x at *
          obtain ⟨nx, hnx⟩ : ∃ nx : Int, -x = nx := ⟨_, rfl⟩
          have hwn : wrap64 (-x) = nx := by rw [hwx, hnx]
          rw [hnx] at HIN2 HKT
          clear hwx hnx
          cases d1 : decide (x ∈ a) with
          | true =>
            rw [d1] at HIN1 HKT
            have HKE : Hid (keepL a (I.take (k + 1)) = keepL a (I.take k)) := by show _ = _; rw [HKT.out]; simp
            clear d1 HIN2 HKT
            go_wp2_with (go_at_call 98; refine HIN1.out.mono ?_; rintro e w3 ⟨rfl, rfl⟩)
            go_roundw
            case rel => exact ⟨k + 1, _, HKL.out, by go_num, HBX.out, by rw [HKE.out]; exact HO.out, HBP.out⟩
            case measure => have := HKL.out; simp [intOf]; omega
          | false =>
            rw [d1] at HIN1 HKT
            clear d1
            cases d2 : decide (nx ∈ a) with
            | true =>
              rw [d2] at HIN2 HKT
              have HKE : Hid (keepL a (I.take (k + 1)) = keepL a (I.take k)) := by show _ = _; rw [HKT.out]; simp
              clear d2 HKT
              go_wp2_with fail
              refine HIN1.out.mono ?_
              rintro e w3 ⟨rfl, rfl⟩
              go_wp2_with fail
              refine HIN2.out.mono ?_
              rintro e w3 ⟨rfl, rfl⟩
              go_wp2
              go_roundw
              case rel => exact ⟨k + 1, _, HKL.out, by go_num, HBX.out, by rw [HKE.out]; exact HO.out, HBP.out⟩
              case measure => have := HKL.out; simp [intOf]; omega
            | false =>
              rw [d2] at HIN2 HKT
              clear d2
              go_wp2_with fail
              refine HIN1.out.mono ?_
              rintro e w3 ⟨rfl, rfl⟩
              go_wp2_with fail
              refine HIN2.out.mono ?_
              rintro e w3 ⟨rfl, rfl⟩
              go_upto_region 8 with fail
              clear p0 p1 HIN1 HIN2
              have hwd : Below wr.heap.size wr wr.drew := (Below.refl _ wr).drew
              have HBXD : Hid (wr.drew.heap[pm]? = some (.cells #[.slice qa (keepL a (I.take k)).length qc, .slice none 0 0, .bool false] 82 (0, 0))) := HBX.out
              have HGRD : Hid (wr.drew.heap[w.heap.size]? = some (.cells #[.slice (some ⟨b, off, none⟩) I.length ic, .slice aa A.length ac] 25 (0, 0))) := HGR.out
              have HCD : Hid (wr.drew.cell? ⟨b, off + k, none⟩ = some (.int .i64 x)) := hc0
              have HOD := Lib.hid (HO.out.below hwd (Nat.le_refl _))
              have HBPD := Lib.hid (HBP.out.drew)
              have HBRD := Lib.hid (HPB.out _ HBPD.out)
              have HXC : Hid (∀ Z, Below W.heap.size W Z → Z.cell? ⟨b, off + k, none⟩ = some (.int .i64 x)) := by
                obtain ⟨b', off', e, hb', hc'⟩ := HI1.out.cellY HKL.out
                have e2 := Option.some.inj e
                injection e2 with e3 e4
                subst e3
                subst e4
                have hx0 := hc0.symm.trans ((HBR.out.cell (p := ⟨b, off + k, none⟩) hb').trans hc')
                exact fun Z hZ => ((hZ.cell (p := ⟨b, off + k, none⟩) hb').trans hc').trans hx0.symm
              have HLEN : Hid ((keepL a (I.take k)).length < 17592186044416) := by have := keepL_len a (I.take k); rw [List.length_take] at this; show _ < _; omega
              have HKT2 : Hid (keepL a (I.take (k + 1)) = keepL a (I.take k) ++ [x]) := by show _ = _; rw [HKT.out]; rfl
              generalize keepL a (I.take k) = J at *
              refine wp_region_held_drew (S := fun Z : World => Z.heap[w.heap.size]? = some (.cells #[.slice (some ⟨b, off, none⟩) I.length ic, .slice aa A.length ac] 25 (0, 0)) ∧ Z.cell? ⟨b, off + k, none⟩ = some (.int .i64 x)) (by kernel_rfl) ⟨HGRD.out, HCD.out⟩ (fun hSd => ?_)
              clear hwd hc0 HBX HGR HO HBP HKT
              have HPD : Hid (pm < wr.drew.heap.size) := (Array.getElem?_eq_some_iff.1 HBXD.out).1
              generalize wr.drew = X at *
              obtain ⟨c0, c1, _⟩ := box3r_cells HBXD.out
              refine takeC (i := 0) (v := .pointer (some ⟨pm, 0, none⟩)) (some 52) rfl rfl (by kernel_rfl) (by kernel_rfl) (by kernel_rfl) (fun _ _ _ h => h) (Or.inl ⟨by rfl, ?_⟩) (by assumption) ?_
              · intro wz hSw; go_simp
              try simp only [Act.put, List.setIfInBounds_toArray, List.set_cons_zero, List.set_cons_succ]
              refine takeC (i := 1) (v := .pointer (some ⟨pm, 0, none⟩)) (some 53) rfl rfl (by kernel_rfl) (by kernel_rfl) (by kernel_rfl) (fun _ _ _ h => h) (Or.inl ⟨by rfl, ?_⟩) (by assumption) ?_
              · intro wz hSw; go_simp
              try simp only [Act.put, List.setIfInBounds_toArray, List.set_cons_zero, List.set_cons_succ]
              refine takeC (i := 2) (v := .pointer (some ⟨pm, 0, none⟩)) (some 54) rfl rfl (by kernel_rfl) (by kernel_rfl) (by kernel_rfl) (fun _ _ _ h => h) (Or.inl ⟨by rfl, ?_⟩) (by assumption) ?_
              · intro wz hSw; go_simp
              try simp only [Act.put, List.setIfInBounds_toArray, List.set_cons_zero, List.set_cons_succ]
              refine takeC (i := 3) (v := .pointer (some ⟨pm, 0, none⟩)) (some 55) rfl rfl (by kernel_rfl) (by kernel_rfl) (by kernel_rfl) (fun _ _ _ h => h) (Or.inl ⟨by rfl, ?_⟩) (by assumption) ?_
              · intro wz hSw; go_simp
              try simp only [Act.put, List.setIfInBounds_toArray, List.set_cons_zero, List.set_cons_succ]
              refine takeC (i := 4) (v := .pointer (some ⟨pm, 0, none⟩)) (some 56) rfl rfl (by kernel_rfl) (by kernel_rfl) (by kernel_rfl) (fun _ _ _ h => h) (Or.inl ⟨by rfl, ?_⟩) (by assumption) ?_
              · intro wz hSw; go_simp
              try simp only [Act.put, List.setIfInBounds_toArray, List.set_cons_zero, List.set_cons_succ]
              refine takeC (i := 6) (v := .pointer (some ⟨w.heap.size, 0, none⟩)) (some 58) rfl rfl (by kernel_rfl) (by kernel_rfl) (by kernel_rfl) (fun _ _ _ h => h) (Or.inl ⟨by rfl, ?_⟩) (by assumption) ?_
              · intro wz hSw; go_simp
              try simp only [Act.put, List.setIfInBounds_toArray, List.set_cons_zero, List.set_cons_succ]
              refine takeC (i := 7) (v := .slice (some ⟨b, off, none⟩) I.length ic) (some 59) rfl rfl (by kernel_rfl) (by kernel_rfl) (by kernel_rfl) (fun _ _ _ h => h) (Or.inl ⟨by rfl, ?_⟩) (by assumption) ?_
              · intro wz hSw; obtain ⟨t0, t1, _, _⟩ := box2_cells hSw.1; go_simp
              try simp only [Act.put, List.setIfInBounds_toArray, List.set_cons_zero, List.set_cons_succ]
              refine takeC (i := 8) (v := .int .i64 (k : Int)) (some 60) rfl rfl (by kernel_rfl) (by kernel_rfl) (by kernel_rfl) (fun _ _ _ h => h) (Or.inl ⟨by rfl, ?_⟩) (by assumption) ?_
              · intro wz hSw; go_simp
              try simp only [Act.put, List.setIfInBounds_toArray, List.set_cons_zero, List.set_cons_succ]
              refine takeC (i := 9) (v := .pointer (some ⟨b, off + k, none⟩)) (some 61) rfl rfl (by kernel_rfl) (by kernel_rfl) (by kernel_rfl) (fun _ _ _ h => h) (Or.inl ⟨by rfl, ?_⟩) (by assumption) ?_
              · intro wz hSw; go_simp
              try simp only [Act.put, List.setIfInBounds_toArray, List.set_cons_zero, List.set_cons_succ]
              refine takeC (i := 10) (v := .int .i64 x) (some 62) rfl rfl (by kernel_rfl) (by kernel_rfl) (by kernel_rfl) (fun _ _ _ h => h) (Or.inl ⟨by rfl, ?_⟩) (by assumption) ?_
              · intro wz hSw; have t0 := hSw.2; go_simp
              try simp only [Act.put, List.setIfInBounds_toArray, List.set_cons_zero, List.set_cons_succ]
              have hbn := below_alloc1 X (.cells #[.int .i64 x] 3)
              have hgn := (hbn.block _ (Array.getElem?_eq_some_iff.1 HGRD.out).1).trans HGRD.out
              have HGN := Lib.hid hgn
              have HBN2 : Hid (Below pm W2 (X.alloc (.cells #[.int .i64 x] 3))) := HBPD.out.trans (hbn.mono (Nat.le_of_lt HPD.out))
              have hcn := HXC.out _ (HPB.out _ HBN2.out)
              have HSN : Hid ((X.alloc (.cells #[.int .i64 x] 3)).heap[w.heap.size]? = some (.cells #[.slice (some ⟨b, off, none⟩) I.length ic, .slice aa A.length ac] 25 (0, 0)) ∧ (X.alloc (.cells #[.int .i64 x] 3)).cell? ⟨b, off + k, none⟩ = some (.int .i64 x)) := ⟨hgn, hcn⟩
              have HBXN : Hid ((X.alloc (.cells #[.int .i64 x] 3)).heap[pm]? = some (.cells #[.slice qa J.length qc, .slice none 0 0, .bool false] 82 (0, 0))) := (hbn.block _ HPD.out).trans HBXD.out
              have HON := Lib.hid (HOD.out.below hbn (Nat.le_refl _))
              have HYN : Hid ((X.alloc (.cells #[.int .i64 x] 3)).cell? ⟨X.heap.size, 0, none⟩ = some (.int .i64 x)) := cell_fresh rfl
              clear hbn hgn hcn
              refine wpAnyH_ready (rs := [5, 11]) (by kernel_rfl) (by simp) ?_
              refine AllReadyH.cons rfl (fun K hK => ?_) (AllReadyH.cons rfl (fun K hK => ?_) AllReadyH.nil)
              · go_simp
                refine hK.out _ _ hSd (fun hHn => ?_)
                clear hK K hHn c0 c1
                try simp only [Act.put, List.setIfInBounds_toArray, List.set_cons_zero, List.set_cons_succ]
                refine wpAnyH_ready (rs := [11]) (by kernel_rfl) (by simp) ?_
                refine AllReadyH.cons rfl (fun K hK => ?_) AllReadyH.nil
                go_simp
                refine hK.out _ _ HSN.out (fun hHn => ?_)
                clear hK K hHn hSd
                try simp only [Act.put, List.setIfInBounds_toArray, List.set_cons_zero, List.set_cons_succ]
                generalize X.alloc (.cells #[.int .i64 x] 3) = X2 at *
                generalize X.heap.size = gb at *
                have HW2 : Hid (pm + 1 ≤ X2.heap.size) := (Array.getElem?_eq_some_iff.1 HBXN.out).1
                refine wpAnyH_ready (rs := [12]) (by kernel_rfl) (by simp) ?_
                refine AllReadyH.cons rfl (fun K hK => ?_) AllReadyH.nil
                refine step_app1I rfl (.tmp 57) (.tmp 63) rfl (pm + 1) (.slice qa J.length qc) J x gb rfl rfl HON.out HYN.out HLEN.out HW2.out ?_
                intro v9 w9 ho9 hg9
                generalize hJ2 : J ++ [x] = J2 at ho9
                have HJ2 := Lib.hid hJ2
                have HO9 := Lib.hid ho9
                clear hJ2
                obtain ⟨na, nc, rfl⟩ := own_shC ho9
                have HB9 : Hid (Below pm W2 w9) := HBN2.out.grown hg9 (by have := HW2.out; omega) (fun j e => by have := (HON.out.lt j e).1; omega)
                have hbx9 := (hg9.block pm (by have := HW2.out; omega) (fun e => by have := (HON.out.lt pm e.symm).1; omega)).trans HBXN.out
                have HBX9 := Lib.hid hbx9
                have hg9b := ((HPB.out _ HB9.out).block _ (Array.getElem?_eq_some_iff.1 HGX.out).1).trans HGX.out
                have hS9 : w9.heap[w.heap.size]? = some (.cells #[.slice (some ⟨b, off, none⟩) I.length ic, .slice aa A.length ac] 25 (0, 0)) ∧ w9.cell? ⟨b, off + k, none⟩ = some (.int .i64 x) := ⟨hg9b, HXC.out _ (HPB.out _ HB9.out)⟩
                refine hK.out _ _ hS9 (fun hHn => ?_)
                clear hK K hHn hg9 ho9 hg9b
                try simp only [Act.put, List.setIfInBounds_toArray, List.set_cons_zero, List.set_cons_succ]
                refine takeC (i := 13) (v := .pointer (some ⟨pm, 0, none⟩)) (some 65) rfl rfl (by kernel_rfl) (by kernel_rfl) (by kernel_rfl) (fun _ _ _ h => h) (Or.inl ⟨by rfl, ?_⟩) (by assumption) ?_
                · intro wz hSw; go_simp
                try simp only [Act.put, List.setIfInBounds_toArray, List.set_cons_zero, List.set_cons_succ]
                refine takeC (i := 14) (v := .pointer (some ⟨pm, 0, none⟩)) (some 66) rfl rfl (by kernel_rfl) (by kernel_rfl) (by kernel_rfl) (fun _ _ _ h => h) (Or.inl ⟨by rfl, ?_⟩) (by assumption) ?_
                · intro wz hSw; go_simp
                try simp only [Act.put, List.setIfInBounds_toArray, List.set_cons_zero, List.set_cons_succ]
                refine takeC (i := 15) (v := .pointer (some ⟨pm, 0, none⟩)) (some 67) rfl rfl (by kernel_rfl) (by kernel_rfl) (by kernel_rfl) (fun _ _ _ h => h) (Or.inl ⟨by rfl, ?_⟩) (by assumption) ?_
                · intro wz hSw; go_simp
                try simp only [Act.put, List.setIfInBounds_toArray, List.set_cons_zero, List.set_cons_succ]
                obtain ⟨c0, c1, _⟩ := box3r_cells hbx9
                have f0 := box3_frozen (i := 0) hbx9
                have HBX0 := Lib.hid (box3_set0 hbx9 (.slice na J2.length nc))
                have HOX := Lib.hid (HO9.out.set_far (c := pm) (n := 0) (u := .slice na J2.length nc) (by omega))
                have HB10 := Lib.hid (HB9.out.setCell (p := ⟨pm, 0, none⟩) (Nat.le_refl _) (.slice na J2.length nc))
                have hg10 := ((HPB.out _ HB10.out).block _ (Array.getElem?_eq_some_iff.1 HGX.out).1).trans HGX.out
                clear hS9 hbx9
                refine wpAnyH_ready (rs := [16]) (by kernel_rfl) (by simp) ?_
                refine AllReadyH.cons rfl (fun K hK => ?_) AllReadyH.nil
                go_simp
                refine hK.out _ _ ⟨hg10, HXC.out _ (HPB.out _ HB10.out)⟩ (fun hHn => ?_)
                clear hK K hHn c0 c1 f0 hg10
                try simp only [Act.put, List.setIfInBounds_toArray, List.set_cons_zero, List.set_cons_succ]
                refine wpAnyH_done (by kernel_rfl) ?_ _
                go_wp2
                go_roundw
                case rel => exact ⟨k + 1, _, HKL.out, by go_num, HBX0.out, by rw [HKT2.out, HJ2.out]; exact HOX.out, HB10.out⟩
                case measure => have := HKL.out; simp [intOf]; omega
              · go_simp
                refine hK.out _ _ HSN.out (fun hHn => ?_)
                clear hK K hHn hSd c0 c1
                try simp only [Act.put, List.setIfInBounds_toArray, List.set_cons_zero, List.set_cons_succ]
                obtain ⟨c0, c1, _⟩ := box3r_cells HBXN.out
                refine wpAnyH_ready (rs := [5]) (by kernel_rfl) (by simp) ?_
                refine AllReadyH.cons rfl (fun K hK => ?_) AllReadyH.nil
                go_simp
                refine hK.out _ _ HSN.out (fun hHn => ?_)
                clear hK K hHn c0 c1
                try simp only [Act.put, List.setIfInBounds_toArray, List.set_cons_zero, List.set_cons_succ]
                generalize X.alloc (.cells #[.int .i64 x] 3) = X2 at *
                generalize X.heap.size = gb at *
                have HW2 : Hid (pm + 1 ≤ X2.heap.size) := (Array.getElem?_eq_some_iff.1 HBXN.out).1
                refine wpAnyH_ready (rs := [12]) (by kernel_rfl) (by simp) ?_
                refine AllReadyH.cons rfl (fun K hK => ?_) AllReadyH.nil
                refine step_app1I rfl (.tmp 57) (.tmp 63) rfl (pm + 1) (.slice qa J.length qc) J x gb rfl rfl HON.out HYN.out HLEN.out HW2.out ?_
                intro v9 w9 ho9 hg9
                generalize hJ2 : J ++ [x] = J2 at ho9
                have HJ2 := Lib.hid hJ2
                have HO9 := Lib.hid ho9
                clear hJ2
                obtain ⟨na, nc, rfl⟩ := own_shC ho9
                have HB9 : Hid (Below pm W2 w9) := HBN2.out.grown hg9 (by have := HW2.out; omega) (fun j e => by have := (HON.out.lt j e).1; omega)
                have hbx9 := (hg9.block pm (by have := HW2.out; omega) (fun e => by have := (HON.out.lt pm e.symm).1; omega)).trans HBXN.out
                have HBX9 := Lib.hid hbx9
                have hg9b := ((HPB.out _ HB9.out).block _ (Array.getElem?_eq_some_iff.1 HGX.out).1).trans HGX.out
                have hS9 : w9.heap[w.heap.size]? = some (.cells #[.slice (some ⟨b, off, none⟩) I.length ic, .slice aa A.length ac] 25 (0, 0)) ∧ w9.cell? ⟨b, off + k, none⟩ = some (.int .i64 x) := ⟨hg9b, HXC.out _ (HPB.out _ HB9.out)⟩
                refine hK.out _ _ hS9 (fun hHn => ?_)
                clear hK K hHn hg9 ho9 hg9b
                try simp only [Act.put, List.setIfInBounds_toArray, List.set_cons_zero, List.set_cons_succ]
                refine takeC (i := 13) (v := .pointer (some ⟨pm, 0, none⟩)) (some 65) rfl rfl (by kernel_rfl) (by kernel_rfl) (by kernel_rfl) (fun _ _ _ h => h) (Or.inl ⟨by rfl, ?_⟩) (by assumption) ?_
                · intro wz hSw; go_simp
                try simp only [Act.put, List.setIfInBounds_toArray, List.set_cons_zero, List.set_cons_succ]
                refine takeC (i := 14) (v := .pointer (some ⟨pm, 0, none⟩)) (some 66) rfl rfl (by kernel_rfl) (by kernel_rfl) (by kernel_rfl) (fun _ _ _ h => h) (Or.inl ⟨by rfl, ?_⟩) (by assumption) ?_
                · intro wz hSw; go_simp
                try simp only [Act.put, List.setIfInBounds_toArray, List.set_cons_zero, List.set_cons_succ]
                refine takeC (i := 15) (v := .pointer (some ⟨pm, 0, none⟩)) (some 67) rfl rfl (by kernel_rfl) (by kernel_rfl) (by kernel_rfl) (fun _ _ _ h => h) (Or.inl ⟨by rfl, ?_⟩) (by assumption) ?_
                · intro wz hSw; go_simp
                try simp only [Act.put, List.setIfInBounds_toArray, List.set_cons_zero, List.set_cons_succ]
                obtain ⟨c0, c1, _⟩ := box3r_cells hbx9
                have f0 := box3_frozen (i := 0) hbx9
                have HBX0 := Lib.hid (box3_set0 hbx9 (.slice na J2.length nc))
                have HOX := Lib.hid (HO9.out.set_far (c := pm) (n := 0) (u := .slice na J2.length nc) (by omega))
                have HB10 := Lib.hid (HB9.out.setCell (p := ⟨pm, 0, none⟩) (Nat.le_refl _) (.slice na J2.length nc))
                have hg10 := ((HPB.out _ HB10.out).block _ (Array.getElem?_eq_some_iff.1 HGX.out).1).trans HGX.out
                clear hS9 hbx9
                refine wpAnyH_ready (rs := [16]) (by kernel_rfl) (by simp) ?_
                refine AllReadyH.cons rfl (fun K hK => ?_) AllReadyH.nil
                go_simp
                refine hK.out _ _ ⟨hg10, HXC.out _ (HPB.out _ HB10.out)⟩ (fun hHn => ?_)
                clear hK K hHn c0 c1 f0 hg10
                try simp only [Act.put, List.setIfInBounds_toArray, List.set_cons_zero, List.set_cons_succ]
                refine wpAnyH_done (by kernel_rfl) ?_ _
                go_wp2
                go_roundw
                case rel => exact ⟨k + 1, _, HKL.out, by go_num, HBX0.out, by rw [HKT2.out, HJ2.out]; exact HOX.out, HB10.out⟩
                case measure => have := HKL.out; simp [intOf]; omega
        · obtain rfl : k = I.length := by omega
          have hTL : I.take I.length = I := List.take_length
          rw [hTL] at HBX HO
          have HIM : Hid (∀ v, imgL a I v = if v ∈ a then 1 else if -v ∈ a then 0 else edgeI (keepL a I) v) := fun v => rfl
          clear hTL hk hlt
          have hj0 : 1 + (keepL a I).length ≤ 200000 := by have := HJL.out; have := HRM.out; omega
          generalize keepL a I = J at *
          have HMK : Hid (RMk wr wr pm pm J ([], false) (.slice qa J.length qc) (.slice none 0 0)) := by
            refine ⟨HBX.out, KpM.refl _ _ _ _, fun Z hZ => ?_, by omega, OwnP.nil _ _, ⟨rfl, by simpa using hj0⟩, fun p hp => (by cases hp), Nat.le_refl _⟩
            have ho : Own Z (pm + 1) (.slice qa J.length qc) J := own_turn HO.out (fun g cur hg => (hZ.same g _ (fun e => by
              rw [e, HBX.out] at hg
              simp only [Option.some.injEq, Obj.cells.injEq] at hg
              exact absurd hg.2.1 (by decide)) (fun e => by
              rw [e, HBX.out] at hg
              simp only [Option.some.injEq, Obj.cells.injEq] at hg
              exact absurd hg.2.1 (by decide)) hg (fun e => absurd e (by decide))).trans hg.symm)
            exact ho.ints (by omega) (fun y hy => by have := HJB.out y hy; omega)
          have HPW : Hid (pm < wr.heap.size) := (Array.getElem?_eq_some_iff.1 HBX.out).1
          have HJI : Hid (IsInts wr (.slice qa J.length qc) J) := HMK.out.graph.1
          have hj1 : J.length ≤ 200000 := by omega
          clear hj0 HMX
          generalize wr = w5 at *
          go_wp2
          clear p0 p1
          go_loopw [11, 12] (fun v i wr => ∃ k : Nat, k ≤ I.length ∧ i = .int .i64 k ∧ Own wr w5.heap.size v ((I.take k).map (imgL a I)) ∧ Below w5.heap.size w5 wr) (fun _ i _ => I.length - (intOf i).toNat)
          case atStart => exact ⟨0, Nat.zero_le _, rfl, Own.nil _ _, Below.refl _ _⟩
          case round =>
            obtain ⟨k, hk, rfl, ho, hbl⟩ := hrel
            have HO6 := Lib.hid ho
            have HB6 := Lib.hid hbl
            have HBR6 : Hid (Below W.heap.size W wr) := HBR.out.trans (hbl.mono HBR.out.size)
            obtain ⟨oa, oc, rfl⟩ := own_shC ho
            clear ho hbl
            have hgr := (HB6.out.block _ (Array.getElem?_eq_some_iff.1 HGR.out).1).trans HGR.out
            obtain ⟨p0, p1, _, _⟩ := box2_cells hgr
            clear hgr
            by_cases hlt : k < I.length
            · obtain ⟨b, off, rfl, hbk, hc5⟩ := (HI1.out.below HBR.out (Nat.le_refl _)).cellY hlt
              have hc0 := (HB6.out.cell (p := ⟨b, off + k, none⟩) hbk).trans hc5
              have hv := HPO.out _ (ints_getD_mem hlt)
              have HT2 : Hid ((I.take (k + 1)).map (imgL a I) = (I.take k).map (imgL a I) ++ [imgL a I (I.getD k 0)]) := by show _ = _; rw [ints_take_succ hlt, List.map_append]; rfl
              rw [HIM.out (I.getD k 0)] at HT2
              have HKL := Lib.hid hlt
              have hk0 : (0 : Int) ≤ (k : Int) := by omega
              have hk1 : (k : Int) < (I.length : Int) := by omega
              have hk2 : (k : Int) < 4000001 := by omega
              have hwx : wrap64 (-(I.getD k 0)) = -(I.getD k 0) := by unfold wrap64; omega
              have HV64 : Hid (-9223372036854775808 ≤ I.getD k 0 ∧ I.getD k 0 ≤ 9223372036854775807) := ⟨by omega, by omega⟩
              have HIN1 := Lib.hid (in5_any _ a (I.getD k 0) wr (HX1.out.below HBR6.out (Nat.le_refl _)) (by omega) (by omega))
              have HIN2 := Lib.hid (in5_any _ a (-(I.getD k 0)) wr (HX1.out.below HBR6.out (Nat.le_refl _)) (by omega) (by omega))
              unfold memB at HIN1 HIN2
              have HLEN : Hid (((I.take k).map (imgL a I)).length < 17592186044416) := by show _ < _; rw [List.length_map, List.length_take]; omega
              clear hlt hv
              generalize I.getD k 0 = x at *
              obtain ⟨nx, hnx⟩ : ∃ nx : Int, -x = nx := ⟨_, rfl⟩
              have hwn : wrap64 (-x) = nx := by rw [hwx, hnx]
              rw [hnx] at HIN2 HT2
              clear hwx hnx
              generalize (I.take k).map (imgL a I) = acc at *
              by_cases d1 : x ∈ a
              · rw [decide_eq_true d1] at HIN1
                rw [if_pos d1] at HT2
                clear d1 HIN2
                go_wp2_with (first
                  | (at_builtin; go_loud (refine wpList_app1A rfl _ _ rfl w5.heap.size _ _ 1 wr.heap.size rfl rfl (HO6.out.alloc _) (cell_fresh rfl) HLEN.out (by simp; have := HB6.out.size; omega) ?_; intro u' w' ho' hg' _; have HO' := Lib.hid ho'; have HG' := Lib.hid hg'; clear ho' hg'))
                  | (go_at_call 98; refine HIN1.out.mono ?_; rintro e w3 ⟨rfl, rfl⟩))
                go_roundw
                case rel => exact ⟨k + 1, HKL.out, by go_num, by rw [HT2.out]; exact HO'.out, (HB6.out.alloc HB6.out.size _).grown HG'.out (by have := HB6.out.size; simp; omega) (fun j e => (HO6.out.lt j e).1)⟩
                case measure => have := HKL.out; simp [intOf]; omega
              · rw [decide_eq_false d1] at HIN1
                rw [if_neg d1] at HT2
                clear d1
                by_cases d2 : nx ∈ a
                · rw [decide_eq_true d2] at HIN2
                  rw [if_pos d2] at HT2
                  clear d2
                  go_upto_region 16 with (go_at_call 98; refine HIN1.out.mono ?_; rintro e w3 ⟨rfl, rfl⟩)
                  go_upto_region 17 with (go_at_call 98; refine HIN2.out.mono ?_; rintro e w3 ⟨rfl, rfl⟩)
                  go_wp2_with (at_builtin; go_loud (refine wpList_app1A rfl _ _ rfl w5.heap.size _ _ 0 wr.heap.size rfl rfl (HO6.out.alloc _) (cell_fresh rfl) HLEN.out (by simp; have := HB6.out.size; omega) ?_; intro u' w' ho' hg' _; have HO' := Lib.hid ho'; have HG' := Lib.hid hg'; clear ho' hg'))
                  go_roundw
                  case rel => exact ⟨k + 1, HKL.out, by go_num, by rw [HT2.out]; exact HO'.out, (HB6.out.alloc HB6.out.size _).grown HG'.out (by have := HB6.out.size; simp; omega) (fun j e => (HO6.out.lt j e).1)⟩
                  case measure => have := HKL.out; simp [intOf]; omega
                · rw [decide_eq_false d2] at HIN2
                  rw [if_neg d2] at HT2
                  clear d2
                  go_upto_region 16 with (go_at_call 98; refine HIN1.out.mono ?_; rintro e w3 ⟨rfl, rfl⟩)
                  go_upto_region 13 with (go_at_call 98; refine HIN2.out.mono ?_; rintro e w3 ⟨rfl, rfl⟩)
                  clear p0 p1 hc0 HIN1 HIN2 hwn
                  have HSB : Hid (∀ Z, Below w5.heap.size w5 Z → Z.heap[w.heap.size]? = some (.cells #[.slice (some ⟨b, off, none⟩) I.length ic, .slice aa A.length ac] 25 (0, 0)) ∧ Z.cell? ⟨b, off + k, none⟩ = some (.int .i64 x) ∧ Z.heap[pm]? = some (.cells #[.slice qa J.length qc, .slice none 0 0, .bool false] 82 (0, 0))) := fun Z hZ =>
                    ⟨(hZ.block _ (Array.getElem?_eq_some_iff.1 HGR.out).1).trans HGR.out, (hZ.cell (p := ⟨b, off + k, none⟩) hbk).trans hc5, (hZ.block pm HPW.out).trans HBX.out⟩
                  have hwd : Below wr.heap.size wr wr.drew := (Below.refl _ wr).drew
                  have HOD := Lib.hid (HO6.out.below hwd (Nat.le_refl _))
                  have HBD := Lib.hid (HB6.out.drew)
                  refine wp_region_held_drew (S := fun Z : World => Z.heap[w.heap.size]? = some (.cells #[.slice (some ⟨b, off, none⟩) I.length ic, .slice aa A.length ac] 25 (0, 0)) ∧ Z.cell? ⟨b, off + k, none⟩ = some (.int .i64 x) ∧ Z.heap[pm]? = some (.cells #[.slice qa J.length qc, .slice none 0 0, .bool false] 82 (0, 0))) (by kernel_rfl) (HSB.out _ HBD.out) (fun hSd => ?_)
                  clear hwd hc5 hbk
                  generalize wr.drew = X at *
                  have HEG := Lib.hid (redge_any (.slice qa J.length qc) (.slice none 0 0) J [] x X (HJI.out.below HBD.out (Nat.le_refl _)) (GrO.nil X 0).ints.2 HSR.out hj1 HV64.out.1 HV64.out.2)
                  generalize edgeI J x = z at *
                  refine takeC (i := 0) (v := .slice oa acc.length oc) (some 75) rfl rfl (by kernel_rfl) (by kernel_rfl) (by kernel_rfl) (fun _ _ _ h => h) (Or.inl ⟨by rfl, ?_⟩) (by assumption) ?_
                  · intro wz hSw; go_simp
                  try simp only [Act.put, List.setIfInBounds_toArray, List.set_cons_zero, List.set_cons_succ]
                  refine takeC (i := 1) (v := .pointer (some ⟨pm, 0, none⟩)) (some 76) rfl rfl (by kernel_rfl) (by kernel_rfl) (by kernel_rfl) (fun _ _ _ h => h) (Or.inl ⟨by rfl, ?_⟩) (by assumption) ?_
                  · intro wz hSw; go_simp
                  try simp only [Act.put, List.setIfInBounds_toArray, List.set_cons_zero, List.set_cons_succ]
                  refine takeC (i := 2) (v := .pointer (some ⟨pm, 0, none⟩)) (some 77) rfl rfl (by kernel_rfl) (by kernel_rfl) (by kernel_rfl) (fun _ _ _ h => h) (Or.inl ⟨by rfl, ?_⟩) (by assumption) ?_
                  · intro wz hSw; go_simp
                  try simp only [Act.put, List.setIfInBounds_toArray, List.set_cons_zero, List.set_cons_succ]
                  refine takeC (i := 3) (v := .pointer (some ⟨pm, 0, none⟩)) (some 78) rfl rfl (by kernel_rfl) (by kernel_rfl) (by kernel_rfl) (fun _ _ _ h => h) (Or.inl ⟨by rfl, ?_⟩) (by assumption) ?_
                  · intro wz hSw; go_simp
                  try simp only [Act.put, List.setIfInBounds_toArray, List.set_cons_zero, List.set_cons_succ]
                  refine takeC (i := 4) (v := .agg #[.slice qa J.length qc, .slice none 0 0]) (some 79) rfl rfl (by kernel_rfl) (by kernel_rfl) (by kernel_rfl) (fun _ _ _ h => h) (Or.inl ⟨by rfl, ?_⟩) (by assumption) ?_
                  · intro wz hSw; obtain ⟨t0, t1, _⟩ := box3r_cells hSw.2.2; go_simp
                  try simp only [Act.put, List.setIfInBounds_toArray, List.set_cons_zero, List.set_cons_succ]
                  refine takeC (i := 5) (v := .pointer (some ⟨w.heap.size, 0, none⟩)) (some 80) rfl rfl (by kernel_rfl) (by kernel_rfl) (by kernel_rfl) (fun _ _ _ h => h) (Or.inl ⟨by rfl, ?_⟩) (by assumption) ?_
                  · intro wz hSw; go_simp
                  try simp only [Act.put, List.setIfInBounds_toArray, List.set_cons_zero, List.set_cons_succ]
                  refine takeC (i := 6) (v := .slice (some ⟨b, off, none⟩) I.length ic) (some 81) rfl rfl (by kernel_rfl) (by kernel_rfl) (by kernel_rfl) (fun _ _ _ h => h) (Or.inl ⟨by rfl, ?_⟩) (by assumption) ?_
                  · intro wz hSw; obtain ⟨t0, t1, _, _⟩ := box2_cells hSw.1; go_simp
                  try simp only [Act.put, List.setIfInBounds_toArray, List.set_cons_zero, List.set_cons_succ]
                  refine takeC (i := 7) (v := .int .i64 (k : Int)) (some 82) rfl rfl (by kernel_rfl) (by kernel_rfl) (by kernel_rfl) (fun _ _ _ h => h) (Or.inl ⟨by rfl, ?_⟩) (by assumption) ?_
                  · intro wz hSw; go_simp
                  try simp only [Act.put, List.setIfInBounds_toArray, List.set_cons_zero, List.set_cons_succ]
                  refine takeC (i := 8) (v := .pointer (some ⟨b, off + k, none⟩)) (some 83) rfl rfl (by kernel_rfl) (by kernel_rfl) (by kernel_rfl) (fun _ _ _ h => h) (Or.inl ⟨by rfl, ?_⟩) (by assumption) ?_
                  · intro wz hSw; go_simp
                  try simp only [Act.put, List.setIfInBounds_toArray, List.set_cons_zero, List.set_cons_succ]
                  refine takeC (i := 9) (v := .int .i64 x) (some 84) rfl rfl (by kernel_rfl) (by kernel_rfl) (by kernel_rfl) (fun _ _ _ h => h) (Or.inl ⟨by rfl, ?_⟩) (by assumption) ?_
                  · intro wz hSw; have t0 := hSw.2.1; go_simp
                  try simp only [Act.put, List.setIfInBounds_toArray, List.set_cons_zero, List.set_cons_succ]
                  refine wpAnyH_ready (rs := [10]) (by kernel_rfl) (by simp) ?_
                  refine AllReadyH.cons rfl (fun K hK => ?_) AllReadyH.nil
                  go_simp
                  go_wp2_with (go_at_call 51; refine HEG.out.mono ?_; rintro e x1 ⟨rfl, hb⟩)
                  have h1d : Below X.heap.size X x1 := hb
                  refine hK.out _ _ (HSB.out _ (HBD.out.trans (h1d.mono HBD.out.size))) (fun hHn => ?_)
                  clear hK K hHn hb hSd
                  try simp only [Act.put, List.setIfInBounds_toArray, List.set_cons_zero, List.set_cons_succ]
                  refine wpAnyH_ready (rs := [11]) (by kernel_rfl) (by simp) ?_
                  refine AllReadyH.cons rfl (fun K hK => ?_) AllReadyH.nil
                  go_simp
                  have hbn := below_alloc1 x1 (.cells #[.int .i64 z] 3)
                  have h2d : Below X.heap.size X (x1.alloc (.cells #[.int .i64 z] 3)) := h1d.trans (hbn.mono h1d.size)
                  have hy : (x1.alloc (.cells #[.int .i64 z] 3)).cell? ⟨x1.heap.size, 0, none⟩ = some (.int .i64 z) := cell_fresh rfl
                  refine hK.out _ _ (HSB.out _ (HBD.out.trans (h2d.mono HBD.out.size))) (fun hHn => ?_)
                  clear hK K hHn hbn
                  try simp only [Act.put, List.setIfInBounds_toArray, List.set_cons_zero, List.set_cons_succ]
                  generalize x1.alloc (.cells #[.int .i64 z] 3) = x2 at *
                  generalize x1.heap.size = gb at *
                  refine wpAnyH_ready (rs := [12]) (by kernel_rfl) (by simp) ?_
                  refine AllReadyH.cons rfl (fun K hK => ?_) AllReadyH.nil
                  refine step_app1I rfl (.tmp 75) (.tmp 86) rfl w5.heap.size (.slice oa acc.length oc) acc z gb rfl rfl (HOD.out.below h2d (Nat.le_refl _)) hy HLEN.out (Nat.le_trans HBD.out.size h2d.size) ?_
                  intro v9 w9 ho9 hg9
                  generalize hJ2 : acc ++ [z] = acc2 at ho9
                  have HA2 := Lib.hid hJ2
                  have HO9 := Lib.hid ho9
                  have HB9 : Hid (Below w5.heap.size w5 w9) := (HBD.out.trans (h2d.mono HBD.out.size)).grown hg9 (Nat.le_trans HBD.out.size h2d.size) (fun j e => (HOD.out.lt j e).1)
                  obtain ⟨na, nc, rfl⟩ := own_shC ho9
                  have hS9 := HSB.out _ HB9.out
                  refine hK.out _ _ hS9 (fun hHn => ?_)
                  clear hK K hHn hJ2 ho9 hg9 hy h2d h1d
                  try simp only [Act.put, List.setIfInBounds_toArray, List.set_cons_zero, List.set_cons_succ]
                  refine takeC (i := 13) (v := .slice na acc2.length nc) (some 11) rfl rfl (by kernel_rfl) (by kernel_rfl) (by kernel_rfl) (fun _ _ _ h => h) (Or.inl ⟨by rfl, ?_⟩) (by assumption) ?_
                  · intro wz hSw; go_simp
                  try simp only [Act.put, List.setIfInBounds_toArray, List.set_cons_zero, List.set_cons_succ]
                  clear hS9
                  refine wpAnyH_done (by kernel_rfl) ?_ _
                  go_wp2
                  go_roundw
                  case rel => exact ⟨k + 1, HKL.out, by go_num, by rw [HT2.out, HA2.out]; exact HO9.out, HB9.out⟩
                  case measure => have := HKL.out; simp [intOf]; omega
            · obtain rfl : k = I.length := by omega
              have hTL : I.take I.length = I := List.take_length
              rw [hTL] at HO6 ⊢
              clear hTL hk hlt HIM
              have hpm5 : pm ≤ w5.heap.size := Nat.le_of_lt HPW.out
              have HM6 := Lib.hid (HMK.out.kpb HB6.out hpm5)
              have HOJ6 := Lib.hid (HO.out.below HB6.out (Nat.le_refl _))
              have hil2 : (I.map (imgL a I)).length = I.length := List.length_map _
              have HUI := Lib.hid (HO6.out.ints (by rw [hil2]; omega) HIB.out)
              have HCP := Lib.hid (rcopied_any (.slice ia I.length ic) (.slice aa A.length ac) (.slice la l.length lc) (.slice oa (I.map (imgL a I)).length oc) I A l (I.map (imgL a I)) HM6.out (Nat.le_trans hpm5 HB6.out.size) HB6.out.size (fun Z hZ => ⟨HI1.out.below (HBR6.out.trans (hZ.mono HPS.out)) (Nat.le_refl _), HA1.out.below (HBR6.out.trans (hZ.mono HPS.out)) (Nat.le_refl _)⟩) (HL1.out.below HBR6.out (Nat.le_refl _)) HUI.out hil2 HRM.out HOK.out HLE.out HIE.out)
              unfold RCopPost at HCP
              have hco := rcAll_ok (k := 1 + J.length) (I := I) (A := A) (ins := I.map (imgL a I)) (l := l) (s := ([], false)) (by omega) ⟨rfl, by simpa using HMK.out.ok.room⟩ hil2 HOK.out HIE.out
              generalize rcAll (1 + J.length) I A (I.map (imgL a I)) l ([], false) = rr at *
              obtain ⟨tt, cc, cf⟩ := rr
              have HTB := Lib.hid hco.bd
              have HTL : Hid (tt.length = 1 + I.length + A.length) := hco.len
              have HRB6 := Lib.hid HBR6.out
              clear hco hil2
              generalize I.map (imgL a I) = ins at *
              go_upto_region 19 with (go_at_call 86; go_loud (refine HCP.out.mono ?_; rintro e x2 ⟨t, vq, rfl, ht, hm, hk⟩; have HT9 := Lib.hid ht; have HM9 := Lib.hid hm; have HK9 := Lib.hid hk; clear ht hm hk p0 p1))
              have HB2X : Hid (Below W.heap.size W x2) := HBR6.out.trans (HK9.out.below.mono HPS.out)
              have HOJ2 := Lib.hid (rmk_own HM6.out HK9.out HOJ6.out)
              obtain ⟨ya, yc, rfl⟩ := HM9.out.row.shape
              have ht9 := HT9.out
              obtain ⟨ta, tc, rfl⟩ := own_shC ht9
              have HTI : Hid (IsInts x2 (.slice ta tt.length tc) tt) := ht9.ints (by have := HTL.out; have := HRM.out; show tt.length ≤ _; omega) (fun y hy => by have := HTB.out y hy; omega)
              clear ht9
              have hwd : Below x2.heap.size x2 x2.drew := (Below.refl _ x2).drew
              have HX3 := Lib.hid (HB2X.out.trans (hwd.mono HB2X.out.size))
              have hbx : x2.drew.heap[pm]? = some (.cells #[.slice qa J.length qc, .slice ya cc.length yc, .bool cf] 82 (0, 0)) := HM9.out.box
              have HBX3 := Lib.hid hbx
              have HRD : Hid (OwnP x2.drew pm (.slice ya cc.length yc) cc) := HM9.out.row.below hwd (Nat.le_refl _)
              have HOJ3 := Lib.hid (HOJ2.out.below hwd (Nat.le_refl _))
              have HTD := Lib.hid (HTI.out.below hwd (Nat.le_refl _))
              obtain ⟨d0, d1, _⟩ := box3r_cells hbx
              refine wp_region_held_drew (S := fun Z : World => Z.cell? ⟨pm, 0, none⟩ = some (.slice qa J.length qc) ∧ Z.cell? ⟨pm, 1, none⟩ = some (.slice ya cc.length yc)) (by kernel_rfl) ⟨d0, d1⟩ (fun hSd => ?_)
              clear hwd hbx d0 d1
              generalize x2.drew = x3 at *
              have HLX := Lib.hid (HL1.out.below HX3.out (Nat.le_refl _))
              have HIMG := Lib.hid (rimages_any _ _ tt l x3 HTD.out HLX.out (fun y hy => by have := edgesB_true.1 HLE.out y hy; rw [HTL.out]; exact this) HTB.out (by rw [HTL.out]; have := HRM.out; omega))
              refine takeC (i := 0) (v := .pointer (some ⟨pm, 0, none⟩)) (some 116) rfl rfl (by kernel_rfl) (by kernel_rfl) (by kernel_rfl) (fun _ _ _ h => h) (Or.inl ⟨by rfl, ?_⟩) (by assumption) ?_
              · intro wz hSw; go_simp
              try simp only [Act.put, List.setIfInBounds_toArray, List.set_cons_zero, List.set_cons_succ]
              refine takeC (i := 1) (v := .pointer (some ⟨pm, 0, none⟩)) (some 117) rfl rfl (by kernel_rfl) (by kernel_rfl) (by kernel_rfl) (fun _ _ _ h => h) (Or.inl ⟨by rfl, ?_⟩) (by assumption) ?_
              · intro wz hSw; go_simp
              try simp only [Act.put, List.setIfInBounds_toArray, List.set_cons_zero, List.set_cons_succ]
              refine takeC (i := 2) (v := .pointer (some ⟨pm, 0, none⟩)) (some 118) rfl rfl (by kernel_rfl) (by kernel_rfl) (by kernel_rfl) (fun _ _ _ h => h) (Or.inl ⟨by rfl, ?_⟩) (by assumption) ?_
              · intro wz hSw; go_simp
              try simp only [Act.put, List.setIfInBounds_toArray, List.set_cons_zero, List.set_cons_succ]
              refine takeC (i := 3) (v := .agg #[.slice qa J.length qc, .slice ya cc.length yc]) (some 119) rfl rfl (by kernel_rfl) (by kernel_rfl) (by kernel_rfl) (fun _ _ _ h => h) (Or.inl ⟨by rfl, ?_⟩) (by assumption) ?_
              · intro wz hSw; obtain ⟨t0, t1⟩ := hSw; go_simp
              try simp only [Act.put, List.setIfInBounds_toArray, List.set_cons_zero, List.set_cons_succ]
              refine takeC (i := 4) (v := .slice ta tt.length tc) (some 120) rfl rfl (by kernel_rfl) (by kernel_rfl) (by kernel_rfl) (fun _ _ _ h => h) (Or.inl ⟨by rfl, ?_⟩) (by assumption) ?_
              · intro wz hSw; go_simp
              try simp only [Act.put, List.setIfInBounds_toArray, List.set_cons_zero, List.set_cons_succ]
              refine takeC (i := 5) (v := .slice la l.length lc) (some 121) rfl rfl (by kernel_rfl) (by kernel_rfl) (by kernel_rfl) (fun _ _ _ h => h) (Or.inl ⟨by rfl, ?_⟩) (by assumption) ?_
              · intro wz hSw; go_simp
              try simp only [Act.put, List.setIfInBounds_toArray, List.set_cons_zero, List.set_cons_succ]
              refine wpAnyH_ready (rs := [6]) (by kernel_rfl) (by simp) ?_
              refine AllReadyH.cons rfl (fun K hK => ?_) AllReadyH.nil
              go_simp
              go_wp2_with (go_at_call 88; refine HIMG.out.mono ?_; rintro e x4 ⟨u2, rfl, hu2, hb4⟩)
              have HB4 := Lib.hid (HX3.out.trans (hb4.mono HX3.out.size))
              have HU2 := Lib.hid hu2
              obtain ⟨ua, uc, rfl⟩ := own_shC hu2
              have hlt3 : pm < x3.heap.size := (Array.getElem?_eq_some_iff.1 HBX3.out).1
              have hbx4 := (hb4.block pm hlt3).trans HBX3.out
              have HR4 : Hid (OwnP x4 pm (.slice ya cc.length yc) cc) := HRD.out.below hb4 (Nat.le_refl _)
              have HOJ4 := Lib.hid (HOJ3.out.below hb4 (Nat.le_refl _))
              obtain ⟨d0, d1, _⟩ := box3r_cells hbx4
              refine hK.out _ _ ⟨d0, d1⟩ (fun hHn => ?_)
              clear hK K hHn hb4 hu2 hSd
              try simp only [Act.put, List.setIfInBounds_toArray, List.set_cons_zero, List.set_cons_succ]
              have hr4 := (HB4.out.block _ (Array.getElem?_eq_some_iff.1 HRX.out).1).trans HRX.out
              obtain ⟨e0, e1, f0, f1⟩ := box2_cells hr4
              obtain ⟨g0, g1⟩ := box2_put hr4 (.slice qa J.length qc) (.slice ya cc.length yc)
              have HNE : Hid (pm ≠ w.heap.size + 1) := by have := HPS.out; have := HSZ.out; show _ ≠ _; omega
              have hS5 : ((x4.setCell ⟨w.heap.size + 1, 0, none⟩ (.slice qa J.length qc)).setCell ⟨w.heap.size + 1, 1, none⟩ (.slice ya cc.length yc)).cell? ⟨pm, 0, none⟩ = some (.slice qa J.length qc) ∧ ((x4.setCell ⟨w.heap.size + 1, 0, none⟩ (.slice qa J.length qc)).setCell ⟨w.heap.size + 1, 1, none⟩ (.slice ya cc.length yc)).cell? ⟨pm, 1, none⟩ = some (.slice ya cc.length yc) := by
                obtain ⟨y0, y1, _⟩ := box3r_cells ((heap_set_other 1 (.slice ya cc.length yc) HNE.out).trans ((heap_set_other 0 (.slice qa J.length qc) HNE.out).trans hbx4))
                exact ⟨y0, y1⟩
              refine wpAnyH_ready (rs := [7]) (by kernel_rfl) (by simp) ?_
              refine AllReadyH.cons rfl (fun K hK => ?_) AllReadyH.nil
              go_simp
              refine hK.out _ _ hS5 (fun hHn => ?_)
              clear hK K hHn e0 e1 f0 f1 d0 d1
              try simp only [Act.put, List.setIfInBounds_toArray, List.set_cons_zero, List.set_cons_succ]
              refine takeC (i := 8) (v := .slice ua (l.map (movE tt)).length uc) (some 7) rfl rfl (by kernel_rfl) (by kernel_rfl) (by kernel_rfl) (fun _ _ _ h => h) (Or.inl ⟨by rfl, ?_⟩) (by assumption) ?_
              · intro wz hSw; go_simp
              try simp only [Act.put, List.setIfInBounds_toArray, List.set_cons_zero, List.set_cons_succ]
              refine takeC (i := 9) (v := .int .i64 0) (some 8) rfl rfl (by kernel_rfl) (by kernel_rfl) (by kernel_rfl) (fun _ _ _ h => h) (Or.inl ⟨by rfl, ?_⟩) (by assumption) ?_
              · intro wz hSw; go_simp
              try simp only [Act.put, List.setIfInBounds_toArray, List.set_cons_zero, List.set_cons_succ]
              refine wpAnyH_done (by kernel_rfl) ?_ _
              clear hS5
              go_wp2
              refine ⟨rfl, .tuple #[.agg #[.slice qa J.length qc, .slice ya cc.length yc], .slice ua (l.map (movE tt)).length uc, .int .i64 0], by simp [results, Tryz.f35, go_sem, g0, g1], ?_⟩
              rw [HE.out]
              have HBF := ((HB0.out.trans (HB4.out.mono HB0.out.size)).setCell (p := ⟨w.heap.size + 1, 0, none⟩) (by show _ ≤ _ + 1; omega) (.slice qa J.length qc)).setCell (p := ⟨w.heap.size + 1, 1, none⟩) (by show _ ≤ _ + 1; omega) (.slice ya cc.length yc)
              have hps := HPS.out
              have hsz := HSZ.out
              have hx3 : w.heap.size + 1 < x3.heap.size := by omega
              have hx5 : w.heap.size + 1 < pm := by omega
              refine ⟨_, _, _, rfl, ⟨?_, ?_⟩, ?_, HBF⟩
              · have h := (HOJ4.out.set_far (c := w.heap.size + 1) (n := 0) (u := (.slice qa J.length qc)) (by omega)).set_far (c := w.heap.size + 1) (n := 1) (u := (.slice ya cc.length yc)) (by omega)
                exact h.ints (by omega) (fun y hy => by have := HJB.out y hy; omega)
              · exact ((HR4.out.set_far (n := 0) (u := (.slice qa J.length qc)) hx5).set_far (n := 1) (u := (.slice ya cc.length yc)) hx5).pairs (by have h : 1 + J.length + cc.length ≤ 200000 := HM9.out.ok.room; omega) HM9.out.inp
              · have h := (HU2.out.set_far (n := 0) (u := (.slice qa J.length qc)) hx3).set_far (n := 1) (u := (.slice ya cc.length yc)) hx3
                refine h.ints (by rw [List.length_map]; exact HLL.out) (fun y hy => ?_)
                obtain ⟨z, hz, rfl⟩ := List.mem_map.1 hy
                have h9 := edgesB_true.1 HLE.out z hz
                have h10 : 0 ≤ movE tt z ∧ movE tt z ≤ 4000001 := by
                  have hq : (z / 2).toNat < tt.length := by rw [HTL.out]; omega
                  have hb := HTB.out (tt.getD (z / 2).toNat 0) (by simp [List.getD, hq])
                  unfold movE
                  split
                  · omega
                  · exact notE_bdR hb
                omega
    · have hm : mayB a = false := by simpa using hm
      have HE : Hid (restR I A l a = (([], []), [], 2)) := by show _ = _; unfold restR; rw [hm]; simp
      rw [hh] at HH
      rw [hm] at HNO
      clear hm hh
      go_wp2_with (first
        | (go_at_call 46; refine (HNO.out w1 HB1.out).mono ?_; rintro e w2 ⟨rfl, hq⟩; obtain ⟨⟨c0, c1, f0, f1⟩, ⟨g0, g1⟩, hpost⟩ := HBAD.out w2 (HB1.out.trans ((hq.below _).mono HB1.out.size)) HE.out; have HPO := Lib.hid hpost; clear hpost hq)
        | (go_at_call 65; refine HH.out.mono ?_; rintro e w1 ⟨rfl, hb1⟩; have HB1 := Lib.hid hb1; clear hb1))
      exact ⟨rfl, .tuple #[.agg #[.slice none 0 0, .slice none 0 0], .slice none 0 0, .int .i64 2], by simp [results, Tryz.f35, go_sem, g0, g1], HPO.out⟩
  · have hh : hasA I A l = false := by simpa using hh
    have HE : Hid (restR I A l a = (([], []), [], 2)) := by show _ = _; unfold restR; rw [hh]; simp
    rw [hh] at HH
    clear hh
    go_wp2_with (go_at_call 65; refine HH.out.mono ?_; rintro e w1 ⟨rfl, hb1⟩; obtain ⟨⟨c0, c1, f0, f1⟩, ⟨g0, g1⟩, hpost⟩ := HBAD.out w1 hb1 HE.out; have HPO := Lib.hid hpost; clear hpost hb1)
    exact ⟨rfl, .tuple #[.agg #[.slice none 0 0, .slice none 0 0], .slice none 0 0, .int .i64 2], by simp [results, Tryz.f35, go_sem, g0, g1], HPO.out⟩
end Go.Proofs.YtfghjfljomcldaaGreat
