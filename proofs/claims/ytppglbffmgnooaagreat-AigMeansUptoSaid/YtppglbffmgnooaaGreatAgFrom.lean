/- aig.FromNet. Written by gen-comp.py out of from.src. -/
import Derived.Test.YtppglbffmgnooaaGreatA15
namespace Go.Proofs.YtppglbffmgnooaaGreat
open Go.RowKit Go.Maps
set_option linter.unusedVariables false
set_option linter.unusedSimpArgs false

theorem mayN_lits {P : List Blk} {gs : List Gt} {o : Int} (h : mayN P gs o = true) : ∀ g ∈ gs, g.2.2.length ≤ 200000 := by
  have key : ∀ (gs : List Gt) (S : List Int) (t : Nat) (R : List Int), namedL S t gs = some R → ∀ g ∈ gs, g.2.2.length ≤ 200000 := by
    intro gs
    induction gs with
    | nil => intro S t R _ g hg; cases hg
    | cons x r ih =>
      intro S t R hn g hg
      unfold namedL at hn
      split at hn
      · rename_i hx
        rcases List.mem_cons.1 hg with rfl | hg
        · unfold gOk at hx
          simp only [Bool.and_eq_true, decide_eq_true_eq] at hx
          omega
        · exact ih _ _ _ hn g hg
      · cases hn
  unfold mayN namedN at h
  rw [if_pos (mayN_pre (by unfold mayN namedN; exact h))] at h
  cases e : namedL (flatB P) 0 gs with
  | none => rw [e] at h; cases h
  | some R => exact key gs _ _ R e
theorem mayN_bds {P : List Blk} {gs : List Gt} {o : Int} (h : mayN P gs o = true) : (∀ g ∈ gs, (1 ≤ g.1 ∧ g.1 ≤ 65536) ∧ ∀ x ∈ g.2.2, -65536 ≤ x ∧ x ≤ 65536) ∧ -65536 ≤ o ∧ o ≤ 65536 := by
  have hv : ∀ x : Int, 1 ≤ varC x ∧ varC x ≤ 65536 → -65536 ≤ x ∧ x ≤ 65536 := fun x hx => by
    unfold varC at hx
    split at hx
    · split at hx <;> omega
    · omega
  have key : ∀ (gs : List Gt) (S : List Int) (t : Nat) (R : List Int), (∀ v ∈ S, 1 ≤ v ∧ v ≤ 65536) → namedL S t gs = some R → (∀ g ∈ gs, (1 ≤ g.1 ∧ g.1 ≤ 65536) ∧ ∀ x ∈ g.2.2, -65536 ≤ x ∧ x ≤ 65536) ∧ ∀ v ∈ R, 1 ≤ v ∧ v ≤ 65536 := by
    intro gs
    induction gs with
    | nil =>
      intro S t R hS hn
      unfold namedL at hn
      cases hn
      exact ⟨(fun g hg => by cases hg), hS⟩
    | cons x r ih =>
      intro S t R hS hn
      unfold namedL at hn
      split at hn
      · rename_i hx
        unfold gOk entB at hx
        simp only [Bool.and_eq_true, decide_eq_true_eq, List.all_eq_true] at hx
        obtain ⟨_, _, hl, he⟩ := hx
        obtain ⟨i1, i2⟩ := ih _ _ _ (fun v hvm => by
          rcases List.mem_append.1 hvm with h | h
          · exact hS v h
          · rw [List.mem_singleton] at h; subst h; exact ⟨he.1, he.2.1⟩) hn
        refine ⟨fun g hg => ?_, i2⟩
        rcases List.mem_cons.1 hg with rfl | hg
        · exact ⟨⟨he.1, he.2.1⟩, fun y hy => hv y (hS _ (hl y hy))⟩
        · exact i1 g hg
      · cases hn
  have hp := mayN_pre h
  unfold mayN namedN at h
  rw [if_pos hp] at h
  cases e : namedL (flatB P) 0 gs with
  | none => rw [e] at h; cases h
  | some R =>
    rw [e] at h
    obtain ⟨k1, k2⟩ := key gs _ _ R (mayP_nums hp).2.1 e
    exact ⟨k1, hv o (k2 _ (of_decide_eq_true h))⟩
theorem gate_box {w0 : World} {x kd : Int} {u : Value} : (w0.alloc (.cells #[.int .i64 x, .int .u8 kd, u] 101)).heap[w0.heap.size]? = some (.cells #[.int .i64 x, .int .u8 kd, u] 101 (0, 0)) := World.alloc_heap_new _ _
set_option maxRecDepth 100000 in
set_option maxHeartbeats 12800000 in
theorem gfromnet_any (vp vg : Value) (o : Int) (P : List Blk) (gs : List Gt) (w : World) (HP : IsBlocks w vp P) (HG : IsGates w vg gs) (hp : P.length ≤ 4000000) (hg : gs.length ≤ 3000000) (ho1 : -9223372036854775807 ≤ o) (ho2 : o ≤ 9223372036854775807) :
    Calls Tryz.prog 54 #[.agg #[vp, vg, .int .i64 o]] w (NetRPost w (netR P gs o)) := by
  obtain ⟨hb0, hsz, hnx, hrx⟩ := from_boxes w vp vg o
  have HP1 := Lib.hid (HP.below hb0 (Nat.le_refl _))
  have HG1 := Lib.hid (HG.below hb0 (Nat.le_refl _))
  obtain ⟨pa, pc, rfl, _⟩ := HP.shape
  obtain ⟨ga, gc, rfl, _⟩ := HG.shape
  clear HP HG
  go_enter Tryz.func54, Tryz.ntmps54
  go_upto_region 1 with fail
  generalize World.alloc (World.alloc w _) _ = W at *
  have HB0 := Lib.hid hb0
  have HSZ := Lib.hid hsz
  have HNX := Lib.hid hnx
  have HRX := Lib.hid hrx
  obtain ⟨p0, p1, p2⟩ := box3_cells hnx
  have HMY := Lib.hid (cmay_any _ _ o P gs W HP1.out HG1.out hp hg (by omega) ho2)
  clear hb0 hsz hnx hrx
  by_cases hm : mayN P gs o = true
  · have HM := Lib.hid hm
    rw [hm] at HMY
    have hpm := mayN_pre hm
    have hnums := mayP_nums hpm
    have hfl : (flatB P).length ≤ 1024 := hnums.2.2
    have HQT := Lib.hid (fun X (hX : Below W.heap.size W X) => aquant_any _ P X (HP1.out.below hX (Nat.le_refl _)) hp (by omega))
    have hIl : (netI P).length ≤ 1024 := by rw [netI_len]; exact hfl
    have HIB := Lib.hid (netI_ins hpm)
    have HIS := Lib.hid (netI_lt hpm)
    have hI64 : In64 (netI P) := fun x hx => by have := hnums.2.1 x (ascI_mem.1 hx); omega
    have HI64 := Lib.hid hI64
    have HIE : Hid (ascI (flatB P) = netI P) := rfl
    rw [HIE.out] at HQT
    have HMK : Hid (∀ X v6, Own X W.heap.size v6 (netI P) → Calls Tryz.prog 91 #[.agg #[v6, .slice none 0 0]] X fun r w' => ∃ pm vi' bf, r = .returned (.pointer (some ⟨pm, 0, none⟩)) ∧ MkE w' X.heap.size pm (netI P) ([], false) vi' bf 0 ∧ Below X.heap.size X w') := fun X v6 ho =>
      maker0_any v6 (.slice none 0 0) (netI P) X (ho.ints (by omega) HI64.out) (GrO.nil X 0).ints.2 HIB.out (by omega)
    obtain ⟨I, hI⟩ : ∃ I, netI P = I := ⟨_, rfl⟩
    rw [hI] at HQT HMK HIB HIS HI64 hIl
    have HI := Lib.hid hI
    clear hI hm hpm hnums hfl hI64 HIE
    go_upto_region 4 with (first
      | (go_at_call 91; refine (HMK.out w2 _ HV2.out).mono ?_; rintro e w3 ⟨pm, vi, bf, rfl, hm3, hb3⟩; have HM3 := Lib.hid hm3; have HB3 := Lib.hid hb3; clear hm3 hb3)
      | (go_at_call 128; refine (HQT.out w1 HB1.out).mono ?_; rintro e w2 ⟨v2, rfl, ho, hb⟩; obtain ⟨a2, c2, rfl⟩ := own_shC ho; have HV2 := Lib.hid (ho.mono HB1.out.size); have HB2 := Lib.hid (HB1.out.trans (hb.mono HB1.out.size)); clear ho hb)
      | (go_at_call 127; refine HMY.out.mono ?_; rintro e w1 ⟨rfl, hb1⟩; have HB1 := Lib.hid hb1; clear hb1; obtain ⟨q0, q1, q2⟩ := box3_cells ((HB1.out.block _ (by have := HSZ.out; omega)).trans HNX.out)))
    clear HMK HQT HMY p0 p1 p2 q0 q1 q2
    have HB23 := Lib.hid (HB2.out.trans (HB3.out.mono HB2.out.size))
    have hmm := @run_makeMap Tryz.prog
    go_upto_region 5 with fail
    have hba := below_alloc1 w3 (.map #[] 0)
    have HM4 := Lib.hid (HM3.out.below hba (Nat.le_refl _))
    have hM0 := MapM.made w3
    have HMM := Lib.hid hM0
    have HB4 := Lib.hid (HB23.out.trans (hba.mono HB23.out.size))
    have hz4 : (w3.alloc (.map #[] 0)).heap.size = w3.heap.size + 1 := by simp
    have HZ4 := Lib.hid hz4
    have HOLD := Lib.hid (HM3.out.old)
    have HLB : Hid (W.heap.size ≤ w3.heap.size) := HB23.out.size
    have HLW2 : Hid (w2.heap.size ≤ w3.heap.size ∧ W.heap.size ≤ w2.heap.size) := ⟨HB3.out.size, HB2.out.size⟩
    clear hM0 hba hz4
    generalize w3.alloc (.map #[] 0) = w4 at *
    generalize w3.heap.size = bm at *
    clear HM3 HB3 HB23
    obtain ⟨c0, c1, c4⟩ := HM4.out.cell
    obtain ⟨hvi, _⟩ := HM4.out.ins
    obtain ⟨ia, ic, rfl⟩ := hvi.shape
    have HVI := Lib.hid hvi
    clear hvi
    go_wp2
    have HNE : Hid (bm ≠ bf ∧ bm ≠ pm) := ⟨by have := HOLD.out; omega, by have := HOLD.out; omega⟩
    obtain ⟨es4, ck4, hob4⟩ := HMM.out.obj
    have HOB := Lib.hid hob4
    clear hob4 c0 c4 c1 hmm
    go_loopw [32] (fun s32 wr => ∃ k : Nat, k ≤ I.length ∧ s32 = .int .i64 k ∧ MapM wr bm k (inFold I (I.take k)) ∧ Kept (fun j => j = bm) w4 wr) (fun s32 _ => I.length - (intOf s32).toNat)
    case atStart => exact ⟨0, Nat.zero_le _, rfl, HMM.out, Kept.refl _ _⟩
    case round =>
      obtain ⟨k, hk, rfl, hm, hkp⟩ := hrel
      have HMR := Lib.hid hm
      have HKR := Lib.hid hkp
      have HMK := Lib.hid (HM4.out.keptMap hkp HOB.out HNE.out.1)
      obtain ⟨hvi, _⟩ := HMK.out.ins
      clear hm hkp
      by_cases hlt : k < I.length
      · obtain ⟨b, off, rfl, hbl, hcx⟩ := hvi.cellY hlt
        have hx64 := HI64.out _ (ints_getD_mem hlt)
        have HIN := Lib.hid (input_any (I.getD k 0) HMK.out HIS.out)
        have HFS := Lib.hid (inFold_succ (I := I) hlt)
        have hpb := placeA_bd I (I.getD k 0)
        have hkb : k < 1024 := by omega
        have HKL := Lib.hid hlt
        clear hvi hlt
        generalize I.getD k 0 = x at *
        obtain ⟨x0, x1⟩ := hx64
        have hpb2 : 2 * placeA I x ≤ 4096 := by omega
        have hpb1 : 0 ≤ 2 * placeA I x := by omega
        generalize 2 * placeA I x = px at *
        clear hpb
        go_wp2_with (go_at_call 96; go_loud (refine HIN.out.mono ?_; rintro e w9 ⟨rfl, hq⟩; obtain ⟨w5, hrun, hm5, hk5⟩ := (HMR.out.below (hq.below _) (Nat.le_refl _)).put (by unfold maxLen; omega) x px (i64w x0 x1) (i64w (by omega) (by omega)); have HM5 := Lib.hid hm5; have HK5 := Lib.hid (HKR.out.trans (Kept.next (S := fun j => j = bm) (T := fun j => j = bm) ⟨hq.below 0 |>.os, hq.below 0 |>.tape, hq.below 0 |>.output, (hq.below 0).size, fun j hj _ => (hq.below wr.heap.size).block j hj⟩ hk5 (fun i _ e => e))); clear hm5 hk5 hq))
        go_roundw
        case rel => exact ⟨k + 1, HKL.out, by go_num, by rw [HFS.out]; exact HM5.out, HK5.out⟩
        case measure => have := HKL.out; simp [intOf]; omega
      · obtain rfl : k = I.length := by omega
        rw [List.take_length] at HMR
        have HBW := Lib.hid (HB4.out.trans (HKR.out.kpm (B := W.heap.size) HLB.out HB4.out.size))
        have hgx := (HBW.out.block _ (by have := HSZ.out; omega)).trans HNX.out
        obtain ⟨q0, q1, q2⟩ := box3_cells hgx
        have HFIT := Lib.hid (mayN_fits HM.out)
        have HBDS := Lib.hid (mayN_bds HM.out)
        have HLIT := Lib.hid (mayN_lits HM.out)
        have HNQ : Hid (∀ j, NetOk (1 + I.length) (netQ I (gs.take j))) := fun j => netQ_ok (by omega) _ (fun g hg => HFIT.out g (List.mem_of_mem_take hg))
        have HMB : Hid (w2.heap.size ≤ wr.heap.size) := by have := HKR.out.size; have := HLW2.out.1; have := HZ4.out; show _ ≤ _; omega
        have hmap0 : MapM wr bm (I.length + 0) (netQ I (gs.take 0)).1 := HMR.out
        have hmk0 : MkE wr w2.heap.size pm I (netQ I (gs.take 0)).2 (.slice ia I.length ic) bf 0 := HMK.out
        have HM0 := Lib.hid hmap0
        have HK0 := Lib.hid hmk0
        clear hmap0 hmk0 hgx hvi hk HMR HMK
        go_wp2
        clear q0 q1 q2
        have HBQ : Hid (bm < wr.heap.size) := HM0.out.lt
        generalize wr = W5 at *
        go_loopw [45] (fun s45 X => ∃ k : Nat, k ≤ gs.length ∧ s45 = .int .i64 k ∧ MkE X w2.heap.size pm I (netQ I (gs.take k)).2 (.slice ia I.length ic) bf 0 ∧ MapM X bm (I.length + k) (netQ I (gs.take k)).1 ∧ Below W.heap.size W X ∧ W5.heap.size ≤ X.heap.size) (fun s45 _ => gs.length - (intOf s45).toNat)
        case atStart => exact ⟨0, Nat.zero_le _, rfl, HK0.out, HM0.out, HBW.out, Nat.le_refl _⟩
        case round =>
          obtain ⟨k, hk, rfl, hmk, hmm, hbw, hsz5⟩ := hrel
          have HMK := Lib.hid hmk
          have HMM2 := Lib.hid hmm
          have HBX := Lib.hid hbw
          have HSX : Hid (w2.heap.size ≤ wr.heap.size ∧ bm < wr.heap.size) := ⟨Nat.le_trans HMB.out hsz5, Nat.lt_of_lt_of_le HBQ.out hsz5⟩
          have HS5 := Lib.hid hsz5
          clear hmk hmm hbw hsz5
          by_cases hlt : k < gs.length
          · obtain ⟨gb, goff, u, rfl, hbl, hx0, hk0, hu0, HU0, hb64, hkd⟩ := HG1.out.at hlt
            have hx := (HBX.out.cell (p := ⟨gb, goff + k * 3, none⟩) hbl).trans hx0
            have hkdc := (HBX.out.cell (p := ⟨gb, goff + k * 3 + 1, none⟩) hbl).trans hk0
            have hu := (HBX.out.cell (p := ⟨gb, goff + k * 3 + 2, none⟩) hbl).trans hu0
            have hmem : gs.getD k dG ∈ gs := by simp [List.getD, hlt]
            have HFG := Lib.hid (HFIT.out _ hmem)
            have hbd := HBDS.out.1 _ hmem
            have HLB2 := Lib.hid hbd.2
            have hgx1 := hbd.1.1
            have hgx2 := hbd.1.2
            have hll := HLIT.out _ hmem
            have HST := Lib.hid (netQ_succ (I := I) hlt)
            have HNO := Lib.hid (HNQ.out k)
            have HKL := Lib.hid hlt
            have hkb : k < 3000000 := by omega
            have HU := Lib.hid (HU0.below (HBX.out.trans ((below_alloc1 wr (.cells #[.int .i64 (gs.getD k dG).1, .int .u8 (gs.getD k dG).2.1, u] 101)).mono HBX.out.size)) (Nat.le_refl _))
            clear hx0 hk0 hu0 HU0 hmem hbd hb64
            generalize netQ I (gs.take k) = q at *
            generalize hgg : gs.getD k dG = g at *
            obtain ⟨x, kd, l⟩ := g
            simp only at hx hkdc hu hgx1 hgx2 hll HU HFG HLB2 hkd
            have HGG := Lib.hid hgg
            obtain ⟨ua, uc, rfl⟩ := HU.out.shape
            clear hgg
            go_upto_region 13 with fail
            clear hlt
            have hbx := gate_box (w0 := wr) (x := x) (kd := kd) (u := .slice ua l.length uc)
            have hba := below_alloc1 wr (.cells #[.int .i64 x, .int .u8 kd, .slice ua l.length uc] 101)
            have HMK2 := Lib.hid (HMK.out.below hba (Nat.le_refl _))
            have HMM3 := Lib.hid (HMM2.out.below hba (Nat.le_refl _))
            have HBY := Lib.hid (HBX.out.trans (hba.mono HBX.out.size))
            have HYS : Hid (wr.heap.size < (wr.alloc (.cells #[.int .i64 x, .int .u8 kd, .slice ua l.length uc] 101)).heap.size) := by show _ < _; simp
            obtain ⟨y0, y1, y2⟩ := box3_cells hbx
            have HGB := Lib.hid hbx
            clear hbx hba hx hkdc hu HMK HMM2
            generalize wr.alloc (.cells #[.int .i64 x, .int .u8 kd, .slice ua l.length uc] 101) = Y at *
            generalize wr.heap.size = gbx at *
            go_wp2
            clear y2
            have HED : Hid (∀ X, Below Y.heap.size Y X → ∀ z ∈ l, Calls Tryz.prog 129 #[.int .i64 z, .map (some bm)] X fun e w' => e = .returned (.int .i64 (edgeOfA q.1 z)) ∧ X = w') := fun X hX z hz => edgeOf_any bm _ q.1 z X (HMM3.out.below hX (Nat.le_refl _)) (by have := HLB2.out z hz; omega) (by have := HLB2.out z hz; omega) (HNO.out.fe.bd (by have := HNO.out.ok.room; omega))
            go_loopw [11, 52] (fun s11 s52 wr => ∃ j : Nat, j ≤ l.length ∧ s52 = .int .i64 j ∧ Own wr Y.heap.size s11 ((l.take j).map (edgeOfA q.1)) ∧ Below Y.heap.size Y wr) (fun _ s52 _ => l.length - (intOf s52).toNat)
            case atStart => exact ⟨0, Nat.zero_le _, rfl, by simpa using Own.nil _ _, Below.refl _ _⟩
            case round =>
              obtain ⟨j, hj, rfl, ho, hbj⟩ := hrel
              have HO := Lib.hid ho
              have HBJ := Lib.hid hbj
              obtain ⟨oa, oc, rfl⟩ := own_shC ho
              clear ho hbj
              by_cases hjl : j < l.length
              · obtain ⟨lb, loff, rfl, hlb, hz0⟩ := HU.out.cellY hjl
                have hz := (HBJ.out.cell (p := ⟨lb, loff + j, none⟩) hlb).trans hz0
                have hzm := ints_getD_mem hjl
                have HE := Lib.hid (HED.out wr HBJ.out _ hzm)
                have HTK := Lib.hid (ints_take_succ hjl)
                have HJL := Lib.hid hjl
                have hjb : j < 200000 := by omega
                have HLEN : Hid (((l.take j).map (edgeOfA q.1)).length < 17592186044416) := by show _ < _; rw [List.length_map, List.length_take]; omega
                have HMP : Hid ((l.take (j + 1)).map (edgeOfA q.1) = (l.take j).map (edgeOfA q.1) ++ [edgeOfA q.1 (l.getD j 0)]) := by show _ = _; rw [HTK.out, List.map_append]; rfl
                clear hz0 hjl hzm
                generalize (l.take j).map (edgeOfA q.1) = acc at *
                generalize edgeOfA q.1 (l.getD j 0) = y at *
                generalize l.getD j 0 = z at *
                go_wp2_with (first
                  | (at_builtin; go_loud (refine wpList_app1A rfl _ _ rfl Y.heap.size _ _ y wr.heap.size rfl rfl (HO.out.alloc _) (cell_fresh rfl) HLEN.out (by simp; have := HBJ.out.size; omega) ?_; intro u' w' ho' hg' _; have HO' := Lib.hid ho'; have HG' := Lib.hid hg'; clear ho' hg'))
                  | (go_at_call 129; go_loud (refine HE.out.mono ?_; rintro e w9 ⟨rfl, rfl⟩)))
                have HBJ2 := Lib.hid (HBJ.out.trans ((below_alloc1 wr (.cells #[.int .i64 y] 3)).mono HBJ.out.size))
                go_roundw
                case rel => exact ⟨j + 1, HJL.out, by go_num, by rw [HMP.out]; exact HO'.out, HBJ2.out.grown HG'.out HBJ2.out.size (fun g e => (HO.out.lt g e).1)⟩
                case measure => have := HJL.out; simp [intOf]; omega
              · obtain rfl : j = l.length := by omega
                rw [List.take_length] at HO
                have HBZ := Lib.hid (HBY.out.trans (HBJ.out.mono HBY.out.size))
                have hbx := (HBJ.out.block gbx HYS.out).trans HGB.out
                have HSZ3 : Hid (w2.heap.size ≤ wr.heap.size ∧ W5.heap.size ≤ wr.heap.size) := ⟨by have := HSX.out.1; have := HYS.out; have := HBJ.out.size; omega, by have := HS5.out; have := HYS.out; have := HBJ.out.size; omega⟩
                have HMK3 := Lib.hid (HMK2.out.below HBJ.out (Nat.le_refl _))
                have HMD : Hid (MkE wr.drew w2.heap.size pm I q.2 (.slice ia I.length ic) bf 0) := HMK3.out.below ((Below.refl _ wr).drew) (Nat.le_refl _)
                have HMP3 := Lib.hid (HMM3.out.below HBJ.out (Nat.le_refl _))
                have hneed := fits_need HFG.out
                have HILS : Hid (In64 (l.map (edgeOfA q.1))) := fun e he => by
                  have h1 := isE_true.1 (HNO.out.ins (by omega) l e he)
                  have h2 := HNO.out.ok.room
                  omega
                have HGT : Hid (Calls Tryz.prog 130 #[.pointer (some ⟨pm, 0, none⟩), .int .u8 kd, .slice oa l.length oc] wr.drew (AndPost wr.drew w2.heap.size pm I (.slice ia I.length ic) bf 0 (gateMk (1 + I.length) q.2 kd (l.map (edgeOfA q.1))))) := by
                  have hlen2 : (l.map (edgeOfA q.1)).length = l.length := List.length_map _
                  show Calls _ _ _ _ _
                  rw [← hlen2]
                  exact gate_e kd HMD.out (Nat.le_trans HSZ3.out.1 (Nat.le_refl _)) (fun X hX => (kpM_own HMD.out hX ((show Own wr Y.heap.size (.slice oa (l.map (edgeOfA q.1)).length oc) (l.map (edgeOfA q.1)) from HO.out).below ((Below.refl _ wr).drew) (Nat.le_refl _))).ints (by rw [List.length_map]; omega) HILS.out) (HNO.out.ins (by omega) l) (by rw [List.length_map]; omega)
                    (by rw [List.length_map]; exact hneed.1) (by rw [List.length_map]; exact hneed.2.1)
                rw [List.length_map] at HO
                have HGM := Lib.hid (HNO.out.gate (g := (x, kd, l)) (by omega) HFG.out)
                have HGS : Hid (gStepN (1 + I.length) q (x, kd, l) = (updM q.1 x (gateMk (1 + I.length) q.2 kd (l.map (edgeOfA q.1))).1, (gateMk (1 + I.length) q.2 kd (l.map (edgeOfA q.1))).2)) := rfl
                have hgbm : gbx ≠ pm ∧ gbx ≠ bf ∧ gbx ≠ bm := by
                  have h1 := HOLD.out
                  have h2 := HSX.out.2
                  omega
                have HGN := Lib.hid hgbm
                clear y0 y1 hneed hj hgbm
                unfold AndPost at HGT
                generalize l.map (edgeOfA q.1) = l2 at *
                generalize hgr : gateMk (1 + I.length) q.2 kd l2 = rr at *
                obtain ⟨r1, sr⟩ := rr
                have HRB : Hid (0 ≤ r1 ∧ r1 ≤ 4000000) := by
                  have h1 := isE_true.1 HGM.out.edge
                  have h2 := HGM.out.ok.room
                  simp only at h1 h2
                  show _ ∧ _
                  omega
                clear hgr
                go_upto_region 19 with fail
                refine wp_region_held_drew (S := fun X : World => X.heap[gbx]? = some (.cells #[.int .i64 x, .int .u8 kd, .slice ua l.length uc] 101 (0, 0))) (by kernel_rfl) hbx (fun hSd => ?_)
                refine takeC (i := 0) (v := .map (some bm)) (some 63) rfl rfl (by kernel_rfl) (by kernel_rfl) (by kernel_rfl) (fun _ _ _ h => h) (Or.inl ⟨by rfl, ?_⟩) (by assumption) ?_
                · intro wz hSw; obtain ⟨t0, t1, t2⟩ := box3_cells (show wz.heap[_]? = _ from hSw); go_simp
                try simp only [Act.put, List.setIfInBounds_toArray, List.set_cons_zero, List.set_cons_succ]
                refine takeC (i := 1) (v := .pointer (some ⟨gbx, 0, none⟩)) (some 64) rfl rfl (by kernel_rfl) (by kernel_rfl) (by kernel_rfl) (fun _ _ _ h => h) (Or.inl ⟨by rfl, ?_⟩) (by assumption) ?_
                · intro wz hSw; obtain ⟨t0, t1, t2⟩ := box3_cells (show wz.heap[_]? = _ from hSw); go_simp
                try simp only [Act.put, List.setIfInBounds_toArray, List.set_cons_zero, List.set_cons_succ]
                refine takeC (i := 2) (v := .int .i64 x) (some 65) rfl rfl (by kernel_rfl) (by kernel_rfl) (by kernel_rfl) (fun _ _ _ h => h) (Or.inl ⟨by rfl, ?_⟩) (by assumption) ?_
                · intro wz hSw; obtain ⟨t0, t1, t2⟩ := box3_cells (show wz.heap[_]? = _ from hSw); go_simp
                try simp only [Act.put, List.setIfInBounds_toArray, List.set_cons_zero, List.set_cons_succ]
                refine takeC (i := 3) (v := .pointer (some ⟨pm, 0, none⟩)) (some 66) rfl rfl (by kernel_rfl) (by kernel_rfl) (by kernel_rfl) (fun _ _ _ h => h) (Or.inl ⟨by rfl, ?_⟩) (by assumption) ?_
                · intro wz hSw; obtain ⟨t0, t1, t2⟩ := box3_cells (show wz.heap[_]? = _ from hSw); go_simp
                try simp only [Act.put, List.setIfInBounds_toArray, List.set_cons_zero, List.set_cons_succ]
                refine takeC (i := 4) (v := .pointer (some ⟨gbx, 1, none⟩)) (some 67) rfl rfl (by kernel_rfl) (by kernel_rfl) (by kernel_rfl) (fun _ _ _ h => h) (Or.inl ⟨by rfl, ?_⟩) (by assumption) ?_
                · intro wz hSw; obtain ⟨t0, t1, t2⟩ := box3_cells (show wz.heap[_]? = _ from hSw); go_simp
                try simp only [Act.put, List.setIfInBounds_toArray, List.set_cons_zero, List.set_cons_succ]
                refine takeC (i := 5) (v := .int .u8 kd) (some 68) rfl rfl (by kernel_rfl) (by kernel_rfl) (by kernel_rfl) (fun _ _ _ h => h) (Or.inl ⟨by rfl, ?_⟩) (by assumption) ?_
                · intro wz hSw; obtain ⟨t0, t1, t2⟩ := box3_cells (show wz.heap[_]? = _ from hSw); go_simp
                try simp only [Act.put, List.setIfInBounds_toArray, List.set_cons_zero, List.set_cons_succ]
                refine takeC (i := 6) (v := .slice oa l.length oc) (some 69) rfl rfl (by kernel_rfl) (by kernel_rfl) (by kernel_rfl) (fun _ _ _ h => h) (Or.inl ⟨by rfl, ?_⟩) (by assumption) ?_
                · intro wz hSw; obtain ⟨t0, t1, t2⟩ := box3_cells (show wz.heap[_]? = _ from hSw); go_simp
                try simp only [Act.put, List.setIfInBounds_toArray, List.set_cons_zero, List.set_cons_succ]
                refine wpAnyH_ready (rs := [7]) (by kernel_rfl) (by simp) ?_
                refine AllReadyH.cons rfl (fun K hK => ?_) AllReadyH.nil
                go_simp
                go_wp2_with (go_at_call 130; go_loud (refine HGT.out.mono ?_; rintro e w6 ⟨rfl, hm6, hk6⟩; have HM6 := Lib.hid hm6; have HK6 := Lib.hid hk6; clear hm6 hk6))
                have hbx6 : w6.heap[gbx]? = some (.cells #[.int .i64 x, .int .u8 kd, .slice ua l.length uc] 101 (0, 0)) := HK6.out.same gbx _ HGN.out.1 HGN.out.2.1 hbx (fun e => absurd e (by decide))
                refine hK.out _ _ hbx6 (fun hHn => ?_)
                clear hK K hHn
                try simp only [Act.put, List.setIfInBounds_toArray, List.set_cons_zero, List.set_cons_succ]
                have HMM6 := Lib.hid ((HMP3.out.below (w' := wr.drew) ((Below.refl _ wr).drew) (Nat.le_refl _)).kpm HK6.out HNE.out.2 HNE.out.1)
                obtain ⟨w7, hrun, hm7, hk7⟩ := HMM6.out.put (by unfold maxLen; omega) x r1 (i64w (by omega) (by omega)) (i64w (by have := HRB.out; omega) (by have := HRB.out; omega))
                have HM7 := Lib.hid hm7
                have HK7 := Lib.hid hk7
                obtain ⟨es6, ck6, hob6⟩ := HMM6.out.obj
                have HMK7 : Hid (MkE w7 w2.heap.size pm I sr (.slice ia I.length ic) bf 0) := MkE.keptMap (show MkE w6 w2.heap.size pm I sr (.slice ia I.length ic) bf 0 from HM6.out) hk7 hob6 HNE.out.1
                have hbx7 : w7.heap[gbx]? = some (.cells #[.int .i64 x, .int .u8 kd, .slice ua l.length uc] 101 (0, 0)) := (hk7.block gbx (Array.getElem?_eq_some_iff.1 hbx6).1 HGN.out.2.2).trans hbx6
                clear hm7 hk7 hob6
                refine wpAnyH_ready (rs := [8]) (by kernel_rfl) (by simp) ?_
                refine AllReadyH.cons rfl (fun K hK => ?_) AllReadyH.nil
                go_simp
                refine hK.out _ _ hbx7 (fun hHn => ?_)
                clear hK K hHn
                try simp only [Act.put, List.setIfInBounds_toArray, List.set_cons_zero, List.set_cons_succ]
                refine wpAnyH_done (by kernel_rfl) ?_ _
                clear hrun hbx6 hbx7 hbx
                have HBF : Hid (Below W.heap.size W w7) := by
                  have h1 : Below W.heap.size wr.drew w6 := HK6.out.below.mono HLW2.out.2
                  exact (HBZ.out.drew.trans h1).trans (HK7.out.kpm (B := W.heap.size) HLB.out (HBZ.out.drew.trans h1).size)
                have HSF : Hid (W5.heap.size ≤ w7.heap.size) := by have h1 := HK6.out.below.size; have h2 := HK7.out.size; have h3 := HSZ3.out.2; have h4 : wr.drew.heap.size = wr.heap.size := rfl; show _ ≤ _; omega
                go_wp2
                go_roundw
                case rel => exact ⟨k + 1, HKL.out, by go_num, by rw [HST.out, HGS.out]; exact HMK7.out, by rw [HST.out, HGS.out]; exact HM7.out, HBF.out, HSF.out⟩
                case measure => have := HKL.out; simp [intOf]; omega
          · obtain rfl : k = gs.length := by omega
            rw [List.take_length] at HMK HMM2
            have HNO := Lib.hid (HNQ.out gs.length)
            rw [List.take_length] at HNO
            have hcn := netCone HM.out
            have HRV : Hid (netR P gs o = if (netQ I gs).2.2 = true then (([], []), 0, 3) else ((coneR I (netQ I gs).2.1 [edgeOfA (netQ I gs).1 o]).1, (coneR I (netQ I gs).2.1 [edgeOfA (netQ I gs).1 o]).2.1.getD 0 0, 0)) := by
              show _ = _
              unfold netR
              rw [if_pos HM.out, HI.out]
            rw [HI.out] at hcn
            have HCN := Lib.hid hcn
            have HHW : Hid (w.heap.size + 1 < wr.heap.size ∧ w.heap.size + 1 < W.heap.size) := ⟨by have := HSZ.out; have := HBX.out.size; omega, by have := HSZ.out; omega⟩
            have HRR := Lib.hid ((HBX.out.block _ HHW.out.2).trans HRX.out)
            have HNR := Lib.hid ((HBX.out.block _ (Nat.lt_trans (Nat.lt_succ_self _) HHW.out.2)).trans HNX.out)
            clear hcn hk
            generalize netQ I gs = q at *
            obtain ⟨qf, qs⟩ := q
            obtain ⟨qA, qb⟩ := qs
            obtain ⟨c0, c1, c4⟩ := HMK.out.cell
            simp only at c4 HRV HCN HMK HMM2 HNO
            cases hqb : qb with
            | true =>
              subst hqb
              have HRE : Hid (netR P gs o = (([], []), 0, 3)) := by show _ = _; rw [HRV.out, if_pos rfl]
              obtain ⟨r0, r1, f0, f1⟩ := box2_cells HRR.out
              obtain ⟨g0, g1⟩ := box2_put HRR.out (.slice none 0 0) (.slice none 0 0)
              have HPO : Hid (NetRPost w (netR P gs o) (.returned (.tuple #[.agg #[.slice none 0 0, .slice none 0 0], .int .i64 0, .int .i64 3])) ((wr.setCell ⟨w.heap.size + 1, 0, none⟩ (.slice none 0 0)).setCell ⟨w.heap.size + 1, 1, none⟩ (.slice none 0 0))) := by
                show NetRPost _ _ _ _
                rw [HRE.out]
                exact ⟨_, _, rfl, GrO.nil _ _, ((HB0.out.trans (HBX.out.mono HB0.out.size)).setCell (p := ⟨w.heap.size + 1, 0, none⟩) (by show _ ≤ _ + 1; omega) _).setCell (p := ⟨w.heap.size + 1, 1, none⟩) (by show _ ≤ _ + 1; omega) _⟩
              clear c0 c1
              go_wp2
              exact ⟨rfl, .tuple #[.agg #[.slice none 0 0, .slice none 0 0], .int .i64 0, .int .i64 3], by simp [results, Tryz.f54, go_sem, g0, g1], HPO.out⟩
            | false =>
              subst hqb
              rw [if_neg (by simp)] at HRV
              have hqA : qA.length ≤ 200000 := by have h := HNO.out.ok.room; simp only at h; omega
              obtain ⟨hc1, hc2, hc3⟩ := HCN.out
              have HE64 : Hid (In64 [edgeOfA qf o]) := fun e he => by
                rw [List.mem_singleton] at he
                subst he
                have h1 := edgesB_true.1 (hasA_parts hc1).2.2 _ (List.mem_singleton.2 rfl)
                have h2 := HNO.out.ok.room
                simp only at h2
                omega
              have hcI : (coneR I qA [edgeOfA qf o]).1.1.length ≤ 4000000 := by
                have h3 := (mayA_parts (rest_valid (a := []) hc1 rfl).1).1
                have h4 : (coneR I qA [edgeOfA qf o]).1.1 = restI [] I := by unfold coneR restR; rw [if_pos ⟨hc1, rfl⟩]
                rw [h4]; omega
              have hcx : ∀ y ∈ (coneR I qA [edgeOfA qf o]).2.1, 0 ≤ y ∧ y ≤ 4000000 := by
                have h3 := rest_valid (a := []) hc1 rfl
                have h4 : (coneR I qA [edgeOfA qf o]).2.1 = (restC I qA [edgeOfA qf o] []).1 := by unfold coneR restR; rw [if_pos ⟨hc1, rfl⟩]
                intro y hy
                rw [h4] at hy
                have h5 := edgesB_true.1 h3.2.2.1 y hy
                have h6 := (mayA_parts h3.1).1
                omega
              generalize hee : edgeOfA qf o = e0 at *
              generalize hcc : coneR I qA [e0] = CC at *
              obtain ⟨⟨CI, CA⟩, CE, ce⟩ := CC
              simp only at hc2 hc3 hcI hcx
              subst hc2
              obtain ⟨x, rfl⟩ : ∃ x, CE = [x] := by
                match CE, hc3 with
                | [x], _ => exact ⟨x, rfl⟩
              have HEE := Lib.hid hee
              have HCC := Lib.hid hcc
              have HXB := Lib.hid (hcx x (by simp))
              have HRF : Hid (netR P gs o = ((CI, CA), x, 0)) := HRV.out
              clear hee hcc hc3 hcx hc1 HCN HRV c0 c1 hcI
              go_upto_region 23 with fail
              have HBw : Hid (Below wr.heap.size wr wr.drew) := (Below.refl _ wr).drew
              refine wp_region_held_drew (S := fun X : World => Below wr.heap.size wr X) (by kernel_rfl) HBw.out (fun hSd => ?_)
              refine takeC (i := 0) (v := .pointer (some ⟨pm, 0, none⟩)) (some 78) rfl rfl (by kernel_rfl) (by kernel_rfl) (by kernel_rfl) (fun _ _ _ h => h) (Or.inl ⟨by rfl, ?_⟩) (by assumption) ?_
              · intro wz hSw; go_simp
              try simp only [Act.put, List.setIfInBounds_toArray, List.set_cons_zero, List.set_cons_succ]
              refine takeC (i := 2) (v := .pointer (some ⟨w.heap.size, 2, none⟩)) (some 80) rfl rfl (by kernel_rfl) (by kernel_rfl) (by kernel_rfl) (fun _ _ _ h => h) (Or.inl ⟨by rfl, ?_⟩) (by assumption) ?_
              · intro wz hSw; go_simp
              try simp only [Act.put, List.setIfInBounds_toArray, List.set_cons_zero, List.set_cons_succ]
              refine takeC (i := 3) (v := .int .i64 o) (some 81) rfl rfl (by kernel_rfl) (by kernel_rfl) (by kernel_rfl) (fun _ _ _ h => h) (Or.inl ⟨by rfl, ?_⟩) (by assumption) ?_
              · intro wz hSw; obtain ⟨t0, t1, t2⟩ := box3_cells ((Below.block hSw w.heap.size (by have := HHW.out; omega)).trans HNR.out); go_simp
              try simp only [Act.put, List.setIfInBounds_toArray, List.set_cons_zero, List.set_cons_succ]
              refine takeC (i := 4) (v := .map (some bm)) (some 82) rfl rfl (by kernel_rfl) (by kernel_rfl) (by kernel_rfl) (fun _ _ _ h => h) (Or.inl ⟨by rfl, ?_⟩) (by assumption) ?_
              · intro wz hSw; go_simp
              try simp only [Act.put, List.setIfInBounds_toArray, List.set_cons_zero, List.set_cons_succ]
              generalize wr.drew = wd at *
              refine wpAnyH_ready (rs := [1, 12]) (by kernel_rfl) (by simp) ?_
              refine AllReadyH.cons rfl (fun K hK => ?_) (AllReadyH.cons rfl (fun K hK => ?_) AllReadyH.nil)
              · go_simp
                have HGR := Lib.hid (graph_e (HMK.out.below (HBw.out) (Nat.le_refl _)) (Nat.le_trans HSX.out.1 HBw.out.size))
                go_wp2_with (go_at_call 97; go_loud (refine HGR.out.mono ?_; rintro er wg ⟨va, rfl, _, hbn, hpa, hin⟩; obtain ⟨qa, qc, rfl, _⟩ := hpa.shape; have HGN := Lib.hid (And.intro hin hpa); have HBn := Lib.hid hbn; clear hpa hin hbn))
                have HBw := Lib.hid (HBw.out.trans (HBn.out.mono HBw.out.size))
                have HGF := HGN
                refine hK.out _ _ HBw.out (fun hHn => ?_)
                clear hK K hHn
                try simp only [Act.put, List.setIfInBounds_toArray, List.set_cons_zero, List.set_cons_succ]
                refine wpAnyH_ready (rs := [5, 12]) (by kernel_rfl) (by simp) ?_
                refine AllReadyH.cons rfl (fun K hK => ?_) (AllReadyH.cons rfl (fun K hK => ?_) AllReadyH.nil)
                · go_simp
                  have HEO := Lib.hid (edgeOf_any bm _ qf o wg (HMM2.out.below HBw.out (Nat.le_refl _)) ho1 ho2 (HNO.out.fe.bd (by have := HNO.out.ok.room; omega)))
                  rw [HEE.out] at HEO
                  go_wp2_with (go_at_call 129; go_loud (refine HEO.out.mono ?_; rintro er we ⟨rfl, rfl⟩))
                  refine hK.out _ _ HBw.out (fun hHn => ?_)
                  clear hK K hHn
                  try simp only [Act.put, List.setIfInBounds_toArray, List.set_cons_zero, List.set_cons_succ]
                  refine wpAnyH_ready (rs := [6, 12]) (by kernel_rfl) (by simp) ?_
                  refine AllReadyH.cons rfl (fun K hK => ?_) (AllReadyH.cons rfl (fun K hK => ?_) AllReadyH.nil)
                  · go_simp
                    have HBn := Lib.hid (below_alloc1 wg (.cells #[.int .i64 e0] 3))
                    have HL0 := Lib.hid ((own1_new wg e0).ints (by simp) HE64.out)
                    have HGF := Lib.hid (And.intro (HGF.out.1.below HBn.out (Nat.le_refl _)) (HGF.out.2.below HBn.out (Nat.le_refl _)))
                    have HBw := Lib.hid (HBw.out.trans (HBn.out.mono HBw.out.size))
                    have HLF := HL0
                    refine hK.out _ _ HBw.out (fun hHn => ?_)
                    clear hK K hHn
                    try simp only [Act.put, List.setIfInBounds_toArray, List.set_cons_zero, List.set_cons_succ]
                    generalize wg.alloc (.cells #[.int .i64 e0] 3) = wl at *
                    generalize wg.heap.size = lb at *
                    refine wpAnyH_ready (rs := [7, 12]) (by kernel_rfl) (by simp) ?_
                    refine AllReadyH.cons rfl (fun K hK => ?_) (AllReadyH.cons rfl (fun K hK => ?_) AllReadyH.nil)
                    · go_simp
                      have HCO := Lib.hid (gcone_any _ _ _ I qA [e0] wl HGF.out.1 HGF.out.2 HLF.out (by omega) (by omega))
                      unfold ResPost at HCO
                      rw [HCC.out] at HCO
                      go_wp2_with (go_at_call 32; go_loud (refine HCO.out.mono ?_; rintro er wc ⟨v1, v2, v3, rfl, hg, ho, hbn⟩; obtain ⟨xa, xc, rfl⟩ := hg.ints.1.shape; obtain ⟨ya, yc, rfl, _⟩ := hg.ints.2.shape; obtain ⟨za, zc, rfl⟩ := own_shC ho; have HBn := Lib.hid hbn; have HCN := Lib.hid (And.intro (hg.mono HBw.out.size) (ho.mono HBw.out.size)); clear hg ho hbn))
                      have HGF := Lib.hid (And.intro (HGF.out.1.below HBn.out (Nat.le_refl _)) (HGF.out.2.below HBn.out (Nat.le_refl _)))
                      have HLF := Lib.hid (HLF.out.below HBn.out (Nat.le_refl _))
                      have HBw := Lib.hid (HBw.out.trans (HBn.out.mono HBw.out.size))
                      have HCF := HCN
                      refine hK.out _ _ HBw.out (fun hHn => ?_)
                      clear hK K hHn
                      try simp only [Act.put, List.setIfInBounds_toArray, List.set_cons_zero, List.set_cons_succ]
                      have hSw := HBw.out
                      refine takeC (i := 8) (v := .tuple #[.agg #[.slice xa CI.length xc, .slice ya CA.length yc], .slice za 1 zc, .int .i64 0]) (some 77) rfl rfl (by kernel_rfl) (by kernel_rfl) (by kernel_rfl) (fun _ _ _ h => h) (Or.inl ⟨by rfl, ?_⟩) (by assumption) ?_
                      · intro wz hSw; go_simp
                      try simp only [Act.put, List.setIfInBounds_toArray, List.set_cons_zero, List.set_cons_succ]
                      refine takeC (i := 9) (v := .agg #[.slice xa CI.length xc, .slice ya CA.length yc]) (some 86) rfl rfl (by kernel_rfl) (by kernel_rfl) (by kernel_rfl) (fun _ _ _ h => h) (Or.inl ⟨by rfl, ?_⟩) (by assumption) ?_
                      · intro wz hSw; go_simp
                      try simp only [Act.put, List.setIfInBounds_toArray, List.set_cons_zero, List.set_cons_succ]
                      refine takeC (i := 10) (v := .slice za 1 zc) (some 87) rfl rfl (by kernel_rfl) (by kernel_rfl) (by kernel_rfl) (fun _ _ _ h => h) (Or.inl ⟨by rfl, ?_⟩) (by assumption) ?_
                      · intro wz hSw; go_simp
                      try simp only [Act.put, List.setIfInBounds_toArray, List.set_cons_zero, List.set_cons_succ]
                      refine takeC (i := 11) (v := .int .i64 0) (some 88) rfl rfl (by kernel_rfl) (by kernel_rfl) (by kernel_rfl) (fun _ _ _ h => h) (Or.inl ⟨by rfl, ?_⟩) (by assumption) ?_
                      · intro wz hSw; go_simp
                      try simp only [Act.put, List.setIfInBounds_toArray, List.set_cons_zero, List.set_cons_succ]
                      refine wpAnyH_ready (rs := [12]) (by kernel_rfl) (by simp) ?_
                      refine AllReadyH.cons rfl (fun K hK => ?_) AllReadyH.nil
                      go_simp
                      have HBn := Lib.hid (below_alloc1 wc (.cells #[.slice none 0 0, .slice none 0 0] 25))
                      have HN0 : Hid ((wc.alloc (.cells #[.slice none 0 0, .slice none 0 0] 25)).heap[wc.heap.size]? = some (.cells #[.slice none 0 0, .slice none 0 0] 25 (0, 0))) := World.alloc_heap_new _ _
                      have HN1 : Hid (wr.heap.size ≤ wc.heap.size) := HBw.out.size
                      have HGF := Lib.hid (And.intro (HGF.out.1.below HBn.out (Nat.le_refl _)) (HGF.out.2.below HBn.out (Nat.le_refl _)))
                      have HLF := Lib.hid (HLF.out.below HBn.out (Nat.le_refl _))
                      have HCF := Lib.hid (And.intro (HCF.out.1.below HBn.out (Nat.le_refl _)) (HCF.out.2.below HBn.out (Nat.le_refl _)))
                      have HBw := Lib.hid (HBw.out.trans (HBn.out.mono HBw.out.size))
                      have HNF := Lib.hid (And.intro HN0.out HN1.out)
                      refine hK.out _ _ HBw.out (fun hHn => ?_)
                      clear hK K hHn
                      try simp only [Act.put, List.setIfInBounds_toArray, List.set_cons_zero, List.set_cons_succ]
                      generalize wc.alloc (.cells #[.slice none 0 0, .slice none 0 0] 25) = wca at *
                      generalize wc.heap.size = nb at *
                      clear hSw
                      obtain ⟨d0, d1, f0, f1⟩ := box2_cells HNF.out.1
                      obtain ⟨zg, hza, hzB, hzl, hzc⟩ := own_hitA HCF.out.2 (show 0 < [x].length by simp)
                      subst hza
                      have hST := box2_set HNF.out.1 (.slice xa CI.length xc) (.slice ya CA.length yc)
                      have hGS := (HCF.out.1.setBox HNF.out.1 0 (.slice xa CI.length xc)).setBox (box2_mid HNF.out.1 (.slice xa CI.length xc)) 1 (.slice ya CA.length yc)
                      have hOS := own_setBox (own_setBox HCF.out.2 HNF.out.1 0 (.slice xa CI.length xc)) (box2_mid HNF.out.1 (.slice xa CI.length xc)) 1 (.slice ya CA.length yc)
                      have hBS := (HBw.out.setCell (p := ⟨nb, 0, none⟩) HNF.out.2 (.slice xa CI.length xc)).setCell (p := ⟨nb, 1, none⟩) HNF.out.2 (.slice ya CA.length yc)
                      have HST := Lib.hid hST
                      have HGS := Lib.hid hGS
                      have HOS := Lib.hid hOS
                      have HBS := Lib.hid hBS
                      have HNB := Lib.hid HNF.out.2
                      clear hST hGS hOS hBS hzB hzl hzc
                      refine wpAnyH_ready (rs := [13]) (by kernel_rfl) (by simp) ?_
                      refine AllReadyH.cons rfl (fun K hK => ?_) AllReadyH.nil
                      go_simp
                      refine hK.out _ _ HBS.out (fun hHn => ?_)
                      clear hK K hHn
                      try simp only [Act.put, List.setIfInBounds_toArray, List.set_cons_zero, List.set_cons_succ]
                      generalize (World.setCell wca _ _).setCell _ _ = WS at *
                      have hSw := HBS.out
                      refine takeC (i := 14) (v := .slice (some ⟨zg, 0, none⟩) 1 zc) (some 15) rfl rfl (by kernel_rfl) (by kernel_rfl) (by kernel_rfl) (fun _ _ _ h => h) (Or.inl ⟨by rfl, ?_⟩) (by assumption) ?_
                      · intro wz hSw; go_simp
                      try simp only [Act.put, List.setIfInBounds_toArray, List.set_cons_zero, List.set_cons_succ]
                      refine takeC (i := 15) (v := .int .i64 0) (some 16) rfl rfl (by kernel_rfl) (by kernel_rfl) (by kernel_rfl) (fun _ _ _ h => h) (Or.inl ⟨by rfl, ?_⟩) (by assumption) ?_
                      · intro wz hSw; go_simp
                      try simp only [Act.put, List.setIfInBounds_toArray, List.set_cons_zero, List.set_cons_succ]
                      refine wpAnyH_done (by kernel_rfl) ?_ _
                      clear hSw d0 d1 f0 f1
                      obtain ⟨zh, hze, _, hzl, hzc⟩ := own_hitA HOS.out (show 0 < [x].length by simp)
                      cases hze
                      have HZC : Hid (WS.cell? ⟨zg, 0, none⟩ = some (.int .i64 x)) := hzc
                      have HZW : Hid (wr.heap.size ≤ zg) := (HOS.out.lt zg rfl).1
                      have HRS := Lib.hid ((HBS.out.block _ HHW.out.1).trans HRR.out)
                      clear hzl hzc HCF HNF HGF HLF HBw HBn HCN
                      go_upto_region 24 with fail
                      refine wp_region_held_drew (S := fun X : World => X.heap[nb]? = some (.cells #[.slice xa CI.length xc, .slice ya CA.length yc] 25 (0, 0)) ∧ X.cell? ⟨zg, 0, none⟩ = some (.int .i64 x)) (by kernel_rfl) ⟨HST.out, HZC.out⟩ (fun hSd => ?_)
                      have HGT : Hid (GrO WS.drew wr.heap.size (.slice xa CI.length xc) (.slice ya CA.length yc) CI CA) := HGS.out.below ((Below.refl _ WS).drew) (Nat.le_refl _)
                      have HBT : Hid (Below wr.heap.size wr WS.drew) := HBS.out.drew
                      have HTT : Hid (WS.drew.heap[nb]? = some (.cells #[.slice xa CI.length xc, .slice ya CA.length yc] 25 (0, 0))) := HST.out
                      have HZT : Hid (WS.drew.cell? ⟨zg, 0, none⟩ = some (.int .i64 x)) := HZC.out
                      have HRT : Hid (WS.drew.heap[w.heap.size + 1]? = some (.cells #[.slice none 0 0, .slice none 0 0] 25 (0, 0))) := HRS.out
                      clear HRS HZC HST HBS HGS HOS
                      generalize WS.drew = WT at *
                      refine takeC (i := 0) (v := .agg #[.slice xa CI.length xc, .slice ya CA.length yc]) (some 89) rfl rfl (by kernel_rfl) (by kernel_rfl) (by kernel_rfl) (fun _ _ _ h => h) (Or.inl ⟨by rfl, ?_⟩) (by assumption) ?_
                      · intro wz hSw; obtain ⟨t0, t1, _, _⟩ := box2_cells (show wz.heap[nb]? = _ from hSw.1); go_simp
                      try simp only [Act.put, List.setIfInBounds_toArray, List.set_cons_zero, List.set_cons_succ]
                      refine takeC (i := 1) (v := .slice (some ⟨zg, 0, none⟩) 1 zc) (some 90) rfl rfl (by kernel_rfl) (by kernel_rfl) (by kernel_rfl) (fun _ _ _ h => h) (Or.inl ⟨by rfl, ?_⟩) (by assumption) ?_
                      · intro wz hSw; go_simp
                      try simp only [Act.put, List.setIfInBounds_toArray, List.set_cons_zero, List.set_cons_succ]
                      refine takeC (i := 2) (v := .pointer (some ⟨zg, 0, none⟩)) (some 91) rfl rfl (by kernel_rfl) (by kernel_rfl) (by kernel_rfl) (fun _ _ _ h => h) (Or.inl ⟨by rfl, ?_⟩) (by assumption) ?_
                      · intro wz hSw; go_simp
                      try simp only [Act.put, List.setIfInBounds_toArray, List.set_cons_zero, List.set_cons_succ]
                      refine takeC (i := 3) (v := .int .i64 x) (some 92) rfl rfl (by kernel_rfl) (by kernel_rfl) (by kernel_rfl) (fun _ _ _ h => h) (Or.inl ⟨by rfl, ?_⟩) (by assumption) ?_
                      · intro wz hSw; have t0 := hSw.2; go_simp
                      try simp only [Act.put, List.setIfInBounds_toArray, List.set_cons_zero, List.set_cons_succ]
                      obtain ⟨r0, r1, f0, f1⟩ := box2_cells HRT.out
                      obtain ⟨g0, g1⟩ := box2_put HRT.out (.slice xa CI.length xc) (.slice ya CA.length yc)
                      refine wpAnyH_ready (rs := [4]) (by kernel_rfl) (by simp) ?_
                      refine AllReadyH.cons rfl (fun K hK => ?_) AllReadyH.nil
                      go_simp
                      have hS2 : ((WT.setCell ⟨w.heap.size + 1, 0, none⟩ (.slice xa CI.length xc)).setCell ⟨w.heap.size + 1, 1, none⟩ (.slice ya CA.length yc)).heap[nb]? = some (.cells #[.slice xa CI.length xc, .slice ya CA.length yc] 25 (0, 0)) ∧ ((WT.setCell ⟨w.heap.size + 1, 0, none⟩ (.slice xa CI.length xc)).setCell ⟨w.heap.size + 1, 1, none⟩ (.slice ya CA.length yc)).cell? ⟨zg, 0, none⟩ = some (.int .i64 x) := by
                        have h1 := HHW.out.1
                        have h2 := HNB.out
                        have h3 := HZW.out
                        refine ⟨?_, ?_⟩
                        · rw [heap_set_other _ _ (by omega), heap_set_other _ _ (by omega)]
                          exact HTT.out
                        · rw [World.cell?_of_block (w := WT) (a := ⟨zg, 0, none⟩) (by show _ = WT.heap[zg]?; rw [heap_set_other _ _ (show zg ≠ w.heap.size + 1 by omega), heap_set_other _ _ (show zg ≠ w.heap.size + 1 by omega)])]
                          exact HZT.out
                      refine hK.out _ _ hS2 (fun hHn => ?_)
                      clear hK K hHn
                      try simp only [Act.put, List.setIfInBounds_toArray, List.set_cons_zero, List.set_cons_succ]
                      refine takeC (i := 5) (v := .int .i64 x) (some 3) rfl rfl (by kernel_rfl) (by kernel_rfl) (by kernel_rfl) (fun _ _ _ h => h) (Or.inl ⟨by rfl, ?_⟩) (by assumption) ?_
                      · intro wz hSw; go_simp
                      try simp only [Act.put, List.setIfInBounds_toArray, List.set_cons_zero, List.set_cons_succ]
                      refine takeC (i := 6) (v := .int .i64 0) (some 4) rfl rfl (by kernel_rfl) (by kernel_rfl) (by kernel_rfl) (fun _ _ _ h => h) (Or.inl ⟨by rfl, ?_⟩) (by assumption) ?_
                      · intro wz hSw; go_simp
                      try simp only [Act.put, List.setIfInBounds_toArray, List.set_cons_zero, List.set_cons_succ]
                      refine wpAnyH_done (by kernel_rfl) ?_ _
                      have HPO : Hid (NetRPost w (netR P gs o) (.returned (.tuple #[.agg #[.slice xa CI.length xc, .slice ya CA.length yc], .int .i64 x, .int .i64 0])) ((WT.setCell ⟨w.heap.size + 1, 0, none⟩ (.slice xa CI.length xc)).setCell ⟨w.heap.size + 1, 1, none⟩ (.slice ya CA.length yc))) := by
                        show NetRPost _ _ _ _
                        rw [HRF.out]
                        have hc : w.heap.size + 1 < wr.heap.size := HHW.out.1
                        have hgd := HGT.out
                        exact ⟨_, _, rfl, ((hgd.set_far hc).set_far hc).mono (by omega), (((HB0.out.trans (HBX.out.mono HB0.out.size)).trans (HBT.out.mono (by omega))).setCell (p := ⟨w.heap.size + 1, 0, none⟩) (by show _ ≤ _ + 1; omega) _).setCell (p := ⟨w.heap.size + 1, 1, none⟩) (by show _ ≤ _ + 1; omega) _⟩
                      clear hS2 r0 r1 f0 f1
                      go_wp2
                      exact ⟨rfl, .tuple #[.agg #[.slice xa CI.length xc, .slice ya CA.length yc], .int .i64 x, .int .i64 0], by simp [results, Tryz.f54, go_sem, g0, g1], HPO.out⟩
                    · go_simp
                      have HBn := Lib.hid (below_alloc1 wl (.cells #[.slice none 0 0, .slice none 0 0] 25))
                      have HN0 : Hid ((wl.alloc (.cells #[.slice none 0 0, .slice none 0 0] 25)).heap[wl.heap.size]? = some (.cells #[.slice none 0 0, .slice none 0 0] 25 (0, 0))) := World.alloc_heap_new _ _
                      have HN1 : Hid (wr.heap.size ≤ wl.heap.size) := HBw.out.size
                      have HGF := Lib.hid (And.intro (HGF.out.1.below HBn.out (Nat.le_refl _)) (HGF.out.2.below HBn.out (Nat.le_refl _)))
                      have HLF := Lib.hid (HLF.out.below HBn.out (Nat.le_refl _))
                      have HBw := Lib.hid (HBw.out.trans (HBn.out.mono HBw.out.size))
                      have HNF := Lib.hid (And.intro HN0.out HN1.out)
                      refine hK.out _ _ HBw.out (fun hHn => ?_)
                      clear hK K hHn
                      try simp only [Act.put, List.setIfInBounds_toArray, List.set_cons_zero, List.set_cons_succ]
                      generalize wl.alloc (.cells #[.slice none 0 0, .slice none 0 0] 25) = wla at *
                      generalize wl.heap.size = nb at *
                      refine wpAnyH_ready (rs := [7]) (by kernel_rfl) (by simp) ?_
                      refine AllReadyH.cons rfl (fun K hK => ?_) AllReadyH.nil
                      go_simp
                      have HCO := Lib.hid (gcone_any _ _ _ I qA [e0] wla HGF.out.1 HGF.out.2 HLF.out (by omega) (by omega))
                      unfold ResPost at HCO
                      rw [HCC.out] at HCO
                      go_wp2_with (go_at_call 32; go_loud (refine HCO.out.mono ?_; rintro er wc ⟨v1, v2, v3, rfl, hg, ho, hbn⟩; obtain ⟨xa, xc, rfl⟩ := hg.ints.1.shape; obtain ⟨ya, yc, rfl, _⟩ := hg.ints.2.shape; obtain ⟨za, zc, rfl⟩ := own_shC ho; have HBn := Lib.hid hbn; have HCN := Lib.hid (And.intro (hg.mono HBw.out.size) (ho.mono HBw.out.size)); clear hg ho hbn))
                      have HGF := Lib.hid (And.intro (HGF.out.1.below HBn.out (Nat.le_refl _)) (HGF.out.2.below HBn.out (Nat.le_refl _)))
                      have HLF := Lib.hid (HLF.out.below HBn.out (Nat.le_refl _))
                      have HNF := Lib.hid (And.intro ((HBn.out.block _ (Array.getElem?_eq_some_iff.1 HNF.out.1).1).trans HNF.out.1) HNF.out.2)
                      have HBw := Lib.hid (HBw.out.trans (HBn.out.mono HBw.out.size))
                      have HCF := HCN
                      refine hK.out _ _ HBw.out (fun hHn => ?_)
                      clear hK K hHn
                      try simp only [Act.put, List.setIfInBounds_toArray, List.set_cons_zero, List.set_cons_succ]
                      have hSw := HBw.out
                      refine takeC (i := 8) (v := .tuple #[.agg #[.slice xa CI.length xc, .slice ya CA.length yc], .slice za 1 zc, .int .i64 0]) (some 77) rfl rfl (by kernel_rfl) (by kernel_rfl) (by kernel_rfl) (fun _ _ _ h => h) (Or.inl ⟨by rfl, ?_⟩) (by assumption) ?_
                      · intro wz hSw; go_simp
                      try simp only [Act.put, List.setIfInBounds_toArray, List.set_cons_zero, List.set_cons_succ]
                      refine takeC (i := 9) (v := .agg #[.slice xa CI.length xc, .slice ya CA.length yc]) (some 86) rfl rfl (by kernel_rfl) (by kernel_rfl) (by kernel_rfl) (fun _ _ _ h => h) (Or.inl ⟨by rfl, ?_⟩) (by assumption) ?_
                      · intro wz hSw; go_simp
                      try simp only [Act.put, List.setIfInBounds_toArray, List.set_cons_zero, List.set_cons_succ]
                      refine takeC (i := 10) (v := .slice za 1 zc) (some 87) rfl rfl (by kernel_rfl) (by kernel_rfl) (by kernel_rfl) (fun _ _ _ h => h) (Or.inl ⟨by rfl, ?_⟩) (by assumption) ?_
                      · intro wz hSw; go_simp
                      try simp only [Act.put, List.setIfInBounds_toArray, List.set_cons_zero, List.set_cons_succ]
                      refine takeC (i := 11) (v := .int .i64 0) (some 88) rfl rfl (by kernel_rfl) (by kernel_rfl) (by kernel_rfl) (fun _ _ _ h => h) (Or.inl ⟨by rfl, ?_⟩) (by assumption) ?_
                      · intro wz hSw; go_simp
                      try simp only [Act.put, List.setIfInBounds_toArray, List.set_cons_zero, List.set_cons_succ]
                      clear hSw
                      obtain ⟨d0, d1, f0, f1⟩ := box2_cells HNF.out.1
                      obtain ⟨zg, hza, hzB, hzl, hzc⟩ := own_hitA HCF.out.2 (show 0 < [x].length by simp)
                      subst hza
                      have hST := box2_set HNF.out.1 (.slice xa CI.length xc) (.slice ya CA.length yc)
                      have hGS := (HCF.out.1.setBox HNF.out.1 0 (.slice xa CI.length xc)).setBox (box2_mid HNF.out.1 (.slice xa CI.length xc)) 1 (.slice ya CA.length yc)
                      have hOS := own_setBox (own_setBox HCF.out.2 HNF.out.1 0 (.slice xa CI.length xc)) (box2_mid HNF.out.1 (.slice xa CI.length xc)) 1 (.slice ya CA.length yc)
                      have hBS := (HBw.out.setCell (p := ⟨nb, 0, none⟩) HNF.out.2 (.slice xa CI.length xc)).setCell (p := ⟨nb, 1, none⟩) HNF.out.2 (.slice ya CA.length yc)
                      have HST := Lib.hid hST
                      have HGS := Lib.hid hGS
                      have HOS := Lib.hid hOS
                      have HBS := Lib.hid hBS
                      have HNB := Lib.hid HNF.out.2
                      clear hST hGS hOS hBS hzB hzl hzc
                      refine wpAnyH_ready (rs := [13]) (by kernel_rfl) (by simp) ?_
                      refine AllReadyH.cons rfl (fun K hK => ?_) AllReadyH.nil
                      go_simp
                      refine hK.out _ _ HBS.out (fun hHn => ?_)
                      clear hK K hHn
                      try simp only [Act.put, List.setIfInBounds_toArray, List.set_cons_zero, List.set_cons_succ]
                      generalize (World.setCell wc _ _).setCell _ _ = WS at *
                      have hSw := HBS.out
                      refine takeC (i := 14) (v := .slice (some ⟨zg, 0, none⟩) 1 zc) (some 15) rfl rfl (by kernel_rfl) (by kernel_rfl) (by kernel_rfl) (fun _ _ _ h => h) (Or.inl ⟨by rfl, ?_⟩) (by assumption) ?_
                      · intro wz hSw; go_simp
                      try simp only [Act.put, List.setIfInBounds_toArray, List.set_cons_zero, List.set_cons_succ]
                      refine takeC (i := 15) (v := .int .i64 0) (some 16) rfl rfl (by kernel_rfl) (by kernel_rfl) (by kernel_rfl) (fun _ _ _ h => h) (Or.inl ⟨by rfl, ?_⟩) (by assumption) ?_
                      · intro wz hSw; go_simp
                      try simp only [Act.put, List.setIfInBounds_toArray, List.set_cons_zero, List.set_cons_succ]
                      refine wpAnyH_done (by kernel_rfl) ?_ _
                      clear hSw d0 d1 f0 f1
                      obtain ⟨zh, hze, _, hzl, hzc⟩ := own_hitA HOS.out (show 0 < [x].length by simp)
                      cases hze
                      have HZC : Hid (WS.cell? ⟨zg, 0, none⟩ = some (.int .i64 x)) := hzc
                      have HZW : Hid (wr.heap.size ≤ zg) := (HOS.out.lt zg rfl).1
                      have HRS := Lib.hid ((HBS.out.block _ HHW.out.1).trans HRR.out)
                      clear hzl hzc HCF HNF HGF HLF HBw HBn HCN
                      go_upto_region 24 with fail
                      refine wp_region_held_drew (S := fun X : World => X.heap[nb]? = some (.cells #[.slice xa CI.length xc, .slice ya CA.length yc] 25 (0, 0)) ∧ X.cell? ⟨zg, 0, none⟩ = some (.int .i64 x)) (by kernel_rfl) ⟨HST.out, HZC.out⟩ (fun hSd => ?_)
                      have HGT : Hid (GrO WS.drew wr.heap.size (.slice xa CI.length xc) (.slice ya CA.length yc) CI CA) := HGS.out.below ((Below.refl _ WS).drew) (Nat.le_refl _)
                      have HBT : Hid (Below wr.heap.size wr WS.drew) := HBS.out.drew
                      have HTT : Hid (WS.drew.heap[nb]? = some (.cells #[.slice xa CI.length xc, .slice ya CA.length yc] 25 (0, 0))) := HST.out
                      have HZT : Hid (WS.drew.cell? ⟨zg, 0, none⟩ = some (.int .i64 x)) := HZC.out
                      have HRT : Hid (WS.drew.heap[w.heap.size + 1]? = some (.cells #[.slice none 0 0, .slice none 0 0] 25 (0, 0))) := HRS.out
                      clear HRS HZC HST HBS HGS HOS
                      generalize WS.drew = WT at *
                      refine takeC (i := 0) (v := .agg #[.slice xa CI.length xc, .slice ya CA.length yc]) (some 89) rfl rfl (by kernel_rfl) (by kernel_rfl) (by kernel_rfl) (fun _ _ _ h => h) (Or.inl ⟨by rfl, ?_⟩) (by assumption) ?_
                      · intro wz hSw; obtain ⟨t0, t1, _, _⟩ := box2_cells (show wz.heap[nb]? = _ from hSw.1); go_simp
                      try simp only [Act.put, List.setIfInBounds_toArray, List.set_cons_zero, List.set_cons_succ]
                      refine takeC (i := 1) (v := .slice (some ⟨zg, 0, none⟩) 1 zc) (some 90) rfl rfl (by kernel_rfl) (by kernel_rfl) (by kernel_rfl) (fun _ _ _ h => h) (Or.inl ⟨by rfl, ?_⟩) (by assumption) ?_
                      · intro wz hSw; go_simp
                      try simp only [Act.put, List.setIfInBounds_toArray, List.set_cons_zero, List.set_cons_succ]
                      refine takeC (i := 2) (v := .pointer (some ⟨zg, 0, none⟩)) (some 91) rfl rfl (by kernel_rfl) (by kernel_rfl) (by kernel_rfl) (fun _ _ _ h => h) (Or.inl ⟨by rfl, ?_⟩) (by assumption) ?_
                      · intro wz hSw; go_simp
                      try simp only [Act.put, List.setIfInBounds_toArray, List.set_cons_zero, List.set_cons_succ]
                      refine takeC (i := 3) (v := .int .i64 x) (some 92) rfl rfl (by kernel_rfl) (by kernel_rfl) (by kernel_rfl) (fun _ _ _ h => h) (Or.inl ⟨by rfl, ?_⟩) (by assumption) ?_
                      · intro wz hSw; have t0 := hSw.2; go_simp
                      try simp only [Act.put, List.setIfInBounds_toArray, List.set_cons_zero, List.set_cons_succ]
                      obtain ⟨r0, r1, f0, f1⟩ := box2_cells HRT.out
                      obtain ⟨g0, g1⟩ := box2_put HRT.out (.slice xa CI.length xc) (.slice ya CA.length yc)
                      refine wpAnyH_ready (rs := [4]) (by kernel_rfl) (by simp) ?_
                      refine AllReadyH.cons rfl (fun K hK => ?_) AllReadyH.nil
                      go_simp
                      have hS2 : ((WT.setCell ⟨w.heap.size + 1, 0, none⟩ (.slice xa CI.length xc)).setCell ⟨w.heap.size + 1, 1, none⟩ (.slice ya CA.length yc)).heap[nb]? = some (.cells #[.slice xa CI.length xc, .slice ya CA.length yc] 25 (0, 0)) ∧ ((WT.setCell ⟨w.heap.size + 1, 0, none⟩ (.slice xa CI.length xc)).setCell ⟨w.heap.size + 1, 1, none⟩ (.slice ya CA.length yc)).cell? ⟨zg, 0, none⟩ = some (.int .i64 x) := by
                        have h1 := HHW.out.1
                        have h2 := HNB.out
                        have h3 := HZW.out
                        refine ⟨?_, ?_⟩
                        · rw [heap_set_other _ _ (by omega), heap_set_other _ _ (by omega)]
                          exact HTT.out
                        · rw [World.cell?_of_block (w := WT) (a := ⟨zg, 0, none⟩) (by show _ = WT.heap[zg]?; rw [heap_set_other _ _ (show zg ≠ w.heap.size + 1 by omega), heap_set_other _ _ (show zg ≠ w.heap.size + 1 by omega)])]
                          exact HZT.out
                      refine hK.out _ _ hS2 (fun hHn => ?_)
                      clear hK K hHn
                      try simp only [Act.put, List.setIfInBounds_toArray, List.set_cons_zero, List.set_cons_succ]
                      refine takeC (i := 5) (v := .int .i64 x) (some 3) rfl rfl (by kernel_rfl) (by kernel_rfl) (by kernel_rfl) (fun _ _ _ h => h) (Or.inl ⟨by rfl, ?_⟩) (by assumption) ?_
                      · intro wz hSw; go_simp
                      try simp only [Act.put, List.setIfInBounds_toArray, List.set_cons_zero, List.set_cons_succ]
                      refine takeC (i := 6) (v := .int .i64 0) (some 4) rfl rfl (by kernel_rfl) (by kernel_rfl) (by kernel_rfl) (fun _ _ _ h => h) (Or.inl ⟨by rfl, ?_⟩) (by assumption) ?_
                      · intro wz hSw; go_simp
                      try simp only [Act.put, List.setIfInBounds_toArray, List.set_cons_zero, List.set_cons_succ]
                      refine wpAnyH_done (by kernel_rfl) ?_ _
                      have HPO : Hid (NetRPost w (netR P gs o) (.returned (.tuple #[.agg #[.slice xa CI.length xc, .slice ya CA.length yc], .int .i64 x, .int .i64 0])) ((WT.setCell ⟨w.heap.size + 1, 0, none⟩ (.slice xa CI.length xc)).setCell ⟨w.heap.size + 1, 1, none⟩ (.slice ya CA.length yc))) := by
                        show NetRPost _ _ _ _
                        rw [HRF.out]
                        have hc : w.heap.size + 1 < wr.heap.size := HHW.out.1
                        have hgd := HGT.out
                        exact ⟨_, _, rfl, ((hgd.set_far hc).set_far hc).mono (by omega), (((HB0.out.trans (HBX.out.mono HB0.out.size)).trans (HBT.out.mono (by omega))).setCell (p := ⟨w.heap.size + 1, 0, none⟩) (by show _ ≤ _ + 1; omega) _).setCell (p := ⟨w.heap.size + 1, 1, none⟩) (by show _ ≤ _ + 1; omega) _⟩
                      clear hS2 r0 r1 f0 f1
                      go_wp2
                      exact ⟨rfl, .tuple #[.agg #[.slice xa CI.length xc, .slice ya CA.length yc], .int .i64 x, .int .i64 0], by simp [results, Tryz.f54, go_sem, g0, g1], HPO.out⟩
                  · go_simp
                    have HBn := Lib.hid (below_alloc1 wg (.cells #[.slice none 0 0, .slice none 0 0] 25))
                    have HN0 : Hid ((wg.alloc (.cells #[.slice none 0 0, .slice none 0 0] 25)).heap[wg.heap.size]? = some (.cells #[.slice none 0 0, .slice none 0 0] 25 (0, 0))) := World.alloc_heap_new _ _
                    have HN1 : Hid (wr.heap.size ≤ wg.heap.size) := HBw.out.size
                    have HGF := Lib.hid (And.intro (HGF.out.1.below HBn.out (Nat.le_refl _)) (HGF.out.2.below HBn.out (Nat.le_refl _)))
                    have HBw := Lib.hid (HBw.out.trans (HBn.out.mono HBw.out.size))
                    have HNF := Lib.hid (And.intro HN0.out HN1.out)
                    refine hK.out _ _ HBw.out (fun hHn => ?_)
                    clear hK K hHn
                    try simp only [Act.put, List.setIfInBounds_toArray, List.set_cons_zero, List.set_cons_succ]
                    generalize wg.alloc (.cells #[.slice none 0 0, .slice none 0 0] 25) = wga at *
                    generalize wg.heap.size = nb at *
                    refine wpAnyH_ready (rs := [6]) (by kernel_rfl) (by simp) ?_
                    refine AllReadyH.cons rfl (fun K hK => ?_) AllReadyH.nil
                    go_simp
                    have HBn := Lib.hid (below_alloc1 wga (.cells #[.int .i64 e0] 3))
                    have HL0 := Lib.hid ((own1_new wga e0).ints (by simp) HE64.out)
                    have HGF := Lib.hid (And.intro (HGF.out.1.below HBn.out (Nat.le_refl _)) (HGF.out.2.below HBn.out (Nat.le_refl _)))
                    have HNF := Lib.hid (And.intro ((HBn.out.block _ (Array.getElem?_eq_some_iff.1 HNF.out.1).1).trans HNF.out.1) HNF.out.2)
                    have HBw := Lib.hid (HBw.out.trans (HBn.out.mono HBw.out.size))
                    have HLF := HL0
                    refine hK.out _ _ HBw.out (fun hHn => ?_)
                    clear hK K hHn
                    try simp only [Act.put, List.setIfInBounds_toArray, List.set_cons_zero, List.set_cons_succ]
                    generalize wga.alloc (.cells #[.int .i64 e0] 3) = wl at *
                    generalize wga.heap.size = lb at *
                    refine wpAnyH_ready (rs := [7]) (by kernel_rfl) (by simp) ?_
                    refine AllReadyH.cons rfl (fun K hK => ?_) AllReadyH.nil
                    go_simp
                    have HCO := Lib.hid (gcone_any _ _ _ I qA [e0] wl HGF.out.1 HGF.out.2 HLF.out (by omega) (by omega))
                    unfold ResPost at HCO
                    rw [HCC.out] at HCO
                    go_wp2_with (go_at_call 32; go_loud (refine HCO.out.mono ?_; rintro er wc ⟨v1, v2, v3, rfl, hg, ho, hbn⟩; obtain ⟨xa, xc, rfl⟩ := hg.ints.1.shape; obtain ⟨ya, yc, rfl, _⟩ := hg.ints.2.shape; obtain ⟨za, zc, rfl⟩ := own_shC ho; have HBn := Lib.hid hbn; have HCN := Lib.hid (And.intro (hg.mono HBw.out.size) (ho.mono HBw.out.size)); clear hg ho hbn))
                    have HGF := Lib.hid (And.intro (HGF.out.1.below HBn.out (Nat.le_refl _)) (HGF.out.2.below HBn.out (Nat.le_refl _)))
                    have HNF := Lib.hid (And.intro ((HBn.out.block _ (Array.getElem?_eq_some_iff.1 HNF.out.1).1).trans HNF.out.1) HNF.out.2)
                    have HLF := Lib.hid (HLF.out.below HBn.out (Nat.le_refl _))
                    have HBw := Lib.hid (HBw.out.trans (HBn.out.mono HBw.out.size))
                    have HCF := HCN
                    refine hK.out _ _ HBw.out (fun hHn => ?_)
                    clear hK K hHn
                    try simp only [Act.put, List.setIfInBounds_toArray, List.set_cons_zero, List.set_cons_succ]
                    have hSw := HBw.out
                    refine takeC (i := 8) (v := .tuple #[.agg #[.slice xa CI.length xc, .slice ya CA.length yc], .slice za 1 zc, .int .i64 0]) (some 77) rfl rfl (by kernel_rfl) (by kernel_rfl) (by kernel_rfl) (fun _ _ _ h => h) (Or.inl ⟨by rfl, ?_⟩) (by assumption) ?_
                    · intro wz hSw; go_simp
                    try simp only [Act.put, List.setIfInBounds_toArray, List.set_cons_zero, List.set_cons_succ]
                    refine takeC (i := 9) (v := .agg #[.slice xa CI.length xc, .slice ya CA.length yc]) (some 86) rfl rfl (by kernel_rfl) (by kernel_rfl) (by kernel_rfl) (fun _ _ _ h => h) (Or.inl ⟨by rfl, ?_⟩) (by assumption) ?_
                    · intro wz hSw; go_simp
                    try simp only [Act.put, List.setIfInBounds_toArray, List.set_cons_zero, List.set_cons_succ]
                    refine takeC (i := 10) (v := .slice za 1 zc) (some 87) rfl rfl (by kernel_rfl) (by kernel_rfl) (by kernel_rfl) (fun _ _ _ h => h) (Or.inl ⟨by rfl, ?_⟩) (by assumption) ?_
                    · intro wz hSw; go_simp
                    try simp only [Act.put, List.setIfInBounds_toArray, List.set_cons_zero, List.set_cons_succ]
                    refine takeC (i := 11) (v := .int .i64 0) (some 88) rfl rfl (by kernel_rfl) (by kernel_rfl) (by kernel_rfl) (fun _ _ _ h => h) (Or.inl ⟨by rfl, ?_⟩) (by assumption) ?_
                    · intro wz hSw; go_simp
                    try simp only [Act.put, List.setIfInBounds_toArray, List.set_cons_zero, List.set_cons_succ]
                    clear hSw
                    obtain ⟨d0, d1, f0, f1⟩ := box2_cells HNF.out.1
                    obtain ⟨zg, hza, hzB, hzl, hzc⟩ := own_hitA HCF.out.2 (show 0 < [x].length by simp)
                    subst hza
                    have hST := box2_set HNF.out.1 (.slice xa CI.length xc) (.slice ya CA.length yc)
                    have hGS := (HCF.out.1.setBox HNF.out.1 0 (.slice xa CI.length xc)).setBox (box2_mid HNF.out.1 (.slice xa CI.length xc)) 1 (.slice ya CA.length yc)
                    have hOS := own_setBox (own_setBox HCF.out.2 HNF.out.1 0 (.slice xa CI.length xc)) (box2_mid HNF.out.1 (.slice xa CI.length xc)) 1 (.slice ya CA.length yc)
                    have hBS := (HBw.out.setCell (p := ⟨nb, 0, none⟩) HNF.out.2 (.slice xa CI.length xc)).setCell (p := ⟨nb, 1, none⟩) HNF.out.2 (.slice ya CA.length yc)
                    have HST := Lib.hid hST
                    have HGS := Lib.hid hGS
                    have HOS := Lib.hid hOS
                    have HBS := Lib.hid hBS
                    have HNB := Lib.hid HNF.out.2
                    clear hST hGS hOS hBS hzB hzl hzc
                    refine wpAnyH_ready (rs := [13]) (by kernel_rfl) (by simp) ?_
                    refine AllReadyH.cons rfl (fun K hK => ?_) AllReadyH.nil
                    go_simp
                    refine hK.out _ _ HBS.out (fun hHn => ?_)
                    clear hK K hHn
                    try simp only [Act.put, List.setIfInBounds_toArray, List.set_cons_zero, List.set_cons_succ]
                    generalize (World.setCell wc _ _).setCell _ _ = WS at *
                    have hSw := HBS.out
                    refine takeC (i := 14) (v := .slice (some ⟨zg, 0, none⟩) 1 zc) (some 15) rfl rfl (by kernel_rfl) (by kernel_rfl) (by kernel_rfl) (fun _ _ _ h => h) (Or.inl ⟨by rfl, ?_⟩) (by assumption) ?_
                    · intro wz hSw; go_simp
                    try simp only [Act.put, List.setIfInBounds_toArray, List.set_cons_zero, List.set_cons_succ]
                    refine takeC (i := 15) (v := .int .i64 0) (some 16) rfl rfl (by kernel_rfl) (by kernel_rfl) (by kernel_rfl) (fun _ _ _ h => h) (Or.inl ⟨by rfl, ?_⟩) (by assumption) ?_
                    · intro wz hSw; go_simp
                    try simp only [Act.put, List.setIfInBounds_toArray, List.set_cons_zero, List.set_cons_succ]
                    refine wpAnyH_done (by kernel_rfl) ?_ _
                    clear hSw d0 d1 f0 f1
                    obtain ⟨zh, hze, _, hzl, hzc⟩ := own_hitA HOS.out (show 0 < [x].length by simp)
                    cases hze
                    have HZC : Hid (WS.cell? ⟨zg, 0, none⟩ = some (.int .i64 x)) := hzc
                    have HZW : Hid (wr.heap.size ≤ zg) := (HOS.out.lt zg rfl).1
                    have HRS := Lib.hid ((HBS.out.block _ HHW.out.1).trans HRR.out)
                    clear hzl hzc HCF HNF HGF HLF HBw HBn HCN
                    go_upto_region 24 with fail
                    refine wp_region_held_drew (S := fun X : World => X.heap[nb]? = some (.cells #[.slice xa CI.length xc, .slice ya CA.length yc] 25 (0, 0)) ∧ X.cell? ⟨zg, 0, none⟩ = some (.int .i64 x)) (by kernel_rfl) ⟨HST.out, HZC.out⟩ (fun hSd => ?_)
                    have HGT : Hid (GrO WS.drew wr.heap.size (.slice xa CI.length xc) (.slice ya CA.length yc) CI CA) := HGS.out.below ((Below.refl _ WS).drew) (Nat.le_refl _)
                    have HBT : Hid (Below wr.heap.size wr WS.drew) := HBS.out.drew
                    have HTT : Hid (WS.drew.heap[nb]? = some (.cells #[.slice xa CI.length xc, .slice ya CA.length yc] 25 (0, 0))) := HST.out
                    have HZT : Hid (WS.drew.cell? ⟨zg, 0, none⟩ = some (.int .i64 x)) := HZC.out
                    have HRT : Hid (WS.drew.heap[w.heap.size + 1]? = some (.cells #[.slice none 0 0, .slice none 0 0] 25 (0, 0))) := HRS.out
                    clear HRS HZC HST HBS HGS HOS
                    generalize WS.drew = WT at *
                    refine takeC (i := 0) (v := .agg #[.slice xa CI.length xc, .slice ya CA.length yc]) (some 89) rfl rfl (by kernel_rfl) (by kernel_rfl) (by kernel_rfl) (fun _ _ _ h => h) (Or.inl ⟨by rfl, ?_⟩) (by assumption) ?_
                    · intro wz hSw; obtain ⟨t0, t1, _, _⟩ := box2_cells (show wz.heap[nb]? = _ from hSw.1); go_simp
                    try simp only [Act.put, List.setIfInBounds_toArray, List.set_cons_zero, List.set_cons_succ]
                    refine takeC (i := 1) (v := .slice (some ⟨zg, 0, none⟩) 1 zc) (some 90) rfl rfl (by kernel_rfl) (by kernel_rfl) (by kernel_rfl) (fun _ _ _ h => h) (Or.inl ⟨by rfl, ?_⟩) (by assumption) ?_
                    · intro wz hSw; go_simp
                    try simp only [Act.put, List.setIfInBounds_toArray, List.set_cons_zero, List.set_cons_succ]
                    refine takeC (i := 2) (v := .pointer (some ⟨zg, 0, none⟩)) (some 91) rfl rfl (by kernel_rfl) (by kernel_rfl) (by kernel_rfl) (fun _ _ _ h => h) (Or.inl ⟨by rfl, ?_⟩) (by assumption) ?_
                    · intro wz hSw; go_simp
                    try simp only [Act.put, List.setIfInBounds_toArray, List.set_cons_zero, List.set_cons_succ]
                    refine takeC (i := 3) (v := .int .i64 x) (some 92) rfl rfl (by kernel_rfl) (by kernel_rfl) (by kernel_rfl) (fun _ _ _ h => h) (Or.inl ⟨by rfl, ?_⟩) (by assumption) ?_
                    · intro wz hSw; have t0 := hSw.2; go_simp
                    try simp only [Act.put, List.setIfInBounds_toArray, List.set_cons_zero, List.set_cons_succ]
                    obtain ⟨r0, r1, f0, f1⟩ := box2_cells HRT.out
                    obtain ⟨g0, g1⟩ := box2_put HRT.out (.slice xa CI.length xc) (.slice ya CA.length yc)
                    refine wpAnyH_ready (rs := [4]) (by kernel_rfl) (by simp) ?_
                    refine AllReadyH.cons rfl (fun K hK => ?_) AllReadyH.nil
                    go_simp
                    have hS2 : ((WT.setCell ⟨w.heap.size + 1, 0, none⟩ (.slice xa CI.length xc)).setCell ⟨w.heap.size + 1, 1, none⟩ (.slice ya CA.length yc)).heap[nb]? = some (.cells #[.slice xa CI.length xc, .slice ya CA.length yc] 25 (0, 0)) ∧ ((WT.setCell ⟨w.heap.size + 1, 0, none⟩ (.slice xa CI.length xc)).setCell ⟨w.heap.size + 1, 1, none⟩ (.slice ya CA.length yc)).cell? ⟨zg, 0, none⟩ = some (.int .i64 x) := by
                      have h1 := HHW.out.1
                      have h2 := HNB.out
                      have h3 := HZW.out
                      refine ⟨?_, ?_⟩
                      · rw [heap_set_other _ _ (by omega), heap_set_other _ _ (by omega)]
                        exact HTT.out
                      · rw [World.cell?_of_block (w := WT) (a := ⟨zg, 0, none⟩) (by show _ = WT.heap[zg]?; rw [heap_set_other _ _ (show zg ≠ w.heap.size + 1 by omega), heap_set_other _ _ (show zg ≠ w.heap.size + 1 by omega)])]
                        exact HZT.out
                    refine hK.out _ _ hS2 (fun hHn => ?_)
                    clear hK K hHn
                    try simp only [Act.put, List.setIfInBounds_toArray, List.set_cons_zero, List.set_cons_succ]
                    refine takeC (i := 5) (v := .int .i64 x) (some 3) rfl rfl (by kernel_rfl) (by kernel_rfl) (by kernel_rfl) (fun _ _ _ h => h) (Or.inl ⟨by rfl, ?_⟩) (by assumption) ?_
                    · intro wz hSw; go_simp
                    try simp only [Act.put, List.setIfInBounds_toArray, List.set_cons_zero, List.set_cons_succ]
                    refine takeC (i := 6) (v := .int .i64 0) (some 4) rfl rfl (by kernel_rfl) (by kernel_rfl) (by kernel_rfl) (fun _ _ _ h => h) (Or.inl ⟨by rfl, ?_⟩) (by assumption) ?_
                    · intro wz hSw; go_simp
                    try simp only [Act.put, List.setIfInBounds_toArray, List.set_cons_zero, List.set_cons_succ]
                    refine wpAnyH_done (by kernel_rfl) ?_ _
                    have HPO : Hid (NetRPost w (netR P gs o) (.returned (.tuple #[.agg #[.slice xa CI.length xc, .slice ya CA.length yc], .int .i64 x, .int .i64 0])) ((WT.setCell ⟨w.heap.size + 1, 0, none⟩ (.slice xa CI.length xc)).setCell ⟨w.heap.size + 1, 1, none⟩ (.slice ya CA.length yc))) := by
                      show NetRPost _ _ _ _
                      rw [HRF.out]
                      have hc : w.heap.size + 1 < wr.heap.size := HHW.out.1
                      have hgd := HGT.out
                      exact ⟨_, _, rfl, ((hgd.set_far hc).set_far hc).mono (by omega), (((HB0.out.trans (HBX.out.mono HB0.out.size)).trans (HBT.out.mono (by omega))).setCell (p := ⟨w.heap.size + 1, 0, none⟩) (by show _ ≤ _ + 1; omega) _).setCell (p := ⟨w.heap.size + 1, 1, none⟩) (by show _ ≤ _ + 1; omega) _⟩
                    clear hS2 r0 r1 f0 f1
                    go_wp2
                    exact ⟨rfl, .tuple #[.agg #[.slice xa CI.length xc, .slice ya CA.length yc], .int .i64 x, .int .i64 0], by simp [results, Tryz.f54, go_sem, g0, g1], HPO.out⟩
                · go_simp
                  have HBn := Lib.hid (below_alloc1 wg (.cells #[.slice none 0 0, .slice none 0 0] 25))
                  have HN0 : Hid ((wg.alloc (.cells #[.slice none 0 0, .slice none 0 0] 25)).heap[wg.heap.size]? = some (.cells #[.slice none 0 0, .slice none 0 0] 25 (0, 0))) := World.alloc_heap_new _ _
                  have HN1 : Hid (wr.heap.size ≤ wg.heap.size) := HBw.out.size
                  have HGF := Lib.hid (And.intro (HGF.out.1.below HBn.out (Nat.le_refl _)) (HGF.out.2.below HBn.out (Nat.le_refl _)))
                  have HBw := Lib.hid (HBw.out.trans (HBn.out.mono HBw.out.size))
                  have HNF := Lib.hid (And.intro HN0.out HN1.out)
                  refine hK.out _ _ HBw.out (fun hHn => ?_)
                  clear hK K hHn
                  try simp only [Act.put, List.setIfInBounds_toArray, List.set_cons_zero, List.set_cons_succ]
                  generalize wg.alloc (.cells #[.slice none 0 0, .slice none 0 0] 25) = wga at *
                  generalize wg.heap.size = nb at *
                  refine wpAnyH_ready (rs := [5]) (by kernel_rfl) (by simp) ?_
                  refine AllReadyH.cons rfl (fun K hK => ?_) AllReadyH.nil
                  go_simp
                  have HEO := Lib.hid (edgeOf_any bm _ qf o wga (HMM2.out.below HBw.out (Nat.le_refl _)) ho1 ho2 (HNO.out.fe.bd (by have := HNO.out.ok.room; omega)))
                  rw [HEE.out] at HEO
                  go_wp2_with (go_at_call 129; go_loud (refine HEO.out.mono ?_; rintro er we ⟨rfl, rfl⟩))
                  refine hK.out _ _ HBw.out (fun hHn => ?_)
                  clear hK K hHn
                  try simp only [Act.put, List.setIfInBounds_toArray, List.set_cons_zero, List.set_cons_succ]
                  refine wpAnyH_ready (rs := [6]) (by kernel_rfl) (by simp) ?_
                  refine AllReadyH.cons rfl (fun K hK => ?_) AllReadyH.nil
                  go_simp
                  have HBn := Lib.hid (below_alloc1 wga (.cells #[.int .i64 e0] 3))
                  have HL0 := Lib.hid ((own1_new wga e0).ints (by simp) HE64.out)
                  have HGF := Lib.hid (And.intro (HGF.out.1.below HBn.out (Nat.le_refl _)) (HGF.out.2.below HBn.out (Nat.le_refl _)))
                  have HNF := Lib.hid (And.intro ((HBn.out.block _ (Array.getElem?_eq_some_iff.1 HNF.out.1).1).trans HNF.out.1) HNF.out.2)
                  have HBw := Lib.hid (HBw.out.trans (HBn.out.mono HBw.out.size))
                  have HLF := HL0
                  refine hK.out _ _ HBw.out (fun hHn => ?_)
                  clear hK K hHn
                  try simp only [Act.put, List.setIfInBounds_toArray, List.set_cons_zero, List.set_cons_succ]
                  generalize wga.alloc (.cells #[.int .i64 e0] 3) = wl at *
                  generalize wga.heap.size = lb at *
                  refine wpAnyH_ready (rs := [7]) (by kernel_rfl) (by simp) ?_
                  refine AllReadyH.cons rfl (fun K hK => ?_) AllReadyH.nil
                  go_simp
                  have HCO := Lib.hid (gcone_any _ _ _ I qA [e0] wl HGF.out.1 HGF.out.2 HLF.out (by omega) (by omega))
                  unfold ResPost at HCO
                  rw [HCC.out] at HCO
                  go_wp2_with (go_at_call 32; go_loud (refine HCO.out.mono ?_; rintro er wc ⟨v1, v2, v3, rfl, hg, ho, hbn⟩; obtain ⟨xa, xc, rfl⟩ := hg.ints.1.shape; obtain ⟨ya, yc, rfl, _⟩ := hg.ints.2.shape; obtain ⟨za, zc, rfl⟩ := own_shC ho; have HBn := Lib.hid hbn; have HCN := Lib.hid (And.intro (hg.mono HBw.out.size) (ho.mono HBw.out.size)); clear hg ho hbn))
                  have HGF := Lib.hid (And.intro (HGF.out.1.below HBn.out (Nat.le_refl _)) (HGF.out.2.below HBn.out (Nat.le_refl _)))
                  have HNF := Lib.hid (And.intro ((HBn.out.block _ (Array.getElem?_eq_some_iff.1 HNF.out.1).1).trans HNF.out.1) HNF.out.2)
                  have HLF := Lib.hid (HLF.out.below HBn.out (Nat.le_refl _))
                  have HBw := Lib.hid (HBw.out.trans (HBn.out.mono HBw.out.size))
                  have HCF := HCN
                  refine hK.out _ _ HBw.out (fun hHn => ?_)
                  clear hK K hHn
                  try simp only [Act.put, List.setIfInBounds_toArray, List.set_cons_zero, List.set_cons_succ]
                  have hSw := HBw.out
                  refine takeC (i := 8) (v := .tuple #[.agg #[.slice xa CI.length xc, .slice ya CA.length yc], .slice za 1 zc, .int .i64 0]) (some 77) rfl rfl (by kernel_rfl) (by kernel_rfl) (by kernel_rfl) (fun _ _ _ h => h) (Or.inl ⟨by rfl, ?_⟩) (by assumption) ?_
                  · intro wz hSw; go_simp
                  try simp only [Act.put, List.setIfInBounds_toArray, List.set_cons_zero, List.set_cons_succ]
                  refine takeC (i := 9) (v := .agg #[.slice xa CI.length xc, .slice ya CA.length yc]) (some 86) rfl rfl (by kernel_rfl) (by kernel_rfl) (by kernel_rfl) (fun _ _ _ h => h) (Or.inl ⟨by rfl, ?_⟩) (by assumption) ?_
                  · intro wz hSw; go_simp
                  try simp only [Act.put, List.setIfInBounds_toArray, List.set_cons_zero, List.set_cons_succ]
                  refine takeC (i := 10) (v := .slice za 1 zc) (some 87) rfl rfl (by kernel_rfl) (by kernel_rfl) (by kernel_rfl) (fun _ _ _ h => h) (Or.inl ⟨by rfl, ?_⟩) (by assumption) ?_
                  · intro wz hSw; go_simp
                  try simp only [Act.put, List.setIfInBounds_toArray, List.set_cons_zero, List.set_cons_succ]
                  refine takeC (i := 11) (v := .int .i64 0) (some 88) rfl rfl (by kernel_rfl) (by kernel_rfl) (by kernel_rfl) (fun _ _ _ h => h) (Or.inl ⟨by rfl, ?_⟩) (by assumption) ?_
                  · intro wz hSw; go_simp
                  try simp only [Act.put, List.setIfInBounds_toArray, List.set_cons_zero, List.set_cons_succ]
                  clear hSw
                  obtain ⟨d0, d1, f0, f1⟩ := box2_cells HNF.out.1
                  obtain ⟨zg, hza, hzB, hzl, hzc⟩ := own_hitA HCF.out.2 (show 0 < [x].length by simp)
                  subst hza
                  have hST := box2_set HNF.out.1 (.slice xa CI.length xc) (.slice ya CA.length yc)
                  have hGS := (HCF.out.1.setBox HNF.out.1 0 (.slice xa CI.length xc)).setBox (box2_mid HNF.out.1 (.slice xa CI.length xc)) 1 (.slice ya CA.length yc)
                  have hOS := own_setBox (own_setBox HCF.out.2 HNF.out.1 0 (.slice xa CI.length xc)) (box2_mid HNF.out.1 (.slice xa CI.length xc)) 1 (.slice ya CA.length yc)
                  have hBS := (HBw.out.setCell (p := ⟨nb, 0, none⟩) HNF.out.2 (.slice xa CI.length xc)).setCell (p := ⟨nb, 1, none⟩) HNF.out.2 (.slice ya CA.length yc)
                  have HST := Lib.hid hST
                  have HGS := Lib.hid hGS
                  have HOS := Lib.hid hOS
                  have HBS := Lib.hid hBS
                  have HNB := Lib.hid HNF.out.2
                  clear hST hGS hOS hBS hzB hzl hzc
                  refine wpAnyH_ready (rs := [13]) (by kernel_rfl) (by simp) ?_
                  refine AllReadyH.cons rfl (fun K hK => ?_) AllReadyH.nil
                  go_simp
                  refine hK.out _ _ HBS.out (fun hHn => ?_)
                  clear hK K hHn
                  try simp only [Act.put, List.setIfInBounds_toArray, List.set_cons_zero, List.set_cons_succ]
                  generalize (World.setCell wc _ _).setCell _ _ = WS at *
                  have hSw := HBS.out
                  refine takeC (i := 14) (v := .slice (some ⟨zg, 0, none⟩) 1 zc) (some 15) rfl rfl (by kernel_rfl) (by kernel_rfl) (by kernel_rfl) (fun _ _ _ h => h) (Or.inl ⟨by rfl, ?_⟩) (by assumption) ?_
                  · intro wz hSw; go_simp
                  try simp only [Act.put, List.setIfInBounds_toArray, List.set_cons_zero, List.set_cons_succ]
                  refine takeC (i := 15) (v := .int .i64 0) (some 16) rfl rfl (by kernel_rfl) (by kernel_rfl) (by kernel_rfl) (fun _ _ _ h => h) (Or.inl ⟨by rfl, ?_⟩) (by assumption) ?_
                  · intro wz hSw; go_simp
                  try simp only [Act.put, List.setIfInBounds_toArray, List.set_cons_zero, List.set_cons_succ]
                  refine wpAnyH_done (by kernel_rfl) ?_ _
                  clear hSw d0 d1 f0 f1
                  obtain ⟨zh, hze, _, hzl, hzc⟩ := own_hitA HOS.out (show 0 < [x].length by simp)
                  cases hze
                  have HZC : Hid (WS.cell? ⟨zg, 0, none⟩ = some (.int .i64 x)) := hzc
                  have HZW : Hid (wr.heap.size ≤ zg) := (HOS.out.lt zg rfl).1
                  have HRS := Lib.hid ((HBS.out.block _ HHW.out.1).trans HRR.out)
                  clear hzl hzc HCF HNF HGF HLF HBw HBn HCN
                  go_upto_region 24 with fail
                  refine wp_region_held_drew (S := fun X : World => X.heap[nb]? = some (.cells #[.slice xa CI.length xc, .slice ya CA.length yc] 25 (0, 0)) ∧ X.cell? ⟨zg, 0, none⟩ = some (.int .i64 x)) (by kernel_rfl) ⟨HST.out, HZC.out⟩ (fun hSd => ?_)
                  have HGT : Hid (GrO WS.drew wr.heap.size (.slice xa CI.length xc) (.slice ya CA.length yc) CI CA) := HGS.out.below ((Below.refl _ WS).drew) (Nat.le_refl _)
                  have HBT : Hid (Below wr.heap.size wr WS.drew) := HBS.out.drew
                  have HTT : Hid (WS.drew.heap[nb]? = some (.cells #[.slice xa CI.length xc, .slice ya CA.length yc] 25 (0, 0))) := HST.out
                  have HZT : Hid (WS.drew.cell? ⟨zg, 0, none⟩ = some (.int .i64 x)) := HZC.out
                  have HRT : Hid (WS.drew.heap[w.heap.size + 1]? = some (.cells #[.slice none 0 0, .slice none 0 0] 25 (0, 0))) := HRS.out
                  clear HRS HZC HST HBS HGS HOS
                  generalize WS.drew = WT at *
                  refine takeC (i := 0) (v := .agg #[.slice xa CI.length xc, .slice ya CA.length yc]) (some 89) rfl rfl (by kernel_rfl) (by kernel_rfl) (by kernel_rfl) (fun _ _ _ h => h) (Or.inl ⟨by rfl, ?_⟩) (by assumption) ?_
                  · intro wz hSw; obtain ⟨t0, t1, _, _⟩ := box2_cells (show wz.heap[nb]? = _ from hSw.1); go_simp
                  try simp only [Act.put, List.setIfInBounds_toArray, List.set_cons_zero, List.set_cons_succ]
                  refine takeC (i := 1) (v := .slice (some ⟨zg, 0, none⟩) 1 zc) (some 90) rfl rfl (by kernel_rfl) (by kernel_rfl) (by kernel_rfl) (fun _ _ _ h => h) (Or.inl ⟨by rfl, ?_⟩) (by assumption) ?_
                  · intro wz hSw; go_simp
                  try simp only [Act.put, List.setIfInBounds_toArray, List.set_cons_zero, List.set_cons_succ]
                  refine takeC (i := 2) (v := .pointer (some ⟨zg, 0, none⟩)) (some 91) rfl rfl (by kernel_rfl) (by kernel_rfl) (by kernel_rfl) (fun _ _ _ h => h) (Or.inl ⟨by rfl, ?_⟩) (by assumption) ?_
                  · intro wz hSw; go_simp
                  try simp only [Act.put, List.setIfInBounds_toArray, List.set_cons_zero, List.set_cons_succ]
                  refine takeC (i := 3) (v := .int .i64 x) (some 92) rfl rfl (by kernel_rfl) (by kernel_rfl) (by kernel_rfl) (fun _ _ _ h => h) (Or.inl ⟨by rfl, ?_⟩) (by assumption) ?_
                  · intro wz hSw; have t0 := hSw.2; go_simp
                  try simp only [Act.put, List.setIfInBounds_toArray, List.set_cons_zero, List.set_cons_succ]
                  obtain ⟨r0, r1, f0, f1⟩ := box2_cells HRT.out
                  obtain ⟨g0, g1⟩ := box2_put HRT.out (.slice xa CI.length xc) (.slice ya CA.length yc)
                  refine wpAnyH_ready (rs := [4]) (by kernel_rfl) (by simp) ?_
                  refine AllReadyH.cons rfl (fun K hK => ?_) AllReadyH.nil
                  go_simp
                  have hS2 : ((WT.setCell ⟨w.heap.size + 1, 0, none⟩ (.slice xa CI.length xc)).setCell ⟨w.heap.size + 1, 1, none⟩ (.slice ya CA.length yc)).heap[nb]? = some (.cells #[.slice xa CI.length xc, .slice ya CA.length yc] 25 (0, 0)) ∧ ((WT.setCell ⟨w.heap.size + 1, 0, none⟩ (.slice xa CI.length xc)).setCell ⟨w.heap.size + 1, 1, none⟩ (.slice ya CA.length yc)).cell? ⟨zg, 0, none⟩ = some (.int .i64 x) := by
                    have h1 := HHW.out.1
                    have h2 := HNB.out
                    have h3 := HZW.out
                    refine ⟨?_, ?_⟩
                    · rw [heap_set_other _ _ (by omega), heap_set_other _ _ (by omega)]
                      exact HTT.out
                    · rw [World.cell?_of_block (w := WT) (a := ⟨zg, 0, none⟩) (by show _ = WT.heap[zg]?; rw [heap_set_other _ _ (show zg ≠ w.heap.size + 1 by omega), heap_set_other _ _ (show zg ≠ w.heap.size + 1 by omega)])]
                      exact HZT.out
                  refine hK.out _ _ hS2 (fun hHn => ?_)
                  clear hK K hHn
                  try simp only [Act.put, List.setIfInBounds_toArray, List.set_cons_zero, List.set_cons_succ]
                  refine takeC (i := 5) (v := .int .i64 x) (some 3) rfl rfl (by kernel_rfl) (by kernel_rfl) (by kernel_rfl) (fun _ _ _ h => h) (Or.inl ⟨by rfl, ?_⟩) (by assumption) ?_
                  · intro wz hSw; go_simp
                  try simp only [Act.put, List.setIfInBounds_toArray, List.set_cons_zero, List.set_cons_succ]
                  refine takeC (i := 6) (v := .int .i64 0) (some 4) rfl rfl (by kernel_rfl) (by kernel_rfl) (by kernel_rfl) (fun _ _ _ h => h) (Or.inl ⟨by rfl, ?_⟩) (by assumption) ?_
                  · intro wz hSw; go_simp
                  try simp only [Act.put, List.setIfInBounds_toArray, List.set_cons_zero, List.set_cons_succ]
                  refine wpAnyH_done (by kernel_rfl) ?_ _
                  have HPO : Hid (NetRPost w (netR P gs o) (.returned (.tuple #[.agg #[.slice xa CI.length xc, .slice ya CA.length yc], .int .i64 x, .int .i64 0])) ((WT.setCell ⟨w.heap.size + 1, 0, none⟩ (.slice xa CI.length xc)).setCell ⟨w.heap.size + 1, 1, none⟩ (.slice ya CA.length yc))) := by
                    show NetRPost _ _ _ _
                    rw [HRF.out]
                    have hc : w.heap.size + 1 < wr.heap.size := HHW.out.1
                    have hgd := HGT.out
                    exact ⟨_, _, rfl, ((hgd.set_far hc).set_far hc).mono (by omega), (((HB0.out.trans (HBX.out.mono HB0.out.size)).trans (HBT.out.mono (by omega))).setCell (p := ⟨w.heap.size + 1, 0, none⟩) (by show _ ≤ _ + 1; omega) _).setCell (p := ⟨w.heap.size + 1, 1, none⟩) (by show _ ≤ _ + 1; omega) _⟩
                  clear hS2 r0 r1 f0 f1
                  go_wp2
                  exact ⟨rfl, .tuple #[.agg #[.slice xa CI.length xc, .slice ya CA.length yc], .int .i64 x, .int .i64 0], by simp [results, Tryz.f54, go_sem, g0, g1], HPO.out⟩
              · go_simp
                have HBn := Lib.hid (below_alloc1 wd (.cells #[.slice none 0 0, .slice none 0 0] 25))
                have HN0 : Hid ((wd.alloc (.cells #[.slice none 0 0, .slice none 0 0] 25)).heap[wd.heap.size]? = some (.cells #[.slice none 0 0, .slice none 0 0] 25 (0, 0))) := World.alloc_heap_new _ _
                have HN1 : Hid (wr.heap.size ≤ wd.heap.size) := HBw.out.size
                have HBw := Lib.hid (HBw.out.trans (HBn.out.mono HBw.out.size))
                have HNF := Lib.hid (And.intro HN0.out HN1.out)
                refine hK.out _ _ HBw.out (fun hHn => ?_)
                clear hK K hHn
                try simp only [Act.put, List.setIfInBounds_toArray, List.set_cons_zero, List.set_cons_succ]
                generalize wd.alloc (.cells #[.slice none 0 0, .slice none 0 0] 25) = wda at *
                generalize wd.heap.size = nb at *
                refine wpAnyH_ready (rs := [1]) (by kernel_rfl) (by simp) ?_
                refine AllReadyH.cons rfl (fun K hK => ?_) AllReadyH.nil
                go_simp
                have HGR := Lib.hid (graph_e (HMK.out.below (HBw.out) (Nat.le_refl _)) (Nat.le_trans HSX.out.1 HBw.out.size))
                go_wp2_with (go_at_call 97; go_loud (refine HGR.out.mono ?_; rintro er wg ⟨va, rfl, _, hbn, hpa, hin⟩; obtain ⟨qa, qc, rfl, _⟩ := hpa.shape; have HGN := Lib.hid (And.intro hin hpa); have HBn := Lib.hid hbn; clear hpa hin hbn))
                have HNF := Lib.hid (And.intro ((HBn.out.block _ (Array.getElem?_eq_some_iff.1 HNF.out.1).1).trans HNF.out.1) HNF.out.2)
                have HBw := Lib.hid (HBw.out.trans (HBn.out.mono HBw.out.size))
                have HGF := HGN
                refine hK.out _ _ HBw.out (fun hHn => ?_)
                clear hK K hHn
                try simp only [Act.put, List.setIfInBounds_toArray, List.set_cons_zero, List.set_cons_succ]
                refine wpAnyH_ready (rs := [5]) (by kernel_rfl) (by simp) ?_
                refine AllReadyH.cons rfl (fun K hK => ?_) AllReadyH.nil
                go_simp
                have HEO := Lib.hid (edgeOf_any bm _ qf o wg (HMM2.out.below HBw.out (Nat.le_refl _)) ho1 ho2 (HNO.out.fe.bd (by have := HNO.out.ok.room; omega)))
                rw [HEE.out] at HEO
                go_wp2_with (go_at_call 129; go_loud (refine HEO.out.mono ?_; rintro er we ⟨rfl, rfl⟩))
                refine hK.out _ _ HBw.out (fun hHn => ?_)
                clear hK K hHn
                try simp only [Act.put, List.setIfInBounds_toArray, List.set_cons_zero, List.set_cons_succ]
                refine wpAnyH_ready (rs := [6]) (by kernel_rfl) (by simp) ?_
                refine AllReadyH.cons rfl (fun K hK => ?_) AllReadyH.nil
                go_simp
                have HBn := Lib.hid (below_alloc1 wg (.cells #[.int .i64 e0] 3))
                have HL0 := Lib.hid ((own1_new wg e0).ints (by simp) HE64.out)
                have HNF := Lib.hid (And.intro ((HBn.out.block _ (Array.getElem?_eq_some_iff.1 HNF.out.1).1).trans HNF.out.1) HNF.out.2)
                have HGF := Lib.hid (And.intro (HGF.out.1.below HBn.out (Nat.le_refl _)) (HGF.out.2.below HBn.out (Nat.le_refl _)))
                have HBw := Lib.hid (HBw.out.trans (HBn.out.mono HBw.out.size))
                have HLF := HL0
                refine hK.out _ _ HBw.out (fun hHn => ?_)
                clear hK K hHn
                try simp only [Act.put, List.setIfInBounds_toArray, List.set_cons_zero, List.set_cons_succ]
                generalize wg.alloc (.cells #[.int .i64 e0] 3) = wl at *
                generalize wg.heap.size = lb at *
                refine wpAnyH_ready (rs := [7]) (by kernel_rfl) (by simp) ?_
                refine AllReadyH.cons rfl (fun K hK => ?_) AllReadyH.nil
                go_simp
                have HCO := Lib.hid (gcone_any _ _ _ I qA [e0] wl HGF.out.1 HGF.out.2 HLF.out (by omega) (by omega))
                unfold ResPost at HCO
                rw [HCC.out] at HCO
                go_wp2_with (go_at_call 32; go_loud (refine HCO.out.mono ?_; rintro er wc ⟨v1, v2, v3, rfl, hg, ho, hbn⟩; obtain ⟨xa, xc, rfl⟩ := hg.ints.1.shape; obtain ⟨ya, yc, rfl, _⟩ := hg.ints.2.shape; obtain ⟨za, zc, rfl⟩ := own_shC ho; have HBn := Lib.hid hbn; have HCN := Lib.hid (And.intro (hg.mono HBw.out.size) (ho.mono HBw.out.size)); clear hg ho hbn))
                have HNF := Lib.hid (And.intro ((HBn.out.block _ (Array.getElem?_eq_some_iff.1 HNF.out.1).1).trans HNF.out.1) HNF.out.2)
                have HGF := Lib.hid (And.intro (HGF.out.1.below HBn.out (Nat.le_refl _)) (HGF.out.2.below HBn.out (Nat.le_refl _)))
                have HLF := Lib.hid (HLF.out.below HBn.out (Nat.le_refl _))
                have HBw := Lib.hid (HBw.out.trans (HBn.out.mono HBw.out.size))
                have HCF := HCN
                refine hK.out _ _ HBw.out (fun hHn => ?_)
                clear hK K hHn
                try simp only [Act.put, List.setIfInBounds_toArray, List.set_cons_zero, List.set_cons_succ]
                have hSw := HBw.out
                refine takeC (i := 8) (v := .tuple #[.agg #[.slice xa CI.length xc, .slice ya CA.length yc], .slice za 1 zc, .int .i64 0]) (some 77) rfl rfl (by kernel_rfl) (by kernel_rfl) (by kernel_rfl) (fun _ _ _ h => h) (Or.inl ⟨by rfl, ?_⟩) (by assumption) ?_
                · intro wz hSw; go_simp
                try simp only [Act.put, List.setIfInBounds_toArray, List.set_cons_zero, List.set_cons_succ]
                refine takeC (i := 9) (v := .agg #[.slice xa CI.length xc, .slice ya CA.length yc]) (some 86) rfl rfl (by kernel_rfl) (by kernel_rfl) (by kernel_rfl) (fun _ _ _ h => h) (Or.inl ⟨by rfl, ?_⟩) (by assumption) ?_
                · intro wz hSw; go_simp
                try simp only [Act.put, List.setIfInBounds_toArray, List.set_cons_zero, List.set_cons_succ]
                refine takeC (i := 10) (v := .slice za 1 zc) (some 87) rfl rfl (by kernel_rfl) (by kernel_rfl) (by kernel_rfl) (fun _ _ _ h => h) (Or.inl ⟨by rfl, ?_⟩) (by assumption) ?_
                · intro wz hSw; go_simp
                try simp only [Act.put, List.setIfInBounds_toArray, List.set_cons_zero, List.set_cons_succ]
                refine takeC (i := 11) (v := .int .i64 0) (some 88) rfl rfl (by kernel_rfl) (by kernel_rfl) (by kernel_rfl) (fun _ _ _ h => h) (Or.inl ⟨by rfl, ?_⟩) (by assumption) ?_
                · intro wz hSw; go_simp
                try simp only [Act.put, List.setIfInBounds_toArray, List.set_cons_zero, List.set_cons_succ]
                clear hSw
                obtain ⟨d0, d1, f0, f1⟩ := box2_cells HNF.out.1
                obtain ⟨zg, hza, hzB, hzl, hzc⟩ := own_hitA HCF.out.2 (show 0 < [x].length by simp)
                subst hza
                have hST := box2_set HNF.out.1 (.slice xa CI.length xc) (.slice ya CA.length yc)
                have hGS := (HCF.out.1.setBox HNF.out.1 0 (.slice xa CI.length xc)).setBox (box2_mid HNF.out.1 (.slice xa CI.length xc)) 1 (.slice ya CA.length yc)
                have hOS := own_setBox (own_setBox HCF.out.2 HNF.out.1 0 (.slice xa CI.length xc)) (box2_mid HNF.out.1 (.slice xa CI.length xc)) 1 (.slice ya CA.length yc)
                have hBS := (HBw.out.setCell (p := ⟨nb, 0, none⟩) HNF.out.2 (.slice xa CI.length xc)).setCell (p := ⟨nb, 1, none⟩) HNF.out.2 (.slice ya CA.length yc)
                have HST := Lib.hid hST
                have HGS := Lib.hid hGS
                have HOS := Lib.hid hOS
                have HBS := Lib.hid hBS
                have HNB := Lib.hid HNF.out.2
                clear hST hGS hOS hBS hzB hzl hzc
                refine wpAnyH_ready (rs := [13]) (by kernel_rfl) (by simp) ?_
                refine AllReadyH.cons rfl (fun K hK => ?_) AllReadyH.nil
                go_simp
                refine hK.out _ _ HBS.out (fun hHn => ?_)
                clear hK K hHn
                try simp only [Act.put, List.setIfInBounds_toArray, List.set_cons_zero, List.set_cons_succ]
                generalize (World.setCell wc _ _).setCell _ _ = WS at *
                have hSw := HBS.out
                refine takeC (i := 14) (v := .slice (some ⟨zg, 0, none⟩) 1 zc) (some 15) rfl rfl (by kernel_rfl) (by kernel_rfl) (by kernel_rfl) (fun _ _ _ h => h) (Or.inl ⟨by rfl, ?_⟩) (by assumption) ?_
                · intro wz hSw; go_simp
                try simp only [Act.put, List.setIfInBounds_toArray, List.set_cons_zero, List.set_cons_succ]
                refine takeC (i := 15) (v := .int .i64 0) (some 16) rfl rfl (by kernel_rfl) (by kernel_rfl) (by kernel_rfl) (fun _ _ _ h => h) (Or.inl ⟨by rfl, ?_⟩) (by assumption) ?_
                · intro wz hSw; go_simp
                try simp only [Act.put, List.setIfInBounds_toArray, List.set_cons_zero, List.set_cons_succ]
                refine wpAnyH_done (by kernel_rfl) ?_ _
                clear hSw d0 d1 f0 f1
                obtain ⟨zh, hze, _, hzl, hzc⟩ := own_hitA HOS.out (show 0 < [x].length by simp)
                cases hze
                have HZC : Hid (WS.cell? ⟨zg, 0, none⟩ = some (.int .i64 x)) := hzc
                have HZW : Hid (wr.heap.size ≤ zg) := (HOS.out.lt zg rfl).1
                have HRS := Lib.hid ((HBS.out.block _ HHW.out.1).trans HRR.out)
                clear hzl hzc HCF HNF HGF HLF HBw HBn HCN
                go_upto_region 24 with fail
                refine wp_region_held_drew (S := fun X : World => X.heap[nb]? = some (.cells #[.slice xa CI.length xc, .slice ya CA.length yc] 25 (0, 0)) ∧ X.cell? ⟨zg, 0, none⟩ = some (.int .i64 x)) (by kernel_rfl) ⟨HST.out, HZC.out⟩ (fun hSd => ?_)
                have HGT : Hid (GrO WS.drew wr.heap.size (.slice xa CI.length xc) (.slice ya CA.length yc) CI CA) := HGS.out.below ((Below.refl _ WS).drew) (Nat.le_refl _)
                have HBT : Hid (Below wr.heap.size wr WS.drew) := HBS.out.drew
                have HTT : Hid (WS.drew.heap[nb]? = some (.cells #[.slice xa CI.length xc, .slice ya CA.length yc] 25 (0, 0))) := HST.out
                have HZT : Hid (WS.drew.cell? ⟨zg, 0, none⟩ = some (.int .i64 x)) := HZC.out
                have HRT : Hid (WS.drew.heap[w.heap.size + 1]? = some (.cells #[.slice none 0 0, .slice none 0 0] 25 (0, 0))) := HRS.out
                clear HRS HZC HST HBS HGS HOS
                generalize WS.drew = WT at *
                refine takeC (i := 0) (v := .agg #[.slice xa CI.length xc, .slice ya CA.length yc]) (some 89) rfl rfl (by kernel_rfl) (by kernel_rfl) (by kernel_rfl) (fun _ _ _ h => h) (Or.inl ⟨by rfl, ?_⟩) (by assumption) ?_
                · intro wz hSw; obtain ⟨t0, t1, _, _⟩ := box2_cells (show wz.heap[nb]? = _ from hSw.1); go_simp
                try simp only [Act.put, List.setIfInBounds_toArray, List.set_cons_zero, List.set_cons_succ]
                refine takeC (i := 1) (v := .slice (some ⟨zg, 0, none⟩) 1 zc) (some 90) rfl rfl (by kernel_rfl) (by kernel_rfl) (by kernel_rfl) (fun _ _ _ h => h) (Or.inl ⟨by rfl, ?_⟩) (by assumption) ?_
                · intro wz hSw; go_simp
                try simp only [Act.put, List.setIfInBounds_toArray, List.set_cons_zero, List.set_cons_succ]
                refine takeC (i := 2) (v := .pointer (some ⟨zg, 0, none⟩)) (some 91) rfl rfl (by kernel_rfl) (by kernel_rfl) (by kernel_rfl) (fun _ _ _ h => h) (Or.inl ⟨by rfl, ?_⟩) (by assumption) ?_
                · intro wz hSw; go_simp
                try simp only [Act.put, List.setIfInBounds_toArray, List.set_cons_zero, List.set_cons_succ]
                refine takeC (i := 3) (v := .int .i64 x) (some 92) rfl rfl (by kernel_rfl) (by kernel_rfl) (by kernel_rfl) (fun _ _ _ h => h) (Or.inl ⟨by rfl, ?_⟩) (by assumption) ?_
                · intro wz hSw; have t0 := hSw.2; go_simp
                try simp only [Act.put, List.setIfInBounds_toArray, List.set_cons_zero, List.set_cons_succ]
                obtain ⟨r0, r1, f0, f1⟩ := box2_cells HRT.out
                obtain ⟨g0, g1⟩ := box2_put HRT.out (.slice xa CI.length xc) (.slice ya CA.length yc)
                refine wpAnyH_ready (rs := [4]) (by kernel_rfl) (by simp) ?_
                refine AllReadyH.cons rfl (fun K hK => ?_) AllReadyH.nil
                go_simp
                have hS2 : ((WT.setCell ⟨w.heap.size + 1, 0, none⟩ (.slice xa CI.length xc)).setCell ⟨w.heap.size + 1, 1, none⟩ (.slice ya CA.length yc)).heap[nb]? = some (.cells #[.slice xa CI.length xc, .slice ya CA.length yc] 25 (0, 0)) ∧ ((WT.setCell ⟨w.heap.size + 1, 0, none⟩ (.slice xa CI.length xc)).setCell ⟨w.heap.size + 1, 1, none⟩ (.slice ya CA.length yc)).cell? ⟨zg, 0, none⟩ = some (.int .i64 x) := by
                  have h1 := HHW.out.1
                  have h2 := HNB.out
                  have h3 := HZW.out
                  refine ⟨?_, ?_⟩
                  · rw [heap_set_other _ _ (by omega), heap_set_other _ _ (by omega)]
                    exact HTT.out
                  · rw [World.cell?_of_block (w := WT) (a := ⟨zg, 0, none⟩) (by show _ = WT.heap[zg]?; rw [heap_set_other _ _ (show zg ≠ w.heap.size + 1 by omega), heap_set_other _ _ (show zg ≠ w.heap.size + 1 by omega)])]
                    exact HZT.out
                refine hK.out _ _ hS2 (fun hHn => ?_)
                clear hK K hHn
                try simp only [Act.put, List.setIfInBounds_toArray, List.set_cons_zero, List.set_cons_succ]
                refine takeC (i := 5) (v := .int .i64 x) (some 3) rfl rfl (by kernel_rfl) (by kernel_rfl) (by kernel_rfl) (fun _ _ _ h => h) (Or.inl ⟨by rfl, ?_⟩) (by assumption) ?_
                · intro wz hSw; go_simp
                try simp only [Act.put, List.setIfInBounds_toArray, List.set_cons_zero, List.set_cons_succ]
                refine takeC (i := 6) (v := .int .i64 0) (some 4) rfl rfl (by kernel_rfl) (by kernel_rfl) (by kernel_rfl) (fun _ _ _ h => h) (Or.inl ⟨by rfl, ?_⟩) (by assumption) ?_
                · intro wz hSw; go_simp
                try simp only [Act.put, List.setIfInBounds_toArray, List.set_cons_zero, List.set_cons_succ]
                refine wpAnyH_done (by kernel_rfl) ?_ _
                have HPO : Hid (NetRPost w (netR P gs o) (.returned (.tuple #[.agg #[.slice xa CI.length xc, .slice ya CA.length yc], .int .i64 x, .int .i64 0])) ((WT.setCell ⟨w.heap.size + 1, 0, none⟩ (.slice xa CI.length xc)).setCell ⟨w.heap.size + 1, 1, none⟩ (.slice ya CA.length yc))) := by
                  show NetRPost _ _ _ _
                  rw [HRF.out]
                  have hc : w.heap.size + 1 < wr.heap.size := HHW.out.1
                  have hgd := HGT.out
                  exact ⟨_, _, rfl, ((hgd.set_far hc).set_far hc).mono (by omega), (((HB0.out.trans (HBX.out.mono HB0.out.size)).trans (HBT.out.mono (by omega))).setCell (p := ⟨w.heap.size + 1, 0, none⟩) (by show _ ≤ _ + 1; omega) _).setCell (p := ⟨w.heap.size + 1, 1, none⟩) (by show _ ≤ _ + 1; omega) _⟩
                clear hS2 r0 r1 f0 f1
                go_wp2
                exact ⟨rfl, .tuple #[.agg #[.slice xa CI.length xc, .slice ya CA.length yc], .int .i64 x, .int .i64 0], by simp [results, Tryz.f54, go_sem, g0, g1], HPO.out⟩
  · have hm : mayN P gs o = false := by simpa using hm
    have HRE : Hid (netR P gs o = (([], []), 0, 2)) := by show _ = _; unfold netR; rw [hm]; rfl
    rw [hm] at HMY
    have HBAD : Hid (∀ X, Below W.heap.size W X → (X.cell? ⟨w.heap.size + 1, 0, none⟩ = some (.slice none 0 0) ∧ X.cell? ⟨w.heap.size + 1, 1, none⟩ = some (.slice none 0 0) ∧ X.frozen? ⟨w.heap.size + 1, 0, none⟩ = false ∧ X.frozen? ⟨w.heap.size + 1, 1, none⟩ = false) ∧
      (((X.setCell ⟨w.heap.size + 1, 0, none⟩ (.slice none 0 0)).setCell ⟨w.heap.size + 1, 1, none⟩ (.slice none 0 0)).cell? ⟨w.heap.size + 1, 0, none⟩ = some (.slice none 0 0) ∧ ((X.setCell ⟨w.heap.size + 1, 0, none⟩ (.slice none 0 0)).setCell ⟨w.heap.size + 1, 1, none⟩ (.slice none 0 0)).cell? ⟨w.heap.size + 1, 1, none⟩ = some (.slice none 0 0)) ∧
      NetRPost w (netR P gs o) (.returned (.tuple #[.agg #[.slice none 0 0, .slice none 0 0], .int .i64 0, .int .i64 2])) ((X.setCell ⟨w.heap.size + 1, 0, none⟩ (.slice none 0 0)).setCell ⟨w.heap.size + 1, 1, none⟩ (.slice none 0 0))) := fun X hX => by
      have hr := (hX.block _ (by have := HSZ.out; omega)).trans HRX.out
      refine ⟨box2_cells hr, box2_put hr _ _, ?_⟩
      rw [HRE.out]
      exact ⟨_, _, rfl, GrO.nil _ _, ((HB0.out.trans (hX.mono HB0.out.size)).setCell (p := ⟨w.heap.size + 1, 0, none⟩) (by show _ ≤ _ + 1; omega) _).setCell (p := ⟨w.heap.size + 1, 1, none⟩) (by show _ ≤ _ + 1; omega) _⟩
    clear hm
    go_wp2_with (go_at_call 127; go_loud (refine HMY.out.mono ?_; rintro e w1 ⟨rfl, hb1⟩; obtain ⟨⟨c0, c1, f0, f1⟩, ⟨g0, g1⟩, hpost⟩ := HBAD.out w1 hb1; have HPO := Lib.hid hpost; clear hpost hb1))
    exact ⟨rfl, .tuple #[.agg #[.slice none 0 0, .slice none 0 0], .int .i64 0, .int .i64 2], by simp [results, Tryz.f54, go_sem, g0, g1], HPO.out⟩
end Go.Proofs.YtppglbffmgnooaaGreat
