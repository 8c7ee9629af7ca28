/- asg.begin: the state before the first step. -/
import Derived.Test.YtmhjpbhldaagmaaDoorUnitsG
import Derived.Test.YtmhjpbhldaagmaaDoorUnitsR
namespace Go.Proofs.YtmhjpbhldaagmaaDoor
open Go.RowKit
set_option linter.unusedVariables false

/-- What begin hands back. -/
def BeginPost (n : Nat) (w0 : World) (vf : Value) (f : List (List Int)) (a : List Int) (e : Ending) (w' : World) : Prop :=
  ∃ vw left wait, e = .returned (.pointer (some ⟨n + 3, 0, none⟩)) ∧ PS n w' vf vw a.length (tot f) (fun k => decide (k ∈ a)) (gOf f f.length 0) left wait ∧ BInv f a f.length left wait ∧ Below n w0 w'

theorem PS.made (w : World) (vf : Value) (m : Nat) (w1 : World) (ho : Own w1 (w.heap.size + 2) (.slice (some ⟨w.heap.size + 2, 0, none⟩) m m) (List.replicate m 0)) (hg : ((w.alloc (.map #[] 0)).alloc (.map #[] 0)).grownBy w1 none) (hs : w1.heap.size = w.heap.size + 3) :
    PS w.heap.size (w1.alloc (.cells #[vf, .map (some w.heap.size), .map (some (w.heap.size + 1)), .slice (some ⟨w.heap.size + 2, 0, none⟩) m m, .slice none 0 0] 115)) vf (.slice none 0 0) 0 0 (fun _ => false) (fun _ => []) (List.replicate m 0) [] := by
  have k1 : Kept (fun _ => False) ((w.alloc (.map #[] 0)).alloc (.map #[] 0)) (w1.alloc (.cells #[vf, .map (some w.heap.size), .map (some (w.heap.size + 1)), .slice (some ⟨w.heap.size + 2, 0, none⟩) m m, .slice none 0 0] 115)) :=
    ((Kept.of_grown hg).mono (fun _ _ h => by cases h)).trans (Kept.alloc _ _ _)
  have e1 : (w.alloc (.map #[] 0)).heap.size = w.heap.size + 1 := by simp
  refine ⟨?_, ?_, ?_, ?_, Own.nil _ _, fun k _ h => absurd h (Nat.not_lt_zero _)⟩
  · rw [List.length_replicate, ← hs]
    exact heap_alloc_new w1 _
  · exact ((MapB.made w _ _ _).kept (Kept.alloc (fun _ => False) _ _) (fun h => h)).kept k1 (fun h => h)
  · have := MapG.madeAt (w.alloc (.map #[] 0)) Tryd.prog 3 3 (w.heap.size + 4) (by rw [e1]; omega) (fun g => (Value.slice none 0 0).ownBlock = some g)
    rw [e1] at this
    exact this.kept k1 (fun _ _ h => h.elim) (fun g h => Or.inl h)
  · rw [List.length_replicate]
    exact Own.alloc ho _

/-- 'make([]int, n)': one new block. -/
theorem wpList_mkIntsZ {w : World} {ops : Array Oper} {rest : List Oper} {o : Oper} {a : Act} {Q : Exit → Act → World → Prop} (hgd : o.guard = none) (l c : Operand)
    (hop : o.op = Op.makeSlice 23 l c) (n : Nat) (hl : a.eval l = .int .i64 (n : Int)) (hc : a.eval c = .int .i64 (n : Int)) (hn : n ≤ 17592186044416)
    (h : ∀ w', Own w' w.heap.size (.slice (some ⟨w.heap.size, 0, none⟩) n n) (List.replicate n 0) → w.grownBy w' none → w'.heap.size = w.heap.size + 1 → wpList Tryd.prog ops Q rest (a.put o.dst (.slice (some ⟨w.heap.size, 0, none⟩) n n)) w') : wpList Tryd.prog ops Q (o :: rest) a w := by
  obtain ⟨i0, hi, hz0, hz1, hz2⟩ := info_parts info_int
  refine wpList_plain hgd fun K hK => ?_
  obtain ⟨w', hrun, r1, r2⟩ := run_make_full (P := Tryd.prog) w w.heap.size 23 3 i0 (.int .i64 0) 1 Tryd.underlying23 hi hz0 hz1 .i64 .i64 n (by rw [hz2]; omega) (by unfold maxLen; omega) (Nat.le_refl _)
  have h2 := run_make (P := Tryd.prog) w 23 3 i0 (.int .i64 0) Tryd.underlying23 hi hz0 .i64 .i64 n n (by omega) (Int.le_refl _) (by rw [hz2]; omega) (by omega)
  have hs : w'.heap.size = w.heap.size + 1 := by
    rw [hrun] at h2
    have := (Result.ok.inj h2).2
    rw [this]; simp
  unfold Oper.wp
  simp [execOp, hop, hl, hc, hrun, Result.andThen]
  refine hK _ _ (h w' ?_ r2 hs)
  have e1 : (madeCells (Value.int .i64 0).cells (n * 1)).toList = (List.replicate n (0 : Int)).map (Value.int .i64) := by
    rw [Nat.mul_one]
    show (madeCells #[.int .i64 0] n).toList = _
    rw [toList_madeCells_one, List.map_replicate]
  rw [e1] at r1
  unfold Own
  rw [List.length_replicate]
  exact r1

set_option maxHeartbeats 3200000 in
set_option maxRecDepth 100000 in
theorem begin_any (w : World) (av : Option Addr) (cap : Nat) (va : Value) (f : List (List Int)) (a : List Int) (F : Fine f) (HR : IsRows w (.slice av f.length cap) f) (HA : IsInts w va a) (ha : ∀ x ∈ a, litB x = true) (hal : a.length ≤ 70000) (htot : tot f ≤ 200000) :
    Calls Tryd.prog 34 #[.slice av f.length cap, va] w (BeginPost w.heap.size w (.slice av f.length cap) f a) := by
  have hmm := @run_makeMap Tryd.prog
  obtain ⟨aa, ca, rfl, _, _, hla, h64a, ba, offa, haa, hca⟩ := HA
  have HCA := Lib.hid hca
  have HRR := Lib.hid HR
  have HFI := Lib.hid F
  have HAL := Lib.hid ha
  have hfl := F.len
  clear hca HR F ha
  go_enter Tryd.func34, Tryd.ntmps34
  go_wp2_with (at_make; refine wpList_mkIntsZ rfl _ _ rfl f.length rfl rfl (by omega) ?_; intro w1 hown1 hg1 hs1; have hsz : w1.heap.size = w.heap.size + 3 := (by rw [hs1]; simp))
  have hP0 := PS.made w (.slice av f.length cap) f.length w1 (by simpa using hown1) hg1 hsz
  have hB0 : Below w.heap.size w (w1.alloc (.cells #[.slice av f.length cap, .map (some w.heap.size), .map (some (w.heap.size + 1)), .slice (some ⟨w.heap.size + 2, 0, none⟩) f.length f.length, .slice none 0 0] 115)) :=
    (((((Below.refl _ w).alloc (Nat.le_refl _) _).alloc (by simp) _).grown hg1 (by simp; omega) (fun k h => by cases h)).alloc (by omega) _)
  have HP0 := Lib.hid hP0
  have HB0 := Lib.hid hB0
  clear hP0 hB0 hown1 hg1 hs1
  rw [show w.heap.size + 1 + 1 + 1 = w.heap.size + 3 from rfl]
  go_loopw [22] (fun si wr => ∃ k : Nat, k ≤ a.length ∧ si = .int .i64 k ∧ PS w.heap.size wr (.slice av f.length cap) (.slice none 0 0) k 0 (fun x => decide (x ∈ a.take k)) (fun _ => []) (List.replicate f.length 0) [] ∧ Below w.heap.size w wr) (fun si wr => a.length - (intOf si).toNat)
  case atStart => exact ⟨0, Nat.zero_le _, rfl, by have := HP0.out; rw [show (fun x : Int => decide (x ∈ a.take 0)) = fun _ => false from by funext x; simp]; exact this, HB0.out⟩
  case round =>
    clear HP0 HB0
    obtain ⟨k, hk, rfl, hps, hbel⟩ := hrel
    obtain ⟨d0, d1, d2, d3, d4⟩ := hps.cells
    have hpz := hps.size
    by_cases hlt : k < a.length
    · obtain ⟨rfl, hbs⟩ := haa (by intro h; simp [h] at hlt)
      have hy := (hbel.cell (p := ⟨ba, offa + k, none⟩) hbs).trans (HCA.out k hlt)
      obtain ⟨y0, y1, y2⟩ := litB_bd (HAL.out _ (getD_mem hlt))
      have HPS := Lib.hid hps
      have HBL := Lib.hid hbel
      have hmem : ∀ x, x ∈ a.take (k + 1) ↔ x = a.getD k 0 ∨ x ∈ a.take k := fun x => by rw [takeI_succ hlt]; simp [or_comm]
      have HME := Lib.hid hmem
      clear hps hbel d0 d2 d3 d4 hmem
      generalize a.getD k 0 = y at *
      go_wp2_with (at_mapUpdate; refine wpList_putB rfl _ _ _ 111 rfl 3 4 Tryd.underlying3 Tryd.underlying4 Tryd.underlying111 rfl HPS.out.hm (by unfold maxLen; omega) y true rfl rfl (i64w (by omega) (by omega)) ?_; intro w3 m3 k3)
      go_roundw
      case rel =>
        have hps3 := HPS.out.putH k3 m3
        have e : (fun j : Int => if j = y then true else decide (j ∈ a.take k)) = fun j => decide (j ∈ a.take (k + 1)) := by
          funext j
          by_cases ej : j = y
          · rw [if_pos ej]; exact (decide_eq_true ((HME.out j).2 (Or.inl ej))).symm
          · rw [if_neg ej, decide_eq_decide, HME.out]; exact ⟨Or.inr, fun h => h.resolve_left ej⟩
        rw [e] at hps3
        exact ⟨k + 1, by omega, by go_num, hps3, HBL.out.trans (k3.below (by omega) (fun i hi e => by omega))⟩
      case measure => simp [intOf]; omega
    · have hka : k = a.length := by omega
      subst hka
      rw [List.take_length] at hps
      have HPS : Hid (PS w.heap.size wr (.slice av f.length cap) (.slice none 0 0) a.length 0 (fun x => decide (x ∈ a)) (gOf f 0 0) (List.replicate f.length 0) []) := by
        have : gOf f 0 0 = fun _ => [] := by funext l; exact gOf_zero f l
        show PS _ _ _ _ _ _ _ _ _ _
        rw [this]; exact hps
      have HBL := Lib.hid hbel
      clear hps hbel d0 d1 d2 d3 d4
      go_wp2
      generalize wr = wz at *
      go_loopw [34] (fun si wr => ∃ (k : Nat) (vw : Value) (left wait : List Int), k ≤ f.length ∧ si = .int .i64 k ∧ PS w.heap.size wr (.slice av f.length cap) vw a.length (tot (f.take k)) (fun x => decide (x ∈ a)) (gOf f k 0) left wait ∧ BInv f a k left wait ∧ Below w.heap.size w wr) (fun si wr => f.length - (intOf si).toNat)
      case atStart => exact ⟨0, _, _, _, Nat.zero_le _, rfl, by have := HPS.out; simpa [tot] using this, BInv.start f a, HBL.out⟩
      case round =>
        clear HPS HBL hpz
        obtain ⟨k, vw, left, wait, hk, rfl, hps, hbi, hbel⟩ := hrel
        by_cases hlt : k < f.length
        · obtain ⟨b, off, u, rfl, hbk, hu, HU⟩ := HRR.out.at hlt
          obtain ⟨c, hc⟩ : ∃ c, c = f.getD k [] := ⟨_, rfl⟩
          rw [← hc] at HU
          have hcf : c ∈ f := by rw [hc]; exact HFI.out.at hlt
          have HCL := Lib.hid (HFI.out.lit c hcf)
          have HND := Lib.hid (HFI.out.nd c hcf)
          have HEQ := Lib.hid hc
          have hu2 := (hbel.cell (p := ⟨b, off + k, none⟩) hbk).trans hu
          have htk : tot (f.take (k + 1)) = tot (f.take k) + c.length := by rw [tot_take_succ hlt, ← hc]
          have htl := tot_take_le f (k + 1)
          have hbd : tot (f.take k) + c.length ≤ 200000 := by omega
          have HTK := Lib.hid htk
          clear hu htk htl hcf hc
          obtain ⟨ad, capc, rfl, _, _, hcl, hc64, b2, off2, hac, hcc⟩ := HU
          have HCC := Lib.hid hcc
          have HPS := Lib.hid hps
          have HBI := Lib.hid hbi
          have HBL := Lib.hid hbel
          clear hcc hps hbi hbel
          generalize tot (f.take k) = tk at *
          go_wp2
          generalize wr = wy at *
          go_loopw [41] (fun si wr => ∃ (t : Nat) (left' : List Int), t ≤ c.length ∧ si = .int .i64 t ∧ PS w.heap.size wr (.slice (some ⟨b, off, none⟩) f.length cap) vw a.length (tk + t) (fun x => decide (x ∈ a)) (gOf f k t) left' wait ∧ CInv f a k t left' wait ∧ Below w.heap.size w wr) (fun si wr => c.length - (intOf si).toNat)
          case atStart => exact ⟨0, left, Nat.zero_le _, rfl, HPS.out, HBI.out.into, HBL.out⟩
          case round =>
            clear HPS HBI HBL hu2
            obtain ⟨t, left', ht, rfl, hps, hci, hbel⟩ := hrel
            obtain ⟨d0, d1, d2, d3, d4⟩ := hps.cells
            have hpz := hps.size
            have hlen := hci.len
            by_cases hlt2 : t < c.length
            · obtain ⟨rfl, hbs⟩ := hac (by intro h; simp [h] at hlt2)
              have hy := (hbel.cell (p := ⟨b2, off2 + t, none⟩) hbs).trans (HCC.out t hlt2)
              obtain ⟨y0, y1, y2⟩ := litB_bd (HCL.out _ (getD_mem hlt2))
              have hgs : gOf f k (t + 1) = fun j => if j = c.getD t 0 then gOf f k t (c.getD t 0) ++ [k] else gOf f k t j := by
                funext j
                have := gOf_step f k t (by rw [← HEQ.out]; exact HND.out) (by rw [← HEQ.out]; exact hlt2) j
                rw [← HEQ.out] at this
                rw [this]
                by_cases e : j = c.getD t 0
                · rw [if_pos e, if_pos e, e]
                · rw [if_neg e, if_neg e]
              obtain ⟨v1, v2, run1, run2, o1, o2, hln, g1, g2⟩ := grp_step hps (c.getD t 0) y1 y2 k (by omega) (by omega) (fun i hi => by have := gOf_lt f k t _ i hi; omega) (.cells #[.int .i64 (k : Int)] 3)
              have hct : -(c.getD t 0) ∈ a → CInv f a k (t + 1) left' wait := fun h => hci.hold (by rw [← HEQ.out]; exact hlt2) (by rw [← HEQ.out]; exact h)
              have hcm : -(c.getD t 0) ∉ a → CInv f a k (t + 1) (left'.set k (left'.getD k 0 + 1)) wait := fun h => hci.more hlt (by rw [← HEQ.out]; exact hlt2) (by rw [← HEQ.out]; exact h)
              have hlv : 0 ≤ left'.getD k 0 ∧ left'.getD k 0 ≤ 200000 := by
                rw [hci.cur]
                have h1 := List.length_filter_le (fun x => decide (-x ∉ a)) ((f.getD k []).take t)
                rw [← HEQ.out] at h1 ⊢
                simp only [List.length_take] at h1
                unfold nonF
                omega
              have O1 := Lib.hid o1
              have O2 := Lib.hid o2
              have G1 := Lib.hid g1
              have G2 := Lib.hid g2
              have HGS := Lib.hid hgs
              have HCT := Lib.hid hct
              have HCM := Lib.hid hcm
              have HLV := Lib.hid hlv
              have HBL := Lib.hid hbel
              have hkl : k < left'.length := by omega
              have hp3 : w.heap.size + 3 < wr.heap.size := by omega
              clear o1 o2 g1 g2 hgs hct hcm hlv hbel hci hps d0 d1 d3 d4 hlen
              generalize c.getD t 0 = y at *
              obtain ⟨zs, hzs⟩ : ∃ zs, zs = ofN (gOf f k t y) := ⟨_, rfl⟩
              rw [← hzs] at O1 O2 hln
              have HZ := Lib.hid hzs
              clear hzs
              go_wp2_with fail
              go_region_law (first
                | (refine step_app1T rfl (.tmp 55) (.tmp 57) 23 Tryd.underlying23 rfl (w.heap.size + 4) v1 zs (k : Int) wr.heap.size rfl rfl O1.out (by simp) (by omega) (by simp; omega) ?_; intro v' w5 ho5 hg5 hl5; rw [HZ.out] at ho5; obtain ⟨w6, hru6, hps6, hb6, hc5⟩ := G1.out v' w5 ho5 hg5 hl5; have HPS6 := Lib.hid hps6; have HB6 := Lib.hid hb6; have e1 := hps6.cells.2.1; have e3 := hps6.cells.2.2.2.1; have l6 := hps6.lr.cell k hkl; have f6 := hps6.lr.frozen k; clear hps6 hb6 ho5 hg5 hl5)
                | (refine step_app1T rfl (.tmp 55) (.tmp 57) 23 Tryd.underlying23 rfl (w.heap.size + 4) v2 zs (k : Int) wr.heap.size rfl rfl O2.out (by simp) (by omega) (by simp; omega) ?_; intro v' w5 ho5 hg5 hl5; rw [HZ.out] at ho5; obtain ⟨w6, hru6, hps6, hb6, hc5⟩ := G2.out v' w5 ho5 hg5 hl5; have HPS6 := Lib.hid hps6; have HB6 := Lib.hid hb6; have e1 := hps6.cells.2.1; have e3 := hps6.cells.2.2.2.1; have l6 := hps6.lr.cell k hkl; have f6 := hps6.lr.frozen k; clear hps6 hb6 ho5 hg5 hl5))
              all_goals
                by_cases hh : -y ∈ a
                · have hd : decide (-y ∈ a) = true := by simpa using hh
                  have HC1 := Lib.hid (HCT.out hh)
                  clear hh
                  go_wp2_with (at_lookup; refine wpList_lookB rfl _ _ 111 rfl 3 4 Tryd.underlying3 Tryd.underlying4 Tryd.underlying111 (zero_bool _) rfl HPS6.out.hm (-y) rfl (i64w (by omega) (by omega)) ?_; rw [hd])
                  go_roundw
                  case rel => exact ⟨t + 1, left', by omega, by go_num, by rw [HGS.out]; exact HPS6.out, HC1.out, HBL.out.trans HB6.out⟩
                  case measure => simp [intOf]; omega
                · have hd : decide (-y ∈ a) = false := by simpa using hh
                  have HC1 := Lib.hid (HCM.out hh)
                  have HS6 := Lib.hid (HPS6.out.setLeft k (left'.getD k 0 + 1))
                  have hv1 := HLV.out.1
                  have hv2 := HLV.out.2
                  have HSB := Lib.hid (((HBL.out.trans HB6.out).setCell (p := ⟨w.heap.size + 2, k, none⟩) (by simp) (.int .i64 (left'.getD k 0 + 1))))
                  clear hh
                  generalize left'.getD k 0 = z at *
                  go_wp2_with (at_lookup; refine wpList_lookB rfl _ _ 111 rfl 3 4 Tryd.underlying3 Tryd.underlying4 Tryd.underlying111 (zero_bool _) rfl HPS6.out.hm (-y) rfl (i64w (by omega) (by omega)) ?_; rw [hd])
                  go_roundw
                  case rel => exact ⟨t + 1, left'.set k (z + 1), by omega, by go_num, by rw [HGS.out]; exact HS6.out, HC1.out, HSB.out⟩
                  case measure => simp [intOf]; omega
            · have htc : t = c.length := by omega
              subst htc
              have hkl : k < left'.length := by omega
              have hl6 := hps.lr.cell k hkl
              have hnx : gOf f (k + 1) 0 = gOf f k c.length := by rw [gOf_next, ← HEQ.out]
              have hci2 : ∀ wait', (if left'.getD k 0 ≤ 1 then (∀ x, x ∈ wait' ↔ x = (k : Int) ∨ x ∈ wait) ∧ wait'.length = wait.length + 1 else wait' = wait) → BInv f a (k + 1) left' wait' := fun wait' h => CInv.out (by rw [← HEQ.out]; exact hci) h
              have hwl : wait.length ≤ k + 1 := by have := hci.ms; split at this <;> omega
              rw [← hnx] at hps
              have HC2 := Lib.hid hci2
              have HPS := Lib.hid hps
              have HBL := Lib.hid hbel
              clear hci hci2 hnx hps hbel d0 d1 d2 hlen
              generalize left'.getD k 0 = z at *
              by_cases hz : z ≤ 1
              · have hd : decide (z ≤ 1) = true := by simpa using hz
                have HPU := Lib.hid (hpush_any vw wait (k : Int) (w.heap.size + 4) (w.heap.size + 3) 4 _ _ _ HPS.out.wr HPS.out.fld (by omega) (by omega) (fun e => by have := HPS.out.far _ e; omega) HPS.out.hh)
                have HZZ := Lib.hid hz
                clear hz
                go_wp2_with (go_at_call 69; refine HPU.out.mono ?_; rintro e w7 ⟨v7, m7, rfl, hnow7, hhp7, hlen7, hmem7⟩)
                go_roundw
                case rel => exact ⟨k + 1, v7, left', m7, by omega, by go_num, by rw [HTK.out]; exact HPS.out.now hnow7 hhp7, HC2.out m7 (by rw [if_pos HZZ.out]; exact ⟨hmem7, hlen7⟩), HBL.out.trans (below_now hnow7 HPS.out.far (by omega))⟩
                case measure => simp [intOf]; omega
              · have hd : decide (z ≤ 1) = false := by simpa using hz
                have HZZ := Lib.hid hz
                have hz2 : 1 < z := by omega
                clear hz
                go_wp2
                go_roundw
                case rel => exact ⟨k + 1, vw, left', wait, by omega, by go_num, by rw [HTK.out]; exact HPS.out, HC2.out wait (by rw [if_neg HZZ.out]), HBL.out⟩
                case measure => simp [intOf]; omega
        · have hkf : k = f.length := by omega
          subst hkf
          rw [List.take_length] at hps
          have HR : Hid (BeginPost w.heap.size w (.slice av f.length cap) f a (.returned (.pointer (some ⟨w.heap.size + 3, 0, none⟩))) wr) := ⟨vw, left, wait, rfl, hps, hbi, hbel⟩
          clear hps hbi hbel
          go_wp2
          go_ret
          exact HR.out

end Go.Proofs.YtmhjpbhldaagmaaDoor
