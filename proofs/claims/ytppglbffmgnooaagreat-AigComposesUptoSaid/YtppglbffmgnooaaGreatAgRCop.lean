/- The reference's copied. -/
import Derived.Test.YtppglbffmgnooaaGreatAgRCopP
import Derived.Test.YtppglbffmgnooaaGreatAgRConj
import Derived.Test.YtppglbffmgnooaaGreatAgCopy
namespace Go.Proofs.YtppglbffmgnooaaGreat
open Go.RowKit Go.Maps Go.Shelf
set_option linter.unusedVariables false
set_option linter.unusedSimpArgs false

theorem KpM.wide {B pm bt : Nat} {w w' : World} (h : KpM B pm pm w w') : KpM B pm bt w w' := ⟨h.below, fun k o h1 _ h3 h4 => h.same k o h1 h1 h3 h4⟩
theorem rmk_own {wb w w' : World} {B B' pm : Nat} {I : List Int} {s : Mq} {vi va v : Value} {xs : List Int} (H : RMk wb w B pm I s vi va) (k : KpM B pm pm w w') (h : Own w B' v xs) : Own w' B' v xs := by
  refine own_turn h (fun g cur hg => (k.same g _ (fun e => ?_) (fun e => ?_) hg (fun e => absurd e (by decide))).trans hg.symm)
  · rw [e, H.box] at hg
    simp only [Option.some.injEq, Obj.cells.injEq] at hg
    exact absurd hg.2.1 (by decide)
  · rw [e, H.box] at hg
    simp only [Option.some.injEq, Obj.cells.injEq] at hg
    exact absurd hg.2.1 (by decide)
theorem own_obj {w : World} {B g : Nat} {v : Value} {xs : List Int} (h : Own w B v xs) (hg : v.ownBlock = some g) : ∃ cur, w.heap[g]? = some (.cells cur 3 (0, 0)) := by
  rcases h.2 with ⟨rfl, _⟩ | ⟨g1, cap, cur, rfl, hB, hg1, _⟩
  · cases hg
  · have : g1 = g := by simpa [Value.ownBlock] using hg
    subst this
    exact ⟨_, hg1⟩
theorem ownB_turn {w w' : World} {B : Nat} {v : Value} {xs : List Bool} (h : OwnB w B v xs) (hk : ∀ (g : Nat) (cur : Array Value), v.ownBlock = some g → w.heap[g]? = some (Obj.cells cur 4 (0, 0)) → w'.heap[g]? = w.heap[g]?) : OwnB w' B v xs := by
  refine ⟨h.1, ?_⟩
  rcases h.2 with hn | ⟨g, cap, cur, hv, hB, hg, rest⟩
  · exact .inl hn
  · exact .inr ⟨g, cap, cur, hv, hB, (hk g _ (by rw [hv]; rfl) hg).trans hg, rest⟩
theorem RMk.set {wb w : World} {B B' pm bt n c : Nat} {I : List Int} {s : Mq} {vi va : Value} {xs : List Int} {x : Value} (H : RMk wb w B pm I s vi va) (h : Own w B' (.slice (some ⟨bt, 0, none⟩) n c) xs) (hbt : wb.heap.size ≤ bt) (hB : B ≤ bt) (i : Nat) : RMk wb (w.setCell ⟨bt, i, none⟩ x) B pm I s vi va := by
  obtain ⟨cur, hc⟩ := own_obj h (g := bt) rfl
  have hpm : pm ≠ bt := fun e => by
    rw [← e, H.box] at hc
    simp only [Option.some.injEq, Obj.cells.injEq] at hc
    exact absurd hc.2.1 (by decide)
  refine ⟨(heap_set_other i x hpm).trans H.box, H.kp.set hbt hB, H.ins, H.il, H.row.turn (fun g hg => heap_set_other i x (fun e => ?_)), H.ok, H.inp, H.lb⟩
  obtain ⟨cur2, hc2⟩ := H.row.obj hg
  rw [e, hc] at hc2
  simp only [Option.some.injEq, Obj.cells.injEq] at hc2
  exact absurd hc2.2.1 (by decide)
def RCopPost (wb w : World) (B pm : Nat) (I : List Int) (r : List Int × Mq) (vi : Value) (e : Ending) (w' : World) : Prop := ∃ u va', e = .returned u ∧ Own w' w.heap.size u r.1 ∧ RMk wb w' B pm I r.2 vi va' ∧ KpM B pm pm w w'

set_option maxRecDepth 100000 in
set_option maxHeartbeats 6400000 in
theorem rcopied_any {wb w : World} {B pm : Nat} {J : List Int} {s : Mq} {vj vb : Value} (vi va vl vx : Value) (I : List Int) (A : List Pr) (l ins : List Int) (H : RMk wb w B pm J s vj vb) (hB : B ≤ w.heap.size) (hw : wb.heap.size ≤ w.heap.size)
    (HG : ∀ Z, Below B w Z → IsInts Z vi I ∧ IsPairs Z va A) (HL : IsInts w vl l) (HX : IsInts w vx ins) (hx : ins.length = I.length) (hroom : 1 + I.length + A.length ≤ 200000) (hok : okUpto (1 + I.length) A A.length = true) (hel : edgesB l (1 + I.length + A.length) = true)
    (hie : ∀ x ∈ ins, isE x (1 + J.length + s.1.length) = true) :
    Calls Tryz.prog 86 #[.pointer (some ⟨pm, 0, none⟩), .agg #[vi, va], vl, vx] w (RCopPost wb w B pm J (rcAll (1 + J.length) I A ins l s) vj) := by
  have hb0 := below_alloc1 w (.cells #[vi, va] 25)
  have hsz : (w.alloc (.cells #[vi, va] 25)).heap.size = w.heap.size + 1 := by simp
  have hgx : (w.alloc (.cells #[vi, va] 25)).heap[w.heap.size]? = some (.cells #[vi, va] 25 (0, 0)) := World.alloc_heap_new _ _
  have hG0 := HG _ (hb0.mono hB)
  obtain ⟨ia, ic, rfl⟩ := hG0.1.shape
  obtain ⟨aa, ac, rfl, _⟩ := hG0.2.shape
  have HM1 := Lib.hid (H.kpb hb0 hB)
  have HL1 := Lib.hid (HL.below hb0 (Nat.le_refl _))
  have HX1 := Lib.hid (HX.below hb0 (Nat.le_refl _))
  obtain ⟨la, lc, rfl⟩ := HL.shape
  obtain ⟨xa, xc, rfl⟩ := HX.shape
  have HPM : Hid (pm < w.heap.size) := H.lt
  have HCK := Lib.hid (fun m hm => rcTo_ok (R := reachA (1 + I.length) A l) (show 1 ≤ 1 + J.length by omega) hok (rcIn_ok (nn := 1 + I.length + A.length) (by omega) H.ok (by omega) hie) m hm)
  have HRC : Hid (rcAll (1 + J.length) I A ins l s = rcTo (1 + J.length) (1 + I.length) A (reachA (1 + I.length) A l) (rcIn (1 + I.length + A.length) ins ins.length, s) A.length) := rfl
  have HPB := Lib.hid (fun i hi => @okPair_bd (1 + I.length) A i hok hi)
  have HRE : Hid (∀ X, Below (w.alloc (.cells #[.slice ia I.length ic, .slice aa A.length ac] 25)).heap.size (w.alloc (.cells #[.slice ia I.length ic, .slice aa A.length ac] 25)) X → Calls Tryz.prog 64 #[.agg #[.slice ia I.length ic, .slice aa A.length ac], .slice la l.length lc] X fun r w' => ∃ g, r = .returned (.slice (some ⟨g, 0, none⟩) (1 + I.length + A.length) (1 + I.length + A.length)) ∧ OwnB w' X.heap.size (.slice (some ⟨g, 0, none⟩) (1 + I.length + A.length) (1 + I.length + A.length)) (reachA (1 + I.length) A l) ∧ Below X.heap.size X w') := fun X hX =>
    rreached_any _ _ _ I A l X (hG0.1.below hX (Nat.le_refl _)) (hG0.2.below hX (Nat.le_refl _)) (HL1.out.below hX (Nat.le_refl _)) (by omega) (by omega) hok hel
  have HND : Hid (∀ X, Below (w.alloc (.cells #[.slice ia I.length ic, .slice aa A.length ac] 25)).heap.size (w.alloc (.cells #[.slice ia I.length ic, .slice aa A.length ac] 25)) X → Calls Tryz.prog 48 #[.agg #[.slice ia I.length ic, .slice aa A.length ac]] X fun r w' => r = .returned (.int .i64 ((1 + I.length + A.length : Nat) : Int)) ∧ Below X.heap.size X w') := fun X hX =>
    rnodes_any _ _ I A X (hG0.1.below hX (Nat.le_refl _)) (hG0.2.below hX (Nat.le_refl _)) (by omega) (by omega)
  have HGG := Lib.hid HG
  have HBB := Lib.hid hB
  have HWB := Lib.hid hw
  have hIl : I.length ≤ 200000 := by omega
  have hAl : A.length ≤ 200000 := by omega
  have hXl : ins.length ≤ 200000 := by omega
  have HXE : Hid (ins.length = I.length) := hx
  clear HL HX H HG hG0 hB hw hx
  go_enter Tryz.func86, Tryz.ntmps86
  go_upto_region 1 with fail
  generalize w.alloc (.cells #[.slice ia I.length ic, .slice aa A.length ac] 25) = W at *
  have HB0 := Lib.hid hb0
  have HGX := Lib.hid hgx
  have HSZ := Lib.hid hsz
  obtain ⟨p0, p1, _, _⟩ := box2_cells hgx
  clear hb0 hgx hsz
  obtain ⟨nn, hnn⟩ : ∃ nn : Nat, 1 + I.length + A.length = nn := ⟨_, rfl⟩
  have HNN := Lib.hid hnn
  rw [hnn] at HRE HND HCK HRC
  have hn2 : nn ≤ 200000 := by omega
  generalize hR : reachA (1 + I.length) A l = R at *
  have HRL : Hid (R.length = nn) := by show _ = _; rw [← hR, reachA_len, hnn]
  clear hnn hR
  go_upto_region 2 with (go_at_call 64; refine (HRE.out W (Below.refl _ _)).mono ?_; rintro e w1 ⟨bm, rfl, hr, hb1⟩; have HMR := Lib.hid hr; have HB1 := Lib.hid hb1; clear hr hb1 p0 p1)
  obtain ⟨p0, p1, _, _⟩ := box2_cells ((HB1.out.block _ (Array.getElem?_eq_some_iff.1 HGX.out).1).trans HGX.out)
  go_upto_region 3 with (first
    | (at_make; refine wpList_mkInts rfl _ _ rfl nn rfl rfl (by omega) ?_; intro w3 hown hg; have HO := Lib.hid hown; have HB3 := Lib.hid ((Below.refl w2.heap.size w2).grown hg (Nat.le_refl _) (fun k hk => by cases hk)); clear hown hg)
    | (go_at_call 48; refine (HND.out w1 HB1.out).mono ?_; rintro e w2 ⟨rfl, hb2⟩; have HB2 := Lib.hid (HB1.out.trans (hb2.mono HB1.out.size)); have HS12 : Hid (w1.heap.size ≤ w2.heap.size) := hb2.size; have HMR2 := Lib.hid (ownB_below HMR.out hb2 (Nat.le_refl _)); clear hb2))
  have HBW3 := Lib.hid (HB2.out.trans (HB3.out.mono HB2.out.size))
  have HMR3 := Lib.hid (ownB_below HMR2.out HB3.out (Nat.le_refl _))
  have hlt2 : W.heap.size ≤ w2.heap.size := HB2.out.size
  have hbm := HMR2.out.lt1
  generalize w2.heap.size = bt at *
  have HT : Hid (W.heap.size ≤ bt ∧ bm < bt) := ⟨hlt2, hbm⟩
  clear p0 p1 HRE HND HMR HMR2 HB1 HB2 HB3 HS12 hlt2 hbm
  go_wp2
  go_loopw [11] (fun i wr => ∃ k : Nat, k ≤ ins.length ∧ i = .int .i64 k ∧ Own wr bt (.slice (some ⟨bt, 0, none⟩) nn nn) (rcIn nn ins k) ∧ Kept (fun j => j = bt) w3 wr) (fun i _ => ins.length - (intOf i).toNat)
  case atStart => exact ⟨0, Nat.zero_le _, rfl, HO.out, Kept.refl _ _⟩
  case round =>
    obtain ⟨k, hk, rfl, ho, hkp⟩ := hrel
    have HOR := Lib.hid ho
    have HKP := Lib.hid hkp
    have HBR : Hid (Below W.heap.size W wr) := HBW3.out.trans (hkp.below HBW3.out.size (fun i hi e => by have := HT.out; omega))
    clear ho hkp
    by_cases hlt : k < ins.length
    · obtain ⟨b, off, rfl, hbl, hc0⟩ := HX1.out.cellY hlt
      have hc := (HBR.out.cell (p := ⟨b, off + k, none⟩) hbl).trans hc0
      have HSK := Lib.hid (rcIn_succ nn ins k)
      have hkn : k + 1 < nn := by have := HNN.out; have := HXE.out; omega
      have hln : k + 1 < (rcIn nn ins k).length := by rw [rcIn_len]; exact hkn
      have m0 := HOR.out.cell (k + 1) hln
      have m1 := HOR.out.frozen (k + 1)
      have HOS := Lib.hid (HOR.out.store (k + 1) (ins.getD k 0))
      have HKS := Lib.hid (HKP.out.trans (Kept.setCell wr ⟨bt, k + 1, none⟩ (.int .i64 (ins.getD k 0))))
      have HKL := Lib.hid hlt
      have hk0 : (0 : Int) ≤ (k : Int) := by omega
      have hk1 : (k : Int) < (ins.length : Int) := by omega
      obtain ⟨k2, hk2⟩ : ∃ k2 : Nat, k + 1 = k2 := ⟨_, rfl⟩
      have hk3 : (k : Int) + 1 = (k2 : Int) := by omega
      have hk4 : (0 : Int) ≤ (k2 : Int) := by omega
      have hk5 : (k2 : Int) < (nn : Int) := by omega
      have HK2 := Lib.hid hk2
      rw [hk2] at m0 m1 HOS HKS HSK
      clear hc0 hlt hbl hkn hln hk2
      generalize ins.getD k 0 = y at *
      go_wp2
      go_roundw
      case rel => exact ⟨k2, by have := HKL.out; have := HK2.out; omega, rfl, by rw [← HK2.out, HK2.out, HSK.out]; exact HOS.out, HKS.out⟩
      case measure => have := HKL.out; have := HK2.out; simp [intOf]; omega
    · obtain rfl : k = ins.length := by omega
      have HM4 := Lib.hid (HM1.out.kpb HBR.out (Nat.le_trans HBB.out HB0.out.size))
      have HK4 : Hid (KpM B pm pm w wr) := KpM.of_below (HB0.out.trans (HBR.out.mono HB0.out.size)) HBB.out
      have HMR4 : Hid (OwnB wr W.heap.size (.slice (some ⟨bm, 0, none⟩) nn nn) R) := ownB_turn HMR3.out (fun g cur hg ho => by
        have : bm = g := by simpa [Value.ownBlock] using hg
        exact HKP.out.block g (Array.getElem?_eq_some_iff.1 ho).1 (fun e => by have := HT.out; have e : g = bt := e; omega))
      have HGX4 : Hid (wr.heap[w.heap.size]? = some (.cells #[.slice ia I.length ic, .slice aa A.length ac] 25 (0, 0))) := (HBR.out.block _ (Array.getElem?_eq_some_iff.1 HGX.out).1).trans HGX.out
      obtain ⟨ST, hST⟩ : ∃ ST : Nat → List Int × Mq, (fun k => rcTo (1 + J.length) (1 + I.length) A R (rcIn nn ins ins.length, s) k) = ST := ⟨_, rfl⟩
      have HST : Hid (∀ k, rcTo (1 + J.length) (1 + I.length) A R (rcIn nn ins ins.length, s) k = ST k) := fun k => by rw [← hST]
      have HS0 : Hid (ST 0 = (rcIn nn ins ins.length, s)) := by show _ = _; rw [← hST]; rfl
      have HSS : Hid (∀ k, ST (k + 1) = rcStep (1 + J.length) (1 + I.length) A R (ST k) k) := fun k => by rw [← HST.out, ← HST.out]; exact rcTo_succ _ _ _ _ _ _
      have HCS : Hid (∀ m, m ≤ A.length → CpOk (1 + J.length) nn s (ST m)) := fun m hm => by rw [← HST.out]; exact HCK.out m hm
      rw [HST.out] at HRC
      have HO4 : Hid (Own wr bt (.slice (some ⟨bt, 0, none⟩) nn nn) (ST 0).1) := by rw [Hid, HS0.out]; exact HOR.out
      have HM4' : Hid (RMk wb wr B pm J (ST 0).2 vj vb) := by rw [Hid, HS0.out]; exact HM4.out
      clear hST HST HCK HOR HKP HBR hk hlt HX1 HL1 HM1 HO HMR3 HBW3 HGX
      generalize wr = w4 at *
      go_wp2
      go_loopw [12] (fun i wr => ∃ (k : Nat) (vq : Value), k ≤ A.length ∧ i = .int .i64 k ∧ Own wr bt (.slice (some ⟨bt, 0, none⟩) nn nn) (ST k).1 ∧ RMk wb wr B pm J (ST k).2 vj vq ∧ KpM B pm pm w wr ∧ KpM B pm bt w4 wr) (fun i _ => A.length - (intOf i).toNat)
      case atStart => exact ⟨0, vb, Nat.zero_le _, rfl, HO4.out, HM4'.out, HK4.out, KpM.refl _ _ _ _⟩
      case round =>
        obtain ⟨k, vq, hk, rfl, ho, hm, hkp, hkq⟩ := hrel
        have HOR := Lib.hid ho
        have HMR := Lib.hid hm
        have HKP := Lib.hid hkp
        have HKQ := Lib.hid hkq
        have HBX : Hid (wr.heap[w.heap.size]? = some (.cells #[.slice ia I.length ic, .slice aa A.length ac] 25 (0, 0))) := hkq.same _ _ (fun e => by have := HPM.out; omega) (fun e => by have := HT.out; have := HSZ.out; omega) HGX4.out (fun e => absurd e (by decide))
        clear ho hm hkp hkq
        obtain ⟨p0, p1, _, _⟩ := box2_cells HBX.out
        by_cases hlt : k < A.length
        · obtain ⟨n, hn⟩ : ∃ n : Nat, 1 + I.length + k = n := ⟨_, rfl⟩
          have hnn1 : n < nn := by have := HNN.out; omega
          have hmr : OwnB wr W.heap.size (.slice (some ⟨bm, 0, none⟩) nn nn) R := ownB_turn HMR4.out (fun g cur hg ho => by
            have hbg : bm = g := by simpa [Value.ownBlock] using hg
            refine (HKQ.out.same g _ (fun e => ?_) (fun e => by have := HT.out; omega) ho (fun e => absurd e (by decide))).trans ho.symm
            rw [e, HM4.out.box] at ho
            simp only [Option.some.injEq, Obj.cells.injEq] at ho
            exact absurd ho.2.1 (by decide))
          have hmc := hmr.cell n (by rw [HRL.out]; exact hnn1)
          have HKL := Lib.hid hlt
          have hk0 : (0 : Int) ≤ (k : Int) := by omega
          have hk1 : (k : Int) < (A.length : Int) := by omega
          have hk2 : (k : Int) < 4000001 := by omega
          have hni : (1 : Int) + (I.length : Int) + (k : Int) = (n : Int) := by omega
          have hn0 : (0 : Int) ≤ (n : Int) := by omega
          have hn1 : (n : Int) < (nn : Int) := by omega
          have HSK := Lib.hid (HSS.out k)
          have HNK := Lib.hid hn
          clear hmr
          cases hr : R.getD n false with
          | false =>
            rw [hr] at hmc
            have HSE : Hid (ST (k + 1) = ST k) := by show _ = _; rw [HSK.out]; unfold rcStep; rw [hn, if_neg (by rw [hr]; simp)]
            clear hr hlt hn HSK hnn1
            go_wp2
            go_roundw
            case rel => exact ⟨k + 1, vq, HKL.out, by go_num, by rw [HSE.out]; exact HOR.out, by rw [HSE.out]; exact HMR.out, HKP.out, HKQ.out⟩
            case measure => have := HKL.out; simp [intOf]; omega
          | true =>
            rw [hr] at hmc
            have hpb := HPB.out k hlt
            have hco := HCS.out k (by omega)
            have HSE : Hid (ST (k + 1) = ((ST k).1.set n (conjA (1 + J.length) (ST k).2 (movE (ST k).1 (A.getD k dPr).1) (movE (ST k).1 (A.getD k dPr).2)).1, (conjA (1 + J.length) (ST k).2 (movE (ST k).1 (A.getD k dPr).1) (movE (ST k).1 (A.getD k dPr).2)).2)) := by
              show _ = _
              rw [HSK.out]
              unfold rcStep
              rw [hn, if_pos hr]
              unfold cpAnd
              rw [show ((n : Nat) : Int).toNat = n from rfl, show n - (1 + I.length) = k from by omega]
            have hpw := (HGG.out wr HKP.out.below).2
            obtain ⟨ab, aoff, rfl, _, _, _⟩ := hpw.at hlt
            have HPC : Hid (∀ Z, Below B w Z → Z.cell? ⟨ab, aoff + k * 2, none⟩ = some (.int .i64 (A.getD k dPr).1) ∧ Z.cell? ⟨ab, aoff + k * 2 + 1, none⟩ = some (.int .i64 (A.getD k dPr).2)) := fun Z hZ => by
              obtain ⟨b', off', e, _, c1, c2⟩ := (HGG.out Z hZ).2.at hlt
              have e2 := Option.some.inj e
              injection e2 with e3 e4
              subst e3
              subst e4
              exact ⟨c1, c2⟩
            generalize ST k = st at *
            obtain ⟨tk, sk⟩ := st
            generalize A.getD k dPr = pr at *
            obtain ⟨q1, q2⟩ := pr
            simp only at hco hpb HSE HPC HOR HMR
            have hln : tk.length = nn := hco.len
            have HLN := Lib.hid hln
            have HBD := Lib.hid hco.bd
            have e1 := movE_isE (e := q1) hco.ent hpb.1.1 (by rw [hln]; have := hpb.1.2; have := HNN.out; omega)
            have e2 := movE_isE (e := q2) hco.ent hpb.2.1 (by rw [hln]; have := hpb.2.2; have := HNN.out; omega)
            have HE1 := Lib.hid e1
            have HE2 := Lib.hid e2
            have HG1 : Hid (0 ≤ q1 ∧ q1 / 2 < (nn : Int)) := ⟨hpb.1.1, by have := hpb.1.2; have := HNN.out; omega⟩
            have HG2 : Hid (0 ≤ q2 ∧ q2 / 2 < (nn : Int)) := ⟨hpb.2.1, by have := hpb.2.2; have := HNN.out; omega⟩
            have HNL : Hid (n < tk.length) := by show _ < _; rw [hln]; exact hnn1
            clear hr hlt hn HSK hnn1 hpb hco hpw hln e1 e2
            go_upto_region 12 with fail
            clear hmc hni p0 p1
            have hwd : Below wr.heap.size wr wr.drew := (Below.refl _ wr).drew
            have HOD := Lib.hid (HOR.out.below hwd (Nat.le_refl _))
            have HMD := Lib.hid (HMR.out.kpb hwd (Nat.le_trans HBB.out HKP.out.below.size))
            have HKD : Hid (KpM B pm pm w wr.drew) := HKP.out.trans (KpM.of_below hwd (Nat.le_trans HBB.out HKP.out.below.size))
            have HKE : Hid (KpM B pm bt w4 wr.drew) := HKQ.out.trans (KpM.of_below hwd (Nat.le_trans HBB.out HKP.out.below.size))
            have HBD2 : Hid (wr.drew.heap[w.heap.size]? = some (.cells #[.slice ia I.length ic, .slice (some ⟨ab, aoff, none⟩) A.length ac] 25 (0, 0))) := HBX.out
            have HWS : Hid (B ≤ wr.drew.heap.size) := Nat.le_trans HBB.out HKD.out.below.size
            refine wp_region_held_drew (S := fun Z : World => Z.heap[w.heap.size]? = some (.cells #[.slice ia I.length ic, .slice (some ⟨ab, aoff, none⟩) A.length ac] 25 (0, 0)) ∧ Z.cell? ⟨ab, aoff + k * 2, none⟩ = some (.int .i64 q1) ∧ Z.cell? ⟨ab, aoff + k * 2 + 1, none⟩ = some (.int .i64 q2)) (by kernel_rfl) ⟨HBD2.out, HPC.out _ HKD.out.below⟩ (fun hSd => ?_)
            clear hwd HBX
            generalize wr.drew = X at *
            have HIT := Lib.hid (HOD.out.ints (by rw [HLN.out]; omega) (fun x hx => by have := HBD.out x hx; omega))
            have HI1 := Lib.hid (rimage_any _ tk q1 X HIT.out HG1.out.1 (by rw [HLN.out]; exact HG1.out.2) HBD.out (by rw [HLN.out]; omega))
            have HI2 := Lib.hid (rimage_any _ tk q2 X HIT.out HG2.out.1 (by rw [HLN.out]; exact HG2.out.2) HBD.out (by rw [HLN.out]; omega))
            have HCJ := Lib.hid (rconj_any (movE tk q1) (movE tk q2) HMD.out HWS.out HE1.out HE2.out)
            generalize movE tk q1 = m1v at *
            generalize movE tk q2 = m2v at *
            generalize conjA (1 + J.length) sk m1v m2v = rr at *
            obtain ⟨r1, sr⟩ := rr
            simp only at HSE
            unfold RConjPost at HCJ
            refine takeC (i := 0) (v := .slice (some ⟨bt, 0, none⟩) nn nn) (some 51) rfl rfl (by kernel_rfl) (by kernel_rfl) (by kernel_rfl) (fun _ _ _ h => h) (Or.inl ⟨by rfl, ?_⟩) (by assumption) ?_
            · intro wz hSw; go_simp
            try simp only [Act.put, List.setIfInBounds_toArray, List.set_cons_zero, List.set_cons_succ]
            refine takeC (i := 1) (v := .int .i64 (n : Int)) (some 52) rfl rfl (by kernel_rfl) (by kernel_rfl) (by kernel_rfl) (fun _ _ _ h => h) (Or.inl ⟨by rfl, ?_⟩) (by assumption) ?_
            · intro wz hSw; go_simp
            try simp only [Act.put, List.setIfInBounds_toArray, List.set_cons_zero, List.set_cons_succ]
            refine takeC (i := 2) (v := .pointer (some ⟨pm, 0, none⟩)) (some 53) rfl rfl (by kernel_rfl) (by kernel_rfl) (by kernel_rfl) (fun _ _ _ h => h) (Or.inl ⟨by rfl, ?_⟩) (by assumption) ?_
            · intro wz hSw; go_simp
            try simp only [Act.put, List.setIfInBounds_toArray, List.set_cons_zero, List.set_cons_succ]
            refine takeC (i := 3) (v := .slice (some ⟨bt, 0, none⟩) nn nn) (some 54) rfl rfl (by kernel_rfl) (by kernel_rfl) (by kernel_rfl) (fun _ _ _ h => h) (Or.inl ⟨by rfl, ?_⟩) (by assumption) ?_
            · intro wz hSw; go_simp
            try simp only [Act.put, List.setIfInBounds_toArray, List.set_cons_zero, List.set_cons_succ]
            refine takeC (i := 4) (v := .pointer (some ⟨w.heap.size, 1, none⟩)) (some 55) rfl rfl (by kernel_rfl) (by kernel_rfl) (by kernel_rfl) (fun _ _ _ h => h) (Or.inl ⟨by rfl, ?_⟩) (by assumption) ?_
            · intro wz hSw; go_simp
            try simp only [Act.put, List.setIfInBounds_toArray, List.set_cons_zero, List.set_cons_succ]
            refine takeC (i := 5) (v := .slice (some ⟨ab, aoff, none⟩) A.length ac) (some 56) rfl rfl (by kernel_rfl) (by kernel_rfl) (by kernel_rfl) (fun _ _ _ h => h) (Or.inl ⟨by rfl, ?_⟩) (by assumption) ?_
            · intro wz hSw; obtain ⟨t0, t1, _, _⟩ := box2_cells hSw.1; go_simp
            try simp only [Act.put, List.setIfInBounds_toArray, List.set_cons_zero, List.set_cons_succ]
            refine takeC (i := 6) (v := .int .i64 (k : Int)) (some 57) rfl rfl (by kernel_rfl) (by kernel_rfl) (by kernel_rfl) (fun _ _ _ h => h) (Or.inl ⟨by rfl, ?_⟩) (by assumption) ?_
            · intro wz hSw; go_simp
            try simp only [Act.put, List.setIfInBounds_toArray, List.set_cons_zero, List.set_cons_succ]
            refine takeC (i := 7) (v := .pointer (some ⟨ab, aoff + k * 2, none⟩)) (some 58) rfl rfl (by kernel_rfl) (by kernel_rfl) (by kernel_rfl) (fun _ _ _ h => h) (Or.inl ⟨by rfl, ?_⟩) (by assumption) ?_
            · intro wz hSw; go_simp
            try simp only [Act.put, List.setIfInBounds_toArray, List.set_cons_zero, List.set_cons_succ]
            refine takeC (i := 8) (v := .pointer (some ⟨ab, aoff + k * 2, none⟩)) (some 59) rfl rfl (by kernel_rfl) (by kernel_rfl) (by kernel_rfl) (fun _ _ _ h => h) (Or.inl ⟨by rfl, ?_⟩) (by assumption) ?_
            · intro wz hSw; go_simp
            try simp only [Act.put, List.setIfInBounds_toArray, List.set_cons_zero, List.set_cons_succ]
            refine takeC (i := 9) (v := .int .i64 q1) (some 60) rfl rfl (by kernel_rfl) (by kernel_rfl) (by kernel_rfl) (fun _ _ _ h => h) (Or.inl ⟨by rfl, ?_⟩) (by assumption) ?_
            · intro wz hSw; have t0 := hSw.2.1; have t1 := hSw.2.2; go_simp
            try simp only [Act.put, List.setIfInBounds_toArray, List.set_cons_zero, List.set_cons_succ]
            refine takeC (i := 11) (v := .slice (some ⟨bt, 0, none⟩) nn nn) (some 62) rfl rfl (by kernel_rfl) (by kernel_rfl) (by kernel_rfl) (fun _ _ _ h => h) (Or.inl ⟨by rfl, ?_⟩) (by assumption) ?_
            · intro wz hSw; go_simp
            try simp only [Act.put, List.setIfInBounds_toArray, List.set_cons_zero, List.set_cons_succ]
            refine takeC (i := 12) (v := .pointer (some ⟨w.heap.size, 1, none⟩)) (some 63) rfl rfl (by kernel_rfl) (by kernel_rfl) (by kernel_rfl) (fun _ _ _ h => h) (Or.inl ⟨by rfl, ?_⟩) (by assumption) ?_
            · intro wz hSw; go_simp
            try simp only [Act.put, List.setIfInBounds_toArray, List.set_cons_zero, List.set_cons_succ]
            refine takeC (i := 13) (v := .slice (some ⟨ab, aoff, none⟩) A.length ac) (some 64) rfl rfl (by kernel_rfl) (by kernel_rfl) (by kernel_rfl) (fun _ _ _ h => h) (Or.inl ⟨by rfl, ?_⟩) (by assumption) ?_
            · intro wz hSw; obtain ⟨t0, t1, _, _⟩ := box2_cells hSw.1; go_simp
            try simp only [Act.put, List.setIfInBounds_toArray, List.set_cons_zero, List.set_cons_succ]
            refine takeC (i := 14) (v := .int .i64 (k : Int)) (some 65) rfl rfl (by kernel_rfl) (by kernel_rfl) (by kernel_rfl) (fun _ _ _ h => h) (Or.inl ⟨by rfl, ?_⟩) (by assumption) ?_
            · intro wz hSw; go_simp
            try simp only [Act.put, List.setIfInBounds_toArray, List.set_cons_zero, List.set_cons_succ]
            refine takeC (i := 15) (v := .pointer (some ⟨ab, aoff + k * 2, none⟩)) (some 66) rfl rfl (by kernel_rfl) (by kernel_rfl) (by kernel_rfl) (fun _ _ _ h => h) (Or.inl ⟨by rfl, ?_⟩) (by assumption) ?_
            · intro wz hSw; go_simp
            try simp only [Act.put, List.setIfInBounds_toArray, List.set_cons_zero, List.set_cons_succ]
            refine takeC (i := 16) (v := .pointer (some ⟨ab, aoff + k * 2 + 1, none⟩)) (some 67) rfl rfl (by kernel_rfl) (by kernel_rfl) (by kernel_rfl) (fun _ _ _ h => h) (Or.inl ⟨by rfl, ?_⟩) (by assumption) ?_
            · intro wz hSw; go_simp
            try simp only [Act.put, List.setIfInBounds_toArray, List.set_cons_zero, List.set_cons_succ]
            refine takeC (i := 17) (v := .int .i64 q2) (some 68) rfl rfl (by kernel_rfl) (by kernel_rfl) (by kernel_rfl) (fun _ _ _ h => h) (Or.inl ⟨by rfl, ?_⟩) (by assumption) ?_
            · intro wz hSw; have t0 := hSw.2.1; have t1 := hSw.2.2; go_simp
            try simp only [Act.put, List.setIfInBounds_toArray, List.set_cons_zero, List.set_cons_succ]
            refine wpAnyH_ready (rs := [10]) (by kernel_rfl) (by simp) ?_
            refine AllReadyH.cons rfl (fun K hK => ?_) AllReadyH.nil
            go_simp
            go_wp2_with (go_at_call 100; refine HI1.out.mono ?_; rintro er w9 ⟨rfl, rfl⟩)
            refine hK.out _ _ ⟨HBD2.out, HPC.out _ HKD.out.below⟩ (fun hHn => ?_)
            clear hK K hHn
            try simp only [Act.put, List.setIfInBounds_toArray, List.set_cons_zero, List.set_cons_succ]
            refine wpAnyH_ready (rs := [18]) (by kernel_rfl) (by simp) ?_
            refine AllReadyH.cons rfl (fun K hK => ?_) AllReadyH.nil
            go_simp
            go_wp2_with (go_at_call 100; refine HI2.out.mono ?_; rintro er w9 ⟨rfl, rfl⟩)
            refine hK.out _ _ ⟨HBD2.out, HPC.out _ HKD.out.below⟩ (fun hHn => ?_)
            clear hK K hHn
            try simp only [Act.put, List.setIfInBounds_toArray, List.set_cons_zero, List.set_cons_succ]
            refine wpAnyH_ready (rs := [19]) (by kernel_rfl) (by simp) ?_
            refine AllReadyH.cons rfl (fun K hK => ?_) AllReadyH.nil
            go_simp
            go_wp2_with (go_at_call 149; refine HCJ.out.mono ?_; rintro er w9 ⟨vq9, rfl, hm9, hk9⟩)
            have HM9 := Lib.hid hm9
            have HK9 := Lib.hid (HKD.out.trans hk9)
            have HL9 := Lib.hid (HKE.out.trans hk9.wide)
            have HO9 := Lib.hid (rmk_own HMD.out hk9 HOD.out)
            have HX9 : Hid (w9.heap[w.heap.size]? = some (.cells #[.slice ia I.length ic, .slice (some ⟨ab, aoff, none⟩) A.length ac] 25 (0, 0))) := hk9.same _ _ (fun e => by have := HPM.out; omega) (fun e => by have := HPM.out; omega) HBD2.out (fun e => absurd e (by decide))
            refine hK.out _ _ ⟨HX9.out, HPC.out _ HK9.out.below⟩ (fun hHn => ?_)
            clear hK K hHn hm9 hk9 hSd
            try simp only [Act.put, List.setIfInBounds_toArray, List.set_cons_zero, List.set_cons_succ]
            have m0 := HO9.out.cell n HNL.out
            have m1 := HO9.out.frozen n
            have hS9 : w9.heap[w.heap.size]? = some (.cells #[.slice ia I.length ic, .slice (some ⟨ab, aoff, none⟩) A.length ac] 25 (0, 0)) ∧ w9.cell? ⟨ab, aoff + k * 2, none⟩ = some (.int .i64 q1) ∧ w9.cell? ⟨ab, aoff + k * 2 + 1, none⟩ = some (.int .i64 q2) := ⟨HX9.out, HPC.out _ HK9.out.below⟩
            refine takeC (i := 20) (v := .pointer (some ⟨bt, n, none⟩)) (some 71) rfl rfl (by kernel_rfl) (by kernel_rfl) (by kernel_rfl) (fun _ _ _ h => h) (Or.inl ⟨by rfl, ?_⟩) (by assumption) ?_
            · intro wz hSw; go_simp
            try simp only [Act.put, List.setIfInBounds_toArray, List.set_cons_zero, List.set_cons_succ]
            clear hS9
            have HO10 := Lib.hid (HO9.out.store n r1)
            have HM10 : Hid (RMk wb (w9.setCell ⟨bt, n, none⟩ (.int .i64 r1)) B pm J sr vj vq9) := HM9.out.set HO9.out (by have := HT.out; have := HSZ.out; have := HWB.out; omega) (by have := HT.out; have := HSZ.out; have := HBB.out; omega) n
            have HK10 : Hid (KpM B pm pm w (w9.setCell ⟨bt, n, none⟩ (.int .i64 r1))) := HK9.out.set (by have := HT.out; have := HSZ.out; omega) (by have := HT.out; have := HSZ.out; have := HBB.out; omega)
            have HL10 : Hid (KpM B pm bt w4 (w9.setCell ⟨bt, n, none⟩ (.int .i64 r1))) := HL9.out.trans (KpM.kept (Kept.setCell w9 ⟨bt, n, none⟩ (.int .i64 r1)) (by have := HT.out; have := HSZ.out; have := HBB.out; omega) (Nat.le_trans HBB.out HK9.out.below.size))
            have HX10 : Hid ((w9.setCell ⟨bt, n, none⟩ (.int .i64 r1)).heap[w.heap.size]? = some (.cells #[.slice ia I.length ic, .slice (some ⟨ab, aoff, none⟩) A.length ac] 25 (0, 0))) := (heap_set_other n _ (by have := HT.out; have := HSZ.out; omega)).trans HX9.out
            refine wpAnyH_ready (rs := [21]) (by kernel_rfl) (by simp) ?_
            refine AllReadyH.cons rfl (fun K hK => ?_) AllReadyH.nil
            go_simp
            refine hK.out _ _ ⟨HX10.out, HPC.out _ HK10.out.below⟩ (fun hHn => ?_)
            clear hK K hHn m0 m1
            try simp only [Act.put, List.setIfInBounds_toArray, List.set_cons_zero, List.set_cons_succ]
            refine wpAnyH_done (by kernel_rfl) ?_ _
            go_wp2
            go_roundw
            case rel => exact ⟨k + 1, vq9, HKL.out, by go_num, by rw [HSE.out]; exact HO10.out, by rw [HSE.out]; exact HM10.out, HK10.out, HL10.out⟩
            case measure => have := HKL.out; simp [intOf]; omega
        · obtain rfl : k = A.length := by omega
          go_wp2
          go_ret
          exact ⟨_, vq, rfl, by rw [HRC.out]; exact HOR.out.mono (by have := HT.out; have := HSZ.out; omega), by rw [HRC.out]; exact HMR.out, HKP.out⟩
end Go.Proofs.YtppglbffmgnooaaGreat
