/- (*Maker).copier's function: it copies what edges reach. Written by gen-copy.py. -/
import Derived.Test.YtppglbffmgnooaaGreatA07
import Derived.Test.YtppglbffmgnooaaGreatA01
namespace Go.Proofs.YtppglbffmgnooaaGreat
open Go.RowKit Go.Maps
set_option linter.unusedVariables false
set_option linter.unusedSimpArgs false
attribute [local go_sem] drew_cellq drew_frozenq

theorem fold_succ {α : Type} (f : α → Int → α) (a : α) {l : List Int} {k : Nat} (h : k < l.length) : (l.take (k + 1)).foldl f a = f ((l.take k).foldl f a) (l.getD k 0) := by
  rw [ints_take_succ h, List.foldl_append]
  rfl
theorem Own.isInts {w : World} {B g n cap : Nat} {xs : List Int} (h : Own w B (.slice (some ⟨g, 0, none⟩) n cap) xs) : ∃ cur, w.heap[g]? = some (.cells cur 3 (0, 0)) := by
  rcases h.2 with ⟨e, _⟩ | ⟨g', cap', cur, e, hB, hg, _⟩
  · cases e
  · injection e with e1
    injection e1 with e2
    injection e2 with e3
    subst e3
    exact ⟨cur, hg⟩
theorem Own.set_far {w : World} {B c n : Nat} {u v : Value} {xs : List Int} (h : Own w B v xs) (hc : c < B) : Own (w.setCell ⟨c, n, none⟩ u) B v xs :=
  (Kept.setCell w ⟨c, n, none⟩ u).row h (fun g hg => by have := (h.lt g hg).1; show ¬ g = c; omega)
theorem kpM_own {w w' : World} {B B' pm : Nat} {I : List Int} {s : Mq} {vi v : Value} {bf sl : Nat} {xs : List Int} (H : MkE w B pm I s vi bf sl) (k : KpM B pm bf w w') (h : Own w B' v xs) : Own w' B' v xs := by
  obtain ⟨va, n, H⟩ := H
  refine own_turn h (fun g cur hg => (k.same g _ (fun e => ?_) (fun e => ?_) hg (fun e => absurd e (by decide))).trans hg.symm)
  · rw [e, H.box] at hg
    simp only [Option.some.injEq, Obj.cells.injEq] at hg
    exact absurd hg.2.1 (by decide)
  · obtain ⟨es, clock, hm⟩ := H.map.obj
    rw [e, hm] at hg
    simp at hg
theorem KpM.set {w w' : World} {B pm bf bt n : Nat} {u : Value} (h : KpM B pm bf w w') (hbt : w.heap.size ≤ bt) (hB : B ≤ bt) : KpM B pm bf w (w'.setCell ⟨bt, n, none⟩ u) :=
  ⟨h.below.setCell (p := ⟨bt, n, none⟩) hB u, fun k o h1 h2 h3 h4 => (heap_set_other n u (fun e => by have := (Array.getElem?_eq_some_iff.1 h3).1; omega)).trans (h.same k o h1 h2 h3 h4)⟩
/-- The inputs lie below C, or there are none. -/
def ViLow (C : Nat) (vi : Value) (I : List Int) : Prop := (∀ g, vi.ownBlock = some g → g < C) ∨ (I = [] ∧ ∃ a c, vi = .slice a 0 c ∧ (a = none → c = 0) ∧ c ≤ 9223372036854775807)
theorem MkE.low {w : World} {B pm : Nat} {I : List Int} {s : Mq} {vi : Value} {bf sl : Nat} (h : MkE w B pm I s vi bf sl) : ViLow w.heap.size vi I := by
  obtain ⟨va, n, h⟩ := h
  rcases h.ins with hi | hi
  · exact .inl (fun g hg => (hi.lt g hg).2)
  · exact .inr hi
theorem MkE.set {w : World} {B pm C bt : Nat} {I : List Int} {s : Mq} {vi : Value} {bf sl : Nat} (H : MkE w B pm I s vi bf sl) (h0 : ViLow C vi I) (hbt : C ≤ bt) (ht : ∃ cur, w.heap[bt]? = some (.cells cur 3 (0, 0))) (n : Nat) (u : Value) :
    MkE (w.setCell ⟨bt, n, none⟩ u) B pm I s vi bf sl := by
  obtain ⟨va, m, h⟩ := H
  obtain ⟨cur, ht⟩ := ht
  have hk := Kept.setCell w ⟨bt, n, none⟩ u
  refine ⟨va, m, ?_, ?_, h.i64, h.il, h.row.turn (fun g hg => ?_), h.map.kept hk (fun e => ?_), h.cap, h.slk, h.ok, h.inp, h.lb⟩
  · rw [heap_set_other n u (fun e => ?_)]
    · exact h.box
    · have hb := h.box
      rw [e, ht] at hb
      simp only [Option.some.injEq, Obj.cells.injEq] at hb
      exact absurd hb.2.1 (by decide)
  · rcases h0 with h0 | h0
    · rcases h.ins with hi | hi
      · exact .inl (hk.row hi (fun g hg e => by have := h0 g hg; have : g = bt := e; omega))
      · exact .inr hi
    · exact .inr h0
  · refine heap_set_other n u (fun e => ?_)
    obtain ⟨cur', hc⟩ := h.row.obj hg
    rw [e, ht] at hc
    simp only [Option.some.injEq, Obj.cells.injEq] at hc
    exact absurd hc.2.1 (by decide)
  · obtain ⟨es, clock, hm⟩ := h.map.obj
    rw [show bf = bt from e, ht] at hm
    simp at hm
theorem MkE.below {w w' : World} {B C pm : Nat} {I : List Int} {s : Mq} {vi : Value} {bf sl : Nat} (h : MkE w B pm I s vi bf sl) (hb : Below C w w') (hC : w.heap.size ≤ C) : MkE w' B pm I s vi bf sl := by
  obtain ⟨va, n, h⟩ := h
  exact ⟨va, n, h.below hb hC⟩
/-- What the copier's function reads. -/
def CopyAt (w : World) (pm : Nat) (vgi vga vl : Value) (J : List Int) (A : List Pr) (l : List Int) (bg bk bm : Nat) : Prop :=
  IsInts w vgi J ∧ IsPairs w vga A ∧ IsInts w vl l ∧ w.cell? ⟨bg, 0, none⟩ = some vgi ∧ w.cell? ⟨bg, 1, none⟩ = some vga ∧ w.cell? ⟨bk, 0, none⟩ = some (.int .i64 ((1 + J.length : Nat) : Int)) ∧ w.cell? ⟨bm, 0, none⟩ = some (.pointer (some ⟨pm, 0, none⟩))
theorem onN_in {m : List Bool} {a n k : Nat} (h : k < (onN m a n).length) : ∃ i : Nat, (onN m a n).getD k 0 = (i : Int) ∧ a ≤ i ∧ i < a + n := by
  have hm : (onN m a n).getD k 0 ∈ onN m a n := by simp [List.getD, h]
  obtain ⟨i, hi, h1, h2, _⟩ := onN_mem.1 hm
  exact ⟨i, hi, h1, h2⟩
set_option maxRecDepth 100000 in
set_option maxHeartbeats 6400000 in
theorem gcopied_any {w : World} {B pm : Nat} {I : List Int} {s : Mq} {vi : Value} {bf sl : Nat} (HMk : MkE w B pm I s vi bf sl) (hB : B ≤ w.heap.size)
    (vgi vga vl vf : Value) (J : List Int) (A : List Pr) (l : List Int) (bg bk bm : Nat) (img : Int → Int)
    (hG : ∀ X, KpM B pm bf w X → CopyAt X pm vgi vga vl J A l bg bk bm) (hF : ImgAt w vf J img)
    (hA : okUpto (1 + J.length) A A.length = true) (hl : edgesB l (1 + J.length + A.length) = true) (hi : ∀ v ∈ J, isE (img v) (1 + I.length + s.1.length) = true) (hn : 1 + J.length + A.length ≤ 200000) :
    Calls Tryz.prog 151 #[vl, vf, .pointer (some ⟨bg, 0, none⟩), .pointer (some ⟨bk, 0, none⟩), .pointer (some ⟨bm, 0, none⟩)] w fun e w' => ∃ v, e = .returned v ∧ Own w' w.heap.size v (copyA (1 + I.length) J A img l s).1 ∧ MkE w' B pm I (copyA (1 + I.length) J A img l s).2 vi bf sl ∧ KpM B pm bf w w' := by
  have h0 := hG w (KpM.refl _ _ _ _)
  obtain ⟨gi, ga, gl, p0, p1, p2, p3⟩ := h0
  have HGI := Lib.hid gi
  have HGA := Lib.hid ga
  have HGL := Lib.hid gl
  obtain ⟨ia, ic, rfl⟩ := gi.shape
  obtain ⟨aa, ac, rfl, _⟩ := ga.shape
  obtain ⟨la, lc, rfl⟩ := gl.shape
  obtain ⟨g, f0, cb, rfl, eg, ht⟩ := hF
  have HT := Lib.hid ht
  have HG := Lib.hid hG
  have HMK := Lib.hid HMk
  have HVI := Lib.hid HMk.low
  have hjl : J.length ≤ 200000 := by omega
  have hal : A.length ≤ 200000 := by omega
  have HEQ : Hid (copyA (1 + I.length) J A img l s = (l.map (movE ((onN (reachA (1 + J.length) A l) (1 + J.length) A.length).foldl (cpAnd (1 + J.length) A (1 + I.length)) ((onN (reachA (1 + J.length) A l) 1 J.length).foldl (cpIn J img) (List.replicate (1 + J.length + A.length) 0), s)).1), ((onN (reachA (1 + J.length) A l) (1 + J.length) A.length).foldl (cpAnd (1 + J.length) A (1 + I.length)) ((onN (reachA (1 + J.length) A l) 1 J.length).foldl (cpIn J img) (List.replicate (1 + J.length + A.length) 0), s)).2)) := rfl
  have HCO : Hid (∀ j, CpOk (1 + I.length) (1 + J.length + A.length) s (((onN (reachA (1 + J.length) A l) (1 + J.length) A.length).take j).foldl (cpAnd (1 + J.length) A (1 + I.length)) ((onN (reachA (1 + J.length) A l) 1 J.length).foldl (cpIn J img) (List.replicate (1 + J.length + A.length) 0), s))) := fun j =>
    cpTake_ok (k := 1 + I.length) (I := J) (A := A) (img := img) (l := l) (by omega) HMk.ok hA hi j
  have HPB := Lib.hid (fun i => okPair_bd (k := 1 + J.length) (A := A) (i := i) hA)
  have HLE := Lib.hid (edgesB_true.1 hl)
  have hN0 := nodes_any _ _ J A w gi ga (by omega) (by omega)
  have HR : Hid (∀ X, Below w.heap.size w X → Calls Tryz.prog 63 #[.agg #[.slice ia J.length ic, .slice aa A.length ac], .slice la l.length lc] X fun r w' => ∃ u v, r = .returned (.tuple #[u, v]) ∧ Own w' X.heap.size u (onN (reachA (1 + J.length) A l) 1 J.length) ∧ Own w' X.heap.size v (onN (reachA (1 + J.length) A l) (1 + J.length) A.length) ∧ Below X.heap.size X w') := fun X hX =>
    reached_any _ _ _ J A l X (gi.below hX (Nat.le_refl _)) (ga.below hX (Nat.le_refl _)) (gl.below hX (Nat.le_refl _)) (by omega) (by omega) hA hl
  have HLI : Hid ((onN (reachA (1 + J.length) A l) 1 J.length).length ≤ 200000) := Nat.le_trans (onN_len _ _ _) (by omega)
  have HLA : Hid ((onN (reachA (1 + J.length) A l) (1 + J.length) A.length).length ≤ 200000) := Nat.le_trans (onN_len _ _ _) (by omega)
  have HII := Lib.hid (fun k => @onN_in (reachA (1 + J.length) A l) 1 J.length k)
  have HIA := Lib.hid (fun k => @onN_in (reachA (1 + J.length) A l) (1 + J.length) A.length k)
  have H64I : Hid (In64 (onN (reachA (1 + J.length) A l) 1 J.length)) := fun y hy => by obtain ⟨n, rfl, _, _, _⟩ := onN_mem.1 hy; omega
  have H64A : Hid (In64 (onN (reachA (1 + J.length) A l) (1 + J.length) A.length)) := fun y hy => by obtain ⟨n, rfl, _, _, _⟩ := onN_mem.1 hy; omega
  clear gi ga gl ht hG HMk hA hl hi
  generalize onN (reachA (1 + J.length) A l) 1 J.length = ins at *
  generalize onN (reachA (1 + J.length) A l) (1 + J.length) A.length = ands at *
  obtain ⟨kg, hkg⟩ : ∃ kg, 1 + J.length = kg := ⟨_, rfl⟩
  obtain ⟨nn, hnn⟩ : ∃ nn, kg + A.length = nn := ⟨_, rfl⟩
  rw [hkg] at HCO HPB HLE HEQ hN0 HIA p2
  rw [hnn] at HCO HLE HEQ hN0
  have HKG := Lib.hid hkg
  have HNN := Lib.hid hnn
  have hnn2 : nn ≤ 200000 := by omega
  have HN := Lib.hid hN0
  have P3 := Lib.hid p3
  have P2 := Lib.hid p2
  clear hN0 hkg hnn hn p2 p3
  go_enter Tryz.func151, Tryz.ntmps151
  go_upto_region 2 with (first
    | (at_make; refine wpList_mkInts rfl _ _ rfl nn rfl rfl (by omega) ?_; intro w2 hown hg; have HO := Lib.hid hown; have HB2 := Lib.hid ((Below.refl w1.heap.size w1).grown hg (Nat.le_refl _) (fun k hk => by cases hk)); clear hown hg)
    | (go_at_call 66; refine HN.out.mono ?_; rintro e w1 ⟨rfl, hb1⟩; have HB1 := Lib.hid hb1; clear hb1))
  have HBW2 := Lib.hid (HB1.out.trans (HB2.out.mono HB1.out.size))
  have hbt0 : w.heap.size ≤ w1.heap.size := HB1.out.size
  have hbt2 := HO.out.block.2
  generalize w1.heap.size = bt at *
  have q0 := (HBW2.out.cell (World.block_lt_of_cell? w _ p0)).trans p0
  have q1 := (HBW2.out.cell (World.block_lt_of_cell? w _ p1)).trans p1
  have HRR := Lib.hid (HR.out w2 HBW2.out)
  clear p0 p1 HR HN HB1 HB2
  go_upto_region 3 with (go_at_call 63; refine HRR.out.mono ?_; rintro e w3 ⟨u, v, rfl, hu, hv, hb3⟩; have HU := Lib.hid hu; have HV := Lib.hid hv; obtain ⟨ua, uc, rfl⟩ := own_shC hu; obtain ⟨va', vc, rfl⟩ := own_shC hv; have HB3 := Lib.hid hb3; clear hu hv hb3)
  have HBW3 := Lib.hid (HBW2.out.trans (HB3.out.mono HBW2.out.size))
  have HO3 := Lib.hid (HO.out.below HB3.out (Nat.le_refl _))
  have hiu := HU.out.ints (by have := HLI.out; omega) H64I.out
  have HIU := Lib.hid hiu
  have hbtC : bt < w2.heap.size := hbt2
  have HC3 : Hid (w2.heap.size ≤ w3.heap.size) := HB3.out.size
  clear hiu q0 q1 HRR HO HB3 HBW2 hbt2
  generalize w2.heap.size = C at *
  go_wp2
  go_loopw [30] (fun i wr => ∃ k : Nat, k ≤ ins.length ∧ i = .int .i64 k ∧ Own wr bt (.slice (some ⟨bt, 0, none⟩) nn nn) ((ins.take k).foldl (cpIn J img) (List.replicate nn 0)) ∧ Kept (fun j => j = bt) w3 wr) (fun i _ => ins.length - (intOf i).toNat)
  case atStart => exact ⟨0, Nat.zero_le _, rfl, HO3.out, Kept.refl _ _⟩
  case round =>
    obtain ⟨k, hk, rfl, ho, hkp⟩ := hrel
    have HO := Lib.hid ho
    have HK := Lib.hid hkp
    have HBW := Lib.hid (HBW3.out.trans (hkp.below (B := w.heap.size) HBW3.out.size (fun j hj e => by have : j = bt := e; omega)))
    clear ho hkp
    by_cases hlt : k < ins.length
    · obtain ⟨b, off, rfl, hbl, hc0⟩ := HIU.out.cellY hlt
      have hbC : b ≠ bt := fun e => by
        have := (HU.out.lt b rfl).1
        omega
      have hc := (HK.out.cell (p := ⟨b, off + k, none⟩) hbl hbC).trans hc0
      obtain ⟨n, hn, hn1, hnJ⟩ := HII.out k hlt
      have HF := Lib.hid (fold_succ (cpIn J img) (List.replicate nn 0) hlt)
      rw [hn] at hc HF
      obtain ⟨p, hp⟩ : ∃ p, n = p + 1 := ⟨n - 1, by omega⟩
      have hnp : (n : Int) - 1 = (p : Int) := by omega
      have hpJ : p < J.length := by omega
      have HCI : Hid (∀ t, cpIn J img t (n : Int) = t.set n (img (J.getD p 0))) := fun t => by
        show t.set (n : Int).toNat (img (J.getD ((n : Int).toNat - 1) 0)) = _
        rw [show (n : Int).toNat = n from by omega, show n - 1 = p from by omega]
      obtain ⟨b2, off2, rfl, hb2, hx0⟩ := HGI.out.cellY hpJ
      have hx := (HBW.out.cell (p := ⟨b2, off2 + p, none⟩) hb2).trans hx0
      have hxm : J.getD p 0 ∈ J := getD_mem hpJ
      have HTX := Lib.hid (HT.out wr HBW.out _ hxm)
      obtain ⟨_, _, _, r0, r1, _, _⟩ := HG.out wr (KpM.of_below HBW.out hB)
      have hnn1 : n < nn := by have := HNN.out; have := HKG.out; omega
      have hp0 : (0 : Int) ≤ (p : Int) := by omega
      have hp1 : (p : Int) < (J.length : Int) := by omega
      have hq0 : (0 : Int) ≤ (n : Int) := by omega
      have hq1 : (n : Int) < (nn : Int) := by omega
      have HKL := Lib.hid hlt
      have hkb : k < 4000000 := by have := HLI.out; omega
      have HLT : Hid (n < ((ins.take k).foldl (cpIn J img) (List.replicate nn 0)).length) := by show _ < _; rw [cpIns_len, List.length_replicate]; exact hnn1
      clear hc0 hn hn1 hnJ hp hpJ hx0 hxm hlt hbC hnn1
      generalize J.getD p 0 = y at *
      generalize img y = z at *
      generalize (ins.take k).foldl (cpIn J img) (List.replicate nn 0) = tk at *
      go_wp2_with fail
      refine HTX.out.mono ?_
      rintro e wq ⟨rfl, hq⟩
      have HOQ := Lib.hid (HO.out.quiet hq)
      have m0 := HOQ.out.cell n HLT.out
      have m1 := HOQ.out.frozen n
      have HOS := Lib.hid (HOQ.out.store n z)
      have HKQ : Hid (Kept (fun j => j = bt) wr wq) := by obtain ⟨mq, rfl⟩ := hq; exact ⟨rfl, rfl, rfl, Nat.le_refl _, fun _ _ _ => rfl⟩
      have HKS := Lib.hid ((HK.out.trans HKQ.out).trans (Kept.setCell wq ⟨bt, n, none⟩ (.int .i64 z)))
      go_wp2
      go_roundw
      case rel => exact ⟨k + 1, HKL.out, by go_num, by rw [HF.out, HCI.out]; exact HOS.out, HKS.out⟩
      case measure => have := HKL.out; simp [intOf]; omega
    · obtain rfl : k = ins.length := by omega
      rw [List.take_length] at HO
      have HMr := Lib.hid (HMK.out.below HBW.out (Nat.le_refl _))
      have HKr := Lib.hid (KpM.of_below (B := B) (pm := pm) (bf := bf) HBW.out hB)
      have HAr := Lib.hid (HK.out.row HV.out (fun g hg e => by have := (HV.out.lt g hg).1; have : g = bt := e; omega) : Own wr C (.slice va' ands.length vc) ands)
      clear HU HV HIU HK HO3 HII H64I HLI HT hk eg
      generalize ins.foldl (cpIn J img) (List.replicate nn 0) = t0 at *
      have HOr := Lib.hid HO.out
      clear HO
      generalize wr = w4 at *
      go_wp2
      go_loopw [48] (fun i wr => ∃ k : Nat, k ≤ ands.length ∧ i = .int .i64 k ∧ Own wr bt (.slice (some ⟨bt, 0, none⟩) nn nn) ((ands.take k).foldl (cpAnd kg A (1 + I.length)) (t0, s)).1 ∧ MkE wr B pm I ((ands.take k).foldl (cpAnd kg A (1 + I.length)) (t0, s)).2 vi bf sl ∧ KpM B pm bf w wr ∧ Own wr C (.slice va' ands.length vc) ands) (fun i _ => ands.length - (intOf i).toNat)
      case atStart => exact ⟨0, Nat.zero_le _, rfl, HOr.out, HMr.out, HKr.out, HAr.out⟩
      case round =>
        obtain ⟨k, hk, rfl, ho, hm, hkp, ha⟩ := hrel
        have HOX := Lib.hid ho
        have HMX := Lib.hid hm
        have HKX := Lib.hid hkp
        have HAX := Lib.hid ha
        clear ho hm hkp ha
        by_cases hlt : k < ands.length
        · have hia := HAX.out.ints (by have := HLA.out; omega) H64A.out
          obtain ⟨b, off, rfl, hbl, hc⟩ := hia.cellY hlt
          obtain ⟨n, hn, hn1, hnA⟩ := HIA.out k hlt
          have HST := Lib.hid (fold_succ (cpAnd kg A (1 + I.length)) (t0, s) hlt)
          rw [hn] at hc HST
          obtain ⟨i, hni⟩ : ∃ i, n = kg + i := ⟨n - kg, by omega⟩
          have hnk : (n : Int) - (kg : Int) = (i : Int) := by omega
          have hiA : i < A.length := by omega
          obtain ⟨_, hga, _, r0, r1, r2, _⟩ := HG.out wr HKX.out
          rw [HKG.out] at r2
          obtain ⟨b2, off2, rfl, hb2, hx0, hy0⟩ := hga.at hiA
          obtain ⟨⟨g1, g2⟩, g3, g4⟩ := HPB.out i hiA
          have hco := HCO.out k
          have HCA : Hid (cpAnd kg A (1 + I.length) ((ands.take k).foldl (cpAnd kg A (1 + I.length)) (t0, s)) (n : Int) =
              (((ands.take k).foldl (cpAnd kg A (1 + I.length)) (t0, s)).1.set n (conjA (1 + I.length) ((ands.take k).foldl (cpAnd kg A (1 + I.length)) (t0, s)).2 (movE ((ands.take k).foldl (cpAnd kg A (1 + I.length)) (t0, s)).1 (A.getD i dPr).1) (movE ((ands.take k).foldl (cpAnd kg A (1 + I.length)) (t0, s)).1 (A.getD i dPr).2)).1,
               (conjA (1 + I.length) ((ands.take k).foldl (cpAnd kg A (1 + I.length)) (t0, s)).2 (movE ((ands.take k).foldl (cpAnd kg A (1 + I.length)) (t0, s)).1 (A.getD i dPr).1) (movE ((ands.take k).foldl (cpAnd kg A (1 + I.length)) (t0, s)).1 (A.getD i dPr).2)).2)) := by
            show _ = _
            unfold cpAnd
            rw [show (n : Int).toNat = n from by omega, show n - kg = i from by omega]
          generalize (ands.take k).foldl (cpAnd kg A (1 + I.length)) (t0, s) = st at *
          obtain ⟨tk, sk⟩ := st
          generalize A.getD i dPr = pr at *
          obtain ⟨p1, p2⟩ := pr
          simp only at hco hx0 hy0 g1 g2 g3 g4 HCA HOX HMX
          have hln : tk.length = nn := hco.len
          have HLN := Lib.hid hln
          have HBD := Lib.hid hco.bd
          have e1 := movE_isE (e := p1) hco.ent g1 (by rw [hln]; have := HNN.out; omega)
          have e2 := movE_isE (e := p2) hco.ent g3 (by rw [hln]; have := HNN.out; omega)
          have HE1 := Lib.hid e1
          have HE2 := Lib.hid e2
          have hnn1 : n < nn := by have := HNN.out; omega
          have HG1 : Hid (0 ≤ p1 ∧ p1 / 2 < (nn : Int)) := ⟨g1, by have := HNN.out; omega⟩
          have HG2 : Hid (0 ≤ p2 ∧ p2 / 2 < (nn : Int)) := ⟨g3, by have := HNN.out; omega⟩
          have hi0 : (0 : Int) ≤ (i : Int) := by omega
          have hi1 : (i : Int) < (A.length : Int) := by omega
          have hq0 : (0 : Int) ≤ (n : Int) := by omega
          have hq1 : (n : Int) < (nn : Int) := by omega
          have HKL := Lib.hid hlt
          have hkb : k < 4000000 := by have := HLA.out; omega
          have HNL : Hid (n < tk.length) := by show _ < _; rw [hln]; exact hnn1
          clear hia hn hn1 hnA hni hiA hga g1 g2 g3 g4 hco hln e1 e2 hlt hnn1
          rw [HCA.out] at HST
          clear HCA
          have HSW0 : Hid (B ≤ wr.heap.size) := Nat.le_trans hB HKX.out.below.size
          go_upto_region 12 with fail
          obtain ⟨bx, hbx⟩ : ∃ bx, wr.heap.size = bx := ⟨_, rfl⟩
          have hba := below_alloc1 wr (.cells #[.int .i64 p1, .int .i64 p2] 115)
          have hhx : (wr.alloc (.cells #[.int .i64 p1, .int .i64 p2] 115)).heap[wr.heap.size]? = some (.cells #[.int .i64 p1, .int .i64 p2] 115 (0, 0)) := World.alloc_heap_new _ _
          have HKW0 := Lib.hid (HKX.out.trans (KpM.of_below (B := B) (pm := pm) (bf := bf) hba HSW0.out))
          have HOW0 := Lib.hid (HOX.out.below hba (Nat.le_refl _))
          have HMW0 := Lib.hid (HMX.out.below hba (Nat.le_refl _))
          have HAW0 := Lib.hid (HAX.out.below hba (Nat.le_refl _))
          clear hba HOX HMX HKX HAX hc r0 r1 r2 hx0 hy0 hbl hb2
          rw [hbx] at hhx ⊢
          clear hbx
          generalize wr.alloc (.cells #[.int .i64 p1, .int .i64 p2] 115) = W at *
          have x0 : W.cell? ⟨bx, 0, none⟩ = some (.int .i64 p1) := by simp [World.cell?, hhx]
          have x1 : W.cell? ⟨bx, 1, none⟩ = some (.int .i64 p2) := by simp [World.cell?, hhx]
          have HSD : Hid (KpM B pm bf w W.drew) := ⟨HKW0.out.below.drew, HKW0.out.same⟩
          have HOW : Hid (Own W.drew bt (.slice (some ⟨bt, 0, none⟩) nn nn) tk) := HOW0.out.below ((Below.refl _ W).drew) (Nat.le_refl _)
          have HMW : Hid (MkE W.drew B pm I sk vi bf sl) := HMW0.out.below ((Below.refl _ W).drew) (Nat.le_refl _)
          have HAW : Hid (Own W.drew C (.slice (some ⟨b, off, none⟩) ands.length vc) ands) := HAW0.out.below ((Below.refl _ W).drew) (Nat.le_refl _)
          have HIT := Lib.hid (HOW.out.ints (by rw [HLN.out]; omega) (fun x hx => by have := HBD.out x hx; omega))
          have HM1 := Lib.hid (moved_any p1 _ tk W.drew HIT.out HG1.out.1 (by rw [HLN.out]; exact HG1.out.2) HBD.out (by rw [HLN.out]; omega))
          have HM2 := Lib.hid (moved_any p2 _ tk W.drew HIT.out HG2.out.1 (by rw [HLN.out]; exact HG2.out.2) HBD.out (by rw [HLN.out]; omega))
          have HAND := Lib.hid (and_e HMW.out (Nat.le_trans hB HKW0.out.below.size) HE1.out HE2.out)
          have hnl := HNL.out
          clear hhx
          generalize movE tk p1 = m1v at *
          generalize movE tk p2 = m2v at *
          generalize conjA (1 + I.length) sk m1v m2v = rr at *
          obtain ⟨r1, sr⟩ := rr
          simp only at HST
          unfold AndPost at HAND
          refine wp_region_held_drew (S := fun X : World => KpM B pm bf w X) (by kernel_rfl) HSD.out (fun hSd => ?_)
          refine takeC (i := 0) (v := .slice (some ⟨bt, 0, none⟩) nn nn) (some 59) rfl rfl (by kernel_rfl) (by kernel_rfl) (by kernel_rfl) (fun _ _ _ h => h) (Or.inl ⟨by rfl, ?_⟩) (by assumption) ?_
          · intro wz hSw; go_simp
          try simp only [Act.put, List.setIfInBounds_toArray, List.set_cons_zero, List.set_cons_succ]
          refine takeC (i := 1) (v := .int .i64 (n : Int)) (some 60) rfl rfl (by kernel_rfl) (by kernel_rfl) (by kernel_rfl) (fun _ _ _ h => h) (Or.inl ⟨by rfl, ?_⟩) (by assumption) ?_
          · intro wz hSw; go_simp
          try simp only [Act.put, List.setIfInBounds_toArray, List.set_cons_zero, List.set_cons_succ]
          refine takeC (i := 2) (v := .pointer (some ⟨pm, 0, none⟩)) (some 61) rfl rfl (by kernel_rfl) (by kernel_rfl) (by kernel_rfl) (fun _ _ _ h => h) (Or.inl ⟨by rfl, ?_⟩) (by assumption) ?_
          · intro wz hSw; obtain ⟨_, _, _, _, _, _, t4⟩ := HG.out wz hSw; go_simp
          try simp only [Act.put, List.setIfInBounds_toArray, List.set_cons_zero, List.set_cons_succ]
          refine takeC (i := 3) (v := .pointer (some ⟨bx, 0, none⟩)) (some 62) rfl rfl (by kernel_rfl) (by kernel_rfl) (by kernel_rfl) (fun _ _ _ h => h) (Or.inl ⟨by rfl, ?_⟩) (by assumption) ?_
          · intro wz hSw; go_simp
          try simp only [Act.put, List.setIfInBounds_toArray, List.set_cons_zero, List.set_cons_succ]
          refine takeC (i := 5) (v := .slice (some ⟨bt, 0, none⟩) nn nn) (some 64) rfl rfl (by kernel_rfl) (by kernel_rfl) (by kernel_rfl) (fun _ _ _ h => h) (Or.inl ⟨by rfl, ?_⟩) (by assumption) ?_
          · intro wz hSw; go_simp
          try simp only [Act.put, List.setIfInBounds_toArray, List.set_cons_zero, List.set_cons_succ]
          refine takeC (i := 7) (v := .pointer (some ⟨bx, 1, none⟩)) (some 66) rfl rfl (by kernel_rfl) (by kernel_rfl) (by kernel_rfl) (fun _ _ _ h => h) (Or.inl ⟨by rfl, ?_⟩) (by assumption) ?_
          · intro wz hSw; go_simp
          try simp only [Act.put, List.setIfInBounds_toArray, List.set_cons_zero, List.set_cons_succ]
          refine takeC (i := 9) (v := .slice (some ⟨bt, 0, none⟩) nn nn) (some 68) rfl rfl (by kernel_rfl) (by kernel_rfl) (by kernel_rfl) (fun _ _ _ h => h) (Or.inl ⟨by rfl, ?_⟩) (by assumption) ?_
          · intro wz hSw; go_simp
          try simp only [Act.put, List.setIfInBounds_toArray, List.set_cons_zero, List.set_cons_succ]
          refine wpAnyH_ready (rs := [4, 8]) (by kernel_rfl) (by simp) ?_
          refine AllReadyH.cons rfl (fun K hK => ?_) (AllReadyH.cons rfl (fun K hK => ?_) AllReadyH.nil)
          · skip
            go_simp
            refine hK.out _ _ HSD.out (fun hHn => ?_)
            clear hK K hHn
            try simp only [Act.put, List.setIfInBounds_toArray, List.set_cons_zero, List.set_cons_succ]
            refine wpAnyH_ready (rs := [6, 8]) (by kernel_rfl) (by simp) ?_
            refine AllReadyH.cons rfl (fun K hK => ?_) (AllReadyH.cons rfl (fun K hK => ?_) AllReadyH.nil)
            · skip
              go_simp
              go_wp2_with (go_at_call 152; go_loud (refine HM1.out.mono ?_; rintro e w9 ⟨rfl, rfl⟩))
              refine hK.out _ _ HSD.out (fun hHn => ?_)
              clear hK K hHn
              try simp only [Act.put, List.setIfInBounds_toArray, List.set_cons_zero, List.set_cons_succ]
              refine wpAnyH_ready (rs := [8]) (by kernel_rfl) (by simp) ?_
              refine AllReadyH.cons rfl (fun K hK => ?_) AllReadyH.nil
              go_simp
              refine hK.out _ _ HSD.out (fun hHn => ?_)
              clear hK K hHn
              try simp only [Act.put, List.setIfInBounds_toArray, List.set_cons_zero, List.set_cons_succ]
              refine wpAnyH_ready (rs := [10]) (by kernel_rfl) (by simp) ?_
              refine AllReadyH.cons rfl (fun K hK => ?_) AllReadyH.nil
              go_simp
              go_wp2_with (go_at_call 152; go_loud (refine HM2.out.mono ?_; rintro e w9 ⟨rfl, rfl⟩))
              refine hK.out _ _ HSD.out (fun hHn => ?_)
              clear hK K hHn
              try simp only [Act.put, List.setIfInBounds_toArray, List.set_cons_zero, List.set_cons_succ]
              refine wpAnyH_ready (rs := [11]) (by kernel_rfl) (by simp) ?_
              refine AllReadyH.cons rfl (fun K hK => ?_) AllReadyH.nil
              go_simp
              go_wp2_with (go_at_call 139; go_loud (refine HAND.out.mono ?_; rintro e wb ⟨rfl, hmb, hkb⟩; have HMB := Lib.hid hmb; have HKB := Lib.hid hkb; clear hmb hkb))
              have HKW := Lib.hid (HSD.out.trans HKB.out)
              have HOB := Lib.hid (kpM_own HMW.out HKB.out HOW.out)
              refine hK.out _ _ HKW.out (fun hHn => ?_)
              clear hK K hHn
              try simp only [Act.put, List.setIfInBounds_toArray, List.set_cons_zero, List.set_cons_succ]
              have hSw := HKW.out
              refine takeC (i := 12) (v := .pointer (some ⟨bt, n, none⟩)) (some 71) rfl rfl (by kernel_rfl) (by kernel_rfl) (by kernel_rfl) (fun _ _ _ h => h) (Or.inl ⟨by rfl, ?_⟩) (by assumption) ?_
              · intro wz hSw; go_simp
              try simp only [Act.put, List.setIfInBounds_toArray, List.set_cons_zero, List.set_cons_succ]
              have m0 := HOB.out.cell n hnl
              have m1 := HOB.out.frozen n
              refine wpAnyH_ready (rs := [13]) (by kernel_rfl) (by simp) ?_
              refine AllReadyH.cons rfl (fun K hK => ?_) AllReadyH.nil
              go_simp
              have HKS := Lib.hid (HKW.out.set (n := n) (u := .int .i64 r1) hbt0 (Nat.le_trans hB hbt0))
              have HOS := Lib.hid (HOB.out.store n r1)
              have HMS := Lib.hid (MkE.set HMB.out HVI.out hbt0 HOB.out.isInts n (.int .i64 r1))
              have HAS := Lib.hid ((kpM_own HMW.out HKB.out HAW.out).set_far (n := n) (u := .int .i64 r1) hbtC)
              refine hK.out _ _ HKS.out (fun hHn => ?_)
              clear hK K hHn m0 m1
              try simp only [Act.put, List.setIfInBounds_toArray, List.set_cons_zero, List.set_cons_succ]
              refine wpAnyH_done (by kernel_rfl) ?_ _
              generalize wb.setCell ⟨bt, n, none⟩ (.int .i64 r1) = wy at *
              go_wp2
              go_roundw
              case rel => exact ⟨k + 1, HKL.out, by go_num, by rw [HST.out]; exact HOS.out, by rw [HST.out]; exact HMS.out, HKS.out, HAS.out⟩
              case measure => have := HKL.out; simp [intOf]; omega
            · skip
              go_simp
              refine hK.out _ _ HSD.out (fun hHn => ?_)
              clear hK K hHn
              try simp only [Act.put, List.setIfInBounds_toArray, List.set_cons_zero, List.set_cons_succ]
              refine wpAnyH_ready (rs := [6]) (by kernel_rfl) (by simp) ?_
              refine AllReadyH.cons rfl (fun K hK => ?_) AllReadyH.nil
              go_simp
              go_wp2_with (go_at_call 152; go_loud (refine HM1.out.mono ?_; rintro e w9 ⟨rfl, rfl⟩))
              refine hK.out _ _ HSD.out (fun hHn => ?_)
              clear hK K hHn
              try simp only [Act.put, List.setIfInBounds_toArray, List.set_cons_zero, List.set_cons_succ]
              refine wpAnyH_ready (rs := [10]) (by kernel_rfl) (by simp) ?_
              refine AllReadyH.cons rfl (fun K hK => ?_) AllReadyH.nil
              go_simp
              go_wp2_with (go_at_call 152; go_loud (refine HM2.out.mono ?_; rintro e w9 ⟨rfl, rfl⟩))
              refine hK.out _ _ HSD.out (fun hHn => ?_)
              clear hK K hHn
              try simp only [Act.put, List.setIfInBounds_toArray, List.set_cons_zero, List.set_cons_succ]
              refine wpAnyH_ready (rs := [11]) (by kernel_rfl) (by simp) ?_
              refine AllReadyH.cons rfl (fun K hK => ?_) AllReadyH.nil
              go_simp
              go_wp2_with (go_at_call 139; go_loud (refine HAND.out.mono ?_; rintro e wb ⟨rfl, hmb, hkb⟩; have HMB := Lib.hid hmb; have HKB := Lib.hid hkb; clear hmb hkb))
              have HKW := Lib.hid (HSD.out.trans HKB.out)
              have HOB := Lib.hid (kpM_own HMW.out HKB.out HOW.out)
              refine hK.out _ _ HKW.out (fun hHn => ?_)
              clear hK K hHn
              try simp only [Act.put, List.setIfInBounds_toArray, List.set_cons_zero, List.set_cons_succ]
              have hSw := HKW.out
              refine takeC (i := 12) (v := .pointer (some ⟨bt, n, none⟩)) (some 71) rfl rfl (by kernel_rfl) (by kernel_rfl) (by kernel_rfl) (fun _ _ _ h => h) (Or.inl ⟨by rfl, ?_⟩) (by assumption) ?_
              · intro wz hSw; go_simp
              try simp only [Act.put, List.setIfInBounds_toArray, List.set_cons_zero, List.set_cons_succ]
              have m0 := HOB.out.cell n hnl
              have m1 := HOB.out.frozen n
              refine wpAnyH_ready (rs := [13]) (by kernel_rfl) (by simp) ?_
              refine AllReadyH.cons rfl (fun K hK => ?_) AllReadyH.nil
              go_simp
              have HKS := Lib.hid (HKW.out.set (n := n) (u := .int .i64 r1) hbt0 (Nat.le_trans hB hbt0))
              have HOS := Lib.hid (HOB.out.store n r1)
              have HMS := Lib.hid (MkE.set HMB.out HVI.out hbt0 HOB.out.isInts n (.int .i64 r1))
              have HAS := Lib.hid ((kpM_own HMW.out HKB.out HAW.out).set_far (n := n) (u := .int .i64 r1) hbtC)
              refine hK.out _ _ HKS.out (fun hHn => ?_)
              clear hK K hHn m0 m1
              try simp only [Act.put, List.setIfInBounds_toArray, List.set_cons_zero, List.set_cons_succ]
              refine wpAnyH_done (by kernel_rfl) ?_ _
              generalize wb.setCell ⟨bt, n, none⟩ (.int .i64 r1) = wy at *
              go_wp2
              go_roundw
              case rel => exact ⟨k + 1, HKL.out, by go_num, by rw [HST.out]; exact HOS.out, by rw [HST.out]; exact HMS.out, HKS.out, HAS.out⟩
              case measure => have := HKL.out; simp [intOf]; omega
          · skip
            go_simp
            refine hK.out _ _ HSD.out (fun hHn => ?_)
            clear hK K hHn
            try simp only [Act.put, List.setIfInBounds_toArray, List.set_cons_zero, List.set_cons_succ]
            refine wpAnyH_ready (rs := [4]) (by kernel_rfl) (by simp) ?_
            refine AllReadyH.cons rfl (fun K hK => ?_) AllReadyH.nil
            go_simp
            refine hK.out _ _ HSD.out (fun hHn => ?_)
            clear hK K hHn
            try simp only [Act.put, List.setIfInBounds_toArray, List.set_cons_zero, List.set_cons_succ]
            refine wpAnyH_ready (rs := [6]) (by kernel_rfl) (by simp) ?_
            refine AllReadyH.cons rfl (fun K hK => ?_) AllReadyH.nil
            go_simp
            go_wp2_with (go_at_call 152; go_loud (refine HM1.out.mono ?_; rintro e w9 ⟨rfl, rfl⟩))
            refine hK.out _ _ HSD.out (fun hHn => ?_)
            clear hK K hHn
            try simp only [Act.put, List.setIfInBounds_toArray, List.set_cons_zero, List.set_cons_succ]
            refine wpAnyH_ready (rs := [10]) (by kernel_rfl) (by simp) ?_
            refine AllReadyH.cons rfl (fun K hK => ?_) AllReadyH.nil
            go_simp
            go_wp2_with (go_at_call 152; go_loud (refine HM2.out.mono ?_; rintro e w9 ⟨rfl, rfl⟩))
            refine hK.out _ _ HSD.out (fun hHn => ?_)
            clear hK K hHn
            try simp only [Act.put, List.setIfInBounds_toArray, List.set_cons_zero, List.set_cons_succ]
            refine wpAnyH_ready (rs := [11]) (by kernel_rfl) (by simp) ?_
            refine AllReadyH.cons rfl (fun K hK => ?_) AllReadyH.nil
            go_simp
            go_wp2_with (go_at_call 139; go_loud (refine HAND.out.mono ?_; rintro e wb ⟨rfl, hmb, hkb⟩; have HMB := Lib.hid hmb; have HKB := Lib.hid hkb; clear hmb hkb))
            have HKW := Lib.hid (HSD.out.trans HKB.out)
            have HOB := Lib.hid (kpM_own HMW.out HKB.out HOW.out)
            refine hK.out _ _ HKW.out (fun hHn => ?_)
            clear hK K hHn
            try simp only [Act.put, List.setIfInBounds_toArray, List.set_cons_zero, List.set_cons_succ]
            have hSw := HKW.out
            refine takeC (i := 12) (v := .pointer (some ⟨bt, n, none⟩)) (some 71) rfl rfl (by kernel_rfl) (by kernel_rfl) (by kernel_rfl) (fun _ _ _ h => h) (Or.inl ⟨by rfl, ?_⟩) (by assumption) ?_
            · intro wz hSw; go_simp
            try simp only [Act.put, List.setIfInBounds_toArray, List.set_cons_zero, List.set_cons_succ]
            have m0 := HOB.out.cell n hnl
            have m1 := HOB.out.frozen n
            refine wpAnyH_ready (rs := [13]) (by kernel_rfl) (by simp) ?_
            refine AllReadyH.cons rfl (fun K hK => ?_) AllReadyH.nil
            go_simp
            have HKS := Lib.hid (HKW.out.set (n := n) (u := .int .i64 r1) hbt0 (Nat.le_trans hB hbt0))
            have HOS := Lib.hid (HOB.out.store n r1)
            have HMS := Lib.hid (MkE.set HMB.out HVI.out hbt0 HOB.out.isInts n (.int .i64 r1))
            have HAS := Lib.hid ((kpM_own HMW.out HKB.out HAW.out).set_far (n := n) (u := .int .i64 r1) hbtC)
            refine hK.out _ _ HKS.out (fun hHn => ?_)
            clear hK K hHn m0 m1
            try simp only [Act.put, List.setIfInBounds_toArray, List.set_cons_zero, List.set_cons_succ]
            refine wpAnyH_done (by kernel_rfl) ?_ _
            generalize wb.setCell ⟨bt, n, none⟩ (.int .i64 r1) = wy at *
            go_wp2
            go_roundw
            case rel => exact ⟨k + 1, HKL.out, by go_num, by rw [HST.out]; exact HOS.out, by rw [HST.out]; exact HMS.out, HKS.out, HAS.out⟩
            case measure => have := HKL.out; simp [intOf]; omega
        · obtain rfl : k = ands.length := by omega
          rw [List.take_length] at HOX HMX
          have hco := HCO.out ands.length
          rw [List.take_length] at hco
          clear HCO HPB HIA H64A HLA HAX HOr HMr HKr HAr hk
          generalize ands.foldl (cpAnd kg A (1 + I.length)) (t0, s) = st at *
          obtain ⟨tk, sk⟩ := st
          simp only at hco HOX HMX HEQ
          have HLN := Lib.hid hco.len
          have HBD := Lib.hid hco.bd
          obtain ⟨_, _, hgl, _, _, _, _⟩ := HG.out wr HKX.out
          have hl0 := hgl.len
          have HGL5 := Lib.hid hgl
          clear hco hgl HGL
          generalize wr = w5 at *
          have HIT := Lib.hid (HOX.out.ints (by rw [HLN.out]; omega) (fun x hx => by have := HBD.out x hx; omega))
          go_wp2
          go_loopw [16, 75] (fun v i wr => ∃ k : Nat, k ≤ l.length ∧ i = .int .i64 k ∧ Own wr w5.heap.size v ((l.take k).map (movE tk)) ∧ Below w5.heap.size w5 wr) (fun _ i _ => l.length - (intOf i).toNat)
          case atStart => exact ⟨0, Nat.zero_le _, rfl, Own.nil _ _, Below.refl _ _⟩
          case round =>
            obtain ⟨k, hk, rfl, ho, hb⟩ := hrel
            have HO := Lib.hid ho
            have HB := Lib.hid hb
            clear ho hb
            by_cases hlt : k < l.length
            · obtain ⟨b, off, rfl, hbl, hc0⟩ := HGL5.out.cellY hlt
              have hc := (HB.out.cell (p := ⟨b, off + k, none⟩) hbl).trans hc0
              have hey := HLE.out _ (ints_getD_mem hlt)
              have HT2 : Hid ((l.take (k + 1)).map (movE tk) = (l.take k).map (movE tk) ++ [movE tk (l.getD k 0)]) := by show _ = _; rw [ints_take_succ hlt, List.map_append]; rfl
              have HKL := Lib.hid hlt
              have hkb : k < 17592186044416 := by omega
              have hlen : ((l.take k).map (movE tk)).length < 17592186044416 := by rw [List.length_map, List.length_take]; omega
              have HLEN := Lib.hid hlen
              have HMV := Lib.hid (moved_any (l.getD k 0) _ tk wr (HIT.out.below HB.out (Nat.le_refl _)) hey.1 (by rw [HLN.out]; exact hey.2) HBD.out (by rw [HLN.out]; omega))
              clear hc0 hey hlt hlen
              generalize l.getD k 0 = y at *
              generalize movE tk y = z at *
              generalize (l.take k).map (movE tk) = acc at *
              go_wp2_with (first
                | (at_builtin; refine wpList_app1A rfl _ _ rfl w5.heap.size _ _ z wr.heap.size rfl rfl (HO.out.alloc _) (cell_fresh rfl) HLEN.out (by simp; have := HB.out.size; omega) ?_; intro u' w' ho' hg' _; have HO' := Lib.hid ho'; have HG' := Lib.hid hg'; clear ho' hg')
                | (go_at_call 152; refine HMV.out.mono ?_; rintro e w9 ⟨rfl, rfl⟩))
              go_roundw
              case rel => exact ⟨k + 1, HKL.out, by go_num, by rw [HT2.out]; exact HO'.out, (HB.out.alloc HB.out.size _).grown HG'.out (by have := HB.out.size; simp; omega) (fun j e => (HO.out.lt j e).1)⟩
              case measure => have := HKL.out; simp [intOf]; omega
            · obtain rfl : k = l.length := by omega
              rw [List.take_length] at HO
              go_wp2
              go_ret
              exact ⟨_, rfl, by rw [HEQ.out]; exact HO.out.mono HKX.out.below.size, by rw [HEQ.out]; exact HMX.out.below HB.out (Nat.le_refl _), HKX.out.trans (KpM.of_below (B := B) (pm := pm) (bf := bf) HB.out (Nat.le_trans hB HKX.out.below.size))⟩
end Go.Proofs.YtppglbffmgnooaaGreat
