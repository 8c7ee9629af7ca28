/- aig.gatesOf and its literal. Written by gen-comp.py out of gates.src. -/
import Derived.Test.YtppglbffmgnooaaGreatA15
import Derived.Test.YtppglbffmgnooaaGreatCxRowG
namespace Go.Proofs.YtppglbffmgnooaaGreat
open Go.RowKit Go.Maps
set_option linter.unusedVariables false
set_option linter.unusedSimpArgs false

theorem gatesOf1_enters (args : Array Value) (w : World) : (callFunc 174 args).run Tryz.prog w = .ok (.enter 174 args) w := enters_of Tryz.func174 (by kernel_rfl) rfl args w
set_option maxRecDepth 100000 in
theorem litE_any (b : Nat) (vn : Value) (nm : List Int) (e : Int) (w : World) (c0 : w.cell? ⟨b, 0, none⟩ = some vn) (H : IsInts w vn nm) (h0 : 0 ≤ e) (h1 : e / 2 < nm.length) (he : e ≤ 8000000) (hb : ∀ x ∈ nm, 0 ≤ x ∧ x ≤ 65536) :
    Calls Tryz.prog 174 #[.int .i64 e, .pointer (some ⟨b, 0, none⟩)] w fun r w' => r = .returned (.int .i64 (litE nm e)) ∧ w = w' := by
  obtain ⟨q, hq⟩ : ∃ q : Nat, e / 2 = (q : Int) := ⟨(e / 2).toNat, by omega⟩
  have hql : q < nm.length := by omega
  obtain ⟨a, cap, rfl⟩ := H.shape
  obtain ⟨g, off, rfl, hbl, hc⟩ := H.cellY hql
  have hxb := hb _ (getD_mem hql)
  have HL : Hid (litE nm e = if e % 2 = 1 then -(nm.getD q 0) else nm.getD q 0) := by show _ = _; unfold litE; rw [hq]; rfl
  obtain ⟨x0, x1⟩ := hxb
  have hq0 : (0 : Int) ≤ (q : Int) := by omega
  have hq1 : (q : Int) < (nm.length : Int) := by omega
  clear H hb h1
  generalize nm.getD q 0 = x at *
  by_cases hp : e % 2 = 1
  · have HL2 : Hid (litE nm e = -x) := by show _ = _; rw [HL.out, if_pos hp]
    have hwx : wrap64 (-x) = -x := by unfold wrap64; omega
    clear HL
    go_enter Tryz.func174, Tryz.ntmps174
    go_wp2
    go_ret
    exact ⟨ret_int HL2.out.symm, rfl⟩
  · have HL2 : Hid (litE nm e = x) := by show _ = _; rw [HL.out, if_neg hp]
    have hp0 : e % 2 = 0 := by omega
    clear HL hp
    go_enter Tryz.func174, Tryz.ntmps174
    go_wp2
    go_ret
    exact ⟨ret_int HL2.out.symm, rfl⟩
theorem step_appGateT {ops : Array Oper} {o : Oper} {a : Act} {w : World} {K : Act → World → Prop} {Q : Exit → Act → World → Prop} {E : Prop} (hgd : o.guard = none) (s x : Operand)
    (ho : o.op = .call { callee := .builtin .append, args := #[s, x], argTypes := #[96, 96] }) (B : Nat) (v : Value) (t : List Tg) (y : Tg) (g : Nat)
    (hs : a.eval s = v) (hx : a.eval x = .slice (some ⟨g, 0, none⟩) 1 1) (hrow : w.ownsRow B 101 3 v t.length (cellsG t)) (h0 : w.cell? ⟨g, 0, none⟩ = some (.int .i64 y.1)) (h1 : w.cell? ⟨g, 1, none⟩ = some (.int .u8 y.2.1)) (h2 : w.cell? ⟨g, 2, none⟩ = some y.2.2.1) (hu1 : y.2.2.1.oneCell' = true) (hlen : t.length < 1000000) (hB : B ≤ w.heap.size)
    (h : ∀ v' w', w'.ownsRow B 101 3 v' (t ++ [y]).length (cellsG (t ++ [y])) → w.grownBy w' v.ownBlock → K (a.put o.dst v') w') : if Region.wanted o (yielded ops a.tmps) = true then Oper.wp Tryz.prog o a w K Q else E := by
  have hw' : Region.wanted o (yielded ops a.tmps) = true := by simp [Region.wanted, hgd]
  rw [if_pos hw']
  obtain ⟨i0, hi, hz0, hz1, hz2⟩ := info_parts info_gate
  refine wp_append_own w s x 96 ho B 101 i0 (.agg #[.int .i64 0, .int .u8 0, .slice none 0 0]) 3 40 Tryz.underlying96 hi hz0 hz1 hz2 rfl (by decide) v t.length _ hs hrow ⟨g, 0, none⟩ 1 1 [.int .i64 y.1, .int .u8 y.2.1, y.2.2.1] hx (by simp) (fun j z hj => by
    match j, hj with
    | 0, hj => simp at hj; subst hj; simpa [Addr.add] using h0
    | 1, hj => simp at hj; subst hj; simpa [Addr.add] using h1
    | 2, hj => simp at hj; subst hj; simpa [Addr.add] using h2) (fun z hz => by
    rcases List.mem_cons.1 hz with hz | hz
    · rw [hz]; rfl
    · rcases List.mem_cons.1 hz with hz | hz
      · rw [hz]; rfl
      · rw [List.mem_singleton] at hz
        rw [hz]; exact hu1) (by unfold maxLen; omega) (by omega) hB fun v' w' h2 h3 _ => h v' w' ?_ h3
  rw [List.length_append, cellsG_app]
  exact h2
theorem gate_boxT {w0 : World} {x kd : Int} {u : Value} : (w0.alloc (.cells #[.int .i64 x, .int .u8 kd, u] 101)).heap[w0.heap.size]? = some (.cells #[.int .i64 x, .int .u8 kd, u] 101 (0, 0)) := World.alloc_heap_new _ _
theorem row3_shapeT {w : World} {B n : Nat} {e : TypeId} {v : Value} {xs : List Value} (h : w.ownsRow B e 3 v n xs) : ∃ a c, v = .slice a n c := by
  rcases h.2 with ⟨rfl, h2⟩ | ⟨g, cap, cur, rfl, _⟩
  · exact ⟨none, 0, by rw [h2]⟩
  · exact ⟨_, _, rfl⟩
/-- Three slices in a new block. -/
theorem three_rows (w : World) (a b c : Value) : let W := w.alloc (.cells #[a, b, c] 22)
    (∀ j, j < 3 → W.cell? ⟨w.heap.size, j, none⟩ = some ([a, b, c].getD j (.slice none 0 0))) := by
  intro W j hj
  have hh : W.heap[w.heap.size]? = some (.cells #[a, b, c] 22 (0, 0)) := World.alloc_heap_new _ _
  match j, hj with
  | 0, _ => simp [World.cell?, hh]
  | 1, _ => simp [World.cell?, hh]
  | 2, _ => simp [World.cell?, hh]
/-- What gatesOf answers: gates of the call's own, and a literal. -/
def GatesPost (w : World) (gs : List Gt) (o : Int) (e : Ending) (w' : World) : Prop :=
  ∃ v t, e = .returned (.tuple #[v, .int .i64 o]) ∧ RowG w w' w.heap.size v t ∧ (∀ x ∈ t, Own w' w.heap.size x.2.2.1 x.2.2.2) ∧ shapeG t = gs ∧ Below w.heap.size w w'
set_option maxRecDepth 100000 in
set_option maxHeartbeats 6400000 in
theorem gatesOf_any (vi va vv : Value) (I : List Int) (A : List Pr) (vs : List Int) (e : Int) (w : World) (HI : IsInts w vi I) (HA : IsPairs w va A) (HV : IsInts w vv vs) (hl : vs.length = A.length) (hsz : 1 + I.length + A.length ≤ 200000) (hA : okUpto (1 + I.length) A A.length = true) (he : isE e (1 + I.length + A.length) = true)
    (hIb : ∀ x ∈ I, 0 ≤ x ∧ x ≤ 65536) (hVb : ∀ x ∈ vs, 0 ≤ x ∧ x ≤ 65536) :
    Calls Tryz.prog 134 #[.agg #[vi, va], vv, .int .i64 e] w (GatesPost w (gatesA ([0] ++ I ++ vs) vs A A.length) (litE ([0] ++ I ++ vs) e)) := by
  have hb1 := below_alloc1 w (.cells #[vi, va] 25)
  have HI1 := Lib.hid (HI.below hb1 (Nat.le_refl _))
  have HA1 := Lib.hid (HA.below hb1 (Nat.le_refl _))
  have HV1 := Lib.hid (HV.below hb1 (Nat.le_refl _))
  obtain ⟨c0, c1⟩ := boxA_new w vi va
  have hgx : (w.alloc (.cells #[vi, va] 25)).heap[w.heap.size]? = some (.cells #[vi, va] 25 (0, 0)) := World.alloc_heap_new _ _
  have hszw : (w.alloc (.cells #[vi, va] 25)).heap.size = w.heap.size + 1 := by simp
  obtain ⟨ia, ic, rfl⟩ := HI.shape
  obtain ⟨aa, ac, rfl, _⟩ := HA.shape
  obtain ⟨xa, xc, rfl⟩ := HV.shape
  have HNB : Hid (∀ x ∈ [0] ++ I ++ vs, 0 ≤ x ∧ x ≤ 65536) := fun x hx => by
    simp only [List.mem_append, List.mem_singleton] at hx
    rcases hx with (rfl | hx) | hx
    · omega
    · exact hIb x hx
    · exact hVb x hx
  have HNL : Hid (([0] ++ I ++ vs).length = 1 + I.length + A.length) := by show _ = _; simp; omega
  have HEE := Lib.hid (isE_true.1 he)
  have HAO := Lib.hid hA
  have HVB := Lib.hid hVb
  obtain ⟨nm, hnm⟩ : ∃ nm, [0] ++ I ++ vs = nm := ⟨_, rfl⟩
  rw [hnm] at HNB HNL ⊢
  have HNM := Lib.hid hnm
  have HLV := Lib.hid hl
  clear HI HA HV hIb hVb hA he c0 c1 hnm
  clear hl
  go_enter Tryz.func134, Tryz.ntmps134
  go_upto_region 1 with fail
  generalize World.alloc w _ = W at *
  have HB0 := Lib.hid hb1
  have HGX := Lib.hid hgx
  have HSW := Lib.hid hszw
  obtain ⟨c0, c1, _, _⟩ := box2_cells hgx
  have hba := below_alloc1 W (.cells #[.int .i64 0] 3)
  have hI2 := HI1.out.below hba (Nat.le_refl _)
  have hV2 := HV1.out.below hba (Nat.le_refl _)
  have hZ2 := (own1_new W 0).ints (by simp) (fun x hx => by rw [List.mem_singleton] at hx; omega)
  have d0 : (W.alloc (.cells #[.int .i64 0] 3)).cell? ⟨w.heap.size, 0, none⟩ = some (.slice ia I.length ic) := cell_old c0
  have HBA := Lib.hid hba
  have HI2 := Lib.hid hI2
  have HV2 := Lib.hid hV2
  have HZ2 := Lib.hid hZ2
  clear hgx hszw hb1 hba hI2 hV2 hZ2
  obtain ⟨W1, hW1⟩ : ∃ W1, W.alloc (.cells #[.int .i64 0] 3) = W1 := ⟨_, rfl⟩
  rw [hW1] at HBA HI2 HV2 HZ2
  have hbb := below_alloc1 W1 (.cells #[.slice (some ⟨W.heap.size, 0, none⟩) 1 1, .slice ia I.length ic, .slice xa vs.length xc] 22)
  have HCT : Hid (Calls Tryz.prog 101 #[.slice (some ⟨W1.heap.size, 0, none⟩) 3 3] (W1.alloc (.cells #[.slice (some ⟨W.heap.size, 0, none⟩) 1 1, .slice ia I.length ic, .slice xa vs.length xc] 22)) fun e w' => ∃ v, e = .returned v ∧ Own w' (W1.alloc (.cells #[.slice (some ⟨W.heap.size, 0, none⟩) 1 1, .slice ia I.length ic, .slice xa vs.length xc] 22)).heap.size v nm ∧ Below (W1.alloc (.cells #[.slice (some ⟨W.heap.size, 0, none⟩) 1 1, .slice ia I.length ic, .slice xa vs.length xc] 22)).heap.size (W1.alloc (.cells #[.slice (some ⟨W.heap.size, 0, none⟩) 1 1, .slice ia I.length ic, .slice xa vs.length xc] 22)) w') := by
    have h := concI_any W1.heap.size 3 [.slice (some ⟨W.heap.size, 0, none⟩) 1 1, .slice ia I.length ic, .slice xa vs.length xc] [[0], I, vs] (W1.alloc (.cells #[.slice (some ⟨W.heap.size, 0, none⟩) 1 1, .slice ia I.length ic, .slice xa vs.length xc] 22)) (by simp) (fun j hj => three_rows W1 _ _ _ j hj) (fun j hj => by
      match j, hj with
      | 0, _ => exact HZ2.out.below hbb (Nat.le_refl _)
      | 1, _ => exact HI2.out.below hbb (Nat.le_refl _)
      | 2, _ => exact HV2.out.below hbb (Nat.le_refl _)) (by have := HLV.out; simp [totI]; omega) (by simp)
    have hf : ([[0], I, vs] : List (List Int)).flatten = nm := by rw [← HNM.out]; simp
    rw [hf] at h
    exact h
  have HBB := Lib.hid (HBA.out.trans (hbb.mono HBA.out.size))
  have HW1 := Lib.hid hW1
  rw [← hW1] at HCT HBB
  rw [show (W.alloc (.cells #[.int .i64 0] 3)).heap.size = W.heap.size + 1 from by simp] at HCT
  clear hbb hW1
  go_upto_region 2 with (go_at_call 101; go_loud (refine HCT.out.mono ?_; rintro er w3 ⟨v3, rfl, ho, hb⟩; have HO3 := Lib.hid ho; have HB3 := Lib.hid hb; obtain ⟨na, nc, rfl⟩ := own_shC ho; clear ho hb))
  have hby := below_alloc1 w3 (.cells #[.slice na nm.length nc] 22)
  have HB3W := Lib.hid (HBB.out.trans (HB3.out.mono HBB.out.size))
  have HBY := Lib.hid (HB3W.out.trans (hby.mono HB3W.out.size))
  have HNY := Lib.hid (HO3.out.below hby (Nat.le_refl _))
  have hnb : (w3.alloc (.cells #[.slice na nm.length nc] 22)).heap[w3.heap.size]? = some (.cells #[.slice na nm.length nc] 22 (0, 0)) := World.alloc_heap_new _ _
  have HNBX := Lib.hid hnb
  have HYZ : Hid (w3.heap.size < (w3.alloc (.cells #[.slice na nm.length nc] 22)).heap.size) := by show _ < _; simp
  have HGXY := Lib.hid ((HBY.out.block _ (by have := HSW.out; omega)).trans HGX.out)
  obtain ⟨_, c1, _, _⟩ := box2_cells HGXY.out
  clear hby hnb d0 HO3 HB3 HCT HBB HZ2 HV2 HI2 HBA HW1
  generalize w3.alloc (.cells #[.slice na nm.length nc] 22) = Y at *
  generalize w3.heap.size = nb at *
  clear c0
  have HNI := Lib.hid (HNY.out.ints (by have := HNL.out; omega) (fun x hx => by have := HNB.out x hx; omega))
  have HLC : Hid (∀ Z, Below Y.heap.size Y Z → ∀ q : Int, (0 ≤ q ∧ q / 2 < ((1 + I.length + A.length : Nat) : Int)) → Calls Tryz.prog 174 #[.int .i64 q, .pointer (some ⟨nb, 0, none⟩)] Z fun r w' => r = .returned (.int .i64 (litE nm q)) ∧ Z = w') := fun Z hZ q hq =>
    litE_any nb _ nm q Z ((hZ.cell (p := ⟨nb, 0, none⟩) HYZ.out).trans (by simp [World.cell?, HNBX.out])) (HNI.out.below hZ (Nat.le_refl _)) hq.1 (by rw [HNL.out]; exact hq.2) (by omega) HNB.out
  go_wp2
  go_loopw [10, 23] (fun s10 s23 wr => ∃ (k : Nat) (t : List Tg), k ≤ A.length ∧ s23 = .int .i64 k ∧ RowG Y wr Y.heap.size s10 t ∧ shapeG t = gatesA nm vs A k ∧ t.length = k ∧ ∀ x ∈ t, Own wr Y.heap.size x.2.2.1 x.2.2.2) (fun _ s23 _ => A.length - (intOf s23).toNat)
  case atStart => exact ⟨0, [], Nat.zero_le _, rfl, RowG.nil (Below.refl _ _) (Nat.le_refl _), rfl, rfl, fun x hx => by cases hx⟩
  case round =>
    obtain ⟨k, t, hk, rfl, hrow, hsh, htl, hot⟩ := hrel
    have HOT := Lib.hid hot
    have HRW := Lib.hid hrow
    have HSH := Lib.hid hsh
    have HTL := Lib.hid htl
    have HBR := Lib.hid hrow.below
    obtain ⟨ga, gc, rfl⟩ := hrow.shape
    clear hrow hsh htl hot
    by_cases hlt : k < A.length
    · obtain ⟨ab, aoff, rfl, habl, hx0, hy0⟩ := HA1.out.at hlt
      have hYl : Below W.heap.size W wr := HBY.out.trans (HBR.out.mono HBY.out.size)
      have hx := (hYl.cell (p := ⟨ab, aoff + k * 2, none⟩) habl).trans hx0
      have hy := (hYl.cell (p := ⟨ab, aoff + k * 2 + 1, none⟩) habl).trans hy0
      have hkv : k < vs.length := by rw [HLV.out]; exact hlt
      obtain ⟨vb, voff, rfl, hvl, hv0⟩ := HV1.out.cellY hkv
      have hvY := (HBY.out.cell (p := ⟨vb, voff + k, none⟩) hvl).trans hv0
      have HVY := Lib.hid hvY
      have HVLY : Hid (vb < Y.heap.size) := Nat.lt_of_lt_of_le hvl HBY.out.size
      have hpb := okPair_bd HAO.out hlt
      have HL1 := Lib.hid (fun Z hZ => HLC.out Z hZ (A.getD k dPr).1 ⟨hpb.1.1, by have := hpb.1.2; omega⟩)
      have HL2 := Lib.hid (fun Z hZ => HLC.out Z hZ (A.getD k dPr).2 ⟨hpb.2.1, by have := hpb.2.2; omega⟩)
      have hvb := HVB.out _ (ints_getD_mem hkv)
      have HGS : Hid (gatesA nm vs A (k + 1) = gatesA nm vs A k ++ [(vs.getD k 0, 1, [litE nm (A.getD k dPr).1, litE nm (A.getD k dPr).2])]) := gatesA_succ nm vs A k
      have hl64 : ∀ q : Int, -65536 ≤ litE nm q ∧ litE nm q ≤ 65536 := fun q => by
        have h0 : 0 ≤ nm.getD (q / 2).toNat 0 ∧ nm.getD (q / 2).toNat 0 ≤ 65536 := by
          by_cases h : (q / 2).toNat < nm.length
          · exact HNB.out _ (getD_mem h)
          · simp [List.getD, List.getElem?_eq_none (Nat.le_of_not_lt h)]
        unfold litE
        split <;> omega
      have HD1 := Lib.hid (hl64 (A.getD k dPr).1)
      have HD2 := Lib.hid (hl64 (A.getD k dPr).2)
      have hkb : k < 200000 := by omega
      have HKL := Lib.hid hlt
      have hk0 : (0 : Int) ≤ (k : Int) := by omega
      have hk1 : (k : Int) < (vs.length : Int) := by omega
      clear hx0 hy0 hYl hpb hvY hl64 hkv
      generalize litE nm (A.getD k dPr).1 = l1 at *
      generalize litE nm (A.getD k dPr).2 = l2 at *
      generalize vs.getD k 0 = v at *
      generalize A.getD k dPr = o at *
      obtain ⟨p1, p2⟩ := o
      simp only at hx hy HL1 HL2
      go_upto_region 7 with fail
      clear hlt
      have hba := below_alloc1 wr (.cells #[.int .i64 p1, .int .i64 p2] 115)
      have hbx : (wr.alloc (.cells #[.int .i64 p1, .int .i64 p2] 115)).heap[wr.heap.size]? = some (.cells #[.int .i64 p1, .int .i64 p2] 115 (0, 0)) := World.alloc_heap_new _ _
      have HBA := Lib.hid hba
      have hBX : Below Y.heap.size Y (wr.alloc (.cells #[.int .i64 p1, .int .i64 p2] 115)).drew := (HBR.out.trans (hba.mono HBR.out.size)).drew
      have hBW : Below wr.heap.size wr (wr.alloc (.cells #[.int .i64 p1, .int .i64 p2] 115)).drew := hba.drew
      have HBX := Lib.hid hBX
      have HBW := Lib.hid hBW
      have hbd : (wr.alloc (.cells #[.int .i64 p1, .int .i64 p2] 115)).drew.heap[wr.heap.size]? = some (.cells #[.int .i64 p1, .int .i64 p2] 115 (0, 0)) := hbx
      have HBD := Lib.hid hbd
      have HPB : Hid (wr.heap.size = wr.heap.size) := rfl
      refine wp_region_held_drew (S := fun Z : World => Z.heap[wr.heap.size]? = some (.cells #[.int .i64 p1, .int .i64 p2] 115 (0, 0)) ∧ Below Y.heap.size Y Z) (by kernel_rfl) ⟨hbd, hBX⟩ (fun hSd => ?_)
      clear hba hbx hBX hBW hbd hx hy
      generalize (wr.alloc (.cells #[.int .i64 p1, .int .i64 p2] 115)).drew = X at *
      refine takeC (i := 0) (v := .slice ga t.length gc) (some 28) rfl rfl (by kernel_rfl) (by kernel_rfl) (by kernel_rfl) (fun _ _ _ h => h) (Or.inl ⟨by rfl, ?_⟩) (by assumption) ?_
      · intro wz hSw; go_simp
      try simp only [Act.put, List.setIfInBounds_toArray, List.set_cons_zero, List.set_cons_succ]
      refine takeC (i := 1) (v := .slice (some ⟨vb, voff, none⟩) vs.length xc) (some 29) rfl rfl (by kernel_rfl) (by kernel_rfl) (by kernel_rfl) (fun _ _ _ h => h) (Or.inl ⟨by rfl, ?_⟩) (by assumption) ?_
      · intro wz hSw; go_simp
      try simp only [Act.put, List.setIfInBounds_toArray, List.set_cons_zero, List.set_cons_succ]
      refine takeC (i := 2) (v := .int .i64 k) (some 30) rfl rfl (by kernel_rfl) (by kernel_rfl) (by kernel_rfl) (fun _ _ _ h => h) (Or.inl ⟨by rfl, ?_⟩) (by assumption) ?_
      · intro wz hSw; go_simp
      try simp only [Act.put, List.setIfInBounds_toArray, List.set_cons_zero, List.set_cons_succ]
      refine takeC (i := 3) (v := .pointer (some ⟨vb, voff + k, none⟩)) (some 31) rfl rfl (by kernel_rfl) (by kernel_rfl) (by kernel_rfl) (fun _ _ _ h => h) (Or.inl ⟨by rfl, ?_⟩) (by assumption) ?_
      · intro wz hSw; go_simp
      try simp only [Act.put, List.setIfInBounds_toArray, List.set_cons_zero, List.set_cons_succ]
      refine takeC (i := 4) (v := .int .i64 v) (some 32) rfl rfl (by kernel_rfl) (by kernel_rfl) (by kernel_rfl) (fun _ _ _ h => h) (Or.inl ⟨by rfl, ?_⟩) (by assumption) ?_
      · intro wz hSw; have t0 := (hSw.2.cell (p := ⟨vb, voff + k, none⟩) HVLY.out).trans HVY.out; go_simp
      try simp only [Act.put, List.setIfInBounds_toArray, List.set_cons_zero, List.set_cons_succ]
      refine takeC (i := 5) (v := .func (.func 174) #[] #[.pointer (some ⟨nb, 0, none⟩)]) (some 33) rfl rfl (by kernel_rfl) (by kernel_rfl) (by kernel_rfl) (fun _ _ _ h => h) (Or.inl ⟨by rfl, ?_⟩) (by assumption) ?_
      · intro wz hSw; go_simp
      try simp only [Act.put, List.setIfInBounds_toArray, List.set_cons_zero, List.set_cons_succ]
      refine takeC (i := 6) (v := .pointer (some ⟨wr.heap.size, 0, none⟩)) (some 34) rfl rfl (by kernel_rfl) (by kernel_rfl) (by kernel_rfl) (fun _ _ _ h => h) (Or.inl ⟨by rfl, ?_⟩) (by assumption) ?_
      · intro wz hSw; go_simp
      try simp only [Act.put, List.setIfInBounds_toArray, List.set_cons_zero, List.set_cons_succ]
      refine takeC (i := 7) (v := .int .i64 p1) (some 35) rfl rfl (by kernel_rfl) (by kernel_rfl) (by kernel_rfl) (fun _ _ _ h => h) (Or.inl ⟨by rfl, ?_⟩) (by assumption) ?_
      · intro wz hSw; obtain ⟨t0, t1, _, _⟩ := box2_cells hSw.1; go_simp
      try simp only [Act.put, List.setIfInBounds_toArray, List.set_cons_zero, List.set_cons_succ]
      refine takeC (i := 9) (v := .func (.func 174) #[] #[.pointer (some ⟨nb, 0, none⟩)]) (some 37) rfl rfl (by kernel_rfl) (by kernel_rfl) (by kernel_rfl) (fun _ _ _ h => h) (Or.inl ⟨by rfl, ?_⟩) (by assumption) ?_
      · intro wz hSw; go_simp
      try simp only [Act.put, List.setIfInBounds_toArray, List.set_cons_zero, List.set_cons_succ]
      refine takeC (i := 10) (v := .pointer (some ⟨wr.heap.size, 1, none⟩)) (some 38) rfl rfl (by kernel_rfl) (by kernel_rfl) (by kernel_rfl) (fun _ _ _ h => h) (Or.inl ⟨by rfl, ?_⟩) (by assumption) ?_
      · intro wz hSw; go_simp
      try simp only [Act.put, List.setIfInBounds_toArray, List.set_cons_zero, List.set_cons_succ]
      refine takeC (i := 11) (v := .int .i64 p2) (some 39) rfl rfl (by kernel_rfl) (by kernel_rfl) (by kernel_rfl) (fun _ _ _ h => h) (Or.inl ⟨by rfl, ?_⟩) (by assumption) ?_
      · intro wz hSw; obtain ⟨t0, t1, _, _⟩ := box2_cells hSw.1; go_simp
      try simp only [Act.put, List.setIfInBounds_toArray, List.set_cons_zero, List.set_cons_succ]
      refine wpAnyH_ready (rs := [8]) (by kernel_rfl) (by simp) ?_
      refine AllReadyH.cons rfl (fun K hK => ?_) AllReadyH.nil
      go_simp
      refine (HL1.out _ HBX.out).mono ?_
      rintro er w9 ⟨rfl, rfl⟩
      refine hK.out _ _ ⟨HBD.out, HBX.out⟩ (fun hHn => ?_)
      clear hK K hHn
      try simp only [Act.put, List.setIfInBounds_toArray, List.set_cons_zero, List.set_cons_succ]
      refine wpAnyH_ready (rs := [12]) (by kernel_rfl) (by simp) ?_
      refine AllReadyH.cons rfl (fun K hK => ?_) AllReadyH.nil
      go_simp
      refine (HL2.out _ HBX.out).mono ?_
      rintro er w9 ⟨rfl, rfl⟩
      refine hK.out _ _ ⟨HBD.out, HBX.out⟩ (fun hHn => ?_)
      clear hK K hHn
      try simp only [Act.put, List.setIfInBounds_toArray, List.set_cons_zero, List.set_cons_succ]
      refine wpAnyH_ready (rs := [13]) (by kernel_rfl) (by simp) ?_
      refine AllReadyH.cons rfl (fun K hK => ?_) AllReadyH.nil
      go_simp
      have hbn := below_alloc1 X (.cells #[.int .i64 l1, .int .i64 l2] 3)
      have HON := Lib.hid (own_new2 X l1 l2)
      have HBX2 := Lib.hid (HBX.out.trans (hbn.mono HBX.out.size))
      have HBW2 := Lib.hid (HBW.out.trans (hbn.mono HBW.out.size))
      have HPX : Hid (wr.heap.size < X.heap.size) := (Array.getElem?_eq_some_iff.1 HBD.out).1
      have HBD2 := Lib.hid ((hbn.block _ HPX.out).trans HBD.out)
      have HXS : Hid (Y.heap.size ≤ X.heap.size) := HBX.out.size
      have HIBW : Hid (wr.heap.size ≤ X.heap.size) := HBW.out.size
      refine hK.out _ _ ⟨HBD2.out, HBX2.out⟩ (fun hHn => ?_)
      clear hK K hHn hbn
      try simp only [Act.put, List.setIfInBounds_toArray, List.set_cons_zero, List.set_cons_succ]
      generalize X.alloc (.cells #[.int .i64 l1, .int .i64 l2] 3) = X2 at *
      generalize X.heap.size = ib at *
      have hSw : X2.heap[wr.heap.size]? = some (.cells #[.int .i64 p1, .int .i64 p2] 115 (0, 0)) ∧ Below Y.heap.size Y X2 := ⟨HBD2.out, HBX2.out⟩
      refine takeC (i := 14) (v := .agg #[.int .i64 v, .int .u8 1, .slice (some ⟨ib, 0, none⟩) 2 2]) (some 42) rfl rfl (by kernel_rfl) (by kernel_rfl) (by kernel_rfl) (fun _ _ _ h => h) (Or.inl ⟨by rfl, ?_⟩) (by assumption) ?_
      · intro wz hSw; go_simp
      try simp only [Act.put, List.setIfInBounds_toArray, List.set_cons_zero, List.set_cons_succ]
      clear hSw
      refine wpAnyH_ready (rs := [15]) (by kernel_rfl) (by simp) ?_
      refine AllReadyH.cons rfl (fun K hK => ?_) AllReadyH.nil
      go_simp
      have hbn := below_alloc1 X2 (.cells #[.int .i64 v, .int .u8 1, .slice (some ⟨ib, 0, none⟩) 2 2] 101)
      have HON2 := Lib.hid (HON.out.below hbn (Nat.le_refl _))
      have HBX3 := Lib.hid (HBX2.out.trans (hbn.mono HBX2.out.size))
      have HBW3 := Lib.hid (HBW2.out.trans (hbn.mono HBW2.out.size))
      have HPX2 : Hid (wr.heap.size < X2.heap.size) := (Array.getElem?_eq_some_iff.1 HBD2.out).1
      have HBD3 := Lib.hid ((hbn.block _ HPX2.out).trans HBD2.out)
      have hgb := gate_boxT (w0 := X2) (x := v) (kd := 1) (u := .slice (some ⟨ib, 0, none⟩) 2 2)
      have HGB := Lib.hid hgb
      refine hK.out _ _ ⟨HBD3.out, HBX3.out⟩ (fun hHn => ?_)
      clear hK K hHn hbn hgb
      try simp only [Act.put, List.setIfInBounds_toArray, List.set_cons_zero, List.set_cons_succ]
      generalize X2.alloc (.cells #[.int .i64 v, .int .u8 1, .slice (some ⟨ib, 0, none⟩) 2 2] 101) = X3 at *
      generalize X2.heap.size = gb at *
      refine wpAnyH_ready (rs := [16]) (by kernel_rfl) (by simp) ?_
      refine AllReadyH.cons rfl (fun K hK => ?_) AllReadyH.nil
      obtain ⟨g0, g1, g2⟩ := box3_cells HGB.out
      refine step_appGateT rfl (.tmp 28) (.tmp 43) rfl Y.heap.size (.slice ga t.length gc) t (v, 1, .slice (some ⟨ib, 0, none⟩) 2 2, [l1, l2]) gb rfl rfl (row3_below HRW.out.row HBW3.out (Nat.le_refl _)) g0 g1 g2 rfl (by have := HTL.out; omega) HBX3.out.size ?_
      intro v9 w9 hrow9 hg9
      obtain ⟨a9, c9, rfl⟩ := row3_shapeT hrow9
      have HRN := Lib.hid (RowG.more HRW.out HBR.out.size HBW3.out (s := [(v, 1, .slice (some ⟨ib, 0, none⟩) 2 2, [l1, l2])]) (fun x hx => by rw [List.mem_singleton] at hx; subst hx; exact .inl (HON2.out.mono HXS.out)) (fun g hg => by
        simp only [shapeG, List.map_cons, List.map_nil, List.mem_singleton] at hg
        subst hg
        have h1 := HD1.out
        have h2 := HD2.out
        refine ⟨⟨by show _ ≤ v; omega, by show v ≤ _; omega⟩, ⟨by show (0 : Int) ≤ 1; omega, by show (1 : Int) ≤ 255; omega⟩, by simp, fun x hx => ?_⟩
        simp only [List.mem_cons, List.not_mem_nil, or_false] at hx
        rcases hx with rfl | rfl <;> omega) hrow9 hg9)
      have HOT9 : Hid (∀ x ∈ t ++ [(v, 1, Value.slice (some ⟨ib, 0, none⟩) 2 2, [l1, l2])], Own w9 Y.heap.size x.2.2.1 x.2.2.2) := fun x hx => by
        have key : Own X3 Y.heap.size x.2.2.1 x.2.2.2 := by
          rcases List.mem_append.1 hx with hx | hx
          · exact (HOT.out x hx).below HBW3.out (Nat.le_refl _)
          · rw [List.mem_singleton] at hx; subst hx; exact HON2.out.mono HXS.out
        refine key.kept hg9 ?_
        cases hk : x.2.2.1.ownBlock with
        | none => exact .inl rfl
        | some g => exact .inr (fun e => rowG_ne HRW.out.row (B' := 0) (u := x.2.2.1) (l := x.2.2.2) (by
            rcases List.mem_append.1 hx with hx | hx
            · exact (HOT.out x hx).mono (Nat.zero_le _)
            · exfalso
              rw [List.mem_singleton] at hx; subst hx
              have h1 := (rowG_lt HRW.out.row _ e.symm).2
              have h2 : g = ib := by simpa [Value.ownBlock] using hk.symm
              have h3 := HIBW.out
              omega) g hk e.symm)
      have hS9 : w9.heap[wr.heap.size]? = some (.cells #[.int .i64 p1, .int .i64 p2] 115 (0, 0)) ∧ Below Y.heap.size Y w9 := by
        refine ⟨(hg9.block _ (Array.getElem?_eq_some_iff.1 HBD3.out).1 (fun e => ?_)).trans HBD3.out, HRN.out.below⟩
        have := (rowG_lt HRW.out.row _ e.symm).2
        omega
      have HTL2 : Hid ((t ++ [(v, 1, Value.slice (some ⟨ib, 0, none⟩) 2 2, [l1, l2])]).length = k + 1) := by show _ = _; rw [List.length_append, HTL.out]; rfl
      have HSH2 : Hid (shapeG (t ++ [(v, 1, Value.slice (some ⟨ib, 0, none⟩) 2 2, [l1, l2])]) = gatesA nm vs A (k + 1)) := by show _ = _; rw [shapeG_app, HSH.out, HGS.out]; rfl
      clear hrow9 hg9 g0 g1 g2
      generalize t ++ [(v, 1, Value.slice (some ⟨ib, 0, none⟩) 2 2, [l1, l2])] = t2 at *
      refine hK.out _ _ hS9 (fun hHn => ?_)
      clear hK K hHn
      try simp only [Act.put, List.setIfInBounds_toArray, List.set_cons_zero, List.set_cons_succ]
      have hSw := hS9
      refine takeC (i := 17) (v := .slice a9 t2.length c9) (some 10) rfl rfl (by kernel_rfl) (by kernel_rfl) (by kernel_rfl) (fun _ _ _ h => h) (Or.inl ⟨by rfl, ?_⟩) (by assumption) ?_
      · intro wz hSw; go_simp
      try simp only [Act.put, List.setIfInBounds_toArray, List.set_cons_zero, List.set_cons_succ]
      clear hSw hS9
      refine wpAnyH_done (by kernel_rfl) ?_ _
      go_wp2
      go_roundw
      case rel => exact ⟨k + 1, t2, HKL.out, by go_num, HRN.out, HSH2.out, HTL2.out, HOT9.out⟩
      case measure => have := HKL.out; simp [intOf]; omega
    · obtain rfl : k = A.length := by omega
      have HLE := Lib.hid (HLC.out wr HBR.out e HEE.out)
      have HFIN : Hid (GatesPost w (gatesA nm vs A A.length) (litE nm e) (.returned (.tuple #[.slice ga t.length gc, .int .i64 (litE nm e)])) wr) := by
        have hbw : Below w.heap.size w wr := (HB0.out.trans (HBY.out.mono HB0.out.size)).trans (HBR.out.mono (Nat.le_trans HB0.out.size HBY.out.size))
        have hle : w.heap.size ≤ Y.heap.size := Nat.le_trans HB0.out.size HBY.out.size
        exact ⟨_, t, rfl, ⟨hbw, Nat.le_refl _, row3_mono HRW.out.row hle, fun x hx => .inl ((HOT.out x hx).mono hle), HRW.out.bd⟩, fun x hx => (HOT.out x hx).mono hle, HSH.out, hbw⟩
      have ecop := gatesOf1_enters
      clear c1 hk hlt
      go_wp2_with (go_at_call 174; go_loud (refine HLE.out.mono ?_; rintro er w9 ⟨rfl, rfl⟩))
      go_ret2
      exact HFIN.out
end Go.Proofs.YtppglbffmgnooaaGreat
