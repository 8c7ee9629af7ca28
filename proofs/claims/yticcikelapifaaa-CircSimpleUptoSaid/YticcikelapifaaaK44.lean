/- Joined texts: CxRSimp. -/
import Derived.Test.YticcikelapifaaaK41
import Derived.Test.YticcikelapifaaaK40
import Derived.Test.YticcikelapifaaaK39
import Derived.Test.YticcikelapifaaaK20
import Derived.Test.YticcikelapifaaaK14
import Derived.StillTailTactics
/- The reference's simple (layer 5). -/
namespace Go.Proofs.Yticcikelapifaaa
open Go.RowKit Go.Maps Go.Shelf
set_option linter.unusedVariables false
set_option linter.unusedSimpArgs false

theorem wpList_mkInts2 {w : World} {ops : Array Oper} {rest : List Oper} {o : Oper} {a : Act} {Q : Exit → Act → World → Prop} (hgd : o.guard = none) (l c : Operand)
    (hop : o.op = Op.makeSlice 28 l c) (n : Nat) (L C : Int) (hl : a.eval l = .int .i64 L) (hc : a.eval c = .int .i64 C) (hL : L = n) (hC : C = n) (hn : n ≤ 17592186044416)
    (h : ∀ w', Own w' w.heap.size (.slice (some ⟨w.heap.size, 0, none⟩) n n) (List.replicate n 0) → w.grownBy w' none → wpList Try.prog ops Q rest (a.put o.dst (.slice (some ⟨w.heap.size, 0, none⟩) n n)) w') : wpList Try.prog ops Q (o :: rest) a w :=
  wpList_mkInts hgd l c hop n (by rw [hl, hL]) (by rw [hc, hC]) hn h
theorem MkI.set_other {w : World} {B b c i : Nat} {f : Int → Int} {v : Value} (h : MkI w B b f) (hc : b ≠ c) : MkI (w.setCell ⟨c, i, none⟩ v) B b f := h.kept (Kept.setCell w ⟨c, i, none⟩ v) hc
theorem Own.set_other {w : World} {B c i : Nat} {u v : Value} {xs : List Int} (h : Own w B u xs) (hc : c < B) : Own (w.setCell ⟨c, i, none⟩ v) B u xs :=
  (Kept.setCell w ⟨c, i, none⟩ v).row h (fun g hg => by have := (h.lt g hg).1; show ¬ g = c; omega)
theorem fixR_snoc (S a : List Int) (x : Int) : fixR S (a ++ [x]) = updI (fixR S a) (varC x) (if 0 < x then 1000000 else -1000000) := by unfold fixR; rw [List.foldl_append]; rfl
/-- What stands where simple's net is made: its prefix and its literal, in a new block. -/
def CutN (wq wx : World) (s : Value) (p : List Blk) (z : Int) : Prop :=
  ∃ (bo : Nat) (a : Option Addr) (n c : Nat) (t : List Trp), s = .pointer (some ⟨bo, 0, none⟩) ∧ wq.heap.size ≤ bo ∧ wx.heap[bo]? = some (.cells #[.slice a n c, .slice none 0 0, .int .i64 z] 25 (0, 0)) ∧ shapeT t = p ∧ (∀ Y, Kept (fun i => i = bo) wx Y → JoinSt Y wq.heap.size (.slice a n c) t) ∧ Below wq.heap.size wq wx
theorem set_mid5 {w : World} {b : Nat} {T : TypeId} {x y z v : Value} (h : w.heap[b]? = some (.cells #[x, y, z] T (0, 0))) : (w.setCell ⟨b, 1, none⟩ v).heap[b]? = some (.cells #[x, v, z] T (0, 0)) := by
  simp [World.setCell, Array.getElem?_modify, h]
theorem set_last5 {w : World} {b : Nat} {T : TypeId} {x y z v : Value} (h : w.heap[b]? = some (.cells #[x, y, z] T (0, 0))) : (w.setCell ⟨b, 2, none⟩ v).heap[b]? = some (.cells #[x, y, v] T (0, 0)) := by
  simp [World.setCell, Array.getElem?_modify, h]
/-- 'append(out, Gate{..})' in a region that draws its order. -/
theorem step_appGateH {ops : Array Oper} {o : Oper} {a : Act} {w : World} {K : Act → World → Prop} {Q : Exit → Act → World → Prop} {E : Prop} (hgd : o.guard = none) (s x : Operand)
    (ho : o.op = .call { callee := .builtin .append, args := #[s, x], argTypes := #[23, 23] }) (B : Nat) (v : Value) (t : List Tg) (y : Tg) (g : Nat)
    (hs : a.eval s = v) (hx : a.eval x = .slice (some ⟨g, 0, none⟩) 1 1) (hrow : w.ownsRow B 71 3 v t.length (cellsG t)) (h0 : w.cell? ⟨g, 0, none⟩ = some (.int .i64 y.1)) (h1 : w.cell? ⟨g, 1, none⟩ = some (.int .u8 y.2.1)) (h2 : w.cell? ⟨g, 2, none⟩ = some y.2.2.1) (hu1 : y.2.2.1.oneCell' = true) (hlen : t.length < 1000000) (hB : B ≤ w.heap.size)
    (h : ∀ v' w', w'.ownsRow B 71 3 v' (t ++ [y]).length (cellsG (t ++ [y])) → w.grownBy w' v.ownBlock → K (a.put o.dst v') w') : if Region.wanted o (yielded ops a.tmps) = true then Oper.wp Try.prog o a w K Q else E := by
  have hw' : Region.wanted o (yielded ops a.tmps) = true := by simp [Region.wanted, hgd]
  rw [if_pos hw']
  obtain ⟨i0, hi, hz0, hz1, hz2⟩ := info_parts info_gate
  refine wp_append_own w s x 23 ho B 71 i0 (.agg #[.int .i64 0, .int .u8 0, .slice none 0 0]) 3 40 Try.underlying23 hi hz0 hz1 hz2 rfl (by decide) v t.length _ hs hrow ⟨g, 0, none⟩ 1 1 [.int .i64 y.1, .int .u8 y.2.1, y.2.2.1] hx (by simp) (fun j z hj => by
    match j, hj with
    | 0, hj => simp at hj; subst hj; simpa [Addr.add] using h0
    | 1, hj => simp at hj; subst hj; simpa [Addr.add] using h1
    | 2, hj => simp at hj; subst hj; simpa [Addr.add] using h2) (fun z hz => by
    rcases List.mem_cons.1 hz with hz | hz
    · rw [hz]; rfl
    · rcases List.mem_cons.1 hz with hz | hz
      · rw [hz]; rfl
      · rw [List.mem_singleton] at hz
        rw [hz]; exact hu1) (by unfold maxLen; omega) (by omega) hB fun v' w' h2 h3 _ => h v' w' ?_ h3
  rw [List.length_append, cellsG_app]
  exact h2
theorem row3_shape {w : World} {B n : Nat} {e : TypeId} {v : Value} {xs : List Value} (h : w.ownsRow B e 3 v n xs) : ∃ a c, v = .slice a n c := by
  rcases h.2 with ⟨rfl, h2⟩ | ⟨g, cap, cur, rfl, _⟩
  · exact ⟨none, 0, by rw [h2]⟩
  · exact ⟨_, _, rfl⟩
set_option maxHeartbeats 12800000 in
set_option maxRecDepth 100000 in
theorem rsimp5_any (w00 : World) (vp vg va : Value) (o : Int) (P : List Blk) (gs : List Gt) (a : List Int) (w : World) (HP : IsBlocks w vp P) (HG : IsGates w vg gs) (HA : IsInts w va a) (hm : mayN P gs o = true) (hfa : ascV a) (ha : ∀ x ∈ a, varC x ∈ flatB P) (hg : gs.length < 1000000) (h00 : Below w00.heap.size w00 w) :
    Calls Try.prog 68 #[.agg #[vp, vg, .int .i64 o], va] w (NetPostO w00 w (simpN P gs o a)) := by
  have HW00 := Lib.hid h00
  have h00s : w00.heap.size ≤ w.heap.size := h00.size
  clear h00
  obtain ⟨R, hmp, _, hnl, _, hP⟩ := mayN_named hm
  have HEND := Lib.hid (ref_end hm hfa ha)
  have HGD := Lib.hid (fun k => ref_bd hm ha HG.bd k)
  have HAT := Lib.hid (fun (k : Nat) (hk : k < gs.length) => ref_at hP ha hnl hk)
  have HAR : Hid (∀ x ∈ a, (-65536 ≤ x ∧ x ≤ 65536) ∧ varC x = (if x < 0 then -x else x) ∧ 1 ≤ varC x ∧ varC x ≤ 65536) := fun x hx => by
    have h1 := hP _ (ha x hx)
    exact ⟨(varC_in h1).1, (varC_in h1).2, h1⟩
  have HOF : Hid (withoutP P (fun v => if decide (v ∈ a.map abs5) = true then some 0 else none) = withoutP P (fixM a)) := out_fixed (fun x hx => by have := hP _ (ha x hx); omega)
  have hnm := nM_eq
  have HNM := Lib.hid hnm
  have HFB := Lib.hid hP
  have HMP := Lib.hid hmp
  have hfl := (mayP_short hmp).1
  have HGB := Lib.hid HG.bd
  have hal := HA.len
  obtain ⟨pa, pc, rfl, _⟩ := HP.shape
  obtain ⟨ga, gc, rfl, _⟩ := HG.shape
  obtain ⟨aa, ac, rfl⟩ := HA.shape
  obtain ⟨W0, hW0, hb0, hz0, hn0, hr0⟩ := net_boxes w (.slice pa P.length pc) (.slice ga gs.length gc) o
  have HXC : Hid (∀ X, Below W0.heap.size W0 X → BoxN X w.heap.size (.slice pa P.length pc) (.slice ga gs.length gc) o) := fun X hX => by
    have h := (hX.block w.heap.size (by omega)).trans hn0
    exact ⟨block_cell h rfl, block_cell h rfl, block_cell h rfl⟩
  have HRC0 : Hid (∀ X, Below W0.heap.size W0 X → X.heap[w.heap.size + 1]? = some (.cells #[.slice none 0 0, .slice none 0 0, .int .i64 0] 25 (0, 0))) := fun X hX => (hX.block (w.heap.size + 1) (by omega)).trans hr0
  have HZ0 := Lib.hid hz0
  have HW0 := Lib.hid hW0
  have HB0 := Lib.hid hb0
  have HPW := Lib.hid (HP.below hb0 (Nat.le_refl _))
  have HGW := Lib.hid (HG.below hb0 (Nat.le_refl _))
  have HAW := Lib.hid (HA.below hb0 (Nat.le_refl _))
  obtain ⟨S, hS⟩ : ∃ S, flatB P = S := ⟨_, rfl⟩
  have HVA : Hid (∀ X, Below W0.heap.size W0 X → Calls Try.prog 33 #[.slice pa P.length pc] X fun e w' => ∃ u, e = .returned u ∧ Own w' X.heap.size u S ∧ Below X.heap.size X w') := fun X hX => by
    have h := vars5_any _ P X (HPW.out.below hX (Nat.le_refl _)) (by omega)
    rw [hS] at h
    exact h
  have HFL : Hid ((flatB P).length ≤ 1024) := hfl
  have HFP : Hid (∀ v ∈ flatB P, 0 ≤ v ∧ v ≤ 65536) := fun v hv => by have := HFB.out v hv; omega
  rw [hS] at HFB hfl HEND HAT HGD
  have HS := Lib.hid hS
  clear HP HG HA hm hfa ha hmp hnl hP hnm hW0 hb0 hz0 hn0 hr0 hS
  go_enter Try.func68, Try.ntmps68
  go_upto_region 1 with fail
  rw [HW0.out]
  go_wp2_with (first
    | (refine wpList_mkInts2 rfl _ _ rfl nM 65537 65537 rfl rfl (by rw [HNM.out]; rfl) (by rw [HNM.out]; rfl) (by rw [HNM.out]; decide) ?_; intro w1 hown1 hgw1; have HO1 := Lib.hid hown1; have HB1 := Lib.hid ((Below.refl W0.heap.size W0).grown hgw1 (Nat.le_refl _) (fun k hk => by cases hk)); clear hown1 hgw1)
    | (refine wpList_mkBools2 rfl _ _ rfl nM 65537 65537 rfl rfl (by rw [HNM.out]; rfl) (by rw [HNM.out]; rfl) (by rw [HNM.out]; decide) ?_; intro w2 hown2 hgw2; have HO2 := Lib.hid hown2; have HB12 := Lib.hid ((Below.refl w1.heap.size w1).grown hgw2 (Nat.le_refl _) (fun k hk => by cases hk)); have HB2 := Lib.hid (HB1.out.trans (HB12.out.mono HB1.out.size)); clear hown2 hgw2; obtain ⟨p0, p1, p2⟩ := HXC.out w2 HB2.out)
    | (go_at_call 33; refine (HVA.out w2 HB2.out).mono ?_; rintro e w3 ⟨u, rfl, ho3, hb3⟩; have HO3 := Lib.hid ho3; have HB23 := Lib.hid hb3; have HB3 := Lib.hid (HB2.out.trans (hb3.mono HB2.out.size)); clear ho3 hb3))
  have HMI : Hid (MkI w3 W0.heap.size W0.heap.size (fun _ => 0)) := by
    have h1 : MkI w1 W0.heap.size W0.heap.size (fun _ => 0) := ⟨_, HO1.out, by rw [List.length_replicate], fun i hi => by simp [List.getD, List.getElem?_replicate, hi]⟩
    exact h1.below (HB12.out.trans (HB23.out.mono HB12.out.size)) (Nat.le_refl _)
  have HMF : Hid (Mk w3 w1.heap.size w1.heap.size (fun _ => false)) := by
    have h1 : Mk w2 w1.heap.size w1.heap.size (fun _ => false) := ⟨_, HO2.out, by rw [List.length_replicate], fun i hi => by simp [List.getD, List.getElem?_replicate, hi]⟩
    exact h1.below HB23.out (Nat.le_refl _)
  have HL1 : Hid (W0.heap.size < w1.heap.size) := (World.ownsRow.lt HO1.out _ rfl).2
  have HL2 : Hid (w1.heap.size < w2.heap.size) := (World.ownsRow.lt HO2.out _ rfl).2
  have hl1 := HL1.out
  have hl2 := HL2.out
  obtain ⟨bm, hbm⟩ : ∃ bm, W0.heap.size = bm := ⟨_, rfl⟩
  obtain ⟨bf, hbf⟩ : ∃ bf, w1.heap.size = bf := ⟨_, rfl⟩
  obtain ⟨B2, hB2⟩ : ∃ B2, bf + 1 = B2 := ⟨_, rfl⟩
  have HMI0 : Hid (MkI w3 bm bm (fun _ => 0)) := by rw [← hbm]; exact HMI.out
  have HMF0 : Hid (Mk w3 bf bf (fun _ => false)) := by rw [← hbf]; exact HMF.out
  have HO30 : Hid (Own w3 B2 u S) := HO3.out.mono (by omega)
  have HBS : Hid (W0.heap.size = bm ∧ bm < bf ∧ bf + 1 = B2) := ⟨hbm, by omega, hB2⟩
  rw [hbm, hbf]
  clear HMI HMF HO1 HO2 HO3 HL1 HL2 hl1 hl2 p0 p1 p2 hbm hbf hB2
  obtain ⟨ua, uc, rfl⟩ := own_shC HO30.out
  go_loopw [8] (fun i wr => ∃ k : Nat, k ≤ S.length ∧ i = .int .i64 k ∧ Below W0.heap.size W0 wr ∧ MkI wr bm bm (fun v => if v ∈ S.take k then v else 0) ∧ Mk wr bf bf (fun _ => false) ∧ Own wr B2 (.slice ua S.length uc) S) (fun i _ => S.length - (intOf i).toNat)
  case atStart => exact ⟨0, Nat.zero_le _, rfl, HB3.out, HMI0.out.congr (fun i _ _ => by simp), HMF0.out, HO30.out⟩
  case round =>
    obtain ⟨k, hk, rfl, hbel, hmi, hmf, how⟩ := hrel
    have HB := Lib.hid hbel
    have HM := Lib.hid hmi
    have HF := Lib.hid hmf
    have HO := Lib.hid how
    clear hbel hmi hmf how
    by_cases hlt : k < S.length
    · obtain ⟨gu, cu, e⟩ := HO.out.sh (by intro e; rw [e] at hlt; simp at hlt)
      injection e with e1 e2 e3
      subst e1; subst e3
      have hxm : S.getD k 0 ∈ S := by simp [List.getD, hlt]
      have hxr := HFB.out _ hxm
      have HTK : Hid (S.take (k + 1) = S.take k ++ [S.getD k 0]) := by show _ = _; rw [List.take_succ_eq_append_getElem hlt]; simp [List.getD, hlt]
      have HXV : Hid (∀ X, (Below W0.heap.size W0 X ∧ Own X B2 (.slice (some ⟨gu, 0, none⟩) S.length uc) S) → X.cell? ⟨gu, k, none⟩ = some (.int .i64 (S.getD k 0))) := fun X hX => hX.2.cell k hlt
      have HKL := Lib.hid hlt
      have hk0 : (0 : Int) ≤ (k : Int) := by omega
      have hk1 : (k : Int) < (S.length : Int) := by omega
      clear hxm hlt hk
      generalize S.getD k 0 = x at *
      obtain ⟨n, rfl⟩ := Int.eq_ofNat_of_zero_le (show 0 ≤ x by omega)
      have hn : n < nM := by rw [nM_eq]; omega
      have hn0 : (0 : Int) ≤ (n : Int) := by omega
      have hn1 : (n : Int) < (nM : Int) := by omega
      clear hxr
      go_upto_region 7 with fail
      have hWd : Below wr.heap.size wr wr.drew := (Below.refl _ _).drew
      have HBD := Lib.hid (HB.out.trans (hWd.mono HB.out.size))
      have HMD := Lib.hid (HM.out.below hWd (Nat.le_refl _))
      have HFD := Lib.hid (HF.out.below hWd (Nat.le_refl _))
      have HSD : Hid (Below W0.heap.size W0 wr.drew ∧ Own wr.drew B2 (.slice (some ⟨gu, 0, none⟩) S.length uc) S) := ⟨HBD.out, HO.out.below hWd (Nat.le_refl _)⟩
      clear hWd
      go_wp2_with fail
      refine wp_region_held_drew (S := fun X => Below W0.heap.size W0 X ∧ Own X B2 (.slice (some ⟨gu, 0, none⟩) S.length uc) S) (by kernel_rfl) HSD.out (fun hSd => ?_)
      generalize wr.drew = wd at *
      have m0 := HMD.out.cell hn
      have m1 := HMD.out.frozen n
      refine takeC (i := 0) (v := .slice (some ⟨bm, 0, none⟩) nM nM) (some 33) rfl rfl (by kernel_rfl) (by kernel_rfl) (by kernel_rfl) (fun _ _ _ h => h) (Or.inl ⟨by rfl, ?_⟩) (by assumption) ?_
      · intro wz hSw; go_simp
      try simp only [Act.put, List.setIfInBounds_toArray, List.set_cons_zero, List.set_cons_succ]
      refine takeC (i := 1) (v := .slice (some ⟨gu, 0, none⟩) S.length uc) (some 34) rfl rfl (by kernel_rfl) (by kernel_rfl) (by kernel_rfl) (fun _ _ _ h => h) (Or.inl ⟨by rfl, ?_⟩) (by assumption) ?_
      · intro wz hSw; go_simp
      try simp only [Act.put, List.setIfInBounds_toArray, List.set_cons_zero, List.set_cons_succ]
      refine takeC (i := 2) (v := .int .i64 (k : Int)) (some 35) rfl rfl (by kernel_rfl) (by kernel_rfl) (by kernel_rfl) (fun _ _ _ h => h) (Or.inl ⟨by rfl, ?_⟩) (by assumption) ?_
      · intro wz hSw; go_simp
      try simp only [Act.put, List.setIfInBounds_toArray, List.set_cons_zero, List.set_cons_succ]
      refine takeC (i := 3) (v := .pointer (some ⟨gu, k, none⟩)) (some 36) rfl rfl (by kernel_rfl) (by kernel_rfl) (by kernel_rfl) (fun _ _ _ h => h) (Or.inl ⟨by rfl, ?_⟩) (by assumption) ?_
      · intro wz hSw; go_simp
      try simp only [Act.put, List.setIfInBounds_toArray, List.set_cons_zero, List.set_cons_succ]
      refine takeC (i := 4) (v := .int .i64 (n : Int)) (some 37) rfl rfl (by kernel_rfl) (by kernel_rfl) (by kernel_rfl) (fun _ _ _ h => h) (Or.inl ⟨by rfl, ?_⟩) (by assumption) ?_
      · intro wz hSw; have t0z := HXV.out wz hSw; go_simp
      try simp only [Act.put, List.setIfInBounds_toArray, List.set_cons_zero, List.set_cons_succ]
      refine takeC (i := 5) (v := .slice (some ⟨gu, 0, none⟩) S.length uc) (some 38) rfl rfl (by kernel_rfl) (by kernel_rfl) (by kernel_rfl) (fun _ _ _ h => h) (Or.inl ⟨by rfl, ?_⟩) (by assumption) ?_
      · intro wz hSw; go_simp
      try simp only [Act.put, List.setIfInBounds_toArray, List.set_cons_zero, List.set_cons_succ]
      refine takeC (i := 6) (v := .int .i64 (k : Int)) (some 39) rfl rfl (by kernel_rfl) (by kernel_rfl) (by kernel_rfl) (fun _ _ _ h => h) (Or.inl ⟨by rfl, ?_⟩) (by assumption) ?_
      · intro wz hSw; go_simp
      try simp only [Act.put, List.setIfInBounds_toArray, List.set_cons_zero, List.set_cons_succ]
      refine takeC (i := 7) (v := .pointer (some ⟨gu, k, none⟩)) (some 40) rfl rfl (by kernel_rfl) (by kernel_rfl) (by kernel_rfl) (fun _ _ _ h => h) (Or.inl ⟨by rfl, ?_⟩) (by assumption) ?_
      · intro wz hSw; go_simp
      try simp only [Act.put, List.setIfInBounds_toArray, List.set_cons_zero, List.set_cons_succ]
      refine takeC (i := 8) (v := .int .i64 (n : Int)) (some 41) rfl rfl (by kernel_rfl) (by kernel_rfl) (by kernel_rfl) (fun _ _ _ h => h) (Or.inl ⟨by rfl, ?_⟩) (by assumption) ?_
      · intro wz hSw; have t0z := HXV.out wz hSw; go_simp
      try simp only [Act.put, List.setIfInBounds_toArray, List.set_cons_zero, List.set_cons_succ]
      refine takeC (i := 9) (v := .pointer (some ⟨bm, n, none⟩)) (some 42) rfl rfl (by kernel_rfl) (by kernel_rfl) (by kernel_rfl) (fun _ _ _ h => h) (Or.inl ⟨by rfl, ?_⟩) (by assumption) ?_
      · intro wz hSw; go_simp
      try simp only [Act.put, List.setIfInBounds_toArray, List.set_cons_zero, List.set_cons_succ]
      have HM9 := Lib.hid (HMD.out.set n hn (n : Int))
      have HF9 := Lib.hid (HFD.out.set_other (c := bm) (i := n) (v := .int .i64 (n : Int)) (by have := HBS.out; omega))
      have HS9 : Hid (Below W0.heap.size W0 (wd.setCell ⟨bm, n, none⟩ (.int .i64 (n : Int))) ∧ Own (wd.setCell ⟨bm, n, none⟩ (.int .i64 (n : Int))) B2 (.slice (some ⟨gu, 0, none⟩) S.length uc) S) :=
        ⟨HSD.out.1.setCell (p := ⟨bm, n, none⟩) (u := .int .i64 (n : Int)) (by have := HBS.out; show _ ≤ bm; omega), HSD.out.2.set_other (by have := HBS.out; omega)⟩
      refine wpAnyH_ready (rs := [10]) (by kernel_rfl) (by simp) ?_
      refine AllReadyH.cons rfl (fun K hK => ?_) AllReadyH.nil
      go_simp
      refine hK.out _ _ HS9.out (fun hH9 => ?_)
      clear hK K
      try simp only [Act.put, List.setIfInBounds_toArray, List.set_cons_zero, List.set_cons_succ]
      refine wpAnyH_done (by kernel_rfl) ?_ _
      go_wp2
      go_roundw
      case rel => exact ⟨k + 1, HKL.out, by go_num, HS9.out.1, HM9.out.congr (fun i _ _ => by
        rw [HTK.out]
        by_cases e : i = (n : Int)
        · subst e; simp
        · rw [if_neg e]; simp [e]), HF9.out, HS9.out.2⟩
      case measure => have := HKL.out; simp [intOf]; omega
    · have HMS : Hid (MkI wr bm bm (fixR S (a.take 0))) := HM.out.congr (fun i _ _ => by rw [List.take_of_length_le (by omega), List.take_zero]; rfl)
      have HFS : Hid (Mk wr bf bf (fun v => decide (v ∈ (a.take 0).map abs5))) := HF.out.congr (fun i _ _ => by simp)
      clear HM HF HO HMI0 HMF0 HO30 HFB hfl
      go_wp2
      go_loopw [9] (fun i wr => ∃ k : Nat, k ≤ a.length ∧ i = .int .i64 k ∧ Below W0.heap.size W0 wr ∧ MkI wr bm bm (fixR S (a.take k)) ∧ Mk wr bf bf (fun v => decide (v ∈ (a.take k).map abs5))) (fun i _ => a.length - (intOf i).toNat)
      case atStart => exact ⟨0, Nat.zero_le _, rfl, HB.out, HMS.out, HFS.out⟩
      case round =>
        clear HMS HFS HB
        obtain ⟨k2, hk2, rfl, hbel, hmi, hmf⟩ := hrel
        have HB := Lib.hid hbel
        have HM := Lib.hid hmi
        have HF := Lib.hid hmf
        clear hbel hmi hmf
        by_cases hlt2 : k2 < a.length
        · obtain ⟨b2, off2, rfl, hb2, hc0⟩ := HAW.out.cellY hlt2
          have hc := (HB.out.cell (p := ⟨b2, off2 + k2, none⟩) hb2).trans hc0
          have hxm : a.getD k2 0 ∈ a := by simp [List.getD, hlt2]
          have HTK : Hid (a.take (k2 + 1) = a.take k2 ++ [a.getD k2 0]) := by show _ = _; rw [List.take_succ_eq_append_getElem hlt2]; simp [List.getD, hlt2]
          have hxr := HAR.out _ hxm
          have HAX := Lib.hid (fun X => abs5_any (a.getD k2 0) X (by omega) (by omega))
          have HAE : Hid (abs5 (a.getD k2 0) = varC (a.getD k2 0)) := abs5_var (by omega)
          rw [HAE.out] at HAX
          have HKL := Lib.hid hlt2
          have hne : ¬ a = [] := by intro e; rw [e] at hlt2; simp at hlt2
          have hk0 : (0 : Int) ≤ (k2 : Int) := by omega
          have hk1 : (k2 : Int) < (a.length : Int) := by omega
          have HC0 := Lib.hid hc0
          have HB2L := Lib.hid hb2
          clear hc0 hxm hlt2 hk2
          generalize a.getD k2 0 = x at *
          obtain ⟨hx1, hx2, hx3⟩ := hxr
          obtain ⟨n, hvn⟩ := Int.eq_ofNat_of_zero_le (show 0 ≤ varC x by omega)
          rw [hvn] at HAX hx2
          have hn : n < nM := by rw [nM_eq]; omega
          have hn0 : (0 : Int) ≤ (n : Int) := by omega
          have hn1 : (n : Int) < (nM : Int) := by omega
          have f0 := HF.out.cell hn
          have f1 := HF.out.frozen n
          have HF2 := Lib.hid (HF.out.set n hn true)
          have HM2 := Lib.hid (HM.out.set_other (c := bf) (i := n) (v := .bool true) (by have := HBS.out; omega))
          have HBX := Lib.hid (HB.out.setCell (p := ⟨bf, n, none⟩) (u := .bool true) (by have := HBS.out; show _ ≤ bf; omega))
          have HFF : Hid (∀ i, updB (fun v => decide (v ∈ (a.take k2).map abs5)) (n : Int) true i = decide (i ∈ (a.take (k2 + 1)).map abs5)) := fun i => by
            rw [HTK.out, List.map_append, List.map_cons, HAE.out, hvn]
            unfold updB
            by_cases e : i = (n : Int)
            · rw [if_pos e]; simp [e]
            · rw [if_neg e]; simp [e]
          have HVN := Lib.hid hvn
          have HX3 := Lib.hid hx3
          have HX2 := Lib.hid hx2
          clear hvn hx3 hx2
          go_upto_region 12 with (go_at_call 38; refine (HAX.out _).mono ?_; rintro e w7 ⟨rfl, rfl⟩)
          clear hc f0 f1
          generalize wr.setCell ⟨bf, n, none⟩ (.bool true) = wq at *
          have hc := (HBX.out.cell (p := ⟨b2, off2 + k2, none⟩) HB2L.out).trans HC0.out
          have m0 := HM2.out.cell hn
          have m1 := HM2.out.frozen n
          by_cases hpos : 0 < x
          · obtain rfl : x = (n : Int) := by have hx2 := HX2.out; rw [if_neg (by omega)] at hx2; omega
            have HM3 := Lib.hid (HM2.out.set n hn 1000000)
            have HF3 := Lib.hid (HF2.out.set_other (c := bm) (i := n) (v := .int .i64 1000000) (by have := HBS.out; omega))
            have HB3' := Lib.hid (HBX.out.setCell (p := ⟨bm, n, none⟩) (u := .int .i64 1000000) (by have := HBS.out; show _ ≤ bm; omega))
            have HFX : Hid (fixR S (a.take (k2 + 1)) = updI (fixR S (a.take k2)) (n : Int) 1000000) := by show _ = _; rw [HTK.out, fixR_snoc, HVN.out, if_pos hpos]
            go_wp2
            go_roundw
            case rel => exact ⟨k2 + 1, HKL.out, by go_num, HB3'.out, HM3.out.congr (fun i _ _ => by rw [HFX.out]; rfl), HF3.out.congr (fun i _ _ => HFF.out i)⟩
            case measure => have := HKL.out; simp [intOf]; omega
          · have hpd : decide (0 < x) = false := by simpa using hpos
            have hxn : x = -(n : Int) := by
              have hx2 := HX2.out
              by_cases h0 : x < 0
              · rw [if_pos h0] at hx2; omega
              · rw [if_neg h0] at hx2; have := HX3.out; rw [HVN.out] at this; omega
            have hnx : -x = (n : Int) := by omega
            have HM3 := Lib.hid (HM2.out.set n hn (-1000000))
            have HF3 := Lib.hid (HF2.out.set_other (c := bm) (i := n) (v := .int .i64 (-1000000)) (by have := HBS.out; omega))
            have HB3' := Lib.hid (HBX.out.setCell (p := ⟨bm, n, none⟩) (u := .int .i64 (-1000000)) (by have := HBS.out; show _ ≤ bm; omega))
            have HFX : Hid (fixR S (a.take (k2 + 1)) = updI (fixR S (a.take k2)) (n : Int) (-1000000)) := by show _ = _; rw [HTK.out, fixR_snoc, HVN.out, if_neg hpos]
            subst hxn
            clear hnx
            have hneg : -(-(n : Int)) = (n : Int) := by omega
            go_wp2
            go_roundw
            case rel => exact ⟨k2 + 1, HKL.out, by go_num, HB3'.out, HM3.out.congr (fun i _ _ => by rw [HFX.out]; rfl), HF3.out.congr (fun i _ _ => HFF.out i)⟩
            case measure => have := HKL.out; simp [intOf]; omega
        · have HM0 : Hid (MkI wr bm bm (refM S a gs 0).1) := HM.out.congr (fun i _ _ => by rw [refM_zero, List.take_of_length_le (by omega)])
          have HF0 : Hid (Mk wr bf bf (fun v => decide (v ∈ a.map abs5))) := HF.out.congr (fun i _ _ => by rw [List.take_of_length_le (by omega)])
          clear HM HF HAW HAR
          go_wp2
          go_loopw [10, 11] (fun sv i wr => ∃ (k : Nat) (t : List Tg), k ≤ gs.length ∧ i = .int .i64 k ∧ RowG w00 wr B2 sv t ∧ shapeG t = (refM S a gs k).2 ∧ t.length ≤ k ∧ Below W0.heap.size W0 wr ∧ MkI wr bm bm (refM S a gs k).1 ∧ Mk wr bf bf (fun v => decide (v ∈ a.map abs5))) (fun _ i _ => gs.length - (intOf i).toNat)
          case atStart => exact ⟨0, [], Nat.zero_le _, rfl, RowG.nil (HW00.out.trans ((HB0.out.trans (HB.out.mono HB0.out.size)).mono h00s)) (by have := HBS.out; have := HZ0.out; omega), by rw [refM_zero]; rfl, Nat.le_refl _, HB.out, HM0.out, HF0.out⟩
          case round =>
            clear HM0 HF0 HB
            obtain ⟨k3, t, hk3, rfl, hrw, hsh, htl, hbel, hmi, hmf⟩ := hrel
            have HRW := Lib.hid hrw
            have HSH := Lib.hid hsh
            have HTL : Hid (t.length < 1000000) := by show _ < _; omega
            have HTK3 := Lib.hid htl
            have HB := Lib.hid hbel
            have HM := Lib.hid hmi
            have HF := Lib.hid hmf
            have hszr : W0.heap.size ≤ wr.heap.size := hbel.size
            have hsz2 : B2 ≤ wr.heap.size := by have := hmf.lt; have := HBS.out; omega
            obtain ⟨sa, sc, rfl⟩ := hrw.shape
            clear hrw hsh htl hbel hmi hmf
            by_cases hlt3 : k3 < gs.length
            · obtain ⟨pb, off, u3, rfl, hb, hcx0, hck0, hcu0, HU0, hrg⟩ := HGW.out.at hlt3
              have hcx := (HB.out.cell (p := ⟨pb, off + k3 * 3, none⟩) hb).trans hcx0
              have hck := (HB.out.cell (p := ⟨pb, off + k3 * 3 + 1, none⟩) hb).trans hck0
              have hcu := (HB.out.cell (p := ⟨pb, off + k3 * 3 + 2, none⟩) hb).trans hcu0
              obtain ⟨p0, p1, p2⟩ := HXC.out wr HB.out
              have HAK := Lib.hid (HAT.out k3 hlt3)
              have HRS : Hid (refM S a gs (k3 + 1) = refStep (refM S a gs k3) (gs.getD k3 dG)) := refM_succ hlt3
              have HGN := Lib.hid (HGD.out (k3 + 1))
              have HBJ := Lib.hid (HGB.out _ (show gs.getD k3 dG ∈ gs by simp [List.getD, hlt3]))
              have hk0 : (0 : Int) ≤ (k3 : Int) := by omega
              have hk1 : (k3 : Int) < (gs.length : Int) := by omega
              have hk2 : (k3 : Int) < 4000001 := by omega
              have HKL := Lib.hid hlt3
              clear hcx0 hck0 hcu0 hlt3 hk3
              generalize gs.getD k3 dG = y at *
              obtain ⟨y1, y2, y3⟩ := y
              simp only at hcx hck hcu HU0 hrg HAK HRS HBJ
              have HU := Lib.hid HU0
              obtain ⟨ua3, uc3, rfl⟩ := HU0.shape
              generalize refM S a gs k3 = rs at *
              obtain ⟨m, st⟩ := rs
              simp only at HM HSH HAK HRS
              have hyl : y3.length ≤ 200000 := HAK.out.2.2.1
              have HYL := Lib.hid hyl
              have hlw : Below wr.heap.size wr (wr.alloc (.cells #[.int .i64 y1, .int .u8 y2, .slice ua3 y3.length uc3] 71)) := below_new _ _
              have hh : (wr.alloc (.cells #[.int .i64 y1, .int .u8 y2, .slice ua3 y3.length uc3] 71)).heap[wr.heap.size]? = some (.cells #[.int .i64 y1, .int .u8 y2, .slice ua3 y3.length uc3] 71 (0, 0)) := heap_hit rfl
              have HLW := Lib.hid hlw
              clear HU0 hyl hlw hrg
              go_upto_region 20 with fail
              clear hcx hck hcu p0 p1 p2
              have HBG := Lib.hid (HB.out.trans (HLW.out.mono hszr))
              have HMG := Lib.hid (HM.out.below HLW.out (Nat.le_refl _))
              have HFG := Lib.hid (HF.out.below HLW.out (Nat.le_refl _))
              have HRG := Lib.hid (HRW.out.below' HLW.out (Nat.le_refl _))
              have hsw : wr.heap.size < (wr.alloc (.cells #[.int .i64 y1, .int .u8 y2, .slice ua3 y3.length uc3] 71)).heap.size := by simp
              generalize wr.alloc (.cells #[.int .i64 y1, .int .u8 y2, .slice ua3 y3.length uc3] 71) = wg at *
              have HHG := Lib.hid hh
              obtain ⟨gb, hgb⟩ : ∃ gb, wr.heap.size = gb := ⟨_, rfl⟩
              have HGBE : Hid (bf < gb ∧ gb < wg.heap.size ∧ ∀ g, (Value.slice sa t.length sc).ownBlock = some g → g < gb) := ⟨by have := HF.out.lt; omega, by omega, fun g hg => by have := (rowG_lt HRW.out.row g hg).2; omega⟩
              rw [hgb] at HHG ⊢
              have hgw : gb < wg.heap.size := HGBE.out.2.1
              have HXG : Hid (∀ X, Below wg.heap.size wg X → X.cell? ⟨gb, 0, none⟩ = some (.int .i64 y1) ∧ X.cell? ⟨gb, 1, none⟩ = some (.int .u8 y2) ∧ X.cell? ⟨gb, 2, none⟩ = some (.slice ua3 y3.length uc3)) := fun X hX => by
                have h1 := (hX.block gb hgw).trans HHG.out
                exact ⟨block_cell h1 rfl, block_cell h1 rfl, block_cell h1 rfl⟩
              have HZG : Hid (B2 ≤ wg.heap.size) := by show _ ≤ _; omega
              clear hh hsw HB HM HF HRW HLW hgb hszr hsz2 HHG hgw
              go_wp2
              go_loopw [13, 14] (fun lv i w2 => ∃ q : Nat, q ≤ y3.length ∧ i = .int .i64 q ∧ Own w2 wg.heap.size lv ((y3.take q).map (meantF m)) ∧ Below wg.heap.size wg w2) (fun _ i _ => y3.length - (intOf i).toNat)
              case atStart => exact ⟨0, Nat.zero_le _, rfl, by simpa using Own.nil wg wg.heap.size, Below.refl _ _⟩
              case round =>
                obtain ⟨q, hq, rfl, hown, hbel⟩ := hrel
                have hszq := hbel.size
                have HOW := Lib.hid hown
                have HBE := Lib.hid hbel
                have HBQ := Lib.hid (HBG.out.trans (hbel.mono HBG.out.size))
                obtain ⟨x0, x1, x2⟩ := HXG.out wr hbel
                have HLL : Hid (((y3.take q).map (meantF m)).length ≤ 200000) := by show _ ≤ _; rw [List.length_map, List.length_take]; have := HYL.out; omega
                obtain ⟨la, lc, rfl⟩ := own_shC hown
                clear hown hbel
                by_cases hlq : q < y3.length
                · obtain ⟨b3, off3, rfl, hb3, hc0⟩ := HU.out.cellY hlq
                  have hc := (HBQ.out.cell (p := ⟨b3, off3 + q, none⟩) hb3).trans hc0
                  have hxm : y3.getD q 0 ∈ y3 := by simp [List.getD, hlq]
                  have hlk := HAK.out.2.2.2 _ hxm
                  have HTQ : Hid ((y3.take (q + 1)).map (meantF m) = (y3.take q).map (meantF m) ++ [meantF m (y3.getD q 0)]) := by show _ = _; rw [List.take_succ_eq_append_getElem hlq, List.map_append]; simp [List.getD, hlq]
                  have HMT := Lib.hid (rmeant5_any bm bm m (y3.getD q 0) wr (HMG.out.below (HBE.out) (Nat.le_refl _)) hlk.1 hlk.2.1)
                  have HQL := Lib.hid hlq
                  have hq0 : (0 : Int) ≤ (q : Int) := by omega
                  have hq1 : (q : Int) < (y3.length : Int) := by omega
                  have hq2 : (q : Int) < 17592186044416 := by have := HYL.out; omega
                  clear hc0 hxm hlk hlq hq
                  generalize meantF m (y3.getD q 0) = z at *
                  generalize y3.getD q 0 = x at *
                  generalize (y3.take q).map (meantF m) = L at *
                  go_wp2_with (first
                    | (go_at_call 95; refine HMT.out.mono ?_; rintro e w7 ⟨rfl, rfl⟩)
                    | (at_builtin; refine wpList_app1 rfl (.tmp 93) (.tmp 101) rfl wg.heap.size (.slice la L.length lc) L z wr.heap.size rfl rfl (HOW.out.alloc _) (cell_fresh rfl) (by have := HLL.out; omega) (by simp; omega) ?_; intro v2 w9 ho9 hg9; have hlo : ∀ g, (Value.slice la L.length lc).ownBlock = some g → wg.heap.size ≤ g := fun g hg => (HOW.out.lt g hg).1; have HB9 : Hid (Below wg.heap.size wg w9) := (HBE.out.alloc HBE.out.size _).grown hg9 (by simp; omega) (fun g hg => by have := hlo g hg; omega); have HO9 := Lib.hid ho9; clear ho9 hg9 hlo))
                  go_roundw
                  case rel => exact ⟨q + 1, HQL.out, by go_num, by rw [HTQ.out]; exact HO9.out, HB9.out⟩
                  case measure => have := HQL.out; simp [intOf]; omega
                · have HQE : Hid (q = y3.length) := by show _ = _; omega
                  have HL3 : Hid (((y3.take q).map (meantF m)) = y3.map (meantF m)) := by show _ = _; rw [HQE.out, List.take_length]
                  rw [HL3.out] at HOW HLL ⊢
                  have HLM : Hid (∀ z ∈ y3.map (meantF m), (-1000000 ≤ z ∧ z ≤ 1000000) ∧ z ≠ 0) := fun z hz => by
                    obtain ⟨x, hx, rfl⟩ := List.mem_map.1 hz
                    exact (HAK.out.2.2.2 x hx).2.2
                  have HFT : Hid (fitsB y2 (y3.map (meantF m)).length = true) := by show _ = _; rw [List.length_map]; exact HAK.out.2.1
                  obtain ⟨L, hL⟩ : ∃ L, y3.map (meantF m) = L := ⟨_, rfl⟩
                  rw [hL] at HOW HLL HLM HFT ⊢
                  have HRN : Hid (refM S a gs (k3 + 1) = if (meanM y2 L).1 = 0 then (updI m y1 y1, st ++ [(y1, (meanM y2 L).2.1, (meanM y2 L).2.2)]) else (updI m y1 (meanM y2 L).1, st)) := by
                    show _ = _
                    rw [HRS.out]
                    unfold refStep
                    simp only [hL]
                  have HUQ := HU.out.below HBQ.out (Nat.le_refl _)
                  have HLI := HOW.out.ints (by have := HLL.out; omega) (fun z hz => by have := (HLM.out z hz).1; omega)
                  have HME := Lib.hid (rmeaning5_any y1 y2 _ _ y3 L wr HUQ HLI HFT.out (by have := HLL.out; omega) HLM.out)
                  obtain ⟨RR, hRR⟩ : ∃ RR, meanM y2 L = RR := ⟨_, rfl⟩
                  rw [hRR] at HRN HME
                  obtain ⟨r1, r2, r3⟩ := RR
                  simp only at HRN HME
                  have hy := HAK.out.1
                  have HMQ := Lib.hid (HMG.out.below HBE.out (Nat.le_refl _))
                  have HFQ := Lib.hid (HFG.out.below HBE.out (Nat.le_refl _))
                  have HRQ := Lib.hid (HRG.out.below' HBE.out (Nat.le_refl _))
                  clear HUQ HLI hRR hL HL3 HRS HAK HMG HFG HRG HLM HFT HQE hq HU
                  obtain ⟨n, rfl⟩ := Int.eq_ofNat_of_zero_le (show 0 ≤ y1 by omega)
                  have hn : n < nM := by rw [nM_eq]; omega
                  have hn0 : (0 : Int) ≤ (n : Int) := by omega
                  have hn1 : (n : Int) < (nM : Int) := by omega
                  clear hy
                  go_upto_region 26 with (go_at_call 96; refine HME.out.mono ?_; rintro e w8 ⟨h1, h2, ha, hn', hc', rfl, hb8, hst⟩; have HB8 := Lib.hid hb8; have HST := Lib.hid hst; clear hb8 hst)
                  clear x0 x1 x2 HME
                  have HBH0 : Below wr.heap.size wr (w8.alloc (.cells #[.int .i64 h1, .int .u8 h2, .slice ha hn' hc'] 71)) := HB8.out.alloc HB8.out.size _
                  have HBH := Lib.hid HBH0
                  have HSH8 : Hid (r1 = 0 → h1 = (n : Int) ∧ h2 = r2 ∧ Own (w8.alloc (.cells #[.int .i64 h1, .int .u8 h2, .slice ha hn' hc'] 71)) wg.heap.size (.slice ha hn' hc') r3) := fun e => by
                    obtain ⟨e1, e2, e3⟩ := HST.out e
                    refine ⟨e1, e2, ?_⟩
                    rcases e3 with e3 | ⟨e3, e4⟩
                    · exact (e3.mono hszq).alloc _
                    · rw [e3, e4]
                      exact (HOW.out.below HB8.out (Nat.le_refl _)).alloc _
                  have hhh : (w8.alloc (.cells #[.int .i64 h1, .int .u8 h2, .slice ha hn' hc'] 71)).heap[w8.heap.size]? = some (.cells #[.int .i64 h1, .int .u8 h2, .slice ha hn' hc'] 71 (0, 0)) := heap_hit rfl
                  clear HBH0
                  generalize w8.alloc (.cells #[.int .i64 h1, .int .u8 h2, .slice ha hn' hc'] 71) = wh at *
                  generalize w8.heap.size = hb at *
                  have z0 : wh.cell? ⟨hb, 0, none⟩ = some (.int .i64 h1) := block_cell hhh rfl
                  have z1 : wh.cell? ⟨hb, 1, none⟩ = some (.int .u8 h2) := block_cell hhh rfl
                  have z2 : wh.cell? ⟨hb, 2, none⟩ = some (.slice ha hn' hc') := block_cell hhh rfl
                  have HBGH := Lib.hid (HBE.out.trans (HBH.out.mono hszq))
                  have HBWH := Lib.hid (HBQ.out.trans (HBH.out.mono HBQ.out.size))
                  have HMH := Lib.hid (HMQ.out.below HBH.out (Nat.le_refl _))
                  have HFH := Lib.hid (HFQ.out.below HBH.out (Nat.le_refl _))
                  have HRH := Lib.hid (HRQ.out.below' HBH.out (Nat.le_refl _))
                  clear hhh HST HB8 HMQ HFQ HRQ HOW
                  have hzh : B2 ≤ wh.heap.size := by have := HBGH.out.size; have := HZG.out; omega
                  by_cases h0 : r1 = 0
                  · subst h0
                    obtain ⟨e1, e2, ho8⟩ := HSH8.out rfl
                    subst e1
                    subst e2
                    rw [if_pos rfl] at HRN
                    have HO8 := Lib.hid ho8
                    have HGD1 : Hid (gBd ((n : Int), h2, r3)) := by
                      have h9 := HGN.out
                      rw [HRN.out] at h9
                      exact h9 _ (by simp)
                    have HB3 : Hid (Below wh.heap.size wh (wh.alloc (.cells #[.int .i64 (n : Int), .int .u8 h2, .slice ha hn' hc'] 71))) := (Below.refl _ _).alloc (Nat.le_refl _) _
                    have HZH := Lib.hid hzh
                    clear HSH8 ho8
                    go_wp2_with (at_builtin; refine wpList_appGate rfl (.tmp 111) (.tmp 113) rfl B2 (.slice sa t.length sc) t ((n : Int), h2, .slice ha hn' hc', r3) wh.heap.size rfl rfl (HRH.out.below' HB3.out (Nat.le_refl _)).row (cell_fresh rfl) (cell_fresh rfl) (cell_fresh rfl) rfl HTL.out (by have := HZH.out; simp; omega) ?_; intro v9 w9 hrow9 hg9; have HR9 := Lib.hid hrow9; have HG9 := Lib.hid hg9; have HBB9 : Hid (Below B2 wh w9) := (HB3.out.mono HZH.out).grown hg9 (by have := HZH.out; simp; omega) (fun g hg => (rowG_lt HRH.out.row g hg).1); have HM9 : Hid (MkI w9 bm bm m) := HMH.out.kept (S := fun i => B2 ≤ i) ⟨HBB9.out.os, HBB9.out.tape, HBB9.out.output, HBB9.out.size, fun i hi hne => HBB9.out.block i (by omega)⟩ (by have := HBS.out; omega); have HF9 : Hid (Mk w9 bf bf (fun v => decide (v ∈ a.map abs5))) := HFH.out.kept (S := fun i => B2 ≤ i) ⟨HBB9.out.os, HBB9.out.tape, HBB9.out.output, HBB9.out.size, fun i hi hne => HBB9.out.block i (by omega)⟩ (by have := HBS.out; omega); have c0 : w9.cell? ⟨gb, 0, none⟩ = some (.int .i64 (n : Int)) := (hg9.cell_far ⟨gb, 0, none⟩ (by have := HGBE.out.2.1; have := HBGH.out.size; simp; omega) (fun e => by have := HGBE.out.2.2 gb e.symm; omega)).trans ((HB3.out.cell (p := ⟨gb, 0, none⟩) (by have := HGBE.out.2.1; have := HBGH.out.size; simp; omega)).trans (HXG.out wh HBGH.out).1); have m0 := HM9.out.cell hn; have m1 := HM9.out.frozen n; clear hrow9 hg9)
                    have HRM : Hid (RowG w00 w9 B2 v9 (t ++ [((n : Int), h2, .slice ha hn' hc', r3)])) := RowG.more (s := [((n : Int), h2, .slice ha hn' hc', r3)]) HRH.out HZH.out HB3.out (fun z hz => by
                      rw [List.mem_singleton] at hz
                      subst hz
                      exact .inl ((HO8.out.mono HZG.out).alloc _)) (fun g hg => by
                      simp [shapeG] at hg
                      subst hg
                      exact HGD1.out) HR9.out HG9.out
                    have HBW9 : Hid (Below W0.heap.size W0 w9) := HBWH.out.trans (HBB9.out.mono (by have := HBS.out; omega))
                    go_roundw
                    case rel => exact ⟨k3 + 1, _, HKL.out, by go_num, HRM.out.keptS (Kept.setCell w9 ⟨bm, n, none⟩ _) (fun g hg e => by have := HBS.out; have e2 : g = bm := e; omega) (fun g hg e => by have := HBS.out; have := HZ0.out; have e2 : g = bm := e; omega), by rw [shapeG_app, HSH.out, HRN.out]; rfl, by rw [List.length_append]; have := HTK3.out; simp; omega, HBW9.out.setCell (p := ⟨bm, n, none⟩) (u := _) (by have := HBS.out; show _ ≤ bm; omega), (HM9.out.set n hn (n : Int)).congr (fun i _ _ => by rw [HRN.out]; rfl), HF9.out.set_other (by have := HBS.out; omega)⟩
                    case measure => have := HKL.out; simp [intOf]; omega
                  · have hrb : (r1 == 0) = false := by simpa using h0
                    rw [if_neg h0] at HRN
                    have c0 := (HXG.out wh HBGH.out).1
                    have m0 := HMH.out.cell hn
                    have m1 := HMH.out.frozen n
                    clear h0 HSH8
                    go_wp2
                    go_roundw
                    case rel => exact ⟨k3 + 1, _, HKL.out, by go_num, HRH.out.keptS (Kept.setCell wh ⟨bm, n, none⟩ _) (fun g hg e => by have := HBS.out; have e2 : g = bm := e; omega) (fun g hg e => by have := HBS.out; have := HZ0.out; have e2 : g = bm := e; omega), by rw [HSH.out, HRN.out], by have := HTK3.out; omega, HBWH.out.setCell (p := ⟨bm, n, none⟩) (u := _) (by have := HBS.out; show _ ≤ bm; omega), (HMH.out.set n hn r1).congr (fun i _ _ => by rw [HRN.out]; rfl), HFH.out.set_other (by have := HBS.out; omega)⟩
                    case measure => have := HKL.out; simp [intOf]; omega
            · obtain rfl : k3 = gs.length := by omega
              obtain ⟨y, st, e1, e2, e3, hok, hlo, hmo, hmpp, hgst, hrc⟩ := HEND.out
              have HSN : Hid (simpN P gs o a = if varC y = 65537 then constN (withoutP P (fixM a)) (decide (y = 65537)) else (withoutP P (fixM a), usedG st y, y)) := by show _ = _; unfold simpN; rw [e1, e2]
              have HST : Hid (shapeG t = st) := by
                show _ = _
                rw [HSH.out, e3]
              have HME : Hid (MkI wr bm bm (refM S a gs gs.length).1) := HM.out
              have HBW := HB
              have hsz3 : w.heap.size + 2 ≤ wr.heap.size := by have := HZ0.out; omega
              clear e1 e2 e3 HSH HM HB HTK3 HEND HGD HAT hk3
              generalize (refM S a gs gs.length).1 = m at *
              have HMT : Hid (∀ X, Below wr.heap.size wr X → Calls Try.prog 95 #[.slice (some ⟨bm, 0, none⟩) nM nM, .int .i64 o] X fun e w' => e = .returned (.int .i64 (phi y)) ∧ X = w') := fun X hX => by
                have h := rmeant5_any bm bm m o X (HME.out.below hX (Nat.le_refl _)) hlo.1 hlo.2.1
                rw [hmo] at h
                exact h
              have HOUT : Hid (∀ X, Below wr.heap.size wr X → Calls Try.prog 97 #[.slice pa P.length pc, .slice (some ⟨bf, 0, none⟩) nM nM] X fun e w' => ∃ v t, e = .returned v ∧ JoinSt w' X.heap.size v t ∧ shapeT t = withoutP P (fixM a) ∧ Below X.heap.size X w') := fun X hX => by
                have h := rout5_any bf bf (fun v => decide (v ∈ a.map abs5)) (fun v => if decide (v ∈ a.map abs5) = true then some 0 else none) (fun v => rfl) _ P X (HF.out.below hX (Nat.le_refl _)) (HPW.out.below (HBW.out.trans (hX.mono HBW.out.size)) (Nat.le_refl _)) HFL.out HFP.out
                rw [HOF.out] at h
                exact h
              have HOKY := Lib.hid hok
              have HGST := Lib.hid hgst
              have HRC := Lib.hid hrc
              have HMPP := Lib.hid hmpp
              obtain ⟨z, hz⟩ : ∃ z, phi y = z := ⟨_, rfl⟩
              have HZ := Lib.hid hz
              rw [hz] at HMT
              clear hz hok hgst hrc hmpp hlo hmo HME HF
              obtain ⟨p0, p1, p2⟩ := HXC.out wr HBW.out
              go_upto_region 30 with fail
              clear p0 p1 p2
              go_cut [17] from 122 to 130 (fun s wx => CutN wr wx s (withoutP P (fixM a)) z)
              case first =>
                have HWD : Hid (Below wr.heap.size wr wr.drew) := (Below.refl _ _).drew
                go_wp2_with fail
                refine wp_region_held_drew (S := fun X => Below wr.heap.size wr X) (by kernel_rfl) HWD.out (fun hSd => ?_)
                generalize wr.drew = wd at *
                refine takeC (i := 0) (v := .pointer (some ⟨w.heap.size, 0, none⟩)) (some 122) rfl rfl (by kernel_rfl) (by kernel_rfl) (by kernel_rfl) (fun _ _ _ h => h) (Or.inl ⟨by rfl, ?_⟩) (by assumption) ?_
                · intro wz hSw; go_simp
                try simp only [Act.put, List.setIfInBounds_toArray, List.set_cons_zero, List.set_cons_succ]
                refine takeC (i := 1) (v := .slice pa P.length pc) (some 123) rfl rfl (by kernel_rfl) (by kernel_rfl) (by kernel_rfl) (fun _ _ _ h => h) (Or.inl ⟨by rfl, ?_⟩) (by assumption) ?_
                · intro wz hSw; obtain ⟨t0, t1, t2⟩ := HXC.out wz (HBW.out.trans (Below.mono hSw HBW.out.size)); go_simp
                try simp only [Act.put, List.setIfInBounds_toArray, List.set_cons_zero, List.set_cons_succ]
                refine takeC (i := 2) (v := .slice (some ⟨bf, 0, none⟩) nM nM) (some 124) rfl rfl (by kernel_rfl) (by kernel_rfl) (by kernel_rfl) (fun _ _ _ h => h) (Or.inl ⟨by rfl, ?_⟩) (by assumption) ?_
                · intro wz hSw; go_simp
                try simp only [Act.put, List.setIfInBounds_toArray, List.set_cons_zero, List.set_cons_succ]
                refine takeC (i := 4) (v := .slice (some ⟨bm, 0, none⟩) nM nM) (some 126) rfl rfl (by kernel_rfl) (by kernel_rfl) (by kernel_rfl) (fun _ _ _ h => h) (Or.inl ⟨by rfl, ?_⟩) (by assumption) ?_
                · intro wz hSw; go_simp
                try simp only [Act.put, List.setIfInBounds_toArray, List.set_cons_zero, List.set_cons_succ]
                refine takeC (i := 5) (v := .pointer (some ⟨w.heap.size, 2, none⟩)) (some 127) rfl rfl (by kernel_rfl) (by kernel_rfl) (by kernel_rfl) (fun _ _ _ h => h) (Or.inl ⟨by rfl, ?_⟩) (by assumption) ?_
                · intro wz hSw; go_simp
                try simp only [Act.put, List.setIfInBounds_toArray, List.set_cons_zero, List.set_cons_succ]
                refine takeC (i := 6) (v := .int .i64 o) (some 128) rfl rfl (by kernel_rfl) (by kernel_rfl) (by kernel_rfl) (fun _ _ _ h => h) (Or.inl ⟨by rfl, ?_⟩) (by assumption) ?_
                · intro wz hSw; obtain ⟨t0, t1, t2⟩ := HXC.out wz (HBW.out.trans (Below.mono hSw HBW.out.size)); go_simp
                try simp only [Act.put, List.setIfInBounds_toArray, List.set_cons_zero, List.set_cons_succ]
                clear hSd
                refine wpAnyH_ready (rs := [3, 9]) (by kernel_rfl) (by simp) ?_
                refine AllReadyH.cons rfl (fun K hK => ?_) (AllReadyH.cons rfl (fun K hK => ?_) AllReadyH.nil)
                · go_simp
                  go_wp2_with (go_at_call 97; go_loud (refine (HOUT.out (wd) (HWD.out)).mono ?_; rintro e w7 ⟨v7, t7, rfl, hj7, hs7, hb7⟩; have HJ7 := Lib.hid hj7; have HS7 := Lib.hid hs7; have HB7 := Lib.hid ((HWD.out).trans (hb7.mono (HWD.out).size)); have HB7x := Lib.hid hb7; obtain ⟨oa7, oc7, rfl⟩ := hj7.shape; clear hj7 hs7 hb7))
                  refine hK.out _ _ HB7.out (fun hH7 => ?_)
                  clear hK K hH7
                  try simp only [Act.put, List.setIfInBounds_toArray, List.set_cons_zero, List.set_cons_succ]
                  refine wpAnyH_ready (rs := [7, 9]) (by kernel_rfl) (by simp) ?_
                  refine AllReadyH.cons rfl (fun K hK => ?_) (AllReadyH.cons rfl (fun K hK => ?_) AllReadyH.nil)
                  · go_simp
                    go_wp2_with (go_at_call 95; go_loud (refine (HMT.out (w7) (HB7.out)).mono ?_; rintro e w6 ⟨rfl, rfl⟩))
                    refine hK.out _ _ (HB7.out) (fun hH6 => ?_)
                    clear hK K hH6
                    try simp only [Act.put, List.setIfInBounds_toArray, List.set_cons_zero, List.set_cons_succ]
                    refine takeC (i := 8) (v := .agg #[.slice oa7 t7.length oc7, .slice none 0 0, .int .i64 z]) (some 130) rfl rfl (by kernel_rfl) (by kernel_rfl) (by kernel_rfl) (fun _ _ _ h => h) (Or.inl ⟨by rfl, ?_⟩) (by assumption) ?_
                    · intro wz hSw; go_simp
                    try simp only [Act.put, List.setIfInBounds_toArray, List.set_cons_zero, List.set_cons_succ]
                    refine wpAnyH_ready (rs := [9]) (by kernel_rfl) (by simp) ?_
                    refine AllReadyH.cons rfl (fun K hK => ?_) AllReadyH.nil
                    go_simp
                    have HB9 : Hid (Below wr.heap.size wr (w7.alloc (.cells #[.slice none 0 0, .slice none 0 0, .int .i64 0] 25))) := (HB7.out).alloc (HB7.out).size _
                    have HH9 : Hid ((w7.alloc (.cells #[.slice none 0 0, .slice none 0 0, .int .i64 0] 25)).heap[w7.heap.size]? = some (.cells #[.slice none 0 0, .slice none 0 0, .int .i64 0] 25 (0, 0))) := by show _ = _; rw [heapy, if_pos rfl]
                    have HA9 : Hid (Below w7.heap.size w7 (w7.alloc (.cells #[.slice none 0 0, .slice none 0 0, .int .i64 0] 25))) := (Below.refl _ _).alloc (Nat.le_refl _) _
                    have HZ9 : Hid ((w7.alloc (.cells #[.slice none 0 0, .slice none 0 0, .int .i64 0] 25)).heap.size = w7.heap.size + 1) := by show _ = _; simp
                    refine hK.out _ _ HB9.out (fun hH9 => ?_)
                    clear hK K hH9
                    try simp only [Act.put, List.setIfInBounds_toArray, List.set_cons_zero, List.set_cons_succ]
                    obtain ⟨bo, hbo⟩ : ∃ b, w7.heap.size = b := ⟨_, rfl⟩
                    have HBO := Lib.hid hbo
                    have HBL : Hid (wr.heap.size ≤ bo) := by show _ ≤ _; have := (HB7.out).size; omega
                    rw [hbo] at HH9 HZ9 ⊢
                    clear hbo
                    generalize w7.alloc (.cells #[.slice none 0 0, .slice none 0 0, .int .i64 0] 25) = w9 at *
                    refine wpAnyH_ready (rs := [10]) (by kernel_rfl) (by simp) ?_
                    refine AllReadyH.cons rfl (fun K hK => ?_) AllReadyH.nil
                    have HHC : Hid (w9.heap[bo]? = some (.cells #[.slice none 0 0, .slice none 0 0, .int .i64 0] 25 (0, 0))) := HH9.out
                    obtain ⟨d0, d1, d2, e0, e1, e2⟩ := three_cells HHC.out
                    have HKT := Lib.hid (kept_three bo w9 (.slice oa7 t7.length oc7) (.slice none 0 0) (.int .i64 z))
                    have HBF : Hid (Below wr.heap.size wr (((w9.setCell ⟨bo, 0, none⟩ (.slice oa7 t7.length oc7)).setCell ⟨bo, 1, none⟩ (.slice none 0 0)).setCell ⟨bo, 2, none⟩ (.int .i64 z))) := (HB9.out).trans (HKT.out.below (HB9.out).size (fun i hi e => by have := HBL.out; omega))
                    have HCT : Hid (CutN wr (((w9.setCell ⟨bo, 0, none⟩ (.slice oa7 t7.length oc7)).setCell ⟨bo, 1, none⟩ (.slice none 0 0)).setCell ⟨bo, 2, none⟩ (.int .i64 z)) (.pointer (some ⟨bo, 0, none⟩)) (withoutP P (fixM a)) z) := ⟨bo, oa7, _, oc7, t7, rfl, HBL.out, set_three HHC.out, HS7.out, (fun Y hY => ((HJ7.out.below (HA9.out.trans ((HKT.out.trans hY).belowB (by have := HBO.out; omega) (by have := HZ9.out; have := HBO.out; omega))) (Nat.le_refl _)).mono (by have := HWD.out.size; omega))), HBF.out⟩
                    go_simp
                    refine hK.out _ _ HBF.out (fun hH10 => ?_)
                    clear hK K hH10
                    try simp only [Act.put, List.setIfInBounds_toArray, List.set_cons_zero, List.set_cons_succ]
                    refine wpAnyH_done (by kernel_rfl) ?_ _
                    go_wp2
                    go_meet
                    exact HCT.out
                  · go_simp
                    have HB9 : Hid (Below wr.heap.size wr (w7.alloc (.cells #[.slice none 0 0, .slice none 0 0, .int .i64 0] 25))) := (HB7.out).alloc (HB7.out).size _
                    have HH9 : Hid ((w7.alloc (.cells #[.slice none 0 0, .slice none 0 0, .int .i64 0] 25)).heap[w7.heap.size]? = some (.cells #[.slice none 0 0, .slice none 0 0, .int .i64 0] 25 (0, 0))) := by show _ = _; rw [heapy, if_pos rfl]
                    have HA9 : Hid (Below w7.heap.size w7 (w7.alloc (.cells #[.slice none 0 0, .slice none 0 0, .int .i64 0] 25))) := (Below.refl _ _).alloc (Nat.le_refl _) _
                    have HZ9 : Hid ((w7.alloc (.cells #[.slice none 0 0, .slice none 0 0, .int .i64 0] 25)).heap.size = w7.heap.size + 1) := by show _ = _; simp
                    refine hK.out _ _ HB9.out (fun hH9 => ?_)
                    clear hK K hH9
                    try simp only [Act.put, List.setIfInBounds_toArray, List.set_cons_zero, List.set_cons_succ]
                    obtain ⟨bo, hbo⟩ : ∃ b, w7.heap.size = b := ⟨_, rfl⟩
                    have HBO := Lib.hid hbo
                    have HBL : Hid (wr.heap.size ≤ bo) := by show _ ≤ _; have := (HB7.out).size; omega
                    rw [hbo] at HH9 HZ9 ⊢
                    clear hbo
                    generalize w7.alloc (.cells #[.slice none 0 0, .slice none 0 0, .int .i64 0] 25) = w9 at *
                    refine wpAnyH_ready (rs := [7]) (by kernel_rfl) (by simp) ?_
                    refine AllReadyH.cons rfl (fun K hK => ?_) AllReadyH.nil
                    go_simp
                    go_wp2_with (go_at_call 95; go_loud (refine (HMT.out (w9) (HB9.out)).mono ?_; rintro e w6 ⟨rfl, rfl⟩))
                    refine hK.out _ _ (HB9.out) (fun hH6 => ?_)
                    clear hK K hH6
                    try simp only [Act.put, List.setIfInBounds_toArray, List.set_cons_zero, List.set_cons_succ]
                    refine takeC (i := 8) (v := .agg #[.slice oa7 t7.length oc7, .slice none 0 0, .int .i64 z]) (some 130) rfl rfl (by kernel_rfl) (by kernel_rfl) (by kernel_rfl) (fun _ _ _ h => h) (Or.inl ⟨by rfl, ?_⟩) (by assumption) ?_
                    · intro wz hSw; go_simp
                    try simp only [Act.put, List.setIfInBounds_toArray, List.set_cons_zero, List.set_cons_succ]
                    refine wpAnyH_ready (rs := [10]) (by kernel_rfl) (by simp) ?_
                    refine AllReadyH.cons rfl (fun K hK => ?_) AllReadyH.nil
                    have HHC : Hid (w9.heap[bo]? = some (.cells #[.slice none 0 0, .slice none 0 0, .int .i64 0] 25 (0, 0))) := HH9.out
                    obtain ⟨d0, d1, d2, e0, e1, e2⟩ := three_cells HHC.out
                    have HKT := Lib.hid (kept_three bo w9 (.slice oa7 t7.length oc7) (.slice none 0 0) (.int .i64 z))
                    have HBF : Hid (Below wr.heap.size wr (((w9.setCell ⟨bo, 0, none⟩ (.slice oa7 t7.length oc7)).setCell ⟨bo, 1, none⟩ (.slice none 0 0)).setCell ⟨bo, 2, none⟩ (.int .i64 z))) := (HB9.out).trans (HKT.out.below (HB9.out).size (fun i hi e => by have := HBL.out; omega))
                    have HCT : Hid (CutN wr (((w9.setCell ⟨bo, 0, none⟩ (.slice oa7 t7.length oc7)).setCell ⟨bo, 1, none⟩ (.slice none 0 0)).setCell ⟨bo, 2, none⟩ (.int .i64 z)) (.pointer (some ⟨bo, 0, none⟩)) (withoutP P (fixM a)) z) := ⟨bo, oa7, _, oc7, t7, rfl, HBL.out, set_three HHC.out, HS7.out, (fun Y hY => ((HJ7.out.below (HA9.out.trans ((HKT.out.trans hY).belowB (by have := HBO.out; omega) (by have := HZ9.out; have := HBO.out; omega))) (Nat.le_refl _)).mono (by have := HWD.out.size; omega))), HBF.out⟩
                    go_simp
                    refine hK.out _ _ HBF.out (fun hH10 => ?_)
                    clear hK K hH10
                    try simp only [Act.put, List.setIfInBounds_toArray, List.set_cons_zero, List.set_cons_succ]
                    refine wpAnyH_done (by kernel_rfl) ?_ _
                    go_wp2
                    go_meet
                    exact HCT.out
                · go_simp
                  have HB9 : Hid (Below wr.heap.size wr (wd.alloc (.cells #[.slice none 0 0, .slice none 0 0, .int .i64 0] 25))) := (HWD.out).alloc (HWD.out).size _
                  have HH9 : Hid ((wd.alloc (.cells #[.slice none 0 0, .slice none 0 0, .int .i64 0] 25)).heap[wd.heap.size]? = some (.cells #[.slice none 0 0, .slice none 0 0, .int .i64 0] 25 (0, 0))) := by show _ = _; rw [heapy, if_pos rfl]
                  have HA9 : Hid (Below wd.heap.size wd (wd.alloc (.cells #[.slice none 0 0, .slice none 0 0, .int .i64 0] 25))) := (Below.refl _ _).alloc (Nat.le_refl _) _
                  have HZ9 : Hid ((wd.alloc (.cells #[.slice none 0 0, .slice none 0 0, .int .i64 0] 25)).heap.size = wd.heap.size + 1) := by show _ = _; simp
                  refine hK.out _ _ HB9.out (fun hH9 => ?_)
                  clear hK K hH9
                  try simp only [Act.put, List.setIfInBounds_toArray, List.set_cons_zero, List.set_cons_succ]
                  obtain ⟨bo, hbo⟩ : ∃ b, wd.heap.size = b := ⟨_, rfl⟩
                  have HBO := Lib.hid hbo
                  have HBL : Hid (wr.heap.size ≤ bo) := by show _ ≤ _; have := (HWD.out).size; omega
                  rw [hbo] at HH9 HZ9 ⊢
                  clear hbo
                  generalize wd.alloc (.cells #[.slice none 0 0, .slice none 0 0, .int .i64 0] 25) = w9 at *
                  refine wpAnyH_ready (rs := [3]) (by kernel_rfl) (by simp) ?_
                  refine AllReadyH.cons rfl (fun K hK => ?_) AllReadyH.nil
                  go_simp
                  go_wp2_with (go_at_call 97; go_loud (refine (HOUT.out (w9) (HB9.out)).mono ?_; rintro e w7 ⟨v7, t7, rfl, hj7, hs7, hb7⟩; have HJ7 := Lib.hid hj7; have HS7 := Lib.hid hs7; have HB7 := Lib.hid ((HB9.out).trans (hb7.mono (HB9.out).size)); have HB7x := Lib.hid hb7; obtain ⟨oa7, oc7, rfl⟩ := hj7.shape; clear hj7 hs7 hb7))
                  refine hK.out _ _ HB7.out (fun hH7 => ?_)
                  clear hK K hH7
                  try simp only [Act.put, List.setIfInBounds_toArray, List.set_cons_zero, List.set_cons_succ]
                  refine wpAnyH_ready (rs := [7]) (by kernel_rfl) (by simp) ?_
                  refine AllReadyH.cons rfl (fun K hK => ?_) AllReadyH.nil
                  go_simp
                  go_wp2_with (go_at_call 95; go_loud (refine (HMT.out (w7) (HB7.out)).mono ?_; rintro e w6 ⟨rfl, rfl⟩))
                  refine hK.out _ _ (HB7.out) (fun hH6 => ?_)
                  clear hK K hH6
                  try simp only [Act.put, List.setIfInBounds_toArray, List.set_cons_zero, List.set_cons_succ]
                  refine takeC (i := 8) (v := .agg #[.slice oa7 t7.length oc7, .slice none 0 0, .int .i64 z]) (some 130) rfl rfl (by kernel_rfl) (by kernel_rfl) (by kernel_rfl) (fun _ _ _ h => h) (Or.inl ⟨by rfl, ?_⟩) (by assumption) ?_
                  · intro wz hSw; go_simp
                  try simp only [Act.put, List.setIfInBounds_toArray, List.set_cons_zero, List.set_cons_succ]
                  refine wpAnyH_ready (rs := [10]) (by kernel_rfl) (by simp) ?_
                  refine AllReadyH.cons rfl (fun K hK => ?_) AllReadyH.nil
                  have HHC : Hid (w7.heap[bo]? = some (.cells #[.slice none 0 0, .slice none 0 0, .int .i64 0] 25 (0, 0))) := ((HB7x.out.block bo (by have := HZ9.out; omega)).trans HH9.out)
                  obtain ⟨d0, d1, d2, e0, e1, e2⟩ := three_cells HHC.out
                  have HKT := Lib.hid (kept_three bo w7 (.slice oa7 t7.length oc7) (.slice none 0 0) (.int .i64 z))
                  have HBF : Hid (Below wr.heap.size wr (((w7.setCell ⟨bo, 0, none⟩ (.slice oa7 t7.length oc7)).setCell ⟨bo, 1, none⟩ (.slice none 0 0)).setCell ⟨bo, 2, none⟩ (.int .i64 z))) := (HB7.out).trans (HKT.out.below (HB7.out).size (fun i hi e => by have := HBL.out; omega))
                  have HCT : Hid (CutN wr (((w7.setCell ⟨bo, 0, none⟩ (.slice oa7 t7.length oc7)).setCell ⟨bo, 1, none⟩ (.slice none 0 0)).setCell ⟨bo, 2, none⟩ (.int .i64 z)) (.pointer (some ⟨bo, 0, none⟩)) (withoutP P (fixM a)) z) := ⟨bo, oa7, _, oc7, t7, rfl, HBL.out, set_three HHC.out, HS7.out, (fun Y hY => ((HJ7.out.keptS (HKT.out.trans hY) (fun g hg e => by have := HZ9.out; omega)).mono (by have := HB9.out.size; omega))), HBF.out⟩
                  go_simp
                  refine hK.out _ _ HBF.out (fun hH10 => ?_)
                  clear hK K hH10
                  try simp only [Act.put, List.setIfInBounds_toArray, List.set_cons_zero, List.set_cons_succ]
                  refine wpAnyH_done (by kernel_rfl) ?_ _
                  go_wp2
                  go_meet
                  exact HCT.out
              case rest =>
                generalize wr = wq at *
                obtain ⟨bo, oa, on, oc, t8, rfl, hbo, hhb, hsh8, hst8, hbx⟩ := hcut
                have HHB := Lib.hid hhb
                have HS8 := Lib.hid hsh8
                have HJ8 := Lib.hid hst8
                have HBX := Lib.hid hbx
                have HBO := Lib.hid hbo
                have hszc : wq.heap.size ≤ wc.heap.size := hbx.size
                have hboc : bo < wc.heap.size := (Array.getElem?_eq_some_iff.1 hhb).1
                have o0 : wc.cell? ⟨bo, 0, none⟩ = some (.slice oa on oc) := block_cell hhb rfl
                have o2 : wc.cell? ⟨bo, 2, none⟩ = some (.int .i64 z) := block_cell hhb rfl
                have HFLP := Lib.hid (mayP_short HMPP.out)
                have HFRP : Hid (∀ v ∈ flatB (withoutP P (fixM a)), 1 ≤ v ∧ v ≤ 65536) := (mayP_parts HMPP.out).2.2.1
                have HBLK : Hid (IsBlocks wc (.slice oa on oc) (withoutP P (fixM a))) := NetO.blocks_of (HJ8.out wc (Kept.refl _ _)) HS8.out HMPP.out
                have HBF : Hid (Below w.heap.size w wc) := HB0.out.trans ((HBW.out.trans (HBX.out.mono HBW.out.size)).mono HB0.out.size)
                have HRY : Hid (∀ Y, Kept (fun i => i = bo) wc Y → RowG w00 Y B2 (.slice sa t.length sc) t) := fun Y hY => HRW.out.below' (HBX.out.trans (hY.belowB HBO.out HBX.out.size)) (Nat.le_refl _)
                have HRCB : Hid (∀ Y, Kept (fun i => i = bo) wc Y → Y.heap[w.heap.size + 1]? = some (.cells #[.slice none 0 0, .slice none 0 0, .int .i64 0] 25 (0, 0))) := fun Y hY => (hY.block _ (by omega) (by omega)).trans (HRC0.out wc (HBW.out.trans (HBX.out.mono HBW.out.size)))
                generalize withoutP P (fixM a) = P2 at *
                clear hhb hsh8 hst8 hbx hbo HOUT HMT HRW HOF
                by_cases hc : varC y = 65537
                · rw [if_pos hc] at HSN
                  obtain ⟨x, hux, hx1, hx2, hx3⟩ := unused_one HFLP.out.1
                  have HLEAST := Lib.hid (unused_least hux)
                  have HCN : Hid (∀ v, constN P2 v = (P2, [(x, 1, [])], if v = true then x else -x)) := fun v => by unfold constN; rw [hux]; rfl
                  have HX3 := Lib.hid hx3
                  obtain ⟨xn, rfl⟩ := Int.eq_ofNat_of_zero_le (show 0 ≤ x by omega)
                  have HVA2 : Hid (Calls Try.prog 33 #[.slice oa on oc] wc fun e w' => ∃ u, e = .returned u ∧ Own w' wc.heap.size u (flatB P2) ∧ Below wc.heap.size wc w') := vars5_any _ P2 wc HBLK.out (by have := HFLP.out.1; omega)
                  have HMK : Hid (∀ X u B, B ≤ X.heap.size → Own X B u (flatB P2) → Calls Try.prog 45 #[u] X fun e w' => ∃ b, e = .returned (.slice (some ⟨b, 0, none⟩) nM nM) ∧ Mk w' X.heap.size b (fun x => decide (x ∈ flatB P2)) ∧ Below X.heap.size X w') := fun X u B hB h => marks5_any u (flatB P2) X (h.ints (by have := HFLP.out.1; omega) (fun y hy => by have := HFRP.out y hy; omega)) (fun y hy => by have := HFRP.out y hy; omega)
                  have hyc := (okM_var HOKY.out).2.2.1 hc
                  clear hux hx3 hc
                  rcases hyc with rfl | rfl
                  · obtain rfl : z = 1000000 := HZ.out.symm.trans (by decide)
                    have HSN2 : Hid (simpN P gs o a = (P2, [((xn : Int), 1, [])], (xn : Int))) := by show _ = _; rw [HSN.out, HCN.out]; rfl
                    go_upto_region 34 with (first
                      | (go_at_call 33; refine HVA2.out.mono ?_; rintro e w4 ⟨u4, rfl, ho4, hb4⟩; have HO4 := Lib.hid ho4; have HB4 := Lib.hid hb4; have HZ4 := Lib.hid hb4.size; clear ho4 hb4)
                      | (go_at_call 45; refine (HMK.out w4 u4 _ HZ4.out HO4.out).mono ?_; rintro e w5 ⟨bu, rfl, hmk, hb5⟩; have HMU := Lib.hid hmk; have HB5 := Lib.hid (HB4.out.trans (hb5.mono HZ4.out)); clear hmk hb5))
                    have HK5 : Hid (Kept (fun i => i = bo) wc w5) := keptOf HB5.out
                    go_loopw [19] (fun v wr => ∃ n : Nat, 1 ≤ n ∧ n ≤ xn ∧ v = .int .i64 n ∧ w5 = wr) (fun v _ => xn - (intOf v).toNat)
                    case atStart => exact ⟨1, Nat.le_refl _, by omega, rfl, by trivial⟩
                    case round =>
                      obtain ⟨n, hn1, hn2, rfl, rfl⟩ := hrel
                      have hn : n < nM := by rw [nM_eq]; omega
                      have hi0 : (0 : Int) ≤ (n : Int) := by omega
                      have hi1 : (n : Int) < (nM : Int) := by omega
                      have hi2 : (n : Int) ≤ 65536 := by omega
                      have m0 := HMU.out.cell hn
                      by_cases hlt : n < xn
                      · have HNL := Lib.hid hlt
                        have hmem : decide ((n : Int) ∈ flatB P2) = true := decide_eq_true (HLEAST.out n (by omega) (by omega))
                        rw [hmem] at m0
                        clear hmem hlt
                        go_wp2
                        go_roundw
                        case rel => exact ⟨n + 1, by omega, HNL.out, by go_num, by trivial⟩
                        case measure => have := HNL.out; simp [intOf]; omega
                      · obtain rfl : n = xn := by omega
                        have hmem : decide ((n : Int) ∈ flatB P2) = false := decide_eq_false HX3.out
                        rw [hmem] at m0
                        have hh5 := (HB5.out.block bo hboc).trans HHB.out
                        have hb5 : bo < w5.heap.size := by have := HB5.out.size; omega
                        have ha5 : (w5.alloc (.cells #[.int .i64 (n : Int), .int .u8 1, .slice none 0 0] 71)).heap[bo]? = some (.cells #[.slice oa on oc, .slice none 0 0, .int .i64 1000000] 25 (0, 0)) := by rw [Below.heap_alloc _ _ _ hb5]; exact hh5
                        have hg5 : (w5.alloc (.cells #[.int .i64 (n : Int), .int .u8 1, .slice none 0 0] 71)).heap[w5.heap.size]? = some (.cells #[.int .i64 (n : Int), .int .u8 1, .slice none 0 0] 71 (0, 0)) := heap_hit rfl
                        have hs5 : (w5.alloc (.cells #[.int .i64 (n : Int), .int .u8 1, .slice none 0 0] 71)).heap.size = w5.heap.size + 1 := by simp
                        have HKA0 : Hid (Kept (fun i => i = bo) wc (w5.alloc (.cells #[.int .i64 (n : Int), .int .u8 1, .slice none 0 0] 71))) := HK5.out.trans (Kept.alloc _ _ _)
                        obtain ⟨d0, d1, d2, e0, e1, e2⟩ := three_cells ha5
                        have HHA : Hid (((w5.setCell ⟨bo, 1, none⟩ (.slice (some ⟨w5.heap.size, 0, none⟩) 1 1)).alloc (.cells #[.int .i64 (n : Int), .int .u8 1, .slice none 0 0] 71)).heap[bo]? = some (.cells #[.slice oa on oc, .slice (some ⟨w5.heap.size, 0, none⟩) 1 1, .int .i64 1000000] 25 (0, 0))) := by
                          show _ = _
                          rw [Below.heap_alloc _ _ _ (by simp [World.setCell]; omega)]
                          exact set_mid5 hh5
                        have HHG : Hid (((w5.setCell ⟨bo, 1, none⟩ (.slice (some ⟨w5.heap.size, 0, none⟩) 1 1)).alloc (.cells #[.int .i64 (n : Int), .int .u8 1, .slice none 0 0] 71)).heap[w5.heap.size]? = some (.cells #[.int .i64 (n : Int), .int .u8 1, .slice none 0 0] 71 (0, 0))) := heap_hit (by simp [World.setCell])
                        have HKB : Hid (Kept (fun i => i = bo) wc ((w5.setCell ⟨bo, 1, none⟩ (.slice (some ⟨w5.heap.size, 0, none⟩) 1 1)).alloc (.cells #[.int .i64 (n : Int), .int .u8 1, .slice none 0 0] 71))) := HK5.out.trans ((Kept.setCell w5 ⟨bo, 1, none⟩ _).trans (Kept.alloc _ _ _))
                        have hgl : wc.heap.size ≤ w5.heap.size := HB5.out.size
                        clear hmem ha5 hg5 hs5 HKA0 hlt
                        go_upto_region 37 with fail
                        clear d0 d1 d2 e0 e1 e2 m0 hh5
                        generalize (w5.setCell ⟨bo, 1, none⟩ (.slice (some ⟨w5.heap.size, 0, none⟩) 1 1)).alloc (.cells #[.int .i64 (n : Int), .int .u8 1, .slice none 0 0] 71) = wA at *
                        generalize w5.heap.size = gB at *
                        obtain ⟨d0, d1, d2, e0, e1, e2⟩ := three_cells HHA.out
                        have HHB2 := Lib.hid (set_last5 (v := .int .i64 (n : Int)) HHA.out)
                        have HHG2 := Lib.hid (((Kept.setCell wA ⟨bo, 2, none⟩ (.int .i64 (n : Int))).block gB (Array.getElem?_eq_some_iff.1 HHG.out).1 (fun e => by have e2 : gB = bo := e; omega)).trans HHG.out)
                        have HKC := Lib.hid (HKB.out.trans (Kept.setCell wA ⟨bo, 2, none⟩ (.int .i64 (n : Int))))
                        go_upto_region 40 with fail
                        clear d0 d1 d2 e0 e1 e2
                        generalize wA.setCell ⟨bo, 2, none⟩ (.int .i64 (n : Int)) = wB at *
                        have k0 : wB.cell? ⟨bo, 0, none⟩ = some (.slice oa on oc) := block_cell HHB2.out rfl
                        have k1 : wB.cell? ⟨bo, 1, none⟩ = some (.slice (some ⟨gB, 0, none⟩) 1 1) := block_cell HHB2.out rfl
                        have k2 : wB.cell? ⟨bo, 2, none⟩ = some (.int .i64 (n : Int)) := block_cell HHB2.out rfl
                        have HBFB : Below w.heap.size w wB := HBF.out.trans (HKC.out.below HBF.out.size (fun i hi e => by have e2 : i = bo := e; have := HBO.out; omega))
                        have hnet : NetO w00 wB (w.heap.size + 2) (.slice oa on oc) (.slice (some ⟨gB, 0, none⟩) 1 1) P2 [((n : Int), 1, [])] := ⟨⟨t8, (HJ8.out wB HKC.out).mono hsz3, HS8.out⟩, HMPP.out, ⟨_, const_row (HW00.out.trans (HBFB.mono h00s)) (by omega) HHG2.out (by omega) (by omega) (by omega), rfl⟩, by simp⟩
                        obtain ⟨⟨d0, d1, d2, e0, e1, e2⟩, hfin⟩ := net_put (w0 := w00) (o := (n : Int)) (HRCB.out wB HKC.out) HBFB hnet h00s (Nat.le_refl _)
                        have HFIN := Lib.hid hfin
                        clear hfin hnet HBFB
                        go_wp2
                        obtain ⟨⟨g0, g1, g2⟩, hno, hbe⟩ := HFIN.out
                        refine ⟨rfl, .agg #[.slice oa on oc, .slice (some ⟨gB, 0, none⟩) 1 1, .int .i64 (n : Int)], by simp [results, Try.f68, go_sem, g0, g1, g2], ?_⟩
                        unfold NetPostO
                        rw [HSN2.out]
                        exact ⟨_, _, rfl, hno, hbe⟩
                  · obtain rfl : z = (-1000000) := HZ.out.symm.trans (by decide)
                    have HSN2 : Hid (simpN P gs o a = (P2, [((xn : Int), 1, [])], (-(xn : Int)))) := by show _ = _; rw [HSN.out, HCN.out]; rfl
                    go_upto_region 34 with (first
                      | (go_at_call 33; refine HVA2.out.mono ?_; rintro e w4 ⟨u4, rfl, ho4, hb4⟩; have HO4 := Lib.hid ho4; have HB4 := Lib.hid hb4; have HZ4 := Lib.hid hb4.size; clear ho4 hb4)
                      | (go_at_call 45; refine (HMK.out w4 u4 _ HZ4.out HO4.out).mono ?_; rintro e w5 ⟨bu, rfl, hmk, hb5⟩; have HMU := Lib.hid hmk; have HB5 := Lib.hid (HB4.out.trans (hb5.mono HZ4.out)); clear hmk hb5))
                    have HK5 : Hid (Kept (fun i => i = bo) wc w5) := keptOf HB5.out
                    go_loopw [19] (fun v wr => ∃ n : Nat, 1 ≤ n ∧ n ≤ xn ∧ v = .int .i64 n ∧ w5 = wr) (fun v _ => xn - (intOf v).toNat)
                    case atStart => exact ⟨1, Nat.le_refl _, by omega, rfl, by trivial⟩
                    case round =>
                      obtain ⟨n, hn1, hn2, rfl, rfl⟩ := hrel
                      have hn : n < nM := by rw [nM_eq]; omega
                      have hi0 : (0 : Int) ≤ (n : Int) := by omega
                      have hi1 : (n : Int) < (nM : Int) := by omega
                      have hi2 : (n : Int) ≤ 65536 := by omega
                      have m0 := HMU.out.cell hn
                      by_cases hlt : n < xn
                      · have HNL := Lib.hid hlt
                        have hmem : decide ((n : Int) ∈ flatB P2) = true := decide_eq_true (HLEAST.out n (by omega) (by omega))
                        rw [hmem] at m0
                        clear hmem hlt
                        go_wp2
                        go_roundw
                        case rel => exact ⟨n + 1, by omega, HNL.out, by go_num, by trivial⟩
                        case measure => have := HNL.out; simp [intOf]; omega
                      · obtain rfl : n = xn := by omega
                        have hmem : decide ((n : Int) ∈ flatB P2) = false := decide_eq_false HX3.out
                        rw [hmem] at m0
                        have hh5 := (HB5.out.block bo hboc).trans HHB.out
                        have hb5 : bo < w5.heap.size := by have := HB5.out.size; omega
                        have ha5 : (w5.alloc (.cells #[.int .i64 (n : Int), .int .u8 1, .slice none 0 0] 71)).heap[bo]? = some (.cells #[.slice oa on oc, .slice none 0 0, .int .i64 (-1000000)] 25 (0, 0)) := by rw [Below.heap_alloc _ _ _ hb5]; exact hh5
                        have hg5 : (w5.alloc (.cells #[.int .i64 (n : Int), .int .u8 1, .slice none 0 0] 71)).heap[w5.heap.size]? = some (.cells #[.int .i64 (n : Int), .int .u8 1, .slice none 0 0] 71 (0, 0)) := heap_hit rfl
                        have hs5 : (w5.alloc (.cells #[.int .i64 (n : Int), .int .u8 1, .slice none 0 0] 71)).heap.size = w5.heap.size + 1 := by simp
                        have HKA0 : Hid (Kept (fun i => i = bo) wc (w5.alloc (.cells #[.int .i64 (n : Int), .int .u8 1, .slice none 0 0] 71))) := HK5.out.trans (Kept.alloc _ _ _)
                        obtain ⟨d0, d1, d2, e0, e1, e2⟩ := three_cells ha5
                        have HHA : Hid (((w5.setCell ⟨bo, 1, none⟩ (.slice (some ⟨w5.heap.size, 0, none⟩) 1 1)).alloc (.cells #[.int .i64 (n : Int), .int .u8 1, .slice none 0 0] 71)).heap[bo]? = some (.cells #[.slice oa on oc, .slice (some ⟨w5.heap.size, 0, none⟩) 1 1, .int .i64 (-1000000)] 25 (0, 0))) := by
                          show _ = _
                          rw [Below.heap_alloc _ _ _ (by simp [World.setCell]; omega)]
                          exact set_mid5 hh5
                        have HHG : Hid (((w5.setCell ⟨bo, 1, none⟩ (.slice (some ⟨w5.heap.size, 0, none⟩) 1 1)).alloc (.cells #[.int .i64 (n : Int), .int .u8 1, .slice none 0 0] 71)).heap[w5.heap.size]? = some (.cells #[.int .i64 (n : Int), .int .u8 1, .slice none 0 0] 71 (0, 0))) := heap_hit (by simp [World.setCell])
                        have HKB : Hid (Kept (fun i => i = bo) wc ((w5.setCell ⟨bo, 1, none⟩ (.slice (some ⟨w5.heap.size, 0, none⟩) 1 1)).alloc (.cells #[.int .i64 (n : Int), .int .u8 1, .slice none 0 0] 71))) := HK5.out.trans ((Kept.setCell w5 ⟨bo, 1, none⟩ _).trans (Kept.alloc _ _ _))
                        have hgl : wc.heap.size ≤ w5.heap.size := HB5.out.size
                        clear hmem ha5 hg5 hs5 HKA0 hlt
                        go_upto_region 37 with fail
                        clear d0 d1 d2 e0 e1 e2 m0 hh5
                        generalize (w5.setCell ⟨bo, 1, none⟩ (.slice (some ⟨w5.heap.size, 0, none⟩) 1 1)).alloc (.cells #[.int .i64 (n : Int), .int .u8 1, .slice none 0 0] 71) = wA at *
                        generalize w5.heap.size = gB at *
                        obtain ⟨d0, d1, d2, e0, e1, e2⟩ := three_cells HHA.out
                        have HHB2 := Lib.hid (set_last5 (v := .int .i64 (-(n : Int))) HHA.out)
                        have HHG2 := Lib.hid (((Kept.setCell wA ⟨bo, 2, none⟩ (.int .i64 (-(n : Int)))).block gB (Array.getElem?_eq_some_iff.1 HHG.out).1 (fun e => by have e2 : gB = bo := e; omega)).trans HHG.out)
                        have HKC := Lib.hid (HKB.out.trans (Kept.setCell wA ⟨bo, 2, none⟩ (.int .i64 (-(n : Int)))))
                        go_upto_region 40 with fail
                        clear d0 d1 d2 e0 e1 e2
                        generalize wA.setCell ⟨bo, 2, none⟩ (.int .i64 (-(n : Int))) = wB at *
                        have k0 : wB.cell? ⟨bo, 0, none⟩ = some (.slice oa on oc) := block_cell HHB2.out rfl
                        have k1 : wB.cell? ⟨bo, 1, none⟩ = some (.slice (some ⟨gB, 0, none⟩) 1 1) := block_cell HHB2.out rfl
                        have k2 : wB.cell? ⟨bo, 2, none⟩ = some (.int .i64 (-(n : Int))) := block_cell HHB2.out rfl
                        have HBFB : Below w.heap.size w wB := HBF.out.trans (HKC.out.below HBF.out.size (fun i hi e => by have e2 : i = bo := e; have := HBO.out; omega))
                        have hnet : NetO w00 wB (w.heap.size + 2) (.slice oa on oc) (.slice (some ⟨gB, 0, none⟩) 1 1) P2 [((n : Int), 1, [])] := ⟨⟨t8, (HJ8.out wB HKC.out).mono hsz3, HS8.out⟩, HMPP.out, ⟨_, const_row (HW00.out.trans (HBFB.mono h00s)) (by omega) HHG2.out (by omega) (by omega) (by omega), rfl⟩, by simp⟩
                        obtain ⟨⟨d0, d1, d2, e0, e1, e2⟩, hfin⟩ := net_put (w0 := w00) (o := (-(n : Int))) (HRCB.out wB HKC.out) HBFB hnet h00s (Nat.le_refl _)
                        have HFIN := Lib.hid hfin
                        clear hfin hnet HBFB
                        go_wp2
                        obtain ⟨⟨g0, g1, g2⟩, hno, hbe⟩ := HFIN.out
                        refine ⟨rfl, .agg #[.slice oa on oc, .slice (some ⟨gB, 0, none⟩) 1 1, .int .i64 (-(n : Int))], by simp [results, Try.f68, go_sem, g0, g1, g2], ?_⟩
                        unfold NetPostO
                        rw [HSN2.out]
                        exact ⟨_, _, rfl, hno, hbe⟩
                · rw [if_neg hc] at HSN
                  have hyv := HRC.out hc
                  have hyr := (varC_in hyv.1).1
                  have hzy : z = y := HZ.out.symm.trans (phi_id (by omega) (by omega))
                  subst hzy
                  have HRM := Lib.hid hyv.2
                  have hstl : st.length = t.length := by rw [← HST.out, shapeG_len]
                  have htl9 : t.length < 1000000 := HTL.out
                  have HGI : IsGates wc (.slice sa t.length sc) st := by
                    have h := (HRY.out wc (Kept.refl _ _)).gates (by omega)
                    rwa [HST.out] at h
                  have HRE := Lib.hid (reached5_any _ st z wc HGI (by omega) (by omega) (by omega) (by rw [abs5_var (by omega)]; exact hyv.1.2) (fun g hg => ⟨⟨by have := (HGST.out g hg).1; omega, (HGST.out g hg).1.2⟩, fun y hy => by have h9 := (HGST.out g hg).2.2 y hy; rw [abs5_var (by omega)]; exact h9.2⟩))
                  have HUS : Hid (usedG st z = shapeG (t.filter (inT st z))) := by show _ = _; rw [← HST.out]; exact (used_shape t z).symm
                  have hzp : (z == 1000000) = false := by rw [beq_eq_false_iff_ne]; omega
                  have hzm : (z == -1000000) = false := by rw [beq_eq_false_iff_ne]; omega
                  clear HGI hyv hc hstl HZ
                  go_upto_region 42 with (go_at_call 47; refine HRE.out.mono ?_; rintro e w10 ⟨br, rfl, hmk, hb10⟩; have HMR : Hid (Mk w10 wc.heap.size br (fun i => decide (i ∈ reachL st z))) := (hmk.congr (fun i _ _ => HRM.out i)); have HB10 := Lib.hid hb10; clear hmk hb10)
                  have HK10 : Hid (Kept (fun i => i = bo) wc w10) := keptOf HB10.out
                  have hh10 := (HB10.out.block bo hboc).trans HHB.out
                  have hs10 : wc.heap.size ≤ w10.heap.size := HB10.out.size
                  clear HRE HRM o0 o2
                  go_wp2
                  go_loopw [21] (fun i wr => ∃ (k : Nat) (v6 : Value), k ≤ t.length ∧ i = .int .i64 k ∧ wr.heap[bo]? = some (.cells #[.slice oa on oc, v6, .int .i64 z] 25 (0, 0)) ∧ wr.ownsRow w10.heap.size 71 3 v6 ((t.take k).filter (inT st z)).length (cellsG ((t.take k).filter (inT st z))) ∧ Kept (fun i => i = bo) w10 wr) (fun i _ => t.length - (intOf i).toNat)
                  case atStart => exact ⟨0, _, Nat.zero_le _, rfl, hh10, World.ownsRow_nil _ _ _ _, Kept.refl _ _⟩
                  case round =>
                    obtain ⟨k, v6, hk, rfl, hh, hrow, hkp⟩ := hrel
                    have HKK := Lib.hid hkp
                    have HKC := Lib.hid (HK10.out.trans hkp)
                    have HRT := Lib.hid (HRY.out wr HKC.out)
                    have HMRk : Hid (Mk wr wc.heap.size br (fun i => decide (i ∈ reachL st z))) := HMR.out.kept hkp (by have := HMR.out.lt.1; show ¬ br = bo; omega)
                    obtain ⟨a6, c6, rfl⟩ := row3_shape hrow
                    have HRO := Lib.hid hrow
                    have HHK := Lib.hid hh
                    have hs11 : w10.heap.size ≤ wr.heap.size := hkp.size
                    have hlen6 : ((t.take k).filter (inT st z)).length < 1000000 := by
                      have h2 := List.length_filter_le (inT st z) (t.take k)
                      rw [List.length_take] at h2
                      omega
                    have HL6 := Lib.hid hlen6
                    clear hkp hrow hh hlen6
                    by_cases hlt : k < t.length
                    · obtain ⟨gt, esa, hgB, hgL, g0, g1, g2⟩ := HRT.out.at hlt
                      obtain ⟨of0, hof⟩ : ∃ of0 : Nat, of0 = 0 := ⟨_, rfl⟩
                      obtain rfl : sa = some ⟨gt, of0, none⟩ := by rw [hof]; exact esa
                      have HOF0 := Lib.hid hof
                      clear esa hof
                      have hmem : t.getD k dT ∈ t := by simp [List.getD, hlt]
                      have HEL := Lib.hid (HRT.out.elems _ hmem)
                      have hx := (HGST.out _ (show ((t.getD k dT).1, (t.getD k dT).2.1, (t.getD k dT).2.2.2) ∈ st by rw [← HST.out]; exact List.mem_map_of_mem (f := fun x : Tg => (x.1, x.2.1, x.2.2.2)) hmem)).1
                      have HUT := Lib.hid (used_take st z hlt)
                      have HXR : Hid (∀ X, Kept (fun i => i = bo) wc X → X.cell? ⟨gt, of0 + k * 3, none⟩ = some (.int .i64 (t.getD k dT).1) ∧ X.cell? ⟨gt, of0 + k * 3 + 1, none⟩ = some (.int .u8 (t.getD k dT).2.1) ∧ X.cell? ⟨gt, of0 + k * 3 + 2, none⟩ = some (t.getD k dT).2.2.1) := fun X hX => by
                        obtain ⟨g', e, _, _, h0, h1, h2⟩ := (HRY.out X hX).at hlt
                        injection e with e
                        injection e with e
                        subst e
                        rw [HOF0.out, Nat.zero_add]
                        exact ⟨h0, h1, h2⟩
                      obtain ⟨ux, uc, hue⟩ := HEL.out.shape
                      have HKL := Lib.hid hlt
                      have hk0 : (0 : Int) ≤ (k : Int) := by omega
                      have hk1 : (k : Int) < (t.length : Int) := by omega
                      have hk2 : (k : Int) < 4000001 := by omega
                      clear hlt hmem hk
                      generalize t.getD k dT = y at *
                      obtain ⟨y1, y2, yu, y3⟩ := y
                      simp only at g0 g1 g2 HEL HUT hue hx HXR
                      subst hue
                      have q0 : wr.cell? ⟨gt, of0 + k * 3, none⟩ = some (.int .i64 y1) := by rw [HOF0.out, Nat.zero_add]; exact g0
                      have q1 : wr.cell? ⟨gt, of0 + k * 3 + 1, none⟩ = some (.int .u8 y2) := by rw [HOF0.out, Nat.zero_add]; exact g1
                      have q2 : wr.cell? ⟨gt, of0 + k * 3 + 2, none⟩ = some (.slice ux y3.length uc) := by rw [HOF0.out, Nat.zero_add]; exact g2
                      clear g0 g1 g2
                      obtain ⟨n, rfl⟩ := Int.eq_ofNat_of_zero_le (show 0 ≤ y1 by omega)
                      have hn : n < nM := by rw [nM_eq]; omega
                      have hn0 : (0 : Int) ≤ (n : Int) := by omega
                      have hn1 : (n : Int) < (nM : Int) := by omega
                      have m0 := HMRk.out.cell hn
                      cases hin : decide ((n : Int) ∈ reachL st z) with
                      | false =>
                        rw [hin] at m0 HUT
                        have HU2 : Hid ((t.take (k + 1)).filter (inT st z) = (t.take k).filter (inT st z)) := by show _ = _; rw [HUT.out, if_neg (by simp), List.append_nil]
                        clear HUT hin
                        go_wp2
                        go_roundw
                        case rel => exact ⟨k + 1, _, HKL.out, by go_num, HHK.out, by rw [HU2.out]; exact HRO.out, HKK.out⟩
                        case measure => have := HKL.out; simp [intOf]; omega
                      | true =>
                        rw [hin] at m0 HUT
                        have HU2 : Hid ((t.take (k + 1)).filter (inT st z) = (t.take k).filter (inT st z) ++ [((n : Int), y2, .slice ux y3.length uc, y3)]) := by show _ = _; rw [HUT.out, if_pos rfl]
                        clear HUT hin
                        generalize (t.take k).filter (inT st z) = T at *
                        obtain ⟨d0, d1, d2, e0, e1, e2⟩ := three_cells HHK.out
                        have HWD : Hid (Kept (fun i => i = bo) wc wr.drew) := HKC.out.trans (keptOf (Below.refl _ _).drew)
                        have HHD : Hid (wr.drew.heap[bo]? = some (.cells #[.slice oa on oc, .slice a6 T.length c6, .int .i64 z] 25 (0, 0))) := HHK.out
                        have HRD : Hid (wr.drew.ownsRow w10.heap.size 71 3 (.slice a6 T.length c6) T.length (cellsG T)) := HRO.out
                        have HKD : Hid (Kept (fun i => i = bo) w10 wr.drew) := HKK.out.trans (keptOf (Below.refl _ _).drew)
                        have HS10 : Hid (w10.heap.size ≤ wr.drew.heap.size) := hs11
                        have HBK : Hid (bo < w10.heap.size) := by show _ < _; omega
                        go_upto_region 46 with fail
                        go_wp2_with fail
                        refine wp_region_held_drew (S := fun X => Kept (fun i => i = bo) wc X) (by kernel_rfl) HWD.out (fun hSd => ?_)
                        clear q0 q1 q2 d0 d1 d2 e0 e1 e2 m0
                        generalize wr.drew = wd at *
                        refine takeC (i := 0) (v := .pointer (some ⟨bo, 1, none⟩)) (some 179) rfl rfl (by kernel_rfl) (by kernel_rfl) (by kernel_rfl) (fun _ _ _ h => h) (Or.inl ⟨by rfl, ?_⟩) (by assumption) ?_
                        · intro wz hSw; go_simp
                        try simp only [Act.put, List.setIfInBounds_toArray, List.set_cons_zero, List.set_cons_succ]
                        refine takeC (i := 2) (v := .slice (some ⟨gt, of0, none⟩) t.length sc) (some 181) rfl rfl (by kernel_rfl) (by kernel_rfl) (by kernel_rfl) (fun _ _ _ h => h) (Or.inl ⟨by rfl, ?_⟩) (by assumption) ?_
                        · intro wz hSw; go_simp
                        try simp only [Act.put, List.setIfInBounds_toArray, List.set_cons_zero, List.set_cons_succ]
                        refine takeC (i := 3) (v := .int .i64 (k : Int)) (some 182) rfl rfl (by kernel_rfl) (by kernel_rfl) (by kernel_rfl) (fun _ _ _ h => h) (Or.inl ⟨by rfl, ?_⟩) (by assumption) ?_
                        · intro wz hSw; go_simp
                        try simp only [Act.put, List.setIfInBounds_toArray, List.set_cons_zero, List.set_cons_succ]
                        refine takeC (i := 4) (v := .pointer (some ⟨gt, of0 + k * 3, none⟩)) (some 183) rfl rfl (by kernel_rfl) (by kernel_rfl) (by kernel_rfl) (fun _ _ _ h => h) (Or.inl ⟨by rfl, ?_⟩) (by assumption) ?_
                        · intro wz hSw; go_simp
                        try simp only [Act.put, List.setIfInBounds_toArray, List.set_cons_zero, List.set_cons_succ]
                        refine takeC (i := 5) (v := .agg #[.int .i64 (n : Int), .int .u8 y2, .slice ux y3.length uc]) (some 184) rfl rfl (by kernel_rfl) (by kernel_rfl) (by kernel_rfl) (fun _ _ _ h => h) (Or.inl ⟨by rfl, ?_⟩) (by assumption) ?_
                        · intro wz hSw; obtain ⟨t0, t1, t2⟩ := HXR.out wz hSw; go_simp
                        try simp only [Act.put, List.setIfInBounds_toArray, List.set_cons_zero, List.set_cons_succ]
                        clear hSd
                        obtain ⟨d0, d1, d2, e0, e1, e2⟩ := three_cells HHD.out
                        refine wpAnyH_ready (rs := [1, 6]) (by kernel_rfl) (by simp) ?_
                        refine AllReadyH.cons rfl (fun K hK => ?_) (AllReadyH.cons rfl (fun K hK => ?_) AllReadyH.nil)
                        · go_simp
                          refine hK.out _ _ HWD.out (fun hH1 => ?_)
                          clear hK K hH1
                          try simp only [Act.put, List.setIfInBounds_toArray, List.set_cons_zero, List.set_cons_succ]
                          refine wpAnyH_ready (rs := [6]) (by kernel_rfl) (by simp) ?_
                          refine AllReadyH.cons rfl (fun K hK => ?_) AllReadyH.nil
                          go_simp
                          have HB6 : Hid (Kept (fun i => i = bo) wc (wd.alloc (.cells #[.int .i64 (n : Int), .int .u8 y2, .slice ux y3.length uc] 71))) := HWD.out.trans (Kept.alloc _ _ _)
                          refine hK.out _ _ HB6.out (fun hH6 => ?_)
                          clear hK K hH6
                          try simp only [Act.put, List.setIfInBounds_toArray, List.set_cons_zero, List.set_cons_succ]
                          refine wpAnyH_ready (rs := [7]) (by kernel_rfl) (by simp) ?_
                          refine AllReadyH.cons rfl (fun K hK => ?_) AllReadyH.nil
                          refine step_appGateH rfl (.tmp 180) (.tmp 185) rfl w10.heap.size (.slice a6 T.length c6) T ((n : Int), y2, .slice ux y3.length uc, y3) wd.heap.size rfl rfl (row3_below HRD.out ((Below.refl wd.heap.size wd).alloc (Nat.le_refl _) _) (Nat.le_refl _)) (cell_fresh rfl) (cell_fresh rfl) (cell_fresh rfl) rfl HL6.out (by have := HS10.out; simp; omega) ?_
                          intro v9 w9 hrow9 hg9
                          obtain ⟨a9, c9, rfl⟩ := row3_shape hrow9
                          have HR9 := Lib.hid hrow9
                          have HH9 : Hid (w9.heap[bo]? = some (.cells #[.slice oa on oc, .slice a6 T.length c6, .int .i64 z] 25 (0, 0))) := (hg9.block bo (by have := HS10.out; have := HBK.out; simp; omega) (fun e => by have := (rowG_lt HRD.out bo e.symm).1; have := HBK.out; omega)).trans ((Below.heap_alloc _ _ _ (by have := HS10.out; have := HBK.out; omega)).trans HHD.out)
                          have HK9 : Hid (Kept (fun i => i = bo) w10 w9) := (HKD.out.trans (Kept.alloc _ _ _)).next (Kept.of_grown hg9) (fun i hi e => by have := (rowG_lt HRD.out i e).1; omega)
                          have HR9K : Hid ((w9.setCell ⟨bo, 1, none⟩ (.slice a9 (T ++ [((n : Int), y2, Value.slice ux y3.length uc, y3)]).length c9)).ownsRow w10.heap.size 71 3 (.slice a9 (T ++ [((n : Int), y2, Value.slice ux y3.length uc, y3)]).length c9) (T ++ [((n : Int), y2, Value.slice ux y3.length uc, y3)]).length (cellsG (T ++ [((n : Int), y2, Value.slice ux y3.length uc, y3)]))) := (Kept.setCell w9 ⟨bo, 1, none⟩ _).row HR9.out (fun g hg e => by have := (rowG_lt HR9.out g hg).1; have := HBK.out; have e2 : g = bo := e; omega)
                          have HREL : Hid (Kept (fun i => i = bo) w10 (w9.setCell ⟨bo, 1, none⟩ (.slice a9 (T ++ [((n : Int), y2, Value.slice ux y3.length uc, y3)]).length c9))) := HK9.out.trans (Kept.setCell w9 ⟨bo, 1, none⟩ _)
                          clear hrow9 hg9 d0 d1 d2 e0 e1 e2
                          obtain ⟨d0, d1, d2, e0, e1, e2⟩ := three_cells HH9.out
                          generalize HLT : (T ++ [((n : Int), y2, Value.slice ux y3.length uc, y3)]).length = LT at *
                          refine hK.out _ _ (HK10.out.trans HK9.out) (fun hH7 => ?_)
                          clear hK K
                          try simp only [Act.put, List.setIfInBounds_toArray, List.set_cons_zero, List.set_cons_succ]
                          refine takeC (i := 8) (v := .pointer (some ⟨bo, 1, none⟩)) (some 187) rfl rfl (by kernel_rfl) (by kernel_rfl) (by kernel_rfl) (fun _ _ _ h => h) (Or.inl ⟨by rfl, ?_⟩) (by assumption) ?_
                          · intro wz hSw; go_simp
                          try simp only [Act.put, List.setIfInBounds_toArray, List.set_cons_zero, List.set_cons_succ]
                          refine wpAnyH_ready (rs := [9]) (by kernel_rfl) (by simp) ?_
                          refine AllReadyH.cons rfl (fun K hK => ?_) AllReadyH.nil
                          go_simp
                          refine hK.out _ _ (HK10.out.trans HREL.out) (fun hH9 => ?_)
                          clear hK K hH9
                          try simp only [Act.put, List.setIfInBounds_toArray, List.set_cons_zero, List.set_cons_succ]
                          refine wpAnyH_done (by kernel_rfl) ?_ _
                          go_wp2
                          go_roundw
                          case rel => exact ⟨k + 1, _, HKL.out, by go_num, set_mid5 HH9.out, by rw [HU2.out, HLT]; exact HR9K.out, HREL.out⟩
                          case measure => have := HKL.out; simp [intOf]; omega
                        · go_simp
                          have HB6 : Hid (Kept (fun i => i = bo) wc (wd.alloc (.cells #[.int .i64 (n : Int), .int .u8 y2, .slice ux y3.length uc] 71))) := HWD.out.trans (Kept.alloc _ _ _)
                          refine hK.out _ _ HB6.out (fun hH6 => ?_)
                          clear hK K hH6
                          try simp only [Act.put, List.setIfInBounds_toArray, List.set_cons_zero, List.set_cons_succ]
                          have d1x : (wd.alloc (.cells #[.int .i64 (n : Int), .int .u8 y2, .slice ux y3.length uc] 71)).cell? ⟨bo, 1, none⟩ = some (.slice a6 T.length c6) := block_cell ((Below.heap_alloc _ _ _ (by have := HS10.out; have := HBK.out; omega)).trans HHD.out) rfl
                          refine wpAnyH_ready (rs := [1]) (by kernel_rfl) (by simp) ?_
                          refine AllReadyH.cons rfl (fun K hK => ?_) AllReadyH.nil
                          go_simp
                          refine hK.out _ _ HB6.out (fun hH1 => ?_)
                          clear hK K hH1
                          try simp only [Act.put, List.setIfInBounds_toArray, List.set_cons_zero, List.set_cons_succ]
                          clear d1x
                          refine wpAnyH_ready (rs := [7]) (by kernel_rfl) (by simp) ?_
                          refine AllReadyH.cons rfl (fun K hK => ?_) AllReadyH.nil
                          refine step_appGateH rfl (.tmp 180) (.tmp 185) rfl w10.heap.size (.slice a6 T.length c6) T ((n : Int), y2, .slice ux y3.length uc, y3) wd.heap.size rfl rfl (row3_below HRD.out ((Below.refl wd.heap.size wd).alloc (Nat.le_refl _) _) (Nat.le_refl _)) (cell_fresh rfl) (cell_fresh rfl) (cell_fresh rfl) rfl HL6.out (by have := HS10.out; simp; omega) ?_
                          intro v9 w9 hrow9 hg9
                          obtain ⟨a9, c9, rfl⟩ := row3_shape hrow9
                          have HR9 := Lib.hid hrow9
                          have HH9 : Hid (w9.heap[bo]? = some (.cells #[.slice oa on oc, .slice a6 T.length c6, .int .i64 z] 25 (0, 0))) := (hg9.block bo (by have := HS10.out; have := HBK.out; simp; omega) (fun e => by have := (rowG_lt HRD.out bo e.symm).1; have := HBK.out; omega)).trans ((Below.heap_alloc _ _ _ (by have := HS10.out; have := HBK.out; omega)).trans HHD.out)
                          have HK9 : Hid (Kept (fun i => i = bo) w10 w9) := (HKD.out.trans (Kept.alloc _ _ _)).next (Kept.of_grown hg9) (fun i hi e => by have := (rowG_lt HRD.out i e).1; omega)
                          have HR9K : Hid ((w9.setCell ⟨bo, 1, none⟩ (.slice a9 (T ++ [((n : Int), y2, Value.slice ux y3.length uc, y3)]).length c9)).ownsRow w10.heap.size 71 3 (.slice a9 (T ++ [((n : Int), y2, Value.slice ux y3.length uc, y3)]).length c9) (T ++ [((n : Int), y2, Value.slice ux y3.length uc, y3)]).length (cellsG (T ++ [((n : Int), y2, Value.slice ux y3.length uc, y3)]))) := (Kept.setCell w9 ⟨bo, 1, none⟩ _).row HR9.out (fun g hg e => by have := (rowG_lt HR9.out g hg).1; have := HBK.out; have e2 : g = bo := e; omega)
                          have HREL : Hid (Kept (fun i => i = bo) w10 (w9.setCell ⟨bo, 1, none⟩ (.slice a9 (T ++ [((n : Int), y2, Value.slice ux y3.length uc, y3)]).length c9))) := HK9.out.trans (Kept.setCell w9 ⟨bo, 1, none⟩ _)
                          clear hrow9 hg9 d0 d1 d2 e0 e1 e2
                          obtain ⟨d0, d1, d2, e0, e1, e2⟩ := three_cells HH9.out
                          generalize HLT : (T ++ [((n : Int), y2, Value.slice ux y3.length uc, y3)]).length = LT at *
                          refine hK.out _ _ (HK10.out.trans HK9.out) (fun hH7 => ?_)
                          clear hK K
                          try simp only [Act.put, List.setIfInBounds_toArray, List.set_cons_zero, List.set_cons_succ]
                          refine takeC (i := 8) (v := .pointer (some ⟨bo, 1, none⟩)) (some 187) rfl rfl (by kernel_rfl) (by kernel_rfl) (by kernel_rfl) (fun _ _ _ h => h) (Or.inl ⟨by rfl, ?_⟩) (by assumption) ?_
                          · intro wz hSw; go_simp
                          try simp only [Act.put, List.setIfInBounds_toArray, List.set_cons_zero, List.set_cons_succ]
                          refine wpAnyH_ready (rs := [9]) (by kernel_rfl) (by simp) ?_
                          refine AllReadyH.cons rfl (fun K hK => ?_) AllReadyH.nil
                          go_simp
                          refine hK.out _ _ (HK10.out.trans HREL.out) (fun hH9 => ?_)
                          clear hK K hH9
                          try simp only [Act.put, List.setIfInBounds_toArray, List.set_cons_zero, List.set_cons_succ]
                          refine wpAnyH_done (by kernel_rfl) ?_ _
                          go_wp2
                          go_roundw
                          case rel => exact ⟨k + 1, _, HKL.out, by go_num, set_mid5 HH9.out, by rw [HU2.out, HLT]; exact HR9K.out, HREL.out⟩
                          case measure => have := HKL.out; simp [intOf]; omega
                    · have HKE : Hid ((t.take k).filter (inT st z) = t.filter (inT st z)) := by show _ = _; rw [List.take_of_length_le (by omega)]
                      rw [HKE.out] at HRO HL6 HHK
                      have k0 : wr.cell? ⟨bo, 0, none⟩ = some (.slice oa on oc) := block_cell HHK.out rfl
                      have k1 : wr.cell? ⟨bo, 1, none⟩ = some (.slice a6 (t.filter (inT st z)).length c6) := block_cell HHK.out rfl
                      have k2 : wr.cell? ⟨bo, 2, none⟩ = some (.int .i64 z) := block_cell HHK.out rfl
                      have HBFB : Below w.heap.size w wr := HBF.out.trans (HKC.out.below HBF.out.size (fun i hi e => by have e2 : i = bo := e; have := HBO.out; omega))
                      have hrow : RowG w00 wr (w.heap.size + 2) (.slice a6 (t.filter (inT st z)).length c6) (t.filter (inT st z)) := ⟨HW00.out.trans (HBFB.mono h00s), by omega, row3_mono HRO.out (by omega), fun x hx => (HRT.out.elems x (List.mem_filter.1 hx).1).elim (fun e => .inl (e.mono (by have := HBS.out; have := HZ0.out; omega))) .inr, fun g hg => by
                        obtain ⟨x, hx, rfl⟩ := List.mem_map.1 hg
                        exact HRT.out.bd _ (List.mem_map_of_mem (f := fun x : Tg => (x.1, x.2.1, x.2.2.2)) (List.mem_filter.1 hx).1)⟩
                      have hnet : NetO w00 wr (w.heap.size + 2) (.slice oa on oc) (.slice a6 (t.filter (inT st z)).length c6) P2 (usedG st z) := ⟨⟨t8, (HJ8.out wr HKC.out).mono hsz3, HS8.out⟩, HMPP.out, ⟨_, hrow, HUS.out.symm⟩, by rw [HUS.out, shapeG_len]; have := HL6.out; omega⟩
                      obtain ⟨⟨d0, d1, d2, e0, e1, e2⟩, hfin⟩ := net_put (w0 := w00) (o := z) (HRCB.out wr HKC.out) HBFB hnet h00s (Nat.le_refl _)
                      have HFIN := Lib.hid hfin
                      clear hfin hnet HBFB hrow
                      go_wp2
                      obtain ⟨⟨g0, g1, g2⟩, hno, hbe⟩ := HFIN.out
                      refine ⟨rfl, .agg #[.slice oa on oc, .slice a6 (t.filter (inT st z)).length c6, .int .i64 z], by simp [results, Try.f68, go_sem, g0, g1, g2], ?_⟩
                      unfold NetPostO
                      rw [HSN.out]
                      exact ⟨_, _, rfl, hno, hbe⟩
end Go.Proofs.Yticcikelapifaaa
