/- Joined texts: CxRen, CxConc, CxAreaH, CxSimple, CxCof. -/
import Derived.Test.YtafenijbglcppaaK13
import Derived.Deep.RegionLaw
import Derived.Lib.AppendZeros
import Derived.Test.YtafenijbglcppaaK03
/- circ.size and circ.renamed. -/
namespace Go.Proofs.Ytafenijbglcppaa
open Go.RowKit
set_option linter.unusedVariables false
set_option linter.unusedSimpArgs false

theorem sizeG_take {gs : List Gt} {k : Nat} (h : k < gs.length) : sizeG (gs.take (k + 1)) = sizeG (gs.take k) + (gs.getD k dG).2.2.length := by
  unfold sizeG
  rw [gates_take h]
  simp
theorem sizeG_le (gs : List Gt) (k : Nat) : sizeG (gs.take k) ≤ sizeG gs := by
  have h2 : sizeG (gs.take k ++ gs.drop k) = sizeG (gs.take k) + sizeG (gs.drop k) := by
    unfold sizeG
    rw [List.map_append, List.sum_append]
  rw [List.take_append_drop] at h2
  omega
set_option maxRecDepth 100000 in
set_option maxHeartbeats 1600000 in
theorem csize_any (vg : Value) (gs : List Gt) (w : World) (HG : IsGates w vg gs) (hs : sizeG gs ≤ 4000000) (hl : gs.length < 1000000) :
    Calls Try.prog 15 #[vg] w fun e w' => e = .returned (.int .i64 (sizeG gs : Int)) ∧ Below w.heap.size w w' := by
  have HGW := Lib.hid HG
  have HSL := Lib.hid hs
  obtain ⟨ga, gc, rfl, _⟩ := HG.shape
  clear HG hs
  go_enter Try.func15, Try.ntmps15
  go_wp2
  go_loopw [3, 8] (fun n i wr => ∃ k : Nat, k ≤ gs.length ∧ i = .int .i64 k ∧ n = .int .i64 (sizeG (gs.take k) : Int) ∧ Below w.heap.size w wr) (fun _ i _ => gs.length - (intOf i).toNat)
  case atStart => exact ⟨0, Nat.zero_le _, rfl, rfl, Below.refl _ _⟩
  case round =>
    obtain ⟨k, hk, rfl, rfl, hbel⟩ := hrel
    have HB := Lib.hid hbel
    have hszr := hbel.size
    clear hbel
    by_cases hlt : k < gs.length
    · obtain ⟨b, off, u, rfl, hb, hcx0, hck0, hcu0, HU0, _⟩ := HGW.out.at hlt
      have hcx := (HB.out.cell (p := ⟨b, off + k * 3, none⟩) hb).trans hcx0
      have hck := (HB.out.cell (p := ⟨b, off + k * 3 + 1, none⟩) hb).trans hck0
      have hcu := (HB.out.cell (p := ⟨b, off + k * 3 + 2, none⟩) hb).trans hcu0
      have HST := Lib.hid (sizeG_take hlt)
      have hle1 : sizeG (gs.take (k + 1)) ≤ 4000000 := Nat.le_trans (sizeG_le gs _) HSL.out
      rw [HST.out] at hle1
      obtain ⟨ua, uc, rfl⟩ := HU0.shape
      have hk0 : (0 : Int) ≤ (k : Int) := by omega
      have hk1 : (k : Int) < (gs.length : Int) := by omega
      have hk2 : (k : Int) < 4000001 := by omega
      have HKL := Lib.hid hlt
      clear hcx0 hck0 hcu0 HU0 hlt
      generalize gs.getD k dG = y at *
      obtain ⟨y1, y2, y3⟩ := y
      simp only at hcx hck hcu HST hle1
      generalize sizeG (gs.take k) = s at *
      have hs0 : (0 : Int) ≤ (s : Int) + (y3.length : Int) := by omega
      have hs1 : (s : Int) + (y3.length : Int) < 9223372036854775808 := by omega
      have HBA := Lib.hid (HB.out.alloc hszr (.cells #[.int .i64 y1, .int .u8 y2, .slice ua y3.length uc] 34))
      clear hle1
      go_wp2
      go_roundw
      case rel => exact ⟨k + 1, HKL.out, by go_num, by rw [HST.out]; go_num, HBA.out⟩
      case measure => have := HKL.out; simp [intOf]; omega
    · obtain rfl : k = gs.length := by omega
      rw [List.take_length]
      go_wp2
      go_ret
      exact ⟨rfl, HB.out⟩

/-- 'append(out, Gate{..})' as a step of a region that draws its order. -/
theorem step_appGate {ops : Array Oper} {o : Oper} {a : Act} {w : World} {K : Act → World → Prop} {Q : Exit → Act → World → Prop} {E : Prop} (d : Option Tmp) (hd : o.dst = d) (hgd : o.guard = none) (s x : Operand)
    (ho : o.op = .call { callee := .builtin .append, args := #[s, x], argTypes := #[23, 23] }) (B : Nat) (v : Value) (t : List Tg) (y : Tg) (g : Nat)
    (hs : a.eval s = v) (hx : a.eval x = .slice (some ⟨g, 0, none⟩) 1 1) (hrow : w.ownsRow B 34 3 v t.length (cellsG t)) (h0 : w.cell? ⟨g, 0, none⟩ = some (.int .i64 y.1)) (h1 : w.cell? ⟨g, 1, none⟩ = some (.int .u8 y.2.1)) (h2 : w.cell? ⟨g, 2, none⟩ = some y.2.2.1) (hu1 : y.2.2.1.oneCell' = true) (hlen : t.length < 1000000) (hB : B ≤ w.heap.size)
    (h : ∀ v' w', w'.ownsRow B 34 3 v' (t ++ [y]).length (cellsG (t ++ [y])) → w.grownBy w' v.ownBlock → K (a.put d v') w') :
    if Region.wanted o (yielded ops a.tmps) = true then Oper.wp Try.prog o a w K Q else E := by
  subst hd
  have hw : Region.wanted o (yielded ops a.tmps) = true := by simp [Region.wanted, hgd]
  rw [if_pos hw]
  obtain ⟨i0, hi, hz0, hz1, hz2⟩ := info_parts info_gate
  obtain ⟨v', w', hr, h4, h3, _, _⟩ := run_append_own_at (P := Try.prog) w B 23 o.type 34 i0 (.agg #[.int .i64 0, .int .u8 0, .slice none 0 0]) 3 40 Try.underlying23 hi hz0 hz1 hz2 rfl (by decide) v t.length _ hrow ⟨g, 0, none⟩ 1 1 [.int .i64 y.1, .int .u8 y.2.1, y.2.2.1] (by simp) (fun j z hj => by
    match j, hj with
    | 0, hj => simp at hj; subst hj; simpa [Addr.add] using h0
    | 1, hj => simp at hj; subst hj; simpa [Addr.add] using h1
    | 2, hj => simp at hj; subst hj; simpa [Addr.add] using h2) (fun z hz => by
    rcases List.mem_cons.1 hz with hz | hz
    · rw [hz]; rfl
    · rcases List.mem_cons.1 hz with hz | hz
      · rw [hz]; rfl
      · rw [List.mem_singleton] at hz
        rw [hz]; exact hu1) (by unfold maxLen; omega) (by omega) hB
  unfold Oper.wp execOp
  simp only [ho, resolve, invoke, builtin, Sem.run_bind, Sem.run_pure, Result.andThen_ok, List.map_toArray, List.map_cons, List.map_nil, hs, hx, hr]
  refine h v' w' ?_ h3
  rw [List.length_append, cellsG_app]
  exact h4
theorem renG_take {f : Int → Option Int} {gs : List Gt} {k : Nat} (h : k < gs.length) : renG f (gs.take (k + 1)) = renG f (gs.take k) ++ [(imageF f (gs.getD k dG).1, (gs.getD k dG).2.1, (gs.getD k dG).2.2.map (imageF f))] := by
  unfold renG
  rw [gates_take h, List.map_append]
  rfl

set_option maxRecDepth 100000 in
set_option maxHeartbeats 3200000 in
theorem crenamed_any (w0 : World) (b n : Nat) (f : Int → Option Int) (vg : Value) (gs : List Gt) (w : World) (hm : MapM w b n f) (hf : fBd f) (HG : IsGates w vg gs) (hl : gs.length < 1000000) (h0 : Below w0.heap.size w0 w) :
    Calls Try.prog 25 #[vg, .map (some b)] w fun e w' => ∃ v t, e = .returned v ∧ RowG w0 w' w.heap.size v t ∧ shapeG t = renG f gs ∧ Below w.heap.size w w' := by
  have HGW := Lib.hid HG
  have HMM := Lib.hid hm
  have HF := Lib.hid hf
  have H0 := Lib.hid h0
  have h0s := h0.size
  obtain ⟨ga, gc, rfl, _⟩ := HG.shape
  clear HG hm hf h0
  go_enter Try.func25, Try.ntmps25
  go_wp2
  go_loopw [5, 10] (fun out i wr => ∃ (k : Nat) (t : List Tg), k ≤ gs.length ∧ i = .int .i64 k ∧ RowG w0 wr w.heap.size out t ∧ shapeG t = renG f (gs.take k) ∧ Below w.heap.size w wr) (fun _ i _ => gs.length - (intOf i).toNat)
  case atStart => exact ⟨0, [], Nat.zero_le _, rfl, RowG.nil H0.out h0s, rfl, Below.refl _ _⟩
  case round =>
    obtain ⟨k, t, hk, rfl, hrow, hsh, hbel⟩ := hrel
    have HRW := Lib.hid hrow
    have HSH := Lib.hid hsh
    have HB := Lib.hid hbel
    have hszr := hbel.size
    obtain ⟨oa, oc, rfl⟩ := hrow.shape
    have HTL : Hid (t.length < 1000000) := by
      show _ < _
      have h1 := congrArg List.length hsh
      rw [shapeG_len] at h1
      unfold renG at h1
      rw [List.length_map, List.length_take] at h1
      omega
    clear hrow hsh hbel
    by_cases hlt : k < gs.length
    · obtain ⟨pb, off, u, rfl, hb, hcx0, hck0, hcu0, HU0, hrg⟩ := HGW.out.at hlt
      have hcx := (HB.out.cell (p := ⟨pb, off + k * 3, none⟩) hb).trans hcx0
      have hck := (HB.out.cell (p := ⟨pb, off + k * 3 + 1, none⟩) hb).trans hck0
      have hcu := (HB.out.cell (p := ⟨pb, off + k * 3 + 2, none⟩) hb).trans hcu0
      have HST := Lib.hid (renG_take (f := f) hlt)
      have HGB := Lib.hid (HGW.out.bd _ (show gs.getD k dG ∈ gs by simp [List.getD, hlt]))
      have HU := Lib.hid HU0
      obtain ⟨ua, uc, rfl⟩ := HU0.shape
      have hk0 : (0 : Int) ≤ (k : Int) := by omega
      have hk1 : (k : Int) < (gs.length : Int) := by omega
      have hk2 : (k : Int) < 4000001 := by omega
      have HKL := Lib.hid hlt
      clear hcx0 hck0 hcu0 HU0 hlt
      generalize gs.getD k dG = y at *
      obtain ⟨y1, y2, y3⟩ := y
      simp only at hcx hck hcu HU hrg HST HGB
      have hx1 := hrg.1.1
      have hx2 := hrg.1.2
      have HIB := Lib.hid (imageF_bd HF.out hx1 hx2)
      have HL64 : Hid (In64 (y3.map (imageF f)) ∧ (y3.map (imageF f)).length ≤ 17592186044416) := ⟨fun z hz => by
        obtain ⟨q, hq, rfl⟩ := List.mem_map.1 hz
        exact imageF_bd HF.out (HGB.out.2.2.2 q hq).1 (HGB.out.2.2.2 q hq).2, by rw [List.length_map]; exact HGB.out.2.2.1⟩
      have HIM : Hid (∀ X, Below wr.heap.size wr X → Calls Try.prog 45 #[.slice ua y3.length uc, .map (some b)] X (RetOwn X (y3.map (imageF f)))) := fun X hX => by
        have hw := HB.out.trans (hX.mono hszr)
        exact cimages_any b n f _ y3 X (HMM.out.below hw (Nat.le_refl _)) HF.out (HU.out.below hw (Nat.le_refl _))
      have HI1 : Hid (∀ X, Below wr.heap.size wr X → Calls Try.prog 23 #[.int .i64 y1, .map (some b)] X fun e w' => e = .returned (.int .i64 (imageF f y1)) ∧ X = w') := fun X hX => cimage_any b n f y1 X (HMM.out.below (HB.out.trans (hX.mono hszr)) (Nat.le_refl _)) HF.out hx1 hx2
      generalize y3.map (imageF f) = L at *
      generalize imageF f y1 = z1 at *
      have ha1 : Below wr.heap.size wr (wr.alloc (.cells #[.int .i64 y1, .int .u8 y2, .slice ua y3.length uc] 34)) := (Below.refl _ _).alloc (Nat.le_refl _) _
      have HA1 := Lib.hid ha1
      have HRA := Lib.hid (HRW.out.below' ha1 (Nat.le_refl _))
      have hsw : (wr.alloc (.cells #[.int .i64 y1, .int .u8 y2, .slice ua y3.length uc] 34)).heap.size > wr.heap.size := by simp
      have a0 : (wr.alloc (.cells #[.int .i64 y1, .int .u8 y2, .slice ua y3.length uc] 34)).cell? ⟨wr.heap.size, 0, none⟩ = some (.int .i64 y1) := cell_fresh rfl
      have a1 : (wr.alloc (.cells #[.int .i64 y1, .int .u8 y2, .slice ua y3.length uc] 34)).cell? ⟨wr.heap.size, 1, none⟩ = some (.int .u8 y2) := cell_fresh rfl
      have a2 : (wr.alloc (.cells #[.int .i64 y1, .int .u8 y2, .slice ua y3.length uc] 34)).cell? ⟨wr.heap.size, 2, none⟩ = some (.slice ua y3.length uc) := cell_fresh rfl
      clear ha1
      go_upto_region 5 with fail
      clear hcx hck hcu
      generalize wr.alloc (.cells #[.int .i64 y1, .int .u8 y2, .slice ua y3.length uc] 34) = wa at *
      obtain ⟨gb, hgb⟩ : ∃ gb, wr.heap.size = gb := ⟨_, rfl⟩
      rw [hgb] at hsw a0 a1 a2 ⊢
      have HGBE := Lib.hid hgb
      clear hgb
      have HT0 : Hid (Below w.heap.size w wa) := HB.out.trans (HA1.out.mono hszr)
      have hwb : w.heap.size ≤ wa.heap.size := HT0.out.size
      have HGB2 : Hid (wr.heap.size = gb) := HGBE.out
      have hrlt : Hid (∀ g, (Value.slice oa t.length oc).ownBlock = some g → g ≠ gb) := fun g hg e => by have h1 := (rowG_lt HRW.out.row g hg).2; have h2 := HGBE.out; omega
      have HXC : Hid (∀ X : World, X.heap[gb]? = wa.heap[gb]? → X.cell? ⟨gb, 0, none⟩ = some (.int .i64 y1) ∧ X.cell? ⟨gb, 1, none⟩ = some (.int .u8 y2) ∧ X.cell? ⟨gb, 2, none⟩ = some (.slice ua y3.length uc)) := fun X hX =>
        ⟨(World.cell?_of_block (w := wa) (a := ⟨gb, 0, none⟩) hX).trans a0, (World.cell?_of_block (w := wa) (a := ⟨gb, 1, none⟩) hX).trans a1, (World.cell?_of_block (w := wa) (a := ⟨gb, 2, none⟩) hX).trans a2⟩
      clear a0 a1 a2
      go_wp2_with fail
      have hWd : Below wa.heap.size wa wa.drew := (Below.refl _ _).drew
      have HWD := Lib.hid hWd
      refine wp_region_held_drew (S := fun X => X.heap[gb]? = wa.heap[gb]? ∧ Below w.heap.size w X) (by kernel_rfl) ⟨(HWD.out).block gb hsw, HT0.out.trans ((HWD.out).mono hwb)⟩ (fun hSd => ?_)
      clear hWd
      generalize wa.drew = wd at *
      refine takeC (i := 0) (v := .slice oa t.length oc) (some 14) rfl rfl (by kernel_rfl) (by kernel_rfl) (by kernel_rfl) (fun _ _ _ h => h) (Or.inl ⟨by rfl, ?_⟩) (by assumption) ?_
      · intro wz hSw; obtain ⟨r0, r1, r2⟩ := HXC.out wz hSw.1; go_simp
      try simp only [Act.put, List.setIfInBounds_toArray, List.set_cons_zero, List.set_cons_succ]
      refine takeC (i := 1) (v := .pointer (some ⟨gb, 0, none⟩)) (some 15) rfl rfl (by kernel_rfl) (by kernel_rfl) (by kernel_rfl) (fun _ _ _ h => h) (Or.inl ⟨by rfl, ?_⟩) (by assumption) ?_
      · intro wz hSw; obtain ⟨r0, r1, r2⟩ := HXC.out wz hSw.1; go_simp
      try simp only [Act.put, List.setIfInBounds_toArray, List.set_cons_zero, List.set_cons_succ]
      refine takeC (i := 2) (v := .int .i64 y1) (some 16) rfl rfl (by kernel_rfl) (by kernel_rfl) (by kernel_rfl) (fun _ _ _ h => h) (Or.inl ⟨by rfl, ?_⟩) (by assumption) ?_
      · intro wz hSw; obtain ⟨r0, r1, r2⟩ := HXC.out wz hSw.1; go_simp
      try simp only [Act.put, List.setIfInBounds_toArray, List.set_cons_zero, List.set_cons_succ]
      refine takeC (i := 3) (v := .map (some b)) (some 17) rfl rfl (by kernel_rfl) (by kernel_rfl) (by kernel_rfl) (fun _ _ _ h => h) (Or.inl ⟨by rfl, ?_⟩) (by assumption) ?_
      · intro wz hSw; obtain ⟨r0, r1, r2⟩ := HXC.out wz hSw.1; go_simp
      try simp only [Act.put, List.setIfInBounds_toArray, List.set_cons_zero, List.set_cons_succ]
      refine takeC (i := 5) (v := .pointer (some ⟨gb, 1, none⟩)) (some 19) rfl rfl (by kernel_rfl) (by kernel_rfl) (by kernel_rfl) (fun _ _ _ h => h) (Or.inl ⟨by rfl, ?_⟩) (by assumption) ?_
      · intro wz hSw; obtain ⟨r0, r1, r2⟩ := HXC.out wz hSw.1; go_simp
      try simp only [Act.put, List.setIfInBounds_toArray, List.set_cons_zero, List.set_cons_succ]
      refine takeC (i := 6) (v := .int .u8 y2) (some 20) rfl rfl (by kernel_rfl) (by kernel_rfl) (by kernel_rfl) (fun _ _ _ h => h) (Or.inl ⟨by rfl, ?_⟩) (by assumption) ?_
      · intro wz hSw; obtain ⟨r0, r1, r2⟩ := HXC.out wz hSw.1; go_simp
      try simp only [Act.put, List.setIfInBounds_toArray, List.set_cons_zero, List.set_cons_succ]
      refine takeC (i := 7) (v := .pointer (some ⟨gb, 2, none⟩)) (some 21) rfl rfl (by kernel_rfl) (by kernel_rfl) (by kernel_rfl) (fun _ _ _ h => h) (Or.inl ⟨by rfl, ?_⟩) (by assumption) ?_
      · intro wz hSw; obtain ⟨r0, r1, r2⟩ := HXC.out wz hSw.1; go_simp
      try simp only [Act.put, List.setIfInBounds_toArray, List.set_cons_zero, List.set_cons_succ]
      refine takeC (i := 8) (v := .slice ua y3.length uc) (some 22) rfl rfl (by kernel_rfl) (by kernel_rfl) (by kernel_rfl) (fun _ _ _ h => h) (Or.inl ⟨by rfl, ?_⟩) (by assumption) ?_
      · intro wz hSw; obtain ⟨r0, r1, r2⟩ := HXC.out wz hSw.1; go_simp
      try simp only [Act.put, List.setIfInBounds_toArray, List.set_cons_zero, List.set_cons_succ]
      refine takeC (i := 9) (v := .map (some b)) (some 23) rfl rfl (by kernel_rfl) (by kernel_rfl) (by kernel_rfl) (fun _ _ _ h => h) (Or.inl ⟨by rfl, ?_⟩) (by assumption) ?_
      · intro wz hSw; obtain ⟨r0, r1, r2⟩ := HXC.out wz hSw.1; go_simp
      try simp only [Act.put, List.setIfInBounds_toArray, List.set_cons_zero, List.set_cons_succ]
      refine wpAnyH_ready (rs := [4]) (by kernel_rfl) (by simp) ?_
      refine AllReadyH.cons rfl (fun K hK => ?_) AllReadyH.nil
      go_simp
      go_wp2_with (go_at_call 23; go_loud (refine (HI1.out (wd) (HA1.out.trans ((HWD.out).mono HA1.out.size))).mono ?_; rintro e w6 ⟨rfl, rfl⟩))
      refine hK.out _ _ ⟨(HWD.out).block gb hsw, HT0.out.trans ((HWD.out).mono hwb)⟩ (fun hH6 => ?_)
      clear hK K
      try simp only [Act.put, List.setIfInBounds_toArray, List.set_cons_zero, List.set_cons_succ]
      refine wpAnyH_ready (rs := [10]) (by kernel_rfl) (by simp) ?_
      refine AllReadyH.cons rfl (fun K hK => ?_) AllReadyH.nil
      go_simp
      go_wp2_with (go_at_call 45; go_loud (refine (HIM.out (wd) (HA1.out.trans ((HWD.out).mono HA1.out.size))).mono ?_; rintro e w7 ⟨v7, rfl, ho7, hb7⟩; have HO7 := Lib.hid ho7; have HB7 := Lib.hid ((HWD.out).trans (hb7.mono (HWD.out).size)); obtain ⟨va7, vc7, rfl⟩ := own_shC ho7; clear ho7 hb7))
      refine hK.out _ _ ⟨(HB7.out).block gb hsw, HT0.out.trans ((HB7.out).mono hwb)⟩ (fun hH7 => ?_)
      clear hK K
      try simp only [Act.put, List.setIfInBounds_toArray, List.set_cons_zero, List.set_cons_succ]
      refine takeC (i := 11) (v := .agg #[.int .i64 z1, .int .u8 y2, .slice va7 L.length vc7]) (some 25) rfl rfl (by kernel_rfl) (by kernel_rfl) (by kernel_rfl) (fun _ _ _ h => h) (Or.inl ⟨by rfl, ?_⟩) (by assumption) ?_
      · intro wz hSw; go_simp
      try simp only [Act.put, List.setIfInBounds_toArray, List.set_cons_zero, List.set_cons_succ]
      refine wpAnyH_ready (rs := [12]) (by kernel_rfl) (by simp) ?_
      refine AllReadyH.cons rfl (fun K hK => ?_) AllReadyH.nil
      go_simp
      have HB8 : Hid (Below wa.heap.size wa (w7.alloc (.cells #[.int .i64 z1, .int .u8 y2, .slice va7 L.length vc7] 34))) := HB7.out.alloc HB7.out.size _
      refine hK.out _ _ ⟨HB8.out.block gb hsw, HT0.out.trans (HB8.out.mono hwb)⟩ (fun hH8 => ?_)
      clear hK K
      try simp only [Act.put, List.setIfInBounds_toArray, List.set_cons_zero, List.set_cons_succ]
      refine wpAnyH_ready (rs := [13]) (by kernel_rfl) (by simp) ?_
      refine AllReadyH.cons rfl (fun K hK => ?_) AllReadyH.nil
      have HR8 : Hid (RowG w0 (w7.alloc (.cells #[.int .i64 z1, .int .u8 y2, .slice va7 L.length vc7] 34)) w.heap.size (.slice oa t.length oc) t) := HRA.out.below' HB8.out (Nat.le_refl _)
      refine step_appGate (some 27) rfl rfl (.tmp 14) (.tmp 26) rfl w.heap.size (.slice oa t.length oc) t (z1, y2, .slice va7 L.length vc7, L) w7.heap.size rfl rfl HR8.out.row (cell_fresh rfl) (cell_fresh rfl) (cell_fresh rfl) rfl HTL.out (by have := HB7.out.size; simp; omega) ?_
      intro v9 w9 hrow9 hg9
      have HRN := Lib.hid (RowG.more (s := [(z1, y2, .slice va7 L.length vc7, L)]) HRA.out hwb HB8.out (fun z hz => by
        rw [List.mem_singleton] at hz
        subst hz
        exact .inl ((HO7.out.alloc _).mono (by have := HWD.out.size; omega))) (fun g hg => by
        simp [shapeG] at hg
        subst hg
        exact ⟨HIB.out, HGB.out.2.1, HL64.out.2, HL64.out.1⟩) hrow9 hg9)
      have HBN := Lib.hid ((HT0.out.trans (HB8.out.mono hwb)).grown hg9 (by have := HB7.out.size; simp; omega) (fun g hg => (rowG_lt HRA.out.row g hg).1))
      have hgb9 : w9.heap[gb]? = wa.heap[gb]? := (hg9.block gb (by have := HB7.out.size; simp; omega) (fun e => hrlt.out gb e.symm rfl)).trans (HB8.out.block gb hsw)
      have HSN : Hid (shapeG (t ++ [(z1, y2, Value.slice va7 L.length vc7, L)]) = renG f (gs.take (k + 1))) := by show _ = _; rw [shapeG_app, HST.out, HSH.out]; rfl
      refine hK.out _ _ ⟨hgb9, HBN.out⟩ (fun hH9 => ?_)
      clear hK K hgb9 hrow9 hg9
      try simp only [Act.put, List.setIfInBounds_toArray, List.set_cons_zero, List.set_cons_succ]
      obtain ⟨a9, c9, e9⟩ := HRN.out.shape
      subst e9
      refine takeC (i := 14) (v := .slice a9 (t ++ [(z1, y2, Value.slice va7 L.length vc7, L)]).length c9) (some 5) rfl rfl (by kernel_rfl) (by kernel_rfl) (by kernel_rfl) (fun _ _ _ h => h) (Or.inl ⟨by rfl, ?_⟩) (by assumption) ?_
      · intro wz hSw; go_simp
      try simp only [Act.put, List.setIfInBounds_toArray, List.set_cons_zero, List.set_cons_succ]
      refine wpAnyH_done (by kernel_rfl) ?_ _
      go_wp2
      go_roundw
      case rel => exact ⟨k + 1, _, HKL.out, by go_num, HRN.out, HSN.out, HBN.out⟩
      case measure => have := HKL.out; simp [intOf]; omega
    · obtain rfl : k = gs.length := by omega
      rw [List.take_length] at HSH
      go_wp2
      go_ret
      exact ⟨_, t, rfl, HRW.out, HSH.out, HB.out⟩
end Go.Proofs.Ytafenijbglcppaa

/- slices.Grow of nil and slices.Concat over gates. -/
namespace Go.Proofs.Ytafenijbglcppaa
open Go.RowKit
set_option linter.unusedVariables false
set_option linter.unusedSimpArgs false

theorem rowG_empty {w : World} {B g cap : Nat} {cur : Array Value} (hg : B ≤ g) (hh : w.heap[g]? = some (.cells cur 34 (0, 0))) (hc : cur.size = cap * 3) (hm : cap ≤ maxLen) : w.ownsRow B 34 3 (.slice (some ⟨g, 0, none⟩) 0 cap) 0 (cellsG []) :=
  ⟨rfl, .inr ⟨g, cap, cur, rfl, hg, hh, Nat.zero_le _, hm, hc, by simp [cellsG]⟩⟩

set_option maxRecDepth 100000 in
set_option maxHeartbeats 1600000 in
theorem growG_any (n : Nat) (w : World) (h0 : 0 < n) (hn : n ≤ 1000000) :
    Calls Try.prog 48 #[.slice none 0 0, .int .i64 n] w fun e w' => ∃ a c, e = .returned (.slice a 0 c) ∧ w'.ownsRow w.heap.size 34 3 (.slice a 0 c) 0 (cellsG []) ∧ Below w.heap.size w w' := by
  obtain ⟨i0, hi, hz0, hz1, hz2⟩ := info_parts info_gate
  have hr := fun ty => Lib.run_append_nil_zeros (P := Try.prog) w 23 3 ty 34 i0 (.agg #[.int .i64 0, .int .u8 0, .slice none 0 0]) .i64 .i64 Try.underlying23 Try.underlying3 hi hz0 n h0 (by rw [hz1]; omega) (by omega) (by rw [hz2]; omega)
  have HR := Lib.hid hr
  have HGE := Lib.hid (grownCap_ge w n 0 34)
  have HLE := Lib.hid (grownCap_le_maxLen w n 0 34 (by unfold maxLen; omega))
  have hW : Hid (∀ cap, n ≤ cap → cap ≤ maxLen → (w.drew.alloc (.cells (Builtin.zeroCells (Value.agg #[.int .i64 0, .int .u8 0, .slice none 0 0]).cells n ++ Builtin.zeroCells (Value.agg #[.int .i64 0, .int .u8 0, .slice none 0 0]).cells (cap - n)) 34)).ownsRow w.heap.size 34 3 (.slice (some ⟨w.heap.size, 0, none⟩) 0 cap) 0 (cellsG []) ∧ Below w.heap.size w (w.drew.alloc (.cells (Builtin.zeroCells (Value.agg #[.int .i64 0, .int .u8 0, .slice none 0 0]).cells n ++ Builtin.zeroCells (Value.agg #[.int .i64 0, .int .u8 0, .slice none 0 0]).cells (cap - n)) 34))) := fun cap h1 h2 => by
    refine ⟨rowG_empty (Nat.le_refl _) (World.alloc_heap_new w.drew _) ?_ h2, ((Below.refl w.heap.size w).drew).alloc (Nat.le_refl _) _⟩
    rw [Array.size_append, size_zeroCells, size_zeroCells]
    simp [Value.cells]
    omega
  have hn0 : (0 : Int) < (n : Int) := by omega
  have hw1 : wrap64 (n : Int) = n := by
    obtain ⟨mi, hmi⟩ : ∃ x : Int, (n : Int) = x := ⟨_, rfl⟩
    rw [hmi]
    exact wrap64s (by omega) (by omega)
  have hn1 : ¬ (n : Int) < 0 := by omega
  clear hr
  obtain ⟨ni, hni⟩ : ∃ x : Int, (n : Int) = x := ⟨_, rfl⟩
  have HNI := Lib.hid hni
  rw [hni] at hn0 hw1 hn1 HR ⊢
  have hd0 : decide (ni < 0) = false := by simpa using hn1
  generalize grownCap w n 0 34 = cap at *
  clear hni
  go_enter Try.func48, Try.ntmps48
  go_upto_region 4 with fail
  rw [hw1]
  go_wp2_with (at_builtin; go_loud (refine Lib.wpList_append_run _ rfl (.tmp 20) (.tmp 21) 23 3 rfl (.slice none 0 0) (.int .i64 ni) rfl rfl _ _ (HR.out _) ?_))
  go_ret
  have h9 := hW.out cap HGE.out HLE.out
  exact ⟨_, cap, rfl, h9.1, h9.2⟩
theorem growG_zero (w : World) :
    Calls Try.prog 48 #[.slice none 0 0, .int .i64 0] w fun e w' => ∃ a c, e = .returned (.slice a 0 c) ∧ w'.ownsRow w.heap.size 34 3 (.slice a 0 c) 0 (cellsG []) ∧ Below w.heap.size w w' := by
  go_enter Try.func48, Try.ntmps48
  go_wp2
  go_ret
  exact ⟨none, 0, rfl, World.ownsRow_nil _ _ _ _, Below.refl _ _⟩
theorem growG_all (n : Nat) (w : World) (hn : n ≤ 1000000) :
    Calls Try.prog 48 #[.slice none 0 0, .int .i64 n] w fun e w' => ∃ a c, e = .returned (.slice a 0 c) ∧ w'.ownsRow w.heap.size 34 3 (.slice a 0 c) 0 (cellsG []) ∧ Below w.heap.size w w' := by
  by_cases h0 : 0 < n
  · exact growG_any n w h0 hn
  · obtain rfl : n = 0 := by omega
    exact growG_zero w

/-- The cells of a row of gates, and what they hold. -/
theorem RowG.src {w0 w : World} {B : Nat} {a : Option Addr} {n cap : Nat} {t : List Tg} (h : RowG w0 w B (.slice a n cap) t) : n = t.length ∧ (∀ ad, a = some ad → ∀ j u, (cellsG t)[j]? = some u → w.cell? (ad.add j) = some u) ∧ (a = none → t = [] ∧ cap = 0) := by
  rcases h.row.2 with ⟨e, h2⟩ | ⟨g, cap, cur, e, hB, hg, hnc, hcm, hcs, htk⟩
  · injection e with e1 e2 e3
    subst e1; subst e2; subst e3
    exact ⟨h2.symm, fun ad e => (by cases e), fun _ => ⟨List.eq_nil_of_length_eq_zero h2, rfl⟩⟩
  · injection e with e1 e2 e3
    subst e1; subst e2
    refine ⟨rfl, fun ad e j u hj => ?_, fun e => (by cases e)⟩
    injection e with e
    subst e
    have hlt : j < t.length * 3 := by have := (List.getElem?_eq_some_iff.1 hj).1; rwa [cellsG_len] at this
    rw [Addr.add_lit]
    simp only [World.cell?, hg, Nat.zero_add]
    rw [← htk, List.getElem?_take, if_pos hlt] at hj
    simpa using hj
theorem cells_oneG {w0 w : World} {B : Nat} {t : List Tg} (h : ∀ x ∈ t, ElemB w0 w B x.2.2.1 x.2.2.2) : ∀ u ∈ cellsG t, u.oneCell' = true := by
  intro u hu
  unfold cellsG at hu
  obtain ⟨x, hx, hu⟩ := List.mem_flatMap.1 hu
  obtain ⟨a, c, e⟩ := (h x hx).shape
  simp at hu
  rcases hu with rfl | rfl | rfl
  · rfl
  · rfl
  · rw [e]; rfl
theorem wpList_appGs {w0 w : World} {ops : Array Oper} {rest : List Oper} {o : Oper} {a : Act} {Q : Exit → Act → World → Prop} (hgd : o.guard = none) (sp x : Operand)
    (ho : o.op = .call { callee := .builtin .append, args := #[sp, x], argTypes := #[23, 23] }) (B B2 : Nat) (v : Value) (t s : List Tg) (af : Option Addr) (m cap : Nat)
    (hs : a.eval sp = v) (hx : a.eval x = .slice af m cap) (hrow : w.ownsRow B 34 3 v t.length (cellsG t)) (hsr : RowG w0 w B2 (.slice af m cap) s)
    (hlen : t.length + s.length ≤ 1000000) (hB : B ≤ w.heap.size)
    (h : ∀ v' w', w'.ownsRow B 34 3 v' (t ++ s).length (cellsG (t ++ s)) → w.grownBy w' v.ownBlock → wpList Try.prog ops Q rest (a.put o.dst v') w') : wpList Try.prog ops Q (o :: rest) a w := by
  obtain ⟨i0, hi, hz0, hz1, hz2⟩ := info_parts info_gate
  obtain ⟨hm, hsc, hsn⟩ := hsr.src
  subst hm
  cases af with
  | none =>
    obtain ⟨rfl, rfl⟩ := hsn rfl
    refine wpList_append_own_none hgd sp x 23 ho B 34 i0 3 Try.underlying23 hi v t.length _ hs hrow (by rw [hx]; rfl) ?_
    exact h v w (by simpa using hrow) (World.grownBy.refl _ _)
  | some ad =>
    refine wpList_append_own _ hgd sp x 23 ho B 34 i0 (.agg #[.int .i64 0, .int .u8 0, .slice none 0 0]) 3 40 Try.underlying23 hi hz0 hz1 hz2 rfl (by decide) v t.length _ hs hrow ad s.length cap (cellsG s) hx (cellsG_len s) (fun j u hj => hsc ad rfl j u hj) (cells_oneG hsr.elems) (by unfold maxLen; omega) (by omega) hB fun v' w' h2 h3 _ => h v' w' ?_ h3
    rw [List.length_append, cellsG_app]
    exact h2

def totG (ps : List (List Tg)) : Nat := (ps.map List.length).sum
theorem totG_take {ps : List (List Tg)} {k : Nat} (h : k < ps.length) : totG (ps.take (k + 1)) = totG (ps.take k) + (ps.getD k []).length := by
  unfold totG
  rw [List.take_succ_eq_append_getElem h, List.map_append, List.sum_append]
  simp only [List.map_cons, List.map_nil, List.sum_cons, List.sum_nil, List.getD, List.getElem?_eq_getElem h, Option.getD_some, Nat.add_zero]
theorem totG_le (ps : List (List Tg)) (k : Nat) : totG (ps.take k) ≤ totG ps := by
  have h2 : totG (ps.take k ++ ps.drop k) = totG (ps.take k) + totG (ps.drop k) := by unfold totG; rw [List.map_append, List.sum_append]
  rw [List.take_append_drop] at h2
  omega
theorem flat_takeG {ps : List (List Tg)} {k : Nat} (h : k < ps.length) : (ps.take (k + 1)).flatten = (ps.take k).flatten ++ ps.getD k [] := by
  rw [List.take_succ_eq_append_getElem h, List.flatten_append]
  simp [List.getD, h]
theorem totG_flat (ps : List (List Tg)) : ps.flatten.length = totG ps := by unfold totG; rw [List.length_flatten]

set_option maxRecDepth 100000 in
set_option maxHeartbeats 3200000 in
theorem concG_any (w0 : World) (B gs cs : Nat) (vs : List Value) (ps : List (List Tg)) (w : World) (hgs : gs < w.heap.size) (hcell : ∀ j, j < ps.length → w.cell? ⟨gs, j, none⟩ = some (vs.getD j (.slice none 0 0)))
    (hbl : ∀ j, j < ps.length → RowG w0 w B (vs.getD j (.slice none 0 0)) (ps.getD j [])) (hB : B ≤ w.heap.size) (h0 : w0.heap.size ≤ B) (hb0 : Below w0.heap.size w0 w) (hn : totG ps ≤ 1000000) (hm : ps.length ≤ 1000000) :
    Calls Try.prog 24 #[.slice (some ⟨gs, 0, none⟩) ps.length cs] w fun e w' => ∃ v, e = .returned v ∧ RowG w0 w' B v ps.flatten ∧ Below w.heap.size w w' := by
  have HC := Lib.hid hcell
  have HBL := Lib.hid hbl
  have HTN := Lib.hid hn
  have HB0 := Lib.hid hb0
  clear hcell hbl hn hb0
  go_enter Try.func24, Try.ntmps24
  go_wp2
  go_loop [3, 11] (fun sz i => ∃ (k : Nat) (si : Int), k ≤ ps.length ∧ i = .int .i64 k ∧ sz = .int .i64 si ∧ si = (totG (ps.take k) : Int)) (fun _ i => ps.length - (intOf i).toNat)
  case atStart => exact ⟨0, 0, Nat.zero_le _, rfl, rfl, by simp [totG]⟩
  case round =>
    obtain ⟨k, si, hk, rfl, rfl, hsi⟩ := hrel
    have HSI := Lib.hid hsi
    by_cases hlt : k < ps.length
    · have hcx := HC.out k hlt
      obtain ⟨a1, c1, e1⟩ := (HBL.out k hlt).shape
      rw [e1] at hcx
      have HTT := Lib.hid (totG_take hlt)
      have HTL := Lib.hid (totG_le ps (k + 1))
      generalize (ps.getD k []).length = n1 at *
      have hs0 : 0 ≤ si := by omega
      have hs1 : si + (n1 : Int) ≤ 1000000 := by have h1 := HTT.out; have h2 := HTL.out; have h3 := HTN.out; have h4 := HSI.out; omega
      have hw1 : wrap64 (si + (n1 : Int)) = si + (n1 : Int) := by unfold wrap64; omega
      have hd0 : decide (si + (n1 : Int) < 0) = false := by rw [decide_eq_false_iff_not]; omega
      clear hsi
      go_wp2
      go_round
      case rel => exact ⟨k + 1, si + (n1 : Int), by omega, by go_num, rfl, by have h1 := HTT.out; have h4 := HSI.out; omega⟩
      case measure => simp [intOf]; omega
    · have hke : k = ps.length := by omega
      subst hke
      rw [List.take_length] at HSI
      have hs2 := HSI.out
      subst hs2
      have HG := Lib.hid (growG_all (totG ps) w HTN.out)
      clear hsi HSI
      go_wp2_with (go_at_call 48; refine HG.out.mono ?_; rintro e w1 ⟨a1, c1, rfl, hr1, hb1⟩)
      have HR1 := Lib.hid hr1
      have HB1 := Lib.hid hb1
      have hszw1 := hb1.size
      clear hr1 hb1
      go_loopw [6, 27] (fun out i wr => ∃ (k : Nat) (t : List Tg), k ≤ ps.length ∧ i = .int .i64 k ∧ RowG w0 wr B out t ∧ t = (ps.take k).flatten ∧ wr.ownsRow w.heap.size 34 3 out t.length (cellsG t) ∧ Below w.heap.size w wr) (fun _ i _ => ps.length - (intOf i).toNat)
      case atStart => exact ⟨0, [], Nat.zero_le _, rfl, ⟨HB0.out.trans (HB1.out.mono (Nat.le_trans h0 hB)), h0, row3_mono HR1.out hB, by simp, by simp [shapeG]⟩, rfl, HR1.out, HB1.out⟩
      case round =>
        obtain ⟨k, t, hk, rfl, hrow, hsh, hown, hbel⟩ := hrel
        have HRW := Lib.hid hrow
        have HSH := Lib.hid hsh
        have HOWN := Lib.hid hown
        have HBW := Lib.hid hbel
        obtain ⟨oa, oc, rfl⟩ := hrow.shape
        have hszr := hbel.size
        by_cases hlt : k < ps.length
        · have hcx := (hbel.cell (p := ⟨gs, k, none⟩) hgs).trans (HC.out k hlt)
          obtain ⟨a1, c1, e1⟩ := (HBL.out k hlt).shape
          have hb1 := HBL.out k hlt
          rw [e1] at hcx hb1
          have HSR := Lib.hid (hb1.below' HBW.out (Nat.le_refl _))
          have HFT : Hid (t ++ ps.getD k [] = (ps.take (k + 1)).flatten) := by show _ = _; rw [flat_takeG hlt, HSH.out]
          have hbd : t.length + (ps.getD k []).length ≤ 1000000 := by
            have h1 := congrArg List.length HFT.out
            rw [List.length_append, totG_flat] at h1
            have h2 := totG_le ps (k + 1)
            have h3 := HTN.out
            omega
          have HBD := Lib.hid hbd
          clear hrow hsh hown hbel hbd hb1 e1
          generalize ps.getD k [] = s at *
          obtain ⟨m1, hm1⟩ : ∃ m, s.length = m := ⟨_, rfl⟩
          rw [hm1] at hcx HSR
          clear hm1
          go_wp2_with (at_builtin; go_loud (refine wpList_appGs (w0 := w0) rfl (.tmp 31) (.tmp 32) rfl w.heap.size B (.slice oa t.length oc) t s a1 _ c1 rfl rfl HOWN.out HSR.out HBD.out hszr ?_; intro v4 w4 hrow4 hg4; have HR4 := Lib.hid hrow4; have HG4 := Lib.hid hg4; clear hrow4 hg4))
          have HRN := Lib.hid (RowG.more HRW.out (Nat.le_trans hB hszr) (Below.refl _ _) (fun x hx => HSR.out.elems x hx) HSR.out.bd (row3_mono HR4.out hB) HG4.out)
          have HBN := Lib.hid (HBW.out.grown HG4.out hszr (fun g hg => (rowG_lt HOWN.out g hg).1))
          go_roundw
          case rel => exact ⟨k + 1, _, by omega, by go_num, HRN.out, HFT.out, HR4.out, HBN.out⟩
          case measure => simp [intOf]; omega
        · have hke : k = ps.length := by omega
          subst hke
          rw [List.take_length] at HSH
          clear hrow hsh hown hbel
          go_wp2
          go_ret
          exact ⟨_, rfl, by rw [← HSH.out]; exact HRW.out, HBW.out⟩

end Go.Proofs.Ytafenijbglcppaa

/- circ.areOf over a map of any kind; a map's insert. -/
namespace Go.Proofs.Ytafenijbglcppaa
open Go.RowKit Go.Maps
set_option linter.unusedVariables false
set_option linter.unusedSimpArgs false

theorem careofH1_any (b bx n0 : Nat) (h : Int → Bool) (x : Int) (w : World) (hS : MapH w b n0 h) (hc : w.cell? ⟨bx, 0, none⟩ = some (.map (some b))) (h1 : -9223372036854775808 ≤ x) (h2 : x ≤ 9223372036854775807) :
    Calls Try.prog 43 #[.int .i64 x, .pointer (some ⟨bx, 0, none⟩)] w fun e w' => e = .returned (.bool (!h (varC x))) ∧ Quiet w w' := by
  have hv := varC_64 h1 h2
  have hlk : ∀ n, (Instr.lookup 57 (.map (some b)) (.int .i64 (varC x)) false).run Try.prog (w.drewN n) = .ok (.bool (h (varC x))) (w.drewN n) := fun n => (hS.below (Quiet.below ⟨n, rfl⟩ w.heap.size) (Nat.le_refl _)).look1 (varC x) hv.1 hv.2
  have hcv : ∀ n, Calls Try.prog 27 #[.int .i64 x] (w.drewN n) fun e w' => e = .returned (.int .i64 (varC x)) ∧ w.drewN n = w' := fun n => cvar_any x _ h1 h2
  have hcn : ∀ n, (w.drewN n).cell? ⟨bx, 0, none⟩ = some (.map (some b)) := fun n => hc
  clear hv hS
  generalize varC x = y at *
  generalize h y = t at *
  go_enter Try.func43, Try.ntmps43
  go_wp2_with fail
  go_quiet ((go_at_call 27; exact quiet_left (hcv _)))
  go_wp2
  go_ret
  exact ⟨ret_bool (by simp), _, rfl⟩
set_option maxRecDepth 100000 in
set_option maxHeartbeats 1600000 in
theorem careofH_any (b n0 : Nat) (h : Int → Bool) (v : Value) (l : List Int) (w : World) (hS : MapH w b n0 h) (H : IsInts w v l) :
    Calls Try.prog 19 #[v, .map (some b)] w fun e w' => e = .returned (.bool (l.all (fun x => h (varC x)))) ∧ Below w.heap.size w w' := by
  obtain ⟨W, hW⟩ : ∃ W, w.alloc (.cells #[.map (some b)] 57) = W := ⟨_, rfl⟩
  have hb0 : Below w.heap.size w W := by rw [← hW]; exact (Below.refl w.heap.size w).alloc (Nat.le_refl _) _
  have c0 : W.cell? ⟨w.heap.size, 0, none⟩ = some (.map (some b)) := by rw [← hW]; exact cell_fresh rfl
  have hS1 : MapH W b n0 h := hS.below hb0 (Nat.le_refl _)
  have H1 := H.below hb0 (Nat.le_refl _)
  have h64 : In64 l := by obtain ⟨_, _, _, _, _, _, g, _⟩ := H; exact g
  have ht : TellsB Try.prog 43 #[.pointer (some ⟨w.heap.size, 0, none⟩)] (fun x => !h (varC x)) l W := fun X x hq hx =>
    careofH1_any b w.heap.size n0 h x X (hS1.below (hq.below W.heap.size) (Nat.le_refl _)) ((hq.cell _).trans c0) (h64 x hx).1 (h64 x hx).2
  have HC := Lib.hid (containsi_any (fun x => !h (varC x)) 43 #[.pointer (some ⟨w.heap.size, 0, none⟩)] v l W (fun _ _ => rfl) ht H1)
  have HB0 := Lib.hid hb0
  have HE : Hid ((!l.any (fun x => !h (varC x))) = l.all (fun x => h (varC x))) := by show _ = _; rw [List.all_eq_not_any_not]
  generalize l.any (fun x => !h (varC x)) = t at *
  generalize l.all (fun x => h (varC x)) = t2 at *
  clear hb0 hS1 H1 h64 ht hS
  obtain ⟨a, cap, rfl⟩ := H.shape
  clear H
  go_enter Try.func19, Try.ntmps19
  go_wp2_with (go_at_call 42; refine HC.out.mono ?_; rintro e w1 ⟨rfl, hq1⟩)
  go_ret
  exact ⟨ret_bool (by rw [← HE.out]), HB0.out.trans (hq1.below _)⟩
theorem wpList_insM {w : World} {b n : Nat} {f : Int → Option Int} {ops : Array Oper} {rest : List Oper} {o : Oper} {a : Act} {Q : Exit → Act → World → Prop} (hg : o.guard = none) (m x v : Operand) (hop : o.op = Op.insert 64 m x v)
    (hm : a.eval m = .map (some b)) (h : MapM w b n f) (hn : n < maxLen) (k y : Int) (hx : a.eval x = .int .i64 k) (hv : a.eval v = .int .i64 y) (hw : (Lit.int .i64 k).wf = true) (hy : (Lit.int .i64 y).wf = true)
    (hQ : ∀ w', MapM w' b (n + 1) (updM f k y) → Kept (fun i => i = b) w w' → wpList Try.prog ops Q rest (a.put o.dst undef) w') : wpList Try.prog ops Q (o :: rest) a w :=
  wpList_plain hg fun K hK => by
    obtain ⟨w', hrun, h3, h4⟩ := h.put hn k y hw hy
    unfold Oper.wp
    simp [execOp, hop, hm, hx, hv, hrun, Result.andThen]
    exact hK _ _ (hQ _ h3 h4)
theorem step_putM {ops : Array Oper} {o : Oper} {a : Act} {w : World} {K : Act → World → Prop} {Q : Exit → Act → World → Prop} {E : Prop} (hgd : o.guard = none) (m x v : Operand) (hop : o.op = Op.mapUpdate 64 m x v)
    {b n : Nat} {f : Int → Option Int} (hm : a.eval m = .map (some b)) (hb : MapM w b n f) (hn : n < maxLen) (k y : Int) (hx : a.eval x = .int .i64 k) (hv : a.eval v = .int .i64 y) (hw : (Lit.int .i64 k).wf = true) (hy : (Lit.int .i64 y).wf = true)
    (hQ : ∀ w', MapM w' b (n + 1) (updM f k y) → Kept (fun i => i = b) w w' → K (a.put o.dst undef) w') : if Region.wanted o (yielded ops a.tmps) = true then Oper.wp Try.prog o a w K Q else E := by
  have hw' : Region.wanted o (yielded ops a.tmps) = true := by simp [Region.wanted, hgd]
  rw [if_pos hw']
  obtain ⟨w', hrun, h3, h4⟩ := hb.put hn k y hw hy
  unfold Oper.wp
  simp [execOp, hop, hm, hx, hv, hrun, Result.andThen]
  exact hQ _ h3 h4
end Go.Proofs.Ytafenijbglcppaa

/- circ.Simple and circ.Cofactor. -/
namespace Go.Proofs.Ytafenijbglcppaa
open Go.RowKit
set_option linter.unusedVariables false
set_option linter.unusedSimpArgs false

theorem lit_bd {S : List Int} (hS : ∀ v ∈ S, 1 ≤ v ∧ v ≤ 65536) {x : Int} (h1 : -9223372036854775808 ≤ x) (h2 : x ≤ 9223372036854775807) (h : varC x ∈ S) : bdI 65537 x := by
  have := hS _ h
  unfold varC at this
  unfold bdI
  split at this
  · split at this <;> omega
  · omega
theorem namedL_set : ∀ (gs : List Gt) (S : List Int) (t : Nat) (R : List Int), (∀ v ∈ S, 1 ≤ v ∧ v ≤ 65536) → namedL S t gs = some R → (∀ v ∈ R, 1 ≤ v ∧ v ≤ 65536) ∧ (t ≤ 200000 → (∀ g ∈ gs, (∀ x ∈ g.2.2, -9223372036854775808 ≤ x ∧ x ≤ 9223372036854775807) → bdI 65537 g.1 ∧ fitsB g.2.1 g.2.2.length = true ∧ g.2.2.length ≤ 200000 ∧ ∀ x ∈ g.2.2, bdI 65537 x))
  | [], S, t, R, hS, h => by
    unfold namedL at h
    injection h with h
    subst h
    exact ⟨hS, fun _ g hg => by cases hg⟩
  | g :: r, S, t, R, hS, h => by
    unfold namedL at h
    split at h
    · rename_i hx
      unfold gOk at hx
      simp only [Bool.and_eq_true, decide_eq_true_eq] at hx
      obtain ⟨h1, h2, h3, h4⟩ := hx
      rw [ent_iff] at h4
      have hS2 : ∀ v ∈ S ++ [g.1], 1 ≤ v ∧ v ≤ 65536 := fun v hv => by
        rcases List.mem_append.1 hv with hv | hv
        · exact hS v hv
        · rw [List.mem_singleton] at hv; subst hv; exact ⟨h4.1, h4.2.1⟩
      obtain ⟨k1, k2⟩ := namedL_set r _ _ R hS2 h
      refine ⟨k1, fun ht y hy hb => ?_⟩
      rcases List.mem_cons.1 hy with rfl | hy
      · refine ⟨by unfold bdI; omega, h2, by omega, fun x hx => ?_⟩
        have h5 := List.all_eq_true.1 h3 x hx
        exact lit_bd hS (hb x hx).1 (hb x hx).2 (by simpa using h5)
      · exact k2 (by omega) y hy hb
    · cases h
theorem mayN_parts {P : List Blk} {gs : List Gt} {o : Int} (h : mayN P gs o = true) (hg : ∀ g ∈ gs, gBd g) (h1 : -9223372036854775808 ≤ o) (h2 : o ≤ 9223372036854775807) : mayP P = true ∧ gsOk 65537 gs ∧ bdI 65537 o := by
  unfold mayN namedN at h
  by_cases hp : mayP P = true
  · rw [if_pos hp] at h
    cases hn : namedL (flatB P) 0 gs with
    | none => rw [hn] at h; cases h
    | some R =>
      rw [hn] at h
      obtain ⟨k1, k2⟩ := namedL_set gs (flatB P) 0 R (mayP_parts hp).2.2.1 hn
      exact ⟨hp, fun g hgm => k2 (by omega) g hgm (fun x hx => (hg g hgm).2.2.2 x hx), lit_bd k1 h1 h2 (by simpa using h)⟩
  · rw [if_neg hp] at h; cases h

/-- A net and an error that a call hands back. -/
def NetPostE (w0 w : World) (r : Nt × Int) (e : Ending) (w' : World) : Prop :=
  ∃ vp vg, e = .returned (.tuple #[.agg #[vp, vg, .int .i64 r.1.2.2], .int .i64 r.2]) ∧ NetO w0 w' w.heap.size vp vg r.1.1 r.1.2.1 ∧ Below w.heap.size w w'

/-- Two nets in new blocks: the argument, and what is to be handed back. -/
theorem net_boxes (w : World) (vp vg : Value) (o : Int) : ∃ W0, (w.alloc (.cells #[vp, vg, .int .i64 o] 25)).alloc (.cells #[.slice none 0 0, .slice none 0 0, .int .i64 0] 25) = W0 ∧ Below w.heap.size w W0 ∧ W0.heap.size = w.heap.size + 2 ∧
    W0.heap[w.heap.size]? = some (.cells #[vp, vg, .int .i64 o] 25 (0, 0)) ∧ W0.heap[w.heap.size + 1]? = some (.cells #[.slice none 0 0, .slice none 0 0, .int .i64 0] 25 (0, 0)) :=
  ⟨_, rfl, ((Below.refl w.heap.size w).alloc (Nat.le_refl _) _).alloc (by simp) _, by simp, by rw [heapy, if_neg (by simp), heapy, if_pos rfl], by rw [heapy, if_pos (by simp)]⟩
/-- A net is put into the block that is handed back. -/
theorem net_put {w0 w X : World} {vp vg : Value} {o : Int} {P : List Blk} {G : List Gt} {B : Nat} (hh : X.heap[w.heap.size + 1]? = some (.cells #[.slice none 0 0, .slice none 0 0, .int .i64 0] 25 (0, 0))) (hb : Below w.heap.size w X) (hn : NetO w0 X B vp vg P G) (h0 : w0.heap.size ≤ w.heap.size) (hB : w.heap.size + 2 ≤ B) :
    (X.cell? ⟨w.heap.size + 1, 0, none⟩ = some (.slice none 0 0) ∧ X.cell? ⟨w.heap.size + 1, 1, none⟩ = some (.slice none 0 0) ∧ X.cell? ⟨w.heap.size + 1, 2, none⟩ = some (.int .i64 0) ∧ X.frozen? ⟨w.heap.size + 1, 0, none⟩ = false ∧ X.frozen? ⟨w.heap.size + 1, 1, none⟩ = false ∧ X.frozen? ⟨w.heap.size + 1, 2, none⟩ = false) ∧
    let Y := ((X.setCell ⟨w.heap.size + 1, 0, none⟩ vp).setCell ⟨w.heap.size + 1, 1, none⟩ vg).setCell ⟨w.heap.size + 1, 2, none⟩ (.int .i64 o);
      (Y.cell? ⟨w.heap.size + 1, 0, none⟩ = some vp ∧ Y.cell? ⟨w.heap.size + 1, 1, none⟩ = some vg ∧ Y.cell? ⟨w.heap.size + 1, 2, none⟩ = some (.int .i64 o)) ∧ NetO w0 Y w.heap.size vp vg P G ∧ Below w.heap.size w Y := by
  refine ⟨three_cells hh, ?_⟩
  have hk := kept_three (w.heap.size + 1) X vp vg (.int .i64 o)
  have h3 := three_cells (set_three (u := vp) (v := vg) (t := .int .i64 o) hh)
  exact ⟨⟨h3.1, h3.2.1, h3.2.2.1⟩, (hn.keptS hk (fun g hg e => by omega) (fun g hg e => by omega)).mono (by omega) h0, hb.trans (hk.below hb.size (fun i hi e => by omega))⟩
theorem NetO.shapes {w0 X : World} {B : Nat} {vp vg : Value} {P : List Blk} {G : List Gt} (h : NetO w0 X B vp vg P G) : (∃ a c, vp = .slice a P.length c) ∧ ∃ a c, vg = .slice a G.length c := by
  obtain ⟨t, h1, h2⟩ := h.pre
  obtain ⟨s, h3, h4⟩ := h.row
  obtain ⟨a, c, e⟩ := h1.shape
  obtain ⟨a', c', e'⟩ := h3.shape
  refine ⟨⟨a, c, ?_⟩, a', c', ?_⟩
  · rw [e, ← h2, shapeT_len]
  · rw [e', ← h4, shapeG_len]

set_option maxRecDepth 100000 in
set_option maxHeartbeats 3200000 in
theorem csimple_any (vp vg : Value) (o : Int) (P : List Blk) (gs : List Gt) (w : World) (HP : IsBlocks w vp P) (HG : IsGates w vg gs) (hp : P.length ≤ 4000000) (hg : gs.length < 1000000) (ho1 : -9223372036854775808 ≤ o) (ho2 : o ≤ 9223372036854775807) :
    Calls Try.prog 30 #[.agg #[vp, vg, .int .i64 o]] w (NetPostE w w (simpleN P gs o)) := by
  obtain ⟨W0, hW0, hb0, hz0, hn0, hr0⟩ := net_boxes w vp vg o
  have HP0 := HP.below hb0 (Nat.le_refl _)
  have HG0 := HG.below hb0 (Nat.le_refl _)
  have HMY := Lib.hid (cmay_any vp vg o P gs W0 HP0 HG0 hp (by omega) ho1 ho2)
  have HW0 := Lib.hid hW0
  have HB0 := Lib.hid hb0
  have HZ0 := Lib.hid hz0
  have HN0 := Lib.hid hn0
  have HR0 := Lib.hid hr0
  have HPW := Lib.hid HP0
  have HGW := Lib.hid HG0
  have HGB := Lib.hid HG.bd
  obtain ⟨pa, pc, rfl, _⟩ := HP.shape
  obtain ⟨ga, gc, rfl, _⟩ := HG.shape
  have c0 : W0.cell? ⟨w.heap.size, 0, none⟩ = some (.slice pa P.length pc) := by simp [World.cell?, HN0.out]
  have c1 : W0.cell? ⟨w.heap.size, 1, none⟩ = some (.slice ga gs.length gc) := by simp [World.cell?, HN0.out]
  have c2 : W0.cell? ⟨w.heap.size, 2, none⟩ = some (.int .i64 o) := by simp [World.cell?, HN0.out]
  have hz : W0.heap.size ≥ w.heap.size + 2 := by omega
  clear HP HG HP0 HG0 hW0 hb0 hz0 hn0 hr0
  cases hm : mayN P gs o with
  | false =>
    rw [hm] at HMY
    have HS : Hid (simpleN P gs o = (noNet, 2)) := by show _ = _; unfold simpleN; rw [hm]; rfl
    clear hm
    go_enter Try.func30, Try.ntmps30
    go_wp2_with fail
    rw [HW0.out]
    refine HMY.out.mono ?_
    rintro e w1 ⟨rfl, hb1⟩
    obtain ⟨⟨d0, d1, d2, e0, e1, e2⟩, hfin⟩ := net_put (w0 := w) (o := 0) ((hb1.block _ (by omega)).trans HR0.out) (HB0.out.trans (hb1.mono HB0.out.size)) (NetO.nil (B := w.heap.size + 2) (HB0.out.trans (hb1.mono HB0.out.size)) (by omega)) (Nat.le_refl _) (Nat.le_refl _)
    have HFIN := Lib.hid hfin
    clear hfin hb1
    go_wp2
    obtain ⟨⟨g0, g1, g2⟩, hno, hbe⟩ := HFIN.out
    refine ⟨rfl, .tuple #[.agg #[.slice none 0 0, .slice none 0 0, .int .i64 0], .int .i64 2], by simp [results, Try.f30, go_sem, g0, g1, g2], ?_⟩
    unfold NetPostE
    rw [HS.out]
    exact ⟨_, _, rfl, hno, hbe⟩
  | true =>
    rw [hm] at HMY
    have HS : Hid (simpleN P gs o = (simpN P gs o [], 0)) := by show _ = _; unfold simpleN; rw [hm]; rfl
    have HMP := Lib.hid (mayN_parts hm HGB.out ho1 ho2)
    clear hm
    go_enter Try.func30, Try.ntmps30
    go_wp2_with fail
    rw [HW0.out]
    refine HMY.out.mono ?_
    rintro e w1 ⟨rfl, hb1⟩
    have k0 : w1.cell? ⟨w.heap.size, 0, none⟩ = some (.slice pa P.length pc) := (hb1.cell (p := ⟨w.heap.size, 0, none⟩) (by simp; omega)).trans c0
    have k1 : w1.cell? ⟨w.heap.size, 1, none⟩ = some (.slice ga gs.length gc) := (hb1.cell (p := ⟨w.heap.size, 1, none⟩) (by simp; omega)).trans c1
    have k2 : w1.cell? ⟨w.heap.size, 2, none⟩ = some (.int .i64 o) := (hb1.cell (p := ⟨w.heap.size, 2, none⟩) (by simp; omega)).trans c2
    have HT1 : Hid (Below w.heap.size w w1) := HB0.out.trans (hb1.mono HB0.out.size)
    have HSI := Lib.hid (csimplified_any w _ _ (.slice none 0 0) o P gs [] w1 (HPW.out.below hb1 (Nat.le_refl _)) (HGW.out.below hb1 (Nat.le_refl _)) (IsInts.nil _) HT1.out HMP.out.1 HMP.out.2.1 hg (by simp) HMP.out.2.2)
    have HR1 : Hid (w1.heap[w.heap.size + 1]? = some (.cells #[.slice none 0 0, .slice none 0 0, .int .i64 0] 25 (0, 0))) := (hb1.block _ (by omega)).trans HR0.out
    have hsz1 : w.heap.size + 2 ≤ w1.heap.size := by have := hb1.size; omega
    clear hb1 c0 c1 c2
    go_wp2_with (go_at_call 20; go_loud (refine HSI.out.mono ?_; rintro e w2 ⟨v2, u2, rfl, hno2, hb2⟩; obtain ⟨⟨d0, d1, d2, e0, e1, e2⟩, hfin⟩ := net_put (w0 := w) (o := (simpN P gs o []).2.2) ((hb2.block _ (by omega)).trans HR1.out) (HT1.out.trans (hb2.mono HT1.out.size)) hno2 (Nat.le_refl _) hsz1; obtain ⟨⟨a2, c2, rfl⟩, b2, e2', rfl⟩ := hno2.shapes; have HFIN := Lib.hid hfin; clear hfin hb2 hno2))
    obtain ⟨⟨g0, g1, g2⟩, hno, hbe⟩ := HFIN.out
    refine ⟨rfl, .tuple #[.agg #[.slice a2 (simpN P gs o []).1.length c2, .slice b2 (simpN P gs o []).2.1.length e2', .int .i64 (simpN P gs o []).2.2], .int .i64 0], by simp [results, Try.f30, go_sem, g0, g1, g2], ?_⟩
    unfold NetPostE
    rw [HS.out]
    exact ⟨_, _, rfl, hno, hbe⟩
end Go.Proofs.Ytafenijbglcppaa

/- circ.Cofactor. -/
namespace Go.Proofs.Ytafenijbglcppaa
open Go.RowKit
set_option linter.unusedVariables false
set_option linter.unusedSimpArgs false

set_option maxRecDepth 100000 in
set_option maxHeartbeats 3200000 in
theorem ccof_any (vp vg va : Value) (o : Int) (P : List Blk) (gs : List Gt) (a : List Int) (w : World) (HP : IsBlocks w vp P) (HG : IsGates w vg gs) (HA : IsInts w va a) (hp : P.length ≤ 4000000) (hg : gs.length < 1000000) (ha : a.length ≤ 1000000) (ho1 : -9223372036854775808 ≤ o) (ho2 : o ≤ 9223372036854775807) :
    Calls Try.prog 7 #[.agg #[vp, vg, .int .i64 o], va] w (NetPostE w w (cofN P gs o a)) := by
  obtain ⟨W0, hW0, hb0, hz0, hn0, hr0⟩ := net_boxes w vp vg o
  have HP0 := HP.below hb0 (Nat.le_refl _)
  have HG0 := HG.below hb0 (Nat.le_refl _)
  have HMY := Lib.hid (cmay_any vp vg o P gs W0 HP0 HG0 hp (by omega) ho1 ho2)
  have HW0 := Lib.hid hW0
  have HB0 := Lib.hid hb0
  have HZ0 := Lib.hid hz0
  have HN0 := Lib.hid hn0
  have HR0 := Lib.hid hr0
  have HPW := Lib.hid HP0
  have HGW := Lib.hid HG0
  have HAW := Lib.hid (HA.below hb0 (Nat.le_refl _))
  have HGB := Lib.hid HG.bd
  obtain ⟨pa, pc, rfl, _⟩ := HP.shape
  obtain ⟨ga, gc, rfl, _⟩ := HG.shape
  obtain ⟨aa, ac, rfl⟩ := HA.shape
  have c0 : W0.cell? ⟨w.heap.size, 0, none⟩ = some (.slice pa P.length pc) := by simp [World.cell?, HN0.out]
  have c1 : W0.cell? ⟨w.heap.size, 1, none⟩ = some (.slice ga gs.length gc) := by simp [World.cell?, HN0.out]
  have c2 : W0.cell? ⟨w.heap.size, 2, none⟩ = some (.int .i64 o) := by simp [World.cell?, HN0.out]
  have hz : W0.heap.size ≥ w.heap.size + 2 := by omega
  have HER : Hid (∀ X, Below W0.heap.size W0 X → (X.cell? ⟨w.heap.size + 1, 0, none⟩ = some (.slice none 0 0) ∧ X.cell? ⟨w.heap.size + 1, 1, none⟩ = some (.slice none 0 0) ∧ X.cell? ⟨w.heap.size + 1, 2, none⟩ = some (.int .i64 0) ∧ X.frozen? ⟨w.heap.size + 1, 0, none⟩ = false ∧ X.frozen? ⟨w.heap.size + 1, 1, none⟩ = false ∧ X.frozen? ⟨w.heap.size + 1, 2, none⟩ = false) ∧
    let Y := ((X.setCell ⟨w.heap.size + 1, 0, none⟩ (.slice none 0 0)).setCell ⟨w.heap.size + 1, 1, none⟩ (.slice none 0 0)).setCell ⟨w.heap.size + 1, 2, none⟩ (.int .i64 0);
      (Y.cell? ⟨w.heap.size + 1, 0, none⟩ = some (.slice none 0 0) ∧ Y.cell? ⟨w.heap.size + 1, 1, none⟩ = some (.slice none 0 0) ∧ Y.cell? ⟨w.heap.size + 1, 2, none⟩ = some (.int .i64 0)) ∧ NetO w Y w.heap.size (.slice none 0 0) (.slice none 0 0) [] [] ∧ Below w.heap.size w Y) := fun X hX =>
    net_put (w0 := w) (o := 0) ((hX.block _ (by omega)).trans HR0.out) (HB0.out.trans (hX.mono HB0.out.size)) (NetO.nil (B := w.heap.size + 2) (HB0.out.trans (hX.mono HB0.out.size)) (by omega)) (Nat.le_refl _) (Nat.le_refl _)
  have HCL : Hid (∀ X, Below W0.heap.size W0 X → X.cell? ⟨w.heap.size, 0, none⟩ = some (.slice pa P.length pc) ∧ X.cell? ⟨w.heap.size, 1, none⟩ = some (.slice ga gs.length gc) ∧ X.cell? ⟨w.heap.size, 2, none⟩ = some (.int .i64 o)) := fun X hX =>
    ⟨(hX.cell (p := ⟨w.heap.size, 0, none⟩) (by simp; omega)).trans c0, (hX.cell (p := ⟨w.heap.size, 1, none⟩) (by simp; omega)).trans c1, (hX.cell (p := ⟨w.heap.size, 2, none⟩) (by simp; omega)).trans c2⟩
  have HNO : Hid (∀ X, Below W0.heap.size W0 X → Calls Try.prog 12 #[.slice aa a.length ac] X fun e w' => e = .returned (.bool (mayB a)) ∧ X = w') := fun X hX => cnormal_any _ a X (HAW.out.below hX (Nat.le_refl _))
  clear HP HG HA HP0 HG0 hW0 hb0 hz0 hn0 hr0 c0 c1 c2
  cases hm : mayN P gs o with
  | false =>
    rw [hm] at HMY
    have HS : Hid (cofN P gs o a = (noNet, 2)) := by show _ = _; unfold cofN okN; rw [hm]; rfl
    clear hm
    go_enter Try.func7, Try.ntmps7
    go_wp2_with fail
    rw [HW0.out]
    refine HMY.out.mono ?_
    rintro e w1 ⟨rfl, hb1⟩
    obtain ⟨⟨d0, d1, d2, e0, e1, e2⟩, hfin⟩ := HER.out w1 hb1
    have HFIN := Lib.hid hfin
    clear hfin hb1
    go_wp2
    obtain ⟨⟨g0, g1, g2⟩, hno, hbe⟩ := HFIN.out
    refine ⟨rfl, .tuple #[.agg #[.slice none 0 0, .slice none 0 0, .int .i64 0], .int .i64 2], by simp [results, Try.f7, go_sem, g0, g1, g2], ?_⟩
    unfold NetPostE
    rw [HS.out]
    exact ⟨_, _, rfl, hno, hbe⟩
  | true =>
    rw [hm] at HMY
    have HMP := Lib.hid (mayN_parts hm HGB.out ho1 ho2)
    have HM := Lib.hid hm
    clear hm
    cases hn : mayB a with
    | false =>
      rw [hn] at HNO
      have HS : Hid (cofN P gs o a = (noNet, 2)) := by show _ = _; unfold cofN okN; rw [HM.out, hn]; rfl
      clear hn
      go_enter Try.func7, Try.ntmps7
      go_wp2_with fail
      rw [HW0.out]
      refine HMY.out.mono ?_
      rintro e w1 ⟨rfl, hb1⟩
      obtain ⟨⟨d0, d1, d2, e0, e1, e2⟩, hfin⟩ := HER.out w1 hb1
      have HFIN := Lib.hid hfin
      have HB1 := Lib.hid hb1
      clear hfin hb1
      go_wp2_with (go_at_call 12; refine (HNO.out w1 HB1.out).mono ?_; rintro e w2 ⟨rfl, rfl⟩)
      obtain ⟨⟨g0, g1, g2⟩, hno, hbe⟩ := HFIN.out
      refine ⟨rfl, .tuple #[.agg #[.slice none 0 0, .slice none 0 0, .int .i64 0], .int .i64 2], by simp [results, Try.f7, go_sem, g0, g1, g2], ?_⟩
      unfold NetPostE
      rw [HS.out]
      exact ⟨_, _, rfl, hno, hbe⟩
    | true =>
      rw [hn] at HNO
      have HOK : Hid (okN P gs o a = true) := by show _ = _; unfold okN; rw [HM.out, hn]; rfl
      have HQA : Hid (∀ X, Below W0.heap.size W0 X → Calls Try.prog 18 #[.slice pa P.length pc] X fun e w' => e = .returned (.tuple #[.map (some X.heap.size), .bool true]) ∧ SetI w' X.heap.size (flatB P) ∧ Below X.heap.size X w') := fun X hX => (quantified_any _ P X (HPW.out.below hX (Nat.le_refl _)) hp).mono fun e w' h => by
        unfold QuantPost at h
        obtain ⟨hb, ⟨_, h1, h2⟩ | ⟨h2, _⟩⟩ := h
        · exact ⟨h1, h2, hb⟩
        · rw [HMP.out.1] at h2; cases h2
      have HAR : Hid (∀ X b, Below W0.heap.size W0 X → SetI X b (flatB P) → Calls Try.prog 19 #[.slice aa a.length ac, .map (some b)] X fun e w' => e = .returned (.bool (a.all (fun x => decide (varC x ∈ flatB P)))) ∧ Below X.heap.size X w') := fun X b hX hs => careof_any b (flatB P) _ a X hs (HAW.out.below hX (Nat.le_refl _))
      clear hn
      cases hall : a.all (fun x => decide (varC x ∈ flatB P)) with
      | false =>
        rw [hall] at HAR
        have HS : Hid (cofN P gs o a = (noNet, 6)) := by show _ = _; unfold cofN; rw [if_pos HOK.out, hall]; rfl
        clear hall
        go_enter Try.func7, Try.ntmps7
        go_wp2_with fail
        rw [HW0.out]
        refine HMY.out.mono ?_
        rintro e w1 ⟨rfl, hb1⟩
        obtain ⟨k0, k1, k2⟩ := HCL.out w1 hb1
        have HB1 := Lib.hid hb1
        clear hb1
        go_wp2_with (first
          | (go_at_call 12; refine (HNO.out w1 HB1.out).mono ?_; rintro e w2 ⟨rfl, rfl⟩)
          | (go_at_call 18; go_loud (refine (HQA.out w1 HB1.out).mono ?_; rintro e w2 ⟨rfl, hs2, hb2⟩; have HS2 := Lib.hid hs2; have HB2 := Lib.hid (HB1.out.trans (hb2.mono HB1.out.size)); clear hs2 hb2))
          | (go_at_call 19; go_loud (refine (HAR.out w2 _ HB2.out HS2.out).mono ?_; rintro e w3 ⟨rfl, hb3⟩; have HB3 := Lib.hid (HB2.out.trans (hb3.mono HB2.out.size)); obtain ⟨⟨d0, d1, d2, e0, e1, e2⟩, hfin⟩ := HER.out w3 HB3.out; have HFIN := Lib.hid hfin; clear hfin hb3)))
        obtain ⟨⟨g0, g1, g2⟩, hno, hbe⟩ := HFIN.out
        refine ⟨rfl, .tuple #[.agg #[.slice none 0 0, .slice none 0 0, .int .i64 0], .int .i64 6], by simp [results, Try.f7, go_sem, g0, g1, g2], ?_⟩
        unfold NetPostE
        rw [HS.out]
        exact ⟨_, _, rfl, hno, hbe⟩
      | true =>
        rw [hall] at HAR
        have HS : Hid (cofN P gs o a = (simpN P gs o a, 0)) := by show _ = _; unfold cofN; rw [if_pos HOK.out, hall]; rfl
        have HSI : Hid (∀ X, Below W0.heap.size W0 X → Calls Try.prog 20 #[.agg #[.slice pa P.length pc, .slice ga gs.length gc, .int .i64 o], .slice aa a.length ac] X (NetPostO w X (simpN P gs o a))) := fun X hX => csimplified_any w _ _ _ o P gs a X (HPW.out.below hX (Nat.le_refl _)) (HGW.out.below hX (Nat.le_refl _)) (HAW.out.below hX (Nat.le_refl _)) (HB0.out.trans (hX.mono HB0.out.size)) HMP.out.1 HMP.out.2.1 hg ha HMP.out.2.2
        clear hall
        go_enter Try.func7, Try.ntmps7
        go_wp2_with fail
        rw [HW0.out]
        refine HMY.out.mono ?_
        rintro e w1 ⟨rfl, hb1⟩
        obtain ⟨k0, k1, k2⟩ := HCL.out w1 hb1
        have HB1 := Lib.hid hb1
        clear hb1
        go_wp2_with (first
          | (go_at_call 12; refine (HNO.out w1 HB1.out).mono ?_; rintro e w2 ⟨rfl, rfl⟩)
          | (go_at_call 18; go_loud (refine (HQA.out w1 HB1.out).mono ?_; rintro e w2 ⟨rfl, hs2, hb2⟩; have HS2 := Lib.hid hs2; have HB2 := Lib.hid (HB1.out.trans (hb2.mono HB1.out.size)); clear hs2 hb2))
          | (go_at_call 19; go_loud (refine (HAR.out w2 _ HB2.out HS2.out).mono ?_; rintro e w3 ⟨rfl, hb3⟩; have HB3 := Lib.hid (HB2.out.trans (hb3.mono HB2.out.size)); obtain ⟨m0, m1, m2⟩ := HCL.out w3 HB3.out; have hsz3 : w.heap.size + 2 ≤ w3.heap.size := (by have := HB3.out.size; omega); clear hb3))
          | (go_at_call 20; go_loud (refine (HSI.out w3 HB3.out).mono ?_; rintro e w4 ⟨v4, u4, rfl, hno4, hb4⟩; have HB4 := HB3.out.trans (hb4.mono HB3.out.size); obtain ⟨⟨d0, d1, d2, e0, e1, e2⟩, hfin⟩ := net_put (w0 := w) (o := (simpN P gs o a).2.2) ((HB4.block _ (by omega)).trans HR0.out) (HB0.out.trans (HB4.mono HB0.out.size)) hno4 (Nat.le_refl _) hsz3; obtain ⟨⟨a2, c2, rfl⟩, b2, e2', rfl⟩ := hno4.shapes; have HFIN := Lib.hid hfin; clear hfin hb4 hno4 HB4)))
        obtain ⟨⟨g0, g1, g2⟩, hno, hbe⟩ := HFIN.out
        refine ⟨rfl, .tuple #[.agg #[.slice a2 (simpN P gs o a).1.length c2, .slice b2 (simpN P gs o a).2.1.length e2', .int .i64 (simpN P gs o a).2.2], .int .i64 0], by simp [results, Try.f7, go_sem, g0, g1, g2], ?_⟩
        unfold NetPostE
        rw [HS.out]
        exact ⟨_, _, rfl, hno, hbe⟩
end Go.Proofs.Ytafenijbglcppaa
