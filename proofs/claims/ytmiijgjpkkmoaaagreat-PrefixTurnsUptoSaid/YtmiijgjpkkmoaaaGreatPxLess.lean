/- prefix.Less. -/
import Derived.Test.YtmiijgjpkkmoaaaGreatPxRowB
import Derived.Test.YtmiijgjpkkmoaaaGreatMpE
namespace Go.Proofs.YtmiijgjpkkmoaaaGreat
open Go.RowKit Go.Maps
set_option linter.unusedVariables false
set_option linter.unusedSimpArgs false

theorem SetI.mapB {w : World} {b : Nat} {S : List Int} (h : SetI w b S) : MapB Tryz.prog 3 4 w b S.length (fun k => decide (k ∈ S)) := by
  obtain ⟨_, D, h1, h2, _⟩ := h
  exact ⟨D, h1, h1.isMap, h2⟩
theorem zero_boolX (w : World) : (zeroValue 4).run Tryz.prog w = .ok (.bool false) w := by
  have := Tryz.zeroValue4
  exact this w
theorem mapB_look {w : World} {b n : Nat} {h : Int → Bool} (m : MapB Tryz.prog 3 4 w b n h) (k : Int) (h1 : -9223372036854775808 ≤ k) (h2 : k ≤ 9223372036854775807) :
    (Instr.lookup 83 (.map (some b)) (.int .i64 k) false).run Tryz.prog w = .ok (.bool (h k)) w := m.look Tryz.underlying3 Tryz.underlying4 Tryz.underlying83 (zero_boolX w) k (i64w h1 h2)
theorem MapB.drop {w' : World} {b n : Nat} {h : Int → Bool} {D : DataW Unit} (hD : IsMap D) (h2 : ∀ k, D.atKey (.int .i64 k) (.lit (.bool false)) = .lit (.bool (h k))) {k : Int}
    (hw : w'.ownsMap Tryz.prog 3 (plainElem Tryz.prog 4) b n (D.del (.int .i64 k))) : MapB Tryz.prog 3 4 w' b n (fun j => h j && !decide (j = k)) := by
  refine ⟨_, hw, hw.isMap, fun j => ?_⟩
  by_cases e : j = k
  · subst e
    rw [atKey_del_same]
    simp
  · rw [atKey_del_other (by simpa using e), h2]
    simp [e]
/-- 'delete(m, k)' at the operation. -/
theorem wpList_delB {w : World} {b n : Nat} {h : Int → Bool} {ops : Array Oper} {rest : List Oper} {o : Oper} {a : Act} {Q : Exit → Act → World → Prop}
    (hg : o.guard = none) (m x : Operand) (hop : o.op = Op.call { callee := Callee.builtin Builtin.delete, args := #[m, x], argTypes := #[83, 3] }) (hm : a.eval m = .map (some b)) (hb : MapB Tryz.prog 3 4 w b n h) (k : Int) (hx : a.eval x = .int .i64 k) (hw : (Lit.int .i64 k).wf = true)
    (hQ : ∀ w', MapB Tryz.prog 3 4 w' b n (fun j => h j && !decide (j = k)) → Kept (fun i => i = b) w w' → wpList Tryz.prog ops Q rest (a.put o.dst (.tuple #[])) w') : wpList Tryz.prog ops Q (o :: rest) a w := by
  obtain ⟨D, h1, hD, h2⟩ := hb
  refine wpList_delete_own w hg m x 83 3 hop 4 (int_keyed Tryz.underlying3) Tryz.underlying83 _ b n D hm h1 _ (.int .i64 k) hx (keyOf_int_mk Tryz.underlying3 hw) fun w' h3 h4 => ?_
  exact hQ w' (MapB.drop hD h2 h3) ((Kept.of_grown h4.grown).mono fun i _ e => (Option.some.inj e).symm)

theorem less_enters (args : Array Value) (w : World) : (callFunc 63 args).run Tryz.prog w = .ok (.enter 63 args) w := enters_of Tryz.func63 (by kernel_rfl) rfl args w
set_option maxHeartbeats 400000 in
theorem lessc_any (b n B1 : Nat) (h : Int → Bool) (x : Int) (w : World) (m : MapB Tryz.prog 3 4 w b n h) (h1 : -9223372036854775808 ≤ x) (h2 : x ≤ 9223372036854775807) (c1 : w.cell? ⟨B1, 0, none⟩ = some (.map (some b))) :
    Calls Tryz.prog 63 #[.int .i64 x, .pointer (some ⟨B1, 0, none⟩)] w fun e w' => e = .returned (.bool (h x)) ∧ w = w' := by
  have hlk := mapB_look m x h1 h2
  clear m
  generalize h x = r at *
  go_enter Tryz.func63, Tryz.ntmps63
  go_wp2
  go_ret
  exact ⟨rfl, rfl⟩

/-- Blocks without some numbers. -/
def restL (p : List Blk) (vars : List Int) : List Blk := p.map (fun b => (b.1, b.2.filter (fun v => !decide (v ∈ vars))))
def lessR (p : List Blk) (vars : List Int) : List Blk × Int := if mayP p = true then joinA (restL p vars) else ([], 2)
theorem restL_take {p : List Blk} {vars : List Int} {k : Nat} (h : k < p.length) : restL (p.take (k + 1)) vars = restL (p.take k) vars ++ [((p.getD k dB).1, (p.getD k dB).2.filter (fun v => !decide (v ∈ vars)))] := by
  unfold restL
  rw [take_two (d := dB) h, List.map_append]
  rfl
theorem restL_flat (p : List Blk) (vars : List Int) : flatB (restL p vars) = (flatB p).filter (fun v => !decide (v ∈ vars)) := by
  unfold restL flatB
  induction p with
  | nil => rfl
  | cons c r ih =>
    simp only [List.map_cons, List.flatten_cons, List.filter_append]
    rw [ih]

def stayB (p : List Blk) (l : List Int) (v : Int) : Bool := decide (v ∈ flatB p) && !decide (v ∈ l)
theorem stayB_nil (p : List Blk) : stayB p [] = fun v => decide (v ∈ flatB p) := by funext v; simp [stayB]
theorem stayB_snoc (p : List Blk) (l : List Int) (x : Int) : (fun j => stayB p l j && !decide (j = x)) = stayB p (l ++ [x]) := by
  funext j
  unfold stayB
  by_cases h1 : j ∈ flatB p <;> by_cases h2 : j ∈ l <;> by_cases h3 : j = x <;> simp [h1, h2, h3]
theorem filter_stay {p : List Blk} {vars : List Int} {b : Blk} (hb : b ∈ p) : b.2.filter (stayB p vars) = b.2.filter (fun v => !decide (v ∈ vars)) := by
  refine List.filter_congr fun x hx => ?_
  unfold stayB
  rw [decide_eq_true (mem_flatB hb hx)]
  rfl
theorem MapB.below {P : Program} {K E : TypeId} {w w' : World} {b n B : Nat} {h : Int → Bool} (m : MapB P K E w b n h) (hb : Below B w w') (hB : w.heap.size ≤ B) : MapB P K E w' b n h :=
  m.kept (S := fun _ => False) ⟨hb.os, hb.tape, hb.output, hb.size, fun k hk _ => hb.block k (by omega)⟩ (fun h => h)
def LessPost (w : World) (p : List Blk) (vars : List Int) (e : Ending) (w' : World) : Prop :=
  ∃ v t, e = .returned (.tuple #[v, .int .i64 (lessR p vars).2]) ∧ JoinSt w' w.heap.size v t ∧ shapeT t = (lessR p vars).1 ∧ Below w.heap.size w w'
theorem mayP_len {p : List Blk} (h : mayP p = true) : (flatB p).length ≤ 1024 ∧ p.length ≤ 1024 := by
  unfold mayP at h
  rw [decide_eq_true_eq] at h
  refine ⟨h.2.2.2, ?_⟩
  have h1 := count_flatB (p := p) (fun b hb => by
    obtain ⟨j, hj, rfl⟩ := List.mem_iff_getElem.1 hb
    have := (h.1 j hj).1
    simpa [List.getD, hj] using this)
  have := h.2.2.2
  omega

set_option maxRecDepth 100000 in
set_option maxHeartbeats 3200000 in
theorem less_any (vp vl : Value) (p : List Blk) (vars : List Int) (w : World) (HP : IsBlocks w vp p) (HL : IsInts w vl vars) (hp : p.length ≤ 4000000) :
    Calls Tryz.prog 27 #[vp, vl] w (LessPost w p vars) := by
  have HPP := Lib.hid HP
  have hq := quantified_any vp p w HP hp
  obtain ⟨a, cap, rfl, hlp⟩ := HP.shape
  obtain ⟨la, lc, rfl, _, _, hll, h64, bl, ol, ha, hc⟩ := HL
  have HC := Lib.hid hc
  have HA := Lib.hid ha
  have H64 := Lib.hid h64
  unfold QuantPost at hq
  clear hc ha h64 HP
  cases ho : mayP p with
  | false =>
    have hq2 : Calls Tryz.prog 55 #[.slice a p.length cap] w fun e w' => e = .returned (.tuple #[.map none, .bool false]) ∧ Below w.heap.size w w' := hq.mono fun e w' h => by
      obtain ⟨h1, ⟨h2, _, _⟩ | ⟨_, h2⟩⟩ := h
      · rw [ho] at h2; cases h2
      · exact ⟨h2, h1⟩
    have HQ := Lib.hid hq2
    have HR : Hid (lessR p vars = ([], 2)) := by show _ = _; unfold lessR; rw [ho]; rfl
    clear hq hq2 ho
    go_enter Tryz.func27, Tryz.ntmps27
    go_wp2_with (go_at_call 55; refine HQ.out.mono ?_; rintro e w1 ⟨rfl, hb1⟩)
    go_ret2
    refine ⟨.slice none 0 0, [], ?_, JoinSt.nil _ _, ?_, hb1.alloc hb1.size _⟩
    · rw [HR.out]; rfl
    · rw [HR.out]; rfl
  | true =>
    have hq2 : Calls Tryz.prog 55 #[.slice a p.length cap] w fun e w' => e = .returned (.tuple #[.map (some w.heap.size), .bool true]) ∧ SetI w' w.heap.size (flatB p) ∧ Below w.heap.size w w' := hq.mono fun e w' h => by
      obtain ⟨h1, ⟨_, h2, h3⟩ | ⟨h2, _⟩⟩ := h
      · exact ⟨h2, h3, h1⟩
      · rw [ho] at h2; cases h2
    have HQ := Lib.hid hq2
    have HR : Hid (lessR p vars = joinA (restL p vars)) := by show _ = _; unfold lessR; rw [ho]; rfl
    have hpl := mayP_len ho
    have HPL := Lib.hid hpl
    clear hq hq2 ho hpl
    go_enter Tryz.func27, Tryz.ntmps27
    go_wp2_with (go_at_call 55; refine HQ.out.mono ?_; rintro e w1 ⟨rfl, hs1, hb1⟩; have HS1 := Lib.hid hs1; have HB1 := Lib.hid hb1; clear hs1 hb1)
    have HM1 : Hid (MapB Tryz.prog 3 4 (w1.alloc (.cells #[.map (some w.heap.size)] 83)) w.heap.size (flatB p).length (stayB p [])) := by
      show MapB _ _ _ _ _ _ _
      rw [stayB_nil]
      exact HS1.out.mapB.kept (Kept.alloc (fun _ => False) _ _) (fun h => h)
    have HX1 : Hid (Boxed (w1.alloc (.cells #[.map (some w.heap.size)] 83)) w1.heap.size 83 (.map (some w.heap.size))) := Boxed.new w1 _ _
    have HBA : Hid (Below w.heap.size w (w1.alloc (.cells #[.map (some w.heap.size)] 83))) := HB1.out.alloc HB1.out.size _
    have hwlt : w.heap.size < w1.heap.size := HS1.out.lt
    clear HS1 HB1
    generalize (w1.alloc (.cells #[.map (some w.heap.size)] 83)) = wa at *
    go_loopw [23] (fun i wr => ∃ k : Nat, k ≤ vars.length ∧ i = .int .i64 k ∧ MapB Tryz.prog 3 4 wr w.heap.size (flatB p).length (stayB p (vars.take k)) ∧ Boxed wr w1.heap.size 83 (.map (some w.heap.size)) ∧ Below w.heap.size w wr) (fun i _ => vars.length - (intOf i).toNat)
    case atStart => exact ⟨0, Nat.zero_le _, rfl, HM1.out, HX1.out, HBA.out⟩
    case round =>
      obtain ⟨k, hk, rfl, hmp, hbx, hbel⟩ := hrel
      have HMP := Lib.hid hmp
      have HBX := Lib.hid hbx
      have HB := Lib.hid hbel
      have hsz := hbel.size
      have hcx := hbx.cell
      clear hmp hbx hbel
      by_cases hlt : k < vars.length
      · obtain ⟨rfl, hb⟩ := HA.out (by intro h; simp [h] at hlt)
        have hy := (HB.out.cell (p := ⟨bl, ol + k, none⟩) hb).trans (HC.out k hlt)
        have hv64 := H64.out.at k hlt
        have HTK : Hid (stayB p (vars.take (k + 1)) = fun j => stayB p (vars.take k) j && !decide (j = vars.getD k 0)) := by show _ = _; rw [ints_take_succ hlt, ← stayB_snoc]
        generalize vars.getD k 0 = x at *
        have hxw := i64w hv64.1 hv64.2
        clear hv64
        go_wp2_with (at_delete; refine wpList_delB rfl _ _ rfl rfl HMP.out x rfl hxw ?_; intro w2 hm2 hk2)
        go_roundw
        case rel => exact ⟨k + 1, by omega, by go_num, by rw [HTK.out]; exact hm2, (hk2.block _ HBX.out.lt (by omega)).trans HBX.out, HB.out.trans (hk2.belowB (Nat.le_refl _) hsz)⟩
        case measure => simp [intOf]; omega
      · have hke : k = vars.length := by omega
        subst hke
        rw [List.take_length] at HMP
        clear HM1 HX1 HBA
        generalize wr = wm at *
        have hszm := HB.out.size
        have HXM : Hid (Boxed wm w1.heap.size 83 (.map (some w.heap.size))) := HBX.out
        have HBM : Hid (Below w.heap.size w wm) := HB.out
        have hxlt : w1.heap.size < wm.heap.size := HXM.out.lt
        clear HB HBX hcx hsz
        go_wp2
        go_loopw [10, 32] (fun out i wr => ∃ (k : Nat) (t : List Trp), k ≤ p.length ∧ i = .int .i64 k ∧ RowB w wr wm.heap.size out t ∧ shapeT t = restL (p.take k) vars ∧ Below wm.heap.size wm wr) (fun _ i _ => p.length - (intOf i).toNat)
        case atStart => exact ⟨0, [], Nat.zero_le _, rfl, RowB.nil HBM.out hszm, rfl, Below.refl _ _⟩
        case round =>
          obtain ⟨k, t, hk, rfl, hrow, hsh, hbel⟩ := hrel
          have HRW := Lib.hid hrow
          have HSH := Lib.hid hsh
          have HB := Lib.hid hbel
          have hszr := hbel.size
          have HTOT : Hid (Below w.heap.size w wr) := HBM.out.trans (hbel.mono hszm)
          obtain ⟨oa, oc, rfl⟩ := hrow.shape
          clear hrow hsh hbel
          by_cases hlt2 : k < p.length
          · obtain ⟨b, off, u, rfl, hb, hcx0, hcu0, HU⟩ := HPP.out.at hlt2
            have hcx := (HTOT.out.cell (p := ⟨b, off + k * 2, none⟩) hb).trans hcx0
            have hcu := (HTOT.out.cell (p := ⟨b, off + k * 2 + 1, none⟩) hb).trans hcu0
            have hmem : p.getD k dB ∈ p := by simp [List.getD, hlt2]
            have HRT := Lib.hid (restL_take (vars := vars) hlt2)
            have HFS := Lib.hid (filter_stay (vars := vars) hmem)
            have hl2 := len_flatB hmem
            have htl : t.length = k := by
              have h1 := congrArg List.length HSH.out
              rw [shapeT_len] at h1
              unfold restL at h1
              rw [List.length_map, List.length_take] at h1
              omega
            clear hcx0 hcu0 hmem
            generalize p.getD k dB = y at *
            obtain ⟨y1, y2⟩ := y
            simp only at hcx hcu HU HRT HFS hl2
            have HUI : Hid (IsInts (wr.alloc (.cells #[.bool y1, u] 53)) u y2) := HU.below (HTOT.out.alloc (by omega) _) (Nat.le_refl _)
            obtain ⟨ua, uc, rfl⟩ := HU.shape
            have H64Y := Lib.hid HUI.out.in64
            have hyl : y2.length ≤ 4000000 := by have := HPL.out.1; omega
            have HCH := Lib.hid (chosen_any (stayB p vars) 63 #[.pointer (some ⟨w1.heap.size, 0, none⟩)] (.slice ua y2.length uc) y2 (wr.alloc (.cells #[.bool y1, .slice ua y2.length uc] 53)) less_enters (fun W hW x hx => by
              have hBW : Below wm.heap.size wm W := (HB.out.alloc hszr _).trans (hW.mono (by simp; omega))
              have c1 : W.cell? ⟨w1.heap.size, 0, none⟩ = some (.map (some w.heap.size)) := (hBW.cell (p := ⟨w1.heap.size, 0, none⟩) hxlt).trans HXM.out.cell
              exact (lessc_any w.heap.size _ _ _ x W (HMP.out.below hBW (Nat.le_refl _)) (H64Y.out x hx).1 (H64Y.out x hx).2 c1).mono fun e w' h => ⟨h.1, by rw [← h.2]; exact Below.refl _ _⟩) HUI.out hyl)
            rw [HFS.out] at HCH
            have hva0 : (wr.alloc (.cells #[.bool y1, .slice ua y2.length uc] 53)).cell? ⟨wr.heap.size, 0, none⟩ = some (.bool y1) := cell_fresh rfl
            have HV0 := Lib.hid hva0
            have hva1 : (wr.alloc (.cells #[.bool y1, .slice ua y2.length uc] 53)).cell? ⟨wr.heap.size, 1, none⟩ = some (.slice ua y2.length uc) := cell_fresh rfl
            have HRA := Lib.hid (HRW.out.below' ((Below.refl wr.heap.size wr).alloc (Nat.le_refl _) (.cells #[.bool y1, .slice ua y2.length uc] 53)) (Nat.le_refl _))
            have HBA := Lib.hid (HB.out.alloc hszr (.cells #[.bool y1, .slice ua y2.length uc] 53))
            have hswa : (wr.alloc (.cells #[.bool y1, .slice ua y2.length uc] 53)).heap.size = wr.heap.size + 1 := by simp
            have HTB : Hid (t.length < 1000000) := by show _ < _; have := HPL.out.2; omega
            clear HU hva0 hyl hl2 htl
            generalize hF : y2.filter (fun v => !decide (v ∈ vars)) = F at HCH HRT
            go_upto_region 13 with fail
            generalize (wr.alloc (.cells #[.bool y1, .slice ua y2.length uc] 53)) = wa at *
            have hxl2 : w1.heap.size < wa.heap.size := by omega
            have hwlt2 : wr.heap.size < wa.heap.size := by omega
            have hszma : wm.heap.size ≤ wa.heap.size := HBA.out.size
            have hcw : w1.heap.size < wa.heap.size := hxl2
            go_wp2_with (first
              | (go_at_call 58; refine HCH.out.mono ?_; rintro e w3 ⟨u3, rfl, ho3, hb3⟩; obtain ⟨a3, c3, rfl⟩ := ElemB.shape (w0 := w) (.inl ho3); have v0 : w3.cell? ⟨wr.heap.size, 0, none⟩ = some (.bool y1) := (hb3.cell (p := ⟨wr.heap.size, 0, none⟩) hwlt2).trans HV0.out; have HR3 := Lib.hid ((HRA.out.below' hb3 (Nat.le_refl _)).below' ((Below.refl w3.heap.size w3).alloc (Nat.le_refl _) (.cells #[.bool y1, .slice a3 F.length c3] 53)) (Nat.le_refl _)).row; have HW3 := Lib.hid (Nat.le_trans hszma (hb3.alloc hb3.size (.cells #[.bool y1, .slice a3 F.length c3] 53)).size); have HO3 := Lib.hid ho3; have HB3 := Lib.hid hb3; clear ho3 hb3)
              | (at_builtin; refine wpList_appBlk rfl (.tmp 40) (.tmp 45) rfl wm.heap.size (.slice oa t.length oc) (.slice a3 F.length c3) t y1 F w3.heap.size rfl rfl HR3.out (cell_fresh rfl) (cell_fresh rfl) rfl HTB.out HW3.out ?_; intro v4 w4 hrow4 hg4; have HR4 := Lib.hid hrow4; have HG4 := Lib.hid hg4; clear hrow4 hg4))
            have HB3a := Lib.hid (HB3.out.alloc HB3.out.size (.cells #[.bool y1, .slice a3 F.length c3] 53))
            have HRN := Lib.hid (RowB.more (s := [(y1, .slice a3 F.length c3, F)]) HRA.out hszma HB3a.out (fun x hx => by
              rw [List.mem_singleton] at hx
              subst hx
              exact .inl ((HO3.out.mono hszma).alloc _)) HR4.out HG4.out)
            have HBN := Lib.hid ((HBA.out.trans (HB3a.out.mono hszma)).grown HG4.out (Nat.le_trans hszma HB3a.out.size) (fun g hg => (rowB_lt HRA.out.row g hg).1))
            go_roundw
            case rel => exact ⟨k + 1, _, by omega, by go_num, HRN.out, by rw [shapeT_app, HRT.out, HSH.out]; rfl, HBN.out⟩
            case measure => simp [intOf]; omega
          · have hke : k = p.length := by omega
            subst hke
            rw [List.take_length] at HSH
            have hmm : ∀ x ∈ t, x.2.2.length ≤ 1024 ∧ In64 x.2.2 := fun x hx => by
              have h1 : (x.1, x.2.2) ∈ shapeT t := List.mem_map_of_mem (f := fun x : Trp => (x.1, x.2.2)) hx
              rw [HSH.out] at h1
              unfold restL at h1
              obtain ⟨c, hc, e⟩ := List.mem_map.1 h1
              injection e with e1 e2
              rw [← e2]
              refine ⟨Nat.le_trans (List.length_filter_le _ _) (Nat.le_trans (len_flatB hc) HPL.out.1), fun z hz => ?_⟩
              obtain ⟨j, hj, rfl⟩ := List.mem_iff_getElem.1 hc
              obtain ⟨_, _, _, _, _, _, _, hu⟩ := HPP.out.at hj
              have h5 := hu.in64
              have h6 : p.getD j (false, []) = p[j] := by simp [List.getD, hj]
              rw [h6] at h5
              exact h5 z (List.mem_filter.1 hz).1
            have htl : t.length ≤ 1024 := by
              have h1 := congrArg List.length HSH.out
              rw [shapeT_len] at h1
              unfold restL at h1
              rw [List.length_map] at h1
              have := HPL.out.2
              omega
            have hib := HRW.out.blocks (by omega) (fun x hx => ⟨by have := (hmm x hx).1; omega, (hmm x hx).2⟩)
            rw [HSH.out] at hib
            have hfl : (flatB (restL p vars)).length ≤ 4000000 := by
              rw [restL_flat]
              have h1 := List.length_filter_le (fun v => !decide (v ∈ vars)) (flatB p)
              have := HPL.out.1
              omega
            have HJN := Lib.hid (join1_any _ (restL p vars) wr hib hfl)
            clear hmm hib hfl
            go_wp2_with (go_at_call 24; refine HJN.out.mono ?_; rintro e w5 ⟨v5, t5, rfl, hj5, hs5, hb5⟩)
            go_ret2
            have hszt := HTOT.out.size
            refine ⟨v5, t5, ?_, hj5.mono hszt, ?_, HTOT.out.trans (hb5.mono hszt)⟩
            · rw [HR.out]; rfl
            · rw [HR.out]; exact hs5

end Go.Proofs.YtmiijgjpkkmoaaaGreat
