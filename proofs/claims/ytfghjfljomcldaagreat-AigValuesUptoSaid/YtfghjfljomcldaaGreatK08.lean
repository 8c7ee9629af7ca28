/- Joined texts: CxVals. -/
import Derived.Test.YtfghjfljomcldaaGreatK07
import Derived.Deep.RegionHeld3
import Derived.OwnWalk
/- circ.values. -/
namespace Go.Proofs.YtfghjfljomcldaaGreat
open Go.RowKit Go.Maps
set_option linter.unusedVariables false
set_option linter.unusedSimpArgs false

theorem takeC {P : Program} {md : Region.Mode} {ops : Array Oper} {Q : Exit → Act → World → Prop} {S : World → Prop} {i : Nat} {oi : Oper} {v : Value} (d : Option Tmp) {fuel : Nat} {listed : Array Bool} {a : Act} {w : World} (hi : ops[i]? = some oi) (hd : oi.dst = d)
    (hs : Region.noSelect ops = true) (hf : Region.free md ops listed i = true) (hr : (Region.ready md ops listed).contains i = true)
    (hQ : ∀ c a w, Q (.panic c) (a.put oi.dst v) w → Q (.panic c) a w) (hy : YieldsIf P ops S oi v a) (hS : S w)
    (h : wpAnyH P md ops Q S fuel (listed.setIfInBounds i true) (a.put d v) w) : wpAnyH P md ops Q S (fuel + 1) listed a w := by
  subst hd
  exact wpAnyH_take hi hs hf hr hQ hy hS h
def updB (h : Int → Bool) (k : Int) (y : Bool) : Int → Bool := fun j => if j = k then y else h j
theorem MapH.put {w : World} {b n : Nat} {h : Int → Bool} (m : MapH w b n h) (hn : n < maxLen) (k : Int) (y : Bool) (hw : (Lit.int .i64 k).wf = true) :
    ∃ w', (Instr.mapUpdate 181 (.map (some b)) (.int .i64 k) (.bool y)).run Tryz.prog w = .ok () w' ∧ MapH w' b (n + 1) (updB h k y) ∧ Kept (fun i => i = b) w w' := by
  obtain ⟨D, h1, hD, h2⟩ := m
  obtain ⟨w', hrun, h3, h4⟩ := h1.update (int_keyed Tryz.underlying3) Tryz.underlying181 hn (keyOf_int_mk Tryz.underlying3 hw) (plainElem_bool Tryz.underlying4 y)
  refine ⟨w', hrun, ⟨_, h3, hD.put _ _, fun j => ?_⟩, (Kept.of_grown h4).mono fun i _ e => (Option.some.inj e).symm⟩
  unfold updB
  by_cases e : j = k
  · subst e
    rw [atKey_put_same hD (show WideAt.IsKeyLit (Lit.int _ _) from trivial)]
    simp
  · rw [atKey_put_other (by simpa using e), h2]
    simp [e]
theorem step_putH {ops : Array Oper} {o : Oper} {a : Act} {w : World} {K : Act → World → Prop} {Q : Exit → Act → World → Prop} {E : Prop} (hgd : o.guard = none) (m x v : Operand) (hop : o.op = Op.mapUpdate 181 m x v)
    {b n : Nat} {h : Int → Bool} (hm : a.eval m = .map (some b)) (hb : MapH w b n h) (hn : n < maxLen) (k : Int) (y : Bool) (hx : a.eval x = .int .i64 k) (hv : a.eval v = .bool y) (hw : (Lit.int .i64 k).wf = true)
    (hQ : ∀ w', MapH w' b (n + 1) (updB h k y) → Kept (fun i => i = b) w w' → K (a.put o.dst undef) w') : if Region.wanted o (yielded ops a.tmps) = true then Oper.wp Tryz.prog o a w K Q else E := by
  have hw' : Region.wanted o (yielded ops a.tmps) = true := by simp [Region.wanted, hgd]
  rw [if_pos hw']
  obtain ⟨w', hrun, h3, h4⟩ := MapH.put hb hn k y hw
  unfold Oper.wp
  simp [execOp, hop, hm, hx, hv, hrun, Result.andThen]
  exact hQ _ h3 h4

/-- What an assignment says. -/
def setA (h : Int → Bool) (l : List Int) : Int → Bool := l.foldl (fun h x => updB h (varC x) (decide (0 < x))) h
theorem setA_snoc (h : Int → Bool) (l : List Int) (x : Int) : setA h (l ++ [x]) = updB (setA h l) (varC x) (decide (0 < x)) := by unfold setA; rw [List.foldl_append]; rfl
/-- The value of a gate. -/
def gateV (h : Int → Bool) (k : Int) (l : List Int) : Bool := if k = 1 then l.all (litV h) else if k = 2 then l.any (litV h) else if k = 3 then (litV h (l.getD 0 0) != litV h (l.getD 1 0)) else (if litV h (l.getD 0 0) = true then litV h (l.getD 1 0) else litV h (l.getD 2 0))
def gStep (s : (Int → Bool) × List Bool) (g : Gt) : (Int → Bool) × List Bool := (updB s.1 g.1 (gateV s.1 g.2.1 g.2.2), s.2 ++ [gateV s.1 g.2.1 g.2.2])
def runG (h : Int → Bool) (gs : List Gt) : (Int → Bool) × List Bool := gs.foldl gStep (h, [])
theorem runG_snoc (h : Int → Bool) (gs : List Gt) (g : Gt) : runG h (gs ++ [g]) = gStep (runG h gs) g := by unfold runG; rw [List.foldl_append]; rfl
theorem runG_len (h : Int → Bool) : ∀ (gs : List Gt) (k : Nat), k ≤ gs.length → (runG h (gs.take k)).2.length = k
  | gs, 0, _ => rfl
  | gs, k + 1, hk => by
    rw [gates_take (by omega), runG_snoc]
    show ((runG h (gs.take k)).2 ++ _).length = _
    rw [List.length_append, runG_len h gs k (by omega)]
    rfl
/-- A row of bools of the call's own. -/
def OwnB (w : World) (B : Nat) (v : Value) (bs : List Bool) : Prop := w.ownsRow B 4 1 v bs.length (bs.map Value.bool)
theorem info_boolC : (Tryz.prog.info? 4).map (fun i => (i.zero, i.size, i.bytes)) = some (some (.bool false), 1, 1) := by kernel_rfl
theorem wpList_appBo {w : World} {ops : Array Oper} {rest : List Oper} {o : Oper} {a : Act} {Q : Exit → Act → World → Prop} (hgd : o.guard = none) (s x : Operand)
    (ho : o.op = .call { callee := .builtin .append, args := #[s, x], argTypes := #[46, 46] }) (B : Nat) (v : Value) (xs : List Bool) (y : Bool) (g : Nat)
    (hs : a.eval s = v) (hx : a.eval x = .slice (some ⟨g, 0, none⟩) 1 1) (hown : OwnB w B v xs) (hy : w.cell? ⟨g, 0, none⟩ = some (.bool y)) (hlen : xs.length < 17592186044416) (hB : B ≤ w.heap.size)
    (h : ∀ v' w', OwnB w' B v' (xs ++ [y]) → w.grownBy w' v.ownBlock → wpList Tryz.prog ops Q rest (a.put o.dst v') w') : wpList Tryz.prog ops Q (o :: rest) a w := by
  obtain ⟨i0, hi, hz0, hz1, hz2⟩ := info_parts info_boolC
  refine wpList_append_own _ hgd s x 46 ho B 4 i0 (.bool false) 1 1 Tryz.underlying46 hi hz0 hz1 hz2 rfl (by decide) v xs.length _ hs hown ⟨g, 0, none⟩ 1 1 [.bool y] hx (by simp) ?_ (by simp [Value.oneCell']) (by unfold maxLen; omega) (by omega) hB ?_
  · intro j u hj
    match j, hj with
    | 0, hj => simp at hj; subst hj; simpa [Addr.add] using hy
  · intro v' w' h1 h2 _
    refine h v' w' ?_ h2
    unfold OwnB
    rw [List.length_append, List.map_append]
    exact h1
theorem ownB_shape {w : World} {B : Nat} {v : Value} {xs : List Bool} (h : OwnB w B v xs) : ∃ a n c, v = .slice a n c := by
  rcases h.2 with ⟨rfl, _⟩ | ⟨g, cap, cur, rfl, _⟩
  · exact ⟨_, _, _, rfl⟩
  · exact ⟨_, _, _, rfl⟩
theorem ownB_lt {w : World} {B : Nat} {v : Value} {xs : List Bool} (h : OwnB w B v xs) : ∀ g, v.ownBlock = some g → B ≤ g ∧ g < w.heap.size := World.ownsRow.lt h

theorem keptOf {S : Nat → Prop} {w w' : World} (h : Below w.heap.size w w') : Kept S w w' := ⟨h.os, h.tape, h.output, h.size, fun k hk _ => h.block k hk⟩
theorem MapH.keep {w w' : World} {b n : Nat} {h : Int → Bool} (m : MapH w b n h) {S : Nat → Prop} (k : Kept S w w') (hb : ¬ S b) : MapH w' b n h := MapB.kept m k hb
theorem cevs_to (f : Nat) (cb : Array Value) (w : World) :
    Calls Tryz.prog 177 #[.func (.func f) #[] cb] w fun e w' => e = .returned (.agg #[.nilFunc, .func (.func 197) #[] #[.pointer (some ⟨w.heap.size, 0, none⟩)], .func (.func 199) #[] #[.pointer (some ⟨w.heap.size, 0, none⟩)], .func (.func 200) #[] #[.pointer (some ⟨w.heap.size, 0, none⟩)], .func (.func 201) #[] #[.pointer (some ⟨w.heap.size, 0, none⟩)]]) ∧ Below w.heap.size w w' ∧ w'.cell? ⟨w.heap.size, 0, none⟩ = some (.func (.func f) #[] cb) ∧ w.heap.size < w'.heap.size := cevs_any f cb w
theorem ownB_mono {w : World} {B B' : Nat} {v : Value} {xs : List Bool} (h : OwnB w B v xs) (hB : B' ≤ B) : OwnB w B' v xs := by
  refine ⟨h.1, ?_⟩
  rcases h.2 with hn | ⟨g, cap, cur, hv, hb, rest⟩
  · exact .inl hn
  · exact .inr ⟨g, cap, cur, hv, Nat.le_trans hB hb, rest⟩
theorem fits_kind {k : Int} {n : Nat} (h : fitsB k n = true) : k = 1 ∨ k = 2 ∨ (k = 3 ∧ n = 2) ∨ (k = 4 ∧ n = 3) := by
  unfold fitsB at h
  split at h
  · rename_i h1; omega
  · split at h
    · rename_i h3; simp at h; omega
    · split at h
      · simp at h; omega
      · cases h
def ValPost (w : World) (gs : List Gt) (a : List Int) (o : Int) (e : Ending) (w' : World) : Prop :=
  ∃ v, e = .returned (.tuple #[v, .bool (litV (runG (setA (fun _ => false) a) gs).1 o)]) ∧ OwnB w' w.heap.size v (runG (setA (fun _ => false) a) gs).2 ∧ Below w.heap.size w w'

set_option maxRecDepth 100000 in
set_option maxHeartbeats 6400000 in
theorem cvalues_any (vp vg va : Value) (o : Int) (P : List Blk) (gs : List Gt) (a : List Int) (w : World) (HP : IsBlocks w vp P) (HG : IsGates w vg gs) (HA : IsInts w va a) (hfit : ∀ g ∈ gs, fitsB g.2.1 g.2.2.length = true) (hg : gs.length ≤ 3000000) (ha : a.length ≤ 3000000) (ho1 : -9223372036854775808 ≤ o) (ho2 : o ≤ 9223372036854775807) :
    Calls Tryz.prog 136 #[.agg #[vp, vg, .int .i64 o], va] w (ValPost w gs a o) := by
  have HGW := Lib.hid HG
  have HAW := Lib.hid HA
  have HFI := Lib.hid hfit
  obtain ⟨pa, pc, rfl, _⟩ := HP.shape
  obtain ⟨ga, gc, rfl, _⟩ := HG.shape
  obtain ⟨aa, ac, rfl⟩ := HA.shape
  have hmm := @run_makeMap Tryz.prog
  have hb0 : Below w.heap.size w (((w.alloc (.cells #[.slice pa P.length pc, .slice ga gs.length gc, .int .i64 o] 98)).alloc (.map #[] 0)).alloc (.cells #[.map (some (w.heap.size + 1))] 181)) := (((Below.refl w.heap.size w).alloc (Nat.le_refl _) _).alloc (by simp) _).alloc (by simp; omega) _
  have hm0 : MapH (((w.alloc (.cells #[.slice pa P.length pc, .slice ga gs.length gc, .int .i64 o] 98)).alloc (.map #[] 0)).alloc (.cells #[.map (some (w.heap.size + 1))] 181)) (w.heap.size + 1) 0 (fun _ => false) := by
    have h := MapB.made (w.alloc (.cells #[.slice pa P.length pc, .slice ga gs.length gc, .int .i64 o] 98)) Tryz.prog 3 4
    have h2 : (w.alloc (.cells #[.slice pa P.length pc, .slice ga gs.length gc, .int .i64 o] 98)).heap.size = w.heap.size + 1 := by simp
    rw [h2] at h
    exact MapH.keep h (S := fun _ => False) (keptOf ((Below.refl _ _).alloc (Nat.le_refl _) _)) (fun h => h)
  have hc1 : (((w.alloc (.cells #[.slice pa P.length pc, .slice ga gs.length gc, .int .i64 o] 98)).alloc (.map #[] 0)).alloc (.cells #[.map (some (w.heap.size + 1))] 181)).cell? ⟨w.heap.size, 1, none⟩ = some (.slice ga gs.length gc) := cell_old (cell_old (cell_fresh rfl))
  have hc2 : (((w.alloc (.cells #[.slice pa P.length pc, .slice ga gs.length gc, .int .i64 o] 98)).alloc (.map #[] 0)).alloc (.cells #[.map (some (w.heap.size + 1))] 181)).cell? ⟨w.heap.size, 2, none⟩ = some (.int .i64 o) := cell_old (cell_old (cell_fresh rfl))
  have hc3 : (((w.alloc (.cells #[.slice pa P.length pc, .slice ga gs.length gc, .int .i64 o] 98)).alloc (.map #[] 0)).alloc (.cells #[.map (some (w.heap.size + 1))] 181)).cell? ⟨w.heap.size + 2, 0, none⟩ = some (.map (some (w.heap.size + 1))) := by
    have h := cell_fresh (w := (w.alloc (.cells #[.slice pa P.length pc, .slice ga gs.length gc, .int .i64 o] 98)).alloc (.map #[] 0)) (c := #[.map (some (w.heap.size + 1))]) (T := 181) (i := 0) rfl
    simpa using h
  have hsz : (((w.alloc (.cells #[.slice pa P.length pc, .slice ga gs.length gc, .int .i64 o] 98)).alloc (.map #[] 0)).alloc (.cells #[.map (some (w.heap.size + 1))] 181)).heap.size = w.heap.size + 3 := by simp
  have HB0 := Lib.hid hb0
  have HM0 := Lib.hid hm0
  have HC1 := Lib.hid hc1
  have HC2 := Lib.hid hc2
  have HC3 := Lib.hid hc3
  have HSZ := Lib.hid hsz
  clear HP HG HA hb0 hm0 hc1 hc2 hc3 hsz hfit
  go_enter Tryz.func136, Tryz.ntmps136
  go_wp2
  generalize ((w.alloc (.cells #[.slice pa P.length pc, .slice ga gs.length gc, .int .i64 o] 98)).alloc (.map #[] 0)).alloc (.cells #[.map (some (w.heap.size + 1))] 181) = W at *
  have HX : Hid (∀ X, Kept (fun i => i = w.heap.size + 1) W X → Below w.heap.size w X ∧ X.cell? ⟨w.heap.size, 1, none⟩ = some (.slice ga gs.length gc) ∧ X.cell? ⟨w.heap.size, 2, none⟩ = some (.int .i64 o) ∧ X.cell? ⟨w.heap.size + 2, 0, none⟩ = some (.map (some (w.heap.size + 1)))) := fun X hX => by
    have h := HSZ.out
    exact ⟨HB0.out.trans (hX.below (by omega) (fun i hi e => by omega)), (hX.cell (p := ⟨w.heap.size, 1, none⟩) (by simp; omega) (by simp)).trans HC1.out, (hX.cell (p := ⟨w.heap.size, 2, none⟩) (by simp; omega) (by simp)).trans HC2.out, (hX.cell (p := ⟨w.heap.size + 2, 0, none⟩) (by simp; omega) (by simp)).trans HC3.out⟩
  go_loopw [16] (fun i wr => ∃ k : Nat, k ≤ a.length ∧ i = .int .i64 k ∧ Kept (fun i => i = w.heap.size + 1) W wr ∧ MapH wr (w.heap.size + 1) k (setA (fun _ => false) (a.take k))) (fun i _ => a.length - (intOf i).toNat)
  case atStart => exact ⟨0, Nat.zero_le _, rfl, Kept.refl _ _, HM0.out⟩
  case round =>
    clear HM0
    obtain ⟨k, hk, rfl, hke, hmp⟩ := hrel
    obtain ⟨hbw, q1, q2, q3⟩ := HX.out wr hke
    by_cases hlt : k < a.length
    · obtain ⟨b, off, rfl, hb, hc0⟩ := HAW.out.cellY hlt
      have hcx := (hbw.cell (p := ⟨b, off + k, none⟩) hb).trans hc0
      have h64 : In64 a := by obtain ⟨_, _, _, _, _, _, g, _⟩ := HAW.out; exact g
      have hxr := h64 _ (ints_getD_mem hlt)
      have HTS : Hid (setA (fun _ => false) (a.take (k + 1)) = updB (setA (fun _ => false) (a.take k)) (varC (a.getD k 0)) (decide (0 < a.getD k 0))) := by show _ = _; rw [ints_take_succ hlt, setA_snoc]
      have hk0 : (0 : Int) ≤ (k : Int) := by omega
      have hk1 : (k : Int) < (a.length : Int) := by omega
      have hk2 : (k : Int) < 4000001 := by omega
      have HKL := Lib.hid hlt
      have HKE := Lib.hid hke
      have HMP := Lib.hid hmp
      have HV : Hid (∀ X, Calls Tryz.prog 175 #[.int .i64 (a.getD k 0)] X fun e w' => e = .returned (.int .i64 (varC (a.getD k 0))) ∧ X = w') := fun X => cvar_any _ X hxr.1 hxr.2
      have hvr := varC_64 hxr.1 hxr.2
      have HVW := Lib.hid (i64w hvr.1 hvr.2)
      clear hc0 h64 hxr hke hmp hvr hbw
      generalize a.getD k 0 = x at *
      generalize varC x = y at *
      generalize setA (fun _ => false) (a.take k) = h at *
      by_cases hp : 0 < x
      · have HPD : Hid (decide (0 < x) = true) := by show _ = _; simpa using hp
        rw [HPD.out] at HTS
        go_wp2_with fail
        have hS0 : Kept (fun i => i = w.heap.size + 1) W wr.drew := HKE.out.trans (keptOf (Below.refl _ _).drew)
        have HMD : Hid (MapH wr.drew (w.heap.size + 1) k h) := MapH.quiet HMP.out ⟨1, rfl⟩
        refine wp_region_held_drew (S := fun X => Kept (fun i => i = w.heap.size + 1) W X) (by kernel_rfl) hS0 (fun hSd => ?_)
        clear hS0 HMP HKE
        generalize wr.drew = wd at *
        refine takeC (i := 0) (v := .map (some (w.heap.size + 1))) (some 20) rfl rfl (by kernel_rfl) (by kernel_rfl) (by kernel_rfl) (fun _ _ _ h => h) (Or.inl ⟨by rfl, ?_⟩) (by assumption) ?_
        · intro wz hSw; obtain ⟨_, r1, r2, r3⟩ := HX.out wz hSw; go_simp
        try simp only [Act.put, List.setIfInBounds_toArray, List.set_cons_zero, List.set_cons_succ]
        refine takeC (i := 1) (v := .int .i64 x) (some 21) rfl rfl (by kernel_rfl) (by kernel_rfl) (by kernel_rfl) (fun _ _ _ h => h) (Or.inl ⟨by rfl, ?_⟩) (by assumption) ?_
        · intro wz hSw; obtain ⟨_, r1, r2, r3⟩ := HX.out wz hSw; go_simp
        try simp only [Act.put, List.setIfInBounds_toArray, List.set_cons_zero, List.set_cons_succ]
        refine takeC (i := 3) (v := .int .i64 x) (some 23) rfl rfl (by kernel_rfl) (by kernel_rfl) (by kernel_rfl) (fun _ _ _ h => h) (Or.inl ⟨by rfl, ?_⟩) (by assumption) ?_
        · intro wz hSw; obtain ⟨_, r1, r2, r3⟩ := HX.out wz hSw; go_simp
        try simp only [Act.put, List.setIfInBounds_toArray, List.set_cons_zero, List.set_cons_succ]
        refine takeC (i := 4) (v := .bool true) (some 24) rfl rfl (by kernel_rfl) (by kernel_rfl) (by kernel_rfl) (fun _ _ _ h => h) (Or.inl ⟨by rfl, ?_⟩) (by assumption) ?_
        · intro wz hSw; obtain ⟨_, r1, r2, r3⟩ := HX.out wz hSw; go_simp
        try simp only [Act.put, List.setIfInBounds_toArray, List.set_cons_zero, List.set_cons_succ]
        refine wpAnyH_ready (rs := [2]) (by kernel_rfl) (by simp) ?_
        refine AllReadyH.cons rfl (fun K hK => ?_) AllReadyH.nil
        go_simp
        go_wp2_with (go_at_call 175; refine (HV.out wd).mono ?_; rintro e w5 ⟨rfl, rfl⟩)
        refine hK.out _ _ hSd (fun hH5 => ?_)
        clear hK K
        try simp only [Act.put, List.setIfInBounds_toArray, List.set_cons_zero, List.set_cons_succ]
        refine wpAnyH_ready (rs := [5]) (by kernel_rfl) (by simp) ?_
        refine AllReadyH.cons rfl (fun K hK => ?_) AllReadyH.nil
        refine step_putH rfl (.tmp 20) (.tmp 22) (.tmp 24) rfl rfl HMD.out (by unfold maxLen; omega) y true rfl rfl HVW.out ?_
        intro w6 hm6 hk6
        refine hK.out _ _ (hSd.trans hk6) (fun hH6 => ?_)
        clear hK K
        refine wpAnyH_done (by kernel_rfl) ?_ _
        have HM6 := Lib.hid hm6
        have HH6 := Lib.hid hH6
        clear hm6 hk6 hH5 hH6 hSd
        go_wp2
        go_roundw
        case rel => exact ⟨k + 1, by have := HKL.out; omega, by go_num, HH6.out, by rw [HTS.out]; exact HM6.out⟩
        case measure => have := HKL.out; simp [intOf]; omega
      · have hp' : ¬ (0 < x) := hp
        have HPD : Hid (decide (0 < x) = false) := by show _ = _; simpa using hp
        rw [HPD.out] at HTS
        go_wp2_with fail
        have hS0 : Kept (fun i => i = w.heap.size + 1) W wr.drew := HKE.out.trans (keptOf (Below.refl _ _).drew)
        have HMD : Hid (MapH wr.drew (w.heap.size + 1) k h) := MapH.quiet HMP.out ⟨1, rfl⟩
        refine wp_region_held_drew (S := fun X => Kept (fun i => i = w.heap.size + 1) W X) (by kernel_rfl) hS0 (fun hSd => ?_)
        clear hS0 HMP HKE
        generalize wr.drew = wd at *
        refine takeC (i := 0) (v := .map (some (w.heap.size + 1))) (some 20) rfl rfl (by kernel_rfl) (by kernel_rfl) (by kernel_rfl) (fun _ _ _ h => h) (Or.inl ⟨by rfl, ?_⟩) (by assumption) ?_
        · intro wz hSw; obtain ⟨_, r1, r2, r3⟩ := HX.out wz hSw; go_simp
        try simp only [Act.put, List.setIfInBounds_toArray, List.set_cons_zero, List.set_cons_succ]
        refine takeC (i := 1) (v := .int .i64 x) (some 21) rfl rfl (by kernel_rfl) (by kernel_rfl) (by kernel_rfl) (fun _ _ _ h => h) (Or.inl ⟨by rfl, ?_⟩) (by assumption) ?_
        · intro wz hSw; obtain ⟨_, r1, r2, r3⟩ := HX.out wz hSw; go_simp
        try simp only [Act.put, List.setIfInBounds_toArray, List.set_cons_zero, List.set_cons_succ]
        refine takeC (i := 3) (v := .int .i64 x) (some 23) rfl rfl (by kernel_rfl) (by kernel_rfl) (by kernel_rfl) (fun _ _ _ h => h) (Or.inl ⟨by rfl, ?_⟩) (by assumption) ?_
        · intro wz hSw; obtain ⟨_, r1, r2, r3⟩ := HX.out wz hSw; go_simp
        try simp only [Act.put, List.setIfInBounds_toArray, List.set_cons_zero, List.set_cons_succ]
        refine takeC (i := 4) (v := .bool false) (some 24) rfl rfl (by kernel_rfl) (by kernel_rfl) (by kernel_rfl) (fun _ _ _ h => h) (Or.inl ⟨by rfl, ?_⟩) (by assumption) ?_
        · intro wz hSw; obtain ⟨_, r1, r2, r3⟩ := HX.out wz hSw; go_simp
        try simp only [Act.put, List.setIfInBounds_toArray, List.set_cons_zero, List.set_cons_succ]
        refine wpAnyH_ready (rs := [2]) (by kernel_rfl) (by simp) ?_
        refine AllReadyH.cons rfl (fun K hK => ?_) AllReadyH.nil
        go_simp
        go_wp2_with (go_at_call 175; refine (HV.out wd).mono ?_; rintro e w5 ⟨rfl, rfl⟩)
        refine hK.out _ _ hSd (fun hH5 => ?_)
        clear hK K
        try simp only [Act.put, List.setIfInBounds_toArray, List.set_cons_zero, List.set_cons_succ]
        refine wpAnyH_ready (rs := [5]) (by kernel_rfl) (by simp) ?_
        refine AllReadyH.cons rfl (fun K hK => ?_) AllReadyH.nil
        refine step_putH rfl (.tmp 20) (.tmp 22) (.tmp 24) rfl rfl HMD.out (by unfold maxLen; omega) y false rfl rfl HVW.out ?_
        intro w6 hm6 hk6
        refine hK.out _ _ (hSd.trans hk6) (fun hH6 => ?_)
        clear hK K
        refine wpAnyH_done (by kernel_rfl) ?_ _
        have HM6 := Lib.hid hm6
        have HH6 := Lib.hid hH6
        clear hm6 hk6 hH5 hH6 hSd
        go_wp2
        go_roundw
        case rel => exact ⟨k + 1, by have := HKL.out; omega, by go_num, HH6.out, by rw [HTS.out]; exact HM6.out⟩
        case measure => have := HKL.out; simp [intOf]; omega
    · obtain rfl : k = a.length := by omega
      rw [List.take_length] at hmp
      have HKE := Lib.hid hke
      have HMP := Lib.hid hmp
      clear hke hmp
      have HEVS := Lib.hid (cevs_to 176 #[.pointer (some ⟨w.heap.size + 2, 0, none⟩)] wr)
      have HSR : Hid (w.heap.size + 3 ≤ wr.heap.size) := by have := HKE.out.size; have := HSZ.out; show _ ≤ _; omega
      clear hbw
      go_upto_region 9 with (go_at_call 177; refine HEVS.out.mono ?_; rintro e w2 ⟨rfl, hb2, hcf2, hl2⟩)
      have hk2 : Kept (fun i => i = w.heap.size + 1) W (w2.alloc (.cells #[.nilFunc, .func (.func 197) #[] #[.pointer (some ⟨wr.heap.size, 0, none⟩)], .func (.func 199) #[] #[.pointer (some ⟨wr.heap.size, 0, none⟩)], .func (.func 200) #[] #[.pointer (some ⟨wr.heap.size, 0, none⟩)], .func (.func 201) #[] #[.pointer (some ⟨wr.heap.size, 0, none⟩)]] 195)) := HKE.out.trans (keptOf (hb2.alloc hb2.size _))
      have hba : Below w2.heap.size w2 (w2.alloc (.cells #[.nilFunc, .func (.func 197) #[] #[.pointer (some ⟨wr.heap.size, 0, none⟩)], .func (.func 199) #[] #[.pointer (some ⟨wr.heap.size, 0, none⟩)], .func (.func 200) #[] #[.pointer (some ⟨wr.heap.size, 0, none⟩)], .func (.func 201) #[] #[.pointer (some ⟨wr.heap.size, 0, none⟩)]] 195)) := (Below.refl _ _).alloc (Nat.le_refl _) _
      have HK2 := Lib.hid hk2
      have HM2 : Hid (MapH (w2.alloc (.cells #[.nilFunc, .func (.func 197) #[] #[.pointer (some ⟨wr.heap.size, 0, none⟩)], .func (.func 199) #[] #[.pointer (some ⟨wr.heap.size, 0, none⟩)], .func (.func 200) #[] #[.pointer (some ⟨wr.heap.size, 0, none⟩)], .func (.func 201) #[] #[.pointer (some ⟨wr.heap.size, 0, none⟩)]] 195)) (w.heap.size + 1) a.length (setA (fun _ => false) a)) := MapH.keep HMP.out (S := fun _ => False) (keptOf (hb2.alloc hb2.size _)) (fun h => h)
      have HCE : Hid ((w2.alloc (.cells #[.nilFunc, .func (.func 197) #[] #[.pointer (some ⟨wr.heap.size, 0, none⟩)], .func (.func 199) #[] #[.pointer (some ⟨wr.heap.size, 0, none⟩)], .func (.func 200) #[] #[.pointer (some ⟨wr.heap.size, 0, none⟩)], .func (.func 201) #[] #[.pointer (some ⟨wr.heap.size, 0, none⟩)]] 195)).cell? ⟨wr.heap.size, 0, none⟩ = some (.func (.func 176) #[] #[.pointer (some ⟨w.heap.size + 2, 0, none⟩)])) := (hba.cell (p := ⟨wr.heap.size, 0, none⟩) hl2).trans hcf2
      have HA1 : Hid ((w2.alloc (.cells #[.nilFunc, .func (.func 197) #[] #[.pointer (some ⟨wr.heap.size, 0, none⟩)], .func (.func 199) #[] #[.pointer (some ⟨wr.heap.size, 0, none⟩)], .func (.func 200) #[] #[.pointer (some ⟨wr.heap.size, 0, none⟩)], .func (.func 201) #[] #[.pointer (some ⟨wr.heap.size, 0, none⟩)]] 195)).cell? ⟨w2.heap.size, 1, none⟩ = some (.func (.func 197) #[] #[.pointer (some ⟨wr.heap.size, 0, none⟩)])) := cell_fresh rfl
      have HA2 : Hid ((w2.alloc (.cells #[.nilFunc, .func (.func 197) #[] #[.pointer (some ⟨wr.heap.size, 0, none⟩)], .func (.func 199) #[] #[.pointer (some ⟨wr.heap.size, 0, none⟩)], .func (.func 200) #[] #[.pointer (some ⟨wr.heap.size, 0, none⟩)], .func (.func 201) #[] #[.pointer (some ⟨wr.heap.size, 0, none⟩)]] 195)).cell? ⟨w2.heap.size, 2, none⟩ = some (.func (.func 199) #[] #[.pointer (some ⟨wr.heap.size, 0, none⟩)])) := cell_fresh rfl
      have HA3 : Hid ((w2.alloc (.cells #[.nilFunc, .func (.func 197) #[] #[.pointer (some ⟨wr.heap.size, 0, none⟩)], .func (.func 199) #[] #[.pointer (some ⟨wr.heap.size, 0, none⟩)], .func (.func 200) #[] #[.pointer (some ⟨wr.heap.size, 0, none⟩)], .func (.func 201) #[] #[.pointer (some ⟨wr.heap.size, 0, none⟩)]] 195)).cell? ⟨w2.heap.size, 3, none⟩ = some (.func (.func 200) #[] #[.pointer (some ⟨wr.heap.size, 0, none⟩)])) := cell_fresh rfl
      have HA4 : Hid ((w2.alloc (.cells #[.nilFunc, .func (.func 197) #[] #[.pointer (some ⟨wr.heap.size, 0, none⟩)], .func (.func 199) #[] #[.pointer (some ⟨wr.heap.size, 0, none⟩)], .func (.func 200) #[] #[.pointer (some ⟨wr.heap.size, 0, none⟩)], .func (.func 201) #[] #[.pointer (some ⟨wr.heap.size, 0, none⟩)]] 195)).cell? ⟨w2.heap.size, 4, none⟩ = some (.func (.func 201) #[] #[.pointer (some ⟨wr.heap.size, 0, none⟩)])) := cell_fresh rfl
      have HLT : Hid (w.heap.size + 3 ≤ wr.heap.size ∧ wr.heap.size < (w2.alloc (.cells #[.nilFunc, .func (.func 197) #[] #[.pointer (some ⟨wr.heap.size, 0, none⟩)], .func (.func 199) #[] #[.pointer (some ⟨wr.heap.size, 0, none⟩)], .func (.func 200) #[] #[.pointer (some ⟨wr.heap.size, 0, none⟩)], .func (.func 201) #[] #[.pointer (some ⟨wr.heap.size, 0, none⟩)]] 195)).heap.size ∧ w.heap.size + 3 ≤ w2.heap.size ∧ w2.heap.size < (w2.alloc (.cells #[.nilFunc, .func (.func 197) #[] #[.pointer (some ⟨wr.heap.size, 0, none⟩)], .func (.func 199) #[] #[.pointer (some ⟨wr.heap.size, 0, none⟩)], .func (.func 200) #[] #[.pointer (some ⟨wr.heap.size, 0, none⟩)], .func (.func 201) #[] #[.pointer (some ⟨wr.heap.size, 0, none⟩)]] 195)).heap.size) := by
        have h1 := HSR.out
        refine ⟨h1, ?_, by omega, by simp⟩
        simp
        omega
      obtain ⟨_, t1, t2, t3⟩ := HX.out _ hk2
      clear q1 q2 q3 hb2 hcf2 hl2 hk2 hba HKE HMP HEVS HSR
      generalize w2.alloc (.cells #[.nilFunc, .func (.func 197) #[] #[.pointer (some ⟨wr.heap.size, 0, none⟩)], .func (.func 199) #[] #[.pointer (some ⟨wr.heap.size, 0, none⟩)], .func (.func 200) #[] #[.pointer (some ⟨wr.heap.size, 0, none⟩)], .func (.func 201) #[] #[.pointer (some ⟨wr.heap.size, 0, none⟩)]] 195) = W2 at *
      generalize wr.heap.size = be at *
      generalize w2.heap.size = ba at *
      have HX2 : Hid (∀ X, Kept (fun i => i = w.heap.size + 1) W2 X → Below w.heap.size w X ∧ X.cell? ⟨w.heap.size, 2, none⟩ = some (.int .i64 o) ∧ X.cell? ⟨w.heap.size + 2, 0, none⟩ = some (.map (some (w.heap.size + 1))) ∧ X.cell? ⟨be, 0, none⟩ = some (.func (.func 176) #[] #[.pointer (some ⟨w.heap.size + 2, 0, none⟩)]) ∧ X.cell? ⟨ba, 1, none⟩ = some (.func (.func 197) #[] #[.pointer (some ⟨be, 0, none⟩)]) ∧ X.cell? ⟨ba, 2, none⟩ = some (.func (.func 199) #[] #[.pointer (some ⟨be, 0, none⟩)]) ∧ X.cell? ⟨ba, 3, none⟩ = some (.func (.func 200) #[] #[.pointer (some ⟨be, 0, none⟩)]) ∧ X.cell? ⟨ba, 4, none⟩ = some (.func (.func 201) #[] #[.pointer (some ⟨be, 0, none⟩)])) := fun X hX => by
        obtain ⟨h1, h2, h3, h4⟩ := HX.out X (HK2.out.trans hX)
        have hl := HLT.out
        exact ⟨h1, h3, h4, (hX.cell (p := ⟨be, 0, none⟩) hl.2.1 (by simp; omega)).trans HCE.out, (hX.cell (p := ⟨ba, 1, none⟩) hl.2.2.2 (by simp; omega)).trans HA1.out, (hX.cell (p := ⟨ba, 2, none⟩) hl.2.2.2 (by simp; omega)).trans HA2.out, (hX.cell (p := ⟨ba, 3, none⟩) hl.2.2.2 (by simp; omega)).trans HA3.out, (hX.cell (p := ⟨ba, 4, none⟩) hl.2.2.2 (by simp; omega)).trans HA4.out⟩
      have HW2 : Hid (w.heap.size + 3 ≤ W2.heap.size) := by have := HLT.out; show _ ≤ _; omega
      clear HA1 HA2 HA3 HA4 HCE HX
      obtain ⟨h0, hh0⟩ : ∃ h, setA (fun _ => false) a = h := ⟨_, rfl⟩
      have HH0 := Lib.hid hh0
      rw [hh0] at HM2
      clear hh0
      go_wp2
      go_loopw [4, 32] (fun v i wr => ∃ k : Nat, k ≤ gs.length ∧ i = .int .i64 k ∧ Kept (fun i => i = w.heap.size + 1) W2 wr ∧ MapH wr (w.heap.size + 1) (a.length + k) (runG h0 (gs.take k)).1 ∧ OwnB wr W2.heap.size v (runG h0 (gs.take k)).2) (fun _ i _ => gs.length - (intOf i).toNat)
      case atStart => exact ⟨0, Nat.zero_le _, rfl, Kept.refl _ _, HM2.out, World.ownsRow_nil _ _ _ _⟩
      case round =>
        clear HM2 t1 t2 t3
        obtain ⟨k, hk, rfl, hke, hmp, hown⟩ := hrel
        obtain ⟨hbw, q2, q3, q4, q5, q6, q7, q8⟩ := HX2.out wr hke
        obtain ⟨oa, on, oc, rfl⟩ := ownB_shape hown
        by_cases hlt : k < gs.length
        · obtain ⟨b, off, u, rfl, hb, hcx0, hck0, hcu0, HU0, hrg⟩ := HGW.out.at hlt
          have hcx := (hbw.cell (p := ⟨b, off + k * 3, none⟩) hb).trans hcx0
          have hck := (hbw.cell (p := ⟨b, off + k * 3 + 1, none⟩) hb).trans hck0
          have hcu := (hbw.cell (p := ⟨b, off + k * 3 + 2, none⟩) hb).trans hcu0
          have hmem : gs.getD k dG ∈ gs := by simp [List.getD, hlt]
          have hft := HFI.out _ hmem
          have HRS : Hid (runG h0 (gs.take (k + 1)) = gStep (runG h0 (gs.take k)) (gs.getD k dG)) := by show _ = _; rw [gates_take hlt, runG_snoc]
          have HLB : Hid ((runG h0 (gs.take k)).2.length < 17592186044416) := by have := runG_len h0 gs k hk; show _ < _; omega
          have hk0 : (0 : Int) ≤ (k : Int) := by omega
          have hk1 : (k : Int) < (gs.length : Int) := by omega
          have hk2 : (k : Int) < 4000001 := by omega
          have HKL := Lib.hid hlt
          obtain ⟨ua, uc, rfl⟩ := HU0.shape
          clear hcx0 hck0 hcu0 hmem
          generalize gs.getD k dG = y at *
          obtain ⟨y1, y2, y3⟩ := y
          simp only at hcx hck hcu hrg hft HU0
          generalize runG h0 (gs.take k) = st at *
          obtain ⟨h, bs⟩ := st
          simp only at hmp hown HLB
          have hx1 := hrg.1.1
          have hx2 := hrg.1.2
          have HYW := Lib.hid (i64w hx1 hx2)
          have HX1 := Lib.hid (And.intro hx1 hx2)
          have HUI : Hid (∀ X, Below w.heap.size w X → IsInts X (.slice ua y3.length uc) y3) := fun X hX => HU0.below hX (Nat.le_refl _)
          have ha1 : Below wr.heap.size wr (wr.alloc (.cells #[.int .i64 y1, .int .u8 y2, .slice ua y3.length uc] 101)) := (Below.refl _ _).alloc (Nat.le_refl _) _
          have HKA : Hid (Kept (fun i => i = w.heap.size + 1) W2 (wr.alloc (.cells #[.int .i64 y1, .int .u8 y2, .slice ua y3.length uc] 101))) := hke.trans (keptOf ha1)
          have HMA : Hid (MapH (wr.alloc (.cells #[.int .i64 y1, .int .u8 y2, .slice ua y3.length uc] 101)) (w.heap.size + 1) (a.length + k) h) := MapH.keep hmp (S := fun _ => False) (keptOf ha1) (fun h => h)
          have HOA : Hid (OwnB (wr.alloc (.cells #[.int .i64 y1, .int .u8 y2, .slice ua y3.length uc] 101)) W2.heap.size (.slice oa on oc) bs) := (keptOf (S := fun _ => False) ha1).row hown (fun _ _ h => h)
          have hsa : wr.heap.size < (wr.alloc (.cells #[.int .i64 y1, .int .u8 y2, .slice ua y3.length uc] 101)).heap.size := by simp
          have a0 : (wr.alloc (.cells #[.int .i64 y1, .int .u8 y2, .slice ua y3.length uc] 101)).cell? ⟨wr.heap.size, 0, none⟩ = some (.int .i64 y1) := cell_fresh rfl
          have a1 : (wr.alloc (.cells #[.int .i64 y1, .int .u8 y2, .slice ua y3.length uc] 101)).cell? ⟨wr.heap.size, 1, none⟩ = some (.int .u8 y2) := cell_fresh rfl
          have a2 : (wr.alloc (.cells #[.int .i64 y1, .int .u8 y2, .slice ua y3.length uc] 101)).cell? ⟨wr.heap.size, 2, none⟩ = some (.slice ua y3.length uc) := cell_fresh rfl
          have hne : wr.heap.size ≠ w.heap.size + 1 := by have h1 := hke.size; have h2 := HW2.out; omega
          have HAX : Hid (∀ X, Kept (fun i => i = w.heap.size + 1) (wr.alloc (.cells #[.int .i64 y1, .int .u8 y2, .slice ua y3.length uc] 101)) X → X.cell? ⟨wr.heap.size, 0, none⟩ = some (.int .i64 y1) ∧ X.cell? ⟨wr.heap.size, 1, none⟩ = some (.int .u8 y2) ∧ X.cell? ⟨wr.heap.size, 2, none⟩ = some (.slice ua y3.length uc)) := fun X hX =>
            ⟨(hX.cell (p := ⟨wr.heap.size, 0, none⟩) hsa hne).trans a0, (hX.cell (p := ⟨wr.heap.size, 1, none⟩) hsa hne).trans a1, (hX.cell (p := ⟨wr.heap.size, 2, none⟩) hsa hne).trans a2⟩
          clear ha1 hsa hne hke hmp hown HU0 hrg hbw
          go_upto_region 12 with fail
          clear q2 q3 q4 q5 q6 q7 q8 hcx hck hcu a0 a1 a2
          generalize wr.alloc (.cells #[.int .i64 y1, .int .u8 y2, .slice ua y3.length uc] 101) = wa at *
          generalize wr.heap.size = bg at *
          have HFT := Lib.hid (fits_kind hft)
          clear hft
          rcases HFT.out with rfl | rfl | ⟨rfl, hyl⟩ | ⟨rfl, hyl⟩
          · have hS0 : Kept (fun i => i = w.heap.size + 1) wa wa.drew := keptOf (Below.refl _ _).drew
            have HGV : Hid (gateV h 1 y3 = y3.all (litV h)) := by show _ = _; simp [gateV]
            have hx := HX2.out wa.drew (HKA.out.trans hS0)
            have HMD : Hid (MapH wa.drew (w.heap.size + 1) (a.length + k) h) := MapH.quiet HMA.out ⟨1, rfl⟩
            have hrd : Reads wa.drew (w.heap.size + 2) (w.heap.size + 1) be (a.length + k) h := ⟨HMD.out, hx.2.2.1, hx.2.2.2.1⟩
            have HEV : Hid (Calls Tryz.prog 197 #[.slice ua y3.length uc, .pointer (some ⟨be, 0, none⟩)] wa.drew fun e w' => e = .returned (.bool (gateV h 1 y3)) ∧ Quiet wa.drew w') := by rw [HGV.out]; exact cev1_any _ _ be _ h _ y3 wa.drew hrd (HUI.out _ hx.1)
            have HRS2 : Hid (runG h0 (gs.take (k + 1)) = (updB h y1 (gateV h 1 y3), bs ++ [gateV h 1 y3])) := HRS.out
            have HSW : Hid (∀ X, Kept (fun i => i = w.heap.size + 1) wa X → X.cell? ⟨w.heap.size + 2, 0, none⟩ = some (.map (some (w.heap.size + 1))) ∧ X.cell? ⟨ba, 1, none⟩ = some (.func (.func 197) #[] #[.pointer (some ⟨be, 0, none⟩)])) := fun X hX => by
              obtain ⟨_, _, k3, _, k5, k6, k7, k8⟩ := HX2.out X (HKA.out.trans hX)
              exact ⟨k3, k5⟩
            clear hx hrd HGV HRS HMA
            generalize gateV h 1 y3 = gv at *
            refine wp_region_held_drew (S := fun X => Kept (fun i => i = w.heap.size + 1) wa X) (by kernel_rfl) hS0 (fun hSd => ?_)
            clear hS0
            have HSD := Lib.hid hSd
            generalize wa.drew = wd at *
            refine takeC (i := 0) (v := .map (some (w.heap.size + 1))) (some 36) rfl rfl (by kernel_rfl) (by kernel_rfl) (by kernel_rfl) (fun _ _ _ h => h) (Or.inl ⟨by rfl, ?_⟩) (by assumption) ?_
            · intro wz hSw; obtain ⟨r0, r1, r2⟩ := HAX.out wz hSw; obtain ⟨r3, r4⟩ := HSW.out wz hSw; go_simp
            try simp only [Act.put, List.setIfInBounds_toArray, List.set_cons_zero, List.set_cons_succ]
            refine takeC (i := 1) (v := .pointer (some ⟨bg, 0, none⟩)) (some 37) rfl rfl (by kernel_rfl) (by kernel_rfl) (by kernel_rfl) (fun _ _ _ h => h) (Or.inl ⟨by rfl, ?_⟩) (by assumption) ?_
            · intro wz hSw; obtain ⟨r0, r1, r2⟩ := HAX.out wz hSw; obtain ⟨r3, r4⟩ := HSW.out wz hSw; go_simp
            try simp only [Act.put, List.setIfInBounds_toArray, List.set_cons_zero, List.set_cons_succ]
            refine takeC (i := 2) (v := .int .i64 y1) (some 38) rfl rfl (by kernel_rfl) (by kernel_rfl) (by kernel_rfl) (fun _ _ _ h => h) (Or.inl ⟨by rfl, ?_⟩) (by assumption) ?_
            · intro wz hSw; obtain ⟨r0, r1, r2⟩ := HAX.out wz hSw; obtain ⟨r3, r4⟩ := HSW.out wz hSw; go_simp
            try simp only [Act.put, List.setIfInBounds_toArray, List.set_cons_zero, List.set_cons_succ]
            refine takeC (i := 3) (v := .pointer (some ⟨bg, 1, none⟩)) (some 39) rfl rfl (by kernel_rfl) (by kernel_rfl) (by kernel_rfl) (fun _ _ _ h => h) (Or.inl ⟨by rfl, ?_⟩) (by assumption) ?_
            · intro wz hSw; obtain ⟨r0, r1, r2⟩ := HAX.out wz hSw; obtain ⟨r3, r4⟩ := HSW.out wz hSw; go_simp
            try simp only [Act.put, List.setIfInBounds_toArray, List.set_cons_zero, List.set_cons_succ]
            refine takeC (i := 4) (v := .int .u8 1) (some 40) rfl rfl (by kernel_rfl) (by kernel_rfl) (by kernel_rfl) (fun _ _ _ h => h) (Or.inl ⟨by rfl, ?_⟩) (by assumption) ?_
            · intro wz hSw; obtain ⟨r0, r1, r2⟩ := HAX.out wz hSw; obtain ⟨r3, r4⟩ := HSW.out wz hSw; go_simp
            try simp only [Act.put, List.setIfInBounds_toArray, List.set_cons_zero, List.set_cons_succ]
            refine takeC (i := 5) (v := .pointer (some ⟨ba, 1, none⟩)) (some 41) rfl rfl (by kernel_rfl) (by kernel_rfl) (by kernel_rfl) (fun _ _ _ h => h) (Or.inl ⟨by rfl, ?_⟩) (by assumption) ?_
            · intro wz hSw; obtain ⟨r0, r1, r2⟩ := HAX.out wz hSw; obtain ⟨r3, r4⟩ := HSW.out wz hSw; go_simp
            try simp only [Act.put, List.setIfInBounds_toArray, List.set_cons_zero, List.set_cons_succ]
            refine takeC (i := 6) (v := .func (.func 197) #[] #[.pointer (some ⟨be, 0, none⟩)]) (some 42) rfl rfl (by kernel_rfl) (by kernel_rfl) (by kernel_rfl) (fun _ _ _ h => h) (Or.inl ⟨by rfl, ?_⟩) (by assumption) ?_
            · intro wz hSw; obtain ⟨r0, r1, r2⟩ := HAX.out wz hSw; obtain ⟨r3, r4⟩ := HSW.out wz hSw; go_simp
            try simp only [Act.put, List.setIfInBounds_toArray, List.set_cons_zero, List.set_cons_succ]
            refine takeC (i := 7) (v := .pointer (some ⟨bg, 2, none⟩)) (some 43) rfl rfl (by kernel_rfl) (by kernel_rfl) (by kernel_rfl) (fun _ _ _ h => h) (Or.inl ⟨by rfl, ?_⟩) (by assumption) ?_
            · intro wz hSw; obtain ⟨r0, r1, r2⟩ := HAX.out wz hSw; obtain ⟨r3, r4⟩ := HSW.out wz hSw; go_simp
            try simp only [Act.put, List.setIfInBounds_toArray, List.set_cons_zero, List.set_cons_succ]
            refine takeC (i := 8) (v := .slice ua y3.length uc) (some 44) rfl rfl (by kernel_rfl) (by kernel_rfl) (by kernel_rfl) (fun _ _ _ h => h) (Or.inl ⟨by rfl, ?_⟩) (by assumption) ?_
            · intro wz hSw; obtain ⟨r0, r1, r2⟩ := HAX.out wz hSw; obtain ⟨r3, r4⟩ := HSW.out wz hSw; go_simp
            try simp only [Act.put, List.setIfInBounds_toArray, List.set_cons_zero, List.set_cons_succ]
            refine wpAnyH_ready (rs := [9]) (by kernel_rfl) (by simp) ?_
            refine AllReadyH.cons rfl (fun K hK => ?_) AllReadyH.nil
            go_simp
            go_wp2_with (go_at_call 197; refine HEV.out.mono ?_; rintro e w5 ⟨rfl, hq5⟩)
            have hS5 : Kept (fun i => i = w.heap.size + 1) wa w5 := HSD.out.trans (keptOf (hq5.below _))
            have HM5 : Hid (MapH w5 (w.heap.size + 1) (a.length + k) h) := MapH.quiet HMD.out hq5
            refine hK.out _ _ hS5 (fun hH5 => ?_)
            clear hK K
            try simp only [Act.put, List.setIfInBounds_toArray, List.set_cons_zero, List.set_cons_succ]
            refine wpAnyH_ready (rs := [10]) (by kernel_rfl) (by simp) ?_
            refine AllReadyH.cons rfl (fun K hK => ?_) AllReadyH.nil
            refine step_putH rfl (.tmp 36) (.tmp 38) (.tmp 45) rfl rfl HM5.out (by unfold maxLen; omega) y1 gv rfl rfl HYW.out ?_
            intro w6 hm6 hk6
            have HS6 := Lib.hid (hS5.trans hk6)
            refine hK.out _ _ HS6.out (fun hH6 => ?_)
            clear hK K
            refine wpAnyH_done (by kernel_rfl) ?_ _
            have HM6 := Lib.hid hm6
            have hlk6 : (Instr.lookup 181 (.map (some (w.heap.size + 1))) (.int .i64 y1) false).run Tryz.prog w6 = .ok (.bool gv) w6 := by
              have h1 := MapH.look1 hm6 y1 HX1.out.1 HX1.out.2
              have h2 : updB h y1 gv y1 = gv := by unfold updB; rw [if_pos rfl]
              rw [h2] at h1
              exact h1
            obtain ⟨r0, r1, r2⟩ := HAX.out w6 HS6.out
            obtain ⟨r3, r4⟩ := HSW.out w6 HS6.out
            have HK6 := Lib.hid (HKA.out.trans HS6.out)
            have HW2K : Hid (W2.heap.size ≤ w6.heap.size) := HK6.out.size
            have HO6 : Hid (OwnB w6 W2.heap.size (.slice oa on oc) bs) := HS6.out.row HOA.out (fun g hg e => by have h1 := (ownB_lt HOA.out g hg).1; have h2 := HW2.out; omega)
            have hal : Below w6.heap.size w6 (w6.alloc (.cells #[.bool gv] 4)) := (Below.refl _ _).alloc (Nat.le_refl _) _
            have HAL := Lib.hid hal
            have HO7 : Hid (OwnB (w6.alloc (.cells #[.bool gv] 4)) W2.heap.size (.slice oa on oc) bs) := (keptOf (S := fun _ => False) hal).row HO6.out (fun _ _ h => h)
            have HZ7 : Hid (W2.heap.size ≤ (w6.alloc (.cells #[.bool gv] 4)).heap.size) := Nat.le_trans HW2K.out hal.size
            clear hm6 hk6 hH5 hH6 hSd hS5 hq5 hal
            go_wp2_with (at_builtin; go_loud (refine wpList_appBo rfl (.tmp 46) (.tmp 51) rfl W2.heap.size (.slice oa on oc) bs gv w6.heap.size rfl rfl HO7.out (cell_fresh rfl) HLB.out HZ7.out ?_; intro v7 w7 ho7 hg7))
            have HK7 : Hid (Kept (fun i => i = w.heap.size + 1) W2 w7) := (HK6.out.trans (keptOf HAL.out)).next (Kept.of_grown hg7) (fun i hi e => by have := (ownB_lt HO7.out i e).1; omega)
            have HM7 : Hid (MapH w7 (w.heap.size + 1) (a.length + (k + 1)) (updB h y1 gv)) := MapH.keep (MapH.keep HM6.out (S := fun _ => False) (keptOf HAL.out) (fun h => h)) (Kept.of_grown hg7) (fun e => by have h1 := (ownB_lt HO7.out _ e).1; have h2 := HW2.out; omega)
            have HO8 := Lib.hid ho7
            clear ho7 hg7
            go_roundw
            case rel => exact ⟨k + 1, by have := HKL.out; omega, by go_num, HK7.out, by rw [HRS2.out]; exact HM7.out, by rw [HRS2.out]; exact HO8.out⟩
            case measure => have := HKL.out; simp [intOf]; omega
          · have hS0 : Kept (fun i => i = w.heap.size + 1) wa wa.drew := keptOf (Below.refl _ _).drew
            have HGV : Hid (gateV h 2 y3 = y3.any (litV h)) := by show _ = _; simp [gateV]
            have hx := HX2.out wa.drew (HKA.out.trans hS0)
            have HMD : Hid (MapH wa.drew (w.heap.size + 1) (a.length + k) h) := MapH.quiet HMA.out ⟨1, rfl⟩
            have hrd : Reads wa.drew (w.heap.size + 2) (w.heap.size + 1) be (a.length + k) h := ⟨HMD.out, hx.2.2.1, hx.2.2.2.1⟩
            have HEV : Hid (Calls Tryz.prog 199 #[.slice ua y3.length uc, .pointer (some ⟨be, 0, none⟩)] wa.drew fun e w' => e = .returned (.bool (gateV h 2 y3)) ∧ Quiet wa.drew w') := by rw [HGV.out]; exact cev2_any _ _ be _ h _ y3 wa.drew hrd (HUI.out _ hx.1)
            have HRS2 : Hid (runG h0 (gs.take (k + 1)) = (updB h y1 (gateV h 2 y3), bs ++ [gateV h 2 y3])) := HRS.out
            have HSW : Hid (∀ X, Kept (fun i => i = w.heap.size + 1) wa X → X.cell? ⟨w.heap.size + 2, 0, none⟩ = some (.map (some (w.heap.size + 1))) ∧ X.cell? ⟨ba, 2, none⟩ = some (.func (.func 199) #[] #[.pointer (some ⟨be, 0, none⟩)])) := fun X hX => by
              obtain ⟨_, _, k3, _, k5, k6, k7, k8⟩ := HX2.out X (HKA.out.trans hX)
              exact ⟨k3, k6⟩
            clear hx hrd HGV HRS HMA
            generalize gateV h 2 y3 = gv at *
            refine wp_region_held_drew (S := fun X => Kept (fun i => i = w.heap.size + 1) wa X) (by kernel_rfl) hS0 (fun hSd => ?_)
            clear hS0
            have HSD := Lib.hid hSd
            generalize wa.drew = wd at *
            refine takeC (i := 0) (v := .map (some (w.heap.size + 1))) (some 36) rfl rfl (by kernel_rfl) (by kernel_rfl) (by kernel_rfl) (fun _ _ _ h => h) (Or.inl ⟨by rfl, ?_⟩) (by assumption) ?_
            · intro wz hSw; obtain ⟨r0, r1, r2⟩ := HAX.out wz hSw; obtain ⟨r3, r4⟩ := HSW.out wz hSw; go_simp
            try simp only [Act.put, List.setIfInBounds_toArray, List.set_cons_zero, List.set_cons_succ]
            refine takeC (i := 1) (v := .pointer (some ⟨bg, 0, none⟩)) (some 37) rfl rfl (by kernel_rfl) (by kernel_rfl) (by kernel_rfl) (fun _ _ _ h => h) (Or.inl ⟨by rfl, ?_⟩) (by assumption) ?_
            · intro wz hSw; obtain ⟨r0, r1, r2⟩ := HAX.out wz hSw; obtain ⟨r3, r4⟩ := HSW.out wz hSw; go_simp
            try simp only [Act.put, List.setIfInBounds_toArray, List.set_cons_zero, List.set_cons_succ]
            refine takeC (i := 2) (v := .int .i64 y1) (some 38) rfl rfl (by kernel_rfl) (by kernel_rfl) (by kernel_rfl) (fun _ _ _ h => h) (Or.inl ⟨by rfl, ?_⟩) (by assumption) ?_
            · intro wz hSw; obtain ⟨r0, r1, r2⟩ := HAX.out wz hSw; obtain ⟨r3, r4⟩ := HSW.out wz hSw; go_simp
            try simp only [Act.put, List.setIfInBounds_toArray, List.set_cons_zero, List.set_cons_succ]
            refine takeC (i := 3) (v := .pointer (some ⟨bg, 1, none⟩)) (some 39) rfl rfl (by kernel_rfl) (by kernel_rfl) (by kernel_rfl) (fun _ _ _ h => h) (Or.inl ⟨by rfl, ?_⟩) (by assumption) ?_
            · intro wz hSw; obtain ⟨r0, r1, r2⟩ := HAX.out wz hSw; obtain ⟨r3, r4⟩ := HSW.out wz hSw; go_simp
            try simp only [Act.put, List.setIfInBounds_toArray, List.set_cons_zero, List.set_cons_succ]
            refine takeC (i := 4) (v := .int .u8 2) (some 40) rfl rfl (by kernel_rfl) (by kernel_rfl) (by kernel_rfl) (fun _ _ _ h => h) (Or.inl ⟨by rfl, ?_⟩) (by assumption) ?_
            · intro wz hSw; obtain ⟨r0, r1, r2⟩ := HAX.out wz hSw; obtain ⟨r3, r4⟩ := HSW.out wz hSw; go_simp
            try simp only [Act.put, List.setIfInBounds_toArray, List.set_cons_zero, List.set_cons_succ]
            refine takeC (i := 5) (v := .pointer (some ⟨ba, 2, none⟩)) (some 41) rfl rfl (by kernel_rfl) (by kernel_rfl) (by kernel_rfl) (fun _ _ _ h => h) (Or.inl ⟨by rfl, ?_⟩) (by assumption) ?_
            · intro wz hSw; obtain ⟨r0, r1, r2⟩ := HAX.out wz hSw; obtain ⟨r3, r4⟩ := HSW.out wz hSw; go_simp
            try simp only [Act.put, List.setIfInBounds_toArray, List.set_cons_zero, List.set_cons_succ]
            refine takeC (i := 6) (v := .func (.func 199) #[] #[.pointer (some ⟨be, 0, none⟩)]) (some 42) rfl rfl (by kernel_rfl) (by kernel_rfl) (by kernel_rfl) (fun _ _ _ h => h) (Or.inl ⟨by rfl, ?_⟩) (by assumption) ?_
            · intro wz hSw; obtain ⟨r0, r1, r2⟩ := HAX.out wz hSw; obtain ⟨r3, r4⟩ := HSW.out wz hSw; go_simp
            try simp only [Act.put, List.setIfInBounds_toArray, List.set_cons_zero, List.set_cons_succ]
            refine takeC (i := 7) (v := .pointer (some ⟨bg, 2, none⟩)) (some 43) rfl rfl (by kernel_rfl) (by kernel_rfl) (by kernel_rfl) (fun _ _ _ h => h) (Or.inl ⟨by rfl, ?_⟩) (by assumption) ?_
            · intro wz hSw; obtain ⟨r0, r1, r2⟩ := HAX.out wz hSw; obtain ⟨r3, r4⟩ := HSW.out wz hSw; go_simp
            try simp only [Act.put, List.setIfInBounds_toArray, List.set_cons_zero, List.set_cons_succ]
            refine takeC (i := 8) (v := .slice ua y3.length uc) (some 44) rfl rfl (by kernel_rfl) (by kernel_rfl) (by kernel_rfl) (fun _ _ _ h => h) (Or.inl ⟨by rfl, ?_⟩) (by assumption) ?_
            · intro wz hSw; obtain ⟨r0, r1, r2⟩ := HAX.out wz hSw; obtain ⟨r3, r4⟩ := HSW.out wz hSw; go_simp
            try simp only [Act.put, List.setIfInBounds_toArray, List.set_cons_zero, List.set_cons_succ]
            refine wpAnyH_ready (rs := [9]) (by kernel_rfl) (by simp) ?_
            refine AllReadyH.cons rfl (fun K hK => ?_) AllReadyH.nil
            go_simp
            go_wp2_with (go_at_call 199; refine HEV.out.mono ?_; rintro e w5 ⟨rfl, hq5⟩)
            have hS5 : Kept (fun i => i = w.heap.size + 1) wa w5 := HSD.out.trans (keptOf (hq5.below _))
            have HM5 : Hid (MapH w5 (w.heap.size + 1) (a.length + k) h) := MapH.quiet HMD.out hq5
            refine hK.out _ _ hS5 (fun hH5 => ?_)
            clear hK K
            try simp only [Act.put, List.setIfInBounds_toArray, List.set_cons_zero, List.set_cons_succ]
            refine wpAnyH_ready (rs := [10]) (by kernel_rfl) (by simp) ?_
            refine AllReadyH.cons rfl (fun K hK => ?_) AllReadyH.nil
            refine step_putH rfl (.tmp 36) (.tmp 38) (.tmp 45) rfl rfl HM5.out (by unfold maxLen; omega) y1 gv rfl rfl HYW.out ?_
            intro w6 hm6 hk6
            have HS6 := Lib.hid (hS5.trans hk6)
            refine hK.out _ _ HS6.out (fun hH6 => ?_)
            clear hK K
            refine wpAnyH_done (by kernel_rfl) ?_ _
            have HM6 := Lib.hid hm6
            have hlk6 : (Instr.lookup 181 (.map (some (w.heap.size + 1))) (.int .i64 y1) false).run Tryz.prog w6 = .ok (.bool gv) w6 := by
              have h1 := MapH.look1 hm6 y1 HX1.out.1 HX1.out.2
              have h2 : updB h y1 gv y1 = gv := by unfold updB; rw [if_pos rfl]
              rw [h2] at h1
              exact h1
            obtain ⟨r0, r1, r2⟩ := HAX.out w6 HS6.out
            obtain ⟨r3, r4⟩ := HSW.out w6 HS6.out
            have HK6 := Lib.hid (HKA.out.trans HS6.out)
            have HW2K : Hid (W2.heap.size ≤ w6.heap.size) := HK6.out.size
            have HO6 : Hid (OwnB w6 W2.heap.size (.slice oa on oc) bs) := HS6.out.row HOA.out (fun g hg e => by have h1 := (ownB_lt HOA.out g hg).1; have h2 := HW2.out; omega)
            have hal : Below w6.heap.size w6 (w6.alloc (.cells #[.bool gv] 4)) := (Below.refl _ _).alloc (Nat.le_refl _) _
            have HAL := Lib.hid hal
            have HO7 : Hid (OwnB (w6.alloc (.cells #[.bool gv] 4)) W2.heap.size (.slice oa on oc) bs) := (keptOf (S := fun _ => False) hal).row HO6.out (fun _ _ h => h)
            have HZ7 : Hid (W2.heap.size ≤ (w6.alloc (.cells #[.bool gv] 4)).heap.size) := Nat.le_trans HW2K.out hal.size
            clear hm6 hk6 hH5 hH6 hSd hS5 hq5 hal
            go_wp2_with (at_builtin; go_loud (refine wpList_appBo rfl (.tmp 46) (.tmp 51) rfl W2.heap.size (.slice oa on oc) bs gv w6.heap.size rfl rfl HO7.out (cell_fresh rfl) HLB.out HZ7.out ?_; intro v7 w7 ho7 hg7))
            have HK7 : Hid (Kept (fun i => i = w.heap.size + 1) W2 w7) := (HK6.out.trans (keptOf HAL.out)).next (Kept.of_grown hg7) (fun i hi e => by have := (ownB_lt HO7.out i e).1; omega)
            have HM7 : Hid (MapH w7 (w.heap.size + 1) (a.length + (k + 1)) (updB h y1 gv)) := MapH.keep (MapH.keep HM6.out (S := fun _ => False) (keptOf HAL.out) (fun h => h)) (Kept.of_grown hg7) (fun e => by have h1 := (ownB_lt HO7.out _ e).1; have h2 := HW2.out; omega)
            have HO8 := Lib.hid ho7
            clear ho7 hg7
            go_roundw
            case rel => exact ⟨k + 1, by have := HKL.out; omega, by go_num, HK7.out, by rw [HRS2.out]; exact HM7.out, by rw [HRS2.out]; exact HO8.out⟩
            case measure => have := HKL.out; simp [intOf]; omega
          · have HYL := Lib.hid hyl
            clear hyl
            have hS0 : Kept (fun i => i = w.heap.size + 1) wa wa.drew := keptOf (Below.refl _ _).drew
            have HGV : Hid (gateV h 3 y3 = (litV h (y3.getD 0 0) != litV h (y3.getD 1 0))) := by show _ = _; simp [gateV]
            have hx := HX2.out wa.drew (HKA.out.trans hS0)
            have HMD : Hid (MapH wa.drew (w.heap.size + 1) (a.length + k) h) := MapH.quiet HMA.out ⟨1, rfl⟩
            have hrd : Reads wa.drew (w.heap.size + 2) (w.heap.size + 1) be (a.length + k) h := ⟨HMD.out, hx.2.2.1, hx.2.2.2.1⟩
            have HEV : Hid (Calls Tryz.prog 200 #[.slice ua y3.length uc, .pointer (some ⟨be, 0, none⟩)] wa.drew fun e w' => e = .returned (.bool (gateV h 3 y3)) ∧ Quiet wa.drew w') := by rw [HGV.out]; exact cev3_any _ _ be _ h _ y3 wa.drew hrd (HUI.out _ hx.1) HYL.out
            have HRS2 : Hid (runG h0 (gs.take (k + 1)) = (updB h y1 (gateV h 3 y3), bs ++ [gateV h 3 y3])) := HRS.out
            have HSW : Hid (∀ X, Kept (fun i => i = w.heap.size + 1) wa X → X.cell? ⟨w.heap.size + 2, 0, none⟩ = some (.map (some (w.heap.size + 1))) ∧ X.cell? ⟨ba, 3, none⟩ = some (.func (.func 200) #[] #[.pointer (some ⟨be, 0, none⟩)])) := fun X hX => by
              obtain ⟨_, _, k3, _, k5, k6, k7, k8⟩ := HX2.out X (HKA.out.trans hX)
              exact ⟨k3, k7⟩
            clear hx hrd HGV HRS HMA
            generalize gateV h 3 y3 = gv at *
            refine wp_region_held_drew (S := fun X => Kept (fun i => i = w.heap.size + 1) wa X) (by kernel_rfl) hS0 (fun hSd => ?_)
            clear hS0
            have HSD := Lib.hid hSd
            generalize wa.drew = wd at *
            refine takeC (i := 0) (v := .map (some (w.heap.size + 1))) (some 36) rfl rfl (by kernel_rfl) (by kernel_rfl) (by kernel_rfl) (fun _ _ _ h => h) (Or.inl ⟨by rfl, ?_⟩) (by assumption) ?_
            · intro wz hSw; obtain ⟨r0, r1, r2⟩ := HAX.out wz hSw; obtain ⟨r3, r4⟩ := HSW.out wz hSw; go_simp
            try simp only [Act.put, List.setIfInBounds_toArray, List.set_cons_zero, List.set_cons_succ]
            refine takeC (i := 1) (v := .pointer (some ⟨bg, 0, none⟩)) (some 37) rfl rfl (by kernel_rfl) (by kernel_rfl) (by kernel_rfl) (fun _ _ _ h => h) (Or.inl ⟨by rfl, ?_⟩) (by assumption) ?_
            · intro wz hSw; obtain ⟨r0, r1, r2⟩ := HAX.out wz hSw; obtain ⟨r3, r4⟩ := HSW.out wz hSw; go_simp
            try simp only [Act.put, List.setIfInBounds_toArray, List.set_cons_zero, List.set_cons_succ]
            refine takeC (i := 2) (v := .int .i64 y1) (some 38) rfl rfl (by kernel_rfl) (by kernel_rfl) (by kernel_rfl) (fun _ _ _ h => h) (Or.inl ⟨by rfl, ?_⟩) (by assumption) ?_
            · intro wz hSw; obtain ⟨r0, r1, r2⟩ := HAX.out wz hSw; obtain ⟨r3, r4⟩ := HSW.out wz hSw; go_simp
            try simp only [Act.put, List.setIfInBounds_toArray, List.set_cons_zero, List.set_cons_succ]
            refine takeC (i := 3) (v := .pointer (some ⟨bg, 1, none⟩)) (some 39) rfl rfl (by kernel_rfl) (by kernel_rfl) (by kernel_rfl) (fun _ _ _ h => h) (Or.inl ⟨by rfl, ?_⟩) (by assumption) ?_
            · intro wz hSw; obtain ⟨r0, r1, r2⟩ := HAX.out wz hSw; obtain ⟨r3, r4⟩ := HSW.out wz hSw; go_simp
            try simp only [Act.put, List.setIfInBounds_toArray, List.set_cons_zero, List.set_cons_succ]
            refine takeC (i := 4) (v := .int .u8 3) (some 40) rfl rfl (by kernel_rfl) (by kernel_rfl) (by kernel_rfl) (fun _ _ _ h => h) (Or.inl ⟨by rfl, ?_⟩) (by assumption) ?_
            · intro wz hSw; obtain ⟨r0, r1, r2⟩ := HAX.out wz hSw; obtain ⟨r3, r4⟩ := HSW.out wz hSw; go_simp
            try simp only [Act.put, List.setIfInBounds_toArray, List.set_cons_zero, List.set_cons_succ]
            refine takeC (i := 5) (v := .pointer (some ⟨ba, 3, none⟩)) (some 41) rfl rfl (by kernel_rfl) (by kernel_rfl) (by kernel_rfl) (fun _ _ _ h => h) (Or.inl ⟨by rfl, ?_⟩) (by assumption) ?_
            · intro wz hSw; obtain ⟨r0, r1, r2⟩ := HAX.out wz hSw; obtain ⟨r3, r4⟩ := HSW.out wz hSw; go_simp
            try simp only [Act.put, List.setIfInBounds_toArray, List.set_cons_zero, List.set_cons_succ]
            refine takeC (i := 6) (v := .func (.func 200) #[] #[.pointer (some ⟨be, 0, none⟩)]) (some 42) rfl rfl (by kernel_rfl) (by kernel_rfl) (by kernel_rfl) (fun _ _ _ h => h) (Or.inl ⟨by rfl, ?_⟩) (by assumption) ?_
            · intro wz hSw; obtain ⟨r0, r1, r2⟩ := HAX.out wz hSw; obtain ⟨r3, r4⟩ := HSW.out wz hSw; go_simp
            try simp only [Act.put, List.setIfInBounds_toArray, List.set_cons_zero, List.set_cons_succ]
            refine takeC (i := 7) (v := .pointer (some ⟨bg, 2, none⟩)) (some 43) rfl rfl (by kernel_rfl) (by kernel_rfl) (by kernel_rfl) (fun _ _ _ h => h) (Or.inl ⟨by rfl, ?_⟩) (by assumption) ?_
            · intro wz hSw; obtain ⟨r0, r1, r2⟩ := HAX.out wz hSw; obtain ⟨r3, r4⟩ := HSW.out wz hSw; go_simp
            try simp only [Act.put, List.setIfInBounds_toArray, List.set_cons_zero, List.set_cons_succ]
            refine takeC (i := 8) (v := .slice ua y3.length uc) (some 44) rfl rfl (by kernel_rfl) (by kernel_rfl) (by kernel_rfl) (fun _ _ _ h => h) (Or.inl ⟨by rfl, ?_⟩) (by assumption) ?_
            · intro wz hSw; obtain ⟨r0, r1, r2⟩ := HAX.out wz hSw; obtain ⟨r3, r4⟩ := HSW.out wz hSw; go_simp
            try simp only [Act.put, List.setIfInBounds_toArray, List.set_cons_zero, List.set_cons_succ]
            refine wpAnyH_ready (rs := [9]) (by kernel_rfl) (by simp) ?_
            refine AllReadyH.cons rfl (fun K hK => ?_) AllReadyH.nil
            go_simp
            go_wp2_with (go_at_call 200; refine HEV.out.mono ?_; rintro e w5 ⟨rfl, hq5⟩)
            have hS5 : Kept (fun i => i = w.heap.size + 1) wa w5 := HSD.out.trans (keptOf (hq5.below _))
            have HM5 : Hid (MapH w5 (w.heap.size + 1) (a.length + k) h) := MapH.quiet HMD.out hq5
            refine hK.out _ _ hS5 (fun hH5 => ?_)
            clear hK K
            try simp only [Act.put, List.setIfInBounds_toArray, List.set_cons_zero, List.set_cons_succ]
            refine wpAnyH_ready (rs := [10]) (by kernel_rfl) (by simp) ?_
            refine AllReadyH.cons rfl (fun K hK => ?_) AllReadyH.nil
            refine step_putH rfl (.tmp 36) (.tmp 38) (.tmp 45) rfl rfl HM5.out (by unfold maxLen; omega) y1 gv rfl rfl HYW.out ?_
            intro w6 hm6 hk6
            have HS6 := Lib.hid (hS5.trans hk6)
            refine hK.out _ _ HS6.out (fun hH6 => ?_)
            clear hK K
            refine wpAnyH_done (by kernel_rfl) ?_ _
            have HM6 := Lib.hid hm6
            have hlk6 : (Instr.lookup 181 (.map (some (w.heap.size + 1))) (.int .i64 y1) false).run Tryz.prog w6 = .ok (.bool gv) w6 := by
              have h1 := MapH.look1 hm6 y1 HX1.out.1 HX1.out.2
              have h2 : updB h y1 gv y1 = gv := by unfold updB; rw [if_pos rfl]
              rw [h2] at h1
              exact h1
            obtain ⟨r0, r1, r2⟩ := HAX.out w6 HS6.out
            obtain ⟨r3, r4⟩ := HSW.out w6 HS6.out
            have HK6 := Lib.hid (HKA.out.trans HS6.out)
            have HW2K : Hid (W2.heap.size ≤ w6.heap.size) := HK6.out.size
            have HO6 : Hid (OwnB w6 W2.heap.size (.slice oa on oc) bs) := HS6.out.row HOA.out (fun g hg e => by have h1 := (ownB_lt HOA.out g hg).1; have h2 := HW2.out; omega)
            have hal : Below w6.heap.size w6 (w6.alloc (.cells #[.bool gv] 4)) := (Below.refl _ _).alloc (Nat.le_refl _) _
            have HAL := Lib.hid hal
            have HO7 : Hid (OwnB (w6.alloc (.cells #[.bool gv] 4)) W2.heap.size (.slice oa on oc) bs) := (keptOf (S := fun _ => False) hal).row HO6.out (fun _ _ h => h)
            have HZ7 : Hid (W2.heap.size ≤ (w6.alloc (.cells #[.bool gv] 4)).heap.size) := Nat.le_trans HW2K.out hal.size
            clear hm6 hk6 hH5 hH6 hSd hS5 hq5 hal
            go_wp2_with (at_builtin; go_loud (refine wpList_appBo rfl (.tmp 46) (.tmp 51) rfl W2.heap.size (.slice oa on oc) bs gv w6.heap.size rfl rfl HO7.out (cell_fresh rfl) HLB.out HZ7.out ?_; intro v7 w7 ho7 hg7))
            have HK7 : Hid (Kept (fun i => i = w.heap.size + 1) W2 w7) := (HK6.out.trans (keptOf HAL.out)).next (Kept.of_grown hg7) (fun i hi e => by have := (ownB_lt HO7.out i e).1; omega)
            have HM7 : Hid (MapH w7 (w.heap.size + 1) (a.length + (k + 1)) (updB h y1 gv)) := MapH.keep (MapH.keep HM6.out (S := fun _ => False) (keptOf HAL.out) (fun h => h)) (Kept.of_grown hg7) (fun e => by have h1 := (ownB_lt HO7.out _ e).1; have h2 := HW2.out; omega)
            have HO8 := Lib.hid ho7
            clear ho7 hg7
            go_roundw
            case rel => exact ⟨k + 1, by have := HKL.out; omega, by go_num, HK7.out, by rw [HRS2.out]; exact HM7.out, by rw [HRS2.out]; exact HO8.out⟩
            case measure => have := HKL.out; simp [intOf]; omega
          · have HYL := Lib.hid hyl
            clear hyl
            have hS0 : Kept (fun i => i = w.heap.size + 1) wa wa.drew := keptOf (Below.refl _ _).drew
            have HGV : Hid (gateV h 4 y3 = (if litV h (y3.getD 0 0) = true then litV h (y3.getD 1 0) else litV h (y3.getD 2 0))) := by show _ = _; simp [gateV]
            have hx := HX2.out wa.drew (HKA.out.trans hS0)
            have HMD : Hid (MapH wa.drew (w.heap.size + 1) (a.length + k) h) := MapH.quiet HMA.out ⟨1, rfl⟩
            have hrd : Reads wa.drew (w.heap.size + 2) (w.heap.size + 1) be (a.length + k) h := ⟨HMD.out, hx.2.2.1, hx.2.2.2.1⟩
            have HEV : Hid (Calls Tryz.prog 201 #[.slice ua y3.length uc, .pointer (some ⟨be, 0, none⟩)] wa.drew fun e w' => e = .returned (.bool (gateV h 4 y3)) ∧ Quiet wa.drew w') := by rw [HGV.out]; exact cev4_any _ _ be _ h _ y3 wa.drew hrd (HUI.out _ hx.1) HYL.out
            have HRS2 : Hid (runG h0 (gs.take (k + 1)) = (updB h y1 (gateV h 4 y3), bs ++ [gateV h 4 y3])) := HRS.out
            have HSW : Hid (∀ X, Kept (fun i => i = w.heap.size + 1) wa X → X.cell? ⟨w.heap.size + 2, 0, none⟩ = some (.map (some (w.heap.size + 1))) ∧ X.cell? ⟨ba, 4, none⟩ = some (.func (.func 201) #[] #[.pointer (some ⟨be, 0, none⟩)])) := fun X hX => by
              obtain ⟨_, _, k3, _, k5, k6, k7, k8⟩ := HX2.out X (HKA.out.trans hX)
              exact ⟨k3, k8⟩
            clear hx hrd HGV HRS HMA
            generalize gateV h 4 y3 = gv at *
            refine wp_region_held_drew (S := fun X => Kept (fun i => i = w.heap.size + 1) wa X) (by kernel_rfl) hS0 (fun hSd => ?_)
            clear hS0
            have HSD := Lib.hid hSd
            generalize wa.drew = wd at *
            refine takeC (i := 0) (v := .map (some (w.heap.size + 1))) (some 36) rfl rfl (by kernel_rfl) (by kernel_rfl) (by kernel_rfl) (fun _ _ _ h => h) (Or.inl ⟨by rfl, ?_⟩) (by assumption) ?_
            · intro wz hSw; obtain ⟨r0, r1, r2⟩ := HAX.out wz hSw; obtain ⟨r3, r4⟩ := HSW.out wz hSw; go_simp
            try simp only [Act.put, List.setIfInBounds_toArray, List.set_cons_zero, List.set_cons_succ]
            refine takeC (i := 1) (v := .pointer (some ⟨bg, 0, none⟩)) (some 37) rfl rfl (by kernel_rfl) (by kernel_rfl) (by kernel_rfl) (fun _ _ _ h => h) (Or.inl ⟨by rfl, ?_⟩) (by assumption) ?_
            · intro wz hSw; obtain ⟨r0, r1, r2⟩ := HAX.out wz hSw; obtain ⟨r3, r4⟩ := HSW.out wz hSw; go_simp
            try simp only [Act.put, List.setIfInBounds_toArray, List.set_cons_zero, List.set_cons_succ]
            refine takeC (i := 2) (v := .int .i64 y1) (some 38) rfl rfl (by kernel_rfl) (by kernel_rfl) (by kernel_rfl) (fun _ _ _ h => h) (Or.inl ⟨by rfl, ?_⟩) (by assumption) ?_
            · intro wz hSw; obtain ⟨r0, r1, r2⟩ := HAX.out wz hSw; obtain ⟨r3, r4⟩ := HSW.out wz hSw; go_simp
            try simp only [Act.put, List.setIfInBounds_toArray, List.set_cons_zero, List.set_cons_succ]
            refine takeC (i := 3) (v := .pointer (some ⟨bg, 1, none⟩)) (some 39) rfl rfl (by kernel_rfl) (by kernel_rfl) (by kernel_rfl) (fun _ _ _ h => h) (Or.inl ⟨by rfl, ?_⟩) (by assumption) ?_
            · intro wz hSw; obtain ⟨r0, r1, r2⟩ := HAX.out wz hSw; obtain ⟨r3, r4⟩ := HSW.out wz hSw; go_simp
            try simp only [Act.put, List.setIfInBounds_toArray, List.set_cons_zero, List.set_cons_succ]
            refine takeC (i := 4) (v := .int .u8 4) (some 40) rfl rfl (by kernel_rfl) (by kernel_rfl) (by kernel_rfl) (fun _ _ _ h => h) (Or.inl ⟨by rfl, ?_⟩) (by assumption) ?_
            · intro wz hSw; obtain ⟨r0, r1, r2⟩ := HAX.out wz hSw; obtain ⟨r3, r4⟩ := HSW.out wz hSw; go_simp
            try simp only [Act.put, List.setIfInBounds_toArray, List.set_cons_zero, List.set_cons_succ]
            refine takeC (i := 5) (v := .pointer (some ⟨ba, 4, none⟩)) (some 41) rfl rfl (by kernel_rfl) (by kernel_rfl) (by kernel_rfl) (fun _ _ _ h => h) (Or.inl ⟨by rfl, ?_⟩) (by assumption) ?_
            · intro wz hSw; obtain ⟨r0, r1, r2⟩ := HAX.out wz hSw; obtain ⟨r3, r4⟩ := HSW.out wz hSw; go_simp
            try simp only [Act.put, List.setIfInBounds_toArray, List.set_cons_zero, List.set_cons_succ]
            refine takeC (i := 6) (v := .func (.func 201) #[] #[.pointer (some ⟨be, 0, none⟩)]) (some 42) rfl rfl (by kernel_rfl) (by kernel_rfl) (by kernel_rfl) (fun _ _ _ h => h) (Or.inl ⟨by rfl, ?_⟩) (by assumption) ?_
            · intro wz hSw; obtain ⟨r0, r1, r2⟩ := HAX.out wz hSw; obtain ⟨r3, r4⟩ := HSW.out wz hSw; go_simp
            try simp only [Act.put, List.setIfInBounds_toArray, List.set_cons_zero, List.set_cons_succ]
            refine takeC (i := 7) (v := .pointer (some ⟨bg, 2, none⟩)) (some 43) rfl rfl (by kernel_rfl) (by kernel_rfl) (by kernel_rfl) (fun _ _ _ h => h) (Or.inl ⟨by rfl, ?_⟩) (by assumption) ?_
            · intro wz hSw; obtain ⟨r0, r1, r2⟩ := HAX.out wz hSw; obtain ⟨r3, r4⟩ := HSW.out wz hSw; go_simp
            try simp only [Act.put, List.setIfInBounds_toArray, List.set_cons_zero, List.set_cons_succ]
            refine takeC (i := 8) (v := .slice ua y3.length uc) (some 44) rfl rfl (by kernel_rfl) (by kernel_rfl) (by kernel_rfl) (fun _ _ _ h => h) (Or.inl ⟨by rfl, ?_⟩) (by assumption) ?_
            · intro wz hSw; obtain ⟨r0, r1, r2⟩ := HAX.out wz hSw; obtain ⟨r3, r4⟩ := HSW.out wz hSw; go_simp
            try simp only [Act.put, List.setIfInBounds_toArray, List.set_cons_zero, List.set_cons_succ]
            refine wpAnyH_ready (rs := [9]) (by kernel_rfl) (by simp) ?_
            refine AllReadyH.cons rfl (fun K hK => ?_) AllReadyH.nil
            go_simp
            go_wp2_with (go_at_call 201; refine HEV.out.mono ?_; rintro e w5 ⟨rfl, hq5⟩)
            have hS5 : Kept (fun i => i = w.heap.size + 1) wa w5 := HSD.out.trans (keptOf (hq5.below _))
            have HM5 : Hid (MapH w5 (w.heap.size + 1) (a.length + k) h) := MapH.quiet HMD.out hq5
            refine hK.out _ _ hS5 (fun hH5 => ?_)
            clear hK K
            try simp only [Act.put, List.setIfInBounds_toArray, List.set_cons_zero, List.set_cons_succ]
            refine wpAnyH_ready (rs := [10]) (by kernel_rfl) (by simp) ?_
            refine AllReadyH.cons rfl (fun K hK => ?_) AllReadyH.nil
            refine step_putH rfl (.tmp 36) (.tmp 38) (.tmp 45) rfl rfl HM5.out (by unfold maxLen; omega) y1 gv rfl rfl HYW.out ?_
            intro w6 hm6 hk6
            have HS6 := Lib.hid (hS5.trans hk6)
            refine hK.out _ _ HS6.out (fun hH6 => ?_)
            clear hK K
            refine wpAnyH_done (by kernel_rfl) ?_ _
            have HM6 := Lib.hid hm6
            have hlk6 : (Instr.lookup 181 (.map (some (w.heap.size + 1))) (.int .i64 y1) false).run Tryz.prog w6 = .ok (.bool gv) w6 := by
              have h1 := MapH.look1 hm6 y1 HX1.out.1 HX1.out.2
              have h2 : updB h y1 gv y1 = gv := by unfold updB; rw [if_pos rfl]
              rw [h2] at h1
              exact h1
            obtain ⟨r0, r1, r2⟩ := HAX.out w6 HS6.out
            obtain ⟨r3, r4⟩ := HSW.out w6 HS6.out
            have HK6 := Lib.hid (HKA.out.trans HS6.out)
            have HW2K : Hid (W2.heap.size ≤ w6.heap.size) := HK6.out.size
            have HO6 : Hid (OwnB w6 W2.heap.size (.slice oa on oc) bs) := HS6.out.row HOA.out (fun g hg e => by have h1 := (ownB_lt HOA.out g hg).1; have h2 := HW2.out; omega)
            have hal : Below w6.heap.size w6 (w6.alloc (.cells #[.bool gv] 4)) := (Below.refl _ _).alloc (Nat.le_refl _) _
            have HAL := Lib.hid hal
            have HO7 : Hid (OwnB (w6.alloc (.cells #[.bool gv] 4)) W2.heap.size (.slice oa on oc) bs) := (keptOf (S := fun _ => False) hal).row HO6.out (fun _ _ h => h)
            have HZ7 : Hid (W2.heap.size ≤ (w6.alloc (.cells #[.bool gv] 4)).heap.size) := Nat.le_trans HW2K.out hal.size
            clear hm6 hk6 hH5 hH6 hSd hS5 hq5 hal
            go_wp2_with (at_builtin; go_loud (refine wpList_appBo rfl (.tmp 46) (.tmp 51) rfl W2.heap.size (.slice oa on oc) bs gv w6.heap.size rfl rfl HO7.out (cell_fresh rfl) HLB.out HZ7.out ?_; intro v7 w7 ho7 hg7))
            have HK7 : Hid (Kept (fun i => i = w.heap.size + 1) W2 w7) := (HK6.out.trans (keptOf HAL.out)).next (Kept.of_grown hg7) (fun i hi e => by have := (ownB_lt HO7.out i e).1; omega)
            have HM7 : Hid (MapH w7 (w.heap.size + 1) (a.length + (k + 1)) (updB h y1 gv)) := MapH.keep (MapH.keep HM6.out (S := fun _ => False) (keptOf HAL.out) (fun h => h)) (Kept.of_grown hg7) (fun e => by have h1 := (ownB_lt HO7.out _ e).1; have h2 := HW2.out; omega)
            have HO8 := Lib.hid ho7
            clear ho7 hg7
            go_roundw
            case rel => exact ⟨k + 1, by have := HKL.out; omega, by go_num, HK7.out, by rw [HRS2.out]; exact HM7.out, by rw [HRS2.out]; exact HO8.out⟩
            case measure => have := HKL.out; simp [intOf]; omega
        · obtain rfl : k = gs.length := by omega
          rw [List.take_length] at hmp hown
          have HRD : Hid (Reads wr (w.heap.size + 2) (w.heap.size + 1) be (a.length + gs.length) (runG h0 gs).1) := ⟨hmp, q3, q4⟩
          have HVA := Lib.hid (HRD.out.val o ho1 ho2 (Quiet.refl wr))
          have HOW := Lib.hid hown
          have HBW := Lib.hid hbw
          clear hmp hown hke hbw
          go_wp2_with (go_at_call 176; refine HVA.out.mono ?_; rintro e w8 ⟨rfl, hq8⟩)
          go_ret2
          unfold ValPost
          rw [HH0.out]
          have h8 : Below wr.heap.size wr w8 := hq8.below _
          exact ⟨_, rfl, (ownB_mono ((keptOf (S := fun _ => False) h8).row HOW.out (fun _ _ h => h)) (by have := HW2.out; omega)), HBW.out.trans (h8.mono HBW.out.size)⟩
end Go.Proofs.YtfghjfljomcldaaGreat
