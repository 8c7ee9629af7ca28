/- Joined texts: CxSimd. -/
import Derived.Test.YtafenijbglcppaaK12
import Derived.Test.YtafenijbglcppaaK11
/- circ.simplified. -/
namespace Go.Proofs.Ytafenijbglcppaa
open Go.RowKit
set_option linter.unusedVariables false
set_option linter.unusedSimpArgs false

theorem wpList_putM {w : World} {b n : Nat} {f : Int → Option Int} {ops : Array Oper} {rest : List Oper} {o : Oper} {a : Act} {Q : Exit → Act → World → Prop} (hg : o.guard = none) (m x v : Operand) (hop : o.op = Op.mapUpdate 64 m x v)
    (hm : a.eval m = .map (some b)) (h : MapM w b n f) (hn : n < maxLen) (k y : Int) (hx : a.eval x = .int .i64 k) (hv : a.eval v = .int .i64 y) (hw : (Lit.int .i64 k).wf = true) (hy : (Lit.int .i64 y).wf = true)
    (hQ : ∀ w', MapM w' b (n + 1) (updM f k y) → Kept (fun i => i = b) w w' → wpList Try.prog ops Q rest (a.put o.dst undef) w') : wpList Try.prog ops Q (o :: rest) a w :=
  wpList_plain hg fun K hK => by
    obtain ⟨w', hrun, h3, h4⟩ := h.put hn k y hw hy
    unfold Oper.wp
    simp [execOp, hop, hm, hx, hv, hrun, Result.andThen]
    exact hK _ _ (hQ _ h3 h4)
theorem MapM.more {w : World} {b n m : Nat} {f : Int → Option Int} (h : MapM w b n f) (hn : n ≤ m) : MapM w b m f := by
  obtain ⟨D, h1, h2⟩ := h
  exact ⟨D, h1.mono hn, h2⟩
theorem updM_twice (f : Int → Option Int) (k y z : Int) : updM (updM f k y) k z = updM f k z := by
  funext j
  unfold updM
  split <;> simp_all
theorem varC_pos {x : Int} (h : 0 < x) : varC x = x := by unfold varC; rw [if_neg (by omega)]
theorem JoinSt.keptN {S : Nat → Prop} {w w' : World} {B : Nat} {v : Value} {t : List Trp} (h : JoinSt w B v t) (k : Kept S w w') (hS : ∀ g, B ≤ g → ¬ S g) : JoinSt w' B v t := h.keptS k hS
/-- A net whose memory is the call's own (from block B on), or lay there in w0 (lists of gates). -/
structure NetO (w0 X : World) (B : Nat) (vp vg : Value) (P : List Blk) (G : List Gt) : Prop where
  pre : ∃ t, JoinSt X B vp t ∧ shapeT t = P
  may : mayP P = true
  row : ∃ t, RowG w0 X B vg t ∧ shapeG t = G
  len : G.length ≤ 4000000
theorem NetO.blocks_of {X : World} {B : Nat} {vp : Value} {P : List Blk} {t : List Trp} (h : JoinSt X B vp t) (hs : shapeT t = P) (hm : mayP P = true) : IsBlocks X vp P := by
  rw [← hs] at hm ⊢
  have h7 := mayP_short hm
  have h8 := (mayP_parts hm).2.2.1
  refine h.blocks (by have := h7.2; rw [shapeT_len] at this; omega) (fun z hz => ?_)
  have hm2 : (z.1, z.2.2) ∈ shapeT t := List.mem_map_of_mem (f := fun x : Trp => (x.1, x.2.2)) hz
  refine ⟨by have := len_flatB hm2; simp only at this; omega, fun y hy => ?_⟩
  have := h8 y (mem_flatB hm2 hy)
  omega
theorem NetO.blocks {w0 X : World} {B : Nat} {vp vg : Value} {P : List Blk} {G : List Gt} (h : NetO w0 X B vp vg P G) : IsBlocks X vp P := by
  obtain ⟨t, h1, h2⟩ := h.pre
  exact NetO.blocks_of h1 h2 h.may
theorem NetO.gates {w0 X : World} {B : Nat} {vp vg : Value} {P : List Blk} {G : List Gt} (h : NetO w0 X B vp vg P G) : IsGates X vg G := by
  obtain ⟨t, h1, h2⟩ := h.row
  have h3 := h.len
  rw [← h2] at h3 ⊢
  rw [shapeG_len] at h3
  exact h1.gates (by omega)
theorem NetO.keptS {w0 X Y : World} {B : Nat} {vp vg : Value} {P : List Blk} {G : List Gt} {S : Nat → Prop} (h : NetO w0 X B vp vg P G) (k : Kept S X Y) (hS : ∀ g, B ≤ g → ¬ S g) (hS0 : ∀ g, g < w0.heap.size → ¬ S g) : NetO w0 Y B vp vg P G := by
  obtain ⟨t, h1, h2⟩ := h.pre
  obtain ⟨s, h3, h4⟩ := h.row
  exact ⟨⟨t, h1.keptS k hS, h2⟩, h.may, ⟨s, h3.keptS k hS hS0, h4⟩, h.len⟩
theorem NetO.mono {w0 X : World} {B B' : Nat} {vp vg : Value} {P : List Blk} {G : List Gt} (h : NetO w0 X B vp vg P G) (hB : B' ≤ B) (h0 : w0.heap.size ≤ B') : NetO w0 X B' vp vg P G := by
  obtain ⟨t, h1, h2⟩ := h.pre
  obtain ⟨s, h3, h4⟩ := h.row
  exact ⟨⟨t, h1.mono hB, h2⟩, h.may, ⟨s, h3.mono hB h0, h4⟩, h.len⟩
theorem mayP_nil : mayP [] = true := by decide
theorem NetO.nil {w0 X : World} {B : Nat} (hb : Below w0.heap.size w0 X) (hB : w0.heap.size ≤ B) : NetO w0 X B (.slice none 0 0) (.slice none 0 0) [] [] := ⟨⟨[], JoinSt.nil _ _, rfl⟩, mayP_nil, ⟨[], RowG.nil hb hB, rfl⟩, by simp⟩
/-- A net that a call hands back. -/
def NetPostO (w0 w : World) (r : Nt) (e : Ending) (w' : World) : Prop :=
  ∃ vp vg, e = .returned (.agg #[vp, vg, .int .i64 r.2.2]) ∧ NetO w0 w' w.heap.size vp vg r.1 r.2.1 ∧ Below w.heap.size w w'
theorem const_row {w0 X : World} {B g : Nat} {x : Int} (hb : Below w0.heap.size w0 X) (hB : w0.heap.size ≤ B) (h : X.heap[g]? = some (.cells #[.int .i64 x, .int .u8 1, .slice none 0 0] 34 (0, 0))) (hg : B ≤ g) (h1 : 1 ≤ x) (h2 : x ≤ 65536) : RowG w0 X B (.slice (some ⟨g, 0, none⟩) 1 1) [(x, 1, .slice none 0 0, [])] :=
  ⟨hb, hB, ⟨by simp [cellsG], .inr ⟨g, 1, _, rfl, hg, h, by simp, by simp [maxLen], by simp, by simp [cellsG]⟩⟩, fun y hy => by rw [List.mem_singleton] at hy; subst hy; exact .inl (Own.nil _ _), fun y hy => by
    simp [shapeG] at hy
    subst hy
    exact ⟨⟨by simp only; omega, by simp only; omega⟩, ⟨by simp, by simp⟩, by simp, In64.nil⟩⟩
theorem csims_to (w : World) : Calls Try.prog 44 #[] w fun e w' => e = .returned (.agg #[.nilFunc, .func (.func 63) #[] #[], .func (.func 65) #[] #[], .func (.func 67) #[] #[], .func (.func 69) #[] #[]]) ∧ Below w.heap.size w w' := csims_any w
/-- A gate's outcome in a new block. -/
def OutBox (W wx : World) (s : Value) (r : Oc) : Prop :=
  ∃ bo u, s = .pointer (some ⟨bo, 0, none⟩) ∧ W.heap.size ≤ bo ∧ wx.heap[bo]? = some (.cells #[.int .u8 r.1, u, .int .i64 r.2.2] 95 (0, 0)) ∧ Own wx W.heap.size u r.2.1 ∧ Below W.heap.size W wx
theorem simRun_take (f : Int → Option Int) {gs : List Gt} {k : Nat} (h : k < gs.length) : simRun f (gs.take (k + 1)) = simStep (simRun f (gs.take k)) (gs.getD k dG) := by rw [gates_take h, simRun_snoc]

set_option maxRecDepth 100000 in
set_option maxHeartbeats 40000000 in
theorem csimplified_any (w00 : World) (vp vg va : Value) (o : Int) (P : List Blk) (gs : List Gt) (a : List Int) (w : World) (HP : IsBlocks w vp P) (HG : IsGates w vg gs) (HA : IsInts w va a) (h00 : Below w00.heap.size w00 w) (hP : mayP P = true) (hgs : gsOk 65537 gs) (hgl : gs.length < 1000000) (hal : a.length ≤ 1000000) (ho : bdI 65537 o) :
    Calls Try.prog 20 #[.agg #[vp, vg, .int .i64 o], va] w (NetPostO w00 w (simpN P gs o a)) := by
  obtain ⟨gn, hgn⟩ : ∃ gn : Int, gn = 65537 := ⟨_, rfl⟩
  have hmm := @run_makeMap Try.prog
  obtain ⟨W0, hW0⟩ : ∃ W0, ((w.alloc (.cells #[vp, vg, .int .i64 o] 25)).alloc (.cells #[.slice none 0 0, .slice none 0 0, .int .i64 0] 25)).alloc (.map #[] 0) = W0 := ⟨_, rfl⟩
  have hb0 : Below w.heap.size w W0 := by rw [← hW0]; exact (((Below.refl w.heap.size w).alloc (Nat.le_refl _) _).alloc (by simp) _).alloc (by simp; omega) _
  have hz0 : W0.heap.size = w.heap.size + 3 := by rw [← hW0]; simp
  have hm0 : MapM W0 (w.heap.size + 2) 0 (fun _ => none) := by
    rw [← hW0]
    have h := MapM.made ((w.alloc (.cells #[vp, vg, .int .i64 o] 25)).alloc (.cells #[.slice none 0 0, .slice none 0 0, .int .i64 0] 25))
    simpa using h
  have hn0 : W0.heap[w.heap.size]? = some (.cells #[vp, vg, .int .i64 o] 25 (0, 0)) := by rw [← hW0, heapy, if_neg (by simp; omega), heapy, if_neg (by simp), heapy, if_pos rfl]
  have hr0 : W0.heap[w.heap.size + 1]? = some (.cells #[.slice none 0 0, .slice none 0 0, .int .i64 0] 25 (0, 0)) := by rw [← hW0, heapy, if_neg (by simp), heapy, if_pos (by simp)]
  have H00 := Lib.hid h00
  have h00s : w00.heap.size ≤ w.heap.size := h00.size
  have HPW := Lib.hid HP
  have HGW := Lib.hid HG
  have HAW := Lib.hid HA
  have HPM := Lib.hid hP
  have HGS := Lib.hid hgs
  have HB0 := Lib.hid hb0
  have HM0 := Lib.hid hm0
  have HN0 := Lib.hid hn0
  have HR0 := Lib.hid hr0
  have HZ0 := Lib.hid hz0
  have HO := Lib.hid ho
  have HFB : Hid (mBd 65537 (fixM a)) := fixM_bd (Int.le_refl _) a
  have hA64 : Hid (In64 a) := by obtain ⟨_, _, _, _, _, _, g, _⟩ := HA; exact g
  obtain ⟨pa, pc, rfl, _⟩ := HP.shape
  obtain ⟨ga, gc, rfl, _⟩ := HG.shape
  obtain ⟨aa, ac, rfl⟩ := HA.shape
  have HW0 := Lib.hid hW0
  clear HP HG HA hP hgs h00 hb0 hm0 hn0 hr0 ho hW0
  go_enter Try.func20, Try.ntmps20
  go_wp2
  rw [HW0.out]
  clear HW0
  have hbm : w.heap.size + 2 < W0.heap.size := by omega
  obtain ⟨bm, hbme⟩ : ∃ bm, w.heap.size + 2 = bm := ⟨_, rfl⟩
  have hbm1 : w.heap.size + 1 < bm := by omega
  have hbm2 : bm < W0.heap.size := by omega
  rw [show w.heap.size + 1 + 1 = bm from hbme]
  rw [hbme] at HM0
  clear hbm hz0 hbme
  go_loopw [18] (fun i wr => ∃ k : Nat, k ≤ a.length ∧ i = .int .i64 k ∧ MapM wr bm (2 * k) (fixM (a.take k)) ∧ Kept (fun i => i = bm) W0 wr) (fun i _ => a.length - (intOf i).toNat)
  case atStart => exact ⟨0, Nat.zero_le _, rfl, HM0.out, Kept.refl _ _⟩
  case round =>
    clear HM0
    obtain ⟨k, hk, rfl, hmp, hke⟩ := hrel
    have HMP := Lib.hid hmp
    have HKE := Lib.hid hke
    have HBW : Hid (Below w.heap.size w wr) := HB0.out.trans (hke.below (by have := HB0.out.size; exact this) (fun i hi e => by omega))
    clear hmp hke
    by_cases hlt : k < a.length
    · obtain ⟨b, off, rfl, hb, hc0⟩ := HAW.out.cellY hlt
      have hcx := (HBW.out.cell (p := ⟨b, off + k, none⟩) hb).trans hc0
      have hxr := hA64.out _ (ints_getD_mem hlt)
      have HTS : Hid (fixM (a.take (k + 1)) = updM (fixM (a.take k)) (varC (a.getD k 0)) (if 0 < a.getD k 0 then 65537 else -65537)) := by show _ = _; rw [ints_take_succ hlt, fixM_snoc]
      have hk0 : (0 : Int) ≤ (k : Int) := by omega
      have hk1 : (k : Int) < (a.length : Int) := by omega
      have hk2 : (k : Int) < 4000001 := by omega
      have HKL := Lib.hid hlt
      have hvr := varC_64 hxr.1 hxr.2
      have HXR := Lib.hid hxr
      have HVR := Lib.hid hvr
      clear hc0 hlt hxr hvr
      generalize a.getD k 0 = x at *
      have HV : Hid (∀ X, Calls Try.prog 27 #[.int .i64 x] X fun e w' => e = .returned (.int .i64 (varC x)) ∧ X = w') := fun X => cvar_any x X HXR.out.1 HXR.out.2
      by_cases hp : 0 < x
      · have HTT : Hid (fixM (a.take (k + 1)) = updM (updM (fixM (a.take k)) (varC x) (-65537)) x 65537) := by
          show _ = _
          rw [HTS.out, if_pos hp, varC_pos hp, updM_twice]
        clear HTS
        generalize varC x = y at *
        generalize fixM (a.take k) = f at *
        go_wp2_with (first
          | (go_at_call 27; go_loud (refine (HV.out _).mono ?_; rintro e w1 ⟨rfl, rfl⟩))
          | (at_mapUpdate; refine wpList_putM rfl _ _ _ rfl rfl HMP.out (by unfold maxLen; omega) y (-65537) rfl rfl (i64w HVR.out.1 HVR.out.2) (by decide) ?_; intro w2 hm2 hk2x; have HM2 := Lib.hid hm2; have HK2 := Lib.hid hk2x; clear hm2 hk2x HMP)
          | (at_mapUpdate; go_loud (refine wpList_putM rfl _ _ _ rfl rfl HM2.out (by unfold maxLen; omega) x 65537 rfl rfl (i64w HXR.out.1 HXR.out.2) (by decide) ?_; intro w3 hm3 hk3; have HM3 := Lib.hid hm3; have HK3 := Lib.hid hk3; clear hm3 hk3)))
        go_roundw
        case rel => exact ⟨k + 1, HKL.out, by go_num, by rw [HTT.out]; exact HM3.out, HKE.out.trans (HK2.out.trans HK3.out)⟩
        case measure => have := HKL.out; simp [intOf]; omega
      · have HTT : Hid (fixM (a.take (k + 1)) = updM (fixM (a.take k)) (varC x) (-65537)) := by
          show _ = _
          rw [HTS.out, if_neg hp]
        have hpd : decide (0 < x) = false := by simpa using hp
        clear HTS hp
        generalize varC x = y at *
        generalize fixM (a.take k) = f at *
        go_wp2_with (first
          | (go_at_call 27; go_loud (refine (HV.out _).mono ?_; rintro e w1 ⟨rfl, rfl⟩))
          | (at_mapUpdate; go_loud (refine wpList_putM rfl _ _ _ rfl rfl HMP.out (by unfold maxLen; omega) y (-65537) rfl rfl (i64w HVR.out.1 HVR.out.2) (by decide) ?_; intro w2 hm2 hk2x; have HM2 := Lib.hid hm2; have HK2 := Lib.hid hk2x; clear hm2 hk2x)))
        go_roundw
        case rel => exact ⟨k + 1, HKL.out, by go_num, by rw [HTT.out]; exact MapM.more HM2.out (by omega), HKE.out.trans HK2.out⟩
        case measure => have := HKL.out; simp [intOf]; omega
    · obtain rfl : k = a.length := by omega
      rw [List.take_length] at HMP
      obtain ⟨W1, hW1⟩ : ∃ W1, wr = W1 := ⟨_, rfl⟩
      rw [hW1] at HMP HKE HBW ⊢
      clear hW1
      have hs1 : W0.heap.size ≤ W1.heap.size := HKE.out.size
      have HN1 : Hid (W1.heap[w.heap.size]? = some (.cells #[.slice pa P.length pc, .slice ga gs.length gc, .int .i64 o] 25 (0, 0))) := (HKE.out.block _ (by omega) (by omega)).trans HN0.out
      have HR1 : Hid (W1.heap[w.heap.size + 1]? = some (.cells #[.slice none 0 0, .slice none 0 0, .int .i64 0] 25 (0, 0))) := (HKE.out.block _ (by omega) (by omega)).trans HR0.out
      have n0 : W1.cell? ⟨w.heap.size, 0, none⟩ = some (.slice pa P.length pc) := by simp [World.cell?, HN1.out]
      have HWO := Lib.hid (cwithout_any bm (2 * a.length) (fixM a) (.slice pa P.length pc) P W1 HMP.out (HPW.out.below HBW.out (Nat.le_refl _)) (mayP_short HPM.out).1)
      have hbm3 : bm < W1.heap.size := by omega
      clear HN0 HR0 HZ0 HAW
      go_wp2_with (first
        | (go_at_call 26; go_loud (refine HWO.out.mono ?_; rintro e w2 ⟨v8, t8, rfl, hj2, hs2, hb2⟩; have HJ2 := Lib.hid hj2; have HS2 := Lib.hid hs2; have HB2 := Lib.hid hb2; obtain ⟨oa8, oc8, rfl⟩ := hj2.shape; clear hj2 hs2 hb2))
        | (go_at_call 44; go_loud (refine (csims_to w2).mono ?_; rintro e w3 ⟨rfl, hb3⟩; have HB3 := Lib.hid (HB2.out.trans (hb3.mono HB2.out.size)); have HB23 := Lib.hid hb3; have hb3x := hb3.size; clear hb3; have n1 : (w3.alloc (.cells #[.nilFunc, .func (.func 63) #[] #[], .func (.func 65) #[] #[], .func (.func 67) #[] #[], .func (.func 69) #[] #[]] 92)).cell? ⟨w.heap.size, 1, none⟩ = some (.slice ga gs.length gc) := by { have h8 : (w3.alloc (.cells #[.nilFunc, .func (.func 63) #[] #[], .func (.func 65) #[] #[], .func (.func 67) #[] #[], .func (.func 69) #[] #[]] 92)).heap[w.heap.size]? = _ := ((HB3.out.alloc HB3.out.size (.cells #[.nilFunc, .func (.func 63) #[] #[], .func (.func 65) #[] #[], .func (.func 67) #[] #[], .func (.func 69) #[] #[]] 92)).block _ (by omega)).trans HN1.out; simp [World.cell?, h8] })))
      have HA4 : Hid ((w3.alloc (.cells #[.nilFunc, .func (.func 63) #[] #[], .func (.func 65) #[] #[], .func (.func 67) #[] #[], .func (.func 69) #[] #[]] 92)).heap[w3.heap.size]? = some (.cells #[.nilFunc, .func (.func 63) #[] #[], .func (.func 65) #[] #[], .func (.func 67) #[] #[], .func (.func 69) #[] #[]] 92 (0, 0))) := by show _ = _; rw [heapy, if_pos rfl]
      have HB34 : Hid (Below W1.heap.size W1 (w3.alloc (.cells #[.nilFunc, .func (.func 63) #[] #[], .func (.func 65) #[] #[], .func (.func 67) #[] #[], .func (.func 69) #[] #[]] 92))) := HB3.out.alloc HB3.out.size _
      have HJ4 : Hid (JoinSt (w3.alloc (.cells #[.nilFunc, .func (.func 63) #[] #[], .func (.func 65) #[] #[], .func (.func 67) #[] #[], .func (.func 69) #[] #[]] 92)) W1.heap.size (.slice oa8 t8.length oc8) t8) := HJ2.out.below ((HB23.out).trans (((Below.refl _ _).alloc (Nat.le_refl _) _).mono hb3x)) (Nat.le_refl _)
      have hz34 : w3.heap.size < (w3.alloc (.cells #[.nilFunc, .func (.func 63) #[] #[], .func (.func 65) #[] #[], .func (.func 67) #[] #[], .func (.func 69) #[] #[]] 92)).heap.size := by simp
      generalize hw4 : (w3.alloc (.cells #[.nilFunc, .func (.func 63) #[] #[], .func (.func 65) #[] #[], .func (.func 67) #[] #[], .func (.func 69) #[] #[]] 92)) = W4 at *
      clear hw4
      obtain ⟨ab, hab⟩ : ∃ ab, w3.heap.size = ab := ⟨_, rfl⟩
      rw [hab] at HA4 hz34 ⊢
      have hsz14 : W1.heap.size ≤ W4.heap.size := HB34.out.size
      have hab0 : W1.heap.size ≤ ab := by have := HB3.out.size; omega
      have HM4 : Hid (MapM W4 bm (2 * a.length) (fixM a)) := HMP.out.below HB34.out (Nat.le_refl _)
      have HN4 : Hid (W4.heap[w.heap.size]? = some (.cells #[.slice pa P.length pc, .slice ga gs.length gc, .int .i64 o] 25 (0, 0))) := (HB34.out.block _ (by omega)).trans HN1.out
      have HR4 : Hid (W4.heap[w.heap.size + 1]? = some (.cells #[.slice none 0 0, .slice none 0 0, .int .i64 0] 25 (0, 0))) := (HB34.out.block _ (by omega)).trans HR1.out
      have hw1 : w.heap.size ≤ W1.heap.size := HBW.out.size
      have HB4 : Hid (Below w.heap.size w W4) := HBW.out.trans (HB34.out.mono hw1)
      clear HB3 HB23 HB2 HJ2 HB34 HMP HKE HN1 HR1 n0 n1 HWO hab hb3x HBW HB0
      have hbm4 : bm < W4.heap.size := by omega
      go_loopw [10, 38] (fun out i wr => ∃ (k : Nat) (t : List Tg), k ≤ gs.length ∧ i = .int .i64 k ∧ RowG w00 wr W4.heap.size out t ∧ shapeG t = (simRun (fixM a) (gs.take k)).2 ∧ MapM wr bm (2 * a.length + k) (simRun (fixM a) (gs.take k)).1 ∧ Kept (fun i => i = bm) W4 wr) (fun _ i _ => gs.length - (intOf i).toNat)
      case atStart => exact ⟨0, [], Nat.zero_le _, rfl, RowG.nil (H00.out.trans (HB4.out.mono h00s)) (by omega), rfl, HM4.out, Kept.refl _ _⟩
      case round =>
        obtain ⟨k, t, hk, rfl, hrow, hsh, hmp, hke⟩ := hrel
        have HRW := Lib.hid hrow
        have HSH := Lib.hid hsh
        have HMP := Lib.hid hmp
        have HKE := Lib.hid hke
        have hszr := hke.size
        have HTOT : Hid (Below w.heap.size w wr) := HB4.out.trans (hke.below (by omega) (fun i hi e => by omega))
        obtain ⟨oa, oc, rfl⟩ := hrow.shape
        have HTL : Hid (t.length < 1000000) := by
          show _ < _
          have h1 := congrArg List.length hsh
          rw [shapeG_len] at h1
          have h2 := simRun_len (fixM a) (gs.take k)
          rw [List.length_take] at h2
          omega
        clear hrow hsh hmp hke HM4
        by_cases hlt : k < gs.length
        · obtain ⟨b, off, u, rfl, hb, hcx0, hck0, hcu0, HU0, hrg⟩ := HGW.out.at hlt
          have hcx := (HTOT.out.cell (p := ⟨b, off + k * 3, none⟩) hb).trans hcx0
          have hck := (HTOT.out.cell (p := ⟨b, off + k * 3 + 1, none⟩) hb).trans hck0
          have hcu := (HTOT.out.cell (p := ⟨b, off + k * 3 + 2, none⟩) hb).trans hcu0
          have HGK := Lib.hid (HGS.out _ (show gs.getD k dG ∈ gs by simp [List.getD, hlt]))
          have HST := Lib.hid (simRun_take (fixM a) hlt)
          have HFM : Hid (mBd 65537 (simRun (fixM a) (gs.take k)).1) := (simRun_ok (Int.le_refl _) HFB.out (gs.take k) (fun g hg => HGS.out g (List.mem_of_mem_take hg))).1
          have HU := Lib.hid HU0
          obtain ⟨ua, uc, rfl⟩ := HU0.shape
          have hk0 : (0 : Int) ≤ (k : Int) := by omega
          have hk1 : (k : Int) < (gs.length : Int) := by omega
          have hk2 : (k : Int) < 4000001 := by omega
          have HKL := Lib.hid hlt
          clear hcx0 hck0 hcu0 HU0 hlt
          generalize gs.getD k dG = y at *
          obtain ⟨y1, y2, y3⟩ := y
          simp only at hcx hck hcu HU hrg HGK HST
          have hx1 := hrg.1.1
          have hx2 := hrg.1.2
          obtain ⟨F, hF⟩ : ∃ F, (simRun (fixM a) (gs.take k)).1 = F := ⟨_, rfl⟩
          obtain ⟨ST, hST⟩ : ∃ ST, (simRun (fixM a) (gs.take k)).2 = ST := ⟨_, rfl⟩
          have hpair : simRun (fixM a) (gs.take k) = (F, ST) := by rw [← hF, ← hST]
          rw [hF] at HFM HMP
          rw [hST] at HSH
          rw [hpair] at HST
          obtain ⟨L, hL⟩ : ∃ L, y3.map (imageF F) = L := ⟨_, rfl⟩
          have HLL : Hid (L.length = y3.length) := by show _ = _; rw [← hL, List.length_map]
          have HOK : Hid (ocOk 65537 y3.length (outcomeF y2 L)) := by
            have h := outcome_ok (k := y2) (l := L) (Int.le_refl 65537) (by rw [HLL.out]; exact HGK.out.2.1) (fun x hx => by
              rw [← hL] at hx
              obtain ⟨z, hz, rfl⟩ := List.mem_map.1 hx
              exact HFM.out.image (HGK.out.2.2.2 z hz))
            rwa [HLL.out] at h
          have HLB : Hid (∀ x ∈ L, bdI 65537 x) := fun x hx => by
            rw [← hL] at hx
            obtain ⟨z, hz, rfl⟩ := List.mem_map.1 hx
            exact HFM.out.image (HGK.out.2.2.2 z hz)
          have HFT : Hid (fitsB y2 L.length = true) := by show _ = _; rw [HLL.out]; exact HGK.out.2.1
          have HL3 : Hid (L.length ≤ 200000) := by show _ ≤ _; rw [HLL.out]; exact HGK.out.2.2.1
          have hsi : simStep (F, ST) (y1, y2, y3) = if (outcomeF y2 L).1 = 0 then (updM F y1 (outcomeF y2 L).2.2, ST) else (F, ST ++ [(y1, (outcomeF y2 L).1, (outcomeF y2 L).2.1)]) := by
            unfold simStep
            simp only
            rw [hL]
          rw [hsi] at HST
          have HIM : Hid (∀ X, Below wr.heap.size wr X → Calls Try.prog 45 #[.slice ua y3.length uc, .map (some bm)] X (RetOwn X L)) := fun X hX => by
            rw [← hL]
            exact cimages_any bm _ F _ y3 X (HMP.out.below hX (Nat.le_refl _)) (HFM.out.fBd (by omega)) (HU.out.below (HTOT.out.trans (hX.mono HTOT.out.size)) (Nat.le_refl _))
          have ha1 : Below wr.heap.size wr (wr.alloc (.cells #[.int .i64 y1, .int .u8 y2, .slice ua y3.length uc] 34)) := (Below.refl _ _).alloc (Nat.le_refl _) _
          have HA1 := Lib.hid ha1
          have HHG : Hid ((wr.alloc (.cells #[.int .i64 y1, .int .u8 y2, .slice ua y3.length uc] 34)).heap[wr.heap.size]? = some (.cells #[.int .i64 y1, .int .u8 y2, .slice ua y3.length uc] 34 (0, 0))) := by show _ = _; rw [heapy, if_pos rfl]
          have HRA := Lib.hid (HRW.out.below' ha1 (Nat.le_refl _))
          have HMA := Lib.hid (HMP.out.below ha1 (Nat.le_refl _))
          have HKA : Hid (Kept (fun i => i = bm) W4 (wr.alloc (.cells #[.int .i64 y1, .int .u8 y2, .slice ua y3.length uc] 34))) := HKE.out.trans (Kept.alloc _ _ _)
          have HAA : Hid ((wr.alloc (.cells #[.int .i64 y1, .int .u8 y2, .slice ua y3.length uc] 34)).heap[ab]? = some (.cells #[.nilFunc, .func (.func 63) #[] #[], .func (.func 65) #[] #[], .func (.func 67) #[] #[], .func (.func 69) #[] #[]] 92 (0, 0))) := (HKA.out.block _ (by omega) (by omega)).trans HA4.out
          have hsw : (wr.alloc (.cells #[.int .i64 y1, .int .u8 y2, .slice ua y3.length uc] 34)).heap.size > wr.heap.size := by simp
          have a0 : (wr.alloc (.cells #[.int .i64 y1, .int .u8 y2, .slice ua y3.length uc] 34)).cell? ⟨wr.heap.size, 0, none⟩ = some (.int .i64 y1) := cell_fresh rfl
          have a1 : (wr.alloc (.cells #[.int .i64 y1, .int .u8 y2, .slice ua y3.length uc] 34)).cell? ⟨wr.heap.size, 1, none⟩ = some (.int .u8 y2) := cell_fresh rfl
          have a2 : (wr.alloc (.cells #[.int .i64 y1, .int .u8 y2, .slice ua y3.length uc] 34)).cell? ⟨wr.heap.size, 2, none⟩ = some (.slice ua y3.length uc) := cell_fresh rfl
          clear ha1 hF hST hpair hsi hrg hL
          go_upto_region 15 with fail
          clear hcx hck hcu
          generalize wr.alloc (.cells #[.int .i64 y1, .int .u8 y2, .slice ua y3.length uc] 34) = wa at *
          obtain ⟨gb, hgb⟩ : ∃ gb, wr.heap.size = gb := ⟨_, rfl⟩
          rw [hgb] at HHG hsw a0 a1 a2 ⊢
          have hgb4 : W4.heap.size ≤ gb := by omega
          have HGBE := Lib.hid hgb
          clear hgb
          have hfk := fits_kind HFT.out
          have HFK := Lib.hid hfk
          obtain ⟨R, hR⟩ : ∃ R, outcomeF y2 L = R := ⟨_, rfl⟩
          rw [hR] at HOK HST
          have HR := Lib.hid hR
          clear hfk hR
          go_cut [13] from 42 to 50 (fun s wx => OutBox wa wx s R)
          case first =>
            rcases HFK.out with rfl | rfl | ⟨rfl, hn⟩ | ⟨rfl, hn⟩
            · have hRe : R = mergedF 1 L 65537 := by rw [← HR.out]; unfold outcomeF; rw [if_pos rfl]
              have HFN : Hid (∀ (X : World) (v : Value), IsInts X v L → Calls Try.prog 63 #[v] X (OutP X R)) := fun X v hv => by rw [hRe]; exact csim1_any v L X hv (fun x hx => by have h9 := HLB.out x hx; unfold bdI at h9; omega) (by have := HL3.out; omega)
              have HXC : Hid (∀ X, Below wa.heap.size wa X → X.cell? ⟨gb, 1, none⟩ = some (.int .u8 1) ∧ X.cell? ⟨gb, 2, none⟩ = some (.slice ua y3.length uc) ∧ X.cell? ⟨ab, 1, none⟩ = some (.func (.func 63) #[] #[])) := fun X hX => by
                have h1 := (hX.block gb hsw).trans HHG.out
                have h2 := (hX.block ab (Array.getElem?_eq_some_iff.1 HAA.out).1).trans HAA.out
                exact ⟨by simp [World.cell?, h1], by simp [World.cell?, h1], by simp [World.cell?, h2]⟩
              clear hRe a0 a1 a2
              obtain ⟨rk, rl, rm⟩ := R
              go_wp2_with fail
              refine wp_region_held_drew (S := fun X => Below wa.heap.size wa X) (by kernel_rfl) (Below.refl _ _).drew (fun hSd => ?_)
              have hWd : Below wa.heap.size wa wa.drew := (Below.refl _ _).drew
              have HWD := Lib.hid hWd
              clear hWd
              generalize wa.drew = wd at *
              refine takeC (i := 0) (v := .pointer (some ⟨gb, 1, none⟩)) (some 42) rfl rfl (by kernel_rfl) (by kernel_rfl) (by kernel_rfl) (fun _ _ _ h => h) (Or.inl ⟨by rfl, ?_⟩) (by assumption) ?_
              · intro wz hSw; obtain ⟨r0, r1, r2⟩ := HXC.out wz hSw; go_simp
              try simp only [Act.put, List.setIfInBounds_toArray, List.set_cons_zero, List.set_cons_succ]
              refine takeC (i := 1) (v := .int .u8 1) (some 43) rfl rfl (by kernel_rfl) (by kernel_rfl) (by kernel_rfl) (fun _ _ _ h => h) (Or.inl ⟨by rfl, ?_⟩) (by assumption) ?_
              · intro wz hSw; obtain ⟨r0, r1, r2⟩ := HXC.out wz hSw; go_simp
              try simp only [Act.put, List.setIfInBounds_toArray, List.set_cons_zero, List.set_cons_succ]
              refine takeC (i := 2) (v := .pointer (some ⟨ab, 1, none⟩)) (some 44) rfl rfl (by kernel_rfl) (by kernel_rfl) (by kernel_rfl) (fun _ _ _ h => h) (Or.inl ⟨by rfl, ?_⟩) (by assumption) ?_
              · intro wz hSw; obtain ⟨r0, r1, r2⟩ := HXC.out wz hSw; go_simp
              try simp only [Act.put, List.setIfInBounds_toArray, List.set_cons_zero, List.set_cons_succ]
              refine takeC (i := 3) (v := .func (.func 63) #[] #[]) (some 45) rfl rfl (by kernel_rfl) (by kernel_rfl) (by kernel_rfl) (fun _ _ _ h => h) (Or.inl ⟨by rfl, ?_⟩) (by assumption) ?_
              · intro wz hSw; obtain ⟨r0, r1, r2⟩ := HXC.out wz hSw; go_simp
              try simp only [Act.put, List.setIfInBounds_toArray, List.set_cons_zero, List.set_cons_succ]
              refine takeC (i := 4) (v := .pointer (some ⟨gb, 2, none⟩)) (some 46) rfl rfl (by kernel_rfl) (by kernel_rfl) (by kernel_rfl) (fun _ _ _ h => h) (Or.inl ⟨by rfl, ?_⟩) (by assumption) ?_
              · intro wz hSw; obtain ⟨r0, r1, r2⟩ := HXC.out wz hSw; go_simp
              try simp only [Act.put, List.setIfInBounds_toArray, List.set_cons_zero, List.set_cons_succ]
              refine takeC (i := 5) (v := .slice ua y3.length uc) (some 47) rfl rfl (by kernel_rfl) (by kernel_rfl) (by kernel_rfl) (fun _ _ _ h => h) (Or.inl ⟨by rfl, ?_⟩) (by assumption) ?_
              · intro wz hSw; obtain ⟨r0, r1, r2⟩ := HXC.out wz hSw; go_simp
              try simp only [Act.put, List.setIfInBounds_toArray, List.set_cons_zero, List.set_cons_succ]
              refine takeC (i := 6) (v := .map (some bm)) (some 48) rfl rfl (by kernel_rfl) (by kernel_rfl) (by kernel_rfl) (fun _ _ _ h => h) (Or.inl ⟨by rfl, ?_⟩) (by assumption) ?_
              · intro wz hSw; obtain ⟨r0, r1, r2⟩ := HXC.out wz hSw; go_simp
              try simp only [Act.put, List.setIfInBounds_toArray, List.set_cons_zero, List.set_cons_succ]
              clear hSd
              refine wpAnyH_ready (rs := [7, 9]) (by kernel_rfl) (by simp) ?_
              refine AllReadyH.cons rfl (fun K hK => ?_) (AllReadyH.cons rfl (fun K hK => ?_) AllReadyH.nil)
              · go_simp
                go_wp2_with (go_at_call 45; go_loud (refine (HIM.out (wd) (HA1.out.trans ((HWD.out).mono HA1.out.size))).mono ?_; rintro e w7 ⟨v7, rfl, ho7, hb7⟩; have HO7 := Lib.hid ho7; have HB7 := Lib.hid ((HWD.out).trans (hb7.mono (HWD.out).size)); have HB7x := Lib.hid hb7; obtain ⟨va7, vc7, rfl⟩ := own_shC ho7; clear ho7 hb7))
                refine hK.out _ _ HB7.out (fun hH7 => ?_)
                clear hK K hH7
                try simp only [Act.put, List.setIfInBounds_toArray, List.set_cons_zero, List.set_cons_succ]
                refine wpAnyH_ready (rs := [8, 9]) (by kernel_rfl) (by simp) ?_
                refine AllReadyH.cons rfl (fun K hK => ?_) (AllReadyH.cons rfl (fun K hK => ?_) AllReadyH.nil)
                · go_simp
                  go_wp2_with (go_at_call 63; go_loud (refine (HFN.out (w7) (.slice va7 L.length vc7) (HO7.out.ints (by have := HL3.out; omega) (fun x hx => by have h9 := HLB.out x hx; unfold bdI at h9; omega))).mono ?_; rintro e w8 ⟨u8, rfl, ho8, hb8⟩; simp only at ho8; have HO8 := Lib.hid ho8; have HB8 := Lib.hid ((HB7.out).trans (hb8.mono (HB7.out).size)); have HB8x := Lib.hid hb8; obtain ⟨ua8, uc8, rfl⟩ := own_shC ho8; clear ho8 hb8))
                  refine hK.out _ _ HB8.out (fun hH8 => ?_)
                  clear hK K hH8
                  try simp only [Act.put, List.setIfInBounds_toArray, List.set_cons_zero, List.set_cons_succ]
                  refine wpAnyH_ready (rs := [9]) (by kernel_rfl) (by simp) ?_
                  refine AllReadyH.cons rfl (fun K hK => ?_) AllReadyH.nil
                  go_simp
                  have HB9 : Hid (Below wa.heap.size wa ((w8).alloc (.cells #[.int .u8 0, .slice none 0 0, .int .i64 0] 95))) := (HB8.out).alloc (HB8.out).size _
                  refine hK.out _ _ HB9.out (fun hH9 => ?_)
                  clear hK K hH9
                  try simp only [Act.put, List.setIfInBounds_toArray, List.set_cons_zero, List.set_cons_succ]
                  refine wpAnyH_ready (rs := [10]) (by kernel_rfl) (by simp) ?_
                  refine AllReadyH.cons rfl (fun K hK => ?_) AllReadyH.nil
                  obtain ⟨d0, d1, d2, e0, e1, e2⟩ := three_cells (show (w8.alloc (.cells #[.int .u8 0, .slice none 0 0, .int .i64 0] 95)).heap[w8.heap.size]? = some (.cells #[.int .u8 0, .slice none 0 0, .int .i64 0] 95 (0, 0)) by rw [heapy, if_pos rfl])
                  have HBF : Hid (Below wa.heap.size wa (w8.alloc (.cells #[.int .u8 rk, .slice ua8 rl.length uc8, .int .i64 rm] 95))) := HB8.out.alloc HB8.out.size _
                  go_simp
                  refine hK.out _ _ HBF.out (fun hH10 => ?_)
                  clear hK K hH10
                  try simp only [Act.put, List.setIfInBounds_toArray, List.set_cons_zero, List.set_cons_succ]
                  refine wpAnyH_done (by kernel_rfl) ?_ _
                  go_wp2
                  go_meet
                  exact ⟨_, _, rfl, HB8.out.size, by rw [heapy, if_pos rfl], (HO8.out.alloc _).mono (by have := HB7.out.size; omega), HBF.out⟩
                · go_simp
                  have HB9 : Hid (Below wa.heap.size wa ((w7).alloc (.cells #[.int .u8 0, .slice none 0 0, .int .i64 0] 95))) := (HB7.out).alloc (HB7.out).size _
                  refine hK.out _ _ HB9.out (fun hH9 => ?_)
                  clear hK K hH9
                  try simp only [Act.put, List.setIfInBounds_toArray, List.set_cons_zero, List.set_cons_succ]
                  refine wpAnyH_ready (rs := [8]) (by kernel_rfl) (by simp) ?_
                  refine AllReadyH.cons rfl (fun K hK => ?_) AllReadyH.nil
                  go_simp
                  go_wp2_with (go_at_call 63; go_loud (refine (HFN.out (w7.alloc (.cells #[.int .u8 0, .slice none 0 0, .int .i64 0] 95)) (.slice va7 L.length vc7) ((HO7.out.alloc _).ints (by have := HL3.out; omega) (fun x hx => by have h9 := HLB.out x hx; unfold bdI at h9; omega))).mono ?_; rintro e w8 ⟨u8, rfl, ho8, hb8⟩; simp only at ho8; have HO8 := Lib.hid ho8; have HB8 := Lib.hid ((HB9.out).trans (hb8.mono (HB9.out).size)); have HB8x := Lib.hid hb8; obtain ⟨ua8, uc8, rfl⟩ := own_shC ho8; clear ho8 hb8))
                  refine hK.out _ _ HB8.out (fun hH8 => ?_)
                  clear hK K hH8
                  try simp only [Act.put, List.setIfInBounds_toArray, List.set_cons_zero, List.set_cons_succ]
                  refine wpAnyH_ready (rs := [10]) (by kernel_rfl) (by simp) ?_
                  refine AllReadyH.cons rfl (fun K hK => ?_) AllReadyH.nil
                  have hhb : (w8).heap[w7.heap.size]? = some (.cells #[.int .u8 0, .slice none 0 0, .int .i64 0] 95 (0, 0)) := (HB8x.out.block _ (by simp)).trans (by rw [heapy, if_pos rfl])
                  have HHB := Lib.hid hhb
                  obtain ⟨d0, d1, d2, e0, e1, e2⟩ := three_cells hhb
                  have HKT := Lib.hid (kept_three (w7.heap.size) (w8) (.int .u8 rk) (.slice ua8 rl.length uc8) (.int .i64 rm))
                  have hbo : wa.heap.size ≤ w7.heap.size := by have := HB7.out.size; omega
                  have HBF : Hid (Below wa.heap.size wa ((((w8).setCell ⟨w7.heap.size, 0, none⟩ (.int .u8 rk)).setCell ⟨w7.heap.size, 1, none⟩ (.slice ua8 rl.length uc8)).setCell ⟨w7.heap.size, 2, none⟩ (.int .i64 rm))) := (HB8.out).trans (HKT.out.below (HB8.out).size (fun i hi e => by omega))
                  have HOW : Hid (Own (w8) wa.heap.size (.slice ua8 rl.length uc8) rl ∧ ∀ g, (Value.slice ua8 rl.length uc8).ownBlock = some g → g ≠ w7.heap.size) := ⟨HO8.out.mono (by have := HB7.out.size; simp; omega), fun g hg => by have := (HO8.out.lt g hg).1; simp at this; omega⟩
                  clear hhb
                  go_simp
                  refine hK.out _ _ HBF.out (fun hH10 => ?_)
                  clear hK K hH10
                  try simp only [Act.put, List.setIfInBounds_toArray, List.set_cons_zero, List.set_cons_succ]
                  refine wpAnyH_done (by kernel_rfl) ?_ _
                  go_wp2
                  go_meet
                  exact ⟨_, _, rfl, hbo, set_three HHB.out, HKT.out.row HOW.out.1 (fun g hg => HOW.out.2 g hg), HBF.out⟩
              · go_simp
                have HB9 : Hid (Below wa.heap.size wa ((wd).alloc (.cells #[.int .u8 0, .slice none 0 0, .int .i64 0] 95))) := (HWD.out).alloc (HWD.out).size _
                refine hK.out _ _ HB9.out (fun hH9 => ?_)
                clear hK K hH9
                try simp only [Act.put, List.setIfInBounds_toArray, List.set_cons_zero, List.set_cons_succ]
                refine wpAnyH_ready (rs := [7]) (by kernel_rfl) (by simp) ?_
                refine AllReadyH.cons rfl (fun K hK => ?_) AllReadyH.nil
                go_simp
                go_wp2_with (go_at_call 45; go_loud (refine (HIM.out (wd.alloc (.cells #[.int .u8 0, .slice none 0 0, .int .i64 0] 95)) (HA1.out.trans ((HB9.out).mono HA1.out.size))).mono ?_; rintro e w7 ⟨v7, rfl, ho7, hb7⟩; have HO7 := Lib.hid ho7; have HB7 := Lib.hid ((HB9.out).trans (hb7.mono (HB9.out).size)); have HB7x := Lib.hid hb7; obtain ⟨va7, vc7, rfl⟩ := own_shC ho7; clear ho7 hb7))
                refine hK.out _ _ HB7.out (fun hH7 => ?_)
                clear hK K hH7
                try simp only [Act.put, List.setIfInBounds_toArray, List.set_cons_zero, List.set_cons_succ]
                refine wpAnyH_ready (rs := [8]) (by kernel_rfl) (by simp) ?_
                refine AllReadyH.cons rfl (fun K hK => ?_) AllReadyH.nil
                go_simp
                go_wp2_with (go_at_call 63; go_loud (refine (HFN.out (w7) (.slice va7 L.length vc7) (HO7.out.ints (by have := HL3.out; omega) (fun x hx => by have h9 := HLB.out x hx; unfold bdI at h9; omega))).mono ?_; rintro e w8 ⟨u8, rfl, ho8, hb8⟩; simp only at ho8; have HO8 := Lib.hid ho8; have HB8 := Lib.hid ((HB7.out).trans (hb8.mono (HB7.out).size)); have HB8x := Lib.hid hb8; obtain ⟨ua8, uc8, rfl⟩ := own_shC ho8; clear ho8 hb8))
                refine hK.out _ _ HB8.out (fun hH8 => ?_)
                clear hK K hH8
                try simp only [Act.put, List.setIfInBounds_toArray, List.set_cons_zero, List.set_cons_succ]
                refine wpAnyH_ready (rs := [10]) (by kernel_rfl) (by simp) ?_
                refine AllReadyH.cons rfl (fun K hK => ?_) AllReadyH.nil
                have hhb : (w8).heap[wd.heap.size]? = some (.cells #[.int .u8 0, .slice none 0 0, .int .i64 0] 95 (0, 0)) := (HB8x.out.block _ (by have := HB7x.out.size; simp at this; omega)).trans ((HB7x.out.block _ (by simp)).trans (by rw [heapy, if_pos rfl]))
                have HHB := Lib.hid hhb
                obtain ⟨d0, d1, d2, e0, e1, e2⟩ := three_cells hhb
                have HKT := Lib.hid (kept_three (wd.heap.size) (w8) (.int .u8 rk) (.slice ua8 rl.length uc8) (.int .i64 rm))
                have hbo : wa.heap.size ≤ wd.heap.size := by have := HWD.out.size; omega
                have HBF : Hid (Below wa.heap.size wa ((((w8).setCell ⟨wd.heap.size, 0, none⟩ (.int .u8 rk)).setCell ⟨wd.heap.size, 1, none⟩ (.slice ua8 rl.length uc8)).setCell ⟨wd.heap.size, 2, none⟩ (.int .i64 rm))) := (HB8.out).trans (HKT.out.below (HB8.out).size (fun i hi e => by omega))
                have HOW : Hid (Own (w8) wa.heap.size (.slice ua8 rl.length uc8) rl ∧ ∀ g, (Value.slice ua8 rl.length uc8).ownBlock = some g → g ≠ wd.heap.size) := ⟨HO8.out.mono (by have := HB7.out.size; omega), fun g hg => by have := (HO8.out.lt g hg).1; have h9 := HB7x.out.size; simp at h9; omega⟩
                clear hhb
                go_simp
                refine hK.out _ _ HBF.out (fun hH10 => ?_)
                clear hK K hH10
                try simp only [Act.put, List.setIfInBounds_toArray, List.set_cons_zero, List.set_cons_succ]
                refine wpAnyH_done (by kernel_rfl) ?_ _
                go_wp2
                go_meet
                exact ⟨_, _, rfl, hbo, set_three HHB.out, HKT.out.row HOW.out.1 (fun g hg => HOW.out.2 g hg), HBF.out⟩
            · have hRe : R = mergedF 2 L (-65537) := by rw [← HR.out]; unfold outcomeF; rw [if_neg (by decide), if_pos rfl]
              have HFN : Hid (∀ (X : World) (v : Value), IsInts X v L → Calls Try.prog 65 #[v] X (OutP X R)) := fun X v hv => by rw [hRe]; exact csim2_any v L X hv (fun x hx => by have h9 := HLB.out x hx; unfold bdI at h9; omega) (by have := HL3.out; omega)
              have HXC : Hid (∀ X, Below wa.heap.size wa X → X.cell? ⟨gb, 1, none⟩ = some (.int .u8 2) ∧ X.cell? ⟨gb, 2, none⟩ = some (.slice ua y3.length uc) ∧ X.cell? ⟨ab, 2, none⟩ = some (.func (.func 65) #[] #[])) := fun X hX => by
                have h1 := (hX.block gb hsw).trans HHG.out
                have h2 := (hX.block ab (Array.getElem?_eq_some_iff.1 HAA.out).1).trans HAA.out
                exact ⟨by simp [World.cell?, h1], by simp [World.cell?, h1], by simp [World.cell?, h2]⟩
              clear hRe a0 a1 a2
              obtain ⟨rk, rl, rm⟩ := R
              go_wp2_with fail
              refine wp_region_held_drew (S := fun X => Below wa.heap.size wa X) (by kernel_rfl) (Below.refl _ _).drew (fun hSd => ?_)
              have hWd : Below wa.heap.size wa wa.drew := (Below.refl _ _).drew
              have HWD := Lib.hid hWd
              clear hWd
              generalize wa.drew = wd at *
              refine takeC (i := 0) (v := .pointer (some ⟨gb, 1, none⟩)) (some 42) rfl rfl (by kernel_rfl) (by kernel_rfl) (by kernel_rfl) (fun _ _ _ h => h) (Or.inl ⟨by rfl, ?_⟩) (by assumption) ?_
              · intro wz hSw; obtain ⟨r0, r1, r2⟩ := HXC.out wz hSw; go_simp
              try simp only [Act.put, List.setIfInBounds_toArray, List.set_cons_zero, List.set_cons_succ]
              refine takeC (i := 1) (v := .int .u8 2) (some 43) rfl rfl (by kernel_rfl) (by kernel_rfl) (by kernel_rfl) (fun _ _ _ h => h) (Or.inl ⟨by rfl, ?_⟩) (by assumption) ?_
              · intro wz hSw; obtain ⟨r0, r1, r2⟩ := HXC.out wz hSw; go_simp
              try simp only [Act.put, List.setIfInBounds_toArray, List.set_cons_zero, List.set_cons_succ]
              refine takeC (i := 2) (v := .pointer (some ⟨ab, 2, none⟩)) (some 44) rfl rfl (by kernel_rfl) (by kernel_rfl) (by kernel_rfl) (fun _ _ _ h => h) (Or.inl ⟨by rfl, ?_⟩) (by assumption) ?_
              · intro wz hSw; obtain ⟨r0, r1, r2⟩ := HXC.out wz hSw; go_simp
              try simp only [Act.put, List.setIfInBounds_toArray, List.set_cons_zero, List.set_cons_succ]
              refine takeC (i := 3) (v := .func (.func 65) #[] #[]) (some 45) rfl rfl (by kernel_rfl) (by kernel_rfl) (by kernel_rfl) (fun _ _ _ h => h) (Or.inl ⟨by rfl, ?_⟩) (by assumption) ?_
              · intro wz hSw; obtain ⟨r0, r1, r2⟩ := HXC.out wz hSw; go_simp
              try simp only [Act.put, List.setIfInBounds_toArray, List.set_cons_zero, List.set_cons_succ]
              refine takeC (i := 4) (v := .pointer (some ⟨gb, 2, none⟩)) (some 46) rfl rfl (by kernel_rfl) (by kernel_rfl) (by kernel_rfl) (fun _ _ _ h => h) (Or.inl ⟨by rfl, ?_⟩) (by assumption) ?_
              · intro wz hSw; obtain ⟨r0, r1, r2⟩ := HXC.out wz hSw; go_simp
              try simp only [Act.put, List.setIfInBounds_toArray, List.set_cons_zero, List.set_cons_succ]
              refine takeC (i := 5) (v := .slice ua y3.length uc) (some 47) rfl rfl (by kernel_rfl) (by kernel_rfl) (by kernel_rfl) (fun _ _ _ h => h) (Or.inl ⟨by rfl, ?_⟩) (by assumption) ?_
              · intro wz hSw; obtain ⟨r0, r1, r2⟩ := HXC.out wz hSw; go_simp
              try simp only [Act.put, List.setIfInBounds_toArray, List.set_cons_zero, List.set_cons_succ]
              refine takeC (i := 6) (v := .map (some bm)) (some 48) rfl rfl (by kernel_rfl) (by kernel_rfl) (by kernel_rfl) (fun _ _ _ h => h) (Or.inl ⟨by rfl, ?_⟩) (by assumption) ?_
              · intro wz hSw; obtain ⟨r0, r1, r2⟩ := HXC.out wz hSw; go_simp
              try simp only [Act.put, List.setIfInBounds_toArray, List.set_cons_zero, List.set_cons_succ]
              clear hSd
              refine wpAnyH_ready (rs := [7, 9]) (by kernel_rfl) (by simp) ?_
              refine AllReadyH.cons rfl (fun K hK => ?_) (AllReadyH.cons rfl (fun K hK => ?_) AllReadyH.nil)
              · go_simp
                go_wp2_with (go_at_call 45; go_loud (refine (HIM.out (wd) (HA1.out.trans ((HWD.out).mono HA1.out.size))).mono ?_; rintro e w7 ⟨v7, rfl, ho7, hb7⟩; have HO7 := Lib.hid ho7; have HB7 := Lib.hid ((HWD.out).trans (hb7.mono (HWD.out).size)); have HB7x := Lib.hid hb7; obtain ⟨va7, vc7, rfl⟩ := own_shC ho7; clear ho7 hb7))
                refine hK.out _ _ HB7.out (fun hH7 => ?_)
                clear hK K hH7
                try simp only [Act.put, List.setIfInBounds_toArray, List.set_cons_zero, List.set_cons_succ]
                refine wpAnyH_ready (rs := [8, 9]) (by kernel_rfl) (by simp) ?_
                refine AllReadyH.cons rfl (fun K hK => ?_) (AllReadyH.cons rfl (fun K hK => ?_) AllReadyH.nil)
                · go_simp
                  go_wp2_with (go_at_call 65; go_loud (refine (HFN.out (w7) (.slice va7 L.length vc7) (HO7.out.ints (by have := HL3.out; omega) (fun x hx => by have h9 := HLB.out x hx; unfold bdI at h9; omega))).mono ?_; rintro e w8 ⟨u8, rfl, ho8, hb8⟩; simp only at ho8; have HO8 := Lib.hid ho8; have HB8 := Lib.hid ((HB7.out).trans (hb8.mono (HB7.out).size)); have HB8x := Lib.hid hb8; obtain ⟨ua8, uc8, rfl⟩ := own_shC ho8; clear ho8 hb8))
                  refine hK.out _ _ HB8.out (fun hH8 => ?_)
                  clear hK K hH8
                  try simp only [Act.put, List.setIfInBounds_toArray, List.set_cons_zero, List.set_cons_succ]
                  refine wpAnyH_ready (rs := [9]) (by kernel_rfl) (by simp) ?_
                  refine AllReadyH.cons rfl (fun K hK => ?_) AllReadyH.nil
                  go_simp
                  have HB9 : Hid (Below wa.heap.size wa ((w8).alloc (.cells #[.int .u8 0, .slice none 0 0, .int .i64 0] 95))) := (HB8.out).alloc (HB8.out).size _
                  refine hK.out _ _ HB9.out (fun hH9 => ?_)
                  clear hK K hH9
                  try simp only [Act.put, List.setIfInBounds_toArray, List.set_cons_zero, List.set_cons_succ]
                  refine wpAnyH_ready (rs := [10]) (by kernel_rfl) (by simp) ?_
                  refine AllReadyH.cons rfl (fun K hK => ?_) AllReadyH.nil
                  obtain ⟨d0, d1, d2, e0, e1, e2⟩ := three_cells (show (w8.alloc (.cells #[.int .u8 0, .slice none 0 0, .int .i64 0] 95)).heap[w8.heap.size]? = some (.cells #[.int .u8 0, .slice none 0 0, .int .i64 0] 95 (0, 0)) by rw [heapy, if_pos rfl])
                  have HBF : Hid (Below wa.heap.size wa (w8.alloc (.cells #[.int .u8 rk, .slice ua8 rl.length uc8, .int .i64 rm] 95))) := HB8.out.alloc HB8.out.size _
                  go_simp
                  refine hK.out _ _ HBF.out (fun hH10 => ?_)
                  clear hK K hH10
                  try simp only [Act.put, List.setIfInBounds_toArray, List.set_cons_zero, List.set_cons_succ]
                  refine wpAnyH_done (by kernel_rfl) ?_ _
                  go_wp2
                  go_meet
                  exact ⟨_, _, rfl, HB8.out.size, by rw [heapy, if_pos rfl], (HO8.out.alloc _).mono (by have := HB7.out.size; omega), HBF.out⟩
                · go_simp
                  have HB9 : Hid (Below wa.heap.size wa ((w7).alloc (.cells #[.int .u8 0, .slice none 0 0, .int .i64 0] 95))) := (HB7.out).alloc (HB7.out).size _
                  refine hK.out _ _ HB9.out (fun hH9 => ?_)
                  clear hK K hH9
                  try simp only [Act.put, List.setIfInBounds_toArray, List.set_cons_zero, List.set_cons_succ]
                  refine wpAnyH_ready (rs := [8]) (by kernel_rfl) (by simp) ?_
                  refine AllReadyH.cons rfl (fun K hK => ?_) AllReadyH.nil
                  go_simp
                  go_wp2_with (go_at_call 65; go_loud (refine (HFN.out (w7.alloc (.cells #[.int .u8 0, .slice none 0 0, .int .i64 0] 95)) (.slice va7 L.length vc7) ((HO7.out.alloc _).ints (by have := HL3.out; omega) (fun x hx => by have h9 := HLB.out x hx; unfold bdI at h9; omega))).mono ?_; rintro e w8 ⟨u8, rfl, ho8, hb8⟩; simp only at ho8; have HO8 := Lib.hid ho8; have HB8 := Lib.hid ((HB9.out).trans (hb8.mono (HB9.out).size)); have HB8x := Lib.hid hb8; obtain ⟨ua8, uc8, rfl⟩ := own_shC ho8; clear ho8 hb8))
                  refine hK.out _ _ HB8.out (fun hH8 => ?_)
                  clear hK K hH8
                  try simp only [Act.put, List.setIfInBounds_toArray, List.set_cons_zero, List.set_cons_succ]
                  refine wpAnyH_ready (rs := [10]) (by kernel_rfl) (by simp) ?_
                  refine AllReadyH.cons rfl (fun K hK => ?_) AllReadyH.nil
                  have hhb : (w8).heap[w7.heap.size]? = some (.cells #[.int .u8 0, .slice none 0 0, .int .i64 0] 95 (0, 0)) := (HB8x.out.block _ (by simp)).trans (by rw [heapy, if_pos rfl])
                  have HHB := Lib.hid hhb
                  obtain ⟨d0, d1, d2, e0, e1, e2⟩ := three_cells hhb
                  have HKT := Lib.hid (kept_three (w7.heap.size) (w8) (.int .u8 rk) (.slice ua8 rl.length uc8) (.int .i64 rm))
                  have hbo : wa.heap.size ≤ w7.heap.size := by have := HB7.out.size; omega
                  have HBF : Hid (Below wa.heap.size wa ((((w8).setCell ⟨w7.heap.size, 0, none⟩ (.int .u8 rk)).setCell ⟨w7.heap.size, 1, none⟩ (.slice ua8 rl.length uc8)).setCell ⟨w7.heap.size, 2, none⟩ (.int .i64 rm))) := (HB8.out).trans (HKT.out.below (HB8.out).size (fun i hi e => by omega))
                  have HOW : Hid (Own (w8) wa.heap.size (.slice ua8 rl.length uc8) rl ∧ ∀ g, (Value.slice ua8 rl.length uc8).ownBlock = some g → g ≠ w7.heap.size) := ⟨HO8.out.mono (by have := HB7.out.size; simp; omega), fun g hg => by have := (HO8.out.lt g hg).1; simp at this; omega⟩
                  clear hhb
                  go_simp
                  refine hK.out _ _ HBF.out (fun hH10 => ?_)
                  clear hK K hH10
                  try simp only [Act.put, List.setIfInBounds_toArray, List.set_cons_zero, List.set_cons_succ]
                  refine wpAnyH_done (by kernel_rfl) ?_ _
                  go_wp2
                  go_meet
                  exact ⟨_, _, rfl, hbo, set_three HHB.out, HKT.out.row HOW.out.1 (fun g hg => HOW.out.2 g hg), HBF.out⟩
              · go_simp
                have HB9 : Hid (Below wa.heap.size wa ((wd).alloc (.cells #[.int .u8 0, .slice none 0 0, .int .i64 0] 95))) := (HWD.out).alloc (HWD.out).size _
                refine hK.out _ _ HB9.out (fun hH9 => ?_)
                clear hK K hH9
                try simp only [Act.put, List.setIfInBounds_toArray, List.set_cons_zero, List.set_cons_succ]
                refine wpAnyH_ready (rs := [7]) (by kernel_rfl) (by simp) ?_
                refine AllReadyH.cons rfl (fun K hK => ?_) AllReadyH.nil
                go_simp
                go_wp2_with (go_at_call 45; go_loud (refine (HIM.out (wd.alloc (.cells #[.int .u8 0, .slice none 0 0, .int .i64 0] 95)) (HA1.out.trans ((HB9.out).mono HA1.out.size))).mono ?_; rintro e w7 ⟨v7, rfl, ho7, hb7⟩; have HO7 := Lib.hid ho7; have HB7 := Lib.hid ((HB9.out).trans (hb7.mono (HB9.out).size)); have HB7x := Lib.hid hb7; obtain ⟨va7, vc7, rfl⟩ := own_shC ho7; clear ho7 hb7))
                refine hK.out _ _ HB7.out (fun hH7 => ?_)
                clear hK K hH7
                try simp only [Act.put, List.setIfInBounds_toArray, List.set_cons_zero, List.set_cons_succ]
                refine wpAnyH_ready (rs := [8]) (by kernel_rfl) (by simp) ?_
                refine AllReadyH.cons rfl (fun K hK => ?_) AllReadyH.nil
                go_simp
                go_wp2_with (go_at_call 65; go_loud (refine (HFN.out (w7) (.slice va7 L.length vc7) (HO7.out.ints (by have := HL3.out; omega) (fun x hx => by have h9 := HLB.out x hx; unfold bdI at h9; omega))).mono ?_; rintro e w8 ⟨u8, rfl, ho8, hb8⟩; simp only at ho8; have HO8 := Lib.hid ho8; have HB8 := Lib.hid ((HB7.out).trans (hb8.mono (HB7.out).size)); have HB8x := Lib.hid hb8; obtain ⟨ua8, uc8, rfl⟩ := own_shC ho8; clear ho8 hb8))
                refine hK.out _ _ HB8.out (fun hH8 => ?_)
                clear hK K hH8
                try simp only [Act.put, List.setIfInBounds_toArray, List.set_cons_zero, List.set_cons_succ]
                refine wpAnyH_ready (rs := [10]) (by kernel_rfl) (by simp) ?_
                refine AllReadyH.cons rfl (fun K hK => ?_) AllReadyH.nil
                have hhb : (w8).heap[wd.heap.size]? = some (.cells #[.int .u8 0, .slice none 0 0, .int .i64 0] 95 (0, 0)) := (HB8x.out.block _ (by have := HB7x.out.size; simp at this; omega)).trans ((HB7x.out.block _ (by simp)).trans (by rw [heapy, if_pos rfl]))
                have HHB := Lib.hid hhb
                obtain ⟨d0, d1, d2, e0, e1, e2⟩ := three_cells hhb
                have HKT := Lib.hid (kept_three (wd.heap.size) (w8) (.int .u8 rk) (.slice ua8 rl.length uc8) (.int .i64 rm))
                have hbo : wa.heap.size ≤ wd.heap.size := by have := HWD.out.size; omega
                have HBF : Hid (Below wa.heap.size wa ((((w8).setCell ⟨wd.heap.size, 0, none⟩ (.int .u8 rk)).setCell ⟨wd.heap.size, 1, none⟩ (.slice ua8 rl.length uc8)).setCell ⟨wd.heap.size, 2, none⟩ (.int .i64 rm))) := (HB8.out).trans (HKT.out.below (HB8.out).size (fun i hi e => by omega))
                have HOW : Hid (Own (w8) wa.heap.size (.slice ua8 rl.length uc8) rl ∧ ∀ g, (Value.slice ua8 rl.length uc8).ownBlock = some g → g ≠ wd.heap.size) := ⟨HO8.out.mono (by have := HB7.out.size; omega), fun g hg => by have := (HO8.out.lt g hg).1; have h9 := HB7x.out.size; simp at h9; omega⟩
                clear hhb
                go_simp
                refine hK.out _ _ HBF.out (fun hH10 => ?_)
                clear hK K hH10
                try simp only [Act.put, List.setIfInBounds_toArray, List.set_cons_zero, List.set_cons_succ]
                refine wpAnyH_done (by kernel_rfl) ?_ _
                go_wp2
                go_meet
                exact ⟨_, _, rfl, hbo, set_three HHB.out, HKT.out.row HOW.out.1 (fun g hg => HOW.out.2 g hg), HBF.out⟩
            · have HN := Lib.hid hn
              clear hn
              have hRe : R = xorF (L.getD 0 0) (L.getD 1 0) := by rw [← HR.out]; unfold outcomeF; rw [if_neg (by decide), if_neg (by decide), if_pos rfl]
              have HFN : Hid (∀ (X : World) (v : Value), IsInts X v L → Calls Try.prog 67 #[v] X (OutP X R)) := fun X v hv => by rw [hRe]; exact csim3_any v L X hv (fun x hx => by have h9 := HLB.out x hx; unfold bdI at h9; omega) HN.out
              have HXC : Hid (∀ X, Below wa.heap.size wa X → X.cell? ⟨gb, 1, none⟩ = some (.int .u8 3) ∧ X.cell? ⟨gb, 2, none⟩ = some (.slice ua y3.length uc) ∧ X.cell? ⟨ab, 3, none⟩ = some (.func (.func 67) #[] #[])) := fun X hX => by
                have h1 := (hX.block gb hsw).trans HHG.out
                have h2 := (hX.block ab (Array.getElem?_eq_some_iff.1 HAA.out).1).trans HAA.out
                exact ⟨by simp [World.cell?, h1], by simp [World.cell?, h1], by simp [World.cell?, h2]⟩
              clear hRe a0 a1 a2
              obtain ⟨rk, rl, rm⟩ := R
              go_wp2_with fail
              refine wp_region_held_drew (S := fun X => Below wa.heap.size wa X) (by kernel_rfl) (Below.refl _ _).drew (fun hSd => ?_)
              have hWd : Below wa.heap.size wa wa.drew := (Below.refl _ _).drew
              have HWD := Lib.hid hWd
              clear hWd
              generalize wa.drew = wd at *
              refine takeC (i := 0) (v := .pointer (some ⟨gb, 1, none⟩)) (some 42) rfl rfl (by kernel_rfl) (by kernel_rfl) (by kernel_rfl) (fun _ _ _ h => h) (Or.inl ⟨by rfl, ?_⟩) (by assumption) ?_
              · intro wz hSw; obtain ⟨r0, r1, r2⟩ := HXC.out wz hSw; go_simp
              try simp only [Act.put, List.setIfInBounds_toArray, List.set_cons_zero, List.set_cons_succ]
              refine takeC (i := 1) (v := .int .u8 3) (some 43) rfl rfl (by kernel_rfl) (by kernel_rfl) (by kernel_rfl) (fun _ _ _ h => h) (Or.inl ⟨by rfl, ?_⟩) (by assumption) ?_
              · intro wz hSw; obtain ⟨r0, r1, r2⟩ := HXC.out wz hSw; go_simp
              try simp only [Act.put, List.setIfInBounds_toArray, List.set_cons_zero, List.set_cons_succ]
              refine takeC (i := 2) (v := .pointer (some ⟨ab, 3, none⟩)) (some 44) rfl rfl (by kernel_rfl) (by kernel_rfl) (by kernel_rfl) (fun _ _ _ h => h) (Or.inl ⟨by rfl, ?_⟩) (by assumption) ?_
              · intro wz hSw; obtain ⟨r0, r1, r2⟩ := HXC.out wz hSw; go_simp
              try simp only [Act.put, List.setIfInBounds_toArray, List.set_cons_zero, List.set_cons_succ]
              refine takeC (i := 3) (v := .func (.func 67) #[] #[]) (some 45) rfl rfl (by kernel_rfl) (by kernel_rfl) (by kernel_rfl) (fun _ _ _ h => h) (Or.inl ⟨by rfl, ?_⟩) (by assumption) ?_
              · intro wz hSw; obtain ⟨r0, r1, r2⟩ := HXC.out wz hSw; go_simp
              try simp only [Act.put, List.setIfInBounds_toArray, List.set_cons_zero, List.set_cons_succ]
              refine takeC (i := 4) (v := .pointer (some ⟨gb, 2, none⟩)) (some 46) rfl rfl (by kernel_rfl) (by kernel_rfl) (by kernel_rfl) (fun _ _ _ h => h) (Or.inl ⟨by rfl, ?_⟩) (by assumption) ?_
              · intro wz hSw; obtain ⟨r0, r1, r2⟩ := HXC.out wz hSw; go_simp
              try simp only [Act.put, List.setIfInBounds_toArray, List.set_cons_zero, List.set_cons_succ]
              refine takeC (i := 5) (v := .slice ua y3.length uc) (some 47) rfl rfl (by kernel_rfl) (by kernel_rfl) (by kernel_rfl) (fun _ _ _ h => h) (Or.inl ⟨by rfl, ?_⟩) (by assumption) ?_
              · intro wz hSw; obtain ⟨r0, r1, r2⟩ := HXC.out wz hSw; go_simp
              try simp only [Act.put, List.setIfInBounds_toArray, List.set_cons_zero, List.set_cons_succ]
              refine takeC (i := 6) (v := .map (some bm)) (some 48) rfl rfl (by kernel_rfl) (by kernel_rfl) (by kernel_rfl) (fun _ _ _ h => h) (Or.inl ⟨by rfl, ?_⟩) (by assumption) ?_
              · intro wz hSw; obtain ⟨r0, r1, r2⟩ := HXC.out wz hSw; go_simp
              try simp only [Act.put, List.setIfInBounds_toArray, List.set_cons_zero, List.set_cons_succ]
              clear hSd
              refine wpAnyH_ready (rs := [7, 9]) (by kernel_rfl) (by simp) ?_
              refine AllReadyH.cons rfl (fun K hK => ?_) (AllReadyH.cons rfl (fun K hK => ?_) AllReadyH.nil)
              · go_simp
                go_wp2_with (go_at_call 45; go_loud (refine (HIM.out (wd) (HA1.out.trans ((HWD.out).mono HA1.out.size))).mono ?_; rintro e w7 ⟨v7, rfl, ho7, hb7⟩; have HO7 := Lib.hid ho7; have HB7 := Lib.hid ((HWD.out).trans (hb7.mono (HWD.out).size)); have HB7x := Lib.hid hb7; obtain ⟨va7, vc7, rfl⟩ := own_shC ho7; clear ho7 hb7))
                refine hK.out _ _ HB7.out (fun hH7 => ?_)
                clear hK K hH7
                try simp only [Act.put, List.setIfInBounds_toArray, List.set_cons_zero, List.set_cons_succ]
                refine wpAnyH_ready (rs := [8, 9]) (by kernel_rfl) (by simp) ?_
                refine AllReadyH.cons rfl (fun K hK => ?_) (AllReadyH.cons rfl (fun K hK => ?_) AllReadyH.nil)
                · go_simp
                  go_wp2_with (go_at_call 67; go_loud (refine (HFN.out (w7) (.slice va7 L.length vc7) (HO7.out.ints (by have := HL3.out; omega) (fun x hx => by have h9 := HLB.out x hx; unfold bdI at h9; omega))).mono ?_; rintro e w8 ⟨u8, rfl, ho8, hb8⟩; simp only at ho8; have HO8 := Lib.hid ho8; have HB8 := Lib.hid ((HB7.out).trans (hb8.mono (HB7.out).size)); have HB8x := Lib.hid hb8; obtain ⟨ua8, uc8, rfl⟩ := own_shC ho8; clear ho8 hb8))
                  refine hK.out _ _ HB8.out (fun hH8 => ?_)
                  clear hK K hH8
                  try simp only [Act.put, List.setIfInBounds_toArray, List.set_cons_zero, List.set_cons_succ]
                  refine wpAnyH_ready (rs := [9]) (by kernel_rfl) (by simp) ?_
                  refine AllReadyH.cons rfl (fun K hK => ?_) AllReadyH.nil
                  go_simp
                  have HB9 : Hid (Below wa.heap.size wa ((w8).alloc (.cells #[.int .u8 0, .slice none 0 0, .int .i64 0] 95))) := (HB8.out).alloc (HB8.out).size _
                  refine hK.out _ _ HB9.out (fun hH9 => ?_)
                  clear hK K hH9
                  try simp only [Act.put, List.setIfInBounds_toArray, List.set_cons_zero, List.set_cons_succ]
                  refine wpAnyH_ready (rs := [10]) (by kernel_rfl) (by simp) ?_
                  refine AllReadyH.cons rfl (fun K hK => ?_) AllReadyH.nil
                  obtain ⟨d0, d1, d2, e0, e1, e2⟩ := three_cells (show (w8.alloc (.cells #[.int .u8 0, .slice none 0 0, .int .i64 0] 95)).heap[w8.heap.size]? = some (.cells #[.int .u8 0, .slice none 0 0, .int .i64 0] 95 (0, 0)) by rw [heapy, if_pos rfl])
                  have HBF : Hid (Below wa.heap.size wa (w8.alloc (.cells #[.int .u8 rk, .slice ua8 rl.length uc8, .int .i64 rm] 95))) := HB8.out.alloc HB8.out.size _
                  go_simp
                  refine hK.out _ _ HBF.out (fun hH10 => ?_)
                  clear hK K hH10
                  try simp only [Act.put, List.setIfInBounds_toArray, List.set_cons_zero, List.set_cons_succ]
                  refine wpAnyH_done (by kernel_rfl) ?_ _
                  go_wp2
                  go_meet
                  exact ⟨_, _, rfl, HB8.out.size, by rw [heapy, if_pos rfl], (HO8.out.alloc _).mono (by have := HB7.out.size; omega), HBF.out⟩
                · go_simp
                  have HB9 : Hid (Below wa.heap.size wa ((w7).alloc (.cells #[.int .u8 0, .slice none 0 0, .int .i64 0] 95))) := (HB7.out).alloc (HB7.out).size _
                  refine hK.out _ _ HB9.out (fun hH9 => ?_)
                  clear hK K hH9
                  try simp only [Act.put, List.setIfInBounds_toArray, List.set_cons_zero, List.set_cons_succ]
                  refine wpAnyH_ready (rs := [8]) (by kernel_rfl) (by simp) ?_
                  refine AllReadyH.cons rfl (fun K hK => ?_) AllReadyH.nil
                  go_simp
                  go_wp2_with (go_at_call 67; go_loud (refine (HFN.out (w7.alloc (.cells #[.int .u8 0, .slice none 0 0, .int .i64 0] 95)) (.slice va7 L.length vc7) ((HO7.out.alloc _).ints (by have := HL3.out; omega) (fun x hx => by have h9 := HLB.out x hx; unfold bdI at h9; omega))).mono ?_; rintro e w8 ⟨u8, rfl, ho8, hb8⟩; simp only at ho8; have HO8 := Lib.hid ho8; have HB8 := Lib.hid ((HB9.out).trans (hb8.mono (HB9.out).size)); have HB8x := Lib.hid hb8; obtain ⟨ua8, uc8, rfl⟩ := own_shC ho8; clear ho8 hb8))
                  refine hK.out _ _ HB8.out (fun hH8 => ?_)
                  clear hK K hH8
                  try simp only [Act.put, List.setIfInBounds_toArray, List.set_cons_zero, List.set_cons_succ]
                  refine wpAnyH_ready (rs := [10]) (by kernel_rfl) (by simp) ?_
                  refine AllReadyH.cons rfl (fun K hK => ?_) AllReadyH.nil
                  have hhb : (w8).heap[w7.heap.size]? = some (.cells #[.int .u8 0, .slice none 0 0, .int .i64 0] 95 (0, 0)) := (HB8x.out.block _ (by simp)).trans (by rw [heapy, if_pos rfl])
                  have HHB := Lib.hid hhb
                  obtain ⟨d0, d1, d2, e0, e1, e2⟩ := three_cells hhb
                  have HKT := Lib.hid (kept_three (w7.heap.size) (w8) (.int .u8 rk) (.slice ua8 rl.length uc8) (.int .i64 rm))
                  have hbo : wa.heap.size ≤ w7.heap.size := by have := HB7.out.size; omega
                  have HBF : Hid (Below wa.heap.size wa ((((w8).setCell ⟨w7.heap.size, 0, none⟩ (.int .u8 rk)).setCell ⟨w7.heap.size, 1, none⟩ (.slice ua8 rl.length uc8)).setCell ⟨w7.heap.size, 2, none⟩ (.int .i64 rm))) := (HB8.out).trans (HKT.out.below (HB8.out).size (fun i hi e => by omega))
                  have HOW : Hid (Own (w8) wa.heap.size (.slice ua8 rl.length uc8) rl ∧ ∀ g, (Value.slice ua8 rl.length uc8).ownBlock = some g → g ≠ w7.heap.size) := ⟨HO8.out.mono (by have := HB7.out.size; simp; omega), fun g hg => by have := (HO8.out.lt g hg).1; simp at this; omega⟩
                  clear hhb
                  go_simp
                  refine hK.out _ _ HBF.out (fun hH10 => ?_)
                  clear hK K hH10
                  try simp only [Act.put, List.setIfInBounds_toArray, List.set_cons_zero, List.set_cons_succ]
                  refine wpAnyH_done (by kernel_rfl) ?_ _
                  go_wp2
                  go_meet
                  exact ⟨_, _, rfl, hbo, set_three HHB.out, HKT.out.row HOW.out.1 (fun g hg => HOW.out.2 g hg), HBF.out⟩
              · go_simp
                have HB9 : Hid (Below wa.heap.size wa ((wd).alloc (.cells #[.int .u8 0, .slice none 0 0, .int .i64 0] 95))) := (HWD.out).alloc (HWD.out).size _
                refine hK.out _ _ HB9.out (fun hH9 => ?_)
                clear hK K hH9
                try simp only [Act.put, List.setIfInBounds_toArray, List.set_cons_zero, List.set_cons_succ]
                refine wpAnyH_ready (rs := [7]) (by kernel_rfl) (by simp) ?_
                refine AllReadyH.cons rfl (fun K hK => ?_) AllReadyH.nil
                go_simp
                go_wp2_with (go_at_call 45; go_loud (refine (HIM.out (wd.alloc (.cells #[.int .u8 0, .slice none 0 0, .int .i64 0] 95)) (HA1.out.trans ((HB9.out).mono HA1.out.size))).mono ?_; rintro e w7 ⟨v7, rfl, ho7, hb7⟩; have HO7 := Lib.hid ho7; have HB7 := Lib.hid ((HB9.out).trans (hb7.mono (HB9.out).size)); have HB7x := Lib.hid hb7; obtain ⟨va7, vc7, rfl⟩ := own_shC ho7; clear ho7 hb7))
                refine hK.out _ _ HB7.out (fun hH7 => ?_)
                clear hK K hH7
                try simp only [Act.put, List.setIfInBounds_toArray, List.set_cons_zero, List.set_cons_succ]
                refine wpAnyH_ready (rs := [8]) (by kernel_rfl) (by simp) ?_
                refine AllReadyH.cons rfl (fun K hK => ?_) AllReadyH.nil
                go_simp
                go_wp2_with (go_at_call 67; go_loud (refine (HFN.out (w7) (.slice va7 L.length vc7) (HO7.out.ints (by have := HL3.out; omega) (fun x hx => by have h9 := HLB.out x hx; unfold bdI at h9; omega))).mono ?_; rintro e w8 ⟨u8, rfl, ho8, hb8⟩; simp only at ho8; have HO8 := Lib.hid ho8; have HB8 := Lib.hid ((HB7.out).trans (hb8.mono (HB7.out).size)); have HB8x := Lib.hid hb8; obtain ⟨ua8, uc8, rfl⟩ := own_shC ho8; clear ho8 hb8))
                refine hK.out _ _ HB8.out (fun hH8 => ?_)
                clear hK K hH8
                try simp only [Act.put, List.setIfInBounds_toArray, List.set_cons_zero, List.set_cons_succ]
                refine wpAnyH_ready (rs := [10]) (by kernel_rfl) (by simp) ?_
                refine AllReadyH.cons rfl (fun K hK => ?_) AllReadyH.nil
                have hhb : (w8).heap[wd.heap.size]? = some (.cells #[.int .u8 0, .slice none 0 0, .int .i64 0] 95 (0, 0)) := (HB8x.out.block _ (by have := HB7x.out.size; simp at this; omega)).trans ((HB7x.out.block _ (by simp)).trans (by rw [heapy, if_pos rfl]))
                have HHB := Lib.hid hhb
                obtain ⟨d0, d1, d2, e0, e1, e2⟩ := three_cells hhb
                have HKT := Lib.hid (kept_three (wd.heap.size) (w8) (.int .u8 rk) (.slice ua8 rl.length uc8) (.int .i64 rm))
                have hbo : wa.heap.size ≤ wd.heap.size := by have := HWD.out.size; omega
                have HBF : Hid (Below wa.heap.size wa ((((w8).setCell ⟨wd.heap.size, 0, none⟩ (.int .u8 rk)).setCell ⟨wd.heap.size, 1, none⟩ (.slice ua8 rl.length uc8)).setCell ⟨wd.heap.size, 2, none⟩ (.int .i64 rm))) := (HB8.out).trans (HKT.out.below (HB8.out).size (fun i hi e => by omega))
                have HOW : Hid (Own (w8) wa.heap.size (.slice ua8 rl.length uc8) rl ∧ ∀ g, (Value.slice ua8 rl.length uc8).ownBlock = some g → g ≠ wd.heap.size) := ⟨HO8.out.mono (by have := HB7.out.size; omega), fun g hg => by have := (HO8.out.lt g hg).1; have h9 := HB7x.out.size; simp at h9; omega⟩
                clear hhb
                go_simp
                refine hK.out _ _ HBF.out (fun hH10 => ?_)
                clear hK K hH10
                try simp only [Act.put, List.setIfInBounds_toArray, List.set_cons_zero, List.set_cons_succ]
                refine wpAnyH_done (by kernel_rfl) ?_ _
                go_wp2
                go_meet
                exact ⟨_, _, rfl, hbo, set_three HHB.out, HKT.out.row HOW.out.1 (fun g hg => HOW.out.2 g hg), HBF.out⟩
            · have HN := Lib.hid hn
              clear hn
              have hRe : R = iteF (L.getD 0 0) (L.getD 1 0) (L.getD 2 0) := by rw [← HR.out]; unfold outcomeF; rw [if_neg (by decide), if_neg (by decide), if_neg (by decide)]
              have HFN : Hid (∀ (X : World) (v : Value), IsInts X v L → Calls Try.prog 69 #[v] X (OutP X R)) := fun X v hv => by rw [hRe]; exact csim4_any v L X hv (fun x hx => by have h9 := HLB.out x hx; unfold bdI at h9; omega) HN.out
              have HXC : Hid (∀ X, Below wa.heap.size wa X → X.cell? ⟨gb, 1, none⟩ = some (.int .u8 4) ∧ X.cell? ⟨gb, 2, none⟩ = some (.slice ua y3.length uc) ∧ X.cell? ⟨ab, 4, none⟩ = some (.func (.func 69) #[] #[])) := fun X hX => by
                have h1 := (hX.block gb hsw).trans HHG.out
                have h2 := (hX.block ab (Array.getElem?_eq_some_iff.1 HAA.out).1).trans HAA.out
                exact ⟨by simp [World.cell?, h1], by simp [World.cell?, h1], by simp [World.cell?, h2]⟩
              clear hRe a0 a1 a2
              obtain ⟨rk, rl, rm⟩ := R
              go_wp2_with fail
              refine wp_region_held_drew (S := fun X => Below wa.heap.size wa X) (by kernel_rfl) (Below.refl _ _).drew (fun hSd => ?_)
              have hWd : Below wa.heap.size wa wa.drew := (Below.refl _ _).drew
              have HWD := Lib.hid hWd
              clear hWd
              generalize wa.drew = wd at *
              refine takeC (i := 0) (v := .pointer (some ⟨gb, 1, none⟩)) (some 42) rfl rfl (by kernel_rfl) (by kernel_rfl) (by kernel_rfl) (fun _ _ _ h => h) (Or.inl ⟨by rfl, ?_⟩) (by assumption) ?_
              · intro wz hSw; obtain ⟨r0, r1, r2⟩ := HXC.out wz hSw; go_simp
              try simp only [Act.put, List.setIfInBounds_toArray, List.set_cons_zero, List.set_cons_succ]
              refine takeC (i := 1) (v := .int .u8 4) (some 43) rfl rfl (by kernel_rfl) (by kernel_rfl) (by kernel_rfl) (fun _ _ _ h => h) (Or.inl ⟨by rfl, ?_⟩) (by assumption) ?_
              · intro wz hSw; obtain ⟨r0, r1, r2⟩ := HXC.out wz hSw; go_simp
              try simp only [Act.put, List.setIfInBounds_toArray, List.set_cons_zero, List.set_cons_succ]
              refine takeC (i := 2) (v := .pointer (some ⟨ab, 4, none⟩)) (some 44) rfl rfl (by kernel_rfl) (by kernel_rfl) (by kernel_rfl) (fun _ _ _ h => h) (Or.inl ⟨by rfl, ?_⟩) (by assumption) ?_
              · intro wz hSw; obtain ⟨r0, r1, r2⟩ := HXC.out wz hSw; go_simp
              try simp only [Act.put, List.setIfInBounds_toArray, List.set_cons_zero, List.set_cons_succ]
              refine takeC (i := 3) (v := .func (.func 69) #[] #[]) (some 45) rfl rfl (by kernel_rfl) (by kernel_rfl) (by kernel_rfl) (fun _ _ _ h => h) (Or.inl ⟨by rfl, ?_⟩) (by assumption) ?_
              · intro wz hSw; obtain ⟨r0, r1, r2⟩ := HXC.out wz hSw; go_simp
              try simp only [Act.put, List.setIfInBounds_toArray, List.set_cons_zero, List.set_cons_succ]
              refine takeC (i := 4) (v := .pointer (some ⟨gb, 2, none⟩)) (some 46) rfl rfl (by kernel_rfl) (by kernel_rfl) (by kernel_rfl) (fun _ _ _ h => h) (Or.inl ⟨by rfl, ?_⟩) (by assumption) ?_
              · intro wz hSw; obtain ⟨r0, r1, r2⟩ := HXC.out wz hSw; go_simp
              try simp only [Act.put, List.setIfInBounds_toArray, List.set_cons_zero, List.set_cons_succ]
              refine takeC (i := 5) (v := .slice ua y3.length uc) (some 47) rfl rfl (by kernel_rfl) (by kernel_rfl) (by kernel_rfl) (fun _ _ _ h => h) (Or.inl ⟨by rfl, ?_⟩) (by assumption) ?_
              · intro wz hSw; obtain ⟨r0, r1, r2⟩ := HXC.out wz hSw; go_simp
              try simp only [Act.put, List.setIfInBounds_toArray, List.set_cons_zero, List.set_cons_succ]
              refine takeC (i := 6) (v := .map (some bm)) (some 48) rfl rfl (by kernel_rfl) (by kernel_rfl) (by kernel_rfl) (fun _ _ _ h => h) (Or.inl ⟨by rfl, ?_⟩) (by assumption) ?_
              · intro wz hSw; obtain ⟨r0, r1, r2⟩ := HXC.out wz hSw; go_simp
              try simp only [Act.put, List.setIfInBounds_toArray, List.set_cons_zero, List.set_cons_succ]
              clear hSd
              refine wpAnyH_ready (rs := [7, 9]) (by kernel_rfl) (by simp) ?_
              refine AllReadyH.cons rfl (fun K hK => ?_) (AllReadyH.cons rfl (fun K hK => ?_) AllReadyH.nil)
              · go_simp
                go_wp2_with (go_at_call 45; go_loud (refine (HIM.out (wd) (HA1.out.trans ((HWD.out).mono HA1.out.size))).mono ?_; rintro e w7 ⟨v7, rfl, ho7, hb7⟩; have HO7 := Lib.hid ho7; have HB7 := Lib.hid ((HWD.out).trans (hb7.mono (HWD.out).size)); have HB7x := Lib.hid hb7; obtain ⟨va7, vc7, rfl⟩ := own_shC ho7; clear ho7 hb7))
                refine hK.out _ _ HB7.out (fun hH7 => ?_)
                clear hK K hH7
                try simp only [Act.put, List.setIfInBounds_toArray, List.set_cons_zero, List.set_cons_succ]
                refine wpAnyH_ready (rs := [8, 9]) (by kernel_rfl) (by simp) ?_
                refine AllReadyH.cons rfl (fun K hK => ?_) (AllReadyH.cons rfl (fun K hK => ?_) AllReadyH.nil)
                · go_simp
                  go_wp2_with (go_at_call 69; go_loud (refine (HFN.out (w7) (.slice va7 L.length vc7) (HO7.out.ints (by have := HL3.out; omega) (fun x hx => by have h9 := HLB.out x hx; unfold bdI at h9; omega))).mono ?_; rintro e w8 ⟨u8, rfl, ho8, hb8⟩; simp only at ho8; have HO8 := Lib.hid ho8; have HB8 := Lib.hid ((HB7.out).trans (hb8.mono (HB7.out).size)); have HB8x := Lib.hid hb8; obtain ⟨ua8, uc8, rfl⟩ := own_shC ho8; clear ho8 hb8))
                  refine hK.out _ _ HB8.out (fun hH8 => ?_)
                  clear hK K hH8
                  try simp only [Act.put, List.setIfInBounds_toArray, List.set_cons_zero, List.set_cons_succ]
                  refine wpAnyH_ready (rs := [9]) (by kernel_rfl) (by simp) ?_
                  refine AllReadyH.cons rfl (fun K hK => ?_) AllReadyH.nil
                  go_simp
                  have HB9 : Hid (Below wa.heap.size wa ((w8).alloc (.cells #[.int .u8 0, .slice none 0 0, .int .i64 0] 95))) := (HB8.out).alloc (HB8.out).size _
                  refine hK.out _ _ HB9.out (fun hH9 => ?_)
                  clear hK K hH9
                  try simp only [Act.put, List.setIfInBounds_toArray, List.set_cons_zero, List.set_cons_succ]
                  refine wpAnyH_ready (rs := [10]) (by kernel_rfl) (by simp) ?_
                  refine AllReadyH.cons rfl (fun K hK => ?_) AllReadyH.nil
                  obtain ⟨d0, d1, d2, e0, e1, e2⟩ := three_cells (show (w8.alloc (.cells #[.int .u8 0, .slice none 0 0, .int .i64 0] 95)).heap[w8.heap.size]? = some (.cells #[.int .u8 0, .slice none 0 0, .int .i64 0] 95 (0, 0)) by rw [heapy, if_pos rfl])
                  have HBF : Hid (Below wa.heap.size wa (w8.alloc (.cells #[.int .u8 rk, .slice ua8 rl.length uc8, .int .i64 rm] 95))) := HB8.out.alloc HB8.out.size _
                  go_simp
                  refine hK.out _ _ HBF.out (fun hH10 => ?_)
                  clear hK K hH10
                  try simp only [Act.put, List.setIfInBounds_toArray, List.set_cons_zero, List.set_cons_succ]
                  refine wpAnyH_done (by kernel_rfl) ?_ _
                  go_wp2
                  go_meet
                  exact ⟨_, _, rfl, HB8.out.size, by rw [heapy, if_pos rfl], (HO8.out.alloc _).mono (by have := HB7.out.size; omega), HBF.out⟩
                · go_simp
                  have HB9 : Hid (Below wa.heap.size wa ((w7).alloc (.cells #[.int .u8 0, .slice none 0 0, .int .i64 0] 95))) := (HB7.out).alloc (HB7.out).size _
                  refine hK.out _ _ HB9.out (fun hH9 => ?_)
                  clear hK K hH9
                  try simp only [Act.put, List.setIfInBounds_toArray, List.set_cons_zero, List.set_cons_succ]
                  refine wpAnyH_ready (rs := [8]) (by kernel_rfl) (by simp) ?_
                  refine AllReadyH.cons rfl (fun K hK => ?_) AllReadyH.nil
                  go_simp
                  go_wp2_with (go_at_call 69; go_loud (refine (HFN.out (w7.alloc (.cells #[.int .u8 0, .slice none 0 0, .int .i64 0] 95)) (.slice va7 L.length vc7) ((HO7.out.alloc _).ints (by have := HL3.out; omega) (fun x hx => by have h9 := HLB.out x hx; unfold bdI at h9; omega))).mono ?_; rintro e w8 ⟨u8, rfl, ho8, hb8⟩; simp only at ho8; have HO8 := Lib.hid ho8; have HB8 := Lib.hid ((HB9.out).trans (hb8.mono (HB9.out).size)); have HB8x := Lib.hid hb8; obtain ⟨ua8, uc8, rfl⟩ := own_shC ho8; clear ho8 hb8))
                  refine hK.out _ _ HB8.out (fun hH8 => ?_)
                  clear hK K hH8
                  try simp only [Act.put, List.setIfInBounds_toArray, List.set_cons_zero, List.set_cons_succ]
                  refine wpAnyH_ready (rs := [10]) (by kernel_rfl) (by simp) ?_
                  refine AllReadyH.cons rfl (fun K hK => ?_) AllReadyH.nil
                  have hhb : (w8).heap[w7.heap.size]? = some (.cells #[.int .u8 0, .slice none 0 0, .int .i64 0] 95 (0, 0)) := (HB8x.out.block _ (by simp)).trans (by rw [heapy, if_pos rfl])
                  have HHB := Lib.hid hhb
                  obtain ⟨d0, d1, d2, e0, e1, e2⟩ := three_cells hhb
                  have HKT := Lib.hid (kept_three (w7.heap.size) (w8) (.int .u8 rk) (.slice ua8 rl.length uc8) (.int .i64 rm))
                  have hbo : wa.heap.size ≤ w7.heap.size := by have := HB7.out.size; omega
                  have HBF : Hid (Below wa.heap.size wa ((((w8).setCell ⟨w7.heap.size, 0, none⟩ (.int .u8 rk)).setCell ⟨w7.heap.size, 1, none⟩ (.slice ua8 rl.length uc8)).setCell ⟨w7.heap.size, 2, none⟩ (.int .i64 rm))) := (HB8.out).trans (HKT.out.below (HB8.out).size (fun i hi e => by omega))
                  have HOW : Hid (Own (w8) wa.heap.size (.slice ua8 rl.length uc8) rl ∧ ∀ g, (Value.slice ua8 rl.length uc8).ownBlock = some g → g ≠ w7.heap.size) := ⟨HO8.out.mono (by have := HB7.out.size; simp; omega), fun g hg => by have := (HO8.out.lt g hg).1; simp at this; omega⟩
                  clear hhb
                  go_simp
                  refine hK.out _ _ HBF.out (fun hH10 => ?_)
                  clear hK K hH10
                  try simp only [Act.put, List.setIfInBounds_toArray, List.set_cons_zero, List.set_cons_succ]
                  refine wpAnyH_done (by kernel_rfl) ?_ _
                  go_wp2
                  go_meet
                  exact ⟨_, _, rfl, hbo, set_three HHB.out, HKT.out.row HOW.out.1 (fun g hg => HOW.out.2 g hg), HBF.out⟩
              · go_simp
                have HB9 : Hid (Below wa.heap.size wa ((wd).alloc (.cells #[.int .u8 0, .slice none 0 0, .int .i64 0] 95))) := (HWD.out).alloc (HWD.out).size _
                refine hK.out _ _ HB9.out (fun hH9 => ?_)
                clear hK K hH9
                try simp only [Act.put, List.setIfInBounds_toArray, List.set_cons_zero, List.set_cons_succ]
                refine wpAnyH_ready (rs := [7]) (by kernel_rfl) (by simp) ?_
                refine AllReadyH.cons rfl (fun K hK => ?_) AllReadyH.nil
                go_simp
                go_wp2_with (go_at_call 45; go_loud (refine (HIM.out (wd.alloc (.cells #[.int .u8 0, .slice none 0 0, .int .i64 0] 95)) (HA1.out.trans ((HB9.out).mono HA1.out.size))).mono ?_; rintro e w7 ⟨v7, rfl, ho7, hb7⟩; have HO7 := Lib.hid ho7; have HB7 := Lib.hid ((HB9.out).trans (hb7.mono (HB9.out).size)); have HB7x := Lib.hid hb7; obtain ⟨va7, vc7, rfl⟩ := own_shC ho7; clear ho7 hb7))
                refine hK.out _ _ HB7.out (fun hH7 => ?_)
                clear hK K hH7
                try simp only [Act.put, List.setIfInBounds_toArray, List.set_cons_zero, List.set_cons_succ]
                refine wpAnyH_ready (rs := [8]) (by kernel_rfl) (by simp) ?_
                refine AllReadyH.cons rfl (fun K hK => ?_) AllReadyH.nil
                go_simp
                go_wp2_with (go_at_call 69; go_loud (refine (HFN.out (w7) (.slice va7 L.length vc7) (HO7.out.ints (by have := HL3.out; omega) (fun x hx => by have h9 := HLB.out x hx; unfold bdI at h9; omega))).mono ?_; rintro e w8 ⟨u8, rfl, ho8, hb8⟩; simp only at ho8; have HO8 := Lib.hid ho8; have HB8 := Lib.hid ((HB7.out).trans (hb8.mono (HB7.out).size)); have HB8x := Lib.hid hb8; obtain ⟨ua8, uc8, rfl⟩ := own_shC ho8; clear ho8 hb8))
                refine hK.out _ _ HB8.out (fun hH8 => ?_)
                clear hK K hH8
                try simp only [Act.put, List.setIfInBounds_toArray, List.set_cons_zero, List.set_cons_succ]
                refine wpAnyH_ready (rs := [10]) (by kernel_rfl) (by simp) ?_
                refine AllReadyH.cons rfl (fun K hK => ?_) AllReadyH.nil
                have hhb : (w8).heap[wd.heap.size]? = some (.cells #[.int .u8 0, .slice none 0 0, .int .i64 0] 95 (0, 0)) := (HB8x.out.block _ (by have := HB7x.out.size; simp at this; omega)).trans ((HB7x.out.block _ (by simp)).trans (by rw [heapy, if_pos rfl]))
                have HHB := Lib.hid hhb
                obtain ⟨d0, d1, d2, e0, e1, e2⟩ := three_cells hhb
                have HKT := Lib.hid (kept_three (wd.heap.size) (w8) (.int .u8 rk) (.slice ua8 rl.length uc8) (.int .i64 rm))
                have hbo : wa.heap.size ≤ wd.heap.size := by have := HWD.out.size; omega
                have HBF : Hid (Below wa.heap.size wa ((((w8).setCell ⟨wd.heap.size, 0, none⟩ (.int .u8 rk)).setCell ⟨wd.heap.size, 1, none⟩ (.slice ua8 rl.length uc8)).setCell ⟨wd.heap.size, 2, none⟩ (.int .i64 rm))) := (HB8.out).trans (HKT.out.below (HB8.out).size (fun i hi e => by omega))
                have HOW : Hid (Own (w8) wa.heap.size (.slice ua8 rl.length uc8) rl ∧ ∀ g, (Value.slice ua8 rl.length uc8).ownBlock = some g → g ≠ wd.heap.size) := ⟨HO8.out.mono (by have := HB7.out.size; omega), fun g hg => by have := (HO8.out.lt g hg).1; have h9 := HB7x.out.size; simp at h9; omega⟩
                clear hhb
                go_simp
                refine hK.out _ _ HBF.out (fun hH10 => ?_)
                clear hK K hH10
                try simp only [Act.put, List.setIfInBounds_toArray, List.set_cons_zero, List.set_cons_succ]
                refine wpAnyH_done (by kernel_rfl) ?_ _
                go_wp2
                go_meet
                exact ⟨_, _, rfl, hbo, set_three HHB.out, HKT.out.row HOW.out.1 (fun g hg => HOW.out.2 g hg), HBF.out⟩
          case rest =>
            obtain ⟨bo, u9, rfl, hbo, hcb, hou, hbx⟩ := hcut
            obtain ⟨rk, rl, rm⟩ := R
            simp only at hcb hou HST HOK
            obtain ⟨ua9, uc9, rfl⟩ := own_shC hou
            have HCB := Lib.hid hcb
            have HOU := Lib.hid hou
            have HBX := Lib.hid hbx
            have hwc : wa.heap.size ≤ wc.heap.size := hbx.size
            have o0 : wc.cell? ⟨bo, 0, none⟩ = some (.int .u8 rk) := by simp [World.cell?, hcb]
            have o1 : wc.cell? ⟨bo, 1, none⟩ = some (.slice ua9 rl.length uc9) := by simp [World.cell?, hcb]
            have o2 : wc.cell? ⟨bo, 2, none⟩ = some (.int .i64 rm) := by simp [World.cell?, hcb]
            have c0 : wc.cell? ⟨gb, 0, none⟩ = some (.int .i64 y1) := (HBX.out.cell (p := ⟨gb, 0, none⟩) hsw).trans a0
            have HMC : Hid (MapM wc bm (2 * a.length + k) F) := HMA.out.below HBX.out (Nat.le_refl _)
            have HRC : Hid (RowG w00 wc W4.heap.size (.slice oa t.length oc) t) := HRA.out.below' HBX.out (Nat.le_refl _)
            have HKC : Hid (Kept (fun i => i = bm) W4 wc) := HKA.out.trans ⟨HBX.out.os, HBX.out.tape, HBX.out.output, HBX.out.size, fun i hi _ => HBX.out.block i (by omega)⟩
            have HRB : Hid (bdI 65537 rm) := HOK.out.1
            have hsz4 : W4.heap.size ≤ wc.heap.size := by omega
            clear hcb hou hbx a0 a1 a2 hbo
            by_cases hk : rk = 0
            · subst hk
              rw [if_pos rfl] at HST
              go_wp2_with (at_mapUpdate; refine wpList_putM rfl _ _ _ rfl rfl HMC.out (by unfold maxLen; omega) y1 rm rfl rfl (i64w hx1 hx2) (by have := HRB.out; unfold bdI at this; exact i64w (by omega) (by omega)) ?_; intro w9 hm9 hk9; have HM9 := Lib.hid hm9; have HK9 := Lib.hid hk9; clear hm9 hk9)
              go_roundw
              case rel => exact ⟨k + 1, t, HKL.out, by go_num, HRC.out.keptS HK9.out (fun g hg e => by omega) (fun g hg e => by omega), by rw [HST.out, HSH.out], by rw [HST.out]; exact HM9.out, HKC.out.trans HK9.out⟩
              case measure => have := HKL.out; simp [intOf]; omega
            · have hkb : (rk == 0) = false := by simpa using hk
              rw [if_neg hk] at HST
              clear hk
              have HGB : Hid (gBd (y1, rk, rl)) := ⟨⟨hx1, hx2⟩, ⟨by have := HOK.out.2.1; simp only at this ⊢; omega, by have := HOK.out.2.1; simp only at this ⊢; omega⟩, by have h8 := HOK.out.2.2.1; have h9 := HGK.out.2.2.1; simp only at h8 ⊢; omega, fun z hz => by have := HOK.out.2.2.2 z hz; unfold bdI at this; omega⟩
              have HB3a : Below wc.heap.size wc (wc.alloc (.cells #[.int .i64 y1, .int .u8 rk, .slice ua9 rl.length uc9] 34)) := (Below.refl _ _).alloc (Nat.le_refl _) _
              have HB3 := Lib.hid HB3a
              clear HB3a
              go_wp2_with (at_builtin; go_loud (refine wpList_appGate rfl (.tmp 59) (.tmp 67) rfl W4.heap.size (.slice oa t.length oc) t (y1, rk, .slice ua9 rl.length uc9, rl) wc.heap.size rfl rfl (HRC.out.below' HB3.out (Nat.le_refl _)).row (cell_fresh rfl) (cell_fresh rfl) (cell_fresh rfl) rfl HTL.out (by simp; omega) ?_; intro v9 w9 hrow9 hg9; have HR9 := Lib.hid hrow9; have HG9 := Lib.hid hg9; clear hrow9 hg9))
              have HRN := Lib.hid (RowG.more (s := [(y1, rk, .slice ua9 rl.length uc9, rl)]) HRC.out hsz4 HB3.out (fun z hz => by
                rw [List.mem_singleton] at hz
                subst hz
                exact .inl ((HOU.out.mono (by have := HGBE.out; omega)).alloc _)) (fun g hg => by
                simp [shapeG] at hg
                subst hg
                exact HGB.out) HR9.out HG9.out)
              have HB9 : Below W4.heap.size wc w9 := (HB3.out.mono hsz4).grown HG9.out (by simp; omega) (fun g hg => (rowG_lt HRC.out.row g hg).1)
              have hkx : Kept (fun i => W4.heap.size ≤ i) wc w9 := ⟨HB9.os, HB9.tape, HB9.output, HB9.size, fun i hi hne => HB9.block i (by omega)⟩
              have HM9 : Hid (MapM w9 bm (2 * a.length + (k + 1)) F) := (HMC.out.kept hkx (by omega)).more (by omega)
              have HK9 : Hid (Kept (fun i => i = bm) W4 w9) := HKC.out.next hkx (fun i hi e => by omega)
              go_roundw
              case rel => exact ⟨k + 1, _, HKL.out, by go_num, HRN.out, by rw [shapeG_app, HST.out, HSH.out]; rfl, by rw [HST.out]; exact HM9.out, HK9.out⟩
              case measure => have := HKL.out; simp [intOf]; omega
        · obtain rfl : k = gs.length := by omega
          rw [List.take_length] at HSH HMP
          have HN5 : Hid (wr.heap[w.heap.size]? = some (.cells #[.slice pa P.length pc, .slice ga gs.length gc, .int .i64 o] 25 (0, 0))) := (HKE.out.block _ (by omega) (by omega)).trans HN4.out
          have HR5 : Hid (wr.heap[w.heap.size + 1]? = some (.cells #[.slice none 0 0, .slice none 0 0, .int .i64 0] 25 (0, 0))) := (HKE.out.block _ (by omega) (by omega)).trans HR4.out
          have n2 : wr.cell? ⟨w.heap.size, 2, none⟩ = some (.int .i64 o) := by simp [World.cell?, HN5.out]
          have HOK := Lib.hid (simRun_ok (Int.le_refl 65537) HFB.out gs HGS.out)
          have hsn : simpN P gs o a = if varC (imageF (simRun (fixM a) gs).1 o) = 65537 then constN (withoutP P (fixM a)) (decide (imageF (simRun (fixM a) gs).1 o = 65537)) else (withoutP P (fixM a), usedG (simRun (fixM a) gs).2 (imageF (simRun (fixM a) gs).1 o), imageF (simRun (fixM a) gs).1 o) := rfl
          have HSN := Lib.hid hsn
          clear hsn
          generalize hF : (simRun (fixM a) gs).1 = F at *
          generalize hST : (simRun (fixM a) gs).2 = ST at *
          have HFF : Hid (mBd 65537 F) := HOK.out.1
          have hxb : bdI 65537 (imageF F o) := HFF.out.image HO.out
          have HIM := Lib.hid (cimage_any bm (2 * a.length + gs.length) F o wr HMP.out (HFF.out.fBd (by omega)) (by have := HO.out; unfold bdI at this; omega) (by have := HO.out; unfold bdI at this; omega))
          have hx1 : -65537 ≤ imageF F o := hxb.1
          have hx2 : imageF F o ≤ 65537 := hxb.2
          clear hF hST HOK hxb HN4 HR4 HA4
          obtain ⟨x, hx⟩ : ∃ x, imageF F o = x := ⟨_, rfl⟩
          rw [hx] at HSN HIM hx1 hx2
          clear hx
          have HVC := Lib.hid (cvar_any x wr (by omega) (by omega))
          have hmw : mayP (withoutP P (fixM a)) = true := mayP_without HPM.out _
          have HJ5 : Hid (JoinSt wr W1.heap.size (.slice oa8 t8.length oc8) t8) := HJ4.out.keptS HKE.out (fun g hg e => by omega)
          have HMW := Lib.hid hmw
          have hwr4 : W4.heap.size ≤ wr.heap.size := hszr
          clear hmw HJ4
          generalize hP2 : withoutP P (fixM a) = P2 at *
          have HP2 : Hid (shapeT t8 = P2) := HS2.out
          have HIB : Hid (IsBlocks wr (.slice oa8 t8.length oc8) P2) := NetO.blocks_of HJ5.out HP2.out HMW.out
          clear hP2
          by_cases hyes : varC x = 65537
          · have hyb : (varC x == 65537) = true := by simp [hyes]
            rw [if_pos hyes] at HSN
            clear hyes
            generalize varC x = y at *
            have HCO : Hid (∀ v, Calls Try.prog 46 #[.slice oa8 t8.length oc8, .bool v] wr (ConstPost wr P2 (.slice oa8 t8.length oc8) v)) := fun v => cconst_any _ P2 v wr HIB.out HMW.out
            have fin : Hid (∀ (v : Bool) (w9 : World) (g : Nat) (x9 : Int), wr.heap.size < g → w9.heap[g]? = some (.cells #[.int .i64 x9, .int .u8 1, .slice none 0 0] 34 (0, 0)) → constN P2 v = (P2, [(x9, 1, [])], if v = true then x9 else -x9) → (1 ≤ x9 ∧ x9 ≤ 65536) → Below wr.heap.size wr w9 →
                (w9.cell? ⟨w.heap.size + 1, 0, none⟩ = some (.slice none 0 0) ∧ w9.cell? ⟨w.heap.size + 1, 1, none⟩ = some (.slice none 0 0) ∧ w9.cell? ⟨w.heap.size + 1, 2, none⟩ = some (.int .i64 0) ∧ w9.frozen? ⟨w.heap.size + 1, 0, none⟩ = false ∧ w9.frozen? ⟨w.heap.size + 1, 1, none⟩ = false ∧ w9.frozen? ⟨w.heap.size + 1, 2, none⟩ = false) ∧
                ∀ z, let X := ((w9.setCell ⟨w.heap.size + 1, 0, none⟩ (.slice oa8 t8.length oc8)).setCell ⟨w.heap.size + 1, 1, none⟩ (.slice (some ⟨g, 0, none⟩) 1 1)).setCell ⟨w.heap.size + 1, 2, none⟩ (.int .i64 z)
                  (X.cell? ⟨w.heap.size + 1, 0, none⟩ = some (.slice oa8 t8.length oc8) ∧ X.cell? ⟨w.heap.size + 1, 1, none⟩ = some (.slice (some ⟨g, 0, none⟩) 1 1) ∧ X.cell? ⟨w.heap.size + 1, 2, none⟩ = some (.int .i64 z)) ∧ NetO w00 X w.heap.size (.slice oa8 t8.length oc8) (.slice (some ⟨g, 0, none⟩) 1 1) P2 [(x9, 1, [])] ∧ Below w.heap.size w X) := fun v w9 g x9 hg hgh hc hx9 hb9 => by
              have hr9 := (hb9.block (w.heap.size + 1) (by omega)).trans HR5.out
              refine ⟨three_cells hr9, fun z => ?_⟩
              have hk := kept_three (w.heap.size + 1) w9 (.slice oa8 t8.length oc8) (.slice (some ⟨g, 0, none⟩) 1 1) (.int .i64 z)
              have h3 := three_cells (set_three (u := .slice oa8 t8.length oc8) (v := .slice (some ⟨g, 0, none⟩) 1 1) (t := .int .i64 z) hr9)
              have hb10 := HTOT.out.trans (hb9.mono HTOT.out.size)
              have hb11 := hb10.trans (hk.below hb10.size (fun i hi e => by omega))
              refine ⟨⟨h3.1, h3.2.1, h3.2.2.1⟩, ⟨⟨t8, ((HJ5.out.below hb9 (Nat.le_refl _)).keptS hk (fun q hq e => by omega)).mono hw1, HP2.out⟩, HMW.out, ⟨[(x9, 1, .slice none 0 0, [])], ?_, rfl⟩, by simp⟩, hb11⟩
              exact const_row (H00.out.trans (hb11.mono h00s)) h00s ((hk.block g (Array.getElem?_eq_some_iff.1 hgh).1 (by omega)).trans hgh) (by omega) hx9.1 hx9.2
            clear HJ5 HRW HSH HMP HKE
            by_cases hxe : x = 65537
            · have hxb : (x == 65537) = true := by simp [hxe]
              have HD : Hid (decide (x = 65537) = true) := by show _ = _; simpa using hxe
              rw [HD.out] at HSN
              clear hxe
              go_wp2_with (first
                | (go_at_call 23; go_loud (refine HIM.out.mono ?_; rintro e w6 ⟨rfl, rfl⟩))
                | (go_at_call 27; go_loud (refine HVC.out.mono ?_; rintro e w6 ⟨rfl, rfl⟩))
                | (go_at_call 46; go_loud (refine (HCO.out true).mono ?_; rintro e w9 ⟨g9, x9, rfl, hg9, hgh9, hc9, hx9, hb9⟩; obtain ⟨⟨d0, d1, d2, e0, e1, e2⟩, hfin⟩ := fin.out true w9 g9 x9 hg9 hgh9 hc9 hx9 hb9; have HFIN := Lib.hid hfin; have HC9 := Lib.hid hc9; clear hfin hc9 hgh9 hb9)))
              obtain ⟨⟨g0, g1, g2⟩, hno, hbe⟩ := HFIN.out x9
              refine ⟨rfl, .agg #[.slice oa8 t8.length oc8, .slice (some ⟨g9, 0, none⟩) 1 1, .int .i64 x9], by simp [results, Try.f20, go_sem, g0, g1, g2], ?_⟩
              unfold NetPostO
              rw [HSN.out, HC9.out]
              exact ⟨_, _, rfl, hno, hbe⟩
            · have hxb : (x == 65537) = false := by simpa using hxe
              have HD : Hid (decide (x = 65537) = false) := by show _ = _; simpa using hxe
              rw [HD.out] at HSN
              clear hxe
              go_wp2_with (first
                | (go_at_call 23; go_loud (refine HIM.out.mono ?_; rintro e w6 ⟨rfl, rfl⟩))
                | (go_at_call 27; go_loud (refine HVC.out.mono ?_; rintro e w6 ⟨rfl, rfl⟩))
                | (go_at_call 46; go_loud (refine (HCO.out false).mono ?_; rintro e w9 ⟨g9, x9, rfl, hg9, hgh9, hc9, hx9, hb9⟩; obtain ⟨⟨d0, d1, d2, e0, e1, e2⟩, hfin⟩ := fin.out false w9 g9 x9 hg9 hgh9 hc9 hx9 hb9; have HFIN := Lib.hid hfin; have HC9 := Lib.hid hc9; clear hfin hc9 hgh9 hb9)))
              obtain ⟨⟨g0, g1, g2⟩, hno, hbe⟩ := HFIN.out (-x9)
              refine ⟨rfl, .agg #[.slice oa8 t8.length oc8, .slice (some ⟨g9, 0, none⟩) 1 1, .int .i64 (-x9)], by simp [results, Try.f20, go_sem, g0, g1, g2], ?_⟩
              unfold NetPostO
              rw [HSN.out, HC9.out]
              exact ⟨_, _, rfl, hno, hbe⟩
          · have hyb : (varC x == 65537) = false := by simpa using hyes
            rw [if_neg hyes] at HSN
            clear hyes
            generalize varC x = y at *
            have HUS := Lib.hid (cused_any w00 W4.heap.size (.slice oa t.length oc) t x wr HRW.out hwr4 (by omega) (by omega) HTL.out)
            have fin : Hid (∀ (w9 : World) (v9 : Value), RowG w00 w9 W4.heap.size v9 (t.filter (inT (shapeG t) x)) → Below wr.heap.size wr w9 →
                (w9.cell? ⟨w.heap.size + 1, 0, none⟩ = some (.slice none 0 0) ∧ w9.cell? ⟨w.heap.size + 1, 1, none⟩ = some (.slice none 0 0) ∧ w9.cell? ⟨w.heap.size + 1, 2, none⟩ = some (.int .i64 0) ∧ w9.frozen? ⟨w.heap.size + 1, 0, none⟩ = false ∧ w9.frozen? ⟨w.heap.size + 1, 1, none⟩ = false ∧ w9.frozen? ⟨w.heap.size + 1, 2, none⟩ = false) ∧
                let X := ((w9.setCell ⟨w.heap.size + 1, 0, none⟩ (.slice oa8 t8.length oc8)).setCell ⟨w.heap.size + 1, 1, none⟩ v9).setCell ⟨w.heap.size + 1, 2, none⟩ (.int .i64 x);
                  (X.cell? ⟨w.heap.size + 1, 0, none⟩ = some (.slice oa8 t8.length oc8) ∧ X.cell? ⟨w.heap.size + 1, 1, none⟩ = some v9 ∧ X.cell? ⟨w.heap.size + 1, 2, none⟩ = some (.int .i64 x)) ∧ NetO w00 X w.heap.size (.slice oa8 t8.length oc8) v9 P2 (usedG ST x) ∧ Below w.heap.size w X) := fun w9 v9 hr hb9 => by
              have hr9 := (hb9.block (w.heap.size + 1) (by omega)).trans HR5.out
              refine ⟨three_cells hr9, ?_⟩
              have hk := kept_three (w.heap.size + 1) w9 (.slice oa8 t8.length oc8) v9 (.int .i64 x)
              have h3 := three_cells (set_three (u := .slice oa8 t8.length oc8) (v := v9) (t := .int .i64 x) hr9)
              have hb10 := HTOT.out.trans (hb9.mono HTOT.out.size)
              refine ⟨⟨h3.1, h3.2.1, h3.2.2.1⟩, ⟨⟨t8, ((HJ5.out.below hb9 (Nat.le_refl _)).keptS hk (fun q hq e => by omega)).mono hw1, HP2.out⟩, HMW.out, ⟨_, (hr.keptS hk (fun g hg e => by omega) (fun g hg e => by omega)).mono (by omega) h00s, by rw [used_shape, HSH.out]⟩, ?_⟩, hb10.trans (hk.below hb10.size (fun i hi e => by omega))⟩
              have h1 := List.length_filter_le (inT (shapeG t) x) t
              have h2 := HTL.out
              have h3 := congrArg List.length (used_shape t x)
              rw [shapeG_len, HSH.out] at h3
              rw [HSH.out] at h1
              omega
            clear HJ5 HRW HSH HMP HKE
            go_wp2_with (first
              | (go_at_call 23; go_loud (refine HIM.out.mono ?_; rintro e w6 ⟨rfl, rfl⟩))
              | (go_at_call 27; go_loud (refine HVC.out.mono ?_; rintro e w6 ⟨rfl, rfl⟩))
              | (go_at_call 47; go_loud (refine HUS.out.mono ?_; rintro e w9 ⟨v9, rfl, hr9, hb9⟩; obtain ⟨⟨d0, d1, d2, e0, e1, e2⟩, hfin⟩ := fin.out w9 v9 hr9 hb9; have HFIN := Lib.hid hfin; obtain ⟨a9, c9, rfl⟩ := hr9.shape; clear hfin hr9 hb9)))
            obtain ⟨⟨g0, g1, g2⟩, hno, hbe⟩ := HFIN.out
            refine ⟨rfl, .agg #[.slice oa8 t8.length oc8, .slice a9 (t.filter (inT (shapeG t) x)).length c9, .int .i64 x], by simp [results, Try.f20, go_sem, g0, g1, g2], ?_⟩
            unfold NetPostO
            rw [HSN.out]
            exact ⟨_, _, rfl, hno, hbe⟩
end Go.Proofs.Ytafenijbglcppaa
