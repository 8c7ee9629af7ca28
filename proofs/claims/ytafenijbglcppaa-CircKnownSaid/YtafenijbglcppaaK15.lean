/- Joined texts: CxComp. -/
import Derived.Test.YtafenijbglcppaaK14
/- circ.Compose. -/
namespace Go.Proofs.Ytafenijbglcppaa
open Go.RowKit Go.Maps
set_option linter.unusedVariables false
set_option linter.unusedSimpArgs false

/-- A net is put into the block that is handed back. -/
theorem net_putR {w0 w X : World} {vp vg : Value} {o : Int} {P : List Blk} {G : List Gt} {B r : Nat} (hh : X.heap[r]? = some (.cells #[.slice none 0 0, .slice none 0 0, .int .i64 0] 25 (0, 0))) (hb : Below w.heap.size w X) (hn : NetO w0 X B vp vg P G) (h0 : w0.heap.size ≤ w.heap.size) (hr : w.heap.size ≤ r) (hB : r < B) :
    (X.cell? ⟨r, 0, none⟩ = some (.slice none 0 0) ∧ X.cell? ⟨r, 1, none⟩ = some (.slice none 0 0) ∧ X.cell? ⟨r, 2, none⟩ = some (.int .i64 0) ∧ X.frozen? ⟨r, 0, none⟩ = false ∧ X.frozen? ⟨r, 1, none⟩ = false ∧ X.frozen? ⟨r, 2, none⟩ = false) ∧
    let Y := ((X.setCell ⟨r, 0, none⟩ vp).setCell ⟨r, 1, none⟩ vg).setCell ⟨r, 2, none⟩ (.int .i64 o);
      (Y.cell? ⟨r, 0, none⟩ = some vp ∧ Y.cell? ⟨r, 1, none⟩ = some vg ∧ Y.cell? ⟨r, 2, none⟩ = some (.int .i64 o)) ∧ NetO w0 Y w.heap.size vp vg P G ∧ Below w.heap.size w Y := by
  refine ⟨three_cells hh, ?_⟩
  have hk := kept_three r X vp vg (.int .i64 o)
  have h3 := three_cells (set_three (u := vp) (v := vg) (t := .int .i64 o) hh)
  exact ⟨⟨h3.1, h3.2.1, h3.2.2.1⟩, (hn.keptS hk (fun g hg e => by omega) (fun g hg e => by omega)).mono (by omega) h0, hb.trans (hk.below hb.size (fun i hi e => by omega))⟩
theorem net_boxes3 (w : World) (vp vg vp2 vg2 : Value) (o o2 : Int) : ∃ W0, ((w.alloc (.cells #[vp, vg, .int .i64 o] 25)).alloc (.cells #[vp2, vg2, .int .i64 o2] 25)).alloc (.cells #[.slice none 0 0, .slice none 0 0, .int .i64 0] 25) = W0 ∧ Below w.heap.size w W0 ∧ W0.heap.size = w.heap.size + 3 ∧
    W0.heap[w.heap.size]? = some (.cells #[vp, vg, .int .i64 o] 25 (0, 0)) ∧ W0.heap[w.heap.size + 1]? = some (.cells #[vp2, vg2, .int .i64 o2] 25 (0, 0)) ∧ W0.heap[w.heap.size + 2]? = some (.cells #[.slice none 0 0, .slice none 0 0, .int .i64 0] 25 (0, 0)) :=
  ⟨_, rfl, (((Below.refl w.heap.size w).alloc (Nat.le_refl _) _).alloc (by simp) _).alloc (by simp; omega) _, by simp, by rw [heapy, if_neg (by simp; omega), heapy, if_neg (by simp), heapy, if_pos rfl], by rw [heapy, if_neg (by simp), heapy, if_pos (by simp)], by rw [heapy, if_pos (by simp)]⟩
/-- Variables of the prefix, but for one. -/
def otherB (P : List Blk) (v : Int) (x : Int) : Bool := decide (x ∈ flatB P) && !decide (x = v)
theorem namedL_size : ∀ (gs : List Gt) (S : List Int) (t : Nat) (R : List Int), namedL S t gs = some R → t ≤ 200000 → t + sizeG gs ≤ 200000
  | [], S, t, R, _, ht => by simpa [sizeG] using ht
  | g :: r, S, t, R, h, ht => by
    unfold namedL at h
    split at h
    · rename_i hx
      unfold gOk at hx
      simp only [Bool.and_eq_true, decide_eq_true_eq] at hx
      have h1 := namedL_size r _ _ R h hx.1
      have h2 : sizeG (g :: r) = g.2.2.length + sizeG r := by unfold sizeG; simp
      omega
    · cases h
theorem mayN_size {P : List Blk} {gs : List Gt} {o : Int} (h : mayN P gs o = true) : sizeG gs ≤ 200000 := by
  unfold mayN namedN at h
  split at h
  · rename_i S hS
    split at hS
    · have := namedL_size gs _ 0 S hS (by omega)
      omega
    · cases hS
  · cases h
theorem flat_takeB {p : List Blk} {k : Nat} (h : k < p.length) : flatB (p.take (k + 1)) = flatB (p.take k) ++ (p.getD k dB).2 := flat_take_succ h

theorem wrap_sum {a b : Nat} (h1 : a ≤ 200000) (h2 : b ≤ 200000) : IntKind.i64.wrap ((a : Int) + (b : Int)) = (a : Int) + (b : Int) := by rw [IntKind.wrap_i64]; omega
/-- New names up to a place. -/
def ownT (gs : List Gt) (ns : List Int) (k : Nat) : Int → Option Int := ((gs.zip ns).take k).foldl (fun f x => updM f x.1.1 x.2) (fun _ => none)
theorem ownT_succ {gs : List Gt} {ns : List Int} {k : Nat} (h1 : k < gs.length) (h2 : k < ns.length) : ownT gs ns (k + 1) = updM (ownT gs ns k) (gs.getD k dG).1 (ns.getD k 0) := by
  have hz : k < (gs.zip ns).length := by rw [List.length_zip]; omega
  unfold ownT
  rw [List.take_succ_eq_append_getElem hz, List.foldl_append]
  simp [List.getD, h1, h2]
theorem ownT_all {gs : List Gt} {ns : List Int} (h : ns.length = gs.length) : ownT gs ns gs.length = ownM gs ns := by
  unfold ownT ownM
  rw [List.take_of_length_le (by rw [List.length_zip]; omega)]
theorem foldM_bd {B : Int} : ∀ (l : List (Gt × Int)) (f : Int → Option Int), mBd B f → (∀ x ∈ l, bdI B x.2) → mBd B (l.foldl (fun f x => updM f x.1.1 x.2) f)
  | [], f, hf, _ => hf
  | x :: r, f, hf, h => foldM_bd r _ (hf.upd (h x (List.mem_cons_self ..))) (fun y hy => h y (List.mem_cons_of_mem _ hy))
theorem ownM_bd {gs : List Gt} {ns : List Int} {B : Int} (h : ∀ y ∈ ns, bdI B y) : mBd B (ownM gs ns) := foldM_bd _ _ (fun k y e => by cases e) (fun x hx => h _ (List.of_mem_zip hx).2)
theorem emptyM_bd (B : Int) : mBd B (fun _ => none) := fun k y e => by cases e
/-- '[][]Gate{a, b}' as a step of a region that draws its order. -/
theorem step_build2 {ops : Array Oper} {o : Oper} {a : Act} {w : World} {K : Act → World → Prop} {Q : Exit → Act → World → Prop} {E : Prop} (d : Option Tmp) (hd : o.dst = d) (hgd : o.guard = none) (t u : Tmp)
    (hop : o.op = Op.buildSlice 100 2 #[(0, .tmp t), (1, .tmp u)]) (a1 a2 : Option Addr) (n1 c1 n2 c2 : Nat) (hx : a.tmps[t]?.getD undef = .slice a1 n1 c1) (hy : a.tmps[u]?.getD undef = .slice a2 n2 c2)
    (h : ∀ w', w' = w.alloc (.cells #[.slice a1 n1 c1, .slice a2 n2 c2] 23) → K (a.put d (.slice (some ⟨w.heap.size, 0, none⟩) 2 2)) w') : if Region.wanted o (yielded ops a.tmps) = true then Oper.wp Try.prog o a w K Q else E := by
  subst hd
  have hw : Region.wanted o (yielded ops a.tmps) = true := by simp [Region.wanted, hgd]
  rw [if_pos hw]
  unfold Oper.wp
  simp only [execOp, hop]
  have h2 := h _ rfl
  clear h
  go_simp
  exact h2

set_option maxRecDepth 100000 in
set_option maxHeartbeats 6400000 in
theorem ccompose_any (vp vg vp2 vg2 : Value) (o o2 v : Int) (P P2 : List Blk) (gs gs2 : List Gt) (w : World) (HP : IsBlocks w vp P) (HG : IsGates w vg gs) (HP2 : IsBlocks w vp2 P2) (HG2 : IsGates w vg2 gs2) (hp : P.length ≤ 4000000) (hg : gs.length < 400000) (hp2 : P2.length ≤ 4000000) (hg2 : gs2.length < 400000)
    (ho1 : -9223372036854775808 ≤ o) (ho2 : o ≤ 9223372036854775807) (hq1 : -9223372036854775808 ≤ o2) (hq2 : o2 ≤ 9223372036854775807) (hv1 : -9223372036854775808 ≤ v) (hv2 : v ≤ 9223372036854775807) :
    Calls Try.prog 8 #[.agg #[vp, vg, .int .i64 o], .int .i64 v, .agg #[vp2, vg2, .int .i64 o2]] w (NetPostE w w (composeN P gs o v P2 gs2 o2)) := by
  obtain ⟨W0, hW0, hb0, hz0, hn0, hm0, hr0⟩ := net_boxes3 w vp vg vp2 vg2 o o2
  have HP0 := HP.below hb0 (Nat.le_refl _)
  have HG0 := HG.below hb0 (Nat.le_refl _)
  have HNM := Lib.hid (cnamed_any vp vg o P gs W0 HP0 HG0 hp (by omega) ho1 ho2)
  have HW0 := Lib.hid hW0
  have HB0 := Lib.hid hb0
  have HN0 := Lib.hid hn0
  have HM0 := Lib.hid hm0
  have HR0 := Lib.hid hr0
  have HPW := Lib.hid HP0
  have HGW := Lib.hid HG0
  have HPW2 := Lib.hid (HP2.below hb0 (Nat.le_refl _))
  have HGW2 := Lib.hid (HG2.below hb0 (Nat.le_refl _))
  have HGB := Lib.hid HG.bd
  have HGB2 := Lib.hid HG2.bd
  obtain ⟨pa, pc, rfl, _⟩ := HP.shape
  obtain ⟨ga, gc, rfl, _⟩ := HG.shape
  obtain ⟨pa2, pc2, rfl, _⟩ := HP2.shape
  obtain ⟨ga2, gc2, rfl, _⟩ := HG2.shape
  have hz : w.heap.size + 3 ≤ W0.heap.size := by omega
  have HER : Hid (∀ X, Below W0.heap.size W0 X → (X.cell? ⟨w.heap.size + 2, 0, none⟩ = some (.slice none 0 0) ∧ X.cell? ⟨w.heap.size + 2, 1, none⟩ = some (.slice none 0 0) ∧ X.cell? ⟨w.heap.size + 2, 2, none⟩ = some (.int .i64 0) ∧ X.frozen? ⟨w.heap.size + 2, 0, none⟩ = false ∧ X.frozen? ⟨w.heap.size + 2, 1, none⟩ = false ∧ X.frozen? ⟨w.heap.size + 2, 2, none⟩ = false) ∧
    let Y := ((X.setCell ⟨w.heap.size + 2, 0, none⟩ (.slice none 0 0)).setCell ⟨w.heap.size + 2, 1, none⟩ (.slice none 0 0)).setCell ⟨w.heap.size + 2, 2, none⟩ (.int .i64 0);
      (Y.cell? ⟨w.heap.size + 2, 0, none⟩ = some (.slice none 0 0) ∧ Y.cell? ⟨w.heap.size + 2, 1, none⟩ = some (.slice none 0 0) ∧ Y.cell? ⟨w.heap.size + 2, 2, none⟩ = some (.int .i64 0)) ∧ NetO w Y w.heap.size (.slice none 0 0) (.slice none 0 0) [] [] ∧ Below w.heap.size w Y) := fun X hX =>
    net_putR (w0 := w) (o := 0) ((hX.block _ (by omega)).trans HR0.out) (HB0.out.trans (hX.mono HB0.out.size)) (NetO.nil (B := w.heap.size + 3) (HB0.out.trans (hX.mono HB0.out.size)) (by omega)) (Nat.le_refl _) (by omega) (by omega)
  have HCL : Hid (∀ X, Below W0.heap.size W0 X → (X.cell? ⟨w.heap.size, 0, none⟩ = some (.slice pa P.length pc) ∧ X.cell? ⟨w.heap.size, 1, none⟩ = some (.slice ga gs.length gc) ∧ X.cell? ⟨w.heap.size, 2, none⟩ = some (.int .i64 o)) ∧ X.cell? ⟨w.heap.size + 1, 0, none⟩ = some (.slice pa2 P2.length pc2) ∧ X.cell? ⟨w.heap.size + 1, 1, none⟩ = some (.slice ga2 gs2.length gc2) ∧ X.cell? ⟨w.heap.size + 1, 2, none⟩ = some (.int .i64 o2)) := fun X hX => by
    have h1 := three_cells ((hX.block _ (by omega)).trans HN0.out)
    have h2 := three_cells ((hX.block _ (by omega)).trans HM0.out)
    exact ⟨⟨h1.1, h1.2.1, h1.2.2.1⟩, h2.1, h2.2.1, h2.2.2.1⟩
  have HMY : Hid (∀ X, Below W0.heap.size W0 X → Calls Try.prog 10 #[.agg #[.slice pa2 P2.length pc2, .slice ga2 gs2.length gc2, .int .i64 o2]] X fun e w' => e = .returned (.bool (mayN P2 gs2 o2)) ∧ Below X.heap.size X w') := fun X hX => cmay_any _ _ o2 P2 gs2 X (HPW2.out.below hX (Nat.le_refl _)) (HGW2.out.below hX (Nat.le_refl _)) hp2 (by omega) hq1 hq2
  clear HP HG HP2 HG2 HP0 HG0 hW0 hb0 hz0 hn0 hm0 hr0
  unfold NamedPost at HNM
  cases hm : mayN P gs o with
  | false =>
    have HS : Hid (composeN P gs o v P2 gs2 o2 = (noNet, 2)) := by show _ = _; unfold composeN; rw [hm]; rfl
    have HNF : Hid (Calls Try.prog 21 #[.agg #[.slice pa P.length pc, .slice ga gs.length gc, .int .i64 o]] W0 fun e w' => ∃ m, e = .returned (.tuple #[.map m, .bool false]) ∧ Below W0.heap.size W0 w') := HNM.out.mono fun e w' h => by
      unfold mayN at hm
      obtain ⟨hb, ⟨h1, h2⟩ | ⟨S, b, h1, h2, _⟩⟩ := h
      · exact ⟨_, h2, hb⟩
      · rw [h1] at hm
        exact ⟨_, by rw [h2]; simp only at hm; rw [hm], hb⟩
    clear hm HNM
    go_enter Try.func8, Try.ntmps8
    go_wp2_with fail
    rw [HW0.out]
    refine HNF.out.mono ?_
    rintro e w1 ⟨m1, rfl, hb1⟩
    obtain ⟨⟨d0, d1, d2, e0, e1, e2⟩, hfin⟩ := HER.out w1 hb1
    have HFIN := Lib.hid hfin
    clear hfin hb1
    go_wp2
    obtain ⟨⟨g0, g1, g2⟩, hno, hbe⟩ := HFIN.out
    refine ⟨rfl, .tuple #[.agg #[.slice none 0 0, .slice none 0 0, .int .i64 0], .int .i64 2], by simp [results, Try.f8, go_sem, g0, g1, g2], ?_⟩
    unfold NetPostE
    rw [HS.out]
    exact ⟨_, _, rfl, hno, hbe⟩
  | true =>
    have HMP := Lib.hid (mayN_parts hm HGB.out ho1 ho2)
    have HM := Lib.hid hm
    have HZ1 := Lib.hid (mayN_size hm)
    obtain ⟨S, hS⟩ : ∃ S, namedN P gs = some S := by
      unfold mayN at hm
      cases hn : namedN P gs with
      | none => rw [hn] at hm; cases hm
      | some S => exact ⟨S, rfl⟩
    have HNT : Hid (Calls Try.prog 21 #[.agg #[.slice pa P.length pc, .slice ga gs.length gc, .int .i64 o]] W0 fun e w' => ∃ b, e = .returned (.tuple #[.map (some b), .bool true]) ∧ SetI w' b S ∧ Below W0.heap.size W0 w') := HNM.out.mono fun e w' h => by
      unfold mayN at hm
      obtain ⟨hb, ⟨h1, h2⟩ | ⟨S', b, h1, h2, _, h4⟩⟩ := h
      · rw [h1] at hS; cases hS
      · rw [h1] at hm hS
        injection hS with hS
        subst hS
        exact ⟨b, by rw [h2]; simp only at hm; rw [hm], h4, hb⟩
    have HSS := Lib.hid hS
    clear hm HNM hS
    cases hm2 : mayN P2 gs2 o2 with
    | false =>
      rw [hm2] at HMY
      have HS : Hid (composeN P gs o v P2 gs2 o2 = (noNet, 2)) := by show _ = _; unfold composeN; rw [HM.out, hm2]; rfl
      clear hm2
      go_enter Try.func8, Try.ntmps8
      go_wp2_with fail
      rw [HW0.out]
      refine HNT.out.mono ?_
      rintro e w1 ⟨b1, rfl, hs1, hb1⟩
      obtain ⟨⟨k0, k1, k2⟩, l0, l1, l2⟩ := HCL.out w1 hb1
      have HB1 := Lib.hid hb1
      clear hb1 hs1
      go_wp2_with (go_at_call 10; go_loud (refine (HMY.out w1 HB1.out).mono ?_; rintro e w2 ⟨rfl, hb2⟩; obtain ⟨⟨d0, d1, d2, e0, e1, e2⟩, hfin⟩ := HER.out w2 (HB1.out.trans (hb2.mono HB1.out.size)); have HFIN := Lib.hid hfin; clear hfin hb2))
      obtain ⟨⟨g0, g1, g2⟩, hno, hbe⟩ := HFIN.out
      refine ⟨rfl, .tuple #[.agg #[.slice none 0 0, .slice none 0 0, .int .i64 0], .int .i64 2], by simp [results, Try.f8, go_sem, g0, g1, g2], ?_⟩
      unfold NetPostE
      rw [HS.out]
      exact ⟨_, _, rfl, hno, hbe⟩
    | true =>
      rw [hm2] at HMY
      have HZ2 := Lib.hid (mayN_size hm2)
      have HMP2 := Lib.hid (mayN_parts hm2 HGB2.out hq1 hq2)
      have HOK : Hid ((mayN P gs o && mayN P2 gs2 o2) = true) := by show _ = _; rw [HM.out, hm2]; rfl
      have HQA : Hid (∀ X, Below W0.heap.size W0 X → Calls Try.prog 18 #[.slice pa P.length pc] X fun e w' => e = .returned (.tuple #[.map (some X.heap.size), .bool true]) ∧ SetI w' X.heap.size (flatB P) ∧ Below X.heap.size X w') := fun X hX => (quantified_any _ P X (HPW.out.below hX (Nat.le_refl _)) hp).mono fun e w' h => by
        unfold QuantPost at h
        obtain ⟨hb, ⟨_, h1, h2⟩ | ⟨h2, _⟩⟩ := h
        · exact ⟨h1, h2, hb⟩
        · rw [HMP.out.1] at h2; cases h2
      have hzb : ∀ X : World, (zeroValue 4).run Try.prog X = .ok (.bool false) X := fun _ => rfl
      have HZB := Lib.hid hzb
      clear hm2 HM hzb
      cases hv : decide (v ∈ flatB P) with
      | false =>
        have HS : Hid (composeN P gs o v P2 gs2 o2 = (noNet, 6)) := by show _ = _; unfold composeN; rw [if_pos HOK.out, if_neg (by simpa using hv)]
        have HLK : Hid (∀ X b, SetI X b (flatB P) → (Instr.lookup 57 (.map (some b)) (.int .i64 v) false).run Try.prog X = .ok (.bool false) X) := fun X b h => by have h1 := h.look (HZB.out X) v (i64w hv1 hv2); rw [hv] at h1; exact h1
        clear hv
        go_enter Try.func8, Try.ntmps8
        go_wp2_with fail
        rw [HW0.out]
        refine HNT.out.mono ?_
        rintro e w1 ⟨b1, rfl, hs1, hb1⟩
        obtain ⟨⟨k0, k1, k2⟩, l0, l1, l2⟩ := HCL.out w1 hb1
        have HB1 := Lib.hid hb1
        clear hb1 hs1
        go_wp2_with (first
          | (go_at_call 10; go_loud (refine (HMY.out w1 HB1.out).mono ?_; rintro e w2 ⟨rfl, hb2⟩; have HB2 := Lib.hid (HB1.out.trans (hb2.mono HB1.out.size)); obtain ⟨⟨m0, m1, m2⟩, n0, n1, n2⟩ := HCL.out w2 HB2.out; clear hb2))
          | (go_at_call 18; go_loud (refine (HQA.out w2 HB2.out).mono ?_; rintro e w3 ⟨rfl, hs3, hb3⟩; have hlk := HLK.out w3 _ hs3; obtain ⟨⟨d0, d1, d2, e0, e1, e2⟩, hfin⟩ := HER.out w3 (HB2.out.trans (hb3.mono HB2.out.size)); have HFIN := Lib.hid hfin; clear hfin hb3 hs3)))
        obtain ⟨⟨g0, g1, g2⟩, hno, hbe⟩ := HFIN.out
        refine ⟨rfl, .tuple #[.agg #[.slice none 0 0, .slice none 0 0, .int .i64 0], .int .i64 6], by simp [results, Try.f8, go_sem, g0, g1, g2], ?_⟩
        unfold NetPostE
        rw [HS.out]
        exact ⟨_, _, rfl, hno, hbe⟩
      | true =>
        have HVP : Hid (v ∈ flatB P) := by show _ ∈ _; simpa using hv
        have HLK : Hid (∀ X b, SetI X b (flatB P) → (Instr.lookup 57 (.map (some b)) (.int .i64 v) false).run Try.prog X = .ok (.bool true) X) := fun X b h => by have h1 := h.look (HZB.out X) v (i64w hv1 hv2); rw [hv] at h1; exact h1
        have hvw := i64w hv1 hv2
        have HVW := Lib.hid hvw
        clear hv hvw
        go_enter Try.func8, Try.ntmps8
        go_wp2_with fail
        rw [HW0.out]
        refine HNT.out.mono ?_
        rintro e w1 ⟨b1, rfl, hs1, hb1⟩
        obtain ⟨⟨k0, k1, k2⟩, l0, l1, l2⟩ := HCL.out w1 hb1
        have HB1 := Lib.hid hb1
        have HS1 := Lib.hid hs1
        clear hb1 hs1
        go_wp2_with (first
          | (go_at_call 10; go_loud (refine (HMY.out w1 HB1.out).mono ?_; rintro e w2 ⟨rfl, hb2⟩; have HB2 := Lib.hid (HB1.out.trans (hb2.mono HB1.out.size)); have HS2 : Hid (SetI w2 b1 S) := HS1.out.below hb2 (Nat.le_refl _); obtain ⟨⟨m0, m1, m2⟩, n0, n1, n2⟩ := HCL.out w2 HB2.out; clear hb2))
          | (go_at_call 18; go_loud (refine (HQA.out w2 HB2.out).mono ?_; rintro e w3 ⟨rfl, hs3, hb3⟩; have hlk := HLK.out w3 _ hs3; have HQ3 := Lib.hid hs3; have HB3 := Lib.hid hb3; have hq3lt := hs3.lt; clear hb3 hs3))
          | (at_delete; go_loud (refine wpList_delB rfl _ _ rfl rfl HQ3.out.mapB v rfl HVW.out ?_; intro w4 hm4 hk4; have HM4 := Lib.hid hm4; have HB4x : Hid (Below w2.heap.size w2 w4) := HB3.out.trans (hk4.belowB (Nat.le_refl _) HB3.out.size); have HB4 := Lib.hid (HB2.out.trans (HB4x.out.mono HB2.out.size)); obtain ⟨⟨r0, r1, r2⟩, s0, s1, s2⟩ := HCL.out w4 HB4.out; clear hm4 hk4)))
        have HMH : Hid (MapH w4 w2.heap.size (flatB P).length (otherB P v)) := HM4.out
        have HS4 : Hid (SetI w4 b1 S) := HS2.out.below HB4x.out (Nat.le_refl _)
        have hsz4 : W0.heap.size ≤ w4.heap.size := HB4.out.size
        clear k0 k1 k2 l0 l1 l2 m0 m1 m2 n0 n1 n2 hlk HS1 HS2 HB1 HB2 HB3 HQ3 HB4x HM4 HLK HNT HQA HMY HN0 HM0
        have hpl2 := mayP_short HMP2.out.1
        have HPL2 := Lib.hid hpl2
        clear hpl2
        go_loopw [49] (fun i wr => ∃ k : Nat, k ≤ P2.length ∧ i = .int .i64 k ∧ Below w4.heap.size w4 wr ∧ Hid ((flatB (P2.take k)).all (fun x => otherB P v (varC x)) = true)) (fun i _ => P2.length - (intOf i).toNat)
        case atStart => exact ⟨0, Nat.zero_le _, rfl, Below.refl _ _, rfl⟩
        case round =>
          obtain ⟨k, hk, rfl, hbel, hall⟩ := hrel
          have HB := Lib.hid hbel
          have hszr := hbel.size
          have HT : Hid (Below W0.heap.size W0 wr) := HB4.out.trans (hbel.mono hsz4)
          clear hbel r0 r1 r2 s0 s1 s2
          by_cases hlt : k < P2.length
          · obtain ⟨b, off, u, rfl, hb, hcx0, hcu0, HU⟩ := HPW2.out.at hlt
            have hcx := (HT.out.cell (p := ⟨b, off + k * 2, none⟩) hb).trans hcx0
            have hcu := (HT.out.cell (p := ⟨b, off + k * 2 + 1, none⟩) hb).trans hcu0
            have HFT := Lib.hid (flat_takeB hlt)
            have HFI : Hid ((P2.getD k dB).2.all (fun x => otherB P v (varC x)) = false → (flatB P2).all (fun x => otherB P v (varC x)) = false) := fun h => by
              have h6 : flatB P2 = flatB (P2.take (k + 1)) ++ flatB (P2.drop (k + 1)) := by unfold flatB; rw [← List.flatten_append, ← List.map_append, List.take_append_drop]
              rw [h6, HFT.out, List.all_append, List.all_append, h]
              simp
            have hk0 : (0 : Int) ≤ (k : Int) := by omega
            have hk1 : (k : Int) < (P2.length : Int) := by omega
            have hk2 : (k : Int) < 4000001 := by omega
            have HKL := Lib.hid hlt
            clear hcx0 hcu0 hlt
            generalize P2.getD k dB = y at *
            obtain ⟨y1, y2⟩ := y
            simp only at hcx hcu HU HFT HFI
            have HBA := Lib.hid (HT.out.alloc HT.out.size (.cells #[.bool y1, u] 32))
            have HBB := Lib.hid (HB.out.alloc hszr (.cells #[.bool y1, u] 32))
            have HAR : Hid (Calls Try.prog 19 #[u, .map (some w2.heap.size)] (wr.alloc (.cells #[.bool y1, u] 32)) fun e w' => e = .returned (.bool (y2.all (fun x => otherB P v (varC x)))) ∧ Below (wr.alloc (.cells #[.bool y1, u] 32)).heap.size (wr.alloc (.cells #[.bool y1, u] 32)) w') := careofH_any w2.heap.size _ (otherB P v) u y2 _ (HMH.out.below HBB.out (Nat.le_refl _)) (HU.below HBA.out (Nat.le_refl _))
            obtain ⟨ua, uc, rfl⟩ := HU.shape
            clear HU
            cases ha : y2.all (fun x => otherB P v (varC x)) with
            | false =>
              rw [ha] at HAR
              have HS : Hid (composeN P gs o v P2 gs2 o2 = (noNet, 4)) := by
                show _ = _
                have h9 := HFI.out ha
                unfold otherB at h9
                unfold composeN
                rw [if_pos HOK.out, if_pos HVP.out, if_neg (by rw [h9]; simp)]
              clear ha
              go_wp2_with (go_at_call 19; go_loud (refine HAR.out.mono ?_; rintro e w5 ⟨rfl, hb5⟩; obtain ⟨⟨d0, d1, d2, e0, e1, e2⟩, hfin⟩ := HER.out w5 (HBA.out.trans (hb5.mono HBA.out.size)); have HFIN := Lib.hid hfin; clear hfin hb5))
              obtain ⟨⟨g0, g1, g2⟩, hno, hbe⟩ := HFIN.out
              refine ⟨rfl, .tuple #[.agg #[.slice none 0 0, .slice none 0 0, .int .i64 0], .int .i64 4], by simp [results, Try.f8, go_sem, g0, g1, g2], ?_⟩
              unfold NetPostE
              rw [HS.out]
              exact ⟨_, _, rfl, hno, hbe⟩
            | true =>
              rw [ha] at HAR
              have HAL : Hid ((flatB (P2.take (k + 1))).all (fun x => otherB P v (varC x)) = true) := by show _ = _; rw [HFT.out, List.all_append, hall.out, ha]; rfl
              clear ha
              go_wp2_with (go_at_call 19; go_loud (refine HAR.out.mono ?_; rintro e w5 ⟨rfl, hb5⟩; have HB5 := Lib.hid (HBB.out.trans (hb5.mono HBB.out.size)); clear hb5))
              go_roundw
              case rel => exact ⟨k + 1, HKL.out, by go_num, HB5.out, HAL.out⟩
              case measure => have := HKL.out; simp [intOf]; omega
          · obtain rfl : k = P2.length := by omega
            have HALL : Hid ((flatB P2).all (fun x => otherB P v (varC x)) = true) := by show _ = _; have h9 := hall.out; rwa [List.take_length] at h9
            obtain ⟨w5, hw5⟩ : ∃ w5, wr = w5 := ⟨_, rfl⟩
            rw [hw5] at HB HT hszr ⊢
            clear hw5 hall
            have HS5 : Hid (SetI w5 b1 S) := HS4.out.below HB.out (Nat.le_refl _)
            obtain ⟨⟨r0, r1, r2⟩, s0, s1, s2⟩ := HCL.out w5 HT.out
            have HUN := Lib.hid (cunused_any b1 S (gs2.length : Int) w5 HS5.out (by omega) (by omega))
            rw [Int.toNat_natCast] at HUN
            go_wp2_with (go_at_call 22; go_loud (refine HUN.out.mono ?_; rintro e w6 ⟨v6, rfl, ho6, hb6⟩; have HO6 := Lib.hid ho6; have HB6 := Lib.hid (HT.out.trans (hb6.mono HT.out.size)); obtain ⟨na, nc, rfl⟩ := own_shC ho6; obtain ⟨⟨p0, p1, p2⟩, q0, q1, q2⟩ := HCL.out w6 HB6.out; clear ho6 hb6))
            have hsz6 : W0.heap.size ≤ w6.heap.size := HB6.out.size
            have hnl := freeUp_len
            have HNL : Hid ((unusedL S gs2.length).length ≤ gs2.length) := by show _ ≤ _; unfold unusedL; exact List.length_take_le _ _
            have HGN : Hid ((namedN P gs).getD [] = S) := by show _ = _; rw [HSS.out]; rfl
            have HAL2 : Hid ((flatB P2).all (fun x => decide (varC x ∈ flatB P) && !decide (varC x = v)) = true) := HALL.out
            clear HALL r0 r1 r2 s0 s1 s2 hnl
            have hun : unusedL ((namedN P gs).getD []) gs2.length = unusedL S gs2.length := by rw [HGN.out]
            have HUN2 := Lib.hid hun
            clear hun
            have HNB : Hid (∀ y ∈ unusedL S gs2.length, 1 ≤ y ∧ y ≤ 65536) := fun y hy => freeUp_bd (Nat.le_refl _) y (List.mem_of_mem_take hy)
            generalize unusedL S gs2.length = NS at *
            by_cases hlt : NS.length < gs2.length
            · have hd : decide ((NS.length : Int) < (gs2.length : Int)) = true := by simpa using hlt
              have HS : Hid (composeN P gs o v P2 gs2 o2 = (noNet, 3)) := by
                show _ = _
                unfold composeN
                rw [if_pos HOK.out, if_pos HVP.out, if_pos HAL2.out, if_neg (fun h => by have h8 := h.1; rw [HUN2.out] at h8; omega)]
              have hsq : Hid (∀ X, Below w6.heap.size w6 X → (X.cell? ⟨w.heap.size, 0, none⟩ = some (.slice pa P.length pc) ∧ X.cell? ⟨w.heap.size, 1, none⟩ = some (.slice ga gs.length gc) ∧ X.cell? ⟨w.heap.size, 2, none⟩ = some (.int .i64 o)) ∧ X.cell? ⟨w.heap.size + 1, 0, none⟩ = some (.slice pa2 P2.length pc2) ∧ X.cell? ⟨w.heap.size + 1, 1, none⟩ = some (.slice ga2 gs2.length gc2) ∧ X.cell? ⟨w.heap.size + 1, 2, none⟩ = some (.int .i64 o2)) := fun X hX => HCL.out X (HB6.out.trans (hX.mono hsz6))
              have HXC := hsq
              clear p0 p1 p2 q0 q1 q2 hsq
              go_wp2_with fail
              have hWd : Below w6.heap.size w6 w6.drew := (Below.refl _ _).drew
              have HWD := Lib.hid hWd
              refine wp_region_held_drew (S := fun X => Below w6.heap.size w6 X) (by kernel_rfl) hWd (fun hSd => ?_)
              clear hWd
              generalize w6.drew = wq at *
              have HBQ : Hid (Below W0.heap.size W0 wq) := HB6.out.trans (HWD.out.mono hsz6)
              refine takeC (i := 0) (v := .slice na NS.length nc) (some 65) rfl rfl (by kernel_rfl) (by kernel_rfl) (by kernel_rfl) (fun _ _ _ h => h) (Or.inl ⟨by rfl, ?_⟩) (by assumption) ?_
              · intro wz hSw; go_simp
              try simp only [Act.put, List.setIfInBounds_toArray, List.set_cons_zero, List.set_cons_succ]
              refine takeC (i := 1) (v := .int .i64 (NS.length : Int)) (some 66) rfl rfl (by kernel_rfl) (by kernel_rfl) (by kernel_rfl) (fun _ _ _ h => h) (Or.inl ⟨by rfl, ?_⟩) (by assumption) ?_
              · intro wz hSw; go_simp
              try simp only [Act.put, List.setIfInBounds_toArray, List.set_cons_zero, List.set_cons_succ]
              refine takeC (i := 2) (v := .pointer (some ⟨w.heap.size + 1, 1, none⟩)) (some 67) rfl rfl (by kernel_rfl) (by kernel_rfl) (by kernel_rfl) (fun _ _ _ h => h) (Or.inl ⟨by rfl, ?_⟩) (by assumption) ?_
              · intro wz hSw; go_simp
              try simp only [Act.put, List.setIfInBounds_toArray, List.set_cons_zero, List.set_cons_succ]
              refine takeC (i := 3) (v := .slice ga2 gs2.length gc2) (some 68) rfl rfl (by kernel_rfl) (by kernel_rfl) (by kernel_rfl) (fun _ _ _ h => h) (Or.inl ⟨by rfl, ?_⟩) (by assumption) ?_
              · intro wz hSw; obtain ⟨⟨t0, t1, t2⟩, y0, y1, y2⟩ := HXC.out wz hSw; go_simp
              try simp only [Act.put, List.setIfInBounds_toArray, List.set_cons_zero, List.set_cons_succ]
              refine takeC (i := 4) (v := .int .i64 (gs2.length : Int)) (some 69) rfl rfl (by kernel_rfl) (by kernel_rfl) (by kernel_rfl) (fun _ _ _ h => h) (Or.inl ⟨by rfl, ?_⟩) (by assumption) ?_
              · intro wz hSw; go_simp
              try simp only [Act.put, List.setIfInBounds_toArray, List.set_cons_zero, List.set_cons_succ]
              refine takeC (i := 5) (v := .bool true) (some 70) rfl rfl (by kernel_rfl) (by kernel_rfl) (by kernel_rfl) (fun _ _ _ h => h) (Or.inl ⟨by rfl, ?_⟩) (by assumption) ?_
              · intro wz hSw; go_simp
              try simp only [Act.put, List.setIfInBounds_toArray, List.set_cons_zero, List.set_cons_succ]
              clear hlt
              refine takeC (i := 6) (v := .bool true) (some 71) rfl rfl (by kernel_rfl) (by kernel_rfl) (by kernel_rfl) (fun _ _ _ h => h) (Or.inl ⟨by rfl, ?_⟩) (by assumption) ?_
              · intro wz hSw; go_simp
              try simp only [Act.put, List.setIfInBounds_toArray, List.set_cons_zero, List.set_cons_succ]
              refine takeC (i := 7) (v := undef) (some 72) rfl rfl (by kernel_rfl) (by kernel_rfl) (by kernel_rfl) (fun _ _ _ h => h) (Or.inr ⟨by rfl, rfl⟩) (by assumption) ?_
              try simp only [Act.put, List.setIfInBounds_toArray, List.set_cons_zero, List.set_cons_succ]
              refine takeC (i := 8) (v := undef) (some 73) rfl rfl (by kernel_rfl) (by kernel_rfl) (by kernel_rfl) (fun _ _ _ h => h) (Or.inr ⟨by rfl, rfl⟩) (by assumption) ?_
              try simp only [Act.put, List.setIfInBounds_toArray, List.set_cons_zero, List.set_cons_succ]
              refine takeC (i := 9) (v := undef) (some 74) rfl rfl (by kernel_rfl) (by kernel_rfl) (by kernel_rfl) (fun _ _ _ h => h) (Or.inr ⟨by rfl, rfl⟩) (by assumption) ?_
              try simp only [Act.put, List.setIfInBounds_toArray, List.set_cons_zero, List.set_cons_succ]
              refine takeC (i := 10) (v := undef) (some 75) rfl rfl (by kernel_rfl) (by kernel_rfl) (by kernel_rfl) (fun _ _ _ h => h) (Or.inr ⟨by rfl, rfl⟩) (by assumption) ?_
              try simp only [Act.put, List.setIfInBounds_toArray, List.set_cons_zero, List.set_cons_succ]
              refine takeC (i := 11) (v := undef) (some 76) rfl rfl (by kernel_rfl) (by kernel_rfl) (by kernel_rfl) (fun _ _ _ h => h) (Or.inr ⟨by rfl, rfl⟩) (by assumption) ?_
              try simp only [Act.put, List.setIfInBounds_toArray, List.set_cons_zero, List.set_cons_succ]
              refine takeC (i := 12) (v := undef) (some 77) rfl rfl (by kernel_rfl) (by kernel_rfl) (by kernel_rfl) (fun _ _ _ h => h) (Or.inr ⟨by rfl, rfl⟩) (by assumption) ?_
              try simp only [Act.put, List.setIfInBounds_toArray, List.set_cons_zero, List.set_cons_succ]
              refine takeC (i := 13) (v := undef) (some 78) rfl rfl (by kernel_rfl) (by kernel_rfl) (by kernel_rfl) (fun _ _ _ h => h) (Or.inr ⟨by rfl, rfl⟩) (by assumption) ?_
              try simp only [Act.put, List.setIfInBounds_toArray, List.set_cons_zero, List.set_cons_succ]
              refine takeC (i := 14) (v := undef) (some 79) rfl rfl (by kernel_rfl) (by kernel_rfl) (by kernel_rfl) (fun _ _ _ h => h) (Or.inr ⟨by rfl, rfl⟩) (by assumption) ?_
              try simp only [Act.put, List.setIfInBounds_toArray, List.set_cons_zero, List.set_cons_succ]
              refine takeC (i := 15) (v := .bool true) (some 80) rfl rfl (by kernel_rfl) (by kernel_rfl) (by kernel_rfl) (fun _ _ _ h => h) (Or.inl ⟨by rfl, ?_⟩) (by assumption) ?_
              · intro wz hSw; go_simp
              try simp only [Act.put, List.setIfInBounds_toArray, List.set_cons_zero, List.set_cons_succ]
              refine wpAnyH_done (by kernel_rfl) ?_ _
              obtain ⟨⟨d0, d1, d2, e0, e1, e2⟩, hfin⟩ := HER.out wq HBQ.out
              have HFIN := Lib.hid hfin
              clear hfin
              go_wp2
              obtain ⟨⟨g0, g1, g2⟩, hno, hbe⟩ := HFIN.out
              refine ⟨rfl, .tuple #[.agg #[.slice none 0 0, .slice none 0 0, .int .i64 0], .int .i64 3], by simp [results, Try.f8, go_sem, g0, g1, g2], ?_⟩
              unfold NetPostE
              rw [HS.out]
              exact ⟨_, _, rfl, hno, hbe⟩
            · have hd : decide ((NS.length : Int) < (gs2.length : Int)) = false := by simpa using hlt
              have hge : gs2.length ≤ NS.length := by omega
              have HNE : Hid (NS.length = gs2.length) := by have := HNL.out; show _ = _; omega
              have HSZ1 : Hid (∀ X, Below w6.heap.size w6 X → Calls Try.prog 15 #[.slice ga gs.length gc] X fun e w' => e = .returned (.int .i64 (sizeG gs : Int)) ∧ Below X.heap.size X w') := fun X hX => csize_any _ gs X (HGW.out.below (HB6.out.trans (hX.mono hsz6)) (Nat.le_refl _)) (by have := HZ1.out; omega) (by omega)
              have HSZ2 : Hid (∀ X, Below w6.heap.size w6 X → Calls Try.prog 15 #[.slice ga2 gs2.length gc2] X fun e w' => e = .returned (.int .i64 (sizeG gs2 : Int)) ∧ Below X.heap.size X w') := fun X hX => csize_any _ gs2 X (HGW2.out.below (HB6.out.trans (hX.mono hsz6)) (Nat.le_refl _)) (by have := HZ2.out; omega) (by omega)
              have HXC : Hid (∀ X, Below w6.heap.size w6 X → (X.cell? ⟨w.heap.size, 0, none⟩ = some (.slice pa P.length pc) ∧ X.cell? ⟨w.heap.size, 1, none⟩ = some (.slice ga gs.length gc) ∧ X.cell? ⟨w.heap.size, 2, none⟩ = some (.int .i64 o)) ∧ X.cell? ⟨w.heap.size + 1, 0, none⟩ = some (.slice pa2 P2.length pc2) ∧ X.cell? ⟨w.heap.size + 1, 1, none⟩ = some (.slice ga2 gs2.length gc2) ∧ X.cell? ⟨w.heap.size + 1, 2, none⟩ = some (.int .i64 o2)) := fun X hX => HCL.out X (HB6.out.trans (hX.mono hsz6))
              obtain ⟨z1, hz1⟩ : ∃ z, sizeG gs = z := ⟨_, rfl⟩
              obtain ⟨z2, hz2⟩ : ∃ z, sizeG gs2 = z := ⟨_, rfl⟩
              rw [hz1] at HSZ1 HZ1
              rw [hz2] at HSZ2 HZ2
              have HE1 := Lib.hid hz1
              have HE2 := Lib.hid hz2
              have hzs0 : (0 : Int) ≤ (z1 : Int) + (z2 : Int) := by omega
              have hzs1 : (z1 : Int) + (z2 : Int) < 9223372036854775808 := by have := HZ1.out; have := HZ2.out; omega
              clear hz1 hz2 hlt p0 p1 p2 q0 q1 q2
              go_cut [80] from 65 to 80 (fun s wx => s = .bool (decide ((200000 : Int) < (z1 : Int) + (z2 : Int))) ∧ Below w6.heap.size w6 wx)
              case first =>
                go_wp2_with fail
                have hWd : Below w6.heap.size w6 w6.drew := (Below.refl _ _).drew
                have HWD := Lib.hid hWd
                refine wp_region_held_drew (S := fun X => Below w6.heap.size w6 X) (by kernel_rfl) hWd (fun hSd => ?_)
                clear hWd
                generalize w6.drew = wd at *
                refine takeC (i := 0) (v := .slice na NS.length nc) (some 65) rfl rfl (by kernel_rfl) (by kernel_rfl) (by kernel_rfl) (fun _ _ _ h => h) (Or.inl ⟨by rfl, ?_⟩) (by assumption) ?_
                · intro wz hSw; go_simp
                try simp only [Act.put, List.setIfInBounds_toArray, List.set_cons_zero, List.set_cons_succ]
                refine takeC (i := 1) (v := .int .i64 (NS.length : Int)) (some 66) rfl rfl (by kernel_rfl) (by kernel_rfl) (by kernel_rfl) (fun _ _ _ h => h) (Or.inl ⟨by rfl, ?_⟩) (by assumption) ?_
                · intro wz hSw; go_simp
                try simp only [Act.put, List.setIfInBounds_toArray, List.set_cons_zero, List.set_cons_succ]
                refine takeC (i := 2) (v := .pointer (some ⟨w.heap.size + 1, 1, none⟩)) (some 67) rfl rfl (by kernel_rfl) (by kernel_rfl) (by kernel_rfl) (fun _ _ _ h => h) (Or.inl ⟨by rfl, ?_⟩) (by assumption) ?_
                · intro wz hSw; go_simp
                try simp only [Act.put, List.setIfInBounds_toArray, List.set_cons_zero, List.set_cons_succ]
                refine takeC (i := 3) (v := .slice ga2 gs2.length gc2) (some 68) rfl rfl (by kernel_rfl) (by kernel_rfl) (by kernel_rfl) (fun _ _ _ h => h) (Or.inl ⟨by rfl, ?_⟩) (by assumption) ?_
                · intro wz hSw; obtain ⟨⟨t0, t1, t2⟩, y0, y1, y2⟩ := HXC.out wz hSw; go_simp
                try simp only [Act.put, List.setIfInBounds_toArray, List.set_cons_zero, List.set_cons_succ]
                refine takeC (i := 4) (v := .int .i64 (gs2.length : Int)) (some 69) rfl rfl (by kernel_rfl) (by kernel_rfl) (by kernel_rfl) (fun _ _ _ h => h) (Or.inl ⟨by rfl, ?_⟩) (by assumption) ?_
                · intro wz hSw; go_simp
                try simp only [Act.put, List.setIfInBounds_toArray, List.set_cons_zero, List.set_cons_succ]
                refine takeC (i := 5) (v := .bool false) (some 70) rfl rfl (by kernel_rfl) (by kernel_rfl) (by kernel_rfl) (fun _ _ _ h => h) (Or.inl ⟨by rfl, ?_⟩) (by assumption) ?_
                · intro wz hSw; go_simp
                try simp only [Act.put, List.setIfInBounds_toArray, List.set_cons_zero, List.set_cons_succ]
                refine takeC (i := 6) (v := .bool false) (some 71) rfl rfl (by kernel_rfl) (by kernel_rfl) (by kernel_rfl) (fun _ _ _ h => h) (Or.inl ⟨by rfl, ?_⟩) (by assumption) ?_
                · intro wz hSw; go_simp
                try simp only [Act.put, List.setIfInBounds_toArray, List.set_cons_zero, List.set_cons_succ]
                refine takeC (i := 7) (v := .pointer (some ⟨w.heap.size, 1, none⟩)) (some 72) rfl rfl (by kernel_rfl) (by kernel_rfl) (by kernel_rfl) (fun _ _ _ h => h) (Or.inl ⟨by rfl, ?_⟩) (by assumption) ?_
                · intro wz hSw; go_simp
                try simp only [Act.put, List.setIfInBounds_toArray, List.set_cons_zero, List.set_cons_succ]
                refine takeC (i := 8) (v := .slice ga gs.length gc) (some 73) rfl rfl (by kernel_rfl) (by kernel_rfl) (by kernel_rfl) (fun _ _ _ h => h) (Or.inl ⟨by rfl, ?_⟩) (by assumption) ?_
                · intro wz hSw; obtain ⟨⟨t0, t1, t2⟩, y0, y1, y2⟩ := HXC.out wz hSw; go_simp
                try simp only [Act.put, List.setIfInBounds_toArray, List.set_cons_zero, List.set_cons_succ]
                refine takeC (i := 10) (v := .pointer (some ⟨w.heap.size + 1, 1, none⟩)) (some 75) rfl rfl (by kernel_rfl) (by kernel_rfl) (by kernel_rfl) (fun _ _ _ h => h) (Or.inl ⟨by rfl, ?_⟩) (by assumption) ?_
                · intro wz hSw; go_simp
                try simp only [Act.put, List.setIfInBounds_toArray, List.set_cons_zero, List.set_cons_succ]
                refine takeC (i := 11) (v := .slice ga2 gs2.length gc2) (some 76) rfl rfl (by kernel_rfl) (by kernel_rfl) (by kernel_rfl) (fun _ _ _ h => h) (Or.inl ⟨by rfl, ?_⟩) (by assumption) ?_
                · intro wz hSw; obtain ⟨⟨t0, t1, t2⟩, y0, y1, y2⟩ := HXC.out wz hSw; go_simp
                try simp only [Act.put, List.setIfInBounds_toArray, List.set_cons_zero, List.set_cons_succ]
                refine wpAnyH_ready (rs := [9]) (by kernel_rfl) (by simp) ?_
                refine AllReadyH.cons rfl (fun K hK => ?_) AllReadyH.nil
                go_simp
                go_wp2_with (go_at_call 15; go_loud (refine (HSZ1.out wd HWD.out).mono ?_; rintro e w7 ⟨rfl, hb7⟩; have HB7 := Lib.hid (HWD.out.trans (hb7.mono HWD.out.size)); clear hb7))
                refine hK.out _ _ HB7.out (fun hH7 => ?_)
                clear hK K
                try simp only [Act.put, List.setIfInBounds_toArray, List.set_cons_zero, List.set_cons_succ]
                refine wpAnyH_ready (rs := [12]) (by kernel_rfl) (by simp) ?_
                refine AllReadyH.cons rfl (fun K hK => ?_) AllReadyH.nil
                go_simp
                go_wp2_with (go_at_call 15; go_loud (refine (HSZ2.out w7 HB7.out).mono ?_; rintro e w8 ⟨rfl, hb8⟩; have HB8 := Lib.hid (HB7.out.trans (hb8.mono HB7.out.size)); clear hb8))
                refine hK.out _ _ HB8.out (fun hH8 => ?_)
                clear hK K
                try simp only [Act.put, List.setIfInBounds_toArray, List.set_cons_zero, List.set_cons_succ]
                have hwr : IntKind.i64.wrap ((z1 : Int) + (z2 : Int)) = (z1 : Int) + (z2 : Int) := wrap_sum HZ1.out HZ2.out
                refine takeC (i := 13) (v := .int .i64 ((z1 : Int) + (z2 : Int))) (some 78) rfl rfl (by kernel_rfl) (by kernel_rfl) (by kernel_rfl) (fun _ _ _ h => h) (Or.inl ⟨by rfl, ?_⟩) (by assumption) ?_
                · intro wz hSw; go_simp
                try simp only [Act.put, List.setIfInBounds_toArray, List.set_cons_zero, List.set_cons_succ]
                clear hwr
                refine takeC (i := 14) (v := .bool (decide ((200000 : Int) < (z1 : Int) + (z2 : Int)))) (some 79) rfl rfl (by kernel_rfl) (by kernel_rfl) (by kernel_rfl) (fun _ _ _ h => h) (Or.inl ⟨by rfl, ?_⟩) (by assumption) ?_
                · intro wz hSw; go_simp
                try simp only [Act.put, List.setIfInBounds_toArray, List.set_cons_zero, List.set_cons_succ]
                refine takeC (i := 15) (v := .bool (decide ((200000 : Int) < (z1 : Int) + (z2 : Int)))) (some 80) rfl rfl (by kernel_rfl) (by kernel_rfl) (by kernel_rfl) (fun _ _ _ h => h) (Or.inl ⟨by rfl, ?_⟩) (by assumption) ?_
                · intro wz hSw; go_simp
                try simp only [Act.put, List.setIfInBounds_toArray, List.set_cons_zero, List.set_cons_succ]
                refine wpAnyH_done (by kernel_rfl) ?_ _
                go_wp2
                go_meet
                exact ⟨rfl, HB8.out⟩
              case rest =>
                obtain ⟨rfl, hbc⟩ := hcut
                have HBC := Lib.hid hbc
                have HBC0 : Hid (Below W0.heap.size W0 wc) := HB6.out.trans (HBC.out.mono hsz6)
                have hszc := hbc.size
                clear hbc
                by_cases hbig : 200000 < z1 + z2
                · have hd2 : decide ((200000 : Int) < (z1 : Int) + (z2 : Int)) = true := by simp; omega
                  rw [hd2]
                  have HS : Hid (composeN P gs o v P2 gs2 o2 = (noNet, 3)) := by
                    show _ = _
                    unfold composeN
                    rw [if_pos HOK.out, if_pos HVP.out, if_pos HAL2.out, if_neg (fun h => by have h8 := h.2; rw [HE1.out, HE2.out] at h8; omega)]
                  clear hbig hd2
                  obtain ⟨⟨d0, d1, d2, e0, e1, e2⟩, hfin⟩ := HER.out wc HBC0.out
                  have HFIN := Lib.hid hfin
                  clear hfin
                  go_wp2
                  obtain ⟨⟨g0, g1, g2⟩, hno, hbe⟩ := HFIN.out
                  refine ⟨rfl, .tuple #[.agg #[.slice none 0 0, .slice none 0 0, .int .i64 0], .int .i64 3], by simp [results, Try.f8, go_sem, g0, g1, g2], ?_⟩
                  unfold NetPostE
                  rw [HS.out]
                  exact ⟨_, _, rfl, hno, hbe⟩
                · have hd2 : decide ((200000 : Int) < (z1 : Int) + (z2 : Int)) = false := by simp; omega
                  rw [hd2]
                  have HZZ : Hid (z1 + z2 ≤ 200000) := by show _ ≤ _; omega
                  have HS : Hid (composeN P gs o v P2 gs2 o2 = ((withoutP P (updM (fun _ => none) v (imageF (ownM gs2 NS) o2)), renG (ownM gs2 NS) gs2 ++ renG (updM (fun _ => none) v (imageF (ownM gs2 NS) o2)) gs, imageF (updM (fun _ => none) v (imageF (ownM gs2 NS) o2)) o), 0)) := by
                    show _ = _
                    unfold composeN
                    rw [if_pos HOK.out, if_pos HVP.out, if_pos HAL2.out, if_pos ⟨by rw [HUN2.out]; exact hge, by rw [HE1.out, HE2.out]; omega⟩, HUN2.out]
                  clear hbig hd2
                  have hmm := @run_makeMap Try.prog
                  go_upto_region 18 with fail
                  have hM0 := MapM.made wc
                  have hBm : Below w6.heap.size w6 (wc.alloc (.map #[] 0)) := HBC.out.alloc hszc _
                  have hBm0 : Below W0.heap.size W0 (wc.alloc (.map #[] 0)) := HBC0.out.alloc (by omega) _
                  have hszm : w6.heap.size < (wc.alloc (.map #[] 0)).heap.size := by simp; omega
                  obtain ⟨bm, hbm⟩ : ∃ bm, wc.heap.size = bm := ⟨_, rfl⟩
                  rw [hbm] at hM0 ⊢
                  have HBMS : Hid (w6.heap.size ≤ bm) := by show _ ≤ _; omega
                  have HMM := Lib.hid hM0
                  have HBM := Lib.hid hBm
                  have HBM0 := Lib.hid hBm0
                  clear hM0 hBm hBm0
                  generalize wc.alloc (.map #[] 0) = wm at *
                  obtain ⟨⟨p0, p1, p2⟩, q0, q1, q2⟩ := HCL.out wm HBM0.out
                  clear hbm
                  have HXM : Hid (IsInts w6 (.slice na NS.length nc) NS) := HO6.out.ints (by have := HNE.out; omega) (fun y hy => by have := HNB.out y hy; omega)
                  have hbmw : w.heap.size + 3 ≤ bm := by have := HBMS.out; omega
                  go_wp2_with fail
                  go_loopw [86] (fun i wr => ∃ k : Nat, k ≤ gs2.length ∧ i = .int .i64 k ∧ MapM wr bm k (ownT gs2 NS k) ∧ Below w6.heap.size w6 wr ∧ wm.heap.size ≤ wr.heap.size) (fun i _ => gs2.length - (intOf i).toNat)
                  case atStart => exact ⟨0, Nat.zero_le _, rfl, HMM.out, HBM.out, Nat.le_refl _⟩
                  case round =>
                    obtain ⟨k, hk, rfl, hmr, hbel, hszw⟩ := hrel
                    have HMR := Lib.hid hmr
                    have HB := Lib.hid hbel
                    have hbmr := hmr.lt
                    have hszr : w6.heap.size ≤ wr.heap.size := hbel.size
                    have HT : Hid (Below W0.heap.size W0 wr) := HB6.out.trans (hbel.mono hsz6)
                    clear hbel hmr p0 p1 p2 q0 q1 q2
                    by_cases hlt : k < gs2.length
                    · obtain ⟨pb, off, u, rfl, hb, hcx0, hck0, hcu0, HU0, hrg⟩ := HGW2.out.at hlt
                      obtain ⟨ua, uc, rfl⟩ := HU0.shape
                      clear HU0
                      obtain ⟨nb, noff, rfl, hnb, hcn⟩ := HXM.out.cellY (k := k) (by have := HNE.out; omega)
                      have hcx := (HT.out.cell (p := ⟨pb, off + k * 3, none⟩) hb).trans hcx0
                      have hck := (HT.out.cell (p := ⟨pb, off + k * 3 + 1, none⟩) hb).trans hck0
                      have hcu := (HT.out.cell (p := ⟨pb, off + k * 3 + 2, none⟩) hb).trans hcu0
                      have HST := Lib.hid (ownT_succ (gs := gs2) (ns := NS) hlt (by have := HNE.out; omega))
                      have HNR := Lib.hid (HNB.out (NS.getD k 0) (by have := HNE.out; simp [List.getD, show k < NS.length by omega]))
                      have HKL := Lib.hid hlt
                      have hk0 : (0 : Int) ≤ (k : Int) := by omega
                      have hk1 : (k : Int) < (gs2.length : Int) := by omega
                      have hk2 : (k : Int) < 4000001 := by omega
                      have hk3 : (k : Int) < (NS.length : Int) := by have := HNE.out; omega
                      clear hcx0 hck0 hcu0 hlt
                      generalize gs2.getD k dG = y at *
                      obtain ⟨y1, y2, y3⟩ := y
                      simp only at hcx hck hcu hrg HST
                      have hx1 := hrg.1.1
                      have hx2 := hrg.1.2
                      generalize NS.getD k 0 = z at *
                      have HCN : Hid (∀ X, Below w6.heap.size w6 X → X.cell? ⟨nb, noff + k, none⟩ = some (.int .i64 z)) := fun X hX => (hX.cell (p := ⟨nb, noff + k, none⟩) hnb).trans hcn
                      clear hcn
                      have ha1 : Below wr.heap.size wr (wr.alloc (.cells #[.int .i64 y1, .int .u8 y2, .slice ua y3.length uc] 34)) := (Below.refl _ _).alloc (Nat.le_refl _) _
                      have HA1 := Lib.hid ha1
                      have a0 : (wr.alloc (.cells #[.int .i64 y1, .int .u8 y2, .slice ua y3.length uc] 34)).cell? ⟨wr.heap.size, 0, none⟩ = some (.int .i64 y1) := cell_fresh rfl
                      have hsw : (wr.alloc (.cells #[.int .i64 y1, .int .u8 y2, .slice ua y3.length uc] 34)).heap.size > wr.heap.size := by simp
                      clear ha1
                      go_upto_region 21 with fail
                      clear hcx hck hcu
                      generalize wr.alloc (.cells #[.int .i64 y1, .int .u8 y2, .slice ua y3.length uc] 34) = wa at *
                      have HT6 : Hid (Below w6.heap.size w6 wa) := HB.out.trans (HA1.out.mono hszr)
                      have HMA : Hid (MapM wa bm k (ownT gs2 NS k)) := HMR.out.below HA1.out (Nat.le_refl _)
                      obtain ⟨gb, hgb⟩ : ∃ gb, wr.heap.size = gb := ⟨_, rfl⟩
                      rw [hgb] at hsw a0 hbmr hszr hszw ⊢
                      clear hgb
                      have HXG : Hid (∀ X : World, X.heap[gb]? = wa.heap[gb]? → X.cell? ⟨gb, 0, none⟩ = some (.int .i64 y1)) := fun X hX => (World.cell?_of_block (w := wa) (a := ⟨gb, 0, none⟩) hX).trans a0
                      clear a0
                      go_wp2_with fail
                      have hWd : Below wa.heap.size wa wa.drew := (Below.refl _ _).drew
                      have HWD := Lib.hid hWd
                      refine wp_region_held_drew (S := fun X => X.heap[gb]? = wa.heap[gb]? ∧ Below w6.heap.size w6 X) (by kernel_rfl) ⟨HWD.out.block gb hsw, HT6.out.trans (HWD.out.mono HT6.out.size)⟩ (fun hSd => ?_)
                      clear hWd
                      have HSD := Lib.hid hSd
                      generalize wa.drew = wd at *
                      refine takeC (i := 0) (v := .map (some bm)) (some 91) rfl rfl (by kernel_rfl) (by kernel_rfl) (by kernel_rfl) (fun _ _ _ h => h) (Or.inl ⟨by rfl, ?_⟩) (by assumption) ?_
                      · intro wz hSw; go_simp
                      try simp only [Act.put, List.setIfInBounds_toArray, List.set_cons_zero, List.set_cons_succ]
                      refine takeC (i := 1) (v := .pointer (some ⟨gb, 0, none⟩)) (some 92) rfl rfl (by kernel_rfl) (by kernel_rfl) (by kernel_rfl) (fun _ _ _ h => h) (Or.inl ⟨by rfl, ?_⟩) (by assumption) ?_
                      · intro wz hSw; go_simp
                      try simp only [Act.put, List.setIfInBounds_toArray, List.set_cons_zero, List.set_cons_succ]
                      refine takeC (i := 2) (v := .int .i64 y1) (some 93) rfl rfl (by kernel_rfl) (by kernel_rfl) (by kernel_rfl) (fun _ _ _ h => h) (Or.inl ⟨by rfl, ?_⟩) (by assumption) ?_
                      · intro wz hSw; have t0 := HXG.out wz hSw.1; go_simp
                      try simp only [Act.put, List.setIfInBounds_toArray, List.set_cons_zero, List.set_cons_succ]
                      refine takeC (i := 3) (v := .slice (some ⟨nb, noff, none⟩) NS.length nc) (some 94) rfl rfl (by kernel_rfl) (by kernel_rfl) (by kernel_rfl) (fun _ _ _ h => h) (Or.inl ⟨by rfl, ?_⟩) (by assumption) ?_
                      · intro wz hSw; go_simp
                      try simp only [Act.put, List.setIfInBounds_toArray, List.set_cons_zero, List.set_cons_succ]
                      refine takeC (i := 4) (v := .int .i64 (k : Int)) (some 95) rfl rfl (by kernel_rfl) (by kernel_rfl) (by kernel_rfl) (fun _ _ _ h => h) (Or.inl ⟨by rfl, ?_⟩) (by assumption) ?_
                      · intro wz hSw; go_simp
                      try simp only [Act.put, List.setIfInBounds_toArray, List.set_cons_zero, List.set_cons_succ]
                      refine takeC (i := 5) (v := .pointer (some ⟨nb, noff + k, none⟩)) (some 96) rfl rfl (by kernel_rfl) (by kernel_rfl) (by kernel_rfl) (fun _ _ _ h => h) (Or.inl ⟨by rfl, ?_⟩) (by assumption) ?_
                      · intro wz hSw; go_simp
                      try simp only [Act.put, List.setIfInBounds_toArray, List.set_cons_zero, List.set_cons_succ]
                      refine takeC (i := 6) (v := .int .i64 z) (some 97) rfl rfl (by kernel_rfl) (by kernel_rfl) (by kernel_rfl) (fun _ _ _ h => h) (Or.inl ⟨by rfl, ?_⟩) (by assumption) ?_
                      · intro wz hSw; have t0 := HCN.out wz hSw.2; go_simp
                      try simp only [Act.put, List.setIfInBounds_toArray, List.set_cons_zero, List.set_cons_succ]
                      refine wpAnyH_ready (rs := [7]) (by kernel_rfl) (by simp) ?_
                      refine AllReadyH.cons rfl (fun K hK => ?_) AllReadyH.nil
                      refine step_putM rfl (.tmp 91) (.tmp 93) (.tmp 97) rfl rfl (HMA.out.below HWD.out (Nat.le_refl _)) (by unfold maxLen; omega) y1 z rfl rfl (i64w hx1 hx2) (by have := HNR.out; exact i64w (by omega) (by omega)) ?_
                      intro w9 hm9 hk9
                      have HM9 := Lib.hid hm9
                      have hs9 := hk9.size
                      have hswd : wa.heap.size ≤ wd.heap.size := HWD.out.size
                      have HB9 : Hid (Below w6.heap.size w6 w9) := HSD.out.2.trans (hk9.below HSD.out.2.size (fun i hi e => by have := HBMS.out; omega))
                      have hgb9 : w9.heap[gb]? = wa.heap[gb]? := (hk9.block gb (by omega) (by omega)).trans HSD.out.1
                      refine hK.out _ _ ⟨hgb9, HB9.out⟩ (fun hH9 => ?_)
                      clear hK K hgb9 hm9 hk9
                      try simp only [Act.put, List.setIfInBounds_toArray, List.set_cons_zero, List.set_cons_succ]
                      refine wpAnyH_done (by kernel_rfl) ?_ _
                      go_wp2
                      go_roundw
                      case rel => exact ⟨k + 1, HKL.out, by go_num, by rw [HST.out]; exact HM9.out, HB9.out, by omega⟩
                      case measure => have := HKL.out; simp [intOf]; omega
                    · obtain rfl : k = gs2.length := by omega
                      have HMR2 : Hid (MapM wr bm gs2.length (ownM gs2 NS)) := by show MapM _ _ _ _; rw [← ownT_all HNE.out]; exact HMR.out
                      have HOB : Hid (mBd 65537 (ownM gs2 NS)) := ownM_bd (fun y hy => by have := HNB.out y hy; unfold bdI; omega)
                      clear HMR HMM
                      generalize ownM gs2 NS = F at *
                      have hQB : bdI 65537 (imageF F o2) := HOB.out.image HMP2.out.2.2
                      have HQB := Lib.hid hQB
                      have hms := MapM.made wr
                      have hbs : Below wr.heap.size wr (wr.alloc (.map #[] 0)) := (Below.refl _ _).alloc (Nat.le_refl _) _
                      have HBS := Lib.hid hbs
                      have HMS := Lib.hid hms
                      have HIM : Hid (Calls Try.prog 23 #[.int .i64 o2, .map (some bm)] (wr.alloc (.map #[] 0)) fun e w' => e = .returned (.int .i64 (imageF F o2)) ∧ wr.alloc (.map #[] 0) = w') := cimage_any bm gs2.length F o2 _ (HMR2.out.below hbs (Nat.le_refl _)) (HOB.out.fBd (by omega)) hq1 hq2
                      obtain ⟨⟨p0, p1, p2⟩, q0, q1, q2⟩ := HCL.out (wr.alloc (.map #[] 0)) (HT.out.alloc (by omega) _)
                      clear hbs hms hQB
                      generalize imageF F o2 = q at *
                      go_upto_region 24 with (first
                        | (go_at_call 23; go_loud (refine HIM.out.mono ?_; rintro e wi ⟨rfl, rfl⟩))
                        | (refine wpList_insM rfl _ _ _ rfl rfl HMS.out (by unfold maxLen; omega) v q rfl rfl (i64w hv1 hv2) (by have := HQB.out; unfold bdI at this; exact i64w (by omega) (by omega)) ?_; intro wi hmi hki; have HMI := Lib.hid hmi; have HKI := Lib.hid hki; clear hmi hki))
                      have HBS2 : Hid (Below wr.heap.size wr wi) := HBS.out.trans (HKI.out.below HBS.out.size (fun i hi e => by omega))
                      have HM2 : Hid (MapM wi bm gs2.length F) := HMR2.out.below HBS2.out (Nat.le_refl _)
                      have hbsl : wr.heap.size < wi.heap.size := HMI.out.lt
                      have HWI : Hid (Below W0.heap.size W0 wi) := HT.out.trans (HBS2.out.mono (by omega))
                      have HXC : Hid (∀ X, Below wi.heap.size wi X → (X.cell? ⟨w.heap.size, 0, none⟩ = some (.slice pa P.length pc) ∧ X.cell? ⟨w.heap.size, 1, none⟩ = some (.slice ga gs.length gc) ∧ X.cell? ⟨w.heap.size, 2, none⟩ = some (.int .i64 o)) ∧ X.cell? ⟨w.heap.size + 1, 0, none⟩ = some (.slice pa2 P2.length pc2) ∧ X.cell? ⟨w.heap.size + 1, 1, none⟩ = some (.slice ga2 gs2.length gc2) ∧ X.cell? ⟨w.heap.size + 1, 2, none⟩ = some (.int .i64 o2)) := fun X hX => HCL.out X (HWI.out.trans (hX.mono HWI.out.size))
                      obtain ⟨bs, hbse⟩ : ∃ bs, wr.heap.size = bs := ⟨_, rfl⟩
                      rw [hbse] at HMI hbsl ⊢
                      have hszi : w.heap.size + 3 < wi.heap.size := by omega
                      have HSI := Lib.hid hszi
                      have HWW : Hid (Below w.heap.size w wi) := HB0.out.trans (HWI.out.mono (by omega))
                      clear hbse p0 p1 p2 q0 q1 q2 HKI HMS HBS
                      have HFB : Hid (mBd 65537 (updM (fun _ => none) v q)) := (emptyM_bd 65537).upd HQB.out
                      generalize updM (fun _ => none) v q = f at *
                      have HRA : Hid (∀ X, Below wi.heap.size wi X → Calls Try.prog 25 #[.slice ga2 gs2.length gc2, .map (some bm)] X fun e w' => ∃ v t, e = .returned v ∧ RowG w w' X.heap.size v t ∧ shapeG t = renG F gs2 ∧ Below X.heap.size X w') := fun X hX =>
                        crenamed_any w bm gs2.length F _ gs2 X (HM2.out.below hX (Nat.le_refl _)) (HOB.out.fBd (by omega)) (HGW2.out.below (HWI.out.trans (hX.mono HWI.out.size)) (Nat.le_refl _)) (by omega) (HWW.out.trans (hX.mono HWW.out.size))
                      have HRB : Hid (∀ X, Below wi.heap.size wi X → Calls Try.prog 25 #[.slice ga gs.length gc, .map (some bs)] X fun e w' => ∃ v t, e = .returned v ∧ RowG w w' X.heap.size v t ∧ shapeG t = renG f gs ∧ Below X.heap.size X w') := fun X hX =>
                        crenamed_any w bs 1 f _ gs X (HMI.out.below hX (Nat.le_refl _)) (HFB.out.fBd (by omega)) (HGW.out.below (HWI.out.trans (hX.mono HWI.out.size)) (Nat.le_refl _)) (by omega) (HWW.out.trans (hX.mono HWW.out.size))
                      go_wp2_with fail
                      have hWd : Below wi.heap.size wi wi.drew := (Below.refl _ _).drew
                      have HWD := Lib.hid hWd
                      refine wp_region_held_drew (S := fun X => Below wi.heap.size wi X) (by kernel_rfl) hWd (fun hSd => ?_)
                      clear hWd
                      generalize wi.drew = wd at *
                      refine takeC (i := 0) (v := .pointer (some ⟨w.heap.size + 1, 1, none⟩)) (some 106) rfl rfl (by kernel_rfl) (by kernel_rfl) (by kernel_rfl) (fun _ _ _ h => h) (Or.inl ⟨by rfl, ?_⟩) (by assumption) ?_
                      · intro wz hSw; go_simp
                      try simp only [Act.put, List.setIfInBounds_toArray, List.set_cons_zero, List.set_cons_succ]
                      refine takeC (i := 1) (v := .slice ga2 gs2.length gc2) (some 107) rfl rfl (by kernel_rfl) (by kernel_rfl) (by kernel_rfl) (fun _ _ _ h => h) (Or.inl ⟨by rfl, ?_⟩) (by assumption) ?_
                      · intro wz hSw; obtain ⟨⟨t0, t1, t2⟩, y0, y1, y2⟩ := HXC.out wz hSw; go_simp
                      try simp only [Act.put, List.setIfInBounds_toArray, List.set_cons_zero, List.set_cons_succ]
                      refine takeC (i := 2) (v := .map (some bm)) (some 108) rfl rfl (by kernel_rfl) (by kernel_rfl) (by kernel_rfl) (fun _ _ _ h => h) (Or.inl ⟨by rfl, ?_⟩) (by assumption) ?_
                      · intro wz hSw; go_simp
                      try simp only [Act.put, List.setIfInBounds_toArray, List.set_cons_zero, List.set_cons_succ]
                      refine takeC (i := 4) (v := .pointer (some ⟨w.heap.size, 1, none⟩)) (some 110) rfl rfl (by kernel_rfl) (by kernel_rfl) (by kernel_rfl) (fun _ _ _ h => h) (Or.inl ⟨by rfl, ?_⟩) (by assumption) ?_
                      · intro wz hSw; go_simp
                      try simp only [Act.put, List.setIfInBounds_toArray, List.set_cons_zero, List.set_cons_succ]
                      refine takeC (i := 5) (v := .slice ga gs.length gc) (some 111) rfl rfl (by kernel_rfl) (by kernel_rfl) (by kernel_rfl) (fun _ _ _ h => h) (Or.inl ⟨by rfl, ?_⟩) (by assumption) ?_
                      · intro wz hSw; obtain ⟨⟨t0, t1, t2⟩, y0, y1, y2⟩ := HXC.out wz hSw; go_simp
                      try simp only [Act.put, List.setIfInBounds_toArray, List.set_cons_zero, List.set_cons_succ]
                      refine takeC (i := 6) (v := .map (some bs)) (some 112) rfl rfl (by kernel_rfl) (by kernel_rfl) (by kernel_rfl) (fun _ _ _ h => h) (Or.inl ⟨by rfl, ?_⟩) (by assumption) ?_
                      · intro wz hSw; go_simp
                      try simp only [Act.put, List.setIfInBounds_toArray, List.set_cons_zero, List.set_cons_succ]
                      refine wpAnyH_ready (rs := [3]) (by kernel_rfl) (by simp) ?_
                      refine AllReadyH.cons rfl (fun K hK => ?_) AllReadyH.nil
                      go_simp
                      go_wp2_with (go_at_call 25; go_loud (refine (HRA.out wd HWD.out).mono ?_; rintro e w7 ⟨v7, t7, rfl, hr7, hs7, hb7⟩; have HR7 := Lib.hid hr7; have HS7 := Lib.hid hs7; obtain ⟨a7, c7, rfl⟩ := hr7.shape; have HB7 := Lib.hid (HWD.out.trans (hb7.mono HWD.out.size)); clear hb7 hr7 hs7))
                      refine hK.out _ _ HB7.out (fun hH7 => ?_)
                      clear hK K
                      try simp only [Act.put, List.setIfInBounds_toArray, List.set_cons_zero, List.set_cons_succ]
                      refine wpAnyH_ready (rs := [7]) (by kernel_rfl) (by simp) ?_
                      refine AllReadyH.cons rfl (fun K hK => ?_) AllReadyH.nil
                      go_simp
                      go_wp2_with (go_at_call 25; go_loud (refine (HRB.out w7 HB7.out).mono ?_; rintro e w8 ⟨v8, t8, rfl, hr8, hs8, hb8⟩; have HR8 := Lib.hid hr8; have HS8 := Lib.hid hs8; obtain ⟨a8, c8, rfl⟩ := hr8.shape; have HB78 := Lib.hid hb8; have HB8 := Lib.hid (HB7.out.trans (hb8.mono HB7.out.size)); clear hb8 hr8 hs8))
                      refine hK.out _ _ HB8.out (fun hH8 => ?_)
                      clear hK K
                      try simp only [Act.put, List.setIfInBounds_toArray, List.set_cons_zero, List.set_cons_succ]
                      have HR7a : Hid (RowG w w8 wi.heap.size (.slice a7 t7.length c7) t7) := (HR7.out.below' HB78.out (Nat.le_refl _)).mono HWD.out.size (by omega)
                      have HR8a : Hid (RowG w w8 wi.heap.size (.slice a8 t8.length c8) t8) := HR8.out.mono HB7.out.size (by omega)
                      clear HR7 HR8
                      refine wpAnyH_ready (rs := [8]) (by kernel_rfl) (by simp) ?_
                      refine AllReadyH.cons rfl (fun K hK => ?_) AllReadyH.nil
                      refine step_build2 (some 114) rfl rfl 109 113 rfl a7 a8 t7.length c7 t8.length c8 rfl rfl ?_
                      intro w9 hw9
                      have hb9 : Below w8.heap.size w8 w9 := by rw [hw9]; exact (Below.refl _ _).alloc (Nat.le_refl _) _
                      have HL1 : Hid (t7.length = gs2.length) := by have h1 := congrArg List.length HS7.out; rw [shapeG_len] at h1; unfold renG at h1; rwa [List.length_map] at h1
                      have HL2 : Hid (t8.length = gs.length) := by have h1 := congrArg List.length HS8.out; rw [shapeG_len] at h1; unfold renG at h1; rwa [List.length_map] at h1
                      have HB9 := Lib.hid (HB8.out.trans (hb9.mono HB8.out.size))
                      have HB9a := Lib.hid hb9
                      have HCC : Hid (Calls Try.prog 24 #[.slice (some ⟨w8.heap.size, 0, none⟩) 2 2] w9 fun e w' => ∃ v, e = .returned v ∧ RowG w w' wi.heap.size v (t7 ++ t8) ∧ Below w9.heap.size w9 w') := by
                        have h1 := concG_any w wi.heap.size w8.heap.size 2 [.slice a7 t7.length c7, .slice a8 t8.length c8] [t7, t8] w9 (by rw [hw9]; simp) (fun j hj => by
                          match j, hj with
                          | 0, _ => rw [hw9]; exact cell_fresh rfl
                          | 1, _ => rw [hw9]; exact cell_fresh rfl
                          | j + 2, hj => simp at hj; omega) (fun j hj => by
                          match j, hj with
                          | 0, _ => exact HR7a.out.below' HB9a.out (Nat.le_refl _)
                          | 1, _ => exact HR8a.out.below' HB9a.out (Nat.le_refl _)
                          | j + 2, hj => simp at hj; omega) HB9.out.size (by omega) (HWW.out.trans (HB9.out.mono HWW.out.size)) (by unfold totG; simp; have h1 := HL1.out; have h2 := HL2.out; omega) (by simp)
                        exact Lib.hid (by simpa using h1)
                      refine hK.out _ _ HB9.out (fun hH9 => ?_)
                      clear hK K hw9 hb9
                      try simp only [Act.put, List.setIfInBounds_toArray, List.set_cons_zero, List.set_cons_succ]
                      generalize w8.heap.size = b8 at *
                      refine wpAnyH_ready (rs := [9]) (by kernel_rfl) (by simp) ?_
                      refine AllReadyH.cons rfl (fun K hK => ?_) AllReadyH.nil
                      go_simp
                      go_wp2_with (go_at_call 24; go_loud (refine HCC.out.mono ?_; rintro e w10 ⟨v10, rfl, hr10, hb10⟩; have HR10 := Lib.hid hr10; obtain ⟨a10, c10, rfl⟩ := hr10.shape; have HB10 := Lib.hid (HB9.out.trans (hb10.mono HB9.out.size)); clear hb10 hr10))
                      refine hK.out _ _ HB10.out (fun hH10 => ?_)
                      clear hK K
                      try simp only [Act.put, List.setIfInBounds_toArray, List.set_cons_zero, List.set_cons_succ]
                      refine takeC (i := 10) (v := .slice a10 (t7 ++ t8).length c10) (some 19) rfl rfl (by kernel_rfl) (by kernel_rfl) (by kernel_rfl) (fun _ _ _ h => h) (Or.inl ⟨by rfl, ?_⟩) (by assumption) ?_
                      · intro wz hSw; go_simp
                      try simp only [Act.put, List.setIfInBounds_toArray, List.set_cons_zero, List.set_cons_succ]
                      refine wpAnyH_done (by kernel_rfl) ?_ _
                      have HTS : Hid (shapeG (t7 ++ t8) = renG F gs2 ++ renG f gs) := by show _ = _; rw [shapeG_app, HS7.out, HS8.out]
                      have HTL : Hid ((t7 ++ t8).length ≤ 1000000) := by show _ ≤ _; have h1 := HL1.out; have h2 := HL2.out; rw [List.length_append]; omega
                      clear HS7 HS8 HL1 HL2 HCC HR7a HR8a HB9 HB9a HB78 HB7 HB8
                      generalize t7 ++ t8 = tt at *
                      obtain ⟨n10, hn10⟩ : ∃ n, tt.length = n := ⟨_, rfl⟩
                      rw [hn10] at HR10 ⊢
                      clear hn10
                      have HWX : Hid (Below w.heap.size w w10) := HWW.out.trans (HB10.out.mono HWW.out.size)
                      have hx10 : w.heap.size < w10.heap.size := by have := HB10.out.size; omega
                      have HX10 := HXC.out w10 HB10.out
                      have HXB : Hid (∀ X : World, X.heap[w.heap.size]? = w10.heap[w.heap.size]? → X.cell? ⟨w.heap.size, 0, none⟩ = some (.slice pa P.length pc) ∧ X.cell? ⟨w.heap.size, 1, none⟩ = some (.slice ga gs.length gc) ∧ X.cell? ⟨w.heap.size, 2, none⟩ = some (.int .i64 o)) := fun X hX =>
                        ⟨(World.cell?_of_block (w := w10) (a := ⟨w.heap.size, 0, none⟩) hX).trans HX10.1.1, (World.cell?_of_block (w := w10) (a := ⟨w.heap.size, 1, none⟩) hX).trans HX10.1.2.1, (World.cell?_of_block (w := w10) (a := ⟨w.heap.size, 2, none⟩) hX).trans HX10.1.2.2⟩
                      clear HX10
                      have HWO : Hid (∀ X, Below wi.heap.size wi X → Calls Try.prog 26 #[.slice pa P.length pc, .map (some bs)] X fun e w' => ∃ v t, e = .returned v ∧ JoinSt w' X.heap.size v t ∧ shapeT t = withoutP P f ∧ Below X.heap.size X w') := fun X hX =>
                        cwithout_any bs 1 f _ P X (HMI.out.below hX (Nat.le_refl _)) (HPW.out.below (HWI.out.trans (hX.mono HWI.out.size)) (Nat.le_refl _)) (mayP_short HMP.out.1).1
                      have HIO : Hid (∀ X, Below wi.heap.size wi X → Calls Try.prog 23 #[.int .i64 o, .map (some bs)] X fun e w' => e = .returned (.int .i64 (imageF f o)) ∧ X = w') := fun X hX => cimage_any bs 1 f o X (HMI.out.below hX (Nat.le_refl _)) (HFB.out.fBd (by omega)) ho1 ho2
                      have HPO := Lib.hid (mayP_without HMP.out.1 f)
                      generalize withoutP P f = PO at *
                      generalize imageF f o = oo at *
                      go_wp2_with fail
                      have hWd : Below w10.heap.size w10 w10.drew := (Below.refl _ _).drew
                      have HWE := Lib.hid hWd
                      refine wp_region_held_drew (S := fun X => X.heap[w.heap.size]? = w10.heap[w.heap.size]? ∧ Below w.heap.size w X) (by kernel_rfl) ⟨HWE.out.block _ hx10, HWX.out.trans (HWE.out.mono HWX.out.size)⟩ (fun hSd => ?_)
                      clear hWd
                      generalize w10.drew = we at *
                      refine takeC (i := 0) (v := .pointer (some ⟨w.heap.size, 0, none⟩)) (some 116) rfl rfl (by kernel_rfl) (by kernel_rfl) (by kernel_rfl) (fun _ _ _ h => h) (Or.inl ⟨by rfl, ?_⟩) (by assumption) ?_
                      · intro wz hSw; go_simp
                      try simp only [Act.put, List.setIfInBounds_toArray, List.set_cons_zero, List.set_cons_succ]
                      refine takeC (i := 1) (v := .slice pa P.length pc) (some 117) rfl rfl (by kernel_rfl) (by kernel_rfl) (by kernel_rfl) (fun _ _ _ h => h) (Or.inl ⟨by rfl, ?_⟩) (by assumption) ?_
                      · intro wz hSw; obtain ⟨t0, t1, t2⟩ := HXB.out wz hSw.1; go_simp
                      try simp only [Act.put, List.setIfInBounds_toArray, List.set_cons_zero, List.set_cons_succ]
                      refine takeC (i := 2) (v := .map (some bs)) (some 118) rfl rfl (by kernel_rfl) (by kernel_rfl) (by kernel_rfl) (fun _ _ _ h => h) (Or.inl ⟨by rfl, ?_⟩) (by assumption) ?_
                      · intro wz hSw; go_simp
                      try simp only [Act.put, List.setIfInBounds_toArray, List.set_cons_zero, List.set_cons_succ]
                      refine takeC (i := 4) (v := .slice a10 n10 c10) (some 120) rfl rfl (by kernel_rfl) (by kernel_rfl) (by kernel_rfl) (fun _ _ _ h => h) (Or.inl ⟨by rfl, ?_⟩) (by assumption) ?_
                      · intro wz hSw; go_simp
                      try simp only [Act.put, List.setIfInBounds_toArray, List.set_cons_zero, List.set_cons_succ]
                      refine takeC (i := 5) (v := .pointer (some ⟨w.heap.size, 2, none⟩)) (some 121) rfl rfl (by kernel_rfl) (by kernel_rfl) (by kernel_rfl) (fun _ _ _ h => h) (Or.inl ⟨by rfl, ?_⟩) (by assumption) ?_
                      · intro wz hSw; go_simp
                      try simp only [Act.put, List.setIfInBounds_toArray, List.set_cons_zero, List.set_cons_succ]
                      refine takeC (i := 6) (v := .int .i64 o) (some 122) rfl rfl (by kernel_rfl) (by kernel_rfl) (by kernel_rfl) (fun _ _ _ h => h) (Or.inl ⟨by rfl, ?_⟩) (by assumption) ?_
                      · intro wz hSw; obtain ⟨t0, t1, t2⟩ := HXB.out wz hSw.1; go_simp
                      try simp only [Act.put, List.setIfInBounds_toArray, List.set_cons_zero, List.set_cons_succ]
                      refine takeC (i := 7) (v := .map (some bs)) (some 123) rfl rfl (by kernel_rfl) (by kernel_rfl) (by kernel_rfl) (fun _ _ _ h => h) (Or.inl ⟨by rfl, ?_⟩) (by assumption) ?_
                      · intro wz hSw; go_simp
                      try simp only [Act.put, List.setIfInBounds_toArray, List.set_cons_zero, List.set_cons_succ]
                      have HBE : Hid (Below wi.heap.size wi we) := HB10.out.trans (HWE.out.mono HB10.out.size)
                      refine wpAnyH_ready (rs := [3]) (by kernel_rfl) (by simp) ?_
                      refine AllReadyH.cons rfl (fun K hK => ?_) AllReadyH.nil
                      go_simp
                      go_wp2_with (go_at_call 26; go_loud (refine (HWO.out we HBE.out).mono ?_; rintro e w11 ⟨v11, t11, rfl, hj11, hs11, hb11⟩; have HJ11 := Lib.hid hj11; have HS11 := Lib.hid hs11; obtain ⟨a11, c11, rfl⟩ := hj11.shape; have HBA := Lib.hid hb11; have HB11 := Lib.hid (HBE.out.trans (hb11.mono HBE.out.size)); clear hb11 hj11 hs11))
                      have HE11 : Hid (Below w10.heap.size w10 w11) := HWE.out.trans (HBA.out.mono HWE.out.size)
                      have HT11 : Hid (Below w.heap.size w w11) := HWX.out.trans (HE11.out.mono HWX.out.size)
                      have hbl11 : w11.heap[w.heap.size]? = w10.heap[w.heap.size]? := HE11.out.block _ hx10
                      refine hK.out _ _ ⟨hbl11, HT11.out⟩ (fun hH11 => ?_)
                      clear hK K
                      try simp only [Act.put, List.setIfInBounds_toArray, List.set_cons_zero, List.set_cons_succ]
                      obtain ⟨n11, hn11⟩ : ∃ n, t11.length = n := ⟨_, rfl⟩
                      rw [hn11] at HJ11 ⊢
                      clear hn11
                      refine wpAnyH_ready (rs := [8]) (by kernel_rfl) (by simp) ?_
                      refine AllReadyH.cons rfl (fun K hK => ?_) AllReadyH.nil
                      go_simp
                      go_wp2_with (go_at_call 23; go_loud (refine (HIO.out w11 HB11.out).mono ?_; rintro e w12 ⟨rfl, rfl⟩))
                      refine hK.out _ _ ⟨hbl11, HT11.out⟩ (fun hH12 => ?_)
                      clear hK K
                      try simp only [Act.put, List.setIfInBounds_toArray, List.set_cons_zero, List.set_cons_succ]
                      refine takeC (i := 9) (v := .agg #[.slice a11 n11 c11, .slice a10 n10 c10, .int .i64 oo]) (some 125) rfl rfl (by kernel_rfl) (by kernel_rfl) (by kernel_rfl) (fun _ _ _ h => h) (Or.inl ⟨by rfl, ?_⟩) (by assumption) ?_
                      · intro wz hSw; go_simp
                      try simp only [Act.put, List.setIfInBounds_toArray, List.set_cons_zero, List.set_cons_succ]
                      have HNT : Hid (NetO w w11 wi.heap.size (.slice a11 n11 c11) (.slice a10 n10 c10) PO (renG F gs2 ++ renG f gs)) :=
                        ⟨⟨t11, HJ11.out.mono HBE.out.size, HS11.out⟩, HPO.out, ⟨tt, HR10.out.below' HE11.out (Nat.le_refl _), HTS.out⟩, by rw [← HTS.out, shapeG_len]; have := HTL.out; omega⟩
                      obtain ⟨⟨d0, d1, d2, e0, e1, e2⟩, hfin⟩ := net_putR (w0 := w) (w := w) (X := w11) (o := oo) (r := w.heap.size + 2) ((((HWI.out.trans (HB11.out.mono HWI.out.size)).block _ (by omega))).trans HR0.out) HT11.out HNT.out (Nat.le_refl _) (by omega) (by omega)
                      have HFIN := Lib.hid hfin
                      clear hfin
                      have hk3 := kept_three (w.heap.size + 2) w11 (.slice a11 n11 c11) (.slice a10 n10 c10) (.int .i64 oo)
                      have hblY := (hk3.block w.heap.size (by have := HT11.out.size; have := HB11.out.size; omega) (by omega)).trans hbl11
                      have HBY := Lib.hid hblY
                      clear hk3 hblY
                      refine wpAnyH_ready (rs := [10]) (by kernel_rfl) (by simp) ?_
                      refine AllReadyH.cons rfl (fun K hK => ?_) AllReadyH.nil
                      go_simp
                      obtain ⟨⟨g0, g1, g2⟩, hno, hbe⟩ := HFIN.out
                      refine hK.out _ _ ⟨HBY.out, hbe⟩ (fun hHY => ?_)
                      clear hK K
                      try simp only [Act.put, List.setIfInBounds_toArray, List.set_cons_zero, List.set_cons_succ]
                      have HNO := Lib.hid hno
                      have HBEE := Lib.hid hbe
                      clear hno
                      refine takeC (i := 11) (v := .int .i64 0) (some 7) rfl rfl (by kernel_rfl) (by kernel_rfl) (by kernel_rfl) (fun _ _ _ h => h) (Or.inl ⟨by rfl, ?_⟩) (by assumption) ?_
                      · intro wz hSw; go_simp
                      try simp only [Act.put, List.setIfInBounds_toArray, List.set_cons_zero, List.set_cons_succ]
                      refine wpAnyH_done (by kernel_rfl) ?_ _
                      go_wp2
                      refine ⟨rfl, .tuple #[.agg #[.slice a11 n11 c11, .slice a10 n10 c10, .int .i64 oo], .int .i64 0], by simp [results, Try.f8, go_sem, g0, g1, g2], ?_⟩
                      unfold NetPostE
                      rw [HS.out]
                      exact ⟨_, _, rfl, HNO.out, HBEE.out⟩
end Go.Proofs.Ytafenijbglcppaa
