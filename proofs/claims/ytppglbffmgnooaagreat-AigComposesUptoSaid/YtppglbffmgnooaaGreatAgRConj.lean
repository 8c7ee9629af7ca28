/- The reference's maker in memory, and its Conj. -/
import Derived.Test.YtppglbffmgnooaaGreatAgRImg
import Derived.Test.YtppglbffmgnooaaGreatA06
import Derived.Test.YtppglbffmgnooaaGreatA09
import Derived.Test.YtppglbffmgnooaaGreatA13
namespace Go.Proofs.YtppglbffmgnooaaGreat
open Go.RowKit Go.Maps Go.Shelf
set_option linter.unusedVariables false
set_option linter.unusedSimpArgs false

/-- The reference's maker. -/
structure RMk (wb w : World) (B pm : Nat) (I : List Int) (s : Mq) (vi va : Value) : Prop where
  box : w.heap[pm]? = some (.cells #[vi, va, .bool s.2] 82 (0, 0))
  kp : KpM B pm pm wb w
  ins : ∀ Z, KpM B pm pm wb Z → IsInts Z vi I
  il : I.length ≤ 200000
  row : OwnP w B va s.1
  ok : MOk (1 + I.length) s
  inp : InP s.1
  lb : B ≤ pm
theorem RMk.lt {wb w : World} {B pm : Nat} {I : List Int} {s : Mq} {vi va : Value} (h : RMk wb w B pm I s vi va) : pm < w.heap.size := (Array.getElem?_eq_some_iff.1 h.box).1
theorem RMk.apart {wb w : World} {B pm : Nat} {I : List Int} {s : Mq} {vi va : Value} (h : RMk wb w B pm I s vi va) : ∀ g, va.ownBlock = some g → g ≠ pm := fun g hg e => by
  obtain ⟨cur, hc⟩ := h.row.obj hg
  rw [e, h.box] at hc
  simp only [Option.some.injEq, Obj.cells.injEq] at hc
  exact absurd hc.2.1 (by decide)
theorem RMk.graph {wb w : World} {B pm : Nat} {I : List Int} {s : Mq} {vi va : Value} (h : RMk wb w B pm I s vi va) : IsInts w vi I ∧ IsPairs w va s.1 := ⟨h.ins w h.kp, h.row.pairs (by have := h.ok.room; omega) h.inp⟩
theorem RMk.kpb {wb w w' : World} {B pm : Nat} {I : List Int} {s : Mq} {vi va : Value} (h : RMk wb w B pm I s vi va) (hb : Below w.heap.size w w') (hB : B ≤ w.heap.size) : RMk wb w' B pm I s vi va :=
  ⟨(hb.block pm h.lt).trans h.box, h.kp.trans (KpM.of_below hb hB), h.ins, h.il, h.row.below hb (Nat.le_refl _), h.ok, h.inp, h.lb⟩
theorem box3r_cells {W : World} {g : Nat} {a b c : Value} {T : TypeId} (hh : W.heap[g]? = some (.cells #[a, b, c] T (0, 0))) : W.cell? ⟨g, 0, none⟩ = some a ∧ W.cell? ⟨g, 1, none⟩ = some b ∧ W.cell? ⟨g, 2, none⟩ = some c := by
  refine ⟨?_, ?_, ?_⟩ <;> simp [World.cell?, hh]
theorem box3_frozen {W : World} {g i : Nat} {a b c : Value} {T : TypeId} (hh : W.heap[g]? = some (.cells #[a, b, c] T (0, 0))) : W.frozen? ⟨g, i, none⟩ = false := by simp [World.frozen?, hh]
theorem box3_set1 {W : World} {g : Nat} {a b c : Value} {T : TypeId} (hh : W.heap[g]? = some (.cells #[a, b, c] T (0, 0))) (u : Value) : (W.setCell ⟨g, 1, none⟩ u).heap[g]? = some (.cells #[a, u, c] T (0, 0)) := by
  have h := heap_set_same hh 1 u
  simpa using h
theorem box3_set2 {W : World} {g : Nat} {a b c : Value} {T : TypeId} (hh : W.heap[g]? = some (.cells #[a, b, c] T (0, 0))) (u : Value) : (W.setCell ⟨g, 2, none⟩ u).heap[g]? = some (.cells #[a, b, u] T (0, 0)) := by
  have h := heap_set_same hh 2 u
  simpa using h
/-- 'append(s, pair)'. -/
theorem wpList_appPr {w : World} {ops : Array Oper} {rest : List Oper} {o : Oper} {a : Act} {Q : Exit → Act → World → Prop} (hgd : o.guard = none) (s x : Operand)
    (ho : o.op = .call { callee := .builtin .append, args := #[s, x], argTypes := #[23, 23] }) (B : Nat) (v : Value) (A : List Pr) (y : Pr) (g : Nat)
    (hs : a.eval s = v) (hx : a.eval x = .slice (some ⟨g, 0, none⟩) 1 1) (hrow : OwnP w B v A) (h0 : w.cell? ⟨g, 0, none⟩ = some (.int .i64 y.1)) (h1 : w.cell? ⟨g, 1, none⟩ = some (.int .i64 y.2)) (hlen : A.length < 4000000) (hB : B ≤ w.heap.size)
    (h : ∀ v' w', OwnP w' B v' (A ++ [y]) → w.grownBy w' v.ownBlock → wpList Tryz.prog ops Q rest (a.put o.dst v') w') : wpList Tryz.prog ops Q (o :: rest) a w := by
  obtain ⟨i0, hi, hz0, hz1, hz2⟩ := info_parts info_pr
  refine wpList_append_own_at _ hgd s x 23 ho B 115 i0 (.agg #[.int .i64 0, .int .i64 0]) 2 16 Tryz.underlying23 hi hz0 hz1 hz2 rfl (by decide) v A.length _ hs hrow ⟨g, 0, none⟩ 1 1 [.int .i64 y.1, .int .i64 y.2] hx (by simp) ?_ (by simp [Value.oneCell']) (by unfold maxLen; omega) (by omega) hB ?_
  · intro j u hj
    match j, hj with
    | 0, hj => simp at hj; subst hj; simpa [Addr.add] using h0
    | 1, hj => simp at hj; subst hj; simpa [Addr.add] using h1
  · intro v' w' h1 h2 _ h3
    refine h v' w' ?_ h2
    unfold OwnP
    rw [List.length_append, cellsP_app]
    exact h1
theorem findA_in {A : List Pr} {p : Pr} (h : p ∈ A) : findA A p = ((A.idxOf p : Nat) : Int) := by unfold findA; rw [if_pos h]
theorem findA_out {A : List Pr} {p : Pr} (h : p ∉ A) : findA A p = -1 := by unfold findA; rw [if_neg h]
def RConjPost (wb w : World) (B pm : Nat) (I : List Int) (r : Int × Mq) (vi : Value) (e : Ending) (w' : World) : Prop := ∃ va', e = .returned (.int .i64 r.1) ∧ RMk wb w' B pm I r.2 vi va' ∧ KpM B pm pm w w'
set_option maxRecDepth 100000 in
set_option maxHeartbeats 6400000 in
theorem rconj_any {wb w : World} {B pm : Nat} {I : List Int} {s : Mq} {vi va : Value} (x y : Int) (H : RMk wb w B pm I s vi va) (hB : B ≤ w.heap.size) (hx : isE x (1 + I.length + s.1.length) = true) (hy : isE y (1 + I.length + s.1.length) = true) :
    Calls Tryz.prog 149 #[.pointer (some ⟨pm, 0, none⟩), .int .i64 x, .int .i64 y] w (RConjPost wb w B pm I (conjA (1 + I.length) s x y) vi) := by
  have HH := Lib.hid H
  obtain ⟨ia, ic, rfl⟩ := H.graph.1.shape
  obtain ⟨aa, ac, rfl⟩ := H.row.shape
  have hroom := H.ok.room
  have hil := H.il
  obtain ⟨q0, q1, q2⟩ := box3r_cells H.box
  have HBB := Lib.hid hB
  clear H hB
  by_cases hxy : y < x
  · have HC : Hid (conjA (1 + I.length) s x y = conjO (1 + I.length) s y x) := by show _ = _; unfold conjA; rw [Int.min_eq_right (by omega), Int.max_eq_left (by omega)]
    have ha := isE_true.1 hy
    have hb := isE_true.1 hx
    have hab : y ≤ x := by omega
    have HXE := Lib.hid hx
    have HYE := Lib.hid hy
    clear hx hy
    by_cases a0 : y = 0
    · have HR : Hid (conjO (1 + I.length) s y x = (0, s)) := by show _ = _; unfold conjO; rw [if_pos (Or.inl a0)]
      have hz : (y == 0) = true := by simpa using a0
      rw [HR.out] at HC
      clear HR hab ha hb q2 a0
      go_enter Tryz.func149, Tryz.ntmps149
      go_wp2
      go_ret
      exact ⟨_, ret_int (by rw [HC.out]), by rw [HC.out]; exact HH.out, KpM.refl _ _ _ _⟩
    · have hz : (y == 0) = false := by simpa using a0
      have HN := Lib.hid (rnot_any y w ha.1 (by omega))
      by_cases hn : x = notE y
      · have HR : Hid (conjO (1 + I.length) s y x = (0, s)) := by show _ = _; unfold conjO; rw [if_pos (Or.inr hn)]
        rw [HR.out] at HC
        have hnb : (notE y == x) = true := by rw [hn]; simp
        clear HR hab ha hb q2 a0 hn
        generalize notE y = na at *
        go_enter Tryz.func149, Tryz.ntmps149
        go_wp2_with (go_at_call 71; refine HN.out.mono ?_; rintro e w1 ⟨rfl, rfl⟩)
        go_ret
        exact ⟨_, ret_int (by rw [HC.out]), by rw [HC.out]; exact HH.out, KpM.refl _ _ _ _⟩
      · have hnb : (notE y == x) = false := by simpa using fun e => hn e.symm
        by_cases a1 : y = 1 ∨ y = x
        · have HR : Hid (conjO (1 + I.length) s y x = (x, s)) := by show _ = _; unfold conjO; rw [if_neg (by rintro (h | h) <;> contradiction), if_pos a1]
          rw [HR.out] at HC
          have h1 : (y == 1 || y == x) = true := by simpa using a1
          clear HR hab ha hb q2 a0 hn a1
          generalize notE y = na at *
          cases h1a : (y == 1) with
          | true =>
            clear h1
            go_enter Tryz.func149, Tryz.ntmps149
            go_wp2_with (go_at_call 71; refine HN.out.mono ?_; rintro e w1 ⟨rfl, rfl⟩)
            go_ret
            exact ⟨_, ret_int (by rw [HC.out]), by rw [HC.out]; exact HH.out, KpM.refl _ _ _ _⟩
          | false =>
            rw [h1a, Bool.false_or] at h1
            go_enter Tryz.func149, Tryz.ntmps149
            go_wp2_with (go_at_call 71; refine HN.out.mono ?_; rintro e w1 ⟨rfl, rfl⟩)
            go_ret
            exact ⟨_, ret_int (by rw [HC.out]), by rw [HC.out]; exact HH.out, KpM.refl _ _ _ _⟩
        · have h1 : (y == 1) = false := by simpa using fun e => a1 (Or.inl e)
          have h2 : (y == x) = false := by simpa using fun e => a1 (Or.inr e)
          have HCO : Hid (conjO (1 + I.length) s y x = if (y, x) ∈ s.1 then (2 * ((1 + I.length + s.1.idxOf (y, x) : Nat) : Int), s) else if 1 + I.length + s.1.length = 200000 then (0, (s.1, true)) else (2 * ((1 + I.length + s.1.length : Nat) : Int), (s.1 ++ [(y, x)], s.2))) := by
            show _ = _; unfold conjO; rw [if_neg (by rintro (h | h) <;> contradiction), if_neg a1]
          have HMD := Lib.hid (conjO_made (s := s) (a := y) (b := x) HH.out.ok (by omega) HYE.out HXE.out hab)
          have HFD := Lib.hid (rfind6_any _ _ I s.1 y x w HH.out.graph.1 HH.out.graph.2 (by omega) (by omega) HH.out.ok.ok hb.1 (by omega))
          have hin : ∀ Z, Below w.heap.size w Z → Z.heap[pm]? = some (.cells #[.slice ia I.length ic, .slice aa s.1.length ac, .bool s.2] 82 (0, 0)) := fun Z hZ => (hZ.block pm HH.out.lt).trans HH.out.box
          have HIN := Lib.hid hin
          have HAB : Hid ((-9223372036854775808 ≤ y ∧ y ≤ 9223372036854775807) ∧ -9223372036854775808 ≤ x ∧ x ≤ 9223372036854775807) := ⟨⟨by omega, by omega⟩, by omega, by omega⟩
          clear a0 hn a1 hab ha hb q2 hin
          by_cases hm : (y, x) ∈ s.1
          · rw [findA_in hm] at HFD
            rw [if_pos hm] at HCO
            have hix := List.idxOf_lt_length_of_mem hm
            rw [HCO.out] at HC
            clear hm HCO HMD
            generalize s.1.idxOf (y, x) = ix at *
            generalize notE y = na at *
            have hi0 : (0 : Int) ≤ (ix : Int) := by omega
            have hi1 : (ix : Int) ≤ 200000 := by omega
            have hI1 : (I.length : Int) ≤ 200000 := by omega
            go_enter Tryz.func149, Tryz.ntmps149
            go_upto_region 8 with (first
              | (go_at_call 72; refine HFD.out.mono ?_; rintro e w2 ⟨rfl, hb2⟩; have HB2 := Lib.hid hb2; clear hb2 q0 q1; obtain ⟨q0, q1, _⟩ := box3r_cells (HIN.out w2 HB2.out))
              | (go_at_call 71; refine HN.out.mono ?_; rintro e w1 ⟨rfl, rfl⟩))
            have hneg : ¬ ((ix : Int) < 0) := by omega
            go_wp2
            go_ret
            refine ⟨.slice aa s.1.length ac, ret_int (by rw [HC.out]; show _ = 2 * ((1 + I.length + ix : Nat) : Int); omega), by rw [HC.out]; exact HH.out.kpb HB2.out HBB.out, KpM.of_below HB2.out HBB.out⟩
          · rw [findA_out hm] at HFD
            rw [if_neg hm] at HCO
            clear hm
            have HND : Hid (∀ Z, Below w.heap.size w Z → Calls Tryz.prog 48 #[.agg #[.slice ia I.length ic, .slice aa s.1.length ac]] Z fun r w' => r = .returned (.int .i64 ((1 + I.length + s.1.length : Nat) : Int)) ∧ Below Z.heap.size Z w') := fun Z hZ => rnodes_any _ _ I s.1 Z (HH.out.graph.1.below hZ (Nat.le_refl _)) (HH.out.graph.2.below hZ (Nat.le_refl _)) (by omega) (by omega)
            by_cases hf : 1 + I.length + s.1.length = 200000
            · rw [if_pos hf] at HCO
              rw [HCO.out] at HC HMD
              rw [hf] at HND
              clear HCO hf
              generalize notE y = na at *
              go_enter Tryz.func149, Tryz.ntmps149
              go_upto_region 10 with (first
                | (go_at_call 48; refine (HND.out w2 HB2.out).mono ?_; rintro e w3 ⟨rfl, hb3⟩; have HB3 := Lib.hid (HB2.out.trans (hb3.mono HB2.out.size)); clear hb3 q0 q1)
                | (go_at_call 72; refine HFD.out.mono ?_; rintro e w2 ⟨rfl, hb2⟩; have HB2 := Lib.hid hb2; clear hb2 q0 q1; obtain ⟨q0, q1, _⟩ := box3r_cells (HIN.out w2 HB2.out))
                | (go_at_call 71; refine HN.out.mono ?_; rintro e w1 ⟨rfl, rfl⟩))
              obtain ⟨_, _, q2⟩ := box3r_cells (HIN.out w3 HB3.out)
              have f2 := box3_frozen (i := 2) (HIN.out w3 HB3.out)
              have HS2 := Lib.hid (box3_set2 (HIN.out w3 HB3.out) (.bool true))
              have HK2 := Lib.hid ((KpM.of_below HB3.out HBB.out).trans (KpM.setCell (B := B) (pm := pm) (bf := pm) w3 2 (.bool true) HH.out.lb))
              have HM3 := Lib.hid (HH.out.kpb HB3.out HBB.out)
              go_wp2
              go_ret
              refine ⟨.slice aa s.1.length ac, ret_int (by rw [HC.out]), ?_, HK2.out⟩
              rw [HC.out]
              refine ⟨HS2.out, HH.out.kp.trans HK2.out, HH.out.ins, HM3.out.il, HM3.out.row.turn (fun g hg => heap_set_other 2 _ (HM3.out.apart g hg)), HMD.out.ok, HM3.out.inp, HM3.out.lb⟩
            · rw [if_neg hf] at HCO
              rw [HCO.out] at HC HMD
              clear HCO
              have hnn1 : ((1 + I.length + s.1.length : Nat) : Int) < 200000 := by omega
              have HNE : Hid (1 + I.length + s.1.length < 200000) := by show _ < _; omega
              clear hf
              have hs1 : (s.1.length : Int) ≤ 200000 := by omega
              have hI1 : (I.length : Int) ≤ 200000 := by omega
              obtain ⟨nn, hnn⟩ : ∃ nn : Int, ((1 + I.length + s.1.length : Nat) : Int) = nn := ⟨_, rfl⟩
              rw [hnn] at HND hnn1
              have hneg2 : ¬ ((200000 : Int) ≤ nn) := by omega
              have HNZ := Lib.hid hnn
              clear hnn
              generalize notE y = na at *
              go_enter Tryz.func149, Tryz.ntmps149
              go_upto_region 12 with (first
                | (go_at_call 48; refine (HND.out w2 HB2.out).mono ?_; rintro e w3 ⟨rfl, hb3⟩; have HB3 := Lib.hid (HB2.out.trans (hb3.mono HB2.out.size)); clear hb3 q0 q1)
                | (go_at_call 72; refine HFD.out.mono ?_; rintro e w2 ⟨rfl, hb2⟩; have HB2 := Lib.hid hb2; clear hb2 q0 q1; obtain ⟨q0, q1, _⟩ := box3r_cells (HIN.out w2 HB2.out))
                | (go_at_call 71; refine HN.out.mono ?_; rintro e w1 ⟨rfl, rfl⟩))
              obtain ⟨q0, q1, _⟩ := box3r_cells (HIN.out w3 HB3.out)
              have HM3 := Lib.hid (HH.out.kpb HB3.out HBB.out)
              have hba := below_alloc1 w3 (.cells #[.int .i64 y, .int .i64 x] 115)
              have HM4 := Lib.hid (HM3.out.kpb hba (Nat.le_trans HBB.out HB3.out.size))
              have hhx : (w3.alloc (.cells #[.int .i64 y, .int .i64 x] 115)).heap[w3.heap.size]? = some (.cells #[.int .i64 y, .int .i64 x] 115 (0, 0)) := World.alloc_heap_new _ _
              have HXB := Lib.hid hhx
              have HB4 := Lib.hid (HB3.out.trans (hba.mono HB3.out.size))
              clear hba hhx
              clear hneg2 hnn1
              go_upto_region 14 with (at_builtin; go_loud (obtain ⟨x0, x1, _, _⟩ := box2_cells HXB.out; refine wpList_appPr rfl _ _ rfl B _ s.1 (y, x) w3.heap.size rfl rfl HM4.out.row x0 x1 (by have := HNE.out; omega) (Nat.le_trans HBB.out HB4.out.size) ?_; intro va' w5 hrow hg; clear x0 x1; have HRW := Lib.hid hrow; have HG := Lib.hid hg; obtain ⟨xa, xl, xc, rfl⟩ : ∃ xa xl xc, va' = .slice xa xl xc := (by obtain ⟨q1, q2, e⟩ := hrow.shape; exact ⟨_, _, _, e⟩); have hx5 := (hg.block pm HM4.out.lt (fun e => HM4.out.apart pm e.symm rfl)).trans HM4.out.box; have HX5 := Lib.hid hx5; clear q0 q1 hrow hg; obtain ⟨q0, q1, _⟩ := box3r_cells hx5; have f1 := box3_frozen (i := 1) hx5; clear hx5))
              have HX6 := Lib.hid (box3_set1 HX5.out (.slice xa xl xc))
              have HK6 := Lib.hid ((KpM.of_below HB4.out HBB.out).trans ((KpM.grown (pm := pm) (bf := pm) HM4.out.row HG.out (Nat.le_trans HBB.out HB4.out.size)).trans (KpM.setCell w5 1 (.slice xa xl xc) HH.out.lb)))
              clear q0 q1 f1
              have HRW6 : Hid (OwnP (w5.setCell ⟨pm, 1, none⟩ (.slice xa xl xc)) B (.slice xa xl xc) (s.1 ++ [(y, x)])) := HRW.out.turn (fun g hg => heap_set_other 1 _ (fun e => by
                obtain ⟨cur, hc⟩ := HRW.out.obj hg
                rw [e, HX5.out] at hc
                simp only [Option.some.injEq, Obj.cells.injEq] at hc
                exact absurd hc.2.1 (by decide)))
              generalize w5.setCell ⟨pm, 1, none⟩ (.slice xa xl xc) = w6 at *
              obtain ⟨q0, q1, _⟩ := box3r_cells HX6.out
              go_wp2
              go_ret
              refine ⟨.slice xa xl xc, ret_int (by rw [HC.out]; show _ = 2 * ((1 + I.length + s.1.length : Nat) : Int); omega), ?_, HK6.out⟩
              rw [HC.out]
              refine ⟨HX6.out, HH.out.kp.trans HK6.out, HH.out.ins, HH.out.il, HRW6.out, HMD.out.ok, fun p hp => ?_, HH.out.lb⟩
              rcases List.mem_append.1 hp with hp | hp
              · exact HH.out.inp p hp
              · rw [List.mem_singleton] at hp
                subst hp
                exact HAB.out
  · have HC : Hid (conjA (1 + I.length) s x y = conjO (1 + I.length) s x y) := by show _ = _; unfold conjA; rw [Int.min_eq_left (by omega), Int.max_eq_right (by omega)]
    have ha := isE_true.1 hx
    have hb := isE_true.1 hy
    have hab : x ≤ y := by omega
    have HXE := Lib.hid hx
    have HYE := Lib.hid hy
    clear hx hy
    by_cases a0 : x = 0
    · have HR : Hid (conjO (1 + I.length) s x y = (0, s)) := by show _ = _; unfold conjO; rw [if_pos (Or.inl a0)]
      have hz : (x == 0) = true := by simpa using a0
      rw [HR.out] at HC
      clear HR hab ha hb q2 a0
      go_enter Tryz.func149, Tryz.ntmps149
      go_wp2
      go_ret
      exact ⟨_, ret_int (by rw [HC.out]), by rw [HC.out]; exact HH.out, KpM.refl _ _ _ _⟩
    · have hz : (x == 0) = false := by simpa using a0
      have HN := Lib.hid (rnot_any x w ha.1 (by omega))
      by_cases hn : y = notE x
      · have HR : Hid (conjO (1 + I.length) s x y = (0, s)) := by show _ = _; unfold conjO; rw [if_pos (Or.inr hn)]
        rw [HR.out] at HC
        have hnb : (notE x == y) = true := by rw [hn]; simp
        clear HR hab ha hb q2 a0 hn
        generalize notE x = na at *
        go_enter Tryz.func149, Tryz.ntmps149
        go_wp2_with (go_at_call 71; refine HN.out.mono ?_; rintro e w1 ⟨rfl, rfl⟩)
        go_ret
        exact ⟨_, ret_int (by rw [HC.out]), by rw [HC.out]; exact HH.out, KpM.refl _ _ _ _⟩
      · have hnb : (notE x == y) = false := by simpa using fun e => hn e.symm
        by_cases a1 : x = 1 ∨ x = y
        · have HR : Hid (conjO (1 + I.length) s x y = (y, s)) := by show _ = _; unfold conjO; rw [if_neg (by rintro (h | h) <;> contradiction), if_pos a1]
          rw [HR.out] at HC
          have h1 : (x == 1 || x == y) = true := by simpa using a1
          clear HR hab ha hb q2 a0 hn a1
          generalize notE x = na at *
          cases h1a : (x == 1) with
          | true =>
            clear h1
            go_enter Tryz.func149, Tryz.ntmps149
            go_wp2_with (go_at_call 71; refine HN.out.mono ?_; rintro e w1 ⟨rfl, rfl⟩)
            go_ret
            exact ⟨_, ret_int (by rw [HC.out]), by rw [HC.out]; exact HH.out, KpM.refl _ _ _ _⟩
          | false =>
            rw [h1a, Bool.false_or] at h1
            go_enter Tryz.func149, Tryz.ntmps149
            go_wp2_with (go_at_call 71; refine HN.out.mono ?_; rintro e w1 ⟨rfl, rfl⟩)
            go_ret
            exact ⟨_, ret_int (by rw [HC.out]), by rw [HC.out]; exact HH.out, KpM.refl _ _ _ _⟩
        · have h1 : (x == 1) = false := by simpa using fun e => a1 (Or.inl e)
          have h2 : (x == y) = false := by simpa using fun e => a1 (Or.inr e)
          have HCO : Hid (conjO (1 + I.length) s x y = if (x, y) ∈ s.1 then (2 * ((1 + I.length + s.1.idxOf (x, y) : Nat) : Int), s) else if 1 + I.length + s.1.length = 200000 then (0, (s.1, true)) else (2 * ((1 + I.length + s.1.length : Nat) : Int), (s.1 ++ [(x, y)], s.2))) := by
            show _ = _; unfold conjO; rw [if_neg (by rintro (h | h) <;> contradiction), if_neg a1]
          have HMD := Lib.hid (conjO_made (s := s) (a := x) (b := y) HH.out.ok (by omega) HXE.out HYE.out hab)
          have HFD := Lib.hid (rfind6_any _ _ I s.1 x y w HH.out.graph.1 HH.out.graph.2 (by omega) (by omega) HH.out.ok.ok hb.1 (by omega))
          have hin : ∀ Z, Below w.heap.size w Z → Z.heap[pm]? = some (.cells #[.slice ia I.length ic, .slice aa s.1.length ac, .bool s.2] 82 (0, 0)) := fun Z hZ => (hZ.block pm HH.out.lt).trans HH.out.box
          have HIN := Lib.hid hin
          have HAB : Hid ((-9223372036854775808 ≤ x ∧ x ≤ 9223372036854775807) ∧ -9223372036854775808 ≤ y ∧ y ≤ 9223372036854775807) := ⟨⟨by omega, by omega⟩, by omega, by omega⟩
          clear a0 hn a1 hab ha hb q2 hin
          by_cases hm : (x, y) ∈ s.1
          · rw [findA_in hm] at HFD
            rw [if_pos hm] at HCO
            have hix := List.idxOf_lt_length_of_mem hm
            rw [HCO.out] at HC
            clear hm HCO HMD
            generalize s.1.idxOf (x, y) = ix at *
            generalize notE x = na at *
            have hi0 : (0 : Int) ≤ (ix : Int) := by omega
            have hi1 : (ix : Int) ≤ 200000 := by omega
            have hI1 : (I.length : Int) ≤ 200000 := by omega
            go_enter Tryz.func149, Tryz.ntmps149
            go_upto_region 8 with (first
              | (go_at_call 72; refine HFD.out.mono ?_; rintro e w2 ⟨rfl, hb2⟩; have HB2 := Lib.hid hb2; clear hb2 q0 q1; obtain ⟨q0, q1, _⟩ := box3r_cells (HIN.out w2 HB2.out))
              | (go_at_call 71; refine HN.out.mono ?_; rintro e w1 ⟨rfl, rfl⟩))
            have hneg : ¬ ((ix : Int) < 0) := by omega
            go_wp2
            go_ret
            refine ⟨.slice aa s.1.length ac, ret_int (by rw [HC.out]; show _ = 2 * ((1 + I.length + ix : Nat) : Int); omega), by rw [HC.out]; exact HH.out.kpb HB2.out HBB.out, KpM.of_below HB2.out HBB.out⟩
          · rw [findA_out hm] at HFD
            rw [if_neg hm] at HCO
            clear hm
            have HND : Hid (∀ Z, Below w.heap.size w Z → Calls Tryz.prog 48 #[.agg #[.slice ia I.length ic, .slice aa s.1.length ac]] Z fun r w' => r = .returned (.int .i64 ((1 + I.length + s.1.length : Nat) : Int)) ∧ Below Z.heap.size Z w') := fun Z hZ => rnodes_any _ _ I s.1 Z (HH.out.graph.1.below hZ (Nat.le_refl _)) (HH.out.graph.2.below hZ (Nat.le_refl _)) (by omega) (by omega)
            by_cases hf : 1 + I.length + s.1.length = 200000
            · rw [if_pos hf] at HCO
              rw [HCO.out] at HC HMD
              rw [hf] at HND
              clear HCO hf
              generalize notE x = na at *
              go_enter Tryz.func149, Tryz.ntmps149
              go_upto_region 10 with (first
                | (go_at_call 48; refine (HND.out w2 HB2.out).mono ?_; rintro e w3 ⟨rfl, hb3⟩; have HB3 := Lib.hid (HB2.out.trans (hb3.mono HB2.out.size)); clear hb3 q0 q1)
                | (go_at_call 72; refine HFD.out.mono ?_; rintro e w2 ⟨rfl, hb2⟩; have HB2 := Lib.hid hb2; clear hb2 q0 q1; obtain ⟨q0, q1, _⟩ := box3r_cells (HIN.out w2 HB2.out))
                | (go_at_call 71; refine HN.out.mono ?_; rintro e w1 ⟨rfl, rfl⟩))
              obtain ⟨_, _, q2⟩ := box3r_cells (HIN.out w3 HB3.out)
              have f2 := box3_frozen (i := 2) (HIN.out w3 HB3.out)
              have HS2 := Lib.hid (box3_set2 (HIN.out w3 HB3.out) (.bool true))
              have HK2 := Lib.hid ((KpM.of_below HB3.out HBB.out).trans (KpM.setCell (B := B) (pm := pm) (bf := pm) w3 2 (.bool true) HH.out.lb))
              have HM3 := Lib.hid (HH.out.kpb HB3.out HBB.out)
              go_wp2
              go_ret
              refine ⟨.slice aa s.1.length ac, ret_int (by rw [HC.out]), ?_, HK2.out⟩
              rw [HC.out]
              refine ⟨HS2.out, HH.out.kp.trans HK2.out, HH.out.ins, HM3.out.il, HM3.out.row.turn (fun g hg => heap_set_other 2 _ (HM3.out.apart g hg)), HMD.out.ok, HM3.out.inp, HM3.out.lb⟩
            · rw [if_neg hf] at HCO
              rw [HCO.out] at HC HMD
              clear HCO
              have hnn1 : ((1 + I.length + s.1.length : Nat) : Int) < 200000 := by omega
              have HNE : Hid (1 + I.length + s.1.length < 200000) := by show _ < _; omega
              clear hf
              have hs1 : (s.1.length : Int) ≤ 200000 := by omega
              have hI1 : (I.length : Int) ≤ 200000 := by omega
              obtain ⟨nn, hnn⟩ : ∃ nn : Int, ((1 + I.length + s.1.length : Nat) : Int) = nn := ⟨_, rfl⟩
              rw [hnn] at HND hnn1
              have hneg2 : ¬ ((200000 : Int) ≤ nn) := by omega
              have HNZ := Lib.hid hnn
              clear hnn
              generalize notE x = na at *
              go_enter Tryz.func149, Tryz.ntmps149
              go_upto_region 12 with (first
                | (go_at_call 48; refine (HND.out w2 HB2.out).mono ?_; rintro e w3 ⟨rfl, hb3⟩; have HB3 := Lib.hid (HB2.out.trans (hb3.mono HB2.out.size)); clear hb3 q0 q1)
                | (go_at_call 72; refine HFD.out.mono ?_; rintro e w2 ⟨rfl, hb2⟩; have HB2 := Lib.hid hb2; clear hb2 q0 q1; obtain ⟨q0, q1, _⟩ := box3r_cells (HIN.out w2 HB2.out))
                | (go_at_call 71; refine HN.out.mono ?_; rintro e w1 ⟨rfl, rfl⟩))
              obtain ⟨q0, q1, _⟩ := box3r_cells (HIN.out w3 HB3.out)
              have HM3 := Lib.hid (HH.out.kpb HB3.out HBB.out)
              have hba := below_alloc1 w3 (.cells #[.int .i64 x, .int .i64 y] 115)
              have HM4 := Lib.hid (HM3.out.kpb hba (Nat.le_trans HBB.out HB3.out.size))
              have hhx : (w3.alloc (.cells #[.int .i64 x, .int .i64 y] 115)).heap[w3.heap.size]? = some (.cells #[.int .i64 x, .int .i64 y] 115 (0, 0)) := World.alloc_heap_new _ _
              have HXB := Lib.hid hhx
              have HB4 := Lib.hid (HB3.out.trans (hba.mono HB3.out.size))
              clear hba hhx
              clear hneg2 hnn1
              go_upto_region 14 with (at_builtin; go_loud (obtain ⟨x0, x1, _, _⟩ := box2_cells HXB.out; refine wpList_appPr rfl _ _ rfl B _ s.1 (x, y) w3.heap.size rfl rfl HM4.out.row x0 x1 (by have := HNE.out; omega) (Nat.le_trans HBB.out HB4.out.size) ?_; intro va' w5 hrow hg; clear x0 x1; have HRW := Lib.hid hrow; have HG := Lib.hid hg; obtain ⟨xa, xl, xc, rfl⟩ : ∃ xa xl xc, va' = .slice xa xl xc := (by obtain ⟨q1, q2, e⟩ := hrow.shape; exact ⟨_, _, _, e⟩); have hx5 := (hg.block pm HM4.out.lt (fun e => HM4.out.apart pm e.symm rfl)).trans HM4.out.box; have HX5 := Lib.hid hx5; clear q0 q1 hrow hg; obtain ⟨q0, q1, _⟩ := box3r_cells hx5; have f1 := box3_frozen (i := 1) hx5; clear hx5))
              have HX6 := Lib.hid (box3_set1 HX5.out (.slice xa xl xc))
              have HK6 := Lib.hid ((KpM.of_below HB4.out HBB.out).trans ((KpM.grown (pm := pm) (bf := pm) HM4.out.row HG.out (Nat.le_trans HBB.out HB4.out.size)).trans (KpM.setCell w5 1 (.slice xa xl xc) HH.out.lb)))
              clear q0 q1 f1
              have HRW6 : Hid (OwnP (w5.setCell ⟨pm, 1, none⟩ (.slice xa xl xc)) B (.slice xa xl xc) (s.1 ++ [(x, y)])) := HRW.out.turn (fun g hg => heap_set_other 1 _ (fun e => by
                obtain ⟨cur, hc⟩ := HRW.out.obj hg
                rw [e, HX5.out] at hc
                simp only [Option.some.injEq, Obj.cells.injEq] at hc
                exact absurd hc.2.1 (by decide)))
              generalize w5.setCell ⟨pm, 1, none⟩ (.slice xa xl xc) = w6 at *
              obtain ⟨q0, q1, _⟩ := box3r_cells HX6.out
              go_wp2
              go_ret
              refine ⟨.slice xa xl xc, ret_int (by rw [HC.out]; show _ = 2 * ((1 + I.length + s.1.length : Nat) : Int); omega), ?_, HK6.out⟩
              rw [HC.out]
              refine ⟨HX6.out, HH.out.kp.trans HK6.out, HH.out.ins, HH.out.il, HRW6.out, HMD.out.ok, fun p hp => ?_, HH.out.lb⟩
              rcases List.mem_append.1 hp with hp | hp
              · exact HH.out.inp p hp
              · rw [List.mem_singleton] at hp
                subst hp
                exact HAB.out
end Go.Proofs.YtppglbffmgnooaaGreat
