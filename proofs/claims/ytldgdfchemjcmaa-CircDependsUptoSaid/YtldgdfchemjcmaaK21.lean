/- Joined texts: CxSup, CxRSup. -/
import Derived.Test.YtldgdfchemjcmaaK12
import Derived.Test.YtldgdfchemjcmaaK19
import Derived.Test.YtldgdfchemjcmaaK03
import Derived.Maps.AppendAt
import Derived.Test.YtldgdfchemjcmaaK20
/- circ.Support. -/
namespace Go.Proofs.Ytldgdfchemjcmaa
open Go.RowKit Go.Shelf Go.Maps
set_option linter.unusedVariables false
set_option linter.unusedSimpArgs false
attribute [local go_sem] Oper.semAt_some

/-- Of what has been reached, the variables of the prefix. -/
def onP (P : List Blk) (l : List Int) : List Int := l.filter (fun v => decide (v ∈ flatB P))
theorem onP_snoc (P : List Blk) (l : List Int) (x : Int) : onP P (l ++ [x]) = if decide (x ∈ flatB P) = true then onP P l ++ [x] else onP P l := by
  unfold onP
  rw [List.filter_append]
  by_cases h : decide (x ∈ flatB P) = true
  · rw [if_pos h]; simp only [List.filter_cons, h, if_true, List.filter_nil]
  · rw [if_neg h]; simp only [List.filter_cons, h, if_false, List.filter_nil, List.append_nil]; simp
theorem onP_len (P : List Blk) (l : List Int) : (onP P l).length ≤ l.length := List.length_filter_le _ _
theorem asc_strict {l : List Int} (h : l.Nodup) : (ascI l).Pairwise (· < ·) := by
  have h1 := ascI_sorted l
  have h2 : (ascI l).Nodup := (ascI_perm l).nodup_iff.2 h
  exact h1.imp₂ (fun a b h3 h4 => by have h5 : a ≠ b := h4; omega) h2
theorem sup_is {P : List Blk} {gs : List Gt} {x : Int} (hP : ∀ y ∈ flatB P, 1 ≤ y ∧ y ≤ 65536) : ascI (onP P (reachL gs x)) = supL P gs x := by
  have hv := vset_up gs x gs.length
  refine ascending_one (asc_strict (hv.1.filter _)) (fromOne_asc _ _) (fun i => ?_)
  rw [ascI_mem, supL_mem hP]
  unfold onP
  rw [List.mem_filter]
  simp
theorem SetI.kpOthers {w w' : World} {b : Nat} {S : List Int} (h : SetI w b S) (k : KeepsOthers w w') : SetI w' b S := by
  obtain ⟨hn, D, ⟨es, clock, hb, F, rest⟩, h2⟩ := h
  exact ⟨hn, D, ⟨es, clock, k.same b _ hb rfl, F, rest⟩, h2⟩

set_option maxRecDepth 100000 in
set_option maxHeartbeats 3200000 in
theorem csup_any (vp vg : Value) (o x : Int) (P : List Blk) (gs : List Gt) (w : World) (HP : IsBlocks w vp P) (HG : IsGates w vg gs) (hp : P.length ≤ 4000000) (hg : gs.length ≤ 3000000) (ho1 : -9223372036854775808 ≤ o) (ho2 : o ≤ 9223372036854775807) (h1 : -9223372036854775808 ≤ x) (h2 : x ≤ 9223372036854775807) :
    Calls Try.prog 13 #[.agg #[vp, vg, .int .i64 o], .int .i64 x] w fun e w' => ∃ v, e = .returned (.tuple #[v, .int .i64 (supN P gs o x).2]) ∧ Own w' w.heap.size v (supN P gs o x).1 ∧ Below w.heap.size w w' := by
  refine (callsIn_wide (n := 8)).1 ?_
  have HGG := Lib.hid HG
  obtain ⟨pa, pc, rfl, _⟩ := HP.shape
  obtain ⟨ga, gc, rfl, _⟩ := HG.shape
  obtain ⟨W0, hW0⟩ : ∃ W0, w.alloc (.cells #[.slice pa P.length pc, .slice ga gs.length gc, .int .i64 o] 25) = W0 := ⟨_, rfl⟩
  have hb0 : Below w.heap.size w W0 := by rw [← hW0]; exact below_new _ _
  have hbx := box_new w (.slice pa P.length pc) (.slice ga gs.length gc) o
  rw [hW0] at hbx
  have hs1 : W0.heap.size = w.heap.size + 1 := by rw [← hW0]; simp
  have HS1 := Lib.hid hs1
  have HXC : Hid (∀ X, Below W0.heap.size W0 X → BoxN X w.heap.size (.slice pa P.length pc) (.slice ga gs.length gc) o) := fun X hX => hbx X (hX.mono (by omega))
  have HW0 := Lib.hid hW0
  have HB0 := Lib.hid hb0
  have HPW := Lib.hid (HP.below hb0 (Nat.le_refl _))
  have HGW := Lib.hid (HG.below hb0 (Nat.le_refl _))
  have hna := cnamed_any _ _ o P gs W0 HPW.out HGW.out hp hg ho1 ho2
  have HQ : Hid (∀ X, Below W0.heap.size W0 X → Calls Try.prog 42 #[.slice pa P.length pc] X (QuantPost X P)) := fun X hX => quantified_any _ P X (HPW.out.below hX (Nat.le_refl _)) hp
  have HV : Hid (∀ X, Calls Try.prog 41 #[.int .i64 x] X fun e w' => e = .returned (.int .i64 (varC x)) ∧ X = w') := fun X => cvar_any x X h1 h2
  have HSN : Hid (supN P gs o x = match namedN P gs with
    | none => ([], 2)
    | some S => if decide (varC o ∈ S) = true then (if decide (varC x ∈ S) = true then (supL P gs x, 0) else ([], 6)) else ([], 2)) := rfl
  have hvx := varC_64 h1 h2
  have hmm := @run_makeMap Try.prog
  have f41 : Fence.wide.fn 41 := trivial
  obtain ⟨i0, hi, hzz0, hzz1, hzz2⟩ := info_parts info_int
  clear HP HG hW0 hb0 hbx hs1 hp
  generalize hRR : supN P gs o x = R at *
  clear hRR
  cases hN : namedN P gs with
  | none =>
    rw [hN] at HSN
    have HR : Hid (R = ([], 2)) := HSN.out
    have HNA : Hid (Calls Try.prog 40 #[.agg #[.slice pa P.length pc, .slice ga gs.length gc, .int .i64 o]] W0 fun e w' => e = .returned (.tuple #[.map none, .bool false]) ∧ Below W0.heap.size W0 w') := hna.mono (by
      rintro e w' ⟨hb, h | ⟨S, b, h3, _⟩⟩
      · exact ⟨h.2, hb⟩
      · rw [hN] at h3; cases h3)
    clear hna hN HSN
    rw [HR.out]
    refine callsIn_of_wp_marks Try.func13 rfl trivial ?_ rfl
    simp only [Try.ntmps13, List.size_toArray, List.length_cons, List.length_nil, Nat.reduceAdd, Nat.reduceSub, Array.replicate_succ, Array.replicate_zero, List.push_toArray, List.append_toArray, List.nil_append, List.cons_append]
    refine wpIn_wide.2 ?_
    go_upto_region 1 with fail
    rw [HW0.out]
    obtain ⟨p0, p1, p2⟩ := HXC.out W0 (Below.refl _ _)
    go_wp2_with (go_at_call 40; refine HNA.out.mono ?_; rintro e w1 ⟨rfl, hb1⟩)
    exact ⟨_, results_tmp2 rfl _ _ _, _, rfl, Own.nil _ _, HB0.out.trans (hb1.mono HB0.out.size)⟩
  | some S =>
    rw [hN] at HSN
    replace HSN : Hid (R = if decide (varC o ∈ S) = true then (if decide (varC x ∈ S) = true then (supL P gs x, 0) else ([], 6)) else ([], 2)) := HSN.out
    have hmp : mayP P = true := by
      unfold namedN at hN
      by_cases h : mayP P = true
      · exact h
      · rw [if_neg h] at hN; cases hN
    have hPv := (mayP_parts hmp).2.2.1
    have HPV := Lib.hid hPv
    have HNA : Hid (Calls Try.prog 40 #[.agg #[.slice pa P.length pc, .slice ga gs.length gc, .int .i64 o]] W0 fun e w' => ∃ b, e = .returned (.tuple #[.map (some b), .bool (decide (varC o ∈ S))]) ∧ SetI w' b S ∧ Below W0.heap.size W0 w') := hna.mono (by
      rintro e w' ⟨hb, h | ⟨S', b, h3, h4, _, h6⟩⟩
      · rw [hN] at h; cases h.1
      · rw [hN] at h3
        injection h3 with h3
        subst h3
        exact ⟨b, h4, h6, hb⟩)
    have HQ2 : Hid (∀ X, Below W0.heap.size W0 X → Calls Try.prog 42 #[.slice pa P.length pc] X fun e w' => e = .returned (.tuple #[.map (some X.heap.size), .bool true]) ∧ SetI w' X.heap.size (flatB P) ∧ Below X.heap.size X w') := fun X hX => (HQ.out X hX).mono (by
      rintro e w' ⟨hb, h | h⟩
      · exact ⟨h.2.1, h.2.2, hb⟩
      · rw [hmp] at h; cases h.1)
    have HZ : Hid (∀ X : World, (zeroValue 4).run Try.prog X = .ok (.bool false) X) := fun _ => rfl
    have HVW := Lib.hid (i64w hvx.1 hvx.2)
    clear hna hN hmp hPv hvx HQ
    cases ho : decide (varC o ∈ S) with
    | false =>
      rw [ho] at HSN HNA
      have HR : Hid (R = ([], 2)) := HSN.out
      clear ho HSN
      rw [HR.out]
      refine callsIn_of_wp_marks Try.func13 rfl trivial ?_ rfl
      simp only [Try.ntmps13, List.size_toArray, List.length_cons, List.length_nil, Nat.reduceAdd, Nat.reduceSub, Array.replicate_succ, Array.replicate_zero, List.push_toArray, List.append_toArray, List.nil_append, List.cons_append]
      refine wpIn_wide.2 ?_
      go_upto_region 1 with fail
      rw [HW0.out]
      obtain ⟨p0, p1, p2⟩ := HXC.out W0 (Below.refl _ _)
      go_wp2_with (go_at_call 40; refine HNA.out.mono ?_; rintro e w1 ⟨b, rfl, hs1, hb1⟩)
      exact ⟨_, results_tmp2 rfl _ _ _, _, rfl, Own.nil _ _, HB0.out.trans (hb1.mono HB0.out.size)⟩
    | true =>
      rw [ho] at HSN HNA
      clear ho
      cases hx : decide (varC x ∈ S) with
      | false =>
        have HX := Lib.hid hx
        rw [hx] at HSN
        have HR : Hid (R = ([], 6)) := HSN.out
        clear hx HSN
        rw [HR.out]
        refine callsIn_of_wp_marks Try.func13 rfl trivial ?_ rfl
        simp only [Try.ntmps13, List.size_toArray, List.length_cons, List.length_nil, Nat.reduceAdd, Nat.reduceSub, Array.replicate_succ, Array.replicate_zero, List.push_toArray, List.append_toArray, List.nil_append, List.cons_append]
        refine wpIn_wide.2 ?_
        go_upto_region 1 with fail
        rw [HW0.out]
        obtain ⟨p0, p1, p2⟩ := HXC.out W0 (Below.refl _ _)
        go_wp2_with (first
          | (go_at_call 40; refine HNA.out.mono ?_; rintro e w1 ⟨b, rfl, hs1, hb1⟩; have hlk := hs1.look (HZ.out w1) (varC x) HVW.out; rw [HX.out] at hlk)
          | (go_at_call 41; refine (HV.out _).mono ?_; rintro e w2 ⟨rfl, rfl⟩))
        exact ⟨_, results_tmp2 rfl _ _ _, _, rfl, Own.nil _ _, HB0.out.trans (hb1.mono HB0.out.size)⟩
      | true =>
        have HX := Lib.hid hx
        rw [hx] at HSN
        have HR : Hid (R = (supL P gs x, 0)) := HSN.out
        clear hx HSN
        rw [HR.out]
        refine callsIn_of_wp_marks Try.func13 rfl trivial ?_ rfl
        simp only [Try.ntmps13, List.size_toArray, List.length_cons, List.length_nil, Nat.reduceAdd, Nat.reduceSub, Array.replicate_succ, Array.replicate_zero, List.push_toArray, List.append_toArray, List.nil_append, List.cons_append]
        refine wpIn_wide.2 ?_
        go_upto_region 1 with fail
        rw [HW0.out]
        obtain ⟨p0, p1, p2⟩ := HXC.out W0 (Below.refl _ _)
        go_upto_region 8 with (first
          | (go_at_call 40; refine HNA.out.mono ?_; rintro e w1 ⟨b, rfl, hs1, hb1⟩; have hlk := hs1.look (HZ.out w1) (varC x) HVW.out; rw [HX.out] at hlk; have HB1 := Lib.hid hb1; clear hb1 hs1 p0 p1 p2; obtain ⟨p0, p1, p2⟩ := HXC.out w1 HB1.out)
          | (go_at_call 41; refine (HV.out _).mono ?_; rintro e w2 ⟨rfl, rfl⟩)
          | (go_at_call 42; refine (HQ2.out w1 HB1.out).mono ?_; rintro e w2 ⟨rfl, hs2, hb2⟩; have HB2 := Lib.hid (HB1.out.trans (hb2.mono HB1.out.size)); have HS2 := Lib.hid hs2; clear hb2 hs2 p0 p1 p2 hlk))
        obtain ⟨w3, hw3⟩ : ∃ w3, (w2.alloc (.cells #[.map (some w1.heap.size)] 83)).alloc (.cells #[.slice none 0 0] 28) = w3 := ⟨_, rfl⟩
        have q1 : Boxed w3 w2.heap.size 83 (.map (some w1.heap.size)) := by rw [← hw3]; exact (Boxed.new w2 83 (.map (some w1.heap.size))).alloc _
        have q2 : Boxed w3 (w2.heap.size + 1) 28 (.slice none 0 0) := by
          have h := Boxed.new (w2.alloc (.cells #[.map (some w1.heap.size)] 83)) 28 (.slice none 0 0)
          simp only [World.size_alloc] at h
          rw [← hw3]; exact h
        have hb23 : Below w2.heap.size w2 w3 := by rw [← hw3]; exact ((Below.refl _ w2).alloc (Nat.le_refl _) _).alloc (by simp) _
        have hz3 : w3.heap.size = w2.heap.size + 2 := by rw [← hw3]; simp
        have HS3 : Hid (SetI w3 w1.heap.size (flatB P)) := HS2.out.below hb23 (Nat.le_refl _)
        have HB3 : Hid (Below W0.heap.size W0 w3) := HB2.out.trans (hb23.mono HB2.out.size)
        have hz2 : W0.heap.size ≤ w1.heap.size ∧ w1.heap.size < w2.heap.size := ⟨HB1.out.size, HS2.out.lt⟩
        have HZ2 := Lib.hid hz2
        rw [hw3]
        clear hw3
        obtain ⟨w4, hw4⟩ : ∃ w4, (w3.alloc (.cells #[.slice ga gs.length gc] 23)).alloc (.cells #[.int .i64 x] 3) = w4 := ⟨_, rfl⟩
        have q3 : Boxed w4 w3.heap.size 23 (.slice ga gs.length gc) := by rw [← hw4]; exact (Boxed.new w3 23 (.slice ga gs.length gc)).alloc _
        have q4 : w4.cell? ⟨w3.heap.size + 1, 0, none⟩ = some (.int .i64 x) := by
          have h := cell_fresh (w := w3.alloc (.cells #[.slice ga gs.length gc] 23)) (c := #[.int .i64 x]) (T := 3) (i := 0) (v := .int .i64 x) rfl
          simp only [World.size_alloc] at h
          rw [← hw4]; exact h
        have hb34 : Below w3.heap.size w3 w4 := by rw [← hw4]; exact ((Below.refl _ w3).alloc (Nat.le_refl _) _).alloc (by simp) _
        have hz4 : w4.heap.size = w3.heap.size + 2 := by rw [← hw4]; simp
        have c1 : Boxed w4 w2.heap.size 83 (.map (some w1.heap.size)) := by rw [← hw4]; exact (q1.alloc _).alloc _
        have c2 : Boxed w4 (w2.heap.size + 1) 28 (.slice none 0 0) := by rw [← hw4]; exact (q2.alloc _).alloc _
        have C1 := Lib.hid c1
        have C2 := Lib.hid c2
        have C3 := Lib.hid q3
        have C4 := Lib.hid q4
        have HZ4 := Lib.hid hz4
        have HZ3 := Lib.hid hz3
        have HS4 : Hid (SetI w4 w1.heap.size (flatB P)) := HS3.out.below hb34 (Nat.le_refl _)
        have HB4 : Hid (Below w.heap.size w w4) := HB0.out.trans ((HB3.out.trans (hb34.mono HB3.out.size)).mono HB0.out.size)
        have HW4 := Lib.hid hw4
        obtain ⟨p0, p1, p2⟩ := HXC.out w3 HB3.out
        have HRI := Lib.hid ((callsIn_wide (n := 7)).1 (reached_in 7 ga gs.length gc x w3))
        clear q1 q2 q3 q4 c1 c2 hb23 hb34 hz3 hz4 hw4 hz2 HR HNA HQ2 HV HX
        go_wp2_with (go_at_call 43; refine HRI.out.mono ?_; rintro e w5 ⟨rfl, rfl⟩)
        rw [HW4.out]
        clear HW4 HRI p0 p1 p2
        have hz4 := HZ4.out
        have hz3 := HZ3.out
        have hz2 := HZ2.out
        have hz0 := HB0.out.size
        have hb1 : Boxed w4 w3.heap.size 23 (.slice ga gs.length gc) := C3.out
        refine (wpIn_wide (n := 8)).1 ?_
        refine wpIn_rangeAll rfl (by omega) (gf := 77) (lb := #[.pointer (some ⟨w3.heap.size + 1, 0, none⟩), .pointer (some ⟨w3.heap.size, 0, none⟩)]) rfl trivial (enters_of Try.func77 (by kernel_rfl) rfl)
          (reach_own 7 (by omega) w w4 _ gs x (w3.heap.size + 1) w3.heap.size HGG.out h1 h2 HB4.out (by omega) C4.out C3.out) (fun h k => h.trans k)
          (fun W1 o' hl1 => ⟨(Below.refl _ W1).grown (grownBy_putObj' W1 _ o') (by omega) (fun k e => by cases e; omega), fun k o hk ho _ => (World.putObj_heap_other (by omega)).trans ho⟩) (fun _ => rfl)
          (fun pre W1 => (((∃ v, Boxed W1 (w2.heap.size + 1) 28 v ∧ Own W1 w.heap.size v (onP P (pre.map (fun x => x.1)))) ∧ SetI W1 w1.heap.size (flatB P)) ∧ Boxed W1 w2.heap.size 83 (.map (some w1.heap.size))) ∧ Below w.heap.size w W1)
          (fun s A B row hs hg hr => by
            obtain ⟨⟨⟨⟨v, h1, h2⟩, h3⟩, h4⟩, h5⟩ := hs
            have hne : ∀ B', B' < w4.heap.size → row ≠ some B' := fun B' hB' e => by have := (hr _ e).1; omega
            refine ⟨⟨⟨⟨v, h1.kept hg (fun e => hne _ (by omega) e.symm), h2.kept hg ?_⟩, h3.grown hg (hne _ (by omega))⟩, h4.kept hg (fun e => hne _ (by omega) e.symm)⟩, h5.grown hg h5.size (fun k e => by have := (hr k e).1; omega)⟩
            rcases h2.2 with ⟨rfl, _⟩ | ⟨g, cap', cur, rfl, _, hgb, _⟩
            · exact .inl rfl
            · refine .inr (fun e => ?_)
              obtain ⟨_, o, ho, hc⟩ := hr g e.symm
              rw [hgb] at ho
              cases ho
              cases hc)
          ⟨⟨⟨⟨_, C2.out, Own.nil _ _⟩, HS4.out⟩, C1.out⟩, HB4.out⟩
          (fun e => { tmps := #[.agg #[.slice pa P.length pc, .slice ga gs.length gc, .int .i64 o], .int .i64 x, .pointer (some ⟨w.heap.size, 0, none⟩), undef, .slice none 0 0, .int .i64 0, .map (some b), .bool true, .pointer (some ⟨w2.heap.size, 0, none⟩), .bool true, .pointer (some ⟨w2.heap.size + 1, 0, none⟩), .int .i64 e.1, .tuple #[.map (some b), .bool true], .agg #[.slice pa P.length pc, .slice ga gs.length gc, .int .i64 o], .tuple #[.map (some b), .bool true], .map (some b), .bool true, .bool true, .bool false, .map (some b), .int .i64 x, .int .i64 (varC x), .bool true, .bool false, .tuple #[.map (some w1.heap.size), .bool true], .pointer (some ⟨w.heap.size, 0, none⟩), .slice pa P.length pc, .tuple #[.map (some w1.heap.size), .bool true], .map (some w1.heap.size), .bool true, .pointer (some ⟨w.heap.size, 1, none⟩), .slice ga gs.length gc, .int .i64 x, .func (.func 77) #[] #[.pointer (some ⟨w3.heap.size + 1, 0, none⟩), .pointer (some ⟨w3.heap.size, 0, none⟩)], .int .i64 e.1, undef, undef, undef, undef, undef, undef, undef, undef, undef, undef], defers := [] }) ?assign ?body ?done
        case assign =>
          clear hz3 hz4
          intro l e W K hK
          gi_wp2
          exact hK
        case body =>
          rintro lp pre ⟨y, hy⟩ W1 ⟨⟨⟨⟨v, hbx, hown⟩, hset⟩, hbm⟩, hbel⟩ hlen
          simp only at hy ⊢
          have c8 := hbm.cell
          have c10 := hbx.cell
          have hlk := hset.look (HZ.out W1) y (i64w (by omega) (by omega))
          have hszW := hbel.size
          have HSN : Hid (onP P ((pre ++ [(⟨y, hy⟩ : V16)]).map (fun x : V16 => x.1)) = if decide (y ∈ flatB P) = true then onP P (pre.map (fun x => x.1)) ++ [y] else onP P (pre.map (fun x => x.1))) := by show _ = _; rw [List.map_append]; exact onP_snoc _ _ _
          have hfl : (onP P (pre.map (fun x => x.1))).length < 4000000 := by
            have h1 := onP_len P (pre.map (fun x => x.1))
            rw [List.length_map] at h1
            omega
          generalize onP P (pre.map (fun x => x.1)) = F at *
          have HBX := Lib.hid hbx
          have HO := Lib.hid hown
          have HSE := Lib.hid hset
          have K0 := Lib.hid hbm
          have HB := Lib.hid hbel
          clear hbx hown hset hbm hbel
          cases hin : decide (y ∈ flatB P) with
          | false =>
            rw [hin] at HSN hlk
            have HV : Hid (onP P ((pre ++ [(⟨y, hy⟩ : V16)]).map (fun x : V16 => x.1)) = F) := HSN.out
            clear hin HSN
            gi_wp2
            exact ⟨KeepsFrom.refl _ _, KpR.refl _ _ _ _, ⟨⟨⟨v, HBX.out, by rw [HV.out]; exact HO.out⟩, HSE.out⟩, K0.out⟩, HB.out⟩
          | true =>
            rw [hin] at HSN hlk
            have HV : Hid (onP P ((pre ++ [(⟨y, hy⟩ : V16)]).map (fun x : V16 => x.1)) = F ++ [y]) := HSN.out
            clear hin HSN
            have hbd1 : F.length + 1 ≤ maxLen := by unfold maxLen; omega
            have hbd2 : (F.length + 1) * 8 ≤ 140737488355328 := by omega
            have hrow : W1.ownsRow w.heap.size 3 1 v F.length (F.map (Value.int .i64)) := HO.out
            have hB1a : w.heap.size ≤ (W1.alloc (.cells #[.int .i64 y] 3)).heap.size := by simp; omega
            have hle1 : w.heap.size ≤ w2.heap.size + 1 := by omega
            have HBT := Lib.hid HBX.out
            gi_wp2_with (gi_at_builtin; go_loud (refine wpListIn_append_own _ rfl _ _ 28 rfl w.heap.size 3 i0 (.int .i64 0) 1 8 Try.underlying28 hi hzz0 hzz1 hzz2 rfl (by decide) _ _ _ rfl (hrow.alloc _) ⟨W1.heap.size, 0, none⟩ 1 1 [.int .i64 y] rfl rfl (cell_one_new _ _ _) (by simp [Value.oneCell']) hbd1 hbd2 hB1a ?_; intro v' w6 hown' hgrow _; obtain ⟨g', cap', rfl⟩ := ownsRow_succ hown'; obtain ⟨hv1, hv2, hr2, hk2, hb2⟩ := HBT.out.appended (by decide) hrow hszW hle1 hown' hgrow; have hc1 := hv1.cell; have hf1 := hv1.frozen))
            have k0 := ((K0.out.alloc (.cells #[.int .i64 y] 3)).kept hgrow (K0.out.not_row (by decide) hrow)).other (B' := w2.heap.size + 1) (by omega) (.slice (some ⟨g', 0, none⟩) (F.length + 1) cap')
            refine ⟨hk2.from _, ⟨hb2, fun k ob hk ho hkp => ?_⟩, ⟨⟨⟨_, hv2, ?_⟩, HSE.out.kpOthers hk2⟩, k0⟩, HB.out.trans hb2⟩
            · have hne : k ≠ w2.heap.size + 1 := by omega
              have hlt : k < W1.heap.size := (Array.getElem?_eq_some_iff.1 ho).1
              refine (Below.heap_setCell _ _ _ _ hne).trans ((hgrow.block k (by simp; omega) (fun e => ?_)).trans ((Below.heap_alloc _ _ _ hlt).trans ho))
              rcases hrow.2 with ⟨rfl, _⟩ | ⟨g, cap, cur, rfl, _, hgb, _⟩
              · have e' : some k = (Value.slice none 0 0).ownBlock := e
                simp [Value.ownBlock] at e'
              · have e' : some k = (Value.slice (some ⟨g, 0, none⟩) F.length cap).ownBlock := e
                have e2 : k = g := by simpa [Value.ownBlock] using e'
                subst e2
                rw [ho] at hgb
                injection hgb with hgb
                subst hgb
                exact hkp rfl
            · rw [HV.out]
              unfold Own
              rw [List.length_append, List.map_append]
              exact hr2
        case done =>
          rintro D ys W hD hys ⟨⟨⟨⟨v, hbx, hown⟩, hset⟩, hbm⟩, hbel⟩ hK
          rw [hys] at hown
          have hszW := hbel.size
          have hln : (onP P (reachL gs x)).length ≤ 17592186044416 := by
            have h1 := onP_len P (reachL gs x)
            have h2 := vset_len (vset_up gs x gs.length)
            have e : reachUp gs x gs.length = reachL gs x := rfl
            rw [e] at h2
            omega
          have HSP : Hid (supL P gs x = ascI (onP P (reachL gs x))) := (sup_is HPV.out).symm
          have HSO := Lib.hid (sort2_any w.heap.size v _ W hown hszW hln)
          have hc1 := hbx.cell
          have hne1 : v.ownBlock ≠ some (w2.heap.size + 1) := fun e => hbx.not_row (by decide) (show W.ownsRow w.heap.size 3 1 v _ _ from hown) e.symm
          have hne2 : v.ownBlock ≠ some D := fun e => by
            rcases hown.2 with ⟨rfl, _⟩ | ⟨g, cap', cur, rfl, _, hgb, _⟩
            · cases e
            · have : g = D := by simpa [Value.ownBlock] using e
              subst this
              rw [hgb] at hK
              cases hK
          generalize onP P (reachL gs x) = F at *
          go_wp2_with (go_at_call 44; go_loud (refine HSO.out.mono ?_; rintro e w7 ⟨rfl, hown3, hb3', hk3⟩; have hbx3 : Boxed w7 (w2.heap.size + 1) 28 v := (hk3.block _ hbx.lt hne1).trans hbx; have hc3 := hbx3.cell))
          have hK' : w7.heap[D]? = some (.deferred (some [])) := (hk3.block D (Array.getElem?_eq_some_iff.1 hK).1 hne2).trans hK
          refine ⟨by simp, .inl ⟨_, _, rfl, run_takeDeferred hK', ?_⟩⟩
          refine ⟨_, results_tmp2 rfl _ _ _, v, rfl, ?_, (hbel.trans hb3').trans ((Below.refl _ _).grown (grownBy_putObj' w7 D (.deferred none)) (by have := hb3'.size; omega) (fun k e => by injection e; omega))⟩
          rw [HSP.out]
          exact (Kept.of_grown (grownBy_putObj' w7 D (.deferred none))).row hown3 (fun g hg e => hne2 (by rw [hg]; exact e.symm))
end Go.Proofs.Ytldgdfchemjcmaa

/- The reference's Support (layer 5). -/
namespace Go.Proofs.Ytldgdfchemjcmaa
open Go.RowKit Go.Maps Go.Shelf
set_option linter.unusedVariables false
set_option linter.unusedSimpArgs false

/-- What the reference puts out. -/
def supR (P : List Blk) (gs : List Gt) (x : Int) (i : Nat) : Bool := reachM gs (fun j => decide (j = abs5 x)) (i : Int) && decide ((i : Int) ∈ flatB P)
theorem supR_is {P : List Blk} {gs : List Gt} {x : Int} (hx : 1 ≤ varC x ∧ varC x ≤ 65536) (hl : ∀ g ∈ gs, ∀ y ∈ g.2.2, 1 ≤ varC y ∧ varC y ≤ 65536) : fromOne (supR P gs x) 65536 = supL P gs x := by
  unfold supL
  congr 1
  funext i
  unfold supR
  congr 1
  rw [Bool.eq_iff_iff, reach_same (S := tellL [] x) (fun j => ?_) gs hl, reachL_R]
  · simp
  · rw [tell_mem hx, abs5_var (by omega)]
    simp

set_option maxHeartbeats 6400000 in
set_option maxRecDepth 100000 in
theorem rsup5_any (vp vg : Value) (o x : Int) (P : List Blk) (gs : List Gt) (w : World) (HP : IsBlocks w vp P) (HG : IsGates w vg gs) (hp : P.length ≤ 4000000) (hg : gs.length < 1000000) (ho1 : -9223372036854775808 ≤ o) (ho2 : o ≤ 9223372036854775807) (h1 : -9223372036854775808 ≤ x) (h2 : x ≤ 9223372036854775807) :
    Calls Try.prog 14 #[.agg #[vp, vg, .int .i64 o], .int .i64 x] w fun e w' => ∃ v, e = .returned (.tuple #[v, .int .i64 (supN P gs o x).2]) ∧ Own w' w.heap.size v (supN P gs o x).1 ∧ Below w.heap.size w w' := by
  obtain ⟨pa, pc, rfl, _⟩ := HP.shape
  obtain ⟨ga, gc, rfl, _⟩ := HG.shape
  obtain ⟨W0, hW0⟩ : ∃ W0, w.alloc (.cells #[.slice pa P.length pc, .slice ga gs.length gc, .int .i64 o] 25) = W0 := ⟨_, rfl⟩
  have hb0 : Below w.heap.size w W0 := by rw [← hW0]; exact below_new _ _
  have hbx := box_new w (.slice pa P.length pc) (.slice ga gs.length gc) o
  rw [hW0] at hbx
  have hs1 : W0.heap.size = w.heap.size + 1 := by rw [← hW0]; simp
  have HXC : Hid (∀ X, Below W0.heap.size W0 X → BoxN X w.heap.size (.slice pa P.length pc) (.slice ga gs.length gc) o) := fun X hX => hbx X (hX.mono (by omega))
  have HW0 := Lib.hid hW0
  have HB0 := Lib.hid hb0
  have HPW := Lib.hid (HP.below hb0 (Nat.le_refl _))
  have HGW := Lib.hid (HG.below hb0 (Nat.le_refl _))
  have HM := Lib.hid (rmay5_any _ _ o P gs W0 HPW.out HGW.out hp hg ho1 ho2)
  clear HP HG hW0 hb0 hbx hs1 hp
  cases hm : mayN P gs o with
  | false =>
    rw [hm] at HM
    have HR : Hid (supN P gs o x = ([], 2)) := by
      show _ = _
      unfold mayN at hm
      unfold supN
      cases hn : namedN P gs with
      | none => rfl
      | some S => rw [hn] at hm; simp only at hm ⊢; rw [hm]; simp
    rw [HR.out]
    clear hm HR
    go_enter Try.func14, Try.ntmps14
    go_upto_region 1 with fail
    rw [HW0.out]
    obtain ⟨p0, p1, p2⟩ := HXC.out W0 (Below.refl _ _)
    go_wp2_with (go_at_call 16; refine HM.out.mono ?_; rintro e w1 ⟨rfl, hb1⟩)
    go_ret2
    exact ⟨_, rfl, Own.nil _ _, HB0.out.trans (hb1.mono HB0.out.size)⟩
  | true =>
    rw [hm] at HM
    obtain ⟨S, hmp, hn, hnl, ho, hP⟩ := mayN_named hm
    have hrun := mayN_runs hm []
    have HGS : Hid (∀ g ∈ gs, (0 ≤ g.1 ∧ g.1 ≤ 65536) ∧ ∀ y ∈ g.2.2, abs5 y ≤ 65536) := fun g hgm => ⟨(hrun.2.1 g hgm).1, fun y hy => by
      have h9 := (hrun.2.1 g hgm).2.2 y hy
      rw [abs5_var h9.1]; exact h9.2⟩
    have hfull := namedL_full gs _ _ _ hnl
    have HSV : Hid (∀ y ∈ S, 1 ≤ y ∧ y ≤ 65536) := (namedL_gates gs _ _ S hnl hP).2
    have HKN : Hid (knownB (fun i => decide (i ∈ S)) x = decide (varC x ∈ S)) := known_mem HSV.out h1 h2
    have HR : Hid (supN P gs o x = if decide (varC x ∈ S) = true then (supL P gs x, 0) else ([], 6)) := by
      show _ = _
      unfold supN
      rw [hn]
      simp only
      rw [if_pos (by simpa using ho)]
    have HLT : Hid (∀ g ∈ gs, ∀ y ∈ g.2.2, 1 ≤ varC y ∧ varC y ≤ 65536) := namedL_lits gs _ _ S hnl hP
    have HFB := Lib.hid hP
    have HFU := Lib.hid hfull
    have hfl := (mayP_short hmp).1
    have HVA : Hid (∀ X, Below W0.heap.size W0 X → Calls Try.prog 33 #[.slice pa P.length pc] X fun e w' => ∃ u, e = .returned u ∧ Own w' X.heap.size u (flatB P) ∧ Below X.heap.size X w') := fun X hX => vars5_any _ P X (HPW.out.below hX (Nat.le_refl _)) (by omega)
    have HMK : Hid (∀ X u B, B ≤ X.heap.size → Own X B u (flatB P) → Calls Try.prog 45 #[u] X fun e w' => ∃ b, e = .returned (.slice (some ⟨b, 0, none⟩) nM nM) ∧ Mk w' X.heap.size b (fun x => decide (x ∈ flatB P)) ∧ Below X.heap.size X w') := fun X u B hB h => marks5_any u (flatB P) X (h.ints (by omega) (fun y hy => by have := HFB.out y hy; omega)) (fun y hy => by have := HFB.out y hy; omega)
    clear hm hmp hn hnl ho hP hrun hfull hfl
    go_enter Try.func14, Try.ntmps14
    go_upto_region 1 with fail
    rw [HW0.out]
    obtain ⟨p0, p1, p2⟩ := HXC.out W0 (Below.refl _ _)
    go_upto_region 4 with (first
      | (go_at_call 16; refine HM.out.mono ?_; rintro e w1 ⟨rfl, hb1⟩; have HB1 := Lib.hid hb1; clear hb1 p0 p1 p2; obtain ⟨p0, p1, p2⟩ := HXC.out w1 HB1.out)
      | (go_at_call 33; refine (HVA.out w1 HB1.out).mono ?_; rintro e w2 ⟨u2, rfl, ho2x, hb2⟩; have HO2 := Lib.hid ho2x; have HB2 := Lib.hid (HB1.out.trans (hb2.mono HB1.out.size)); have HS2 := Lib.hid hb2.size; clear ho2x hb2)
      | (go_at_call 45; refine (HMK.out w2 u2 _ HS2.out HO2.out).mono ?_; rintro e w3 ⟨b3, rfl, hmk, hb3⟩; have HB3 := Lib.hid (HB2.out.trans (hb3.mono HB2.out.size)); have HM3 := Lib.hid hmk; clear hmk hb3 p0 p1 p2; obtain ⟨p0, p1, p2⟩ := HXC.out w3 HB3.out))
    go_wp2_with (first
      | (go_at_call 33; refine (HVA.out w3 HB3.out).mono ?_; rintro e w4 ⟨u4, rfl, ho4x, hb4⟩; have HO4 := Lib.hid ho4x; have HB34 := Lib.hid hb4; have HB4 := Lib.hid (HB3.out.trans (hb4.mono HB3.out.size)); have HS4 := Lib.hid hb4.size; clear ho4x hb4)
      | (go_at_call 45; refine (HMK.out w4 u4 _ HS4.out HO4.out).mono ?_; rintro e w5 ⟨b5, rfl, hmk, hb5⟩; have HB45 := Lib.hid hb5; have HB5 := Lib.hid (HB4.out.trans (hb5.mono HB4.out.size)); have HM5 := Lib.hid hmk; clear hmk hb5 p0 p1 p2))
    have HM35 : Hid (Mk w5 w2.heap.size b3 (fun x => decide (x ∈ flatB P))) := (HM3.out.below HB34.out (Nat.le_refl _)).below HB45.out (Nat.le_refl _)
    have HNE : Hid (b3 ≠ b5) := by
      show _ ≠ _
      have e1 := (HM3.out.below HB34.out (Nat.le_refl _)).lt
      have e2 := HM5.out.lt
      omega
    have HB5L : Hid (W0.heap.size ≤ b5) := by show _ ≤ _; have e2 := HM5.out.lt; have := HB4.out.size; omega
    go_loopw [8] (fun i wr => ∃ k : Nat, k ≤ gs.length ∧ i = .int .i64 k ∧ Mk wr w4.heap.size b5 (fun x => decide (x ∈ flatB P ++ (gs.take k).map (fun g => g.1))) ∧ Mk wr w2.heap.size b3 (fun x => decide (x ∈ flatB P)) ∧ Below W0.heap.size W0 wr) (fun i _ => gs.length - (intOf i).toNat)
    case atStart => exact ⟨0, Nat.zero_le _, rfl, HM5.out.congr (fun i _ _ => by simp), HM35.out, HB5.out⟩
    case round =>
      obtain ⟨k, hk, rfl, hmk, hmk3, hbel⟩ := hrel
      have HM := Lib.hid hmk
      have HMI := Lib.hid hmk3
      have HB := Lib.hid hbel
      obtain ⟨p0, p1, p2⟩ := HXC.out wr hbel
      clear hmk hmk3 hbel
      by_cases hlt : k < gs.length
      · obtain ⟨pb, off, u3, rfl, hb, hcx0, hck0, hcu0, HU0, hrg⟩ := HGW.out.at hlt
        have hcx := (HB.out.cell (p := ⟨pb, off + k * 3, none⟩) hb).trans hcx0
        have hgm : gs.getD k dG ∈ gs := by simp [List.getD, hlt]
        have hr := (HGS.out _ hgm).1
        have HTK : Hid ((gs.take (k + 1)).map (fun g => g.1) = (gs.take k).map (fun g => g.1) ++ [(gs.getD k dG).1]) := by show _ = _; rw [gates_take hlt, List.map_append]; rfl
        have hk0 : (0 : Int) ≤ (k : Int) := by omega
        have hk1 : (k : Int) < (gs.length : Int) := by omega
        have hk2 : (k : Int) < 4000001 := by omega
        have HKL := Lib.hid hlt
        clear hlt hcx0 hck0 hcu0 HU0 hgm hk hrg
        generalize (gs.take k).map (fun g => g.1) = bs at *
        generalize gs.getD k dG = y at *
        obtain ⟨y1, y2, y3⟩ := y
        simp only at hcx hr HTK
        obtain ⟨n, rfl⟩ := Int.eq_ofNat_of_zero_le hr.1
        have hn : n < nM := by rw [nM_eq]; omega
        have hn0 : (0 : Int) ≤ (n : Int) := by omega
        have hn1 : (n : Int) < (nM : Int) := by omega
        have m0 := HM.out.cell hn
        have m1 := HM.out.frozen n
        have HM2 := Lib.hid (HM.out.set n hn true)
        have HMI2 := Lib.hid (Mk.set_other (i := n) (v := .bool true) HMI.out HNE.out)
        have HB2x := Lib.hid (HB.out.setCell (p := ⟨b5, n, none⟩) (u := .bool true) HB5L.out)
        clear hr
        go_wp2
        go_roundw
        case rel => exact ⟨k + 1, HKL.out, by go_num, HM2.out.congr (fun i _ _ => by
          rw [HTK.out]
          unfold updB
          by_cases e : i = (n : Int)
          · subst e; simp
          · rw [if_neg e]; simp [e]), HMI2.out, HB2x.out⟩
        case measure => have := HKL.out; simp [intOf]; omega
      · have HMS : Hid (Mk wr w4.heap.size b5 (fun i => decide (i ∈ S))) := by
          have h := HM.out
          rw [List.take_of_length_le (by omega), ← HFU.out] at h
          exact h
        have HKC := Lib.hid (known5_any _ _ _ x wr HMS.out h1 h2)
        rw [HKN.out] at HKC
        clear HM HMS HKN
        cases hx : decide (varC x ∈ S) with
        | false =>
          rw [hx] at HR HKC
          have HR2 : Hid (supN P gs o x = ([], 6)) := HR.out
          clear hx HR
          go_wp2_with (go_at_call 46; refine HKC.out.mono ?_; rintro e w7 ⟨rfl, rfl⟩)
          go_ret2
          rw [HR2.out]
          exact ⟨_, rfl, Own.nil _ _, HB0.out.trans (HB.out.mono HB0.out.size)⟩
        | true =>
          rw [hx] at HR HKC
          have hxv := HSV.out _ (of_decide_eq_true hx)
          have HRC := Lib.hid (fun X (hX : Below W0.heap.size W0 X) => reached5_any _ gs x X (HGW.out.below hX (Nat.le_refl _)) hg h1 h2 (by rw [abs5_var (by omega)]; exact hxv.2) HGS.out)
          obtain ⟨gn, hgn⟩ : ∃ gn : Nat, gn = 65536 := ⟨_, rfl⟩
          have hg1 : (gn : Int) ≤ 65536 := by omega
          have hg2 : (65536 : Int) ≤ (gn : Int) := by omega
          have HGN := Lib.hid hgn
          have HRR : Hid (supN P gs o x = (fromOne (supR P gs x) gn, 0)) := by
            show _ = _
            rw [hgn, HR.out, supR_is hxv HLT.out]
            exact if_pos rfl
          have HPD : Hid (∀ i : Nat, supR P gs x i = (reachM gs (fun j => decide (j = abs5 x)) (i : Int) && decide ((i : Int) ∈ flatB P))) := fun i => rfl
          clear hx hxv HR hgn
          generalize supR P gs x = q at *
          generalize reachM gs (fun j => decide (j = abs5 x)) = F at *
          go_wp2_with (first
            | (go_at_call 46; refine HKC.out.mono ?_; rintro e w7 ⟨rfl, rfl⟩)
            | (go_at_call 47; refine (HRC.out wr HB.out).mono ?_; rintro e w8 ⟨b8, rfl, hmk8, hb8⟩; have HM8 := Lib.hid hmk8; have HB8x := Lib.hid hb8; have HB8 := Lib.hid (HB.out.trans (hb8.mono HB.out.size)); have HMI8 := Lib.hid (HMI.out.below hb8 (Nat.le_refl _)); clear hmk8 hb8 p0 p1 p2))
          go_loopw [10, 11] (fun out v wr2 => ∃ m : Nat, m ≤ gn ∧ v = .int .i64 ((m : Int) + 1) ∧ Own wr2 w8.heap.size out (fromOne q m) ∧ Below w8.heap.size w8 wr2) (fun _ v _ => gn + 1 - (intOf v).toNat)
          case atStart => exact ⟨0, Nat.zero_le _, rfl, Own.nil _ _, Below.refl _ _⟩
          case round =>
            obtain ⟨m, hm, rfl, hown, hbel⟩ := hrel
            obtain ⟨oa, oc, rfl⟩ := own_shC hown
            have HLM := Lib.hid (fromOne_len q m)
            have hszr := hbel.size
            have HOW := Lib.hid hown
            have HBE := Lib.hid hbel
            have hm0 : (0 : Int) ≤ (m : Int) := by omega
            by_cases hlt : m < gn
            · have hle : (m : Int) + 1 ≤ 65536 := by omega
              have hpos : (0 : Int) ≤ (m : Int) + 1 := by omega
              have hm1 : m + 1 < nM := by rw [nM_eq]; have := HGN.out; omega
              have hn1 : (m : Int) + 1 < (nM : Int) := by omega
              have t0 := (HM8.out.below hbel (Nat.le_refl _)).cell hm1
              have t1 := (HMI8.out.below hbel (Nat.le_refl _)).cell hm1
              have hq := HPD.out (m + 1)
              rw [show ((m + 1 : Nat) : Int) = (m : Int) + 1 by omega] at t0 t1 hq
              have HHI := Lib.hid (fromOne_hit (p := q) (k := m))
              have HMI9 := Lib.hid (fromOne_miss (p := q) (k := m))
              have HLT2 := Lib.hid hlt
              clear hown hbel hlt
              generalize q (m + 1) = qq at *
              generalize F ((m : Int) + 1) = r1 at *
              generalize decide ((m : Int) + 1 ∈ flatB P) = r2 at *
              generalize fromOne q m = L at *
              cases r1 with
              | false =>
                have HLL := Lib.hid (HMI9.out (by rw [hq]; rfl))
                clear hq HHI HMI9
                go_wp2
                go_roundw
                case rel => exact ⟨m + 1, HLT2.out, by go_num, by rw [HLL.out]; exact HOW.out, HBE.out⟩
                case measure => have := HLT2.out; simp [intOf]; omega
              | true =>
                cases r2 with
                | false =>
                  have HLL := Lib.hid (HMI9.out (by rw [hq]; rfl))
                  clear hq HHI HMI9
                  go_wp2
                  go_roundw
                  case rel => exact ⟨m + 1, HLT2.out, by go_num, by rw [HLL.out]; exact HOW.out, HBE.out⟩
                  case measure => have := HLT2.out; simp [intOf]; omega
                | true =>
                  have HLL := Lib.hid (HHI.out (by rw [hq]; rfl))
                  clear hq HHI HMI9
                  go_wp2_with (at_builtin; refine wpList_app1 rfl (.tmp 60) (.tmp 62) rfl w8.heap.size (.slice oa L.length oc) L ((m : Int) + 1) wr.heap.size rfl rfl (HOW.out.alloc _) (cell_fresh rfl) (by have := HLM.out; have := HLT2.out; omega) (by simp; omega) ?_; intro v2 w9 ho9 hg9; have hlo : ∀ g, (Value.slice oa L.length oc).ownBlock = some g → w8.heap.size ≤ g := fun g hg => (HOW.out.lt g hg).1; have HB9 : Hid (Below w8.heap.size w8 w9) := (HBE.out.alloc HBE.out.size _).grown hg9 (by simp; omega) (fun g hg => by have := hlo g hg; omega); have HO9 := Lib.hid ho9; clear ho9 hg9 hlo)
                  go_roundw
                  case rel => exact ⟨m + 1, HLT2.out, by go_num, by rw [HLL.out]; exact HO9.out, HB9.out⟩
                  case measure => have := HLT2.out; simp [intOf]; omega
            · have hmg : m = gn := by omega
              have hle : ¬ ((m : Int) + 1 ≤ 65536) := by omega
              have hleb : decide ((m : Int) + 1 ≤ 65536) = false := by simpa using hle
              have HMG : Hid (m = gn) := hmg
              clear hmg hlt hle hown hbel
              go_wp2
              go_ret2
              rw [HRR.out]
              have h2 : ∀ L', fromOne q m = L' → Own wr w.heap.size (.slice oa (fromOne q m).length oc) L' := fun L' e => by subst e; exact HOW.out.mono (Nat.le_trans HB0.out.size HB8.out.size)
              exact ⟨_, rfl, h2 _ (by rw [HMG.out]), HB0.out.trans ((HB8.out.trans (HBE.out.mono HB8.out.size)).mono HB0.out.size)⟩
end Go.Proofs.Ytldgdfchemjcmaa
