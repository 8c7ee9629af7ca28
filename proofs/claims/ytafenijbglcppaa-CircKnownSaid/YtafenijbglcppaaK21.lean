/- Joined texts: CxSup, CxRSup. -/
import Derived.Test.YtafenijbglcppaaK12
import Derived.Test.YtafenijbglcppaaK19
import Derived.Test.YtafenijbglcppaaK03
import Derived.Maps.AppendAt
import Derived.Test.YtafenijbglcppaaK20
/- circ.Support. -/
namespace Go.Proofs.Ytafenijbglcppaa
open Go.RowKit Go.Shelf Go.Maps
set_option linter.unusedVariables false
set_option linter.unusedSimpArgs false
attribute [local go_sem] Oper.semAt_some

/-- Of what has been reached, the variables of the prefix. -/
def onP (P : List Blk) (l : List Int) : List Int := l.filter (fun v => decide (v ∈ flatB P))
theorem onP_snoc (P : List Blk) (l : List Int) (x : Int) : onP P (l ++ [x]) = if decide (x ∈ flatB P) = true then onP P l ++ [x] else onP P l := by
  unfold onP
  rw [List.filter_append]
  by_cases h : decide (x ∈ flatB P) = true
  · rw [if_pos h]; simp only [List.filter_cons, h, if_true, List.filter_nil]
  · rw [if_neg h]; simp only [List.filter_cons, h, if_false, List.filter_nil, List.append_nil]; simp
theorem onP_len (P : List Blk) (l : List Int) : (onP P l).length ≤ l.length := List.length_filter_le _ _
theorem asc_strict {l : List Int} (h : l.Nodup) : (ascI l).Pairwise (· < ·) := by
  have h1 := ascI_sorted l
  have h2 : (ascI l).Nodup := (ascI_perm l).nodup_iff.2 h
  exact h1.imp₂ (fun a b h3 h4 => by have h5 : a ≠ b := h4; omega) h2
theorem sup_is {P : List Blk} {gs : List Gt} {x : Int} (hP : ∀ y ∈ flatB P, 1 ≤ y ∧ y ≤ 65536) : ascI (onP P (reachL gs x)) = supL P gs x := by
  have hv := vset_up gs x gs.length
  refine ascending_one (asc_strict (hv.1.filter _)) (fromOne_asc _ _) (fun i => ?_)
  rw [ascI_mem, supL_mem hP]
  unfold onP
  rw [List.mem_filter]
  simp
theorem SetI.kpOthers {w w' : World} {b : Nat} {S : List Int} (h : SetI w b S) (k : KeepsOthers w w') : SetI w' b S := by
  obtain ⟨hn, D, ⟨es, clock, hb, F, rest⟩, h2⟩ := h
  exact ⟨hn, D, ⟨es, clock, k.same b _ hb rfl, F, rest⟩, h2⟩

set_option maxRecDepth 100000 in
set_option maxHeartbeats 3200000 in
theorem csup_any (vp vg : Value) (o x : Int) (P : List Blk) (gs : List Gt) (w : World) (HP : IsBlocks w vp P) (HG : IsGates w vg gs) (hp : P.length ≤ 4000000) (hg : gs.length ≤ 3000000) (ho1 : -9223372036854775808 ≤ o) (ho2 : o ≤ 9223372036854775807) (h1 : -9223372036854775808 ≤ x) (h2 : x ≤ 9223372036854775807) :
    Calls Try.prog 9 #[.agg #[vp, vg, .int .i64 o], .int .i64 x] w fun e w' => ∃ v, e = .returned (.tuple #[v, .int .i64 (supN P gs o x).2]) ∧ Own w' w.heap.size v (supN P gs o x).1 ∧ Below w.heap.size w w' := by
  refine (callsIn_wide (n := 8)).1 ?_
  have HGG := Lib.hid HG
  obtain ⟨pa, pc, rfl, _⟩ := HP.shape
  obtain ⟨ga, gc, rfl, _⟩ := HG.shape
  obtain ⟨W0, hW0⟩ : ∃ W0, w.alloc (.cells #[.slice pa P.length pc, .slice ga gs.length gc, .int .i64 o] 25) = W0 := ⟨_, rfl⟩
  have hb0 : Below w.heap.size w W0 := by rw [← hW0]; exact below_new _ _
  have hbx := box_new w (.slice pa P.length pc) (.slice ga gs.length gc) o
  rw [hW0] at hbx
  have hs1 : W0.heap.size = w.heap.size + 1 := by rw [← hW0]; simp
  have HS1 := Lib.hid hs1
  have HXC : Hid (∀ X, Below W0.heap.size W0 X → BoxN X w.heap.size (.slice pa P.length pc) (.slice ga gs.length gc) o) := fun X hX => hbx X (hX.mono (by omega))
  have HW0 := Lib.hid hW0
  have HB0 := Lib.hid hb0
  have HPW := Lib.hid (HP.below hb0 (Nat.le_refl _))
  have HGW := Lib.hid (HG.below hb0 (Nat.le_refl _))
  have hna := cnamed_any _ _ o P gs W0 HPW.out HGW.out hp hg ho1 ho2
  have HQ : Hid (∀ X, Below W0.heap.size W0 X → Calls Try.prog 18 #[.slice pa P.length pc] X (QuantPost X P)) := fun X hX => quantified_any _ P X (HPW.out.below hX (Nat.le_refl _)) hp
  have HV : Hid (∀ X, Calls Try.prog 27 #[.int .i64 x] X fun e w' => e = .returned (.int .i64 (varC x)) ∧ X = w') := fun X => cvar_any x X h1 h2
  have HSN : Hid (supN P gs o x = match namedN P gs with
    | none => ([], 2)
    | some S => if decide (varC o ∈ S) = true then (if decide (varC x ∈ S) = true then (supL P gs x, 0) else ([], 6)) else ([], 2)) := rfl
  have hvx := varC_64 h1 h2
  have hmm := @run_makeMap Try.prog
  have f41 : Fence.wide.fn 27 := trivial
  obtain ⟨i0, hi, hzz0, hzz1, hzz2⟩ := info_parts info_int
  clear HP HG hW0 hb0 hbx hs1 hp
  generalize hRR : supN P gs o x = R at *
  clear hRR
  cases hN : namedN P gs with
  | none =>
    rw [hN] at HSN
    have HR : Hid (R = ([], 2)) := HSN.out
    have HNA : Hid (Calls Try.prog 21 #[.agg #[.slice pa P.length pc, .slice ga gs.length gc, .int .i64 o]] W0 fun e w' => e = .returned (.tuple #[.map none, .bool false]) ∧ Below W0.heap.size W0 w') := hna.mono (by
      rintro e w' ⟨hb, h | ⟨S, b, h3, _⟩⟩
      · exact ⟨h.2, hb⟩
      · rw [hN] at h3; cases h3)
    clear hna hN HSN
    rw [HR.out]
    refine callsIn_of_wp_marks Try.func9 rfl trivial ?_ rfl
    simp only [Try.ntmps9, List.size_toArray, List.length_cons, List.length_nil, Nat.reduceAdd, Nat.reduceSub, Array.replicate_succ, Array.replicate_zero, List.push_toArray, List.append_toArray, List.nil_append, List.cons_append]
    refine wpIn_wide.2 ?_
    go_upto_region 1 with fail
    rw [HW0.out]
    obtain ⟨p0, p1, p2⟩ := HXC.out W0 (Below.refl _ _)
    go_wp2_with (go_at_call 21; refine HNA.out.mono ?_; rintro e w1 ⟨rfl, hb1⟩)
    exact ⟨_, results_tmp2 rfl _ _ _, _, rfl, Own.nil _ _, HB0.out.trans (hb1.mono HB0.out.size)⟩
  | some S =>
    rw [hN] at HSN
    replace HSN : Hid (R = if decide (varC o ∈ S) = true then (if decide (varC x ∈ S) = true then (supL P gs x, 0) else ([], 6)) else ([], 2)) := HSN.out
    have hmp : mayP P = true := by
      unfold namedN at hN
      by_cases h : mayP P = true
      · exact h
      · rw [if_neg h] at hN; cases hN
    have hPv := (mayP_parts hmp).2.2.1
    have HPV := Lib.hid hPv
    have HNA : Hid (Calls Try.prog 21 #[.agg #[.slice pa P.length pc, .slice ga gs.length gc, .int .i64 o]] W0 fun e w' => ∃ b, e = .returned (.tuple #[.map (some b), .bool (decide (varC o ∈ S))]) ∧ SetI w' b S ∧ Below W0.heap.size W0 w') := hna.mono (by
      rintro e w' ⟨hb, h | ⟨S', b, h3, h4, _, h6⟩⟩
      · rw [hN] at h; cases h.1
      · rw [hN] at h3
        injection h3 with h3
        subst h3
        exact ⟨b, h4, h6, hb⟩)
    have HQ2 : Hid (∀ X, Below W0.heap.size W0 X → Calls Try.prog 18 #[.slice pa P.length pc] X fun e w' => e = .returned (.tuple #[.map (some X.heap.size), .bool true]) ∧ SetI w' X.heap.size (flatB P) ∧ Below X.heap.size X w') := fun X hX => (HQ.out X hX).mono (by
      rintro e w' ⟨hb, h | h⟩
      · exact ⟨h.2.1, h.2.2, hb⟩
      · rw [hmp] at h; cases h.1)
    have HZ : Hid (∀ X : World, (zeroValue 4).run Try.prog X = .ok (.bool false) X) := fun _ => rfl
    have HVW := Lib.hid (i64w hvx.1 hvx.2)
    clear hna hN hmp hPv hvx HQ
    cases ho : decide (varC o ∈ S) with
    | false =>
      rw [ho] at HSN HNA
      have HR : Hid (R = ([], 2)) := HSN.out
      clear ho HSN
      rw [HR.out]
      refine callsIn_of_wp_marks Try.func9 rfl trivial ?_ rfl
      simp only [Try.ntmps9, List.size_toArray, List.length_cons, List.length_nil, Nat.reduceAdd, Nat.reduceSub, Array.replicate_succ, Array.replicate_zero, List.push_toArray, List.append_toArray, List.nil_append, List.cons_append]
      refine wpIn_wide.2 ?_
      go_upto_region 1 with fail
      rw [HW0.out]
      obtain ⟨p0, p1, p2⟩ := HXC.out W0 (Below.refl _ _)
      go_wp2_with (go_at_call 21; refine HNA.out.mono ?_; rintro e w1 ⟨b, rfl, hs1, hb1⟩)
      exact ⟨_, results_tmp2 rfl _ _ _, _, rfl, Own.nil _ _, HB0.out.trans (hb1.mono HB0.out.size)⟩
    | true =>
      rw [ho] at HSN HNA
      clear ho
      cases hx : decide (varC x ∈ S) with
      | false =>
        have HX := Lib.hid hx
        rw [hx] at HSN
        have HR : Hid (R = ([], 6)) := HSN.out
        clear hx HSN
        rw [HR.out]
        refine callsIn_of_wp_marks Try.func9 rfl trivial ?_ rfl
        simp only [Try.ntmps9, List.size_toArray, List.length_cons, List.length_nil, Nat.reduceAdd, Nat.reduceSub, Array.replicate_succ, Array.replicate_zero, List.push_toArray, List.append_toArray, List.nil_append, List.cons_append]
        refine wpIn_wide.2 ?_
        go_upto_region 1 with fail
        rw [HW0.out]
        obtain ⟨p0, p1, p2⟩ := HXC.out W0 (Below.refl _ _)
        go_wp2_with (first
          | (go_at_call 21; refine HNA.out.mono ?_; rintro e w1 ⟨b, rfl, hs1, hb1⟩; have hlk := hs1.look (HZ.out w1) (varC x) HVW.out; rw [HX.out] at hlk)
          | (go_at_call 27; refine (HV.out _).mono ?_; rintro e w2 ⟨rfl, rfl⟩))
        exact ⟨_, results_tmp2 rfl _ _ _, _, rfl, Own.nil _ _, HB0.out.trans (hb1.mono HB0.out.size)⟩
      | true =>
        have HX := Lib.hid hx
        rw [hx] at HSN
        have HR : Hid (R = (supL P gs x, 0)) := HSN.out
        clear hx HSN
        rw [HR.out]
        refine callsIn_of_wp_marks Try.func9 rfl trivial ?_ rfl
        simp only [Try.ntmps9, List.size_toArray, List.length_cons, List.length_nil, Nat.reduceAdd, Nat.reduceSub, Array.replicate_succ, Array.replicate_zero, List.push_toArray, List.append_toArray, List.nil_append, List.cons_append]
        refine wpIn_wide.2 ?_
        go_upto_region 1 with fail
        rw [HW0.out]
        obtain ⟨p0, p1, p2⟩ := HXC.out W0 (Below.refl _ _)
        go_upto_region 8 with (first
          | (go_at_call 21; refine HNA.out.mono ?_; rintro e w1 ⟨b, rfl, hs1, hb1⟩; have hlk := hs1.look (HZ.out w1) (varC x) HVW.out; rw [HX.out] at hlk; have HB1 := Lib.hid hb1; clear hb1 hs1 p0 p1 p2; obtain ⟨p0, p1, p2⟩ := HXC.out w1 HB1.out)
          | (go_at_call 27; refine (HV.out _).mono ?_; rintro e w2 ⟨rfl, rfl⟩)
          | (go_at_call 18; refine (HQ2.out w1 HB1.out).mono ?_; rintro e w2 ⟨rfl, hs2, hb2⟩; have HB2 := Lib.hid (HB1.out.trans (hb2.mono HB1.out.size)); have HS2 := Lib.hid hs2; clear hb2 hs2 p0 p1 p2 hlk))
        obtain ⟨w3, hw3⟩ : ∃ w3, (w2.alloc (.cells #[.map (some w1.heap.size)] 57)).alloc (.cells #[.slice none 0 0] 28) = w3 := ⟨_, rfl⟩
        have q1 : Boxed w3 w2.heap.size 57 (.map (some w1.heap.size)) := by rw [← hw3]; exact (Boxed.new w2 57 (.map (some w1.heap.size))).alloc _
        have q2 : Boxed w3 (w2.heap.size + 1) 28 (.slice none 0 0) := by
          have h := Boxed.new (w2.alloc (.cells #[.map (some w1.heap.size)] 57)) 28 (.slice none 0 0)
          simp only [World.size_alloc] at h
          rw [← hw3]; exact h
        have hb23 : Below w2.heap.size w2 w3 := by rw [← hw3]; exact ((Below.refl _ w2).alloc (Nat.le_refl _) _).alloc (by simp) _
        have hz3 : w3.heap.size = w2.heap.size + 2 := by rw [← hw3]; simp
        have HS3 : Hid (SetI w3 w1.heap.size (flatB P)) := HS2.out.below hb23 (Nat.le_refl _)
        have HB3 : Hid (Below W0.heap.size W0 w3) := HB2.out.trans (hb23.mono HB2.out.size)
        have hz2 : W0.heap.size ≤ w1.heap.size ∧ w1.heap.size < w2.heap.size := ⟨HB1.out.size, HS2.out.lt⟩
        have HZ2 := Lib.hid hz2
        rw [hw3]
        clear hw3
        obtain ⟨w4, hw4⟩ : ∃ w4, (w3.alloc (.cells #[.slice ga gs.length gc] 23)).alloc (.cells #[.int .i64 x] 3) = w4 := ⟨_, rfl⟩
        have q3 : Boxed w4 w3.heap.size 23 (.slice ga gs.length gc) := by rw [← hw4]; exact (Boxed.new w3 23 (.slice ga gs.length gc)).alloc _
        have q4 : w4.cell? ⟨w3.heap.size + 1, 0, none⟩ = some (.int .i64 x) := by
          have h := cell_fresh (w := w3.alloc (.cells #[.slice ga gs.length gc] 23)) (c := #[.int .i64 x]) (T := 3) (i := 0) (v := .int .i64 x) rfl
          simp only [World.size_alloc] at h
          rw [← hw4]; exact h
        have hb34 : Below w3.heap.size w3 w4 := by rw [← hw4]; exact ((Below.refl _ w3).alloc (Nat.le_refl _) _).alloc (by simp) _
        have hz4 : w4.heap.size = w3.heap.size + 2 := by rw [← hw4]; simp
        have c1 : Boxed w4 w2.heap.size 57 (.map (some w1.heap.size)) := by rw [← hw4]; exact (q1.alloc _).alloc _
        have c2 : Boxed w4 (w2.heap.size + 1) 28 (.slice none 0 0) := by rw [← hw4]; exact (q2.alloc _).alloc _
        have C1 := Lib.hid c1
        have C2 := Lib.hid c2
        have C3 := Lib.hid q3
        have C4 := Lib.hid q4
        have HZ4 := Lib.hid hz4
        have HZ3 := Lib.hid hz3
        have HS4 : Hid (SetI w4 w1.heap.size (flatB P)) := HS3.out.below hb34 (Nat.le_refl _)
        have HB4 : Hid (Below w.heap.size w w4) := HB0.out.trans ((HB3.out.trans (hb34.mono HB3.out.size)).mono HB0.out.size)
        have HW4 := Lib.hid hw4
        obtain ⟨p0, p1, p2⟩ := HXC.out w3 HB3.out
        have HRI := Lib.hid ((callsIn_wide (n := 7)).1 (reached_in 7 ga gs.length gc x w3))
        clear q1 q2 q3 q4 c1 c2 hb23 hb34 hz3 hz4 hw4 hz2 HR HNA HQ2 HV HX
        go_wp2_with (go_at_call 28; refine HRI.out.mono ?_; rintro e w5 ⟨rfl, rfl⟩)
        rw [HW4.out]
        clear HW4 HRI p0 p1 p2
        have hz4 := HZ4.out
        have hz3 := HZ3.out
        have hz2 := HZ2.out
        have hz0 := HB0.out.size
        have hb1 : Boxed w4 w3.heap.size 23 (.slice ga gs.length gc) := C3.out
        refine (wpIn_wide (n := 8)).1 ?_
        refine wpIn_rangeAll rfl (by omega) (gf := 49) (lb := #[.pointer (some ⟨w3.heap.size + 1, 0, none⟩), .pointer (some ⟨w3.heap.size, 0, none⟩)]) rfl trivial (enters_of Try.func49 (by kernel_rfl) rfl)
          (reach_own 7 (by omega) w w4 _ gs x (w3.heap.size + 1) w3.heap.size HGG.out h1 h2 HB4.out (by omega) C4.out C3.out) (fun h k => h.trans k)
          (fun W1 o' hl1 => ⟨(Below.refl _ W1).grown (grownBy_putObj' W1 _ o') (by omega) (fun k e => by cases e; omega), fun k o hk ho _ => (World.putObj_heap_other (by omega)).trans ho⟩) (fun _ => rfl)
          (fun pre W1 => (((∃ v, Boxed W1 (w2.heap.size + 1) 28 v ∧ Own W1 w.heap.size v (onP P (pre.map (fun x => x.1)))) ∧ SetI W1 w1.heap.size (flatB P)) ∧ Boxed W1 w2.heap.size 57 (.map (some w1.heap.size))) ∧ Below w.heap.size w W1)
          (fun s A B row hs hg hr => by
            obtain ⟨⟨⟨⟨v, h1, h2⟩, h3⟩, h4⟩, h5⟩ := hs
            have hne : ∀ B', B' < w4.heap.size → row ≠ some B' := fun B' hB' e => by have := (hr _ e).1; omega
            refine ⟨⟨⟨⟨v, h1.kept hg (fun e => hne _ (by omega) e.symm), h2.kept hg ?_⟩, h3.grown hg (hne _ (by omega))⟩, h4.kept hg (fun e => hne _ (by omega) e.symm)⟩, h5.grown hg h5.size (fun k e => by have := (hr k e).1; omega)⟩
            rcases h2.2 with ⟨rfl, _⟩ | ⟨g, cap', cur, rfl, _, hgb, _⟩
            · exact .inl rfl
            · refine .inr (fun e => ?_)
              obtain ⟨_, o, ho, hc⟩ := hr g e.symm
              rw [hgb] at ho
              cases ho
              cases hc)
          ⟨⟨⟨⟨_, C2.out, Own.nil _ _⟩, HS4.out⟩, C1.out⟩, HB4.out⟩
          (fun e => { tmps := #[.agg #[.slice pa P.length pc, .slice ga gs.length gc, .int .i64 o], .int .i64 x, .pointer (some ⟨w.heap.size, 0, none⟩), undef, .slice none 0 0, .int .i64 0, .map (some b), .bool true, .pointer (some ⟨w2.heap.size, 0, none⟩), .bool true, .pointer (some ⟨w2.heap.size + 1, 0, none⟩), .int .i64 e.1, .tuple #[.map (some b), .bool true], .agg #[.slice pa P.length pc, .slice ga gs.length gc, .int .i64 o], .tuple #[.map (some b), .bool true], .map (some b), .bool true, .bool true, .bool false, .map (some b), .int .i64 x, .int .i64 (varC x), .bool true, .bool false, .tuple #[.map (some w1.heap.size), .bool true], .pointer (some ⟨w.heap.size, 0, none⟩), .slice pa P.length pc, .tuple #[.map (some w1.heap.size), .bool true], .map (some w1.heap.size), .bool true, .pointer (some ⟨w.heap.size, 1, none⟩), .slice ga gs.length gc, .int .i64 x, .func (.func 49) #[] #[.pointer (some ⟨w3.heap.size + 1, 0, none⟩), .pointer (some ⟨w3.heap.size, 0, none⟩)], .int .i64 e.1, undef, undef, undef, undef, undef, undef, undef, undef, undef, undef], defers := [] }) ?assign ?body ?done
        case assign =>
          clear hz3 hz4
          intro l e W K hK
          gi_wp2
          exact hK
        case body =>
          rintro lp pre ⟨y, hy⟩ W1 ⟨⟨⟨⟨v, hbx, hown⟩, hset⟩, hbm⟩, hbel⟩ hlen
          simp only at hy ⊢
          have c8 := hbm.cell
          have c10 := hbx.cell
          have hlk := hset.look (HZ.out W1) y (i64w (by omega) (by omega))
          have hszW := hbel.size
          have HSN : Hid (onP P ((pre ++ [(⟨y, hy⟩ : V16)]).map (fun x : V16 => x.1)) = if decide (y ∈ flatB P) = true then onP P (pre.map (fun x => x.1)) ++ [y] else onP P (pre.map (fun x => x.1))) := by show _ = _; rw [List.map_append]; exact onP_snoc _ _ _
          have hfl : (onP P (pre.map (fun x => x.1))).length < 4000000 := by
            have h1 := onP_len P (pre.map (fun x => x.1))
            rw [List.length_map] at h1
            omega
          generalize onP P (pre.map (fun x => x.1)) = F at *
          have HBX := Lib.hid hbx
          have HO := Lib.hid hown
          have HSE := Lib.hid hset
          have K0 := Lib.hid hbm
          have HB := Lib.hid hbel
          clear hbx hown hset hbm hbel
          cases hin : decide (y ∈ flatB P) with
          | false =>
            rw [hin] at HSN hlk
            have HV : Hid (onP P ((pre ++ [(⟨y, hy⟩ : V16)]).map (fun x : V16 => x.1)) = F) := HSN.out
            clear hin HSN
            gi_wp2
            exact ⟨KeepsFrom.refl _ _, KpR.refl _ _ _ _, ⟨⟨⟨v, HBX.out, by rw [HV.out]; exact HO.out⟩, HSE.out⟩, K0.out⟩, HB.out⟩
          | true =>
            rw [hin] at HSN hlk
            have HV : Hid (onP P ((pre ++ [(⟨y, hy⟩ : V16)]).map (fun x : V16 => x.1)) = F ++ [y]) := HSN.out
            clear hin HSN
            have hbd1 : F.length + 1 ≤ maxLen := by unfold maxLen; omega
            have hbd2 : (F.length + 1) * 8 ≤ 140737488355328 := by omega
            have hrow : W1.ownsRow w.heap.size 3 1 v F.length (F.map (Value.int .i64)) := HO.out
            have hB1a : w.heap.size ≤ (W1.alloc (.cells #[.int .i64 y] 3)).heap.size := by simp; omega
            have hle1 : w.heap.size ≤ w2.heap.size + 1 := by omega
            have HBT := Lib.hid HBX.out
            gi_wp2_with (gi_at_builtin; go_loud (refine wpListIn_append_own _ rfl _ _ 28 rfl w.heap.size 3 i0 (.int .i64 0) 1 8 Try.underlying28 hi hzz0 hzz1 hzz2 rfl (by decide) _ _ _ rfl (hrow.alloc _) ⟨W1.heap.size, 0, none⟩ 1 1 [.int .i64 y] rfl rfl (cell_one_new _ _ _) (by simp [Value.oneCell']) hbd1 hbd2 hB1a ?_; intro v' w6 hown' hgrow _; obtain ⟨g', cap', rfl⟩ := ownsRow_succ hown'; obtain ⟨hv1, hv2, hr2, hk2, hb2⟩ := HBT.out.appended (by decide) hrow hszW hle1 hown' hgrow; have hc1 := hv1.cell; have hf1 := hv1.frozen))
            have k0 := ((K0.out.alloc (.cells #[.int .i64 y] 3)).kept hgrow (K0.out.not_row (by decide) hrow)).other (B' := w2.heap.size + 1) (by omega) (.slice (some ⟨g', 0, none⟩) (F.length + 1) cap')
            refine ⟨hk2.from _, ⟨hb2, fun k ob hk ho hkp => ?_⟩, ⟨⟨⟨_, hv2, ?_⟩, HSE.out.kpOthers hk2⟩, k0⟩, HB.out.trans hb2⟩
            · have hne : k ≠ w2.heap.size + 1 := by omega
              have hlt : k < W1.heap.size := (Array.getElem?_eq_some_iff.1 ho).1
              refine (Below.heap_setCell _ _ _ _ hne).trans ((hgrow.block k (by simp; omega) (fun e => ?_)).trans ((Below.heap_alloc _ _ _ hlt).trans ho))
              rcases hrow.2 with ⟨rfl, _⟩ | ⟨g, cap, cur, rfl, _, hgb, _⟩
              · have e' : some k = (Value.slice none 0 0).ownBlock := e
                simp [Value.ownBlock] at e'
              · have e' : some k = (Value.slice (some ⟨g, 0, none⟩) F.length cap).ownBlock := e
                have e2 : k = g := by simpa [Value.ownBlock] using e'
                subst e2
                rw [ho] at hgb
                injection hgb with hgb
                subst hgb
                exact hkp rfl
            · rw [HV.out]
              unfold Own
              rw [List.length_append, List.map_append]
              exact hr2
        case done =>
          rintro D ys W hD hys ⟨⟨⟨⟨v, hbx, hown⟩, hset⟩, hbm⟩, hbel⟩ hK
          rw [hys] at hown
          have hszW := hbel.size
          have hln : (onP P (reachL gs x)).length ≤ 17592186044416 := by
            have h1 := onP_len P (reachL gs x)
            have h2 := vset_len (vset_up gs x gs.length)
            have e : reachUp gs x gs.length = reachL gs x := rfl
            rw [e] at h2
            omega
          have HSP : Hid (supL P gs x = ascI (onP P (reachL gs x))) := (sup_is HPV.out).symm
          have HSO := Lib.hid (sort2_any w.heap.size v _ W hown hszW hln)
          have hc1 := hbx.cell
          have hne1 : v.ownBlock ≠ some (w2.heap.size + 1) := fun e => hbx.not_row (by decide) (show W.ownsRow w.heap.size 3 1 v _ _ from hown) e.symm
          have hne2 : v.ownBlock ≠ some D := fun e => by
            rcases hown.2 with ⟨rfl, _⟩ | ⟨g, cap', cur, rfl, _, hgb, _⟩
            · cases e
            · have : g = D := by simpa [Value.ownBlock] using e
              subst this
              rw [hgb] at hK
              cases hK
          generalize onP P (reachL gs x) = F at *
          go_wp2_with (go_at_call 29; go_loud (refine HSO.out.mono ?_; rintro e w7 ⟨rfl, hown3, hb3', hk3⟩; have hbx3 : Boxed w7 (w2.heap.size + 1) 28 v := (hk3.block _ hbx.lt hne1).trans hbx; have hc3 := hbx3.cell))
          have hK' : w7.heap[D]? = some (.deferred (some [])) := (hk3.block D (Array.getElem?_eq_some_iff.1 hK).1 hne2).trans hK
          refine ⟨by simp, .inl ⟨_, _, rfl, run_takeDeferred hK', ?_⟩⟩
          refine ⟨_, results_tmp2 rfl _ _ _, v, rfl, ?_, (hbel.trans hb3').trans ((Below.refl _ _).grown (grownBy_putObj' w7 D (.deferred none)) (by have := hb3'.size; omega) (fun k e => by injection e; omega))⟩
          rw [HSP.out]
          exact (Kept.of_grown (grownBy_putObj' w7 D (.deferred none))).row hown3 (fun g hg e => hne2 (by rw [hg]; exact e.symm))
end Go.Proofs.Ytafenijbglcppaa

/- The reference's Support (layer 5). -/
namespace Go.Proofs.Ytafenijbglcppaa
open Go.RowKit Go.Maps Go.Shelf
set_option linter.unusedVariables false
set_option linter.unusedSimpArgs false

/-- What the reference puts out. -/
def supR (P : List Blk) (gs : List Gt) (x : Int) (i : Nat) : Bool := reachM gs (fun j => decide (j = abs5 x)) (i : Int) && decide ((i : Int) ∈ flatB P)
theorem supR_is {P : List Blk} {gs : List Gt} {x : Int} (hx : 1 ≤ varC x ∧ varC x ≤ 65536) (hl : ∀ g ∈ gs, ∀ y ∈ g.2.2, 1 ≤ varC y ∧ varC y ≤ 65536) : fromOne (supR P gs x) 65536 = supL P gs x := by
  unfold supL
  congr 1
  funext i
  unfold supR
  congr 1
  rw [Bool.eq_iff_iff, reach_same (S := tellL [] x) (fun j => ?_) gs hl, reachL_R]
  · simp
  · rw [tell_mem hx, abs5_var (by omega)]
    simp

end Go.Proofs.Ytafenijbglcppaa
