/- Joined texts: AgReach, AgSup. -/
import Derived.Test.YtppglbffmgnooaaGreatA03
import Derived.Test.YtppglbffmgnooaaGreatCxMk0
import Derived.Test.YtppglbffmgnooaaGreatAgFence
/- aig.reached. -/
namespace Go.Proofs.YtppglbffmgnooaaGreat
open Go.RowKit Go.Shelf
set_option linter.unusedVariables false
set_option linter.unusedSimpArgs false
attribute [local go_sem] Oper.semAt_some

theorem mark0_step (n : Nat) (l : List Int) (k : Nat) (h : k < l.length) : mark0 n (l.take (k + 1)) = (mark0 n (l.take k)).set (l.getD k 0 / 2).toNat true := by
  unfold mark0
  rw [List.take_succ_eq_append_getElem h, List.foldl_append]
  simp [List.getD, h]

theorem below_alloc1 (X : World) (o : Obj) : Below X.heap.size X (X.alloc o) := (Below.refl _ _).alloc (Nat.le_refl _) o
theorem OwnB.lt1 {w : World} {B g n cap : Nat} {xs : List Bool} (h : OwnB w B (.slice (some ⟨g, 0, none⟩) n cap) xs) : g < w.heap.size := (World.ownsRow.lt h g rfl).2
theorem ownB_below {w w' : World} {B C : Nat} {v : Value} {xs : List Bool} (h : OwnB w B v xs) (hb : Below C w w') (hC : w.heap.size ≤ C) : OwnB w' B v xs := by
  refine ⟨h.1, ?_⟩
  rcases h.2 with hn | ⟨g, cap, cur, hv, hB, hg, rest⟩
  · exact .inl hn
  · exact .inr ⟨g, cap, cur, hv, hB, (hb.block g (Nat.lt_of_lt_of_le (Array.getElem?_eq_some_iff.1 hg).1 hC)).trans hg, rest⟩
theorem ownB_kept {w w' : World} {B : Nat} {v : Value} {xs : List Bool} {S : Nat → Prop} (h : OwnB w B v xs) (hk : Kept S w w') (hS : ∀ g, v.ownBlock = some g → ¬ S g) : OwnB w' B v xs := hk.row h hS

theorem downL_cons (n : Nat) : downL (n + 1) (n + 1) = n :: downL n n := by
  unfold downL
  rw [List.range_succ_eq_map, List.map_cons, List.map_map]
  congr 1
  apply List.map_congr_left
  intro i hi
  have := List.mem_range.1 hi
  simp only [Function.comp]
  omega
theorem backA_down (k : Nat) (A : List Pr) : ∀ (n : Nat) (m : List Bool), backA k A n m = (downL n n).foldl (stepA k A) m
  | 0, m => rfl
  | n + 1, m => by
    rw [downL_cons, List.foldl_cons, ← backA_down k A n]
    rfl
theorem cell_farq (w : World) {B b : Nat} (q o : Nat) (u : Value) (h : ¬ B = b) : (w.setCell ⟨B, q, none⟩ u).cell? ⟨b, o, none⟩ = w.cell? ⟨b, o, none⟩ := World.cell?_setCell_other w _ _ u (fun e => h (by injection e))
theorem frozen_farq (w : World) {B b : Nat} (q o : Nat) (u : Value) : (w.setCell ⟨B, q, none⟩ u).frozen? ⟨b, o, none⟩ = w.frozen? ⟨b, o, none⟩ := by rw [World.frozen?_setCell]
theorem drew_cellq (w : World) (a : Addr) : w.drew.cell? a = w.cell? a := rfl
theorem drew_frozenq (w : World) (a : Addr) : w.drew.frozen? a = w.frozen? a := rfl
attribute [local go_sem] cell_farq frozen_farq drew_cellq drew_frozenq
/-- 'append(s, y)', with where the row lies. -/
theorem wpList_app1A {w : World} {ops : Array Oper} {rest : List Oper} {o : Oper} {a : Act} {Q : Exit → Act → World → Prop} (hgd : o.guard = none) (s x : Operand)
    (ho : o.op = .call { callee := .builtin .append, args := #[s, x], argTypes := #[22, 22] }) (B : Nat) (v : Value) (xs : List Int) (y : Int) (g : Nat)
    (hs : a.eval s = v) (hx : a.eval x = .slice (some ⟨g, 0, none⟩) 1 1) (hown : Own w B v xs) (hy : w.cell? ⟨g, 0, none⟩ = some (.int .i64 y)) (hlen : xs.length < 17592186044416) (hB : B ≤ w.heap.size)
    (h : ∀ v' w', Own w' B v' (xs ++ [y]) → w.grownBy w' v.ownBlock → (v'.ownBlock = v.ownBlock ∨ v'.ownBlock = some w.heap.size) → wpList Tryz.prog ops Q rest (a.put o.dst v') w') : wpList Tryz.prog ops Q (o :: rest) a w := by
  obtain ⟨i0, hi, hz0, hz1, hz2⟩ := info_parts info_int
  refine wpList_append_own_at _ hgd s x 22 ho B 3 i0 (.int .i64 0) 1 8 Tryz.underlying22 hi hz0 hz1 hz2 rfl (by decide) v xs.length _ hs hown ⟨g, 0, none⟩ 1 1 [.int .i64 y] hx (by simp) ?_ (by simp [Value.oneCell']) (by unfold maxLen; omega) (by omega) hB ?_
  · intro j u hj
    match j, hj with
    | 0, hj => simp at hj; subst hj; simpa [Addr.add] using hy
  · intro v' w' h1 h2 _ h3
    refine h v' w' ?_ h2 h3
    unfold Own
    rw [List.length_append, List.map_append]
    exact h1
theorem insN_step {m : List Bool} {k n : Nat} (h1 : 1 ≤ n) : onN m 1 (min n k) = onN m 1 (min (n - 1) k) ++ (if n < 1 + k ∧ m.getD n false = true then [(n : Int)] else []) := by
  by_cases h : n < 1 + k
  · have e1 : min n k = min (n - 1) k + 1 := by omega
    have e2 : 1 + min (n - 1) k = n := by omega
    rw [e1, onN_succ, e2]
    simp [h]
  · have e1 : min n k = min (n - 1) k := by omega
    rw [e1, if_neg (fun z => h z.1), List.append_nil]
theorem andN_step {m : List Bool} {k n : Nat} : onN m k (n + 1 - k) = onN m k (n - k) ++ (if k ≤ n ∧ m.getD n false = true then [(n : Int)] else []) := by
  by_cases h : k ≤ n
  · have e1 : n + 1 - k = n - k + 1 := by omega
    have e2 : k + (n - k) = n := by omega
    rw [e1, onN_succ, e2]
    simp [h]
  · have e1 : n + 1 - k = n - k := by omega
    rw [e1, if_neg (fun z => h z.1), List.append_nil]
theorem own_other {w : World} {o : Obj} {w' : World} {B : Nat} {u v : Value} {xs ys : List Int} (hu : Own w B u xs) (hv : Own w B v ys) (hd : ∀ g, u.ownBlock = some g → v.ownBlock ≠ some g) (hg : (w.alloc o).grownBy w' u.ownBlock) : Own w' B v ys := by
  refine (hv.alloc o).kept hg ?_
  cases h : v.ownBlock with
  | none => exact .inl rfl
  | some g => exact .inr (fun e => hd g e.symm h)
theorem own_apart {w : World} {o : Obj} {B : Nat} {u v u' : Value} {xs ys : List Int} (hu : Own w B u xs) (hv : Own w B v ys) (hd : ∀ g, u.ownBlock = some g → v.ownBlock ≠ some g) (hl : u'.ownBlock = u.ownBlock ∨ u'.ownBlock = some (w.alloc o).heap.size) : ∀ g, u'.ownBlock = some g → v.ownBlock ≠ some g := fun g h e => by
  rcases hl with hl | hl
  · rw [hl] at h; exact hd g h e
  · rw [hl] at h
    have := (hv.lt g e).2
    simp at h
    omega
theorem tdiv_two {a : Int} {q : Nat} (h : 0 ≤ a) (hq : a / 2 = (q : Int)) (hb : q ≤ 8000001) : IntKind.i64.wrap (a.tdiv 2) = (q : Int) := by
  rw [Int.tdiv_eq_ediv_of_nonneg h, hq]
  simp [IntKind.wrap, IntKind.bits, IntKind.signed]
  omega
def bodyFinA (FIN : World → Prop) : Exit → Act → World → Prop
  | .normal, _, W => FIN W
  | _, _, _ => False
/-- The marks that stand behind some rounds. -/
def marksP (k : Nat) (A : List Pr) (m : List Bool) (pre : List (PE A)) : List Bool := (pre.map (fun x => x.1)).foldl (stepA k A) m
theorem marksP_snoc (k : Nat) (A : List Pr) (m : List Bool) (pre : List (PE A)) (x : PE A) : marksP k A m (pre ++ [x]) = stepA k A (marksP k A m pre) x.1 := by
  unfold marksP
  rw [List.map_append, List.foldl_append]
  rfl
theorem marksP_len (k : Nat) (A : List Pr) (m : List Bool) (pre : List (PE A)) : (marksP k A m pre).length = m.length := stepsA_len k A _ m

set_option maxRecDepth 100000 in
set_option maxHeartbeats 4000000 in
theorem reached_any (vi va vl : Value) (I : List Int) (A : List Pr) (l : List Int) (w : World) (HI : IsInts w vi I) (HA : IsPairs w va A) (HL : IsInts w vl l) (h1 : I.length ≤ 4000000) (h2 : A.length ≤ 4000000)
    (hok : okUpto (1 + I.length) A A.length = true) (hel : edgesB l (1 + I.length + A.length) = true) :
    Calls Tryz.prog 63 #[.agg #[vi, va], vl] w fun r w' => ∃ u v, r = .returned (.tuple #[u, v]) ∧ Own w' w.heap.size u (onN (reachA (1 + I.length) A l) 1 I.length) ∧ Own w' w.heap.size v (onN (reachA (1 + I.length) A l) (1 + I.length) A.length) ∧ Below w.heap.size w w' := by
  refine (callsIn_wide (n := 8)).1 ?_
  have hb0 := (Below.refl w.heap.size w).alloc (Nat.le_refl _) (.cells #[vi, va] 25)
  have hsz : (w.alloc (.cells #[vi, va] 25)).heap.size = w.heap.size + 1 := by simp
  have hbx := boxA_new w vi va
  have HI1 := Lib.hid (HI.below hb0 (Nat.le_refl _))
  have HA1 := Lib.hid (HA.below hb0 (Nat.le_refl _))
  have HL1 := Lib.hid (HL.below hb0 (Nat.le_refl _))
  obtain ⟨ia, ic, rfl⟩ := HI.shape
  obtain ⟨aa, ac, rfl, _⟩ := HA.shape
  obtain ⟨la, lc, rfl⟩ := HL.shape
  have HL0 := HL.bd
  have HA0 := Lib.hid HA
  have HEL := Lib.hid (edgesB_true.1 hel)
  have HOK := Lib.hid hok
  clear HI HA HL hel hok
  refine callsIn_of_wp_marks Tryz.func63 rfl trivial ?_ rfl
  simp only [Tryz.ntmps63, List.size_toArray, List.length_cons, List.length_nil, Nat.reduceAdd, Nat.reduceSub, Array.replicate_succ, Array.replicate_zero, List.push_toArray, List.append_toArray, List.nil_append, List.cons_append]
  refine wpIn_wide.2 ?_
  go_upto_region 1 with fail
  generalize World.alloc w _ = W at *
  have HB0 := Lib.hid hb0
  have HBX := Lib.hid hbx
  have HSZ := Lib.hid hsz
  obtain ⟨p0, p1⟩ := hbx
  clear hb0 hsz
  obtain ⟨nn, hnn⟩ : ∃ nn : Nat, 1 + I.length + A.length = nn := ⟨_, rfl⟩
  have HN := Lib.hid (nodes_any _ _ I A W HI1.out HA1.out h1 h2)
  rw [hnn] at HN HEL
  have hn1 : nn ≤ 8000001 := by omega
  have HNN := Lib.hid hnn
  clear hnn
  go_upto_region 2 with (first
    | (at_make; refine wpList_mkBools2 rfl _ _ rfl nn nn nn rfl rfl rfl rfl (by omega) ?_; intro w2 hown hg; have HO := Lib.hid hown; have HB2 := Lib.hid ((Below.refl w1.heap.size w1).grown hg (Nat.le_refl _) (fun k hk => by cases hk)); clear hown hg)
    | (go_at_call 66; refine HN.out.mono ?_; rintro e w1 ⟨rfl, hb1⟩; have HB1 := Lib.hid hb1; clear hb1))
  have hW2 : Below w2.heap.size w2 (w2.alloc (.cells #[.slice (some ⟨w1.heap.size, 0, none⟩) nn nn] 46)) := below_alloc1 _ _
  have c6 : (w2.alloc (.cells #[.slice (some ⟨w1.heap.size, 0, none⟩) nn nn] 46)).cell? ⟨w2.heap.size, 0, none⟩ = some (.slice (some ⟨w1.heap.size, 0, none⟩) nn nn) := cell_fresh rfl
  have hz2 : (w2.alloc (.cells #[.slice (some ⟨w1.heap.size, 0, none⟩) nn nn] 46)).heap.size = w2.heap.size + 1 := by simp
  have hlt1 := HO.out.lt1
  have HO2 := Lib.hid (ownB_below HO.out hW2 (Nat.le_refl _))
  have hs1 := HB1.out.size
  have hs0 := HSZ.out
  have HBW := Lib.hid (HB1.out.trans ((HB2.out.trans (hW2.mono HB2.out.size)).mono HB1.out.size))
  clear HO HB2 hW2
  generalize World.alloc w2 _ = W2 at *
  generalize w1.heap.size = bi at *
  generalize w2.heap.size = b6 at *
  have C6 := Lib.hid c6
  have HZ2 := Lib.hid hz2
  have HT : Hid (w.heap.size < bi ∧ bi < b6 ∧ b6 < W2.heap.size) := ⟨by omega, by omega, by omega⟩
  clear c6 hz2 hlt1 hs1 hs0 p0 p1
  go_wp2
  go_loopw [18] (fun i wr => ∃ k : Nat, k ≤ l.length ∧ i = .int .i64 k ∧ OwnB wr bi (.slice (some ⟨bi, 0, none⟩) nn nn) (mark0 nn (l.take k)) ∧ Kept (fun j => j = bi) W2 wr) (fun i _ => l.length - (intOf i).toNat)
  case atStart => exact ⟨0, Nat.zero_le _, rfl, HO2.out, Kept.refl _ _⟩
  case round =>
    obtain ⟨k, hk, rfl, ho, hkp⟩ := hrel
    have HO := Lib.hid ho
    have HK := Lib.hid hkp
    clear ho hkp
    by_cases hlt : k < l.length
    · obtain ⟨b, off, rfl, hb, hc0⟩ := HL1.out.cellY hlt
      have hbT : b < w.heap.size + 1 := by rw [← HSZ.out]; exact hb
      have hc := (HK.out.cell (p := ⟨b, off + k, none⟩) (by show b < _; have := HT.out; omega) (by show ¬ b = bi; have := HT.out; omega)).trans ((HBW.out.cell (p := ⟨b, off + k, none⟩) hb).trans hc0)
      have c6 := (HK.out.cell (p := ⟨b6, 0, none⟩) (by have := HT.out; exact this.2.2) (by show ¬ b6 = bi; have := HT.out; omega)).trans C6.out
      have hx := HEL.out _ (ints_getD_mem hlt)
      have HST := Lib.hid (mark0_step nn l k hlt)
      have HKL := Lib.hid hlt
      clear hc0 hlt
      generalize l.getD k 0 = x at *
      obtain ⟨hx0, hx1⟩ := hx
      obtain ⟨q, hq⟩ : ∃ q : Nat, x / 2 = (q : Int) := ⟨(x / 2).toNat, by omega⟩
      have hqn : q < (mark0 nn (l.take k)).length := by rw [mark0_len]; omega
      have hq0 : (0 : Int) ≤ (q : Int) := by omega
      have hq1 : (q : Int) < (nn : Int) := by omega
      have m0 := HO.out.cell q hqn
      have m1 := HO.out.frozen q
      have HO3 := Lib.hid (HO.out.store q true)
      have HK3 := Lib.hid (HK.out.trans (Kept.setCell wr ⟨bi, q, none⟩ (.bool true)))
      have HQ : Hid ((x / 2).toNat = q) := by show _ = _; rw [hq]; rfl
      clear hqn
      go_wp2
      go_roundw
      case rel => exact ⟨k + 1, HKL.out, by go_num, by rw [HST.out, HQ.out]; exact HO3.out, HK3.out⟩
      case measure => have := HKL.out; simp [intOf]; omega
    · obtain rfl : k = l.length := by omega
      rw [List.take_length] at HO
      clear hk HL1 HEL HN HL0
      have HTT := HT.out
      obtain ⟨r0, r1⟩ : BoxA wr w.heap.size (.slice ia I.length ic) (.slice aa A.length ac) := by
        obtain ⟨q0, q1⟩ := HBX.out.below HBW.out (by rw [HSZ.out]; omega)
        exact ⟨(HK.out.cell (p := ⟨w.heap.size, 0, none⟩) (by show w.heap.size < _; omega) (by show ¬ w.heap.size = bi; omega)).trans q0, (HK.out.cell (p := ⟨w.heap.size, 1, none⟩) (by show w.heap.size < _; omega) (by show ¬ w.heap.size = bi; omega)).trans q1⟩
      obtain ⟨kf, hkf⟩ : ∃ kf : Nat, 1 + I.length = kf := ⟨_, rfl⟩
      have hkI : (1 : Int) + (I.length : Int) = (kf : Int) := by omega
      have HRI := Lib.hid (fun X => (callsIn_wide (n := 7)).1 (backp_in 7 aa A.length ac X))
      clear HTT
      have hzr := HK.out.size
      go_upto_region 8 with fail
      have r1' : (wr.alloc (.cells #[.int .i64 (kf : Int)] 3)).cell? ⟨w.heap.size, 1, none⟩ = some (.slice aa A.length ac) := cell_old r1
      go_wp2_with (go_at_call 145; refine (HRI.out _).mono ?_; rintro e w4 ⟨rfl, rfl⟩)
      have HBX3 := Lib.hid (Boxed.new (wr.alloc (.cells #[.int .i64 (kf : Int)] 3)) 23 (.slice aa A.length ac))
      have HB93 := Lib.hid ((Boxed.new wr 3 (.int .i64 (kf : Int))).alloc (.cells #[.slice aa A.length ac] 23))
      have hk3 : Kept (fun j => j = bi) W2 ((wr.alloc (.cells #[.int .i64 (kf : Int)] 3)).alloc (.cells #[.slice aa A.length ac] 23)) := (HK.out.trans (Kept.alloc _ _ _)).trans (Kept.alloc _ _ _)
      have ho3 := (ownB_kept HO.out ((Kept.alloc (fun _ => False) wr (.cells #[.int .i64 (kf : Int)] 3)).trans (Kept.alloc (fun _ => False) _ (.cells #[.slice aa A.length ac] 23))) (fun _ _ h => h))
      have hz3 : ((wr.alloc (.cells #[.int .i64 (kf : Int)] 3)).alloc (.cells #[.slice aa A.length ac] 23)).heap.size = wr.heap.size + 2 := by simp
      have HBX3' := HBX3.out
      rw [World.size_alloc] at HBX3'
      have HBXX := Lib.hid HBX3'
      clear HBX3 HBX3' r0 r1 r1'
      generalize (wr.alloc (.cells #[.int .i64 (kf : Int)] 3)).alloc (.cells #[.slice aa A.length ac] 23) = w3 at *
      have hsz3 : w3.heap.size = wr.heap.size + 2 := hz3
      generalize wr.heap.size = b9 at *
      have HK3 := Lib.hid hk3
      have HO3 := Lib.hid ho3
      have HTT := HT.out
      have HBE : Hid (Below w.heap.size w w3) := (HB0.out.trans (HBW.out.mono HB0.out.size)).trans (HK3.out.below (by omega) (fun k hk e => by omega))
      clear hk3 ho3 hz3 HK HO HRI
      refine (wpIn_wide (n := 8)).1 ?_
      have fB : Fence.wide.fn 180 := trivial
      refine wpIn_rangeFunc_ownH rfl (by omega) (gf := 180) (lb := #[.pointer (some ⟨b9 + 1, 0, none⟩)]) rfl trivial (enters_of Tryz.func180 (by kernel_rfl) rfl)
        (backp_stops 7 (by omega) (b9 + 1) w w3 _ A HA0.out HBE.out (by omega) HBXX.out.cell) (fun h k => ⟨h.1.trans k.1, k.2.trans h.2⟩)
        (fun W1 l1 o o' hl1 h _ _ => ⟨(Below.refl _ W1).grown (grownBy_putObj' W1 l1 o') (by have := (Array.getElem?_eq_some_iff.1 h).1; omega) (fun k e => by cases e; omega), World.putObj_heap_other (by omega)⟩) (Below.refl _ _) (fun _ => rfl)
        (fun pre W1 => OwnB W1 bi (.slice (some ⟨bi, 0, none⟩) nn nn) (marksP kf A (mark0 nn l) pre) ∧ Kept (fun j => j = bi) w3 W1)
        (fun _ _ _ => False)
        (fun s A1 B1 row hs hg hr => by
          obtain ⟨h1, h2⟩ := hs
          have hne : ∀ B', B' < w3.heap.size → row ≠ some B' := fun B' hB' e => by have := (hr _ e).1; omega
          exact ⟨World.ownsRow.kept h1 hg (.inr (fun e => hne bi (by omega) e.symm)), ⟨hg.os.trans h2.os, hg.tape.trans h2.tape, hg.output.trans h2.output, Nat.le_trans h2.size hg.size, fun k hk hS => (hg.block k (Nat.lt_of_lt_of_le hk h2.size) (fun e => hne k hk e.symm)).trans (h2.block k hk hS)⟩⟩)
        (fun _ _ _ _ _ hs _ _ => hs)
        ⟨HO3.out, Kept.refl _ _⟩
        (fun e a' W1 => ∃ Bx, w3.heap.size ≤ Bx ∧ W1.heap[Bx]? = some (.cells #[.int .i64 (A.getD e.1 dPr).1, .int .i64 (A.getD e.1 dPr).2] 115 (0, 0)) ∧
          a' = { tmps := #[.agg #[.slice ia I.length ic, .slice aa A.length ac], .slice la l.length lc, .pointer (some ⟨w.heap.size, 0, none⟩), undef, .slice none 0 0, .slice none 0 0, .pointer (some ⟨b6, 0, none⟩), undef, u8, .pointer (some ⟨b9, 0, none⟩), .int .i64 (e.1 : Int), .pointer (some ⟨Bx, 0, none⟩), undef, .agg #[.slice ia I.length ic, .slice aa A.length ac], .int .i64 (nn : Int), .slice (some ⟨bi, 0, none⟩) nn nn, .slice la l.length lc, .int .i64 (l.length : Int), .int .i64 (l.length : Int), .bool false, u20, u21, u22, u23, u24, u25, u26, .pointer (some ⟨w.heap.size, 0, none⟩), .slice ia I.length ic, .int .i64 (I.length : Int), .int .i64 (kf : Int), .pointer (some ⟨w.heap.size, 1, none⟩), .slice aa A.length ac, .func (.func 180) #[] #[.pointer (some ⟨b9 + 1, 0, none⟩)], .int .i64 (e.1 : Int), .agg #[.int .i64 (A.getD e.1 dPr).1, .int .i64 (A.getD e.1 dPr).2], undef, undef, undef, undef, undef, undef, undef, undef, undef, undef, undef, undef, undef, undef, undef, undef, undef, undef, undef, undef, undef, undef, undef, undef, undef, undef, undef, undef, undef, undef, undef, undef, undef, undef, undef, undef, undef, undef, undef, undef, undef, undef, undef, undef, undef, undef, undef], defers := [] })
        (fun e a' s A1 B1 row hs hg hr => by
          obtain ⟨Bx, h1, h2, h3⟩ := hs
          refine ⟨Bx, h1, (hg.block Bx (Array.getElem?_eq_some_iff.1 h2).1 (fun e1 => ?_)).trans h2, h3⟩
          obtain ⟨o, ho, hc⟩ := (hr _ e1.symm).2
          rw [h2] at ho
          cases ho
          cases hc) ?assign ?body ?done ?stop
      case assign =>
        rintro lp pre ⟨i, hi⟩ W6 K ⟨h1, h2⟩ hK
        obtain ⟨y, hy⟩ : ∃ y, A.getD i dPr = y := ⟨_, rfl⟩
        have he : encPE (A := A) ⟨i, hi⟩ = #[.int .i64 (i : Int), .agg #[.int .i64 y.1, .int .i64 y.2]] := by unfold encPE; rw [hy]
        rw [he]
        simp only at hK
        rw [hy] at hK
        clear he
        have HY := Lib.hid hy
        clear hy
        obtain ⟨y1, y2⟩ := y
        simp only at hK ⊢
        have HAL := Lib.hid (below_alloc1 W6 (.cells #[.int .i64 y1, .int .i64 y2] 115))
        have HK := Lib.hid hK
        have A1 := Lib.hid h1
        have A2 := Lib.hid h2
        clear hK h1 h2
        gi_wp2
        refine HK.out _ _ ((KeepsOthers.alloc _ _).from _) ⟨HAL.out.mono (by have := A2.out.size; omega), HAL.out.block (b9 + 1) (by have := A2.out.size; omega)⟩ ?_ ⟨W6.heap.size, A2.out.size, World.alloc_heap_new _ _, rfl⟩
        exact ⟨ownB_below A1.out HAL.out (Nat.le_refl _), A2.out.trans (Kept.alloc _ _ _)⟩
      case body =>
        rintro lp pre ⟨i, hi⟩ a' W6 hl ⟨r, hlr⟩ ⟨h1, h2⟩ ⟨Bx, hBx, hcX, rfl⟩ hlen
        simp only at hi hcX ⊢
        have x0 : W6.cell? ⟨Bx, 0, none⟩ = some (.int .i64 (A.getD i dPr).1) := by simp [World.cell?, hcX]
        have x1 : W6.cell? ⟨Bx, 1, none⟩ = some (.int .i64 (A.getD i dPr).2) := by simp [World.cell?, hcX]
        have y6 : W6.cell? ⟨b6, 0, none⟩ = some (.slice (some ⟨bi, 0, none⟩) nn nn) := (h2.cell (p := ⟨b6, 0, none⟩) (by show b6 < _; omega) (by show ¬ b6 = bi; omega)).trans ((HK3.out.cell (p := ⟨b6, 0, none⟩) (by show b6 < _; omega) (by show ¬ b6 = bi; omega)).trans C6.out)
        have y9 : W6.cell? ⟨b9, 0, none⟩ = some (.int .i64 (kf : Int)) := (h2.cell (p := ⟨b9, 0, none⟩) (by show b9 < _; omega) (by show ¬ b9 = bi; omega)).trans HB93.out.cell
        obtain ⟨j, hj⟩ : ∃ j : Nat, kf + i = j := ⟨_, rfl⟩
        have hij : (kf : Int) + (i : Int) = (j : Int) := by omega
        have hjn : j < nn := by have := HNN.out; omega
        have HPN : Hid (marksP kf A (mark0 nn l) (pre ++ [(⟨i, hi⟩ : PE A)]) = stepA kf A (marksP kf A (mark0 nn l) pre) i) := marksP_snoc _ _ _ _ _
        have hml : (marksP kf A (mark0 nn l) pre).length = nn := by rw [marksP_len, mark0_len]
        have hok := okUpto_all.1 HOK.out i hi
        have HST : Hid (stepA kf A (marksP kf A (mark0 nn l) pre) i = if (marksP kf A (mark0 nn l) pre).getD j false = true then ((marksP kf A (mark0 nn l) pre).set ((A.getD i dPr).1 / 2).toNat true).set ((A.getD i dPr).2 / 2).toNat true else marksP kf A (mark0 nn l) pre) := by show _ = _; rw [← hj]; rfl
        unfold okPair at hok
        rw [Bool.and_eq_true, isE_true, isE_true] at hok
        obtain ⟨mn, hmn⟩ : ∃ mn, marksP kf A (mark0 nn l) (pre ++ [(⟨i, hi⟩ : PE A)]) = mn := ⟨_, rfl⟩
        rw [hmn] at HPN
        have HMN := Lib.hid hmn
        clear hmn
        generalize marksP kf A (mark0 nn l) pre = mp at *
        have ho := h1
        have j0 := ho.cell j (by omega)
        have HO6 := Lib.hid ho
        have HK6 := Lib.hid h2
        have HCX := Lib.hid hcX
        have HML := Lib.hid hml
        have HJJ := Lib.hid hj
        have hj0 : (0 : Int) ≤ (j : Int) := by omega
        have hj1 : (j : Int) < (nn : Int) := by omega
        clear h1 h2 hcX ho hml hj hlen hlr
        generalize A.getD i dPr = y at *
        obtain ⟨a1, a2⟩ := y
        simp only at x0 x1 hok HST HCX
        refine wpIn_mono (Q := bodyFinA (fun W1 => KeepsFrom w3.heap.size W6 W1 ∧ KpB w.heap.size (b9 + 1) W6 W1 ∧ OwnB W1 bi (.slice (some ⟨bi, 0, none⟩) nn nn) mn ∧ Kept (fun j => j = bi) w3 W1)) ?_ ?fin
        case fin =>
          intro e a3 W3 hp
          cases e with
          | normal => exact ⟨hp.1, hp.2.1, by rw [HMN.out]; exact hp.2.2.1, hp.2.2.2⟩
          | _ => exact hp.elim
        cases ht : mp.getD j false with
        | false =>
          rw [ht] at j0 HST
          have HE : Hid (mn = mp) := by show _ = _; rw [HPN.out, HST.out]; rfl
          gi_wp2
          exact ⟨KeepsFrom.refl _ _, ⟨Below.refl _ _, rfl⟩, by rw [HE.out]; exact HO6.out, HK6.out⟩
        | true =>
          rw [ht] at j0 HST
          have HE : Hid (mn = (mp.set (a1 / 2).toNat true).set (a2 / 2).toNat true) := by show _ = _; rw [HPN.out, HST.out]; rfl
          clear HST HPN ht
          obtain ⟨⟨u0, u1⟩, v0, v1⟩ := hok
          obtain ⟨q1, hq1⟩ : ∃ q : Nat, a1 / 2 = (q : Int) := ⟨(a1 / 2).toNat, by omega⟩
          obtain ⟨q2, hq2⟩ : ∃ q : Nat, a2 / 2 = (q : Int) := ⟨(a2 / 2).toNat, by omega⟩
          have n1 : q1 < mp.length := by have := HML.out; have := HNN.out; omega
          have n2 : q2 < mp.length := by have := HML.out; have := HNN.out; omega
          have hq10 : (0 : Int) ≤ (q1 : Int) := by omega
          have hq11 : (q1 : Int) < (nn : Int) := by have := HML.out; omega
          have hq20 : (0 : Int) ≤ (q2 : Int) := by omega
          have hq21 : (q2 : Int) < (nn : Int) := by have := HML.out; omega
          have k1 := HO6.out.cell q1 n1
          have f1 := HO6.out.frozen q1
          have hs1 := HO6.out.store q1 true
          have k2 := hs1.cell q2 (by rw [List.length_set]; exact n2)
          have f2 := hs1.frozen q2
          have HS2 := Lib.hid (hs1.store q2 true)
          have HQ1 : Hid ((a1 / 2).toNat = q1) := by show _ = _; rw [hq1]; rfl
          have HQ2 : Hid ((a2 / 2).toNat = q2) := by show _ = _; rw [hq2]; rfl
          have hw1 := tdiv_two u0 hq1 (by omega)
          have hw2 := tdiv_two v0 hq2 (by omega)
          clear hs1 n1 n2 u1 v1
          have ne6 : ¬ bi = b6 := by omega
          have neX : ¬ bi = Bx := by omega
          have hmo : Tryz.prog.follows .mixedOrders = true := by kernel_rfl
          gi_wp2_with fail
          refine wpIn_region_heldP (Kept (fun j => j = bi) W6) hmo (by kernel_rfl) (fun ⟨_, _, h⟩ => h) ?_
          have hSw : Kept (fun j => j = bi) W6 W6.drew := ⟨rfl, rfl, rfl, Nat.le_refl _, fun _ _ _ => rfl⟩
          refine takeC (i := 0) (v := .slice (some ⟨bi, 0, none⟩) nn nn) (some 42) rfl rfl (by kernel_rfl) (by kernel_rfl) (by kernel_rfl) (fun _ _ _ h => h) (Or.inl ⟨by rfl, ?_⟩) (by assumption) ?_
          · intro wz hSw; have t6 := (hSw.cell (p := ⟨b6, 0, none⟩) (by have := HK6.out.size; show b6 < _; omega) (by show ¬ b6 = bi; omega)).trans y6; go_simp
          try simp only [Act.put, List.setIfInBounds_toArray, List.set_cons_zero, List.set_cons_succ]
          refine takeC (i := 1) (v := .pointer (some ⟨Bx, 0, none⟩)) (some 43) rfl rfl (by kernel_rfl) (by kernel_rfl) (by kernel_rfl) (fun _ _ _ h => h) (Or.inl ⟨by rfl, ?_⟩) (by assumption) ?_
          · intro wz hSw; go_simp
          try simp only [Act.put, List.setIfInBounds_toArray, List.set_cons_zero, List.set_cons_succ]
          refine takeC (i := 2) (v := .int .i64 a1) (some 44) rfl rfl (by kernel_rfl) (by kernel_rfl) (by kernel_rfl) (fun _ _ _ h => h) (Or.inl ⟨by rfl, ?_⟩) (by assumption) ?_
          · intro wz hSw; have t0 := (hSw.cell (p := ⟨Bx, 0, none⟩) (World.block_lt_of_cell? _ _ x0) (by show ¬ Bx = bi; omega)).trans x0; go_simp
          try simp only [Act.put, List.setIfInBounds_toArray, List.set_cons_zero, List.set_cons_succ]
          refine takeC (i := 3) (v := .int .i64 (q1 : Int)) (some 45) rfl rfl (by kernel_rfl) (by kernel_rfl) (by kernel_rfl) (fun _ _ _ h => h) (Or.inl ⟨by rfl, ?_⟩) (by assumption) ?_
          · intro wz hSw; go_simp
          try simp only [Act.put, List.setIfInBounds_toArray, List.set_cons_zero, List.set_cons_succ]
          refine takeC (i := 4) (v := .slice (some ⟨bi, 0, none⟩) nn nn) (some 46) rfl rfl (by kernel_rfl) (by kernel_rfl) (by kernel_rfl) (fun _ _ _ h => h) (Or.inl ⟨by rfl, ?_⟩) (by assumption) ?_
          · intro wz hSw; have t6 := (hSw.cell (p := ⟨b6, 0, none⟩) (by have := HK6.out.size; show b6 < _; omega) (by show ¬ b6 = bi; omega)).trans y6; go_simp
          try simp only [Act.put, List.setIfInBounds_toArray, List.set_cons_zero, List.set_cons_succ]
          refine takeC (i := 5) (v := .pointer (some ⟨Bx, 1, none⟩)) (some 47) rfl rfl (by kernel_rfl) (by kernel_rfl) (by kernel_rfl) (fun _ _ _ h => h) (Or.inl ⟨by rfl, ?_⟩) (by assumption) ?_
          · intro wz hSw; go_simp
          try simp only [Act.put, List.setIfInBounds_toArray, List.set_cons_zero, List.set_cons_succ]
          refine takeC (i := 6) (v := .int .i64 a2) (some 48) rfl rfl (by kernel_rfl) (by kernel_rfl) (by kernel_rfl) (fun _ _ _ h => h) (Or.inl ⟨by rfl, ?_⟩) (by assumption) ?_
          · intro wz hSw; have t1 := (hSw.cell (p := ⟨Bx, 1, none⟩) (World.block_lt_of_cell? _ _ x1) (by show ¬ Bx = bi; omega)).trans x1; go_simp
          try simp only [Act.put, List.setIfInBounds_toArray, List.set_cons_zero, List.set_cons_succ]
          refine takeC (i := 7) (v := .int .i64 (q2 : Int)) (some 49) rfl rfl (by kernel_rfl) (by kernel_rfl) (by kernel_rfl) (fun _ _ _ h => h) (Or.inl ⟨by rfl, ?_⟩) (by assumption) ?_
          · intro wz hSw; go_simp
          try simp only [Act.put, List.setIfInBounds_toArray, List.set_cons_zero, List.set_cons_succ]
          refine takeC (i := 8) (v := .pointer (some ⟨bi, q1, none⟩)) (some 50) rfl rfl (by kernel_rfl) (by kernel_rfl) (by kernel_rfl) (fun _ _ _ h => h) (Or.inl ⟨by rfl, ?_⟩) (by assumption) ?_
          · intro wz hSw; go_simp
          try simp only [Act.put, List.setIfInBounds_toArray, List.set_cons_zero, List.set_cons_succ]
          have hSd := hSw
          refine wpAnyH_ready (rs := [9]) (by kernel_rfl) (by simp) ?_
          refine AllReadyH.cons rfl (fun K hK => ?_) AllReadyH.nil
          go_simp
          have hS1 : Kept (fun j => j = bi) W6 ((W6.setCell ⟨bi, q1, none⟩ (.bool true)).drew) := hSw.trans (Kept.setCell W6.drew ⟨bi, q1, none⟩ (.bool true))
          refine hK.out _ _ hS1 (fun hH9 => ?_)
          clear hK K hSw k1 f1
          try simp only [Act.put, List.setIfInBounds_toArray, List.set_cons_zero, List.set_cons_succ]
          have ho1 : OwnB ((W6.setCell ⟨bi, q1, none⟩ (.bool true)).drew) bi (.slice (some ⟨bi, 0, none⟩) nn nn) (mp.set q1 true) := OwnB.store (show OwnB W6.drew bi _ mp from HO6.out) q1 true
          have k3 := ho1.cell q2 (by rw [List.length_set]; have := HML.out; omega)
          have f3 := ho1.frozen q2
          have HO7 := Lib.hid (ho1.store q2 true)
          have hS2 := hS1.trans (Kept.setCell ((W6.setCell ⟨bi, q1, none⟩ (.bool true)).drew) ⟨bi, q2, none⟩ (.bool true))
          have HS2 := Lib.hid hS2
          have HKO : Hid (KeepsOthers W6 (((W6.setCell ⟨bi, q1, none⟩ (.bool true)).drew).setCell ⟨bi, q2, none⟩ (.bool true))) := ((KeepsOthers.drew W6).trans (KeepsOthers.setCell _ _ _)).trans (KeepsOthers.setCell _ _ _)
          clear ho1 k2 f2 hS2
          generalize (W6.setCell ⟨bi, q1, none⟩ (.bool true)).drew = W7 at *
          have hSw := hS1
          refine takeC (i := 10) (v := .pointer (some ⟨bi, q2, none⟩)) (some 51) rfl rfl (by kernel_rfl) (by kernel_rfl) (by kernel_rfl) (fun _ _ _ h => h) (Or.inl ⟨by rfl, ?_⟩) (by assumption) ?_
          · intro wz hSw; go_simp
          try simp only [Act.put, List.setIfInBounds_toArray, List.set_cons_zero, List.set_cons_succ]
          refine wpAnyH_ready (rs := [11]) (by kernel_rfl) (by simp) ?_
          refine AllReadyH.cons rfl (fun K hK => ?_) AllReadyH.nil
          go_simp
          refine hK.out _ _ HS2.out (fun hH11 => ?_)
          clear hK K
          try simp only [Act.put, List.setIfInBounds_toArray, List.set_cons_zero, List.set_cons_succ]
          refine wpAnyH_done (by kernel_rfl) ?_ _
          have hs6 := HK6.out.size
          gi_wp2
          exact ⟨HKO.out.from _, ⟨HS2.out.below (by omega) (fun k hk e => by omega), HS2.out.block (b9 + 1) (by omega) (by omega)⟩, by rw [HE.out, HQ1.out, HQ2.out]; exact HO7.out, HK6.out.trans HS2.out⟩
      case done =>
        rintro D ys W6 hD hys ⟨h1, h2⟩ hK
        have hmr : marksP kf A (mark0 nn l) ys = reachA kf A l := by
          unfold marksP reachA
          rw [hys, ← backA_down, HNN.out.symm, ← hkf]
        rw [hmr] at h1
        have HO := Lib.hid h1
        have HK6 := Lib.hid h2
        have y6 : W6.cell? ⟨b6, 0, none⟩ = some (.slice (some ⟨bi, 0, none⟩) nn nn) := (h2.cell (p := ⟨b6, 0, none⟩) (by show b6 < _; omega) (by show ¬ b6 = bi; omega)).trans ((HK3.out.cell (p := ⟨b6, 0, none⟩) (by show b6 < _; omega) (by show ¬ b6 = bi; omega)).trans C6.out)
        have y9 : W6.cell? ⟨b9, 0, none⟩ = some (.int .i64 (kf : Int)) := (h2.cell (p := ⟨b9, 0, none⟩) (by show b9 < _; omega) (by show ¬ b9 = bi; omega)).trans HB93.out.cell
        have HML : Hid ((reachA kf A l).length = nn) := by show _ = _; rw [reachA_len, ← HNN.out, hkf]
        have hsz6 := h2.size
        have hkn : kf + A.length = nn := by have := HNN.out; omega
        have HBT : Hid (Below w.heap.size w W6) := HBE.out.trans (h2.below (by omega) (fun k hk e => by omega))
        obtain ⟨m, hm⟩ : ∃ m, reachA kf A l = m := ⟨_, rfl⟩
        rw [hm] at HO HML
        have HMR := Lib.hid hm
        clear hm hmr h1 h2 hys
        go_wp2
        go_loopw [4, 5, 12] (fun u v i wr => ∃ n : Nat, 1 ≤ n ∧ n ≤ nn ∧ i = .int .i64 n ∧ Own wr W6.heap.size u (onN m 1 (min (n - 1) I.length)) ∧ Own wr W6.heap.size v (onN m kf (n - kf)) ∧ (∀ g, u.ownBlock = some g → v.ownBlock ≠ some g) ∧ Below W6.heap.size W6 wr) (fun _ _ i _ => nn - (intOf i).toNat)
        case atStart => exact ⟨1, Nat.le_refl _, by omega, by go_num, Own.nil _ _, by rw [show 1 - kf = 0 from by omega]; exact Own.nil _ _, fun g hg => by simp [Value.ownBlock] at hg, Below.refl _ _⟩
        case round =>
          clear y6 y9
          obtain ⟨n, hn1, hnn, rfl, hu, hv, hdis, hbel⟩ := hrel
          have HU := Lib.hid hu
          have HV := Lib.hid hv
          have HD := Lib.hid hdis
          have HB := Lib.hid hbel
          have hszr := hbel.size
          have r6 := (hbel.cell (p := ⟨b6, 0, none⟩) (by show b6 < _; omega)).trans ((HK6.out.cell (p := ⟨b6, 0, none⟩) (by show b6 < _; omega) (by show ¬ b6 = bi; omega)).trans ((HK3.out.cell (p := ⟨b6, 0, none⟩) (by show b6 < _; omega) (by show ¬ b6 = bi; omega)).trans C6.out))
          have r9 := (hbel.cell (p := ⟨b9, 0, none⟩) (by show b9 < _; omega)).trans ((HK6.out.cell (p := ⟨b9, 0, none⟩) (by show b9 < _; omega) (by show ¬ b9 = bi; omega)).trans HB93.out.cell)
          clear hu hv hdis hbel
          by_cases hlt : n < nn
          · have hi0 : (0 : Int) ≤ (n : Int) := by omega
            have hi1 : (n : Int) < (nn : Int) := by omega
            have hbi6 := HO.out.lt1
            have cn := (HB.out.cell (p := ⟨bi, n, none⟩) (by show bi < _; exact hbi6)).trans (HO.out.cell n (by have := HML.out; omega))
            have HS1 := Lib.hid (insN_step (m := m) (k := I.length) hn1)
            have HS2 := Lib.hid (andN_step (m := m) (k := kf) (n := n))
            have hl1 : (onN m 1 (min (n - 1) I.length)).length ≤ 4000000 := Nat.le_trans (onN_len _ _ _) (by omega)
            have hl2 : (onN m kf (n - kf)).length ≤ 8000001 := Nat.le_trans (onN_len _ _ _) (by omega)
            have HL1 := Lib.hid hl1
            have HL2 := Lib.hid hl2
            have HLT := Lib.hid hlt
            have HKF := Lib.hid hkf
            clear hl1 hl2 hlt hkf
            cases ht : m.getD n false with
            | false =>
              rw [ht] at cn HS1 HS2
              have E1 : Hid (onN m 1 (min n I.length) = onN m 1 (min (n - 1) I.length)) := by show _ = _; rw [HS1.out]; simp
              have E2 : Hid (onN m kf (n + 1 - kf) = onN m kf (n - kf)) := by show _ = _; rw [HS2.out]; simp
              clear HS1 HS2 ht
              go_wp2
              go_roundw
              case rel => exact ⟨n + 1, by omega, HLT.out, by go_num, by rw [show n + 1 - 1 = n from rfl, E1.out]; exact HU.out, by rw [E2.out]; exact HV.out, HD.out, HB.out⟩
              case measure => have := HLT.out; simp [intOf]; omega
            | true =>
              rw [ht] at cn HS1 HS2
              by_cases hk : n < kf
              · have hkd : (n : Int) < (kf : Int) := by omega
                have E1 : Hid (onN m 1 (min n I.length) = onN m 1 (min (n - 1) I.length) ++ [(n : Int)]) := by show _ = _; rw [HS1.out, if_pos ⟨by have := HKF.out; omega, rfl⟩]
                have E2 : Hid (onN m kf (n + 1 - kf) = onN m kf (n - kf)) := by show _ = _; rw [HS2.out, if_neg (fun z => absurd z.1 (by omega)), List.append_nil]
                clear HS1 HS2 ht hk
                go_wp2_with (at_builtin; refine wpList_app1A rfl _ _ rfl W6.heap.size _ _ (n : Int) wr.heap.size rfl rfl (HU.out.alloc _) (cell_fresh rfl) (by have := HL1.out; omega) (by simp; omega) ?_; intro u' w' ho' hg' hloc; have HO' := Lib.hid ho'; have HG' := Lib.hid hg'; have HLO := Lib.hid hloc; clear ho' hg' hloc)
                go_roundw
                case rel => exact ⟨n + 1, by omega, HLT.out, by go_num, by rw [show n + 1 - 1 = n from rfl, E1.out]; exact HO'.out, by rw [E2.out]; exact own_other HU.out HV.out HD.out HG'.out, own_apart HU.out HV.out HD.out HLO.out, (HB.out.alloc HB.out.size _).grown HG'.out (by simp; omega) (fun k e => (HU.out.lt k e).1)⟩
                case measure => have := HLT.out; simp [intOf]; omega
              · have hkd : decide ((n : Int) < (kf : Int)) = false := by rw [decide_eq_false_iff_not]; omega
                have hkd2 : ¬ (n : Int) < (kf : Int) := by omega
                have E1 : Hid (onN m 1 (min n I.length) = onN m 1 (min (n - 1) I.length)) := by show _ = _; rw [HS1.out, if_neg (fun z => absurd z.1 (by have := HKF.out; omega)), List.append_nil]
                have E2 : Hid (onN m kf (n + 1 - kf) = onN m kf (n - kf) ++ [(n : Int)]) := by show _ = _; rw [HS2.out, if_pos ⟨by omega, rfl⟩]
                clear HS1 HS2 ht hk
                go_wp2_with (at_builtin; refine wpList_app1A rfl _ _ rfl W6.heap.size _ _ (n : Int) wr.heap.size rfl rfl (HV.out.alloc _) (cell_fresh rfl) (by have := HL2.out; omega) (by simp; omega) ?_; intro u' w' ho' hg' hloc; have HO' := Lib.hid ho'; have HG' := Lib.hid hg'; have HLO := Lib.hid hloc; clear ho' hg' hloc)
                go_roundw
                case rel => exact ⟨n + 1, by omega, HLT.out, by go_num, by rw [show n + 1 - 1 = n from rfl, E1.out]; exact own_other HV.out HU.out (fun g h1 h2 => HD.out g h2 h1) HG'.out, by rw [E2.out]; exact HO'.out, fun g h1 h2 => own_apart HV.out HU.out (fun g h1 h2 => HD.out g h2 h1) HLO.out g h2 h1, (HB.out.alloc HB.out.size _).grown HG'.out (by simp; omega) (fun k e => (HV.out.lt k e).1)⟩
                case measure => have := HLT.out; simp [intOf]; omega
          · obtain rfl : n = nn := by omega
            have E1 : Hid (onN m 1 (min (n - 1) I.length) = onN m 1 I.length) := by show _ = _; rw [show min (n - 1) I.length = I.length from by omega]
            have E2 : Hid (onN m kf (n - kf) = onN m kf A.length) := by show _ = _; rw [show n - kf = A.length from by omega]
            rw [E1.out] at HU
            rw [E2.out] at HV
            have hDl : D < W6.heap.size := (Array.getElem?_eq_some_iff.1 hK).1
            have hKr : wr.heap[D]? = some (.deferred (some [])) := (HB.out.block D hDl).trans hK
            have HBF : Hid (Below w.heap.size w wr) := HBT.out.trans (HB.out.mono HBT.out.size)
            have HDD := Lib.hid hDl
            have HKR := Lib.hid hKr
            have HKK := Lib.hid hkf
            have hww := HBT.out.size
            have hD2 : w.heap.size ≤ D := by omega
            have HD2 := Lib.hid hD2
            have HWW := Lib.hid hww
            clear hDl hKr hK r9 hkf hD2 hww
            go_wp2
            refine ⟨by simp, .inl ⟨_, _, rfl, run_takeDeferred HKR.out, ?_⟩⟩
            refine ⟨_, results_tmp2 rfl _ _ _, _, _, rfl, ?_, ?_, ?_⟩
            · rw [HKK.out, HMR.out]
              exact ((HU.out.kept (grownBy_putObj' wr D _) (.inr (fun e => by have := (HU.out.lt D e).1; have := HDD.out; omega))).mono HWW.out)
            · rw [HKK.out, HMR.out]
              exact ((HV.out.kept (grownBy_putObj' wr D _) (.inr (fun e => by have := (HV.out.lt D e).1; have := HDD.out; omega))).mono HWW.out)
            · exact HBF.out.grown (grownBy_putObj' wr D _) HBF.out.size (fun k e => by cases e; exact HD2.out)
      case stop =>
        rintro D c pre W6 hD hpre h
        exact h.elim
end Go.Proofs.YtppglbffmgnooaaGreat

/- aig.Size, Support, Same. -/
namespace Go.Proofs.YtppglbffmgnooaaGreat
open Go.RowKit
set_option linter.unusedVariables false
set_option linter.unusedSimpArgs false

def sizeA (I : List Int) (A : List Pr) (l : List Int) : Nat × Int := if hasA I A l = true then ((onN (reachA (1 + I.length) A l) (1 + I.length) A.length).length, 0) else (0, 2)
def supportA (I : List Int) (A : List Pr) (x : Int) : List Int × Int := if hasA I A [x] = true then (supA I (reachA (1 + I.length) A [x]), 0) else ([], 2)
theorem hasA_parts {I : List Int} {A : List Pr} {l : List Int} (h : hasA I A l = true) : mayA I A = true ∧ okUpto (1 + I.length) A A.length = true ∧ edgesB l (1 + I.length + A.length) = true := by
  unfold hasA at h
  rw [Bool.and_eq_true] at h
  exact ⟨h.1, (mayA_parts h.1).2.2, h.2⟩

end Go.Proofs.YtppglbffmgnooaaGreat
